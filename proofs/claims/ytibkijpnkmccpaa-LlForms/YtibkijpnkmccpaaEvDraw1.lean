/- Statements whose order is open: what the plan of such a one gives. -/
import Derived.Test.YtibkijpnkmccpaaEvSeq
set_option linter.unusedVariables false
set_option linter.unusedSimpArgs false
namespace Go.Ev
open Go.Deep Go.RowKit

theorem memN_iff {i : Nat} : ∀ {l : List Nat}, memN i l = true ↔ i ∈ l
  | [] => by simp [memN]
  | j :: l => by
    simp only [memN, Bool.or_eq_true, List.mem_cons, memN_iff (l := l)]
    exact ⟨fun h => h.imp Nat.eq_of_beq_eq_true id, fun h => h.imp (fun e => by rw [e]; simp) id⟩

theorem subN_mem {l m : List Nat} (h : subN l m = true) {i : Nat} (hi : i ∈ l) : i ∈ m := by
  unfold subN at h
  rw [List.all_eq_true] at h
  exact memN_iff.1 (h i hi)

theorem eqS0_eq {u v : Value} (h : eqS0 u v = true) : u = v := by
  unfold eqS0 at h
  split at h
  · rw [eq_of_beq h]
  · simp only [Bool.and_eq_true, decide_eq_true_eq] at h
    rw [h.1, h.2]
  · have := of_decide_eq_true h
    rename_i a b
    congr 1
    cases a; cases b
    simp only at this
    congr 1
    exact Array.toList_inj.1 this
  · rfl
  · rw [of_decide_eq_true h]
  · simp only [Bool.and_eq_true] at h
    rw [Nat.eq_of_beq_eq_true h.1, Nat.eq_of_beq_eq_true h.2]
  · simp only [Bool.and_eq_true, decide_eq_true_eq] at h
    rw [h.1.1, Nat.eq_of_beq_eq_true h.1.2, Nat.eq_of_beq_eq_true h.2]
  · rfl
  · rfl
  · rfl
  · rw [Nat.eq_of_beq_eq_true h]
  · cases h

theorem eqL0_eq : ∀ {u v : List Value}, eqL0 u v = true → u = v
  | [], [], _ => rfl
  | a :: x, b :: y, h => by
    simp only [eqL0, Bool.and_eq_true] at h
    rw [eqS0_eq h.1, eqL0_eq h.2]
  | [], _ :: _, h => by simp [eqL0] at h
  | _ :: _, [], h => by simp [eqL0] at h

theorem eqV0_eq {u v : Value} (h : eqV0 u v = true) : u = v := by
  unfold eqV0 at h
  split at h
  · rename_i a b
    congr 1
    exact Array.toList_inj.1 (eqL0_eq h)
  · exact eqS0_eq h

theorem eqLV0_eq : ∀ {u v : List Value}, eqLV0 u v = true → u = v
  | [], [], _ => rfl
  | a :: x, b :: y, h => by
    simp only [eqLV0, Bool.and_eq_true] at h
    rw [eqV0_eq h.1, eqLV0_eq h.2]
  | [], _ :: _, h => by simp [eqLV0] at h
  | _ :: _, [], h => by simp [eqLV0] at h

theorem eqS_eq {u v : Value} (h : eqS u v = true) : u = v := by
  unfold eqS at h
  split at h
  · rename_i f a b g c d
    simp only [Bool.and_eq_true] at h
    have e1 : f = g := Nat.eq_of_beq_eq_true h.1.1
    rw [e1, Array.toList_inj.1 (eqLV0_eq h.1.2), Array.toList_inj.1 (eqLV0_eq h.2)]
  · exact eqS0_eq h

theorem eqL_eq : ∀ {u v : List Value}, eqL u v = true → u = v
  | [], [], _ => rfl
  | a :: x, b :: y, h => by
    simp only [eqL, Bool.and_eq_true] at h
    rw [eqS_eq h.1, eqL_eq h.2]
  | [], _ :: _, h => by simp [eqL] at h
  | _ :: _, [], h => by simp [eqL] at h

theorem eqV_eq {u v : Value} (h : eqV u v = true) : u = v := by
  unfold eqV at h
  split at h
  · rename_i a b
    congr 1
    exact Array.toList_inj.1 (eqL_eq h)
  · exact eqS_eq h

/-- An operation that makes nothing leaves named memory as it is. -/
theorem sil_same {E : Env} {call : Nat → List Value → Hp → Option (Value × Hp)} {nm : Nat} {o : Oper} {T : Tm} {h h' : Hp} {v : Value} (hs : silB o.op = true) (hn : nm < h.nxt) (hx : xop E call nm o T h = some (v, h')) : h' = h := by
  have plain : ∀ {v h'}, xplain E o (opv T) h = some (v, h') → h' = h := by
    intro v h' hp
    unfold xplain at hp
    split at hp
    · cases hp
    · rename_i vs _
      cases hq : allPlainA vs <;> simp only [hq, cond_true, cond_false, reduceCtorEq] at hp
      split at hp
      · rename_i u _
        cases hq2 : isPlain u <;> simp [hq2] at hp
        exact hp.2.symm
      · cases hp
  unfold xop xopR at hx
  split at hx <;> rename_i ho <;> (try (rw [ho] at hs; simp [silB] at hs; done))
  · unfold xMove at hx
    obtain ⟨u, _, k⟩ := ob_some hx; cases k; rfl
  · unfold xMove at hx
    obtain ⟨u, _, k⟩ := ob_some hx; cases k; rfl
  · unfold xPick at hx
    split at hx
    · obtain ⟨u, _, k⟩ := ob_some hx; cases k; rfl
    · obtain ⟨u, _, k⟩ := ob_some hx; cases k; rfl
    · cases hx
  · unfold xBuild at hx
    obtain ⟨ti, _, k2⟩ := ob_some hx
    cases hk : Nat.beq ti.kind 3 <;> simp only [hk, cond_true, cond_false] at k2
    · cases hk2 : Nat.beq ti.kind 2 <;> simp only [hk2, cond_true, cond_false, reduceCtorEq] at k2
      obtain ⟨_, _, k4⟩ := ob_some k2
      obtain ⟨_, _, k6⟩ := ob_some k4
      obtain ⟨_, _, k8⟩ := ob_some k6
      cases k8; rfl
    · obtain ⟨_, _, k6⟩ := ob_some k2
      obtain ⟨_, _, k8⟩ := ob_some k6
      cases k8; rfl
  · unfold xLoad at hx
    split at hx
    · obtain ⟨ti, _, k2⟩ := ob_some hx
      cases hk : ti.agg <;> simp only [hk, cond_true, cond_false] at k2
      · split at k2
        · cases k2; rfl
        · cases k2
      · obtain ⟨_, _, k8⟩ := ob_some k2
        cases k8; rfl
    · cases hx
  · unfold xNil at hx
    split at hx
    · cases hx; rfl
    · cases hx; rfl
    · cases hx
  · unfold xBin at hx
    split at hx
    · rename_i p q _ _
      split at hx
      · cases hx; rfl
      unfold xBinEq at hx
      cases hb : (plainA p && plainA q) <;> simp only [hb, cond_true, cond_false] at hx
      · obtain ⟨ti, _, k2⟩ := ob_some hx
        cases hk : nilKind ti.kind p <;> simp only [hk, cond_true, cond_false, reduceCtorEq] at k2
        split at k2
        · obtain ⟨_, _, k8⟩ := ob_some k2; cases k8; rfl
        · obtain ⟨_, _, k8⟩ := ob_some k2; cases k8; rfl
        · cases k2
      · exact plain hx
    · cases hx
  · unfold xUn at hx
    split at hx
    · cases hx; rfl
    · exact plain hx
  · unfold xConv at hx
    split at hx
    · rename_i s hop
      obtain ⟨ti, k1, k2⟩ := ob_some hx
      cases hq : Nat.beq ti.kind 1 <;> simp only [hq, cond_true, cond_false] at k2
      · exact plain k2
      · obtain ⟨ei, k3, k4⟩ := ob_some k2
        obtain ⟨si, k5, k6⟩ := ob_some k4
        cases hq2 : (Nat.beq ei.kind 6 && Nat.beq ei.size 1) <;> simp only [hq2, cond_true, cond_false, reduceCtorEq] at k6
        unfold xStrB at k6
        cases hq3 : (Nat.beq nm h.nxt && Nat.ble s.size 1000000) <;> simp only [hq3, cond_true, cond_false, reduceCtorEq] at k6
        simp only [Bool.and_eq_true] at hq3
        have := Nat.eq_of_beq_eq_true hq3.1
        omega
    · obtain ⟨ti, _, k2⟩ := ob_some hx
      obtain ⟨si, _, k4⟩ := ob_some k2
      obtain ⟨ei, _, k6⟩ := ob_some k4
      cases hq : (Nat.beq ti.kind 4 && Nat.beq si.kind 1 && Nat.beq ei.kind 6) <;> simp only [hq, cond_true, cond_false, reduceCtorEq] at k6
      obtain ⟨_, _, k8⟩ := ob_some k6
      obtain ⟨_, _, k9⟩ := ob_some k8
      cases k9; rfl
    · exact plain hx
    · cases hx
  · unfold xMkF at hx
    split at hx
    · rename_i g vs us h1 h2
      cases hq : (vs.all capOk && us.all capOk) <;> simp only [hq, cond_true, cond_false, reduceCtorEq] at hx
      cases hx; rfl
    · cases hx
  · unfold xSlc at hx
    split at hx
    · obtain ⟨ti, _, k2⟩ := ob_some hx
      obtain ⟨ei, _, k4⟩ := ob_some k2
      cases hk : Nat.beq ti.kind 1 <;> simp only [hk, cond_true, cond_false, reduceCtorEq] at k4
      split at k4
      · obtain ⟨_, _, k8⟩ := ob_some k4; cases k8; rfl
      · cases k4
    · rename_i mx _ ad _
      obtain ⟨ti, _, k2⟩ := ob_some hx
      obtain ⟨ei, _, k4⟩ := ob_some k2
      cases hk : (Nat.beq ti.kind 2 && ad.spot.isNone && mx.isNone) <;> simp only [hk, cond_true, cond_false, reduceCtorEq] at k4
      split at k4
      · split at k4
        · rename_i l u _ _
          cases hq : (Nat.ble l u && Nat.ble u ti.alen && Nat.blt ti.alen unkU) <;> simp only [hq, cond_true, cond_false, reduceCtorEq] at k4
          cases k4; rfl
        · cases k4
      · cases k4
    · exact plain hx
    · cases hx
  · unfold xField at hx
    split at hx
    · rename_i ad _
      obtain ⟨ti, _, k2⟩ := ob_some hx
      obtain ⟨fl, _, k4⟩ := ob_some k2
      cases hq : (Nat.beq ti.kind 3 && !(Nat.beq fl.2 0) && ad.spot.isNone) <;> simp only [hq, cond_true, cond_false, reduceCtorEq] at k4
      cases k4; rfl
    · cases hx
  · unfold xIdx at hx
    split at hx
    · rename_i ad len _ _ i _ _
      obtain ⟨ti, _, k2⟩ := ob_some hx
      obtain ⟨ei, _, k4⟩ := ob_some k2
      cases hq : (Nat.beq ti.kind 1 && decide (0 ≤ i) && decide (i < len) && ad.spot.isNone) <;> simp only [hq, cond_true, cond_false, reduceCtorEq] at k4
      cases k4; rfl
    · rename_i ad _ i _ _
      obtain ⟨ti, _, k2⟩ := ob_some hx
      obtain ⟨ei, _, k4⟩ := ob_some k2
      cases hq : (Nat.beq ti.kind 2 && decide (0 ≤ i) && decide (i < ti.alen) && ad.spot.isNone) <;> simp only [hq, cond_true, cond_false, reduceCtorEq] at k4
      cases k4; rfl
    · cases hx
  · exact plain hx
  · unfold xExtract at hx
    split at hx
    · obtain ⟨_, _, k8⟩ := ob_some hx; cases k8; rfl
    · cases hx
  · unfold xFldV at hx
    split at hx
    · obtain ⟨u, k1, k2⟩ := ob_some hx
      cases k2; rfl
    · cases hx
  · have lm : ∀ {mt es k ok}, xLookM E h mt es k ok = some (v, h') → h' = h := by
      intro mt es k ok hm
      unfold xLookM at hm
      cases hg : keyGood E.P es.isEmpty mt.alen k <;> simp only [hg, cond_true, cond_false, reduceCtorEq] at hm
      split at hm
      · rename_i u _
        cases hq : isTup u <;> simp only [hq, cond_true, cond_false, reduceCtorEq] at hm
        cases hm; rfl
      · split at hm
        · rename_i z _
          cases hq : plainA z <;> simp only [hq, cond_true, cond_false, reduceCtorEq] at hm
          cases hm; rfl
        · cases hm
      · cases hm
    unfold xLook at hx
    split at hx
    · obtain ⟨mt, _, k2⟩ := ob_some hx
      cases hq : Nat.beq mt.kind 10 <;> simp only [hq, cond_true, cond_false, reduceCtorEq] at k2
      exact lm k2
    · obtain ⟨mt, _, k2⟩ := ob_some hx
      cases hq : Nat.beq mt.kind 10 <;> simp only [hq, cond_true, cond_false, reduceCtorEq] at k2
      obtain ⟨es, _, k4⟩ := ob_some k2
      exact lm k4
    · cases hx
  · unfold xCall at hx
    rename_i c
    rw [ho] at hs
    simp only [silB] at hs
    split at hx
    · rename_i hc; rw [hc] at hs; simp at hs
    · rename_i b hc
      rw [hc] at hs
      simp only at hs
      unfold xCallB at hx
      split at hx
      · rename_i vs _
        split at hx
        · rename_i r hb
          have hx := hb.trans hx
          clear hb
          unfold xbuiltin at hx
          split at hx
          · split at hx
            · obtain ⟨ti, _, k2⟩ := ob_some hx
              cases hk : Nat.beq ti.kind 1 <;> simp only [hk, cond_true, cond_false, reduceCtorEq] at k2
              cases k2; rfl
            · cases hx
          · split at hx
            · obtain ⟨ti, _, k2⟩ := ob_some hx
              simp only [Bool.cond_eq_ite] at k2
              split at k2
              · cases k2; rfl
              · cases k2
            · cases hx
          · simp [plainB] at hs
          · simp [plainB] at hs
          · split at hx
            · obtain ⟨ti, _, k2⟩ := ob_some hx
              cases hk : Nat.beq ti.kind 4 <;> simp only [hk, cond_true, cond_false, reduceCtorEq] at k2
              cases k2; rfl
            · cases hx
          · cases hx; rfl
          · cases hx; rfl
          · cases hx
        · cases hq : (allPlain vs && plainB b) <;> simp only [hq, cond_true, cond_false, reduceCtorEq] at hx
          exact plain hx
      · cases hx
    · rename_i r name hc; rw [hc] at hs; simp at hs
  · unfold xMkI at hx
    obtain ⟨u, _, k2⟩ := ob_some hx
    obtain ⟨ti, _, k4⟩ := ob_some k2
    rename_i t x
    cases hq : (ifaOk u && Nat.ble 1 ti.kind) <;> simp only [hq, cond_true, cond_false, reduceCtorEq] at k4
    cases k4; rfl
  · cases hx

/-- An operation that makes a row makes the same one whatever else there is. -/
theorem all_any {E : Env} {call : Nat → List Value → Hp → Option (Value × Hp)} {nm : Nat} {o : Oper} {T : Tm} {h h' : Hp} {v : Value} (hs : allB o.op = true) (hx : xop E call nm o T h = some (v, h')) :
    ∃ ent, h' = halloc h nm ent ∧ ∀ H, xop E call nm o T H = some (v, halloc H nm ent) := by
  cases ho : o.op <;> rw [ho] at hs <;> simp only [allB, Bool.false_eq_true] at hs
  case alloc t =>
    simp only [xop, xopR, xAlloc, ho] at hx ⊢
    obtain ⟨ti, k1, k2⟩ := ob_some hx
    cases k2
    exact ⟨_, rfl, fun H => by simp [k1, ob]⟩
  case box t x =>
    simp only [xop, xopR, xBox, ho] at hx ⊢
    obtain ⟨u, k1, k2⟩ := ob_some hx
    obtain ⟨cs, k3, k4⟩ := ob_some k2
    cases k4
    exact ⟨_, rfl, fun H => by simp [k1, k3, ob]⟩
  case buildSlice t len parts =>
    simp only [xop, xopR, xBuildSlice, ho] at hx ⊢
    obtain ⟨ti, k1, k2⟩ := ob_some hx
    obtain ⟨ei, k3, k4⟩ := ob_some k2
    cases hq : (Nat.beq ti.kind 1 && Nat.ble (len * ei.size) 16777216 && Nat.ble len 16777216 && Nat.beq ei.zero.length ei.size) <;> simp only [hq, cond_true, cond_false, reduceCtorEq] at k4
    obtain ⟨ps, k5, k6⟩ := ob_some k4
    obtain ⟨cs, k7, k8⟩ := ob_some k6
    cases k8
    refine ⟨_, rfl, fun H => ?_⟩
    rw [k1]
    simp only [ob]
    rw [k3]
    simp only [hq, cond_true]
    rw [k5]
    simp only
    rw [k7]
  case makeSlice t l c =>
    simp only [xop, xopR, xMake, ho] at hx ⊢
    split at hx
    · rename_i k1 n k2 k hl hc
      obtain ⟨ti, j1, j2⟩ := ob_some hx
      obtain ⟨ei, j3, j4⟩ := ob_some j2
      cases hq : (Nat.beq ti.kind 1 && decide (0 ≤ n) && decide (n ≤ k) && decide (k ≤ 1000000) && Nat.ble ei.bytes 1000000 && Nat.beq ei.zero.length ei.size) <;> simp only [hq, cond_true, cond_false, reduceCtorEq] at j4
      cases j4
      refine ⟨_, rfl, fun H => ?_⟩
      rw [j1]
      simp only [ob]
      rw [j3]
      simp only [hq, cond_true]
    · cases hx

end Go.Ev
