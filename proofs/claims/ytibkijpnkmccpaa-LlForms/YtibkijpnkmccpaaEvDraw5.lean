/- Statements whose order is open: all of it. -/
import Derived.Test.YtibkijpnkmccpaaEvDraw4
set_option linter.unusedVariables false
set_option linter.unusedSimpArgs false
namespace Go.Ev
open Go.Deep Go.RowKit

/-- How many are still to be done. -/
def cntF (listed : Array Bool) : Nat → Nat
  | 0 => 0
  | k + 1 => cntF listed k + (bif listed.getD k false then 0 else 1)

theorem cnt_set {listed : Array Bool} {i : Nat} (hi : i < listed.size) (hn : ¬ Lst listed i) : ∀ k, (i < k → cntF (listed.setIfInBounds i true) k + 1 = cntF listed k) ∧ (k ≤ i → cntF (listed.setIfInBounds i true) k = cntF listed k)
  | 0 => ⟨fun h => by omega, fun _ => rfl⟩
  | k + 1 => by
    obtain ⟨h1, h2⟩ := cnt_set hi hn k
    have hne : ∀ j, j ≠ i → (listed.setIfInBounds i true).getD j false = listed.getD j false := by
      intro j hj
      simp [Array.getD_eq_getD_getElem?, Array.getElem?_setIfInBounds, Ne.symm hj]
    refine ⟨fun h => ?_, fun h => ?_⟩
    · simp only [cntF]
      by_cases e : k = i
      · subst e
        have e1 : (listed.setIfInBounds k true).getD k false = true := (lst_set (j := k) hi).2 (.inl rfl)
        have e2 : listed.getD k false = false := by
          cases hq : listed.getD k false with
          | false => rfl
          | true => exact absurd hq hn
        rw [e1, e2, h2 (Nat.le_refl _)]
        rfl
      · rw [hne k e]
        have := h1 (by omega)
        omega
    · simp only [cntF]
      rw [hne k (by omega), h2 (by omega)]

theorem cnt_zero {listed : Array Bool} : ∀ {k : Nat}, cntF listed k = 0 → ∀ i, i < k → Lst listed i
  | 0, _, i, h => by omega
  | k + 1, hz, i, h => by
    simp only [cntF] at hz
    by_cases e : i = k
    · subst e
      unfold Lst
      cases hq : listed.getD i false with
      | true => rfl
      | false => rw [hq] at hz; simp at hz
    · exact cnt_zero (k := k) (by omega) i (by omega)

/-- An operation that makes a row, not yet done. -/
def AFact (C : Ctx) (h : Hp) (i : Nat) : Prop := ∃ o T b, C.ops[i]? = some o ∧ allB o.op = true ∧ Look C T i o ∧ wantA C.ops o T = some b ∧ (b = false → ∀ d, o.dst = some d → tget C.Tf d = some undefV) ∧
  (b = true → ∃ v ent, (∀ H, xop C.E noCall (C.base + i) o T H = some (v, halloc H (C.base + i) ent)) ∧ (∀ d, o.dst = some d → tget C.Tf d = some v) ∧ tget h.m (C.base + i) = some ent)

theorem AFact.sfact {C : Ctx} {h : Hp} {i : Nat} (hn : C.base + i < h.nxt) (hf : AFact C h i) : SFact C h i := by
  obtain ⟨o, T, b, ho, ha, hl, hw, hno, hyes⟩ := hf
  refine ⟨o, T, ⟨tset h.m (C.base + i) none, h.nxt⟩, b, ho, hl, hw, hno, fun hb => ?_⟩
  obtain ⟨v, ent, h1, h2, h3⟩ := hyes hb
  refine ⟨v, _, h1 _, h2, rfl, halloc_nxt hn, fun n e q => ?_, fun n e q => ?_⟩
  · simp only [tget_tset] at q
    split at q
    · cases q
    · exact q
  · refine .inl ?_
    simp only [halloc, tget_tset]
    by_cases e1 : C.base + i = n
    · rw [if_pos e1]
      rw [← e1, h3] at q
      exact q
    · rw [if_neg e1, if_neg e1]
      exact q

theorem AFact.mono {C : Ctx} {h h1 : Hp} {i : Nat} (hs : ∀ e, tget h.m (C.base + i) = some e → tget h1.m (C.base + i) = some e) (hf : AFact C h i) : AFact C h1 i := by
  obtain ⟨o, T, b, ho, ha, hl, hw, hno, hyes⟩ := hf
  refine ⟨o, T, b, ho, ha, hl, hw, hno, fun hb => ?_⟩
  obtain ⟨v, ent, k1, k2, k3⟩ := hyes hb
  exact ⟨v, ent, k1, k2, hs _ k3⟩

/-- What nobody has written is as it was. -/
def CT (C : Ctx) (D : List Nat) (T : Tm) : Prop := ∀ t, (∀ j ∈ D, writesAt C.ops j t = false) → tget T t = tget C.T0 t

theorem CT.cons {C : Ctx} {D : List Nat} {T : Tm} (h : CT C D T) {i : Nat} {o : Oper} (ho : C.ops[i]? = some o) (v : Value) : CT C (i :: D) (tputD T o.dst v) := fun t ht => by
  rw [tputD_ne (writes_false ho (ht i (by simp)))]
  exact h t fun j hj => ht j (by simp [hj])

theorem pre_facts {C : Ctx} (hC : CtxOk C) {prev : Option Nat} : ∀ {l D : List Nat} {T T1 : Tm} {h h1 : Hp}, preOk C.ops C.A prev D l = true → C.base + C.ops.size ≤ h.nxt → xpre C.E C.ops C.base l T h = some (T1, h1) → CT C D T → (∀ t j, (j ∈ l ∨ j ∈ D) → writesAt C.ops j t = true → tget C.Tf t = tget T1 t) →
    CT C (l.reverse ++ D) T1 ∧ (∀ i ∈ l, ∀ j ∈ ancOf C.A i, j ∈ l ∨ j ∈ D) ∧ ∀ i ∈ l, SFact C h1 i ∧ (opAt? C.ops allB i = true → AFact C h1 i)
  | [], D, T, T1, h, h1, hp, hn, hx, ct, hs => by
    cases hx
    exact ⟨by simpa using ct, fun i hi => (by cases hi), fun i hi => (by cases hi)⟩
  | i :: l, D, T, T1, h, h1, hp, hn, hx, ct, hs => by
    have hp0 := hp
    obtain ⟨hk, hiD, _, hlk, hp'⟩ := preOk_cons hp
    have hnew := preOk_new hp'
    have hx0 := hx
    simp only [xpre] at hx
    split at hx
    · rename_i o ho hf
      have hlt := lt_of_get ho
      obtain ⟨lk1, lk2⟩ := lookOk_spec ho hlk
      have hk' : silB o.op = true ∨ allB o.op = true := by
        rcases hk with hk | hk
        · obtain ⟨o', ho', q⟩ := opAt_some hk; rw [ho] at ho'; cases ho'; exact .inl q
        · obtain ⟨o', ho', q⟩ := opAt_some hk; rw [ho] at ho'; cases ho'; exact .inr q
      have hs' : ∀ t j, (j ∈ l ∨ j ∈ i :: D) → writesAt C.ops j t = true → tget C.Tf t = tget T1 t := fun t j hj => hs t j (by
        rcases hj with q | q
        · exact .inl (by simp [q])
        · rcases List.mem_cons.1 q with rfl | q
          · exact .inl (by simp)
          · exact .inr q)
      have hlook : Look C T i o := by
        refine ⟨fun t ht j hj hw => ?_, fun t ht hno => ct t fun j hj => ?_⟩
        · have hjD := lk1 j hj
          rw [hs t j (.inr hjD) hw]
          refine (pre_T hx0 t fun k hkm => ?_).symm
          cases hq : writesAt C.ops k t with
          | false => rfl
          | true =>
            have e := pair_dst hC.pair hq hw
            subst e
            rcases List.mem_cons.1 hkm with rfl | hkm
            · exact absurd hjD hiD
            · exact absurd (by simp [hjD]) (hnew k hkm)
        · cases hq : writesAt C.ops j t with
          | false => rfl
          | true => rw [hno j (lk2 t ht j hj hq)] at hq; cases hq
      have hdst : ∀ (T' : Tm) (h' : Hp) (v : Value), xpre C.E C.ops C.base l T' h' = some (T1, h1) → T' = tputD T o.dst v → ∀ d, o.dst = some d → tget C.Tf d = some v := by
        intro T' h' v hq he d hd
        have hw : writesAt C.ops i d = true := writesAt_iff.2 ⟨o, ho, hd⟩
        rw [hs d i (.inl (by simp)) hw, pre_T hq d fun k hkm => ?_, he, hd, tputD_same]
        cases hq2 : writesAt C.ops k d with
        | false => rfl
        | true =>
          have e := pair_dst hC.pair hq2 hw
          subst e
          exact absurd (by simp) (hnew k hkm)
      have fin : ∀ {P : Prop}, (CT C (l.reverse ++ i :: D) T1 ∧ (∀ k ∈ l, ∀ j ∈ ancOf C.A k, j ∈ l ∨ j ∈ i :: D) ∧ ∀ k ∈ l, SFact C h1 k ∧ (opAt? C.ops allB k = true → AFact C h1 k)) → SFact C h1 i ∧ (opAt? C.ops allB i = true → AFact C h1 i) →
          CT C ((i :: l).reverse ++ D) T1 ∧ (∀ k ∈ i :: l, ∀ j ∈ ancOf C.A k, j ∈ i :: l ∨ j ∈ D) ∧ ∀ k ∈ i :: l, SFact C h1 k ∧ (opAt? C.ops allB k = true → AFact C h1 k) := by
        intro _ hih hi
        refine ⟨by simpa [List.append_assoc] using hih.1, fun k hkm j hj => ?_, fun k hkm => ?_⟩
        · rcases List.mem_cons.1 hkm with rfl | hkm
          · exact .inr (lk1 j hj)
          · rcases hih.2.1 k hkm j hj with q | q
            · exact .inl (by simp [q])
            · rcases List.mem_cons.1 q with rfl | q
              · exact .inl (by simp)
              · exact .inr q
        · rcases List.mem_cons.1 hkm with rfl | hkm
          · exact hi
          · exact hih.2.2 k hkm
      split at hx
      · rename_i hw
        split at hx
        · rename_i v h2 hop
          obtain ⟨g1, g2, g3⟩ := one_heap (E := C.E) hk' hf (by omega) hop
          have hR := pre_R (E := C.E) hp' (by omega) hx
          have ih := pre_facts hC hp' (by omega) hx (ct.cons ho v) hs'
          have hTf := hdst _ _ v hx rfl
          refine fin (P := True) ih ⟨⟨o, T, h, true, ho, hlook, hw, fun e => (by cases e), fun _ => ⟨v, h2, hop, hTf, by rw [hR.nxt, g3], by rw [hR.nxt], fun n e q => hR.sub n e (g1 n e q), fun n e q => ?_⟩⟩, fun ha => ?_⟩
          · cases hc : tget h2.m n with
            | some e' =>
              have := hR.sub n e' hc
              rw [q] at this
              exact .inl this.symm
            | none =>
              obtain ⟨k, hkm, e1⟩ := hR.new n e q hc
              refine .inr ⟨?_, fun e2 => ?_⟩
              · cases hc2 : tget h.m n with
                | none => rfl
                | some e' => rw [g1 n e' hc2] at hc; cases hc
              · have : k = i := by omega
                subst this
                exact absurd (by simp) (hnew k hkm)
          · obtain ⟨o', ho', ha'⟩ := opAt_some ha
            rw [ho] at ho'
            cases ho'
            obtain ⟨ent, e1, e2⟩ := all_any ha' hop
            refine ⟨o, T, true, ho, ha', hlook, hw, fun e => (by cases e), fun _ => ⟨v, ent, e2, hTf, hR.sub _ _ ?_⟩⟩
            rw [e1]
            simp only [halloc, tget_tset_same]
        · cases hx
      · rename_i hw
        have hR := pre_R (E := C.E) hp' hn hx
        have ih := pre_facts hC hp' hn hx (ct.cons ho undefV) hs'
        have hTf := hdst _ _ undefV hx rfl
        refine fin (P := True) ih ⟨⟨o, T, h, false, ho, hlook, hw, fun _ => hTf, fun e => by cases e⟩, fun ha => ?_⟩
        obtain ⟨o', ho', ha'⟩ := opAt_some ha
        rw [ho] at ho'
        cases ho'
        exact ⟨o, T, false, ho, ha', hlook, hw, fun _ => hTf, fun e => by cases e⟩
      · cases hx
    · cases hx

theorem reOk_spec {C : Ctx} {D re : List Nat} (h : reOk C.ops C.A D re = true) {i : Nat} (hi : i ∈ re) : ∃ o, C.ops[i]? = some o ∧ silB o.op = true ∧ i ∈ D ∧ ∀ t ∈ o.looksAt C.ops, ∀ j ∈ D, writesAt C.ops j t = true → j ∈ ancOf C.A i := by
  unfold reOk at h
  rw [List.all_eq_true] at h
  have h1 := h i hi
  simp only [Bool.and_eq_true] at h1
  obtain ⟨⟨h2, h3⟩, h4⟩ := h1
  obtain ⟨o, ho, hs⟩ := opAt_some h2
  rw [ho] at h4
  simp only [List.all_eq_true, Bool.or_eq_true, Bool.not_eq_true'] at h4
  refine ⟨o, ho, hs, memN_iff.1 h3, fun t ht j hj hw => ?_⟩
  rcases h4 t ht j hj with q | q
  · rw [hw] at q; cases q
  · exact memN_iff.1 q

theorem re_facts {C : Ctx} (hC : CtxOk C) {D pre : List Nat} {T T1 : Tm} {h h1 : Hp} (hn : C.base + C.ops.size ≤ h.nxt) (hR : PreR C.E C.ops C.base pre T h T1 h1) (hpre : ∀ k ∈ pre, k ∉ D) (ct : CT C D T) (hanc : ∀ i ∈ D, ∀ j ∈ ancOf C.A i, j ∈ D) (hs : ∀ t j, j ∈ D → writesAt C.ops j t = true → tget C.Tf t = tget T t) :
    ∀ {re : List Nat}, reOk C.ops C.A D re = true → xre C.E C.ops C.base T h re = true → ∀ i ∈ re, SFact C h1 i
  | [], _, _, i, hi => by cases hi
  | k :: re, hok, hx, i, hi => by
    have hok' : reOk C.ops C.A D re = true := by
      unfold reOk at hok ⊢
      simp only [List.all_cons, Bool.and_eq_true] at hok
      exact hok.2
    have hx0 := hx
    simp only [xre] at hx
    obtain ⟨o, ho, hsil, hkD, hlk⟩ := reOk_spec hok (i := k) (by simp)
    rw [ho] at hx
    simp only at hx
    have hlook : Look C T k o := by
      refine ⟨fun t ht j hj hw => (hs t j (hanc k hkD j hj) hw).symm, fun t ht hno => ct t fun j hj => ?_⟩
      cases hq : writesAt C.ops j t with
      | false => rfl
      | true => rw [hno j (hlk t ht j hj hq)] at hq; cases hq
    have hTd : ∀ d, o.dst = some d → tget C.Tf d = tget T d := fun d hd => hs d k hkD (writesAt_iff.2 ⟨o, ho, hd⟩)
    have heap : ∀ n e, tget h1.m n = some e → tget h.m n = some e ∨ (tget h.m n = none ∧ n ≠ C.base + k) := by
      intro n e q
      cases hc : tget h.m n with
      | some e' =>
        have := hR.sub n e' hc
        rw [q] at this
        exact .inl this.symm
      | none =>
        obtain ⟨j, hj, e1⟩ := hR.new n e q hc
        refine .inr ⟨rfl, fun e2 => ?_⟩
        have : j = k := by omega
        subst this
        exact hpre j hj hkD
    split at hx
    · rename_i hw
      split at hx
      · rename_i v h2 d hop hd
        split at hx
        · rename_i u hu
          simp only [Bool.and_eq_true] at hx
          rcases List.mem_cons.1 hi with rfl | hi
          · have e1 := eqV_eq hx.1
            have e2 := sil_same hsil (Nat.lt_of_lt_of_le (Nat.add_lt_add_left (lt_of_get ho) _) hn) hop
            subst e2
            refine ⟨o, T, h2, true, ho, hlook, hw, fun e => (by cases e), fun _ => ⟨v, h2, hop, fun d' hd' => ?_, hR.nxt.symm, hR.nxt.symm, hR.sub, heap⟩⟩
            rw [hTd d' hd']
            rw [hd] at hd'
            cases hd'
            rw [hu, e1]
          · exact re_facts hC hn hR hpre ct hanc hs hok' hx.2 i hi
        · cases hx
      · rename_i x hop hd
        rcases List.mem_cons.1 hi with rfl | hi
        · obtain ⟨v, h2⟩ := x
          have e2 := sil_same hsil (Nat.lt_of_lt_of_le (Nat.add_lt_add_left (lt_of_get ho) _) hn) hop
          subst e2
          exact ⟨o, T, h2, true, ho, hlook, hw, fun e => (by cases e), fun _ => ⟨v, h2, hop, fun d' hd' => (by rw [hd] at hd'; cases hd'), hR.nxt.symm, hR.nxt.symm, hR.sub, heap⟩⟩
        · exact re_facts hC hn hR hpre ct hanc hs hok' hx i hi
      · cases hx
    · rename_i hw
      split at hx
      · rename_i d hd
        split at hx
        · rename_i a hu
          simp only [Bool.and_eq_true] at hx
          rcases List.mem_cons.1 hi with rfl | hi
          · refine ⟨o, T, h, false, ho, hlook, hw, fun _ d' hd' => ?_, fun e => by cases e⟩
            rw [hTd d' hd']
            rw [hd] at hd'
            cases hd'
            rw [hu]
            have : a = #[] := Array.eq_empty_of_size_eq_zero (Nat.eq_of_beq_eq_true hx.1)
            rw [this]; rfl
          · exact re_facts hC hn hR hpre ct hanc hs hok' hx.2 i hi
        · cases hx
      · rename_i hd
        rcases List.mem_cons.1 hi with rfl | hi
        · exact ⟨o, T, h, false, ho, hlook, hw, fun _ d' hd' => (by rw [hd] at hd'; cases hd'), fun e => by cases e⟩
        · exact re_facts hC hn hR hpre ct hanc hs hok' hx i hi
    · cases hx

end Go.Ev
