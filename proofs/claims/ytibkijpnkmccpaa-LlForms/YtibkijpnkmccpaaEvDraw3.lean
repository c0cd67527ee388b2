/- Statements whose order is open: the road that is reckoned, and every other one. -/
import Derived.Test.YtibkijpnkmccpaaEvDraw2
set_option linter.unusedVariables false
set_option linter.unusedSimpArgs false
namespace Go.Ev
open Go.Deep Go.RowKit

def noCall : Nat → List Value → Hp → Option (Value × Hp) := fun _ _ _ => none

theorem noCall_at [LG] (P : Program) (nm : Nat) (h : Hp) : CallAt P noCall nm h := fun _ _ _ _ hx => by cases hx

theorem tputD_ne {T : Tm} {dst : Option Tmp} {v : Value} {t : Nat} (h : dst ≠ some t) : tget (tputD T dst v) t = tget T t := by
  cases dst with
  | none => rfl
  | some d => exact tget_tset_ne _ _ _ _ (fun e => h (by rw [e]))

theorem tputD_same {T : Tm} {d : Nat} {v : Value} : tget (tputD T (some d) v) d = some v := tget_tset_same _ _ _

theorem writes_false {ops : Array Oper} {i t : Nat} {o : Oper} (ho : ops[i]? = some o) (h : writesAt ops i t = false) : o.dst ≠ some t := fun e => by
  have := writesAt_iff.2 ⟨o, ho, e⟩
  rw [h] at this
  cases this

section
variable {E : Env} {ops : Array Oper} {A : List (List Nat)} {base : Nat}

/-- What the first operations of a stage leave. -/
structure PreR (E : Env) (ops : Array Oper) (base : Nat) (l : List Nat) (T : Tm) (h : Hp) (T1 : Tm) (h1 : Hp) : Prop where
  keepT : ∀ t, (∀ i ∈ l, writesAt ops i t = false) → tget T1 t = tget T t
  sub : ∀ n e, tget h.m n = some e → tget h1.m n = some e
  new : ∀ n e, tget h1.m n = some e → tget h.m n = none → ∃ i ∈ l, n = base + i
  nxt : h1.nxt = h.nxt

theorem halloc_nxt {h : Hp} {nm : Nat} {e : Ent} (hn : nm < h.nxt) : (halloc h nm e).nxt = h.nxt := by simp only [halloc]; omega

/-- One of them. -/
theorem one_heap {i : Nat} {o : Oper} {T : Tm} {h h' : Hp} {v : Value} (hk : silB o.op = true ∨ allB o.op = true) (hf : tget h.m (base + i) = none) (hn : base + i < h.nxt) (hx : xop E noCall (base + i) o T h = some (v, h')) :
    (∀ n e, tget h.m n = some e → tget h'.m n = some e) ∧ (∀ n e, tget h'.m n = some e → tget h.m n = none → n = base + i) ∧ h'.nxt = h.nxt := by
  rcases hk with hk | hk
  · have := sil_same hk hn hx
    subst this
    exact ⟨fun _ _ q => q, fun n e q1 q2 => (by rw [q1] at q2; cases q2), rfl⟩
  · obtain ⟨ent, rfl, _⟩ := all_any hk hx
    refine ⟨fun n e q => ?_, fun n e q1 q2 => ?_, halloc_nxt hn⟩
    · simp only [halloc]
      rw [tget_tset_ne _ _ _ _ (fun e1 => by subst e1; rw [hf] at q; cases q)]
      exact q
    · by_cases e1 : base + i = n
      · exact e1.symm
      · simp only [halloc] at q1
        rw [tget_tset_ne _ _ _ _ e1, q2] at q1
        cases q1

theorem preOk_cons {prev : Option Nat} {D : List Nat} {i : Nat} {l : List Nat} (h : preOk ops A prev D (i :: l) = true) :
    (opAt? ops silB i = true ∨ opAt? ops allB i = true) ∧ i ∉ D ∧ behind A prev i = true ∧ lookOk ops A D i = true ∧ preOk ops A prev (i :: D) l = true := by
  simp only [preOk, Bool.and_eq_true, Bool.or_eq_true, Bool.not_eq_true'] at h
  exact ⟨h.1.1.1.1, fun hm => (by have := memN_iff.2 hm; rw [h.1.1.1.2] at this; cases this), h.1.1.2, h.1.2, h.2⟩

theorem opAt_some {p : Op → Bool} {i : Nat} (h : opAt? ops p i = true) : ∃ o, ops[i]? = some o ∧ p o.op = true := by
  unfold opAt? at h
  split at h
  · cases h
  · rename_i o ho; exact ⟨o, ho, h⟩

theorem lt_of_get {i : Nat} {o : Oper} (h : ops[i]? = some o) : i < ops.size := by
  rcases Nat.lt_or_ge i ops.size with g | g
  · exact g
  · rw [Array.getElem?_eq_none g] at h; cases h

theorem pre_R {prev : Option Nat} : ∀ {l D : List Nat} {T T1 : Tm} {h h1 : Hp}, preOk ops A prev D l = true → base + ops.size ≤ h.nxt → xpre E ops base l T h = some (T1, h1) → PreR E ops base l T h T1 h1
  | [], D, T, T1, h, h1, _, _, hx => by
    cases hx
    exact ⟨fun _ _ => rfl, fun _ _ q => q, fun n e q1 q2 => (by rw [q1] at q2; cases q2), rfl⟩
  | i :: l, D, T, T1, h, h1, hp, hn, hx => by
    obtain ⟨hk, hi, _, _, hp'⟩ := preOk_cons hp
    simp only [xpre] at hx
    split at hx
    · rename_i o ho hf
      have hlt := lt_of_get ho
      have hk' : silB o.op = true ∨ allB o.op = true := by
        rcases hk with hk | hk
        · obtain ⟨o', ho', q⟩ := opAt_some hk; rw [ho] at ho'; cases ho'; exact .inl q
        · obtain ⟨o', ho', q⟩ := opAt_some hk; rw [ho] at ho'; cases ho'; exact .inr q
      split at hx
      · split at hx
        · rename_i v h2 hop
          obtain ⟨g1, g2, g3⟩ := one_heap hk' hf (by omega) hop
          have ih := pre_R hp' (by omega) hx
          refine ⟨fun t ht => ?_, fun n e q => ih.sub n e (g1 n e q), fun n e q1 q2 => ?_, by rw [ih.nxt, g3]⟩
          · rw [ih.keepT t (fun j hj => ht j (by simp [hj])), tputD_ne (writes_false ho (ht i (by simp)))]
          · cases hc : tget h2.m n with
            | none => obtain ⟨j, hj, e1⟩ := ih.new n e q1 hc; exact ⟨j, by simp [hj], e1⟩
            | some e' => exact ⟨i, by simp, g2 n e' hc q2⟩
        · cases hx
      · have ih := pre_R hp' hn hx
        refine ⟨fun t ht => ?_, ih.sub, fun n e q1 q2 => ?_, ih.nxt⟩
        · rw [ih.keepT t (fun j hj => ht j (by simp [hj])), tputD_ne (writes_false ho (ht i (by simp)))]
        · obtain ⟨j, hj, e1⟩ := ih.new n e q1 q2; exact ⟨j, by simp [hj], e1⟩
      · cases hx
    · cases hx

/-- No two write one. -/
theorem pair_dst (hP : ∀ i j, i < ops.size → j < ops.size → pairOk ops A i j = true) {i j t : Nat} (h1 : writesAt ops i t = true) (h2 : writesAt ops j t = true) : i = j := by
  obtain ⟨o, ho, hd⟩ := writesAt_iff.1 h1
  obtain ⟨o2, ho2, hd2⟩ := writesAt_iff.1 h2
  have hp := hP i j (lt_of_get ho) (lt_of_get ho2)
  unfold pairOk at hp
  rw [ho] at hp
  simp only [Bool.or_eq_true, Bool.and_eq_true] at hp
  rcases hp with hp | hp
  · exact Nat.eq_of_beq_eq_true hp
  · have := hp.2
    rw [hd] at this
    simp only [Bool.not_eq_true'] at this
    rw [h2] at this
    cases this

/-- What is looked at and written by another: one waits for the other. -/
theorem pair_look (hP : ∀ i j, i < ops.size → j < ops.size → pairOk ops A i j = true) {i j t : Nat} {o : Oper} (ho : ops[i]? = some o) (hne : i ≠ j) (ht : t ∈ o.looksAt ops) (h2 : writesAt ops j t = true) : j ∈ ancOf A i ∨ i ∈ ancOf A j := by
  obtain ⟨o2, ho2, hd2⟩ := writesAt_iff.1 h2
  have hp := hP i j (lt_of_get ho) (lt_of_get ho2)
  unfold pairOk at hp
  rw [ho] at hp
  simp only [Bool.or_eq_true, Bool.and_eq_true] at hp
  rcases hp with hp | hp
  · exact absurd (Nat.eq_of_beq_eq_true hp) hne
  · have := hp.1
    rw [List.all_eq_true] at this
    have h3 := this t ht
    rw [h2] at h3
    simp only [Bool.not_true, Bool.false_or, Bool.or_eq_true] at h3
    exact h3.imp memN_iff.1 memN_iff.1

theorem lookOk_spec {D : List Nat} {i : Nat} {o : Oper} (ho : ops[i]? = some o) (h : lookOk ops A D i = true) : (∀ j ∈ ancOf A i, j ∈ D) ∧ (∀ t ∈ o.looksAt ops, ∀ j ∈ D, writesAt ops j t = true → j ∈ ancOf A i) := by
  unfold lookOk at h
  rw [ho] at h
  simp only [Bool.and_eq_true] at h
  refine ⟨fun j hj => subN_mem h.1.1 hj, fun t ht j hj hw => ?_⟩
  have := h.2
  rw [List.all_eq_true] at this
  have h2 := this t ht
  rw [List.all_eq_true] at h2
  have h3 := h2 j hj
  rw [hw] at h3
  simp only [Bool.not_true, Bool.false_or] at h3
  exact memN_iff.1 h3

theorem pre_T : ∀ {l : List Nat} {T T1 : Tm} {h h1 : Hp}, xpre E ops base l T h = some (T1, h1) → ∀ t, (∀ i ∈ l, writesAt ops i t = false) → tget T1 t = tget T t
  | [], T, T1, h, h1, hx, t, _ => by cases hx; rfl
  | i :: l, T, T1, h, h1, hx, t, ht => by
    simp only [xpre] at hx
    split at hx
    · rename_i o ho hf
      split at hx
      · split at hx
        · rw [pre_T hx t (fun j hj => ht j (by simp [hj])), tputD_ne (writes_false ho (ht i (by simp)))]
        · cases hx
      · rw [pre_T hx t (fun j hj => ht j (by simp [hj])), tputD_ne (writes_false ho (ht i (by simp)))]
      · cases hx
    · cases hx

theorem preOk_new {prev : Option Nat} : ∀ {l D : List Nat}, preOk ops A prev D l = true → ∀ i ∈ l, i ∉ D
  | [], _, _, i, hi => by cases hi
  | k :: l, D, h, i, hi => by
    obtain ⟨_, h2, _, _, h5⟩ := preOk_cons h
    rcases List.mem_cons.1 hi with rfl | hi
    · exact h2
    · intro hm
      exact preOk_new h5 i hi (by simp [hm])

theorem stOk_cons {D : List Nat} {prev : Option Nat} {s : Stage} {l : List Stage} (h : stOk ops A D prev (s :: l) = true) :
    coverOk ops A prev D s.re = true ∧ reOk ops A D s.re = true ∧ preOk ops A prev D s.pre = true ∧
    ((s.loud = none ∧ l = [] ∧ ∀ i, i < ops.size → i ∈ s.pre.reverse ++ D) ∨
     (∃ c o, s.loud = some c ∧ ops[c]? = some o ∧ (∀ i ∈ s.hide, i < ops.size) ∧ c ∉ s.pre.reverse ++ D ∧ behind A prev c = true ∧ lookOk ops A (s.pre.reverse ++ D) c = true ∧
       (∀ i ∈ s.pre.reverse ++ D, opAt? ops allB i = true → i ∈ s.hide ∨ i ∈ ancOf A c) ∧ (∀ i, i < ops.size → i ∈ s.pre.reverse ++ D ∨ i = c ∨ c ∈ ancOf A i) ∧ stOk ops A (c :: (s.pre.reverse ++ D)) (some c) l = true)) := by
  simp only [stOk, Bool.and_eq_true] at h
  obtain ⟨⟨⟨h1, h2⟩, h3⟩, h4⟩ := h
  refine ⟨h1, h2, h3, ?_⟩
  cases hl : s.loud with
  | none =>
    rw [hl] at h4
    simp only [Bool.and_eq_true, List.all_eq_true, List.isEmpty_iff] at h4
    exact .inl ⟨rfl, h4.2, fun i hi => memN_iff.1 (h4.1 i (by simpa using hi))⟩
  | some c =>
    rw [hl] at h4
    simp only [Bool.and_eq_true, List.all_eq_true, Bool.or_eq_true, Bool.not_eq_true'] at h4
    obtain ⟨⟨⟨⟨⟨⟨⟨k1, k0⟩, k2⟩, k3⟩, k4⟩, k5⟩, k6⟩, k7⟩ := h4
    cases ho : ops[c]? with
    | none => rw [ho] at k1; cases k1
    | some o =>
      refine .inr ⟨c, o, rfl, ho, fun i hi => (by have := k0 i hi; unfold Nat.blt at this; exact Nat.le_of_ble_eq_true this), fun hm => (by have := memN_iff.2 hm; rw [k2] at this; cases this), k3, k4, fun i hi ha => ?_, fun i hi => ?_, k7⟩
      · rcases k5 i hi with (q | q) | q
        · rw [ha] at q; cases q
        · exact .inl (memN_iff.1 q)
        · exact .inr (memN_iff.1 q)
      · rcases k6 i (by simpa using hi) with (q | q) | q
        · exact .inl (memN_iff.1 q)
        · exact .inr (.inl (Nat.eq_of_beq_eq_true q))
        · exact .inr (.inr (memN_iff.1 q))

/-- The last frame has what was written ahead. -/
theorem stages_T (hP : ∀ i j, i < ops.size → j < ops.size → pairOk ops A i j = true) {call : Nat → List Value → Hp → Option (Value × Hp)} :
    ∀ {st : List Stage} {D : List Nat} {prev : Option Nat} {T Tf : Tm} {h hf : Hp}, stOk ops A D prev st = true → xstages E call ops base st T h = some (Tf, hf) → ∀ t j, j ∈ D → writesAt ops j t = true → tget Tf t = tget T t
  | [], D, prev, T, Tf, h, hf, hs, hx, t, j, hj, hw => by simp [stOk] at hs
  | s :: l, D, prev, T, Tf, h, hf, hs, hx, t, j, hj, hw => by
    obtain ⟨h1, h2, h3, h4⟩ := stOk_cons hs
    have hpre : ∀ i ∈ s.pre, writesAt ops i t = false := fun i hi => by
      cases hq : writesAt ops i t with
      | false => rfl
      | true =>
        have := pair_dst hP hq hw
        subst this
        exact absurd hj (preOk_new h3 i hi)
    simp only [xstages] at hx
    cases hre : xre E ops base T h s.re <;> simp only [hre, cond_true, cond_false, reduceCtorEq] at hx
    split at hx
    · cases hx
    · rename_i T1 h1' hp
      have hT1 := pre_T hp t hpre
      rcases h4 with ⟨e1, e2, _⟩ | ⟨c, o, e1, ho, _, hc, _, _, _, _, hst⟩
      · rw [e1] at hx
        subst e2
        simp only at hx
        cases hx
        exact hT1
      · rw [e1] at hx
        simp only [ho] at hx
        have hcw : o.dst ≠ some t := fun e => by
          have hq := writesAt_iff.2 ⟨o, ho, e⟩
          have := pair_dst hP hq hw
          subst this
          exact hc (by simp [hj])
        have hjD : j ∈ c :: (s.pre.reverse ++ D) := by simp [hj]
        split at hx
        · split at hx
          · rw [stages_T hP hst hx t j hjD hw, tputD_ne hcw, hT1]
          · cases hx
        · rw [stages_T hP hst hx t j hjD hw, tputD_ne hcw, hT1]
        · cases hx

end
end Go.Ev
