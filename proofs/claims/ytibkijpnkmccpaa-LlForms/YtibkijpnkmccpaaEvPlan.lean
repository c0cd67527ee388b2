/- Plans of statements whose order is open, looked at by masks. -/
import Derived.Test.YtibkijpnkmccpaaEvDraw2
set_option linter.unusedVariables false
set_option linter.unusedSimpArgs false
namespace Go.Ev
open Go.Deep Go.RowKit

theorem bitB_eq (m j : Nat) : bitB m j = m.testBit j := by
  unfold bitB Nat.testBit
  have h : Nat.land (Nat.shiftRight m j) 1 = 1 &&& (m >>> j) := by
    show (m >>> j) &&& 1 = _
    rw [Nat.and_comm]
  rw [h, Nat.and_comm, Nat.and_one_is_mod]
  have : (m >>> j) % 2 = 0 ∨ (m >>> j) % 2 = 1 := by omega
  rcases this with e | e <;> rw [e] <;> rfl

theorem bit_or (a b j : Nat) : bitB (Nat.lor a b) j = (bitB a j || bitB b j) := by
  simp only [bitB_eq]
  exact Nat.testBit_or a b j

theorem bit_and (a b j : Nat) : bitB (Nat.land a b) j = (bitB a j && bitB b j) := by
  simp only [bitB_eq]
  exact Nat.testBit_and a b j

theorem beq_iff {m n : Nat} : Nat.beq m n = true ↔ m = n := ⟨Nat.eq_of_beq_eq_true, fun e => by rw [e]; simp⟩

theorem bit_one (i j : Nat) : bitB (oneM i) j = Nat.beq j i := by
  rw [bitB_eq]
  show (1 <<< i).testBit j = _
  rw [Nat.one_shiftLeft, Nat.testBit_two_pow]
  by_cases h : i = j
  · subst h; simp
  · have : Nat.beq j i = false := by
      cases hb : Nat.beq j i with
      | false => rfl
      | true => exact absurd (Nat.eq_of_beq_eq_true hb).symm h
    rw [this, decide_eq_false h]

theorem bit_zero (j : Nat) : bitB 0 j = false := by rw [bitB_eq]; exact Nat.zero_testBit j

theorem sub_bit {a b : Nat} (h : subM a b = true) {j : Nat} (hj : bitB a j = true) : bitB b j = true := by
  have e := Nat.eq_of_beq_eq_true h
  rw [← e, bit_and] at hj
  simp only [Bool.and_eq_true] at hj
  exact hj.2

theorem force_eq (n : Nat) (k : Nat → Bool) : forceB n k = k n := by cases n <;> rfl

theorem bit_list {j : Nat} : ∀ {l : List Nat}, bitB (listM l) j = true ↔ j ∈ l
  | [] => by simp [listM, bit_zero]
  | i :: l => by
    simp only [listM, bit_or, Bool.or_eq_true, bit_one, bit_list (l := l), List.mem_cons, beq_iff]

theorem mAt_set (M : BT (Option Nat)) (i m j : Nat) : mAt (tset M i (some m)) j = if i = j then m else mAt M j := by
  unfold mAt
  rw [tget_tset]
  by_cases h : i = j <;> simp [h]

theorem maskOf_congr {M M' : BT (Option Nat)} : ∀ {l : List Edge}, (∀ e ∈ l, Region.binds .any e = true → mAt M e.on = mAt M' e.on) → maskOf M l = maskOf M' l
  | [], _ => rfl
  | e :: l, h => by
    simp only [maskOf]
    rw [maskOf_congr (l := l) (fun e' he' => h e' (List.mem_cons_of_mem _ he'))]
    cases hb : Region.binds .any e with
    | false => rfl
    | true => rw [h e (by simp) hb]

theorem mask_bit {M : BT (Option Nat)} {j : Nat} : ∀ {l : List Edge}, bitB (maskOf M l) j = true → ∃ e ∈ l, Region.binds .any e = true ∧ (j = e.on ∨ bitB (mAt M e.on) j = true)
  | [], h => by rw [maskOf, bit_zero] at h; cases h
  | e :: l, h => by
    simp only [maskOf] at h
    cases hb : Region.binds .any e with
    | false =>
      rw [hb] at h
      obtain ⟨e', h1, h2⟩ := mask_bit (l := l) h
      exact ⟨e', List.mem_cons_of_mem _ h1, h2⟩
    | true =>
      rw [hb] at h
      simp only [cond_true, bit_or, Bool.or_eq_true, bit_one, beq_iff] at h
      rcases h with h | h
      · exact ⟨e, by simp, hb, h⟩
      · obtain ⟨e', h1, h2⟩ := mask_bit (l := l) h
        exact ⟨e', List.mem_cons_of_mem _ h1, h2⟩

structure Go1 (l : List Oper) (i : Nat) (M X : BT (Option Nat)) (a : Nat) (M' X' : BT (Option Nat)) (a' : Nat) : Prop where
  old : ∀ j, j < i → mAt M' j = mAt M j
  edges : ∀ j o, l[j]? = some o → ∀ e ∈ o.after.toList, Region.binds .any e = true → e.on < i + j
  mask : ∀ j o, l[j]? = some o → mAt M' (i + j) = maskOf M' o.after.toList
  keep : ∀ d v, tget X d = some v → tget X' d = some v
  wr : ∀ j o d, l[j]? = some o → o.dst = some d → tget X' d = some (i + j)
  al : ∀ j, bitB a' j = true ↔ (bitB a j = true ∨ ∃ o, i ≤ j ∧ l[j - i]? = some o ∧ allB o.op = true)

theorem ancGo_spec {k : BT (Option Nat) → BT (Option Nat) → Nat → Bool} : ∀ (l : List Oper) (i : Nat) (M X : BT (Option Nat)) (a : Nat), ancGo k l i M X a = true → ∃ M' X' a', k M' X' a' = true ∧ Go1 l i M X a M' X' a'
  | [], i, M, X, a, h => ⟨M, X, a, h, ⟨fun _ _ => rfl, fun j o q => by simp at q, fun j o q => by simp at q, fun _ _ q => q, fun j o d q => by simp at q, fun j => by simp⟩⟩
  | o :: l, i, M, X, a, h => by
    simp only [ancGo, Bool.and_eq_true, force_eq] at h
    obtain ⟨he, h⟩ := h
    have hedge : ∀ e ∈ o.after.toList, Region.binds .any e = true → e.on < i := fun e h1 h2 => by
      have := List.all_eq_true.1 he e h1
      rw [h2] at this
      exact Nat.le_of_ble_eq_true this
    have key : ∀ X1, (∀ d v, tget X d = some v → tget X1 d = some v) → (∀ d, o.dst = some d → tget X1 d = some i) →
        ancGo k l (i + 1) (tset M i (some (maskOf M o.after.toList))) X1 (bif allB o.op then Nat.lor a (oneM i) else a) = true → ∃ M' X' a', k M' X' a' = true ∧ Go1 (o :: l) i M X a M' X' a' := by
      intro X1 hX hd hx
      obtain ⟨M', X', a', h1, g⟩ := ancGo_spec l (i + 1) _ _ _ hx
      have old : ∀ j, j < i → mAt M' j = mAt M j := fun j hj => by rw [g.old j (by omega), mAt_set, if_neg (by omega)]
      refine ⟨M', X', a', h1, ⟨old, ?_, ?_, fun d v q => g.keep d v (hX d v q), ?_, ?_⟩⟩
      · intro j o' ho' e h1 h2
        cases j with
        | zero => simp at ho'; subst ho'; exact hedge e h1 h2
        | succ j => have := g.edges j o' (by simpa using ho') e h1 h2; omega
      · intro j o' ho'
        cases j with
        | zero =>
          simp at ho'; subst ho'
          rw [Nat.add_zero, g.old i (by omega), mAt_set, if_pos rfl]
          exact maskOf_congr fun e h1 h2 => (old _ (hedge e h1 h2)).symm
        | succ j => have := g.mask j o' (by simpa using ho'); rw [← this]; congr 1; omega
      · intro j o' d ho' hd'
        cases j with
        | zero => simp at ho'; subst ho'; exact g.keep _ _ (hd d hd')
        | succ j => have := g.wr j o' d (by simpa using ho') hd'; rw [this]; congr 1; omega
      · intro j
        rw [g.al j]
        constructor
        · rintro (q | ⟨o', q1, q2, q3⟩)
          · cases ha : allB o.op with
            | false => rw [ha] at q; exact .inl q
            | true =>
              rw [ha] at q
              simp only [cond_true, bit_or, Bool.or_eq_true, bit_one, beq_iff] at q
              rcases q with q | q
              · exact .inl q
              · subst q; exact .inr ⟨o, Nat.le_refl _, by simp, ha⟩
          · refine .inr ⟨o', by omega, ?_, q3⟩
            have : j - i = (j - (i + 1)) + 1 := by omega
            rw [this, List.getElem?_cons_succ]; exact q2
        · rintro (q | ⟨o', q1, q2, q3⟩)
          · refine .inl ?_
            cases ha : allB o.op with
            | false => exact q
            | true => simp only [cond_true, bit_or, q, Bool.true_or]
          · rcases Nat.lt_or_ge i j with hlt | hge
            · refine .inr ⟨o', by omega, ?_, q3⟩
              have : j - i = (j - (i + 1)) + 1 := by omega
              rw [this, List.getElem?_cons_succ] at q2; exact q2
            · have e : j = i := by omega
              subst e
              simp at q2
              subst q2
              refine .inl ?_
              rw [q3]
              simp only [cond_true, bit_or, bit_one, Bool.or_eq_true, beq_iff]
              exact .inr trivial
    cases hdst : o.dst with
    | none =>
      rw [hdst] at h
      exact key X (fun _ _ q => q) (fun d q => by rw [hdst] at q; cases q) h
    | some d =>
      rw [hdst] at h
      simp only at h
      cases hxd : tget X d with
      | some v => rw [hxd] at h; cases h
      | none =>
        rw [hxd] at h
        refine key (tset X d (some i)) (fun d' v q => ?_) (fun d' q => ?_) h
        · rw [tget_tset]
          by_cases e : d = d'
          · subst e; rw [hxd] at q; cases q
          · rw [if_neg e]; exact q
        · rw [hdst] at q; cases q; rw [tget_tset, if_pos rfl]

theorem byAll_get {X : BT (Option Nat)} {p : Nat → Bool} : ∀ {l : List Tmp}, byAll X p l = true → ∀ t ∈ l, ∀ j, tget X t = some j → p j = true
  | [], _, t, ht, _, _ => by cases ht
  | t :: l, h, u, hu, j, hj => by
    simp only [byAll, Bool.and_eq_true] at h
    rcases List.mem_cons.1 hu with e | e
    · subst e
      have := h.1
      rw [hj] at this
      exact this
    · exact byAll_get h.2 u e j hj

theorem pairF_get {ops : Array Oper} {M X : BT (Option Nat)} : ∀ {l : List Oper} {i : Nat}, pairF ops M X l i = true → ∀ j o, l[j]? = some o → byAll X (fun k => Nat.beq (i + j) k || bitB (mAt M (i + j)) k || bitB (mAt M k) (i + j)) (o.looksAt ops) = true
  | [], _, _, j, o, h => by simp at h
  | o :: l, i, h, j, o', ho => by
    simp only [pairF, Bool.and_eq_true] at h
    cases j with
    | zero => simp at ho; subst ho; exact h.1
    | succ j =>
      have := pairF_get h.2 j o' (by simpa using ho)
      have e : i + 1 + j = i + (j + 1) := by omega
      rw [e] at this
      exact this

section
variable {ops : Array Oper} {M X : BT (Option Nat)} {a : Nat}

/-- The lists that the masks are. -/
def listA (n : Nat) (M : BT (Option Nat)) : List (List Nat) := (List.range n).map fun i => (List.range n).filter fun j => bitB (mAt M i) j

theorem mem_anc {n i j : Nat} : j ∈ ancOf (listA n M) i ↔ i < n ∧ j < n ∧ bitB (mAt M i) j = true := by
  unfold ancOf listA
  by_cases h : i < n
  · simp [h]
  · simp [h]

structure PF (ops : Array Oper) (M X : BT (Option Nat)) (a : Nat) : Prop where
  edges : ∀ i o, ops[i]? = some o → ∀ e ∈ o.after.toList, Region.binds .any e = true → e.on < i
  mask : ∀ i o, ops[i]? = some o → mAt M i = maskOf M o.after.toList
  wr : ∀ i o d, ops[i]? = some o → o.dst = some d → tget X d = some i
  al : ∀ i, bitB a i = true ↔ opAt? ops allB i = true

theorem get_of_lt {i : Nat} (h : i < ops.size) : ∃ o, ops[i]? = some o := ⟨ops[i], by simp [h]⟩

theorem lt_of_some {i : Nat} {o : Oper} (h : ops[i]? = some o) : i < ops.size := by
  rcases Nat.lt_or_ge i ops.size with k | k
  · exact k
  · rw [Array.getElem?_eq_none k] at h; cases h

theorem PF.lt (pf : PF ops M X a) : ∀ (k i j : Nat), i < k → i < ops.size → bitB (mAt M i) j = true → j < i
  | 0, _, _, h, _, _ => by omega
  | k + 1, i, j, hk, hi, hb => by
    obtain ⟨o, ho⟩ := get_of_lt hi
    rw [pf.mask i o ho] at hb
    obtain ⟨e, h1, h2, h3⟩ := mask_bit hb
    have := pf.edges i o ho e h1 h2
    rcases h3 with rfl | h3
    · exact this
    · have := pf.lt k e.on j (by omega) (by omega) h3; omega

theorem PF.anc (pf : PF ops M X a) {i j : Nat} (hi : i < ops.size) : memN j (ancOf (listA ops.size M) i) = bitB (mAt M i) j := by
  cases hb : bitB (mAt M i) j with
  | true => exact memN_iff.2 (mem_anc.2 ⟨hi, by have := pf.lt (i + 1) i j (by omega) hi hb; omega, hb⟩)
  | false =>
    cases hm : memN j (ancOf (listA ops.size M) i) with
    | false => rfl
    | true => have := (mem_anc.1 (memN_iff.1 hm)).2.2; rw [hb] at this; cases this

theorem PF.ancOk (pf : PF ops M X a) (i : Nat) (hi : i < ops.size) : ancOk ops (listA ops.size M) i = true := by
  obtain ⟨o, ho⟩ := get_of_lt hi
  unfold Ev.ancOk
  rw [ho]
  simp only [Bool.and_eq_true, List.all_eq_true]
  refine ⟨fun e he => ?_, fun j hj => ?_⟩
  · cases hb : Region.binds .any e with
    | false => rfl
    | true => exact Nat.ble_eq_true_of_le (pf.edges i o ho e he hb)
  · have hb := (mem_anc.1 hj).2.2
    rw [pf.mask i o ho] at hb
    obtain ⟨e, h1, h2, h3⟩ := mask_bit hb
    rw [List.any_eq_true]
    refine ⟨e, h1, ?_⟩
    have hlt := pf.edges i o ho e h1 h2
    rw [h2, pf.anc (by omega)]
    simp only [Bool.true_and, Bool.or_eq_true, beq_iff]
    exact h3

theorem PF.writes (pf : PF ops M X a) {j t : Nat} (h : writesAt ops j t = true) : tget X t = some j := by
  obtain ⟨o, h1, h2⟩ := writesAt_iff.1 h
  exact pf.wr j o t h1 h2

theorem PF.pairOk (pf : PF ops M X a) (hp : pairF ops M X ops.toList 0 = true) (i j : Nat) (hi : i < ops.size) (hj : j < ops.size) : pairOk ops (listA ops.size M) i j = true := by
  obtain ⟨o, ho⟩ := get_of_lt hi
  unfold Ev.pairOk
  rw [ho]
  simp only [Bool.or_eq_true, Bool.and_eq_true, beq_iff]
  by_cases hij : i = j
  · exact .inl hij
  refine .inr ⟨?_, ?_⟩
  · rw [List.all_eq_true]
    intro t ht
    cases hw : writesAt ops j t with
    | false => rfl
    | true =>
      have := byAll_get (pairF_get hp i o (by simpa using ho)) t ht j (pf.writes hw)
      rw [pf.anc hi, pf.anc hj]
      simp only [Nat.zero_add, Bool.or_eq_true, beq_iff] at this
      simp only [Bool.not_true, Bool.false_or, Bool.or_eq_true]
      rcases this with (h | h) | h
      · exact absurd h hij
      · exact .inl h
      · exact .inr h
  · cases hd : o.dst with
    | none => rfl
    | some d =>
      simp only
      cases hw : writesAt ops j d with
      | false => rfl
      | true =>
        have h1 := pf.writes hw
        rw [pf.wr i o d ho hd] at h1
        exact absurd (Option.some.inj h1) hij

/-- A list and its mask. -/
def DM (n : Nat) (D : List Nat) (m : Nat) : Prop := ∀ i, (i ∈ D ↔ bitB m i = true) ∧ (i ∈ D → i < n)

theorem DM.cons {n : Nat} {D : List Nat} {m i : Nat} (h : DM n D m) (hi : i < n) : DM n (i :: D) (Nat.lor m (oneM i)) := by
  intro j
  rw [bit_or, bit_one]
  simp only [List.mem_cons, Bool.or_eq_true, beq_iff]
  refine ⟨⟨fun q => q.elim .inr (fun q => .inl ((h j).1.1 q)), fun q => q.elim (fun q => .inr ((h j).1.2 q)) .inl⟩, fun q => q.elim (fun e => e ▸ hi) (h j).2⟩

theorem PF.behind (pf : PF ops M X a) {prev : Option Nat} {i : Nat} (hi : i < ops.size) (hp : ∀ c, prev = some c → c < ops.size) (h : behindF M prev i = true) : behind (listA ops.size M) prev i = true := by
  unfold behindF at h
  unfold Ev.behind
  cases prev with
  | none => rfl
  | some c =>
    simp only [Bool.and_eq_true] at h ⊢
    rw [pf.anc hi]
    refine ⟨h.1, ?_⟩
    unfold subN
    rw [List.all_eq_true]
    intro j hj
    rw [pf.anc hi]
    exact sub_bit h.2 (mem_anc.1 hj).2.2

theorem PF.look (pf : PF ops M X a) {D : List Nat} {m i : Nat} {o : Oper} (hD : DM ops.size D m) (ho : ops[i]? = some o) (h : lookF ops M X m i = true) : ((o.looksAt ops).all fun t => D.all fun j => !writesAt ops j t || memN j (ancOf (listA ops.size M) i)) = true := by
  unfold lookF at h
  rw [ho] at h
  rw [List.all_eq_true]
  intro t ht
  rw [List.all_eq_true]
  intro j hj
  cases hw : writesAt ops j t with
  | false => rfl
  | true =>
    have := byAll_get h t ht j (pf.writes hw)
    rw [(hD j).1.1 hj] at this
    rw [pf.anc (lt_of_some ho)]
    simpa using this

theorem PF.lookOk (pf : PF ops M X a) {D : List Nat} {m i : Nat} (hD : DM ops.size D m) (h1 : subM (mAt M i) m = true) (h2 : (!bitB (mAt M i) i) = true) (h : lookF ops M X m i = true) : lookOk ops (listA ops.size M) D i = true := by
  unfold Ev.lookOk
  cases ho : ops[i]? with
  | none => unfold lookF at h; rw [ho] at h; cases h
  | some o =>
    simp only [Bool.and_eq_true]
    refine ⟨⟨?_, ?_⟩, pf.look hD ho h⟩
    · unfold subN
      rw [List.all_eq_true]
      intro j hj
      exact memN_iff.2 ((hD j).1.2 (sub_bit h1 (mem_anc.1 hj).2.2))
    · rw [pf.anc (lt_of_some ho)]; exact h2

theorem opAt_lt {p : Op → Bool} {i : Nat} (h : opAt? ops p i = true) : i < ops.size := by
  unfold opAt? at h
  cases ho : ops[i]? with
  | none => rw [ho] at h; cases h
  | some o => exact lt_of_some ho

theorem PF.pre (pf : PF ops M X a) {prev : Option Nat} (hp : ∀ c, prev = some c → c < ops.size) {k : Nat → Bool} : ∀ {l : List Nat} {D : List Nat} {m : Nat}, DM ops.size D m → preF ops M X prev k l m = true →
    preOk ops (listA ops.size M) prev D l = true ∧ ∃ m', DM ops.size (l.reverse ++ D) m' ∧ k m' = true
  | [], D, m, hD, h => ⟨rfl, m, hD, h⟩
  | i :: l, D, m, hD, h => by
    simp only [preF, Bool.and_eq_true, force_eq] at h
    obtain ⟨⟨⟨⟨⟨⟨h1, h2⟩, h3⟩, h4⟩, h5⟩, h6⟩, h7⟩ := h
    have hi : i < ops.size := by
      simp only [Bool.or_eq_true] at h1
      exact h1.elim opAt_lt opAt_lt
    obtain ⟨q1, m', q2, q3⟩ := pf.pre hp (hD.cons hi) h7
    refine ⟨?_, m', by simpa using q2, q3⟩
    simp only [preOk, Bool.and_eq_true]
    refine ⟨⟨⟨⟨h1, ?_⟩, pf.behind hi hp h3⟩, pf.lookOk hD h4 h5 h6⟩, q1⟩
    cases hm : memN i D with
    | false => rfl
    | true => rw [(hD i).1.1 (memN_iff.1 hm)] at h2; cases h2

theorem PF.re (pf : PF ops M X a) {D : List Nat} {m : Nat} (hD : DM ops.size D m) : ∀ {l : List Nat}, reF ops M X m l = true → reOk ops (listA ops.size M) D l = true
  | [], _ => rfl
  | i :: l, h => by
    simp only [reF, Bool.and_eq_true] at h
    have ih := pf.re hD h.2
    unfold reOk at ih ⊢
    simp only [List.all_cons, Bool.and_eq_true]
    refine ⟨⟨⟨h.1.1.1, memN_iff.2 ((hD i).1.2 h.1.1.2)⟩, ?_⟩, ih⟩
    cases ho : ops[i]? with
    | none =>
      have := opAt_lt h.1.1.1
      obtain ⟨o, ho'⟩ := get_of_lt this
      rw [ho] at ho'; cases ho'
    | some o => exact pf.look hD ho h.1.2

theorem wait_get {D c : Nat} : ∀ {n : Nat}, waitF M D c n = true → ∀ i, i < n → bitB D i = true ∨ i = c ∨ bitB (mAt M i) c = true
  | 0, _, i, hi => by omega
  | n + 1, h, i, hi => by
    simp only [waitF, Bool.and_eq_true, Bool.or_eq_true, beq_iff] at h
    by_cases e : i = n
    · subst e; rcases h.1 with (q | q) | q
      · exact .inl q
      · exact .inr (.inl q)
      · exact .inr (.inr q)
    · exact wait_get h.2 i (by omega)

theorem full_bit {n i : Nat} (h : i < n) : bitB (Nat.sub (Nat.pow 2 n) 1) i = true := by
  rw [bitB_eq]
  show (2 ^ n - 1).testBit i = true
  rw [Nat.testBit_two_pow_sub_one]
  simpa using h

theorem PF.st (pf : PF ops M X a) : ∀ {l : List Stage} {prev : Option Nat} {D : List Nat} {m : Nat}, (∀ c, prev = some c → c < ops.size) → DM ops.size D m → stF ops M X a l prev m = true → stOk ops (listA ops.size M) D prev l = true
  | [], prev, D, m, _, _, h => by cases h
  | s :: l, prev, D, m, hprev, hD, h => by
    simp only [stF, Bool.and_eq_true] at h
    obtain ⟨⟨h1, h2⟩, h3⟩ := h
    obtain ⟨p1, m', hD1, p2⟩ := pf.pre hprev hD h3
    have hcover : coverOk ops (listA ops.size M) prev D s.re = true := by
      unfold coverOk
      rw [List.all_eq_true]
      intro i hi
      have hb := sub_bit h1 ((hD i).1.1 hi)
      simp only [bit_or, Bool.or_eq_true] at hb
      simp only [Bool.or_eq_true]
      rcases hb with hb | hb | hb
      · exact .inl (.inl (memN_iff.2 (bit_list.1 hb)))
      · exact .inl (.inr ((pf.al i).1 hb))
      · refine .inr ?_
        cases prev with
        | none => rw [prevM, bit_zero] at hb; cases hb
        | some c =>
          simp only [prevM, bit_or, Bool.or_eq_true, bit_one, beq_iff] at hb
          simp only [Bool.or_eq_true, beq_iff]
          rw [pf.anc (hprev c rfl)]
          exact hb
    simp only [stOk, Bool.and_eq_true]
    refine ⟨⟨⟨hcover, pf.re hD h2⟩, p1⟩, ?_⟩
    cases hl : s.loud with
    | none =>
      rw [hl] at p2
      simp only [Bool.and_eq_true] at p2 ⊢
      refine ⟨?_, p2.2⟩
      rw [List.all_eq_true]
      intro i hi
      exact memN_iff.2 ((hD1 i).1.2 (sub_bit p2.1 (full_bit (by simpa using hi))))
    | some c =>
      rw [hl] at p2
      simp only [Bool.and_eq_true, force_eq] at p2 ⊢
      obtain ⟨⟨⟨⟨⟨⟨⟨⟨⟨q1, q2⟩, q3⟩, q4⟩, q5⟩, q6⟩, q7⟩, q8⟩, q9⟩, q10⟩ := p2
      have hc : c < ops.size := by
        cases ho : ops[c]? with
        | none => rw [ho] at q1; cases q1
        | some o => exact lt_of_some ho
      refine ⟨⟨⟨⟨⟨⟨⟨q1, q2⟩, ?_⟩, pf.behind hc hprev q4⟩, pf.lookOk hD1 q5 q6 q7⟩, ?_⟩, ?_⟩, ?_⟩
      · cases hm : memN c (s.pre.reverse ++ D) with
        | false => rfl
        | true => rw [(hD1 c).1.1 (memN_iff.1 hm)] at q3; cases q3
      · rw [List.all_eq_true]
        intro i hi
        cases ha : opAt? ops allB i with
        | false => rfl
        | true =>
          have hb := sub_bit q8 (j := i) (by rw [bit_and, (hD1 i).1.1 hi, (pf.al i).2 ha]; rfl)
          simp only [bit_or, Bool.or_eq_true] at hb
          rw [pf.anc hc]
          simp only [Bool.not_true, Bool.false_or, Bool.or_eq_true]
          exact hb.imp (fun q => memN_iff.2 (bit_list.1 q)) id
      · rw [List.all_eq_true]
        intro i hi
        have hin : i < ops.size := by simpa using hi
        simp only [Bool.or_eq_true, beq_iff]
        rw [pf.anc hin]
        rcases wait_get q9 i hin with q | q | q
        · exact .inl (.inl (memN_iff.2 ((hD1 i).1.2 q)))
        · exact .inl (.inr q)
        · exact .inr q
      · exact pf.st (fun c' e => by cases e; exact hc) (hD1.cons hc) q10

theorem planOk_spec {st : List Stage} (h : planOk ops st = true) : ∃ A, (∀ i, i < ops.size → ancOk ops A i = true) ∧ (∀ i j, i < ops.size → j < ops.size → pairOk ops A i j = true) ∧ stOk ops A [] none st = true := by
  obtain ⟨M, X, a, h1, g⟩ := ancGo_spec _ _ _ _ _ h
  simp only [Bool.and_eq_true] at h1
  have pf : PF ops M X a := by
    refine ⟨fun i o ho e h1 h2 => ?_, fun i o ho => ?_, fun i o d ho hd => ?_, fun i => ?_⟩
    · have := g.edges i o (by simpa using ho) e h1 h2; omega
    · have := g.mask i o (by simpa using ho); simpa using this
    · have := g.wr i o d (by simpa using ho) hd; simpa using this
    · rw [g.al i]
      simp only [bit_zero, Bool.false_eq_true, false_or, Nat.zero_le, Nat.sub_zero, true_and, Array.getElem?_toList]
      unfold opAt?
      constructor
      · rintro ⟨o, q1, q2⟩; rw [q1]; exact q2
      · intro q
        cases ho : ops[i]? with
        | none => rw [ho] at q; cases q
        | some o => rw [ho] at q; exact ⟨o, rfl, q⟩
  exact ⟨listA ops.size M, pf.ancOk, pf.pairOk h1.1, pf.st (fun c e => by cases e) (fun i => ⟨⟨fun q => (by cases q), fun q => by rw [bit_zero] at q; cases q⟩, fun q => (by cases q)⟩) h1.2⟩
end
end Go.Ev
