/- The reference's reader and the machine: what is left of a text, read by the machine. -/
import Derived.Test.YtphgchjoglgeeaaEwRf2
import Derived.Test.YtphgchjoglgeeaaEwRxS
set_option linter.unusedVariables false
set_option linter.unusedSimpArgs false
namespace Go.Ew
open Go.Ev Go.Deep

/-- What the machine comes to with what stands from i on. -/
def Lft (s : ByteArray) (σ : RdS) (i : Nat) : Option RdS := (foldT σ (letL ((bytesI s).drop i) false)).bind finR

theorem Lft_end {s : ByteArray} {i : Nat} (h : s.size ≤ i) (σ : RdS) : Lft s σ i = finR σ := by
  unfold Lft
  rw [List.drop_eq_nil_of_le (by rw [bytes_len]; exact h)]
  rfl

theorem peek_byte {s : ByteArray} {i : Nat} (h : i < s.size) : peekM s i = byteAt s i := if_neg (by omega)
theorem peek_end {s : ByteArray} {i : Nat} (h : s.size ≤ i) : peekM s i = 0 := if_pos h

theorem Lft_plain {s : ByteArray} {i : Nat} (h : i < s.size) (hc : peekM s i ≠ 92) (σ : RdS) : Lft s σ i = (takeR σ (peekM s i) false).bind fun τ => Lft s τ (i + 1) := by
  unfold Lft
  rw [bytes_drop h, ← peek_byte h]
  rw [letL, if_neg (fun q => hc q.1), foldT]
  cases takeR σ (peekM s i) false <;> rfl

theorem Lft_esc {s : ByteArray} {i : Nat} (h : i + 1 < s.size) (hc : peekM s i = 92) (σ : RdS) : Lft s σ i = (takeR σ (peekM s (i + 1)) true).bind fun τ => Lft s τ (i + 2) := by
  unfold Lft
  rw [bytes_drop (by omega : i < s.size), ← peek_byte (by omega : i < s.size)]
  rw [letL, if_pos ⟨hc, rfl, by rw [bytes_drop h]; simp⟩]
  rw [bytes_drop h, ← peek_byte h]
  rw [letL, if_neg (fun q => by cases q.2.1), foldT]
  cases takeR σ (peekM s (i + 1)) true <;> rfl

theorem Lft_last {s : ByteArray} {i : Nat} (h : i + 1 = s.size) (hc : peekM s i = 92) (σ : RdS) : Lft s σ i = (takeR σ 92 false).bind finR := by
  unfold Lft
  rw [bytes_drop (by omega : i < s.size), ← peek_byte (by omega : i < s.size)]
  rw [letL, if_neg (fun q => q.2.2 (List.drop_eq_nil_of_le (by rw [bytes_len]; omega))), foldT, hc]
  rw [List.drop_eq_nil_of_le (by rw [bytes_len]; omega)]
  cases takeR σ 92 false <;> rfl

/-- Groups are closed one by one. -/
theorem take_outer {σ τ : RdS} {c : Int} {e : Bool} (h : takeR σ c e = some τ) : σ.outer.length ≤ τ.outer.length + 1 := by
  have hj := join_outer σ
  have he : ∀ {τ'}, endR σ = some τ' → τ'.outer = σ.outer := fun q => end_outer q
  unfold takeR at h
  split at h
  · rename_i l pl hcl
    unfold inClassR at h
    repeat' split at h
    all_goals first | (cases h; done) | skip
    all_goals cases h
    all_goals first | (show σ.outer.length ≤ σ.outer.length + 1; omega) | (show σ.outer.length ≤ (joinR σ).outer.length + 1; rw [hj]; omega)
  · split at h
    · cases h
      show σ.outer.length ≤ (joinR σ).outer.length + 1
      rw [hj]; omega
    · unfold markR at h
      repeat' split at h
      · unfold openR at h
        split at h
        · cases h
          show σ.outer.length ≤ ((joinR σ).outer ++ _).length + 1
          rw [hj, List.length_append]; omega
        · cases h
      · unfold closeR at h
        split at h
        · cases h
        · split at h
          · cases h
          · cases h
            show σ.outer.length ≤ σ.outer.dropLast.length + 1
            rw [List.length_dropLast]; omega
      · unfold openC at h
        split at h
        · cases h; show σ.outer.length ≤ σ.outer.length + 1; omega
        · cases h
      · cases h
        show σ.outer.length ≤ (joinR σ).outer.length + 1
        rw [hj]; omega
      · rw [he h]; omega
      all_goals first | (cases h; done) | skip
      all_goals
        unfold repeatR at h
        split at h
        · cases h
        · cases h; show σ.outer.length ≤ σ.outer.length + 1; omega

theorem fin_outer {σ τ : RdS} (h : finR σ = some τ) : σ.outer = [] := by
  unfold finR at h
  split at h
  · cases h
  · split at h
    · rename_i q; exact List.eq_nil_of_length_eq_zero q
    · cases h

theorem fold_short : ∀ (l : List (Int × Bool)) (σ : RdS), l.length < σ.outer.length → (foldT σ l).bind finR = none
  | [], σ, h => by
    show finR σ = none
    cases hf : finR σ with
    | none => rfl
    | some τ => rw [fin_outer hf] at h; simp at h
  | (c, e) :: r, σ, h => by
    rw [foldT]
    cases ht : takeR σ c e with
    | none => rfl
    | some τ =>
      have := take_outer ht
      simp only [List.length_cons] at h
      exact fold_short r τ (by omega)

theorem Lft_short {s : ByteArray} {σ : RdS} {i : Nat} (h : s.size - i < σ.outer.length) : Lft s σ i = none := by
  refine fold_short _ σ (Nat.lt_of_le_of_lt (let_len _ _) ?_)
  rw [List.length_drop, bytes_len]; exact h

theorem spec_marks (c : Int) : specB c marksS = decide (c ∈ marksB) := rfl
theorem spec_cls (c : Int) : specB c clsS = decide (c ∈ clsB) := rfl

/-- A byte that may be meant. -/
theorem one_good {s all : ByteArray} {sp : List Int} {i : Nat} (hsp : ∀ c, specB c all = decide (c ∈ sp)) (h92 : (92 : Int) ∈ sp) (hr : ∀ c ∈ sp, 32 ≤ c ∧ c ≤ 126) (h : (oneM s all i).2.2 = false) :
    ∃ e, standsB (oneM s all i).1 e sp = true ∧ ∀ σ, Lft s σ i = (takeR σ (oneM s all i).1 e).bind fun τ => Lft s τ (oneM s all i).2.1 := by
  have h0 : specB 0 all = false := by
    rw [hsp]
    refine decide_eq_false fun q => ?_
    have := (hr 0 q).1; omega
  have hok := one_ok h0 h
  unfold oneM at h hok ⊢
  split
  · rename_i hp
    rw [if_pos hp] at h hok
    have h : (!(specB (peekM s (i + 1)) all)) = false := h
    have h : specB (peekM s (i + 1)) all = true := by simpa using h
    rw [hsp] at h
    have hm := of_decide_eq_true h
    refine ⟨true, ?_, fun σ => Lft_esc (by have : i + 2 ≤ s.size := hok.1; omega) hp σ⟩
    have := hr _ hm
    unfold standsB
    simp [this, hm]
  · rename_i hp
    rw [if_neg hp] at h hok
    have h : (decide (peekM s i < 32) || (decide (126 < peekM s i) || specB (peekM s i) all)) = false := h
    simp only [Bool.or_eq_false_iff, decide_eq_false_iff_not] at h
    refine ⟨false, ?_, fun σ => Lft_plain (by have : i + 1 ≤ s.size := hok.1; omega) hp σ⟩
    rw [hsp] at h
    have h3 := of_decide_eq_false h.2.2
    unfold standsB
    have a1 : 32 ≤ peekM s i := by omega
    have a2 : peekM s i ≤ 126 := by omega
    simp [a1, a2, h3]

/-- A byte that may not be. -/
theorem one_bad {s all : ByteArray} {sp : List Int} {i : Nat} (hi : i ≤ s.size) (hsp : ∀ c, specB c all = decide (c ∈ sp)) (h92 : (92 : Int) ∈ sp) (hr : ∀ c ∈ sp, 32 ≤ c ∧ c ≤ 126) (h : (oneM s all i).2.2 = true) :
    (i = s.size ∧ ∀ σ, Lft s σ i = finR σ) ∨ (i < s.size ∧ ∃ c e, (e = false → c = peekM s i) ∧ (e = true → c ∉ sp) ∧ standsB c e sp = false ∧ ∀ σ, takeR σ c e = none → Lft s σ i = none) := by
  rcases Nat.lt_or_ge i s.size with hlt | hge
  · right
    refine ⟨hlt, ?_⟩
    unfold oneM at h
    split at h
    · rename_i hp
      have h : (!(specB (peekM s (i + 1)) all)) = true := h
      have h : specB (peekM s (i + 1)) all = false := by simpa using h
      rw [hsp] at h
      have hm := of_decide_eq_false h
      rcases Nat.lt_or_ge (i + 1) s.size with h2 | h2
      · refine ⟨peekM s (i + 1), true, fun q => (by cases q), fun _ => hm, ?_, fun σ hn => ?_⟩
        · unfold standsB; simp [hm]
        · rw [Lft_esc h2 hp, hn]; rfl
      · refine ⟨92, false, fun _ => hp.symm, fun q => (by cases q), ?_, fun σ hn => ?_⟩
        · unfold standsB; simp [h92]
        · rw [Lft_last (by omega) hp, hn]; rfl
    · rename_i hp
      have h : (decide (peekM s i < 32) || (decide (126 < peekM s i) || specB (peekM s i) all)) = true := h
      rw [hsp] at h
      refine ⟨peekM s i, false, fun _ => rfl, fun q => (by cases q), ?_, fun σ hn => ?_⟩
      · simp only [Bool.or_eq_true, decide_eq_true_eq] at h
        unfold standsB
        rcases h with h | h | h
        · have : ¬ 32 ≤ peekM s i := by omega
          simp [this]
        · have : ¬ peekM s i ≤ 126 := by omega
          simp [this]
        · simp [h]
      · rw [Lft_plain hlt hp, hn]; rfl
  · left
    exact ⟨by omega, fun σ => Lft_end hge σ⟩

theorem marks_r : ∀ c ∈ marksB, 32 ≤ c ∧ c ≤ 126 := by decide
theorem cls_r : ∀ c ∈ clsB, 32 ≤ c ∧ c ≤ 126 := by decide

/-- In a class, a byte that may not be one of it. -/
theorem cls_bad {s : ByteArray} {i : Nat} {σ : RdS} {l : List Rg} {pl : Int} (hi : i ≤ s.size) (hσ : σ.cls = some (l, pl)) (h : (oneM s clsS i).2.2 = true) (hno : (pl ≠ 1 ∨ peekM s i ≠ 45) ∧ (wholeC l pl = false ∨ peekM s i ≠ 93)) : Lft s σ i = none := by
  rcases one_bad (sp := clsB) hi spec_cls (by decide) cls_r h with ⟨_, q⟩ | ⟨hlt, c, e, q1, q2, q3, q4⟩
  · rw [q]; unfold finR; rw [hσ]
  · refine q4 σ ?_
    unfold takeR
    rw [hσ]
    show inClassR σ l pl c e = none
    unfold inClassR
    rw [if_neg (by rw [q3]; decide)]
    cases e with
    | true =>
      have hc := q2 rfl
      rw [if_neg (fun x => hc (by rw [x]; decide)), if_neg (fun x => hc (by rw [x]; decide))]
    | false =>
      have hc := q1 rfl
      rw [hc]
      split
      · rename_i h45
        rw [if_neg (fun x => hno.1.elim (fun y => y x) fun y => y h45)]
      · split
        · rename_i h93
          rw [if_neg (fun x => hno.2.elim (fun y => by rw [y] at x; cases x) fun y => y h93)]
        · rfl

theorem cls_good {s : ByteArray} {i : Nat} {σ : RdS} {l : List Rg} {pl : Int} (hσ : σ.cls = some (l, pl)) (h : (oneM s clsS i).2.2 = false) : Lft s σ i = (match addC l pl (oneM s clsS i).1 with
    | some x => some { σ with cls := some x }
    | none => none : Option RdS).bind fun τ => Lft s τ (oneM s clsS i).2.1 := by
  obtain ⟨e, h1, h2⟩ := one_good (sp := clsB) spec_cls (by decide) cls_r h
  rw [h2]
  have : takeR σ (oneM s clsS i).1 e = inClassR σ l pl (oneM s clsS i).1 e := by unfold takeR; rw [hσ]
  rw [this]
  unfold inClassR
  rw [if_pos h1]
  cases addC l pl (oneM s clsS i).1 <;> rfl

/-- One range. -/
theorem step_is {s : ByteArray} {i : Nat} {σ : RdS} {l : List Rg} {pl : Int} (hi : i ≤ s.size) (hσ : σ.cls = some (l, pl)) (hp : pl = 0 ∨ (pl = 1 ∧ peekM s i ≠ 45)) (hx : l = [] ∨ peekM s i ≠ 93) :
    ((stepC s i).2.2 = true → Lft s σ i = none) ∧ ((stepC s i).2.2 = false → ∃ pl', (pl' = 0 ∨ (pl' = 1 ∧ peekM s (stepC s i).2.1 ≠ 45)) ∧ Lft s σ i = Lft s { σ with cls := some (l ++ [(stepC s i).1], pl') } (stepC s i).2.1) := by
  have hno : (pl ≠ 1 ∨ peekM s i ≠ 45) ∧ (wholeC l pl = false ∨ peekM s i ≠ 93) := by
    refine ⟨?_, ?_⟩
    · rcases hp with q | q
      · left; omega
      · right; exact q.2
    · rcases hx with q | q
      · left; rw [q]; rfl
      · right; exact q
  have h2 : pl ≠ 2 := by rcases hp with q | q <;> omega
  cases ho : (oneM s clsS i).2.2 with
  | true =>
    have hs : (stepC s i) = (((oneM s clsS i).1, (oneM s clsS i).1), (oneM s clsS i).2.1, (oneM s clsS i).2.2) := if_neg (fun q => by rw [ho] at q; cases q.1)
    rw [hs]
    refine ⟨fun _ => cls_bad hi hσ ho hno, fun q => ?_⟩
    have q : (oneM s clsS i).2.2 = false := q
    rw [ho] at q; cases q
  | false =>
    have g1 := cls_good (i := i) hσ ho
    have hok := one_ok (all := clsS) (i := i) (s := s) (by decide +kernel) ho
    have ha : addC l pl (oneM s clsS i).1 = some (l ++ [((oneM s clsS i).1, (oneM s clsS i).1)], 1) := if_pos h2
    rw [ha] at g1
    have g1 : Lft s σ i = Lft s { σ with cls := some (l ++ [((oneM s clsS i).1, (oneM s clsS i).1)], 1) } (oneM s clsS i).2.1 := g1
    by_cases hd : peekM s (oneM s clsS i).2.1 = 45
    · have hs : (stepC s i) = (((oneM s clsS i).1, (oneM s clsS ((oneM s clsS i).2.1 + 1)).1), (oneM s clsS ((oneM s clsS i).2.1 + 1)).2.1, (oneM s clsS ((oneM s clsS i).2.1 + 1)).2.2 || decide ((oneM s clsS ((oneM s clsS i).2.1 + 1)).1 < (oneM s clsS i).1)) := if_pos ⟨ho, hd⟩
      have hlt : (oneM s clsS i).2.1 < s.size := peek_lt (by rw [hd]; decide)
      have g2 := Lft_plain hlt (by rw [hd]; decide) { σ with cls := some (l ++ [((oneM s clsS i).1, (oneM s clsS i).1)], 1) }
      rw [hd] at g2
      have ht : takeR { σ with cls := some (l ++ [((oneM s clsS i).1, (oneM s clsS i).1)], 1) } 45 false = some { σ with cls := some (l ++ [((oneM s clsS i).1, (oneM s clsS i).1)], 2) } := rfl
      rw [ht] at g2
      have g2 : Lft s { σ with cls := some (l ++ [((oneM s clsS i).1, (oneM s clsS i).1)], 1) } (oneM s clsS i).2.1 = Lft s { σ with cls := some (l ++ [((oneM s clsS i).1, (oneM s clsS i).1)], 2) } ((oneM s clsS i).2.1 + 1) := g2
      have hdc : addC (l ++ [((oneM s clsS i).1, (oneM s clsS i).1)]) 2 (oneM s clsS ((oneM s clsS i).2.1 + 1)).1 = if (oneM s clsS ((oneM s clsS i).2.1 + 1)).1 < (oneM s clsS i).1 then none else some (l ++ [((oneM s clsS i).1, (oneM s clsS ((oneM s clsS i).2.1 + 1)).1)], 0) := by
        unfold addC
        rw [if_neg (by decide)]
        simp
      rw [hs]
      cases ho2 : (oneM s clsS ((oneM s clsS i).2.1 + 1)).2.2 with
      | true =>
        refine ⟨fun _ => ?_, fun q => ?_⟩
        · rw [g1, g2]
          exact cls_bad (by omega) rfl ho2 ⟨.inl (by decide), .inl (by unfold wholeC; simp)⟩
        · simp at q
      | false =>
        have g3 := cls_good (i := (oneM s clsS i).2.1 + 1) (σ := { σ with cls := some (l ++ [((oneM s clsS i).1, (oneM s clsS i).1)], 2) }) rfl ho2
        rw [hdc] at g3
        refine ⟨fun q => ?_, fun q => ?_⟩
        · have q : (oneM s clsS ((oneM s clsS i).2.1 + 1)).1 < (oneM s clsS i).1 := by simpa using q
          rw [if_pos q] at g3
          rw [g1, g2, g3]; rfl
        · have q : ¬ (oneM s clsS ((oneM s clsS i).2.1 + 1)).1 < (oneM s clsS i).1 := by simpa using q
          rw [if_neg q] at g3
          exact ⟨0, .inl rfl, by rw [g1, g2, g3]; rfl⟩
    · have hs : (stepC s i) = (((oneM s clsS i).1, (oneM s clsS i).1), (oneM s clsS i).2.1, (oneM s clsS i).2.2) := if_neg (fun q => hd q.2)
      rw [hs]
      refine ⟨fun q => ?_, fun _ => ⟨1, .inr ⟨rfl, hd⟩, g1⟩⟩
      have q : (oneM s clsS i).2.2 = true := q
      rw [ho] at q; cases q

/-- What stands in a class, read by both. -/
theorem class_is (s : ByteArray) : ∀ (f : Nat) (l : List Rg) (i : Nat) (σ : RdS) (pl : Int), i ≤ s.size → s.size + 1 - i ≤ f → σ.cls = some (l, pl) → (pl = 0 ∨ (pl = 1 ∧ peekM s i ≠ 45)) →
    ((classL s f l i false).2.2 = true → Lft s σ i = none) ∧
    ((classL s f l i false).2.2 = false → (classL s f l i false).2.1 < s.size ∧ Lft s σ i = Lft s (addClassR { σ with cls := none } (classL s f l i false).1) ((classL s f l i false).2.1 + 1)) ∧
    i ≤ (classL s f l i false).2.1 ∧ (classL s f l i false).2.1 ≤ s.size + 5 ∧ (classL s f l i false).1.length ≤ l.length + ((classL s f l i false).2.1 - i) := by
  intro f
  induction f with
  | zero => intro l i σ pl hi hf; omega
  | succ f ih =>
    intro l i σ pl hi hf hσ hp
    rw [classL]
    split
    · rename_i hc
      have hx : l = [] ∨ peekM s i ≠ 93 := hc.2
      have h1 := step_is hi hσ hp hx
      have hle := step_le s i
      cases hs : (stepC s i).2.2 with
      | true =>
        have hlt : i < (stepC s i).2.1 := by
          have h1 := one_le s clsS i
          have h2 := one_le s clsS ((oneM s clsS i).2.1 + 1)
          unfold stepC
          split
          · show i < (oneM s clsS ((oneM s clsS i).2.1 + 1)).2.1; omega
          · show i < (oneM s clsS i).2.1; omega
        have : classL s f (l ++ [(stepC s i).1]) (stepC s i).2.1 true = (l ++ [(stepC s i).1], (stepC s i).2.1, true) := by
          cases f with
          | zero => rfl
          | succ f => rw [classL, if_neg (fun q => by cases q.1)]
        rw [this]
        refine ⟨fun _ => h1.1 hs, fun q => (by cases q), by show i ≤ (stepC s i).2.1; omega, by show (stepC s i).2.1 ≤ _; omega, ?_⟩
        show (l ++ [(stepC s i).1]).length ≤ l.length + ((stepC s i).2.1 - i)
        rw [List.length_append]; simp only [List.length_cons, List.length_nil]; omega
      | false =>
        obtain ⟨pl', q1, q2⟩ := h1.2 hs
        have hok := step_ok hs
        obtain ⟨r1, r2, r3, r4, r5⟩ := ih (l ++ [(stepC s i).1]) (stepC s i).2.1 { σ with cls := some (l ++ [(stepC s i).1], pl') } pl' hok.1 (by omega) rfl q1
        refine ⟨fun q => by rw [q2]; exact r1 q, fun q => ⟨(r2 q).1, by rw [q2]; exact (r2 q).2⟩, by omega, r4, ?_⟩
        rw [List.length_append] at r5
        simp only [List.length_cons, List.length_nil] at r5
        omega
    · rename_i hc
      have hx : l ≠ [] ∧ peekM s i = 93 := by
        refine ⟨fun q => hc ⟨rfl, .inl q⟩, ?_⟩
        apply Classical.byContradiction
        intro q
        exact hc ⟨rfl, .inr q⟩
      have hlt : i < s.size := peek_lt (by rw [hx.2]; decide)
      refine ⟨fun q => (by cases q), fun _ => ⟨hlt, ?_⟩, Nat.le_refl _, by show i ≤ _; omega, by show l.length ≤ _; omega⟩
      rw [Lft_plain hlt (by rw [hx.2]; decide), hx.2]
      have ht : takeR σ 93 false = some { addClassR σ l with cls := none } := by
        unfold takeR
        rw [hσ]
        show inClassR σ l pl 93 false = _
        unfold inClassR
        rw [if_neg (by decide), if_neg (by decide), if_pos rfl, if_pos]
        unfold wholeC
        have h1 : 0 < l.length := List.length_pos_iff.2 hx.1
        have h2 : pl ≠ 2 := by rcases hp with q | q <;> omega
        simp [h1, h2]
      rw [ht]
      show Lft s _ (i + 1) = Lft s _ (i + 1)
      congr 1
      unfold addClassR joinR putR
      split <;> rfl
end Go.Ew
