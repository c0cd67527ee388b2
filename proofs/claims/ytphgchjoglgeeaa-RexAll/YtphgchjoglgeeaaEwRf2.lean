/- The reference's reader of patterns: a class. -/
import Derived.Test.YtphgchjoglgeeaaEwRf1
set_option linter.unusedVariables false
set_option linter.unusedSimpArgs false
namespace Go.Ew
open Go.Ev Go.Deep

theorem peek_lt {s : ByteArray} {i : Nat} (h : peekM s i ≠ 0) : i < s.size := by
  unfold peekM at h
  split at h
  · exact absurd rfl h
  · omega

theorem one_ok {s all : ByteArray} {i : Nat} (h0 : specB 0 all = false) (h : (oneM s all i).2.2 = false) : (oneM s all i).2.1 ≤ s.size ∧ i < (oneM s all i).2.1 := by
  unfold oneM at h ⊢
  split
  · rename_i hp
    rw [if_pos hp] at h
    have h : (!(specB (peekM s (i + 1)) all)) = false := h
    have : i + 1 < s.size := peek_lt fun q => by rw [q, h0] at h; cases h
    exact ⟨by show i + 2 ≤ _; omega, by show i < i + 2; omega⟩
  · rename_i hp
    rw [if_neg hp] at h
    have h : (decide (peekM s i < 32) || (decide (126 < peekM s i) || specB (peekM s i) all)) = false := h
    have : i < s.size := peek_lt fun q => by rw [q] at h; cases h
    exact ⟨by show i + 1 ≤ _; omega, by show i < i + 1; omega⟩

theorem one_le (s all : ByteArray) (i : Nat) : i < (oneM s all i).2.1 ∧ (oneM s all i).2.1 ≤ i + 2 := by
  unfold oneM
  split
  · exact ⟨by show i < i + 2; omega, by show i + 2 ≤ _; omega⟩
  · exact ⟨by show i < i + 1; omega, by show i + 1 ≤ _; omega⟩

/-- One range more. -/
def stepC (s : ByteArray) (i : Nat) : Rg × Nat × Bool :=
  if (oneM s clsS i).2.2 = false ∧ peekM s (oneM s clsS i).2.1 = 45 then
    (((oneM s clsS i).1, (oneM s clsS ((oneM s clsS i).2.1 + 1)).1), (oneM s clsS ((oneM s clsS i).2.1 + 1)).2.1, (oneM s clsS ((oneM s clsS i).2.1 + 1)).2.2 || decide ((oneM s clsS ((oneM s clsS i).2.1 + 1)).1 < (oneM s clsS i).1))
  else (((oneM s clsS i).1, (oneM s clsS i).1), (oneM s clsS i).2.1, (oneM s clsS i).2.2)

theorem step_ok {s : ByteArray} {i : Nat} (h : (stepC s i).2.2 = false) : (stepC s i).2.1 ≤ s.size ∧ i < (stepC s i).2.1 := by
  have h0 : specB 0 clsS = false := by decide +kernel
  unfold stepC at h ⊢
  split
  · rename_i hp
    rw [if_pos hp] at h
    have h : ((oneM s clsS ((oneM s clsS i).2.1 + 1)).2.2 || decide ((oneM s clsS ((oneM s clsS i).2.1 + 1)).1 < (oneM s clsS i).1)) = false := h
    rw [Bool.or_eq_false_iff] at h
    have h1 := one_ok h0 h.1
    have h2 := one_le s clsS i
    exact ⟨h1.1, by show i < (oneM s clsS ((oneM s clsS i).2.1 + 1)).2.1; omega⟩
  · rename_i hp
    rw [if_neg hp] at h
    exact one_ok h0 h

theorem step_le (s : ByteArray) (i : Nat) : (stepC s i).2.1 ≤ i + 5 := by
  have h1 := one_le s clsS i
  have h2 := one_le s clsS ((oneM s clsS i).2.1 + 1)
  unfold stepC
  split
  · show (oneM s clsS ((oneM s clsS i).2.1 + 1)).2.1 ≤ _; omega
  · show (oneM s clsS i).2.1 ≤ _; omega

/-- What stands in a class. -/
def classL (s : ByteArray) : Nat → List Rg → Nat → Bool → List Rg × Nat × Bool
  | 0, l, i, b => (l, i, b)
  | f + 1, l, i, b => if b = false ∧ (l = [] ∨ peekM s i ≠ 93) then classL s f (l ++ [(stepC s i).1]) (stepC s i).2.1 (stepC s i).2.2 else (l, i, b)

def measC (s : ByteArray) (i : Nat) (b : Bool) : Nat := if b = true then 0 else s.size + 1 - i

/-- More of it changes nothing. -/
theorem class_more (s : ByteArray) : ∀ (f g : Nat) (l : List Rg) (i : Nat) (b : Bool), (b = false → i ≤ s.size) → measC s i b ≤ f → measC s i b ≤ g → classL s f l i b = classL s g l i b := by
  intro f
  induction f with
  | zero =>
    intro g l i b hi hf hg
    have hb : b = true := by
      cases b with
      | true => rfl
      | false => have := hi rfl; simp [measC] at hf; omega
    subst hb
    cases g with
    | zero => rfl
    | succ g => rw [classL, classL, if_neg (fun q => by cases q.1)]
  | succ f ih =>
    intro g l i b hi hf hg
    cases g with
    | zero =>
      have hb : b = true := by
        cases b with
        | true => rfl
        | false => have := hi rfl; simp [measC] at hg; omega
      subst hb
      rw [classL, classL, if_neg (fun q => by cases q.1)]
    | succ g =>
      rw [classL, classL]
      split
      · rename_i hc
        have hb : b = false := hc.1
        subst hb
        have hi' := hi rfl
        have hm : measC s i false = s.size + 1 - i := by simp [measC]
        have key : measC s (stepC s i).2.1 (stepC s i).2.2 + 1 ≤ s.size + 1 - i := by
          cases hs : (stepC s i).2.2 with
          | true => simp [measC]; omega
          | false => have := step_ok hs; simp [measC]; omega
        exact ih g _ _ _ (fun q => (step_ok q).1) (by omega) (by omega)
      · rfl
end Go.Ew
