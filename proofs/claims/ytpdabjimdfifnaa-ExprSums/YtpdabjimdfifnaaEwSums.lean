/- Sums, differences and products that may come round. -/
import Derived.Test.YtpdabjimdfifnaaEwSize3
set_option linter.unusedVariables false
set_option linter.unusedSimpArgs false
namespace Go.Ew
open Go.Ev Go.Deep Go.Proofs.Ytpdabjimdfifnaa.Va

abbrev In64 (x : Int) : Prop := -9223372036854775808 ≤ x ∧ x ≤ 9223372036854775807

theorem wrap_k (M : Int) : ∃ k : Int, M = IntKind.wrap .i64 M + 18446744073709551616 * k ∧ In64 (IntKind.wrap .i64 M) := by
  rw [IntKind.wrap_i64]
  refine ⟨(M + 9223372036854775808) / 18446744073709551616, ?_, ?_, ?_⟩ <;> omega

theorem abs_tdiv (P a : Int) : (P.tdiv a).natAbs = P.natAbs / a.natAbs := Int.natAbs_tdiv P a
theorem abs_tmod (P a : Int) : (P.tmod a).natAbs = P.natAbs % a.natAbs := Int.natAbs_tmod P a

/-- Where the quotient is right the product is. -/
theorem mul_right {a b : Int} (ha : In64 a) (hb : In64 b) (h0 : a ≠ 0) (hn : ¬ (a = -1 ∧ b = -9223372036854775808)) (h : IntKind.wrap .i64 (Int.tdiv (IntKind.wrap .i64 (a * b)) a) = b) : IntKind.wrap .i64 (a * b) = a * b := by
  obtain ⟨k, hk, hP⟩ := wrap_k (a * b)
  generalize hPd : IntKind.wrap .i64 (a * b) = P at *
  have h1 := Int.mul_tdiv_add_tmod P a
  have h2 := abs_tdiv P a
  have h3 := abs_tmod P a
  have h4 : P.natAbs % a.natAbs < a.natAbs := Nat.mod_lt _ (by omega)
  have h5 : P.natAbs / a.natAbs ≤ P.natAbs := Nat.div_le_self _ _
  have hT : P.tdiv a ≠ 9223372036854775808 := by
    intro e
    have hq : P.natAbs / a.natAbs = 9223372036854775808 := by rw [← h2, e]; rfl
    have hPa : P.natAbs ≤ 9223372036854775808 := by omega
    have ha1 : a.natAbs = 1 := by
      have hpos : 0 < a.natAbs := by omega
      have : 9223372036854775808 * a.natAbs ≤ P.natAbs := by rw [← hq]; exact Nat.div_mul_le_self _ _
      rcases Nat.lt_or_ge a.natAbs 2 with q | q
      · omega
      · have : 9223372036854775808 * 2 ≤ 9223372036854775808 * a.natAbs := Nat.mul_le_mul_left _ q
        omega
    rw [e] at h
    have hb' : b = -9223372036854775808 := by rw [← h]; decide
    have ha' : a = 1 ∨ a = -1 := by omega
    rcases ha' with rfl | rfl
    · rw [e] at h1
      omega
    · exact hn ⟨rfl, hb'⟩
  have hTb : P.tdiv a = b := by rw [← h]; exact (wrap64 (by omega) (by omega)).symm
  rw [hTb] at h1
  generalize a * b = M at *
  generalize P.tmod a = r at *
  omega

theorem tdiv_exact {a b : Int} (h0 : a ≠ 0) : Int.tdiv (a * b) a = b ∧ Int.tmod (a * b) a = 0 := by
  refine ⟨Int.mul_tdiv_cancel_left b h0, ?_⟩
  exact Int.mul_tmod_right a b

theorem mul_ok {a b : Int} (ha : In64 a) (hb : In64 b) (h : (decide (a = 0) || (decide (IntKind.wrap .i64 (Int.tdiv (IntKind.wrap .i64 (a * b)) a) = b) && !(decide (a = -1) && decide (b = -9223372036854775808)))) = true) (h0 : a ≠ 0) :
    Int.tmod (IntKind.wrap .i64 (a * b)) a = 0 ∧ IntKind.wrap .i64 (Int.tdiv (IntKind.wrap .i64 (a * b)) a) = b := by
  simp only [Bool.or_eq_true, Bool.and_eq_true, decide_eq_true_eq, Bool.not_eq_true', Bool.and_eq_false_iff, decide_eq_false_iff_not] at h
  rcases h with h | ⟨h1, h2⟩
  · exact absurd h h0
  · refine ⟨?_, h1⟩
    rw [mul_right ha hb h0 (fun q => h2.elim (fun e => e q.1) (fun e => e q.2)) h1]
    exact (tdiv_exact h0).2

theorem mul_no {a b : Int} (ha : In64 a) (hb : In64 b) (h : (decide (a = 0) || (decide (IntKind.wrap .i64 (Int.tdiv (IntKind.wrap .i64 (a * b)) a) = b) && !(decide (a = -1) && decide (b = -9223372036854775808)))) = false) :
    a ≠ 0 ∧ b ≠ 0 ∧ (¬ (a = -1 ∧ b = -9223372036854775808) → ¬ (b = -1 ∧ a = -9223372036854775808) → IntKind.wrap .i64 (Int.tdiv (IntKind.wrap .i64 (a * b)) b) ≠ a) := by
  simp only [Bool.or_eq_false_iff, Bool.and_eq_false_iff, decide_eq_false_iff_not, Bool.not_eq_false', Bool.and_eq_true, decide_eq_true_eq] at h
  obtain ⟨h0, h1⟩ := h
  have key : b ≠ 0 := fun e => by
    subst e
    rcases h1 with h1 | h1
    · rw [Int.mul_zero] at h1
      have : IntKind.wrap .i64 0 = 0 := by decide
      rw [this, Int.zero_tdiv, this] at h1
      exact h1 rfl
    · omega
  refine ⟨h0, key, fun n1 n2 e => ?_⟩
  rw [Int.mul_comm] at e
  have hP := mul_right hb ha key n2 e
  rcases h1 with h1 | h1
  · refine h1 ?_
    rw [Int.mul_comm] at hP
    rw [hP, (tdiv_exact h0).1]
    exact wrap64 hb.1 hb.2
  · exact n1 h1

/-- A sum comes round just where both have one sign and it has the other one. -/
theorem add_round {a b : Int} (ha : In64 a) (hb : In64 b) : (decide (a < IntKind.wrap .i64 (a + b)) == decide (0 < b)) = !((decide (a < 0) == decide (b < 0)) && !(decide (IntKind.wrap .i64 (a + b) < 0) == decide (a < 0))) := by
  obtain ⟨k, hk, hW⟩ := wrap_k (a + b)
  generalize IntKind.wrap .i64 (a + b) = W at *
  by_cases h1 : a < 0 <;> by_cases h2 : b < 0 <;> by_cases h3 : W < 0 <;> by_cases h4 : a < W <;> by_cases h5 : 0 < b <;> simp [h1, h2, h3, h4, h5] <;> omega

theorem sub_round {a b : Int} (ha : In64 a) (hb : In64 b) : (decide (IntKind.wrap .i64 (a - b) < a) == decide (0 < b)) = !(!(decide (a < 0) == decide (b < 0)) && !(decide (IntKind.wrap .i64 (a - b) < 0) == decide (a < 0))) := by
  obtain ⟨k, hk, hW⟩ := wrap_k (a - b)
  generalize IntKind.wrap .i64 (a - b) = W at *
  by_cases h1 : a < 0 <;> by_cases h2 : b < 0 <;> by_cases h3 : W < 0 <;> by_cases h4 : W < a <;> by_cases h5 : 0 < b <;> simp [h1, h2, h3, h4, h5] <;> omega

theorem ok_numIf {b : Bool} {n : Int} : Ok (numIfV b n) := by
  unfold numIfV
  split
  · exact ok_num n
  · exact ok_bad (by decide) (by decide)

theorem eval_nums {op a b : Int} {w : V} (hop : op = 4 ∨ op = 5 ∨ op = 6) (hw : twoV op (numV a) (numV b) = w) (hk : Ok w) : evalE [] [] 12 (opE op [conE (numV a), conE (numV b)]) = w := by
  have h1 : evalE [] [] 11 (conE (numV a)) = numV a := eval_con (ok_num a)
  have h2 : evalE [] [] 11 (conE (numV b)) = numV b := eval_con (ok_num b)
  have k1 : ∀ n, ¬ kV (numV n) = 7 := fun n => by show ¬ (1 : Int) = 7; decide
  rw [eval_two (by omega) (by omega) (by omega), h1, h2]
  have h3 : reckonV op [numV a, numV b] = w := by
    rw [← hw]
    rcases hop with rfl | rfl | rfl <;> simp [reckonV]
  simp only [allV, List.find?_cons, decide_eq_false (k1 a), decide_eq_false (k1 b), List.find?_nil, h3, small_ok hk]

theorem eval_add {a b : Int} : evalE [] [] 12 (opE 4 [conE (numV a), conE (numV b)]) = addV a b := eval_nums (.inl rfl) (by rw [t4]; exact if_pos ⟨rfl, rfl⟩) ok_numIf
theorem eval_sub {a b : Int} : evalE [] [] 12 (opE 5 [conE (numV a), conE (numV b)]) = subV a b := eval_nums (.inr (.inl rfl)) (by rw [t5]; exact if_pos ⟨rfl, rfl⟩) ok_numIf
theorem eval_mul {a b : Int} : evalE [] [] 12 (opE 6 [conE (numV a), conE (numV b)]) = mulV a b := eval_nums (.inr (.inr rfl)) (by rw [t6]; exact if_pos ⟨rfl, rfl⟩) ok_numIf
end Go.Ew
