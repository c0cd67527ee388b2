/- The law ExprSize: what its function answers. -/
import Derived.Test.YtpdabjimdfifnaaEwEx8
import Derived.Test.YtpdabjimdfifnaaEwVc5
set_option linter.unusedVariables false
set_option linter.unusedSimpArgs false
namespace Go.Ew
open Go.Ev Go.Deep Go.Proofs.Ytpdabjimdfifnaa.Va

def conE (v : V) : Ex := .mk 0 v 0 0 []

/-- Lists of one, joined with themselves. -/
def dbl : Nat → Ex
  | 0 => opE 14 [conE (numV 3)]
  | k + 1 => opE 13 [dbl k, dbl k]

def lst (n : Nat) : V := .mk 4 0 emp (List.replicate n (numV 3))

theorem ok_num (n : Int) : Ok (numV n) := ⟨by show 1 + 0 / 16 + 0 ≤ 60; decide, fit_num⟩

theorem szL_rep (n : Nat) : szL (List.replicate n (numV 3)) = n := by
  induction n with
  | zero => rfl
  | succ n ih =>
    rw [List.replicate_succ, szL, ih]
    have : szV (numV 3) = 1 := rfl
    omega

theorem sz_lst (n : Nat) : szV (lst n) = 1 + n := by
  simp only [lst, szV, emp_sz, szL_rep]

theorem szE_dbl : ∀ k, SzE (dbl k)
  | 0 => sz_opE ⟨⟨by have := (ok_num 3).sz; show szV (numV 3) ≤ 20000; omega, trivial⟩, trivial⟩
  | k + 1 => sz_opE ⟨szE_dbl k, szE_dbl k, trivial⟩

theorem two_lst (m n : Nat) : twoV 13 (lst m) (lst n) = lst (m + n) := by
  have h : ¬ kV (lst m) = 3 := by show ¬ (4 : Int) = 3; decide
  rw [t13l _ _ h, if_pos ⟨rfl, rfl⟩]
  simp only [kidsL, lst, ← List.replicate_append_replicate]

theorem eval_two {vals : List (List V)} {texts : List ByteArray} {d : Nat} {op : Int} {x y : Ex} (h0 : 3 < op) (h1 : op < 21) (h2 : op ≠ 11 ∧ op ≠ 12 ∧ op ≠ 14 ∧ op ≠ 15 ∧ op ≠ 16) : evalE vals texts (d + 1) (opE op [x, y]) = allV op [evalE vals texts d x, evalE vals texts d y] := by
  have ht : takesB op ([x, y].length : Nat) = true := by
    unfold takesB
    rw [if_neg (by omega), if_neg (by omega), if_neg (by omega), if_neg (by omega)]
    simp; omega
  rw [opE, evalE, if_neg (by rw [ht]; decide), if_neg (by omega), if_neg (by omega), if_neg (by omega), if_neg (by omega), if_neg (by omega)]
  rfl

theorem eval_dbl : ∀ (k d : Nat), k ≤ 8 → k + 2 ≤ d → evalE [] [] d (dbl k) = if k ≤ 5 then lst (2 ^ k) else badV 6
  | 0, d, _, hd => by
    obtain ⟨d, rfl⟩ : ∃ e, d = e + 2 := ⟨d - 2, by omega⟩
    have h1 : evalE [] [] (d + 1) (conE (numV 3)) = numV 3 := eval_con (ok_num 3)
    rw [dbl, opE, evalE, if_neg (by simp [takesB]), if_neg (by decide), if_neg (by decide), if_neg (by decide), if_neg (by decide), if_neg (by decide)]
    have h2 : allV 14 [numV 3] = lst 1 := by
      have h3 : reckonV 14 [numV 3] = lst 1 := by simp [reckonV, lst]
      have h4 : smallV (lst 1) = lst 1 := small_le (by rw [sz_lst]; omega)
      have h5 : ¬ kV (numV 3) = 7 := by decide
      simp [allV, h3, h4, h5]
    simp only [List.map_cons, List.map_nil, h1, h2]
    simp
  | k + 1, d, hk, hd => by
    obtain ⟨d, rfl⟩ : ∃ e, d = e + 1 := ⟨d - 1, by omega⟩
    have ih := eval_dbl k d (by omega) (by omega)
    rw [dbl, eval_two (by decide) (by decide) (by decide), ih]
    by_cases h5 : k ≤ 5
    · rw [if_pos h5]
      have hne : ¬ kV (lst (2 ^ k)) = 7 := by show ¬ (4 : Int) = 7; decide
      have h6 : reckonV 13 [lst (2 ^ k), lst (2 ^ k)] = lst (2 ^ (k + 1)) := by
        have : 2 ^ k + 2 ^ k = 2 ^ (k + 1) := by rw [Nat.pow_succ]; omega
        rw [← this, ← two_lst]
        simp [reckonV]
      have h7 : allV 13 [lst (2 ^ k), lst (2 ^ k)] = smallV (lst (2 ^ (k + 1))) := by simp [allV, hne, h6]
      rw [h7]
      by_cases h4 : k + 1 ≤ 5
      · rw [if_pos h4]
        refine small_le ?_
        rw [sz_lst]
        have : 2 ^ (k + 1) ≤ 2 ^ 5 := Nat.pow_le_pow_right (by decide) h4
        omega
      · rw [if_neg h4]
        have hk5 : k = 5 := by omega
        subst hk5
        refine small_gt ?_
        rw [sz_lst]; decide
    · rw [if_neg h5, if_neg (by omega)]
      simp [allV, badV, kV]
end Go.Ew

namespace Go.Proofs.Ytpdabjimdfifnaa
open Go.Ev Go.Ew
namespace Va
section
variable (ok : EnvOk (env Try.prog))
include ok

theorem c3 {n : Nat} {H : KH} (hn : n ≤ 255) : Does (env Try.prog) 3 [.int .u8 (n : Int)] H fun v _ => v = .bool true := by
  refine fn3 ok (c6 ⟨true, rfl, fun h => (by cases h), fun _ => fn8 ok ⟨_, _, _, _, _, _, _, _, _, _, _, _, rfl, fun n1 hn1 => fn7 ok ⟨_, _, _, _, _, _, _, _, _, _, _, _, rfl, by decide, ?_⟩⟩⟩)
  have hm : IntKind.wrap .i64 (Int.tmod (n : Int) 9) = ((n % 9 : Nat) : Int) := by
    rw [Int.tmod_eq_emod_of_nonneg (by omega), wrap64 (by omega) (by omega)]; omega
  have hk : n % 9 ≤ 8 := by omega
  generalize n % 9 = k at *
  unfold vc3_L2
  rw [hm]
  refine ⟨fun n3 x4 x5 x6 s7 a8 n9 n10 x11 x12 a13 n14 n15 x16 x17 H18 => x16 = (k : Nat) ∧ ∃ i : Nat, x17 = i ∧ i ≤ k ∧ n3 = k - i ∧ RE H18 (dbl i) [.int .i64 x4, .int .i64 x5, .int .i64 x6, .string s7, .slice a8 n9 n10, .int .i64 x11, .int .i64 x12, .slice a13 n14 n15],
    ⟨k, rfl, 0, rfl, by omega, rfl, ?_⟩, ?_⟩
  · exact re_opE (args := [conE (numV 3)]) (res_lit (if_pos rfl) (rc1 ⟨_, _, _, _, _, _, none, 0, rfl, leaf, trivial⟩))
  rintro n3 x4 x5 x6 s7 a8 n9 n10 x11 x12 a13 n14 n15 x16 x17 H18 ⟨rfl, i, rfl, hi, rfl, hre⟩
  refine ⟨fun hlt n2 hn2 => ?_, fun hge => ?_⟩
  · have hlt : i < k := by have := of_decide_eq_true hlt; omega
    refine fn7 ok ⟨_, _, _, _, _, _, _, _, _, _, _, _, rfl, k - (i + 1), by omega, rfl, i + 1, ?_, by omega, rfl, ?_⟩
    · rw [wrap64 (by omega) (by omega)]; omega
    · have hre2 := hre.mono (Le.new hn2 (e := mkEnt ([.int .i64 x4, .int .i64 x5, .int .i64 x6, .string s7, .slice a8 n9 n10, .int .i64 x11, .int .i64 x12, .slice a13 n14 n15] ++ [.int .i64 x4, .int .i64 x5, .int .i64 x6, .string s7, .slice a8 n9 n10, .int .i64 x11, .int .i64 x12, .slice a13 n14 n15]) 0))
      exact re_opE (args := [dbl i, dbl i]) (res_lit (if_pos rfl) (rc2 hre2 hre2))
  · have hge : i = k := by have := of_decide_eq_false hge; omega
    subst hge
    refine ev0 ok hre (szE_dbl i) fun cs H2 hle hr => ?_
    rw [eval_dbl i 12 hk (by omega)] at hr
    have hb : min (Int.toNat (i : Int)) (IntKind.bits .i64) = i := by
      have : IntKind.bits .i64 = 64 := rfl
      rw [this, Int.toNat_natCast]; omega
    obtain ⟨P, hP⟩ : ∃ P : Nat, P = 2 ^ i := ⟨_, rfl⟩
    have hpw : (1 : Int) * 2 ^ i = (P : Int) := by rw [hP, Int.one_mul]; exact (Int.natCast_pow 2 i).symm
    have hle8 : P ≤ 256 := by rw [hP]; exact Nat.pow_le_pow_right (by decide) hk
    have hw : IntKind.wrap .i64 (1 * 2 ^ (min (Int.toNat (i : Int)) (IntKind.bits .i64))) = (P : Int) := by
      rw [hb, hpw, wrap64 (by omega) (by omega)]
    have hw2 : IntKind.wrap .i64 ((P : Int) + 1) = ((P + 1 : Nat) : Int) := by rw [wrap64 (by omega) (by omega)]; omega
    rw [hw, hw2]
    rw [← hP] at hr
    by_cases h5 : i ≤ 5
    · rw [if_pos h5] at hr
      have hle5 : P ≤ 32 := by rw [hP]; exact Nat.pow_le_pow_right (by decide) h5
      obtain ⟨a, m, c, rfl, rfl, _, _⟩ := hr
      refine ⟨_, _, _, _, _, _, rfl, by omega, fun h => ?_, fun _ => ⟨trivial, fun _ => ⟨by omega, ?_⟩, fun h => by simp at h⟩⟩
      · have := of_decide_eq_true h; omega
      · rw [List.length_replicate]; simp
    · rw [if_neg h5] at hr
      have hge6 : 64 ≤ P := by rw [hP]; exact (Nat.pow_le_pow_right (by decide) (show 6 ≤ i by omega) : 2 ^ 6 ≤ 2 ^ i)
      obtain ⟨a, m, c, rfl, rfl, h1, h2⟩ := hr
      refine ⟨_, _, _, _, _, _, rfl, by omega, fun _ => c10 ok (x := badV 6) (y := badV 6) (by rw [sz_bad]; decide) (by rw [sz_bad]; decide) ⟨a, _, c, rfl, rfl, h1, h2⟩ leaf ⟨_, rfl, ?_⟩, fun h => ?_⟩
      · rw [cmpV_refl]; rfl
      · have := of_decide_eq_false h; omega
end
end Va
end Go.Proofs.Ytpdabjimdfifnaa
