/- Contracts: the longest front by rows. -/
import Derived.Test.YtochppfdebfopaaEwVc1
import Derived.Test.YtochppfdebfopaaEwSl
set_option linter.unusedVariables false
set_option linter.unusedSimpArgs false
namespace Go.Ew
open Go.Ev Go.Deep

/-- So many numbers lie there. -/
def IC (H : KH) (a : Option Addr) (n : Nat) (g : Nat → Int) : Prop := n = 0 ∨ ∃ b o e, a = some ⟨b, o, none⟩ ∧ H b = some e ∧ ∀ j, j < n → tget e.cells (o + j) = some (.int .i64 (g j))

theorem IC.ld {H : KH} {a : Option Addr} {n : Nat} {g : Nat → Int} (h : IC H a n g) {j : Nat} (hj : j < n) : ∃ b o, a = some ⟨b, o, none⟩ ∧ ∀ j, j < n → ld H ⟨b, o + j, none⟩ [.int .i64 (g j)] := by
  rcases h with h | ⟨b, o, e, h1, h2, h3⟩
  · omega
  · refine ⟨b, o, h1, fun j hj => ⟨rfl, e, h2, ?_⟩⟩
    show rd e.cells (o + j) 1 = _
    simp only [rd, h3 j hj]

theorem byteAt_rng (s : ByteArray) (i : Nat) : 0 ≤ byteAt s i ∧ byteAt s i < 256 := by
  unfold byteAt
  have := UInt8.toNat_lt ((s.data.toList[i]?).getD 0)
  omega

theorem row_lt {x n j : Nat} (h : x < n) (hj : j < 257) : x * 257 + j < n * 257 := by
  have : (x + 1) * 257 ≤ n * 257 := Nat.mul_le_mul_right _ h
  omega

/-- What rows tell of the rest of a text. -/
def lg (g : Nat → Int) (L : Nat) (s : ByteArray) : Nat → Nat → Nat → Int × Int × Bool → Int × Int × Bool
  | 0, _, _, st => st
  | f + 1, i, p, st =>
    if g (p * 257 + (byteAt s i).toNat) < 0 then st else if (L : Int) ≤ g (p * 257 + (byteAt s i).toNat) then st else
      lg g L s f (i + 1) (g (p * 257 + (byteAt s i).toNat)).toNat (if g ((g (p * 257 + (byteAt s i).toNat)).toNat * 257 + 256) ≠ 0 then (IntKind.wrap .i64 (g ((g (p * 257 + (byteAt s i).toNat)).toNat * 257 + 256) - 1), IntKind.wrap .i64 ((i : Int) + 1), true) else st)

def lgR (g : Nat → Int) (L : Nat) (s : ByteArray) : Int × Int × Bool := if L = 0 then (0, 0, false) else lg g L s s.size 0 0 (0, 0, false)

def tup3 (r : Int × Int × Bool) : Value := .tuple #[.int .i64 r.1, .int .i64 r.2.1, .bool r.2.2]
end Go.Ew

namespace Go.Proofs.Ytochppfdebfopaa
open Go.Ev Go.Ew Go.Deep
namespace Va
variable (ok : EnvOk (env Try.prog))
include ok

/-- dfa.Longest. -/
theorem c13 {a : Option Addr} {n c : Nat} {s : ByteArray} {H : KH} {g : Nat → Int} {Q : Value → KH → Prop} (h : IC H a (n * 257) g) (hs : s.size < 4611686018427387904) (hQ : Q (tup3 (lgR g n s)) H) : Does (env Try.prog) 13 [.slice a n c, .string s] H Q := by
  refine fn13 ok ⟨fun hz => ?_, fun hz => ?_⟩
  · have hn : n = 0 := by have := of_decide_eq_true hz; omega
    subst hn
    exact hQ
  · have hn : n ≠ 0 := by have := of_decide_eq_false hz; omega
    have hR : lgR g n s = lg g n s s.size 0 0 (0, 0, false) := by unfold lgR; rw [if_neg hn]
    obtain ⟨b, o, ha, hld⟩ := h.ld (j := 0) (by omega)
    refine ⟨fun n3 a4 n5 n6 s7 x8 x9 b10 x11 x12 x13 H14 => a4 = a ∧ n5 = n ∧ n6 = c ∧ s7 = s ∧ x12 = (s.size : Int) ∧ H14 = H ∧ ∃ i p : Nat, x13 = i ∧ x11 = p ∧ n3 = s.size - i ∧ i ≤ s.size ∧ p < n ∧ lg g n s (s.size - i) i p (x8, x9, b10) = lgR g n s, ⟨s.size, rfl, rfl, rfl, rfl, rfl, rfl, 0, 0, rfl, rfl, rfl, by omega, by omega, hR.symm⟩, ?_⟩
    rintro n3 a4 n5 n6 s7 x8 x9 b10 x11 x12 x13 H14 ⟨rfl, rfl, rfl, rfl, rfl, rfl, i, p, rfl, rfl, rfl, hi, hp, hl⟩
    refine ⟨fun hlt => ?_, fun hge => ?_⟩
    · have hlt : i < s7.size := by have := of_decide_eq_true hlt; omega
      obtain ⟨r1, r2⟩ := byteAt_rng s7 i
      have hf : s7.size - i = (s7.size - (i + 1)) + 1 := by omega
      rw [hf] at hl
      simp only [lg] at hl
      have hsub : p * 257 + (byteAt s7 i).toNat < n5 * 257 := row_lt hp (by omega)
      obtain ⟨x, hx⟩ : ∃ x, x = g (p * 257 + (byteAt s7 i).toNat) := ⟨_, rfl⟩
      rw [← hx] at hl
      refine ⟨trivial, ⟨by omega, by omega⟩, ⟨by omega, by omega⟩, b, o, ha, rfl, ⟨r1, r2⟩, rfl, x, ?_, ?_, ?_⟩
      · have := hld _ hsub
        rw [← hx] at this
        simpa [Nat.add_assoc] using this
      · intro q
        rw [if_pos (of_decide_eq_true q)] at hl
        rw [← hl] at hQ
        exact hQ
      · intro q
        have q := of_decide_eq_false q
        rw [if_neg q] at hl
        refine ⟨fun q2 => ?_, fun q2 => ?_⟩
        · rw [if_pos (of_decide_eq_true q2)] at hl
          rw [← hl] at hQ
          exact hQ
        · have q2 := of_decide_eq_false q2
          rw [if_neg q2] at hl
          have hxn : x.toNat < n5 := by omega
          have hsub2 : x.toNat * 257 + 256 < n5 * 257 := row_lt hxn (by omega)
          have hw : IntKind.wrap .i64 ((i : Int) + 1) = ((i + 1 : Nat) : Int) := by rw [wrap64 (by omega) (by omega)]; omega
          refine ⟨⟨by omega, by omega⟩, b, o, ha, rfl, g (x.toNat * 257 + 256), ?_, fun q3 => ?_, fun q3 => ?_⟩
          · have := hld _ hsub2
            simpa [Nat.add_assoc] using this
          · rw [if_pos (show g (x.toNat * 257 + 256) ≠ 0 from of_decide_eq_true q3)] at hl
            exact ⟨s7.size - (i + 1), by omega, rfl, rfl, rfl, rfl, rfl, rfl, i + 1, x.toNat, hw, by omega, rfl, by omega, hxn, hl⟩
          · rw [if_neg (show ¬ (g (x.toNat * 257 + 256) ≠ 0) from of_decide_eq_false q3)] at hl
            exact ⟨s7.size - (i + 1), by omega, rfl, rfl, rfl, rfl, rfl, rfl, i + 1, x.toNat, hw, by omega, rfl, by omega, hxn, hl⟩
    · have hge : i = s7.size := by have := of_decide_eq_false hge; omega
      rw [hge, Nat.sub_self] at hl
      rw [← hl] at hQ
      exact hQ
end Va
end Go.Proofs.Ytochppfdebfopaa
