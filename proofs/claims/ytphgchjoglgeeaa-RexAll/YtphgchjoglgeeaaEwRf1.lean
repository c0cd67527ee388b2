/- The reference's reader of patterns: a byte ahead, a byte that is meant. -/
import Derived.Test.YtphgchjoglgeeaaEwRxC
set_option linter.unusedVariables false
set_option linter.unusedSimpArgs false
namespace Go.Ew
open Go.Ev Go.Deep

/-- The reference's reader at p, apart from what is known in X. -/
structure P3 (X H : KH) (p : Nat) (s : ByteArray) (i : Nat) (b : Bool) : Prop where
  le : Le X H
  xp : X p = none
  ex : ∃ e, H p = some e ∧ wrB e = true ∧ rd e.cells 0 3 = some [.string s, .int .i64 (i : Nat), .bool b]

section
variable {X H : KH} {p : Nat} {s : ByteArray} {i : Nat} {b : Bool}
theorem P3.all (h : P3 X H p s i b) : ld H ⟨p, 0, none⟩ [.string s, .int .i64 (i : Nat), .bool b] := by
  obtain ⟨e, h1, h2, h3⟩ := h.ex
  exact ⟨rfl, e, h1, h3⟩
theorem P3.c0 (h : P3 X H p s i b) : ld H ⟨p, 0, none⟩ [.string s] := by have := ldSub h.all 0 1 (by simp); simpa using this
theorem P3.c1 (h : P3 X H p s i b) : ld H ⟨p, 1, none⟩ [.int .i64 (i : Nat)] := by have := ldSub h.all 1 1 (by simp); simpa using this
theorem P3.c2 (h : P3 X H p s i b) : ld H ⟨p, 2, none⟩ [.bool b] := by have := ldSub h.all 2 1 (by simp); simpa using this
theorem P3.may (h : P3 X H p s i b) : KH.may H p := by
  obtain ⟨e, h1, h2, h3⟩ := h.ex
  exact ⟨e, h1, h2⟩
theorem P3.setAt (h : P3 X H p s i b) (j : Nat) : P3 X (H.put ⟨p, 1, none⟩ [.int .i64 (j : Nat)]) p s j b := by
  obtain ⟨e, h1, h2, h3⟩ := h.ex
  refine ⟨fun k e' q => put_ne (fun x => by rw [x, h.xp] at q; cases q) (h.le k e' q), h.xp, ⟨wr e.cells 1 [.int .i64 (j : Nat)], e.len, e.unk, none⟩, by simp only [KH.put, if_true, h1, Option.map_some], wrB_keep h2, ?_⟩
  exact rdWr (xs := [.string s]) (ys := [.int .i64 (i : Nat)]) (zs := [.bool b]) (by simpa using h3) rfl rfl
theorem P3.setBad (h : P3 X H p s i b) : P3 X (H.put ⟨p, 2, none⟩ [.bool true]) p s i true := by
  obtain ⟨e, h1, h2, h3⟩ := h.ex
  refine ⟨fun k e' q => put_ne (fun x => by rw [x, h.xp] at q; cases q) (h.le k e' q), h.xp, ⟨wr e.cells 2 [.bool true], e.len, e.unk, none⟩, by simp only [KH.put, if_true, h1, Option.map_some], wrB_keep h2, ?_⟩
  exact rdWr (xs := [.string s, .int .i64 (i : Nat)]) (ys := [.bool b]) (zs := []) (by simpa using h3) rfl rfl
end

/-- The byte ahead; 0 behind the end. -/
def peekM (s : ByteArray) (i : Nat) : Int := if s.size ≤ i then 0 else byteAt s i

theorem peek_in (s : ByteArray) (i : Nat) : 0 ≤ peekM s i ∧ peekM s i < 256 := by
  unfold peekM
  split
  · omega
  · exact byteAt_in s i

def specB (c : Int) (all : ByteArray) : Bool := decide (c ∈ bytesI all)

/-- A byte that is meant: it, where the reader is then, and whether it may not be. -/
def oneM (s all : ByteArray) (i : Nat) : Int × Nat × Bool :=
  if peekM s i = 92 then (peekM s (i + 1), i + 2, !(specB (peekM s (i + 1)) all))
  else (peekM s i, i + 1, decide (peekM s i < 32) || (decide (126 < peekM s i) || specB (peekM s i) all))
end Go.Ew

namespace Go.Proofs.Ytphgchjoglgeeaa
open Go.Ev Go.Ew
namespace Va
section
variable (ok : EnvOk (env Try.prog))
include ok

theorem c19 {X H : KH} {p : Nat} {s : ByteArray} {i : Nat} {b : Bool} {Q : Value → KH → Prop} (h : P3 X H p s i b) (hq : Q (.int .u8 (peekM s i)) H) : Does (env Try.prog) 19 [.pointer (some ⟨p, 0, none⟩)] H Q := by
  refine fn19 ok ⟨trivial, rfl, _, h.c1, rfl, s, h.c0, fun h1 => ?_, fun h1 => ⟨trivial, rfl, s, h.c0, rfl, _, h.c1, ⟨by omega, ?_⟩, ?_⟩⟩
  · have h1 := of_decide_eq_true h1
    have : peekM s i = 0 := if_pos (by omega)
    rw [this] at hq
    exact hq
  · have := of_decide_eq_false h1; omega
  · have h1 := of_decide_eq_false h1
    have e0 : Int.toNat ((i : Nat) : Int) = i := by omega
    have : peekM s i = byteAt s i := if_neg (by omega)
    rw [this] at hq
    rw [e0]
    exact hq

theorem c44 {c : Int} {all : ByteArray} {H : KH} {Q : Value → KH → Prop} (hs : all.size ≤ 1000) (hq : Q (.bool (specB c all)) H) : Does (env Try.prog) 44 [.int .u8 c, .string all] H Q := by
  refine fn44 ok ?_
  unfold vc44 vc44_L0
  refine ⟨fun m x4 s5 x6 H7 => x4 = c ∧ s5 = all ∧ H7 = H ∧ ∃ j : Nat, x6 = j ∧ j ≤ all.size ∧ m = all.size - j ∧ specB c all = decide (c ∈ (bytesI all).drop j), ⟨all.size, rfl, rfl, rfl, 0, rfl, by omega, rfl, rfl⟩, ?_⟩
  rintro m x4 s5 x6 H7 ⟨rfl, rfl, rfl, j, rfl, hj, rfl, hsp⟩
  refine ⟨fun hlt => ?_, fun hge => ?_⟩
  · have hlt : j < s5.size := by have := of_decide_eq_true hlt; omega
    have e0 : Int.toNat ((j : Nat) : Int) = j := by omega
    rw [bytes_drop hlt] at hsp
    rw [e0]
    refine ⟨⟨by omega, by omega⟩, fun h1 => ?_, fun h1 => ?_⟩
    · have h1 : byteAt s5 j = x4 := by simpa using h1
      rw [hsp, decide_eq_true (by rw [h1]; simp)] at hq
      exact hq
    · have h1 : ¬ byteAt s5 j = x4 := by simpa using h1
      refine ⟨s5.size - (j + 1), by omega, rfl, rfl, rfl, j + 1, by rw [wrap64 (by omega) (by omega)]; omega, by omega, rfl, ?_⟩
      rw [hsp, Bool.eq_iff_iff]
      simp only [decide_eq_true_eq, List.mem_cons]
      constructor
      · rintro (q | q)
        · exact absurd q.symm h1
        · exact q
      · exact .inr
  · have hge : j = s5.size := by have := of_decide_eq_false hge; omega
    subst hge
    have : (bytesI s5).drop s5.size = [] := List.drop_eq_nil_of_le (by rw [bytes_len]; exact Nat.le_refl _)
    rw [this] at hsp
    rw [hsp] at hq
    simpa using hq

theorem c42 {X H : KH} {p : Nat} {s all : ByteArray} {i : Nat} {b : Bool} {Q : Value → KH → Prop} (h : P3 X H p s i b) (hs : all.size ≤ 1000) (hi : i ≤ 1000000) (hq : ∀ H', P3 X H' p s (oneM s all i).2.1 (b || (oneM s all i).2.2) → Q (.int .u8 (oneM s all i).1) H') : Does (env Try.prog) 42 [.pointer (some ⟨p, 0, none⟩), .string all] H Q := by
  have w1 : IntKind.wrap .i64 (((i : Nat) : Int) + 1) = ((i + 1 : Nat) : Int) := by rw [wrap64 (by omega) (by omega)]; omega
  have w2 : IntKind.wrap .i64 (((i + 1 : Nat) : Int) + 1) = ((i + 2 : Nat) : Int) := by rw [wrap64 (by omega) (by omega)]; omega
  refine fn42 ok (c19 ok h ⟨_, rfl, fun h1 => ?_, fun h1 => ?_⟩)
  · have h1 : peekM s i = 92 := by simpa using h1
    have e : oneM s all i = (peekM s (i + 1), i + 2, !(specB (peekM s (i + 1)) all)) := if_pos h1
    rw [e] at hq
    refine ⟨rfl, _, h.c1, rfl, stOk h.c1 rfl, h.may, ?_⟩
    rw [w1]
    have h2 := h.setAt (i + 1)
    refine c19 ok h2 ⟨_, rfl, c44 ok hs ⟨_, rfl, fun h3 => ?_, fun h3 => ?_⟩⟩
    · have h3 : specB (peekM s (i + 1)) all = false := by simpa using h3
      have h4 := h2.setBad
      refine ⟨rfl, stOk h2.c2 rfl, h2.may, ?_⟩
      unfold vc42_J0
      refine ⟨rfl, _, h4.c1, rfl, stOk h4.c1 rfl, h4.may, ?_⟩
      rw [w2]
      refine hq _ ?_
      have := h4.setAt (i + 2)
      simpa [h3] using this
    · have h3 : specB (peekM s (i + 1)) all = true := by simpa using h3
      unfold vc42_J1
      refine ⟨rfl, _, h2.c1, rfl, stOk h2.c1 rfl, h2.may, ?_⟩
      rw [w2]
      refine hq _ ?_
      have := h2.setAt (i + 2)
      simpa [h3] using this
  · have h1 : ¬ peekM s i = 92 := by simpa using h1
    have e : oneM s all i = (peekM s i, i + 1, decide (peekM s i < 32) || (decide (126 < peekM s i) || specB (peekM s i) all)) := if_neg h1
    rw [e] at hq
    have bad : (decide (peekM s i < 32) || (decide (126 < peekM s i) || specB (peekM s i) all)) = true → vc42_J0 H p 0 Q (peekM s i) := fun hb => by
      have h4 := h.setBad
      unfold vc42_J0
      refine ⟨rfl, _, h4.c1, rfl, stOk h4.c1 rfl, h4.may, ?_⟩
      rw [w1]
      refine hq _ ?_
      have := h4.setAt (i + 1)
      rw [hb, Bool.or_true]
      exact this
    refine ⟨fun h2 => ⟨rfl, stOk h.c2 rfl, h.may, bad (by rw [h2]; rfl)⟩, fun h2 => ⟨fun h3 => ⟨rfl, stOk h.c2 rfl, h.may, bad (by rw [h2, h3]; rfl)⟩, fun h3 => c44 ok hs ⟨_, rfl, fun h4 => ⟨rfl, stOk h.c2 rfl, h.may, bad (by rw [h2, h3, h4]; rfl)⟩, fun h4 => ?_⟩⟩⟩
    unfold vc42_J1
    refine ⟨rfl, _, h.c1, rfl, stOk h.c1 rfl, h.may, ?_⟩
    rw [w1]
    refine hq _ ?_
    have := h.setAt (i + 1)
    rw [h2, h3, h4]
    simpa using this
end
end Va
end Go.Proofs.Ytphgchjoglgeeaa
