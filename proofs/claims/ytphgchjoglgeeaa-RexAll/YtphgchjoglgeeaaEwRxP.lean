/- Contracts of the play: numbers that are read one by one. -/
import Derived.Test.YtphgchjoglgeeaaEwVc2
import Derived.Test.YtphgchjoglgeeaaEwKeep0
import Derived.Test.YtphgchjoglgeeaaEwRx1
set_option linter.unusedVariables false
namespace Go.Ew
open Go.Ev Go.Deep

/-- Small numbers lie there. -/
def U8 (K : KH) (a : Option Addr) (n : Nat) : Prop := ∀ i, i < n → ∃ b o x, a = some ⟨b, o, none⟩ ∧ ld K ⟨b, o + i, none⟩ [.int .u8 x] ∧ 0 ≤ x ∧ x ≤ 255

theorem U8.mono {K K' : KH} (h : Le K K') {a : Option Addr} {n : Nat} (q : U8 K a n) : U8 K' a n := fun i hi => by
  obtain ⟨b, o, x, h1, h2, h3⟩ := q i hi
  exact ⟨b, o, x, h1, h.ld h2, h3⟩

/-- The numbers are read through a block that nothing else knows. -/
structure PK (K : KH) (p : Nat) (H : KH) : Prop where
  out : K p = none
  ex : ∃ e a n c j, H = K.new p e ∧ wrB e = true ∧ rd e.cells 0 2 = some [.slice a n c, .int .i64 j] ∧ 0 ≤ j ∧ n ≤ 1000000 ∧ U8 K a n

theorem PK.le {K H : KH} {p : Nat} (h : PK K p H) : Le K H := by
  obtain ⟨h1, e, a, n, c, j, rfl, _⟩ := h
  exact Le.new h1

theorem put_new {K : KH} {p o : Nat} {e : Ent} {vs : List Value} : (K.new p e).put ⟨p, o, none⟩ vs = K.new p ⟨wr e.cells o vs, e.len, e.unk, none⟩ := by
  funext k
  simp only [KH.put, KH.new]
  by_cases hk : k = p <;> simp [hk]

theorem rd_two {e : BT (Option Value)} {u v w : Value} (h : rd e 0 2 = some [u, v]) : rd (wr e 1 [w]) 0 2 = some [u, w] := by
  refine rd_some rfl fun j x hx => ?_
  rw [Nat.zero_add, tget_wr]
  match j, hx with
  | 0, hx =>
    rw [if_neg (by omega)]
    have := rd_get h 0 u (by simp)
    simp at hx
    subst hx
    simpa using this
  | 1, hx =>
    rw [if_pos (by simp)]
    simpa using hx
  | j + 2, hx => simp at hx
end Go.Ew

namespace Go.Proofs.Ytphgchjoglgeeaa
open Go.Ev Go.Ew
namespace Va
section
variable (ok : EnvOk (env Try.prog))
include ok

theorem c7 {a : Option Addr} {n c : Nat} {H : KH} {Q : Value → KH → Prop} (hu : U8 H a n) (hn : n ≤ 1000000) (hq : ∀ p H', PK H p H' → Q (.pointer (some ⟨p, 0, none⟩)) H') : Does (env Try.prog) 7 [.slice a n c] H Q := by
  refine fn7 ok fun n1 hn1 => hq n1 _ ⟨hn1, _, a, n, c, 0, rfl, rfl, mk_rd, by omega, hn, hu⟩

theorem c12 {K H : KH} {p : Nat} {m : Int} {Q : Value → KH → Prop} (hp : PK K p H) (hm : 0 < m) (hm2 : m ≤ 1000000) (hq : ∀ x H', 0 ≤ x → x < m → PK K p H' → Q (.int .i64 x) H') :
    Does (env Try.prog) 12 [.pointer (some ⟨p, 0, none⟩), .int .i64 m] H Q := by
  have hp' := hp
  obtain ⟨h1, e, a, n, c, j, rfl, hwr, hr, hj, hn, hu⟩ := hp
  have hld : ld (K.new p e) ⟨p, 0, none⟩ [.slice a n c, .int .i64 j] := ⟨rfl, e, by simp [KH.new], hr⟩
  refine fn12 ok ⟨trivial, rfl, j, ldSub hld 1 1 (by simp), rfl, a, n, c, ldSub hld 0 1 (by simp), fun h => hq 0 _ (by omega) hm hp', fun h => ?_⟩
  have h : j < n := by simpa using h
  have hw : IntKind.wrap .i64 (j + 1) = j + 1 := wrap64 (by omega) (by omega)
  have hw2 : IntKind.wrap .i64 (j + 1 - 1) = j := by rw [wrap64 (by omega) (by omega)]; omega
  refine ⟨rfl, j, ldSub hld 1 1 (by simp), rfl, ⟨[.int .i64 j], rfl, ldSub hld 1 1 (by simp)⟩, ⟨⟨e, by simp [KH.new], hwr⟩⟩, trivial, rfl, ?_⟩
  rw [hw, put_new]
  have hr2 := rd_two (w := .int .i64 (j + 1)) hr
  have hld2 : ld (K.new p ⟨wr e.cells (0 + 1) [.int .i64 (j + 1)], e.len, e.unk, none⟩) ⟨p, 0, none⟩ [.slice a n c, .int .i64 (j + 1)] := ⟨rfl, _, if_pos rfl, hr2⟩
  obtain ⟨j', rfl⟩ : ∃ j' : Nat, j = j' := ⟨j.toNat, by omega⟩
  obtain ⟨b, o, x, ha, hx, hx1, hx2⟩ := hu j' (by omega)
  refine ⟨a, n, c, ldSub hld2 0 1 (by simp), rfl, (j' : Int) + 1, ldSub hld2 1 1 (by simp), ?_⟩
  rw [hw2]
  refine ⟨⟨by omega, by omega⟩, b, o, ha, x, ?_, by omega, ?_⟩
  · have := Le.ld (Le.new h1 (e := ⟨wr e.cells (0 + 1) [.int .i64 ((j' : Int) + 1)], e.len, e.unk, none⟩)) hx
    simpa using this
  · rw [wrap64 (x := x) (by omega) (by omega), Int.tmod_eq_emod_of_nonneg hx1]
    exact hq _ _ (Int.emod_nonneg _ (by omega)) (Int.emod_lt_of_pos _ hm) ⟨h1, _, a, n, c, (j' : Int) + 1, rfl, wrB_keep hwr, hr2, by omega, hn, hu⟩
end
end Va
end Go.Proofs.Ytphgchjoglgeeaa
