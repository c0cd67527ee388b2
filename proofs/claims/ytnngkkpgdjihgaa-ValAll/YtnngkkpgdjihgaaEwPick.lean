/- Contracts of the play: numbers that are read one by one. -/
import Derived.Test.YtnngkkpgdjihgaaEwFit
set_option linter.unusedVariables false
namespace Go.Ew
open Go.Ev Go.Deep

/-- What a call need not know it does not touch. -/
theorem Does.frame {E : Env} {g : Nat} {args : List Value} {K : KH} {p : Nat} {e : Ent} {Q : Value → KH → Prop} (hK : K p = none)
    (hf : Does E g args K fun v K' => K' p = none → Q v (K'.new p e)) : Does E g args (K.new p e) Q := by
  refine ⟨hf.lt, fun h hn hh => ?_⟩
  have hp : tget h.m p = some e := hh p e (by simp [KH.new])
  have hlt : p < h.nxt := by
    rcases Nat.lt_or_ge p h.nxt with q | q
    · exact q
    · rw [hn p q] at hp; cases hp
  obtain ⟨v, h', K', h1, h2, h3, h4, h5, h6, h7⟩ := hf.run h hn fun k e' q => hh k e' (by
    simp only [KH.new]
    rw [if_neg (fun ek => by subst ek; rw [hK] at q; cases q)]
    exact q)
  have hK' : K' p = none := by
    cases hk : K' p with
    | none => rfl
    | some e' =>
      rcases h7 p (by rw [hk]; simp) with q | q
      · exact absurd hK q
      · omega
  refine ⟨v, h', K'.new p e, h1, h2 hK', h3, fun k e' q => ?_, h5, fun k hk q => ?_, fun k q => ?_⟩
  · simp only [KH.new] at q
    by_cases ek : k = p
    · subst ek
      simp only [if_true] at q
      rw [h6 k hlt hK, hp]
      exact q
    · rw [if_neg ek] at q
      exact h4 k e' q
  · simp only [KH.new] at q
    by_cases ek : k = p
    · rw [if_pos ek] at q; cases q
    · rw [if_neg ek] at q
      exact h6 k hk q
  · simp only [KH.new] at q ⊢
    by_cases ek : k = p
    · rw [if_pos ek]; left; simp
    · rw [if_neg ek] at q ⊢
      exact h7 k q

/-- Small numbers lie there. -/
def U8 (K : KH) (a : Option Addr) (n : Nat) : Prop := ∀ i, i < n → ∃ b o x, a = some ⟨b, o, none⟩ ∧ ld K ⟨b, o + i, none⟩ [.int .u8 x] ∧ 0 ≤ x ∧ x ≤ 255

theorem U8.mono {K K' : KH} (h : Le K K') {a : Option Addr} {n : Nat} (q : U8 K a n) : U8 K' a n := fun i hi => by
  obtain ⟨b, o, x, h1, h2, h3⟩ := q i hi
  exact ⟨b, o, x, h1, h.ld h2, h3⟩

/-- The numbers are read through a block that nothing else knows. -/
structure PK (K : KH) (p : Nat) (H : KH) : Prop where
  out : K p = none
  ex : ∃ e a n c j, H = K.new p e ∧ wrB e = true ∧ rd e.cells 0 2 = some [.slice a n c, .int .i64 j] ∧ 0 ≤ j ∧ n ≤ 1000000 ∧ U8 K a n

theorem PK.le {K H : KH} {p : Nat} (h : PK K p H) : Le K H := by
  obtain ⟨h1, e, a, n, c, j, rfl, _⟩ := h
  exact Le.new h1

theorem put_new {K : KH} {p o : Nat} {e : Ent} {vs : List Value} : (K.new p e).put ⟨p, o, none⟩ vs = K.new p ⟨wr e.cells o vs, e.len, e.unk, none⟩ := by
  funext k
  simp only [KH.put, KH.new]
  by_cases hk : k = p <;> simp [hk]

theorem rd_two {e : BT (Option Value)} {u v w : Value} (h : rd e 0 2 = some [u, v]) : rd (wr e 1 [w]) 0 2 = some [u, w] := by
  refine rd_some rfl fun j x hx => ?_
  rw [Nat.zero_add, tget_wr]
  match j, hx with
  | 0, hx =>
    rw [if_neg (by omega)]
    have := rd_get h 0 u (by simp)
    simp at hx
    subst hx
    simpa using this
  | 1, hx =>
    rw [if_pos (by simp)]
    simpa using hx
  | j + 2, hx => simp at hx
end Go.Ew

namespace Go.Proofs.Ytnngkkpgdjihgaa
open Go.Ev Go.Ew
namespace Va
section
variable (ok : EnvOk (env Try.prog))
include ok

theorem c10 {a : Option Addr} {n c : Nat} {H : KH} {Q : Value → KH → Prop} (hu : U8 H a n) (hn : n ≤ 1000000) (hq : ∀ p H', PK H p H' → Q (.pointer (some ⟨p, 0, none⟩)) H') : Does (env Try.prog) 10 [.slice a n c] H Q := by
  refine fn10 ok fun n1 hn1 => hq n1 _ ⟨hn1, _, a, n, c, 0, rfl, rfl, mk_rd, by omega, hn, hu⟩

theorem c24 {K H : KH} {p : Nat} {m : Int} {Q : Value → KH → Prop} (hp : PK K p H) (hm : 0 < m) (hm2 : m ≤ 1000000) (hq : ∀ x H', 0 ≤ x → x < m → PK K p H' → Q (.int .i64 x) H') :
    Does (env Try.prog) 24 [.pointer (some ⟨p, 0, none⟩), .int .i64 m] H Q := by
  have hp' := hp
  obtain ⟨h1, e, a, n, c, j, rfl, hwr, hr, hj, hn, hu⟩ := hp
  have hld : ld (K.new p e) ⟨p, 0, none⟩ [.slice a n c, .int .i64 j] := ⟨rfl, e, by simp [KH.new], hr⟩
  refine fn24 ok ⟨trivial, rfl, j, ld_sub hld 1 1 (by simp), rfl, a, n, c, ld_sub hld 0 1 (by simp), fun h => hq 0 _ (by omega) hm hp', fun h => ?_⟩
  have h : j < n := by simpa using h
  have hw : IntKind.wrap .i64 (j + 1) = j + 1 := wrap64 (by omega) (by omega)
  have hw2 : IntKind.wrap .i64 (j + 1 - 1) = j := by rw [wrap64 (by omega) (by omega)]; omega
  refine ⟨rfl, j, ld_sub hld 1 1 (by simp), rfl, ⟨[.int .i64 j], rfl, ld_sub hld 1 1 (by simp)⟩, ⟨⟨e, by simp [KH.new], hwr⟩⟩, trivial, rfl, ?_⟩
  rw [hw, put_new]
  have hr2 := rd_two (w := .int .i64 (j + 1)) hr
  have hld2 : ld (K.new p ⟨wr e.cells (0 + 1) [.int .i64 (j + 1)], e.len, e.unk, none⟩) ⟨p, 0, none⟩ [.slice a n c, .int .i64 (j + 1)] := ⟨rfl, _, if_pos rfl, hr2⟩
  obtain ⟨j', rfl⟩ : ∃ j' : Nat, j = j' := ⟨j.toNat, by omega⟩
  obtain ⟨b, o, x, ha, hx, hx1, hx2⟩ := hu j' (by omega)
  refine ⟨a, n, c, ld_sub hld2 0 1 (by simp), rfl, (j' : Int) + 1, ld_sub hld2 1 1 (by simp), ?_⟩
  rw [hw2]
  refine ⟨⟨by omega, by omega⟩, b, o, ha, x, ?_, by omega, ?_⟩
  · have := Le.ld (Le.new h1 (e := ⟨wr e.cells (0 + 1) [.int .i64 ((j' : Int) + 1)], e.len, e.unk, none⟩)) hx
    simpa using this
  · rw [wrap64 (x := x) (by omega) (by omega), Int.tmod_eq_emod_of_nonneg hx1]
    exact hq _ _ (Int.emod_nonneg _ (by omega)) (Int.emod_lt_of_pos _ hm) ⟨h1, _, a, n, c, (j' : Int) + 1, rfl, wrB_keep hwr, hr2, by omega, hn, hu⟩
end
end Va
end Go.Proofs.Ytnngkkpgdjihgaa
