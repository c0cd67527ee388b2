/- The law RexRound: what its function answers. -/
import Derived.Test.YtphgchjoglgeeaaEwRxC
import Derived.Test.YtphgchjoglgeeaaEwVc4
set_option linter.unusedVariables false
set_option linter.unusedSimpArgs false
namespace Go.Ew
open Go.Ev Go.Deep

theorem ItR.mono {H H' : KH} {l : List It} {a : Option Addr} (h : ItR H l a) (hl : Le H H') : ItR H' l a := by
  obtain ⟨cs, h1, h2⟩ := h
  exact ⟨cs, hl.kold h1, h2.mono hl⟩

theorem ItC.app2 {X : KH} : ∀ {l m : List It} {cs ds : List Value}, ItC X l cs → ItC X m ds → ItC X (l ++ m) (cs ++ ds)
  | [], m, cs, ds, h, k => by
    have h : cs = [] := h
    subst h; exact k
  | (op, l) :: r, m, cs, ds, ⟨a, c, es, h1, h2, h3⟩, k => by
    subst h1
    exact ⟨a, c, _, rfl, h2, ItC.app2 h3 k⟩

/-- Items put behind those of a row of one's own. -/
theorem more_items {H0 H : KH} {l m : List It} {a b : Option Addr} {c nm : Nat} {cs ds : List Value} (ho : Own H0 H 2 a l.length c cs) (hle : Le H0 H) (hi : ItC H0 l cs) (hk : kold H0 2 b m.length = some ds) (hm : ItC H0 m ds) (hn : H nm = none) (hs : l.length + m.length ≤ 1000) :
    ∃ a' c' H', kappend H nm IT2 a l.length c m.length ds = some (.slice a' (l.length + m.length) c', H') ∧ Own H0 H' 2 a' (l ++ m).length c' (cs ++ ds) ∧ Le H0 H' ∧ ItC H0 (l ++ m) (cs ++ ds) := by
  obtain ⟨a', c', H', g1, g2, g3, _, _⟩ := Own.append (ti := IT2) (m := m.length) (new := ds) ho hle hn hm.len (by omega) (by decide) (by decide)
  exact ⟨a', c', H', g1, by rw [List.length_append]; exact g2, g3, hi.app2 hm⟩

theorem Own.itr {H0 H : KH} {l : List It} {a : Option Addr} {c : Nat} {cs : List Value} (ho : Own H0 H 2 a l.length c cs) (hle : Le H0 H) (hi : ItC H0 l cs) : ItR H l a := ⟨cs, ho.cells, hi.mono hle⟩

theorem read_is {s : ByteArray} {τ : RdS} (h : (foldT rd0 (letL (bytesI s) false)).bind finR = some τ) : readR s = some τ.items := by
  unfold readR
  cases hf : foldT rd0 (letL (bytesI s) false) with
  | none => rw [hf] at h; cases h
  | some σ =>
    rw [hf] at h
    have h : finR σ = some τ := h
    simp only [h]
end Go.Ew

namespace Go.Proofs.Ytphgchjoglgeeaa
open Go.Ev Go.Ew
namespace Va

theorem l11 {l : List It} {a b : Option Addr} {c d k m : Nat} {op : Int} {rg : List Rg} {H : KH} {Q : Value → KH → Prop} {I : Nat → Option Addr → Nat → Nat → Option Addr → Nat → Nat → Int → KH → Prop}
    (ha : ItR H l a) (hb : ItR H l b) (hk : l[k]? = some (op, rg)) (hl : l.length ≤ 1000) (hrl : rg.length ≤ 100000)
    (hI : ∃ m', m' < m ∧ I m' a l.length c b l.length d (IntKind.wrap .i64 ((k : Nat) + 1)) H) : vc11_L1 a l.length c b l.length d (k : Nat) H Q m I := by
  obtain ⟨b1, o1, ar, cr, hat⟩ := ha.at hk
  obtain ⟨b2, o2, as1, cs, hbt⟩ := hb.at hk
  have hlt : k < l.length := by
    rcases Nat.lt_or_ge k l.length with q | q
    · exact q
    · rw [List.getElem?_eq_none q] at hk; cases hk
  have h1 : ld H ⟨b1, (o1 + (Int.toNat ((k : Nat) : Int)) * 2) + 1, none⟩ [.slice ar rg.length cr] := by simpa using hat.c1
  have h2 : ld H ⟨b2, (o2 + (Int.toNat ((k : Nat) : Int)) * 2) + 1, none⟩ [.slice as1 rg.length cs] := by simpa using hbt.c1
  unfold vc11_L1
  refine ⟨fun n3 a4 n5 n6 a7 n8 n9 x10 x11 H12 => a4 = a ∧ n5 = l.length ∧ n6 = c ∧ a7 = b ∧ n8 = l.length ∧ n9 = d ∧ x10 = (k : Nat) ∧ H12 = H ∧ ∃ j : Nat, x11 = j ∧ j ≤ rg.length ∧ n3 = rg.length - j, ⟨rg.length, rfl, rfl, rfl, rfl, rfl, rfl, rfl, rfl, 0, rfl, by omega, rfl⟩, ?_⟩
  rintro n3 a4 n5 n6 a7 n8 n9 x10 x11 H12 ⟨rfl, rfl, rfl, rfl, rfl, rfl, rfl, rfl, j, rfl, hj, rfl⟩
  refine ⟨⟨by omega, by omega⟩, b1, o1, hat.eq, rfl, ar, _, cr, h1, fun hlt2 => ?_, fun _ => hI⟩
  have hlt2 : j < rg.length := by have := of_decide_eq_true hlt2; omega
  have hr : rg[j]? = some rg[j] := by simp [hlt2]
  obtain ⟨r1, r2⟩ := rg_get hr
  obtain ⟨br, orr, har, hcell⟩ := koldAt hat.row (by omega)
  obtain ⟨bs, os, has, hcels⟩ := koldAt hbt.row (by omega)
  have two : ∀ {K : KH} {bb oo : Nat}, (∀ j v, (rgC rg)[j]? = some v → ld K ⟨bb, oo + j, none⟩ [v]) → ld K ⟨bb, oo + (Int.toNat ((j : Nat) : Int)) * 2, none⟩ [.int .u8 rg[j].1, .int .u8 rg[j].2] := by
    intro K bb oo hc
    obtain ⟨_, e1, q1, q2⟩ := hc _ _ r1
    obtain ⟨_, e2, q3, q4⟩ := hc _ _ r2
    have q1 : K bb = some e1 := q1
    have q3 : K bb = some e2 := q3
    rw [q1] at q3
    cases q3
    have e0 : Int.toNat ((j : Nat) : Int) = j := by omega
    rw [e0]
    refine ⟨rfl, e1, q1, rd_some rfl fun i v hv => ?_⟩
    match i, hv with
    | 0, hv =>
      have hv : Value.int .u8 rg[j].1 = v := by simpa using hv
      subst hv
      have := rd_get q2 0 _ rfl
      simpa using this
    | 1, hv =>
      have hv : Value.int .u8 rg[j].2 = v := by simpa using hv
      subst hv
      have := rd_get q4 0 _ rfl
      simpa [Nat.add_assoc] using this
  refine ⟨trivial, ⟨by omega, by omega⟩, b1, o1, hat.eq, rfl, ar, _, cr, h1, ⟨by omega, by omega⟩, br, orr, har, _, _, two hcell, ⟨by omega, by omega⟩, b2, o2, hbt.eq, rfl, as1, _, cs, h2, ⟨by omega, by omega⟩, bs, os, has, _, _, two hcels, fun h => ?_, fun _ => ?_⟩
  · simp at h
  · exact ⟨rg.length - (j + 1), by omega, rfl, rfl, rfl, rfl, rfl, rfl, rfl, rfl, j + 1, by rw [wrap64 (by omega) (by omega)]; omega, by omega, rfl⟩

section
variable (ok : EnvOk (env Try.prog))
include ok

theorem c11 {l : List It} {a b : Option Addr} {c d : Nat} {H : KH} {Q : Value → KH → Prop} (ha : ItR H l a) (hb : ItR H l b) (hl : l.length ≤ 1000) (hrl : ∀ i ∈ l, i.2.length ≤ 100000) (hq : Q (.bool true) H) : Does (env Try.prog) 11 [.slice a l.length c, .slice b l.length d] H Q := by
  refine fn11 ok ⟨fun h => ?_, fun _ => ?_⟩
  · simp at h
  unfold vc11_L3
  refine ⟨fun n3 a4 n5 n6 a7 n8 n9 x10 H11 => a4 = a ∧ n5 = l.length ∧ n6 = c ∧ a7 = b ∧ n8 = l.length ∧ n9 = d ∧ H11 = H ∧ ∃ k : Nat, x10 = k ∧ k ≤ l.length ∧ n3 = l.length - k, ⟨l.length, rfl, rfl, rfl, rfl, rfl, rfl, rfl, 0, rfl, by omega, rfl⟩, ?_⟩
  rintro n3 a4 n5 n6 a7 n8 n9 x10 H11 ⟨rfl, rfl, rfl, rfl, rfl, rfl, rfl, k, rfl, hk, rfl⟩
  refine ⟨fun hlt => ?_, fun _ => hq⟩
  have hlt : k < l.length := by have := of_decide_eq_true hlt; omega
  have hy : l[k]? = some l[k] := by simp [hlt]
  have hrg := hrl _ (List.getElem_mem hlt)
  generalize l[k] = i at *
  obtain ⟨op, rg⟩ := i
  obtain ⟨b1, o1, ar, cr, hat⟩ := ha.at hy
  obtain ⟨b2, o2, as1, cs, hbt⟩ := hb.at hy
  refine ⟨trivial, ⟨by omega, by omega⟩, b1, o1, hat.eq, rfl, _, by simpa using hat.c0, ⟨by omega, by omega⟩, b2, o2, hbt.eq, rfl, _, by simpa using hbt.c0, fun h => ?_, fun _ => ⟨⟨by omega, by omega⟩, b1, o1, hat.eq, rfl, ar, _, cr, by simpa using hat.c1, ⟨by omega, by omega⟩, b2, o2, hbt.eq, rfl, as1, _, cs, by simpa using hbt.c1, fun h => ?_, fun _ => ?_⟩⟩
  · simp at h
  · simp at h
  · exact l11 ha hb hy hl hrg ⟨l.length - (k + 1), by omega, rfl, rfl, rfl, rfl, rfl, rfl, rfl, k + 1, by rw [wrap64 (by omega) (by omega)]; omega, by omega, rfl⟩
end
end Va
end Go.Proofs.Ytphgchjoglgeeaa
