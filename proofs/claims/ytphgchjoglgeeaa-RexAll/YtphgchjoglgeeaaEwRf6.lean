/- The law RexAll: what its function answers. -/
import Derived.Test.YtphgchjoglgeeaaEwRf5
import Derived.Test.YtphgchjoglgeeaaEwRxU
import Derived.Test.YtphgchjoglgeeaaEwVc5
set_option linter.unusedVariables false
set_option linter.unusedSimpArgs false
namespace Go.Ew
open Go.Ev Go.Deep

theorem bytesOf_ints : ∀ l : List Int, bytesOfCells (l.map (Value.int .u8)) = some (l.map fun n => UInt8.ofNat n.toNat)
  | [] => rfl
  | n :: l => by
    simp only [List.map_cons, bytesOfCells, bytesOf_ints l]

theorem byteCells_ints (s : ByteArray) : byteCells s = (s.data.toList.map fun b => ((b.toNat : Nat) : Int)).map (Value.int .u8) := by
  unfold byteCells
  rw [List.map_map]
  rfl

/-- A byte of a text's bytes turned. -/
theorem turned {H : KH} {s : ByteArray} {n k : Nat} {c : Int} (hn : H n = none) (hk : k < s.size) :
    (∃ l : List Value, l.length = [Value.int .u8 c].length ∧ ld (H.new n (mkEnt (byteCells s) 1)) ⟨n, 0 + k * 1, none⟩ l) ∧ KH.may (H.new n (mkEnt (byteCells s) 1)) n ∧
    ∃ l13, ∃ l12, kold ((H.new n (mkEnt (byteCells s) 1)).put ⟨n, 0 + k * 1, none⟩ [.int .u8 c]) 1 (some ⟨n, 0, none⟩) s.size = some l12 ∧ bytesOfCells l12 = some l13 := by
  have hlen : (byteCells s).length = s.size := by unfold byteCells; rw [List.length_map]; rfl
  have hrd : rd (mkEnt (byteCells s) 1).cells 0 s.size = some (byteCells s) := by
    rw [← hlen]
    exact rd_some rfl fun j v hv => by rw [Nat.zero_add]; simp only [mkEnt, tget_wr_nil]; exact hv
  obtain ⟨v0, hv0, hsplit⟩ : ∃ v0, (byteCells s)[k]? = some v0 ∧ byteCells s = (byteCells s).take k ++ [v0] ++ (byteCells s).drop (k + 1) := by
    have hkl : k < (byteCells s).length := by omega
    refine ⟨(byteCells s)[k], by simp [hkl], ?_⟩
    rw [List.append_assoc]
    have : [(byteCells s)[k]] ++ (byteCells s).drop (k + 1) = (byteCells s).drop k := by
      rw [List.drop_eq_getElem_cons hkl]; rfl
    rw [this, List.take_append_drop]
  refine ⟨⟨[v0], rfl, rfl, _, if_pos rfl, rd_some rfl fun j v hv => ?_⟩, ⟨_, if_pos rfl, rfl⟩, ?_⟩
  · match j, hv with
    | 0, hv =>
      have hv : v0 = v := by simpa using hv
      subst hv
      simp only [mkEnt, tget_wr_nil]
      simpa using hv0
    | j + 1, hv => simp at hv
  · have h2 : rd (wr (mkEnt (byteCells s) 1).cells (0 + k * 1) [.int .u8 c]) 0 s.size = some ((byteCells s).take k ++ [.int .u8 c] ++ (byteCells s).drop (k + 1)) := by
      refine rdWr (xs := (byteCells s).take k) (ys := [v0]) (zs := (byteCells s).drop (k + 1)) (by rw [hrd, ← hsplit]) (by simp; omega) rfl
    rw [put_new]
    have h3 : ∃ l13, bytesOfCells ((byteCells s).take k ++ [.int .u8 c] ++ (byteCells s).drop (k + 1)) = some l13 := by
      rw [byteCells_ints, ← List.map_take, ← List.map_drop]
      have : [Value.int .u8 c] = [c].map (Value.int .u8) := rfl
      rw [this, ← List.map_append, ← List.map_append]
      exact ⟨_, bytesOf_ints _⟩
    obtain ⟨l13, h3⟩ := h3
    exact ⟨l13, _, kold_some.2 ⟨_, if_pos rfl, by simpa using h2⟩, h3⟩
end Go.Ew

namespace Go.Proofs.Ytphgchjoglgeeaa
open Go.Ev Go.Ew
namespace Va
section
variable (ok : EnvOk (env Try.prog))
include ok

theorem c3 {s0 : ByteArray} {a : Option Addr} {n c : Nat} {x y : Nat} {H : KH} (h0 : U8 H a n) (hx : x ≤ 255) (hy : y ≤ 255) : Does (env Try.prog) 3 [.string s0, .slice a n c, .int .u8 (x : Nat), .int .u8 (y : Nat)] H fun v _ => v = .bool true := by
  refine fn3 ok (c6 ⟨true, rfl, fun h => (by cases h), fun _ => ⟨fun _ => rfl, fun l0 => ⟨fun _ => rfl, fun l1 => ?_⟩⟩⟩)
  have l1 : n ≤ 20 := by have := of_decide_eq_false l1; omega
  refine c7 ok h0 (by omega) fun p Hp hp => ⟨p, 0, rfl, c8 ok hp fun m K1 H6 hpar hadv hsz hle hpk => ⟨m, rfl, by omega, fun n8 hn8 => ?_⟩⟩
  have hw : IntKind.wrap .i64 ((x : Nat) : Int) = (x : Int) := wrap64 (by omega) (by omega)
  have hne : ((m.size : Nat) : Int) ≠ 0 := by omega
  have hk : ∃ k : Nat, Int.tmod (x : Int) (m.size : Nat) = k ∧ k < m.size := by
    refine ⟨x % m.size, ?_, Nat.mod_lt _ (by omega)⟩
    rw [Int.tmod_eq_emod_of_nonneg (by omega)]
    exact (Int.natCast_emod x m.size).symm
  obtain ⟨k, hk1, hk2⟩ := hk
  rw [hw, hk1]
  have e0 : Int.toNat ((k : Nat) : Int) = k := by omega
  rw [e0]
  obtain ⟨t1, t2, l13, l12, t3, t4⟩ := turned (c := (y : Int)) hn8 hk2
  refine ⟨hne, ⟨by omega, by omega⟩, n8, 0, rfl, t1, t2, l12, l13, t3, t4, fun n14 hn14 => ?_⟩
  unfold vc3_L1
  generalize hK : (KH.put (H6.new n8 (mkEnt (byteCells m) 1)) _ _) = K at *
  generalize hE : mkEnt [Value.string s0, .string m, .string ⟨l13.toArray⟩] 0 = E at *
  refine ⟨fun n3 a4 n5 n6 x7 H8 => a4 = some ⟨n14, 0, none⟩ ∧ n5 = 3 ∧ Le (K.new n14 E) H8 ∧ ∃ j : Nat, x7 = j ∧ j ≤ 3 ∧ n3 = 3 - j, ⟨3, rfl, rfl, ?_, 0, rfl, by omega, rfl⟩, ?_⟩
  · rw [hw, hk1, e0, hK]
    exact Le.refl _
  rintro n3 a4 n5 n6 x7 H8 ⟨rfl, rfl, hl8, j, rfl, hj, rfl⟩
  refine ⟨fun hlt => ?_, fun _ => rfl⟩
  have hlt : j < 3 := by have := of_decide_eq_true hlt; omega
  have e1 : Int.toNat ((j : Nat) : Int) = j := by omega
  rw [e1]
  have hat : ∃ t : ByteArray, ∀ K', Le (K.new n14 E) K' → ld K' ⟨n14, 0 + j * 1, none⟩ [.string t] := by
    have key : ∀ t : ByteArray, [Value.string s0, .string m, .string ⟨l13.toArray⟩][j]? = some (.string t) → ∀ K', Le (K.new n14 E) K' → ld K' ⟨n14, 0 + j * 1, none⟩ [.string t] := fun t ht K' hl => hl.ld (litAt (by rw [← hE]; exact if_pos rfl) ht)
    have : j = 0 ∨ j = 1 ∨ j = 2 := by omega
    rcases this with q | q | q <;> subst q
    · exact ⟨s0, key _ rfl⟩
    · exact ⟨m, key _ rfl⟩
    · exact ⟨⟨l13.toArray⟩, key _ rfl⟩
  obtain ⟨t, ht⟩ := hat
  have next : ∀ H20, Le (K.new n14 E) H20 → ∃ n22, n22 < 3 - j ∧ (some (⟨n14, 0, none⟩ : Addr) = some ⟨n14, 0, none⟩ ∧ 3 = 3 ∧ Le (K.new n14 E) H20 ∧ ∃ j_1 : Nat, IntKind.wrap .i64 (((j : Nat) : Int) + 1) = j_1 ∧ j_1 ≤ 3 ∧ n22 = 3 - j_1) := fun H20 hl => ⟨3 - (j + 1), by omega, rfl, rfl, hl, j + 1, by rw [wrap64 (by omega) (by omega)]; omega, by omega, rfl⟩
  refine ⟨⟨by omega, by omega⟩, n14, 0, rfl, t, ht _ hl8, ?_⟩
  have keep11 : ∀ {l : List It} {a b : Option Addr} {c d : Nat} {K2 : KH} {R : Value → KH → Prop}, ItR K2 l a → ItR K2 l b → l.length ≤ 1000 → (∀ i ∈ l, i.2.length ≤ 100000) → R (.bool true) K2 → Does (env Try.prog) 11 [.slice a l.length c, .slice b l.length d] K2 R := fun h1 h2 h3 h4 h5 => c11 ok h1 h2 h3 h4 h5
  refine c9 ok (fun hn K1 hl1 => ⟨_, _, _, _, rfl, ⟨by omega, by omega⟩, n14, 0, rfl, t, ht _ (hl8.trans hl1), c10 ok (fun _ K2 hl2 => ⟨_, _, _, _, rfl, fun q => (by cases q), fun _ => ?_⟩) fun l hl => by rw [hn] at hl; cases hl⟩) fun l hl a1 c1 K1 hl1 hi1 => ⟨_, _, _, _, rfl, ⟨by omega, by omega⟩, n14, 0, rfl, t, ht _ (hl8.trans hl1), c10 ok (fun hn => by rw [hl] at hn; cases hn) fun l' hl' a2 c2 K2 hl2 hi2 => ⟨_, _, _, _, rfl, fun q => (by cases q), fun _ => ?_⟩⟩
  · exact c11 ok (l := []) (a := none) (b := none) ⟨[], rfl, rfl⟩ ⟨[], rfl, rfl⟩ (by simp) (by simp) ⟨true, rfl, fun q => (by cases q), fun _ => next K2 ((hl8.trans hl1).trans hl2)⟩
  · rw [hl] at hl'
    cases hl'
    obtain ⟨q1, q2⟩ := parse_small hl
    have q1' : l.length ≤ 1000 := by omega
    exact c11 ok (hi1.mono hl2) hi2 q1' q2 ⟨true, rfl, fun q => (by cases q), fun _ => next K2 ((hl8.trans hl1).trans hl2)⟩
end
end Va
end Go.Proofs.Ytphgchjoglgeeaa
