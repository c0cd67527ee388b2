/- The law ExprMaps: its first loop. -/
import Derived.Test.YtpdabjimdfifnaaEwMaps
set_option linter.unusedVariables false
set_option linter.unusedSimpArgs false
namespace Go.Ew
open Go.Ev Go.Deep Go.Proofs.Ytpdabjimdfifnaa.Va

theorem eval_noenv {d : Nat} : evalE [] [] (d + 1) (opE 22 []) = mapV [0, 0, 0, 0] := by
  rw [opE, evalE, if_neg (by simp [takesB]), if_neg (by decide), if_neg (by decide), if_neg (by decide), if_neg (by decide), if_neg (by decide)]
  have h1 : reckonV 22 [] = mapV [0, 0, 0, 0] := by simp [reckonV, mapV, envL]
  have h2 : smallV (mapV [0, 0, 0, 0]) = mapV [0, 0, 0, 0] := small_le (sz_map rfl)
  simp [allV, h1, h2]
end Go.Ew

namespace Go.Proofs.Ytpdabjimdfifnaa
open Go.Ev Go.Ew
namespace Va
section
variable (ok : EnvOk (env Try.prog))
include ok

theorem c4 {a : Option Addr} {n c : Nat} {H : KH} (hu : U82 H a n) : Does (env Try.prog) 4 [.slice a n c] H fun v _ => v = .bool true := by
  refine fn4 ok (c6 ⟨true, rfl, fun h => (by cases h), fun _ => ⟨fun _ => rfl, fun h11 p hp => ?_⟩⟩)
  have hn : n ≤ 11 := by have := of_decide_eq_false h11; omega
  unfold vc4_L6
  refine ⟨fun n3 a4 n5 n6 x7 x8 x9 s10 a11 n12 n13 x14 x15 a16 n17 n18 n19 n20 x21 x22 H23 => a4 = a ∧ n5 = n ∧ n19 = p ∧ n20 = 0 ∧ ∃ (i : Nat) (L : List Int) (e : Ex) (K : KH) (E : Ent), x22 = i ∧ i ≤ n ∧ i ≤ 10 ∧ n3 = n - i ∧ L.length = 4 ∧ (∀ m ∈ L, 0 ≤ m) ∧ x21 = ((envL 0 L).length : Nat) ∧ K p = none ∧ H23 = K.new p E ∧ Le H K ∧ wrB E = true ∧ rd E.cells 0 4 = some (four L) ∧ RE K e [.int .i64 x7, .int .i64 x8, .int .i64 x9, .string s10, .slice a11 n12 n13, .int .i64 x14, .int .i64 x15, .slice a16 n17 n18] ∧ SzE e ∧ ∀ d, i + 1 ≤ d → evalE [] [] d e = mapV L,
    ⟨n, rfl, rfl, rfl, rfl, rfl, 0, [0, 0, 0, 0], opE 22 [], H, _, rfl, by omega, by omega, rfl, rfl, by simp, by simp [envL], hp, rfl, Le.refl _, rfl, mk_rd, re_opE (args := []) trivial, sz_opE trivial, fun d hd => by
      obtain ⟨d, rfl⟩ : ∃ e, d = e + 1 := ⟨d - 1, by omega⟩
      exact eval_noenv⟩, ?_⟩
  rintro n3 a4 n5 n6 x7 x8 x9 s10 a11 n12 n13 x14 x15 a16 n17 n18 n19 n20 x21 x22 H23 ⟨rfl, rfl, rfl, rfl, i, L, e, K, E, rfl, hi, hi10, rfl, hL, hpos, rfl, hKp, rfl, hle, hwr, hrd, hre, hse, hev⟩
  have hat : (K.new n19 E) n19 = some E := if_pos rfl
  have leK : Le K (K.new n19 E) := Le.new hKp
  have hl4 : (four L).length = 4 := by simp [four, hL]
  have hldp : ld (K.new n19 E) ⟨n19, 0, none⟩ (four L) := ⟨rfl, E, hat, by rw [hl4]; exact hrd⟩
  have out : vc4_J5 x7 x8 x9 s10 a11 n12 n13 x14 x15 a16 n17 n18 (K.new n19 E) (fun v _ => v = .bool true) ((envL 0 L).length : Nat) n19 0 :=
    j4 ok hL hpos (hre.mono leK) hse (hev 12 (by omega)) hldp fun _ => rfl
  refine ⟨fun hlt => ⟨fun hlt10 => ?_, fun _ => out⟩, fun _ => out⟩
  have hlt : i < n5 := by have := of_decide_eq_true hlt; omega
  have hlt10 : i < 10 := by have := of_decide_eq_true hlt10; omega
  obtain ⟨b, o, x, y, ha, hxy, hx0, hx1, hy0, hy1⟩ := hu i hlt
  have hxy' := leK.ld (hle.ld hxy)
  have hldx : ld (K.new n19 E) ⟨b, o + i * 2 + 0 * 1, none⟩ [.int .u8 x] := by simpa using ld_sub hxy' 0 1 (by simp)
  obtain ⟨k, hk⟩ : ∃ k : Nat, IntKind.wrap .i64 (Int.tmod x 4) = k ∧ k < 4 := by
    refine ⟨(x % 4).toNat, ?_, by omega⟩
    rw [Int.tmod_eq_emod_of_nonneg hx0, wrap64 (by omega) (by omega)]; omega
  have hk4 := hk.2
  refine ⟨⟨by omega, by omega⟩, b, o, ha, ⟨by omega, by omega⟩, rfl, x, by simpa using hldx, by decide, trivial, ?_⟩
  rw [hk.1]
  intro n4 hn4
  refine ⟨_, _, lit_kold (if_pos rfl) rfl, bytes_one, ?_⟩
  have hkey := key_of (x := (k : Int)) (by omega) (by omega)
  rw [Int.toNat_natCast] at hkey
  rw [hkey]
  generalize hX : mkEnt [.int .u8 (IntKind.wrap .u8 (IntKind.wrap .i64 (97 + (k : Int))))] 0 = X at *
  have le4 : Le (K.new n19 E) ((K.new n19 E).new n4 X) := Le.new hn4
  have hldy : ld ((K.new n19 E).new n4 X) ⟨b, o + i * 2 + 1 * 1, none⟩ [.int .u8 y] := le4.ld (by simpa using ld_sub hxy' 1 1 (by simp))
  have hvv : IntKind.wrap .i64 (IntKind.wrap .i64 y + 1) = y + 1 := by rw [wrap64 (x := y) (by omega) (by omega), wrap64 (by omega) (by omega)]
  refine ⟨⟨by omega, by omega⟩, b, o, ha, ⟨by omega, by omega⟩, rfl, y, by simpa using hldy, fn8 ok ⟨_, _, _, _, _, _, _, _, _, _, _, _, rfl, ⟨rfl, rfl, rfl, ⟨⟨by omega, by omega⟩, b, o, ha, rfl⟩, ⟨⟨by omega, by omega⟩, rfl, rfl⟩, ⟨y, by simpa using hldy, rfl⟩, rfl, rfl, rfl, trivial⟩, fn8 ok ⟨_, _, _, _, _, _, _, _, _, _, _, _, rfl, ⟨rfl, trivial⟩, fun n41 hn41 => fn7 ok ⟨_, _, _, _, _, _, _, _, _, _, _, _, rfl, trivial, trivial, ⟨by omega, by omega⟩, rfl, ?_⟩⟩⟩⟩
  rw [hvv]
  generalize hY : mkEnt ([.int .i64 x7, .int .i64 x8, .int .i64 x9, .string s10, .slice a11 n12 n13, .int .i64 x14, .int .i64 x15, .slice a16 n17 n18] ++ ([.int .i64 0, .int .i64 3, .int .i64 0, .string (keyB k), .slice none 0 0, .int .i64 0, .int .i64 0, .slice none 0 0] ++ [.int .i64 0, .int .i64 1, .int .i64 (y + 1), .string emp, .slice none 0 0, .int .i64 0, .int .i64 0, .slice none 0 0])) 0 = Y
  have hp4 : n19 ≠ n4 := fun e => by subst e; rw [hat] at hn4; cases hn4
  have hp41 : n19 ≠ n41 := fun e => by subst e; rw [le4 _ _ hat] at hn41; cases hn41
  have hK4 : K n4 = none := leK.none hn4
  have hheap : ((K.new n19 E).new n4 X).new n41 Y = ((K.new n4 X).new n41 Y).new n19 E := by rw [new_new hp4, new_new hp41]
  have hK41 : (K.new n4 X) n41 = none := by
    rw [new_new hp4] at hn41
    simp only [KH.new, if_neg (Ne.symm hp41)] at hn41 ⊢
    exact hn41
  have leK2 : Le K ((K.new n4 X).new n41 Y) := (Le.new hK4).trans (Le.new hK41)
  have hK2p : ((K.new n4 X).new n41 Y) n19 = none := by simp [KH.new, hp4, hp41, hKp]
  have hY41 : ((K.new n4 X).new n41 Y) n41 = some Y := if_pos rfl
  rw [show ((K.new n19 E).new n4 X).new n41 (mkEnt [.int .i64 x7, .int .i64 x8, .int .i64 x9, .string s10, .slice a11 n12 n13, .int .i64 x14, .int .i64 x15, .slice a16 n17 n18, .int .i64 0, .int .i64 3, .int .i64 0, .string (keyB k), .slice none 0 0, .int .i64 0, .int .i64 0, .slice none 0 0, .int .i64 0, .int .i64 1, .int .i64 (y + 1), .string (ByteArray.mk #[]), .slice none 0 0, .int .i64 0, .int .i64 0, .slice none 0 0] 0) = ((K.new n4 X).new n41 Y).new n19 E from by rw [← hheap, ← hY]; rfl]
  generalize (K.new n4 X).new n41 Y = K2 at *
  rw [← hY] at hY41
  have hat2 : (K2.new n19 E) n19 = some E := if_pos rfl
  have hld2 : ld (K2.new n19 E) ⟨n19, 0, none⟩ (four L) := ⟨rfl, E, hat2, by rw [hl4]; exact hrd⟩
  obtain ⟨m, hm⟩ : ∃ m, L[k]? = some m := ⟨L[k], by simp [hL, hk4]⟩
  have hldm := four_at hld2 hm
  have hldy2 : ld (K2.new n19 E) ⟨b, o + i * 2 + 1 * 1, none⟩ [.int .u8 y] := by
    have := (leK2.trans (Le.new hK2p (e := E))).ld (hle.ld hxy)
    simpa using ld_sub this 1 1 (by simp)
  have hrd2 := rd_wr0 (o := 0 + k * 1) (vs := [.int .i64 (y + 1)]) hrd (by simp; omega)
  have hset : (four L).take (0 + k * 1) ++ [.int .i64 (y + 1)] ++ (four L).drop (0 + k * 1 + [Value.int .i64 (y + 1)].length) = four (L.set k (y + 1)) := by
    have := four_set (L := L) (i := k) (v := y + 1) (by omega)
    simpa using this
  rw [hset] at hrd2
  have hre2 : RE K2 (opE 16 [e, conE (strV (keyB k)), conE (numV (y + 1))]) [.int .i64 16, .int .i64 0, .int .i64 0, .string (ByteArray.mk #[]), .slice none 0 0, .int .i64 0, .int .i64 0, .slice (some ⟨n41, 0, none⟩) 3 3] :=
    re_opE (args := [e, conE (strV (keyB k)), conE (numV (y + 1))]) (res_lit hY41 (rc3 (hre.mono leK2) ⟨_, _, _, _, _, _, none, 0, rfl, leaf, trivial⟩ ⟨_, _, _, _, _, _, none, 0, rfl, leaf, trivial⟩))
  have hse2 : SzE (opE 16 [e, conE (strV (keyB k)), conE (numV (y + 1))]) := sz_opE ⟨hse, ⟨by have := (ok_str (k := k)).sz; show szV (strV (keyB k)) ≤ 20000; omega, trivial⟩, ⟨by have := (ok_num (y + 1)).sz; show szV (numV (y + 1)) ≤ 20000; omega, trivial⟩, trivial⟩
  have hev2 : ∀ d, i + 1 + 1 ≤ d → evalE [] [] d (opE 16 [e, conE (strV (keyB k)), conE (numV (y + 1))]) = mapV (L.set k (y + 1)) := fun d hd => by
    obtain ⟨d, rfl⟩ : ∃ e, d = e + 2 := ⟨d - 2, by omega⟩
    exact eval_put (hev (d + 1) (by omega)) hL hk4 (by omega)
  have hlen := env_len (v := y + 1) (by omega) 0 k L m hm
  have hpos2 : ∀ z ∈ L.set k (y + 1), 0 ≤ z := fun z hz => by
    rcases List.mem_or_eq_of_mem_set hz with h | h
    · exact hpos z h
    · omega
  have hmay : KH.may (K2.new n19 E) n19 := ⟨⟨E, hat2, hwr⟩⟩
  have hput : (K2.new n19 E).put ⟨n19, 0 + Int.toNat (k : Int) * 1, none⟩ [.int .i64 (y + 1)] = K2.new n19 ⟨wr E.cells (0 + k * 1) [.int .i64 (y + 1)], E.len, E.unk, none⟩ := by rw [Int.toNat_natCast]; exact put_new
  have hi1 : IntKind.wrap .i64 ((i : Int) + 1) = ((i + 1 : Nat) : Int) := by rw [wrap64 (by omega) (by omega)]; omega
  have hlb : (envL 0 L).length ≤ 12 := by have := env_sz 0 L; have := len_szL (envL 0 L); omega
  refine ⟨m, by simpa using hldm, fun h0 => ?_, fun h0 => ?_⟩
  · have h0 : m = 0 := by simpa using h0
    refine ⟨⟨by omega, by omega⟩, b, o, ha, ⟨by omega, by omega⟩, rfl, y, by simpa using hldy2, ⟨by omega, by omega⟩, rfl, ?_⟩
    rw [hvv, hput]
    refine ⟨⟨[.int .i64 m], rfl, by simpa using hldm⟩, hmay, n5 - (i + 1), by omega, rfl, rfl, rfl, rfl, rfl, i + 1, L.set k (y + 1), _, K2, _, hi1, by omega, by omega, rfl, by simp [hL], hpos2, ?_, hK2p, rfl, hle.trans leK2, wrB_keep hwr, hrd2, hre2, hse2, hev2⟩
    rw [hlen, if_pos h0, wrap64 (by omega) (by omega)]
    omega
  · have h0 : ¬ m = 0 := by simpa using h0
    refine ⟨⟨by omega, by omega⟩, b, o, ha, ⟨by omega, by omega⟩, rfl, y, by simpa using hldy2, ⟨by omega, by omega⟩, rfl, ?_⟩
    rw [hvv, hput]
    refine ⟨⟨[.int .i64 m], rfl, by simpa using hldm⟩, hmay, n5 - (i + 1), by omega, rfl, rfl, rfl, rfl, rfl, i + 1, L.set k (y + 1), _, K2, _, hi1, by omega, by omega, rfl, by simp [hL], hpos2, ?_, hK2p, rfl, hle.trans leK2, wrB_keep hwr, hrd2, hre2, hse2, hev2⟩
    rw [hlen, if_neg h0]
    omega
end
end Va
end Go.Proofs.Ytpdabjimdfifnaa
