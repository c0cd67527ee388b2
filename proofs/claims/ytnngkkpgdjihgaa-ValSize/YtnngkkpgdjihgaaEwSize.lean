/- The law ValSize: what its function answers. -/
import Derived.Test.YtnngkkpgdjihgaaEwFits
set_option linter.unusedVariables false
set_option linter.unusedSimpArgs false
namespace Go.Proofs.Ytnngkkpgdjihgaa
open Go.Ev Go.Ew
namespace Va
section
variable (ok : EnvOk (env Try.prog))
include ok

theorem c7 {a : Option Addr} {n c : Nat} {H : KH} (hu : U8s H a n) : Does (env Try.prog) 7 [.slice a n c] H fun v _ => v = .bool true := by
  refine fn7 ok (does_true (by kernel_rfl) (by kernel_rfl) (by kernel_rfl) ⟨true, rfl, fun h => (by simp at h), fun _ => ⟨fun _ => rfl, fun hn => ?_⟩⟩)
  have hn : n ≤ 6 := by simp at hn; omega
  have he : (ByteArray.mk #[]).size = 0 := rfl
  unfold vc7_L2
  refine ⟨fun m a4 n5 n6 x7 x8 s9 a10 n11 n12 x13 x14 H15 => a4 = a ∧ n5 = n ∧ x7 = 4 ∧ x8 = 0 ∧ s9 = ByteArray.mk #[] ∧ ∃ (j : Nat) (K : KH) (q : Option (Nat × Ent)) (vs : List V), x14 = j ∧ j ≤ n ∧ m = n - j ∧ H15 = addO K q ∧ Gro K q vs a10 n11 n12 ∧ Le H K ∧ vs.length = j ∧ (∀ v ∈ vs, Fit v) ∧ szL vs ≤ 80 * j ∧ x13 = (1 + szL vs : Nat),
    ⟨n, rfl, rfl, rfl, rfl, rfl, 0, H, none, [], rfl, by omega, rfl, rfl, ⟨trivial, rfl, [], rfl, rfl, rfl, rfl, rfl⟩, Le.refl _, rfl, by simp, by simp [szL], by simp [szL]⟩, ?_⟩
  rintro m a4 n5 n6 x7 x8 s9 a10 n11 n12 x13 x14 H15 ⟨rfl, rfl, rfl, rfl, rfl, j, K, q, vs, rfl, hj, rfl, rfl, hG, hle, rfl, hfit, hsz, rfl⟩
  refine ⟨fun hlt => ?_, fun hge => rfl⟩
  have hlt : vs.length < n5 := by simpa using hlt
  obtain ⟨b, o, a', n', c', ha, hld, hu8⟩ := hu vs.length hlt
  have hKO := addO_le hG.fr
  have t1 : Int.toNat (vs.length : Int) = vs.length := by omega
  rw [t1]
  have hld' : ld (addO K q) ⟨b, o + vs.length * 1, none⟩ [.slice a' n' c'] := by rw [Nat.mul_one]; exact (hle.trans hKO).ld hld
  refine ⟨⟨by omega, by omega⟩, b, o, ha, a', n', c', hld', fun _ => rfl, fun hn' => ⟨⟨by omega, by omega⟩, b, o, ha, a', n', c', hld', ?_⟩⟩
  have hn' : n' ≤ 20 := by simp at hn'; omega
  refine Does.frameO hG.fr (c10 ok (hu8.mono hle) (by omega) fun p K1 hPK hf1 => ⟨p, 0, rfl, ?_⟩)
  refine Does.frameO hf1 (c11 ok 2 (by omega) _ K1 p _ hPK fun v cs K' K2 q1 q2 q3 q4 hf2 => ?_)
  have hv := q3.mono q1.le
  have e1 : Le K K2 := q2.trans q1.le
  have z1 : szV v ≤ 80 := Nat.le_trans q4.1 (by decide)
  have hfv := q4.2
  obtain ⟨k, i, s, lv⟩ := v
  obtain ⟨ax, nx, cx, rfl, _⟩ := q3
  refine ⟨k, i, s, ax, nx, cx, rfl, fun n18 hn18 n19 hn19 => ?_⟩
  obtain ⟨g1, g2, g3⟩ := addO_new (e := mkEnt [.int .i64 k, .int .i64 i, .string s, .slice ax nx cx] 0) hn18
  rw [g2] at hn19 ⊢
  have e2 : Le K2 (K2.new n18 (mkEnt [.int .i64 k, .int .i64 i, .string s, .slice ax nx cx] 0)) := Le.new g1
  have hG2 := hG.mono (e1.trans e2) (g3 hf2)
  have hk : kold (addO (K2.new n18 (mkEnt [.int .i64 k, .int .i64 i, .string s, .slice ax nx cx] 0)) q) 4 (some ⟨n18, 0, none⟩) 1 = some [.int .i64 k, .int .i64 i, .string s, .slice ax nx cx] :=
    (addO_le hG2.fr).kold (kold_some.2 ⟨mkEnt [.int .i64 k, .int .i64 i, .string s, .slice ax nx cx] 0, by simp [KH.new], mk_rd⟩)
  refine ⟨1, _, knew_of hk, ?_⟩
  obtain ⟨a2, c2, K3, q3', hap, hG3, hle3⟩ := Gro.push (ti := VT) rfl (by decide) hG2 (hv.mono e2) hn19 (by omega)
  have hx : RV (addO K3 q3') (.mk k i s lv) [.int .i64 k, .int .i64 i, .string s, .slice ax nx cx] := (hv.mono (e2.trans hle3)).mono (addO_le hG3.fr)
  obtain ⟨o1, o2⟩ := hG3.out
  have hlen := hG3.len
  have hw : RV (addO K3 q3') (.mk 4 0 (ByteArray.mk #[]) (vs ++ [.mk k i s lv])) [.int .i64 4, .int .i64 0, .string (ByteArray.mk #[]), .slice a2 (n11 + 1) c2] := by
    rw [hlen]; exact ⟨_, _, _, rfl, rfl, o1, o2⟩
  have hsw : szV (.mk 4 0 (ByteArray.mk #[]) (vs ++ [.mk k i s lv])) = 1 + szL vs + szV (.mk k i s lv) := by
    simp only [szV, he, szL_app, szL]; omega
  have hs2 : szL (vs ++ [.mk k i s lv]) = szL vs + szV (.mk k i s lv) := by rw [szL_app]; simp [szL]
  have hfa : ∀ x ∈ vs ++ [.mk k i s lv], Fit x := fun w hw => by
    rcases List.mem_append.1 hw with hw | hw
    · exact hfit w hw
    · have : w = .mk k i s lv := by simpa using hw
      subst this
      exact hfv
  have d1 := dp_sz (.mk k i s lv)
  have d2 := dp_sz (.mk 4 0 (ByteArray.mk #[]) (vs ++ [.mk k i s lv]))
  have hsum : IntKind.wrap .i64 (((1 + szL vs : Nat) : Int) + ((szV (.mk k i s lv) : Nat) : Int)) = ((1 + szL vs + szV (.mk k i s lv) : Nat) : Int) := by
    rw [wrap64 (by omega) (by omega)]; omega
  refine ⟨a2, _, c2, _, hap, c14 ok hx (by omega) (by omega) ⟨_, rfl, c14 ok hw (by omega) (by omega) ⟨_, rfl, fun h => ?_, fun _ => c13 ok hw (by omega) ⟨_, rfl, fun h => ?_, fun _ => ?_⟩⟩⟩⟩
  · rw [hsum, hsw] at h
    simp at h
  · rw [hsum, hsw, (Fit.list hfa).fit, Bool.and_true] at h
    exfalso
    by_cases h60 : 1 + szL vs + szV (.mk k i s lv) ≤ 60
    · have h61 : ((1 + szL vs + szV (.mk k i s lv) : Nat) : Int) ≤ 60 := by omega
      rw [decide_eq_true h60, decide_eq_true h61] at h
      simp at h
    · have h61 : ¬ ((1 + szL vs + szV (.mk k i s lv) : Nat) : Int) ≤ 60 := by omega
      rw [decide_eq_false h60, decide_eq_false h61] at h
      simp at h
  · rw [hsum]
    exact ⟨n5 - (vs.length + 1), by omega, rfl, rfl, rfl, rfl, rfl, vs.length + 1, K3, q3', vs ++ [.mk k i s lv], by rw [wrap64 (by omega) (by omega)]; omega, by omega, rfl, rfl, hG3, hle.trans ((e1.trans e2).trans hle3), by simp, hfa, by rw [hs2]; omega, by rw [hs2]; omega⟩
end
end Va
end Go.Proofs.Ytnngkkpgdjihgaa
