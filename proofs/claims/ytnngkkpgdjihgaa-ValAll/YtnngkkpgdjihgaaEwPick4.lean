/- The play makes values: Val. -/
import Derived.Test.YtnngkkpgdjihgaaEwPick3
set_option linter.unusedVariables false
namespace Go.Proofs.Ytnngkkpgdjihgaa
open Go.Ev Go.Ew
namespace Va

abbrev texts : List Value := [.string (ByteArray.mk #[]), .string (ByteArray.mk #[97]), .string (ByteArray.mk #[98]), .string (ByteArray.mk #[97, 98]), .string (ByteArray.mk #[97, 45, 116, 101, 120, 116, 45, 111, 102, 45, 50, 49, 45, 98, 121, 116, 101, 115, 45, 120, 120])]

theorem texts_get (j : Nat) (h : j < 5) : ∃ s : ByteArray, texts[j]? = some (.string s) ∧ s.size ≤ 21 := by
  have h3 : j = 0 ∨ j = 1 ∨ j = 2 ∨ j = 3 ∨ j = 4 := by omega
  rcases h3 with q | q | q | q | q <;> rw [q] <;> exact ⟨_, rfl, by decide⟩

abbrev ints : List Value := [.int .i64 0, .int .i64 1, .int .i64 2, .int .i64 (-1), .int .i64 7, .int .i64 9223372036854775807, .int .i64 (-9223372036854775808)]

theorem ints_get (j : Nat) (h : j < 7) : ∃ x : Int, ints[j]? = some (.int .i64 x) := by
  have h3 : j = 0 ∨ j = 1 ∨ j = 2 ∨ j = 3 ∨ j = 4 ∨ j = 5 ∨ j = 6 := by omega
  rcases h3 with q | q | q | q | q | q | q <;> rw [q] <;> exact ⟨_, rfl⟩

theorem PK.fresh {K H : KH} {p n : Nat} {E : Ent} (h : PK K p H) (hn : H n = none) : PK ((H.new n E).del p) p (H.new n E) ∧ Le K ((H.new n E).del p) ∧ ((H.new n E).del p) n = some E := by
  have g := h.grow (Le.new hn (e := E))
  refine ⟨g.1, g.2, ?_⟩
  have hnp : n ≠ p := fun e => by
    subst e
    obtain ⟨_, e, _, _, _, _, q, _⟩ := h
    rw [q] at hn
    simp [KH.new] at hn
  simp only [KH.del, KH.new, if_neg hnp, if_true]

section
variable (ok : EnvOk (env Try.prog))
include ok

theorem c11_of {d : Nat} (hd : d ≤ 7) (hrec : 0 < d → ∃ d', d = d' + 1 ∧ d' ≤ 5 ∧ P11 d') : P11 d := by
  intro K H p Q hp hq
  have hpow : 1 ≤ 4 ^ d := Nat.one_le_pow _ _ (by omega)
  have he : emp.size = 0 := rfl
  refine fn11 ok (c24 ok hp (by omega) (by omega) fun x H2 hx1 hx2 hp2 => ⟨x, rfl, fun h => ?_, fun h3 => ⟨fun h => ?_, fun h4 => ⟨fun h => ?_, fun h5 => ⟨fun h => ?_, fun h6 => ?_⟩⟩⟩⟩)
  · intro n4 hn4
    obtain ⟨g1, g2, g3⟩ := PK.fresh (E := mkEnt ints 0) hp2 hn4
    refine c24 ok g1 (by omega) (by omega) fun y H6 hy1 hy2 hp6 => ⟨y, rfl, ⟨hy1, hy2⟩, n4, 0, rfl, ?_⟩
    obtain ⟨z, hz⟩ := ints_get y.toNat (by omega)
    exact ⟨z, hp6.le.ld (lit_get g3 hz), hq (.mk 1 z emp []) _ _ H6 hp6 g2 leaf ⟨by simp only [szV, szL, he]; omega, Fit.num⟩⟩
  · exact c24 ok hp2 (by omega) (by omega) fun y H6 hy1 hy2 hp6 => ⟨y, rfl, hq (.mk 2 y emp []) _ _ H6 hp6 (Le.refl _) leaf ⟨by simp only [szV, szL, he]; omega, Fit.bool hy1 hy2⟩⟩
  · intro n4 hn4
    obtain ⟨g1, g2, g3⟩ := PK.fresh (E := mkEnt texts 0) hp2 hn4
    refine c24 ok g1 (by omega) (by omega) fun y H6 hy1 hy2 hp6 => ⟨y, rfl, ⟨hy1, hy2⟩, n4, 0, rfl, ?_⟩
    obtain ⟨z, hz, hz2⟩ := texts_get y.toNat (by omega)
    exact ⟨z, hp6.le.ld (lit_get g3 hz), hq (.mk 3 0 z []) _ _ H6 hp6 g2 leaf ⟨by simp only [szV, szL]; omega, Fit.str⟩⟩
  · intro n4 hn4
    obtain ⟨g1, g2, g3⟩ := PK.fresh (E := mkEnt texts 0) hp2 hn4
    refine c24 ok g1 (by omega) (by omega) fun y H6 hy1 hy2 hp6 => ⟨y, rfl, ⟨hy1, hy2⟩, n4, 0, rfl, ?_⟩
    obtain ⟨z, hz, hz2⟩ := texts_get y.toNat (by omega)
    exact ⟨z, hp6.le.ld (lit_get g3 hz), hq (.mk 3 0 z []) _ _ H6 hp6 g2 leaf ⟨by simp only [szV, szL]; omega, Fit.str⟩⟩
  · have hd0 : ¬ (d : Int) = 0 := by simpa using h6
    obtain ⟨d', rfl, hd', ih⟩ := hrec (by omega)
    have hpow' : 1 ≤ 4 ^ d' := Nat.one_le_pow _ _ (by omega)
    have hpe : 4 ^ (d' + 1) = 4 * 4 ^ d' := by rw [Nat.pow_succ, Nat.mul_comm]
    have hpb : 4 ^ d' ≤ 4 ^ 5 := Nat.pow_le_pow_right (by omega) hd'
    rw [hpe] at hq
    have hpb2 : 4 ^ d' ≤ 1024 := hpb
    refine ⟨fun h => ?_, fun h7 => ⟨fun h => ?_, fun h8 => ?_⟩⟩
    · refine c25 ok ih (by omega) hp2 fun l a c K' H' q1 q2 q3 q4 q5 q6 => ⟨a, _, c, rfl, hq (.mk 4 0 emp l) _ K' H' q1 q2 ⟨a, _, c, rfl, rfl, q3, q4⟩ ⟨?_, Fit.list q5.2⟩⟩
      simp only [szV, he]
      omega
    · refine c25 ok ih (by omega) hp2 fun l a c K' H' q1 q2 q3 q4 q5 q6 => ⟨a, _, c, rfl, l12a ok q1 q3 (by omega) (by omega) q5.2 fun m a' c' K2 H2' r1 r2 r3 r4 r5 => ?_⟩
      refine hq (.mk 5 0 emp m) _ K2 H2' r1 (q2.trans r2) ⟨a', _, c', rfl, rfl, r3, r4⟩ ⟨?_, Fit.set r5.2.2 r5.2.1⟩
      simp only [szV, he]
      omega
    · refine c24 ok hp2 (by omega) (by omega) fun y H6 hy1 hy2 hp6 => ⟨y, rfl, l12b ok ih (by omega) hp6 hy1 hy2 fun m a' c' K2 H2' r1 r2 r3 r4 r5 => ?_⟩
      refine hq (.mk 6 0 emp m) _ K2 H2' r1 r2 ⟨a', _, c', rfl, rfl, r3, r4⟩ ⟨?_, Fit.env r5.2⟩
      simp only [szV, he]
      omega

/-- Val makes a value, and not a big one. -/
theorem c11 : ∀ d : Nat, d ≤ 6 → P11 d
  | 0, _ => c11_of ok (by omega) fun h => absurd h (by omega)
  | d + 1, h => c11_of ok (by omega) fun _ => ⟨d, rfl, by omega, c11 d (by omega)⟩
end
end Va
end Go.Proofs.Ytnngkkpgdjihgaa
