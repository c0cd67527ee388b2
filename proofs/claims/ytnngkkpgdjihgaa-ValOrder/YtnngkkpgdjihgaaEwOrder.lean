/- Values stand in one row: what the law's function answers. -/
import Derived.Test.YtnngkkpgdjihgaaEwPick4
set_option linter.unusedVariables false
set_option linter.unusedSimpArgs false
namespace Go.Proofs.Ytnngkkpgdjihgaa
open Go.Ev Go.Ew
namespace Va
section
variable (ok : EnvOk (env Try.prog))
include ok

theorem c5 {a0 a1 a2 : Option Addr} {n0 n1 n2 d0 d1 d2 : Nat} {H : KH} (h0 : U8 H a0 n0) (h1 : U8 H a1 n1) (h2 : U8 H a2 n2) :
    Does (env Try.prog) 5 [.slice a0 n0 d0, .slice a1 n1 d1, .slice a2 n2 d2] H fun v _ => v = .bool true := by
  refine fn5 ok (does_true (by kernel_rfl) (by kernel_rfl) (by kernel_rfl) ⟨true, rfl, fun h => (by simp at h), fun _ => ?_⟩)
  refine ⟨fun _ => rfl, fun g0 => ⟨fun _ => rfl, fun g1 => ⟨fun _ => rfl, fun g2 => ?_⟩⟩⟩
  have g0 : n0 ≤ 40 := by simp at g0; omega
  have g1 : n1 ≤ 40 := by simp at g1; omega
  have g2 : n2 ≤ 40 := by simp at g2; omega
  refine c10 ok h0 (by omega) fun p0 H0 hp0 => ⟨p0, 0, rfl, c11 ok 3 (by omega) _ H0 p0 _ hp0 fun x cx K0 H0' q1 q2 q3 q4 => ?_⟩
  have hx := q3
  have e1 := q2.trans q1.le
  obtain ⟨k, i, s, l⟩ := x
  obtain ⟨ax, nx, cx', rfl, _⟩ := q3
  refine ⟨k, i, s, ax, nx, cx', rfl, ?_⟩
  generalize hxv : V.mk k i s l = x at *
  refine c10 ok (h1.mono e1) (by omega) fun p1 H1 hp1 => ⟨p1, 0, rfl, c11 ok 3 (by omega) _ H1 p1 _ hp1 fun y cy K1 H1' r1 r2 r3 r4 => ?_⟩
  have hy := r3
  have e2 := r2.trans r1.le
  obtain ⟨k', i', s', l'⟩ := y
  obtain ⟨ay, ny, cy', rfl, _⟩ := r3
  refine ⟨k', i', s', ay, ny, cy', rfl, ?_⟩
  generalize hyv : V.mk k' i' s' l' = y at *
  refine c10 ok (h2.mono (e1.trans e2)) (by omega) fun p2 H2 hp2 => ⟨p2, 0, rfl, c11 ok 3 (by omega) _ H2 p2 _ hp2 fun z cz K2 H2' t1 t2 t3 t4 => ?_⟩
  have hz := t3
  have e3 := t2.trans t1.le
  obtain ⟨k'', i'', s'', l''⟩ := z
  obtain ⟨az, nz, cz', rfl, _⟩ := t3
  refine ⟨k'', i'', s'', az, nz, cz', rfl, ?_⟩
  generalize hzv : V.mk k'' i'' s'' l'' = z at *
  have hx := (hx.mono q1.le).mono (e2.trans e3)
  have hy := (hy.mono r1.le).mono e3
  have hz := hz.mono t1.le
  have z1 : szV x ≤ 60000 := Nat.le_trans q4 (by decide)
  have z2 : szV y ≤ 60000 := Nat.le_trans r4 (by decide)
  have z3 : szV z ≤ 60000 := Nat.le_trans t4 (by decide)
  have w1 := cmpV_neg x y
  have w2 := cmpV_rng x y
  have w3 := cmpV_trans x y z
  have w4 := cmpV_trans z y x
  have w5 := cmpV_refl x
  rw [cmpV_neg y z, cmpV_neg x z, w1] at w4
  unfold Tr at w3 w4
  refine ⟨trivial, c16 ok z1 z2 hx hy ⟨_, rfl, ⟨rfl, rfl, rfl, rfl, trivial⟩, c16 ok z2 z3 hy hz ⟨_, rfl, ⟨rfl, rfl, trivial⟩, c16 ok z1 z3 hx hz ⟨_, rfl, trivial, c16 ok z2 z1 hy hx ⟨_, rfl, fun hne => ?_, fun _ => c16 ok z1 z1 hx hx ⟨_, rfl, fun hne => ?_, fun _ => ⟨fun hh => ?_, fun _ => ⟨fun hh => ?_, fun _ => ?_⟩⟩⟩⟩⟩⟩⟩⟩
  · rw [w1, wrap64 (by omega) (by omega)] at hne
    have hne := of_decide_eq_true hne
    omega
  · have hne := of_decide_eq_true hne
    omega
  · have hh := of_decide_eq_true hh
    omega
  · have hh := of_decide_eq_true hh
    omega
  · have fin : Does (env Try.prog) 23 [.agg #[.int .i64 k, .int .i64 i, .string s, .slice ax nx cx'], .agg #[.int .i64 k', .int .i64 i', .string s', .slice ay ny cy']] H2' fun v H' => ∃ b : Bool, v = .bool b ∧ Value.bool (decide (cmpV x y = 0) == b) = .bool true :=
      c23 ok z1 z2 hx hy ⟨_, rfl, by simp⟩
    generalize cmpV x y = P at *
    generalize cmpV y z = R at *
    generalize cmpV x z = S at *
    repeat' first
      | exact fin
      | apply And.intro
      | (intro h; simp only [decide_eq_true_eq, decide_eq_false_iff_not, Bool.not_eq_true', Bool.not_eq_false', Bool.not_false, Bool.not_true, Bool.true_eq_false, Bool.false_eq_true] at h)
      | (intro h; clear h)
    all_goals (exfalso; omega)
end
end Va
end Go.Proofs.Ytnngkkpgdjihgaa
