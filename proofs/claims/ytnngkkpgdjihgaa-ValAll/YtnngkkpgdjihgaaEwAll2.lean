/- The law ValAll: what its function answers. -/
import Derived.Test.YtnngkkpgdjihgaaEwAll
set_option linter.unusedVariables false
set_option linter.unusedSimpArgs false
namespace Go.Proofs.Ytnngkkpgdjihgaa
open Go.Ev Go.Ew
namespace Va
section
variable (ok : EnvOk (env Try.prog))
include ok

def mayV (v : Ew.V) : Bool := decide (szV v ≤ 60) && fitV v

theorem l3a {L : List Ew.V} {a : Option Addr} {c j M : Nat} {H : KH} {Q : Value → KH → Prop} {I : Nat → Option Addr → Nat → Nat → Int → KH → Prop} (hL : RS H L a) (h4 : L.length = 4) (hsz : ∀ v ∈ L, szV v ≤ 4000000) (hj : j < L.length)
    (hI : ∃ m', m' < M ∧ I m' a 4 c (IntKind.wrap .i64 ((j : Int) + 1)) H) : vc3_L1 a 4 c j (mayV L[j]) H Q M I := by
  unfold vc3_L1
  refine ⟨fun m a4 n5 n6 x7 b8 x9 H10 => a4 = a ∧ n5 = 4 ∧ n6 = c ∧ x7 = j ∧ b8 = mayV L[j] ∧ H10 = H ∧ ∃ k : Nat, x9 = k ∧ k ≤ 4 ∧ m = 4 - k, ⟨4, rfl, rfl, rfl, rfl, rfl, rfl, 0, rfl, by omega, rfl⟩, ?_⟩
  rintro m a4 n5 n6 x7 b8 x9 H10 ⟨rfl, rfl, rfl, rfl, rfl, rfl, k, rfl, hk, rfl⟩
  refine ⟨fun hlt => ⟨trivial, ?_⟩, fun _ => hI⟩
  have hlt : k < 4 := by have := of_decide_eq_true hlt; omega
  have hkL : k < L.length := by omega
  have next : ∃ m', m' < 4 - k ∧ (a4 = a4 ∧ 4 = 4 ∧ n6 = n6 ∧ (j : Int) = j ∧ mayV L[j] = mayV L[j] ∧ H10 = H10 ∧ ∃ k' : Nat, IntKind.wrap .i64 ((k : Int) + 1) = k' ∧ k' ≤ 4 ∧ m' = 4 - k') :=
    ⟨4 - (k + 1), by omega, rfl, rfl, rfl, rfl, rfl, rfl, k + 1, by rw [wrap64 (by omega) (by omega)]; omega, by omega, rfl⟩
  have t1 : Int.toNat (k : Int) = k := by omega
  have t2 : Int.toNat (j : Int) = j := by omega
  rw [t1, t2]
  refine ⟨fun hb => ?_, fun _ => ⟨trivial, ⟨trivial, trivial, trivial, trivial, trivial, trivial, trivial, trivial, trivial⟩, trivial, next⟩⟩
  obtain ⟨b, o, e1, k1, i1, s1, a1, m1, c1, l1, r1⟩ := elem hL hkL
  obtain ⟨b', o', e2, k2, i2, s2, a2, m2, c2, l2, r2⟩ := elem hL hj
  have z1 := hsz _ (List.getElem_mem hkL)
  have hmj : szV L[j] ≤ 60 := by
    have : mayV L[j] = true := hb
    unfold mayV at this
    simp at this
    exact this.1
  refine ⟨⟨by omega, by omega⟩, b, o, e1, k1, i1, s1, a1, m1, c1, l1, c12 ok 4000000 _ _ _ _ z1 (by omega) r1 ⟨_, rfl, trivial, fun hb2 => ?_, fun _ => ⟨⟨trivial, trivial, trivial, trivial, trivial, trivial, trivial, trivial, trivial⟩, trivial, next⟩⟩⟩
  have hmk : szV L[k] ≤ 60 := by
    simp at hb2
    exact hb2.1
  refine ⟨⟨by omega, by omega⟩, b', o', e2, k2, i2, s2, a2, m2, c2, l2, ⟨by omega, by omega⟩, b, o, e1, k1, i1, s1, a1, m1, c1, l1, ⟨by omega, by omega⟩, b', o', e2, k2, i2, s2, a2, m2, c2, l2, ⟨by omega, by omega⟩, b, o, e1, k1, i1, s1, a1, m1, c1, l1,
    c16 ok (by omega) (by omega) r2 r1 ⟨_, rfl, ⟨rfl, rfl, ⟨⟨by omega, by omega⟩, b', o', e2, rfl⟩, ⟨k2, i2, s2, a2, m2, c2, l2, rfl⟩, rfl, rfl, ⟨⟨by omega, by omega⟩, b, o, e1, rfl⟩, ⟨k1, i1, s1, a1, m1, c1, l1, rfl⟩, trivial⟩,
      c17 ok 60 _ _ _ _ _ _ hmj (by omega) (by omega) r2 r1 ⟨_, rfl, trivial, fun hne => ?_, fun _ => next⟩⟩⟩
  simp at hne

theorem c3 {va vb : Ew.V} {ca cb : List Value} {a2 a3 : Option Addr} {n2 n3 d2 d3 : Nat} {H : KH} (ha : RV H va ca) (hb : RV H vb cb) (h2 : U8 H a2 n2) (h3 : U8 H a3 n3) :
    Does (env Try.prog) 3 [.agg ca.toArray, .agg cb.toArray, .slice a2 n2 d2, .slice a3 n3 d3] H fun v _ => v = .bool true := by
  have ha' := ha
  have hb' := hb
  obtain ⟨ka, ia, sa, la⟩ := va
  obtain ⟨aa, na, cca, rfl, rfl, _⟩ := ha
  obtain ⟨kb, ib, sb, lb⟩ := vb
  obtain ⟨ab, nb, ccb, rfl, rfl, _⟩ := hb
  generalize hva : V.mk ka ia sa la = va at *
  generalize hvb : V.mk kb ib sb lb = vb at *
  generalize la.length = na at *
  generalize lb.length = nb at *
  have hl5 : lightN 5 ≤ 4000000 := by decide
  refine fn3 ok (does_true (by kernel_rfl) (by kernel_rfl) (by kernel_rfl) ⟨true, rfl, fun h => (by simp at h), fun _ => c9 ok 5 va _ H _ (by omega) ha' fun ba hba => ⟨_, rfl, fun _ => rfl, fun hA => c9 ok 5 vb _ H _ (by omega) hb' fun bb hbb => ⟨_, rfl, fun _ => rfl, fun hB => ⟨fun _ => rfl, fun g2 => ⟨fun _ => rfl, fun g3 => ⟨trivial, ?_⟩⟩⟩⟩⟩⟩)
  have hA := hba (by simpa using hA)
  have hB := hbb (by simpa using hB)
  have g2 : n2 ≤ 60 := by have := of_decide_eq_false g2; omega
  have g3 : n3 ≤ 60 := by have := of_decide_eq_false g3; omega
  refine c10 ok h2 (by omega) fun p0 H0 hp0 => ⟨p0, 0, rfl, ⟨rfl, rfl, rfl, trivial⟩, c11 ok 3 (by omega) _ H0 p0 _ hp0 fun x cx K0 H0' q1 q2 q3 q4 => ?_⟩
  have hx := q3
  have e1 := q2.trans q1.le
  obtain ⟨k, i, s, l⟩ := x
  obtain ⟨ax, nx, cx', rfl, _⟩ := q3
  refine ⟨k, i, s, ax, nx, cx', rfl, ⟨rfl, rfl, rfl, trivial⟩, ?_⟩
  generalize hxv : V.mk k i s l = x at *
  refine c10 ok (h3.mono e1) (by omega) fun p1 H1 hp1 => ⟨p1, 0, rfl, ⟨rfl, rfl, trivial⟩, c11 ok 3 (by omega) _ H1 p1 _ hp1 fun y cy K1 H1' r1 r2 r3 r4 => ?_⟩
  have hy := r3
  have e2 := r2.trans r1.le
  obtain ⟨k', i', s', l'⟩ := y
  obtain ⟨ay, ny, cy', rfl, _⟩ := r3
  refine ⟨k', i', s', ay, ny, cy', rfl, ⟨rfl, rfl, trivial⟩, fun n25 hn25 => ?_⟩
  generalize hyv : V.mk k' i' s' l' = y at *
  have zx : szV x ≤ 4000000 := Nat.le_trans q4.1 (by decide)
  have zy : szV y ≤ 4000000 := Nat.le_trans r4.1 (by decide)
  have zx2 : szV x ≤ 60000 := Nat.le_trans q4.1 (by decide)
  have zy2 : szV y ≤ 60000 := Nat.le_trans r4.1 (by decide)
  have dx := dp_sz x
  have dy := dp_sz y
  have e3 := Le.new hn25 (e := mkEnt [.int .i64 ka, .int .i64 ia, .string sa, .slice aa na cca, .int .i64 kb, .int .i64 ib, .string sb, .slice ab nb ccb, .int .i64 k, .int .i64 i, .string s, .slice ax nx cx', .int .i64 k', .int .i64 i', .string s', .slice ay ny cy'] 0)
  have hat : (H1'.new n25 (mkEnt [.int .i64 ka, .int .i64 ia, .string sa, .slice aa na cca, .int .i64 kb, .int .i64 ib, .string sb, .slice ab nb ccb, .int .i64 k, .int .i64 i, .string s, .slice ax nx cx', .int .i64 k', .int .i64 i', .string s', .slice ay ny cy'] 0)) n25 = some (mkEnt [.int .i64 ka, .int .i64 ia, .string sa, .slice aa na cca, .int .i64 kb, .int .i64 ib, .string sb, .slice ab nb ccb, .int .i64 k, .int .i64 i, .string s, .slice ax nx cx', .int .i64 k', .int .i64 i', .string s', .slice ay ny cy'] 0) := if_pos rfl
  unfold vc3_L3
  generalize H1'.new n25 (mkEnt [.int .i64 ka, .int .i64 ia, .string sa, .slice aa na cca, .int .i64 kb, .int .i64 ib, .string sb, .slice ab nb ccb, .int .i64 k, .int .i64 i, .string s, .slice ax nx cx', .int .i64 k', .int .i64 i', .string s', .slice ay ny cy'] 0) = H' at *
  have hown : Own (fun _ => none) H' 4 (some ⟨n25, 0, none⟩) 4 4 [.int .i64 ka, .int .i64 ia, .string sa, .slice aa na cca, .int .i64 kb, .int .i64 ib, .string sb, .slice ab nb ccb, .int .i64 k, .int .i64 i, .string s, .slice ax nx cx', .int .i64 k', .int .i64 i', .string s', .slice ay ny cy'] := .lit n25 4 _ hat rfl (by decide) rfl
  have f1 : RV H' va [.int .i64 ka, .int .i64 ia, .string sa, .slice aa na cca] := ((ha'.mono e1).mono e2).mono e3
  have f2 : RV H' vb [.int .i64 kb, .int .i64 ib, .string sb, .slice ab nb ccb] := ((hb'.mono e1).mono e2).mono e3
  have f3 : RV H' x [.int .i64 k, .int .i64 i, .string s, .slice ax nx cx'] := ((hx.mono q1.le).mono e2).mono e3
  have f4 : RV H' y [.int .i64 k', .int .i64 i', .string s', .slice ay ny cy'] := (hy.mono r1.le).mono e3
  have hL : RS H' [va, vb, x, y] (some ⟨n25, 0, none⟩) := RS.of_cells hown.cells (RC.append (RC.append (RC.append (RC.one f1) (RC.one f2)) (RC.one f3)) (RC.one f4))
  have hsz : ∀ v ∈ [va, vb, x, y], szV v ≤ 4000000 ∧ dpV v ≤ 65536 := by
    intro v hv
    simp only [List.mem_cons, List.not_mem_nil, or_false] at hv
    rcases hv with rfl | rfl | rfl | rfl
    · omega
    · omega
    · omega
    · omega
  have h4 : [va, vb, x, y].length = 4 := rfl
  generalize [va, vb, x, y] = L at *
  refine ⟨fun m a4 n5 n6 x7 H8 => a4 = some ⟨n25, 0, none⟩ ∧ n5 = 4 ∧ H8 = H' ∧ ∃ j : Nat, x7 = j ∧ j ≤ 4 ∧ m = 4 - j, ⟨4, rfl, rfl, rfl, 0, rfl, by omega, rfl⟩, ?_⟩
  rintro m a4 n5 n6 x7 H8 ⟨rfl, rfl, rfl, j, rfl, hj, rfl⟩
  refine ⟨fun hlt => ?_, fun _ => rfl⟩
  have hlt : j < 4 := by have := of_decide_eq_true hlt; omega
  have hjL : j < L.length := by omega
  have t2 : Int.toNat (j : Int) = j := by omega
  rw [t2]
  obtain ⟨b, o, g1, k1, i1, s1, a1, m1, c1, l1, w1⟩ := elem hL hjL
  obtain ⟨z1, z2⟩ := hsz _ (List.getElem_mem hjL)
  refine ⟨⟨by omega, by omega⟩, b, o, g1, k1, i1, s1, a1, m1, c1, l1, c12 ok 4000000 _ _ _ _ z1 (by omega) w1 ⟨_, rfl, trivial, ⟨by omega, by omega⟩, b, o, g1, k1, i1, s1, a1, m1, c1, l1,
    c13 ok w1 z1 ⟨_, rfl, ⟨rfl, trivial⟩, fun hne => by simp at hne, fun _ => ⟨⟨by omega, by omega⟩, b, o, g1, k1, i1, s1, a1, m1, c1, l1, ⟨by omega, by omega⟩, b, o, g1, k1, i1, s1, a1, m1, c1, l1,
      c14 ok w1 z1 z2 ⟨_, rfl, ⟨rfl, rfl, ⟨⟨by omega, by omega⟩, b, o, g1, rfl⟩, ⟨k1, i1, s1, a1, m1, c1, l1, rfl⟩, trivial⟩,
        c15 ok 4000000 _ _ _ _ z1 (by omega) w1 ⟨_, rfl, trivial, fun hne => by simp at hne, fun _ => ?_⟩⟩⟩⟩⟩⟩
  exact l3a ok hL h4 (fun v hv => (hsz v hv).1) hjL ⟨4 - (j + 1), by omega, rfl, rfl, rfl, j + 1, by rw [wrap64 (by omega) (by omega)]; omega, by omega, rfl⟩
end
end Va
end Go.Proofs.Ytnngkkpgdjihgaa
