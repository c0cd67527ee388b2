/- The law ExprSums: what its function answers. -/
import Derived.Test.YtpdabjimdfifnaaEwSums
import Derived.Test.YtpdabjimdfifnaaEwVc6
set_option linter.unusedVariables false
set_option linter.unusedSimpArgs false
set_option maxRecDepth 100000
namespace Go.Ew
open Go.Ev Go.Deep Go.Proofs.Ytpdabjimdfifnaa.Va

theorem numIf_cases {b : Bool} {n k i : Int} {s : ByteArray} {l : List V} (h : numIfV b n = .mk k i s l) : (b = true ∧ k = 1 ∧ i = n) ∨ (b = false ∧ k = 7 ∧ i = 5) := by
  cases b with
  | true =>
    have h : numV n = .mk k i s l := h
    cases h
    exact .inl ⟨rfl, rfl, rfl⟩
  | false =>
    have h : badV 5 = .mk k i s l := h
    cases h
    exact .inr ⟨rfl, rfl, rfl⟩
end Go.Ew

namespace Go.Proofs.Ytpdabjimdfifnaa
open Go.Ev Go.Ew
namespace Va

theorem js {a b k i : Int} {s : ByteArray} {l : List Ew.V} {H : KH} {Q : Value → KH → Prop} (ha : In64 a) (hb : In64 b) (h : mulV a b = .mk k i s l) (hq : Q (.bool true) H) : vc5_J1 k i a b Q H := by
  unfold mulV at h
  rcases numIf_cases h with ⟨h1, rfl, rfl⟩ | ⟨h1, rfl, rfl⟩
  · refine ⟨fun _ => ⟨fun _ => ⟨fun _ => hq, fun h0 => ?_⟩, fun h => by simp at h⟩, fun h => by simp at h⟩
    have h0 : a ≠ 0 := by simpa using h0
    obtain ⟨g1, g2⟩ := mul_ok ha hb h1 h0
    refine ⟨h0, fun _ => ⟨h0, ?_⟩, fun h => ?_⟩
    · rw [decide_eq_true g2]; exact hq
    · exact absurd g1 (of_decide_eq_false h)
  · obtain ⟨g1, g2, g3⟩ := mul_no ha hb h1
    have dec : ¬ (a = -1 ∧ b = -9223372036854775808) → ¬ (b = -1 ∧ a = -9223372036854775808) → Q (.bool (decide (IntKind.wrap .i64 (Int.tdiv (IntKind.wrap .i64 (a * b)) b) ≠ a))) H := fun n1 n2 => by
      rw [decide_eq_true (g3 n1 n2)]; exact hq
    refine ⟨fun h => by simp at h, fun _ => ⟨fun _ => ⟨fun _ => ⟨fun _ => ⟨fun _ => ⟨fun ha1 => ⟨fun hb1 => hq, fun hb1 => ⟨fun hb2 => ⟨fun ha2 => hq, fun ha2 => ⟨g2, dec ?_ ?_⟩⟩, fun hb2 => ⟨g2, dec ?_ ?_⟩⟩⟩, fun ha1 => ⟨fun hb2 => ⟨fun ha2 => hq, fun ha2 => ⟨g2, dec ?_ ?_⟩⟩, fun hb2 => ⟨g2, dec ?_ ?_⟩⟩⟩, fun h => absurd g2 (of_decide_eq_false h)⟩, fun h => absurd g1 (of_decide_eq_false h)⟩, fun h => by simp at h⟩, fun h => by simp at h⟩⟩
    · exact fun q => of_decide_eq_false hb1 q.2
    · exact fun q => of_decide_eq_false ha2 q.2
    · exact fun q => of_decide_eq_false hb1 q.2
    · exact fun q => of_decide_eq_false hb2 q.1
    · exact fun q => of_decide_eq_false ha1 q.1
    · exact fun q => of_decide_eq_false ha2 q.2
    · exact fun q => of_decide_eq_false ha1 q.1
    · exact fun q => of_decide_eq_false hb2 q.1

section
variable (ok : EnvOk (env Try.prog))
include ok

theorem c5 {a b : Int} {H : KH} (ha1 : -9223372036854775808 ≤ a) (ha2 : a ≤ 9223372036854775807) (hb1 : -9223372036854775808 ≤ b) (hb2 : b ≤ 9223372036854775807) : Does (env Try.prog) 5 [.int .i64 a, .int .i64 b] H fun v _ => v = .bool true := by
  have ha : In64 a := ⟨ha1, ha2⟩
  have hb : In64 b := ⟨hb1, hb2⟩
  refine fn5 ok (c6 ⟨true, rfl, fun h => (by cases h), fun _ => fn8 ok ⟨_, _, _, _, _, _, _, _, _, _, _, _, rfl, fn8 ok ⟨_, _, _, _, _, _, _, _, _, _, _, _, rfl, trivial, fun n1 hn1 n2 hn2 n3 hn3 => ?_⟩⟩⟩)
  have rn : ∀ (K : KH) (n : Int), RE K (conE (numV n)) [.int .i64 0, .int .i64 1, .int .i64 n, .string emp, .slice none 0 0, .int .i64 0, .int .i64 0, .slice none 0 0] := fun K n => ⟨_, _, _, _, _, _, none, 0, rfl, leaf, trivial⟩
  have sn : ∀ n : Int, SzE (conE (numV n)) := fun n => ⟨by have := (ok_num n).sz; show szV (numV n) ≤ 20000; omega, trivial⟩
  have sz2 : SzEs [conE (numV a), conE (numV b)] := ⟨sn a, sn b, trivial⟩
  generalize hA : KH.new H n1 _ = A at *
  have atA : A n1 = some (mkEnt ([.int .i64 0, .int .i64 1, .int .i64 a, .string emp, .slice none 0 0, .int .i64 0, .int .i64 0, .slice none 0 0] ++ [.int .i64 0, .int .i64 1, .int .i64 b, .string emp, .slice none 0 0, .int .i64 0, .int .i64 0, .slice none 0 0]) 0) := by rw [← hA]; exact if_pos rfl
  generalize hB : KH.new A n2 _ = B at *
  have leB : Le A B := by rw [← hB]; exact Le.new hn2
  have atB : B n2 = some (mkEnt ([.int .i64 0, .int .i64 1, .int .i64 a, .string emp, .slice none 0 0, .int .i64 0, .int .i64 0, .slice none 0 0] ++ [.int .i64 0, .int .i64 1, .int .i64 b, .string emp, .slice none 0 0, .int .i64 0, .int .i64 0, .slice none 0 0]) 0) := by rw [← hB]; exact if_pos rfl
  generalize hC : KH.new B n3 _ = C at *
  have leC : Le B C := by rw [← hC]; exact Le.new hn3
  have atC : C n3 = some (mkEnt ([.int .i64 0, .int .i64 1, .int .i64 a, .string emp, .slice none 0 0, .int .i64 0, .int .i64 0, .slice none 0 0] ++ [.int .i64 0, .int .i64 1, .int .i64 b, .string emp, .slice none 0 0, .int .i64 0, .int .i64 0, .slice none 0 0]) 0) := by rw [← hC]; exact if_pos rfl
  have n12 : n1 ≠ n2 := fun e => by subst e; rw [atA] at hn2; cases hn2
  have n13 : n1 ≠ n3 := fun e => by subst e; rw [leB _ _ atA] at hn3; cases hn3
  have n23 : n2 ≠ n3 := fun e => by subst e; rw [atB] at hn3; cases hn3
  have at1 : hideK C [n3, n2] n1 = some (mkEnt ([.int .i64 0, .int .i64 1, .int .i64 a, .string emp, .slice none 0 0, .int .i64 0, .int .i64 0, .slice none 0 0] ++ [.int .i64 0, .int .i64 1, .int .i64 b, .string emp, .slice none 0 0, .int .i64 0, .int .i64 0, .slice none 0 0]) 0) := by
    rw [hideK_get, if_neg (by simp [n12, n13])]; exact leC _ _ (leB _ _ atA)
  refine fn7 ok ⟨_, _, _, _, _, _, _, _, _, _, _, _, rfl, fun _ _ => ⟨⟨rfl, rfl, rfl, rfl, trivial⟩, ?_⟩⟩
  rw [back_hide]
  refine ev0 ok (e := opE 4 [conE (numV a), conE (numV b)]) (re_opE (res_lit at1 (rc2 (rn _ a) (rn _ b)))) (sz_opE sz2) fun c1 H1 le1 r1 => ?_
  rw [eval_add] at r1
  unfold addV at r1
  rw [add_round ha hb] at r1
  generalize hs : numIfV _ (IntKind.wrap .i64 (a + b)) = sv at r1
  obtain ⟨ks, is, ss, ls⟩ := sv
  have hS := numIf_cases hs
  obtain ⟨a1, m1, c1', rfl, rfl, l1, o1⟩ := r1
  refine ⟨_, _, _, _, _, _, rfl, fun v1 v2 => ⟨⟨rfl, rfl, rfl, rfl, trivial⟩, ?_⟩⟩
  generalize hD : backK C H1 [n3, n2] = D at *
  have leD : Le C D := by rw [← hD]; exact le_back le1
  have at2 : hideK D [n3] n2 = some (mkEnt ([.int .i64 0, .int .i64 1, .int .i64 a, .string emp, .slice none 0 0, .int .i64 0, .int .i64 0, .slice none 0 0] ++ [.int .i64 0, .int .i64 1, .int .i64 b, .string emp, .slice none 0 0, .int .i64 0, .int .i64 0, .slice none 0 0]) 0) := by
    rw [hideK_get, if_neg (by simp [n23])]; exact leD _ _ (leC _ _ atB)
  refine fn7 ok ⟨_, _, _, _, _, _, _, _, _, _, _, _, rfl, fun _ => ⟨⟨rfl, rfl, trivial⟩, ?_⟩⟩
  rw [back_hide]
  refine ev0 ok (e := opE 5 [conE (numV a), conE (numV b)]) (re_opE (res_lit at2 (rc2 (rn _ a) (rn _ b)))) (sz_opE sz2) fun c2 H2 le2 r2 => ?_
  rw [eval_sub] at r2
  unfold subV at r2
  rw [sub_round ha hb] at r2
  generalize hd : numIfV _ (IntKind.wrap .i64 (a - b)) = dv at r2
  obtain ⟨kd, id, sd, ld'⟩ := dv
  have hDf := numIf_cases hd
  obtain ⟨a2, m2, c2', rfl, rfl, l2, o2⟩ := r2
  refine ⟨_, _, _, _, _, _, rfl, fun v3 => ⟨⟨rfl, rfl, trivial⟩, ?_⟩⟩
  generalize hF : backK D H2 [n3] = F at *
  have leF : Le D F := by rw [← hF]; exact le_back le2
  refine fn7 ok ⟨_, _, _, _, _, _, _, _, _, _, _, _, rfl, trivial, ?_⟩
  refine ev0 ok (e := opE 6 [conE (numV a), conE (numV b)]) (re_opE (res_lit (leF _ _ (leD _ _ atC)) (rc2 (rn _ a) (rn _ b)))) (sz_opE sz2) fun c3 H3 le3 r3 => ?_
  rw [eval_mul] at r3
  generalize hp : mulV a b = pv at r3
  obtain ⟨kp, ip, sp, lp⟩ := pv
  obtain ⟨a3, m3, c3', rfl, rfl, l3, o3⟩ := r3
  refine ⟨_, _, _, _, _, _, rfl, trivial, trivial, trivial, trivial, ?_⟩
  have hJ : vc5_J1 kp ip a b (fun v _ => v = .bool true) H3 := js ha hb hp rfl
  clear hA hB hC hD hF hs hd hp atA atB atC at1 at2 leB leC leD leF le1 le2 le3 rn sn sz2 l1 l2 l3 o1 o2 o3
  generalize vc5_J1 kp ip a b (fun v _ => v = .bool true) H3 = J at *
  generalize IntKind.wrap .i64 (a + b) = W at *
  generalize IntKind.wrap .i64 (a - b) = U at *
  generalize decide (a < 0) = p at *
  generalize decide (b < 0) = q at *
  generalize decide (W < 0) = r at *
  generalize decide (U < 0) = t at *
  rcases hS with ⟨e1, rfl, rfl⟩ | ⟨e1, rfl, rfl⟩ <;> rcases hDf with ⟨e2, rfl, rfl⟩ | ⟨e2, rfl, rfl⟩ <;> cases p <;> cases q <;> cases r <;> cases t <;> first
    | (simp at e1; done)
    | (simp at e2; done)
    | simp [hJ]
end
end Va
end Go.Proofs.Ytpdabjimdfifnaa
