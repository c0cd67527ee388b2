/- The law ExprChoice: what its function answers. -/
import Derived.Test.YtpdabjimdfifnaaGreatEwEx7
import Derived.Test.YtpdabjimdfifnaaGreatEwVc5
set_option linter.unusedVariables false
set_option linter.unusedSimpArgs false
namespace Go.Ew
open Go.Ev Go.Deep Go.Proofs.YtpdabjimdfifnaaGreat.Va

theorem hide_le (H : KH) (l : List Nat) : Le (hideK H l) H := fun k e q => by
  rw [hideK_get] at q
  split at q
  · cases q
  · exact q

theorem back_hide (H : KH) (l : List Nat) : backK H (hideK H l) l = H := by
  funext k
  rw [backK_get, hideK_get]
  split <;> rfl

theorem le_back {H H' : KH} {l : List Nat} (h : Le (hideK H l) H') : Le H (backK H H' l) := fun k e q => by
  rw [backK_get]
  split
  · exact q
  · rename_i hk
    exact h k e (by rw [hideK_get, if_neg hk]; exact q)

theorem le_back' {H H' : KH} {l : List Nat} (h : ∀ k ∈ l, H' k = none) : Le H' (backK H H' l) := fun k e q => by
  rw [backK_get]
  split
  · rename_i hk; rw [h k hk] at q; cases q
  · exact q

/-- A truth, as a constant. -/
def truE (b : Bool) : Ex := .mk 0 (truV b) 0 0 []

def opE (op : Int) (args : List Ex) : Ex := .mk op (.mk 0 0 emp []) 0 0 args

theorem ok_tru (b : Bool) : Ok (truV b) := ⟨by cases b <;> decide, fit_tru⟩

theorem taken_ok {v : V} (h : Ok v) : takenV v = v := by
  have hs : smallV v = v := small_le h.sz
  unfold takenV
  rw [hs, if_pos (by rw [decide_eq_true h.sz, h.fit]; rfl)]

theorem small_ok {v : V} (h : Ok v) : smallV v = v := small_le h.sz

theorem eval_con {vals : List (List V)} {texts : List ByteArray} {d : Nat} {v : V} (h : Ok v) : evalE vals texts (d + 1) (.mk 0 v 0 0 []) = v := by
  rw [evalE, if_neg (by decide), if_pos rfl, taken_ok h]

theorem eval_tru {vals : List (List V)} {texts : List ByteArray} {d : Nat} {b : Bool} : evalE vals texts (d + 1) (truE b) = truV b := eval_con (ok_tru b)

theorem k_tru {b : Bool} : kV (truV b) = 2 := rfl
theorem i_tru {b : Bool} : iV (truV b) = if b = true then 1 else 0 := rfl

theorem vals_nil {H : KH} : Vals H [] none := ⟨fun i l h => by simp at h, by simp, by simp⟩
theorem texts_nil {H : KH} : Texts H [] none := ⟨fun i l h => by simp at h, by simp, by simp⟩

theorem eval_if {vals : List (List V)} {texts : List ByteArray} {d : Nat} {b : Bool} {x y : Ex} : evalE vals texts (d + 2) (opE 12 [truE b, x, y]) = if b = true then evalE vals texts (d + 1) x else evalE vals texts (d + 1) y := by
  rw [opE, evalE, if_neg (by simp [takesB]), if_neg (by decide), if_neg (by decide), if_neg (by decide), if_neg (by decide), if_pos rfl]
  cases b <;> simp [chooseV, eval_tru, k_tru, i_tru]

theorem sz_truE {b : Bool} : SzE (truE b) := ⟨by have := (ok_tru b).sz; show szV (truV b) ≤ 20000; omega, trivial⟩

theorem sz_opE {op : Int} {args : List Ex} (h : SzEs args) : SzE (opE op args) := ⟨by show 1 + 0 / 16 + 0 ≤ 20000; decide, h⟩

theorem re_truE {H : KH} {b : Bool} : RE H (truE b) [.int .i64 0, .int .i64 2, .int .i64 (if b = true then 1 else 0), .string emp, .slice none 0 0, .int .i64 0, .int .i64 0, .slice none 0 0] :=
  ⟨2, _, emp, none, 0, 0, none, 0, rfl, leaf, trivial⟩

theorem re_opE {H : KH} {op : Int} {args : List Ex} {a : Option Addr} {c : Nat} (h : RES H args a) : RE H (opE op args) [.int .i64 op, .int .i64 0, .int .i64 0, .string (ByteArray.mk #[]), .slice none 0 0, .int .i64 0, .int .i64 0, .slice a args.length c] :=
  ⟨0, 0, emp, none, 0, 0, a, c, rfl, leaf, h⟩

theorem rc1 {H : KH} {e : Ex} {c : List Value} (h : RE H e c) : kEx.RC H [e] c := Kd.RC.one (kd := kEx) h
theorem rc2 {H : KH} {e f : Ex} {c d : List Value} (h : RE H e c) (g : RE H f d) : kEx.RC H [e, f] (c ++ d) := (rc1 h).append (rc1 g)
theorem rc3 {H : KH} {e f g : Ex} {c d x : List Value} (h : RE H e c) (h2 : RE H f d) (h3 : RE H g x) : kEx.RC H [e, f, g] (c ++ (d ++ x)) := (rc1 h).append (rc2 h2 h3)

theorem eval_not {vals : List (List V)} {texts : List ByteArray} {d : Nat} {a : Bool} : evalE vals texts (d + 2) (opE 11 [truE a]) = truV (!a) := by
  rw [opE, evalE, if_neg (by simp [takesB]), if_neg (by decide), if_neg (by decide), if_neg (by decide), if_neg (by decide), if_neg (by decide)]
  have : reckonV 11 [truV a] = truV (!a) := by cases a <;> simp [reckonV, notV, k_tru, i_tru]
  simp [allV, eval_tru, k_tru, this, small_ok (ok_tru _)]
theorem eval_and {vals : List (List V)} {texts : List ByteArray} {d : Nat} {a b : Bool} : evalE vals texts (d + 2) (opE 9 [truE a, truE b]) = truV (a && b) := by
  rw [opE, evalE, if_neg (by simp [takesB]), if_neg (by decide), if_neg (by decide), if_neg (by decide), if_neg (by decide), if_neg (by decide)]
  have : reckonV 9 [truV a, truV b] = truV (a && b) := by cases a <;> cases b <;> simp [reckonV, twoV, k_tru, i_tru]
  simp [allV, eval_tru, k_tru, this, small_ok (ok_tru _)]
theorem eval_or {vals : List (List V)} {texts : List ByteArray} {d : Nat} {a b : Bool} : evalE vals texts (d + 2) (opE 10 [truE a, truE b]) = truV (a || b) := by
  rw [opE, evalE, if_neg (by simp [takesB]), if_neg (by decide), if_neg (by decide), if_neg (by decide), if_neg (by decide), if_neg (by decide)]
  have : reckonV 10 [truV a, truV b] = truV (a || b) := by cases a <;> cases b <;> simp [reckonV, twoV, k_tru, i_tru]
  simp [allV, eval_tru, k_tru, this, small_ok (ok_tru _)]
end Go.Ew

namespace Go.Proofs.YtpdabjimdfifnaaGreat
open Go.Ev Go.Ew
namespace Va

theorem c6 {H : KH} {Q : Value → KH → Prop} (hq : Q (.bool true) H) : Does (env Tryz.prog) 6 [] H Q := does_true (by kernel_rfl) (by kernel_rfl) (by kernel_rfl) hq

section
variable (ok : EnvOk (env Tryz.prog))
include ok

theorem c14 {b : Bool} {H : KH} {Q : Value → KH → Prop} (hq : Q (.agg #[.int .i64 0, .int .i64 2, .int .i64 (if b = true then 1 else 0), .string emp, .slice none 0 0, .int .i64 0, .int .i64 0, .slice none 0 0]) H) : Does (env Tryz.prog) 14 [.bool b] H Q := by
  refine fn14 ok ⟨fun h => ?_, fun h => ?_⟩
  · subst h; exact fn25 ok ⟨_, _, _, _, _, _, _, _, _, _, _, _, rfl, hq⟩
  · subst h; exact fn25 ok ⟨_, _, _, _, _, _, _, _, _, _, _, _, rfl, hq⟩

/-- Eval, of nothing around. -/
theorem ev0 {e : Ex} {ce : List Value} {H : KH} {Q : Value → KH → Prop} (hr : RE H e ce) (hs : SzE e) (hq : Ans H (evalE [] [] 12 e) Q) :
    Does (env Tryz.prog) 10 [.agg ce.toArray, .slice none 0 0, .slice none 0 0] H Q := c10 ok (vals := []) (texts := []) hr hs vals_nil texts_nil hq

theorem j5 {a b : Bool} {ka ia : Int} {sa : ByteArray} {aa : Option Addr} {na ca : Nat} {H : KH} {Q : Value → KH → Prop} (hch : RV H (truV b) [.int .i64 ka, .int .i64 ia, .string sa, .slice aa na ca]) (hq : ∀ H', Q (.bool true) H') :
    vc5_J0 H 0 2 (if a = true then 1 else 0) emp none 0 0 0 0 none 0 0 0 2 (if b = true then 1 else 0) emp none 0 0 0 0 none 0 0 ka ia sa aa na ca a b Q := by
  refine ⟨trivial, fun n1 hn1 n2 hn2 n3 hn3 => ?_⟩
  generalize hA : KH.new H n1 _ = A at *
  have leA : Le H A := by rw [← hA]; exact Le.new hn1
  have atA : A n1 = some (mkEnt ([.int .i64 0, .int .i64 2, .int .i64 (if a = true then 1 else 0), .string emp, .slice none 0 0, .int .i64 0, .int .i64 0, .slice none 0 0] ++ [.int .i64 0, .int .i64 2, .int .i64 (if b = true then 1 else 0), .string emp, .slice none 0 0, .int .i64 0, .int .i64 0, .slice none 0 0]) 0) := by rw [← hA]; exact if_pos rfl
  generalize hB : KH.new A n2 _ = B at *
  have leB : Le A B := by rw [← hB]; exact Le.new hn2
  have atB : B n2 = some (mkEnt ([.int .i64 0, .int .i64 2, .int .i64 (if a = true then 1 else 0), .string emp, .slice none 0 0, .int .i64 0, .int .i64 0, .slice none 0 0] ++ [.int .i64 0, .int .i64 2, .int .i64 (if b = true then 1 else 0), .string emp, .slice none 0 0, .int .i64 0, .int .i64 0, .slice none 0 0]) 0) := by rw [← hB]; exact if_pos rfl
  generalize hC : KH.new B n3 _ = C at *
  have leC : Le B C := by rw [← hC]; exact Le.new hn3
  have atC : C n3 = some (mkEnt [.int .i64 0, .int .i64 2, .int .i64 (if a = true then 1 else 0), .string emp, .slice none 0 0, .int .i64 0, .int .i64 0, .slice none 0 0] 0) := by rw [← hC]; exact if_pos rfl
  have n12 : n1 ≠ n2 := fun e => by subst e; rw [atA] at hn2; cases hn2
  have n13 : n1 ≠ n3 := fun e => by subst e; rw [leB _ _ atA] at hn3; cases hn3
  have n23 : n2 ≠ n3 := fun e => by subst e; rw [atB] at hn3; cases hn3
  have at1 : hideK C [n3, n2] n1 = some (mkEnt ([.int .i64 0, .int .i64 2, .int .i64 (if a = true then 1 else 0), .string emp, .slice none 0 0, .int .i64 0, .int .i64 0, .slice none 0 0] ++ [.int .i64 0, .int .i64 2, .int .i64 (if b = true then 1 else 0), .string emp, .slice none 0 0, .int .i64 0, .int .i64 0, .slice none 0 0]) 0) := by
    rw [hideK_get, if_neg (by simp [n12, n13])]; exact leC _ _ (leB _ _ atA)
  refine fn15 ok ⟨_, _, _, _, _, _, _, _, _, _, _, _, rfl, fun _ _ => ⟨⟨rfl, rfl, rfl, trivial⟩, ?_⟩⟩
  rw [back_hide]
  refine ev0 ok (e := opE 9 [truE a, truE b]) (re_opE (res_lit at1 (rc2 re_truE re_truE))) (sz_opE ⟨sz_truE, sz_truE, trivial⟩) fun c1 H1 le1 r1 => ?_
  rw [eval_and] at r1
  obtain ⟨a1, m1, c1', rfl, rfl, l1, o1⟩ := r1
  refine ⟨_, _, _, _, _, _, rfl, fun v1 v2 => ⟨⟨rfl, rfl, rfl, trivial⟩, ?_⟩⟩
  generalize hD : backK C H1 [n3, n2] = D at *
  have leD : Le C D := by rw [← hD]; exact le_back le1
  have at2 : hideK D [n3] n2 = some (mkEnt ([.int .i64 0, .int .i64 2, .int .i64 (if a = true then 1 else 0), .string emp, .slice none 0 0, .int .i64 0, .int .i64 0, .slice none 0 0] ++ [.int .i64 0, .int .i64 2, .int .i64 (if b = true then 1 else 0), .string emp, .slice none 0 0, .int .i64 0, .int .i64 0, .slice none 0 0]) 0) := by
    rw [hideK_get, if_neg (by simp [n23])]; exact leD _ _ (leC _ _ atB)
  refine fn15 ok ⟨_, _, _, _, _, _, _, _, _, _, _, _, rfl, fun _ => ⟨⟨rfl, trivial⟩, ?_⟩⟩
  rw [back_hide]
  refine ev0 ok (e := opE 10 [truE a, truE b]) (re_opE (res_lit at2 (rc2 re_truE re_truE))) (sz_opE ⟨sz_truE, sz_truE, trivial⟩) fun c2 H2 le2 r2 => ?_
  rw [eval_or] at r2
  obtain ⟨a2, m2, c2', rfl, rfl, l2, o2⟩ := r2
  refine ⟨_, _, _, _, _, _, rfl, fun v3 => ⟨⟨rfl, trivial⟩, ?_⟩⟩
  generalize hF : backK D H2 [n3] = F at *
  have leF : Le D F := by rw [← hF]; exact le_back le2
  have at3 : F n3 = some (mkEnt [.int .i64 0, .int .i64 2, .int .i64 (if a = true then 1 else 0), .string emp, .slice none 0 0, .int .i64 0, .int .i64 0, .slice none 0 0] 0) := leF _ _ (leD _ _ atC)
  refine fn15 ok ⟨_, _, _, _, _, _, _, _, _, _, _, _, rfl, trivial, ?_⟩
  refine ev0 ok (e := opE 11 [truE a]) (re_opE (res_lit at3 (rc1 re_truE))) (sz_opE ⟨sz_truE, trivial⟩) fun c3 H3 le3 r3 => ?_
  rw [eval_not] at r3
  obtain ⟨a3, m3, c3', rfl, rfl, l3, o3⟩ := r3
  have le03 : Le H H3 := leA.trans (leB.trans (leC.trans (leD.trans (leF.trans le3))))
  refine ⟨_, _, _, _, _, _, rfl, trivial, trivial, trivial, trivial, c12 ok (x := truV b) (y := truV b) ?_ ?_ (hch.mono le03) leaf ⟨_, rfl, ?_⟩⟩
  · have := (ok_tru b).sz; omega
  · have := (ok_tru b).sz; omega
  · have hq' := fun (x : Bool) (h : x = true) => h ▸ hq H3
    rw [cmpV_refl]
    clear hA hB hC hD hF
    cases a <;> cases b <;> simp [hq H3]

theorem c5 {a b : Bool} {pa : Option Addr} {n c : Nat} {H : KH} (hu : U8 H pa n) : Does (env Tryz.prog) 5 [.bool a, .bool b, .slice pa n c] H fun v _ => v = .bool true := by
  refine fn5 ok (c6 ⟨true, rfl, fun h => (by cases h), fun _ => ⟨fun _ => rfl, fun h60 => c14 ok ⟨_, _, _, _, _, _, _, _, _, _, _, _, rfl, c14 ok ⟨_, _, _, _, _, _, _, _, _, _, _, _, rfl, ?_⟩⟩⟩⟩)
  have hn : n ≤ 60 := by have := of_decide_eq_false h60; omega
  refine c8 ok hu (by omega) fun p H1 hp => ⟨_, _, rfl, c9 ok 3 (by decide) H H1 p _ hp fun e ce K H2 q1 q2 q3 q4 => ?_⟩
  have hse := mayB_sz q4
  have hre := q3.mono q1.le
  obtain ⟨op, v, occ, attr, args⟩ := e
  obtain ⟨k, i, s, av, nv, cv, ae, ce, rfl, _, _⟩ := q3
  generalize hev : Ex.mk op v occ attr args = e at *
  refine ⟨_, _, _, _, _, _, _, _, _, _, _, _, rfl, trivial, fun n1 hn1 n2 hn2 => ?_⟩
  generalize hA : KH.new H2 n1 _ = A at *
  have leA : Le H2 A := by rw [← hA]; exact Le.new hn1
  have atA : A n1 = some (mkEnt ([.int .i64 0, .int .i64 2, .int .i64 (if a = true then 1 else 0), .string emp, .slice none 0 0, .int .i64 0, .int .i64 0, .slice none 0 0] ++ ([.int .i64 0, .int .i64 2, .int .i64 (if b = true then 1 else 0), .string emp, .slice none 0 0, .int .i64 0, .int .i64 0, .slice none 0 0] ++ [.int .i64 op, .int .i64 k, .int .i64 i, .string s, .slice av nv cv, .int .i64 occ, .int .i64 attr, .slice ae args.length ce])) 0) := by rw [← hA]; exact if_pos rfl
  generalize hB : KH.new A n2 _ = B at *
  have leB : Le A B := by rw [← hB]; exact Le.new hn2
  have atB : B n2 = some (mkEnt ([.int .i64 0, .int .i64 2, .int .i64 (if a = true then 1 else 0), .string emp, .slice none 0 0, .int .i64 0, .int .i64 0, .slice none 0 0] ++ ([.int .i64 op, .int .i64 k, .int .i64 i, .string s, .slice av nv cv, .int .i64 occ, .int .i64 attr, .slice ae args.length ce] ++ [.int .i64 0, .int .i64 2, .int .i64 (if b = true then 1 else 0), .string emp, .slice none 0 0, .int .i64 0, .int .i64 0, .slice none 0 0])) 0) := by rw [← hB]; exact if_pos rfl
  have n12 : n1 ≠ n2 := fun e => by subst e; rw [atA] at hn2; cases hn2
  have hhB : hideK B [n2] = A := by rw [← hB]; exact new_del hn2
  refine fn15 ok ⟨_, _, _, _, _, _, _, _, _, _, _, _, rfl, fun _ => ⟨⟨rfl, rfl, rfl, trivial⟩, ?_⟩⟩
  rw [back_hide, hhB]
  refine ev0 ok (e := opE 12 [truE a, truE b, e]) (re_opE (res_lit atA (rc3 re_truE re_truE (hre.mono leA)))) (sz_opE ⟨sz_truE, sz_truE, hse, trivial⟩) fun c1 H3 le3 r3 => ?_
  rw [eval_if, eval_tru] at r3
  have r3' := r3
  generalize hx : (if a = true then truV b else evalE [] [] 11 e) = x at *
  obtain ⟨kx, ix, sx, lx⟩ := x
  obtain ⟨ax, mx, cx, rfl, rfl, _, _⟩ := r3
  refine ⟨_, _, _, _, _, _, rfl, fun v1 => ⟨⟨rfl, rfl, rfl, trivial⟩, ?_⟩⟩
  have leD : Le B (backK B H3 [n2]) := le_back (by rw [hhB]; exact le3)
  have leD' : Le H3 (backK B H3 [n2]) := le_back' (fun k hk => by have : k = n2 := by simpa using hk
                                                                  subst this; exact v1)
  generalize backK B H3 [n2] = D at *
  refine fn15 ok ⟨_, _, _, _, _, _, _, _, _, _, _, _, rfl, trivial, ?_⟩
  refine ev0 ok (e := opE 12 [truE a, e, truE b]) (re_opE (res_lit (leD _ _ atB) (rc3 re_truE (hre.mono (leA.trans (leB.trans leD))) re_truE))) (sz_opE ⟨sz_truE, hse, sz_truE, trivial⟩) fun c2 H4 le4 r4 => ?_
  rw [eval_if, eval_tru] at r4
  have r4' := r4
  generalize hy : (if a = true then evalE [] [] 11 e else truV b) = y at *
  obtain ⟨ky, iy, sy, ly⟩ := y
  obtain ⟨ay, my, cy, rfl, rfl, _, _⟩ := r4
  refine ⟨_, _, _, _, _, _, rfl, trivial, trivial, trivial, fun h => ?_, fun h => ?_⟩
  · have h : a = false := by simpa using h
    rw [h] at hy
    simp only [Bool.false_eq_true, if_false] at hy
    rw [← hy] at r4'
    exact j5 ok r4' fun _ => rfl
  · have h : a = true := by simpa using h
    rw [h] at hx
    simp only [if_true] at hx
    rw [← hx] at r3'
    exact j5 ok (r3'.mono (leD'.trans le4)) fun _ => rfl
end
end Va
end Go.Proofs.YtpdabjimdfifnaaGreat
