/- The law ExprChoice: what its function answers. -/
import Derived.Test.YtpdabjimdfifnaaEwEx7
import Derived.Test.YtpdabjimdfifnaaEwVc5
set_option linter.unusedVariables false
set_option linter.unusedSimpArgs false
namespace Go.Ew
open Go.Ev Go.Deep Go.Proofs.Ytpdabjimdfifnaa.Va

theorem hide_le (H : KH) (l : List Nat) : Le (hideK H l) H := fun k e q => by
  rw [hideK_get] at q
  split at q
  · cases q
  · exact q

theorem back_hide (H : KH) (l : List Nat) : backK H (hideK H l) l = H := by
  funext k
  rw [backK_get, hideK_get]
  split <;> rfl

theorem le_back {H H' : KH} {l : List Nat} (h : Le (hideK H l) H') : Le H (backK H H' l) := fun k e q => by
  rw [backK_get]
  split
  · exact q
  · rename_i hk
    exact h k e (by rw [hideK_get, if_neg hk]; exact q)

theorem le_back' {H H' : KH} {l : List Nat} (h : ∀ k ∈ l, H' k = none) : Le H' (backK H H' l) := fun k e q => by
  rw [backK_get]
  split
  · rename_i hk; rw [h k hk] at q; cases q
  · exact q

/-- A truth, as a constant. -/
def truE (b : Bool) : Ex := .mk 0 (truV b) 0 0 []

def opE (op : Int) (args : List Ex) : Ex := .mk op (.mk 0 0 emp []) 0 0 args

theorem ok_tru (b : Bool) : Ok (truV b) := ⟨by cases b <;> decide, fit_tru⟩

theorem taken_ok {v : V} (h : Ok v) : takenV v = v := by
  have hs : smallV v = v := small_le h.sz
  unfold takenV
  rw [hs, if_pos (by rw [decide_eq_true h.sz, h.fit]; rfl)]

theorem small_ok {v : V} (h : Ok v) : smallV v = v := small_le h.sz

theorem eval_con {vals : List (List V)} {texts : List ByteArray} {d : Nat} {v : V} (h : Ok v) : evalE vals texts (d + 1) (.mk 0 v 0 0 []) = v := by
  rw [evalE, if_neg (by decide), if_pos rfl, taken_ok h]

theorem eval_tru {vals : List (List V)} {texts : List ByteArray} {d : Nat} {b : Bool} : evalE vals texts (d + 1) (truE b) = truV b := eval_con (ok_tru b)

theorem k_tru {b : Bool} : kV (truV b) = 2 := rfl
theorem i_tru {b : Bool} : iV (truV b) = if b = true then 1 else 0 := rfl

theorem vals_nil {H : KH} : Vals H [] none := ⟨fun i l h => by simp at h, by simp, by simp⟩
theorem texts_nil {H : KH} : Texts H [] none := ⟨fun i l h => by simp at h, by simp, by simp⟩

theorem eval_if {vals : List (List V)} {texts : List ByteArray} {d : Nat} {b : Bool} {x y : Ex} : evalE vals texts (d + 2) (opE 12 [truE b, x, y]) = if b = true then evalE vals texts (d + 1) x else evalE vals texts (d + 1) y := by
  rw [opE, evalE, if_neg (by simp [takesB]), if_neg (by decide), if_neg (by decide), if_neg (by decide), if_neg (by decide), if_pos rfl]
  cases b <;> simp [chooseV, eval_tru, k_tru, i_tru]

theorem sz_truE {b : Bool} : SzE (truE b) := ⟨by have := (ok_tru b).sz; show szV (truV b) ≤ 20000; omega, trivial⟩

theorem sz_opE {op : Int} {args : List Ex} (h : SzEs args) : SzE (opE op args) := ⟨by show 1 + 0 / 16 + 0 ≤ 20000; decide, h⟩

theorem re_truE {H : KH} {b : Bool} : RE H (truE b) [.int .i64 0, .int .i64 2, .int .i64 (if b = true then 1 else 0), .string emp, .slice none 0 0, .int .i64 0, .int .i64 0, .slice none 0 0] :=
  ⟨2, _, emp, none, 0, 0, none, 0, rfl, leaf, trivial⟩

theorem re_opE {H : KH} {op : Int} {args : List Ex} {a : Option Addr} {c : Nat} (h : RES H args a) : RE H (opE op args) [.int .i64 op, .int .i64 0, .int .i64 0, .string (ByteArray.mk #[]), .slice none 0 0, .int .i64 0, .int .i64 0, .slice a args.length c] :=
  ⟨0, 0, emp, none, 0, 0, a, c, rfl, leaf, h⟩

theorem rc1 {H : KH} {e : Ex} {c : List Value} (h : RE H e c) : kEx.RC H [e] c := Kd.RC.one (kd := kEx) h
theorem rc2 {H : KH} {e f : Ex} {c d : List Value} (h : RE H e c) (g : RE H f d) : kEx.RC H [e, f] (c ++ d) := (rc1 h).append (rc1 g)
theorem rc3 {H : KH} {e f g : Ex} {c d x : List Value} (h : RE H e c) (h2 : RE H f d) (h3 : RE H g x) : kEx.RC H [e, f, g] (c ++ (d ++ x)) := (rc1 h).append (rc2 h2 h3)

theorem eval_not {vals : List (List V)} {texts : List ByteArray} {d : Nat} {a : Bool} : evalE vals texts (d + 2) (opE 11 [truE a]) = truV (!a) := by
  rw [opE, evalE, if_neg (by simp [takesB]), if_neg (by decide), if_neg (by decide), if_neg (by decide), if_neg (by decide), if_neg (by decide)]
  have : reckonV 11 [truV a] = truV (!a) := by cases a <;> simp [reckonV, notV, k_tru, i_tru]
  simp [allV, eval_tru, k_tru, this, small_ok (ok_tru _)]
theorem eval_and {vals : List (List V)} {texts : List ByteArray} {d : Nat} {a b : Bool} : evalE vals texts (d + 2) (opE 9 [truE a, truE b]) = truV (a && b) := by
  rw [opE, evalE, if_neg (by simp [takesB]), if_neg (by decide), if_neg (by decide), if_neg (by decide), if_neg (by decide), if_neg (by decide)]
  have : reckonV 9 [truV a, truV b] = truV (a && b) := by cases a <;> cases b <;> simp [reckonV, twoV, k_tru, i_tru]
  simp [allV, eval_tru, k_tru, this, small_ok (ok_tru _)]
theorem eval_or {vals : List (List V)} {texts : List ByteArray} {d : Nat} {a b : Bool} : evalE vals texts (d + 2) (opE 10 [truE a, truE b]) = truV (a || b) := by
  rw [opE, evalE, if_neg (by simp [takesB]), if_neg (by decide), if_neg (by decide), if_neg (by decide), if_neg (by decide), if_neg (by decide)]
  have : reckonV 10 [truV a, truV b] = truV (a || b) := by cases a <;> cases b <;> simp [reckonV, twoV, k_tru, i_tru]
  simp [allV, eval_tru, k_tru, this, small_ok (ok_tru _)]
end Go.Ew

namespace Go.Proofs.Ytpdabjimdfifnaa
open Go.Ev Go.Ew
namespace Va

theorem c6 {H : KH} {Q : Value → KH → Prop} (hq : Q (.bool true) H) : Does (env Try.prog) 6 [] H Q := does_true (by kernel_rfl) (by kernel_rfl) (by kernel_rfl) hq

section
variable (ok : EnvOk (env Try.prog))
include ok

/-- Eval, of nothing around. -/
theorem ev0 {e : Ex} {ce : List Value} {H : KH} {Q : Value → KH → Prop} (hr : RE H e ce) (hs : SzE e) (hq : Ans H (evalE [] [] 12 e) Q) :
    Does (env Try.prog) 9 [.agg ce.toArray, .slice none 0 0, .slice none 0 0] H Q := c9 ok (vals := []) (texts := []) hr hs vals_nil texts_nil hq

end
end Va
end Go.Proofs.Ytpdabjimdfifnaa
