/- Contracts of the reference's rows: key, Find, Ins. -/
import Derived.Test.YtpdabjimdfifnaaEwValP
import Derived.Test.YtpdabjimdfifnaaEwSl
set_option linter.unusedVariables false
namespace Go.Proofs.Ytpdabjimdfifnaa
open Go.Ev Go.Ew
namespace Va

theorem ld_sub {H : KH} {b o : Nat} {cs : List Value} (h : ld H ⟨b, o, none⟩ cs) (j m : Nat) (hj : j + m ≤ cs.length) : ld H ⟨b, o + j, none⟩ ((cs.drop j).take m) := by
  obtain ⟨_, e, he, hr⟩ := h
  have h1 := rd_drop hr (m := j) (by omega)
  have h2 := rd_take h1 (m := m) (by omega)
  refine ⟨rfl, e, he, ?_⟩
  rw [List.length_take, List.length_drop, Nat.min_eq_left (by omega)]
  exact h2

def keyV : V → ByteArray
  | .mk _ _ _ [] => ByteArray.mk #[]
  | .mk _ _ _ (.mk _ _ s _ :: _) => s

def kidsV : V → Nat
  | .mk _ _ _ l => l.length

def findV (s : ByteArray) : List V → Nat × Bool
  | [] => (0, false)
  | y :: l => if strLt (keyV y) s = true then ((findV s l).1 + 1, (findV s l).2) else (0, decide (0 < kidsV y) && strEq (keyV y) s)

def insV (x : V) : List V → List V
  | [] => [x]
  | y :: l => if cmpV y x < 0 then y :: insV x l else if cmpV y x = 0 then y :: l else x :: y :: l

section
variable (ok : EnvOk (env Try.prog))
include ok

omit ok in
theorem szL_app : ∀ l m : List V, szL (l ++ m) = szL l + szL m
  | [], m => by simp [szL]
  | v :: l, m => by simp only [List.cons_append, szL, szL_app l m]; omega
omit ok in
theorem hide_new {H : KH} {n : Nat} {e : Ent} (h : H n = none) : hideK (H.new n e) [n] = H := new_del h

abbrev VT : TI := ⟨4, 56, true, 3, 0, 0, [(0, 1), (1, 1), (2, 1), (3, 1)], [(Value.int .i64 0), (Value.int .i64 0), (Value.string (ByteArray.mk #[])), (Value.slice none 0 0)]⟩

/-- A row of one's own. -/
structure Mine (H H' : KH) (l : List V) (a : Option Addr) (c : Nat) : Prop where
  le : Le H H'
  row : RS H' l a
  cut : SlOk H' 4 a l.length c
  own : ∃ cs, Own H H' 4 a l.length c cs

end
end Va
end Go.Proofs.Ytpdabjimdfifnaa
