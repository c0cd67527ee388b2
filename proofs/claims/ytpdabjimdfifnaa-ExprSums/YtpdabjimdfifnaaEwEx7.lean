/- The play makes expressions that may be. -/
import Derived.Test.YtpdabjimdfifnaaEwEx4
import Derived.Test.YtpdabjimdfifnaaEwGen
set_option linter.unusedVariables false
set_option linter.unusedSimpArgs false
namespace Go.Ew
open Go.Ev Go.Deep Go.Proofs.Ytpdabjimdfifnaa.Va

def isZeroV : V → Bool
  | .mk k i s l => decide (k = 0) && (decide (i = 0) && (strEq s emp && decide (l.length = 0)))

def withinB (n most : Int) : Bool := decide (0 ≤ n) && decide (n ≤ most)

def holdB (op : Int) (v : V) (occ attr : Int) : Bool :=
  if op = 0 then (decide (szV v ≤ 60) && fitV v) && (decide (kV v ≠ 7) && (decide (occ = 0) && decide (attr = 0)))
  else if op = 1 then isZeroV v && (withinB occ 5 && withinB attr 7)
  else if op = 2 ∨ op = 3 then isZeroV v && (withinB occ 5 && decide (attr = 0))
  else isZeroV v && (decide (occ = 0) && decide (attr = 0))

/-- Which expressions may be, so deep. -/
def mayB : Nat → Ex → Bool
  | 0, _ => false
  | d + 1, .mk op v occ attr args => takesB op args.length && (holdB op v occ attr && args.all (mayB d))

theorem mayB_mono : ∀ {d d' : Nat} {e : Ex}, d ≤ d' → mayB d e = true → mayB d' e = true
  | 0, _, e, _, h => by cases h
  | d + 1, 0, e, h, _ => by omega
  | d + 1, d' + 1, .mk op v occ attr args, hd, h => by
    simp only [mayB, Bool.and_eq_true, List.all_eq_true] at h ⊢
    exact ⟨h.1, h.2.1, fun x hx => mayB_mono (by omega) (h.2.2 x hx)⟩

theorem mayB_sz : ∀ {d : Nat} {e : Ex}, mayB d e = true → SzE e
  | 0, e, h => by cases h
  | d + 1, .mk op v occ attr args, h => by
    simp only [mayB, Bool.and_eq_true, List.all_eq_true] at h
    have hl : ∀ l : List Ex, (∀ x ∈ l, mayB d x = true) → SzEs l := by
      intro l
      induction l with
      | nil => intro _; trivial
      | cons x l ih => intro hx; exact ⟨mayB_sz (hx x (by simp)), ih fun y hy => hx y (by simp [hy])⟩
    refine ⟨?_, hl args h.2.2⟩
    have h2 := h.2.1
    have zero : isZeroV v = true → szV v ≤ 20000 := fun hz => by
      obtain ⟨k, i, s, l⟩ := v
      simp only [isZeroV, Bool.and_eq_true, decide_eq_true_eq] at hz
      have hs : s.toList = emp.toList := by simpa [strEq] using hz.2.2.1
      have hs2 : s.size = 0 := by
        have e1 : s.size = s.toList.length := by rw [ByteArray.toList_eq]; rfl
        have e2 : emp.toList.length = 0 := by rw [ByteArray.toList_eq]; rfl
        rw [e1, hs, e2]
      have hl0 : l = [] := List.eq_nil_of_length_eq_zero hz.2.2.2
      subst hl0
      simp only [szV, hs2, szL]; omega
    unfold holdB at h2
    split at h2
    · simp only [Bool.and_eq_true, decide_eq_true_eq] at h2; omega
    · split at h2
      · simp only [Bool.and_eq_true] at h2; exact zero h2.1
      · split at h2
        · simp only [Bool.and_eq_true] at h2; exact zero h2.1
        · simp only [Bool.and_eq_true] at h2; exact zero h2.1

/-- An expression's cells. -/
def kEx : Kd Ex where
  sz := 8
  R := RE
  len := fun {H e cs} h => by
    obtain ⟨op, v, occ, attr, args⟩ := e
    obtain ⟨k, i, s, av, nv, cv, a, c, rfl, _⟩ := h
    rfl
  mono := fun h q => q.mono h
  pos := by decide
  most := by decide

theorem RES.of_kd {H : KH} : ∀ {l : List Ex} {b o : Nat} {cs : List Value}, kEx.RC H l cs → (∃ e, H b = some e ∧ rd e.cells o (l.length * 8) = some cs) → RES H l (some ⟨b, o, none⟩)
  | [], b, o, cs, _, _ => trivial
  | x :: l, b, o, cs, ⟨c1, c2, e, q1, q2⟩, ⟨E, hE, hr⟩ => by
    subst e
    have h8 : c1.length = 8 := kEx.len q1
    have e1 : (x :: l).length * 8 = 8 + l.length * 8 := by simp only [List.length_cons]; omega
    rw [e1] at hr
    have t1 := rd_take hr (m := 8) (by omega)
    have t2 := rd_drop hr (m := 8) (by omega)
    rw [List.take_append_of_le_length (by omega), List.take_of_length_le (by omega)] at t1
    rw [List.drop_append_of_le_length (by omega), List.drop_eq_nil_of_le (show c1.length ≤ 8 by omega), List.nil_append, Nat.add_sub_cancel_left] at t2
    exact ⟨b, o, rfl, ⟨c1, ⟨rfl, E, hE, by rw [h8]; exact t1⟩, q1⟩, RES.of_kd q2 ⟨E, hE, t2⟩⟩

theorem RES.of_rs {H : KH} {l : List Ex} {a : Option Addr} (h : kEx.RS H l a) : RES H l a := by
  obtain ⟨cs, h1, h2⟩ := h
  cases l with
  | nil => trivial
  | cons x l =>
    cases a with
    | none => have hb : Nat.beq (l.length + 1) 0 = false := rfl; simp [kold, hb] at h1
    | some ad =>
      obtain ⟨b, o, sp⟩ := ad
      cases sp with
      | some sp => have hb : Nat.beq (l.length + 1) 0 = false := rfl; simp [kold, hb] at h1
      | none => exact RES.of_kd h2 (kold_some.1 h1)

theorem lit_kold {H : KH} {b sz n : Nat} {cs : List Value} (hb : H b = some (mkEnt cs 0)) (hl : cs.length = n * sz) : kold H sz (some ⟨b, 0, none⟩) n = some cs :=
  kold_some.2 ⟨_, hb, by rw [← hl]; exact mk_rd⟩

theorem res_lit {H : KH} {b : Nat} {l : List Ex} {cs : List Value} (hb : H b = some (mkEnt cs 0)) (hr : kEx.RC H l cs) : RES H l (some ⟨b, 0, none⟩) :=
  RES.of_kd hr ⟨_, hb, by have := hr.len; have e : kEx.sz = 8 := rfl; rw [e] at this; rw [← this]; exact mk_rd⟩

theorem re_leaf {H : KH} {op occ attr : Int} : RE H (.mk op (.mk 0 0 emp []) occ attr []) [.int .i64 op, .int .i64 0, .int .i64 0, .string (ByteArray.mk #[]), .slice none 0 0, .int .i64 occ, .int .i64 attr, .slice none 0 0] :=
  ⟨0, 0, emp, none, 0, 0, none, 0, rfl, leaf, trivial⟩

theorem zero_zero : isZeroV (.mk 0 0 emp []) = true := by simp [isZeroV, emp_eq]

theorem may_op {d : Nat} {op : Int} {args : List Ex} (h0 : op ≠ 0 ∧ op ≠ 1 ∧ op ≠ 2 ∧ op ≠ 3) (ht : takesB op args.length = true) (ha : ∀ x ∈ args, mayB d x = true) : mayB (d + 1) (.mk op (.mk 0 0 emp []) 0 0 args) = true := by
  simp only [mayB, Bool.and_eq_true, List.all_eq_true]
  refine ⟨ht, ?_, ha⟩
  unfold holdB
  rw [if_neg h0.1, if_neg h0.2.1, if_neg (by omega)]
  simp [zero_zero]

abbrev ET : TI := ⟨8, 104, true, 3, 0, 0, [(0, 1), (1, 4), (5, 1), (6, 1), (7, 1)], [.int .i64 0, .int .i64 0, .int .i64 0, .string (ByteArray.mk #[]), .slice none 0 0, .int .i64 0, .int .i64 0, .slice none 0 0]⟩
end Go.Ew

namespace Go.Proofs.Ytpdabjimdfifnaa
open Go.Ev Go.Ew
namespace Va

section
variable (ok : EnvOk (env Try.prog))
include ok

end
end Va
end Go.Proofs.Ytpdabjimdfifnaa
