/- A reader of patterns: its state, and how it lies in memory. -/
import Derived.Test.YtphgchjoglgeeaaEwVc1
import Derived.Test.YtphgchjoglgeeaaEwCells
set_option linter.unusedVariables false
set_option linter.unusedSimpArgs false
namespace Go.Ew
open Go.Ev Go.Deep

abbrev Rg := Int × Int
abbrev It := Int × List Rg

/-- What was read so far. -/
structure RdS where
  items : List It
  outer : List (Bool × Int)
  parted : Bool
  atoms : Int
  cls : Option (List Rg × Int)

def putR (σ : RdS) (op : Int) : RdS := { σ with items := σ.items ++ [(op, [])] }
def joinR (σ : RdS) : RdS := if σ.atoms = 2 then { putR σ 2 with atoms := 1 } else σ
def addClassR (σ : RdS) (l : List Rg) : RdS := { joinR σ with items := (joinR σ).items ++ [(1, l)], atoms := (joinR σ).atoms + 1 }
def repeatR (σ : RdS) (op : Int) : Option RdS := if σ.atoms = 0 then none else some (putR σ op)
def endR (σ : RdS) : Option RdS := if σ.atoms = 0 then none else some { (if (joinR σ).parted = true then putR (joinR σ) 3 else joinR σ) with parted := true, atoms := 0 }
def openR (σ : RdS) : Option RdS := if σ.outer.length < 12 then some { joinR σ with outer := (joinR σ).outer ++ [((joinR σ).parted, (joinR σ).atoms)], parted := false, atoms := 0 } else none
def closeR (σ : RdS) : Option RdS := match σ.outer.getLast? with
  | none => none
  | some g => match endR σ with
    | none => none
    | some τ => some { τ with outer := σ.outer.dropLast, parted := g.1, atoms := g.2 + 1 }
def openC (σ : RdS) : Option RdS := if σ.outer.length < 12 then some { σ with cls := some ([], 0) } else none
def addC (l : List Rg) (place c : Int) : Option (List Rg × Int) := if place ≠ 2 then some (l ++ [(c, c)], 1) else match l.getLast? with
  | none => none
  | some r => if c < r.1 then none else some (l.dropLast ++ [(r.1, c)], 0)
def wholeC (l : List Rg) (place : Int) : Bool := decide (0 < l.length) && decide (place ≠ 2)

def marksB : List Int := [40, 41, 91, 93, 124, 42, 43, 63, 46, 92]
def clsB : List Int := [93, 45, 92]
def standsB (c : Int) (esc : Bool) (sp : List Int) : Bool := decide (32 ≤ c) && (decide (c ≤ 126) && (decide (c ∈ sp) == esc))

def markR (σ : RdS) (c : Int) : Option RdS :=
  if c = 40 then openR σ else if c = 41 then closeR σ else if c = 91 then openC σ else if c = 46 then some (addClassR σ [(32, 126)]) else if c = 124 then endR σ else
  if c = 42 then repeatR σ 4 else if c = 43 then repeatR σ 5 else if c = 63 then repeatR σ 6 else none

def inClassR (σ : RdS) (l : List Rg) (place c : Int) (esc : Bool) : Option RdS :=
  if standsB c esc clsB = true then (match addC l place c with
    | some x => some { σ with cls := some x }
    | none => none)
  else if c = 45 then (if place = 1 then some { σ with cls := some (l, 2) } else none)
  else if c = 93 then (if wholeC l place = true then some { addClassR σ l with cls := none } else none)
  else none

def takeR (σ : RdS) (c : Int) (esc : Bool) : Option RdS := match σ.cls with
  | some (l, place) => inClassR σ l place c esc
  | none => if standsB c esc marksB = true then some (addClassR σ [(c, c)]) else markR σ c

def finR (σ : RdS) : Option RdS := match σ.cls with
  | some _ => none
  | none => if σ.outer.length = 0 then endR σ else none

/-- Cells of ranges, of items, of groups. -/
def rgC (l : List Rg) : List Value := l.flatMap fun r => [.int .u8 r.1, .int .u8 r.2]
def grC (l : List (Bool × Int)) : List Value := l.flatMap fun g => [.bool g.1, .int .i64 g.2]

/-- A row of items: each has its ranges. -/
def ItC (X : KH) : List It → List Value → Prop
  | [], cs => cs = []
  | (op, l) :: r, cs => ∃ a c ds, cs = .int .i64 op :: .slice a l.length c :: ds ∧ kold X 2 a l.length = some (rgC l) ∧ ItC X r ds

theorem ItC.mono {X X' : KH} (h : Le X X') : ∀ {l : List It} {cs : List Value}, ItC X l cs → ItC X' l cs
  | [], cs, q => q
  | (op, l) :: r, cs, ⟨a, c, ds, h1, h2, h3⟩ => ⟨a, c, ds, h1, h.kold h2, ItC.mono h h3⟩

theorem ItC.app {X : KH} {op : Int} {l : List Rg} {a : Option Addr} {c : Nat} (hk : kold X 2 a l.length = some (rgC l)) : ∀ {r : List It} {cs : List Value}, ItC X r cs → ItC X (r ++ [(op, l)]) (cs ++ [.int .i64 op, .slice a l.length c])
  | [], cs, q => by
    have q : cs = [] := q
    subst q
    exact ⟨a, c, [], rfl, hk, rfl⟩
  | (op', l') :: r, cs, ⟨a', c', ds, h1, h2, h3⟩ => by
    subst h1
    exact ⟨a', c', _, rfl, h2, ItC.app hk h3⟩

theorem ItC.len {X : KH} : ∀ {l : List It} {cs : List Value}, ItC X l cs → cs.length = l.length * 2
  | [], cs, q => by
    have q : cs = [] := q
    subst q; rfl
  | (op, l) :: r, cs, ⟨a, c, ds, h1, h2, h3⟩ => by
    have := ItC.len h3
    subst h1
    simp only [List.length_cons]
    omega

/-- A row that grows; it may have had more. -/
inductive Gr (H : KH) (sz : Nat) : Option Addr → Nat → Nat → List Value → List Value → Prop where
  | nil : Gr H sz none 0 0 [] []
  | on (b n : Nat) (e : Ent) (cs ex : List Value) (h1 : H b = some e) (h2 : e.unk = sz) (h3 : e.len = (cs ++ ex).length) (h4 : rd e.cells 0 (cs ++ ex).length = some (cs ++ ex)) (h5 : wrB e = true) (h6 : cs.length = n * sz) : Gr H sz (some ⟨b, 0, none⟩) n unkU cs ex

theorem grC_len : ∀ l : List (Bool × Int), (grC l).length = l.length * 2
  | [] => rfl
  | g :: l => by
    have := grC_len l
    simp only [grC, List.flatMap_cons, List.length_append, List.length_cons, List.length_nil] at this ⊢
    omega

theorem rgC_len : ∀ l : List Rg, (rgC l).length = l.length * 2
  | [] => rfl
  | g :: l => by
    have := rgC_len l
    simp only [rgC, List.flatMap_cons, List.length_append, List.length_cons, List.length_nil] at this ⊢
    omega

theorem grC_app (l m : List (Bool × Int)) : grC (l ++ m) = grC l ++ grC m := by simp [grC]
theorem rgC_app (l m : List Rg) : rgC (l ++ m) = rgC l ++ rgC m := by simp [rgC]

theorem ldSub {H : KH} {b o : Nat} {cs : List Value} (h : ld H ⟨b, o, none⟩ cs) (j m : Nat) (hj : j + m ≤ cs.length) : ld H ⟨b, o + j, none⟩ ((cs.drop j).take m) := by
  obtain ⟨_, e, he, hr⟩ := h
  have h1 := rd_drop hr (m := j) (by omega)
  have h2 := rd_take h1 (m := m) (by omega)
  refine ⟨rfl, e, he, ?_⟩
  have : ((cs.drop j).take m).length = m := by simp; omega
  rw [this]
  exact h2

theorem Gr.row {H : KH} {sz n c : Nat} {a : Option Addr} {cs ex : List Value} (h : Gr H sz a n c cs ex) : kold H sz a n = some cs := by
  cases h with
  | nil => rfl
  | on b _ e _ _ h1 h2 h3 h4 h5 h6 =>
    refine kold_some.2 ⟨e, h1, ?_⟩
    have := rd_take h4 (m := n * sz) (by simp; omega)
    rw [← h6, List.take_left] at this
    rw [← h6]
    exact this

theorem Gr.agree {H H' : KH} {sz n c : Nat} {a : Option Addr} {cs ex : List Value} (h : Gr H sz a n c cs ex) (hk : ∀ k e, blk a = some k → H k = some e → H' k = some e) : Gr H' sz a n c cs ex := by
  cases h with
  | nil => exact .nil
  | on b _ e _ _ h1 h2 h3 h4 h5 h6 => exact .on b n e cs ex (hk b e rfl h1) h2 h3 h4 h5 h6

theorem rdWr {e : BT (Option Value)} {N o : Nat} {xs ys zs vs : List Value} (h : rd e 0 N = some (xs ++ ys ++ zs)) (hx : xs.length = o) (hy : ys.length = vs.length) : rd (wr e o vs) 0 N = some (xs ++ vs ++ zs) := by
  have hl := rd_len h
  refine rd_some (by simp at hl ⊢; omega) fun j v hv => ?_
  rw [Nat.zero_add, tget_wr]
  by_cases hb : o ≤ j ∧ j < o + vs.length
  · rw [if_pos hb]
    rw [List.append_assoc, List.getElem?_append_right (by omega), List.getElem?_append_left (by omega)] at hv
    rw [hx] at hv
    exact hv
  · rw [if_neg hb]
    have := rd_get h j v ?_
    · simpa using this
    · by_cases hj : j < o
      · rw [List.append_assoc, List.getElem?_append_left (by omega)] at hv ⊢
        exact hv
      · rw [List.getElem?_append_right (by simp; omega)] at hv ⊢
        simp only [List.length_append] at hv ⊢
        rw [hy]
        exact hv

/-- One more. -/
theorem Gr.append {H : KH} {ti : TI} {n c nm : Nat} {a : Option Addr} {cs ex new : List Value} (h : Gr H ti.size a n c cs ex) (hnm : H nm = none) (hm : new.length = ti.size) (hs : n + 1 ≤ 1000000) (hb : ti.bytes ≤ 1000000) (hz : 1 ≤ ti.size) (hro : ti.size ≤ 1000000 := by decide) :
    ∃ a' H' ex', kappend H nm ti a n c 1 new = some (.slice a' (n + 1) unkU, H') ∧ Gr H' ti.size a' (n + 1) unkU (cs ++ new) ex' ∧ (ex = [] → ex' = []) ∧ (∀ k e, H k = some e → blk a ≠ some k → H' k = some e) ∧ (∀ b, blk a' = some b → blk a = some b ∨ b = nm) := by
  have hh : (Nat.ble (n + 1) 1000000 && Nat.ble ti.bytes 1000000 && Nat.ble 1 ti.size) = true := by
    simp only [Bool.and_eq_true]
    exact ⟨⟨Nat.ble_eq_true_of_le hs, Nat.ble_eq_true_of_le hb⟩, Nat.ble_eq_true_of_le hz⟩
  have hwn : ∀ cs, wrB (mkEnt cs ti.size) = true := fun cs => by
    unfold wrB mkEnt noOb
    have : Nat.beq ti.size roU = false := by
      cases hb : Nat.beq ti.size roU with
      | false => rfl
      | true => have := Nat.eq_of_beq_eq_true hb; unfold roU at this; omega
    simp [this]
  have hlt0 : ∀ p q : Nat, ¬ p ≤ q → Nat.ble p q = false := fun p q hh => by
    cases hb : Nat.ble p q with
    | false => rfl
    | true => exact absurd (Nat.le_of_ble_eq_true hb) hh
  have mk : ∀ H1 : KH, cs.length = n * ti.size → Gr (H1.new nm (mkEnt (cs ++ new) ti.size)) ti.size (some ⟨nm, 0, none⟩) (n + 1) unkU (cs ++ new) [] := by
    intro H1 hcl
    refine .on nm _ (mkEnt (cs ++ new) ti.size) _ _ (by simp [KH.new]) rfl (by simp [mkEnt]) ?_ (hwn _) (by simp [hcl, hm, Nat.add_mul])
    rw [List.append_nil]
    exact rd_some rfl fun j v hv => by rw [Nat.zero_add]; simp only [mkEnt, tget_wr_nil]; exact hv
  cases h with
  | nil =>
    have hb0 : Nat.blt 0 unkU = true := rfl
    unfold kappend
    simp only [hh, cond_true, hb0]
    rw [hlt0 (0 + 1) 0 (by omega)]
    simp only [cond_false]
    exact ⟨_, _, [], rfl, mk H (by simp), fun _ => rfl, fun k e q _ => Le.new hnm k e q, fun b q => by cases q; exact .inr rfl⟩
  | on b _ e _ _ h1 h2 h3 h4 h5 h6 =>
    have hb0 : Nat.blt unkU unkU = false := rfl
    unfold kappend
    have hq : (Nat.beq e.unk ti.size && Nat.beq 0 ((unkU - unkU) * ti.size) && (none : Option Nat).isNone && wrB e) = true := by
      rw [h2, Nat.sub_self, Nat.zero_mul, h5]
      simp
    simp only [hh, cond_true, hb0, cond_false, h1, hq]
    have hlen : (cs ++ ex).length = n * ti.size + ex.length := by simp [h6]
    by_cases hin : (n + 1) * ti.size ≤ e.len
    · rw [show Nat.ble (0 + (n + 1) * ti.size) e.len = true from Nat.ble_eq_true_of_le (by omega)]
      have hex : ti.size ≤ ex.length := by rw [h3, hlen, Nat.add_mul] at hin; omega
      have hrd : rd e.cells (0 + n * ti.size) new.length = some (ex.take ti.size) := by
        have r1 := rd_drop h4 (m := n * ti.size) (by omega)
        rw [hlen] at r1
        have r2 := rd_take r1 (m := ti.size) (by simp; omega)
        rw [hm, ← h6] 
        rw [← h6] at r2
        rw [List.drop_left] at r2
        exact r2
      have hst : kstore H ⟨b, 0 + n * ti.size, none⟩ new = some (H.put ⟨b, 0 + n * ti.size, none⟩ new) := by
        unfold kstore
        simp only [h1, h5, cond_true, hrd]
      simp only [cond_true, hst, ob]
      have hne : ∀ k e', H k = some e' → k ≠ b → (H.put ⟨b, 0 + n * ti.size, none⟩ new) k = some e' := fun k e' q hk => by
        simp only [KH.put]; rw [if_neg hk]; exact q
      refine ⟨_, _, ex.drop ti.size, rfl, ?_, fun q => by rw [q]; simp, fun k e' q hk => hne k e' q (fun x => hk (by rw [x]; rfl)), fun b' q => .inl q⟩
      refine .on b _ ⟨wr e.cells (0 + n * ti.size) new, e.len, e.unk, none⟩ _ _ (by simp only [KH.put, if_true, h1, Option.map_some]) h2 ?_ ?_ (wrB_keep h5) (by simp [h6, hm, Nat.add_mul])
      · simp only [List.length_append, List.length_drop] at h3 ⊢
        omega
      · have hl2 : (cs ++ new ++ ex.drop ti.size).length = (cs ++ ex).length := by simp only [List.length_append, List.length_drop]; omega
        rw [hl2]
        have he : cs ++ ex = cs ++ ex.take ti.size ++ ex.drop ti.size := by rw [List.append_assoc, List.take_append_drop]
        have h4' : rd e.cells 0 (cs ++ ex).length = some (cs ++ ex.take ti.size ++ ex.drop ti.size) := by rw [← he]; exact h4
        exact rdWr h4' (by rw [h6, Nat.zero_add]) (by simp only [List.length_take, hm]; omega)
    · rw [hlt0 _ _ (by omega)]
      simp only [cond_false]
      have hrd : rd e.cells 0 (n * ti.size) = some cs := by
        have := rd_take h4 (m := n * ti.size) (by omega)
        rw [← h6, List.take_left] at this
        rw [← h6]
        exact this
      simp only [hrd, ob]
      refine ⟨_, _, [], rfl, mk (H.del b) h6, fun _ => rfl, fun k e' q hne => ?_, fun b' q => by cases q; exact .inr rfl⟩
      simp only [KH.new, KH.del]
      rw [if_neg (fun e1 => by subst e1; rw [hnm] at q; cases q), if_neg (fun e1 => hne (by rw [e1]; rfl))]
      exact q

end Go.Ew
