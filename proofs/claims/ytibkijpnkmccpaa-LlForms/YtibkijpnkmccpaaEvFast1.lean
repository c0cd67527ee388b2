/- A faster road over named memory: what can be told ahead is told once, the rest goes by continuations. First part: tables. -/
import Derived.Test.YtibkijpnkmccpaaEvMain
set_option linter.unusedVariables false
set_option linter.unusedSimpArgs false
namespace Go.Ev
open Go.Deep

structure N8 (α : Type) where
  a : α
  b : α
  c : α
  d : α
  e : α
  f : α
  g : α
  h : α

abbrev FT := N8 (N8 (N8 (Option Value)))

def get8 {α : Type} (t : N8 α) : Nat → α
  | 0 => t.a
  | 1 => t.b
  | 2 => t.c
  | 3 => t.d
  | 4 => t.e
  | 5 => t.f
  | 6 => t.g
  | _ => t.h

def set8 {α : Type} (t : N8 α) (x : α) : Nat → N8 α
  | 0 => ⟨x, t.b, t.c, t.d, t.e, t.f, t.g, t.h⟩
  | 1 => ⟨t.a, x, t.c, t.d, t.e, t.f, t.g, t.h⟩
  | 2 => ⟨t.a, t.b, x, t.d, t.e, t.f, t.g, t.h⟩
  | 3 => ⟨t.a, t.b, t.c, x, t.e, t.f, t.g, t.h⟩
  | 4 => ⟨t.a, t.b, t.c, t.d, x, t.f, t.g, t.h⟩
  | 5 => ⟨t.a, t.b, t.c, t.d, t.e, x, t.g, t.h⟩
  | 6 => ⟨t.a, t.b, t.c, t.d, t.e, t.f, x, t.h⟩
  | _ => ⟨t.a, t.b, t.c, t.d, t.e, t.f, t.g, x⟩

structure Rd8 (α : Type) where
  fn : N8 α → α

def rd8 (α : Type) : Nat → Rd8 α
  | 0 => ⟨fun t => t.a⟩
  | 1 => ⟨fun t => t.b⟩
  | 2 => ⟨fun t => t.c⟩
  | 3 => ⟨fun t => t.d⟩
  | 4 => ⟨fun t => t.e⟩
  | 5 => ⟨fun t => t.f⟩
  | 6 => ⟨fun t => t.g⟩
  | _ => ⟨fun t => t.h⟩

structure Wr8 (α : Type) where
  f0 : N8 α → α → (N8 α → Prop) → Prop

def Wr8.fn {α : Type} (X : Wr8 α) (x0 : N8 α) (x1 : α) (x2 : (N8 α → Prop)) : Prop := Wr8.rec (motive := fun _ => Prop) (fun f => f x0 x1 x2) X

theorem Wr8.fn_mk {α : Type} (f : N8 α → α → (N8 α → Prop) → Prop) (x0 : N8 α) (x1 : α) (x2 : (N8 α → Prop)) : (Wr8.mk f).fn x0 x1 x2 = f x0 x1 x2 := rfl

def wr8 (α : Type) : Nat → Wr8 α
  | 0 => ⟨fun t x k => N8.rec (motive := fun _ => Prop) (fun a b c d e f g h => k ⟨x, b, c, d, e, f, g, h⟩) t⟩
  | 1 => ⟨fun t x k => N8.rec (motive := fun _ => Prop) (fun a b c d e f g h => k ⟨a, x, c, d, e, f, g, h⟩) t⟩
  | 2 => ⟨fun t x k => N8.rec (motive := fun _ => Prop) (fun a b c d e f g h => k ⟨a, b, x, d, e, f, g, h⟩) t⟩
  | 3 => ⟨fun t x k => N8.rec (motive := fun _ => Prop) (fun a b c d e f g h => k ⟨a, b, c, x, e, f, g, h⟩) t⟩
  | 4 => ⟨fun t x k => N8.rec (motive := fun _ => Prop) (fun a b c d e f g h => k ⟨a, b, c, d, x, f, g, h⟩) t⟩
  | 5 => ⟨fun t x k => N8.rec (motive := fun _ => Prop) (fun a b c d e f g h => k ⟨a, b, c, d, e, x, g, h⟩) t⟩
  | 6 => ⟨fun t x k => N8.rec (motive := fun _ => Prop) (fun a b c d e f g h => k ⟨a, b, c, d, e, f, x, h⟩) t⟩
  | _ => ⟨fun t x k => N8.rec (motive := fun _ => Prop) (fun a b c d e f g h => k ⟨a, b, c, d, e, f, g, x⟩) t⟩

structure Md8 (α : Type) where
  f0 : N8 α → (α → (α → Prop) → Prop) → (N8 α → Prop) → Prop

def Md8.fn {α : Type} (X : Md8 α) (x0 : N8 α) (x1 : (α → (α → Prop) → Prop)) (x2 : (N8 α → Prop)) : Prop := Md8.rec (motive := fun _ => Prop) (fun f => f x0 x1 x2) X

theorem Md8.fn_mk {α : Type} (f : N8 α → (α → (α → Prop) → Prop) → (N8 α → Prop) → Prop) (x0 : N8 α) (x1 : (α → (α → Prop) → Prop)) (x2 : (N8 α → Prop)) : (Md8.mk f).fn x0 x1 x2 = f x0 x1 x2 := rfl

def md8 (α : Type) : Nat → Md8 α
  | 0 => ⟨fun t q k => N8.rec (motive := fun _ => Prop) (fun a b c d e f g h => q a fun z => k ⟨z, b, c, d, e, f, g, h⟩) t⟩
  | 1 => ⟨fun t q k => N8.rec (motive := fun _ => Prop) (fun a b c d e f g h => q b fun z => k ⟨a, z, c, d, e, f, g, h⟩) t⟩
  | 2 => ⟨fun t q k => N8.rec (motive := fun _ => Prop) (fun a b c d e f g h => q c fun z => k ⟨a, b, z, d, e, f, g, h⟩) t⟩
  | 3 => ⟨fun t q k => N8.rec (motive := fun _ => Prop) (fun a b c d e f g h => q d fun z => k ⟨a, b, c, z, e, f, g, h⟩) t⟩
  | 4 => ⟨fun t q k => N8.rec (motive := fun _ => Prop) (fun a b c d e f g h => q e fun z => k ⟨a, b, c, d, z, f, g, h⟩) t⟩
  | 5 => ⟨fun t q k => N8.rec (motive := fun _ => Prop) (fun a b c d e f g h => q f fun z => k ⟨a, b, c, d, e, z, g, h⟩) t⟩
  | 6 => ⟨fun t q k => N8.rec (motive := fun _ => Prop) (fun a b c d e f g h => q g fun z => k ⟨a, b, c, d, e, f, z, h⟩) t⟩
  | _ => ⟨fun t q k => N8.rec (motive := fun _ => Prop) (fun a b c d e f g h => q h fun z => k ⟨a, b, c, d, e, f, g, z⟩) t⟩

theorem rd8_eq {α : Type} (t : N8 α) (i : Nat) : (rd8 α i).fn t = get8 t i := by
  rcases i with _ | _ | _ | _ | _ | _ | _ | i <;> rfl

theorem wr8_eq {α : Type} (t : N8 α) (x : α) (i : Nat) (k : N8 α → Prop) : (wr8 α i).fn t x k = k (set8 t x i) := by
  rcases i with _ | _ | _ | _ | _ | _ | _ | i <;> rfl

theorem md8_eq {α : Type} (t : N8 α) (i : Nat) (q : α → (α → Prop) → Prop) (y : α) (hq : ∀ k, q (get8 t i) k = k y) (k : N8 α → Prop) : (md8 α i).fn t q k = k (set8 t y i) := by
  rcases i with _ | _ | _ | _ | _ | _ | _ | i <;> exact hq _

theorem get8_set8 {α : Type} (t : N8 α) (x : α) (i j : Nat) (hi : i < 8) (hj : j < 8) : get8 (set8 t x i) j = if i = j then x else get8 t j := by
  have h1 : i = 0 ∨ i = 1 ∨ i = 2 ∨ i = 3 ∨ i = 4 ∨ i = 5 ∨ i = 6 ∨ i = 7 := by omega
  have h2 : j = 0 ∨ j = 1 ∨ j = 2 ∨ j = 3 ∨ j = 4 ∨ j = 5 ∨ j = 6 ∨ j = 7 := by omega
  rcases h1 with rfl | rfl | rfl | rfl | rfl | rfl | rfl | rfl <;> rcases h2 with rfl | rfl | rfl | rfl | rfl | rfl | rfl | rfl <;> rfl

/-- The slots: 512. -/
def getF (T : FT) (i : Nat) : Option Value := bif Nat.blt i 512 then get8 (get8 (get8 T (Nat.div i 64)) (Nat.mod (Nat.div i 8) 8)) (Nat.mod i 8) else none

def setF (T : FT) (x : Option Value) (i : Nat) : FT := set8 T (set8 (get8 T (Nat.div i 64)) (set8 (get8 (get8 T (Nat.div i 64)) (Nat.mod (Nat.div i 8) 8)) x (Nat.mod i 8)) (Nat.mod (Nat.div i 8) 8)) (Nat.div i 64)

theorem getF_setF (T : FT) (x : Option Value) (i j : Nat) (hi : i < 512) : getF (setF T x i) j = if i = j then x else getF T j := by
  unfold getF
  cases hb : Nat.blt j 512
  · simp only [cond_false]
    have hj : 512 ≤ j := by
      rcases Nat.lt_or_ge j 512 with k | k
      · have : Nat.blt j 512 = true := Nat.ble_eq_true_of_le k
        rw [hb] at this; cases this
      · exact k
    rw [if_neg (by omega)]
  · have hj : j < 512 := Nat.le_of_ble_eq_true hb
    simp only [cond_true]
    unfold setF
    have e1 : ∀ n, Nat.div n 64 = n / 64 := fun _ => rfl
    have e2 : ∀ n, Nat.div n 8 = n / 8 := fun _ => rfl
    have e3 : ∀ n, Nat.mod n 8 = n % 8 := fun _ => rfl
    simp only [e1, e2, e3]
    rw [get8_set8 _ _ _ _ (by omega) (by omega)]
    by_cases h1 : i / 64 = j / 64
    · rw [if_pos h1, get8_set8 _ _ _ _ (by omega) (by omega)]
      by_cases h2 : i / 8 % 8 = j / 8 % 8
      · rw [if_pos h2, get8_set8 _ _ _ _ (by omega) (by omega)]
        by_cases h3 : i % 8 = j % 8
        · rw [if_pos h3, if_pos (by omega)]
        · rw [if_neg h3, if_neg (by omega), h1, h2]
      · rw [if_neg h2, if_neg (by intro e; subst e; exact h2 rfl), h1]
    · rw [if_neg h1, if_neg (by intro e; subst e; exact h1 rfl)]

structure Rd where
  fn : FT → Option Value

structure Wr where
  f0 : FT → Option Value → (FT → Prop) → Prop

def Wr.fn (X : Wr) (x0 : FT) (x1 : Option Value) (x2 : (FT → Prop)) : Prop := Wr.rec (motive := fun _ => Prop) (fun f => f x0 x1 x2) X

theorem Wr.fn_mk (f : FT → Option Value → (FT → Prop) → Prop) (x0 : FT) (x1 : Option Value) (x2 : (FT → Prop)) : (Wr.mk f).fn x0 x1 x2 = f x0 x1 x2 := rfl

def getS (i : Nat) : Rd := bif Nat.blt i 512 then (match rd8 (Option Value) (Nat.mod i 8), rd8 (N8 (Option Value)) (Nat.mod (Nat.div i 8) 8), rd8 (N8 (N8 (Option Value))) (Nat.div i 64) with | ⟨p⟩, ⟨q⟩, ⟨r⟩ => ⟨fun T => p (q (r T))⟩) else ⟨fun _ => none⟩

def setS (i : Nat) : Wr := bif Nat.blt i 512 then (match md8 (N8 (N8 (Option Value))) (Nat.div i 64), md8 (N8 (Option Value)) (Nat.mod (Nat.div i 8) 8), wr8 (Option Value) (Nat.mod i 8) with | ⟨p⟩, ⟨q⟩, ⟨r⟩ => ⟨fun T x k => p T (fun U k1 => q U (fun V k2 => r V x k2) k1) k⟩) else ⟨fun _ _ _ => False⟩

theorem getS_eq (i : Nat) (T : FT) : (getS i).fn T = getF T i := by
  unfold getS getF
  cases Nat.blt i 512 <;> simp only [cond_true, cond_false]
  show (rd8 (Option Value) (Nat.mod i 8)).fn ((rd8 (N8 (Option Value)) (Nat.mod (Nat.div i 8) 8)).fn ((rd8 (N8 (N8 (Option Value))) (Nat.div i 64)).fn T)) = _
  simp only [rd8_eq]

/-- What a way of continuations comes to. -/
def kO {α : Type} (o : Option α) (k : α → Prop) : Prop := Option.rec (motive := fun _ => Prop) False k o

def k2 {α β : Type} (o : Option (α × β)) (k : α → β → Prop) : Prop := Option.rec (motive := fun _ => Prop) False (fun p => Prod.rec (motive := fun _ => Prop) k p) o

theorem setS_eq (i : Nat) (T : FT) (x : Option Value) (k : FT → Prop) : (setS i).fn T x k = kO (bif Nat.blt i 512 then some (setF T x i) else none) k := by
  unfold setS setF
  cases Nat.blt i 512 <;> simp only [cond_true, cond_false]
  · rfl
  · show ((md8 (N8 (N8 (Option Value))) (Nat.div i 64)).fn T (fun U k1 => (md8 (N8 (Option Value)) (Nat.mod (Nat.div i 8) 8)).fn U (fun V k2 => (wr8 (Option Value) (Nat.mod i 8)).fn V x k2) k1) k) = _
    rw [md8_eq _ _ _ _ (fun k => md8_eq _ _ _ _ (fun k => wr8_eq _ _ _ _) _)]
    rfl

/-- Slots and table hold the same. -/
def Sim (T : FT) (M : Tm) : Prop := ∀ i, getF T i = tget M i

theorem Sim.put {T : FT} {M : Tm} (h : Sim T M) {i : Nat} (hi : i < 512) (x : Option Value) : Sim (setF T x i) (tset M i x) := by
  intro j
  rw [getF_setF _ _ _ _ hi, tget_tset, h j]

def none8 (α : Type) (x : α) : N8 α := ⟨x, x, x, x, x, x, x, x⟩

def zeroF : FT := none8 _ (none8 _ (none8 _ none))

theorem get8_none {α : Type} (x : α) (i : Nat) : get8 (none8 α x) i = x := by
  rcases i with _ | _ | _ | _ | _ | _ | _ | i <;> rfl

theorem zero_sim : Sim zeroF .nil := by
  intro i
  unfold getF zeroF
  cases Nat.blt i 512 <;> simp only [cond_true, cond_false, get8_none, tget_nil]

/- Trees by continuations. -/

def getC {α : Type} (t : BT (Option α)) : Nat → (Option α → Prop) → Prop :=
  BT.rec (motive := fun _ => Nat → (Option α → Prop) → Prop) (fun _ k => k none)
    (fun _ _ a _ _ gl gr n k => Nat.rec (motive := fun _ => Prop) (k a) (fun m _ => Bool.rec (motive := fun _ => Prop) (gr (Nat.div m 2) k) (gl (Nat.div m 2) k) (Nat.beq (Nat.mod m 2) 0)) n) t

def setC {α : Type} (x : Option α) (t : BT (Option α)) : Nat → (BT (Option α) → Prop) → Prop :=
  BT.rec (motive := fun _ => Nat → (BT (Option α) → Prop) → Prop) (fun n k => k (tset .nil n x))
    (fun _ _ a l r gl gr n k => Nat.rec (motive := fun _ => Prop) (k (.node 0 0 x l r)) (fun m _ => Bool.rec (motive := fun _ => Prop) (gr (Nat.div m 2) fun r' => k (.node 0 0 a l r')) (gl (Nat.div m 2) fun l' => k (.node 0 0 a l' r)) (Nat.beq (Nat.mod m 2) 0)) n) t

theorem getC_eq {α : Type} (t : BT (Option α)) : ∀ (n : Nat) (k : Option α → Prop), getC t n k = k (tget t n) := by
  induction t with
  | nil => intro n k; rfl
  | node b o a l r ihl ihr =>
    intro n k
    cases n with
    | zero => rfl
    | succ m =>
      show Bool.rec (motive := fun _ => Prop) (getC r (Nat.div m 2) k) (getC l (Nat.div m 2) k) (Nat.beq (Nat.mod m 2) 0) = k (bif Nat.beq (Nat.mod m 2) 0 then tget l (Nat.div m 2) else tget r (Nat.div m 2))
      rw [ihl, ihr]
      cases Nat.beq (Nat.mod m 2) 0 <;> rfl

theorem tput_fuel {α : Type} : ∀ (f g : Nat) (t : BT (Option α)) (n : Nat) (x : Option α), n + 1 < 2 ^ f → n + 1 < 2 ^ g → tput f t n x = tput g t n x
  | 0, _, _, _, _, h, _ => by simp at h
  | _ + 1, 0, _, _, _, _, h => by simp at h
  | f + 1, g + 1, .nil, 0, x, _, _ => rfl
  | f + 1, g + 1, .node _ _ a l r, 0, x, _, _ => rfl
  | f + 1, g + 1, .nil, m + 1, x, h1, h2 => by
    have e1 : Nat.div m 2 + 1 < 2 ^ f := by show m / 2 + 1 < 2 ^ f; rw [Nat.pow_succ] at h1; omega
    have e2 : Nat.div m 2 + 1 < 2 ^ g := by show m / 2 + 1 < 2 ^ g; rw [Nat.pow_succ] at h2; omega
    simp only [tput]
    rw [tput_fuel f g _ _ _ e1 e2]
  | f + 1, g + 1, .node _ _ a l r, m + 1, x, h1, h2 => by
    have e1 : Nat.div m 2 + 1 < 2 ^ f := by show m / 2 + 1 < 2 ^ f; rw [Nat.pow_succ] at h1; omega
    have e2 : Nat.div m 2 + 1 < 2 ^ g := by show m / 2 + 1 < 2 ^ g; rw [Nat.pow_succ] at h2; omega
    simp only [tput]
    rw [tput_fuel f g l _ _ e1 e2, tput_fuel f g r _ _ e1 e2]

theorem log_ok (n : Nat) : n + 1 < 2 ^ (Nat.log2 n + 2) := by
  have h1 : n < 2 ^ (Nat.log2 n + 1) := Nat.lt_log2_self
  rw [Nat.pow_succ]
  omega

theorem setC_eq {α : Type} (x : Option α) (t : BT (Option α)) : ∀ (n : Nat) (k : BT (Option α) → Prop), setC x t n k = k (tset t n x) := by
  induction t with
  | nil => intro n k; rfl
  | node b o a l r ihl ihr =>
    intro n k
    cases n with
    | zero => rfl
    | succ m =>
      show Bool.rec (motive := fun _ => Prop) (setC x r (Nat.div m 2) fun r' => k (.node 0 0 a l r')) (setC x l (Nat.div m 2) fun l' => k (.node 0 0 a l' r)) (Nat.beq (Nat.mod m 2) 0) = k (tput (Nat.log2 (m + 1) + 1 + 1) (.node b o a l r) (m + 1) x)
      rw [ihl, ihr]
      have e1 : Nat.div m 2 + 1 < 2 ^ (Nat.log2 (m + 1) + 1) := by
        have := log_ok (m + 1)
        rw [Nat.pow_succ] at this
        show m / 2 + 1 < _
        omega
      simp only [tput, tset]
      rw [tput_fuel _ _ l _ _ (log_ok _) e1, tput_fuel _ _ r _ _ (log_ok _) e1]
      cases Nat.beq (Nat.mod m 2) 0 <;> rfl

def rdC (e : BT (Option Value)) (n : Nat) : Nat → (List Value → Prop) → Prop :=
  Nat.rec (motive := fun _ => Nat → (List Value → Prop) → Prop) (fun _ k => k []) (fun _ ih i k => getC e i fun v => kO v fun v => ih (Nat.succ i) fun l => k (v :: l)) n

theorem rdC_eq (e : BT (Option Value)) : ∀ (n i : Nat) (k : List Value → Prop), rdC e n i k = kO (rd e i n) k
  | 0, i, k => rfl
  | n + 1, i, k => by
    show (getC e i fun v => kO v fun v => rdC e n (i + 1) fun l => k (v :: l)) = _
    rw [getC_eq]
    simp only [rd]
    cases tget e i with
    | none => rfl
    | some v =>
      show (rdC e n (i + 1) fun l => k (v :: l)) = _
      rw [rdC_eq e n]
      cases rd e (i + 1) n <;> rfl

def wrC (l : List Value) : BT (Option Value) → Nat → (BT (Option Value) → Prop) → Prop :=
  List.rec (motive := fun _ => BT (Option Value) → Nat → (BT (Option Value) → Prop) → Prop) (fun e _ k => k e) (fun v _ ih e i k => setC (some v) e i fun e' => ih e' (Nat.succ i) k) l

theorem wrC_eq : ∀ (l : List Value) (e : BT (Option Value)) (i : Nat) (k : BT (Option Value) → Prop), wrC l e i k = k (wr e i l)
  | [], e, i, k => rfl
  | v :: l, e, i, k => by
    show (setC (some v) e i fun e' => wrC l e' (i + 1) k) = _
    rw [setC_eq, wrC_eq l]
    rfl

end Go.Ev
