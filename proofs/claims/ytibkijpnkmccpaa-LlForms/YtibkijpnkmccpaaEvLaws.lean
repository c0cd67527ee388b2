/- Laws of the tables and rows that the evaluator keeps. -/
import Derived.Test.YtibkijpnkmccpaaEvDefs
namespace Go.Ev
open Go.Deep

theorem tget_nil {α : Type} (n : Nat) : tget (.nil : BT (Option α)) n = none := rfl

theorem tget_tput_same {α : Type} : ∀ (f : Nat) (t : BT (Option α)) (n : Nat) (x : Option α), n + 1 < 2 ^ f → tget (tput f t n x) n = x
  | 0, t, n, x, h => by simp at h
  | f + 1, .nil, n, x, h => by
    cases n with
    | zero => rfl
    | succ m =>
      have hm : Nat.div m 2 + 1 < 2 ^ f := by show m / 2 + 1 < 2 ^ f; rw [Nat.pow_succ] at h; omega
      simp only [tput]
      cases hb : Nat.beq (Nat.mod m 2) 0
      · simp only [cond_false, tget, hb]; exact tget_tput_same f _ _ _ hm
      · simp only [cond_true, tget, hb]; exact tget_tput_same f _ _ _ hm
  | f + 1, .node _ _ a l r, n, x, h => by
    cases n with
    | zero => rfl
    | succ m =>
      have hm : Nat.div m 2 + 1 < 2 ^ f := by show m / 2 + 1 < 2 ^ f; rw [Nat.pow_succ] at h; omega
      simp only [tput]
      cases hb : Nat.beq (Nat.mod m 2) 0
      · simp only [cond_false, tget, hb]; exact tget_tput_same f _ _ _ hm
      · simp only [cond_true, tget, hb]; exact tget_tput_same f _ _ _ hm

theorem tget_tput_ne {α : Type} : ∀ (f : Nat) (t : BT (Option α)) (n k : Nat) (x : Option α), n ≠ k → tget (tput f t n x) k = tget t k
  | 0, t, n, k, x, h => rfl
  | f + 1, .nil, n, k, x, h => by
    cases n with
    | zero => cases k with
      | zero => exact absurd rfl h
      | succ j => simp [tput, tget]
    | succ m =>
      simp only [tput]
      cases hb : Nat.beq (Nat.mod m 2) 0 <;> simp only [cond_true, cond_false]
      all_goals
        cases k with
        | zero => rfl
        | succ j =>
          simp only [tget]
          cases hj : Nat.beq (Nat.mod j 2) 0 <;> simp only [cond_true, cond_false]
          all_goals first
            | rfl
            | (have hne : Nat.div m 2 ≠ Nat.div j 2 := by
                intro e
                have e' : m / 2 = j / 2 := e
                have hb' : Nat.beq (m % 2) 0 = _ := hb
                have hj' : Nat.beq (j % 2) 0 = _ := hj
                have h1 : m % 2 = 0 ∨ m % 2 = 1 := by omega
                have h2 : j % 2 = 0 ∨ j % 2 = 1 := by omega
                rcases h1 with h1 | h1 <;> rcases h2 with h2 | h2 <;> simp [h1, h2] at hb' hj'
                all_goals omega
               rw [tget_tput_ne f _ _ _ _ hne]; rfl)
  | f + 1, .node _ _ a l r, n, k, x, h => by
    cases n with
    | zero => cases k with
      | zero => exact absurd rfl h
      | succ j => simp [tput, tget]
    | succ m =>
      simp only [tput]
      cases hb : Nat.beq (Nat.mod m 2) 0 <;> simp only [cond_true, cond_false]
      all_goals
        cases k with
        | zero => rfl
        | succ j =>
          simp only [tget]
          cases hj : Nat.beq (Nat.mod j 2) 0 <;> simp only [cond_true, cond_false]
          all_goals first
            | rfl
            | (have hne : Nat.div m 2 ≠ Nat.div j 2 := by
                intro e
                have e' : m / 2 = j / 2 := e
                have hb' : Nat.beq (m % 2) 0 = _ := hb
                have hj' : Nat.beq (j % 2) 0 = _ := hj
                have h1 : m % 2 = 0 ∨ m % 2 = 1 := by omega
                have h2 : j % 2 = 0 ∨ j % 2 = 1 := by omega
                rcases h1 with h1 | h1 <;> rcases h2 with h2 | h2 <;> simp [h1, h2] at hb' hj'
                all_goals omega
               rw [tget_tput_ne f _ _ _ _ hne])

theorem tget_tset_same {α : Type} (t : BT (Option α)) (n : Nat) (x : Option α) : tget (tset t n x) n = x := by
  unfold tset
  apply tget_tput_same
  have h : n < 2 ^ (Nat.log2 n + 1) := Nat.lt_log2_self
  rw [Nat.pow_succ]
  have : 0 < 2 ^ (Nat.log2 n + 1) := Nat.pow_pos (by omega)
  have h2 : 2 ^ (n.log2 + 1) = 2 ^ n.log2 * 2 := Nat.pow_succ _ _
  have h3 : 0 < 2 ^ n.log2 := Nat.pow_pos (by omega)
  omega

theorem tget_tset_ne {α : Type} (t : BT (Option α)) (n k : Nat) (x : Option α) (h : n ≠ k) : tget (tset t n x) k = tget t k := tget_tput_ne _ _ _ _ _ h

theorem tget_tset {α : Type} (t : BT (Option α)) (n k : Nat) (x : Option α) : tget (tset t n x) k = if n = k then x else tget t k := by
  by_cases h : n = k
  · subst h; rw [tget_tset_same, if_pos rfl]
  · rw [tget_tset_ne _ _ _ _ h, if_neg h]

theorem rd_len {e : BT (Option Value)} : ∀ {n i : Nat} {l : List Value}, rd e i n = some l → l.length = n
  | 0, i, l, h => by simp [rd] at h; subst h; rfl
  | n + 1, i, l, h => by
    simp only [rd] at h
    split at h
    · cases h
    · split at h
      · cases h
      · rename_i r hr
        cases h
        simp [rd_len hr]

theorem rd_get {e : BT (Option Value)} : ∀ {n i : Nat} {l : List Value}, rd e i n = some l → ∀ (j : Nat) (v : Value), l[j]? = some v → tget e (i + j) = some v
  | 0, i, l, h, j, v, hv => by simp [rd] at h; subst h; simp at hv
  | n + 1, i, l, h, j, v, hv => by
    simp only [rd] at h
    split at h
    · cases h
    · rename_i u hu
      split at h
      · cases h
      · rename_i r hr
        cases h
        cases j with
        | zero => simp at hv; subst hv; simpa using hu
        | succ j =>
          simp at hv
          have := rd_get hr j v hv
          rwa [show i + (j + 1) = i + 1 + j by omega]

theorem tget_wr : ∀ (vs : List Value) (e : BT (Option Value)) (i k : Nat), tget (wr e i vs) k = if i ≤ k ∧ k < i + vs.length then vs[k - i]? else tget e k
  | [], e, i, k => by simp only [wr]; rw [if_neg (by simp)]
  | v :: l, e, i, k => by
    simp only [wr, tget_wr l, tget_tset, List.length_cons]
    by_cases h1 : i + 1 ≤ k ∧ k < i + 1 + l.length
    · rw [if_pos h1, if_pos (by omega)]
      have : k - i = (k - (i + 1)) + 1 := by omega
      rw [this, List.getElem?_cons_succ]
    · rw [if_neg h1]
      by_cases h2 : i = k
      · subst h2; rw [if_pos rfl, if_pos (by omega)]; simp
      · rw [if_neg h2, if_neg (by omega)]

theorem tget_wr_nil (vs : List Value) (k : Nat) : tget (wr .nil 0 vs) k = vs[k]? := by
  rw [tget_wr]
  by_cases h : k < vs.length
  · rw [if_pos (by omega)]; simp
  · rw [if_neg (by omega), tget_nil, List.getElem?_eq_none (by omega)]

theorem ob_some {α β : Type} {x : Option α} {f : α → Option β} {b : β} (h : ob x f = some b) : ∃ a, x = some a ∧ f a = some b := by
  cases x with
  | none => cases h
  | some a => exact ⟨a, rfl, h⟩

def all2 {α β : Type} (p : α → β → Prop) : List α → List β → Prop
  | [], [] => True
  | a :: l, b :: m => p a b ∧ all2 p l m
  | _, _ => False

theorem all2_mono {α β : Type} {p q : α → β → Prop} (h : ∀ a b, p a b → q a b) : ∀ {l : List α} {m : List β}, all2 p l m → all2 q l m
  | [], [], _ => trivial
  | _ :: _, _ :: _, hh => ⟨h _ _ hh.1, all2_mono h hh.2⟩
  | [], _ :: _, hh => hh.elim
  | _ :: _, [], hh => hh.elim

theorem all2_len {α β : Type} {p : α → β → Prop} : ∀ {l : List α} {m : List β}, all2 p l m → l.length = m.length
  | [], [], _ => rfl
  | _ :: _, _ :: _, hh => by simp [all2_len hh.2]
  | [], _ :: _, hh => hh.elim
  | _ :: _, [], hh => hh.elim

theorem all2_get {α β : Type} {p : α → β → Prop} : ∀ {l : List α} {m : List β}, all2 p l m → ∀ (i : Nat) (a : α), l[i]? = some a → ∃ b, m[i]? = some b ∧ p a b
  | [], [], _, i, a, h => by simp at h
  | a :: l, b :: m, hh, i, x, h => by
    cases i with
    | zero => simp at h; subst h; exact ⟨b, by simp, hh.1⟩
    | succ i => simp at h; obtain ⟨c, hc, hp⟩ := all2_get hh.2 i x h; exact ⟨c, by simpa using hc, hp⟩
  | [], _ :: _, hh, _, _, _ => hh.elim
  | _ :: _, [], hh, _, _, _ => hh.elim

theorem all2_append {α β : Type} {p : α → β → Prop} : ∀ {l : List α} {m : List β} {l' : List α} {m' : List β}, all2 p l m → all2 p l' m' → all2 p (l ++ l') (m ++ m')
  | [], [], _, _, _, h => h
  | _ :: _, _ :: _, _, _, hh, h => ⟨hh.1, all2_append hh.2 h⟩
  | [], _ :: _, _, _, hh, _ => hh.elim
  | _ :: _, [], _, _, hh, _ => hh.elim

theorem all2_of_get {α β : Type} {p : α → β → Prop} : ∀ {l : List α} {m : List β}, l.length = m.length → (∀ (i : Nat) (a : α) (b : β), l[i]? = some a → m[i]? = some b → p a b) → all2 p l m
  | [], [], _, _ => trivial
  | a :: l, b :: m, hl, h => ⟨h 0 a b (by simp) (by simp), all2_of_get (by simpa using hl) fun i x y hx hy => h (i + 1) x y (by simpa using hx) (by simpa using hy)⟩
  | [], _ :: _, hl, _ => by simp at hl
  | _ :: _, [], hl, _ => by simp at hl

theorem all2_drop {α β : Type} {p : α → β → Prop} : ∀ (n : Nat) {l : List α} {m : List β}, all2 p l m → all2 p (l.drop n) (m.drop n)
  | 0, _, _, h => by simpa using h
  | n + 1, [], [], _ => trivial
  | n + 1, _ :: _, _ :: _, h => by simpa using all2_drop n h.2
  | n + 1, [], _ :: _, h => h.elim
  | n + 1, _ :: _, [], h => h.elim

theorem all2_take {α β : Type} {p : α → β → Prop} : ∀ (n : Nat) {l : List α} {m : List β}, all2 p l m → all2 p (l.take n) (m.take n)
  | 0, _, _, _ => by simp [all2]
  | n + 1, [], [], _ => trivial
  | n + 1, _ :: _, _ :: _, h => ⟨h.1, all2_take n h.2⟩
  | n + 1, [], _ :: _, h => h.elim
  | n + 1, _ :: _, [], h => h.elim

end Go.Ev
