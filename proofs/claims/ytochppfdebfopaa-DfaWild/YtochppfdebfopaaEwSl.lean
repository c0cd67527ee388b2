import Derived.Test.YtochppfdebfopaaEwLib
import Derived.IntWalk
/- Slices in what is known of memory: read, cut, grown. -/
set_option linter.unusedVariables false
set_option linter.unusedSimpArgs false
namespace Go.Ew
open Go.Ev Go.Deep

/-- More is known. -/
def Le (H H' : KH) : Prop := ∀ k e, H k = some e → H' k = some e

theorem Le.refl (H : KH) : Le H H := fun _ _ q => q

theorem Le.trans {H H' H'' : KH} (a : Le H H') (b : Le H' H'') : Le H H'' := fun k e q => b k e (a k e q)

theorem Le.new {H : KH} {n : Nat} {e : Ent} (h : H n = none) : Le H (H.new n e) := fun k e' q => by
  simp only [KH.new]
  rw [if_neg (fun e1 => by subst e1; rw [h] at q; cases q)]
  exact q

theorem Le.ld {H H' : KH} (h : Le H H') {a : Addr} {vs : List Value} (q : ld H a vs) : ld H' a vs := by
  obtain ⟨h1, e, h2, h3⟩ := q
  exact ⟨h1, e, h _ _ h2, h3⟩

theorem Le.none {H H' : KH} (h : Le H H') {n : Nat} (q : H' n = none) : H n = none := by
  cases hk : H n with
  | none => rfl
  | some e => rw [h _ _ hk] at q; cases q

theorem del_le (H : KH) (n : Nat) : Le (H.del n) H := fun k e q => by
  simp only [KH.del] at q
  split at q
  · cases q
  · exact q

theorem Le.load {H H' : KH} (h : Le H H') {a : Addr} {n : Nat} {cs : List Value} (q : H.load a n = some cs) : H'.load a n = some cs := by
  unfold KH.load at q ⊢
  split at q
  · rename_i e h1 h2
    simp only [h1, h _ _ h2]
    exact q
  · cases q

theorem Le.kold {H H' : KH} (h : Le H H') {sz n : Nat} {a : Option Addr} {cs : List Value} (q : kold H sz a n = some cs) : kold H' sz a n = some cs := by
  unfold Ew.kold at q ⊢
  cases a with
  | none => exact q
  | some a =>
    simp only at q ⊢
    cases hs : a.spot with
    | none => simp only [hs] at q ⊢; exact h.load q
    | some s => simp only [hs] at q ⊢; exact q

theorem Le.kcap {H H' : KH} (h : Le H H') {a : Addr} {cap sz c : Nat} (q : kcap H a cap sz = some c) : kcap H' a cap sz = some c := by
  unfold Ew.kcap at q ⊢
  cases hb : Nat.blt cap unkU <;> simp only [hb, cond_true, cond_false] at q ⊢
  · split at q
    · cases q
    · rename_i e he
      simp only [h _ _ he]
      exact q
  · exact q

/- Rows. -/

theorem rd_append {e : BT (Option Value)} : ∀ (m n i : Nat) (xs ys : List Value), rd e i m = some xs → rd e (i + m) n = some ys → rd e i (m + n) = some (xs ++ ys)
  | 0, n, i, xs, ys, h1, h2 => by
    cases h1
    simpa using h2
  | m + 1, n, i, xs, ys, h1, h2 => by
    have hl := rd_len h1
    cases xs with
    | nil => simp at hl
    | cons x xs =>
      have hx := rd_get h1 0 x (by simp)
      have hxs : rd e (i + 1) m = some xs := rd_some (by simpa using hl) fun j v hv => by
        have := rd_get h1 (j + 1) v (by simpa using hv)
        rw [← this]; congr 1; omega
      have ih := rd_append m n (i + 1) xs ys hxs (by have e1 : i + 1 + m = i + (m + 1) := by omega
                                                     rw [e1]; exact h2)
      have e2 : m + 1 + n = (m + n) + 1 := by omega
      rw [e2]
      simp only [rd, List.cons_append]
      simp only [Nat.add_zero] at hx
      rw [hx, ih]

theorem rd_take {e : BT (Option Value)} {n i : Nat} {cs : List Value} (h : rd e i n = some cs) {m : Nat} (hm : m ≤ n) : rd e i m = some (cs.take m) := by
  have hl := rd_len h
  refine rd_some (by simp; omega) fun j v hv => ?_
  have hj : j < m := by
    rcases Nat.lt_or_ge j m with q | q
    · exact q
    · rw [List.getElem?_eq_none (by simp; omega)] at hv; cases hv
  rw [List.getElem?_take_of_lt hj] at hv
  exact rd_get h j v hv

theorem rd_drop {e : BT (Option Value)} {n i : Nat} {cs : List Value} (h : rd e i n = some cs) {m : Nat} (hm : m ≤ n) : rd e (i + m) (n - m) = some (cs.drop m) := by
  have hl := rd_len h
  refine rd_some (by simp; omega) fun j v hv => ?_
  rw [List.getElem?_drop] at hv
  have := rd_get h (m + j) v hv
  rw [← this]; congr 1; omega

theorem kold_some {H : KH} {sz n : Nat} {b o : Nat} {cs : List Value} : kold H sz (some ⟨b, o, none⟩) n = some cs ↔ ∃ e, H b = some e ∧ rd e.cells o (n * sz) = some cs := by
  unfold kold KH.load
  simp only
  constructor
  · intro h
    cases hb : H b with
    | none => rw [hb] at h; cases h
    | some e => rw [hb] at h; exact ⟨e, rfl, h⟩
  · rintro ⟨e, h1, h2⟩
    rw [h1]
    exact h2

theorem kold_len {H : KH} {sz n : Nat} {a : Option Addr} {cs : List Value} (h : kold H sz a n = some cs) : cs.length = n * sz := by
  unfold kold at h
  cases a with
  | none =>
    simp only at h
    cases hn : Nat.beq n 0 <;> simp [hn] at h
    subst h
    simp [Nat.eq_of_beq_eq_true hn]
  | some a =>
    simp only at h
    cases hs : a.spot with
    | none =>
      simp only [hs] at h
      unfold KH.load at h
      split at h
      · exact rd_len h
      · cases h
    | some s =>
      simp only [hs] at h
      cases hn : Nat.beq n 0 <;> simp [hn] at h
      subst h
      simp [Nat.eq_of_beq_eq_true hn]

/-- It can be cut. -/
def SlOk (H : KH) (sz : Nat) (a : Option Addr) (n c : Nat) : Prop := match a with
  | none => n = 0
  | some b => (b.spot = none ∧ ∃ cl, kcap H b c sz = some cl ∧ n ≤ cl) ∨ (b.spot ≠ none ∧ n = 0)

theorem SlOk.mono {H H' : KH} (h : Le H H') {sz n c : Nat} {a : Option Addr} (q : SlOk H sz a n c) : SlOk H' sz a n c := by
  cases a with
  | none => exact q
  | some b =>
    rcases q with ⟨h1, cl, h2, h3⟩ | q
    · exact .inl ⟨h1, cl, h.kcap h2, h3⟩
    · exact .inr q

/-- The first so many. -/
theorem cut_lo {H : KH} {sz n c k : Nat} {a : Option Addr} {cs : List Value} (ho : SlOk H sz a n c) (hc : kold H sz a n = some cs) (hk : k ≤ n) :
    ∃ a' c', kslice H sz a n c none (some (.int .i64 (k : Int))) = some (.slice a' k c') ∧ kold H sz a' k = some (cs.take (k * sz)) := by
  have hn : natOf n (some (.int .i64 (k : Int))) = some k := by simp [natOf]
  cases a with
  | none =>
    have hn0 : n = 0 := ho
    subst hn0
    have hk0 : k = 0 := by omega
    subst hk0
    refine ⟨none, c, ?_, ?_⟩
    · rfl
    · simp [kold]
  | some b =>
    rcases ho with ⟨hs, cl, hcl, hle⟩ | ⟨hs, hn0⟩
    case inr =>
      subst hn0
      have hk0 : k = 0 := by omega
      subst hk0
      obtain ⟨bb, bo, sp⟩ := b
      cases sp with
      | none => exact absurd rfl hs
      | some sp => exact ⟨some ⟨bb, bo, some sp⟩, c, rfl, by simp [kold]⟩
    obtain ⟨bb, bo, sp⟩ := b
    cases hs
    obtain ⟨e, he, hrd⟩ := kold_some.1 hc
    have hb : (Nat.ble 0 k && Nat.ble k cl && Nat.ble n cl && (⟨bb, bo, none⟩ : Addr).spot.isNone) = true := by
      simp only [Bool.and_eq_true]
      exact ⟨⟨⟨Nat.ble_eq_true_of_le (Nat.zero_le _), Nat.ble_eq_true_of_le (by omega)⟩, Nat.ble_eq_true_of_le hle⟩, rfl⟩
    have hrd' : rd e.cells bo (k * sz) = some (cs.take (k * sz)) := rd_take hrd (Nat.mul_le_mul_right _ hk)
    have hfin : kold H sz (some ⟨bb, bo, none⟩) k = some (cs.take (k * sz)) := kold_some.2 ⟨e, he, hrd'⟩
    unfold kslice
    have hz0 : natOf 0 none = some 0 := rfl
    simp only [hn, hz0, hcl, hb, cond_true, Nat.zero_mul, Nat.add_zero, Nat.sub_zero]
    cases hlt : Nat.blt c unkU <;> simp only [cond_true, cond_false]
    · cases h0 : Nat.blt 0 cl <;> simp only [cond_true, cond_false]
      · have hz : Nat.beq 0 0 = true := rfl
        simp only [hz, cond_true]
        exact ⟨_, _, rfl, hfin⟩
      · exact ⟨_, _, rfl, hfin⟩
    · cases h0 : Nat.beq c 0 <;> simp only [cond_true, cond_false]
      · exact ⟨_, _, rfl, hfin⟩
      · exact ⟨_, _, rfl, hfin⟩

/-- The others. -/
theorem cut_hi {H : KH} {sz n c k : Nat} {a : Option Addr} {cs : List Value} (ho : SlOk H sz a n c) (hc : kold H sz a n = some cs) (hk : k ≤ n) :
    ∃ a' c', kslice H sz a n c (some (.int .i64 (k : Int))) none = some (.slice a' (n - k) c') ∧ kold H sz a' (n - k) = some (cs.drop (k * sz)) := by
  have hn : natOf 0 (some (.int .i64 (k : Int))) = some k := by simp [natOf]
  have hcl' := kold_len hc
  cases a with
  | none =>
    have hn0 : n = 0 := ho
    subst hn0
    have hk0 : k = 0 := by omega
    subst hk0
    refine ⟨none, c, ?_, ?_⟩
    · rfl
    · simp at hcl'
      simp [kold, hcl']
  | some b =>
    rcases ho with ⟨hs, cl, hcl, hle⟩ | ⟨hs, hn0⟩
    case inr =>
      subst hn0
      have hk0 : k = 0 := by omega
      subst hk0
      obtain ⟨bb, bo, sp⟩ := b
      cases sp with
      | none => exact absurd rfl hs
      | some sp =>
        refine ⟨some ⟨bb, bo, some sp⟩, c, rfl, ?_⟩
        simp at hcl'
        simp [kold, hcl']
    obtain ⟨bb, bo, sp⟩ := b
    cases hs
    obtain ⟨e, he, hrd⟩ := kold_some.1 hc
    have hb : (Nat.ble k n && Nat.ble n cl && Nat.ble n cl && (⟨bb, bo, none⟩ : Addr).spot.isNone) = true := by
      simp only [Bool.and_eq_true]
      exact ⟨⟨⟨Nat.ble_eq_true_of_le hk, Nat.ble_eq_true_of_le hle⟩, Nat.ble_eq_true_of_le hle⟩, rfl⟩
    have hrd' : rd e.cells (bo + k * sz) ((n - k) * sz) = some (cs.drop (k * sz)) := by
      rw [Nat.sub_mul]
      exact rd_drop hrd (Nat.mul_le_mul_right _ hk)
    have hfin : kold H sz (some ⟨bb, bo + k * sz, none⟩) (n - k) = some (cs.drop (k * sz)) := kold_some.2 ⟨e, he, hrd'⟩
    have hend : n = k → cs.drop (k * sz) = [] := fun e1 => List.drop_eq_nil_of_le (by rw [hcl', e1]; exact Nat.le_refl _)
    unfold kslice
    have hz0 : natOf n none = some n := rfl
    simp only [hn, hz0, hcl, hb, cond_true]
    cases hlt : Nat.blt c unkU <;> simp only [cond_true, cond_false]
    · cases h0 : Nat.blt k cl <;> simp only [cond_true, cond_false]
      · have hge : ¬ k < cl := fun q => by rw [show Nat.blt k cl = true from Nat.ble_eq_true_of_le q] at h0; cases h0
        have hnk : n = k := by omega
        cases h1 : Nat.beq k 0 <;> simp only [cond_true, cond_false]
        · refine ⟨some ⟨0, 0, some 0⟩, unkU, by rw [hnk, Nat.sub_self]; rfl, ?_⟩
          rw [hend hnk, hnk, Nat.sub_self]
          rfl
        · have hk0 : k = 0 := Nat.eq_of_beq_eq_true h1
          subst hk0
          simp only [Nat.zero_mul, Nat.add_zero, Nat.sub_zero] at hfin ⊢
          exact ⟨_, _, rfl, hfin⟩
      · exact ⟨_, _, rfl, hfin⟩
    · cases h0 : Nat.beq c k <;> simp only [cond_true, cond_false]
      · exact ⟨_, _, rfl, hfin⟩
      · refine ⟨_, _, rfl, ?_⟩
        have hck : c = k := Nat.eq_of_beq_eq_true h0
        have hcc : cl = c := by
          unfold kcap at hcl
          rw [hlt] at hcl
          exact (Option.some.inj hcl).symm
        have hnk : n = k := by omega
        rw [hend hnk, hnk, Nat.sub_self]
        exact kold_some.2 ⟨e, he, by simp [rd]⟩

/-- A slice of one's own, of which nobody else knows. -/
inductive Own (H0 H : KH) (sz : Nat) : Option Addr → Nat → Nat → List Value → Prop where
  | nil : Own H0 H sz none 0 0 []
  | lit (b n : Nat) (cs : List Value) (h1 : H b = some (mkEnt cs 0)) (h2 : cs.length = n * sz) (h3 : n < unkU) (h4 : H0 b = none) : Own H0 H sz (some ⟨b, 0, none⟩) n n cs
  | grown (b n : Nat) (cs : List Value) (e : Ent) (h1 : H b = some e) (h2 : e.unk = sz) (h3 : e.len = n * sz) (h4 : rd e.cells 0 (n * sz) = some cs) (h5 : H0 b = none) (h6 : wrB e = true) : Own H0 H sz (some ⟨b, 0, none⟩) n unkU cs

theorem Own.cells {H0 H : KH} {sz n c : Nat} {a : Option Addr} {cs : List Value} (h : Own H0 H sz a n c cs) : kold H sz a n = some cs := by
  cases h with
  | nil => rfl
  | lit b _ _ h1 h2 =>
    refine kold_some.2 ⟨_, h1, ?_⟩
    rw [← h2]
    exact rd_some rfl fun j v hv => by rw [Nat.zero_add]; simp only [mkEnt, tget_wr_nil]; exact hv
  | grown b _ _ e h1 h2 h3 h4 => exact kold_some.2 ⟨e, h1, h4⟩

theorem Own.ok {H0 H : KH} {sz n c : Nat} {a : Option Addr} {cs : List Value} (h : Own H0 H sz a n c cs) (hsz : 1 ≤ sz) : SlOk H sz a n c := by
  cases h with
  | nil => rfl
  | lit b _ _ h1 h2 h3 =>
    refine .inl ⟨rfl, n, ?_, Nat.le_refl _⟩
    unfold kcap
    rw [show Nat.blt n unkU = true from Nat.ble_eq_true_of_le h3]
    rfl
  | grown b _ _ e h1 h2 h3 h4 =>
    refine .inl ⟨rfl, n, ?_, Nat.le_refl _⟩
    unfold kcap
    have hb : Nat.blt unkU unkU = false := rfl
    simp only [hb, cond_false, h1, h2, Nat.sub_self, Nat.zero_mul, h3]
    have hc : (Nat.beq sz sz && Nat.beq 0 0 && Nat.ble 1 sz && Nat.ble 0 (n * sz)) = true := by
      simp only [Bool.and_eq_true]
      exact ⟨⟨⟨by simp, rfl⟩, Nat.ble_eq_true_of_le hsz⟩, Nat.ble_eq_true_of_le (Nat.zero_le _)⟩
    rw [hc]
    simp only [cond_true, Nat.sub_zero, Nat.mul_div_cancel _ hsz]

/-- Where it lies. -/
def blk : Option Addr → Option Nat
  | none => none
  | some a => some a.block

/-- It grows. -/
theorem Own.append {H0 H : KH} {ti : TI} {n c m nm : Nat} {a : Option Addr} {cs new : List Value} (h : Own H0 H ti.size a n c cs) (hle : Le H0 H) (hnm : H nm = none) (hm : new.length = m * ti.size) (hs : n + m ≤ 1000000) (hb : ti.bytes ≤ 1000000) (hz : 1 ≤ ti.size) (hro : ti.size ≤ 1000000 := by decide) :
    ∃ a' c' H', kappend H nm ti a n c m new = some (.slice a' (n + m) c', H') ∧ Own H0 H' ti.size a' (n + m) c' (cs ++ new) ∧ Le H0 H' ∧ (∀ k e, H k = some e → blk a ≠ some k → H' k = some e) ∧ (∀ k, H k = none → k ≠ nm → H' k = none) := by
  have hh : (Nat.ble (n + m) 1000000 && Nat.ble ti.bytes 1000000 && Nat.ble 1 ti.size) = true := by
    simp only [Bool.and_eq_true]
    exact ⟨⟨Nat.ble_eq_true_of_le hs, Nat.ble_eq_true_of_le hb⟩, Nat.ble_eq_true_of_le hz⟩
  have h0n : H0 nm = none := hle.none hnm
  have hput : ∀ (k : Addr) (e : Ent), H k.block = some e → e.ob = none → H.put k [] = H := fun k e q1 q2 => by
    funext j
    simp only [KH.put, wr]
    split
    · rename_i ej
      subst ej
      rw [q1]
      cases e
      simp only at q2
      subst q2
      rfl
    · rfl
  have hwn : ∀ cs, wrB (mkEnt cs ti.size) = true := fun cs => by
    unfold wrB mkEnt noOb
    have : Nat.beq ti.size roU = false := by
      cases hb : Nat.beq ti.size roU with
      | false => rfl
      | true => have := Nat.eq_of_beq_eq_true hb; unfold roU at this; omega
    simp [this]
  have hcl := kold_len h.cells
  have mk : ∀ H1 : KH, Own H0 (H1.new nm (mkEnt (cs ++ new) ti.size)) ti.size (some ⟨nm, 0, none⟩) (n + m) unkU (cs ++ new) := by
    intro H1
    have hlen : (cs ++ new).length = (n + m) * ti.size := by rw [List.length_append, hcl, hm, Nat.add_mul]
    refine .grown nm _ _ (mkEnt (cs ++ new) ti.size) (by simp [KH.new]) rfl hlen ?_ h0n (hwn _)
    rw [← hlen]
    exact rd_some rfl fun j v hv => by rw [Nat.zero_add]; simp only [mkEnt, tget_wr_nil]; exact hv
  have frame : ∀ k e, H k = some e → (H.new nm (mkEnt (cs ++ new) ti.size)) k = some e := fun k e q => Le.new hnm k e q
  have hnew0 : m = 0 → new = [] := fun e => List.eq_nil_of_length_eq_zero (by rw [hm, e, Nat.zero_mul])
  have hlt0 : ∀ p q : Nat, ¬ p ≤ q → Nat.ble p q = false := fun p q hh => by
    cases hb : Nat.ble p q with
    | false => rfl
    | true => exact absurd (Nat.le_of_ble_eq_true hb) hh
  cases h with
  | nil =>
    have hb0 : Nat.blt 0 unkU = true := rfl
    unfold kappend
    simp only [hh, cond_true, hb0]
    by_cases hm0 : m = 0
    · subst hm0
      rw [hnew0 rfl]
      exact ⟨none, 0, H, rfl, .nil, hle, fun k e q _ => q, fun k q _ => q⟩
    · rw [hlt0 (0 + m) 0 (by omega)]
      simp only [cond_false]
      exact ⟨_, _, _, rfl, mk H, hle.trans (Le.new hnm), fun k e q _ => frame k e q, fun k q hk => by simp only [KH.new, if_neg hk]; exact q⟩
  | lit b _ _ h1 h2 h3 h4 =>
    have hb0 : Nat.blt n unkU = true := Nat.ble_eq_true_of_le h3
    unfold kappend
    simp only [hh, cond_true, hb0]
    by_cases hm0 : m = 0
    · subst hm0
      rw [hnew0 rfl, show Nat.ble (n + 0) n = true from Nat.ble_eq_true_of_le (by omega)]
      have hst : kstore H ⟨b, 0 + n * ti.size, none⟩ [] = some H := by
        unfold kstore
        have hw0 : wrB (mkEnt cs 0) = true := rfl
        simp only [h1, List.length_nil, rd, hw0, cond_true]
        rw [hput _ _ h1 rfl]
      simp only [cond_true, hst, ob, List.append_nil]
      exact ⟨_, _, _, rfl, .lit b n cs h1 h2 h3 h4, hle, fun k e q _ => q, fun k q _ => q⟩
    · rw [hlt0 (n + m) n (by omega)]
      have hk := (Own.lit (H0 := H0) (H := H) (sz := ti.size) b n cs h1 h2 h3 h4).cells
      simp only [cond_false, hk, ob]
      exact ⟨_, _, _, rfl, mk H, hle.trans (Le.new hnm), fun k e q _ => frame k e q, fun k q hk => by simp only [KH.new, if_neg hk]; exact q⟩
  | grown b _ _ e h1 h2 h3 h4 h5 h6 =>
    have hb0 : Nat.blt unkU unkU = false := rfl
    unfold kappend
    have hq : (Nat.beq e.unk ti.size && Nat.beq 0 ((unkU - unkU) * ti.size) && (none : Option Nat).isNone && wrB e) = true := by
      rw [h2, Nat.sub_self, Nat.zero_mul, h6]
      simp
    simp only [hh, cond_true, hb0, cond_false, h1, hq]
    by_cases hm0 : m = 0
    · subst hm0
      rw [hnew0 rfl, show Nat.ble (0 + (n + 0) * ti.size) e.len = true from Nat.ble_eq_true_of_le (by rw [h3, Nat.add_zero, Nat.zero_add]; exact Nat.le_refl _)]
      have hst : kstore H ⟨b, 0 + n * ti.size, none⟩ [] = some H := by
        unfold kstore
        simp only [h1, List.length_nil, rd, h6, cond_true]
        rw [hput _ _ h1 (wrB_spec h6).2]
      simp only [cond_true, hst, ob, List.append_nil]
      exact ⟨_, _, _, rfl, .grown b n cs e h1 h2 h3 h4 h5 h6, hle, fun k e q _ => q, fun k q _ => q⟩
    · have hgt : ¬ (0 + (n + m) * ti.size ≤ e.len) := by
        rw [h3, Nat.add_mul]
        have : 1 * 1 ≤ m * ti.size := Nat.mul_le_mul (by omega) hz
        omega
      rw [hlt0 _ _ hgt]
      simp only [cond_false, h4, ob]
      have hd : ∀ k e', H k = some e' → some b ≠ some k → ((H.del b).new nm (mkEnt (cs ++ new) ti.size)) k = some e' := by
        intro k e' q hne
        simp only [KH.new, KH.del]
        rw [if_neg (fun e1 => by subst e1; rw [hnm] at q; cases q), if_neg (fun e1 => hne (by rw [e1]))]
        exact q
      refine ⟨_, _, _, rfl, mk (H.del b), fun k e' q => hd k e' (hle k e' q) (fun e1 => ?_), fun k e' q hne => hd k e' q hne, fun k q hk => by
        simp only [KH.new, KH.del, if_neg hk]
        split
        · rfl
        · exact q⟩
      cases e1
      rw [h5] at q
      cases q
end Go.Ew

/- Values as trees, how they lie in memory, how they stand. -/
set_option linter.unusedVariables false
set_option linter.unusedSimpArgs false
namespace Go.Ew
open Go.Ev Go.Deep

theorem wrap64 {x : Int} (h1 : -9223372036854775808 ≤ x) (h2 : x ≤ 9223372036854775807) : IntKind.wrap .i64 x = x := IntWalk.i64_in x ⟨h1, h2⟩

inductive V where
  | mk (k i : Int) (s : ByteArray) (l : List V)

mutual
def szV : V → Nat
  | .mk _ _ s l => 1 + s.size / 16 + szL l
def szL : List V → Nat
  | [] => 0
  | v :: l => szV v + szL l
end

mutual
def dpV : V → Nat
  | .mk _ _ _ l => dpL l
def dpL : List V → Nat
  | [] => 0
  | v :: l => max (dpV v + 1) (dpL l)
end

theorem szV_pos (v : V) : 1 ≤ szV v := by cases v; simp only [szV]; omega

theorem len_szL : ∀ l : List V, l.length ≤ szL l
  | [] => by simp [szL]
  | v :: l => by have := len_szL l; have := szV_pos v; simp only [szL, List.length_cons]; omega

mutual
theorem dp_sz : ∀ v : V, dpV v < szV v
  | .mk k i s l => by have := dp_szL l; simp only [dpV, szV]; omega
theorem dp_szL : ∀ l : List V, dpL l ≤ szL l
  | [] => by simp [dpL]
  | v :: l => by have := dp_sz v; have := dp_szL l; simp only [dpL, szL]; omega
end

mutual
/-- Four cells are a value. -/
def RV (H : KH) : V → List Value → Prop
  | .mk k i s l, cs => ∃ a n c, cs = [.int .i64 k, .int .i64 i, .string s, .slice a n c] ∧ n = l.length ∧ RS H l a ∧ SlOk H 4 a n c
/-- From an address on values lie one behind the other. -/
def RS (H : KH) : List V → Option Addr → Prop
  | [], a => kold H 4 a 0 = some []
  | v :: l, a => ∃ b o, a = some ⟨b, o, none⟩ ∧ (∃ cs, ld H ⟨b, o, none⟩ cs ∧ RV H v cs) ∧ RS H l (some ⟨b, o + 4, none⟩)
end

mutual
theorem RV.mono {H H' : KH} (h : Le H H') : ∀ {v : V} {cs : List Value}, RV H v cs → RV H' v cs
  | .mk k i s l, cs, ⟨a, n, c, h1, h2, h3, h4⟩ => ⟨a, n, c, h1, h2, RS.mono h h3, h4.mono h⟩
theorem RS.mono {H H' : KH} (h : Le H H') : ∀ {l : List V} {a : Option Addr}, RS H l a → RS H' l a
  | [], _, q => h.kold q
  | v :: l, a, ⟨b, o, h1, ⟨cs, h2, h3⟩, h4⟩ => ⟨b, o, h1, ⟨cs, h.ld h2, RV.mono h h3⟩, RS.mono h h4⟩
end

/-- The value at a place. -/
theorem RS.get {H : KH} : ∀ {l : List V} {a : Option Addr} {j : Nat} {v : V}, RS H l a → l[j]? = some v → ∃ b o, a = some ⟨b, o, none⟩ ∧ ∃ cs, ld H ⟨b, o + j * 4, none⟩ cs ∧ RV H v cs
  | [], a, j, v, _, hj => by simp at hj
  | x :: l, a, 0, v, ⟨b, o, h1, ⟨cs, h2, h3⟩, h4⟩, hj => by
    simp at hj
    subst hj
    exact ⟨b, o, h1, cs, by simpa using h2, h3⟩
  | x :: l, a, j + 1, v, ⟨b, o, h1, _, h4⟩, hj => by
    obtain ⟨b', o', h5, cs, h6, h7⟩ := RS.get (j := j) h4 (by simpa using hj)
    cases h5
    refine ⟨b, o, h1, cs, ?_, h7⟩
    have : o + 4 + j * 4 = o + (j + 1) * 4 := by omega
    rw [this] at h6
    exact h6

/-- How numbers stand. -/
def cmpI (x y : Int) : Int := if x < y then -1 else if y < x then 1 else 0

def cmpS' (x y : ByteArray) : Int := Extern.BytealgCompare.cmp x y

mutual
def cmpV : V → V → Int
  | .mk k i s l, .mk k' i' s' l' =>
    if cmpI k k' ≠ 0 then cmpI k k' else if cmpI i i' ≠ 0 then cmpI i i' else if cmpS' s s' ≠ 0 then cmpS' s s' else cmpL l l'
def cmpL : List V → List V → Int
  | [], [] => 0
  | [], _ :: _ => -1
  | _ :: _, [] => 1
  | a :: x, b :: y => if cmpV a b ≠ 0 then cmpV a b else cmpL x y
end

theorem szL_drop : ∀ (l : List V) (j : Nat) (v : V), l[j]? = some v → szV v ≤ szL l ∧ dpV v < dpL l
  | [], j, v, h => by simp at h
  | x :: l, 0, v, h => by simp at h; subst h; simp only [szL, dpL]; omega
  | x :: l, j + 1, v, h => by
    have := szL_drop l j v (by simpa using h)
    simp only [szL, dpL]; omega

theorem mem_szL : ∀ {l : List V} {x : V}, x ∈ l → szV x ≤ szL l
  | v :: l, x, h => by
    rcases List.mem_cons.1 h with rfl | h
    · simp only [szL]; omega
    · have := mem_szL h; simp only [szL]; omega

/-- What the first so many are together. -/
def szTo (l : List V) (j : Nat) : Nat := szL (l.take j)

theorem szTo_succ : ∀ (l : List V) (j : Nat) (v : V), l[j]? = some v → szTo l (j + 1) = szTo l j + szV v
  | [], j, v, h => by simp at h
  | x :: l, 0, v, h => by simp at h; subst h; simp [szTo, szL]
  | x :: l, j + 1, v, h => by
    have := szTo_succ l j v (by simpa using h)
    simp only [szTo, List.take_succ_cons, szL] at this ⊢
    omega

theorem szTo_le : ∀ (l : List V) (j : Nat), szTo l j ≤ szL l
  | [], j => by simp [szTo, szL]
  | x :: l, 0 => by simp [szTo, szL]
  | x :: l, j + 1 => by
    have := szTo_le l j
    simp only [szTo, List.take_succ_cons, szL] at this ⊢
    omega

theorem szTo_all (l : List V) : szTo l l.length = szL l := by simp [szTo]

/- Bytes. -/

def cmpB : List UInt8 → List UInt8 → Int
  | [], [] => 0
  | [], _ :: _ => -1
  | _ :: _, [] => 1
  | a :: x, b :: y => if a < b then -1 else if b < a then 1 else cmpB x y

theorem get_bang (xs : List UInt8) (i : Nat) : (⟨xs.toArray⟩ : ByteArray)[i]! = xs[i]?.getD 0 := by
  by_cases h : i < xs.length
  · have h1 : i < (⟨xs.toArray⟩ : ByteArray).size := h
    rw [getElem!_pos (⟨xs.toArray⟩ : ByteArray) i h1]
    simp [h]
    rfl
  · have h1 : ¬ i < (⟨xs.toArray⟩ : ByteArray).size := h
    rw [getElem!_neg (⟨xs.toArray⟩ : ByteArray) i h1]
    simp [h]
    rfl

/-- The first place at which two differ tells. -/
def byPlace (xs ys : List UInt8) : Int := match (List.range (min xs.length ys.length)).find? fun i => xs[i]?.getD 0 != ys[i]?.getD 0 with
  | some i => if xs[i]?.getD 0 < ys[i]?.getD 0 then -1 else 1
  | none => if xs.length < ys.length then -1 else if xs.length > ys.length then 1 else 0

theorem byPlace_eq : ∀ xs ys : List UInt8, byPlace xs ys = cmpB xs ys
  | [], [] => rfl
  | [], b :: y => by simp [byPlace, cmpB]
  | a :: x, [] => by simp [byPlace, cmpB]
  | a :: x, b :: y => by
    have ih := byPlace_eq x y
    unfold byPlace at ih ⊢
    have hm : min (a :: x).length (b :: y).length = min x.length y.length + 1 := by simp only [List.length_cons]; omega
    rw [hm, List.range_succ_eq_map, List.find?_cons]
    simp only [List.getElem?_cons_zero, Option.getD_some, cmpB]
    by_cases hab : a = b
    · subst hab
      have hlt : ¬ a < a := UInt8.lt_irrefl a
      rw [if_neg hlt, if_neg hlt, ← ih]
      simp only [bne_self_eq_false, Bool.false_eq_true, if_false, List.find?_map]
      have hf : ((fun i => (a :: x)[i]?.getD 0 != (a :: y)[i]?.getD 0) ∘ Nat.succ) = fun i => x[i]?.getD 0 != y[i]?.getD 0 := by
        funext i; simp
      rw [hf]
      cases (List.range (min x.length y.length)).find? fun i => x[i]?.getD 0 != y[i]?.getD 0 with
      | none => simp
      | some i => simp
    · have hne : (a != b) = true := by simpa using hab
      rw [hne]
      simp only [List.getElem?_cons_zero, Option.getD_some]
      by_cases h : a < b
      · rw [if_pos h, if_pos h]
      · rw [if_neg h, if_neg h]
        have : b < a := by
          rcases UInt8.lt_or_lt_of_ne hab with q | q
          · exact absurd q h
          · exact q
        rw [if_pos this]

theorem cmpS_eq (x y : ByteArray) : cmpS' x y = cmpB x.toList y.toList := by
  rw [ByteArray.toList_eq, ByteArray.toList_eq]
  obtain ⟨⟨xs⟩⟩ := x
  obtain ⟨⟨ys⟩⟩ := y
  rw [← byPlace_eq]
  unfold cmpS' Extern.BytealgCompare.cmp byPlace
  have h1 : (⟨⟨xs⟩⟩ : ByteArray).size = xs.length := rfl
  have h2 : (⟨⟨ys⟩⟩ : ByteArray).size = ys.length := rfl
  have g : ∀ (zs : List UInt8) (i : Nat), (⟨⟨zs⟩⟩ : ByteArray)[i]! = zs[i]?.getD 0 := get_bang
  simp only [h1, h2, g]
  generalize List.find? _ _ = r
  cases r <;> rfl

theorem cmpB_spec : ∀ xs ys : List UInt8, cmpB xs ys = if xs == ys then 0 else if Op.bytesLess xs ys then -1 else 1
  | [], [] => by simp [cmpB]
  | [], b :: y => by simp [cmpB, Op.bytesLess]
  | a :: x, [] => by simp [cmpB, Op.bytesLess]
  | a :: x, b :: y => by
    simp only [cmpB, Op.bytesLess, cmpB_spec x y]
    by_cases h : a < b
    · have hne : a ≠ b := fun e => by subst e; exact UInt8.lt_irrefl a h
      simp [h, hne]
    · by_cases hab : a = b
      · subst hab
        simp [h]
      · have : b < a := by
          rcases UInt8.lt_or_lt_of_ne hab with q | q
          · exact absurd q h
          · exact q
        simp [h, hab, this]

theorem cmpS_str (x y : ByteArray) : cmpS' x y = if strEq x y then 0 else if strLt x y then -1 else 1 := by
  rw [cmpS_eq, cmpB_spec]; rfl

/- One row. -/

theorem cmpI_neg (x y : Int) : cmpI y x = -cmpI x y := by unfold cmpI; split <;> split <;> first | omega | (split <;> omega)

theorem cmpI_zero (x y : Int) : cmpI x y = 0 ↔ x = y := by unfold cmpI; split <;> first | omega | (split <;> omega)

theorem cmpI_rng (x y : Int) : cmpI x y = -1 ∨ cmpI x y = 0 ∨ cmpI x y = 1 := by unfold cmpI; split <;> first | omega | (split <;> omega)

theorem cmpI_trans (x y z : Int) : (cmpI x y ≤ 0 → cmpI y z ≤ 0 → cmpI x z ≤ 0) ∧ (cmpI x y < 0 → cmpI y z ≤ 0 → cmpI x z < 0) ∧ (cmpI x y ≤ 0 → cmpI y z < 0 → cmpI x z < 0) := by
  unfold cmpI
  refine ⟨?_, ?_, ?_⟩ <;> (repeat' split) <;> omega

/-- What it takes to be a row. -/
structure Row {α : Type} (c : α → α → Int) (x y z : α) : Prop where
  neg : c y x = -c x y
  rng : c x y = -1 ∨ c x y = 0 ∨ c x y = 1
  t1 : c x y ≤ 0 → c y z ≤ 0 → c x z ≤ 0
  t2 : c x y < 0 → c y z ≤ 0 → c x z < 0
  t3 : c x y ≤ 0 → c y z < 0 → c x z < 0

theorem cmpB_neg : ∀ x y : List UInt8, cmpB y x = -cmpB x y
  | [], [] => rfl
  | [], _ :: _ => rfl
  | _ :: _, [] => rfl
  | a :: x, b :: y => by
    simp only [cmpB]
    by_cases h : a < b
    · have : ¬ b < a := fun q => by have h1 := UInt8.lt_iff_toNat_lt.1 h; have h2 := UInt8.lt_iff_toNat_lt.1 q; omega
      simp [h, this]
    · by_cases h2 : b < a
      · simp [h, h2]
      · simp [h, h2, cmpB_neg x y]

theorem cmpB_rng : ∀ x y : List UInt8, cmpB x y = -1 ∨ cmpB x y = 0 ∨ cmpB x y = 1
  | [], [] => .inr (.inl rfl)
  | [], _ :: _ => .inl rfl
  | _ :: _, [] => .inr (.inr rfl)
  | a :: x, b :: y => by
    simp only [cmpB]
    split
    · exact .inl rfl
    · split
      · exact .inr (.inr rfl)
      · exact cmpB_rng x y

theorem cmpB_trans : ∀ x y z : List UInt8, (cmpB x y ≤ 0 → cmpB y z ≤ 0 → cmpB x z ≤ 0) ∧ (cmpB x y < 0 → cmpB y z ≤ 0 → cmpB x z < 0) ∧ (cmpB x y ≤ 0 → cmpB y z < 0 → cmpB x z < 0)
  | [], [], [] => by simp [cmpB]
  | [], [], _ :: _ => by simp [cmpB]
  | [], _ :: _, [] => by simp [cmpB]
  | [], _ :: _, _ :: _ => by simp [cmpB]
  | _ :: _, [], [] => by simp [cmpB]
  | _ :: _, [], _ :: _ => by simp [cmpB]
  | _ :: _, _ :: _, [] => by simp [cmpB]
  | a :: x, b :: y, c :: z => by
    have ih := cmpB_trans x y z
    simp only [cmpB, UInt8.lt_iff_toNat_lt]
    refine ⟨?_, ?_, ?_⟩ <;> (repeat' split) <;> first | omega | (intro h1 h2; first | exact ih.1 h1 h2 | exact ih.2.1 h1 h2 | exact ih.2.2 h1 h2)

theorem cmpS_neg (x y : ByteArray) : cmpS' y x = -cmpS' x y := by rw [cmpS_eq, cmpS_eq]; exact cmpB_neg _ _
theorem cmpS_rng (x y : ByteArray) : cmpS' x y = -1 ∨ cmpS' x y = 0 ∨ cmpS' x y = 1 := by rw [cmpS_eq]; exact cmpB_rng _ _
theorem cmpS_trans (x y z : ByteArray) : (cmpS' x y ≤ 0 → cmpS' y z ≤ 0 → cmpS' x z ≤ 0) ∧ (cmpS' x y < 0 → cmpS' y z ≤ 0 → cmpS' x z < 0) ∧ (cmpS' x y ≤ 0 → cmpS' y z < 0 → cmpS' x z < 0) := by
  simp only [cmpS_eq]; exact cmpB_trans _ _ _

mutual
theorem cmpV_neg : ∀ x y : V, cmpV y x = -cmpV x y
  | .mk k i s l, .mk k' i' s' l' => by
    simp only [cmpV, cmpI_neg k k', cmpI_neg i i', cmpS_neg s s', cmpL_neg l l']
    repeat' split
    all_goals omega
theorem cmpL_neg : ∀ x y : List V, cmpL y x = -cmpL x y
  | [], [] => rfl
  | [], _ :: _ => rfl
  | _ :: _, [] => rfl
  | a :: x, b :: y => by
    simp only [cmpL, cmpV_neg a b, cmpL_neg x y]
    repeat' split
    all_goals omega
end

mutual
theorem cmpV_rng : ∀ x y : V, cmpV x y = -1 ∨ cmpV x y = 0 ∨ cmpV x y = 1
  | .mk k i s l, .mk k' i' s' l' => by
    have h1 := cmpI_rng k k'
    have h2 := cmpI_rng i i'
    have h3 := cmpS_rng s s'
    have h4 := cmpL_rng l l'
    simp only [cmpV]
    repeat' split
    all_goals omega
theorem cmpL_rng : ∀ x y : List V, cmpL x y = -1 ∨ cmpL x y = 0 ∨ cmpL x y = 1
  | [], [] => .inr (.inl rfl)
  | [], _ :: _ => .inl rfl
  | _ :: _, [] => .inr (.inr rfl)
  | a :: x, b :: y => by
    have h1 := cmpV_rng a b
    have h2 := cmpL_rng x y
    simp only [cmpL]
    split
    all_goals omega
end

def Tr (a b e : Int) : Prop := (a ≤ 0 → b ≤ 0 → e ≤ 0) ∧ (a < 0 → b ≤ 0 → e < 0) ∧ (a ≤ 0 → b < 0 → e < 0)

theorem lex_tr {a b e A B E : Int} (h : Tr a b e) (h' : Tr (-b) (-a) (-e)) (k : Tr A B E) : Tr (if a ≠ 0 then a else A) (if b ≠ 0 then b else B) (if e ≠ 0 then e else E) := by
  unfold Tr at *
  split <;> split <;> split <;> omega

mutual
theorem cmpV_trans : ∀ x y z : V, Tr (cmpV x y) (cmpV y z) (cmpV x z)
  | .mk k i s l, .mk k' i' s' l', .mk k'' i'' s'' l'' => by
    have h1 : Tr _ _ _ := cmpI_trans k k' k''
    have h2 : Tr _ _ _ := cmpI_trans i i' i''
    have h3 : Tr _ _ _ := cmpS_trans s s' s''
    have h4 := cmpL_trans l l' l''
    have h1' : Tr _ _ _ := cmpI_trans k'' k' k
    have h2' : Tr _ _ _ := cmpI_trans i'' i' i
    have h3' : Tr _ _ _ := cmpS_trans s'' s' s
    rw [cmpI_neg k' k'', cmpI_neg k k', cmpI_neg k k''] at h1'
    rw [cmpI_neg i' i'', cmpI_neg i i', cmpI_neg i i''] at h2'
    rw [cmpS_neg s' s'', cmpS_neg s s', cmpS_neg s s''] at h3'
    simp only [cmpV]
    exact lex_tr h1 h1' (lex_tr h2 h2' (lex_tr h3 h3' h4))
theorem cmpL_trans : ∀ x y z : List V, Tr (cmpL x y) (cmpL y z) (cmpL x z)
  | [], [], [] => by simp [cmpL, Tr]
  | [], [], _ :: _ => by simp [cmpL, Tr]
  | [], _ :: _, [] => by simp [cmpL, Tr]
  | [], _ :: _, _ :: _ => by simp [cmpL, Tr]
  | _ :: _, [], [] => by simp [cmpL, Tr]
  | _ :: _, [], _ :: _ => by simp [cmpL, Tr]
  | _ :: _, _ :: _, [] => by simp [cmpL, Tr]
  | a :: x, b :: y, c :: z => by
    have h1 := cmpV_trans a b c
    have h2 := cmpL_trans x y z
    have h1' := cmpV_trans c b a
    rw [cmpV_neg b c, cmpV_neg a b, cmpV_neg a c] at h1'
    simp only [cmpL]
    exact lex_tr h1 h1' h2
end

theorem cmpV_refl (x : V) : cmpV x x = 0 := by have := cmpV_neg x x; omega
end Go.Ew

/- Rows of values as cells; a row that is grown in its middle. -/
set_option linter.unusedVariables false
set_option linter.unusedSimpArgs false
namespace Go.Ew
open Go.Ev Go.Deep

/-- Cells are values, one behind the other. -/
def RC (H : KH) : List V → List Value → Prop
  | [], cs => cs = []
  | v :: l, cs => ∃ c1 c2, cs = c1 ++ c2 ∧ RV H v c1 ∧ RC H l c2

theorem RV.len {H : KH} {v : V} {cs : List Value} (h : RV H v cs) : cs.length = 4 := by
  obtain ⟨k, i, s, l⟩ := v
  obtain ⟨a, n, c, rfl, _⟩ := h
  rfl

theorem RC.mono {H H' : KH} (h : Le H H') : ∀ {l : List V} {cs : List Value}, RC H l cs → RC H' l cs
  | [], _, q => q
  | v :: l, _, ⟨c1, c2, e, q1, q2⟩ => ⟨c1, c2, e, q1.mono h, RC.mono h q2⟩

theorem RC.len {H : KH} : ∀ {l : List V} {cs : List Value}, RC H l cs → cs.length = l.length * 4
  | [], _, q => by cases q; rfl
  | v :: l, _, ⟨c1, c2, e, q1, q2⟩ => by subst e; have := RC.len q2; have := q1.len; simp only [List.length_append, List.length_cons]; omega

theorem RC.append {H : KH} : ∀ {l m : List V} {cs ds : List Value}, RC H l cs → RC H m ds → RC H (l ++ m) (cs ++ ds)
  | [], _, _, _, q, r => by cases q; exact r
  | v :: l, _, _, _, ⟨c1, c2, e, q1, q2⟩, r => by subst e; exact ⟨c1, c2 ++ _, by rw [List.append_assoc], q1, RC.append q2 r⟩

theorem RC.one {H : KH} {v : V} {cs : List Value} (h : RV H v cs) : RC H [v] cs := ⟨cs, [], by simp, h, rfl⟩

theorem RC.cut {H : KH} : ∀ {l : List V} {cs : List Value} (k : Nat), RC H l cs → RC H (l.take k) (cs.take (k * 4)) ∧ RC H (l.drop k) (cs.drop (k * 4))
  | [], _, k, q => by cases q; simp [RC]
  | v :: l, _, 0, q => by simpa [RC] using q
  | v :: l, _, k + 1, ⟨c1, c2, e, q1, q2⟩ => by
    subst e
    have ih := RC.cut k q2
    have h4 := q1.len
    have e1 : (k + 1) * 4 = c1.length + k * 4 := by rw [h4]; omega
    rw [e1, List.take_append, List.drop_append]
    have e2 : c1.length + k * 4 - c1.length = k * 4 := by omega
    rw [e2, List.take_of_length_le (l := c1) (by omega), List.drop_eq_nil_of_le (as := c1) (by omega), List.nil_append]
    exact ⟨⟨c1, _, rfl, q1, ih.1⟩, ih.2⟩

theorem RS.cells {H : KH} : ∀ {l : List V} {a : Option Addr}, RS H l a → ∃ cs, kold H 4 a l.length = some cs ∧ RC H l cs
  | [], a, q => ⟨[], q, rfl⟩
  | v :: l, a, ⟨b, o, h1, ⟨c1, h2, h3⟩, h4⟩ => by
    obtain ⟨c2, q1, q2⟩ := RS.cells h4
    subst h1
    obtain ⟨e, he, hr⟩ := kold_some.1 q1
    obtain ⟨_, e', he', hr'⟩ := h2
    simp only at he' hr'
    rw [he] at he'
    cases he'
    rw [h3.len] at hr'
    refine ⟨c1 ++ c2, kold_some.2 ⟨e, he, ?_⟩, c1, c2, rfl, h3, q2⟩
    have := rd_append 4 (l.length * 4) o c1 c2 hr' hr
    rw [List.length_cons, show (l.length + 1) * 4 = 4 + l.length * 4 by omega]
    exact this

theorem RS.of_cells {H : KH} : ∀ {l : List V} {a : Option Addr} {cs : List Value}, kold H 4 a l.length = some cs → RC H l cs → RS H l a
  | [], a, cs, q, r => by cases r; exact q
  | v :: l, a, cs, q, ⟨c1, c2, e, r1, r2⟩ => by
    subst e
    have h4 := r1.len
    cases a with
    | none =>
      have hb : Nat.beq (l.length + 1) 0 = false := rfl
      simp [kold, hb] at q
    | some a =>
      obtain ⟨b, o, sp⟩ := a
      cases sp with
      | some s =>
        have hb : Nat.beq (l.length + 1) 0 = false := rfl
        simp [kold, hb] at q
      | none =>
        obtain ⟨e, he, hr⟩ := kold_some.1 q
        have e1 : (v :: l).length * 4 = 4 + l.length * 4 := by simp only [List.length_cons]; omega
        rw [e1] at hr
        have t1 := rd_take hr (m := 4) (by omega)
        have t2 := rd_drop hr (m := 4) (by omega)
        rw [List.take_append_of_le_length (by omega), List.take_of_length_le (by omega)] at t1
        rw [List.drop_append_of_le_length (by omega), List.drop_eq_nil_of_le (by omega), List.nil_append, Nat.add_sub_cancel_left] at t2
        refine ⟨b, o, rfl, ⟨c1, ⟨rfl, e, he, by rw [h4]; exact t1⟩, r1⟩, RS.of_cells (cs := c2) (kold_some.2 ⟨e, he, t2⟩) r2⟩

theorem new_del {H : KH} {n : Nat} {e : Ent} (h : H n = none) : (H.new n e).del n = H := by
  funext k
  simp only [KH.new, KH.del]
  by_cases hk : k = n
  · subst hk; simp [h]
  · simp [hk]

theorem Le.kslice {H H' : KH} (h : Le H H') {sz n c : Nat} {a : Option Addr} {lo hi : Option Value} {v : Value} (q : kslice H sz a n c lo hi = some v) : kslice H' sz a n c lo hi = some v := by
  unfold Ew.kslice at q ⊢
  cases a with
  | none => exact q
  | some b =>
    simp only at q ⊢
    cases hsn : b.spot.isNone with
    | false => rw [hsn] at q; exact q
    | true =>
    rw [hsn, cond_true] at q
    rw [cond_true]
    cases hk : Ew.kcap H b c sz with
    | some x => rw [hk] at q; rw [h.kcap hk]; exact q
    | none => rw [hk] at q; split at q <;> simp_all

theorem Own.mono {H0 H H' : KH} (h : Le H H') {sz n c : Nat} {a : Option Addr} {cs : List Value} (q : Own H0 H sz a n c cs) : Own H0 H' sz a n c cs := by
  cases q with
  | nil => exact .nil
  | lit b _ _ h1 h2 h3 h4 => exact .lit b n cs (h _ _ h1) h2 h3 h4
  | grown b _ _ e h1 h2 h3 h4 h5 h6 => exact .grown b n cs e (h _ _ h1) h2 h3 h4 h5 h6

theorem Own.of_lit {H : KH} {b sz n : Nat} {cs : List Value} (hb : H b = none) (h2 : cs.length = n * sz) (h3 : n < unkU) : Own H (H.new b (mkEnt cs 0)) sz (some ⟨b, 0, none⟩) n n cs :=
  .lit b n cs (by simp [KH.new]) h2 h3 hb

theorem knew_of {H : KH} {ti : TI} {a : Option Addr} {n c : Nat} {cs : List Value} (h : kold H ti.size a n = some cs) : knew H ti (.slice a n c) = some (n, cs) := by
  cases a with
  | none =>
    unfold kold at h
    unfold knew
    cases hn : Nat.beq n 0 <;> simp [hn] at h ⊢
    subst h
    exact ⟨(Nat.eq_of_beq_eq_true hn).symm, rfl⟩
  | some b => unfold knew; simp only [h, ob]

theorem back_new {H H' : KH} {n : Nat} {e : Ent} : backK (H.new n e) H' [n] = H'.new n e := by
  funext k
  simp only [backK, KH.new]
  by_cases hk : k = n <;> simp [hk]

theorem mk_rd {cs : List Value} {u : Nat} : rd (mkEnt cs u).cells 0 cs.length = some cs := rd_some rfl fun j v hv => by rw [Nat.zero_add]; simp only [mkEnt, tget_wr_nil]; exact hv
end Go.Ew
