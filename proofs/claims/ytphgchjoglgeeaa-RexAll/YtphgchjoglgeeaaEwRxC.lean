/- The law RexCount: what its function answers. -/
import Derived.Test.YtphgchjoglgeeaaEwRxR
import Derived.Test.YtphgchjoglgeeaaEwVc3
set_option linter.unusedVariables false
set_option linter.unusedSimpArgs false
namespace Go.Ew
open Go.Ev Go.Deep

theorem koldAt {H : KH} {a : Option Addr} {n : Nat} {cs : List Value} (h : kold H 2 a n = some cs) (hn : 0 < n) : ∃ b o, a = some ⟨b, o, none⟩ ∧ ∀ j v, cs[j]? = some v → ld H ⟨b, o + j, none⟩ [v] := by
  have hnb : Nat.beq n 0 = false := by
    cases hq : Nat.beq n 0 with
    | false => rfl
    | true => have := Nat.eq_of_beq_eq_true hq; omega
  cases a with
  | none => unfold kold at h; rw [hnb] at h; cases h
  | some ad =>
    obtain ⟨b, o, sp⟩ := ad
    cases sp with
    | some x => simp only [kold] at h; rw [hnb] at h; cases h
    | none =>
      obtain ⟨e, he, hr⟩ := kold_some.1 h
      refine ⟨b, o, rfl, fun j v hv => ⟨rfl, e, he, rd_some rfl fun i w hw => ?_⟩⟩
      match i, hw with
      | 0, hw =>
        have : v = w := by simpa using hw
        subst this
        exact rd_get hr j v hv
      | i + 1, hw => simp at hw

theorem it_get {X : KH} : ∀ {l : List It} {cs : List Value} {k : Nat} {op : Int} {rg : List Rg}, ItC X l cs → l[k]? = some (op, rg) → ∃ a c, cs[k * 2]? = some (.int .i64 op) ∧ cs[k * 2 + 1]? = some (.slice a rg.length c) ∧ kold X 2 a rg.length = some (rgC rg)
  | [], cs, k, op, rg, h, hk => by simp at hk
  | (op', l') :: r, cs, 0, op, rg, ⟨a, c, ds, h1, h2, h3⟩, hk => by
    have hk : (op', l') = (op, rg) := by simpa using hk
    cases hk
    subst h1
    exact ⟨a, c, rfl, rfl, h2⟩
  | (op', l') :: r, cs, k + 1, op, rg, ⟨a, c, ds, h1, h2, h3⟩, hk => by
    obtain ⟨a', c', g1, g2, g3⟩ := it_get (k := k) h3 (by simpa using hk)
    subst h1
    refine ⟨a', c', ?_, ?_, g3⟩
    · rw [show (k + 1) * 2 = k * 2 + 2 by omega]; exact g1
    · rw [show (k + 1) * 2 + 1 = k * 2 + 1 + 2 by omega]; exact g2

theorem rg_get : ∀ {l : List Rg} {j : Nat} {r : Rg}, l[j]? = some r → (rgC l)[j * 2]? = some (.int .u8 r.1) ∧ (rgC l)[j * 2 + 1]? = some (.int .u8 r.2)
  | [], j, r, h => by simp at h
  | x :: l, 0, r, h => by
    have : x = r := by simpa using h
    subst this; exact ⟨rfl, rfl⟩
  | x :: l, j + 1, r, h => by
    obtain ⟨g1, g2⟩ := rg_get (j := j) (l := l) (by simpa using h)
    refine ⟨?_, ?_⟩
    · rw [show (j + 1) * 2 = j * 2 + 2 by omega]; exact g1
    · rw [show (j + 1) * 2 + 1 = j * 2 + 1 + 2 by omega]; exact g2

theorem cnt_take {l : List It} {k : Nat} {op : Int} {rg : List Rg} (h : l[k]? = some (op, rg)) : cntI (l.take (k + 1)) = cntI (l.take k) + (if op = 1 then 1 else if op = 2 ∨ op = 3 then -1 else 0) := by
  have hk : k < l.length := by
    rcases Nat.lt_or_ge k l.length with q | q
    · exact q
    · rw [List.getElem?_eq_none q] at h; cases h
  have : l.take (k + 1) = l.take k ++ [(op, rg)] := by rw [List.take_add_one, h]; rfl
  rw [this, cnt_app]
  simp only [cntI]; omega

theorem cnt_le : ∀ l : List It, cntI l ≤ l.length ∧ -(l.length : Int) ≤ cntI l
  | [] => by simp [cntI]
  | (op, l) :: r => by
    have := cnt_le r
    simp only [cntI, List.length_cons]
    split
    · omega
    · split <;> omega

def Wl (B : Nat) (σ : RdS) : Prop := ∀ i ∈ σ.items, i.2.length ≤ B

theorem wl_app {B : Nat} {l : List It} {i : It} (h : ∀ i ∈ l, i.2.length ≤ B) (hi : i.2.length ≤ B) : ∀ j ∈ l ++ [i], j.2.length ≤ B := fun j hj => by
  rcases List.mem_append.1 hj with hj | hj
  · exact h j hj
  · have : j = i := by simpa using hj
    subst this; exact hi

theorem wl_join {B : Nat} {σ : RdS} (h : Wl B σ) : Wl B (joinR σ) := by
  unfold joinR
  split
  · exact wl_app h (by simp)
  · exact h
theorem wl_add {B : Nat} {σ : RdS} {l : List Rg} (h : Wl B σ) (hl : l.length ≤ B) : Wl B (addClassR σ l) := wl_app (wl_join h) hl
theorem wl_end {B : Nat} {σ τ : RdS} (h : Wl B σ) (he : endR σ = some τ) : Wl B τ := by
  unfold endR at he
  split at he
  · cases he
  · cases he
    show ∀ i ∈ (if (joinR σ).parted = true then putR (joinR σ) 3 else joinR σ).items, _
    split
    · exact wl_app (wl_join h) (by simp)
    · exact wl_join h

theorem wl_take {B n : Nat} {σ τ : RdS} {c : Int} {e : Bool} (h : Wl B σ) (hw : Wf n σ) (hn : n ≤ B) (hB : 1 ≤ B) (ht : takeR σ c e = some τ) : Wl B τ := by
  unfold takeR at ht
  split at ht
  · rename_i l pl hc
    have hl := (hw.2 l pl hc).1
    unfold inClassR at ht
    split at ht
    · split at ht
      · cases ht; exact h
      · cases ht
    · split at ht
      · split at ht
        · cases ht; exact h
        · cases ht
      · split at ht
        · split at ht
          · cases ht; exact wl_add h (by omega)
          · cases ht
        · cases ht
  · split at ht
    · cases ht; exact wl_add h (by simpa using hB)
    · unfold markR at ht
      split at ht
      · unfold openR at ht
        split at ht
        · cases ht; exact wl_join h
        · cases ht
      split at ht
      · unfold closeR at ht
        split at ht
        · cases ht
        · split at ht
          · cases ht
          · rename_i he
            cases ht
            have := wl_end h he
            exact this
      split at ht
      · unfold openC at ht
        split at ht
        · cases ht; exact h
        · cases ht
      split at ht
      · cases ht; exact wl_add h (by simpa using hB)
      split at ht
      · exact wl_end h ht
      have rep : ∀ op, repeatR σ op = some τ → Wl B τ := fun op ht => by
        unfold repeatR at ht
        split at ht
        · cases ht
        · cases ht; exact wl_app h (by simp)
      split at ht
      · exact rep _ ht
      split at ht
      · exact rep _ ht
      split at ht
      · exact rep _ ht
      · cases ht

theorem wl_fold {B : Nat} (hB : 1 ≤ B) : ∀ {l : List (Int × Bool)} {n : Nat} {σ τ : RdS}, Wl B σ → Wf n σ → n + l.length ≤ B → foldT σ l = some τ → Wl B τ ∧ Wf (n + l.length) τ
  | [], n, σ, τ, h, hw, hn, hf => by cases hf; exact ⟨h, hw⟩
  | (c, e) :: l, n, σ, τ, h, hw, hn, hf => by
    rw [foldT] at hf
    simp only [List.length_cons] at hn ⊢
    cases ht : takeR σ c e with
    | none => rw [ht] at hf; cases hf
    | some ρ =>
      rw [ht] at hf
      have := wl_fold hB (wl_take h hw (by omega) hB ht) (take_wf hw ht) (by omega) hf
      rw [show n + (l.length + 1) = n + 1 + l.length by omega]
      exact this

theorem parse_small {s : ByteArray} {l : List It} (h : parseR s = some l) : l.length ≤ 100 ∧ ∀ i ∈ l, i.2.length ≤ 100000 := by
  unfold parseR at h
  split at h
  · cases h
  · rename_i hs
    unfold readR at h
    split at h
    · cases h
    · rename_i σ hf
      split at h
      · cases h
      · rename_i τ he
        cases h
        have hl := let_len (bytesI s) false
        rw [bytes_len] at hl
        obtain ⟨h1, h2⟩ := wl_fold (B := 100) (n := 0) (by omega) (σ := rd0) (fun i hi => by cases hi) ⟨by decide, fun l pl q => by cases q⟩ (by omega) hf
        have he2 : endR σ = some τ := by
          unfold finR at he
          split at he
          · cases he
          · split at he
            · exact he
            · cases he
        have h3 := end_len he2
        have h4 := h2.1
        refine ⟨by omega, fun i hi => ?_⟩
        have := wl_end h1 he2 i hi
        omega

/-- One item as it lies there. -/
structure ItAt (H : KH) (a : Option Addr) (k : Nat) (op : Int) (rg : List Rg) (b o : Nat) (ar : Option Addr) (cr : Nat) : Prop where
  eq : a = some ⟨b, o, none⟩
  c0 : ld H ⟨b, o + k * 2 + 0, none⟩ [.int .i64 op]
  c1 : ld H ⟨b, o + k * 2 + 1, none⟩ [.slice ar rg.length cr]
  row : kold H 2 ar rg.length = some (rgC rg)

theorem ItR.at {H : KH} {l : List It} {a : Option Addr} (h : ItR H l a) {k : Nat} {op : Int} {rg : List Rg} (hk : l[k]? = some (op, rg)) : ∃ b o ar cr, ItAt H a k op rg b o ar cr := by
  obtain ⟨cs, h1, h2⟩ := h
  have hlt : 0 < l.length := by
    rcases Nat.lt_or_ge k l.length with q | q
    · omega
    · rw [List.getElem?_eq_none q] at hk; cases hk
  obtain ⟨b, o, rfl, h3⟩ := koldAt h1 hlt
  obtain ⟨ar, cr, g1, g2, g3⟩ := it_get h2 hk
  exact ⟨b, o, ar, cr, rfl, h3 _ _ g1, by rw [Nat.add_assoc]; exact h3 _ _ g2, g3⟩
end Go.Ew

namespace Go.Proofs.Ytphgchjoglgeeaa
open Go.Ev Go.Ew
namespace Va
theorem c6 {H : KH} {Q : Value → KH → Prop} (hq : Q (.bool true) H) : Does (env Try.prog) 6 [] H Q := does_true (by kernel_rfl) (by kernel_rfl) (by kernel_rfl) hq

/-- Behind an item. -/
theorem j1 {l : List It} {a4 a : Option Addr} {n5 n6 c k m : Nat} {x7 : Int} {op : Int} {rg : List Rg} {H : KH} {Q : Value → KH → Prop} {I : Nat → Option Addr → Nat → Nat → Int → Option Addr → Nat → Nat → Int → Int → KH → Prop}
    (hit : ItR H l a) (hk : l[k]? = some (op, rg)) (hok : okIt (op, rg)) (hl : l.length ≤ 1000) (hc : 1 ≤ cntI (l.take (k + 1)))
    (hI : ∃ m', m' < m ∧ I m' a4 n5 n6 x7 a l.length c (cntI (l.take (k + 1))) (IntKind.wrap .i64 ((k : Nat) + 1)) H) :
    vc4_J1 (cntI (l.take (k + 1))) Q H (k : Nat) l.length a m I a4 n5 n6 x7 c := by
  obtain ⟨b, o, ar, cr, hat⟩ := hit.at hk
  have hlt : k < l.length := by
    rcases Nat.lt_or_ge k l.length with q | q
    · exact q
    · rw [List.getElem?_eq_none q] at hk; cases hk
  unfold vc4_J1
  refine ⟨fun h => ?_, fun _ => ⟨⟨by omega, by omega⟩, b, o, hat.eq, rfl, _, by simpa using hat.c0, fun h => ⟨⟨by omega, by omega⟩, b, o, hat.eq, rfl, _, _, _, by simpa using hat.c1, fun h2 => ?_, fun _ => hI⟩, fun _ => hI⟩⟩
  · have := of_decide_eq_true h; omega
  · have h : op ≠ 1 := by simpa using h
    have h2 := of_decide_eq_true h2
    rcases hok with ⟨q, _⟩ | ⟨_, q⟩
    · exact absurd q h
    · have q : rg = [] := q
      subst q
      simp at h2

theorem j4 {l : List It} {a4 a : Option Addr} {n5 n6 c k m : Nat} {x7 : Int} {op : Int} {rg : List Rg} {H : KH} {Q : Value → KH → Prop} {I : Nat → Option Addr → Nat → Nat → Int → Option Addr → Nat → Nat → Int → Int → KH → Prop}
    (hit : ItR H l a) (hk : l[k]? = some (op, rg)) (hok : okIt (op, rg)) (hl : l.length ≤ 1000) (hc : 1 ≤ cntI (l.take (k + 1))) (hop : op = 2 ∨ op = 3)
    (hI : ∃ m', m' < m ∧ I m' a4 n5 n6 x7 a l.length c (cntI (l.take (k + 1))) (IntKind.wrap .i64 ((k : Nat) + 1)) H) :
    vc4_J4 (cntI (l.take k)) Q H (k : Nat) l.length a m I a4 n5 n6 x7 c := by
  have h1 := cnt_take hk
  rw [if_neg (by omega), if_pos hop] at h1
  have h2 := cnt_le (l.take k)
  have h3 : (l.take k).length ≤ l.length := by simp; omega
  have hw : IntKind.wrap .i64 (cntI (l.take k) - 1) = cntI (l.take (k + 1)) := by rw [wrap64 (by omega) (by omega)]; omega
  have := j1 (Q := Q) (a4 := a4) (n5 := n5) (n6 := n6) (x7 := x7) (c := c) (m := m) (I := I) hit hk hok hl hc hI
  unfold vc4_J1 at this
  unfold vc4_J4
  rw [hw]
  exact this

theorem l3 {l : List It} {a4 a : Option Addr} {n5 n6 c k m : Nat} {x7 : Int} {rg : List Rg} {H : KH} {Q : Value → KH → Prop} {I : Nat → Option Addr → Nat → Nat → Int → Option Addr → Nat → Nat → Int → Int → KH → Prop}
    (hit : ItR H l a) (hk : l[k]? = some (1, rg)) (hok : okIt (1, rg)) (hl : l.length ≤ 1000) (hrl : rg.length ≤ 100000) (hc : 1 ≤ cntI (l.take (k + 1)))
    (hI : ∃ m', m' < m ∧ I m' a4 n5 n6 x7 a l.length c (cntI (l.take (k + 1))) (IntKind.wrap .i64 ((k : Nat) + 1)) H) :
    vc4_L3 a4 n5 n6 x7 a l.length c (cntI (l.take k)) (k : Nat) H Q m I := by
  obtain ⟨b, o, ar, cr, hat⟩ := hit.at hk
  have hlt : k < l.length := by
    rcases Nat.lt_or_ge k l.length with q | q
    · exact q
    · rw [List.getElem?_eq_none q] at hk; cases hk
  obtain ⟨hne, hrs⟩ : rg ≠ [] ∧ ∀ r ∈ rg, okRg r := by
    rcases hok with ⟨_, q1, q2⟩ | ⟨q, _⟩
    · exact ⟨q1, q2⟩
    · exfalso; simp at q
  have h1 := cnt_take hk
  rw [if_pos rfl] at h1
  have h2 := cnt_le (l.take k)
  have h3 : (l.take k).length ≤ l.length := by simp; omega
  have hw : IntKind.wrap .i64 (cntI (l.take k) + 1) = cntI (l.take (k + 1)) := by rw [wrap64 (by omega) (by omega)]; omega
  have hrg0 : 0 < rg.length := by cases rg with | nil => exact absurd rfl hne | cons x r => simp
  obtain ⟨br, orr, har, hcell⟩ := koldAt hat.row hrg0
  have hc1 : ld H ⟨b, (o + (Int.toNat ((k : Nat) : Int)) * 2) + 1, none⟩ [.slice ar rg.length cr] := by simpa using hat.c1
  unfold vc4_L3
  refine ⟨fun n3 a4' n5' n6' x7' a8 n9 n10 x11 x12 x13 H14 => a4' = a4 ∧ n5' = n5 ∧ n6' = n6 ∧ x7' = x7 ∧ a8 = a ∧ n9 = l.length ∧ n10 = c ∧ x11 = cntI (l.take (k + 1)) ∧ x12 = (k : Nat) ∧ H14 = H ∧ ∃ j : Nat, x13 = j ∧ j ≤ rg.length ∧ n3 = rg.length - j, ⟨rg.length, rfl, rfl, rfl, rfl, rfl, rfl, rfl, hw, rfl, rfl, 0, rfl, by omega, rfl⟩, ?_⟩
  rintro n3 a4' n5' n6' x7' a8 n9 n10 x11 x12 x13 H14 ⟨rfl, rfl, rfl, rfl, rfl, rfl, rfl, rfl, rfl, rfl, j, rfl, hj, rfl⟩
  refine ⟨⟨by omega, by omega⟩, b, o, hat.eq, rfl, ar, _, cr, hc1, fun hjl => ?_, fun hjl => ?_⟩
  · have hjl : j < rg.length := by have := of_decide_eq_true hjl; omega
    have hr : rg[j]? = some rg[j] := by simp [hjl]
    obtain ⟨r1, r2⟩ := rg_get hr
    obtain ⟨o1, o2, o3⟩ := hrs _ (List.getElem_mem hjl)
    have cl : ld H14 ⟨br, (orr + (Int.toNat ((j : Nat) : Int)) * 2) + 0, none⟩ [.int .u8 rg[j].1] := by simpa using hcell _ _ r1
    have ch : ld H14 ⟨br, (orr + (Int.toNat ((j : Nat) : Int)) * 2) + 1, none⟩ [.int .u8 rg[j].2] := by
      have := hcell _ _ r2
      simpa [Nat.add_assoc] using this
    refine ⟨trivial, ⟨by omega, by omega⟩, b, o, hat.eq, rfl, ar, _, cr, hc1, ⟨by omega, by omega⟩, br, orr, har, rfl, _, cl, ⟨by omega, by omega⟩, b, o, hat.eq, rfl, ar, _, cr, hc1, ⟨by omega, by omega⟩, br, orr, har, rfl, _, ch, fun h => ?_, fun _ => ?_⟩
    · have := of_decide_eq_true h; omega
    refine ⟨⟨by omega, by omega⟩, b, o, hat.eq, rfl, ar, _, cr, hc1, ⟨by omega, by omega⟩, br, orr, har, rfl, _, cl, fun h => ?_, fun _ => ?_⟩
    · have := of_decide_eq_true h; omega
    refine ⟨⟨by omega, by omega⟩, b, o, hat.eq, rfl, ar, _, cr, hc1, ⟨by omega, by omega⟩, br, orr, har, rfl, _, ch, fun h => ?_, fun _ => ?_⟩
    · have := of_decide_eq_true h; omega
    exact ⟨rg.length - (j + 1), by omega, rfl, rfl, rfl, rfl, rfl, rfl, rfl, rfl, rfl, rfl, j + 1, by rw [wrap64 (by omega) (by omega)]; omega, by omega, rfl⟩
  · refine ⟨⟨by omega, by omega⟩, b, o, hat.eq, rfl, ar, _, cr, hc1, fun h => ?_, fun _ => j1 hit hk hok hl hc hI⟩
    have := of_decide_eq_true h; omega

theorem l7 {l : List It} {a4 a : Option Addr} {n5 n6 c mm : Nat} {x7 : Int} {H : KH} {Q : Value → KH → Prop} {I : Nat → Option Addr → Nat → Nat → Int → KH → Prop}
    (hit : ItR H l a) (hf : Fine l) (hc : cntI l = 1) (hl : l.length ≤ 1000) (hrl : ∀ i ∈ l, i.2.length ≤ 100000)
    (hI : ∃ m', m' < mm ∧ I m' a4 n5 n6 (IntKind.wrap .i64 (x7 + 1)) H) : vc4_L7 a4 n5 n6 x7 a l.length c H Q mm I := by
  unfold vc4_L7
  refine ⟨fun n3 a4' n5' n6' x7' a8 n9 n10 x11 x12 H13 => a4' = a4 ∧ n5' = n5 ∧ n6' = n6 ∧ x7' = x7 ∧ a8 = a ∧ n9 = l.length ∧ n10 = c ∧ H13 = H ∧ ∃ k : Nat, x12 = k ∧ k ≤ l.length ∧ n3 = l.length - k ∧ x11 = cntI (l.take k), ⟨l.length, rfl, rfl, rfl, rfl, rfl, rfl, rfl, rfl, 0, rfl, by omega, rfl, rfl⟩, ?_⟩
  rintro n3 a4' n5' n6' x7' a8 n9 n10 x11 x12 H13 ⟨rfl, rfl, rfl, rfl, rfl, rfl, rfl, rfl, k, rfl, hk, rfl, rfl⟩
  refine ⟨fun hlt => ?_, fun hge => ?_⟩
  · have hlt : k < l.length := by have := of_decide_eq_true hlt; omega
    have hy : l[k]? = some l[k] := by simp [hlt]
    have hm : l[k] ∈ l := List.getElem_mem hlt
    have hok := hf.each _ hm
    have hpre := hf.pre (k + 1) (by omega) (by omega)
    have hrgl := hrl _ hm
    generalize l[k] = i at *
    obtain ⟨op, rg⟩ := i
    obtain ⟨b, o, ar, cr, hat⟩ := hit.at hy
    have next : ∃ m', m' < l.length - k ∧ (a4' = a4' ∧ n5' = n5' ∧ n6' = n6' ∧ x7' = x7' ∧ a8 = a8 ∧ l.length = l.length ∧ n10 = n10 ∧ H13 = H13 ∧ ∃ k' : Nat, IntKind.wrap .i64 ((k : Nat) + 1) = k' ∧ k' ≤ l.length ∧ m' = l.length - k' ∧ cntI (l.take (k + 1)) = cntI (l.take k')) :=
      ⟨l.length - (k + 1), by omega, rfl, rfl, rfl, rfl, rfl, rfl, rfl, rfl, k + 1, by rw [wrap64 (by omega) (by omega)]; omega, by omega, rfl, rfl⟩
    have same : op ≠ 1 → op ≠ 2 → op ≠ 3 → cntI (l.take k) = cntI (l.take (k + 1)) := fun h1 h2 h3 => by
      have := cnt_take hy
      rw [if_neg h1, if_neg (by omega)] at this
      omega
    refine ⟨⟨by omega, by omega⟩, b, o, hat.eq, rfl, _, by simpa using hat.c0, fun h1 => ?_, fun h1 => ⟨fun h2 => ?_, fun h2 => ⟨fun h3 => ?_, fun h3 => ⟨fun h4 => ?_, fun h4 => ⟨fun h5 => ?_, fun h5 => ⟨fun h6 => ?_, fun h6 => ?_⟩⟩⟩⟩⟩⟩
    · have h1 : op = 1 := by simpa using h1
      subst h1
      exact l3 hit hy hok hl hrgl hpre next
    · exact j4 hit hy hok hl hpre (.inl (by simpa using h2)) next
    · exact j4 hit hy hok hl hpre (.inr (by simpa using h3)) next
    all_goals
      have h1 : op ≠ 1 := by simpa using h1
      have h2 : op ≠ 2 := by simpa using h2
      have h3 : op ≠ 3 := by simpa using h3
      have hsame := same h1 h2 h3
    · rw [hsame]
      exact j1 hit hy hok hl hpre next
    · rw [hsame]
      exact j1 hit hy hok hl hpre next
    · rw [hsame]
      exact j1 hit hy hok hl hpre next
    · exfalso
      have h4 : op ≠ 4 := by simpa using h4
      have h5 : op ≠ 5 := by simpa using h5
      have h6 : op ≠ 6 := by simpa using h6
      rcases hok with ⟨q, _⟩ | ⟨q, _⟩
      · exact h1 q
      · simp only at q; omega
  · have hge : k = l.length := by have := of_decide_eq_false hge; omega
    subst hge
    rw [List.take_length, hc]
    exact ⟨fun h => (by cases h), fun _ => hI⟩

section
variable (ok : EnvOk (env Try.prog))
include ok

theorem c4 {a : Option Addr} {n c : Nat} {s : ByteArray} {H : KH} (hu : U8 H a n) : Does (env Try.prog) 4 [.slice a n c, .string s] H fun v _ => v = .bool true := by
  refine fn4 ok (c6 ⟨true, rfl, fun h => (by cases h), fun _ => ⟨fun _ => rfl, fun h1 => ⟨fun _ => rfl, fun h2 => ?_⟩⟩⟩)
  have h1 : n ≤ 20 := by have := of_decide_eq_false h1; omega
  refine c7 ok hu (by omega) fun p H2 hp => ⟨p, 0, rfl, c8 ok hp fun s0 K' H6 hpar hadv hsz hle hpk => ⟨s0, rfl, fun n8 hn8 => ?_⟩⟩
  unfold vc4_L9
  have hat : (H6.new n8 (mkEnt [.string s0, .string s] 0)) n8 = some (mkEnt [.string s0, .string s] 0) := if_pos rfl
  generalize H6.new n8 (mkEnt [.string s0, .string s] 0) = HB at *
  refine ⟨fun n3 a4 n5 n6 x7 H8 => a4 = some ⟨n8, 0, none⟩ ∧ n5 = 2 ∧ ∃ i : Nat, x7 = i ∧ i ≤ 2 ∧ n3 = 2 - i ∧ Le HB H8, ⟨2, rfl, rfl, 0, rfl, by omega, rfl, Le.refl _⟩, ?_⟩
  rintro n3 a4 n5 n6 x7 H8 ⟨rfl, rfl, i, rfl, hi, rfl, hl8⟩
  refine ⟨fun hlt => ?_, fun _ => rfl⟩
  have hlt : i < 2 := by have := of_decide_eq_true hlt; omega
  have e0 : Int.toNat ((i : Nat) : Int) = i := by omega
  obtain ⟨t, ht, hmade⟩ : ∃ t : ByteArray, ([.string s0, .string s] : List Value)[i]? = some (.string t) ∧ (i = 0 → ∃ l, parseR t = some l) := by
    have : i = 0 ∨ i = 1 := by omega
    rcases this with rfl | rfl
    · exact ⟨s0, rfl, fun _ => hpar⟩
    · exact ⟨s, rfl, fun h => by cases h⟩
  have next : ∀ H' : KH, Le HB H' → ∃ m', m' < 2 - i ∧ ((some ⟨n8, 0, none⟩ : Option Addr) = some ⟨n8, 0, none⟩ ∧ 2 = 2 ∧ ∃ i' : Nat, IntKind.wrap .i64 ((i : Nat) + 1) = i' ∧ i' ≤ 2 ∧ m' = 2 - i' ∧ Le HB H') := fun H' hl =>
    ⟨2 - (i + 1), by omega, rfl, rfl, i + 1, by rw [wrap64 (by omega) (by omega)]; omega, by omega, rfl, hl⟩
  refine ⟨⟨by omega, by omega⟩, n8, 0, rfl, t, hl8.ld (by rw [e0]; exact litAt hat ht), c9 ok (fun hn H' hl => ⟨_, _, _, _, rfl, fun _ => ⟨fun h0 => ?_, fun h0 => ⟨fun h => (by cases h), fun _ => next H' (hl8.trans hl)⟩⟩, fun h => (by cases h)⟩) fun l hl a' c' H' hle' hit => ⟨_, _, _, _, rfl, fun h => (by cases h), fun _ => ?_⟩⟩
  · have h0 : i = 0 := by have := of_decide_eq_true h0; omega
    obtain ⟨l, hl'⟩ := hmade h0
    rw [hl'] at hn; cases hn
  · obtain ⟨hf, hc⟩ := parse_fine hl
    obtain ⟨hb1, hb2⟩ := parse_small hl
    exact l7 hit hf hc (by omega) hb2 (next H' (hl8.trans hle'))
end
end Va
end Go.Proofs.Ytphgchjoglgeeaa
