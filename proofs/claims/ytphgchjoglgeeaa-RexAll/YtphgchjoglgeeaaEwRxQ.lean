/- Patterns that are made are patterns; items of a pattern leave one. -/
import Derived.Test.YtphgchjoglgeeaaEwRx6
set_option linter.unusedVariables false
set_option linter.unusedSimpArgs false
namespace Go.Ew
open Go.Ev Go.Deep

theorem foldT_app : ∀ (l m : List (Int × Bool)) (σ : RdS), foldT σ (l ++ m) = (foldT σ l).bind fun τ => foldT τ m
  | [], m, σ => rfl
  | (c, e) :: l, m, σ => by
    simp only [List.cons_append, foldT]
    cases takeR σ c e with
    | none => rfl
    | some τ => exact foldT_app l m τ

def Good (σ : RdS) : Prop := σ.cls = none ∧ σ.outer = [] ∧ (σ.atoms = 0 ∨ σ.atoms = 1 ∨ σ.atoms = 2)
def Some1 (σ : RdS) : Prop := σ.atoms = 1 ∨ σ.atoms = 2

/-- It goes on to something. -/
def Adv (l : List Int) : Prop := ∀ (σ : RdS) (r : List Int), Good σ → ∃ τ, Good τ ∧ Some1 τ ∧ foldT σ (letL (l ++ r) false) = foldT τ (letL r false)
/-- It goes on where something is. -/
def Suf (l : List Int) : Prop := ∀ (σ : RdS) (r : List Int), Good σ → Some1 σ → ∃ τ, Good τ ∧ Some1 τ ∧ foldT σ (letL (l ++ r) false) = foldT τ (letL r false)

theorem Adv.suf {l m : List Int} (h : Adv l) (k : Suf m) : Adv (l ++ m) := fun σ r hg => by
  obtain ⟨τ, g1, g2, g3⟩ := h σ (m ++ r) hg
  obtain ⟨ρ, k1, k2, k3⟩ := k τ r g1 g2
  exact ⟨ρ, k1, k2, by rw [List.append_assoc, g3, k3]⟩
theorem Adv.toSuf {l : List Int} (h : Adv l) : Suf l := fun σ r hg _ => h σ r hg
theorem Suf.app {l m : List Int} (h : Suf l) (k : Suf m) : Suf (l ++ m) := fun σ r hg hs => by
  obtain ⟨τ, g1, g2, g3⟩ := h σ (m ++ r) hg hs
  obtain ⟨ρ, k1, k2, k3⟩ := k τ r g1 g2
  exact ⟨ρ, k1, k2, by rw [List.append_assoc, g3, k3]⟩
theorem Suf.nil : Suf [] := fun σ r hg hs => ⟨σ, hg, hs, rfl⟩

theorem adv_of {l : List Int} {ls : List (Int × Bool)} (hl : ∀ r, letL (l ++ r) false = ls ++ letL r false)
    (h : ∀ (items : List It) (b : Bool) (a : Int), a = 0 ∨ a = 1 ∨ a = 2 → ∃ τ, foldT ⟨items, [], b, a, none⟩ ls = some τ ∧ Good τ ∧ Some1 τ) : Adv l := fun σ r hg => by
  obtain ⟨items, outer, b, a, cls⟩ := σ
  obtain ⟨h1, h2, h3⟩ := hg
  cases h1
  cases h2
  obtain ⟨τ, k1, k2, k3⟩ := h items b a h3
  exact ⟨τ, k2, k3, by rw [hl, foldT_app, k1]; rfl⟩

theorem suf_of {l : List Int} {ls : List (Int × Bool)} (hl : ∀ r, letL (l ++ r) false = ls ++ letL r false)
    (h : ∀ (items : List It) (b : Bool) (a : Int), a = 1 ∨ a = 2 → ∃ τ, foldT ⟨items, [], b, a, none⟩ ls = some τ ∧ Good τ ∧ Some1 τ) : Suf l := fun σ r hg hs => by
  obtain ⟨items, outer, b, a, cls⟩ := σ
  obtain ⟨h1, h2, h3⟩ := hg
  cases h1
  cases h2
  obtain ⟨τ, k1, k2, k3⟩ := h items b a hs
  exact ⟨τ, k2, k3, by rw [hl, foldT_app, k1]; rfl⟩

theorem good1 {items : List It} {b : Bool} : Good ⟨items, [], b, 1, none⟩ ∧ Some1 ⟨items, [], b, 1, none⟩ := ⟨⟨rfl, rfl, .inr (.inl rfl)⟩, .inl rfl⟩
theorem good2 {items : List It} {b : Bool} : Good ⟨items, [], b, 2, none⟩ ∧ Some1 ⟨items, [], b, 2, none⟩ := ⟨⟨rfl, rfl, .inr (.inr rfl)⟩, .inr rfl⟩

theorem adv_a : Adv [97] := adv_of (ls := [(97, false)]) (fun r => rfl) fun items b a h => by
  rcases h with rfl | rfl | rfl
  · exact ⟨_, rfl, good1⟩
  · exact ⟨_, rfl, good2⟩
  · exact ⟨_, rfl, good2⟩
theorem adv_b : Adv [98] := adv_of (ls := [(98, false)]) (fun r => rfl) fun items b a h => by
  rcases h with rfl | rfl | rfl
  · exact ⟨_, rfl, good1⟩
  · exact ⟨_, rfl, good2⟩
  · exact ⟨_, rfl, good2⟩
theorem adv_c1 : Adv [91, 97, 98, 93] := adv_of (ls := [(91, false), (97, false), (98, false), (93, false)]) (fun r => rfl) fun items b a h => by
  rcases h with rfl | rfl | rfl
  · exact ⟨_, rfl, good1⟩
  · exact ⟨_, rfl, good2⟩
  · exact ⟨_, rfl, good2⟩
theorem adv_ab : Adv [97, 98] := adv_of (ls := [(97, false), (98, false)]) (fun r => rfl) fun items b a h => by
  rcases h with rfl | rfl | rfl
  · exact ⟨_, rfl, good2⟩
  · exact ⟨_, rfl, good2⟩
  · exact ⟨_, rfl, good2⟩
theorem adv_g1 : Adv [40, 97, 124, 98, 41] := adv_of (ls := [(40, false), (97, false), (124, false), (98, false), (41, false)]) (fun r => rfl) fun items b a h => by
  rcases h with rfl | rfl | rfl
  · exact ⟨_, rfl, good1⟩
  · exact ⟨_, rfl, good2⟩
  · exact ⟨_, rfl, good2⟩
theorem adv_c2 : Adv [91, 97, 45, 99, 48, 45, 49, 93] := adv_of (ls := [(91, false), (97, false), (45, false), (99, false), (48, false), (45, false), (49, false), (93, false)]) (fun r => rfl) fun items b a h => by
  rcases h with rfl | rfl | rfl
  · exact ⟨_, rfl, good1⟩
  · exact ⟨_, rfl, good2⟩
  · exact ⟨_, rfl, good2⟩
theorem adv_g2 : Adv [40, 97, 98, 124, 97, 41] := adv_of (ls := [(40, false), (97, false), (98, false), (124, false), (97, false), (41, false)]) (fun r => rfl) fun items b a h => by
  rcases h with rfl | rfl | rfl
  · exact ⟨_, rfl, good1⟩
  · exact ⟨_, rfl, good2⟩
  · exact ⟨_, rfl, good2⟩
theorem adv_dot : Adv [46] := adv_of (ls := [(46, false)]) (fun r => rfl) fun items b a h => by
  rcases h with rfl | rfl | rfl
  · exact ⟨_, rfl, good1⟩
  · exact ⟨_, rfl, good2⟩
  · exact ⟨_, rfl, good2⟩
theorem adv_plus : Adv [92, 43] := adv_of (ls := [(43, true)]) (fun r => rfl) fun items b a h => by
  rcases h with rfl | rfl | rfl
  · exact ⟨_, rfl, good1⟩
  · exact ⟨_, rfl, good2⟩
  · exact ⟨_, rfl, good2⟩

theorem suf_star : Suf [42] := suf_of (ls := [(42, false)]) (fun r => rfl) fun items b a h => by
  rcases h with rfl | rfl
  · exact ⟨_, rfl, good1⟩
  · exact ⟨_, rfl, good2⟩
theorem suf_plus : Suf [43] := suf_of (ls := [(43, false)]) (fun r => rfl) fun items b a h => by
  rcases h with rfl | rfl
  · exact ⟨_, rfl, good1⟩
  · exact ⟨_, rfl, good2⟩
theorem suf_may : Suf [63] := suf_of (ls := [(63, false)]) (fun r => rfl) fun items b a h => by
  rcases h with rfl | rfl
  · exact ⟨_, rfl, good1⟩
  · exact ⟨_, rfl, good2⟩
theorem suf_or1 : Suf [124, 98] := suf_of (ls := [(124, false), (98, false)]) (fun r => rfl) fun items b a h => by
  rcases h with rfl | rfl <;> cases b <;> exact ⟨_, rfl, good1⟩
theorem suf_or2 : Suf [124, 98, 97] := suf_of (ls := [(124, false), (98, false), (97, false)]) (fun r => rfl) fun items b a h => by
  rcases h with rfl | rfl <;> cases b <;> exact ⟨_, rfl, good2⟩
theorem suf_or3 : Suf [124, 99, 43] := suf_of (ls := [(124, false), (99, false), (43, false)]) (fun r => rfl) fun items b a h => by
  rcases h with rfl | rfl <;> cases b <;> exact ⟨_, rfl, good1⟩

theorem bytes_app (a b : ByteArray) : bytesI (a ++ b) = bytesI a ++ bytesI b := by
  unfold bytesI
  rw [ByteArray.data_append, Array.toList_append, List.map_append]

/-- What goes on from the beginning is a pattern. -/
theorem adv_parse {s : ByteArray} (h : Adv (bytesI s)) (h1 : 1 ≤ s.size) (h2 : s.size ≤ 24) : ∃ l, parseR s = some l := by
  obtain ⟨τ, g1, g2, g3⟩ := h rd0 [] ⟨rfl, rfl, .inl rfl⟩
  rw [List.append_nil] at g3
  have g3 : foldT rd0 (letL (bytesI s) false) = some τ := g3
  obtain ⟨c1, c2, c3⟩ := g1
  have hne : τ.atoms ≠ 0 := by rcases g2 with q | q <;> omega
  obtain ⟨ρ, hρ⟩ : ∃ ρ, endR τ = some ρ := by unfold endR; rw [if_neg hne]; exact ⟨_, rfl⟩
  refine ⟨ρ.items, ?_⟩
  unfold parseR
  rw [if_neg (by omega)]
  unfold readR
  rw [g3]
  have : finR τ = endR τ := by unfold finR; rw [c1, c2]; rfl
  simp only [this, hρ]

/- How many are left. -/

def cntI : List It → Int
  | [] => 0
  | (op, l) :: r => (if op = 1 then 1 else if op = 2 ∨ op = 3 then -1 else 0) + cntI r

theorem cnt_app : ∀ (a b : List It), cntI (a ++ b) = cntI a + cntI b
  | [], b => by simp [cntI]
  | (op, l) :: r, b => by simp only [List.cons_append, cntI, cnt_app r b]; omega

def okRg (r : Rg) : Prop := r.1 ≤ r.2 ∧ 32 ≤ r.1 ∧ r.2 ≤ 126
def okIt (i : It) : Prop := (i.1 = 1 ∧ i.2 ≠ [] ∧ ∀ r ∈ i.2, okRg r) ∨ ((i.1 = 2 ∨ i.1 = 3 ∨ i.1 = 4 ∨ i.1 = 5 ∨ i.1 = 6) ∧ i.2 = [])

/-- Each is one, and ahead of it there was enough. -/
structure Fine (l : List It) : Prop where
  each : ∀ i ∈ l, okIt i
  pre : ∀ k, 0 < k → k ≤ l.length → 1 ≤ cntI (l.take k)

theorem Fine.app {l : List It} {i : It} (h : Fine l) (hi : okIt i) (hc : 1 ≤ cntI (l ++ [i])) : Fine (l ++ [i]) := by
  refine ⟨fun j hj => ?_, fun k h1 h2 => ?_⟩
  · rcases List.mem_append.1 hj with hj | hj
    · exact h.each j hj
    · have : j = i := by simpa using hj
      subst this; exact hi
  · simp only [List.length_append, List.length_cons, List.length_nil] at h2
    by_cases hk : k ≤ l.length
    · rw [List.take_append_of_le_length hk]
      exact h.pre k h1 hk
    · have : k = (l ++ [i]).length := by simp; omega
      rw [this, List.take_length]
      exact hc

def b1 (b : Bool) : Int := if b = true then 1 else 0
def outC : List (Bool × Int) → Int
  | [] => 0
  | g :: r => g.2 + b1 g.1 + outC r
theorem outC_app : ∀ (a b : List (Bool × Int)), outC (a ++ b) = outC a + outC b
  | [], b => by simp [outC]
  | g :: r, b => by simp only [List.cons_append, outC, outC_app r b]; omega
theorem b1_nn (b : Bool) : 0 ≤ b1 b ∧ b1 b ≤ 1 := by cases b <;> decide

/-- What was read is in order. -/
structure Iv (σ : RdS) : Prop where
  fine : Fine σ.items
  cnt : cntI σ.items = σ.atoms + b1 σ.parted + outC σ.outer
  at_ : 0 ≤ σ.atoms ∧ σ.atoms ≤ 2
  out : ∀ g ∈ σ.outer, 0 ≤ g.2 ∧ g.2 ≤ 1
  cls : ∀ l pl, σ.cls = some (l, pl) → ∀ r ∈ l, okRg r

theorem outC_nn : ∀ {l : List (Bool × Int)}, (∀ g ∈ l, 0 ≤ g.2 ∧ g.2 ≤ 1) → 0 ≤ outC l
  | [], _ => by simp [outC]
  | g :: r, h => by
    have h1 := h g (by simp)
    have h2 := outC_nn (l := r) fun x hx => h x (by simp [hx])
    have := b1_nn g.1
    simp only [outC]; omega

theorem Iv.put {σ : RdS} (h : Iv σ) {op : Int} (ho : op = 4 ∨ op = 5 ∨ op = 6) (ha : σ.atoms ≠ 0) : Iv (putR σ op) := by
  have hn := outC_nn h.out
  have hb := b1_nn σ.parted
  have hc : cntI (σ.items ++ [(op, [])]) = cntI σ.items := by
    rw [cnt_app]; simp only [cntI]; rw [if_neg (by omega), if_neg (by omega)]; omega
  refine ⟨h.fine.app (.inr ⟨by omega, rfl⟩) ?_, ?_, h.at_, h.out, h.cls⟩
  · rw [hc, h.cnt]; have := h.at_; omega
  · show cntI (σ.items ++ [(op, [])]) = _
    rw [hc]; exact h.cnt

theorem Iv.join {σ : RdS} (h : Iv σ) : Iv (joinR σ) := by
  unfold joinR
  split
  · rename_i h2
    have hn := outC_nn h.out
    have hb := b1_nn σ.parted
    have hc : cntI (σ.items ++ [(2, [])]) = cntI σ.items - 1 := by rw [cnt_app]; simp only [cntI]; rfl
    refine ⟨h.fine.app (.inr ⟨.inl rfl, rfl⟩) ?_, ?_, (show (0 : Int) ≤ 1 ∧ (1 : Int) ≤ 2 by decide), h.out, h.cls⟩
    · rw [hc, h.cnt]; omega
    · show cntI (σ.items ++ [(2, [])]) = 1 + b1 σ.parted + outC σ.outer
      rw [hc, h.cnt]; omega
  · exact h

theorem Iv.add {σ : RdS} (h : Iv σ) {l : List Rg} (hl : l ≠ []) (hr : ∀ r ∈ l, okRg r) : Iv (addClassR σ l) := by
  have hj := h.join
  have hja := join_atoms h.at_
  have hn := outC_nn hj.out
  have hb := b1_nn (joinR σ).parted
  have hc : cntI ((joinR σ).items ++ [(1, l)]) = cntI (joinR σ).items + 1 := by rw [cnt_app]; simp only [cntI]; rfl
  refine ⟨hj.fine.app (.inl ⟨rfl, hl, hr⟩) ?_, ?_, ?_, hj.out, hj.cls⟩
  · rw [hc, hj.cnt]; omega
  · show cntI ((joinR σ).items ++ [(1, l)]) = ((joinR σ).atoms + 1) + b1 (joinR σ).parted + outC (joinR σ).outer
    rw [hc, hj.cnt]; omega
  · show 0 ≤ (joinR σ).atoms + 1 ∧ (joinR σ).atoms + 1 ≤ 2
    omega

theorem Iv.end_ {σ τ : RdS} (h : Iv σ) (he : endR σ = some τ) : Iv τ ∧ τ.parted = true ∧ τ.atoms = 0 ∧ τ.outer = σ.outer := by
  have ho := end_outer he
  unfold endR at he
  split at he
  · cases he
  · rename_i h0
    cases he
    have hj := h.join
    have hja := join_atoms h.at_
    have hjz := join_zero h0
    have hn := outC_nn hj.out
    refine ⟨?_, rfl, rfl, ho⟩
    by_cases hp : (joinR σ).parted = true
    · have hc : cntI ((joinR σ).items ++ [(3, [])]) = cntI (joinR σ).items - 1 := by rw [cnt_app]; simp only [cntI]; rfl
      have hcn := hj.cnt
      rw [hp] at hcn
      have e1 : b1 true = 1 := rfl
      rw [e1] at hcn
      simp only [if_pos hp]
      refine ⟨hj.fine.app (.inr ⟨.inr (.inl rfl), rfl⟩) ?_, ?_, (show (0 : Int) ≤ 0 ∧ (0 : Int) ≤ 2 by decide), hj.out, hj.cls⟩
      · rw [hc]; omega
      · show cntI ((joinR σ).items ++ [(3, [])]) = 0 + b1 true + outC (joinR σ).outer
        rw [hc, e1]; omega
    · have hcn := hj.cnt
      have e0 : b1 (joinR σ).parted = 0 := by unfold b1; rw [if_neg hp]
      rw [e0] at hcn
      simp only [if_neg hp]
      refine ⟨hj.fine, ?_, (show (0 : Int) ≤ 0 ∧ (0 : Int) ≤ 2 by decide), hj.out, hj.cls⟩
      show cntI (joinR σ).items = 0 + b1 true + outC (joinR σ).outer
      have e1 : b1 true = 1 := rfl
      rw [e1]; omega

theorem stands_rg {c : Int} {e : Bool} {L : List Int} (h : standsB c e L = true) : 32 ≤ c ∧ c ≤ 126 := by
  unfold standsB at h
  simp only [Bool.and_eq_true, decide_eq_true_eq] at h
  exact ⟨h.1, h.2.1⟩

theorem Iv.mark {σ τ : RdS} {c : Int} (h : Iv σ) (hcl : σ.cls = none) (ht : markR σ c = some τ) : Iv τ := by
  unfold markR at ht
  split at ht
  · unfold openR at ht
    split at ht
    · cases ht
      have hj := h.join
      have hja := join_atoms h.at_
      refine ⟨hj.fine, ?_, (show (0 : Int) ≤ 0 ∧ (0 : Int) ≤ 2 by decide), fun g hg => ?_, hj.cls⟩
      · show cntI (joinR σ).items = 0 + b1 false + outC ((joinR σ).outer ++ [((joinR σ).parted, (joinR σ).atoms)])
        rw [outC_app, hj.cnt]
        simp only [outC]
        have e0 : b1 false = 0 := rfl
        rw [e0]; omega
      · rcases List.mem_append.1 hg with hg | hg
        · exact hj.out g hg
        · have : g = ((joinR σ).parted, (joinR σ).atoms) := by simpa using hg
          subst this; exact hja
    · cases ht
  split at ht
  · unfold closeR at ht
    split at ht
    · cases ht
    · rename_i g hg
      split at ht
      · cases ht
      · rename_i τ' he
        cases ht
        obtain ⟨i1, i2, i3, i4⟩ := h.end_ he
        have hne : σ.outer ≠ [] := fun e => by rw [e] at hg; cases hg
        have hsp : σ.outer = σ.outer.dropLast ++ [g] := by
          have := List.dropLast_concat_getLast hne
          rw [List.getLast?_eq_some_getLast hne] at hg
          cases hg
          exact this.symm
        have hgm := h.out g (by rw [hsp]; simp)
        refine ⟨i1.fine, ?_, ?_, fun x hx => h.out x (by rw [hsp]; simp [hx]), i1.cls⟩
        · show cntI τ'.items = (g.2 + 1) + b1 g.1 + outC σ.outer.dropLast
          have := i1.cnt
          rw [i2, i3, i4, hsp, outC_app] at this
          simp only [outC] at this
          have e1 : b1 true = 1 := rfl
          rw [e1] at this
          omega
        · show 0 ≤ g.2 + 1 ∧ g.2 + 1 ≤ 2
          omega
  split at ht
  · unfold openC at ht
    split at ht
    · cases ht
      exact ⟨h.fine, h.cnt, h.at_, h.out, fun l pl q => by cases q; simp⟩
    · cases ht
  split at ht
  · cases ht
    exact h.add (by simp) (by simp [okRg])
  split at ht
  · exact (h.end_ ht).1
  have rep : ∀ op, (op = 4 ∨ op = 5 ∨ op = 6) → repeatR σ op = some τ → Iv τ := fun op ho ht => by
    unfold repeatR at ht
    split at ht
    · cases ht
    · rename_i h0
      cases ht
      exact h.put ho h0
  split at ht
  · exact rep _ (by decide) ht
  split at ht
  · exact rep _ (by decide) ht
  split at ht
  · exact rep _ (by decide) ht
  · cases ht

theorem Iv.take {σ τ : RdS} {c : Int} {e : Bool} (h : Iv σ) (ht : takeR σ c e = some τ) : Iv τ := by
  unfold takeR at ht
  split at ht
  · rename_i l pl hc
    have hr := h.cls l pl hc
    unfold inClassR at ht
    split at ht
    · rename_i hst
      have hcr := stands_rg hst
      split at ht
      · rename_i x hx
        cases ht
        refine ⟨h.fine, h.cnt, h.at_, h.out, fun m pl' q r hm => ?_⟩
        have q : x = (m, pl') := Option.some.inj q
        subst q
        unfold addC at hx
        split at hx
        · cases hx
          rcases List.mem_append.1 hm with hm | hm
          · exact hr r hm
          · have : r = (c, c) := by simpa using hm
            subst this; exact ⟨Int.le_refl _, hcr.1, hcr.2⟩
        · split at hx
          · cases hx
          · rename_i r' hr'
            split at hx
            · cases hx
            · rename_i hlt
              cases hx
              have hl2 := hr r' (List.mem_of_getLast? hr')
              rcases List.mem_append.1 hm with hm | hm
              · exact hr r ((List.dropLast_subset l) hm)
              · have : r = (r'.1, c) := by simpa using hm
                subst this
                exact ⟨by show r'.1 ≤ c; omega, hl2.2.1, hcr.2⟩
      · cases ht
    · split at ht
      · split at ht
        · cases ht
          exact ⟨h.fine, h.cnt, h.at_, h.out, fun m pl' q => by cases q; exact hr⟩
        · cases ht
      · split at ht
        · split at ht
          · rename_i hw
            cases ht
            have hne : l ≠ [] := fun q => by subst q; simp [wholeC] at hw
            have := h.add hne hr
            exact ⟨this.fine, this.cnt, this.at_, this.out, fun m pl' q => by cases q⟩
          · cases ht
        · cases ht
  · rename_i hc
    split at ht
    · rename_i hst
      have hcr := stands_rg hst
      cases ht
      refine h.add (by simp) fun r hr => ?_
      have : r = (c, c) := by simpa using hr
      subst this; exact ⟨Int.le_refl _, hcr.1, hcr.2⟩
    · exact h.mark hc ht

theorem Iv.fold : ∀ {l : List (Int × Bool)} {σ τ : RdS}, Iv σ → foldT σ l = some τ → Iv τ
  | [], σ, τ, h, hf => by cases hf; exact h
  | (c, e) :: l, σ, τ, h, hf => by
    rw [foldT] at hf
    cases ht : takeR σ c e with
    | none => rw [ht] at hf; cases hf
    | some ρ => rw [ht] at hf; exact Iv.fold (h.take ht) hf

theorem parse_fine {s : ByteArray} {l : List It} (h : parseR s = some l) : Fine l ∧ cntI l = 1 := by
  unfold parseR at h
  split at h
  · cases h
  · unfold readR at h
    split at h
    · cases h
    · rename_i σ hf
      split at h
      · cases h
      · rename_i τ he
        cases h
        have f0 : Fine rd0.items := ⟨fun i hi => (by cases hi), fun k h1 h2 => by
          have : k ≤ 0 := h2
          omega⟩
        have h0 : Iv rd0 := ⟨f0, rfl, (show (0 : Int) ≤ 0 ∧ (0 : Int) ≤ 2 by decide), fun g hg => (by cases hg), fun l pl q => (by cases q)⟩
        have h1 := h0.fold hf
        unfold finR at he
        split at he
        · cases he
        · split at he
          · rename_i hout
            obtain ⟨i1, i2, i3, i4⟩ := h1.end_ he
            have hnil : σ.outer = [] := List.eq_nil_of_length_eq_zero hout
            have := i1.cnt
            rw [i2, i3, i4, hnil] at this
            exact ⟨i1.fine, this⟩
          · cases he
end Go.Ew
