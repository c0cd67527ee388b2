/- Brackets around a pattern; two parted by a bar, or joined. -/
import Derived.Test.YtphgchjoglgeeaaEwRxQ
set_option linter.unusedVariables false
set_option linter.unusedSimpArgs false
namespace Go.Ew
open Go.Ev Go.Deep

/-- With more items ahead. -/
def pre (P : List It) (σ : RdS) : RdS := { σ with items := P ++ σ.items }

theorem pre_put (P : List It) (σ : RdS) (op : Int) : putR (pre P σ) op = pre P (putR σ op) := by simp [putR, pre]
theorem pre_join (P : List It) (σ : RdS) : joinR (pre P σ) = pre P (joinR σ) := by
  unfold joinR
  show (if σ.atoms = 2 then _ else _) = _
  by_cases h : σ.atoms = 2
  · rw [if_pos h, if_pos h]; simp [putR, pre]
  · rw [if_neg h, if_neg h]
theorem pre_add (P : List It) (σ : RdS) (l : List Rg) : addClassR (pre P σ) l = pre P (addClassR σ l) := by
  unfold addClassR
  rw [pre_join]
  simp [pre]
theorem pre_end (P : List It) (σ : RdS) : endR (pre P σ) = (endR σ).map (pre P) := by
  unfold endR
  rw [pre_join]
  show (if σ.atoms = 0 then _ else _) = _
  by_cases h : σ.atoms = 0
  · rw [if_pos h, if_pos h]; rfl
  · rw [if_neg h, if_neg h]
    show some { (if (joinR σ).parted = true then putR (pre P (joinR σ)) 3 else pre P (joinR σ)) with parted := true, atoms := 0 } = _
    by_cases hp : (joinR σ).parted = true
    · simp only [if_pos hp, pre_put]; rfl
    · simp only [if_neg hp]; rfl
theorem pre_rep (P : List It) (σ : RdS) (op : Int) : repeatR (pre P σ) op = (repeatR σ op).map (pre P) := by
  unfold repeatR
  show (if σ.atoms = 0 then _ else _) = _
  by_cases h : σ.atoms = 0
  · rw [if_pos h, if_pos h]; rfl
  · rw [if_neg h, if_neg h, pre_put]; rfl
theorem pre_open (P : List It) (σ : RdS) : openR (pre P σ) = (openR σ).map (pre P) := by
  unfold openR
  rw [pre_join]
  show (if σ.outer.length < 12 then _ else _) = _
  by_cases h : σ.outer.length < 12
  · rw [if_pos h, if_pos h]; rfl
  · rw [if_neg h, if_neg h]; rfl
theorem pre_close (P : List It) (σ : RdS) : closeR (pre P σ) = (closeR σ).map (pre P) := by
  unfold closeR
  rw [pre_end]
  show (match σ.outer.getLast? with | none => none | some g => _) = _
  cases σ.outer.getLast? with
  | none => rfl
  | some g =>
    cases endR σ with
    | none => rfl
    | some τ => rfl
theorem pre_openC (P : List It) (σ : RdS) : openC (pre P σ) = (openC σ).map (pre P) := by
  unfold openC
  show (if σ.outer.length < 12 then _ else _) = _
  by_cases h : σ.outer.length < 12
  · rw [if_pos h, if_pos h]; rfl
  · rw [if_neg h, if_neg h]; rfl

theorem pre_take (P : List It) (σ : RdS) (c : Int) (e : Bool) : takeR (pre P σ) c e = (takeR σ c e).map (pre P) := by
  obtain ⟨items, outer, b, a, cls⟩ := σ
  cases cls with
  | some x =>
    obtain ⟨l, pl⟩ := x
    show inClassR _ l pl c e = (inClassR _ l pl c e).map _
    unfold inClassR
    split
    · cases addC l pl c <;> rfl
    · split
      · split <;> rfl
      · split
        · split
          · rw [pre_add]; rfl
          · rfl
        · rfl
  | none =>
    show (if standsB c e marksB = true then _ else _) = Option.map _ (if standsB c e marksB = true then _ else _)
    split
    · rw [pre_add]; rfl
    · unfold markR
      split
      · exact pre_open P _
      split
      · exact pre_close P _
      split
      · exact pre_openC P _
      split
      · rw [pre_add]; rfl
      split
      · exact pre_end P _
      split
      · exact pre_rep P _ _
      split
      · exact pre_rep P _ _
      split
      · exact pre_rep P _ _
      · rfl

theorem pre_fold (P : List It) : ∀ (l : List (Int × Bool)) (σ : RdS), foldT (pre P σ) l = (foldT σ l).map (pre P)
  | [], σ => rfl
  | (c, e) :: l, σ => by
    simp only [foldT, pre_take]
    cases takeR σ c e with
    | none => rfl
    | some τ => exact pre_fold P l τ

/-- It goes on to something, in a group or not. -/
def Go1 (ls : List (Int × Bool)) (b : Bool) (a : Int) : Prop := ∃ I b' a', (a' = 1 ∨ a' = 2) ∧ foldT ⟨[], [], b, a, none⟩ ls = some ⟨I, [], b', a', none⟩ ∧ ∀ g, foldT ⟨[], [g], b, a, none⟩ ls = some ⟨I, [g], b', a', none⟩

def AdvE (l : List Int) : Prop := ∃ ls, (∀ r, letL (l ++ r) false = ls ++ letL r false) ∧ ∀ b a, (a = 0 ∨ a = 1 ∨ a = 2) → Go1 ls b a
def SufE (l : List Int) : Prop := ∃ ls, (∀ r, letL (l ++ r) false = ls ++ letL r false) ∧ ∀ b a, (a = 1 ∨ a = 2) → Go1 ls b a

theorem go_app {ls ms : List (Int × Bool)} {b : Bool} {a : Int} (h : Go1 ls b a) (k : ∀ b a, (a = 1 ∨ a = 2) → Go1 ms b a) : Go1 (ls ++ ms) b a := by
  obtain ⟨I, b1, a1, h1, h2, h3⟩ := h
  obtain ⟨J, b2, a2, k1, k2, k3⟩ := k b1 a1 h1
  refine ⟨I ++ J, b2, a2, k1, ?_, fun g => ?_⟩
  · rw [foldT_app, h2]
    have := pre_fold I ms ⟨[], [], b1, a1, none⟩
    rw [k2] at this
    simpa [pre] using this
  · rw [foldT_app, h3 g]
    have := pre_fold I ms ⟨[], [g], b1, a1, none⟩
    rw [k3 g] at this
    simpa [pre] using this

theorem AdvE.suf {l m : List Int} (h : AdvE l) (k : SufE m) : AdvE (l ++ m) := by
  obtain ⟨ls, h1, h2⟩ := h
  obtain ⟨ms, k1, k2⟩ := k
  exact ⟨ls ++ ms, fun r => by rw [List.append_assoc, h1, k1, List.append_assoc], fun b a ha => go_app (h2 b a ha) k2⟩
theorem AdvE.toSuf {l : List Int} (h : AdvE l) : SufE l := by
  obtain ⟨ls, h1, h2⟩ := h
  exact ⟨ls, h1, fun b a ha => h2 b a (.inr ha)⟩
theorem SufE.nil : SufE [] := ⟨[], fun r => rfl, fun b a ha => ⟨[], b, a, ha, rfl, fun g => rfl⟩⟩

theorem ad3 {l : List Int} {ls : List (Int × Bool)} (hl : ∀ r, letL (l ++ r) false = ls ++ letL r false) (h0 : ∀ b, Go1 ls b 0) (h1 : ∀ b, Go1 ls b 1) (h2 : ∀ b, Go1 ls b 2) : AdvE l :=
  ⟨ls, hl, fun b a ha => by
    rcases ha with rfl | rfl | rfl
    · exact h0 b
    · exact h1 b
    · exact h2 b⟩
theorem su2 {l : List Int} {ls : List (Int × Bool)} (hl : ∀ r, letL (l ++ r) false = ls ++ letL r false) (h1 : ∀ b, Go1 ls b 1) (h2 : ∀ b, Go1 ls b 2) : SufE l :=
  ⟨ls, hl, fun b a ha => by
    rcases ha with rfl | rfl
    · exact h1 b
    · exact h2 b⟩

theorem ade_a : AdvE [97] := ad3 (ls := [(97, false)]) (fun r => rfl) (fun b => ⟨_, _, _, .inl rfl, rfl, fun g => rfl⟩) (fun b => ⟨_, _, _, .inr rfl, rfl, fun g => rfl⟩) (fun b => ⟨_, _, _, .inr rfl, rfl, fun g => rfl⟩)
theorem ade_b : AdvE [98] := ad3 (ls := [(98, false)]) (fun r => rfl) (fun b => ⟨_, _, _, .inl rfl, rfl, fun g => rfl⟩) (fun b => ⟨_, _, _, .inr rfl, rfl, fun g => rfl⟩) (fun b => ⟨_, _, _, .inr rfl, rfl, fun g => rfl⟩)
theorem ade_c1 : AdvE [91, 97, 98, 93] := ad3 (ls := [(91, false), (97, false), (98, false), (93, false)]) (fun r => rfl) (fun b => ⟨_, _, _, .inl rfl, rfl, fun g => rfl⟩) (fun b => ⟨_, _, _, .inr rfl, rfl, fun g => rfl⟩) (fun b => ⟨_, _, _, .inr rfl, rfl, fun g => rfl⟩)
theorem ade_ab : AdvE [97, 98] := ad3 (ls := [(97, false), (98, false)]) (fun r => rfl) (fun b => ⟨_, _, _, .inr rfl, rfl, fun g => rfl⟩) (fun b => ⟨_, _, _, .inr rfl, rfl, fun g => rfl⟩) (fun b => ⟨_, _, _, .inr rfl, rfl, fun g => rfl⟩)
theorem ade_g1 : AdvE [40, 97, 124, 98, 41] := ad3 (ls := [(40, false), (97, false), (124, false), (98, false), (41, false)]) (fun r => rfl) (fun b => ⟨_, _, _, .inl rfl, rfl, fun g => rfl⟩) (fun b => ⟨_, _, _, .inr rfl, rfl, fun g => rfl⟩) (fun b => ⟨_, _, _, .inr rfl, rfl, fun g => rfl⟩)
theorem ade_c2 : AdvE [91, 97, 45, 99, 48, 45, 49, 93] := ad3 (ls := [(91, false), (97, false), (45, false), (99, false), (48, false), (45, false), (49, false), (93, false)]) (fun r => rfl) (fun b => ⟨_, _, _, .inl rfl, rfl, fun g => rfl⟩) (fun b => ⟨_, _, _, .inr rfl, rfl, fun g => rfl⟩) (fun b => ⟨_, _, _, .inr rfl, rfl, fun g => rfl⟩)
theorem ade_g2 : AdvE [40, 97, 98, 124, 97, 41] := ad3 (ls := [(40, false), (97, false), (98, false), (124, false), (97, false), (41, false)]) (fun r => rfl) (fun b => ⟨_, _, _, .inl rfl, rfl, fun g => rfl⟩) (fun b => ⟨_, _, _, .inr rfl, rfl, fun g => rfl⟩) (fun b => ⟨_, _, _, .inr rfl, rfl, fun g => rfl⟩)
theorem ade_dot : AdvE [46] := ad3 (ls := [(46, false)]) (fun r => rfl) (fun b => ⟨_, _, _, .inl rfl, rfl, fun g => rfl⟩) (fun b => ⟨_, _, _, .inr rfl, rfl, fun g => rfl⟩) (fun b => ⟨_, _, _, .inr rfl, rfl, fun g => rfl⟩)
theorem ade_plus : AdvE [92, 43] := ad3 (ls := [(43, true)]) (fun r => rfl) (fun b => ⟨_, _, _, .inl rfl, rfl, fun g => rfl⟩) (fun b => ⟨_, _, _, .inr rfl, rfl, fun g => rfl⟩) (fun b => ⟨_, _, _, .inr rfl, rfl, fun g => rfl⟩)
theorem sue_star : SufE [42] := su2 (ls := [(42, false)]) (fun r => rfl) (fun b => ⟨_, _, _, .inl rfl, rfl, fun g => rfl⟩) (fun b => ⟨_, _, _, .inr rfl, rfl, fun g => rfl⟩)
theorem sue_plus : SufE [43] := su2 (ls := [(43, false)]) (fun r => rfl) (fun b => ⟨_, _, _, .inl rfl, rfl, fun g => rfl⟩) (fun b => ⟨_, _, _, .inr rfl, rfl, fun g => rfl⟩)
theorem sue_may : SufE [63] := su2 (ls := [(63, false)]) (fun r => rfl) (fun b => ⟨_, _, _, .inl rfl, rfl, fun g => rfl⟩) (fun b => ⟨_, _, _, .inr rfl, rfl, fun g => rfl⟩)
theorem sue_or1 : SufE [124, 98] := su2 (ls := [(124, false), (98, false)]) (fun r => rfl) (fun b => by cases b <;> exact ⟨_, _, _, .inl rfl, rfl, fun g => rfl⟩) (fun b => by cases b <;> exact ⟨_, _, _, .inl rfl, rfl, fun g => rfl⟩)
theorem sue_or2 : SufE [124, 98, 97] := su2 (ls := [(124, false), (98, false), (97, false)]) (fun r => rfl) (fun b => by cases b <;> exact ⟨_, _, _, .inr rfl, rfl, fun g => rfl⟩) (fun b => by cases b <;> exact ⟨_, _, _, .inr rfl, rfl, fun g => rfl⟩)
theorem sue_or3 : SufE [124, 99, 43] := su2 (ls := [(124, false), (99, false), (43, false)]) (fun r => rfl) (fun b => by cases b <;> exact ⟨_, _, _, .inl rfl, rfl, fun g => rfl⟩) (fun b => by cases b <;> exact ⟨_, _, _, .inl rfl, rfl, fun g => rfl⟩)

/-- What the end of a piece makes of its items. -/
def fins (I : List It) (b : Bool) (a : Int) : List It := (if a = 2 then I ++ [(2, [])] else I) ++ (if b = true then [(3, [])] else [])

theorem end_is {I : List It} {O : List (Bool × Int)} {b : Bool} {a : Int} (h : a = 1 ∨ a = 2) : endR ⟨I, O, b, a, none⟩ = some ⟨fins I b a, O, true, 0, none⟩ := by
  rcases h with rfl | rfl <;> cases b <;> simp [endR, joinR, putR, fins]

/-- Texts in brackets. -/
theorem wraps {s t : List Int} (hs : AdvE s) (ht : AdvE t) : ∃ E F : List It, (foldT rd0 (letL s false)).bind finR = some ⟨E, [], true, 0, none⟩ ∧ (foldT rd0 (letL t false)).bind finR = some ⟨F, [], true, 0, none⟩ ∧
    (foldT rd0 (letL ([40] ++ s ++ [41]) false)).bind finR = some ⟨E, [], true, 0, none⟩ ∧
    (foldT rd0 (letL ([40] ++ s ++ [41, 124, 40] ++ t ++ [41]) false)).bind finR = some ⟨E ++ F ++ [(3, [])], [], true, 0, none⟩ ∧
    (foldT rd0 (letL ([40] ++ s ++ [41, 40] ++ t ++ [41]) false)).bind finR = some ⟨E ++ F ++ [(2, [])], [], true, 0, none⟩ := by
  obtain ⟨ls, h1, h2⟩ := hs
  obtain ⟨ms, k1, k2⟩ := ht
  obtain ⟨I, b, a, g1, g2, g3⟩ := h2 false 0 (.inl rfl)
  obtain ⟨J, c, d, f1, f2, f3⟩ := k2 false 0 (.inl rfl)
  have ns : ∀ r : List Int, letL (40 :: r) false = (40, false) :: letL r false := fun r => rfl
  have hS : letL s false = ls := by have := h1 []; simpa [letL] using this
  have hT : letL t false = ms := by have := k1 []; simpa [letL] using this
  have inS : ∀ r, foldT rd0 (letL ([40] ++ s ++ (41 :: r)) false) = foldT ⟨fins I b a, [], false, 1, none⟩ (letL r false) := fun r => by
    have e1 : letL ([40] ++ s ++ (41 :: r)) false = (40, false) :: (ls ++ ((41, false) :: letL r false)) := by
      show (40, false) :: letL (s ++ (41 :: r)) false = _
      rw [h1]; rfl
    rw [e1, foldT]
    show foldT ⟨[], [(false, 0)], false, 0, none⟩ _ = _
    rw [foldT_app, g3]
    show (match closeR ⟨I, [(false, 0)], b, a, none⟩ with | none => none | some τ => foldT τ (letL r false)) = _
    have : closeR ⟨I, [(false, 0)], b, a, none⟩ = some ⟨fins I b a, [], false, 1, none⟩ := by
      unfold closeR
      show (match endR _ with | none => none | some τ => _) = _
      rw [end_is g1]; rfl
    rw [this]
  have inT : ∀ (P : List It) (b0 : Bool) (a0 : Int), a0 = 0 ∨ a0 = 1 → foldT ⟨P, [], b0, a0, none⟩ (letL ([40] ++ t ++ [41]) false) = some ⟨P ++ fins J c d, [], b0, a0 + 1, none⟩ := fun P b0 a0 ha => by
    have e1 : letL ([40] ++ t ++ [41]) false = (40, false) :: (ms ++ [(41, false)]) := by
      show (40, false) :: letL (t ++ [41]) false = _
      rw [k1]; rfl
    have e2 : takeR ⟨P, [], b0, a0, none⟩ 40 false = some ⟨P, [(b0, a0)], false, 0, none⟩ := by
      rcases ha with rfl | rfl <;> rfl
    rw [e1, foldT, e2]
    show foldT ⟨P, [(b0, a0)], false, 0, none⟩ (ms ++ [(41, false)]) = _
    have e3 := pre_fold P ms ⟨[], [(b0, a0)], false, 0, none⟩
    rw [f3] at e3
    have e3 : foldT ⟨P, [(b0, a0)], false, 0, none⟩ ms = some ⟨P ++ J, [(b0, a0)], c, d, none⟩ := by simpa [pre] using e3
    rw [foldT_app, e3]
    show (match closeR ⟨P ++ J, [(b0, a0)], c, d, none⟩ with | none => none | some τ => foldT τ []) = _
    have : closeR ⟨P ++ J, [(b0, a0)], c, d, none⟩ = some ⟨fins (P ++ J) c d, [], b0, a0 + 1, none⟩ := by
      unfold closeR
      show (match endR _ with | none => none | some τ => _) = _
      rw [end_is f1]; rfl
    rw [this]
    show some _ = some _
    congr 1
    have : fins (P ++ J) c d = P ++ fins J c d := by
      unfold fins
      by_cases hd : d = 2 <;> simp [hd]
    rw [this]
  refine ⟨fins I b a, fins J c d, ?_, ?_, ?_, ?_, ?_⟩
  · rw [hS, show rd0 = ⟨[], [], false, 0, none⟩ from rfl, g2]
    exact end_is g1
  · rw [hT, show rd0 = ⟨[], [], false, 0, none⟩ from rfl, f2]
    exact end_is f1
  · rw [inS []]
    rfl
  · have e : [40] ++ s ++ [41, 124, 40] ++ t ++ [41] = [40] ++ s ++ (41 :: (124 :: ([40] ++ t ++ [41]))) := by simp
    rw [e, inS]
    have e2 : letL (124 :: ([40] ++ t ++ [41])) false = (124, false) :: letL ([40] ++ t ++ [41]) false := rfl
    have e3 : takeR ⟨fins I b a, [], false, 1, none⟩ 124 false = some ⟨fins I b a, [], true, 0, none⟩ := rfl
    rw [e2, foldT, e3]
    show (foldT ⟨fins I b a, [], true, 0, none⟩ _).bind finR = _
    rw [inT _ true 0 (.inl rfl)]
    rfl
  · have e : [40] ++ s ++ [41, 40] ++ t ++ [41] = [40] ++ s ++ (41 :: ([40] ++ t ++ [41])) := by simp
    rw [e, inS, inT _ false 1 (.inr rfl)]
    rfl
end Go.Ew
