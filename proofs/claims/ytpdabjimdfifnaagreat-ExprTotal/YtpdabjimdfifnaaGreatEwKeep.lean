/- Blocks that are kept while calls are made: rows of one's own that grow. -/
import Derived.Test.YtpdabjimdfifnaaGreatEwGen
set_option linter.unusedVariables false
set_option linter.unusedSimpArgs false
namespace Go.Ew
open Go.Ev Go.Deep Go.Proofs.YtpdabjimdfifnaaGreat.Va

/-- What does with less does with more. -/
theorem Does.more {E : Env} {g : Nat} {args : List Value} {H0 H : KH} {Q : Value → KH → Prop} (h : Does E g args H0 Q) (hl : Le H0 H) : Does E g args H Q := by
  refine ⟨h.lt, fun hp wf know => ?_⟩
  obtain ⟨v, h', H', h1, h2, h3, h4, h5, h6, h7⟩ := h.run hp wf fun k e q => know k e (hl k e q)
  exact ⟨v, h', H', h1, h2, h3, h4, h5, fun k hk q => h6 k hk (hl.none q), fun k q => (h7 k q).imp (fun g e => g (hl.none e)) id⟩

theorem Does.post {E : Env} {g : Nat} {args : List Value} {H : KH} {Q Q' : Value → KH → Prop} (h : Does E g args H Q) (hq : ∀ v H', Q v H' → Q' v H') : Does E g args H Q' := by
  refine ⟨h.lt, fun hp wf know => ?_⟩
  obtain ⟨v, h', H', h1, h2, h3⟩ := h.run hp wf know
  exact ⟨v, h', H', h1, hq v H' h2, h3⟩

def addL (X : KH) : List (Nat × Ent) → KH
  | [] => X
  | (b, e) :: F => (addL X F).new b e

def frL (X : KH) : List (Nat × Ent) → Prop
  | [] => True
  | (b, _) :: F => addL X F b = none ∧ frL X F

theorem addL_le {X : KH} : ∀ {F : List (Nat × Ent)}, frL X F → Le X (addL X F)
  | [], _ => Le.refl _
  | (b, e) :: F, h => (addL_le h.2).trans (Le.new h.1)

theorem Does.frameL {E : Env} {g : Nat} {args : List Value} {X : KH} : ∀ {F : List (Nat × Ent)} {Q : Value → KH → Prop}, frL X F → (Does E g args X fun v X' => frL X' F → Q v (addL X' F)) → Does E g args (addL X F) Q
  | [], Q, _, h => h.post fun v X' q => q trivial
  | (b, e) :: F, Q, hf, h => by
    refine Does.frame hf.1 (Does.frameL (F := F) hf.2 (h.post fun v X' q h1 h2 => ?_))
    exact q ⟨h2, h1⟩

/-- A call in the presence of what is kept. -/
theorem Does.keep {E : Env} {g : Nat} {args : List Value} {X H : KH} {F : List (Nat × Ent)} {Q : Value → KH → Prop} (hf : frL X F) (hl : Le (addL X F) H) (h : Does E g args X fun v X' => frL X' F → ∀ H', Le (addL X' F) H' → Q v H') : Does E g args H Q :=
  (Does.frameL hf (h.post fun v X' q h1 => q h1 _ (Le.refl _))).more hl

theorem addL_get {X : KH} {b : Nat} {e : Ent} : ∀ {F : List (Nat × Ent)}, frL X F → (b, e) ∈ F → addL X F b = some e
  | (b', e') :: F, h, hm => by
    rcases List.mem_cons.1 hm with q | q
    · cases q; exact if_pos rfl
    · have ih := addL_get h.2 q
      exact (Le.new h.1) _ _ ih

/-- A row of one's own, told by its block. -/
def OwnQ (sz : Nat) (a : Option Addr) (n c : Nat) (cs : List Value) (F : List (Nat × Ent)) : Prop := F.length ≤ 1 ∧ Own (fun _ => none) (addL (fun _ => none) F) sz a n c cs

theorem OwnQ.nil {sz : Nat} : OwnQ sz none 0 0 [] [] := ⟨by simp, .nil⟩

theorem OwnQ.cells {sz n c : Nat} {a : Option Addr} {cs : List Value} {F G : List (Nat × Ent)} {X H : KH} (h : OwnQ sz a n c cs F) (hf : frL X (F ++ G)) (hl : Le (addL X (F ++ G)) H) : Own (addL X G) H sz a n c cs := by
  obtain ⟨h1, h2⟩ := h
  match F, h1 with
  | [], _ =>
    cases h2 with
    | nil => exact .nil
    | lit b _ _ q => cases q
    | grown b _ _ e q => cases q
  | [(b0, e0)], _ =>
    have hb : H b0 = some e0 := hl _ _ (if_pos rfl)
    have h0 : addL X G b0 = none := hf.1
    cases h2 with
    | nil => exact .nil
    | lit b _ _ q1 q2 q3 q4 =>
      have : b = b0 := by
        by_cases e : b = b0
        · exact e
        · simp only [addL, KH.new, if_neg e] at q1; cases q1
      subst this
      simp only [addL, KH.new, if_true] at q1
      cases q1
      exact .lit b n cs hb q2 q3 h0
    | grown b _ _ e q1 q2 q3 q4 q5 q6 =>
      have : b = b0 := by
        by_cases e : b = b0
        · exact e
        · simp only [addL, KH.new, if_neg e] at q1; cases q1
      subst this
      simp only [addL, KH.new, if_true] at q1
      cases q1
      exact .grown b n cs _ hb q2 q3 q4 h0 q6

theorem frL_tail {X : KH} : ∀ {F G : List (Nat × Ent)}, frL X (F ++ G) → frL X G
  | [], G, h => h
  | (b, e) :: F, G, h => frL_tail (F := F) h.2

theorem addL_tail {X : KH} : ∀ {F G : List (Nat × Ent)}, frL X (F ++ G) → Le (addL X G) (addL X (F ++ G))
  | [], G, _ => Le.refl _
  | (b, e) :: F, G, h => (addL_tail (F := F) h.2).trans (Le.new h.1)

/-- It grows. -/
theorem OwnQ.append {ti : TI} {n c m nm : Nat} {a : Option Addr} {cs new : List Value} {F G : List (Nat × Ent)} {X H : KH} (h : OwnQ ti.size a n c cs F) (hf : frL X (F ++ G)) (hl : Le (addL X (F ++ G)) H) (hnm : H nm = none) (hm : new.length = m * ti.size) (hs : n + m ≤ 1000000) (hb : ti.bytes ≤ 1000000) (hz : 1 ≤ ti.size) (hro : ti.size ≤ 1000000) :
    ∃ a' c' H' F', kappend H nm ti a n c m new = some (.slice a' (n + m) c', H') ∧ OwnQ ti.size a' (n + m) c' (cs ++ new) F' ∧ frL X (F' ++ G) ∧ Le (addL X (F' ++ G)) H' := by
  have hG := frL_tail hf
  obtain ⟨a', c', H', h1, h2, h3, _, _⟩ := Own.append (ti := ti) (m := m) (new := new) (h.cells hf hl) ((addL_tail hf).trans hl) hnm hm hs hb hz hro
  generalize n + m = N at *
  generalize cs ++ new = ds at *
  cases h2 with
  | nil => exact ⟨_, _, H', [], h1, ⟨by simp, .nil⟩, hG, h3⟩
  | lit b _ _ q1 q2 q3 q4 => exact ⟨_, _, H', [(b, mkEnt ds 0)], h1, ⟨by simp, .lit b _ _ (if_pos rfl) q2 q3 rfl⟩, ⟨q4, hG⟩, fun k e q => by
      simp only [List.cons_append, List.nil_append, addL, KH.new] at q
      split at q
      · rename_i ek; subst ek; cases q; exact q1
      · exact h3 k e q⟩
  | grown b _ _ e q1 q2 q3 q4 q5 q6 => exact ⟨_, _, H', [(b, e)], h1, ⟨by simp, .grown b _ _ e (if_pos rfl) q2 q3 q4 rfl q6⟩, ⟨q5, hG⟩, fun k e' q => by
      simp only [List.cons_append, List.nil_append, addL, KH.new] at q
      split at q
      · rename_i ek; subst ek; cases q; exact q1
      · exact h3 k e' q⟩

theorem addL_app {X : KH} : ∀ {F G : List (Nat × Ent)}, addL (addL X G) F = addL X (F ++ G)
  | [], G => rfl
  | (b, e) :: F, G => by simp only [addL, List.cons_append, addL_app]

/-- Kept blocks in another order: a finished one goes beneath. -/
theorem addL_swap {X : KH} {F G : List (Nat × Ent)} (hF : F.length ≤ 1) (h : frL X (F ++ G)) : addL (addL X F) G = addL X (F ++ G) ∧ frL (addL X F) G ∧ frL X F := by
  match F, hF with
  | [], _ => exact ⟨rfl, h, trivial⟩
  | [(b, e)], _ =>
    obtain ⟨h1, h2⟩ := h
    have h1 : addL X G b = none := h1
    induction G with
    | nil => exact ⟨rfl, trivial, h1, trivial⟩
    | cons g G ih =>
      obtain ⟨b', e'⟩ := g
      have hb : b ≠ b' := fun eq => by subst eq; simp [addL, KH.new] at h1
      have h1' : addL X G b = none := by simpa [addL, KH.new, hb] using h1
      have h2 : addL X G b' = none ∧ frL X G := h2
      obtain ⟨i1, i2, i3⟩ := ih h1' h2.2 h1'
      have i1 : addL (X.new b e) G = (addL X G).new b e := i1
      refine ⟨?_, ⟨?_, i2⟩, i3⟩
      · show (addL (X.new b e) G).new b' e' = ((addL X G).new b' e').new b e
        rw [i1, new_new hb]
      · show addL (X.new b e) G b' = none
        rw [i1]
        simp [KH.new, Ne.symm hb, h2.1]

theorem PK.notp {K X : KH} {p : Nat} (h : PK K p X) : ∃ e, X p = some e := by
  obtain ⟨_, e, _, _, _, _, rfl, _⟩ := h
  exact ⟨e, if_pos rfl⟩
end Go.Ew
