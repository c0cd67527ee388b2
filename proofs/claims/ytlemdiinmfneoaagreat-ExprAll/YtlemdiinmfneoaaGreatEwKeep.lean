import Derived.Test.YtlemdiinmfneoaaGreatEwGen
import Derived.Test.YtlemdiinmfneoaaGreatEwEx8
/- Blocks that are kept while calls are made: rows of one's own that grow. -/
set_option linter.unusedVariables false
set_option linter.unusedSimpArgs false
namespace Go.Ew
open Go.Ev Go.Deep Go.Proofs.YtlemdiinmfneoaaGreat.Va

/-- What does with less does with more. -/
theorem Does.more {E : Env} {g : Nat} {args : List Value} {H0 H : KH} {Q : PQ} (h : Does E g args H0 Q) (hl : Le H0 H) : Does E g args H Q := by
  refine ⟨h.lt, fun hp wf know => ?_⟩
  obtain ⟨v, h', H', h1, h2, h3, h4, h5, h6, h7⟩ := h.run hp wf fun k e q => know k e (hl k e q)
  exact ⟨v, h', H', h1, h2, h3, h4, h5, fun k hk q => h6 k hk (hl.none q), fun k q => (h7 k q).imp (fun g e => g (hl.none e)) id⟩

theorem Does.post {E : Env} {g : Nat} {args : List Value} {H : KH} {Q Q' : PQ} (h : Does E g args H Q) (hq : ∀ v H', Q v H' → Q' v H') : Does E g args H Q' := by
  refine ⟨h.lt, fun hp wf know => ?_⟩
  obtain ⟨v, h', H', h1, h2, h3⟩ := h.run hp wf know
  exact ⟨v, h', H', h1, hq v H' h2, h3⟩

def addL (X : KH) : List (Nat × Ent) → KH
  | [] => X
  | (b, e) :: F => (addL X F).new b e

def frL (X : KH) : List (Nat × Ent) → Prop
  | [] => True
  | (b, _) :: F => addL X F b = none ∧ frL X F

theorem addL_le {X : KH} : ∀ {F : List (Nat × Ent)}, frL X F → Le X (addL X F)
  | [], _ => Le.refl _
  | (b, e) :: F, h => (addL_le h.2).trans (Le.new h.1)

theorem Does.frameL {E : Env} {g : Nat} {args : List Value} {X : KH} : ∀ {F : List (Nat × Ent)} {Q : PQ}, frL X F → (Does E g args X fun v X' => frL X' F → Q v (addL X' F)) → Does E g args (addL X F) Q
  | [], Q, _, h => h.post fun v X' q => q trivial
  | (b, e) :: F, Q, hf, h => by
    refine Does.frame hf.1 (Does.frameL (F := F) hf.2 (h.post fun v X' q h1 h2 => ?_))
    exact q ⟨h2, h1⟩

/-- A call in the presence of what is kept. -/
theorem Does.keep {E : Env} {g : Nat} {args : List Value} {X H : KH} {F : List (Nat × Ent)} {Q : PQ} (hf : frL X F) (hl : Le (addL X F) H) (h : Does E g args X fun v X' => frL X' F → ∀ H', Le (addL X' F) H' → Q v H') : Does E g args H Q :=
  (Does.frameL hf (h.post fun v X' q h1 => q h1 _ (Le.refl _))).more hl

theorem addL_get {X : KH} {b : Nat} {e : Ent} : ∀ {F : List (Nat × Ent)}, frL X F → (b, e) ∈ F → addL X F b = some e
  | (b', e') :: F, h, hm => by
    rcases List.mem_cons.1 hm with q | q
    · cases q; exact if_pos rfl
    · have ih := addL_get h.2 q
      exact (Le.new h.1) _ _ ih

/-- A row of one's own, told by its block. -/
def OwnQ (sz : Nat) (a : OA) (n c : Nat) (cs : List Value) (F : List (Nat × Ent)) : Prop := F.length ≤ 1 ∧ Own (fun _ => none) (addL (fun _ => none) F) sz a n c cs

theorem OwnQ.nil {sz : Nat} : OwnQ sz none 0 0 [] [] := ⟨by simp, .nil⟩

theorem OwnQ.cells {sz n c : Nat} {a : OA} {cs : List Value} {F G : List (Nat × Ent)} {X H : KH} (h : OwnQ sz a n c cs F) (hf : frL X (F ++ G)) (hl : Le (addL X (F ++ G)) H) : Own (addL X G) H sz a n c cs := by
  obtain ⟨h1, h2⟩ := h
  match F, h1 with
  | [], _ =>
    cases h2 with
    | nil => exact .nil
    | lit b _ _ q => cases q
    | grown b _ _ e q => cases q
  | [(b0, e0)], _ =>
    have hb : H b0 = some e0 := hl _ _ (if_pos rfl)
    have h0 : addL X G b0 = none := hf.1
    cases h2 with
    | nil => exact .nil
    | lit b _ _ q1 q2 q3 q4 =>
      have : b = b0 := by
        by_cases e : b = b0
        · exact e
        · simp only [addL, KH.new, if_neg e] at q1; cases q1
      subst this
      simp only [addL, KH.new, if_true] at q1
      cases q1
      exact .lit b n cs hb q2 q3 h0
    | grown b _ _ e q1 q2 q3 q4 q5 q6 =>
      have : b = b0 := by
        by_cases e : b = b0
        · exact e
        · simp only [addL, KH.new, if_neg e] at q1; cases q1
      subst this
      simp only [addL, KH.new, if_true] at q1
      cases q1
      exact .grown b n cs _ hb q2 q3 q4 h0 q6

theorem frL_tail {X : KH} : ∀ {F G : List (Nat × Ent)}, frL X (F ++ G) → frL X G
  | [], G, h => h
  | (b, e) :: F, G, h => frL_tail (F := F) h.2

theorem addL_tail {X : KH} : ∀ {F G : List (Nat × Ent)}, frL X (F ++ G) → Le (addL X G) (addL X (F ++ G))
  | [], G, _ => Le.refl _
  | (b, e) :: F, G, h => (addL_tail (F := F) h.2).trans (Le.new h.1)

/-- It grows. -/
theorem OwnQ.append {ti : TI} {n c m nm : Nat} {a : OA} {cs new : List Value} {F G : List (Nat × Ent)} {X H : KH} (h : OwnQ ti.size a n c cs F) (hf : frL X (F ++ G)) (hl : Le (addL X (F ++ G)) H) (hnm : H nm = none) (hm : new.length = m * ti.size) (hs : n + m ≤ 1000000) (hb : ti.bytes ≤ 1000000) (hz : 1 ≤ ti.size) (hro : ti.size ≤ 1000000) :
    ∃ a' c' H' F', kappend H nm ti a n c m new = some (.slice a' (n + m) c', H') ∧ OwnQ ti.size a' (n + m) c' (cs ++ new) F' ∧ frL X (F' ++ G) ∧ Le (addL X (F' ++ G)) H' := by
  have hG := frL_tail hf
  obtain ⟨a', c', H', h1, h2, h3, _, _⟩ := Own.append (ti := ti) (m := m) (new := new) (h.cells hf hl) ((addL_tail hf).trans hl) hnm hm hs hb hz hro
  generalize n + m = N at *
  generalize cs ++ new = ds at *
  cases h2 with
  | nil => exact ⟨_, _, H', [], h1, ⟨by simp, .nil⟩, hG, h3⟩
  | lit b _ _ q1 q2 q3 q4 => exact ⟨_, _, H', [(b, mkEnt ds 0)], h1, ⟨by simp, .lit b _ _ (if_pos rfl) q2 q3 rfl⟩, ⟨q4, hG⟩, fun k e q => by
      simp only [List.cons_append, List.nil_append, addL, KH.new] at q
      split at q
      · rename_i ek; subst ek; cases q; exact q1
      · exact h3 k e q⟩
  | grown b _ _ e q1 q2 q3 q4 q5 q6 => exact ⟨_, _, H', [(b, e)], h1, ⟨by simp, .grown b _ _ e (if_pos rfl) q2 q3 q4 rfl q6⟩, ⟨q5, hG⟩, fun k e' q => by
      simp only [List.cons_append, List.nil_append, addL, KH.new] at q
      split at q
      · rename_i ek; subst ek; cases q; exact q1
      · exact h3 k e' q⟩

theorem addL_app {X : KH} : ∀ {F G : List (Nat × Ent)}, addL (addL X G) F = addL X (F ++ G)
  | [], G => rfl
  | (b, e) :: F, G => by simp only [addL, List.cons_append, addL_app]

/-- Kept blocks in another order: a finished one goes beneath. -/
theorem addL_swap {X : KH} {F G : List (Nat × Ent)} (hF : F.length ≤ 1) (h : frL X (F ++ G)) : addL (addL X F) G = addL X (F ++ G) ∧ frL (addL X F) G ∧ frL X F := by
  match F, hF with
  | [], _ => exact ⟨rfl, h, trivial⟩
  | [(b, e)], _ =>
    obtain ⟨h1, h2⟩ := h
    have h1 : addL X G b = none := h1
    induction G with
    | nil => exact ⟨rfl, trivial, h1, trivial⟩
    | cons g G ih =>
      obtain ⟨b', e'⟩ := g
      have hb : b ≠ b' := fun eq => by subst eq; simp [addL, KH.new] at h1
      have h1' : addL X G b = none := by simpa [addL, KH.new, hb] using h1
      have h2 : addL X G b' = none ∧ frL X G := h2
      obtain ⟨i1, i2, i3⟩ := ih h1' h2.2 h1'
      have i1 : addL (X.new b e) G = (addL X G).new b e := i1
      refine ⟨?_, ⟨?_, i2⟩, i3⟩
      · show (addL (X.new b e) G).new b' e' = ((addL X G).new b' e').new b e
        rw [i1, new_new hb]
      · show addL (X.new b e) G b' = none
        rw [i1]
        simp [KH.new, Ne.symm hb, h2.1]

end Go.Ew

/- Rows of values of occurrences, made by the play. -/
set_option linter.unusedVariables false
set_option linter.unusedSimpArgs false
namespace Go.Ew
open Go.Ev Go.Deep Go.Proofs.YtlemdiinmfneoaaGreat.Va

theorem frL_app {X : KH} : ∀ {F G : List (Nat × Ent)}, frL X (F ++ G) ↔ frL (addL X G) F ∧ frL X G
  | [], G => ⟨fun h => ⟨trivial, h⟩, fun h => h.2⟩
  | (b, e) :: F, G => by
    simp only [List.cons_append, frL, frL_app (F := F), addL_app]
    exact ⟨fun h => ⟨⟨h.1, h.2.1⟩, h.2.2⟩, fun h => ⟨h.1.1, h.1.2, h.2⟩⟩

theorem swapL {X : KH} {F1 F2 G : List (Nat × Ent)} (h1 : F1.length ≤ 1) (h : frL X (F1 ++ (F2 ++ G))) : frL X (F2 ++ (F1 ++ G)) ∧ addL X (F2 ++ (F1 ++ G)) = addL X (F1 ++ (F2 ++ G)) := by
  rw [← List.append_assoc, frL_app] at h
  obtain ⟨e1, e2, e3⟩ := addL_swap h1 h.1
  constructor
  · rw [← List.append_assoc, frL_app, frL_app]
    exact ⟨⟨e2, e3⟩, h.2⟩
  · rw [← List.append_assoc, ← List.append_assoc, ← addL_app, ← addL_app (F := F1 ++ F2), ← addL_app (F := F2) (G := F1), e1]

theorem OwnQ.here {sz n c : Nat} {a : OA} {cs : List Value} {F : List (Nat × Ent)} {H : KH} (h : OwnQ sz a n c cs F) (hh : ∀ x ∈ F, H x.1 = some x.2) : Own (fun _ => none) H sz a n c cs := by
  obtain ⟨h1, h2⟩ := h
  match F, h1 with
  | [], _ =>
    cases h2 with
    | nil => exact .nil
    | lit b _ _ q => cases q
    | grown b _ _ e q => cases q
  | [(b0, e0)], _ =>
    have hb : H b0 = some e0 := hh (b0, e0) (by simp)
    cases h2 with
    | nil => exact .nil
    | lit b _ _ q1 q2 q3 q4 =>
      have : b = b0 := by
        by_cases e : b = b0
        · exact e
        · simp only [addL, KH.new, if_neg e] at q1; cases q1
      subst this
      simp only [addL, KH.new, if_true] at q1
      cases q1
      exact .lit b n cs hb q2 q3 rfl
    | grown b _ _ e q1 q2 q3 q4 q5 q6 =>
      have : b = b0 := by
        by_cases e : b = b0
        · exact e
        · simp only [addL, KH.new, if_neg e] at q1; cases q1
      subst this
      simp only [addL, KH.new, if_true] at q1
      cases q1
      exact .grown b n cs _ hb q2 q3 q4 rfl q6

theorem addL_mem {X : KH} {x : Nat × Ent} {F : List (Nat × Ent)} (h : frL X F) (hm : x ∈ F) : addL X F x.1 = some x.2 := addL_get h hm

/-- It may be, and its numbers are an int64's. -/
structure OkR (v : V) : Prop extends Ok v where
  rg : rgB v = true

/-- A row of three values, in a block of its own. -/
structure R3 where
  l : List V
  a : OA
  c : Nat
  cs : List Value
  F : List (Nat × Ent)

structure R3.ok (K : KH) (r : R3) : Prop where
  own : OwnQ 4 r.a r.l.length r.c r.cs r.F
  rc : RC K r.l r.cs
  len : r.l.length = 3
  vals : ∀ v ∈ r.l, OkR v

theorem R3.ok.mono {K K' : KH} {r : R3} (h : r.ok K) (hl : Le K K') : r.ok K' := ⟨h.own, h.rc.mono hl, h.len, h.vals⟩

def R3.cell (r : R3) : Value := .slice r.a r.l.length r.c

def blocks : List R3 → List (Nat × Ent)
  | [] => []
  | r :: l => r.F ++ blocks l

abbrev RT : TI := ⟨1, 24, false, 1, 30, 0, [], [.slice none 0 0]⟩

/-- Rows that are made: those that came last stand first. -/
structure Rs3 (K0 X K : KH) (p : Nat) (rs : List R3) (a : OA) (n c : Nat) (F2 : List (Nat × Ent)) (H : KH) : Prop where
  pk : PK K p X
  le : Le K0 K
  own : OwnQ 1 a n c (rs.reverse.map R3.cell) F2
  len : n = rs.length
  rows : ∀ r ∈ rs, r.ok K
  fr : frL X (F2 ++ blocks rs)
  at_ : Le (addL X (F2 ++ blocks rs)) H
end Go.Ew

namespace Go.Proofs.YtlemdiinmfneoaaGreat
open Go.Ev Go.Ew
namespace Va
section
variable (ok : EnvOk (env Tryz.prog))
include ok

theorem l7 {K0 X K H : KH} {p : Nat} {rs : List R3} {a : OA} {n c m : Nat} {F2 : List (Nat × Ent)} {x : Int} {I : Nat → Nat → Nat → OA → Nat → Nat → Int → KH → Prop} (h : Rs3 K0 X K p rs a n c F2 H) (hn : rs.length ≤ 100)
    (hq : ∀ r X' K' a' c' F2' H', Rs3 K0 X' K' p (r :: rs) a' (n + 1) c' F2' H' → ∃ k, k < m ∧ I k p 0 a' (n + 1) c' (IntKind.wrap .i64 (x + 1)) H') : vc6_L4 p 0 a n c x H m I := by
  unfold vc6_L4
  refine ⟨fun n3 n4 n5 a6 n7 n8 x9 a10 n11 n12 x13 H14 => n4 = p ∧ n5 = 0 ∧ a6 = a ∧ n7 = n ∧ n8 = c ∧ x9 = x ∧ ∃ (X' K' : KH) (F1 : List (Nat × Ent)) (cs1 : List Value) (l : List Ew.V), PK K' p X' ∧ Le K K' ∧ OwnQ 4 a10 n11 n12 cs1 F1 ∧ n11 = l.length ∧ x13 = (l.length : Nat) ∧ l.length ≤ 3 ∧ n3 = 3 - l.length ∧ RC K' l cs1 ∧ frL X' (F1 ++ (F2 ++ blocks rs)) ∧ Le (addL X' (F1 ++ (F2 ++ blocks rs))) H14 ∧ ∀ v ∈ l, OkR v,
    ⟨3, rfl, rfl, rfl, rfl, rfl, rfl, rfl, X, K, [], [], [], h.pk, Le.refl _, .nil, rfl, rfl, by simp, rfl, rfl, h.fr, h.at_, by simp⟩, ?_⟩
  rintro n3 n4 n5 a6 n7 n8 x9 a10 n11 n12 x13 H14 ⟨rfl, rfl, rfl, rfl, rfl, rfl, X1, K1, F1, cs1, l, hpk, hle, hown, rfl, rfl, hl3, rfl, hrc, hfr, hat, hvs⟩
  -- one more value
  have more : ∀ (v : Ew.V) (k i : Int) (s : ByteArray) (av : OA) (nv cv : Nat) (X2 K2 H2 : KH), PK K2 n4 X2 → Le K1 K2 → RV K2 v [.int .i64 k, .int .i64 i, .string s, .slice av nv cv] → OkR v → frL X2 (F1 ++ (F2 ++ blocks rs)) → Le (addL X2 (F1 ++ (F2 ++ blocks rs))) H2 → l.length < 3 →
      ∀ n1, H2 n1 = none → ∀ n2, (H2.new n1 (mkEnt [.int .i64 k, .int .i64 i, .string s, .slice av nv cv] 0)) n2 = none →
        ∃ (n3' : Nat) (l4 : List Value), knew (H2.new n1 (mkEnt [.int .i64 k, .int .i64 i, .string s, .slice av nv cv] 0)) VT (.slice (some ⟨n1, 0, none⟩) 1 1) = some (n3', l4) ∧ ∃ (a5 : OA) (n6 n7' : Nat) (H8 : KH), kappend (H2.new n1 (mkEnt [.int .i64 k, .int .i64 i, .string s, .slice av nv cv] 0)) n2 VT a10 l.length n12 n3' l4 = some (.slice a5 n6 n7', H8) ∧
          ∃ n9 : Nat, n9 < 3 - l.length ∧ ((none : Option Nat) = none ∧ (n4 = n4 ∧ 0 = 0 ∧ a6 = a6 ∧ n7 = n7 ∧ n8 = n8 ∧ x9 = x9 ∧ ∃ (X' K' : KH) (F1 : List (Nat × Ent)) (cs1 : List Value) (l' : List Ew.V), PK K' n4 X' ∧ Le K K' ∧ OwnQ 4 a5 n6 n7' cs1 F1 ∧ n6 = l'.length ∧ IntKind.wrap .i64 (((l.length : Nat) : Int) + 1) = (l'.length : Nat) ∧ l'.length ≤ 3 ∧ n9 = 3 - l'.length ∧ RC K' l' cs1 ∧ frL X' (F1 ++ (F2 ++ blocks rs)) ∧ Le (addL X' (F1 ++ (F2 ++ blocks rs))) H8 ∧ ∀ v ∈ l', OkR v)) := by
    intro v k i s av nv cv X2 K2 H2 hpk2 hle2 hrv hOk hfr2 hat2 hlt n1 hn1 n2 hn2
    have hk : kold (H2.new n1 (mkEnt [.int .i64 k, .int .i64 i, .string s, .slice av nv cv] 0)) 4 (some ⟨n1, 0, none⟩) 1 = some [.int .i64 k, .int .i64 i, .string s, .slice av nv cv] := lit_kold (if_pos rfl) rfl
    obtain ⟨a', c', H', F', e1, e2, e3, e4⟩ := OwnQ.append (ti := VT) (m := 1) (nm := n2) (new := [.int .i64 k, .int .i64 i, .string s, .slice av nv cv]) (F := F1) (G := F2 ++ blocks rs) hown hfr2 (hat2.trans (Le.new hn1)) hn2 rfl (by omega) (by decide) (by decide) (by decide)
    refine ⟨1, _, knew_of hk, a', _, c', H', e1, 3 - (l.length + 1), by omega, rfl, rfl, rfl, rfl, rfl, rfl, rfl, X2, K2, F', _, l ++ [v], hpk2, hle.trans hle2, e2, by simp, ?_, by simp; omega, by simp, (hrc.mono hle2).append (RC.one hrv), e3, e4, fun w hw => ?_⟩
    · rw [wrap64 (by omega) (by omega)]; simp
    · rcases List.mem_append.1 hw with hw | hw
      · exact hvs w hw
      · have : w = v := by simpa using hw
        subst this
        exact hOk
  refine ⟨fun hlt => ?_, fun hge => ?_⟩
  · have hlt : l.length < 3 := by have := of_decide_eq_true hlt; omega
    refine Does.keep hfr hat (c17 ok 2 (by omega) K1 X1 n4 _ hpk fun v cs K2 X2 q1 q2 q3 q4 hf2 H2 hl2 => ?_)
    have q3' := q3
    obtain ⟨k, i, s, lv⟩ := v
    obtain ⟨av, nv, cv, rfl, rfl, _, _⟩ := q3
    refine ⟨_, _, _, _, _, _, rfl, Does.keep hf2 hl2 (c18 ok q1 (by omega) (by omega) fun y X3 hy1 hy2 hp3 hf3 H3 hl3' => ⟨y, rfl, fun hy => ?_, fun hy => ?_⟩)⟩
    · refine Does.keep hf3 hl3' (c18 ok hp3 (by omega) (by omega) fun z X4 hz1 hz2 hp4 hf4 H4 hl4 => ⟨z, rfl, ?_⟩)
      rw [wrap64 (by omega) (by omega)]
      exact more (badV (1 + z)) 7 (1 + z) emp none 0 0 X4 K2 H4 hp4 q2 leaf ⟨ok_bad (by omega) (by omega), rg_mk (by omega) (by omega) (by simp)⟩ hf4 hl4 hlt
    · exact more _ _ _ _ _ _ _ X3 K2 H3 hp3 q2 q3' ⟨⟨by have := q4.1; omega, q4.2.fit⟩, q4.2.rg⟩ hf3 hl3' hlt
  · have hge : l.length = 3 := by have := of_decide_eq_false hge; omega
    intro n1 hn1 n2 hn2
    have hk : kold (H14.new n1 (mkEnt [.slice a10 l.length n12] 0)) RT.size (some ⟨n1, 0, none⟩) 1 = some [.slice a10 l.length n12] := lit_kold (if_pos rfl) rfl
    obtain ⟨hfr', hadd⟩ := swapL hown.1 hfr
    obtain ⟨a', c', H', F', e1, e2, e3, e4⟩ := OwnQ.append (ti := RT) (m := 1) (nm := n2) (new := [.slice a10 l.length n12]) (F := F2) (G := F1 ++ blocks rs) (by exact h.own) hfr' (by rw [hadd]; exact hat.trans (Le.new hn1)) hn2 rfl (by have := h.len; omega) (by decide) (by decide) (by decide)
    have hrows : ∀ r ∈ (⟨l, a10, n12, cs1, F1⟩ : R3) :: rs, r.ok K1 := fun r hr => by
      rcases List.mem_cons.1 hr with rfl | hr
      · exact ⟨hown, hrc, hge, hvs⟩
      · exact (h.rows r hr).mono hle
    obtain ⟨kk, hk1, hk2⟩ := hq ⟨l, a10, n12, cs1, F1⟩ X1 K1 a' c' F' H' ⟨hpk, h.le.trans hle, by simpa [R3.cell] using e2, by have := h.len; simp; omega, hrows, e3, e4⟩
    exact ⟨1, _, knew_of hk, a', _, c', H', e1, kk, hk1, rfl, hk2⟩

abbrev fourTexts : List Value := [.string (ByteArray.mk #[]), .string (ByteArray.mk #[57, 57, 57, 57, 57, 57, 57, 57, 57, 57, 57, 57, 57, 57, 57, 57, 57, 57]), .string (ByteArray.mk #[49, 50, 51, 52, 53, 54, 55, 56, 57, 48, 49, 50, 51, 52, 53, 54, 55, 56, 57]), .string (ByteArray.mk #[48, 48, 55])]

theorem c6 {pa : OA} {n c : Nat} {H : KH} {Q : PQ} (hu : U8 H pa n) (hn : n ≤ 1000000)
    (hq : ∀ (X K : KH) (p : Nat) (rs : List R3) (a : OA) (c1 : Nat) (F2 : List (Nat × Ent)) (H1 : KH) (n8 : Nat) (s : ByteArray), Rs3 H X K p rs a rs.length c1 F2 H1 → rs.length = 3 → s.size ≤ 100 → H1 n8 = some (mkEnt [.string (ByteArray.mk #[49, 50]), .string (ByteArray.mk #[120]), .string s] 0) → addL X (F2 ++ blocks rs) n8 = none →
      Q (.tuple #[.slice a rs.length c1, .slice (some ⟨n8, 0, none⟩) 3 3]) H1) : Does (env Tryz.prog) 6 [.slice pa n c] H Q := by
  refine fn6 ok (c7 ok hu hn fun p H1 hp => ⟨p, 0, rfl, ?_⟩)
  unfold vc6_L6
  refine ⟨fun n3 n4 n5 a6 n7 n8 x9 H10 => n4 = p ∧ n5 = 0 ∧ ∃ (X K : KH) (rs : List R3) (F2 : List (Nat × Ent)), Rs3 H X K p rs a6 n7 n8 F2 H10 ∧ x9 = (rs.length : Nat) ∧ rs.length ≤ 3 ∧ n3 = 3 - rs.length,
    ⟨3, rfl, rfl, rfl, H1, H, [], [], ⟨hp, Le.refl _, .nil, rfl, by simp, trivial, Le.refl _⟩, rfl, by simp, rfl⟩, ?_⟩
  rintro n3 n4 n5 a6 n7 n8 x9 H10 ⟨rfl, rfl, X, K, rs, F2, h, rfl, hle, rfl⟩
  have hlen := h.len
  subst hlen
  refine ⟨fun hlt => ?_, fun hge => ⟨trivial, fun n1 hn1 => ?_⟩⟩
  · have hlt : rs.length < 3 := by have := of_decide_eq_true hlt; omega
    refine l7 ok h (by omega) fun r X' K' a' c' F2' H' h' => ⟨3 - (rs.length + 1), by omega, rfl, rfl, X', K', r :: rs, F2', h', ?_, by simp; omega, by simp⟩
    rw [wrap64 (by omega) (by omega)]; simp
  · have hge : rs.length = 3 := by have := of_decide_eq_false hge; omega
    rw [hide_new hn1]
    refine Does.keep h.fr h.at_ (c18 ok h.pk (by omega) (by omega) fun y X2 hy1 hy2 hp2 hf2 H2 hl2 => ⟨y, rfl, fun hH2 => ?_⟩)
    rw [back_new]
    have hat : (H2.new n1 (mkEnt fourTexts 0)) n1 = some (mkEnt fourTexts 0) := if_pos rfl
    have hs : ∃ s : ByteArray, fourTexts[y.toNat]? = some (.string s) ∧ s.size ≤ 100 := by
      have h4 : y.toNat = 0 ∨ y.toNat = 1 ∨ y.toNat = 2 ∨ y.toNat = 3 := by omega
      rcases h4 with q | q | q | q <;> rw [q]
      · exact ⟨_, rfl, by decide⟩
      · exact ⟨_, rfl, by decide⟩
      · exact ⟨_, rfl, by decide⟩
      · exact ⟨_, rfl, by decide⟩
    obtain ⟨s, hs1, hs2⟩ := hs
    have leN : Le H2 (H2.new n1 (mkEnt fourTexts 0)) := Le.new hH2
    refine ⟨⟨rfl, trivial⟩, ⟨hy1, by omega⟩, n1, 0, rfl, s, lit_get hat hs1, fun n8 hn8 => ?_⟩
    exact hq X2 K n4 rs a6 _ F2 _ n8 s ⟨hp2, h.le, h.own, rfl, h.rows, hf2, (hl2.trans leN).trans (Le.new hn8)⟩ hge hs2 (if_pos rfl) ((hl2.trans leN).none hn8)
end
end Va
end Go.Proofs.YtlemdiinmfneoaaGreat

/- The law ExprTotal: what its function answers. -/
set_option linter.unusedVariables false
set_option linter.unusedSimpArgs false
namespace Go.Ew
open Go.Ev Go.Deep Go.Proofs.YtlemdiinmfneoaaGreat.Va

theorem blocks_mem {r : R3} : ∀ {rs : List R3}, r ∈ rs → ∀ x ∈ r.F, x ∈ blocks rs
  | r' :: rs, h, x, hx => by
    rcases List.mem_cons.1 h with rfl | h
    · exact List.mem_append_left _ hx
    · exact List.mem_append_right _ (blocks_mem h x hx)

theorem own_at {H0 H : KH} {n c : Nat} {a : OA} {cs : List Value} {i : Nat} {v : Value} (h : Own H0 H 1 a n c cs) (hv : cs[i]? = some v) : ∃ b o, a = some ⟨b, o, none⟩ ∧ ld H ⟨b, o + i, none⟩ [v] := by
  have hl := kold_len h.cells
  have hi : i < cs.length := by
    rcases Nat.lt_or_ge i cs.length with q | q
    · exact q
    · rw [List.getElem?_eq_none q] at hv; cases hv
  obtain ⟨b, E, rfl, hb, _⟩ := h.at_ (by omega)
  obtain ⟨e, he, hr⟩ := kold_some.1 h.cells
  refine ⟨b, 0, rfl, rfl, e, he, ?_⟩
  have r1 := rd_drop hr (m := i) (by omega)
  have r2 := rd_take r1 (m := 1) (by omega)
  rw [List.length_singleton]
  rw [List.getElem?_eq_getElem hi] at hv
  rw [List.drop_eq_getElem_cons hi, Option.some.inj hv] at r2
  exact r2

theorem Rs3.le0 {K0 X K H : KH} {p n c : Nat} {rs : List R3} {a : OA} {F2 : List (Nat × Ent)} (h : Rs3 K0 X K p rs a n c F2 H) : Le K0 H ∧ Le K H :=
  ⟨h.le.trans (h.pk.le.trans ((addL_le h.fr).trans h.at_)), h.pk.le.trans ((addL_le h.fr).trans h.at_)⟩

def rowsOf (rs : List R3) : List (List V) := rs.reverse.map (·.l)

theorem Rs3.vals {K0 X K H : KH} {p n c : Nat} {rs : List R3} {a : OA} {F2 : List (Nat × Ent)} (h : Rs3 K0 X K p rs a n c F2 H) (hn : rs.length ≤ 1000) : Vals H (rowsOf rs) a := by
  have hle := h.le0.2
  have hin : ∀ x ∈ F2 ++ blocks rs, H x.1 = some x.2 := fun x hx => h.at_ _ _ (addL_mem h.fr hx)
  have hown := h.own.here (H := H) fun x hx => hin x (List.mem_append_left _ hx)
  refine ⟨fun i l hi => ?_, fun l hl v hv => ?_, ⟨by simp [rowsOf]; omega, fun l hl => ?_⟩⟩
  · unfold rowsOf at hi
    rw [List.getElem?_map] at hi
    cases hr : rs.reverse[i]? with
    | none => rw [hr] at hi; cases hi
    | some r =>
      rw [hr] at hi
      have hi : r.l = l := Option.some.inj hi
      subst hi
      have hm : r ∈ rs := List.mem_reverse.1 (List.mem_of_getElem? hr)
      obtain ⟨b, o, ha, hld⟩ := own_at (i := i) (v := r.cell) hown (by rw [List.getElem?_map, hr]; rfl)
      have hro := h.rows r hm
      have hr2 := hro.own.here (H := H) fun x hx => hin x (List.mem_append_right _ (blocks_mem hm x hx))
      exact ⟨b, o, r.a, r.c, ha, hld, RS.of_cells hr2.cells (hro.rc.mono hle)⟩
  · obtain ⟨r, hr, rfl⟩ := List.mem_map.1 hl
    have := ((h.rows r (List.mem_reverse.1 hr)).vals v hv).sz
    omega
  · obtain ⟨r, hr, rfl⟩ := List.mem_map.1 hl
    have := (h.rows r (List.mem_reverse.1 hr)).len
    omega

theorem texts3 {H : KH} {n8 : Nat} {s : ByteArray} (h : H n8 = some (mkEnt [.string (ByteArray.mk #[49, 50]), .string (ByteArray.mk #[120]), .string s] 0)) (hs : s.size ≤ 100) : Texts H [ByteArray.mk #[49, 50], ByteArray.mk #[120], s] (some ⟨n8, 0, none⟩) := by
  refine ⟨fun i t hi => ?_, fun t ht => ?_, by simp⟩
  · refine ⟨n8, 0, rfl, ?_⟩
    have := lit_get (j := i) (v := .string t) h (by
      match i, hi with
      | 0, hi => simp at hi; subst hi; rfl
      | 1, hi => simp at hi; subst hi; rfl
      | 2, hi => simp at hi; subst hi; rfl
      | i + 3, hi => simp at hi)
    simpa using this
  · simp only [List.mem_cons, List.not_mem_nil, or_false] at ht
    rcases ht with rfl | rfl | rfl
    · decide
    · decide
    · omega

end Go.Ew

namespace Go.Proofs.YtlemdiinmfneoaaGreat
open Go.Ev Go.Ew
namespace Va
section
variable (ok : EnvOk (env Tryz.prog))
include ok

end
end Va
end Go.Proofs.YtlemdiinmfneoaaGreat

/- What an expression refers to. -/
set_option linter.unusedVariables false
set_option linter.unusedSimpArgs false
namespace Go.Ew
open Go.Ev Go.Deep Go.Proofs.YtlemdiinmfneoaaGreat.Va

mutual
/-- How many parts it has. -/
def pE : Ex → Nat
  | .mk _ _ _ _ args => 1 + pEs args
def pEs : List Ex → Nat
  | [] => 0
  | e :: l => pE e + pEs l
end

mutual
/-- What it refers to, from the left. -/
def refsE : Ex → List (Int × Int)
  | .mk op _ occ attr args => (if op = 1 then [(occ, attr)] else []) ++ refsEs args
def refsEs : List Ex → List (Int × Int)
  | [] => []
  | e :: l => refsE e ++ refsEs l
end

theorem pEs_take : ∀ (l : List Ex) (j : Nat) (e : Ex), l[j]? = some e → pEs (l.take (j + 1)) = pEs (l.take j) + pE e
  | [], j, e, h => by simp at h
  | x :: l, 0, e, h => by simp at h; subst h; simp [pEs]
  | x :: l, j + 1, e, h => by
    have := pEs_take l j e (by simpa using h)
    simp only [List.take_succ_cons, pEs] at this ⊢
    omega

theorem pEs_le : ∀ (l : List Ex) (j : Nat), pEs (l.take j) ≤ pEs l
  | [], j => by simp [pEs]
  | x :: l, 0 => by simp [pEs]
  | x :: l, j + 1 => by
    have := pEs_le l j
    simp only [List.take_succ_cons, pEs]
    omega

theorem refs_take : ∀ (l : List Ex) (j : Nat) (e : Ex), l[j]? = some e → refsEs (l.take (j + 1)) = refsEs (l.take j) ++ refsE e
  | [], j, e, h => by simp at h
  | x :: l, 0, e, h => by simp at h; subst h; simp [refsEs]
  | x :: l, j + 1, e, h => by
    have := refs_take l j e (by simpa using h)
    simp only [List.take_succ_cons, refsEs] at this ⊢
    rw [this, List.append_assoc]

theorem refs_split : ∀ (l : List Ex) (j : Nat), refsEs l = refsEs (l.take j) ++ refsEs (l.drop j)
  | [], j => by simp [refsEs]
  | x :: l, 0 => by simp [refsEs]
  | x :: l, j + 1 => by
    have := refs_split l j
    simp only [List.take_succ_cons, List.drop_succ_cons, refsEs, List.append_assoc]
    rw [← this]

mutual
theorem refs_le : ∀ e : Ex, (refsE e).length ≤ pE e
  | .mk op v occ attr args => by
    have := refs_les args
    simp only [refsE, pE, List.length_append]
    split <;> simp <;> omega
theorem refs_les : ∀ l : List Ex, (refsEs l).length ≤ pEs l
  | [] => by simp [refsEs]
  | e :: l => by
    have := refs_le e
    have := refs_les l
    simp only [refsEs, pEs, List.length_append]
    omega
end

theorem takes_le {op n : Int} (h : takesB op n = true) : n ≤ 4 := by
  unfold takesB at h
  split at h
  · have := of_decide_eq_true h; omega
  · split at h
    · have := of_decide_eq_true h; omega
    · split at h
      · have := of_decide_eq_true h; omega
      · split at h
        · have := of_decide_eq_true h; omega
        · simp only [Bool.and_eq_true, decide_eq_true_eq] at h; omega

def pairC (l : List (Int × Int)) : List Value := l.flatMap fun p => [.int .i64 p.1, .int .i64 p.2]

theorem pairC_app (l m : List (Int × Int)) : pairC (l ++ m) = pairC l ++ pairC m := by simp [pairC]

abbrev PT : TI := ⟨2, 16, true, 2, 3, 2, [], [.int .i64 0, .int .i64 0]⟩

end Go.Ew

namespace Go.Proofs.YtlemdiinmfneoaaGreat
open Go.Ev Go.Ew
namespace Va
section
variable (ok : EnvOk (env Tryz.prog))
include ok

omit ok in
theorem l24 {d : Nat} {args : List Ex} {X H : KH} {aa : OA} {ca : Nat} {Q : PQ} {F : List (Nat × Ent)} {a : OA} {n c : Nat} {cs : List Value}
    (ih : ∀ (e : Ex) (ce : List Value) (H : KH) (F : List (Nat × Ent)) (a : OA) (n c : Nat) (cs : List Value) (Q : PQ), e ∈ args → RE X e ce → OwnQ 2 a n c cs F → frL X F → Le (addL X F) H → n + (refsE e).length ≤ 100000 →
      (∀ a' c' F' H', OwnQ 2 a' (n + (refsE e).length) c' (cs ++ pairC (refsE e)) F' → frL X F' → Le (addL X F') H' → Q (.slice a' (n + (refsE e).length) c') H') → Does (env Tryz.prog) 21 [.slice a n c, .agg ce.toArray] H Q)
    (hres : RES X args aa) (hal : args.length ≤ 1000) (hown : OwnQ 2 a n c cs F) (hfr : frL X F) (hle : Le (addL X F) H) (hn : n + (refsEs args).length ≤ 100000)
    (hq : ∀ a' c' F' H', OwnQ 2 a' (n + (refsEs args).length) c' (cs ++ pairC (refsEs args)) F' → frL X F' → Le (addL X F') H' → Q (.slice a' (n + (refsEs args).length) c') H') : vc21_L1 a n c aa args.length ca H Q := by
  unfold vc21_L1
  refine ⟨fun m a4 n5 n6 a7 n8 n9 x10 x11 H12 => a7 = aa ∧ n8 = args.length ∧ x10 = (args.length : Nat) ∧ ∃ (j : Nat) (F1 : List (Nat × Ent)), x11 = j ∧ j ≤ args.length ∧ m = args.length - j ∧ n5 = n + (refsEs (args.take j)).length ∧ OwnQ 2 a4 n5 n6 (cs ++ pairC (refsEs (args.take j))) F1 ∧ frL X F1 ∧ Le (addL X F1) H12,
    ⟨args.length, rfl, rfl, rfl, 0, F, rfl, by omega, rfl, by simp [refsEs], by simpa [refsEs, pairC] using hown, hfr, hle⟩, ?_⟩
  rintro m a4 n5 n6 a7 n8 n9 x10 x11 H12 ⟨rfl, rfl, rfl, j, F1, rfl, hj, rfl, hn5, hown1, hfr1, hle1⟩
  refine ⟨fun hlt => ?_, fun hge => ?_⟩
  · have hlt : j < args.length := by have := of_decide_eq_true hlt; omega
    have hy : args[j]? = some args[j] := by simp [hlt]
    obtain ⟨b1, o1, ha, ce, hld, hre⟩ := RES.get hres hy
    have hs := refs_take args j _ hy
    have hsp := congrArg List.length (refs_split args (j + 1))
    rw [hs] at hsp
    simp only [List.length_append] at hsp
    have ihj := fun Q => ih args[j] ce H12 F1 a4 n5 n6 (cs ++ pairC (refsEs (args.take j))) Q (List.getElem_mem hlt)
    generalize args[j] = ej at *
    have hre' := hre
    obtain ⟨op0, v0, occ0, at0, as0⟩ := ej
    obtain ⟨k0, i0, t0, av0, nv0, cv0, aa0, ca0, rfl, _, _⟩ := hre
    refine ⟨⟨by omega, by omega⟩, b1, o1, ha, _, _, _, _, _, _, _, _, _, _, _, _, by simpa using hle1.ld ((addL_le hfr1).ld hld), ihj _ hre' hown1 hfr1 hle1 (by omega) fun a' c' F' H' g1 g2 g3 => ⟨a', _, c', rfl, args.length - (j + 1), by omega, rfl, rfl, rfl, j + 1, F', ?_, by omega, rfl, ?_, ?_, g2, g3⟩⟩
    · rw [wrap64 (by omega) (by omega)]; omega
    · rw [hs, List.length_append]; omega
    · rw [hs, pairC_app, ← List.append_assoc]; exact g1
  · have hge : j = args.length := by have := of_decide_eq_false hge; omega
    subst hge
    rw [List.take_length] at hn5 hown1
    subst hn5
    exact hq a4 n6 F1 H12 hown1 hfr1 hle1

end
end Va
end Go.Proofs.YtlemdiinmfneoaaGreat
