import Derived.Test.YtpdabjimdfifnaaGreatEwGen
import Derived.Test.YtpdabjimdfifnaaGreatEwEx8
/- Blocks that are kept while calls are made: rows of one's own that grow. -/
set_option linter.unusedVariables false
set_option linter.unusedSimpArgs false
namespace Go.Ew
open Go.Ev Go.Deep Go.Proofs.YtpdabjimdfifnaaGreat.Va

/-- What does with less does with more. -/
theorem Does.more {E : Env} {g : Nat} {args : List Value} {H0 H : KH} {Q : Value → KH → Prop} (h : Does E g args H0 Q) (hl : Le H0 H) : Does E g args H Q := by
  refine ⟨h.lt, fun hp wf know => ?_⟩
  obtain ⟨v, h', H', h1, h2, h3, h4, h5, h6, h7⟩ := h.run hp wf fun k e q => know k e (hl k e q)
  exact ⟨v, h', H', h1, h2, h3, h4, h5, fun k hk q => h6 k hk (hl.none q), fun k q => (h7 k q).imp (fun g e => g (hl.none e)) id⟩

theorem Does.post {E : Env} {g : Nat} {args : List Value} {H : KH} {Q Q' : Value → KH → Prop} (h : Does E g args H Q) (hq : ∀ v H', Q v H' → Q' v H') : Does E g args H Q' := by
  refine ⟨h.lt, fun hp wf know => ?_⟩
  obtain ⟨v, h', H', h1, h2, h3⟩ := h.run hp wf know
  exact ⟨v, h', H', h1, hq v H' h2, h3⟩

def addL (X : KH) : List (Nat × Ent) → KH
  | [] => X
  | (b, e) :: F => (addL X F).new b e

def frL (X : KH) : List (Nat × Ent) → Prop
  | [] => True
  | (b, _) :: F => addL X F b = none ∧ frL X F

theorem addL_le {X : KH} : ∀ {F : List (Nat × Ent)}, frL X F → Le X (addL X F)
  | [], _ => Le.refl _
  | (b, e) :: F, h => (addL_le h.2).trans (Le.new h.1)

theorem Does.frameL {E : Env} {g : Nat} {args : List Value} {X : KH} : ∀ {F : List (Nat × Ent)} {Q : Value → KH → Prop}, frL X F → (Does E g args X fun v X' => frL X' F → Q v (addL X' F)) → Does E g args (addL X F) Q
  | [], Q, _, h => h.post fun v X' q => q trivial
  | (b, e) :: F, Q, hf, h => by
    refine Does.frame hf.1 (Does.frameL (F := F) hf.2 (h.post fun v X' q h1 h2 => ?_))
    exact q ⟨h2, h1⟩

/-- A call in the presence of what is kept. -/
theorem Does.keep {E : Env} {g : Nat} {args : List Value} {X H : KH} {F : List (Nat × Ent)} {Q : Value → KH → Prop} (hf : frL X F) (hl : Le (addL X F) H) (h : Does E g args X fun v X' => frL X' F → ∀ H', Le (addL X' F) H' → Q v H') : Does E g args H Q :=
  (Does.frameL hf (h.post fun v X' q h1 => q h1 _ (Le.refl _))).more hl

theorem addL_get {X : KH} {b : Nat} {e : Ent} : ∀ {F : List (Nat × Ent)}, frL X F → (b, e) ∈ F → addL X F b = some e
  | (b', e') :: F, h, hm => by
    rcases List.mem_cons.1 hm with q | q
    · cases q; exact if_pos rfl
    · have ih := addL_get h.2 q
      exact (Le.new h.1) _ _ ih

/-- A row of one's own, told by its block. -/
def OwnQ (sz : Nat) (a : Option Addr) (n c : Nat) (cs : List Value) (F : List (Nat × Ent)) : Prop := F.length ≤ 1 ∧ Own (fun _ => none) (addL (fun _ => none) F) sz a n c cs

theorem OwnQ.nil {sz : Nat} : OwnQ sz none 0 0 [] [] := ⟨by simp, .nil⟩

theorem OwnQ.cells {sz n c : Nat} {a : Option Addr} {cs : List Value} {F G : List (Nat × Ent)} {X H : KH} (h : OwnQ sz a n c cs F) (hf : frL X (F ++ G)) (hl : Le (addL X (F ++ G)) H) : Own (addL X G) H sz a n c cs := by
  obtain ⟨h1, h2⟩ := h
  match F, h1 with
  | [], _ =>
    cases h2 with
    | nil => exact .nil
    | lit b _ _ q => cases q
    | grown b _ _ e q => cases q
  | [(b0, e0)], _ =>
    have hb : H b0 = some e0 := hl _ _ (if_pos rfl)
    have h0 : addL X G b0 = none := hf.1
    cases h2 with
    | nil => exact .nil
    | lit b _ _ q1 q2 q3 q4 =>
      have : b = b0 := by
        by_cases e : b = b0
        · exact e
        · simp only [addL, KH.new, if_neg e] at q1; cases q1
      subst this
      simp only [addL, KH.new, if_true] at q1
      cases q1
      exact .lit b n cs hb q2 q3 h0
    | grown b _ _ e q1 q2 q3 q4 q5 q6 =>
      have : b = b0 := by
        by_cases e : b = b0
        · exact e
        · simp only [addL, KH.new, if_neg e] at q1; cases q1
      subst this
      simp only [addL, KH.new, if_true] at q1
      cases q1
      exact .grown b n cs _ hb q2 q3 q4 h0 q6

theorem frL_tail {X : KH} : ∀ {F G : List (Nat × Ent)}, frL X (F ++ G) → frL X G
  | [], G, h => h
  | (b, e) :: F, G, h => frL_tail (F := F) h.2

theorem addL_tail {X : KH} : ∀ {F G : List (Nat × Ent)}, frL X (F ++ G) → Le (addL X G) (addL X (F ++ G))
  | [], G, _ => Le.refl _
  | (b, e) :: F, G, h => (addL_tail (F := F) h.2).trans (Le.new h.1)

/-- It grows. -/
theorem OwnQ.append {ti : TI} {n c m nm : Nat} {a : Option Addr} {cs new : List Value} {F G : List (Nat × Ent)} {X H : KH} (h : OwnQ ti.size a n c cs F) (hf : frL X (F ++ G)) (hl : Le (addL X (F ++ G)) H) (hnm : H nm = none) (hm : new.length = m * ti.size) (hs : n + m ≤ 1000000) (hb : ti.bytes ≤ 1000000) (hz : 1 ≤ ti.size) (hro : ti.size ≤ 1000000) :
    ∃ a' c' H' F', kappend H nm ti a n c m new = some (.slice a' (n + m) c', H') ∧ OwnQ ti.size a' (n + m) c' (cs ++ new) F' ∧ frL X (F' ++ G) ∧ Le (addL X (F' ++ G)) H' := by
  have hG := frL_tail hf
  obtain ⟨a', c', H', h1, h2, h3, _, _⟩ := Own.append (ti := ti) (m := m) (new := new) (h.cells hf hl) ((addL_tail hf).trans hl) hnm hm hs hb hz hro
  generalize n + m = N at *
  generalize cs ++ new = ds at *
  cases h2 with
  | nil => exact ⟨_, _, H', [], h1, ⟨by simp, .nil⟩, hG, h3⟩
  | lit b _ _ q1 q2 q3 q4 => exact ⟨_, _, H', [(b, mkEnt ds 0)], h1, ⟨by simp, .lit b _ _ (if_pos rfl) q2 q3 rfl⟩, ⟨q4, hG⟩, fun k e q => by
      simp only [List.cons_append, List.nil_append, addL, KH.new] at q
      split at q
      · rename_i ek; subst ek; cases q; exact q1
      · exact h3 k e q⟩
  | grown b _ _ e q1 q2 q3 q4 q5 q6 => exact ⟨_, _, H', [(b, e)], h1, ⟨by simp, .grown b _ _ e (if_pos rfl) q2 q3 q4 rfl q6⟩, ⟨q5, hG⟩, fun k e' q => by
      simp only [List.cons_append, List.nil_append, addL, KH.new] at q
      split at q
      · rename_i ek; subst ek; cases q; exact q1
      · exact h3 k e' q⟩

theorem addL_app {X : KH} : ∀ {F G : List (Nat × Ent)}, addL (addL X G) F = addL X (F ++ G)
  | [], G => rfl
  | (b, e) :: F, G => by simp only [addL, List.cons_append, addL_app]

/-- Kept blocks in another order: a finished one goes beneath. -/
theorem addL_swap {X : KH} {F G : List (Nat × Ent)} (hF : F.length ≤ 1) (h : frL X (F ++ G)) : addL (addL X F) G = addL X (F ++ G) ∧ frL (addL X F) G ∧ frL X F := by
  match F, hF with
  | [], _ => exact ⟨rfl, h, trivial⟩
  | [(b, e)], _ =>
    obtain ⟨h1, h2⟩ := h
    have h1 : addL X G b = none := h1
    induction G with
    | nil => exact ⟨rfl, trivial, h1, trivial⟩
    | cons g G ih =>
      obtain ⟨b', e'⟩ := g
      have hb : b ≠ b' := fun eq => by subst eq; simp [addL, KH.new] at h1
      have h1' : addL X G b = none := by simpa [addL, KH.new, hb] using h1
      have h2 : addL X G b' = none ∧ frL X G := h2
      obtain ⟨i1, i2, i3⟩ := ih h1' h2.2 h1'
      have i1 : addL (X.new b e) G = (addL X G).new b e := i1
      refine ⟨?_, ⟨?_, i2⟩, i3⟩
      · show (addL (X.new b e) G).new b' e' = ((addL X G).new b' e').new b e
        rw [i1, new_new hb]
      · show addL (X.new b e) G b' = none
        rw [i1]
        simp [KH.new, Ne.symm hb, h2.1]

end Go.Ew

/- Rows of values of occurrences, made by the play. -/
set_option linter.unusedVariables false
set_option linter.unusedSimpArgs false
namespace Go.Ew
open Go.Ev Go.Deep Go.Proofs.YtpdabjimdfifnaaGreat.Va

theorem frL_app {X : KH} : ∀ {F G : List (Nat × Ent)}, frL X (F ++ G) ↔ frL (addL X G) F ∧ frL X G
  | [], G => ⟨fun h => ⟨trivial, h⟩, fun h => h.2⟩
  | (b, e) :: F, G => by
    simp only [List.cons_append, frL, frL_app (F := F), addL_app]
    exact ⟨fun h => ⟨⟨h.1, h.2.1⟩, h.2.2⟩, fun h => ⟨h.1.1, h.1.2, h.2⟩⟩

theorem swapL {X : KH} {F1 F2 G : List (Nat × Ent)} (h1 : F1.length ≤ 1) (h : frL X (F1 ++ (F2 ++ G))) : frL X (F2 ++ (F1 ++ G)) ∧ addL X (F2 ++ (F1 ++ G)) = addL X (F1 ++ (F2 ++ G)) := by
  rw [← List.append_assoc, frL_app] at h
  obtain ⟨e1, e2, e3⟩ := addL_swap h1 h.1
  constructor
  · rw [← List.append_assoc, frL_app, frL_app]
    exact ⟨⟨e2, e3⟩, h.2⟩
  · rw [← List.append_assoc, ← List.append_assoc, ← addL_app, ← addL_app (F := F1 ++ F2), ← addL_app (F := F2) (G := F1), e1]

theorem OwnQ.here {sz n c : Nat} {a : Option Addr} {cs : List Value} {F : List (Nat × Ent)} {H : KH} (h : OwnQ sz a n c cs F) (hh : ∀ x ∈ F, H x.1 = some x.2) : Own (fun _ => none) H sz a n c cs := by
  obtain ⟨h1, h2⟩ := h
  match F, h1 with
  | [], _ =>
    cases h2 with
    | nil => exact .nil
    | lit b _ _ q => cases q
    | grown b _ _ e q => cases q
  | [(b0, e0)], _ =>
    have hb : H b0 = some e0 := hh (b0, e0) (by simp)
    cases h2 with
    | nil => exact .nil
    | lit b _ _ q1 q2 q3 q4 =>
      have : b = b0 := by
        by_cases e : b = b0
        · exact e
        · simp only [addL, KH.new, if_neg e] at q1; cases q1
      subst this
      simp only [addL, KH.new, if_true] at q1
      cases q1
      exact .lit b n cs hb q2 q3 rfl
    | grown b _ _ e q1 q2 q3 q4 q5 q6 =>
      have : b = b0 := by
        by_cases e : b = b0
        · exact e
        · simp only [addL, KH.new, if_neg e] at q1; cases q1
      subst this
      simp only [addL, KH.new, if_true] at q1
      cases q1
      exact .grown b n cs _ hb q2 q3 q4 rfl q6

theorem addL_mem {X : KH} {x : Nat × Ent} {F : List (Nat × Ent)} (h : frL X F) (hm : x ∈ F) : addL X F x.1 = some x.2 := addL_get h hm

/-- A row of three values, in a block of its own. -/
structure R3 where
  l : List V
  a : Option Addr
  c : Nat
  cs : List Value
  F : List (Nat × Ent)

structure R3.ok (K : KH) (r : R3) : Prop where
  own : OwnQ 4 r.a r.l.length r.c r.cs r.F
  rc : RC K r.l r.cs
  len : r.l.length = 3
  vals : ∀ v ∈ r.l, Ok v

theorem R3.ok.mono {K K' : KH} {r : R3} (h : r.ok K) (hl : Le K K') : r.ok K' := ⟨h.own, h.rc.mono hl, h.len, h.vals⟩

def R3.cell (r : R3) : Value := .slice r.a r.l.length r.c

def blocks : List R3 → List (Nat × Ent)
  | [] => []
  | r :: l => r.F ++ blocks l

abbrev RT : TI := ⟨1, 24, false, 1, 30, 0, [], [.slice none 0 0]⟩

/-- Rows that are made: those that came last stand first. -/
structure Rs3 (K0 X K : KH) (p : Nat) (rs : List R3) (a : Option Addr) (n c : Nat) (F2 : List (Nat × Ent)) (H : KH) : Prop where
  pk : PK K p X
  le : Le K0 K
  own : OwnQ 1 a n c (rs.reverse.map R3.cell) F2
  len : n = rs.length
  rows : ∀ r ∈ rs, r.ok K
  fr : frL X (F2 ++ blocks rs)
  at_ : Le (addL X (F2 ++ blocks rs)) H
end Go.Ew

namespace Go.Proofs.YtpdabjimdfifnaaGreat
open Go.Ev Go.Ew
namespace Va
section
variable (ok : EnvOk (env Tryz.prog))
include ok

theorem l7 {K0 X K H : KH} {p : Nat} {rs : List R3} {a : Option Addr} {n c m : Nat} {F2 : List (Nat × Ent)} {x : Int} {I : Nat → Nat → Nat → Option Addr → Nat → Nat → Int → KH → Prop} (h : Rs3 K0 X K p rs a n c F2 H) (hn : rs.length ≤ 100)
    (hq : ∀ r X' K' a' c' F2' H', Rs3 K0 X' K' p (r :: rs) a' (n + 1) c' F2' H' → ∃ k, k < m ∧ I k p 0 a' (n + 1) c' (IntKind.wrap .i64 (x + 1)) H') : vc7_L4 p 0 a n c x H m I := by
  unfold vc7_L4
  refine ⟨fun n3 n4 n5 a6 n7 n8 x9 a10 n11 n12 x13 H14 => n4 = p ∧ n5 = 0 ∧ a6 = a ∧ n7 = n ∧ n8 = c ∧ x9 = x ∧ ∃ (X' K' : KH) (F1 : List (Nat × Ent)) (cs1 : List Value) (l : List Ew.V), PK K' p X' ∧ Le K K' ∧ OwnQ 4 a10 n11 n12 cs1 F1 ∧ n11 = l.length ∧ x13 = (l.length : Nat) ∧ l.length ≤ 3 ∧ n3 = 3 - l.length ∧ RC K' l cs1 ∧ frL X' (F1 ++ (F2 ++ blocks rs)) ∧ Le (addL X' (F1 ++ (F2 ++ blocks rs))) H14 ∧ ∀ v ∈ l, Ok v,
    ⟨3, rfl, rfl, rfl, rfl, rfl, rfl, rfl, X, K, [], [], [], h.pk, Le.refl _, .nil, rfl, rfl, by simp, rfl, rfl, h.fr, h.at_, by simp⟩, ?_⟩
  rintro n3 n4 n5 a6 n7 n8 x9 a10 n11 n12 x13 H14 ⟨rfl, rfl, rfl, rfl, rfl, rfl, X1, K1, F1, cs1, l, hpk, hle, hown, rfl, rfl, hl3, rfl, hrc, hfr, hat, hvs⟩
  -- one more value
  have more : ∀ (v : Ew.V) (k i : Int) (s : ByteArray) (av : Option Addr) (nv cv : Nat) (X2 K2 H2 : KH), PK K2 n4 X2 → Le K1 K2 → RV K2 v [.int .i64 k, .int .i64 i, .string s, .slice av nv cv] → Ok v → frL X2 (F1 ++ (F2 ++ blocks rs)) → Le (addL X2 (F1 ++ (F2 ++ blocks rs))) H2 → l.length < 3 →
      ∀ n1, H2 n1 = none → ∀ n2, (H2.new n1 (mkEnt [.int .i64 k, .int .i64 i, .string s, .slice av nv cv] 0)) n2 = none →
        ∃ (n3' : Nat) (l4 : List Value), knew (H2.new n1 (mkEnt [.int .i64 k, .int .i64 i, .string s, .slice av nv cv] 0)) VT (.slice (some ⟨n1, 0, none⟩) 1 1) = some (n3', l4) ∧ ∃ (a5 : Option Addr) (n6 n7' : Nat) (H8 : KH), kappend (H2.new n1 (mkEnt [.int .i64 k, .int .i64 i, .string s, .slice av nv cv] 0)) n2 VT a10 l.length n12 n3' l4 = some (.slice a5 n6 n7', H8) ∧
          ∃ n9 : Nat, n9 < 3 - l.length ∧ ((none : Option Nat) = none ∧ (n4 = n4 ∧ 0 = 0 ∧ a6 = a6 ∧ n7 = n7 ∧ n8 = n8 ∧ x9 = x9 ∧ ∃ (X' K' : KH) (F1 : List (Nat × Ent)) (cs1 : List Value) (l' : List Ew.V), PK K' n4 X' ∧ Le K K' ∧ OwnQ 4 a5 n6 n7' cs1 F1 ∧ n6 = l'.length ∧ IntKind.wrap .i64 (((l.length : Nat) : Int) + 1) = (l'.length : Nat) ∧ l'.length ≤ 3 ∧ n9 = 3 - l'.length ∧ RC K' l' cs1 ∧ frL X' (F1 ++ (F2 ++ blocks rs)) ∧ Le (addL X' (F1 ++ (F2 ++ blocks rs))) H8 ∧ ∀ v ∈ l', Ok v)) := by
    intro v k i s av nv cv X2 K2 H2 hpk2 hle2 hrv hOk hfr2 hat2 hlt n1 hn1 n2 hn2
    have hk : kold (H2.new n1 (mkEnt [.int .i64 k, .int .i64 i, .string s, .slice av nv cv] 0)) 4 (some ⟨n1, 0, none⟩) 1 = some [.int .i64 k, .int .i64 i, .string s, .slice av nv cv] := lit_kold (if_pos rfl) rfl
    obtain ⟨a', c', H', F', e1, e2, e3, e4⟩ := OwnQ.append (ti := VT) (m := 1) (nm := n2) (new := [.int .i64 k, .int .i64 i, .string s, .slice av nv cv]) (F := F1) (G := F2 ++ blocks rs) hown hfr2 (hat2.trans (Le.new hn1)) hn2 rfl (by omega) (by decide) (by decide) (by decide)
    refine ⟨1, _, knew_of hk, a', _, c', H', e1, 3 - (l.length + 1), by omega, rfl, rfl, rfl, rfl, rfl, rfl, rfl, X2, K2, F', _, l ++ [v], hpk2, hle.trans hle2, e2, by simp, ?_, by simp; omega, by simp, (hrc.mono hle2).append (RC.one hrv), e3, e4, fun w hw => ?_⟩
    · rw [wrap64 (by omega) (by omega)]; simp
    · rcases List.mem_append.1 hw with hw | hw
      · exact hvs w hw
      · have : w = v := by simpa using hw
        subst this
        exact hOk
  refine ⟨fun hlt => ?_, fun hge => ?_⟩
  · have hlt : l.length < 3 := by have := of_decide_eq_true hlt; omega
    refine Does.keep hfr hat (c17 ok 2 (by omega) K1 X1 n4 _ hpk fun v cs K2 X2 q1 q2 q3 q4 hf2 H2 hl2 => ?_)
    have q3' := q3
    obtain ⟨k, i, s, lv⟩ := v
    obtain ⟨av, nv, cv, rfl, rfl, _, _⟩ := q3
    refine ⟨_, _, _, _, _, _, rfl, Does.keep hf2 hl2 (c18 ok q1 (by omega) (by omega) fun y X3 hy1 hy2 hp3 hf3 H3 hl3' => ⟨y, rfl, fun hy => ?_, fun hy => ?_⟩)⟩
    · refine Does.keep hf3 hl3' (c18 ok hp3 (by omega) (by omega) fun z X4 hz1 hz2 hp4 hf4 H4 hl4 => ⟨z, rfl, ?_⟩)
      rw [wrap64 (by omega) (by omega)]
      exact more (badV (1 + z)) 7 (1 + z) emp none 0 0 X4 K2 H4 hp4 q2 leaf (ok_bad (by omega) (by omega)) hf4 hl4 hlt
    · exact more _ _ _ _ _ _ _ X3 K2 H3 hp3 q2 q3' ⟨by have := q4.1; omega, q4.2.fit⟩ hf3 hl3' hlt
  · have hge : l.length = 3 := by have := of_decide_eq_false hge; omega
    intro n1 hn1 n2 hn2
    have hk : kold (H14.new n1 (mkEnt [.slice a10 l.length n12] 0)) RT.size (some ⟨n1, 0, none⟩) 1 = some [.slice a10 l.length n12] := lit_kold (if_pos rfl) rfl
    obtain ⟨hfr', hadd⟩ := swapL hown.1 hfr
    obtain ⟨a', c', H', F', e1, e2, e3, e4⟩ := OwnQ.append (ti := RT) (m := 1) (nm := n2) (new := [.slice a10 l.length n12]) (F := F2) (G := F1 ++ blocks rs) (by exact h.own) hfr' (by rw [hadd]; exact hat.trans (Le.new hn1)) hn2 rfl (by have := h.len; omega) (by decide) (by decide) (by decide)
    have hrows : ∀ r ∈ (⟨l, a10, n12, cs1, F1⟩ : R3) :: rs, r.ok K1 := fun r hr => by
      rcases List.mem_cons.1 hr with rfl | hr
      · exact ⟨hown, hrc, hge, hvs⟩
      · exact (h.rows r hr).mono hle
    obtain ⟨kk, hk1, hk2⟩ := hq ⟨l, a10, n12, cs1, F1⟩ X1 K1 a' c' F' H' ⟨hpk, h.le.trans hle, by simpa [R3.cell] using e2, by have := h.len; simp; omega, hrows, e3, e4⟩
    exact ⟨1, _, knew_of hk, a', _, c', H', e1, kk, hk1, rfl, hk2⟩

abbrev fourTexts : List Value := [.string (ByteArray.mk #[]), .string (ByteArray.mk #[57, 57, 57, 57, 57, 57, 57, 57, 57, 57, 57, 57, 57, 57, 57, 57, 57, 57]), .string (ByteArray.mk #[49, 50, 51, 52, 53, 54, 55, 56, 57, 48, 49, 50, 51, 52, 53, 54, 55, 56, 57]), .string (ByteArray.mk #[48, 48, 55])]

theorem c7 {pa : Option Addr} {n c : Nat} {H : KH} {Q : Value → KH → Prop} (hu : U8 H pa n) (hn : n ≤ 1000000)
    (hq : ∀ (X K : KH) (p : Nat) (rs : List R3) (a : Option Addr) (c1 : Nat) (F2 : List (Nat × Ent)) (H1 : KH) (n8 : Nat) (s : ByteArray), Rs3 H X K p rs a rs.length c1 F2 H1 → rs.length = 3 → s.size ≤ 100 → H1 n8 = some (mkEnt [.string (ByteArray.mk #[49, 50]), .string (ByteArray.mk #[120]), .string s] 0) → addL X (F2 ++ blocks rs) n8 = none →
      Q (.tuple #[.slice a rs.length c1, .slice (some ⟨n8, 0, none⟩) 3 3]) H1) : Does (env Tryz.prog) 7 [.slice pa n c] H Q := by
  refine fn7 ok (c8 ok hu hn fun p H1 hp => ⟨p, 0, rfl, ?_⟩)
  unfold vc7_L6
  refine ⟨fun n3 n4 n5 a6 n7 n8 x9 H10 => n4 = p ∧ n5 = 0 ∧ ∃ (X K : KH) (rs : List R3) (F2 : List (Nat × Ent)), Rs3 H X K p rs a6 n7 n8 F2 H10 ∧ x9 = (rs.length : Nat) ∧ rs.length ≤ 3 ∧ n3 = 3 - rs.length,
    ⟨3, rfl, rfl, rfl, H1, H, [], [], ⟨hp, Le.refl _, .nil, rfl, by simp, trivial, Le.refl _⟩, rfl, by simp, rfl⟩, ?_⟩
  rintro n3 n4 n5 a6 n7 n8 x9 H10 ⟨rfl, rfl, X, K, rs, F2, h, rfl, hle, rfl⟩
  have hlen := h.len
  subst hlen
  refine ⟨fun hlt => ?_, fun hge => ⟨trivial, fun n1 hn1 => ?_⟩⟩
  · have hlt : rs.length < 3 := by have := of_decide_eq_true hlt; omega
    refine l7 ok h (by omega) fun r X' K' a' c' F2' H' h' => ⟨3 - (rs.length + 1), by omega, rfl, rfl, X', K', r :: rs, F2', h', ?_, by simp; omega, by simp⟩
    rw [wrap64 (by omega) (by omega)]; simp
  · have hge : rs.length = 3 := by have := of_decide_eq_false hge; omega
    rw [hide_new hn1]
    refine Does.keep h.fr h.at_ (c18 ok h.pk (by omega) (by omega) fun y X2 hy1 hy2 hp2 hf2 H2 hl2 => ⟨y, rfl, fun hH2 => ?_⟩)
    rw [back_new]
    have hat : (H2.new n1 (mkEnt fourTexts 0)) n1 = some (mkEnt fourTexts 0) := if_pos rfl
    have hs : ∃ s : ByteArray, fourTexts[y.toNat]? = some (.string s) ∧ s.size ≤ 100 := by
      have h4 : y.toNat = 0 ∨ y.toNat = 1 ∨ y.toNat = 2 ∨ y.toNat = 3 := by omega
      rcases h4 with q | q | q | q <;> rw [q]
      · exact ⟨_, rfl, by decide⟩
      · exact ⟨_, rfl, by decide⟩
      · exact ⟨_, rfl, by decide⟩
      · exact ⟨_, rfl, by decide⟩
    obtain ⟨s, hs1, hs2⟩ := hs
    have leN : Le H2 (H2.new n1 (mkEnt fourTexts 0)) := Le.new hH2
    refine ⟨⟨rfl, trivial⟩, ⟨hy1, by omega⟩, n1, 0, rfl, s, lit_get hat hs1, fun n8 hn8 => ?_⟩
    exact hq X2 K n4 rs a6 _ F2 _ n8 s ⟨hp2, h.le, h.own, rfl, h.rows, hf2, (hl2.trans leN).trans (Le.new hn8)⟩ hge hs2 (if_pos rfl) ((hl2.trans leN).none hn8)
end
end Va
end Go.Proofs.YtpdabjimdfifnaaGreat

/- The law ExprTotal: what its function answers. -/
set_option linter.unusedVariables false
set_option linter.unusedSimpArgs false
namespace Go.Ew
open Go.Ev Go.Deep Go.Proofs.YtpdabjimdfifnaaGreat.Va

theorem blocks_mem {r : R3} : ∀ {rs : List R3}, r ∈ rs → ∀ x ∈ r.F, x ∈ blocks rs
  | r' :: rs, h, x, hx => by
    rcases List.mem_cons.1 h with rfl | h
    · exact List.mem_append_left _ hx
    · exact List.mem_append_right _ (blocks_mem h x hx)

theorem own_at {H0 H : KH} {n c : Nat} {a : Option Addr} {cs : List Value} {i : Nat} {v : Value} (h : Own H0 H 1 a n c cs) (hv : cs[i]? = some v) : ∃ b o, a = some ⟨b, o, none⟩ ∧ ld H ⟨b, o + i, none⟩ [v] := by
  have hl := kold_len h.cells
  have hi : i < cs.length := by
    rcases Nat.lt_or_ge i cs.length with q | q
    · exact q
    · rw [List.getElem?_eq_none q] at hv; cases hv
  obtain ⟨b, E, rfl, hb, _⟩ := h.at_ (by omega)
  obtain ⟨e, he, hr⟩ := kold_some.1 h.cells
  refine ⟨b, 0, rfl, rfl, e, he, ?_⟩
  have r1 := rd_drop hr (m := i) (by omega)
  have r2 := rd_take r1 (m := 1) (by omega)
  rw [List.length_singleton]
  rw [List.getElem?_eq_getElem hi] at hv
  rw [List.drop_eq_getElem_cons hi, Option.some.inj hv] at r2
  exact r2

theorem Rs3.le0 {K0 X K H : KH} {p n c : Nat} {rs : List R3} {a : Option Addr} {F2 : List (Nat × Ent)} (h : Rs3 K0 X K p rs a n c F2 H) : Le K0 H ∧ Le K H :=
  ⟨h.le.trans (h.pk.le.trans ((addL_le h.fr).trans h.at_)), h.pk.le.trans ((addL_le h.fr).trans h.at_)⟩

def rowsOf (rs : List R3) : List (List V) := rs.reverse.map (·.l)

theorem Rs3.vals {K0 X K H : KH} {p n c : Nat} {rs : List R3} {a : Option Addr} {F2 : List (Nat × Ent)} (h : Rs3 K0 X K p rs a n c F2 H) (hn : rs.length ≤ 1000) : Vals H (rowsOf rs) a := by
  have hle := h.le0.2
  have hin : ∀ x ∈ F2 ++ blocks rs, H x.1 = some x.2 := fun x hx => h.at_ _ _ (addL_mem h.fr hx)
  have hown := h.own.here (H := H) fun x hx => hin x (List.mem_append_left _ hx)
  refine ⟨fun i l hi => ?_, fun l hl v hv => ?_, ⟨by simp [rowsOf]; omega, fun l hl => ?_⟩⟩
  · unfold rowsOf at hi
    rw [List.getElem?_map] at hi
    cases hr : rs.reverse[i]? with
    | none => rw [hr] at hi; cases hi
    | some r =>
      rw [hr] at hi
      have hi : r.l = l := Option.some.inj hi
      subst hi
      have hm : r ∈ rs := List.mem_reverse.1 (List.mem_of_getElem? hr)
      obtain ⟨b, o, ha, hld⟩ := own_at (i := i) (v := r.cell) hown (by rw [List.getElem?_map, hr]; rfl)
      have hro := h.rows r hm
      have hr2 := hro.own.here (H := H) fun x hx => hin x (List.mem_append_right _ (blocks_mem hm x hx))
      exact ⟨b, o, r.a, r.c, ha, hld, RS.of_cells hr2.cells (hro.rc.mono hle)⟩
  · obtain ⟨r, hr, rfl⟩ := List.mem_map.1 hl
    have := ((h.rows r (List.mem_reverse.1 hr)).vals v hv).sz
    omega
  · obtain ⟨r, hr, rfl⟩ := List.mem_map.1 hl
    have := (h.rows r (List.mem_reverse.1 hr)).len
    omega

theorem texts3 {H : KH} {n8 : Nat} {s : ByteArray} (h : H n8 = some (mkEnt [.string (ByteArray.mk #[49, 50]), .string (ByteArray.mk #[120]), .string s] 0)) (hs : s.size ≤ 100) : Texts H [ByteArray.mk #[49, 50], ByteArray.mk #[120], s] (some ⟨n8, 0, none⟩) := by
  refine ⟨fun i t hi => ?_, fun t ht => ?_, by simp⟩
  · refine ⟨n8, 0, rfl, ?_⟩
    have := lit_get (j := i) (v := .string t) h (by
      match i, hi with
      | 0, hi => simp at hi; subst hi; rfl
      | 1, hi => simp at hi; subst hi; rfl
      | 2, hi => simp at hi; subst hi; rfl
      | i + 3, hi => simp at hi)
    simpa using this
  · simp only [List.mem_cons, List.not_mem_nil, or_false] at ht
    rcases ht with rfl | rfl | rfl
    · decide
    · decide
    · omega

end Go.Ew

namespace Go.Proofs.YtpdabjimdfifnaaGreat
open Go.Ev Go.Ew
namespace Va
section
variable (ok : EnvOk (env Tryz.prog))
include ok

end
end Va
end Go.Proofs.YtpdabjimdfifnaaGreat

/- What an expression refers to. -/
set_option linter.unusedVariables false
set_option linter.unusedSimpArgs false
namespace Go.Ew
open Go.Ev Go.Deep Go.Proofs.YtpdabjimdfifnaaGreat.Va

mutual
/-- How many parts it has. -/
def pE : Ex → Nat
  | .mk _ _ _ _ args => 1 + pEs args
def pEs : List Ex → Nat
  | [] => 0
  | e :: l => pE e + pEs l
end

mutual
/-- What it refers to, from the left. -/
def refsE : Ex → List (Int × Int)
  | .mk op _ occ attr args => (if op = 1 then [(occ, attr)] else []) ++ refsEs args
def refsEs : List Ex → List (Int × Int)
  | [] => []
  | e :: l => refsE e ++ refsEs l
end

theorem pEs_take : ∀ (l : List Ex) (j : Nat) (e : Ex), l[j]? = some e → pEs (l.take (j + 1)) = pEs (l.take j) + pE e
  | [], j, e, h => by simp at h
  | x :: l, 0, e, h => by simp at h; subst h; simp [pEs]
  | x :: l, j + 1, e, h => by
    have := pEs_take l j e (by simpa using h)
    simp only [List.take_succ_cons, pEs] at this ⊢
    omega

theorem pEs_le : ∀ (l : List Ex) (j : Nat), pEs (l.take j) ≤ pEs l
  | [], j => by simp [pEs]
  | x :: l, 0 => by simp [pEs]
  | x :: l, j + 1 => by
    have := pEs_le l j
    simp only [List.take_succ_cons, pEs]
    omega

theorem refs_take : ∀ (l : List Ex) (j : Nat) (e : Ex), l[j]? = some e → refsEs (l.take (j + 1)) = refsEs (l.take j) ++ refsE e
  | [], j, e, h => by simp at h
  | x :: l, 0, e, h => by simp at h; subst h; simp [refsEs]
  | x :: l, j + 1, e, h => by
    have := refs_take l j e (by simpa using h)
    simp only [List.take_succ_cons, refsEs] at this ⊢
    rw [this, List.append_assoc]

theorem refs_split : ∀ (l : List Ex) (j : Nat), refsEs l = refsEs (l.take j) ++ refsEs (l.drop j)
  | [], j => by simp [refsEs]
  | x :: l, 0 => by simp [refsEs]
  | x :: l, j + 1 => by
    have := refs_split l j
    simp only [List.take_succ_cons, List.drop_succ_cons, refsEs, List.append_assoc]
    rw [← this]

mutual
theorem refs_le : ∀ e : Ex, (refsE e).length ≤ pE e
  | .mk op v occ attr args => by
    have := refs_les args
    simp only [refsE, pE, List.length_append]
    split <;> simp <;> omega
theorem refs_les : ∀ l : List Ex, (refsEs l).length ≤ pEs l
  | [] => by simp [refsEs]
  | e :: l => by
    have := refs_le e
    have := refs_les l
    simp only [refsEs, pEs, List.length_append]
    omega
end

theorem takes_le {op n : Int} (h : takesB op n = true) : n ≤ 4 := by
  unfold takesB at h
  split at h
  · have := of_decide_eq_true h; omega
  · split at h
    · have := of_decide_eq_true h; omega
    · split at h
      · have := of_decide_eq_true h; omega
      · split at h
        · have := of_decide_eq_true h; omega
        · simp only [Bool.and_eq_true, decide_eq_true_eq] at h; omega

theorem may_parts : ∀ {d : Nat} {e : Ex}, mayB d e = true → pE e ≤ 5 ^ d
  | 0, e, h => by cases h
  | d + 1, .mk op v occ attr args, h => by
    simp only [mayB, Bool.and_eq_true, List.all_eq_true] at h
    have hl : ∀ l : List Ex, (∀ x ∈ l, mayB d x = true) → pEs l ≤ l.length * 5 ^ d := by
      intro l
      induction l with
      | nil => intro _; simp [pEs]
      | cons x l ih =>
        intro hx
        have h1 := may_parts (hx x (by simp))
        have h2 := ih fun y hy => hx y (by simp [hy])
        simp only [pEs, List.length_cons, Nat.add_mul, Nat.one_mul]
        omega
    have h1 := hl args h.2.2
    have h4 : args.length ≤ 4 := by have := takes_le h.1; omega
    have h5 : args.length * 5 ^ d ≤ 4 * 5 ^ d := Nat.mul_le_mul_right _ h4
    have h6 : 1 ≤ 5 ^ d := Nat.one_le_pow _ _ (by omega)
    simp only [pE, Nat.pow_succ]
    omega

def pairC (l : List (Int × Int)) : List Value := l.flatMap fun p => [.int .i64 p.1, .int .i64 p.2]

theorem pairC_app (l m : List (Int × Int)) : pairC (l ++ m) = pairC l ++ pairC m := by simp [pairC]

abbrev PT : TI := ⟨2, 16, true, 2, 3, 2, [], [.int .i64 0, .int .i64 0]⟩

/-- What it comes to hangs on what it refers to alone. -/
theorem eval_refs {vals vals' : List (List V)} {texts : List ByteArray} : ∀ (d : Nat) (e : Ex), (∀ p ∈ refsE e, refV vals p.1 p.2 = refV vals' p.1 p.2) → evalE vals texts d e = evalE vals' texts d e
  | 0, e, _ => by rw [evalE, evalE]
  | d + 1, .mk op v occ attr args, h => by
    have hargs : args.map (evalE vals texts d) = args.map (evalE vals' texts d) := by
      have hl : ∀ l : List Ex, (∀ p ∈ refsEs l, refV vals p.1 p.2 = refV vals' p.1 p.2) → l.map (evalE vals texts d) = l.map (evalE vals' texts d) := by
        intro l
        induction l with
        | nil => intro _; rfl
        | cons x l ih =>
          intro hx
          rw [List.map_cons, List.map_cons, eval_refs d x (fun p hp => hx p (by simp only [refsEs]; exact List.mem_append_left _ hp)), ih fun p hp => hx p (by simp only [refsEs]; exact List.mem_append_right _ hp)]
      exact hl args fun p hp => h p (by simp only [refsE]; exact List.mem_append_right _ hp)
    rw [evalE, evalE, hargs]
    by_cases h1 : op = 1
    · have := h (occ, attr) (by simp [refsE, h1])
      simp only at this
      rw [this]
    · simp only [if_neg h1]
end Go.Ew

namespace Go.Proofs.YtpdabjimdfifnaaGreat
open Go.Ev Go.Ew
namespace Va
section
variable (ok : EnvOk (env Tryz.prog))
include ok

theorem c23 : ∀ (d : Nat) (e : Ex) (ce : List Value) (H : KH) (Q : Value → KH → Prop) (most deep : Int), RE H e ce → mayB d e = true → (d : Int) ≤ deep → deep ≤ 100000 → (pE e : Int) < most → most ≤ 4294967296 → Q (.int .i64 (pE e : Nat)) H → Does (env Tryz.prog) 23 [.agg ce.toArray, .int .i64 most, .int .i64 deep] H Q
  | 0, e, ce, H, Q, most, deep, hr, hm, _, _, _, _, _ => by cases hm
  | d + 1, .mk op v occ attr args, ce, H, Q, most, deep, hr, hm, hd1, hd2, hp, hm2, hq => by
    obtain ⟨k, i, s, av, nv, cv, aa, ca, rfl, hrv, hres⟩ := hr
    simp only [mayB, Bool.and_eq_true, List.all_eq_true] at hm
    have hargs := hm.2.2
    simp only [pE] at hp hq
    refine fn23 ok ⟨fun h => ?_, fun _ => ?_⟩
    · have := of_decide_eq_true h; omega
    unfold vc23_L2
    have hlen : args.length ≤ pEs args := by
      clear hq hp hres hargs hm
      induction args with
      | nil => simp
      | cons x l ih => obtain ⟨o, v', c', a', as'⟩ := x; simp only [List.length_cons, pEs, pE]; omega
    refine ⟨fun m x4 x5 x6 a7 n8 n9 x10 x11 H12 => x4 = most ∧ x5 = deep ∧ a7 = aa ∧ n8 = args.length ∧ x10 = (args.length : Nat) ∧ H12 = H ∧ ∃ j : Nat, x11 = j ∧ j ≤ args.length ∧ m = args.length - j ∧ x6 = ((1 + pEs (args.take j) : Nat) : Int),
      ⟨args.length, rfl, rfl, rfl, rfl, rfl, rfl, 0, rfl, by omega, rfl, by simp [pEs]⟩, ?_⟩
    rintro m x4 x5 x6 a7 n8 n9 x10 x11 H12 ⟨rfl, rfl, rfl, rfl, rfl, rfl, j, rfl, hj, rfl, rfl⟩
    have hto := pEs_le args j
    refine ⟨fun hlt => ?_, fun hge => ?_⟩
    · have hlt : j < args.length := by have := of_decide_eq_true hlt; omega
      have hy : args[j]? = some args[j] := by simp [hlt]
      obtain ⟨b1, o1, ha, ce, hld, hre⟩ := RES.get hres hy
      have hmj := hargs _ (List.getElem_mem hlt)
      have hs1 := pEs_take args j _ hy
      have hs2 := pEs_le args (j + 1)
      have ihj := c23 d args[j] ce H12
      generalize args[j] = ej at *
      have hre' := hre
      obtain ⟨op0, v0, occ0, at0, as0⟩ := ej
      obtain ⟨k0, i0, t0, av0, nv0, cv0, aa0, ca0, rfl, _, _⟩ := hre
      refine ⟨⟨by omega, by omega⟩, b1, o1, ha, _, _, _, _, _, _, _, _, _, _, _, _, by simpa using hld, fun h => ?_, fun _ => ?_⟩
      · have := of_decide_eq_true h; omega
      · rw [wrap64 (by omega) (by omega), wrap64 (by omega) (by omega)]
        refine ihj _ _ _ hre' hmj (by omega) (by omega) (by omega) (by omega) ⟨_, rfl, args.length - (j + 1), by omega, rfl, rfl, rfl, rfl, rfl, rfl, j + 1, ?_, by omega, rfl, ?_⟩
        · rw [wrap64 (by omega) (by omega)]; omega
        · rw [wrap64 (by omega) (by omega), hs1]; omega
    · have hge : j = args.length := by have := of_decide_eq_false hge; omega
      subst hge
      rw [List.take_length]
      have : min (((1 + pEs args : Nat) : Int)) x4 = ((1 + pEs args : Nat) : Int) := by omega
      rw [this]
      exact hq

omit ok in
theorem l24 {d : Nat} {args : List Ex} {X H : KH} {aa : Option Addr} {ca : Nat} {Q : Value → KH → Prop} {F : List (Nat × Ent)} {a : Option Addr} {n c : Nat} {cs : List Value}
    (ih : ∀ (e : Ex) (ce : List Value) (H : KH) (F : List (Nat × Ent)) (a : Option Addr) (n c : Nat) (cs : List Value) (Q : Value → KH → Prop), e ∈ args → RE X e ce → OwnQ 2 a n c cs F → frL X F → Le (addL X F) H → n + (refsE e).length ≤ 100000 →
      (∀ a' c' F' H', OwnQ 2 a' (n + (refsE e).length) c' (cs ++ pairC (refsE e)) F' → frL X F' → Le (addL X F') H' → Q (.slice a' (n + (refsE e).length) c') H') → Does (env Tryz.prog) 24 [.slice a n c, .agg ce.toArray] H Q)
    (hres : RES X args aa) (hal : args.length ≤ 1000) (hown : OwnQ 2 a n c cs F) (hfr : frL X F) (hle : Le (addL X F) H) (hn : n + (refsEs args).length ≤ 100000)
    (hq : ∀ a' c' F' H', OwnQ 2 a' (n + (refsEs args).length) c' (cs ++ pairC (refsEs args)) F' → frL X F' → Le (addL X F') H' → Q (.slice a' (n + (refsEs args).length) c') H') : vc24_L1 a n c aa args.length ca H Q := by
  unfold vc24_L1
  refine ⟨fun m a4 n5 n6 a7 n8 n9 x10 x11 H12 => a7 = aa ∧ n8 = args.length ∧ x10 = (args.length : Nat) ∧ ∃ (j : Nat) (F1 : List (Nat × Ent)), x11 = j ∧ j ≤ args.length ∧ m = args.length - j ∧ n5 = n + (refsEs (args.take j)).length ∧ OwnQ 2 a4 n5 n6 (cs ++ pairC (refsEs (args.take j))) F1 ∧ frL X F1 ∧ Le (addL X F1) H12,
    ⟨args.length, rfl, rfl, rfl, 0, F, rfl, by omega, rfl, by simp [refsEs], by simpa [refsEs, pairC] using hown, hfr, hle⟩, ?_⟩
  rintro m a4 n5 n6 a7 n8 n9 x10 x11 H12 ⟨rfl, rfl, rfl, j, F1, rfl, hj, rfl, hn5, hown1, hfr1, hle1⟩
  refine ⟨fun hlt => ?_, fun hge => ?_⟩
  · have hlt : j < args.length := by have := of_decide_eq_true hlt; omega
    have hy : args[j]? = some args[j] := by simp [hlt]
    obtain ⟨b1, o1, ha, ce, hld, hre⟩ := RES.get hres hy
    have hs := refs_take args j _ hy
    have hsp := congrArg List.length (refs_split args (j + 1))
    rw [hs] at hsp
    simp only [List.length_append] at hsp
    have ihj := fun Q => ih args[j] ce H12 F1 a4 n5 n6 (cs ++ pairC (refsEs (args.take j))) Q (List.getElem_mem hlt)
    generalize args[j] = ej at *
    have hre' := hre
    obtain ⟨op0, v0, occ0, at0, as0⟩ := ej
    obtain ⟨k0, i0, t0, av0, nv0, cv0, aa0, ca0, rfl, _, _⟩ := hre
    refine ⟨⟨by omega, by omega⟩, b1, o1, ha, _, _, _, _, _, _, _, _, _, _, _, _, by simpa using hle1.ld ((addL_le hfr1).ld hld), ihj _ hre' hown1 hfr1 hle1 (by omega) fun a' c' F' H' g1 g2 g3 => ⟨a', _, c', rfl, args.length - (j + 1), by omega, rfl, rfl, rfl, j + 1, F', ?_, by omega, rfl, ?_, ?_, g2, g3⟩⟩
    · rw [wrap64 (by omega) (by omega)]; omega
    · rw [hs, List.length_append]; omega
    · rw [hs, pairC_app, ← List.append_assoc]; exact g1
  · have hge : j = args.length := by have := of_decide_eq_false hge; omega
    subst hge
    rw [List.take_length] at hn5 hown1
    subst hn5
    exact hq a4 n6 F1 H12 hown1 hfr1 hle1

theorem c24 : ∀ (d : Nat) (e : Ex) (ce : List Value) (X H : KH) (F : List (Nat × Ent)) (a : Option Addr) (n c : Nat) (cs : List Value) (Q : Value → KH → Prop), RE X e ce → mayB d e = true → OwnQ 2 a n c cs F → frL X F → Le (addL X F) H → n + (refsE e).length ≤ 100000 →
    (∀ a' c' F' H', OwnQ 2 a' (n + (refsE e).length) c' (cs ++ pairC (refsE e)) F' → frL X F' → Le (addL X F') H' → Q (.slice a' (n + (refsE e).length) c') H') → Does (env Tryz.prog) 24 [.slice a n c, .agg ce.toArray] H Q
  | 0, e, ce, X, H, F, a, n, c, cs, Q, hr, hm, _, _, _, _, _ => by cases hm
  | d + 1, .mk op v occ attr args, ce, X, H, F, a, n, c, cs, Q, hr, hm, hown, hfr, hle, hn, hq => by
    obtain ⟨k, i, s, av, nv, cv, aa, ca, rfl, hrv, hres⟩ := hr
    have hpe := may_parts hm
    simp only [mayB, Bool.and_eq_true, List.all_eq_true] at hm
    have h4 : args.length ≤ 1000 := by have := takes_le hm.1; omega
    have ih := fun (e : Ex) (ce : List Value) (H : KH) (F : List (Nat × Ent)) (a : Option Addr) (n c : Nat) (cs : List Value) (Q : Value → KH → Prop) (he : e ∈ args) (hr : RE X e ce) => c24 d e ce X H F a n c cs Q hr (hm.2.2 e he)
    refine fn24 ok ⟨fun h1 n1 hn1 n2 hn2 => ?_, fun h1 => ?_⟩
    · have h1 : op = 1 := by simpa using h1
      have e1 : refsE (.mk op v occ attr args) = (occ, attr) :: refsEs args := by simp [refsE, h1]
      rw [e1] at hn hq
      simp only [List.length_cons] at hn hq
      have hk : kold (H.new n1 (mkEnt [.int .i64 occ, .int .i64 attr] 0)) PT.size (some ⟨n1, 0, none⟩) 1 = some [.int .i64 occ, .int .i64 attr] := lit_kold (if_pos rfl) rfl
      obtain ⟨a', c', H', F', g1, g2, g3, g4⟩ := OwnQ.append (ti := PT) (m := 1) (nm := n2) (new := [.int .i64 occ, .int .i64 attr]) (F := F) (G := []) hown (by simpa using hfr) (by simpa using hle.trans (Le.new hn1)) hn2 rfl (by omega) (by decide) (by decide) (by decide)
      rw [List.append_nil] at g3 g4
      refine ⟨1, _, knew_of hk, a', _, c', H', g1, l24 (d := d) ih hres h4 g2 g3 g4 (by omega) fun a2 c2 F2 H2 r1 r2 r3 => ?_⟩
      have e2 : n + 1 + (refsEs args).length = n + ((refsEs args).length + 1) := by omega
      have e3 : cs ++ [.int .i64 occ, .int .i64 attr] ++ pairC (refsEs args) = cs ++ pairC ((occ, attr) :: refsEs args) := by simp [pairC]
      rw [e2, e3] at r1
      rw [e2]
      exact hq a2 c2 F2 H2 r1 r2 r3
    · have h1 : ¬ op = 1 := by simpa using h1
      have e1 : refsE (.mk op v occ attr args) = refsEs args := by simp [refsE, h1]
      rw [e1] at hn hq
      exact l24 (d := d) ih hres h4 hown hfr hle hn hq

theorem c13 {d : Nat} {e : Ex} {ce : List Value} {H : KH} {Q : Value → KH → Prop} (hr : RE H e ce) (hm : mayB d e = true) (hd : d ≤ 7)
    (hq : ∀ a' c' F' H', OwnQ 2 a' (refsE e).length c' (pairC (refsE e)) F' → frL H F' → Le (addL H F') H' → Q (.slice a' (refsE e).length c') H') : Does (env Tryz.prog) 13 [.agg ce.toArray] H Q := by
  have hr' := hr
  have hp := may_parts hm
  have hp2 : 5 ^ d ≤ 5 ^ 7 := Nat.pow_le_pow_right (by decide) hd
  have h58 : 5 ^ 7 = 78125 := by decide
  have hl := refs_le e
  have go := c24 ok d e ce H H [] none 0 0 []
  generalize hev : e = e' at *
  obtain ⟨op, v, occ, attr, args⟩ := e
  rw [← hev] at hr
  obtain ⟨k, i, s, av, nv, cv, aa, ca, rfl, hrv, hres⟩ := hr
  refine fn13 ok (c23 ok d e' _ H _ _ _ hr' hm (by omega) (by omega) (by omega) (by omega) ⟨_, rfl, fun h => ?_, fun _ => go _ hr' hm .nil trivial (Le.refl _) (by omega) fun a' c' F' H' g1 g2 g3 => ?_⟩)
  · have := of_decide_eq_true h; omega
  · rw [Nat.zero_add] at g1 ⊢
    exact ⟨a', _, c', rfl, hq a' c' F' H' (by simpa using g1) g2 g3⟩
end
end Va
end Go.Proofs.YtpdabjimdfifnaaGreat

/- Rows that are written to: what is referred to is put into them. -/
set_option linter.unusedVariables false
set_option linter.unusedSimpArgs false
namespace Go.Ew
open Go.Ev Go.Deep Go.Proofs.YtpdabjimdfifnaaGreat.Va

theorem refsEs_mem {p : Int × Int} : ∀ {l : List Ex}, p ∈ refsEs l → ∃ x ∈ l, p ∈ refsE x
  | [], h => by simp [refsEs] at h
  | x :: l, h => by
    simp only [refsEs] at h
    rcases List.mem_append.1 h with h | h
    · exact ⟨x, by simp, h⟩
    · obtain ⟨y, h1, h2⟩ := refsEs_mem h
      exact ⟨y, by simp [h1], h2⟩

theorem refs_in {p : Int × Int} : ∀ {d : Nat} {e : Ex}, mayB d e = true → p ∈ refsE e → 0 ≤ p.1 ∧ p.1 ≤ 5 ∧ 0 ≤ p.2 ∧ p.2 ≤ 7
  | 0, e, h, _ => by cases h
  | d + 1, .mk op v occ attr args, h, hp => by
    simp only [mayB, Bool.and_eq_true, List.all_eq_true] at h
    simp only [refsE] at hp
    rcases List.mem_append.1 hp with hp | hp
    · by_cases h1 : op = 1
      · rw [if_pos h1] at hp
        have e1 : p = (occ, attr) := by simpa using hp
        subst e1
        have h2 := h.2.1
        rw [holdB, if_neg (by omega), if_pos h1] at h2
        simp only [withinB, Bool.and_eq_true, decide_eq_true_eq] at h2
        exact ⟨h2.2.1.1, h2.2.1.2, h2.2.2.1, h2.2.2.2⟩
      · rw [if_neg h1] at hp; simp at hp
    · obtain ⟨x, h1, h2⟩ := refsEs_mem hp
      exact refs_in (h.2.2 x h1) h2

/-- What stands at a place. -/
def cellAt (vs : List (List V)) (i j : Nat) : Option V := vs[i]?.bind fun l => l[j]?

theorem refV_cell {xs ys : List (List V)} {p : Int × Int} (h1 : 0 ≤ p.1) (h2 : 0 ≤ p.2) (h : cellAt xs p.1.toNat p.2.toNat = cellAt ys p.1.toNat p.2.toNat) : refV xs p.1 p.2 = refV ys p.1 p.2 := by
  have key : ∀ zs : List (List V), refV zs p.1 p.2 = (match cellAt zs p.1.toNat p.2.toNat with | none => badV 7 | some v => takenV v) := by
    intro zs
    unfold refV atL cellAt
    rw [if_neg (by omega)]
    cases zs[p.1.toNat]? with
    | none => rfl
    | some l =>
      simp only [Option.bind_some]
      rw [if_neg (by omega)]
      cases l[p.2.toNat]? <;> rfl
  rw [key, key, h]

theorem cell_none {ys : List (List V)} {i j : Nat} (h1 : ys.length = 3) (h2 : ∀ l ∈ ys, l.length = 3) (h : 3 ≤ i ∨ 3 ≤ j) : cellAt ys i j = none := by
  unfold cellAt
  cases hi : ys[i]? with
  | none => rfl
  | some l =>
    have hl := h2 l (List.mem_of_getElem? hi)
    have : i < ys.length := by
      rcases Nat.lt_or_ge i ys.length with q | q
      · exact q
      · rw [List.getElem?_eq_none q] at hi; cases hi
    exact List.getElem?_eq_none (by omega)

theorem cell_set {ys : List (List V)} {i j i' j' : Nat} {l : List V} {v : V} (hi : ys[i]? = some l) (hj : j < l.length) : cellAt (ys.set i (l.set j v)) i' j' = if i' = i ∧ j' = j then some v else cellAt ys i' j' := by
  have hlt : i < ys.length := by
    rcases Nat.lt_or_ge i ys.length with q | q
    · exact q
    · rw [List.getElem?_eq_none q] at hi; cases hi
  unfold cellAt
  rw [List.getElem?_set]
  by_cases e1 : i = i'
  · subst e1
    rw [if_pos rfl, if_pos hlt, hi]
    simp only [Option.bind_some]
    rw [List.getElem?_set]
    by_cases e2 : j = j'
    · subst e2; simp [hj]
    · rw [if_neg e2, if_neg (fun h => e2 h.2.symm)]
  · rw [if_neg e1, if_neg (fun h => e1 h.1.symm)]

/-- A row of three values that may be written to. -/
structure YR (B H : KH) (b : Nat) (l : List V) : Prop where
  at_ : ∃ e cs, H b = some e ∧ wrB e = true ∧ rd e.cells 0 12 = some cs ∧ RC B l cs
  new : B b = none

theorem YR.put {B H : KH} {b j : Nat} {l : List V} {v : V} {vs : List Value} (h : YR B H b l) (hl : l.length = 3) (hj : j < 3) (hv : RV B v vs) : YR B (H.put ⟨b, j * 4, none⟩ vs) b (l.set j v) := by
  obtain ⟨⟨e, cs, h1, h2, h3, h4⟩, h5⟩ := h
  have hn := hv.len
  refine ⟨⟨⟨wr e.cells (j * 4) vs, e.len, e.unk, none⟩, _, ?_, ?_, rd_wr0 h3 (by omega), ?_⟩, h5⟩
  · simp only [KH.put, if_true, h1, Option.map_some]
  · simp only [wrB, Bool.and_eq_true] at h2 ⊢
    exact ⟨h2.1, rfl⟩
  · rw [List.set_eq_take_append_cons_drop, if_pos (by omega)]
    have e1 : l.take j ++ v :: l.drop (j + 1) = l.take j ++ [v] ++ l.drop (j + 1) := by simp
    rw [e1]
    have e2 : j * 4 + vs.length = (j + 1) * 4 := by omega
    rw [e2]
    exact ((RC.cut j h4).1.append (RC.one hv)).append (RC.cut (j + 1) h4).2

theorem YR.ne {B H : KH} {b b' o : Nat} {l : List V} {vs : List Value} (h : YR B H b l) (hb : b ≠ b') : YR B (H.put ⟨b', o, none⟩ vs) b l := by
  obtain ⟨⟨e, cs, h1, h2⟩, h5⟩ := h
  exact ⟨⟨e, cs, by simp only [KH.put, if_neg hb]; exact h1, h2⟩, h5⟩

structure YS (B H : KH) (bs : List (Nat × Nat)) (ys : List (List V)) : Prop where
  le : Le B H
  row : ∀ (i : Nat) (x : Nat × Nat) (l : List V), bs[i]? = some x → ys[i]? = some l → YR B H x.1 l
  nd : (bs.map (·.1)).Nodup
  lb : bs.length = 3
  ly : ys.length = 3
  l3 : ∀ l ∈ ys, l.length = 3
  ok : ∀ l ∈ ys, ∀ v ∈ l, Ok v

theorem YS.put {B H : KH} {bs : List (Nat × Nat)} {ys : List (List V)} {i j : Nat} {x : Nat × Nat} {l : List V} {v : V} {vs : List Value} (h : YS B H bs ys) (hb : bs[i]? = some x) (hl : ys[i]? = some l) (hj : j < 3) (hv : RV B v vs) (hok : Ok v) : YS B (H.put ⟨x.1, j * 4, none⟩ vs) bs (ys.set i (l.set j v)) := by
  have hm := List.mem_of_getElem? hl
  have hi : i < ys.length := by
    rcases Nat.lt_or_ge i ys.length with q | q
    · exact q
    · rw [List.getElem?_eq_none q] at hl; cases hl
  have hr := h.row i x l hb hl
  refine ⟨fun k e q => ?_, fun i' x' l' hb' hl' => ?_, h.nd, h.lb, by simpa using h.ly, fun l' hl' => ?_, fun l' hl' w hw => ?_⟩
  · have : k ≠ x.1 := fun ek => by subst ek; rw [hr.new] at q; cases q
    simp only [KH.put, if_neg this]
    exact h.le k e q
  · rw [List.getElem?_set] at hl'
    by_cases e1 : i = i'
    · subst e1
      rw [if_pos rfl, if_pos hi] at hl'
      cases hl'
      rw [hb] at hb'
      cases hb'
      exact hr.put (h.l3 _ hm) hj hv
    · rw [if_neg e1] at hl'
      refine (h.row i' x' l' hb' hl').ne fun ex => e1 ?_
      have hlen : i < (bs.map (·.1)).length := by simp [h.lb]; have := h.ly; omega
      refine (List.getElem?_inj hlen h.nd).1 ?_
      rw [List.getElem?_map, List.getElem?_map, hb, hb']
      simp [ex]
  · rcases List.mem_or_eq_of_mem_set hl' with q | q
    · exact h.l3 _ q
    · subst q; simpa using h.l3 _ hm
  · rcases List.mem_or_eq_of_mem_set hl' with q | q
    · exact h.ok _ q w hw
    · subst q
      rcases List.mem_or_eq_of_mem_set hw with q | q
      · exact h.ok _ hm w q
      · subst q; exact hok

theorem YS.vals {B H : KH} {bs : List (Nat × Nat)} {ys : List (List V)} {a : Option Addr} (h : YS B H bs ys) (ho : ∀ (i : Nat) (x : Nat × Nat), bs[i]? = some x → ∃ b o, a = some ⟨b, o, none⟩ ∧ ld B ⟨b, o + i, none⟩ [.slice (some ⟨x.1, 0, none⟩) 3 x.2]) : Vals H ys a := by
  refine ⟨fun i l hi => ?_, fun l hl v hv => ?_, ⟨by have := h.ly; omega, fun l hl => by have := h.l3 l hl; omega⟩⟩
  · have hlt : i < ys.length := by
      rcases Nat.lt_or_ge i ys.length with q | q
      · exact q
      · rw [List.getElem?_eq_none q] at hi; cases hi
    have hb : bs[i]? = some (bs[i]'(by have := h.lb; have := h.ly; omega)) := by simp
    generalize bs[i]'(by have := h.lb; have := h.ly; omega) = x at hb
    obtain ⟨b, o, h1, h2⟩ := ho i x hb
    have hl3 := h.l3 l (List.mem_of_getElem? hi)
    obtain ⟨⟨e, cs, r1, r2, r3, r4⟩, r5⟩ := h.row i x l hb hi
    refine ⟨b, o, some ⟨x.1, 0, none⟩, x.2, h1, by rw [hl3]; exact h.le.ld h2, RS.of_cells (cs := cs) ?_ (r4.mono h.le)⟩
    rw [hl3]
    exact kold_some.2 ⟨e, r1, r3⟩
  · have := (h.ok l hl v hv).sz
    omega

theorem frL_none {X : KH} {x : Nat × Ent} : ∀ {F : List (Nat × Ent)}, frL X F → x ∈ F → X x.1 = none
  | (b, e) :: F, h, hm => by
    rcases List.mem_cons.1 hm with rfl | q
    · exact (addL_le h.2).none h.1
    · exact frL_none h.2 q

theorem frL_nodup {X : KH} : ∀ {F : List (Nat × Ent)}, frL X F → (F.map (·.1)).Nodup
  | [], _ => by simp
  | (b, e) :: F, h => by
    rw [List.map_cons, List.nodup_cons]
    refine ⟨fun hm => ?_, frL_nodup h.2⟩
    obtain ⟨x, hx, ex⟩ := List.mem_map.1 hm
    have := addL_mem h.2 hx
    rw [ex, h.1] at this
    cases this

/-- The name of its block. -/
def R3.nm (r : R3) : Nat := match r.a with
  | some a => a.block
  | none => 0

theorem R3.ok.own1 {K : KH} {r : R3} (h : r.ok K) : ∃ e, r.a = some ⟨r.nm, 0, none⟩ ∧ r.F = [(r.nm, e)] ∧ wrB e = true ∧ rd e.cells 0 12 = some r.cs := by
  obtain ⟨l, a, c, cs, F⟩ := r
  obtain ⟨⟨h1, h2⟩, _, h3, _⟩ := h
  simp only [R3.nm] at *
  rw [h3] at h2
  match F, h1 with
  | [], _ => cases h2 with
    | lit b _ _ q => cases q
    | grown b _ _ e q => cases q
  | [(b0, e0)], _ =>
    cases h2 with
    | lit b _ _ q1 q2 q3 q4 =>
      have : b = b0 := by
        by_cases e : b = b0
        · exact e
        · simp only [addL, KH.new, if_neg e] at q1; cases q1
      subst this
      simp only [addL, KH.new, if_true] at q1
      cases q1
      refine ⟨mkEnt cs 0, rfl, rfl, rfl, ?_⟩
      exact rd_some (by omega) fun j v hv => by rw [Nat.zero_add]; simp only [mkEnt, tget_wr_nil]; exact hv
    | grown b _ _ e q1 q2 q3 q4 q5 q6 =>
      have : b = b0 := by
        by_cases e : b = b0
        · exact e
        · simp only [addL, KH.new, if_neg e] at q1; cases q1
      subst this
      simp only [addL, KH.new, if_true] at q1
      cases q1
      exact ⟨_, rfl, rfl, q6, q4⟩

theorem blocks_names {K : KH} : ∀ {rs : List R3}, (∀ r ∈ rs, r.ok K) → (blocks rs).map (·.1) = rs.map R3.nm
  | [], _ => rfl
  | r :: rs, h => by
    obtain ⟨e, _, h1, _⟩ := (h r (by simp)).own1
    rw [blocks, List.map_append, blocks_names fun r hr => h r (by simp [hr]), h1]
    rfl

/-- What is known but of blocks of such names. -/
def but (H : KH) (ns : List Nat) : KH := fun k => if k ∈ ns then none else H k

theorem but_le {H : KH} {ns : List Nat} : Le (but H ns) H := fun k e q => by
  unfold but at q
  split at q
  · cases q
  · exact q

/-- The rows that were made may be written to. -/
theorem Rs3.ys {K0 X K H H' : KH} {p n c : Nat} {rs : List R3} {a : Option Addr} {F2 : List (Nat × Ent)} (h : Rs3 K0 X K p rs a n c F2 H) (hl : rs.length = 3) (hle : Le H H') :
    Le K0 (but H' (rs.map R3.nm)) ∧ YS (but H' (rs.map R3.nm)) H' (rs.reverse.map fun r => (r.nm, r.c)) (rowsOf rs) ∧
    (∀ (i : Nat) (x : Nat × Nat), (rs.reverse.map fun r => (r.nm, r.c))[i]? = some x → ∃ b o, a = some ⟨b, o, none⟩ ∧ ld (but H' (rs.map R3.nm)) ⟨b, o + i, none⟩ [.slice (some ⟨x.1, 0, none⟩) 3 x.2]) ∧
    (∀ k, k ∈ rs.map R3.nm → H k ≠ none) := by
  have hn := blocks_names h.rows
  have hfr := frL_app.1 h.fr
  have hX : Le X (but H' (rs.map R3.nm)) := fun k e q => by
    unfold but
    rw [if_neg, hle k e (h.at_ k e (addL_le h.fr k e q))]
    intro hk
    rw [← hn] at hk
    obtain ⟨x, hx, ex⟩ := List.mem_map.1 hk
    have := frL_none hfr.2 hx
    rw [ex, q] at this
    cases this
  have hin : ∀ x ∈ F2 ++ blocks rs, H x.1 = some x.2 := fun x hx => h.at_ _ _ (addL_mem h.fr hx)
  refine ⟨h.le.trans (h.pk.le.trans hX), ⟨but_le, fun i x l hx hl => ?_, ?_, by simp [hl], by simp [rowsOf, hl], fun l hl => ?_, fun l hl => ?_⟩, fun i x hx => ?_, fun k hk => ?_⟩
  · unfold rowsOf at hl
    rw [List.getElem?_map] at hx hl
    cases hr : rs.reverse[i]? with
    | none => rw [hr] at hl; cases hl
    | some r =>
      rw [hr] at hx hl
      cases hx
      cases hl
      have hm : r ∈ rs := List.mem_reverse.1 (List.mem_of_getElem? hr)
      have hro := h.rows r hm
      obtain ⟨e, e1, e2, e3, e4⟩ := hro.own1
      refine ⟨⟨e, r.cs, hle _ _ (hin (r.nm, e) (List.mem_append_right _ (blocks_mem hm _ (by rw [e2]; simp)))), e3, e4, hro.rc.mono (h.pk.le.trans hX)⟩, ?_⟩
      unfold but
      rw [if_pos (List.mem_map.2 ⟨r, hm, rfl⟩)]
  · have h1 := frL_nodup hfr.2
    rw [hn] at h1
    rw [List.map_map]
    have e1 : (rs.reverse.map ((fun x : Nat × Nat => x.1) ∘ fun r : R3 => (r.nm, r.c))) = (rs.map R3.nm).reverse := by rw [← List.map_reverse]; rfl
    rw [e1]
    unfold List.Nodup at h1 ⊢
    rw [List.pairwise_reverse]
    exact h1.imp fun q => Ne.symm q
  · obtain ⟨r, hr, rfl⟩ := List.mem_map.1 hl
    exact (h.rows r (List.mem_reverse.1 hr)).len
  · obtain ⟨r, hr, rfl⟩ := List.mem_map.1 hl
    exact (h.rows r (List.mem_reverse.1 hr)).vals
  · rw [List.getElem?_map] at hx
    cases hr : rs.reverse[i]? with
    | none => rw [hr] at hx; cases hx
    | some r =>
      rw [hr] at hx
      cases hx
      have hm : r ∈ rs := List.mem_reverse.1 (List.mem_of_getElem? hr)
      have hro := h.rows r hm
      obtain ⟨e, e1, e2, e3, e4⟩ := hro.own1
      have hown := h.own.here (H := but H' (rs.map R3.nm)) fun x hx => by
        unfold but
        rw [if_neg, hle _ _ (hin x (List.mem_append_left _ hx))]
        intro hk
        rw [← hn] at hk
        obtain ⟨y, hy, ey⟩ := List.mem_map.1 hk
        have h1 := frL_none hfr.1 hx
        have h2 := addL_mem hfr.2 hy
        rw [ey, h1] at h2
        cases h2
      obtain ⟨b, o, ha, hld⟩ := own_at (i := i) (v := r.cell) hown (by rw [List.getElem?_map, hr]; rfl)
      refine ⟨b, o, ha, ?_⟩
      have ec : r.cell = .slice (some ⟨r.nm, 0, none⟩) 3 r.c := by unfold R3.cell; rw [e1, hro.len]
      rw [← ec]
      exact hld
  · rw [← hn] at hk
    obtain ⟨y, hy, rfl⟩ := List.mem_map.1 hk
    rw [hin y (List.mem_append_right _ hy)]
    exact fun q => by cases q

/-- The refs, read. -/
theorem refs_at {H : KH} {n c k : Nat} {a : Option Addr} {F : List (Nat × Ent)} {refs : List (Int × Int)} {p : Int × Int} (h : OwnQ 2 a refs.length c (pairC refs) F) (hh : ∀ x ∈ F, H x.1 = some x.2) (hk : refs[k]? = some p) :
    ∃ b o, a = some ⟨b, o, none⟩ ∧ ld H ⟨b, o + k * 2 + 0 * 1, none⟩ [.int .i64 p.1] ∧ ld H ⟨b, o + k * 2 + 1 * 1, none⟩ [.int .i64 p.2] := by
  have hown := h.here hh
  have hlt : k < refs.length := by
    rcases Nat.lt_or_ge k refs.length with q | q
    · exact q
    · rw [List.getElem?_eq_none q] at hk; cases hk
  obtain ⟨b, E, rfl, hb, _⟩ := hown.at_ (by omega)
  obtain ⟨e, he, hr⟩ := kold_some.1 hown.cells
  have hg : ∀ (l : List (Int × Int)) (k : Nat), l[k]? = some p → (pairC l)[k * 2]? = some (.int .i64 p.1) ∧ (pairC l)[k * 2 + 1]? = some (.int .i64 p.2) := by
    intro l
    induction l with
    | nil => intro k h; simp at h
    | cons q l ih =>
      intro k h
      cases k with
      | zero => have : q = p := by simpa using h
                subst this; exact ⟨rfl, rfl⟩
      | succ k =>
        have := ih k (by simpa using h)
        have e1 : (k + 1) * 2 = k * 2 + 2 := by omega
        rw [e1]
        exact this
  obtain ⟨g1, g2⟩ := hg refs k hk
  have cell : ∀ (j : Nat) (v : Value), (pairC refs)[j]? = some v → ld H ⟨b, j, none⟩ [v] := fun j v hv => ⟨rfl, e, he, rd_some rfl fun i w hw => by
    cases i with
    | zero => have : v = w := by simpa using hw
              subst this
              have := rd_get hr j v hv
              simpa using this
    | succ i => simp at hw⟩
  refine ⟨b, 0, rfl, ?_, ?_⟩
  · have := cell _ _ g1
    simpa using this
  · have := cell _ _ g2
    simpa using this
end Go.Ew
