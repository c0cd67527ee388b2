/- The reader: classes, a letter. -/
import Derived.Test.YtphgchjoglgeeaaEwRx3
set_option linter.unusedVariables false
set_option linter.unusedSimpArgs false
namespace Go.Ew
open Go.Ev Go.Deep
section
variable {X H : KH} {p : Nat} {σ : RdS} {kc : List Value} {ai : Option Addr} {ci : Nat} {ao : Option Addr} {co : Nat} {csI exo : List Value}

theorem Co.agree {H' : KH} (h : Co X H p σ kc ai ci ao co csI exo) (hk : ∀ k e, H k = some e → (X k = some e ∨ k = p ∨ blk ai = some k ∨ blk ao = some k) → H' k = some e) : Co X H' p σ kc ai ci ao co csI exo where
  pt := h.pt.agree (fun k e q => hk k e (h.pt.le k e q) (.inl q)) h.pt.xp fun e q => hk p e q (.inr (.inl rfl))
  xi := h.xi
  xo := h.xo
  items := h.items.agree fun k e q1 q => hk k e q (.inr (.inr (.inl q1)))
  itc := h.itc
  outer := h.outer.agree fun k e q1 q => hk k e q (.inr (.inr (.inr q1)))
  small := h.small

/-- Other cells of the class. -/
theorem Co.setK {a b c vs : List Value} {o : Nat} (h : Co X H p σ (a ++ b ++ c) ai ci ao co csI exo) (ho : o = 4 + a.length) (hb : b.length = vs.length) : Co X (H.put ⟨p, o, none⟩ vs) p σ (a ++ vs ++ c) ai ci ao co csI exo where
  pt := by
    have := Pt.put (o := o) (a := [.slice ai σ.items.length ci, .slice ao σ.outer.length co, .bool σ.parted, .int .i64 σ.atoms] ++ a) (b := b) (c := c) (vs := vs) (by simpa [List.append_assoc] using h.pt) (by rw [ho]; simp; omega) hb
    simpa [List.append_assoc] using this
  xi := h.xi
  xo := h.xo
  items := h.items.agree fun k e hk q => put_ne (h.xi k hk).2 q
  itc := h.itc
  outer := h.outer.agree fun k e hk q => put_ne (h.xo k hk).2.1 q
  small := h.small

theorem Co.k {a b c : List Value} (h : Co X H p σ (a ++ b ++ c) ai ci ao co csI exo) : ld H ⟨p, 4 + a.length, none⟩ b := by
  have := ldSub h.pt.ld (4 + a.length) b.length (by simp; omega)
  have e : ∀ four : List Value, four.length = 4 → ((four ++ (a ++ b ++ c)).drop (4 + a.length)).take b.length = b := fun four h4 => by
    have : four ++ (a ++ b ++ c) = (four ++ a) ++ (b ++ c) := by simp
    rw [this, List.drop_left' (by simp [h4]), List.take_left]
  rw [e _ rfl, Nat.zero_add] at this
  exact this
end

/-- Of a class that is open: its row. -/
structure Cl (X H : KH) (p : Nat) (σ : RdS) (l : List Rg) (pl : Int) (ai : Option Addr) (ci : Nat) (ao : Option Addr) (co : Nat) (csI exo : List Value) (ar : Option Addr) (cr : Nat) : Prop where
  co : Co X H p σ [.bool true, .slice ar l.length cr, .int .i64 pl] ai ci ao co csI exo
  row : Gr H 2 ar l.length cr (rgC l) []
  xr : ∀ b, blk ar = some b → X b = none ∧ b ≠ p ∧ blk ai ≠ some b ∧ blk ao ≠ some b

def ClX (X H : KH) (p : Nat) (σ : RdS) (l : List Rg) (pl : Int) : Prop := ∃ ai ci ao co csI exo ar cr, Cl X H p σ l pl ai ci ao co csI exo ar cr

abbrev shut : List Value := [.bool false, .slice none 0 0, .int .i64 0]

/-- The whole reader. -/
def Fu (X H : KH) (p : Nat) (σ : RdS) : Prop := match σ.cls with
  | none => CoX X H p σ shut
  | some (l, pl) => ClX X H p σ l pl

abbrev RT2 : TI := ⟨2, 2, true, 3, 0, 0, [(0, 1), (1, 1)], [.int .u8 0, .int .u8 0]⟩

section
variable {X H : KH} {p : Nat} {σ : RdS} {l : List Rg} {pl : Int} {ai : Option Addr} {ci : Nat} {ao : Option Addr} {co : Nat} {csI exo : List Value} {ar : Option Addr} {cr : Nat}

theorem Cl.k0 (h : Cl X H p σ l pl ai ci ao co csI exo ar cr) : ld H ⟨p, 4, none⟩ [.bool true] := Co.k (a := []) (b := [.bool true]) (c := [.slice ar l.length cr, .int .i64 pl]) h.co
theorem Cl.k1 (h : Cl X H p σ l pl ai ci ao co csI exo ar cr) : ld H ⟨p, 5, none⟩ [.slice ar l.length cr] := Co.k (a := [.bool true]) (b := [.slice ar l.length cr]) (c := [.int .i64 pl]) h.co
theorem Cl.k2 (h : Cl X H p σ l pl ai ci ao co csI exo ar cr) : ld H ⟨p, 6, none⟩ [.int .i64 pl] := Co.k (a := [.bool true, .slice ar l.length cr]) (b := [.int .i64 pl]) (c := []) h.co
theorem Cl.k012 (h : Cl X H p σ l pl ai ci ao co csI exo ar cr) : ld H ⟨p, 4, none⟩ [.bool true, .slice ar l.length cr, .int .i64 pl] := Co.k (a := []) (b := [.bool true, .slice ar l.length cr, .int .i64 pl]) (c := []) h.co

theorem Cl.place (h : Cl X H p σ l pl ai ci ao co csI exo ar cr) (n : Int) : Cl X (H.put ⟨p, 6, none⟩ [.int .i64 n]) p σ l n ai ci ao co csI exo ar cr where
  co := Co.setK (a := [.bool true, .slice ar l.length cr]) (b := [.int .i64 pl]) (c := []) (vs := [.int .i64 n]) h.co rfl rfl
  row := h.row.agree fun k e hk q => put_ne (h.xr k hk).2.1 q
  xr := h.xr

/-- What the class holds becomes known. -/
theorem Cl.known (h : Cl X H p σ l pl ai ci ao co csI exo ar cr) : ∃ X1 : KH, Le X X1 ∧ Co X1 H p σ [.bool true, .slice ar l.length cr, .int .i64 pl] ai ci ao co csI exo ∧ kold X1 2 ar l.length = some (rgC l) := by
  refine ⟨fun k => if blk ar = some k then H k else X k, fun k e q => ?_, ?_, ?_⟩
  · show (if _ then _ else _) = _
    rw [if_neg (fun x => by rw [(h.xr k x).1] at q; cases q)]
    exact q
  · refine ⟨h.co.pt.agree (fun k e q => ?_) ?_ fun e q => q, fun b q => ⟨?_, (h.co.xi b q).2⟩, fun b q => ⟨?_, (h.co.xo b q).2⟩, h.co.items, h.co.itc.mono (fun k e q => ?_), h.co.outer, h.co.small⟩
    · have q : (if blk ar = some k then H k else X k) = some e := q
      split at q
      · exact q
      · exact h.co.pt.le k e q
    · show (if _ then _ else _) = _
      rw [if_neg (fun x => (h.xr p x).2.1 rfl)]
      exact h.co.pt.xp
    · show (if _ then _ else _) = _
      rw [if_neg (fun x => (h.xr b x).2.2.1 q)]
      exact (h.co.xi b q).1
    · show (if _ then _ else _) = _
      rw [if_neg (fun x => (h.xr b x).2.2.2 q)]
      exact (h.co.xo b q).1
    · show (if _ then _ else _) = _
      rw [if_neg (fun x => by rw [(h.xr k x).1] at q; cases q)]
      exact q
  · refine Gr.row (cs := rgC l) (ex := []) (c := cr) (h.row.agree fun k e hk q => ?_)
    show (if _ then _ else _) = _
    rw [if_pos hk]
    exact q

/-- One more range. -/
theorem Cl.more (h : Cl X H p σ l pl ai ci ao co csI exo ar cr) (hs : l.length ≤ 1000) {c : Int} {nm : Nat} (hnm : H nm = none) :
    ∃ a' H', kappend H nm RT2 ar l.length cr 1 [.int .u8 c, .int .u8 c] = some (.slice a' (l.length + 1) unkU, H') ∧ ld H' ⟨p, 5, none⟩ [.slice ar l.length cr] ∧ KH.may H' p ∧
      Cl X (H'.put ⟨p, 5, none⟩ [.slice a' (l.length + 1) unkU]) p σ (l ++ [(c, c)]) pl ai ci ao co csI exo a' unkU := by
  obtain ⟨a', H', ex', g1, g2, g3, g4, g5⟩ := Gr.append (ti := RT2) (new := [.int .u8 c, .int .u8 c]) h.row hnm rfl (by omega) (by decide) (by decide)
  have g3 := g3 rfl
  subst g3
  have hc : Co X H' p σ [.bool true, .slice ar l.length cr, .int .i64 pl] ai ci ao co csI exo := h.co.agree fun k e q hk => g4 k e q fun x => by
    obtain ⟨x1, x2, x3, x4⟩ := h.xr k x
    rcases hk with hk | hk | hk | hk
    · rw [x1] at hk; cases hk
    · exact x2 hk
    · exact x3 hk
    · exact x4 hk
  have hxr : ∀ b, blk a' = some b → X b = none ∧ b ≠ p ∧ blk ai ≠ some b ∧ blk ao ≠ some b := fun b q => by
    rcases g5 b q with q | q
    · exact h.xr b q
    · subst q
      refine ⟨h.co.pt.le.none hnm, fun x => ?_, fun x => ?_, fun x => ?_⟩
      · obtain ⟨e, h1, _⟩ := h.co.pt.ex
        rw [← x, hnm] at h1; cases h1
      · obtain ⟨e1, h1⟩ := h.co.items.at x
        rw [hnm] at h1; cases h1
      · obtain ⟨e1, h1⟩ := h.co.outer.at x
        rw [hnm] at h1; cases h1
  refine ⟨a', H', g1, Co.k (a := [.bool true]) (b := [.slice ar l.length cr]) (c := [.int .i64 pl]) hc, hc.pt.may, ?_, ?_, hxr⟩
  · have := Co.setK (a := [.bool true]) (b := [.slice ar l.length cr]) (c := [.int .i64 pl]) (vs := [.slice a' (l.length + 1) unkU]) (o := 5) hc rfl rfl
    simpa using this
  · have := g2.agree (H' := H'.put ⟨p, 5, none⟩ [.slice a' (l.length + 1) unkU]) fun k e hk q => put_ne (hxr k hk).2.1 q
    have e1 : rgC (l ++ [(c, c)]) = rgC l ++ [.int .u8 c, .int .u8 c] := by rw [rgC_app]; rfl
    simpa [e1] using this

/-- The last one's end. -/
theorem Cl.last (h : Cl X H p σ l pl ai ci ao co csI exo ar cr) {m : List Rg} {r : Rg} (hl : l = m ++ [r]) (c : Int) :
    ∃ b, ar = some ⟨b, 0, none⟩ ∧ ld H ⟨b, 0 + m.length * 2, none⟩ [.int .u8 r.1] ∧ ld H ⟨b, 0 + m.length * 2 + 1, none⟩ [.int .u8 r.2] ∧ KH.may H b ∧
      Cl X (H.put ⟨b, 0 + m.length * 2 + 1, none⟩ [.int .u8 c]) p σ (m ++ [(r.1, c)]) pl ai ci ao co csI exo ar cr := by
  have hn : l.length = m.length + 1 := by rw [hl]; simp
  have hg : rgC l = rgC m ++ [.int .u8 r.1, .int .u8 r.2] := by rw [hl, rgC_app]; rfl
  have hrow := h.row
  have hxr := h.xr
  have hco := h.co
  generalize hN : l.length = N at *
  generalize hC : rgC l = C at *
  cases hrow with
  | nil => omega
  | on b _ e _ _ h1 h2 h3 h4 h5 h6 =>
    have hml := rgC_len m
    have hbx := hxr b rfl
    have hC2 : C.length = m.length * 2 + 2 := by rw [hg]; simp [hml]
    have hall : ld H ⟨b, 0, none⟩ C := ⟨rfl, e, h1, by simpa using h4⟩
    have e1 : (m ++ [(r.1, c)]).length = N := by simp; omega
    refine ⟨b, rfl, ?_, ?_, ⟨e, h1, h5⟩, ?_, ?_, hxr⟩
    · have := ldSub hall (m.length * 2) 1 (by omega)
      rw [hg, ← hml, List.drop_left] at this
      rw [← hml]
      simpa using this
    · have := ldSub hall (m.length * 2 + 1) 1 (by omega)
      rw [hg, ← hml, ← List.drop_drop, List.drop_left] at this
      rw [← hml, Nat.add_assoc]
      simpa using this
    · rw [e1]
      exact hco.agree fun k e' q hk => put_ne (fun x => by
        subst x
        rcases hk with hk | hk | hk | hk
        · rw [hbx.1] at hk; cases hk
        · exact hbx.2.1 hk
        · exact hbx.2.2.1 hk
        · exact hbx.2.2.2 hk) q
    · rw [e1]
      have e2 : rgC (m ++ [(r.1, c)]) = rgC m ++ [.int .u8 r.1] ++ [.int .u8 c] ++ [] := by rw [rgC_app]; simp [rgC]
      have h4' : rd e.cells 0 (C ++ []).length = some ((rgC m ++ [.int .u8 r.1]) ++ [.int .u8 r.2] ++ []) := by
        rw [h4, hg]; simp
      have h7 := rdWr (o := 0 + m.length * 2 + 1) (vs := [.int .u8 c]) h4' (by simp [hml]) rfl
      refine .on b _ ⟨wr e.cells (0 + m.length * 2 + 1) [.int .u8 c], e.len, e.unk, none⟩ _ _ (by simp only [KH.put, if_true, h1, Option.map_some]) h2 ?_ ?_ (wrB_keep h5) (by rw [e2]; simp [hml]; omega)
      · rw [e2]; simp only [List.append_nil] at h3 ⊢; rw [h3, hC2]; simp [hml]
      · have hlen : (rgC (m ++ [(r.1, c)]) ++ []).length = (C ++ []).length := by rw [e2]; simp [hC2, hml]
        rw [hlen, e2]
        simpa using h7
end
end Go.Ew

namespace Go.Proofs.Ytphgchjoglgeeaa
open Go.Ev Go.Ew
namespace Va
section
variable (ok : EnvOk (env Try.prog))
include ok

theorem c38 {X H : KH} {p : Nat} {σ : RdS} {l : List Rg} {pl : Int} {Q : Value → KH → Prop} (h : ClX X H p σ l pl) (hq : Q (.bool (wholeC l pl)) H) : Does (env Try.prog) 38 [.pointer (some ⟨p, 4, none⟩)] H Q := by
  obtain ⟨ai, ci, ao, co, csI, exo, ar, cr, h⟩ := h
  refine fn38 ok ⟨rfl, ar, _, cr, h.k1, fun h1 => ⟨rfl, _, h.k2, ?_⟩, fun h1 => ?_⟩
  · have h1 : 0 < l.length := by have := of_decide_eq_true h1; omega
    have : wholeC l pl = decide (pl ≠ 2) := by unfold wholeC; rw [decide_eq_true h1, Bool.true_and]
    rw [this] at hq
    exact hq
  · have h1 : ¬ 0 < l.length := by have := of_decide_eq_false h1; omega
    have : wholeC l pl = false := by unfold wholeC; rw [decide_eq_false h1, Bool.false_and]
    rw [this] at hq
    exact hq

theorem c28 {X H : KH} {p : Nat} {σ : RdS} {l : List Rg} {pl : Int} {Q : Value → KH → Prop} (h : ClX X H p σ l pl) (hn : pl ≠ 1 → Q (.bool false) H) (hq : pl = 1 → ∀ H', ClX X H' p σ l 2 → Q (.bool true) H') : Does (env Try.prog) 28 [.pointer (some ⟨p, 4, none⟩)] H Q := by
  obtain ⟨ai, ci, ao, co, csI, exo, ar, cr, h⟩ := h
  refine fn28 ok ⟨rfl, _, h.k2, fun h1 => hn (by simpa using h1), fun h1 => ⟨rfl, stOk h.k2 rfl, h.co.pt.may, hq (by simpa using h1) _ ⟨_, _, _, _, _, _, _, _, h.place 2⟩⟩⟩

theorem c27 {X H : KH} {p : Nat} {σ : RdS} {l : List Rg} {pl c : Int} {Q : Value → KH → Prop} (h : ClX X H p σ l pl) (hs : l.length ≤ 1000) (hpl : pl = 2 → l ≠ []) (hn : addC l pl c = none → Q (.bool false) H) (hq : ∀ m pl', addC l pl c = some (m, pl') → ∀ H', ClX X H' p σ m pl' → Q (.bool true) H') : Does (env Try.prog) 27 [.pointer (some ⟨p, 4, none⟩), .int .u8 c] H Q := by
  obtain ⟨ai, ci, ao, co, csI, exo, ar, cr, h⟩ := h
  refine fn27 ok ⟨rfl, _, h.k2, fun h1 => ⟨rfl, ar, _, cr, h.k1, fun n5 hn5 n6 hn6 => ?_⟩, fun h1 => ?_⟩
  · have h1 : pl ≠ 2 := by simpa using h1
    have h2 : Cl X (H.new n5 (mkEnt [.int .u8 c, .int .u8 c] 0)) p σ l pl ai ci ao co csI exo ar cr := ⟨h.co.sub (Le.new hn5), h.row.agree fun k e _ q => Le.new hn5 _ _ q, h.xr⟩
    obtain ⟨a', H', g1, g2, g3, g4⟩ := h2.more hs (c := c) hn6
    refine ⟨1, _, knew_of (lit_kold (if_pos rfl) rfl), a', _, _, H', g1, rfl, stOk g2 rfl, g3, rfl, stOk g4.k2 rfl, g4.co.pt.may, hq _ _ (if_pos h1) _ ?_⟩
    have := g4.place 1
    exact ⟨_, _, _, _, _, _, _, _, this⟩
  · have h1 : pl = 2 := by simpa using h1
    obtain ⟨m, r, hl⟩ : ∃ m r, l = m ++ [r] := ⟨l.dropLast, l.getLast (hpl h1), (List.dropLast_concat_getLast _).symm⟩
    have hn1 : l.length = m.length + 1 := by rw [hl]; simp
    have hlast : l.getLast? = some r := by rw [hl]; simp
    have hdrop : l.dropLast = m := by rw [hl]; simp
    have hw : IntKind.wrap .i64 (((l.length : Nat) : Int) - 1) = ((m.length : Nat) : Int) := by rw [wrap64 (by omega) (by omega)]; omega
    obtain ⟨b, rfl, g1, g2, g3, g4⟩ := h.last hl c
    have e0 : Int.toNat ((m.length : Nat) : Int) = m.length := by omega
    refine ⟨rfl, _, _, _, h.k1, ?_⟩
    rw [hw, e0]
    refine ⟨rfl, _, _, _, h.k1, ⟨by omega, by omega⟩, b, 0, rfl, rfl, _, by simpa using g1, fun h2 => ?_, fun h2 => ?_⟩
    · have h2 := of_decide_eq_true h2
      exact hn (by unfold addC; rw [if_neg (by simpa using h1), hlast]; simp only [if_pos h2])
    · have h2 := of_decide_eq_false h2
      refine ⟨rfl, _, _, _, h.k1, ⟨by omega, by omega⟩, b, 0, rfl, rfl, ?_⟩
      refine ⟨stOk g2 rfl, g3, rfl, stOk g4.k2 rfl, g4.co.pt.may, hq _ _ ?_ _ ⟨_, _, _, _, _, _, _, _, g4.place 0⟩⟩
      unfold addC
      rw [if_neg (by simpa using h1), hlast]
      simp only [if_neg h2, hdrop]

theorem c34 {X H : KH} {p : Nat} {σ : RdS} {Q : Value → KH → Prop} (h : CoX X H p σ shut) (hn : openC σ = none → Q (.bool false) H) (hq : ∀ τ, openC σ = some τ → ∀ H', Fu X H' p τ → Q (.bool true) H') : Does (env Try.prog) 34 [.pointer (some ⟨p, 0, none⟩)] H Q := by
  refine fn34 ok (c40 ok h ⟨_, rfl, fun h1 => ?_, fun h1 => ?_⟩)
  · exact hn (if_neg (by simpa using h1))
  · have h1 : σ.outer.length < 12 := by simpa using h1
    obtain ⟨ai, ci, ao, co, csI, exo, h⟩ := h
    have hk : ld H ⟨p, 4, none⟩ shut := Co.k (a := []) (b := shut) (c := []) h
    refine ⟨rfl, stOk hk rfl, h.pt.may, hq _ (if_pos h1) _ ?_⟩
    have h2 := Co.setK (a := []) (b := shut) (c := []) (vs := [.bool true, .slice none 0 0, .int .i64 0]) (o := 4) h rfl rfl
    have h2 : Co X (H.put ⟨p, 4, none⟩ [.bool true, .slice none 0 0, .int .i64 0]) p { σ with cls := some ([], 0) } [.bool true, .slice none 0 0, .int .i64 0] ai ci ao co csI exo := ⟨h2.pt, h2.xi, h2.xo, h2.items, h2.itc, h2.outer, h2.small⟩
    exact ⟨ai, ci, ao, co, csI, exo, none, 0, h2, .nil, fun b q => by cases q⟩

theorem c29 {X H : KH} {p : Nat} {σ : RdS} {l : List Rg} {pl : Int} {Q : Value → KH → Prop} (h : ClX X H p σ l pl) (hs : σ.items.length ≤ 900) (hn : wholeC l pl = false → Q (.bool false) H) (hq : wholeC l pl = true → ∀ X' H', Le X X' → CoX X' H' p (addClassR σ l) shut → Q (.bool true) H') : Does (env Try.prog) 29 [.pointer (some ⟨p, 0, none⟩)] H Q := by
  have h0 := h
  obtain ⟨ai, ci, ao, co, csI, exo, ar, cr, h⟩ := h
  refine fn29 ok ⟨rfl, c38 ok h0 ⟨_, rfl, fun h1 => hn (by simpa using h1), fun h1 => ?_⟩⟩
  have h1 : wholeC l pl = true := by simpa using h1
  obtain ⟨X1, hle, hc, hk⟩ := h.known
  refine ⟨rfl, rfl, ar, _, cr, h.k1, c23 ok ⟨_, _, _, _, _, _, hc⟩ hs hk fun H5 hd => ?_⟩
  obtain ⟨ai, ci, ao, co, csI, exo, hd⟩ := hd
  have hkk : ld H5 ⟨p, 4, none⟩ [.bool true, .slice ar l.length cr, .int .i64 pl] := Co.k (a := []) (b := [.bool true, .slice ar l.length cr, .int .i64 pl]) (c := []) hd
  have h2 := Co.setK (a := []) (b := [.bool true, .slice ar l.length cr, .int .i64 pl]) (c := []) (vs := shut) (o := 4) hd rfl rfl
  exact ⟨rfl, rfl, stOk hkk rfl, hd.pt.may, hq h1 X1 _ hle ⟨_, _, _, _, _, _, h2⟩⟩
end
end Va
end Go.Proofs.Ytphgchjoglgeeaa
