/- The reader in memory: what its methods outside classes do. -/
import Derived.Test.YtphgchjoglgeeaaEwRx1
set_option linter.unusedVariables false
set_option linter.unusedSimpArgs false
namespace Go.Ew
open Go.Ev Go.Deep

structure Pt (X H : KH) (p : Nat) (cs : List Value) : Prop where
  le : Le X H
  xp : X p = none
  ex : ∃ e, H p = some e ∧ wrB e = true ∧ rd e.cells 0 7 = some cs

theorem Pt.ld {X H : KH} {p : Nat} {cs : List Value} (h : Pt X H p cs) : ld H ⟨p, 0, none⟩ cs := by
  obtain ⟨e, h1, h2, h3⟩ := h.ex
  exact ⟨rfl, e, h1, by rw [rd_len h3]; exact h3⟩

theorem Pt.len {X H : KH} {p : Nat} {cs : List Value} (h : Pt X H p cs) : cs.length = 7 := by
  obtain ⟨e, h1, h2, h3⟩ := h.ex
  exact rd_len h3

theorem Pt.may {X H : KH} {p : Nat} {cs : List Value} (h : Pt X H p cs) : KH.may H p := by
  obtain ⟨e, h1, h2, h3⟩ := h.ex
  exact ⟨e, h1, h2⟩

theorem Pt.put {X H : KH} {p o : Nat} {a b c vs : List Value} (h : Pt X H p (a ++ b ++ c)) (ha : a.length = o) (hb : b.length = vs.length) : Pt X (H.put ⟨p, o, none⟩ vs) p (a ++ vs ++ c) := by
  obtain ⟨e, h1, h2, h3⟩ := h.ex
  refine ⟨fun k e' q => ?_, h.xp, ⟨wr e.cells o vs, e.len, e.unk, none⟩, by simp only [KH.put, if_true, h1, Option.map_some], wrB_keep h2, rdWr h3 ha hb⟩
  simp only [KH.put]
  rw [if_neg (fun x => by rw [x, h.xp] at q; cases q)]
  exact h.le k e' q

theorem put_ne {H : KH} {p o : Nat} {vs : List Value} {k : Nat} {e : Ent} (hk : k ≠ p) (q : H k = some e) : (H.put ⟨p, o, none⟩ vs) k = some e := by
  simp only [KH.put]; rw [if_neg hk]; exact q

theorem Pt.agree {X X' H H' : KH} {p : Nat} {cs : List Value} (h : Pt X H p cs) (hl : Le X' H') (hx : X' p = none) (hp : ∀ e, H p = some e → H' p = some e) : Pt X' H' p cs := by
  obtain ⟨e, h1, h2, h3⟩ := h.ex
  exact ⟨hl, hx, e, hp e h1, h2, h3⟩

/-- The reader but for its class. -/
structure Co (X H : KH) (p : Nat) (σ : RdS) (kc : List Value) (ai : Option Addr) (ci : Nat) (ao : Option Addr) (co : Nat) (csI exo : List Value) : Prop where
  pt : Pt X H p ([.slice ai σ.items.length ci, .slice ao σ.outer.length co, .bool σ.parted, .int .i64 σ.atoms] ++ kc)
  xi : ∀ b, blk ai = some b → X b = none ∧ b ≠ p
  xo : ∀ b, blk ao = some b → X b = none ∧ b ≠ p ∧ blk ai ≠ some b
  items : Gr H 2 ai σ.items.length ci csI []
  itc : ItC X σ.items csI
  outer : Gr H 2 ao σ.outer.length co (grC σ.outer) exo
  small : (0 ≤ σ.atoms ∧ σ.atoms ≤ 2) ∧ σ.outer.length ≤ 12 ∧ ∀ g ∈ σ.outer, 0 ≤ g.2 ∧ g.2 ≤ 1

def CoX (X H : KH) (p : Nat) (σ : RdS) (kc : List Value) : Prop := ∃ ai ci ao co csI exo, Co X H p σ kc ai ci ao co csI exo

section
variable {X H : KH} {p : Nat} {σ : RdS} {kc : List Value} {ai : Option Addr} {ci : Nat} {ao : Option Addr} {co : Nat} {csI exo : List Value}

theorem Co.kcl (h : Co X H p σ kc ai ci ao co csI exo) : kc.length = 3 := by
  have := h.pt.len
  simp only [List.length_append, List.length_cons, List.length_nil] at this
  omega

theorem Co.c0 (h : Co X H p σ kc ai ci ao co csI exo) : ld H ⟨p, 0, none⟩ [.slice ai σ.items.length ci] := by
  have := ldSub h.pt.ld 0 1 (by simp)
  simpa using this
theorem Co.c1 (h : Co X H p σ kc ai ci ao co csI exo) : ld H ⟨p, 1, none⟩ [.slice ao σ.outer.length co] := by
  have := ldSub h.pt.ld 1 1 (by simp)
  simpa using this
theorem Co.c2 (h : Co X H p σ kc ai ci ao co csI exo) : ld H ⟨p, 2, none⟩ [.bool σ.parted] := by
  have := ldSub h.pt.ld 2 1 (by simp)
  simpa using this
theorem Co.c3 (h : Co X H p σ kc ai ci ao co csI exo) : ld H ⟨p, 3, none⟩ [.int .i64 σ.atoms] := by
  have := ldSub h.pt.ld 3 1 (by simp)
  simpa using this
theorem Co.c23 (h : Co X H p σ kc ai ci ao co csI exo) : ld H ⟨p, 2, none⟩ [.bool σ.parted, .int .i64 σ.atoms] := by
  have := ldSub h.pt.ld 2 2 (by simp)
  simpa using this

/-- Other cells of the reader. -/
theorem Co.setNow (h : Co X H p σ kc ai ci ao co csI exo) {b : Bool} {n : Int} (hn : 0 ≤ n ∧ n ≤ 2) : Co X (H.put ⟨p, 2, none⟩ [.bool b, .int .i64 n]) p { σ with parted := b, atoms := n } kc ai ci ao co csI exo where
  pt := by
    have := h.pt
    have := Pt.put (o := 2) (a := [.slice ai σ.items.length ci, .slice ao σ.outer.length co]) (b := [.bool σ.parted, .int .i64 σ.atoms]) (c := kc) (vs := [.bool b, .int .i64 n]) (by simpa using this) rfl rfl
    simpa using this
  xi := h.xi
  xo := h.xo
  items := h.items.agree fun k e hk q => put_ne (h.xi k hk).2 q
  itc := h.itc
  outer := h.outer.agree fun k e hk q => put_ne (h.xo k hk).2.1 q
  small := ⟨hn, h.small.2⟩

theorem Co.setAtoms (h : Co X H p σ kc ai ci ao co csI exo) {n : Int} (hn : 0 ≤ n ∧ n ≤ 2) : Co X (H.put ⟨p, 3, none⟩ [.int .i64 n]) p { σ with atoms := n } kc ai ci ao co csI exo where
  pt := by
    have := h.pt
    have := Pt.put (o := 3) (a := [.slice ai σ.items.length ci, .slice ao σ.outer.length co, .bool σ.parted]) (b := [.int .i64 σ.atoms]) (c := kc) (vs := [.int .i64 n]) (by simpa using this) rfl rfl
    simpa using this
  xi := h.xi
  xo := h.xo
  items := h.items.agree fun k e hk q => put_ne (h.xi k hk).2 q
  itc := h.itc
  outer := h.outer.agree fun k e hk q => put_ne (h.xo k hk).2.1 q
  small := ⟨hn, h.small.2⟩

theorem Gr.at (h : Gr H 2 ai ci co csI exo) {b : Nat} (hb : blk ai = some b) : ∃ e, H b = some e := by
  cases h with
  | nil => cases hb
  | on b' n e _ _ h1 => cases hb; exact ⟨e, h1⟩

/-- More is known, by a new name. -/
theorem Co.lit (h : Co X H p σ kc ai ci ao co csI exo) {n : Nat} {e : Ent} (hn : H n = none) : Co (X.new n e) (H.new n e) p σ kc ai ci ao co csI exo where
  pt := by
    refine h.pt.agree (fun k e' q => ?_) ?_ fun e' q => Le.new hn _ _ q
    · simp only [KH.new] at q ⊢
      by_cases hk : k = n
      · rw [if_pos hk] at q ⊢; exact q
      · rw [if_neg hk] at q ⊢; exact h.pt.le k e' q
    · obtain ⟨e1, h1, _⟩ := h.pt.ex
      simp only [KH.new]
      rw [if_neg (fun x => by rw [x, hn] at h1; cases h1)]
      exact h.pt.xp
  xi b q := by
    obtain ⟨e1, h1⟩ := h.items.at q
    refine ⟨?_, (h.xi b q).2⟩
    simp only [KH.new]
    rw [if_neg (fun x => by rw [x, hn] at h1; cases h1)]
    exact (h.xi b q).1
  xo b q := by
    obtain ⟨e1, h1⟩ := h.outer.at q
    refine ⟨?_, (h.xo b q).2⟩
    simp only [KH.new]
    rw [if_neg (fun x => by rw [x, hn] at h1; cases h1)]
    exact (h.xo b q).1
  items := h.items.agree fun k e' _ q => Le.new hn _ _ q
  itc := h.itc.mono (Le.new (h.pt.le.none hn))
  outer := h.outer.agree fun k e' _ q => Le.new hn _ _ q
  small := h.small

/-- The same in other memory that has it all. -/
theorem Co.sub {H' : KH} (h : Co X H p σ kc ai ci ao co csI exo) (hl : Le H H') : Co X H' p σ kc ai ci ao co csI exo where
  pt := h.pt.agree (h.pt.le.trans hl) h.pt.xp fun e q => hl _ _ q
  xi := h.xi
  xo := h.xo
  items := h.items.agree fun k e _ q => hl _ _ q
  itc := h.itc
  outer := h.outer.agree fun k e _ q => hl _ _ q
  small := h.small

abbrev IT2 : TI := ⟨2, 32, true, 3, 0, 0, [(0, 1), (1, 1)], [.int .i64 0, .slice none 0 0]⟩
abbrev GT2 : TI := ⟨2, 16, true, 3, 0, 0, [(0, 1), (1, 1)], [.bool false, .int .i64 0]⟩

/-- One more item. -/
theorem Co.item (h : Co X H p σ kc ai ci ao co csI exo) (hs : σ.items.length ≤ 1000) {op : Int} {l : List Rg} {a : Option Addr} {c nm : Nat} (hk : kold X 2 a l.length = some (rgC l)) (hnm : H nm = none) :
    ∃ a' H' , kappend H nm IT2 ai σ.items.length ci 1 [.int .i64 op, .slice a l.length c] = some (.slice a' (σ.items.length + 1) unkU, H') ∧ (∃ e, H' p = some e ∧ H p = some e) ∧ ld H' ⟨p, 0, none⟩ [.slice ai σ.items.length ci] ∧ KH.may H' p ∧
      Co X (H'.put ⟨p, 0, none⟩ [.slice a' (σ.items.length + 1) unkU]) p { σ with items := σ.items ++ [(op, l)] } kc a' unkU ao co (csI ++ [.int .i64 op, .slice a l.length c]) exo := by
  obtain ⟨a', H', ex', g1, g2, g3, g4, g5⟩ := Gr.append (ti := IT2) (new := [.int .i64 op, .slice a l.length c]) h.items hnm rfl (by omega) (by decide) (by decide)
  have g3 := g3 rfl
  subst g3
  obtain ⟨ep, hp1, hp2, hp3⟩ := h.pt.ex
  have hpi : blk ai ≠ some p := fun x => (h.xi p x).2 rfl
  have hp' := g4 p ep hp1 hpi
  have hX : Le X H' := fun k e q => g4 k e (h.pt.le k e q) fun x => by rw [(h.xi k x).1] at q; cases q
  have pt' : Pt X H' p ([.slice ai σ.items.length ci, .slice ao σ.outer.length co, .bool σ.parted, .int .i64 σ.atoms] ++ kc) := h.pt.agree hX h.pt.xp fun e q => g4 p e q hpi
  have hnX : X nm = none := h.pt.le.none hnm
  have hout : ∀ b, blk ao = some b → b ≠ nm := fun b q x => by
    obtain ⟨e1, h1⟩ := h.outer.at q
    rw [x, hnm] at h1; cases h1
  refine ⟨a', H', g1, ⟨ep, hp', hp1⟩, ?_, pt'.may, ?_⟩
  · have := ldSub pt'.ld 0 1 (by simp)
    simpa using this
  · have hx : ∀ b, blk a' = some b → X b = none ∧ b ≠ p := fun b q => by
      rcases g5 b q with q | q
      · exact h.xi b q
      · subst q; exact ⟨hnX, fun x => by rw [← x, hnm] at hp1; cases hp1⟩
    refine ⟨?_, hx, fun b q => ⟨(h.xo b q).1, (h.xo b q).2.1, fun x => ?_⟩, ?_, ?_, ?_, h.small⟩
    · have := Pt.put (o := 0) (a := []) (b := [.slice ai σ.items.length ci]) (c := [.slice ao σ.outer.length co, .bool σ.parted, .int .i64 σ.atoms] ++ kc) (vs := [.slice a' (σ.items.length + 1) unkU]) (by simpa using pt') rfl rfl
      simpa using this
    · rcases g5 b x with x | x
      · exact (h.xo b q).2.2 x
      · exact hout b q x
    · have := g2.agree (H' := H'.put ⟨p, 0, none⟩ [.slice a' (σ.items.length + 1) unkU]) fun k e hk q => put_ne (hx k hk).2 q
      simpa using this
    · exact h.itc.app hk
    · exact h.outer.agree fun k e hk q => put_ne (h.xo k hk).2.1 (g4 k e q fun x => (h.xo k hk).2.2 x)
end

theorem join_len (σ : RdS) : (joinR σ).items.length ≤ σ.items.length + 1 := by
  unfold joinR putR
  split <;> simp
theorem join_atoms {σ : RdS} (h : 0 ≤ σ.atoms ∧ σ.atoms ≤ 2) : 0 ≤ (joinR σ).atoms ∧ (joinR σ).atoms ≤ 1 := by
  unfold joinR putR
  split
  · simp
  · omega
theorem join_parted (σ : RdS) : (joinR σ).parted = σ.parted := by unfold joinR putR; split <;> rfl
theorem join_outer (σ : RdS) : (joinR σ).outer = σ.outer := by unfold joinR putR; split <;> rfl
theorem join_zero {σ : RdS} (h : σ.atoms ≠ 0) : (joinR σ).atoms ≠ 0 := by
  unfold joinR putR
  split
  · simp
  · exact h

theorem stOk {H : KH} {a : Addr} {ws vs : List Value} (h : ld H a ws) (hl : ws.length = vs.length) : ∃ l : List Value, l.length = vs.length ∧ ld H a l := ⟨ws, hl, h⟩

theorem lit_kold {H : KH} {b sz n : Nat} {cs : List Value} (hb : H b = some (mkEnt cs 0)) (hl : cs.length = n * sz) : kold H sz (some ⟨b, 0, none⟩) n = some cs := by
  refine kold_some.2 ⟨_, hb, ?_⟩
  rw [← hl]
  exact rd_some rfl fun j v hv => by rw [Nat.zero_add]; simp only [mkEnt, tget_wr_nil]; exact hv

theorem CoX.sub {X H H' : KH} {p : Nat} {σ : RdS} {kc : List Value} (h : CoX X H p σ kc) (hl : Le H H') : CoX X H' p σ kc := by
  obtain ⟨ai, ci, ao, co, csI, exo, h⟩ := h
  exact ⟨ai, ci, ao, co, csI, exo, h.sub hl⟩
end Go.Ew

namespace Go.Proofs.Ytphgchjoglgeeaa
open Go.Ev Go.Ew
namespace Va
section
variable (ok : EnvOk (env Try.prog))
include ok

theorem c36 {X H : KH} {p : Nat} {σ : RdS} {kc : List Value} {op : Int} {Q : Value → KH → Prop} (h : CoX X H p σ kc) (hs : σ.items.length ≤ 1000) (hq : ∀ H', CoX X H' p (putR σ op) kc → Q (.tuple #[]) H') : Does (env Try.prog) 36 [.pointer (some ⟨p, 0, none⟩), .int .i64 op] H Q := by
  obtain ⟨ai, ci, ao, co, csI, exo, h⟩ := h
  refine fn36 ok ⟨rfl, ai, _, ci, h.c0, fun n4 hn4 n5 hn5 => ?_⟩
  have h1 := h.sub (Le.new (e := mkEnt [.int .i64 op, .slice none 0 0] 0) hn4)
  obtain ⟨a', H', g1, _, g3, g4, g5⟩ := h1.item hs (op := op) (l := []) (a := none) (c := 0) rfl hn5
  refine ⟨1, _, knew_of (lit_kold (if_pos rfl) rfl), a', _, _, H', g1, rfl, stOk g3 rfl, g4, hq _ ⟨_, _, _, _, _, _, g5⟩⟩

theorem c31 {X H : KH} {p : Nat} {σ : RdS} {kc : List Value} {Q : Value → KH → Prop} (h : CoX X H p σ kc) (hs : σ.items.length ≤ 1000) (hq : ∀ H', CoX X H' p (joinR σ) kc → Q (.tuple #[]) H') : Does (env Try.prog) 31 [.pointer (some ⟨p, 0, none⟩)] H Q := by
  have h0 := h
  obtain ⟨ai, ci, ao, co, csI, exo, h⟩ := h
  refine fn31 ok ⟨rfl, rfl, _, h.c3, fun h2 => ?_, fun h2 => ?_⟩
  · have h2 : σ.atoms = 2 := by simpa using h2
    refine c36 ok h0 hs fun H' hc => ?_
    obtain ⟨ai, ci, ao, co, csI, exo, hc⟩ := hc
    refine ⟨rfl, rfl, rfl, stOk hc.c3 rfl, hc.pt.may, hq _ ?_⟩
    have := hc.setAtoms (n := 1) (by omega)
    rw [joinR, if_pos h2]
    exact ⟨_, _, _, _, _, _, this⟩
  · have h2 : ¬ σ.atoms = 2 := by simpa using h2
    have := hq H (by rw [joinR, if_neg h2]; exact h0)
    exact this

theorem c23 {X H : KH} {p : Nat} {σ : RdS} {kc : List Value} {l : List Rg} {a : Option Addr} {c : Nat} {Q : Value → KH → Prop} (h : CoX X H p σ kc) (hs : σ.items.length ≤ 900) (hk : kold X 2 a l.length = some (rgC l)) (hq : ∀ H', CoX X H' p (addClassR σ l) kc → Q (.tuple #[]) H') : Does (env Try.prog) 23 [.pointer (some ⟨p, 0, none⟩), .slice a l.length c] H Q := by
  have ha : 0 ≤ σ.atoms ∧ σ.atoms ≤ 2 := by obtain ⟨_, _, _, _, _, _, h⟩ := h; exact h.small.1
  refine fn23 ok (c31 ok h (by omega) fun H2 hc => ?_)
  obtain ⟨ai, ci, ao, co, csI, exo, hc⟩ := hc
  have hl := join_len σ
  have hat := join_atoms ha
  refine ⟨rfl, rfl, ai, _, ci, hc.c0, fun n6 hn6 n7 hn7 => ?_⟩
  have h1 := hc.sub (Le.new (e := mkEnt [.int .i64 1, .slice a l.length c] 0) hn6)
  obtain ⟨a', H', g1, _, g3, g4, g5⟩ := h1.item (by omega) (op := 1) (l := l) (a := a) (c := c) hk hn7
  have hw : IntKind.wrap .i64 ((joinR σ).atoms + 1) = (joinR σ).atoms + 1 := wrap64 (by omega) (by omega)
  refine ⟨1, _, knew_of (lit_kold (if_pos rfl) rfl), a', _, _, H', g1, rfl, stOk g3 rfl, g4, rfl, rfl, _, g5.c3, rfl, rfl, stOk g5.c3 rfl, g5.pt.may, hq _ ?_⟩
  have g6 := g5.setAtoms (n := (joinR σ).atoms + 1) (by omega)
  simp only [] at g6 ⊢
  rw [hw]
  exact ⟨_, _, _, _, _, _, g6⟩

theorem c35 {X H : KH} {p : Nat} {σ : RdS} {kc : List Value} {op : Int} {Q : Value → KH → Prop} (h : CoX X H p σ kc) (hs : σ.items.length ≤ 1000) (hn : repeatR σ op = none → ∀ H', CoX X H' p σ kc → Q (.bool false) H') (hq : ∀ τ, repeatR σ op = some τ → ∀ H', CoX X H' p τ kc → Q (.bool true) H') : Does (env Try.prog) 35 [.pointer (some ⟨p, 0, none⟩), .int .i64 op] H Q := by
  have h0 := h
  obtain ⟨ai, ci, ao, co, csI, exo, h⟩ := h
  refine fn35 ok ⟨rfl, rfl, _, h.c3, fun h2 => ?_, fun h2 => ?_⟩
  · have h2 : σ.atoms = 0 := by simpa using h2
    exact hn (if_pos h2) H h0
  · have h2 : ¬ σ.atoms = 0 := by simpa using h2
    exact c36 ok h0 hs fun H' hc => ⟨rfl, hq _ (if_neg h2) _ hc⟩

theorem c25 {X H : KH} {p : Nat} {σ : RdS} {kc : List Value} {Q : Value → KH → Prop} (h : CoX X H p σ kc) (hs : σ.items.length ≤ 900) (hn : endR σ = none → Q (.bool false) H) (hq : ∀ τ, endR σ = some τ → ∀ H', CoX X H' p τ kc → Q (.bool true) H') : Does (env Try.prog) 25 [.pointer (some ⟨p, 0, none⟩)] H Q := by
  have h0 := h
  obtain ⟨ai, ci, ao, co, csI, exo, h⟩ := h
  have hl := join_len σ
  refine fn25 ok ⟨rfl, rfl, _, h.c3, fun h2 => ?_, fun h2 => ?_⟩
  · have h2 : σ.atoms = 0 := by simpa using h2
    exact hn (if_pos h2)
  · have h2 : ¬ σ.atoms = 0 := by simpa using h2
    refine c31 ok h0 (by omega) fun H2 hc => ?_
    have hc0 := hc
    obtain ⟨ai, ci, ao, co, csI, exo, hc⟩ := hc
    refine ⟨rfl, rfl, rfl, _, hc.c2, fun hp => ?_, fun hp => ?_⟩
    · refine c36 ok hc0 (by omega) fun H3 hd => ?_
      obtain ⟨ai, ci, ao, co, csI, exo, hd⟩ := hd
      refine ⟨rfl, rfl, stOk hd.c23 rfl, hd.pt.may, hq _ (if_neg h2) _ ?_⟩
      rw [if_pos hp]
      exact ⟨_, _, _, _, _, _, hd.setNow (by omega)⟩
    · refine ⟨rfl, stOk hc.c23 rfl, hc.pt.may, hq _ (if_neg h2) _ ?_⟩
      rw [if_neg (by rw [hp]; decide)]
      exact ⟨_, _, _, _, _, _, hc.setNow (by omega)⟩

theorem c40 {X H : KH} {p : Nat} {σ : RdS} {kc : List Value} {Q : Value → KH → Prop} (h : CoX X H p σ kc) (hq : Q (.bool (decide (σ.outer.length < 12))) H) : Does (env Try.prog) 40 [.pointer (some ⟨p, 0, none⟩)] H Q := by
  obtain ⟨ai, ci, ao, co, csI, exo, h⟩ := h
  refine fn40 ok ⟨rfl, ao, _, co, h.c1, ?_⟩
  have : decide ((σ.outer.length : Int) < 12) = decide (σ.outer.length < 12) := by rw [Bool.eq_iff_iff]; simp; omega
  rw [this]
  exact hq
end
end Va
end Go.Proofs.Ytphgchjoglgeeaa
