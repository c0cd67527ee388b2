/- The reader: groups, classes, a letter. -/
import Derived.Test.YtphgchjoglgeeaaEwRx2
set_option linter.unusedVariables false
set_option linter.unusedSimpArgs false
namespace Go.Ew
open Go.Ev Go.Deep
section
variable {X H : KH} {p : Nat} {σ : RdS} {kc : List Value} {ai : Option Addr} {ci : Nat} {ao : Option Addr} {co : Nat} {csI exo : List Value}

/-- One more group around. -/
theorem Co.push (h : Co X H p σ kc ai ci ao co csI exo) (hs : σ.outer.length < 12) {b : Bool} {x : Int} (hx : 0 ≤ x ∧ x ≤ 1) {nm : Nat} (hnm : H nm = none) :
    ∃ a' H' ex', kappend H nm GT2 ao σ.outer.length co 1 [.bool b, .int .i64 x] = some (.slice a' (σ.outer.length + 1) unkU, H') ∧ ld H' ⟨p, 1, none⟩ [.slice ao σ.outer.length co] ∧ KH.may H' p ∧
      Co X (H'.put ⟨p, 1, none⟩ [.slice a' (σ.outer.length + 1) unkU]) p { σ with outer := σ.outer ++ [(b, x)] } kc ai ci a' unkU csI ex' := by
  obtain ⟨a', H', ex', g1, g2, g3, g4, g5⟩ := Gr.append (ti := GT2) (new := [.bool b, .int .i64 x]) h.outer hnm rfl (by omega) (by decide) (by decide)
  obtain ⟨ep, hp1, hp2, hp3⟩ := h.pt.ex
  have hpo : blk ao ≠ some p := fun x => (h.xo p x).2.1 rfl
  have hX : Le X H' := fun k e q => g4 k e (h.pt.le k e q) fun x => by rw [(h.xo k x).1] at q; cases q
  have pt' : Pt X H' p ([.slice ai σ.items.length ci, .slice ao σ.outer.length co, .bool σ.parted, .int .i64 σ.atoms] ++ kc) := h.pt.agree hX h.pt.xp fun e q => g4 p e q hpo
  have hnX : X nm = none := h.pt.le.none hnm
  have hin : ∀ b, blk ai = some b → b ≠ nm := fun b q x => by
    obtain ⟨e1, h1⟩ := h.items.at q
    rw [x, hnm] at h1; cases h1
  have hxo : ∀ b, blk a' = some b → X b = none ∧ b ≠ p ∧ blk ai ≠ some b := fun b q => by
    rcases g5 b q with q | q
    · exact h.xo b q
    · subst q; exact ⟨hnX, fun x => (by rw [← x, hnm] at hp1; cases hp1), fun x => hin b x rfl⟩
  refine ⟨a', H', ex', g1, ?_, pt'.may, ?_, h.xi, hxo, ?_, h.itc, ?_, ⟨h.small.1, by simp; omega, fun g hg => ?_⟩⟩
  · have := ldSub pt'.ld 1 1 (by simp)
    simpa using this
  · have := Pt.put (o := 1) (a := [.slice ai σ.items.length ci]) (b := [.slice ao σ.outer.length co]) (c := [.bool σ.parted, .int .i64 σ.atoms] ++ kc) (vs := [.slice a' (σ.outer.length + 1) unkU]) (by simpa using pt') rfl rfl
    simpa using this
  · exact h.items.agree fun k e hk q => put_ne (h.xi k hk).2 (g4 k e q fun x => (h.xo k x).2.2 hk)
  · have := g2.agree (H' := H'.put ⟨p, 1, none⟩ [.slice a' (σ.outer.length + 1) unkU]) fun k e hk q => put_ne (hxo k hk).2.1 q
    have e1 : grC (σ.outer ++ [(b, x)]) = grC σ.outer ++ [.bool b, .int .i64 x] := by rw [grC_app]; rfl
    simpa [e1] using this
  · rcases List.mem_append.1 hg with hg | hg
    · exact h.small.2.2 g hg
    · have : g = (b, x) := by simpa using hg
      subst this; exact hx

/-- The innermost group around. -/
theorem Co.pop (h : Co X H p σ kc ai ci ao co csI exo) {l : List (Bool × Int)} {g : Bool × Int} (hl : σ.outer = l ++ [g]) :
    ∃ b e, ao = some ⟨b, 0, none⟩ ∧ co = unkU ∧ H b = some e ∧ b ≠ p ∧ ld H ⟨b, 0 + l.length * 2, none⟩ [.bool g.1, .int .i64 g.2] ∧
      (∀ H' : KH, H' b = some e → kslice H' 2 (some ⟨b, 0, none⟩) σ.outer.length unkU none (some (.int .i64 ((l.length : Nat) : Int))) = some (.slice (some ⟨b, 0, none⟩) l.length unkU)) ∧
      Co X (H.put ⟨p, 1, none⟩ [.slice (some ⟨b, 0, none⟩) l.length unkU]) p { σ with outer := l } kc ai ci (some ⟨b, 0, none⟩) unkU csI ([.bool g.1, .int .i64 g.2] ++ exo) := by
  have hn : σ.outer.length = l.length + 1 := by rw [hl]; simp
  have hg : grC σ.outer = grC l ++ [.bool g.1, .int .i64 g.2] := by rw [hl, grC_app]; rfl
  have hout := h.outer
  have hxo := h.xo
  have hpt := h.pt
  generalize hN : σ.outer.length = N at *
  generalize hC : grC σ.outer = C at *
  cases hout with
  | nil => omega
  | on b _ e _ _ h1 h2 h3 h4 h5 h6 =>
    have hbp : b ≠ p := (hxo b rfl).2.1
    have hll := grC_len l
    have hCl : C.length = l.length * 2 + 2 := by rw [hg]; simp [hll]
    refine ⟨b, e, rfl, rfl, h1, hbp, ?_, fun H' hb => ?_, ?_, h.xi, hxo, ?_, h.itc, ?_, ⟨h.small.1, (show l.length ≤ 12 by have := h.small.2.1; omega), fun g' hg' => h.small.2.2 g' (by rw [hl]; simp [hg'])⟩⟩
    · have := ldSub (H := H) (b := b) (o := 0) (cs := C ++ exo) ⟨rfl, e, h1, h4⟩ (l.length * 2) 2 (by simp; omega)
      rw [hg, List.append_assoc, ← hll, List.drop_left] at this
      rw [← hll]
      simpa using this
    · have hcap : kcap H' ⟨b, 0, none⟩ unkU 2 = some (e.len / 2) := by
        unfold kcap
        have hb0 : Nat.blt unkU unkU = false := rfl
        have hq : (Nat.beq e.unk 2 && Nat.beq 0 ((unkU - unkU) * 2) && Nat.ble 1 2 && Nat.ble 0 e.len) = true := by
          rw [h2, Nat.sub_self]; simp
        simp only [hb0, cond_false, hb, hq, cond_true, Nat.sub_zero]
      have hlen : l.length + 1 ≤ e.len / 2 := by
        rw [h3, List.length_append, hCl]; omega
      unfold kslice
      have hb0 : Nat.blt unkU unkU = false := rfl
      have n1 : natOf 0 none = some 0 := rfl
      have n2 : natOf N (some (.int .i64 ((l.length : Nat) : Int))) = some l.length := by
        simp [natOf]
      simp only [Option.isNone_none, cond_true, n1, n2, hcap]
      have hq : (Nat.ble 0 l.length && Nat.ble l.length (e.len / 2) && Nat.ble N (e.len / 2) && true) = true := by
        simp only [Bool.and_eq_true]
        exact ⟨⟨⟨rfl, Nat.ble_eq_true_of_le (by omega)⟩, Nat.ble_eq_true_of_le (by omega)⟩, trivial⟩
      rw [hq]
      have hq2 : Nat.blt 0 (e.len / 2) = true := Nat.ble_eq_true_of_le (by omega)
      simp only [cond_true, hb0, cond_false, hq2]
      simp
    · have := Pt.put (o := 1) (a := [.slice ai σ.items.length ci]) (b := [.slice (some ⟨b, 0, none⟩) N unkU]) (c := [.bool σ.parted, .int .i64 σ.atoms] ++ kc) (vs := [.slice (some ⟨b, 0, none⟩) l.length unkU]) (by simpa using hpt) rfl rfl
      simpa using this
    · exact h.items.agree fun k e hk q => put_ne (h.xi k hk).2 q
    · refine .on b _ e _ _ (put_ne hbp h1) h2 ?_ ?_ h5 hll
      · rw [h3, hg, List.append_assoc]
      · rw [← List.append_assoc, ← hg]; exact h4
end

theorem end_outer {σ τ : RdS} (h : endR σ = some τ) : τ.outer = σ.outer := by
  unfold endR at h
  split at h
  · cases h
  · cases h
    show (if (joinR σ).parted = true then putR (joinR σ) 3 else joinR σ).outer = _
    split
    · exact join_outer σ
    · exact join_outer σ
theorem end_len {σ τ : RdS} (h : endR σ = some τ) : τ.items.length ≤ σ.items.length + 2 := by
  have := join_len σ
  unfold endR at h
  split at h
  · cases h
  · cases h
    show (if (joinR σ).parted = true then putR (joinR σ) 3 else joinR σ).items.length ≤ _
    split
    · simp [putR]; omega
    · omega
end Go.Ew

namespace Go.Proofs.Ytphgchjoglgeeaa
open Go.Ev Go.Ew
namespace Va
section
variable (ok : EnvOk (env Try.prog))
include ok

theorem c32 {X H : KH} {p : Nat} {σ : RdS} {kc : List Value} {Q : Value → KH → Prop} (h : CoX X H p σ kc) (hs : σ.items.length ≤ 900) (hn : openR σ = none → Q (.bool false) H) (hq : ∀ τ, openR σ = some τ → ∀ H', CoX X H' p τ kc → Q (.bool true) H') : Does (env Try.prog) 32 [.pointer (some ⟨p, 0, none⟩)] H Q := by
  have ha : 0 ≤ σ.atoms ∧ σ.atoms ≤ 2 := by obtain ⟨_, _, _, _, _, _, h⟩ := h; exact h.small.1
  refine fn32 ok (c40 ok h ⟨_, rfl, fun h1 => ?_, fun h1 => ?_⟩)
  · exact hn (if_neg (by simpa using h1))
  · have h1 : σ.outer.length < 12 := by simpa using h1
    refine c31 ok h (by omega) fun H2 hc => ?_
    obtain ⟨ai, ci, ao, co, csI, exo, hc⟩ := hc
    have hat := join_atoms ha
    have ho := join_outer σ
    refine ⟨rfl, trivial, rfl, ao, _, co, hc.c1, rfl, _, _, hc.c23, fun n8 hn8 n9 hn9 => ?_⟩
    have h2 := hc.sub (Le.new (e := mkEnt [.bool (joinR σ).parted, .int .i64 (joinR σ).atoms] 0) hn8)
    obtain ⟨a', H', ex', g1, g2, g3, g4⟩ := h2.push (by rw [ho]; exact h1) (b := (joinR σ).parted) (x := (joinR σ).atoms) hat hn9
    refine ⟨1, _, knew_of (lit_kold (if_pos rfl) rfl), a', _, _, H', g1, ⟨rfl, trivial⟩, rfl, stOk g2 rfl, g3, trivial, rfl, stOk g4.c23 rfl, g4.pt.may, hq _ (if_pos h1) _ ?_⟩
    exact ⟨_, _, _, _, _, _, g4.setNow (by omega)⟩

theorem c33 {X H : KH} {p : Nat} {σ : RdS} {kc : List Value} {Q : Value → KH → Prop} (h : CoX X H p σ kc) (hs : σ.items.length ≤ 900) (hn : closeR σ = none → Q (.bool false) H) (hq : ∀ τ, closeR σ = some τ → ∀ H', CoX X H' p τ kc → Q (.bool true) H') : Does (env Try.prog) 33 [.pointer (some ⟨p, 0, none⟩)] H Q := by
  have h0 := h
  obtain ⟨ai, ci, ao, co, csI, exo, h⟩ := h
  have hsm := h.small.2.1
  have hw : IntKind.wrap .i64 (((σ.outer.length : Nat) : Int) - 1) = ((σ.outer.length : Nat) : Int) - 1 := wrap64 (by omega) (by omega)
  refine fn33 ok ⟨rfl, ao, _, co, h.c1, fun h1 => ?_, fun h1 => ?_⟩
  · rw [hw] at h1
    have h1 := of_decide_eq_true h1
    have : σ.outer = [] := List.eq_nil_of_length_eq_zero (by omega)
    exact hn (by unfold closeR; rw [this]; rfl)
  · rw [hw] at h1
    have h1 := of_decide_eq_false h1
    obtain ⟨l, g, hl⟩ : ∃ l g, σ.outer = l ++ [g] := by
      refine ⟨σ.outer.dropLast, σ.outer.getLast (by intro e; rw [e] at h1; simp at h1), ?_⟩
      exact (List.dropLast_concat_getLast _).symm
    have hlast : σ.outer.getLast? = some g := by rw [hl]; simp
    have hdrop : σ.outer.dropLast = l := by rw [hl]; simp
    have hgb := h.small.2.2 g (by rw [hl]; simp)
    refine c25 ok h0 hs (fun he => ⟨_, rfl, fun _ => hn ?_, fun h => (by cases h)⟩) fun τ he H5 hc => ⟨_, rfl, fun h => (by cases h), fun _ => ?_⟩
    · unfold closeR; rw [hlast]; simp only [he]
    · have hot := end_outer he
      have hn1 : σ.outer.length = l.length + 1 := by rw [hl]; simp
      obtain ⟨ai, ci, ao, co, csI, exo, hc⟩ := hc
      obtain ⟨b, e, rfl, rfl, p1, p2, p3, p4, p5⟩ := hc.pop (l := l) (g := g) (by rw [hot, hl])
      have hln : ((σ.outer.length : Nat) : Int) - 1 = ((l.length : Nat) : Int) := by omega
      rw [hw, hln]
      have hcl := hc.c1
      rw [hot] at hcl p4
      have nw := hc.setNow (b := g.1) (n := g.2) (by omega)
      obtain ⟨b', e', q0, _, q1, q2, q3, q4, q5⟩ := nw.pop (l := l) (g := g) (by show τ.outer = _; rw [hot, hl])
      cases q0
      have hk1 := p4 H5 p1
      have hk2 := p4 (H5.put ⟨p, 2, none⟩ [.bool g.1, .int .i64 g.2]) (put_ne p2 p1)
      refine ⟨trivial, rfl, _, _, _, hcl, ⟨by omega, by omega⟩, b, 0, rfl, g.1, g.2, by simpa using p3, rfl, _, _, _, hcl, _, _, _, hk1, rfl, stOk hc.c23 rfl, hc.pt.may, ⟨rfl, rfl, ⟨_, _, _, hk2, rfl⟩, trivial⟩, rfl, ?_⟩
      have hcl2 := nw.c1
      refine ⟨stOk hcl2 rfl, nw.pt.may, trivial, rfl, rfl, _, q5.c3, rfl, rfl, stOk q5.c3 rfl, q5.pt.may, hq { τ with outer := l, parted := g.1, atoms := g.2 + 1 } ?_ _ ?_⟩
      · unfold closeR; rw [hlast]; simp only [he, hdrop]
      · have hfin := q5.setAtoms (n := g.2 + 1) (by omega)
        have hw2 : IntKind.wrap .i64 (g.2 + 1) = g.2 + 1 := wrap64 (by omega) (by omega)
        show CoX X (KH.put _ _ [.int .i64 (IntKind.wrap .i64 (g.2 + 1))]) p _ kc
        rw [hw2]
        exact ⟨_, _, _, _, _, _, hfin⟩
end
end Va
end Go.Proofs.Ytphgchjoglgeeaa
