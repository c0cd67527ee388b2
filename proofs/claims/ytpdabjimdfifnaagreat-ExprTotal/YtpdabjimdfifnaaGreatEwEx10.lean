/- The law ExprTotal: what its function answers. -/
import Derived.Test.YtpdabjimdfifnaaGreatEwEx9
set_option linter.unusedVariables false
set_option linter.unusedSimpArgs false
namespace Go.Ew
open Go.Ev Go.Deep Go.Proofs.YtpdabjimdfifnaaGreat.Va

theorem blocks_mem {r : R3} : ∀ {rs : List R3}, r ∈ rs → ∀ x ∈ r.F, x ∈ blocks rs
  | r' :: rs, h, x, hx => by
    rcases List.mem_cons.1 h with rfl | h
    · exact List.mem_append_left _ hx
    · exact List.mem_append_right _ (blocks_mem h x hx)

theorem own_at {H0 H : KH} {n c : Nat} {a : Option Addr} {cs : List Value} {i : Nat} {v : Value} (h : Own H0 H 1 a n c cs) (hv : cs[i]? = some v) : ∃ b o, a = some ⟨b, o, none⟩ ∧ ld H ⟨b, o + i, none⟩ [v] := by
  have hl := kold_len h.cells
  have hi : i < cs.length := by
    rcases Nat.lt_or_ge i cs.length with q | q
    · exact q
    · rw [List.getElem?_eq_none q] at hv; cases hv
  obtain ⟨b, E, rfl, hb, _⟩ := h.at_ (by omega)
  obtain ⟨e, he, hr⟩ := kold_some.1 h.cells
  refine ⟨b, 0, rfl, rfl, e, he, ?_⟩
  have r1 := rd_drop hr (m := i) (by omega)
  have r2 := rd_take r1 (m := 1) (by omega)
  rw [List.length_singleton]
  rw [List.getElem?_eq_getElem hi] at hv
  rw [List.drop_eq_getElem_cons hi, Option.some.inj hv] at r2
  exact r2

theorem Rs3.le0 {K0 X K H : KH} {p n c : Nat} {rs : List R3} {a : Option Addr} {F2 : List (Nat × Ent)} (h : Rs3 K0 X K p rs a n c F2 H) : Le K0 H ∧ Le K H :=
  ⟨h.le.trans (h.pk.le.trans ((addL_le h.fr).trans h.at_)), h.pk.le.trans ((addL_le h.fr).trans h.at_)⟩

def rowsOf (rs : List R3) : List (List V) := rs.reverse.map (·.l)

theorem Rs3.vals {K0 X K H : KH} {p n c : Nat} {rs : List R3} {a : Option Addr} {F2 : List (Nat × Ent)} (h : Rs3 K0 X K p rs a n c F2 H) (hn : rs.length ≤ 1000) : Vals H (rowsOf rs) a := by
  have hle := h.le0.2
  have hin : ∀ x ∈ F2 ++ blocks rs, H x.1 = some x.2 := fun x hx => h.at_ _ _ (addL_mem h.fr hx)
  have hown := h.own.here (H := H) fun x hx => hin x (List.mem_append_left _ hx)
  refine ⟨fun i l hi => ?_, fun l hl v hv => ?_, ⟨by simp [rowsOf]; omega, fun l hl => ?_⟩⟩
  · unfold rowsOf at hi
    rw [List.getElem?_map] at hi
    cases hr : rs.reverse[i]? with
    | none => rw [hr] at hi; cases hi
    | some r =>
      rw [hr] at hi
      have hi : r.l = l := Option.some.inj hi
      subst hi
      have hm : r ∈ rs := List.mem_reverse.1 (List.mem_of_getElem? hr)
      obtain ⟨b, o, ha, hld⟩ := own_at (i := i) (v := r.cell) hown (by rw [List.getElem?_map, hr]; rfl)
      have hro := h.rows r hm
      have hr2 := hro.own.here (H := H) fun x hx => hin x (List.mem_append_right _ (blocks_mem hm x hx))
      exact ⟨b, o, r.a, r.c, ha, hld, RS.of_cells hr2.cells (hro.rc.mono hle)⟩
  · obtain ⟨r, hr, rfl⟩ := List.mem_map.1 hl
    have := ((h.rows r (List.mem_reverse.1 hr)).vals v hv).sz
    omega
  · obtain ⟨r, hr, rfl⟩ := List.mem_map.1 hl
    have := (h.rows r (List.mem_reverse.1 hr)).len
    omega

theorem texts3 {H : KH} {n8 : Nat} {s : ByteArray} (h : H n8 = some (mkEnt [.string (ByteArray.mk #[49, 50]), .string (ByteArray.mk #[120]), .string s] 0)) (hs : s.size ≤ 100) : Texts H [ByteArray.mk #[49, 50], ByteArray.mk #[120], s] (some ⟨n8, 0, none⟩) := by
  refine ⟨fun i t hi => ?_, fun t ht => ?_, by simp⟩
  · refine ⟨n8, 0, rfl, ?_⟩
    have := lit_get (j := i) (v := .string t) h (by
      match i, hi with
      | 0, hi => simp at hi; subst hi; rfl
      | 1, hi => simp at hi; subst hi; rfl
      | 2, hi => simp at hi; subst hi; rfl
      | i + 3, hi => simp at hi)
    simpa using this
  · simp only [List.mem_cons, List.not_mem_nil, or_false] at ht
    rcases ht with rfl | rfl | rfl
    · decide
    · decide
    · omega

theorem may_ok {v : V} (h : Ok v) : (decide (szV v ≤ 60) && fitV v) = true := by rw [decide_eq_true h.sz, h.fit]; rfl
end Go.Ew

namespace Go.Proofs.YtpdabjimdfifnaaGreat
open Go.Ev Go.Ew
namespace Va
section
variable (ok : EnvOk (env Tryz.prog))
include ok

theorem c3 {a b : Option Addr} {n m c d : Nat} {H : KH} (hu : U8 H a n) (hw : U8 H b m) : Does (env Tryz.prog) 3 [.slice a n c, .slice b m d] H fun v _ => v = .bool true := by
  refine fn3 ok (c6 ⟨true, rfl, fun h => (by cases h), fun _ => ⟨fun _ => rfl, fun h1 => ⟨fun _ => rfl, fun h2 => ?_⟩⟩⟩)
  have h1 : n ≤ 100 := by have := of_decide_eq_false h1; omega
  have h2 : m ≤ 100 := by have := of_decide_eq_false h2; omega
  refine c7 ok hw (by omega) fun X K p rs av c1 F2 H1 n8 s hR h3 hs h8 _ => ⟨_, _, _, _, _, _, rfl, c8 ok (hu.mono hR.le0.1) (by omega) fun p' H2 hp' => ⟨_, _, rfl, c9 ok 5 (by decide) H1 H2 p' _ hp' fun e ce K2 H3 q1 q2 q3 q4 => ?_⟩⟩
  have hv := hR.vals (by omega)
  have ht := texts3 h8 hs
  have hlv : (rowsOf rs).length = rs.length := by simp [rowsOf]
  have hse := mayB_sz q4
  have le1 : Le H1 H3 := q2.trans q1.le
  have hre := q3.mono q1.le
  obtain ⟨op, v, occ, attr, args⟩ := e
  obtain ⟨k, i, sv, av', nv, cv, ae, ce, rfl, _, _⟩ := q3
  generalize hev : Ex.mk op v occ attr args = e at *
  have call1 : ∀ (H' : KH) (Q : Value → KH → Prop), Le H3 H' → Ans H' (evalE (rowsOf rs) [ByteArray.mk #[49, 50], ByteArray.mk #[120], s] 12 e) Q →
      Does (env Tryz.prog) 10 [.agg #[.int .i64 op, .int .i64 k, .int .i64 i, .string sv, .slice av' nv cv, .int .i64 occ, .int .i64 attr, .slice ae args.length ce], .slice av rs.length c1, .slice (some ⟨n8, 0, none⟩) 3 3] H' Q := by
    intro H' Q hl hq
    have := c10 ok (c := c1) (c' := 3) (hre.mono hl) hse (hv.mono (le1.trans hl)) (ht.mono (le1.trans hl)) hq
    rw [hlv] at this
    exact this
  refine ⟨_, _, _, _, _, _, _, _, _, _, _, _, rfl, call1 H3 _ (Le.refl _) fun c4 H4 le4 r4 => ?_⟩
  have ok4 := ok_eval (rowsOf rs) [ByteArray.mk #[49, 50], ByteArray.mk #[120], s] 12 e
  have r4' := r4
  generalize hw : evalE (rowsOf rs) [ByteArray.mk #[49, 50], ByteArray.mk #[120], s] 12 e = w at *
  obtain ⟨kw, iw, sw, lw⟩ := w
  obtain ⟨aw, mw, cw, rfl, rfl, _, _⟩ := r4
  refine ⟨_, _, _, _, _, _, rfl, ev0 ok (hre.mono le4) hse fun c5 H5 le5 r5 => ?_⟩
  have ok5 := ok_eval [] [] 12 e
  have r5' := r5
  generalize evalE [] [] 12 e = u at *
  obtain ⟨ku, iu, su, lu⟩ := u
  obtain ⟨au, mu, cu, rfl, rfl, _, _⟩ := r5
  refine ⟨_, _, _, _, _, _, rfl, trivial, c11 ok 60 _ _ H5 _ ok4.sz (by omega) (r4'.mono le5) ⟨_, rfl, trivial, fun _ => c11 ok 60 _ _ H5 _ ok5.sz (by omega) r5' ⟨_, rfl, trivial, fun _ => call1 H5 _ (le4.trans le5) fun c6 H6 le6 r6 => ?_, fun h => ?_⟩, fun h => ?_⟩⟩
  · have r6' := r6
    obtain ⟨a6, m6, c6, rfl, rfl, _, _⟩ := r6
    have s4 := ok4.sz
    refine ⟨_, _, _, _, _, _, rfl, ⟨rfl, trivial⟩, c12 ok (by omega) (by omega) r6' (r4'.mono (le5.trans le6)) ⟨_, rfl, trivial, ?_⟩⟩
    rw [cmpV_refl]
    rfl
  · rw [may_ok ok5] at h; cases h
  · rw [may_ok ok4] at h; cases h
end
end Va
end Go.Proofs.YtpdabjimdfifnaaGreat
