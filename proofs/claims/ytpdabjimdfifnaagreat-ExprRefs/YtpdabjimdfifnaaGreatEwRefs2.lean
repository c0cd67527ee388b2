/- The law ExprRefs: what its function answers. -/
import Derived.Test.YtpdabjimdfifnaaGreatEwKeep
import Derived.Test.YtpdabjimdfifnaaGreatEwVc8
set_option linter.unusedVariables false
set_option linter.unusedSimpArgs false
namespace Go.Proofs.YtpdabjimdfifnaaGreat
open Go.Ev Go.Ew
namespace Va
section
variable (ok : EnvOk (env Tryz.prog))
include ok

theorem l4 {e : Ex} {op k i occ attr : Int} {sv : ByteArray} {av ae : Option Addr} {nv cv na ca : Nat} {d : Nat} {xs ys : List (List Ew.V)} {texts : List ByteArray} {ax at_ ay ar : Option Addr} {cx ct cy cr : Nat} {bs : List (Nat × Nat)} {B H : KH}
    (hre : RE B e [.int .i64 op, .int .i64 k, .int .i64 i, .string sv, .slice av nv cv, .int .i64 occ, .int .i64 attr, .slice ae na ca]) (hm : mayB d e = true) (hx : Vals B xs ax) (hxl : xs.length = 3) (hx3 : ∀ l ∈ xs, l.length = 3) (hxo : ∀ l ∈ xs, ∀ v ∈ l, Ok v) (ht : Texts B texts at_)
    (hy : YS B H bs ys) (hyo : ∀ (i : Nat) (x : Nat × Nat), bs[i]? = some x → ∃ b o, ay = some ⟨b, o, none⟩ ∧ ld B ⟨b, o + i, none⟩ [.slice (some ⟨x.1, 0, none⟩) 3 x.2])
    (hr : ∀ (j : Nat) (p : Int × Int), (refsE e)[j]? = some p → ∃ b o, ar = some ⟨b, o, none⟩ ∧ ld B ⟨b, o + j * 2 + 0 * 1, none⟩ [.int .i64 p.1] ∧ ld B ⟨b, o + j * 2 + 1 * 1, none⟩ [.int .i64 p.2]) (hrl : (refsE e).length ≤ 100000) :
    vc4_L3 op k i sv av nv cv occ attr ae na ca ax xs.length cx at_ texts.length ct ay 3 cy ar (refsE e).length cr H fun v _ => v = .bool true := by
  have hse := mayB_sz hm
  unfold vc4_L3
  refine ⟨fun m x4 x5 x6 s7 a8 n9 n10 x11 x12 a13 n14 n15 a16 n17 n18 a19 n20 n21 a22 n23 n24 a25 n26 n27 x28 H29 => (x4 = op ∧ x5 = k ∧ x6 = i ∧ s7 = sv ∧ a8 = av ∧ n9 = nv ∧ n10 = cv ∧ x11 = occ ∧ x12 = attr ∧ a13 = ae ∧ n14 = na ∧ n15 = ca) ∧ (a16 = ax ∧ n17 = xs.length ∧ n18 = cx ∧ a19 = at_ ∧ n20 = texts.length ∧ n21 = ct ∧ a22 = ay ∧ n23 = 3 ∧ n24 = cy ∧ a25 = ar ∧ n26 = (refsE e).length ∧ n27 = cr) ∧
      ∃ (j : Nat) (zs : List (List Ew.V)), x28 = j ∧ j ≤ (refsE e).length ∧ m = (refsE e).length - j ∧ YS B H29 bs zs ∧ ∀ (q : Nat) (p : Int × Int), q < j → (refsE e)[q]? = some p → p.1 < 3 → p.2 < 3 → cellAt xs p.1.toNat p.2.toNat = cellAt zs p.1.toNat p.2.toNat,
    ⟨(refsE e).length, ⟨rfl, rfl, rfl, rfl, rfl, rfl, rfl, rfl, rfl, rfl, rfl, rfl⟩, ⟨rfl, rfl, rfl, rfl, rfl, rfl, rfl, rfl, rfl, rfl, rfl, rfl⟩, 0, ys, rfl, by omega, rfl, hy, fun q p hq => by omega⟩, ?_⟩
  rintro m x4 x5 x6 s7 a8 n9 n10 x11 x12 a13 n14 n15 a16 n17 n18 a19 n20 n21 a22 n23 n24 a25 n26 n27 x28 H29 ⟨⟨rfl, rfl, rfl, rfl, rfl, rfl, rfl, rfl, rfl, rfl, rfl, rfl⟩, ⟨rfl, rfl, rfl, rfl, rfl, rfl, rfl, rfl, rfl, rfl, rfl, rfl⟩, j, zs, rfl, hj, rfl, hz, hag⟩
  refine ⟨fun hlt => ?_, fun hge => ?_⟩
  · have hlt : j < (refsE e).length := by have := of_decide_eq_true hlt; omega
    have hp : (refsE e)[j]? = some (refsE e)[j] := by simp [hlt]
    have hin := refs_in hm (List.getElem_mem hlt)
    generalize (refsE e)[j] = p at hp hin
    obtain ⟨b1, o1, ha, l1, l2⟩ := hr j p hp
    replace l1 := hz.le.ld l1
    replace l2 := hz.le.ld l2
    have hb : (0 : Int) ≤ j ∧ (j : Int) < ((refsE e).length : Nat) := ⟨by omega, by omega⟩
    have h02 : (0 : Int) ≤ 0 ∧ (0 : Int) < ((2 : Nat) : Int) := ⟨by omega, by omega⟩
    have h12 : (0 : Int) ≤ 1 ∧ (1 : Int) < ((2 : Nat) : Int) := ⟨by omega, by omega⟩
    have next : ∀ (H' : KH) (zs' : List (List Ew.V)), YS B H' bs zs' → (∀ (q : Nat) (p : Int × Int), q < j + 1 → (refsE e)[q]? = some p → p.1 < 3 → p.2 < 3 → cellAt xs p.1.toNat p.2.toNat = cellAt zs' p.1.toNat p.2.toNat) →
        ∃ n40 : Nat, n40 < (refsE e).length - j ∧ ((x4 = x4 ∧ x5 = x5 ∧ x6 = x6 ∧ s7 = s7 ∧ a8 = a8 ∧ n9 = n9 ∧ n10 = n10 ∧ x11 = x11 ∧ x12 = x12 ∧ a13 = a13 ∧ n14 = n14 ∧ n15 = n15) ∧ (a16 = a16 ∧ xs.length = xs.length ∧ n18 = n18 ∧ a19 = a19 ∧ texts.length = texts.length ∧ n21 = n21 ∧ a22 = a22 ∧ 3 = 3 ∧ n24 = n24 ∧ a25 = a25 ∧ (refsE e).length = (refsE e).length ∧ n27 = n27) ∧
          ∃ (j' : Nat) (zs : List (List Ew.V)), IntKind.wrap .i64 ((j : Int) + 1) = j' ∧ j' ≤ (refsE e).length ∧ n40 = (refsE e).length - j' ∧ YS B H' bs zs ∧ ∀ (q : Nat) (p : Int × Int), q < j' → (refsE e)[q]? = some p → p.1 < 3 → p.2 < 3 → cellAt xs p.1.toNat p.2.toNat = cellAt zs p.1.toNat p.2.toNat) := by
      intro H' zs' g1 g2
      exact ⟨(refsE e).length - (j + 1), by omega, ⟨rfl, rfl, rfl, rfl, rfl, rfl, rfl, rfl, rfl, rfl, rfl, rfl⟩, ⟨rfl, rfl, rfl, rfl, rfl, rfl, rfl, rfl, rfl, rfl, rfl, rfl⟩, j + 1, zs', by rw [wrap64 (by omega) (by omega)]; omega, by omega, rfl, g1, g2⟩
    have skip : ¬ (p.1 < 3 ∧ p.2 < 3) → ∀ (q : Nat) (p : Int × Int), q < j + 1 → (refsE e)[q]? = some p → p.1 < 3 → p.2 < 3 → cellAt xs p.1.toNat p.2.toNat = cellAt zs p.1.toNat p.2.toNat := by
      intro hn q p' hq hp' h1 h2
      rcases Nat.lt_or_ge q j with hq' | hq'
      · exact hag q p' hq' hp' h1 h2
      · have : q = j := by omega
        subst this
        rw [hp] at hp'
        cases hp'
        exact absurd ⟨h1, h2⟩ hn
    refine ⟨hb, b1, o1, ha, h02, rfl, _, l1, fun h => ?_, fun _ => ⟨hb, b1, o1, ha, h02, rfl, _, l1, fun h => ?_, fun _ => ⟨hb, b1, o1, ha, h12, rfl, _, l2, fun h => ?_, fun _ => ⟨hb, b1, o1, ha, h12, rfl, _, l2, fun h => ?_, fun _ => ?_⟩⟩⟩⟩
    · have := of_decide_eq_true h; omega
    · have := of_decide_eq_true h; omega
    · have := of_decide_eq_true h; omega
    · have := of_decide_eq_true h; omega
    · refine ⟨hb, b1, o1, ha, h02, rfl, _, l1, fun h1 => ?_, fun h1 => ?_⟩
      · have h1 := of_decide_eq_true h1
        refine ⟨hb, b1, o1, ha, h12, rfl, _, l2, fun h2 => ?_, fun h2 => ?_⟩
        · have h2 := of_decide_eq_true h2
          obtain ⟨p1, p2⟩ := p
          simp only at h1 h2 hin l1 l2
          obtain ⟨i1, rfl⟩ : ∃ i1 : Nat, p1 = i1 := ⟨p1.toNat, by omega⟩
          obtain ⟨i2, rfl⟩ : ∃ i2 : Nat, p2 = i2 := ⟨p2.toNat, by omega⟩
          have hi1 : i1 < 3 := by omega
          have hi2 : i2 < 3 := by omega
          -- the row of x
          have hx1 : xs[i1]? = some (xs[i1]'(by omega)) := by simp
          generalize xs[i1]'(by omega) = lx at hx1
          have hlx := hx3 lx (List.mem_of_getElem? hx1)
          have hx2 : lx[i2]? = some (lx[i2]'(by omega)) := by simp
          generalize lx[i2]'(by omega) = v at hx2
          have hvo := hxo lx (List.mem_of_getElem? hx1) v (List.mem_of_getElem? hx2)
          obtain ⟨bx, ox, ax', cx', ex1, ex2, ex3⟩ := hx.row i1 lx hx1
          obtain ⟨bv, ov, ev1, vs, ev2, ev3⟩ := ex3.get hx2
          -- the row of y
          have hb1 : bs[i1]? = some (bs[i1]'(by have := hz.lb; omega)) := by simp
          generalize bs[i1]'(by have := hz.lb; omega) = xb at hb1
          have hy1 : zs[i1]? = some (zs[i1]'(by have := hz.ly; omega)) := by simp
          generalize zs[i1]'(by have := hz.ly; omega) = lz at hy1
          have hlz := hz.l3 lz (List.mem_of_getElem? hy1)
          obtain ⟨by1, oy1, ey1, ey2⟩ := hyo i1 xb hb1
          have hrow := hz.row i1 xb lz hb1 hy1
          obtain ⟨⟨E, csE, r1, r2, r3, r4⟩, r5⟩ := hrow
          have hput := hz.put hb1 hy1 hi2 ev3 hvo
          have ev3' := ev3
          obtain ⟨kv, iv, sv', lv⟩ := v
          obtain ⟨aw, nw, cw, rfl, rfl, _, _⟩ := ev3
          have hb3 : (0 : Int) ≤ (i1 : Nat) ∧ ((i1 : Nat) : Int) < ((3 : Nat) : Int) := ⟨by omega, by omega⟩
          have hbx : (0 : Int) ≤ (i1 : Nat) ∧ ((i1 : Nat) : Int) < (xs.length : Nat) := ⟨by omega, by omega⟩
          have hbv : (0 : Int) ≤ (i2 : Nat) ∧ ((i2 : Nat) : Int) < (lx.length : Nat) := ⟨by omega, by omega⟩
          have hbz : (0 : Int) ≤ (i2 : Nat) ∧ ((i2 : Nat) : Int) < ((3 : Nat) : Int) := ⟨by omega, by omega⟩
          refine ⟨trivial, hb, b1, o1, ha, h02, rfl, _, l1, hb3, by1, oy1, ey1, _, _, _, by simpa using hz.le.ld ey2, hb, b1, o1, ha, h12, rfl, _, l2, hb, b1, o1, ha, h02, rfl, _, l1, hbx, bx, ox, ex1, _, _, _, by simpa using hz.le.ld ex2, hb, b1, o1, ha, h12, rfl, _, l2, hbv, bv, ov, ev1, _, _, _, _, _, _, hz.le.ld ev2, hbz, xb.1, 0, rfl, ⟨(csE.drop (i2 * 4)).take 4, ?_, ?_⟩, ⟨E, r1, r2⟩, trivial, ?_⟩
          · have := rd_len r3
            simp
            omega
          · refine ⟨rfl, E, r1, ?_⟩
            have s1 := rd_drop r3 (m := i2 * 4) (by omega)
            have s2 := rd_take s1 (m := 4) (by omega)
            have hl := rd_len r3
            have e4 : ((csE.drop (i2 * 4)).take 4).length = 4 := by simp; omega
            rw [e4]
            exact s2
          · have e0 : (0 : Nat) + Int.toNat ((i2 : Nat) : Int) * 4 = i2 * 4 := by simp
            rw [e0]
            refine next _ _ hput fun q p' hq hp' g1 g2 => ?_
            have hc := cell_set (i' := p'.1.toNat) (j' := p'.2.toNat) (v := Ew.V.mk kv iv sv' lv) hy1 (by omega : i2 < lz.length)
            rw [hc]
            split
            · rename_i hh
              rw [hh.1, hh.2]
              unfold cellAt
              rw [hx1]
              exact hx2
            · rename_i hh
              rcases Nat.lt_or_ge q j with hq' | hq'
              · exact hag q p' hq' hp' g1 g2
              · have : q = j := by omega
                subst this
                rw [hp] at hp'
                cases hp'
                exact absurd ⟨rfl, rfl⟩ hh
        · have h2 := of_decide_eq_false h2
          exact next _ _ hz (skip (by omega))
      · have h1 := of_decide_eq_false h1
        exact next _ _ hz (skip (by omega))
  · have hge : j = (refsE e).length := by have := of_decide_eq_false hge; omega
    subst hge
    have heq : evalE xs texts 12 e = evalE zs texts 12 e := eval_refs 12 e fun p hp => by
      have hin := refs_in hm hp
      refine refV_cell hin.1 hin.2.2.1 ?_
      obtain ⟨q, hq, rfl⟩ := List.getElem_of_mem hp
      by_cases hs : (refsE e)[q].1 < 3 ∧ (refsE e)[q].2 < 3
      · exact hag q _ hq (by simp) hs.1 hs.2
      · rw [cell_none hxl hx3 (by omega), cell_none hz.ly hz.l3 (by omega)]
    have hv := hz.vals hyo
    have ok4 := ok_eval xs texts 12 e
    refine ⟨trivial, c10 ok (c := n18) (c' := n21) (hre.mono hz.le) hse (hx.mono hz.le) (ht.mono hz.le) fun c4 H4 le4 r4 => ?_⟩
    have r4' := r4
    have call2 : ∀ (Q : Value → KH → Prop), Ans H4 (evalE zs texts 12 e) Q → Does (env Tryz.prog) 10 [.agg #[.int .i64 x4, .int .i64 x5, .int .i64 x6, .string s7, .slice a8 n9 n10, .int .i64 x11, .int .i64 x12, .slice a13 n14 n15], .slice a22 3 n24, .slice a19 texts.length n21] H4 Q := by
      intro Q hq
      have := c10 ok (c := n24) (c' := n21) ((hre.mono hz.le).mono le4) hse (hv.mono le4) ((ht.mono hz.le).mono le4) hq
      rw [hz.ly] at this
      exact this
    rw [← heq] at call2
    generalize evalE xs texts 12 e = w at *
    obtain ⟨kw, iw, sw, lw⟩ := w
    obtain ⟨aw, mw, cw, rfl, rfl, _, _⟩ := r4
    refine ⟨_, _, _, _, _, _, rfl, ⟨rfl, rfl, rfl, trivial⟩, call2 _ fun c5 H5 le5 r5 => ?_⟩
    have r5' := r5
    obtain ⟨au, mu, cu, rfl, rfl, _, _⟩ := r5
    have s4 := ok4.sz
    refine ⟨_, _, _, _, _, _, rfl, trivial, c12 ok (by omega) (by omega) (r4'.mono le5) r5' ⟨_, rfl, trivial, ?_⟩⟩
    rw [cmpV_refl]
    rfl
theorem c4 {a0 a1 a2 : Option Addr} {n0 n1 n2 d0 d1 d2 : Nat} {H : KH} (h0 : U8 H a0 n0) (h1 : U8 H a1 n1) (h2 : U8 H a2 n2) :
    Does (env Tryz.prog) 4 [.slice a0 n0 d0, .slice a1 n1 d1, .slice a2 n2 d2] H fun v _ => v = .bool true := by
  refine fn4 ok (c6 ⟨true, rfl, fun h => (by cases h), fun _ => ⟨fun _ => rfl, fun l0 => ⟨fun _ => rfl, fun l1 => ⟨fun _ => rfl, fun l2 => ?_⟩⟩⟩⟩)
  have l0 : n0 ≤ 100 := by have := of_decide_eq_false l0; omega
  have l1 : n1 ≤ 100 := by have := of_decide_eq_false l1; omega
  have l2 : n2 ≤ 100 := by have := of_decide_eq_false l2; omega
  refine c8 ok h0 (by omega) fun p H1 hp => ⟨_, _, rfl, c9 ok 4 (by decide) H H1 p _ hp fun e ce K2 H2 q1 q2 q3 q4 => ?_⟩
  have le2 : Le H H2 := q2.trans q1.le
  have hre := q3.mono q1.le
  have hp2 := may_parts q4
  have hl := refs_le e
  have hp3 : 5 ^ (max 4 1) = 625 := by decide
  generalize hev : e = e' at *
  obtain ⟨op, v, occ, attr, args⟩ := e
  rw [← hev] at q3
  obtain ⟨k, i, sv, av', nv, cv, ae, ce, rfl, _, _⟩ := q3
  refine ⟨_, _, _, _, _, _, _, _, _, _, _, _, rfl, c7 ok (h1.mono le2) (by omega) fun X K p rs ax cx F2 H3 n8 s hR h3 hs h8 _ => ⟨_, _, _, _, _, _, rfl, ?_⟩⟩
  refine c7 ok (h2.mono (le2.trans hR.le0.1)) (by omega) fun X' K' p' rs' ay cy F2' H4 n8' s' hR' h3' hs' h8' _ => ⟨_, _, _, _, _, _, rfl, ?_⟩
  have le3 : Le H2 H3 := hR.le0.1
  have le4 : Le H3 H4 := hR'.le0.1
  refine c13 ok (hre.mono (le3.trans le4)) q4 (by decide) fun ar cr F' H5 g1 g2 g3 => ⟨_, _, _, rfl, ?_⟩
  obtain ⟨y1, y2, y3, y4⟩ := hR'.ys h3' ((addL_le g2).trans g3)
  have hx := (hR.vals (by omega)).mono y1
  have ht := (texts3 h8 hs).mono y1
  have hlx : (rowsOf rs).length = rs.length := by simp [rowsOf]
  have go := l4 ok (cx := cx) (ct := 3) (cy := cy) (cr := cr) (hre.mono (le3.trans y1)) q4 hx (by omega) (fun l hl => ?_) (fun l hl => ?_) ht y2 y3 (fun j p hj => refs_at (c := cr) (n := 0) g1 (fun x hx => ?_) hj) (by omega)
  · rw [hlx] at go
    rw [h3']
    exact go
  · obtain ⟨r, hr, rfl⟩ := List.mem_map.1 hl
    exact (hR.rows r (List.mem_reverse.1 hr)).len
  · obtain ⟨r, hr, rfl⟩ := List.mem_map.1 hl
    exact (hR.rows r (List.mem_reverse.1 hr)).vals
  · unfold but
    rw [if_neg fun hk => y4 _ hk (frL_none g2 hx), g3 _ _ (addL_mem g2 hx)]
end
end Va
end Go.Proofs.YtpdabjimdfifnaaGreat
