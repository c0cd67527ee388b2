/- The law ExprAll: what its function answers. -/
import Derived.Test.YtlemdiinmfneoaaGreatEwAl5
import Derived.Test.YtlemdiinmfneoaaGreatEwRefs1
import Derived.Test.YtlemdiinmfneoaaGreatEwVc9
set_option linter.unusedVariables false
set_option linter.unusedSimpArgs false
namespace Go.Ew
open Go.Ev Go.Deep Go.Proofs.YtlemdiinmfneoaaGreat.Va

/-- Numbers in pairs, one by one. -/
theorem pair_ld {H : KH} {a : OA} {c j : Nat} {l : List (Int × Int)} {F : List (Nat × Ent)} {p : Int × Int} (h : OwnQ 2 a l.length c (pairC l) F) (hh : ∀ x ∈ F, H x.1 = some x.2) (hj : l[j]? = some p) : ∃ b o, a = some ⟨b, o, none⟩ ∧ ld H ⟨b, o + j * 2, none⟩ [.int .i64 p.1, .int .i64 p.2] := by
  obtain ⟨b, o, e, ⟨_, e1, g1, k1⟩, ⟨_, e2, g2, k2⟩⟩ := refs_at (n := 0) h hh hj
  refine ⟨b, o, e, rfl, e1, g1, ?_⟩
  have g1 : H b = some e1 := g1
  have g2 : H b = some e2 := g2
  rw [g1] at g2
  cases g2
  refine rd_some rfl fun i v hv => ?_
  match i, hv with
  | 0, hv =>
    have hv : Value.int .i64 p.1 = v := by simpa using hv
    subst hv
    have := rd_get k1 0 _ rfl
    simpa using this
  | 1, hv =>
    have hv : Value.int .i64 p.2 = v := by simpa using hv
    subst hv
    have := rd_get k2 0 _ rfl
    simpa using this

/-- Its cells, in a row of two. -/
structure Cl (H : KH) (n j : Nat) (e : Ex) (op k i : Int) (s : ByteArray) (av : OA) (nv cv : Nat) (occ attr : Int) (aa : OA) (na ca : Nat) : Prop where
  at_ : ld H ⟨n, 0 + Int.toNat ((j : Nat) : Int) * 8, none⟩ [.int .i64 op, .int .i64 k, .int .i64 i, .string s, .slice av nv cv, .int .i64 occ, .int .i64 attr, .slice aa na ca]
  re : RE H e [.int .i64 op, .int .i64 k, .int .i64 i, .string s, .slice av nv cv, .int .i64 occ, .int .i64 attr, .slice aa na ca]

theorem Cl.mono {H H' : KH} {n j : Nat} {e : Ex} {op k i : Int} {s : ByteArray} {av : OA} {nv cv : Nat} {occ attr : Int} {aa : OA} {na ca : Nat} (h : Cl H n j e op k i s av nv cv occ attr aa na ca) (hl : Le H H') : Cl H' n j e op k i s av nv cv occ attr aa na ca := ⟨hl.ld h.at_, h.re.mono hl⟩
end Go.Ew

namespace Go.Proofs.YtlemdiinmfneoaaGreat
open Go.Ev Go.Ew
namespace Va
section
variable (ok : EnvOk (env Tryz.prog))
include ok

/-- What stands behind the comparing of what is referred to. -/
theorem l3 {vals : List (List Ew.V)} {texts : List ByteArray} {n27 j : Nat} {e : Ex} {op k i : Int} {s : ByteArray} {av : OA} {nv cv : Nat} {occ attr : Int} {aa : OA} {na ca : Nat} {av1 at1 a1 a2 : OA} {cv1 ct1 n12 c1 c2 mm : Nat} {F1 F2 : List (Nat × Ent)} {H : KH} {Q : PQ} {I : Nat → OA → Nat → Nat → OA → Nat → Nat → OA → Nat → Nat → Int → KH → Prop}
    (hc : Cl H n27 j e op k i s av nv cv occ attr aa na ca) (hj : j < 2) (hm : mayB 12 e = true) (hv : Vals H vals av1) (hR : ∀ l ∈ vals, ∀ v ∈ l, OkR v) (ht : Texts H texts at1)
    (o1 : OwnQ 2 a1 (refsE e).length c1 (pairC (refsE e)) F1) (f1 : ∀ x ∈ F1, H x.1 = some x.2) (o2 : OwnQ 2 a2 (refsE e).length c2 (pairC (refsE e)) F2) (f2 : ∀ x ∈ F2, H x.1 = some x.2) (hn : (refsE e).length ≤ 100000)
    (hI : ∀ H', Le H H' → ∃ m, m < mm ∧ I m av1 vals.length cv1 at1 texts.length ct1 (some ⟨n27, 0, none⟩) 2 n12 (IntKind.wrap .i64 ((j : Nat) + 1)) H') :
    vc3_L2 av1 vals.length cv1 at1 texts.length ct1 (some ⟨n27, 0, none⟩) 2 n12 ((j : Nat) : Int) a1 (refsE e).length c1 a2 (refsE e).length c2 H Q mm I := by
  unfold vc3_L2
  refine ⟨fun m a4 n5 n6 a7 n8 n9 a10 n11 n12' x13 a14 n15 n16 a17 n18 n19 x20 H21 => a4 = av1 ∧ n5 = vals.length ∧ n6 = cv1 ∧ a7 = at1 ∧ n8 = texts.length ∧ n9 = ct1 ∧ a10 = some ⟨n27, 0, none⟩ ∧ n11 = 2 ∧ n12' = n12 ∧ x13 = (j : Nat) ∧ a14 = a1 ∧ n15 = (refsE e).length ∧ a17 = a2 ∧ n18 = (refsE e).length ∧ H21 = H ∧ ∃ t : Nat, x20 = t ∧ t ≤ (refsE e).length ∧ m = (refsE e).length - t,
    ⟨_, rfl, rfl, rfl, rfl, rfl, rfl, rfl, rfl, rfl, rfl, rfl, rfl, rfl, rfl, rfl, 0, rfl, by omega, rfl⟩, ?_⟩
  rintro m a4 n5 n6 a7 n8 n9 a10 n11 n12' x13 a14 n15 n16 a17 n18 n19 x20 H21 ⟨rfl, rfl, rfl, rfl, rfl, rfl, rfl, rfl, rfl, rfl, rfl, rfl, rfl, rfl, rfl, t, rfl, htl, rfl⟩
  refine ⟨fun hlt => ?_, fun hge => ?_⟩
  · have hlt : t < (refsE e).length := by have := of_decide_eq_true hlt; omega
    have hp : (refsE e)[t]? = some (refsE e)[t] := by simp [hlt]
    obtain ⟨b1, p1, e1, l1⟩ := pair_ld o1 f1 hp
    obtain ⟨b2, p2, e2, l2⟩ := pair_ld o2 f2 hp
    refine ⟨trivial, ⟨by omega, by omega⟩, b1, p1, e1, _, _, by simpa using l1, ⟨by omega, by omega⟩, b2, p2, e2, _, _, by simpa using l2, fun h => ?_, fun h => ?_⟩
    · simp at h
    · exact ⟨(refsE e).length - (t + 1), by omega, rfl, rfl, rfl, rfl, rfl, rfl, rfl, rfl, rfl, rfl, rfl, rfl, rfl, rfl, rfl, t + 1, by rw [wrap64 (by omega) (by omega)]; omega, by omega, rfl⟩
  · have hz := mayB_sz hm
    have hlg := may_lg hm
    refine ⟨trivial, ⟨by omega, by omega⟩, n27, 0, rfl, _, _, _, _, _, _, _, _, _, _, _, _, hc.at_, c12 ok hc.re hlg ⟨_, rfl, trivial, fun _ => ?_, fun hb => by rw [hm] at hb; cases hb⟩⟩
    refine ⟨⟨by omega, by omega⟩, n27, 0, rfl, _, _, _, _, _, _, _, _, _, _, _, _, hc.at_, ⟨by omega, by omega⟩, n27, 0, rfl, _, _, _, _, _, _, _, _, _, _, _, _, hc.at_, c14 ok hc.re hz hv ht fun cw H2 le2 r2 => ?_⟩
    have ok2 := ok_eval vals texts 12 e
    have r2' := r2
    have same := cmpV_refl (evalE vals texts 12 e)
    have go := fun Q => c15 ok 12 e _ vals texts a4 a7 n6 n9 H2 Q (hc.mono le2).re hm (hv.mono le2) hR (ht.mono le2)
    generalize evalE vals texts 12 e = w at *
    obtain ⟨kw, iw, sw, lw⟩ := w
    obtain ⟨aw, nw, cw, rfl, rfl, _, _⟩ := r2
    refine ⟨_, _, _, _, _, _, rfl, ⟨rfl, rfl, ⟨⟨by omega, by omega⟩, _, _, rfl, rfl⟩, ⟨_, _, _, _, _, _, _, _, _, _, _, _, (hc.mono le2).at_, rfl⟩, rfl, rfl, trivial⟩, go _ fun cu H3 le3 r3 => ?_⟩
    have r3' := r3
    obtain ⟨au, nu, cu, rfl, rfl, _, _⟩ := r3
    have hs2 := ok2.sz
    refine ⟨_, _, _, _, _, _, rfl, trivial, c13 ok (by omega) (by omega) (r2'.mono le3) r3' ⟨_, rfl, trivial, fun h => ?_, fun _ => hI _ (le2.trans le3)⟩⟩
    rw [same] at h
    cases h

theorem c3 {a0 a1 : OA} {n0 n1 d0 d1 : Nat} {e : Ex} {ce : List Value} {H : KH} (h0 : U8 H a0 n0) (h1 : U8 H a1 n1) (hr : RE H e ce) (hg : RgE e) :
    Does (env Tryz.prog) 3 [.slice a0 n0 d0, .slice a1 n1 d1, .agg ce.toArray] H fun v _ => v = .bool true := by
  have hr0 := hr
  generalize hev : e = e' at *
  obtain ⟨op, v, occ, attr, args⟩ := e
  rw [← hev] at hr
  obtain ⟨k, i, sv, av, nv, cv, aa, ca, rfl, _, _⟩ := hr
  refine fn3 ok (c4 ⟨true, rfl, fun h => (by cases h), fun _ => ⟨fun _ => rfl, fun l0 => ⟨fun _ => rfl, fun l1 => c5 ok 4 e' _ H _ (by omega) hr0 fun bl hbl => ⟨_, rfl, fun _ => rfl, fun hb => ?_⟩⟩⟩⟩)
  have hli : LiE 4 e' := hbl (by simpa using hb)
  have hlg : Lg e' := li_lg hli hg
  have l0 : n0 ≤ 100 := by have := of_decide_eq_false l0; omega
  have l1 : n1 ≤ 100 := by have := of_decide_eq_false l1; omega
  refine c6 ok h1 (by omega) fun X K p rs av1 c1 F2 H1 n8 s hR h3 hs h8 _ => ⟨_, _, _, _, _, _, rfl, trivial, c7 ok (h0.mono hR.le0.1) (by omega) fun p' H2 hp' => ⟨_, _, rfl, ⟨rfl, trivial⟩, c8 ok 4 (by decide) H1 H2 p' _ hp' fun e2 ce2 K2 H3 q1 q2 q3 q4 => ?_⟩⟩
  have le3 : Le H1 H3 := q2.trans q1.le
  have hv := (hR.vals (by omega)).mono le3
  have ht := (texts3 h8 hs).mono le3
  have hvR : ∀ l ∈ rowsOf rs, ∀ v ∈ l, OkR v := fun l hl => by
    obtain ⟨r, hr, rfl⟩ := List.mem_map.1 hl
    exact (hR.rows r (List.mem_reverse.1 hr)).vals
  have hlv : (rowsOf rs).length = rs.length := by simp [rowsOf]
  have q5 : mayB 12 e2 = true := mayB_mono (by decide) q4
  have hli2 : LiE 4 e2 := may_li (d := 4) q4
  have hlg2 : Lg e2 := may_lg q4
  have hre := hr0.mono (hR.le0.1.trans le3)
  have hre2 := q3.mono q1.le
  generalize hev2 : e2 = e2' at *
  obtain ⟨op2, v2, occ2, attr2, args2⟩ := e2
  rw [← hev2] at q3
  obtain ⟨k2, i2, sv2, av2, nv2, cv2, aa2, ca2, rfl, _, _⟩ := q3
  refine ⟨_, _, _, _, _, _, _, _, _, _, _, _, rfl, ⟨rfl, trivial⟩, fun n27 hn27 => ?_⟩
  rw [← hlv]
  unfold vc3_L6
  generalize hB : H3.new n27 (mkEnt [.int .i64 op, .int .i64 k, .int .i64 i, .string sv, .slice av nv cv, .int .i64 occ, .int .i64 attr, .slice aa args.length ca, .int .i64 op2, .int .i64 k2, .int .i64 i2, .string sv2, .slice av2 nv2 cv2, .int .i64 occ2, .int .i64 attr2, .slice aa2 args2.length ca2] 0) = HB
  have leB : Le H3 HB := by rw [← hB]; exact Le.new hn27
  have hat : HB n27 = some (mkEnt [.int .i64 op, .int .i64 k, .int .i64 i, .string sv, .slice av nv cv, .int .i64 occ, .int .i64 attr, .slice aa args.length ca, .int .i64 op2, .int .i64 k2, .int .i64 i2, .string sv2, .slice av2 nv2 cv2, .int .i64 occ2, .int .i64 attr2, .slice aa2 args2.length ca2] 0) := by rw [← hB]; exact if_pos rfl
  have hall : ld HB ⟨n27, 0, none⟩ [.int .i64 op, .int .i64 k, .int .i64 i, .string sv, .slice av nv cv, .int .i64 occ, .int .i64 attr, .slice aa args.length ca, .int .i64 op2, .int .i64 k2, .int .i64 i2, .string sv2, .slice av2 nv2 cv2, .int .i64 occ2, .int .i64 attr2, .slice aa2 args2.length ca2] := by
    obtain ⟨e, he, hr⟩ := kold_some.1 (lit_kold (sz := 8) (n := 2) hat rfl)
    exact ⟨rfl, e, he, hr⟩
  have cl0 : Cl HB n27 0 e' op k i sv av nv cv occ attr aa args.length ca := ⟨by simpa using ld_sub hall 0 8 (by simp), hre.mono leB⟩
  have cl1 : Cl HB n27 1 e2' op2 k2 i2 sv2 av2 nv2 cv2 occ2 attr2 aa2 args2.length ca2 := ⟨by simpa using ld_sub hall 8 8 (by simp), hre2.mono leB⟩
  have cls : ∀ j : Nat, j < 2 → ∃ e op k i s av nv cv occ attr aa na ca, Cl HB n27 j e op k i s av nv cv occ attr aa na ca ∧ LiE 4 e ∧ Lg e := fun j hj => by
    have : j = 0 ∨ j = 1 := by omega
    rcases this with rfl | rfl
    · exact ⟨_, _, _, _, _, _, _, _, _, _, _, _, _, cl0, hli, hlg⟩
    · exact ⟨_, _, _, _, _, _, _, _, _, _, _, _, _, cl1, hli2, hlg2⟩
  have hv := hv.mono leB
  have ht := ht.mono leB
  clear hB hat hall cl0 hre hre2 hr0 hp' hR h8 leB le3 q1 q2 q4
  refine ⟨fun m a4 n5 n6 a7 n8' n9 a10 n11 n12 x13 H14 => a4 = av1 ∧ n5 = (rowsOf rs).length ∧ a7 = some ⟨n8, 0, none⟩ ∧ n8' = 3 ∧ a10 = some ⟨n27, 0, none⟩ ∧ n11 = 2 ∧ ∃ j : Nat, x13 = j ∧ j ≤ 2 ∧ m = 2 - j ∧ Le HB H14, ⟨2, rfl, rfl, rfl, rfl, rfl, rfl, 0, rfl, by omega, rfl, Le.refl _⟩, ?_⟩
  rintro m a4 n5 n6 a7 n8' n9 a10 n11 n12 x13 H14 ⟨rfl, rfl, rfl, rfl, rfl, rfl, j, rfl, hj, rfl, le14⟩
  refine ⟨fun hlt => ?_, fun hge => ?_⟩
  · have hlt : j < 2 := by have := of_decide_eq_true hlt; omega
    obtain ⟨e, xop, xk, xi, xs, xav, xnv, xcv, xocc, xattr, xaa, xna, xca, hc, hl4, hlg4⟩ := cls j hlt
    have hpp := li_parts hl4
    have hp6 : 6 ^ 4 = 1296 := by decide
    have hrl := refs_le e
    have c14' := hc.mono le14
    refine ⟨trivial, ⟨by omega, by omega⟩, n27, 0, rfl, _, _, _, _, _, _, _, _, _, _, _, _, c14'.at_, ⟨by omega, by omega⟩, n27, 0, rfl, _, _, _, _, _, _, _, _, _, _, _, _, c14'.at_, c9l ok (d := 4) c14'.re hl4 (by omega) fun ar cr Fr H30 g1 g2 g3 => ?_⟩
    have le30 : Le H14 H30 := (addL_le g2).trans g3
    have c30' := c14'.mono le30
    refine ⟨_, _, _, rfl, ⟨rfl, rfl, ⟨⟨by omega, by omega⟩, _, _, rfl, rfl⟩, ⟨_, _, _, _, _, _, _, _, _, _, _, _, c30'.at_, rfl⟩, trivial⟩, c10 ok 4 e _ H30 _ (by omega) c30'.re hl4 fun as1 cs Fs H49 g4 g5 g6 => ?_⟩
    have le49 : Le H30 H49 := (addL_le g5).trans g6
    have c49' := c30'.mono le49
    refine ⟨_, _, _, rfl, trivial, trivial, ⟨by omega, by omega⟩, n27, 0, rfl, _, _, _, _, _, _, _, _, _, _, _, _, c49'.at_, ⟨by omega, by omega⟩, n27, 0, rfl, _, _, _, _, _, _, _, _, _, _, _, _, c49'.at_, c11 ok c49'.re hlg4 ⟨_, rfl, ⟨rfl, rfl, ⟨⟨by omega, by omega⟩, _, _, rfl, rfl⟩, ⟨_, _, _, _, _, _, _, _, _, _, _, _, c49'.at_, rfl⟩, trivial⟩, c12 ok c49'.re hlg4 ⟨_, rfl, trivial, fun h => ?_, fun _ => ?_⟩⟩⟩
    · simp at h
    refine ⟨⟨by omega, by omega⟩, n27, 0, rfl, _, _, _, _, _, _, _, _, _, _, _, _, c49'.at_, c12 ok c49'.re hlg4 ⟨_, rfl, fun _ => ?_, fun hm => ?_⟩⟩
    · exact ⟨2 - (j + 1), by omega, rfl, rfl, rfl, rfl, rfl, rfl, j + 1, by rw [wrap64 (by omega) (by omega)]; omega, by omega, rfl, (le14.trans le30).trans le49⟩
    · have hm : mayB 12 e = true := by simpa using hm
      have hrr := may_same hm
      rw [hrr] at g4 ⊢
      refine ⟨fun h => ?_, fun _ => ?_⟩
      · simp at h
      · refine l3 ok c49' hlt hm (hv.mono ((le14.trans le30).trans le49)) hvR (ht.mono ((le14.trans le30).trans le49)) g1 (fun x hx => le49 _ _ (g3 _ _ (addL_mem g2 hx))) g4 (fun x hx => g6 _ _ (addL_mem g5 hx)) (by omega) fun H' hl => ?_
        exact ⟨2 - (j + 1), by omega, rfl, rfl, rfl, rfl, rfl, rfl, j + 1, by rw [wrap64 (by omega) (by omega)]; omega, by omega, rfl, ((le14.trans le30).trans le49).trans hl⟩
  · refine ⟨⟨by omega, by omega⟩, n27, 0, rfl, _, _, _, _, _, _, _, _, _, _, _, _, (cl1.mono le14).at_, c11 ok (cl1.mono le14).re hlg2 ⟨_, rfl, ?_⟩⟩
    rw [q5]
end
end Va
end Go.Proofs.YtlemdiinmfneoaaGreat
