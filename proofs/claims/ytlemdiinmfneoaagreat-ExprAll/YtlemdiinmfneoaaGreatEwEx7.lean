/- The play makes expressions that may be. -/
import Derived.Test.YtlemdiinmfneoaaGreatEwEx4
import Derived.Test.YtlemdiinmfneoaaGreatEwGen
set_option linter.unusedVariables false
set_option linter.unusedSimpArgs false
namespace Go.Ew
open Go.Ev Go.Deep Go.Proofs.YtlemdiinmfneoaaGreat.Va

def isZeroV : V → Bool
  | .mk k i s l => decide (k = 0) && (decide (i = 0) && (strEq s emp && decide (l.length = 0)))

def withinB (n most : Int) : Bool := decide (0 ≤ n) && decide (n ≤ most)

def holdB (op : Int) (v : V) (occ attr : Int) : Bool :=
  if op = 0 then ((decide (szV v ≤ 60) && fitV v) && rgB v) && (decide (kV v ≠ 7) && (decide (occ = 0) && decide (attr = 0)))
  else if op = 1 then isZeroV v && (withinB occ 5 && withinB attr 7)
  else if op = 2 ∨ op = 3 then isZeroV v && (withinB occ 5 && decide (attr = 0))
  else isZeroV v && (decide (occ = 0) && decide (attr = 0))

/-- Which expressions may be, so deep. -/
def mayB : Nat → Ex → Bool
  | 0, _ => false
  | d + 1, .mk op v occ attr args => takesB op args.length && (holdB op v occ attr && args.all (mayB d))

theorem mayB_mono : ∀ {d d' : Nat} {e : Ex}, d ≤ d' → mayB d e = true → mayB d' e = true
  | 0, _, e, _, h => by cases h
  | d + 1, 0, e, h, _ => by omega
  | d + 1, d' + 1, .mk op v occ attr args, hd, h => by
    simp only [mayB, Bool.and_eq_true, List.all_eq_true] at h ⊢
    exact ⟨h.1, h.2.1, fun x hx => mayB_mono (by omega) (h.2.2 x hx)⟩

theorem mayB_sz : ∀ {d : Nat} {e : Ex}, mayB d e = true → SzE e
  | 0, e, h => by cases h
  | d + 1, .mk op v occ attr args, h => by
    simp only [mayB, Bool.and_eq_true, List.all_eq_true] at h
    have hl : ∀ l : List Ex, (∀ x ∈ l, mayB d x = true) → SzEs l := by
      intro l
      induction l with
      | nil => intro _; trivial
      | cons x l ih => intro hx; exact ⟨mayB_sz (hx x (by simp)), ih fun y hy => hx y (by simp [hy])⟩
    refine ⟨?_, hl args h.2.2⟩
    have h2 := h.2.1
    have zero : isZeroV v = true → szV v ≤ 20000 := fun hz => by
      obtain ⟨k, i, s, l⟩ := v
      simp only [isZeroV, Bool.and_eq_true, decide_eq_true_eq] at hz
      have hs : s.toList = emp.toList := by simpa [strEq] using hz.2.2.1
      have hs2 : s.size = 0 := by
        have e1 : s.size = s.toList.length := by rw [ByteArray.toList_eq]; rfl
        have e2 : emp.toList.length = 0 := by rw [ByteArray.toList_eq]; rfl
        rw [e1, hs, e2]
      have hl0 : l = [] := List.eq_nil_of_length_eq_zero hz.2.2.2
      subst hl0
      simp only [szV, hs2, szL]; omega
    unfold holdB at h2
    split at h2
    · simp only [Bool.and_eq_true, decide_eq_true_eq] at h2; omega
    · split at h2
      · simp only [Bool.and_eq_true] at h2; exact zero h2.1
      · split at h2
        · simp only [Bool.and_eq_true] at h2; exact zero h2.1
        · simp only [Bool.and_eq_true] at h2; exact zero h2.1

/-- An expression's cells. -/
def kEx : Kd Ex where
  sz := 8
  R := RE
  len := fun {H e cs} h => by
    obtain ⟨op, v, occ, attr, args⟩ := e
    obtain ⟨k, i, s, av, nv, cv, a, c, rfl, _⟩ := h
    rfl
  mono := fun h q => q.mono h
  pos := by decide
  most := by decide

theorem RES.of_kd {H : KH} : ∀ {l : List Ex} {b o : Nat} {cs : List Value}, kEx.RC H l cs → (∃ e, H b = some e ∧ rd e.cells o (l.length * 8) = some cs) → RES H l (some ⟨b, o, none⟩)
  | [], b, o, cs, _, _ => trivial
  | x :: l, b, o, cs, ⟨c1, c2, e, q1, q2⟩, ⟨E, hE, hr⟩ => by
    subst e
    have h8 : c1.length = 8 := kEx.len q1
    have e1 : (x :: l).length * 8 = 8 + l.length * 8 := by simp only [List.length_cons]; omega
    rw [e1] at hr
    have t1 := rd_take hr (m := 8) (by omega)
    have t2 := rd_drop hr (m := 8) (by omega)
    rw [List.take_append_of_le_length (by omega), List.take_of_length_le (by omega)] at t1
    rw [List.drop_append_of_le_length (by omega), List.drop_eq_nil_of_le (show c1.length ≤ 8 by omega), List.nil_append, Nat.add_sub_cancel_left] at t2
    exact ⟨b, o, rfl, ⟨c1, ⟨rfl, E, hE, by rw [h8]; exact t1⟩, q1⟩, RES.of_kd q2 ⟨E, hE, t2⟩⟩

theorem RES.of_rs {H : KH} {l : List Ex} {a : OA} (h : kEx.RS H l a) : RES H l a := by
  obtain ⟨cs, h1, h2⟩ := h
  cases l with
  | nil => trivial
  | cons x l =>
    cases a with
    | none => have hb : Nat.beq (l.length + 1) 0 = false := rfl; simp [kold, hb] at h1
    | some ad =>
      obtain ⟨b, o, sp⟩ := ad
      cases sp with
      | some sp => have hb : Nat.beq (l.length + 1) 0 = false := rfl; simp [kold, hb] at h1
      | none => exact RES.of_kd h2 (kold_some.1 h1)

theorem lit_kold {H : KH} {b sz n : Nat} {cs : List Value} (hb : H b = some (mkEnt cs 0)) (hl : cs.length = n * sz) : kold H sz (some ⟨b, 0, none⟩) n = some cs :=
  kold_some.2 ⟨_, hb, by rw [← hl]; exact mk_rd⟩

theorem res_lit {H : KH} {b : Nat} {l : List Ex} {cs : List Value} (hb : H b = some (mkEnt cs 0)) (hr : kEx.RC H l cs) : RES H l (some ⟨b, 0, none⟩) :=
  RES.of_kd hr ⟨_, hb, by have := hr.len; have e : kEx.sz = 8 := rfl; rw [e] at this; rw [← this]; exact mk_rd⟩

theorem re_leaf {H : KH} {op occ attr : Int} : RE H (.mk op (.mk 0 0 emp []) occ attr []) [.int .i64 op, .int .i64 0, .int .i64 0, .string (ByteArray.mk #[]), .slice none 0 0, .int .i64 occ, .int .i64 attr, .slice none 0 0] :=
  ⟨0, 0, emp, none, 0, 0, none, 0, rfl, leaf, trivial⟩

theorem zero_zero : isZeroV (.mk 0 0 emp []) = true := by simp [isZeroV, emp_eq]

theorem may_op {d : Nat} {op : Int} {args : List Ex} (h0 : op ≠ 0 ∧ op ≠ 1 ∧ op ≠ 2 ∧ op ≠ 3) (ht : takesB op args.length = true) (ha : ∀ x ∈ args, mayB d x = true) : mayB (d + 1) (.mk op (.mk 0 0 emp []) 0 0 args) = true := by
  simp only [mayB, Bool.and_eq_true, List.all_eq_true]
  refine ⟨ht, ?_, ha⟩
  unfold holdB
  rw [if_neg h0.1, if_neg h0.2.1, if_neg (by omega)]
  simp [zero_zero]

abbrev ET : TI := ⟨8, 104, true, 3, 0, 0, [(0, 1), (1, 4), (5, 1), (6, 1), (7, 1)], [.int .i64 0, .int .i64 0, .int .i64 0, .string (ByteArray.mk #[]), .slice none 0 0, .int .i64 0, .int .i64 0, .slice none 0 0]⟩
end Go.Ew

namespace Go.Proofs.YtlemdiinmfneoaaGreat
open Go.Ev Go.Ew
namespace Va

def P8 (d : Nat) : Prop := ∀ (K H : KH) (p : Nat) (Q : PQ), PK K p H →
  (∀ e cs K' H', PK K' p H' → Le K K' → RE K' e cs → mayB (max d 1) e = true → Q (.agg cs.toArray) H') → Does (env Tryz.prog) 8 [.pointer (some ⟨p, 0, none⟩), .int .i64 (d : Nat)] H Q

section
variable (ok : EnvOk (env Tryz.prog))
include ok

theorem c19 {K H : KH} {p : Nat} {Q : PQ} (hp : PK K p H) (hq : ∀ e cs K' H', PK K' p H' → Le K K' → RE K' e cs → mayB 1 e = true → Q (.agg cs.toArray) H') : Does (env Tryz.prog) 19 [.pointer (some ⟨p, 0, none⟩)] H Q := by
  refine fn19 ok (c18 ok hp (by omega) (by omega) fun x H2 hx1 hx2 hp2 => ⟨x, rfl, fun h0 => ?_, fun h0 => ⟨fun h1 => ?_, fun h1 => ⟨fun h2 => ?_, fun h2 => ?_⟩⟩⟩)
  · refine c18 ok hp2 (by omega) (by omega) fun y H3 hy1 hy2 hp3 => ⟨y, rfl, c18 ok hp3 (by omega) (by omega) fun z H4 hz1 hz2 hp4 => ⟨z, rfl, hq _ _ K H4 hp4 (Le.refl _) re_leaf ?_⟩⟩
    have w1 : withinB y 5 = true := by simp [withinB]; omega
    have w2 : withinB z 7 = true := by simp [withinB]; omega
    simp [mayB, takesB, holdB, zero_zero, w1, w2]
  · refine c18 ok hp2 (by omega) (by omega) fun y H3 hy1 hy2 hp3 => ⟨y, rfl, c18 ok hp3 (by omega) (by omega) fun z H4 hz1 hz2 hp4 => ⟨z, rfl, ?_⟩⟩
    rw [wrap64 (by omega) (by omega)]
    refine hq _ _ K H4 hp4 (Le.refl _) re_leaf ?_
    have w1 : withinB z 5 = true := by simp [withinB]; omega
    have hy : y = 0 ∨ y = 1 := by omega
    rcases hy with rfl | rfl <;> simp [mayB, takesB, holdB, zero_zero, w1]
  · refine c18 ok hp2 (by omega) (by omega) fun y H3 hy1 hy2 hp3 => ⟨y, rfl, ?_⟩
    rw [wrap64 (by omega) (by omega)]
    refine hq _ _ K H3 hp3 (Le.refl _) re_leaf ?_
    have hy : y = 0 ∨ y = 1 := by omega
    rcases hy with rfl | rfl <;> simp [mayB, takesB, holdB, zero_zero]
  · refine c17 ok 2 (by omega) K H2 p _ hp2 fun v cs K' H' q1 q2 q3 q4 => ?_
    have q3' := q3
    have hm : mayB 1 (.mk 0 v 0 0 []) = true := by
      have h60 : szV v ≤ 60 := by have := q4.1; omega
      simp [mayB, takesB, holdB, h60, q4.2.fit, q4.2.ne, q4.2.rg]
    obtain ⟨k, i, s, l⟩ := v
    obtain ⟨a, n, c, rfl, rfl, hl, hok⟩ := q3
    exact ⟨_, _, _, _, _, _, rfl, hq (.mk 0 (.mk k i s l) 0 0 []) _ K' H' q1 q2 ⟨_, _, _, _, _, _, none, 0, rfl, q3', trivial⟩ hm⟩

omit ok in
theorem j9 {d : Nat} (hd : d ≤ 50) (ih : P8 d) {p : Nat} {K0 H : KH} {l : List Ex} {a : OA} {n c m : Nat} {I : Nat → Nat → Nat → Int → Int → Int → Int → ByteArray → OA → Nat → Nat → Int → Int → OA → Nat → Nat → Int → Int → Int → ByteArray → OA → Nat → Nat → Int → Int → OA → Nat → Nat → Int → Int → KH → Prop}
    {y10 y11 y12 y17 y18 y22 y23 y24 y29 y30 y31 y32 : Int} {y13 y25 : ByteArray} {y14 y19 y26 : OA} {y15 y16 y20 y21 y27 y28 : Nat} (h : AccK kEx K0 p H l a n c) (hl : l.length ≤ 1000)
    (hq : ∀ e a' c' H', mayB (max d 1) e = true → AccK kEx K0 p H' (l ++ [e]) a' (n + 1) c' → ∃ k, k < m ∧ I k p 0 (d + 1 : Nat) y10 y11 y12 y13 y14 y15 y16 y17 y18 y19 y20 y21 y22 y23 y24 y25 y26 y27 y28 y29 y30 a' (n + 1) c' y31 (IntKind.wrap .i64 (y32 + 1)) H') :
    vc8_J0 p 0 (d + 1 : Nat) H a n c m I y10 y11 y12 y13 y14 y15 y16 y17 y18 y19 y20 y21 y22 y23 y24 y25 y26 y27 y28 y29 y30 y31 y32 := by
  have hw : IntKind.wrap .i64 (((d + 1 : Nat) : Int) - 1) = (d : Nat) := by rw [wrap64 (by omega) (by omega)]; omega
  unfold vc8_J0
  rw [hw]
  refine ⟨trivial, AccK.step (ti := ET) rfl (by decide) (P := fun e => mayB (max d 1) e = true) (fun K H Q h1 h2 => ih K H p Q h1 fun e cs K' H' g1 g2 g3 g4 => h2 e cs K' H' g1 g2 g3 g4) h hl fun e cs K2 H2 he hre happ => ?_⟩
  obtain ⟨op, v, occ, attr, args⟩ := e
  obtain ⟨k, i, s, av, nv, cv, aa, ca, rfl, _, _⟩ := hre
  refine ⟨_, _, _, _, _, _, _, _, _, _, _, _, rfl, ⟨⟨rfl, rfl⟩, rfl, trivial⟩, fun n15 hn15 n16 hn16 => ?_⟩
  obtain ⟨a', c', H16, e1, e2⟩ := happ n15 n16 hn15 hn16
  have hk : kold (H2.new n15 (mkEnt [.int .i64 op, .int .i64 k, .int .i64 i, .string s, .slice av nv cv, .int .i64 occ, .int .i64 attr, .slice aa args.length ca] 0)) ET.size (some ⟨n15, 0, none⟩) 1 = some [.int .i64 op, .int .i64 k, .int .i64 i, .string s, .slice av nv cv, .int .i64 occ, .int .i64 attr, .slice aa args.length ca] := lit_kold (if_pos rfl) rfl
  obtain ⟨kk, hk1, hk2⟩ := hq _ a' c' H16 he e2
  exact ⟨1, _, knew_of (ti := ET) hk, a', _, c', H16, e1, trivial, trivial, kk, hk1, rfl, hk2⟩

theorem c8_of {d : Nat} (hd : d ≤ 50) (hrec : 1 < d → ∃ d', d = d' + 1 ∧ 1 ≤ d' ∧ P8 d') : P8 d := by
  intro K H p Q hp hq
  refine fn8 ok (c18 ok hp (by omega) (by omega) fun x H2 hx1 hx2 hp2 => ⟨x, rfl, fun h1 => ?_, fun h1 => ⟨fun h6 => ?_, fun h6 => ⟨fun h12 => ?_, fun h12 => ?_⟩⟩⟩)
  · refine c19 ok hp2 fun e cs K' H' q1 q2 q3 q4 => ?_
    have hm := mayB_mono (show 1 ≤ max d 1 by omega) q4
    have q3' := q3
    obtain ⟨op, v, occ, attr, args⟩ := e
    obtain ⟨k, i, s, av, nv, cv, aa, ca, rfl, _, _⟩ := q3
    exact ⟨_, _, _, _, _, _, _, _, _, _, _, _, rfl, hq _ _ K' H' q1 q2 q3' hm⟩
  · refine c19 ok hp2 fun e cs K' H' q1 q2 q3 q4 => ?_
    have hm := mayB_mono (show 1 ≤ max d 1 by omega) q4
    have q3' := q3
    obtain ⟨op, v, occ, attr, args⟩ := e
    obtain ⟨k, i, s, av, nv, cv, aa, ca, rfl, _, _⟩ := q3
    exact ⟨_, _, _, _, _, _, _, _, _, _, _, _, rfl, hq _ _ K' H' q1 q2 q3' hm⟩
  all_goals
    have h1 : 1 < d := by have := of_decide_eq_false h1; omega
    obtain ⟨d', rfl, hd1, ih⟩ := hrec h1
    have hw : IntKind.wrap .i64 (((d' + 1 : Nat) : Int) - 1) = (d' : Nat) := by rw [wrap64 (by omega) (by omega)]; omega
    have emax : max (d' + 1) 1 = d' + 1 := by omega
    have emax' : max d' 1 = d' := by omega
    rw [emax] at hq
  · refine c18 ok hp2 (by omega) (by omega) fun y H3 hy1 hy2 hp3 => ⟨y, rfl, ?_⟩
    rw [hw]
    refine ih K H3 p _ hp3 fun e0 c0 K1 H4 q1 q2 q3 q4 => ?_
    have q3' := q3
    obtain ⟨op0, v0, occ0, at0, as0⟩ := e0
    obtain ⟨k0, i0, s0, av0, nv0, cv0, aa0, ca0, rfl, _, _⟩ := q3
    refine ⟨_, _, _, _, _, _, _, _, _, _, _, _, rfl, ih K1 H4 p _ q1 fun e1 c1 K2 H5 r1 r2 r3 r4 => ?_⟩
    have r3' := r3
    obtain ⟨op1, v1, occ1, at1, as1⟩ := e1
    obtain ⟨k1, i1, s1, av1, nv1, cv1, aa1, ca1, rfl, _, _⟩ := r3
    refine ⟨_, _, _, _, _, _, _, _, _, _, _, _, rfl, fun n63 hn63 => ?_⟩
    rw [wrap64 (by omega) (by omega)]
    have hn63p : n63 ≠ p := fun e => by
      subst e
      obtain ⟨_, e, _, _, _, _, q, _⟩ := r1
      rw [q] at hn63
      simp [KH.new] at hn63
    generalize hcs : ([.int .i64 op0, .int .i64 k0, .int .i64 i0, .string s0, .slice av0 nv0 cv0, .int .i64 occ0, .int .i64 at0, .slice aa0 as0.length ca0, .int .i64 op1, .int .i64 k1, .int .i64 i1, .string s1, .slice av1 nv1 cv1, .int .i64 occ1, .int .i64 at1, .slice aa1 as1.length ca1] : List Value) = cs
    have g := r1.grow (Le.new hn63 (e := mkEnt cs 0))
    have hat : ((H5.new n63 (mkEnt cs 0)).del p) n63 = some (mkEnt cs 0) := by simp only [KH.del, if_neg hn63p]; exact if_pos rfl
    have hrc : ∀ KK : KH, Le K2 KK → kEx.RC KK [.mk op0 v0 occ0 at0 as0, .mk op1 v1 occ1 at1 as1] cs := by
      intro KK hKK
      rw [← hcs]
      exact ⟨[_, _, _, _, _, _, _, _], [_, _, _, _, _, _, _, _], rfl, kEx.mono (r2.trans hKK) q3', [_, _, _, _, _, _, _, _], [], rfl, kEx.mono hKK r3', rfl⟩
    refine hq (.mk (4 + y) (.mk 0 0 emp []) 0 0 [.mk op0 v0 occ0 at0 as0, .mk op1 v1 occ1 at1 as1]) _ _ _ g.1 ((q2.trans r2).trans g.2) ⟨0, 0, emp, none, 0, 0, some ⟨n63, 0, none⟩, 2, rfl, leaf, res_lit hat (hrc _ g.2)⟩ ?_
    refine may_op (by omega) ?_ fun x hx => ?_
    · have hy : y = 0 ∨ y = 1 ∨ y = 2 := by omega
      rcases hy with rfl | rfl | rfl <;> simp [takesB]
    · rw [emax'] at q4 r4
      rcases List.mem_cons.1 hx with rfl | hx
      · exact q4
      · have : x = .mk op1 v1 occ1 at1 as1 := by simpa using hx
        subst this
        exact r4
  · -- the others
    refine c18 ok hp2 (by omega) (by omega) fun y H3 hy1 hy2 hp3 => ⟨y, rfl, ?_⟩
    have hw7 : IntKind.wrap .i64 (7 + y) = 7 + y := wrap64 (by omega) (by omega)
    -- one loop for all
    have loop : ∀ (nn : Int) (H4 : KH), PK K p H4 → 0 ≤ nn → nn ≤ 4 → takesB (7 + y) nn = true →
        ∃ I : Nat → Nat → Nat → Int → Int → Int → Int → ByteArray → OA → Nat → Nat → Int → Int → OA → Nat → Nat → Int → Int → Int → ByteArray → OA → Nat → Nat → Int → Int → OA → Nat → Nat → Int → Int → KH → Prop,
        (∃ n2 : Nat, (none : Option Nat) = none ∧ I n2 p 0 ((d' + 1 : Nat) : Int) 0 0 0 (ByteArray.mk #[]) none 0 0 0 0 none 0 0 (7 + y) 0 0 (ByteArray.mk #[]) none 0 0 0 0 none 0 0 nn 0 H4) ∧
        ∀ (n3 n4 n5 : Nat) (x6 x7 x8 x9 : Int) (s10 : ByteArray) (a11 : OA) (n12 n13 : Nat) (x14 x15 : Int) (a16 : OA) (n17 n18 : Nat) (x19 x20 x21 : Int) (s22 : ByteArray) (a23 : OA) (n24 n25 : Nat) (x26 x27 : Int) (a28 : OA) (n29 n30 : Nat) (x31 x32 : Int) (H33 : KH),
          I n3 n4 n5 x6 x7 x8 x9 s10 a11 n12 n13 x14 x15 a16 n17 n18 x19 x20 x21 s22 a23 n24 n25 x26 x27 a28 n29 n30 x31 x32 H33 →
          ((decide (x32 < x31) = true → vc8_J0 n4 n5 x6 H33 a28 n29 n30 n3 I x7 x8 x9 s10 a11 n12 n13 x14 x15 a16 n17 n18 x19 x20 x21 s22 a23 n24 n25 x26 x27 x31 x32) ∧
           (decide (x32 < x31) = false → Q (.agg #[.int .i64 x19, .int .i64 x20, .int .i64 x21, .string s22, .slice a23 n24 n25, .int .i64 x26, .int .i64 x27, .slice a28 n29 n30]) H33)) := by
      intro nn H4 hp4 hn0 hn4 htk
      refine ⟨fun n3 n4 n5 x6 x7 x8 x9 s10 a11 n12 n13 x14 x15 a16 n17 n18 x19 x20 x21 s22 a23 n24 n25 x26 x27 a28 n29 n30 x31 x32 H33 => n4 = p ∧ n5 = 0 ∧ x6 = (d' + 1 : Nat) ∧ x19 = 7 + y ∧ x20 = 0 ∧ x21 = 0 ∧ s22 = emp ∧ a23 = none ∧ n24 = 0 ∧ n25 = 0 ∧ x26 = 0 ∧ x27 = 0 ∧ x31 = nn ∧ ∃ l : List Ex, AccK kEx K p H33 l a28 n29 n30 ∧ x32 = (l.length : Nat) ∧ (l.length : Int) ≤ nn ∧ n3 = nn.toNat - l.length ∧ ∀ x ∈ l, mayB d' x = true,
        ⟨nn.toNat, rfl, rfl, rfl, rfl, rfl, rfl, rfl, rfl, rfl, rfl, rfl, rfl, rfl, rfl, [], .nil K hp4 (Le.refl _) rfl, rfl, by simp; omega, by simp, by simp⟩, ?_⟩
      rintro n3 n4 n5 x6 x7 x8 x9 s10 a11 n12 n13 x14 x15 a16 n17 n18 x19 x20 x21 s22 a23 n24 n25 x26 x27 a28 n29 n30 x31 x32 H33 ⟨rfl, rfl, rfl, rfl, rfl, rfl, rfl, rfl, rfl, rfl, rfl, rfl, rfl, l, hacc, rfl, hln, rfl, hml⟩
      have hlen := hacc.len
      refine ⟨fun hlt => ?_, fun hge => ?_⟩
      · have hlt : (l.length : Int) < x31 := of_decide_eq_true hlt
        refine j9 (by omega) ih hacc (by omega) fun e a' c' H' he hacc' => ⟨x31.toNat - (l.length + 1), by omega, rfl, rfl, rfl, rfl, rfl, rfl, rfl, rfl, rfl, rfl, rfl, rfl, rfl, l ++ [e], hacc', ?_, by simp; omega, by simp, fun x hx => ?_⟩
        · rw [wrap64 (by omega) (by omega)]; simp
        · rcases List.mem_append.1 hx with hx | hx
          · exact hml x hx
          · have : x = e := by simpa using hx
            subst this
            rw [emax'] at he
            exact he
      · have hge : x31 ≤ (l.length : Int) := by have := of_decide_eq_false hge; omega
        obtain ⟨K', g1, g2, g3, g4⟩ := hacc.out
        subst hlen
        refine hq (.mk (7 + y) (.mk 0 0 emp []) 0 0 l) _ K' H33 g1 g2 ⟨0, 0, emp, none, 0, 0, a28, n30, rfl, leaf, RES.of_rs g3⟩ (may_op (by omega) ?_ hml)
        have : (l.length : Int) = x31 := by omega
        rw [this]; exact htk
    rw [hw7]
    refine ⟨fun h => ?_, fun n21 => ⟨fun h => ?_, fun n22 => ⟨fun h => ?_, fun n11 => ⟨fun h => ?_, fun n15 => ⟨fun h => ?_, fun n12 => ⟨fun h => ?_, fun n16 => ⟨fun h => ?_, fun n14 => ?_⟩⟩⟩⟩⟩⟩⟩
    · have h : 7 + y = 21 := of_decide_eq_true h
      unfold vc8_L1; rw [hw7]; exact loop 0 H3 hp3 (by omega) (by omega) (by rw [h]; decide)
    · have h : 7 + y = 22 := of_decide_eq_true h
      unfold vc8_L1; rw [hw7]; exact loop 0 H3 hp3 (by omega) (by omega) (by rw [h]; decide)
    · have h : 7 + y = 11 := of_decide_eq_true h
      unfold vc8_L2; rw [hw7]; exact loop 1 H3 hp3 (by omega) (by omega) (by rw [h]; decide)
    · have h : 7 + y = 15 := of_decide_eq_true h
      unfold vc8_L2; rw [hw7]; exact loop 1 H3 hp3 (by omega) (by omega) (by rw [h]; decide)
    · have h : 7 + y = 12 := of_decide_eq_true h
      unfold vc8_L3; rw [hw7]; exact loop 3 H3 hp3 (by omega) (by omega) (by rw [h]; decide)
    · have h : 7 + y = 16 := of_decide_eq_true h
      unfold vc8_L3; rw [hw7]; exact loop 3 H3 hp3 (by omega) (by omega) (by rw [h]; decide)
    · have h : 7 + y = 14 := of_decide_eq_true h
      refine c18 ok hp3 (by omega) (by omega) fun z H4 hz1 hz2 hp4 => ⟨z, rfl, ?_⟩
      unfold vc8_L4; rw [hw7]
      exact loop z H4 hp4 (by omega) (by omega) (by rw [h]; simp [takesB]; omega)
    · have n21 := of_decide_eq_false n21
      have n22 := of_decide_eq_false n22
      have n11 := of_decide_eq_false n11
      have n15 := of_decide_eq_false n15
      have n12 := of_decide_eq_false n12
      have n16 := of_decide_eq_false n16
      have n14 := of_decide_eq_false n14
      unfold vc8_L5; rw [hw7]
      refine loop 2 H3 hp3 (by omega) (by omega) ?_
      unfold takesB
      rw [if_neg (by omega), if_neg (by omega), if_neg (by omega), if_neg (by omega)]
      simp; omega

theorem c8 : ∀ d : Nat, d ≤ 50 → P8 d
  | 0, _ => c8_of ok (by omega) fun h => absurd h (by omega)
  | 1, _ => c8_of ok (by omega) fun h => absurd h (by omega)
  | d + 2, h => c8_of ok (by omega) fun _ => ⟨d + 1, rfl, by omega, c8 (d + 1) (by omega)⟩
end
end Va
end Go.Proofs.YtlemdiinmfneoaaGreat
