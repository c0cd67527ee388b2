import Derived.Test.YtbfemjkknemfeaaEwNh3
set_option linter.unusedVariables false
set_option linter.unusedSimpArgs false
namespace Go.Ew
open Go.Ev Go.Deep

theorem ent33 {X : List It} {op : Int} {L : List Rg} {a : OA} {c : Nat} {H H1 : KH} (hl : Le H H1) (hi : ItR H (X ++ [(op, L)]) a) (ho : SlOk H 2 a (X ++ [(op, L)]).length c) (hX : X.length ≤ 1000) :
    ∃ a1 c1 b o, kslice H1 2 a (X ++ [(op, L)]).length c none (some (.int .i64 (IntKind.wrap .i64 ((((X ++ [(op, L)]).length : Nat) : Int) - 1)))) = some (.slice a1 X.length c1) ∧ ItR H1 X a1 ∧ SlOk H1 2 a1 X.length c1 ∧ a = some ⟨b, o, none⟩ ∧
      (∀ H2, Le H1 H2 → ld H2 ⟨b, (o + Int.toNat ((X.length : Nat) : Int) * 2) + 0, none⟩ [.int .i64 op]) ∧ IntKind.wrap .i64 ((((X ++ [(op, L)]).length : Nat) : Int) - 1) = ((X.length : Nat) : Int) := by
  have hlen : (X ++ [(op, L)]).length = X.length + 1 := by simp
  have w1 : IntKind.wrap .i64 ((((X ++ [(op, L)]).length : Nat) : Int) - 1) = ((X.length : Nat) : Int) := by rw [hlen, wrap64 (by omega) (by omega)]; omega
  obtain ⟨a1, c1, k1, k2, k3⟩ := ItR.lo (hi.mono hl) (ho.mono hl)
  obtain ⟨cs, hc, hit⟩ := hi
  obtain ⟨b, o, e, r⟩ := rowAddr hc (by omega)
  rw [w1]
  refine ⟨a1, c1, b, o, k1, k2, k3, e, fun H2 h2 => ?_, rfl⟩
  obtain ⟨ar, cr, f1, f2⟩ := ItC_at hit (k := X.length) (op := op) (rg := L) (by simp)
  have g1 := r (X.length * 2) 2 (by omega)
  rw [f1] at g1
  have g2 := ldSub g1 0 1 (by simp)
  rw [Int.toNat_natCast]
  exact Le.ld (hl.trans h2) (by simpa using g2)
end Go.Ew

namespace Go.Proofs.Ytbfemjkknemfeaa
open Go.Ev Go.Ew
namespace Va
section
variable (ok : EnvOk (env Try.prog))
include ok

theorem c52n {N : Nat} {f g : List Bool} {a b : OA} {c d : Nat} {H : KH} {Q : PQ} (hf : BR H f a) (hg : BR H g b) (h1 : f.length = N) (h2 : g.length = N) (hs : N ≤ 1000)
    (hq : ∀ a' c' H', Le H H' → BR H' (orB f g) a' → Q (.slice a' N c') H') : Does (env Try.prog) 52 [.slice a N c, .slice b N d] H Q := by
  subst h1
  exact c52 ok hf hg h2 hs hq

def Ends33 (s : ByteArray) (t : Ptn) : Prop := ∀ {a b : OA} {c d : Nat} {f : List Bool} {H : KH} {Q : PQ}, ItR H t.items a → SlOk H 2 a t.items.length c → BR H f b → f.length = s.size + 1 →
  (∀ r a' c' H', Le H H' → BR H' r a' → EndsR s t f r → Q (.slice a' (s.size + 1) c') H') → Does (env Try.prog) 33 [.slice a t.items.length c, .string s, .slice b (s.size + 1) d] H Q

theorem l33 {s : ByteArray} (hs : s.size ≤ 100) {t : Ptn} (ih : Ends33 s t) {op : Int} {a b a1 a2 : OA} {c d c1 c2 : Nat} {f r : List Bool} {H : KH} {Q : PQ}
    (hi : ItR H t.items a1) (ho : SlOk H 2 a1 t.items.length c1) (hf : BR H f b) (hfl : f.length = s.size + 1) (hr : BR H r a2) (he : EndsR s t f r)
    (w1 : IntKind.wrap .i64 ((((t.items ++ [(op, [])]).length : Nat) : Int) - 1) = ((t.items.length : Nat) : Int)) (hop : ∃ b o, a = some ⟨b, o, none⟩ ∧ ∀ H2, Le H H2 → ld H2 ⟨b, (o + Int.toNat ((t.items.length : Nat) : Int) * 2) + 0, none⟩ [.int .i64 op])
    (h4 : op = 4 → ∀ r a' c' H', Le H H' → BR H' r a' → EndsR s (.star t) f r → Q (.slice a' (s.size + 1) c') H')
    (h5 : op ≠ 4 → ∀ r a' c' H', Le H H' → BR H' r a' → EndsR s (.plus t) f r → Q (.slice a' (s.size + 1) c') H') :
    vc33_L5 a (t.items ++ [(op, [])]).length c s b (s.size + 1) d a1 t.items.length c1 a2 (s.size + 1) c2 H Q := by
  obtain ⟨b1, o1, e1, g1⟩ := hop
  unfold vc33_L5
  rw [w1]
  refine ⟨fun n3 a4 n5 n6 s7 a8 n9 n10 x11 a12 n13 n14 a15 n16 n17 x18 H19 => a4 = a ∧ n5 = (t.items ++ [(op, [])]).length ∧ s7 = s ∧ a8 = b ∧ n9 = s.size + 1 ∧ x11 = ((t.items.length : Nat) : Int) ∧ a12 = a1 ∧ n13 = t.items.length ∧ n14 = c1 ∧ n16 = s.size + 1 ∧ ∃ (k : Nat) (q : List Bool), x18 = k ∧ k ≤ s.size + 1 ∧ n3 = s.size + 1 - k ∧ Le H H19 ∧ BR H19 q a15 ∧ PowR s t f (k + 1) q,
    ⟨s.size + 1, rfl, rfl, rfl, rfl, rfl, rfl, rfl, rfl, rfl, rfl, 0, r, rfl, by omega, rfl, Le.refl _, hr, .one he⟩, ?_⟩
  rintro n3 a4 n5 n6 s7 a8 n9 n10 x11 a12 n13 n14 a15 n16 n17 x18 H19 ⟨rfl, rfl, rfl, rfl, rfl, rfl, rfl, rfl, rfl, rfl, k, q, rfl, hk, rfl, hle, hq, hp⟩
  refine ⟨fun hlt => ?_, fun hge => ?_⟩
  · have hlt : k ≤ s7.size := by have := of_decide_eq_true hlt; omega
    have wk : IntKind.wrap .i64 (((k : Nat) : Int) + 1) = ((k + 1 : Nat) : Int) := by rw [wrap64 (by omega) (by omega)]; omega
    rw [wk]
    refine ih (hi.mono hle) (ho.mono hle) hq hp.len fun r' a' c' H2 hl2 hr' he' => ⟨_, _, _, rfl, c52n ok (hq.mono hl2) hr' hp.len he'.len (by omega) fun a3 c3 H7 hl7 ho7 => ⟨_, _, _, rfl, s7.size + 1 - (k + 1), by omega, rfl, rfl, rfl, rfl, rfl, rfl, rfl, rfl, rfl, rfl, k + 1, _, rfl, by omega, rfl, hle.trans (hl2.trans hl7), ho7, hp.more (by omega) he'⟩⟩
  · have hge : k = s7.size + 1 := by have := of_decide_eq_false hge; omega
    subst hge
    refine ⟨⟨by omega, by simp; omega⟩, b1, o1, e1, rfl, op, g1 _ hle, fun z => ?_, fun z => ?_⟩
    · have z := of_decide_eq_true z
      exact c52n ok (hf.mono hle) hq hfl hp.len (by omega) fun a3 c3 H7 hl7 ho7 => ⟨_, _, _, rfl, h4 z _ _ _ H7 (hle.trans hl7) ho7 (hp.star hfl)⟩
    · have z := of_decide_eq_false z
      exact h5 z _ _ _ H19 hle hq hp.plus

theorem c33 {s : ByteArray} (hs : s.size ≤ 100) : ∀ (t : Ptn), t.fit → t.items.length ≤ 500 → Ends33 s t := by
  have ew : IntKind.wrap .i64 (((s.size : Nat) : Int) + 1) = ((s.size + 1 : Nat) : Int) := by rw [wrap64 (by omega) (by omega)]; omega
  intro t
  induction t with
  | cls L =>
    intro hfit _ a b c d f H Q hi ho hf hfl hq
    have hL : L.length ≤ 24 := hfit
    have hlen : (Ptn.cls L).items.length = 1 := rfl
    rw [hlen] at ho ⊢
    refine fn33 ok ⟨⟨by rw [ew]; omega, Int.le_refl _, by rw [ew]; omega⟩, fun n1 h1 => ?_⟩
    obtain ⟨a1, c1, b1, o1, k1, k2, k3, e1, g1, w1⟩ := ent33 (X := []) (op := 1) (L := L) (Le.new (e := mkEnt (lrep [Value.bool false] (s.size + 1)) 0) h1) hi ho (by simp)
    have w1 : IntKind.wrap .i64 (((1 : Nat) : Int) - 1) = ((0 : Nat) : Int) := w1
    rw [ew, Int.toNat_natCast]
    refine ⟨fun h0 => absurd h0 (by decide), fun _ => ⟨a1, _, c1, k1, ⟨by rw [w1]; omega, by rw [w1]; omega⟩, b1, o1, e1, rfl, 1, by rw [w1]; exact g1 _ (Le.refl _), fun _ => c33cls hs (by omega) h1 hi hf hfl hq, fun q => absurd q (by decide)⟩⟩
  | join u v ihu ihv =>
    intro hfit hlen a b c d f H Q hi ho hf hfl hq
    have hN : (u.items ++ v.items ++ [(2, [])]).length ≤ 500 := hlen
    have hN1 : (u.items ++ v.items ++ [((2 : Int), ([] : List Rg))]).length = u.items.length + v.items.length + 1 := by simp; omega
    have hX : (u.items ++ v.items).length = u.items.length + v.items.length := by simp
    have hpu := items_pos u
    refine fn33 ok ⟨⟨by rw [ew]; omega, Int.le_refl _, by rw [ew]; omega⟩, fun n1 h1 => ?_⟩
    have hH1 := Le.new (e := mkEnt (lrep [Value.bool false] (s.size + 1)) 0) h1
    obtain ⟨a1, c1, b1, o1, k1, k2, k3, e1, g1, w1⟩ := ent33 (X := u.items ++ v.items) (op := 2) (L := []) hH1 hi ho (by omega)
    have w2 : IntKind.wrap .i64 ((((u.items ++ v.items).length : Nat) : Int) - 1) = (((u.items ++ v.items).length - 1 : Nat) : Int) := by rw [wrap64 (by omega) (by omega)]; omega
    rw [ew, Int.toNat_natCast]
    have eN : (Ptn.join u v).items.length = (u.items ++ v.items ++ [((2 : Int), ([] : List Rg))]).length := rfl
    rw [eN]
    refine ⟨fun h0 => ?_, fun _ => ⟨a1, _, c1, k1, ⟨by rw [w1]; omega, by rw [w1]; omega⟩, b1, o1, e1, rfl, 2, by rw [w1]; exact g1 _ (Le.refl _), fun q => absurd q (by decide), fun _ => ⟨fun _ => ?_, fun q => absurd q (by decide)⟩⟩⟩
    · have := of_decide_eq_true h0; omega
    rw [w1, w2]
    obtain ⟨a10, c10, p1, p2, p3⟩ := k2.hi k3
    obtain ⟨a13, c13, q1, q2, q3⟩ := k2.lo k3
    exact c51t ok (A := u.items) (t := v) k2 (by omega) ⟨_, rfl, trivial, a10, _, c10, p1, a13, _, c13, q1, ihu hfit.1 (by omega) q2 q3 (hf.mono hH1) hfl fun r1 a18 c18 H17 l17 br1 er1 => ⟨a18, _, c18, rfl, ⟨rfl, rfl, ⟨a10, _, c10, l17.kslice p1, rfl⟩, rfl, trivial⟩,
      ihv hfit.2 (by omega) (p2.mono l17) (p3.mono l17) br1 er1.len fun r2 a26 c26 H25 l25 br2 er2 => ⟨_, _, _, rfl, trivial, hq r2 _ _ H25 (hH1.trans (l17.trans l25)) br2 (er1.join er2)⟩⟩⟩
  | alt u v ihu ihv =>
    intro hfit hlen a b c d f H Q hi ho hf hfl hq
    have hN : (u.items ++ v.items ++ [(3, [])]).length ≤ 500 := hlen
    have hN1 : (u.items ++ v.items ++ [((3 : Int), ([] : List Rg))]).length = u.items.length + v.items.length + 1 := by simp; omega
    have hX : (u.items ++ v.items).length = u.items.length + v.items.length := by simp
    have hpu := items_pos u
    refine fn33 ok ⟨⟨by rw [ew]; omega, Int.le_refl _, by rw [ew]; omega⟩, fun n1 h1 => ?_⟩
    have hH1 := Le.new (e := mkEnt (lrep [Value.bool false] (s.size + 1)) 0) h1
    obtain ⟨a1, c1, b1, o1, k1, k2, k3, e1, g1, w1⟩ := ent33 (X := u.items ++ v.items) (op := 3) (L := []) hH1 hi ho (by omega)
    have w2 : IntKind.wrap .i64 ((((u.items ++ v.items).length : Nat) : Int) - 1) = (((u.items ++ v.items).length - 1 : Nat) : Int) := by rw [wrap64 (by omega) (by omega)]; omega
    rw [ew, Int.toNat_natCast]
    have eN : (Ptn.alt u v).items.length = (u.items ++ v.items ++ [((3 : Int), ([] : List Rg))]).length := rfl
    rw [eN]
    refine ⟨fun h0 => ?_, fun _ => ⟨a1, _, c1, k1, ⟨by rw [w1]; omega, by rw [w1]; omega⟩, b1, o1, e1, rfl, 3, by rw [w1]; exact g1 _ (Le.refl _), fun q => absurd q (by decide), fun _ => ⟨fun q => absurd q (by decide), fun _ => ⟨fun _ => ?_, fun q => absurd q (by decide)⟩⟩⟩⟩
    · have := of_decide_eq_true h0; omega
    rw [w1, w2]
    obtain ⟨a10, c10, p1, p2, p3⟩ := k2.hi k3
    obtain ⟨a13, c13, q1, q2, q3⟩ := k2.lo k3
    exact c51t ok (A := u.items) (t := v) k2 (by omega) ⟨_, rfl, trivial, a13, _, c13, q1, a10, _, c10, p1, ihu hfit.1 (by omega) q2 q3 (hf.mono hH1) hfl fun r1 a18 c18 H17 l17 br1 er1 => ⟨a18, _, c18, rfl, ⟨rfl, rfl, ⟨a10, _, c10, l17.kslice p1, rfl⟩, rfl, rfl, trivial⟩,
      ihv hfit.2 (by omega) (p2.mono l17) (p3.mono l17) ((hf.mono hH1).mono l17) hfl fun r2 a26 c26 H25 l25 br2 er2 => ⟨_, _, _, rfl, trivial, c52n ok (br1.mono l25) br2 er1.len er2.len (by omega) fun a53 c53 H52 l52 br3 => ⟨_, _, _, rfl, trivial, hq _ _ _ H52 (hH1.trans (l17.trans (l25.trans l52))) br3 (er1.alt er2)⟩⟩⟩⟩
  | may u ihu =>
    intro hfit hlen a b c d f H Q hi ho hf hfl hq
    have hN : (u.items ++ [(6, [])]).length ≤ 500 := hlen
    have hN1 : (u.items ++ [((6 : Int), ([] : List Rg))]).length = u.items.length + 1 := by simp
    refine fn33 ok ⟨⟨by rw [ew]; omega, Int.le_refl _, by rw [ew]; omega⟩, fun n1 h1 => ?_⟩
    have hH1 := Le.new (e := mkEnt (lrep [Value.bool false] (s.size + 1)) 0) h1
    obtain ⟨a1, c1, b1, o1, k1, k2, k3, e1, g1, w1⟩ := ent33 (X := u.items) (op := 6) (L := []) hH1 hi ho (by omega)
    rw [ew, Int.toNat_natCast]
    have eN : (Ptn.may u).items.length = (u.items ++ [((6 : Int), ([] : List Rg))]).length := rfl
    rw [eN]
    refine ⟨fun h0 => ?_, fun _ => ⟨a1, _, c1, k1, ⟨by rw [w1]; omega, by rw [w1]; omega⟩, b1, o1, e1, rfl, 6, by rw [w1]; exact g1 _ (Le.refl _), fun q => absurd q (by decide), fun _ => ⟨fun q => absurd q (by decide), fun _ => ⟨fun q => absurd q (by decide), fun _ => ⟨fun _ => ?_, fun q => absurd q (by decide)⟩⟩⟩⟩⟩
    · have := of_decide_eq_true h0; omega
    exact ihu hfit (by omega) k2 k3 (hf.mono hH1) hfl fun r1 a18 c18 H17 l17 br1 er1 => ⟨_, _, _, rfl, c52n ok ((hf.mono hH1).mono l17) br1 hfl er1.len (by omega) fun a53 c53 H52 l52 br3 => ⟨_, _, _, rfl, hq _ _ _ H52 (hH1.trans (l17.trans l52)) br3 (er1.may hfl)⟩⟩
  | star u ihu =>
    intro hfit hlen a b c d f H Q hi ho hf hfl hq
    have hN : (u.items ++ [(4, [])]).length ≤ 500 := hlen
    have hN1 : (u.items ++ [((4 : Int), ([] : List Rg))]).length = u.items.length + 1 := by simp
    refine fn33 ok ⟨⟨by rw [ew]; omega, Int.le_refl _, by rw [ew]; omega⟩, fun n1 h1 => ?_⟩
    have hH1 := Le.new (e := mkEnt (lrep [Value.bool false] (s.size + 1)) 0) h1
    obtain ⟨a1, c1, b1, o1, k1, k2, k3, e1, g1, w1⟩ := ent33 (X := u.items) (op := 4) (L := []) hH1 hi ho (by omega)
    rw [ew, Int.toNat_natCast]
    have eN : (Ptn.star u).items.length = (u.items ++ [((4 : Int), ([] : List Rg))]).length := rfl
    rw [eN]
    refine ⟨fun h0 => ?_, fun _ => ⟨a1, _, c1, k1, ⟨by rw [w1]; omega, by rw [w1]; omega⟩, b1, o1, e1, rfl, 4, by rw [w1]; exact g1 _ (Le.refl _), fun q => absurd q (by decide), fun _ => ⟨fun q => absurd q (by decide), fun _ => ⟨fun q => absurd q (by decide), fun _ => ⟨fun q => absurd q (by decide), fun _ => ?_⟩⟩⟩⟩⟩
    · have := of_decide_eq_true h0; omega
    exact ihu hfit (by omega) k2 k3 (hf.mono hH1) hfl fun r1 a18 c18 H17 l17 br1 er1 => ⟨_, _, _, rfl, l33 ok hs (ihu hfit (by omega)) (k2.mono l17) (k3.mono l17) ((hf.mono hH1).mono l17) hfl br1 er1 w1 ⟨b1, o1, e1, fun H2 h2 => g1 _ (l17.trans h2)⟩ (fun _ r a' c' H' hl => hq r a' c' H' (hH1.trans (l17.trans hl))) (fun z => absurd rfl z)⟩
  | plus u ihu =>
    intro hfit hlen a b c d f H Q hi ho hf hfl hq
    have hN : (u.items ++ [(5, [])]).length ≤ 500 := hlen
    have hN1 : (u.items ++ [((5 : Int), ([] : List Rg))]).length = u.items.length + 1 := by simp
    refine fn33 ok ⟨⟨by rw [ew]; omega, Int.le_refl _, by rw [ew]; omega⟩, fun n1 h1 => ?_⟩
    have hH1 := Le.new (e := mkEnt (lrep [Value.bool false] (s.size + 1)) 0) h1
    obtain ⟨a1, c1, b1, o1, k1, k2, k3, e1, g1, w1⟩ := ent33 (X := u.items) (op := 5) (L := []) hH1 hi ho (by omega)
    rw [ew, Int.toNat_natCast]
    have eN : (Ptn.plus u).items.length = (u.items ++ [((5 : Int), ([] : List Rg))]).length := rfl
    rw [eN]
    refine ⟨fun h0 => ?_, fun _ => ⟨a1, _, c1, k1, ⟨by rw [w1]; omega, by rw [w1]; omega⟩, b1, o1, e1, rfl, 5, by rw [w1]; exact g1 _ (Le.refl _), fun q => absurd q (by decide), fun _ => ⟨fun q => absurd q (by decide), fun _ => ⟨fun q => absurd q (by decide), fun _ => ⟨fun q => absurd q (by decide), fun _ => ?_⟩⟩⟩⟩⟩
    · have := of_decide_eq_true h0; omega
    exact ihu hfit (by omega) k2 k3 (hf.mono hH1) hfl fun r1 a18 c18 H17 l17 br1 er1 => ⟨_, _, _, rfl, l33 ok hs (ihu hfit (by omega)) (k2.mono l17) (k3.mono l17) ((hf.mono hH1).mono l17) hfl br1 er1 w1 ⟨b1, o1, e1, fun H2 h2 => g1 _ (l17.trans h2)⟩ (fun z => absurd z (by decide)) (fun _ r a' c' H' hl => hq r a' c' H' (hH1.trans (l17.trans hl)))⟩
end
end Va
end Go.Proofs.Ytbfemjkknemfeaa
