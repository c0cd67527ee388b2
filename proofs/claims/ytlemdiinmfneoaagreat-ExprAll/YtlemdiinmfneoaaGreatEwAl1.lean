import Derived.Test.YtlemdiinmfneoaaGreatEwKeep
import Derived.Test.YtlemdiinmfneoaaGreatEwVc6
/- Which expressions are light, and which may be: small functions of the law and of the document's answer. -/
set_option linter.unusedVariables false
set_option linter.unusedSimpArgs false
namespace Go.Ew
open Go.Ev Go.Deep Go.Proofs.YtlemdiinmfneoaaGreat.Va

/-- Light: so deep, few arguments, constants not too great. -/
def LiE : Nat → Ex → Prop
  | 0, _ => False
  | d + 1, .mk _ v _ _ args => szV v ≤ 300000 ∧ args.length ≤ 5 ∧ ∀ x ∈ args, LiE d x

theorem may_li : ∀ {d : Nat} {e : Ex}, mayB d e = true → LiE d e
  | 0, e, h => by cases h
  | d + 1, .mk op v occ attr args, h => by
    have hz := mayB_sz h
    simp only [mayB, Bool.and_eq_true, List.all_eq_true] at h
    exact ⟨by have := hz.1; omega, by have := takes_le h.1; omega, fun x hx => may_li (h.2.2 x hx)⟩

theorem li_parts : ∀ {d : Nat} {e : Ex}, LiE d e → pE e ≤ 6 ^ d
  | 0, e, h => by cases h
  | d + 1, .mk op v occ attr args, h => by
    obtain ⟨_, h2, h3⟩ := h
    have hl : ∀ l : List Ex, (∀ x ∈ l, LiE d x) → pEs l ≤ l.length * 6 ^ d := by
      intro l
      induction l with
      | nil => intro _; simp [pEs]
      | cons x l ih =>
        intro hx
        have h1 := li_parts (hx x (by simp))
        have h2 := ih fun y hy => hx y (by simp [hy])
        simp only [pEs, List.length_cons, Nat.add_mul, Nat.one_mul]
        omega
    have h1 := hl args h3
    have h5 : args.length * 6 ^ d ≤ 5 * 6 ^ d := Nat.mul_le_mul_right _ h2
    have h6 : 1 ≤ 6 ^ d := Nat.one_le_pow _ _ (by omega)
    simp only [pE, Nat.pow_succ]
    omega

/-- How many an operation takes, and whether there is one. -/
def argsN (op : Int) : Int := if op = 0 ∨ op = 1 ∨ op = 2 ∨ op = 3 ∨ op = 21 ∨ op = 22 then 0 else if op = 11 ∨ op = 15 then 1 else if op = 12 ∨ op = 16 then 3 else if op = 14 then -1 else 2
def argsB (op : Int) : Bool := decide (0 ≤ op) && decide (op ≤ 22)

theorem takes_args (op : Int) (n : Nat) : takesB op n = (argsB op && ((decide (argsN op < 0) || decide ((n : Int) = argsN op)) && decide ((n : Int) ≤ 4))) := by
  rw [Bool.eq_iff_iff]
  simp only [takesB, argsN, argsB, Bool.and_eq_true, Bool.or_eq_true, decide_eq_true_eq]
  split
  · simp only [decide_eq_true_eq]; omega
  · split
    · simp only [decide_eq_true_eq]; omega
    · split
      · simp only [decide_eq_true_eq]; omega
      · split
        · simp only [decide_eq_true_eq]; omega
        · simp only [Bool.and_eq_true, decide_eq_true_eq]; omega

theorem useT {Q : PQ} {a b : Int} {c d : Bool} {H : KH} (hq : Q (.tuple #[.int .i64 a, .bool c]) H) (e : a = b) (f : c = d) : Q (.tuple #[.int .i64 b, .bool d]) H := e ▸ f ▸ hq

end Go.Ew

namespace Go.Proofs.YtlemdiinmfneoaaGreat
open Go.Ev Go.Ew
namespace Va
section
variable (ok : EnvOk (env Tryz.prog))
include ok

theorem c27 {n : Int} {H : KH} {Q : PQ} (hq : Ans H (badV n) Q) : Does (env Tryz.prog) 27 [.int .i64 n] H Q := fn27 ok (hq _ H (Le.refl _) leaf)
theorem c47 {b : Bool} {H : KH} {Q : PQ} (hq : Ans H (truV b) Q) : Does (env Tryz.prog) 47 [.bool b] H Q := by
  cases b
  · exact fn47 ok ⟨fun h => (by cases h), fun _ => hq _ H (Le.refl _) leaf⟩
  · exact fn47 ok ⟨fun _ => hq _ H (Le.refl _) leaf, fun h => by cases h⟩

theorem c28 {v : V} {cv : List Value} {H : KH} {Q : PQ} (hv : RV H v cv) (h1 : szV v ≤ 60000) (hq : Ans H (smallV v) Q) : Does (env Tryz.prog) 28 [.agg cv.toArray] H Q := by
  have hv' := hv
  obtain ⟨k, i, s, l⟩ := v
  obtain ⟨a, n, c, rfl, rfl, hl, hok⟩ := hv
  refine fn28 ok (c46 ok 60000 _ _ _ _ h1 (by decide) hv' ⟨_, rfl, fun h => ?_, fun h => ?_⟩)
  · have h : ¬ szV (.mk k i s l) ≤ 60 := by have := of_decide_eq_true h; omega
    rw [small_gt h] at hq
    exact c27 ok hq.wrap
  · have h : szV (.mk k i s l) ≤ 60 := by have := of_decide_eq_false h; omega
    rw [small_le h] at hq
    exact hq _ H (Le.refl _) hv'

theorem c26 {op : Int} {H : KH} {Q : PQ} (hq : Q (.tuple #[.int .i64 (argsN op), .bool (argsB op)]) H) : Does (env Tryz.prog) 26 [.int .i64 op] H Q := by
  refine fn26 ok ?_
  unfold vc26
  repeat' (first | apply And.intro | intro _)
  all_goals
    refine useT hq ?_ ?_
    · simp only [decide_eq_true_eq, decide_eq_false_iff_not] at *
      unfold argsN
      repeat' split
      all_goals first | rfl | omega
    · simp only [decide_eq_true_eq, decide_eq_false_iff_not] at *
      rw [Bool.eq_iff_iff]
      simp only [argsB, Bool.and_eq_true, decide_eq_true_eq, Bool.false_eq_true, iff_true, true_iff, iff_false]
      omega

theorem c53 {v : V} {cv : List Value} {H : KH} {Q : PQ} (hv : RV H v cv) (hq : Q (.bool (isZeroV v)) H) : Does (env Tryz.prog) 53 [.agg cv.toArray] H Q := by
  obtain ⟨k, i, s, l⟩ := v
  obtain ⟨a, n, c, rfl, rfl, hl, hok⟩ := hv
  refine fn53 ok ?_
  unfold vc53
  have e0 : (ByteArray.mk #[]) = emp := rfl
  rw [e0]
  repeat' (first | apply And.intro | intro _)
  all_goals exact useB hq (by simp_all [isZeroV])

theorem c54 {n m : Int} {H : KH} {Q : PQ} (hq : Q (.bool (withinB n m)) H) : Does (env Tryz.prog) 54 [.int .i64 n, .int .i64 m] H Q := by
  refine fn54 ok ?_
  unfold vc54
  repeat' (first | apply And.intro | intro _)
  all_goals exact useB hq (by simp_all [withinB] <;> omega)

theorem c48 {l : List V} {a : OA} {c : Nat} {k : Int} {H : KH} {Q : PQ} (hl : RS H l a) (hn : l.length ≤ 1000) (hq : Q (.bool (l.all fun v => decide (kV v = k))) H) : Does (env Tryz.prog) 48 [.slice a l.length c, .int .i64 k] H Q := by
  refine fn48 ok ?_
  unfold vc48 vc48_L1
  refine ⟨fun m a4 n5 n6 x7 x8 H9 => a4 = a ∧ n5 = l.length ∧ x7 = k ∧ H9 = H ∧ ∃ j : Nat, x8 = j ∧ j ≤ l.length ∧ m = l.length - j ∧ (∀ v ∈ l.take j, kV v = k), ⟨l.length, rfl, rfl, rfl, rfl, 0, rfl, by omega, rfl, by simp⟩, ?_⟩
  rintro m a4 n5 n6 x7 x8 H9 ⟨rfl, rfl, rfl, rfl, j, rfl, hj, rfl, hall⟩
  refine ⟨fun hlt => ?_, fun hge => ?_⟩
  · have hlt : j < l.length := by have := of_decide_eq_true hlt; omega
    have hy : l[j]? = some l[j] := by simp [hlt]
    obtain ⟨b, o, ha, cy, hld, hrv⟩ := RS.get hl hy
    have hm : l[j] ∈ l := List.getElem_mem hlt
    have htk : l.take (j + 1) = l.take j ++ [l[j]] := by rw [List.take_add_one]; simp [hlt]
    generalize l[j] = y at *
    obtain ⟨k1, i1, s1, ly⟩ := y
    obtain ⟨ay, ny, cy', rfl, rfl, hsy, hoy⟩ := hrv
    refine ⟨⟨by omega, by omega⟩, b, o, ha, rfl, k1, ?_, fun h => ?_, fun h => ?_⟩
    · have := ld_sub hld 0 1 (by simp)
      simpa using this
    · have h : k1 ≠ x7 := by simpa using h
      refine useB hq ?_
      rw [Bool.eq_false_iff]
      intro hq
      have := List.all_eq_true.1 hq _ hm
      simp [kV, h] at this
    · have h : k1 = x7 := by simpa using h
      refine ⟨l.length - (j + 1), by omega, rfl, rfl, rfl, rfl, j + 1, by rw [wrap64 (by omega) (by omega)]; omega, by omega, rfl, ?_⟩
      rw [htk]
      intro v hv
      rcases List.mem_append.1 hv with hv | hv
      · exact hall v hv
      · simp at hv; subst hv; exact h
  · have hge : j = l.length := by have := of_decide_eq_false hge; omega
    subst hge
    rw [List.take_length] at hall
    refine useB hq ?_
    rw [List.all_eq_true]
    intro v hv
    exact decide_eq_true (hall v hv)

theorem c35 {op occ attr : Int} {v : V} {k i : Int} {s : ByteArray} {av : OA} {nv cv : Nat} {a : OA} {n c : Nat} {H : KH} {Q : PQ} (hv : RV H v [.int .i64 k, .int .i64 i, .string s, .slice av nv cv]) (h1 : szV v ≤ 300000) (hg : rgB v = true) (hq : Q (.bool (holdB op v occ attr)) H) :
    Does (env Tryz.prog) 35 [.agg #[.int .i64 op, .int .i64 k, .int .i64 i, .string s, .slice av nv cv, .int .i64 occ, .int .i64 attr, .slice a n c]] H Q := by
  have hk : kV v = k := by
    obtain ⟨k', i', s', l'⟩ := v
    obtain ⟨_, _, _, e, _⟩ := hv
    simp only [List.cons.injEq, Value.int.injEq] at e
    exact e.1.2.symm
  refine fn35 ok ?_
  unfold vc35
  refine ⟨fun h => c52 ok hv (by omega) ⟨_, rfl, ?_⟩, fun h => ⟨fun h => c53 ok hv ⟨_, rfl, ?_⟩, fun h => ⟨fun h => c53 ok hv ⟨_, rfl, ?_⟩, fun h => ⟨fun h => c53 ok hv ⟨_, rfl, ?_⟩, fun h => c53 ok hv ⟨_, rfl, ?_⟩⟩⟩⟩⟩
  · repeat' (first | apply And.intro | intro _)
    all_goals exact useB hq (by simp_all [holdB])
  · refine ⟨fun hz => c54 ok ⟨_, rfl, fun ho => c54 ok ⟨_, rfl, ?_⟩, fun ho => ?_⟩, fun hz => ?_⟩
    all_goals exact useB hq (by simp_all [holdB])
  · refine ⟨fun hz => c54 ok ⟨_, rfl, fun ho => ?_, fun ho => ?_⟩, fun hz => ?_⟩
    all_goals exact useB hq (by simp_all [holdB])
  · refine ⟨fun hz => c54 ok ⟨_, rfl, fun ho => ?_, fun ho => ?_⟩, fun hz => ?_⟩
    all_goals exact useB hq (by simp_all [holdB])
  · repeat' (first | apply And.intro | intro _)
    all_goals exact useB hq (by simp_all [holdB])

theorem c16 : ∀ (d : Nat) (v : V) (cs : List Value) (H : KH) (Q : PQ), d ≤ 100 → RV H v cs → (∀ b : Bool, (b = true → szV v ≤ lightN d) → Q (.bool b) H) → Does (env Tryz.prog) 16 [.agg cs.toArray, .int .i64 d] H Q := by
  intro d
  induction d with
  | zero =>
    intro v cs H Q hd hr hq
    obtain ⟨k, i, s, l⟩ := v
    obtain ⟨a, n, c, rfl, rfl, hl, hok⟩ := hr
    exact fn16 ok ⟨fun _ => hq false (by simp), fun h => by simp at h⟩
  | succ d ih =>
    intro v cs H Q hd hr hq
    obtain ⟨k, i, s, l⟩ := v
    obtain ⟨a, n, c, rfl, rfl, hl, hok⟩ := hr
    have no : Q (.bool false) H := hq false (by simp)
    refine fn16 ok ⟨fun _ => no, fun _ => ⟨fun _ => no, fun h1 => ⟨fun _ => no, fun h2 => ?_⟩⟩⟩
    have h1 : l.length ≤ 12 := by have := of_decide_eq_false h1; omega
    have h2 : s.size ≤ 2000 := by have := of_decide_eq_false h2; omega
    unfold vc16_L1
    refine ⟨fun m x4 x5 x6 s7 a8 n9 n10 x11 H12 => x4 = ((d + 1 : Nat) : Int) ∧ a8 = a ∧ n9 = l.length ∧ H12 = H ∧ ∃ j : Nat, x11 = j ∧ j ≤ l.length ∧ m = l.length - j ∧ szTo l j ≤ j * lightN d, ⟨l.length, rfl, rfl, rfl, rfl, 0, rfl, by omega, rfl, by simp [szTo, szL]⟩, ?_⟩
    rintro m x4 x5 x6 s7 a8 n9 n10 x11 H12 ⟨rfl, rfl, rfl, rfl, j, rfl, hj, rfl, g1⟩
    refine ⟨fun hlt => ?_, fun hge => ?_⟩
    · have hlt : j < l.length := by have := of_decide_eq_true hlt; omega
      have t1 : Int.toNat (j : Int) = j := by omega
      have hw : IntKind.wrap .i64 (((d + 1 : Nat) : Int) - 1) = (d : Int) := by rw [wrap64 (by omega) (by omega)]; omega
      rw [t1, hw]
      obtain ⟨b, o, e1, k1, i1, s1, a1, m1, c1, l1, r1⟩ := elem hl hlt
      have hx : l[j]? = some l[j] := by simp [hlt]
      have hto1 := szTo_succ l j _ hx
      refine ⟨⟨by omega, by omega⟩, b, o, e1, k1, i1, s1, a1, m1, c1, l1, ih _ _ _ _ (by omega) r1 fun bb hbb => ⟨_, rfl, fun _ => no, fun hb => ?_⟩⟩
      have q1 := hbb (by simpa using hb)
      exact ⟨l.length - (j + 1), by omega, rfl, rfl, rfl, rfl, j + 1, by rw [wrap64 (by omega) (by omega)]; omega, by omega, rfl, by rw [hto1, Nat.add_mul]; omega⟩
    · have hge : l.length ≤ j := by have := of_decide_eq_false hge; omega
      have hjl : j = l.length := by omega
      subst hjl
      rw [szTo_all] at g1
      refine hq true fun _ => ?_
      have : l.length * lightN d ≤ 12 * lightN d := Nat.mul_le_mul_right _ h1
      simp only [szV, lightN]
      omega

theorem c5 : ∀ (d : Nat) (e : Ex) (ce : List Value) (H : KH) (Q : PQ), d ≤ 100 → RE H e ce → (∀ b : Bool, (b = true → LiE d e) → Q (.bool b) H) → Does (env Tryz.prog) 5 [.agg ce.toArray, .int .i64 d] H Q := by
  intro d
  induction d with
  | zero =>
    rintro ⟨op, v, occ, attr, args⟩ ce H Q hd hr hq
    obtain ⟨k, i, s, av, nv, cv, aa, ca, rfl, hrv, hres⟩ := hr
    exact fn5 ok ⟨fun _ => hq false (by simp), fun h => by simp at h⟩
  | succ d ih =>
    rintro ⟨op, v, occ, attr, args⟩ ce H Q hd hr hq
    obtain ⟨k, i, s, av, nv, cv, aa, ca, rfl, hrv, hres⟩ := hr
    have no : Q (.bool false) H := hq false (by simp)
    refine fn5 ok ⟨fun _ => no, fun _ => ⟨fun _ => no, fun h1 => c16 ok 4 _ _ _ _ (by omega) hrv fun b hb => ⟨_, rfl, fun _ => no, fun h2 => ?_⟩⟩⟩
    have h1 : args.length ≤ 5 := by have := of_decide_eq_false h1; omega
    have h2 : szV v ≤ 300000 := by have := hb (by simpa using h2); have e : lightN 4 = 237510 := by decide
                                   omega
    unfold vc5_L1
    refine ⟨fun m x4 x5 x6 x7 s8 a9 n10 n11 x12 x13 a14 n15 n16 x17 H18 => x4 = ((d + 1 : Nat) : Int) ∧ a14 = aa ∧ n15 = args.length ∧ H18 = H ∧ ∃ j : Nat, x17 = j ∧ j ≤ args.length ∧ m = args.length - j ∧ ∀ x ∈ args.take j, LiE d x, ⟨args.length, rfl, rfl, rfl, rfl, 0, rfl, by omega, rfl, by simp⟩, ?_⟩
    rintro m x4 x5 x6 x7 s8 a9 n10 n11 x12 x13 a14 n15 n16 x17 H18 ⟨rfl, rfl, rfl, rfl, j, rfl, hj, rfl, g1⟩
    refine ⟨fun hlt => ?_, fun hge => ?_⟩
    · have hlt : j < args.length := by have := of_decide_eq_true hlt; omega
      have hw : IntKind.wrap .i64 (((d + 1 : Nat) : Int) - 1) = (d : Int) := by rw [wrap64 (by omega) (by omega)]; omega
      have hy : args[j]? = some args[j] := by simp [hlt]
      obtain ⟨b1, o1, ha, ce, hld, hre⟩ := RES.get hres hy
      have htk : args.take (j + 1) = args.take j ++ [args[j]] := by rw [List.take_add_one]; simp [hlt]
      generalize args[j] = ej at *
      have hre' := hre
      obtain ⟨op0, v0, occ0, at0, as0⟩ := ej
      obtain ⟨k0, i0, t0, av0, nv0, cv0, aa0, ca0, rfl, _, _⟩ := hre
      rw [hw]
      refine ⟨⟨by omega, by omega⟩, b1, o1, ha, _, _, _, _, _, _, _, _, _, _, _, _, by simpa using hld, ih _ _ _ _ (by omega) hre' fun bb hbb => ⟨_, rfl, fun _ => no, fun hb2 => ?_⟩⟩
      have q1 := hbb (by simpa using hb2)
      refine ⟨args.length - (j + 1), by omega, rfl, rfl, rfl, rfl, j + 1, by rw [wrap64 (by omega) (by omega)]; omega, by omega, rfl, ?_⟩
      rw [htk]
      intro x hx
      rcases List.mem_append.1 hx with hx | hx
      · exact g1 x hx
      · simp at hx; subst hx; exact q1
    · have hge : j = args.length := by have := of_decide_eq_false hge; omega
      subst hge
      rw [List.take_length] at g1
      exact hq true fun _ => ⟨h2, h1, g1⟩
end
end Va
end Go.Proofs.YtlemdiinmfneoaaGreat

/- Which expressions may be, in both ways; what they refer to, in both ways. -/
set_option linter.unusedVariables false
set_option linter.unusedSimpArgs false
namespace Go.Ew
open Go.Ev Go.Deep Go.Proofs.YtlemdiinmfneoaaGreat.Va

mutual
/-- Its constants are not too great, and of numbers that are an int64's. -/
def Lg : Ex → Prop
  | .mk _ v _ _ args => szV v ≤ 300000 ∧ rgB v = true ∧ Lgs args
def Lgs : List Ex → Prop
  | [] => True
  | e :: l => Lg e ∧ Lgs l
end

theorem Lgs.get : ∀ {l : List Ex} {e : Ex}, Lgs l → e ∈ l → Lg e
  | x :: l, e, ⟨h1, h2⟩, h => by
    rcases List.mem_cons.1 h with rfl | h
    · exact h1
    · exact Lgs.get h2 h

theorem Lgs.of : ∀ {l : List Ex}, (∀ e ∈ l, Lg e) → Lgs l
  | [], _ => trivial
  | e :: l, h => ⟨h e (by simp), Lgs.of fun x hx => h x (by simp [hx])⟩

mutual
/-- Its numbers are an int64's. -/
def RgE : Ex → Prop
  | .mk _ v _ _ args => rgB v = true ∧ RgEs args
def RgEs : List Ex → Prop
  | [] => True
  | e :: l => RgE e ∧ RgEs l
end

theorem RgEs.get : ∀ {l : List Ex} {e : Ex}, RgEs l → e ∈ l → RgE e
  | x :: l, e, ⟨h1, h2⟩, h => by
    rcases List.mem_cons.1 h with rfl | h
    · exact h1
    · exact RgEs.get h2 h

theorem li_lg : ∀ {d : Nat} {e : Ex}, LiE d e → RgE e → Lg e
  | 0, e, h, _ => by cases h
  | d + 1, .mk op v occ attr args, h, g => ⟨h.1, g.1, Lgs.of fun e he => li_lg (h.2.2 e he) (g.2.get he)⟩

theorem zero_rg {v : V} (h : isZeroV v = true) : rgB v = true := by
  obtain ⟨k, i, s, l⟩ := v
  simp only [isZeroV, Bool.and_eq_true, decide_eq_true_eq] at h
  have hl0 : l = [] := List.eq_nil_of_length_eq_zero h.2.2.2
  subst hl0
  rw [h.2.1]
  exact rg_mk (by decide) (by decide) (by simp)

theorem hold_rg {op occ attr : Int} {v : V} (h : holdB op v occ attr = true) : rgB v = true := by
  unfold holdB at h
  split at h
  · simp only [Bool.and_eq_true] at h; exact h.1.2
  · split at h
    · simp only [Bool.and_eq_true] at h; exact zero_rg h.1
    · split at h
      · simp only [Bool.and_eq_true] at h; exact zero_rg h.1
      · simp only [Bool.and_eq_true] at h; exact zero_rg h.1

theorem may_lg : ∀ {d : Nat} {e : Ex}, mayB d e = true → Lg e
  | 0, e, h => by cases h
  | d + 1, .mk op v occ attr args, h => by
    have hz := mayB_sz h
    simp only [mayB, Bool.and_eq_true, List.all_eq_true] at h
    exact ⟨by have := hz.1; omega, hold_rg h.2.1, Lgs.of fun e he => may_lg (h.2.2 e he)⟩

mutual
/-- What the reference says that it refers to. -/
def refsR : Ex → List (Int × Int)
  | .mk op _ occ attr args => if op = 1 then [(occ, attr)] else refsRs args
def refsRs : List Ex → List (Int × Int)
  | [] => []
  | e :: l => refsR e ++ refsRs l
end

theorem refsR_take : ∀ (l : List Ex) (j : Nat) (e : Ex), l[j]? = some e → refsRs (l.take (j + 1)) = refsRs (l.take j) ++ refsR e
  | [], j, e, h => by simp at h
  | x :: l, 0, e, h => by simp at h; subst h; simp [refsRs]
  | x :: l, j + 1, e, h => by
    have := refsR_take l j e (by simpa using h)
    simp only [List.take_succ_cons, refsRs, this, List.append_assoc]

mutual
theorem refsR_le : ∀ e : Ex, (refsR e).length ≤ pE e
  | .mk op v occ attr args => by
    have := refsR_les args
    simp only [refsR, pE]
    split
    · simp
    · omega
theorem refsR_les : ∀ l : List Ex, (refsRs l).length ≤ pEs l
  | [] => by simp [refsRs]
  | e :: l => by
    have h1 := refsR_le e
    have h2 := refsR_les l
    simp only [refsRs, pEs, List.length_append]
    omega
end

theorem may_same : ∀ {d : Nat} {e : Ex}, mayB d e = true → refsR e = refsE e
  | 0, e, h => by cases h
  | d + 1, .mk op v occ attr args, h => by
    simp only [mayB, Bool.and_eq_true, List.all_eq_true] at h
    have hl : ∀ l : List Ex, (∀ x ∈ l, mayB d x = true) → refsRs l = refsEs l := by
      intro l
      induction l with
      | nil => intro _; rfl
      | cons x l ih => intro hx; simp only [refsRs, refsEs, may_same (hx x (by simp)), ih fun y hy => hx y (by simp [hy])]
    have h1 := hl args h.2.2
    simp only [refsR, refsE]
    split
    · rename_i h1
      have h0 := h.1
      subst h1
      have : args = [] := by
        simp [takesB] at h0
        exact h0
      subst this
      simp [refsEs]
    · simp [h1]

theorem pairC_len : ∀ l : List (Int × Int), (pairC l).length = l.length * 2
  | [] => rfl
  | p :: l => by
    have := pairC_len l
    simp only [pairC, List.flatMap_cons, List.length_append, List.length_cons, List.length_nil] at this ⊢
    omega

theorem addL_mono {X X' : KH} (h : Le X X') : ∀ {F : List (Nat × Ent)}, Le (addL X F) (addL X' F)
  | [] => h
  | (b, e) :: F => fun k e' q => by
    have ih := addL_mono h (F := F)
    simp only [addL, KH.new] at q ⊢
    split
    · rename_i hk; rw [if_pos hk] at q; exact q
    · rename_i hk; rw [if_neg hk] at q; exact ih k e' q

end Go.Ew

namespace Go.Proofs.YtlemdiinmfneoaaGreat
open Go.Ev Go.Ew
namespace Va
section
variable (ok : EnvOk (env Tryz.prog))
include ok
theorem c20l : ∀ (d : Nat) (e : Ex) (ce : List Value) (H : KH) (Q : PQ) (most deep : Int), RE H e ce → LiE d e → (d : Int) ≤ deep → deep ≤ 100000 → (pE e : Int) < most → most ≤ 4294967296 → Q (.int .i64 (pE e : Nat)) H → Does (env Tryz.prog) 20 [.agg ce.toArray, .int .i64 most, .int .i64 deep] H Q
  | 0, e, ce, H, Q, most, deep, hr, hm, _, _, _, _, _ => by cases hm
  | d + 1, .mk op v occ attr args, ce, H, Q, most, deep, hr, hm, hd1, hd2, hp, hm2, hq => by
    obtain ⟨k, i, s, av, nv, cv, aa, ca, rfl, hrv, hres⟩ := hr
    have hargs := hm.2.2
    simp only [pE] at hp hq
    refine fn20 ok ⟨fun h => ?_, fun _ => ?_⟩
    · have := of_decide_eq_true h; omega
    unfold vc20_L2
    have hlen : args.length ≤ pEs args := by
      clear hq hp hres hargs hm
      induction args with
      | nil => simp
      | cons x l ih => obtain ⟨o, v', c', a', as'⟩ := x; simp only [List.length_cons, pEs, pE]; omega
    refine ⟨fun m x4 x5 x6 a7 n8 n9 x10 x11 H12 => x4 = most ∧ x5 = deep ∧ a7 = aa ∧ n8 = args.length ∧ x10 = (args.length : Nat) ∧ H12 = H ∧ ∃ j : Nat, x11 = j ∧ j ≤ args.length ∧ m = args.length - j ∧ x6 = ((1 + pEs (args.take j) : Nat) : Int),
      ⟨args.length, rfl, rfl, rfl, rfl, rfl, rfl, 0, rfl, by omega, rfl, by simp [pEs]⟩, ?_⟩
    rintro m x4 x5 x6 a7 n8 n9 x10 x11 H12 ⟨rfl, rfl, rfl, rfl, rfl, rfl, j, rfl, hj, rfl, rfl⟩
    have hto := pEs_le args j
    refine ⟨fun hlt => ?_, fun hge => ?_⟩
    · have hlt : j < args.length := by have := of_decide_eq_true hlt; omega
      have hy : args[j]? = some args[j] := by simp [hlt]
      obtain ⟨b1, o1, ha, ce, hld, hre⟩ := RES.get hres hy
      have hmj := hargs _ (List.getElem_mem hlt)
      have hs1 := pEs_take args j _ hy
      have hs2 := pEs_le args (j + 1)
      have ihj := c20l d args[j] ce H12
      generalize args[j] = ej at *
      have hre' := hre
      obtain ⟨op0, v0, occ0, at0, as0⟩ := ej
      obtain ⟨k0, i0, t0, av0, nv0, cv0, aa0, ca0, rfl, _, _⟩ := hre
      refine ⟨⟨by omega, by omega⟩, b1, o1, ha, _, _, _, _, _, _, _, _, _, _, _, _, by simpa using hld, fun h => ?_, fun _ => ?_⟩
      · have := of_decide_eq_true h; omega
      · rw [wrap64 (by omega) (by omega), wrap64 (by omega) (by omega)]
        refine ihj _ _ _ hre' hmj (by omega) (by omega) (by omega) (by omega) ⟨_, rfl, args.length - (j + 1), by omega, rfl, rfl, rfl, rfl, rfl, rfl, j + 1, ?_, by omega, rfl, ?_⟩
        · rw [wrap64 (by omega) (by omega)]; omega
        · rw [wrap64 (by omega) (by omega), hs1]; omega
    · have hge : j = args.length := by have := of_decide_eq_false hge; omega
      subst hge
      rw [List.take_length]
      have : min (((1 + pEs args : Nat) : Int)) x4 = ((1 + pEs args : Nat) : Int) := by omega
      rw [this]
      exact hq

theorem c21l : ∀ (d : Nat) (e : Ex) (ce : List Value) (X H : KH) (F : List (Nat × Ent)) (a : OA) (n c : Nat) (cs : List Value) (Q : PQ), RE X e ce → LiE d e → OwnQ 2 a n c cs F → frL X F → Le (addL X F) H → n + (refsE e).length ≤ 100000 →
    (∀ a' c' F' H', OwnQ 2 a' (n + (refsE e).length) c' (cs ++ pairC (refsE e)) F' → frL X F' → Le (addL X F') H' → Q (.slice a' (n + (refsE e).length) c') H') → Does (env Tryz.prog) 21 [.slice a n c, .agg ce.toArray] H Q
  | 0, e, ce, X, H, F, a, n, c, cs, Q, hr, hm, _, _, _, _, _ => by cases hm
  | d + 1, .mk op v occ attr args, ce, X, H, F, a, n, c, cs, Q, hr, hm, hown, hfr, hle, hn, hq => by
    obtain ⟨k, i, s, av, nv, cv, aa, ca, rfl, hrv, hres⟩ := hr
    have h4 : args.length ≤ 1000 := by have := hm.2.1; omega
    have ih := fun (e : Ex) (ce : List Value) (H : KH) (F : List (Nat × Ent)) (a : OA) (n c : Nat) (cs : List Value) (Q : PQ) (he : e ∈ args) (hr : RE X e ce) => c21l d e ce X H F a n c cs Q hr (hm.2.2 e he)
    refine fn21 ok ⟨fun h1 n1 hn1 n2 hn2 => ?_, fun h1 => ?_⟩
    · have h1 : op = 1 := by simpa using h1
      have e1 : refsE (.mk op v occ attr args) = (occ, attr) :: refsEs args := by simp [refsE, h1]
      rw [e1] at hn hq
      simp only [List.length_cons] at hn hq
      have hk : kold (H.new n1 (mkEnt [.int .i64 occ, .int .i64 attr] 0)) PT.size (some ⟨n1, 0, none⟩) 1 = some [.int .i64 occ, .int .i64 attr] := lit_kold (if_pos rfl) rfl
      obtain ⟨a', c', H', F', g1, g2, g3, g4⟩ := OwnQ.append (ti := PT) (m := 1) (nm := n2) (new := [.int .i64 occ, .int .i64 attr]) (F := F) (G := []) hown (by simpa using hfr) (by simpa using hle.trans (Le.new hn1)) hn2 rfl (by omega) (by decide) (by decide) (by decide)
      rw [List.append_nil] at g3 g4
      refine ⟨1, _, knew_of hk, a', _, c', H', g1, l24 (d := d) ih hres h4 g2 g3 g4 (by omega) fun a2 c2 F2 H2 r1 r2 r3 => ?_⟩
      have e2 : n + 1 + (refsEs args).length = n + ((refsEs args).length + 1) := by omega
      have e3 : cs ++ [.int .i64 occ, .int .i64 attr] ++ pairC (refsEs args) = cs ++ pairC ((occ, attr) :: refsEs args) := by simp [pairC]
      rw [e2, e3] at r1
      rw [e2]
      exact hq a2 c2 F2 H2 r1 r2 r3
    · have h1 : ¬ op = 1 := by simpa using h1
      have e1 : refsE (.mk op v occ attr args) = refsEs args := by simp [refsE, h1]
      rw [e1] at hn hq
      exact l24 (d := d) ih hres h4 hown hfr hle hn hq

theorem c9l {d : Nat} {e : Ex} {ce : List Value} {H : KH} {Q : PQ} (hr : RE H e ce) (hm : LiE d e) (hd : d ≤ 6)
    (hq : ∀ a' c' F' H', OwnQ 2 a' (refsE e).length c' (pairC (refsE e)) F' → frL H F' → Le (addL H F') H' → Q (.slice a' (refsE e).length c') H') : Does (env Tryz.prog) 9 [.agg ce.toArray] H Q := by
  have hr' := hr
  have hp := li_parts hm
  have hp2 : 6 ^ d ≤ 6 ^ 6 := Nat.pow_le_pow_right (by decide) hd
  have h58 : 6 ^ 6 = 46656 := by decide
  have hl := refs_le e
  have go := c21l ok d e ce H H [] none 0 0 []
  generalize hev : e = e' at *
  obtain ⟨op, v, occ, attr, args⟩ := e
  rw [← hev] at hr
  obtain ⟨k, i, s, av, nv, cv, aa, ca, rfl, hrv, hres⟩ := hr
  refine fn9 ok (c20l ok d e' _ H _ _ _ hr' hm (by omega) (by omega) (by omega) (by omega) ⟨_, rfl, fun h => ?_, fun _ => go _ hr' hm .nil trivial (Le.refl _) (by omega) fun a' c' F' H' g1 g2 g3 => ?_⟩)
  · have := of_decide_eq_true h; omega
  · rw [Nat.zero_add] at g1 ⊢
    exact ⟨a', _, c', rfl, hq a' c' F' H' (by simpa using g1) g2 g3⟩

theorem c10 : ∀ (d : Nat) (e : Ex) (ce : List Value) (X : KH) (Q : PQ), d ≤ 6 → RE X e ce → LiE d e →
    (∀ a' c' F' H', OwnQ 2 a' (refsR e).length c' (pairC (refsR e)) F' → frL X F' → Le (addL X F') H' → Q (.slice a' (refsR e).length c') H') → Does (env Tryz.prog) 10 [.agg ce.toArray] X Q
  | 0, e, ce, X, Q, _, hr, hm, _ => by cases hm
  | d + 1, .mk op v occ attr args, ce, X, Q, hd, hr, hm, hq => by
    obtain ⟨k, i, s, av, nv, cv, aa, ca, rfl, hrv, hres⟩ := hr
    have hp := li_parts hm
    have hp2 : 6 ^ (d + 1) ≤ 6 ^ 6 := Nat.pow_le_pow_right (by decide) hd
    have h58 : 6 ^ 6 = 46656 := by decide
    simp only [pE] at hp
    have h5 := hm.2.1
    refine fn10 ok ⟨fun h1 n1 hn1 => ?_, fun h1 => ?_⟩
    · have h1 : op = 1 := by simpa using h1
      have e1 : refsR (.mk op v occ attr args) = [(occ, attr)] := by simp [refsR, h1]
      rw [e1] at hq
      refine hq _ _ [(n1, mkEnt [.int .i64 occ, .int .i64 attr] 0)] _ ⟨by simp, .lit n1 1 _ (if_pos rfl) rfl (by decide) rfl⟩ ⟨hn1, trivial⟩ ?_
      exact Le.refl _
    · have h1 : ¬ op = 1 := by simpa using h1
      have e1 : refsR (.mk op v occ attr args) = refsRs args := by simp [refsR, h1]
      rw [e1] at hq
      unfold vc10_L1
      refine ⟨fun m x4 x5 x6 s7 a8 n9 n10 x11 x12 a13 n14 n15 a16 n17 n18 x19 H20 => a13 = aa ∧ n14 = args.length ∧ ∃ (j : Nat) (F1 : List (Nat × Ent)), x19 = j ∧ j ≤ args.length ∧ m = args.length - j ∧ n17 = (refsRs (args.take j)).length ∧ OwnQ 2 a16 n17 n18 (pairC (refsRs (args.take j))) F1 ∧ frL X F1 ∧ Le (addL X F1) H20,
        ⟨args.length, rfl, rfl, 0, [], rfl, by omega, rfl, by simp [refsRs], by simpa [refsRs, pairC] using OwnQ.nil, trivial, Le.refl _⟩, ?_⟩
      rintro m x4 x5 x6 s7 a8 n9 n10 x11 x12 a13 n14 n15 a16 n17 n18 x19 H20 ⟨rfl, rfl, j, F1, rfl, hj, rfl, rfl, hown, hfr, hle⟩
      refine ⟨fun hlt => ?_, fun hge => ?_⟩
      · have hlt : j < args.length := by have := of_decide_eq_true hlt; omega
        have hy : args[j]? = some args[j] := by simp [hlt]
        obtain ⟨b1, o1, ha, ce, hld, hre⟩ := RES.get hres hy
        have hs := refsR_take args j _ hy
        have hb1 := refsR_les (args.take (j + 1))
        have hb2 := pEs_le args (j + 1)
        rw [hs, List.length_append] at hb1
        have hmj := hm.2.2 _ (List.getElem_mem hlt)
        have ihj := c10 d args[j] ce X
        generalize args[j] = ej at *
        have hre' := hre
        obtain ⟨op0, v0, occ0, at0, as0⟩ := ej
        obtain ⟨k0, i0, t0, av0, nv0, cv0, aa0, ca0, rfl, _, _⟩ := hre
        refine ⟨⟨by omega, by omega⟩, b1, o1, ha, _, _, _, _, _, _, _, _, _, _, _, _, by simpa using hle.ld ((addL_le hfr).ld hld), Does.keep hfr hle (ihj _ (by omega) hre' hmj fun a' c' F' X' g1 g2 g3 hfr' H' hl' => ⟨a', _, c', rfl, fun nm hnm => ?_⟩)⟩
        have hX : Le X X' := (addL_le g2).trans g3
        have hcell := (g1.here (H := H') fun x hx => hl' _ _ (addL_le hfr' _ _ (g3 _ _ (addL_mem g2 hx)))).cells
        obtain ⟨a2, c2, H2, F2, r1, r2, r3, r4⟩ := OwnQ.append (ti := PT) (m := (refsR (.mk op0 v0 occ0 at0 as0)).length) (nm := nm) (new := pairC (refsR (.mk op0 v0 occ0 at0 as0))) (F := F1) (G := []) hown (by simpa using hfr) (by simpa using (addL_mono hX).trans hl') hnm (pairC_len _) (by omega) (by decide) (by decide) (by decide)
        rw [List.append_nil] at r3 r4
        refine ⟨_, _, knew_of hcell, a2, _, c2, H2, r1, args.length - (j + 1), by omega, rfl, rfl, j + 1, F2, by rw [wrap64 (by omega) (by omega)]; omega, by omega, rfl, ?_, ?_, r3, r4⟩
        · rw [hs, List.length_append]
        · rw [hs, pairC_app]; exact r2
      · have hge : j = args.length := by have := of_decide_eq_false hge; omega
        subst hge
        rw [List.take_length] at hown ⊢
        exact hq _ _ F1 H20 hown hfr hle

end
end Va
end Go.Proofs.YtlemdiinmfneoaaGreat

/- Which expressions may be, in both ways; what they refer to, in both ways. -/
set_option linter.unusedVariables false
set_option linter.unusedSimpArgs false
namespace Go.Proofs.YtlemdiinmfneoaaGreat
open Go.Ev Go.Ew
namespace Va
section
variable (ok : EnvOk (env Tryz.prog))
include ok

/-- The end of the reference's may. -/
theorem may_end {op occ attr : Int} {v : V} {k i : Int} {s : ByteArray} {av : OA} {nv cv : Nat} {H : KH} {Q : PQ} (hv : RV H v [.int .i64 k, .int .i64 i, .string s, .slice av nv cv]) (h1 : szV v ≤ 300000) (hg : rgB v = true) (hq : Q (.bool (holdB op v occ attr)) H) :
    ((((((decide ((k : Int) = 0)) : Bool) = true) → (((((decide ((i : Int) = 0)) : Bool) = true) → (((((strEq s (ByteArray.mk #[])) : Bool) = true) → (((((decide ((op : Int) = 0)) : Bool) = true) → Does (env Tryz.prog) 36 [(Value.agg #[(Value.int .i64 k), (Value.int .i64 i), (Value.string s), (Value.slice av nv cv)])] H fun v1z H2z => (∃ b3z : Bool, (((v1z : Value) = (Value.bool b3z)) ∧ ((((b3z : Bool) = true) → (vc23_J1 op k occ attr Q H2z)) ∧ (((b3z : Bool) = false) → (((((decide ((op : Int) = 1)) : Bool) = true) → (Q (Value.bool false) H2z)) ∧ ((((decide ((op : Int) = 1)) : Bool) = false) → (((((decide ((op : Int) = 2)) : Bool) = true) → (Q (Value.bool false) H2z)) ∧ ((((decide ((op : Int) = 2)) : Bool) = false) → (Q (Value.bool false) H2z)))))))))) ∧ ((((decide ((op : Int) = 0)) : Bool) = false) → ((((((decide ((op : Int) = 1)) : Bool) = true) → (((((decide ((((nv : Nat) : Int) : Int) = 0)) : Bool) = true) → (((((decide ((0 : Int) ≤ occ)) : Bool) = true) → (((((decide ((occ : Int) ≤ 5)) : Bool) = true) → (((((decide ((0 : Int) ≤ attr)) : Bool) = true) → (((((decide ((attr : Int) < 8)) : Bool) = true) → (((((decide ((op : Int) = 1)) : Bool) = true) → (Q (Value.bool true) H)) ∧ ((((decide ((op : Int) = 1)) : Bool) = false) → (Q (Value.bool (decide ((attr : Int) = 0))) H)))) ∧ ((((decide ((attr : Int) < 8)) : Bool) = false) → (Q (Value.bool false) H)))) ∧ ((((decide ((0 : Int) ≤ attr)) : Bool) = false) → (Q (Value.bool false) H)))) ∧ ((((decide ((occ : Int) ≤ 5)) : Bool) = false) → (Q (Value.bool false) H)))) ∧ ((((decide ((0 : Int) ≤ occ)) : Bool) = false) → (Q (Value.bool false) H)))) ∧ ((((decide ((((nv : Nat) : Int) : Int) = 0)) : Bool) = false) → (Q (Value.bool false) H)))) ∧ ((((decide ((op : Int) = 1)) : Bool) = false) → (((((decide ((op : Int) = 2)) : Bool) = true) → (((((decide ((((nv : Nat) : Int) : Int) = 0)) : Bool) = true) → (((((decide ((0 : Int) ≤ occ)) : Bool) = true) → (((((decide ((occ : Int) ≤ 5)) : Bool) = true) → (((((decide ((0 : Int) ≤ attr)) : Bool) = true) → (((((decide ((attr : Int) < 8)) : Bool) = true) → (((((decide ((op : Int) = 1)) : Bool) = true) → (Q (Value.bool true) H)) ∧ ((((decide ((op : Int) = 1)) : Bool) = false) → (Q (Value.bool (decide ((attr : Int) = 0))) H)))) ∧ ((((decide ((attr : Int) < 8)) : Bool) = false) → (Q (Value.bool false) H)))) ∧ ((((decide ((0 : Int) ≤ attr)) : Bool) = false) → (Q (Value.bool false) H)))) ∧ ((((decide ((occ : Int) ≤ 5)) : Bool) = false) → (Q (Value.bool false) H)))) ∧ ((((decide ((0 : Int) ≤ occ)) : Bool) = false) → (Q (Value.bool false) H)))) ∧ ((((decide ((((nv : Nat) : Int) : Int) = 0)) : Bool) = false) → (Q (Value.bool false) H)))) ∧ ((((decide ((op : Int) = 2)) : Bool) = false) → (((((decide ((((nv : Nat) : Int) : Int) = 0)) : Bool) = true) → (((((decide ((0 : Int) ≤ occ)) : Bool) = true) → (((((decide ((occ : Int) ≤ 5)) : Bool) = true) → (((((decide ((op : Int) = 3)) : Bool) = true) → (((((decide ((0 : Int) ≤ attr)) : Bool) = true) → (((((decide ((attr : Int) < 8)) : Bool) = true) → (((((decide ((op : Int) = 1)) : Bool) = true) → (Q (Value.bool true) H)) ∧ ((((decide ((op : Int) = 1)) : Bool) = false) → (Q (Value.bool (decide ((attr : Int) = 0))) H)))) ∧ ((((decide ((attr : Int) < 8)) : Bool) = false) → (Q (Value.bool false) H)))) ∧ ((((decide ((0 : Int) ≤ attr)) : Bool) = false) → (Q (Value.bool false) H)))) ∧ ((((decide ((op : Int) = 3)) : Bool) = false) → (((((decide ((occ : Int) = 0)) : Bool) = true) → (((((decide ((0 : Int) ≤ attr)) : Bool) = true) → (((((decide ((attr : Int) < 8)) : Bool) = true) → (((((decide ((op : Int) = 1)) : Bool) = true) → (Q (Value.bool true) H)) ∧ ((((decide ((op : Int) = 1)) : Bool) = false) → (Q (Value.bool (decide ((attr : Int) = 0))) H)))) ∧ ((((decide ((attr : Int) < 8)) : Bool) = false) → (Q (Value.bool false) H)))) ∧ ((((decide ((0 : Int) ≤ attr)) : Bool) = false) → (Q (Value.bool false) H)))) ∧ ((((decide ((occ : Int) = 0)) : Bool) = false) → (Q (Value.bool false) H)))))) ∧ ((((decide ((occ : Int) ≤ 5)) : Bool) = false) → (Q (Value.bool false) H)))) ∧ ((((decide ((0 : Int) ≤ occ)) : Bool) = false) → (Q (Value.bool false) H)))) ∧ ((((decide ((((nv : Nat) : Int) : Int) = 0)) : Bool) = false) → (Q (Value.bool false) H))))))))))) ∧ ((((strEq s (ByteArray.mk #[])) : Bool) = false) → (((((decide ((op : Int) = 0)) : Bool) = true) → Does (env Tryz.prog) 36 [(Value.agg #[(Value.int .i64 k), (Value.int .i64 i), (Value.string s), (Value.slice av nv cv)])] H fun v4z H5z => (∃ b6z : Bool, (((v4z : Value) = (Value.bool b6z)) ∧ ((((b6z : Bool) = true) → (vc23_J1 op k occ attr Q H5z)) ∧ (((b6z : Bool) = false) → (((((decide ((op : Int) = 1)) : Bool) = true) → (Q (Value.bool false) H5z)) ∧ ((((decide ((op : Int) = 1)) : Bool) = false) → (((((decide ((op : Int) = 2)) : Bool) = true) → (Q (Value.bool false) H5z)) ∧ ((((decide ((op : Int) = 2)) : Bool) = false) → (Q (Value.bool false) H5z)))))))))) ∧ ((((decide ((op : Int) = 0)) : Bool) = false) → (((((decide ((op : Int) = 1)) : Bool) = true) → (Q (Value.bool false) H)) ∧ ((((decide ((op : Int) = 1)) : Bool) = false) → (((((decide ((op : Int) = 2)) : Bool) = true) → (Q (Value.bool false) H)) ∧ ((((decide ((op : Int) = 2)) : Bool) = false) → (Q (Value.bool false) H)))))))))) ∧ ((((decide ((i : Int) = 0)) : Bool) = false) → (((((decide ((op : Int) = 0)) : Bool) = true) → Does (env Tryz.prog) 36 [(Value.agg #[(Value.int .i64 k), (Value.int .i64 i), (Value.string s), (Value.slice av nv cv)])] H fun v7z H8z => (∃ b9z : Bool, (((v7z : Value) = (Value.bool b9z)) ∧ ((((b9z : Bool) = true) → (vc23_J1 op k occ attr Q H8z)) ∧ (((b9z : Bool) = false) → (((((decide ((op : Int) = 1)) : Bool) = true) → (Q (Value.bool false) H8z)) ∧ ((((decide ((op : Int) = 1)) : Bool) = false) → (((((decide ((op : Int) = 2)) : Bool) = true) → (Q (Value.bool false) H8z)) ∧ ((((decide ((op : Int) = 2)) : Bool) = false) → (Q (Value.bool false) H8z)))))))))) ∧ ((((decide ((op : Int) = 0)) : Bool) = false) → (((((decide ((op : Int) = 1)) : Bool) = true) → (Q (Value.bool false) H)) ∧ ((((decide ((op : Int) = 1)) : Bool) = false) → (((((decide ((op : Int) = 2)) : Bool) = true) → (Q (Value.bool false) H)) ∧ ((((decide ((op : Int) = 2)) : Bool) = false) → (Q (Value.bool false) H)))))))))) ∧ ((((decide ((k : Int) = 0)) : Bool) = false) → (((((decide ((op : Int) = 0)) : Bool) = true) → Does (env Tryz.prog) 36 [(Value.agg #[(Value.int .i64 k), (Value.int .i64 i), (Value.string s), (Value.slice av nv cv)])] H fun v10z H11z => (∃ b12z : Bool, (((v10z : Value) = (Value.bool b12z)) ∧ ((((b12z : Bool) = true) → (vc23_J1 op k occ attr Q H11z)) ∧ (((b12z : Bool) = false) → (((((decide ((op : Int) = 1)) : Bool) = true) → (Q (Value.bool false) H11z)) ∧ ((((decide ((op : Int) = 1)) : Bool) = false) → (((((decide ((op : Int) = 2)) : Bool) = true) → (Q (Value.bool false) H11z)) ∧ ((((decide ((op : Int) = 2)) : Bool) = false) → (Q (Value.bool false) H11z)))))))))) ∧ ((((decide ((op : Int) = 0)) : Bool) = false) → (((((decide ((op : Int) = 1)) : Bool) = true) → (Q (Value.bool false) H)) ∧ ((((decide ((op : Int) = 1)) : Bool) = false) → (((((decide ((op : Int) = 2)) : Bool) = true) → (Q (Value.bool false) H)) ∧ ((((decide ((op : Int) = 2)) : Bool) = false) → (Q (Value.bool false) H)))))))))) := by
  have hk : kV v = k ∧ isZeroV v = (decide (k = 0) && (decide (i = 0) && (strEq s emp && decide (nv = 0)))) := by
    obtain ⟨k', i', s', l'⟩ := v
    obtain ⟨_, _, _, e, e2, _⟩ := hv
    simp only [List.cons.injEq, Value.int.injEq, Value.string.injEq, Value.slice.injEq] at e
    obtain ⟨⟨_, rfl⟩, ⟨_, rfl⟩, rfl, ⟨_, rfl, _⟩, _⟩ := e
    subst e2
    exact ⟨rfl, rfl⟩
  have e0 : (ByteArray.mk #[]) = emp := rfl
  unfold vc23_J1
  rw [e0]
  repeat' (first | apply And.intro | intro _ | refine c36 ok 300000 _ _ _ _ (by omega) (by decide) hv ⟨_, rfl, ?_⟩)
  all_goals
    refine useB hq ?_
    unfold holdB
    clear hv hq
    simp_all [withinB] <;> first | (intros; omega) | (split <;> intros <;> omega)

theorem c22 : ∀ (d : Nat) (e : Ex) (ce : List Value) (H : KH) (Q : PQ), d ≤ 100 → RE H e ce → Lg e → Q (.bool (mayB d e)) H → Does (env Tryz.prog) 22 [.agg ce.toArray, .int .i64 d] H Q := by
  intro d
  induction d with
  | zero =>
    rintro ⟨op, v, occ, attr, args⟩ ce H Q hd hr hg hq
    obtain ⟨k, i, s, av, nv, cv, aa, ca, rfl, hrv, hres⟩ := hr
    exact fn22 ok ⟨fun _ => hq, fun h => by simp at h⟩
  | succ d ih =>
    rintro ⟨op, v, occ, attr, args⟩ ce H Q hd hr hg hq
    obtain ⟨k, i, s, av, nv, cv, aa, ca, rfl, hrv, hres⟩ := hr
    obtain ⟨g1, g2, g3⟩ := hg
    refine fn22 ok ⟨fun h => ?_, fun _ => c34 ok ⟨_, rfl, fun h => useB hq ?_, fun h1 => c35 ok hrv g1 g2 ⟨_, rfl, fun h => useB hq ?_, fun h2 => ?_⟩⟩⟩
    · have := of_decide_eq_true h; omega
    · have h : takesB op args.length = false := by simpa using h
      simp [mayB, h]
    · have h : holdB op v occ attr = false := by simpa using h
      simp [mayB, h]
    have h1 : takesB op args.length = true := by simpa using h1
    have h2 : holdB op v occ attr = true := by simpa using h2
    have hq : Q (.bool (args.all (mayB d))) H := useB hq (by simp [mayB, h1, h2])
    have h4 : args.length ≤ 4 := by have := takes_le h1; omega
    unfold vc22_L1
    refine ⟨fun m x4 a5 n6 n7 x8 x9 H10 => x4 = ((d + 1 : Nat) : Int) ∧ a5 = aa ∧ n6 = args.length ∧ x8 = (args.length : Nat) ∧ H10 = H ∧ ∃ j : Nat, x9 = j ∧ j ≤ args.length ∧ m = args.length - j ∧ ∀ x ∈ args.take j, mayB d x = true, ⟨args.length, rfl, rfl, rfl, rfl, rfl, 0, rfl, by omega, rfl, by simp⟩, ?_⟩
    rintro m x4 a5 n6 n7 x8 x9 H10 ⟨rfl, rfl, rfl, rfl, rfl, j, rfl, hj, rfl, q1⟩
    refine ⟨fun hlt => ?_, fun hge => ?_⟩
    · have hlt : j < args.length := by have := of_decide_eq_true hlt; omega
      have hw : IntKind.wrap .i64 (((d + 1 : Nat) : Int) - 1) = (d : Int) := by rw [wrap64 (by omega) (by omega)]; omega
      have hy : args[j]? = some args[j] := by simp [hlt]
      obtain ⟨b1, o1, ha, ce, hld, hre⟩ := RES.get hres hy
      have htk : args.take (j + 1) = args.take j ++ [args[j]] := by rw [List.take_add_one]; simp [hlt]
      have hm : args[j] ∈ args := List.getElem_mem hlt
      generalize args[j] = ej at *
      have hre' := hre
      have hlg := g3.get hm
      obtain ⟨op0, v0, occ0, at0, as0⟩ := ej
      obtain ⟨k0, i0, t0, av0, nv0, cv0, aa0, ca0, rfl, _, _⟩ := hre
      rw [hw]
      refine ⟨⟨by omega, by omega⟩, b1, o1, ha, _, _, _, _, _, _, _, _, _, _, _, _, by simpa using hld, ih _ _ _ _ (by omega) hre' hlg ⟨_, rfl, fun hb => useB hq ?_, fun hb => ?_⟩⟩
      · rw [Bool.eq_false_iff]
        intro hall
        have := List.all_eq_true.1 hall _ hm
        rw [this] at hb
        cases hb
      · refine ⟨args.length - (j + 1), by omega, rfl, rfl, rfl, rfl, rfl, j + 1, by rw [wrap64 (by omega) (by omega)]; omega, by omega, rfl, ?_⟩
        rw [htk]
        intro x hx
        rcases List.mem_append.1 hx with hx | hx
        · exact q1 x hx
        · simp at hx; subst hx; simpa using hb
    · have hge : j = args.length := by have := of_decide_eq_false hge; omega
      subst hge
      rw [List.take_length] at q1
      exact useB hq (List.all_eq_true.2 q1)

theorem c11 {e : Ex} {ce : List Value} {H : KH} {Q : PQ} (hr : RE H e ce) (hg : Lg e) (hq : Q (.bool (mayB 12 e)) H) : Does (env Tryz.prog) 11 [.agg ce.toArray] H Q := by
  have hr' := hr
  obtain ⟨op, v, occ, attr, args⟩ := e
  obtain ⟨k, i, s, av, nv, cv, aa, ca, rfl, hrv, hres⟩ := hr
  exact fn11 ok (c22 ok 12 _ _ _ _ (by omega) hr' hg ⟨_, rfl, hq⟩)

theorem c23 : ∀ (d : Nat) (e : Ex) (ce : List Value) (H : KH) (Q : PQ), d ≤ 100 → RE H e ce → Lg e → Q (.bool (mayB d e)) H → Does (env Tryz.prog) 23 [.agg ce.toArray, .int .i64 d] H Q := by
  intro d
  induction d with
  | zero =>
    rintro ⟨op, v, occ, attr, args⟩ ce H Q hd hr hg hq
    obtain ⟨k, i, s, av, nv, cv, aa, ca, rfl, hrv, hres⟩ := hr
    exact fn23 ok (c26 ok ⟨_, _, rfl, fun _ => hq, fun _ => ⟨fun _ => hq, fun h => by simp at h⟩⟩)
  | succ d ih =>
    rintro ⟨op, v, occ, attr, args⟩ ce H Q hd hr hg hq
    obtain ⟨k, i, s, av, nv, cv, aa, ca, rfl, hrv, hres⟩ := hr
    obtain ⟨g1, g2, g3⟩ := hg
    have ht := takes_args op args.length
    have main : takesB op args.length = true → vc23_L4 ((d + 1 : Nat) : Int) op k i s av nv cv occ attr aa args.length ca H Q := by
      intro ht
      have h4 : args.length ≤ 4 := by have := takes_le ht; omega
      unfold vc23_L4
      refine ⟨fun m x4 x5 x6 x7 s8 a9 n10 n11 x12 x13 a14 n15 n16 x17 H18 => x4 = ((d + 1 : Nat) : Int) ∧ x5 = op ∧ x6 = k ∧ x7 = i ∧ s8 = s ∧ a9 = av ∧ n10 = nv ∧ n11 = cv ∧ x12 = occ ∧ x13 = attr ∧ a14 = aa ∧ n15 = args.length ∧ H18 = H ∧ ∃ j : Nat, x17 = j ∧ j ≤ args.length ∧ m = args.length - j ∧ ∀ x ∈ args.take j, mayB d x = true, ⟨args.length, rfl, rfl, rfl, rfl, rfl, rfl, rfl, rfl, rfl, rfl, rfl, rfl, rfl, 0, rfl, by omega, rfl, by simp⟩, ?_⟩
      rintro m x4 x5 x6 x7 s8 a9 n10 n11 x12 x13 a14 n15 n16 x17 H18 ⟨rfl, rfl, rfl, rfl, rfl, rfl, rfl, rfl, rfl, rfl, rfl, rfl, rfl, j, rfl, hj, rfl, q1⟩
      refine ⟨fun hlt => ?_, fun hge => ?_⟩
      · have hlt : j < args.length := by have := of_decide_eq_true hlt; omega
        have hw : IntKind.wrap .i64 (((d + 1 : Nat) : Int) - 1) = (d : Int) := by rw [wrap64 (by omega) (by omega)]; omega
        have hy : args[j]? = some args[j] := by simp [hlt]
        obtain ⟨b1, o1, ha, ce, hld, hre⟩ := RES.get hres hy
        have htk : args.take (j + 1) = args.take j ++ [args[j]] := by rw [List.take_add_one]; simp [hlt]
        have hm : args[j] ∈ args := List.getElem_mem hlt
        generalize args[j] = ej at *
        have hre' := hre
        have hlg := g3.get hm
        obtain ⟨op0, v0, occ0, at0, as0⟩ := ej
        obtain ⟨k0, i0, t0, av0, nv0, cv0, aa0, ca0, rfl, _, _⟩ := hre
        rw [hw]
        refine ⟨⟨by omega, by omega⟩, b1, o1, ha, _, _, _, _, _, _, _, _, _, _, _, _, by simpa using hld, ih _ _ _ _ (by omega) hre' hlg ⟨_, rfl, fun hb => useB hq ?_, fun hb => ?_⟩⟩
        · rw [Bool.eq_false_iff]
          intro hall
          simp only [mayB, Bool.and_eq_true, List.all_eq_true] at hall
          have := hall.2.2 _ hm
          rw [this] at hb
          cases hb
        · refine ⟨args.length - (j + 1), by omega, rfl, rfl, rfl, rfl, rfl, rfl, rfl, rfl, rfl, rfl, rfl, rfl, rfl, j + 1, by rw [wrap64 (by omega) (by omega)]; omega, by omega, rfl, ?_⟩
          rw [htk]
          intro x hx
          rcases List.mem_append.1 hx with hx | hx
          · exact q1 x hx
          · simp at hx; subst hx; simpa using hb
      · have hge : j = args.length := by have := of_decide_eq_false hge; omega
        subst hge
        rw [List.take_length] at q1
        have hall : args.all (mayB d) = true := List.all_eq_true.2 q1
        have hq : Q (.bool (holdB x5 v x12 x13)) H18 := useB hq (by simp [mayB, ht, hall])
        exact may_end ok hrv g1 g2 hq
    refine fn23 ok (c26 ok ⟨_, _, rfl, fun h => useB hq ?_, fun h0 => ⟨fun h => ?_, fun _ => ⟨fun h1 => ⟨fun h => useB hq ?_, fun h2 => ⟨fun h => useB hq ?_, fun h3 => main ?_⟩⟩, fun h1 => ⟨fun h => useB hq ?_, fun h3 => main ?_⟩⟩⟩⟩)
    · simp at h; simp [mayB, ht, h]
    · have := of_decide_eq_true h; omega
    · simp at h h1; rw [mayB, ht, decide_eq_false (by omega), decide_eq_false h]; simp
    · simp at h; rw [mayB, ht, decide_eq_false (show ¬ ((args.length : Int) ≤ 4) by omega)]; simp
    · simp at h0 h2 h3; rw [ht, h0, decide_eq_true h2, decide_eq_true (show (args.length : Int) ≤ 4 by omega)]; simp
    · simp at h; rw [mayB, ht, decide_eq_false (show ¬ ((args.length : Int) ≤ 4) by omega)]; simp
    · simp at h0 h1 h3; rw [ht, h0, decide_eq_true h1, decide_eq_true (show (args.length : Int) ≤ 4 by omega)]; simp

theorem c12 {e : Ex} {ce : List Value} {H : KH} {Q : PQ} (hr : RE H e ce) (hg : Lg e) (hq : Q (.bool (mayB 12 e)) H) : Does (env Tryz.prog) 12 [.agg ce.toArray] H Q := by
  have hr' := hr
  obtain ⟨op, v, occ, attr, args⟩ := e
  obtain ⟨k, i, s, av, nv, cv, aa, ca, rfl, hrv, hres⟩ := hr
  exact fn12 ok (c23 ok 12 _ _ _ _ (by omega) hr' hg ⟨_, rfl, hq⟩)

end
end Va
end Go.Proofs.YtlemdiinmfneoaaGreat

/- Sums and numbers as the reference reckons them; an Env's pairs. -/
set_option linter.unusedVariables false
set_option linter.unusedSimpArgs false
namespace Go.Ew
open Go.Ev Go.Deep Go.Proofs.YtlemdiinmfneoaaGreat.Va

abbrev In64 (x : Int) : Prop := -9223372036854775808 ≤ x ∧ x ≤ 9223372036854775807

theorem wrap_k (M : Int) : ∃ k : Int, M = IntKind.wrap .i64 M + 18446744073709551616 * k ∧ In64 (IntKind.wrap .i64 M) := by
  rw [IntKind.wrap_i64]
  refine ⟨(M + 9223372036854775808) / 18446744073709551616, ?_, ?_, ?_⟩ <;> omega


theorem add_is {a b : Int} (ha : In64 a) (hb : In64 b) : addV a b = if (0 < b ∧ 9223372036854775807 - b < a) ∨ (b < 0 ∧ a < -9223372036854775808 - b) then badV 5 else numV (IntKind.wrap .i64 (a + b)) := by
  obtain ⟨k, hk, hW⟩ := wrap_k (a + b)
  unfold addV numIfV
  generalize IntKind.wrap .i64 (a + b) = W at *
  have key : ((decide (a < W) == decide (0 < b)) = true) ↔ ((a < W) ↔ (0 < b)) := by rw [beq_iff_eq, decide_eq_decide]
  split
  · rename_i q
    have q := key.1 q
    rw [if_neg (by omega)]
  · rename_i q
    have q : ¬ ((a < W) ↔ (0 < b)) := fun x => q (key.2 x)
    rw [if_pos (by omega)]

theorem sub_is {a b : Int} (ha : In64 a) (hb : In64 b) : subV a b = if (b < 0 ∧ 9223372036854775807 + b < a) ∨ (0 < b ∧ a < -9223372036854775808 + b) then badV 5 else numV (IntKind.wrap .i64 (a - b)) := by
  obtain ⟨k, hk, hW⟩ := wrap_k (a - b)
  unfold subV numIfV
  generalize IntKind.wrap .i64 (a - b) = W at *
  have key : ((decide (W < a) == decide (0 < b)) = true) ↔ ((W < a) ↔ (0 < b)) := by rw [beq_iff_eq, decide_eq_decide]
  split
  · rename_i q
    have q := key.1 q
    rw [if_neg (by omega)]
  · rename_i q
    have q : ¬ ((W < a) ↔ (0 < b)) := fun x => q (key.2 x)
    rw [if_pos (by omega)]

theorem mul_is {a b : Int} : mulV a b = if a ≠ 0 ∧ (IntKind.wrap .i64 (Int.tdiv (IntKind.wrap .i64 (a * b)) a) ≠ b ∨ (a = -1 ∧ b = -9223372036854775808)) then badV 5 else numV (IntKind.wrap .i64 (a * b)) := by
  unfold mulV numIfV
  generalize IntKind.wrap .i64 (Int.tdiv (IntKind.wrap .i64 (a * b)) a) = T
  have key : ((decide (a = 0) || (decide (T = b) && !(decide (a = -1) && decide (b = -9223372036854775808)))) = true) ↔ (a = 0 ∨ (T = b ∧ ¬ (a = -1 ∧ b = -9223372036854775808))) := by
    simp only [Bool.or_eq_true, Bool.and_eq_true, Bool.not_eq_true', decide_eq_true_eq, ← Bool.not_eq_true]
  split
  · rename_i q
    have q := key.1 q
    rw [if_neg (by omega)]
  · rename_i q
    have q : ¬ (a = 0 ∨ (T = b ∧ ¬ (a = -1 ∧ b = -9223372036854775808))) := fun x => q (key.2 x)
    rw [if_pos (by omega)]

def sumV (op a b : Int) : V := if op = 4 then addV a b else if op = 5 then subV a b else mulV a b

theorem low_div : IntKind.wrap .i64 (Int.tdiv (IntKind.wrap .i64 ((-9223372036854775808) * (-1))) (-9223372036854775808)) ≠ -1 := by decide +kernel
end Go.Ew

namespace Go.Proofs.YtlemdiinmfneoaaGreat
open Go.Ev Go.Ew
namespace Va
section
variable (ok : EnvOk (env Tryz.prog))
include ok

theorem c49 {op a b : Int} {H : KH} {Q : PQ} (ha : In64 a) (hb : In64 b) (hq : Ans H (sumV op a b) Q) : Does (env Tryz.prog) 49 [.int .i64 op, .int .i64 a, .int .i64 b] H Q := by
  obtain ⟨ha1, ha2⟩ := ha
  obtain ⟨hb1, hb2⟩ := hb
  refine fn49 ok ⟨fun h4 => ?_, fun h4 => ⟨fun h5 => ?_, fun h5 => ?_⟩⟩
  · have h4 : op = 4 := by simpa using h4
    simp only [sumV, if_pos h4] at hq
    rw [add_is ⟨ha1, ha2⟩ ⟨hb1, hb2⟩] at hq
    have j0 : b < 0 → vc49_J0 a b H Q := fun hn => by
      unfold vc49_J0
      rw [wrap64 (by omega) (by omega)]
      refine ⟨fun ho => ?_, fun ho => ?_⟩
      · have ho := of_decide_eq_true ho
        rw [if_pos (.inr ⟨hn, ho⟩)] at hq
        exact c27 ok hq.wrap
      · have ho := of_decide_eq_false ho
        rw [if_neg (by omega)] at hq
        exact hq _ H (Le.refl _) leaf
    have no : ¬ 0 < b → ¬ b < 0 → Q (.agg #[.int .i64 1, .int .i64 (IntKind.wrap .i64 (a + b)), .string (ByteArray.mk #[]), .slice none 0 0]) H := fun h1 h2 => by
      rw [if_neg (by omega)] at hq
      exact hq _ H (Le.refl _) leaf
    refine ⟨fun hp => ?_, fun hp => ⟨fun hn => j0 (of_decide_eq_true hn), fun hn => no (of_decide_eq_false hp) (of_decide_eq_false hn)⟩⟩
    have hp := of_decide_eq_true hp
    rw [wrap64 (by omega) (by omega)]
    refine ⟨fun ho => ?_, fun ho => ⟨fun hn => j0 (of_decide_eq_true hn), fun hn => ?_⟩⟩
    · have ho := of_decide_eq_true ho
      rw [if_pos (.inl ⟨hp, ho⟩)] at hq
      exact c27 ok hq.wrap
    · have ho := of_decide_eq_false ho
      have hn := of_decide_eq_false hn
      rw [if_neg (by omega)] at hq
      exact hq _ H (Le.refl _) leaf
  · have h4 : ¬ op = 4 := by simpa using h4
    have h5 : op = 5 := by simpa using h5
    simp only [sumV, if_neg h4, if_pos h5] at hq
    rw [sub_is ⟨ha1, ha2⟩ ⟨hb1, hb2⟩] at hq
    have j1 : 0 < b → vc49_J1 a b H Q := fun hn => by
      unfold vc49_J1
      rw [wrap64 (by omega) (by omega)]
      refine ⟨fun ho => ?_, fun ho => ?_⟩
      · have ho := of_decide_eq_true ho
        rw [if_pos (.inr ⟨hn, ho⟩)] at hq
        exact c27 ok hq.wrap
      · have ho := of_decide_eq_false ho
        rw [if_neg (by omega)] at hq
        exact hq _ H (Le.refl _) leaf
    have no : ¬ 0 < b → ¬ b < 0 → Q (.agg #[.int .i64 1, .int .i64 (IntKind.wrap .i64 (a - b)), .string (ByteArray.mk #[]), .slice none 0 0]) H := fun h1 h2 => by
      rw [if_neg (by omega)] at hq
      exact hq _ H (Le.refl _) leaf
    refine ⟨fun hp => ?_, fun hp => ⟨fun hn => j1 (of_decide_eq_true hn), fun hn => no (of_decide_eq_false hn) (of_decide_eq_false hp)⟩⟩
    have hp := of_decide_eq_true hp
    rw [wrap64 (by omega) (by omega)]
    refine ⟨fun ho => ?_, fun ho => ⟨fun hn => j1 (of_decide_eq_true hn), fun hn => ?_⟩⟩
    · have ho := of_decide_eq_true ho
      rw [if_pos (.inl ⟨hp, ho⟩)] at hq
      exact c27 ok hq.wrap
    · have ho := of_decide_eq_false ho
      have hn := of_decide_eq_false hn
      rw [if_neg (by omega)] at hq
      exact hq _ H (Le.refl _) leaf
  · have h4 : ¬ op = 4 := by simpa using h4
    have h5 : ¬ op = 5 := by simpa using h5
    simp only [sumV, if_neg h4, if_neg h5] at hq
    rw [mul_is] at hq
    have num : ¬ (a ≠ 0 ∧ (IntKind.wrap .i64 (Int.tdiv (IntKind.wrap .i64 (a * b)) a) ≠ b ∨ (a = -1 ∧ b = -9223372036854775808))) → Q (.agg #[.int .i64 1, .int .i64 (IntKind.wrap .i64 (a * b)), .string (ByteArray.mk #[]), .slice none 0 0]) H := fun h => by
      rw [if_neg h] at hq
      exact hq _ H (Le.refl _) leaf
    refine ⟨fun h0 => ?_, fun h0 => num (fun q => q.1 (by simpa using h0))⟩
    have h0 : a ≠ 0 := by simpa using h0
    refine ⟨h0, fun hd => ?_, fun hd => ?_⟩
    · have hd : IntKind.wrap .i64 (Int.tdiv (IntKind.wrap .i64 (a * b)) a) ≠ b := by simpa using hd
      rw [if_pos ⟨h0, .inl hd⟩] at hq
      exact c27 ok hq.wrap
    have hd : IntKind.wrap .i64 (Int.tdiv (IntKind.wrap .i64 (a * b)) a) = b := by simpa using hd
    have j2 : ¬ (a = -1 ∧ b = -9223372036854775808) → b = -1 → vc49_J2 a H Q b := fun hn he => by
      unfold vc49_J2
      refine ⟨fun hl => ?_, fun hl => num fun q => q.2.elim (fun x => x hd) hn⟩
      have hl : a = -9223372036854775808 := by simpa using hl
      rw [hl, he] at hd
      exact absurd hd low_div
    refine ⟨fun h1 => ⟨fun h2 => ?_, fun h2 => ⟨fun h3 => j2 ?_ (by simpa using h3), fun h3 => num ?_⟩⟩, fun h1 => ⟨fun h3 => j2 ?_ (by simpa using h3), fun h3 => num ?_⟩⟩
    · have h1 : a = -1 := by simpa using h1
      have h2 : b = -9223372036854775808 := by simpa using h2
      rw [if_pos ⟨h0, .inr ⟨h1, h2⟩⟩] at hq
      exact c27 ok hq.wrap
    · have h2 : ¬ b = -9223372036854775808 := by simpa using h2
      exact fun q => h2 q.2
    · have h2 : ¬ b = -9223372036854775808 := by simpa using h2
      exact fun q => q.2.elim (fun x => x hd) fun q => h2 q.2
    · have h1 : ¬ a = -1 := by simpa using h1
      exact fun q => h1 q.1
    · have h1 : ¬ a = -1 := by simpa using h1
      exact fun q => q.2.elim (fun x => x hd) fun q => h1 q.1

theorem c29 {s : ByteArray} {H : KH} {Q : PQ} (hq : Ans H (numberV s) Q) : Does (env Tryz.prog) 29 [.string s] H Q := by
  refine fn29 ok ⟨fun h1 => ?_, fun h1 => ⟨fun h2 => ?_, fun h2 => ?_⟩⟩
  · have h1 : s.size < 1 := by have := of_decide_eq_true h1; omega
    simp only [numberV, if_pos (Or.inl h1 : s.size < 1 ∨ 18 < s.size)] at hq
    exact c27 ok hq.wrap
  · have h2 : 18 < s.size := by have := of_decide_eq_true h2; omega
    simp only [numberV, if_pos (Or.inr h2 : s.size < 1 ∨ 18 < s.size)] at hq
    exact c27 ok hq.wrap
  · have h1 : 1 ≤ s.size := by have := of_decide_eq_false h1; omega
    have h2 : s.size ≤ 18 := by have := of_decide_eq_false h2; omega
    simp only [numberV, if_neg (show ¬ (s.size < 1 ∨ 18 < s.size) by omega)] at hq
    have hsz : s.size = s.data.toList.length := rfl
    unfold vc29_L1
    refine ⟨fun m s4 x5 x6 s7 a8 n9 n10 x11 x12 H13 => s4 = s ∧ H13 = H ∧ ∃ j : Nat, x12 = j ∧ j ≤ s.size ∧ m = s.size - j ∧ 0 ≤ x11 ∧ x11 < 10 ^ j ∧ digits s.data.toList 0 = digits (s.data.toList.drop j) x11,
      ⟨s.size, rfl, rfl, 0, rfl, by omega, by omega, by omega, by decide, by simp⟩, ?_⟩
    rintro m s4 x5 x6 s7 a8 n9 n10 x11 x12 H13 ⟨rfl, rfl, j, rfl, hj, rfl, h0, hlt10, hd⟩
    refine ⟨fun hlt => ?_, fun hge => ?_⟩
    · have hlt : j < s4.size := by have := of_decide_eq_true hlt; omega
      have hjl : j < s4.data.toList.length := by omega
      have hdrop : s4.data.toList.drop j = s4.data.toList[j] :: s4.data.toList.drop (j + 1) := List.drop_eq_getElem_cons hjl
      have hb : s4.data.toList[j].toNat < 256 := UInt8.toNat_lt _
      have hba : byteAt s4 (Int.toNat (j : Int)) = (s4.data.toList[j].toNat : Nat) := by
        have : Int.toNat (j : Int) = j := by omega
        rw [this]
        simp only [byteAt, List.getElem?_eq_getElem hjl, Option.getD_some]
      rw [hba]
      generalize s4.data.toList[j] = c at *
      refine ⟨⟨by omega, by omega⟩, fun hc => ?_, fun hc => ⟨⟨by omega, by omega⟩, fun hc2 => ?_, fun hc2 => ⟨⟨by omega, by omega⟩, ?_⟩⟩⟩
      · have hc : (c.toNat : Int) < 48 := by simpa using hc
        rw [hdrop, digits_none (.inl hc)] at hd
        simp only [hd] at hq
        exact c27 ok hq.wrap
      · have hc2 : (57 : Int) < c.toNat := by simpa using hc2
        rw [hdrop, digits_none (.inr hc2)] at hd
        simp only [hd] at hq
        exact c27 ok hq.wrap
      · have hc : ¬ (c.toNat : Int) < 48 := by simpa using hc
        have hc2 : ¬ (57 : Int) < c.toNat := by simpa using hc2
        rw [hdrop, digits_some (by omega)] at hd
        have hp : (10 : Int) ^ (j + 1) = 10 * 10 ^ j := by rw [Int.pow_succ]; omega
        have hp2 : (10 : Int) ^ (j + 1) ≤ 10 ^ 18 := by
          exact_mod_cast Nat.pow_le_pow_right (by decide : 0 < 10) (by omega : j + 1 ≤ 18)
        have hp3 : (10 : Int) ^ 18 = 1000000000000000000 := by decide
        have hw1 : IntKind.wrap .i64 (x11 * 10) = 10 * x11 := by rw [wrap64 (by omega) (by omega)]; omega
        have hw2 : IntKind.wrap .u8 ((c.toNat : Int) - 48) = (c.toNat : Int) - 48 := IntWalk.u8_in _ (by omega)
        have hw3 : IntKind.wrap .i64 ((c.toNat : Int) - 48) = (c.toNat : Int) - 48 := wrap64 (by omega) (by omega)
        have hw4 : IntKind.wrap .i64 (10 * x11 + ((c.toNat : Int) - 48)) = 10 * x11 + ((c.toNat : Int) - 48) := wrap64 (by omega) (by omega)
        rw [hw1, hw2, hw3, hw4]
        refine ⟨s4.size - (j + 1), by omega, rfl, rfl, j + 1, ?_, by omega, rfl, by omega, by omega, hd⟩
        rw [wrap64 (by omega) (by omega)]; omega
    · have hge : s4.size ≤ j := by have := of_decide_eq_false hge; omega
      rw [List.drop_eq_nil_of_le (by omega), digits] at hd
      simp only [hd] at hq
      exact hq _ H13 (Le.refl _) leaf
end
end Va
end Go.Proofs.YtlemdiinmfneoaaGreat
