import Derived.Test.YtbfemjkknemfeaaEwNh2
set_option linter.unusedVariables false
set_option linter.unusedSimpArgs false
namespace Go.Ew
open Go.Ev Go.Deep

theorem items_pos : ∀ t : Ptn, 1 ≤ t.items.length
  | .cls _ => by simp [Ptn.items]
  | .join _ _ => by simp [Ptn.items]; omega
  | .alt _ _ => by simp [Ptn.items]; omega
  | .star _ => by simp [Ptn.items]
  | .plus _ => by simp [Ptn.items]
  | .may _ => by simp [Ptn.items]

theorem ItC.split {X : KH} : ∀ {l m : List It} {cs : List Value}, ItC X (l ++ m) cs → ItC X l (cs.take (l.length * 2)) ∧ ItC X m (cs.drop (l.length * 2))
  | [], m, cs, h => ⟨by simp [ItC], by simpa using h⟩
  | i :: l, m, cs, h => by
    obtain ⟨a, c, ds, h1, h2, h3⟩ := h
    obtain ⟨q1, q2⟩ := ItC.split (l := l) (m := m) h3
    have e : (i :: l).length * 2 = l.length * 2 + 2 := by simp; omega
    rw [e, h1]
    exact ⟨⟨a, c, _, by simp, h2, q1⟩, by simpa using q2⟩

theorem ItR.lo {H : KH} {l m : List It} {a : OA} {c : Nat} (hi : ItR H (l ++ m) a) (ho : SlOk H 2 a (l ++ m).length c) :
    ∃ a' c', kslice H 2 a (l ++ m).length c none (some (.int .i64 ((l.length : Nat) : Int))) = some (.slice a' l.length c') ∧ ItR H l a' ∧ SlOk H 2 a' l.length c' := by
  obtain ⟨cs, h1, h2⟩ := hi
  obtain ⟨a', c', q1, q2⟩ := cut_lo (k := l.length) ho h1 (by simp)
  exact ⟨a', c', q1, ⟨_, q2, h2.split.1⟩, kslice_ok (by omega) q1⟩
theorem ItR.hi {H : KH} {l m : List It} {a : OA} {c : Nat} (hi : ItR H (l ++ m) a) (ho : SlOk H 2 a (l ++ m).length c) :
    ∃ a' c', kslice H 2 a (l ++ m).length c (some (.int .i64 ((l.length : Nat) : Int))) none = some (.slice a' m.length c') ∧ ItR H m a' ∧ SlOk H 2 a' m.length c' := by
  obtain ⟨cs, h1, h2⟩ := hi
  obtain ⟨a', c', q1, q2⟩ := cut_hi (k := l.length) ho h1 (by simp)
  have e : (l ++ m).length - l.length = m.length := by simp
  rw [e] at q1 q2
  exact ⟨a', c', q1, ⟨_, q2, h2.split.2⟩, kslice_ok (by omega) q1⟩

structure EndsR (s : ByteArray) (t : Ptn) (f r : List Bool) : Prop where
  len : r.length = s.size + 1
  is : ∀ j, j ≤ s.size → (r[j]? = some true ↔ ∃ i, f[i]? = some true ∧ Mt s t i j)

theorem EndsR.join {s : ByteArray} {a b : Ptn} {f r1 r2 : List Bool} (h1 : EndsR s a f r1) (h2 : EndsR s b r1 r2) : EndsR s (.join a b) f r2 := ⟨h2.len, fun j hj => by
  rw [h2.is j hj]
  constructor
  · rintro ⟨k, q1, q2⟩
    have hk : k ≤ s.size := Nat.le_trans (Mt.le b k j q2) hj
    obtain ⟨i, z1, z2⟩ := (h1.is k hk).1 q1
    exact ⟨i, z1, k, z2, q2⟩
  · rintro ⟨i, z1, k, z2, q2⟩
    have hk : k ≤ s.size := Nat.le_trans (Mt.le b k j q2) hj
    exact ⟨k, (h1.is k hk).2 ⟨i, z1, z2⟩, q2⟩⟩
theorem EndsR.alt {s : ByteArray} {a b : Ptn} {f r1 r2 : List Bool} (h1 : EndsR s a f r1) (h2 : EndsR s b f r2) : EndsR s (.alt a b) f (orB r1 r2) := by
  have hl : r1.length = r2.length := by rw [h1.len, h2.len]
  refine ⟨by rw [orB_len hl, h1.len], fun j hj => ?_⟩
  rw [orB_at hl, h1.is j hj, h2.is j hj]
  constructor
  · rintro (⟨i, z1, z2⟩ | ⟨i, z1, z2⟩)
    · exact ⟨i, z1, .inl z2⟩
    · exact ⟨i, z1, .inr z2⟩
  · rintro ⟨i, z1, z2 | z2⟩
    · exact .inl ⟨i, z1, z2⟩
    · exact .inr ⟨i, z1, z2⟩
theorem EndsR.may {s : ByteArray} {a : Ptn} {f r : List Bool} (hf : f.length = s.size + 1) (h : EndsR s a f r) : EndsR s (.may a) f (orB f r) := by
  have hl : f.length = r.length := by rw [h.len, hf]
  refine ⟨by rw [orB_len hl, hf], fun j hj => ?_⟩
  rw [orB_at hl, h.is j hj]
  constructor
  · rintro (z | ⟨i, z1, z2⟩)
    · exact ⟨j, z, .inl rfl⟩
    · exact ⟨i, z1, .inr z2⟩
  · rintro ⟨i, z1, z2 | z2⟩
    · subst z2; exact .inl z1
    · exact .inr ⟨i, z1, z2⟩

structure PowR (s : ByteArray) (t : Ptn) (f : List Bool) (k : Nat) (r : List Bool) : Prop where
  len : r.length = s.size + 1
  is : ∀ j, j ≤ s.size → (r[j]? = some true ↔ ∃ i, f[i]? = some true ∧ ∃ n, 1 ≤ n ∧ n ≤ k ∧ MoN (Mt s t) n i j)
theorem PowR.one {s : ByteArray} {t : Ptn} {f r : List Bool} (h : EndsR s t f r) : PowR s t f 1 r := ⟨h.len, fun j hj => by
  rw [h.is j hj]
  constructor
  · rintro ⟨i, z1, z2⟩; exact ⟨i, z1, 1, by omega, by omega, .one _ _ z2⟩
  · rintro ⟨i, z1, n, q1, q2, q3⟩
    cases q3 with
    | one _ _ h => exact ⟨i, z1, h⟩
    | more n i k j h r =>
      exfalso
      cases h <;> omega⟩
theorem PowR.more {s : ByteArray} {t : Ptn} {f r r' : List Bool} {k : Nat} (hk : 1 ≤ k) (h : PowR s t f k r) (g : EndsR s t r r') : PowR s t f (k + 1) (orB r r') := by
  have hl : r.length = r'.length := by rw [h.len, g.len]
  refine ⟨by rw [orB_len hl, h.len], fun j hj => ?_⟩
  rw [orB_at hl, g.is j hj]
  constructor
  · rintro (z | ⟨m, z1, z2⟩)
    · obtain ⟨i, q1, n, q2, q3, q4⟩ := (h.is j hj).1 z
      exact ⟨i, q1, n, q2, by omega, q4⟩
    · have hm : m ≤ s.size := Nat.le_trans (Mt.le t m j z2) hj
      obtain ⟨i, q1, n, q2, q3, q4⟩ := (h.is m hm).1 z1
      exact ⟨i, q1, n + 1, by omega, by omega, .more _ _ _ _ q4 z2⟩
  · rintro ⟨i, q1, n, q2, q3, q4⟩
    rcases Nat.lt_or_ge k n with z | z
    · cases q4 with
      | one _ _ h => omega
      | more n i m j h1 r1 =>
        have hm : m ≤ s.size := Nat.le_trans (Mt.le t m j r1) hj
        exact .inr ⟨m, (h.is m hm).2 ⟨i, q1, n, by omega, by omega, h1⟩, r1⟩
    · exact .inl ((h.is j hj).2 ⟨i, q1, n, q2, z, q4⟩)
theorem PowR.plus {s : ByteArray} {t : Ptn} {f r : List Bool} (h : PowR s t f (s.size + 2) r) : EndsR s (.plus t) f r := ⟨h.len, fun j hj => by
  rw [h.is j hj]
  constructor
  · rintro ⟨i, z1, z2⟩; exact ⟨i, z1, (plus_few (Mt.le t) hj).2 z2⟩
  · rintro ⟨i, z1, z2⟩; exact ⟨i, z1, (plus_few (Mt.le t) hj).1 z2⟩⟩
theorem PowR.star {s : ByteArray} {t : Ptn} {f r : List Bool} (hf : f.length = s.size + 1) (h : PowR s t f (s.size + 2) r) : EndsR s (.star t) f (orB f r) := by
  have hl : f.length = r.length := by rw [h.len, hf]
  refine ⟨by rw [orB_len hl, hf], fun j hj => ?_⟩
  rw [orB_at hl, h.is j hj]
  constructor
  · rintro (z | ⟨i, z1, z2⟩)
    · exact ⟨j, z, (star_few (Mt.le t) hj).2 (.inl rfl)⟩
    · exact ⟨i, z1, (star_few (Mt.le t) hj).2 (.inr z2)⟩
  · rintro ⟨i, z1, z2⟩
    rcases (star_few (Mt.le t) hj).1 z2 with z | z
    · subst z; exact .inl z1
    · exact .inr ⟨i, z1, z⟩

def ClP (s : ByteArray) (f : List Bool) (L : List Rg) (i k j : Nat) : Prop :=
  (∃ i', i' < i ∧ f[i']? = some true ∧ (∃ r ∈ L, r.1 ≤ byteAt s i' ∧ byteAt s i' ≤ r.2) ∧ j = i' + 1) ∨ (f[i]? = some true ∧ j = i + 1 ∧ ∃ r ∈ L.take k, r.1 ≤ byteAt s i ∧ byteAt s i ≤ r.2)
structure ClR (s : ByteArray) (f : List Bool) (L : List Rg) (i k : Nat) (r : List Bool) : Prop where
  len : r.length = s.size + 1
  is : ∀ j, r[j]? = some true ↔ ClP s f L i k j
theorem ClR.zero {s : ByteArray} {f : List Bool} {L : List Rg} : ClR s f L 0 0 (List.replicate (s.size + 1) false) := ⟨by simp, fun j => by
  constructor
  · intro h
    exfalso
    rw [List.getElem?_replicate] at h
    split at h <;> simp at h
  · rintro (⟨i', h, _⟩ | ⟨_, _, r, h, _⟩)
    · omega
    · simp at h⟩
theorem ClR.skip {s : ByteArray} {f : List Bool} {L : List Rg} {i k : Nat} {r : List Bool} (h : ClR s f L i k r) (hf : f[i]? ≠ some true ∨ k = L.length) : ClR s f L (i + 1) 0 r := ⟨h.len, fun j => by
  rw [h.is j]
  unfold ClP
  constructor
  · rintro (⟨i', z1, z2⟩ | ⟨z1, z2, z3⟩)
    · exact .inl ⟨i', by omega, z2⟩
    · rcases hf with u | u
      · exact absurd z1 u
      · subst u
        rw [List.take_length] at z3
        exact .inl ⟨i, by omega, z1, z3, z2⟩
  · rintro (⟨i', z1, z2, z3, z4⟩ | ⟨_, _, r, h, _⟩)
    · rcases Nat.lt_or_ge i' i with u | u
      · exact .inl ⟨i', u, z2, z3, z4⟩
      · have : i' = i := by omega
        subst this
        rcases hf with u | u
        · exact absurd z2 u
        · subst u
          exact .inr ⟨z2, z4, by rw [List.take_length]; exact z3⟩
    · simp at h⟩
theorem ClR.out {s : ByteArray} {f : List Bool} {L : List Rg} {i k : Nat} {r : List Bool} (h : ClR s f L i k r) (hk : k < L.length) (hno : ¬ (L[k].1 ≤ byteAt s i ∧ byteAt s i ≤ L[k].2)) : ClR s f L i (k + 1) r := ⟨h.len, fun j => by
  rw [h.is j]
  unfold ClP
  have : (∃ r ∈ L.take (k + 1), r.1 ≤ byteAt s i ∧ byteAt s i ≤ r.2) ↔ ∃ r ∈ L.take k, r.1 ≤ byteAt s i ∧ byteAt s i ≤ r.2 := by
    rw [List.take_succ_eq_append_getElem hk]
    constructor
    · rintro ⟨r, z1, z2⟩
      rcases List.mem_append.1 z1 with u | u
      · exact ⟨r, u, z2⟩
      · have : r = L[k] := by simpa using u
        rw [this] at z2
        exact absurd z2 hno
    · rintro ⟨r, z1, z2⟩
      exact ⟨r, List.mem_append.2 (.inl z1), z2⟩
  rw [this]⟩
theorem ClR.hit {s : ByteArray} {f : List Bool} {L : List Rg} {i k : Nat} {r : List Bool} (h : ClR s f L i k r) (hi : i < s.size) (hk : k < L.length) (hf : f[i]? = some true) (hy : L[k].1 ≤ byteAt s i ∧ byteAt s i ≤ L[k].2) : ClR s f L i (k + 1) (r.set (i + 1) true) := ⟨by rw [List.length_set]; exact h.len, fun j => by
  have hm : L[k] ∈ L.take (k + 1) := by
    rw [List.take_succ_eq_append_getElem hk]; exact List.mem_append.2 (.inr (List.mem_singleton.2 rfl))
  by_cases hj : j = i + 1
  · subst hj
    rw [List.getElem?_set_self (by rw [h.len]; omega)]
    exact ⟨fun _ => .inr ⟨hf, rfl, _, hm, hy⟩, fun _ => rfl⟩
  · rw [List.getElem?_set_ne (fun z => hj z.symm), h.is j]
    unfold ClP
    constructor
    · rintro (z | ⟨_, z2, _⟩)
      · exact .inl z
      · exact absurd z2 hj
    · rintro (z | ⟨_, z2, _⟩)
      · exact .inl z
      · exact absurd z2 hj⟩
theorem ClR.ends {s : ByteArray} {f : List Bool} {L : List Rg} {r : List Bool} (h : ClR s f L s.size 0 r) : EndsR s (.cls L) f r := ⟨h.len, fun j hj => by
  rw [h.is j]
  unfold ClP
  constructor
  · rintro (⟨i', z1, z2, z3, z4⟩ | ⟨_, _, r, h, _⟩)
    · exact ⟨i', z2, z4, z1, z3⟩
    · simp at h
  · rintro ⟨i, z1, z2, z3, z4⟩
    exact .inl ⟨i, z3, z1, z4, z2⟩⟩
end Go.Ew

namespace Go.Proofs.Ytbfemjkknemfeaa
open Go.Ev Go.Ew
namespace Va
section
variable (ok : EnvOk (env Try.prog))
include ok

theorem c51t {A : List It} {t : Ptn} {a : OA} {c : Nat} {H : KH} {Q : PQ} (hi : ItR H (A ++ t.items) a) (hl : (A ++ t.items).length ≤ 1000) (hq : Q (.int .i64 ((A.length : Nat) : Int)) H) : Does (env Try.prog) 51 [.slice a (A ++ t.items).length c, .int .i64 (((A ++ t.items).length - 1 : Nat) : Int)] H Q := by
  have hp := items_pos t
  have hp2 : 1 ≤ (A ++ t.items).length := by rw [List.length_append]; omega
  refine c51 ok hi (by omega) hl ?_
  rw [List.take_of_length_le (by omega), stB_tree t A 1 (by omega), if_pos rfl]
  exact hq

omit ok in
theorem c33cls {s : ByteArray} (hs : s.size ≤ 100) {L : List Rg} (hL : L.length ≤ 100) {a b : OA} {c d n1 : Nat} {f : List Bool} {H : KH} {Q : PQ} (h1 : H n1 = none) (hi : ItR H [(1, L)] a) (hf : BR H f b) (hfl : f.length = s.size + 1)
    (hq : ∀ r a' c' H', Le H H' → BR H' r a' → EndsR s (.cls L) f r → Q (.slice a' (s.size + 1) c') H') : vc33_L2 a 1 c s b (s.size + 1) d n1 H Q := by
  obtain ⟨cs, hc, hit⟩ := hi
  have ew : IntKind.wrap .i64 (((s.size : Nat) : Int) + 1) = ((s.size + 1 : Nat) : Int) := by rw [wrap64 (by omega) (by omega)]; omega
  have w1 : IntKind.wrap .i64 (((1 : Nat) : Int) - 1) = 0 := by decide
  unfold vc33_L2
  rw [ew, Int.toNat_natCast, w1]
  refine ⟨fun n3 a4 n5 n6 s7 a8 n9 n10 a11 n12 n13 x14 x15 H16 => a4 = a ∧ n5 = 1 ∧ s7 = s ∧ a8 = b ∧ n9 = s.size + 1 ∧ a11 = some ⟨n1, 0, none⟩ ∧ n12 = s.size + 1 ∧ x14 = 0 ∧ ∃ (i : Nat) (r : List Bool), x15 = i ∧ i ≤ s.size ∧ n3 = s.size - i ∧ BW H H16 n1 r ∧ ClR s f L i 0 r,
    ⟨s.size, rfl, rfl, rfl, rfl, rfl, rfl, rfl, rfl, 0, List.replicate (s.size + 1) false, rfl, by omega, rfl, BW.new h1, ClR.zero⟩, ?_⟩
  rintro n3 a4 n5 n6 s7 a8 n9 n10 a11 n12 n13 x14 x15 H16 ⟨rfl, rfl, rfl, rfl, rfl, rfl, rfl, rfl, i, r, rfl, hi, rfl, hw, hr⟩
  refine ⟨fun hlt => ?_, fun hge => ?_⟩
  · have hlt : i < s7.size := by have := of_decide_eq_true hlt; omega
    have e0 : Int.toNat ((i : Nat) : Int) = i := by omega
    have wi : IntKind.wrap .i64 (((i : Nat) : Int) + 1) = ((i + 1 : Nat) : Int) := by rw [wrap64 (by omega) (by omega)]; omega
    unfold vc33_L1
    refine ⟨fun m3 b4 m5 m6 t7 b8 m9 m10 b11 m12 m13 y14 y15 y16 H17 => b4 = a4 ∧ m5 = 1 ∧ t7 = s7 ∧ b8 = a8 ∧ m9 = s7.size + 1 ∧ b11 = some ⟨n1, 0, none⟩ ∧ m12 = s7.size + 1 ∧ y14 = 0 ∧ y15 = (i : Nat) ∧ ∃ (k : Nat) (q : List Bool), y16 = k ∧ k ≤ L.length ∧ m3 = L.length - k ∧ BW H H17 n1 q ∧ ClR s7 f L i k q,
      ⟨L.length, rfl, rfl, rfl, rfl, rfl, rfl, rfl, rfl, rfl, 0, r, rfl, by omega, rfl, hw, hr⟩, ?_⟩
    rintro m3 b4 m5 m6 t7 b8 m9 m10 b11 m12 m13 y14 y15 y16 H17 ⟨rfl, rfl, rfl, rfl, rfl, rfl, rfl, rfl, rfl, k, q, rfl, hk, rfl, hwq, hq2⟩
    obtain ⟨b1, o1, e1, r1⟩ := rowAddr (hwq.le.kold hc) (by simp)
    have g1 := r1 (0 * 2) 2 (by simp)
    obtain ⟨ar, cr, f1, f2⟩ := ItC_at hit (k := 0) (op := 1) (rg := L) rfl
    rw [f1] at g1
    have g2 := ldSub g1 1 1 (by simp)
    have g2 : ld H17 ⟨b1, o1 + 0 * 2 + 1, none⟩ [.slice ar L.length cr] := by simpa using g2
    have z0 : Int.toNat 0 = 0 := rfl
    rw [z0, e0, wi]
    have hfi : i < f.length := by omega
    obtain ⟨b2, o2, e2, g3⟩ := (hf.mono hwq.le).at_ hfi
    have hfl' : f[i]? = some f[i] := by simp [hfi]
    have nxt : ∀ {q' : List Bool} {K : KH}, BW H K n1 q' → ClR t7 f L (i + 1) 0 q' → ∃ n, n < t7.size - i ∧ (b4 = b4 ∧ 1 = 1 ∧ t7 = t7 ∧ b8 = b8 ∧ t7.size + 1 = t7.size + 1 ∧ (some ⟨n1, 0, none⟩ : OA) = some ⟨n1, 0, none⟩ ∧ t7.size + 1 = t7.size + 1 ∧ (0 : Int) = 0 ∧ ∃ (i' : Nat) (r : List Bool), ((i + 1 : Nat) : Int) = i' ∧ i' ≤ t7.size ∧ n = t7.size - i' ∧ BW H K n1 r ∧ ClR t7 f L i' 0 r) :=
      fun hb hcl => ⟨t7.size - (i + 1), by omega, rfl, rfl, rfl, rfl, rfl, rfl, rfl, rfl, i + 1, _, rfl, by omega, rfl, hb, hcl⟩
    refine ⟨⟨by omega, by omega⟩, b1, o1, e1, rfl, ar, _, cr, g2, fun hlk => ⟨⟨by omega, by omega⟩, b2, o2, e2, f[i], g3, fun hb => ?_, fun hb => ?_⟩, fun hlk => ?_⟩
    · have hlk : k < L.length := by have := of_decide_eq_true hlk; omega
      have e3 : Int.toNat ((k : Nat) : Int) = k := by omega
      have wk : IntKind.wrap .i64 (((k : Nat) : Int) + 1) = ((k + 1 : Nat) : Int) := by rw [wrap64 (by omega) (by omega)]; omega
      have e4 : Int.toNat (((i + 1 : Nat) : Int)) = i + 1 := by omega
      obtain ⟨b5, o5, e5, r5⟩ := rowAddr (hwq.le.kold f2) (by omega)
      have g5 := r5 (k * 2) 2 (by omega)
      rw [rgC_at (show L[k]? = some L[k] by simp [hlk])] at g5
      have g6 := ldSub g5 0 1 (by simp)
      have g7 := ldSub g5 1 1 (by simp)
      rw [e3, wk, e4]
      have again : ∀ {q' : List Bool} {K : KH}, BW H K n1 q' → ClR t7 f L i (k + 1) q' → ∃ n, n < L.length - k ∧ (b4 = b4 ∧ 1 = 1 ∧ t7 = t7 ∧ b8 = b8 ∧ t7.size + 1 = t7.size + 1 ∧ (some ⟨n1, 0, none⟩ : OA) = some ⟨n1, 0, none⟩ ∧ t7.size + 1 = t7.size + 1 ∧ (0 : Int) = 0 ∧ ((i : Nat) : Int) = (i : Nat) ∧ ∃ (k' : Nat) (q : List Bool), ((k + 1 : Nat) : Int) = k' ∧ k' ≤ L.length ∧ n = L.length - k' ∧ BW H K n1 q ∧ ClR t7 f L i k' q) :=
        fun hb hcl => ⟨L.length - (k + 1), by omega, rfl, rfl, rfl, rfl, rfl, rfl, rfl, rfl, rfl, k + 1, _, rfl, by omega, rfl, hb, hcl⟩
      refine ⟨trivial, ⟨by omega, by omega⟩, ⟨by omega, by omega⟩, b1, o1, e1, rfl, ar, _, cr, g2, ⟨by omega, by omega⟩, b5, o5, e5, rfl, L[k].1, by simpa using g6, fun hlo => ⟨⟨by omega, by omega⟩, ⟨by omega, by omega⟩, b1, o1, e1, rfl, ar, _, cr, g2, ⟨by omega, by omega⟩, b5, o5, e5, rfl, L[k].2, by simpa using g7, fun hhi => ?_, fun hhi => ?_⟩, fun hlo => ?_⟩
      · have hlo := of_decide_eq_true hlo
        have hhi := of_decide_eq_true hhi
        have hql : i + 1 < q.length := by rw [hq2.len]; omega
        refine ⟨⟨by omega, by omega⟩, n1, 0, rfl, ⟨[.bool (q[i + 1]'hql)], rfl, hwq.ld hql⟩, hwq.may, again (hwq.put hql true) (hq2.hit hlt hlk (by rw [hfl', hb]) ⟨hlo, hhi⟩)⟩
      · have hhi := of_decide_eq_false hhi
        exact again hwq (hq2.out hlk fun z => hhi z.2)
      · have hlo := of_decide_eq_false hlo
        exact again hwq (hq2.out hlk fun z => hlo z.1)
    · exact nxt hwq (hq2.skip (.inl (by rw [hfl', hb]; simp)))
    · have hlk : k = L.length := by have := of_decide_eq_false hlk; omega
      exact nxt hwq (hq2.skip (.inr hlk))
  · have hge : i = s7.size := by have := of_decide_eq_false hge; omega
    subst hge
    exact hq r _ _ H16 hw.le (by have := hw.br; exact this) hr.ends
end
end Va
end Go.Proofs.Ytbfemjkknemfeaa
