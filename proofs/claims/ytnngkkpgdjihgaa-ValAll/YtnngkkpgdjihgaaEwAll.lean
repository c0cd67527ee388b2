import Derived.Test.YtnngkkpgdjihgaaEwFits
/- The law ValAll: what its function answers. -/
set_option linter.unusedVariables false
set_option linter.unusedSimpArgs false
namespace Go.Ew
open Go.Ev Go.Deep Go.Proofs.Ytnngkkpgdjihgaa.Va

/-- What a row of a kind must still be, from a place on. -/
def rest (k : Int) (l : List V) (j : Nat) : Bool := if k = 5 then riseB cmpV (l.drop (j - 1)) else if k = 6 then (l.drop j).all pairB && riseB cmpK (l.drop (j - 1)) else true

theorem cmpK_lt {x y : V} : cmpK x y < 0 ↔ strLt (keyV x) (keyV y) = true := by
  constructor
  · intro h
    have h1 : cmpS' (keyV x) (keyV y) < 0 := h
    rw [cmpS_str] at h1
    split at h1
    · omega
    · split at h1
      · assumption
      · omega
  · exact lt_cmp

theorem rest_end (k : Int) (l : List V) : rest k l l.length = true := by
  unfold rest
  rw [rise_end (by omega), rise_end (by omega)]
  simp

theorem rest5 {l : List V} {j : Nat} (hj : j < l.length) (h0 : 0 < j) : rest 5 l j = (decide (cmpV (l[j - 1]'(by omega)) l[j] < 0) && rest 5 l (j + 1)) := by
  obtain ⟨i, rfl⟩ : ∃ i, j = i + 1 := ⟨j - 1, by omega⟩
  simp only [rest, if_true, Nat.add_sub_cancel]
  exact rise_step hj

theorem rest6 {l : List V} {j : Nat} (hj : j < l.length) (h0 : 0 < j) : rest 6 l j = (pairB l[j] && (decide (cmpK (l[j - 1]'(by omega)) l[j] < 0) && rest 6 l (j + 1))) := by
  obtain ⟨i, rfl⟩ : ∃ i, j = i + 1 := ⟨j - 1, by omega⟩
  have h6 : ¬ (6 : Int) = 5 := by omega
  simp only [rest, if_neg h6, if_true, Nat.add_sub_cancel]
  rw [pairs_step hj, rise_step (f := cmpK) hj]
  cases pairB l[i + 1] <;> cases decide (cmpK l[i] l[i + 1] < 0) <;> simp

theorem rest60 {l : List V} (hj : 0 < l.length) : rest 6 l 0 = (pairB l[0] && rest 6 l 1) := by
  have h6 : ¬ (6 : Int) = 5 := by omega
  simp only [rest, if_neg h6, if_true, Nat.zero_sub, Nat.sub_self]
  rw [pairs_step hj, Bool.and_assoc]

theorem rest4 {k : Int} {l : List V} {i j : Nat} (h5 : ¬ k = 5) (h6 : ¬ k = 6) : rest k l i = rest k l j := by simp [rest, h5, h6]

theorem rest50 {l : List V} : rest 5 l 0 = rest 5 l 1 := by simp [rest]

theorem parts_no {k i : Int} {s : ByteArray} {l : List V} (h : partsB l = false) : fitV (.mk k i s l) = false := by
  have hl : ¬ l.length = 0 := fun e => by
    have : l = [] := List.eq_nil_of_length_eq_zero e
    subst this
    simp [partsB] at h
  rw [fitV]
  simp only [h, hl, decide_false, Bool.and_false, Bool.false_and]
  repeat' split
  all_goals rfl

def lightN : Nat → Nat
  | 0 => 0
  | d + 1 => 126 + 12 * lightN d
end Go.Ew

namespace Go.Proofs.Ytnngkkpgdjihgaa
open Go.Ev Go.Ew
namespace Va
section
variable (ok : EnvOk (env Try.prog))
include ok

theorem c15 : ∀ (N : Nat) (v : V) (cs : List Value) (H : KH) (Q : Value → KH → Prop), szV v ≤ N → N ≤ 4000000 → RV H v cs → Q (.int .i64 (szV v : Nat)) H → Does (env Try.prog) 15 [.agg cs.toArray] H Q := by
  intro N
  induction N with
  | zero => intro v cs H Q h1; have := szV_pos v; omega
  | succ N ih =>
    intro v cs H Q h1 h2 hr hq
    obtain ⟨k, i, s, l⟩ := v
    obtain ⟨a, n, c, rfl, rfl, hl, hok⟩ := hr
    simp only [szV] at h1 hq
    have hll := len_szL l
    refine fn15 ok ⟨by omega, ?_⟩
    unfold vc15_L1
    refine ⟨fun m x4 x5 s6 a7 n8 n9 x10 x11 H12 => a7 = a ∧ n8 = l.length ∧ H12 = H ∧ ∃ j : Nat, x11 = j ∧ j ≤ l.length ∧ m = l.length - j ∧ x10 = ((1 + s.size / 16 + szTo l j : Nat) : Int), ⟨l.length, rfl, rfl, rfl, 0, rfl, by omega, rfl, ?_⟩, ?_⟩
    · have h0 : szTo l 0 = 0 := by simp [szTo, szL]
      rw [tdiv_nat, wrap64 (x := ((s.size / 16 : Nat) : Int)) (by omega) (by omega), wrap64 (by omega) (by omega), h0]
      omega
    · rintro m x4 x5 s6 a7 n8 n9 x10 x11 H12 ⟨rfl, rfl, rfl, j, rfl, hj, rfl, rfl⟩
      refine ⟨fun hlt => ?_, fun hge => ?_⟩
      · have hlt : j < l.length := by have := of_decide_eq_true hlt; omega
        have t1 : Int.toNat (j : Int) = j := by omega
        rw [t1]
        obtain ⟨b, o, e1, k1, i1, s1, a1, m1, c1, l1, r1⟩ := elem hl hlt
        have hx : l[j]? = some l[j] := by simp [hlt]
        have hto1 := szTo_succ l j _ hx
        have hto2 := szTo_le l (j + 1)
        have hm := mem_szL (List.getElem_mem hlt)
        refine ⟨⟨by omega, by omega⟩, b, o, e1, k1, i1, s1, a1, m1, c1, l1, ih _ _ _ _ (by omega) (by omega) r1 ⟨_, rfl, l.length - (j + 1), by omega, rfl, rfl, rfl, j + 1, by rw [wrap64 (by omega) (by omega)]; omega, by omega, rfl, ?_⟩⟩
        rw [wrap64 (by omega) (by omega), hto1]; omega
      · have hge : l.length ≤ j := by have := of_decide_eq_false hge; omega
        have hjl : j = l.length := by omega
        subst hjl
        rw [szTo_all]
        exact hq

theorem c9 : ∀ (d : Nat) (v : V) (cs : List Value) (H : KH) (Q : Value → KH → Prop), d ≤ 100 → RV H v cs → (∀ b : Bool, (b = true → szV v ≤ lightN d ∧ dpV v < d) → Q (.bool b) H) → Does (env Try.prog) 9 [.agg cs.toArray, .int .i64 d] H Q := by
  intro d
  induction d with
  | zero =>
    intro v cs H Q hd hr hq
    obtain ⟨k, i, s, l⟩ := v
    obtain ⟨a, n, c, rfl, rfl, hl, hok⟩ := hr
    exact fn9 ok ⟨fun _ => hq false (by simp), fun h => by simp at h⟩
  | succ d ih =>
    intro v cs H Q hd hr hq
    obtain ⟨k, i, s, l⟩ := v
    obtain ⟨a, n, c, rfl, rfl, hl, hok⟩ := hr
    have no : Q (.bool false) H := hq false (by simp)
    refine fn9 ok ⟨fun _ => no, fun _ => ⟨fun _ => no, fun h1 => ⟨fun _ => no, fun h2 => ?_⟩⟩⟩
    have h1 : l.length ≤ 12 := by have := of_decide_eq_false h1; omega
    have h2 : s.size ≤ 2000 := by have := of_decide_eq_false h2; omega
    unfold vc9_L1
    refine ⟨fun m x4 x5 x6 s7 a8 n9 n10 x11 H12 => x4 = ((d + 1 : Nat) : Int) ∧ a8 = a ∧ n9 = l.length ∧ H12 = H ∧ ∃ j : Nat, x11 = j ∧ j ≤ l.length ∧ m = l.length - j ∧ szTo l j ≤ j * lightN d ∧ dpL (l.take j) ≤ d, ⟨l.length, rfl, rfl, rfl, rfl, 0, rfl, by omega, rfl, by simp [szTo, szL], by simp [dpL]⟩, ?_⟩
    rintro m x4 x5 x6 s7 a8 n9 n10 x11 H12 ⟨rfl, rfl, rfl, rfl, j, rfl, hj, rfl, g1, g2⟩
    refine ⟨fun hlt => ?_, fun hge => ?_⟩
    · have hlt : j < l.length := by have := of_decide_eq_true hlt; omega
      have t1 : Int.toNat (j : Int) = j := by omega
      have hw : IntKind.wrap .i64 (((d + 1 : Nat) : Int) - 1) = (d : Int) := by rw [wrap64 (by omega) (by omega)]; omega
      rw [t1, hw]
      obtain ⟨b, o, e1, k1, i1, s1, a1, m1, c1, l1, r1⟩ := elem hl hlt
      have hx : l[j]? = some l[j] := by simp [hlt]
      have hto1 := szTo_succ l j _ hx
      have htk : l.take (j + 1) = l.take j ++ [l[j]] := by rw [List.take_add_one]; simp [hlt]
      refine ⟨⟨by omega, by omega⟩, b, o, e1, k1, i1, s1, a1, m1, c1, l1, ih _ _ _ _ (by omega) r1 fun bb hbb => ⟨_, rfl, fun _ => no, fun hb => ?_⟩⟩
      obtain ⟨q1, q2⟩ := hbb (by simpa using hb)
      refine ⟨l.length - (j + 1), by omega, rfl, rfl, rfl, rfl, j + 1, by rw [wrap64 (by omega) (by omega)]; omega, by omega, rfl, by rw [hto1, Nat.add_mul]; omega, ?_⟩
      rw [htk]
      have hda : ∀ (x : List V) (y : V), dpL (x ++ [y]) = max (dpL x) (dpV y + 1) := by
        intro x y
        induction x with
        | nil => simp [dpL]
        | cons z x ih => simp only [List.cons_append, dpL, ih]; omega
      rw [hda]
      omega
    · have hge : l.length ≤ j := by have := of_decide_eq_false hge; omega
      have hjl : j = l.length := by omega
      subst hjl
      rw [szTo_all] at g1
      rw [List.take_length] at g2
      refine hq true fun _ => ⟨?_, by simp only [dpV]; omega⟩
      have : l.length * lightN d ≤ 12 * lightN d := Nat.mul_le_mul_right _ h1
      simp only [szV, lightN]
      omega

theorem l12 {k i : Int} {s : ByteArray} {l : List V} {a : Option Addr} {c : Nat} {H : KH} {Q : Value → KH → Prop} (hl : RS H l a) (hn : l.length ≤ 1000) (hsz : ∀ x ∈ l, szV x ≤ 60000) (hq : Q (.bool (rest k l 0)) H) : vc12_L3 k i s a l.length c H Q := by
  unfold vc12_L3
  refine ⟨fun m x4 x5 s6 a7 n8 n9 x10 H11 => x4 = k ∧ a7 = a ∧ n8 = l.length ∧ H11 = H ∧ ∃ j : Nat, x10 = j ∧ j ≤ l.length ∧ m = l.length - j ∧ rest k l 0 = rest k l j ∧ (k = 6 → ∀ i (h : i < l.length), i < j → pairB l[i] = true), ⟨l.length, rfl, rfl, rfl, rfl, 0, rfl, by omega, rfl, rfl, fun _ i _ h => by omega⟩, ?_⟩
  rintro m x4 x5 s6 a7 n8 n9 x10 H11 ⟨rfl, rfl, rfl, rfl, j, rfl, hj, rfl, e, hpr⟩
  refine ⟨fun hlt => ?_, fun hge => ?_⟩
  · have hlt : j < l.length := by have := of_decide_eq_true hlt; omega
    have t1 : Int.toNat (j : Int) = j := by omega
    rw [t1]
    have hj1 : IntKind.wrap .i64 ((j : Int) + 1) = ((j + 1 : Nat) : Int) := by rw [wrap64 (by omega) (by omega)]; omega
    have no : rest x4 l j = false → Q (.bool false) H11 := fun h => by rw [e, h] at hq; exact hq
    have next : rest x4 l j = rest x4 l (j + 1) → (x4 = 6 → pairB l[j] = true) → ∃ m', m' < l.length - j ∧ (x4 = x4 ∧ a7 = a7 ∧ l.length = l.length ∧ H11 = H11 ∧ ∃ j' : Nat, IntKind.wrap .i64 ((j : Int) + 1) = j' ∧ j' ≤ l.length ∧ m' = l.length - j' ∧ rest x4 l 0 = rest x4 l j' ∧ (x4 = 6 → ∀ i (h : i < l.length), i < j' → pairB l[i] = true)) :=
      fun h1 h2 => ⟨l.length - (j + 1), by omega, rfl, rfl, rfl, rfl, j + 1, hj1, by omega, rfl, e.trans h1, fun h6 i hi hlt2 => by
        by_cases hij : i < j
        · exact hpr h6 i hi hij
        · have : i = j := by omega
          subst this
          exact h2 h6⟩
    obtain ⟨b, o, e1, k1, i1, s1, a1, m1, c1, l1, r1⟩ := elem hl hlt
    have r1' := r1
    refine ⟨⟨by omega, by omega⟩, b, o, e1, k1, i1, s1, a1, m1, c1, l1, trivial, fun h5 => ?_, fun h5 => ⟨trivial, ?_⟩⟩
    · have h5 : x4 = 5 := by simpa using h5
      subst h5
      refine ⟨fun h0 => ?_, fun h0 => ⟨trivial, ?_⟩⟩
      · have h0 : 0 < j := by have := of_decide_eq_true h0; omega
        have hw : IntKind.wrap .i64 ((j : Int) - 1) = ((j - 1 : Nat) : Int) := by rw [wrap64 (by omega) (by omega)]; omega
        have t2 : Int.toNat ((j - 1 : Nat) : Int) = j - 1 := by omega
        rw [hw, t2]
        obtain ⟨b', o', e1', k2, i2, s2, a2, m2, c2, l2, r2⟩ := elem hl (show j - 1 < l.length by omega)
        have hr5 := rest5 hlt h0
        refine ⟨⟨by omega, by omega⟩, b', o', e1', k2, i2, s2, a2, m2, c2, l2, c17 ok 60000 _ _ _ _ _ _ (hsz _ (List.getElem_mem _)) (by omega) (Nat.le_trans (hsz _ (List.getElem_mem hlt)) (by omega)) r2 r1 ⟨_, rfl, trivial, fun hc => ?_, fun hc => ?_⟩⟩
        · have hc := of_decide_eq_true hc
          refine no ?_
          rw [hr5, decide_eq_false (by omega), Bool.false_and]
        · have hc := of_decide_eq_false hc
          rw [decide_eq_true (by omega), Bool.true_and] at hr5
          unfold vc12_J1
          refine ⟨trivial, fun h => by simp at h, fun _ => next hr5 (by omega)⟩
      · have h0 : j = 0 := by have := of_decide_eq_false h0; omega
        subst h0
        unfold vc12_J1
        refine ⟨trivial, fun h => by simp at h, fun _ => next rest50 (by omega)⟩
    · have h5 : ¬ x4 = 5 := by simpa using h5
      unfold vc12_J1
      refine ⟨trivial, fun h6 => ?_, fun h6 => ?_⟩
      · have h6 : x4 = 6 := by simpa using h6
        subst h6
        have hfirst : rest 6 l j = false ∨ pairB l[j] = true := by
          cases hp : pairB l[j] with
          | true => exact .inr rfl
          | false =>
            refine .inl ?_
            by_cases h0 : 0 < j
            · rw [rest6 hlt h0, hp, Bool.false_and]
            · have h0 : j = 0 := by omega
              subst h0
              rw [rest60 hlt, hp, Bool.false_and]
        have hr0 : ∀ (h0 : ¬ 0 < j), pairB l[j] = true → rest 6 l j = rest 6 l (j + 1) := fun h0 hp => by
          have h0 : j = 0 := by omega
          subst h0
          rw [rest60 hlt, hp, Bool.true_and]
        have hr1 : ∀ (h0 : 0 < j), pairB l[j] = true → rest 6 l j = (decide (cmpK (l[j - 1]'(by omega)) l[j] < 0) && rest 6 l (j + 1)) := fun h0 hp => by
          rw [rest6 hlt h0, hp, Bool.true_and]
        have hpj := hpr rfl
        have hnop : pairB l[j] = false → Q (.bool false) H11 := fun hp => no (by rcases hfirst with q | q; exact q; rw [hp] at q; cases q)
        generalize hy : l[j] = y at *
        obtain ⟨ky, iy, sy, ly⟩ := y
        obtain ⟨_, _, _, e2, rfl, h3, h4⟩ := r1
        cases e2
        refine ⟨fun h => hnop ?_, fun h => ⟨fun h' => hnop ?_, fun h' => ?_⟩⟩
        · have h := of_decide_eq_true h
          simp [pairB, h]
        · have h' := of_decide_eq_true h'
          have : ¬ ly.length = 2 := by omega
          simp [pairB, this]
        · have h := of_decide_eq_false h
          have h' := of_decide_eq_false h'
          have hk : k1 = 4 := by omega
          have h2 : ly.length = 2 := by omega
          cases ly with
          | nil => simp at h2
          | cons z ly =>
            obtain ⟨b2, o2, ha2, ⟨cs, h5', h6'⟩, h7⟩ := h3
            obtain ⟨kz, iz, sz, lz⟩ := z
            obtain ⟨az, nz, cz, rfl, _⟩ := h6'
            refine ⟨⟨by omega, by omega⟩, b2, o2, ha2, rfl, kz, ld_sub h5' 0 1 (by simp), fun h8 => hnop ?_, fun h8 => ?_⟩
            · have h8 := of_decide_eq_true h8
              simp [pairB, kV, h8]
            · have h8 := of_decide_eq_false h8
              have h8 : kz = 3 := by omega
              have hp : pairB (.mk k1 i1 s1 (.mk kz iz sz lz :: ly)) = true := by
                have h9 : ly.length = 1 := by simpa using h2
                simp [pairB, kV, h8, hk, h9]
              refine ⟨fun h0 => ?_, fun h0 => next (hr0 (by have := of_decide_eq_false h0; omega) hp) fun _ => hp⟩
              have h0 : 0 < j := by have := of_decide_eq_true h0; omega
              have hr := hr1 h0 hp
              have hw : IntKind.wrap .i64 ((j : Int) - 1) = ((j - 1 : Nat) : Int) := by rw [wrap64 (by omega) (by omega)]; omega
              have t2 : Int.toNat ((j - 1 : Nat) : Int) = j - 1 := by omega
              rw [hw, t2]
              obtain ⟨b', o', e1', k2, i2, s2, a2, m2, c2, l2, r2⟩ := elem hl (show j - 1 < l.length by omega)
              have hpp := hpj (j - 1) (by omega) (by omega)
              generalize l[j - 1]'(by omega) = x at *
              obtain ⟨kx, ix, sx, lx⟩ := x
              obtain ⟨_, _, _, e3, rfl, h3x, h4x⟩ := r2
              cases e3
              cases lx with
              | nil => simp [pairB] at hpp
              | cons zx lx =>
                obtain ⟨b3, o3, ha3, ⟨cs3, h53, h63⟩, h73⟩ := h3x
                obtain ⟨kzx, izx, szx, lzx⟩ := zx
                obtain ⟨azx, nzx, czx, rfl, _⟩ := h63
                refine ⟨⟨by omega, by omega⟩, b', o', e1', rfl, _, _, _, ld_sub l2 3 1 (by simp), ⟨by omega, by simp only [List.length_cons]; omega⟩, b3, o3, ha3, rfl, szx, ld_sub h53 2 1 (by simp), ⟨by omega, by omega⟩, b2, o2, ha2, rfl, sz, ld_sub h5' 2 1 (by simp), fun hc => no ?_, fun hc => next ?_ fun _ => hp⟩
                · have hc : strLt szx sz = false := by simpa using hc
                  rw [hr, decide_eq_false (fun q => by
                    have := cmpK_lt.1 q
                    simp only [keyV] at this
                    rw [hc] at this; cases this), Bool.false_and]
                · have hc : strLt szx sz = true := by simpa using hc
                  rw [hr, decide_eq_true (cmpK_lt.2 (by simpa only [keyV] using hc)), Bool.true_and]
      · have h6 : ¬ x4 = 6 := by simpa using h6
        exact next (rest4 h5 h6) fun q => absurd q h6
  · have hge : l.length ≤ j := by have := of_decide_eq_false hge; omega
    have hjl : j = l.length := by omega
    subst hjl
    rw [e, rest_end] at hq
    exact hq

theorem c12 : ∀ (N : Nat) (v : V) (cs : List Value) (H : KH) (Q : Value → KH → Prop), szV v ≤ N → N ≤ 4000000 → RV H v cs → Q (.bool (decide (szV v ≤ 60) && fitV v)) H → Does (env Try.prog) 12 [.agg cs.toArray] H Q := by
  intro N
  induction N with
  | zero => intro v cs H Q h1; have := szV_pos v; omega
  | succ N ih =>
    intro v cs H Q h1 h2 hr hq
    have hr' := hr
    obtain ⟨k, i, s, l⟩ := v
    obtain ⟨a, n, c, rfl, rfl, hl, hok⟩ := hr
    refine fn12 ok (c15 ok 4000000 _ _ H _ (by omega) (by omega) hr' ⟨_, rfl, fun h => ?_, fun h => ?_⟩)
    · have h := of_decide_eq_true h
      rw [decide_eq_false (by omega), Bool.false_and] at hq
      exact hq
    · have h60 : szV (.mk k i s l) ≤ 60 := by have := of_decide_eq_false h; omega
      rw [decide_eq_true h60, Bool.true_and] at hq
      have hsl : szL l < 60 := by simp only [szV] at h60; omega
      have hll := len_szL l
      have hz : decide ((l.length : Int) = 0) = decide (l.length = 0) := by
        by_cases h : l.length = 0
        · simp [h]
        · have : ¬ (l.length : Int) = 0 := by omega
          rw [decide_eq_false h, decide_eq_false this]
      unfold vc12_L6
      refine ⟨fun m x4 x5 s6 a7 n8 n9 x10 H11 => x4 = k ∧ x5 = i ∧ s6 = s ∧ a7 = a ∧ n8 = l.length ∧ H11 = H ∧ ∃ j : Nat, x10 = j ∧ j ≤ l.length ∧ m = l.length - j ∧ partsB l = partsB (l.drop j), ⟨l.length, rfl, rfl, rfl, rfl, rfl, rfl, 0, rfl, by omega, rfl, by simp⟩, ?_⟩
      rintro m x4 x5 s6 a7 n8 n9 x10 H11 ⟨rfl, rfl, rfl, rfl, rfl, rfl, j, rfl, hj, rfl, e⟩
      refine ⟨fun hlt => ?_, fun hge => ?_⟩
      · have hlt : j < l.length := by have := of_decide_eq_true hlt; omega
        have t1 : Int.toNat (j : Int) = j := by omega
        rw [t1]
        obtain ⟨b, o, e1, k1, i1, s1, a1, m1, c1, l1, r1⟩ := elem hl hlt
        have hs := parts_step hlt
        have hm := mem_szL (List.getElem_mem hlt)
        have no : partsB l = false → Q (.bool false) H11 := fun h => by rw [parts_no h] at hq; exact hq
        refine ⟨⟨by omega, by omega⟩, b, o, e1, k1, i1, s1, a1, m1, c1, l1, ih _ _ _ _ (by simp only [szV] at h1; omega) (by omega) r1 ⟨_, rfl, fun h' => no ?_, fun h' => ⟨⟨by omega, by omega⟩, b, o, e1, rfl, k1, ld_sub l1 0 1 (by simp), fun h7 => no ?_, fun h7 => ?_⟩⟩⟩
        · rw [decide_eq_true (show szV l[j] ≤ 60 by omega), Bool.true_and] at h'
          have h' : fitV l[j] = false := by simpa using h'
          rw [e, hs, h', Bool.false_and, Bool.and_false]
        · have h7 : k1 = 7 := by simpa using h7
          have hk : kV l[j] = 7 := by
            generalize l[j] = y at *
            obtain ⟨ky, iy, sy, ly⟩ := y
            obtain ⟨_, _, _, e2, _⟩ := r1
            cases e2
            exact h7
          rw [e, hs, decide_eq_false (by rw [hk]; simp), Bool.false_and]
        · rw [decide_eq_true (show szV l[j] ≤ 60 by omega), Bool.true_and] at h'
          have h' : fitV l[j] = true := by simpa using h'
          have h7 : ¬ k1 = 7 := by simpa using h7
          have hk : kV l[j] ≠ 7 := by
            generalize l[j] = y at *
            obtain ⟨ky, iy, sy, ly⟩ := y
            obtain ⟨_, _, _, e2, _⟩ := r1
            cases e2
            exact h7
          rw [h', decide_eq_true hk, Bool.true_and, Bool.true_and] at hs
          exact ⟨l.length - (j + 1), by omega, rfl, rfl, rfl, rfl, rfl, rfl, j + 1, by rw [wrap64 (by omega) (by omega)]; omega, by omega, rfl, e.trans hs⟩
      · have hge : l.length ≤ j := by have := of_decide_eq_false hge; omega
        have hjl : j = l.length := by omega
        subst hjl
        have hpt : partsB l = true := by rw [e, List.drop_length]; rfl
        refine ⟨fun h => ?_, fun g1 => ⟨fun h => ?_, fun g2 => ⟨fun h => ?_, fun g3 => ⟨fun h => ?_, fun g7 => ?_⟩⟩⟩⟩
        · have h : x4 = 1 := by simpa using h
          subst h
          have hf : fitV (.mk 1 x5 s6 l) = (strEq s6 (ByteArray.mk #[]) && decide (l.length = 0)) := by rw [fitV]; simp
          rw [hf, ← hz] at hq
          refine ⟨fun e => ?_, fun e => ?_⟩
          · rw [e, Bool.true_and] at hq; exact hq
          · rw [e, Bool.false_and] at hq; exact hq
        · have h : x4 = 2 := by simpa using h
          subst h
          have hf : fitV (.mk 2 x5 s6 l) = ((decide (x5 = 0) || decide (x5 = 1)) && (strEq s6 (ByteArray.mk #[]) && decide (l.length = 0))) := by rw [fitV]; simp
          rw [hf, ← hz] at hq
          refine ⟨fun e => ⟨fun e0 => ⟨fun e1 => ?_, fun e1 => ?_⟩, fun e0 => ?_⟩, fun e => ?_⟩
          · rw [e, e0, e1, Bool.true_or] at hq; exact hq
          · rw [e, e0, e1, Bool.false_or, Bool.and_self, Bool.and_true] at hq; exact hq
          · rw [e0, Bool.and_false, Bool.and_false] at hq; exact hq
          · rw [e, Bool.false_and, Bool.and_false] at hq; exact hq
        · have h : x4 = 3 := by simpa using h
          subst h
          have hf : fitV (.mk 3 x5 s6 l) = (decide (x5 = 0) && decide (l.length = 0)) := by rw [fitV]; simp
          rw [hf, ← hz] at hq
          refine ⟨fun e => ?_, fun e => ?_⟩
          · rw [e, Bool.true_and] at hq; exact hq
          · rw [e, Bool.false_and] at hq; exact hq
        · have h : x4 = 7 := by simpa using h
          subst h
          have hf : fitV (.mk 7 x5 s6 l) = ((decide (1 ≤ x5) && decide (x5 ≤ 13)) && (strEq s6 (ByteArray.mk #[]) && decide (l.length = 0))) := by rw [fitV]; simp
          rw [hf, ← hz] at hq
          refine ⟨fun e => ⟨fun e0 => ⟨fun e1 => ?_, fun e1 => ?_⟩, fun e0 => ?_⟩, fun e => ?_⟩
          · rw [e, e0, e1, Bool.true_and, Bool.and_self, Bool.and_true] at hq; exact hq
          · rw [e1, Bool.false_and, Bool.false_and] at hq; exact hq
          · rw [e0, Bool.and_false, Bool.and_false] at hq; exact hq
          · rw [e, Bool.false_and, Bool.and_false] at hq; exact hq
        · have g1 : ¬ x4 = 1 := by simpa using g1
          have g2 : ¬ x4 = 2 := by simpa using g2
          have g3 : ¬ x4 = 3 := by simpa using g3
          have g7 : ¬ x4 = 7 := by simpa using g7
          have hf : fitV (.mk x4 x5 s6 l) = (decide (x5 = 0) && (strEq s6 (ByteArray.mk #[]) && (decide (4 ≤ x4 ∧ x4 ≤ 6) && rest x4 l 0))) := by
            rw [fitV]
            simp only [g1, g2, g3, g7, if_false, hpt, Bool.and_true]
            by_cases h4 : x4 = 4
            · subst h4; simp [rest]
            · by_cases h5 : x4 = 5
              · subst h5; simp [rest, Bool.and_assoc]
              · by_cases h6 : x4 = 6
                · subst h6; simp [rest, Bool.and_assoc]
                · have : ¬ (4 ≤ x4 ∧ x4 ≤ 6) := by omega
                  simp [h4, h5, h6, this]
          rw [hf] at hq
          refine ⟨fun h => ?_, fun h0 => ⟨fun h => ?_, fun hs => ⟨fun h => ?_, fun h4 => ⟨fun h => ?_, fun h6 => ?_⟩⟩⟩⟩
          · have h := of_decide_eq_true h
            rw [decide_eq_false h, Bool.false_and] at hq; exact hq
          · have h : strEq s6 (ByteArray.mk #[]) = false := by simpa using h
            rw [h, Bool.false_and, Bool.and_false] at hq; exact hq
          · have h := of_decide_eq_true h
            rw [decide_eq_false (show ¬ (4 ≤ x4 ∧ x4 ≤ 6) by omega), Bool.false_and, Bool.and_false, Bool.and_false] at hq; exact hq
          · have h := of_decide_eq_true h
            rw [decide_eq_false (show ¬ (4 ≤ x4 ∧ x4 ≤ 6) by omega), Bool.false_and, Bool.and_false, Bool.and_false] at hq; exact hq
          · have h0 : x5 = 0 := by simpa using h0
            have hs : strEq s6 (ByteArray.mk #[]) = true := by simpa using hs
            have h4 := of_decide_eq_false h4
            have h6 := of_decide_eq_false h6
            rw [decide_eq_true h0, hs, decide_eq_true (show (4 ≤ x4 ∧ x4 ≤ 6) by omega), Bool.true_and, Bool.true_and, Bool.true_and] at hq
            exact l12 ok hl (by omega) (fun x hx => by have := mem_szL hx; omega) hq
end
end Va
end Go.Proofs.Ytnngkkpgdjihgaa

/- The law ValAll: what its function answers. -/
set_option linter.unusedVariables false
set_option linter.unusedSimpArgs false
namespace Go.Proofs.Ytnngkkpgdjihgaa
open Go.Ev Go.Ew
namespace Va
section
variable (ok : EnvOk (env Try.prog))
include ok

def mayV (v : Ew.V) : Bool := decide (szV v ≤ 60) && fitV v

theorem l3a {L : List Ew.V} {a : Option Addr} {c j M : Nat} {H : KH} {Q : Value → KH → Prop} {I : Nat → Option Addr → Nat → Nat → Int → KH → Prop} (hL : RS H L a) (h4 : L.length = 4) (hsz : ∀ v ∈ L, szV v ≤ 4000000) (hj : j < L.length)
    (hI : ∃ m', m' < M ∧ I m' a 4 c (IntKind.wrap .i64 ((j : Int) + 1)) H) : vc3_L1 a 4 c j (mayV L[j]) H Q M I := by
  unfold vc3_L1
  refine ⟨fun m a4 n5 n6 x7 b8 x9 H10 => a4 = a ∧ n5 = 4 ∧ n6 = c ∧ x7 = j ∧ b8 = mayV L[j] ∧ H10 = H ∧ ∃ k : Nat, x9 = k ∧ k ≤ 4 ∧ m = 4 - k, ⟨4, rfl, rfl, rfl, rfl, rfl, rfl, 0, rfl, by omega, rfl⟩, ?_⟩
  rintro m a4 n5 n6 x7 b8 x9 H10 ⟨rfl, rfl, rfl, rfl, rfl, rfl, k, rfl, hk, rfl⟩
  refine ⟨fun hlt => ⟨trivial, ?_⟩, fun _ => hI⟩
  have hlt : k < 4 := by have := of_decide_eq_true hlt; omega
  have hkL : k < L.length := by omega
  have next : ∃ m', m' < 4 - k ∧ (a4 = a4 ∧ 4 = 4 ∧ n6 = n6 ∧ (j : Int) = j ∧ mayV L[j] = mayV L[j] ∧ H10 = H10 ∧ ∃ k' : Nat, IntKind.wrap .i64 ((k : Int) + 1) = k' ∧ k' ≤ 4 ∧ m' = 4 - k') :=
    ⟨4 - (k + 1), by omega, rfl, rfl, rfl, rfl, rfl, rfl, k + 1, by rw [wrap64 (by omega) (by omega)]; omega, by omega, rfl⟩
  have t1 : Int.toNat (k : Int) = k := by omega
  have t2 : Int.toNat (j : Int) = j := by omega
  rw [t1, t2]
  refine ⟨fun hb => ?_, fun _ => ⟨trivial, ⟨trivial, trivial, trivial, trivial, trivial, trivial, trivial, trivial, trivial⟩, trivial, next⟩⟩
  obtain ⟨b, o, e1, k1, i1, s1, a1, m1, c1, l1, r1⟩ := elem hL hkL
  obtain ⟨b', o', e2, k2, i2, s2, a2, m2, c2, l2, r2⟩ := elem hL hj
  have z1 := hsz _ (List.getElem_mem hkL)
  have hmj : szV L[j] ≤ 60 := by
    have : mayV L[j] = true := hb
    unfold mayV at this
    simp at this
    exact this.1
  refine ⟨⟨by omega, by omega⟩, b, o, e1, k1, i1, s1, a1, m1, c1, l1, c12 ok 4000000 _ _ _ _ z1 (by omega) r1 ⟨_, rfl, trivial, fun hb2 => ?_, fun _ => ⟨⟨trivial, trivial, trivial, trivial, trivial, trivial, trivial, trivial, trivial⟩, trivial, next⟩⟩⟩
  have hmk : szV L[k] ≤ 60 := by
    simp at hb2
    exact hb2.1
  refine ⟨⟨by omega, by omega⟩, b', o', e2, k2, i2, s2, a2, m2, c2, l2, ⟨by omega, by omega⟩, b, o, e1, k1, i1, s1, a1, m1, c1, l1, ⟨by omega, by omega⟩, b', o', e2, k2, i2, s2, a2, m2, c2, l2, ⟨by omega, by omega⟩, b, o, e1, k1, i1, s1, a1, m1, c1, l1,
    c16 ok (by omega) (by omega) r2 r1 ⟨_, rfl, ⟨rfl, rfl, ⟨⟨by omega, by omega⟩, b', o', e2, rfl⟩, ⟨k2, i2, s2, a2, m2, c2, l2, rfl⟩, rfl, rfl, ⟨⟨by omega, by omega⟩, b, o, e1, rfl⟩, ⟨k1, i1, s1, a1, m1, c1, l1, rfl⟩, trivial⟩,
      c17 ok 60 _ _ _ _ _ _ hmj (by omega) (by omega) r2 r1 ⟨_, rfl, trivial, fun hne => ?_, fun _ => next⟩⟩⟩
  simp at hne

theorem c3 {va vb : Ew.V} {ca cb : List Value} {a2 a3 : Option Addr} {n2 n3 d2 d3 : Nat} {H : KH} (ha : RV H va ca) (hb : RV H vb cb) (h2 : U8 H a2 n2) (h3 : U8 H a3 n3) :
    Does (env Try.prog) 3 [.agg ca.toArray, .agg cb.toArray, .slice a2 n2 d2, .slice a3 n3 d3] H fun v _ => v = .bool true := by
  have ha' := ha
  have hb' := hb
  obtain ⟨ka, ia, sa, la⟩ := va
  obtain ⟨aa, na, cca, rfl, rfl, _⟩ := ha
  obtain ⟨kb, ib, sb, lb⟩ := vb
  obtain ⟨ab, nb, ccb, rfl, rfl, _⟩ := hb
  generalize hva : V.mk ka ia sa la = va at *
  generalize hvb : V.mk kb ib sb lb = vb at *
  generalize la.length = na at *
  generalize lb.length = nb at *
  have hl5 : lightN 5 ≤ 4000000 := by decide
  refine fn3 ok (does_true (by kernel_rfl) (by kernel_rfl) (by kernel_rfl) ⟨true, rfl, fun h => (by simp at h), fun _ => c9 ok 5 va _ H _ (by omega) ha' fun ba hba => ⟨_, rfl, fun _ => rfl, fun hA => c9 ok 5 vb _ H _ (by omega) hb' fun bb hbb => ⟨_, rfl, fun _ => rfl, fun hB => ⟨fun _ => rfl, fun g2 => ⟨fun _ => rfl, fun g3 => ⟨trivial, ?_⟩⟩⟩⟩⟩⟩)
  have hA := hba (by simpa using hA)
  have hB := hbb (by simpa using hB)
  have g2 : n2 ≤ 60 := by have := of_decide_eq_false g2; omega
  have g3 : n3 ≤ 60 := by have := of_decide_eq_false g3; omega
  refine c10 ok h2 (by omega) fun p0 H0 hp0 => ⟨p0, 0, rfl, ⟨rfl, rfl, rfl, trivial⟩, c11 ok 3 (by omega) _ H0 p0 _ hp0 fun x cx K0 H0' q1 q2 q3 q4 => ?_⟩
  have hx := q3
  have e1 := q2.trans q1.le
  obtain ⟨k, i, s, l⟩ := x
  obtain ⟨ax, nx, cx', rfl, _⟩ := q3
  refine ⟨k, i, s, ax, nx, cx', rfl, ⟨rfl, rfl, rfl, trivial⟩, ?_⟩
  generalize hxv : V.mk k i s l = x at *
  refine c10 ok (h3.mono e1) (by omega) fun p1 H1 hp1 => ⟨p1, 0, rfl, ⟨rfl, rfl, trivial⟩, c11 ok 3 (by omega) _ H1 p1 _ hp1 fun y cy K1 H1' r1 r2 r3 r4 => ?_⟩
  have hy := r3
  have e2 := r2.trans r1.le
  obtain ⟨k', i', s', l'⟩ := y
  obtain ⟨ay, ny, cy', rfl, _⟩ := r3
  refine ⟨k', i', s', ay, ny, cy', rfl, ⟨rfl, rfl, trivial⟩, fun n25 hn25 => ?_⟩
  generalize hyv : V.mk k' i' s' l' = y at *
  have zx : szV x ≤ 4000000 := Nat.le_trans q4.1 (by decide)
  have zy : szV y ≤ 4000000 := Nat.le_trans r4.1 (by decide)
  have zx2 : szV x ≤ 60000 := Nat.le_trans q4.1 (by decide)
  have zy2 : szV y ≤ 60000 := Nat.le_trans r4.1 (by decide)
  have dx := dp_sz x
  have dy := dp_sz y
  have e3 := Le.new hn25 (e := mkEnt [.int .i64 ka, .int .i64 ia, .string sa, .slice aa na cca, .int .i64 kb, .int .i64 ib, .string sb, .slice ab nb ccb, .int .i64 k, .int .i64 i, .string s, .slice ax nx cx', .int .i64 k', .int .i64 i', .string s', .slice ay ny cy'] 0)
  have hat : (H1'.new n25 (mkEnt [.int .i64 ka, .int .i64 ia, .string sa, .slice aa na cca, .int .i64 kb, .int .i64 ib, .string sb, .slice ab nb ccb, .int .i64 k, .int .i64 i, .string s, .slice ax nx cx', .int .i64 k', .int .i64 i', .string s', .slice ay ny cy'] 0)) n25 = some (mkEnt [.int .i64 ka, .int .i64 ia, .string sa, .slice aa na cca, .int .i64 kb, .int .i64 ib, .string sb, .slice ab nb ccb, .int .i64 k, .int .i64 i, .string s, .slice ax nx cx', .int .i64 k', .int .i64 i', .string s', .slice ay ny cy'] 0) := if_pos rfl
  unfold vc3_L3
  generalize H1'.new n25 (mkEnt [.int .i64 ka, .int .i64 ia, .string sa, .slice aa na cca, .int .i64 kb, .int .i64 ib, .string sb, .slice ab nb ccb, .int .i64 k, .int .i64 i, .string s, .slice ax nx cx', .int .i64 k', .int .i64 i', .string s', .slice ay ny cy'] 0) = H' at *
  have hown : Own (fun _ => none) H' 4 (some ⟨n25, 0, none⟩) 4 4 [.int .i64 ka, .int .i64 ia, .string sa, .slice aa na cca, .int .i64 kb, .int .i64 ib, .string sb, .slice ab nb ccb, .int .i64 k, .int .i64 i, .string s, .slice ax nx cx', .int .i64 k', .int .i64 i', .string s', .slice ay ny cy'] := .lit n25 4 _ hat rfl (by decide) rfl
  have f1 : RV H' va [.int .i64 ka, .int .i64 ia, .string sa, .slice aa na cca] := ((ha'.mono e1).mono e2).mono e3
  have f2 : RV H' vb [.int .i64 kb, .int .i64 ib, .string sb, .slice ab nb ccb] := ((hb'.mono e1).mono e2).mono e3
  have f3 : RV H' x [.int .i64 k, .int .i64 i, .string s, .slice ax nx cx'] := ((hx.mono q1.le).mono e2).mono e3
  have f4 : RV H' y [.int .i64 k', .int .i64 i', .string s', .slice ay ny cy'] := (hy.mono r1.le).mono e3
  have hL : RS H' [va, vb, x, y] (some ⟨n25, 0, none⟩) := RS.of_cells hown.cells (RC.append (RC.append (RC.append (RC.one f1) (RC.one f2)) (RC.one f3)) (RC.one f4))
  have hsz : ∀ v ∈ [va, vb, x, y], szV v ≤ 4000000 ∧ dpV v ≤ 65536 := by
    intro v hv
    simp only [List.mem_cons, List.not_mem_nil, or_false] at hv
    rcases hv with rfl | rfl | rfl | rfl
    · omega
    · omega
    · omega
    · omega
  have h4 : [va, vb, x, y].length = 4 := rfl
  generalize [va, vb, x, y] = L at *
  refine ⟨fun m a4 n5 n6 x7 H8 => a4 = some ⟨n25, 0, none⟩ ∧ n5 = 4 ∧ H8 = H' ∧ ∃ j : Nat, x7 = j ∧ j ≤ 4 ∧ m = 4 - j, ⟨4, rfl, rfl, rfl, 0, rfl, by omega, rfl⟩, ?_⟩
  rintro m a4 n5 n6 x7 H8 ⟨rfl, rfl, rfl, j, rfl, hj, rfl⟩
  refine ⟨fun hlt => ?_, fun _ => rfl⟩
  have hlt : j < 4 := by have := of_decide_eq_true hlt; omega
  have hjL : j < L.length := by omega
  have t2 : Int.toNat (j : Int) = j := by omega
  rw [t2]
  obtain ⟨b, o, g1, k1, i1, s1, a1, m1, c1, l1, w1⟩ := elem hL hjL
  obtain ⟨z1, z2⟩ := hsz _ (List.getElem_mem hjL)
  refine ⟨⟨by omega, by omega⟩, b, o, g1, k1, i1, s1, a1, m1, c1, l1, c12 ok 4000000 _ _ _ _ z1 (by omega) w1 ⟨_, rfl, trivial, ⟨by omega, by omega⟩, b, o, g1, k1, i1, s1, a1, m1, c1, l1,
    c13 ok w1 z1 ⟨_, rfl, ⟨rfl, trivial⟩, fun hne => by simp at hne, fun _ => ⟨⟨by omega, by omega⟩, b, o, g1, k1, i1, s1, a1, m1, c1, l1, ⟨by omega, by omega⟩, b, o, g1, k1, i1, s1, a1, m1, c1, l1,
      c14 ok w1 z1 z2 ⟨_, rfl, ⟨rfl, rfl, ⟨⟨by omega, by omega⟩, b, o, g1, rfl⟩, ⟨k1, i1, s1, a1, m1, c1, l1, rfl⟩, trivial⟩,
        c15 ok 4000000 _ _ _ _ z1 (by omega) w1 ⟨_, rfl, trivial, fun hne => by simp at hne, fun _ => ?_⟩⟩⟩⟩⟩⟩
  exact l3a ok hL h4 (fun v hv => (hsz v hv).1) hjL ⟨4 - (j + 1), by omega, rfl, rfl, rfl, j + 1, by rw [wrap64 (by omega) (by omega)]; omega, by omega, rfl⟩
end
end Va
end Go.Proofs.Ytnngkkpgdjihgaa
