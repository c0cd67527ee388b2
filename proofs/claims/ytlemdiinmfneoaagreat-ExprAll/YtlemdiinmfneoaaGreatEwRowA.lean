import Derived.Test.YtlemdiinmfneoaaGreatEwSetsA
import Derived.Test.YtlemdiinmfneoaaGreatEwVc3
/- The law ValRow: what its function answers. -/
set_option linter.unusedVariables false
set_option linter.unusedSimpArgs false
namespace Go.Ew
open Go.Ev Go.Deep Go.Proofs.YtlemdiinmfneoaaGreat.Va

theorem find_spec {s : ByteArray} : ∀ {l : List V}, KR l → (∀ x ∈ l, 0 < kidsV x) → (findV s l).1 ≤ l.length ∧ (∀ i v, i < (findV s l).1 → l[i]? = some v → cmpS' (keyV v) s < 0) ∧
    (∀ i v, (findV s l).1 ≤ i → l[i]? = some v → 0 ≤ cmpS' (keyV v) s) ∧ ((findV s l).2 = true → ∃ v, l[(findV s l).1]? = some v ∧ cmpS' (keyV v) s = 0) ∧ ((findV s l).2 = false → ∀ v, l[(findV s l).1]? = some v → cmpS' (keyV v) s ≠ 0)
  | [], _, _ => by simp [findV]
  | y :: l, h, hc => by
    have hy : ∀ {w}, w ∈ l → cmpK y w < 0 := fun hw => List.rel_of_pairwise_cons h hw
    have hl : KR l := h.of_cons
    by_cases hlt : strLt (keyV y) s = true
    · obtain ⟨h1, h2, h3, h4, h5⟩ := find_spec (s := s) hl fun x hx => hc x (by simp [hx])
      simp only [findV, if_pos hlt]
      refine ⟨by simp; omega, fun i v hi hv => ?_, fun i v hi hv => ?_, fun hb => ?_, fun hb => ?_⟩
      · cases i with
        | zero => simp at hv; subst hv; exact lt_cmp hlt
        | succ i => exact h2 i v (by omega) (by simpa using hv)
      · cases i with
        | zero => omega
        | succ i => exact h3 i v (by omega) (by simpa using hv)
      · simpa using h4 hb
      · simpa using h5 hb
    · simp only [findV, if_neg hlt]
      have h0 : 0 < kidsV y := hc y (by simp)
      have hs := cmpS_str (keyV y) s
      have hge : 0 ≤ cmpS' (keyV y) s := by
        rw [hs]
        split
        · omega
        · omega
      refine ⟨by omega, fun i v hi => by omega, fun i v _ hv => ?_, fun hb => ?_, fun hb v hv => ?_⟩
      · cases i with
        | zero => simp at hv; subst hv; exact hge
        | succ i =>
          have hm : v ∈ l := List.mem_of_getElem? (by simpa using hv)
          have h1 : cmpS' (keyV y) (keyV v) < 0 := hy hm
          have h2 := cmpS_trans (keyV y) (keyV v) s
          omega
      · have he : strEq (keyV y) s = true := by simpa [h0] using hb
        exact ⟨y, by simp, by rw [hs, if_pos he]⟩
      · have he : strEq (keyV y) s = false := by simpa [h0] using hb
        simp at hv
        subst hv
        rw [hs, he]
        simp [hlt]
end Go.Ew

namespace Go.Proofs.YtlemdiinmfneoaaGreat
open Go.Ev Go.Ew
namespace Va
section
variable (ok : EnvOk (env Tryz.prog))
include ok

theorem c118 {x : V} {cx : List Value} {H : KH} {Q : PQ} (hx : RV H x cx) (hq : Q (.string (keyV x)) H) : Does (env Tryz.prog) 118 [.agg cx.toArray] H Q := by
  obtain ⟨k, i, s, l⟩ := x
  obtain ⟨a, n, c, rfl, rfl, hl, hok⟩ := hx
  refine fn118 ok ⟨fun h => ?_, fun h => ?_⟩
  · cases l with
    | nil => exact hq
    | cons y l => simp at h; omega
  · cases l with
    | nil => simp at h
    | cons y l =>
      obtain ⟨b, o, ha, ⟨cs, h2, h3⟩, h4⟩ := hl
      obtain ⟨k', i', s', l'⟩ := y
      obtain ⟨a', n', c', rfl, rfl, _, _⟩ := h3
      refine ⟨⟨by omega, by simp only [List.length_cons]; omega⟩, b, o, ha, rfl, s', ?_, hq⟩
      exact ld_sub h2 2 1 (by simp)

theorem c106 {x y : V} {cx cy : List Value} {H : KH} {Q : PQ} (hx : RV H x cx) (hy : RV H y cy) (hq : Q (.int .i64 (cmpK x y)) H) : Does (env Tryz.prog) 106 [.agg cx.toArray, .agg cy.toArray] H Q := by
  have hx' := hx
  have hy' := hy
  obtain ⟨k, i, s, l⟩ := x
  obtain ⟨a, n, c, rfl, rfl, hl, hok⟩ := hx
  obtain ⟨k2, i2, s2, l2⟩ := y
  obtain ⟨a2, n2, c2, rfl, rfl, hl2, hok2⟩ := hy
  exact fn106 ok ⟨trivial, c118 ok hx' ⟨_, rfl, ⟨rfl, trivial⟩, c118 ok hy' ⟨_, rfl, trivial, c110 ok ⟨_, rfl, trivial, hq⟩⟩⟩⟩

theorem c78 {l : List V} {a : OA} {c : Nat} {s : ByteArray} {H : KH} {Q : PQ} (hl : RS H l a) (hn : l.length ≤ 1000000) (hk : KR l) (hc : ∀ x ∈ l, 0 < kidsV x)
    (hq : ∀ H', Le H H' → Q (.tuple #[.int .i64 ((findV s l).1 : Int), .bool (findV s l).2]) H') : Does (env Tryz.prog) 78 [.slice a l.length c, .string s] H Q := by
  refine fn78 ok fun n1 hn1 => ?_
  have hle := Le.new hn1 (e := mkEnt [.int .i64 0, .int .i64 0, .string s, .slice none 0 0] 0)
  have hat : (H.new n1 (mkEnt [.int .i64 0, .int .i64 0, .string s, .slice none 0 0] 0)) n1 = some (mkEnt [.int .i64 0, .int .i64 0, .string s, .slice none 0 0] 0) := if_pos rfl
  generalize H.new n1 (mkEnt [.int .i64 0, .int .i64 0, .string s, .slice none 0 0] 0) = H' at *
  have hown : Own (fun _ => none) H' 4 (some ⟨n1, 0, none⟩) 1 1 [.int .i64 0, .int .i64 0, .string s, .slice none 0 0] := .lit n1 1 _ hat rfl (by decide) rfl
  have hx : RV H' (.mk 0 0 (ByteArray.mk #[]) [.mk 0 0 s []]) [.int .i64 0, .int .i64 0, .string (ByteArray.mk #[]), .slice (some ⟨n1, 0, none⟩) 1 1] :=
    ⟨_, _, _, rfl, rfl, RS.of_cells hown.cells (RC.one leaf), hown.ok (by decide)⟩
  obtain ⟨h1, h2, h3, h4, h5⟩ := find_spec (s := s) hk hc
  refine c112 ok (f := fun v => cmpS' (keyV v) s) (g := 106) (p := (findV s l).1) (hl.mono hle) hn hx (fun v hv cv Q hr hq => c106 ok hr hx hq) h1 h2 h3 fun b hb1 hb2 => ⟨_, _, rfl, ?_⟩
  have : b = (findV s l).2 := by
    cases hf : (findV s l).2 with
    | true =>
      obtain ⟨v, hv, he⟩ := h4 hf
      cases b with
      | true => rfl
      | false => exact absurd he (hb2 rfl v hv)
    | false =>
      cases b with
      | false => rfl
      | true => obtain ⟨v, hv, he⟩ := hb1 rfl; exact absurd he (h5 hf v hv)
  rw [this]
  exact hq H' hle
end
end Va
end Go.Proofs.YtlemdiinmfneoaaGreat

/- Contracts: which values may be; how great they are. -/
set_option linter.unusedVariables false
set_option linter.unusedSimpArgs false
namespace Go.Ew
open Go.Ev Go.Deep Go.Proofs.YtlemdiinmfneoaaGreat.Va

theorem rise_step {f : V → V → Int} {l : List V} {j : Nat} (h : j + 1 < l.length) : riseB f (l.drop j) = (decide (f l[j] l[j + 1] < 0) && riseB f (l.drop (j + 1))) := by
  rw [List.drop_eq_getElem_cons (show j < l.length by omega), List.drop_eq_getElem_cons h]
  rfl

theorem rise_end {f : V → V → Int} {l : List V} {j : Nat} (h : l.length ≤ j + 1) : riseB f (l.drop j) = true := by
  have : (l.drop j).length ≤ 1 := by rw [List.length_drop]; omega
  match l.drop j, this with
  | [], _ => rfl
  | [_], _ => rfl
  | _ :: _ :: _, h => simp at h

theorem parts_step {l : List V} {j : Nat} (h : j < l.length) : partsB (l.drop j) = (decide (kV l[j] ≠ 7) && (fitV l[j] && partsB (l.drop (j + 1)))) := by
  rw [List.drop_eq_getElem_cons h]
  rfl

theorem pairs_step {l : List V} {j : Nat} (h : j < l.length) : (l.drop j).all pairB = (pairB l[j] && (l.drop (j + 1)).all pairB) := by
  rw [List.drop_eq_getElem_cons h]
  rfl
end Go.Ew

namespace Go.Proofs.YtlemdiinmfneoaaGreat
open Go.Ev Go.Ew
namespace Va
section
variable (ok : EnvOk (env Tryz.prog))
include ok

theorem c107 {i : Int} {H : KH} {Q : PQ} (hq : Q (.bool (decide (1 ≤ i) && decide (i ≤ 13))) H) : Does (env Tryz.prog) 107 [.int .i64 i] H Q := by
  refine fn107 ok ⟨fun h => ?_, fun h => ?_⟩
  · rw [h] at hq; exact hq
  · rw [h] at hq; exact hq

theorem c104 {l : List V} {a : OA} {c g : Nat} {f : V → V → Int} {H : KH} {Q : PQ} (hl : RS H l a) (hn : l.length ≤ 1000000)
    (hg : ∀ x ∈ l, ∀ y ∈ l, ∀ (cx cy : List Value) (Q : PQ), RV H x cx → RV H y cy → Q (.int .i64 (f x y)) H → Does (env Tryz.prog) g [.agg cx.toArray, .agg cy.toArray] H Q)
    (hq : Q (.bool (riseB f l)) H) : Does (env Tryz.prog) 104 [.agg #[.slice a l.length c, .func (.func g) #[] #[]]] H Q := by
  refine fn104 ok ?_
  unfold vc104 vc104_L1
  refine ⟨fun m a4 n5 n6 n7 x8 H9 => a4 = a ∧ n5 = l.length ∧ n7 = g ∧ H9 = H ∧ ∃ j : Nat, x8 = ((j + 1 : Nat) : Int) ∧ j ≤ l.length ∧ m = l.length - j ∧ riseB f l = riseB f (l.drop j), ⟨l.length, rfl, rfl, rfl, rfl, 0, rfl, by omega, rfl, by simp⟩, ?_⟩
  rintro m a4 n5 n6 n7 x8 H9 ⟨rfl, rfl, rfl, rfl, j, rfl, hj, rfl, e⟩
  refine ⟨fun hlt => ⟨trivial, ?_⟩, fun hge => ?_⟩
  · have hlt : j + 1 < l.length := by have := of_decide_eq_true hlt; omega
    have hw : IntKind.wrap .i64 (((j + 1 : Nat) : Int) - 1) = (j : Int) := by rw [wrap64 (by omega) (by omega)]; omega
    rw [hw]
    have t1 : Int.toNat (j : Int) = j := by omega
    have t2 : Int.toNat ((j + 1 : Nat) : Int) = j + 1 := by omega
    rw [t1, t2]
    obtain ⟨b, o, e1, k1, i1, s1, a1, m1, c1, l1, r1⟩ := elem hl (show j < l.length by omega)
    obtain ⟨b', o', e1', k2, i2, s2, a2, m2, c2, l2, r2⟩ := elem hl hlt
    have hs := rise_step (f := f) hlt
    refine ⟨⟨by omega, by omega⟩, b, o, e1, k1, i1, s1, a1, m1, c1, l1, ⟨by omega, by omega⟩, b', o', e1', k2, i2, s2, a2, m2, c2, l2, hg _ (List.getElem_mem _) _ (List.getElem_mem _) _ _ _ r1 r2 ⟨_, rfl, trivial, fun h => ?_, fun h => ?_⟩⟩
    · have h := of_decide_eq_true h
      have : riseB f l = false := by rw [e, hs]; simp; omega
      rw [this] at hq
      exact hq
    · have h := of_decide_eq_false h
      refine ⟨l.length - (j + 1), by omega, rfl, rfl, rfl, rfl, j + 1, by rw [wrap64 (by omega) (by omega)]; omega, by omega, rfl, ?_⟩
      rw [e, hs]
      have h2 : f l[j] l[j + 1] < 0 := by omega
      simp [h2]
  · have hge : l.length ≤ j + 1 := by have := of_decide_eq_false hge; omega
    rw [e, rise_end hge] at hq
    exact hq

theorem c105 {l : List V} {a : OA} {c : Nat} {H : KH} {Q : PQ} (hl : RS H l a) (hn : l.length ≤ 1000000) (hq : Q (.bool (l.all pairB)) H) : Does (env Tryz.prog) 105 [.slice a l.length c] H Q := by
  refine fn105 ok ?_
  unfold vc105 vc105_L1
  refine ⟨fun m a4 n5 n6 x7 x8 H9 => a4 = a ∧ n5 = l.length ∧ x7 = (l.length : Nat) ∧ H9 = H ∧ ∃ j : Nat, x8 = (j : Int) ∧ j ≤ l.length ∧ m = l.length - j ∧ l.all pairB = (l.drop j).all pairB, ⟨l.length, rfl, rfl, rfl, rfl, 0, rfl, by omega, rfl, by simp⟩, ?_⟩
  rintro m a4 n5 n6 x7 x8 H9 ⟨rfl, rfl, rfl, rfl, j, rfl, hj, rfl, e⟩
  refine ⟨fun hlt => ?_, fun hge => ?_⟩
  · have hlt : j < l.length := by have := of_decide_eq_true hlt; omega
    have t1 : Int.toNat (j : Int) = j := by omega
    rw [t1]
    obtain ⟨b, o, e1, k1, i1, s1, a1, m1, c1, l1, r1⟩ := elem hl hlt
    have hs := pairs_step hlt
    generalize l[j] = y at *
    obtain ⟨k, i, s, ly⟩ := y
    obtain ⟨_, _, _, e2, rfl, h3, h4⟩ := r1
    cases e2
    have no : pairB (.mk k1 i1 s1 ly) = false → Q (.bool false) H9 := fun h => by rw [e, hs, h] at hq; exact hq
    refine ⟨⟨by omega, by omega⟩, b, o, e1, k1, i1, s1, _, _, _, l1, fun h => no ?_, fun h => ⟨fun h' => no ?_, fun h' => ?_⟩⟩
    · have h := of_decide_eq_true h
      simp [pairB, h]
    · have h' := of_decide_eq_true h'
      have : ¬ ly.length = 2 := by omega
      simp [pairB, this]
    · have h := of_decide_eq_false h
      have h' := of_decide_eq_false h'
      have hk : k1 = 4 := by omega
      have h2 : ly.length = 2 := by omega
      cases ly with
      | nil => simp at h2
      | cons z ly =>
        obtain ⟨b2, o2, ha2, ⟨cs, h5, h6⟩, h7⟩ := h3
        obtain ⟨kz, iz, sz, lz⟩ := z
        obtain ⟨az, nz, cz, rfl, _⟩ := h6
        refine ⟨⟨by omega, by omega⟩, b2, o2, ha2, rfl, kz, ld_sub h5 0 1 (by simp), fun h8 => no ?_, fun h8 => ?_⟩
        · have h8 := of_decide_eq_true h8
          simp [pairB, kV, h8]
        · have h8 := of_decide_eq_false h8
          have h8 : kz = 3 := by omega
          have hp : pairB (.mk k1 i1 s1 (.mk kz iz sz lz :: ly)) = true := by
            have h9 : ly.length = 1 := by simpa using h2
            simp [pairB, kV, h8, hk, h9]
          rw [hp, Bool.true_and] at hs
          exact ⟨l.length - (j + 1), by omega, rfl, rfl, rfl, rfl, j + 1, by rw [wrap64 (by omega) (by omega)]; omega, by omega, rfl, e.trans hs⟩
  · have hge : l.length ≤ j := by have := of_decide_eq_false hge; omega
    have hjl : j = l.length := by omega
    subst hjl
    rw [e, List.drop_length] at hq
    exact hq

theorem c103 {k i : Int} {s : ByteArray} {l : List V} {a : OA} {c : Nat} {H : KH} {Q : PQ} (hl : RS H l a) (hn : l.length ≤ 1000000)
    (ih : ∀ x ∈ l, ∀ (cx : List Value) (Q : PQ), RV H x cx → Q (.bool (fitV x)) H → Does (env Tryz.prog) 72 [.agg cx.toArray] H Q)
    (hq : Q (.bool (decide (i = 0) && (strEq s (ByteArray.mk #[]) && partsB l))) H) : Does (env Tryz.prog) 103 [.agg #[.int .i64 k, .int .i64 i, .string s, .slice a l.length c]] H Q := by
  refine fn103 ok ⟨fun h => ?_, fun h1 => ⟨fun h => ?_, fun h2 => ?_⟩⟩
  · have h := of_decide_eq_true h
    rw [decide_eq_false h] at hq
    exact hq
  · have h : strEq s (ByteArray.mk #[]) = false := by simpa using h
    rw [h, Bool.false_and, Bool.and_false] at hq
    exact hq
  · have h1 : i = 0 := by simpa using h1
    have h2 : strEq s (ByteArray.mk #[]) = true := by simpa using h2
    rw [h2, decide_eq_true h1, Bool.true_and, Bool.true_and] at hq
    unfold vc103_L1
    refine ⟨fun m a4 n5 n6 x7 x8 H9 => a4 = a ∧ n5 = l.length ∧ x7 = (l.length : Nat) ∧ H9 = H ∧ ∃ j : Nat, x8 = (j : Int) ∧ j ≤ l.length ∧ m = l.length - j ∧ partsB l = partsB (l.drop j), ⟨l.length, rfl, rfl, rfl, rfl, 0, rfl, by omega, rfl, by simp⟩, ?_⟩
    rintro m a4 n5 n6 x7 x8 H9 ⟨rfl, rfl, rfl, rfl, j, rfl, hj, rfl, e⟩
    refine ⟨fun hlt => ?_, fun hge => ?_⟩
    · have hlt : j < l.length := by have := of_decide_eq_true hlt; omega
      have t1 : Int.toNat (j : Int) = j := by omega
      rw [t1]
      obtain ⟨b, o, e1, k1, i1, s1, a1, m1, c1, l1, r1⟩ := elem hl hlt
      have hs := parts_step hlt
      have ihy := ih _ (List.getElem_mem hlt)
      generalize l[j] = y at *
      have r1' := r1
      obtain ⟨k, i, s, ly⟩ := y
      obtain ⟨_, _, _, e2, rfl, h3, h4⟩ := r1
      cases e2
      refine ⟨⟨by omega, by omega⟩, b, o, e1, k1, i1, s1, _, _, _, l1, fun h => ?_, fun h => ihy _ _ r1' ⟨_, rfl, fun h' => ?_, fun h' => ?_⟩⟩
      · have h : k1 = 7 := by simpa using h
        rw [e, hs] at hq
        simp only [kV, h, ne_eq, not_true_eq_false, decide_false, Bool.false_and] at hq
        exact hq
      · have h' : fitV (.mk k1 i1 s1 ly) = false := by simpa using h'
        rw [e, hs, h', Bool.false_and, Bool.and_false] at hq
        exact hq
      · have h' : fitV (.mk k1 i1 s1 ly) = true := by simpa using h'
        have h : ¬ k1 = 7 := by simpa using h
        have hk : decide (kV (.mk k1 i1 s1 ly) ≠ 7) = true := by simp [kV, h]
        rw [h', hk, Bool.true_and, Bool.true_and] at hs
        exact ⟨l.length - (j + 1), by omega, rfl, rfl, rfl, rfl, j + 1, by rw [wrap64 (by omega) (by omega)]; omega, by omega, rfl, e.trans hs⟩
    · have hge : l.length ≤ j := by have := of_decide_eq_false hge; omega
      have hjl : j = l.length := by omega
      subst hjl
      rw [e, List.drop_length] at hq
      exact hq

theorem c72 : ∀ (N : Nat) (v : V) (cs : List Value) (H : KH) (Q : PQ), szV v ≤ N → N ≤ 60000 → RV H v cs → Q (.bool (fitV v)) H → Does (env Tryz.prog) 72 [.agg cs.toArray] H Q := by
  intro N
  induction N with
  | zero => intro v cs H Q h1; have := szV_pos v; omega
  | succ N ih =>
    intro v cs H Q h1 h2 hr hq
    obtain ⟨k, i, s, l⟩ := v
    obtain ⟨a, n, c, rfl, rfl, hl, hok⟩ := hr
    have hll := len_szL l
    simp only [szV] at h1
    have h36 : ∀ (k : Int) (Q : PQ), Q (.bool (decide (i = 0) && (strEq s (ByteArray.mk #[]) && partsB l))) H → Does (env Tryz.prog) 103 [.agg #[.int .i64 k, .int .i64 i, .string s, .slice a l.length c]] H Q := fun k Q hq =>
      c103 ok hl (by omega) (fun x hx cx Q hr hq => ih x cx H Q (by have := mem_szL hx; omega) (by omega) hr hq) hq
    have hord : ∀ Q : PQ, Q (.bool (riseB cmpV l)) H → Does (env Tryz.prog) 104 [.agg #[.slice a l.length c, .func (.func 75) #[] #[]]] H Q := fun Q hq =>
      c104 ok hl (by omega) (fun x hx y hy cx cy Q rx ry hq => c75 ok 60000 x y cx cy H Q (by have := mem_szL hx; omega) (by omega) (by have := mem_szL hy; omega) rx ry hq) hq
    have hkey : ∀ Q : PQ, Q (.bool (riseB cmpK l)) H → Does (env Tryz.prog) 104 [.agg #[.slice a l.length c, .func (.func 106) #[] #[]]] H Q := fun Q hq =>
      c104 ok hl (by omega) (fun x hx y hy cx cy Q rx ry hq => c106 ok rx ry hq) hq
    have hz : decide ((l.length : Int) = 0) = decide (l.length = 0) := by
      by_cases h : l.length = 0
      · simp [h]
      · have : ¬ (l.length : Int) = 0 := by omega
        rw [decide_eq_false h, decide_eq_false this]
    refine fn72 ok ⟨fun h => ?_, fun g1 => ⟨fun h => ?_, fun g2 => ⟨fun h => ?_, fun g3 => ⟨fun h => ?_, fun g4 => ⟨fun h => ?_, fun g5 => ⟨fun h => ?_, fun g6 => ⟨fun h => ?_, fun g7 => ?_⟩⟩⟩⟩⟩⟩⟩
    · have h : k = 1 := by simpa using h
      subst h
      have hf : fitV (.mk 1 i s l) = (strEq s (ByteArray.mk #[]) && decide (l.length = 0)) := by rw [fitV]; simp
      rw [hf] at hq
      refine ⟨fun e => ?_, fun e => ?_⟩
      · rw [e, Bool.true_and, ← hz] at hq; exact hq
      · rw [e, Bool.false_and] at hq; exact hq
    · have h : k = 2 := by simpa using h
      subst h
      have hf : fitV (.mk 2 i s l) = ((decide (i = 0) || decide (i = 1)) && (strEq s (ByteArray.mk #[]) && decide (l.length = 0))) := by rw [fitV]; simp
      rw [hf, ← hz] at hq
      refine ⟨fun e0 => ⟨fun e => ?_, fun e => ?_⟩, fun e0 => ⟨fun e1 => ⟨fun e => ?_, fun e => ?_⟩, fun e1 => ?_⟩⟩
      · rw [e0, e, Bool.true_or, Bool.true_and, Bool.true_and] at hq; exact hq
      · rw [e, Bool.false_and, Bool.and_false] at hq; exact hq
      · rw [e1, e, Bool.or_true, Bool.true_and, Bool.true_and] at hq; exact hq
      · rw [e, Bool.false_and, Bool.and_false] at hq; exact hq
      · rw [e0, e1, Bool.or_false, Bool.false_and] at hq; exact hq
    · have h : k = 3 := by simpa using h
      subst h
      have hf : fitV (.mk 3 i s l) = (decide (i = 0) && decide (l.length = 0)) := by rw [fitV]; simp
      rw [hf, ← hz] at hq
      refine ⟨fun e => ?_, fun e => ?_⟩
      · rw [e, Bool.true_and] at hq; exact hq
      · rw [e, Bool.false_and] at hq; exact hq
    · have h : k = 4 := by simpa using h
      subst h
      have hf : fitV (.mk 4 i s l) = (decide (i = 0) && (strEq s (ByteArray.mk #[]) && partsB l)) := by rw [fitV]; simp
      rw [hf] at hq
      exact h36 4 _ ⟨_, rfl, hq⟩
    · have h : k = 5 := by simpa using h
      subst h
      have hf : fitV (.mk 5 i s l) = (decide (i = 0) && (strEq s (ByteArray.mk #[]) && partsB l) && riseB cmpV l) := by rw [fitV]; simp
      rw [hf] at hq
      refine h36 5 _ ⟨_, rfl, fun e => ?_, fun e => ?_⟩
      · rw [e, Bool.true_and] at hq
        exact hord _ ⟨_, rfl, hq⟩
      · rw [e, Bool.false_and] at hq; exact hq
    · have h : k = 6 := by simpa using h
      subst h
      have hf : fitV (.mk 6 i s l) = (decide (i = 0) && (strEq s (ByteArray.mk #[]) && partsB l) && (l.all pairB && riseB cmpK l)) := by rw [fitV]; simp
      rw [hf] at hq
      refine h36 6 _ ⟨_, rfl, fun e => ?_, fun e => ?_⟩
      · rw [e, Bool.true_and] at hq
        refine c105 ok hl (by omega) ⟨_, rfl, fun e2 => ?_, fun e2 => ?_⟩
        · rw [e2, Bool.true_and] at hq
          exact hkey _ ⟨_, rfl, hq⟩
        · rw [e2, Bool.false_and] at hq; exact hq
      · rw [e, Bool.false_and] at hq; exact hq
    · have h : k = 7 := by simpa using h
      subst h
      have hf : fitV (.mk 7 i s l) = ((decide (1 ≤ i) && decide (i ≤ 13)) && (strEq s (ByteArray.mk #[]) && decide (l.length = 0))) := by rw [fitV]; simp
      rw [hf, ← hz] at hq
      refine c107 ok ⟨_, rfl, fun e0 => ⟨fun e => ?_, fun e => ?_⟩, fun e0 => ?_⟩
      · rw [e0, e, Bool.true_and, Bool.true_and] at hq; exact hq
      · rw [e, Bool.false_and, Bool.and_false] at hq; exact hq
      · rw [e0, Bool.false_and] at hq; exact hq
    · have g1 : ¬ k = 1 := by simpa using g1
      have g2 : ¬ k = 2 := by simpa using g2
      have g3 : ¬ k = 3 := by simpa using g3
      have g4 : ¬ k = 4 := by simpa using g4
      have g5 : ¬ k = 5 := by simpa using g5
      have g6 : ¬ k = 6 := by simpa using g6
      have g7 : ¬ k = 7 := by simpa using g7
      have hf : fitV (.mk k i s l) = false := by rw [fitV]; simp [g1, g2, g3, g4, g5, g6, g7]
      rw [hf] at hq
      exact hq

theorem c52 {v : V} {cs : List Value} {H : KH} {Q : PQ} (hv : RV H v cs) (h1 : szV v ≤ 4000000) (hq : Q (.bool (decide (szV v ≤ 60) && fitV v)) H) : Does (env Tryz.prog) 52 [.agg cs.toArray] H Q := by
  have hv' := hv
  obtain ⟨k, i, s, l⟩ := v
  obtain ⟨a, n, c, rfl, rfl, hl, hok⟩ := hv
  refine fn52 ok (c71 ok 4000000 _ _ H _ _ _ h1 (by omega) hv' (.inr (by omega)) (by omega) (by omega) (by omega) ⟨_, rfl, fun h => ?_, fun h => ?_⟩)
  · have h : szV (.mk k i s l) ≤ 60 := by have := of_decide_eq_true h; omega
    rw [decide_eq_true h, Bool.true_and] at hq
    exact c72 ok 60 _ _ H _ h (by omega) hv' ⟨_, rfl, hq⟩
  · have h : ¬ szV (.mk k i s l) ≤ 60 := by have := of_decide_eq_false h; omega
    rw [decide_eq_false h, Bool.false_and] at hq
    exact hq

theorem c62 {v : V} {cs : List Value} {H : KH} {Q : PQ} (hv : RV H v cs) (h1 : szV v ≤ 4000000) (h2 : dpV v ≤ 65536) (hq : Q (.int .i64 (szV v : Nat)) H) : Does (env Tryz.prog) 62 [.agg cs.toArray] H Q := by
  have hv' := hv
  obtain ⟨k, i, s, l⟩ := v
  obtain ⟨a, n, c, rfl, rfl, hl, hok⟩ := hv
  refine fn62 ok (c71 ok 4000000 _ _ H _ _ _ h1 (by omega) hv' (.inl (by omega)) (by omega) (by omega) (by omega) ⟨_, rfl, ?_⟩)
  have : min (szV (.mk k i s l) : Int) 2147483647 = (szV (.mk k i s l) : Nat) := by omega
  rw [this]
  exact hq
end
end Va
end Go.Proofs.YtlemdiinmfneoaaGreat

/- The law ValAll: what its function answers. -/
set_option linter.unusedVariables false
set_option linter.unusedSimpArgs false
namespace Go.Ew
open Go.Ev Go.Deep Go.Proofs.YtlemdiinmfneoaaGreat.Va

/-- What a row of a kind must still be, from a place on. -/
def rest (k : Int) (l : List V) (j : Nat) : Bool := if k = 5 then riseB cmpV (l.drop (j - 1)) else if k = 6 then (l.drop j).all pairB && riseB cmpK (l.drop (j - 1)) else true

theorem cmpK_lt {x y : V} : cmpK x y < 0 ↔ strLt (keyV x) (keyV y) = true := by
  constructor
  · intro h
    have h1 : cmpS' (keyV x) (keyV y) < 0 := h
    rw [cmpS_str] at h1
    split at h1
    · omega
    · split at h1
      · assumption
      · omega
  · exact lt_cmp

theorem rest_end (k : Int) (l : List V) : rest k l l.length = true := by
  unfold rest
  rw [rise_end (by omega), rise_end (by omega)]
  simp

theorem rest5 {l : List V} {j : Nat} (hj : j < l.length) (h0 : 0 < j) : rest 5 l j = (decide (cmpV (l[j - 1]'(by omega)) l[j] < 0) && rest 5 l (j + 1)) := by
  obtain ⟨i, rfl⟩ : ∃ i, j = i + 1 := ⟨j - 1, by omega⟩
  simp only [rest, if_true, Nat.add_sub_cancel]
  exact rise_step hj

theorem rest6 {l : List V} {j : Nat} (hj : j < l.length) (h0 : 0 < j) : rest 6 l j = (pairB l[j] && (decide (cmpK (l[j - 1]'(by omega)) l[j] < 0) && rest 6 l (j + 1))) := by
  obtain ⟨i, rfl⟩ : ∃ i, j = i + 1 := ⟨j - 1, by omega⟩
  have h6 : ¬ (6 : Int) = 5 := by omega
  simp only [rest, if_neg h6, if_true, Nat.add_sub_cancel]
  rw [pairs_step hj, rise_step (f := cmpK) hj]
  cases pairB l[i + 1] <;> cases decide (cmpK l[i] l[i + 1] < 0) <;> simp

theorem rest60 {l : List V} (hj : 0 < l.length) : rest 6 l 0 = (pairB l[0] && rest 6 l 1) := by
  have h6 : ¬ (6 : Int) = 5 := by omega
  simp only [rest, if_neg h6, if_true, Nat.zero_sub, Nat.sub_self]
  rw [pairs_step hj, Bool.and_assoc]

theorem rest4 {k : Int} {l : List V} {i j : Nat} (h5 : ¬ k = 5) (h6 : ¬ k = 6) : rest k l i = rest k l j := by simp [rest, h5, h6]

theorem rest50 {l : List V} : rest 5 l 0 = rest 5 l 1 := by simp [rest]

theorem parts_no {k i : Int} {s : ByteArray} {l : List V} (h : partsB l = false) : fitV (.mk k i s l) = false := by
  have hl : ¬ l.length = 0 := fun e => by
    have : l = [] := List.eq_nil_of_length_eq_zero e
    subst this
    simp [partsB] at h
  rw [fitV]
  simp only [h, hl, decide_false, Bool.and_false, Bool.false_and]
  repeat' split
  all_goals rfl

def lightN : Nat → Nat
  | 0 => 0
  | d + 1 => 126 + 12 * lightN d
end Go.Ew

namespace Go.Proofs.YtlemdiinmfneoaaGreat
open Go.Ev Go.Ew
namespace Va
section
variable (ok : EnvOk (env Tryz.prog))
include ok

theorem c46 : ∀ (N : Nat) (v : V) (cs : List Value) (H : KH) (Q : PQ), szV v ≤ N → N ≤ 4000000 → RV H v cs → Q (.int .i64 (szV v : Nat)) H → Does (env Tryz.prog) 46 [.agg cs.toArray] H Q := by
  intro N
  induction N with
  | zero => intro v cs H Q h1; have := szV_pos v; omega
  | succ N ih =>
    intro v cs H Q h1 h2 hr hq
    obtain ⟨k, i, s, l⟩ := v
    obtain ⟨a, n, c, rfl, rfl, hl, hok⟩ := hr
    simp only [szV] at h1 hq
    have hll := len_szL l
    refine fn46 ok ⟨by omega, ?_⟩
    unfold vc46_L1
    refine ⟨fun m x4 x5 s6 a7 n8 n9 x10 x11 H12 => a7 = a ∧ n8 = l.length ∧ H12 = H ∧ ∃ j : Nat, x11 = j ∧ j ≤ l.length ∧ m = l.length - j ∧ x10 = ((1 + s.size / 16 + szTo l j : Nat) : Int), ⟨l.length, rfl, rfl, rfl, 0, rfl, by omega, rfl, ?_⟩, ?_⟩
    · have h0 : szTo l 0 = 0 := by simp [szTo, szL]
      rw [tdiv_nat, wrap64 (x := ((s.size / 16 : Nat) : Int)) (by omega) (by omega), wrap64 (by omega) (by omega), h0]
      omega
    · rintro m x4 x5 s6 a7 n8 n9 x10 x11 H12 ⟨rfl, rfl, rfl, j, rfl, hj, rfl, rfl⟩
      refine ⟨fun hlt => ?_, fun hge => ?_⟩
      · have hlt : j < l.length := by have := of_decide_eq_true hlt; omega
        have t1 : Int.toNat (j : Int) = j := by omega
        rw [t1]
        obtain ⟨b, o, e1, k1, i1, s1, a1, m1, c1, l1, r1⟩ := elem hl hlt
        have hx : l[j]? = some l[j] := by simp [hlt]
        have hto1 := szTo_succ l j _ hx
        have hto2 := szTo_le l (j + 1)
        have hm := mem_szL (List.getElem_mem hlt)
        refine ⟨⟨by omega, by omega⟩, b, o, e1, k1, i1, s1, a1, m1, c1, l1, ih _ _ _ _ (by omega) (by omega) r1 ⟨_, rfl, l.length - (j + 1), by omega, rfl, rfl, rfl, j + 1, by rw [wrap64 (by omega) (by omega)]; omega, by omega, rfl, ?_⟩⟩
        rw [wrap64 (by omega) (by omega), hto1]; omega
      · have hge : l.length ≤ j := by have := of_decide_eq_false hge; omega
        have hjl : j = l.length := by omega
        subst hjl
        rw [szTo_all]
        exact hq

theorem l12 {k i : Int} {s : ByteArray} {l : List V} {a : OA} {c : Nat} {H : KH} {Q : PQ} (hl : RS H l a) (hn : l.length ≤ 1000) (hsz : ∀ x ∈ l, szV x ≤ 60000) (hq : Q (.bool (rest k l 0)) H) : vc36_L3 k i s a l.length c H Q := by
  unfold vc36_L3
  refine ⟨fun m x4 x5 s6 a7 n8 n9 x10 H11 => x4 = k ∧ a7 = a ∧ n8 = l.length ∧ H11 = H ∧ ∃ j : Nat, x10 = j ∧ j ≤ l.length ∧ m = l.length - j ∧ rest k l 0 = rest k l j ∧ (k = 6 → ∀ i (h : i < l.length), i < j → pairB l[i] = true), ⟨l.length, rfl, rfl, rfl, rfl, 0, rfl, by omega, rfl, rfl, fun _ i _ h => by omega⟩, ?_⟩
  rintro m x4 x5 s6 a7 n8 n9 x10 H11 ⟨rfl, rfl, rfl, rfl, j, rfl, hj, rfl, e, hpr⟩
  refine ⟨fun hlt => ?_, fun hge => ?_⟩
  · have hlt : j < l.length := by have := of_decide_eq_true hlt; omega
    have t1 : Int.toNat (j : Int) = j := by omega
    rw [t1]
    have hj1 : IntKind.wrap .i64 ((j : Int) + 1) = ((j + 1 : Nat) : Int) := by rw [wrap64 (by omega) (by omega)]; omega
    have no : rest x4 l j = false → Q (.bool false) H11 := fun h => by rw [e, h] at hq; exact hq
    have next : rest x4 l j = rest x4 l (j + 1) → (x4 = 6 → pairB l[j] = true) → ∃ m', m' < l.length - j ∧ (x4 = x4 ∧ a7 = a7 ∧ l.length = l.length ∧ H11 = H11 ∧ ∃ j' : Nat, IntKind.wrap .i64 ((j : Int) + 1) = j' ∧ j' ≤ l.length ∧ m' = l.length - j' ∧ rest x4 l 0 = rest x4 l j' ∧ (x4 = 6 → ∀ i (h : i < l.length), i < j' → pairB l[i] = true)) :=
      fun h1 h2 => ⟨l.length - (j + 1), by omega, rfl, rfl, rfl, rfl, j + 1, hj1, by omega, rfl, e.trans h1, fun h6 i hi hlt2 => by
        by_cases hij : i < j
        · exact hpr h6 i hi hij
        · have : i = j := by omega
          subst this
          exact h2 h6⟩
    obtain ⟨b, o, e1, k1, i1, s1, a1, m1, c1, l1, r1⟩ := elem hl hlt
    have r1' := r1
    refine ⟨⟨by omega, by omega⟩, b, o, e1, k1, i1, s1, a1, m1, c1, l1, trivial, fun h5 => ?_, fun h5 => ⟨trivial, ?_⟩⟩
    · have h5 : x4 = 5 := by simpa using h5
      subst h5
      refine ⟨fun h0 => ?_, fun h0 => ⟨trivial, ?_⟩⟩
      · have h0 : 0 < j := by have := of_decide_eq_true h0; omega
        have hw : IntKind.wrap .i64 ((j : Int) - 1) = ((j - 1 : Nat) : Int) := by rw [wrap64 (by omega) (by omega)]; omega
        have t2 : Int.toNat ((j - 1 : Nat) : Int) = j - 1 := by omega
        rw [hw, t2]
        obtain ⟨b', o', e1', k2, i2, s2, a2, m2, c2, l2, r2⟩ := elem hl (show j - 1 < l.length by omega)
        have hr5 := rest5 hlt h0
        refine ⟨⟨by omega, by omega⟩, b', o', e1', k2, i2, s2, a2, m2, c2, l2, c24 ok 60000 _ _ _ _ _ _ (hsz _ (List.getElem_mem _)) (by omega) (Nat.le_trans (hsz _ (List.getElem_mem hlt)) (by omega)) r2 r1 ⟨_, rfl, trivial, fun hc => ?_, fun hc => ?_⟩⟩
        · have hc := of_decide_eq_true hc
          refine no ?_
          rw [hr5, decide_eq_false (by omega), Bool.false_and]
        · have hc := of_decide_eq_false hc
          rw [decide_eq_true (by omega), Bool.true_and] at hr5
          unfold vc36_J1
          refine ⟨trivial, fun h => by simp at h, fun _ => next hr5 (by omega)⟩
      · have h0 : j = 0 := by have := of_decide_eq_false h0; omega
        subst h0
        unfold vc36_J1
        refine ⟨trivial, fun h => by simp at h, fun _ => next rest50 (by omega)⟩
    · have h5 : ¬ x4 = 5 := by simpa using h5
      unfold vc36_J1
      refine ⟨trivial, fun h6 => ?_, fun h6 => ?_⟩
      · have h6 : x4 = 6 := by simpa using h6
        subst h6
        have hfirst : rest 6 l j = false ∨ pairB l[j] = true := by
          cases hp : pairB l[j] with
          | true => exact .inr rfl
          | false =>
            refine .inl ?_
            by_cases h0 : 0 < j
            · rw [rest6 hlt h0, hp, Bool.false_and]
            · have h0 : j = 0 := by omega
              subst h0
              rw [rest60 hlt, hp, Bool.false_and]
        have hr0 : ∀ (h0 : ¬ 0 < j), pairB l[j] = true → rest 6 l j = rest 6 l (j + 1) := fun h0 hp => by
          have h0 : j = 0 := by omega
          subst h0
          rw [rest60 hlt, hp, Bool.true_and]
        have hr1 : ∀ (h0 : 0 < j), pairB l[j] = true → rest 6 l j = (decide (cmpK (l[j - 1]'(by omega)) l[j] < 0) && rest 6 l (j + 1)) := fun h0 hp => by
          rw [rest6 hlt h0, hp, Bool.true_and]
        have hpj := hpr rfl
        have hnop : pairB l[j] = false → Q (.bool false) H11 := fun hp => no (by rcases hfirst with q | q; exact q; rw [hp] at q; cases q)
        generalize hy : l[j] = y at *
        obtain ⟨ky, iy, sy, ly⟩ := y
        obtain ⟨_, _, _, e2, rfl, h3, h4⟩ := r1
        cases e2
        refine ⟨fun h => hnop ?_, fun h => ⟨fun h' => hnop ?_, fun h' => ?_⟩⟩
        · have h := of_decide_eq_true h
          simp [pairB, h]
        · have h' := of_decide_eq_true h'
          have : ¬ ly.length = 2 := by omega
          simp [pairB, this]
        · have h := of_decide_eq_false h
          have h' := of_decide_eq_false h'
          have hk : k1 = 4 := by omega
          have h2 : ly.length = 2 := by omega
          cases ly with
          | nil => simp at h2
          | cons z ly =>
            obtain ⟨b2, o2, ha2, ⟨cs, h5', h6'⟩, h7⟩ := h3
            obtain ⟨kz, iz, sz, lz⟩ := z
            obtain ⟨az, nz, cz, rfl, _⟩ := h6'
            refine ⟨⟨by omega, by omega⟩, b2, o2, ha2, rfl, kz, ld_sub h5' 0 1 (by simp), fun h8 => hnop ?_, fun h8 => ?_⟩
            · have h8 := of_decide_eq_true h8
              simp [pairB, kV, h8]
            · have h8 := of_decide_eq_false h8
              have h8 : kz = 3 := by omega
              have hp : pairB (.mk k1 i1 s1 (.mk kz iz sz lz :: ly)) = true := by
                have h9 : ly.length = 1 := by simpa using h2
                simp [pairB, kV, h8, hk, h9]
              refine ⟨fun h0 => ?_, fun h0 => next (hr0 (by have := of_decide_eq_false h0; omega) hp) fun _ => hp⟩
              have h0 : 0 < j := by have := of_decide_eq_true h0; omega
              have hr := hr1 h0 hp
              have hw : IntKind.wrap .i64 ((j : Int) - 1) = ((j - 1 : Nat) : Int) := by rw [wrap64 (by omega) (by omega)]; omega
              have t2 : Int.toNat ((j - 1 : Nat) : Int) = j - 1 := by omega
              rw [hw, t2]
              obtain ⟨b', o', e1', k2, i2, s2, a2, m2, c2, l2, r2⟩ := elem hl (show j - 1 < l.length by omega)
              have hpp := hpj (j - 1) (by omega) (by omega)
              generalize l[j - 1]'(by omega) = x at *
              obtain ⟨kx, ix, sx, lx⟩ := x
              obtain ⟨_, _, _, e3, rfl, h3x, h4x⟩ := r2
              cases e3
              cases lx with
              | nil => simp [pairB] at hpp
              | cons zx lx =>
                obtain ⟨b3, o3, ha3, ⟨cs3, h53, h63⟩, h73⟩ := h3x
                obtain ⟨kzx, izx, szx, lzx⟩ := zx
                obtain ⟨azx, nzx, czx, rfl, _⟩ := h63
                refine ⟨⟨by omega, by omega⟩, b', o', e1', rfl, _, _, _, ld_sub l2 3 1 (by simp), ⟨by omega, by simp only [List.length_cons]; omega⟩, b3, o3, ha3, rfl, szx, ld_sub h53 2 1 (by simp), ⟨by omega, by omega⟩, b2, o2, ha2, rfl, sz, ld_sub h5' 2 1 (by simp), fun hc => no ?_, fun hc => next ?_ fun _ => hp⟩
                · have hc : strLt szx sz = false := by simpa using hc
                  rw [hr, decide_eq_false (fun q => by
                    have := cmpK_lt.1 q
                    simp only [keyV] at this
                    rw [hc] at this; cases this), Bool.false_and]
                · have hc : strLt szx sz = true := by simpa using hc
                  rw [hr, decide_eq_true (cmpK_lt.2 (by simpa only [keyV] using hc)), Bool.true_and]
      · have h6 : ¬ x4 = 6 := by simpa using h6
        exact next (rest4 h5 h6) fun q => absurd q h6
  · have hge : l.length ≤ j := by have := of_decide_eq_false hge; omega
    have hjl : j = l.length := by omega
    subst hjl
    rw [e, rest_end] at hq
    exact hq

theorem c36 : ∀ (N : Nat) (v : V) (cs : List Value) (H : KH) (Q : PQ), szV v ≤ N → N ≤ 4000000 → RV H v cs → Q (.bool (decide (szV v ≤ 60) && fitV v)) H → Does (env Tryz.prog) 36 [.agg cs.toArray] H Q := by
  intro N
  induction N with
  | zero => intro v cs H Q h1; have := szV_pos v; omega
  | succ N ih =>
    intro v cs H Q h1 h2 hr hq
    have hr' := hr
    obtain ⟨k, i, s, l⟩ := v
    obtain ⟨a, n, c, rfl, rfl, hl, hok⟩ := hr
    refine fn36 ok (c46 ok 4000000 _ _ H _ (by omega) (by omega) hr' ⟨_, rfl, fun h => ?_, fun h => ?_⟩)
    · have h := of_decide_eq_true h
      rw [decide_eq_false (by omega), Bool.false_and] at hq
      exact hq
    · have h60 : szV (.mk k i s l) ≤ 60 := by have := of_decide_eq_false h; omega
      rw [decide_eq_true h60, Bool.true_and] at hq
      have hsl : szL l < 60 := by simp only [szV] at h60; omega
      have hll := len_szL l
      have hz : decide ((l.length : Int) = 0) = decide (l.length = 0) := by
        by_cases h : l.length = 0
        · simp [h]
        · have : ¬ (l.length : Int) = 0 := by omega
          rw [decide_eq_false h, decide_eq_false this]
      unfold vc36_L6
      refine ⟨fun m x4 x5 s6 a7 n8 n9 x10 H11 => x4 = k ∧ x5 = i ∧ s6 = s ∧ a7 = a ∧ n8 = l.length ∧ H11 = H ∧ ∃ j : Nat, x10 = j ∧ j ≤ l.length ∧ m = l.length - j ∧ partsB l = partsB (l.drop j), ⟨l.length, rfl, rfl, rfl, rfl, rfl, rfl, 0, rfl, by omega, rfl, by simp⟩, ?_⟩
      rintro m x4 x5 s6 a7 n8 n9 x10 H11 ⟨rfl, rfl, rfl, rfl, rfl, rfl, j, rfl, hj, rfl, e⟩
      refine ⟨fun hlt => ?_, fun hge => ?_⟩
      · have hlt : j < l.length := by have := of_decide_eq_true hlt; omega
        have t1 : Int.toNat (j : Int) = j := by omega
        rw [t1]
        obtain ⟨b, o, e1, k1, i1, s1, a1, m1, c1, l1, r1⟩ := elem hl hlt
        have hs := parts_step hlt
        have hm := mem_szL (List.getElem_mem hlt)
        have no : partsB l = false → Q (.bool false) H11 := fun h => by rw [parts_no h] at hq; exact hq
        refine ⟨⟨by omega, by omega⟩, b, o, e1, k1, i1, s1, a1, m1, c1, l1, ih _ _ _ _ (by simp only [szV] at h1; omega) (by omega) r1 ⟨_, rfl, fun h' => no ?_, fun h' => ⟨⟨by omega, by omega⟩, b, o, e1, rfl, k1, ld_sub l1 0 1 (by simp), fun h7 => no ?_, fun h7 => ?_⟩⟩⟩
        · rw [decide_eq_true (show szV l[j] ≤ 60 by omega), Bool.true_and] at h'
          have h' : fitV l[j] = false := by simpa using h'
          rw [e, hs, h', Bool.false_and, Bool.and_false]
        · have h7 : k1 = 7 := by simpa using h7
          have hk : kV l[j] = 7 := by
            generalize l[j] = y at *
            obtain ⟨ky, iy, sy, ly⟩ := y
            obtain ⟨_, _, _, e2, _⟩ := r1
            cases e2
            exact h7
          rw [e, hs, decide_eq_false (by rw [hk]; simp), Bool.false_and]
        · rw [decide_eq_true (show szV l[j] ≤ 60 by omega), Bool.true_and] at h'
          have h' : fitV l[j] = true := by simpa using h'
          have h7 : ¬ k1 = 7 := by simpa using h7
          have hk : kV l[j] ≠ 7 := by
            generalize l[j] = y at *
            obtain ⟨ky, iy, sy, ly⟩ := y
            obtain ⟨_, _, _, e2, _⟩ := r1
            cases e2
            exact h7
          rw [h', decide_eq_true hk, Bool.true_and, Bool.true_and] at hs
          exact ⟨l.length - (j + 1), by omega, rfl, rfl, rfl, rfl, rfl, rfl, j + 1, by rw [wrap64 (by omega) (by omega)]; omega, by omega, rfl, e.trans hs⟩
      · have hge : l.length ≤ j := by have := of_decide_eq_false hge; omega
        have hjl : j = l.length := by omega
        subst hjl
        have hpt : partsB l = true := by rw [e, List.drop_length]; rfl
        refine ⟨fun h => ?_, fun g1 => ⟨fun h => ?_, fun g2 => ⟨fun h => ?_, fun g3 => ⟨fun h => ?_, fun g7 => ?_⟩⟩⟩⟩
        · have h : x4 = 1 := by simpa using h
          subst h
          have hf : fitV (.mk 1 x5 s6 l) = (strEq s6 (ByteArray.mk #[]) && decide (l.length = 0)) := by rw [fitV]; simp
          rw [hf, ← hz] at hq
          refine ⟨fun e => ?_, fun e => ?_⟩
          · rw [e, Bool.true_and] at hq; exact hq
          · rw [e, Bool.false_and] at hq; exact hq
        · have h : x4 = 2 := by simpa using h
          subst h
          have hf : fitV (.mk 2 x5 s6 l) = ((decide (x5 = 0) || decide (x5 = 1)) && (strEq s6 (ByteArray.mk #[]) && decide (l.length = 0))) := by rw [fitV]; simp
          rw [hf, ← hz] at hq
          refine ⟨fun e => ⟨fun e0 => ⟨fun e1 => ?_, fun e1 => ?_⟩, fun e0 => ?_⟩, fun e => ?_⟩
          · rw [e, e0, e1, Bool.true_or] at hq; exact hq
          · rw [e, e0, e1, Bool.false_or, Bool.and_self, Bool.and_true] at hq; exact hq
          · rw [e0, Bool.and_false, Bool.and_false] at hq; exact hq
          · rw [e, Bool.false_and, Bool.and_false] at hq; exact hq
        · have h : x4 = 3 := by simpa using h
          subst h
          have hf : fitV (.mk 3 x5 s6 l) = (decide (x5 = 0) && decide (l.length = 0)) := by rw [fitV]; simp
          rw [hf, ← hz] at hq
          refine ⟨fun e => ?_, fun e => ?_⟩
          · rw [e, Bool.true_and] at hq; exact hq
          · rw [e, Bool.false_and] at hq; exact hq
        · have h : x4 = 7 := by simpa using h
          subst h
          have hf : fitV (.mk 7 x5 s6 l) = ((decide (1 ≤ x5) && decide (x5 ≤ 13)) && (strEq s6 (ByteArray.mk #[]) && decide (l.length = 0))) := by rw [fitV]; simp
          rw [hf, ← hz] at hq
          refine ⟨fun e => ⟨fun e0 => ⟨fun e1 => ?_, fun e1 => ?_⟩, fun e0 => ?_⟩, fun e => ?_⟩
          · rw [e, e0, e1, Bool.true_and, Bool.and_self, Bool.and_true] at hq; exact hq
          · rw [e1, Bool.false_and, Bool.false_and] at hq; exact hq
          · rw [e0, Bool.and_false, Bool.and_false] at hq; exact hq
          · rw [e, Bool.false_and, Bool.and_false] at hq; exact hq
        · have g1 : ¬ x4 = 1 := by simpa using g1
          have g2 : ¬ x4 = 2 := by simpa using g2
          have g3 : ¬ x4 = 3 := by simpa using g3
          have g7 : ¬ x4 = 7 := by simpa using g7
          have hf : fitV (.mk x4 x5 s6 l) = (decide (x5 = 0) && (strEq s6 (ByteArray.mk #[]) && (decide (4 ≤ x4 ∧ x4 ≤ 6) && rest x4 l 0))) := by
            rw [fitV]
            simp only [g1, g2, g3, g7, if_false, hpt, Bool.and_true]
            by_cases h4 : x4 = 4
            · subst h4; simp [rest]
            · by_cases h5 : x4 = 5
              · subst h5; simp [rest, Bool.and_assoc]
              · by_cases h6 : x4 = 6
                · subst h6; simp [rest, Bool.and_assoc]
                · have : ¬ (4 ≤ x4 ∧ x4 ≤ 6) := by omega
                  simp [h4, h5, h6, this]
          rw [hf] at hq
          refine ⟨fun h => ?_, fun h0 => ⟨fun h => ?_, fun hs => ⟨fun h => ?_, fun h4 => ⟨fun h => ?_, fun h6 => ?_⟩⟩⟩⟩
          · have h := of_decide_eq_true h
            rw [decide_eq_false h, Bool.false_and] at hq; exact hq
          · have h : strEq s6 (ByteArray.mk #[]) = false := by simpa using h
            rw [h, Bool.false_and, Bool.and_false] at hq; exact hq
          · have h := of_decide_eq_true h
            rw [decide_eq_false (show ¬ (4 ≤ x4 ∧ x4 ≤ 6) by omega), Bool.false_and, Bool.and_false, Bool.and_false] at hq; exact hq
          · have h := of_decide_eq_true h
            rw [decide_eq_false (show ¬ (4 ≤ x4 ∧ x4 ≤ 6) by omega), Bool.false_and, Bool.and_false, Bool.and_false] at hq; exact hq
          · have h0 : x5 = 0 := by simpa using h0
            have hs : strEq s6 (ByteArray.mk #[]) = true := by simpa using hs
            have h4 := of_decide_eq_false h4
            have h6 := of_decide_eq_false h6
            rw [decide_eq_true h0, hs, decide_eq_true (show (4 ≤ x4 ∧ x4 ≤ 6) by omega), Bool.true_and, Bool.true_and, Bool.true_and] at hq
            exact l12 ok hl (by omega) (fun x hx => by have := mem_szL hx; omega) hq
end
end Va
end Go.Proofs.YtlemdiinmfneoaaGreat
