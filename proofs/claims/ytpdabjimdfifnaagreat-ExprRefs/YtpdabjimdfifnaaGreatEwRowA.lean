import Derived.Test.YtpdabjimdfifnaaGreatEwSetsA
import Derived.Test.YtpdabjimdfifnaaGreatEwVc3
/- The law ValRow: what its function answers. -/
set_option linter.unusedVariables false
set_option linter.unusedSimpArgs false
namespace Go.Ew
open Go.Ev Go.Deep Go.Proofs.YtpdabjimdfifnaaGreat.Va

theorem find_spec {s : ByteArray} : ∀ {l : List V}, KR l → (∀ x ∈ l, 0 < kidsV x) → (findV s l).1 ≤ l.length ∧ (∀ i v, i < (findV s l).1 → l[i]? = some v → cmpS' (keyV v) s < 0) ∧
    (∀ i v, (findV s l).1 ≤ i → l[i]? = some v → 0 ≤ cmpS' (keyV v) s) ∧ ((findV s l).2 = true → ∃ v, l[(findV s l).1]? = some v ∧ cmpS' (keyV v) s = 0) ∧ ((findV s l).2 = false → ∀ v, l[(findV s l).1]? = some v → cmpS' (keyV v) s ≠ 0)
  | [], _, _ => by simp [findV]
  | y :: l, h, hc => by
    have hy : ∀ {w}, w ∈ l → cmpK y w < 0 := fun hw => List.rel_of_pairwise_cons h hw
    have hl : KR l := h.of_cons
    by_cases hlt : strLt (keyV y) s = true
    · obtain ⟨h1, h2, h3, h4, h5⟩ := find_spec (s := s) hl fun x hx => hc x (by simp [hx])
      simp only [findV, if_pos hlt]
      refine ⟨by simp; omega, fun i v hi hv => ?_, fun i v hi hv => ?_, fun hb => ?_, fun hb => ?_⟩
      · cases i with
        | zero => simp at hv; subst hv; exact lt_cmp hlt
        | succ i => exact h2 i v (by omega) (by simpa using hv)
      · cases i with
        | zero => omega
        | succ i => exact h3 i v (by omega) (by simpa using hv)
      · simpa using h4 hb
      · simpa using h5 hb
    · simp only [findV, if_neg hlt]
      have h0 : 0 < kidsV y := hc y (by simp)
      have hs := cmpS_str (keyV y) s
      have hge : 0 ≤ cmpS' (keyV y) s := by
        rw [hs]
        split
        · omega
        · omega
      refine ⟨by omega, fun i v hi => by omega, fun i v _ hv => ?_, fun hb => ?_, fun hb v hv => ?_⟩
      · cases i with
        | zero => simp at hv; subst hv; exact hge
        | succ i =>
          have hm : v ∈ l := List.mem_of_getElem? (by simpa using hv)
          have h1 : cmpS' (keyV y) (keyV v) < 0 := hy hm
          have h2 := cmpS_trans (keyV y) (keyV v) s
          omega
      · have he : strEq (keyV y) s = true := by simpa [h0] using hb
        exact ⟨y, by simp, by rw [hs, if_pos he]⟩
      · have he : strEq (keyV y) s = false := by simpa [h0] using hb
        simp at hv
        subst hv
        rw [hs, he]
        simp [hlt]
end Go.Ew

namespace Go.Proofs.YtpdabjimdfifnaaGreat
open Go.Ev Go.Ew
namespace Va
section
variable (ok : EnvOk (env Tryz.prog))
include ok

theorem c108 {x : V} {cx : List Value} {H : KH} {Q : Value → KH → Prop} (hx : RV H x cx) (hq : Q (.string (keyV x)) H) : Does (env Tryz.prog) 108 [.agg cx.toArray] H Q := by
  obtain ⟨k, i, s, l⟩ := x
  obtain ⟨a, n, c, rfl, rfl, hl, hok⟩ := hx
  refine fn108 ok ⟨fun h => ?_, fun h => ?_⟩
  · cases l with
    | nil => exact hq
    | cons y l => simp at h; omega
  · cases l with
    | nil => simp at h
    | cons y l =>
      obtain ⟨b, o, ha, ⟨cs, h2, h3⟩, h4⟩ := hl
      obtain ⟨k', i', s', l'⟩ := y
      obtain ⟨a', n', c', rfl, rfl, _, _⟩ := h3
      refine ⟨⟨by omega, by simp only [List.length_cons]; omega⟩, b, o, ha, rfl, s', ?_, hq⟩
      exact ld_sub h2 2 1 (by simp)

theorem c96 {x y : V} {cx cy : List Value} {H : KH} {Q : Value → KH → Prop} (hx : RV H x cx) (hy : RV H y cy) (hq : Q (.int .i64 (cmpK x y)) H) : Does (env Tryz.prog) 96 [.agg cx.toArray, .agg cy.toArray] H Q := by
  have hx' := hx
  have hy' := hy
  obtain ⟨k, i, s, l⟩ := x
  obtain ⟨a, n, c, rfl, rfl, hl, hok⟩ := hx
  obtain ⟨k2, i2, s2, l2⟩ := y
  obtain ⟨a2, n2, c2, rfl, rfl, hl2, hok2⟩ := hy
  exact fn96 ok ⟨trivial, c108 ok hx' ⟨_, rfl, ⟨rfl, trivial⟩, c108 ok hy' ⟨_, rfl, trivial, c100 ok ⟨_, rfl, trivial, hq⟩⟩⟩⟩

theorem c68 {l : List V} {a : Option Addr} {c : Nat} {s : ByteArray} {H : KH} {Q : Value → KH → Prop} (hl : RS H l a) (hn : l.length ≤ 1000000) (hk : KR l) (hc : ∀ x ∈ l, 0 < kidsV x)
    (hq : ∀ H', Le H H' → Q (.tuple #[.int .i64 ((findV s l).1 : Int), .bool (findV s l).2]) H') : Does (env Tryz.prog) 68 [.slice a l.length c, .string s] H Q := by
  refine fn68 ok fun n1 hn1 => ?_
  have hle := Le.new hn1 (e := mkEnt [.int .i64 0, .int .i64 0, .string s, .slice none 0 0] 0)
  have hat : (H.new n1 (mkEnt [.int .i64 0, .int .i64 0, .string s, .slice none 0 0] 0)) n1 = some (mkEnt [.int .i64 0, .int .i64 0, .string s, .slice none 0 0] 0) := if_pos rfl
  generalize H.new n1 (mkEnt [.int .i64 0, .int .i64 0, .string s, .slice none 0 0] 0) = H' at *
  have hown : Own (fun _ => none) H' 4 (some ⟨n1, 0, none⟩) 1 1 [.int .i64 0, .int .i64 0, .string s, .slice none 0 0] := .lit n1 1 _ hat rfl (by decide) rfl
  have hx : RV H' (.mk 0 0 (ByteArray.mk #[]) [.mk 0 0 s []]) [.int .i64 0, .int .i64 0, .string (ByteArray.mk #[]), .slice (some ⟨n1, 0, none⟩) 1 1] :=
    ⟨_, _, _, rfl, rfl, RS.of_cells hown.cells (RC.one leaf), hown.ok (by decide)⟩
  obtain ⟨h1, h2, h3, h4, h5⟩ := find_spec (s := s) hk hc
  refine c102 ok (f := fun v => cmpS' (keyV v) s) (g := 96) (p := (findV s l).1) (hl.mono hle) hn hx (fun v hv cv Q hr hq => c96 ok hr hx hq) h1 h2 h3 fun b hb1 hb2 => ⟨_, _, rfl, ?_⟩
  have : b = (findV s l).2 := by
    cases hf : (findV s l).2 with
    | true =>
      obtain ⟨v, hv, he⟩ := h4 hf
      cases b with
      | true => rfl
      | false => exact absurd he (hb2 rfl v hv)
    | false =>
      cases b with
      | false => rfl
      | true => obtain ⟨v, hv, he⟩ := hb1 rfl; exact absurd he (h5 hf v hv)
  rw [this]
  exact hq H' hle
end
end Va
end Go.Proofs.YtpdabjimdfifnaaGreat

/- Contracts: which values may be; how great they are. -/
set_option linter.unusedVariables false
set_option linter.unusedSimpArgs false
namespace Go.Ew
open Go.Ev Go.Deep Go.Proofs.YtpdabjimdfifnaaGreat.Va

theorem rise_step {f : V → V → Int} {l : List V} {j : Nat} (h : j + 1 < l.length) : riseB f (l.drop j) = (decide (f l[j] l[j + 1] < 0) && riseB f (l.drop (j + 1))) := by
  rw [List.drop_eq_getElem_cons (show j < l.length by omega), List.drop_eq_getElem_cons h]
  rfl

theorem rise_end {f : V → V → Int} {l : List V} {j : Nat} (h : l.length ≤ j + 1) : riseB f (l.drop j) = true := by
  have : (l.drop j).length ≤ 1 := by rw [List.length_drop]; omega
  match l.drop j, this with
  | [], _ => rfl
  | [_], _ => rfl
  | _ :: _ :: _, h => simp at h

theorem parts_step {l : List V} {j : Nat} (h : j < l.length) : partsB (l.drop j) = (decide (kV l[j] ≠ 7) && (fitV l[j] && partsB (l.drop (j + 1)))) := by
  rw [List.drop_eq_getElem_cons h]
  rfl

theorem pairs_step {l : List V} {j : Nat} (h : j < l.length) : (l.drop j).all pairB = (pairB l[j] && (l.drop (j + 1)).all pairB) := by
  rw [List.drop_eq_getElem_cons h]
  rfl
end Go.Ew

namespace Go.Proofs.YtpdabjimdfifnaaGreat
open Go.Ev Go.Ew
namespace Va
section
variable (ok : EnvOk (env Tryz.prog))
include ok

theorem c97 {i : Int} {H : KH} {Q : Value → KH → Prop} (hq : Q (.bool (decide (1 ≤ i) && decide (i ≤ 13))) H) : Does (env Tryz.prog) 97 [.int .i64 i] H Q := by
  refine fn97 ok ⟨fun h => ?_, fun h => ?_⟩
  · rw [h] at hq; exact hq
  · rw [h] at hq; exact hq

theorem c94 {l : List V} {a : Option Addr} {c g : Nat} {f : V → V → Int} {H : KH} {Q : Value → KH → Prop} (hl : RS H l a) (hn : l.length ≤ 1000000)
    (hg : ∀ x ∈ l, ∀ y ∈ l, ∀ (cx cy : List Value) (Q : Value → KH → Prop), RV H x cx → RV H y cy → Q (.int .i64 (f x y)) H → Does (env Tryz.prog) g [.agg cx.toArray, .agg cy.toArray] H Q)
    (hq : Q (.bool (riseB f l)) H) : Does (env Tryz.prog) 94 [.agg #[.slice a l.length c, .func (.func g) #[] #[]]] H Q := by
  refine fn94 ok ?_
  unfold vc94 vc94_L1
  refine ⟨fun m a4 n5 n6 n7 x8 H9 => a4 = a ∧ n5 = l.length ∧ n7 = g ∧ H9 = H ∧ ∃ j : Nat, x8 = ((j + 1 : Nat) : Int) ∧ j ≤ l.length ∧ m = l.length - j ∧ riseB f l = riseB f (l.drop j), ⟨l.length, rfl, rfl, rfl, rfl, 0, rfl, by omega, rfl, by simp⟩, ?_⟩
  rintro m a4 n5 n6 n7 x8 H9 ⟨rfl, rfl, rfl, rfl, j, rfl, hj, rfl, e⟩
  refine ⟨fun hlt => ⟨trivial, ?_⟩, fun hge => ?_⟩
  · have hlt : j + 1 < l.length := by have := of_decide_eq_true hlt; omega
    have hw : IntKind.wrap .i64 (((j + 1 : Nat) : Int) - 1) = (j : Int) := by rw [wrap64 (by omega) (by omega)]; omega
    rw [hw]
    have t1 : Int.toNat (j : Int) = j := by omega
    have t2 : Int.toNat ((j + 1 : Nat) : Int) = j + 1 := by omega
    rw [t1, t2]
    obtain ⟨b, o, e1, k1, i1, s1, a1, m1, c1, l1, r1⟩ := elem hl (show j < l.length by omega)
    obtain ⟨b', o', e1', k2, i2, s2, a2, m2, c2, l2, r2⟩ := elem hl hlt
    have hs := rise_step (f := f) hlt
    refine ⟨⟨by omega, by omega⟩, b, o, e1, k1, i1, s1, a1, m1, c1, l1, ⟨by omega, by omega⟩, b', o', e1', k2, i2, s2, a2, m2, c2, l2, hg _ (List.getElem_mem _) _ (List.getElem_mem _) _ _ _ r1 r2 ⟨_, rfl, trivial, fun h => ?_, fun h => ?_⟩⟩
    · have h := of_decide_eq_true h
      have : riseB f l = false := by rw [e, hs]; simp; omega
      rw [this] at hq
      exact hq
    · have h := of_decide_eq_false h
      refine ⟨l.length - (j + 1), by omega, rfl, rfl, rfl, rfl, j + 1, by rw [wrap64 (by omega) (by omega)]; omega, by omega, rfl, ?_⟩
      rw [e, hs]
      have h2 : f l[j] l[j + 1] < 0 := by omega
      simp [h2]
  · have hge : l.length ≤ j + 1 := by have := of_decide_eq_false hge; omega
    rw [e, rise_end hge] at hq
    exact hq

theorem c95 {l : List V} {a : Option Addr} {c : Nat} {H : KH} {Q : Value → KH → Prop} (hl : RS H l a) (hn : l.length ≤ 1000000) (hq : Q (.bool (l.all pairB)) H) : Does (env Tryz.prog) 95 [.slice a l.length c] H Q := by
  refine fn95 ok ?_
  unfold vc95 vc95_L1
  refine ⟨fun m a4 n5 n6 x7 x8 H9 => a4 = a ∧ n5 = l.length ∧ x7 = (l.length : Nat) ∧ H9 = H ∧ ∃ j : Nat, x8 = (j : Int) ∧ j ≤ l.length ∧ m = l.length - j ∧ l.all pairB = (l.drop j).all pairB, ⟨l.length, rfl, rfl, rfl, rfl, 0, rfl, by omega, rfl, by simp⟩, ?_⟩
  rintro m a4 n5 n6 x7 x8 H9 ⟨rfl, rfl, rfl, rfl, j, rfl, hj, rfl, e⟩
  refine ⟨fun hlt => ?_, fun hge => ?_⟩
  · have hlt : j < l.length := by have := of_decide_eq_true hlt; omega
    have t1 : Int.toNat (j : Int) = j := by omega
    rw [t1]
    obtain ⟨b, o, e1, k1, i1, s1, a1, m1, c1, l1, r1⟩ := elem hl hlt
    have hs := pairs_step hlt
    generalize l[j] = y at *
    obtain ⟨k, i, s, ly⟩ := y
    obtain ⟨_, _, _, e2, rfl, h3, h4⟩ := r1
    cases e2
    have no : pairB (.mk k1 i1 s1 ly) = false → Q (.bool false) H9 := fun h => by rw [e, hs, h] at hq; exact hq
    refine ⟨⟨by omega, by omega⟩, b, o, e1, k1, i1, s1, _, _, _, l1, fun h => no ?_, fun h => ⟨fun h' => no ?_, fun h' => ?_⟩⟩
    · have h := of_decide_eq_true h
      simp [pairB, h]
    · have h' := of_decide_eq_true h'
      have : ¬ ly.length = 2 := by omega
      simp [pairB, this]
    · have h := of_decide_eq_false h
      have h' := of_decide_eq_false h'
      have hk : k1 = 4 := by omega
      have h2 : ly.length = 2 := by omega
      cases ly with
      | nil => simp at h2
      | cons z ly =>
        obtain ⟨b2, o2, ha2, ⟨cs, h5, h6⟩, h7⟩ := h3
        obtain ⟨kz, iz, sz, lz⟩ := z
        obtain ⟨az, nz, cz, rfl, _⟩ := h6
        refine ⟨⟨by omega, by omega⟩, b2, o2, ha2, rfl, kz, ld_sub h5 0 1 (by simp), fun h8 => no ?_, fun h8 => ?_⟩
        · have h8 := of_decide_eq_true h8
          simp [pairB, kV, h8]
        · have h8 := of_decide_eq_false h8
          have h8 : kz = 3 := by omega
          have hp : pairB (.mk k1 i1 s1 (.mk kz iz sz lz :: ly)) = true := by
            have h9 : ly.length = 1 := by simpa using h2
            simp [pairB, kV, h8, hk, h9]
          rw [hp, Bool.true_and] at hs
          exact ⟨l.length - (j + 1), by omega, rfl, rfl, rfl, rfl, j + 1, by rw [wrap64 (by omega) (by omega)]; omega, by omega, rfl, e.trans hs⟩
  · have hge : l.length ≤ j := by have := of_decide_eq_false hge; omega
    have hjl : j = l.length := by omega
    subst hjl
    rw [e, List.drop_length] at hq
    exact hq

theorem c93 {k i : Int} {s : ByteArray} {l : List V} {a : Option Addr} {c : Nat} {H : KH} {Q : Value → KH → Prop} (hl : RS H l a) (hn : l.length ≤ 1000000)
    (ih : ∀ x ∈ l, ∀ (cx : List Value) (Q : Value → KH → Prop), RV H x cx → Q (.bool (fitV x)) H → Does (env Tryz.prog) 62 [.agg cx.toArray] H Q)
    (hq : Q (.bool (decide (i = 0) && (strEq s (ByteArray.mk #[]) && partsB l))) H) : Does (env Tryz.prog) 93 [.agg #[.int .i64 k, .int .i64 i, .string s, .slice a l.length c]] H Q := by
  refine fn93 ok ⟨fun h => ?_, fun h1 => ⟨fun h => ?_, fun h2 => ?_⟩⟩
  · have h := of_decide_eq_true h
    rw [decide_eq_false h] at hq
    exact hq
  · have h : strEq s (ByteArray.mk #[]) = false := by simpa using h
    rw [h, Bool.false_and, Bool.and_false] at hq
    exact hq
  · have h1 : i = 0 := by simpa using h1
    have h2 : strEq s (ByteArray.mk #[]) = true := by simpa using h2
    rw [h2, decide_eq_true h1, Bool.true_and, Bool.true_and] at hq
    unfold vc93_L1
    refine ⟨fun m a4 n5 n6 x7 x8 H9 => a4 = a ∧ n5 = l.length ∧ x7 = (l.length : Nat) ∧ H9 = H ∧ ∃ j : Nat, x8 = (j : Int) ∧ j ≤ l.length ∧ m = l.length - j ∧ partsB l = partsB (l.drop j), ⟨l.length, rfl, rfl, rfl, rfl, 0, rfl, by omega, rfl, by simp⟩, ?_⟩
    rintro m a4 n5 n6 x7 x8 H9 ⟨rfl, rfl, rfl, rfl, j, rfl, hj, rfl, e⟩
    refine ⟨fun hlt => ?_, fun hge => ?_⟩
    · have hlt : j < l.length := by have := of_decide_eq_true hlt; omega
      have t1 : Int.toNat (j : Int) = j := by omega
      rw [t1]
      obtain ⟨b, o, e1, k1, i1, s1, a1, m1, c1, l1, r1⟩ := elem hl hlt
      have hs := parts_step hlt
      have ihy := ih _ (List.getElem_mem hlt)
      generalize l[j] = y at *
      have r1' := r1
      obtain ⟨k, i, s, ly⟩ := y
      obtain ⟨_, _, _, e2, rfl, h3, h4⟩ := r1
      cases e2
      refine ⟨⟨by omega, by omega⟩, b, o, e1, k1, i1, s1, _, _, _, l1, fun h => ?_, fun h => ihy _ _ r1' ⟨_, rfl, fun h' => ?_, fun h' => ?_⟩⟩
      · have h : k1 = 7 := by simpa using h
        rw [e, hs] at hq
        simp only [kV, h, ne_eq, not_true_eq_false, decide_false, Bool.false_and] at hq
        exact hq
      · have h' : fitV (.mk k1 i1 s1 ly) = false := by simpa using h'
        rw [e, hs, h', Bool.false_and, Bool.and_false] at hq
        exact hq
      · have h' : fitV (.mk k1 i1 s1 ly) = true := by simpa using h'
        have h : ¬ k1 = 7 := by simpa using h
        have hk : decide (kV (.mk k1 i1 s1 ly) ≠ 7) = true := by simp [kV, h]
        rw [h', hk, Bool.true_and, Bool.true_and] at hs
        exact ⟨l.length - (j + 1), by omega, rfl, rfl, rfl, rfl, j + 1, by rw [wrap64 (by omega) (by omega)]; omega, by omega, rfl, e.trans hs⟩
    · have hge : l.length ≤ j := by have := of_decide_eq_false hge; omega
      have hjl : j = l.length := by omega
      subst hjl
      rw [e, List.drop_length] at hq
      exact hq

theorem c62 : ∀ (N : Nat) (v : V) (cs : List Value) (H : KH) (Q : Value → KH → Prop), szV v ≤ N → N ≤ 60000 → RV H v cs → Q (.bool (fitV v)) H → Does (env Tryz.prog) 62 [.agg cs.toArray] H Q := by
  intro N
  induction N with
  | zero => intro v cs H Q h1; have := szV_pos v; omega
  | succ N ih =>
    intro v cs H Q h1 h2 hr hq
    obtain ⟨k, i, s, l⟩ := v
    obtain ⟨a, n, c, rfl, rfl, hl, hok⟩ := hr
    have hll := len_szL l
    simp only [szV] at h1
    have h36 : ∀ (k : Int) (Q : Value → KH → Prop), Q (.bool (decide (i = 0) && (strEq s (ByteArray.mk #[]) && partsB l))) H → Does (env Tryz.prog) 93 [.agg #[.int .i64 k, .int .i64 i, .string s, .slice a l.length c]] H Q := fun k Q hq =>
      c93 ok hl (by omega) (fun x hx cx Q hr hq => ih x cx H Q (by have := mem_szL hx; omega) (by omega) hr hq) hq
    have hord : ∀ Q : Value → KH → Prop, Q (.bool (riseB cmpV l)) H → Does (env Tryz.prog) 94 [.agg #[.slice a l.length c, .func (.func 65) #[] #[]]] H Q := fun Q hq =>
      c94 ok hl (by omega) (fun x hx y hy cx cy Q rx ry hq => c65 ok 60000 x y cx cy H Q (by have := mem_szL hx; omega) (by omega) (by have := mem_szL hy; omega) rx ry hq) hq
    have hkey : ∀ Q : Value → KH → Prop, Q (.bool (riseB cmpK l)) H → Does (env Tryz.prog) 94 [.agg #[.slice a l.length c, .func (.func 96) #[] #[]]] H Q := fun Q hq =>
      c94 ok hl (by omega) (fun x hx y hy cx cy Q rx ry hq => c96 ok rx ry hq) hq
    have hz : decide ((l.length : Int) = 0) = decide (l.length = 0) := by
      by_cases h : l.length = 0
      · simp [h]
      · have : ¬ (l.length : Int) = 0 := by omega
        rw [decide_eq_false h, decide_eq_false this]
    refine fn62 ok ⟨fun h => ?_, fun g1 => ⟨fun h => ?_, fun g2 => ⟨fun h => ?_, fun g3 => ⟨fun h => ?_, fun g4 => ⟨fun h => ?_, fun g5 => ⟨fun h => ?_, fun g6 => ⟨fun h => ?_, fun g7 => ?_⟩⟩⟩⟩⟩⟩⟩
    · have h : k = 1 := by simpa using h
      subst h
      have hf : fitV (.mk 1 i s l) = (strEq s (ByteArray.mk #[]) && decide (l.length = 0)) := by rw [fitV]; simp
      rw [hf] at hq
      refine ⟨fun e => ?_, fun e => ?_⟩
      · rw [e, Bool.true_and, ← hz] at hq; exact hq
      · rw [e, Bool.false_and] at hq; exact hq
    · have h : k = 2 := by simpa using h
      subst h
      have hf : fitV (.mk 2 i s l) = ((decide (i = 0) || decide (i = 1)) && (strEq s (ByteArray.mk #[]) && decide (l.length = 0))) := by rw [fitV]; simp
      rw [hf, ← hz] at hq
      refine ⟨fun e0 => ⟨fun e => ?_, fun e => ?_⟩, fun e0 => ⟨fun e1 => ⟨fun e => ?_, fun e => ?_⟩, fun e1 => ?_⟩⟩
      · rw [e0, e, Bool.true_or, Bool.true_and, Bool.true_and] at hq; exact hq
      · rw [e, Bool.false_and, Bool.and_false] at hq; exact hq
      · rw [e1, e, Bool.or_true, Bool.true_and, Bool.true_and] at hq; exact hq
      · rw [e, Bool.false_and, Bool.and_false] at hq; exact hq
      · rw [e0, e1, Bool.or_false, Bool.false_and] at hq; exact hq
    · have h : k = 3 := by simpa using h
      subst h
      have hf : fitV (.mk 3 i s l) = (decide (i = 0) && decide (l.length = 0)) := by rw [fitV]; simp
      rw [hf, ← hz] at hq
      refine ⟨fun e => ?_, fun e => ?_⟩
      · rw [e, Bool.true_and] at hq; exact hq
      · rw [e, Bool.false_and] at hq; exact hq
    · have h : k = 4 := by simpa using h
      subst h
      have hf : fitV (.mk 4 i s l) = (decide (i = 0) && (strEq s (ByteArray.mk #[]) && partsB l)) := by rw [fitV]; simp
      rw [hf] at hq
      exact h36 4 _ ⟨_, rfl, hq⟩
    · have h : k = 5 := by simpa using h
      subst h
      have hf : fitV (.mk 5 i s l) = (decide (i = 0) && (strEq s (ByteArray.mk #[]) && partsB l) && riseB cmpV l) := by rw [fitV]; simp
      rw [hf] at hq
      refine h36 5 _ ⟨_, rfl, fun e => ?_, fun e => ?_⟩
      · rw [e, Bool.true_and] at hq
        exact hord _ ⟨_, rfl, hq⟩
      · rw [e, Bool.false_and] at hq; exact hq
    · have h : k = 6 := by simpa using h
      subst h
      have hf : fitV (.mk 6 i s l) = (decide (i = 0) && (strEq s (ByteArray.mk #[]) && partsB l) && (l.all pairB && riseB cmpK l)) := by rw [fitV]; simp
      rw [hf] at hq
      refine h36 6 _ ⟨_, rfl, fun e => ?_, fun e => ?_⟩
      · rw [e, Bool.true_and] at hq
        refine c95 ok hl (by omega) ⟨_, rfl, fun e2 => ?_, fun e2 => ?_⟩
        · rw [e2, Bool.true_and] at hq
          exact hkey _ ⟨_, rfl, hq⟩
        · rw [e2, Bool.false_and] at hq; exact hq
      · rw [e, Bool.false_and] at hq; exact hq
    · have h : k = 7 := by simpa using h
      subst h
      have hf : fitV (.mk 7 i s l) = ((decide (1 ≤ i) && decide (i ≤ 13)) && (strEq s (ByteArray.mk #[]) && decide (l.length = 0))) := by rw [fitV]; simp
      rw [hf, ← hz] at hq
      refine c97 ok ⟨_, rfl, fun e0 => ⟨fun e => ?_, fun e => ?_⟩, fun e0 => ?_⟩
      · rw [e0, e, Bool.true_and, Bool.true_and] at hq; exact hq
      · rw [e, Bool.false_and, Bool.and_false] at hq; exact hq
      · rw [e0, Bool.false_and] at hq; exact hq
    · have g1 : ¬ k = 1 := by simpa using g1
      have g2 : ¬ k = 2 := by simpa using g2
      have g3 : ¬ k = 3 := by simpa using g3
      have g4 : ¬ k = 4 := by simpa using g4
      have g5 : ¬ k = 5 := by simpa using g5
      have g6 : ¬ k = 6 := by simpa using g6
      have g7 : ¬ k = 7 := by simpa using g7
      have hf : fitV (.mk k i s l) = false := by rw [fitV]; simp [g1, g2, g3, g4, g5, g6, g7]
      rw [hf] at hq
      exact hq

theorem c42 {v : V} {cs : List Value} {H : KH} {Q : Value → KH → Prop} (hv : RV H v cs) (h1 : szV v ≤ 4000000) (hq : Q (.bool (decide (szV v ≤ 60) && fitV v)) H) : Does (env Tryz.prog) 42 [.agg cs.toArray] H Q := by
  have hv' := hv
  obtain ⟨k, i, s, l⟩ := v
  obtain ⟨a, n, c, rfl, rfl, hl, hok⟩ := hv
  refine fn42 ok (c61 ok 4000000 _ _ H _ _ _ h1 (by omega) hv' (.inr (by omega)) (by omega) (by omega) (by omega) ⟨_, rfl, fun h => ?_, fun h => ?_⟩)
  · have h : szV (.mk k i s l) ≤ 60 := by have := of_decide_eq_true h; omega
    rw [decide_eq_true h, Bool.true_and] at hq
    exact c62 ok 60 _ _ H _ h (by omega) hv' ⟨_, rfl, hq⟩
  · have h : ¬ szV (.mk k i s l) ≤ 60 := by have := of_decide_eq_false h; omega
    rw [decide_eq_false h, Bool.false_and] at hq
    exact hq

theorem c50 {v : V} {cs : List Value} {H : KH} {Q : Value → KH → Prop} (hv : RV H v cs) (h1 : szV v ≤ 4000000) (h2 : dpV v ≤ 65536) (hq : Q (.int .i64 (szV v : Nat)) H) : Does (env Tryz.prog) 50 [.agg cs.toArray] H Q := by
  have hv' := hv
  obtain ⟨k, i, s, l⟩ := v
  obtain ⟨a, n, c, rfl, rfl, hl, hok⟩ := hv
  refine fn50 ok (c61 ok 4000000 _ _ H _ _ _ h1 (by omega) hv' (.inl (by omega)) (by omega) (by omega) (by omega) ⟨_, rfl, ?_⟩)
  have : min (szV (.mk k i s l) : Int) 2147483647 = (szV (.mk k i s l) : Nat) := by omega
  rw [this]
  exact hq
end
end Va
end Go.Proofs.YtpdabjimdfifnaaGreat

/- The law ValAll: what its function answers. -/
set_option linter.unusedVariables false
set_option linter.unusedSimpArgs false
namespace Go.Ew
open Go.Ev Go.Deep Go.Proofs.YtpdabjimdfifnaaGreat.Va

/-- What a row of a kind must still be, from a place on. -/
def rest (k : Int) (l : List V) (j : Nat) : Bool := if k = 5 then riseB cmpV (l.drop (j - 1)) else if k = 6 then (l.drop j).all pairB && riseB cmpK (l.drop (j - 1)) else true

def lightN : Nat → Nat
  | 0 => 0
  | d + 1 => 126 + 12 * lightN d
end Go.Ew

namespace Go.Proofs.YtpdabjimdfifnaaGreat
open Go.Ev Go.Ew
namespace Va
section
variable (ok : EnvOk (env Tryz.prog))
include ok

end
end Va
end Go.Proofs.YtpdabjimdfifnaaGreat
