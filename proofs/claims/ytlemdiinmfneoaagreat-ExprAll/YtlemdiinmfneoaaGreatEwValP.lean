/- Contracts of package val's and the reference's functions. -/
import Derived.Test.YtlemdiinmfneoaaGreatEwVc1
import Derived.Test.YtlemdiinmfneoaaGreatEwVal
set_option linter.unusedVariables false
namespace Go.Proofs.YtlemdiinmfneoaaGreat
open Go.Ev Go.Ew
namespace Va

theorem tdiv_nat (n : Nat) : Int.tdiv ((n : Nat) : Int) 16 = ((n / 16 : Nat) : Int) := by
  rw [Int.tdiv_eq_ediv_of_nonneg (by omega)]
  omega

section
variable (ok : EnvOk (env Tryz.prog))
include ok

theorem c71 : ∀ (N : Nat) (v : V) (cs : List Value) (H : KH) (most deep : Int) (Q : PQ), szV v ≤ N → N ≤ 4000000 → RV H v cs → ((dpV v : Int) ≤ deep ∨ most ≤ deep + 1) → deep ≤ 100000 → 0 < most → most ≤ 4294967296 →
    Q (.int .i64 (min (szV v : Int) most)) H → Does (env Tryz.prog) 71 [.agg cs.toArray, .int .i64 most, .int .i64 deep] H Q := by
  intro N
  induction N with
  | zero => intro v cs H most deep Q h1; have := szV_pos v; omega
  | succ N ih =>
    intro v cs H most deep Q h1 h2 hr hd hd2 hm hm2 hq
    obtain ⟨k, i, s, l⟩ := v
    obtain ⟨a, n, c, rfl, rfl, hs, hsl⟩ := hr
    simp only [szV, dpV] at h1 hd hq
    have hl := len_szL l
    have hdl := dp_szL l
    refine fn71 ok ?_
    have key : vc71_L2 most deep s a l.length c H Q := by
      unfold vc71_L2
      refine ⟨fun m x4 x5 x6 a7 n8 n9 x10 x11 H12 => x4 = most ∧ x5 = deep ∧ a7 = a ∧ n8 = l.length ∧ x10 = (l.length : Nat) ∧ H12 = H ∧
        ∃ j : Nat, x11 = j ∧ j ≤ l.length ∧ m = l.length - j ∧ min x6 most = min ((1 + s.size / 16 + szTo l j : Nat) : Int) most ∧ 1 ≤ x6 ∧ x6 ≤ ((1 + s.size / 16 + szTo l j : Nat) : Int), ?_, ?_⟩
      · refine ⟨l.length, rfl, rfl, rfl, rfl, rfl, rfl, 0, rfl, by omega, by omega, ?_⟩
        have h0 : szTo l 0 = 0 := by simp [szTo, szL]
        rw [tdiv_nat, wrap64 (x := ((s.size / 16 : Nat) : Int)) (by omega) (by omega), wrap64 (by omega) (by omega), h0]
        omega
      · rintro m x4 x5 x6 a7 n8 n9 x10 x11 H12 ⟨rfl, rfl, rfl, rfl, rfl, rfl, j, rfl, hj, rfl, e1, e2, e3⟩
        have hto := szTo_le l j
        refine ⟨fun hlt => ?_, fun hge => ?_⟩
        · have hlt : j < l.length := by simpa using hlt
          obtain ⟨x, hx⟩ : ∃ x, l[j]? = some x := ⟨l[j], by simp [hlt]⟩
          obtain ⟨b, o, ha, cs, hld, hrv⟩ := RS.get hs hx
          have hxs := szL_drop l j x hx
          have hto1 := szTo_succ l j x hx
          have hto2 := szTo_le l (j + 1)
          obtain ⟨k', i', s', l'⟩ := x
          obtain ⟨a', n', c', rfl, rfl, hs', hsl'⟩ := hrv
          refine ⟨⟨by omega, by omega⟩, b, o, ha, k', i', s', a', l'.length, c', by simpa using hld, fun hb => ?_, fun hb => ?_⟩
          · have hb : x4 ≤ x6 := by simpa using hb
            have : min x6 x4 = min ((1 + s.size / 16 + szL l : Nat) : Int) x4 := by omega
            rw [this]
            exact hq
          · have hb : x6 < x4 := by simpa using hb
            rw [wrap64 (by omega) (by omega), wrap64 (by omega) (by omega)]
            refine ih (.mk k' i' s' l') _ H12 _ _ _ (by omega) (by omega) ⟨a', _, c', rfl, rfl, hs', hsl'⟩ (by omega) (by omega) (by omega) (by omega) ?_
            refine ⟨_, rfl, l.length - (j + 1), by omega, rfl, rfl, rfl, rfl, rfl, rfl, j + 1, ?_, by omega, rfl, ?_⟩
            · rw [wrap64 (by omega) (by omega)]; omega
            · rw [wrap64 (by omega) (by omega), hto1]
              omega
        · have hge : l.length ≤ j := by simpa using hge
          have hjl : j = l.length := by omega
          subst hjl
          rw [szTo_all] at e1
          rw [e1]
          exact hq
    refine ⟨fun hz => ⟨fun hp => ?_, fun _ => ⟨by omega, key⟩⟩, fun _ => ⟨by omega, key⟩⟩
    have hz : deep = 0 := by simpa using hz
    have hp : 0 < l.length := by simpa using hp
    cases l with
    | nil => simp at hp
    | cons x l =>
      rcases hd with hd | hd
      · simp only [dpL] at hd; omega
      · have : min ((1 + s.size / 16 + szL (x :: l) : Nat) : Int) most = most := by omega
        rw [this] at hq
        exact hq

theorem c73 {v : V} {cs : List Value} {H : KH} {Q : PQ} (hr : RV H v cs) (hs : szV v ≤ 60000) (hq : Q (.bool false) H) : Does (env Tryz.prog) 73 [.agg cs.toArray] H Q := by
  obtain ⟨k, i, s, l⟩ := v
  obtain ⟨a, n, c, rfl, rfl, hl, hok⟩ := hr
  have hd := dp_sz (.mk k i s l)
  refine fn73 ok (c71 ok 60000 (.mk k i s l) _ H _ _ _ hs (by omega) ⟨a, _, c, rfl, rfl, hl, hok⟩ (by omega) (by omega) (by omega) (by omega) ?_)
  refine ⟨_, rfl, ?_⟩
  have : decide ((33554431 : Int) ≤ min (szV (.mk k i s l) : Int) 33554431) = false := by
    rw [decide_eq_false_iff_not]; omega
  rw [this]
  exact hq

theorem c119 {x : Int} {H : KH} {Q : PQ} (hq : Q (.bool false) H) : Does (env Tryz.prog) 119 [.int .i64 x] H Q := by
  refine fn119 ok ?_
  unfold vc119
  have : decide (x ≠ x) = false := by simp
  rw [this]
  exact hq

theorem c120 {x : Int} {H : KH} {Q : PQ} (hq : Q (.bool false) H) : Does (env Tryz.prog) 120 [.int .i64 x] H Q := by
  refine fn120 ok ?_
  unfold vc120
  have : decide (x ≠ x) = false := by simp
  rw [this]
  exact hq

theorem c108 {x y : Int} {H : KH} {Q : PQ} (hq : Q (.int .i64 (cmpI x y)) H) : Does (env Tryz.prog) 108 [.int .i64 x, .int .i64 y] H Q := by
  refine fn108 ok (c119 ok ⟨false, rfl, c119 ok ⟨false, rfl, fun h => (by cases h), fun _ => ⟨fun h => (by cases h), fun _ => ⟨fun h => ?_, fun h => ⟨fun h2 => ?_, fun h2 => ?_⟩⟩⟩⟩⟩)
  all_goals
    simp only [decide_eq_true_eq, decide_eq_false_iff_not] at *
    unfold cmpI at hq
    simp_all

theorem c109 {x y : Int} {H : KH} {Q : PQ} (hq : Q (.int .i64 (cmpI x y)) H) : Does (env Tryz.prog) 109 [.int .i64 x, .int .i64 y] H Q := by
  refine fn109 ok (c120 ok ⟨false, rfl, c120 ok ⟨false, rfl, fun h => (by cases h), fun _ => ⟨fun h => (by cases h), fun _ => ⟨fun h => ?_, fun h => ⟨fun h2 => ?_, fun h2 => ?_⟩⟩⟩⟩⟩)
  all_goals
    simp only [decide_eq_true_eq, decide_eq_false_iff_not] at *
    unfold cmpI at hq
    simp_all

omit ok in
theorem c122 {x y : ByteArray} {H : KH} {Q : PQ} (hq : Q (.int .i64 (cmpS' x y)) H) : Does (env Tryz.prog) 122 [.string x, .string y] H Q :=
  does_cmp (by kernel_rfl) (by kernel_rfl) (by kernel_rfl) hq

theorem c110 {x y : ByteArray} {H : KH} {Q : PQ} (hq : Q (.int .i64 (cmpS' x y)) H) : Does (env Tryz.prog) 110 [.string x, .string y] H Q :=
  fn110 ok (fn121 ok (c122 ⟨_, rfl, _, rfl, hq⟩))

theorem c37 {b : Bool} {H : KH} {Q : PQ} (hq : Q (.int .i64 (if b then -1 else 1)) H) : Does (env Tryz.prog) 37 [.bool b] H Q := by
  refine fn37 ok ⟨fun h => ?_, fun h => ?_⟩ <;> subst h <;> exact hq

/-- Values one by one, by a function that compares. -/
theorem c111 {l l' : List V} {a a' : OA} {c c' g : Nat} {H : KH} {Q : PQ} (h1 : RS H l a) (h2 : RS H l' a') (hl : l.length ≤ 1000000) (hl' : l'.length ≤ 1000000)
    (hg : ∀ x y : V, x ∈ l → y ∈ l' → ∀ (cx cy : List Value) (Q : PQ), RV H x cx → RV H y cy → Q (.int .i64 (cmpV x y)) H → Does (env Tryz.prog) g [.agg cx.toArray, .agg cy.toArray] H Q)
    (hq : Q (.int .i64 (cmpL l l')) H) : Does (env Tryz.prog) 111 [.slice a l.length c, .slice a' l'.length c', .func (.func g) #[] #[]] H Q := by
  refine fn111 ok ?_
  unfold vc111 vc111_L2
  refine ⟨fun m a4 n5 n6 a7 n8 n9 n10 a11 n12 n13 x14 x15 H16 => n5 = l.length ∧ a7 = a' ∧ n8 = l'.length ∧ n10 = g ∧ a11 = a ∧ n12 = l.length ∧ x14 = (l.length : Nat) ∧ H16 = H ∧
    ∃ j : Nat, x15 = j ∧ j ≤ l.length ∧ j ≤ l'.length ∧ m = l.length - j ∧ cmpL l l' = cmpL (l.drop j) (l'.drop j), ⟨l.length, rfl, rfl, rfl, rfl, rfl, rfl, rfl, rfl, 0, rfl, by omega, by omega, by omega, by simp⟩, ?_⟩
  rintro m a4 n5 n6 a7 n8 n9 n10 a11 n12 n13 x14 x15 H16 ⟨rfl, rfl, rfl, rfl, rfl, rfl, rfl, rfl, j, rfl, hj, hj', rfl, e⟩
  refine ⟨fun hlt => ?_, fun hge => ?_⟩
  · have hlt : j < l.length := by simpa using hlt
    have hx : l[j]? = some l[j] := by simp [hlt]
    obtain ⟨b, o, ha, cx, hld, hrv⟩ := RS.get h1 hx
    have hdrop : l.drop j = l[j] :: l.drop (j + 1) := List.drop_eq_getElem_cons hlt
    generalize hxv : l[j] = x at *
    obtain ⟨k, i, s, lx⟩ := x
    obtain ⟨ax, nx, cx', rfl, rfl, hsx, hox⟩ := hrv
    refine ⟨⟨by omega, by omega⟩, b, o, ha, k, i, s, ax, lx.length, cx', by simpa using hld, fun hb => ?_, fun hb => ?_⟩
    · have hb : l'.length ≤ j := by simpa using hb
      have : l'.drop j = [] := List.drop_eq_nil_of_le hb
      rw [hdrop, this] at e
      rw [e] at hq
      exact hq
    · have hb : j < l'.length := by simpa using hb
      have hy : l'[j]? = some l'[j] := by simp [hb]
      obtain ⟨b', o', ha', cy, hld', hrv'⟩ := RS.get h2 hy
      have hdrop' : l'.drop j = l'[j] :: l'.drop (j + 1) := List.drop_eq_getElem_cons hb
      have hmy : l'[j] ∈ l' := List.getElem_mem hb
      have hmx : V.mk k i s lx ∈ l := by rw [← hxv]; exact List.getElem_mem hlt
      generalize hyv : l'[j] = y at *
      obtain ⟨k', i', s', ly⟩ := y
      obtain ⟨ay, ny, cy', rfl, rfl, hsy, hoy⟩ := hrv'
      refine ⟨⟨by omega, by omega⟩, b', o', ha', k', i', s', ay, ly.length, cy', by simpa using hld', ?_⟩
      refine hg (.mk k i s lx) (.mk k' i' s' ly) hmx hmy _ _ _ ⟨ax, _, cx', rfl, rfl, hsx, hox⟩ ⟨ay, _, cy', rfl, rfl, hsy, hoy⟩ ⟨_, rfl, fun hne => ?_, fun he => ?_⟩
      · have hne : cmpV (.mk k i s lx) (.mk k' i' s' ly) ≠ 0 := by simpa using hne
        rw [hdrop, hdrop', cmpL, if_pos hne] at e
        rw [e] at hq
        exact hq
      · have he : cmpV (.mk k i s lx) (.mk k' i' s' ly) = 0 := by simpa using he
        rw [hdrop, hdrop', cmpL, if_neg (by omega)] at e
        refine ⟨l.length - (j + 1), by omega, rfl, rfl, rfl, rfl, rfl, rfl, rfl, rfl, j + 1, ?_, by omega, by omega, rfl, e⟩
        rw [wrap64 (by omega) (by omega)]; omega
  · have hge : l.length ≤ j := by simpa using hge
    have hjl : j = l.length := by omega
    subst hjl
    have hd : l.drop l.length = [] := List.drop_length
    rw [hd] at e
    refine ⟨fun hb => ?_, fun hb => ?_⟩
    · have hb : l.length < l'.length := by simpa using hb
      have hdrop' : l'.drop l.length = l'[l.length] :: l'.drop (l.length + 1) := List.drop_eq_getElem_cons hb
      rw [hdrop'] at e
      rw [e] at hq
      exact hq
    · have hb : ¬ l.length < l'.length := by simpa using hb
      have : l'.drop l.length = [] := List.drop_eq_nil_of_le (by omega)
      rw [this] at e
      rw [e] at hq
      exact hq

theorem c75 : ∀ (N : Nat) (x y : V) (cx cy : List Value) (H : KH) (Q : PQ), szV x ≤ N → N ≤ 1000000 → szV y ≤ 1000000 → RV H x cx → RV H y cy → Q (.int .i64 (cmpV x y)) H → Does (env Tryz.prog) 75 [.agg cx.toArray, .agg cy.toArray] H Q := by
  intro N
  induction N with
  | zero => intro x y cx cy H Q h1; have := szV_pos x; omega
  | succ N ih =>
    intro x y cx cy H Q h1 h2 h3 hx hy hq
    obtain ⟨k, i, s, l⟩ := x
    obtain ⟨a, n, c, rfl, rfl, hl, hok⟩ := hx
    obtain ⟨k', i', s', l'⟩ := y
    obtain ⟨a', n', c', rfl, rfl, hl', hok'⟩ := hy
    simp only [szV] at h1 h3
    have hn := len_szL l
    have hn' := len_szL l'
    simp only [cmpV] at hq
    refine fn75 ok (c108 ok ⟨_, rfl, fun hb => ?_, fun hb => c109 ok ⟨_, rfl, fun hb2 => ?_, fun hb2 => c110 ok ⟨_, rfl, fun hb3 => ?_, fun hb3 => ?_⟩⟩⟩)
    · have hb : cmpI k k' ≠ 0 := by simpa using hb
      rw [if_pos hb] at hq
      exact hq
    · have hb : cmpI k k' = 0 := by simpa using hb
      have hb2 : cmpI i i' ≠ 0 := by simpa using hb2
      rw [if_neg (by omega), if_pos hb2] at hq
      exact hq
    · have hb : cmpI k k' = 0 := by simpa using hb
      have hb2 : cmpI i i' = 0 := by simpa using hb2
      have hb3 : cmpS' s s' ≠ 0 := by simpa using hb3
      rw [if_neg (by omega), if_neg (by omega), if_pos hb3] at hq
      exact hq
    · have hb : cmpI k k' = 0 := by simpa using hb
      have hb2 : cmpI i i' = 0 := by simpa using hb2
      have hb3 : cmpS' s s' = 0 := by simpa using hb3
      rw [if_neg (by omega), if_neg (by omega), if_neg (by omega)] at hq
      refine c111 ok hl hl' (by omega) (by omega) (fun x y hx hy cx cy Q rx ry q => ?_) ⟨_, rfl, hq⟩
      have := mem_szL hx
      have := mem_szL hy
      exact ih x y cx cy H Q (by omega) (by omega) (by omega) rx ry q

theorem c116 {x y : V} {cx cy : List Value} {H : KH} {Q : PQ} (h1 : szV x ≤ 60000) (h2 : szV y ≤ 60000) (hx : RV H x cx) (hy : RV H y cy) (hq : Q (.int .i64 (cmpV x y)) H) : Does (env Tryz.prog) 116 [.agg cx.toArray, .agg cy.toArray] H Q := by
  have hx' := hx
  have hy' := hy
  obtain ⟨k, i, s, l⟩ := x
  obtain ⟨a, n, c, rfl, rfl, hl, hok⟩ := hx
  obtain ⟨k', i', s', l'⟩ := y
  obtain ⟨a', n', c', rfl, rfl, hl', hok'⟩ := hy
  refine fn116 ok (c73 ok hx' h1 ⟨false, rfl, fun h => (by cases h), fun _ => ?_⟩)
  exact c75 ok 60000 _ _ _ _ H _ h1 (by omega) (by omega) hx' hy' ⟨_, rfl, hq⟩

theorem c24 : ∀ (N : Nat) (x y : V) (cx cy : List Value) (H : KH) (Q : PQ), szV x ≤ N → N ≤ 1000000 → szV y ≤ 1000000 → RV H x cx → RV H y cy → Q (.int .i64 (cmpV x y)) H → Does (env Tryz.prog) 24 [.agg cx.toArray, .agg cy.toArray] H Q := by
  intro N
  induction N with
  | zero => intro x y cx cy H Q h1; have := szV_pos x; omega
  | succ N ih =>
    intro x y cx cy H Q h1 h2 h3 hx hy hq
    obtain ⟨k, i, s, l⟩ := x
    obtain ⟨a, n, c, rfl, rfl, hl, hok⟩ := hx
    obtain ⟨k', i', s', l'⟩ := y
    obtain ⟨a', n', c', rfl, rfl, hl', hok'⟩ := hy
    simp only [szV] at h1 h3
    have hn := len_szL l
    have hn' := len_szL l'
    simp only [cmpV] at hq
    have sg : ∀ p q : Int, p ≠ q → (if decide (p < q) then (-1 : Int) else 1) = cmpI p q := by
      intro p q h; unfold cmpI
      by_cases h1 : p < q
      · simp [h1]
      · have : q < p := by omega
        simp [h1, this]
    refine fn24 ok ⟨fun hb => c37 ok ⟨_, rfl, ?_⟩, fun hb => ⟨fun hb2 => c37 ok ⟨_, rfl, ?_⟩, fun hb2 => ⟨fun hb3 => c37 ok ⟨_, rfl, ?_⟩, fun hb3 => ?_⟩⟩⟩
    · have hb : k ≠ k' := by simpa using hb
      rw [sg k k' hb]
      rw [if_pos (fun e => hb ((cmpI_zero k k').1 e))] at hq
      exact hq
    · have hb : k = k' := by simpa using hb
      have hb2 : i ≠ i' := by simpa using hb2
      rw [sg i i' hb2]
      rw [if_neg (fun e => e ((cmpI_zero k k').2 hb)), if_pos (fun e => hb2 ((cmpI_zero i i').1 e))] at hq
      exact hq
    · have hb : k = k' := by simpa using hb
      have hb2 : i = i' := by simpa using hb2
      have hb3 : strEq s s' = false := by simpa using hb3
      have e3 := cmpS_str s s'
      rw [hb3] at e3
      simp only [Bool.false_eq_true, if_false] at e3
      rw [← e3]
      rw [if_neg (fun e => e ((cmpI_zero k k').2 hb)), if_neg (fun e => e ((cmpI_zero i i').2 hb2)), if_pos (by rw [e3]; split <;> omega)] at hq
      exact hq
    · have hb : k = k' := by simpa using hb
      have hb2 : i = i' := by simpa using hb2
      have hb3 : strEq s s' = true := by simpa using hb3
      have e3 := cmpS_str s s'
      rw [hb3] at e3
      simp only [if_true] at e3
      rw [if_neg (fun e => e ((cmpI_zero k k').2 hb)), if_neg (fun e => e ((cmpI_zero i i').2 hb2)), if_neg (by omega)] at hq
      unfold vc24_L1
      refine ⟨fun m x4 x5 s6 a7 n8 n9 x10 x11 s12 a13 n14 n15 x16 H17 => a7 = a ∧ n8 = l.length ∧ a13 = a' ∧ n14 = l'.length ∧ H17 = H ∧
        ∃ j : Nat, x16 = j ∧ j ≤ l.length ∧ j ≤ l'.length ∧ m = l.length - j ∧ cmpL l l' = cmpL (l.drop j) (l'.drop j), ⟨l.length, rfl, rfl, rfl, rfl, rfl, 0, rfl, by omega, by omega, by omega, by simp⟩, ?_⟩
      rintro m x4 x5 s6 a7 n8 n9 x10 x11 s12 a13 n14 n15 x16 H17 ⟨rfl, rfl, rfl, rfl, rfl, j, rfl, hj, hj', rfl, e⟩
      have stop : (j = l.length ∨ j = l'.length) → ((decide (((l.length : Nat) : Int) = ((l'.length : Nat) : Int)) = true → Q (.int .i64 0) H17) ∧ (decide (((l.length : Nat) : Int) = ((l'.length : Nat) : Int)) = false →
          Does (env Tryz.prog) 37 [.bool (decide (((l.length : Nat) : Int) < ((l'.length : Nat) : Int)))] H17 fun v H' => ∃ x : Int, v = .int .i64 x ∧ Q (.int .i64 x) H')) := by
        intro hor
        have hr : cmpL l l' = if l.length = l'.length then 0 else if l.length < l'.length then -1 else 1 := by
          rw [e]
          by_cases h1 : j < l.length
          · have h2 : j = l'.length := by omega
            rw [List.drop_eq_getElem_cons h1, List.drop_eq_nil_of_le (by omega : l'.length ≤ j), cmpL, if_neg (by omega), if_neg (by omega)]
          · rw [List.drop_eq_nil_of_le (by omega : l.length ≤ j)]
            by_cases h2 : j < l'.length
            · rw [List.drop_eq_getElem_cons h2, cmpL, if_neg (by omega), if_pos (by omega)]
            · rw [List.drop_eq_nil_of_le (by omega : l'.length ≤ j), cmpL, if_pos (by omega)]
        refine ⟨fun hb => ?_, fun hb => c37 ok ⟨_, rfl, ?_⟩⟩
        · have hb : l.length = l'.length := by simpa [Int.ofNat_inj] using hb
          rw [hr, if_pos hb] at hq
          exact hq
        · have hb : l.length ≠ l'.length := by simpa [Int.ofNat_inj] using hb
          rw [hr, if_neg hb] at hq
          by_cases h1 : l.length < l'.length
          · rw [if_pos h1] at hq
            have : decide (((l.length : Nat) : Int) < ((l'.length : Nat) : Int)) = true := by simpa using h1
            rw [this]
            exact hq
          · rw [if_neg h1] at hq
            have : decide (((l.length : Nat) : Int) < ((l'.length : Nat) : Int)) = false := by simpa using h1
            rw [this]
            exact hq
      refine ⟨fun hlt => ⟨fun hlt' => ?_, fun hge => stop ?_⟩, fun hge => stop ?_⟩
      · have hlt : j < l.length := by simpa using hlt
        have hlt' : j < l'.length := by simpa using hlt'
        have hx : l[j]? = some l[j] := by simp [hlt]
        have hy : l'[j]? = some l'[j] := by simp [hlt']
        obtain ⟨b, o, ha, cx, hld, hrv⟩ := RS.get hl hx
        obtain ⟨b', o', ha', cy, hld', hrv'⟩ := RS.get hl' hy
        have hdrop : l.drop j = l[j] :: l.drop (j + 1) := List.drop_eq_getElem_cons hlt
        have hdrop' : l'.drop j = l'[j] :: l'.drop (j + 1) := List.drop_eq_getElem_cons hlt'
        have hmx := mem_szL (List.getElem_mem hlt)
        have hmy := mem_szL (List.getElem_mem hlt')
        generalize hxv : l[j] = x at *
        generalize hyv : l'[j] = y at *
        obtain ⟨k1, i1, s1, lx⟩ := x
        obtain ⟨ax, nx, cx', rfl, rfl, hsx, hox⟩ := hrv
        obtain ⟨k2, i2, s2, ly⟩ := y
        obtain ⟨ay, ny, cy', rfl, rfl, hsy, hoy⟩ := hrv'
        refine ⟨trivial, ⟨by omega, by omega⟩, b, o, ha, k1, i1, s1, ax, lx.length, cx', by simpa using hld, ⟨by omega, by omega⟩, b', o', ha', k2, i2, s2, ay, ly.length, cy', by simpa using hld', ?_⟩
        refine ih (.mk k1 i1 s1 lx) (.mk k2 i2 s2 ly) _ _ H17 _ (by omega) (by omega) (by omega) ⟨ax, _, cx', rfl, rfl, hsx, hox⟩ ⟨ay, _, cy', rfl, rfl, hsy, hoy⟩ ⟨_, rfl, trivial, fun hne => ?_, fun he => ?_⟩
        · have hne : cmpV (.mk k1 i1 s1 lx) (.mk k2 i2 s2 ly) ≠ 0 := by simpa using hne
          rw [hdrop, hdrop', cmpL, if_pos hne] at e
          rw [e] at hq
          exact hq
        · have he : cmpV (.mk k1 i1 s1 lx) (.mk k2 i2 s2 ly) = 0 := by simpa using he
          rw [hdrop, hdrop', cmpL, if_neg (by omega)] at e
          refine ⟨l.length - (j + 1), by omega, rfl, rfl, rfl, rfl, rfl, j + 1, ?_, by omega, by omega, rfl, e⟩
          rw [wrap64 (by omega) (by omega)]; omega
      · have hge : l'.length ≤ j := by simpa using hge
        exact .inr (by omega)
      · have hge : l.length ≤ j := by simpa using hge
        exact .inl (by omega)

theorem c13 {x y : V} {cx cy : List Value} {H : KH} {Q : PQ} (h1 : szV x ≤ 60000) (h2 : szV y ≤ 60000) (hx : RV H x cx) (hy : RV H y cy) (hq : Q (.bool (decide (cmpV x y = 0))) H) : Does (env Tryz.prog) 13 [.agg cx.toArray, .agg cy.toArray] H Q := by
  have hx' := hx
  have hy' := hy
  obtain ⟨k, i, s, l⟩ := x
  obtain ⟨a, n, c, rfl, rfl, hl, hok⟩ := hx
  obtain ⟨k', i', s', l'⟩ := y
  obtain ⟨a', n', c', rfl, rfl, hl', hok'⟩ := hy
  exact fn13 ok (c24 ok 60000 _ _ _ _ H _ h1 (by omega) (by omega) hx' hy' ⟨_, rfl, hq⟩)
end
end Va
end Go.Proofs.YtlemdiinmfneoaaGreat
