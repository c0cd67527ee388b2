/- The law ValSets: what its function answers. -/
import Derived.Test.YtnngkkpgdjihgaaEwIns1
set_option linter.unusedVariables false
set_option linter.unusedSimpArgs false
namespace Go.Ew
open Go.Ev Go.Deep Go.Proofs.Ytnngkkpgdjihgaa.Va

/-- Rows of small numbers lie there. -/
def U8s (K : KH) (a : Option Addr) (n : Nat) : Prop := ∀ i, i < n → ∃ b o a' n' c', a = some ⟨b, o, none⟩ ∧ ld K ⟨b, o + i, none⟩ [.slice a' n' c'] ∧ U8 K a' n'

theorem insAll_sz : ∀ l : List V, szL (insAll l) ≤ szL l := by
  have go : ∀ (l acc : List V), szL (l.foldl (fun a v => insV v a) acc) ≤ szL acc + szL l := by
    intro l
    induction l with
    | nil => intro acc; simp [szL]
    | cons v l ih =>
      intro acc
      have h1 := ih (insV v acc)
      have h2 := szL_ins v acc
      simp only [List.foldl_cons, szL]
      omega
  intro l
  have := go l []
  simpa [insAll, szL] using this

theorem szL_bound {l : List V} {m : Nat} (h : ∀ v ∈ l, szV v ≤ m) : szL l ≤ l.length * m := by
  induction l with
  | nil => simp [szL]
  | cons v l ih =>
    have h1 := h v (by simp)
    have h2 := ih fun w hw => h w (by simp [hw])
    simp only [szL, List.length_cons, Nat.add_mul]
    omega

theorem cmp_wrap (a b : List V) : cmpV (.mk 0 0 (ByteArray.mk #[]) a) (.mk 0 0 (ByteArray.mk #[]) b) = cmpL a b := by
  have h1 : cmpI 0 0 = 0 := by decide
  have h2 : cmpS' (ByteArray.mk #[]) (ByteArray.mk #[]) = 0 := by decide
  rw [cmpV, h1, h2]
  simp

theorem fm_map {α β : Type} {f : α → Option β} {g : α → β} : ∀ {l : List α}, (∀ i ∈ l, f i = some (g i)) → l.filterMap f = l.map g
  | [], _ => rfl
  | a :: l, h => by
    rw [List.filterMap_cons_some (h a (by simp)), List.map_cons, fm_map fun i hi => h i (by simp [hi])]

theorem count_take {z : V} {a : List V} {j : Nat} (h : j < a.length) : ((a.take (j + 1)).countP fun w => decide (cmpV w z = 0)) = ((a.take j).countP fun w => decide (cmpV w z = 0)) + (if cmpV a[j] z = 0 then 1 else 0) := by
  have : a.take (j + 1) = a.take j ++ [a[j]] := by rw [List.take_add_one]; simp [h]
  rw [this, List.countP_append]
  by_cases hz : cmpV a[j] z = 0
  · rw [if_pos hz]; simp [hz]
  · rw [if_neg hz]; simp [hz]
end Go.Ew

namespace Go.Proofs.Ytnngkkpgdjihgaa
open Go.Ev Go.Ew
namespace Va
section
variable (ok : EnvOk (env Try.prog))
include ok

theorem c18 {l : List V} {x : V} {a : Option Addr} {c : Nat} {cx : List Value} {H : KH} {Q : Value → KH → Prop} (hl : RS H l a) (hok : SlOk H 4 a l.length c) (hs : Srt l) (hx : RV H x cx) (h1 : szL l ≤ 20000) (h2 : szV x ≤ 20000)
    (hq : ∀ a' c' H', Row H H' (insV x l) a' c' → Q (.slice a' (insV x l).length c') H') : Does (env Try.prog) 18 [.slice a l.length c, .agg cx.toArray] H Q := by
  have hx' := hx
  obtain ⟨k, i, s, lx⟩ := x
  obtain ⟨ax, nx, cx, rfl, rfl, hlx, hokx⟩ := hx
  generalize hxv : V.mk k i s lx = x at *
  have hll := len_szL l
  have hw : RV H (.mk 0 0 (ByteArray.mk #[]) l) [.int .i64 0, .int .i64 0, .string (ByteArray.mk #[]), .slice a l.length c] := ⟨a, _, c, rfl, rfl, hl, hok⟩
  have hws : szV (.mk 0 0 (ByteArray.mk #[]) l) ≤ 60000 := by
    have : (ByteArray.mk #[]).size = 0 := rfl
    simp only [szV, this]; omega
  obtain ⟨p, hp, p1, p2, p3, p4⟩ := ins_place x l hs
  have hsz := szL_ins x l
  refine fn18 ok (c28 ok hw hws ⟨false, rfl, fun h => (by cases h), fun _ => c28 ok hx' (by omega) ⟨false, rfl, fun h => (by cases h), fun _ => ?_⟩⟩)
  have fin : ∀ (m : List V), insV x l = m → ∀ a' c' H', Row H H' m a' c' → ∃ a3 n4 n5, Value.slice a' m.length c' = .slice a3 n4 n5 ∧ Does (env Try.prog) 31 [.slice a3 n4 n5] H' fun v6 H7 => ∃ a8 n9 n10, v6 = .slice a8 n9 n10 ∧ Q (.slice a8 n9 n10) H7 := by
    intro m hm a' c' H' hR
    refine ⟨a', _, c', rfl, c31 ok 60000 m a' c' H' _ (by rw [← hm]; omega) (Nat.le_refl _) hR.row fun a2 c2 H2 hR2 => ⟨a2, _, c2, rfl, ?_⟩⟩
    have := hq a2 c2 H2 (by rw [hm]; exact ⟨hR.le.trans hR2.le, hR2.row, hR2.cut⟩)
    rw [hm] at this
    exact this
  refine c32 ok (f := fun v => cmpV v x) hl hok (by omega) hx' (fun v hv cv Q' hrv hQ' => c29 ok 60000 v x cv _ H Q' ?_ (by omega) (by omega) hrv hx' hQ') hp p1 p2 (fun hv a' c' H' hR => fin l (p3 hv) a' c' H' hR) (fun hv a' c' H' hR => fin _ (p4 hv) a' c' H' hR)
  have := mem_szL hv
  omega

theorem c20 {l m : List V} {a b : Option Addr} {c d : Nat} {H : KH} {Q : Value → KH → Prop} (hl : RS H l a) (hok : SlOk H 4 a l.length c) (hm : RS H m b) (hom : SlOk H 4 b m.length d) (h1 : szL l ≤ 20000) (h2 : szL m ≤ 20000)
    (hq : Q (.bool (decide (cmpL l m = 0))) H) : Does (env Try.prog) 20 [.slice a l.length c, .slice b m.length d] H Q := by
  have hz : (ByteArray.mk #[]).size = 0 := rfl
  refine fn20 ok (c23 ok (x := .mk 0 0 (ByteArray.mk #[]) l) (y := .mk 0 0 (ByteArray.mk #[]) m) (by simp only [szV, hz]; omega) (by simp only [szV, hz]; omega) ⟨a, _, c, rfl, rfl, hl, hok⟩ ⟨b, _, d, rfl, rfl, hm, hom⟩ ⟨_, rfl, ?_⟩)
  rw [cmp_wrap]
  exact hq

omit ok in
/-- The elements in memory. -/
theorem elem {H : KH} {l : List V} {a : Option Addr} (hl : RS H l a) {j : Nat} (hj : j < l.length) : ∃ b o, a = some ⟨b, o, none⟩ ∧ ∃ k i s ax nx cx, ld H ⟨b, o + j * 4, none⟩ [.int .i64 k, .int .i64 i, .string s, .slice ax nx cx] ∧ RV H l[j] [.int .i64 k, .int .i64 i, .string s, .slice ax nx cx] := by
  obtain ⟨b, o, ha, cy, hld, hrv⟩ := RS.get hl (show l[j]? = some l[j] by simp [hj])
  have hrv' := hrv
  generalize hyv : l[j] = y at *
  obtain ⟨k1, i1, s1, ly⟩ := y
  obtain ⟨ay, ny, cy', rfl, rfl, hsy, hoy⟩ := hrv
  exact ⟨b, o, ha, k1, i1, s1, ay, ly.length, cy', hld, hrv'⟩

/-- Each once, rising. -/
theorem l7 {vs a : List V} {av aa : Option Addr} {cv ca : Nat} {H : KH} {Q : Value → KH → Prop} (hv : RS H vs av) (ha : RS H a aa) (hs : Srt a) (hin : ∀ v ∈ vs, InE v a) (z1 : szL vs ≤ 20000) (z2 : szL a ≤ 20000) (hq : Q (.bool true) H) :
    vc6_L7 av vs.length cv aa a.length ca H Q := by
  have n1 := len_szL vs
  have n2 := len_szL a
  unfold vc6_L7
  refine ⟨fun m a4 n5 n6 a7 n8 n9 x10 H11 => a4 = av ∧ n5 = vs.length ∧ a7 = aa ∧ n8 = a.length ∧ H11 = H ∧ ∃ j : Nat, x10 = j ∧ j ≤ a.length ∧ m = a.length - j, ⟨a.length, rfl, rfl, rfl, rfl, rfl, 0, rfl, by omega, rfl⟩, ?_⟩
  rintro m a4 n5 n6 a7 n8 n9 x10 H11 ⟨rfl, rfl, rfl, rfl, rfl, j, rfl, hj, rfl⟩
  refine ⟨fun hlt => ?_, fun hge => ?_⟩
  · have hlt : j < a.length := by simpa using hlt
    refine ⟨trivial, fun hpos => ?_, fun _ => ⟨trivial, a.length - (j + 1), by omega, rfl, rfl, rfl, rfl, rfl, j + 1, by rw [wrap64 (by omega) (by omega)]; omega, by omega, rfl⟩⟩
    have hpos : 0 < j := by simpa using hpos
    have hw : IntKind.wrap .i64 ((j : Int) - 1) = ((j - 1 : Nat) : Int) := by rw [wrap64 (by omega) (by omega)]; omega
    rw [hw]
    obtain ⟨b, o, e1, k1, i1, s1, a1, m1, c1, l1, r1⟩ := elem ha (show j - 1 < a.length by omega)
    obtain ⟨b', o', e1', k2, i2, s2, a2, m2, c2, l2, r2⟩ := elem ha hlt
    have t1 : Int.toNat ((j - 1 : Nat) : Int) = j - 1 := by omega
    have t2 : Int.toNat (j : Int) = j := by omega
    rw [t1, t2]
    have b1 := mem_szL (List.getElem_mem (show j - 1 < a.length by omega))
    have b2 := mem_szL (List.getElem_mem hlt)
    refine ⟨⟨by omega, by omega⟩, b, o, e1, k1, i1, s1, a1, m1, c1, l1, ⟨by omega, by omega⟩, b', o', e1', k2, i2, s2, a2, m2, c2, l2, c16 ok (by omega) (by omega) r1 r2 ⟨_, rfl, trivial, fun hne => ?_, fun _ => ⟨a.length - (j + 1), by omega, rfl, rfl, rfl, rfl, rfl, j + 1, by rw [wrap64 (by omega) (by omega)]; omega, by omega, rfl⟩⟩⟩
    exfalso
    have hlt2 : cmpV (a[j - 1]'(by omega)) a[j] < 0 := List.pairwise_iff_getElem.1 hs (j - 1) j (by omega) hlt (by omega)
    have := cmpV_rng (a[j - 1]'(by omega)) a[j]
    have hne := of_decide_eq_true hne
    omega
  · clear hge
    unfold vc6_L6
    refine ⟨fun m a4' n5 n6 a7' n8 n9 x10 H11' => a4' = a4 ∧ n5 = vs.length ∧ a7' = a7 ∧ n8 = a.length ∧ H11' = H11 ∧ ∃ j : Nat, x10 = j ∧ j ≤ vs.length ∧ m = vs.length - j, ⟨vs.length, rfl, rfl, rfl, rfl, rfl, 0, rfl, by omega, rfl⟩, ?_⟩
    rintro m a4' n5 n6 a7' n8 n9 x10 H11' ⟨rfl, rfl, rfl, rfl, rfl, j, rfl, hj, rfl⟩
    refine ⟨fun hlt => ?_, fun _ => hq⟩
    have hlt : j < vs.length := by simpa using hlt
    have hone := count_one hs (hin _ (List.getElem_mem hlt))
    have b1 := mem_szL (List.getElem_mem hlt)
    obtain ⟨b, o, e1, k1, i1, s1, a1, m1, c1, l1, r1⟩ := elem hv hlt
    have t1 : Int.toNat (j : Int) = j := by omega
    unfold vc6_L5
    refine ⟨fun m a4'' n5 n6 a7'' n8 n9 x10 x11 x12 H13 => a4'' = a4' ∧ n5 = vs.length ∧ a7'' = a7' ∧ n8 = a.length ∧ x10 = j ∧ H13 = H11' ∧ ∃ k : Nat, x12 = k ∧ k ≤ a.length ∧ m = a.length - k ∧ x11 = ((a.take k).countP fun w => decide (cmpV w vs[j] = 0) : Nat), ⟨a.length, rfl, rfl, rfl, rfl, rfl, rfl, 0, rfl, by omega, rfl, by simp⟩, ?_⟩
    rintro m a4'' n5 n6 a7'' n8 n9 x10 x11 x12 H13 ⟨rfl, rfl, rfl, rfl, rfl, rfl, k, rfl, hk, rfl, rfl⟩
    refine ⟨fun hlt2 => ⟨trivial, ?_⟩, fun hge => ?_⟩
    · have hlt2 : k < a.length := by simpa using hlt2
      have b2 := mem_szL (List.getElem_mem hlt2)
      obtain ⟨b', o', e1', k2, i2, s2, a2, m2, c2, l2, r2⟩ := elem ha hlt2
      have t2 : Int.toNat (k : Int) = k := by omega
      rw [t1, t2]
      have hct := count_take (z := vs[j]) hlt2
      have hcl : ((a.take k).countP fun w => decide (cmpV w vs[j] = 0)) ≤ k := Nat.le_trans List.countP_le_length (by rw [List.length_take]; omega)
      refine ⟨⟨by omega, by omega⟩, b', o', e1', k2, i2, s2, a2, m2, c2, l2, ⟨by omega, by omega⟩, b, o, e1, k1, i1, s1, a1, m1, c1, l1, c16 ok (by omega) (by omega) r2 r1 ⟨_, rfl, trivial, fun he => ?_, fun he => ?_⟩⟩
      · have he := of_decide_eq_true he
        rw [if_pos he] at hct
        refine ⟨a.length - (k + 1), by omega, rfl, rfl, rfl, rfl, rfl, rfl, k + 1, by rw [wrap64 (by omega) (by omega)]; omega, by omega, rfl, ?_⟩
        rw [hct, wrap64 (by omega) (by omega)]; omega
      · have he := of_decide_eq_false he
        rw [if_neg he] at hct
        refine ⟨a.length - (k + 1), by omega, rfl, rfl, rfl, rfl, rfl, rfl, k + 1, by rw [wrap64 (by omega) (by omega)]; omega, by omega, rfl, ?_⟩
        rw [hct]; omega
    · have hge : a.length ≤ k := by simpa using hge
      have hkl : k = a.length := by omega
      subst hkl
      rw [List.take_length, hone]
      refine ⟨fun h => by simp at h, fun _ => ⟨vs.length - (j + 1), by omega, rfl, rfl, rfl, rfl, rfl, j + 1, by rw [wrap64 (by omega) (by omega)]; omega, by omega, rfl⟩⟩

/-- The values in another order. -/
def rot (vs : List V) (t : Nat) : List V := (List.range vs.length).filterMap fun i => vs[(i + t) % vs.length]?

omit ok in
theorem rot_len (vs : List V) (t : Nat) : (rot vs t).length = vs.length := by
  unfold rot
  rw [List.length_filterMap_eq_countP, List.countP_eq_length.2]
  · simp
  · intro i hi
    have hi : i < vs.length := by simpa using hi
    have : (i + t) % vs.length < vs.length := Nat.mod_lt _ (by omega)
    simp [this]

omit ok in
theorem rot_get (vs : List V) (t j : Nat) (hj : j < vs.length) : (rot vs t).take (j + 1) = (rot vs t).take j ++ [vs[(j + t) % vs.length]'(Nat.mod_lt _ (by omega))] := by
  have hm : ∀ i, i < vs.length → (i + t) % vs.length < vs.length := fun i hi => Nat.mod_lt _ (by omega)
  have hr : rot vs t = (List.range vs.length).map fun i => (vs[(i + t) % vs.length]?).getD vs[j] := by
    unfold rot
    refine fm_map fun i hi => ?_
    have hi : i < vs.length := by simpa using hi
    simp [hm i hi]
  rw [List.take_add_one]
  congr 1
  rw [hr]
  simp [hj, hm j hj]

omit ok in
theorem rot_mem {vs : List V} {t : Nat} {v : V} (h : v ∈ rot vs t) : v ∈ vs := by
  unfold rot at h
  obtain ⟨i, _, h2⟩ := List.mem_filterMap.1 h
  exact List.mem_of_getElem? h2

omit ok in
theorem mem_rot {vs : List V} {t : Nat} {v : V} (h : v ∈ vs) : v ∈ rot vs t := by
  obtain ⟨i, hi, rfl⟩ := List.getElem_of_mem h
  have hn : 0 < vs.length := by omega
  refine List.mem_filterMap.2 ⟨(i + (vs.length - t % vs.length)) % vs.length, by simpa using Nat.mod_lt _ hn, ?_⟩
  have ht := Nat.mod_lt t hn
  have e : ((i + (vs.length - t % vs.length)) % vs.length + t) % vs.length = i := by
    rw [Nat.mod_add_mod]
    have h1 : t = vs.length * (t / vs.length) + t % vs.length := (Nat.div_add_mod t vs.length).symm
    have h2 : i + (vs.length - t % vs.length) + t = i + vs.length * (t / vs.length + 1) := by
      rw [Nat.mul_add, Nat.mul_one]; omega
    rw [h2, Nat.add_mul_mod_self_left, Nat.mod_eq_of_lt hi]
  rw [e]
  simp

theorem l8 {vs : List V} {av : Option Addr} {cv t : Nat} {H : KH} {Q : Value → KH → Prop} (hv : RS H vs av) (ht : t ≤ 255) (hn : vs.length ≤ 8) (hsz : ∀ v ∈ vs, szV v ≤ 80) (hq : ∀ H', Q (.bool true) H') :
    vc6_L8 t av vs.length cv none 0 0 none 0 0 H Q := by
  have bd : ∀ l : List V, (∀ v ∈ l, v ∈ vs) → l.length ≤ 8 → szL (insAll l) ≤ 640 := fun l hl hn => by
    have h1 := insAll_sz l
    have h2 := szL_bound (m := 80) fun v hv => hsz v (hl v hv)
    omega
  have rl := rot_len vs t
  unfold vc6_L8
  refine ⟨fun m x4 a5 n6 n7 a8 n9 n10 a11 n12 n13 x14 H15 => x4 = t ∧ a5 = av ∧ n6 = vs.length ∧ ∃ j : Nat, x14 = j ∧ j ≤ vs.length ∧ m = vs.length - j ∧ RS H15 vs av ∧ RS H15 (insAll (vs.take j)) a8 ∧ n9 = (insAll (vs.take j)).length ∧ SlOk H15 4 a8 n9 n10 ∧ RS H15 (insAll ((rot vs t).take j)) a11 ∧ n12 = (insAll ((rot vs t).take j)).length ∧ SlOk H15 4 a11 n12 n13,
    ⟨vs.length, rfl, rfl, rfl, 0, rfl, by omega, rfl, hv, by simp [insAll]; rfl, by simp [insAll], rfl, by simp [insAll]; rfl, by simp [insAll], rfl⟩, ?_⟩
  rintro m x4 a5 n6 n7 a8 n9 n10 a11 n12 n13 x14 H15 ⟨rfl, rfl, rfl, j, rfl, hj, rfl, hv, ha, rfl, hoa, hb, rfl, hob⟩
  have za := bd (vs.take j) (fun v hv => List.mem_of_mem_take hv) (by rw [List.length_take]; omega)
  have zb := bd ((rot vs t).take j) (fun v hv => rot_mem (List.mem_of_mem_take hv)) (by rw [List.length_take]; omega)
  refine ⟨fun hlt => ?_, fun hge => ?_⟩
  · have hlt : j < vs.length := by simpa using hlt
    have htk : vs.take (j + 1) = vs.take j ++ [vs[j]] := by rw [List.take_add_one]; simp [hlt]
    have hm : (j + t) % vs.length < vs.length := Nat.mod_lt _ (by omega)
    have b1 := hsz _ (List.getElem_mem hlt)
    have b2 := hsz _ (List.getElem_mem hm)
    obtain ⟨b, o, e1, k1, i1, s1, a1, m1, c1, l1, r1⟩ := elem hv hlt
    have t1 : Int.toNat (j : Int) = j := by omega
    rw [t1]
    refine ⟨⟨by omega, by omega⟩, b, o, e1, k1, i1, s1, a1, m1, c1, l1, c18 ok ha hoa (insAll_srt _) r1 (by omega) (by omega) fun a' c' H' hR => ⟨a', _, c', rfl, by omega, ?_⟩⟩
    have hw : IntKind.wrap .i64 ((j : Int) + IntKind.wrap .i64 (t : Int)) = ((j + t : Nat) : Int) := by
      rw [wrap64 (x := (t : Int)) (by omega) (by omega), wrap64 (by omega) (by omega)]; omega
    have hmod : Int.tmod (((j + t : Nat) : Int)) (vs.length : Nat) = (((j + t) % vs.length : Nat) : Int) := by
      rw [Int.tmod_eq_emod_of_nonneg (by omega)]; rfl
    rw [hw, hmod]
    have hv' := hv.mono hR.le
    obtain ⟨b', o', e1', k2, i2, s2, a2, m2, c2, l2, r2⟩ := elem hv' hm
    have t2 : Int.toNat (((j + t) % vs.length : Nat) : Int) = (j + t) % vs.length := by omega
    rw [t2]
    refine ⟨⟨by omega, by omega⟩, b', o', e1', k2, i2, s2, a2, m2, c2, l2, c18 ok (hb.mono hR.le) (hob.mono hR.le) (insAll_srt _) r2 (by omega) (by omega) fun a'' c'' H'' hR2 => ⟨a'', _, c'', rfl, vs.length - (j + 1), by omega, rfl, rfl, rfl, j + 1, by rw [wrap64 (by omega) (by omega)]; omega, by omega, rfl, hv'.mono hR2.le, ?_, ?_, ?_, ?_, ?_, ?_⟩⟩
    · rw [htk, insAll_snoc]; exact hR.row.mono hR2.le
    · rw [htk, insAll_snoc]
    · exact hR.cut.mono hR2.le
    · rw [rot_get vs t j hlt, insAll_snoc]; exact hR2.row
    · rw [rot_get vs t j hlt, insAll_snoc]
    · exact hR2.cut
  · have hge : vs.length ≤ j := by simpa using hge
    have hjl : j = vs.length := by omega
    subst hjl
    rw [List.take_length] at *
    rw [List.take_of_length_le (by omega)] at *
    have hin : ∀ z, InE z (insAll vs) ↔ InE z (insAll (rot vs t)) := fun z => by
      rw [insAll_in, insAll_in]
      exact ⟨fun ⟨w, hw, h⟩ => ⟨w, mem_rot hw, h⟩, fun ⟨w, hw, h⟩ => ⟨w, rot_mem hw, h⟩⟩
    have hz := cmpL_zero (insAll_srt vs) (insAll_srt (rot vs t)) hin
    refine c20 ok ha hoa hb hob (by omega) (by omega) ⟨_, rfl, fun h => ?_, fun _ => ?_⟩
    · rw [hz] at h; simp at h
    · have zv := szL_bound (m := 80) hsz
      exact l7 ok hv ha (insAll_srt _) (fun v hv => (insAll_in v vs).2 ⟨v, hv, cmpV_refl v⟩) (by omega) (by omega) (hq _)

theorem c6 {a : Option Addr} {n c t : Nat} {H : KH} (hu : U8s H a n) (ht : t ≤ 255) : Does (env Try.prog) 6 [.slice a n c, .int .u8 t] H fun v _ => v = .bool true := by
  refine fn6 ok (does_true (by kernel_rfl) (by kernel_rfl) (by kernel_rfl) ⟨true, rfl, fun h => (by simp at h), fun _ => ⟨fun _ => rfl, fun hn => ?_⟩⟩)
  have hn : n ≤ 8 := by simp at hn; omega
  unfold vc6_L9
  refine ⟨fun m a4 n5 n6 x7 a8 n9 n10 a11 n12 n13 a14 n15 n16 x17 H18 => a4 = a ∧ n5 = n ∧ x7 = t ∧ a11 = none ∧ n12 = 0 ∧ n13 = 0 ∧ a14 = none ∧ n15 = 0 ∧ n16 = 0 ∧ ∃ (j : Nat) (K : KH) (q : Option (Nat × Ent)) (vs : List V), x17 = j ∧ j ≤ n ∧ m = n - j ∧ H18 = addO K q ∧ Gro K q vs a8 n9 n10 ∧ Le H K ∧ vs.length = j ∧ ∀ v ∈ vs, szV v ≤ 80,
    ⟨n, rfl, rfl, rfl, rfl, rfl, rfl, rfl, rfl, rfl, 0, H, none, [], rfl, by omega, rfl, rfl, ⟨trivial, rfl, [], rfl, rfl, rfl, rfl, rfl⟩, Le.refl _, rfl, fun v hv => by cases hv⟩, ?_⟩
  rintro m a4 n5 n6 x7 a8 n9 n10 a11 n12 n13 a14 n15 n16 x17 H18 ⟨rfl, rfl, rfl, rfl, rfl, rfl, rfl, rfl, rfl, j, K, q, vs, rfl, hj, rfl, rfl, hG, hle, rfl, hsz⟩
  refine ⟨fun hlt => ?_, fun hge => ?_⟩
  · have hlt : vs.length < n5 := by simpa using hlt
    obtain ⟨b, o, a', n', c', ha, hld, hu8⟩ := hu vs.length hlt
    have hKO := addO_le hG.fr
    have t1 : Int.toNat (vs.length : Int) = vs.length := by omega
    rw [t1]
    have hld' : ld (addO K q) ⟨b, o + vs.length * 1, none⟩ [.slice a' n' c'] := by rw [Nat.mul_one]; exact (hle.trans hKO).ld hld
    refine ⟨⟨by omega, by omega⟩, b, o, ha, a', n', c', hld', fun _ => rfl, fun hn' => ⟨⟨by omega, by omega⟩, b, o, ha, a', n', c', hld', ?_⟩⟩
    have hn' : n' ≤ 20 := by simp at hn'; omega
    refine Does.frameO hG.fr (c10 ok (hu8.mono hle) (by omega) fun p K1 hPK hf1 => ⟨p, 0, rfl, ?_⟩)
    refine Does.frameO hf1 (c11 ok 2 (by omega) _ K1 p _ hPK fun v cs K' K2 q1 q2 q3 q4 hf2 => ?_)
    have hv := q3.mono q1.le
    have e1 : Le K K2 := q2.trans q1.le
    obtain ⟨k, i, s, lv⟩ := v
    obtain ⟨ax, nx, cx, rfl, _⟩ := q3
    refine ⟨k, i, s, ax, nx, cx, rfl, fun n18 hn18 n19 hn19 => ?_⟩
    obtain ⟨g1, g2, g3⟩ := addO_new (e := mkEnt [.int .i64 k, .int .i64 i, .string s, .slice ax nx cx] 0) hn18
    rw [g2] at hn19 ⊢
    have e2 : Le K2 (K2.new n18 (mkEnt [.int .i64 k, .int .i64 i, .string s, .slice ax nx cx] 0)) := Le.new g1
    have hG2 := hG.mono (e1.trans e2) (g3 hf2)
    have hk : kold (addO (K2.new n18 (mkEnt [.int .i64 k, .int .i64 i, .string s, .slice ax nx cx] 0)) q) 4 (some ⟨n18, 0, none⟩) 1 = some [.int .i64 k, .int .i64 i, .string s, .slice ax nx cx] :=
      (addO_le hG2.fr).kold (kold_some.2 ⟨mkEnt [.int .i64 k, .int .i64 i, .string s, .slice ax nx cx] 0, by simp [KH.new], mk_rd⟩)
    refine ⟨1, _, knew_of hk, ?_⟩
    obtain ⟨a2, c2, K3, q3', hap, hG3, hle3⟩ := Gro.push (ti := VT) rfl (by decide) hG2 (hv.mono e2) hn19 (by omega)
    refine ⟨a2, _, c2, _, hap, n5 - (vs.length + 1), by omega, rfl, rfl, rfl, rfl, rfl, rfl, rfl, rfl, rfl, vs.length + 1, K3, q3', vs ++ [.mk k i s lv], by rw [wrap64 (by omega) (by omega)]; omega, by omega, rfl, rfl, hG3, hle.trans ((e1.trans e2).trans hle3), by simp, fun w hw => ?_⟩
    rcases List.mem_append.1 hw with hw | hw
    · exact hsz w hw
    · have : w = .mk k i s lv := by simpa using hw
      subst this
      exact Nat.le_trans q4.1 (by decide)
  · obtain ⟨h1, h2⟩ := hG.out
    have := hG.len
    subst this
    exact l8 ok h1 ht (by omega) hsz fun _ => rfl
end
end Va
end Go.Proofs.Ytnngkkpgdjihgaa
