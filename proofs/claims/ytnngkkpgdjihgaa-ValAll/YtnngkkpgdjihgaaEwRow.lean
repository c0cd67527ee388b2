/- The law ValRow: what its function answers. -/
import Derived.Test.YtnngkkpgdjihgaaEwSets
import Derived.Test.YtnngkkpgdjihgaaEwVc3
set_option linter.unusedVariables false
set_option linter.unusedSimpArgs false
namespace Go.Ew
open Go.Ev Go.Deep Go.Proofs.Ytnngkkpgdjihgaa.Va

theorem cmpL_refl (l : List V) : cmpL l l = 0 := by have := cmpL_neg l l; omega

theorem find_spec {s : ByteArray} : ∀ {l : List V}, KR l → (∀ x ∈ l, 0 < kidsV x) → (findV s l).1 ≤ l.length ∧ (∀ i v, i < (findV s l).1 → l[i]? = some v → cmpS' (keyV v) s < 0) ∧
    (∀ i v, (findV s l).1 ≤ i → l[i]? = some v → 0 ≤ cmpS' (keyV v) s) ∧ ((findV s l).2 = true → ∃ v, l[(findV s l).1]? = some v ∧ cmpS' (keyV v) s = 0) ∧ ((findV s l).2 = false → ∀ v, l[(findV s l).1]? = some v → cmpS' (keyV v) s ≠ 0)
  | [], _, _ => by simp [findV]
  | y :: l, h, hc => by
    have hy : ∀ {w}, w ∈ l → cmpK y w < 0 := fun hw => List.rel_of_pairwise_cons h hw
    have hl : KR l := h.of_cons
    by_cases hlt : strLt (keyV y) s = true
    · obtain ⟨h1, h2, h3, h4, h5⟩ := find_spec (s := s) hl fun x hx => hc x (by simp [hx])
      simp only [findV, if_pos hlt]
      refine ⟨by simp; omega, fun i v hi hv => ?_, fun i v hi hv => ?_, fun hb => ?_, fun hb => ?_⟩
      · cases i with
        | zero => simp at hv; subst hv; exact lt_cmp hlt
        | succ i => exact h2 i v (by omega) (by simpa using hv)
      · cases i with
        | zero => omega
        | succ i => exact h3 i v (by omega) (by simpa using hv)
      · simpa using h4 hb
      · simpa using h5 hb
    · simp only [findV, if_neg hlt]
      have h0 : 0 < kidsV y := hc y (by simp)
      have hs := cmpS_str (keyV y) s
      have hge : 0 ≤ cmpS' (keyV y) s := by
        rw [hs]
        split
        · omega
        · omega
      refine ⟨by omega, fun i v hi => by omega, fun i v _ hv => ?_, fun hb => ?_, fun hb v hv => ?_⟩
      · cases i with
        | zero => simp at hv; subst hv; exact hge
        | succ i =>
          have hm : v ∈ l := List.mem_of_getElem? (by simpa using hv)
          have h1 : cmpS' (keyV y) (keyV v) < 0 := hy hm
          have h2 := cmpS_trans (keyV y) (keyV v) s
          omega
      · have he : strEq (keyV y) s = true := by simpa [h0] using hb
        exact ⟨y, by simp, by rw [hs, if_pos he]⟩
      · have he : strEq (keyV y) s = false := by simpa [h0] using hb
        simp at hv
        subst hv
        rw [hs, he]
        simp [hlt]
end Go.Ew

namespace Go.Proofs.Ytnngkkpgdjihgaa
open Go.Ev Go.Ew
namespace Va
section
variable (ok : EnvOk (env Try.prog))
include ok

theorem c46 {x : V} {cx : List Value} {H : KH} {Q : Value → KH → Prop} (hx : RV H x cx) (hq : Q (.string (keyV x)) H) : Does (env Try.prog) 46 [.agg cx.toArray] H Q := by
  obtain ⟨k, i, s, l⟩ := x
  obtain ⟨a, n, c, rfl, rfl, hl, hok⟩ := hx
  refine fn46 ok ⟨fun h => ?_, fun h => ?_⟩
  · cases l with
    | nil => exact hq
    | cons y l => simp at h; omega
  · cases l with
    | nil => simp at h
    | cons y l =>
      obtain ⟨b, o, ha, ⟨cs, h2, h3⟩, h4⟩ := hl
      obtain ⟨k', i', s', l'⟩ := y
      obtain ⟨a', n', c', rfl, rfl, _, _⟩ := h3
      refine ⟨⟨by omega, by simp only [List.length_cons]; omega⟩, b, o, ha, rfl, s', ?_, hq⟩
      exact ld_sub h2 2 1 (by simp)

theorem c33 {x y : V} {cx cy : List Value} {H : KH} {Q : Value → KH → Prop} (hx : RV H x cx) (hy : RV H y cy) (hq : Q (.int .i64 (cmpK x y)) H) : Does (env Try.prog) 33 [.agg cx.toArray, .agg cy.toArray] H Q := by
  have hx' := hx
  have hy' := hy
  obtain ⟨k, i, s, l⟩ := x
  obtain ⟨a, n, c, rfl, rfl, hl, hok⟩ := hx
  obtain ⟨k2, i2, s2, l2⟩ := y
  obtain ⟨a2, n2, c2, rfl, rfl, hl2, hok2⟩ := hy
  exact fn33 ok ⟨trivial, c46 ok hx' ⟨_, rfl, ⟨rfl, trivial⟩, c46 ok hy' ⟨_, rfl, trivial, c42 ok ⟨_, rfl, trivial, hq⟩⟩⟩⟩

theorem c21 {l : List V} {a : Option Addr} {c : Nat} {s : ByteArray} {H : KH} {Q : Value → KH → Prop} (hl : RS H l a) (hn : l.length ≤ 1000000) (hk : KR l) (hc : ∀ x ∈ l, 0 < kidsV x)
    (hq : ∀ H', Le H H' → Q (.tuple #[.int .i64 ((findV s l).1 : Int), .bool (findV s l).2]) H') : Does (env Try.prog) 21 [.slice a l.length c, .string s] H Q := by
  refine fn21 ok fun n1 hn1 => ?_
  have hle := Le.new hn1 (e := mkEnt [.int .i64 0, .int .i64 0, .string s, .slice none 0 0] 0)
  have hat : (H.new n1 (mkEnt [.int .i64 0, .int .i64 0, .string s, .slice none 0 0] 0)) n1 = some (mkEnt [.int .i64 0, .int .i64 0, .string s, .slice none 0 0] 0) := if_pos rfl
  generalize H.new n1 (mkEnt [.int .i64 0, .int .i64 0, .string s, .slice none 0 0] 0) = H' at *
  have hown : Own (fun _ => none) H' 4 (some ⟨n1, 0, none⟩) 1 1 [.int .i64 0, .int .i64 0, .string s, .slice none 0 0] := .lit n1 1 _ hat rfl (by decide) rfl
  have hx : RV H' (.mk 0 0 (ByteArray.mk #[]) [.mk 0 0 s []]) [.int .i64 0, .int .i64 0, .string (ByteArray.mk #[]), .slice (some ⟨n1, 0, none⟩) 1 1] :=
    ⟨_, _, _, rfl, rfl, RS.of_cells hown.cells (RC.one leaf), hown.ok (by decide)⟩
  obtain ⟨h1, h2, h3, h4, h5⟩ := find_spec (s := s) hk hc
  refine c34 ok (f := fun v => cmpS' (keyV v) s) (g := 33) (p := (findV s l).1) (hl.mono hle) hn hx (fun v hv cv Q hr hq => c33 ok hr hx hq) h1 h2 h3 fun b hb1 hb2 => ⟨_, _, rfl, ?_⟩
  have : b = (findV s l).2 := by
    cases hf : (findV s l).2 with
    | true =>
      obtain ⟨v, hv, he⟩ := h4 hf
      cases b with
      | true => rfl
      | false => exact absurd he (hb2 rfl v hv)
    | false =>
      cases b with
      | false => rfl
      | true => obtain ⟨v, hv, he⟩ := hb1 rfl; exact absurd he (h5 hf v hv)
  rw [this]
  exact hq H' hle

abbrev keys (s : ByteArray) : List Value := [.string s, .string (ByteArray.mk #[97]), .string (ByteArray.mk #[98]), .string (ByteArray.mk #[98, 98]), .string (ByteArray.mk #[])]

omit ok in
theorem keys_get (s : ByteArray) (j : Nat) (h : j < 5) : ∃ t : ByteArray, (keys s)[j]? = some (.string t) := by
  have h3 : j = 0 ∨ j = 1 ∨ j = 2 ∨ j = 3 ∨ j = 4 := by omega
  rcases h3 with q | q | q | q | q <;> rw [q] <;> exact ⟨_, rfl⟩

theorem r4 {l : List V} {a : Option Addr} {c n1 : Nat} {s : ByteArray} {H : KH} {Q : Value → KH → Prop} (hl : RS H l a) (hn : l.length ≤ 1000000) (hk : KR l) (hc : ∀ x ∈ l, 0 < kidsV x) (hn1 : H n1 = none) (hq : ∀ H', Q (.bool true) H') : vc4_L4 a l.length c n1 H s Q := by
  have hle := Le.new hn1 (e := mkEnt (keys s) 0)
  have hat : (H.new n1 (mkEnt (keys s) 0)) n1 = some (mkEnt (keys s) 0) := if_pos rfl
  unfold vc4_L4
  refine ⟨fun m a4 n5 n6 a7 n8 n9 x10 H11 => a4 = a ∧ n5 = l.length ∧ a7 = some ⟨n1, 0, none⟩ ∧ n8 = 5 ∧ Le (H.new n1 (mkEnt (keys s) 0)) H11 ∧ ∃ j : Nat, x10 = j ∧ j ≤ 5 ∧ m = 5 - j, ⟨5, rfl, rfl, rfl, rfl, Le.refl _, 0, rfl, by omega, rfl⟩, ?_⟩
  rintro m a4 n5 n6 a7 n8 n9 x10 H11 ⟨rfl, rfl, rfl, rfl, hl11, j, rfl, hj, rfl⟩
  refine ⟨fun hlt => ?_, fun _ => hq _⟩
  have hlt : j < 5 := by have := of_decide_eq_true hlt; omega
  obtain ⟨t, ht⟩ := keys_get s j hlt
  have hld := lit_get hat ht
  have t1 : Int.toNat (j : Int) = j := by omega
  rw [t1]
  refine ⟨⟨by omega, by omega⟩, n1, 0, rfl, t, hl11.ld hld, c21 ok (hl.mono (hle.trans hl11)) hn hk hc fun H5 hl5 => ⟨_, _, rfl, ⟨by omega, by omega⟩, n1, 0, rfl, t, (hl11.trans hl5).ld hld, c22 ok (hl.mono (hle.trans (hl11.trans hl5))) hn ⟨_, _, rfl, fun h => ?_, fun _ => ⟨fun h => ?_, fun _ => ?_⟩⟩⟩⟩
  · simp at h
  · simp at h
  · exact ⟨5 - (j + 1), by omega, rfl, rfl, rfl, rfl, hl11.trans hl5, j + 1, by rw [wrap64 (by omega) (by omega)]; omega, by omega, rfl⟩

theorem c4 {a : Option Addr} {n c : Nat} {s : ByteArray} {H : KH} (hu : U8s H a n) : Does (env Try.prog) 4 [.slice a n c, .string s] H fun v _ => v = .bool true := by
  refine fn4 ok (does_true (by kernel_rfl) (by kernel_rfl) (by kernel_rfl) ⟨true, rfl, fun h => (by simp at h), fun _ => ⟨fun _ => rfl, fun hn => ⟨fun _ => rfl, fun hs => ?_⟩⟩⟩)
  have hn : n ≤ 10 := by simp at hn; omega
  unfold vc4_L5
  refine ⟨fun m a4 n5 n6 s7 a8 n9 n10 a11 n12 n13 x14 H15 => a4 = a ∧ n5 = n ∧ Le H H15 ∧ ∃ (j : Nat) (l el : List V), x14 = j ∧ j ≤ n ∧ m = n - j ∧ RS H15 l a8 ∧ n9 = l.length ∧ SlOk H15 4 a8 n9 n10 ∧ Srt l ∧ szL l ≤ 80 * j ∧
    RS H15 el a11 ∧ n12 = el.length ∧ el.length ≤ 80 ∧ KR el ∧ ∀ x ∈ el, 0 < kidsV x,
    ⟨n, rfl, rfl, Le.refl _, 0, [], [], rfl, by omega, rfl, rfl, rfl, rfl, by simp [Srt], by simp [szL], rfl, rfl, by simp, by simp [KR], by simp⟩, ?_⟩
  rintro m a4 n5 n6 s7 a8 n9 n10 a11 n12 n13 x14 H15 ⟨rfl, rfl, hle, j, l, el, rfl, hj, rfl, hl, rfl, hok, hsrt, hsz, hel, rfl, hen, hkr, hkd⟩
  refine ⟨fun hlt => ?_, fun hge n16 hn16 => r4 ok hel (by omega) hkr hkd hn16 fun _ => rfl⟩
  have hlt : j < n5 := by simpa using hlt
  obtain ⟨b, o, a', n', c', ha, hld, hu8⟩ := hu j hlt
  have t1 : Int.toNat (j : Int) = j := by omega
  rw [t1]
  have hld' : ld H15 ⟨b, o + j * 1, none⟩ [.slice a' n' c'] := by rw [Nat.mul_one]; exact hle.ld hld
  refine ⟨⟨by omega, by omega⟩, b, o, ha, a', n', c', hld', fun _ => rfl, fun hn' => ⟨⟨by omega, by omega⟩, b, o, ha, a', n', c', hld', ?_⟩⟩
  have hn' : n' ≤ 20 := by simp at hn'; omega
  refine c10 ok (hu8.mono hle) (by omega) fun p K1 hPK => ⟨p, 0, rfl, c11 ok 2 (by omega) _ K1 p _ hPK fun v cs K' K2 q1 q2 q3 q4 => ?_⟩
  have hv := q3.mono q1.le
  have hv' := hv
  have e1 : Le H15 K2 := q2.trans q1.le
  have z1 : szV v ≤ 80 := Nat.le_trans q4.1 (by decide)
  have hfit := q4.2
  obtain ⟨k, i, sv, lv⟩ := v
  obtain ⟨ax, nx, cx, rfl, rfl, hlv, hokv⟩ := hv'
  have zl : szL lv ≤ 80 := by simp only [szV] at z1; omega
  have nl := len_szL lv
  have hins := szL_ins (.mk k i sv lv) l
  refine ⟨k, i, sv, ax, _, cx, rfl, trivial, c18 ok (hl.mono e1) (hok.mono e1) hsrt hv (by omega) (by omega) fun a2 c2 H2 hR => ⟨a2, _, c2, rfl, ⟨rfl, rfl, trivial⟩, ?_⟩⟩
  have e2 : Le H15 H2 := e1.trans hR.le
  refine c19 ok (hl.mono e2) (hok.mono e2) (hv.mono hR.le) (by omega) (by omega) fun a3 c3 H3 hM => ⟨a3, _, c3, rfl, trivial, c20 ok (hR.row.mono hM.le) (hR.cut.mono hM.le) hM.row hM.cut (by omega) (by omega) ⟨_, rfl, fun h => ?_, fun _ => ?_⟩⟩
  · rw [cmpL_refl] at h; simp at h
  · have e3 : Le H15 H3 := e2.trans hM.le
    have hj1 : IntKind.wrap .i64 ((j : Int) + 1) = ((j + 1 : Nat) : Int) := by rw [wrap64 (by omega) (by omega)]; omega
    rw [hj1]
    have stay : ∃ m', m' < n5 - j ∧ (a4 = a4 ∧ n5 = n5 ∧ Le H H3 ∧ ∃ (j' : Nat) (l' el' : List V), ((j + 1 : Nat) : Int) = j' ∧ j' ≤ n5 ∧ m' = n5 - j' ∧ RS H3 l' a3 ∧ (insV (.mk k i sv lv) l).length = l'.length ∧ SlOk H3 4 a3 (insV (.mk k i sv lv) l).length c3 ∧ Srt l' ∧ szL l' ≤ 80 * j' ∧
        RS H3 el' a11 ∧ el.length = el'.length ∧ el'.length ≤ 80 ∧ KR el' ∧ ∀ x ∈ el', 0 < kidsV x) :=
      ⟨n5 - (j + 1), by omega, rfl, rfl, hle.trans e3, j + 1, _, el, rfl, by omega, rfl, hM.row, rfl, hM.cut, srt_ins _ hsrt, by omega, hel.mono e3, rfl, hen, hkr, hkd⟩
    refine ⟨fun h6 => ⟨fun _ => ?_, fun _ => stay⟩, fun _ => stay⟩
    have h6 : k = 6 := by simpa using h6
    obtain ⟨g1, g2⟩ := hfit.key h6
    exact ⟨n5 - (j + 1), by omega, rfl, rfl, hle.trans e3, j + 1, _, lv, rfl, by omega, rfl, hM.row, rfl, hM.cut, srt_ins _ hsrt, by omega, hlv.mono (hR.le.trans hM.le), rfl, by omega, g1, g2⟩
end
end Va
end Go.Proofs.Ytnngkkpgdjihgaa
