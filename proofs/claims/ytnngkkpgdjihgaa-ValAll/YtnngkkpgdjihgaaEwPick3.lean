/- The play makes values. -/
import Derived.Test.YtnngkkpgdjihgaaEwPick2
set_option linter.unusedVariables false
namespace Go.Proofs.Ytnngkkpgdjihgaa
open Go.Ev Go.Ew
namespace Va

abbrev emp : ByteArray := ByteArray.mk #[]

theorem leaf {K : KH} {k i : Int} {s : ByteArray} : RV K (.mk k i s []) [.int .i64 k, .int .i64 i, .string s, .slice none 0 0] := ⟨none, 0, 0, rfl, rfl, rfl, rfl⟩

theorem lit_get {K : KH} {n j : Nat} {cs : List Value} {v : Value} (h : K n = some (mkEnt cs 0)) (hj : cs[j]? = some v) : ld K ⟨n, 0 + j * 1, none⟩ [v] := by
  refine ⟨rfl, _, h, rd_some rfl fun i w hw => ?_⟩
  match i, hw with
  | 0, hw =>
    simp at hw
    subst hw
    simp only [mkEnt, tget_wr_nil]
    rw [← hj]
    congr 1
    omega
  | i + 1, hw => simp at hw

theorem szL_ins (x : V) : ∀ l : List V, szL (insV x l) ≤ szL l + szV x
  | [] => by simp [insV, szL]
  | y :: l => by
    have := szL_ins x l
    simp only [insV]
    split
    · simp only [szL]; omega
    · split
      · simp only [szL]; omega
      · simp only [szL]; omega

theorem find_le (s : ByteArray) : ∀ l : List V, (findV s l).1 ≤ l.length
  | [] => by simp [findV]
  | y :: l => by
    have := find_le s l
    simp only [findV]
    split
    · simp only [List.length_cons]; omega
    · simp

section
variable (ok : EnvOk (env Try.prog))
include ok

theorem l12a {K H : KH} {p : Nat} {l : List V} {a : Option Addr} {c : Nat} {Q : Value → KH → Prop} (hp : PK K p H) (hl : RS K l a) (hn : l.length ≤ 1000) (hsz : szL l ≤ 60000) (hf : ∀ x ∈ l, Fit x)
    (hq : ∀ m a' c' K' H', PK K' p H' → Le K K' → RS K' m a' → SlOk K' 4 a' m.length c' → szL m ≤ szL l ∧ Srt m ∧ (∀ x ∈ m, Fit x) → Q (.agg #[.int .i64 5, .int .i64 0, .string emp, .slice a' m.length c']) H') : vc11_L1 a l.length c H Q := by
  unfold vc11_L1
  refine ⟨fun n3 x4 x5 s6 a7 n8 n9 x10 x11 s12 a13 n14 n15 a16 n17 n18 x19 H20 => x10 = 5 ∧ x11 = 0 ∧ s12 = emp ∧ a16 = a ∧ n17 = l.length ∧ ∃ (K' : KH) (m : List V) (j : Nat), PK K' p H20 ∧ Le K K' ∧ RS K' m a13 ∧ SlOk K' 4 a13 m.length n15 ∧ n14 = m.length ∧
    szL m ≤ szTo l j ∧ (Srt m ∧ ∀ x ∈ m, Fit x) ∧ x19 = j ∧ j ≤ l.length ∧ n3 = l.length - j, ⟨l.length, rfl, rfl, rfl, rfl, rfl, K, [], 0, hp, Le.refl _, rfl, rfl, rfl, by simp [szL, szTo], ⟨by simp [Srt], by simp⟩, rfl, by omega, by omega⟩, ?_⟩
  rintro n3 x4 x5 s6 a7 n8 n9 x10 x11 s12 a13 n14 n15 a16 n17 n18 x19 H20 ⟨rfl, rfl, rfl, rfl, rfl, K', m, j, hpk, hle, hm, hok, rfl, hs, hgd, rfl, hj, rfl⟩
  have hto := szTo_le l j
  refine ⟨fun hlt => ?_, fun hge => hq m a13 n15 K' H20 hpk hle hm hok ⟨by omega, hgd⟩⟩
  have hlt : j < l.length := by simpa using hlt
  have hx : l[j]? = some l[j] := by simp [hlt]
  obtain ⟨b, o, ha, cy, hld, hrv⟩ := RS.get (hl.mono hle) hx
  have hsc := szTo_succ l j _ hx
  have hto2 := szTo_le l (j + 1)
  have hld' := hpk.le.ld hld
  have hrv' := hrv
  have hfy := hf _ (List.getElem_mem hlt)
  generalize hyv : l[j] = y at *
  obtain ⟨k1, i1, s1, ly⟩ := y
  obtain ⟨ay, ny, cy', rfl, rfl, hsy, hoy⟩ := hrv
  refine ⟨trivial, ⟨by omega, by omega⟩, b, o, ha, k1, i1, s1, ay, ly.length, cy', by simpa using hld', ?_⟩
  obtain ⟨h1, e, ua, un, uc, uj, rfl, hwr, hr, hj0, hn0, hu⟩ := hpk
  have hins := szL_ins (.mk k1 i1 s1 ly) m
  refine Does.frame h1 (c19 ok hm hok hrv' (by omega) (by omega) fun a' c' K2 mine hb => ⟨a', _, c', rfl, trivial, trivial, l.length - (j + 1), by omega, rfl, rfl, rfl, rfl, rfl, K2, _, j + 1,
    ⟨hb, e, ua, un, uc, uj, rfl, hwr, hr, hj0, hn0, hu.mono mine.le⟩, hle.trans mine.le, mine.row, mine.cut, rfl, by omega, ⟨srt_ins _ hgd.1, fun z hz => (mem_ins hz).elim (fun e => e ▸ hfy) (hgd.2 z)⟩, ?_, by omega, rfl⟩)
  rw [wrap64 (by omega) (by omega)]; omega

theorem l12b {d : Nat} (ih : P11 d) (hd : d ≤ 6) {K H : KH} {p : Nat} {x : Int} {Q : Value → KH → Prop} (hp : PK K p H) (hx1 : 0 ≤ x) (hx2 : x < 3)
    (hq : ∀ m a' c' K' H', PK K' p H' → Le K K' → RS K' m a' → SlOk K' 4 a' m.length c' → szL m ≤ 2 * (2 + 5 * 4 ^ d) ∧ Prs m → Q (.agg #[.int .i64 6, .int .i64 0, .string emp, .slice a' m.length c']) H') : vc11_L3 p 0 (d + 1 : Nat) x H Q := by
  unfold vc11_L3
  refine ⟨fun n3 n4 n5 x6 x7 x8 s9 a10 n11 n12 x13 x14 s15 a16 n17 n18 x19 H20 => n4 = p ∧ n5 = 0 ∧ x6 = (d + 1 : Nat) ∧ x13 = 6 ∧ x14 = 0 ∧ s15 = emp ∧ 0 ≤ x19 ∧ n3 = x19.toNat ∧ ∃ (K' : KH) (m : List V), PK K' p H20 ∧ Le K K' ∧ RS K' m a16 ∧ SlOk K' 4 a16 m.length n18 ∧ n17 = m.length ∧
    m.length + x19.toNat ≤ 2 ∧ szL m ≤ m.length * (2 + 5 * 4 ^ d) ∧ Prs m, ⟨x.toNat, rfl, rfl, rfl, rfl, rfl, rfl, rfl, hx1, rfl, K, [], hp, Le.refl _, rfl, rfl, rfl, by simp; omega, by simp [szL], ⟨by simp [KR], by simp, by simp, by simp⟩⟩, ?_⟩
  rintro n3 n4 n5 x6 x7 x8 s9 a10 n11 n12 x13 x14 s15 a16 n17 n18 x19 H20 ⟨rfl, rfl, rfl, rfl, rfl, rfl, hx0, rfl, K', m, hpk, hle, hm, hok, rfl, hml, hsz, hprs⟩
  refine ⟨fun hpos => ?_, fun hz => hq m a16 n18 K' H20 hpk hle hm hok ⟨?_, hprs⟩⟩
  · have hpos : 0 < x19 := by simpa using hpos
    have hw : IntKind.wrap .i64 (((d + 1 : Nat) : Int) - 1) = (d : Int) := by rw [wrap64 (by omega) (by omega)]; omega
    have hw2 : IntKind.wrap .i64 (x19 - 1) = x19 - 1 := wrap64 (by omega) (by omega)
    rw [hw, hw2]
    intro n1 hn1
    have g := hpk.grow (Le.new hn1 (e := mkEnt [.string (ByteArray.mk #[97]), .string (ByteArray.mk #[98]), .string (ByteArray.mk #[99])] 0))
    have hn1p : n1 ≠ n4 := fun e => by
      subst e
      obtain ⟨_, e, _, _, _, _, q, _⟩ := hpk
      rw [q] at hn1
      simp [KH.new] at hn1
    refine c24 ok g.1 (by omega) (by omega) fun y H3 hy1 hy2 hp3 => ⟨y, rfl, ⟨hy1, hy2⟩, n1, 0, rfl, ?_⟩
    obtain ⟨s, hs, hs1⟩ : ∃ s : ByteArray, ([.string (ByteArray.mk #[97]), .string (ByteArray.mk #[98]), .string (ByteArray.mk #[99])] : List Value)[y.toNat]? = some (.string s) ∧ s.size = 1 := by
      have h3 : y.toNat = 0 ∨ y.toNat = 1 ∨ y.toNat = 2 := by omega
      rcases h3 with q | q | q <;> rw [q]
      · exact ⟨_, rfl, rfl⟩
      · exact ⟨_, rfl, rfl⟩
      · exact ⟨_, rfl, rfl⟩
    have hlit : ((H20.new n1 (mkEnt [.string (ByteArray.mk #[97]), .string (ByteArray.mk #[98]), .string (ByteArray.mk #[99])] 0)).del n4) n1 = some (mkEnt [.string (ByteArray.mk #[97]), .string (ByteArray.mk #[98]), .string (ByteArray.mk #[99])] 0) := by
      simp only [KH.del, KH.new, if_neg hn1p, if_true]
    refine ⟨s, hp3.le.ld (lit_get hlit hs), ?_⟩
    have hfl := find_le s m
    refine c22 ok ((hm.mono g.2).mono hp3.le) (by omega) ⟨_, _, rfl, fun hb => ⟨trivial, ?_⟩, fun hb => ?_⟩
    · have hput := fun (v : V) (hv : Fit v) => hprs.put (s := s) hv (by simpa using hb)
      generalize (findV s m).1 = j at *
      refine ih _ H3 n4 _ hp3 fun v cv K13 H13 q1 q2 q3 q4 => ?_
      have q3' := q3
      obtain ⟨k, i, sv, lv⟩ := v
      obtain ⟨ax, nx, cx, rfl, _⟩ := q3
      refine ⟨k, i, sv, ax, nx, cx, rfl, ⟨rfl, trivial⟩, fun n20 hn20 => ⟨trivial, trivial, fun n21 hn21 => ?_⟩⟩
      generalize hvv : V.mk k i sv lv = v at *
      have leR := q1.le.trans (Le.new hn20 (e := mkEnt [.int .i64 3, .int .i64 0, .string s, .slice none 0 0, .int .i64 k, .int .i64 i, .string sv, .slice ax nx cx] 0))
      have hR20 : (H13.new n20 (mkEnt [.int .i64 3, .int .i64 0, .string s, .slice none 0 0, .int .i64 k, .int .i64 i, .string sv, .slice ax nx cx] 0)) n20 = some (mkEnt [.int .i64 3, .int .i64 0, .string s, .slice none 0 0, .int .i64 k, .int .i64 i, .string sv, .slice ax nx cx] 0) := if_pos rfl
      have leH13 := Le.new hn20 (e := mkEnt [.int .i64 3, .int .i64 0, .string s, .slice none 0 0, .int .i64 k, .int .i64 i, .string sv, .slice ax nx cx] 0)
      generalize hR : H13.new n20 (mkEnt [.int .i64 3, .int .i64 0, .string s, .slice none 0 0, .int .i64 k, .int .i64 i, .string sv, .slice ax nx cx] 0) = R at *
      obtain ⟨cs, hcs, hrc⟩ := ((hm.mono g.2).mono q2).cells
      obtain ⟨aL, cL, hL1, hL2⟩ := cut_lo (((hok.mono g.2).mono q2).mono leR) (leR.kold hcs) hfl
      obtain ⟨aR, cR, hR1, hR2⟩ := cut_hi (((hok.mono g.2).mono q2).mono leR) (leR.kold hcs) hfl
      have hlen := kold_len hcs
      refine ⟨aL, j, cL, (Le.new hn21).kslice hL1, fun n25 hn25 => ⟨aR, m.length - j, cR, ((Le.new hn21).trans (Le.new hn25)).kslice hR1, fun n29 hn29 => ?_⟩⟩
      have h59 : n25 ≠ n29 := fun e => by subst e; simp [KH.new] at hn29
      rw [hide_new hn25]
      refine ⟨j, _, knew_of ((Le.new hn21).kold hL2), ?_⟩
      obtain ⟨a12, c11, H15, hap, hown, hle15, _, hnn⟩ := Own.append (ti := VT) (H0 := R) (H := KH.new R n21 (mkEnt [] 0)) (nm := n29) (new := cs.take (j * 4)) (m := j)
        (.lit n21 0 [] (by simp [KH.new]) rfl (by decide) hn21) (Le.new hn21) (Le.none (Le.new hn25) hn29) (by simp only [List.length_take]; omega) (by omega) (by decide) (by decide)
      have h15 : H15 n25 = none := hnn n25 hn25 h59
      have leA : Le H15 (H15.new n25 (mkEnt [.int .i64 4, .int .i64 0, .string emp, .slice (some ⟨n20, 0, none⟩) 2 2] 0)) := Le.new h15
      refine ⟨a12, 0 + j, c11, H15, hap, ?_⟩
      rw [back_new]
      refine ⟨⟨rfl, ⟨rfl, rfl⟩, rfl, rfl, ⟨aR, _, cR, (hle15.trans leA).kslice hR1, rfl⟩, trivial⟩, fun n39 hn39 => ?_⟩
      obtain ⟨a22, c22, H25, hap2, hown2, hle2, _, _⟩ := Own.append (ti := VT) (H0 := R) (nm := n39) (new := [.int .i64 4, .int .i64 0, .string emp, .slice (some ⟨n20, 0, none⟩) 2 2]) (m := 1)
        (hown.mono leA) (hle15.trans leA) hn39 rfl (by omega) (by decide) (by decide)
      have hk5 : kold (H15.new n25 (mkEnt [.int .i64 4, .int .i64 0, .string emp, .slice (some ⟨n20, 0, none⟩) 2 2] 0)) 4 (some ⟨n25, 0, none⟩) 1 = some [.int .i64 4, .int .i64 0, .string emp, .slice (some ⟨n20, 0, none⟩) 2 2] :=
        kold_some.2 ⟨mkEnt [.int .i64 4, .int .i64 0, .string emp, .slice (some ⟨n20, 0, none⟩) 2 2] 0, if_pos rfl, mk_rd⟩
      refine ⟨1, _, knew_of hk5, a22, _, c22, H25, hap2, ⟨⟨rfl, rfl⟩, rfl, rfl, ⟨aR, _, cR, hle2.kslice hR1, rfl⟩, trivial⟩, fun n49 hn49 => ?_⟩
      refine ⟨m.length - j, _, knew_of (hle2.kold hR2), ?_⟩
      obtain ⟨a32, c30, H35, hap3, hown3, hle3, _, _⟩ := Own.append (ti := VT) (H0 := R) (nm := n49) (new := cs.drop (j * 4)) (m := m.length - j)
        hown2 hle2 hn49 (by simp only [List.length_drop]; omega) (by omega) (by decide) (by decide)
      refine ⟨a32, _, c30, H35, hap3, trivial, trivial, (x19 - 1).toNat, by omega, rfl, rfl, rfl, rfl, rfl, rfl, rfl, by omega, rfl, ?_⟩
      have g2 := q1.grow (leH13.trans hle3)
      have hl2 : (m.take j ++ V.mk 4 0 emp [.mk 3 0 s [], v] :: m.drop j).length = 0 + j + 1 + (m.length - j) := by simp only [List.length_append, List.length_cons, List.length_take, List.length_drop]; omega
      have hl3 : (m.take j ++ V.mk 4 0 emp [.mk 3 0 s [], v] :: m.drop j).length = m.length + 1 := by rw [hl2]; omega
      have hRp : R n4 ≠ none := by
        obtain ⟨_, e, _, _, _, _, q, _⟩ := q1
        have : H13 n4 = some e := by rw [q]; exact if_pos rfl
        rw [leH13 _ _ this]
        simp
      have h20p : n20 ≠ n4 := fun e => by
        subst e
        obtain ⟨_, e, _, _, _, _, q, _⟩ := q1
        rw [q] at hn20
        simp [KH.new] at hn20
      have hown4 : Own (fun _ => none) (H35.del n4) 4 a32 (0 + j + 1 + (m.length - j)) c30 ([] ++ cs.take (j * 4) ++ [.int .i64 4, .int .i64 0, .string emp, .slice (some ⟨n20, 0, none⟩) 2 2] ++ cs.drop (j * 4)) := by
        obtain ⟨b, E, rfl, hb, hb0⟩ := hown3.at_ (by omega)
        have hbp : b ≠ n4 := fun e => by subst e; exact hRp hb0
        exact hown3.move (by simp only [KH.del, if_neg hbp]) rfl
      have h20 : (H35.del n4) n20 = some (mkEnt [.int .i64 3, .int .i64 0, .string s, .slice none 0 0, .int .i64 k, .int .i64 i, .string sv, .slice ax nx cx] 0) := by
        simp only [KH.del, if_neg h20p]
        exact hle3 _ _ hR20
      have hown20 : Own (fun _ => none) (H35.del n4) 4 (some ⟨n20, 0, none⟩) 2 2 [.int .i64 3, .int .i64 0, .string s, .slice none 0 0, .int .i64 k, .int .i64 i, .string sv, .slice ax nx cx] := .lit n20 2 _ h20 rfl (by decide) rfl
      have hpair : RV (H35.del n4) (V.mk 4 0 emp [.mk 3 0 s [], v]) [.int .i64 4, .int .i64 0, .string emp, .slice (some ⟨n20, 0, none⟩) 2 2] :=
        ⟨_, _, _, rfl, rfl, RS.of_cells hown20.cells (RC.append (l := [.mk 3 0 s []]) (m := [v]) (RC.one leaf) (RC.one (q3'.mono g2.2))), hown20.ok (by decide)⟩
      have hc := (hrc.mono g2.2).cut j
      have h3 := (RC.append hc.1 (RC.one hpair)).append hc.2
      rw [← hl2] at hown4
      refine ⟨_, _, g2.1, (hle.trans g.2).trans (q2.trans g2.2), RS.of_cells hown4.cells (by simpa using h3), hown4.ok (by decide), hl2.symm, by rw [hl3]; omega, ?_, hput v q4.2⟩
      have q4 := q4.1
      rw [hl3, szL_app]
      have htd : szL (m.take j) + szL (m.drop j) = szL m := by rw [← szL_app, List.take_append_drop]
      have he : emp.size = 0 := rfl
      simp only [szL, szV, he, hs1, Nat.add_mul, Nat.one_mul]
      generalize m.length * (2 + 5 * 4 ^ d) = X at *
      generalize 5 * 4 ^ d = B at *
      omega
    · refine ⟨(x19 - 1).toNat, by omega, rfl, rfl, rfl, rfl, rfl, rfl, rfl, by omega, rfl, _, m, hp3, hle.trans g.2, hm.mono g.2, hok.mono g.2, rfl, by omega, hsz, hprs⟩
  · have : m.length * (2 + 5 * 4 ^ d) ≤ 2 * (2 + 5 * 4 ^ d) := Nat.mul_le_mul_right _ (by omega)
    omega
end
end Va
end Go.Proofs.Ytnngkkpgdjihgaa
