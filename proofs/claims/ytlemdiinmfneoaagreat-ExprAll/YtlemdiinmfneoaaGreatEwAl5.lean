import Derived.Test.YtlemdiinmfneoaaGreatEwAl1
/- The reference's env. -/
set_option linter.unusedVariables false
set_option linter.unusedSimpArgs false
namespace Go.Ew
open Go.Ev Go.Deep Go.Proofs.YtlemdiinmfneoaaGreat.Va

theorem cut_ok {H : KH} {sz n c k m c' : Nat} {a a' : OA} (ho : SlOk H sz a n c) (hk : k < n) (h : kslice H sz a n c (some (.int .i64 (k : Int))) none = some (.slice a' m c')) : SlOk H sz a' m c' := by
  have hn : natOf 0 (some (.int .i64 (k : Int))) = some k := by simp [natOf]
  have hz0 : natOf n none = some n := rfl
  cases a with
  | none => have : n = 0 := ho; omega
  | some b =>
    rcases ho with ⟨hs, cl, hcl, hle⟩ | ⟨_, hn0⟩
    case inr => omega
    obtain ⟨bb, bo, sp⟩ := b
    cases hs
    have hb : (Nat.ble k n && Nat.ble n cl && Nat.ble n cl && (⟨bb, bo, none⟩ : Addr).spot.isNone) = true := by
      simp only [Bool.and_eq_true]
      exact ⟨⟨⟨Nat.ble_eq_true_of_le (by omega), Nat.ble_eq_true_of_le hle⟩, Nat.ble_eq_true_of_le hle⟩, rfl⟩
    unfold kslice at h
    simp only [hn, hz0, hcl, hb, cond_true] at h
    cases hlt : Nat.blt c unkU
    · rw [hlt] at h
      rw [show Nat.blt k cl = true from Nat.ble_eq_true_of_le (show k + 1 ≤ cl by omega)] at h
      simp only [cond_true, cond_false, Option.isNone, Option.some.injEq, Value.slice.injEq] at h
      obtain ⟨rfl, rfl, rfl⟩ := h
      refine .inl ⟨rfl, cl - k, ?_, by omega⟩
      unfold kcap at hcl ⊢
      have hge : ¬ c < unkU := fun q => by rw [show Nat.blt c unkU = true from Nat.ble_eq_true_of_le q] at hlt; cases hlt
      have hlt2 : Nat.blt (c + k) unkU = false := by
        cases q : Nat.blt (c + k) unkU
        · rfl
        · have := Nat.le_of_ble_eq_true q; omega
      rw [hlt] at hcl
      rw [hlt2]
      simp only [cond_false] at hcl ⊢
      cases he : H bb with
      | none => rw [he] at hcl; cases hcl
      | some e =>
        rw [he] at hcl
        simp only at hcl ⊢
        cases q : (Nat.beq e.unk sz && Nat.beq bo ((c - unkU) * sz) && Nat.ble 1 sz && Nat.ble bo e.len)
        · rw [q] at hcl; cases hcl
        · rw [q] at hcl
          simp only [cond_true, Option.some.injEq] at hcl
          simp only [Bool.and_eq_true] at q
          obtain ⟨⟨⟨q1, q2⟩, q3⟩, q4⟩ := q
          have q2 := Nat.eq_of_beq_eq_true q2
          have q3' := Nat.le_of_ble_eq_true q3
          have q4 := Nat.le_of_ble_eq_true q4
          have hm : cl * sz ≤ e.len - bo := by rw [← hcl]; exact Nat.div_mul_le_self _ _
          have hm2 : k * sz ≤ cl * sz := Nat.mul_le_mul_right _ (by omega)
          have e1 : bo + k * sz = (c + k - unkU) * sz := by rw [q2, ← Nat.add_mul, Nat.sub_add_comm (Nat.le_of_not_lt hge)]
          have e2 : (Nat.beq e.unk sz && Nat.beq (bo + k * sz) ((c + k - unkU) * sz) && Nat.ble 1 sz && Nat.ble (bo + k * sz) e.len) = true := by
            rw [e1, q1, q3, Nat.beq_refl, ← e1, Nat.ble_eq_true_of_le (show bo + k * sz ≤ e.len by omega)]; rfl
          rw [e2]
          simp only [cond_true, Option.some.injEq]
          rw [← hcl, show e.len - (bo + k * sz) = (e.len - bo) - sz * k by rw [Nat.mul_comm]; omega, Nat.sub_mul_div]
    · have hcc : cl = c := by
        unfold kcap at hcl
        rw [hlt] at hcl
        exact (Option.some.inj hcl).symm
      have hne : Nat.beq c k = false := by
        cases q : Nat.beq c k
        · rfl
        · have := Nat.eq_of_beq_eq_true q; omega
      rw [hlt, hne] at h
      simp only [cond_true, cond_false, Option.isNone, Option.some.injEq, Value.slice.injEq] at h
      obtain ⟨rfl, rfl, rfl⟩ := h
      refine .inl ⟨rfl, c - k, ?_, by omega⟩
      unfold kcap
      have := Nat.le_of_ble_eq_true hlt
      rw [show Nat.blt (c - k) unkU = true from Nat.ble_eq_true_of_le (by omega)]
      rfl

/-- A row's value, and where it lies. -/
theorem cell_at {H : KH} {l : List V} {a : OA} (h : RS H l a) {j : Nat} {k i : Int} {s : ByteArray} {kids : List V} (hx : l[j]? = some (.mk k i s kids)) :
    ∃ b o av cv, a = some ⟨b, o, none⟩ ∧ ld H ⟨b, o + j * 4, none⟩ [.int .i64 k, .int .i64 i, .string s, .slice av kids.length cv] ∧ RS H kids av ∧ SlOk H 4 av kids.length cv := by
  obtain ⟨b, o, ha, cs, hld, hrv⟩ := RS.get h hx
  obtain ⟨av, nv, cv, rfl, rfl, h1, h2⟩ := hrv
  exact ⟨b, o, av, cv, ha, hld, h1, h2⟩
end Go.Ew

namespace Go.Proofs.YtlemdiinmfneoaaGreat
open Go.Ev Go.Ew
namespace Va
section
variable (ok : EnvOk (env Tryz.prog))
include ok

omit ok in
theorem j50 {l m rest : List V} {v : V} {a aR : OA} {j cR : Nat} {i0 : Int} {s0 s : ByteArray} {H : KH} {Q : PQ} (hl : RS H l a) (h0 : l[0]? = some (.mk 6 i0 s0 m)) (h1 : l[1]? = some (.mk 3 0 s [])) (h2 : l[2]? = some v)
    (hj : j ≤ m.length) (hm : m.length ≤ 50000) (hr : RS H rest aR) (hrl : rest.length ≤ 50000) (hq : Ans H (.mk 6 0 emp (m.take j ++ [.mk 4 0 emp [strV s, v]] ++ rest)) Q) :
    vc50_J1 l.length a H (j : Int) aR rest.length cR Q := by
  have hlen : 3 ≤ l.length := by
    rcases Nat.lt_or_ge 2 l.length with q | q
    · omega
    · rw [List.getElem?_eq_none q] at h2; cases h2
  obtain ⟨b, o, a1, c1, rfl, hld1, hrs1, hok1⟩ := cell_at hl h1
  obtain ⟨b', o', a0, c0, e0, hld0, hrs0, hok0⟩ := cell_at hl h0
  cases e0
  have hv2 := RS.get hl h2
  obtain ⟨b', o', e2, cv, hld2, hrv⟩ := hv2
  cases e2
  have hrv' := hrv
  obtain ⟨k, i, sv, lv⟩ := v
  obtain ⟨ax, nx, cx, rfl, rfl, _, _⟩ := hrv
  unfold vc50_J1
  refine ⟨trivial, ⟨by omega, by omega⟩, b, o, rfl, 3, 0, s, a1, 0, c1, by simpa using hld1, ⟨by omega, by omega⟩, b, o, rfl, k, i, sv, ax, _, cx, by simpa using hld2, fun n17 hn17 => ⟨trivial, trivial, fun n18 hn18 => ?_⟩⟩
  generalize hvv : V.mk k i sv lv = v at *
  have leR := Le.new hn17 (e := mkEnt [.int .i64 3, .int .i64 0, .string s, .slice a1 0 c1, .int .i64 k, .int .i64 i, .string sv, .slice ax lv.length cx] 0)
  have hR17 : (H.new n17 (mkEnt [.int .i64 3, .int .i64 0, .string s, .slice a1 0 c1, .int .i64 k, .int .i64 i, .string sv, .slice ax lv.length cx] 0)) n17 = some (mkEnt [.int .i64 3, .int .i64 0, .string s, .slice a1 0 c1, .int .i64 k, .int .i64 i, .string sv, .slice ax lv.length cx] 0) := if_pos rfl
  generalize hR : H.new n17 (mkEnt [.int .i64 3, .int .i64 0, .string s, .slice a1 0 c1, .int .i64 k, .int .i64 i, .string sv, .slice ax lv.length cx] 0) = R at *
  obtain ⟨cs, hcs, hrc⟩ := hrs0.cells
  obtain ⟨ds, hds, hrd⟩ := hr.cells
  obtain ⟨aL, cL, hL1, hL2⟩ := cut_lo (hok0.mono leR) (leR.kold hcs) hj
  have hlen1 := kold_len hcs
  have hlen2 := kold_len hds
  refine ⟨⟨by omega, by omega⟩, b, o, rfl, rfl, a0, _, c0, by simpa using (leR.trans (Le.new hn18)).ld (ld_sub hld0 3 1 (by simp)), aL, j, cL, (Le.new hn18).kslice hL1, fun n27 hn27 n28 hn28 => ?_⟩
  have h78 : n27 ≠ n28 := fun e => by subst e; simp [KH.new] at hn28
  rw [hide_new hn27]
  refine ⟨j, _, knew_of ((Le.new hn18).kold hL2), ?_⟩
  obtain ⟨a12, c17, H15, hap, hown, hle15, _, hnn⟩ := Own.append (ti := VT) (H0 := R) (H := KH.new R n18 (mkEnt [] 0)) (nm := n28) (new := cs.take (j * 4)) (m := j)
    (.lit n18 0 [] (by simp [KH.new]) rfl (by decide) hn18) (Le.new hn18) (Le.none (Le.new hn27) hn28) (by simp only [List.length_take]; omega) (by omega) (by decide) (by decide)
  have h15 : H15 n27 = none := hnn n27 hn27 h78
  have leA : Le H15 (H15.new n27 (mkEnt [.int .i64 4, .int .i64 0, .string emp, .slice (some ⟨n17, 0, none⟩) 2 2] 0)) := Le.new h15
  refine ⟨a12, 0 + j, c17, H15, hap, fun _ => ?_⟩
  rw [back_new]
  refine ⟨⟨rfl, rfl, trivial⟩, fun n35 hn35 => ?_⟩
  obtain ⟨a22, c33, H25, hap2, hown2, hle2, _, _⟩ := Own.append (ti := VT) (H0 := R) (nm := n35) (new := [.int .i64 4, .int .i64 0, .string emp, .slice (some ⟨n17, 0, none⟩) 2 2]) (m := 1)
    (hown.mono leA) (hle15.trans leA) hn35 rfl (by omega) (by decide) (by decide)
  have hk5 : kold (H15.new n27 (mkEnt [.int .i64 4, .int .i64 0, .string emp, .slice (some ⟨n17, 0, none⟩) 2 2] 0)) 4 (some ⟨n27, 0, none⟩) 1 = some [.int .i64 4, .int .i64 0, .string emp, .slice (some ⟨n17, 0, none⟩) 2 2] :=
    kold_some.2 ⟨mkEnt [.int .i64 4, .int .i64 0, .string emp, .slice (some ⟨n17, 0, none⟩) 2 2] 0, if_pos rfl, mk_rd⟩
  refine ⟨1, _, knew_of hk5, a22, _, c33, H25, hap2, ⟨rfl, trivial⟩, fun n42 hn42 => ?_⟩
  refine ⟨rest.length, _, knew_of (hle2.kold (leR.kold hds)), ?_⟩
  obtain ⟨a32, c37, H35, hap3, hown3, hle3, _, _⟩ := Own.append (ti := VT) (H0 := R) (nm := n42) (new := ds) (m := rest.length)
    hown2 hle2 hn42 hlen2 (by omega) (by decide) (by decide)
  refine ⟨a32, _, c37, H35, hap3, trivial, trivial, ?_⟩
  have hl2 : (m.take j ++ [V.mk 4 0 emp [strV s, v]] ++ rest).length = 0 + j + 1 + rest.length := by simp only [List.length_append, List.length_cons, List.length_nil, List.length_take]; omega
  have leF : Le H H35 := leR.trans hle3
  have hown20 : Own (fun _ => none) H35 4 (some ⟨n17, 0, none⟩) 2 2 [.int .i64 3, .int .i64 0, .string s, .slice a1 0 c1, .int .i64 k, .int .i64 i, .string sv, .slice ax lv.length cx] := .lit n17 2 _ (hle3 _ _ hR17) rfl (by decide) rfl
  have hstr : RV H35 (.mk 3 0 s []) [.int .i64 3, .int .i64 0, .string s, .slice a1 0 c1] := ⟨a1, 0, c1, rfl, rfl, hrs1.mono leF, hok1.mono leF⟩
  have hpair : RV H35 (V.mk 4 0 emp [strV s, v]) [.int .i64 4, .int .i64 0, .string emp, .slice (some ⟨n17, 0, none⟩) 2 2] :=
    ⟨_, _, _, rfl, rfl, RS.of_cells hown20.cells (RC.append (l := [.mk 3 0 s []]) (m := [v]) (RC.one hstr) (RC.one (hrv'.mono leF))), hown20.ok (by decide)⟩
  have hc := (hrc.mono leF).cut j
  have h3 := (RC.append hc.1 (RC.one hpair)).append (hrd.mono leF)
  rw [← hl2] at hown3 ⊢
  exact hq _ H35 leF ⟨_, _, _, rfl, rfl, RS.of_cells hown3.cells (by simpa using h3), hown3.ok (by decide)⟩

theorem c50 {op : Int} {l m : List V} {a : OA} {c : Nat} {i0 : Int} {s0 s : ByteArray} {H : KH} {Q : PQ} (hl : RS H l a) (h0 : l[0]? = some (.mk 6 i0 s0 m)) (h1 : l[1]? = some (.mk 3 0 s []))
    (hm : m.length ≤ 40000) (hk : KR m) (hp : ∀ x ∈ m, pairB x = true) (q18 : op = 18 → Ans H (truV (findV s m).2) Q) (q17 : op = 17 → Ans H (getV m s) Q) (q16 : op ≠ 17 → op ≠ 18 → ∃ v, l[2]? = some v ∧ Ans H (.mk 6 0 emp (putV m s v)) Q) :
    Does (env Tryz.prog) 50 [.int .i64 op, .slice a l.length c] H Q := by
  have hlen : 2 ≤ l.length := by
    rcases Nat.lt_or_ge 1 l.length with q | q
    · omega
    · rw [List.getElem?_eq_none q] at h1; cases h1
  obtain ⟨b, o, a1, c1, ha, hld1, hrs1, hok1⟩ := cell_at hl h1
  obtain ⟨b', o', a0, c0, e0, hld0, hrs0, hok0⟩ := cell_at hl h0
  rw [ha] at e0
  cases e0
  have hfl := find_le s m
  have hc : ∀ x ∈ m, 0 < kidsV x := fun x hx => (pair_kids (hp x hx)).2.2.1
  have hspec := find_spec (s := s) hk hc
  have hL0 : ld H ⟨b, o + 3, none⟩ [.slice a0 m.length c0] := by simpa using ld_sub hld0 3 1 (by simp)
  have hS1 : ld H ⟨b, o + 4 + 2, none⟩ [.string s] := by simpa using ld_sub hld1 2 1 (by simp)
  refine fn50 ok ⟨trivial, ⟨by omega, by omega⟩, b, o, ha, rfl, a0, _, c0, by simpa using hL0, ⟨by omega, by omega⟩, b, o, ha, rfl, s, by simpa using hS1, c33 ok hrs0 (by omega) ⟨_, _, rfl, trivial, fun h => c47 ok (q18 (by simpa using h)).wrap, fun h18 => ⟨fun h => ?_, fun h17 => ?_⟩⟩⟩
  · have h : op = 17 := by simpa using h
    have hq := q17 h
    refine ⟨fun hb => ?_, fun hb => ?_⟩
    · have hb : (findV s m).2 = false := by simpa using hb
      rw [show getV m s = badV 7 from if_neg (by rw [hb]; decide)] at hq
      exact c27 ok hq.wrap
    · have hb : (findV s m).2 = true := by simpa using hb
      obtain ⟨y, hy, _⟩ := hspec.2.2.2.1 hb
      have hlt : (findV s m).1 < m.length := by
        rcases Nat.lt_or_ge (findV s m).1 m.length with q | q
        · exact q
        · rw [List.getElem?_eq_none q] at hy; cases hy
      have hg : getV m s = sndV y := by
        unfold getV
        rw [if_pos hb, hy]
      rw [hg] at hq
      have hmy : y ∈ m := List.mem_of_getElem? hy
      obtain ⟨_, hlen2, _, k0, z, hkids, _⟩ := pair_kids (hp y hmy)
      obtain ⟨b3, o3, ha3, cy, hld, hrv⟩ := RS.get hrs0 hy
      obtain ⟨k, i, t, ly⟩ := y
      simp only [kidsL] at hkids
      subst hkids
      obtain ⟨ay, ny, cyy, rfl, rfl, hsy, hoy⟩ := hrv
      obtain ⟨b2, o2, ha2, cz, hldz, hrvz⟩ := RS.get (j := 1) hsy (by simp : [k0, z][1]? = some z)
      have hz' : sndV (.mk k i t [k0, z]) = z := rfl
      rw [hz'] at hq
      have hrz := hrvz
      obtain ⟨kz, iz, sz, lz⟩ := z
      obtain ⟨az, nz, cz', rfl, rfl, hlz, hoz⟩ := hrvz
      exact ⟨⟨by omega, by omega⟩, b, o, ha, rfl, a0, _, c0, by simpa using hL0, ⟨by omega, by omega⟩, b3, o3, ha3, rfl, ay, _, cyy, by simpa using ld_sub hld 3 1 (by simp), ⟨by omega, by simp⟩, b2, o2, ha2, kz, iz, sz, az, _, cz', by simpa using hldz, hq _ H (Le.refl _) hrz⟩
  · have h17 : op ≠ 17 := by simpa using h17
    have h18 : op ≠ 18 := by simpa using h18
    obtain ⟨v, h2, hq⟩ := q16 h17 h18
    obtain ⟨cs, hcs, hrc⟩ := hrs0.cells
    obtain ⟨aR, cR, hR1, hR2⟩ := cut_hi hok0 hcs hfl
    have hcut := hrc.cut (findV s m).1
    refine ⟨⟨by omega, by omega⟩, b, o, ha, rfl, a0, _, c0, by simpa using hL0, aR, _, cR, hR1, fun hb => ?_, fun hb => ?_⟩
    · have hb : (findV s m).2 = true := by simpa using hb
      obtain ⟨y, hy, _⟩ := hspec.2.2.2.1 hb
      have hlt : (findV s m).1 < m.length := by
        rcases Nat.lt_or_ge (findV s m).1 m.length with q | q
        · exact q
        · rw [List.getElem?_eq_none q] at hy; cases hy
      have hokR := cut_ok hok0 hlt hR1
      obtain ⟨aT, cT, hT1, hT2⟩ := cut_hi (k := 1) hokR hR2 (by omega)
      have hrT : RS H (m.drop ((findV s m).1 + 1)) aT := by
        refine RS.of_cells (cs := (cs.drop ((findV s m).1 * 4)).drop (1 * 4)) ?_ ?_
        · have : (m.drop ((findV s m).1 + 1)).length = m.length - (findV s m).1 - 1 := by simp only [List.length_drop]; omega
          rw [this]; exact hT2
        · have := (hrc.cut ((findV s m).1 + 1)).2
          rw [List.drop_drop, show (findV s m).1 * 4 + 1 * 4 = ((findV s m).1 + 1) * 4 by omega]
          exact this
      have hlT : m.length - (findV s m).1 - 1 = (m.drop ((findV s m).1 + 1)).length := by simp only [List.length_drop]; omega
      refine ⟨aT, _, cT, hT1, ?_⟩
      rw [hlT]
      refine j50 hl h0 h1 h2 hfl (by omega) hrT (by simp only [List.length_drop]; omega) ?_
      unfold putV at hq
      rw [if_pos hb] at hq
      exact hq
    · have hb : ¬ (findV s m).2 = true := by simpa using hb
      have hrT : RS H (m.drop (findV s m).1) aR := by
        refine RS.of_cells (cs := cs.drop ((findV s m).1 * 4)) ?_ hcut.2
        rw [List.length_drop]; exact hR2
      have hlT : m.length - (findV s m).1 = (m.drop (findV s m).1).length := by simp only [List.length_drop]
      rw [hlT]
      refine j50 hl h0 h1 h2 hfl (by omega) hrT (by simp only [List.length_drop]; omega) ?_
      unfold putV at hq
      rw [if_neg hb] at hq
      exact hq
end
end Va
end Go.Proofs.YtlemdiinmfneoaaGreat

/- The reference's apply. -/
set_option linter.unusedVariables false
set_option linter.unusedSimpArgs false
namespace Go.Ew
open Go.Ev Go.Deep Go.Proofs.YtlemdiinmfneoaaGreat.Va

/-- A value's four cells. -/
structure Bx (H : KH) (b o : Nat) (k i : Int) (s : ByteArray) (l : List V) (av : OA) (cv : Nat) : Prop where
  at_ : ld H ⟨b, o, none⟩ [.int .i64 k, .int .i64 i, .string s, .slice av l.length cv]
  rs : RS H l av
  sl : SlOk H 4 av l.length cv

section
variable {H : KH} {b o : Nat} {k i : Int} {s : ByteArray} {l : List V} {av : OA} {cv : Nat}
theorem Bx.mono {H' : KH} (h : Bx H b o k i s l av cv) (hl : Le H H') : Bx H' b o k i s l av cv := ⟨hl.ld h.at_, h.rs.mono hl, h.sl.mono hl⟩
theorem Bx.ck (h : Bx H b o k i s l av cv) : ld H ⟨b, o, none⟩ [.int .i64 k] := by simpa using ld_sub h.at_ 0 1 (by simp)
theorem Bx.ci (h : Bx H b o k i s l av cv) : ld H ⟨b, o + 1, none⟩ [.int .i64 i] := by simpa using ld_sub h.at_ 1 1 (by simp)
theorem Bx.cs (h : Bx H b o k i s l av cv) : ld H ⟨b, o + 2, none⟩ [.string s] := by simpa using ld_sub h.at_ 2 1 (by simp)
theorem Bx.cl (h : Bx H b o k i s l av cv) : ld H ⟨b, o + 3, none⟩ [.slice av l.length cv] := by simpa using ld_sub h.at_ 3 1 (by simp)
theorem Bx.rv (h : Bx H b o k i s l av cv) : RV H (.mk k i s l) [.int .i64 k, .int .i64 i, .string s, .slice av l.length cv] := ⟨av, _, cv, rfl, rfl, h.rs, h.sl⟩
end

theorem one_of {H : KH} {vs : List V} {a : OA} (h : RS H vs a) (hn : vs.length = 1) : ∃ k0 i0 s0 l0 b o a0 c0, vs = [.mk k0 i0 s0 l0] ∧ a = some ⟨b, o, none⟩ ∧ Bx H b o k0 i0 s0 l0 a0 c0 := by
  match vs, hn with
  | [.mk k0 i0 s0 l0], _ =>
    obtain ⟨b, o, a0, c0, ha, h1, h2, h3⟩ := cell_at h (j := 0) rfl
    exact ⟨k0, i0, s0, l0, b, o, a0, c0, rfl, ha, by simpa using h1, h2, h3⟩

theorem two_of {H : KH} {vs : List V} {a : OA} (h : RS H vs a) (hn : 2 ≤ vs.length) : ∃ k0 i0 s0 l0 k1 i1 s1 l1 rest b o a0 c0 a1 c1, vs = .mk k0 i0 s0 l0 :: .mk k1 i1 s1 l1 :: rest ∧ a = some ⟨b, o, none⟩ ∧ Bx H b o k0 i0 s0 l0 a0 c0 ∧ Bx H b (o + 4) k1 i1 s1 l1 a1 c1 := by
  match vs, hn with
  | .mk k0 i0 s0 l0 :: .mk k1 i1 s1 l1 :: rest, _ =>
    obtain ⟨b, o, a0, c0, ha, h1, h2, h3⟩ := cell_at h (j := 0) rfl
    obtain ⟨b', o', a1, c1, ha', g1, g2, g3⟩ := cell_at h (j := 1) rfl
    rw [ha] at ha'
    cases ha'
    exact ⟨k0, i0, s0, l0, k1, i1, s1, l1, rest, b, o, a0, c0, a1, c1, rfl, ha, ⟨by simpa using h1, h2, h3⟩, ⟨by simpa using g1, g2, g3⟩⟩

theorem in_of {k i : Int} {s : ByteArray} {l : List V} (h : rgB (.mk k i s l) = true) : In64 i := by
  simp only [rgB, Bool.and_eq_true, decide_eq_true_eq] at h
  exact h.1

theorem ins_mem {x : V} : ∀ {l : List V}, Srt l → decide ((insV x l).length = l.length) = memV l x
  | [], _ => by simp [insV, memV]
  | y :: l, h => by
    have hy : ∀ {w}, w ∈ l → cmpV y w < 0 := fun hw => List.rel_of_pairwise_cons h hw
    have ih := ins_mem (x := x) (l := l) h.of_cons
    rw [insV]
    have e : memV (y :: l) x = (decide (cmpV y x = 0) || memV l x) := by simp [memV]
    rw [e]
    split
    · rename_i hlt
      rw [decide_eq_false (show ¬ cmpV y x = 0 by omega), Bool.false_or, ← ih]
      simp
    · rename_i hlt
      split
      · rename_i he
        simp [he]
      · rename_i hne
        rw [decide_eq_false hne, Bool.false_or]
        have hm : memV l x = false := by
          rw [Bool.eq_false_iff]
          intro q
          obtain ⟨v, hv, hc⟩ := mem_iff.1 q
          have := (cmp3 y v x).2.1 (hy hv) (by omega)
          omega
        rw [hm]
        simp

theorem rg_kids {k i : Int} {s : ByteArray} {l : List V} (h : rgB (.mk k i s l) = true) : ∀ x ∈ l, rgB x = true := by
  simp only [rgB, Bool.and_eq_true] at h
  exact rgs_iff.1 h.2
end Go.Ew

namespace Go.Proofs.YtlemdiinmfneoaaGreat
open Go.Ev Go.Ew
namespace Va
section
variable (ok : EnvOk (env Tryz.prog))
include ok

theorem a30_0 {op : Int} {vs : List V} {a : OA} {c : Nat} {H : KH} {Q : PQ} (hvs : RS H vs a) (hR : ∀ x ∈ vs, rgB x = true) (hop : op = 4 ∨ op = 5 ∨ op = 6) (h2 : vs.length = 2) (hq : Ans H (reckonV op vs) Q) : vc30_J0 a vs.length c H op Q := by
  obtain ⟨k0, i0, s0, l0, k1, i1, s1, l1, rest, b, o, a0, c0, a1, c1, e, ha, hx, hy⟩ := two_of hvs (by omega)
  have hr : rest = [] := by rw [e] at h2; simp at h2; exact h2
  subst hr
  have hv : reckonV op vs = if k0 = 1 ∧ k1 = 1 then sumV op i0 i1 else badV 4 := by
    rw [e]
    rcases hop with rfl | rfl | rfl <;> simp [reckonV, twoV, sumV, kV, iV]
  have hall : (vs.all fun v => decide (kV v = 1)) = (decide (k0 = 1) && decide (k1 = 1)) := by
    rw [e]
    show (decide (k0 = 1) && (decide (k1 = 1) && true)) = _
    rw [Bool.and_true]
  have r0 : In64 i0 := in_of (hR (.mk k0 i0 s0 l0) (by rw [e]; simp))
  have r1 : In64 i1 := in_of (hR (.mk k1 i1 s1 l1) (by rw [e]; simp))
  unfold vc30_J0
  refine c48 ok hvs (by omega) ⟨_, rfl, fun hb => ⟨trivial, ⟨by omega, by omega⟩, b, o, ha, rfl, i0, by simpa using hx.ci, ⟨by omega, by omega⟩, b, o, ha, rfl, i1, by simpa using hy.ci, c49 ok r0 r1 ?_⟩, fun hb => ?_⟩
  · rw [hall] at hb
    simp only [Bool.and_eq_true, decide_eq_true_eq] at hb
    rw [hv, if_pos hb] at hq
    exact hq.wrapT
  · rw [hall] at hb
    rw [hv, if_neg (fun q => by rw [decide_eq_true q.1, decide_eq_true q.2] at hb; cases hb)] at hq
    exact c27 ok hq.wrap

theorem a30_4 {op : Int} {vs : List V} {a : OA} {c : Nat} {H : KH} {Q : PQ} (hvs : RS H vs a) (hO : ∀ x ∈ vs, Ok x) (hop : (op = 9 ∨ op = 10) ∧ vs.length = 2 ∨ op = 11 ∧ vs.length = 1) (hq : Ans H (reckonV op vs) Q) : vc30_J4 a vs.length c H Q op := by
  unfold vc30_J4
  refine c48 ok hvs (by omega) ⟨_, rfl, fun hb => ?_, fun hb => ?_⟩
  · have hb : (vs.all fun v => decide (kV v = 2)) = false := by simpa using hb
    have hv : reckonV op vs = badV 4 := by
      rcases hop with ⟨hop, hn⟩ | ⟨rfl, hn⟩
      · match vs, hn with
        | [x, y], _ =>
          have hne : ¬ (kV x = 2 ∧ kV y = 2) := fun q => by simp [q] at hb
          rcases hop with rfl | rfl
          · simp only [reckonV, twoV]; simp [hne]
          · simp only [reckonV, twoV]; simp [hne]
      · match vs, hn with
        | [x], _ =>
          have hne : ¬ kV x = 2 := fun q => by simp [q] at hb
          simp [reckonV, notV, hne]
    rw [hv] at hq
    exact c27 ok hq.wrap
  · have hb : (vs.all fun v => decide (kV v = 2)) = true := by simpa using hb
    unfold vc30_J3
    rcases hop with ⟨hop, hn⟩ | ⟨rfl, hn⟩
    · obtain ⟨k0, i0, s0, l0, k1, i1, s1, l1, rest, b, o, a0, c0, a1, c1, e, ha, hx, hy⟩ := two_of hvs (by omega)
      have hr : rest = [] := by rw [e] at hn; simp at hn; exact hn
      subst hr
      rw [e] at hb
      have hb : k0 = 2 ∧ k1 = 2 := ⟨of_decide_eq_true (List.all_eq_true.1 hb (.mk k0 i0 s0 l0) (by simp)), of_decide_eq_true (List.all_eq_true.1 hb (.mk k1 i1 s1 l1) (by simp))⟩
      refine ⟨fun h => ?_, fun h => ⟨fun h9 => ?_, fun h9 => ?_⟩⟩
      · have : op = 11 := by simpa using h
        omega
      · have h9 : op = 9 := by simpa using h9
        have hv : reckonV op vs = truV (decide (i0 = 1) && decide (i1 = 1)) := by rw [e, h9]; simp [reckonV, twoV, kV, iV, hb]
        rw [hv] at hq
        refine ⟨⟨by omega, by omega⟩, b, o, ha, rfl, i0, by simpa using hx.ci, fun h1 => ⟨⟨by omega, by omega⟩, b, o, ha, rfl, i1, by simpa using hy.ci, ?_⟩, fun h1 => ?_⟩
        · rw [h1, Bool.true_and] at hq; exact c47 ok hq.wrap
        · rw [h1, Bool.false_and] at hq; exact c47 ok hq.wrap
      · have h9 : ¬ op = 9 := by simpa using h9
        have h10 : op = 10 := by omega
        have hv : reckonV op vs = truV (decide (i0 = 1) || decide (i1 = 1)) := by rw [e, h10]; simp [reckonV, twoV, kV, iV, hb]
        rw [hv] at hq
        refine ⟨⟨by omega, by omega⟩, b, o, ha, rfl, i0, by simpa using hx.ci, fun h1 => ?_, fun h1 => ⟨⟨by omega, by omega⟩, b, o, ha, rfl, i1, by simpa using hy.ci, ?_⟩⟩
        · rw [h1, Bool.true_or] at hq; exact c47 ok hq.wrap
        · rw [h1, Bool.false_or] at hq; exact c47 ok hq.wrap
    · obtain ⟨k0, i0, s0, l0, b, o, a0, c0, e, ha, hx⟩ := one_of hvs hn
      rw [e] at hb
      have hb : k0 = 2 := of_decide_eq_true (List.all_eq_true.1 hb (.mk k0 i0 s0 l0) (by simp))
      have hf := (hO (.mk k0 i0 s0 l0) (by rw [e]; simp)).fit
      rw [hb] at hf
      simp only [fitV] at hf
      simp at hf
      have hi : i0 = 0 ∨ i0 = 1 := hf.1
      have hv : reckonV 11 vs = truV (decide (i0 = 0)) := by
        rw [e]
        have h1 : reckonV 11 [.mk k0 i0 s0 l0] = notV (.mk k0 i0 s0 l0) := rfl
        rw [h1]
        unfold notV
        rw [if_pos (show kV (.mk k0 i0 s0 l0) = 2 from hb)]
        show truV (!decide (i0 = 1)) = _
        rcases hi with rfl | rfl <;> rfl
      rw [hv] at hq
      exact ⟨fun _ => ⟨⟨by omega, by omega⟩, b, o, ha, rfl, i0, by simpa using hx.ci, c47 ok hq.wrap⟩, fun h => by simp at h⟩

theorem a30_7 {op : Int} {vs : List V} {a : OA} {c : Nat} {H : KH} {Q : PQ} (hvs : RS H vs a) (hO : ∀ x ∈ vs, Ok x) (hop : op = 16 ∧ vs.length = 3 ∨ (op = 17 ∨ op = 18) ∧ vs.length = 2) (hq : Ans H (reckonV op vs) Q) : vc30_J7 vs.length a H op c Q := by
  obtain ⟨k0, i0, s0, l0, k1, i1, s1, l1, rest, b, o, a0, c0, a1, c1, e, ha, hx, hy⟩ := two_of hvs (by omega)
  have hv : ¬ (k0 = 6 ∧ k1 = 3) → reckonV op vs = badV 4 := fun q => by
    rw [e]
    rcases hop with ⟨rfl, _⟩ | ⟨rfl | rfl, _⟩ <;> simp [reckonV, twoV, kV, q]
  unfold vc30_J7
  refine ⟨⟨by omega, by omega⟩, b, o, ha, rfl, k0, by simpa using hx.ck, fun h6 => ⟨⟨by omega, by omega⟩, b, o, ha, rfl, k1, by simpa using hy.ck, fun h3 => ?_, fun h3 => ?_⟩, fun h6 => ?_⟩
  · have h6 : k0 = 6 := by simpa using h6
    have h3 : k1 = 3 := by simpa using h3
    subst h6 h3
    have f0 := hO (.mk 6 i0 s0 l0) (by rw [e]; simp)
    have f1 := hO (.mk 3 i1 s1 l1) (by rw [e]; simp)
    have hf := f1.fit
    simp only [fitV] at hf
    simp at hf
    obtain ⟨rfl, rfl⟩ := hf
    obtain ⟨_, _, hk, hp, hkr⟩ := fit6 f0.fit
    have hsz : l0.length ≤ 40000 := by
      have h1 := f0.sz
      have h2 := len_szL l0
      simp only [szV] at h1
      omega
    refine c50 ok (i0 := i0) (s0 := s0) hvs (by rw [e]; rfl) (by rw [e]; rfl) hsz hkr hp (fun h => ?_) (fun h => ?_) (fun n17 n18 => ?_)
    · subst h
      have : reckonV 18 vs = truV (findV s1 l0).2 := by rw [e]; simp [reckonV, twoV, kV, sV, kidsL]
      rw [this] at hq
      exact hq.wrap
    · subst h
      have : reckonV 17 vs = getV l0 s1 := by rw [e]; simp [reckonV, twoV, kV, sV, kidsL]
      rw [this] at hq
      exact hq.wrap
    · have h16 : op = 16 ∧ vs.length = 3 := by omega
      obtain ⟨rfl, h16⟩ := h16
      rw [e] at h16
      match rest, h16 with
      | [v], _ =>
        refine ⟨v, by rw [e]; rfl, ?_⟩
        have : reckonV 16 vs = .mk 6 0 emp (putV l0 s1 v) := by rw [e]; simp [reckonV, kV, sV, kidsL]
        rw [this] at hq
        exact hq.wrap
  · have h3 : ¬ k1 = 3 := by simpa using h3
    rw [hv fun q => h3 q.2] at hq
    exact c27 ok hq.wrap
  · have h6 : ¬ k0 = 6 := by simpa using h6
    rw [hv fun q => h6 q.1] at hq
    exact c27 ok hq.wrap

theorem c30 {op : Int} {vs : List V} {a : OA} {c : Nat} {H : KH} {Q : PQ} (hvs : RS H vs a) (hok : SlOk H 4 a vs.length c) (hO : ∀ x ∈ vs, Ok x) (hR : ∀ x ∈ vs, rgB x = true) (hn : op = 11 ∨ op = 15 → vs.length = 1) (h3 : op = 16 → vs.length = 3)
    (h2 : (op ≠ 21 ∧ op ≠ 22 ∧ op ≠ 14 ∧ op ≠ 11 ∧ op ≠ 15 ∧ op ≠ 16) → vs.length = 2) (hT : 4 ≤ op ∧ op ≤ 22 ∧ op ≠ 12) (hq : Ans H (reckonV op vs) Q) : Does (env Tryz.prog) 30 [.int .i64 op, .slice a vs.length c] H Q := by
  refine fn30 ok ⟨fun h => ?_, fun n14 => ⟨fun h => ?_, fun n21 => ⟨fun h => ?_, fun n22 => ⟨fun h => ?_, fun n7 => ⟨fun h => ?_, fun n8 => ⟨fun h => ?_, fun n4 => ⟨fun h => ?_, fun n5 => ⟨fun h => ?_, fun n6 => ⟨fun h => ?_, fun n9 => ⟨fun h => ?_, fun n10 => ⟨fun h => ?_, fun n11 => ⟨fun h => ?_, fun n13 => ⟨fun h => ?_, fun n15 => ⟨fun h => ?_, fun n19 => ⟨fun h => ?_, fun n20 => ⟨fun h => ?_, fun n16 => ⟨fun h => ?_, fun n17 => ⟨fun h => ?_, fun n18 => ?_⟩⟩⟩⟩⟩⟩⟩⟩⟩⟩⟩⟩⟩⟩⟩⟩⟩⟩
  · have h : op = 14 := by simpa using h
    subst h
    rw [show reckonV 14 vs = .mk 4 0 emp vs from rfl] at hq
    exact hq _ H (Le.refl _) ⟨a, _, c, rfl, rfl, hvs, hok⟩
  · have h : op = 21 := by simpa using h
    subst h
    rw [show reckonV 21 vs = .mk 5 0 emp [] from rfl] at hq
    exact hq _ H (Le.refl _) leaf
  · have h : op = 22 := by simpa using h
    subst h
    rw [show reckonV 22 vs = .mk 6 0 emp [] from rfl] at hq
    exact hq _ H (Le.refl _) leaf
  · have h : op = 7 := by simpa using h
    have hl := h2 (by omega)
    subst h
    obtain ⟨k0, i0, s0, l0, k1, i1, s1, l1, rest, b, o, a0, c0, a1, c1, e, ha, hx, hy⟩ := two_of hvs (by omega)
    have f0 := (hO (.mk k0 i0 s0 l0) (by rw [e]; simp)).sz
    have f1 := (hO (.mk k1 i1 s1 l1) (by rw [e]; simp)).sz
    rw [show reckonV 7 vs = truV (decide (cmpV (.mk k0 i0 s0 l0) (.mk k1 i1 s1 l1) = 0)) by rw [e]; simp [reckonV, twoV]] at hq
    exact ⟨trivial, ⟨by omega, by omega⟩, b, o, ha, _, _, _, _, _, _, by simpa using hx.at_, ⟨by omega, by omega⟩, b, o, ha, _, _, _, _, _, _, by simpa using hy.at_, c13 ok (by omega) (by omega) hx.rv hy.rv ⟨_, rfl, trivial, c47 ok hq.wrapT⟩⟩
  · have h : op = 8 := by simpa using h
    have hl := h2 (by omega)
    subst h
    obtain ⟨k0, i0, s0, l0, k1, i1, s1, l1, rest, b, o, a0, c0, a1, c1, e, ha, hx, hy⟩ := two_of hvs (by omega)
    have f0 := (hO (.mk k0 i0 s0 l0) (by rw [e]; simp)).sz
    have f1 := (hO (.mk k1 i1 s1 l1) (by rw [e]; simp)).sz
    rw [show reckonV 8 vs = truV (decide (cmpV (.mk k0 i0 s0 l0) (.mk k1 i1 s1 l1) < 0)) by rw [e]; simp [reckonV, twoV]] at hq
    exact ⟨trivial, ⟨by omega, by omega⟩, b, o, ha, _, _, _, _, _, _, by simpa using hx.at_, ⟨by omega, by omega⟩, b, o, ha, _, _, _, _, _, _, by simpa using hy.at_, c24 ok 1000 _ _ _ _ _ _ (by omega) (by decide) (by omega) hx.rv hy.rv ⟨_, rfl, trivial, c47 ok hq.wrapT⟩⟩
  · have h : op = 4 := by simpa using h
    exact a30_0 ok hvs hR (by omega) (h2 (by omega)) hq
  · have h : op = 5 := by simpa using h
    exact a30_0 ok hvs hR (by omega) (h2 (by omega)) hq
  · have h : op = 6 := by simpa using h
    exact a30_0 ok hvs hR (by omega) (h2 (by omega)) hq
  · have h : op = 9 := by simpa using h
    exact a30_4 ok hvs hO (.inl ⟨by omega, h2 (by omega)⟩) hq
  · have h : op = 10 := by simpa using h
    exact a30_4 ok hvs hO (.inl ⟨by omega, h2 (by omega)⟩) hq
  · have h : op = 11 := by simpa using h
    exact a30_4 ok hvs hO (.inr ⟨h, hn (by omega)⟩) hq
  · have h : op = 13 := by simpa using h
    have hl := h2 (by omega)
    subst h
    obtain ⟨k0, i0, s0, l0, k1, i1, s1, l1, rest, b, o, a0, c0, a1, c1, e, ha, hx, hy⟩ := two_of hvs (by omega)
    have hr : rest = [] := by rw [e] at hl; simp at hl; exact hl
    subst hr
    have f0 := (hO (.mk k0 i0 s0 l0) (by rw [e]; simp)).sz
    have f1 := (hO (.mk k1 i1 s1 l1) (by rw [e]; simp)).sz
    have g0 := len_szL l0
    have g1 := len_szL l1
    simp only [szV] at f0 f1
    have hall : ∀ k, (vs.all fun v => decide (kV v = k)) = (decide (k0 = k) && decide (k1 = k)) := fun k => by
      rw [e]
      show (decide (k0 = k) && (decide (k1 = k) && true)) = _
      rw [Bool.and_true]
    have hv : reckonV 13 vs = if k0 = 3 ∧ k1 = 3 then strV (s0 ++ s1) else if k0 = 4 ∧ k1 = 4 then .mk 4 0 emp (l0 ++ l1) else badV 4 := by
      rw [e]
      show twoV 13 (.mk k0 i0 s0 l0) (.mk k1 i1 s1 l1) = _
      by_cases q : k0 = 3
      · rw [t13s _ _ (show kV (.mk k0 i0 s0 l0) = 3 from q)]
        show (if k0 = 3 ∧ k1 = 3 then strV (s0 ++ s1) else badV 4) = _
        rw [if_neg (show ¬ (k0 = 4 ∧ k1 = 4) by omega)]
      · rw [t13l _ _ (show ¬ kV (.mk k0 i0 s0 l0) = 3 from q)]
        show (if k0 = 4 ∧ k1 = 4 then V.mk 4 0 emp (l0 ++ l1) else badV 4) = _
        rw [if_neg (show ¬ (k0 = 3 ∧ k1 = 3) by omega)]
    rw [hv] at hq
    refine c48 ok hvs (by omega) ⟨_, rfl, fun hb => ?_, fun hb => c48 ok hvs (by omega) ⟨_, rfl, fun hb4 => ⟨trivial, fun n4 hn4 => ?_⟩, fun hb4 => ?_⟩⟩
    · rw [hall, Bool.and_eq_true, decide_eq_true_eq, decide_eq_true_eq] at hb
      rw [if_pos hb] at hq
      exact ⟨trivial, ⟨by omega, by omega⟩, b, o, ha, rfl, s0, by simpa using hx.cs, ⟨by omega, by omega⟩, b, o, ha, rfl, s1, by simpa using hy.cs, by omega, trivial, hq _ H (Le.refl _) leaf⟩
    · rw [hall, Bool.and_eq_false_iff, decide_eq_false_iff_not, decide_eq_false_iff_not] at hb
      rw [hall, Bool.and_eq_true, decide_eq_true_eq, decide_eq_true_eq] at hb4
      rw [if_neg (by omega), if_pos hb4] at hq
      have le4 := Le.new hn4 (e := mkEnt (lrep [.int .i64 0, .int .i64 0, .string (ByteArray.mk #[]), .slice none 0 0] 0) 0)
      obtain ⟨cs, hcs, hrc⟩ := hx.rs.cells
      obtain ⟨ds, hds, hrd⟩ := hy.rs.cells
      have hlen1 := kold_len hcs
      have hlen2 := kold_len hds
      refine ⟨⟨by omega, by omega⟩, b, o, ha, rfl, a0, _, c0, by simpa using le4.ld hx.cl, ⟨by omega, by omega⟩, b, o, ha, rfl, a1, _, c1, by simpa using le4.ld hy.cl, fun n15 hn15 => ⟨l0.length, _, knew_of (le4.kold hcs), ?_⟩⟩
      obtain ⟨a12, c17, H15, hap, hown, hle15, _, _⟩ := Own.append (ti := VT) (H0 := H) (H := KH.new H n4 (mkEnt [] 0)) (nm := n15) (new := cs) (m := l0.length)
        (.lit n4 0 [] (by simp [KH.new]) rfl (by decide) hn4) (Le.new hn4) hn15 hlen1 (by omega) (by decide) (by decide)
      refine ⟨a12, 0 + l0.length, c17, H15, hap, ⟨rfl, ⟨⟨by omega, by omega⟩, b, o, ha, rfl⟩, ⟨rfl, rfl⟩, ⟨a1, _, c1, by simpa using hle15.ld hy.cl, rfl⟩, trivial⟩, fun n27 hn27 => ⟨l1.length, _, knew_of (hle15.kold hds), ?_⟩⟩
      obtain ⟨a22, c27, H25, hap2, hown2, hle2, _, _⟩ := Own.append (ti := VT) (H0 := H) (nm := n27) (new := ds) (m := l1.length) hown hle15 hn27 hlen2 (by omega) (by decide) (by decide)
      refine ⟨a22, _, c27, H25, hap2, trivial, trivial, ?_⟩
      have hl2 : (l0 ++ l1).length = 0 + l0.length + l1.length := by simp only [List.length_append]; omega
      have h3 := (hrc.mono hle2).append (hrd.mono hle2)
      rw [← hl2] at hown2 ⊢
      exact hq _ H25 hle2 ⟨_, _, _, rfl, rfl, RS.of_cells hown2.cells (by simpa using h3), hown2.ok (by decide)⟩
    · rw [hall, Bool.and_eq_false_iff, decide_eq_false_iff_not, decide_eq_false_iff_not] at hb hb4
      rw [if_neg (by omega), if_neg (by omega)] at hq
      exact c27 ok hq.wrap
  · have h : op = 15 := by simpa using h
    have hl := hn (by omega)
    subst h
    obtain ⟨k0, i0, s0, l0, b, o, a0, c0, e, ha, hx⟩ := one_of hvs hl
    have hv : reckonV 15 vs = if k0 = 3 then numV (s0.size : Nat) else if k0 = 4 ∨ k0 = 5 ∨ k0 = 6 then numV (l0.length : Nat) else badV 4 := by rw [e]; rfl
    rw [hv] at hq
    refine ⟨⟨by omega, by omega⟩, b, o, ha, rfl, k0, by simpa using hx.ck, fun h => ?_, fun h => ⟨⟨by omega, by omega⟩, b, o, ha, rfl, k0, by simpa using hx.ck, fun h4 => ⟨⟨by omega, by omega⟩, b, o, ha, rfl, k0, by simpa using hx.ck, fun h6 => ?_, fun h6 => ?_⟩, fun h4 => ?_⟩⟩
    · have h : k0 = 3 := by simpa using h
      rw [if_pos h] at hq
      exact ⟨⟨by omega, by omega⟩, b, o, ha, rfl, s0, by simpa using hx.cs, hq _ H (Le.refl _) leaf⟩
    · have h := of_decide_eq_false h
      have h4 := of_decide_eq_true h4
      have h6 := of_decide_eq_true h6
      rw [if_neg h, if_pos (by omega)] at hq
      exact ⟨⟨by omega, by omega⟩, b, o, ha, rfl, a0, _, c0, by simpa using hx.cl, hq _ H (Le.refl _) leaf⟩
    · have h := of_decide_eq_false h
      have h4 := of_decide_eq_true h4
      have h6 := of_decide_eq_false h6
      rw [if_neg h, if_neg (by omega)] at hq
      exact c27 ok hq.wrap
    · have h := of_decide_eq_false h
      have h4 := of_decide_eq_false h4
      rw [if_neg h, if_neg (by omega)] at hq
      exact c27 ok hq.wrap
  · have h : op = 19 := by simpa using h
    have hl := h2 (by omega)
    subst h
    obtain ⟨k0, i0, s0, l0, k1, i1, s1, l1, rest, b, o, a0, c0, a1, c1, e, ha, hx, hy⟩ := two_of hvs (by omega)
    have f0 := (hO (.mk k0 i0 s0 l0) (by rw [e]; simp)).sz
    have f1 := (hO (.mk k1 i1 s1 l1) (by rw [e]; simp)).sz
    have f0' : szL l0 ≤ 60 := by simp only [szV] at f0; omega
    have hv : reckonV 19 vs = if k0 = 5 then .mk 5 0 emp (insV (.mk k1 i1 s1 l1) l0) else badV 4 := by rw [e]; rfl
    rw [hv] at hq
    refine ⟨⟨by omega, by omega⟩, b, o, ha, rfl, k0, by simpa using hx.ck, fun h => ?_, fun h => ?_⟩
    · have h : k0 = 5 := by simpa using h
      rw [if_pos h] at hq
      exact ⟨trivial, ⟨by omega, by omega⟩, b, o, ha, rfl, a0, _, c0, by simpa using hx.cl, ⟨by omega, by omega⟩, b, o, ha, _, _, _, _, _, _, by simpa using hy.at_, c32 ok hx.rs hx.sl hy.rv (by omega) (by omega) fun a' c' H' hm => ⟨a', _, c', rfl, trivial, trivial, hq _ H' hm.le ⟨a', _, c', rfl, rfl, hm.row, hm.cut⟩⟩⟩
    · have h : ¬ k0 = 5 := by simpa using h
      rw [if_neg h] at hq
      exact c27 ok hq.wrap
  · have h : op = 20 := by simpa using h
    have hl := h2 (by omega)
    subst h
    obtain ⟨k0, i0, s0, l0, k1, i1, s1, l1, rest, b, o, a0, c0, a1, c1, e, ha, hx, hy⟩ := two_of hvs (by omega)
    have f0 := (hO (.mk k0 i0 s0 l0) (by rw [e]; simp)).sz
    have f0f := (hO (.mk k0 i0 s0 l0) (by rw [e]; simp)).fit
    have f1 := (hO (.mk k1 i1 s1 l1) (by rw [e]; simp)).sz
    have f0' : szL l0 ≤ 60 := by simp only [szV] at f0; omega
    have hv : reckonV 20 vs = if k0 = 5 then truV (memV l0 (.mk k1 i1 s1 l1)) else badV 4 := by rw [e]; rfl
    rw [hv] at hq
    refine ⟨⟨by omega, by omega⟩, b, o, ha, rfl, k0, by simpa using hx.ck, fun h => ?_, fun h => ?_⟩
    · have h : k0 = 5 := by simpa using h
      rw [if_pos h] at hq
      subst h
      obtain ⟨_, _, _, hsrt⟩ := fit5 f0f
      rw [← ins_mem hsrt] at hq
      refine ⟨trivial, ⟨by omega, by omega⟩, b, o, ha, rfl, a0, _, c0, by simpa using hx.cl, ⟨by omega, by omega⟩, b, o, ha, _, _, _, _, _, _, by simpa using hy.at_, ⟨by omega, by omega⟩, b, o, ha, rfl, a0, _, c0, by simpa using hx.cl, c32 ok hx.rs hx.sl hy.rv (by omega) (by omega) fun a' c' H' hm => ⟨a', _, c', rfl, ⟨rfl, ⟨⟨by omega, by omega⟩, b, o, ha, rfl⟩, ⟨rfl, rfl⟩, ⟨a0, _, c0, by simpa using hm.le.ld hx.cl, rfl⟩, rfl, trivial⟩, ?_⟩⟩
      have ed : decide (((insV (.mk k1 i1 s1 l1) l0).length : Int) = (l0.length : Int)) = decide ((insV (.mk k1 i1 s1 l1) l0).length = l0.length) := by
        rw [decide_eq_decide]; omega
      rw [ed]
      exact c47 ok (hq.mono hm.le).wrapT
    · have h : ¬ k0 = 5 := by simpa using h
      rw [if_neg h] at hq
      exact c27 ok hq.wrap
  · have h : op = 16 := by simpa using h
    exact a30_7 ok hvs hO (.inl ⟨h, h3 h⟩) hq
  · have h : op = 17 := by simpa using h
    exact a30_7 ok hvs hO (.inr ⟨by omega, h2 (by omega)⟩) hq
  · have h : op = 18 := by simpa using h
    exact a30_7 ok hvs hO (.inr ⟨by omega, h2 (by omega)⟩) hq
  · simp only [decide_eq_false_iff_not] at *
    omega
end
end Va
end Go.Proofs.YtlemdiinmfneoaaGreat

/- What is reckoned keeps to an int64's numbers; the reference's Eval. -/
set_option linter.unusedVariables false
set_option linter.unusedSimpArgs false
namespace Go.Ew
open Go.Ev Go.Deep Go.Proofs.YtlemdiinmfneoaaGreat.Va

theorem rg_bad {n : Int} (h1 : 0 ≤ n) (h2 : n ≤ 100) : rgB (badV n) = true := rg_mk (by omega) (by omega) (by simp)
theorem rg_str {s : ByteArray} : rgB (strV s) = true := rg_mk (by decide) (by decide) (by simp)
theorem rg_tru {b : Bool} : rgB (truV b) = true := by cases b <;> exact rg_mk (by decide) (by decide) (by simp)
theorem rg_num {n : Int} (h : In64 n) : rgB (numV n) = true := rg_mk h.1 h.2 (by simp)
theorem rg_numIf {b : Bool} {n : Int} (h : In64 n) : rgB (numIfV b n) = true := by
  unfold numIfV
  split
  · exact rg_num h
  · exact rg_bad (by decide) (by decide)
theorem rg_row {k : Int} {l : List V} (h : ∀ x ∈ l, rgB x = true) : rgB (.mk k 0 emp l) = true := rg_mk (by decide) (by decide) h
theorem rg_kidsL {v : V} (h : rgB v = true) : ∀ x ∈ kidsL v, rgB x = true := by
  obtain ⟨k, i, s, l⟩ := v
  exact rg_kids h

theorem rg_ite {c : Prop} [Decidable c] {x y : V} (h1 : c → rgB x = true) (h2 : ¬ c → rgB y = true) : rgB (if c then x else y) = true := by
  split
  · exact h1 ‹_›
  · exact h2 ‹_›

theorem rg_snd {v : V} (h : rgB v = true) : rgB (sndV v) = true := by
  unfold sndV
  have hk := rg_kidsL h
  split
  · rename_i e; exact hk _ (by rw [e]; simp)
  · exact rg_bad (by decide) (by decide)

theorem rg_getV {l : List V} {s : ByteArray} (h : ∀ x ∈ l, rgB x = true) : rgB (getV l s) = true := by
  unfold getV
  refine rg_ite (fun _ => ?_) fun _ => rg_bad (by decide) (by decide)
  split
  · rename_i e; exact rg_snd (h _ (List.mem_of_getElem? e))
  · exact rg_bad (by decide) (by decide)

theorem wrap_in (n : Int) : In64 (IntKind.wrap .i64 n) := by obtain ⟨k, _, h⟩ := wrap_k n; exact h

theorem rg_two {op : Int} {a b : V} (ha : rgB a = true) (hb : rgB b = true) : rgB (twoV op a b) = true := by
  have bd : rgB (badV 4) = true := rg_bad (by decide) (by decide)
  have tru : ∀ {c : Prop} [Decidable c] {b : Bool}, rgB (if c then truV b else badV 4) = true := fun {c _ b} => rg_ite (fun _ => rg_tru) fun _ => bd
  unfold twoV
  refine rg_ite (fun _ => rg_ite (fun _ => rg_numIf (wrap_in _)) fun _ => bd) fun _ => rg_ite (fun _ => rg_ite (fun _ => rg_numIf (wrap_in _)) fun _ => bd) fun _ => rg_ite (fun _ => rg_ite (fun _ => rg_numIf (wrap_in _)) fun _ => bd) fun _ =>
    rg_ite (fun _ => rg_tru) fun _ => rg_ite (fun _ => rg_tru) fun _ => rg_ite (fun _ => tru) fun _ => rg_ite (fun _ => tru) fun _ =>
    rg_ite (fun _ => rg_ite (fun _ => rg_ite (fun _ => rg_str) fun _ => bd) fun _ => rg_ite (fun _ => ?_) fun _ => bd) fun _ =>
    rg_ite (fun _ => rg_ite (fun h => rg_getV (rg_kidsL ha)) fun _ => bd) fun _ => rg_ite (fun _ => tru) fun _ => rg_ite (fun _ => rg_ite (fun h => ?_) fun _ => bd) fun _ => rg_ite (fun _ => tru) fun _ => rg_bad (by decide) (by decide)
  · refine rg_row fun x hx => ?_
    rcases List.mem_append.1 hx with hx | hx
    · exact rg_kidsL ha x hx
    · exact rg_kidsL hb x hx
  · refine rg_row fun x hx => ?_
    rcases mem_ins hx with rfl | hx
    · exact hb
    · exact rg_kidsL ha x hx

theorem rg_getD {l : List V} (h : ∀ x ∈ l, rgB x = true) (j : Nat) : rgB (l[j]?.getD (badV 1)) = true := by
  cases e : l[j]? with
  | none => exact rg_bad (by decide) (by decide)
  | some x => exact h x (List.mem_of_getElem? e)

theorem ok_getD {l : List V} (h : ∀ x ∈ l, Ok x) (j : Nat) : Ok (l[j]?.getD (badV 1)) := by
  cases e : l[j]? with
  | none => exact ok_bad (by decide) (by decide)
  | some x => exact h x (List.mem_of_getElem? e)

theorem rg_len {v : V} (h : Ok v) : rgB (lenV v) = true := by
  have hs := h.sz
  obtain ⟨k, i, s, l⟩ := v
  have hl := len_szL l
  simp only [szV] at hs
  unfold lenV
  refine rg_ite (fun _ => rg_num ?_) fun _ => rg_ite (fun _ => rg_num ?_) fun _ => rg_bad (by decide) (by decide)
  · show In64 ((s.size : Nat) : Int)
    exact ⟨by omega, by omega⟩
  · show In64 ((l.length : Nat) : Int)
    exact ⟨by omega, by omega⟩

theorem rg_reckon {op : Int} {l : List V} (h : ∀ x ∈ l, rgB x = true) (hO : ∀ x ∈ l, Ok x) : rgB (reckonV op l) = true := by
  have bd : rgB (badV 4) = true := rg_bad (by decide) (by decide)
  unfold reckonV
  refine rg_ite (fun _ => rg_row (by simp)) fun _ => rg_ite (fun _ => rg_row (by simp)) fun _ => rg_ite (fun _ => rg_row h) fun _ => rg_ite (fun _ => ?_) fun _ => rg_ite (fun _ => rg_len (ok_getD hO 0)) fun _ => rg_ite (fun _ => rg_ite (fun _ => rg_row fun x hx => ?_) fun _ => bd) fun _ => rg_two (rg_getD h 0) (rg_getD h 1)
  · unfold notV
    exact rg_ite (fun _ => rg_tru) fun _ => bd
  · rcases mem_put hx with hx | rfl
    · exact rg_kidsL (rg_getD h 0) x hx
    · refine rg_row fun y hy => ?_
      simp only [List.mem_cons, List.not_mem_nil, or_false] at hy
      rcases hy with rfl | rfl
      · exact rg_str
      · exact rg_getD h 2

theorem rg_small {v : V} (h : rgB v = true) : rgB (smallV v) = true := rg_ite (fun _ => h) fun _ => rg_bad (by decide) (by decide)
theorem rg_taken {v : V} (h : rgB v = true) : rgB (takenV v) = true := rg_ite (fun _ => rg_small h) fun _ => rg_bad (by decide) (by decide)

theorem digits_in : ∀ {l : List UInt8} {n m : Int}, digits l n = some m → 0 ≤ n → 0 ≤ m ∧ m + 1 ≤ (n + 1) * 10 ^ l.length
  | [], n, m, h, h0 => by cases h; simp; omega
  | c :: l, n, m, h, h0 => by
    by_cases q : (c.toNat : Int) < 48 ∨ (57 : Int) < c.toNat
    · rw [digits_none q] at h; cases h
    · rw [digits_some q] at h
      obtain ⟨h1, h2⟩ := digits_in h (by omega)
      refine ⟨h1, ?_⟩
      have hp : (0 : Int) ≤ 10 ^ l.length := Int.pow_nonneg (by decide)
      have h3 : (10 * n + ((c.toNat : Int) - 48) + 1) * 10 ^ l.length ≤ (10 * (n + 1)) * 10 ^ l.length := Int.mul_le_mul_of_nonneg_right (by omega) hp
      rw [List.length_cons, Int.pow_succ]
      have e : (n + 1) * (10 ^ l.length * 10) = (10 * (n + 1)) * 10 ^ l.length := by rw [Int.mul_comm (10 ^ l.length) 10, ← Int.mul_assoc, Int.mul_comm (n + 1) 10]
      rw [e]
      omega

theorem rg_number (s : ByteArray) : rgB (numberV s) = true := by
  unfold numberV
  refine rg_ite (fun _ => rg_bad (by decide) (by decide)) fun h => ?_
  split
  · rename_i n e
    obtain ⟨h1, h2⟩ := digits_in e (by decide)
    have hl : s.data.toList.length ≤ 18 := by show s.size ≤ 18; omega
    have hp : (10 : Int) ^ s.data.toList.length ≤ 10 ^ 18 := by exact_mod_cast Nat.pow_le_pow_right (by decide : 0 < 10) hl
    have hp3 : (10 : Int) ^ 18 = 1000000000000000000 := by decide
    exact rg_num ⟨by omega, by omega⟩
  · exact rg_bad (by decide) (by decide)

theorem rg_eval {vals : List (List V)} (hR : ∀ l ∈ vals, ∀ v ∈ l, OkR v) (texts : List ByteArray) : ∀ (d : Nat) (e : Ex), Lg e → rgB (evalE vals texts d e) = true
  | 0, e, _ => by rw [evalE]; exact rg_bad (by decide) (by decide)
  | d + 1, .mk op v occ attr args, hg => by
    have ih : ∀ x ∈ args.map (evalE vals texts d), rgB x = true := fun x hx => by
      obtain ⟨e, he, rfl⟩ := List.mem_map.1 hx
      exact rg_eval hR texts d e (hg.2.2.get he)
    have io : ∀ x ∈ args.map (evalE vals texts d), Ok x := fun x hx => by
      obtain ⟨e, he, rfl⟩ := List.mem_map.1 hx
      exact ok_eval vals texts d e
    rw [evalE]
    refine rg_ite (fun _ => rg_bad (by decide) (by decide)) fun _ => rg_ite (fun _ => rg_taken hg.2.1) fun _ => rg_ite (fun _ => ?_) fun _ => rg_ite (fun _ => ?_) fun _ => rg_ite (fun _ => ?_) fun _ => rg_ite (fun _ => ?_) fun _ => ?_
    · unfold refV
      split
      · exact rg_bad (by decide) (by decide)
      · rename_i row e1
        split
        · exact rg_bad (by decide) (by decide)
        · rename_i v e2
          exact rg_taken (hR row (atL_mem e1) v (atL_mem e2)).rg
    · unfold textV
      split
      · exact rg_bad (by decide) (by decide)
      · exact rg_small rg_str
    · unfold numAtV
      split
      · exact rg_bad (by decide) (by decide)
      · exact rg_number _
    · unfold chooseV
      exact rg_ite (fun _ => rg_getD ih 0) fun _ => rg_ite (fun _ => rg_ite (fun _ => rg_getD ih 1) fun _ => rg_getD ih 2) fun _ => rg_bad (by decide) (by decide)
    · unfold allV
      split
      · rename_i e; exact ih _ (List.mem_of_find?_eq_some e)
      · exact rg_small (rg_reckon ih io)
end Go.Ew

/- The reference's Eval comes to what Eval comes to. -/
set_option linter.unusedVariables false
set_option linter.unusedSimpArgs false
namespace Go.Proofs.YtlemdiinmfneoaaGreat
open Go.Ev Go.Ew
namespace Va

def P15 (d : Nat) : Prop := ∀ (e : Ex) (ce : List Value) (vals : List (List Ew.V)) (texts : List ByteArray) (a b : OA) (c c' : Nat) (H : KH) (Q : PQ), RE H e ce → mayB d e = true → Vals H vals a → (∀ l ∈ vals, ∀ v ∈ l, OkR v) → Texts H texts b →
  Ans H (evalE vals texts d e) Q → Does (env Tryz.prog) 15 [.agg ce.toArray, .slice a vals.length c, .slice b texts.length c'] H Q

section
variable (ok : EnvOk (env Tryz.prog))
include ok

theorem l15 {d : Nat} (ih : P15 d) {op k i occ attr : Int} {s : ByteArray} {args : List Ex} {vals : List (List Ew.V)} {texts : List ByteArray} {a b aa av : OA} {c c' ca nv cv : Nat} {H : KH} {Q : PQ} (hr : RES H args aa) (hm : ∀ x ∈ args, mayB d x = true) (hv : Vals H vals a) (hR : ∀ l ∈ vals, ∀ v ∈ l, OkR v) (ht : Texts H texts b)
    (hn : args.length ≤ 4) (h1 : op = 11 ∨ op = 15 → args.length = 1) (h3 : op = 16 → args.length = 3) (h2 : (op ≠ 21 ∧ op ≠ 22 ∧ op ≠ 14 ∧ op ≠ 11 ∧ op ≠ 15 ∧ op ≠ 16) → args.length = 2) (hT : 4 ≤ op ∧ op ≤ 22 ∧ op ≠ 12)
    (hq : Ans H (allV op (args.map (evalE vals texts d))) Q) : vc15_L8 a vals.length c b texts.length c' op k i s av nv cv occ attr aa args.length ca H Q := by
  unfold vc15_L8
  refine ⟨fun m a4 n5 n6 a7 n8 n9 x10 x11 x12 s13 a14 n15 n16 x17 x18 a19 n20 n21 x22 x23 s24 a25 n26 n27 a28 n29 n30 x31 H32 => a4 = a ∧ n5 = vals.length ∧ a7 = b ∧ n8 = texts.length ∧ x10 = op ∧ a19 = aa ∧ n20 = args.length ∧
    ∃ (j : Nat) (X : KH) (F : List (Nat × Ent)) (cs : List Value), x31 = j ∧ j ≤ args.length ∧ m = args.length - j ∧ n29 = j ∧ Le H X ∧ frL X F ∧ Le (addL X F) H32 ∧ OwnQ 4 a28 j n30 cs F ∧ RC X ((args.take j).map (evalE vals texts d)) cs ∧ ∀ x ∈ (args.take j).map (evalE vals texts d), kV x ≠ 7,
    ⟨args.length, rfl, rfl, rfl, rfl, rfl, rfl, rfl, 0, H, [], [], rfl, by omega, rfl, rfl, Le.refl _, trivial, Le.refl _, .nil, by simp [RC], by simp⟩, ?_⟩
  rintro m a4 n5 n6 a7 n8 n9 x10 x11 x12 s13 a14 n15 n16 x17 x18 a19 n20 n21 x22 x23 s24 a25 n26 n27 a28 n29 n30 x31 H32 ⟨rfl, rfl, rfl, rfl, rfl, rfl, rfl, j, X, F, cs, rfl, hj, rfl, rfl, hleX, hfr, hat, hown, hrc, hne⟩
  have leX : Le X H32 := (addL_le hfr).trans hat
  refine ⟨fun hlt => ?_, fun hge => ?_⟩
  · have hlt : n29 < args.length := by have := of_decide_eq_true hlt; omega
    have hy : args[n29]? = some args[n29] := by simp [hlt]
    obtain ⟨b1, o1, ha, ce, hld, hre⟩ := RES.get hr hy
    have hmj := hm _ (List.getElem_mem hlt)
    have htk : (args.take (n29 + 1)).map (evalE vals texts d) = (args.take n29).map (evalE vals texts d) ++ [evalE vals texts d args[n29]] := by
      have h0 : args.take (n29 + 1) = args.take n29 ++ [args[n29]] := by rw [List.take_add_one]; simp [hlt]
      rw [h0, List.map_append, List.map_cons, List.map_nil]
    have hmap : (args.map (evalE vals texts d))[n29]? = some (evalE vals texts d args[n29]) := by rw [List.getElem?_map, hy]; rfl
    have ihj := fun Q => ih args[n29] ce vals texts a4 a7 n6 n9 X Q
    generalize args[n29] = ej at *
    have hre' := hre
    obtain ⟨op0, v0, occ0, at0, as0⟩ := ej
    obtain ⟨k0, i0, t0, av0, nv0, cv0, aa0, ca0, rfl, _, _⟩ := hre
    refine ⟨⟨by omega, by omega⟩, b1, o1, ha, _, _, _, _, _, _, _, _, _, _, _, _, by simpa using leX.ld (hleX.ld hld), Does.keep hfr hat (ihj _ (hre'.mono hleX) hmj (hv.mono hleX) hR (ht.mono hleX) fun cw X' hle' hrw hfr' H' hl' => ?_)⟩
    have hrw' := hrw
    generalize evalE vals texts d (.mk op0 v0 occ0 at0 as0) = w at *
    obtain ⟨kw, iw, sw, lw⟩ := w
    obtain ⟨aw, nw, cw, rfl, rfl, hlw, hokw⟩ := hrw
    have leX' : Le X' H' := (addL_le hfr').trans hl'
    refine ⟨_, _, _, _, _, _, rfl, fun h7 => ?_, fun h7 => fun n1 hn1 n2 hn2 => ?_⟩
    · have h7 : kw = 7 := by simpa using h7
      have hf : (args.map (evalE vals texts d)).find? (fun v => decide (kV v = 7)) = some (.mk kw iw sw lw) := find_first hmap (by simp [kV, h7]) fun x hx => by
        rw [← List.map_take] at hx
        simpa using hne x hx
      rw [allV, hf] at hq
      exact hq _ H' ((hleX.trans hle').trans leX') (hrw'.mono leX')
    · have h7 : ¬ kw = 7 := by simpa using h7
      have hk : kold (H'.new n1 (mkEnt [.int .i64 kw, .int .i64 iw, .string sw, .slice aw lw.length cw] 0)) 4 (some ⟨n1, 0, none⟩) 1 = some [.int .i64 kw, .int .i64 iw, .string sw, .slice aw lw.length cw] := lit_kold (if_pos rfl) rfl
      obtain ⟨a', c2, H2, F', e1, e2, e3, e4⟩ := OwnQ.append (ti := VT) (m := 1) (nm := n2) (new := [.int .i64 kw, .int .i64 iw, .string sw, .slice aw lw.length cw]) (F := F) (G := []) hown (by simpa using hfr') (by simpa using hl'.trans (Le.new hn1)) hn2 rfl (by omega) (by decide) (by decide) (by decide)
      rw [List.append_nil] at e3 e4
      refine ⟨1, _, knew_of hk, a', _, c2, H2, e1, args.length - (n29 + 1), by omega, rfl, rfl, rfl, rfl, rfl, rfl, rfl, n29 + 1, X', F', _, by rw [wrap64 (by omega) (by omega)]; omega, by omega, rfl, rfl, hleX.trans hle', e3, e4, e2, ?_, ?_⟩
      · rw [htk]
        exact (hrc.mono hle').append (RC.one hrw')
      · rw [htk]
        intro x hx
        rcases List.mem_append.1 hx with hx | hx
        · exact hne x hx
        · simp only [List.mem_cons, List.not_mem_nil, or_false] at hx
          subst hx
          exact h7
  · have hge : n29 = args.length := by have := of_decide_eq_false hge; omega
    subst hge
    rw [List.take_length] at hrc hne
    have hnone : (args.map (evalE vals texts d)).find? (fun v => decide (kV v = 7)) = none := by
      rw [List.find?_eq_none]
      intro x hx
      simpa using hne x hx
    rw [allV, hnone] at hq
    have hO : ∀ x ∈ args.map (evalE vals texts d), Ok x := fun x hx => by
      obtain ⟨e, he, rfl⟩ := List.mem_map.1 hx
      exact ok_eval vals texts d e
    have hG : ∀ x ∈ args.map (evalE vals texts d), rgB x = true := fun x hx => by
      obtain ⟨e, he, rfl⟩ := List.mem_map.1 hx
      exact rg_eval hR texts d e (may_lg (hm e he))
    have hl : (args.map (evalE vals texts d)).length = args.length := List.length_map _
    generalize args.map (evalE vals texts d) = vs at *
    have hsz : szV (reckonV x10 vs) ≤ 1000 := sz_reckon (fun x hx => (hO x hx).sz) (by omega)
    have hown2 := hown.cells (G := []) (by simpa using hfr) (by simpa using hat)
    rw [← hl] at hown2 ⊢
    refine c30 ok (RS.of_cells hown2.cells (hrc.mono leX)) (hown2.ok (by decide)) hO hG (by omega) (by omega) (by omega) hT fun cs' H2 hle2 hrv => ?_
    have hrv' := hrv
    generalize reckonV x10 vs = w at *
    obtain ⟨kw, iw, sw, lw⟩ := w
    obtain ⟨aw, nw, cw, rfl, rfl, _, _⟩ := hrv
    exact ⟨_, _, _, _, _, _, rfl, c28 ok hrv' (by omega) (hq.mono ((hleX.trans leX).trans hle2)).wrap⟩

theorem c15 : ∀ d : Nat, P15 d
  | 0 => fun e ce vals texts a b c c' H Q hr hm hv hR ht hq => by cases hm
  | d + 1 => by
    rintro ⟨op, v, occ, attr, args⟩ ce vals texts a b c c' H Q hr hm hv hR ht hq
    have ih := c15 d
    have hg := may_lg hm
    obtain ⟨k, i, s, av, nv, cv, aa, ca, rfl, hrv, hres⟩ := hr
    simp only [mayB, Bool.and_eq_true, List.all_eq_true] at hm
    obtain ⟨htk, hhold, hargs⟩ := hm
    have hta := takes_args op args.length
    rw [htk] at hta
    have hta := hta.symm
    simp only [Bool.and_eq_true, Bool.or_eq_true, decide_eq_true_eq] at hta
    have hab : 0 ≤ op ∧ op ≤ 22 := by
      have := hta.1
      simp only [argsB, Bool.and_eq_true, decide_eq_true_eq] at this
      exact this
    rw [evalE, if_neg (by rw [htk]; decide)] at hq
    have n7 : ∀ H2, Le H H2 → ∀ {R : PQ}, Ans H (badV 7) R → Does (env Tryz.prog) 27 [.int .i64 7] H2 fun v1 H2 => ∃ (x3 x4 : Int) (s5 : ByteArray) (a6 : OA) (n7 n8 : Nat), v1 = .agg #[.int .i64 x3, .int .i64 x4, .string s5, .slice a6 n7 n8] ∧ R (.agg #[.int .i64 x3, .int .i64 x4, .string s5, .slice a6 n7 n8]) H2 := fun H2 hl R hR => c27 ok (hR.mono hl).wrap
    refine fn15 ok (c26 ok ⟨_, _, rfl, fun h => ?_, fun _ => ⟨fun h => ?_, fun _ => ⟨fun h => ?_, fun n0 => ⟨fun h => ⟨trivial, ?_⟩, fun n1 => ⟨fun h => ?_, fun n2 => ⟨fun h => ?_, fun n3 => ⟨fun h => ?_, fun n12 => ?_⟩⟩⟩⟩⟩⟩⟩)
    · rw [hta.1] at h; cases h
    · have := of_decide_eq_true h; omega
    · have h : op = 0 := by simpa using h
      rw [if_pos h] at hq
      have hok : Ok v := by
        rw [holdB, if_pos h] at hhold
        simp only [Bool.and_eq_true, decide_eq_true_eq] at hhold
        exact ⟨hhold.1.1.1, hhold.1.1.2⟩
      rw [taken_ok hok] at hq
      exact hq _ H (Le.refl _) hrv
    · have h : op = 1 := by simpa using h
      rw [if_neg (by omega), if_pos h] at hq
      have hno : atL vals occ = none → refV vals occ attr = badV 7 := fun e => by unfold refV; rw [e]
      have hs1 : ∀ row, atL vals occ = some row → atL row attr = none → refV vals occ attr = badV 7 := fun row e e' => by unfold refV; simp only [e, e']
      have hs2 : ∀ row v, atL vals occ = some row → atL row attr = some v → refV vals occ attr = takenV v := fun row v e e' => by unfold refV; simp only [e, e']
      refine ⟨fun ho => ?_, fun ho => ⟨fun ho2 => ?_, fun ho2 => ⟨fun ho3 => ?_, fun ho3 => ?_⟩⟩⟩
      · rw [hno (if_pos (by simpa using ho))] at hq
        exact n7 H (Le.refl _) hq
      · have ho : ¬ occ < 0 := by simpa using ho
        have ho2 : (vals.length : Int) ≤ occ := by simpa using ho2
        rw [hno (by unfold atL; rw [if_neg ho]; exact List.getElem?_eq_none (by omega))] at hq
        exact n7 H (Le.refl _) hq
      · have ho3 : attr < 0 := by simpa using ho3
        have : refV vals occ attr = badV 7 := by
          cases q : atL vals occ with
          | none => exact hno q
          | some row => exact hs1 row q (if_pos ho3)
        rw [this] at hq
        exact n7 H (Le.refl _) hq
      · have ho : ¬ occ < 0 := by simpa using ho
        have ho2 : occ < (vals.length : Int) := by simpa using ho2
        have ho3 : ¬ attr < 0 := by simpa using ho3
        have hlt : occ.toNat < vals.length := by omega
        have hy : vals[occ.toNat]? = some vals[occ.toNat] := by simp [hlt]
        obtain ⟨b1, o1, a1, c1, ha, hld, hrs⟩ := hv.row _ _ hy
        have hmem := hR vals[occ.toNat] (List.getElem_mem hlt)
        have hrow : atL vals occ = some vals[occ.toNat] := by unfold atL; rw [if_neg ho, hy]
        generalize vals[occ.toNat] = row at *
        refine ⟨⟨by omega, by omega⟩, b1, o1, ha, a1, _, c1, by simpa using hld, fun ho4 => ?_, fun ho4 => ⟨trivial, ⟨by omega, by omega⟩, b1, o1, ha, a1, _, c1, by simpa using hld, ?_⟩⟩
        · have ho4 : (row.length : Int) ≤ attr := by simpa using ho4
          rw [hs1 row hrow (by unfold atL; rw [if_neg ho3]; exact List.getElem?_eq_none (by omega))] at hq
          exact n7 H (Le.refl _) hq
        · have ho4 : attr < (row.length : Int) := by simpa using ho4
          have hlt2 : attr.toNat < row.length := by omega
          have hy2 : row[attr.toNat]? = some row[attr.toNat] := by simp [hlt2]
          obtain ⟨b2, o2, ha2, cy, hld2, hrv2⟩ := RS.get hrs hy2
          have hokv := hmem _ (List.getElem_mem hlt2)
          rw [hs2 row row[attr.toNat] hrow (by unfold atL; rw [if_neg ho3, hy2])] at hq
          rw [taken_ok hokv.toOk] at hq
          have hrv3 := hrv2
          generalize row[attr.toNat] = y at *
          obtain ⟨k1, i1, s1, ly⟩ := y
          obtain ⟨ay, ny, cy', rfl, rfl, hsy, hoy⟩ := hrv2
          exact ⟨⟨by omega, by omega⟩, b2, o2, ha2, _, _, _, _, _, _, by simpa using hld2, trivial, hq _ H (Le.refl _) hrv3⟩
    · have h : op = 2 := by simpa using h
      rw [if_neg (by omega), if_neg (by omega), if_pos h] at hq
      unfold textV at hq
      refine ⟨fun ho => ?_, fun ho => ⟨fun ho2 => ?_, fun ho2 => ?_⟩⟩
      · rw [show atL texts occ = none from if_pos (by simpa using ho)] at hq
        exact n7 H (Le.refl _) hq
      · have ho : ¬ occ < 0 := by simpa using ho
        have ho2 : (texts.length : Int) ≤ occ := by simpa using ho2
        rw [show atL texts occ = none by unfold atL; rw [if_neg ho]; exact List.getElem?_eq_none (by omega)] at hq
        exact n7 H (Le.refl _) hq
      · have ho : ¬ occ < 0 := by simpa using ho
        have ho2 : occ < (texts.length : Int) := by simpa using ho2
        have hlt : occ.toNat < texts.length := by omega
        have hy : texts[occ.toNat]? = some texts[occ.toNat] := by simp [hlt]
        obtain ⟨b1, o1, ha, hld⟩ := ht.row _ _ hy
        have hsz := ht.sz _ (List.getElem_mem hlt)
        rw [show atL texts occ = some texts[occ.toNat] by unfold atL; rw [if_neg ho, hy]] at hq
        generalize texts[occ.toNat] = t at *
        unfold vc15_J2
        refine ⟨fun _ => ⟨⟨by omega, by omega⟩, b1, o1, ha, t, by simpa using hld, c28 ok (v := strV t) leaf ?_ hq.wrap⟩, fun hn => ?_⟩
        · show 1 + t.size / 16 + 0 ≤ 60000
          omega
        · rw [h] at hn; cases hn
    · have h : op = 3 := by simpa using h
      rw [if_neg (by omega), if_neg (by omega), if_neg (by omega), if_pos h] at hq
      unfold numAtV at hq
      refine ⟨fun ho => ?_, fun ho => ⟨fun ho2 => ?_, fun ho2 => ?_⟩⟩
      · rw [show atL texts occ = none from if_pos (by simpa using ho)] at hq
        exact n7 H (Le.refl _) hq
      · have ho : ¬ occ < 0 := by simpa using ho
        have ho2 : (texts.length : Int) ≤ occ := by simpa using ho2
        rw [show atL texts occ = none by unfold atL; rw [if_neg ho]; exact List.getElem?_eq_none (by omega)] at hq
        exact n7 H (Le.refl _) hq
      · have ho : ¬ occ < 0 := by simpa using ho
        have ho2 : occ < (texts.length : Int) := by simpa using ho2
        have hlt : occ.toNat < texts.length := by omega
        have hy : texts[occ.toNat]? = some texts[occ.toNat] := by simp [hlt]
        obtain ⟨b1, o1, ha, hld⟩ := ht.row _ _ hy
        rw [show atL texts occ = some texts[occ.toNat] by unfold atL; rw [if_neg ho, hy]] at hq
        generalize texts[occ.toNat] = t at *
        unfold vc15_J2
        refine ⟨fun hn => ?_, fun _ => ⟨⟨by omega, by omega⟩, b1, o1, ha, t, by simpa using hld, c29 ok hq.wrap⟩⟩
        rw [h] at hn; cases hn
    · have h : op = 12 := by simpa using h
      rw [if_neg (by omega), if_neg (by omega), if_neg (by omega), if_neg (by omega), if_pos h] at hq
      have hn : args.length = 3 := by
        have : argsN op = 3 := by rw [h]; rfl
        omega
      match args, hn with
      | [e0, e1, e2], _ =>
        obtain ⟨b0, o0, hp0, ce0, hl0, hr0⟩ := RES.get (j := 0) hres (by simp : [e0, e1, e2][0]? = some e0)
        obtain ⟨b1, o1, hp1, ce1, hl1, hr1⟩ := RES.get (j := 1) hres (by simp : [e0, e1, e2][1]? = some e1)
        obtain ⟨b2, o2, hp2, ce2, hl2, hr2⟩ := RES.get (j := 2) hres (by simp : [e0, e1, e2][2]? = some e2)
        have s0 := hargs e0 (by simp)
        have s1 := hargs e1 (by simp)
        have s2 := hargs e2 (by simp)
        have hch : chooseV ([e0, e1, e2].map (evalE vals texts d)) = if kV (evalE vals texts d e0) = 7 then evalE vals texts d e0 else if kV (evalE vals texts d e0) = 2 then (if iV (evalE vals texts d e0) = 1 then evalE vals texts d e1 else evalE vals texts d e2) else badV 4 := by
          simp [chooseV]
        rw [hch] at hq
        have hoks := ok_eval vals texts d e0
        have ih0 := ih e0 ce0 vals texts a b c c' H
        have ih1 := fun H' => ih e1 ce1 vals texts a b c c' H'
        have ih2 := fun H' => ih e2 ce2 vals texts a b c c' H'
        have hr0' := hr0
        have hr1' := hr1
        have hr2' := hr2
        obtain ⟨op0, v0, occ0, at0, as0⟩ := e0
        obtain ⟨op1, v1, occ1, at1, as1⟩ := e1
        obtain ⟨op2, v2, occ2, at2, as2⟩ := e2
        obtain ⟨k0, i0, t0, av0, nv0, cv0, aa0, ca0, rfl, _, _⟩ := hr0
        obtain ⟨k1, i1, t1, av1, nv1, cv1, aa1, ca1, rfl, _, _⟩ := hr1
        obtain ⟨k2, i2, t2, av2, nv2, cv2, aa2, ca2, rfl, _, _⟩ := hr2
        refine ⟨⟨by omega, by simp⟩, b0, o0, hp0, _, _, _, _, _, _, _, _, _, _, _, _, by simpa using hl0, ih0 _ hr0' s0 hv hR ht fun cs H' hle hrv => ?_⟩
        have hrv' := hrv
        generalize evalE vals texts d (.mk op0 v0 occ0 at0 as0) = w at *
        obtain ⟨kw, iw, sw, lw⟩ := w
        obtain ⟨aw, nw, cw, rfl, rfl, hlw, hokw⟩ := hrv
        have hk : kV (.mk kw iw sw lw) = kw := rfl
        have hi : iV (.mk kw iw sw lw) = iw := rfl
        rw [hk, hi] at hq
        refine ⟨_, _, _, _, _, _, rfl, fun h7 => ?_, fun h7 => ⟨fun h2 => ?_, fun h2 => ⟨fun h1 => ?_, fun h1 => ?_⟩⟩⟩
        · rw [if_pos (by simpa using h7)] at hq
          exact hq _ H' hle hrv'
        · rw [if_neg (by simpa using h7), if_neg (by simpa using h2)] at hq
          exact c27 ok (hq.mono hle).wrap
        · have h2 : kw = 2 := by simpa using h2
          have h1 : iw ≠ 0 := by simpa using h1
          have hf := hoks.fit
          rw [h2] at hf
          simp only [fitV] at hf
          simp at hf
          rw [if_neg (by simpa using h7), if_pos h2, if_pos (by omega)] at hq
          exact ⟨⟨by omega, by simp⟩, b1, o1, hp1, _, _, _, _, _, _, _, _, _, _, _, _, by simpa using hle.ld hl1, ih1 H' _ (hr1'.mono hle) s1 (hv.mono hle) hR (ht.mono hle) (hq.mono hle).wrap⟩
        · have h2 : kw = 2 := by simpa using h2
          have h1 : iw = 0 := by simpa using h1
          rw [if_neg (by simpa using h7), if_pos h2, if_neg (by omega)] at hq
          exact ⟨⟨by omega, by simp⟩, b2, o2, hp2, _, _, _, _, _, _, _, _, _, _, _, _, by simpa using hle.ld hl2, ih2 H' _ (hr2'.mono hle) s2 (hv.mono hle) hR (ht.mono hle) (hq.mono hle).wrap⟩
    · have n0 : ¬ op = 0 := by simpa using n0
      have n1 : ¬ op = 1 := by simpa using n1
      have n2 : ¬ op = 2 := by simpa using n2
      have n3 : ¬ op = 3 := by simpa using n3
      have n12 : ¬ op = 12 := by simpa using n12
      rw [if_neg n0, if_neg n1, if_neg n2, if_neg n3, if_neg n12] at hq
      obtain ⟨t1, t2, t3, t4⟩ := takes_len htk n0 n1 n2 n3
      exact l15 ok ih hres hargs hv hR ht (by omega) (fun h => by have := t1 h; omega) (fun h => by have := t2 (.inl h); omega) (fun h => by have := t3 ⟨h.1, h.2.1, h.2.2.1, h.2.2.2.1, h.2.2.2.2.1, h.2.2.2.2.2, n12⟩; omega) (by omega) hq
end
end Va
end Go.Proofs.YtlemdiinmfneoaaGreat
