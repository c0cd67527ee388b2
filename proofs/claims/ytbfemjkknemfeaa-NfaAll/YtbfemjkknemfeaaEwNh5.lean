import Derived.Test.YtbfemjkknemfeaaEwNh4
set_option linter.unusedVariables false
set_option linter.unusedSimpArgs false
namespace Go.Ew
open Go.Ev Go.Deep

theorem SsN.up {X Y : KH} (hl : Le X Y) {S : List St} {a : OA} (h : SsN X S a) : SsN Y S a := by
  obtain ⟨cs, h1, h2⟩ := h
  exact ⟨cs, hl.kold h1, h2.mono hl⟩
theorem has1 {l : List It} {s : ByteArray} {j : Nat} : Has [l] s 0 j ↔ Mt s (treeD l) 0 j := by
  constructor
  · rintro ⟨l', h1, h2⟩
    have : l = l' := by simpa using h1
    subst this
    exact h2
  · intro h
    exact ⟨l, rfl, h⟩

theorem LgSpec.single {l : List It} {s : ByteArray} {n k j : Nat} (g : LgSpec (Has [l] s) n (((k : Nat) : Int), ((j : Nat) : Int), decide (0 < j))) : (∀ j', j < j' → j' ≤ n → ¬ Mt s (treeD l) 0 j') ∧ (0 < j → Mt s (treeD l) 0 j) ∧ j ≤ n := by
  generalize hr : ((((k : Nat) : Int), ((j : Nat) : Int), decide (0 < j)) : Int × Int × Bool) = r at g
  cases g with
  | no h =>
    have hm : j = 0 := by
      have := congrArg (fun x => x.2.1) hr
      simp at this; omega
    subst hm
    exact ⟨fun j' h1 h2 hh => h 0 j' (by omega) h2 (has1.2 hh), fun q => by omega, by omega⟩
  | yes k2 j2 h1 h2 h3 h4 h5 =>
    have e2 : j = j2 := by have := congrArg (fun x => x.2.1) hr; simp at this; omega
    subst e2
    have hk0 : k2 = 0 := by
      obtain ⟨l', hk', _⟩ := h3
      rcases Nat.eq_zero_or_pos k2 with q | q
      · exact q
      · rw [List.getElem?_eq_none (by simp; omega)] at hk'; cases hk'
    subst hk0
    exact ⟨fun j' q1 q2 hh => h4 0 j' q1 q2 (has1.2 hh), fun _ => has1.1 h3, h2⟩

theorem LgSpec.allOf {pats : List (List It)} {s : ByteArray} {n : Nat} {r : Int × Int × Bool} (h : LgSpec (HasTo pats s pats.length) n r) : LgSpec (Has pats s) n r := by
  have hk : ∀ k j, Has pats s k j → HasTo pats s pats.length k j := fun k j ⟨l, z, q⟩ => by
    refine ⟨?_, l, z, q⟩
    rcases Nat.lt_or_ge k pats.length with u | u
    · exact u
    · rw [List.getElem?_eq_none u] at z; cases z
  cases h with
  | no h => exact .no fun k j h1 h2 hh => h k j h1 h2 (hk k j hh)
  | yes k j h1 h2 h3 h4 h5 => exact .yes k j h1 h2 h3.2 (fun k' j' q1 q2 hh => h4 k' j' q1 q2 (hk k' j' hh)) fun k' hk' hh => h5 k' hk' (hk k' j hh)

theorem first_at {n i : Nat} (hn : 0 < n) : ((List.replicate n false).set 0 true)[i]? = some true ↔ i = 0 := by
  by_cases h : i = 0
  · subst h
    rw [List.getElem?_set_self (by simpa using hn)]
    simp
  · rw [List.getElem?_set_ne (fun z => h z.symm), List.getElem?_replicate]
    constructor
    · intro q; split at q <;> simp at q
    · intro q; exact absurd q h
end Go.Ew

namespace Go.Proofs.Ytbfemjkknemfeaa
open Go.Ev Go.Ew
namespace Va
section
variable (ok : EnvOk (env Try.prog))
include ok

theorem c33p {s : ByteArray} (hs : s.size ≤ 100) {l : List It} (hg : GoodP l) {a b : OA} {c d : Nat} {f : List Bool} {H : KH} {Q : PQ} (hi : ItR H l a) (ho : SlOk H 2 a l.length c) (hf : BR H f b) (hfl : f.length = s.size + 1)
    (hq : ∀ r a' c' H', Le H H' → BR H' r a' → EndsR s (treeD l) f r → Q (.slice a' (s.size + 1) c') H') : Does (env Try.prog) 33 [.slice a l.length c, .string s, .slice b (s.size + 1) d] H Q := by
  have hit := hg.it
  have hln := hg.ln
  have h : Ends33 s (treeD l) := c33 ok hs (treeD l) (fit_of _ (by rw [hg.it]; exact hg.rg)) (by rw [hit]; omega)
  unfold Ends33 at h
  rw [hit] at h
  exact h hi ho hf hfl hq

theorem c14 {pats : List (List It)} (hpar : ∀ l ∈ pats, ∃ s, parseR s = some l) (hp : pats.length ≤ 50) {a : OA} {c : Nat} {s : ByteArray} {H : KH} {Q : PQ} (hP : PtR H pats a) (hs : s.size ≤ 100)
    (hq : ∀ (k j : Nat) H', Le H H' → LgSpec (Has pats s) s.size (((k : Nat) : Int), ((j : Nat) : Int), decide (0 < j)) → Q (.tuple #[.int .i64 ((k : Nat) : Int), .int .i64 ((j : Nat) : Int), .bool (decide (0 < j))]) H') : Does (env Try.prog) 14 [.slice a pats.length c, .string s] H Q := by
  obtain ⟨g1, g2, g3⟩ := good_of hpar
  obtain ⟨cs, hc, hcs⟩ := hP
  have ew : IntKind.wrap .i64 (((s.size : Nat) : Int) + 1) = ((s.size + 1 : Nat) : Int) := by rw [wrap64 (by omega) (by omega)]; omega
  refine fn14 ok ?_
  unfold vc14 vc14_L3
  refine ⟨fun n3 a4 n5 n6 s7 x8 x9 x10 H11 => a4 = a ∧ n5 = pats.length ∧ s7 = s ∧ Le H H11 ∧ ∃ (i kind most : Nat), x10 = i ∧ i ≤ pats.length ∧ n3 = pats.length - i ∧ x8 = kind ∧ x9 = most ∧ most ≤ s.size ∧ LgSpec (HasTo pats s i) s.size (((kind : Nat) : Int), ((most : Nat) : Int), decide (0 < most)),
    ⟨pats.length, rfl, rfl, rfl, Le.refl _, 0, 0, 0, rfl, by omega, rfl, rfl, rfl, by omega, .no fun k j _ _ hh => by have := hh.1; omega⟩, ?_⟩
  rintro n3 a4 n5 n6 s7 x8 x9 x10 H11 ⟨rfl, rfl, rfl, hle, i, kind, most, rfl, hi, rfl, rfl, rfl, hmost, hspec⟩
  refine ⟨fun hlt => ?_, fun hge => ?_⟩
  · have hlt : i < pats.length := by have := of_decide_eq_true hlt; omega
    have hpi : pats[i]? = some pats[i] := by simp [hlt]
    have hmem := List.getElem_mem hlt
    have e0 : Int.toNat ((i : Nat) : Int) = i := by omega
    rw [ew, Int.toNat_natCast, e0]
    refine ⟨⟨by omega, by omega, by omega⟩, fun n1 h1 => ?_⟩
    have hw := BW.new (n := s7.size + 1) h1
    have hl0 : 0 < (List.replicate (s7.size + 1) false).length := by simp
    have hw2 := hw.put hl0 true
    have hH := hle.trans hw2.le
    obtain ⟨ai, ci, q1, q2, q3⟩ := hcs.get2 hpi
    obtain ⟨b1, o1, e1, r1⟩ := rowAddr (hH.kold hc) (by omega)
    have r2 := r1 (i * 1) 1 (by omega)
    have e2 : (cs.drop (i * 1)).take 1 = [.slice ai pats[i].length ci] := dropTake rfl fun j hj => by
      match j, hj with
      | 0, _ => simpa using q1
    rw [e2] at r2
    refine ⟨⟨by omega, by omega⟩, n1, 0, rfl, ⟨[.bool ((List.replicate (s7.size + 1) false)[0]'hl0)], rfl, hw.ld hl0⟩, hw.may, ⟨by omega, by omega⟩, b1, o1, e1, ai, _, ci, r2, c33p ok hs (g1 _ hmem) (q2.mono hH) (q3.mono hH) hw2.br (by simp) fun r a12 c14' H11' l11 br er => ⟨a12, _, c14', rfl, ?_⟩⟩
    have hrj : ∀ j, j ≤ s7.size → (r[j]? = some true ↔ Mt s7 (treeD pats[i]) 0 j) := fun j hj => by
      rw [er.is j hj]
      constructor
      · rintro ⟨i', z1, z2⟩
        have := (first_at (by omega)).1 z1
        subst this
        exact z2
      · intro z
        exact ⟨0, (first_at (by omega)).2 rfl, z⟩
    -- the longest of this one
    obtain ⟨k1, j1, hr1, hj1⟩ := (nfaL_spec (pats := [pats[i]]) (fun l hl => by
      have : l = pats[i] := by simpa using hl
      rw [this]; exact g3 _ hmem) (by simp) (s := s7) (by omega)).sh
    have hsp1 := nfaL_spec (pats := [pats[i]]) (fun l hl => by
      have : l = pats[i] := by simpa using hl
      rw [this]; exact g3 _ hmem) (by simp) (s := s7) (by omega)
    rw [hr1] at hsp1
    obtain ⟨t1, t2, t3⟩ := hsp1.single
    obtain ⟨s1, s2⟩ := each_step hpi hspec hsp1
    have wi : IntKind.wrap .i64 (((i : Nat) : Int) + 1) = ((i + 1 : Nat) : Int) := by rw [wrap64 (by omega) (by omega)]; omega
    unfold vc14_L1
    refine ⟨fun m3 b4 m5 m6 t7 y8 y9 y10 b11 m12 m13 y14 H15 => b4 = a4 ∧ m5 = pats.length ∧ t7 = s7 ∧ y10 = (i : Nat) ∧ b11 = a12 ∧ m12 = s7.size + 1 ∧ H15 = H11' ∧ ((∃ j : Nat, y14 = j ∧ j = m3 ∧ j ≤ s7.size ∧ most ≤ j ∧ y8 = kind ∧ y9 = most ∧ ∀ j', j < j' → j' ≤ s7.size → ¬ Mt s7 (treeD pats[i]) 0 j') ∨ (y8 = (i : Nat) ∧ y9 = (j1 : Nat) ∧ most < j1 ∧ y14 = (j1 : Nat) - 1)),
      ⟨s7.size, rfl, rfl, rfl, rfl, rfl, rfl, rfl, .inl ⟨s7.size, rfl, rfl, by omega, hmost, rfl, rfl, fun j' z1 z2 => by omega⟩⟩, ?_⟩
    rintro m3 b4 m5 m6 t7 y8 y9 y10 b11 m12 m13 y14 H15 ⟨rfl, rfl, rfl, rfl, rfl, rfl, rfl, hst⟩
    refine ⟨fun hlt2 => ?_, fun hge2 => ?_⟩
    · have hlt2 := of_decide_eq_true hlt2
      rcases hst with ⟨j, rfl, rfl, hj, hmj, rfl, rfl, hno⟩ | ⟨rfl, rfl, z3, rfl⟩
      · have hjr : j < r.length := by rw [er.len]; omega
        have ej : Int.toNat ((j : Nat) : Int) = j := by omega
        have wj : IntKind.wrap .i64 (((j : Nat) : Int) - 1) = ((j - 1 : Nat) : Int) := by rw [wrap64 (by omega) (by omega)]; omega
        obtain ⟨b2, o2, e3, g4⟩ := br.at_ hjr
        rw [ej, wj]
        refine ⟨⟨by omega, by omega⟩, b2, o2, e3, r[j], g4, fun hb => ?_, fun hb => ?_⟩
        · have hM : Mt t7 (treeD pats[i]) 0 j := (hrj j hj).1 (by rw [List.getElem?_eq_getElem hjr, hb])
          have hjj : j = j1 := by
            rcases Nat.lt_trichotomy j j1 with u | u | u
            · exact absurd (t2 (by omega)) (hno j1 u hj1)
            · exact u
            · exact absurd hM (t1 j u hj)
          subst hjj
          exact ⟨j - 1, by omega, rfl, rfl, rfl, rfl, rfl, rfl, rfl, .inr ⟨rfl, rfl, by omega, by omega⟩⟩
        · have hM : ¬ Mt t7 (treeD pats[i]) 0 j := fun z => by
            have := (hrj j hj).2 z
            rw [List.getElem?_eq_getElem hjr, hb] at this
            cases this
          exact ⟨j - 1, by omega, rfl, rfl, rfl, rfl, rfl, rfl, rfl, .inl ⟨j - 1, rfl, rfl, by omega, by omega, rfl, rfl, fun j' z1 z2 => by
            rcases Nat.lt_or_ge j j' with u | u
            · exact hno j' u z2
            · have : j' = j := by omega
              rw [this]; exact hM⟩⟩
      · omega
    · have hge2 := of_decide_eq_false hge2
      rw [wi]
      rcases hst with ⟨j, rfl, rfl, hj, hmj, rfl, rfl, hno⟩ | ⟨rfl, rfl, z3, rfl⟩
      · have hjm : j1 ≤ most := by
          rcases Nat.lt_or_ge most j1 with u | u
          · exact absurd (t2 (by omega)) (hno j1 (by omega) hj1)
          · exact u
        exact ⟨pats.length - (i + 1), by omega, rfl, rfl, rfl, hH.trans l11, i + 1, kind, most, rfl, by omega, rfl, rfl, rfl, hmost, s2 hjm⟩
      · exact ⟨pats.length - (i + 1), by omega, rfl, rfl, rfl, hH.trans l11, i + 1, i, j1, rfl, by omega, rfl, rfl, rfl, hj1, s1 z3⟩
  · have hge : i = pats.length := by have := of_decide_eq_false hge; omega
    subst hge
    have := hq kind most H11 hle hspec.allOf
    have hd : decide ((0 : Int) < ((most : Nat) : Int)) = decide (0 < most) := by rw [Bool.eq_iff_iff]; simp
    rw [hd]
    exact this

theorem c3 {a b : OA} {n m c d : Nat} {p2 : ByteArray} {H : KH} (h0 : U8 H a n) (h1 : U8 H b m) : Does (env Try.prog) 3 [.slice a n c, .slice b m d, .string p2] H fun v _ => v = .bool true := by
  refine fn3 ok (c9 ⟨true, rfl, fun h => (by cases h), fun _ => ⟨fun _ => rfl, fun l0 => ⟨fun _ => rfl, fun l1 => ⟨fun _ => rfl, fun l2 => ?_⟩⟩⟩⟩)
  have l0 : n ≤ 60 := by have := of_decide_eq_false l0; omega
  have l1 : m ≤ 15 := by have := of_decide_eq_false l1; omega
  have l2 : p2.size ≤ 12 := by have := of_decide_eq_false l2; omega
  refine c10 ok h0 (by omega) fun pats a' c' X H2 cs hpl hpar hHX hX hG hP hout => ⟨_, _, _, rfl, ?_⟩
  have hPR : PtR H2 pats a' := ⟨cs, hG.row, hP.mono hX⟩
  refine c11p ok hPR hpar (by omega) fun a8 c10 H7 hl7 hst => ⟨_, _, _, rfl, c12 ok (h1.mono ((hHX.trans hX).trans hl7)) (by omega) fun s H12 hsz _ hl12 => ⟨s, rfl, fun nw hnw => ?_⟩⟩
  have hst12 := SsN.up hl12 hst
  have hPR12 := hPR.mono (hl7.trans hl12)
  have hln := Le.new (e := mkEnt [Value.string s, Value.string p2] 0) hnw
  have hrow : kold (H12.new nw (mkEnt [Value.string s, Value.string p2] 0)) 1 (some ⟨nw, 0, none⟩) 2 = some [.string s, .string p2] := lit_kold (if_pos rfl) rfl
  unfold vc3_L1
  refine ⟨fun n3 a4 n5 n6 a7 n8 n9 a10 n11 n12 x13 H14 => a4 = a' ∧ n5 = pats.length ∧ n6 = c' ∧ a7 = a8 ∧ n8 = (nfaM pats).length ∧ n9 = c10 ∧ a10 = some ⟨nw, 0, none⟩ ∧ n11 = 2 ∧ Le (H12.new nw (mkEnt [Value.string s, Value.string p2] 0)) H14 ∧ ∃ i : Nat, x13 = i ∧ i ≤ 2 ∧ n3 = 2 - i,
    ⟨2, rfl, rfl, rfl, rfl, rfl, rfl, rfl, rfl, Le.refl _, 0, rfl, by omega, rfl⟩, ?_⟩
  rintro n3 a4 n5 n6 a7 n8 n9 a10 n11 n12 x13 H14 ⟨rfl, rfl, rfl, rfl, rfl, rfl, rfl, rfl, hle, i, rfl, hi, rfl⟩
  refine ⟨fun hlt => ?_, fun hge => rfl⟩
  have hlt : i < 2 := by have := of_decide_eq_true hlt; omega
  have e0 : Int.toNat ((i : Nat) : Int) = i := by omega
  have wi : IntKind.wrap .i64 (((i : Nat) : Int) + 1) = ((i + 1 : Nat) : Int) := by rw [wrap64 (by omega) (by omega)]; omega
  rw [e0, wi]
  obtain ⟨b1, o1, e1, r1⟩ := rowAddr hrow (by omega)
  have hw : ∃ w : ByteArray, w.size ≤ 100 ∧ ([Value.string s, Value.string p2].drop (i * 1)).take 1 = [.string w] := by
    rcases Nat.lt_or_ge i 1 with u | u
    · have : i = 0 := by omega
      subst this
      exact ⟨s, by omega, rfl⟩
    · have : i = 1 := by omega
      subst this
      exact ⟨p2, by omega, rfl⟩
  obtain ⟨w, hws, hwe⟩ := hw
  have g1 := r1 (i * 1) 1 (by omega)
  rw [hwe] at g1
  refine ⟨⟨by omega, by omega⟩, b1, o1, e1, w, Le.ld hle g1, c13p ok hpar (by omega) (SsN.up (hln.trans hle) hst12) (by omega) fun k j H5 hl5 hsp hj => ⟨_, _, _, rfl, ⟨by omega, by omega⟩, b1, o1, e1, w, Le.ld (hle.trans hl5) g1, c14 ok hpar (by omega) (hPR12.mono ((hln.trans hle).trans hl5)) hws fun k2 j2 H13 hl13 hsp2 => ⟨_, _, _, rfl, ?_⟩⟩⟩
  have hsame := hsp.same hsp2
  injection hsame with s1 s2
  injection s2 with s2 s3
  rw [← s1, ← s2, ← s3]
  have hgo : ∃ n17 : Nat, n17 < 2 - i ∧ (a4 = a4 ∧ pats.length = pats.length ∧ n6 = n6 ∧ a7 = a7 ∧ (nfaM pats).length = (nfaM pats).length ∧ n9 = n9 ∧ (some ⟨nw, 0, none⟩ : OA) = some ⟨nw, 0, none⟩ ∧ 2 = 2 ∧ Le (H12.new nw (mkEnt [Value.string s, Value.string p2] 0)) H13 ∧ ∃ i' : Nat, ((i + 1 : Nat) : Int) = i' ∧ i' ≤ 2 ∧ n17 = 2 - i') :=
    ⟨2 - (i + 1), by omega, rfl, rfl, rfl, rfl, rfl, rfl, rfl, rfl, hle.trans (hl5.trans hl13), i + 1, rfl, by omega, rfl⟩
  have hk0 : decide (0 < j) = false → ((k : Nat) : Int) = 0 := fun q => by
    rw [q] at hsp
    cases hsp with
    | no h => rfl
  refine ⟨fun q => by simp at q, fun _ => ⟨fun q => by simp at q, fun _ => ⟨fun hb => ⟨fun q => by simp at q, fun _ => ⟨fun q => (by rw [hb] at q; cases q), fun _ => hgo⟩⟩, fun hb => ⟨fun _ => ⟨fun q => ?_, fun _ => hgo⟩, fun _ => hgo⟩⟩⟩⟩
  have := of_decide_eq_true q
  exact absurd (hk0 hb) this
end
end Va
end Go.Proofs.Ytbfemjkknemfeaa
