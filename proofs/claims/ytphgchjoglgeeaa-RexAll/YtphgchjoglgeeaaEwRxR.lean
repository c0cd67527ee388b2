/- A pattern that is made. -/
import Derived.Test.YtphgchjoglgeeaaEwRxP
import Derived.Test.YtphgchjoglgeeaaEwRxS
set_option linter.unusedVariables false
set_option linter.unusedSimpArgs false
namespace Go.Ew
open Go.Ev Go.Deep

theorem hide2 {H : KH} {n1 n2 : Nat} {A B : Ent} (h1 : H n1 = none) (h2 : H n2 = none) : hideK ((H.new n1 A).new n2 B) [n2, n1] = H := by
  funext k
  simp only [hideK, KH.del, KH.new]
  by_cases e2 : k = n2
  · subst e2; simp [h2]
  · by_cases e1 : k = n1
    · subst e1; simp [e2, h1]
    · simp [e1, e2]

theorem back2 {H K : KH} {n1 n2 : Nat} {A B : Ent} (hn : n1 ≠ n2) : backK ((H.new n1 A).new n2 B) K [n2, n1] = (K.new n1 A).new n2 B := by
  funext k
  simp only [backK, KH.new]
  by_cases e2 : k = n2
  · subst e2; simp
  · by_cases e1 : k = n1
    · subst e1; simp [e2, hn]
    · simp [e1, e2]

theorem new_comm {H : KH} {a b : Nat} {x y : Ent} (h : a ≠ b) : (H.new a x).new b y = (H.new b y).new a x := by
  funext k
  simp only [KH.new]
  by_cases e1 : k = a
  · subst e1; simp [h]
  · by_cases e2 : k = b
    · subst e2; simp [e1]
    · simp [e1, e2]

theorem PK.more {K H : KH} {p n : Nat} {e' : Ent} (h : PK K p H) (hn : H n = none) : PK (K.new n e') p (H.new n e') := by
  obtain ⟨h1, e, a, m, c, j, rfl, h2, h3, h4, h5, h6⟩ := h
  have hnp : n ≠ p := fun x => by subst x; simp [KH.new] at hn
  have hKn : K n = none := by simpa [KH.new, hnp] using hn
  refine ⟨by simp only [KH.new]; rw [if_neg (Ne.symm hnp)]; exact h1, e, a, m, c, j, new_comm (Ne.symm hnp), h2, h3, h4, h5, h6.mono (Le.new hKn)⟩

theorem litAt {H : KH} {n j : Nat} {cs : List Value} {v : Value} (h : H n = some (mkEnt cs 0)) (hj : cs[j]? = some v) : ld H ⟨n, 0 + j * 1, none⟩ [v] := by
  refine ⟨rfl, _, h, rd_some rfl fun i w hw => ?_⟩
  match i, hw with
  | 0, hw =>
    have : v = w := by simpa using hw
    subst this
    simp only [mkEnt, tget_wr_nil]
    simpa using hj
  | i + 1, hw => simp at hw

abbrev atomsV : List Value := [.string (ByteArray.mk #[97]), .string (ByteArray.mk #[98]), .string (ByteArray.mk #[91, 97, 98, 93]), .string (ByteArray.mk #[97, 98]), .string (ByteArray.mk #[40, 97, 124, 98, 41]), .string (ByteArray.mk #[91, 97, 45, 99, 48, 45, 49, 93]), .string (ByteArray.mk #[40, 97, 98, 124, 97, 41]), .string (ByteArray.mk #[46]), .string (ByteArray.mk #[92, 43])]
abbrev sufsV : List Value := [.string (ByteArray.mk #[]), .string (ByteArray.mk #[]), .string (ByteArray.mk #[42]), .string (ByteArray.mk #[43]), .string (ByteArray.mk #[63])]
abbrev orsV : List Value := [.string (ByteArray.mk #[98]), .string (ByteArray.mk #[98, 97]), .string (ByteArray.mk #[99, 43])]

/-- Both. -/
def Adv2 (l : List Int) : Prop := Adv l ∧ AdvE l
def Suf2 (l : List Int) : Prop := Suf l ∧ SufE l
theorem Adv2.suf {l m : List Int} (h : Adv2 l) (k : Suf2 m) : Adv2 (l ++ m) := ⟨h.1.suf k.1, h.2.suf k.2⟩
theorem Adv2.toSuf {l : List Int} (h : Adv2 l) : Suf2 l := ⟨h.1.toSuf, h.2.toSuf⟩

theorem atom_at {x : Int} (h0 : 0 ≤ x) (h1 : x < 9) : ∃ s : ByteArray, atomsV[x.toNat]? = some (.string s) ∧ Adv2 (bytesI s) ∧ 1 ≤ s.size ∧ s.size ≤ 8 := by
  have : x.toNat = 0 ∨ x.toNat = 1 ∨ x.toNat = 2 ∨ x.toNat = 3 ∨ x.toNat = 4 ∨ x.toNat = 5 ∨ x.toNat = 6 ∨ x.toNat = 7 ∨ x.toNat = 8 := by omega
  rcases this with q | q | q | q | q | q | q | q | q <;> rw [q]
  · exact ⟨_, rfl, ⟨adv_a, ade_a⟩, by decide, by decide⟩
  · exact ⟨_, rfl, ⟨adv_b, ade_b⟩, by decide, by decide⟩
  · exact ⟨_, rfl, ⟨adv_c1, ade_c1⟩, by decide, by decide⟩
  · exact ⟨_, rfl, ⟨adv_ab, ade_ab⟩, by decide, by decide⟩
  · exact ⟨_, rfl, ⟨adv_g1, ade_g1⟩, by decide, by decide⟩
  · exact ⟨_, rfl, ⟨adv_c2, ade_c2⟩, by decide, by decide⟩
  · exact ⟨_, rfl, ⟨adv_g2, ade_g2⟩, by decide, by decide⟩
  · exact ⟨_, rfl, ⟨adv_dot, ade_dot⟩, by decide, by decide⟩
  · exact ⟨_, rfl, ⟨adv_plus, ade_plus⟩, by decide, by decide⟩
theorem suf_at {x : Int} (h0 : 0 ≤ x) (h1 : x < 5) : ∃ s : ByteArray, sufsV[x.toNat]? = some (.string s) ∧ Suf2 (bytesI s) ∧ s.size ≤ 1 := by
  have : x.toNat = 0 ∨ x.toNat = 1 ∨ x.toNat = 2 ∨ x.toNat = 3 ∨ x.toNat = 4 := by omega
  rcases this with q | q | q | q | q <;> rw [q]
  · exact ⟨_, rfl, ⟨Suf.nil, SufE.nil⟩, by decide⟩
  · exact ⟨_, rfl, ⟨Suf.nil, SufE.nil⟩, by decide⟩
  · exact ⟨_, rfl, ⟨suf_star, sue_star⟩, by decide⟩
  · exact ⟨_, rfl, ⟨suf_plus, sue_plus⟩, by decide⟩
  · exact ⟨_, rfl, ⟨suf_may, sue_may⟩, by decide⟩
theorem or_at {x : Int} (h0 : 0 ≤ x) (h1 : x < 3) : ∃ s : ByteArray, orsV[x.toNat]? = some (.string s) ∧ Suf2 (124 :: bytesI s) ∧ s.size ≤ 2 := by
  have : x.toNat = 0 ∨ x.toNat = 1 ∨ x.toNat = 2 := by omega
  rcases this with q | q | q <;> rw [q]
  · exact ⟨_, rfl, ⟨suf_or1, sue_or1⟩, by decide⟩
  · exact ⟨_, rfl, ⟨suf_or2, sue_or2⟩, by decide⟩
  · exact ⟨_, rfl, ⟨suf_or3, sue_or3⟩, by decide⟩

theorem size_app (a b : ByteArray) : (a ++ b).size = a.size + b.size := ByteArray.size_append
end Go.Ew

namespace Go.Proofs.Ytphgchjoglgeeaa
open Go.Ev Go.Ew
namespace Va
section
variable (ok : EnvOk (env Try.prog))
include ok

theorem c8 {K H : KH} {p : Nat} {Q : Value → KH → Prop} (hp : PK K p H) (hq : ∀ s K' H', (∃ l, parseR s = some l) → Adv2 (bytesI s) → 1 ≤ s.size ∧ s.size ≤ 24 → Le K K' → PK K' p H' → Q (.string s) H') : Does (env Try.prog) 8 [.pointer (some ⟨p, 0, none⟩)] H Q := by
  refine fn8 ok (c12 ok hp (by omega) (by omega) fun x3 H2 hx0 hx1 hp2 => ⟨_, rfl, ?_⟩)
  have hw : IntKind.wrap .i64 (x3 + 1) = x3 + 1 := wrap64 (by omega) (by omega)
  unfold vc8_L2
  have fin : ∀ {s : ByteArray} {K' H' : KH}, Adv2 (bytesI s) → 1 ≤ s.size → Le K K' → PK K' p H' → (decide ((24 : Int) < ((s.size : Nat) : Int)) = true → Q (.string (ByteArray.mk #[97])) H') ∧ (decide ((24 : Int) < ((s.size : Nat) : Int)) = false → Q (.string s) H') := by
    intro s K' H' ha h1 hl hk
    refine ⟨fun _ => ?_, fun h => ?_⟩
    · have hA : Adv2 (bytesI (ByteArray.mk #[97])) := ⟨adv_a, ade_a⟩
      exact hq _ K' H' (adv_parse hA.1 (by decide) (by decide)) hA ⟨by decide, by decide⟩ hl hk
    · have h := of_decide_eq_false h
      exact hq _ K' H' (adv_parse ha.1 h1 (by omega)) ha ⟨h1, by omega⟩ hl hk
  refine ⟨fun m n4 n5 s6 x7 H8 => n4 = p ∧ n5 = 0 ∧ x7 = (m : Nat) ∧ m ≤ 3 ∧ s6.size ≤ 9 * (3 - m) ∧ ∃ K', PK K' p H8 ∧ Le K K' ∧ ((1 ≤ m ∧ s6 = ByteArray.mk #[]) ∨ (Adv2 (bytesI s6) ∧ 1 ≤ s6.size)), ⟨(x3 + 1).toNat, rfl, rfl, rfl, by rw [hw]; omega, by omega, by show (0 : Nat) ≤ _; omega, K, hp2, Le.refl _, .inl ⟨by omega, rfl⟩⟩, ?_⟩
  rintro m n4 n5 s6 x7 H8 ⟨rfl, rfl, rfl, hm, hsz, K', hpk, hle, hs⟩
  refine ⟨fun hlt => ⟨trivial, fun n1 hn1 n2 hn2 => ?_⟩, fun hge => ?_⟩
  · have hlt : 0 < m := by have := of_decide_eq_true hlt; omega
    have hn12 : n1 ≠ n2 := fun x => by subst x; simp [KH.new] at hn2
    have hH2 : H8 n2 = none := by simpa [KH.new, Ne.symm hn12] using hn2
    have hb := fun K0 : KH => back2 (H := H8) (K := K0) (A := mkEnt atomsV 0) (B := mkEnt sufsV 0) hn12
    rw [hide2 hn1 hH2]
    refine c12 ok hpk (by omega) (by omega) fun x5 H4 h50 h51 hp4 => ⟨_, rfl, fun a2 a1 => ⟨⟨rfl, rfl, trivial⟩, ⟨by omega, by omega⟩, n1, 0, rfl, ?_⟩⟩
    obtain ⟨s8, t1, t2, t3, t4⟩ := atom_at h50 h51
    have hb2 := fun K0 : KH => back2 (H := H4) (K := K0) (A := mkEnt atomsV 0) (B := mkEnt sufsV 0) hn12
    rw [hb H4, hide2 a1 a2]
    have l1 : ∀ K0 : KH, ld ((K0.new n1 (mkEnt atomsV 0)).new n2 (mkEnt sufsV 0)) ⟨n1, 0 + x5.toNat * 1, none⟩ [.string s8] := fun K0 => litAt (cs := atomsV) (by simp [KH.new, hn12]) t1
    refine ⟨s8, l1 H4, by omega, c12 ok hp4 (by omega) (by omega) fun x11 H10 h110 h111 hp10 => ⟨_, rfl, fun b2 b1 => ?_⟩⟩
    rw [hb2 H10]
    obtain ⟨s17, u1, u2, u3⟩ := suf_at h110 h111
    have l2 : ld ((H10.new n1 (mkEnt atomsV 0)).new n2 (mkEnt sufsV 0)) ⟨n2, 0 + x11.toNat * 1, none⟩ [.string s17] := litAt (cs := sufsV) (by simp [KH.new]) u1
    have hsz2 := size_app s6 s8
    have hsz3 := size_app (s6 ++ s8) s17
    refine ⟨⟨rfl, ⟨⟨by omega, by omega⟩, n1, 0, rfl, rfl⟩, ⟨s8, l1 H10, rfl⟩, ⟨by omega, rfl⟩, trivial⟩, ⟨by omega, by omega⟩, n2, 0, rfl, s17, l2, by omega, m - 1, by omega, rfl, rfl, rfl, by rw [wrap64 (by omega) (by omega)]; omega, by omega, by omega, (K'.new n1 (mkEnt atomsV 0)).new n2 (mkEnt sufsV 0), (hp10.more b1).more (by simp [KH.new, Ne.symm hn12, b2]), ?_, .inr ⟨?_, by omega⟩⟩
    · have k1 : K' n1 = none := hpk.le.none hn1
      have k2 : K' n2 = none := hpk.le.none hH2
      exact (hle.trans (Le.new k1)).trans (Le.new (by simp [KH.new, Ne.symm hn12, k2]))
    · rw [bytes_app, bytes_app]
      rcases hs with ⟨_, rfl⟩ | ⟨hs, _⟩
      · have : bytesI (ByteArray.mk #[]) = [] := rfl
        rw [this, List.nil_append]
        exact t2.suf u2
      · exact (hs.suf t2.toSuf).suf u2
  · have hm0 : m = 0 := by have := of_decide_eq_false hge; omega
    subst hm0
    have hs : Adv2 (bytesI s6) ∧ 1 ≤ s6.size := by
      rcases hs with ⟨h, _⟩ | h
      · omega
      · exact h
    refine c12 ok hpk (by omega) (by omega) fun x3 H3 h30 h31 hp3 => ⟨_, rfl, fun h1 => ⟨fun h2 => ⟨?_, fun nA hnA => ?_⟩, fun h2 => fin hs.1 hs.2 hle hp3⟩, fun h1 => fin hs.1 hs.2 hle hp3⟩
    · have : (ByteArray.mk #[124]).size = 1 := rfl
      omega
    · have hp4 := hp3.more (e' := mkEnt orsV 0) hnA
      have k4 : K' nA = none := hp3.le.none hnA
      have hat : ∀ H6 : KH, PK (K'.new nA (mkEnt orsV 0)) n4 H6 → H6 nA = some (mkEnt orsV 0) := fun H6 h => h.le _ _ (if_pos rfl)
      refine c12 ok hp4 (by omega) (by omega) fun x7 H6 h70 h71 hp6 => ⟨_, rfl, ⟨by omega, by omega⟩, nA, 0, rfl, ?_⟩
      obtain ⟨s10, t1, t2, t3⟩ := or_at h70 h71
      have e1 : (ByteArray.mk #[124]).size = 1 := rfl
      have hsz2 := size_app s6 (ByteArray.mk #[124])
      have hsz3 := size_app (s6 ++ ByteArray.mk #[124]) s10
      refine ⟨s10, litAt (hat H6 hp6) t1, by omega, fin ?_ (by omega) (hle.trans (Le.new k4)) hp6⟩
      rw [bytes_app, bytes_app, List.append_assoc]
      exact hs.1.suf t2
end
end Va
end Go.Proofs.Ytphgchjoglgeeaa
