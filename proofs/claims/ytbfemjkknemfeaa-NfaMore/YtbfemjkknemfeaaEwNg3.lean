/- Texts that agree: what a pattern is of one, it is of the other. -/
import Derived.Test.YtbfemjkknemfeaaEwNg2
set_option linter.unusedVariables false
set_option linter.unusedSimpArgs false
namespace Go.Ew
open Go.Ev Go.Deep

theorem byteAt_app {s t : ByteArray} {i : Nat} (h : i < s.size) : byteAt (s ++ t) i = byteAt s i := by
  unfold byteAt
  have : i < s.data.toList.length := h
  rw [ByteArray.data_append, Array.toList_append, List.getElem?_append_left this]
theorem byteAt_end {s : ByteArray} {b : UInt8} : byteAt (s ++ ByteArray.mk #[b]) s.size = (b.toNat : Int) := by
  unfold byteAt
  have : s.data.toList.length = s.size := rfl
  rw [ByteArray.data_append, Array.toList_append, List.getElem?_append_right (by omega), this]
  simp
theorem byteAt_cut {s : ByteArray} {n i : Nat} (h : i < n) (hn : n ≤ s.size) : byteAt (strCut s 0 ((n : Nat) : Int)) i = byteAt s i := by
  unfold byteAt strCut
  have : i < s.data.toList.length := by show i < s.size; omega
  rw [ByteArray.data_extract]
  simp [h]
  
theorem size_cut {s : ByteArray} {n : Nat} (hn : n ≤ s.size) : (strCut s 0 ((n : Nat) : Int)).size = n := by
  unfold strCut
  simp; omega

theorem Mo.mapB {R R' : Nat → Nat → Prop} {m : Nat} (hle : ∀ i j, R i j → i ≤ j) (h : ∀ i j, j ≤ m → R i j → R' i j) {i j : Nat} (o : Mo R i j) (hj : j ≤ m) : Mo R' i j := by
  induction o with
  | none i => exact .none i
  | more i k j h1 h2 ih => exact .more i k j (h i k (by have := Mo.le hle h2; omega) h1) (ih hj)

theorem Mt.agree {s s' : ByteArray} {m : Nat} (hm' : m ≤ s'.size) (ha : ∀ i, i < m → byteAt s i = byteAt s' i) : ∀ (t : Ptn) (i j : Nat), j ≤ m → Mt s t i j → Mt s' t i j
  | .cls L, i, j, hj, h => by
    obtain ⟨h1, h2, r, hr, h3, h4⟩ := h
    have hi : i < m := by omega
    rw [ha i hi] at h3 h4
    exact ⟨h1, by omega, r, hr, h3, h4⟩
  | .join a b, i, j, hj, ⟨k, h1, h2⟩ => ⟨k, Mt.agree hm' ha a i k (by have := Mt.le b k j h2; omega) h1, Mt.agree hm' ha b k j hj h2⟩
  | .alt a b, i, j, hj, h => by
    rcases h with h | h
    · exact .inl (Mt.agree hm' ha a i j hj h)
    · exact .inr (Mt.agree hm' ha b i j hj h)
  | .star a, i, j, hj, h => Mo.mapB (Mt.le a) (fun i j q => Mt.agree hm' ha a i j q) h hj
  | .plus a, i, j, hj, ⟨k, h1, h2⟩ => ⟨k, Mt.agree hm' ha a i k (by have := Mo.le (Mt.le a) h2; omega) h1, Mo.mapB (Mt.le a) (fun i j q => Mt.agree hm' ha a i j q) h2 hj⟩
  | .may a, i, j, hj, h => by
    rcases h with h | h
    · exact .inl h
    · exact .inr (Mt.agree hm' ha a i j hj h)

theorem SsN.mono {X Y : KH} (hl : Le X Y) {S : List St} {a : OA} (h : SsN X S a) : SsN Y S a := by
  obtain ⟨cs, h1, h2⟩ := h
  exact ⟨cs, hl.kold h1, h2.mono hl⟩

/-- A byte that no class takes. -/
theorem Mt.shut {s : ByteArray} {n : Nat} (hs : s.size ≤ n + 1) (h1 : byteAt s n < 32) : ∀ (t : Ptn) (i j : Nat), t.okT → i ≤ n → Mt s t i j → j ≤ n
  | .cls L, i, j, ho, hi, h => by
    obtain ⟨q1, q2, r, hr, q3, q4⟩ := h
    rcases Nat.lt_or_ge i n with z | z
    · omega
    · have : i = n := by omega
      rw [this] at q3
      have := (ho.2 r hr).2.1
      omega
  | .join a b, i, j, ho, hi, ⟨k, q1, q2⟩ => Mt.shut hs h1 b k j ho.2 (Mt.shut hs h1 a i k ho.1 hi q1) q2
  | .alt a b, i, j, ho, hi, h => by
    rcases h with h | h
    · exact Mt.shut hs h1 a i j ho.1 hi h
    · exact Mt.shut hs h1 b i j ho.2 hi h
  | .star a, i, j, ho, hi, h => Mo.sz (fun i j q z => Mt.shut hs h1 a i j ho z q) h hi
  | .plus a, i, j, ho, hi, ⟨k, q1, q2⟩ => Mo.sz (fun i j q z => Mt.shut hs h1 a i j ho z q) q2 (Mt.shut hs h1 a i k ho hi q1)
  | .may a, i, j, ho, hi, h => by
    rcases h with h | h
    · omega
    · exact Mt.shut hs h1 a i j ho hi h

/-- The same of the front alone. -/
theorem LgSpec.cut {pats : List (List It)} {s : ByteArray} {k j : Nat} (hj0 : 0 < j) (h : LgSpec (Has pats s) s.size (((k : Nat) : Int), ((j : Nat) : Int), true)) : LgSpec (Has pats (strCut s 0 ((j : Nat) : Int))) j (((k : Nat) : Int), ((j : Nat) : Int), true) := by
  generalize hr : ((((k : Nat) : Int), ((j : Nat) : Int), true) : Int × Int × Bool) = r at h
  cases h with
  | no h => cases hr
  | yes k2 j2 h1 h2 h3 h4 h5 =>
    injection hr with e1 e2
    injection e2 with e2 e3
    have e1 : k = k2 := by omega
    have e2 : j = j2 := by omega
    subst e1; subst e2
    have ag : ∀ k', Has pats s k' j ↔ Has pats (strCut s 0 ((j : Nat) : Int)) k' j := fun k' => by
      constructor
      · rintro ⟨l, q1, q2⟩
        exact ⟨l, q1, Mt.agree (m := j) (by rw [size_cut h2]; omega) (fun i hi => (byteAt_cut hi h2).symm) _ _ _ (Nat.le_refl _) q2⟩
      · rintro ⟨l, q1, q2⟩
        exact ⟨l, q1, Mt.agree (m := j) h2 (fun i hi => byteAt_cut hi h2) _ _ _ (Nat.le_refl _) q2⟩
    exact .yes k j h1 (Nat.le_refl _) ((ag k).1 h3) (fun k' j' q1 q2 => by omega) fun k' hk' q => h5 k' hk' ((ag k').2 q)

/-- The same with a byte behind that no class takes. -/
theorem LgSpec.behind {pats : List (List It)} (hg : ∀ l ∈ pats, (treeD l).okT) {s : ByteArray} {r : Int × Int × Bool} (h : LgSpec (Has pats s) s.size r) : LgSpec (Has pats (s ++ ByteArray.mk #[1])) (s ++ ByteArray.mk #[1]).size r := by
  have hsz : (s ++ ByteArray.mk #[1]).size = s.size + 1 := by rw [ByteArray.size_append]; rfl
  have hb : byteAt (s ++ ByteArray.mk #[1]) s.size < 32 := by rw [byteAt_end]; decide
  have sh : ∀ k j, Has pats (s ++ ByteArray.mk #[1]) k j → j ≤ s.size := fun k j ⟨l, q1, q2⟩ =>
    Mt.shut (by omega) hb _ _ _ (hg l (List.mem_of_getElem? q1)) (Nat.zero_le _) q2
  have ag : ∀ k j, j ≤ s.size → (Has pats (s ++ ByteArray.mk #[1]) k j ↔ Has pats s k j) := fun k j hj => by
    constructor
    · rintro ⟨l, q1, q2⟩
      exact ⟨l, q1, Mt.agree (m := s.size) (Nat.le_refl _) (fun i hi => byteAt_app hi) _ _ _ hj q2⟩
    · rintro ⟨l, q1, q2⟩
      exact ⟨l, q1, Mt.agree (m := s.size) (by omega) (fun i hi => (byteAt_app hi).symm) _ _ _ hj q2⟩
  cases h with
  | no h => exact .no fun k j h1 h2 hh => h k j h1 (sh k j hh) ((ag k j (sh k j hh)).1 hh)
  | yes k j h1 h2 h3 h4 h5 =>
    exact .yes k j h1 (by omega) ((ag k j h2).2 h3) (fun k' j' q1 q2 hh => h4 k' j' q1 (sh k' j' hh) ((ag k' j' (sh k' j' hh)).1 hh)) fun k' hk' hh => h5 k' hk' ((ag k' j h2).1 hh)
end Go.Ew

namespace Go.Proofs.Ytbfemjkknemfeaa
open Go.Ev Go.Ew
namespace Va
section
variable (ok : EnvOk (env Try.prog))
include ok

theorem c5 {a b : OA} {n m c d : Nat} {H : KH} (h0 : U8 H a n) (h1 : U8 H b m) : Does (env Try.prog) 5 [.slice a n c, .slice b m d] H fun v _ => v = .bool true := by
  refine fn5 ok (c9 ⟨true, rfl, fun h => (by cases h), fun _ => ⟨fun _ => rfl, fun l0 => ⟨fun _ => rfl, fun l1 => ?_⟩⟩⟩)
  have l0 : n ≤ 60 := by have := of_decide_eq_false l0; omega
  have l1 : m ≤ 12 := by have := of_decide_eq_false l1; omega
  refine c10 ok h0 (by omega) fun pats a' c' X H2 cs hpl hpar hHX hX hG hP hout => ⟨_, _, _, rfl, ?_⟩
  have hPR : PtR H2 pats a' := ⟨cs, hG.row, hP.mono hX⟩
  refine c11p ok hPR hpar (by omega) fun a8 c10 H7 hl7 hst => ⟨_, _, _, rfl, c12 ok (h1.mono ((hHX.trans hX).trans hl7)) (by omega) fun s H12 hsz _ hl12 => ⟨s, rfl, ?_⟩⟩
  have hst12 := SsN.mono hl12 hst
  have hb1 : (ByteArray.mk #[1]).size = 1 := rfl
  have happ : (s ++ ByteArray.mk #[1]).size = s.size + 1 := by rw [ByteArray.size_append, hb1]
  obtain ⟨_, _, g3⟩ := good_of hpar
  refine c13p ok hpar (by omega) hst12 (by omega) fun k j H15 hl15 hsp hj => ⟨_, _, _, rfl, fun q => ?_, fun q => ?_⟩
  · -- none
    have hj0 : j = 0 := by
      have : decide (0 < j) = false := by simpa using q
      have := of_decide_eq_false this
      omega
    subst hj0
    refine ⟨by omega, c13p ok hpar (by omega) (SsN.mono hl15 hst12) (by omega) fun k2 j2 H20 hl20 hsp2 hj2 => ⟨_, _, _, rfl, ?_⟩⟩
    have := (hsp.behind g3).same hsp2
    injection this with e1 e2
    injection e2 with e2 e3
    rw [← e3]
    rfl
  · have hj0 : 0 < j := by
      have : decide (0 < j) = true := by simpa using q
      exact of_decide_eq_true this
    have hd : decide (0 < j) = true := decide_eq_true hj0
    rw [hd] at hsp
    refine ⟨fun q => ?_, fun _ => ⟨fun q => ?_, fun _ => ⟨⟨by omega, by omega, by omega⟩, ?_⟩⟩⟩
    · have := of_decide_eq_true q; omega
    · have := of_decide_eq_true q; omega
    · have hcz := size_cut hj
      refine c13p ok hpar (by omega) (SsN.mono hl15 hst12) (by omega) fun k2 j2 H2' hl2 hsp2 hj2 => ⟨_, _, _, rfl, ⟨by omega, c13p ok hpar (by omega) (SsN.mono hl2 (SsN.mono hl15 hst12)) (by omega) fun k3 j3 H7' hl7' hsp3 hj3 => ⟨_, _, _, rfl, ?_⟩⟩⟩
      have s1 := (hsp.cut hj0)
      rw [← hcz] at s1
      have e := s1.same (by rw [hcz] at hsp2 ⊢; exact hsp2)
      have e' := (hsp.behind g3).same hsp3
      injection e with e1 e2
      injection e2 with e2 e3
      injection e' with f1 f2
      injection f2 with f2 f3
      rw [← e1, ← e2, ← e3, ← f1, ← f2, ← f3]
      simp
      omega
end
end Va
end Go.Proofs.Ytbfemjkknemfeaa
