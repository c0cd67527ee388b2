/- Parse: letters of a text, taken one by one. -/
import Derived.Test.YtphgchjoglgeeaaEwRx5
import Derived.Test.YtphgchjoglgeeaaEwKeep0
set_option linter.unusedVariables false
set_option linter.unusedSimpArgs false
namespace Go.Ew
open Go.Ev Go.Deep

def bytesI (s : ByteArray) : List Int := s.data.toList.map fun b => (b.toNat : Int)

/-- Letters: a backslash is no letter where something stands behind it. -/
def letL : List Int → Bool → List (Int × Bool)
  | [], _ => []
  | c :: r, esc => if c = 92 ∧ esc = false ∧ r ≠ [] then letL r true else (c, esc) :: letL r false

def foldT : RdS → List (Int × Bool) → Option RdS
  | σ, [] => some σ
  | σ, (c, e) :: r => match takeR σ c e with
    | none => none
    | some τ => foldT τ r

def rd0 : RdS := ⟨[], [], false, 0, none⟩

def readR (s : ByteArray) : Option (List It) := match foldT rd0 (letL (bytesI s) false) with
  | none => none
  | some σ => match finR σ with
    | none => none
    | some τ => some τ.items

def parseR (s : ByteArray) : Option (List It) := if s.size < 1 ∨ 24 < s.size then none else readR s

theorem bytes_len (s : ByteArray) : (bytesI s).length = s.size := by
  unfold bytesI
  rw [List.length_map, Array.length_toList]
  rfl

theorem bytes_drop {s : ByteArray} {i : Nat} (h : i < s.size) : (bytesI s).drop i = byteAt s i :: (bytesI s).drop (i + 1) := by
  have hl : i < (bytesI s).length := by rw [bytes_len]; exact h
  rw [List.drop_eq_getElem_cons hl]
  congr 1
  have : s.data.toList[i]? = some (s.data.toList[i]'(by simpa [bytesI] using hl)) := by simp
  simp only [byteAt, this, Option.getD_some, bytesI, List.getElem_map]

theorem byteAt_in (s : ByteArray) (i : Nat) : 0 ≤ byteAt s i ∧ byteAt s i < 256 := by
  unfold byteAt
  have := ((s.data.toList[i]?).getD 0).toNat_lt
  omega

theorem let_len : ∀ (l : List Int) (b : Bool), (letL l b).length ≤ l.length
  | [], b => by simp [letL]
  | c :: r, b => by
    simp only [letL]
    split
    · have := let_len r true; simp; omega
    · have := let_len r false; simp; omega

/-- A row of items. -/
def ItR (H : KH) (l : List It) (a : Option Addr) : Prop := ∃ cs, kold H 2 a l.length = some cs ∧ ItC H l cs
end Go.Ew

namespace Go.Proofs.Ytphgchjoglgeeaa
open Go.Ev Go.Ew
namespace Va
section
variable (ok : EnvOk (env Try.prog))
include ok

theorem c20 {s : ByteArray} {l kb ko : Nat} {H : KH} {Q : Value → KH → Prop} (Inv : List (Int × Bool) → KH → Prop)
    (hcell : ∀ r H1, Inv r H1 → ld H1 ⟨kb, ko, none⟩ [.string s])
    (hstep : ∀ c e r H1, Inv ((c, e) :: r) H1 → 0 ≤ c ∧ c < 256 → DoesR (env Try.prog) l [.agg #[.int .u8 c, .bool e]] H1 fun v H2 => (v = .bool true ∧ Inv r H2) ∨ (v = .bool false ∧ Q (.tuple #[]) H2))
    (hend : ∀ H1, Inv [] H1 → Q (.tuple #[]) H1) (hs : s.size ≤ 1000000) (h0 : Inv (letL (bytesI s) false) H) : Does (env Try.prog) 20 [.func (.yield l) #[] #[], .pointer (some ⟨kb, ko, none⟩)] H Q := by
  refine fn20 ok ⟨s, hcell _ _ h0, ?_⟩
  unfold vc20_L2
  refine ⟨fun m n4 n5 n6 b7 x8 x9 H10 => n4 = l ∧ n5 = kb ∧ n6 = ko ∧ x8 = (s.size : Nat) ∧ ∃ i : Nat, x9 = i ∧ i ≤ s.size ∧ m = s.size - i ∧ Inv (letL ((bytesI s).drop i) b7) H10, ⟨s.size, rfl, rfl, rfl, rfl, rfl, 0, rfl, by omega, rfl, by simpa using h0⟩, ?_⟩
  rintro m n4 n5 n6 b7 x8 x9 H10 ⟨rfl, rfl, rfl, rfl, i, rfl, hi, rfl, hinv⟩
  refine ⟨fun hlt => ?_, fun hge => ?_⟩
  · have hlt : i < s.size := by have := of_decide_eq_true hlt; omega
    have hw : IntKind.wrap .i64 (((i : Nat) : Int) + 1) = ((i + 1 : Nat) : Int) := by rw [wrap64 (by omega) (by omega)]; omega
    have e0 : Int.toNat ((i : Nat) : Int) = i := by omega
    have hc := hcell _ _ hinv
    have hd := bytes_drop hlt
    rw [hd] at hinv
    have hr : (bytesI s).drop (i + 1) ≠ [] ↔ i + 1 < s.size := by
      rw [Ne, List.drop_eq_nil_iff, bytes_len]; omega
    have join : ¬ (byteAt s i = 92 ∧ b7 = false ∧ (bytesI s).drop (i + 1) ≠ []) → vc20_J0 H10 n5 n6 (i : Nat) n4 b7 Q (s.size - i) (fun m n4' n5' n6' b7 x8 x9 H10 => n4' = n4 ∧ n5' = n5 ∧ n6' = n6 ∧ x8 = (s.size : Nat) ∧ ∃ i : Nat, x9 = i ∧ i ≤ s.size ∧ m = s.size - i ∧ Inv (letL ((bytesI s).drop i) b7) H10) (s.size : Nat) := by
      intro hno
      rw [letL, if_neg hno] at hinv
      unfold vc20_J0
      rw [hw, e0]
      refine ⟨s, hc, ⟨by omega, by omega⟩, (hstep _ _ _ _ hinv (byteAt_in s i)).post fun v H3 hv => ?_⟩
      rcases hv with ⟨rfl, hv⟩ | ⟨rfl, hv⟩
      · exact ⟨true, rfl, fun h => (by cases h), fun _ => ⟨s.size - (i + 1), by omega, rfl, rfl, rfl, rfl, rfl, i + 1, rfl, by omega, rfl, hv⟩⟩
      · exact ⟨false, rfl, fun _ => hv, fun h => by cases h⟩
    refine ⟨s, hc, ⟨by omega, by omega⟩, fun h1 => ⟨fun h2 => ⟨s, hc, fun h3 => ?_, fun h3 => ?_⟩, fun h2 => ?_⟩, fun h1 => ?_⟩
    · rw [e0] at h1
      rw [hw] at h3
      have h3 := of_decide_eq_true h3
      have hyes : byteAt s i = 92 ∧ b7 = false ∧ (bytesI s).drop (i + 1) ≠ [] := ⟨of_decide_eq_true h1, by simpa using h2, hr.2 (by omega)⟩
      rw [letL, if_pos hyes] at hinv
      exact ⟨s.size - (i + 1), by omega, rfl, rfl, rfl, rfl, rfl, i + 1, hw, by omega, rfl, hinv⟩
    · rw [hw] at h3
      have h3 := of_decide_eq_false h3
      exact join fun ⟨_, _, q⟩ => by have := hr.1 q; omega
    · exact join fun ⟨_, q, _⟩ => by rw [q] at h2; cases h2
    · rw [e0] at h1
      exact join fun ⟨q, _, _⟩ => by have := of_decide_eq_false h1; exact this q
  · have hge : i = s.size := by have := of_decide_eq_false hge; omega
    subst hge
    have : (bytesI s).drop s.size = [] := List.drop_eq_nil_of_le (by rw [bytes_len]; exact Nat.le_refl _)
    rw [this, letL] at hinv
    exact hend _ hinv

theorem c15 {s : ByteArray} {H : KH} {Q : Value → KH → Prop} (hq : ∀ n, H n = none → Q (.func (.func 20) #[] #[.pointer (some ⟨n, 0, none⟩)]) (H.new n (mkEnt [.string s] 0))) : Does (env Try.prog) 15 [.string s] H Q := fn15 ok fun n hn => hq n hn

theorem c13 {s : ByteArray} {H : KH} {Q : Value → KH → Prop} (hs : s.size ≤ 100) (hn : readR s = none → ∀ H', Le H H' → Q (.tuple #[.slice none 0 0, .bool false]) H') (hq : ∀ l, readR s = some l → ∀ a c H', Le H H' → ItR H' l a → Q (.tuple #[.slice a l.length c, .bool true]) H') : Does (env Try.prog) 13 [.string s] H Q := by
  refine fn13 ok fun n1 h1 n2 h2 n3 h3 => c15 ok fun ns hns => ⟨20, [.pointer (some ⟨ns, 0, none⟩)], rfl, ⟨here20⟩, fun n8 L9 h8 hR => ?_⟩
  -- names
  have ne21 : n2 ≠ n1 := fun x => by subst x; simp [KH.new] at h2
  have ne31 : n3 ≠ n1 := fun x => by subst x; simp [KH.new, ne21.symm] at h3
  have ne32 : n3 ≠ n2 := fun x => by subst x; simp [KH.new] at h3
  have nes1 : ns ≠ n1 := fun x => by subst x; simp [KH.new, ne31.symm, ne21.symm] at hns
  have nes2 : ns ≠ n2 := fun x => by subst x; simp [KH.new, ne32.symm] at hns
  have nes3 : ns ≠ n3 := fun x => by subst x; simp [KH.new] at hns
  have ne81 : n8 ≠ n1 := fun x => by subst x; simp [KH.new, nes1.symm, ne31.symm, ne21.symm] at h8
  have ne82 : n8 ≠ n2 := fun x => by subst x; simp [KH.new, nes2.symm, ne32.symm] at h8
  have ne83 : n8 ≠ n3 := fun x => by subst x; simp [KH.new, nes3.symm] at h8
  have ne8s : n8 ≠ ns := fun x => by subst x; simp [KH.new] at h8
  have hH2 : H n2 = none := by simpa [KH.new, ne21] using h2
  have hH3 : H n3 = none := by simpa [KH.new, ne31, ne32] using h3
  have hHs : H ns = none := by simpa [KH.new, nes1, nes2, nes3] using hns
  have hH8 : H n8 = none := by simpa [KH.new, ne81, ne82, ne83, ne8s] using h8
  generalize hE : (mkEnt [.slice none 0 0, .slice none 0 0, .bool false, .int .i64 0, .bool false, .slice none 0 0, .int .i64 0] 0 : Ent) = E3
  generalize hEs : (mkEnt [.string s] 0 : Ent) = Es
  let F : List (Nat × Ent) := [(n1, mkEnt [.slice none 0 0] 0), (n2, mkEnt [.bool false] 0)]
  let Inv : List (Int × Bool) → KH → Prop := fun r H1 => ∃ X W σ k, H1 n8 = some (lpE L9 0 none) ∧ Fu X W n3 σ ∧ Le (H.new ns Es) X ∧ frL W F ∧ Le (addL W F) (H1.del n8) ∧ Wf k σ ∧ k + r.length ≤ 200 ∧ (foldT rd0 (letL (bytesI s) false) = foldT σ r)
  have hF : ∀ W, frL W F ↔ (W.new n2 (mkEnt [.bool false] 0)) n1 = none ∧ W n2 = none ∧ True := fun W => Iff.rfl
  have key : ∀ {r : List (Int × Bool)} {H1 : KH}, Inv r H1 → ∀ k e, H1.del n8 k = some e → H1 k = some e := fun _ k e q => by
    simp only [KH.del] at q
    split at q
    · cases q
    · exact q
  have lits : ∀ {cs : List Value} {K : KH} {n : Nat}, K n = some (mkEnt cs 0) → ld K ⟨n, 0, none⟩ cs := fun {cs K n} hk => ⟨rfl, _, hk, rd_some rfl fun j v hv => by rw [Nat.zero_add]; simp only [mkEnt, tget_wr_nil]; exact hv⟩
  have inF : ∀ {W K : KH}, frL W F → Le (addL W F) K → K n1 = some (mkEnt [.slice none 0 0] 0) ∧ K n2 = some (mkEnt [.bool false] 0) := fun {W K} hf hl => ⟨hl _ _ (if_pos rfl), hl _ _ (by simp [addL, F, KH.new, ne21])⟩
  -- what a store into the two cells leaves
  have puts : ∀ {W K : KH} {v1 v2 : Value}, frL W F → Le (addL W F) K → Le W ((K.put ⟨n1, 0, none⟩ [v1]).put ⟨n2, 0, none⟩ [v2]) ∧ ((K.put ⟨n1, 0, none⟩ [v1]) n2 = some (mkEnt [.bool false] 0)) ∧ ld ((K.put ⟨n1, 0, none⟩ [v1]).put ⟨n2, 0, none⟩ [v2]) ⟨n1, 0, none⟩ [v1] ∧ ld ((K.put ⟨n1, 0, none⟩ [v1]).put ⟨n2, 0, none⟩ [v2]) ⟨n2, 0, none⟩ [v2] := by
    intro W K v1 v2 hf hl
    obtain ⟨k1, k2⟩ := inF hf hl
    obtain ⟨f1, f2, _⟩ := (hF W).1 hf
    have f1 : W n1 = none := by simpa [KH.new, ne21.symm] using f1
    have p2 : (K.put ⟨n1, 0, none⟩ [v1]) n2 = some (mkEnt [.bool false] 0) := put_ne ne21 k2
    refine ⟨fun k e q => ?_, p2, ?_, ?_⟩
    · refine put_ne (fun x => by subst x; rw [f2] at q; cases q) (put_ne (fun x => by subst x; rw [f1] at q; cases q) ?_)
      exact hl _ _ (addL_le hf _ _ q)
    · refine ⟨rfl, ⟨wr (mkEnt [.slice none 0 0] 0).cells 0 [v1], (mkEnt [.slice none 0 0] 0).len, (mkEnt [.slice none 0 0] 0).unk, none⟩, put_ne ne21.symm (by simp only [KH.put, if_true, k1, Option.map_some]), ?_⟩
      exact rd_some rfl fun j v hv => by
        match j, hv with
        | 0, hv => rw [tget_wr]; simpa using hv
        | j + 1, hv => simp at hv
    · refine ⟨rfl, ⟨wr (mkEnt [.bool false] 0).cells 0 [v2], (mkEnt [.bool false] 0).len, (mkEnt [.bool false] 0).unk, none⟩, by simp only [KH.put, if_true]; rw [show (if n2 = n1 then Option.map _ (K n2) else K n2) = some (mkEnt [.bool false] 0) from p2]; rfl, ?_⟩
      exact rd_some rfl fun j v hv => by
        match j, hv with
        | 0, hv => rw [tget_wr]; simpa using hv
        | j + 1, hv => simp at hv
  have leH : ∀ {X : KH}, Le (H.new ns Es) X → Le H X := fun h => (Le.new hHs).trans h
  refine c20 ok (s := s) Inv (fun r H1 hi => ?_) (fun c e r H1 hi hc => ?_) (fun H1 hi => ?_) (by omega) ?_
  · obtain ⟨X, W, σ, k, g1, g2, g3, g4, g5, g6, g7, g8⟩ := hi
    have := key ⟨X, W, σ, k, g1, g2, g3, g4, g5, g6, g7, g8⟩ ns Es (g5 _ _ (addL_le g4 _ _ (g2.le _ _ (g3 _ _ (if_pos rfl)))))
    rw [← hEs] at this
    exact lits this
  · have hi' := hi
    obtain ⟨X, W, σ, k, g1, g2, g3, g4, g5, g6, g7, g8⟩ := hi
    simp only [List.length_cons] at g7
    rw [foldT] at g8
    refine hR c e H1 _ g1 (Does.keep g4 g5 (c16 ok g2 g6 (by omega) hc (fun ht W' hW' hf H15 hl => ⟨false, rfl, fun _ => ?_, fun h => (by cases h)⟩) fun τ ht X' W' hX hFu hf H15 hl => ⟨true, rfl, fun h => (by cases h), fun _ h15 => .inl ⟨rfl, ?_⟩⟩))
    · obtain ⟨k1, k2⟩ := inF hf hl
      obtain ⟨q1, q2, q3, q4⟩ := puts (v1 := .slice none 0 0) (v2 := .bool false) hf hl
      refine ⟨stOk (lits k1) rfl, ⟨_, k1, rfl⟩, stOk (lits q2) rfl, ⟨_, q2, rfl⟩, fun h15 => .inr ⟨rfl, .inr (.inl ⟨if_pos rfl, none, 0, 0, ?_, false, ?_, ?_⟩)⟩⟩
      · exact Le.ld (fun k e q => by simp only [KH.del, KH.new] at q ⊢; rw [if_neg (fun x => by subst x; rw [h15] at q; cases q), if_neg (fun x => by subst x; rw [h15] at q; cases q)]; exact q) q3
      · exact Le.ld (fun k e q => by simp only [KH.del, KH.new] at q ⊢; rw [if_neg (fun x => by subst x; rw [h15] at q; cases q), if_neg (fun x => by subst x; rw [h15] at q; cases q)]; exact q) q4
      · refine hn ?_ _ fun k e q => ?_
        · unfold readR; rw [g8, ht]
        · have := q1 _ _ (hW' _ _ (leH g3 _ _ q))
          simp only [KH.del, KH.new]
          rw [if_neg (fun x => by subst x; rw [hH8] at q; cases q), if_neg (fun x => by subst x; rw [hH8] at q; cases q)]
          exact this
    · refine ⟨X', W', τ, k + 1, if_pos rfl, hFu, g3.trans hX, hf, fun k e q => ?_, take_wf g6 ht, by omega, ?_⟩
      · have := hl k e q
        simp only [KH.del, KH.new]
        rw [if_neg (fun x => by subst x; rw [h15] at this; cases this), if_neg (fun x => by subst x; rw [h15] at this; cases this)]
        exact this
      · rw [g8, ht]
  · obtain ⟨X, W, σ, k, g1, g2, g3, g4, g5, g6, g7, g8⟩ := hi
    have hk : σ.items.length ≤ 900 := by have := g6.1; simp only [List.length_nil] at g7; omega
    refine .inl ⟨g1, Does.keep g4 g5 (c17 ok g2 hk (fun ht hf H2 hl => ⟨false, rfl, fun _ => ?_, fun h => (by cases h)⟩) fun τ ht W' hC hf H2 hl => ⟨true, rfl, fun h => (by cases h), fun _ => ?_⟩)⟩
    · obtain ⟨k1, k2⟩ := inF hf hl
      obtain ⟨q1, q2, q3, q4⟩ := puts (v1 := .slice none 0 0) (v2 := .bool false) hf hl
      refine ⟨stOk (lits k1) rfl, ⟨_, k1, rfl⟩, stOk (lits q2) rfl, ⟨_, q2, rfl⟩, none, 0, 0, q3, false, q4, hn ?_ _ ((leH g3).trans (g2.le.trans q1))⟩
      unfold readR; rw [g8, foldT]; simp only [ht]
    · obtain ⟨k1, k2⟩ := inF hf hl
      obtain ⟨ai, ci, ao, co, csI, exo, hC⟩ := hC
      obtain ⟨q1, q2, q3, q4⟩ := puts (v1 := .slice ai τ.items.length ci) (v2 := .bool true) hf hl
      have hle : Le W' H2 := (addL_le hf).trans hl
      refine ⟨rfl, ai, _, ci, hle.ld hC.c0, stOk (lits k1) rfl, ⟨_, k1, rfl⟩, stOk (lits q2) rfl, ⟨_, q2, rfl⟩, ai, _, ci, q3, true, q4, hq τ.items ?_ ai ci _ ((leH g3).trans (hC.pt.le.trans q1)) ⟨csI, ?_, ?_⟩⟩
      · unfold readR; rw [g8, foldT]; simp only [ht]
      · exact q1.kold hC.items.row
      · exact hC.itc.mono (hC.pt.le.trans q1)
  · have hX3 : (H.new ns Es) n3 = none := by simp only [KH.new]; rw [if_neg nes3.symm]; exact hH3
    refine ⟨H.new ns Es, (H.new ns Es).new n3 E3, rd0, 0, if_pos rfl, Fu.of_none rfl ⟨none, 0, none, 0, [], [], ⟨Le.new hX3, hX3, E3, if_pos rfl, by rw [← hE]; rfl, ?_⟩, fun b q => (by cases q), fun b q => (by cases q), .nil, rfl, .nil, ⟨by decide, by decide, fun g hg => (by cases hg)⟩⟩, Le.refl _, ⟨?_, ?_, trivial⟩, fun k e q => ?_, ⟨by decide, fun l pl q => (by cases q)⟩, ?_, rfl⟩
    · rw [← hE]
      exact rd_some rfl fun j v hv => by rw [Nat.zero_add]; simp only [mkEnt, tget_wr_nil]; exact hv
    · show (((H.new ns Es).new n3 E3).new n2 _) n1 = none
      simp only [KH.new]
      rw [if_neg ne21.symm, if_neg ne31.symm, if_neg nes1.symm]
      exact h1
    · show ((H.new ns Es).new n3 E3) n2 = none
      simp only [KH.new]
      rw [if_neg ne32.symm, if_neg nes2.symm]
      exact hH2
    · have q : (((((H.new ns Es).new n3 E3).new n2 (mkEnt [.bool false] 0)).new n1 (mkEnt [.slice none 0 0] 0)) k) = some e := q
      simp only [KH.del, KH.new] at q ⊢
      have hk8 : k ≠ n8 := fun x => by
        subst x
        rw [if_neg ne81, if_neg ne82, if_neg ne83, if_neg ne8s, hH8] at q
        cases q
      rw [if_neg hk8, if_neg hk8]
      by_cases a1 : k = n1
      · subst a1
        rw [if_pos rfl] at q
        rw [if_neg nes1.symm, if_neg ne31.symm, if_neg ne21.symm, if_pos rfl]
        exact q
      · rw [if_neg a1] at q ⊢
        by_cases a2 : k = n2
        · subst a2
          rw [if_pos rfl] at q
          rw [if_neg nes2.symm, if_neg ne32.symm, if_pos rfl]
          exact q
        · rw [if_neg a2] at q ⊢
          by_cases a3 : k = n3
          · subst a3
            rw [if_pos rfl] at q
            rw [if_neg nes3.symm, if_pos rfl]
            exact q
          · rw [if_neg a3] at q ⊢
            exact q
    · have := let_len (bytesI s) false
      rw [bytes_len] at this
      omega

theorem c9 {s : ByteArray} {H : KH} {Q : Value → KH → Prop} (hn : parseR s = none → ∀ H', Le H H' → Q (.tuple #[.slice none 0 0, .bool false]) H') (hq : ∀ l, parseR s = some l → ∀ a c H', Le H H' → ItR H' l a → Q (.tuple #[.slice a l.length c, .bool true]) H') : Does (env Try.prog) 9 [.string s] H Q := by
  refine fn9 ok ⟨fun h1 => ?_, fun h1 => ⟨fun h2 => ?_, fun h2 => ?_⟩⟩
  · have h1 := of_decide_eq_true h1
    exact hn (if_pos (.inl (by omega))) H (Le.refl _)
  · have h2 := of_decide_eq_true h2
    exact hn (if_pos (.inr (by omega))) H (Le.refl _)
  · have h1 := of_decide_eq_false h1
    have h2 := of_decide_eq_false h2
    have e : parseR s = readR s := if_neg (by omega)
    rw [e] at hn hq
    exact c13 ok (by omega) (fun q H' hl => ⟨_, _, _, _, rfl, hn q H' hl⟩) fun l q a c H' hl hi => ⟨_, _, _, _, rfl, hq l q a c H' hl hi⟩
end
end Va
end Go.Proofs.Ytphgchjoglgeeaa
