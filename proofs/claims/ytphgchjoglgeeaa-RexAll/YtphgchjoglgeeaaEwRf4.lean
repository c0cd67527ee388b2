/- The reference's reader: rows of items that are its own; a class. -/
import Derived.Test.YtphgchjoglgeeaaEwRf3
import Derived.Test.YtphgchjoglgeeaaEwRxT
set_option linter.unusedVariables false
set_option linter.unusedSimpArgs false
namespace Go.Ew
open Go.Ev Go.Deep

theorem Own.base {H0 H1 H : KH} {sz n c : Nat} {a : Option Addr} {cs : List Value} (h : Own H0 H sz a n c cs) (hb : ∀ b, blk a = some b → H1 b = none) : Own H1 H sz a n c cs := by
  cases h with
  | nil => exact .nil
  | lit b _ _ h1 h2 h3 h4 => exact .lit b n cs h1 h2 h3 (hb b rfl)
  | grown b _ _ e h1 h2 h3 h4 h5 h6 => exact .grown b n cs e h1 h2 h3 h4 (hb b rfl) h6
theorem Own.out {H0 H : KH} {sz n c : Nat} {a : Option Addr} {cs : List Value} (h : Own H0 H sz a n c cs) {b : Nat} (hb : blk a = some b) : H0 b = none := by
  cases h with
  | nil => cases hb
  | lit b' _ _ h1 h2 h3 h4 => cases hb; exact h4
  | grown b' _ _ e h1 h2 h3 h4 h5 h6 => cases hb; exact h5
theorem Own.agree {H0 H H' : KH} {sz n c : Nat} {a : Option Addr} {cs : List Value} (h : Own H0 H sz a n c cs) (hk : ∀ k e, blk a = some k → H k = some e → H' k = some e) : Own H0 H' sz a n c cs := by
  cases h with
  | nil => exact .nil
  | lit b _ _ h1 h2 h3 h4 => exact .lit b n cs (hk b _ rfl h1) h2 h3 h4
  | grown b _ _ e h1 h2 h3 h4 h5 h6 => exact .grown b n cs e (hk b _ rfl h1) h2 h3 h4 h5 h6
/-- What it lies in, as knowledge. -/
theorem Own.know {X H : KH} {p sz n c : Nat} {a : Option Addr} {cs : List Value} (h : Own X H sz a n c cs) (hl : Le X H) (hx : X p = none) (hp : blk a ≠ some p) : ∃ Y, Le X Y ∧ Le Y H ∧ Y p = none ∧ kold Y sz a n = some cs ∧ ∀ k, blk a ≠ some k → X k = none → Y k = none := by
  have key : ∀ (b : Nat) (e : Ent), H b = some e → X b = none → b ≠ p → Le X (X.new b e) ∧ Le (X.new b e) H ∧ (X.new b e) p = none := fun b e h1 h2 h3 => by
    refine ⟨Le.new h2, fun k e' q => ?_, ?_⟩
    · simp only [KH.new] at q
      split at q
      · rename_i hk; subst hk; cases q; exact h1
      · exact hl k e' q
    · simp only [KH.new]; rw [if_neg (fun q => h3 q.symm)]; exact hx
  have hc := h.cells
  cases h with
  | nil => exact ⟨X, Le.refl _, hl, hx, rfl, fun k _ q => q⟩
  | lit b _ _ h1 h2 h3 h4 =>
    obtain ⟨k1, k2, k3⟩ := key b _ h1 h4 (fun q => hp (by rw [← q]; rfl))
    refine ⟨_, k1, k2, k3, lit_kold (if_pos rfl) h2, fun k q1 q2 => ?_⟩
    simp only [KH.new]; rw [if_neg (fun q => q1 (by rw [q]; rfl))]; exact q2
  | grown b _ _ e h1 h2 h3 h4 h5 h6 =>
    obtain ⟨k1, k2, k3⟩ := key b _ h1 h5 (fun q => hp (by rw [← q]; rfl))
    refine ⟨_, k1, k2, k3, kold_some.2 ⟨e, if_pos rfl, h4⟩, fun k q1 q2 => ?_⟩
    simp only [KH.new]; rw [if_neg (fun q => q1 (by rw [q]; rfl))]; exact q2

section
variable {X H : KH} {p : Nat} {s : ByteArray} {i : Nat} {b : Bool}
theorem P3.up (h : P3 X H p s i b) {H' : KH} (hl : Le H H') : P3 X H' p s i b := by
  obtain ⟨e, h1, h2⟩ := h.ex
  exact ⟨h.le.trans hl, h.xp, e, hl p e h1, h2⟩
theorem P3.re (h : P3 X H p s i b) {X' : KH} (hl : Le X' H) (hx : X' p = none) : P3 X' H p s i b := ⟨hl, hx, h.ex⟩
theorem delLe (H : KH) (p : Nat) : Le (H.del p) H := fun k e q => by
  simp only [KH.del] at q
  split at q
  · cases q
  · exact q
theorem del_at (H : KH) (p : Nat) : (H.del p) p = none := if_pos rfl
theorem P3.all' (h : P3 X H p s i b) : P3 (H.del p) H p s i b := h.re (delLe H p) (del_at H p)
/-- What else was known is known. -/
theorem P3.kept (h0 : P3 X H p s i b) {H' : KH} {j : Nat} {b' : Bool} (h : P3 (H.del p) H' p s j b') : P3 X H' p s j b' ∧ ∀ k e, k ≠ p → H k = some e → H' k = some e := by
  have key : ∀ k e, k ≠ p → H k = some e → H' k = some e := fun k e hk q => h.le k e (by simp only [KH.del]; rw [if_neg hk]; exact q)
  exact ⟨⟨fun k e q => key k e (fun x => by rw [x, h0.xp] at q; cases q) (h0.le k e q), h0.xp, h.ex⟩, key⟩
theorem P3.append {ti : TI} {a : Option Addr} {n c m nm : Nat} {cs new : List Value} (h : P3 X H p s i b) (ho : Own X H ti.size a n c cs) (hp : blk a ≠ some p) (hnm : H nm = none) (hm : new.length = m * ti.size) (hs : n + m ≤ 1000000) (hb : ti.bytes ≤ 1000000) (hz : 1 ≤ ti.size) (hro : ti.size ≤ 1000000 := by decide) :
    ∃ a' c' H', kappend H nm ti a n c m new = some (.slice a' (n + m) c', H') ∧ P3 X H' p s i b ∧ Own X H' ti.size a' (n + m) c' (cs ++ new) ∧ blk a' ≠ some p ∧ (∀ k e, H k = some e → blk a ≠ some k → H' k = some e) := by
  obtain ⟨e, h1, h2, h3⟩ := h.ex
  have hl : Le (X.new p e) H := fun k e' q => by
    simp only [KH.new] at q
    split at q
    · rename_i hk; subst hk; cases q; exact h1
    · exact h.le k e' q
  have ho2 : Own (X.new p e) H ti.size a n c cs := ho.base fun b q => by
    simp only [KH.new]
    rw [if_neg (fun x => hp (by rw [q, x]))]
    exact ho.out q
  obtain ⟨a', c', H', g1, g2, g3, g4, g5⟩ := ho2.append hl hnm hm hs hb hz hro
  refine ⟨a', c', H', g1, ⟨(Le.new h.xp).trans g3, h.xp, e, g3 p e (if_pos rfl), h2, h3⟩, g2.base fun b q => ?_, fun q => ?_, g4⟩
  · have := g2.out q
    simp only [KH.new] at this
    split at this
    · cases this
    · exact this
  · have := g2.out q
    simp only [KH.new, if_true] at this
    cases this
end

/-- A row that was there is there, whatever was done. -/
def Kp (K' H' : KH) (sz : Nat) (a : Option Addr) (n c : Nat) (cs : List Value) : Prop := Le K' H' ∧ ∀ Z, Le Z K' → Own Z H' sz a n c cs

theorem keepRow {E : Env} {g : Nat} {args : List Value} {X H : KH} {p : Nat} {s : ByteArray} {i : Nat} {b : Bool} {sz n c : Nat} {a : Option Addr} {cs : List Value} {Q : Value → KH → Prop} (h : P3 X H p s i b) (ho : Own X H sz a n c cs) (hp : blk a ≠ some p)
    (hc : ∀ K, P3 X K p s i b → Does E g args K fun v K' => ∀ H', Kp K' H' sz a n c cs → Q v H') : Does E g args H Q := by
  have key : ∀ (bb : Nat) (e : Ent), H bb = some e → X bb = none → bb ≠ p → (∀ (Z K' : KH), Z bb = none → Own Z (K'.new bb e) sz a n c cs) → Does E g args H Q := fun bb e h1 h2 h3 h4 => by
    have hH : (H.del bb).new bb e = H := by
      funext k
      simp only [KH.new, KH.del]
      split
      · rename_i hk; rw [hk]; exact h1.symm
      · rfl
    have hpk : P3 X (H.del bb) p s i b := by
      obtain ⟨e0, q1, q2⟩ := h.ex
      refine ⟨fun k e' q => ?_, h.xp, e0, ?_, q2⟩
      · simp only [KH.del]; rw [if_neg (fun x => by rw [x, h2] at q; cases q)]; exact h.le k e' q
      · simp only [KH.del]; rw [if_neg (fun x => h3 x.symm)]; exact q1
    have := Does.frame (del_at H bb) (Q := Q) (e := e) ((hc _ hpk).post fun v K' q hk => q _ ⟨Le.new hk, fun Z hZ => h4 Z K' (hZ.none hk)⟩)
    rwa [hH] at this
  cases ho with
  | nil => exact (hc H h).post fun v K' q => q K' ⟨Le.refl _, fun Z _ => .nil⟩
  | lit bb _ _ h1 h2 h3 h4 => exact key bb _ h1 h4 (fun q => hp (by rw [← q]; rfl)) fun Z K' hz => .lit bb n cs (if_pos rfl) h2 h3 hz
  | grown bb _ _ e h1 h2 h3 h4 h5 h6 => exact key bb _ h1 h5 (fun q => hp (by rw [← q]; rfl)) fun Z K' hz => .grown bb n cs e (if_pos rfl) h2 h3 h4 hz h6

/-- What the reference's reader has read from i on. -/
structure OutR (X Z H : KH) (p : Nat) (s : ByteArray) (a : Option Addr) (c : Nat) (I : List It) (i i' : Nat) (b' : Bool) : Prop where
  le : Le X Z
  pt : P3 Z H p s i' b'
  own : ∃ cs, Own Z H 2 a I.length c cs ∧ ItC Z I cs
  np : blk a ≠ some p
  lt : i < i'
  ln : I.length + 2 ≤ 3 * (i' - i)
  up : i' ≤ s.size + 6
  gd : b' = false → i' ≤ s.size

theorem OutR.nil {X Z H : KH} {p : Nat} {s : ByteArray} {i i' : Nat} {b' : Bool} (hl : Le X Z) (h : P3 Z H p s i' b') (h1 : i < i') (h2 : i' ≤ s.size + 6) (h3 : b' = false → i' ≤ s.size) : OutR X Z H p s none 0 [] i i' b' :=
  ⟨hl, h, ⟨[], .nil, rfl⟩, fun q => (by cases q), h1, by show 0 + 2 ≤ _; omega, h2, h3⟩

/-- A class as the only item. -/
theorem OutR.one {X K : KH} {p : Nat} {s : ByteArray} {i i' : Nat} {b' : Bool} {l : List Rg} {a : Option Addr} {c n : Nat} (h : P3 X K p s i' b') (ho : Own X K 2 a l.length c (rgC l)) (hp : blk a ≠ some p) (hn : K n = none) (h1 : i < i') (h2 : i' ≤ s.size + 6) (h3 : b' = false → i' ≤ s.size) :
    ∃ Z, OutR X Z (K.new n (mkEnt [.int .i64 1, .slice a l.length c] 0)) p s (some ⟨n, 0, none⟩) 1 [(1, l)] i i' b' := by
  obtain ⟨Y, y1, y2, y3, y4, y5⟩ := ho.know h.le h.xp hp
  have hle : Le K (K.new n (mkEnt [.int .i64 1, .slice a l.length c] 0)) := Le.new hn
  have hY : Y n = none := y2.none hn
  refine ⟨Y, y1, (h.up hle).re (y2.trans hle) y3, ⟨[.int .i64 1, .slice a l.length c], .lit n 1 _ (if_pos rfl) rfl (by unfold unkU; omega) hY, ?_⟩, fun q => ?_, h1, by show 1 + 2 ≤ _; omega, h2, h3⟩
  · exact ⟨a, c, [], rfl, y4, rfl⟩
  · have q : n = p := by cases q; rfl
    obtain ⟨e, q1, _⟩ := h.ex
    rw [q, q1] at hn; cases hn
end Go.Ew

namespace Go.Proofs.Ytphgchjoglgeeaa
open Go.Ev Go.Ew
namespace Va
section
variable (ok : EnvOk (env Try.prog))
include ok

omit ok in
theorem tail41 {X K : KH} {p : Nat} {s : ByteArray} {i2 : Nat} {b2 : Bool} {l : List Rg} {a : Option Addr} {c m : Nat} {lo hi : Int} {I : Nat → Nat → Nat → Option Addr → Nat → Nat → KH → Prop}
    (h : P3 X K p s i2 b2) (ho : Own X K 2 a l.length c (rgC l)) (hp : blk a ≠ some p) (hs : l.length ≤ 1000)
    (hI : ∀ a' c' H', P3 X H' p s i2 b2 → Own X H' 2 a' (l.length + 1) c' (rgC (l ++ [(lo, hi)])) → blk a' ≠ some p → ∃ n9, n9 < m ∧ (none : Option Nat) = none ∧ I n9 p 0 a' (l.length + 1) c' H') :
    ∀ n1, K n1 = none → ∀ n2, (K.new n1 (mkEnt [.int .u8 lo, .int .u8 hi] 0)) n2 = none → ∃ n3, ∃ l4, knew (K.new n1 (mkEnt [.int .u8 lo, .int .u8 hi] 0)) RT2 (.slice (some ⟨n1, 0, none⟩) 1 1) = some (n3, l4) ∧
      ∃ a5 n6 n7 H8, kappend (K.new n1 (mkEnt [.int .u8 lo, .int .u8 hi] 0)) n2 RT2 a l.length c n3 l4 = some (.slice a5 n6 n7, H8) ∧ ∃ n9, n9 < m ∧ (none : Option Nat) = none ∧ I n9 p 0 a5 n6 n7 H8 := by
  intro n1 h1 n2 h2
  have h' := h.up (Le.new (e := mkEnt [.int .u8 lo, .int .u8 hi] 0) h1)
  have ho' := ho.mono (Le.new (e := mkEnt [.int .u8 lo, .int .u8 hi] 0) h1)
  obtain ⟨a', c', H', g1, g2, g3, g4, _⟩ := h'.append (ti := RT2) (m := 1) (new := [.int .u8 lo, .int .u8 hi]) ho' hp h2 rfl (by omega) (by decide) (by decide)
  refine ⟨1, _, knew_of (lit_kold (if_pos rfl) rfl), a', _, c', H', g1, hI a' c' H' g2 ?_ g4⟩
  rw [rgC_app]
  exact g3

theorem c41 {X H : KH} {p : Nat} {s : ByteArray} {i0 i : Nat} {Q : Value → KH → Prop} (h : P3 X H p s i false) (hi : i ≤ s.size) (hs : s.size ≤ 24) (h0 : i0 < i)
    (hq : ∀ Z H' n, OutR X Z H' p s (some ⟨n, 0, none⟩) 1 [(1, (classL s (s.size + 1 - i) [] i false).1)] i0 ((classL s (s.size + 1 - i) [] i false).2.1 + 1) (classL s (s.size + 1 - i) [] i false).2.2 → Q (.slice (some ⟨n, 0, none⟩) 1 1) H') : Does (env Try.prog) 41 [.pointer (some ⟨p, 0, none⟩)] H Q := by
  have hall : ∀ {σ : RdS}, σ.cls = some ([], 0) → _ := fun {σ} q => class_is s (s.size + 1 - i) [] i σ 0 hi (Nat.le_refl _) q (.inl rfl)
  obtain ⟨_, r2, r3, r4, r5⟩ := hall (σ := ⟨[], [], false, 0, some ([], 0)⟩) rfl
  generalize hr : classL s (s.size + 1 - i) [] i false = r at *
  refine fn41 ok ?_
  unfold vc41 vc41_L6
  refine ⟨fun n3 n4 n5 a6 n7 n8 H9 => n4 = p ∧ n5 = 0 ∧ ∃ l j b, n7 = l.length ∧ P3 X H9 p s j b ∧ Own X H9 2 a6 l.length n8 (rgC l) ∧ blk a6 ≠ some p ∧ classL s n3 l j b = r ∧ (b = false → j ≤ s.size) ∧ measC s j b ≤ n3 ∧ l.length ≤ j ∧ j ≤ s.size + 6, ⟨s.size + 1 - i, rfl, rfl, rfl, [], i, false, rfl, h, .nil, (fun q => (by cases q)), hr, fun _ => hi, by simp [measC], by simp, by omega⟩, ?_⟩
  rintro n3 n4 n5 a6 n7 n8 H9 ⟨rfl, rfl, l, j, b, rfl, hP, hO, hnp, hcl, hj, hm, hlj, hju⟩
  have fin : vc41_J5 H9 n4 0 Q a6 l.length n8 → True := fun _ => trivial
  have done : ∀ K, P3 X K n4 s j b → Own X K 2 a6 l.length n8 (rgC l) → r = (l, j, b) → vc41_J5 K n4 0 Q a6 l.length n8 := by
    intro K hK hOK hre
    unfold vc41_J5
    have hw : IntKind.wrap .i64 (((j : Nat) : Int) + 1) = ((j + 1 : Nat) : Int) := by rw [wrap64 (by omega) (by omega)]; omega
    have hK2 := hK.setAt (j + 1)
    refine ⟨rfl, _, hK.c1, rfl, stOk hK.c1 rfl, hK.may, fun n3 hn3 => ?_⟩
    rw [hw] at hn3 ⊢
    have hO2 : Own X (K.put ⟨n4, 1, none⟩ [.int .i64 ((j + 1 : Nat) : Int)]) 2 a6 l.length n8 (rgC l) := hOK.agree fun k e q1 q2 => put_ne (fun x => hnp (by rw [q1, x])) q2
    subst hre
    have r2 : b = false → j < s.size ∧ _ := r2
    obtain ⟨Z, hZ⟩ := OutR.one (i := i0) hK2 hO2 hnp hn3 (by have : i ≤ j := r3; omega) (by have : j ≤ s.size + 5 := r4; omega) (fun q => by have := (r2 q).1; omega)
    exact hq Z _ n3 hZ
  refine ⟨rfl, b, hP.c2, fun hb => ?_, fun hb => ?_⟩
  · have hb : b = false := by simpa using hb
    subst hb
    have hj := hj rfl
    obtain ⟨f, rfl⟩ : ∃ f, n3 = f + 1 := ⟨n3 - 1, by simp [measC] at hm; omega⟩
    have hround : (l = [] ∨ peekM s j ≠ 93) → ∀ K, P3 X K n4 s j false → Own X K 2 a6 l.length n8 (rgC l) → vc41_J4 n4 0 K a6 l.length n8 (f + 1) (fun n3 n4_1 n5 a6 n7 n8 H9 => n4_1 = n4 ∧ n5 = 0 ∧ ∃ l j b, n7 = l.length ∧ P3 X H9 n4 s j b ∧ Own X H9 2 a6 l.length n8 (rgC l) ∧ blk a6 ≠ some n4 ∧ classL s n3 l j b = r ∧ (b = false → j ≤ s.size) ∧ measC s j b ≤ n3 ∧ l.length ≤ j ∧ j ≤ s.size + 6) := by
      intro hx K hK hOK
      have hstep : classL s (f + 1) l j false = classL s f (l ++ [(stepC s j).1]) (stepC s j).2.1 (stepC s j).2.2 := by rw [classL, if_pos ⟨rfl, hx⟩]
      rw [hstep] at hcl
      have hle := step_le s j
      have hlt : j < (stepC s j).2.1 := by
        have h1 := one_le s clsS j
        have h2 := one_le s clsS ((oneM s clsS j).2.1 + 1)
        unfold stepC
        split
        · show j < (oneM s clsS ((oneM s clsS j).2.1 + 1)).2.1; omega
        · show j < (oneM s clsS j).2.1; omega
      have hjj : (stepC s j).2.2 = false → (stepC s j).2.1 ≤ s.size := fun q => (step_ok q).1
      have hmm : measC s (stepC s j).2.1 (stepC s j).2.2 ≤ f := by
        cases hsb : (stepC s j).2.2 with
        | true => simp [measC]
        | false => have := hjj hsb; simp [measC] at hm ⊢; omega
      have o1 := one_le s clsS j
      have conc : ∀ a' c' H', P3 X H' n4 s (stepC s j).2.1 (stepC s j).2.2 → Own X H' 2 a' (l.length + 1) c' (rgC (l ++ [(stepC s j).1])) → blk a' ≠ some n4 → ∃ n9, n9 < f + 1 ∧ (none : Option Nat) = none ∧ (n4 = n4 ∧ 0 = 0 ∧ ∃ l_1 j b, l.length + 1 = l_1.length ∧ P3 X H' n4 s j b ∧ Own X H' 2 a' l_1.length c' (rgC l_1) ∧ blk a' ≠ some n4 ∧ classL s n9 l_1 j b = r ∧ (b = false → j ≤ s.size) ∧ measC s j b ≤ n9 ∧ l_1.length ≤ j ∧ j ≤ s.size + 6) := by
        intro a' c' H' q1 q2 q3
        refine ⟨f, by omega, rfl, rfl, rfl, l ++ [(stepC s j).1], _, _, by simp, q1, by simpa using q2, q3, hcl, hjj, hmm, by simp; omega, by omega⟩
      have ownk : ∀ {K1 K2 : KH}, Own X K1 2 a6 l.length n8 (rgC l) → (∀ k e, k ≠ n4 → K1 k = some e → K2 k = some e) → Own X K2 2 a6 l.length n8 (rgC l) := fun q1 q2 => q1.agree fun k e q3 q4 => q2 k e (fun x => hnp (by rw [q3, x])) q4
      have putk : ∀ {K1 : KH} {o : Nat} {vs : List Value}, (∀ k e, k ≠ n4 → K1 k = some e → (K1.put ⟨n4, o, none⟩ vs) k = some e) := fun {K1} {o} {vs} k e q1 q2 => put_ne q1 q2
      unfold vc41_J4
      refine c42 ok (all := clsS) hK.all' (by decide) (by omega) fun H2 hp2' => ?_
      obtain ⟨hp2, kp2⟩ := hK.kept hp2'
      have ho2 := ownk hOK kp2
      simp only [Bool.false_or] at hp2
      have mono41 : ∀ {lo hi : Int} {i2 : Nat} {b2 : Bool} {K1 : KH}, stepC s j = ((lo, hi), i2, b2) → P3 X K1 n4 s i2 b2 → Own X K1 2 a6 l.length n8 (rgC l) → _ := fun {lo} {hi} {i2} {b2} {K1} e1 e2 e3 => tail41 (m := f + 1) (lo := lo) (hi := hi) (I := fun n3 n4_1 n5 a6 n7 n8 H9 => n4_1 = n4 ∧ n5 = 0 ∧ ∃ l j b, n7 = l.length ∧ P3 X H9 n4 s j b ∧ Own X H9 2 a6 l.length n8 (rgC l) ∧ blk a6 ≠ some n4 ∧ classL s n3 l j b = r ∧ (b = false → j ≤ s.size) ∧ measC s j b ≤ n3 ∧ l.length ≤ j ∧ j ≤ s.size + 6) e2 e3 hnp (by omega) (by rw [e1] at conc; exact conc)
      refine ⟨_, rfl, rfl, _, hp2.c2, fun hg => ?_, fun hg => ?_⟩
      · have hg : (oneM s clsS j).2.2 = false := by simpa using hg
        refine c19 ok hp2 ⟨_, rfl, fun hd => ?_, fun hd => ?_⟩
        · have hd : peekM s (oneM s clsS j).2.1 = 45 := by simpa using hd
          have hst : stepC s j = (((oneM s clsS j).1, (oneM s clsS ((oneM s clsS j).2.1 + 1)).1), (oneM s clsS ((oneM s clsS j).2.1 + 1)).2.1, (oneM s clsS ((oneM s clsS j).2.1 + 1)).2.2 || decide ((oneM s clsS ((oneM s clsS j).2.1 + 1)).1 < (oneM s clsS j).1)) := if_pos ⟨hg, hd⟩
          have hw : IntKind.wrap .i64 (((oneM s clsS j).2.1 : Int) + 1) = (((oneM s clsS j).2.1 + 1 : Nat) : Int) := by rw [wrap64 (by omega) (by omega)]; omega
          have hp3 := hp2.setAt ((oneM s clsS j).2.1 + 1)
          have ho3 := ownk ho2 (putk (o := 1) (vs := [.int .i64 (((oneM s clsS j).2.1 + 1 : Nat) : Int)]))
          refine ⟨rfl, _, hp2.c1, rfl, stOk hp2.c1 rfl, hp2.may, ?_⟩
          rw [hw]
          refine c42 ok (all := clsS) hp3.all' (by decide) (by omega) fun H4 hp4' => ?_
          obtain ⟨hp4, kp4⟩ := hp3.kept hp4'
          have ho4 := ownk ho3 kp4
          refine ⟨_, rfl, fun hx1 => ⟨rfl, stOk hp4.c2 rfl, hp4.may, ?_⟩, fun hx1 => ?_⟩
          · have hp5 := hp4.setBad
            have ho5 := ownk ho4 (putk (o := 2) (vs := [.bool true]))
            have hx1 : decide ((oneM s clsS ((oneM s clsS j).2.1 + 1)).1 < (oneM s clsS j).1) = true := hx1
            rw [hx1, Bool.or_true] at hst
            exact mono41 hst hp5 ho5
          · have hx1 : decide ((oneM s clsS ((oneM s clsS j).2.1 + 1)).1 < (oneM s clsS j).1) = false := hx1
            rw [hx1, Bool.or_false] at hst
            rw [hg, Bool.false_or] at hp4
            exact mono41 hst hp4 ho4
        · have hd : ¬ peekM s (oneM s clsS j).2.1 = 45 := by simpa using hd
          have hst : stepC s j = (((oneM s clsS j).1, (oneM s clsS j).1), (oneM s clsS j).2.1, (oneM s clsS j).2.2) := if_neg (fun q => hd q.2)
          refine ⟨fun q => ?_, fun _ => ?_⟩
          · simp at q
          · unfold vc41_J3
            exact mono41 hst hp2 ho2
      · have hg : (oneM s clsS j).2.2 = true := by simpa using hg
        have hst : stepC s j = (((oneM s clsS j).1, (oneM s clsS j).1), (oneM s clsS j).2.1, (oneM s clsS j).2.2) := if_neg (fun q => by rw [hg] at q; cases q.1)
        refine ⟨fun q => ?_, fun _ => ?_⟩
        · simp at q
        · unfold vc41_J3
          exact mono41 hst hp2 ho2
    refine ⟨fun h1 => ?_, fun h1 => ?_⟩
    · have h1 : l.length = 0 := by simpa using h1
      exact hround (.inl (List.eq_nil_of_length_eq_zero h1)) H9 hP hO
    · have h1 : ¬ l.length = 0 := by simpa using h1
      refine c19 ok hP ⟨_, rfl, fun h2 => ?_, fun h2 => ?_⟩
      · have h2 : peekM s j ≠ 93 := by simpa using h2
        exact hround (.inr h2) H9 hP hO
      · have h2 : peekM s j = 93 := by simpa using h2
        refine done H9 hP hO ?_
        rw [← hcl, classL, if_neg]
        rintro ⟨_, q | q⟩
        · rw [q] at h1; exact h1 rfl
        · exact q h2
  · have hb : b = true := by simpa using hb
    subst hb
    refine done H9 hP hO ?_
    rw [← hcl]
    cases n3 with
    | zero => rfl
    | succ f => rw [classL, if_neg (fun q => by cases q.1)]
end
end Va
end Go.Proofs.Ytphgchjoglgeeaa
