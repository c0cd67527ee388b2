/- Rows that rise; what is put into them; the law ValSets. -/
import Derived.Test.YtnngkkpgdjihgaaEwIns1
set_option linter.unusedVariables false
set_option linter.unusedSimpArgs false
namespace Go.Ew
open Go.Ev Go.Deep Go.Proofs.Ytnngkkpgdjihgaa.Va

/-- A block beside what is known. -/
def addO (K : KH) : Option (Nat × Ent) → KH
  | none => K
  | some (b, E) => K.new b E

def frO (K : KH) : Option (Nat × Ent) → Prop
  | none => True
  | some (b, _) => K b = none

theorem Does.frameO {E : Env} {g : Nat} {args : List Value} {K : KH} {q : Option (Nat × Ent)} {Q : Value → KH → Prop} (hK : frO K q) (h : Does E g args K fun v K' => frO K' q → Q v (addO K' q)) : Does E g args (addO K q) Q := by
  cases q with
  | none => exact h.mono fun v H' k => k trivial
  | some p => obtain ⟨b, e⟩ := p; exact Does.frame hK h

theorem addO_le {K : KH} {q : Option (Nat × Ent)} (h : frO K q) : Le K (addO K q) := by
  cases q with
  | none => exact Le.refl _
  | some p => exact Le.new h

theorem addO_new {K : KH} {q : Option (Nat × Ent)} {n : Nat} {e : Ent} (hn : addO K q n = none) : K n = none ∧ (addO K q).new n e = addO (K.new n e) q ∧ (frO K q → frO (K.new n e) q) := by
  cases q with
  | none => exact ⟨hn, rfl, fun _ => trivial⟩
  | some p =>
    obtain ⟨b, E⟩ := p
    have hbn : b ≠ n := fun e1 => by subst e1; simp [addO, KH.new] at hn
    refine ⟨?_, new_new hbn, fun hf => ?_⟩
    · simp only [addO, KH.new, if_neg (Ne.symm hbn)] at hn; exact hn
    · show (K.new n e) b = none
      simp only [KH.new, if_neg hbn]; exact hf

def OwnO (K : KH) (q : Option (Nat × Ent)) (a : Option Addr) (n c : Nat) (cs : List Value) : Prop := match q with
  | none => a = none ∧ n = 0 ∧ c = 0 ∧ cs = []
  | some (b, E) => a = some ⟨b, 0, none⟩ ∧ Own K (K.new b E) 4 a n c cs

/-- A row that grows, beside what is known. -/
structure Gro (K : KH) (q : Option (Nat × Ent)) (l : List V) (a : Option Addr) (n c : Nat) : Prop where
  fr : frO K q
  len : n = l.length
  ex : ∃ cs, RC K l cs ∧ OwnO K q a n c cs

theorem Gro.mono {K K' : KH} {q : Option (Nat × Ent)} {l : List V} {a : Option Addr} {n c : Nat} (h : Gro K q l a n c) (hl : Le K K') (hf : frO K' q) : Gro K' q l a n c := by
  obtain ⟨h1, h2, cs, h3, h4⟩ := h
  refine ⟨hf, h2, cs, h3.mono hl, ?_⟩
  cases q with
  | none => exact h4
  | some p =>
    obtain ⟨b, E⟩ := p
    obtain ⟨rfl, h5⟩ := h4
    exact ⟨rfl, h5.move (by simp [KH.new]) hf⟩

theorem Gro.out {K : KH} {q : Option (Nat × Ent)} {l : List V} {a : Option Addr} {n c : Nat} (h : Gro K q l a n c) : RS (addO K q) l a ∧ SlOk (addO K q) 4 a l.length c := by
  obtain ⟨h1, h2, cs, h3, h4⟩ := h
  cases q with
  | none =>
    obtain ⟨rfl, rfl, rfl, rfl⟩ := h4
    have : l = [] := List.eq_nil_of_length_eq_zero h2.symm
    subst this
    exact ⟨rfl, rfl⟩
  | some p =>
    obtain ⟨b, E⟩ := p
    obtain ⟨rfl, h5⟩ := h4
    subst h2
    exact ⟨RS.of_cells h5.cells (h3.mono (Le.new h1)), h5.ok (by decide)⟩

theorem Gro.push {K : KH} {q : Option (Nat × Ent)} {l : List V} {v : V} {a : Option Addr} {n c nm : Nat} {cv : List Value} {ti : TI} (h4 : ti.size = 4) (hb : ti.bytes ≤ 1000000) (h : Gro K q l a n c) (hv : RV K v cv) (hnm : addO K q nm = none) (hl : l.length ≤ 1000) :
    ∃ a' c' K' q', kappend (addO K q) nm ti a n c 1 cv = some (.slice a' (n + 1) c', addO K' q') ∧ Gro K' q' (l ++ [v]) a' (n + 1) c' ∧ Le K K' := by
  obtain ⟨h1, h2, cs, h3, h5⟩ := h
  subst h2
  have ho : Own K (addO K q) ti.size a l.length c cs := by
    rw [h4]
    cases q with
    | none =>
      obtain ⟨rfl, e, rfl, rfl⟩ := h5
      rw [e]
      exact .nil
    | some p => obtain ⟨b, E⟩ := p; exact h5.2
  obtain ⟨a', c', H', k1, k2, k3, _, _⟩ := Own.append (ti := ti) (m := 1) (new := cv) ho (addO_le h1) hnm (by rw [h4]; exact hv.len) (by omega) hb (by rw [h4]; decide) (by rw [h4]; decide)
  rw [h4] at k2
  obtain ⟨b, E, rfl, hb1, hb0⟩ := k2.at_ (by omega)
  have hlb : Le K (H'.del b) := k3.del hb0
  refine ⟨_, c', H'.del b, some (b, E), ?_, ⟨del_self _ _, by simp, cs ++ cv, (h3.append (RC.one hv)).mono hlb, rfl, ?_⟩, hlb⟩
  · show _ = some (_, (H'.del b).new b E)
    rw [del_new hb1]; exact k1
  · rw [del_new hb1]
    exact k2.move rfl (del_self _ _)

/- What rises. -/

def InE (z : V) (l : List V) : Prop := ∃ w ∈ l, cmpV w z = 0

theorem InE_nil {z : V} : ¬ InE z [] := fun ⟨_, h, _⟩ => by cases h

theorem InE_cons {z y : V} {l : List V} : InE z (y :: l) ↔ cmpV y z = 0 ∨ InE z l := by
  unfold InE
  constructor
  · rintro ⟨w, hw, h⟩
    rcases List.mem_cons.1 hw with rfl | hw
    · exact .inl h
    · exact .inr ⟨w, hw, h⟩
  · rintro (h | ⟨w, hw, h⟩)
    · exact ⟨y, by simp, h⟩
    · exact ⟨w, by simp [hw], h⟩

theorem ins_place (x : V) : ∀ l : List V, Srt l → ∃ p, p ≤ l.length ∧ (∀ i v, i < p → l[i]? = some v → cmpV v x < 0) ∧ (∀ i v, p ≤ i → l[i]? = some v → 0 ≤ cmpV v x) ∧
    ((∃ v, l[p]? = some v ∧ cmpV v x = 0) → insV x l = l) ∧ ((∀ v, l[p]? = some v → cmpV v x ≠ 0) → insV x l = l.take p ++ [x] ++ l.drop p)
  | [], _ => ⟨0, by simp, by simp, by simp, by simp, by simp [insV]⟩
  | y :: l, h => by
    have hy : ∀ {w}, w ∈ l → cmpV y w < 0 := fun hw => List.rel_of_pairwise_cons h hw
    have hl := h.of_cons
    by_cases hlt : cmpV y x < 0
    · obtain ⟨p, h1, h2, h3, h4, h5⟩ := ins_place x l hl
      refine ⟨p + 1, by simp; omega, fun i v hi hv => ?_, fun i v hi hv => ?_, fun hv => ?_, fun hv => ?_⟩
      · cases i with
        | zero => simp at hv; subst hv; exact hlt
        | succ i => exact h2 i v (by omega) (by simpa using hv)
      · cases i with
        | zero => omega
        | succ i => exact h3 i v (by omega) (by simpa using hv)
      · rw [insV, if_pos hlt, h4 (by simpa using hv)]
      · rw [insV, if_pos hlt, h5 (by simpa using hv)]; simp
    · refine ⟨0, by omega, fun i v hi => by omega, fun i v _ hv => ?_, fun ⟨v, hv, he⟩ => ?_, fun hv => ?_⟩
      · cases i with
        | zero => simp at hv; subst hv; omega
        | succ i =>
          have hm : v ∈ l := List.mem_of_getElem? (by simpa using hv)
          have := hy hm
          have := cmp3 y v x
          omega
      · simp at hv; subst hv
        rw [insV, if_neg hlt, if_pos he]
      · have := hv y (by simp)
        rw [insV, if_neg hlt, if_neg this]; simp

theorem inE_ins (x z : V) : ∀ {l : List V}, Srt l → (InE z (insV x l) ↔ InE z l ∨ cmpV x z = 0)
  | [], _ => by
    rw [insV, InE_cons]
    constructor
    · rintro (h | h)
      · exact .inr h
      · exact absurd h InE_nil
    · rintro (h | h)
      · exact absurd h InE_nil
      · exact .inl h
  | y :: l, h => by
    have hl := h.of_cons
    rw [insV]
    split
    · rw [InE_cons, InE_cons, inE_ins x z hl]
      constructor
      · rintro (q | q | q)
        · exact .inl (.inl q)
        · exact .inl (.inr q)
        · exact .inr q
      · rintro ((q | q) | q)
        · exact .inl q
        · exact .inr (.inl q)
        · exact .inr (.inr q)
    · split
      · rename_i hne he
        constructor
        · exact .inl
        · rintro (q | q)
          · exact q
          · rw [InE_cons]
            left
            have h1 := cmp3 y x z
            have h2 := cmp3 z x y
            have h3 := cmpV_neg x z
            have h4 := cmpV_neg y x
            have h5 := cmpV_neg y z
            omega
      · rw [InE_cons]
        constructor
        · rintro (q | q)
          · exact .inr q
          · exact .inl q
        · rintro (q | q)
          · exact .inr q
          · exact .inl q

theorem cmpL_zero : ∀ {a b : List V}, Srt a → Srt b → (∀ z, InE z a ↔ InE z b) → cmpL a b = 0
  | [], [], _, _, _ => rfl
  | [], y :: b, _, _, h => absurd ((h y).2 ⟨y, by simp, cmpV_refl y⟩) InE_nil
  | x :: a, [], _, _, h => absurd ((h x).1 ⟨x, by simp, cmpV_refl x⟩) InE_nil
  | x :: a, y :: b, ha, hb, h => by
    have hx : ∀ {w}, w ∈ a → cmpV x w < 0 := fun hw => List.rel_of_pairwise_cons ha hw
    have hy : ∀ {w}, w ∈ b → cmpV y w < 0 := fun hw => List.rel_of_pairwise_cons hb hw
    have e1 : cmpV y x ≤ 0 := by
      obtain ⟨w, hw, hwx⟩ := (h x).1 ⟨x, by simp, cmpV_refl x⟩
      rcases List.mem_cons.1 hw with rfl | hw
      · omega
      · have := hy hw
        have := cmp3 y w x
        omega
    have e2 : cmpV x y ≤ 0 := by
      obtain ⟨w, hw, hwy⟩ := (h y).2 ⟨y, by simp, cmpV_refl y⟩
      rcases List.mem_cons.1 hw with rfl | hw
      · omega
      · have := hx hw
        have := cmp3 x w y
        omega
    have e3 : cmpV x y = 0 := by have := cmpV_neg x y; omega
    rw [cmpL, if_neg (by omega)]
    refine cmpL_zero ha.of_cons hb.of_cons fun z => ⟨fun hz => ?_, fun hz => ?_⟩
    · have h1 := (h z).1 (InE_cons.2 (.inr hz))
      rcases InE_cons.1 h1 with q | q
      · exfalso
        obtain ⟨w, hw, hwz⟩ := hz
        have k1 := hx hw
        have k2 := cmp3 x w z
        have k3 := cmp3 x y z
        have k4 := cmp3 z y x
        have k5 := cmpV_neg y z
        have k6 := cmpV_neg x y
        have k7 := cmpV_neg x z
        omega
      · exact q
    · have h1 := (h z).2 (InE_cons.2 (.inr hz))
      rcases InE_cons.1 h1 with q | q
      · exfalso
        obtain ⟨w, hw, hwz⟩ := hz
        have k1 := hy hw
        have k2 := cmp3 y w z
        have k3 := cmp3 y x z
        have k4 := cmp3 z x y
        have k5 := cmpV_neg x z
        have k6 := cmpV_neg x y
        have k7 := cmpV_neg y z
        omega
      · exact q

theorem count_zero {z : V} : ∀ {a : List V}, (∀ w ∈ a, cmpV w z ≠ 0) → (a.countP fun w => decide (cmpV w z = 0)) = 0 := fun {a} h => List.countP_eq_zero.2 fun w hw => by simpa using h w hw

theorem count_one {z : V} : ∀ {a : List V}, Srt a → InE z a → (a.countP fun w => decide (cmpV w z = 0)) = 1
  | [], _, h => absurd h InE_nil
  | y :: a, hs, h => by
    have hy : ∀ {w}, w ∈ a → cmpV y w < 0 := fun hw => List.rel_of_pairwise_cons hs hw
    by_cases he : cmpV y z = 0
    · rw [List.countP_cons_of_pos (by simpa using he), count_zero fun w hw hz => ?_]
      have k1 := hy hw
      have k2 := cmp3 y w z
      omega
    · rw [List.countP_cons_of_neg (by simpa using he)]
      exact count_one hs.of_cons ((InE_cons.1 h).resolve_left he)

/-- All put in. -/
def insAll (l : List V) : List V := l.foldl (fun a v => insV v a) []

theorem insAll_snoc (l : List V) (v : V) : insAll (l ++ [v]) = insV v (insAll l) := by simp [insAll]

theorem insAll_srt : ∀ l : List V, Srt (insAll l) := by
  have go : ∀ (l acc : List V), Srt acc → Srt (l.foldl (fun a v => insV v a) acc) := by
    intro l
    induction l with
    | nil => exact fun acc h => h
    | cons v l ih => exact fun acc h => ih _ (srt_ins v h)
  exact fun l => go l [] List.Pairwise.nil

theorem insAll_in (z : V) (l : List V) : InE z (insAll l) ↔ InE z l := by
  have go : ∀ (l acc : List V), Srt acc → (InE z (l.foldl (fun a v => insV v a) acc) ↔ InE z acc ∨ InE z l) := by
    intro l
    induction l with
    | nil => exact fun acc h => ⟨.inl, fun q => q.resolve_right InE_nil⟩
    | cons v l ih =>
      intro acc h
      rw [List.foldl_cons, ih _ (srt_ins v h), inE_ins v z h, InE_cons]
      constructor
      · rintro ((q | q) | q)
        · exact .inl q
        · exact .inr (.inl q)
        · exact .inr (.inr q)
      · rintro (q | q | q)
        · exact .inl (.inl q)
        · exact .inl (.inr q)
        · exact .inr q
  rw [insAll, go l [] List.Pairwise.nil]
  exact ⟨fun q => q.resolve_left InE_nil, .inr⟩
end Go.Ew
