/- What is read off the code holds of the evaluator: statements whose order is open. -/
import Derived.Test.YtochppfdebfopaaEwS4
set_option linter.unusedVariables false
set_option linter.unusedSimpArgs false
namespace Go.Ew
open Go.Ev Go.Deep

theorem hideK_get (H : KH) (k : Nat) : ∀ l : List Nat, hideK H l k = if k ∈ l then none else H k
  | [] => by simp [hideK]
  | n :: l => by
    simp only [hideK, KH.del, List.mem_cons]
    rw [hideK_get H k l]
    by_cases e : k = n
    · simp [e]
    · simp [e]

theorem backK_get (H H' : KH) (k : Nat) : ∀ l : List Nat, backK H H' l k = if k ∈ l then H k else H' k
  | [] => by simp [backK]
  | n :: l => by
    simp only [backK, List.mem_cons]
    rw [backK_get H H' k l]
    by_cases e : k = n
    · simp [e]
    · simp [e]

theorem mem_hidden {hide : List Nat} {nm : Nat} : ∀ {A : List (Nat × Nat)}, nm ∈ hidden hide A ↔ ∃ i, (i, nm) ∈ A ∧ i ∈ hide
  | [] => by simp [hidden]
  | (i, n) :: A => by
    simp only [hidden]
    cases hm : memN i hide with
    | true =>
      simp only [cond_true, List.mem_cons, mem_hidden (A := A), Prod.mk.injEq]
      constructor
      · rintro (rfl | ⟨j, h1, h2⟩)
        · exact ⟨i, .inl ⟨rfl, rfl⟩, memN_iff.1 hm⟩
        · exact ⟨j, .inr h1, h2⟩
      · rintro ⟨j, ⟨rfl, rfl⟩ | h1, h2⟩
        · exact .inl rfl
        · exact .inr ⟨j, h1, h2⟩
    | false =>
      simp only [cond_false, mem_hidden (A := A), List.mem_cons, Prod.mk.injEq]
      constructor
      · rintro ⟨j, h1, h2⟩; exact ⟨j, .inr h1, h2⟩
      · rintro ⟨j, ⟨rfl, rfl⟩ | h1, h2⟩
        · rw [memN_iff.2 h2] at hm; cases hm
        · exact ⟨j, h1, h2⟩

section
variable {ν : Nat → Nat} {T : TS} {B : BX} {H H0 : KH} {M : Tm} {h h0 : Hp}

theorem Rl.congr (R : Rl ν T B H M h) {h1 : Hp} (hm : ∀ k, tget h1.m k = tget h.m k) (hn : h1.nxt = h.nxt) : Rl ν T B H M h1 where
  tmp := R.tmp
  box b cs q := by obtain ⟨e, g1, g2⟩ := R.box b cs q; exact ⟨e, by rw [hm]; exact g1, g2⟩
  lt b cs q := by rw [hn]; exact R.lt b cs q
  apart := R.apart
  inj := R.inj
  know k e q := by rw [hm]; exact R.know k e q
  wf k q := by rw [hm]; exact R.wf k (by rw [← hn]; exact q)

theorem Fr.congr (F : Fr H0 h0 ν B H h) {h1 : Hp} (hm : ∀ k, tget h1.m k = tget h.m k) (hn : h1.nxt = h.nxt) : Fr H0 h0 ν B H h1 :=
  ⟨by rw [hn]; exact F.nxt, fun k q1 q2 => by rw [hm]; exact F.keep k q1 q2, F.new, F.box⟩

/-- A loud one that touches no box. -/
theorem loud_far {W : WE} (hE : EnvT W.E) {ops : Array Oper} {base : Nat} {X : List Nat} {A : List (Nat × Nat)} {o : Oper} {hide : List Nat} {K : TS → SV → KH → Prop} (hb0 : h0.nxt ≤ base) (I : In ops base X A ν B H h) (R : Rl ν T B H M h) (F : Fr H0 h0 ν B H h)
    (hh : ∀ i ∈ hide, i < ops.size) (hall : allB o.op = false) (hw : wOp W (anyNm H) o T .nil (hideK H (hidden hide A)) fun T s _ H' => K T s H') :
    ∃ s T' H' h2, (∃ n, ∀ m, n ≤ m → xop W.E (callA W.E (ev W.E m)) h.nxt o M ⟨hideAll base h.m hide, h.nxt⟩ = some (den ν s, h2)) ∧
      Rl ν T' B (backK H H' (hidden hide A)) M ⟨backAll base h.m h2.m hide, h2.nxt⟩ ∧ Fr H0 h0 ν B (backK H H' (hidden hide A)) ⟨backAll base h.m h2.m hide, h2.nxt⟩ ∧ K T' s H' ∧
      In ops base X A ν B (backK H H' (hidden hide A)) ⟨backAll base h.m h2.m hide, h2.nxt⟩ ∧ ∀ k ∈ hidden hide A, H' k = none := by
  -- names that are hidden
  have hn1 : ∀ k, H k ≠ none → (∃ i ∈ hide, k = base + i) → k ∈ hidden hide A := by
    rintro k hk ⟨i, hi, rfl⟩
    exact mem_hidden.2 ⟨i, I.names i (hh i hi) hk, hi⟩
  have hn2 : ∀ k, k ∈ hidden hide A → ∃ i ∈ hide, k = base + i := by
    intro k hk
    obtain ⟨i, h1, h2⟩ := mem_hidden.1 hk
    exact ⟨i, h2, I.nms i k h1⟩
  have hdec : ∀ k, (∃ i ∈ hide, k = base + i) ∨ (∀ i ∈ hide, k ≠ base + i) := by
    intro k
    rcases Classical.em (∃ i ∈ hide, k = base + i) with q | q
    · exact .inl q
    · exact .inr fun i hi e => q ⟨i, hi, e⟩
  have hltn : ∀ k, (∃ i ∈ hide, k = base + i) → k < h.nxt ∧ base ≤ k := by
    rintro k ⟨i, hi, rfl⟩
    have := hh i hi
    have := I.nxt
    omega
  have Rh : Rl ν T .nil (hideK H (hidden hide A)) M ⟨hideAll base h.m hide, h.nxt⟩ := by
    refine ⟨R.tmp, fun b cs q => (by cases q), fun b cs q => (by cases q), fun b cs q => (by cases q), fun b b' cs cs' q => (by cases q), fun k e q => ?_, fun k q => ?_⟩
    · rw [hideK_get] at q
      split at q
      · cases q
      · rename_i hk
        rcases hdec k with g | g
        · exact absurd (hn1 k (by rw [q]; simp) g) hk
        · rw [hide_get.2 g]; exact R.know k e q
    · rcases hdec k with g | g
      · exact hide_get.1 g
      · rw [hide_get.2 g]; exact R.wf k q
  have Fh : Fr H0 h0 ν .nil (hideK H (hidden hide A)) ⟨hideAll base h.m hide, h.nxt⟩ := by
    refine ⟨F.nxt, fun k q1 q2 => ?_, fun k q => ?_, fun b cs q => (by cases q)⟩
    · have g : ∀ i ∈ hide, k ≠ base + i := fun i _ e => by omega
      rw [hide_get.2 g]
      exact F.keep k q1 q2
    · rw [hideK_get] at q
      split at q
      · exact absurd rfl q
      · exact F.new k q
  obtain ⟨s, T', B', H', ν', h2, d⟩ := wOp_sound hE hw Rh Fh (nm := h.nxt) (fun k q => q _ R.fresh) (fun _ => ⟨Rh.wf _ (Nat.le_refl _), Rh.fresh, fun b cs q => (by cases q), F.nxt⟩)
  have hν := d.nu hall
  subst hν
  have hup : h.nxt ≤ h2.nxt := d.xt.up
  have hnew : ∀ k, k < h.nxt → H' k ≠ none → H k ≠ none ∧ k ∉ hidden hide A := by
    intro k hk hq
    rcases d.xt.newk k hq with g | g | g
    · rw [hideK_get] at g
      split at g
      · exact absurd rfl g
      · rename_i hm; exact ⟨g, hm⟩
    · omega
    · have : h.nxt ≤ k := g; omega
  have hnone : ∀ k, H k = none → hideK H (hidden hide A) k = none := by
    intro k hk
    rw [hideK_get]
    split
    · rfl
    · exact hk
  have hkeep : ∀ k, k < h.nxt → H k = none → tget (backAll base h.m h2.m hide) k = tget h.m k := by
    intro k hk hq
    rcases hdec k with g | g
    · exact back_get.1 g
    · rw [back_get.2 g]
      have := d.xt.keepk k hk (hnone k hq) (by omega) (fun b cs q => (by cases q))
      rw [this]
      exact hide_get.2 g
  refine ⟨s, T', H', h2, d.run, ?_, ?_, d.post, ?_, fun k hk => ?_⟩
  case refine_4 =>
    cases hq : H' k with
    | none => rfl
    | some e => exact absurd hk (hnew k (hltn k (hn2 k hk)).1 (by rw [hq]; simp)).2
  · refine ⟨d.rl.tmp, fun b cs q => ?_, fun b cs q => Nat.lt_of_lt_of_le (R.lt b cs q) hup, fun b cs q => ?_, R.inj, fun k e q => ?_, fun k q => ?_⟩
    · obtain ⟨e, g1, g2⟩ := R.box b cs q
      refine ⟨e, ?_, g2⟩
      show tget (backAll base h.m h2.m hide) (ν' b) = some e
      rw [hkeep _ (R.lt b cs q) (R.apart b cs q)]
      exact g1
    · rw [backK_get]
      split
      · exact R.apart b cs q
      · cases hq : H' (ν' b) with
        | none => rfl
        | some e => exact absurd (R.apart b cs q) (hnew _ (R.lt b cs q) (by rw [hq]; simp)).1
    · rw [backK_get] at q
      show tget (backAll base h.m h2.m hide) k = some e
      split at q
      · rename_i hm
        rw [back_get.1 (hn2 k hm)]
        exact R.know k e q
      · rename_i hm
        rcases hdec k with g | g
        · have := hnew k (hltn k g).1 (by rw [q]; simp)
          exact absurd (hn1 k this.1 g) hm
        · rw [back_get.2 g]; exact d.rl.know k e q
    · show tget (backAll base h.m h2.m hide) k = none
      have q' : h2.nxt ≤ k := q
      have g : ∀ i ∈ hide, k ≠ base + i := fun i hi e => by have := hh i hi; have := I.nxt; omega
      rw [back_get.2 g]
      exact d.rl.wf k q'
  · refine ⟨Nat.le_trans F.nxt hup, fun k q1 q2 => ?_, fun k q => ?_, F.box⟩
    · show tget (backAll base h.m h2.m hide) k = _
      have g : ∀ i ∈ hide, k ≠ base + i := fun i _ e => by omega
      rw [back_get.2 g]
      exact d.fr.keep k q1 q2
    · rw [backK_get] at q
      split at q
      · rename_i hm
        exact .inr (Nat.le_trans hb0 (hltn k (hn2 k hm)).2)
      · exact d.fr.new k q
  · refine ⟨Nat.le_trans I.nxt hup, fun i hi hx => ?_, fun i hi hq => ?_, I.boxes, I.nms⟩
    · show tget (backAll base h.m h2.m hide) (base + i) = none
      have hf := I.fresh i hi hx
      have hHn : H (base + i) = none := by
        cases hq : H (base + i) with
        | none => rfl
        | some e => have := R.know _ _ hq; rw [hf] at this; cases this
      rw [hkeep _ (by have := I.nxt; omega) hHn]
      exact hf
    · rw [backK_get] at hq
      split at hq
      · exact I.names i hi hq
      · exact I.names i hi (hnew _ (by have := I.nxt; omega) hq).1

/-- A loud one. -/
theorem loud_one {W : WE} (hE : EnvT W.E) {ops : Array Oper} {base : Nat} {X : List Nat} {A : List (Nat × Nat)} {o : Oper} {hide : List Nat} {K : TS → SV → BX → KH → Prop} (hb0 : h0.nxt ≤ base) (I : In ops base X A ν B H h) (R : Rl ν T B H M h) (F : Fr H0 h0 ν B H h)
    (hl : loudOk ops T o hide = true) (hw : wOp W (anyNm H) o T B (hideK H (hidden hide A)) K) :
    ∃ s T' B' H' h2, (∃ n, ∀ m, n ≤ m → xop W.E (callA W.E (ev W.E m)) h.nxt o M ⟨hideAll base h.m hide, h.nxt⟩ = some (den ν s, h2)) ∧
      Rl ν T' B' (backK H H' (hidden hide A)) M ⟨backAll base h.m h2.m hide, h2.nxt⟩ ∧ Fr H0 h0 ν B' (backK H H' (hidden hide A)) ⟨backAll base h.m h2.m hide, h2.nxt⟩ ∧ K T' s B' H' ∧
      In ops base X A ν B' (backK H H' (hidden hide A)) ⟨backAll base h.m h2.m hide, h2.nxt⟩ ∧ ∀ k ∈ hidden hide A, H' k = none := by
  unfold loudOk at hl
  simp only [Bool.and_eq_true, List.all_eq_true] at hl
  obtain ⟨hh0, hl⟩ := hl
  have hh : ∀ i ∈ hide, i < ops.size := fun i hi => Nat.le_of_ble_eq_true (hh0 i hi)
  have far : allB o.op = false → wOp W (anyNm H) o T .nil (hideK H (hidden hide A)) (fun T s _ H' => K T s B H') → _ := fun h1 h2 => loud_far (K := fun T s H' => K T s B H') hE hb0 I R F hh h1 h2
  have out : (∃ s T' H' h2, (∃ n, ∀ m, n ≤ m → xop W.E (callA W.E (ev W.E m)) h.nxt o M ⟨hideAll base h.m hide, h.nxt⟩ = some (den ν s, h2)) ∧
      Rl ν T' B (backK H H' (hidden hide A)) M ⟨backAll base h.m h2.m hide, h2.nxt⟩ ∧ Fr H0 h0 ν B (backK H H' (hidden hide A)) ⟨backAll base h.m h2.m hide, h2.nxt⟩ ∧ K T' s B H' ∧
      In ops base X A ν B (backK H H' (hidden hide A)) ⟨backAll base h.m h2.m hide, h2.nxt⟩ ∧ ∀ k ∈ hidden hide A, H' k = none) → ∃ s T' B' H' h2, (∃ n, ∀ m, n ≤ m → xop W.E (callA W.E (ev W.E m)) h.nxt o M ⟨hideAll base h.m hide, h.nxt⟩ = some (den ν s, h2)) ∧
      Rl ν T' B' (backK H H' (hidden hide A)) M ⟨backAll base h.m h2.m hide, h2.nxt⟩ ∧ Fr H0 h0 ν B' (backK H H' (hidden hide A)) ⟨backAll base h.m h2.m hide, h2.nxt⟩ ∧ K T' s B' H' ∧
      In ops base X A ν B' (backK H H' (hidden hide A)) ⟨backAll base h.m h2.m hide, h2.nxt⟩ ∧ ∀ k ∈ hidden hide A, H' k = none := fun ⟨s, T', H', h2, q⟩ => ⟨s, T', B, H', h2, q⟩
  split at hl
  · -- a store
    rename_i t a x ho
    simp only [wOp, ho] at hw
    cases hs : opS T a with
    | none => unfold wStore at hw; rw [hs] at hw; exact hw.elim
    | some sa =>
      cases sa with
      | q b => unfold wStore at hw; rw [hs] at hw; exact hw.elim
      | v p =>
        refine out (far (by rw [ho]; rfl) ?_)
        simp only [wOp, ho]
        unfold wStore at hw ⊢
        rw [hs] at hw ⊢
        split at hw
        · rename_i e1 _ _; cases e1
        · rename_i ad v ti e1 hv hti
          cases e1
          simp only [hv, hti]
          exact hw
        · exact hw.elim
      | r b off =>
        rw [hs] at hl
        simp only [List.all_eq_true] at hl
        unfold wStore at hw
        rw [hs] at hw
        simp only at hw
        split at hw
        · rename_i b1 off1 v ti e1 hv hti
          cases e1
          split at hw
          · rename_i cs vs hcs hvs
            cases hq : (Nat.beq vs.length ti.size && Nat.ble (off + vs.length) cs.length) <;> simp only [hq, cond_true, cond_false] at hw
            simp only [Bool.and_eq_true] at hq
            have hle := Nat.le_of_ble_eq_true hq.2
            have hvis : ∀ i ∈ hide, ν b ≠ base + i := fun i hi e => by
              obtain ⟨o', h1, h2⟩ := I.boxes b cs hcs i (hh i hi) e
              have := hl i hi
              rw [h1] at this
              simp only [Option.bind_some, h2] at this
              simp at this
            obtain ⟨h', g1, g2, g3, g4⟩ := R.wrBox (vs := vs) hcs hle
            obtain ⟨e, he1, he2, he3⟩ := R.box b cs hcs
            have hrd := R.rdBox hcs hle
            have hst : hstore ⟨hideAll base h.m hide, h.nxt⟩ ⟨ν b, off, none⟩ vs = some ⟨tset (hideAll base h.m hide) (ν b) (some ⟨wr e.cells off vs, e.len, e.unk, none⟩), h.nxt⟩ := by
              unfold hstore
              unfold hload at hrd
              simp only [he1] at hrd
              simp only [hide_get.2 hvis, he1, hrd, he2, cond_true]
            have hst' : hstore h ⟨ν b, off, none⟩ vs = some ⟨tset h.m (ν b) (some ⟨wr e.cells off vs, e.len, e.unk, none⟩), h.nxt⟩ := by
              unfold hstore
              unfold hload at hrd
              simp only [he1] at hrd
              simp only [he1, hrd, he2, cond_true]
            rw [hst'] at g1
            have g1 := Option.some.inj g1
            have hpt : ∀ k, tget (backAll base h.m (tset (hideAll base h.m hide) (ν b) (some ⟨wr e.cells off vs, e.len, e.unk, none⟩)) hide) k = tget h'.m k := by
              intro k
              rw [← g1]
              show _ = tget (tset h.m (ν b) _) k
              rcases Classical.em (∃ i ∈ hide, k = base + i) with q | q
              · rw [back_get.1 q, tget_tset_ne _ _ _ _ (fun e1 => by obtain ⟨i, hi, e2⟩ := q; exact hvis i hi (by omega))]
              · have q' : ∀ i ∈ hide, k ≠ base + i := fun i hi e => q ⟨i, hi, e⟩
                rw [back_get.2 q', tget_tset, tget_tset, hide_get.2 q']
            have hHH : backK H (hideK H (hidden hide A)) (hidden hide A) = H := by
              funext k
              rw [backK_get, hideK_get]
              split <;> rfl
            refine ⟨.v undefV, T, tset B b (some (lput cs off vs)), hideK H (hidden hide A), ⟨tset (hideAll base h.m hide) (ν b) (some ⟨wr e.cells off vs, e.len, e.unk, none⟩), h.nxt⟩, ⟨0, fun m _ => ?_⟩, ?_, ?_, hw, ?_, fun k hk => by rw [hideK_get, if_pos hk]⟩
            · simp only [xop, xopR, ho, xStore, R.op hs, R.opW hv, den, hti, hvs, ob, hq.1, cond_true, hst]
            · rw [hHH]
              exact g4.congr hpt g2.symm
            · rw [hHH]
              exact (F.wrBox hcs g2 g3).congr hpt g2.symm
            · rw [hHH]
              refine ⟨I.nxt, fun i hi hx => ?_, I.names, fun b' cs' q i hi e' => ?_, I.nms⟩
              · show tget (backAll base h.m _ hide) (base + i) = none
                rw [hpt, g3 _ (fun e1 => by have := I.fresh i hi hx; rw [e1, he1] at this; cases this)]
                exact I.fresh i hi hx
              · rw [tget_tset] at q
                by_cases e1 : b = b'
                · subst e1; exact I.boxes b cs hcs i hi e'
                · rw [if_neg e1] at q; exact I.boxes b' cs' q i hi e'
          · exact hw.elim
        · rename_i e1 _ _; cases e1
        · exact hw.elim
  · rename_i c ho
    refine out (far (by rw [ho]; rfl) ?_)
    simp only [wOp, ho] at hw ⊢
    exact hw
  · cases hl

theorem avoid_out {H : KH} {p : Prop} : ∀ (l : List Nat), (∀ k ∈ l, H k = none) → avoid H l p → p
  | [], _, h => h
  | n :: l, hv, h => avoid_out l (fun k hk => hv k (by simp [hk])) (h (hv n (by simp)))

theorem wStages_sound {W : WE} (hE : EnvT W.E) {ops : Array Oper} {base : Nat} (hb0 : h0.nxt ≤ base) {K : TS → BX → KH → Prop} : ∀ (l : List Stage) {X : List Nat} {A : List (Nat × Nat)} {ν : Nat → Nat} {T : TS} {B : BX} {H : KH} {M : Tm} {h : Hp},
    wStages W ops l X A T B H K → In ops base X A ν B H h → Rl ν T B H M h → Fr H0 h0 ν B H h →
    ∃ T' B' H' ν' M' h', (∃ n, ∀ m, n ≤ m → xstages W.E (callA W.E (ev W.E m)) ops base l M h = some (M', h')) ∧ Rl ν' T' B' H' M' h' ∧ Fr H0 h0 ν' B' H' h' ∧ K T' B' H'
  | [], X, A, ν, T, B, H, M, h, hw, I, R, F => ⟨T, B, H, ν, M, h, ⟨0, fun _ _ => rfl⟩, R, F, hw⟩
  | s :: l, X, A, ν, T, B, H, M, h, hw, I, R, F => by
    simp only [wStages] at hw
    have hre := wRe_sound hE s.re hw.1 R (base := base)
    obtain ⟨X1, A1, T1, B1, H1, ν1, M1, h1, hr1, R1, F1, I1, k1⟩ := wPre_sound hE hb0 s.pre hw.2 I R F
    cases hl : s.loud with
    | none =>
      rw [hl] at k1
      simp only at k1
      cases l with
      | cons a b => exact k1.elim
      | nil =>
        refine ⟨T1, B1, H1, ν1, M1, h1, ⟨0, fun m _ => ?_⟩, R1, F1, k1⟩
        simp only [xstages, hre, cond_true, hr1, hl]
    | some i =>
      rw [hl] at k1
      simp only at k1
      split at k1
      · exact k1.elim
      · rename_i o ho
        rcases wWant_sound R1 k1 with ⟨g1, T2, R2, g2⟩ | ⟨g1, T2, R2, g2⟩
        · cases hlo : loudOk ops T2 o s.hide <;> rw [hlo] at g2 <;> simp only [cond_true, cond_false] at g2
          obtain ⟨sv, T3, B3, H3, h3, ⟨n1, hr3⟩, R3, F3, k3, I3, v3⟩ := loud_one hE hb0 I1 R2 F1 hlo g2
          have k3 := avoid_out _ v3 k3
          obtain ⟨T4, B4, H4, ν4, M4, h4, ⟨n2, hr4⟩, R4, F4, k4⟩ := wStages_sound hE hb0 l k3 I3 (R3.put o.dst sv) F3
          refine ⟨T4, B4, H4, ν4, M4, h4, ⟨max n1 n2, fun m hm => ?_⟩, R4, F4, k4⟩
          simp only [xstages, hre, cond_true, hr1, hl, ho, g1, hr3 m (by omega), hr4 m (by omega)]
        · obtain ⟨T4, B4, H4, ν4, M4, h4, ⟨n2, hr4⟩, R4, F4, k4⟩ := wStages_sound hE hb0 l g2 I1 (R2.put o.dst (.v undefV)) F1
          refine ⟨T4, B4, H4, ν4, M4, h4, ⟨n2, fun m hm => ?_⟩, R4, F4, k4⟩
          have := hr4 m hm
          rw [undef_den] at this
          simp only [xstages, hre, cond_true, hr1, hl, ho, g1, this]
end
end Go.Ew
