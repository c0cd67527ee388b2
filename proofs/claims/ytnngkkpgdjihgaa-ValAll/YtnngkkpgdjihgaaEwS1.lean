/- What is read off the code holds of the evaluator: states. -/
import Derived.Test.YtnngkkpgdjihgaaEwDefs
import Derived.Test.YtnngkkpgdjihgaaEvDraw3
set_option linter.unusedVariables false
set_option linter.unusedSimpArgs false
namespace Go.Ew
open Go.Ev Go.Deep

def den (ν : Nat → Nat) : SV → Value
  | .v x => x
  | .q b => .bool b
  | .r t off => .pointer (some ⟨ν t, off, none⟩)

theorem den_val {ν : Nat → Nat} {s : SV} {x : Value} (h : s.val = some x) : den ν s = x := by
  cases s <;> simp only [SV.val, Option.some.injEq, reduceCtorEq] at h <;> exact h

theorem den_toSV (ν : Nat → Nat) (v : Value) : den ν (toSV v) = v := by cases v <;> rfl

/-- A state that is thought of, and the evaluator's. -/
structure Rl (ν : Nat → Nat) (T : TS) (B : BX) (H : KH) (M : Tm) (h : Hp) : Prop where
  tmp : ∀ t s, tget T t = some s → tget M t = some (den ν s)
  box : ∀ b cs, tget B b = some cs → ∃ e, tget h.m (ν b) = some e ∧ wrB e = true ∧ ∀ i, tget e.cells i = cs[i]?
  lt : ∀ b cs, tget B b = some cs → ν b < h.nxt
  apart : ∀ b cs, tget B b = some cs → H (ν b) = none
  inj : ∀ b b' cs cs', tget B b = some cs → tget B b' = some cs' → ν b = ν b' → b = b'
  know : ∀ k e, H k = some e → tget h.m k = some e
  wf : ∀ k, h.nxt ≤ k → tget h.m k = none

/-- Since a beginning nothing else was touched. -/
structure Fr (H0 : KH) (h0 : Hp) (ν : Nat → Nat) (B : BX) (H : KH) (h : Hp) : Prop where
  nxt : h0.nxt ≤ h.nxt
  keep : ∀ k, k < h0.nxt → H0 k = none → tget h.m k = tget h0.m k
  new : ∀ k, H k ≠ none → H0 k ≠ none ∨ h0.nxt ≤ k
  box : ∀ b cs, tget B b = some cs → h0.nxt ≤ ν b

section
variable {ν : Nat → Nat} {T : TS} {B : BX} {H : KH} {M : Tm} {h : Hp}

theorem Rl.op (R : Rl ν T B H M h) {x : Operand} {s : SV} (hx : opS T x = some s) : opv M x = some (den ν s) := by
  cases x with
  | tmp t => exact R.tmp t s hx
  | const c =>
    simp only [opS] at hx
    simp only [opv]
    cases hp : isPlain c <;> rw [hp] at hx <;> cases hx
    rfl
  | func f => cases hx; rfl
  | «global» g => cases hx

theorem Rl.opW (R : Rl ν T B H M h) {x : Operand} {v : Value} (hx : opW T x = some v) : opv M x = some v := by
  unfold Ew.opW at hx
  split at hx
  · rename_i s hs
    rw [R.op hs, den_val hx]
  · cases hx

theorem Rl.opWs (R : Rl ν T B H M h) : ∀ {l : List Operand} {vs : List Value}, opWs T l = some vs → opvs (opv M) l = some vs
  | [], vs, hx => by cases hx; rfl
  | x :: l, vs, hx => by
    simp only [Ew.opWs] at hx
    split at hx
    · cases hx
    · rename_i v hv
      split at hx
      · cases hx
      · rename_i r hr
        cases hx
        simp only [opvs, R.opW hv, R.opWs hr]

theorem Rl.opWo (R : Rl ν T B H M h) {x : Option Operand} {v : Option Value} (hx : opWo T x = some v) : optv (opv M) x = some v := by
  cases x with
  | none => cases hx; rfl
  | some x =>
    simp only [Ew.opWo] at hx
    split at hx
    · rename_i u hu
      cases hx
      simp only [optv, R.opW hu]
    · cases hx

theorem Rl.parts (R : Rl ν T B H M h) {pl : Nat → Option (Nat × Nat)} : ∀ {l : List (Nat × Operand)} {ps : List (Nat × Nat × Value)}, partsS T pl l = some ps → partsA (opv M) pl l = some ps
  | [], ps, hx => by cases hx; rfl
  | (i, x) :: l, ps, hx => by
    simp only [partsS] at hx
    split at hx
    · rename_i off sz v r h1 h2 h3
      cases hx
      simp only [partsA, h1, R.opW h2, R.parts h3]
    · cases hx

/-- Of less one knows less. -/
def SubT (T1 T : TS) : Prop := ∀ t s, tget T1 t = some s → ∃ s', tget T t = some s' ∧ ∀ ν, den ν s = den ν s'

def SubB (B1 B : BX) : Prop := ∀ b cs, tget B1 b = some cs → tget B b = some cs

theorem SubT.refl (T : TS) : SubT T T := fun t s q => ⟨s, q, fun _ => rfl⟩

theorem Rl.sub (R : Rl ν T B H M h) {T1 : TS} {B1 : BX} (ht : SubT T1 T) (hb : SubB B1 B) : Rl ν T1 B1 H M h where
  tmp t s q := by
    obtain ⟨s', h1, h2⟩ := ht t s q
    rw [h2 ν]
    exact R.tmp t s' h1
  box b cs q := R.box b cs (hb b cs q)
  lt b cs q := R.lt b cs (hb b cs q)
  apart b cs q := R.apart b cs (hb b cs q)
  inj b b' cs cs' q q' := R.inj b b' cs cs' (hb b cs q) (hb b' cs' q')
  know := R.know
  wf := R.wf

theorem Fr.sub {H0 : KH} {h0 : Hp} (F : Fr H0 h0 ν B H h) {B1 : BX} (hb : SubB B1 B) : Fr H0 h0 ν B1 H h :=
  ⟨F.nxt, F.keep, F.new, fun b cs q => F.box b cs (hb b cs q)⟩

/-- A value is put down. -/
theorem Rl.put (R : Rl ν T B H M h) (dst : Option Tmp) (s : SV) : Rl ν (putS T dst s) B H (tputD M dst (den ν s)) h := by
  cases dst with
  | none => exact R
  | some d =>
    refine ⟨fun t u q => ?_, R.box, R.lt, R.apart, R.inj, R.know, R.wf⟩
    simp only [putS, tget_tset] at q
    simp only [tputD, tget_tset]
    by_cases e : d = t
    · rw [if_pos e] at q ⊢
      cases q
      rfl
    · rw [if_neg e] at q ⊢
      exact R.tmp t u q

/-- A bool that is known now. -/
theorem Rl.told (R : Rl ν T B H M h) {d : Nat} {s s' : SV} (hd : tget T d = some s) (he : den ν s = den ν s') : Rl ν (tset T d (some s')) B H M h := by
  refine ⟨fun t u q => ?_, R.box, R.lt, R.apart, R.inj, R.know, R.wf⟩
  simp only [tget_tset] at q
  by_cases e : d = t
  · rw [if_pos e] at q
    cases q
    subst e
    rw [← he]
    exact R.tmp d s hd
  · rw [if_neg e] at q
    exact R.tmp t u q

theorem purge_get (d : Nat) : ∀ (T : TS) (t : Nat) (s : SV), tget (purge d T) t = some s → tget T t = some s ∧ ∀ o, s ≠ .r d o
  | .nil, t, s, h => by cases h
  | .node a b x l r, t, s, h => by
    cases t with
    | zero =>
      simp only [purge, tget] at h ⊢
      split at h
      · rename_i t' o
        cases hb : Nat.beq t' d <;> rw [hb] at h <;> cases h
        exact ⟨rfl, fun o' e => by cases e; simp at hb⟩
      · rename_i hne
        refine ⟨h, fun o e => ?_⟩
        subst e
        exact hne d o h
    | succ m =>
      simp only [purge, tget] at h ⊢
      cases hb : Nat.beq (Nat.mod m 2) 0 <;> rw [hb] at h <;> simp only [cond_true, cond_false] at h ⊢
      · exact purge_get d r _ s h
      · exact purge_get d l _ s h

/-- A new block that is known. -/
theorem Rl.alloc (R : Rl ν T B H M h) {nm : Nat} {e : Ent} (hf : tget h.m nm = none) (hnb : ∀ b cs, tget B b = some cs → ν b ≠ nm) : Rl ν T B (H.new nm e) M (halloc h nm e) := by
  refine ⟨R.tmp, fun b cs q => ?_, fun b cs q => ?_, fun b cs q => ?_, R.inj, fun k e' q => ?_, fun k hk => ?_⟩
  · obtain ⟨e', h1, h2⟩ := R.box b cs q
    refine ⟨e', ?_, h2⟩
    simp only [halloc, tget_tset]
    rw [if_neg (Ne.symm (hnb b cs q)), h1]
  · have := R.lt b cs q
    simp only [halloc]; omega
  · simp only [KH.new]
    rw [if_neg (hnb b cs q)]
    exact R.apart b cs q
  · simp only [KH.new] at q
    simp only [halloc, tget_tset]
    by_cases hk : k = nm
    · rw [if_pos hk] at q
      rw [if_pos hk.symm, q]
    · rw [if_neg hk] at q
      rw [if_neg (Ne.symm hk)]
      exact R.know k e' q
  · simp only [halloc] at hk ⊢
    rw [tget_tset, if_neg (by omega)]
    exact R.wf k (by omega)

theorem Fr.alloc {H0 : KH} {h0 : Hp} (F : Fr H0 h0 ν B H h) {nm : Nat} {e : Ent} (hn : h0.nxt ≤ nm) : Fr H0 h0 ν B (H.new nm e) (halloc h nm e) := by
  refine ⟨?_, fun k hk h1 => ?_, fun k hk => ?_, F.box⟩
  · have := F.nxt; simp only [halloc]; omega
  · simp only [halloc]
    rw [tget_tset, if_neg (by omega)]
    exact F.keep k hk h1
  · simp only [KH.new] at hk
    by_cases e : k = nm
    · exact .inr (by omega)
    · rw [if_neg e] at hk; exact F.new k hk

/-- A new box. -/
theorem Rl.newBox (R : Rl ν T B H M h) {nm d : Nat} {cs : List Value} (hf : tget h.m nm = none) (hHn : H nm = none) (hnb : ∀ b cs, tget B b = some cs → ν b ≠ nm) :
    Rl (fun b => if b = d then nm else ν b) (purge d T) (tset B d (some cs)) H M (halloc h nm (mkEnt cs 0)) := by
  refine ⟨fun t s q => ?_, fun b cs' q => ?_, fun b cs' q => ?_, fun b cs' q => ?_, fun b b' c1 c2 q q' e => ?_, fun k e' q => ?_, fun k hk => ?_⟩
  · obtain ⟨h1, h2⟩ := purge_get d T t s q
    rw [R.tmp t s h1]
    cases s with
    | v x => rfl
    | q b => rfl
    | r t' o =>
      simp only [den]
      rw [if_neg (fun e => h2 o (by rw [e]))]
  · rw [tget_tset] at q
    by_cases e : d = b
    · rw [if_pos e] at q
      cases q
      refine ⟨mkEnt cs 0, ?_, rfl, fun i => ?_⟩
      · simp only [if_pos e.symm, halloc, tget_tset, if_true]
      · simp only [mkEnt]; exact tget_wr_nil cs i
    · rw [if_neg e] at q
      obtain ⟨e', h1, h2⟩ := R.box b cs' q
      refine ⟨e', ?_, h2⟩
      simp only [if_neg (Ne.symm e), halloc, tget_tset]
      rw [if_neg (Ne.symm (hnb b cs' q)), h1]
  · rw [tget_tset] at q
    by_cases e : d = b
    · simp only [if_pos e.symm, halloc]; omega
    · rw [if_neg e] at q
      have := R.lt b cs' q
      simp only [if_neg (Ne.symm e), halloc]; omega
  · rw [tget_tset] at q
    by_cases e : d = b
    · simp only [if_pos e.symm]; exact hHn
    · rw [if_neg e] at q
      simp only [if_neg (Ne.symm e)]; exact R.apart b cs' q
  · rw [tget_tset] at q q'
    by_cases e1 : d = b
    · by_cases e2 : d = b'
      · omega
      · rw [if_neg e2] at q'
        simp only [if_pos e1.symm, if_neg (Ne.symm e2)] at e
        exact absurd e.symm (hnb b' c2 q')
    · rw [if_neg e1] at q
      by_cases e2 : d = b'
      · simp only [if_neg (Ne.symm e1), if_pos e2.symm] at e
        exact absurd e (hnb b c1 q)
      · rw [if_neg e2] at q'
        simp only [if_neg (Ne.symm e1), if_neg (Ne.symm e2)] at e
        exact R.inj b b' c1 c2 q q' e
  · simp only [halloc, tget_tset]
    rw [if_neg (fun e => by subst e; rw [hHn] at q; cases q)]
    exact R.know k e' q
  · simp only [halloc] at hk ⊢
    rw [tget_tset, if_neg (by omega)]
    exact R.wf k (by omega)

theorem Fr.newBox {H0 : KH} {h0 : Hp} (F : Fr H0 h0 ν B H h) {nm d : Nat} {cs : List Value} (hn : h0.nxt ≤ nm) : Fr H0 h0 (fun b => if b = d then nm else ν b) (tset B d (some cs)) H (halloc h nm (mkEnt cs 0)) := by
  refine ⟨?_, fun k hk h1 => ?_, F.new, fun b cs' q => ?_⟩
  · have := F.nxt; simp only [halloc]; omega
  · simp only [halloc]
    rw [tget_tset, if_neg (by omega)]
    exact F.keep k hk h1
  · rw [tget_tset] at q
    by_cases e : d = b
    · simp only [if_pos e.symm]; exact hn
    · rw [if_neg e] at q
      simp only [if_neg (Ne.symm e)]
      exact F.box b cs' q

/-- What is read of a row. -/
theorem rd_some {e : BT (Option Value)} : ∀ {n i : Nat} {vs : List Value}, vs.length = n → (∀ j v, vs[j]? = some v → tget e (i + j) = some v) → rd e i n = some vs
  | 0, i, vs, hl, _ => by rw [List.eq_nil_of_length_eq_zero hl]; rfl
  | n + 1, i, v :: vs, hl, hv => by
    have h0 := hv 0 v (by simp)
    simp only [Nat.add_zero] at h0
    have h1 : rd e (i + 1) n = some vs := rd_some (by simpa using hl) fun j u hu => by
      have := hv (j + 1) u (by simpa using hu)
      rw [← this]; congr 1; omega
    simp only [rd, h0, h1]

theorem Rl.rdBox (R : Rl ν T B H M h) {b : Nat} {cs : List Value} (hb : tget B b = some cs) {off n : Nat} (hl : off + n ≤ cs.length) : hload h ⟨ν b, off, none⟩ n = some ((cs.drop off).take n) := by
  obtain ⟨e, h1, h2, h3⟩ := R.box b cs hb
  unfold hload
  simp only [h1]
  refine rd_some (by simp; omega) fun j v hv => ?_
  rw [h3, ← hv]
  have hj : j < n := by
    rcases Nat.lt_or_ge j n with q | q
    · exact q
    · rw [List.getElem?_eq_none (by simp; omega)] at hv; cases hv
  rw [List.getElem?_take_of_lt hj, List.getElem?_drop]

theorem lput_get {α : Type} : ∀ (cs : List α) (off : Nat) (vs : List α) (i : Nat), off + vs.length ≤ cs.length → (lput cs off vs)[i]? = if off ≤ i ∧ i < off + vs.length then vs[i - off]? else cs[i]?
  | cs, off, [], i, h => by
    have : lput cs off [] = cs := by cases cs <;> cases off <;> rfl
    rw [this, if_neg (by simp)]
  | [], off, v :: vs, i, h => by simp at h
  | c :: cs, 0, v :: vs, i, h => by
    simp only [lput]
    cases i with
    | zero => simp
    | succ i =>
      simp only [List.getElem?_cons_succ]
      rw [lput_get cs 0 vs i (by simpa using h)]
      simp only [List.length_cons, Nat.zero_le, true_and, Nat.zero_add, Nat.sub_zero]
      by_cases e : i < vs.length
      · rw [if_pos e, if_pos (by omega)]; simp
      · rw [if_neg e, if_neg (by omega)]
  | c :: cs, off + 1, v :: vs, i, h => by
    simp only [lput]
    cases i with
    | zero => simp
    | succ i =>
      simp only [List.getElem?_cons_succ]
      rw [lput_get cs off (v :: vs) i (by simp at h ⊢; omega)]
      by_cases e : off ≤ i ∧ i < off + (v :: vs).length
      · rw [if_pos e, if_pos (by omega)]
        congr 1; omega
      · rw [if_neg e, if_neg (by omega)]

theorem lput_length {α : Type} : ∀ (cs : List α) (off : Nat) (vs : List α), (lput cs off vs).length = cs.length
  | cs, off, [] => by cases cs <;> cases off <;> rfl
  | [], off, v :: vs => by cases off <;> rfl
  | c :: cs, 0, v :: vs => by simp only [lput, List.length_cons, lput_length cs 0 vs]
  | c :: cs, off + 1, v :: vs => by simp only [lput, List.length_cons, lput_length cs off (v :: vs)]

theorem wrB_keep {e : Ent} {cs : BT (Option Value)} (h : wrB e = true) : wrB ⟨cs, e.len, e.unk, none⟩ = true := by
  unfold wrB at h ⊢
  simp only [Bool.and_eq_true] at h ⊢
  exact ⟨h.1, rfl⟩

/-- A box is written to. -/
theorem Rl.wrBox (R : Rl ν T B H M h) {b : Nat} {cs vs : List Value} (hb : tget B b = some cs) {off : Nat} (hl : off + vs.length ≤ cs.length) :
    ∃ h', hstore h ⟨ν b, off, none⟩ vs = some h' ∧ h'.nxt = h.nxt ∧ (∀ k, k ≠ ν b → tget h'.m k = tget h.m k) ∧ Rl ν T (tset B b (some (lput cs off vs))) H M h' := by
  have hld := R.rdBox hb hl
  obtain ⟨e, h1, h2, h3⟩ := R.box b cs hb
  unfold hload at hld
  simp only [h1] at hld
  refine ⟨⟨tset h.m (ν b) (some ⟨wr e.cells off vs, e.len, e.unk, none⟩), h.nxt⟩, ?_, rfl, fun k hk => tget_tset_ne _ _ _ _ (Ne.symm hk), ?_⟩
  · unfold hstore
    simp only [h1, hld, h2, cond_true]
  · refine ⟨R.tmp, fun b' cs' q => ?_, fun b' cs' q => ?_, fun b' cs' q => ?_, fun b1 b2 c1 c2 q q' e => ?_, fun k e' q => ?_, fun k hk => ?_⟩
    · rw [tget_tset] at q
      by_cases e1 : b = b'
      · rw [if_pos e1] at q
        cases q
        subst e1
        refine ⟨_, tget_tset_same _ _ _, wrB_keep h2, fun i => ?_⟩
        simp only
        rw [tget_wr, lput_get cs off vs i hl, h3]
      · rw [if_neg e1] at q
        obtain ⟨e', g1, g2⟩ := R.box b' cs' q
        refine ⟨e', ?_, g2⟩
        rw [tget_tset_ne _ _ _ _ (fun e2 => e1 (R.inj b b' cs cs' hb q e2))]
        exact g1
    · rw [tget_tset] at q
      by_cases e1 : b = b'
      · subst e1; exact R.lt b cs hb
      · rw [if_neg e1] at q; exact R.lt b' cs' q
    · rw [tget_tset] at q
      by_cases e1 : b = b'
      · subst e1; exact R.apart b cs hb
      · rw [if_neg e1] at q; exact R.apart b' cs' q
    · rw [tget_tset] at q q'
      have f : ∀ b1 c1, (if b = b1 then some (lput cs off vs) else tget B b1) = some c1 → ∃ c, tget B b1 = some c := by
        intro b1 c1 q
        by_cases e1 : b = b1
        · subst e1; exact ⟨cs, hb⟩
        · rw [if_neg e1] at q; exact ⟨c1, q⟩
      obtain ⟨d1, q1⟩ := f b1 c1 q
      obtain ⟨d2, q2⟩ := f b2 c2 q'
      exact R.inj b1 b2 d1 d2 q1 q2 e
    · rw [tget_tset_ne _ _ _ _ (fun e1 => by subst e1; rw [R.apart b cs hb] at q; cases q)]
      exact R.know k e' q
    · have hlt := R.lt b cs hb
      show tget (tset h.m (ν b) _) k = none
      have hk' : h.nxt ≤ k := hk
      rw [tget_tset_ne _ _ _ _ (by omega)]
      exact R.wf k hk'

theorem load_know (R : Rl ν T B H M h) {a : Addr} {n : Nat} {vs : List Value} (hl : H.load a n = some vs) : hload h a n = some vs := by
  unfold KH.load at hl
  unfold hload
  split at hl
  · rename_i e h1 h2
    simp only [h1, R.know _ _ h2]
    exact hl
  · cases hl

theorem ld_load {a : Addr} {vs : List Value} (hl : ld H a vs) : H.load a vs.length = some vs := by
  obtain ⟨h1, e, h2, h3⟩ := hl
  unfold KH.load
  rw [h1, h2]
  exact h3

theorem Rl.ldv (R : Rl ν T B H M h) {a : Addr} {vs : List Value} (hl : ld H a vs) : hload h a vs.length = some vs := load_know R (ld_load hl)

/-- What is known is written to. -/
theorem Rl.store (R : Rl ν T B H M h) {a : Addr} {vs ws : List Value} (hl : H.load a vs.length = some ws) (hm : H.may a.block) :
    ∃ h', hstore h a vs = some h' ∧ h'.nxt = h.nxt ∧ (∀ k, k ≠ a.block → tget h'.m k = tget h.m k) ∧ H a.block ≠ none ∧ Rl ν T B (H.put a vs) M h' := by
  have hld := load_know R hl
  unfold KH.load at hl
  split at hl
  · rename_i e h1 h2
    have he := R.know _ _ h2
    have hlt : a.block < h.nxt := by
      rcases Nat.lt_or_ge a.block h.nxt with q | q
      · exact q
      · rw [R.wf _ q] at he; cases he
    refine ⟨⟨tset h.m a.block (some ⟨wr e.cells a.off vs, e.len, e.unk, none⟩), h.nxt⟩, ?_, rfl, fun k hk => tget_tset_ne _ _ _ _ (Ne.symm hk), by rw [h2]; simp, ?_⟩
    · obtain ⟨em, hm1, hm2⟩ := hm.ex
      rw [h2] at hm1
      cases hm1
      unfold hstore
      simp only [h1, he, hl, hm2, cond_true]
    · refine ⟨R.tmp, fun b cs q => ?_, R.lt, fun b cs q => ?_, R.inj, fun k e' q => ?_, fun k hk => ?_⟩
      · obtain ⟨e', g1, g2⟩ := R.box b cs q
        refine ⟨e', ?_, g2⟩
        rw [tget_tset_ne _ _ _ _ (fun e1 => by have := R.apart b cs q; rw [← e1, h2] at this; cases this)]
        exact g1
      · simp only [KH.put]
        rw [if_neg (fun e1 => by have := R.apart b cs q; rw [e1, h2] at this; cases this)]
        exact R.apart b cs q
      · simp only [KH.put] at q
        by_cases hk : k = a.block
        · rw [if_pos hk] at q
          subst hk
          rw [h2] at q
          simp only [Option.map_some, Option.some.injEq] at q
          rw [tget_tset_same, q]
        · rw [if_neg hk] at q
          rw [tget_tset_ne _ _ _ _ (Ne.symm hk)]
          exact R.know k e' q
      · have hk' : h.nxt ≤ k := hk
        show tget (tset h.m a.block _) k = none
        rw [tget_tset_ne _ _ _ _ (by omega)]
        exact R.wf k hk'
  · cases hl

theorem Fr.put {H0 : KH} {h0 h' : Hp} (F : Fr H0 h0 ν B H h) {a : Addr} {vs : List Value} (hn : h'.nxt = h.nxt) (hk : ∀ k, k ≠ a.block → tget h'.m k = tget h.m k) (hH : H a.block ≠ none) : Fr H0 h0 ν B (H.put a vs) h' := by
  refine ⟨by rw [hn]; exact F.nxt, fun k h1 h2 => ?_, fun k q => ?_, F.box⟩
  · rw [hk k ?_]
    · exact F.keep k h1 h2
    · intro e
      subst e
      rcases F.new _ hH with q | q
      · exact q h2
      · omega
  · simp only [KH.put] at q
    by_cases e : k = a.block
    · subst e; exact F.new _ hH
    · rw [if_neg e] at q; exact F.new k q

theorem Fr.wrBox {H0 : KH} {h0 h' : Hp} (F : Fr H0 h0 ν B H h) {b : Nat} {cs cs' : List Value} (hb : tget B b = some cs) (hn : h'.nxt = h.nxt) (hk : ∀ k, k ≠ ν b → tget h'.m k = tget h.m k) : Fr H0 h0 ν (tset B b (some cs')) H h' := by
  refine ⟨by rw [hn]; exact F.nxt, fun k h1 h2 => ?_, F.new, fun b' c q => ?_⟩
  · rw [hk k (fun e => by have := F.box b cs hb; omega)]
    exact F.keep k h1 h2
  · rw [tget_tset] at q
    by_cases e : b = b'
    · subst e; exact F.box b cs hb
    · rw [if_neg e] at q; exact F.box b' c q
end
end Go.Ew
