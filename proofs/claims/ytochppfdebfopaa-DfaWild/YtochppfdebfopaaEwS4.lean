/- What is read off the code holds of the evaluator: statements. -/
import Derived.Test.YtochppfdebfopaaEwS1
import Derived.Test.YtochppfdebfopaaEvDraw4
set_option linter.unusedVariables false
set_option linter.unusedSimpArgs false
namespace Go.Ew
open Go.Ev Go.Deep

section
variable {ν : Nat → Nat} {T : TS} {B : BX} {H H0 : KH} {M : Tm} {h h0 : Hp}

theorem wWant_sound {ops : Array Oper} {o : Oper} {yes no : TS → Prop} (R : Rl ν T B H M h) (hw : wWant ops o T yes no) :
    (wantA ops o M = some true ∧ ∃ T', Rl ν T' B H M h ∧ yes T') ∨ (wantA ops o M = some false ∧ ∃ T', Rl ν T' B H M h ∧ no T') := by
  unfold wWant at hw
  unfold wantA
  split at hw
  · rename_i hg
    rw [hg]
    exact .inl ⟨rfl, T, R, hw⟩
  · rename_i j want hg
    rw [hg]
    simp only
    split at hw
    · exact hw.elim
    · rename_i d hd
      simp only [hd]
      cases hu : isUndef (tget T d) with
      | true =>
        rw [hu, cond_true] at hw
        unfold isUndef at hu
        split at hu
        · rename_i vs hs
          have h1 : tget M d = some (den ν (.v (.tuple vs))) := R.tmp d _ hs
          have h2 : den ν (.v (.tuple vs)) = .tuple vs := rfl
          rw [h1, h2]
          exact .inr ⟨rfl, T, R, hw⟩
        · cases hu
      | false =>
      rw [hu, cond_false] at hw
      have key : ∀ (p q : SV → Prop), askB (tget T d) p q → ∃ b, tget M d = some (.bool b) ∧ Rl ν (tset T d (some (.v (.bool b)))) B H M h ∧ (b = true → p (.v (.bool true))) ∧ (b = false → q (.v (.bool false))) := by
        intro p q ha
        unfold askB at ha
        split at ha
        · rename_i hs
          exact ⟨true, R.tmp d _ hs, R.told hs rfl, fun _ => ha, fun e => by cases e⟩
        · rename_i hs
          exact ⟨false, R.tmp d _ hs, R.told hs rfl, fun e => (by cases e), fun _ => ha⟩
        · rename_i b hs
          refine ⟨b, R.tmp d _ hs, R.told hs rfl, ha.1, ha.2⟩
        · exact ha.elim
      cases want with
      | true =>
        simp only at hw
        obtain ⟨b, h1, h2, h3, h4⟩ := key _ _ hw
        rw [h1]
        cases b with
        | true => exact .inl ⟨rfl, _, h2, h3 rfl⟩
        | false => exact .inr ⟨rfl, _, h2, h4 rfl⟩
      | false =>
        simp only at hw
        obtain ⟨b, h1, h2, h3, h4⟩ := key _ _ hw
        rw [h1]
        cases b with
        | true => exact .inr ⟨rfl, _, h2, h3 rfl⟩
        | false => exact .inl ⟨rfl, _, h2, h4 rfl⟩

theorem Rl.fresh (R : Rl ν T B H M h) : H h.nxt = none := by
  cases hk : H h.nxt with
  | none => rfl
  | some e => have := R.know _ _ hk; rw [R.wf _ (Nat.le_refl _)] at this; cases this

theorem undef_den (ν : Nat → Nat) : den ν (.v undefV) = undefV := rfl

theorem strArg_run {W : WE} {o : Oper} {s : ByteArray} {call : Nat → List Value → Hp → Option (Value × Hp)} (R : Rl ν T B H M h) (hs : strArg W o T = some s) (hle : s.size ≤ 1000000) :
    xop W.E call h.nxt o M h = some (.slice (some ⟨h.nxt, 0, none⟩) s.size unkU, halloc h h.nxt (mkEnt (byteCells s) 1)) := by
  unfold strArg at hs
  split at hs
  · rename_i sr d x ho
    split at hs
    · rename_i b hb
      split at hs
      · rename_i ti si hti hsi
        cases hk : Nat.beq ti.kind 1 <;> simp only [hk, cond_true, cond_false, reduceCtorEq] at hs
        split at hs
        · rename_i ei hei
          cases hq : (Nat.beq ei.kind 6 && Nat.beq ei.size 1) <;> simp only [hq, cond_true, cond_false, reduceCtorEq, Option.some.injEq] at hs
          subst hs
          have h1 : (Nat.beq h.nxt h.nxt && Nat.ble b.size 1000000) = true := by
            simp only [Bool.and_eq_true]
            exact ⟨by simp, Nat.ble_eq_true_of_le hle⟩
          simp only [xop, xopR, ho, xConv, R.opW hb, hti, hsi, hei, ob, hk, hq, cond_true, xStrB, h1]
        · cases hs
      · cases hs
    · cases hs
  · cases hs

theorem wOps_sound {W : WE} (hE : EnvT W.E) {ops : Array Oper} {K : TS → BX → KH → Prop} : ∀ (l : List Oper) {ν : Nat → Nat} {T : TS} {B : BX} {H : KH} {M : Tm} {h : Hp}, wOps W ops l T B H K → Rl ν T B H M h → Fr H0 h0 ν B H h →
    ∃ T' B' H' ν' M' h', (∃ n, ∀ m, n ≤ m → xops W.E (callA W.E (ev W.E m)) ops l M h = some (M', h')) ∧ Rl ν' T' B' H' M' h' ∧ Fr H0 h0 ν' B' H' h' ∧ K T' B' H'
  | [], ν, T, B, H, M, h, hw, R, F => ⟨T, B, H, ν, M, h, ⟨0, fun _ _ => rfl⟩, R, F, hw⟩
  | o :: l, ν, T, B, H, M, h, hw, R, F => by
    simp only [wOps] at hw
    rcases wWant_sound R hw with ⟨h1, T1, R1, h2⟩ | ⟨h1, T1, R1, h2⟩
    · unfold wOpB at h2
      split at h2
      · rename_i s hs
        obtain ⟨hle, hk⟩ := h2
        have hk := hk _ R.fresh
        have hf : tget h.m h.nxt = none := R.wf _ (Nat.le_refl _)
        have hnb : ∀ b cs, tget B b = some cs → ν b ≠ h.nxt := fun b cs q e => by have := R.lt b cs q; omega
        have hx : ∀ m, xop W.E (callA W.E (ev W.E m)) h.nxt o M h = some (den ν (.v (.slice (some ⟨h.nxt, 0, none⟩) s.size unkU)), halloc h h.nxt (mkEnt (byteCells s) 1)) := fun m => strArg_run R1 hs hle
        obtain ⟨T3, B3, H3, ν3, M3, h3, ⟨n2, hr2⟩, R3, F3, k3⟩ := wOps_sound hE l hk ((R1.alloc (e := mkEnt (byteCells s) 1) hf hnb).put o.dst _) (F.alloc F.nxt)
        refine ⟨T3, B3, H3, ν3, M3, h3, ⟨n2, fun m hm => ?_⟩, R3, F3, k3⟩
        simp only [xops, h1, hx m, hr2 m hm]
      obtain ⟨s, T2, B2, H2, ν2, hp2, d⟩ := wOp_sound hE h2 R1 F (nm := h.nxt) (fun k q => q _ R.fresh) (fun _ => ⟨R.wf _ (Nat.le_refl _), R.fresh, fun b cs q e => (by have := R.lt b cs q; omega), F.nxt⟩)
      obtain ⟨n1, hr1⟩ := d.run
      obtain ⟨T3, B3, H3, ν3, M3, h3, ⟨n2, hr2⟩, R3, F3, k3⟩ := wOps_sound hE l d.post (d.rl.put o.dst s) d.fr
      refine ⟨T3, B3, H3, ν3, M3, h3, ⟨max n1 n2, fun m hm => ?_⟩, R3, F3, k3⟩
      simp only [xops, h1, hr1 m (by omega), hr2 m (by omega)]
    · obtain ⟨T3, B3, H3, ν3, M3, h3, ⟨n2, hr2⟩, R3, F3, k3⟩ := wOps_sound hE l h2 (R1.put o.dst (.v undefV)) F
      refine ⟨T3, B3, H3, ν3, M3, h3, ⟨n2, fun m hm => ?_⟩, R3, F3, k3⟩
      have := hr2 m hm
      rw [undef_den] at this
      simp only [xops, h1, this]

/-- Where nothing is called calls are no matter. -/
theorem xop_any {E : Env} {c1 c2 : Nat → List Value → Hp → Option (Value × Hp)} {nm : Nat} {o : Oper} (ho : silB o.op = true ∨ allB o.op = true) : xop E c1 nm o M h = xop E c2 nm o M h := by
  unfold xop
  cases hop : o.op <;> simp only [xopR, hop]
  rename_i c
  rw [hop] at ho
  unfold xCall
  cases hc : c.callee <;> simp only
  rename_i f
  simp only [silB, allB, hc] at ho
  rcases ho with q | q <;> cases q

theorem all_name {E : Env} {call : Nat → List Value → Hp → Option (Value × Hp)} {nm : Nat} {o : Oper} {v : Value} {h' : Hp} (ho : allB o.op = true) (hx : xop E call nm o M h = some (v, h')) : v = .pointer (some ⟨nm, 0, none⟩) ∨ ∃ l c, v = .slice (some ⟨nm, 0, none⟩) l c := by
  cases hop : o.op <;> rw [hop] at ho <;> simp only [allB, Bool.false_eq_true] at ho
  case alloc t =>
    simp only [xop, xopR, xAlloc, hop] at hx
    obtain ⟨ti, k1, k2⟩ := ob_some hx
    cases k2
    exact .inl rfl
  case box t x =>
    simp only [xop, xopR, xBox, hop] at hx
    obtain ⟨u, k1, k2⟩ := ob_some hx
    obtain ⟨cs, k3, k4⟩ := ob_some k2
    cases k4
    exact .inl rfl
  case buildSlice t len parts =>
    simp only [xop, xopR, xBuildSlice, hop] at hx
    obtain ⟨ti, k1, k2⟩ := ob_some hx
    obtain ⟨ei, k3, k4⟩ := ob_some k2
    cases hq : (Nat.beq ti.kind 1 && Nat.ble (len * ei.size) 16777216 && Nat.ble len 16777216 && Nat.beq ei.zero.length ei.size) <;> simp only [hq, cond_true, cond_false, reduceCtorEq] at k4
    obtain ⟨ps, k5, k6⟩ := ob_some k4
    obtain ⟨cs, k7, k8⟩ := ob_some k6
    cases k8
    exact .inr ⟨_, _, rfl⟩
  case makeSlice t l c =>
    simp only [xop, xopR, xMake, hop] at hx
    split at hx
    · rename_i k1 n k2 k hl hc
      obtain ⟨ti, j1, j2⟩ := ob_some hx
      obtain ⟨ei, j3, j4⟩ := ob_some j2
      cases hq : (Nat.beq ti.kind 1 && decide (0 ≤ n) && decide (n ≤ k) && decide (k ≤ 1000000) && Nat.ble ei.bytes 1000000 && Nat.beq ei.zero.length ei.size) <;> simp only [hq, cond_true, cond_false, reduceCtorEq] at j4
      cases j4
      exact .inr ⟨_, _, rfl⟩
    · cases hx

/-- Within a statement whose order is open. -/
structure In (ops : Array Oper) (base : Nat) (X : List Nat) (A : List (Nat × Nat)) (ν : Nat → Nat) (B : BX) (H : KH) (h : Hp) : Prop where
  nxt : base + ops.size ≤ h.nxt
  fresh : ∀ i, i < ops.size → i ∉ X → tget h.m (base + i) = none
  names : ∀ i, i < ops.size → H (base + i) ≠ none → (i, base + i) ∈ A
  boxes : ∀ b cs, tget B b = some cs → ∀ i, i < ops.size → ν b = base + i → ∃ o, ops[i]? = some o ∧ o.dst = some b
  nms : ∀ i nm, (i, nm) ∈ A → nm = base + i

theorem mem_addNm {o : Oper} {i j nm : Nat} {s : SV} {A : List (Nat × Nat)} (hm : (j, nm) ∈ addNm o i s A) : (j, nm) ∈ A ∨ (j = i ∧ allB o.op = true ∧ nameOf s = some nm) := by
  unfold addNm at hm
  cases ha : allB o.op <;> rw [ha] at hm <;> simp only [cond_true, cond_false] at hm
  · exact .inl hm
  · split at hm
    · rename_i nm' hs
      rcases List.mem_cons.1 hm with e | e
      · cases e; exact .inr ⟨rfl, rfl, hs⟩
      · exact .inl e
    · exact .inl hm

theorem addNm_old {o : Oper} {i : Nat} {s : SV} {A : List (Nat × Nat)} {p : Nat × Nat} (hm : p ∈ A) : p ∈ addNm o i s A := by
  unfold addNm
  cases allB o.op <;> simp only [cond_true, cond_false]
  · exact hm
  · split
    · exact List.mem_cons_of_mem _ hm
    · exact hm

theorem addNm_new {o : Oper} {i nm : Nat} {s : SV} {A : List (Nat × Nat)} (ha : allB o.op = true) (hs : nameOf s = some nm) : (i, nm) ∈ addNm o i s A := by
  unfold addNm
  rw [ha, hs]
  simp

theorem name_den {ν : Nat → Nat} {s : SV} {k nm : Nat} (hs : nameOf s = some k) (hv : den ν s = .pointer (some ⟨nm, 0, none⟩) ∨ ∃ l c, den ν s = .slice (some ⟨nm, 0, none⟩) l c) : k = nm := by
  cases s with
  | q b => cases hs
  | r t o => cases hs
  | v x =>
    simp only [den] at hv
    rcases hv with rfl | ⟨l, c, rfl⟩
    · cases hs; rfl
    · cases hs; rfl

/-- One of the silent ones. -/
theorem pre_one {W : WE} (hE : EnvT W.E) {ops : Array Oper} {base i : Nat} {X : List Nat} {A : List (Nat × Nat)} {o : Oper} {K : TS → SV → BX → KH → Prop} (hb0 : h0.nxt ≤ base) (I : In ops base X A ν B H h) (R : Rl ν T B H M h) (F : Fr H0 h0 ν B H h)
    (ho : ops[i]? = some o) (hi : i ∉ X) (hk : silB o.op = true ∨ allB o.op = true) {nmP : (Nat → Prop) → Prop} (hn : ∀ k : Nat → Prop, nmP k → H (base + i) = none → k (base + i)) (hw : wOp W nmP o T B H K) :
    ∃ s T' B' H' ν' h', xop W.E (fun _ _ _ => none) (base + i) o M h = some (den ν' s, h') ∧ Rl ν' T' B' H' M h' ∧ Fr H0 h0 ν' B' H' h' ∧ K T' s B' H' ∧ In ops base (i :: X) (addNm o i s A) ν' B' H' h' := by
  have hlt : i < ops.size := lt_of_get ho
  have hf := I.fresh i hlt hi
  have hHn : H (base + i) = none := by
    cases hq : H (base + i) with
    | none => rfl
    | some e => have := R.know _ _ hq; rw [hf] at this; cases this
  have hnb : ∀ b cs, tget B b = some cs → ν b ≠ base + i := fun b cs q e => by
    obtain ⟨e', h1, _⟩ := R.box b cs q
    rw [e, hf] at h1; cases h1
  have hnx : base + i < h.nxt := by have := I.nxt; omega
  obtain ⟨s, T', B', H', ν', h', d⟩ := wOp_sound hE hw R F (nm := base + i) (fun k q => hn k q hHn) (fun _ => ⟨hf, hHn, hnb, by omega⟩)
  obtain ⟨n, hr⟩ := d.run
  have hx := hr n (Nat.le_refl _)
  rw [xop_any (c2 := fun _ _ _ => none) hk] at hx
  refine ⟨s, T', B', H', ν', h', hx, d.rl, d.fr, d.post, ?_⟩
  obtain ⟨q1, q2, q3⟩ := one_heap hk hf hnx hx
  refine ⟨by rw [q3]; exact I.nxt, fun j hj hjx => ?_, fun j hj hjn => ?_, fun b cs q j hj e => ?_, fun j nm hm => ?_⟩
  · cases hq : tget h'.m (base + j) with
    | none => rfl
    | some e =>
      have hne : j ≠ i := fun e1 => hjx (by simp [e1])
      have hjx' : j ∉ X := fun e1 => hjx (by simp [e1])
      have := q2 _ _ hq (I.fresh j hj hjx')
      omega
  · rcases d.quiet hk _ hjn with q | ⟨q, q4, q5⟩
    · exact addNm_old (I.names j hj q)
    · have : j = i := by omega
      subst this
      rw [q]
      rw [q] at *
      exact addNm_new q4 q5
  · rcases d.boxes b cs q with ⟨g1, cs0, g2⟩ | ⟨g1, g2⟩
    · exact I.boxes b cs0 g2 j hj (by rw [← g1]; exact e)
    · have : j = i := by omega
      subst this
      exact ⟨o, ho, g2⟩
  · rcases mem_addNm hm with q | ⟨rfl, q4, q5⟩
    · exact I.nms j nm q
    · exact name_den q5 (all_name q4 hx)

theorem wPre_sound {W : WE} (hE : EnvT W.E) {ops : Array Oper} {base : Nat} (hb0 : h0.nxt ≤ base) {K : List Nat → List (Nat × Nat) → TS → BX → KH → Prop} : ∀ (l : List Nat) {X : List Nat} {A : List (Nat × Nat)} {ν : Nat → Nat} {T : TS} {B : BX} {H : KH} {M : Tm} {h : Hp},
    wPre W ops l X A T B H K → In ops base X A ν B H h → Rl ν T B H M h → Fr H0 h0 ν B H h →
    ∃ X' A' T' B' H' ν' M' h', xpre W.E ops base l M h = some (M', h') ∧ Rl ν' T' B' H' M' h' ∧ Fr H0 h0 ν' B' H' h' ∧ In ops base X' A' ν' B' H' h' ∧ K X' A' T' B' H'
  | [], X, A, ν, T, B, H, M, h, hw, I, R, F => ⟨X, A, T, B, H, ν, M, h, rfl, R, F, I, hw⟩
  | i :: l, X, A, ν, T, B, H, M, h, hw, I, R, F => by
    simp only [wPre] at hw
    split at hw
    · exact hw.elim
    · rename_i o ho
      cases hq : ((silB o.op || allB o.op) && !(memN i X)) <;> simp only [hq, cond_true, cond_false] at hw
      simp only [Bool.and_eq_true, Bool.or_eq_true, Bool.not_eq_true'] at hq
      have hi : i ∉ X := fun e => by rw [memN_iff.2 e] at hq; cases hq.2
      have hf := I.fresh i (lt_of_get ho) hi
      rcases wWant_sound R hw with ⟨h1, T1, R1, h2⟩ | ⟨h1, T1, R1, h2⟩
      · obtain ⟨s, T2, B2, H2, ν2, hp2, hx, R2, F2, k2, I2⟩ := pre_one hE hb0 I R1 F ho hi hq.1 (nmP := anyNm H) (fun k q hn => q _ hn) h2
        obtain ⟨X3, A3, T3, B3, H3, ν3, M3, h3, hr, R3, F3, I3, k3⟩ := wPre_sound hE hb0 l k2 I2 (R2.put o.dst s) F2
        refine ⟨X3, A3, T3, B3, H3, ν3, M3, h3, ?_, R3, F3, I3, k3⟩
        simp only [xpre, ho, hf, h1, hx, hr]
      · have I2 : In ops base (i :: X) A ν B H h := ⟨I.nxt, fun j hj q => I.fresh j hj (fun e => q (by simp [e])), I.names, I.boxes, I.nms⟩
        obtain ⟨X3, A3, T3, B3, H3, ν3, M3, h3, hr, R3, F3, I3, k3⟩ := wPre_sound hE hb0 l h2 I2 (R1.put o.dst (.v undefV)) F
        refine ⟨X3, A3, T3, B3, H3, ν3, M3, h3, ?_, R3, F3, I3, k3⟩
        rw [undef_den] at hr
        simp only [xpre, ho, hf, h1, hr]

theorem eqS0_refl {v : Value} (h : okS0 v = true) : eqS0 v v = true := by
  cases v <;> first | (cases h; done) | simp [eqS0]
  case pointer a => cases a <;> simp [eqS0]
  case slice a l c => cases a <;> simp [eqS0]

theorem eqL0_refl : ∀ {l : List Value}, l.all okS0 = true → eqL0 l l = true
  | [], _ => rfl
  | v :: l, h => by
    simp only [List.all_cons, Bool.and_eq_true] at h
    simp only [eqL0, eqS0_refl h.1, eqL0_refl h.2, Bool.and_self]

theorem eqV0_of {v : Value} (h : okS0 v = true) : eqV0 v v = true := by
  cases v <;> first | (cases h; done) | exact eqS0_refl h

theorem eqLV0_refl : ∀ {l : List Value}, l.all okS0 = true → eqLV0 l l = true
  | [], _ => rfl
  | v :: l, h => by
    simp only [List.all_cons, Bool.and_eq_true] at h
    simp only [eqLV0, eqV0_of h.1, eqLV0_refl h.2, Bool.and_self]

theorem eqS_of {v : Value} (h : okS0 v = true) : eqS v v = true := by
  cases v <;> first | (cases h; done) | exact eqS0_refl h

theorem eqL_refl : ∀ {l : List Value}, l.all okS0 = true → eqL l l = true
  | [], _ => rfl
  | v :: l, h => by
    simp only [List.all_cons, Bool.and_eq_true] at h
    simp only [eqL, eqS_of h.1, eqL_refl h.2, Bool.and_self]

theorem eqV_refl {v : Value} (h : okV v = true) : eqV v v = true := by
  cases v with
  | agg cs => exact eqL_refl h
  | func fn a b =>
    cases fn <;> first
      | (cases h; done)
      | (simp only [okV, Bool.and_eq_true] at h
         simp only [eqV, eqS, eqLV0_refl h.1, eqLV0_refl h.2, Bool.and_self, Bool.and_true]
         simp)
  | _ => first | (cases h; done) | (simp only [okV] at h; simp only [eqV]; exact eqS_of h)

theorem same_eqV {ν : Nat → Nat} {s u : SV} (hs : sameS s (some u)) : eqV (den ν u) (den ν s) = true := by
  cases s <;> cases u <;> simp only [sameS] at hs
  case v.v x y =>
    cases hk : okV y <;> rw [hk] at hs
    · exact hs.elim
    · have e : x = y := hs
      subst e
      exact eqV_refl hk
  case v.q x b => subst hs; exact eqV_refl rfl
  case q.v b y =>
    cases hk : okV y <;> rw [hk] at hs
    · exact hs.elim
    · have e : Value.bool b = y := hs
      subst e
      exact eqV_refl rfl
  case q.q a b => subst hs; exact eqV_refl rfl
  case r.r a b c d => obtain ⟨rfl, rfl⟩ := hs; exact eqV_refl rfl

theorem wRe_sound {W : WE} (hE : EnvT W.E) {ops : Array Oper} {base : Nat} : ∀ (l : List Nat), wRe W ops T B H l → Rl ν T B H M h → xre W.E ops base M h l = true
  | [], _, _ => rfl
  | i :: l, hw, R => by
    simp only [wRe] at hw
    split at hw
    · exact hw.elim
    · rename_i o ho
      have ih := wRe_sound hE l hw.2 R (base := base)
      have h1 := hw.1
      cases hsil : silB o.op <;> rw [hsil] at h1 <;> simp only [cond_true, cond_false] at h1
      simp only [xre, ho]
      rcases wWant_sound R h1 with ⟨g1, T1, R1, g2⟩ | ⟨g1, T1, R1, g2⟩
      · have hallB : allB o.op = false := by cases hop : o.op <;> rw [hop] at hsil <;> first | rfl | cases hsil
        obtain ⟨s, T', B', H', ν', h', d⟩ := wOp_sound (H0 := fun _ => none) (h0 := ⟨.nil, 0⟩) hE g2 R1 ⟨Nat.zero_le _, fun k q => absurd q (Nat.not_lt_zero k), fun k _ => .inr (Nat.zero_le _), fun _ _ _ => Nat.zero_le _⟩ (nm := base + i) (fun k q => q.elim) (fun e => by rw [hsil] at e; cases e)
        obtain ⟨n, hr⟩ := d.run
        have hν := d.nu hallB
        subst hν
        have hx2 := hr n (Nat.le_refl _)
        rw [xop_any (c2 := fun _ _ _ => none) (.inl hsil)] at hx2
        rw [g1]
        simp only [hx2]
        cases hd : o.dst with
        | none => exact ih
        | some dd =>
          have hp := d.post
          rw [hd] at hp
          simp only at hp
          cases hu : tget T1 dd with
          | none => rw [hu] at hp; cases s <;> exact hp.elim
          | some u =>
            rw [hu] at hp
            simp only [R1.tmp dd u hu, same_eqV hp, Bool.true_and]
            exact ih
      · rw [g1]
        simp only
        cases hd : o.dst with
        | none => exact ih
        | some dd =>
          rw [hd] at g2
          simp only at g2
          cases hu : isUndef (tget T1 dd) <;> rw [hu] at g2
          · exact g2.elim
          · unfold isUndef at hu
            split at hu
            · rename_i vs hs
              simp only [R1.tmp dd _ hs, den]
              have : Nat.beq vs.size 0 = true := hu
              rw [this, Bool.true_and]
              exact ih
            · cases hu
end
end Go.Ew
