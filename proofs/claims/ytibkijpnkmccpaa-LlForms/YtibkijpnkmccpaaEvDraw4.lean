/- Statements whose order is open: whatever order is picked. -/
import Derived.Test.YtibkijpnkmccpaaEvDraw3
set_option linter.unusedVariables false
set_option linter.unusedSimpArgs false
namespace Go.Ev
open Go.Deep Go.RowKit

structure Ctx where
  E : Env
  ops : Array Oper
  A : List (List Nat)
  base : Nat
  S : Nat
  T0 : Tm
  Tf : Tm
  θ0 : Th
  h0 : Hp
  w0 : World
  ds : List Deferred
  ro : Option Nat

structure Look (C : Ctx) (T : Tm) (i : Nat) (o : Oper) : Prop where
  new : ∀ t ∈ o.looksAt C.ops, ∀ j ∈ ancOf C.A i, writesAt C.ops j t = true → tget T t = tget C.Tf t
  old : ∀ t ∈ o.looksAt C.ops, (∀ j ∈ ancOf C.A i, writesAt C.ops j t = false) → tget T t = tget C.T0 t

structure Inv [LG] (C : Ctx) (D : List Nat) (prev : Option Nat) (h : Hp) (listed : Array Bool) (a : Act) (w : World) (θ : Th) : Prop where
  size : listed.size = C.ops.size
  down : Down C.ops listed
  sub : ∀ i, Lst listed i → i ∈ D
  last : ∀ c, prev = some c → Lst listed c
  defers : a.defers = C.ds
  tsize : a.tmps.size = C.S
  old : ∀ t v, tget C.T0 t = some v → (∀ j, Lst listed j → writesAt C.ops j t = false) → ∃ u, a.tmps[t]? = some u ∧ W θ v u
  new : ∀ t v j, Lst listed j → writesAt C.ops j t = true → tget C.Tf t = some v → ∃ u, a.tmps[t]? = some u ∧ W θ v u
  heap : HR θ h w
  names : ∀ j, j < C.ops.size → ¬ Lst listed j → θ (C.base + j) = none
  nxt : C.base + C.ops.size ≤ h.nxt
  ext : Ext C.base C.θ0 C.h0 C.w0 θ h w

structure CtxOk (C : Ctx) : Prop where
  tt : EnvT C.E
  anc : ∀ i, i < C.ops.size → ancOk C.ops C.A i = true
  pair : ∀ i j, i < C.ops.size → j < C.ops.size → pairOk C.ops C.A i j = true
  dst : ∀ (i : Nat) (o : Oper) (d : Nat), C.ops[i]? = some o → o.dst = some d → d < C.S
  h0 : C.h0.nxt = C.base

theorem HR.subheap [LG] {θ : Th} {h1 h : Hp} {w : World} (hr : HR θ h1 w) (hs : ∀ n e, tget h.m n = some e → tget h1.m n = some e) (hn : h.nxt = h1.nxt) : HR θ h w :=
  ⟨fun n e x h2 h3 => hr.ent n e x (hs n e h2) h3, fun n m e e' x y h2 h3 hne h4 h5 => hr.sep n m e e' x y (hs _ _ h2) (hs _ _ h3) hne h4 h5, fun n h2 => hr.fresh n (by omega)⟩

theorem lst_set {listed : Array Bool} {i j : Nat} (hi : i < listed.size) : Lst (listed.setIfInBounds i true) j ↔ j = i ∨ Lst listed j := by
  unfold Lst
  simp only [Array.getD_eq_getD_getElem?, Array.getElem?_setIfInBounds]
  by_cases h : i = j
  · subst h; simp [hi]
  · simp only [if_neg h]
    exact ⟨.inr, fun q => q.resolve_left (fun e => h e.symm)⟩

section
variable {C : Ctx} (hC : CtxOk C)

/-- What an operation looks at is there. -/
theorem look_val [LG] {D : List Nat} {prev : Option Nat} {h : Hp} {listed : Array Bool} {a : Act} {w : World} {θ : Th} (hC : CtxOk C) (inv : Inv C D prev h listed a w θ) {i : Nat} {o : Oper} {T : Tm} (ho : C.ops[i]? = some o) (hni : ¬ Lst listed i) (hanc : ∀ j ∈ ancOf C.A i, Lst listed j)
    (hl : Look C T i o) {t : Nat} {v : Value} (ht : t ∈ o.looksAt C.ops) (hv : tget T t = some v) : ∃ u, a.tmps[t]? = some u ∧ W θ v u := by
  by_cases hex : ∃ j ∈ ancOf C.A i, writesAt C.ops j t = true
  · obtain ⟨j, hj, hw⟩ := hex
    rw [hl.new t ht j hj hw] at hv
    exact inv.new t v j (hanc j hj) hw hv
  · have hall : ∀ j ∈ ancOf C.A i, writesAt C.ops j t = false := fun j hj => by
      cases hq : writesAt C.ops j t with
      | false => rfl
      | true => exact absurd ⟨j, hj, hq⟩ hex
    rw [hl.old t ht hall] at hv
    refine inv.old t v hv fun j hL => ?_
    cases hq : writesAt C.ops j t with
    | false => rfl
    | true =>
      exfalso
      have hne : i ≠ j := fun e => by subst e; exact hni hL
      rcases pair_look hC.pair ho hne ht hq with h1 | h1
      · exact hex ⟨j, h1, hq⟩
      · obtain ⟨oj, hoj, _⟩ := writesAt_iff.1 hq
        exact hni (lst_of_anc hC.anc inv.down (lt_of_get hoj) hL h1)

theorem look_TO [LG] {D : List Nat} {prev : Option Nat} {h : Hp} {listed : Array Bool} {a : Act} {w : World} {θ : Th} (hC : CtxOk C) (inv : Inv C D prev h listed a w θ) {i : Nat} {o : Oper} {T : Tm} (ho : C.ops[i]? = some o) (hni : ¬ Lst listed i) (hanc : ∀ j ∈ ancOf C.A i, Lst listed j)
    (hl : Look C T i o) : TO θ T a o := by
  intro x hx v hv
  have hnil : TR θ .nil a := ⟨fun t v q => by cases q⟩
  cases x with
  | tmp t =>
    obtain ⟨u, h1, h2⟩ := look_val hC inv ho hni hanc hl (t := t) (v := v) (List.mem_append_left _ (List.mem_filterMap.2 ⟨.tmp t, hx, rfl⟩)) hv
    simpa [Act.eval, Array.getD_eq_getD_getElem?, h1] using h2
  | const c => exact opv_W hnil (x := .const c) hv
  | global g => exact opv_W hnil (x := .global g) hv
  | func f => exact opv_W hnil (x := .func f) hv

theorem look_guard [LG] {D : List Nat} {prev : Option Nat} {h : Hp} {listed : Array Bool} {a : Act} {w : World} {θ : Th} (hC : CtxOk C) (inv : Inv C D prev h listed a w θ) {i : Nat} {o : Oper} {T : Tm} (ho : C.ops[i]? = some o) (hni : ¬ Lst listed i) (hanc : ∀ j ∈ ancOf C.A i, Lst listed j)
    (hl : Look C T i o) : ∀ j want d v, o.guard = some (j, want) → (C.ops[j]?).bind (·.dst) = some d → tget T d = some v → ∃ u, a.tmps[d]? = some u ∧ W θ v u := by
  intro j want d v hg hd hv
  refine look_val hC inv ho hni hanc hl (List.mem_append_right _ ?_) hv
  rw [hg]
  simp [hd]

/-- One more is done. -/
theorem inv_step [LG] {D D' : List Nat} {prev prev' : Option Nat} {h h' : Hp} {listed : Array Bool} {a : Act} {w w' : World} {θ θ' : Th} {i : Nat} {o : Oper} {u v : Value} (hC : CtxOk C) (inv : Inv C D prev h listed a w θ) (hrdy : i ∈ Region.ready .any C.ops listed) (ho : C.ops[i]? = some o)
    (keep : ∀ n x, θ n = some x → θ' n = some x) (hD : ∀ j, j ∈ D → j ∈ D') (hiD : i ∈ D') (hprev : ∀ c, prev' = some c → c = i ∨ prev = some c) (hTf : ∀ d, o.dst = some d → tget C.Tf d = some v) (hw : W θ' v u) (hr : HR θ' h' w') (he : Ext C.base C.θ0 C.h0 C.w0 θ' h' w')
    (hnames : ∀ j, j < C.ops.size → j ≠ i → θ (C.base + j) = none → θ' (C.base + j) = none) (hn : C.base + C.ops.size ≤ h'.nxt) : Inv C D' prev' h' (listed.setIfInBounds i true) (a.put o.dst u) w' θ' := by
  obtain ⟨hi, hni, hdir⟩ := mem_ready' inv.size hrdy
  have hil : i < listed.size := by rw [inv.size]; exact hi
  have hput : ∀ t, o.dst ≠ some t → (a.put o.dst u).tmps[t]? = a.tmps[t]? := by
    intro t ht
    cases hd : o.dst with
    | none => rfl
    | some d =>
      have hne : d ≠ t := fun e => ht (by rw [hd, e])
      simp [Act.put, Array.getElem?_setIfInBounds, hne]
  refine ⟨by simp [inv.size], ?_, ?_, ?_, ?_, by rw [size_put]; exact inv.tsize, ?_, ?_, hr, ?_, hn, he⟩
  · intro k ok hk hL e he' hb
    rw [lst_set hil] at hL ⊢
    rcases hL with rfl | hL
    · exact .inr (hdir ok hk e he' hb)
    · exact .inr (inv.down k ok hk hL e he' hb)
  · intro j hL
    rw [lst_set hil] at hL
    rcases hL with rfl | hL
    · exact hiD
    · exact hD j (inv.sub j hL)
  · intro c hc
    rw [lst_set hil]
    exact (hprev c hc).imp id (inv.last c)
  · rw [defers_put]; exact inv.defers
  · intro t x hx hno
    have h1 := hno i ((lst_set hil).2 (.inl rfl))
    rw [hput t (writes_false ho h1)]
    obtain ⟨y, q1, q2⟩ := inv.old t x hx fun j hL => hno j ((lst_set hil).2 (.inr hL))
    exact ⟨y, q1, W_mono keep q2⟩
  · intro t x j hL hwr hx
    by_cases hd : o.dst = some t
    · have := hTf t hd
      rw [this] at hx
      cases hx
      refine ⟨u, ?_, hw⟩
      have hlt : t < a.tmps.size := by rw [inv.tsize]; exact hC.dst i o t ho hd
      simp [Act.put, hd, hlt]
    · rw [hput t hd]
      have hji : j ≠ i := fun e => by
        subst e
        obtain ⟨o', ho', hd'⟩ := writesAt_iff.1 hwr
        rw [ho] at ho'
        cases ho'
        exact hd hd'
      rw [lst_set hil] at hL
      obtain ⟨y, q1, q2⟩ := inv.new t x j (hL.resolve_left hji) hwr hx
      exact ⟨y, q1, W_mono keep q2⟩
  · intro j hj hL
    rw [lst_set hil] at hL
    have hne : j ≠ i := fun e => hL (.inl e)
    exact hnames j hj hne (inv.names j hj (fun q => hL (.inr q)))

/-- What is known of an operation that may be done later than it was reckoned. -/
def SFact (C : Ctx) (h1 : Hp) (i : Nat) : Prop := ∃ o T h b, C.ops[i]? = some o ∧ Look C T i o ∧ wantA C.ops o T = some b ∧ (b = false → ∀ d, o.dst = some d → tget C.Tf d = some undefV) ∧
  (b = true → ∃ v h', xop C.E noCall (C.base + i) o T h = some (v, h') ∧ (∀ d, o.dst = some d → tget C.Tf d = some v) ∧ h.nxt = h1.nxt ∧ h'.nxt = h1.nxt ∧ (∀ n e, tget h.m n = some e → tget h1.m n = some e) ∧
    (∀ n e, tget h1.m n = some e → tget h'.m n = some e ∨ (tget h.m n = none ∧ n ≠ C.base + i)))

theorem silent_step [LG] {D : List Nat} {prev : Option Nat} {h : Hp} {listed : Array Bool} {a : Act} {w : World} {θ : Th} {i : Nat} {K : Act → World → Prop} {Q : Exit → Act → World → Prop} (hC : CtxOk C) (inv : Inv C D prev h listed a w θ) (hrdy : i ∈ Region.ready .any C.ops listed) (hiD : i ∈ D) (hf : SFact C h i)
    (hK : ∀ θ' a' w', Inv C D prev h (listed.setIfInBounds i true) a' w' θ' → K a' w') : wpOpIn (FW C.ro) 0 C.E.P C.ops Q i K a w := by
  obtain ⟨hi, hni, hdir⟩ := mem_ready' inv.size hrdy
  obtain ⟨o, T, hh, b, ho, hl, hwant, hno, hyes⟩ := hf
  have hanc : ∀ j ∈ ancOf C.A i, Lst listed j := anc_down hC.anc inv.down (i + 1) i (by omega) hi hdir
  have hwanted := want_sound (look_guard hC inv ho hni hanc hl) hwant
  unfold wpOpIn
  rw [ho]
  simp only
  cases b with
  | false =>
    rw [if_neg (by rw [hwanted]; simp)]
    exact ⟨fun _ _ => fn_FW, hK θ _ w (inv_step hC inv hrdy ho (fun _ _ q => q) (fun _ q => q) hiD (fun c q => .inr q) (hno rfl) undef_W inv.heap inv.ext (fun _ _ _ q => q) inv.nxt)⟩
  | true =>
    rw [if_pos hwanted]
    obtain ⟨v, hh', hx, hTf, n1, n2, hs, hm⟩ := hyes rfl
    refine xop_sound hC.tt (inv.heap.subheap hs n1) (look_TO hC inv ho hni hanc hl) (noCall_at _ _ _) (inv.names i hi hni) hx C.ro _ _ ?_
    intro θ' w' u e r wv
    have hmg : Merge θ θ' h hh hh' h := ⟨fun n en x q _ => hs n en q, n2.symm, fun n en x q1 q2 => by
      rcases hm n en q1 with q3 | ⟨q3, q4⟩
      · exact .inl q3
      · refine .inr ⟨q3, q1, ?_⟩
        have hlt : n < hh.nxt := by
          rcases Nat.lt_or_ge n hh.nxt with g | g
          · exact g
          · have := r.fresh n (by omega)
            rw [this] at q2; cases q2
        rw [← e.only n hlt q4]; exact q2⟩
    refine hK θ' _ w' (inv_step hC inv hrdy ho e.keep (fun _ q => q) hiD (fun c q => .inr q) hTf wv (merge_HR inv.heap hmg e r) (merge_Ext inv.ext hmg e (by rw [hC.h0]; omega) (by rw [hC.h0, n1]; have := inv.nxt; omega) (by rw [hC.h0]; have := inv.nxt; omega)) ?_ inv.nxt)
    intro j hj hne hq
    rw [e.only _ (by rw [n1]; have := inv.nxt; omega) (by omega)]
    exact hq

theorem hide_get {base : Nat} : ∀ {l : List Nat} {m : BT (Option Ent)} {n : Nat}, ((∃ i ∈ l, n = base + i) → tget (hideAll base m l) n = none) ∧ ((∀ i ∈ l, n ≠ base + i) → tget (hideAll base m l) n = tget m n)
  | [], m, n => ⟨fun ⟨i, hi, _⟩ => (by cases hi), fun _ => rfl⟩
  | k :: l, m, n => by
    have ih := @hide_get base l (tset m (base + k) none) n
    refine ⟨fun hex => ?_, fun hno => ?_⟩
    · by_cases hl : ∃ i ∈ l, n = base + i
      · exact ih.1 hl
      · simp only [hideAll]
        rw [ih.2 (fun i hi e => hl ⟨i, hi, e⟩)]
        obtain ⟨i, hi, e⟩ := hex
        rcases List.mem_cons.1 hi with rfl | hi
        · rw [e, tget_tset_same]
        · exact absurd ⟨i, hi, e⟩ hl
    · simp only [hideAll]
      rw [ih.2 (fun i hi => hno i (by simp [hi])), tget_tset_ne _ _ _ _ (Ne.symm (hno k (by simp)))]

theorem back_get {base : Nat} {m0 : BT (Option Ent)} : ∀ {l : List Nat} {m : BT (Option Ent)} {n : Nat}, ((∃ i ∈ l, n = base + i) → tget (backAll base m0 m l) n = tget m0 n) ∧ ((∀ i ∈ l, n ≠ base + i) → tget (backAll base m0 m l) n = tget m n)
  | [], m, n => ⟨fun ⟨i, hi, _⟩ => (by cases hi), fun _ => rfl⟩
  | k :: l, m, n => by
    have ih := @back_get base m0 l (tset m (base + k) (tget m0 (base + k))) n
    refine ⟨fun hex => ?_, fun hno => ?_⟩
    · by_cases hl : ∃ i ∈ l, n = base + i
      · exact ih.1 hl
      · simp only [backAll]
        rw [ih.2 (fun i hi e => hl ⟨i, hi, e⟩)]
        obtain ⟨i, hi, e⟩ := hex
        rcases List.mem_cons.1 hi with rfl | hi
        · rw [e, tget_tset_same]
        · exact absurd ⟨i, hi, e⟩ hl
    · simp only [backAll]
      rw [ih.2 (fun i hi => hno i (by simp [hi])), tget_tset_ne _ _ _ _ (Ne.symm (hno k (by simp)))]

theorem loud_step [LG] {D : List Nat} {prev : Option Nat} {h h2 : Hp} {listed : Array Bool} {a : Act} {w : World} {θ : Th} {c : Nat} {o : Oper} {T : Tm} {v : Value} {hide : List Nat} {call : Nat → List Value → Hp → Option (Value × Hp)} {K : Act → World → Prop} {Q : Exit → Act → World → Prop} (hC : CtxOk C) (hcall : ∀ h, CallAt C.E.P call h.nxt h)
    (inv : Inv C D prev h listed a w θ) (hrdy : c ∈ Region.ready .any C.ops listed) (ho : C.ops[c]? = some o) (hl : Look C T c o) (hhide : ∀ i ∈ hide, i < C.ops.size) (hwant : wantA C.ops o T = some true) (hx : xop C.E call h.nxt o T ⟨hideAll C.base h.m hide, h.nxt⟩ = some (v, h2)) (hTf : ∀ d, o.dst = some d → tget C.Tf d = some v)
    (hK : ∀ θ' a' w', h.nxt ≤ h2.nxt → Inv C (c :: D) (some c) ⟨backAll C.base h.m h2.m hide, h2.nxt⟩ (listed.setIfInBounds c true) a' w' θ' → K a' w') : wpOpIn (FW C.ro) 0 C.E.P C.ops Q c K a w := by
  obtain ⟨hi, hni, hdir⟩ := mem_ready' inv.size hrdy
  have hanc : ∀ j ∈ ancOf C.A c, Lst listed j := anc_down hC.anc inv.down (c + 1) c (by omega) hi hdir
  have hwanted := want_sound (look_guard hC inv ho hni hanc hl) hwant
  unfold wpOpIn
  rw [ho]
  simp only
  rw [if_pos hwanted]
  have hsub : ∀ n e, tget (hideAll C.base h.m hide) n = some e → tget h.m n = some e := by
    intro n e q
    by_cases hl' : ∃ i ∈ hide, n = C.base + i
    · rw [hide_get.1 hl'] at q; cases q
    · rw [hide_get.2 (fun i hi e => hl' ⟨i, hi, e⟩)] at q; exact q
  have hcc : CallAt C.E.P call h.nxt ⟨hideAll C.base h.m hide, h.nxt⟩ := hcall ⟨hideAll C.base h.m hide, h.nxt⟩
  refine xop_sound (nm := h.nxt) hC.tt (inv.heap.subheap (h := ⟨hideAll C.base h.m hide, h.nxt⟩) hsub rfl) (look_TO hC inv ho hni hanc hl) hcc (inv.heap.fresh _ (Nat.le_refl _)) hx C.ro _ _ ?_
  intro θ' w' u e r wv
  have hnn : h.nxt ≤ h2.nxt := e.nxt
  have hmg : Merge θ θ' h ⟨hideAll C.base h.m hide, h.nxt⟩ h2 ⟨backAll C.base h.m h2.m hide, h2.nxt⟩ := by
    refine ⟨fun n en x q _ => hsub n en q, rfl, fun n en x q1 q2 => ?_⟩
    simp only at q1
    by_cases hl' : ∃ i ∈ hide, n = C.base + i
    · rw [back_get.1 hl'] at q1
      refine .inr ⟨hide_get.1 hl', q1, ?_⟩
      obtain ⟨i, hi', en'⟩ := hl'
      rcases Nat.lt_or_ge n h.nxt with g | g
      · rw [← e.only n g (by omega)]; exact q2
      · exfalso
        have h1 := hhide i hi'
        have h2 := inv.nxt
        omega
    · rw [back_get.2 (fun i hi e => hl' ⟨i, hi, e⟩)] at q1
      exact .inl q1
  refine hK θ' _ w' hnn (inv_step hC inv hrdy ho e.keep (fun j q => by simp [q]) (by simp) (fun c' q => .inl (Option.some.inj q).symm) hTf wv (merge_HR inv.heap hmg e r) (merge_Ext inv.ext hmg e (by rw [hC.h0]; have := inv.nxt; omega) (by rw [hC.h0]; show C.base ≤ h.nxt; have := inv.nxt; omega) (by rw [hC.h0]; show C.base ≤ h2.nxt; have := inv.nxt; omega)) ?_ (by show _ ≤ h2.nxt; have := inv.nxt; omega))
  intro j hj hne hq
  rw [e.only _ (by show _ < h.nxt; have := inv.nxt; omega) (by have := inv.nxt; omega)]
  exact hq

end
end Go.Ev
