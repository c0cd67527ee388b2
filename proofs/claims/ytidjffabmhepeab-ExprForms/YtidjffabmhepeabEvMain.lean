/- Code and calls: what is reckoned in named memory is what the program does. -/
import Derived.Test.YtidjffabmhepeabEvDraw6
set_option linter.unusedVariables false
set_option linter.unusedSimpArgs false
namespace Go.Ev
open Go.Deep Go.RowKit

structure EnvOk (E : Env) : Prop where
  tt : EnvT E
  mixed : E.P.follows .mixedOrders = true
  ff : ∀ g fn, tget E.ff g = some fn → E.P.funcs[g]? = some fn ∧ (fn.name == "runtime.NumGoroutine") = false ∧ ∃ c, fn.body = some c ∧ codeOk E g fn.ntmps c = true
  xx : ∀ g, tget E.xx g = some 1 → ∀ a b w, (callFunc g #[.string a, .string b]).run E.P w = .ok (.value (.int .i64 (Extern.BytealgCompare.cmp a b))) w

theorem args0_get : ∀ (l : List Value) (T : Tm) (i t : Nat), tget (args0 T i l) t = if i ≤ t ∧ t < i + l.length then l[t - i]? else tget T t
  | [], T, i, t => by simp only [args0]; rw [if_neg (by simp)]
  | v :: l, T, i, t => by
    simp only [args0, args0_get l, tget_tset, List.length_cons]
    by_cases h1 : i + 1 ≤ t ∧ t < i + 1 + l.length
    · rw [if_pos h1, if_pos (by omega)]
      have : t - i = (t - (i + 1)) + 1 := by omega
      rw [this, List.getElem?_cons_succ]
    · rw [if_neg h1]
      by_cases h2 : i = t
      · subst h2; rw [if_pos rfl, if_pos (by omega)]; simp
      · rw [if_neg h2, if_neg (by omega)]

/-- The frame of a call. -/
theorem args_TR {θ : Th} {args cargs : List Value} (h : all2 (W θ) args cargs) (k : Nat) : TR θ (args0 .nil 0 args) { tmps := cargs.toArray ++ Array.replicate k undef, defers := [] } := by
  refine ⟨rfl, fun t v hv => ?_⟩
  rw [args0_get] at hv
  split at hv
  · rename_i hlt
    simp only [Nat.sub_zero] at hv
    obtain ⟨u, h1, h2⟩ := all2_get h t v hv
    refine ⟨u, ?_, h2⟩
    have hl := all2_len h
    have : t < cargs.length := by omega
    rw [Array.getElem?_append_left (by simpa using this)]
    simpa using h1
  · cases hv

theorem noTup_V {θ : Th} : ∀ {vs us : List Value}, noTup vs = true → all2 (W θ) vs us → all2 (V θ) vs us
  | [], [], _, _ => trivial
  | v :: vs, u :: us, hn, h => by
    have hv : V θ v u ∧ noTup vs = true := by
      cases v <;> first | exact ⟨h.1, hn⟩ | (simp [noTup] at hn; done)
    exact ⟨hv.1, noTup_V hv.2 h.2⟩
  | [], _ :: _, _, h => h.elim
  | _ :: _, [], _, h => h.elim

/-- The results of a call. -/
theorem res_sound {E : Env} (hE : EnvT E) {θ : Th} {T : Tm} {h : Hp} {w : World} {a : Act} (hr : HR θ h w) (ht : TR θ T a) : ∀ {rs : List ResultVar} {vs : List Value}, resA (opv T) h E rs = some vs →
    ∃ us : List Value, (rs.mapM fun | .tmp t => pure (a.tmps.getD t undef) | .cell x t => do loadVar t (← asAddr (a.tmps.getD x undef)) : Sem (List Value)).run E.P w = .ok us w ∧ all2 (W θ) vs us
  | [], vs, hx => by cases hx; exact ⟨[], by simp, trivial⟩
  | .tmp t :: l, vs, hx => by
    simp only [resA] at hx
    split at hx
    · rename_i v r h1 h2
      cases hx
      obtain ⟨us, k1, k2⟩ := res_sound hE hr ht h2
      obtain ⟨u, q1, q2⟩ := ht.tmps t v h1
      refine ⟨u :: us, ?_, q2, k2⟩
      have hgd : a.tmps.getD t undef = u := by simp [Array.getD_eq_getD_getElem?, q1]
      simp only [List.mapM_cons, Sem.run_bind, Sem.run_pure, Result.andThen_ok, k1, hgd]
    · cases hx
  | .cell x ty :: l, vs, hx => by
    simp only [resA] at hx
    split at hx
    · rename_i ad ti r h1 h2 h3
      obtain ⟨us, k1, k2⟩ := res_sound hE hr ht h3
      obtain ⟨u, q1, q2⟩ := ht.tmps x _ h1
      obtain ⟨hs, y, hy, rfl⟩ : ad.spot = none ∧ ∃ y, θ ad.block = some y ∧ u = .pointer (some ⟨y.1, y.2.1 + ad.off, none⟩) := q2
      obtain ⟨i, d, z, fl, g1, g2, g3, g4, g5, rfl⟩ := ti_spec (hE _ _ h2)
      have hgd : a.tmps.getD x undef = .pointer (some ⟨y.1, y.2.1 + ad.off, none⟩) := by simp [Array.getD_eq_getD_getElem?, q1]
      have fin : ∀ u', (loadVar ty ⟨y.1, y.2.1 + ad.off, none⟩).run E.P w = .ok u' w → ((ResultVar.cell x ty :: l).mapM fun | .tmp t => pure (a.tmps.getD t undef) | .cell x t => do loadVar t (← asAddr (a.tmps.getD x undef)) : Sem (List Value)).run E.P w = .ok (u' :: us) w := by
        intro u' hu'
        rw [List.mapM_cons, Sem.run_bind]
        show ((do loadVar ty (← asAddr (a.tmps.getD x undef)) : Sem Value).run E.P w).andThen _ = _
        have hh : (do loadVar ty (← asAddr (a.tmps.getD x undef)) : Sem Value).run E.P w = .ok u' w := by rw [hgd]; simp [asAddr, hu']
        rw [hh]
        simp only [Result.andThen_ok, Sem.run_bind, k1, Sem.run_pure]
      simp only at hx
      cases hg : aggB d
      · simp only [hg, cond_false] at hx
        split at hx
        · rename_i v hl
          cases hx
          obtain ⟨ds, m1, m2, m3, m4⟩ := load_sound (P := E.P) hr hl hy
          match ds, m4, m2, m3 with
          | [b], _, m2, m3 =>
            have := m3 0 b (by simp)
            simp only [Nat.add_zero] at this
            exact ⟨b :: us, fin b (by simp [loadVar, run_isAgg g2, hg, this]), W_of_S m2.1, k2⟩
        · cases hx
      · simp only [hg, cond_true] at hx
        split at hx
        · rename_i cs hl
          cases hx
          obtain ⟨ds, m1, m2, m3, m4⟩ := load_sound (P := E.P) hr hl hy
          exact ⟨.agg ds.toArray :: us, fin _ (by simp [loadVar, run_isAgg g2, hg, run_sizeOf g1, m1]), ⟨ds, rfl, by simpa using m2⟩, k2⟩
        · cases hx
    · cases hx

theorem results_sound {E : Env} (hE : EnvT E) {θ : Th} {T : Tm} {h : Hp} {w : World} {a : Act} (hr : HR θ h w) (ht : TR θ T a) {fn : Func} {vs : List Value} {r : Value} (hx : resA (opv T) h E fn.results.toList = some vs) (ho : oneOf vs = some r) : ∃ u, (results fn a.tmps).run E.P w = .ok u w ∧ W θ r u := by
  obtain ⟨us, k1, k2⟩ := res_sound hE hr ht hx
  have hl := all2_len k2
  have hrun : (results fn a.tmps).run E.P w = .ok (if h : us.toArray.size = 1 then us.toArray[0] else .tuple us.toArray) w := by
    unfold results
    rw [Array.mapM_eq_mapM_toList]
    simp only [map_eq_pure_bind, bind_assoc, pure_bind, Sem.run_bind]
    refine (congrArg (fun r => Result.andThen r _) k1).trans ?_
    rfl
  match vs, us, k2, ho, hrun with
  | [v], [u], k2, ho, hrun =>
    simp only [oneOf, Option.some.injEq] at ho
    subst ho
    exact ⟨u, by simpa using hrun, k2.1⟩
  | [], [], k2, ho, hrun =>
    simp only [oneOf, noTup, cond_true, Option.some.injEq] at ho
    subst ho
    exact ⟨.tuple #[], by simpa using hrun, ⟨[], rfl, trivial⟩⟩
  | v1 :: v2 :: vs, u1 :: u2 :: us, k2, ho, hrun =>
    simp only [oneOf] at ho
    cases hn : noTup (v1 :: v2 :: vs) <;> simp only [hn, cond_true, cond_false, reduceCtorEq, Option.some.injEq] at ho
    subst ho
    refine ⟨.tuple (u1 :: u2 :: us).toArray, by simpa using hrun, ⟨u1 :: u2 :: us, rfl, by simpa using noTup_V hn k2⟩⟩
  | [_], [], k2, _, _ => exact k2.elim
  | [_], _ :: _ :: _, k2, _, _ => exact k2.2.elim
  | [], _ :: _, k2, _, _ => exact k2.elim
  | _ :: _ :: _, [], k2, _, _ => exact k2.elim
  | _ :: _ :: _, [_], k2, _, _ => exact k2.2.elim

/-- From within a loop's rounds on. -/
def InLoop (P : Program) (c : Code) (Q : Exit → Act → World → Prop) (a : Act) (w : World) : Prop :=
  ∀ (b : Frame) (k : List Item) (cs : List Frame), ∃ e a' w', Q e a' w' ∧ Arrives P (lone (b.at a (.code c :: .inLoop c :: k)) cs w) b k cs e a' w'

theorem InLoop.wp {P : Program} {c : Code} {Q : Exit → Act → World → Prop} {a : Act} {w : World} (h : InLoop P c Q a w) : (Code.loop c).wp P Q a w :=
  fun b k cs => let ⟨e, a', w', q, r⟩ := h b k cs; ⟨e, a', w', q, .of_steps (.one step_loop) r⟩

/-- One round more. -/
theorem InLoop.once {P : Program} {Q : Exit → Act → World → Prop} {a : Act} {w : World} {c : Code} (h : c.wp P (Exit.then (InLoop P c Q) Q) a w) : InLoop P c Q a w := by
  intro b k cs
  obtain ⟨e, a₁, w₁, hq, harr⟩ := h b (.inLoop c :: k) cs
  cases e with
  | normal =>
    obtain ⟨e₂, a₂, w₂, hq₂, harr₂⟩ := hq b k cs
    exact ⟨e₂, a₂, w₂, hq₂, .of_steps (Steps.trans harr (.one step_inLoop)) harr₂⟩
  | exit id => exact ⟨_, a₁, w₁, hq, .pass (x := .inLoop c) rfl (fun _ _ => .inl (by simp)) harr⟩
  | goto l => exact ⟨_, a₁, w₁, hq, .pass (x := .inLoop c) rfl (fun _ _ => .inl (by simp)) harr⟩
  | ret => exact ⟨_, a₁, w₁, hq, .pass (x := .inLoop c) rfl (fun _ _ => .inl (by simp)) harr⟩
  | panic ch => exact ⟨_, a₁, w₁, hq, .pass (x := .inLoop c) rfl (fun _ _ => .inl (by simp)) harr⟩
  | outgrown => exact ⟨_, a₁, w₁, hq, .pass (x := .inLoop c) rfl (fun _ _ => .inl (by simp)) harr⟩

def LW (P : Program) (c : Code) (Q : Exit → Act → World → Prop) (a : Act) (w : World) : Prop := match c with
  | .loop c => InLoop P c Q a w
  | c => c.wp P Q a w

theorem LW.wp {P : Program} {c : Code} {Q : Exit → Act → World → Prop} {a : Act} {w : World} (h : LW P c Q a w) : c.wp P Q a w := by
  cases c <;> first | exact h | exact InLoop.wp h

/-- What running a body is to do. -/
def RunOk (E : Env) (run : Code → Nat → Tm → Hp → Option (Exit × Tm × Hp)) : Prop :=
  ∀ c f N T h x T' h', run c f T h = some (x, T', h') → codeOk E f N c = true → ∀ θ a w Q, TR θ T a → N ≤ a.tmps.size → HR θ h w →
    (∀ θ' a' w', Ext h.nxt θ h w θ' h' w' → HR θ' h' w' → TR θ' T' a' → a'.tmps.size = a.tmps.size → Q x a' w') → LW E.P c Q a w

theorem call_sound {E : Env} (hE : EnvOk E) {run : Code → Nat → Tm → Hp → Option (Exit × Tm × Hp)} (hrun : RunOk E run) (h : Hp) : CallAt E.P (callA E run) h.nxt h := by
  intro g args r h' hx θ w cargs hr hargs
  unfold callA at hx
  split at hx
  · refine .inr ?_
    unfold xext at hx
    split at hx
    · rename_i a b hg
      cases hx
      obtain ⟨y, xv, hm, hw1, hw2⟩ := all2_two hargs
      subst hm
      have e1 : y = .string a := hw1
      have e2 : xv = .string b := hw2
      subst e1; subst e2
      exact ⟨_, hE.xx g hg a b w, rfl, rfl⟩
    · cases hx
  · rename_i fn hfn
    refine .inl ?_
    obtain ⟨f1, f2, c, f3, f4⟩ := hE.ff g fn hfn
    have f2' : ¬ fn.name = "runtime.NumGoroutine" := fun e => by rw [e] at f2; simp at f2
    refine ⟨by simp [callFunc, f1, f2', f3], ?_⟩
    rw [f3] at hx
    simp only at hx
    refine calls_of_wp f1 f3 ?_
    have hsz : fn.ntmps ≤ (cargs.toArray ++ Array.replicate (fn.ntmps - cargs.toArray.size) undef).size := by simp; omega
    split at hx
    · rename_i T1 h1 hev
      obtain ⟨vs, k1, k2⟩ := ob_some hx
      obtain ⟨r', k3, k4⟩ := ob_some k2
      cases k4
      refine (hrun c g fn.ntmps _ h _ _ _ hev f4 θ _ w _ (args_TR hargs _) hsz hr fun θ' a' w' e1 r1 t1 _ => ?_).wp
      obtain ⟨u, q1, q2⟩ := results_sound hE.tt r1 t1 k1 k3
      exact ⟨t1.defers, u, q1, θ', u, rfl, e1, r1, q2⟩
    · rename_i T1 h1 hev
      obtain ⟨vs, k1, k2⟩ := ob_some hx
      obtain ⟨r', k3, k4⟩ := ob_some k2
      cases k4
      refine (hrun c g fn.ntmps _ h _ _ _ hev f4 θ _ w _ (args_TR hargs _) hsz hr fun θ' a' w' e1 r1 t1 _ => ?_).wp
      obtain ⟨u, q1, q2⟩ := results_sound hE.tt r1 t1 k1 k3
      exact ⟨t1.defers, u, q1, θ', u, rfl, e1, r1, q2⟩
    · cases hx

theorem ev_sound {E : Env} (hE : EnvOk E) : ∀ n, RunOk E (ev E n)
  | 0 => fun c f N T h x T' h' hx => by cases hx
  | n + 1 => fun c f N T h x T' h' hx hc θ a w Q ht hN hr hQ => by
    have ih := ev_sound hE n
    have hcall : ∀ h, CallAt E.P (callA E (ev E n)) h.nxt h := fun h => call_sound hE ih h
    cases c with
    | skip =>
      cases hx
      exact wp_skip (hQ θ a w (Ext.refl _ _ _ _) hr ht rfl)
    | exit id =>
      cases hx
      exact wp_exit (hQ θ a w (Ext.refl _ _ _ _) hr ht rfl)
    | ret =>
      cases hx
      exact wp_ret (hQ θ a w (Ext.refl _ _ _ _) hr ht rfl)
    | seq c1 c2 =>
      simp only [codeOk, Bool.and_eq_true] at hc
      simp only [ev] at hx
      refine wp_seq ?_
      split at hx
      · rename_i T1 h1 h2
        refine (ih c1 f N T h _ _ _ h2 hc.1 θ a w _ ht hN hr fun θ1 a1 w1 e1 r1 t1 s1 => ?_).wp
        refine (ih c2 f N T1 h1 _ _ _ hx hc.2 θ1 a1 w1 _ t1 (by rw [s1]; exact hN) r1 fun θ2 a2 w2 e2 r2 t2 s2 => ?_).wp
        exact hQ θ2 a2 w2 (e1.trans e2 (fun n hn _ e => by have := e1.nxt; omega)) r2 t2 (by rw [s2, s1])
      · rename_i hne
        refine (ih c1 f N T h _ _ _ hx hc.1 θ a w _ ht hN hr fun θ1 a1 w1 e1 r1 t1 s1 => ?_).wp
        have hx1 : x ≠ .normal := fun e => hne T' h' (by rw [hx, e])
        cases x <;> first | exact absurd rfl hx1 | exact hQ θ1 a1 w1 e1 r1 t1 s1
    | cond c c1 c2 =>
      simp only [codeOk, Bool.and_eq_true] at hc
      simp only [ev] at hx
      split at hx
      · rename_i hv
        exact wp_cond_true (opv_W ht hv) (ih c1 f N T h _ _ _ hx hc.1 θ a w _ ht hN hr hQ).wp
      · rename_i hv
        exact wp_cond_false (opv_W ht hv) (ih c2 f N T h _ _ _ hx hc.2 θ a w _ ht hN hr hQ).wp
      · cases hx
    | block id c =>
      simp only [codeOk] at hc
      simp only [ev] at hx
      refine wp_block ?_
      split at hx
      · rename_i i T1 h1 h2
        refine (ih c f N T h _ _ _ h2 hc θ a w _ ht hN hr fun θ1 a1 w1 e1 r1 t1 s1 => ?_).wp
        simp only [Exit.inBlock]
        cases hb : Nat.beq i id <;> simp only [hb, cond_true, cond_false, Option.some.injEq, Prod.mk.injEq] at hx
        · have hne : i ≠ id := fun e => by rw [e] at hb; simp at hb
          rw [if_neg hne]
          obtain ⟨rfl, rfl, rfl⟩ := hx
          exact hQ θ1 a1 w1 e1 r1 t1 s1
        · rw [if_pos (Nat.eq_of_beq_eq_true hb)]
          obtain ⟨rfl, rfl, rfl⟩ := hx
          exact hQ θ1 a1 w1 e1 r1 t1 s1
      · rename_i hne
        refine (ih c f N T h _ _ _ hx hc θ a w _ ht hN hr fun θ1 a1 w1 e1 r1 t1 s1 => ?_).wp
        cases x <;> first | exact hQ θ1 a1 w1 e1 r1 t1 s1 | exact absurd hx (hne _ T' h')
    | loop c =>
      simp only [codeOk] at hc
      simp only [ev] at hx
      show InLoop E.P c Q a w
      refine InLoop.once ?_
      split at hx
      · rename_i T1 h1 h2
        refine (ih c f N T h _ _ _ h2 hc θ a w _ ht hN hr fun θ1 a1 w1 e1 r1 t1 s1 => ?_).wp
        have := ih (.loop c) f N T1 h1 _ _ _ hx (by simpa [codeOk] using hc) θ1 a1 w1 Q t1 (by rw [s1]; exact hN) r1 fun θ2 a2 w2 e2 r2 t2 s2 => hQ θ2 a2 w2 (e1.trans e2 (fun n hn _ e => by have := e1.nxt; omega)) r2 t2 (by rw [s2, s1])
        exact this
      · rename_i hne
        refine (ih c f N T h _ _ _ hx hc θ a w _ ht hN hr fun θ1 a1 w1 e1 r1 t1 s1 => ?_).wp
        have hx1 : x ≠ .normal := fun e => hne T' h' (by rw [hx, e])
        cases x <;> first | exact absurd rfl hx1 | exact hQ θ1 a1 w1 e1 r1 t1 s1
    | region id ops draw =>
      simp only [codeOk, Bool.and_eq_true] at hc
      simp only [ev] at hx
      cases draw with
      | true =>
        simp only [cond_true] at hx hc
        split at hx
        · cases hx
        · rename_i pf hpf
          split at hx
          · cases hx
          · rename_i st hst
            split at hx
            · rename_i T1 h1 h2
              cases hx
              have hpl := hc.2
              rw [hpf] at hpl
              simp only at hpl
              rw [hst] at hpl
              exact draw_sound hE.tt hE.mixed hcall h2 hpl hc.1 ht hN hr hQ
            · cases hx
      | false =>
        simp only [cond_false] at hx
        split at hx
        · rename_i T1 h1 h2
          cases hx
          exact region_sound hE.tt hcall h2 hc.1 ht hN hr hQ
        · cases hx
    | _ => cases hx

/-- A call that is reckoned in named memory, out of nothing. -/
theorem run_sound {E : Env} (hE : EnvOk E) {n g : Nat} {fn : Func} {c : Code} (hfn : tget E.ff g = some fn) (hc : fn.body = some c) {T : Tm} {h : Hp} {r : Value} (hx : callA E (ev E n) g [] ⟨.nil, 0⟩ = some (r, h)) (hp : isPlain r = true) (w : World) :
    Calls E.P g #[] w fun e w' => e = .returned r ∧ Below w.heap.size w w' := by
  have hr : HR (fun _ => none) ⟨.nil, 0⟩ w := ⟨fun n e x q => (by cases q), fun n m e e' x y q => (by cases q), fun _ _ => rfl⟩
  rcases call_sound hE (ev_sound hE n) ⟨.nil, 0⟩ g [] r h hx (fun _ => none) w [] hr trivial with ⟨_, h2⟩ | ⟨u, h1, _, _⟩
  · refine h2.mono fun e w' hq => ?_
    obtain ⟨θ', u, rfl, q1, q2, q3⟩ := hq
    rw [W_plain hp q3]
    exact ⟨rfl, q1.os, q1.tape, q1.output, q1.size, fun k hk => q1.frame k hk fun n e x q => by cases q⟩
  · exfalso
    obtain ⟨f1, f2, c', f3, _⟩ := hE.ff g fn hfn
    have f2' : ¬ fn.name = "runtime.NumGoroutine" := fun e => by rw [e] at f2; simp at f2
    simp [callFunc, f1, f2', f3] at h1

end Go.Ev
