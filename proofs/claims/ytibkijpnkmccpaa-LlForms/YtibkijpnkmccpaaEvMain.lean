/- Code and calls: what is reckoned in named memory is what the program does. -/
import Derived.Test.YtibkijpnkmccpaaEvDraw6
import Derived.Test.YtibkijpnkmccpaaEvBld
import Derived.RangeFuncLeaves
set_option linter.unusedVariables false
set_option linter.unusedSimpArgs false
namespace Go.Ev
open Go.Deep Go.RowKit

/-- A function that answers a text, of which a part is another. -/
def Splices (P : Program) (g : Nat) : Prop := ∀ (s : ByteArray) (a n : Int) (p : ByteArray) (w : World), splB s a n p = true → (callFunc g #[.string s, .agg #[.int .i64 a, .int .i64 n, .string p]]).run P w = .ok (.enter g #[.string s, .agg #[.int .i64 a, .int .i64 n, .string p]]) w ∧
  Calls P g #[.string s, .agg #[.int .i64 a, .int .i64 n, .string p]] w fun e w' => e = .returned (.string (splT s a.toNat n.toNat p)) ∧ Below w.heap.size w w'

structure EnvOk (E : Env) : Prop where
  tt : EnvT E
  mixed : E.P.follows .mixedOrders = true
  ff : ∀ g fn, tget E.ff g = some fn → E.P.funcs[g]? = some fn ∧ (fn.name == "runtime.NumGoroutine") = false ∧ ∃ c, fn.body = some c ∧ codeOk E g fn.ntmps c = true
  xx : ∀ g, tget E.xx g = some 1 → ∀ a b w, (callFunc g #[.string a, .string b]).run E.P w = .ok (.value (.int .i64 (Extern.BytealgCompare.cmp a b))) w

  x3 : ∀ g, tget E.xx g = some 3 → ∀ s c w, (callFunc g #[.string s, .int .u8 c]).run E.P w = .ok (.value (.int .i64 (idxB s c))) w
  x4 : ∀ g, tget E.xx g = some 4 → Splices E.P g
  x5 : ∀ g, tget E.xx g = some 5 → ∀ T e, bldK E T = some e → Writes E.P g T e
  x6 : ∀ g, tget E.xx g = some 6 → ∀ T e, bldK E T = some e → Says E.P g T e
  x7 : ∀ g, tget E.xx g = some 7 → Clones E.P g
  x2 : ∀ g, tget E.xx g = some 2 → ∀ w, (callFunc g #[]).run E.P w = .ok (.enter g #[]) w ∧ Calls E.P g #[] w fun e w' => e = .returned (.bool true) ∧ Below w.heap.size w w'

/-- Named memory, where all that was there is as it was. -/
theorem HR.below [LG] {θ : Th} {h : Hp} {w w' : World} (hr : HR θ h w) (hb : Below w.heap.size w w') : HR θ h w' := by
  refine ⟨fun n e x he hx => ?_, hr.sep, hr.fresh⟩
  have r := hr.ent n e x he hx
  have hc : ∀ i, w'.cell? ⟨x.1, i, none⟩ = w.cell? ⟨x.1, i, none⟩ := fun i => by unfold World.cell?; rw [hb.block x.1 r.lt]
  have hf : ∀ i, w'.frozen? ⟨x.1, i, none⟩ = w.frozen? ⟨x.1, i, none⟩ := fun i => by unfold World.frozen?; rw [hb.block x.1 r.lt]
  refine ⟨r.at_, Nat.lt_of_lt_of_le r.lt hb.size, fun i v hv => ?_, fun o ho => (by rw [hb.block x.1 r.lt]; exact r.ob o ho), fun hu => ?_⟩
  · rw [hc, hf]; exact r.cell i v hv
  · obtain ⟨h1, h2⟩ := r.room hu
    refine ⟨h1, fun i hi => ?_⟩
    rw [hc, hf]; exact h2 i hi

theorem Ext.below {nm : Nat} {θ : Th} {h : Hp} {w w' : World} (hb : Below w.heap.size w w') : Ext nm θ h w θ h w' where
  keep _ _ e := e
  only _ _ _ := rfl
  nxt := Nat.le_refl _
  size := hb.size
  tape := hb.tape
  os := hb.os
  output := hb.output
  frame b hlt _ := hb.block b hlt
  ownw n e x h1 hu h2 := .inr ⟨n, e, x, h1, hu, h2, rfl⟩
  own n e x h1 h2 := .inr ⟨n, e, x, h1, h2, rfl⟩

theorem args0_get : ∀ (l : List Value) (T : Tm) (i t : Nat), tget (args0 T i l) t = if i ≤ t ∧ t < i + l.length then l[t - i]? else tget T t
  | [], T, i, t => by simp only [args0]; rw [if_neg (by simp)]
  | v :: l, T, i, t => by
    simp only [args0, args0_get l, tget_tset, List.length_cons]
    by_cases h1 : i + 1 ≤ t ∧ t < i + 1 + l.length
    · rw [if_pos h1, if_pos (by omega)]
      have : t - i = (t - (i + 1)) + 1 := by omega
      rw [this, List.getElem?_cons_succ]
    · rw [if_neg h1]
      by_cases h2 : i = t
      · subst h2; rw [if_pos rfl, if_pos (by omega)]; simp
      · rw [if_neg h2, if_neg (by omega)]

/-- The frame of a call. -/
theorem args_TR {θ : Th} {args cargs : List Value} (h : all2 (W θ) args cargs) (k : Nat) : TR θ (args0 .nil 0 args) { tmps := cargs.toArray ++ Array.replicate k undef, defers := [] } := by
  refine ⟨fun t v hv => ?_⟩
  rw [args0_get] at hv
  split at hv
  · rename_i hlt
    simp only [Nat.sub_zero] at hv
    obtain ⟨u, h1, h2⟩ := all2_get h t v hv
    refine ⟨u, ?_, h2⟩
    have hl := all2_len h
    have : t < cargs.length := by omega
    rw [Array.getElem?_append_left (by simpa using this)]
    simpa using h1
  · cases hv

theorem noTup_V {θ : Th} : ∀ {vs us : List Value}, noTup vs = true → all2 (W θ) vs us → all2 (V θ) vs us
  | [], [], _, _ => trivial
  | v :: vs, u :: us, hn, h => by
    have hv : V θ v u ∧ noTup vs = true := by
      cases v <;> first | exact ⟨h.1, hn⟩ | (simp [noTup] at hn; done)
    exact ⟨hv.1, noTup_V hv.2 h.2⟩
  | [], _ :: _, _, h => h.elim
  | _ :: _, [], _, h => h.elim

/-- The results of a call. -/
theorem res_sound [LG] {E : Env} (hE : EnvT E) {θ : Th} {T : Tm} {h : Hp} {w : World} {a : Act} (hr : HR θ h w) (ht : TR θ T a) : ∀ {rs : List ResultVar} {vs : List Value}, resA (opv T) h E rs = some vs →
    ∃ us : List Value, (rs.mapM fun | .tmp t => pure (a.tmps.getD t undef) | .cell x t => do loadVar t (← asAddr (a.tmps.getD x undef)) : Sem (List Value)).run E.P w = .ok us w ∧ all2 (W θ) vs us
  | [], vs, hx => by cases hx; exact ⟨[], by simp, trivial⟩
  | .tmp t :: l, vs, hx => by
    simp only [resA] at hx
    split at hx
    · rename_i v r h1 h2
      cases hx
      obtain ⟨us, k1, k2⟩ := res_sound hE hr ht h2
      obtain ⟨u, q1, q2⟩ := ht.tmps t v h1
      refine ⟨u :: us, ?_, q2, k2⟩
      have hgd : a.tmps.getD t undef = u := by simp [Array.getD_eq_getD_getElem?, q1]
      simp only [List.mapM_cons, Sem.run_bind, Sem.run_pure, Result.andThen_ok, k1, hgd]
    · cases hx
  | .cell x ty :: l, vs, hx => by
    simp only [resA] at hx
    split at hx
    · rename_i ad ti r h1 h2 h3
      obtain ⟨us, k1, k2⟩ := res_sound hE hr ht h3
      obtain ⟨u, q1, q2⟩ := ht.tmps x _ h1
      obtain ⟨hs, y, hy, rfl⟩ : ad.spot = none ∧ ∃ y, θ ad.block = some y ∧ u = .pointer (some ⟨y.1, y.2.1 + ad.off, none⟩) := q2
      obtain ⟨i, d, z, fl, g1, g2, g3, g4, g5, rfl⟩ := ti_spec (hE _ _ h2)
      have hgd : a.tmps.getD x undef = .pointer (some ⟨y.1, y.2.1 + ad.off, none⟩) := by simp [Array.getD_eq_getD_getElem?, q1]
      have fin : ∀ u', (loadVar ty ⟨y.1, y.2.1 + ad.off, none⟩).run E.P w = .ok u' w → ((ResultVar.cell x ty :: l).mapM fun | .tmp t => pure (a.tmps.getD t undef) | .cell x t => do loadVar t (← asAddr (a.tmps.getD x undef)) : Sem (List Value)).run E.P w = .ok (u' :: us) w := by
        intro u' hu'
        rw [List.mapM_cons, Sem.run_bind]
        show ((do loadVar ty (← asAddr (a.tmps.getD x undef)) : Sem Value).run E.P w).andThen _ = _
        have hh : (do loadVar ty (← asAddr (a.tmps.getD x undef)) : Sem Value).run E.P w = .ok u' w := by rw [hgd]; simp [asAddr, hu']
        rw [hh]
        simp only [Result.andThen_ok, Sem.run_bind, k1, Sem.run_pure]
      simp only at hx
      cases hg : aggB d
      · simp only [hg, cond_false] at hx
        split at hx
        · rename_i v hl
          cases hx
          obtain ⟨ds, m1, m2, m3, m4⟩ := load_sound (P := E.P) hr hl hy
          match ds, m4, m2, m3 with
          | [b], _, m2, m3 =>
            have := m3 0 b (by simp)
            simp only [Nat.add_zero] at this
            exact ⟨b :: us, fin b (by simp [loadVar, run_isAgg g2, hg, this]), W_of_S m2.1, k2⟩
        · cases hx
      · simp only [hg, cond_true] at hx
        split at hx
        · rename_i cs hl
          cases hx
          obtain ⟨ds, m1, m2, m3, m4⟩ := load_sound (P := E.P) hr hl hy
          exact ⟨.agg ds.toArray :: us, fin _ (by simp [loadVar, run_isAgg g2, hg, run_sizeOf g1, m1]), ⟨ds, rfl, by simpa using m2⟩, k2⟩
        · cases hx
    · cases hx

theorem results_sound [LG] {E : Env} (hE : EnvT E) {θ : Th} {T : Tm} {h : Hp} {w : World} {a : Act} (hr : HR θ h w) (ht : TR θ T a) {fn : Func} {vs : List Value} {r : Value} (hx : resA (opv T) h E fn.results.toList = some vs) (ho : oneOf vs = some r) : ∃ u, (results fn a.tmps).run E.P w = .ok u w ∧ W θ r u := by
  obtain ⟨us, k1, k2⟩ := res_sound hE hr ht hx
  have hl := all2_len k2
  have hrun : (results fn a.tmps).run E.P w = .ok (if h : us.toArray.size = 1 then us.toArray[0] else .tuple us.toArray) w := by
    unfold results
    rw [Array.mapM_eq_mapM_toList]
    simp only [map_eq_pure_bind, bind_assoc, pure_bind, Sem.run_bind]
    refine (congrArg (fun r => Result.andThen r _) k1).trans ?_
    rfl
  match vs, us, k2, ho, hrun with
  | [v], [u], k2, ho, hrun =>
    simp only [oneOf, Option.some.injEq] at ho
    subst ho
    exact ⟨u, by simpa using hrun, k2.1⟩
  | [], [], k2, ho, hrun =>
    simp only [oneOf, noTup, cond_true, Option.some.injEq] at ho
    subst ho
    exact ⟨.tuple #[], by simpa using hrun, ⟨[], rfl, trivial⟩⟩
  | v1 :: v2 :: vs, u1 :: u2 :: us, k2, ho, hrun =>
    simp only [oneOf] at ho
    cases hn : noTup (v1 :: v2 :: vs) <;> simp only [hn, cond_true, cond_false, reduceCtorEq, Option.some.injEq] at ho
    subst ho
    refine ⟨.tuple (u1 :: u2 :: us).toArray, by simpa using hrun, ⟨u1 :: u2 :: us, rfl, by simpa using noTup_V hn k2⟩⟩
  | [_], [], k2, _, _ => exact k2.elim
  | [_], _ :: _ :: _, k2, _, _ => exact k2.2.elim
  | [], _ :: _, k2, _, _ => exact k2.elim
  | _ :: _ :: _, [], k2, _, _ => exact k2.elim
  | _ :: _ :: _, [_], k2, _, _ => exact k2.2.elim

/-- From within a loop's rounds on. -/
def InLoop (ro : Option Nat) (P : Program) (c : Code) (Q : Exit → Act → World → Prop) (a : Act) (w : World) : Prop :=
  ∀ (b : Frame) (k : List Item) (cs : List Frame), b.roundOf = ro → ∃ e a' w', Q e a' w' ∧ ArrivesIn (Machine.fenced P (FW ro)) P (lone (b.atR a (.code c :: .inLoop c :: k)) cs w) b k cs e a' w'

theorem fenced_FW {ro : Option Nat} {P : Program} (m : Machine) : m.fenced P (FW ro) := fenced_wide P m

theorem InLoop.wp {ro : Option Nat} {P : Program} {c : Code} {Q : Exit → Act → World → Prop} {a : Act} {w : World} (h : InLoop ro P c Q a w) : (Code.loop c).wpIn (FW ro) 0 P Q a w :=
  fun b k cs hro _ _ => let ⟨e, a', w', q, r⟩ := h b k cs hro; ⟨e, a', w', q, .of_steps (.one (fenced_FW _) stepR_loop) r⟩

/-- One round more. -/
theorem InLoop.once {ro : Option Nat} {P : Program} {Q : Exit → Act → World → Prop} {a : Act} {w : World} {c : Code} (h : c.wpIn (FW ro) 0 P (Exit.then (InLoop ro P c Q) Q) a w) : InLoop ro P c Q a w := by
  intro b k cs hro
  obtain ⟨e, a₁, w₁, hq, harr⟩ := h b (.inLoop c :: k) cs hro fn_FW (room_FW _)
  cases e with
  | normal =>
    obtain ⟨e₂, a₂, w₂, hq₂, harr₂⟩ := hq b k cs hro
    exact ⟨e₂, a₂, w₂, hq₂, .of_steps (StepsIn.trans harr (.one (fenced_FW _) stepR_inLoop)) harr₂⟩
  | exit id => exact ⟨_, a₁, w₁, hq, .pass (x := .inLoop c) rfl (fun _ _ => .inl (by simp)) harr⟩
  | goto l => exact ⟨_, a₁, w₁, hq, .pass (x := .inLoop c) rfl (fun _ _ => .inl (by simp)) harr⟩
  | ret => exact ⟨_, a₁, w₁, hq, .pass (x := .inLoop c) rfl (fun _ _ => .inl (by simp)) harr⟩
  | panic ch => exact ⟨_, a₁, w₁, hq, .pass (x := .inLoop c) rfl (fun _ _ => .inl (by simp)) harr⟩
  | outgrown => exact ⟨_, a₁, w₁, hq, .pass (x := .inLoop c) rfl (fun _ _ => .inl (by simp)) harr⟩

def LW (ro : Option Nat) (P : Program) (c : Code) (Q : Exit → Act → World → Prop) (a : Act) (w : World) : Prop := match c with
  | .loop c => InLoop ro P c Q a w
  | c => c.wpIn (FW ro) 0 P Q a w

theorem LW.wp {ro : Option Nat} {P : Program} {c : Code} {Q : Exit → Act → World → Prop} {a : Act} {w : World} (h : LW ro P c Q a w) : c.wpIn (FW ro) 0 P Q a w := by
  cases c <;> first | exact h | exact InLoop.wp h

/-- A block for the rounds' deferred calls, that nothing names. -/
def Mk (B : Nat) (θ : Th) (h : Hp) (w : World) (D : Nat) : Prop := B ≤ D ∧ w.heap[D]? = some (.deferred (some [])) ∧ ∀ n e x, tget h.m n = some e → θ n = some x → x.1 ≠ D

def Marks (B : Nat) (θ : Th) (h : Hp) (w : World) : List Deferred → Prop
  | [] => True
  | d :: ds => (∃ D, d = { target := .collected D, args := #[] } ∧ Mk B θ h w D ∧ ∀ d' ∈ ds, d'.target ≠ .collected D) ∧ Marks B θ h w ds

theorem lt_of_heap {w : World} {D : Nat} {o : Obj} (h : w.heap[D]? = some o) : D < w.heap.size := (Array.getElem?_eq_some_iff.1 h).1

theorem Mk.ext {B nm : Nat} {θ θ' : Th} {h h' : Hp} {w w' : World} {D : Nat} (m : Mk B θ h w D) (e : Ext nm θ h w θ' h' w') : Mk B θ' h' w' D := by
  obtain ⟨m0, m1, m2⟩ := m
  have hlt := lt_of_heap m1
  refine ⟨m0, (e.frame D hlt fun n en x q1 _ q2 => m2 n en x q1 q2).trans m1, fun n en x q1 q2 q3 => ?_⟩
  rcases e.own n en x q1 q2 with q4 | ⟨k, ek, y, q4, q5, q6⟩
  · omega
  · exact m2 k ek y q4 q5 (q6.trans q3)

theorem Marks.ext {B nm : Nat} {θ θ' : Th} {h h' : Hp} {w w' : World} (e : Ext nm θ h w θ' h' w') : ∀ {ds : List Deferred}, Marks B θ h w ds → Marks B θ' h' w' ds
  | [], _ => trivial
  | _ :: _, ⟨⟨D, h1, h2, h3⟩, h4⟩ => ⟨⟨D, h1, h2.ext e, h3⟩, Marks.ext e h4⟩

theorem Marks.lt {B : Nat} {θ : Th} {h : Hp} {w : World} : ∀ {ds : List Deferred}, Marks B θ h w ds → ∀ d ∈ ds, ∀ D, d.target = .collected D → D < w.heap.size
  | [], _, d, hd, _, _ => by cases hd
  | _ :: _, ⟨⟨D, h1, h2, _⟩, h4⟩, d, hd, D', hD' => by
    rcases List.mem_cons.1 hd with rfl | hd
    · rw [h1] at hD'
      cases hD'
      exact lt_of_heap h2.2.1
    · exact Marks.lt h4 d hd D' hD'

/-- A loop's record is laid. -/
theorem newLp_sound [LG] {θ : Th} {h : Hp} {w : World} (hr : HR θ h w) {L : Lp} {r : Loop} (hg : LG.good L) (hL : LpR θ L r) :
    HR (fun n => if n = h.nxt then some (w.heap.size, 0, 0) else θ n) (newLp h L) (w.alloc (.loop r)) ∧ Ext h.nxt θ h w (fun n => if n = h.nxt then some (w.heap.size, 0, 0) else θ n) (newLp h L) (w.alloc (.loop r)) := by
  have hnm : θ h.nxt = none := hr.fresh _ (Nat.le_refl _)
  have hkeep : ∀ n x, θ n = some x → (fun n => if n = h.nxt then some (w.heap.size, 0, 0) else θ n) n = some x := by
    intro n x hx
    have : n ≠ h.nxt := fun e => by subst e; rw [hnm] at hx; cases hx
    simp only [if_neg this, hx]
  have hr1 := hr.alloc_free (.loop r)
  refine ⟨⟨?_, ?_, ?_⟩, hkeep, ?_, ?_, by simp, rfl, rfl, rfl, fun b hb _ => Below.heap_alloc _ _ _ hb, ?_, ?_⟩
  · intro n e x hn hx
    simp only [newLp, halloc, tget_tset] at hn
    by_cases hb : h.nxt = n
    · subst hb
      rw [if_pos rfl] at hn
      cases hn
      simp only [if_true, Option.some.injEq] at hx
      subst hx
      refine ⟨by simp, by simp, fun i v hi => (by cases hi), fun o ho => ?_, fun hu => absurd rfl hu⟩
      cases ho
      exact ObR_mono hkeep (⟨hg, r, World.alloc_heap_new w (.loop r), hL⟩ : ObR θ _ (.loop L))
    · rw [if_neg hb] at hn
      simp only [if_neg (Ne.symm hb)] at hx
      have q := hr1.ent _ _ _ hn hx
      exact ⟨hkeep _ _ q.at_, q.lt, fun i v hi => let ⟨⟨u, k1, k2⟩, k3⟩ := q.cell i v hi; ⟨⟨u, k1, S_mono hkeep k2⟩, k3⟩, fun o ho => ObR_mono hkeep (q.ob o ho), q.room⟩
  · intro n m e e' x y h1 h2 hne t1 t2
    simp only [newLp, halloc, tget_tset] at h1 h2
    by_cases hn : h.nxt = n
    · subst hn
      simp only [if_true] at t1
      rw [if_neg hne] at h2
      simp only [if_neg (Ne.symm hne)] at t2
      have := (hr.ent _ _ _ h2 t2).lt
      cases t1
      simp only; omega
    · rw [if_neg hn] at h1
      simp only [if_neg (Ne.symm hn)] at t1
      by_cases hm : h.nxt = m
      · subst hm
        simp only [if_true] at t2
        have := (hr.ent _ _ _ h1 t1).lt
        cases t2
        simp only; omega
      · rw [if_neg hm] at h2
        simp only [if_neg (Ne.symm hm)] at t2
        exact hr.sep n m e e' x y h1 h2 hne t1 t2
  · intro n hn
    simp only [newLp, halloc] at hn
    have h1 : n ≠ h.nxt := by omega
    simp only [if_neg h1]
    exact hr.fresh n (by omega)
  · intro n _ hne
    simp only [if_neg hne]
  · simp only [newLp, halloc]; omega
  · intro n e x h1 hu h2
    simp only [newLp, halloc, tget_tset] at h1
    by_cases hb : h.nxt = n
    · subst hb
      simp only [if_true] at h2
      cases h2
      exact .inl (Nat.le_refl _)
    · rw [if_neg hb] at h1
      simp only [if_neg (Ne.symm hb)] at h2
      exact .inr ⟨n, e, x, h1, hu, h2, rfl⟩
  · intro n e x h1 h2
    simp only [newLp, halloc, tget_tset] at h1
    by_cases hb : h.nxt = n
    · subst hb
      simp only [if_true] at h2
      cases h2
      exact .inl (Nat.le_refl _)
    · rw [if_neg hb] at h1
      simp only [if_neg (Ne.symm hb)] at h2
      exact .inr ⟨n, e, x, h1, h2, rfl⟩

theorem getLp_spec {h : Hp} {l : Nat} {L : Lp} (hg : getLp h l = some L) : ∃ e, tget h.m l = some e ∧ e.ob = some (.loop L) ∧ e.unk ≠ roU := by
  unfold getLp at hg
  split at hg
  · rename_i e he
    cases hu0 : Nat.beq e.unk 0 <;> simp only [hu0, cond_true, cond_false, reduceCtorEq] at hg
    have hro : e.unk ≠ roU := by rw [Nat.eq_of_beq_eq_true hu0]; unfold roU; omega
    split at hg
    · rename_i L' ho
      cases hg
      exact ⟨e, he, ho, hro⟩
    · cases hg
  · cases hg

theorem getLp_R [LG] {θ : Th} {h : Hp} {w : World} (hr : HR θ h w) {l : Nat} {L : Lp} {x : Nat × Nat × Nat} (hg : getLp h l = some L) (hx : θ l = some x) : LG.good L ∧ ∃ r, w.heap[x.1]? = some (.loop r) ∧ LpR θ L r := by
  obtain ⟨e, he, ho, _⟩ := getLp_spec hg
  exact (hr.ent l e x he hx).ob _ ho

/-- A loop's record is turned. -/
theorem setLp_sound [LG] {θ : Th} {h h' : Hp} {w : World} (hr : HR θ h w) {l st : Nat} {pend : Option Code} {x : Nat × Nat × Nat} (hs : setLp h l st pend = some h') (hx : θ l = some x) :
    ∃ r, w.heap[x.1]? = some (.loop r) ∧ HR θ h' (w.putObj x.1 (.loop { r with state := stOf st, pending := pend })) ∧ ∀ nm, Ext nm θ h w θ h' (w.putObj x.1 (.loop { r with state := stOf st, pending := pend })) := by
  unfold setLp at hs
  split at hs
  · rename_i e he
    cases hu0 : Nat.beq e.unk 0 <;> simp only [hu0, cond_true, cond_false, reduceCtorEq] at hs
    have hro : e.unk ≠ roU := by rw [Nat.eq_of_beq_eq_true hu0]; unfold roU; omega
    split at hs
    · rename_i L ho
      cases hs
      have re := hr.ent l e x he hx
      obtain ⟨g, r, hb, hL⟩ : LG.good L ∧ ∃ r, w.heap[x.1]? = some (.loop r) ∧ LpR θ L r := re.ob _ ho
      have lift : ∀ k ek, tget (tset h.m l (some ⟨.nil, 0, 0, some (.loop ⟨L.fn, L.N, L.ps, L.asg, L.body, L.ts, st, pend⟩)⟩)) k = some ek → ∃ ek', tget h.m k = some ek' := by
        intro k ek hk
        rw [tget_tset] at hk
        split at hk
        · rename_i q; subst q; exact ⟨e, he⟩
        · exact ⟨ek, hk⟩
      refine ⟨r, hb, ⟨fun n en y hn hy => ?_, fun n m e1 e2 y z h1 h2 hne t1 t2 => ?_, hr.fresh⟩, fun nm => ⟨fun _ _ q => q, fun _ _ _ => rfl, Nat.le_refl _, by rw [World.putObj_size]; exact Nat.le_refl _, rfl, rfl, rfl, fun b hb hno => ?_, fun n en y hn hu hy => ?_, fun n en y hn hy => ?_⟩⟩
      · simp only [tget_tset] at hn
        by_cases hne : l = n
        · subst hne
          rw [if_pos rfl] at hn
          cases hn
          have hxy : x = y := by rw [hx] at hy; exact Option.some.inj hy
          subst hxy
          refine ⟨hx, by rw [World.putObj_size]; exact re.lt, fun i v hi => (by cases hi), fun o ho' => ?_, fun hu => absurd rfl hu⟩
          cases ho'
          exact ⟨g, _, World.putObj_heap_same re.lt, hL.ps, hL.asg, hL.body, rfl, rfl, hL.size, hL.ts⟩
        · rw [if_neg hne] at hn
          have rz := hr.ent _ _ _ hn hy
          have hsep := hr.sep _ _ _ _ _ _ hn he (Ne.symm hne) hy hx
          have hk : (w.putObj x.1 (.loop { r with state := stOf st, pending := pend })).heap[y.1]? = w.heap[y.1]? := World.putObj_heap_other hsep
          refine ⟨rz.at_, by rw [World.putObj_size]; exact rz.lt, fun i v hv => ?_, fun q hq => (by rw [hk]; exact rz.ob q hq), fun hu => ?_⟩
          · rw [World.cell?_of_block (w := w) hk, World.frozen?_of_block (w := w) hk]; exact rz.cell i v hv
          · obtain ⟨h1, h2⟩ := rz.room hu
            refine ⟨h1, fun i hi => ?_⟩
            rw [World.cell?_of_block (w := w) hk, World.frozen?_of_block (w := w) hk]; exact h2 i hi
      · obtain ⟨e1', h1'⟩ := lift n e1 h1
        obtain ⟨e2', h2'⟩ := lift m e2 h2
        exact hr.sep n m e1' e2' y z h1' h2' hne t1 t2
      · exact World.putObj_heap_other fun q => hno l e x he hro hx q.symm
      · simp only [tget_tset] at hn
        split at hn
        · rename_i q; subst q; exact .inr ⟨_, _, _, he, hro, hy, rfl⟩
        · exact .inr ⟨_, _, _, hn, hu, hy, rfl⟩
      · simp only [tget_tset] at hn
        split at hn
        · rename_i q; subst q; exact .inr ⟨_, _, _, he, hy, rfl⟩
        · exact .inr ⟨_, _, _, hn, hy, rfl⟩
    · cases hs
  · cases hs

theorem dropE_sound [LG] {θ : Th} {h : Hp} {w : World} (hr : HR θ h w) {l : Nat} {x : Nat × Nat × Nat} {e : Ent} (he : tget h.m l = some e) (hu : e.unk ≠ roU) (hx : θ l = some x) (o : Obj) :
    HR θ (dropE h l) (w.putObj x.1 o) ∧ ∀ nm, Ext nm θ h w θ (dropE h l) (w.putObj x.1 o) := by
  have down : ∀ n en, tget (dropE h l).m n = some en → tget h.m n = some en ∧ l ≠ n := by
    intro n en hn
    simp only [dropE, tget_tset] at hn
    by_cases q : l = n
    · rw [if_pos q] at hn; cases hn
    · rw [if_neg q] at hn; exact ⟨hn, q⟩
  have hr1 : HR θ (dropE h l) w := ⟨fun n en y hn hy => hr.ent n en y (down n en hn).1 hy, fun n m e1 e2 y z h1 h2 hne t1 t2 => hr.sep n m e1 e2 y z (down _ _ h1).1 (down _ _ h2).1 hne t1 t2, hr.fresh⟩
  refine ⟨hr1.put_free o fun n en y hn hy => hr.sep n l en e y x (down n en hn).1 he (Ne.symm (down n en hn).2) hy hx, fun nm => ⟨fun _ _ q => q, fun _ _ _ => rfl, Nat.le_refl _, by rw [World.putObj_size]; exact Nat.le_refl _, rfl, rfl, rfl, fun b hb hno => World.putObj_heap_other fun q => hno l e x he hu hx q.symm, fun n en y hn hq hy => .inr ⟨_, _, _, (down n en hn).1, hq, hy, rfl⟩, fun n en y hn hy => .inr ⟨_, _, _, (down n en hn).1, hy, rfl⟩⟩⟩

/-- Which round. -/
def RoR (θ : Th) : Option Nat → Option Nat → Prop
  | none, none => True
  | some n, some b => ∃ x, θ n = some x ∧ x.1 = b
  | _, _ => False

theorem RoR.mono {θ θ' : Th} (h : ∀ n x, θ n = some x → θ' n = some x) : ∀ {q r : Option Nat}, RoR θ q r → RoR θ' q r
  | none, none, _ => trivial
  | some _, some _, ⟨x, h1, h2⟩ => ⟨x, h _ _ h1, h2⟩

/-- From these slots and that memory the code comes to those, so ended. -/
def Lead [LG] (E : Env) (q : Option Nat) (c : Code) (N : Nat) (T : Tm) (h : Hp) (x : Exit) (T' : Tm) (h' : Hp) : Prop :=
  ∀ ro B θ a w Q, RoR θ q ro → B ≤ w.heap.size → Marks B θ h w a.defers → TR θ T a → N ≤ a.tmps.size → HR θ h w →
    (∀ θ' a' w', Ext h.nxt θ h w θ' h' w' → HR θ' h' w' → TR θ' T' a' → a'.tmps.size = a.tmps.size → Marks B θ' h' w' a'.defers → Q x a' w') → LW ro E.P c Q a w

/-- What running a body is to do. -/
def RunOk [LG] (E : Env) (run : Code → At → Tm → Hp → Option (Exit × Tm × Hp)) : Prop :=
  ∀ c f N T h x T' h', run c f T h = some (x, T', h') → codeOk E f.fn N c = true → Lead E f.ro c N T h x T' h'

/-- Which loops may be there. -/
def LGOk [LG] (E : Env) : Prop := ∀ L, LG.good L ↔ (codeOk E L.fn L.N L.asg = true ∧ codeOk E L.fn L.N L.body = true ∧ L.ps.all (fun t => Nat.blt t L.N) = true)

/-- Marks among the deferred calls: a function's end. -/
theorem marks_leave [LG] {P : Program} {fn : Func} {tmps : Array Value} {R : Ending → World → Prop} {nm : Nat} {θ0 θ : Th} {h0 h : Hp} {w0 : World} : ∀ (ds : List Deferred) (w : World), Marks w0.heap.size θ h w ds → HR θ h w → Ext nm θ0 h0 w0 θ h w →
    (∀ w', HR θ h w' → Ext nm θ0 h0 w0 θ h w' → ∃ v, (results fn tmps).run P w' = .ok v w' ∧ R (.returned v) w') → LeavesInM (FW none) 0 P fn tmps R ds .returning w
  | [], w, _, hr, e, hf => hf w hr e
  | d :: ds, w, ⟨⟨D, h1, ⟨h2, h3, h4⟩, h5⟩, h6⟩, hr, e, hf => by
    refine ⟨by simp, .inl ⟨D, _, by rw [h1], run_takeDeferred h3, ?_⟩⟩
    refine marks_leave ds _ ?_ (hr.put_free _ h4) (e.put_free _ h2) hf
    have go : ∀ l : List Deferred, (∀ d' ∈ l, d'.target ≠ .collected D) → Marks w0.heap.size θ h w l → Marks w0.heap.size θ h (w.putObj D (.deferred none)) l := by
      intro l
      induction l with
      | nil => exact fun _ _ => trivial
      | cons d' l ih =>
        rintro hne ⟨⟨D', k1, ⟨k2, k3, k4⟩, k5⟩, k6⟩
        have hDD : D' ≠ D := fun q => hne d' (by simp) (by rw [k1, q])
        exact ⟨⟨D', k1, ⟨k2, (World.putObj_heap_other hDD).trans k3, k4⟩, k5⟩, ih (fun z hz => hne z (by simp [hz])) k6⟩
    exact go ds h5 h6

theorem putAll_get : ∀ (l : List (Nat × Value)) (T : Tm) (t : Nat) (v : Value), tget (putAll T l) t = some v → (t, v) ∈ l ∨ tget T t = some v
  | [], T, t, v, h => .inr h
  | p :: l, T, t, v, h => by
    rcases putAll_get l _ t v h with q | q
    · exact .inl (by simp [q])
    · rw [tget_tset] at q
      split at q
      · rename_i e; cases q; subst e; exact .inl (by simp)
      · exact .inr q

theorem snap_mem {T : Tm} : ∀ {n t : Nat} {v : Value}, (t, v) ∈ snap T n → tget T t = some v
  | 0, t, v, h => by cases h
  | n + 1, t, v, h => by
    simp only [snap] at h
    split at h
    · rename_i u hu
      rcases List.mem_cons.1 h with e | h
      · cases e; exact hu
      · exact snap_mem h
    · exact snap_mem h

/-- The parameters of a round. -/
theorem putPs_R {θ : Th} : ∀ (ps : List Nat) (vs us : List Value) (T : Tm) (tm : Array Value), all2 (W θ) vs us → ps.length = vs.length → (∀ t ∈ ps, t < tm.size) → (∀ t v, tget T t = some v → ∃ u, tm[t]? = some u ∧ W θ v u) →
    ∀ t v, tget (putPs T ps vs) t = some v → ∃ u, ((ps.zip us).foldl (fun tm (p : Nat × Value) => tm.setIfInBounds p.1 p.2) tm)[t]? = some u ∧ W θ v u
  | [], vs, us, T, tm, ha, hl, hlt, hT => by
    cases vs with
    | nil => intro t v h; exact hT t v h
    | cons a b => cases hl
  | p :: ps, v0 :: vs, u0 :: us, T, tm, ha, hl, hlt, hT => by
    intro t v h
    refine putPs_R ps vs us (tset T p (some v0)) (tm.setIfInBounds p u0) ha.2 (by simpa using hl) (fun t ht => by simpa using hlt t (by simp [ht])) ?_ t v h
    intro t v h
    rw [tget_tset] at h
    rw [Array.getElem?_setIfInBounds]
    split at h
    · rename_i e
      subst e
      cases h
      have := hlt p (by simp)
      exact ⟨u0, by simp [this], ha.1⟩
    · rename_i e
      obtain ⟨u, k1, k2⟩ := hT t v h
      exact ⟨u, by simp [e, k1], k2⟩
  | p :: ps, [], us, T, tm, ha, hl, hlt, hT => by cases hl
  | p :: ps, v0 :: vs, [], T, tm, ha, hl, hlt, hT => ha.elim

theorem fold_size : ∀ (l : List (Nat × Value)) (tm : Array Value), (l.foldl (fun tm (p : Nat × Value) => tm.setIfInBounds p.1 p.2) tm).size = tm.size
  | [], tm => rfl
  | p :: l, tm => by rw [List.foldl_cons, fold_size l]; simp

/-- How a round ends. -/
def endSt : Exit → Option (Nat × Option Code)
  | .normal => some (0, none)
  | .ret => some (2, some .ret)
  | .exit i => some (2, some (.exit i))
  | _ => none

/-- A round. -/
theorem round_sound [LG] {E : Env} (hG : LGOk E) {l : Nat} {args cargs : List Value} {h h1 h2 h3 h' : Hp} {L L1 : Lp} {T1 T3 : Tm} {c : Exit} {st : Nat} {pend : Option Code} (hL : getLp h l = some L) (hst0 : L.st = 0) (hlen : L.ps.length = args.length)
    (lead1 : codeOk E L.fn L.N L.asg = true → Lead E (some l) L.asg L.N (putPs (putAll .nil L.ts) L.ps args) h .normal T1 h1) (hL1 : getLp h1 l = some L1) (hst1 : L1.st = 0) (hs2 : setLp h1 l 1 L1.pend = some h2) (lead2 : codeOk E L.fn L.N L.body = true → Lead E (some l) L.body L.N T1 h2 c T3 h3) (hc : endSt c = some (st, pend)) (hs4 : setLp h3 l st pend = some h')
    {θ : Th} {w : World} (hr : HR θ h w) (ha : all2 (W θ) args cargs) {x : Nat × Nat × Nat} (hxl : θ l = some x) :
    YieldAt Fence.wide 0 E.P x.1 cargs.toArray w (fun e w' => ∃ θ' u, e = .returned u ∧ Ext h.nxt θ h w θ' h' w' ∧ HR θ' h' w' ∧ W θ' (.bool pend.isNone) u) := by
  obtain ⟨g, rr, hb, hLr⟩ := getLp_R hr hL hxl
  obtain ⟨g1, g2, g3⟩ := (hG L).1 g
  have hcl := all2_len ha
  have hps : cargs.toArray.size = rr.params.size := by
    have : rr.params.size = L.ps.length := by rw [← hLr.ps]; simp
    simp; omega
  refine ⟨_, _, _, _, run_yield hb hps, roundIn_of_wpIn (F := Fence.wide) trivial ?_⟩
  rw [hLr.asg, hLr.body]
  have hsz : ∀ t ∈ L.ps, t < rr.tmps.size := fun t ht => by
    rw [List.all_eq_true] at g3
    exact Nat.lt_of_lt_of_le (blt_lt (g3 t ht)) hLr.size
  have hz : (rr.params.zip cargs.toArray).foldl (fun tmps (x : Tmp × Value) => match x with | (t, a) => tmps.setIfInBounds t a) rr.tmps = (L.ps.zip cargs).foldl (fun tm (p : Nat × Value) => tm.setIfInBounds p.1 p.2) rr.tmps := by
    rw [← hLr.ps, ← Array.foldl_toList, Array.toList_zip]
  have hN : L.N ≤ ((L.ps.zip cargs).foldl (fun tm (p : Nat × Value) => tm.setIfInBounds p.1 p.2) rr.tmps).size := by rw [fold_size]; exact hLr.size
  have htr : TR θ (putPs (putAll .nil L.ts) L.ps args) { tmps := (rr.params.zip cargs.toArray).foldl (fun tmps (x : Tmp × Value) => match x with | (t, a) => tmps.setIfInBounds t a) rr.tmps, defers := [] } := by
    rw [hz]
    refine ⟨putPs_R L.ps args cargs _ _ ha hlen hsz fun t v ht => ?_⟩
    rcases putAll_get _ _ t v ht with q | q
    · exact hLr.ts t v q
    · cases q
  refine (lead1 g1 (some x.1) 0 θ ⟨_, []⟩ w _ ⟨x, hxl, rfl⟩ (Nat.zero_le _) trivial htr (by rw [hz]; exact hN) hr fun θ1 a1 w1 e1 r1 t1 s1 m1 => ?_).wp
  have hx1 := e1.keep _ _ hxl
  obtain ⟨_, rr1, hb1, hLr1⟩ := getLp_R r1 hL1 hx1
  obtain ⟨rr1', hb1', hr2, he2⟩ := setLp_sound r1 hs2 hx1
  have e11 : rr1' = rr1 := by rw [hb1] at hb1'; cases hb1'; rfl
  subst e11
  have hst : rr1'.state = .ready := by rw [hLr1.st, hst1]; rfl
  have hw2 : (Instr.beginRound x.1).run E.P w1 = .ok () (w1.putObj x.1 (.loop { rr1' with state := stOf 1, pending := L1.pend })) := by
    rw [run_beginRound hb1 hst, ← hLr1.pend]
    rfl
  refine ⟨_, hw2, ?_⟩
  have e12 := e1.trans (he2 h.nxt) (fun n hn h3 e => h3 e)
  refine (lead2 g2 (some x.1) 0 θ1 a1 _ _ ⟨x, hx1, rfl⟩ (Nat.zero_le _) (m1.ext (he2 h.nxt)) t1 (by rw [s1, hz]; exact hN) hr2 fun θ3 a3 w3 e3 r3 t3 s3 m3 => ?_).wp
  obtain ⟨rr3, hb3', hr4, he4⟩ := setLp_sound r3 hs4 (e3.keep _ _ hx1)
  have fin : stOf st = (if pend.isNone then .ready else .done) → ∃ v w', (Instr.endRound x.1 pend).run E.P w3 = .ok v w' ∧ ∃ θ' u, Ending.returned v = .returned u ∧ Ext h.nxt θ h w θ' h' w' ∧ HR θ' h' w' ∧ W θ' (.bool pend.isNone) u := by
    intro hst4
    refine ⟨_, _, run_endRound pend hb3', θ3, _, rfl, ?_, ?_, rfl⟩
    · rw [← hst4]
      exact (e12.trans e3 (fun n hn _ q => by have := e12.nxt; omega)).trans (he4 h.nxt) (fun n hn h4 q => h4 q)
    · rw [← hst4]; exact hr4
  cases c <;> simp only [endSt, reduceCtorEq, Option.some.injEq, Prod.mk.injEq] at hc
  all_goals
    obtain ⟨rfl, rfl⟩ := hc
    exact fin rfl

theorem yield_sound [LG] {E : Env} (hG : LGOk E) {run : Code → At → Tm → Hp → Option (Exit × Tm × Hp)} (hrun : RunOk E run) {l : Nat} {args cargs : List Value} {h h' : Hp} {r : Value} (hx : yieldA run l args h = some (r, h')) {θ : Th} {w : World} (hr : HR θ h w) (ha : all2 (W θ) args cargs) {x : Nat × Nat × Nat} (hxl : θ l = some x) :
    YieldAt Fence.wide 0 E.P x.1 cargs.toArray w (fun e w' => ∃ θ' u, e = .returned u ∧ Ext h.nxt θ h w θ' h' w' ∧ HR θ' h' w' ∧ W θ' r u) := by
  unfold yieldA at hx
  obtain ⟨L, hL, hx⟩ := ob_some hx
  cases hq : (Nat.beq L.st 0 && Nat.beq L.ps.length args.length) <;> simp only [hq, cond_true, cond_false, reduceCtorEq] at hx
  simp only [Bool.and_eq_true] at hq
  split at hx
  · rename_i T1 h1 hasg
    obtain ⟨L1, hL1, hx⟩ := ob_some hx
    cases hq1 : Nat.beq L1.st 0 <;> simp only [hq1, cond_true, cond_false, reduceCtorEq] at hx
    obtain ⟨h2, hs2, hx⟩ := ob_some hx
    split at hx
    · rename_i T3 h3 hb3
      obtain ⟨h4, hs4, hx⟩ := ob_some hx
      cases hx
      exact round_sound hG hL (Nat.eq_of_beq_eq_true hq.1) (Nat.eq_of_beq_eq_true hq.2) (fun k => hrun _ _ _ _ _ _ _ _ hasg k) hL1 (Nat.eq_of_beq_eq_true hq1) hs2 (fun k => hrun _ _ _ _ _ _ _ _ hb3 k) rfl hs4 hr ha hxl
    · rename_i T3 h3 hb3
      obtain ⟨h4, hs4, hx⟩ := ob_some hx
      cases hx
      exact round_sound hG hL (Nat.eq_of_beq_eq_true hq.1) (Nat.eq_of_beq_eq_true hq.2) (fun k => hrun _ _ _ _ _ _ _ _ hasg k) hL1 (Nat.eq_of_beq_eq_true hq1) hs2 (fun k => hrun _ _ _ _ _ _ _ _ hb3 k) rfl hs4 hr ha hxl
    · rename_i i T3 h3 hb3
      obtain ⟨h4, hs4, hx⟩ := ob_some hx
      cases hx
      exact round_sound hG hL (Nat.eq_of_beq_eq_true hq.1) (Nat.eq_of_beq_eq_true hq.2) (fun k => hrun _ _ _ _ _ _ _ _ hasg k) hL1 (Nat.eq_of_beq_eq_true hq1) hs2 (fun k => hrun _ _ _ _ _ _ _ _ hb3 k) rfl hs4 hr ha hxl
    · cases hx
  · cases hx

/-- A function's call out of its body's walk. -/
theorem body_sound [LG] {E : Env} (hE : EnvOk E) {g : Nat} {fn : Func} (hfn : tget E.ff g = some fn) {cargs args : List Value} {θ : Th} {h h' : Hp} {w : World} {r : Value} {T1 : Tm} {x : Exit} (hx : x = .normal ∨ x = .ret) {vs : List Value} (k1 : resA (opv T1) h' E fn.results.toList = some vs) (k3 : oneOf vs = some r) {c : Code} (f3 : fn.body = some c)
    (hw : ∀ Q : Exit → Act → World → Prop, (∀ θ' a' w', Ext h.nxt θ h w θ' h' w' → HR θ' h' w' → TR θ' T1 a' → Marks w.heap.size θ' h' w' a'.defers → Q x a' w') → c.wpIn (FW none) 0 E.P Q { tmps := cargs.toArray ++ Array.replicate (fn.ntmps - cargs.toArray.size) undef, defers := [] } w) :
    (callFunc g cargs.toArray).run E.P w = .ok (.enter g cargs.toArray) w ∧ Calls E.P g cargs.toArray w (fun e w' => ∃ θ' u, e = .returned u ∧ Ext h.nxt θ h w θ' h' w' ∧ HR θ' h' w' ∧ W θ' r u) := by
  obtain ⟨f1, f2, c', f3', f4⟩ := hE.ff g fn hfn
  have f2' : ¬ fn.name = "runtime.NumGoroutine" := fun e => by rw [e] at f2; simp at f2
  refine ⟨by simp [callFunc, f1, f2', f3], ?_⟩
  refine (callsIn_wide (n := 0)).1 (callsIn_of_wp_marks (F := FW none) f1 f3 trivial ?_)
  refine hw _ fun θ' a' w' e1 r1 t1 m1 => ?_
  have fin : LeavesInM (FW none) 0 E.P fn a'.tmps (fun e w' => ∃ θ' u, e = .returned u ∧ Ext h.nxt θ h w θ' h' w' ∧ HR θ' h' w' ∧ W θ' r u) a'.defers .returning w' := by
    refine marks_leave a'.defers w' m1 r1 e1 fun w2 r2 e2 => ?_
    obtain ⟨u, q1, q2⟩ := results_sound hE.tt r2 t1 k1 k3
    exact ⟨u, q1, θ', u, rfl, e2, r2, q2⟩
  rcases hx with rfl | rfl <;> exact fin

theorem call_sound [LG] {E : Env} (hE : EnvOk E) (hG : LGOk E) {run : Code → At → Tm → Hp → Option (Exit × Tm × Hp)} (hrun : RunOk E run) (h : Hp) : CallAt E.P (callA E run) h.nxt h := by
  intro g args r h' hx θ w cargs hr hargs
  unfold callA at hx
  cases hlt : Nat.blt g unkU <;> simp only [hlt, cond_true, cond_false] at hx
  · have hge := blt_ge hlt
    exact ⟨fun q => by omega, fun _ x hx0 => yield_sound hG hrun hx hr hargs hx0⟩
  refine ⟨fun _ => ?_, fun q => by have := blt_lt hlt; omega⟩
  split at hx
  · unfold xext at hx
    split at hx
    · refine .inr ?_
      rename_i a b hg
      cases hx
      obtain ⟨y, xv, hm, hw1, hw2⟩ := all2_two hargs
      subst hm
      have e1 : y = .string a := hw1
      have e2 : xv = .string b := hw2
      subst e1; subst e2
      exact ⟨_, hE.xx g hg a b w, rfl, rfl⟩
    · refine .inl ?_
      rename_i hg
      cases hx
      have hc : cargs = [] := by cases cargs with
        | nil => rfl
        | cons a b => exact hargs.elim
      subst hc
      obtain ⟨h1, h2⟩ := hE.x2 g hg w
      refine ⟨h1, h2.mono fun e w' ⟨he, hb⟩ => ⟨θ, .bool true, he, Ext.below hb, hr.below hb, rfl⟩⟩
    · refine .inr ?_
      rename_i s c hg
      cases hx
      obtain ⟨y, xv, hm, hw1, hw2⟩ := all2_two hargs
      subst hm
      have e1 : y = .string s := hw1
      have e2 : xv = .int .u8 c := hw2
      subst e1; subst e2
      exact ⟨_, hE.x3 g hg s c w, rfl, rfl⟩
    · refine .inl ?_
      rename_i s cs hg
      unfold splX at hx
      split at hx
      · rename_i a n p hcs
        cases hb : splB s a n p <;> simp only [hb, cond_true, cond_false] at hx
        · cases hx
        cases hx
        obtain ⟨y, xv, hm, hw1, hw2⟩ := all2_two hargs
        subst hm
        have e1 : y = .string s := hw1
        have hcs' : cs = #[.int .i64 a, .int .i64 n, .string p] := by
          apply Array.toList_inj.1
          rw [hcs]
        subst hcs'
        have e2 : xv = .agg #[.int .i64 a, .int .i64 n, .string p] := plainA_eq rfl hw2
        subst e1; subst e2
        obtain ⟨h1, h2⟩ := hE.x4 g hg s a n p w hb
        refine ⟨h1, h2.mono fun e w' ⟨he, hbl⟩ => ⟨θ, .string _, he, Ext.below hbl, hr.below hbl, rfl⟩⟩
      · cases hx
    · refine .inl ?_
      rename_i b t hg
      obtain ⟨hh, k1, k2⟩ := ob_some hx
      cases k2
      obtain ⟨y, xv, hm, hw1, hw2⟩ := all2_two hargs
      subst hm
      obtain ⟨_, x, hx0, e1⟩ : (⟨b, 0, none⟩ : Addr).spot = none ∧ ∃ x, θ b = some x ∧ y = .pointer (some ⟨x.1, x.2.1 + 0, none⟩) := hw1
      have e2 : xv = .string t := hw2
      obtain ⟨g0, g1, T, e, v, s, g2, g3, g4⟩ := write_sound hr k1 hx0
      rw [g0] at e1
      subst e1; subst e2
      obtain ⟨h1, h2⟩ := hE.x5 g hg T e g2 x.1 v s t w g3 g1
      refine ⟨h1, h2.mono fun e w' ⟨he, v', hb⟩ => ?_⟩
      obtain ⟨θ', q1, q2⟩ := g4 v' w' hb
      exact ⟨θ', _, he, q1, q2, ⟨_, rfl, rfl, rfl, trivial⟩⟩
    · refine .inl ?_
      rename_i b hg
      obtain ⟨r0, k1, k2⟩ := ob_some hx
      obtain ⟨rs, hh⟩ := r0
      cases k2
      have hc : ∃ y, cargs = [y] ∧ W θ (.pointer (some ⟨b, 0, none⟩)) y := by
        match cargs, hargs with
        | [y], q => exact ⟨y, rfl, q.1⟩
        | _ :: _ :: _, q => exact q.2.elim
      obtain ⟨y, hm, hw1⟩ := hc
      subst hm
      obtain ⟨_, x, hx0, e1⟩ : (⟨b, 0, none⟩ : Addr).spot = none ∧ ∃ x, θ b = some x ∧ y = .pointer (some ⟨x.1, x.2.1 + 0, none⟩) := hw1
      obtain ⟨g0, T, e, v, g2, g3, g4⟩ := str_sound hr k1 hx0
      rw [g0] at e1
      subst e1
      obtain ⟨h1, h2⟩ := hE.x6 g hg T e g2 x.1 v rs w g3
      refine ⟨h1, h2.mono fun e w' ⟨he, hb⟩ => ?_⟩
      obtain ⟨q1, q2⟩ := g4 w' hb
      exact ⟨θ, _, he, q1, q2, rfl⟩
    · refine .inl ?_
      rename_i s hg
      cases hq : Nat.ble s.size 1000000 <;> simp only [hq, cond_true, cond_false, reduceCtorEq] at hx
      cases hx
      have hc : ∃ y, cargs = [y] ∧ W θ (.string s) y := by
        match cargs, hargs with
        | [y], q => exact ⟨y, rfl, q.1⟩
        | _ :: _ :: _, q => exact q.2.elim
      obtain ⟨y, hm, hw1⟩ := hc
      subst hm
      have e1 : y = .string s := hw1
      subst e1
      obtain ⟨h1, h2⟩ := hE.x7 g hg s w (Nat.le_of_ble_eq_true hq)
      refine ⟨h1, h2.mono fun e w' ⟨he, hbl⟩ => ⟨θ, .string _, he, Ext.below hbl, hr.below hbl, rfl⟩⟩
    · cases hx
  · rename_i fn hfn
    refine .inl ?_
    obtain ⟨f1, f2, c, f3, f4⟩ := hE.ff g fn hfn
    rw [f3] at hx
    simp only at hx
    have hsz : fn.ntmps ≤ (cargs.toArray ++ Array.replicate (fn.ntmps - cargs.toArray.size) undef).size := by simp; omega
    split at hx
    · rename_i T1 h1 hev
      obtain ⟨vs, k1, k2⟩ := ob_some hx
      obtain ⟨r', k3, k4⟩ := ob_some k2
      cases k4
      exact body_sound (args := args) hE hfn (.inl rfl) k1 k3 f3 fun Q hQ => (hrun c ⟨g, none⟩ fn.ntmps _ h _ _ _ hev f4 none w.heap.size θ ⟨_, []⟩ w _ trivial (Nat.le_refl _) trivial (args_TR hargs _) hsz hr fun θ' a' w' e1 r1 t1 _ m1 => hQ θ' a' w' e1 r1 t1 m1).wp
    · rename_i T1 h1 hev
      obtain ⟨vs, k1, k2⟩ := ob_some hx
      obtain ⟨r', k3, k4⟩ := ob_some k2
      cases k4
      exact body_sound (args := args) hE hfn (.inr rfl) k1 k3 f3 fun Q hQ => (hrun c ⟨g, none⟩ fn.ntmps _ h _ _ _ hev f4 none w.heap.size θ ⟨_, []⟩ w _ trivial (Nat.le_refl _) trivial (args_TR hargs _) hsz hr fun θ' a' w' e1 r1 t1 _ m1 => hQ θ' a' w' e1 r1 t1 m1).wp
    · cases hx

/-- Entering a loop within a round. -/
theorem run_enterLoop_inner {P : Program} {w : World} {b0 : Nat} {r0 : Loop} (hb : w.heap[b0]? = some (.loop r0)) (fn : FuncId) (tmps : Array Value) (ps : Array Tmp) (assign body : Code) :
    (Instr.enterLoop fn tmps ps assign body (some b0)).run P w = .ok (w.heap.size, []) (w.alloc (.loop { state := .ready, pending := none, fn, tmps, params := ps, assign, body, defers := r0.defers })) := by
  unfold Instr.enterLoop
  simp only [Sem.run_bind, run_getLoop hb, run_newObj_alloc, Result.andThen, Sem.run_pure]

/-- A range over a function. -/
theorem range_sound [LG] {E : Env} (hE : EnvOk E) (hG : LGOk E) {call : Nat → List Value → Hp → Option (Value × Hp)} (hcall : ∀ h, CallAt E.P call h.nxt h) {g : Operand} {ps : Array Tmp} {asg body : Code} {f : At} {N : Nat} {T : Tm} {h h' : Hp} {x : Exit} (hc : codeOk E f.fn N (.rangeFunc g ps asg body) = true) (hro : roOk h f.ro = true)
    {it : Nat} {first cap : Array Value} {fn : Func} (hv : opv T g = some (.func (.func it) first cap)) (hfn : tget E.ff f.fn = some fn) (hit : it < unkU) (hits : (tget E.ff it).isSome = true) {v : Value} {h1 : Hp}
    (hx : call it (first.toList ++ [.func (.yield h.nxt) #[] #[]] ++ cap.toList) (newLp h ⟨f.fn, fn.ntmps, ps.toList, asg, body, snap T fn.ntmps, 0, none⟩) = some (v, h1)) {α : Type} {TT TT' : α} (hend : endA h1 h.nxt TT = some (x, TT', h'))
    {ro : Option Nat} {B : Nat} {θ : Th} {a : Act} {w : World} {Q : Exit → Act → World → Prop} (hR : RoR θ f.ro ro) (hB : B ≤ w.heap.size) (hm : Marks B θ h w a.defers) (ht : TR θ T a) (hN : N ≤ a.tmps.size) (hr : HR θ h w)
    (hQ : ∀ θ' a' w', Ext h.nxt θ h w θ' h' w' → HR θ' h' w' → TR θ' T a' → a'.tmps.size = a.tmps.size → Marks B θ' h' w' a'.defers → Q x a' w') : TT' = TT ∧ (Code.rangeFunc g ps asg body).wpIn (FW ro) 0 E.P Q a w := by
  simp only [codeOk, Bool.and_eq_true, hfn] at hc
  obtain ⟨⟨⟨c1, c2⟩, c3⟩, c4⟩ := hc
  have hNN : fn.ntmps = N := Nat.eq_of_beq_eq_true c1
  have hTT : TT' = TT := by
    unfold endA at hend
    obtain ⟨Le, _, q⟩ := ob_some hend
    cases hb : Nat.beq Le.st 1 <;> simp only [hb, cond_true, cond_false, reduceCtorEq] at q
    split at q <;> cases q <;> rfl
  refine ⟨hTT, wpIn_rangeFunc fun fnb _ => ?_⟩
  obtain ⟨fa, fb, e3, q1, q2⟩ : ∃ a' b' : List Value, a.eval g = .func (.func it) a'.toArray b'.toArray ∧ all2 (V0 θ) first.toList a' ∧ all2 (V0 θ) cap.toList b' := opv_W ht hv
  have hgood : LG.good (⟨f.fn, fn.ntmps, ps.toList, asg, body, snap T fn.ntmps, 0, none⟩ : Lp) := (hG _).2 ⟨by rw [hNN]; exact c3, by rw [hNN]; exact c4, by rw [hNN]; exact c2⟩
  have hV : ∀ {θ1 : Th} {l m : List Value}, (∀ n x, θ n = some x → θ1 n = some x) → all2 (V0 θ) l m → all2 (W θ1) l m := fun hk q => all2_mono (fun _ _ z => W_mono hk (W_of_V (V_of_V0 z))) q
  obtain ⟨fni, hfni⟩ := Option.isSome_iff_exists.1 hits
  -- from the record on
  have main : ∀ (wD : World) (mark : List Deferred) (dfr : Nat), HR θ h wD → Ext h.nxt θ h w θ h wD → Marks B θ h wD (mark ++ a.defers) →
      (Instr.enterLoop fnb a.tmps ps asg body (FW ro).round).run E.P w = .ok (wD.heap.size, mark) (wD.alloc (.loop { state := .ready, pending := none, fn := fnb, tmps := a.tmps, params := ps, assign := asg, body := body, defers := dfr })) →
      ∃ (l : Nat) (mark : List Deferred) (w₁ : World) (d : Deferred) (w₁' : World) (f : FuncId) (args : Array Value) (w₂ : World),
        (Instr.enterLoop fnb a.tmps ps asg body (FW ro).round).run E.P w = .ok (l, mark) w₁ ∧ (resolve a.eval (rangeCall g l) 0).run E.P w₁ = .ok d w₁' ∧ (∀ f', Target.leads E.P w₁' d.target d.args = some f' → (FW ro).fn f') ∧
        (invoke d.target d.args).run E.P w₁' = .ok (.enter f args) w₂ ∧ ((FW ro).depth.isSome = true → 1 ≤ 0) ∧ CallsIn (FW ro) (0 - 1) E.P f args w₂ (rangePost (FW ro) 0 E.P l Q { a with defers := mark ++ a.defers }) := by
    intro wD mark dfr hrD heD hmD hen
    have hLr : LpR θ (⟨f.fn, fn.ntmps, ps.toList, asg, body, snap T fn.ntmps, 0, none⟩ : Lp) { state := .ready, pending := none, fn := fnb, tmps := a.tmps, params := ps, assign := asg, body := body, defers := dfr } :=
      ⟨rfl, rfl, rfl, rfl, rfl, by show fn.ntmps ≤ _; rw [hNN]; exact hN, fun t u hm => ht.tmps t u (snap_mem hm)⟩
    obtain ⟨hr1, he1⟩ := newLp_sound hrD hgood hLr
    generalize hθ1 : (fun n => if n = h.nxt then some (wD.heap.size, 0, 0) else θ n) = θ1 at hr1 he1
    have hx1 : θ1 h.nxt = some (wD.heap.size, 0, 0) := by rw [← hθ1]; simp
    have hargs : all2 (W θ1) (first.toList ++ [.func (.yield h.nxt) #[] #[]] ++ cap.toList) (fa ++ [Value.func (.yield wD.heap.size) #[] #[]] ++ fb) :=
      all2_append (all2_append (hV he1.keep q1) ⟨⟨_, hx1, rfl⟩, trivial⟩) (hV he1.keep q2)
    generalize hw1 : wD.alloc (.loop { state := .ready, pending := none, fn := fnb, tmps := a.tmps, params := ps, assign := asg, body := body, defers := dfr }) = w1 at hr1 he1 hen
    obtain ⟨f1, f2, cc, f3, _⟩ := hE.ff it fni hfni
    have f2' : ¬ fni.name = "runtime.NumGoroutine" := fun e => by rw [e] at f2; simp at f2
    have henter : (callFunc it (fa ++ [Value.func (.yield wD.heap.size) #[] #[]] ++ fb).toArray).run E.P w1 = .ok (.enter it (fa ++ [Value.func (.yield wD.heap.size) #[] #[]] ++ fb).toArray) w1 := by simp [callFunc, f1, f2', f3]
    have hCalls := ((hcall _ it _ v h1 hx θ1 w1 _ hr1 hargs).1 hit).resolve_right fun ⟨u, k1, _, _⟩ => by rw [henter] at k1; cases k1
    refine ⟨wD.heap.size, mark, w1, { target := .fn (.func it) fb.toArray, args := fa.toArray ++ #[Value.func (.yield wD.heap.size) #[] #[]] }, w1, it, (fa ++ [Value.func (.yield wD.heap.size) #[] #[]] ++ fb).toArray, w1, hen, ?_, fun _ _ => trivial, ?_, depth_FW, ?_⟩
    · have hcon : a.eval (.const (Value.func (.yield wD.heap.size) #[] #[])) = Value.func (.yield wD.heap.size) #[] #[] := rfl
      simp [resolve, rangeCall, e3, Deferred.ofValue, hcon]
    · have : (invoke (.fn (.func it) fb.toArray) (fa.toArray ++ #[Value.func (.yield wD.heap.size) #[] #[]])).run E.P w1 = (callFunc it (fa ++ [Value.func (.yield wD.heap.size) #[] #[]] ++ fb).toArray).run E.P w1 := by
        simp [invoke]
      rw [this]; exact henter
    · refine (callsIn_FW hCalls.2).mono fun e w3 he => ?_
      obtain ⟨θ3, u, rfl, e2, r3, _⟩ := he
      have hx3 := e2.keep _ _ hx1
      unfold endA at hend
      obtain ⟨Le, hLe, q⟩ := ob_some hend
      cases hb : Nat.beq Le.st 1 <;> simp only [hb, cond_true, cond_false, reduceCtorEq] at q
      obtain ⟨_, re, hbe, hLre⟩ := getLp_R r3 hLe hx3
      obtain ⟨ee, hee, hoe, hue⟩ := getLp_spec hLe
      have hnb : re.state ≠ .busy := by
        rw [hLre.st]
        intro z
        match hs : Le.st with
        | 0 => rw [hs] at z; cases z
        | 1 => rw [hs] at hb; cases hb
        | n + 2 => rw [hs] at z; cases z
      have eall : Ext h.nxt θ h w θ3 h1 w3 := (heD.trans he1 (fun n _ z => z)).trans e2 (fun n hn _ z => by have : h.nxt ≤ (newLp h ⟨f.fn, fn.ntmps, ps.toList, asg, body, snap T fn.ntmps, 0, none⟩).nxt := he1.nxt; omega)
      have eD : Ext h.nxt θ h wD θ3 h1 w3 := he1.trans e2 (fun n hn _ z => by have : h.nxt ≤ (newLp h ⟨f.fn, fn.ntmps, ps.toList, asg, body, snap T fn.ntmps, 0, none⟩).nxt := he1.nxt; omega)
      obtain ⟨r4, e4⟩ := dropE_sound r3 hee hue hx3 (.loop { re with state := .exhausted })
      refine ⟨Le.pend, _, (run_endLoop hbe hnb).trans (congrArg (fun j => Result.ok j _) hLre.pend), ?_⟩
      have hfin : h' = dropE h1 h.nxt → Q x { a with defers := mark ++ a.defers } (w3.putObj wD.heap.size (.loop { re with state := .exhausted })) := by
        intro hh
        subst hh
        exact hQ θ3 _ _ (eall.trans (e4 h.nxt) (fun n _ z => z)) r4 (ht.mono eall.keep |> fun z => ⟨z.tmps⟩) rfl (hmD.ext (eD.trans (e4 h.nxt) (fun n _ z => z)))
      split at q
      · rename_i hp
        cases q
        rw [hp]
        exact hfin rfl
      · rename_i hp
        cases q
        rw [hp]
        exact wpIn_ret (hfin rfl)
      · rename_i i hp
        cases q
        rw [hp]
        exact wpIn_exit (hfin rfl)
      · cases q
  cases hfr : f.ro with
  | none =>
    rw [hfr] at hR
    cases ro with
    | some b => exact hR.elim
    | none =>
      refine main (w.alloc (.deferred (some []))) [{ target := .collected w.heap.size, args := #[] }] w.heap.size (hr.alloc_free _) (Ext.alloc_free _ _ _ _ _) ⟨⟨w.heap.size, rfl, ⟨hB, World.alloc_heap_new w _, fun n e y k1 k2 k3 => ?_⟩, fun d' hd' z => ?_⟩, hm.ext (Ext.alloc_free h.nxt _ _ _ _)⟩ ?_
      · have := (hr.ent n e y k1 k2).lt
        omega
      · have := Marks.lt hm d' hd' _ z
        omega
      · have := run_enterLoop_outer (P := E.P) (w := w) fnb a.tmps ps asg body
        rw [World.size_alloc]
        exact this
  | some n0 =>
    rw [hfr] at hR hro
    cases ro with
    | none => exact hR.elim
    | some b0 =>
      obtain ⟨y, hy, hyb⟩ := hR
      subst hyb
      cases hl : getLp h n0 with
      | none => simp only [roOk, hl, Bool.false_eq_true] at hro
      | some L0 =>
        obtain ⟨_, r0, hb0, _⟩ := getLp_R hr hl hy
        exact main w [] r0.defers hr (Ext.refl _ _ _ _) hm (run_enterLoop_inner hb0 fnb a.tmps ps asg body)

theorem ev_sound [LG] {E : Env} (hE : EnvOk E) (hG : LGOk E) : ∀ n, RunOk E (ev E n)
  | 0 => fun c f N T h x T' h' hx => by cases hx
  | n + 1 => fun c f N T h x T' h' hx hc ro B θ a w Q hR hB hm ht hN hr hQ => by
    have ih := ev_sound hE hG n
    have hcall : ∀ h, CallAt E.P (callA E (ev E n)) h.nxt h := fun h => call_sound hE hG ih h
    cases c with
    | skip =>
      cases hx
      exact wpIn_skip (hQ θ a w (Ext.refl _ _ _ _) hr ht rfl hm)
    | exit id =>
      cases hx
      exact wpIn_exit (hQ θ a w (Ext.refl _ _ _ _) hr ht rfl hm)
    | ret =>
      cases hx
      exact wpIn_ret (hQ θ a w (Ext.refl _ _ _ _) hr ht rfl hm)
    | seq c1 c2 =>
      simp only [codeOk, Bool.and_eq_true] at hc
      simp only [ev] at hx
      refine wpIn_seq ?_
      split at hx
      · rename_i T1 h1 h2
        refine (ih c1 f N T h _ _ _ h2 hc.1 ro B θ a w _ hR hB hm ht hN hr fun θ1 a1 w1 e1 r1 t1 s1 m1 => ?_).wp
        refine (ih c2 f N T1 h1 _ _ _ hx hc.2 ro B θ1 a1 w1 _ (hR.mono e1.keep) (Nat.le_trans hB e1.size) m1 t1 (by rw [s1]; exact hN) r1 fun θ2 a2 w2 e2 r2 t2 s2 m2 => ?_).wp
        exact hQ θ2 a2 w2 (e1.trans e2 (fun n hn _ e => by have := e1.nxt; omega)) r2 t2 (by rw [s2, s1]) m2
      · rename_i hne
        refine (ih c1 f N T h _ _ _ hx hc.1 ro B θ a w _ hR hB hm ht hN hr fun θ1 a1 w1 e1 r1 t1 s1 m1 => ?_).wp
        have hx1 : x ≠ .normal := fun e => hne T' h' (by rw [hx, e])
        cases x <;> first | exact absurd rfl hx1 | exact hQ θ1 a1 w1 e1 r1 t1 s1 m1
    | cond c c1 c2 =>
      simp only [codeOk, Bool.and_eq_true] at hc
      simp only [ev] at hx
      split at hx
      · rename_i hv
        exact wpIn_cond_true (opv_W ht hv) (ih c1 f N T h _ _ _ hx hc.1 ro B θ a w _ hR hB hm ht hN hr hQ).wp
      · rename_i hv
        exact wpIn_cond_false (opv_W ht hv) (ih c2 f N T h _ _ _ hx hc.2 ro B θ a w _ hR hB hm ht hN hr hQ).wp
      · cases hx
    | block id c =>
      simp only [codeOk] at hc
      simp only [ev] at hx
      refine wpIn_block ?_
      split at hx
      · rename_i i T1 h1 h2
        refine (ih c f N T h _ _ _ h2 hc ro B θ a w _ hR hB hm ht hN hr fun θ1 a1 w1 e1 r1 t1 s1 m1 => ?_).wp
        simp only [Exit.inBlock]
        cases hb : Nat.beq i id <;> simp only [hb, cond_true, cond_false, Option.some.injEq, Prod.mk.injEq] at hx
        · have hne : i ≠ id := fun e => by rw [e] at hb; simp at hb
          rw [if_neg hne]
          obtain ⟨rfl, rfl, rfl⟩ := hx
          exact hQ θ1 a1 w1 e1 r1 t1 s1 m1
        · rw [if_pos (Nat.eq_of_beq_eq_true hb)]
          obtain ⟨rfl, rfl, rfl⟩ := hx
          exact hQ θ1 a1 w1 e1 r1 t1 s1 m1
      · rename_i hne
        refine (ih c f N T h _ _ _ hx hc ro B θ a w _ hR hB hm ht hN hr fun θ1 a1 w1 e1 r1 t1 s1 m1 => ?_).wp
        cases x <;> first | exact hQ θ1 a1 w1 e1 r1 t1 s1 m1 | exact absurd hx (hne _ T' h')
    | loop c =>
      simp only [codeOk] at hc
      simp only [ev] at hx
      show InLoop ro E.P c Q a w
      refine InLoop.once ?_
      split at hx
      · rename_i T1 h1 h2
        refine (ih c f N T h _ _ _ h2 hc ro B θ a w _ hR hB hm ht hN hr fun θ1 a1 w1 e1 r1 t1 s1 m1 => ?_).wp
        have := ih (.loop c) f N T1 h1 _ _ _ hx (by simpa [codeOk] using hc) ro B θ1 a1 w1 Q (hR.mono e1.keep) (Nat.le_trans hB e1.size) m1 t1 (by rw [s1]; exact hN) r1 fun θ2 a2 w2 e2 r2 t2 s2 m2 => hQ θ2 a2 w2 (e1.trans e2 (fun n hn _ e => by have := e1.nxt; omega)) r2 t2 (by rw [s2, s1]) m2
        exact this
      · rename_i hne
        refine (ih c f N T h _ _ _ hx hc ro B θ a w _ hR hB hm ht hN hr fun θ1 a1 w1 e1 r1 t1 s1 m1 => ?_).wp
        have hx1 : x ≠ .normal := fun e => hne T' h' (by rw [hx, e])
        cases x <;> first | exact absurd rfl hx1 | exact hQ θ1 a1 w1 e1 r1 t1 s1 m1
    | region id ops draw =>
      simp only [codeOk, Bool.and_eq_true] at hc
      simp only [ev] at hx
      cases draw with
      | true =>
        simp only [cond_true] at hx hc
        split at hx
        · cases hx
        · rename_i pf hpf
          split at hx
          · cases hx
          · rename_i st hst
            split at hx
            · rename_i T1 h1 h2
              cases hx
              have hpl := hc.2
              rw [hpf] at hpl
              simp only at hpl
              rw [hst] at hpl
              exact draw_sound hE.tt hE.mixed hcall h2 hpl hc.1 ht hN hr fun θ' a' w' e1 r1 t1 s1 d1 => hQ θ' a' w' e1 r1 t1 s1 (by rw [d1]; exact hm.ext e1)
            · cases hx
      | false =>
        simp only [cond_false] at hx
        split at hx
        · rename_i T1 h1 h2
          cases hx
          exact region_sound hE.tt hcall h2 hc.1 ht hN hr fun θ' a' w' e1 r1 t1 s1 d1 => hQ θ' a' w' e1 r1 t1 s1 (by rw [d1]; exact hm.ext e1)
        · cases hx
    | rangeFunc g ps asg body =>
      simp only [ev] at hx
      cases hro : roOk h f.ro <;> simp only [hro, cond_true, cond_false, reduceCtorEq] at hx
      split at hx
      · rename_i it first cap fn hv hfn
        cases hi : (Nat.blt it unkU && (tget E.ff it).isSome) <;> simp only [hi, cond_true, cond_false, reduceCtorEq] at hx
        simp only [Bool.and_eq_true] at hi
        split at hx
        · rename_i v h1 hcl
          have hT : T' = T := by
            unfold endA at hx
            obtain ⟨Le, _, q⟩ := ob_some hx
            cases hb : Nat.beq Le.st 1 <;> simp only [hb, cond_true, cond_false, reduceCtorEq] at q
            split at q <;> cases q <;> rfl
          subst hT
          exact (range_sound hE hG hcall hc hro hv hfn (blt_lt hi.1) hi.2 hcl hx hR hB hm ht hN hr hQ).2
        · cases hx
      · cases hx
    | _ => cases hx

/-- Loops that are of this environment's functions. -/
abbrev lgOf (E : Env) : LG := ⟨fun fn N ps asg body => codeOk E fn N asg = true ∧ codeOk E fn N body = true ∧ ps.all (fun t => Nat.blt t N) = true⟩

theorem lgOf_ok (E : Env) : @LGOk (lgOf E) E := fun _ => Iff.rfl

/-- A call that is reckoned in named memory, out of nothing. -/
theorem run_sound {E : Env} (hE : EnvOk E) {n g : Nat} {fn : Func} {c : Code} (hfn : tget E.ff g = some fn) (hc : fn.body = some c) (hg : g < unkU) {h : Hp} {r : Value} (hx : callA E (ev E n) g [] ⟨.nil, 0⟩ = some (r, h)) (hp : isPlain r = true) (w : World) :
    Calls E.P g #[] w fun e w' => e = .returned r ∧ Below w.heap.size w w' := by
  letI := lgOf E
  have hr : HR (fun _ => none) ⟨.nil, 0⟩ w := ⟨fun n e x q => (by cases q), fun n m e e' x y q => (by cases q), fun _ _ => rfl⟩
  rcases (call_sound hE (lgOf_ok E) (ev_sound hE (lgOf_ok E) n) ⟨.nil, 0⟩ g [] r h hx (fun _ => none) w [] hr trivial).1 hg with ⟨_, h2⟩ | ⟨u, h1, _, _⟩
  · refine h2.mono fun e w' hq => ?_
    obtain ⟨θ', u, rfl, q1, q2, q3⟩ := hq
    rw [W_plain hp q3]
    exact ⟨rfl, q1.os, q1.tape, q1.output, q1.size, fun k hk => q1.frame k hk fun n e x q => by cases q⟩
  · exfalso
    obtain ⟨f1, f2, c', f3, _⟩ := hE.ff g fn hfn
    have f2' : ¬ fn.name = "runtime.NumGoroutine" := fun e => by rw [e] at f2; simp at f2
    simp [callFunc, f1, f2', f3] at h1

end Go.Ev
