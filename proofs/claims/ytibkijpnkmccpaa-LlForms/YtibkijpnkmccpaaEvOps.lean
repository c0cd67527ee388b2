/- What an operation does to named memory it does to the world: the plain ones. -/
import Derived.Test.YtibkijpnkmccpaaEvRel
import Derived.WalkKit
import Derived.OrdersIn
import Derived.RangeFuncSeq
namespace Go.Ev
open Go.Deep Go.RowKit

theorem alloc_sound [LG] {θ : Th} {h : Hp} {w : World} (hr : HR θ h w) {nm : Nat} (hnm : θ nm = none) {cs ds : List Value} (rest : List Value) (hcs : all2 (S θ) cs ds) (t : TypeId) (k u : Nat)
    (hk : u ≠ 0 → cs.length ≤ k * u ∧ k * u ≤ (ds ++ rest).length) :
    HR (fun n => if n = nm then some (w.heap.size, 0, k) else θ n) (halloc h nm (mkEnt cs u)) (w.alloc (.cells (ds ++ rest).toArray t)) ∧
    Ext nm θ h w (fun n => if n = nm then some (w.heap.size, 0, k) else θ n) (halloc h nm (mkEnt cs u)) (w.alloc (.cells (ds ++ rest).toArray t)) := by
  have hkeep : ∀ n x, θ n = some x → (fun n => if n = nm then some (w.heap.size, 0, k) else θ n) n = some x := by
    intro n x hx
    have : n ≠ nm := fun e => by subst e; rw [hnm] at hx; cases hx
    simp only [if_neg this, hx]
  have hlt : ∀ n e x, tget h.m n = some e → θ n = some x → x.1 < w.heap.size := by
    intro n e x h1 h2
    exact (hr.ent _ _ _ h1 h2).lt
  have hcell : ∀ i, (w.alloc (.cells (ds ++ rest).toArray t)).cell? ⟨w.heap.size, 0 + i, none⟩ = (ds ++ rest)[i]? := by
    intro i
    rw [Nat.zero_add, World.cell?_alloc_new]
    simp
  refine ⟨⟨?_, ?_, ?_⟩, hkeep, ?_, ?_, ?_, rfl, rfl, rfl, ?_, ?_, ?_⟩
  · intro n e x hn hx
    simp only [halloc, tget_tset] at hn
    by_cases hb : nm = n
    · subst hb
      rw [if_pos rfl] at hn
      cases hn
      simp only [if_true, Option.some.injEq] at hx
      subst hx
      refine ⟨by simp, by simp, fun i v hi => ?_, fun o ho => (by cases ho), fun hu => ?_⟩
      · simp only [mkEnt, tget_wr_nil] at hi
        obtain ⟨y, h1, h2⟩ := all2_get hcs i v hi
        refine ⟨⟨y, ?_, S_mono hkeep h2⟩, by simp⟩
        simp only
        rw [hcell, List.getElem?_append_left, h1]
        rcases Nat.lt_or_ge i ds.length with h | h
        · exact h
        · rw [List.getElem?_eq_none h] at h1; cases h1
      · obtain ⟨h1, h2⟩ := hk hu
        refine ⟨h1, fun i hi => ⟨?_, by simp⟩⟩
        simp only
        rw [hcell, List.getElem?_eq_getElem (Nat.lt_of_lt_of_le hi h2)]
        rfl
    · rw [if_neg hb] at hn
      simp only [if_neg (Ne.symm hb)] at hx
      have r := hr.ent _ _ _ hn hx
      refine ⟨hkeep _ _ r.at_, by have := r.lt; simp; omega, fun i v hi => ?_, fun o ho => (by rw [Below.heap_alloc _ _ _ r.lt]; exact ObR_mono hkeep (r.ob o ho)), fun hu => ?_⟩
      · obtain ⟨⟨y, h1, h2⟩, h3⟩ := r.cell i v hi
        rw [World.cell?_alloc_lt _ _ _ r.lt, World.frozen?_alloc_old _ _ _ (Nat.ne_of_lt r.lt)]
        exact ⟨⟨y, h1, S_mono hkeep h2⟩, h3⟩
      · obtain ⟨h1, h2⟩ := r.room hu
        refine ⟨h1, fun i hi => ?_⟩
        rw [World.cell?_alloc_lt _ _ _ r.lt, World.frozen?_alloc_old _ _ _ (Nat.ne_of_lt r.lt)]
        exact h2 i hi
  · intro n m e e' x y h1 h2 hne t1 t2
    simp only [halloc, tget_tset] at h1 h2
    by_cases hn : nm = n
    · subst hn
      simp only [if_true] at t1
      rw [if_neg hne] at h2
      simp only [if_neg (Ne.symm hne)] at t2
      have := hlt _ _ _ h2 t2
      cases t1
      simp only; omega
    · rw [if_neg hn] at h1
      simp only [if_neg (Ne.symm hn)] at t1
      by_cases hm : nm = m
      · subst hm
        simp only [if_true] at t2
        have := hlt _ _ _ h1 t1
        cases t2
        simp only; omega
      · rw [if_neg hm] at h2
        simp only [if_neg (Ne.symm hm)] at t2
        exact hr.sep n m e e' x y h1 h2 hne t1 t2
  · intro n hn
    simp only [halloc] at hn
    have h1 : n ≠ nm := by omega
    simp only [if_neg h1]
    exact hr.fresh n (by omega)
  · intro n _ hne
    simp only [if_neg hne]
  · simp only [halloc]; omega
  · simp
  · intro b hb _
    exact Below.heap_alloc _ _ _ hb
  · intro n e x h1 hu h2
    simp only [halloc, tget_tset] at h1
    by_cases hb : nm = n
    · subst hb
      simp only [if_true] at h2
      cases h2
      exact .inl (Nat.le_refl _)
    · rw [if_neg hb] at h1
      simp only [if_neg (Ne.symm hb)] at h2
      exact .inr ⟨n, e, x, h1, hu, h2, rfl⟩
  · intro n e x h1 h2
    simp only [halloc, tget_tset] at h1
    by_cases hb : nm = n
    · subst hb
      simp only [if_true] at h2
      cases h2
      exact .inl (Nat.le_refl _)
    · rw [if_neg hb] at h1
      simp only [if_neg (Ne.symm hb)] at h2
      exact .inr ⟨n, e, x, h1, h2, rfl⟩

theorem ti_spec {P : Program} {t : TypeId} {ti : TI} (h : tiOf P t = some ti) : ∃ i d z fl, P.info? t = some i ∧ P.underlying t = some d ∧ i.zero = some z ∧ fldsOf P d = some fl ∧ allPlain z.cells.toList = true ∧
    ti = { size := i.size, bytes := i.bytes, agg := aggB d, kind := (kindOf d).1, elem := (kindOf d).2.1, alen := (kindOf d).2.2, flds := fl, zero := z.cells.toList } := by
  unfold tiOf at h
  split at h
  · rename_i i d h1 h2
    split at h
    · rename_i z fl h3 h4
      cases hp : allPlain z.cells.toList <;> simp [hp] at h
      exact ⟨i, d, z, fl, h1, h2, h3, h4, hp, h.symm⟩
    · cases h
  · cases h

/-- What an operation that is no call comes to. -/
def OpOk [LG] (P : Program) (o : Oper) (nm : Nat) (θ : Th) (h : Hp) (w : World) (a : Act) (v : Value) (h' : Hp) : Prop :=
  ∃ θ' w' u nx, (execOp a.eval o).run P w = .ok nx w' ∧ (nx = .value u ∨ (nx = .skip ∧ u = undef)) ∧ Ext nm θ h w θ' h' w' ∧ HR θ' h' w' ∧ W θ' v u

/-- No fence; frames of functions, or of a loop's rounds. -/
abbrev FW (r : Option Nat) : Fence := { Fence.wide with round := r }

theorem fn_FW {r : Option Nat} {f : FuncId} : (FW r).fn f := trivial

theorem room_FW {r : Option Nat} (n : Nat) : (FW r).room n := fun _ h => by simp [Fence.wide] at h

theorem depth_FW {r : Option Nat} {n : Nat} : (FW r).depth.isSome = true → 1 ≤ n := fun h => by simp [Fence.wide] at h

theorem callsIn_FW {r : Option Nat} {n : Nat} {P : Program} {f : FuncId} {args : Array Value} {w : World} {R : Ending → World → Prop} (h : Calls P f args w R) : CallsIn (FW r) n P f args w R :=
  (callsIn_wide (n := n)).2 h

theorem semAt_of_ok {ro : Option Nat} {ρ : Operand → Value} {o : Oper} {P : Program} {w w' : World} {nx : Next} {u : Value} (h : (execOp ρ o).run P w = .ok nx w') (hn : nx = .value u ∨ (nx = .skip ∧ u = undef)) : Oper.semAt ro ρ o = execOp ρ o := by
  refine Oper.semAt_eq ro ρ o fun c hc => ?_
  simp only [execOp, hc, Sem.run_bind] at h
  cases hr : (resolve ρ c o.type).run P w with
  | ok d w1 =>
    rw [hr] at h
    simp only [Result.andThen_ok, Sem.run_pure, Result.ok.injEq] at h
    rcases hn with e | ⟨e, _⟩ <;> (rw [e] at h; cases h.1)
  | halt x w1 => rw [hr] at h; cases h

/-- What any operation comes to. -/
def OpWp [LG] (P : Program) (o : Oper) (nm : Nat) (θ : Th) (h : Hp) (w : World) (a : Act) (v : Value) (h' : Hp) : Prop :=
  ∀ (ro : Option Nat) (K : Act → World → Prop) (Q : Exit → Act → World → Prop), (∀ θ' w' u, Ext nm θ h w θ' h' w' → HR θ' h' w' → W θ' v u → K (a.put o.dst u) w') → o.wpIn (FW ro) 0 P a w K Q

theorem OpOk.wp [LG] {P : Program} {o : Oper} {nm : Nat} {θ : Th} {h : Hp} {w : World} {a : Act} {v : Value} {h' : Hp} (hh : OpOk P o nm θ h w a v h') : OpWp P o nm θ h w a v h' := by
  intro ro K Q hK
  obtain ⟨θ', w', u, nx, h1, h2, h3, h4, h5⟩ := hh
  refine ⟨fun _ _ => fn_FW, ?_⟩
  rw [semAt_of_ok h1 h2, h1]
  rcases h2 with rfl | ⟨rfl, rfl⟩
  · exact hK _ _ _ h3 h4 h5
  · exact hK _ _ _ h3 h4 h5

/-- It leaves the world as it is. -/
theorem opOk_same [LG] {P : Program} {o : Oper} {nm : Nat} {θ : Th} {h : Hp} {w : World} {a : Act} {v : Value} (hr : HR θ h w) {u : Value} (hx : (execOp a.eval o).run P w = .ok (.value u) w) (hw : W θ v u) : OpOk P o nm θ h w a v h :=
  ⟨θ, w, u, _, hx, .inl rfl, Ext.refl _ _ _ _, hr, hw⟩

theorem srun_sound {α : Type} {P : Program} : ∀ {s : Sem α} {x : α}, srun P s = some x → ∀ w, s.run P w = .ok x w := by
  intro s
  induction s with
  | pure a => intro x h w; simp [srun] at h; subst h; rfl
  | program k ih => intro x h w; exact ih P h w
  | _ => intro x h; simp [srun] at h

theorem allPlain_eq {θ : Th} : ∀ {vs us : List Value}, allPlain vs = true → all2 (W θ) vs us → us = vs
  | [], [], _, _ => rfl
  | v :: vs, u :: us, hp, h => by
    simp only [allPlain, Bool.and_eq_true] at hp
    rw [W_plain hp.1 h.1, allPlain_eq hp.2 h.2]
  | [], _ :: _, _, h => h.elim
  | _ :: _, [], _, h => h.elim

theorem plainS_eq {θ : Th} : ∀ {vs us : List Value}, allPlain vs = true → all2 (S θ) vs us → us = vs
  | [], [], _, _ => rfl
  | v :: vs, u :: us, hp, h => by
    simp only [allPlain, Bool.and_eq_true] at hp
    rw [W_plain hp.1 (W_of_S h.1), plainS_eq hp.2 h.2]
  | [], _ :: _, _, h => h.elim
  | _ :: _, [], _, h => h.elim

theorem plainA_eq {θ : Th} {v u : Value} (hp : plainA v = true) (h : W θ v u) : u = v := by
  cases v with
  | agg cs =>
    obtain ⟨ds, rfl, h2⟩ := h
    rw [plainS_eq hp h2]
  | _ => exact W_plain hp h

theorem allPlainA_eq {θ : Th} : ∀ {vs us : List Value}, allPlainA vs = true → all2 (W θ) vs us → us = vs
  | [], [], _, _ => rfl
  | v :: vs, u :: us, hp, h => by
    simp only [allPlainA, Bool.and_eq_true] at hp
    rw [plainA_eq hp.1 h.1, allPlainA_eq hp.2 h.2]
  | [], _ :: _, _, h => h.elim
  | _ :: _, [], _, h => h.elim

theorem opvs_rho {T : Tm} : ∀ {xs : List Operand} {vs : List Value}, opvs (opv T) xs = some vs → xs.map (rho (opv T)) = vs
  | [], vs, h => by cases h; rfl
  | x :: l, vs, h => by
    simp only [opvs] at h
    split at h
    · cases h
    · rename_i v hv
      split at h
      · cases h
      · rename_i r hr
        cases h
        simp [rho, hv, opvs_rho hr]

end Go.Ev
