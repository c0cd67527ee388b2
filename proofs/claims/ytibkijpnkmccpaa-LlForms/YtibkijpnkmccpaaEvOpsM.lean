/- Maps. -/
import Derived.Test.YtibkijpnkmccpaaEvOps2
set_option linter.unusedVariables false
set_option linter.unusedSimpArgs false
namespace Go.Ev
open Go.Deep Go.RowKit

/-- A block that nothing names is turned. -/
theorem HR.put_free [LG] {θ : Th} {h : Hp} {w : World} (hr : HR θ h w) {D : Nat} (o : Obj) (hD : ∀ n e x, tget h.m n = some e → θ n = some x → x.1 ≠ D) : HR θ h (w.putObj D o) := by
  refine ⟨fun n e x he hx => ?_, hr.sep, hr.fresh⟩
  have r := hr.ent n e x he hx
  have hk : (w.putObj D o).heap[x.1]? = w.heap[x.1]? := World.putObj_heap_other (hD n e x he hx)
  refine ⟨r.at_, by rw [World.putObj_size]; exact r.lt, fun i v hv => ?_, fun q hq => (by rw [hk]; exact r.ob q hq), fun hu => ?_⟩
  · rw [World.cell?_of_block (w := w) hk, World.frozen?_of_block (w := w) hk]; exact r.cell i v hv
  · obtain ⟨h1, h2⟩ := r.room hu
    refine ⟨h1, fun i hi => ?_⟩
    rw [World.cell?_of_block (w := w) hk, World.frozen?_of_block (w := w) hk]; exact h2 i hi

theorem Ext.put_free {nm : Nat} {θ θ' : Th} {h h' : Hp} {w w' : World} (e : Ext nm θ h w θ' h' w') {D : Nat} (o : Obj) (hD : w.heap.size ≤ D) : Ext nm θ h w θ' h' (w'.putObj D o) :=
  ⟨e.keep, e.only, e.nxt, by rw [World.putObj_size]; exact e.size, e.tape, e.os, e.output, fun b hb hno => (World.putObj_heap_other (by omega)).trans (e.frame b hb hno), e.ownw, e.own⟩

/-- A block that nothing names is laid. -/
theorem HR.alloc_free [LG] {θ : Th} {h : Hp} {w : World} (hr : HR θ h w) (o : Obj) : HR θ h (w.alloc o) := by
  refine ⟨fun n e x he hx => ?_, hr.sep, hr.fresh⟩
  have r := hr.ent n e x he hx
  have hk : (w.alloc o).heap[x.1]? = w.heap[x.1]? := Below.heap_alloc _ _ _ r.lt
  refine ⟨r.at_, by have := r.lt; simp; omega, fun i v hv => ?_, fun q hq => (by rw [hk]; exact r.ob q hq), fun hu => ?_⟩
  · rw [World.cell?_of_block (w := w) hk, World.frozen?_of_block (w := w) hk]; exact r.cell i v hv
  · obtain ⟨h1, h2⟩ := r.room hu
    refine ⟨h1, fun i hi => ?_⟩
    rw [World.cell?_of_block (w := w) hk, World.frozen?_of_block (w := w) hk]; exact h2 i hi

theorem Ext.alloc_free (nm : Nat) (θ : Th) (h : Hp) (w : World) (o : Obj) : Ext nm θ h w θ h (w.alloc o) :=
  ⟨fun _ _ e => e, fun _ _ _ => rfl, Nat.le_refl _, by simp, rfl, rfl, rfl, fun b hb _ => Below.heap_alloc _ _ _ hb, fun n e x h1 hu h2 => .inr ⟨n, e, x, h1, hu, h2, rfl⟩, fun n e x h1 h2 => .inr ⟨n, e, x, h1, h2, rfl⟩⟩

/-- What is no row of cells is laid. -/
theorem obj_sound [LG] {θ : Th} {h : Hp} {w : World} (hr : HR θ h w) {nm : Nat} (hnm : θ nm = none) {o : Ob} {q : Obj} (hq : ObR (fun n => if n = nm then some (w.heap.size, 0, 0) else θ n) (some q) o) :
    HR (fun n => if n = nm then some (w.heap.size, 0, 0) else θ n) (halloc h nm ⟨.nil, 0, 0, some o⟩) (w.alloc q) ∧ Ext nm θ h w (fun n => if n = nm then some (w.heap.size, 0, 0) else θ n) (halloc h nm ⟨.nil, 0, 0, some o⟩) (w.alloc q) := by
  have hkeep : ∀ n x, θ n = some x → (fun n => if n = nm then some (w.heap.size, 0, 0) else θ n) n = some x := by
    intro n x hx
    have : n ≠ nm := fun e => by subst e; rw [hnm] at hx; cases hx
    simp only [if_neg this, hx]
  have hr1 := hr.alloc_free q
  refine ⟨⟨?_, ?_, ?_⟩, hkeep, ?_, ?_, by simp, rfl, rfl, rfl, fun b hb _ => Below.heap_alloc _ _ _ hb, ?_, ?_⟩
  · intro n e x hn hx
    simp only [halloc, tget_tset] at hn
    by_cases hb : nm = n
    · subst hb
      rw [if_pos rfl] at hn
      cases hn
      simp only [if_true, Option.some.injEq] at hx
      subst hx
      refine ⟨by simp, by simp, fun i v hi => (by cases hi), fun o ho => ?_, fun hu => absurd rfl hu⟩
      cases ho
      have := hq
      rw [← World.alloc_heap_new w q] at this
      exact this
    · rw [if_neg hb] at hn
      simp only [if_neg (Ne.symm hb)] at hx
      have q := hr1.ent _ _ _ hn hx
      exact ⟨hkeep _ _ q.at_, q.lt, fun i v hi => let ⟨⟨u, k1, k2⟩, k3⟩ := q.cell i v hi; ⟨⟨u, k1, S_mono hkeep k2⟩, k3⟩, fun o ho => ObR_mono hkeep (q.ob o ho), q.room⟩
  · intro n m e e' x y h1 h2 hne t1 t2
    simp only [halloc, tget_tset] at h1 h2
    by_cases hn : nm = n
    · subst hn
      simp only [if_true] at t1
      rw [if_neg hne] at h2
      simp only [if_neg (Ne.symm hne)] at t2
      have := (hr.ent _ _ _ h2 t2).lt
      cases t1
      simp only; omega
    · rw [if_neg hn] at h1
      simp only [if_neg (Ne.symm hn)] at t1
      by_cases hm : nm = m
      · subst hm
        simp only [if_true] at t2
        have := (hr.ent _ _ _ h1 t1).lt
        cases t2
        simp only; omega
      · rw [if_neg hm] at h2
        simp only [if_neg (Ne.symm hm)] at t2
        exact hr.sep n m e e' x y h1 h2 hne t1 t2
  · intro n hn
    simp only [halloc] at hn
    have h1 : n ≠ nm := by omega
    simp only [if_neg h1]
    exact hr.fresh n (by omega)
  · intro n _ hne
    simp only [if_neg hne]
  · simp only [halloc]; omega
  · intro n e x h1 hu h2
    simp only [halloc, tget_tset] at h1
    by_cases hb : nm = n
    · subst hb
      simp only [if_true] at h2
      cases h2
      exact .inl (Nat.le_refl _)
    · rw [if_neg hb] at h1
      simp only [if_neg (Ne.symm hb)] at h2
      exact .inr ⟨n, e, x, h1, hu, h2, rfl⟩
  · intro n e x h1 h2
    simp only [halloc, tget_tset] at h1
    by_cases hb : nm = n
    · subst hb
      simp only [if_true] at h2
      cases h2
      exact .inl (Nat.le_refl _)
    · rw [if_neg hb] at h1
      simp only [if_neg (Ne.symm hb)] at h2
      exact .inr ⟨n, e, x, h1, h2, rfl⟩

theorem isBld0_eq {l : List Value} (h : isBld0 l = true) : l = [.pointer none, .slice none 0 0] := by
  unfold isBld0 at h
  split at h
  · rfl
  · cases h

/-- A builder is laid. -/
theorem op_allocB [LG] {E : Env} (hE : EnvT E) {o : Oper} {nm : Nat} {θ : Th} {h : Hp} {w : World} {a : Act} (hr : HR θ h w) {t : TypeId} {ti : TI} {e : Nat} (hnm : θ nm = none) (ho : o.op = .alloc t) (hti : tget E.tt t = some ti) (hz : isBld0 ti.zero = true) :
    OpOk E.P o nm θ h w a (newPtr nm) (halloc h nm (obE (.bld t e nm none))) := by
  obtain ⟨i, d, z, fl, h1, h2, h3, h4, h5, rfl⟩ := ti_spec (hE _ _ hti)
  have hz : z.cells.toList = [.pointer none, .slice none 0 0] := isBld0_eq hz
  have hzc : z.cells = #[.pointer none, .slice none 0 0] := Array.toList_inj.1 hz
  obtain ⟨g1, g2⟩ := obj_sound hr hnm (o := .bld t e nm none) (q := .cells #[.pointer none, .slice none 0 0] t (0, 0))
    (BldR.mk ⟨(w.heap.size, 0, 0), .pointer none, .slice none 0 0, by simp, rfl, rfl, .inl rfl, .inl ⟨rfl, rfl⟩⟩)
  refine ⟨_, _, .pointer (some ⟨w.heap.size, 0, none⟩), _, ?_, .inl rfl, g2, g1, ?_⟩
  · simp [execOp, ho, Instr.alloc, run_zeroValue h1 h3, newVar, newRow, hzc]
  · exact ⟨rfl, (w.heap.size, 0, 0), by simp, rfl⟩

/-- It is turned. -/
theorem objSet_sound [LG] {θ : Th} {h : Hp} {w : World} (hr : HR θ h w) {l : Nat} {e : Ent} {x : Nat × Nat × Nat} (he : tget h.m l = some e) (hro : e.unk ≠ roU) (hx : θ l = some x) {o : Ob} {q : Obj} (hq : ObR θ (some q) o) :
    HR θ ⟨tset h.m l (some ⟨.nil, 0, 0, some o⟩), h.nxt⟩ (w.putObj x.1 q) ∧ ∀ nm, Ext nm θ h w θ ⟨tset h.m l (some ⟨.nil, 0, 0, some o⟩), h.nxt⟩ (w.putObj x.1 q) := by
  have re := hr.ent l e x he hx
  have lift : ∀ k ek, tget (tset h.m l (some ⟨.nil, 0, 0, some o⟩)) k = some ek → ∃ ek', tget h.m k = some ek' := by
    intro k ek hk
    rw [tget_tset] at hk
    split at hk
    · rename_i q; subst q; exact ⟨e, he⟩
    · exact ⟨ek, hk⟩
  refine ⟨⟨fun n en y hn hy => ?_, fun n m e1 e2 y z h1 h2 hne t1 t2 => ?_, hr.fresh⟩, fun nm => ⟨fun _ _ q => q, fun _ _ _ => rfl, Nat.le_refl _, by rw [World.putObj_size]; exact Nat.le_refl _, rfl, rfl, rfl, fun b hb hno => ?_, fun n en y hn hu hy => ?_, fun n en y hn hy => ?_⟩⟩
  · simp only [tget_tset] at hn
    by_cases hne : l = n
    · subst hne
      rw [if_pos rfl] at hn
      cases hn
      have hxy : x = y := by rw [hx] at hy; exact Option.some.inj hy
      subst hxy
      refine ⟨hx, by rw [World.putObj_size]; exact re.lt, fun i v hi => (by cases hi), fun o ho' => ?_, fun hu => absurd rfl hu⟩
      cases ho'
      rw [World.putObj_heap_same re.lt]
      exact hq
    · rw [if_neg hne] at hn
      have rz := hr.ent _ _ _ hn hy
      have hsep := hr.sep _ _ _ _ _ _ hn he (Ne.symm hne) hy hx
      have hk : (w.putObj x.1 q).heap[y.1]? = w.heap[y.1]? := World.putObj_heap_other hsep
      refine ⟨rz.at_, by rw [World.putObj_size]; exact rz.lt, fun i v hv => ?_, fun q hq => (by rw [hk]; exact rz.ob q hq), fun hu => ?_⟩
      · rw [World.cell?_of_block (w := w) hk, World.frozen?_of_block (w := w) hk]; exact rz.cell i v hv
      · obtain ⟨h1, h2⟩ := rz.room hu
        refine ⟨h1, fun i hi => ?_⟩
        rw [World.cell?_of_block (w := w) hk, World.frozen?_of_block (w := w) hk]; exact h2 i hi
  · obtain ⟨e1', h1'⟩ := lift n e1 h1
    obtain ⟨e2', h2'⟩ := lift m e2 h2
    exact hr.sep n m e1' e2' y z h1' h2' hne t1 t2
  · exact World.putObj_heap_other fun q => hno l e x he hro hx q.symm
  · simp only [tget_tset] at hn
    split at hn
    · rename_i q; subst q; exact .inr ⟨_, _, _, he, hro, hy, rfl⟩
    · exact .inr ⟨_, _, _, hn, hu, hy, rfl⟩
  · simp only [tget_tset] at hn
    split at hn
    · rename_i q; subst q; exact .inr ⟨_, _, _, he, hy, rfl⟩
    · exact .inr ⟨_, _, _, hn, hy, rfl⟩

/-- Found, or not. -/
def FR (θ : Th) : Option (Nat × Value) → Option (Nat × Value) → Prop
  | none, none => True
  | some p, some q => p.1 = q.1 ∧ V θ p.2 q.2
  | _, _ => False

theorem same_now {P : Program} {kt : TypeId} {d : TypeDesc} (hd : P.underlying kt = some d) {x y : Value} {b b' : Bool} (h1 : Instr.sameNow d x y = some b) (h2 : srun P (Op.equal kt x y) = some b') (w : World) : b = b' := by
  have hr := srun_sound h2 w
  have hq : (Op.equal kt x y).run P w = .ok b w := by
    unfold Op.equal Op.maxDepth
    unfold Instr.sameNow at h1
    split at h1
    · rename_i k a k' b0
      split at h1
      · rename_i hk
        cases h1
        rw [show (10000 : Nat) = 9999 + 1 from rfl, Op.equalIn]
        simp [run_underlying hd, hk]
      · cases h1
    · cases h1
      rw [show (10000 : Nat) = 9999 + 1 from rfl, Op.equalIn]
      simp [run_underlying hd]
    · cases h1
      rw [show (10000 : Nat) = 9999 + 1 from rfl, Op.equalIn]
      simp [run_underlying hd]
    · cases h1
  rw [hr] at hq
  cases hq
  rfl

theorem find_now {P : Program} {θ : Th} {kt : TypeId} {d : TypeDesc} (hd : P.underlying kt = some d) {k : Value} (w : World) : ∀ {es : List (Value × Value)} {l : List MapEntry} {i : Nat} {r r2 : Option (Nat × Value)}, MpR θ es l → kFind P kt k es i = some r → Instr.findNow d k l i = some r2 → FR θ r r2
  | [], [], i, r, r2, _, h1, h2 => by cases h1; cases h2; trivial
  | (k', v) :: es, e :: l, i, r, r2, hm, h1, h2 => by
    obtain ⟨⟨q1, q2⟩, q3⟩ := hm
    simp only [kFind] at h1
    simp only [Instr.findNow] at h2
    split at h1
    · rename_i hs
      split at h2
      · cases h1; cases h2; exact ⟨rfl, q2⟩
      · rename_i hn
        rw [q1] at hn
        have := same_now hd hn hs w
        cases this
      · cases h2
    · rename_i hs
      split at h2
      · rename_i hn
        rw [q1] at hn
        have := same_now hd hn hs w
        cases this
      · exact find_now hd w q3 h1 h2
      · cases h2
    · cases h1
  | [], _ :: _, _, _, _, h, _, _ => h.elim
  | _ :: _, [], _, _, _, h, _, _ => h.elim

theorem find_ask {P : Program} {θ : Th} {kt : TypeId} {k : Value} (w : World) : ∀ {es : List (Value × Value)} {l : List MapEntry} {i : Nat} {r : Option (Nat × Value)}, MpR θ es l → kFind P kt k es i = some r → ∃ r2, (Instr.findAsking kt k l i).run P w = .ok r2 w ∧ FR θ r r2
  | [], [], i, r, _, h1 => by cases h1; exact ⟨none, rfl, trivial⟩
  | (k', v) :: es, e :: l, i, r, hm, h1 => by
    obtain ⟨⟨q1, q2⟩, q3⟩ := hm
    simp only [kFind] at h1
    split at h1
    · rename_i hs
      cases h1
      refine ⟨some (i, e.val), ?_, rfl, q2⟩
      simp [Instr.findAsking, q1, srun_sound hs w]
    · rename_i hs
      obtain ⟨r2, h3, h4⟩ := find_ask w q3 h1
      refine ⟨r2, ?_, h4⟩
      simp [Instr.findAsking, q1, srun_sound hs w, h3]
    · cases h1
  | [], _ :: _, _, _, h, _ => h.elim
  | _ :: _, [], _, _, h, _ => h.elim

theorem find_key {P : Program} {θ : Th} {kt : TypeId} {d : TypeDesc} (hd : P.underlying kt = some d) {k : Value} (w : World) {es : List (Value × Value)} {l : List MapEntry} {r : Option (Nat × Value)} (hm : MpR θ es l) (h1 : kFind P kt k es 0 = some r) :
    ∃ r2, (Instr.findKey kt k l).run P w = .ok r2 w ∧ FR θ r r2 := by
  cases hn : Instr.findNow d k l 0 with
  | none =>
    obtain ⟨r2, h3, h4⟩ := find_ask w hm h1
    exact ⟨r2, by simp [Instr.findKey, run_underlying hd, hn, h3], h4⟩
  | some r2 => exact ⟨r2, by simp [Instr.findKey, run_underlying hd, hn], find_now hd w hm h1 hn⟩

theorem kind_map {d : TypeDesc} (h : (kindOf d).1 = 10) : d = .map (kindOf d).2.2 (kindOf d).2.1 := by
  unfold kindOf at h ⊢; split <;> simp_all

theorem getMp_spec {h : Hp} {n : Nat} {es : List (Value × Value)} (hg : getMp h n = some es) : ∃ e, tget h.m n = some e ∧ e.ob = some (.mp es) ∧ e.unk ≠ roU := by
  unfold getMp at hg
  split at hg
  · rename_i e he
    cases hu0 : Nat.beq e.unk 0 <;> simp only [hu0, cond_true, cond_false, reduceCtorEq] at hg
    have hro : e.unk ≠ roU := by rw [Nat.eq_of_beq_eq_true hu0]; unfold roU; omega
    split at hg
    · rename_i L' ho
      cases hg
      exact ⟨e, he, ho, hro⟩
    · cases hg
  · cases hg

theorem op_makeMap [LG] {E : Env} (hE : EnvT E) {o : Oper} {nm : Nat} {θ : Th} {h : Hp} {w : World} {a : Act} (hr : HR θ h w) {t : TypeId} (hnm : θ nm = none) (ho : o.op = .makeMap t none) : OpOk E.P o nm θ h w a (.map (some nm)) (halloc h nm ⟨.nil, 0, 0, some (.mp [])⟩) := by
  obtain ⟨g1, g2⟩ := obj_sound hr hnm (o := .mp []) (q := .map #[] 0) ⟨_, _, rfl, trivial⟩
  refine ⟨_, _, .map (some w.heap.size), _, ?_, .inl rfl, g2, g1, ?_⟩
  · simp [execOp, ho, Instr.makeMap]
  · exact ⟨(w.heap.size, 0, 0), by simp, rfl⟩

theorem key_good {P : Program} {emp : Bool} {kt : TypeId} {k : Value} (h : keyGood P emp kt k = true) (w : World) : plainA k = true ∧ (Instr.checkKey emp 10000 kt k).run P w = .ok () w := by
  unfold keyGood at h
  rw [Bool.and_eq_true] at h
  refine ⟨h.1, ?_⟩
  have h2 := h.2
  split at h2
  · rename_i u hs
    exact srun_sound hs w
  · cases h2

theorem V_of_W {θ : Th} {u v : Value} (hn : isTup u = false) (h : W θ u v) : V θ u v := by
  cases u <;> first | exact h | cases hn

theorem isTup_plain {z : Value} (h : plainA z = true) : isTup z = false := by
  cases z <;> first | rfl | cases h

theorem V_plainA {θ : Th} {z : Value} (h : plainA z = true) : V θ z z := by
  cases z with
  | agg cs => exact ⟨cs.toList, by simp, plain_all2 h⟩
  | _ => exact V_of_S (S_plain h)

theorem luRes_W {θ : Th} {v u : Value} {ok b : Bool} (h : V θ v u) : W θ (luRes ok v b) (if ok then .tuple #[u, .bool b] else u) := by
  cases ok
  · exact W_of_V h
  · exact ⟨[u, .bool b], rfl, h, rfl, trivial⟩

theorem op_lookM [LG] {E : Env} (hE : EnvT E) {o : Oper} {nm : Nat} {θ : Th} {h h' : Hp} {w : World} {a : Act} {T : Tm} {v : Value} (hr : HR θ h w) (ht : TO θ T a o) {t : TypeId} {x ix : Operand} {ok : Bool} {mt : TI} {es : List (Value × Value)} {k : Value} {l : Array MapEntry} {m : Value} (ho : o.op = .lookup t x ix ok)
    (hti : tget E.tt t = some mt) (hk : mt.kind = 10) (hix : opv T ix = some k) (hm : MpR θ es l.toList)
    (hes : (a.eval x = .map none ∧ l = #[]) ∨ ∃ r c, a.eval x = .map (some r) ∧ (getObj r).run E.P w = .ok (.map l c) w) (hx : xLookM E h mt es k ok = some (v, h')) : OpOk E.P o nm θ h w a v h' := by
  obtain ⟨i, d, z, fl, h1, h2, h3, h4, h5, rfl⟩ := ti_spec (hE _ _ hti)
  simp only at hk
  rw [kind_map hk] at h2
  unfold xLookM at hx
  cases hg : keyGood E.P es.isEmpty (kindOf d).2.2 k <;> simp only [hg, cond_true, cond_false, reduceCtorEq] at hx
  obtain ⟨p1, p2⟩ := key_good hg w
  have hkey : a.eval ix = k := plainA_eq p1 (ht _ (by simp [ho, Op.operands]) _ hix)
  have hemp : l.isEmpty = es.isEmpty := by
    have := all2_len hm
    rw [Bool.eq_iff_iff, Array.isEmpty_iff_size_eq_zero, List.isEmpty_iff_length_eq_zero, this]
    simp
  have hu : ∃ d', E.P.underlying (kindOf d).2.2 = some d' := by
    have := p2
    cases hq : E.P.underlying (kindOf d).2.2 with
    | some d' => exact ⟨d', rfl⟩
    | none =>
      exfalso
      rw [show (10000 : Nat) = 9999 + 1 from rfl, Instr.checkKey] at this
      simp [underlying, hq, stuck] at this
  obtain ⟨d', hd'⟩ := hu
  have main : ∀ r2 u b, (Instr.findKey (kindOf d).2.2 k l.toList).run E.P w = .ok r2 w → ((∃ j, r2 = some (j, u) ∧ b = true) ∨ (r2 = none ∧ b = false ∧ (zeroValue (kindOf d).2.1).run E.P w = .ok u w)) → (execOp a.eval o).run E.P w = .ok (.value (if ok then .tuple #[u, .bool b] else u)) w := by
    intro r2 u b e1 e2
    have e0 : (Instr.lookup t (a.eval x) (a.eval ix) ok).run E.P w = .ok (if ok then .tuple #[u, .bool b] else u) w := by
      unfold Instr.lookup
      rw [← hemp] at p2
      rcases hes with ⟨g1, g2⟩ | ⟨r, c, g1, g2⟩
      · subst g2
        have p2 : (Instr.checkKey true 10000 (kindOf d).2.2 k).run E.P w = .ok () w := p2
        have e1 : (Instr.findKey (kindOf d).2.2 k []).run E.P w = .ok r2 w := e1
        rcases e2 with ⟨j, rfl, rfl⟩ | ⟨rfl, rfl, e3⟩
        · simp [run_underlying h2, g1, hkey, p2, e1]
        · simp [run_underlying h2, g1, hkey, p2, e1, e3]
      · rcases e2 with ⟨j, rfl, rfl⟩ | ⟨rfl, rfl, e3⟩
        · simp [run_underlying h2, g1, g2, hkey, p2, e1]
        · simp [run_underlying h2, g1, g2, hkey, p2, e1, e3]
    simp [execOp, ho, e0]
  split at hx
  · rename_i j u hf
    cases hq : isTup u <;> simp only [hq, cond_true, cond_false, reduceCtorEq] at hx
    cases hx
    obtain ⟨r2, q1, q2⟩ := find_key hd' w hm hf
    cases r2 with
    | none => exact q2.elim
    | some p => exact opOk_same hr (main _ p.2 true q1 (.inl ⟨p.1, rfl, rfl⟩)) (luRes_W q2.2)
  · rename_i hf
    split at hx
    · rename_i z' hz
      cases hq : plainA z' <;> simp only [hq, cond_true, cond_false, reduceCtorEq] at hx
      cases hx
      obtain ⟨r2, q1, q2⟩ := find_key hd' w hm hf
      cases r2 with
      | some p => exact q2.elim
      | none => exact opOk_same hr (main _ z' false q1 (.inr ⟨rfl, rfl, srun_sound hz w⟩)) (luRes_W (V_plainA hq))
    · cases hx
  · cases hx

theorem op_lookup [LG] {E : Env} (hE : EnvT E) {o : Oper} {nm : Nat} {θ : Th} {h h' : Hp} {w : World} {a : Act} {T : Tm} {v : Value} (hr : HR θ h w) (ht : TO θ T a o) {t : TypeId} {x ix : Operand} {ok : Bool} (ho : o.op = .lookup t x ix ok)
    (hx : xLook E (opv T) h t x ix ok = some (v, h')) : OpOk E.P o nm θ h w a v h' := by
  unfold xLook at hx
  split at hx
  · rename_i k hm hk
    obtain ⟨mt, k1, k2⟩ := ob_some hx
    cases hq : Nat.beq mt.kind 10 <;> simp only [hq, cond_true, cond_false, reduceCtorEq] at k2
    have e : a.eval x = .map none := ht _ (by simp [ho, Op.operands]) _ hm
    exact op_lookM hE hr ht ho k1 (Nat.eq_of_beq_eq_true hq) hk (es := []) (l := #[]) (m := .map none) trivial (.inl ⟨e, rfl⟩) k2
  · rename_i n k hm hk
    obtain ⟨mt, k1, k2⟩ := ob_some hx
    cases hq : Nat.beq mt.kind 10 <;> simp only [hq, cond_true, cond_false, reduceCtorEq] at k2
    obtain ⟨es, k3, k4⟩ := ob_some k2
    obtain ⟨x', hx', e⟩ : ∃ x', θ n = some x' ∧ a.eval x = .map (some x'.1) := ht _ (by simp [ho, Op.operands]) _ hm
    obtain ⟨ent, g1, g2, g3⟩ := getMp_spec k3
    obtain ⟨l, c, j1, j2⟩ := (hr.ent _ _ _ g1 hx').ob _ g2
    exact op_lookM hE hr ht ho k1 (Nat.eq_of_beq_eq_true hq) hk (l := l) (m := .map none) j2 (.inr ⟨_, c, e, by simp [getObj, Sem.run, j1]⟩) k4
  · cases hx

theorem MpR.set {θ : Th} {k v u : Value} (hv : V θ v u) : ∀ {es : List (Value × Value)} {l : List MapEntry} (i : Nat), MpR θ es l → MpR θ (es.set i (k, v)) (l.modify i fun e => { e with key := k, val := u })
  | [], [], i, _ => by cases i <;> exact trivial
  | p :: es, e :: l, 0, h => ⟨⟨rfl, hv⟩, h.2⟩
  | p :: es, e :: l, i + 1, h => ⟨h.1, MpR.set hv i h.2⟩
  | [], _ :: _, _, h => h.elim
  | _ :: _, [], _, h => h.elim

theorem op_mapUpdate [LG] {E : Env} (hE : EnvT E) {o : Oper} {nm : Nat} {θ : Th} {h h' : Hp} {w : World} {a : Act} {T : Tm} {r : Value} (hr : HR θ h w) (ht : TO θ T a o) {t : TypeId} {m k x : Operand} (ho : o.op = .mapUpdate t m k x)
    (hx : xUpd E (opv T) h t m k x = some (r, h')) : OpOk E.P o nm θ h w a r h' := by
  unfold xUpd at hx
  split at hx
  · rename_i n kv v hm hk hv
    obtain ⟨mt, k1, k2⟩ := ob_some hx
    cases hq : (Nat.beq mt.kind 10 && !(isTup v) && keyGood E.P false mt.alen kv) <;> simp only [hq, cond_true, cond_false, reduceCtorEq] at k2
    simp only [Bool.and_eq_true, Bool.not_eq_true'] at hq
    obtain ⟨⟨hq1, hq2⟩, hq3⟩ := hq
    obtain ⟨es, k3, k4⟩ := ob_some k2
    obtain ⟨x', hx', e⟩ : ∃ x', θ n = some x' ∧ a.eval m = .map (some x'.1) := ht _ (by simp [ho, Op.operands]) _ hm
    obtain ⟨ent, g1, g2, g3⟩ := getMp_spec k3
    obtain ⟨l, c, j1, j2⟩ := (hr.ent _ _ _ g1 hx').ob _ g2
    obtain ⟨i, d, z, fl, h1, h2, h3, h4, h5, rfl⟩ := ti_spec (hE _ _ k1)
    simp only at hq3 k4
    rw [kind_map (Nat.eq_of_beq_eq_true hq1)] at h2
    obtain ⟨p1, p2⟩ := key_good hq3 w
    have hkey : a.eval k = kv := plainA_eq p1 (ht _ (by simp [ho, Op.operands]) _ hk)
    have hval : V θ v (a.eval x) := V_of_W hq2 (ht _ (by simp [ho, Op.operands]) _ hv)
    have hu : ∃ d', E.P.underlying (kindOf d).2.2 = some d' := by
      have := p2
      cases hq : E.P.underlying (kindOf d).2.2 with
      | some d' => exact ⟨d', rfl⟩
      | none =>
        exfalso
        rw [show (10000 : Nat) = 9999 + 1 from rfl, Instr.checkKey] at this
        simp [underlying, hq, stuck] at this
    obtain ⟨d', hd'⟩ := hu
    have hset : ∀ q, (setObj x'.1 q).run E.P w = .ok () (w.putObj x'.1 q) := fun q => by simp [setObj, Sem.run, j1, World.putObj]
    have hget : (getObj x'.1).run E.P w = .ok (.map l c) w := by simp [getObj, Sem.run, j1]
    split at k4
    · rename_i hf
      cases k4
      obtain ⟨r2, q1, q2⟩ := find_key hd' w j2 hf
      cases r2 with
      | some p => exact q2.elim
      | none =>
        have hob : ObR θ (some (.map (l.push { key := kv, val := a.eval x, born := c }) (c + 1))) (.mp (es ++ [(kv, v)])) := ⟨_, _, rfl, by
          rw [Array.toList_push]
          exact all2_append j2 ⟨⟨rfl, hval⟩, trivial⟩⟩
        obtain ⟨s1, s2⟩ := objSet_sound hr g1 g3 hx' hob
        refine ⟨θ, _, undef, .skip, ?_, .inr ⟨rfl, rfl⟩, s2 nm, s1, ⟨[], rfl, trivial⟩⟩
        simp [execOp, ho, Instr.mapUpdate, run_underlying h2, e, hget, hkey, p2, q1, hset]
    · rename_i j vv hf
      split at k4
      · rename_i p hp
        cases hb : Instr.sameBits 10000 p.1 kv <;> simp only [hb, cond_true, cond_false, reduceCtorEq] at k4
        cases k4
        obtain ⟨r2, q1, q2⟩ := find_key hd' w j2 hf
        cases r2 with
        | none => exact q2.elim
        | some p2' =>
          obtain ⟨jj, uu⟩ := p2'
          obtain ⟨q3, q4⟩ := q2
          simp only at q3
          subst q3
          obtain ⟨en, f1, f2, f3⟩ := all2_get j2 j p hp
          have hen : l[j]? = some en := by simpa using f1
          have hob : ObR θ (some (.map (l.modify j fun e => { e with key := kv, val := a.eval x }) c)) (.mp (es.set j (kv, v))) := ⟨_, _, rfl, by
            rw [Array.toList_modify]
            exact MpR.set hval j j2⟩
          obtain ⟨s1, s2⟩ := objSet_sound hr g1 g3 hx' hob
          refine ⟨θ, _, undef, .skip, ?_, .inr ⟨rfl, rfl⟩, s2 nm, s1, ⟨[], rfl, trivial⟩⟩
          have hst : (Instr.keyThatStays en.key kv).run E.P w = .ok kv w := by
            unfold Instr.keyThatStays
            rw [f2, hb]
            rfl
          simp [execOp, ho, Instr.mapUpdate, run_underlying h2, e, hget, hkey, p2, q1, hset, hen, hst]
      · cases k4
    · cases k4
  · cases hx

end Go.Ev
