/- Operation by operation. -/
import Derived.Test.YtibkijpnkmccpaaEvOps
set_option linter.unusedVariables false
set_option linter.unusedSimpArgs false
namespace Go.Ev
open Go.Deep Go.RowKit

def EnvT (E : Env) : Prop := ∀ t ti, tget E.tt t = some ti → tiOf E.P t = some ti

theorem plain_all2 {θ : Th} : ∀ {l : List Value}, allPlain l = true → all2 (S θ) l l
  | [], _ => trivial
  | v :: l, h => by
    simp only [allPlain, Bool.and_eq_true] at h
    exact ⟨S_plain h.1, plain_all2 h.2⟩

theorem kind_slice {d : TypeDesc} (h : (kindOf d).1 = 1) : d = .slice (kindOf d).2.1 := by
  cases d <;> simp [kindOf] at h ⊢
  case int k => cases k <;> simp [kindOf] at h
theorem kind_array {d : TypeDesc} (h : (kindOf d).1 = 2) : d = .array (kindOf d).2.2 (kindOf d).2.1 := by
  cases d <;> simp [kindOf] at h ⊢
  case int k => cases k <;> simp [kindOf] at h
theorem kind_struct {d : TypeDesc} (h : (kindOf d).1 = 3) : ∃ fs, d = .struct fs := by
  cases d <;> simp [kindOf] at h ⊢
  case int k => cases k <;> simp [kindOf] at h
theorem kind_string {d : TypeDesc} (h : (kindOf d).1 = 4) : d = .string := by
  cases d <;> simp [kindOf] at h ⊢
  case int k => cases k <;> simp [kindOf] at h
theorem kind_int {d : TypeDesc} (h : (kindOf d).1 = 5) : ∃ k, d = .int k := by
  cases d <;> simp [kindOf] at h ⊢
theorem kind_pointer {d : TypeDesc} (h : (kindOf d).1 = 7) : d = .pointer (kindOf d).2.1 := by
  cases d <;> simp [kindOf] at h ⊢
  case int k => cases k <;> simp [kindOf] at h
theorem kind_func {d : TypeDesc} (h : (kindOf d).1 = 8) : ∃ a b c, d = .func a b c := by
  cases d <;> simp [kindOf] at h ⊢
  case int k => cases k <;> simp [kindOf] at h

theorem run_typeInfo {P : Program} {t : TypeId} {i : TypeInfo} (h : P.info? t = some i) (w : World) : (typeInfo t).run P w = .ok i w := by simp [typeInfo, h]
theorem run_sizeOf {P : Program} {t : TypeId} {i : TypeInfo} (h : P.info? t = some i) (w : World) : (sizeOf t).run P w = .ok i.size w := by simp [sizeOf, run_typeInfo h]
theorem run_zeroValue {P : Program} {t : TypeId} {i : TypeInfo} {z : Value} (h : P.info? t = some i) (hz : i.zero = some z) (w : World) : (zeroValue t).run P w = .ok z w := by simp [zeroValue, run_typeInfo h, hz]
theorem run_isAgg {P : Program} {t : TypeId} {d : TypeDesc} (h : P.underlying t = some d) (w : World) : (isAgg t).run P w = .ok (aggB d) w := by
  cases d <;> simp [isAgg, run_underlying h, aggB]

theorem mapM_fields {P : Program} : ∀ (l : List Field) (pl : List (Nat × Nat)), l.mapM (fun f => (P.info? f.type).map fun i => (f.offset, i.size)) = some pl → ∀ (k : Nat) (p : Nat × Nat), pl[k]? = some p → ∃ (fd : Field) (i : TypeInfo), l[k]? = some fd ∧ P.info? fd.type = some i ∧ p = (fd.offset, i.size) := by
  intro l
  induction l with
  | nil => intro pl hm k p hp; simp at hm; subst hm; simp at hp
  | cons fd l ih =>
    intro pl hm k p hp
    simp only [List.mapM_cons, Option.bind_eq_bind, Option.pure_def] at hm
    cases hi : P.info? fd.type with
    | none => simp [hi] at hm
    | some i =>
      cases hr : l.mapM (fun f => (P.info? f.type).map fun i => (f.offset, i.size)) with
      | none => simp [hi, hr] at hm
      | some rest =>
        simp [hi, hr] at hm
        subst hm
        cases k with
        | zero => simp at hp; exact ⟨fd, i, by simp, hi, hp.symm⟩
        | succ k => simp at hp; obtain ⟨a1, a2, a3, a4, a5⟩ := ih rest hr k p hp; exact ⟨a1, a2, by simpa using a3, a4, a5⟩

theorem op_move [LG] {E : Env} (hE : EnvT E) {o : Oper} {nm : Nat} {θ : Th} {h : Hp} {w : World} {a : Act} {T : Tm} {v : Value} (hr : HR θ h w) (ht : TO θ T a o) {x : Operand} (ho : o.op = .move x) (hv : opv T x = some v) : OpOk E.P o nm θ h w a v h :=
  opOk_same hr (u := a.eval x) (by simp [execOp, ho]) (ht _ (by simp [ho, Op.operands]) _ hv)

theorem op_assign [LG] {E : Env} (hE : EnvT E) {o : Oper} {nm : Nat} {θ : Th} {h : Hp} {w : World} {a : Act} {T : Tm} {v : Value} (hr : HR θ h w) (ht : TO θ T a o) {x : Operand} (ho : o.op = .assign x) (hv : opv T x = some v) : OpOk E.P o nm θ h w a v h :=
  opOk_same hr (u := a.eval x) (by simp [execOp, ho]) (ht _ (by simp [ho, Op.operands]) _ hv)

theorem op_pick [LG] {E : Env} (hE : EnvT E) {o : Oper} {nm : Nat} {θ : Th} {h : Hp} {w : World} {a : Act} {T : Tm} {v : Value} (hr : HR θ h w) (ht : TO θ T a o) {c x y : Operand} {b : Bool} (ho : o.op = .pick c x y) (hc : opv T c = some (.bool b)) (hv : opv T (if b then x else y) = some v) : OpOk E.P o nm θ h w a v h := by
  have h1 : a.eval c = .bool b := ht _ (by simp [ho, Op.operands]) _ hc
  refine opOk_same hr (u := a.eval (if b then x else y)) ?_ (ht _ (by cases b <;> simp [ho, Op.operands]) _ hv)
  cases b <;> simp [execOp, ho, h1, asBool]

theorem op_plain [LG] {E : Env} (hE : EnvT E) {o : Oper} {nm : Nat} {θ : Th} {h h' : Hp} {w : World} {a : Act} {T : Tm} {v : Value} (hr : HR θ h w) (ht : TO θ T a o) (hs : ∀ cs b, o.op ≠ .select cs b) (hx : xplain E o (opv T) h = some (v, h')) : OpOk E.P o nm θ h w a v h' := by
  unfold xplain at hx
  split at hx
  · cases hx
  · rename_i vs hvs
    cases hp : allPlainA vs <;> simp [hp] at hx
    have h1 := opvs_O (fun y hy => ht y hy) hvs
    have h2 := allPlainA_eq hp h1
    have h3 := opvs_rho hvs
    have hcong : execOp a.eval o = execOp (rho (opv T)) o := by
      refine execOp_congr o hs fun x hx => ?_
      have h4 : o.op.operands.toList.map a.eval = o.op.operands.toList.map (rho (opv T)) := by rw [h2, h3]
      exact List.map_inj_left.1 h4 x (by simpa using hx)
    split at hx
    · rename_i u hu
      cases hq : isPlain u <;> simp [hq] at hx
      obtain ⟨rfl, rfl⟩ := hx
      exact opOk_same hr (u := u) (by rw [hcong]; exact srun_sound hu w) (W_of_S (S_plain hq))
    · cases hx

theorem op_alloc [LG] {E : Env} (hE : EnvT E) {o : Oper} {nm : Nat} {θ : Th} {h : Hp} {w : World} {a : Act} {T : Tm} (hr : HR θ h w) (ht : TO θ T a o) {t : TypeId} {ti : TI} (hnm : θ nm = none) (ho : o.op = .alloc t) (hti : tget E.tt t = some ti) : OpOk E.P o nm θ h w a (newPtr nm) (halloc h nm (mkEnt ti.zero 0)) := by
  obtain ⟨i, d, z, fl, h1, h2, h3, h4, h5, rfl⟩ := ti_spec (hE _ _ hti)
  obtain ⟨g1, g2⟩ := alloc_sound hr hnm [] (plain_all2 h5) t 0 0 (fun e => absurd rfl e)
  simp only [List.append_nil] at g1 g2
  refine ⟨_, _, .pointer (some ⟨w.heap.size, 0, none⟩), _, ?_, .inl rfl, g2, g1, ?_⟩
  · simp [execOp, ho, Instr.alloc, run_zeroValue h1 h3, newVar, newRow]
  · exact ⟨rfl, (w.heap.size, 0, 0), by simp, rfl⟩

theorem op_box [LG] {E : Env} (hE : EnvT E) {o : Oper} {nm : Nat} {θ : Th} {h : Hp} {w : World} {a : Act} {T : Tm} (hr : HR θ h w) (ht : TO θ T a o) {t : TypeId} {x : Operand} {u : Value} {cs : List Value} (hnm : θ nm = none) (ho : o.op = .box t x) (hx : opv T x = some u) (hc : cellsA u = some cs) : OpOk E.P o nm θ h w a (newPtr nm) (halloc h nm (mkEnt cs 0)) := by
  obtain ⟨ds, h1, h2⟩ := W_cells hc (ht _ (by simp [ho, Op.operands]) _ hx)
  obtain ⟨g1, g2⟩ := alloc_sound hr hnm [] h2 t 0 0 (fun e => absurd rfl e)
  simp only [List.append_nil] at g1 g2
  refine ⟨_, _, .pointer (some ⟨w.heap.size, 0, none⟩), _, ?_, .inl rfl, g2, g1, ?_⟩
  · simp [execOp, ho, Instr.box, newVar, newRow, h1]
  · exact ⟨rfl, (w.heap.size, 0, 0), by simp, rfl⟩

theorem op_load [LG] {E : Env} (hE : EnvT E) {o : Oper} {nm : Nat} {θ : Th} {h h' : Hp} {w : World} {a : Act} {T : Tm} {v : Value} (hr : HR θ h w) (ht : TO θ T a o) {t : TypeId} {x : Operand} {ad : Addr} {ti : TI} (ho : o.op = .load t x) (hx : opv T x = some (.pointer (some ad))) (hti : tget E.tt t = some ti)
    (hv : (bif ti.agg then ob (hload h ad ti.size) fun cs => some (Value.agg cs.toArray, h) else match hload h ad 1 with | some [v] => some (v, h) | _ => none) = some (v, h')) : OpOk E.P o nm θ h w a v h' := by
  obtain ⟨i, d, z, fl, h1, h2, h3, h4, h5, rfl⟩ := ti_spec (hE _ _ hti)
  obtain ⟨hs, x', hx', hev⟩ : ad.spot = none ∧ ∃ x', θ ad.block = some x' ∧ a.eval x = .pointer (some ⟨x'.1, x'.2.1 + ad.off, none⟩) := ht _ (by simp [ho, Op.operands]) _ hx
  simp only at hv
  cases hg : aggB d
  · simp only [hg, cond_false] at hv
    split at hv
    · rename_i u hl
      cases hv
      obtain ⟨ds, k1, k2, k3, k4⟩ := load_sound (P := E.P) hr hl hx'
      match ds, k4 with
      | [y], _ =>
        refine opOk_same hr (u := y) ?_ (W_of_S k2.1)
        have := k3 0 y (by simp)
        simp only [Nat.add_zero] at this
        simp [execOp, ho, Instr.loadAt, hev, Instr.sureAddr, loadVar, run_isAgg h2, hg, this]
    · cases hv
  · simp only [hg, cond_true] at hv
    obtain ⟨cs, hl, hc⟩ := ob_some hv
    cases hc
    obtain ⟨ds, k1, k2, k3, k4⟩ := load_sound (P := E.P) hr hl hx'
    refine opOk_same hr (u := .agg ds.toArray) ?_ ⟨ds, rfl, by simpa using k2⟩
    simp [execOp, ho, Instr.loadAt, hev, Instr.sureAddr, loadVar, run_isAgg h2, hg, run_sizeOf h1, k1]

theorem op_store [LG] {E : Env} (hE : EnvT E) {o : Oper} {nm : Nat} {θ : Th} {h h' : Hp} {w : World} {a : Act} {T : Tm} (hr : HR θ h w) (ht : TO θ T a o) {t : TypeId} {x y : Operand} {ad : Addr} {u : Value} {cs : List Value} {ti : TI} (ho : o.op = .store t x y) (hx : opv T x = some (.pointer (some ad))) (hy : opv T y = some u) (hti : tget E.tt t = some ti)
    (hc : cellsA u = some cs) (hl : cs.length = ti.size) (hst : hstore h ad cs = some h') : OpOk E.P o nm θ h w a undefV h' := by
  obtain ⟨i, d, z, fl, h1, h2, h3, h4, h5, rfl⟩ := ti_spec (hE _ _ hti)
  obtain ⟨hs, x', hx', hev⟩ : ad.spot = none ∧ ∃ x', θ ad.block = some x' ∧ a.eval x = .pointer (some ⟨x'.1, x'.2.1 + ad.off, none⟩) := ht _ (by simp [ho, Op.operands]) _ hx
  obtain ⟨ds, k1, k2⟩ := W_cells hc (ht _ (by simp [ho, Op.operands]) _ hy)
  obtain ⟨g1, g2, g3⟩ := store_sound (P := E.P) hr hst hx' k2
  refine ⟨θ, _, undef, .skip, ?_, .inr ⟨rfl, rfl⟩, g3 nm, g2, ⟨[], rfl, trivial⟩⟩
  have hlen : ds.length = i.size := by rw [← all2_len k2]; exact hl
  simp [execOp, ho, Instr.storeAt, hev, Instr.sureAddr, storeVar, run_sizeOf h1, k1, hlen, g1]

theorem op_nilCheck_ptr [LG] {E : Env} (hE : EnvT E) {o : Oper} {nm : Nat} {θ : Th} {h : Hp} {w : World} {a : Act} {T : Tm} (hr : HR θ h w) (ht : TO θ T a o) {x : Operand} {ad : Addr} (ho : o.op = .nilCheck x) (hx : opv T x = some (.pointer (some ad))) : OpOk E.P o nm θ h w a (.pointer (some ad)) h := by
  have hw := ht _ (by simp [ho, Op.operands]) _ hx
  obtain ⟨hs, x', hx', hev⟩ : ad.spot = none ∧ ∃ x', θ ad.block = some x' ∧ a.eval x = .pointer (some ⟨x'.1, x'.2.1 + ad.off, none⟩) := ht _ (by simp [ho, Op.operands]) _ hx
  exact opOk_same hr (u := a.eval x) (by simp [execOp, ho, hev]) hw

theorem op_nilCheck_func [LG] {E : Env} (hE : EnvT E) {o : Oper} {nm : Nat} {θ : Th} {h : Hp} {w : World} {a : Act} {T : Tm} (hr : HR θ h w) (ht : TO θ T a o) {x : Operand} {g : FuncId} {f c : Array Value} (ho : o.op = .nilCheck x) (hx : opv T x = some (.func (.func g) f c)) : OpOk E.P o nm θ h w a (.func (.func g) f c) h := by
  have hw := ht _ (by simp [ho, Op.operands]) _ hx
  obtain ⟨a1, b1, hev, _, _⟩ : ∃ a' b' : List Value, a.eval x = .func (.func g) a'.toArray b'.toArray ∧ all2 (V0 θ) f.toList a' ∧ all2 (V0 θ) c.toList b' := ht _ (by simp [ho, Op.operands]) _ hx
  exact opOk_same hr (u := a.eval x) (by simp [execOp, ho, hev]) hw

theorem op_extract [LG] {E : Env} (hE : EnvT E) {o : Oper} {nm : Nat} {θ : Th} {h : Hp} {w : World} {a : Act} {T : Tm} {v : Value} (hr : HR θ h w) (ht : TO θ T a o) {x : Operand} {i : Nat} {vs : Array Value} (ho : o.op = .extract x i) (hx : opv T x = some (.tuple vs)) (hv : vs.toList[i]? = some v) : OpOk E.P o nm θ h w a v h := by
  obtain ⟨us, h1, h2⟩ : ∃ us : List Value, a.eval x = .tuple us.toArray ∧ all2 (V θ) vs.toList us := ht _ (by simp [ho, Op.operands]) _ hx
  obtain ⟨u, h3, h4⟩ := all2_get h2 i v hv
  refine opOk_same hr (u := u) ?_ (W_of_V h4)
  simp [execOp, ho, h1, Instr.extract, h3]

theorem op_field [LG] {E : Env} (hE : EnvT E) {o : Oper} {nm : Nat} {θ : Th} {h : Hp} {w : World} {a : Act} {T : Tm} {v : Value} (hr : HR θ h w) (ht : TO θ T a o) {t : TypeId} {x : Operand} {f : Nat} {cs : Array Value} (ho : o.op = .field t x f) (hx : opv T x = some (.agg cs)) (hv : fldA E t cs.toList f = some v) : OpOk E.P o nm θ h w a v h := by
  obtain ⟨ds, h1, h2⟩ : ∃ ds : List Value, a.eval x = .agg ds.toArray ∧ all2 (S θ) cs.toList ds := ht _ (by simp [ho, Op.operands]) _ hx
  unfold fldA at hv
  split at hv
  · rename_i fs hfs
    split at hv
    · rename_i fl hfl
      obtain ⟨ti, k1, k2⟩ := ob_some hv
      obtain ⟨i, d, z, fl', g1, g2, g3, g4, g5, rfl⟩ := ti_spec (hE _ _ k1)
      simp only [partA] at k2
      cases hg : aggB d
      · simp only [hg, cond_false] at k2
        obtain ⟨u, q1, q2⟩ := all2_get h2 _ _ k2
        refine opOk_same hr (u := u) ?_ (W_of_S q2)
        simp [execOp, ho, Instr.field, run_underlying hfs, hfl, h1, asAgg, part, run_isAgg g2, hg, q1]
      · simp only [hg, cond_true, Option.some.injEq] at k2
        subst k2
        refine opOk_same hr (u := .agg ((ds.drop fl.offset).take i.size).toArray) ?_ ⟨_, rfl, by simpa using all2_take i.size (all2_drop fl.offset h2)⟩
        have e : ds.toArray.extract fl.offset (fl.offset + i.size) = ((ds.drop fl.offset).take i.size).toArray := by
          apply Array.toList_inj.1
          simp [List.extract_eq_take_drop]
        simp [execOp, ho, Instr.field, run_underlying hfs, hfl, h1, asAgg, part, run_isAgg g2, hg, run_sizeOf g1, e, -List.extract_toArray]
    · cases hv
  · cases hv

theorem op_fieldAddr [LG] {E : Env} (hE : EnvT E) {o : Oper} {nm : Nat} {θ : Th} {h : Hp} {w : World} {a : Act} {T : Tm} (hr : HR θ h w) (ht : TO θ T a o) {s : TypeId} {x : Operand} {f : Nat} {ad : Addr} {ti : TI} {fl : Nat × Nat} (ho : o.op = .fieldAddr s x f) (hx : opv T x = some (.pointer (some ad))) (hti : tget E.tt s = some ti) (hf : ti.flds[f]? = some fl)
    (hk : ti.kind = 3) (hz : fl.2 ≠ 0) : OpOk E.P o nm θ h w a (.pointer (some ⟨ad.block, ad.off + fl.1, none⟩)) h := by
  obtain ⟨i, d, z, fs, h1, h2, h3, h4, h5, rfl⟩ := ti_spec (hE _ _ hti)
  obtain ⟨hs, x', hx', hev⟩ : ad.spot = none ∧ ∃ x', θ ad.block = some x' ∧ a.eval x = .pointer (some ⟨x'.1, x'.2.1 + ad.off, none⟩) := ht _ (by simp [ho, Op.operands]) _ hx
  obtain ⟨fields, rfl⟩ := kind_struct hk
  simp only [fldsOf] at h4
  obtain ⟨fd, i', e1, e2, rfl⟩ := mapM_fields _ _ h4 f fl hf
  have e1' : fields[f]? = some fd := by simpa using e1
  refine opOk_same hr (u := .pointer (some ⟨x'.1, x'.2.1 + (ad.off + fd.offset), none⟩)) ?_ ⟨rfl, x', hx', rfl⟩
  simp only at hz
  simp [execOp, ho, Instr.fieldAt, run_underlying h2, e1', hev, Instr.sureAddr, fieldPlace, run_sizeOf e2, hz, add_addr, Nat.add_assoc]

theorem op_indexAddr_slice [LG] {E : Env} (hE : EnvT E) {o : Oper} {nm : Nat} {θ : Th} {h : Hp} {w : World} {a : Act} {T : Tm} (hr : HR θ h w) (ht : TO θ T a o) {t : TypeId} {x ix : Operand} {ad : Addr} {len cap : Nat} {k : IntKind} {i : Int} {ti ei : TI} (ho : o.op = .indexAddr t x ix) (hx : opv T x = some (.slice (some ad) len cap)) (hi : opv T ix = some (.int k i))
    (hti : tget E.tt t = some ti) (hei : tget E.tt ti.elem = some ei) (hk : ti.kind = 1) (h0 : 0 ≤ i) (h1 : i < len) : OpOk E.P o nm θ h w a (.pointer (some ⟨ad.block, ad.off + i.toNat * ei.size, none⟩)) h := by
  obtain ⟨i1, d, z, fs, k1, k2, k3, k4, k5, rfl⟩ := ti_spec (hE _ _ hti)
  obtain ⟨i2, d2, z2, fs2, m1, m2, m3, m4, m5, rfl⟩ := ti_spec (hE _ _ hei)
  simp only at hk hei m1 m2
  have hd := kind_slice hk
  rw [hd] at k2
  have hix : a.eval ix = .int k i := ht _ (by simp [ho, Op.operands]) _ hi
  have hw0 : SlR θ ad len cap (a.eval x) := ht _ (by simp [ho, Op.operands]) _ hx
  obtain ⟨hs, x', c', hx', hc, hev⟩ : ad.spot = none ∧ ∃ x' c', θ ad.block = some x' ∧ capR x'.2.2 cap c' ∧ a.eval x = .slice (some ⟨x'.1, x'.2.1 + ad.off, none⟩) len c' := hw0.resolve_right fun q => by have := q.2.1; omega
  refine opOk_same hr (u := .pointer (some ⟨x'.1, x'.2.1 + (ad.off + i.toNat * i2.size), none⟩)) ?_ ⟨rfl, x', hx', rfl⟩
  simp [execOp, ho, Instr.indexAt, hix, asIntOf, run_underlying k2, hev, h0, h1, run_sizeOf m1, add_addr, Nat.add_assoc]

theorem op_indexAddr_array [LG] {E : Env} (hE : EnvT E) {o : Oper} {nm : Nat} {θ : Th} {h : Hp} {w : World} {a : Act} {T : Tm} (hr : HR θ h w) (ht : TO θ T a o) {t : TypeId} {x ix : Operand} {ad : Addr} {k : IntKind} {i : Int} {ti ei : TI} (ho : o.op = .indexAddr t x ix) (hx : opv T x = some (.pointer (some ad))) (hi : opv T ix = some (.int k i))
    (hti : tget E.tt t = some ti) (hei : tget E.tt ti.elem = some ei) (hk : ti.kind = 2) (h0 : 0 ≤ i) (h1 : i < ti.alen) : OpOk E.P o nm θ h w a (.pointer (some ⟨ad.block, ad.off + i.toNat * ei.size, none⟩)) h := by
  obtain ⟨i1, d, z, fs, k1, k2, k3, k4, k5, rfl⟩ := ti_spec (hE _ _ hti)
  obtain ⟨i2, d2, z2, fs2, m1, m2, m3, m4, m5, rfl⟩ := ti_spec (hE _ _ hei)
  simp only at hk hei m1 m2 h1
  have hd := kind_array hk
  rw [hd] at k2
  have hix : a.eval ix = .int k i := ht _ (by simp [ho, Op.operands]) _ hi
  obtain ⟨hs, x', hx', hev⟩ : ad.spot = none ∧ ∃ x', θ ad.block = some x' ∧ a.eval x = .pointer (some ⟨x'.1, x'.2.1 + ad.off, none⟩) := ht _ (by simp [ho, Op.operands]) _ hx
  refine opOk_same hr (u := .pointer (some ⟨x'.1, x'.2.1 + (ad.off + i.toNat * i2.size), none⟩)) ?_ ⟨rfl, x', hx', rfl⟩
  simp [execOp, ho, Instr.indexAt, hix, asIntOf, run_underlying k2, hev, h0, h1, run_sizeOf m1, add_addr, Nat.add_assoc, Instr.sureAddr]

end Go.Ev
