/- All operations. -/
import Derived.Test.YtnkadclkaclppaaEvOps7
set_option linter.unusedVariables false
set_option linter.unusedSimpArgs false
namespace Go.Ev
open Go.Deep Go.RowKit

theorem kind_u8 {d : TypeDesc} (h : (kindOf d).1 = 6) : d = .int .u8 := by
  cases d <;> simp [kindOf] at h ⊢
  case int k => cases k <;> simp [kindOf] at h ⊢

theorem fold_bytes : ∀ (ns : List Int) (acc : List UInt8), ns.foldl (fun r n => r.push (UInt8.ofNat n.toNat)) (⟨acc.toArray⟩ : ByteArray) = ⟨(acc ++ ns.map fun n => UInt8.ofNat n.toNat).toArray⟩
  | [], acc => by simp
  | n :: ns, acc => by
    have : (⟨acc.toArray⟩ : ByteArray).push (UInt8.ofNat n.toNat) = ⟨(acc ++ [UInt8.ofNat n.toNat]).toArray⟩ := by simp [ByteArray.push]
    rw [List.foldl_cons, this, fold_bytes ns]
    simp [List.append_assoc]

theorem bytes_ints : ∀ {cs : List Value} {bs : List UInt8}, xop.bytesOfCells cs = some bs → ∃ ns : List Int, cs = ns.map (Value.int .u8) ∧ bs = ns.map fun n => UInt8.ofNat n.toNat
  | [], bs, h => by simp only [xop.bytesOfCells, Option.some.injEq] at h; subst h; exact ⟨[], rfl, rfl⟩
  | v :: l, bs, h => by
    unfold xop.bytesOfCells at h
    split at h
    · rename_i heq; cases heq
    · rename_i n l' heq
      cases heq
      split at h
      · rename_i r hr
        cases h
        obtain ⟨ns, e1, e2⟩ := bytes_ints hr
        exact ⟨n :: ns, by simp [e1], by simp [e2]⟩
      · cases h
    · cases h

theorem plain_ints (ns : List Int) : allPlain (ns.map (Value.int .u8)) = true := by
  induction ns with
  | nil => rfl
  | cons n ns ih => simp [allPlain, isPlain, ih]

theorem allS_eq {θ : Th} : ∀ {vs us : List Value}, allPlain vs = true → all2 (S θ) vs us → us = vs
  | [], [], _, _ => rfl
  | v :: vs, u :: us, hp, h => by
    simp only [allPlain, Bool.and_eq_true] at hp
    rw [W_plain hp.1 (W_of_S h.1), allS_eq hp.2 h.2]
  | [], _ :: _, _, h => h.elim
  | _ :: _, [], _, h => h.elim

theorem op_bytes {E : Env} (hE : EnvT E) {o : Oper} {nm : Nat} {θ : Th} {h : Hp} {w : World} {a : Act} {T : Tm} (hr : HR θ h w) (ht : TO θ T a o) {src dst : TypeId} {x : Operand} {sa : Option Addr} {len cap : Nat} {ti si ei : TI} {cs : List Value} {bs : List UInt8}
    (ho : o.op = .convert src dst x) (hx : opv T x = some (.slice sa len cap)) (hti : tget E.tt dst = some ti) (hsi : tget E.tt src = some si) (hei : tget E.tt si.elem = some ei) (hk : ti.kind = 4) (hk1 : si.kind = 1) (hk2 : ei.kind = 6)
    (hc : oldCells h 1 sa len = some cs) (hb : xop.bytesOfCells cs = some bs) : OpOk E.P o nm θ h w a (.string ⟨bs.toArray⟩) h := by
  obtain ⟨i, d, z, fl, g1, g2, g3, g4, g5, rfl⟩ := ti_spec (hE _ _ hti)
  obtain ⟨i2, d2, z2, fs2, m1, m2, m3, m4, m5, rfl⟩ := ti_spec (hE _ _ hsi)
  simp only at hk hk1 hei
  obtain ⟨i3, d3, z3, fs3, p1, p2, p3, p4, p5, rfl⟩ := ti_spec (hE _ _ hei)
  simp only at hk2
  rw [kind_string hk] at g2
  rw [kind_slice hk1] at m2
  rw [kind_u8 hk2] at p2
  obtain ⟨b, c, ds, hy, k2, k4, hfirst⟩ := first_sound (P := E.P) hr (ht _ (by simp [ho, Op.operands]) _ hx) hc
  obtain ⟨ns, e1, e2⟩ := bytes_ints hb
  subst e1; subst e2
  have hds := allS_eq (plain_ints ns) k2
  subst hds
  refine opOk_same hr (u := .string ⟨(ns.map fun n : Int => UInt8.ofNat n.toNat).toArray⟩) ?_ rfl
  have hf := hfirst w.drawn
  have hconv := run_convert_bytes_string (P := E.P) w src dst _ b len c m2 p2 g2
  cases b with
  | none =>
    simp at k4
    have hn : ns = [] := by
      simp [Builtin.firstCells] at hf
      exact hf
    subst hn
    simp [execOp, ho, hy, hconv, Conv.bytesToString]
    rfl
  | some ad =>
    simp only [Builtin.firstCells, Nat.mul_one] at hf
    have hbs := run_bytesToString (P := E.P) w ad len c ns hf
    have hfold := fold_bytes ns []
    simp only [List.nil_append] at hfold
    have hemp : (ByteArray.empty) = (⟨([] : List UInt8).toArray⟩ : ByteArray) := rfl
    rw [hemp, hfold] at hbs
    simp [execOp, ho, hy, hconv, hbs]

/-- What a call does. -/
def CallAt (P : Program) (call : Nat → List Value → Hp → Option (Value × Hp)) (nm : Nat) (h : Hp) : Prop :=
  ∀ g args r h', call g args h = some (r, h') → ∀ θ w cargs, HR θ h w → all2 (W θ) args cargs →
    ((callFunc g cargs.toArray).run P w = .ok (.enter g cargs.toArray) w ∧ Calls P g cargs.toArray w (fun e w' => ∃ θ' u, e = .returned u ∧ Ext nm θ h w θ' h' w' ∧ HR θ' h' w' ∧ W θ' r u)) ∨
    (∃ u, (callFunc g cargs.toArray).run P w = .ok (.value u) w ∧ W θ r u ∧ h' = h)

theorem op_call {E : Env} (hE : EnvT E) {o : Oper} {nm : Nat} {θ : Th} {h h' : Hp} {w : World} {a : Act} {T : Tm} {v : Value} (hr : HR θ h w) (ht : TO θ T a o) {call : Nat → List Value → Hp → Option (Value × Hp)} (hcall : CallAt E.P call nm h) {c : Call} {f : Operand} {g : Nat} {first cap : Array Value} {vs : List Value}
    (ho : o.op = .call c) (hc : c.callee = .value f) (hf : opv T f = some (.func (.func g) first cap)) (hv : opvs T c.args.toList = some vs) (hx : call g (first.toList ++ vs ++ cap.toList) h = some (v, h')) : OpWp E.P o nm θ h w a v h' := by
  obtain ⟨e1, e2, e3⟩ : first.toList = [] ∧ cap.toList = [] ∧ a.eval f = .func (.func g) #[] #[] := ht _ (by simp [ho, Op.operands, Call.operands, hc]) _ hf
  rw [e1, e2] at hx
  simp only [List.nil_append, List.append_nil] at hx
  have hw := opvs_O (fun y hy => ht y (by simp [ho, Op.operands, Call.operands]; exact .inr (by simpa using hy))) hv
  have harr : c.args.map a.eval = (c.args.toList.map a.eval).toArray := by apply Array.ext'; simp
  have hrun : (execOp a.eval o).run E.P w = (callFunc g (c.args.toList.map a.eval).toArray).run E.P w := by
    simp only [execOp, ho, resolve, hc, e3, Deferred.ofValue, harr, Sem.run_bind, Sem.run_pure, Result.andThen_ok, invoke]
    simp
  rcases hcall g vs v h' hx θ w _ hr hw with ⟨k1, k2⟩ | ⟨u, k1, k2, rfl⟩
  · intro K Q hK
    unfold Oper.wp
    rw [hrun, k1]
    refine k2.mono fun e w' he => ?_
    obtain ⟨θ', u, rfl, q1, q2, q3⟩ := he
    exact hK θ' w' u q1 q2 q3
  · exact OpOk.wp (opOk_same hr (hrun.trans k1) k2)

/-- An operation of named memory is that operation of the world. -/
theorem xop_sound {E : Env} (hE : EnvT E) {o : Oper} {nm : Nat} {θ : Th} {h h' : Hp} {w : World} {a : Act} {T : Tm} {v : Value} (hr : HR θ h w) (ht : TO θ T a o) {call : Nat → List Value → Hp → Option (Value × Hp)} (hcall : CallAt E.P call nm h) (hnm : θ nm = none)
    (hx : xop E call nm o T h = some (v, h')) : OpWp E.P o nm θ h w a v h' := by
  unfold xop at hx
  split at hx
  · rename_i x ho
    obtain ⟨u, k1, k2⟩ := ob_some hx
    cases k2
    exact (op_move hE hr ht ho k1).wp
  · rename_i x ho
    obtain ⟨u, k1, k2⟩ := ob_some hx
    cases k2
    exact (op_assign hE hr ht ho k1).wp
  · rename_i c x y ho
    split at hx
    · rename_i hc
      obtain ⟨u, k1, k2⟩ := ob_some hx
      cases k2
      exact (op_pick hE hr ht ho hc (by simpa using k1)).wp
    · rename_i hc
      obtain ⟨u, k1, k2⟩ := ob_some hx
      cases k2
      exact (op_pick hE hr ht ho hc (by simpa using k1)).wp
    · cases hx
  · rename_i t ho
    obtain ⟨ti, k1, k2⟩ := ob_some hx
    cases k2
    exact (op_alloc hE hr ht hnm ho k1).wp
  · rename_i t x ho
    obtain ⟨u, k1, k2⟩ := ob_some hx
    obtain ⟨cs, k3, k4⟩ := ob_some k2
    cases k4
    exact (op_box hE hr ht hnm ho k1 k3).wp
  · rename_i t parts ho
    obtain ⟨ti, k1, k2⟩ := ob_some hx
    cases hk : Nat.beq ti.kind 3 <;> simp only [hk, cond_true, cond_false] at k2
    · cases hk2 : Nat.beq ti.kind 2 <;> simp only [hk2, cond_true, cond_false, reduceCtorEq] at k2
      obtain ⟨ei, k3, k4⟩ := ob_some k2
      obtain ⟨ps, k5, k6⟩ := ob_some k4
      obtain ⟨cs, k7, k8⟩ := ob_some k6
      cases k8
      exact (op_build_array hE hr ht ho k1 (Nat.eq_of_beq_eq_true hk2) k3 k5 k7).wp
    · obtain ⟨ps, k5, k6⟩ := ob_some k2
      obtain ⟨cs, k7, k8⟩ := ob_some k6
      cases k8
      exact (op_build_struct hE hr ht ho k1 (Nat.eq_of_beq_eq_true hk) k5 k7).wp
  · rename_i t len parts ho
    obtain ⟨ti, k1, k2⟩ := ob_some hx
    obtain ⟨ei, k3, k4⟩ := ob_some k2
    cases hq : (Nat.beq ti.kind 1 && Nat.ble (len * ei.size) 16777216 && Nat.ble len 16777216 && Nat.beq ei.zero.length ei.size) <;> simp only [hq, cond_true, cond_false, reduceCtorEq] at k4
    simp only [Bool.and_eq_true] at hq
    obtain ⟨ps, k5, k6⟩ := ob_some k4
    obtain ⟨cs, k7, k8⟩ := ob_some k6
    cases k8
    exact (op_buildSlice hE hr ht hnm ho k1 (Nat.eq_of_beq_eq_true hq.1.1.1) k3 (Nat.le_of_ble_eq_true hq.1.1.2) (Nat.le_of_ble_eq_true hq.1.2) (Nat.eq_of_beq_eq_true hq.2) k5 k7).wp
  · rename_i t x ho
    split at hx
    · rename_i ad hop
      obtain ⟨ti, k1, k2⟩ := ob_some hx
      exact (op_load hE hr ht ho hop k1 k2).wp
    · cases hx
  · rename_i t x y ho
    split at hx
    · rename_i ad u hop1 hop2
      obtain ⟨ti, k1, k2⟩ := ob_some hx
      obtain ⟨cs, k3, k4⟩ := ob_some k2
      cases hl : Nat.beq cs.length ti.size <;> simp only [hl, cond_true, cond_false, reduceCtorEq] at k4
      obtain ⟨h2, k5, k6⟩ := ob_some k4
      cases k6
      exact (op_store hE hr ht ho hop1 hop2 k1 k3 (Nat.eq_of_beq_eq_true hl) k5).wp
    · cases hx
  · rename_i x ho
    split at hx
    · rename_i ad hop
      cases hx
      exact (op_nilCheck_ptr hE hr ht ho hop).wp
    · rename_i g f1 f2 hop
      cases hx
      exact (op_nilCheck_func hE hr ht ho hop).wp
    · cases hx
  · rename_i op t x y t2 ho
    split at hx
    · rename_i p q hp hq
      cases hb : (isPlain p && isPlain q) <;> simp only [hb, cond_true, cond_false] at hx
      · obtain ⟨ti, k1, k2⟩ := ob_some hx
        cases hk : nilKind ti.kind p <;> simp only [hk, cond_true, cond_false, reduceCtorEq] at k2
        cases op <;> simp only [reduceCtorEq] at k2
        case eql =>
          obtain ⟨r, k3, k4⟩ := ob_some k2
          cases k4
          exact (op_nilEq hE hr ht ho hp hq k1 hk k3 (.inl rfl)).wp
        case neq =>
          obtain ⟨r, k3, k4⟩ := ob_some k2
          cases k4
          exact (op_nilEq hE hr ht ho hp hq k1 hk k3 (.inr rfl)).wp
      · exact (op_plain hE hr ht (by rw [ho]; intro _ _ e; cases e) hx).wp
    · cases hx
  · rename_i ho
    exact (op_plain hE hr ht (by rw [ho]; intro _ _ e; cases e) hx).wp
  · rename_i src dst x ho
    split at hx
    · rename_i sa len cap hop
      obtain ⟨ti, k1, k2⟩ := ob_some hx
      obtain ⟨si, k3, k4⟩ := ob_some k2
      obtain ⟨ei, k5, k6⟩ := ob_some k4
      cases hq : (Nat.beq ti.kind 4 && Nat.beq si.kind 1 && Nat.beq ei.kind 6) <;> simp only [hq, cond_true, cond_false, reduceCtorEq] at k6
      simp only [Bool.and_eq_true] at hq
      obtain ⟨cs, k7, k8⟩ := ob_some k6
      obtain ⟨bs, k9, k10⟩ := ob_some k8
      cases k10
      exact (op_bytes hE hr ht ho hop k1 k3 k5 (Nat.eq_of_beq_eq_true hq.1.1) (Nat.eq_of_beq_eq_true hq.1.2) (Nat.eq_of_beq_eq_true hq.2) k7 k9).wp
    · exact (op_plain hE hr ht (by rw [ho]; intro _ _ e; cases e) hx).wp
    · cases hx
  · rename_i t l c ho
    split at hx
    · rename_i k1 n k2 k hl hc
      obtain ⟨ti, j1, j2⟩ := ob_some hx
      obtain ⟨ei, j3, j4⟩ := ob_some j2
      cases hq : (Nat.beq ti.kind 1 && decide (0 ≤ n) && decide (n ≤ k) && decide (k ≤ 1000000) && Nat.ble ei.bytes 1000000 && Nat.beq ei.zero.length ei.size) <;> simp only [hq, cond_true, cond_false, reduceCtorEq] at j4
      simp only [Bool.and_eq_true, decide_eq_true_eq] at hq
      cases j4
      exact (op_makeSlice hE hr ht hnm ho hl hc j1 j3 (Nat.eq_of_beq_eq_true hq.1.1.1.1.1) hq.1.1.1.1.2 hq.1.1.1.2 hq.1.1.2 (Nat.le_of_ble_eq_true hq.1.2) (Nat.eq_of_beq_eq_true hq.2)).wp
    · cases hx
  · rename_i t x lo hi mx ho
    split at hx
    · rename_i sa len cap hop
      obtain ⟨ti, k1, k2⟩ := ob_some hx
      obtain ⟨ei, k3, k4⟩ := ob_some k2
      cases hk : Nat.beq ti.kind 1 <;> simp only [hk, cond_true, cond_false, reduceCtorEq] at k4
      split at k4
      · rename_i lov hiv mxv j1 j2 j3
        obtain ⟨u, k5, k6⟩ := ob_some k4
        cases k6
        exact (op_slice hE hr ht ho hop k1 k3 (Nat.eq_of_beq_eq_true hk) j1 j2 j3 k5).wp
      · cases k4
    · exact (op_plain hE hr ht (by rw [ho]; intro _ _ e; cases e) hx).wp
    · cases hx
  · rename_i s x f ho
    split at hx
    · rename_i ad hop
      obtain ⟨ti, k1, k2⟩ := ob_some hx
      obtain ⟨fl, k3, k4⟩ := ob_some k2
      cases hq : (Nat.beq ti.kind 3 && !(Nat.beq fl.2 0) && ad.spot.isNone) <;> simp only [hq, cond_true, cond_false, reduceCtorEq] at k4
      simp only [Bool.and_eq_true, Bool.not_eq_true'] at hq
      cases k4
      exact (op_fieldAddr hE hr ht ho hop k1 k3 (Nat.eq_of_beq_eq_true hq.1.1) (fun e => by have := hq.1.2; rw [e] at this; cases this)).wp
    · cases hx
  · rename_i t x ix ho
    split at hx
    · rename_i ad len cap k i hop1 hop2
      obtain ⟨ti, k1, k2⟩ := ob_some hx
      obtain ⟨ei, k3, k4⟩ := ob_some k2
      cases hq : (Nat.beq ti.kind 1 && decide (0 ≤ i) && decide (i < len) && ad.spot.isNone) <;> simp only [hq, cond_true, cond_false, reduceCtorEq] at k4
      simp only [Bool.and_eq_true, decide_eq_true_eq] at hq
      cases k4
      exact (op_indexAddr_slice hE hr ht ho hop1 hop2 k1 k3 (Nat.eq_of_beq_eq_true hq.1.1.1) hq.1.1.2 hq.1.2).wp
    · rename_i ad k i hop1 hop2
      obtain ⟨ti, k1, k2⟩ := ob_some hx
      obtain ⟨ei, k3, k4⟩ := ob_some k2
      cases hq : (Nat.beq ti.kind 2 && decide (0 ≤ i) && decide (i < ti.alen) && ad.spot.isNone) <;> simp only [hq, cond_true, cond_false, reduceCtorEq] at k4
      simp only [Bool.and_eq_true, decide_eq_true_eq] at hq
      cases k4
      exact (op_indexAddr_array hE hr ht ho hop1 hop2 k1 k3 (Nat.eq_of_beq_eq_true hq.1.1.1) hq.1.1.2 hq.1.2).wp
    · cases hx
  · rename_i ho
    exact (op_plain hE hr ht (by rw [ho]; intro _ _ e; cases e) hx).wp
  · rename_i t i ho
    split at hx
    · rename_i vs hop
      obtain ⟨u, k1, k2⟩ := ob_some hx
      cases k2
      exact (op_extract hE hr ht ho hop k1).wp
    · cases hx
  · rename_i c ho
    split at hx
    · rename_i f hc
      split at hx
      · rename_i g first cap vs hf hvs
        exact op_call hE hr ht hcall ho hc hf hvs hx
      · cases hx
    · rename_i b hc
      split at hx
      · rename_i vs hvs
        cases hq : (allPlain vs && plainB b) <;> simp only [hq, cond_true, cond_false] at hx
        · unfold xbuiltin at hx
          split at hx
          · rename_i sa n k
            split at hx
            · rename_i t ht'
              obtain ⟨ti, k1, k2⟩ := ob_some hx
              cases hk : Nat.beq ti.kind 1 <;> simp only [hk, cond_true, cond_false, reduceCtorEq] at k2
              cases k2
              exact (op_len hE hr ht ho hc hvs ht' k1 (Nat.eq_of_beq_eq_true hk)).wp
            · cases hx
          · rename_i sa n k
            split at hx
            · rename_i t ht'
              obtain ⟨ti, k1, k2⟩ := ob_some hx
              cases hk : (Nat.beq ti.kind 1 && Nat.blt k unkU) <;> simp only [hk, cond_true, cond_false, reduceCtorEq] at k2
              simp only [Bool.and_eq_true] at hk
              cases k2
              exact (op_cap hE hr ht ho hc hvs ht' k1 (Nat.eq_of_beq_eq_true hk.1) (by have := hk.2; unfold Nat.blt at this; exact Nat.le_of_ble_eq_true this)).wp
            · cases hx
          · rename_i sa len cap x
            split at hx
            · rename_i t u ht'
              obtain ⟨ti, k1, k2⟩ := ob_some hx
              obtain ⟨ei, k3, k4⟩ := ob_some k2
              obtain ⟨ui, k5, k6⟩ := ob_some k4
              cases hk : (Nat.beq ti.kind 1 && appK ui.kind x && Nat.beq ei.zero.length ei.size) <;> simp only [hk, cond_true, cond_false, reduceCtorEq] at k6
              simp only [Bool.and_eq_true] at hk
              obtain ⟨nc, k7, k8⟩ := ob_some k6
              exact (op_append hE hr ht hnm ho hc hvs ht' k1 k3 k5 (Nat.eq_of_beq_eq_true hk.1.1) hk.1.2 (Nat.eq_of_beq_eq_true hk.2) k7 k8).wp
            · cases hx
          · rename_i sa len cap x
            split at hx
            · rename_i t u ht'
              obtain ⟨ti, k1, k2⟩ := ob_some hx
              obtain ⟨ei, k3, k4⟩ := ob_some k2
              cases hk : Nat.beq ti.kind 1 <;> simp only [hk, cond_true, cond_false, reduceCtorEq] at k4
              split at k4
              · rename_i sb n k
                split at k4
                · rename_i ad bd
                  obtain ⟨cs, k5, k6⟩ := ob_some k4
                  obtain ⟨h2, k7, k8⟩ := ob_some k6
                  cases k8
                  exact (op_copy hE hr ht ho hc hvs ht' k1 k3 (Nat.eq_of_beq_eq_true hk) k5 k7).wp
                · cases hz : Nat.beq (min n len) 0 <;> simp only [hz, cond_true, cond_false, reduceCtorEq] at k4
                  cases k4
                  exact (op_copy_none hE hr ht ho hc hvs ht' k1 k3 (Nat.eq_of_beq_eq_true hk) (Nat.eq_of_beq_eq_true hz)).wp
              · cases k4
            · cases hx
          · cases hx
        · exact (op_plain hE hr ht (by rw [ho]; intro _ _ e; cases e) hx).wp
      · cases hx
    · cases hx
  · cases hx

end Go.Ev
