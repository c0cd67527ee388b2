/- All operations. -/
import Derived.Test.YtibkijpnkmccpaaEvOps7
import Derived.Test.YtibkijpnkmccpaaEvOpsM
import Derived.IntWalk
import Derived.Lib.ConvBytes
set_option linter.unusedVariables false
set_option linter.unusedSimpArgs false
namespace Go.Ev
open Go.Deep Go.RowKit

theorem kind_u8 {d : TypeDesc} (h : (kindOf d).1 = 6) : d = .int .u8 := by
  cases d <;> simp [kindOf] at h ⊢
  case int k => cases k <;> simp [kindOf] at h ⊢

theorem fold_bytes : ∀ (ns : List Int) (acc : List UInt8), ns.foldl (fun r n => r.push (UInt8.ofNat n.toNat)) (⟨acc.toArray⟩ : ByteArray) = ⟨(acc ++ ns.map fun n => UInt8.ofNat n.toNat).toArray⟩
  | [], acc => by simp
  | n :: ns, acc => by
    have : (⟨acc.toArray⟩ : ByteArray).push (UInt8.ofNat n.toNat) = ⟨(acc ++ [UInt8.ofNat n.toNat]).toArray⟩ := by simp [ByteArray.push]
    rw [List.foldl_cons, this, fold_bytes ns]
    simp [List.append_assoc]

theorem bytes_ints : ∀ {cs : List Value} {bs : List UInt8}, bytesOfCells cs = some bs → ∃ ns : List Int, cs = ns.map (Value.int .u8) ∧ bs = ns.map fun n => UInt8.ofNat n.toNat
  | [], bs, h => by simp only [bytesOfCells, Option.some.injEq] at h; subst h; exact ⟨[], rfl, rfl⟩
  | v :: l, bs, h => by
    unfold bytesOfCells at h
    split at h
    · rename_i heq; cases heq
    · rename_i n l' heq
      cases heq
      split at h
      · rename_i r hr
        cases h
        obtain ⟨ns, e1, e2⟩ := bytes_ints hr
        exact ⟨n :: ns, by simp [e1], by simp [e2]⟩
      · cases h
    · cases h

theorem plain_ints (ns : List Int) : allPlain (ns.map (Value.int .u8)) = true := by
  induction ns with
  | nil => rfl
  | cons n ns ih => simp [allPlain, isPlain, ih]

theorem allS_eq {θ : Th} : ∀ {vs us : List Value}, allPlain vs = true → all2 (S θ) vs us → us = vs
  | [], [], _, _ => rfl
  | v :: vs, u :: us, hp, h => by
    simp only [allPlain, Bool.and_eq_true] at hp
    rw [W_plain hp.1 (W_of_S h.1), allS_eq hp.2 h.2]
  | [], _ :: _, _, h => h.elim
  | _ :: _, [], _, h => h.elim

theorem op_bytes [LG] {E : Env} (hE : EnvT E) {o : Oper} {nm : Nat} {θ : Th} {h : Hp} {w : World} {a : Act} {T : Tm} (hr : HR θ h w) (ht : TO θ T a o) {src dst : TypeId} {x : Operand} {sa : Option Addr} {len cap : Nat} {ti si ei : TI} {cs : List Value} {bs : List UInt8}
    (ho : o.op = .convert src dst x) (hx : opv T x = some (.slice sa len cap)) (hti : tget E.tt dst = some ti) (hsi : tget E.tt src = some si) (hei : tget E.tt si.elem = some ei) (hk : ti.kind = 4) (hk1 : si.kind = 1) (hk2 : ei.kind = 6)
    (hc : oldCells h 1 sa len = some cs) (hb : bytesOfCells cs = some bs) : OpOk E.P o nm θ h w a (.string ⟨bs.toArray⟩) h := by
  obtain ⟨i, d, z, fl, g1, g2, g3, g4, g5, rfl⟩ := ti_spec (hE _ _ hti)
  obtain ⟨i2, d2, z2, fs2, m1, m2, m3, m4, m5, rfl⟩ := ti_spec (hE _ _ hsi)
  simp only at hk hk1 hei
  obtain ⟨i3, d3, z3, fs3, p1, p2, p3, p4, p5, rfl⟩ := ti_spec (hE _ _ hei)
  simp only at hk2
  rw [kind_string hk] at g2
  rw [kind_slice hk1] at m2
  rw [kind_u8 hk2] at p2
  obtain ⟨b, c, ds, hy, k2, k4, hfirst⟩ := first_sound (P := E.P) hr (ht _ (by simp [ho, Op.operands]) _ hx) hc
  obtain ⟨ns, e1, e2⟩ := bytes_ints hb
  subst e1; subst e2
  have hds := allS_eq (plain_ints ns) k2
  subst hds
  refine opOk_same hr (u := .string ⟨(ns.map fun n : Int => UInt8.ofNat n.toNat).toArray⟩) ?_ rfl
  have hf := hfirst w.drawn
  have hconv := run_convert_bytes_string (P := E.P) w src dst _ b len c m2 p2 g2
  cases b with
  | none =>
    simp at k4
    have hn : ns = [] := by
      simp [Builtin.firstCells] at hf
      exact hf
    subst hn
    simp [execOp, ho, hy, hconv, Conv.bytesToString]
    rfl
  | some ad =>
    simp only [Builtin.firstCells, Nat.mul_one] at hf
    have hbs := run_bytesToString (P := E.P) w ad len c ns hf
    have hfold := fold_bytes ns []
    simp only [List.nil_append] at hfold
    have hemp : (ByteArray.empty) = (⟨([] : List UInt8).toArray⟩ : ByteArray) := rfl
    rw [hemp, hfold] at hbs
    simp [execOp, ho, hy, hconv, hbs]

/-- A world with the same cells. -/
theorem HR.same [LG] {θ : Th} {h : Hp} {w w2 : World} (hr : HR θ h w) (hsz : w2.heap.size = w.heap.size) (hl : ∀ n e x, tget h.m n = some e → e.ob ≠ none → θ n = some x → w2.heap[x.1]? = w.heap[x.1]?) (hc : ∀ a, w2.cell? a = w.cell? a) (hf : ∀ a, (w.cell? a).isSome = true → w2.frozen? a = w.frozen? a) : HR θ h w2 := by
  refine ⟨fun n e x he hx => ?_, hr.sep, hr.fresh⟩
  have r := hr.ent n e x he hx
  refine ⟨r.at_, by rw [hsz]; exact r.lt, fun i v hv => ?_, fun o ho => ?_, fun hu => ?_⟩
  rotate_left
  · rw [hl n e x he (by rw [ho]; simp) hx]
    exact r.ob o ho
  rotate_left
  · obtain ⟨⟨u, h1, h2⟩, h3⟩ := r.cell i v hv
    rw [hc, hf _ (by rw [h1]; rfl)]
    exact ⟨⟨u, h1, h2⟩, h3⟩
  · obtain ⟨h1, h2⟩ := r.room hu
    refine ⟨h1, fun i hi => ?_⟩
    rw [hc, hf _ (h2 i hi).1]
    exact h2 i hi

theorem plain_bytes : ∀ l : List UInt8, allPlain (l.map fun b => Value.int .u8 b.toNat) = true
  | [] => rfl
  | b :: l => plain_bytes l

theorem op_strB [LG] {E : Env} (hE : EnvT E) {o : Oper} {nm : Nat} {θ : Th} {h : Hp} {w : World} {a : Act} {T : Tm} (hr : HR θ h w) (ht : TO θ T a o) {src dst : TypeId} {x : Operand} {s : ByteArray} {ti si ei : TI} (hnm : θ nm = none)
    (ho : o.op = .convert src dst x) (hx : opv T x = some (.string s)) (hti : tget E.tt dst = some ti) (hsi : tget E.tt src = some si) (hei : tget E.tt ti.elem = some ei) (hk : ti.kind = 1) (hk2 : ei.kind = 6) :
    OpOk E.P o nm θ h w a (.slice (some ⟨nm, 0, none⟩) s.size unkU) (halloc h nm (mkEnt (byteCells s) 1)) := by
  obtain ⟨i, d, z, fl, g1, g2, g3, g4, g5, rfl⟩ := ti_spec (hE _ _ hti)
  obtain ⟨i2, d2, z2, fs2, m1, m2, m3, m4, m5, rfl⟩ := ti_spec (hE _ _ hsi)
  simp only at hk hei
  obtain ⟨i3, d3, z3, fs3, p1, p2, p3, p4, p5, rfl⟩ := ti_spec (hE _ _ hei)
  simp only at hk2
  rw [kind_slice hk] at g2
  rw [kind_u8 hk2] at p2
  have hsx : a.eval x = .string s := ht _ (by simp [ho, Op.operands]) _ hx
  have hge := grownCap_ge w s.size 0 (kindOf d).2.1
  have hcells : (Lib.bytesCells w (kindOf d).2.1 s) = (byteCells s ++ List.replicate (grownCap w s.size 0 (kindOf d).2.1 - s.size) (Value.int .u8 0)).toArray := by
    apply Array.ext'
    simp [Lib.bytesCells, byteCells]
  have hlen : (byteCells s).length = s.size := by unfold byteCells; rw [List.length_map]; rfl
  obtain ⟨e1, e2⟩ := alloc_sound (hr.drawn (w.drawn + 1)) hnm (List.replicate (grownCap w s.size 0 (kindOf d).2.1 - s.size) (Value.int .u8 0)) (plain_all2 (plain_bytes s.data.toList)) (kindOf d).2.1 (grownCap w s.size 0 (kindOf d).2.1) 1
    (fun _ => by
      have : (s.data.toList.map fun b => Value.int .u8 b.toNat).length = s.size := hlen
      simp only [List.length_append, this, List.length_replicate]
      omega)
  have hb : ({ w with drawn := w.drawn + 1 }.alloc (.cells (byteCells s ++ List.replicate (grownCap w s.size 0 (kindOf d).2.1 - s.size) (Value.int .u8 0)).toArray (kindOf d).2.1)) = w.drew.alloc (.cells (Lib.bytesCells w (kindOf d).2.1 s) (kindOf d).2.1) := by rw [hcells]; rfl
  have e1' : HR _ (halloc h nm (mkEnt (byteCells s) 1)) _ := e1
  have e2' : Ext nm θ h _ _ (halloc h nm (mkEnt (byteCells s) 1)) _ := e2
  change HR _ _ ({ w with drawn := w.drawn + 1 }.alloc (.cells (byteCells s ++ List.replicate (grownCap w s.size 0 (kindOf d).2.1 - s.size) (Value.int .u8 0)).toArray (kindOf d).2.1)) at e1'
  change Ext _ _ _ _ _ _ ({ w with drawn := w.drawn + 1 }.alloc (.cells (byteCells s ++ List.replicate (grownCap w s.size 0 (kindOf d).2.1 - s.size) (Value.int .u8 0)).toArray (kindOf d).2.1)) at e2'
  rw [hb] at e1' e2'
  have hnew : (w.drew.alloc (.cells (Lib.bytesCells w (kindOf d).2.1 s) (kindOf d).2.1)).heap[w.heap.size]? = some (.cells (Lib.bytesCells w (kindOf d).2.1 s) (kindOf d).2.1) := by
    simp [World.alloc, World.drew, -World.alloc_eq, -World.drew_eq]
  have hold : ∀ j, j < w.heap.size → (w.drew.alloc (.cells (Lib.bytesCells w (kindOf d).2.1 s) (kindOf d).2.1)).heap[j]? = w.heap[j]? := by
    intro j hj
    have h1 : w.heap.size ≠ j := by omega
    simp [World.alloc, World.drew, -World.alloc_eq, -World.drew_eq, Array.getElem?_push, h1, Ne.symm h1]
  have hsz1 : (w.drew.alloc (.cells (Lib.bytesCells w (kindOf d).2.1 s) (kindOf d).2.1)).heap.size = w.heap.size + 1 := by
    simp [World.alloc, World.drew, -World.alloc_eq, -World.drew_eq]
  have hsz2 := Lib.bytesWorld_size w (kindOf d).2.1 s
  have hcell : ∀ b, (Lib.bytesWorld w (kindOf d).2.1 s).cell? b = (w.drew.alloc (.cells (Lib.bytesCells w (kindOf d).2.1 s) (kindOf d).2.1)).cell? b := by
    intro b
    unfold World.cell?
    rcases Nat.lt_trichotomy b.block w.heap.size with q | q | q
    · rw [Lib.bytesWorld_at_old _ _ _ _ q, hold _ q]
    · rw [q, Lib.bytesWorld_at_new, hnew]
    · rw [Array.getElem?_eq_none (by omega), Array.getElem?_eq_none (by omega)]
  have hloop : ∀ n e x, tget (halloc h nm (mkEnt (byteCells s) 1)).m n = some e → e.ob ≠ none → (if n = nm then some (w.heap.size, 0, grownCap w s.size 0 (kindOf d).2.1) else θ n) = some x → (Lib.bytesWorld w (kindOf d).2.1 s).heap[x.1]? = (w.drew.alloc (.cells (Lib.bytesCells w (kindOf d).2.1 s) (kindOf d).2.1)).heap[x.1]? := by
    intro n e x he ho hx
    simp only [halloc, tget_tset] at he
    by_cases hn : nm = n
    · rw [if_pos hn] at he
      cases he
      exact absurd rfl ho
    · rw [if_neg hn] at he
      rw [if_neg (Ne.symm hn)] at hx
      have q := (hr.ent _ _ _ he hx).lt
      rw [Lib.bytesWorld_at_old _ _ _ _ q, hold _ q]
  have hfro : ∀ b, ((w.drew.alloc (.cells (Lib.bytesCells w (kindOf d).2.1 s) (kindOf d).2.1)).cell? b).isSome = true → (Lib.bytesWorld w (kindOf d).2.1 s).frozen? b = (w.drew.alloc (.cells (Lib.bytesCells w (kindOf d).2.1 s) (kindOf d).2.1)).frozen? b := by
    intro b hbs
    unfold World.frozen?
    rcases Nat.lt_trichotomy b.block w.heap.size with q | q | q
    · rw [Lib.bytesWorld_at_old _ _ _ _ q, hold _ q]
    · unfold World.cell? at hbs
      rw [q, hnew] at hbs
      simp only at hbs
      rw [q, Lib.bytesWorld_at_new, hnew]
      simp only
      have hlt : b.off < (Lib.bytesCells w (kindOf d).2.1 s).size := by
        split at hbs
        · cases hbs
        · rcases Nat.lt_or_ge b.off (Lib.bytesCells w (kindOf d).2.1 s).size with k | k
          · exact k
          · rw [Array.getElem?_eq_none k] at hbs; cases hbs
      have h1 : decide ((Lib.bytesCells w (kindOf d).2.1 s).size ≤ b.off) = false := by rw [decide_eq_false_iff_not]; omega
      rw [h1]
      simp
    · rw [Array.getElem?_eq_none (by omega), Array.getElem?_eq_none (by omega)]
  refine ⟨_, Lib.bytesWorld w (kindOf d).2.1 s, .slice (some ⟨w.heap.size, 0, none⟩) s.size (grownCap w s.size 0 (kindOf d).2.1), _, ?_, .inl rfl, ?_, e1'.same (by rw [hsz1, hsz2]) hloop hcell hfro, ?_⟩
  · simp [execOp, ho, hsx, Lib.run_convert_string_bytes w src dst _ s m2 g2 p2]
  · have ee := (Ext.drawn nm θ h w (w.drawn + 1)).trans e2' (fun _ _ k => k)
    refine ⟨ee.keep, ee.only, ee.nxt, by rw [hsz2]; omega, ?_, ?_, ?_, fun b hb hno => Lib.bytesWorld_at_old _ _ _ _ hb, ee.ownw, ee.own⟩
    · simp [Lib.bytesWorld, World.freeze, World.alloc, World.drew, -World.alloc_eq, -World.drew_eq]
    · simp [Lib.bytesWorld, World.freeze, World.alloc, World.drew, -World.alloc_eq, -World.drew_eq]
    · simp [Lib.bytesWorld, World.freeze, World.alloc, World.drew, -World.alloc_eq, -World.drew_eq]
  · exact W_unk (x := (w.heap.size, 0, grownCap w s.size 0 (kindOf d).2.1)) (by simp) rfl rfl rfl

theorem op_makeFunc [LG] {E : Env} (hE : EnvT E) {o : Oper} {nm : Nat} {θ : Th} {h : Hp} {w : World} {a : Act} {T : Tm} (hr : HR θ h w) (ht : TO θ T a o) {g : FuncId} {first cap : Array Operand} {vs us : List Value}
    (ho : o.op = .makeFunc (.func g) first cap) (h1 : opvs (opv T) first.toList = some vs) (h2 : opvs (opv T) cap.toList = some us) (k1 : vs.all capOk = true) (k2 : us.all capOk = true) : OpOk E.P o nm θ h w a (.func (.func g) vs.toArray us.toArray) h := by
  have w1 := opvs_O (fun y hy => ht y (by simp [ho, Op.operands]; exact .inl (by simpa using hy))) h1
  have w2 := opvs_O (fun y hy => ht y (by simp [ho, Op.operands]; exact .inr (by simpa using hy))) h2
  have a1 : first.map a.eval = (first.toList.map a.eval).toArray := by apply Array.ext'; simp
  have a2 : cap.map a.eval = (cap.toList.map a.eval).toArray := by apply Array.ext'; simp
  refine opOk_same hr (u := .func (.func g) (first.toList.map a.eval).toArray (cap.toList.map a.eval).toArray) ?_ ⟨_, _, rfl, by simpa using all_V0 k1 w1, by simpa using all_V0 k2 w2⟩
  simp [execOp, ho, Instr.makeFunc, a1, a2]

theorem blt_lt {m n : Nat} (h : Nat.blt m n = true) : m < n := Nat.le_of_ble_eq_true h

/-- What a call does; from unkU on: a round of a loop. -/
def CallAt [LG] (P : Program) (call : Nat → List Value → Hp → Option (Value × Hp)) (nm : Nat) (h : Hp) : Prop :=
  ∀ g args r h', call g args h = some (r, h') → ∀ θ w cargs, HR θ h w → all2 (W θ) args cargs →
    (g < unkU → ((callFunc g cargs.toArray).run P w = .ok (.enter g cargs.toArray) w ∧ Calls P g cargs.toArray w (fun e w' => ∃ θ' u, e = .returned u ∧ Ext nm θ h w θ' h' w' ∧ HR θ' h' w' ∧ W θ' r u)) ∨
      (∃ u, (callFunc g cargs.toArray).run P w = .ok (.value u) w ∧ W θ r u ∧ h' = h)) ∧
    (unkU ≤ g → ∀ x, θ (g - unkU) = some x → YieldAt Fence.wide 0 P x.1 cargs.toArray w (fun e w' => ∃ θ' u, e = .returned u ∧ Ext nm θ h w θ' h' w' ∧ HR θ' h' w' ∧ W θ' r u))

theorem op_call [LG] {E : Env} (hE : EnvT E) {o : Oper} {nm : Nat} {θ : Th} {h h' : Hp} {w : World} {a : Act} {T : Tm} {v : Value} (hr : HR θ h w) (ht : TO θ T a o) {call : Nat → List Value → Hp → Option (Value × Hp)} (hcall : CallAt E.P call nm h) {c : Call} {f : Operand} {g : Nat} {first cap : Array Value} {vs : List Value}
    (ho : o.op = .call c) (hc : c.callee = .value f) (hf : opv T f = some (.func (.func g) first cap)) (hv : opvs (opv T) c.args.toList = some vs) (hg : g < unkU) (hx : call g (first.toList ++ vs ++ cap.toList) h = some (v, h')) : OpWp E.P o nm θ h w a v h' := by
  obtain ⟨fa, fb, e3, q1, q2⟩ : ∃ a' b' : List Value, a.eval f = .func (.func g) a'.toArray b'.toArray ∧ all2 (V0 θ) first.toList a' ∧ all2 (V0 θ) cap.toList b' := ht _ (by simp [ho, Op.operands, Call.operands, hc]) _ hf
  have hw := opvs_O (fun y hy => ht y (by simp [ho, Op.operands, Call.operands]; exact .inr (by simpa using hy))) hv
  have harr : c.args.map a.eval = (c.args.toList.map a.eval).toArray := by apply Array.ext'; simp
  have hrun : (execOp a.eval o).run E.P w = (callFunc g (fa ++ c.args.toList.map a.eval ++ fb).toArray).run E.P w := by
    simp only [execOp, ho, resolve, hc, e3, Deferred.ofValue, harr, Sem.run_bind, Sem.run_pure, Result.andThen_ok, invoke]
    simp
  have hV : ∀ {l m : List Value}, all2 (V0 θ) l m → all2 (W θ) l m := fun q => all2_mono (fun _ _ z => W_of_V (V_of_V0 z)) q
  rcases (hcall g _ v h' hx θ w _ hr (all2_append (all2_append (hV q1) hw) (hV q2))).1 hg with ⟨k1, k2⟩ | ⟨u, k1, k2, rfl⟩
  · intro ro K Q hK
    refine ⟨fun _ _ => fn_FW, ?_⟩
    rw [Oper.semAt_eq ro _ _ (fun c' e => by rw [ho] at e; cases e), hrun, k1]
    refine ⟨depth_FW, ?_⟩
    refine (callsIn_FW k2).mono fun e w' he => ?_
    obtain ⟨θ', u, rfl, q1, q2, q3⟩ := he
    exact hK θ' w' u q1 q2 q3
  · exact OpOk.wp (opOk_same hr (hrun.trans k1) k2)

theorem run_sliceA {P : Program} {w : World} {t e : TypeId} {n : Nat} {i : TypeInfo} (hu : P.underlying t = some (.array n e)) (hi : P.info? e = some i) {ad : Addr} {l u : Nat} {low high : Option Value}
    (hl : OptN low 0 l) (hh : OptN high n u) (h1 : l ≤ u) (h2 : u ≤ n) :
    (Instr.sliceAt t (.pointer (some ad)) low high none).run P w = .ok (.slice (some (if n = l then ad else ad.add (l * i.size))) (u - l) (n - l)) w := by
  rcases hl with ⟨rfl, rfl⟩ | ⟨k1, n1, rfl, g1, rfl⟩ <;> rcases hh with ⟨rfl, rfl⟩ | ⟨k2, n2, rfl, g2, rfl⟩
  · simp [Instr.sliceAt, Instr.sureAddr, Instr.sliceBounds, run_underlying hu, run_sizeOf hi]
  · simp [Instr.sliceAt, Instr.sureAddr, Instr.sliceBounds, run_underlying hu, run_sizeOf hi, run_sliceBound g2 h2]
  · simp [Instr.sliceAt, Instr.sureAddr, Instr.sliceBounds, run_underlying hu, run_sizeOf hi, run_sliceBound g1 h1]
  · simp [Instr.sliceAt, Instr.sureAddr, Instr.sliceBounds, run_underlying hu, run_sizeOf hi, run_sliceBound g1 h1, run_sliceBound g2 h2]

/-- A slice of an array. -/
theorem op_sliceA [LG] {E : Env} (hE : EnvT E) {o : Oper} {nm : Nat} {θ : Th} {h : Hp} {w : World} {a : Act} {T : Tm} (hr : HR θ h w) (ht : TO θ T a o) {t : TypeId} {x : Operand} {lo hi : Option Operand} {lov hiv : Option Value} {ad : Addr} {ti ei : TI} {l u : Nat}
    (ho : o.op = .slice t x lo hi none) (hx : opv T x = some (.pointer (some ad))) (hsp : ad.spot = none) (hti : tget E.tt t = some ti) (hei : tget E.tt ti.elem = some ei) (hk : ti.kind = 2)
    (hlo : optv (opv T) lo = some lov) (hhi : optv (opv T) hi = some hiv) (hl : natOf 0 lov = some l) (hu : natOf ti.alen hiv = some u) (h1 : l ≤ u) (h2 : u ≤ ti.alen) (h3 : ti.alen < unkU) :
    OpOk E.P o nm θ h w a (.slice (some (bif Nat.beq ti.alen l then ad else ⟨ad.block, ad.off + l * ei.size, none⟩)) (u - l) (ti.alen - l)) h := by
  obtain ⟨i, d, z, fl, g1, g2, g3, g4, g5, rfl⟩ := ti_spec (hE _ _ hti)
  obtain ⟨i2, d2, z2, fs2, m1, m2, m3, m4, m5, rfl⟩ := ti_spec (hE _ _ hei)
  simp only at hk hei m1 m2 hu h2 h3 ⊢
  have hd := kind_array hk
  rw [hd] at g2
  obtain ⟨_, x', hx', hev⟩ : ad.spot = none ∧ ∃ x', θ ad.block = some x' ∧ a.eval x = .pointer (some ⟨x'.1, x'.2.1 + ad.off, none⟩) := ht _ (by simp [ho, Op.operands]) _ hx
  have n1 := opt_nat (fun y hy v => ht y (by simp [ho, Op.operands, hy]) v) hlo hl
  have n2 := opt_nat (fun y hy v => ht y (by simp [ho, Op.operands, hy]) v) hhi hu
  have hrun := run_sliceA (w := w) (ad := ⟨x'.1, x'.2.1 + ad.off, none⟩) g2 m1 n1 n2 h1 h2
  refine opOk_same hr (u := .slice (some (if (kindOf d).2.2 = l then ⟨x'.1, x'.2.1 + ad.off, none⟩ else (⟨x'.1, x'.2.1 + ad.off, none⟩ : Addr).add (l * i2.size))) (u - l) ((kindOf d).2.2 - l)) ?_ ?_
  · simp only [execOp, ho, hev, Option.map_none, Sem.run_bind]
    rw [hrun]
    rfl
  · refine .inl ?_
    by_cases e : (kindOf d).2.2 = l
    · rw [if_pos e]
      have eb : Nat.beq (kindOf d).2.2 l = true := by rw [e]; exact Nat.beq_refl l
      rw [eb, cond_true]
      exact ⟨hsp, x', _, hx', .inl ⟨by omega, rfl⟩, rfl⟩
    · rw [if_neg e]
      have eb : Nat.beq (kindOf d).2.2 l = false := by
        cases hb : Nat.beq (kindOf d).2.2 l with
        | false => rfl
        | true => exact (e (Nat.eq_of_beq_eq_true hb)).elim
      rw [eb, cond_false]
      exact ⟨rfl, x', _, hx', .inl ⟨by omega, rfl⟩, by simp [add_addr, Nat.add_assoc]⟩

theorem kind_no_iface {d : TypeDesc} {e n k : Nat} (h : kindOf d = (k, e, n)) (hk : 1 ≤ k) : ∀ ms, d ≠ .interface ms := by
  rintro ms rfl
  simp only [kindOf, Prod.mk.injEq] at h
  omega

theorem kind_no_ptr {d : TypeDesc} {e n k : Nat} (h : kindOf d = (k, e, n)) (hk : k ≠ 7) : ∀ t, d ≠ .pointer t := by
  rintro t rfl
  simp only [kindOf, Prod.mk.injEq] at h
  exact hk h.1.symm

theorem V_of_ifa {θ : Th} {u v : Value} (hn : ifaOk u = true) (h : W θ u v) : V θ u v := by
  cases u <;> first | exact h | cases hn

/-- A value that is made one of an interface. -/
theorem op_makeIface [LG] {E : Env} (hE : EnvT E) {o : Oper} {nm : Nat} {θ : Th} {h : Hp} {w : World} {a : Act} {T : Tm} (hr : HR θ h w) (ht : TO θ T a o) {t : TypeId} {x : Operand} {u : Value} {ti : TI}
    (ho : o.op = .makeInterface t x) (hx : opv T x = some u) (hti : tget E.tt t = some ti) (hu : ifaOk u = true) (hk : 1 ≤ ti.kind) : OpOk E.P o nm θ h w a (.iface t u) h := by
  have hw := V_of_ifa hu (ht _ (by simp [ho, Op.operands]) _ hx)
  obtain ⟨i, d, z, fs, h1, h2, h3, h4, h5, rfl⟩ := ti_spec (hE _ _ hti)
  have hd := kind_no_iface (d := d) rfl hk
  refine opOk_same hr (u := .iface t (a.eval x)) ?_ ⟨_, rfl, hw⟩
  simp only [execOp, ho, Instr.makeInterface, Sem.run_bind, run_underlying h2, Result.andThen_ok]
  cases d <;> first | exact (hd _ rfl).elim | rfl

/-- The method that an interface's value has. -/
theorem method_run {P : Program} {t : TypeId} {name : String} {g : Nat} {d : TypeDesc} (hm : methOf P t name = some g) (hu : P.underlying t = some d) (hd : ∀ e, d ≠ .pointer e) (n : Nat) (v : Value) (w : World) : (method (n + 1) t v name).run P w = .ok (g, v) w := by
  unfold methOf at hm
  split at hm
  · rename_i i hi
    split at hm
    · rename_i m hfm
      cases hp : m.path.isEmpty <;> simp only [hp, cond_true, cond_false, reduceCtorEq] at hm
      split at hm
      · rename_i f hf
        cases hm
        have hpl : m.path.toList = [] := by simpa using hp
        have hti : (typeInfo t).run P w = .ok i w := by simp [typeInfo, hi]
        have hun : (underlying t).run P w = .ok d w := run_underlying hu w
        simp only [method, Sem.run_bind, hti, Result.andThen_ok, hfm, hpl, follow, Sem.run_pure, hf]
        simp only [receiverAt, Sem.run_bind, hun, Result.andThen_ok]
        cases d <;> first | exact (hd _ rfl).elim | simp [Place.get]
      · cases hm
    · cases hm
  · cases hm

/-- A call of a method of an interface's value. -/
theorem op_invoke [LG] {E : Env} (hE : EnvT E) {o : Oper} {nm : Nat} {θ : Th} {h h' : Hp} {w : World} {a : Act} {T : Tm} {v : Value} (hr : HR θ h w) (ht : TO θ T a o) {call : Nat → List Value → Hp → Option (Value × Hp)} (hcall : CallAt E.P call nm h) {c : Call} {r : Operand} {name : String} {t : TypeId} {x : Value} {g : Nat} {vs : List Value} {ti : TI}
    (ho : o.op = .call c) (hc : c.callee = .invoke r name) (hf : opv T r = some (.iface t x)) (hv : opvs (opv T) c.args.toList = some vs) (hti : tget E.tt t = some ti) (hk : 1 ≤ ti.kind) (hk7 : ti.kind ≠ 7) (hm : methOf E.P t name = some g) (hg : g < unkU) (hx : call g (x :: vs) h = some (v, h')) : OpWp E.P o nm θ h w a v h' := by
  obtain ⟨u', e3, q1⟩ : ∃ u', a.eval r = .iface t u' ∧ V θ x u' := ht _ (by simp [ho, Op.operands, Call.operands, hc]) _ hf
  have hw := opvs_O (fun y hy => ht y (by simp [ho, Op.operands, Call.operands]; exact .inr (by simpa using hy))) hv
  obtain ⟨i, d, z, fs, h1, h2, h3, h4, h5, rfl⟩ := ti_spec (hE _ _ hti)
  have hd := kind_no_ptr (d := d) rfl hk7
  have harr : c.args.map a.eval = (c.args.toList.map a.eval).toArray := by apply Array.ext'; simp
  have hrun : (execOp a.eval o).run E.P w = (callFunc g (u' :: c.args.toList.map a.eval).toArray).run E.P w := by
    simp only [execOp, ho, resolve, hc, e3, harr, Sem.run_bind, Sem.run_pure, Result.andThen_ok, invoke]
    have e4 : ((#[Value.iface t u'] ++ (c.args.toList.map a.eval).toArray)[0]? : Option Value) = some (.iface t u') := by simp
    have e5 : (#[Value.iface t u'] ++ (c.args.toList.map a.eval).toArray).extract 1 (#[Value.iface t u'] ++ (c.args.toList.map a.eval).toArray).size = (c.args.toList.map a.eval).toArray := by
      apply Array.ext'
      simp [List.extract_eq_take_drop]
      exact List.take_of_length_le (by simp)
    simp only [e4, e5, callMethod, Sem.run_bind, run_program, Result.andThen_ok]
    have hmr := method_run hm h2 hd (E.P.types.size + Made.depth - 1) u' w
    have hdp : E.P.types.size + Made.depth - 1 + 1 = E.P.types.size + Made.depth := by
      have : 0 < Made.depth := by decide
      omega
    rw [hdp] at hmr
    simp only [hmr, Result.andThen_ok]
    congr 2
    apply Array.ext'; simp
  rcases (hcall g _ v h' hx θ w (u' :: c.args.toList.map a.eval) hr ⟨W_of_V q1, hw⟩).1 hg with ⟨k1, k2⟩ | ⟨u, k1, k2, rfl⟩
  · intro ro K Q hK
    refine ⟨fun _ _ => fn_FW, ?_⟩
    rw [Oper.semAt_eq ro _ _ (fun c' e => by rw [ho] at e; cases e), hrun, k1]
    refine ⟨depth_FW, ?_⟩
    refine (callsIn_FW k2).mono fun e w' he => ?_
    obtain ⟨θ', u, rfl, q1, q2, q3⟩ := he
    exact hK θ' w' u q1 q2 q3
  · exact OpOk.wp (opOk_same hr (hrun.trans k1) k2)

/-- A call of yield. -/
theorem op_yield [LG] {E : Env} (hE : EnvT E) {o : Oper} {nm : Nat} {θ : Th} {h h' : Hp} {w : World} {a : Act} {T : Tm} {v : Value} (hr : HR θ h w) (ht : TO θ T a o) {call : Nat → List Value → Hp → Option (Value × Hp)} (hcall : CallAt E.P call nm h) {c : Call} {f : Operand} {l : Nat} {first cap : Array Value} {vs : List Value}
    (ho : o.op = .call c) (hc : c.callee = .value f) (hf : opv T f = some (.func (.yield l) first cap)) (hv : opvs (opv T) c.args.toList = some vs) (hx : call (unkU + l) vs h = some (v, h')) : OpWp E.P o nm θ h w a v h' := by
  obtain ⟨x, hx0, e3⟩ : ∃ x, θ l = some x ∧ a.eval f = .func (.yield x.1) #[] #[] := ht _ (by simp [ho, Op.operands, Call.operands, hc]) _ hf
  have hw := opvs_O (fun y hy => ht y (by simp [ho, Op.operands, Call.operands]; exact .inr (by simpa using hy))) hv
  have harr : c.args.map a.eval = (c.args.toList.map a.eval).toArray := by apply Array.ext'; simp
  have hrun : (execOp a.eval o).run E.P w = (Instr.yield x.1 (c.args.toList.map a.eval).toArray).run E.P w := by
    simp only [execOp, ho, resolve, hc, e3, Deferred.ofValue, harr, Sem.run_bind, Sem.run_pure, Result.andThen_ok, invoke]
    simp
  obtain ⟨fn, tmps, assign, body, y1, y2⟩ := (hcall _ _ v h' hx θ w _ hr hw).2 (Nat.le_add_right _ _) x (by rw [Nat.add_sub_cancel_left]; exact hx0)
  intro ro K Q hK
  refine ⟨fun _ _ => fn_FW, ?_⟩
  rw [Oper.semAt_eq ro _ _ (fun c' e => by rw [ho] at e; cases e), hrun, y1]
  refine ⟨depth_FW, ?_⟩
  refine RoundIn.mono (F := FW ro) y2 fun e w' he => ?_
  obtain ⟨θ', u, rfl, q1, q2, q3⟩ := he
  exact hK θ' w' u q1 q2 q3

theorem blt_ge {m n : Nat} (h : Nat.blt m n = false) : n ≤ m := by
  rcases Nat.lt_or_ge m n with k | k
  · have : Nat.blt m n = true := Nat.ble_eq_true_of_le k
    rw [h] at this; cases this
  · exact k

theorem wrapF_eq (x : Int) : wrapF x = IntKind.i64.wrap x := by
  unfold wrapF
  cases hi : inI64 x
  · rfl
  · rw [cond_true]
    refine (IntWalk.i64_in x ?_).symm
    cases x with
    | ofNat k =>
      have := blt_lt (m := k) (n := 9223372036854775808) hi
      constructor
      · have := Int.natCast_nonneg k; show (-9223372036854775808 : Int) ≤ (k : Int); omega
      · show (k : Int) ≤ 9223372036854775807; omega
    | negSucc k =>
      have := blt_lt (m := k) (n := 9223372036854775808) hi
      rw [Int.negSucc_eq]
      omega

theorem iLt_eq (x y : Int) : iLt x y = decide (x < y) := by
  cases x <;> cases y <;> unfold iLt <;> simp only
  case ofNat.ofNat m n =>
    cases hb : Nat.blt m n
    · have := blt_ge hb
      symm; rw [decide_eq_false_iff_not]; simp only [Int.ofNat_eq_natCast]; omega
    · have := blt_lt hb
      symm; rw [decide_eq_true_eq]; simp only [Int.ofNat_eq_natCast]; omega
  case ofNat.negSucc m n => symm; rw [decide_eq_false_iff_not]; simp only [Int.ofNat_eq_natCast, Int.negSucc_eq]; omega
  case negSucc.ofNat m n => symm; rw [decide_eq_true_eq]; simp only [Int.ofNat_eq_natCast, Int.negSucc_eq]; omega
  case negSucc.negSucc m n =>
    cases hb : Nat.blt n m
    · have := blt_ge hb
      symm; rw [decide_eq_false_iff_not]; simp only [Int.negSucc_eq]; omega
    · have := blt_lt hb
      symm; rw [decide_eq_true_eq]; simp only [Int.negSucc_eq]; omega

theorem beq_ne {m n : Nat} (h : Nat.beq m n = false) : m ≠ n := fun e => by
  subst e
  simp at h

theorem iEq_eq (x y : Int) : iEq x y = (x == y) := by
  cases x <;> cases y <;> unfold iEq <;> simp only
  case ofNat.ofNat m n =>
    cases hb : Nat.beq m n
    · have := beq_ne hb
      symm; rw [beq_eq_false_iff_ne]; intro e; exact this (Int.ofNat.inj e)
    · rw [Nat.eq_of_beq_eq_true hb]; simp
  case ofNat.negSucc m n => symm; rw [beq_eq_false_iff_ne]; intro e; cases e
  case negSucc.ofNat m n => symm; rw [beq_eq_false_iff_ne]; intro e; cases e
  case negSucc.negSucc m n =>
    cases hb : Nat.beq m n
    · have := beq_ne hb
      symm; rw [beq_eq_false_iff_ne]; intro e; exact this (Int.negSucc.inj e)
    · rw [Nat.eq_of_beq_eq_true hb]; simp

theorem iLt_not (x y : Int) : (!(iLt x y)) = decide (y ≤ x) := by
  rw [iLt_eq]
  by_cases h : x < y
  · have : ¬ y ≤ x := by omega
    simp [this, h]
  · have : y ≤ x := by omega
    simp [this, h]

theorem cmp_run {P : Program} {op : BinOp} {t : TypeId} {k : IntKind} {m n : Int} {v : Value} (h : fastC op m n = some v) (w : World) : (binOp op t (.int k m) (.int k n)).run P w = .ok v w := by
  cases op <;> simp only [fastC, reduceCtorEq, Option.some.injEq] at h <;> subst h <;> simp [binOp, Op.intCmp, iEq_eq, iLt_not, bne]
  all_goals simp [iLt_eq]

theorem fast_run {P : Program} {op : BinOp} {t : TypeId} {p q v : Value} (h : fastB op p q = some v) (w : World) : (binOp op t p q).run P w = .ok v w := by
  unfold fastB at h
  split at h
  · rename_i m n
    cases op <;> simp only [fastI, reduceCtorEq, Option.some.injEq] at h
    case add => subst h; simp [binOp, Op.intArith, wrapF_eq]
    case sub => subst h; simp [binOp, Op.intArith, wrapF_eq]; rfl
    case mul => subst h; simp [binOp, Op.intArith, wrapF_eq]
    all_goals exact cmp_run (by simp only [fastC, Option.some.injEq]; exact h) w
  · exact cmp_run h w
  · cases h

theorem fast_ints {op : BinOp} {p q v : Value} (h : fastB op p q = some v) : isPlain p = true ∧ isPlain q = true ∧ isPlain v = true ∧ ∃ k m l n, p = .int k m ∧ q = .int l n := by
  unfold fastB at h
  split at h
  · rename_i m n
    refine ⟨rfl, rfl, ?_, _, _, _, _, rfl, rfl⟩
    cases op <;> simp only [fastI, reduceCtorEq, Option.some.injEq] at h <;> subst h <;> rfl
  · rename_i m n
    refine ⟨rfl, rfl, ?_, _, _, _, _, rfl, rfl⟩
    cases op <;> simp only [fastC, reduceCtorEq, Option.some.injEq] at h <;> subst h <;> rfl
  · cases h

theorem op_fast [LG] {E : Env} (hE : EnvT E) {o : Oper} {nm : Nat} {θ : Th} {h : Hp} {w : World} {a : Act} {T : Tm} (hr : HR θ h w) (ht : TO θ T a o) {op : BinOp} {t t2 : TypeId} {x y : Operand} {p q v : Value} (ho : o.op = .binOp op t x y t2)
    (hx : opv T x = some p) (hy : opv T y = some q) (hf : fastB op p q = some v) : OpOk E.P o nm θ h w a v h := by
  obtain ⟨h1, h2, h3, k, m, l, n, rfl, rfl⟩ := fast_ints hf
  have e1 := W_plain h1 (ht _ (by simp [ho, Op.operands]) _ hx)
  have e2 := W_plain h2 (ht _ (by simp [ho, Op.operands]) _ hy)
  refine opOk_same hr (u := v) ?_ (W_of_S (S_plain h3))
  have hg : (eqGuard op t x y (.int k m) (.int l n)).run E.P w = .ok () w := by cases op <;> rfl
  simp [execOp, ho, e1, e2, hg, fast_run hf w]

theorem op_lenStr [LG] {E : Env} (hE : EnvT E) {o : Oper} {nm : Nat} {θ : Th} {h : Hp} {w : World} {a : Act} {T : Tm} (hr : HR θ h w) (ht : TO θ T a o) {c : Call} {s : ByteArray} {t : TypeId} {ti : TI}
    (ho : o.op = .call c) (hc : c.callee = .builtin .len) (hv : opvs (opv T) c.args.toList = some [.string s]) (htys : c.argTypes.toList = [t]) (hti : tget E.tt t = some ti) (hk : ti.kind = 4) : OpOk E.P o nm θ h w a (.int .i64 s.size) h := by
  obtain ⟨i, d, z, fl, g1, g2, g3, g4, g5, rfl⟩ := ti_spec (hE _ _ hti)
  simp only at hk
  rw [kind_string hk] at g2
  have hw := opvs_O (fun y hy => ht y (by simp [ho, Op.operands, Call.operands]; exact .inr (by simpa using hy))) hv
  have hat : c.argTypes = #[t] := by rw [← Array.toArray_toList (xs := c.argTypes), htys]
  have hm := allPlain_eq (by rfl) hw
  refine opOk_same hr (u := .int .i64 s.size) (run_builtin ho hc hm (s := Builtin.len_ c.argTypes o.type #[.string s]) (fun _ => rfl) ?_) rfl
  simp [Builtin.len_, hat, run_underlying g2, goInt]

theorem op_min [LG] {E : Env} (hE : EnvT E) {o : Oper} {nm : Nat} {θ : Th} {h : Hp} {w : World} {a : Act} {T : Tm} (hr : HR θ h w) (ht : TO θ T a o) {c : Call} {k l : IntKind} {x y : Int}
    (ho : o.op = .call c) (hc : c.callee = .builtin .min) (hv : opvs (opv T) c.args.toList = some [.int k x, .int l y]) : OpOk E.P o nm θ h w a (.int k (bif iLt y x then y else x)) h := by
  have hw := opvs_O (fun y hy => ht y (by simp [ho, Op.operands, Call.operands]; exact .inr (by simpa using hy))) hv
  have hm := allPlain_eq (by rfl) hw
  refine opOk_same hr (u := .int k (bif iLt y x then y else x)) (run_builtin ho hc hm (s := Builtin.min_ c.argTypes o.type #[.int k x, .int l y]) (fun _ => rfl) ?_) rfl
  rw [iLt_eq]
  by_cases hlt : y < x <;> simp [Builtin.min_, Builtin.min2, hlt]

theorem op_max [LG] {E : Env} (hE : EnvT E) {o : Oper} {nm : Nat} {θ : Th} {h : Hp} {w : World} {a : Act} {T : Tm} (hr : HR θ h w) (ht : TO θ T a o) {c : Call} {k l : IntKind} {x y : Int}
    (ho : o.op = .call c) (hc : c.callee = .builtin .max) (hv : opvs (opv T) c.args.toList = some [.int k x, .int l y]) : OpOk E.P o nm θ h w a (.int k (bif iLt x y then y else x)) h := by
  have hw := opvs_O (fun y hy => ht y (by simp [ho, Op.operands, Call.operands]; exact .inr (by simpa using hy))) hv
  have hm := allPlain_eq (by rfl) hw
  refine opOk_same hr (u := .int k (bif iLt x y then y else x)) (run_builtin ho hc hm (s := Builtin.max_ c.argTypes o.type #[.int k x, .int l y]) (fun _ => rfl) ?_) rfl
  rw [iLt_eq]
  by_cases hlt : x < y <;> simp [Builtin.max_, Builtin.max2, hlt]

theorem op_not [LG] {E : Env} (hE : EnvT E) {o : Oper} {nm : Nat} {θ : Th} {h : Hp} {w : World} {a : Act} {T : Tm} (hr : HR θ h w) (ht : TO θ T a o) {t : TypeId} {x : Operand} {b : Bool} (ho : o.op = .unOp .not t x)
    (hx : opv T x = some (.bool b)) : OpOk E.P o nm θ h w a (.bool (!b)) h := by
  have e1 := W_plain rfl (ht _ (by simp [ho, Op.operands]) _ hx)
  refine opOk_same hr (u := .bool (!b)) ?_ rfl
  simp [execOp, ho, e1, Op.unary]

/-- An operation of named memory is that operation of the world. -/
theorem xop_sound [LG] {E : Env} (hE : EnvT E) {o : Oper} {nm : Nat} {θ : Th} {h h' : Hp} {w : World} {a : Act} {T : Tm} {v : Value} (hr : HR θ h w) (ht : TO θ T a o) {call : Nat → List Value → Hp → Option (Value × Hp)} (hcall : CallAt E.P call nm h) (hnm : θ nm = none)
    (hx : xop E call nm o T h = some (v, h')) : OpWp E.P o nm θ h w a v h' := by
  unfold xop xopR at hx
  split at hx
  · rename_i x ho
    unfold xMove at hx
    obtain ⟨u, k1, k2⟩ := ob_some hx
    cases k2
    exact (op_move hE hr ht ho k1).wp
  · rename_i x ho
    unfold xMove at hx
    obtain ⟨u, k1, k2⟩ := ob_some hx
    cases k2
    exact (op_assign hE hr ht ho k1).wp
  · rename_i c x y ho
    unfold xPick at hx
    split at hx
    · rename_i hc
      obtain ⟨u, k1, k2⟩ := ob_some hx
      cases k2
      exact (op_pick hE hr ht ho hc (by simpa using k1)).wp
    · rename_i hc
      obtain ⟨u, k1, k2⟩ := ob_some hx
      cases k2
      exact (op_pick hE hr ht ho hc (by simpa using k1)).wp
    · cases hx
  · rename_i t ho
    unfold xAlloc at hx
    obtain ⟨ti, k1, k2⟩ := ob_some hx
    cases k2
    unfold allocE
    split
    · cases hz : isBld0 ti.zero <;> simp only [cond_true, cond_false]
      · exact (op_alloc hE hr ht hnm ho k1).wp
      · exact (op_allocB hE hr hnm ho k1 hz).wp
    · exact (op_alloc hE hr ht hnm ho k1).wp
  · rename_i t x ho
    unfold xBox at hx
    obtain ⟨u, k1, k2⟩ := ob_some hx
    obtain ⟨cs, k3, k4⟩ := ob_some k2
    cases k4
    exact (op_box hE hr ht hnm ho k1 k3).wp
  · rename_i t parts ho
    unfold xBuild at hx
    obtain ⟨ti, k1, k2⟩ := ob_some hx
    cases hk : Nat.beq ti.kind 3 <;> simp only [hk, cond_true, cond_false] at k2
    · cases hk2 : Nat.beq ti.kind 2 <;> simp only [hk2, cond_true, cond_false, reduceCtorEq] at k2
      obtain ⟨ei, k3, k4⟩ := ob_some k2
      obtain ⟨ps, k5, k6⟩ := ob_some k4
      obtain ⟨cs, k7, k8⟩ := ob_some k6
      cases k8
      exact (op_build_array hE hr ht ho k1 (Nat.eq_of_beq_eq_true hk2) k3 k5 k7).wp
    · obtain ⟨ps, k5, k6⟩ := ob_some k2
      obtain ⟨cs, k7, k8⟩ := ob_some k6
      cases k8
      exact (op_build_struct hE hr ht ho k1 (Nat.eq_of_beq_eq_true hk) k5 k7).wp
  · rename_i t len parts ho
    unfold xBuildSlice at hx
    obtain ⟨ti, k1, k2⟩ := ob_some hx
    obtain ⟨ei, k3, k4⟩ := ob_some k2
    cases hq : (Nat.beq ti.kind 1 && Nat.ble (len * ei.size) 16777216 && Nat.ble len 16777216 && Nat.beq ei.zero.length ei.size) <;> simp only [hq, cond_true, cond_false, reduceCtorEq] at k4
    simp only [Bool.and_eq_true] at hq
    obtain ⟨ps, k5, k6⟩ := ob_some k4
    obtain ⟨cs, k7, k8⟩ := ob_some k6
    cases k8
    exact (op_buildSlice hE hr ht hnm ho k1 (Nat.eq_of_beq_eq_true hq.1.1.1) k3 (Nat.le_of_ble_eq_true hq.1.1.2) (Nat.le_of_ble_eq_true hq.1.2) (Nat.eq_of_beq_eq_true hq.2) k5 k7).wp
  · rename_i t x ho
    unfold xLoad at hx
    split at hx
    · rename_i ad hop
      obtain ⟨ti, k1, k2⟩ := ob_some hx
      exact (op_load hE hr ht ho hop k1 k2).wp
    · cases hx
  · rename_i t x y ho
    unfold xStore at hx
    split at hx
    · rename_i ad u hop1 hop2
      obtain ⟨ti, k1, k2⟩ := ob_some hx
      obtain ⟨cs, k3, k4⟩ := ob_some k2
      cases hl : Nat.beq cs.length ti.size <;> simp only [hl, cond_true, cond_false, reduceCtorEq] at k4
      obtain ⟨h2, k5, k6⟩ := ob_some k4
      cases k6
      exact (op_store hE hr ht ho hop1 hop2 k1 k3 (Nat.eq_of_beq_eq_true hl) k5).wp
    · cases hx
  · rename_i x ho
    unfold xNil at hx
    split at hx
    · rename_i ad hop
      cases hx
      exact (op_nilCheck_ptr hE hr ht ho hop).wp
    · rename_i g f1 f2 hop
      cases hx
      exact (op_nilCheck_func hE hr ht ho hop).wp
    · cases hx
  · rename_i op t x y t2 ho
    unfold xBin at hx
    split at hx
    · rename_i p q hp hq
      split at hx
      · rename_i v' hf
        cases hx
        exact (op_fast hE hr ht ho hp hq hf).wp
      unfold xBinEq at hx
      cases hb : (plainA p && plainA q) <;> simp only [hb, cond_true, cond_false] at hx
      · obtain ⟨ti, k1, k2⟩ := ob_some hx
        cases hk : nilKind ti.kind p <;> simp only [hk, cond_true, cond_false, reduceCtorEq] at k2
        cases op <;> simp only [reduceCtorEq] at k2
        case eql =>
          obtain ⟨r, k3, k4⟩ := ob_some k2
          cases k4
          exact (op_nilEq hE hr ht ho hp hq k1 hk k3 (.inl rfl)).wp
        case neq =>
          obtain ⟨r, k3, k4⟩ := ob_some k2
          cases k4
          exact (op_nilEq hE hr ht ho hp hq k1 hk k3 (.inr rfl)).wp
      · exact (op_plain hE hr ht (by rw [ho]; intro _ _ e; cases e) hx).wp
    · cases hx
  · rename_i op t x ho
    unfold xUn at hx
    split at hx
    · rename_i b hb
      cases hx
      exact (op_not hE hr ht ho hb).wp
    · exact (op_plain hE hr ht (by rw [ho]; intro _ _ e; cases e) hx).wp
  · rename_i src dst x ho
    unfold xConv at hx
    split at hx
    · rename_i s hop
      obtain ⟨ti, k1, k2⟩ := ob_some hx
      cases hq : Nat.beq ti.kind 1 <;> simp only [hq, cond_true, cond_false] at k2
      · exact (op_plain hE hr ht (by rw [ho]; intro _ _ e; cases e) k2).wp
      · obtain ⟨ei, k3, k4⟩ := ob_some k2
        obtain ⟨si, k5, k6⟩ := ob_some k4
        cases hq2 : (Nat.beq ei.kind 6 && Nat.beq ei.size 1) <;> simp only [hq2, cond_true, cond_false, reduceCtorEq] at k6
        simp only [Bool.and_eq_true] at hq2
        unfold xStrB at k6
        cases hq3 : (Nat.beq nm h.nxt && Nat.ble s.size 1000000) <;> simp only [hq3, cond_true, cond_false, reduceCtorEq] at k6
        cases k6
        exact (op_strB hE hr ht hnm ho hop k1 k5 k3 (Nat.eq_of_beq_eq_true hq) (Nat.eq_of_beq_eq_true hq2.1)).wp
    · rename_i sa len cap hop
      obtain ⟨ti, k1, k2⟩ := ob_some hx
      obtain ⟨si, k3, k4⟩ := ob_some k2
      obtain ⟨ei, k5, k6⟩ := ob_some k4
      cases hq : (Nat.beq ti.kind 4 && Nat.beq si.kind 1 && Nat.beq ei.kind 6) <;> simp only [hq, cond_true, cond_false, reduceCtorEq] at k6
      simp only [Bool.and_eq_true] at hq
      obtain ⟨cs, k7, k8⟩ := ob_some k6
      obtain ⟨bs, k9, k10⟩ := ob_some k8
      cases k10
      exact (op_bytes hE hr ht ho hop k1 k3 k5 (Nat.eq_of_beq_eq_true hq.1.1) (Nat.eq_of_beq_eq_true hq.1.2) (Nat.eq_of_beq_eq_true hq.2) k7 k9).wp
    · exact (op_plain hE hr ht (by rw [ho]; intro _ _ e; cases e) hx).wp
    · cases hx
  · rename_i fn first cap ho
    unfold xMkF at hx
    split at hx
    · rename_i g vs us h1 h2
      cases hq : (vs.all capOk && us.all capOk) <;> simp only [hq, cond_true, cond_false, reduceCtorEq] at hx
      simp only [Bool.and_eq_true] at hq
      cases hx
      exact (op_makeFunc hE hr ht ho h1 h2 hq.1 hq.2).wp
    · cases hx
  · rename_i t l c ho
    unfold xMake at hx
    split at hx
    · rename_i k1 n k2 k hl hc
      obtain ⟨ti, j1, j2⟩ := ob_some hx
      obtain ⟨ei, j3, j4⟩ := ob_some j2
      cases hq : (Nat.beq ti.kind 1 && decide (0 ≤ n) && decide (n ≤ k) && decide (k ≤ 1000000) && Nat.ble ei.bytes 1000000 && Nat.beq ei.zero.length ei.size) <;> simp only [hq, cond_true, cond_false, reduceCtorEq] at j4
      simp only [Bool.and_eq_true, decide_eq_true_eq] at hq
      cases j4
      exact (op_makeSlice hE hr ht hnm ho hl hc j1 j3 (Nat.eq_of_beq_eq_true hq.1.1.1.1.1) hq.1.1.1.1.2 hq.1.1.1.2 hq.1.1.2 (Nat.le_of_ble_eq_true hq.1.2) (Nat.eq_of_beq_eq_true hq.2)).wp
    · cases hx
  · rename_i t x lo hi mx ho
    unfold xSlc at hx
    split at hx
    · rename_i sa len cap hop
      obtain ⟨ti, k1, k2⟩ := ob_some hx
      obtain ⟨ei, k3, k4⟩ := ob_some k2
      cases hk : Nat.beq ti.kind 1 <;> simp only [hk, cond_true, cond_false, reduceCtorEq] at k4
      split at k4
      · rename_i lov hiv mxv j1 j2 j3
        obtain ⟨u, k5, k6⟩ := ob_some k4
        cases k6
        exact (op_slice hE hr ht ho hop k1 k3 (Nat.eq_of_beq_eq_true hk) j1 j2 j3 k5).wp
      · cases k4
    · rename_i ad hop
      obtain ⟨ti, k1, k2⟩ := ob_some hx
      obtain ⟨ei, k3, k4⟩ := ob_some k2
      cases hk : (Nat.beq ti.kind 2 && ad.spot.isNone && mx.isNone) <;> simp only [hk, cond_true, cond_false, reduceCtorEq] at k4
      simp only [Bool.and_eq_true] at hk
      split at k4
      · rename_i lov hiv j1 j2
        split at k4
        · rename_i l u j3 j4
          cases hq : (Nat.ble l u && Nat.ble u ti.alen && Nat.blt ti.alen unkU) <;> simp only [hq, cond_true, cond_false, reduceCtorEq] at k4
          simp only [Bool.and_eq_true] at hq
          cases k4
          cases mx with
          | some m => cases hk.2
          | none => exact (op_sliceA hE hr ht ho hop (by simpa using hk.1.2) k1 k3 (Nat.eq_of_beq_eq_true hk.1.1) j1 j2 j3 j4 (Nat.le_of_ble_eq_true hq.1.1) (Nat.le_of_ble_eq_true hq.1.2) (blt_lt hq.2)).wp
        · cases k4
      · cases k4
    · exact (op_plain hE hr ht (by rw [ho]; intro _ _ e; cases e) hx).wp
    · cases hx
  · rename_i s x f ho
    unfold xField at hx
    split at hx
    · rename_i ad hop
      obtain ⟨ti, k1, k2⟩ := ob_some hx
      obtain ⟨fl, k3, k4⟩ := ob_some k2
      cases hq : (Nat.beq ti.kind 3 && !(Nat.beq fl.2 0) && ad.spot.isNone) <;> simp only [hq, cond_true, cond_false, reduceCtorEq] at k4
      simp only [Bool.and_eq_true, Bool.not_eq_true'] at hq
      cases k4
      exact (op_fieldAddr hE hr ht ho hop k1 k3 (Nat.eq_of_beq_eq_true hq.1.1) (fun e => by have := hq.1.2; rw [e] at this; cases this)).wp
    · cases hx
  · rename_i t x ix ho
    unfold xIdx at hx
    split at hx
    · rename_i ad len cap k i hop1 hop2
      obtain ⟨ti, k1, k2⟩ := ob_some hx
      obtain ⟨ei, k3, k4⟩ := ob_some k2
      cases hq : (Nat.beq ti.kind 1 && decide (0 ≤ i) && decide (i < len) && ad.spot.isNone) <;> simp only [hq, cond_true, cond_false, reduceCtorEq] at k4
      simp only [Bool.and_eq_true, decide_eq_true_eq] at hq
      cases k4
      exact (op_indexAddr_slice hE hr ht ho hop1 hop2 k1 k3 (Nat.eq_of_beq_eq_true hq.1.1.1) hq.1.1.2 hq.1.2).wp
    · rename_i ad k i hop1 hop2
      obtain ⟨ti, k1, k2⟩ := ob_some hx
      obtain ⟨ei, k3, k4⟩ := ob_some k2
      cases hq : (Nat.beq ti.kind 2 && decide (0 ≤ i) && decide (i < ti.alen) && ad.spot.isNone) <;> simp only [hq, cond_true, cond_false, reduceCtorEq] at k4
      simp only [Bool.and_eq_true, decide_eq_true_eq] at hq
      cases k4
      exact (op_indexAddr_array hE hr ht ho hop1 hop2 k1 k3 (Nat.eq_of_beq_eq_true hq.1.1.1) hq.1.1.2 hq.1.2).wp
    · cases hx
  · rename_i ho
    exact (op_plain hE hr ht (by rw [ho]; intro _ _ e; cases e) hx).wp
  · rename_i t i ho
    unfold xExtract at hx
    split at hx
    · rename_i vs hop
      obtain ⟨u, k1, k2⟩ := ob_some hx
      cases k2
      exact (op_extract hE hr ht ho hop k1).wp
    · cases hx
  · rename_i t x f ho
    unfold xFldV at hx
    split at hx
    · rename_i cs hop
      obtain ⟨u, k1, k2⟩ := ob_some hx
      cases k2
      exact (op_field hE hr ht ho hop k1).wp
    · cases hx
  · rename_i t r ho
    cases r with
    | none => cases hx; exact (op_makeMap hE hr hnm ho).wp
    | some r => cases hx
  · rename_i t x ix ok ho
    exact (op_lookup hE hr ht ho hx).wp
  · rename_i t m k x ho
    exact (op_mapUpdate hE hr ht ho hx).wp
  · rename_i c ho
    unfold xCall at hx
    split at hx
    · rename_i f hc
      unfold xCallV at hx
      split at hx
      · rename_i g first cap vs hf hvs
        cases hg : Nat.blt g unkU <;> simp only [hg, cond_true, cond_false, reduceCtorEq] at hx
        exact op_call hE hr ht hcall ho hc hf hvs (blt_lt hg) hx
      · rename_i l first cap vs hf hvs
        exact op_yield hE hr ht hcall ho hc hf hvs hx
      · cases hx
    · rename_i b hc
      unfold xCallB at hx
      split at hx
      · rename_i vs hvs
        split at hx
        · rename_i r hb
          have hx := hb.trans hx
          clear hb
          unfold xbuiltin at hx
          split at hx
          · rename_i sa n k
            split at hx
            · rename_i t ht'
              obtain ⟨ti, k1, k2⟩ := ob_some hx
              cases hk : Nat.beq ti.kind 1 <;> simp only [hk, cond_true, cond_false, reduceCtorEq] at k2
              cases k2
              exact (op_len hE hr ht ho hc hvs ht' k1 (Nat.eq_of_beq_eq_true hk)).wp
            · cases hx
          · rename_i sa n k
            split at hx
            · rename_i t ht'
              obtain ⟨ti, k1, k2⟩ := ob_some hx
              cases hk : (Nat.beq ti.kind 1 && Nat.blt k unkU) <;> simp only [hk, cond_true, cond_false, reduceCtorEq] at k2
              simp only [Bool.and_eq_true] at hk
              cases k2
              exact (op_cap hE hr ht ho hc hvs ht' k1 (Nat.eq_of_beq_eq_true hk.1) (by have := hk.2; unfold Nat.blt at this; exact Nat.le_of_ble_eq_true this)).wp
            · cases hx
          · rename_i sa len cap x
            split at hx
            · rename_i t u ht'
              obtain ⟨ti, k1, k2⟩ := ob_some hx
              obtain ⟨ei, k3, k4⟩ := ob_some k2
              obtain ⟨ui, k5, k6⟩ := ob_some k4
              cases hk : (Nat.beq ti.kind 1 && appK ui.kind x && Nat.beq ei.zero.length ei.size) <;> simp only [hk, cond_true, cond_false, reduceCtorEq] at k6
              simp only [Bool.and_eq_true] at hk
              obtain ⟨nc, k7, k8⟩ := ob_some k6
              exact (op_append hE hr ht hnm ho hc hvs ht' k1 k3 k5 (Nat.eq_of_beq_eq_true hk.1.1) hk.1.2 (Nat.eq_of_beq_eq_true hk.2) k7 k8).wp
            · cases hx
          · rename_i sa len cap x
            split at hx
            · rename_i t u ht'
              obtain ⟨ti, k1, k2⟩ := ob_some hx
              obtain ⟨ei, k3, k4⟩ := ob_some k2
              cases hk : Nat.beq ti.kind 1 <;> simp only [hk, cond_true, cond_false, reduceCtorEq] at k4
              split at k4
              · rename_i sb n k
                split at k4
                · rename_i ad bd
                  obtain ⟨cs, k5, k6⟩ := ob_some k4
                  obtain ⟨h2, k7, k8⟩ := ob_some k6
                  cases k8
                  exact (op_copy hE hr ht ho hc hvs ht' k1 k3 (Nat.eq_of_beq_eq_true hk) k5 k7).wp
                · cases hz : Nat.beq (min n len) 0 <;> simp only [hz, cond_true, cond_false, reduceCtorEq] at k4
                  cases k4
                  exact (op_copy_none hE hr ht ho hc hvs ht' k1 k3 (Nat.eq_of_beq_eq_true hk) (Nat.eq_of_beq_eq_true hz)).wp
              · cases k4
            · cases hx
          · rename_i s
            split at hx
            · rename_i t ht'
              obtain ⟨ti, k1, k2⟩ := ob_some hx
              cases hk : Nat.beq ti.kind 4 <;> simp only [hk, cond_true, cond_false, reduceCtorEq] at k2
              cases k2
              exact (op_lenStr hE hr ht ho hc hvs ht' k1 (Nat.eq_of_beq_eq_true hk)).wp
            · cases hx
          · rename_i k x l y
            cases hx
            exact (op_min hE hr ht ho hc hvs).wp
          · rename_i k x l y
            cases hx
            exact (op_max hE hr ht ho hc hvs).wp
          · cases hx
        · cases hq : (allPlain vs && plainB b) <;> simp only [hq, cond_true, cond_false, reduceCtorEq] at hx
          exact (op_plain hE hr ht (by rw [ho]; intro _ _ e; cases e) hx).wp
      · cases hx
    · rename_i r name hc
      unfold xCallI at hx
      split at hx
      · rename_i t x vs hf hvs
        obtain ⟨ti, k1, k2⟩ := ob_some hx
        cases hq : (Nat.ble 1 ti.kind && !(Nat.beq ti.kind 7)) <;> simp only [hq, cond_true, cond_false, reduceCtorEq] at k2
        obtain ⟨g, k3, k4⟩ := ob_some k2
        cases hg : Nat.blt g unkU <;> simp only [hg, cond_true, cond_false, reduceCtorEq] at k4
        simp only [Bool.and_eq_true, Bool.not_eq_true'] at hq
        exact op_invoke hE hr ht hcall ho hc hf hvs k1 (Nat.le_of_ble_eq_true hq.1) (Nat.ne_of_beq_eq_false hq.2) k3 (blt_lt hg) k4
      · cases hx
  · rename_i t x ho
    unfold xMkI at hx
    obtain ⟨u, k1, k2⟩ := ob_some hx
    obtain ⟨ti, k3, k4⟩ := ob_some k2
    cases hq : (ifaOk u && Nat.ble 1 ti.kind) <;> simp only [hq, cond_true, cond_false, reduceCtorEq] at k4
    simp only [Bool.and_eq_true] at hq
    cases k4
    exact (op_makeIface hE hr ht ho k1 k3 hq.1 (Nat.le_of_ble_eq_true hq.2)).wp
  · cases hx

end Go.Ev
