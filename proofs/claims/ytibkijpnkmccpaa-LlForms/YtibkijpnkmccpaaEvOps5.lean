/- Operation by operation: the built-in functions, reslicing. -/
import Derived.Test.YtibkijpnkmccpaaEvOps4
set_option linter.unusedVariables false
set_option linter.unusedSimpArgs false
namespace Go.Ev
open Go.Deep Go.RowKit

theorem op_makeSlice [LG] {E : Env} (hE : EnvT E) {o : Oper} {nm : Nat} {θ : Th} {h : Hp} {w : World} {a : Act} {T : Tm} (hr : HR θ h w) (ht : TO θ T a o) {t : TypeId} {l c : Operand} {k1 k2 : IntKind} {n k : Int} {ti ei : TI}
    (hnm : θ nm = none) (ho : o.op = .makeSlice t l c) (hl : opv T l = some (.int k1 n)) (hc : opv T c = some (.int k2 k)) (hti : tget E.tt t = some ti) (hei : tget E.tt ti.elem = some ei) (hk : ti.kind = 1)
    (h0 : 0 ≤ n) (h1 : n ≤ k) (h2 : k ≤ 1000000) (hb : ei.bytes ≤ 1000000) (hzl : ei.zero.length = ei.size) :
    OpOk E.P o nm θ h w a (.slice (some ⟨nm, 0, none⟩) n.toNat k.toNat) (halloc h nm (mkEnt (lrep ei.zero k.toNat) 0)) := by
  obtain ⟨i, d, z, fl, g1, g2, g3, g4, g5, rfl⟩ := ti_spec (hE _ _ hti)
  obtain ⟨i2, d2, z2, fs2, m1, m2, m3, m4, m5, rfl⟩ := ti_spec (hE _ _ hei)
  simp only at hk hei m1 m2 hb hzl
  rw [kind_slice hk] at g2
  obtain ⟨e1, e2⟩ := alloc_sound hr hnm [] (plain_all2 (plain_lrep m5 k.toNat)) (kindOf d).2.1 0 0 (fun e => absurd rfl e)
  simp only [List.append_nil] at e1 e2
  have hln : a.eval l = .int k1 n := ht _ (by simp [ho, Op.operands]) _ hl
  have hcn : a.eval c = .int k2 k := ht _ (by simp [ho, Op.operands]) _ hc
  refine ⟨_, _, .slice (some ⟨w.heap.size, 0, none⟩) n.toNat k.toNat, _, ?_, .inl rfl, e2, e1, ?_⟩
  · have w1 := wrap_small h0 (by omega)
    have w2 := wrap_small (n := k) (by omega) h2
    have hbig : (i2.bytes : Int) * k ≤ 1000000000000 := by
      have : (i2.bytes : Int) * k ≤ 1000000 * 1000000 := Int.mul_le_mul (by omega) h2 (by omega) (by omega)
      omega
    have hnb : ¬ (281474976710656 < (i2.bytes : Int) * k) := by omega
    have hk0 : ¬ k < 0 := by omega
    have hn0 : ¬ n < 0 := by omega
    have hnk : ¬ k < n := by omega
    by_cases e : k.toNat * i2.size = 0
    · have hn : (lrep z2.cells.toList k.toNat) = [] := List.eq_nil_of_length_eq_zero (by rw [lrep_length, hzl, e])
      rw [hn]
      simp [execOp, ho, Instr.makeSlice, run_underlying g2, hln, hcn, asInt, asIntOf, w1, w2, run_typeInfo m1, hnb, hk0, hn0, hnk, run_sizeOf m1, e, newRow]
      have hz0 : ∀ f : Nat → Value, (Array.range 0).map f = ([] : List Value).toArray := fun f => by simp
      rw [hz0]
    · have hrow := range_zero z2.cells.toList k.toNat
      rw [hzl] at hrow
      simp only [Array.toArray_toList] at hrow
      simp [execOp, ho, Instr.makeSlice, run_underlying g2, hln, hcn, asInt, asIntOf, w1, w2, run_typeInfo m1, hnb, hk0, hn0, hnk, run_sizeOf m1, e, newRow, run_zeroValue m1 m3]
      congr 2
  · exact .inl ⟨rfl, (w.heap.size, 0, 0), k.toNat, by simp, .inl ⟨by unfold unkU; omega, rfl⟩, rfl⟩

/-- A call of a built-in function, by what the model's own text of it gives. -/
theorem run_builtin {P : Program} {w w' : World} {a : Act} {o : Oper} {c : Call} {b : Builtin} {us : List Value} {u : Value} (ho : o.op = .call c) (hc : c.callee = .builtin b) (hu : c.args.toList.map a.eval = us) {s : Sem Value}
    (hb : ∀ consts, builtin b c.argTypes o.type consts us.toArray = (do pure (.value (← s)))) (hs : s.run P w = .ok u w') : (execOp a.eval o).run P w = .ok (.value u) w' := by
  have harr : c.args.map a.eval = us.toArray := by apply Array.ext'; simp [← hu]
  simp [execOp, ho, resolve, hc, invoke, harr, hb, hs]

theorem op_len [LG] {E : Env} (hE : EnvT E) {o : Oper} {nm : Nat} {θ : Th} {h : Hp} {w : World} {a : Act} {T : Tm} (hr : HR θ h w) (ht : TO θ T a o) {c : Call} {sa : Option Addr} {n k : Nat} {t : TypeId} {ti : TI}
    (ho : o.op = .call c) (hc : c.callee = .builtin .len) (hv : opvs (opv T) c.args.toList = some [.slice sa n k]) (htys : c.argTypes.toList = [t]) (hti : tget E.tt t = some ti) (hk : ti.kind = 1) : OpOk E.P o nm θ h w a (.int .i64 n) h := by
  obtain ⟨i, d, z, fl, g1, g2, g3, g4, g5, rfl⟩ := ti_spec (hE _ _ hti)
  simp only at hk
  rw [kind_slice hk] at g2
  have hw := opvs_O (fun y hy => ht y (by simp [ho, Op.operands, Call.operands]; exact .inr (by simpa using hy))) hv
  have hat : c.argTypes = #[t] := by rw [← Array.toArray_toList (xs := c.argTypes), htys]
  match hm : c.args.toList.map a.eval, hw with
  | [y], hw =>
    have hy : ∃ x c', y = .slice x n c' := by
      cases sa with
      | none => exact ⟨none, k, hw.1⟩
      | some ad => obtain ⟨x, c', e, _⟩ := SlR.some hw.1; exact ⟨_, c', e⟩
    obtain ⟨x, c', rfl⟩ := hy
    refine opOk_same hr (u := .int .i64 n) (run_builtin ho hc hm (s := Builtin.len_ c.argTypes o.type #[.slice x n c']) (fun _ => rfl) ?_) rfl
    simp [Builtin.len_, hat, run_underlying g2, goInt]

theorem op_cap [LG] {E : Env} (hE : EnvT E) {o : Oper} {nm : Nat} {θ : Th} {h : Hp} {w : World} {a : Act} {T : Tm} (hr : HR θ h w) (ht : TO θ T a o) {c : Call} {sa : Option Addr} {n k : Nat} {t : TypeId} {ti : TI}
    (ho : o.op = .call c) (hc : c.callee = .builtin .cap) (hv : opvs (opv T) c.args.toList = some [.slice sa n k]) (htys : c.argTypes.toList = [t]) (hti : tget E.tt t = some ti) (hk : ti.kind = 1) (hlt : k < unkU) : OpOk E.P o nm θ h w a (.int .i64 k) h := by
  obtain ⟨i, d, z, fl, g1, g2, g3, g4, g5, rfl⟩ := ti_spec (hE _ _ hti)
  simp only at hk
  rw [kind_slice hk] at g2
  have hw := opvs_O (fun y hy => ht y (by simp [ho, Op.operands, Call.operands]; exact .inr (by simpa using hy))) hv
  have hat : c.argTypes = #[t] := by rw [← Array.toArray_toList (xs := c.argTypes), htys]
  match hm : c.args.toList.map a.eval, hw with
  | [y], hw =>
    have hy : ∃ x, y = .slice x n k := by
      cases sa with
      | none => exact ⟨none, hw.1⟩
      | some ad =>
        obtain ⟨x, c', e, hc'⟩ := SlR.some hw.1
        rw [hc' hlt] at e
        exact ⟨_, e⟩
    obtain ⟨x, rfl⟩ := hy
    refine opOk_same hr (u := .int .i64 k) (run_builtin ho hc hm (s := Builtin.cap_ c.argTypes o.type #[.slice x n k]) (fun _ => rfl) ?_) rfl
    simp [Builtin.cap_, hat, run_underlying g2, goInt]

/-- The first cells of a slice, whatever has been drawn. -/
theorem first_sound [LG] {P : Program} {θ : Th} {h : Hp} {w : World} (hr : HR θ h w) {sz n : Nat} {sa : Option Addr} {cap : Nat} {cs : List Value} {y : Value} (hy : W θ (.slice sa n cap) y) (hc : oldCells h sz sa n = some cs) :
    ∃ x c ds, y = .slice x n c ∧ all2 (S θ) cs ds ∧ ds.length = n * sz ∧ ∀ k, (Builtin.firstCells sz n (.slice x n c)).run P { w with drawn := k } = .ok (List.toArray ds) { w with drawn := k } := by
  cases sa with
  | none =>
    simp only [oldCells] at hc
    cases hn : Nat.beq n 0 <;> simp [hn] at hc
    have hn0 : n = 0 := Nat.eq_of_beq_eq_true hn
    subst hc; subst hn0
    exact ⟨none, cap, [], hy, trivial, by simp, fun k => by simp [Builtin.firstCells]⟩
  | some ad =>
    simp only [oldCells] at hc
    split at hc
    case h_2 _ sp hsp =>
      rcases (show SlR θ ad n cap y from hy) with ⟨q, _⟩ | ⟨_, hn0, _, x, c', e⟩
      · rw [hsp] at q; cases q
      · subst hn0
        cases hc
        exact ⟨_, c', [], e, trivial, by simp, fun k => by simp [Builtin.firstCells, loadCells, loadCellsFrom]⟩
    rename_i hsp
    obtain ⟨hs, x, c', hx, hcap, e⟩ := SlR.here (show SlR θ ad n cap y from hy) hsp
    obtain ⟨ds, k1, k2, k3, k4⟩ := load_sound (P := P) hr hc hx
    refine ⟨_, c', ds, e, k2, k4, fun k => ?_⟩
    have := run_loadCells_list (P := P) { w with drawn := k } ⟨x.1, x.2.1 + ad.off, none⟩ ds (fun j v hv => by rw [add_addr]; exact k3 j v hv)
    rw [k4] at this
    simpa [Builtin.firstCells] using this

theorem hload_len {h : Hp} {a : Addr} {n : Nat} {cs : List Value} (hl : hload h a n = some cs) : cs.length = n := by
  unfold hload at hl
  split at hl
  · exact rd_len hl
  · cases hl

theorem hstore_nxt {h h' : Hp} {a : Addr} {cs : List Value} (hl : hstore h a cs = some h') : h'.nxt = h.nxt := by
  unfold hstore at hl
  split at hl
  · rename_i e _ _
    cases hw : wrB e <;> simp only [hw, cond_true, cond_false, reduceCtorEq] at hl
    split at hl
    · cases hl; rfl
    · cases hl
  · cases hl

theorem grow_fits {need old bytes : Nat} (h : old < need) (hn : need ≤ 1000000) (hb : bytes ≤ 1000000) : Builtin.nextslicecap need old * bytes ≤ 281474976710656 :=
  growslice_fits h (Nat.le_trans (Nat.mul_le_mul hn hb) (by decide))

theorem W_unk {θ : Th} {nm len c b o : Nat} {x : Nat × Nat × Nat} (h : θ nm = some x) (h1 : x.1 = b) (h2 : x.2.1 = o) (hc : c = x.2.2) : W θ (.slice (some ⟨nm, 0, none⟩) len unkU) (.slice (some ⟨b, o, none⟩) len c) :=
  .inl ⟨rfl, x, c, h, .inr ⟨Nat.le_refl _, by rw [Nat.sub_self, Nat.sub_zero]; exact hc⟩, by rw [← h1, ← h2]; rfl⟩

/-- An append, whatever is appended: 'run' is what the model does where there is room, 'grow' where there is none. -/
theorem append_core [LG] {P : Program} {o : Oper} {nm : Nat} {θ : Th} {h h' : Hp} {w : World} {a : Act} (hr : HR θ h w) {ti : TI} {i : TypeInfo} {z : Value} {e : TypeId} (hi : P.info? e = some i) (hz : i.zero = some z) (hts : ti.size = i.size) (htb : ti.bytes = i.bytes) (hzl : z.cells.toList.length = i.size)
    {sa : Option Addr} {len cap n : Nat} {nc ns : List Value} {y v : Value} (hnm : θ nm = none) (hy : W θ (.slice sa len cap) y) (hnc : all2 (S θ) nc ns) (hnl : ns.length = n * i.size)
    (hroom : ∀ (b : Addr) (c : Nat) (w' : World), y = .slice (some b) len c → len + n ≤ c → (storeCells (b.add (len * i.size)) ns).run P w = .ok () w' → (execOp a.eval o).run P w = .ok (.value (.slice (some b) (len + n) c)) w')
    (hroom0 : ∀ (c : Nat), y = .slice none len c → len = 0 → n = 0 → (execOp a.eval o).run P w = .ok (.value (.slice none 0 c)) w)
    (hgrow : ∀ (b : Option Addr) (c : Nat) (olds : List Value), y = .slice b len c → c < len + n → (Builtin.firstCells i.size len (.slice b len c)).run P w.drew = .ok olds.toArray w.drew → len + n ≤ 1000000 → i.bytes ≤ 1000000 →
      (execOp a.eval o).run P w = .ok (.value (.slice (some ⟨w.heap.size, 0, none⟩) (len + n) (grownCap w (len + n) c e)))
        (w.drew.alloc (.cells ((olds ++ ns) ++ lrep z.cells.toList (grownCap w (len + n) c e - (len + n))).toArray e)))
    (hx : xappend h nm ti sa len cap n nc = some (v, h')) : OpOk P o nm θ h w a v h' := by
  simp only [xappend] at hx
  cases hb : (Nat.ble (len + n) 1000000 && Nat.ble ti.bytes 1000000 && Nat.ble 1 ti.size) <;> simp only [hb, cond_true, cond_false] at hx
  · cases hx
  simp only [Bool.and_eq_true] at hb
  have b1 := Nat.le_of_ble_eq_true hb.1.1
  have b2 := Nat.le_of_ble_eq_true hb.1.2
  have b3 := Nat.le_of_ble_eq_true hb.2
  rw [hts] at hx b3
  rw [htb] at b2
  have hncl : nc.length = n * i.size := by rw [all2_len hnc, hnl]
  -- a new row
  have grow : ∀ (b : Option Addr) (c : Nat) (old olds : List Value), y = .slice b len c → c < len + n → all2 (S θ) old olds → olds.length = len * i.size →
      (Builtin.firstCells i.size len (.slice b len c)).run P w.drew = .ok olds.toArray w.drew →
      ∃ θ' w' u nx, (execOp a.eval o).run P w = .ok nx w' ∧ (nx = .value u ∨ (nx = .skip ∧ u = undef)) ∧ W θ' (.slice (some ⟨nm, 0, none⟩) (len + n) unkU) u ∧
        HR θ' (halloc h nm (mkEnt (old ++ nc) i.size)) w' ∧ Ext nm θ h w θ' (halloc h nm (mkEnt (old ++ nc) i.size)) w' ∧ θ' = (fun k => if k = nm then some (w.heap.size, 0, grownCap w (len + n) c e) else θ k) ∧
        w' = w.drew.alloc (.cells ((olds ++ ns) ++ lrep z.cells.toList (grownCap w (len + n) c e - (len + n))).toArray e) := by
    intro b c old olds hyb hc hol hll hrun
    have hge := grownCap_ge w (len + n) c e
    have hlen : (old ++ nc).length ≤ grownCap w (len + n) c e * i.size ∧ grownCap w (len + n) c e * i.size ≤ ((olds ++ ns) ++ lrep z.cells.toList (grownCap w (len + n) c e - (len + n))).length := by
      have l1 := all2_len hol
      simp only [List.length_append, lrep_length, hzl, hncl, hll, hnl, l1]
      have e1 : len * i.size + n * i.size = (len + n) * i.size := by rw [Nat.add_mul]
      rw [e1]
      have e2 : (len + n) * i.size + (grownCap w (len + n) c e - (len + n)) * i.size = grownCap w (len + n) c e * i.size := by rw [← Nat.add_mul]; congr 1; omega
      exact ⟨Nat.mul_le_mul_right _ hge, by omega⟩
    obtain ⟨g1, g2⟩ := alloc_sound (hr.drawn (w.drawn + 1)) hnm (lrep z.cells.toList (grownCap w (len + n) c e - (len + n))) (all2_append hol hnc) e (grownCap w (len + n) c e) i.size (fun _ => hlen)
    refine ⟨_, _, _, _, hgrow b c olds hyb hc hrun b1 b2, .inl rfl, ?_, g1, (Ext.drawn nm θ h w (w.drawn + 1)).trans g2 (fun _ _ k => k), rfl, rfl⟩
    exact .inl ⟨rfl, (w.heap.size, 0, grownCap w (len + n) c e), grownCap w (len + n) c e, by simp, .inr ⟨Nat.le_refl _, by simp⟩, rfl⟩
  cases hlt : Nat.blt cap unkU <;> simp only [hlt, cond_true, cond_false] at hx
  · -- the capacity is not known
    have hge : unkU ≤ cap := by
      rcases Nat.lt_or_ge cap unkU with g | g
      · have : Nat.blt cap unkU = true := by unfold Nat.blt; exact Nat.ble_eq_true_of_le g
        rw [this] at hlt; cases hlt
      · exact g
    cases sa with
    | none => cases hx
    | some b =>
      simp only at hx
      have hbs : b.spot = none := by
        have hx := hx
        split at hx
        · cases hx
        · rename_i ent hent
          cases hq : (Nat.beq ent.unk i.size && Nat.beq b.off ((cap - unkU) * i.size) && b.spot.isNone && wrB ent) <;> simp only [hq, cond_true, cond_false] at hx
          · cases hx
          · simp only [Bool.and_eq_true] at hq
            simpa using hq.1.2
      obtain ⟨hs, x, c', hxb, hcap, hyv⟩ : b.spot = none ∧ ∃ x c', θ b.block = some x ∧ capR x.2.2 cap c' ∧ y = .slice (some ⟨x.1, x.2.1 + b.off, none⟩) len c' := SlR.here hy hbs
      rcases hcap with ⟨g, _⟩ | ⟨_, hc'⟩
      · omega
      split at hx
      · cases hx
      · rename_i ent hent
        cases hq : (Nat.beq ent.unk i.size && Nat.beq b.off ((cap - unkU) * i.size) && b.spot.isNone && wrB ent) <;> simp only [hq, cond_true, cond_false] at hx
        · cases hx
        simp only [Bool.and_eq_true] at hq
        have q1 : ent.unk = i.size := Nat.eq_of_beq_eq_true hq.1.1.1
        have q2 : b.off = (cap - unkU) * i.size := Nat.eq_of_beq_eq_true hq.1.1.2
        have qw := (wrB_spec hq.2).1
        generalize hsub : cap - unkU = sub at hc' q2
        obtain ⟨xx, hxx⟩ : ∃ xx, xx = x := ⟨x, rfl⟩
        subst hxx
        have r := hr.ent _ _ _ hent hxb
        cases hin : Nat.ble (b.off + (len + n) * i.size) ent.len <;> simp only [hin, cond_true, cond_false] at hx
        · -- it may be either
          obtain ⟨old, hold, hv⟩ := ob_some hx
          cases hv
          rw [q2] at hold
          by_cases hroomy : len + n ≤ c'
          · obtain ⟨g1, g2, g3⟩ := derive_sound (P := P) hr hent hxb hnm b3 q1 qw hold hnc hncl (by rw [← hc']; exact hroomy)
            refine ⟨_, _, .slice (some ⟨xx.1, xx.2.1 + b.off, none⟩) (len + n) c', _, hroom _ c' _ hyv hroomy ?_, .inl rfl, g3, g2, ?_⟩
            · rw [add_addr, q2]; exact g1
            · exact W_unk (x := (xx.1, xx.2.1 + sub * i.size, xx.2.2 - sub)) (by simp) rfl (by rw [q2]) hc'
          · have hl : hload h b (len * i.size) = some old := by
              unfold hload
              rw [hs, hent]
              simp only
              rw [q2]; exact hold
            obtain ⟨ds, k1, k2, k3, k4⟩ := load_sound (P := P) hr hl hxb
            have hrun : (Builtin.firstCells i.size len (.slice (some ⟨xx.1, xx.2.1 + b.off, none⟩) len c')).run P w.drew = .ok ds.toArray w.drew := by
              have := run_loadCells_list (P := P) w.drew ⟨xx.1, xx.2.1 + b.off, none⟩ ds (fun j v hv => by rw [add_addr]; exact k3 j v hv)
              rw [k4] at this
              simpa [Builtin.firstCells] using this
            obtain ⟨θ', w', u, nx, m1, m2, m3, m4, m5, rfl, m6⟩ := grow _ c' old ds hyv (by omega) k2 k4 hrun
            refine ⟨_, _, u, nx, m1, m2, ?_, ?_, m3⟩
            · refine ⟨m5.keep, m5.only, m5.nxt, m5.size, m5.tape, m5.os, m5.output, m5.frame, fun k ek zk h1 huk h2 => ?_, fun k ek zk h1 h2 => ?_⟩
              all_goals
                simp only [halloc, tget_tset] at h1
                first | refine m5.ownw k ek zk ?_ huk h2 | refine m5.own k ek zk ?_ h2
                simp only [halloc, tget_tset]
                by_cases hk : nm = k
                · rw [if_pos hk] at h1 ⊢; exact h1
                · rw [if_neg hk] at h1 ⊢
                  by_cases hk2 : b.block = k
                  · rw [if_pos hk2] at h1; cases h1
                  · rw [if_neg hk2] at h1; exact h1
            · have lift : ∀ k ek, tget (halloc ⟨tset h.m b.block none, h.nxt⟩ nm (mkEnt (old ++ nc) i.size)).m k = some ek → tget (halloc h nm (mkEnt (old ++ nc) i.size)).m k = some ek := by
                intro k ek h1
                simp only [halloc, tget_tset] at h1 ⊢
                by_cases hk : nm = k
                · rw [if_pos hk] at h1 ⊢; exact h1
                · rw [if_neg hk] at h1 ⊢
                  by_cases hk2 : b.block = k
                  · rw [if_pos hk2] at h1; cases h1
                  · rw [if_neg hk2] at h1; exact h1
              exact ⟨fun k ek xk h1 => m4.ent k ek xk (lift k ek h1), fun k m e1 e2 x1 x2 h1 h2 hne t1 t2 => m4.sep k m e1 e2 x1 x2 (lift _ _ h1) (lift _ _ h2) hne t1 t2, m4.fresh⟩
        · -- there is room
          have hle := Nat.le_of_ble_eq_true hin
          obtain ⟨h2, hst, hv⟩ := ob_some hx
          cases hv
          obtain ⟨g1, g2, g3⟩ := store_sound (P := P) hr hst (x := xx) hxb hnc
          have hrm := (r.room (by omega)).1
          rw [q1] at hrm
          have hroomy : len + n ≤ c' := by
            rw [hc']
            have hmul : (sub + (len + n)) * i.size ≤ xx.2.2 * i.size := by rw [Nat.add_mul]; omega
            have := Nat.le_of_mul_le_mul_right hmul (by omega)
            omega
          refine ⟨θ, _, .slice (some ⟨xx.1, xx.2.1 + b.off, none⟩) (len + n) c', _, hroom _ c' _ hyv hroomy ?_, .inl rfl, g3 nm, g2, .inl ⟨hs, xx, c', hxb, .inr ⟨hge, by rw [hsub]; exact hc'⟩, rfl⟩⟩
          rw [add_addr, Nat.add_assoc]; exact g1
  · -- the capacity is known
    have hltc : cap < unkU := by unfold Nat.blt at hlt; exact Nat.le_of_ble_eq_true hlt
    cases hle : Nat.ble (len + n) cap <;> simp only [hle, cond_true, cond_false] at hx
    · have hgt : cap < len + n := by
        rcases Nat.lt_or_ge cap (len + n) with g | g
        · exact g
        · rw [Nat.ble_eq_true_of_le g] at hle; cases hle
      obtain ⟨old, hold, hv⟩ := ob_some hx
      cases hv
      obtain ⟨b, c, ds, hyv, k2, k4, hrun⟩ := first_sound (P := P) hr hy hold
      have hcc : c = cap := by
        cases sa with
        | none =>
          have h1 : y = .slice none len cap := hy
          rw [hyv] at h1; cases h1; rfl
        | some ad =>
          obtain ⟨_, x, c', _, hcap, h1⟩ : ad.spot = none ∧ ∃ x c', θ ad.block = some x ∧ capR x.2.2 cap c' ∧ y = .slice (some ⟨x.1, x.2.1 + ad.off, none⟩) len c' := (show SlR θ ad len cap y from hy).resolve_right fun q => by have := q.2.2.1; omega
          rw [hyv] at h1
          cases h1
          rcases hcap with ⟨_, h2⟩ | ⟨h2, _⟩
          · exact h2
          · omega
      obtain ⟨θ', w', u, nx, m1, m2, m3, m4, m5, _, _⟩ := grow b c old ds hyv (by omega) k2 k4 (hrun (w.drawn + 1))
      exact ⟨θ', w', u, nx, m1, m2, m5, m4, m3⟩
    · have hroomy := Nat.le_of_ble_eq_true hle
      cases sa with
      | none =>
        simp only at hx
        cases hz0 : Nat.beq (len + n) 0 <;> simp only [hz0, cond_true, cond_false] at hx
        · cases hx
        · cases hx
          have hn0 : len + n = 0 := Nat.eq_of_beq_eq_true hz0
          have h1 : y = .slice none len cap := hy
          exact opOk_same hr (hroom0 cap h1 (by omega) (by omega)) rfl
      | some b =>
        simp only at hx
        obtain ⟨h2, hst, hv⟩ := ob_some hx
        cases hv
        obtain ⟨hs, x, c', hxb, hcap, hyv⟩ : b.spot = none ∧ ∃ x c', θ b.block = some x ∧ capR x.2.2 cap c' ∧ y = .slice (some ⟨x.1, x.2.1 + b.off, none⟩) len c' := (show SlR θ b len cap y from hy).resolve_right fun q => by have := q.2.2.1; omega
        obtain ⟨g1, g2, g3⟩ := store_sound (P := P) hr hst (x := x) hxb hnc
        rcases hcap with ⟨_, hc'⟩ | ⟨hge, _⟩
        · subst hc'
          refine ⟨θ, _, .slice (some ⟨x.1, x.2.1 + b.off, none⟩) (len + n) c', _, hroom _ c' _ hyv hroomy ?_, .inl rfl, g3 nm, g2, .inl ⟨hs, x, c', hxb, .inl ⟨hltc, rfl⟩, rfl⟩⟩
          rw [add_addr, Nat.add_assoc]; exact g1
        · omega

end Go.Ev
