/- Operation by operation: append, copy, reslicing, nil. -/
import Derived.Test.YtibkijpnkmccpaaEvOps5
set_option linter.unusedVariables false
set_option linter.unusedSimpArgs false
namespace Go.Ev
open Go.Deep Go.RowKit

theorem op_append [LG] {E : Env} (hE : EnvT E) {o : Oper} {nm : Nat} {θ : Th} {h h' : Hp} {w : World} {a : Act} {T : Tm} {v : Value} (hr : HR θ h w) (ht : TO θ T a o) {c : Call} {sa : Option Addr} {len cap : Nat} {x : Value} {t u : TypeId} {ti ei ui : TI} {nc : Nat × List Value}
    (hnm : θ nm = none) (ho : o.op = .call c) (hc : c.callee = .builtin .append) (hv : opvs (opv T) c.args.toList = some [.slice sa len cap, x]) (htys : c.argTypes.toList = [t, u]) (hti : tget E.tt t = some ti) (hei : tget E.tt ti.elem = some ei) (hui : tget E.tt u = some ui)
    (hk : ti.kind = 1) (hxk : appK ui.kind x = true) (hzl : ei.zero.length = ei.size) (hnew : newCells h ei x = some nc) (hx : xappend h nm ei sa len cap nc.1 nc.2 = some (v, h')) :
    OpOk E.P o nm θ h w a v h' := by
  obtain ⟨i, d, z, fl, g1, g2, g3, g4, g5, rfl⟩ := ti_spec (hE _ _ hti)
  obtain ⟨i2, d2, z2, fs2, m1, m2, m3, m4, m5, rfl⟩ := ti_spec (hE _ _ hei)
  obtain ⟨i3, d3, z3, fs3, p1, p2, p3, p4, p5, rfl⟩ := ti_spec (hE _ _ hui)
  simp only at hk hei m1 m2 hzl hxk
  rw [kind_slice hk] at g2
  have hat : c.argTypes = #[t, u] := by rw [← Array.toArray_toList (xs := c.argTypes), htys]
  have hw := opvs_O (fun y hy => ht y (by simp [ho, Op.operands, Call.operands]; exact .inr (by simpa using hy))) hv
  match hm : c.args.toList.map a.eval, hw with
  | [y, xv], hw =>
    have hrun : ∀ {s : Value} {w' : World}, (Builtin.append_ #[t, u] o.type #[y, xv]).run E.P w = .ok s w' → (execOp a.eval o).run E.P w = .ok (.value s) w' := fun {s w'} hs =>
      run_builtin ho hc hm (s := Builtin.append_ c.argTypes o.type #[y, xv]) (fun _ => rfl) (by rw [hat]; exact hs)
    cases x with
    | slice xa n xc =>
      have hd3 := kind_slice (Nat.eq_of_beq_eq_true hxk)
      rw [hd3] at p2
      have hoc : nc.1 = n ∧ oldCells h i2.size xa n = some nc.2 := by
        cases xa with
        | none =>
          simp only [newCells] at hnew
          cases hn : Nat.beq n 0 <;> simp [hn] at hnew
          subst hnew
          exact ⟨(Nat.eq_of_beq_eq_true hn).symm, by simp [oldCells, hn]⟩
        | some ad =>
          simp only [newCells] at hnew
          obtain ⟨cs, k1, k2⟩ := ob_some hnew
          cases k2
          exact ⟨rfl, k1⟩
      obtain ⟨hn1, hoc⟩ := hoc
      obtain ⟨b, xc', ns, hxv, k2, k4, hfirst⟩ := first_sound (P := E.P) hr hw.2.1 hoc
      subst hxv
      rw [hn1] at hx
      refine append_core hr m1 m3 rfl rfl hzl hnm hw.1 k2 k4 ?_ ?_ ?_ hx
      · intro b' c' w' hy hroom hst
        subst hy
        exact hrun (app_room_slice w t u o.type _ i2 z2 g2 p2 m1 m3 b' len c' b n xc' ns (fun s' => by
          by_cases e : s' = w
          · subst e; exact .inl (hfirst s'.drawn)
          · exact .inr e) hroom w' hst)
      · intro c' hy hl0 hn0
        subst hy; subst hl0; subst hn0
        have := hfirst w.drawn
        refine hrun ?_
        simp at k4
        subst k4
        have hf : (Builtin.firstCells i2.size 0 (.slice b 0 xc')).run E.P w = .ok #[] w := this
        simp [Builtin.append_, run_underlying g2, run_underlying p2, sizeOf, typeInfo, m1, Builtin.lenOf, hf]
      · intro b' c' olds hy hlt hold hb1 hb2
        subst hy
        exact hrun (app_grow_slice w t u o.type _ i2 z2 g2 p2 m1 m3 b' len c' b n xc' olds ns (hfirst (w.drawn + 1)) hold hlt (by omega) (grow_fits hlt hb1 hb2))
    | int k n =>
      obtain ⟨k3, hd3⟩ := kind_int (Nat.eq_of_beq_eq_true hxk)
      rw [hd3] at p2
      have hxv : xv = .int k n := hw.2.1
      subst hxv
      cases k <;> simp only [newCells, reduceCtorEq] at hnew
      case i64 =>
        cases hb : (decide (0 ≤ n) && decide (n ≤ 1000000)) <;> simp only [hb, cond_true, cond_false] at hnew
        · cases hnew
        · cases hnew
          simp only [Bool.and_eq_true, decide_eq_true_eq] at hb
          refine append_core hr m1 m3 rfl rfl hzl hnm hw.1 (plain_all2 (plain_lrep m5 n.toNat)) (by rw [lrep_length, hzl]) ?_ ?_ ?_ hx
          · intro b' c' w' hy hroom hst
            subst hy
            by_cases hbb : i2.bytes ≤ 1000000
            · exact hrun (app_room_zeros w t u o.type _ i2 z2 g2 p2 m1 m3 hzl b' len c' n hb.1 hb.2 hbb hroom w' hst)
            · exfalso
              simp only [xappend] at hx
              have : Nat.ble i2.bytes 1000000 = false := by
                cases hq : Nat.ble i2.bytes 1000000
                · rfl
                · exact absurd (Nat.le_of_ble_eq_true hq) hbb
              simp [this] at hx
          · intro c' hy hl0 hn0
            subst hy; subst hl0
            have hn1 : n = 0 := by omega
            subst hn1
            refine hrun ?_
            have hw0 := wrap_small (n := 0) (by omega) (by omega)
            simp [Builtin.append_, run_underlying g2, run_underlying p2, sizeOf, typeInfo, m1, asInt, asIntOf, hw0]
          · intro b' c' olds hy hlt hold hb1 hb2
            subst hy
            exact hrun (app_grow_zeros w t u o.type _ i2 z2 g2 p2 m1 m3 hzl b' len c' n hb.1 hb.2 hb2 olds hold hlt (by omega) (grow_fits hlt hb1 hb2))
    | _ => cases hxk

theorem all2_two {α β : Type} {p : α → β → Prop} {a b : α} : ∀ {l : List β}, all2 p [a, b] l → ∃ x y, l = [x, y] ∧ p a x ∧ p b y
  | [x, y], h => ⟨x, y, rfl, h.1, h.2.1⟩
  | [], h => h.elim
  | [_], h => h.2.elim
  | _ :: _ :: _ :: _, h => h.2.2.elim

theorem hload_spot {h : Hp} {a : Addr} {n : Nat} {cs : List Value} (hl : hload h a n = some cs) : a.spot = none := by
  unfold hload at hl
  split at hl
  · rename_i h1 _; exact h1
  · cases hl

theorem hstore_spot {h h' : Hp} {a : Addr} {cs : List Value} (hl : hstore h a cs = some h') : a.spot = none := by
  unfold hstore at hl
  split at hl
  · rename_i h1 _; exact h1
  · cases hl

theorem op_copy [LG] {E : Env} (hE : EnvT E) {o : Oper} {nm : Nat} {θ : Th} {h h' : Hp} {w : World} {a : Act} {T : Tm} (hr : HR θ h w) (ht : TO θ T a o) {c : Call} {ad bd : Addr} {len cap n k : Nat} {t u : TypeId} {ti ei : TI} {cs : List Value}
    (ho : o.op = .call c) (hc : c.callee = .builtin .copy) (hv : opvs (opv T) c.args.toList = some [.slice (some ad) len cap, .slice (some bd) n k]) (htys : c.argTypes.toList = [t, u]) (hti : tget E.tt t = some ti) (hei : tget E.tt ti.elem = some ei)
    (hk : ti.kind = 1) (hl : hload h bd (min n len * ei.size) = some cs) (hs : hstore h ad cs = some h') : OpOk E.P o nm θ h w a (.int .i64 (min n len : Nat)) h' := by
  obtain ⟨i, d, z, fl, g1, g2, g3, g4, g5, rfl⟩ := ti_spec (hE _ _ hti)
  obtain ⟨i2, d2, z2, fs2, m1, m2, m3, m4, m5, rfl⟩ := ti_spec (hE _ _ hei)
  simp only at hk hei m1 m2 hl
  rw [kind_slice hk] at g2
  have hat : c.argTypes = #[t, u] := by rw [← Array.toArray_toList (xs := c.argTypes), htys]
  have hw := opvs_O (fun y hy => ht y (by simp [ho, Op.operands, Call.operands]; exact .inr (by simpa using hy))) hv
  obtain ⟨y, xv, hm, hw1, hw2⟩ := all2_two hw
  · obtain ⟨_, x1, c1, hx1, _, rfl⟩ : ad.spot = none ∧ ∃ x c', θ ad.block = some x ∧ capR x.2.2 cap c' ∧ y = .slice (some ⟨x.1, x.2.1 + ad.off, none⟩) len c' := SlR.here hw1 (hstore_spot hs)
    obtain ⟨_, x2, c2, hx2, _, rfl⟩ : bd.spot = none ∧ ∃ x c', θ bd.block = some x ∧ capR x.2.2 k c' ∧ xv = .slice (some ⟨x.1, x.2.1 + bd.off, none⟩) n c' := SlR.here hw2 (hload_spot hl)
    obtain ⟨ds, k1, k2, k3, k4⟩ := load_sound (P := E.P) hr hl hx2
    obtain ⟨q1, q2, q3⟩ := store_sound (P := E.P) hr hs hx1 k2
    refine ⟨θ, _, .int .i64 (min n len : Nat), _, run_builtin ho hc hm (s := Builtin.copy_ c.argTypes o.type #[.slice (some ⟨x1.1, x1.2.1 + ad.off, none⟩) len c1, .slice (some ⟨x2.1, x2.2.1 + bd.off, none⟩) n c2]) (fun _ => rfl) ?_, .inl rfl, q3 nm, q2, rfl⟩
    have hmin : Nat.min n len = min n len := rfl
    simp [Builtin.copy_, hat, run_underlying g2, Builtin.lenOf, Builtin.firstCells, run_sizeOf m1, hmin, k1, q1, goInt]

theorem op_copy_none [LG] {E : Env} (hE : EnvT E) {o : Oper} {nm : Nat} {θ : Th} {h : Hp} {w : World} {a : Act} {T : Tm} (hr : HR θ h w) (ht : TO θ T a o) {c : Call} {ad bd : Option Addr} {len cap n k : Nat} {t u : TypeId} {ti ei : TI}
    (ho : o.op = .call c) (hc : c.callee = .builtin .copy) (hv : opvs (opv T) c.args.toList = some [.slice ad len cap, .slice bd n k]) (htys : c.argTypes.toList = [t, u]) (hti : tget E.tt t = some ti) (hei : tget E.tt ti.elem = some ei)
    (hk : ti.kind = 1) (hz : min n len = 0) : OpOk E.P o nm θ h w a (.int .i64 0) h := by
  obtain ⟨i, d, z, fl, g1, g2, g3, g4, g5, rfl⟩ := ti_spec (hE _ _ hti)
  obtain ⟨i2, d2, z2, fs2, m1, m2, m3, m4, m5, rfl⟩ := ti_spec (hE _ _ hei)
  simp only at hk hei m1 m2
  rw [kind_slice hk] at g2
  have hat : c.argTypes = #[t, u] := by rw [← Array.toArray_toList (xs := c.argTypes), htys]
  have hw := opvs_O (fun y hy => ht y (by simp [ho, Op.operands, Call.operands]; exact .inr (by simpa using hy))) hv
  match hm : c.args.toList.map a.eval, hw with
  | [y, xv], hw =>
    have hy : ∀ (sa : Option Addr) (l c0 : Nat) (yv : Value), W θ (.slice sa l c0) yv → ∃ x c', yv = .slice x l c' := by
      intro sa l c0 yv hh
      cases sa with
      | none => exact ⟨none, c0, hh⟩
      | some ad => obtain ⟨x, c', e, _⟩ := SlR.some hh; exact ⟨_, c', e⟩
    obtain ⟨x1, c1, rfl⟩ := hy _ _ _ _ hw.1
    obtain ⟨x2, c2, rfl⟩ := hy _ _ _ _ hw.2.1
    refine opOk_same hr (u := .int .i64 0) (run_builtin ho hc hm (s := Builtin.copy_ c.argTypes o.type #[.slice x1 len c1, .slice x2 n c2]) (fun _ => rfl) ?_) rfl
    have hmin : Nat.min n len = 0 := hz
    cases x1 <;> cases x2 <;> simp [Builtin.copy_, hat, run_underlying g2, Builtin.lenOf, Builtin.firstCells, run_sizeOf m1, hmin, goInt, loadCells, loadCellsFrom, storeCells]

theorem eq_slice_l {P : Program} {t e : TypeId} (hu : P.underlying t = some (.slice e)) (d l c l' c' : Nat) (b : Addr) (w : World) : (Op.equalIn (d + 1) t (.slice none l c) (.slice (some b) l' c')).run P w = .ok false w := by
  rw [Op.equalIn]
  simp only [Sem.run_bind, run_underlying hu, Result.andThen_ok]
  rfl
theorem eq_slice_r {P : Program} {t e : TypeId} (hu : P.underlying t = some (.slice e)) (d l c l' c' : Nat) (b : Addr) (w : World) : (Op.equalIn (d + 1) t (.slice (some b) l c) (.slice none l' c')).run P w = .ok false w := by
  rw [Op.equalIn]
  simp only [Sem.run_bind, run_underlying hu, Result.andThen_ok]
  rfl
theorem eq_ptr_l {P : Program} {t e : TypeId} (hu : P.underlying t = some (.pointer e)) (d : Nat) (b : Addr) (w : World) : (Op.equalIn (d + 1) t (.pointer none) (.pointer (some b))).run P w = .ok false w := by
  rw [Op.equalIn]
  simp only [Sem.run_bind, run_underlying hu, Result.andThen_ok]
  rfl
theorem eq_ptr_r {P : Program} {t e : TypeId} (hu : P.underlying t = some (.pointer e)) (d : Nat) (b : Addr) (w : World) : (Op.equalIn (d + 1) t (.pointer (some b)) (.pointer none)).run P w = .ok false w := by
  rw [Op.equalIn]
  simp only [Sem.run_bind, run_underlying hu, Result.andThen_ok]
  rfl
theorem eq_func_r {P : Program} {t : TypeId} {p q : Array TypeId} {v : Bool} (hu : P.underlying t = some (.func p q v)) (d : Nat) (fn : Fn) (x y : Array Value) (w : World) : (Op.equalIn (d + 1) t (.func fn x y) .nilFunc).run P w = .ok false w := by
  rw [Op.equalIn]
  simp only [Sem.run_bind, run_underlying hu, Result.andThen_ok]
  rfl
theorem eq_func_l {P : Program} {t : TypeId} {p q : Array TypeId} {v : Bool} (hu : P.underlying t = some (.func p q v)) (d : Nat) (fn : Fn) (x y : Array Value) (w : World) : (Op.equalIn (d + 1) t .nilFunc (.func fn x y)).run P w = .ok false w := by
  rw [Op.equalIn]
  simp only [Sem.run_bind, run_underlying hu, Result.andThen_ok]
  rfl

/-- What the two comparisons come to where 'equal' says no. -/
theorem bin_of_equal {P : Program} {t : TypeId} {p q : Value} (hb1 : binOp .eql t p q = (do pure (.bool (← Op.equal t p q)))) (hb2 : binOp .neq t p q = (do pure (.bool (!(← Op.equal t p q))))) (he : ∀ w, (Op.equal t p q).run P w = .ok false w) :
    (∀ w, (binOp .eql t p q).run P w = .ok (.bool false) w) ∧ (∀ w, (binOp .neq t p q).run P w = .ok (.bool (!false)) w) :=
  ⟨fun w => by rw [hb1]; simp only [Sem.run_bind, he, Result.andThen_ok]; rfl, fun w => by rw [hb2]; simp only [Sem.run_bind, he, Result.andThen_ok]; rfl⟩

theorem op_nilEq [LG] {E : Env} (hE : EnvT E) {o : Oper} {nm : Nat} {θ : Th} {h : Hp} {w : World} {a : Act} {T : Tm} (hr : HR θ h w) (ht : TO θ T a o) {op : BinOp} {t t2 : TypeId} {x y : Operand} {p q : Value} {ti : TI} {r : Bool} (ho : o.op = .binOp op t x y t2)
    (hx : opv T x = some p) (hy : opv T y = some q) (hti : tget E.tt t = some ti) (hk : nilKind ti.kind p = true) (hn : nilEq p q = some r) (hop : op = .eql ∨ op = .neq) : OpOk E.P o nm θ h w a (.bool (if op = .eql then r else !r)) h := by
  obtain ⟨i, d, z, fl, g1, g2, g3, g4, g5, rfl⟩ := ti_spec (hE _ _ hti)
  simp only at hk
  have hwx := ht _ (by simp [ho, Op.operands]) _ hx
  have hwy := ht _ (by simp [ho, Op.operands]) _ hy
  have key : ∃ p' q', a.eval x = p' ∧ a.eval y = q' ∧ (∀ w, (Op.equal t p' q').run E.P w = .ok r w) ∧ (∀ op', (eqGuard op' t x y p' q').run E.P w = .ok () w) ∧ (∀ w, (binOp .eql t p' q').run E.P w = .ok (.bool r) w) ∧ (∀ w, (binOp .neq t p' q').run E.P w = .ok (.bool (!r)) w) := by
    cases p <;> simp only [nilKind, Bool.false_eq_true] at hk
    case slice sa l c =>
      have hd := kind_slice (Nat.eq_of_beq_eq_true hk)
      rw [hd] at g2
      cases sa with
      | none =>
        cases q <;> simp only [nilEq, reduceCtorEq] at hn
        case slice sb l' c' =>
          cases sb with
          | none => simp [nilEq] at hn
          | some bd =>
            simp [nilEq] at hn
            subst hn
            obtain ⟨xx, cc, e, _⟩ := SlR.some hwy
            have e0 : a.eval x = .slice none l c := hwx
            have he : ∀ w, (Op.equal t (.slice none l c) (.slice (some xx) l' cc)).run E.P w = .ok false w := fun w => eq_slice_l g2 9999 _ _ _ _ _ w
            refine ⟨_, _, e0, e, he, fun op' => by cases op' <;> rfl, (bin_of_equal rfl rfl he).1, (bin_of_equal rfl rfl he).2⟩
      | some ad =>
        cases q <;> simp only [nilEq, reduceCtorEq] at hn
        case slice sb l' c' =>
          cases sb with
          | some bd => simp [nilEq] at hn
          | none =>
            simp [nilEq] at hn
            subst hn
            obtain ⟨xx, cc, e, _⟩ := SlR.some hwx
            have e0 : a.eval y = .slice none l' c' := hwy
            have he : ∀ w, (Op.equal t (.slice (some xx) l cc) (.slice none l' c')).run E.P w = .ok false w := fun w => eq_slice_r g2 9999 _ _ _ _ _ w
            refine ⟨_, _, e, e0, he, fun op' => by cases op' <;> rfl, (bin_of_equal rfl rfl he).1, (bin_of_equal rfl rfl he).2⟩
    case pointer sa =>
      have hd := kind_pointer (Nat.eq_of_beq_eq_true hk)
      rw [hd] at g2
      cases sa with
      | none =>
        cases q <;> simp only [nilEq, reduceCtorEq] at hn
        case pointer sb =>
          cases sb with
          | none => simp [nilEq] at hn
          | some bd =>
            simp [nilEq] at hn
            subst hn
            obtain ⟨_, xx, _, e⟩ := hwy
            have e0 : a.eval x = .pointer none := hwx
            have he : ∀ w, (Op.equal t (.pointer none) (.pointer (some ⟨xx.1, xx.2.1 + bd.off, none⟩))).run E.P w = .ok false w := fun w => eq_ptr_l g2 9999 _ w
            refine ⟨_, _, e0, e, he, fun op' => by cases op' <;> rfl, (bin_of_equal rfl rfl he).1, (bin_of_equal rfl rfl he).2⟩
      | some ad =>
        cases q <;> simp only [nilEq, reduceCtorEq] at hn
        case pointer sb =>
          cases sb with
          | some bd => simp [nilEq] at hn
          | none =>
            simp [nilEq] at hn
            subst hn
            obtain ⟨_, xx, _, e⟩ := hwx
            have e0 : a.eval y = .pointer none := hwy
            have he : ∀ w, (Op.equal t (.pointer (some ⟨xx.1, xx.2.1 + ad.off, none⟩)) (.pointer none)).run E.P w = .ok false w := fun w => eq_ptr_r g2 9999 _ w
            refine ⟨_, _, e, e0, he, fun op' => by cases op' <;> rfl, (bin_of_equal rfl rfl he).1, (bin_of_equal rfl rfl he).2⟩
    case func fn f1 f2 =>
      obtain ⟨da, db, dc, hd⟩ := kind_func (Nat.eq_of_beq_eq_true hk)
      rw [hd] at g2
      cases q <;> simp only [nilEq, reduceCtorEq, Option.some.injEq] at hn
      subst hn
      obtain ⟨fn', fa, fb, e⟩ := W_func hwx
      have e0 : a.eval y = .nilFunc := hwy
      have he : ∀ w, (Op.equal t (.func fn' fa fb) .nilFunc).run E.P w = .ok false w := fun w => eq_func_r g2 9999 _ _ _ w
      refine ⟨_, _, e, e0, he, fun op' => by cases op' <;> rfl, (bin_of_equal rfl rfl he).1, (bin_of_equal rfl rfl he).2⟩
    case nilFunc =>
      obtain ⟨da, db, dc, hd⟩ := kind_func (Nat.eq_of_beq_eq_true hk)
      rw [hd] at g2
      cases q <;> simp only [nilEq, reduceCtorEq, Option.some.injEq] at hn
      case func fn f1 f2 =>
      subst hn
      obtain ⟨fn', fa, fb, e⟩ := W_func hwy
      have e0 : a.eval x = .nilFunc := hwx
      have he : ∀ w, (Op.equal t .nilFunc (.func fn' fa fb)).run E.P w = .ok false w := fun w => eq_func_l g2 9999 _ _ _ w
      refine ⟨_, _, e0, e, he, fun op' => by cases op' <;> rfl, (bin_of_equal rfl rfl he).1, (bin_of_equal rfl rfl he).2⟩
  obtain ⟨p', q', e1, e2, k1, k2, k3, k4⟩ := key
  rcases hop with rfl | rfl
  · refine opOk_same hr (u := .bool r) ?_ rfl
    simp [execOp, ho, e1, e2, k2, k3]
  · refine opOk_same hr (u := .bool (!r)) ?_ rfl
    simp [execOp, ho, e1, e2, k2, k4]

end Go.Ev
