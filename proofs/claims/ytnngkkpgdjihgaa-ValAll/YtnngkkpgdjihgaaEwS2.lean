/- What is read off the code holds of the evaluator: operations. -/
import Derived.Test.YtnngkkpgdjihgaaEwS1
set_option linter.unusedVariables false
set_option linter.unusedSimpArgs false
namespace Go.Ew
open Go.Ev Go.Deep

theorem exSh_some : ∀ {s : Sh} {K : Value → Prop}, exSh s K → ∃ v, K v
  | .int k, K, ⟨x, h⟩ => ⟨_, h⟩
  | .bool, K, ⟨x, h⟩ => ⟨_, h⟩
  | .str, K, ⟨x, h⟩ => ⟨_, h⟩
  | .slice, K, ⟨a, n, c, h⟩ => ⟨_, h⟩
  | .ptr, K, ⟨b, o, h⟩ => ⟨_, h⟩
  | .fn, K, ⟨g, h⟩ => ⟨_, h⟩
  | .fix v, K, h => ⟨v, h⟩

theorem exShs_some : ∀ {zs : List Value} {K : List Value → Prop}, exShs zs K → ∃ vs, vs.length = zs.length ∧ K vs
  | [], K, h => ⟨[], rfl, h⟩
  | z :: l, K, h => by
    obtain ⟨v, h1⟩ := exSh_some (K := fun v => exShs l fun vs => K (v :: vs)) h
    obtain ⟨vs, h2, h3⟩ := exShs_some h1
    exact ⟨v :: vs, by simp [h2], h3⟩

theorem wRes_go {W : WE} {v : Value} : ∀ {ts : List Nat} {acc : List Value} {K : SV → Prop}, wRes.go W v ts acc K → ∃ s, K s ∧ ∀ ν, den ν s = v
  | [], acc, K, h => ⟨_, h.2, fun _ => h.1.symm⟩
  | t :: l, acc, K, h => by
    simp only [wRes.go] at h
    split at h
    · exact h.elim
    · rename_i ti hti
      cases ha : ti.agg <;> rw [ha] at h <;> simp only [cond_true, cond_false] at h
      · split at h
        · obtain ⟨u, h1⟩ := exSh_some h
          exact wRes_go h1
        · exact h.elim
      · obtain ⟨vs, _, h1⟩ := exShs_some h
        exact wRes_go h1

theorem wRes_some {W : WE} {t : TypeId} {v : Value} {K : SV → Prop} (h : wRes W t v K) : ∃ s, K s ∧ ∀ ν, den ν s = v := by
  unfold wRes at h
  split at h
  · exact ⟨_, h.2, fun _ => h.1.symm⟩
  · exact wRes_go h
  · split at h
    · exact h.elim
    · rename_i ti hti
      cases ha : ti.agg <;> rw [ha] at h <;> simp only [cond_true, cond_false] at h
      · split at h
        · obtain ⟨u, h1, h2⟩ := exSh_some h
          exact ⟨_, h2, fun ν => by rw [den_toSV, h1]⟩
        · exact h.elim
      · obtain ⟨vs, _, h1, h2⟩ := exShs_some h
        exact ⟨_, h2, fun ν => h1.symm⟩

section
variable {ν : Nat → Nat} {T : TS} {B : BX} {H H0 : KH} {M : Tm} {h h0 : Hp}

/-- Behind a call. -/
theorem Rl.called (R : Rl ν T B H M h) {h' : Hp} {H' : KH} (wf : ∀ k, h'.nxt ≤ k → tget h'.m k = none) (know : ∀ k e, H' k = some e → tget h'.m k = some e)
    (nxt : h.nxt ≤ h'.nxt) (keep : ∀ k, k < h.nxt → H k = none → tget h'.m k = tget h.m k) (new : ∀ k, H' k ≠ none → H k ≠ none ∨ h.nxt ≤ k) : Rl ν T B H' M h' where
  tmp := R.tmp
  box b cs q := by
    obtain ⟨e, h1, h2⟩ := R.box b cs q
    exact ⟨e, by rw [keep _ (R.lt b cs q) (R.apart b cs q)]; exact h1, h2⟩
  lt b cs q := Nat.lt_of_lt_of_le (R.lt b cs q) nxt
  apart b cs q := by
    cases hk : H' (ν b) with
    | none => rfl
    | some e =>
      rcases new (ν b) (by rw [hk]; simp) with k | k
      · exact absurd (R.apart b cs q) k
      · have := R.lt b cs q; omega
  inj := R.inj
  know := know
  wf := wf

theorem Fr.called (F : Fr H0 h0 ν B H h) {h' : Hp} {H' : KH} (nxt : h.nxt ≤ h'.nxt) (keep : ∀ k, k < h.nxt → H k = none → tget h'.m k = tget h.m k) (new : ∀ k, H' k ≠ none → H k ≠ none ∨ h.nxt ≤ k) : Fr H0 h0 ν B H' h' where
  nxt := Nat.le_trans F.nxt nxt
  keep k h1 h2 := by
    have hk : H k = none := by
      cases hh : H k with
      | none => rfl
      | some e =>
        rcases F.new k (by rw [hh]; simp) with q | q
        · exact absurd h2 q
        · omega
    rw [keep k (Nat.lt_of_lt_of_le h1 F.nxt) hk]
    exact F.keep k h1 h2
  new k q := by
    rcases new k q with r | r
    · exact F.new k r
    · exact .inr (Nat.le_trans F.nxt r)
  box := F.box

/-- Less is known. -/
theorem Rl.del (R : Rl ν T B H M h) (k : Nat) : Rl ν T B (H.del k) M h := by
  refine ⟨R.tmp, R.box, R.lt, fun b cs q => ?_, R.inj, fun j e q => ?_, R.wf⟩
  · simp only [KH.del]; split
    · rfl
    · exact R.apart b cs q
  · simp only [KH.del] at q
    split at q
    · cases q
    · exact R.know j e q

theorem old_know (R : Rl ν T B H M h) {sz n : Nat} {a : Option Addr} {cs : List Value} (hl : kold H sz a n = some cs) : oldCells h sz a n = some cs := by
  cases a with
  | none => exact hl
  | some a =>
    unfold kold at hl
    unfold oldCells
    cases hs : a.spot with
    | none => simp only [hs] at hl ⊢; exact load_know R hl
    | some s => simp only [hs] at hl ⊢; exact hl

theorem new_know (R : Rl ν T B H M h) {ti : TI} {x : Value} {p : Nat × List Value} (hl : knew H ti x = some p) : newCells h ti x = some p := by
  unfold knew at hl
  unfold newCells
  split at hl
  · exact hl
  · obtain ⟨cs, h1, h2⟩ := ob_some hl
    simp only [old_know R h1, ob]
    exact h2
  · exact hl
  · cases hl

/-- What a step leaves alone. -/
structure Xt (ν : Nat → Nat) (B : BX) (H : KH) (h : Hp) (nm : Nat) (H' : KH) (h' : Hp) : Prop where
  up : h.nxt ≤ h'.nxt
  newk : ∀ k, H' k ≠ none → H k ≠ none ∨ k = nm ∨ h.nxt ≤ k
  keepk : ∀ k, k < h.nxt → H k = none → k ≠ nm → (∀ b cs, tget B b = some cs → ν b ≠ k) → tget h'.m k = tget h.m k

theorem Xt.refl (nm : Nat) : Xt ν B H h nm H h := ⟨Nat.le_refl _, fun _ q => .inl q, fun _ _ _ _ _ => rfl⟩

theorem Xt.put {nm : Nat} {h' : Hp} {a : Addr} {vs : List Value} (hn : h'.nxt = h.nxt) (hk : ∀ k, k ≠ a.block → tget h'.m k = tget h.m k) (hH : H a.block ≠ none) : Xt ν B H h nm (H.put a vs) h' := by
  refine ⟨by omega, fun k q => ?_, fun k _ h1 _ _ => hk k (fun e => by subst e; exact hH h1)⟩
  simp only [KH.put] at q
  by_cases e : k = a.block
  · subst e; exact .inl hH
  · rw [if_neg e] at q; exact .inl q

theorem Xt.alloc {nm : Nat} {e : Ent} : Xt ν B H h nm (H.new nm e) (halloc h nm e) := by
  refine ⟨by simp only [halloc]; omega, fun k q => ?_, fun k _ _ h2 _ => ?_⟩
  · simp only [KH.new] at q
    by_cases e1 : k = nm
    · exact .inr (.inl e1)
    · rw [if_neg e1] at q; exact .inl q
  · simp only [halloc]
    rw [tget_tset_ne _ _ _ _ (Ne.symm h2)]

theorem store_k (R : Rl ν T B H M h) (F : Fr H0 h0 ν B H h) (nm : Nat) {a : Addr} {vs : List Value} {H' : KH} (hs : kstore H a vs = some H') : ∃ h', hstore h a vs = some h' ∧ Rl ν T B H' M h' ∧ Fr H0 h0 ν B H' h' ∧ Xt ν B H h nm H' h' := by
  unfold kstore at hs
  split at hs
  · rename_i e q1 q2
    cases hw0 : wrB e <;> simp only [hw0, cond_true, cond_false, reduceCtorEq] at hs
    split at hs
    · rename_i ws hw
      cases hs
      obtain ⟨h', g1, g2, g3, g4, g5⟩ := R.store (a := a) (vs := vs) (ws := ws) (by unfold KH.load; rw [q1, q2]; exact hw) ⟨⟨e, q2, hw0⟩⟩
      exact ⟨h', g1, g5, F.put g2 g3 g4, Xt.put g2 g3 g4⟩
    · cases hs
  · cases hs

theorem append_k (R : Rl ν T B H M h) (F : Fr H0 h0 ν B H h) {nm : Nat} {ti : TI} {a : Option Addr} {len cap n : Nat} {new : List Value} {v : Value} {H' : KH}
    (hf : tget h.m nm = none) (hnb : ∀ b cs, tget B b = some cs → ν b ≠ nm) (h0n : h0.nxt ≤ nm) (hs : kappend H nm ti a len cap n new = some (v, H')) :
    ∃ h', xappend h nm ti a len cap n new = some (v, h') ∧ Rl ν T B H' M h' ∧ Fr H0 h0 ν B H' h' ∧ Xt ν B H h nm H' h' := by
  simp only [kappend] at hs
  simp only [xappend]
  cases hb : (Nat.ble (len + n) 1000000 && Nat.ble ti.bytes 1000000 && Nat.ble 1 ti.size) <;> simp only [hb, cond_true, cond_false, reduceCtorEq] at hs ⊢
  cases hlt : Nat.blt cap unkU <;> simp only [hlt, cond_true, cond_false] at hs ⊢
  · cases a with
    | none => cases hs
    | some b =>
      simp only at hs ⊢
      split at hs
      · cases hs
      · rename_i e he
        have hk := R.know _ _ he
        simp only [hk]
        cases hq : (Nat.beq e.unk ti.size && Nat.beq b.off ((cap - unkU) * ti.size) && b.spot.isNone && wrB e) <;> simp only [hq, cond_true, cond_false, reduceCtorEq] at hs ⊢
        cases hin : Nat.ble (b.off + (len + n) * ti.size) e.len <;> simp only [hin, cond_true, cond_false] at hs ⊢
        · obtain ⟨old, k1, k2⟩ := ob_some hs
          cases k2
          simp only [k1, ob]
          have hbne : b.block ≠ nm := fun e1 => by rw [e1, hf] at hk; cases hk
          have R1 : Rl ν T B (H.del b.block) M ⟨tset h.m b.block none, h.nxt⟩ := by
            have R0 := R.del b.block
            refine ⟨R0.tmp, fun b' cs q => ?_, R0.lt, R0.apart, R0.inj, fun j e' q => ?_, fun j hj => ?_⟩
            · obtain ⟨e', g1, g2⟩ := R0.box b' cs q
              refine ⟨e', ?_, g2⟩
              rw [tget_tset_ne _ _ _ _ (fun e1 => by have := R.apart b' cs q; rw [← e1, he] at this; cases this)]
              exact g1
            · have q' := q
              simp only [KH.del] at q'
              split at q'
              · cases q'
              · rename_i hne
                rw [tget_tset_ne _ _ _ _ (Ne.symm hne)]
                exact R.know j e' q'
            · show tget (tset h.m b.block none) j = none
              rw [tget_tset]
              split
              · rfl
              · exact R.wf j hj
          have F1 : Fr H0 h0 ν B (H.del b.block) ⟨tset h.m b.block none, h.nxt⟩ := by
            refine ⟨F.nxt, fun k q1 q2 => ?_, fun k q => ?_, F.box⟩
            · have : b.block ≠ k := fun e1 => by
                subst e1
                rcases F.new _ (by rw [he]; simp : H b.block ≠ none) with q | q
                · exact q q2
                · omega
              show tget (tset h.m b.block none) k = _
              rw [tget_tset_ne _ _ _ _ this]
              exact F.keep k q1 q2
            · simp only [KH.del] at q
              split at q
              · exact absurd rfl q
              · exact F.new k q
          refine ⟨_, rfl, R1.alloc (by show tget (tset h.m b.block none) nm = none; rw [tget_tset_ne _ _ _ _ hbne]; exact hf) hnb, F1.alloc h0n, by simp only [halloc]; omega, fun k q => ?_, fun k _ h1 h2 _ => ?_⟩
          · simp only [KH.new, KH.del] at q
            by_cases e1 : k = nm
            · exact .inr (.inl e1)
            · rw [if_neg e1] at q
              split at q
              · exact absurd rfl q
              · exact .inl q
          · simp only [halloc]
            rw [tget_tset_ne _ _ _ _ (Ne.symm h2), tget_tset_ne _ _ _ _ (fun e1 => by subst e1; rw [he] at h1; cases h1)]
        · obtain ⟨H1, k1, k2⟩ := ob_some hs
          cases k2
          obtain ⟨h', g1, g2, g3, g4⟩ := store_k R F nm k1
          exact ⟨h', by simp only [g1, ob], g2, g3, g4⟩
  · cases hle : Nat.ble (len + n) cap <;> simp only [hle, cond_true, cond_false] at hs ⊢
    · obtain ⟨old, k1, k2⟩ := ob_some hs
      cases k2
      simp only [old_know R k1, ob]
      exact ⟨_, rfl, R.alloc hf hnb, F.alloc h0n, Xt.alloc⟩
    · cases a with
      | none =>
        simp only at hs ⊢
        cases hz : Nat.beq (len + n) 0 <;> simp only [hz, cond_true, cond_false, reduceCtorEq] at hs ⊢
        cases hs
        exact ⟨h, rfl, R, F, Xt.refl nm⟩
      | some b =>
        simp only at hs ⊢
        obtain ⟨H1, k1, k2⟩ := ob_some hs
        cases k2
        obtain ⟨h', g1, g2, g3, g4⟩ := store_k R F nm k1
        exact ⟨h', by simp only [g1, ob], g2, g3, g4⟩

theorem cap_know (R : Rl ν T B H M h) {a : Addr} {cap sz c : Nat} (hl : kcap H a cap sz = some c) : capLow h a cap sz = some c := by
  unfold kcap at hl
  unfold capLow
  cases hb : Nat.blt cap unkU <;> simp only [hb, cond_true, cond_false] at hl ⊢
  · split at hl
    · cases hl
    · rename_i e he
      simp only [R.know _ _ he]
      exact hl
  · exact hl

theorem slice_know (R : Rl ν T B H M h) {sz len cap : Nat} {a : Option Addr} {lo hi : Option Value} {v : Value} (hl : kslice H sz a len cap lo hi = some v) : xslice h sz a len cap lo hi none = some v := by
  unfold kslice at hl
  unfold xslice
  cases a with
  | none => exact hl
  | some b =>
    simp only at hl ⊢
    cases hsn : b.spot.isNone with
    | false => rw [hsn] at hl; exact hl
    | true =>
    rw [hsn, cond_true] at hl
    rw [cond_true]
    split at hl
    · rename_i l u c h1 h2 h3
      simp only [h1, h2, cap_know R h3]
      exact hl
    · cases hl

theorem beqI (x y : Int) : (x == y) = decide (x = y) := by rw [Bool.eq_iff_iff]; simp

theorem cmpS_some {op : BinOp} {x y : Int} {K : SV → Prop} (hw : cmpS op x y K) : ∃ b, K (.q b) ∧ fastC op x y = some (.bool b) := by
  unfold cmpS at hw
  unfold fastC
  split at hw
  · exact ⟨_, hw, by simp only [iEq_eq, beqI]⟩
  · refine ⟨_, hw, ?_⟩
    simp only [iEq_eq, beqI]
    congr 2
    simp
  · exact ⟨_, hw, by simp [iLt_eq]⟩
  · exact ⟨_, hw, by simp only [iLt_not]⟩
  · exact ⟨_, hw, by simp [iLt_eq]⟩
  · exact ⟨_, hw, by simp only [iLt_not]⟩
  · exact hw.elim

theorem kindB_eq {a b : IntKind} (h : kindB a b = true) : a = b := by cases a <;> cases b <;> first | rfl | cases h

theorem srun_bind {α β : Type} {P : Program} {s : Sem α} {f : α → Sem β} {a : α} (h : srun P s = some a) : srun P (s >>= f) = srun P (f a) := by
  induction s with
  | pure b => simp only [srun, Option.some.injEq] at h; subst h; rfl
  | program k ih => exact ih P h
  | _ => simp [srun] at h

theorem guard_unit {op : BinOp} {t : TypeId} {x y : Operand} {p q : Value} (hni : p ≠ .nilIface) (hna : ∀ cs, p ≠ .agg cs) : eqGuard op t x y p q = pure () := by
  cases op <;> first
    | rfl
    | (cases p <;> first | rfl | (exact absurd rfl hni) | (exact absurd rfl (hna _)))

/-- What the model itself reckons of two plain ones. -/
theorem plain_bin {E : Env} {o : Oper} {op : BinOp} {t t2 : TypeId} {x y : Operand} {p q v : Value} (ho : o.op = .binOp op t x y t2) (hx : opv M x = some p) (hy : opv M y = some q) (hp : isPlain p = true) (hq : isPlain q = true) (hv : isPlain v = true)
    (hnf : fastB op p q = none) (hrun : srun E.P (binOp op t p q) = some v) (hni : p ≠ .nilIface) : ∀ call nm, xop E call nm o M h = some (v, h) := by
  intro call nm
  have hpa : plainA p = true := by cases p <;> first | exact hp | cases hp
  have hqa : plainA q = true := by cases q <;> first | exact hq | cases hq
  have hg : eqGuard op t x y p q = pure () := guard_unit hni (fun cs e => by subst e; cases hp)
  have hops : o.op.operands.toList = [x, y] := by rw [ho]; rfl
  have hvs : opvs (opv M) o.op.operands.toList = some [p, q] := by rw [hops]; simp only [opvs, hx, hy]
  have hex : srun E.P (execOp (rho (opv M)) o) = some (.value v) := by
    simp only [execOp, ho, rho, hx, hy, Option.getD_some, hg]
    exact Eq.trans (srun_bind (a := v) hrun) rfl
  have hpl : xplain E o (opv M) h = some (v, h) := by
    unfold xplain
    rw [hvs]
    simp only [allPlainA, hpa, hqa, Bool.and_true, Bool.and_self, cond_true]
    rw [hex]
    simp only [hv, cond_true]
  simp only [xop, xopR, ho, xBin, hx, hy, hnf, xBinEq, hpa, hqa, Bool.and_self, cond_true]
  exact hpl

theorem fast_bin {E : Env} {o : Oper} {op : BinOp} {t t2 : TypeId} {x y : Operand} {p q v : Value} (ho : o.op = .binOp op t x y t2) (hx : opv M x = some p) (hy : opv M y = some q) (hf : fastB op p q = some v) : ∀ call nm, xop E call nm o M h = some (v, h) := by
  intro call nm
  simp only [xop, xopR, ho, xBin, hx, hy, hf]

theorem srun_under {P : Program} {t : TypeId} {d : TypeDesc} (h : P.underlying t = some d) : srun P (underlying t) = some d := by
  simp only [underlying, program, bind, Sem.bind, srun, h]
  first | rfl | (simp [srun])

theorem isKind_spec {E : Env} (hE : EnvT E) {t : TypeId} {k : Nat} (h : isKind E t k = true) : ∃ d, E.P.underlying t = some d ∧ (kindOf d).1 = k ∧ ∃ ti, tget E.tt t = some ti ∧ ti.kind = k := by
  unfold isKind at h
  split at h
  · rename_i ti hti
    obtain ⟨i, d, z, fl, g1, g2, g3, g4, g5, rfl⟩ := ti_spec (hE _ _ hti)
    exact ⟨d, g2, Nat.eq_of_beq_eq_true h, _, hti, Nat.eq_of_beq_eq_true h⟩
  · cases h

theorem kind_bool {d : TypeDesc} (h : (kindOf d).1 = 9) : d = .bool := by
  cases d <;> simp [kindOf] at h ⊢
  case int k => cases k <;> simp [kindOf] at h

theorem int_bin {E : Env} {o : Oper} {op : BinOp} {t t2 : TypeId} {x y : Operand} {k : IntKind} {m n : Int} {K : SV → Prop} (ho : o.op = .binOp op t x y t2) (hx : opv M x = some (.int k m)) (hy : opv M y = some (.int k n)) (hw : binI op k m n K) :
    ∃ s v, K s ∧ (∀ ν, den ν s = v) ∧ ∀ call nm, xop E call nm o M h = some (v, h) := by
  have hnf : k ≠ .i64 → k ≠ .u8 → fastB op (.int k m) (.int k n) = none := fun h1 h2 => by cases k <;> first | rfl | exact absurd rfl h1 | exact absurd rfl h2
  have go : ∀ v : Value, isPlain v = true → binOp op t (.int k m) (.int k n) = .pure v → (fastB op (.int k m) (.int k n) = some v ∨ fastB op (.int k m) (.int k n) = none) → ∀ call nm, xop E call nm o M h = some (v, h) := by
    intro v hv h1 h2
    rcases h2 with h2 | h2
    · exact fast_bin ho hx hy h2
    · exact plain_bin ho hx hy rfl rfl hv h2 (by rw [h1]; rfl) (by simp)
  have cmp : ∀ op', op = op' → cmpS op' m n K → ∃ s v, K s ∧ (∀ ν, den ν s = v) ∧ ∀ call nm, xop E call nm o M h = some (v, h) := by
    intro op' e hc
    subst e
    obtain ⟨b, h1, h2⟩ := cmpS_some hc
    refine ⟨_, .bool b, h1, fun _ => rfl, go _ rfl ?_ ?_⟩
    · cases op <;> simp only [fastC, reduceCtorEq, Option.some.injEq, Value.bool.injEq] at h2 <;> subst h2 <;> simp [binOp, Op.intCmp, iEq_eq, iLt_not, bne] <;> first | rfl | (simp [iLt_eq]; rfl) | skip
    · by_cases e1 : k = .i64
      · subst e1
        refine .inl ?_
        cases op <;> simp only [fastC, reduceCtorEq] at h2 <;> exact h2
      · by_cases e2 : k = .u8
        · subst e2; exact .inl h2
        · exact .inr (hnf e1 e2)
  have arith : ∀ (r : Int), (op = .add ∧ r = m + n ∨ op = .sub ∧ r = m - n ∨ op = .mul ∧ r = m * n) → ∀ call nm, xop E call nm o M h = some (.int k (k.wrap r), h) := by
    intro r hr
    refine go _ rfl ?_ ?_
    · rcases hr with ⟨rfl, rfl⟩ | ⟨rfl, rfl⟩ | ⟨rfl, rfl⟩ <;> simp [binOp, Op.intArith] <;> rfl
    · by_cases e1 : k = .i64
      · subst e1
        refine .inl ?_
        rcases hr with ⟨rfl, rfl⟩ | ⟨rfl, rfl⟩ | ⟨rfl, rfl⟩ <;> simp only [fastB, fastI, wrapF_eq] <;> rfl
      · by_cases e2 : k = .u8
        · subst e2
          refine .inr ?_
          rcases hr with ⟨rfl, rfl⟩ | ⟨rfl, rfl⟩ | ⟨rfl, rfl⟩ <;> rfl
        · exact .inr (hnf e1 e2)
  have divs : (op = .quo ∨ op = .rem) → fastB op (.int k m) (.int k n) = none := by
    intro e
    rcases e with rfl | rfl <;> cases k <;> rfl
  unfold binI at hw
  split at hw
  · exact ⟨_, _, hw, fun _ => rfl, arith _ (.inl ⟨rfl, rfl⟩)⟩
  · exact ⟨_, _, hw, fun _ => rfl, arith _ (.inr (.inl ⟨rfl, rfl⟩))⟩
  · exact ⟨_, _, hw, fun _ => rfl, arith _ (.inr (.inr ⟨rfl, rfl⟩))⟩
  · refine ⟨_, _, hw.2, fun _ => rfl, go _ rfl ?_ (.inr (divs (.inl rfl)))⟩
    simp [binOp, Op.intDiv, hw.1]; rfl
  · refine ⟨_, _, hw.2, fun _ => rfl, go _ rfl ?_ (.inr (divs (.inr rfl)))⟩
    simp [binOp, Op.intDiv, hw.1]; rfl
  · exact cmp _ rfl hw
end
end Go.Ew
