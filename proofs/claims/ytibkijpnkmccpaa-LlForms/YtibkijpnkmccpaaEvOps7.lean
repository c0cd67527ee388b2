/- Operation by operation: reslicing, bytes, calls; and all of them. -/
import Derived.Test.YtibkijpnkmccpaaEvOps6
set_option linter.unusedVariables false
set_option linter.unusedSimpArgs false
namespace Go.Ev
open Go.Deep Go.RowKit

def OptN (ov : Option Value) (d l : Nat) : Prop := (ov = none ∧ l = d) ∨ ∃ k n, ov = some (.int k n) ∧ 0 ≤ n ∧ l = Int.toNat n

theorem opt_nat {θ : Th} {T : Tm} {a : Act} {lo : Option Operand} {lov : Option Value} {d l : Nat} (ht : ∀ y, lo = some y → ∀ v, opv T y = some v → W θ v (a.eval y)) (h1 : optv (opv T) lo = some lov) (h2 : natOf d lov = some l) : OptN (lo.map a.eval) d l := by
  cases lo with
  | none =>
    simp only [optv, Option.some.injEq] at h1
    subst h1
    simp only [natOf, Option.some.injEq] at h2
    exact .inl ⟨rfl, h2.symm⟩
  | some x =>
    simp only [optv] at h1
    split at h1
    · rename_i u hu
      cases h1
      cases u <;> simp only [natOf, reduceCtorEq] at h2
      case int k n =>
        cases hb : decide (0 ≤ n) <;> simp only [hb, cond_true, cond_false, reduceCtorEq, Option.some.injEq] at h2
        have hw : a.eval x = .int k n := ht x rfl _ hu
        exact .inr ⟨k, n, by simp [hw], of_decide_eq_true hb, h2.symm⟩
    · cases h1

theorem run_sliceBound {P : Program} {w : World} {k : IntKind} {n : Int} {y : Nat} {code : BoundsCode} (h0 : 0 ≤ n) (h1 : n.toNat ≤ y) : (Instr.sliceBound (.int k n) y code).run P w = .ok n.toNat w := by
  have : n ≤ (y : Int) := by omega
  simp [Instr.sliceBound, asIntOf, h0, this]

theorem run_slice2 {P : Program} {w : World} {t e : TypeId} {i : TypeInfo} (hu : P.underlying t = some (.slice e)) (hi : P.info? e = some i) {sa : Option Addr} {len cap l u : Nat} {low high : Option Value}
    (hl : OptN low 0 l) (hh : OptN high len u) (h1 : l ≤ u) (h2 : u ≤ cap) :
    (Instr.sliceAt t (.slice sa len cap) low high none).run P w = .ok (.slice (if cap = l then sa else sa.map (·.add (l * i.size))) (u - l) (cap - l)) w := by
  rcases hl with ⟨rfl, rfl⟩ | ⟨k1, n1, rfl, g1, rfl⟩ <;> rcases hh with ⟨rfl, rfl⟩ | ⟨k2, n2, rfl, g2, rfl⟩
  · simp [Instr.sliceAt, Instr.slice, Instr.sliceBounds, run_underlying hu, run_sizeOf hi]
  · simp [Instr.sliceAt, Instr.slice, Instr.sliceBounds, run_underlying hu, run_sizeOf hi, run_sliceBound g2 h2]
  · simp [Instr.sliceAt, Instr.slice, Instr.sliceBounds, run_underlying hu, run_sizeOf hi, run_sliceBound g1 h1]
  · simp [Instr.sliceAt, Instr.slice, Instr.sliceBounds, run_underlying hu, run_sizeOf hi, run_sliceBound g1 h1, run_sliceBound g2 h2]

theorem run_slice3 {P : Program} {w : World} {t e : TypeId} {i : TypeInfo} (hu : P.underlying t = some (.slice e)) (hi : P.info? e = some i) {sa : Option Addr} {len cap l : Nat} {low : Option Value} {k2 k3 : IntKind} {n2 n3 : Int}
    (hl : OptN low 0 l) (g2 : 0 ≤ n2) (g3 : 0 ≤ n3) (h1 : l ≤ n2.toNat) (h2 : n2.toNat ≤ n3.toNat) (h3 : n3.toNat ≤ cap) :
    (Instr.sliceAt t (.slice sa len cap) low (some (.int k2 n2)) (some (.int k3 n3))).run P w = .ok (.slice (if n3.toNat = l then sa else sa.map (·.add (l * i.size))) (n2.toNat - l) (n3.toNat - l)) w := by
  rcases hl with ⟨rfl, rfl⟩ | ⟨k1, n1, rfl, g1, rfl⟩
  · simp [Instr.sliceAt, Instr.slice, Instr.sliceBounds, run_underlying hu, run_sizeOf hi, run_sliceBound g2 h2, run_sliceBound g3 h3]
  · simp [Instr.sliceAt, Instr.slice, Instr.sliceBounds, run_underlying hu, run_sizeOf hi, run_sliceBound g1 h1, run_sliceBound g2 h2, run_sliceBound g3 h3]

/-- The least that a capacity is. -/
theorem capLow_le [LG] {θ : Th} {h : Hp} {w : World} (hr : HR θ h w) {ad : Addr} {cap sz c c' : Nat} {x : Nat × Nat × Nat} (hx : θ ad.block = some x) (hc : capLow h ad cap sz = some c) (hcap : capR x.2.2 cap c') : c ≤ c' := by
  unfold capLow at hc
  cases hb : Nat.blt cap unkU <;> simp only [hb, cond_true, cond_false] at hc
  · split at hc
    · cases hc
    · rename_i e he
      cases hq : (Nat.beq e.unk sz && Nat.beq ad.off ((cap - unkU) * sz) && Nat.ble 1 sz && Nat.ble ad.off e.len) <;> simp only [hq, cond_true, cond_false, reduceCtorEq, Option.some.injEq] at hc
      simp only [Bool.and_eq_true] at hq
      have q1 : e.unk = sz := Nat.eq_of_beq_eq_true hq.1.1.1
      have q2 : ad.off = (cap - unkU) * sz := Nat.eq_of_beq_eq_true hq.1.1.2
      have q3 : 1 ≤ sz := Nat.le_of_ble_eq_true hq.1.2
      obtain ⟨y, hy⟩ : ∃ y, y = x := ⟨x, rfl⟩
      subst hy
      have r := hr.ent _ _ _ he hx
      have hroom := (r.room (by omega)).1
      rw [q1] at hroom
      rcases hcap with ⟨g, _⟩ | ⟨g, hcc⟩
      · have : Nat.blt cap unkU = true := by unfold Nat.blt; exact Nat.ble_eq_true_of_le g
        rw [this] at hb; cases hb
      · generalize hs : cap - unkU = sub at q2 hcc
        subst hc
        rw [hcc]
        have h1 : (e.len - ad.off) / sz ≤ (y.2.2 * sz - sub * sz) / sz := Nat.div_le_div_right (by omega)
        rw [← Nat.sub_mul, Nat.mul_div_cancel _ q3] at h1
        exact h1
  · cases hc
    have hlt : cap < unkU := by unfold Nat.blt at hb; exact Nat.le_of_ble_eq_true hb
    rcases hcap with ⟨_, rfl⟩ | ⟨g, _⟩
    · exact Nat.le_refl _
    · omega

theorem op_slice [LG] {E : Env} (hE : EnvT E) {o : Oper} {nm : Nat} {θ : Th} {h : Hp} {w : World} {a : Act} {T : Tm} {v : Value} (hr : HR θ h w) (ht : TO θ T a o) {t : TypeId} {x : Operand} {lo hi mx : Option Operand} {lov hiv mxv : Option Value} {sa : Option Addr} {len cap : Nat} {ti ei : TI}
    (ho : o.op = .slice t x lo hi mx) (hx : opv T x = some (.slice sa len cap)) (hti : tget E.tt t = some ti) (hei : tget E.tt ti.elem = some ei) (hk : ti.kind = 1)
    (hlo : optv (opv T) lo = some lov) (hhi : optv (opv T) hi = some hiv) (hmx : optv (opv T) mx = some mxv) (hv : xslice h ei.size sa len cap lov hiv mxv = some v) : OpOk E.P o nm θ h w a v h := by
  obtain ⟨i, d, z, fl, g1, g2, g3, g4, g5, rfl⟩ := ti_spec (hE _ _ hti)
  obtain ⟨i2, d2, z2, fs2, m1, m2, m3, m4, m5, rfl⟩ := ti_spec (hE _ _ hei)
  simp only at hk hei m1 m2 hv
  rw [kind_slice hk] at g2
  have hwx := ht _ (by simp [ho, Op.operands]) _ hx
  have hrun : ∀ {u : Value}, (Instr.sliceAt t (a.eval x) (lo.map a.eval) (hi.map a.eval) (mx.map a.eval)).run E.P w = .ok u w → (execOp a.eval o).run E.P w = .ok (.value u) w := fun {u} hs => by simp [execOp, ho, hs]
  unfold xslice at hv
  split at hv
  · -- nil
    have hmn : mx.map a.eval = none := by
      cases mx with
      | none => rfl
      | some m =>
        simp only [optv] at hmx
        split at hmx <;> cases hmx
    split at hv
    · rename_i l1 l2
      cases hv
      have e0 : a.eval x = .slice none len cap := hwx
      have n1 := opt_nat (fun y hy v => ht y (by simp [ho, Op.operands, hy]) v) hlo l1
      have n2 := opt_nat (fun y hy v => ht y (by simp [ho, Op.operands, hy]) v) hhi l2
      refine opOk_same hr (u := .slice none 0 cap) (hrun ?_) rfl
      rw [e0, hmn, run_slice2 g2 m1 n1 n2 (Nat.le_refl _) (Nat.zero_le _)]
      simp
    · cases hv
  · rename_i b
    have hmn : mx.map a.eval = none := by
      cases mx with
      | none => rfl
      | some m =>
        simp only [optv] at hmx
        split at hmx <;> cases hmx
    cases hsn : b.spot.isNone with
    | false =>
      rw [hsn, cond_false] at hv
      split at hv
      · rename_i l1 l2
        cases hv
        have n1 := opt_nat (fun y hy v => ht y (by simp [ho, Op.operands, hy]) v) hlo l1
        have n2 := opt_nat (fun y hy v => ht y (by simp [ho, Op.operands, hy]) v) hhi l2
        have hne : b.spot ≠ none := fun e => by rw [e] at hsn; cases hsn
        rcases (show SlR θ b len cap (a.eval x) from hwx) with ⟨q, _⟩ | ⟨_, hl0, q2, ad, c', e0⟩
        · exact absurd q hne
        · subst hl0
          have hr2 := run_slice2 (P := E.P) (w := w) (cap := c') g2 m1 (sa := some ad) n1 n2 (Nat.le_refl 0) (Nat.zero_le _)
          refine opOk_same hr (hrun (by rw [e0, hmn]; exact hr2)) (.inr ⟨hne, rfl, q2, ?_⟩)
          by_cases q : c' = 0
          · exact ⟨_, _, by rw [if_pos q]⟩
          · exact ⟨_, _, by rw [if_neg q]; rfl⟩
      · cases hv
    | true =>
    rw [hsn, cond_true] at hv
    have hbs : b.spot = none := by simpa using hsn
    obtain ⟨hs, xx, c', hxx, hcap, e0⟩ : b.spot = none ∧ ∃ xx c', θ b.block = some xx ∧ capR xx.2.2 cap c' ∧ a.eval x = .slice (some ⟨xx.1, xx.2.1 + b.off, none⟩) len c' := SlR.here hwx hbs
    split at hv
    · rename_i l u c l1 l2 l3
      have n1 := opt_nat (fun y hy v => ht y (by simp [ho, Op.operands, hy]) v) hlo l1
      have n2 := opt_nat (fun y hy v => ht y (by simp [ho, Op.operands, hy]) v) hhi l2
      have hcl := capLow_le hr hxx l3 hcap
      cases hq : (Nat.ble l u && Nat.ble u c && Nat.ble len c && true) <;> simp only [hq, cond_true, cond_false, reduceCtorEq] at hv
      simp only [Bool.and_eq_true] at hq
      have q1 := Nat.le_of_ble_eq_true hq.1.1.1
      have q2 := Nat.le_of_ble_eq_true hq.1.1.2
      have hr2 := run_slice2 (P := E.P) (w := w) g2 m1 (sa := some ⟨xx.1, xx.2.1 + b.off, none⟩) n1 n2 q1 (Nat.le_trans q2 hcl)
      cases hlt : Nat.blt cap unkU <;> simp only [hlt, cond_true, cond_false] at hv
      · have hge : unkU ≤ cap := by
          rcases Nat.lt_or_ge cap unkU with g | g
          · have : Nat.blt cap unkU = true := by unfold Nat.blt; exact Nat.ble_eq_true_of_le g
            rw [this] at hlt; cases hlt
          · exact g
        rcases hcap with ⟨g, _⟩ | ⟨_, hcc⟩
        · omega
        cases hlc : Nat.blt l c <;> simp only [hlc, cond_true, cond_false] at hv
        · cases hl0 : Nat.beq l 0 <;> simp only [hl0, cond_true, cond_false, reduceCtorEq, Option.some.injEq] at hv
          · subst hv
            have hll : ¬ l < c := fun q => by rw [show Nat.blt l c = true from Nat.ble_eq_true_of_le q] at hlc; cases hlc
            have hul : u - l = 0 := by omega
            refine opOk_same hr (hrun (by rw [e0, hmn]; exact hr2)) (.inr ⟨by simp, rfl, Nat.le_refl _, ?_⟩)
            rw [hul]
            by_cases q : c' = l
            · exact ⟨_, _, by rw [if_pos q]⟩
            · exact ⟨_, _, by rw [if_neg q]; rfl⟩
          have e1 : l = 0 := Nat.eq_of_beq_eq_true hl0
          subst hv; subst e1
          refine opOk_same hr (hrun (by rw [e0, hmn]; exact hr2)) ?_
          refine .inl ⟨hs, xx, c', hxx, .inr ⟨hge, hcc⟩, ?_⟩
          simp [add_addr]
        · have hll : l < c := by unfold Nat.blt at hlc; exact Nat.le_of_ble_eq_true hlc
          cases hv
          refine opOk_same hr (hrun (by rw [e0, hmn]; exact hr2)) ?_
          refine .inl ⟨rfl, xx, c' - l, hxx, .inr ⟨by omega, ?_⟩, ?_⟩
          · rw [hcc]
            have e3 : cap + l - unkU = (cap - unkU) + l := by omega
            rw [e3, Nat.sub_add_eq]
          · rw [if_neg (by omega)]
            simp [add_addr, Nat.add_assoc]
      · have hlt' : cap < unkU := by unfold Nat.blt at hlt; exact Nat.le_of_ble_eq_true hlt
        rcases hcap with ⟨_, hcc⟩ | ⟨g, _⟩
        · subst hcc
          cases hv
          refine opOk_same hr (hrun (by rw [e0, hmn]; exact hr2)) ?_
          cases hcl' : Nat.beq c' l
          · have hne : c' ≠ l := fun e => by rw [e] at hcl'; simp at hcl'
            refine .inl ⟨rfl, xx, c' - l, hxx, .inl ⟨by omega, rfl⟩, ?_⟩
            rw [if_neg hne]
            simp [add_addr, Nat.add_assoc]
          · have he : c' = l := Nat.eq_of_beq_eq_true hcl'
            refine .inl ⟨hs, xx, c' - l, hxx, .inl ⟨by omega, rfl⟩, ?_⟩
            rw [if_pos he]; rfl
        · omega
    · cases hv
  · rename_i b m
    have hbs : b.spot = none := by
      have hv := hv
      split at hv
      · rename_i l u y c l1 l2 l3 l4
        cases hq : (Nat.ble l u && Nat.ble u y && Nat.ble y c && Nat.blt cap unkU && b.spot.isNone) <;> simp only [hq, cond_true, cond_false, reduceCtorEq] at hv
        simp only [Bool.and_eq_true] at hq
        simpa using hq.2
      · cases hv
    obtain ⟨hs, xx, c', hxx, hcap, e0⟩ : b.spot = none ∧ ∃ xx c', θ b.block = some xx ∧ capR xx.2.2 cap c' ∧ a.eval x = .slice (some ⟨xx.1, xx.2.1 + b.off, none⟩) len c' := SlR.here hwx hbs
    split at hv
    · rename_i l u y c l1 l2 l3 l4
      have n1 := opt_nat (fun y hy v => ht y (by simp [ho, Op.operands, hy]) v) hlo l1
      have hl2 : hiv ≠ none ∧ natOf 0 hiv = some u := by
        cases hiv with
        | none => cases l2
        | some hvv => exact ⟨by simp, l2⟩
      have n2 := opt_nat (fun y hy v => ht y (by simp [ho, Op.operands, hy]) v) hhi hl2.2
      have n3 := opt_nat (fun y hy v => ht y (by simp [ho, Op.operands, hy]) v) hmx l3
      have hcl := capLow_le hr hxx l4 hcap
      cases hq : (Nat.ble l u && Nat.ble u y && Nat.ble y c && Nat.blt cap unkU && b.spot.isNone) <;> simp only [hq, cond_true, cond_false, reduceCtorEq] at hv
      simp only [Bool.and_eq_true] at hq
      have q1 := Nat.le_of_ble_eq_true hq.1.1.1.1
      have q2 := Nat.le_of_ble_eq_true hq.1.1.1.2
      have q3 := Nat.le_of_ble_eq_true hq.1.1.2
      have hlt' : cap < unkU := by have := hq.1.2; unfold Nat.blt at this; exact Nat.le_of_ble_eq_true this
      rcases hcap with ⟨_, hcc⟩ | ⟨g, _⟩
      · subst hcc
        rcases n3 with ⟨e3, _⟩ | ⟨k3, j3, e3, p3, r3⟩
        · exfalso
          cases mx with
          | none => simp [optv] at hmx
          | some mm => simp at e3
        · rcases n2 with ⟨e2, r2⟩ | ⟨k2, j2, e2, p2, r2⟩
          · exfalso
            cases hi with
            | none => simp only [optv, Option.some.injEq] at hhi; exact hl2.1 hhi.symm
            | some mm => simp at e2
          · subst r3; subst r2
            have hr3 := run_slice3 (P := E.P) (w := w) g2 m1 (sa := some ⟨xx.1, xx.2.1 + b.off, none⟩) (len := len) n1 p2 p3 q1 q2 (Nat.le_trans q3 hcl) (k2 := k2) (k3 := k3)
            cases hv
            refine opOk_same hr (hrun (by rw [e0, e2, e3]; exact hr3)) ?_
            cases hcl' : Nat.beq j3.toNat l
            · have hne : j3.toNat ≠ l := fun e => by rw [e] at hcl'; simp at hcl'
              refine .inl ⟨rfl, xx, j3.toNat - l, hxx, .inl ⟨by omega, rfl⟩, ?_⟩
              rw [if_neg hne]
              simp [add_addr, Nat.add_assoc]
            · have he : j3.toNat = l := Nat.eq_of_beq_eq_true hcl'
              refine .inl ⟨hs, xx, j3.toNat - l, hxx, .inl ⟨by omega, rfl⟩, ?_⟩
              rw [if_pos he]; rfl
      · omega
    · cases hv
  · cases hv

end Go.Ev
