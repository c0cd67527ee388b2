/- Operation by operation: what makes rows and reslices them. -/
import Derived.Test.YtibkijpnkmccpaaEvOps2
set_option linter.unusedVariables false
set_option linter.unusedSimpArgs false
namespace Go.Ev
open Go.Deep Go.RowKit

theorem lput_nil {α : Type} (cs : List α) (n : Nat) : lput cs n [] = cs := by cases cs <;> simp [lput]

theorem lput_cons {α : Type} : ∀ (cs : List α) (n : Nat) (v : α) (vs : List α), lput cs n (v :: vs) = lput (cs.set n v) (n + 1) vs
  | [], n, v, vs => by cases vs <;> simp [lput]
  | c :: cs, 0, v, vs => by
    cases vs with
    | nil => simp [lput, lput_nil]
    | cons u us => simp [lput]
  | c :: cs, n + 1, v, vs => by
    simp only [lput, List.set_cons_succ]
    rw [lput_cons cs n v vs]
    cases vs with
    | nil => simp [lput_nil]
    | cons u us => simp [lput]

theorem lput_length {α : Type} : ∀ (cs : List α) (n : Nat) (vs : List α), (lput cs n vs).length = cs.length
  | cs, n, [] => by rw [lput_nil]
  | [], n, v :: vs => by simp [lput]
  | c :: cs, 0, v :: vs => by simp [lput, lput_length cs 0 vs]
  | c :: cs, n + 1, v :: vs => by simp [lput, lput_length cs n (v :: vs)]

theorem fold_put : ∀ (vs : List Value) (off k : Nat) (cells : List Value), (vs.zipIdx k).foldl (fun (cs : Array Value) (p : Value × Nat) => cs.setIfInBounds (off + p.2) p.1) cells.toArray = (lput cells (off + k) vs).toArray
  | [], off, k, cells => by simp [lput_nil]
  | v :: vs, off, k, cells => by
    rw [lput_cons, List.zipIdx_cons, List.foldl_cons]
    simp only
    have : cells.toArray.setIfInBounds (off + k) v = (cells.set (off + k) v).toArray := by simp
    rw [this, fold_put vs off (k + 1) _, Nat.add_assoc]

theorem all2_lput {α β : Type} {p : α → β → Prop} : ∀ {cs : List α} {ds : List β} {n : Nat} {vs : List α} {us : List β}, all2 p cs ds → all2 p vs us → all2 p (lput cs n vs) (lput ds n us)
  | cs, ds, n, [], [], h, _ => by rw [lput_nil, lput_nil]; exact h
  | [], [], n, _ :: _, _ :: _, _, _ => by simp [lput, all2]
  | _ :: _, _ :: _, 0, _ :: _, _ :: _, h, g => ⟨g.1, all2_lput h.2 g.2⟩
  | _ :: _, _ :: _, n + 1, _ :: _, _ :: _, h, g => ⟨h.1, all2_lput (vs := _ :: _) (us := _ :: _) h.2 g⟩
  | [], _ :: _, _, _, _, h, _ => h.elim
  | _ :: _, [], _, _, _, h, _ => h.elim
  | _, _, _, [], _ :: _, _, h => h.elim
  | _, _, _, _ :: _, [], _, h => h.elim

/-- A literal's parts. -/
theorem fill_sound {θ : Th} {T : Tm} {a : Act} {pl : Nat → Option (Nat × Nat)} : ∀ {parts : List (Nat × Operand)} {ps : List (Nat × Nat × Value)} {cs cs' ds : List Value}, (∀ p ∈ parts, ∀ v, opv T p.2 = some v → W θ v (a.eval p.2)) →
    partsA (opv T) pl parts = some ps → fillA cs ps = some cs' → all2 (S θ) cs ds → ∃ ds' : List Value, Instr.fill pl ds.toArray (parts.map fun (i, x) => (i, a.eval x)) = some ds'.toArray ∧ all2 (S θ) cs' ds'
  | [], ps, cs, cs', ds, ht, h1, h2, h3 => by
    cases h1
    cases h2
    exact ⟨ds, by simp [Instr.fill], h3⟩
  | (i, x) :: l, ps, cs, cs', ds, ht, h1, h2, h3 => by
    simp only [partsA] at h1
    split at h1
    · rename_i off sz u r hp hu hrest
      cases h1
      simp only [fillA] at h2
      split at h2
      · cases h2
      · rename_i vs hvs
        cases hb : (Nat.beq vs.length sz && Nat.ble (off + vs.length) cs.length) <;> simp only [hb, cond_true, cond_false] at h2
        · cases h2
        · simp only [Bool.and_eq_true] at hb
          have hb1 := Nat.eq_of_beq_eq_true hb.1
          have hb2 := Nat.le_of_ble_eq_true hb.2
          obtain ⟨us, k1, k2⟩ := W_cells hvs (ht (i, x) (by simp) u hu)
          have l1 := all2_len k2
          have l2 := all2_len h3
          obtain ⟨ds', g1, g2⟩ := fill_sound (fun p hp => ht p (by simp [hp])) hrest h2 (all2_lput (n := off) h3 k2)
          refine ⟨ds', ?_, g2⟩
          simp only [List.map_cons, Instr.fill, hp, k1]
          rw [if_neg (by simp; omega)]
          have := fold_put us off 0 ds
          simp only [Nat.add_zero] at this
          rw [← g1, ← this]
          simp
    · cases h1

theorem lrep_length {α : Type} (z : List α) : ∀ n, (lrep z n).length = n * z.length
  | 0 => by simp [lrep]
  | n + 1 => by simp [lrep, lrep_length z n, Nat.add_mul, Nat.add_comm]

theorem lrep_get {α : Type} (z : List α) (hz : 0 < z.length) : ∀ (n i : Nat), i < n * z.length → (lrep z n)[i]? = z[i % z.length]?
  | 0, i, h => by simp at h
  | n + 1, i, h => by
    simp only [lrep]
    by_cases hi : i < z.length
    · rw [List.getElem?_append_left hi, Nat.mod_eq_of_lt hi]
    · have hm := Nat.mod_eq_sub_mod (a := i) (b := z.length) (by omega)
      rw [List.getElem?_append_right (by omega), lrep_get z hz n (i - z.length) (by rw [Nat.succ_mul] at h; omega), hm]

/-- The zeros of a row, as the model lays them. -/
theorem range_zero (z : List Value) (n : Nat) : (Array.range (n * z.length)).map (fun i => z.toArray[i % z.toArray.size]!) = (lrep z n).toArray := by
  apply Array.ext'
  apply List.ext_getElem?
  intro i
  by_cases h : i < n * z.length
  · have hz : 0 < z.length := by
      rcases Nat.eq_zero_or_pos z.length with e | e
      · rw [e] at h; simp at h
      · exact e
    have hm : i % z.length < z.length := Nat.mod_lt _ hz
    simp [h, hm, lrep_get z hz n i h]
  · have h1 : (lrep z n).length ≤ i := by rw [lrep_length]; omega
    simp [List.getElem?_eq_none h1, h]

theorem plain_lrep {z : List Value} (h : allPlain z = true) : ∀ n, allPlain (lrep z n) = true
  | 0 => rfl
  | n + 1 => by
    have app : ∀ (x y : List Value), allPlain x = true → allPlain y = true → allPlain (x ++ y) = true := by
      intro x
      induction x with
      | nil => intro y _ hy; exact hy
      | cons u x ih =>
        intro y hx hy
        simp only [allPlain, Bool.and_eq_true] at hx
        simp [allPlain, hx.1, ih y hx.2 hy]
    exact app _ _ h (plain_lrep h n)

theorem op_build_struct [LG] {E : Env} (hE : EnvT E) {o : Oper} {nm : Nat} {θ : Th} {h : Hp} {w : World} {a : Act} {T : Tm} (hr : HR θ h w) (ht : TO θ T a o) {t : TypeId} {parts : Array (Nat × Operand)} {ti : TI} {ps : List (Nat × Nat × Value)} {cs : List Value}
    (ho : o.op = .build t parts) (hti : tget E.tt t = some ti) (hk : ti.kind = 3) (hp : partsA (opv T) (fun i => ti.flds[i]?) parts.toList = some ps) (hf : fillA ti.zero ps = some cs) : OpOk E.P o nm θ h w a (.agg cs.toArray) h := by
  obtain ⟨i, d, z, fl, h1, h2, h3, h4, h5, rfl⟩ := ti_spec (hE _ _ hti)
  obtain ⟨fields, rfl⟩ := kind_struct hk
  simp only [fldsOf] at h4
  obtain ⟨ds, g1, g2⟩ := fill_sound (fun p hp v => ht p.2 (by simp only [ho, Op.operands]; simp; exact ⟨p.1, by simpa using hp⟩) v) hp hf (plain_all2 h5)
  refine opOk_same hr (u := .agg ds.toArray) ?_ ⟨ds, rfl, by simpa using g2⟩
  have hmap : (parts.map fun (i, x) => (i, a.eval x)).toList = parts.toList.map fun (i, x) => (i, a.eval x) := by simp
  have hpl := run_places (P := E.P) w fields.toList fl h4
  simp only [execOp, ho, Instr.build, Sem.run_bind, run_zeroValue h1 h3, Result.andThen_ok, run_underlying h2, hmap]
  simp [Array.mapM_eq_mapM_toList, hpl]
  have hz : z.cells = z.cells.toList.toArray := by simp
  rw [hz, g1]
  simp

theorem op_build_array [LG] {E : Env} (hE : EnvT E) {o : Oper} {nm : Nat} {θ : Th} {h : Hp} {w : World} {a : Act} {T : Tm} (hr : HR θ h w) (ht : TO θ T a o) {t : TypeId} {parts : Array (Nat × Operand)} {ti ei : TI} {ps : List (Nat × Nat × Value)} {cs : List Value}
    (ho : o.op = .build t parts) (hti : tget E.tt t = some ti) (hk : ti.kind = 2) (hei : tget E.tt ti.elem = some ei) (hp : partsA (opv T) (fun i => some (i * ei.size, ei.size)) parts.toList = some ps) (hf : fillA ti.zero ps = some cs) : OpOk E.P o nm θ h w a (.agg cs.toArray) h := by
  obtain ⟨i, d, z, fl, h1, h2, h3, h4, h5, rfl⟩ := ti_spec (hE _ _ hti)
  obtain ⟨i2, d2, z2, fs2, m1, m2, m3, m4, m5, rfl⟩ := ti_spec (hE _ _ hei)
  simp only at hk hei m1 m2 hp hf
  rw [kind_array hk] at h2
  obtain ⟨ds, g1, g2⟩ := fill_sound (fun p hp v => ht p.2 (by simp only [ho, Op.operands]; simp; exact ⟨p.1, by simpa using hp⟩) v) hp hf (plain_all2 h5)
  refine opOk_same hr (u := .agg ds.toArray) ?_ ⟨ds, rfl, by simpa using g2⟩
  have hmap : (parts.map fun (i, x) => (i, a.eval x)).toList = parts.toList.map fun (i, x) => (i, a.eval x) := by simp
  have hz : z.cells = z.cells.toList.toArray := by simp
  simp only [execOp, ho, Instr.build, Sem.run_bind, run_zeroValue h1 h3, Result.andThen_ok, run_underlying h2, hmap, run_sizeOf m1]
  rw [hz, g1]
  simp

theorem op_buildSlice [LG] {E : Env} (hE : EnvT E) {o : Oper} {nm : Nat} {θ : Th} {h : Hp} {w : World} {a : Act} {T : Tm} (hr : HR θ h w) (ht : TO θ T a o) {t : TypeId} {len : Nat} {parts : Array (Nat × Operand)} {ti ei : TI} {ps : List (Nat × Nat × Value)} {cs : List Value}
    (hnm : θ nm = none) (ho : o.op = .buildSlice t len parts) (hti : tget E.tt t = some ti) (hk : ti.kind = 1) (hei : tget E.tt ti.elem = some ei) (hb : len * ei.size ≤ 16777216) (hb' : len ≤ 16777216) (hzl : ei.zero.length = ei.size)
    (hp : partsA (opv T) (fun i => some (i * ei.size, ei.size)) parts.toList = some ps) (hf : fillA (lrep ei.zero len) ps = some cs) :
    OpOk E.P o nm θ h w a (.slice (some ⟨nm, 0, none⟩) len len) (halloc h nm (mkEnt cs 0)) := by
  obtain ⟨i, d, z, fl, h1, h2, h3, h4, h5, rfl⟩ := ti_spec (hE _ _ hti)
  obtain ⟨i2, d2, z2, fs2, m1, m2, m3, m4, m5, rfl⟩ := ti_spec (hE _ _ hei)
  simp only at hk hei m1 m2 hp hf hb hzl
  rw [kind_slice hk] at h2
  obtain ⟨ds, g1, g2⟩ := fill_sound (fun p hp v => ht p.2 (by simp only [ho, Op.operands]; simp; exact ⟨p.1, by simpa using hp⟩) v) hp hf (plain_all2 (plain_lrep m5 len))
  obtain ⟨e1, e2⟩ := alloc_sound hr hnm [] g2 (kindOf d).2.1 0 0 (fun e => absurd rfl e)
  simp only [List.append_nil] at e1 e2
  refine ⟨_, _, .slice (some ⟨w.heap.size, 0, none⟩) len len, _, ?_, .inl rfl, e2, e1, ?_⟩
  · have hmap : (parts.map fun (i, x) => (i, a.eval x)).toList = parts.toList.map fun (i, x) => (i, a.eval x) := by simp
    have hz : z2.cells = z2.cells.toList.toArray := by simp
    by_cases e : len * i2.size = 0
    · have hn : (lrep z2.cells.toList len) = [] := by
        apply List.eq_nil_of_length_eq_zero
        rw [lrep_length, hzl, e]
      rw [hn] at g1
      simp only [execOp, ho, Instr.buildSlice, Sem.run_bind, Result.andThen_ok, run_underlying h2, hmap, run_sizeOf m1]
      rw [if_neg (by omega), if_pos e]
      simp only [Sem.run_bind, Sem.run_pure, Result.andThen_ok, e]
      have hz0 : ∀ f : Nat → Value, (Array.range 0).map f = ([] : List Value).toArray := fun f => by simp
      rw [hz0, g1]
      simp [newRow]
    · have hrow := range_zero z2.cells.toList len
      rw [hzl] at hrow
      simp only [Array.toArray_toList] at hrow
      simp only [execOp, ho, Instr.buildSlice, Sem.run_bind, Result.andThen_ok, run_underlying h2, hmap, run_sizeOf m1]
      rw [if_neg (by omega), if_neg e]
      simp only [Sem.run_bind, Sem.run_pure, Result.andThen_ok, run_zeroValue m1 m3, hrow, g1]
      simp [newRow]
  · exact .inl ⟨rfl, (w.heap.size, 0, 0), len, by simp, .inl ⟨by unfold unkU; omega, rfl⟩, rfl⟩

end Go.Ev
