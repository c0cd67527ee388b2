/- A value that is an argument. -/
import Derived.Test.YtnngkkpgdjihgaaEwTop
import Derived.Test.YtnngkkpgdjihgaaEwSl
set_option linter.unusedVariables false
set_option linter.unusedSimpArgs false
namespace Go.Ew
open Go.Ev Go.Deep Go.RowKit
section
variable {H : Type} {enc : TypeId × Value → H} {P : Program} {w : World}

theorem ld_four {b o : Nat} {c0 c1 c2 c3 u0 u1 u2 u3 : Value} (g0 : w.cell? ⟨b, o, none⟩ = some c0) (g1 : w.cell? ⟨b, o + 1, none⟩ = some c1) (g2 : w.cell? ⟨b, o + 2, none⟩ = some c2) (g3 : w.cell? ⟨b, o + 3, none⟩ = some c3)
    (f0 : w.frozen? ⟨b, o, none⟩ = false) (f1 : w.frozen? ⟨b, o + 1, none⟩ = false) (f2 : w.frozen? ⟨b, o + 2, none⟩ = false) (f3 : w.frozen? ⟨b, o + 3, none⟩ = false)
    (a0 : absV w.heap.size c0 = some u0) (a1 : absV w.heap.size c1 = some u1) (a2 : absV w.heap.size c2 = some u2) (a3 : absV w.heap.size c3 = some u3) : ld (KW w) ⟨b, o, none⟩ [u0, u1, u2, u3] := by
  obtain ⟨e, h, k0⟩ := KW_cell g0 f0 a0
  obtain ⟨e1, h1, k1⟩ := KW_cell g1 f1 a1
  obtain ⟨e2, h2, k2⟩ := KW_cell g2 f2 a2
  obtain ⟨e3, h3, k3⟩ := KW_cell g3 f3 a3
  rw [h] at h1 h2 h3
  cases h1; cases h2; cases h3
  refine ⟨rfl, e, h, ?_⟩
  show rd e.cells o 4 = _
  simp only [rd, k0, k1, k2, k3, show o + 1 + 1 = o + 2 from rfl, show o + 1 + 1 + 1 = o + 3 from rfl, show o + 2 + 1 = o + 3 from rfl]

theorem rs_of {b : Nat} (hb : b < w.heap.size) : ∀ (n o : Nat), (∀ i, i < n → ∃ v cs, ld (KW w) ⟨b, o + i * 4, none⟩ cs ∧ RV (KW w) v cs) → ∃ l : List V, l.length = n ∧ RS (KW w) l (some ⟨b, o, none⟩)
  | 0, o, _ => ⟨[], rfl, by
    show kold (KW w) 4 (some ⟨b, o, none⟩) 0 = some []
    exact kold_some.2 ⟨entW w b, by unfold KW; rw [if_pos hb], rfl⟩⟩
  | n + 1, o, h => by
    obtain ⟨v, cs, h1, h2⟩ := h 0 (by omega)
    obtain ⟨l, h3, h4⟩ := rs_of hb n (o + 4) fun i hi => by
      have := h (i + 1) (by omega)
      rw [show o + (i + 1) * 4 = o + 4 + i * 4 by omega] at this
      exact this
    exact ⟨v :: l, by simp [h3], b, o, rfl, ⟨cs, by simpa using h1, h2⟩, h4⟩

theorem val_of {t : TypeId} {f0 f1 f2 f3 : Field} (ht : P.underlying t = some (.struct #[f0, f1, f2, f3])) (ct : P.cellsOf t = 4) (o0 : f0.offset = 0) (o1 : f1.offset = 1) (o2 : f2.offset = 2) (o3 : f3.offset = 3)
    (c0 : P.cellsOf f0.type = 1) (c1 : P.cellsOf f1.type = 1) (c2 : P.cellsOf f2.type = 1) (c3 : P.cellsOf f3.type = 1)
    (h0 : P.underlying f0.type = some (.int .i64)) (h1 : P.underlying f1.type = some (.int .i64)) (h2 : P.underlying f2.type = some .string) (h3 : P.underlying f3.type = some (.slice t)) {ps : List MemPlace} (hf : w.noneFrozen ps) :
    ∀ (m : Nat) (cs : List Value) (y : DataW H × List MemPlace), DataW.trod enc P w 0 (fun _ => true) true m t cs = some y → (∀ p ∈ y.2, p ∈ ps) →
      ∃ k i s sl sl' v, cs = [.int .i64 k, .int .i64 i, .string s, sl] ∧ absV w.heap.size sl = some sl' ∧ RV (KW w) v [.int .i64 k, .int .i64 i, .string s, sl'] := by
  intro m
  induction m using Nat.strongRecOn with
  | _ m ih =>
  intro cs y h hps
  obtain ⟨xs, n, rfl, rfl, hlen, hxl, hfs⟩ := DataW.trod_struct ht h
  rw [ct] at hlen
  have hxl : xs.length = 4 := hxl
  match cs, hlen, xs, hxl with
  | [d0, d1, d2, d3], _, [y0, y1, y2, y3], _ =>
    have q0 := hfs 0 f0 rfl
    have q1 := hfs 1 f1 rfl
    have q2 := hfs 2 f2 rfl
    have q3 := hfs 3 f3 rfl
    rw [o0, c0] at q0
    rw [o1, c1] at q1
    rw [o2, c2] at q2
    rw [o3, c3] at q3
    have q0 : DataW.trod enc P w 0 (fun _ => true) true n f0.type [d0] = some y0 := q0
    have q1 : DataW.trod enc P w 0 (fun _ => true) true n f1.type [d1] = some y1 := q1
    have q2 : DataW.trod enc P w 0 (fun _ => true) true n f2.type [d2] = some y2 := q2
    have q3 : DataW.trod enc P w 0 (fun _ => true) true n f3.type [d3] = some y3 := q3
    obtain ⟨k, rfl, _, _⟩ := trod_int h0 q0
    obtain ⟨i, rfl, _, _⟩ := trod_int h1 q1
    obtain ⟨s, hs, _, _⟩ := DataW.trod_string h2 q2
    cases hs
    have hp3 : ∀ p ∈ y3.2, p ∈ ps := fun p hp => hps p (by simp [hp])
    rcases DataW.trod_slice h3 q3 with ⟨e1, _⟩ | ⟨a, len, cap, elems, rest, n', rfl, e1, rfl, _, g3, g4, g5, g6, _⟩
    · cases e1
      exact ⟨k, i, s, _, _, .mk k i s [], rfl, rfl, none, 0, 0, rfl, rfl, rfl, rfl⟩
    · cases e1
      have hmax : maxLen < unkU := by decide
      have hcu : cap < unkU := by omega
      have hblt : Nat.blt cap unkU = true := Nat.ble_eq_true_of_le hcu
      have hkc : ∀ b o, kcap (KW w) ⟨b, o, none⟩ cap 4 = some cap := fun b o => by unfold kcap; rw [hblt]; rfl
      by_cases hl : len = 0
      · subst hl
        have hab : absV w.heap.size (.slice (some a) 0 cap) = if a.spot = none ∧ a.block < w.heap.size ∧ cap < unkU then some (.slice (some a) 0 cap) else if 0 = 0 then some vague else none := rfl
        by_cases hq : a.spot = none ∧ a.block < w.heap.size ∧ cap < unkU
        · rw [if_pos hq] at hab
          obtain ⟨b, o, sp⟩ := a
          obtain ⟨hs, hb, _⟩ := hq
          cases hs
          obtain ⟨l, hl0, hrs⟩ := rs_of (w := w) hb 0 o fun i hi => by omega
          exact ⟨k, i, s, _, _, .mk k i s l, rfl, hab, _, _, _, rfl, hl0.symm, hrs, .inl ⟨rfl, cap, hkc b o, by omega⟩⟩
        · rw [if_neg hq, if_pos rfl] at hab
          exact ⟨k, i, s, _, _, .mk k i s [], rfl, hab, _, _, _, rfl, rfl, rfl, .inr ⟨by simp, rfl⟩⟩
      · have elem : ∀ i, i < len → ∃ cs y, w.cells? 0 (a.add (i * 4)) 4 = some cs ∧ DataW.trod enc P w 0 (fun _ => true) true n' t cs = some y ∧ y ∈ elems := by
          intro i hi
          have h7 := g6 i hi
          rw [List.getElem?_eq_getElem (by omega), ct] at h7
          obtain ⟨cs, k1, k2⟩ := Option.bind_eq_some_iff.1 h7
          exact ⟨cs, _, k1, k2, List.getElem_mem _⟩
        obtain ⟨cs0, _, z1, z2, _⟩ := elem 0 (by omega)
        obtain ⟨z3, z4⟩ := cells_get z1
        have hsb : a.spot = none ∧ a.block < w.heap.size := by
          match cs0, z3 with
          | x :: _, _ =>
            have z5 := z4 0 x rfl
            have z6 := cell_spot z5
            obtain ⟨b, o, sp⟩ := a
            have : sp = none := by simpa [Addr.add] using z6
            subst this
            rw [add_addr, add_addr] at z5
            exact ⟨rfl, (cell_lt z5).1⟩
        obtain ⟨b, o, sp⟩ := a
        obtain ⟨hsp, hb⟩ := hsb
        cases hsp
        obtain ⟨l, hl1, hl2⟩ := rs_of (w := w) hb len o (by
          intro i hi
          obtain ⟨cs, y, k1, k2, k3⟩ := elem i hi
          obtain ⟨k', i', s', sl, sl', v, rfl, j1, j2⟩ := ih n' (by omega) cs y k2 (fun p hp => hp3 p (List.mem_append_right _ (List.mem_flatMap.2 ⟨y, by simp [k3], hp⟩)))
          obtain ⟨_, k4⟩ := cells_get k1
          have hz : ∀ j, j < 4 → w.frozen? ⟨b, o + i * 4 + j, none⟩ = false := fun j hj => by
            refine hf b (o + i * 4 + j) (hp3 _ (List.mem_append_left _ ?_))
            unfold MemPlace.row
            rw [ct]
            exact List.mem_map.2 ⟨i * 4 + j, by simp; omega, by simp [Nat.add_assoc]⟩
          have w0 := k4 0 _ rfl
          have w1 := k4 1 _ rfl
          have w2 := k4 2 _ rfl
          have w3 := k4 3 _ rfl
          rw [add_addr, add_addr] at w0 w1 w2 w3
          exact ⟨v, _, ld_four w0 w1 w2 w3 (hz 0 (by omega)) (hz 1 (by omega)) (hz 2 (by omega)) (hz 3 (by omega)) rfl rfl rfl j1, j2⟩)
        refine ⟨k, i, s, _, .slice (some ⟨b, o, none⟩) len cap, .mk k i s l, rfl, ?_, _, _, _, rfl, hl1.symm, hl2, .inl ⟨rfl, cap, hkc b o, by omega⟩⟩
        simp [absV, hb, hcu]

/-- A value. -/
theorem arg_val {t : TypeId} {f0 f1 f2 f3 : Field} {v : Value} {d : DataW H} {ps : List MemPlace} (ht : P.underlying t = some (.struct #[f0, f1, f2, f3])) (ct : P.cellsOf t = 4) (o0 : f0.offset = 0) (o1 : f1.offset = 1) (o2 : f2.offset = 2) (o3 : f3.offset = 3)
    (c0 : P.cellsOf f0.type = 1) (c1 : P.cellsOf f1.type = 1) (c2 : P.cellsOf f2.type = 1) (c3 : P.cellsOf f3.type = 1)
    (h0 : P.underlying f0.type = some (.int .i64)) (h1 : P.underlying f1.type = some (.int .i64)) (h2 : P.underlying f2.type = some .string) (h3 : P.underlying f3.type = some (.slice t))
    (h : DataW.Trod enc P w 0 (fun _ => true) true t v d ps) (hf : w.noneFrozen ps) (hv : ∃ cs, v = .agg cs ∧ cs.size = P.cellsOf t) :
    ∃ x cs, RV (KW w) x cs ∧ W (thW w.heap.size) (.agg cs.toArray) v := by
  obtain ⟨cs, rfl, _⟩ := hv
  obtain ⟨m, hm⟩ := h
  obtain ⟨k, i, s, sl, sl', x, e, j1, j2⟩ := val_of ht ct o0 o1 o2 o3 c0 c1 c2 c3 h0 h1 h2 h3 hf m _ _ hm fun p hp => hp
  refine ⟨x, _, j2, ?_⟩
  have e : cs.toList = [.int .i64 k, .int .i64 i, .string s, sl] := e
  exact ⟨cs.toList, by simp, by rw [e]; exact ⟨rfl, rfl, rfl, absV_S j1, trivial⟩⟩
end
end Go.Ew
