/- A row of pairs of small numbers that is an argument; a number that is one. -/
import Derived.Test.YtpdabjimdfifnaaEwTop
import Derived.OpenShut
set_option linter.unusedVariables false
set_option linter.unusedSimpArgs false
namespace Go.Ew
open Go.Ev Go.Deep Go.RowKit
section
variable {H : Type} {enc : TypeId × Value → H} {P : Program} {w : World}

theorem ld_two {b o : Nat} {c0 c1 u0 u1 : Value} (g0 : w.cell? ⟨b, o, none⟩ = some c0) (g1 : w.cell? ⟨b, o + 1, none⟩ = some c1)
    (f0 : w.frozen? ⟨b, o, none⟩ = false) (f1 : w.frozen? ⟨b, o + 1, none⟩ = false)
    (a0 : absV w.heap.size c0 = some u0) (a1 : absV w.heap.size c1 = some u1) : ld (KW w) ⟨b, o, none⟩ [u0, u1] := by
  obtain ⟨e, h, k0⟩ := KW_cell g0 f0 a0
  obtain ⟨e1, h1, k1⟩ := KW_cell g1 f1 a1
  rw [h] at h1
  cases h1
  refine ⟨rfl, e, h, ?_⟩
  show rd e.cells o 2 = _
  simp only [rd, k0, k1]

theorem arg_u82 {t e u : TypeId} {v : Value} {d : DataW H} {ps : List MemPlace} (ht : P.underlying t = some (.slice e)) (ce : P.cellsOf e = 2) (he : P.underlying e = some (.array 2 u)) (cu : P.cellsOf u = 1) (hu : P.underlying u = some (.int .u8)) (h : DataW.Trod enc P w 0 (fun _ => true) true t v d ps) (hf : w.noneFrozen ps) (hv : ∃ a l c, v = .slice a l c) :
    ∃ a n c, absV w.heap.size v = some (.slice a n c) ∧ ∀ i, i < n → ∃ b o x y, a = some ⟨b, o, none⟩ ∧ ld (KW w) ⟨b, o + i * 2, none⟩ [.int .u8 x, .int .u8 y] ∧ 0 ≤ x ∧ x ≤ 255 ∧ 0 ≤ y ∧ y ≤ 255 := by
  obtain ⟨fuel, hd⟩ := h
  obtain ⟨a0, l0, c0, rfl⟩ := hv
  have hcs : (Value.slice a0 l0 c0).cells.toList = [.slice a0 l0 c0] := rfl
  rw [hcs] at hd
  rcases DataW.trod_slice ht hd with ⟨h1, h2⟩ | ⟨a, len, cap, elems, rest, n, _, h1, h2, _, h3, h4, h5, h6, _⟩
  · cases h1
    exact ⟨none, 0, 0, rfl, fun i hi => by omega⟩
  · cases h1
    simp only [Prod.mk.injEq] at h2
    obtain ⟨rfl, rfl⟩ := h2
    have hmax : maxLen < unkU := by decide
    by_cases hl : l0 = 0
    · subst hl
      have hab : absV w.heap.size (.slice (some a) 0 c0) = if a.spot = none ∧ a.block < w.heap.size ∧ c0 < unkU then some (.slice (some a) 0 c0) else if 0 = 0 then some vague else none := rfl
      by_cases hq : a.spot = none ∧ a.block < w.heap.size ∧ c0 < unkU
      · rw [if_pos hq] at hab
        exact ⟨_, _, _, hab, fun i hi => by omega⟩
      · rw [if_neg hq, if_pos rfl] at hab
        exact ⟨_, _, _, hab, fun i hi => by omega⟩
    · have elem : ∀ i, i < l0 → ∃ cs y, w.cells? 0 (a.add (i * 2)) 2 = some cs ∧ DataW.trod enc P w 0 (fun _ => true) true n e cs = some y ∧ y ∈ elems := by
        intro i hi
        have h7 := h6 i hi
        rw [List.getElem?_eq_getElem (by omega), ce] at h7
        obtain ⟨cs, k1, k2⟩ := Option.bind_eq_some_iff.1 h7
        exact ⟨cs, _, k1, k2, List.getElem_mem _⟩
      obtain ⟨cs0, _, z1, z2, _⟩ := elem 0 (by omega)
      obtain ⟨z3, z4⟩ := cells_get z1
      have hsb : a.spot = none ∧ a.block < w.heap.size := by
        match cs0, z3 with
        | x :: _, _ =>
          have z5 := z4 0 x rfl
          have z6 := cell_spot z5
          obtain ⟨b, o, sp⟩ := a
          have : sp = none := by simpa [Addr.add] using z6
          subst this
          rw [add_addr, add_addr] at z5
          exact ⟨rfl, (cell_lt z5).1⟩
      obtain ⟨b, o, sp⟩ := a
      obtain ⟨hsp, hb⟩ := hsb
      cases hsp
      have hcu : c0 < unkU := by omega
      refine ⟨some ⟨b, o, none⟩, l0, c0, by simp [absV, hb, hcu], fun i hi => ?_⟩
      obtain ⟨cs, y, k1, k2, k3⟩ := elem i hi
      obtain ⟨k4, k5⟩ := cells_get k1
      obtain ⟨ys, m, rfl, rfl, hlen, hyl, hfs⟩ := DataW.trod_array he k2
      match cs, k4, ys, hyl with
      | [c1, c2], _, [y1, y2], _ =>
        have q0 := hfs 0 (by omega)
        have q1 := hfs 1 (by omega)
        rw [cu] at q0 q1
        have q0 : DataW.trod enc P w 0 (fun _ => true) true m u [c1] = some y1 := q0
        have q1 : DataW.trod enc P w 0 (fun _ => true) true m u [c2] = some y2 := q1
        obtain ⟨x, rfl, hx, _⟩ := trod_int hu q0
        obtain ⟨z, rfl, hz, _⟩ := trod_int hu q1
        have w0 := k5 0 _ rfl
        have w1 := k5 1 _ rfl
        rw [add_addr, add_addr] at w0 w1
        have hfz : ∀ j, j < 2 → w.frozen? ⟨b, o + i * 2 + j, none⟩ = false := fun j hj => by
          refine hf b (o + i * 2 + j) (List.mem_append_left _ ?_)
          unfold MemPlace.row
          rw [ce]
          exact List.mem_map.2 ⟨i * 2 + j, by simp; omega, by simp [Nat.add_assoc]⟩
        simp only [Lit.wf, Bool.and_eq_true, decide_eq_true_eq] at hx hz
        have e1 : IntKind.min .u8 = 0 := by decide
        have e2 : IntKind.max .u8 = 255 := by decide
        exact ⟨b, o, x, z, rfl, ld_two w0 w1 (hfz 0 (by omega)) (hfz 1 (by omega)) rfl rfl, by omega, by omega, by omega, by omega⟩

theorem arg_int {t : TypeId} {v : Value} {d : DataW H} {ps : List MemPlace} (ht : P.underlying t = some (.int .i64)) (h : DataW.Trod enc P w 0 (fun _ => true) true t v d ps) (hv : ∃ n, v = .int .i64 n) : ∃ n : Int, v = .int .i64 n ∧ -9223372036854775808 ≤ n ∧ n ≤ 9223372036854775807 := by
  obtain ⟨m, rfl⟩ := hv
  obtain ⟨fuel, hd⟩ := h
  obtain ⟨z, e, hz, _⟩ := trod_int ht hd
  cases e
  simp only [Lit.wf, Bool.and_eq_true, decide_eq_true_eq] at hz
  have e1 : IntKind.min .i64 = -9223372036854775808 := by decide
  have e2 : IntKind.max .i64 = 9223372036854775807 := by decide
  exact ⟨m, rfl, by omega, by omega⟩
end
end Go.Ew
