/- A row of rows of so many small numbers that is an argument. -/
import Derived.Test.YtochppfdebfopaaEwTop
import Derived.OpenShut
set_option linter.unusedVariables false
set_option linter.unusedSimpArgs false
namespace Go.Ew
open Go.Ev Go.Deep Go.RowKit
section
variable {H : Type} {enc : TypeId × Value → H} {P : Program} {w : World}

theorem arg_u8k {t e u : TypeId} {k : Nat} {v : Value} {d : DataW H} {ps : List MemPlace} (ht : P.underlying t = some (.slice e)) (ce : P.cellsOf e = k) (he : P.underlying e = some (.array k u)) (cu : P.cellsOf u = 1) (hu : P.underlying u = some (.int .u8)) (h : DataW.Trod enc P w 0 (fun _ => true) true t v d ps) (hf : w.noneFrozen ps) (hv : ∃ a l c, v = .slice a l c) (hk0 : 0 < k) :
    ∃ a n c, absV w.heap.size v = some (.slice a n c) ∧ ∀ i, i < n → ∃ b o, a = some ⟨b, o, none⟩ ∧ ∀ j, j < k → ∃ x, ld (KW w) ⟨b, o + i * k + j, none⟩ [.int .u8 x] ∧ 0 ≤ x ∧ x ≤ 255 := by
  obtain ⟨fuel, hd⟩ := h
  obtain ⟨a0, l0, c0, rfl⟩ := hv
  have hcs : (Value.slice a0 l0 c0).cells.toList = [.slice a0 l0 c0] := rfl
  rw [hcs] at hd
  rcases DataW.trod_slice ht hd with ⟨h1, h2⟩ | ⟨a, len, cap, elems, rest, n, _, h1, h2, _, h3, h4, h5, h6, _⟩
  · cases h1
    exact ⟨none, 0, 0, rfl, fun i hi => by omega⟩
  · cases h1
    simp only [Prod.mk.injEq] at h2
    obtain ⟨rfl, rfl⟩ := h2
    have hmax : maxLen < unkU := by decide
    by_cases hl : l0 = 0
    · subst hl
      have hab : absV w.heap.size (.slice (some a) 0 c0) = if a.spot = none ∧ a.block < w.heap.size ∧ c0 < unkU then some (.slice (some a) 0 c0) else if 0 = 0 then some vague else none := rfl
      by_cases hq : a.spot = none ∧ a.block < w.heap.size ∧ c0 < unkU
      · rw [if_pos hq] at hab
        exact ⟨_, _, _, hab, fun i hi => by omega⟩
      · rw [if_neg hq, if_pos rfl] at hab
        exact ⟨_, _, _, hab, fun i hi => by omega⟩
    · have elem : ∀ i, i < l0 → ∃ cs y, w.cells? 0 (a.add (i * k)) k = some cs ∧ DataW.trod enc P w 0 (fun _ => true) true n e cs = some y ∧ y ∈ elems := by
        intro i hi
        have h7 := h6 i hi
        rw [List.getElem?_eq_getElem (by omega), ce] at h7
        obtain ⟨cs, k1, k2⟩ := Option.bind_eq_some_iff.1 h7
        exact ⟨cs, _, k1, k2, List.getElem_mem _⟩
      obtain ⟨cs0, _, z1, z2, _⟩ := elem 0 (by omega)
      obtain ⟨z3, z4⟩ := cells_get z1
      have hsb : a.spot = none ∧ a.block < w.heap.size := by
        match cs0, z3 with
        | [], z3 => simp at z3; omega
        | x :: _, _ =>
          have z5 := z4 0 x rfl
          have z6 := cell_spot z5
          obtain ⟨b, o, sp⟩ := a
          have : sp = none := by simpa [Addr.add] using z6
          subst this
          rw [add_addr, add_addr] at z5
          exact ⟨rfl, (cell_lt z5).1⟩
      obtain ⟨b, o, sp⟩ := a
      obtain ⟨hsp, hb⟩ := hsb
      cases hsp
      have hcu : c0 < unkU := by omega
      refine ⟨some ⟨b, o, none⟩, l0, c0, by simp [absV, hb, hcu], fun i hi => ?_⟩
      obtain ⟨cs, y, k1, k2, k3⟩ := elem i hi
      obtain ⟨k4, k5⟩ := cells_get k1
      obtain ⟨ys, m, rfl, rfl, hlen, hyl, hfs⟩ := DataW.trod_array he k2
      refine ⟨b, o, rfl, fun j hj => ?_⟩
      have q0 := hfs j hj
      rw [cu] at q0
      rw [Nat.mul_one] at q0
      have hj2 : j < cs.length := by omega
      have e0 : (cs.drop j).take 1 = [cs[j]] := by rw [List.drop_eq_getElem_cons hj2]; rfl
      rw [e0, List.getElem?_eq_getElem (by omega)] at q0
      obtain ⟨x, hxe, hx, _⟩ := trod_int hu q0
      have w0 := k5 j cs[j] (List.getElem?_eq_getElem hj2)
      rw [hxe, add_addr, add_addr] at w0
      have hfz : w.frozen? ⟨b, o + i * k + j, none⟩ = false := by
        refine hf b (o + i * k + j) (List.mem_append_left _ ?_)
        unfold MemPlace.row
        rw [ce]
        have hlt : i * k + j < l0 * k := by
          have : (i + 1) * k ≤ l0 * k := Nat.mul_le_mul_right _ hi
          rw [Nat.add_mul] at this
          omega
        exact List.mem_map.2 ⟨i * k + j, by simp only [List.mem_range]; exact Nat.lt_of_lt_of_le hlt (Nat.mul_le_mul_right _ (by omega)), by simp [Nat.add_assoc]⟩
      simp only [Lit.wf, Bool.and_eq_true, decide_eq_true_eq] at hx
      have e1 : IntKind.min .u8 = 0 := by decide
      have e2 : IntKind.max .u8 = 255 := by decide
      exact ⟨x, KW_ld w0 hfz rfl, by omega, by omega⟩
end
end Go.Ew
