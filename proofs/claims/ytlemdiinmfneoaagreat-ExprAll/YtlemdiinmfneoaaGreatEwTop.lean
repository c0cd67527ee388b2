import Derived.Test.YtlemdiinmfneoaaGreatEwLib
import Derived.Carry
import Derived.Test.YtlemdiinmfneoaaGreatEwVal
import Derived.Test.YtlemdiinmfneoaaGreatEwAl1
/- From a call in what is known of memory to the call in a world: all that lies in the world is known, to be read. -/
set_option linter.unusedVariables false
namespace Go.Ew
open Go.Ev Go.Deep Go.RowKit

def treeOf {α : Type} (f : Nat → Option α) : Nat → BT (Option α)
  | 0 => .nil
  | n + 1 => tset (treeOf f n) n (f n)

theorem tree_get {α : Type} (f : Nat → Option α) : ∀ n k, tget (treeOf f n) k = if k < n then f k else none
  | 0, k => by simp [treeOf, tget]
  | n + 1, k => by
    rw [treeOf, tget_tset, tree_get f n]
    by_cases e : n = k
    · subst e; simp
    · rw [if_neg e]
      by_cases h : k < n
      · rw [if_pos h, if_pos (by omega)]
      · rw [if_neg h, if_neg (by omega)]

/-- A cell's value as named memory has it, where each block's name is its number. -/
def absV (N : Nat) : Value → Option Value
  | .pointer (some a) => if a.spot = none ∧ a.block < N then some (.pointer (some a)) else none
  | .slice (some a) l c => if a.spot = none ∧ a.block < N ∧ c < unkU then some (.slice (some a) l c) else if l = 0 then some vague else none
  | v => if isPlain v = true then some v else none

def thW (N : Nat) : Th := fun n => if n < N then some (n, 0, 0) else none

theorem absV_S {N : Nat} {v u : Value} (h : absV N v = some u) : S (thW N) u v := by
  unfold absV at h
  split at h
  · rename_i a
    split at h
    · rename_i hq
      cases h
      refine ⟨hq.1, (a.block, 0, 0), by simp [thW, hq.2], ?_⟩
      obtain ⟨b, o, sp⟩ := a
      obtain ⟨h1, h2⟩ := hq
      cases h1
      simp
    · cases h
  · rename_i a l c
    split at h
    · rename_i hq
      cases h
      obtain ⟨b, o, sp⟩ := a
      obtain ⟨h1, h2, h3⟩ := hq
      cases h1
      exact .inl ⟨rfl, (b, 0, 0), c, by simp only at h2; simp [thW, h2], .inl ⟨h3, rfl⟩, by simp⟩
    · split at h
      · rename_i hl
        cases h
        subst hl
        exact .inr ⟨by simp, rfl, Nat.le_refl _, _, _, rfl⟩
      · cases h
  · split at h
    · rename_i hp
      cases h
      exact S_plain hp
    · cases h

def bsz (w : World) (b : Nat) : Nat := match w.heap[b]? with
  | some (.cells c _ _) => c.size
  | _ => 0

def blkOf (w : World) (b : Nat) (i : Nat) : Option Value := match w.cell? ⟨b, i, none⟩ with
  | some v => if w.frozen? ⟨b, i, none⟩ = false then absV w.heap.size v else none
  | none => none

def entW (w : World) (b : Nat) : Ent := ⟨treeOf (blkOf w b) (bsz w b), 0, roU, none⟩

def KW (w : World) : KH := fun b => if b < w.heap.size then some (entW w b) else none

def snapW (w : World) : Hp := ⟨treeOf (fun b => some (entW w b)) w.heap.size, w.heap.size⟩

theorem snap_get (w : World) (k : Nat) : tget (snapW w).m k = KW w k := tree_get _ _ _

theorem KW_some {w : World} {k : Nat} {e : Ent} (h : KW w k = some e) : k < w.heap.size ∧ e = entW w k := by
  unfold KW at h
  split at h
  · rename_i q; cases h; exact ⟨q, rfl⟩
  · cases h

theorem HR_snap [LG] (w : World) : HR (thW w.heap.size) (snapW w) w := by
  refine ⟨fun n e x he hx => ?_, fun n m e e' x y h1 h2 hne h3 h4 => ?_, fun n hn => ?_⟩
  · rw [snap_get] at he
    obtain ⟨h1, rfl⟩ := KW_some he
    have hx' : x = (n, 0, 0) := by
      simp only [thW, if_pos h1, Option.some.injEq] at hx
      exact hx.symm
    subst hx'
    refine ⟨hx, h1, fun i v hi => ?_, fun o ho => (by cases ho), fun hu => ⟨by simp [entW], fun i hi => by simp at hi⟩⟩
    simp only [entW, tree_get] at hi
    split at hi
    · unfold blkOf at hi
      simp only [Nat.zero_add]
      cases hc : w.cell? ⟨n, i, none⟩ with
      | none => rw [hc] at hi; cases hi
      | some u =>
        rw [hc] at hi
        simp only at hi
        split at hi
        · rename_i hf
          exact ⟨⟨u, rfl, absV_S hi⟩, hf⟩
        · cases hi
    · cases hi
  · unfold thW at h3 h4
    split at h3
    · split at h4
      · cases h3; cases h4; exact hne
      · cases h4
    · cases h3
  · have : ¬ n < w.heap.size := by have : w.heap.size ≤ n := hn; omega
    simp [thW, this]

theorem cell_lt {w : World} {b o : Nat} {v : Value} (h : w.cell? ⟨b, o, none⟩ = some v) : b < w.heap.size ∧ o < bsz w b := by
  unfold World.cell? at h
  unfold bsz
  cases hb : w.heap[b]? with
  | none => simp [hb] at h
  | some ob =>
    refine ⟨(Array.getElem?_eq_some_iff.1 hb).1, ?_⟩
    rw [hb] at h
    cases ob <;> simp at h ⊢
    rename_i c t fr
    exact (Array.getElem?_eq_some_iff.1 h).1

/-- What lies there is known. -/
theorem KW_cell {w : World} {b o : Nat} {v u : Value} (h : w.cell? ⟨b, o, none⟩ = some v) (hf : w.frozen? ⟨b, o, none⟩ = false) (ha : absV w.heap.size v = some u) : ∃ e, KW w b = some e ∧ tget e.cells o = some u := by
  obtain ⟨h1, h2⟩ := cell_lt h
  refine ⟨entW w b, by unfold KW; rw [if_pos h1], ?_⟩
  simp only [entW, tree_get, if_pos h2]
  unfold blkOf
  rw [h]
  simp only [hf, if_true, ha]

theorem KW_ld {w : World} {b o : Nat} {v u : Value} (h : w.cell? ⟨b, o, none⟩ = some v) (hf : w.frozen? ⟨b, o, none⟩ = false) (ha : absV w.heap.size v = some u) : ld (KW w) ⟨b, o, none⟩ [u] := by
  obtain ⟨e, h1, h2⟩ := KW_cell h hf ha
  refine ⟨rfl, e, h1, ?_⟩
  simp only [List.length_singleton, rd, h2]

/-- A call that answers so in what is known answers so in the world, and changes nothing that was there. -/
theorem top {E : Env} (hE : EnvOk E) {g : Nat} {fn : Func} (hfn : tget E.ff g = some fn) {args cargs : List Value} {w : World} {v : Value} (hp : isPlain v = true) (hD : Does E g args (KW w) fun r _ => r = v) (ha : all2 (W (thW w.heap.size)) args cargs) :
    Calls E.P g cargs.toArray w fun e w' => e = .returned v ∧ Below w.heap.size w w' := by
  letI := lgOf E
  obtain ⟨r, h', H', ⟨n, hrun⟩, hq, _⟩ := hD.run (snapW w) (fun k hk => by
    rw [snap_get]
    have : ¬ k < w.heap.size := by have : w.heap.size ≤ k := hk; omega
    simp [KW, this]) (fun k e q => by rw [snap_get]; exact q)
  subst hq
  rcases (call_sound hE (lgOf_ok E) (ev_sound hE (lgOf_ok E) n) (snapW w) g args r h' (hrun n (Nat.le_refl _)) (thW w.heap.size) w cargs (HR_snap w) ha).1 hD.lt with ⟨_, h2⟩ | ⟨u, h1, _, _⟩
  · refine h2.mono fun e w' hq => ?_
    obtain ⟨θ', u, rfl, q1, q2, q3⟩ := hq
    rw [W_plain hp q3]
    refine ⟨rfl, q1.os, q1.tape, q1.output, q1.size, fun k hk => q1.frame k hk fun n e x q hu _ => ?_⟩
    rw [snap_get] at q
    obtain ⟨_, rfl⟩ := KW_some q
    exact absurd rfl hu
  · exfalso
    obtain ⟨f1, f2, c', f3, _⟩ := hE.ff g fn hfn
    have f2' : ¬ fn.name = "runtime.NumGoroutine" := fun e => by rw [e] at f2; simp at f2
    simp [callFunc, f1, f2', f3] at h1

/- What an argument is. -/
section
variable {H : Type} {enc : TypeId × Value → H} {P : Program} {w : World}

theorem cells_get {b n : Nat} {a : Addr} {cs : List Value} (h : w.cells? b a n = some cs) : cs.length = n ∧ ∀ i v, cs[i]? = some v → w.cell? (a.add i) = some v := by
  unfold World.cells? at h
  split at h
  · refine ⟨by simpa using mapM_some_length h, fun i v hv => ?_⟩
    have hi : i < n := by
      have := mapM_some_length h
      rcases Nat.lt_or_ge i n with q | q
      · exact q
      · rw [List.getElem?_eq_none (by simp at this; omega)] at hv; cases hv
    have := mapM_some_get h i i (by simp [hi])
    rw [this]; exact hv
  · cases h

theorem cell_spot {a : Addr} {v : Value} (h : w.cell? a = some v) : a.spot = none := by
  unfold World.cell? at h
  cases hs : a.spot with
  | none => rfl
  | some s =>
    rw [hs] at h
    split at h <;> simp_all

/-- A slice as an argument, its elements as cells. -/
theorem arg_slice {t e : TypeId} {v : Value} {d : DataW H} {ps : List MemPlace} (ht : P.underlying t = some (.slice e)) (he : P.cellsOf e = 1) (h : DataW.Trod enc P w 0 (fun _ => true) true t v d ps) (hf : w.noneFrozen ps) (hv : ∃ a l c, v = .slice a l c) :
    ∃ a n c, absV w.heap.size v = some (.slice a n c) ∧ ∀ i, i < n → ∃ b o x y m, a = some ⟨b, o, none⟩ ∧ w.cell? ⟨b, o + i, none⟩ = some x ∧ w.frozen? ⟨b, o + i, none⟩ = false ∧ DataW.trod enc P w 0 (fun _ => true) true m e [x] = some y ∧ ∀ p ∈ y.2, p ∈ ps := by
  obtain ⟨fuel, hd⟩ := h
  obtain ⟨a0, l0, c0, rfl⟩ := hv
  have hcs : (Value.slice a0 l0 c0).cells.toList = [.slice a0 l0 c0] := rfl
  rw [hcs] at hd
  rcases DataW.trod_slice ht hd with ⟨h1, h2⟩ | ⟨a, len, cap, elems, rest, n, _, h1, h2, _, h3, h4, h5, h6, _⟩
  · cases h1
    exact ⟨none, 0, 0, rfl, fun i hi => by omega⟩
  · cases h1
    simp only [Prod.mk.injEq] at h2
    obtain ⟨rfl, rfl⟩ := h2
    have hmax : maxLen < unkU := by decide
    by_cases hl : l0 = 0
    · subst hl
      have hab : absV w.heap.size (.slice (some a) 0 c0) = if a.spot = none ∧ a.block < w.heap.size ∧ c0 < unkU then some (.slice (some a) 0 c0) else if 0 = 0 then some vague else none := rfl
      by_cases hq : a.spot = none ∧ a.block < w.heap.size ∧ c0 < unkU
      · rw [if_pos hq] at hab
        exact ⟨_, _, _, hab, fun i hi => by omega⟩
      · rw [if_neg hq, if_pos rfl] at hab
        exact ⟨_, _, _, hab, fun i hi => by omega⟩
    · have elem : ∀ i, i < l0 → ∃ x y, w.cell? (a.add i) = some x ∧ DataW.trod enc P w 0 (fun _ => true) true n e [x] = some y ∧ y ∈ elems := by
        intro i hi
        have h7 := h6 i hi
        rw [List.getElem?_eq_getElem (by omega)] at h7
        obtain ⟨cs, k1, k2⟩ := Option.bind_eq_some_iff.1 h7
        obtain ⟨k3, k4⟩ := cells_get k1
        rw [he] at k3 k4
        match cs, k3 with
        | [x], _ =>
          have k5 := k4 0 x rfl
          have e1 : (a.add (i * 1)).add 0 = a.add i := by
            rw [Nat.mul_one]
            generalize a.add i = z
            obtain ⟨b, o, sp⟩ := z
            unfold Addr.add
            simp
          rw [e1] at k5
          exact ⟨x, _, k5, k2, List.getElem_mem _⟩
      obtain ⟨x0, _, c1, _, _⟩ := elem 0 (by omega)
      have hs : a.spot = none := by
        have := cell_spot c1
        obtain ⟨b, o, sp⟩ := a
        unfold Addr.add at this
        simpa using this
      obtain ⟨b, o, sp⟩ := a
      cases hs
      rw [add_addr] at c1
      have hb := (cell_lt c1).1
      have hcu : c0 < unkU := by omega
      refine ⟨some ⟨b, o, none⟩, l0, c0, by simp [absV, hb, hcu], fun i hi => ?_⟩
      obtain ⟨x, y, k1, k2, k3⟩ := elem i hi
      rw [add_addr] at k1
      refine ⟨b, o, x, y, n, rfl, k1, hf b (o + i) ?_, k2, fun p hp => ?_⟩
      · refine List.mem_append_left _ ?_
        unfold MemPlace.row
        rw [he, Nat.mul_one]
        exact List.mem_map.2 ⟨i, by simp; omega, rfl⟩
      · refine List.mem_append_right _ (List.mem_flatMap.2 ⟨y, by simp [k3], hp⟩)

/-- A number. -/
theorem trod_int {t : TypeId} {k : IntKind} {x : Value} {m : Nat} {y : DataW H × List MemPlace} (ht : P.underlying t = some (.int k)) (h : DataW.trod enc P w 0 (fun _ => true) true m t [x] = some y) : ∃ n, x = .int k n ∧ (Lit.int k n).wf = true ∧ y = (.lit (.int k n), []) := by
  cases m with
  | zero => simp [DataW.trod] at h
  | succ m =>
    unfold DataW.trod at h
    rw [ht] at h
    cases x <;> simp at h
    rename_i k' n
    obtain ⟨⟨rfl, h2⟩, h3⟩ := h
    exact ⟨n, rfl, h2, h3.symm⟩

/-- All arguments read as they did. -/
theorem trodAll_below {W W' : World} (hl : laidOutB P = true) (hb : Below W.heap.size W W') : ∀ (ts : List TypeId) (vs : List Value) (ds : List (DataW H)) (ps : List MemPlace), (∀ t ∈ ts, P.readableRec t = true ∧ t < P.types.size) →
    DataW.TrodAll enc P W 0 (fun _ => true) true ts vs ds ps → (∀ x ∈ ps, x.block < W.heap.size) → DataW.TrodAll enc P W' 0 (fun b => decide (b < W.heap.size)) true ts vs ds ps
  | [], [], [], ps, _, h, _ => h
  | t :: ts, v :: vs, d :: ds, ps, ht, ⟨p, q, h1, h2, h3⟩, hlt => by
    subst h3
    exact ⟨p, q, Below.trod hl (ht t (by simp)).1 (ht t (by simp)).2 h1 hb (fun x hx => hlt x (by simp [hx])), trodAll_below hl hb ts vs ds q (fun t' h' => ht t' (by simp [h'])) h2 (fun x hx => hlt x (by simp [hx])), rfl⟩
  | [], _ :: _, _, _, _, h, _ => by cases h
  | [], [], _ :: _, _, _, h, _ => by cases h
  | _ :: _, [], _, _, _, h, _ => by cases h
  | _ :: _, _ :: _, [], _, _, h, _ => by cases h

/-- Numbers in a row. -/
theorem arg_u8 {t e : TypeId} {v : Value} {d : DataW H} {ps : List MemPlace} (ht : P.underlying t = some (.slice e)) (he : P.cellsOf e = 1) (hu : P.underlying e = some (.int .u8)) (h : DataW.Trod enc P w 0 (fun _ => true) true t v d ps) (hf : w.noneFrozen ps) (hv : ∃ a l c, v = .slice a l c) :
    ∃ a n c, absV w.heap.size v = some (.slice a n c) ∧ ∀ i, i < n → ∃ b o x, a = some ⟨b, o, none⟩ ∧ ld (KW w) ⟨b, o + i, none⟩ [.int .u8 x] ∧ 0 ≤ x ∧ x ≤ 255 := by
  obtain ⟨a, n, c, h1, h2⟩ := arg_slice ht he h hf hv
  refine ⟨a, n, c, h1, fun i hi => ?_⟩
  obtain ⟨b, o, x, y, m, k1, k2, k3, k4, _⟩ := h2 i hi
  obtain ⟨z, rfl, hz, _⟩ := trod_int hu k4
  refine ⟨b, o, z, k1, KW_ld k2 k3 rfl, ?_⟩
  simp only [Lit.wf, Bool.and_eq_true, decide_eq_true_eq] at hz
  have e1 : IntKind.min .u8 = 0 := by decide
  have e2 : IntKind.max .u8 = 255 := by decide
  omega

theorem absV_W {N : Nat} {v u : Value} (h : absV N v = some u) : W (thW N) u v := W_of_S (absV_S h)

end
end Go.Ew

/- A value that is an argument. -/
set_option linter.unusedVariables false
set_option linter.unusedSimpArgs false
namespace Go.Ew
open Go.Ev Go.Deep Go.RowKit
section
variable {H : Type} {enc : TypeId × Value → H} {P : Program} {w : World}

theorem ld_four {b o : Nat} {c0 c1 c2 c3 u0 u1 u2 u3 : Value} (g0 : w.cell? ⟨b, o, none⟩ = some c0) (g1 : w.cell? ⟨b, o + 1, none⟩ = some c1) (g2 : w.cell? ⟨b, o + 2, none⟩ = some c2) (g3 : w.cell? ⟨b, o + 3, none⟩ = some c3)
    (f0 : w.frozen? ⟨b, o, none⟩ = false) (f1 : w.frozen? ⟨b, o + 1, none⟩ = false) (f2 : w.frozen? ⟨b, o + 2, none⟩ = false) (f3 : w.frozen? ⟨b, o + 3, none⟩ = false)
    (a0 : absV w.heap.size c0 = some u0) (a1 : absV w.heap.size c1 = some u1) (a2 : absV w.heap.size c2 = some u2) (a3 : absV w.heap.size c3 = some u3) : ld (KW w) ⟨b, o, none⟩ [u0, u1, u2, u3] := by
  obtain ⟨e, h, k0⟩ := KW_cell g0 f0 a0
  obtain ⟨e1, h1, k1⟩ := KW_cell g1 f1 a1
  obtain ⟨e2, h2, k2⟩ := KW_cell g2 f2 a2
  obtain ⟨e3, h3, k3⟩ := KW_cell g3 f3 a3
  rw [h] at h1 h2 h3
  cases h1; cases h2; cases h3
  refine ⟨rfl, e, h, ?_⟩
  show rd e.cells o 4 = _
  simp only [rd, k0, k1, k2, k3, show o + 1 + 1 = o + 2 from rfl, show o + 1 + 1 + 1 = o + 3 from rfl, show o + 2 + 1 = o + 3 from rfl]

end
end Go.Ew

/- A value that is an argument, with its numbers' ranges; an expression that is one. -/
set_option linter.unusedVariables false
set_option linter.unusedSimpArgs false
namespace Go.Ew
open Go.Ev Go.Deep Go.RowKit
section
variable {H : Type} {enc : TypeId × Value → H} {P : Program} {w : World}

theorem wf_in {n : Int} (h : (Lit.int .i64 n).wf = true) : -9223372036854775808 ≤ n ∧ n ≤ 9223372036854775807 := by
  simp only [Lit.wf, Bool.and_eq_true, decide_eq_true_eq] at h
  have e1 : IntKind.min .i64 = -9223372036854775808 := by decide
  have e2 : IntKind.max .i64 = 9223372036854775807 := by decide
  omega

theorem rs_ofR {b : Nat} (hb : b < w.heap.size) : ∀ (n o : Nat), (∀ i, i < n → ∃ v cs, ld (KW w) ⟨b, o + i * 4, none⟩ cs ∧ RV (KW w) v cs ∧ rgB v = true) → ∃ l : List V, l.length = n ∧ RS (KW w) l (some ⟨b, o, none⟩) ∧ ∀ v ∈ l, rgB v = true
  | 0, o, _ => ⟨[], rfl, by
    show kold (KW w) 4 (some ⟨b, o, none⟩) 0 = some []
    exact kold_some.2 ⟨entW w b, by unfold KW; rw [if_pos hb], rfl⟩, by simp⟩
  | n + 1, o, h => by
    obtain ⟨v, cs, h1, h2, h2'⟩ := h 0 (by omega)
    obtain ⟨l, h3, h4, h5⟩ := rs_ofR hb n (o + 4) fun i hi => by
      have := h (i + 1) (by omega)
      rw [show o + (i + 1) * 4 = o + 4 + i * 4 by omega] at this
      exact this
    refine ⟨v :: l, by simp [h3], ⟨b, o, rfl, ⟨cs, by simpa using h1, h2⟩, h4⟩, fun x hx => ?_⟩
    rcases List.mem_cons.1 hx with rfl | hx
    · exact h2'
    · exact h5 x hx

theorem val_ofR {t : TypeId} {f0 f1 f2 f3 : Field} (ht : P.underlying t = some (.struct #[f0, f1, f2, f3])) (ct : P.cellsOf t = 4) (o0 : f0.offset = 0) (o1 : f1.offset = 1) (o2 : f2.offset = 2) (o3 : f3.offset = 3)
    (c0 : P.cellsOf f0.type = 1) (c1 : P.cellsOf f1.type = 1) (c2 : P.cellsOf f2.type = 1) (c3 : P.cellsOf f3.type = 1)
    (h0 : P.underlying f0.type = some (.int .i64)) (h1 : P.underlying f1.type = some (.int .i64)) (h2 : P.underlying f2.type = some .string) (h3 : P.underlying f3.type = some (.slice t)) {ps : List MemPlace} (hf : w.noneFrozen ps) :
    ∀ (m : Nat) (cs : List Value) (y : DataW H × List MemPlace), DataW.trod enc P w 0 (fun _ => true) true m t cs = some y → (∀ p ∈ y.2, p ∈ ps) →
      ∃ k i s sl sl' v, cs = [.int .i64 k, .int .i64 i, .string s, sl] ∧ absV w.heap.size sl = some sl' ∧ RV (KW w) v [.int .i64 k, .int .i64 i, .string s, sl'] ∧ rgB v = true := by
  intro m
  induction m using Nat.strongRecOn with
  | _ m ih =>
  intro cs y h hps
  obtain ⟨xs, n, rfl, rfl, hlen, hxl, hfs⟩ := DataW.trod_struct ht h
  rw [ct] at hlen
  have hxl : xs.length = 4 := hxl
  match cs, hlen, xs, hxl with
  | [d0, d1, d2, d3], _, [y0, y1, y2, y3], _ =>
    have q0 := hfs 0 f0 rfl
    have q1 := hfs 1 f1 rfl
    have q2 := hfs 2 f2 rfl
    have q3 := hfs 3 f3 rfl
    rw [o0, c0] at q0
    rw [o1, c1] at q1
    rw [o2, c2] at q2
    rw [o3, c3] at q3
    have q0 : DataW.trod enc P w 0 (fun _ => true) true n f0.type [d0] = some y0 := q0
    have q1 : DataW.trod enc P w 0 (fun _ => true) true n f1.type [d1] = some y1 := q1
    have q2 : DataW.trod enc P w 0 (fun _ => true) true n f2.type [d2] = some y2 := q2
    have q3 : DataW.trod enc P w 0 (fun _ => true) true n f3.type [d3] = some y3 := q3
    obtain ⟨k, rfl, wk, _⟩ := trod_int h0 q0
    obtain ⟨i, rfl, wi, _⟩ := trod_int h1 q1
    have wi := wf_in wi
    obtain ⟨s, hs, _, _⟩ := DataW.trod_string h2 q2
    cases hs
    have hp3 : ∀ p ∈ y3.2, p ∈ ps := fun p hp => hps p (by simp [hp])
    rcases DataW.trod_slice h3 q3 with ⟨e1, _⟩ | ⟨a, len, cap, elems, rest, n', rfl, e1, rfl, _, g3, g4, g5, g6, _⟩
    · cases e1
      exact ⟨k, i, s, _, _, .mk k i s [], rfl, rfl, ⟨none, 0, 0, rfl, rfl, rfl, rfl⟩, rg_mk wi.1 wi.2 (by simp)⟩
    · cases e1
      have hmax : maxLen < unkU := by decide
      have hcu : cap < unkU := by omega
      have hblt : Nat.blt cap unkU = true := Nat.ble_eq_true_of_le hcu
      have hkc : ∀ b o, kcap (KW w) ⟨b, o, none⟩ cap 4 = some cap := fun b o => by unfold kcap; rw [hblt]; rfl
      by_cases hl : len = 0
      · subst hl
        have hab : absV w.heap.size (.slice (some a) 0 cap) = if a.spot = none ∧ a.block < w.heap.size ∧ cap < unkU then some (.slice (some a) 0 cap) else if 0 = 0 then some vague else none := rfl
        by_cases hq : a.spot = none ∧ a.block < w.heap.size ∧ cap < unkU
        · rw [if_pos hq] at hab
          obtain ⟨b, o, sp⟩ := a
          obtain ⟨hs, hb, _⟩ := hq
          cases hs
          obtain ⟨l, hl0, hrs, hrg⟩ := rs_ofR (w := w) hb 0 o fun i hi => by omega
          exact ⟨k, i, s, _, _, .mk k i s l, rfl, hab, ⟨_, _, _, rfl, hl0.symm, hrs, .inl ⟨rfl, cap, hkc b o, by omega⟩⟩, rg_mk wi.1 wi.2 hrg⟩
        · rw [if_neg hq, if_pos rfl] at hab
          exact ⟨k, i, s, _, _, .mk k i s [], rfl, hab, ⟨_, _, _, rfl, rfl, rfl, .inr ⟨by simp, rfl⟩⟩, rg_mk wi.1 wi.2 (by simp)⟩
      · have elem : ∀ i, i < len → ∃ cs y, w.cells? 0 (a.add (i * 4)) 4 = some cs ∧ DataW.trod enc P w 0 (fun _ => true) true n' t cs = some y ∧ y ∈ elems := by
          intro i hi
          have h7 := g6 i hi
          rw [List.getElem?_eq_getElem (by omega), ct] at h7
          obtain ⟨cs, k1, k2⟩ := Option.bind_eq_some_iff.1 h7
          exact ⟨cs, _, k1, k2, List.getElem_mem _⟩
        obtain ⟨cs0, _, z1, z2, _⟩ := elem 0 (by omega)
        obtain ⟨z3, z4⟩ := cells_get z1
        have hsb : a.spot = none ∧ a.block < w.heap.size := by
          match cs0, z3 with
          | x :: _, _ =>
            have z5 := z4 0 x rfl
            have z6 := cell_spot z5
            obtain ⟨b, o, sp⟩ := a
            have : sp = none := by simpa [Addr.add] using z6
            subst this
            rw [add_addr, add_addr] at z5
            exact ⟨rfl, (cell_lt z5).1⟩
        obtain ⟨b, o, sp⟩ := a
        obtain ⟨hsp, hb⟩ := hsb
        cases hsp
        obtain ⟨l, hl1, hl2, hrg⟩ := rs_ofR (w := w) hb len o (by
          intro i hi
          obtain ⟨cs, y, k1, k2, k3⟩ := elem i hi
          obtain ⟨k', i', s', sl, sl', v, rfl, j1, j2, j3⟩ := ih n' (by omega) cs y k2 (fun p hp => hp3 p (List.mem_append_right _ (List.mem_flatMap.2 ⟨y, by simp [k3], hp⟩)))
          obtain ⟨_, k4⟩ := cells_get k1
          have hz : ∀ j, j < 4 → w.frozen? ⟨b, o + i * 4 + j, none⟩ = false := fun j hj => by
            refine hf b (o + i * 4 + j) (hp3 _ (List.mem_append_left _ ?_))
            unfold MemPlace.row
            rw [ct]
            exact List.mem_map.2 ⟨i * 4 + j, by simp; omega, by simp [Nat.add_assoc]⟩
          have w0 := k4 0 _ rfl
          have w1 := k4 1 _ rfl
          have w2 := k4 2 _ rfl
          have w3 := k4 3 _ rfl
          rw [add_addr, add_addr] at w0 w1 w2 w3
          exact ⟨v, _, ld_four w0 w1 w2 w3 (hz 0 (by omega)) (hz 1 (by omega)) (hz 2 (by omega)) (hz 3 (by omega)) rfl rfl rfl j1, j2, j3⟩)
        refine ⟨k, i, s, _, .slice (some ⟨b, o, none⟩) len cap, .mk k i s l, rfl, ?_, ⟨_, _, _, rfl, hl1.symm, hl2, .inl ⟨rfl, cap, hkc b o, by omega⟩⟩, rg_mk wi.1 wi.2 hrg⟩
        simp [absV, hb, hcu]


theorem ld_eight {b o : Nat} {c0 c1 c2 c3 c4 c5 c6 c7 u0 u1 u2 u3 u4 u5 u6 u7 : Value} (g : ∀ j (c : Value), [c0, c1, c2, c3, c4, c5, c6, c7][j]? = some c → w.cell? ⟨b, o + j, none⟩ = some c) (f : ∀ j, j < 8 → w.frozen? ⟨b, o + j, none⟩ = false)
    (a0 : absV w.heap.size c0 = some u0) (a1 : absV w.heap.size c1 = some u1) (a2 : absV w.heap.size c2 = some u2) (a3 : absV w.heap.size c3 = some u3) (a4 : absV w.heap.size c4 = some u4) (a5 : absV w.heap.size c5 = some u5) (a6 : absV w.heap.size c6 = some u6) (a7 : absV w.heap.size c7 = some u7) : ld (KW w) ⟨b, o, none⟩ [u0, u1, u2, u3, u4, u5, u6, u7] := by
  obtain ⟨e, h, k0⟩ := KW_cell (g 0 _ rfl) (f 0 (by omega)) a0
  refine ⟨rfl, e, h, ?_⟩
  have go : ∀ j c u, [c0, c1, c2, c3, c4, c5, c6, c7][j]? = some c → j < 8 → absV w.heap.size c = some u → tget e.cells (o + j) = some u := fun j c u hc hj ha => by
    obtain ⟨e', h', k'⟩ := KW_cell (g j c hc) (f j hj) ha
    rw [h] at h'
    cases h'
    exact k'
  refine rd_some rfl fun i v hv => ?_
  match i, hv with
  | 0, hv => cases hv; exact go 0 _ _ rfl (by omega) a0
  | 1, hv => cases hv; exact go 1 _ _ rfl (by omega) a1
  | 2, hv => cases hv; exact go 2 _ _ rfl (by omega) a2
  | 3, hv => cases hv; exact go 3 _ _ rfl (by omega) a3
  | 4, hv => cases hv; exact go 4 _ _ rfl (by omega) a4
  | 5, hv => cases hv; exact go 5 _ _ rfl (by omega) a5
  | 6, hv => cases hv; exact go 6 _ _ rfl (by omega) a6
  | 7, hv => cases hv; exact go 7 _ _ rfl (by omega) a7
  | i + 8, hv => simp at hv

theorem res_of {b : Nat} : ∀ (n o : Nat), (∀ i, i < n → ∃ e cs, ld (KW w) ⟨b, o + i * 8, none⟩ cs ∧ RE (KW w) e cs ∧ RgE e) → ∃ l : List Ex, l.length = n ∧ RES (KW w) l (some ⟨b, o, none⟩) ∧ RgEs l
  | 0, o, _ => ⟨[], rfl, trivial, trivial⟩
  | n + 1, o, h => by
    obtain ⟨e, cs, h1, h2, h2'⟩ := h 0 (by omega)
    obtain ⟨l, h3, h4, h5⟩ := res_of n (o + 8) fun i hi => by
      have := h (i + 1) (by omega)
      rw [show o + (i + 1) * 8 = o + 8 + i * 8 by omega] at this
      exact this
    exact ⟨e :: l, by simp [h3], ⟨b, o, rfl, ⟨cs, by simpa using h1, h2⟩, h4⟩, h2', h5⟩

/-- The types of expressions: five fields, the second a value. -/
structure ExT (P : Program) (t tv : TypeId) (f0 f1 f2 f3 f4 g0 g1 g2 g3 : Field) : Prop where
  ht : P.underlying t = some (.struct #[f0, f1, f2, f3, f4])
  ct : P.cellsOf t = 8
  of : f0.offset = 0 ∧ f1.offset = 1 ∧ f2.offset = 5 ∧ f3.offset = 6 ∧ f4.offset = 7
  cf : P.cellsOf f0.type = 1 ∧ f1.type = tv ∧ P.cellsOf f2.type = 1 ∧ P.cellsOf f3.type = 1 ∧ P.cellsOf f4.type = 1
  uf : P.underlying f0.type = some (.int .i64) ∧ P.underlying f2.type = some (.int .i64) ∧ P.underlying f3.type = some (.int .i64) ∧ P.underlying f4.type = some (.slice t)
  hv : P.underlying tv = some (.struct #[g0, g1, g2, g3])
  cv : P.cellsOf tv = 4
  og : g0.offset = 0 ∧ g1.offset = 1 ∧ g2.offset = 2 ∧ g3.offset = 3
  cg : P.cellsOf g0.type = 1 ∧ P.cellsOf g1.type = 1 ∧ P.cellsOf g2.type = 1 ∧ P.cellsOf g3.type = 1
  ug : P.underlying g0.type = some (.int .i64) ∧ P.underlying g1.type = some (.int .i64) ∧ P.underlying g2.type = some .string ∧ P.underlying g3.type = some (.slice tv)

theorem expr_of {t tv : TypeId} {f0 f1 f2 f3 f4 g0 g1 g2 g3 : Field} (T : ExT P t tv f0 f1 f2 f3 f4 g0 g1 g2 g3) {ps : List MemPlace} (hf : w.noneFrozen ps) :
    ∀ (m : Nat) (cs : List Value) (y : DataW H × List MemPlace), DataW.trod enc P w 0 (fun _ => true) true m t cs = some y → (∀ p ∈ y.2, p ∈ ps) →
      ∃ op k i s sl sl' occ attr ar ar' e, cs = [.int .i64 op, .int .i64 k, .int .i64 i, .string s, sl, .int .i64 occ, .int .i64 attr, ar] ∧ absV w.heap.size sl = some sl' ∧ absV w.heap.size ar = some ar' ∧ RE (KW w) e [.int .i64 op, .int .i64 k, .int .i64 i, .string s, sl', .int .i64 occ, .int .i64 attr, ar'] ∧ RgE e := by
  intro m
  induction m using Nat.strongRecOn with
  | _ m ih =>
  intro cs y h hps
  obtain ⟨o0, o1, o2, o3, o4⟩ := T.of
  obtain ⟨c0, c1, c2, c3, c4⟩ := T.cf
  obtain ⟨u0, u2, u3, u4⟩ := T.uf
  obtain ⟨xs, n, rfl, rfl, hlen, hxl, hfs⟩ := DataW.trod_struct T.ht h
  rw [T.ct] at hlen
  have hxl : xs.length = 5 := hxl
  match cs, hlen, xs, hxl with
  | [d0, d1, d2, d3, d4, d5, d6, d7], _, [y0, y1, y2, y3, y4], _ =>
    have q0 := hfs 0 f0 rfl
    have q1 := hfs 1 f1 rfl
    have q2 := hfs 2 f2 rfl
    have q3 := hfs 3 f3 rfl
    have q4 := hfs 4 f4 rfl
    rw [o0, c0] at q0
    rw [o1, c1, T.cv] at q1
    rw [o2, c2] at q2
    rw [o3, c3] at q3
    rw [o4, c4] at q4
    have q0 : DataW.trod enc P w 0 (fun _ => true) true n f0.type [d0] = some y0 := q0
    have q1 : DataW.trod enc P w 0 (fun _ => true) true n tv [d1, d2, d3, d4] = some y1 := q1
    have q2 : DataW.trod enc P w 0 (fun _ => true) true n f2.type [d5] = some y2 := q2
    have q3 : DataW.trod enc P w 0 (fun _ => true) true n f3.type [d6] = some y3 := q3
    have q4 : DataW.trod enc P w 0 (fun _ => true) true n f4.type [d7] = some y4 := q4
    obtain ⟨op, rfl, _, _⟩ := trod_int u0 q0
    obtain ⟨occ, rfl, _, _⟩ := trod_int u2 q2
    obtain ⟨attr, rfl, _, _⟩ := trod_int u3 q3
    have hp1 : ∀ p ∈ y1.2, p ∈ ps := fun p hp => hps p (by simp [hp])
    have hp4 : ∀ p ∈ y4.2, p ∈ ps := fun p hp => hps p (by simp [hp])
    obtain ⟨k, i, s, sl, sl', v, ev, av, rv, gv⟩ := val_ofR T.hv T.cv T.og.1 T.og.2.1 T.og.2.2.1 T.og.2.2.2 T.cg.1 T.cg.2.1 T.cg.2.2.1 T.cg.2.2.2 T.ug.1 T.ug.2.1 T.ug.2.2.1 T.ug.2.2.2 hf n _ _ q1 hp1
    cases ev
    have hsl : ∃ a n c, sl' = .slice a n c := by
      obtain ⟨kk, ii, ss, ll⟩ := v
      obtain ⟨a, n, c, e, _⟩ := rv
      simp only [List.cons.injEq, and_true] at e
      exact ⟨a, n, c, e.2.2.2⟩
    obtain ⟨va, vn, vc, rfl⟩ := hsl
    rcases DataW.trod_slice u4 q4 with ⟨e1, _⟩ | ⟨a, len, cap, elems, rest, n', rfl, e1, rfl, _, g3, g4, g5, g6, _⟩
    · cases e1
      exact ⟨op, k, i, s, _, _, occ, attr, _, _, .mk op v occ attr [], rfl, av, rfl, ⟨k, i, s, va, vn, vc, none, 0, rfl, rv, trivial⟩, gv, trivial⟩
    · cases e1
      have hmax : maxLen < unkU := by decide
      have hcu : cap < unkU := by omega
      by_cases hl : len = 0
      · subst hl
        have hab : absV w.heap.size (.slice (some a) 0 cap) = if a.spot = none ∧ a.block < w.heap.size ∧ cap < unkU then some (.slice (some a) 0 cap) else if 0 = 0 then some vague else none := rfl
        by_cases hq : a.spot = none ∧ a.block < w.heap.size ∧ cap < unkU
        · rw [if_pos hq] at hab
          exact ⟨op, k, i, s, _, _, occ, attr, _, _, .mk op v occ attr [], rfl, av, hab, ⟨k, i, s, va, vn, vc, _, _, rfl, rv, trivial⟩, gv, trivial⟩
        · rw [if_neg hq, if_pos rfl] at hab
          exact ⟨op, k, i, s, _, _, occ, attr, _, _, .mk op v occ attr [], rfl, av, hab, ⟨k, i, s, va, vn, vc, _, _, rfl, rv, trivial⟩, gv, trivial⟩
      · have elem : ∀ i, i < len → ∃ cs y, w.cells? 0 (a.add (i * 8)) 8 = some cs ∧ DataW.trod enc P w 0 (fun _ => true) true n' t cs = some y ∧ y ∈ elems := by
          intro i hi
          have h7 := g6 i hi
          rw [List.getElem?_eq_getElem (by omega), T.ct] at h7
          obtain ⟨cs, k1, k2⟩ := Option.bind_eq_some_iff.1 h7
          exact ⟨cs, _, k1, k2, List.getElem_mem _⟩
        obtain ⟨cs0, _, z1, z2, _⟩ := elem 0 (by omega)
        obtain ⟨z3, z4⟩ := cells_get z1
        have hsb : a.spot = none ∧ a.block < w.heap.size := by
          match cs0, z3 with
          | x :: _, _ =>
            have z5 := z4 0 x rfl
            have z6 := cell_spot z5
            obtain ⟨b, o, sp⟩ := a
            have : sp = none := by simpa [Addr.add] using z6
            subst this
            rw [add_addr, add_addr] at z5
            exact ⟨rfl, (cell_lt z5).1⟩
        obtain ⟨b, o, sp⟩ := a
        obtain ⟨hsp, hb⟩ := hsb
        cases hsp
        obtain ⟨l, hl1, hl2, hl3⟩ := res_of (w := w) (b := b) len o (by
          intro i hi
          obtain ⟨cs, y, k1, k2, k3⟩ := elem i hi
          obtain ⟨op', k', i', s', sl, sl', occ', attr', ar, ar', e, rfl, j1, j2, j3, j4⟩ := ih n' (by omega) cs y k2 (fun p hp => hp4 p (List.mem_append_right _ (List.mem_flatMap.2 ⟨y, by simp [k3], hp⟩)))
          obtain ⟨_, k4⟩ := cells_get k1
          have hz : ∀ j, j < 8 → w.frozen? ⟨b, o + i * 8 + j, none⟩ = false := fun j hj => by
            refine hf b (o + i * 8 + j) (hp4 _ (List.mem_append_left _ ?_))
            unfold MemPlace.row
            rw [T.ct]
            exact List.mem_map.2 ⟨i * 8 + j, by simp; omega, by simp [Nat.add_assoc]⟩
          refine ⟨e, _, ld_eight (c0 := .int .i64 op') (c1 := .int .i64 k') (c2 := .int .i64 i') (c3 := .string s') (c5 := .int .i64 occ') (c6 := .int .i64 attr') (fun j c hc => ?_) hz rfl rfl rfl rfl j1 rfl rfl j2, j3, j4⟩
          have := k4 j c hc
          rw [add_addr, add_addr] at this
          exact this)
        refine ⟨op, k, i, s, _, _, occ, attr, _, .slice (some ⟨b, o, none⟩) len cap, .mk op v occ attr l, rfl, av, ?_, ⟨k, i, s, va, vn, vc, some ⟨b, o, none⟩, cap, by rw [hl1], rv, hl2⟩, gv, hl3⟩
        simp [absV, hb, hcu]

/-- An expression. -/
theorem arg_expr {t tv : TypeId} {f0 f1 f2 f3 f4 g0 g1 g2 g3 : Field} {v : Value} {d : DataW H} {ps : List MemPlace} (T : ExT P t tv f0 f1 f2 f3 f4 g0 g1 g2 g3)
    (h : DataW.Trod enc P w 0 (fun _ => true) true t v d ps) (hf : w.noneFrozen ps) (hv : ∃ cs, v = .agg cs ∧ cs.size = P.cellsOf t) :
    ∃ x cs, (RE (KW w) x cs ∧ RgE x) ∧ W (thW w.heap.size) (.agg cs.toArray) v := by
  obtain ⟨cs, rfl, _⟩ := hv
  obtain ⟨m, hm⟩ := h
  obtain ⟨op, k, i, s, sl, sl', occ, attr, ar, ar', x, e, j1, j2, j3, j4⟩ := expr_of T hf m _ _ hm fun p hp => hp
  refine ⟨x, _, ⟨j3, j4⟩, ?_⟩
  have e : cs.toList = [.int .i64 op, .int .i64 k, .int .i64 i, .string s, sl, .int .i64 occ, .int .i64 attr, ar] := e
  exact ⟨cs.toList, by simp, by rw [e]; exact ⟨rfl, rfl, rfl, rfl, absV_S j1, rfl, rfl, absV_S j2, trivial⟩⟩
end
end Go.Ew
