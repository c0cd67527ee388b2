/- Operation by operation: make, append, copy, reslicing. -/
import Derived.Test.YtibkijpnkmccpaaEvOps3
import Derived.Laws.Append
import Derived.Laws.BytesString
set_option linter.unusedVariables false
set_option linter.unusedSimpArgs false
namespace Go.Ev
open Go.Deep Go.RowKit

theorem wrap_small {n : Int} (h0 : 0 ≤ n) (h1 : n ≤ 1000000) : IntKind.i64.wrap n = n := by
  have hm : n % 18446744073709551616 = n := Int.emod_eq_of_lt h0 (by omega)
  simp [IntKind.wrap, IntKind.bits, IntKind.signed, hm]
  omega

theorem zeros_eq (z : Array Value) (n : Nat) : Builtin.zeroCells z n = (lrep z.toList n).toArray := by
  have := range_zero z.toList n
  simpa [Builtin.zeroCells] using this

section
variable {P : Program} {e' : TypeId} {k' : IntKind} (w : World) (t u ty e : TypeId) (i : TypeInfo) (z : Value)

theorem app_room_slice (ht : P.underlying t = some (.slice e)) (hu : P.underlying u = some (.slice e')) (hi : P.info? e = some i) (hz : i.zero = some z)
    (b : Addr) (sLen sCap : Nat) (x : Option Addr) (n c : Nat) (news : List Value) (hnew : ∀ s', (Builtin.firstCells i.size n (.slice x n c)).run P s' = .ok news.toArray s' ∨ s' ≠ w)
    (hroom : sLen + n ≤ sCap) (w' : World) (hst : (storeCells (b.add (sLen * i.size)) news).run P w = .ok () w') :
    (Builtin.append_ #[t, u] ty #[.slice (some b) sLen sCap, .slice x n c]).run P w = .ok (.slice (some b) (sLen + n) sCap) w' := by
  have hf := (hnew w).resolve_right (fun h => h rfl)
  simp [Builtin.append_, run_underlying ht, run_underlying hu, sizeOf, typeInfo, hi, Builtin.lenOf, hroom, hf, hst]

theorem app_room_zeros (ht : P.underlying t = some (.slice e)) (hu : P.underlying u = some (.int k')) (hi : P.info? e = some i) (hz : i.zero = some z) (hzl : z.cells.toList.length = i.size)
    (b : Addr) (sLen sCap : Nat) (n : Int) (h0 : 0 ≤ n) (h1 : n ≤ 1000000) (hb : i.bytes ≤ 1000000)
    (hroom : sLen + n.toNat ≤ sCap) (w' : World) (hst : (storeCells (b.add (sLen * i.size)) (lrep z.cells.toList n.toNat)).run P w = .ok () w') :
    (Builtin.append_ #[t, u] ty #[.slice (some b) sLen sCap, .int .i64 n]).run P w = .ok (.slice (some b) (sLen + n.toNat) sCap) w' := by
  have hw := wrap_small h0 h1
  have hneg : ¬ n < 0 := by omega
  have hbig : ¬ (281474976710656 < n * (i.bytes : Int)) := by
    have : n * (i.bytes : Int) ≤ 1000000 * 1000000 := Int.mul_le_mul h1 (by omega) (by omega) (by omega)
    omega
  by_cases e0 : n.toNat * i.size = 0
  · have hn : lrep z.cells.toList n.toNat = [] := List.eq_nil_of_length_eq_zero (by rw [lrep_length, hzl, e0])
    rw [hn] at hst
    simp [Builtin.append_, run_underlying ht, run_underlying hu, sizeOf, typeInfo, hi, asInt, asIntOf, hw, hneg, hbig, hroom, e0, hst]
  · have hz' := zeros_eq z.cells n.toNat
    simp [Builtin.append_, run_underlying ht, run_underlying hu, sizeOf, typeInfo, zeroValue, hi, hz, asInt, asIntOf, hw, hneg, hbig, hroom, e0, hz', hst]

theorem app_grow_slice (ht : P.underlying t = some (.slice e)) (hu : P.underlying u = some (.slice e')) (hi : P.info? e = some i) (hz : i.zero = some z)
    (b : Option Addr) (sLen sCap : Nat) (x : Option Addr) (n c : Nat) (olds news : List Value) (hnew : (Builtin.firstCells i.size n (.slice x n c)).run P w.drew = .ok news.toArray w.drew)
    (hold : (Builtin.firstCells i.size sLen (.slice b sLen sCap)).run P w.drew = .ok olds.toArray w.drew)
    (hg : sCap < sLen + n) (h63 : ((sLen + n : Nat) : Int) ≤ 9223372036854775807) (hfit : Builtin.nextslicecap (sLen + n) sCap * i.bytes ≤ 281474976710656) :
    (Builtin.append_ #[t, u] ty #[.slice b sLen sCap, .slice x n c]).run P w =
      .ok (.slice (some ⟨w.heap.size, 0, none⟩) (sLen + n) (grownCap w (sLen + n) sCap e))
        (w.drew.alloc (.cells ((olds ++ news) ++ lrep z.cells.toList (grownCap w (sLen + n) sCap e - (sLen + n))).toArray e)) := by
  have hn : ¬ (sLen + n ≤ sCap) := by omega
  have h63' : ¬ (9223372036854775807 < ((sLen : Int) + (n : Int))) := by omega
  have h48' : ¬ (281474976710656 < Builtin.nextslicecap (sLen + n) sCap * i.bytes) := by omega
  simp [Builtin.append_, run_underlying ht, run_underlying hu, sizeOf, typeInfo, zeroValue, hi, hz, Builtin.lenOf, hn, h63', h48', Question.forced, hnew, hold, newRow, grownCap, zeros_eq]

theorem app_grow_zeros (ht : P.underlying t = some (.slice e)) (hu : P.underlying u = some (.int k')) (hi : P.info? e = some i) (hz : i.zero = some z) (hzl : z.cells.toList.length = i.size)
    (b : Option Addr) (sLen sCap : Nat) (n : Int) (h0 : 0 ≤ n) (h1 : n ≤ 1000000) (hb : i.bytes ≤ 1000000) (olds : List Value)
    (hold : (Builtin.firstCells i.size sLen (.slice b sLen sCap)).run P w.drew = .ok olds.toArray w.drew)
    (hg : sCap < sLen + n.toNat) (h63 : ((sLen + n.toNat : Nat) : Int) ≤ 9223372036854775807) (hfit : Builtin.nextslicecap (sLen + n.toNat) sCap * i.bytes ≤ 281474976710656) :
    (Builtin.append_ #[t, u] ty #[.slice b sLen sCap, .int .i64 n]).run P w =
      .ok (.slice (some ⟨w.heap.size, 0, none⟩) (sLen + n.toNat) (grownCap w (sLen + n.toNat) sCap e))
        (w.drew.alloc (.cells ((olds ++ lrep z.cells.toList n.toNat) ++ lrep z.cells.toList (grownCap w (sLen + n.toNat) sCap e - (sLen + n.toNat))).toArray e)) := by
  have hw := wrap_small h0 h1
  have hneg : ¬ n < 0 := by omega
  have hbig : ¬ (281474976710656 < n * (i.bytes : Int)) := by
    have : n * (i.bytes : Int) ≤ 1000000 * 1000000 := Int.mul_le_mul h1 (by omega) (by omega) (by omega)
    omega
  have hn : ¬ (sLen + n.toNat ≤ sCap) := by omega
  have h63' : ¬ (9223372036854775807 < ((sLen : Int) + (n.toNat : Int))) := by omega
  have h63'' : ¬ (9223372036854775807 < ((sLen : Int) + max n 0)) := by omega
  have h48' : ¬ (281474976710656 < Builtin.nextslicecap (sLen + n.toNat) sCap * i.bytes) := by omega
  by_cases e0 : n.toNat * i.size = 0
  · have hn0 : lrep z.cells.toList n.toNat = [] := List.eq_nil_of_length_eq_zero (by rw [lrep_length, hzl, e0])
    rw [hn0]
    simp [Builtin.append_, run_underlying ht, run_underlying hu, sizeOf, typeInfo, zeroValue, hi, hz, asInt, asIntOf, hw, hneg, hbig, hn, h63', h63'', h48', e0, Question.forced, hold, newRow, grownCap, zeros_eq]
  · simp [Builtin.append_, run_underlying ht, run_underlying hu, sizeOf, typeInfo, zeroValue, hi, hz, asInt, asIntOf, hw, hneg, hbig, hn, h63', h63'', h48', e0, Question.forced, hold, newRow, grownCap, zeros_eq]
end


/-- A row that may have grown in its place: it goes on under another name. -/
theorem derive_sound [LG] {P : Program} {θ : Th} {h : Hp} {w : World} (hr : HR θ h w) {n0 nm : Nat} {e : Ent} {x : Nat × Nat × Nat} (he : tget h.m n0 = some e) (hx : θ n0 = some x) (hnm : θ nm = none)
    {sz sub len n : Nat} (hsz : 1 ≤ sz) (hu : e.unk = sz) (hwr : e.unk ≠ roU) {olds nc ns : List Value} (hold : rd e.cells (sub * sz) (len * sz) = some olds) (hnc : all2 (S θ) nc ns) (hl : nc.length = n * sz) (hneed : len + n ≤ x.2.2 - sub) :
    (storeCells ⟨x.1, x.2.1 + sub * sz + len * sz, none⟩ ns).run P w = .ok () (w.setCells x.1 (x.2.1 + sub * sz + len * sz) ns) ∧
    HR (fun k => if k = nm then some (x.1, x.2.1 + sub * sz, x.2.2 - sub) else θ k) (halloc ⟨tset h.m n0 none, h.nxt⟩ nm (mkEnt (olds ++ nc) sz)) (w.setCells x.1 (x.2.1 + sub * sz + len * sz) ns) ∧
    Ext nm θ h w (fun k => if k = nm then some (x.1, x.2.1 + sub * sz, x.2.2 - sub) else θ k) (halloc ⟨tset h.m n0 none, h.nxt⟩ nm (mkEnt (olds ++ nc) sz)) (w.setCells x.1 (x.2.1 + sub * sz + len * sz) ns) := by
  obtain ⟨y, hy⟩ : ∃ y, y = x := ⟨x, rfl⟩
  subst hy
  have r := hr.ent _ _ _ he hx
  have hne0 : n0 ≠ nm := fun e1 => by subst e1; rw [hnm] at hx; cases hx
  have hol := rd_len hold
  have hog := rd_get hold
  have hnl : ns.length = n * sz := by rw [← all2_len hnc, hl]
  have hroom : ∀ i, i < (y.2.2 - sub) * sz → (w.cell? ⟨y.1, y.2.1 + (sub * sz + i), none⟩).isSome = true ∧ w.frozen? ⟨y.1, y.2.1 + (sub * sz + i), none⟩ = false := by
    intro i hi
    refine (r.room (by omega)).2 _ ?_
    rw [hu]
    have hlt : sub ≤ y.2.2 := by
      rcases Nat.lt_or_ge y.2.2 sub with h1 | h1
      · rw [Nat.sub_eq_zero_of_le (Nat.le_of_lt h1)] at hi; simp at hi
      · exact h1
    have : sub * sz + (y.2.2 - sub) * sz = y.2.2 * sz := by rw [← Nat.add_mul]; congr 1; omega
    omega
  have hmul : len * sz + n * sz ≤ (y.2.2 - sub) * sz := by rw [← Nat.add_mul]; exact Nat.mul_le_mul_right _ hneed
  have hkeep : ∀ k z, θ k = some z → (fun k => if k = nm then some (y.1, y.2.1 + sub * sz, y.2.2 - sub) else θ k) k = some z := by
    intro k z hz
    have : k ≠ nm := fun e1 => by subst e1; rw [hnm] at hz; cases hz
    simp only [if_neg this, hz]
  have hone : ∀ v ∈ ns, v.oneCell' = true := by
    intro v hm
    obtain ⟨i, hi, rfl⟩ := List.getElem_of_mem hm
    have h1 : nc[i]? = some nc[i] := List.getElem?_eq_getElem (by omega)
    obtain ⟨b, hb, hS⟩ := all2_get hnc i _ h1
    rw [List.getElem?_eq_getElem hi] at hb
    cases hb
    exact S_one hS
  have hex : ∀ j, j < ns.length → (w.cell? ⟨y.1, y.2.1 + sub * sz + len * sz + j, none⟩).isSome = true ∧ w.frozen? ⟨y.1, y.2.1 + sub * sz + len * sz + j, none⟩ = false := by
    intro j hj
    have := hroom (len * sz + j) (by omega)
    rw [show y.2.1 + sub * sz + len * sz + j = y.2.1 + (sub * sz + (len * sz + j)) by omega]
    exact this
  have hrun := run_storeCells_cells (P := P) y.1 (y.2.1 + sub * sz + len * sz) ns 0 w (by simpa using fun j hj => (hex j hj).1) (by simpa using fun j hj => (hex j hj).2) hone
  have hin := World.cell?_setCells_in y.1 ns (y.2.1 + sub * sz + len * sz) w (fun j hj => (hex j hj).1)
  have hsep : ∀ m e' z, tget h.m m = some e' → θ m = some z → m ≠ n0 → z.1 ≠ y.1 := fun m e' z h1 h2 h3 => hr.sep _ _ _ _ _ _ h1 he h3 h2 hx
  refine ⟨by simpa using hrun, ⟨?_, ?_, ?_⟩, hkeep, ?_, ?_, ?_, (setCells_os _ _ _ _).2.1, (setCells_os _ _ _ _).1, (setCells_os _ _ _ _).2.2, ?_, ?_, ?_⟩
  · intro k ek xk hk hxk
    simp only [halloc, tget_tset] at hk
    by_cases hb : nm = k
    · subst hb
      rw [if_pos rfl] at hk
      cases hk
      simp only [if_true, Option.some.injEq] at hxk
      subst hxk
      refine ⟨by simp, by rw [setCells_size]; exact r.lt, fun i v hi => ?_, fun o ho => (by cases ho), fun _ => ⟨?_, fun i hi => ?_⟩⟩
      · simp only [mkEnt, tget_wr_nil] at hi
        rw [World.frozen?_setCells]
        by_cases hlt : i < olds.length
        · rw [List.getElem?_append_left hlt] at hi
          obtain ⟨⟨q, q1, q2⟩, q3⟩ := r.cell _ _ (hog i v hi)
          rw [← Nat.add_assoc] at q1 q3
          refine ⟨⟨q, ?_, S_mono hkeep q2⟩, q3⟩
          rw [World.cell?_setCells_out _ _ _ _ _ (fun _ _ => by simp only; omega)]
          exact q1
        · rw [List.getElem?_append_right (by omega)] at hi
          obtain ⟨q, q1, q2⟩ := all2_get hnc _ _ hi
          have hj : i - olds.length < ns.length := by
            rcases Nat.lt_or_ge (i - olds.length) ns.length with g | g
            · exact g
            · rw [List.getElem?_eq_none g] at q1; cases q1
          have hcc := hin (i - olds.length) hj
          rw [List.getElem?_eq_getElem hj] at q1
          cases q1
          have hpos : y.2.1 + sub * sz + len * sz + (i - olds.length) = y.2.1 + sub * sz + i := by omega
          rw [hpos] at hcc
          refine ⟨⟨_, hcc, S_mono hkeep q2⟩, ?_⟩
          have := (hex (i - olds.length) hj).2
          rwa [hpos] at this
      · simp only [mkEnt, List.length_append]
        omega
      · rw [World.frozen?_setCells]
        have := hroom i hi
        rw [← Nat.add_assoc] at this
        refine ⟨?_, this.2⟩
        simp only
        by_cases hlt : len * sz ≤ i ∧ i < len * sz + ns.length
        · have hcc := hin (i - len * sz) (by omega)
          rw [show y.2.1 + sub * sz + len * sz + (i - len * sz) = y.2.1 + sub * sz + i by omega] at hcc
          rw [hcc]; rfl
        · rw [World.cell?_setCells_out _ _ _ _ _ (fun _ _ => by simp only; omega)]
          exact this.1
    · rw [if_neg hb] at hk
      by_cases hb0 : n0 = k
      · rw [if_pos hb0] at hk; cases hk
      · rw [if_neg hb0] at hk
        simp only [if_neg (Ne.symm hb)] at hxk
        have rz := hr.ent _ _ _ hk hxk
        have hs := hsep _ _ _ hk rz.at_ (Ne.symm hb0)
        refine ⟨hkeep _ _ rz.at_, by rw [setCells_size]; exact rz.lt, fun i v hi => ?_, fun o ho => (by rw [setCells_heap _ _ _ _ _ hs]; exact ObR_mono hkeep (rz.ob o ho)), fun hu' => ?_⟩
        · rw [World.frozen?_setCells, World.cell?_setCells_out _ _ _ _ _ (fun e1 _ => absurd e1 hs)]
          obtain ⟨⟨q, q1, q2⟩, q3⟩ := rz.cell i v hi
          exact ⟨⟨q, q1, S_mono hkeep q2⟩, q3⟩
        · obtain ⟨g1, g2⟩ := rz.room hu'
          refine ⟨g1, fun i hi => ?_⟩
          rw [World.frozen?_setCells, World.cell?_setCells_out _ _ _ _ _ (fun e1 _ => absurd e1 hs)]
          exact g2 i hi
  · intro k m e1 e2 z1 z2 h1 h2 hne t1 t2
    simp only [halloc, tget_tset] at h1 h2
    by_cases hk : nm = k
    · subst hk
      rw [if_neg hne] at h2
      simp only [if_true] at t1
      simp only [if_neg (Ne.symm hne)] at t2
      by_cases hb0 : n0 = m
      · rw [if_pos hb0] at h2; cases h2
      · rw [if_neg hb0] at h2
        cases t1
        exact (hsep _ _ _ h2 t2 (Ne.symm hb0)).symm
    · rw [if_neg hk] at h1
      simp only [if_neg (Ne.symm hk)] at t1
      by_cases hb1 : n0 = k
      · rw [if_pos hb1] at h1; cases h1
      · rw [if_neg hb1] at h1
        by_cases hm : nm = m
        · subst hm
          simp only [if_true] at t2
          cases t2
          exact hsep _ _ _ h1 t1 (Ne.symm hb1)
        · rw [if_neg hm] at h2
          simp only [if_neg (Ne.symm hm)] at t2
          by_cases hb0 : n0 = m
          · rw [if_pos hb0] at h2; cases h2
          · rw [if_neg hb0] at h2
            exact hr.sep k m e1 e2 z1 z2 h1 h2 hne t1 t2
  · intro k hk
    simp only [halloc] at hk
    have h1 : k ≠ nm := by omega
    simp only [if_neg h1]
    exact hr.fresh k (by omega)
  · intro k _ hne
    simp only [if_neg hne]
  · simp only [halloc]; omega
  · rw [setCells_size]; exact Nat.le_refl _
  · intro b hb hno
    exact setCells_heap _ _ _ _ _ (fun e1 => hno _ _ _ he hwr hx e1.symm)
  · intro k ek z h1 huk h2
    simp only [halloc, tget_tset] at h1
    by_cases hk : nm = k
    · subst hk
      simp only [if_true] at h2
      cases h2
      exact .inr ⟨n0, e, y, he, hwr, hx, rfl⟩
    · rw [if_neg hk] at h1
      simp only [if_neg (Ne.symm hk)] at h2
      by_cases hb0 : n0 = k
      · rw [if_pos hb0] at h1; cases h1
      · rw [if_neg hb0] at h1
        exact .inr ⟨k, ek, z, h1, huk, h2, rfl⟩
  · intro k ek z h1 h2
    simp only [halloc, tget_tset] at h1
    by_cases hk : nm = k
    · subst hk
      simp only [if_true] at h2
      cases h2
      exact .inr ⟨n0, e, y, he, hx, rfl⟩
    · rw [if_neg hk] at h1
      simp only [if_neg (Ne.symm hk)] at h2
      by_cases hb0 : n0 = k
      · rw [if_pos hb0] at h1; cases h1
      · rw [if_neg hb0] at h1
        exact .inr ⟨k, ek, z, h1, h2, rfl⟩

end Go.Ev
