/- Statements whose order is open: what one operation leaves of the rest. -/
import Derived.Test.YtibkijpnkmccpaaEvDraw1
set_option linter.unusedVariables false
set_option linter.unusedSimpArgs false
namespace Go.Ev
open Go.Deep Go.RowKit

/-- What 'hh' became, and the rest of 'h1' beside it. -/
structure Merge (θ θ' : Th) (h1 hh hh' H' : Hp) : Prop where
  sub : ∀ n e x, tget hh.m n = some e → θ n = some x → tget h1.m n = some e
  nxt : H'.nxt = hh'.nxt
  each : ∀ n e x, tget H'.m n = some e → θ' n = some x → tget hh'.m n = some e ∨ (tget hh.m n = none ∧ tget h1.m n = some e ∧ θ n = some x)

theorem merge_HR [LG] {nm : Nat} {θ θ' : Th} {h1 hh hh' H' : Hp} {w w' : World} (hr : HR θ h1 w) (m : Merge θ θ' h1 hh hh' H') (e : Ext nm θ hh w θ' hh' w') (hr' : HR θ' hh' w') : HR θ' H' w' := by
  have kept : ∀ n en x, tget hh.m n = none → tget h1.m n = some en → θ n = some x → w'.heap[x.1]? = w.heap[x.1]? := by
    intro n en x h0 h2 h3
    refine e.frame x.1 (hr.ent n en x h2 h3).lt fun k ek y h4 _ h5 h6 => ?_
    have hne : n ≠ k := fun e1 => by subst e1; rw [h0] at h4; cases h4
    exact hr.sep n k en ek x y h2 (m.sub k ek y h4 h5) hne h3 h5 h6.symm
  refine ⟨fun n en x h2 h3 => ?_, fun n k en ek x y h2 h3 hne h4 h5 => ?_, fun n hn => hr'.fresh n (by rw [← m.nxt]; exact hn)⟩
  · rcases m.each n en x h2 h3 with h4 | ⟨h4, h5, h6⟩
    · exact hr'.ent n en x h4 h3
    · have r := hr.ent n en x h5 h6
      have hk := kept n en x h4 h5 h6
      refine ⟨h3, Nat.lt_of_lt_of_le r.lt e.size, fun i v hi => ?_, fun o ho => (by rw [hk]; exact ObR_mono e.keep (r.ob o ho)), fun hu => ?_⟩
      · obtain ⟨⟨u, q1, q2⟩, q3⟩ := r.cell i v hi
        rw [World.cell?_of_block (w := w) hk, World.frozen?_of_block (w := w) hk]
        exact ⟨⟨u, q1, S_mono e.keep q2⟩, q3⟩
      · obtain ⟨q1, q2⟩ := r.room hu
        refine ⟨q1, fun i hi => ?_⟩
        rw [World.cell?_of_block (w := w) hk, World.frozen?_of_block (w := w) hk]
        exact q2 i hi
  · have cross : ∀ n k en ek x y, tget hh.m n = none → tget h1.m n = some en → θ n = some x → tget hh'.m k = some ek → θ' k = some y → x.1 ≠ y.1 := by
      intro n k en ek x y g1 g2 g3 g4 g5 g6
      rcases e.own k ek y g4 g5 with g7 | ⟨j, ej, z, g7, g8, g9⟩
      · have := (hr.ent n en x g2 g3).lt
        omega
      · have hnj : n ≠ j := fun e1 => by subst e1; rw [g1] at g7; cases g7
        exact hr.sep n j en ej x z g2 (m.sub j ej z g7 g8) hnj g3 g8 (g6.trans g9.symm)
    rcases m.each n en x h2 h4 with g | ⟨g1, g2, g3⟩ <;> rcases m.each k ek y h3 h5 with f | ⟨f1, f2, f3⟩
    · exact hr'.sep n k en ek x y g f hne h4 h5
    · exact (cross k n ek en y x f1 f2 f3 g h4).symm
    · exact cross n k en ek x y g1 g2 g3 f h5
    · exact hr.sep n k en ek x y g2 f2 hne g3 f3

theorem merge_Ext {nm base : Nat} {θ0 θ θ' : Th} {h0 h1 hh hh' H' : Hp} {w0 w w' : World} (b : Ext base θ0 h0 w0 θ h1 w) (m : Merge θ θ' h1 hh hh' H') (e : Ext nm θ hh w θ' hh' w') (hb : h0.nxt ≤ nm) (hn : h0.nxt ≤ hh.nxt) (hn' : h0.nxt ≤ H'.nxt) : Ext base θ0 h0 w0 θ' H' w' where
  keep n x q := e.keep n x (b.keep n x q)
  only n q1 q2 := by rw [e.only n (by omega) (by omega), b.only n q1 q2]
  nxt := hn'
  size := Nat.le_trans b.size e.size
  tape := e.tape.trans b.tape
  os := e.os.trans b.os
  output := e.output.trans b.output
  frame k hk hno := by
    rw [e.frame k (Nat.lt_of_lt_of_le hk b.size) ?_, b.frame k hk hno]
    intro n en x q1 qu q2 q3
    rcases b.ownw n en x (m.sub n en x q1 q2) qu q2 with q4 | ⟨j, ej, y, q4, qj, q5, q6⟩
    · omega
    · exact hno j ej y q4 qj q5 (q6.trans q3)
  ownw n en x q1 qu q2 := by
    rcases m.each n en x q1 q2 with q3 | ⟨q3, q4, q5⟩
    · rcases e.ownw n en x q3 qu q2 with q6 | ⟨j, ej, y, q6, qj, q7, q8⟩
      · exact .inl (Nat.le_trans b.size q6)
      · rcases b.ownw j ej y (m.sub j ej y q6 q7) qj q7 with q9 | ⟨i, ei, z, q9, qi, q10, q11⟩
        · exact .inl (q8 ▸ q9)
        · exact .inr ⟨i, ei, z, q9, qi, q10, q11.trans q8⟩
    · exact b.ownw n en x q4 qu q5
  own n en x q1 q2 := by
    rcases m.each n en x q1 q2 with q3 | ⟨q3, q4, q5⟩
    · rcases e.own n en x q3 q2 with q6 | ⟨j, ej, y, q6, q7, q8⟩
      · exact .inl (Nat.le_trans b.size q6)
      · rcases b.own j ej y (m.sub j ej y q6 q7) q7 with q9 | ⟨i, ei, z, q9, q10, q11⟩
        · exact .inl (q8 ▸ q9)
        · exact .inr ⟨i, ei, z, q9, q10, q11.trans q8⟩
    · exact b.own n en x q4 q5

section
variable {ops : Array Oper} {A : List (List Nat)}

/-- Is operation i done? -/
def Lst (listed : Array Bool) (i : Nat) : Prop := listed.getD i false = true

def Down (ops : Array Oper) (listed : Array Bool) : Prop := ∀ i o, ops[i]? = some o → Lst listed i → ∀ e ∈ o.after, Region.binds .any e = true → Lst listed e.on

theorem anc_down {listed : Array Bool} (hA : ∀ i, i < ops.size → ancOk ops A i = true) (hd : Down ops listed) :
    ∀ (k i : Nat), i < k → i < ops.size → (∀ o, ops[i]? = some o → ∀ e ∈ o.after, Region.binds .any e = true → Lst listed e.on) → ∀ j, j ∈ ancOf A i → Lst listed j
  | 0, i, h, _, _, _, _ => by omega
  | k + 1, i, h, hi, hdir, j, hj => by
    have h1 := hA i hi
    unfold ancOk at h1
    have ho : ops[i]? = some ops[i] := Array.getElem?_eq_getElem hi
    rw [ho] at h1
    simp only [Bool.and_eq_true] at h1
    obtain ⟨h2, h3⟩ := h1
    rw [List.all_eq_true] at h2 h3
    have h4 := h3 j hj
    rw [List.any_eq_true] at h4
    obtain ⟨e, he, h5⟩ := h4
    simp only [Bool.and_eq_true, Bool.or_eq_true] at h5
    have hem : e ∈ ops[i].after := by simpa using he
    have hL := hdir _ ho e hem h5.1
    rcases h5.2 with h6 | h6
    · rw [Nat.eq_of_beq_eq_true h6]; exact hL
    · have h7 := h2 e he
      rw [h5.1] at h7
      simp only [Bool.not_true, Bool.false_or] at h7
      unfold Nat.blt at h7
      have hlt : e.on < i := Nat.le_of_ble_eq_true h7
      exact anc_down hA hd k e.on (by omega) (by omega) (fun o' ho' e' he' hb' => hd e.on o' ho' hL e' he' hb') j (memN_iff.1 h6)

theorem lst_of_anc {listed : Array Bool} (hA : ∀ i, i < ops.size → ancOk ops A i = true) (hd : Down ops listed) {i : Nat} (hi : i < ops.size) (hL : Lst listed i) {j : Nat} (hj : j ∈ ancOf A i) : Lst listed j :=
  anc_down hA hd (i + 1) i (by omega) hi (fun o ho e he hb => hd i o ho hL e he hb) j hj

theorem mem_ready' {listed : Array Bool} (hs : listed.size = ops.size) {i : Nat} (h : i ∈ Region.ready .any ops listed) :
    i < ops.size ∧ ¬ Lst listed i ∧ ∀ o, ops[i]? = some o → ∀ e ∈ o.after, Region.binds .any e = true → Lst listed e.on := by
  unfold Region.ready at h
  rw [List.mem_filter] at h
  obtain ⟨h1, h2⟩ := h
  have hi : i < ops.size := by simpa using h1
  simp only [Bool.and_eq_true, Bool.not_eq_true'] at h2
  have ho : ops[i]? = some ops[i] := Array.getElem?_eq_getElem hi
  refine ⟨hi, ?_, ?_⟩
  · have h3 := h2.1
    unfold Lst
    have hl : i < listed.size := by omega
    simp only [Array.getD_eq_getD_getElem?, Array.getElem?_eq_getElem hl, Option.getD_some] at h3 ⊢
    simp [h3]
  · intro o ho' e he hb
    have h3 := h2.2
    rw [ho'] at h3
    simp only [Option.map_some, Option.getD_some] at h3
    rw [Array.all_eq_true'] at h3
    have h4 := h3 e he
    rw [hb] at h4
    simpa [Lst] using h4

/-- Where none is ready all are done. -/
theorem all_done {listed : Array Bool} (hA : ∀ i, i < ops.size → ancOk ops A i = true) (hs : listed.size = ops.size) (hr : Region.ready .any ops listed = []) : ∀ (k i : Nat), i < k → i < ops.size → Lst listed i
  | 0, i, h, _ => by omega
  | k + 1, i, h, hi => by
    have ih := all_done hA hs hr k
    have ho : ops[i]? = some ops[i] := Array.getElem?_eq_getElem hi
    have hl : i < listed.size := by omega
    unfold Lst
    cases hb : listed.getD i false with
    | true => rfl
    | false =>
      exfalso
      have : i ∈ Region.ready .any ops listed := by
        unfold Region.ready
        rw [List.mem_filter]
        refine ⟨by simpa using hi, ?_⟩
        simp only [Bool.and_eq_true, Bool.not_eq_true']
        refine ⟨?_, ?_⟩
        · simp only [Array.getD_eq_getD_getElem?, Array.getElem?_eq_getElem hl, Option.getD_some] at hb ⊢
          exact hb
        · rw [ho]
          simp only [Option.map_some, Option.getD_some]
          rw [Array.all_eq_true']
          intro e he
          cases hbe : Region.binds .any e with
          | false => rfl
          | true =>
            simp only [Bool.not_true, Bool.false_or]
            have h1 := hA i hi
            unfold ancOk at h1
            rw [ho] at h1
            simp only [Bool.and_eq_true] at h1
            have h2 := h1.1
            rw [List.all_eq_true] at h2
            have h7 := h2 e (by simpa using he)
            rw [hbe] at h7
            simp only [Bool.not_true, Bool.false_or] at h7
            unfold Nat.blt at h7
            have hlt : e.on < i := Nat.le_of_ble_eq_true h7
            exact ih e.on (by omega) (by omega)
      rw [hr] at this
      cases this
end

theorem writesAt_iff {ops : Array Oper} {j t : Nat} : writesAt ops j t = true ↔ ∃ o, ops[j]? = some o ∧ o.dst = some t := by
  unfold writesAt
  cases h : ops[j]? with
  | none => simp
  | some o =>
    simp only [Option.some.injEq, exists_eq_left']
    cases hd : o.dst with
    | none => simp
    | some d =>
      simp only [Option.some.injEq]
      exact ⟨Nat.eq_of_beq_eq_true, fun e => by rw [e]; simp⟩

end Go.Ev
