/- The library's builder of texts: what is put into it, what it holds. -/
import Derived.Test.YtibkijpnkmccpaaEvOpsM
set_option linter.unusedVariables false
set_option linter.unusedSimpArgs false
namespace Go.Ev
open Go.Deep Go.RowKit

theorem catB_eq (s t : ByteArray) : catB s t = s ++ t := by
  apply ByteArray.ext
  apply Array.toList_inj.1
  rw [ByteArray.data_append, Array.toList_append]
  rfl
theorem catB_size (s t : ByteArray) : (catB s t).size = s.size + t.size := by rw [catB_eq, ByteArray.size_append]
theorem catB_cells (s t : ByteArray) : Lib.strCells (catB s t) = Lib.strCells s ++ Lib.strCells t := by
  unfold Lib.strCells catB
  simp only [List.map_append]

/-- What a builder is behind a text that was put into it. -/
structure BAft (w : World) (b T e : Nat) (v v' : Value) (s t : ByteArray) (w' : World) : Prop where
  here : ∃ p, w'.heap[b]? = some (.cells #[p, v'] T (0, 0)) ∧ (p = .pointer none ∨ p = .pointer (some ⟨b, 0, none⟩))
  owns : w'.ownsRow 0 e 1 v' (s.size + t.size) (Lib.strCells s ++ Lib.strCells t)
  ne : v'.ownBlock ≠ some b
  nil : v' = .slice none 0 0 ↔ v = .slice none 0 0 ∧ t.size = 0
  new : ∀ k, v'.ownBlock = some k → v.ownBlock = some k ∨ w.heap.size ≤ k
  frame : ∀ k, k < w.heap.size → k ≠ b → v.ownBlock ≠ some k → w'.heap[k]? = w.heap[k]?
  size : w.heap.size ≤ w'.heap.size
  tape : w'.tape = w.tape
  os : w'.os = w.os
  output : w'.output = w.output

/-- A builder in a world. -/
structure BIs (w : World) (b T e : Nat) (v : Value) (s : ByteArray) : Prop where
  here : ∃ p, w.heap[b]? = some (.cells #[p, v] T (0, 0)) ∧ (p = .pointer none ∨ p = .pointer (some ⟨b, 0, none⟩))
  owns : w.ownsRow 0 e 1 v s.size (Lib.strCells s)
  ne : v.ownBlock ≠ some b
  le : s.size ≤ 1000000
  pos : v ≠ .slice none 0 0 → 0 < s.size

/-- A function that puts a text into a builder; one that tells what it holds; one that tells a text. -/
def Writes (P : Program) (g T e : Nat) : Prop := ∀ (b : Nat) (v : Value) (s t : ByteArray) (w : World), BIs w b T e v s → t.size ≤ 1000000 →
  (callFunc g #[.pointer (some ⟨b, 0, none⟩), .string t]).run P w = .ok (.enter g #[.pointer (some ⟨b, 0, none⟩), .string t]) w ∧
  Calls P g #[.pointer (some ⟨b, 0, none⟩), .string t] w fun x w' => x = .returned (.tuple #[.int .i64 (t.size : Nat), .nilIface]) ∧ ∃ v', BAft w b T e v v' s t w'

structure BTold (w : World) (v : Value) (w' : World) : Prop where
  frame : ∀ k, k < w.heap.size → v.ownBlock ≠ some k → w'.heap[k]? = w.heap[k]?
  size : w.heap.size ≤ w'.heap.size
  tape : w'.tape = w.tape
  os : w'.os = w.os
  output : w'.output = w.output

def Says (P : Program) (g T e : Nat) : Prop := ∀ (b : Nat) (v : Value) (s : ByteArray) (w : World), BIs w b T e v s →
  (callFunc g #[.pointer (some ⟨b, 0, none⟩)]).run P w = .ok (.enter g #[.pointer (some ⟨b, 0, none⟩)]) w ∧
  Calls P g #[.pointer (some ⟨b, 0, none⟩)] w fun x w' => x = .returned (.string s) ∧ BTold w v w'

def Clones (P : Program) (g : Nat) : Prop := ∀ (s : ByteArray) (w : World), s.size ≤ 1000000 → (callFunc g #[.string s]).run P w = .ok (.enter g #[.string s]) w ∧
  Calls P g #[.string s] w fun x w' => x = .returned (.string s) ∧ Below w.heap.size w w'

theorem EntR.kept [LG] {θ θ' : Th} {w w' : World} {n : Nat} {e : Ent} {x : Nat × Nat × Nat} (r : EntR θ w n e x) (hk : ∀ n x, θ n = some x → θ' n = some x) (hb : w'.heap[x.1]? = w.heap[x.1]?) (hs : w.heap.size ≤ w'.heap.size) : EntR θ' w' n e x := by
  refine ⟨hk _ _ r.at_, Nat.lt_of_lt_of_le r.lt hs, fun i v hv => ?_, fun q hq => (by rw [hb]; exact ObR_mono hk (r.ob q hq)), fun hu => ?_⟩
  · rw [World.cell?_of_block (w := w) hb, World.frozen?_of_block (w := w) hb]
    obtain ⟨⟨u, h1, h2⟩, h3⟩ := r.cell i v hv
    exact ⟨⟨u, h1, S_mono hk h2⟩, h3⟩
  · obtain ⟨h1, h2⟩ := r.room hu
    refine ⟨h1, fun i hi => ?_⟩
    rw [World.cell?_of_block (w := w) hb, World.frozen?_of_block (w := w) hb]; exact h2 i hi

theorem EntR.obj [LG] {θ : Th} {w : World} {n : Nat} {x : Nat × Nat × Nat} {o : Ob} (h1 : θ n = some x) (h2 : x.1 < w.heap.size) (h3 : ObR θ w.heap[x.1]? o) : EntR θ w n (obE o) x :=
  ⟨h1, h2, fun i v hi => (by cases hi), fun q hq => (by cases hq; exact h3), fun hu => absurd rfl hu⟩

/-- A builder's bytes lie anew. -/
theorem bld_new [LG] {θ : Th} {h : Hp} {w w' : World} (hr : HR θ h w) {b T e g n cap : Nat} {x : Nat × Nat × Nat} {p : Value} {cur : Array Value} {s : ByteArray} {m0 : BT (Option Ent)} (hx : θ b = some x) (hx0 : x.2.1 = 0) {eb : Ent} (heb : tget h.m b = some eb) (hub : eb.unk ≠ roU)
    (hm0 : ∀ k ek, tget m0 k = some ek → tget h.m k = some ek) (hp : p = .pointer none ∨ p = .pointer (some ⟨x.1, 0, none⟩)) (h1 : w'.heap[x.1]? = some (.cells #[p, .slice (some ⟨g, 0, none⟩) n cap] T (0, 0))) (h2 : w'.heap[g]? = some (.cells cur e (0, 0)))
    (hc : cur.size = cap) (hn : s.size ≤ cap) (hm : cap ≤ maxLen) (ht : cur.toList.take s.size = Lib.strCells s) (hs : s.size = n) (h0 : 0 < n) (hne : g ≠ x.1)
    (hold : w.heap.size ≤ g ∨ ∃ nb en z, tget h.m nb = some en ∧ en.unk ≠ roU ∧ θ nb = some z ∧ z.1 = g ∧ tget m0 nb = none)
    (hf : ∀ k ek y, tget m0 k = some ek → k ≠ b → θ k = some y → w'.heap[y.1]? = w.heap[y.1]?)
    (hfr : ∀ k, k < w.heap.size → (∀ n e x, tget h.m n = some e → e.unk ≠ roU → θ n = some x → x.1 ≠ k) → w'.heap[k]? = w.heap[k]?)
    (hsz : w.heap.size ≤ w'.heap.size) (htp : w'.tape = w.tape) (hos : w'.os = w.os) (hou : w'.output = w.output) :
    ∃ θ', Ext h.nxt θ h w θ' ⟨tset (tset m0 h.nxt (some (obE (.byt e h.nxt s)))) b (some (obE (.bld T e b (some (h.nxt, n))))), h.nxt + 1⟩ w' ∧ HR θ' ⟨tset (tset m0 h.nxt (some (obE (.byt e h.nxt s)))) b (some (obE (.bld T e b (some (h.nxt, n))))), h.nxt + 1⟩ w' := by
  have hnn : θ h.nxt = none := hr.fresh _ (Nat.le_refl _)
  have hbn : h.nxt ≠ b := fun q => by rw [q, hx] at hnn; cases hnn
  have hkeep : ∀ k y, θ k = some y → (fun k => if k = h.nxt then some (g, 0, cap) else θ k) k = some y := by
    intro k y hy
    have : k ≠ h.nxt := fun q => by rw [q, hnn] at hy; cases hy
    simp only [if_neg this, hy]
  have hnew : (fun k => if k = h.nxt then some (g, 0, cap) else θ k) h.nxt = some (g, 0, cap) := by simp
  have hgl : g < w'.heap.size := (Array.getElem?_eq_some_iff.1 h2).1
  have hxl : x.1 < w'.heap.size := (Array.getElem?_eq_some_iff.1 h1).1
  have cls : ∀ k ek y, tget (tset (tset m0 h.nxt (some (obE (.byt e h.nxt s)))) b (some (obE (.bld T e b (some (h.nxt, n)))))) k = some ek → (if k = h.nxt then some (g, 0, cap) else θ k) = some y →
      (k = b ∧ y = x ∧ ek = obE (.bld T e b (some (h.nxt, n)))) ∨ (k ≠ b ∧ k = h.nxt ∧ y = (g, 0, cap) ∧ ek = obE (.byt e h.nxt s)) ∨ (k ≠ b ∧ k ≠ h.nxt ∧ tget m0 k = some ek ∧ θ k = some y) := by
    intro k ek y q1 q2
    simp only [tget_tset] at q1
    by_cases e1 : b = k
    · subst e1
      rw [if_pos rfl] at q1
      rw [if_neg (Ne.symm hbn), hx] at q2
      cases q1; cases q2
      exact .inl ⟨rfl, rfl, rfl⟩
    · rw [if_neg e1] at q1
      by_cases e2 : h.nxt = k
      · rw [if_pos e2] at q1
        rw [if_pos e2.symm] at q2
        cases q1; cases q2
        exact .inr (.inl ⟨Ne.symm e1, e2.symm, rfl, rfl⟩)
      · rw [if_neg e2] at q1
        rw [if_neg (Ne.symm e2)] at q2
        exact .inr (.inr ⟨Ne.symm e1, Ne.symm e2, q1, q2⟩)
  have hgo : ∀ k ek y, k ≠ b → tget m0 k = some ek → θ k = some y → y.1 ≠ g := by
    intro k ek y _ q1 q2
    rcases hold with z | ⟨nb, en, z, z1, z2, z3, z4, z5⟩
    · have := (hr.ent _ _ _ (hm0 _ _ q1) q2).lt; omega
    · have : k ≠ nb := fun q => by rw [q, z5] at q1; cases q1
      rw [← z4]
      exact hr.sep _ _ _ _ _ _ (hm0 _ _ q1) z1 this q2 z3
  have hxo : ∀ k ek y, k ≠ b → tget m0 k = some ek → θ k = some y → y.1 ≠ x.1 := fun k ek y q0 q1 q2 => hr.sep _ _ _ _ _ _ (hm0 _ _ q1) heb q0 q2 hx
  refine ⟨fun k => if k = h.nxt then some (g, 0, cap) else θ k, ⟨hkeep, fun k q1 q2 => by simp only [if_neg q2], by simp, hsz, htp, hos, hou, hfr, ?_, ?_⟩, ⟨?_, ?_, ?_⟩⟩
  · intro k ek y q1 hu q2
    rcases cls k ek y q1 q2 with ⟨_, rfl, _⟩ | ⟨_, _, rfl, _⟩ | ⟨_, _, q3, q4⟩
    · exact .inr ⟨b, eb, _, heb, hub, hx, rfl⟩
    · rcases hold with z | ⟨nb, en, z, z1, z2, z3, z4, z5⟩
      · exact .inl z
      · exact .inr ⟨nb, en, z, z1, z2, z3, z4⟩
    · exact .inr ⟨k, ek, y, hm0 _ _ q3, hu, q4, rfl⟩
  · intro k ek y q1 q2
    rcases cls k ek y q1 q2 with ⟨_, rfl, _⟩ | ⟨_, _, rfl, _⟩ | ⟨_, _, q3, q4⟩
    · exact .inr ⟨b, eb, _, heb, hx, rfl⟩
    · rcases hold with z | ⟨nb, en, z, z1, z2, z3, z4, z5⟩
      · exact .inl z
      · exact .inr ⟨nb, en, z, z1, z3, z4⟩
    · exact .inr ⟨k, ek, y, hm0 _ _ q3, q4, rfl⟩
  · intro k ek y q1 q2
    rcases cls k ek y q1 q2 with ⟨rfl, rfl, rfl⟩ | ⟨_, rfl, rfl, rfl⟩ | ⟨q0, _, q3, q4⟩
    · refine EntR.obj (hkeep _ _ hx) hxl (BldR.mk ⟨y, p, _, hkeep _ _ hx, hx0, h1, hp, .inr ⟨h.nxt, n, (g, 0, cap), rfl, h0, hnew, rfl⟩⟩)
    · exact EntR.obj hnew hgl (BytR.mk ⟨(g, 0, cap), cur, hnew, h2, hc, hn, hm, ht⟩)
    · exact (hr.ent _ _ _ (hm0 _ _ q3) q4).kept hkeep (hf _ _ _ q3 q0 q4) hsz
  · intro k l e1 e2 y z q1 q2 hkl t1 t2
    rcases cls k e1 y q1 t1 with ⟨rfl, rfl, rfl⟩ | ⟨a1, rfl, rfl, rfl⟩ | ⟨a1, a2, a3, a4⟩ <;> rcases cls l e2 z q2 t2 with ⟨rfl, rfl, rfl⟩ | ⟨b1, rfl, rfl, rfl⟩ | ⟨b1, b2, b3, b4⟩
    · exact absurd rfl hkl
    · exact Ne.symm hne
    · exact Ne.symm (hxo _ _ _ b1 b3 b4)
    · exact hne
    · exact absurd rfl hkl
    · exact Ne.symm (hgo _ _ _ b1 b3 b4)
    · exact hxo _ _ _ a1 a3 a4
    · exact hgo _ _ _ a1 a3 a4
    · exact hr.sep _ _ _ _ _ _ (hm0 _ _ a3) (hm0 _ _ b3) hkl a4 b4
  · intro k hk
    have hk : h.nxt + 1 ≤ k := hk
    have : k ≠ h.nxt := by omega
    simp only [if_neg this]
    exact hr.fresh k (by omega)

theorem getOb_spec {h : Hp} {n : Nat} {o : Ob} (hg : getOb h n = some o) : ∃ e, tget h.m n = some e ∧ e.ob = some o ∧ e.unk ≠ roU := by
  unfold getOb at hg
  split at hg
  · rename_i e he
    cases hu0 : Nat.beq e.unk 0 <;> simp only [hu0, cond_true, cond_false, reduceCtorEq] at hg
    exact ⟨e, he, hg, by rw [Nat.eq_of_beq_eq_true hu0]; unfold roU; omega⟩
  · cases hg

theorem optB_eq {a : Option Nat} {b : Nat} (h : optB a b = true) : a = some b := by
  cases a with
  | none => cases h
  | some a => rw [Nat.eq_of_beq_eq_true h]

/-- A builder that is named. -/
theorem bld_is [LG] {θ : Th} {h : Hp} {w : World} (hr : HR θ h w) {b T e : Nat} {buf : Option (Nat × Nat)} (hg : getOb h b = some (.bld T e b buf)) {x : Nat × Nat × Nat} (hx : θ b = some x) :
    x.2.1 = 0 ∧ ∃ p v, w.heap[x.1]? = some (.cells #[p, v] T (0, 0)) ∧ (p = .pointer none ∨ p = .pointer (some ⟨x.1, 0, none⟩)) ∧
      ((buf = none ∧ v = .slice none 0 0) ∨ ∃ nb n z, buf = some (nb, n) ∧ 0 < n ∧ θ nb = some z ∧ v = .slice (some ⟨z.1, 0, none⟩) n z.2.2) := by
  obtain ⟨eb, k1, k2, k3⟩ := getOb_spec hg
  obtain ⟨y, p, v, g1, g2, g3, g4, g5⟩ := ((hr.ent _ _ _ k1 hx).ob _ k2 : BldR θ _ T b buf).ex
  rw [hx] at g1
  cases g1
  exact ⟨g2, p, v, g3, g4, g5⟩

theorem row_is [LG] {θ : Th} {h : Hp} {w : World} (hr : HR θ h w) {nb e n : Nat} {s : ByteArray} (hg : getOb h nb = some (.byt e nb s)) {z : Nat × Nat × Nat} (hz : θ nb = some z) (hn : s.size = n) : w.ownsRow 0 e 1 (.slice (some ⟨z.1, 0, none⟩) n z.2.2) s.size (Lib.strCells s) := by
  obtain ⟨eb, k1, k2, k3⟩ := getOb_spec hg
  obtain ⟨y, cs, g1, g2, g3, g4, g5, g6⟩ := ((hr.ent _ _ _ k1 hz).ob _ k2 : BytR θ _ e nb s).ex
  rw [hz] at g1
  cases g1
  refine ⟨by rw [Lib.strCells_length, Nat.mul_one], .inr ⟨z.1, z.2.2, cs, by rw [hn], Nat.zero_le _, g2, g4, g5, by rw [Nat.mul_one]; exact g3, by rw [Nat.mul_one]; exact g6⟩⟩

theorem write_sound [LG] {E : Env} {θ : Th} {h h' : Hp} {w : World} (hr : HR θ h w) {b : Nat} {t : ByteArray} (hx : xWrite E b t h = some h') {x : Nat × Nat × Nat} (hb : θ b = some x) :
    x.2.1 = 0 ∧ t.size ≤ 1000000 ∧ ∃ T e v s, bldK E T = some e ∧ BIs w x.1 T e v s ∧ ∀ v' w', BAft w x.1 T e v v' s t w' → ∃ θ', Ext h.nxt θ h w θ' h' w' ∧ HR θ' h' w' := by
  unfold xWrite at hx
  split at hx
  · rename_i T e self buf hg
    cases hq : (Nat.beq self b && optB (bldK E T) e && Nat.ble t.size 1000000) <;> simp only [hq, cond_true, cond_false, reduceCtorEq] at hx
    simp only [Bool.and_eq_true] at hq
    obtain ⟨⟨hq1, hq2⟩, hq3⟩ := hq
    have hq1 := Nat.eq_of_beq_eq_true hq1
    subst hq1
    have hq3 : t.size ≤ 1000000 := Nat.le_of_ble_eq_true hq3
    obtain ⟨hx0, p, v, g1, g2, g3⟩ := bld_is hr hg hb
    obtain ⟨eb, k1, k2, k3⟩ := getOb_spec hg
    refine ⟨hx0, hq3, T, e, v, ?_⟩
    rcases g3 with ⟨rfl, rfl⟩ | ⟨nb, n, z, rfl, g4, g5, rfl⟩
    · refine ⟨⟨#[]⟩, optB_eq hq2, ⟨⟨p, g1, g2⟩, World.ownsRow_nil w 0 e 1, (by intro q; cases q), Nat.zero_le _, fun q => absurd rfl q⟩, fun v' w' a => ?_⟩
      obtain ⟨p', a1, a2⟩ := a.here
      simp only at hx
      cases hz : Nat.beq t.size 0 <;> simp only [hz, cond_true, cond_false, Option.some.injEq] at hx
      · have ht0 : t.size ≠ 0 := fun q => by rw [q] at hz; cases hz
        have hv' : v' ≠ .slice none 0 0 := fun q => ht0 (a.nil.1 q).2
        rcases a.owns.2 with ⟨q, _⟩ | ⟨g, cap, cur, q1, _, q2, q3, q4, q5, q6⟩
        · exact absurd q hv'
        · subst hx
          have q1 : v' = .slice (some ⟨g, 0, none⟩) (0 + t.size) cap := q1
          rw [Nat.zero_add] at q1
          have hsz0 : (⟨#[]⟩ : ByteArray).size = 0 := rfl
          rw [hsz0, Nat.zero_add, Nat.mul_one] at q6
          rw [Nat.mul_one] at q5
          have q6 : cur.toList.take t.size = Lib.strCells t := q6
          subst q1
          have hg' := a.new g rfl
          refine bld_new hr (m0 := h.m) hb hx0 k1 k3 (fun _ _ q => q) a2 a1 q2 q5 (by simpa [hsz0] using q3) q4 q6 rfl (by omega) (fun q => a.ne (by rw [← q]; rfl)) (.inl ?_) (fun k ek y r1 r2 r3 => a.frame _ (hr.ent _ _ _ r1 r3).lt (hr.sep _ _ _ _ _ _ r1 k1 r2 r3 hb) (by intro q; cases q)) (fun k r1 r2 => a.frame k r1 (fun q => r2 _ _ _ k1 k3 hb q.symm) (by intro q; cases q)) a.size a.tape a.os a.output
          rcases hg' with q | q
          · cases q
          · exact q
      · subst hx
        have ht0 : t.size = 0 := Nat.eq_of_beq_eq_true hz
        have hv' : v' = .slice none 0 0 := a.nil.2 ⟨rfl, ht0⟩
        subst hv'
        have down : ∀ k ek, tget (tset h.m self (some (obE (.bld T e self none)))) k = some ek → (k = self ∧ ek = obE (.bld T e self none)) ∨ (k ≠ self ∧ tget h.m k = some ek) := by
          intro k ek r1
          rw [tget_tset] at r1
          by_cases q : self = k
          · rw [if_pos q] at r1; cases r1; exact .inl ⟨q.symm, rfl⟩
          · rw [if_neg q] at r1; exact .inr ⟨Ne.symm q, r1⟩
        refine ⟨θ, ⟨fun _ _ q => q, fun _ _ _ => rfl, Nat.le_refl _, a.size, a.tape, a.os, a.output, fun k r1 r2 => a.frame k r1 (fun q => r2 _ _ _ k1 k3 hb q.symm) (by intro q; cases q), fun n en y h1 hu h2 => ?_, fun n en y h1 h2 => ?_⟩, ⟨fun k ek y r1 r2 => ?_, fun n m e1 e2 y z r1 r2 hne t1 t2 => ?_, hr.fresh⟩⟩
        · rcases down _ _ h1 with ⟨rfl, rfl⟩ | ⟨q, q'⟩
          · exact .inr ⟨_, _, _, k1, k3, h2, rfl⟩
          · exact .inr ⟨_, _, _, q', hu, h2, rfl⟩
        · rcases down _ _ h1 with ⟨rfl, rfl⟩ | ⟨q, q'⟩
          · exact .inr ⟨_, _, _, k1, h2, rfl⟩
          · exact .inr ⟨_, _, _, q', h2, rfl⟩
        · rcases down _ _ r1 with ⟨rfl, rfl⟩ | ⟨q, q'⟩
          · rw [hb] at r2
            cases r2
            exact EntR.obj hb (Nat.lt_of_lt_of_le (hr.ent _ _ _ k1 hb).lt a.size) (BldR.mk ⟨x, p', _, hb, hx0, a1, a2, .inl ⟨rfl, rfl⟩⟩)
          · exact (hr.ent _ _ _ q' r2).kept (fun _ _ q => q) (a.frame _ (hr.ent _ _ _ q' r2).lt (hr.sep _ _ _ _ _ _ q' k1 q r2 hb) (by intro q; cases q)) a.size
        · have lift : ∀ k ek, tget (tset h.m self (some (obE (.bld T e self none)))) k = some ek → ∃ ek', tget h.m k = some ek' := by
            intro k ek q
            rcases down _ _ q with ⟨rfl, _⟩ | ⟨_, q⟩
            · exact ⟨_, k1⟩
            · exact ⟨_, q⟩
          obtain ⟨f1, s1⟩ := lift _ _ r1
          obtain ⟨f2, s2⟩ := lift _ _ r2
          exact hr.sep n m f1 f2 y z s1 s2 hne t1 t2
    · simp only at hx
      split at hx
      · rename_i e' self' s hgn
        cases hq : (Nat.beq e' e && Nat.beq self' nb && Nat.beq s.size n && !(Nat.beq nb self) && Nat.ble n 1000000) <;> simp only [hq, cond_true, cond_false, reduceCtorEq] at hx
        simp only [Bool.and_eq_true, Bool.not_eq_true'] at hq
        obtain ⟨⟨⟨⟨c1, c2⟩, c3⟩, c4⟩, c5⟩ := hq
        have c1 := Nat.eq_of_beq_eq_true c1
        have c2 := Nat.eq_of_beq_eq_true c2
        have c3 := Nat.eq_of_beq_eq_true c3
        have c5 : n ≤ 1000000 := Nat.le_of_ble_eq_true c5
        have c4 : nb ≠ self := fun q => by rw [q, Nat.beq_refl] at c4; cases c4
        subst c1; subst c2; subst c3
        cases hx
        obtain ⟨en, j1, j2, j3⟩ := getOb_spec hgn
        have hzx : z.1 ≠ x.1 := hr.sep _ _ _ _ _ _ j1 k1 c4 g5 hb
        refine ⟨s, optB_eq hq2, ⟨⟨p, g1, g2⟩, row_is hr hgn g5 rfl, (fun q => hzx (Option.some.inj q)), c5, fun _ => g4⟩, fun v' w' a => ?_⟩
        obtain ⟨p', a1, a2⟩ := a.here
        have hv' : v' ≠ .slice none 0 0 := fun q => by have := (a.nil.1 q).1; cases this
        rcases a.owns.2 with ⟨q, _⟩ | ⟨g, cap, cur, q1, _, q2, q3, q4, q5, q6⟩
        · exact absurd q hv'
        · subst q1
          have hg' := a.new g rfl
          rw [Nat.mul_one] at q5 q6
          have hcs := catB_size s t
          refine bld_new hr (m0 := tset h.m self' none) hb hx0 k1 k3 (fun k ek q => ?_) a2 a1 q2 q5 (by rw [hcs]; exact q3) q4 (by rw [hcs, catB_cells]; exact q6) hcs (by omega) (fun q => a.ne (by rw [← q]; rfl)) ?_ (fun k ek y r1 r2 r3 => ?_) (fun k r1 r2 => a.frame k r1 (fun q => r2 _ _ _ k1 k3 hb q.symm) (fun q => r2 _ _ _ j1 j3 g5 (Option.some.inj q))) a.size a.tape a.os a.output
          · rw [tget_tset] at q
            split at q
            · cases q
            · exact q
          · rcases hg' with q | q
            · have q : z.1 = g := Option.some.inj q
              exact .inr ⟨self', en, z, j1, j3, g5, q, by rw [tget_tset, if_pos rfl]⟩
            · exact .inl q
          · rw [tget_tset] at r1
            split at r1
            · cases r1
            · rename_i hkn
              exact a.frame _ (hr.ent _ _ _ r1 r3).lt (hr.sep _ _ _ _ _ _ r1 k1 r2 r3 hb) (fun q => hr.sep _ _ _ _ _ _ j1 r1 hkn g5 r3 (Option.some.inj q))
      · cases hx
  · cases hx

theorem str_sound [LG] {E : Env} {θ : Th} {h h' : Hp} {w : World} (hr : HR θ h w) {b : Nat} {r : ByteArray} (hx : xStr E b h = some (r, h')) {x : Nat × Nat × Nat} (hb : θ b = some x) :
    x.2.1 = 0 ∧ ∃ T e v, bldK E T = some e ∧ BIs w x.1 T e v r ∧ ∀ w', BTold w v w' → Ext h.nxt θ h w θ h' w' ∧ HR θ h' w' := by
  unfold xStr at hx
  split at hx
  · rename_i T e self buf hg
    cases hq : (Nat.beq self b && optB (bldK E T) e) <;> simp only [hq, cond_true, cond_false, reduceCtorEq] at hx
    simp only [Bool.and_eq_true] at hq
    obtain ⟨hq1, hq2⟩ := hq
    have hq1 := Nat.eq_of_beq_eq_true hq1
    subst hq1
    obtain ⟨hx0, p, v, g1, g2, g3⟩ := bld_is hr hg hb
    obtain ⟨eb, k1, k2, k3⟩ := getOb_spec hg
    refine ⟨hx0, T, e, v, optB_eq hq2, ?_⟩
    rcases g3 with ⟨rfl, rfl⟩ | ⟨nb, n, z, rfl, g4, g5, rfl⟩
    · cases hx
      refine ⟨⟨⟨p, g1, g2⟩, World.ownsRow_nil w 0 e 1, (by intro q; cases q), Nat.zero_le _, fun q => absurd rfl q⟩, fun w' a => ⟨⟨fun _ _ q => q, fun _ _ _ => rfl, Nat.le_refl _, a.size, a.tape, a.os, a.output, fun k r1 r2 => a.frame k r1 (by intro q; cases q), fun n e x h1 hu h2 => .inr ⟨n, e, x, h1, hu, h2, rfl⟩, fun n e x h1 h2 => .inr ⟨n, e, x, h1, h2, rfl⟩⟩, ⟨fun k ek y r1 r2 => (hr.ent _ _ _ r1 r2).kept (fun _ _ q => q) (a.frame _ (hr.ent _ _ _ r1 r2).lt (by intro q; cases q)) a.size, hr.sep, hr.fresh⟩⟩⟩
    · simp only at hx
      split at hx
      · rename_i e' self' s hgn
        cases hq : (Nat.beq e' e && Nat.beq self' nb && Nat.beq s.size n && !(Nat.beq nb self) && Nat.ble n 1000000) <;> simp only [hq, cond_true, cond_false, reduceCtorEq] at hx
        simp only [Bool.and_eq_true, Bool.not_eq_true'] at hq
        obtain ⟨⟨⟨⟨c1, c2⟩, c3⟩, c4⟩, c5⟩ := hq
        have c1 := Nat.eq_of_beq_eq_true c1
        have c2 := Nat.eq_of_beq_eq_true c2
        have c3 := Nat.eq_of_beq_eq_true c3
        have c5 : n ≤ 1000000 := Nat.le_of_ble_eq_true c5
        have c4 : nb ≠ self := fun q => by rw [q, Nat.beq_refl] at c4; cases c4
        subst c1; subst c2; subst c3
        cases hx
        obtain ⟨en, j1, j2, j3⟩ := getOb_spec hgn
        have hzx : z.1 ≠ x.1 := hr.sep _ _ _ _ _ _ j1 k1 c4 g5 hb
        have down : ∀ k ek, tget (tset h.m self' none) k = some ek → k ≠ self' ∧ tget h.m k = some ek := by
          intro k ek q
          rw [tget_tset] at q
          by_cases z : self' = k
          · rw [if_pos z] at q; cases q
          · rw [if_neg z] at q; exact ⟨Ne.symm z, q⟩
        refine ⟨⟨⟨p, g1, g2⟩, row_is hr hgn g5 rfl, (fun q => hzx (Option.some.inj q)), c5, fun _ => g4⟩, fun w' a => ⟨⟨fun _ _ q => q, fun _ _ _ => rfl, Nat.le_refl _, a.size, a.tape, a.os, a.output, fun k r1 r2 => a.frame k r1 (fun q => r2 _ _ _ j1 j3 g5 (Option.some.inj q)), fun n e x h1 hu h2 => .inr ⟨n, e, x, (down _ _ h1).2, hu, h2, rfl⟩, fun n e x h1 h2 => .inr ⟨n, e, x, (down _ _ h1).2, h2, rfl⟩⟩, ⟨fun k ek y r1 r2 => ?_, fun n m e1 e2 y z r1 r2 hne t1 t2 => hr.sep n m _ _ y z (down _ _ r1).2 (down _ _ r2).2 hne t1 t2, hr.fresh⟩⟩⟩
        obtain ⟨d1, d2⟩ := down _ _ r1
        exact (hr.ent _ _ _ d2 r2).kept (fun _ _ q => q) (a.frame _ (hr.ent _ _ _ d2 r2).lt (fun q => hr.sep _ _ _ _ _ _ j1 d2 (Ne.symm d1) g5 r2 (Option.some.inj q))) a.size
      · cases hx
  · cases hx
end Go.Ev
