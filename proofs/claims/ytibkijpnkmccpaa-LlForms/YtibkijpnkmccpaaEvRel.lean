/- How named memory stands for a world's. -/
import Derived.Test.YtibkijpnkmccpaaEvLaws
import Derived.Laws.IdiomCopy
import Derived.Laws.World
import Derived.Lib.AppendStr
set_option linter.unusedVariables false
namespace Go.Ev
open Go.Deep Go.RowKit

abbrev Th := Nat → Option (Nat × Nat × Nat)

def capR (k c c' : Nat) : Prop := (c < unkU ∧ c' = c) ∨ (unkU ≤ c ∧ c' = k - (c - unkU))

/-- A slice: of named memory; or an empty one somewhere. -/
def SlR (θ : Th) (a : Addr) (l c : Nat) (v : Value) : Prop :=
  (a.spot = none ∧ ∃ x c', θ a.block = some x ∧ capR x.2.2 c c' ∧ v = .slice (some ⟨x.1, x.2.1 + a.off, none⟩) l c') ∨ (a.spot ≠ none ∧ l = 0 ∧ unkU ≤ c ∧ ∃ ad c', v = .slice (some ad) 0 c')

theorem SlR.mono {θ θ' : Th} (h : ∀ n x, θ n = some x → θ' n = some x) {a : Addr} {l c : Nat} {v : Value} (hs : SlR θ a l c v) : SlR θ' a l c v := by
  rcases hs with ⟨h1, x, c', h2, h3⟩ | hs
  · exact .inl ⟨h1, x, c', h _ _ h2, h3⟩
  · exact .inr hs

theorem SlR.here {θ : Th} {a : Addr} {l c : Nat} {v : Value} (hs : SlR θ a l c v) (h : a.spot = none) : a.spot = none ∧ ∃ x c', θ a.block = some x ∧ capR x.2.2 c c' ∧ v = .slice (some ⟨x.1, x.2.1 + a.off, none⟩) l c' :=
  hs.resolve_right fun q => q.1 h

theorem SlR.some {θ : Th} {a : Addr} {l c : Nat} {v : Value} (hs : SlR θ a l c v) : ∃ ad c', v = .slice (some ad) l c' ∧ (c < unkU → c' = c) := by
  rcases hs with ⟨h1, x, c', h2, h3, h4⟩ | ⟨h1, h2, h3, ad, c', h4⟩
  · refine ⟨_, c', h4, fun hc => ?_⟩
    rcases h3 with ⟨_, e⟩ | ⟨e, _⟩
    · exact e
    · omega
  · exact ⟨ad, c', by rw [h2]; exact h4, fun hc => by omega⟩

/-- One cell's value, no function's. -/
def S0 (θ : Th) : Value → Value → Prop
  | .bool b, v => v = .bool b
  | .int k n, v => v = .int k n
  | .string s, v => v = .string s
  | .pointer none, v => v = .pointer none
  | .pointer (some a), v => a.spot = none ∧ ∃ x, θ a.block = some x ∧ v = .pointer (some ⟨x.1, x.2.1 + a.off, none⟩)
  | .slice none l c, v => v = .slice none l c
  | .slice (some a) l c, v => SlR θ a l c v
  | .nilFunc, v => v = .nilFunc
  | .nilIface, v => v = .nilIface
  | .map none, v => v = .map none
  | .map (some n), v => ∃ x, θ n = some x ∧ v = .map (some x.1)
  | .chan none, v => v = .chan none
  | .float k b, v => v = .float k b
  | .complex k b c, v => v = .complex k b c
  | _, _ => False

def V0 (θ : Th) : Value → Value → Prop
  | .agg cs, v => ∃ ds : List Value, v = .agg ds.toArray ∧ all2 (S0 θ) cs.toList ds
  | u, v => S0 θ u v

theorem S0_mono {θ θ' : Th} (h : ∀ n x, θ n = some x → θ' n = some x) {u v : Value} (hs : S0 θ u v) : S0 θ' u v := by
  unfold S0 at *
  split at hs <;> first
    | exact hs
    | (obtain ⟨x, h2, h3⟩ := hs; exact ⟨x, h _ _ h2, h3⟩)
    | (obtain ⟨h1, x, h2, h3⟩ := hs; exact ⟨h1, x, h _ _ h2, h3⟩)
    | exact SlR.mono h hs

theorem V0_mono {θ θ' : Th} (h : ∀ n x, θ n = some x → θ' n = some x) {u v : Value} (hs : V0 θ u v) : V0 θ' u v := by
  unfold V0 at *
  split at hs
  · obtain ⟨ds, h1, h2⟩ := hs
    exact ⟨ds, h1, all2_mono (fun a b => S0_mono h) h2⟩
  · exact S0_mono h hs

def S (θ : Th) : Value → Value → Prop
  | .bool b, v => v = .bool b
  | .int k n, v => v = .int k n
  | .string s, v => v = .string s
  | .pointer none, v => v = .pointer none
  | .pointer (some a), v => a.spot = none ∧ ∃ x, θ a.block = some x ∧ v = .pointer (some ⟨x.1, x.2.1 + a.off, none⟩)
  | .slice none l c, v => v = .slice none l c
  | .slice (some a) l c, v => SlR θ a l c v
  | .nilFunc, v => v = .nilFunc
  | .nilIface, v => v = .nilIface
  | .map none, v => v = .map none
  | .map (some n), v => ∃ x, θ n = some x ∧ v = .map (some x.1)
  | .chan none, v => v = .chan none
  | .float k b, v => v = .float k b
  | .complex k b c, v => v = .complex k b c
  | .func (.yield n) _ _, v => ∃ x, θ n = some x ∧ v = .func (.yield x.1) #[] #[]
  | .func fn a b, v => ∃ a' b' : List Value, v = .func fn a'.toArray b'.toArray ∧ all2 (V0 θ) a.toList a' ∧ all2 (V0 θ) b.toList b'
  | _, _ => False

def V (θ : Th) : Value → Value → Prop
  | .agg cs, v => ∃ ds : List Value, v = .agg ds.toArray ∧ all2 (S θ) cs.toList ds
  | u, v => S θ u v

def W (θ : Th) : Value → Value → Prop
  | .tuple vs, v => ∃ us : List Value, v = .tuple us.toArray ∧ all2 (V θ) vs.toList us
  | .iface t u, v => ∃ u', v = .iface t u' ∧ V θ u u'
  | u, v => V θ u v

theorem S_mono {θ θ' : Th} (h : ∀ n x, θ n = some x → θ' n = some x) {u v : Value} (hs : S θ u v) : S θ' u v := by
  unfold S at *
  split at hs <;> first
    | exact hs
    | (obtain ⟨a', b', h1, h2, h3⟩ := hs; exact ⟨a', b', h1, all2_mono (fun a b => V0_mono h) h2, all2_mono (fun a b => V0_mono h) h3⟩)
    | (obtain ⟨x, h2, h3⟩ := hs; exact ⟨x, h _ _ h2, h3⟩)
    | (obtain ⟨h1, x, h2, h3⟩ := hs; exact ⟨h1, x, h _ _ h2, h3⟩)
    | exact SlR.mono h hs

theorem V_mono {θ θ' : Th} (h : ∀ n x, θ n = some x → θ' n = some x) {u v : Value} (hs : V θ u v) : V θ' u v := by
  unfold V at *
  split at hs
  · obtain ⟨ds, h1, h2⟩ := hs
    exact ⟨ds, h1, all2_mono (fun a b => S_mono h) h2⟩
  · exact S_mono h hs

theorem W_mono {θ θ' : Th} (h : ∀ n x, θ n = some x → θ' n = some x) {u v : Value} (hs : W θ u v) : W θ' u v := by
  unfold W at *
  split at hs
  · obtain ⟨ds, h1, h2⟩ := hs
    exact ⟨ds, h1, all2_mono (fun a b => V_mono h) h2⟩
  · obtain ⟨u', h1, h2⟩ := hs
    exact ⟨u', h1, V_mono h h2⟩
  · exact V_mono h hs

theorem W_plain {θ : Th} {u v : Value} (hp : isPlain u = true) (h : W θ u v) : v = u := by
  unfold isPlain at hp
  split at hp <;> first | exact h | cases hp

theorem S_plain {θ : Th} {u : Value} (hp : isPlain u = true) : S θ u u := by
  unfold isPlain at hp
  split at hp <;> first | rfl | cases hp

theorem S_of_S0 {θ : Th} {u v : Value} (h : S0 θ u v) : S θ u v := by
  cases u with
  | pointer a => cases a <;> exact h
  | slice a l c => cases a <;> exact h
  | map a => cases a <;> first | exact h | exact h.elim
  | chan a => cases a <;> first | exact h | exact h.elim
  | func f a b => exact h.elim
  | _ => first | exact h | exact h.elim

theorem S0_of_S {θ : Th} {u v : Value} (hn : noFn u = true) (h : S θ u v) : S0 θ u v := by
  cases u with
  | pointer a => cases a <;> exact h
  | slice a l c => cases a <;> exact h
  | map a => cases a <;> first | exact h | exact h.elim
  | chan a => cases a <;> first | exact h | exact h.elim
  | func f a b => cases hn
  | _ => first | exact h | exact h.elim

theorem V_of_V0 {θ : Th} {u v : Value} (h : V0 θ u v) : V θ u v := by
  cases u with
  | agg a => obtain ⟨ds, h1, h2⟩ := h; exact ⟨ds, h1, all2_mono (fun a b => S_of_S0) h2⟩
  | _ => simp only [V0] at h; simp only [V]; exact S_of_S0 h

theorem all_S0 {θ : Th} : ∀ {l m : List Value}, l.all noFn = true → all2 (S θ) l m → all2 (S0 θ) l m
  | [], [], _, _ => trivial
  | a :: l, b :: m, hn, h => by
    simp only [List.all_cons, Bool.and_eq_true] at hn
    exact ⟨S0_of_S hn.1 h.1, all_S0 hn.2 h.2⟩
  | [], _ :: _, _, h => h.elim
  | _ :: _, [], _, h => h.elim

theorem V0_of_W {θ : Th} {u v : Value} (hn : capOk u = true) (h : W θ u v) : V0 θ u v := by
  cases u with
  | tuple a => cases hn
  | func f a b => cases hn
  | iface t x => cases hn
  | agg a => obtain ⟨ds, h1, h2⟩ := h; exact ⟨ds, h1, all_S0 hn h2⟩
  | _ => simp only [W, V] at h; simp only [V0]; exact S0_of_S rfl h

theorem all_V0 {θ : Th} : ∀ {l m : List Value}, l.all capOk = true → all2 (W θ) l m → all2 (V0 θ) l m
  | [], [], _, _ => trivial
  | a :: l, b :: m, hn, h => by
    simp only [List.all_cons, Bool.and_eq_true] at hn
    exact ⟨V0_of_W hn.1 h.1, all_V0 hn.2 h.2⟩
  | [], _ :: _, _, h => h.elim
  | _ :: _, [], _, h => h.elim

theorem W_of_S {θ : Th} {u v : Value} (h : S θ u v) : W θ u v := by
  cases u <;> first | exact h | exact h.elim

theorem V_of_S {θ : Th} {u v : Value} (h : S θ u v) : V θ u v := by
  cases u <;> first | exact h | exact h.elim

theorem W_of_V {θ : Th} {u v : Value} (h : V θ u v) : W θ u v := by
  cases u <;> first | exact h | exact h.elim

theorem S_one {θ : Th} {u v : Value} (h : S θ u v) : v.oneCell' = true := by
  unfold S at h
  split at h <;> first
    | (subst h; rfl)
    | (obtain ⟨_, _, _, rfl⟩ := h; rfl)
    | (obtain ⟨_, _, rfl⟩ := h; rfl)
    | (obtain ⟨_, _, rfl, _⟩ := SlR.some h; rfl)
    | (obtain ⟨_, _, rfl, _, _⟩ := h; rfl)
    | exact h.elim

theorem W_func {θ : Th} {fn : Fn} {a b : Array Value} {v : Value} (h : W θ (.func fn a b) v) : ∃ fn' a' b', v = .func fn' a' b' := by
  cases fn with
  | yield n => obtain ⟨x, _, e⟩ := h; exact ⟨_, _, _, e⟩
  | _ => obtain ⟨a', b', e, _, _⟩ := h; exact ⟨_, _, _, e⟩

theorem S_of_W {θ : Th} {u v : Value} (hu : u.oneCell' = true) (hn : ∀ t x, u ≠ .iface t x) (h : W θ u v) : S θ u v := by
  cases u <;> first | exact h | (cases hu; done) | exact (hn _ _ rfl).elim

theorem cells_one {v : Value} (h : v.oneCell' = true) : v.cells = #[v] := by
  cases v <;> first | rfl | cases h

/-- A value's cells. -/
theorem W_cells {θ : Th} {u v : Value} {cs : List Value} (hc : cellsA u = some cs) (h : W θ u v) : ∃ ds : List Value, v.cells = ds.toArray ∧ all2 (S θ) cs ds := by
  cases u <;> simp only [cellsA, Option.some.injEq, reduceCtorEq] at hc
  case agg a =>
    subst hc
    obtain ⟨ds, rfl, h2⟩ := h
    exact ⟨ds, rfl, h2⟩
  all_goals
    subst hc
    have hs := S_of_W rfl (fun _ _ e => by cases e) h
    exact ⟨[v], by rw [cells_one (S_one hs)], hs, trivial⟩

structure TR (θ : Th) (T : Tm) (a : Act) : Prop where
  tmps : ∀ t v, tget T t = some v → ∃ u, a.tmps[t]? = some u ∧ W θ v u

theorem TR.mono {θ θ' : Th} (h : ∀ n x, θ n = some x → θ' n = some x) {T : Tm} {a : Act} (ht : TR θ T a) : TR θ' T a :=
  ⟨fun t v hv => let ⟨u, h1, h2⟩ := ht.tmps t v hv; ⟨u, h1, W_mono h h2⟩⟩

theorem TR.put {θ : Th} {T : Tm} {a : Act} (ht : TR θ T a) {dst : Option Tmp} {v u : Value} (hd : ∀ d, dst = some d → d < a.tmps.size) (h : W θ v u) : TR θ (tputD T dst v) (a.put dst u) := by
  cases dst with
  | none => exact ht
  | some d =>
    refine ⟨fun t x hx => ?_⟩
    simp only [tputD, tget_tset] at hx
    simp only [Act.put, Array.getElem?_setIfInBounds]
    by_cases e : d = t
    · subst e
      rw [if_pos rfl] at hx
      cases hx
      exact ⟨u, by simp [hd d rfl], h⟩
    · rw [if_neg e] at hx
      obtain ⟨y, h1, h2⟩ := ht.tmps t x hx
      exact ⟨y, by simp [e, h1], h2⟩

theorem size_put (a : Act) (dst : Option Tmp) (v : Value) : (a.put dst v).tmps.size = a.tmps.size := by
  cases dst <;> simp [Act.put]

theorem opv_W {θ : Th} {T : Tm} {a : Act} (ht : TR θ T a) {x : Operand} {v : Value} (h : opv T x = some v) : W θ v (a.eval x) := by
  cases x with
  | tmp t =>
    obtain ⟨u, h1, h2⟩ := ht.tmps t v h
    simpa [Act.eval, Array.getD_eq_getD_getElem?, h1] using h2
  | const c =>
    simp only [opv] at h
    cases hp : isPlain c <;> simp [hp] at h
    subst h
    exact W_of_S (S_plain hp)
  | global g => cases h
  | func f =>
    simp only [opv, Option.some.injEq] at h
    subst h
    exact ⟨[], [], rfl, trivial, trivial⟩

theorem opvs_W {θ : Th} {T : Tm} {a : Act} (ht : TR θ T a) : ∀ {xs : List Operand} {vs : List Value}, opvs (opv T) xs = some vs → all2 (W θ) vs (xs.map a.eval)
  | [], vs, h => by cases h; trivial
  | x :: l, vs, h => by
    simp only [opvs] at h
    split at h
    · cases h
    · rename_i v hv
      split at h
      · cases h
      · rename_i r hr
        cases h
        exact ⟨opv_W ht hv, opvs_W ht hr⟩

/-- The operands of an operation, as the frame has them. -/
def TO (θ : Th) (T : Tm) (a : Act) (o : Oper) : Prop := ∀ x ∈ o.op.operands.toList, ∀ v, opv T x = some v → W θ v (a.eval x)

theorem TR.opers {θ : Th} {T : Tm} {a : Act} (ht : TR θ T a) (o : Oper) : TO θ T a o := fun x _ v h => opv_W ht h

theorem opvs_O {θ : Th} {T : Tm} {a : Act} : ∀ {xs : List Operand} {vs : List Value}, (∀ x ∈ xs, ∀ v, opv T x = some v → W θ v (a.eval x)) → opvs (opv T) xs = some vs → all2 (W θ) vs (xs.map a.eval)
  | [], vs, _, h => by cases h; trivial
  | x :: l, vs, hx, h => by
    simp only [opvs] at h
    split at h
    · cases h
    · rename_i v hv
      split at h
      · cases h
      · rename_i r hr
        cases h
        exact ⟨hx x (by simp) v hv, opvs_O (fun y hy => hx y (by simp [hy])) hr⟩

theorem defers_put (a : Act) (dst : Option Tmp) (v : Value) : (a.put dst v).defers = a.defers := by
  cases dst <;> rfl

/-- Which loops may be there. -/
class LG where
  base : Nat → Nat → List Nat → Code → Code → Prop

def LG.good [LG] (L : Lp) : Prop := LG.base L.fn L.N L.ps L.asg L.body

def stOf : Nat → LoopState
  | 0 => .ready
  | 1 => .busy
  | _ => .done

/-- A loop's record. -/
structure LpR (θ : Th) (L : Lp) (r : Loop) : Prop where
  ps : r.params.toList = L.ps
  asg : r.assign = L.asg
  body : r.body = L.body
  st : r.state = stOf L.st
  pend : r.pending = L.pend
  size : L.N ≤ r.tmps.size
  ts : ∀ t v, (t, v) ∈ L.ts → ∃ u, r.tmps[t]? = some u ∧ W θ v u

/-- A map's entries. -/
def MpR (θ : Th) (es : List (Value × Value)) (l : List MapEntry) : Prop := all2 (fun p (e : MapEntry) => e.key = p.1 ∧ V θ p.2 e.val) es l

theorem MpR.mono {θ θ' : Th} (h : ∀ n x, θ n = some x → θ' n = some x) {es : List (Value × Value)} {l : List MapEntry} (hm : MpR θ es l) : MpR θ' es l :=
  all2_mono (fun _ _ q => ⟨q.1, V_mono h q.2⟩) hm

/-- The library's builder of texts. -/
structure BldR (θ : Th) (q : Option Obj) (T me : Nat) (buf : Option (Nat × Nat)) : Prop where
  ex : ∃ y p v, θ me = some y ∧ y.2.1 = 0 ∧ q = some (.cells #[p, v] T (0, 0)) ∧ (p = .pointer none ∨ p = .pointer (some ⟨y.1, 0, none⟩)) ∧
    ((buf = none ∧ v = .slice none 0 0) ∨ ∃ nb n z, buf = some (nb, n) ∧ 0 < n ∧ θ nb = some z ∧ v = .slice (some ⟨z.1, 0, none⟩) n z.2.2)

/-- Its bytes. -/
structure BytR (θ : Th) (q : Option Obj) (e me : Nat) (s : ByteArray) : Prop where
  ex : ∃ y cs, θ me = some y ∧ q = some (.cells cs e (0, 0)) ∧ cs.size = y.2.2 ∧ s.size ≤ y.2.2 ∧ y.2.2 ≤ maxLen ∧ cs.toList.take s.size = Lib.strCells s

theorem BldR.mono {θ θ' : Th} (h : ∀ n x, θ n = some x → θ' n = some x) {q : Option Obj} {T self : Nat} {buf : Option (Nat × Nat)} (b : BldR θ q T self buf) : BldR θ' q T self buf := by
  obtain ⟨y, p, v, h1, h2, h3, h4, h5⟩ := b.ex
  refine ⟨y, p, v, h _ _ h1, h2, h3, h4, ?_⟩
  rcases h5 with h5 | ⟨nb, n, z, q1, q2, q3, q4⟩
  · exact .inl h5
  · exact .inr ⟨nb, n, z, q1, q2, h _ _ q3, q4⟩

theorem BytR.mono {θ θ' : Th} (h : ∀ n x, θ n = some x → θ' n = some x) {q : Option Obj} {e self : Nat} {s : ByteArray} (b : BytR θ q e self s) : BytR θ' q e self s := by
  obtain ⟨y, cs, h1, h2, h3, h4, h5, h6⟩ := b.ex
  exact ⟨y, cs, h _ _ h1, h2, h3, h4, h5, h6⟩

def ObR [LG] (θ : Th) (q : Option Obj) : Ob → Prop
  | .loop L => LG.good L ∧ ∃ r, q = some (.loop r) ∧ LpR θ L r
  | .mp es => ∃ l c, q = some (.map l c) ∧ MpR θ es l.toList
  | .bld T e self buf => BldR θ q T self buf
  | .byt e self s => BytR θ q e self s

theorem ObR_mono [LG] {θ θ' : Th} (h : ∀ n x, θ n = some x → θ' n = some x) {q : Option Obj} {o : Ob} (hs : ObR θ q o) : ObR θ' q o := by
  cases o with
  | loop L =>
    obtain ⟨h1, r, h2, h3⟩ := hs
    exact ⟨h1, r, h2, h3.ps, h3.asg, h3.body, h3.st, h3.pend, h3.size, fun t v hm => let ⟨u, k1, k2⟩ := h3.ts t v hm; ⟨u, k1, W_mono h k2⟩⟩
  | mp es =>
    obtain ⟨l, c, h1, h2⟩ := hs
    exact ⟨l, c, h1, h2.mono h⟩
  | bld T e self buf => exact BldR.mono h hs
  | byt e self s => exact BytR.mono h hs

structure EntR [LG] (θ : Th) (w : World) (n : Nat) (e : Ent) (x : Nat × Nat × Nat) : Prop where
  at_ : θ n = some x
  lt : x.1 < w.heap.size
  cell : ∀ i v, tget e.cells i = some v → (∃ u, w.cell? ⟨x.1, x.2.1 + i, none⟩ = some u ∧ S θ v u) ∧ w.frozen? ⟨x.1, x.2.1 + i, none⟩ = false
  ob : ∀ o, e.ob = some o → ObR θ w.heap[x.1]? o
  room : e.unk ≠ 0 → e.len ≤ x.2.2 * e.unk ∧ ∀ i, i < x.2.2 * e.unk → (w.cell? ⟨x.1, x.2.1 + i, none⟩).isSome = true ∧ w.frozen? ⟨x.1, x.2.1 + i, none⟩ = false

structure HR [LG] (θ : Th) (h : Hp) (w : World) : Prop where
  ent : ∀ n e x, tget h.m n = some e → θ n = some x → EntR θ w n e x
  sep : ∀ n m e e' x y, tget h.m n = some e → tget h.m m = some e' → n ≠ m → θ n = some x → θ m = some y → x.1 ≠ y.1
  fresh : ∀ n, h.nxt ≤ n → θ n = none

structure Ext (nm : Nat) (θ : Th) (h : Hp) (w : World) (θ' : Th) (h' : Hp) (w' : World) : Prop where
  keep : ∀ n x, θ n = some x → θ' n = some x
  only : ∀ n, n < h.nxt → n ≠ nm → θ' n = θ n
  nxt : h.nxt ≤ h'.nxt
  size : w.heap.size ≤ w'.heap.size
  tape : w'.tape = w.tape
  os : w'.os = w.os
  output : w'.output = w.output
  frame : ∀ b, b < w.heap.size → (∀ n e x, tget h.m n = some e → e.unk ≠ roU → θ n = some x → x.1 ≠ b) → w'.heap[b]? = w.heap[b]?
  ownw : ∀ n e x, tget h'.m n = some e → e.unk ≠ roU → θ' n = some x → w.heap.size ≤ x.1 ∨ ∃ m e' y, tget h.m m = some e' ∧ e'.unk ≠ roU ∧ θ m = some y ∧ y.1 = x.1
  own : ∀ n e x, tget h'.m n = some e → θ' n = some x → w.heap.size ≤ x.1 ∨ ∃ m e' y, tget h.m m = some e' ∧ θ m = some y ∧ y.1 = x.1

theorem Ext.refl (nm : Nat) (θ : Th) (h : Hp) (w : World) : Ext nm θ h w θ h w where
  keep _ _ e := e
  only _ _ _ := rfl
  nxt := Nat.le_refl _
  size := Nat.le_refl _
  tape := rfl
  os := rfl
  output := rfl
  frame _ _ _ := rfl
  ownw n e x h1 h2 h3 := .inr ⟨n, e, x, h1, h2, h3, rfl⟩
  own n e x h1 h2 := .inr ⟨n, e, x, h1, h2, rfl⟩

theorem Ext.trans {nm nm' : Nat} {θ θ' θ'' : Th} {h h' h'' : Hp} {w w' w'' : World} (a : Ext nm θ h w θ' h' w') (b : Ext nm' θ' h' w' θ'' h'' w'')
    (hn : ∀ n, n < h.nxt → n ≠ nm → n ≠ nm') : Ext nm θ h w θ'' h'' w'' where
  keep n x e := b.keep n x (a.keep n x e)
  only n h1 h2 := by rw [b.only n (Nat.lt_of_lt_of_le h1 a.nxt) (hn n h1 h2), a.only n h1 h2]
  nxt := Nat.le_trans a.nxt b.nxt
  size := Nat.le_trans a.size b.size
  tape := b.tape.trans a.tape
  os := b.os.trans a.os
  output := b.output.trans a.output
  frame k hk hno := by
    rw [b.frame k (Nat.lt_of_lt_of_le hk a.size) ?_, a.frame k hk hno]
    intro n e x h1 hu h2 h3
    rcases a.ownw n e x h1 hu h2 with h4 | ⟨m, e', y, h4, hu', h5, h6⟩
    · omega
    · exact hno m e' y h4 hu' h5 (h6.trans h3)
  ownw n e x h1 hu h2 := by
    rcases b.ownw n e x h1 hu h2 with h4 | ⟨m, e', y, h4, hu', h5, h6⟩
    · exact .inl (Nat.le_trans a.size h4)
    · rcases a.ownw m e' y h4 hu' h5 with h7 | ⟨k, e2, z, h7, hu2, h8, h9⟩
      · exact .inl (h6 ▸ h7)
      · exact .inr ⟨k, e2, z, h7, hu2, h8, h9.trans h6⟩
  own n e x h1 h2 := by
    rcases b.own n e x h1 h2 with h4 | ⟨m, e', y, h4, h5, h6⟩
    · exact .inl (Nat.le_trans a.size h4)
    · rcases a.own m e' y h4 h5 with h7 | ⟨k, e2, z, h7, h8, h9⟩
      · exact .inl (h6 ▸ h7)
      · exact .inr ⟨k, e2, z, h7, h8, h9.trans h6⟩

/-- A world that differs in its draws alone. -/
theorem HR.drawn [LG] {θ : Th} {h : Hp} {w : World} (hr : HR θ h w) (k : Nat) : HR θ h { w with drawn := k } :=
  ⟨fun n e x he hx => let r := hr.ent n e x he hx; ⟨r.at_, r.lt, r.cell, r.ob, r.room⟩, hr.sep, hr.fresh⟩

theorem Ext.drawn (nm : Nat) (θ : Th) (h : Hp) (w : World) (k : Nat) : Ext nm θ h w θ h { w with drawn := k } where
  keep _ _ e := e
  only _ _ _ := rfl
  nxt := Nat.le_refl _
  size := Nat.le_refl _
  tape := rfl
  os := rfl
  output := rfl
  frame _ _ _ := rfl
  ownw n e x h1 h2 h3 := .inr ⟨n, e, x, h1, h2, h3, rfl⟩
  own n e x h1 h2 := .inr ⟨n, e, x, h1, h2, rfl⟩

theorem add_addr (b o k : Nat) : (⟨b, o, none⟩ : Addr).add k = ⟨b, o + k, none⟩ := by
  unfold Addr.add; split <;> simp_all

/-- Cells that are read. -/
theorem load_sound [LG] {P : Program} {θ : Th} {h : Hp} {w : World} (hr : HR θ h w) {a : Addr} {n : Nat} {cs : List Value} {x : Nat × Nat × Nat} (hl : hload h a n = some cs) (hx : θ a.block = some x) :
    ∃ ds : List Value, (loadCells ⟨x.1, x.2.1 + a.off, none⟩ n).run P w = .ok ds.toArray w ∧ all2 (S θ) cs ds ∧ (∀ j v, ds[j]? = some v → w.cell? ⟨x.1, x.2.1 + a.off + j, none⟩ = some v) ∧ ds.length = n := by
  unfold hload at hl
  split at hl
  · rename_i e hs he
    have r := hr.ent _ _ _ he hx
    have hlen := rd_len hl
    have hget := rd_get hl
    have hc : ∀ j, j < n → ∃ u, w.cell? ⟨x.1, x.2.1 + a.off + j, none⟩ = some u ∧ ∀ v, cs[j]? = some v → S θ v u := by
      intro j hj
      have hv : cs[j]? = some cs[j] := List.getElem?_eq_getElem (by omega)
      obtain ⟨⟨u, h1, h2⟩, _⟩ := r.cell _ _ (hget j _ hv)
      exact ⟨u, by rw [Nat.add_assoc]; exact h1, fun v e => by rw [hv] at e; cases e; exact h2⟩
    let f : Nat → Value := fun j => (w.cell? ⟨x.1, x.2.1 + a.off + j, none⟩).getD undef
    have hf : ∀ j, j < n → w.cell? ⟨x.1, x.2.1 + a.off + j, none⟩ = some (f j) := fun j hj => by
      obtain ⟨u, h1, _⟩ := hc j hj
      simp only [f, h1, Option.getD_some]
    have hrun := run_loadCells (P := P) w ⟨x.1, x.2.1 + a.off, none⟩ n f (fun j hj => by rw [add_addr]; exact hf j hj)
    refine ⟨(List.range n).map f, hrun, all2_of_get (by simp [hlen]) ?_, ?_, by simp⟩
    · intro i v u h1 h2
      have hi : i < n := by
        rcases Nat.lt_or_ge i n with h | h
        · exact h
        · rw [List.getElem?_eq_none (by omega)] at h1; cases h1
      obtain ⟨u', h3, h4⟩ := hc i hi
      have : u = f i := by simp [hi] at h2; exact h2.symm
      rw [hf i hi] at h3
      cases h3
      subst this
      exact h4 v h1
    · intro j v hv
      have hj : j < n := by
        rcases Nat.lt_or_ge j n with h | h
        · exact h
        · rw [List.getElem?_eq_none (by simpa using h)] at hv; cases hv
      simp [hj] at hv
      subst hv
      exact hf j hj
  · cases hl

theorem setCells_heap (b : Nat) : ∀ (vs : List Value) (o : Nat) (w : World) (k : Nat), k ≠ b → (w.setCells b o vs).heap[k]? = w.heap[k]?
  | [], _, _, _, _ => rfl
  | v :: r, o, w, k, h => by rw [World.setCells, setCells_heap b r _ _ k h, Below.heap_setCell _ _ _ _ h]

theorem setCells_size (b : Nat) : ∀ (vs : List Value) (o : Nat) (w : World), (w.setCells b o vs).heap.size = w.heap.size
  | [], _, _ => rfl
  | v :: r, o, w => by rw [World.setCells, setCells_size b r, World.size_setCell]

theorem setCells_os (b : Nat) : ∀ (vs : List Value) (o : Nat) (w : World), (w.setCells b o vs).os = w.os ∧ (w.setCells b o vs).tape = w.tape ∧ (w.setCells b o vs).output = w.output
  | [], _, _ => ⟨rfl, rfl, rfl⟩
  | v :: r, o, w => by rw [World.setCells]; exact setCells_os b r _ _

/-- Cells that are written. -/
theorem wrB_spec {e : Ent} (h : wrB e = true) : e.unk ≠ roU ∧ e.ob = none := by
  unfold wrB at h
  simp only [Bool.and_eq_true, Bool.not_eq_true'] at h
  refine ⟨fun q => ?_, ?_⟩
  · rw [q] at h
    have := h.1
    rw [Nat.beq_refl] at this
    cases this
  · cases ho : e.ob with
    | none => rfl
    | some o => rw [ho] at h; exact absurd h.2 (by simp [noOb])

theorem store_sound [LG] {P : Program} {θ : Th} {h h' : Hp} {w : World} (hr : HR θ h w) {a : Addr} {vs us : List Value} {x : Nat × Nat × Nat} (hst : hstore h a vs = some h') (hx : θ a.block = some x) (hv : all2 (S θ) vs us) :
    (storeCells ⟨x.1, x.2.1 + a.off, none⟩ us).run P w = .ok () (w.setCells x.1 (x.2.1 + a.off) us) ∧ HR θ h' (w.setCells x.1 (x.2.1 + a.off) us) ∧ ∀ nm, Ext nm θ h w θ h' (w.setCells x.1 (x.2.1 + a.off) us) := by
  unfold hstore at hst
  split at hst
  · rename_i e hs he
    cases hwr : wrB e <;> simp only [hwr, cond_true, cond_false, reduceCtorEq] at hst
    obtain ⟨hw1, hw2⟩ := wrB_spec hwr
    split at hst
    · rename_i old hold
      cases hst
      have r := hr.ent _ _ _ he hx
      have hlen := rd_len hold
      have hget := rd_get hold
      have hul := all2_len hv
      have hcell : ∀ j, j < us.length → (w.cell? ⟨x.1, x.2.1 + a.off + j, none⟩).isSome = true ∧ w.frozen? ⟨x.1, x.2.1 + a.off + j, none⟩ = false := by
        intro j hj
        have hv : old[j]? = some old[j] := List.getElem?_eq_getElem (by omega)
        obtain ⟨⟨u, h1, h2⟩, h3⟩ := r.cell _ _ (hget j _ hv)
        rw [Nat.add_assoc]
        exact ⟨by rw [h1]; rfl, h3⟩
      have hone : ∀ v ∈ us, v.oneCell' = true := by
        intro v hm
        obtain ⟨i, hi, rfl⟩ := List.getElem_of_mem hm
        have h1 : vs[i]? = some vs[i] := List.getElem?_eq_getElem (by omega)
        obtain ⟨b, hb, hS⟩ := all2_get hv i _ h1
        rw [List.getElem?_eq_getElem hi] at hb
        cases hb
        exact S_one hS
      have hrun := run_storeCells_cells (P := P) x.1 (x.2.1 + a.off) us 0 w (by simpa using fun j hj => (hcell j hj).1) (by simpa using fun j hj => (hcell j hj).2) hone
      have hin := World.cell?_setCells_in x.1 us (x.2.1 + a.off) w (fun j hj => (hcell j hj).1)
      refine ⟨by simpa using hrun, ⟨?_, ?_, hr.fresh⟩, fun nm => ?_⟩
      · intro n e' x' hn hx'
        simp only [tget_tset] at hn
        by_cases hne : a.block = n
        · subst hne
          rw [if_pos rfl] at hn
          cases hn
          have hxx : x = x' := by rw [hx] at hx'; exact Option.some.inj hx'
          subst hxx
          refine ⟨r.at_, by rw [setCells_size]; exact r.lt, fun i v hi => ?_, fun o ho => (by cases ho), fun hu => ?_⟩
          · simp only [tget_wr] at hi
            rw [World.frozen?_setCells]
            by_cases hb : a.off ≤ i ∧ i < a.off + vs.length
            · rw [if_pos hb] at hi
              obtain ⟨u, h1, h2⟩ := all2_get hv _ _ hi
              have hj : i - a.off < us.length := by omega
              have hcc := hin (i - a.off) hj
              rw [show x.2.1 + a.off + (i - a.off) = x.2.1 + i by omega] at hcc
              rw [List.getElem?_eq_getElem hj] at h1
              cases h1
              refine ⟨⟨_, hcc, h2⟩, ?_⟩
              have := (hcell (i - a.off) hj).2
              rwa [show x.2.1 + a.off + (i - a.off) = x.2.1 + i by omega] at this
            · rw [if_neg hb] at hi
              obtain ⟨⟨u, h1, h2⟩, h3⟩ := r.cell i v hi
              refine ⟨⟨u, ?_, h2⟩, h3⟩
              rw [World.cell?_setCells_out _ _ _ _ _ (fun _ _ => by simp only; omega)]
              exact h1
          · obtain ⟨h1, h2⟩ := r.room hu
            refine ⟨h1, fun i hi => ?_⟩
            obtain ⟨h3, h4⟩ := h2 i hi
            rw [World.frozen?_setCells]
            refine ⟨?_, h4⟩
            by_cases hb : a.off ≤ i ∧ i < a.off + us.length
            · have hcc := hin (i - a.off) (by omega)
              rw [show x.2.1 + a.off + (i - a.off) = x.2.1 + i by omega] at hcc
              rw [hcc]; rfl
            · rw [World.cell?_setCells_out _ _ _ _ _ (fun _ _ => by simp only; omega)]
              exact h3
        · rw [if_neg hne] at hn
          have rz := hr.ent _ _ _ hn hx'
          have hsep := hr.sep _ _ _ _ _ _ he hn hne r.at_ rz.at_
          refine ⟨rz.at_, by rw [setCells_size]; exact rz.lt, fun i v hi => ?_, fun o ho => (by rw [setCells_heap _ _ _ _ _ (Ne.symm hsep)]; exact rz.ob o ho), fun hu => ?_⟩
          · rw [World.frozen?_setCells, World.cell?_setCells_out _ _ _ _ _ (fun e1 _ => absurd e1.symm hsep)]
            exact rz.cell i v hi
          · obtain ⟨h1, h2⟩ := rz.room hu
            refine ⟨h1, fun i hi => ?_⟩
            rw [World.frozen?_setCells, World.cell?_setCells_out _ _ _ _ _ (fun e1 _ => absurd e1.symm hsep)]
            exact h2 i hi
      · intro n m e1 e2 z1 z2 h1 h2 hne t1 t2
        have lift : ∀ k ek, tget (tset h.m a.block (some ⟨wr e.cells a.off vs, e.len, e.unk, none⟩)) k = some ek → ∃ ek', tget h.m k = some ek' := by
          intro k ek hk
          rw [tget_tset] at hk
          split at hk
          · rename_i hb; subst hb; exact ⟨e, he⟩
          · exact ⟨ek, hk⟩
        obtain ⟨e1', h1'⟩ := lift n e1 h1
        obtain ⟨e2', h2'⟩ := lift m e2 h2
        exact hr.sep n m e1' e2' z1 z2 h1' h2' hne t1 t2
      · refine ⟨fun _ _ e => e, fun _ _ _ => rfl, Nat.le_refl _, by rw [setCells_size]; exact Nat.le_refl _, (setCells_os _ _ _ _).2.1, (setCells_os _ _ _ _).1, (setCells_os _ _ _ _).2.2, ?_, ?_, ?_⟩
        · intro b hb hno
          exact setCells_heap _ _ _ _ _ (fun e1 => hno _ _ _ he hw1 r.at_ e1.symm)
        · intro n e' z h1 hu h2
          simp only [tget_tset] at h1
          split at h1
          · rename_i hb; subst hb; exact .inr ⟨_, _, _, he, hw1, h2, rfl⟩
          · exact .inr ⟨_, _, _, h1, hu, h2, rfl⟩
        · intro n e' z h1 h2
          simp only [tget_tset] at h1
          split at h1
          · rename_i hb; subst hb; exact .inr ⟨_, _, _, he, h2, rfl⟩
          · exact .inr ⟨_, _, _, h1, h2, rfl⟩
    · cases hst
  · cases hst

end Go.Ev
