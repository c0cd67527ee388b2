/- The faster road: statements. -/
import Derived.Test.YtibkijpnkmccpaaEvFast2
set_option linter.unusedVariables false
set_option linter.unusedSimpArgs false
namespace Go.Ev
open Go.Deep

structure Ds where
  f0 : FT → Value → (FT → Prop) → Prop

def Ds.fn (X : Ds) (x0 : FT) (x1 : Value) (x2 : (FT → Prop)) : Prop := Ds.rec (motive := fun _ => Prop) (fun f => f x0 x1 x2) X

theorem Ds.fn_mk (f : FT → Value → (FT → Prop) → Prop) (x0 : FT) (x1 : Value) (x2 : (FT → Prop)) : (Ds.mk f).fn x0 x1 x2 = f x0 x1 x2 := rfl

def dstS : Option Tmp → Ds
  | none => ⟨fun T _ k => k T⟩
  | some d => match setS d with
    | ⟨p⟩ => ⟨fun T v k => p T (some v) k⟩

theorem dstS_ok {T : FT} {M : Tm} (h : Sim T M) (d : Option Tmp) (v : Value) : ∃ r : Option FT, (∀ k, (dstS d).fn T v k = kO r k) ∧ ∀ T', r = some T' → Sim T' (tputD M d v) := by
  cases d with
  | none => exact ⟨some T, fun k => rfl, fun T' e => by cases e; exact h⟩
  | some d =>
    refine ⟨bif Nat.blt d 512 then some (setF T (some v) d) else none, fun k => setS_eq d T (some v) k, fun T' e => ?_⟩
    cases hb : Nat.blt d 512 <;> simp only [hb, cond_true, cond_false, reduceCtorEq, Option.some.injEq] at e
    subst e
    exact h.put (blt_lt hb) _

structure Wt where
  f0 : FT → Prop → Prop → Prop

def Wt.fn (X : Wt) (x0 : FT) (x1 : Prop) (x2 : Prop) : Prop := Wt.rec (motive := fun _ => Prop) (fun f => f x0 x1 x2) X

theorem Wt.fn_mk (f : FT → Prop → Prop → Prop) (x0 : FT) (x1 : Prop) (x2 : Prop) : (Wt.mk f).fn x0 x1 x2 = f x0 x1 x2 := rfl

def isWant (v : Value) (n : Prop) (k : Bool → Prop) : Prop :=
  Value.rec (motive_1 := fun _ => Prop) (motive_2 := fun _ => Prop) (motive_3 := fun _ => Prop) k (fun _ _ => False) (fun _ _ => False) (fun _ _ _ => False) (fun _ => False) (fun _ => False) (fun _ _ _ => False) (fun _ => False) (fun _ => False) (fun _ _ _ _ _ => False) False (fun _ _ _ => False) False (fun _ _ => False) (fun _ _ => n) (fun _ _ => True) True (fun _ _ _ _ => True) v

def wantS (ops : Array Oper) (o : Oper) : Wt := match o.guard with
  | none => ⟨fun _ y _ => y⟩
  | some (j, want) => match (ops[j]?).bind (·.dst) with
    | some d => ⟨fun T y n => kO ((getS d).fn T) fun v => isWant v n fun b => Bool.rec (motive := fun _ => Prop) n y (b == want)⟩
    | none => ⟨fun _ _ _ => False⟩

def kW (o : Option Bool) (y n : Prop) : Prop := match o with
  | some true => y
  | some false => n
  | none => False

theorem wantS_eq {T : FT} {M : Tm} (h : Sim T M) (ops : Array Oper) (o : Oper) (y n : Prop) : (wantS ops o).fn T y n = kW (wantA ops o M) y n := by
  unfold wantS wantA
  cases o.guard with
  | none => rfl
  | some jw =>
    obtain ⟨j, want⟩ := jw
    simp only
    cases (ops[j]?).bind (·.dst) with
    | none => rfl
    | some d =>
      show (kO ((getS d).fn T) fun v => isWant v n fun b => Bool.rec (motive := fun _ => Prop) n y (b == want)) = _
      rw [getS_eq, h d]
      simp only
      cases tget M d with
      | none => rfl
      | some v =>
        cases v <;> try rfl
        rename_i b
        show Bool.rec (motive := fun _ => Prop) n y (b == want) = kW (some (b == want)) y n
        cases b == want <;> rfl

structure Rg where
  f0 : CallC → FT → Hp → (FT → Hp → Prop) → Prop

def Rg.fn (X : Rg) (x0 : CallC) (x1 : FT) (x2 : Hp) (x3 : (FT → Hp → Prop)) : Prop := Rg.rec (motive := fun _ => Prop) (fun f => f x0 x1 x2 x3) X

theorem Rg.fn_mk (f : CallC → FT → Hp → (FT → Hp → Prop) → Prop) (x0 : CallC) (x1 : FT) (x2 : Hp) (x3 : (FT → Hp → Prop)) : (Rg.mk f).fn x0 x1 x2 x3 = f x0 x1 x2 x3 := rfl

def opsS (E : Env) (ops : Array Oper) : List Oper → Rg
  | [] => ⟨fun _ T h k => k T h⟩
  | o :: l => match o.guard with
    | none => (match opS E o, dstS o.dst with
      | ⟨p⟩, ⟨q⟩ => ⟨fun c T h k => p c h.nxt T h fun v h' => q T v fun T' => (opsS E ops l).fn c T' h' k⟩)
    | some _ => ⟨fun c T h k => (wantS ops o).fn T ((opS E o).fn c h.nxt T h fun v h' => (dstS o.dst).fn T v fun T' => (opsS E ops l).fn c T' h' k) ((dstS o.dst).fn T undefV fun T' => (opsS E ops l).fn c T' h k)⟩

/-- An operation, where its answer goes, and what follows. -/
theorem step_ok {E : Env} {o : Oper} {c : CallC} {call : Nat → List Value → Hp → Option (Value × Hp)} (hc : TwinC c call) {nm : Nat} {T : FT} {M : Tm} {h h0 : Hp} (hs : Sim T M) {α : Type} {R : α → Prop} {back : Hp → Hp} {next : FT → Hp → (α → Prop) → Prop} {good : Tm → Hp → α → Prop}
    (ih : ∀ T' M' h', Sim T' M' → ∃ r : Option α, (∀ k, next T' h' k = kO r k) ∧ ∀ p, r = some p → good M' h' p) :
    ∃ r : Option α, (∀ k, ((opS E o).fn c nm T h fun v h' => (dstS o.dst).fn T v fun T' => next T' (back h') k) = kO r k) ∧ ∀ p, r = some p → ∃ v h', xop E call nm o M h = some (v, h') ∧ good (tputD M o.dst v) (back h') p := by
  obtain ⟨r, h1, h2⟩ := opS_ok E o c call hc nm T M h hs
  cases r with
  | none => exact ⟨none, fun k => h1 _, fun p e => by cases e⟩
  | some vh =>
    obtain ⟨v, h'⟩ := vh
    obtain ⟨rd, g1, g2⟩ := dstS_ok hs o.dst v
    cases rd with
    | none => exact ⟨none, fun k => (h1 _).trans (g1 _), fun p e => by cases e⟩
    | some T' =>
      obtain ⟨rn, k1, k2⟩ := ih T' (tputD M o.dst v) (back h') (g2 T' rfl)
      exact ⟨rn, fun k => (h1 _).trans ((g1 _).trans (k1 k)), fun p e => ⟨v, h', h2 _ rfl, k2 p e⟩⟩

theorem skip_ok {o : Oper} {T : FT} {M : Tm} {h : Hp} (hs : Sim T M) {α : Type} {next : FT → Hp → (α → Prop) → Prop} {good : Tm → Hp → α → Prop}
    (ih : ∀ T' M' h', Sim T' M' → ∃ r : Option α, (∀ k, next T' h' k = kO r k) ∧ ∀ p, r = some p → good M' h' p) :
    ∃ r : Option α, (∀ k, ((dstS o.dst).fn T undefV fun T' => next T' h k) = kO r k) ∧ ∀ p, r = some p → good (tputD M o.dst undefV) h p := by
  obtain ⟨rd, g1, g2⟩ := dstS_ok hs o.dst undefV
  cases rd with
  | none => exact ⟨none, fun k => g1 _, fun p e => by cases e⟩
  | some T' =>
    obtain ⟨rn, k1, k2⟩ := ih T' (tputD M o.dst undefV) h (g2 T' rfl)
    exact ⟨rn, fun k => (g1 _).trans (k1 k), k2⟩

/-- Wanted or not. -/
theorem want_ok {ops : Array Oper} {o : Oper} {T : FT} {M : Tm} (hs : Sim T M) {α : Type} {A B : (α → Prop) → Prop} {g1 g2 : α → Prop}
    (hA : ∃ r : Option α, (∀ k, A k = kO r k) ∧ ∀ p, r = some p → g1 p) (hB : ∃ r : Option α, (∀ k, B k = kO r k) ∧ ∀ p, r = some p → g2 p) :
    ∃ r : Option α, (∀ k, (wantS ops o).fn T (A k) (B k) = kO r k) ∧ ∀ p, r = some p → (wantA ops o M = some true ∧ g1 p) ∨ (wantA ops o M = some false ∧ g2 p) := by
  obtain ⟨ra, a1, a2⟩ := hA
  obtain ⟨rb, b1, b2⟩ := hB
  cases hw : wantA ops o M with
  | none => exact ⟨none, fun k => by rw [wantS_eq hs, hw]; rfl, fun p e => by cases e⟩
  | some b =>
    cases b with
    | false => exact ⟨rb, fun k => by rw [wantS_eq hs, hw]; exact b1 k, fun p e => .inr ⟨rfl, b2 p e⟩⟩
    | true => exact ⟨ra, fun k => by rw [wantS_eq hs, hw]; exact a1 k, fun p e => .inl ⟨rfl, a2 p e⟩⟩

def kP {α β : Type} (k : α → β → Prop) (p : α × β) : Prop := k p.1 p.2

theorem opsS_ok (E : Env) (ops : Array Oper) {c : CallC} {call : Nat → List Value → Hp → Option (Value × Hp)} (hc : TwinC c call) : ∀ (l : List Oper) (T : FT) (M : Tm) (h : Hp), Sim T M →
    ∃ r : Option (FT × Hp), (∀ k : FT × Hp → Prop, (opsS E ops l).fn c T h (fun T h => k (T, h)) = kO r k) ∧ ∀ p, r = some p → ∃ M', xops E call ops l M h = some (M', p.2) ∧ Sim p.1 M'
  | [], T, M, h, hs => ⟨some (T, h), fun k => rfl, fun p e => by cases e; exact ⟨M, rfl, hs⟩⟩
  | o :: l, T, M, h, hs => by
    have ih := fun T' M' h' hs' => opsS_ok E ops hc l T' M' h' hs'
    have hA := step_ok (E := E) (o := o) hc (nm := h.nxt) (h := h) (h0 := h) hs (R := fun _ => True) (back := fun h => h) (next := fun T' h' k => (opsS E ops l).fn c T' h' fun T h => k (T, h)) (good := fun M' h' p => ∃ M'', xops E call ops l M' h' = some (M'', p.2) ∧ Sim p.1 M'') ih
    cases hg : o.guard with
    | none =>
      obtain ⟨r, h1, h2⟩ := hA
      refine ⟨r, fun k => ?_, fun p e => ?_⟩
      · simp only [Xo.fn_mk, Ds.fn_mk, Wt.fn_mk, Rg.fn_mk, opsS, hg]
        exact h1 k
      · obtain ⟨v, h', q1, M'', q2, q3⟩ := h2 p e
        refine ⟨M'', ?_, q3⟩
        simp only [xops, wantA, hg, q1]
        exact q2
    | some jw =>
      have hB := skip_ok (o := o) hs (h := h) (next := fun T' h' k => (opsS E ops l).fn c T' h' fun T h => k (T, h)) (good := fun M' h' p => ∃ M'', xops E call ops l M' h' = some (M'', p.2) ∧ Sim p.1 M'') ih
      obtain ⟨r, h1, h2⟩ := want_ok (ops := ops) (o := o) hs hA hB
      refine ⟨r, fun k => ?_, fun p e => ?_⟩
      · simp only [Xo.fn_mk, Ds.fn_mk, Wt.fn_mk, Rg.fn_mk, opsS, hg]
        exact h1 k
      · rcases h2 p e with ⟨w1, v, h', q1, M'', q2, q3⟩ | ⟨w1, M'', q2, q3⟩
        · refine ⟨M'', ?_, q3⟩
          simp only [xops, w1, q1]
          exact q2
        · refine ⟨M'', ?_, q3⟩
          simp only [xops, w1]
          exact q2

/- Statements whose order is open. -/

def noC : CallC := fun _ _ _ _ => False

theorem noC_ok : TwinC noC (fun _ _ _ => none) := fun _ _ _ _ => rfl

structure Pg where
  f0 : Nat → FT → Hp → (FT → Hp → Prop) → Prop

def Pg.fn (X : Pg) (x0 : Nat) (x1 : FT) (x2 : Hp) (x3 : (FT → Hp → Prop)) : Prop := Pg.rec (motive := fun _ => Prop) (fun f => f x0 x1 x2 x3) X

theorem Pg.fn_mk (f : Nat → FT → Hp → (FT → Hp → Prop) → Prop) (x0 : Nat) (x1 : FT) (x2 : Hp) (x3 : (FT → Hp → Prop)) : (Pg.mk f).fn x0 x1 x2 x3 = f x0 x1 x2 x3 := rfl

def preS (E : Env) (ops : Array Oper) : List Nat → Pg
  | [] => ⟨fun _ T h k => k T h⟩
  | i :: l => match ops[i]? with
    | none => ⟨fun _ _ _ _ => False⟩
    | some o => ⟨fun base T h k => getC h.m (base + i) fun e => Option.rec (motive := fun _ => Prop)
        ((wantS ops o).fn T ((opS E o).fn noC (base + i) T h fun v h' => (dstS o.dst).fn T v fun T' => (preS E ops l).fn base T' h' k) ((dstS o.dst).fn T undefV fun T' => (preS E ops l).fn base T' h k)) (fun _ => False) e⟩

theorem preS_ok (E : Env) (ops : Array Oper) (base : Nat) : ∀ (l : List Nat) (T : FT) (M : Tm) (h : Hp), Sim T M →
    ∃ r : Option (FT × Hp), (∀ k : FT × Hp → Prop, (preS E ops l).fn base T h (fun T h => k (T, h)) = kO r k) ∧ ∀ p, r = some p → ∃ M', xpre E ops base l M h = some (M', p.2) ∧ Sim p.1 M'
  | [], T, M, h, hs => ⟨some (T, h), fun k => rfl, fun p e => by cases e; exact ⟨M, rfl, hs⟩⟩
  | i :: l, T, M, h, hs => by
    have ih := fun T' M' h' hs' => preS_ok E ops base l T' M' h' hs'
    cases ho : ops[i]? with
    | none => exact ⟨none, fun k => by simp only [Xo.fn_mk, Ds.fn_mk, Wt.fn_mk, Rg.fn_mk, Pg.fn_mk, preS, ho]; rfl, fun p e => by cases e⟩
    | some o =>
      cases hm : tget h.m (base + i) with
      | some e => exact ⟨none, fun k => by simp only [Xo.fn_mk, Ds.fn_mk, Wt.fn_mk, Rg.fn_mk, Pg.fn_mk, preS, ho, getC_eq, hm]; rfl, fun p e => by cases e⟩
      | none =>
        have hA := step_ok (E := E) (o := o) noC_ok (nm := base + i) (h := h) (h0 := h) hs (R := fun _ => True) (back := fun h => h) (next := fun T' h' k => (preS E ops l).fn base T' h' fun T h => k (T, h)) (good := fun M' h' p => ∃ M'', xpre E ops base l M' h' = some (M'', p.2) ∧ Sim p.1 M'') ih
        have hB := skip_ok (o := o) hs (h := h) (next := fun T' h' k => (preS E ops l).fn base T' h' fun T h => k (T, h)) (good := fun M' h' p => ∃ M'', xpre E ops base l M' h' = some (M'', p.2) ∧ Sim p.1 M'') ih
        obtain ⟨r, h1, h2⟩ := want_ok (ops := ops) (o := o) hs hA hB
        refine ⟨r, fun k => ?_, fun p e => ?_⟩
        · simp only [Xo.fn_mk, Ds.fn_mk, Wt.fn_mk, Rg.fn_mk, Pg.fn_mk, preS, ho, getC_eq, hm]
          exact h1 k
        · rcases h2 p e with ⟨w1, v, h', q1, M'', q2, q3⟩ | ⟨w1, M'', q2, q3⟩
          · refine ⟨M'', ?_, q3⟩
            simp only [xpre, ho, hm, w1, q1]
            exact q2
          · refine ⟨M'', ?_, q3⟩
            simp only [xpre, ho, hm, w1]
            exact q2

structure Rc where
  f0 : Nat → FT → Hp → Prop → Prop

def Rc.fn (X : Rc) (x0 : Nat) (x1 : FT) (x2 : Hp) (x3 : Prop) : Prop := Rc.rec (motive := fun _ => Prop) (fun f => f x0 x1 x2 x3) X

theorem Rc.fn_mk (f : Nat → FT → Hp → Prop → Prop) (x0 : Nat) (x1 : FT) (x2 : Hp) (x3 : Prop) : (Rc.mk f).fn x0 x1 x2 x3 = f x0 x1 x2 x3 := rfl

def isT0 (v : Value) (k : Prop) : Prop :=
  Value.rec (motive_1 := fun _ => Prop) (motive_2 := fun _ => Prop) (motive_3 := fun _ => Prop) (fun _ => False) (fun _ _ => False) (fun _ _ => False) (fun _ _ _ => False) (fun _ => False) (fun _ => False) (fun _ _ _ => False) (fun _ => False) (fun _ => False) (fun _ _ _ _ _ => False) False (fun _ _ _ => False) False (fun _ _ => False) (fun a _ => iff1 (Nat.beq a.size 0) k) (fun _ _ => True) True (fun _ _ _ _ => True) v

def reS (E : Env) (ops : Array Oper) : List Nat → Rc
  | [] => ⟨fun _ _ _ k => k⟩
  | i :: l => match ops[i]? with
    | none => ⟨fun _ _ _ _ => False⟩
    | some o => match o.dst with
      | some d => ⟨fun base T h k => (wantS ops o).fn T ((opS E o).fn noC (base + i) T h fun v _ => kO ((getS d).fn T) fun u => iff1 (eqV u v) ((reS E ops l).fn base T h k)) (kO ((getS d).fn T) fun u => isT0 u ((reS E ops l).fn base T h k))⟩
      | none => ⟨fun base T h k => (wantS ops o).fn T ((opS E o).fn noC (base + i) T h fun _ _ => (reS E ops l).fn base T h k) ((reS E ops l).fn base T h k)⟩

theorem reS_ok (E : Env) (ops : Array Oper) (base : Nat) {T : FT} {M : Tm} {h : Hp} (hs : Sim T M) : ∀ l : List Nat,
    ∃ b : Bool, (∀ k, (reS E ops l).fn base T h k = iff1 b k) ∧ (b = true → xre E ops base M h l = true)
  | [] => ⟨true, fun k => rfl, fun _ => rfl⟩
  | i :: l => by
    obtain ⟨b, b1, b2⟩ := reS_ok E ops base (h := h) hs l
    cases ho : ops[i]? with
    | none => exact ⟨false, fun k => by simp only [Xo.fn_mk, Ds.fn_mk, Wt.fn_mk, Rg.fn_mk, Pg.fn_mk, Rc.fn_mk, reS, ho]; rfl, fun e => by cases e⟩
    | some o =>
      obtain ⟨r, h1, h2⟩ := opS_ok E o noC _ noC_ok (base + i) T M h hs
      cases hd : o.dst with
      | none =>
        have hsh : ∀ k, (reS E ops (i :: l)).fn base T h k = kW (wantA ops o M) (k2 r fun _ _ => iff1 b k) (iff1 b k) := by
          intro k
          simp only [Xo.fn_mk, Ds.fn_mk, Wt.fn_mk, Rg.fn_mk, Pg.fn_mk, Rc.fn_mk, reS, ho, hd]
          rw [wantS_eq hs, h1, b1]
        cases hw : wantA ops o M with
        | none => exact ⟨false, fun k => by rw [hsh, hw]; rfl, fun e => by cases e⟩
        | some q =>
          cases q with
          | false => exact ⟨b, fun k => by rw [hsh, hw]; rfl, fun e => by simp only [xre, ho, hw, hd]; exact b2 e⟩
          | true =>
            cases r with
            | none => exact ⟨false, fun k => by rw [hsh, hw]; rfl, fun e => by cases e⟩
            | some p => exact ⟨b, fun k => by rw [hsh, hw]; rfl, fun e => by simp only [xre, ho, hw, hd, h2 p rfl]; exact b2 e⟩
      | some d =>
        have hsh : ∀ k, (reS E ops (i :: l)).fn base T h k = kW (wantA ops o M) (k2 r fun v _ => kO (tget M d) fun u => iff1 (eqV u v) (iff1 b k)) (kO (tget M d) fun u => isT0 u (iff1 b k)) := by
          intro k
          simp only [Xo.fn_mk, Ds.fn_mk, Wt.fn_mk, Rg.fn_mk, Pg.fn_mk, Rc.fn_mk, reS, ho, hd]
          rw [wantS_eq hs, h1, b1, getS_eq, hs d]
        cases hw : wantA ops o M with
        | none => exact ⟨false, fun k => by rw [hsh, hw]; rfl, fun e => by cases e⟩
        | some q =>
          cases hu : tget M d with
          | none =>
            refine ⟨false, fun k => ?_, fun e => by cases e⟩
            rw [hsh, hw, hu]
            cases q
            · rfl
            · cases r <;> rfl
          | some u =>
            cases q with
            | false =>
              by_cases hv : ∃ a, u = .tuple a
              · obtain ⟨a, rfl⟩ := hv
                refine ⟨Nat.beq a.size 0 && b, fun k => ?_, fun e => ?_⟩
                · rw [hsh, hw, hu]
                  show iff1 (Nat.beq a.size 0) (iff1 b k) = _
                  cases Nat.beq a.size 0 <;> rfl
                · simp only [Bool.and_eq_true] at e
                  simp only [xre, ho, hw, hd, hu, e.1, Bool.true_and]
                  exact b2 e.2
              · refine ⟨false, fun k => ?_, fun e => by cases e⟩
                rw [hsh, hw, hu]
                show isT0 u (iff1 b k) = False
                cases u <;> try rfl
                rename_i a
                exact absurd ⟨a, rfl⟩ hv
            | true =>
              cases r with
              | none => exact ⟨false, fun k => by rw [hsh, hw]; rfl, fun e => by cases e⟩
              | some p =>
                refine ⟨eqV u p.1 && b, fun k => ?_, fun e => ?_⟩
                · rw [hsh, hw, hu]
                  show iff1 (eqV u p.1) (iff1 b k) = _
                  cases eqV u p.1 <;> rfl
                · simp only [Bool.and_eq_true] at e
                  have hp := h2 p rfl
                  simp only [xre, ho, hw, hd, hp, hu, e.1, Bool.true_and]
                  exact b2 e.2

structure Sg where
  f0 : CallC → Nat → FT → Hp → (FT → Hp → Prop) → Prop

def Sg.fn (X : Sg) (x0 : CallC) (x1 : Nat) (x2 : FT) (x3 : Hp) (x4 : (FT → Hp → Prop)) : Prop := Sg.rec (motive := fun _ => Prop) (fun f => f x0 x1 x2 x3 x4) X

theorem Sg.fn_mk (f : CallC → Nat → FT → Hp → (FT → Hp → Prop) → Prop) (x0 : CallC) (x1 : Nat) (x2 : FT) (x3 : Hp) (x4 : (FT → Hp → Prop)) : (Sg.mk f).fn x0 x1 x2 x3 x4 = f x0 x1 x2 x3 x4 := rfl

def stagesS (E : Env) (ops : Array Oper) : List Stage → Sg
  | [] => ⟨fun _ _ T h k => k T h⟩
  | s :: l => match s.loud with
    | none => (match l with
      | [] => ⟨fun _ base T h k => (reS E ops s.re).fn base T h ((preS E ops s.pre).fn base T h k)⟩
      | _ :: _ => ⟨fun _ _ _ _ _ => False⟩)
    | some i => match ops[i]? with
      | none => ⟨fun _ _ _ _ _ => False⟩
      | some o => ⟨fun c base T h k => (reS E ops s.re).fn base T h ((preS E ops s.pre).fn base T h fun T1 h1 =>
          (wantS ops o).fn T1 ((opS E o).fn c h1.nxt T1 ⟨hideAll base h1.m s.hide, h1.nxt⟩ fun v h2 => (dstS o.dst).fn T1 v fun T2 => (stagesS E ops l).fn c base T2 ⟨backAll base h1.m h2.m s.hide, h2.nxt⟩ k)
            ((dstS o.dst).fn T1 undefV fun T2 => (stagesS E ops l).fn c base T2 h1 k))⟩

theorem stagesS_ok (E : Env) (ops : Array Oper) {c : CallC} {call : Nat → List Value → Hp → Option (Value × Hp)} (hc : TwinC c call) (base : Nat) : ∀ (l : List Stage) (T : FT) (M : Tm) (h : Hp), Sim T M →
    ∃ r : Option (FT × Hp), (∀ k : FT × Hp → Prop, (stagesS E ops l).fn c base T h (fun T h => k (T, h)) = kO r k) ∧ ∀ p, r = some p → ∃ M', xstages E call ops base l M h = some (M', p.2) ∧ Sim p.1 M'
  | [], T, M, h, hs => ⟨some (T, h), fun k => rfl, fun p e => by cases e; exact ⟨M, rfl, hs⟩⟩
  | s :: l, T, M, h, hs => by
    have ih := fun T' M' h' hs' => stagesS_ok E ops hc base l T' M' h' hs'
    obtain ⟨b, b1, b2⟩ := reS_ok E ops base (h := h) hs s.re
    obtain ⟨rp, p1, p2⟩ := preS_ok E ops base s.pre T M h hs
    cases hl : s.loud with
    | none =>
      match l, ih with
      | _ :: _, _ => exact ⟨none, fun k => by simp only [Xo.fn_mk, Ds.fn_mk, Wt.fn_mk, Rg.fn_mk, Pg.fn_mk, Rc.fn_mk, Sg.fn_mk, stagesS, hl]; rfl, fun p e => by cases e⟩
      | [], _ =>
        cases b with
        | false => exact ⟨none, fun k => by simp only [Xo.fn_mk, Ds.fn_mk, Wt.fn_mk, Rg.fn_mk, Pg.fn_mk, Rc.fn_mk, Sg.fn_mk, stagesS, hl]; rw [b1]; rfl, fun p e => by cases e⟩
        | true =>
          refine ⟨rp, fun k => ?_, fun p e => ?_⟩
          · simp only [Xo.fn_mk, Ds.fn_mk, Wt.fn_mk, Rg.fn_mk, Pg.fn_mk, Rc.fn_mk, Sg.fn_mk, stagesS, hl]
            rw [b1, p1]
            rfl
          · obtain ⟨M', q1, q2⟩ := p2 p e
            refine ⟨M', ?_, q2⟩
            simp only [xstages, b2 rfl, cond_true, q1, hl]
    | some i =>
      cases ho : ops[i]? with
      | none => exact ⟨none, fun k => by simp only [Xo.fn_mk, Ds.fn_mk, Wt.fn_mk, Rg.fn_mk, Pg.fn_mk, Rc.fn_mk, Sg.fn_mk, stagesS, hl, ho]; rfl, fun p e => by cases e⟩
      | some o =>
        cases b with
        | false => exact ⟨none, fun k => by simp only [Xo.fn_mk, Ds.fn_mk, Wt.fn_mk, Rg.fn_mk, Pg.fn_mk, Rc.fn_mk, Sg.fn_mk, stagesS, hl, ho]; rw [b1]; rfl, fun p e => by cases e⟩
        | true =>
          cases rp with
          | none =>
            refine ⟨none, fun k => ?_, fun p e => by cases e⟩
            simp only [Xo.fn_mk, Ds.fn_mk, Wt.fn_mk, Rg.fn_mk, Pg.fn_mk, Rc.fn_mk, Sg.fn_mk, stagesS, hl, ho]
            rw [b1]
            exact p1 fun q => (wantS ops o).fn q.1 ((opS E o).fn c q.2.nxt q.1 ⟨hideAll base q.2.m s.hide, q.2.nxt⟩ fun v h2 => (dstS o.dst).fn q.1 v fun T2 => (stagesS E ops l).fn c base T2 ⟨backAll base q.2.m h2.m s.hide, h2.nxt⟩ fun T h => k (T, h)) ((dstS o.dst).fn q.1 undefV fun T2 => (stagesS E ops l).fn c base T2 q.2 fun T h => k (T, h))
          | some q =>
            obtain ⟨T1, h1⟩ := q
            obtain ⟨M1, m1, m2⟩ := p2 _ rfl
            have hA := step_ok (E := E) (o := o) hc (nm := h1.nxt) (h := ⟨hideAll base h1.m s.hide, h1.nxt⟩) (h0 := h1) m2 (R := fun _ => True) (back := fun h2 => ⟨backAll base h1.m h2.m s.hide, h2.nxt⟩) (next := fun T' h' k => (stagesS E ops l).fn c base T' h' fun T h => k (T, h)) (good := fun M' h' p => ∃ M'', xstages E call ops base l M' h' = some (M'', p.2) ∧ Sim p.1 M'') ih
            have hB := skip_ok (o := o) m2 (h := h1) (next := fun T' h' k => (stagesS E ops l).fn c base T' h' fun T h => k (T, h)) (good := fun M' h' p => ∃ M'', xstages E call ops base l M' h' = some (M'', p.2) ∧ Sim p.1 M'') ih
            obtain ⟨r, g1, g2⟩ := want_ok (ops := ops) (o := o) m2 hA hB
            refine ⟨r, fun k => ?_, fun p e => ?_⟩
            · simp only [Xo.fn_mk, Ds.fn_mk, Wt.fn_mk, Rg.fn_mk, Pg.fn_mk, Rc.fn_mk, Sg.fn_mk, stagesS, hl, ho]
              rw [b1]
              exact (p1 fun q => (wantS ops o).fn q.1 ((opS E o).fn c q.2.nxt q.1 ⟨hideAll base q.2.m s.hide, q.2.nxt⟩ fun v h2 => (dstS o.dst).fn q.1 v fun T2 => (stagesS E ops l).fn c base T2 ⟨backAll base q.2.m h2.m s.hide, h2.nxt⟩ fun T h => k (T, h)) ((dstS o.dst).fn q.1 undefV fun T2 => (stagesS E ops l).fn c base T2 q.2 fun T h => k (T, h))).trans (g1 k)
            · simp only at m1
              rcases g2 p e with ⟨w1, v, h', q1, M'', q2, q3⟩ | ⟨w1, M'', q2, q3⟩
              · refine ⟨M'', ?_, q3⟩
                simp only [xstages, b2 rfl, cond_true, m1, hl, ho, w1, q1]
                exact q2
              · refine ⟨M'', ?_, q3⟩
                simp only [xstages, b2 rfl, cond_true, m1, hl, ho, w1]
                exact q2

end Go.Ev
