/- The faster road: code and calls. -/
import Derived.Test.YtidjffabmhepeabEvFast3
set_option linter.unusedVariables false
set_option linter.unusedSimpArgs false
namespace Go.Ev
open Go.Deep Go.RowKit

structure Cl where
  f0 : CallC → FT → Hp → (FT → Hp → Prop) → (Nat → FT → Hp → Prop) → (FT → Hp → Prop) → Prop

def Cl.fn (X : Cl) (x0 : CallC) (x1 : FT) (x2 : Hp) (x3 : (FT → Hp → Prop)) (x4 : (Nat → FT → Hp → Prop)) (x5 : (FT → Hp → Prop)) : Prop := Cl.rec (motive := fun _ => Prop) (fun f => f x0 x1 x2 x3 x4 x5) X

theorem Cl.fn_mk (f : CallC → FT → Hp → (FT → Hp → Prop) → (Nat → FT → Hp → Prop) → (FT → Hp → Prop) → Prop) (x0 : CallC) (x1 : FT) (x2 : Hp) (x3 : (FT → Hp → Prop)) (x4 : (Nat → FT → Hp → Prop)) (x5 : (FT → Hp → Prop)) : (Cl.mk f).fn x0 x1 x2 x3 x4 x5 = f x0 x1 x2 x3 x4 x5 := rfl

def kX (o : Option (Exit × FT × Hp)) (kn : FT → Hp → Prop) (ke : Nat → FT → Hp → Prop) (kr : FT → Hp → Prop) : Prop := match o with
  | some (.normal, T, h) => kn T h
  | some (.exit i, T, h) => ke i T h
  | some (.ret, T, h) => kr T h
  | _ => False

def loopC (b : Cl) (c : CallC) (ke : Nat → FT → Hp → Prop) (kr : FT → Hp → Prop) (L : Nat) : FT → Hp → Prop :=
  Nat.rec (motive := fun _ => FT → Hp → Prop) (fun _ _ => False) (fun _ ih T h => b.fn c T h ih ke kr) L

def failS : Cl := ⟨fun _ _ _ _ _ _ => False⟩

def codeS (E : Env) (f L : Nat) : Code → Cl
  | .skip => ⟨fun _ T h kn _ _ => kn T h⟩
  | .seq a b => ⟨fun c T h kn ke kr => (codeS E f L a).fn c T h (fun T' h' => (codeS E f L b).fn c T' h' kn ke kr) ke kr⟩
  | .cond x a b => match opvS x with
    | ⟨p⟩ => ⟨fun c T h kn ke kr => kO (p T) fun v => isBool v False fun q => Bool.rec (motive := fun _ => Prop) ((codeS E f L b).fn c T h kn ke kr) ((codeS E f L a).fn c T h kn ke kr) q⟩
  | .block id b => ⟨fun c T h kn ke kr => (codeS E f L b).fn c T h kn (fun i T' h' => Bool.rec (motive := fun _ => Prop) (ke i T' h') (kn T' h') (Nat.beq i id)) kr⟩
  | .loop b => ⟨fun c T h _ ke kr => loopC (codeS E f L b) c ke kr L T h⟩
  | .exit id => ⟨fun _ T h _ ke _ => ke id T h⟩
  | .ret => ⟨fun _ T h _ _ kr => kr T h⟩
  | .region id ops draw => bif draw then
      (match tget E.pp f with
      | none => failS
      | some pf => match tget pf id with
        | none => failS
        | some st => ⟨fun c T h kn _ _ => (stagesS E ops st).fn c h.nxt T ⟨h.m, h.nxt + ops.size⟩ kn⟩)
    else ⟨fun c T h kn _ _ => (opsS E ops ops.toList).fn c T h kn⟩
  | _ => failS

/-- From these slots and that memory the code comes to those, so ended. -/
def Lead (E : Env) (c : Code) (N : Nat) (M : Tm) (h : Hp) (x : Exit) (M' : Tm) (h' : Hp) : Prop :=
  ∀ θ a w Q, TR θ M a → N ≤ a.tmps.size → HR θ h w →
    (∀ θ' a' w', Ext h.nxt θ h w θ' h' w' → HR θ' h' w' → TR θ' M' a' → a'.tmps.size = a.tmps.size → Q x a' w') → LW E.P c Q a w

def ClOk (E : Env) (c : CallC) (N : Nat) (code : Code) (C : Cl) : Prop := ∀ T M h, Sim T M →
  ∃ r : Option (Exit × FT × Hp), (∀ kn ke kr, C.fn c T h kn ke kr = kX r kn ke kr) ∧ ∀ x T' h', r = some (x, T', h') → ∃ M', Sim T' M' ∧ Lead E code N M h x M' h'

theorem failS_ok (E : Env) (c : CallC) (N : Nat) (code : Code) : ClOk E c N code failS := fun _ _ _ _ => ⟨none, fun _ _ _ => rfl, fun _ _ _ e => by cases e⟩

theorem loop_ok {E : Env} {c : CallC} {N : Nat} {code : Code} {C : Cl} (hC : ClOk E c N code C) : ∀ (L : Nat) (T : FT) (M : Tm) (h : Hp), Sim T M →
    ∃ r : Option (Exit × FT × Hp), (∀ kn ke kr, loopC C c ke kr L T h = kX r kn ke kr) ∧ ∀ x T' h', r = some (x, T', h') → ∃ M', Sim T' M' ∧ Lead E (.loop code) N M h x M' h'
  | 0, T, M, h, hs => ⟨none, fun _ _ _ => rfl, fun _ _ _ e => by cases e⟩
  | L + 1, T, M, h, hs => by
    obtain ⟨r, h1, h2⟩ := hC T M h hs
    have hsh : ∀ ke kr, loopC C c ke kr (L + 1) T h = kX r (loopC C c ke kr L) ke kr := fun ke kr => h1 _ _ _
    match r, h2, hsh with
    | none, _, hsh => exact ⟨none, fun kn ke kr => hsh ke kr, fun _ _ _ e => by cases e⟩
    | some (.normal, T1, h1'), h2, hsh =>
      obtain ⟨M1, s1, l1⟩ := h2 _ _ _ rfl
      obtain ⟨r2, g1, g2⟩ := loop_ok hC L T1 M1 h1' s1
      refine ⟨r2, fun kn ke kr => (hsh ke kr).trans (g1 kn ke kr), fun x T' h' e => ?_⟩
      obtain ⟨M', s2, l2⟩ := g2 x T' h' e
      refine ⟨M', s2, fun θ a w Q ht hN hr hQ => ?_⟩
      show InLoop E.P code Q a w
      refine InLoop.once ?_
      refine (l1 θ a w _ ht hN hr fun θ1 a1 w1 e1 r1 t1 q1 => ?_).wp
      exact l2 θ1 a1 w1 Q t1 (by rw [q1]; exact hN) r1 fun θ2 a2 w2 e2 r2 t2 q2 => hQ θ2 a2 w2 (e1.trans e2 (fun n hn _ e => by have := e1.nxt; omega)) r2 t2 (by rw [q2, q1])
    | some (.exit i, T1, h1'), h2, hsh =>
      obtain ⟨M1, s1, l1⟩ := h2 _ _ _ rfl
      refine ⟨some (.exit i, T1, h1'), fun kn ke kr => hsh ke kr, fun x T' h' e => ?_⟩
      cases e
      refine ⟨M1, s1, fun θ a w Q ht hN hr hQ => ?_⟩
      show InLoop E.P code Q a w
      refine InLoop.once ?_
      refine (l1 θ a w _ ht hN hr fun θ1 a1 w1 e1 r1 t1 q1 => ?_).wp
      exact hQ θ1 a1 w1 e1 r1 t1 q1
    | some (.ret, T1, h1'), h2, hsh =>
      obtain ⟨M1, s1, l1⟩ := h2 _ _ _ rfl
      refine ⟨some (.ret, T1, h1'), fun kn ke kr => hsh ke kr, fun x T' h' e => ?_⟩
      cases e
      refine ⟨M1, s1, fun θ a w Q ht hN hr hQ => ?_⟩
      show InLoop E.P code Q a w
      refine InLoop.once ?_
      refine (l1 θ a w _ ht hN hr fun θ1 a1 w1 e1 r1 t1 q1 => ?_).wp
      exact hQ θ1 a1 w1 e1 r1 t1 q1
    | some (.goto _, T1, h1'), _, hsh => exact ⟨none, fun kn ke kr => hsh ke kr, fun _ _ _ e => by cases e⟩
    | some (.panic _, T1, h1'), _, hsh => exact ⟨none, fun kn ke kr => hsh ke kr, fun _ _ _ e => by cases e⟩
    | some (.outgrown, T1, h1'), _, hsh => exact ⟨none, fun kn ke kr => hsh ke kr, fun _ _ _ e => by cases e⟩

theorem codeS_ok {E : Env} (hE : EnvOk E) {c : CallC} {call : Nat → List Value → Hp → Option (Value × Hp)} (hc : TwinC c call) (hcall : ∀ h, CallAt E.P call h.nxt h) {f L N : Nat} : ∀ code : Code, codeOk E f N code = true → ClOk E c N code (codeS E f L code) := by
  intro code
  induction code with
  | skip => exact fun _ T M h hs => ⟨some (.normal, T, h), fun _ _ _ => rfl, fun x T' h' e => by cases e; exact ⟨M, hs, fun θ a w Q ht hN hr hQ => wp_skip (hQ θ a w (Ext.refl _ _ _ _) hr ht rfl)⟩⟩
  | exit id => exact fun _ T M h hs => ⟨some (.exit id, T, h), fun _ _ _ => rfl, fun x T' h' e => by cases e; exact ⟨M, hs, fun θ a w Q ht hN hr hQ => wp_exit (hQ θ a w (Ext.refl _ _ _ _) hr ht rfl)⟩⟩
  | ret => exact fun _ T M h hs => ⟨some (.ret, T, h), fun _ _ _ => rfl, fun x T' h' e => by cases e; exact ⟨M, hs, fun θ a w Q ht hN hr hQ => wp_ret (hQ θ a w (Ext.refl _ _ _ _) hr ht rfl)⟩⟩
  | seq c1 c2 i1 i2 =>
    intro hk T M h hs
    simp only [codeOk, Bool.and_eq_true] at hk
    obtain ⟨r, h1, h2⟩ := i1 hk.1 T M h hs
    have hsh : ∀ kn ke kr, (codeS E f L (.seq c1 c2)).fn c T h kn ke kr = kX r (fun T' h' => (codeS E f L c2).fn c T' h' kn ke kr) ke kr := fun kn ke kr => h1 _ _ _
    match r, h2, hsh with
    | none, _, hsh => exact ⟨none, hsh, fun _ _ _ e => by cases e⟩
    | some (.normal, T1, h1'), h2, hsh =>
      obtain ⟨M1, s1, l1⟩ := h2 _ _ _ rfl
      obtain ⟨r2, g1, g2⟩ := i2 hk.2 T1 M1 h1' s1
      refine ⟨r2, fun kn ke kr => (hsh kn ke kr).trans (g1 kn ke kr), fun x T' h' e => ?_⟩
      obtain ⟨M', s2, l2⟩ := g2 x T' h' e
      refine ⟨M', s2, fun θ a w Q ht hN hr hQ => ?_⟩
      refine wp_seq ?_
      refine (l1 θ a w _ ht hN hr fun θ1 a1 w1 e1 r1 t1 q1 => ?_).wp
      refine (l2 θ1 a1 w1 _ t1 (by rw [q1]; exact hN) r1 fun θ2 a2 w2 e2 r2 t2 q2 => ?_).wp
      exact hQ θ2 a2 w2 (e1.trans e2 (fun n hn _ e => by have := e1.nxt; omega)) r2 t2 (by rw [q2, q1])
    | some (.exit i, T1, h1'), h2, hsh =>
      obtain ⟨M1, s1, l1⟩ := h2 _ _ _ rfl
      refine ⟨some (.exit i, T1, h1'), hsh, fun x T' h' e => ?_⟩
      cases e
      refine ⟨M1, s1, fun θ a w Q ht hN hr hQ => wp_seq ?_⟩
      refine (l1 θ a w _ ht hN hr fun θ1 a1 w1 e1 r1 t1 q1 => ?_).wp
      exact hQ θ1 a1 w1 e1 r1 t1 q1
    | some (.ret, T1, h1'), h2, hsh =>
      obtain ⟨M1, s1, l1⟩ := h2 _ _ _ rfl
      refine ⟨some (.ret, T1, h1'), hsh, fun x T' h' e => ?_⟩
      cases e
      refine ⟨M1, s1, fun θ a w Q ht hN hr hQ => wp_seq ?_⟩
      refine (l1 θ a w _ ht hN hr fun θ1 a1 w1 e1 r1 t1 q1 => ?_).wp
      exact hQ θ1 a1 w1 e1 r1 t1 q1
    | some (.goto _, T1, h1'), _, hsh => exact ⟨none, hsh, fun _ _ _ e => by cases e⟩
    | some (.panic _, T1, h1'), _, hsh => exact ⟨none, hsh, fun _ _ _ e => by cases e⟩
    | some (.outgrown, T1, h1'), _, hsh => exact ⟨none, hsh, fun _ _ _ e => by cases e⟩
  | cond x c1 c2 i1 i2 =>
    intro hk T M h hs
    simp only [codeOk, Bool.and_eq_true] at hk
    have hsh : ∀ kn ke kr, (codeS E f L (.cond x c1 c2)).fn c T h kn ke kr = kO (opv M x) fun v => isBool v False fun q => Bool.rec (motive := fun _ => Prop) ((codeS E f L c2).fn c T h kn ke kr) ((codeS E f L c1).fn c T h kn ke kr) q := by
      intro kn ke kr
      show (kO ((opvS x).fn T) fun v => isBool v False fun q => Bool.rec (motive := fun _ => Prop) ((codeS E f L c2).fn c T h kn ke kr) ((codeS E f L c1).fn c T h kn ke kr) q) = _
      rw [opvS_eq hs]
    cases hx : opv M x with
    | none => exact ⟨none, fun kn ke kr => by rw [hsh, hx]; rfl, fun _ _ _ e => by cases e⟩
    | some v =>
      by_cases hv : ∃ b, v = .bool b
      · obtain ⟨b, rfl⟩ := hv
        cases b with
        | true =>
          obtain ⟨r, h1, h2⟩ := i1 hk.1 T M h hs
          refine ⟨r, fun kn ke kr => by rw [hsh, hx]; exact h1 kn ke kr, fun x' T' h' e => ?_⟩
          obtain ⟨M', s1, l1⟩ := h2 x' T' h' e
          exact ⟨M', s1, fun θ a w Q ht hN hr hQ => wp_cond_true (opv_W ht hx) (l1 θ a w _ ht hN hr hQ).wp⟩
        | false =>
          obtain ⟨r, h1, h2⟩ := i2 hk.2 T M h hs
          refine ⟨r, fun kn ke kr => by rw [hsh, hx]; exact h1 kn ke kr, fun x' T' h' e => ?_⟩
          obtain ⟨M', s1, l1⟩ := h2 x' T' h' e
          exact ⟨M', s1, fun θ a w Q ht hN hr hQ => wp_cond_false (opv_W ht hx) (l1 θ a w _ ht hN hr hQ).wp⟩
      · refine ⟨none, fun kn ke kr => ?_, fun _ _ _ e => by cases e⟩
        rw [hsh, hx]
        exact isBool_else (fun b e => hv ⟨b, e⟩) _ _
  | block id b ib =>
    intro hk T M h hs
    simp only [codeOk] at hk
    obtain ⟨r, h1, h2⟩ := ib hk T M h hs
    have hsh : ∀ kn ke kr, (codeS E f L (.block id b)).fn c T h kn ke kr = kX r kn (fun i T' h' => Bool.rec (motive := fun _ => Prop) (ke i T' h') (kn T' h') (Nat.beq i id)) kr := fun kn ke kr => h1 _ _ _
    match r, h2, hsh with
    | none, _, hsh => exact ⟨none, hsh, fun _ _ _ e => by cases e⟩
    | some (.normal, T1, h1'), h2, hsh =>
      obtain ⟨M1, s1, l1⟩ := h2 _ _ _ rfl
      refine ⟨some (.normal, T1, h1'), hsh, fun x T' h' e => ?_⟩
      cases e
      refine ⟨M1, s1, fun θ a w Q ht hN hr hQ => wp_block ?_⟩
      refine (l1 θ a w _ ht hN hr fun θ1 a1 w1 e1 r1 t1 q1 => ?_).wp
      exact hQ θ1 a1 w1 e1 r1 t1 q1
    | some (.exit i, T1, h1'), h2, hsh =>
      obtain ⟨M1, s1, l1⟩ := h2 _ _ _ rfl
      cases hb : Nat.beq i id with
      | true =>
        refine ⟨some (.normal, T1, h1'), fun kn ke kr => (hsh kn ke kr).trans ?_, fun x T' h' e => ?_⟩
        · show Bool.rec (motive := fun _ => Prop) (ke i T1 h1') (kn T1 h1') (Nat.beq i id) = _
          rw [hb]; rfl
        · cases e
          refine ⟨M1, s1, fun θ a w Q ht hN hr hQ => wp_block ?_⟩
          refine (l1 θ a w _ ht hN hr fun θ1 a1 w1 e1 r1 t1 q1 => ?_).wp
          simp only [Exit.inBlock]
          rw [if_pos (Nat.eq_of_beq_eq_true hb)]
          exact hQ θ1 a1 w1 e1 r1 t1 q1
      | false =>
        refine ⟨some (.exit i, T1, h1'), fun kn ke kr => (hsh kn ke kr).trans ?_, fun x T' h' e => ?_⟩
        · show Bool.rec (motive := fun _ => Prop) (ke i T1 h1') (kn T1 h1') (Nat.beq i id) = _
          rw [hb]; rfl
        · cases e
          refine ⟨M1, s1, fun θ a w Q ht hN hr hQ => wp_block ?_⟩
          refine (l1 θ a w _ ht hN hr fun θ1 a1 w1 e1 r1 t1 q1 => ?_).wp
          simp only [Exit.inBlock]
          rw [if_neg (beq_ne hb)]
          exact hQ θ1 a1 w1 e1 r1 t1 q1
    | some (.ret, T1, h1'), h2, hsh =>
      obtain ⟨M1, s1, l1⟩ := h2 _ _ _ rfl
      refine ⟨some (.ret, T1, h1'), hsh, fun x T' h' e => ?_⟩
      cases e
      refine ⟨M1, s1, fun θ a w Q ht hN hr hQ => wp_block ?_⟩
      refine (l1 θ a w _ ht hN hr fun θ1 a1 w1 e1 r1 t1 q1 => ?_).wp
      exact hQ θ1 a1 w1 e1 r1 t1 q1
    | some (.goto _, T1, h1'), _, hsh => exact ⟨none, hsh, fun _ _ _ e => by cases e⟩
    | some (.panic _, T1, h1'), _, hsh => exact ⟨none, hsh, fun _ _ _ e => by cases e⟩
    | some (.outgrown, T1, h1'), _, hsh => exact ⟨none, hsh, fun _ _ _ e => by cases e⟩
  | loop b ib =>
    intro hk T M h hs
    simp only [codeOk] at hk
    exact loop_ok (ib hk) L T M h hs
  | region id ops draw =>
    intro hk T M h hs
    simp only [codeOk, Bool.and_eq_true] at hk
    cases draw with
    | false =>
      obtain ⟨r, h1, h2⟩ := opsS_ok E ops hc ops.toList T M h hs
      cases r with
      | none => exact ⟨none, fun kn ke kr => h1 (kP kn), fun _ _ _ e => by cases e⟩
      | some p =>
        obtain ⟨M', q1, q2⟩ := h2 p rfl
        refine ⟨some (.normal, p.1, p.2), fun kn ke kr => h1 (kP kn), fun x T' h' e => ?_⟩
        cases e
        exact ⟨M', q2, fun θ a w Q ht hN hr hQ => region_sound hE.tt hcall q1 hk.1 ht hN hr hQ⟩
    | true =>
      simp only [Xo.fn_mk, Ds.fn_mk, Wt.fn_mk, Rg.fn_mk, Pg.fn_mk, Rc.fn_mk, Sg.fn_mk, Cl.fn_mk, codeS, cond_true]
      cases hpf : tget E.pp f with
      | none => exact failS_ok E c N _ T M h hs
      | some pf =>
        simp only
        cases hst : tget pf id with
        | none => exact failS_ok E c N _ T M h hs
        | some st =>
          have hpl := hk.2
          simp only [cond_true, hpf, hst] at hpl
          obtain ⟨r, h1, h2⟩ := stagesS_ok E ops hc h.nxt st T M ⟨h.m, h.nxt + ops.size⟩ hs
          cases r with
          | none => exact ⟨none, fun kn ke kr => h1 (kP kn), fun _ _ _ e => by cases e⟩
          | some p =>
            obtain ⟨M', q1, q2⟩ := h2 p rfl
            refine ⟨some (.normal, p.1, p.2), fun kn ke kr => h1 (kP kn), fun x T' h' e => ?_⟩
            cases e
            exact ⟨M', q2, fun θ a w Q ht hN hr hQ => draw_sound hE.tt hE.mixed hcall q1 hpl hk.1 ht hN hr hQ⟩
  | _ => exact fun _ => failS_ok E c N _

/- Calls. -/

def argsC (l : List Value) : FT → Nat → (FT → Prop) → Prop :=
  List.rec (motive := fun _ => FT → Nat → (FT → Prop) → Prop) (fun T _ k => k T) (fun v _ ih T i k => (setS i).fn T (some v) fun T' => ih T' (Nat.succ i) k) l

theorem argsC_ok : ∀ (l : List Value) (T : FT) (M : Tm) (i : Nat), Sim T M → ∃ r : Option FT, (∀ k, argsC l T i k = kO r k) ∧ ∀ T', r = some T' → Sim T' (args0 M i l)
  | [], T, M, i, hs => ⟨some T, fun k => rfl, fun T' e => by cases e; exact hs⟩
  | v :: l, T, M, i, hs => by
    cases hb : Nat.blt i 512 with
    | false =>
      refine ⟨none, fun k => ?_, fun T' e => by cases e⟩
      show ((setS i).fn T (some v) fun T' => argsC l T' (i + 1) k) = _
      rw [setS_eq, hb]; rfl
    | true =>
      obtain ⟨r, h1, h2⟩ := argsC_ok l (setF T (some v) i) (tset M i (some v)) (i + 1) (hs.put (blt_lt hb) _)
      refine ⟨r, fun k => ?_, h2⟩
      show ((setS i).fn T (some v) fun T' => argsC l T' (i + 1) k) = _
      rw [setS_eq, hb]
      exact h1 k

structure Rs where
  f0 : FT → Hp → (Value → Prop) → Prop

def Rs.fn (X : Rs) (x0 : FT) (x1 : Hp) (x2 : (Value → Prop)) : Prop := Rs.rec (motive := fun _ => Prop) (fun f => f x0 x1 x2) X

theorem Rs.fn_mk (f : FT → Hp → (Value → Prop) → Prop) (x0 : FT) (x1 : Hp) (x2 : (Value → Prop)) : (Rs.mk f).fn x0 x1 x2 = f x0 x1 x2 := rfl

def resS (E : Env) (rs : List ResultVar) : Rs := match rs with
  | [.tmp t] => ⟨fun T _ k => kO ((getS t).fn T) k⟩
  | _ => ⟨fun T h k => kO (resA (rhoS T) h E rs) fun vs => kO (oneOf vs) k⟩

theorem resS_ok (E : Env) {T : FT} {M : Tm} (hs : Sim T M) (h : Hp) (rs : List ResultVar) : ∃ r : Option Value, (∀ k, (resS E rs).fn T h k = kO r k) ∧ ∀ v, r = some v → ∃ vs, resA (opv M) h E rs = some vs ∧ oneOf vs = some v := by
  unfold resS
  split
  · rename_i t
    refine ⟨tget M t, fun k => ?_, fun v e => ⟨[v], ?_, rfl⟩⟩
    · show kO ((getS t).fn T) k = _
      rw [getS_eq, hs t]
    · simp only [resA, opv, e]
  · refine ⟨ob (resA (opv M) h E rs) oneOf, fun k => ?_, fun v e => ?_⟩
    · show (kO (resA (rhoS T) h E rs) fun vs => kO (oneOf vs) k) = _
      rw [rhoS_eq hs]
      cases resA (opv M) h E rs <;> rfl
    · exact ob_some e

structure Fk where
  f0 : CallC → List Value → Hp → (Value → Hp → Prop) → Prop

def Fk.fn (X : Fk) (x0 : CallC) (x1 : List Value) (x2 : Hp) (x3 : (Value → Hp → Prop)) : Prop := Fk.rec (motive := fun _ => Prop) (fun f => f x0 x1 x2 x3) X

theorem Fk.fn_mk (f : CallC → List Value → Hp → (Value → Hp → Prop) → Prop) (x0 : CallC) (x1 : List Value) (x2 : Hp) (x3 : (Value → Hp → Prop)) : (Fk.mk f).fn x0 x1 x2 x3 = f x0 x1 x2 x3 := rfl

def fnS (E : Env) (L g : Nat) : Fk := match tget E.ff g with
  | none => ⟨fun _ args h k => k2 (xext E g args h) k⟩
  | some fn => match fn.body with
    | none => ⟨fun _ _ _ _ => False⟩
    | some b => ⟨fun c args h k => argsC args zeroF 0 fun T => (codeS E g L b).fn c T h (fun T' h' => (resS E fn.results.toList).fn T' h' fun r => k r h') (fun _ _ _ => False) (fun T' h' => (resS E fn.results.toList).fn T' h' fun r => k r h')⟩

def callK (E : Env) (L D : Nat) : CallC :=
  Nat.rec (motive := fun _ => CallC) (fun _ _ _ _ => False) (fun _ ih g args h k => (fnS E L g).fn ih args h k) D

/-- What a call's answer must be. -/
def CallsTo (P : Program) (g : Nat) (args : List Value) (h : Hp) (r : Value) (h' : Hp) : Prop := ∀ θ w cargs, HR θ h w → all2 (W θ) args cargs →
    ((callFunc g cargs.toArray).run P w = .ok (.enter g cargs.toArray) w ∧ Calls P g cargs.toArray w (fun e w' => ∃ θ' u, e = .returned u ∧ Ext h.nxt θ h w θ' h' w' ∧ HR θ' h' w' ∧ W θ' r u)) ∨
    (∃ u, (callFunc g cargs.toArray).run P w = .ok (.value u) w ∧ W θ r u ∧ h' = h)

theorem fnS_ok {E : Env} (hE : EnvOk E) {c : CallC} {call : Nat → List Value → Hp → Option (Value × Hp)} (hc : TwinC c call) (hcall : ∀ h, CallAt E.P call h.nxt h) (L g : Nat) (args : List Value) (h : Hp) :
    ∃ r : Option (Value × Hp), (∀ k, (fnS E L g).fn c args h k = k2 r k) ∧ ∀ p, r = some p → CallsTo E.P g args h p.1 p.2 := by
  unfold fnS
  cases hfn : tget E.ff g with
  | none =>
    refine ⟨xext E g args h, fun k => rfl, fun p e => ?_⟩
    have hx : callA E (fun _ _ _ _ => none) g args h = some (p.1, p.2) := by
      simp only [callA, hfn]
      exact e
    exact fun θ w cargs hr ha => call_sound hE (fun c f N T h x T' h' q => by cases q) h g args p.1 p.2 hx θ w cargs hr ha
  | some fn =>
    obtain ⟨f1, f2, b, f3, f4⟩ := hE.ff g fn hfn
    simp only [f3]
    obtain ⟨ra, a1, a2⟩ := argsC_ok args zeroF .nil 0 zero_sim
    cases ra with
    | none => exact ⟨none, fun k => a1 _, fun p e => by cases e⟩
    | some T =>
      have hs := a2 T rfl
      obtain ⟨rc, c1, c2⟩ := codeS_ok hE hc hcall (L := L) b f4 T (args0 .nil 0 args) h hs
      have hsh : ∀ k : Value → Hp → Prop, (argsC args zeroF 0 fun T => (codeS E g L b).fn c T h (fun T' h' => (resS E fn.results.toList).fn T' h' fun r => k r h') (fun _ _ _ => False) (fun T' h' => (resS E fn.results.toList).fn T' h' fun r => k r h')) = kX rc (fun T' h' => (resS E fn.results.toList).fn T' h' fun r => k r h') (fun _ _ _ => False) (fun T' h' => (resS E fn.results.toList).fn T' h' fun r => k r h') := fun k => (a1 _).trans (c1 _ _ _)
      have f2' : ¬ fn.name = "runtime.NumGoroutine" := fun e => by rw [e] at f2; simp at f2
      have fin : ∀ x T' h' v, rc = some (x, T', h') → (x = .normal ∨ x = .ret) → (∀ M', Sim T' M' → ∃ vs, resA (opv M') h' E fn.results.toList = some vs ∧ oneOf vs = some v) → CallsTo E.P g args h v h' := by
        intro x T' h' v e hx hres θ w cargs hr ha
        obtain ⟨M', s1, l1⟩ := c2 x T' h' e
        refine .inl ⟨by simp [callFunc, f1, f2', f3], ?_⟩
        refine calls_of_wp f1 f3 ?_
        have hsz : fn.ntmps ≤ (cargs.toArray ++ Array.replicate (fn.ntmps - cargs.toArray.size) undef).size := by simp; omega
        obtain ⟨vs, k1, k3⟩ := hres M' s1
        rcases hx with rfl | rfl
        · refine (l1 θ _ w _ (args_TR ha _) hsz hr fun θ' a' w' e1 r1 t1 _ => ?_).wp
          obtain ⟨u, q1, q2⟩ := results_sound hE.tt r1 t1 k1 k3
          exact ⟨t1.defers, u, q1, θ', u, rfl, e1, r1, q2⟩
        · refine (l1 θ _ w _ (args_TR ha _) hsz hr fun θ' a' w' e1 r1 t1 _ => ?_).wp
          obtain ⟨u, q1, q2⟩ := results_sound hE.tt r1 t1 k1 k3
          exact ⟨t1.defers, u, q1, θ', u, rfl, e1, r1, q2⟩
      have half : ∀ x T' h', rc = some (x, T', h') → (x = .normal ∨ x = .ret) → ∃ r : Option (Value × Hp), (∀ k : Value → Hp → Prop, ((resS E fn.results.toList).fn T' h' fun r => k r h') = k2 r k) ∧ ∀ p, r = some p → CallsTo E.P g args h p.1 p.2 := by
        intro x T' h' e hx
        obtain ⟨M1, s1, _⟩ := c2 x T' h' e
        obtain ⟨rr, r1, r2⟩ := resS_ok E s1 h' fn.results.toList
        cases rr with
        | none => exact ⟨none, fun k => r1 _, fun p q => by cases q⟩
        | some v =>
          refine ⟨some (v, h'), fun k => r1 _, fun p q => ?_⟩
          cases q
          refine fin x T' h' v e hx fun M' s' => ?_
          obtain ⟨rr', r1', r2'⟩ := resS_ok E s' h' fn.results.toList
          have hrr : rr' = some v := by
            cases rr' with
            | none =>
              have e1 := r1 fun _ => True
              have e2 := r1' fun _ => True
              rw [e1] at e2
              exact absurd (show kO (some v) fun _ => True from trivial) (by rw [e2]; exact id)
            | some v' =>
              have e1 := r1 fun y => y = v
              have e2 := r1' fun y => y = v
              rw [e1] at e2
              have : (kO (some v') fun y => y = v) := by rw [← e2]; exact (rfl : v = v)
              have h3 : v' = v := this
              rw [h3]
          exact r2' v hrr
      match rc, half, hsh with
      | none, _, hsh => exact ⟨none, hsh, fun p q => by cases q⟩
      | some (.normal, T', h'), half, hsh =>
        obtain ⟨r, g1, g2⟩ := half _ _ _ rfl (.inl rfl)
        exact ⟨r, fun k => (hsh k).trans (g1 k), g2⟩
      | some (.ret, T', h'), half, hsh =>
        obtain ⟨r, g1, g2⟩ := half _ _ _ rfl (.inr rfl)
        exact ⟨r, fun k => (hsh k).trans (g1 k), g2⟩
      | some (.exit i, T', h'), _, hsh => exact ⟨none, hsh, fun p q => by cases q⟩
      | some (.goto _, T', h'), _, hsh => exact ⟨none, hsh, fun p q => by cases q⟩
      | some (.panic _, T', h'), _, hsh => exact ⟨none, hsh, fun p q => by cases q⟩
      | some (.outgrown, T', h'), _, hsh => exact ⟨none, hsh, fun p q => by cases q⟩

theorem callK_ok {E : Env} (hE : EnvOk E) (L : Nat) : ∀ D, ∃ call, TwinC (callK E L D) call ∧ ∀ h, CallAt E.P call h.nxt h
  | 0 => ⟨fun _ _ _ => none, fun _ _ _ _ => rfl, fun h g args r h' e => by cases e⟩
  | D + 1 => by
    obtain ⟨call, hc, hcall⟩ := callK_ok hE L D
    have H := fun g args h => fnS_ok hE hc hcall L g args h
    refine ⟨fun g args h => Classical.choose (H g args h), fun g args h k => (Classical.choose_spec (H g args h)).1 k, fun h g args r h' e => ?_⟩
    exact (Classical.choose_spec (H g args h)).2 (r, h') e

/-- True it is. -/
def kTrue (v : Value) (_ : Hp) : Prop := isBool v False fun b => Bool.rec (motive := fun _ => Prop) False True b

theorem law_fast {E : Env} (hE : EnvOk E) {L D g : Nat} {fn : Func} (hfn : tget E.ff g = some fn) (hx : callK E L D g [] ⟨.nil, 0⟩ kTrue = True) (w : World) :
    Calls E.P g #[] w fun e w' => e = .returned (.bool true) ∧ Below w.heap.size w w' := by
  obtain ⟨call, hc, hcall⟩ := callK_ok hE L D
  rw [hc] at hx
  cases hr : call g [] ⟨.nil, 0⟩ with
  | none => rw [hr] at hx; exact absurd (hx ▸ trivial : (k2 (none : Option (Value × Hp)) kTrue)) id
  | some p =>
    rw [hr] at hx
    have hp : p.1 = .bool true := by
      have h1 : kTrue p.1 p.2 := by
        have : k2 (some p) kTrue := by rw [hx]; trivial
        exact this
      obtain ⟨v, h⟩ := p
      cases v <;> try exact False.elim h1
      rename_i b
      cases b
      · exact False.elim h1
      · rfl
    have hh : HR (fun _ => none) ⟨.nil, 0⟩ w := ⟨fun n e x q => (by cases q), fun n m e e' x y q => (by cases q), fun _ _ => rfl⟩
    rcases hcall ⟨.nil, 0⟩ g [] p.1 p.2 hr (fun _ => none) w [] hh trivial with ⟨_, h2⟩ | ⟨u, h1, _, _⟩
    · refine h2.mono fun e w' hq => ?_
      obtain ⟨θ', u, rfl, q1, q2, q3⟩ := hq
      rw [hp] at q3
      rw [W_plain rfl q3]
      exact ⟨rfl, q1.os, q1.tape, q1.output, q1.size, fun k hk => q1.frame k hk fun n e x q => by cases q⟩
    · exfalso
      obtain ⟨f1, f2, c', f3, _⟩ := hE.ff g fn hfn
      have f2' : ¬ fn.name = "runtime.NumGoroutine" := fun e => by rw [e] at f2; simp at f2
      simp [callFunc, f1, f2', f3] at h1

end Go.Ev
