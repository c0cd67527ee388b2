/- The faster road: code and calls. -/
import Derived.Test.YtibkijpnkmccpaaEvFast3
set_option linter.unusedVariables false
set_option linter.unusedSimpArgs false
namespace Go.Ev
open Go.Deep Go.RowKit

structure Cl where
  f0 : CallC → Option Nat → FT → Hp → (FT → Hp → Prop) → (Nat → FT → Hp → Prop) → (FT → Hp → Prop) → Prop

def Cl.fn (X : Cl) (x0 : CallC) (xr : Option Nat) (x1 : FT) (x2 : Hp) (x3 : (FT → Hp → Prop)) (x4 : (Nat → FT → Hp → Prop)) (x5 : (FT → Hp → Prop)) : Prop := Cl.rec (motive := fun _ => Prop) (fun f => f x0 xr x1 x2 x3 x4 x5) X

theorem Cl.fn_mk (f : CallC → Option Nat → FT → Hp → (FT → Hp → Prop) → (Nat → FT → Hp → Prop) → (FT → Hp → Prop) → Prop) (x0 : CallC) (xr : Option Nat) (x1 : FT) (x2 : Hp) (x3 : (FT → Hp → Prop)) (x4 : (Nat → FT → Hp → Prop)) (x5 : (FT → Hp → Prop)) : (Cl.mk f).fn x0 xr x1 x2 x3 x4 x5 = f x0 xr x1 x2 x3 x4 x5 := rfl

def kX (o : Option (Exit × FT × Hp)) (kn : FT → Hp → Prop) (ke : Nat → FT → Hp → Prop) (kr : FT → Hp → Prop) : Prop := match o with
  | some (.normal, T, h) => kn T h
  | some (.exit i, T, h) => ke i T h
  | some (.ret, T, h) => kr T h
  | _ => False

def loopC (b : Cl) (c : CallC) (ro : Option Nat) (ke : Nat → FT → Hp → Prop) (kr : FT → Hp → Prop) (L : Nat) : FT → Hp → Prop :=
  Nat.rec (motive := fun _ => FT → Hp → Prop) (fun _ _ => False) (fun _ ih T h => b.fn c ro T h ih ke kr) L

def failS : Cl := ⟨fun _ _ _ _ _ _ _ => False⟩

/- Loops over functions. -/

def getLpC (h : Hp) (l : Nat) (k : Lp → Prop) : Prop := getC h.m l fun e => kO e fun e => iff1 (Nat.beq e.unk 0) (kO e.ob fun o => Ob.rec (motive := fun _ => Prop) k (fun _ => False) (fun _ _ _ _ => False) (fun _ _ _ => False) o)

theorem getLpC_eq (h : Hp) (l : Nat) (k : Lp → Prop) : getLpC h l k = kO (getLp h l) k := by
  unfold getLpC getLp
  rw [getC_eq]
  cases tget h.m l with
  | none => rfl
  | some e =>
    show iff1 (Nat.beq e.unk 0) (kO e.ob fun o => Ob.rec (motive := fun _ => Prop) k (fun _ => False) (fun _ _ _ _ => False) (fun _ _ _ => False) o) = _
    simp only
    cases Nat.beq e.unk 0 with
    | false => rfl
    | true =>
      cases e.ob with
      | none => rfl
      | some o => cases o <;> rfl

def setLpC (h : Hp) (l st : Nat) (pend : Option Code) (k : Hp → Prop) : Prop := getC h.m l fun e => kO e fun e => iff1 (Nat.beq e.unk 0) (kO e.ob fun o => Ob.rec (motive := fun _ => Prop) (fun L => Lp.rec (motive := fun _ => Prop) (fun fn N ps asg body ts _ _ => setC (some ⟨.nil, 0, 0, some (.loop ⟨fn, N, ps, asg, body, ts, st, pend⟩)⟩) h.m l fun m => k ⟨m, h.nxt⟩) L) (fun _ => False) (fun _ _ _ _ => False) (fun _ _ _ => False) o)

theorem setLpC_eq (h : Hp) (l st : Nat) (pend : Option Code) (k : Hp → Prop) : setLpC h l st pend k = kO (setLp h l st pend) k := by
  unfold setLpC setLp
  rw [getC_eq]
  cases tget h.m l with
  | none => rfl
  | some e =>
    show iff1 (Nat.beq e.unk 0) (kO e.ob fun o => Ob.rec (motive := fun _ => Prop) (fun L => Lp.rec (motive := fun _ => Prop) (fun fn N ps asg body ts _ _ => setC (some ⟨.nil, 0, 0, some (.loop ⟨fn, N, ps, asg, body, ts, st, pend⟩)⟩) h.m l fun m => k ⟨m, h.nxt⟩) L) (fun _ => False) (fun _ _ _ _ => False) (fun _ _ _ => False) o) = _
    simp only
    cases Nat.beq e.unk 0 with
    | false => rfl
    | true =>
      cases e.ob with
      | none => rfl
      | some o =>
        cases o with
        | loop L =>
          cases L with
          | mk fn N ps asg body ts st0 pend0 =>
            show (setC (some ⟨.nil, 0, 0, some (.loop ⟨fn, N, ps, asg, body, ts, st, pend⟩)⟩) h.m l fun m => k ⟨m, h.nxt⟩) = _
            rw [setC_eq]
            rfl
        | mp es => rfl
        | bld T e s b => rfl
        | byt e s b => rfl

def snapC (T : FT) (n : Nat) : (List (Nat × Value) → Prop) → Prop :=
  Nat.rec (motive := fun _ => (List (Nat × Value) → Prop) → Prop) (fun k => k []) (fun m ih k => Option.rec (motive := fun _ => Prop) (ih k) (fun v => ih fun l => k ((m, v) :: l)) ((getS m).fn T)) n

theorem snapC_eq {T : FT} {M : Tm} (hs : Sim T M) : ∀ (n : Nat) (k : List (Nat × Value) → Prop), snapC T n k = k (snap M n)
  | 0, k => rfl
  | n + 1, k => by
    show Option.rec (motive := fun _ => Prop) (snapC T n k) (fun v => snapC T n fun l => k ((n, v) :: l)) ((getS n).fn T) = _
    rw [getS_eq, hs n]
    simp only [snap]
    cases tget M n with
    | none => exact snapC_eq hs n k
    | some v => exact snapC_eq hs n _

def putAllC (l : List (Nat × Value)) : FT → (FT → Prop) → Prop :=
  List.rec (motive := fun _ => FT → (FT → Prop) → Prop) (fun T k => k T) (fun p _ ih T k => Prod.rec (motive := fun _ => Prop) (fun t v => (setS t).fn T (some v) fun T' => ih T' k) p) l

theorem putAllC_ok : ∀ (l : List (Nat × Value)) (T : FT) (M : Tm), Sim T M → ∃ r : Option FT, (∀ k, putAllC l T k = kO r k) ∧ ∀ T', r = some T' → Sim T' (putAll M l)
  | [], T, M, hs => ⟨some T, fun k => rfl, fun T' e => by cases e; exact hs⟩
  | (t, v) :: l, T, M, hs => by
    cases hb : Nat.blt t 512 with
    | false =>
      refine ⟨none, fun k => ?_, fun T' e => by cases e⟩
      show ((setS t).fn T (some v) fun T' => putAllC l T' k) = _
      rw [setS_eq, hb]; rfl
    | true =>
      obtain ⟨r, h1, h2⟩ := putAllC_ok l (setF T (some v) t) (tset M t (some v)) (hs.put (blt_lt hb) _)
      refine ⟨r, fun k => ?_, h2⟩
      show ((setS t).fn T (some v) fun T' => putAllC l T' k) = _
      rw [setS_eq, hb]
      exact h1 k

def putPsC (ps : List Nat) : List Value → FT → (FT → Prop) → Prop :=
  List.rec (motive := fun _ => List Value → FT → (FT → Prop) → Prop) (fun _ T k => k T) (fun t _ ih vs T k => List.rec (motive := fun _ => Prop) (k T) (fun v vs' _ => (setS t).fn T (some v) fun T' => ih vs' T' k) vs) ps

theorem putPsC_ok : ∀ (ps : List Nat) (vs : List Value) (T : FT) (M : Tm), Sim T M → ∃ r : Option FT, (∀ k, putPsC ps vs T k = kO r k) ∧ ∀ T', r = some T' → Sim T' (putPs M ps vs)
  | [], vs, T, M, hs => ⟨some T, fun k => rfl, fun T' e => by cases e; exact hs⟩
  | t :: ps, [], T, M, hs => ⟨some T, fun k => rfl, fun T' e => by cases e; exact hs⟩
  | t :: ps, v :: vs, T, M, hs => by
    cases hb : Nat.blt t 512 with
    | false =>
      refine ⟨none, fun k => ?_, fun T' e => by cases e⟩
      show ((setS t).fn T (some v) fun T' => putPsC ps vs T' k) = _
      rw [setS_eq, hb]; rfl
    | true =>
      obtain ⟨r, h1, h2⟩ := putPsC_ok ps vs (setF T (some v) t) (tset M t (some v)) (hs.put (blt_lt hb) _)
      refine ⟨r, fun k => ?_, h2⟩
      show ((setS t).fn T (some v) fun T' => putPsC ps vs T' k) = _
      rw [setS_eq, hb]
      exact h1 k

def jmpK (p : Option Code) (n : Prop) (e : Nat → Prop) (r : Prop) : Prop := match p with
  | none => n
  | some .ret => r
  | some (.exit i) => e i
  | some _ => False

def endK (h : Hp) (l : Nat) (T : FT) (kn : FT → Hp → Prop) (ke : Nat → FT → Hp → Prop) (kr : FT → Hp → Prop) : Prop :=
  getLpC h l fun L => Bool.rec (motive := fun _ => Prop) (setC none h.m l fun m => jmpK L.pend (kn T ⟨m, h.nxt⟩) (fun i => ke i T ⟨m, h.nxt⟩) (kr T ⟨m, h.nxt⟩)) False (Nat.beq L.st 1)

theorem endK_eq (h : Hp) (l : Nat) (T : FT) (kn : FT → Hp → Prop) (ke : Nat → FT → Hp → Prop) (kr : FT → Hp → Prop) : endK h l T kn ke kr = kX (endA h l T) kn ke kr := by
  unfold endK endA
  rw [getLpC_eq]
  cases getLp h l with
  | none => rfl
  | some L =>
    show Bool.rec (motive := fun _ => Prop) (setC none h.m l fun m => jmpK L.pend (kn T ⟨m, h.nxt⟩) (fun i => ke i T ⟨m, h.nxt⟩) (kr T ⟨m, h.nxt⟩)) False (Nat.beq L.st 1) = kX (bif Nat.beq L.st 1 then none else _) kn ke kr
    cases Nat.beq L.st 1 with
    | true => rfl
    | false =>
      show (setC none h.m l fun m => jmpK L.pend (kn T ⟨m, h.nxt⟩) (fun i => ke i T ⟨m, h.nxt⟩) (kr T ⟨m, h.nxt⟩)) = _
      rw [setC_eq]
      unfold jmpK
      cases L.pend with
      | none => rfl
      | some q => cases q <;> rfl

def rangeS (E : Env) (f : Nat) (g : Operand) (ps : List Nat) (asg body : Code) : Cl := match tget E.ff f, opvS g with
  | some fn, ⟨p⟩ => ⟨fun c ro T h kn ke kr => iff1 (roOk h ro) (kO (p T) fun fv => isFn fv (fun it first cap => iff1 (Nat.blt it unkU && (tget E.ff it).isSome) (snapC T fn.ntmps fun ts =>
      hallocC h h.nxt ⟨.nil, 0, 0, some (.loop ⟨f, fn.ntmps, ps, asg, body, ts, 0, none⟩)⟩ fun h0 => c it (first.toList ++ [.func (.yield h.nxt) #[] #[]] ++ cap.toList) h0 fun _ h1 => endK h1 h.nxt T kn ke kr)) fun _ => False)⟩
  | none, _ => failS

def codeS (E : Env) (f L : Nat) : Code → Cl
  | .skip => ⟨fun _ _ T h kn _ _ => kn T h⟩
  | .seq a b => ⟨fun c ro T h kn ke kr => (codeS E f L a).fn c ro T h (fun T' h' => (codeS E f L b).fn c ro T' h' kn ke kr) ke kr⟩
  | .cond x a b => match opvS x with
    | ⟨p⟩ => ⟨fun c ro T h kn ke kr => kO (p T) fun v => isBool v False fun q => Bool.rec (motive := fun _ => Prop) ((codeS E f L b).fn c ro T h kn ke kr) ((codeS E f L a).fn c ro T h kn ke kr) q⟩
  | .block id b => ⟨fun c ro T h kn ke kr => (codeS E f L b).fn c ro T h kn (fun i T' h' => Bool.rec (motive := fun _ => Prop) (ke i T' h') (kn T' h') (Nat.beq i id)) kr⟩
  | .loop b => ⟨fun c ro T h _ ke kr => loopC (codeS E f L b) c ro ke kr L T h⟩
  | .exit id => ⟨fun _ _ T h _ ke _ => ke id T h⟩
  | .ret => ⟨fun _ _ T h _ _ kr => kr T h⟩
  | .region id ops draw => bif draw then
      (match tget E.pp f with
      | none => failS
      | some pf => match tget pf id with
        | none => failS
        | some st => ⟨fun c _ T h kn _ _ => (stagesS E ops st).fn c h.nxt T ⟨h.m, h.nxt + ops.size⟩ kn⟩)
    else ⟨fun c _ T h kn _ _ => (opsS E ops ops.toList).fn c T h kn⟩
  | .rangeFunc g ps asg body => rangeS E f g ps.toList asg body
  | _ => failS

theorem and1 {a b : Bool} (h : (a && b) = true) : a = true := by cases a <;> simp_all

theorem and2 {a b : Bool} (h : (a && b) = true) : b = true := by cases a <;> simp_all

def ClOk [LG] (E : Env) (c : CallC) (f N : Nat) (code : Code) (C : Cl) : Prop := ∀ ro T M h, Sim T M →
  ∃ r : Option (Exit × FT × Hp), (∀ kn ke kr, C.fn c ro T h kn ke kr = kX r kn ke kr) ∧ ∀ x T' h', r = some (x, T', h') → ∃ M', Sim T' M' ∧ (codeOk E f N code = true → Lead E ro code N M h x M' h')

theorem failS_ok [LG] (E : Env) (c : CallC) (f N : Nat) (code : Code) : ClOk E c f N code failS := fun _ _ _ _ _ => ⟨none, fun _ _ _ => rfl, fun _ _ _ e => by cases e⟩

theorem loop_ok [LG] {E : Env} {c : CallC} {f N : Nat} {code : Code} {C : Cl} (hC : ClOk E c f N code C) (ro : Option Nat) : ∀ (L : Nat) (T : FT) (M : Tm) (h : Hp), Sim T M →
    ∃ r : Option (Exit × FT × Hp), (∀ kn ke kr, loopC C c ro ke kr L T h = kX r kn ke kr) ∧ ∀ x T' h', r = some (x, T', h') → ∃ M', Sim T' M' ∧ (codeOk E f N code = true → Lead E ro (.loop code) N M h x M' h')
  | 0, T, M, h, hs => ⟨none, fun _ _ _ => rfl, fun _ _ _ e => by cases e⟩
  | L + 1, T, M, h, hs => by
    obtain ⟨r, h1, h2⟩ := hC ro T M h hs
    have hsh : ∀ ke kr, loopC C c ro ke kr (L + 1) T h = kX r (loopC C c ro ke kr L) ke kr := fun ke kr => h1 _ _ _
    match r, h2, hsh with
    | none, _, hsh => exact ⟨none, fun kn ke kr => hsh ke kr, fun _ _ _ e => by cases e⟩
    | some (.normal, T1, h1'), h2, hsh =>
      obtain ⟨M1, s1, l1⟩ := h2 _ _ _ rfl
      obtain ⟨r2, g1, g2⟩ := loop_ok hC ro L T1 M1 h1' s1
      refine ⟨r2, fun kn ke kr => (hsh ke kr).trans (g1 kn ke kr), fun x T' h' e => ?_⟩
      obtain ⟨M', s2, l2⟩ := g2 x T' h' e
      refine ⟨M', s2, fun hk rr B θ a w Q hR hB hm ht hN hr hQ => ?_⟩
      show InLoop rr E.P code Q a w
      refine InLoop.once ?_
      refine (l1 hk rr B θ a w _ hR hB hm ht hN hr fun θ1 a1 w1 e1 r1 t1 q1 m1 => ?_).wp
      exact l2 hk rr B θ1 a1 w1 Q (hR.mono e1.keep) (Nat.le_trans hB e1.size) m1 t1 (by rw [q1]; exact hN) r1 fun θ2 a2 w2 e2 r2 t2 q2 m2 => hQ θ2 a2 w2 (e1.trans e2 (fun n hn _ e => by have := e1.nxt; omega)) r2 t2 (by rw [q2, q1]) m2
    | some (.exit i, T1, h1'), h2, hsh =>
      obtain ⟨M1, s1, l1⟩ := h2 _ _ _ rfl
      refine ⟨some (.exit i, T1, h1'), fun kn ke kr => hsh ke kr, fun x T' h' e => ?_⟩
      cases e
      refine ⟨M1, s1, fun hk rr B θ a w Q hR hB hm ht hN hr hQ => ?_⟩
      show InLoop rr E.P code Q a w
      refine InLoop.once ?_
      refine (l1 hk rr B θ a w _ hR hB hm ht hN hr fun θ1 a1 w1 e1 r1 t1 q1 m1 => ?_).wp
      exact hQ θ1 a1 w1 e1 r1 t1 q1 m1
    | some (.ret, T1, h1'), h2, hsh =>
      obtain ⟨M1, s1, l1⟩ := h2 _ _ _ rfl
      refine ⟨some (.ret, T1, h1'), fun kn ke kr => hsh ke kr, fun x T' h' e => ?_⟩
      cases e
      refine ⟨M1, s1, fun hk rr B θ a w Q hR hB hm ht hN hr hQ => ?_⟩
      show InLoop rr E.P code Q a w
      refine InLoop.once ?_
      refine (l1 hk rr B θ a w _ hR hB hm ht hN hr fun θ1 a1 w1 e1 r1 t1 q1 m1 => ?_).wp
      exact hQ θ1 a1 w1 e1 r1 t1 q1 m1
    | some (.goto _, T1, h1'), _, hsh => exact ⟨none, fun kn ke kr => hsh ke kr, fun _ _ _ e => by cases e⟩
    | some (.panic _, T1, h1'), _, hsh => exact ⟨none, fun kn ke kr => hsh ke kr, fun _ _ _ e => by cases e⟩
    | some (.outgrown, T1, h1'), _, hsh => exact ⟨none, fun kn ke kr => hsh ke kr, fun _ _ _ e => by cases e⟩

theorem codeS_ok [LG] {E : Env} (hE : EnvOk E) (hG : LGOk E) {c : CallC} {call : Nat → List Value → Hp → Option (Value × Hp)} (hc : TwinC c call) (hcall : ∀ h, CallAt E.P call h.nxt h) {f L N : Nat} : ∀ code : Code, ClOk E c f N code (codeS E f L code) := by
  intro code
  induction code with
  | skip => exact fun ro T M h hs => ⟨some (.normal, T, h), fun _ _ _ => rfl, fun x T' h' e => by cases e; exact ⟨M, hs, fun hk rr B θ a w Q hR hB hm ht hN hr hQ => wpIn_skip (hQ θ a w (Ext.refl _ _ _ _) hr ht rfl hm)⟩⟩
  | exit id => exact fun ro T M h hs => ⟨some (.exit id, T, h), fun _ _ _ => rfl, fun x T' h' e => by cases e; exact ⟨M, hs, fun hk rr B θ a w Q hR hB hm ht hN hr hQ => wpIn_exit (hQ θ a w (Ext.refl _ _ _ _) hr ht rfl hm)⟩⟩
  | ret => exact fun ro T M h hs => ⟨some (.ret, T, h), fun _ _ _ => rfl, fun x T' h' e => by cases e; exact ⟨M, hs, fun hk rr B θ a w Q hR hB hm ht hN hr hQ => wpIn_ret (hQ θ a w (Ext.refl _ _ _ _) hr ht rfl hm)⟩⟩
  | seq c1 c2 i1 i2 =>
    intro ro T M h hs
    obtain ⟨r, h1, h2⟩ := i1 ro T M h hs
    have hsh : ∀ kn ke kr, (codeS E f L (.seq c1 c2)).fn c ro T h kn ke kr = kX r (fun T' h' => (codeS E f L c2).fn c ro T' h' kn ke kr) ke kr := fun kn ke kr => h1 _ _ _
    match r, h2, hsh with
    | none, _, hsh => exact ⟨none, hsh, fun _ _ _ e => by cases e⟩
    | some (.normal, T1, h1'), h2, hsh =>
      obtain ⟨M1, s1, l1⟩ := h2 _ _ _ rfl
      obtain ⟨r2, g1, g2⟩ := i2 ro T1 M1 h1' s1
      refine ⟨r2, fun kn ke kr => (hsh kn ke kr).trans (g1 kn ke kr), fun x T' h' e => ?_⟩
      obtain ⟨M', s2, l2⟩ := g2 x T' h' e
      refine ⟨M', s2, fun hk rr B θ a w Q hR hB hm ht hN hr hQ => ?_⟩
      refine wpIn_seq ?_
      refine (l1 (and1 hk) rr B θ a w _ hR hB hm ht hN hr fun θ1 a1 w1 e1 r1 t1 q1 m1 => ?_).wp
      refine (l2 (and2 hk) rr B θ1 a1 w1 _ (hR.mono e1.keep) (Nat.le_trans hB e1.size) m1 t1 (by rw [q1]; exact hN) r1 fun θ2 a2 w2 e2 r2 t2 q2 m2 => ?_).wp
      exact hQ θ2 a2 w2 (e1.trans e2 (fun n hn _ e => by have := e1.nxt; omega)) r2 t2 (by rw [q2, q1]) m2
    | some (.exit i, T1, h1'), h2, hsh =>
      obtain ⟨M1, s1, l1⟩ := h2 _ _ _ rfl
      refine ⟨some (.exit i, T1, h1'), hsh, fun x T' h' e => ?_⟩
      cases e
      refine ⟨M1, s1, fun hk rr B θ a w Q hR hB hm ht hN hr hQ => wpIn_seq ?_⟩
      refine (l1 (and1 hk) rr B θ a w _ hR hB hm ht hN hr fun θ1 a1 w1 e1 r1 t1 q1 m1 => ?_).wp
      exact hQ θ1 a1 w1 e1 r1 t1 q1 m1
    | some (.ret, T1, h1'), h2, hsh =>
      obtain ⟨M1, s1, l1⟩ := h2 _ _ _ rfl
      refine ⟨some (.ret, T1, h1'), hsh, fun x T' h' e => ?_⟩
      cases e
      refine ⟨M1, s1, fun hk rr B θ a w Q hR hB hm ht hN hr hQ => wpIn_seq ?_⟩
      refine (l1 (and1 hk) rr B θ a w _ hR hB hm ht hN hr fun θ1 a1 w1 e1 r1 t1 q1 m1 => ?_).wp
      exact hQ θ1 a1 w1 e1 r1 t1 q1 m1
    | some (.goto _, T1, h1'), _, hsh => exact ⟨none, hsh, fun _ _ _ e => by cases e⟩
    | some (.panic _, T1, h1'), _, hsh => exact ⟨none, hsh, fun _ _ _ e => by cases e⟩
    | some (.outgrown, T1, h1'), _, hsh => exact ⟨none, hsh, fun _ _ _ e => by cases e⟩
  | cond x c1 c2 i1 i2 =>
    intro ro T M h hs
    have hsh : ∀ kn ke kr, (codeS E f L (.cond x c1 c2)).fn c ro T h kn ke kr = kO (opv M x) fun v => isBool v False fun q => Bool.rec (motive := fun _ => Prop) ((codeS E f L c2).fn c ro T h kn ke kr) ((codeS E f L c1).fn c ro T h kn ke kr) q := by
      intro kn ke kr
      show (kO ((opvS x).fn T) fun v => isBool v False fun q => Bool.rec (motive := fun _ => Prop) ((codeS E f L c2).fn c ro T h kn ke kr) ((codeS E f L c1).fn c ro T h kn ke kr) q) = _
      rw [opvS_eq hs]
    cases hx : opv M x with
    | none => exact ⟨none, fun kn ke kr => by rw [hsh, hx]; rfl, fun _ _ _ e => by cases e⟩
    | some v =>
      by_cases hv : ∃ b, v = .bool b
      · obtain ⟨b, rfl⟩ := hv
        cases b with
        | true =>
          obtain ⟨r, h1, h2⟩ := i1 ro T M h hs
          refine ⟨r, fun kn ke kr => by rw [hsh, hx]; exact h1 kn ke kr, fun x' T' h' e => ?_⟩
          obtain ⟨M', s1, l1⟩ := h2 x' T' h' e
          exact ⟨M', s1, fun hk rr B θ a w Q hR hB hm ht hN hr hQ => wpIn_cond_true (opv_W ht hx) (l1 (and1 hk) rr B θ a w _ hR hB hm ht hN hr hQ).wp⟩
        | false =>
          obtain ⟨r, h1, h2⟩ := i2 ro T M h hs
          refine ⟨r, fun kn ke kr => by rw [hsh, hx]; exact h1 kn ke kr, fun x' T' h' e => ?_⟩
          obtain ⟨M', s1, l1⟩ := h2 x' T' h' e
          exact ⟨M', s1, fun hk rr B θ a w Q hR hB hm ht hN hr hQ => wpIn_cond_false (opv_W ht hx) (l1 (and2 hk) rr B θ a w _ hR hB hm ht hN hr hQ).wp⟩
      · refine ⟨none, fun kn ke kr => ?_, fun _ _ _ e => by cases e⟩
        rw [hsh, hx]
        exact isBool_else (fun b e => hv ⟨b, e⟩) _ _
  | block id b ib =>
    intro ro T M h hs
    obtain ⟨r, h1, h2⟩ := ib ro T M h hs
    have hsh : ∀ kn ke kr, (codeS E f L (.block id b)).fn c ro T h kn ke kr = kX r kn (fun i T' h' => Bool.rec (motive := fun _ => Prop) (ke i T' h') (kn T' h') (Nat.beq i id)) kr := fun kn ke kr => h1 _ _ _
    match r, h2, hsh with
    | none, _, hsh => exact ⟨none, hsh, fun _ _ _ e => by cases e⟩
    | some (.normal, T1, h1'), h2, hsh =>
      obtain ⟨M1, s1, l1⟩ := h2 _ _ _ rfl
      refine ⟨some (.normal, T1, h1'), hsh, fun x T' h' e => ?_⟩
      cases e
      refine ⟨M1, s1, fun hk rr B θ a w Q hR hB hm ht hN hr hQ => wpIn_block ?_⟩
      refine (l1 hk rr B θ a w _ hR hB hm ht hN hr fun θ1 a1 w1 e1 r1 t1 q1 m1 => ?_).wp
      exact hQ θ1 a1 w1 e1 r1 t1 q1 m1
    | some (.exit i, T1, h1'), h2, hsh =>
      obtain ⟨M1, s1, l1⟩ := h2 _ _ _ rfl
      cases hb : Nat.beq i id with
      | true =>
        refine ⟨some (.normal, T1, h1'), fun kn ke kr => (hsh kn ke kr).trans ?_, fun x T' h' e => ?_⟩
        · show Bool.rec (motive := fun _ => Prop) (ke i T1 h1') (kn T1 h1') (Nat.beq i id) = _
          rw [hb]; rfl
        · cases e
          refine ⟨M1, s1, fun hk rr B θ a w Q hR hB hm ht hN hr hQ => wpIn_block ?_⟩
          refine (l1 hk rr B θ a w _ hR hB hm ht hN hr fun θ1 a1 w1 e1 r1 t1 q1 m1 => ?_).wp
          simp only [Exit.inBlock]
          rw [if_pos (Nat.eq_of_beq_eq_true hb)]
          exact hQ θ1 a1 w1 e1 r1 t1 q1 m1
      | false =>
        refine ⟨some (.exit i, T1, h1'), fun kn ke kr => (hsh kn ke kr).trans ?_, fun x T' h' e => ?_⟩
        · show Bool.rec (motive := fun _ => Prop) (ke i T1 h1') (kn T1 h1') (Nat.beq i id) = _
          rw [hb]; rfl
        · cases e
          refine ⟨M1, s1, fun hk rr B θ a w Q hR hB hm ht hN hr hQ => wpIn_block ?_⟩
          refine (l1 hk rr B θ a w _ hR hB hm ht hN hr fun θ1 a1 w1 e1 r1 t1 q1 m1 => ?_).wp
          simp only [Exit.inBlock]
          rw [if_neg (beq_ne hb)]
          exact hQ θ1 a1 w1 e1 r1 t1 q1 m1
    | some (.ret, T1, h1'), h2, hsh =>
      obtain ⟨M1, s1, l1⟩ := h2 _ _ _ rfl
      refine ⟨some (.ret, T1, h1'), hsh, fun x T' h' e => ?_⟩
      cases e
      refine ⟨M1, s1, fun hk rr B θ a w Q hR hB hm ht hN hr hQ => wpIn_block ?_⟩
      refine (l1 hk rr B θ a w _ hR hB hm ht hN hr fun θ1 a1 w1 e1 r1 t1 q1 m1 => ?_).wp
      exact hQ θ1 a1 w1 e1 r1 t1 q1 m1
    | some (.goto _, T1, h1'), _, hsh => exact ⟨none, hsh, fun _ _ _ e => by cases e⟩
    | some (.panic _, T1, h1'), _, hsh => exact ⟨none, hsh, fun _ _ _ e => by cases e⟩
    | some (.outgrown, T1, h1'), _, hsh => exact ⟨none, hsh, fun _ _ _ e => by cases e⟩
  | loop b ib =>
    intro ro T M h hs
    exact loop_ok ib ro L T M h hs
  | region id ops draw =>
    intro ro T M h hs
    cases draw with
    | false =>
      obtain ⟨r, h1, h2⟩ := opsS_ok E ops hc ops.toList T M h hs
      cases r with
      | none => exact ⟨none, fun kn ke kr => h1 (kP kn), fun _ _ _ e => by cases e⟩
      | some p =>
        obtain ⟨M', q1, q2⟩ := h2 p rfl
        refine ⟨some (.normal, p.1, p.2), fun kn ke kr => h1 (kP kn), fun x T' h' e => ?_⟩
        cases e
        exact ⟨M', q2, fun hk rr B θ a w Q hR hB hm ht hN hr hQ => region_sound hE.tt hcall q1 (and1 hk) ht hN hr fun θ' a' w' e1 r1 t1 s1 d1 => hQ θ' a' w' e1 r1 t1 s1 (by rw [d1]; exact hm.ext e1)⟩
    | true =>
      simp only [Xo.fn_mk, Ds.fn_mk, Wt.fn_mk, Rg.fn_mk, Pg.fn_mk, Rc.fn_mk, Sg.fn_mk, Cl.fn_mk, codeS, cond_true]
      cases hpf : tget E.pp f with
      | none => exact failS_ok E c f N _ ro T M h hs
      | some pf =>
        simp only
        cases hst : tget pf id with
        | none => exact failS_ok E c f N _ ro T M h hs
        | some st =>
          obtain ⟨r, h1, h2⟩ := stagesS_ok E ops hc h.nxt st T M ⟨h.m, h.nxt + ops.size⟩ hs
          cases r with
          | none => exact ⟨none, fun kn ke kr => h1 (kP kn), fun _ _ _ e => by cases e⟩
          | some p =>
            obtain ⟨M', q1, q2⟩ := h2 p rfl
            refine ⟨some (.normal, p.1, p.2), fun kn ke kr => h1 (kP kn), fun x T' h' e => ?_⟩
            cases e
            exact ⟨M', q2, fun hk rr B θ a w Q hR hB hm ht hN hr hQ => draw_sound hE.tt hE.mixed hcall q1 (by have hpl := and2 hk; simpa only [cond_true, hpf, hst] using hpl) (and1 hk) ht hN hr fun θ' a' w' e1 r1 t1 s1 d1 => hQ θ' a' w' e1 r1 t1 s1 (by rw [d1]; exact hm.ext e1)⟩
  | rangeFunc g ps asg body i1 i2 =>
    intro ro T M h hs
    show ∃ r : Option (Exit × FT × Hp), (∀ kn ke kr, (rangeS E f g ps.toList asg body).fn c ro T h kn ke kr = kX r kn ke kr) ∧ _
    unfold rangeS
    cases hfn : tget E.ff f with
    | none => exact failS_ok E c f N _ ro T M h hs
    | some fn =>
      have hsh : ∀ kn ke kr, (Cl.mk fun c ro T h kn ke kr => iff1 (roOk h ro) (kO ((opvS g).fn T) fun fv => isFn fv (fun it first cap => iff1 (Nat.blt it unkU && (tget E.ff it).isSome) (snapC T fn.ntmps fun ts =>
          hallocC h h.nxt ⟨.nil, 0, 0, some (.loop ⟨f, fn.ntmps, ps.toList, asg, body, ts, 0, none⟩)⟩ fun h0 => c it (first.toList ++ [.func (.yield h.nxt) #[] #[]] ++ cap.toList) h0 fun _ h1 => endK h1 h.nxt T kn ke kr)) fun _ => False)).fn c ro T h kn ke kr =
          iff1 (roOk h ro) (kO (opv M g) fun fv => isFn fv (fun it first cap => iff1 (Nat.blt it unkU && (tget E.ff it).isSome) (k2 (call it (first.toList ++ [.func (.yield h.nxt) #[] #[]] ++ cap.toList) (newLp h ⟨f, fn.ntmps, ps.toList, asg, body, snap M fn.ntmps, 0, none⟩)) fun _ h1 => kX (endA h1 h.nxt T) kn ke kr)) fun _ => False) := by
        intro kn ke kr
        show iff1 (roOk h ro) (kO ((opvS g).fn T) fun fv => isFn fv (fun it first cap => iff1 (Nat.blt it unkU && (tget E.ff it).isSome) (snapC T fn.ntmps fun ts =>
          hallocC h h.nxt ⟨.nil, 0, 0, some (.loop ⟨f, fn.ntmps, ps.toList, asg, body, ts, 0, none⟩)⟩ fun h0 => c it (first.toList ++ [.func (.yield h.nxt) #[] #[]] ++ cap.toList) h0 fun _ h1 => endK h1 h.nxt T kn ke kr)) fun _ => False) = _
        rw [opvS_eq hs]
        simp only [snapC_eq hs, hallocC_eq, endK_eq, hc _ _ _ _]
        rfl
      show ∃ r : Option (Exit × FT × Hp), (∀ kn ke kr, (Cl.mk fun c ro T h kn ke kr => iff1 (roOk h ro) (kO ((opvS g).fn T) fun fv => isFn fv (fun it first cap => iff1 (Nat.blt it unkU && (tget E.ff it).isSome) (snapC T fn.ntmps fun ts =>
          hallocC h h.nxt ⟨.nil, 0, 0, some (.loop ⟨f, fn.ntmps, ps.toList, asg, body, ts, 0, none⟩)⟩ fun h0 => c it (first.toList ++ [.func (.yield h.nxt) #[] #[]] ++ cap.toList) h0 fun _ h1 => endK h1 h.nxt T kn ke kr)) fun _ => False)).fn c ro T h kn ke kr = kX r kn ke kr) ∧ _
      simp only [hsh]
      cases hro : roOk h ro with
      | false => exact ⟨none, fun _ _ _ => rfl, fun _ _ _ e => by cases e⟩
      | true =>
        cases hv : opv M g with
        | none => exact ⟨none, fun _ _ _ => rfl, fun _ _ _ e => by cases e⟩
        | some fv =>
          by_cases hfv : ∃ it first cap, fv = .func (.func it) first cap
          · obtain ⟨it, first, cap, rfl⟩ := hfv
            cases hi : (Nat.blt it unkU && (tget E.ff it).isSome) with
            | false => exact ⟨none, fun kn ke kr => by show iff1 (Nat.blt it unkU && (tget E.ff it).isSome) _ = _; rw [hi]; rfl, fun _ _ _ e => by cases e⟩
            | true =>
              simp only [Bool.and_eq_true] at hi
              cases hcl : call it (first.toList ++ [.func (.yield h.nxt) #[] #[]] ++ cap.toList) (newLp h ⟨f, fn.ntmps, ps.toList, asg, body, snap M fn.ntmps, 0, none⟩) with
              | none => exact ⟨none, fun kn ke kr => by show iff1 (Nat.blt it unkU && (tget E.ff it).isSome) (k2 (call it _ _) _) = _; rw [hi.1, hi.2, hcl]; rfl, fun _ _ _ e => by cases e⟩
              | some p =>
                refine ⟨endA p.2 h.nxt T, fun kn ke kr => by show iff1 (Nat.blt it unkU && (tget E.ff it).isSome) (k2 (call it _ _) _) = _; rw [hi.1, hi.2, hcl]; rfl, fun x T' h' e => ?_⟩
                have hTT : T' = T := by
                  unfold endA at e
                  obtain ⟨Le, _, q⟩ := ob_some e
                  cases hb : Nat.beq Le.st 1 <;> simp only [hb, cond_true, cond_false, reduceCtorEq] at q
                  split at q <;> cases q <;> rfl
                subst hTT
                exact ⟨M, hs, fun hk rr B θ a w Q hR hB hm ht hN hr hQ => (range_sound (f := ⟨f, ro⟩) hE hG hcall hk hro hv hfn (blt_lt hi.1) hi.2 hcl e hR hB hm ht hN hr hQ).2⟩
          · refine ⟨none, fun kn ke kr => ?_, fun _ _ _ e => by cases e⟩
            show isFn fv _ _ = False
            cases fv <;> try rfl
            rename_i fr a b
            cases fr <;> try rfl
            exact absurd ⟨_, _, _, rfl⟩ hfv
  | _ => exact failS_ok E c f N _

/- Calls. -/

def argsC (l : List Value) : FT → Nat → (FT → Prop) → Prop :=
  List.rec (motive := fun _ => FT → Nat → (FT → Prop) → Prop) (fun T _ k => k T) (fun v _ ih T i k => (setS i).fn T (some v) fun T' => ih T' (Nat.succ i) k) l

theorem argsC_ok : ∀ (l : List Value) (T : FT) (M : Tm) (i : Nat), Sim T M → ∃ r : Option FT, (∀ k, argsC l T i k = kO r k) ∧ ∀ T', r = some T' → Sim T' (args0 M i l)
  | [], T, M, i, hs => ⟨some T, fun k => rfl, fun T' e => by cases e; exact hs⟩
  | v :: l, T, M, i, hs => by
    cases hb : Nat.blt i 512 with
    | false =>
      refine ⟨none, fun k => ?_, fun T' e => by cases e⟩
      show ((setS i).fn T (some v) fun T' => argsC l T' (i + 1) k) = _
      rw [setS_eq, hb]; rfl
    | true =>
      obtain ⟨r, h1, h2⟩ := argsC_ok l (setF T (some v) i) (tset M i (some v)) (i + 1) (hs.put (blt_lt hb) _)
      refine ⟨r, fun k => ?_, h2⟩
      show ((setS i).fn T (some v) fun T' => argsC l T' (i + 1) k) = _
      rw [setS_eq, hb]
      exact h1 k

structure Rs where
  f0 : FT → Hp → (Value → Prop) → Prop

def Rs.fn (X : Rs) (x0 : FT) (x1 : Hp) (x2 : (Value → Prop)) : Prop := Rs.rec (motive := fun _ => Prop) (fun f => f x0 x1 x2) X

theorem Rs.fn_mk (f : FT → Hp → (Value → Prop) → Prop) (x0 : FT) (x1 : Hp) (x2 : (Value → Prop)) : (Rs.mk f).fn x0 x1 x2 = f x0 x1 x2 := rfl

def resS (E : Env) (rs : List ResultVar) : Rs := match rs with
  | [.tmp t] => ⟨fun T _ k => kO ((getS t).fn T) k⟩
  | _ => ⟨fun T h k => kO (resA (rhoS T) h E rs) fun vs => kO (oneOf vs) k⟩

theorem resS_ok (E : Env) {T : FT} {M : Tm} (hs : Sim T M) (h : Hp) (rs : List ResultVar) : ∃ r : Option Value, (∀ k, (resS E rs).fn T h k = kO r k) ∧ ∀ v, r = some v → ∃ vs, resA (opv M) h E rs = some vs ∧ oneOf vs = some v := by
  unfold resS
  split
  · rename_i t
    refine ⟨tget M t, fun k => ?_, fun v e => ⟨[v], ?_, rfl⟩⟩
    · show kO ((getS t).fn T) k = _
      rw [getS_eq, hs t]
    · simp only [resA, opv, e]
  · refine ⟨ob (resA (opv M) h E rs) oneOf, fun k => ?_, fun v e => ?_⟩
    · show (kO (resA (rhoS T) h E rs) fun vs => kO (oneOf vs) k) = _
      rw [rhoS_eq hs]
      cases resA (opv M) h E rs <;> rfl
    · exact ob_some e

structure Fk where
  f0 : CallC → List Value → Hp → (Value → Hp → Prop) → Prop

def Fk.fn (X : Fk) (x0 : CallC) (x1 : List Value) (x2 : Hp) (x3 : (Value → Hp → Prop)) : Prop := Fk.rec (motive := fun _ => Prop) (fun f => f x0 x1 x2 x3) X

theorem Fk.fn_mk (f : CallC → List Value → Hp → (Value → Hp → Prop) → Prop) (x0 : CallC) (x1 : List Value) (x2 : Hp) (x3 : (Value → Hp → Prop)) : (Fk.mk f).fn x0 x1 x2 x3 = f x0 x1 x2 x3 := rfl

def fnS (E : Env) (L g : Nat) : Fk := match tget E.ff g with
  | none => ⟨fun _ args h k => k2 (xext E g args h) k⟩
  | some fn => match fn.body with
    | none => ⟨fun _ _ _ _ => False⟩
    | some b => ⟨fun c args h k => argsC args zeroF 0 fun T => (codeS E g L b).fn c none T h (fun T' h' => (resS E fn.results.toList).fn T' h' fun r => k r h') (fun _ _ _ => False) (fun T' h' => (resS E fn.results.toList).fn T' h' fun r => k r h')⟩

/-- A round of loop l. -/
def roundK (E : Env) (D : Nat) (c : CallC) (l : Nat) (args : List Value) (h : Hp) (k : Value → Hp → Prop) : Prop :=
  getLpC h l fun L => Lp.rec (motive := fun _ => Prop) (fun fn _ ps asg body ts st _ => iff1 (Nat.beq st 0 && Nat.beq ps.length args.length) (putAllC ts zeroF fun T0 => putPsC ps args T0 fun T1 =>
    (codeS E fn D asg).fn c (some l) T1 h (fun T2 h1 => getLpC h1 l fun L1 => iff1 (Nat.beq L1.st 0) (setLpC h1 l 1 L1.pend fun h2 =>
      (codeS E fn D body).fn c (some l) T2 h2 (fun _ h3 => setLpC h3 l 0 none fun h4 => k (.bool true) h4) (fun i _ h3 => setLpC h3 l 2 (some (.exit i)) fun h4 => k (.bool false) h4) (fun _ h3 => setLpC h3 l 2 (some .ret) fun h4 => k (.bool false) h4)))
      (fun _ _ _ => False) (fun _ _ => False))) L

def callK (E : Env) (L D : Nat) : CallC :=
  Nat.rec (motive := fun _ => CallC) (fun _ _ _ _ => False) (fun _ ih g args h k => Bool.rec (motive := fun _ => Prop) (roundK E L ih (g - unkU) args h k) ((fnS E L g).fn ih args h k) (Nat.blt g unkU)) D

/-- What a call's answer must be. -/
def CallsTo [LG] (P : Program) (g : Nat) (args : List Value) (h : Hp) (r : Value) (h' : Hp) : Prop := ∀ θ w cargs, HR θ h w → all2 (W θ) args cargs →
    ((callFunc g cargs.toArray).run P w = .ok (.enter g cargs.toArray) w ∧ Calls P g cargs.toArray w (fun e w' => ∃ θ' u, e = .returned u ∧ Ext h.nxt θ h w θ' h' w' ∧ HR θ' h' w' ∧ W θ' r u)) ∨
    (∃ u, (callFunc g cargs.toArray).run P w = .ok (.value u) w ∧ W θ r u ∧ h' = h)

def RoundTo [LG] (P : Program) (l : Nat) (args : List Value) (h : Hp) (r : Value) (h' : Hp) : Prop := ∀ θ w cargs, HR θ h w → all2 (W θ) args cargs → ∀ x, θ l = some x →
    YieldAt Fence.wide 0 P x.1 cargs.toArray w (fun e w' => ∃ θ' u, e = .returned u ∧ Ext h.nxt θ h w θ' h' w' ∧ HR θ' h' w' ∧ W θ' r u)

theorem fnS_ok [LG] {E : Env} (hE : EnvOk E) (hG : LGOk E) {c : CallC} {call : Nat → List Value → Hp → Option (Value × Hp)} (hc : TwinC c call) (hcall : ∀ h, CallAt E.P call h.nxt h) (L g : Nat) (hg : g < unkU) (args : List Value) (h : Hp) :
    ∃ r : Option (Value × Hp), (∀ k, (fnS E L g).fn c args h k = k2 r k) ∧ ∀ p, r = some p → CallsTo E.P g args h p.1 p.2 := by
  unfold fnS
  cases hfn : tget E.ff g with
  | none =>
    refine ⟨xext E g args h, fun k => rfl, fun p e => ?_⟩
    have hb : Nat.blt g unkU = true := Nat.ble_eq_true_of_le hg
    have hx : callA E (fun _ _ _ _ => none) g args h = some (p.1, p.2) := by
      simp only [callA, hfn, hb, cond_true]
      exact e
    exact fun θ w cargs hr ha => (call_sound hE hG (fun c f N T h x T' h' q => by cases q) h g args p.1 p.2 hx θ w cargs hr ha).1 hg
  | some fn =>
    obtain ⟨f1, f2, b, f3, f4⟩ := hE.ff g fn hfn
    simp only [f3]
    obtain ⟨ra, a1, a2⟩ := argsC_ok args zeroF .nil 0 zero_sim
    cases ra with
    | none => exact ⟨none, fun k => a1 _, fun p e => by cases e⟩
    | some T =>
      have hs := a2 T rfl
      obtain ⟨rc, c1, c2⟩ := codeS_ok hE hG hc hcall (f := g) (N := fn.ntmps) (L := L) b none T (args0 .nil 0 args) h hs
      have hsh : ∀ k : Value → Hp → Prop, (argsC args zeroF 0 fun T => (codeS E g L b).fn c none T h (fun T' h' => (resS E fn.results.toList).fn T' h' fun r => k r h') (fun _ _ _ => False) (fun T' h' => (resS E fn.results.toList).fn T' h' fun r => k r h')) = kX rc (fun T' h' => (resS E fn.results.toList).fn T' h' fun r => k r h') (fun _ _ _ => False) (fun T' h' => (resS E fn.results.toList).fn T' h' fun r => k r h') := fun k => (a1 _).trans (c1 _ _ _)
      have fin : ∀ x T' h' v, rc = some (x, T', h') → (x = .normal ∨ x = .ret) → (∀ M', Sim T' M' → ∃ vs, resA (opv M') h' E fn.results.toList = some vs ∧ oneOf vs = some v) → CallsTo E.P g args h v h' := by
        intro x T' h' v e hx hres θ w cargs hr ha
        obtain ⟨M', s1, l1'⟩ := c2 x T' h' e
        have l1 := l1' f4
        refine .inl ?_
        have hsz : fn.ntmps ≤ (cargs.toArray ++ Array.replicate (fn.ntmps - cargs.toArray.size) undef).size := by simp; omega
        obtain ⟨vs, k1, k3⟩ := hres M' s1
        exact body_sound (args := args) hE hfn hx k1 k3 f3 fun Q hQ => (l1 none w.heap.size θ ⟨_, []⟩ w _ trivial (Nat.le_refl _) trivial (args_TR ha _) hsz hr fun θ' a' w' e1 r1 t1 _ m1 => hQ θ' a' w' e1 r1 t1 m1).wp
      have half : ∀ x T' h', rc = some (x, T', h') → (x = .normal ∨ x = .ret) → ∃ r : Option (Value × Hp), (∀ k : Value → Hp → Prop, ((resS E fn.results.toList).fn T' h' fun r => k r h') = k2 r k) ∧ ∀ p, r = some p → CallsTo E.P g args h p.1 p.2 := by
        intro x T' h' e hx
        obtain ⟨M1, s1, _⟩ := c2 x T' h' e
        obtain ⟨rr, r1, r2⟩ := resS_ok E s1 h' fn.results.toList
        cases rr with
        | none => exact ⟨none, fun k => r1 _, fun p q => by cases q⟩
        | some v =>
          refine ⟨some (v, h'), fun k => r1 _, fun p q => ?_⟩
          cases q
          refine fin x T' h' v e hx fun M' s' => ?_
          obtain ⟨rr', r1', r2'⟩ := resS_ok E s' h' fn.results.toList
          have hrr : rr' = some v := by
            cases rr' with
            | none =>
              have e1 := r1 fun _ => True
              have e2 := r1' fun _ => True
              rw [e1] at e2
              exact absurd (show kO (some v) fun _ => True from trivial) (by rw [e2]; exact id)
            | some v' =>
              have e1 := r1 fun y => y = v
              have e2 := r1' fun y => y = v
              rw [e1] at e2
              have : (kO (some v') fun y => y = v) := by rw [← e2]; exact (rfl : v = v)
              have h3 : v' = v := this
              rw [h3]
          exact r2' v hrr
      match rc, half, hsh with
      | none, _, hsh => exact ⟨none, hsh, fun p q => by cases q⟩
      | some (.normal, T', h'), half, hsh =>
        obtain ⟨r, g1, g2⟩ := half _ _ _ rfl (.inl rfl)
        exact ⟨r, fun k => (hsh k).trans (g1 k), g2⟩
      | some (.ret, T', h'), half, hsh =>
        obtain ⟨r, g1, g2⟩ := half _ _ _ rfl (.inr rfl)
        exact ⟨r, fun k => (hsh k).trans (g1 k), g2⟩
      | some (.exit i, T', h'), _, hsh => exact ⟨none, hsh, fun p q => by cases q⟩
      | some (.goto _, T', h'), _, hsh => exact ⟨none, hsh, fun p q => by cases q⟩
      | some (.panic _, T', h'), _, hsh => exact ⟨none, hsh, fun p q => by cases q⟩
      | some (.outgrown, T', h'), _, hsh => exact ⟨none, hsh, fun p q => by cases q⟩

theorem roundK_ok [LG] {E : Env} (hE : EnvOk E) (hG : LGOk E) {c : CallC} {call : Nat → List Value → Hp → Option (Value × Hp)} (hc : TwinC c call) (hcall : ∀ h, CallAt E.P call h.nxt h) (D l : Nat) (args : List Value) (h : Hp) :
    ∃ r : Option (Value × Hp), (∀ k, roundK E D c l args h k = k2 r k) ∧ ∀ p, r = some p → RoundTo E.P l args h p.1 p.2 := by
  have no : ∀ {X : (Value → Hp → Prop) → Prop}, (∀ k, X k = False) → ∃ r : Option (Value × Hp), (∀ k, X k = k2 r k) ∧ ∀ p, r = some p → RoundTo E.P l args h p.1 p.2 := fun hX => ⟨none, hX, fun p e => by cases e⟩
  unfold roundK
  simp only [getLpC_eq]
  cases hL : getLp h l with
  | none => exact no fun k => rfl
  | some L =>
    obtain ⟨fn, N, ps, asg, body, ts, st, pend⟩ := L
    show ∃ r : Option (Value × Hp), (∀ k, iff1 (Nat.beq st 0 && Nat.beq ps.length args.length) (putAllC ts zeroF fun T0 => putPsC ps args T0 fun T1 =>
      (codeS E fn D asg).fn c (some l) T1 h (fun T2 h1 => kO (getLp h1 l) fun L1 => iff1 (Nat.beq L1.st 0) (setLpC h1 l 1 L1.pend fun h2 =>
      (codeS E fn D body).fn c (some l) T2 h2 (fun _ h3 => setLpC h3 l 0 none fun h4 => k (.bool true) h4) (fun i _ h3 => setLpC h3 l 2 (some (.exit i)) fun h4 => k (.bool false) h4) (fun _ h3 => setLpC h3 l 2 (some .ret) fun h4 => k (.bool false) h4)))
      (fun _ _ _ => False) (fun _ _ => False)) = k2 r k) ∧ _
    simp only [setLpC_eq]
    cases hq : (Nat.beq st 0 && Nat.beq ps.length args.length) with
    | false => exact no fun k => rfl
    | true =>
      simp only [Bool.and_eq_true] at hq
      show ∃ r : Option (Value × Hp), (∀ k, (putAllC ts zeroF fun T0 => putPsC ps args T0 fun T1 =>
        (codeS E fn D asg).fn c (some l) T1 h (fun T2 h1 => kO (getLp h1 l) fun L1 => iff1 (Nat.beq L1.st 0) (kO (setLp h1 l 1 L1.pend) fun h2 =>
        (codeS E fn D body).fn c (some l) T2 h2 (fun _ h3 => kO (setLp h3 l 0 none) fun h4 => k (.bool true) h4) (fun i _ h3 => kO (setLp h3 l 2 (some (.exit i))) fun h4 => k (.bool false) h4) (fun _ h3 => kO (setLp h3 l 2 (some .ret)) fun h4 => k (.bool false) h4)))
        (fun _ _ _ => False) (fun _ _ => False)) = k2 r k) ∧ _
      obtain ⟨ra, a1, a2⟩ := putAllC_ok ts zeroF .nil zero_sim
      simp only [a1]
      cases ra with
      | none => exact no fun k => rfl
      | some T0 =>
        obtain ⟨rb, b1, b2⟩ := putPsC_ok ps args T0 _ (a2 T0 rfl)
        show ∃ r : Option (Value × Hp), (∀ k, (putPsC ps args T0 fun T1 =>
          (codeS E fn D asg).fn c (some l) T1 h (fun T2 h1 => kO (getLp h1 l) fun L1 => iff1 (Nat.beq L1.st 0) (kO (setLp h1 l 1 L1.pend) fun h2 =>
          (codeS E fn D body).fn c (some l) T2 h2 (fun _ h3 => kO (setLp h3 l 0 none) fun h4 => k (.bool true) h4) (fun i _ h3 => kO (setLp h3 l 2 (some (.exit i))) fun h4 => k (.bool false) h4) (fun _ h3 => kO (setLp h3 l 2 (some .ret)) fun h4 => k (.bool false) h4)))
          (fun _ _ _ => False) (fun _ _ => False)) = k2 r k) ∧ _
        simp only [b1]
        cases rb with
        | none => exact no fun k => rfl
        | some T1 =>
          obtain ⟨rc, c1, c2⟩ := codeS_ok hE hG hc hcall (f := fn) (N := N) (L := D) asg (some l) T1 _ h (b2 T1 rfl)
          show ∃ r : Option (Value × Hp), (∀ k, ((codeS E fn D asg).fn c (some l) T1 h (fun T2 h1 => kO (getLp h1 l) fun L1 => iff1 (Nat.beq L1.st 0) (kO (setLp h1 l 1 L1.pend) fun h2 =>
            (codeS E fn D body).fn c (some l) T2 h2 (fun _ h3 => kO (setLp h3 l 0 none) fun h4 => k (.bool true) h4) (fun i _ h3 => kO (setLp h3 l 2 (some (.exit i))) fun h4 => k (.bool false) h4) (fun _ h3 => kO (setLp h3 l 2 (some .ret)) fun h4 => k (.bool false) h4)))
            (fun _ _ _ => False) (fun _ _ => False)) = k2 r k) ∧ _
          simp only [c1]
          match rc, c2 with
          | none, _ => exact no fun k => rfl
          | some (.ret, _, _), _ => exact no fun k => rfl
          | some (.exit _, _, _), _ => exact no fun k => rfl
          | some (.goto _, _, _), _ => exact no fun k => rfl
          | some (.panic _, _, _), _ => exact no fun k => rfl
          | some (.outgrown, _, _), _ => exact no fun k => rfl
          | some (.normal, T2, h1), c2 =>
            obtain ⟨M2, s2, lead1⟩ := c2 _ _ _ rfl
            show ∃ r : Option (Value × Hp), (∀ k, (kO (getLp h1 l) fun L1 => iff1 (Nat.beq L1.st 0) (kO (setLp h1 l 1 L1.pend) fun h2 =>
              (codeS E fn D body).fn c (some l) T2 h2 (fun _ h3 => kO (setLp h3 l 0 none) fun h4 => k (.bool true) h4) (fun i _ h3 => kO (setLp h3 l 2 (some (.exit i))) fun h4 => k (.bool false) h4) (fun _ h3 => kO (setLp h3 l 2 (some .ret)) fun h4 => k (.bool false) h4))) = k2 r k) ∧ _
            cases hL1 : getLp h1 l with
            | none => exact no fun k => rfl
            | some L1 =>
              show ∃ r : Option (Value × Hp), (∀ k, iff1 (Nat.beq L1.st 0) (kO (setLp h1 l 1 L1.pend) fun h2 =>
                (codeS E fn D body).fn c (some l) T2 h2 (fun _ h3 => kO (setLp h3 l 0 none) fun h4 => k (.bool true) h4) (fun i _ h3 => kO (setLp h3 l 2 (some (.exit i))) fun h4 => k (.bool false) h4) (fun _ h3 => kO (setLp h3 l 2 (some .ret)) fun h4 => k (.bool false) h4)) = k2 r k) ∧ _
              cases hq1 : Nat.beq L1.st 0 with
              | false => exact no fun k => rfl
              | true =>
                show ∃ r : Option (Value × Hp), (∀ k, (kO (setLp h1 l 1 L1.pend) fun h2 =>
                  (codeS E fn D body).fn c (some l) T2 h2 (fun _ h3 => kO (setLp h3 l 0 none) fun h4 => k (.bool true) h4) (fun i _ h3 => kO (setLp h3 l 2 (some (.exit i))) fun h4 => k (.bool false) h4) (fun _ h3 => kO (setLp h3 l 2 (some .ret)) fun h4 => k (.bool false) h4)) = k2 r k) ∧ _
                cases hs2 : setLp h1 l 1 L1.pend with
                | none => exact no fun k => rfl
                | some h2 =>
                  obtain ⟨rd, d1, d2⟩ := codeS_ok hE hG hc hcall (f := fn) (N := N) (L := D) body (some l) T2 M2 h2 s2
                  show ∃ r : Option (Value × Hp), (∀ k, ((codeS E fn D body).fn c (some l) T2 h2 (fun _ h3 => kO (setLp h3 l 0 none) fun h4 => k (.bool true) h4) (fun i _ h3 => kO (setLp h3 l 2 (some (.exit i))) fun h4 => k (.bool false) h4) (fun _ h3 => kO (setLp h3 l 2 (some .ret)) fun h4 => k (.bool false) h4)) = k2 r k) ∧ _
                  simp only [d1]
                  have fin : ∀ (x : Exit) (T3 : FT) (h3 : Hp) (st' : Nat) (pend' : Option Code), rd = some (x, T3, h3) → endSt x = some (st', pend') → ∃ r : Option (Value × Hp), (∀ k : Value → Hp → Prop, (kO (setLp h3 l st' pend') fun h4 => k (.bool pend'.isNone) h4) = k2 r k) ∧ ∀ p, r = some p → RoundTo E.P l args h p.1 p.2 := by
                    intro x T3 h3 st' pend' erd hx
                    obtain ⟨M3, s3, lead2⟩ := d2 x T3 h3 erd
                    cases hs4 : setLp h3 l st' pend' with
                    | none => exact no fun k => rfl
                    | some h4 =>
                      refine ⟨some (.bool pend'.isNone, h4), fun k => rfl, fun p e => ?_⟩
                      cases e
                      exact fun θ w cargs hr ha x' hx' => round_sound hG hL (Nat.eq_of_beq_eq_true hq.1) (Nat.eq_of_beq_eq_true hq.2) lead1 hL1 (Nat.eq_of_beq_eq_true hq1) hs2 lead2 hx hs4 hr ha hx'
                  match rd, fin with
                  | none, _ => exact no fun k => rfl
                  | some (.normal, T3, h3), fin => exact fin _ _ _ 0 none rfl rfl
                  | some (.ret, T3, h3), fin => exact fin _ _ _ 2 (some .ret) rfl rfl
                  | some (.exit i, T3, h3), fin => exact fin _ _ _ 2 (some (.exit i)) rfl rfl
                  | some (.goto _, _, _), _ => exact no fun k => rfl
                  | some (.panic _, _, _), _ => exact no fun k => rfl
                  | some (.outgrown, _, _), _ => exact no fun k => rfl

theorem callK_ok [LG] {E : Env} (hE : EnvOk E) (hG : LGOk E) (L : Nat) : ∀ D, ∃ call, TwinC (callK E L D) call ∧ ∀ h, CallAt E.P call h.nxt h
  | 0 => ⟨fun _ _ _ => none, fun _ _ _ _ => rfl, fun h g args r h' e => by cases e⟩
  | D + 1 => by
    obtain ⟨call, hc, hcall⟩ := callK_ok hE hG L D
    have H : ∀ g args h, ∃ r : Option (Value × Hp), (∀ k, callK E L (D + 1) g args h k = k2 r k) ∧ ∀ p, r = some p → (g < unkU → CallsTo E.P g args h p.1 p.2) ∧ (unkU ≤ g → RoundTo E.P (g - unkU) args h p.1 p.2) := by
      intro g args h
      have hsh : ∀ k, callK E L (D + 1) g args h k = Bool.rec (motive := fun _ => Prop) (roundK E L (callK E L D) (g - unkU) args h k) ((fnS E L g).fn (callK E L D) args h k) (Nat.blt g unkU) := fun k => rfl
      cases hb : Nat.blt g unkU with
      | true =>
        obtain ⟨r, h1, h2⟩ := fnS_ok hE hG hc hcall L g (blt_lt hb) args h
        exact ⟨r, fun k => by rw [hsh, hb]; exact h1 k, fun p e => ⟨fun _ => h2 p e, fun q => by have := blt_lt hb; omega⟩⟩
      | false =>
        obtain ⟨r, h1, h2⟩ := roundK_ok hE hG hc hcall L (g - unkU) args h
        exact ⟨r, fun k => by rw [hsh, hb]; exact h1 k, fun p e => ⟨fun q => by have := blt_ge hb; omega, fun _ => h2 p e⟩⟩
    refine ⟨fun g args h => Classical.choose (H g args h), fun g args h k => (Classical.choose_spec (H g args h)).1 k, fun h g args r h' e θ w cargs hr ha => ?_⟩
    obtain ⟨k1, k2⟩ := (Classical.choose_spec (H g args h)).2 (r, h') e
    exact ⟨fun q => k1 q θ w cargs hr ha, fun q x hx => k2 q θ w cargs hr ha x hx⟩

/-- True it is. -/
def kTrue (v : Value) (_ : Hp) : Prop := isBool v False fun b => Bool.rec (motive := fun _ => Prop) False True b

theorem law_fast {E : Env} (hE : EnvOk E) {L D g : Nat} {fn : Func} (hfn : tget E.ff g = some fn) (hg : g < unkU) (hx : callK E L D g [] ⟨.nil, 0⟩ kTrue = True) (w : World) :
    Calls E.P g #[] w fun e w' => e = .returned (.bool true) ∧ Below w.heap.size w w' := by
  letI := lgOf E
  obtain ⟨call, hc, hcall⟩ := callK_ok hE (lgOf_ok E) L D
  rw [hc] at hx
  cases hr : call g [] ⟨.nil, 0⟩ with
  | none => rw [hr] at hx; exact absurd (hx ▸ trivial : (k2 (none : Option (Value × Hp)) kTrue)) id
  | some p =>
    rw [hr] at hx
    have hp : p.1 = .bool true := by
      have h1 : kTrue p.1 p.2 := by
        have : k2 (some p) kTrue := by rw [hx]; trivial
        exact this
      obtain ⟨v, h⟩ := p
      cases v <;> try exact False.elim h1
      rename_i b
      cases b
      · exact False.elim h1
      · rfl
    have hh : HR (fun _ => none) ⟨.nil, 0⟩ w := ⟨fun n e x q => (by cases q), fun n m e e' x y q => (by cases q), fun _ _ => rfl⟩
    rcases (hcall ⟨.nil, 0⟩ g [] p.1 p.2 hr (fun _ => none) w [] hh trivial).1 hg with ⟨_, h2⟩ | ⟨u, h1, _, _⟩
    · refine h2.mono fun e w' hq => ?_
      obtain ⟨θ', u, rfl, q1, q2, q3⟩ := hq
      rw [hp] at q3
      rw [W_plain rfl q3]
      exact ⟨rfl, q1.os, q1.tape, q1.output, q1.size, fun k hk => q1.frame k hk fun n e x q => by cases q⟩
    · exfalso
      obtain ⟨f1, f2, c', f3, _⟩ := hE.ff g fn hfn
      have f2' : ¬ fn.name = "runtime.NumGoroutine" := fun e => by rw [e] at f2; simp at f2
      simp [callFunc, f1, f2', f3] at h1

end Go.Ev
