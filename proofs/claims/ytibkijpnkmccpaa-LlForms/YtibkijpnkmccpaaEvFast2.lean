/- The faster road: operations. -/
import Derived.Test.YtibkijpnkmccpaaEvFast1
set_option linter.unusedVariables false
set_option linter.unusedSimpArgs false
namespace Go.Ev
open Go.Deep

abbrev CallC : Type := Nat → List Value → Hp → (Value → Hp → Prop) → Prop

def TwinC (c : CallC) (call : Nat → List Value → Hp → Option (Value × Hp)) : Prop := ∀ g args h k, c g args h k = k2 (call g args h) k

structure Xo where
  f0 : CallC → Nat → FT → Hp → (Value → Hp → Prop) → Prop

def Xo.fn (X : Xo) (x0 : CallC) (x1 : Nat) (x2 : FT) (x3 : Hp) (x4 : (Value → Hp → Prop)) : Prop := Xo.rec (motive := fun _ => Prop) (fun f => f x0 x1 x2 x3 x4) X

theorem Xo.fn_mk (f : CallC → Nat → FT → Hp → (Value → Hp → Prop) → Prop) (x0 : CallC) (x1 : Nat) (x2 : FT) (x3 : Hp) (x4 : (Value → Hp → Prop)) : (Xo.mk f).fn x0 x1 x2 x3 x4 = f x0 x1 x2 x3 x4 := rfl

def opvS : Operand → Rd
  | .tmp t => getS t
  | .const v => bif isPlain v then ⟨fun _ => some v⟩ else ⟨fun _ => none⟩
  | .func f => ⟨fun _ => some (.func (.func f) #[] #[])⟩
  | .global _ => ⟨fun _ => none⟩

def rhoS (T : FT) (x : Operand) : Option Value := (opvS x).fn T

theorem opvS_eq {T : FT} {M : Tm} (h : Sim T M) (x : Operand) : (opvS x).fn T = opv M x := by
  cases x with
  | tmp t => exact (getS_eq t T).trans (h t)
  | const v => simp only [opvS, opv]; cases isPlain v <;> rfl
  | func f => rfl
  | «global» g => rfl

theorem rhoS_eq {T : FT} {M : Tm} (h : Sim T M) : rhoS T = opv M := funext fun x => opvS_eq h x

def XoOk (E : Env) (o : Oper) (X : Xo) : Prop := ∀ (c : CallC) (call : Nat → List Value → Hp → Option (Value × Hp)), TwinC c call → ∀ nm T M h, Sim T M →
  ∃ r : Option (Value × Hp), (∀ k, X.fn c nm T h k = k2 r k) ∧ ∀ p, r = some p → xop E call nm o M h = some p

theorem XoOk.same {E : Env} {o : Oper} {X : Xo} (h : ∀ (c : CallC) (call : Nat → List Value → Hp → Option (Value × Hp)), TwinC c call → ∀ nm T M h, Sim T M → ∀ k, X.fn c nm T h k = k2 (xop E call nm o M h) k) : XoOk E o X :=
  fun c call hc nm T M hp hs => ⟨_, h c call hc nm T M hp hs, fun _ e => e⟩

/- Numbers made plain. -/

def fN (n : Nat) (k : Nat → Prop) : Prop := Nat.rec (motive := fun _ => Prop) (k 0) (fun m _ => k (Nat.succ m)) n

theorem fN_eq (n : Nat) (k : Nat → Prop) : fN n k = k n := by cases n <;> rfl

def fI (x : Int) (k : Int → Prop) : Prop := Int.rec (motive := fun _ => Prop) (fun n => fN n fun n => k (.ofNat n)) (fun n => fN n fun n => k (.negSucc n)) x

theorem fI_eq (x : Int) (k : Int → Prop) : fI x k = k x := by
  cases x with
  | ofNat n => show (fN n fun n => k (.ofNat n)) = _; rw [fN_eq]
  | negSucc n => show (fN n fun n => k (.negSucc n)) = _; rw [fN_eq]

def fB (b : Bool) (k : Bool → Prop) : Prop := Bool.rec (motive := fun _ => Prop) (k false) (k true) b

theorem fB_eq (b : Bool) (k : Bool → Prop) : fB b k = k b := by cases b <;> rfl

def fH (h : Hp) (k : Hp → Prop) : Prop := Hp.rec (motive := fun _ => Prop) (fun m n => fN n fun n => k ⟨m, n⟩) h

theorem fH_eq (h : Hp) (k : Hp → Prop) : fH h k = k h := by
  cases h with
  | mk m n => show (fN n fun n => k ⟨m, n⟩) = _; rw [fN_eq]

/-- If so. -/
def iff1 (b : Bool) (p : Prop) : Prop := Bool.rec (motive := fun _ => Prop) False p b

/- Any operation. -/

def anyS (E : Env) (o : Oper) : Xo := ⟨fun _ nm T h k => k2 (xopR E (fun _ _ _ => none) nm o (rhoS T) h) fun v h' => fH h' fun h' => k v h'⟩

theorem xopR_none {E : Env} {call : Nat → List Value → Hp → Option (Value × Hp)} {nm : Nat} {o : Oper} {ρ : Operand → Option Value} {h : Hp} {p : Value × Hp} (hx : xopR E (fun _ _ _ => none) nm o ρ h = some p) : xopR E call nm o ρ h = some p := by
  cases ho : o.op <;> simp only [xopR, ho] at hx ⊢ <;> try exact hx
  rename_i c
  unfold xCall at hx ⊢
  split at hx
  · rename_i f hc
    unfold xCallV at hx
    split at hx
    · rename_i g _ _ _ _ _
      cases hb : Nat.blt g unkU <;> rw [hb] at hx <;> cases hx
    · cases hx
    · cases hx
  · rename_i b hc
    exact hx
  · rename_i r name hc
    unfold xCallI at hx
    split at hx
    · rename_i t x vs hf hvs
      obtain ⟨ti, k1, k2⟩ := ob_some hx
      cases hq : (Nat.ble 1 ti.kind && !(Nat.beq ti.kind 7)) <;> simp only [hq, cond_true, cond_false, reduceCtorEq] at k2
      obtain ⟨g, k3, k4⟩ := ob_some k2
      cases hg : Nat.blt g unkU <;> simp only [hg, cond_true, cond_false, reduceCtorEq] at k4
    · cases hx

theorem k2_fH (r : Option (Value × Hp)) (k : Value → Hp → Prop) : (k2 r fun v h' => fH h' fun h' => k v h') = k2 r k := by
  cases r with
  | none => rfl
  | some p => exact fH_eq _ _

theorem anyS_ok (E : Env) (o : Oper) : XoOk E o (anyS E o) := by
  intro c call hc nm T M h hs
  refine ⟨xopR E (fun _ _ _ => none) nm o (opv M) h, fun k => ?_, fun p hp => xopR_none hp⟩
  show (k2 (xopR E (fun _ _ _ => none) nm o (rhoS T) h) fun v h' => fH h' fun h' => k v h') = _
  rw [k2_fH, rhoS_eq hs]

def nowS : Xo := ⟨fun _ _ _ _ _ => False⟩

theorem nowS_ok (E : Env) (o : Oper) : XoOk E o nowS := fun _ _ _ _ _ _ _ _ => ⟨none, fun _ => rfl, fun _ e => by cases e⟩

/- Values told apart. -/

def isPtr (v : Value) (k : Addr → Prop) : Prop :=
  Value.rec (motive_1 := fun _ => Prop) (motive_2 := fun _ => Prop) (motive_3 := fun _ => Prop) (fun _ => False) (fun _ _ => False) (fun _ _ => False) (fun _ _ _ => False) (fun _ => False) (fun a => Option.rec (motive := fun _ => Prop) False (k) a) (fun _ _ _ => False) (fun _ => False) (fun _ => False) (fun _ _ _ _ _ => False) False (fun _ _ _ => False) False (fun _ _ => False) (fun _ _ => False) (fun _ _ => True) True (fun _ _ _ _ => True) v

def isI (v : Value) (e : Prop) (k : Int → Prop) : Prop :=
  Value.rec (motive_1 := fun _ => Prop) (motive_2 := fun _ => Prop) (motive_3 := fun _ => Prop) (fun _ => e) (fun kd n => IntKind.rec (motive := fun _ => Prop) e e e (k n) e e e e kd) (fun _ _ => e) (fun _ _ _ => e) (fun _ => e) (fun _ => e) (fun _ _ _ => e) (fun _ => e) (fun _ => e) (fun _ _ _ _ _ => e) e (fun _ _ _ => e) e (fun _ _ => e) (fun _ _ => e) (fun _ _ => True) True (fun _ _ _ _ => True) v

def isBool (v : Value) (e : Prop) (k : Bool → Prop) : Prop :=
  Value.rec (motive_1 := fun _ => Prop) (motive_2 := fun _ => Prop) (motive_3 := fun _ => Prop) k (fun _ _ => e) (fun _ _ => e) (fun _ _ _ => e) (fun _ => e) (fun _ => e) (fun _ _ _ => e) (fun _ => e) (fun _ => e) (fun _ _ _ _ _ => e) e (fun _ _ _ => e) e (fun _ _ => e) (fun _ _ => e) (fun _ _ => True) True (fun _ _ _ _ => True) v

def isSl (v : Value) (e : Prop) (k : Nat → Prop) : Prop :=
  Value.rec (motive_1 := fun _ => Prop) (motive_2 := fun _ => Prop) (motive_3 := fun _ => Prop) (fun _ => e) (fun _ _ => e) (fun _ _ => e) (fun _ _ _ => e) (fun _ => e) (fun _ => e) (fun _ n _ => k n) (fun _ => e) (fun _ => e) (fun _ _ _ _ _ => e) e (fun _ _ _ => e) e (fun _ _ => e) (fun _ _ => e) (fun _ _ => True) True (fun _ _ _ _ => True) v

def isStr (v : Value) (e : Prop) (k : ByteArray → Prop) : Prop :=
  Value.rec (motive_1 := fun _ => Prop) (motive_2 := fun _ => Prop) (motive_3 := fun _ => Prop) (fun _ => e) (fun _ _ => e) (fun _ _ => e) (fun _ _ _ => e) k (fun _ => e) (fun _ _ _ => e) (fun _ => e) (fun _ => e) (fun _ _ _ _ _ => e) e (fun _ _ _ => e) e (fun _ _ => e) (fun _ _ => e) (fun _ _ => True) True (fun _ _ _ _ => True) v

theorem isI_else {v : Value} (h : ∀ n, v ≠ .int .i64 n) (e : Prop) (k : Int → Prop) : isI v e k = e := by
  cases v <;> try rfl
  rename_i kd n
  cases kd <;> first | rfl | exact absurd rfl (h n)

theorem isBool_else {v : Value} (h : ∀ b, v ≠ .bool b) (e : Prop) (k : Bool → Prop) : isBool v e k = e := by
  cases v <;> try rfl
  rename_i b
  exact absurd rfl (h b)

/- Memory by continuations. -/

def hloadC (h : Hp) (a : Addr) (n : Nat) (k : List Value → Prop) : Prop :=
  Option.rec (motive := fun _ => Prop) (getC h.m a.block fun e => kO e fun e => rdC e.cells n a.off k) (fun _ => False) a.spot

theorem hloadC_eq (h : Hp) (a : Addr) (n : Nat) (k : List Value → Prop) : hloadC h a n k = kO (hload h a n) k := by
  unfold hloadC hload
  rw [getC_eq]
  cases a.spot with
  | some s => rfl
  | none =>
    cases tget h.m a.block with
    | none => rfl
    | some e => exact rdC_eq _ _ _ _

def hload1C (h : Hp) (a : Addr) (k : Value → Prop) : Prop :=
  Option.rec (motive := fun _ => Prop) (getC h.m a.block fun e => kO e fun e => getC e.cells a.off fun v => kO v k) (fun _ => False) a.spot

theorem hload1C_eq (h : Hp) (a : Addr) (k : Value → Prop) : hload1C h a k = kO (hload h a 1) fun l => match l with | [v] => k v | _ => False := by
  unfold hload1C hload
  rw [getC_eq]
  cases a.spot with
  | some s => rfl
  | none =>
    cases tget h.m a.block with
    | none => rfl
    | some e =>
      show (getC e.cells a.off fun v => kO v k) = _
      rw [getC_eq]
      simp only [rd]
      cases tget e.cells a.off <;> rfl

def hstoreC (h : Hp) (a : Addr) (vs : List Value) (k : Hp → Prop) : Prop :=
  Option.rec (motive := fun _ => Prop) (getC h.m a.block fun e => kO e fun e => iff1 (wrB e) (rdC e.cells vs.length a.off fun _ => wrC vs e.cells a.off fun cs => setC (some ⟨cs, e.len, e.unk, none⟩) h.m a.block fun m => k ⟨m, h.nxt⟩)) (fun _ => False) a.spot

theorem hstoreC_eq (h : Hp) (a : Addr) (vs : List Value) (k : Hp → Prop) : hstoreC h a vs k = kO (hstore h a vs) k := by
  unfold hstoreC hstore
  rw [getC_eq]
  cases a.spot with
  | some s => rfl
  | none =>
    cases tget h.m a.block with
    | none => rfl
    | some e =>
      show iff1 (wrB e) (rdC e.cells vs.length a.off fun _ => wrC vs e.cells a.off fun cs => setC (some ⟨cs, e.len, e.unk, none⟩) h.m a.block fun m => k ⟨m, h.nxt⟩) = _
      simp only
      cases wrB e with
      | false => rfl
      | true =>
      show (rdC e.cells vs.length a.off fun _ => wrC vs e.cells a.off fun cs => setC (some ⟨cs, e.len, e.unk, none⟩) h.m a.block fun m => k ⟨m, h.nxt⟩) = _
      rw [rdC_eq]
      simp only [cond_true]
      cases hrd : rd e.cells a.off vs.length with
      | none => simp only [hrd]; rfl
      | some l =>
        simp only [hrd]
        show (wrC vs e.cells a.off fun cs => setC (some ⟨cs, e.len, e.unk, none⟩) h.m a.block fun m => k ⟨m, h.nxt⟩) = _
        rw [wrC_eq, setC_eq]
        rfl

def hallocC (h : Hp) (nm : Nat) (e : Ent) (k : Hp → Prop) : Prop := setC (some e) h.m nm fun m => Bool.rec (motive := fun _ => Prop) (k ⟨m, h.nxt⟩) (k ⟨m, Nat.succ nm⟩) (Nat.ble h.nxt (Nat.succ nm))

theorem hallocC_eq (h : Hp) (nm : Nat) (e : Ent) (k : Hp → Prop) : hallocC h nm e k = k (halloc h nm e) := by
  unfold hallocC halloc
  rw [setC_eq]
  cases hb : Nat.ble h.nxt (Nat.succ nm)
  · have : ¬ h.nxt ≤ nm + 1 := fun q => by rw [Nat.ble_eq_true_of_le q] at hb; cases hb
    have e : max h.nxt (nm + 1) = h.nxt := by omega
    rw [e]
  · have : h.nxt ≤ nm + 1 := Nat.le_of_ble_eq_true hb
    have e : max h.nxt (nm + 1) = nm + 1 := by omega
    rw [e]

/- The operations. -/

def moveS (x : Operand) : Xo := match opvS x with
  | ⟨p⟩ => ⟨fun _ _ T h k => kO (p T) fun v => k v h⟩

theorem moveS_ok (E : Env) {o : Oper} {x : Operand} (ho : o.op = .move x ∨ o.op = .assign x) : XoOk E o (moveS x) := by
  refine XoOk.same fun c call hc nm T M h hs k => ?_
  show (kO ((opvS x).fn T) fun v => k v h) = _
  rw [opvS_eq hs]
  rcases ho with ho | ho <;> simp only [xop, xopR, ho, xMove] <;> cases opv M x <;> rfl

def pickS (c a b : Operand) : Xo := ⟨fun _ _ T h k => kO ((opvS c).fn T) fun v => isBool v False fun q => Bool.rec (motive := fun _ => Prop) (kO ((opvS b).fn T) fun v => k v h) (kO ((opvS a).fn T) fun v => k v h) q⟩

theorem pickS_ok (E : Env) {o : Oper} {x a b : Operand} (ho : o.op = .pick x a b) : XoOk E o (pickS x a b) := by
  refine XoOk.same fun c call hc nm T M h hs k => ?_
  show (kO ((opvS x).fn T) fun v => isBool v False fun q => Bool.rec (motive := fun _ => Prop) (kO ((opvS b).fn T) fun v => k v h) (kO ((opvS a).fn T) fun v => k v h) q) = _
  rw [opvS_eq hs, opvS_eq hs, opvS_eq hs]
  simp only [xop, xopR, ho, xPick]
  cases opv M x with
  | none => rfl
  | some v =>
    cases v <;> try rfl
    rename_i q
    cases q
    · cases opv M b <;> rfl
    · cases opv M a <;> rfl

def allocS (E : Env) (t : TypeId) : Xo := match tget E.tt t with
  | none => nowS
  | some ti => ⟨fun _ nm _ h k => hallocC h nm (allocE E nm t ti.zero) fun h' => k (newPtr nm) h'⟩

theorem allocS_ok (E : Env) {o : Oper} {t : TypeId} (ho : o.op = .alloc t) : XoOk E o (allocS E t) := by
  unfold allocS
  split
  · exact nowS_ok E o
  · rename_i ti hti
    refine XoOk.same fun c call hc nm T M h hs k => ?_
    show (hallocC h nm (allocE E nm t ti.zero) fun h' => k (newPtr nm) h') = _
    rw [hallocC_eq]
    simp only [xop, xopR, ho, xAlloc, hti]
    rfl

def boxS (x : Operand) : Xo := match opvS x with
  | ⟨p⟩ => ⟨fun _ nm T h k => kO (p T) fun v => kO (cellsA v) fun cs => wrC cs .nil 0 fun cells => hallocC h nm ⟨cells, cs.length, 0, none⟩ fun h' => k (newPtr nm) h'⟩

theorem boxS_ok (E : Env) {o : Oper} {t : TypeId} {x : Operand} (ho : o.op = .box t x) : XoOk E o (boxS x) := by
  refine XoOk.same fun c call hc nm T M h hs k => ?_
  show (kO ((opvS x).fn T) fun v => kO (cellsA v) fun cs => wrC cs .nil 0 fun cells => hallocC h nm ⟨cells, cs.length, 0, none⟩ fun h' => k (newPtr nm) h') = _
  rw [opvS_eq hs]
  simp only [xop, xopR, ho, xBox]
  cases opv M x with
  | none => rfl
  | some v =>
    show (kO (cellsA v) fun cs => wrC cs .nil 0 fun cells => hallocC h nm ⟨cells, cs.length, 0, none⟩ fun h' => k (newPtr nm) h') = k2 (ob (cellsA v) _) k
    cases cellsA v with
    | none => rfl
    | some cs =>
      show (wrC cs .nil 0 fun cells => hallocC h nm ⟨cells, cs.length, 0, none⟩ fun h' => k (newPtr nm) h') = _
      rw [wrC_eq, hallocC_eq]
      rfl

def loadS (E : Env) (t : TypeId) (a : Operand) : Xo := match tget E.tt t with
  | none => nowS
  | some ti => bif ti.agg then (match opvS a with | ⟨p⟩ => ⟨fun _ _ T h k => kO (p T) fun v => isPtr v fun ad => hloadC h ad ti.size fun cs => k (.agg cs.toArray) h⟩)
    else (match opvS a with | ⟨p⟩ => ⟨fun _ _ T h k => kO (p T) fun v => isPtr v fun ad => hload1C h ad fun v => k v h⟩)

theorem loadS_ok (E : Env) {o : Oper} {t : TypeId} {a : Operand} (ho : o.op = .load t a) : XoOk E o (loadS E t a) := by
  unfold loadS
  split
  · exact nowS_ok E o
  · rename_i ti hti
    cases hg : ti.agg <;> simp only [cond_true, cond_false]
    · refine XoOk.same fun c call hc nm T M h hs k => ?_
      show (kO ((opvS a).fn T) fun v => isPtr v fun ad => hload1C h ad fun v => k v h) = _
      rw [opvS_eq hs]
      simp only [xop, xopR, ho, xLoad, hti, hg]
      cases opv M a with
      | none => rfl
      | some v =>
        cases v <;> try rfl
        rename_i ad
        cases ad with
        | none => rfl
        | some ad =>
          show (hload1C h ad fun v => k v h) = k2 (bif ti.agg then (ob (hload h ad ti.size) fun cs => some (.agg cs.toArray, h)) else (match hload h ad 1 with | some [v] => some (v, h) | _ => none)) k
          rw [hg, hload1C_eq]
          cases hload h ad 1 with
          | none => rfl
          | some l => match l with
            | [] => rfl
            | [v] => rfl
            | _ :: _ :: _ => rfl
    · refine XoOk.same fun c call hc nm T M h hs k => ?_
      show (kO ((opvS a).fn T) fun v => isPtr v fun ad => hloadC h ad ti.size fun cs => k (.agg cs.toArray) h) = _
      rw [opvS_eq hs]
      simp only [xop, xopR, ho, xLoad, hti, hg]
      cases opv M a with
      | none => rfl
      | some v =>
        cases v <;> try rfl
        rename_i ad
        cases ad with
        | none => rfl
        | some ad =>
          show (hloadC h ad ti.size fun cs => k (.agg cs.toArray) h) = k2 (bif ti.agg then (ob (hload h ad ti.size) fun cs => some (.agg cs.toArray, h)) else (match hload h ad 1 with | some [v] => some (v, h) | _ => none)) k
          rw [hg, hloadC_eq]
          cases hload h ad ti.size <;> rfl

def storeS (E : Env) (t : TypeId) (a x : Operand) : Xo := match tget E.tt t with
  | none => nowS
  | some ti => match opvS a, opvS x with
    | ⟨f⟩, ⟨g⟩ => ⟨fun _ _ T h k => kO (f T) fun p => isPtr p fun ad => kO (g T) fun v => kO (cellsA v) fun cs => iff1 (Nat.beq cs.length ti.size) (hstoreC h ad cs fun h' => k undefV h')⟩

theorem storeS_ok (E : Env) {o : Oper} {t : TypeId} {a x : Operand} (ho : o.op = .store t a x) : XoOk E o (storeS E t a x) := by
  unfold storeS
  split
  · exact nowS_ok E o
  · rename_i ti hti
    refine XoOk.same fun c call hc nm T M h hs k => ?_
    show (kO ((opvS a).fn T) fun p => isPtr p fun ad => kO ((opvS x).fn T) fun v => kO (cellsA v) fun cs => iff1 (Nat.beq cs.length ti.size) (hstoreC h ad cs fun h' => k undefV h')) = _
    rw [opvS_eq hs, opvS_eq hs]
    simp only [xop, xopR, ho, xStore, hti]
    cases opv M a with
    | none => rfl
    | some p =>
      cases p <;> try rfl
      rename_i ad
      cases ad with
      | none => rfl
      | some ad =>
        cases opv M x with
        | none => rfl
        | some v =>
          show (kO (cellsA v) fun cs => iff1 (Nat.beq cs.length ti.size) (hstoreC h ad cs fun h' => k undefV h')) = k2 (ob (cellsA v) fun cs => bif Nat.beq cs.length ti.size then ob (hstore h ad cs) fun h' => some (undefV, h') else none) k
          cases cellsA v with
          | none => rfl
          | some cs =>
            show iff1 (Nat.beq cs.length ti.size) (hstoreC h ad cs fun h' => k undefV h') = k2 (bif Nat.beq cs.length ti.size then ob (hstore h ad cs) fun h' => some (undefV, h') else none) k
            cases Nat.beq cs.length ti.size with
            | false => rfl
            | true =>
              show (hstoreC h ad cs fun h' => k undefV h') = k2 (ob (hstore h ad cs) fun h' => some (undefV, h')) k
              rw [hstoreC_eq]
              cases hstore h ad cs <;> rfl

def nilC (v : Value) (k : Value → Prop) : Prop :=
  Value.rec (motive_1 := fun _ => Prop) (motive_2 := fun _ => Prop) (motive_3 := fun _ => Prop) (fun _ => False) (fun _ _ => False) (fun _ _ => False) (fun _ _ _ => False) (fun _ => False) (fun a => Option.rec (motive := fun _ => Prop) False (fun ad => k (.pointer (some ad))) a) (fun _ _ _ => False) (fun _ => False) (fun _ => False) (fun f a b _ _ => Fn.rec (motive := fun _ => Prop) (fun g => k (.func (.func g) a b)) (fun _ => False) (fun _ _ => False) (fun _ _ _ _ => False) (fun _ => False) f) False (fun _ _ _ => False) False (fun _ _ => False) (fun _ _ => False) (fun _ _ => True) True (fun _ _ _ _ => True) v

def nilS (x : Operand) : Xo := match opvS x with
  | ⟨p⟩ => ⟨fun _ _ T h k => kO (p T) fun v => nilC v fun v => k v h⟩

theorem nilS_ok (E : Env) {o : Oper} {x : Operand} (ho : o.op = .nilCheck x) : XoOk E o (nilS x) := by
  refine XoOk.same fun c call hc nm T M h hs k => ?_
  show (kO ((opvS x).fn T) fun v => nilC v fun v => k v h) = _
  rw [opvS_eq hs]
  simp only [xop, xopR, ho, xNil]
  cases opv M x with
  | none => rfl
  | some v =>
    cases v <;> try rfl
    · rename_i ad
      cases ad <;> rfl
    · rename_i fr a b
      cases fr <;> rfl

/-- A number that fits. -/
def okI (n : Nat) (k : Int → Prop) (e : Prop) : Prop := Bool.rec (motive := fun _ => Prop) e (fN n fun n => k (.ofNat n)) (Nat.blt n 9223372036854775808)

def addC (m n : Int) (k : Int → Prop) : Prop :=
  Int.rec (motive := fun _ => Prop) (fun a => Int.rec (motive := fun _ => Prop) (fun b => okI (Nat.add a b) k (fI (wrapF (Int.add m n)) k)) (fun _ => fI (wrapF (Int.add m n)) k) n) (fun _ => fI (wrapF (Int.add m n)) k) m

def subC (m n : Int) (k : Int → Prop) : Prop :=
  Int.rec (motive := fun _ => Prop) (fun a => Int.rec (motive := fun _ => Prop) (fun b => Bool.rec (motive := fun _ => Prop) (fI (wrapF (Int.sub m n)) k) (okI (Nat.sub a b) k (fI (wrapF (Int.sub m n)) k)) (Nat.ble b a)) (fun _ => fI (wrapF (Int.sub m n)) k) n) (fun _ => fI (wrapF (Int.sub m n)) k) m

def ltC (m n : Int) (k : Bool → Prop) : Prop :=
  Int.rec (motive := fun _ => Prop) (fun a => Int.rec (motive := fun _ => Prop) (fun b => fB (Nat.blt a b) k) (fun _ => k false) n) (fun a => Int.rec (motive := fun _ => Prop) (fun _ => k true) (fun b => fB (Nat.blt b a) k) n) m

def eqC (m n : Int) (k : Bool → Prop) : Prop :=
  Int.rec (motive := fun _ => Prop) (fun a => Int.rec (motive := fun _ => Prop) (fun b => fB (Nat.beq a b) k) (fun _ => k false) n) (fun a => Int.rec (motive := fun _ => Prop) (fun _ => k false) (fun b => fB (Nat.beq a b) k) n) m

theorem okI_eq {n : Nat} {k : Int → Prop} {x : Int} (hx : x = .ofNat n) : okI n k (fI (wrapF x) k) = k (wrapF x) := by
  subst hx
  unfold okI
  cases hb : Nat.blt n 9223372036854775808
  · exact fI_eq _ _
  · show (fN n fun n => k (.ofNat n)) = _
    rw [fN_eq]
    have : inI64 (Int.ofNat n) = true := hb
    unfold wrapF
    rw [this]
    rfl

theorem addC_eq (m n : Int) (k : Int → Prop) : addC m n k = k (wrapF (Int.add m n)) := by
  cases m <;> cases n
  · exact okI_eq rfl
  all_goals exact fI_eq _ _

theorem subC_eq (m n : Int) (k : Int → Prop) : subC m n k = k (wrapF (Int.sub m n)) := by
  cases m <;> cases n
  · rename_i a b
    show Bool.rec (motive := fun _ => Prop) (fI (wrapF (Int.sub (.ofNat a) (.ofNat b))) k) (okI (Nat.sub a b) k (fI (wrapF (Int.sub (.ofNat a) (.ofNat b))) k)) (Nat.ble b a) = _
    cases hb : Nat.ble b a
    · exact fI_eq _ _
    · refine okI_eq ?_
      have := Nat.le_of_ble_eq_true hb
      exact (Int.ofNat_sub this).symm
  all_goals exact fI_eq _ _

theorem ltC_eq (m n : Int) (k : Bool → Prop) : ltC m n k = k (iLt m n) := by
  cases m <;> cases n <;> first | rfl | exact fB_eq _ _

theorem eqC_eq (m n : Int) (k : Bool → Prop) : eqC m n k = k (iEq m n) := by
  cases m <;> cases n <;> first | rfl | exact fB_eq _ _

def fNot (b : Bool) (k : Bool → Prop) : Prop := Bool.rec (motive := fun _ => Prop) (k true) (k false) b

theorem fNot_eq (b : Bool) (k : Bool → Prop) : fNot b k = k (!b) := by cases b <;> rfl

structure F2 where
  f0 : Int → Int → (Value → Prop) → Prop

def F2.fn (X : F2) (x0 : Int) (x1 : Int) (x2 : (Value → Prop)) : Prop := F2.rec (motive := fun _ => Prop) (fun f => f x0 x1 x2) X

theorem F2.fn_mk (f : Int → Int → (Value → Prop) → Prop) (x0 : Int) (x1 : Int) (x2 : (Value → Prop)) : (F2.mk f).fn x0 x1 x2 = f x0 x1 x2 := rfl

def fast2 : BinOp → Option F2
  | .add => some ⟨fun m n k => addC m n fun r => k (.int .i64 r)⟩
  | .sub => some ⟨fun m n k => subC m n fun r => k (.int .i64 r)⟩
  | .mul => some ⟨fun m n k => fI (wrapF (Int.mul m n)) fun r => k (.int .i64 r)⟩
  | .eql => some ⟨fun m n k => eqC m n fun r => k (.bool r)⟩
  | .neq => some ⟨fun m n k => eqC m n fun r => fNot r fun r => k (.bool r)⟩
  | .lss => some ⟨fun m n k => ltC m n fun r => k (.bool r)⟩
  | .leq => some ⟨fun m n k => ltC n m fun r => fNot r fun r => k (.bool r)⟩
  | .gtr => some ⟨fun m n k => ltC n m fun r => k (.bool r)⟩
  | .geq => some ⟨fun m n k => ltC m n fun r => fNot r fun r => k (.bool r)⟩
  | _ => none

theorem fast2_ok {op : BinOp} {F : F2} (h : fast2 op = some F) (m n : Int) : ∃ w, fastI op m n = some w ∧ ∀ k, F.fn m n k = k w := by
  cases op <;> simp only [fast2, reduceCtorEq, Option.some.injEq] at h <;> subst h <;> refine ⟨_, rfl, fun k => ?_⟩ <;> simp only [F2.fn, fI_eq, addC_eq, subC_eq, ltC_eq, eqC_eq, fNot_eq]

def binS (E : Env) (o : Oper) (op : BinOp) (x y : Operand) : Xo := match fast2 op with
  | none => anyS E o
  | some F => match opvS x, opvS y, F with
    | ⟨p⟩, ⟨q⟩, ⟨f⟩ => ⟨fun c nm T h k => kO (p T) fun a => kO (q T) fun b => isI a ((anyS E o).fn c nm T h k) fun m => isI b ((anyS E o).fn c nm T h k) fun n => f m n fun v => k v h⟩

theorem binS_ok (E : Env) {o : Oper} {op : BinOp} {t t2 : TypeId} {x y : Operand} (ho : o.op = .binOp op t x y t2) : XoOk E o (binS E o op x y) := by
  unfold binS
  split
  · exact anyS_ok E o
  · rename_i F hF
    intro c call hc nm T M h hs
    obtain ⟨r, h1, h2⟩ := anyS_ok E o c call hc nm T M h hs
    change ∃ r : Option (Value × Hp), (∀ k, (Xo.mk fun c nm T h k => kO ((opvS x).fn T) fun a => kO ((opvS y).fn T) fun b => isI a ((anyS E o).fn c nm T h k) fun m => isI b ((anyS E o).fn c nm T h k) fun n => F.fn m n fun v => k v h).fn c nm T h k = k2 r k) ∧ ∀ p, r = some p → xop E call nm o M h = some p
    have hsh : ∀ k, (Xo.mk fun c nm T h k => kO ((opvS x).fn T) fun a => kO ((opvS y).fn T) fun b => isI a ((anyS E o).fn c nm T h k) fun m => isI b ((anyS E o).fn c nm T h k) fun n => F.fn m n fun v => k v h).fn c nm T h k = kO (opv M x) fun a => kO (opv M y) fun b => isI a (k2 r k) fun m => isI b (k2 r k) fun n => F.fn m n fun v => k v h := by
      intro k
      show (kO ((opvS x).fn T) fun a => kO ((opvS y).fn T) fun b => isI a ((anyS E o).fn c nm T h k) fun m => isI b ((anyS E o).fn c nm T h k) fun n => F.fn m n fun v => k v h) = _
      rw [opvS_eq hs, opvS_eq hs, h1]
    cases hx : opv M x with
    | none => exact ⟨none, fun k => by rw [hsh, hx]; rfl, fun _ e => by cases e⟩
    | some a =>
      cases hy : opv M y with
      | none => exact ⟨none, fun k => by rw [hsh, hx, hy]; rfl, fun _ e => by cases e⟩
      | some b =>
        by_cases ha : ∃ m, a = .int .i64 m
        · obtain ⟨m, rfl⟩ := ha
          by_cases hb : ∃ n, b = .int .i64 n
          · obtain ⟨n, rfl⟩ := hb
            obtain ⟨w, f1, f2⟩ := fast2_ok hF m n
            refine ⟨some (w, h), fun k => ?_, fun p e => ?_⟩
            · rw [hsh, hx, hy]
              exact f2 _
            · cases e
              simp only [xop, xopR, ho, xBin, hx, hy, fastB, f1]
          · refine ⟨r, fun k => ?_, h2⟩
            rw [hsh, hx, hy]
            exact isI_else (fun n e => hb ⟨n, e⟩) _ _
        · refine ⟨r, fun k => ?_, h2⟩
          rw [hsh, hx, hy]
          exact isI_else (fun n e => ha ⟨n, e⟩) _ _

def unS (E : Env) (o : Oper) (op : UnOp) (x : Operand) : Xo := match op with
  | .not => ⟨fun c nm T h k => kO ((opvS x).fn T) fun v => isBool v False fun b => fNot b fun b => k (.bool b) h⟩
  | _ => anyS E o

theorem unS_ok (E : Env) {o : Oper} {op : UnOp} {t : TypeId} {x : Operand} (ho : o.op = .unOp op t x) : XoOk E o (unS E o op x) := by
  unfold unS
  split
  · intro c call hc nm T M h hs
    have hsh : ∀ k, (Xo.mk fun c nm T h k => kO ((opvS x).fn T) fun v => isBool v False fun b => fNot b fun b => k (.bool b) h).fn c nm T h k = kO (opv M x) fun v => isBool v False fun b => k (.bool (!b)) h := by
      intro k
      show (kO ((opvS x).fn T) fun v => isBool v False fun b => fNot b fun b => k (.bool b) h) = _
      rw [opvS_eq hs]
      simp only [fNot_eq]
    cases hx : opv M x with
    | none => exact ⟨none, fun k => by rw [hsh, hx]; rfl, fun _ e => by cases e⟩
    | some v =>
      by_cases hv : ∃ b, v = .bool b
      · obtain ⟨b, rfl⟩ := hv
        refine ⟨some (.bool (!b), h), fun k => by rw [hsh, hx]; rfl, fun p e => ?_⟩
        cases e
        simp only [xop, xopR, ho, xUn, hx]
      · refine ⟨none, fun k => ?_, fun _ e => by cases e⟩
        rw [hsh, hx]
        exact isBool_else (fun b e => hv ⟨b, e⟩) _ _
  · exact anyS_ok E o

def fieldS (E : Env) (s : TypeId) (x : Operand) (f : Nat) : Xo := match tget E.tt s with
  | none => nowS
  | some ti => match ti.flds[f]? with
    | none => nowS
    | some fl => bif Nat.beq ti.kind 3 && !(Nat.beq fl.2 0) then (match opvS x with | ⟨p⟩ => ⟨fun _ _ T h k => kO (p T) fun v => isPtr v fun ad => Option.rec (motive := fun _ => Prop) (fN (Nat.add ad.off fl.1) fun off => k (.pointer (some ⟨ad.block, off, none⟩)) h) (fun _ => False) ad.spot⟩) else nowS

theorem fieldS_ok (E : Env) {o : Oper} {s : TypeId} {x : Operand} {f : Nat} (ho : o.op = .fieldAddr s x f) : XoOk E o (fieldS E s x f) := by
  unfold fieldS
  split
  · exact nowS_ok E o
  · rename_i ti hti
    split
    · exact nowS_ok E o
    · rename_i fl hfl
      cases hq : (Nat.beq ti.kind 3 && !(Nat.beq fl.2 0)) <;> simp only [cond_true, cond_false]
      · exact nowS_ok E o
      · refine XoOk.same fun c call hc nm T M h hs k => ?_
        show (kO ((opvS x).fn T) fun v => isPtr v fun ad => Option.rec (motive := fun _ => Prop) (fN (ad.off + fl.1) fun off => k (.pointer (some ⟨ad.block, off, none⟩)) h) (fun _ => False) ad.spot) = _
        rw [opvS_eq hs]
        simp only [xop, xopR, ho, xField, hti, fN_eq]
        cases opv M x with
        | none => rfl
        | some v =>
          cases v <;> try rfl
          rename_i ad
          cases ad with
          | none => rfl
          | some ad =>
            show Option.rec (motive := fun _ => Prop) (k (.pointer (some ⟨ad.block, ad.off + fl.1, none⟩)) h) (fun _ => False) ad.spot = k2 (ob (ti.flds[f]?) fun fl => bif Nat.beq ti.kind 3 && !(Nat.beq fl.2 0) && ad.spot.isNone then some (.pointer (some ⟨ad.block, ad.off + fl.1, none⟩), h) else none) k
            rw [hfl]
            simp only [ob, hq, Bool.true_and]
            cases ad.spot <;> rfl

/-- A place in a row. -/
def idxC (a b : Value) (k : Addr → Nat → Prop) : Prop :=
  Value.rec (motive_1 := fun _ => Prop) (motive_2 := fun _ => Prop) (motive_3 := fun _ => Prop) (fun _ => False) (fun _ _ => False) (fun _ _ => False) (fun _ _ _ => False) (fun _ => False) (fun _ => False) (fun a len _ => Option.rec (motive := fun _ => Prop) False (fun ad => Value.rec (motive_1 := fun _ => Prop) (motive_2 := fun _ => Prop) (motive_3 := fun _ => Prop) (fun _ => False) (fun _ i => Int.rec (motive := fun _ => Prop) (fun i => iff1 (Nat.blt i len) (Option.rec (motive := fun _ => Prop) (k ad i) (fun _ => False) ad.spot)) (fun _ => False) i) (fun _ _ => False) (fun _ _ _ => False) (fun _ => False) (fun _ => False) (fun _ _ _ => False) (fun _ => False) (fun _ => False) (fun _ _ _ _ _ => False) False (fun _ _ _ => False) False (fun _ _ => False) (fun _ _ => False) (fun _ _ => True) True (fun _ _ _ _ => True) b) a) (fun _ => False) (fun _ => False) (fun _ _ _ _ _ => False) False (fun _ _ _ => False) False (fun _ _ => False) (fun _ _ => False) (fun _ _ => True) True (fun _ _ _ _ => True) a

def idxP (a b : Value) (len : Nat) (k : Addr → Nat → Prop) : Prop :=
  Value.rec (motive_1 := fun _ => Prop) (motive_2 := fun _ => Prop) (motive_3 := fun _ => Prop) (fun _ => False) (fun _ _ => False) (fun _ _ => False) (fun _ _ _ => False) (fun _ => False) (fun a => Option.rec (motive := fun _ => Prop) False (fun ad => Value.rec (motive_1 := fun _ => Prop) (motive_2 := fun _ => Prop) (motive_3 := fun _ => Prop) (fun _ => False) (fun _ i => Int.rec (motive := fun _ => Prop) (fun i => iff1 (Nat.blt i len) (Option.rec (motive := fun _ => Prop) (k ad i) (fun _ => False) ad.spot)) (fun _ => False) i) (fun _ _ => False) (fun _ _ _ => False) (fun _ => False) (fun _ => False) (fun _ _ _ => False) (fun _ => False) (fun _ => False) (fun _ _ _ _ _ => False) False (fun _ _ _ => False) False (fun _ _ => False) (fun _ _ => False) (fun _ _ => True) True (fun _ _ _ _ => True) b) a) (fun _ _ _ => False) (fun _ => False) (fun _ => False) (fun _ _ _ _ _ => False) False (fun _ _ _ => False) False (fun _ _ => False) (fun _ _ => False) (fun _ _ => True) True (fun _ _ _ _ => True) a

def idxS (E : Env) (t : TypeId) (x ix : Operand) : Xo := match tget E.tt t with
  | none => nowS
  | some ti => match tget E.tt ti.elem with
    | none => nowS
    | some ei => bif Nat.beq ti.kind 1 then ⟨fun _ _ T h k => kO ((opvS x).fn T) fun a => kO ((opvS ix).fn T) fun b => idxC a b fun ad i => fN (ad.off + i * ei.size) fun off => k (.pointer (some ⟨ad.block, off, none⟩)) h⟩
      else bif Nat.beq ti.kind 2 then ⟨fun _ _ T h k => kO ((opvS x).fn T) fun a => kO ((opvS ix).fn T) fun b => idxP a b ti.alen fun ad i => fN (ad.off + i * ei.size) fun off => k (.pointer (some ⟨ad.block, off, none⟩)) h⟩
      else nowS

theorem dec_ofNat (i n : Nat) : decide (Int.ofNat i < (n : Int)) = Nat.blt i n := by
  cases hb : Nat.blt i n
  · have := blt_ge hb
    rw [decide_eq_false_iff_not]
    simp only [Int.ofNat_eq_natCast]
    omega
  · have := blt_lt hb
    rw [decide_eq_true_eq]
    simp only [Int.ofNat_eq_natCast]
    omega

theorem idxS_ok (E : Env) {o : Oper} {t : TypeId} {x ix : Operand} (ho : o.op = .indexAddr t x ix) : XoOk E o (idxS E t x ix) := by
  unfold idxS
  split
  · exact nowS_ok E o
  · rename_i ti hti
    split
    · exact nowS_ok E o
    · rename_i ei hei
      have pos : ∀ i : Nat, decide ((0 : Int) ≤ Int.ofNat i) = true := fun i => by rw [decide_eq_true_eq]; simp only [Int.ofNat_eq_natCast]; omega
      have neg : ∀ i : Nat, decide ((0 : Int) ≤ Int.negSucc i) = false := fun i => by rw [decide_eq_false_iff_not]; simp only [Int.negSucc_eq]; omega
      cases hk : Nat.beq ti.kind 1 <;> simp only [cond_true, cond_false]
      · cases hk2 : Nat.beq ti.kind 2 <;> simp only [cond_true, cond_false]
        · exact nowS_ok E o
        · intro c call hc nm T M h hs
          have hsh : ∀ k, (Xo.mk fun _ _ T h k => kO ((opvS x).fn T) fun a => kO ((opvS ix).fn T) fun b => idxP a b ti.alen fun ad i => fN (ad.off + i * ei.size) fun off => k (.pointer (some ⟨ad.block, off, none⟩)) h).fn c nm T h k = kO (opv M x) fun a => kO (opv M ix) fun b => idxP a b ti.alen fun ad i => k (.pointer (some ⟨ad.block, ad.off + i * ei.size, none⟩)) h := by
            intro k
            show (kO ((opvS x).fn T) fun a => kO ((opvS ix).fn T) fun b => idxP a b ti.alen fun ad i => fN (ad.off + i * ei.size) fun off => k (.pointer (some ⟨ad.block, off, none⟩)) h) = _
            rw [opvS_eq hs, opvS_eq hs]
            simp only [fN_eq]
          have bad : (∀ k : Value → Hp → Prop, (kO (opv M x) fun a => kO (opv M ix) fun b => idxP a b ti.alen fun ad i => k (.pointer (some ⟨ad.block, ad.off + i * ei.size, none⟩)) h) = False) → ∃ r : Option (Value × Hp), (∀ k, (Xo.mk fun _ _ T h k => kO ((opvS x).fn T) fun a => kO ((opvS ix).fn T) fun b => idxP a b ti.alen fun ad i => fN (ad.off + i * ei.size) fun off => k (.pointer (some ⟨ad.block, off, none⟩)) h).fn c nm T h k = k2 r k) ∧ ∀ p, r = some p → xop E call nm o M h = some p :=
            fun hf => ⟨none, fun k => (hsh k).trans (hf k), fun _ e => by cases e⟩
          cases hx : opv M x with
          | none => exact bad fun k => by rw [hx]; rfl
          | some a =>
            cases hy : opv M ix with
            | none => exact bad fun k => by rw [hx, hy]; rfl
            | some b =>
              cases a <;> try (exact bad fun k => by rw [hx, hy]; rfl)
              rename_i ad
              cases ad with
              | none => exact bad fun k => by rw [hx, hy]; rfl
              | some ad =>
                cases b <;> try (exact bad fun k => by rw [hx, hy]; rfl)
                rename_i kd i
                cases i with
                | negSucc i => exact bad fun k => by rw [hx, hy]; rfl
                | ofNat i =>
                  refine ⟨xop E call nm o M h, fun k => ?_, fun _ e => e⟩
                  rw [hsh, hx, hy]
                  simp only [xop, xopR, ho, xIdx, hx, hy, hti, hei, ob, hk2, pos, dec_ofNat, Bool.true_and]
                  show iff1 (Nat.blt i ti.alen) (Option.rec (motive := fun _ => Prop) (k (.pointer (some ⟨ad.block, ad.off + i * ei.size, none⟩)) h) (fun _ => False) ad.spot) = k2 (bif Nat.blt i ti.alen && ad.spot.isNone then some (.pointer (some ⟨ad.block, ad.off + i * ei.size, none⟩), h) else none) k
                  cases Nat.blt i ti.alen <;> cases ad.spot <;> rfl
      · intro c call hc nm T M h hs
        have hsh : ∀ k, (Xo.mk fun _ _ T h k => kO ((opvS x).fn T) fun a => kO ((opvS ix).fn T) fun b => idxC a b fun ad i => fN (ad.off + i * ei.size) fun off => k (.pointer (some ⟨ad.block, off, none⟩)) h).fn c nm T h k = kO (opv M x) fun a => kO (opv M ix) fun b => idxC a b fun ad i => k (.pointer (some ⟨ad.block, ad.off + i * ei.size, none⟩)) h := by
          intro k
          show (kO ((opvS x).fn T) fun a => kO ((opvS ix).fn T) fun b => idxC a b fun ad i => fN (ad.off + i * ei.size) fun off => k (.pointer (some ⟨ad.block, off, none⟩)) h) = _
          rw [opvS_eq hs, opvS_eq hs]
          simp only [fN_eq]
        have bad : (∀ k : Value → Hp → Prop, (kO (opv M x) fun a => kO (opv M ix) fun b => idxC a b fun ad i => k (.pointer (some ⟨ad.block, ad.off + i * ei.size, none⟩)) h) = False) → ∃ r : Option (Value × Hp), (∀ k, (Xo.mk fun _ _ T h k => kO ((opvS x).fn T) fun a => kO ((opvS ix).fn T) fun b => idxC a b fun ad i => fN (ad.off + i * ei.size) fun off => k (.pointer (some ⟨ad.block, off, none⟩)) h).fn c nm T h k = k2 r k) ∧ ∀ p, r = some p → xop E call nm o M h = some p :=
          fun hf => ⟨none, fun k => (hsh k).trans (hf k), fun _ e => by cases e⟩
        cases hx : opv M x with
        | none => exact bad fun k => by rw [hx]; rfl
        | some a =>
          cases hy : opv M ix with
          | none => exact bad fun k => by rw [hx, hy]; rfl
          | some b =>
            cases a <;> try (exact bad fun k => by rw [hx, hy]; rfl)
            rename_i ad len cp
            cases ad with
            | none => exact bad fun k => by rw [hx, hy]; rfl
            | some ad =>
              cases b <;> try (exact bad fun k => by rw [hx, hy]; rfl)
              rename_i kd i
              cases i with
              | negSucc i => exact bad fun k => by rw [hx, hy]; rfl
              | ofNat i =>
                refine ⟨xop E call nm o M h, fun k => ?_, fun _ e => e⟩
                rw [hsh, hx, hy]
                simp only [xop, xopR, ho, xIdx, hx, hy, hti, hei, ob, hk, pos, dec_ofNat, Bool.true_and]
                show iff1 (Nat.blt i len) (Option.rec (motive := fun _ => Prop) (k (.pointer (some ⟨ad.block, ad.off + i * ei.size, none⟩)) h) (fun _ => False) ad.spot) = k2 (bif Nat.blt i len && ad.spot.isNone then some (.pointer (some ⟨ad.block, ad.off + i * ei.size, none⟩), h) else none) k
                cases Nat.blt i len <;> cases ad.spot <;> rfl

structure Rds where
  f0 : FT → (List Value → Prop) → Prop

def Rds.fn (X : Rds) (x0 : FT) (x1 : (List Value → Prop)) : Prop := Rds.rec (motive := fun _ => Prop) (fun f => f x0 x1) X

theorem Rds.fn_mk (f : FT → (List Value → Prop) → Prop) (x0 : FT) (x1 : (List Value → Prop)) : (Rds.mk f).fn x0 x1 = f x0 x1 := rfl

def opvsS : List Operand → Rds
  | [] => ⟨fun _ k => k []⟩
  | x :: l => match opvS x, opvsS l with
    | ⟨p⟩, ⟨q⟩ => ⟨fun T k => kO (p T) fun v => q T fun r => k (v :: r)⟩

theorem opvsS_eq {T : FT} {M : Tm} (h : Sim T M) : ∀ (l : List Operand) (k : List Value → Prop), (opvsS l).fn T k = kO (opvs (opv M) l) k
  | [], k => rfl
  | x :: l, k => by
    show (kO ((opvS x).fn T) fun v => (opvsS l).fn T fun r => k (v :: r)) = _
    rw [opvS_eq h]
    simp only [opvs]
    cases opv M x with
    | none => rfl
    | some v =>
      show ((opvsS l).fn T fun r => k (v :: r)) = _
      rw [opvsS_eq h l]
      cases opvs (opv M) l <;> rfl

def isFn (v : Value) (k : Nat → Array Value → Array Value → Prop) (ky : Nat → Prop) : Prop :=
  Value.rec (motive_1 := fun _ => Prop) (motive_2 := fun _ => Prop) (motive_3 := fun _ => Prop) (fun _ => False) (fun _ _ => False) (fun _ _ => False) (fun _ _ _ => False) (fun _ => False) (fun _ => False) (fun _ _ _ => False) (fun _ => False) (fun _ => False) (fun f a b _ _ => Fn.rec (motive := fun _ => Prop) (fun g => k g a b) (fun _ => False) (fun _ _ => False) (fun _ _ _ _ => False) ky f) False (fun _ _ _ => False) False (fun _ _ => False) (fun _ _ => False) (fun _ _ => True) True (fun _ _ _ _ => True) v

def callVS (f : Operand) (args : List Operand) : Xo := match f with
  | .func g => bif Nat.blt g unkU then (match opvsS args with
      | ⟨p⟩ => ⟨fun c _ T h k => p T fun vs => c g vs h k⟩) else nowS
  | _ => ⟨fun c _ T h k => kO ((opvS f).fn T) fun fv => isFn fv (fun g first cap => (opvsS args).fn T fun vs => iff1 (Nat.blt g unkU) (c g (first.toList ++ vs ++ cap.toList) h k)) (fun l => (opvsS args).fn T fun vs => c (unkU + l) vs h k)⟩

theorem callVS_ok (E : Env) {o : Oper} {cl : Call} {f : Operand} (ho : o.op = .call cl) (hf : cl.callee = .value f) : XoOk E o (callVS f cl.args.toList) := by
  unfold callVS
  split
  · rename_i g
    cases hb : Nat.blt g unkU with
    | false => exact nowS_ok E o
    | true =>
    refine XoOk.same fun c call hc nm T M h hs k => ?_
    show ((opvsS cl.args.toList).fn T fun vs => c g vs h k) = _
    rw [opvsS_eq hs]
    simp only [xop, xopR, ho, xCall, hf, xCallV, opv]
    cases opvs (opv M) cl.args.toList with
    | none => rfl
    | some vs =>
      show c g vs h k = k2 (bif Nat.blt g unkU then call g ([] ++ vs ++ []) h else none) k
      rw [hc, hb]
      simp
  · refine XoOk.same fun c call hc nm T M h hs k => ?_
    show (kO ((opvS f).fn T) fun fv => isFn fv (fun g first cap => (opvsS cl.args.toList).fn T fun vs => iff1 (Nat.blt g unkU) (c g (first.toList ++ vs ++ cap.toList) h k)) (fun l => (opvsS cl.args.toList).fn T fun vs => c (unkU + l) vs h k)) = _
    rw [opvS_eq hs]
    simp only [opvsS_eq hs, xop, xopR, ho, xCall, hf, xCallV]
    cases opv M f with
    | none => rfl
    | some fv =>
      cases fv <;> try rfl
      rename_i fr a b
      cases fr <;> try rfl
      · rename_i g
        cases opvs (opv M) cl.args.toList with
        | none => rfl
        | some vs =>
          show iff1 (Nat.blt g unkU) (c g (a.toList ++ vs ++ b.toList) h k) = k2 (bif Nat.blt g unkU then call g (a.toList ++ vs ++ b.toList) h else none) k
          cases Nat.blt g unkU with
          | false => rfl
          | true => exact hc _ _ _ _
      · cases opvs (opv M) cl.args.toList with
        | none => rfl
        | some vs => exact hc _ _ _ _

def isIf (v : Value) (k : TypeId → Value → Prop) : Prop :=
  Value.rec (motive_1 := fun _ => Prop) (motive_2 := fun _ => Prop) (motive_3 := fun _ => Prop) (fun _ => False) (fun _ _ => False) (fun _ _ => False) (fun _ _ _ => False) (fun _ => False) (fun _ => False) (fun _ _ _ => False) (fun _ => False) (fun _ => False) (fun _ _ _ _ _ => False) False (fun t u _ => k t u) False (fun _ _ => False) (fun _ _ => False) (fun _ _ => True) True (fun _ _ _ _ => True) v

def callIS (E : Env) (r : Operand) (name : String) (args : List Operand) : Xo := ⟨fun c _ T h k => kO ((opvS r).fn T) fun rv => isIf rv fun t u => (opvsS args).fn T fun vs => kO (tget E.tt t) fun ti => iff1 (Nat.ble 1 ti.kind && !(Nat.beq ti.kind 7)) (kO (methOf E.P t name) fun g => iff1 (Nat.blt g unkU) (c g (u :: vs) h k))⟩

theorem callIS_ok (E : Env) {o : Oper} {cl : Call} {r : Operand} {name : String} (ho : o.op = .call cl) (hf : cl.callee = .invoke r name) : XoOk E o (callIS E r name cl.args.toList) := by
  refine XoOk.same fun c call hc nm T M h hs k => ?_
  show (kO ((opvS r).fn T) fun rv => isIf rv fun t u => (opvsS cl.args.toList).fn T fun vs => kO (tget E.tt t) fun ti => iff1 (Nat.ble 1 ti.kind && !(Nat.beq ti.kind 7)) (kO (methOf E.P t name) fun g => iff1 (Nat.blt g unkU) (c g (u :: vs) h k))) = _
  rw [opvS_eq hs]
  simp only [opvsS_eq hs, xop, xopR, ho, xCall, hf, xCallI]
  cases opv M r with
  | none => rfl
  | some rv =>
    cases rv <;> try rfl
    rename_i t u
    cases opvs (opv M) cl.args.toList with
    | none => rfl
    | some vs =>
      show (kO (tget E.tt t) fun ti => iff1 (Nat.ble 1 ti.kind && !(Nat.beq ti.kind 7)) (kO (methOf E.P t name) fun g => iff1 (Nat.blt g unkU) (c g (u :: vs) h k))) = k2 (ob (tget E.tt t) fun ti => bif Nat.ble 1 ti.kind && !(Nat.beq ti.kind 7) then ob (methOf E.P t name) fun g => bif Nat.blt g unkU then call g (u :: vs) h else none else none) k
      cases tget E.tt t with
      | none => rfl
      | some ti =>
        show iff1 (Nat.ble 1 ti.kind && !(Nat.beq ti.kind 7)) (kO (methOf E.P t name) fun g => iff1 (Nat.blt g unkU) (c g (u :: vs) h k)) = k2 (bif Nat.ble 1 ti.kind && !(Nat.beq ti.kind 7) then ob (methOf E.P t name) fun g => bif Nat.blt g unkU then call g (u :: vs) h else none else none) k
        cases (Nat.ble 1 ti.kind && !(Nat.beq ti.kind 7)) with
        | false => rfl
        | true =>
          show (kO (methOf E.P t name) fun g => iff1 (Nat.blt g unkU) (c g (u :: vs) h k)) = k2 (ob (methOf E.P t name) fun g => bif Nat.blt g unkU then call g (u :: vs) h else none) k
          cases methOf E.P t name with
          | none => rfl
          | some g =>
            show iff1 (Nat.blt g unkU) (c g (u :: vs) h k) = k2 (bif Nat.blt g unkU then call g (u :: vs) h else none) k
            cases Nat.blt g unkU with
            | false => rfl
            | true => exact hc _ _ _ _

/-- A length. -/
def lenS (E : Env) (o : Oper) (x : Operand) (t : TypeId) : Xo := match tget E.tt t with
  | none => anyS E o
  | some ti => bif Nat.beq ti.kind 1 then ⟨fun _ _ T h k => kO ((opvS x).fn T) fun v => isSl v False fun n => k (.int .i64 (Int.ofNat n)) h⟩
    else bif Nat.beq ti.kind 4 then ⟨fun _ _ T h k => kO ((opvS x).fn T) fun v => isStr v False fun s => fN s.size fun n => k (.int .i64 (Int.ofNat n)) h⟩ else anyS E o

theorem isSl_else {v : Value} (h : ∀ a n c, v ≠ .slice a n c) (e : Prop) (k : Nat → Prop) : isSl v e k = e := by
  cases v <;> try rfl
  rename_i a n c
  exact absurd rfl (h a n c)

theorem isStr_else {v : Value} (h : ∀ s, v ≠ .string s) (e : Prop) (k : ByteArray → Prop) : isStr v e k = e := by
  cases v <;> try rfl
  rename_i s
  exact absurd rfl (h s)

theorem lenS_ok (E : Env) {o : Oper} {cl : Call} {x : Operand} {t : TypeId} (ho : o.op = .call cl) (hf : cl.callee = .builtin .len) (ha : cl.args.toList = [x]) (ht : cl.argTypes.toList = [t]) : XoOk E o (lenS E o x t) := by
  unfold lenS
  split
  · exact anyS_ok E o
  · rename_i ti hti
    cases hk : Nat.beq ti.kind 1 <;> simp only [cond_true, cond_false]
    · cases hk4 : Nat.beq ti.kind 4 <;> simp only [cond_true, cond_false]
      · exact anyS_ok E o
      · intro c call hc nm T M h hs
        have hsh : ∀ k, (Xo.mk fun _ _ T h k => kO ((opvS x).fn T) fun v => isStr v False fun s => fN s.size fun n => k (.int .i64 (Int.ofNat n)) h).fn c nm T h k = kO (opv M x) fun v => isStr v False fun s => k (.int .i64 (Int.ofNat s.size)) h := by
          intro k
          show (kO ((opvS x).fn T) fun v => isStr v False fun s => fN s.size fun n => k (.int .i64 (Int.ofNat n)) h) = _
          rw [opvS_eq hs]
          simp only [fN_eq]
        cases hx : opv M x with
        | none => exact ⟨none, fun k => by rw [hsh, hx]; rfl, fun _ e => by cases e⟩
        | some v =>
          by_cases hv : ∃ s, v = .string s
          · obtain ⟨s, rfl⟩ := hv
            refine ⟨some (.int .i64 (Int.ofNat s.size), h), fun k => by rw [hsh, hx]; rfl, fun p e => ?_⟩
            cases e
            simp only [xop, xopR, ho, xCall, hf, xCallB, ha, ht, opvs, hx, xbuiltin, hti, ob, hk4, cond_true]
            rfl
          · refine ⟨none, fun k => ?_, fun _ e => by cases e⟩
            rw [hsh, hx]
            exact isStr_else (fun s e => hv ⟨s, e⟩) _ _
    · intro c call hc nm T M h hs
      have hsh : ∀ k, (Xo.mk fun _ _ T h k => kO ((opvS x).fn T) fun v => isSl v False fun n => k (.int .i64 (Int.ofNat n)) h).fn c nm T h k = kO (opv M x) fun v => isSl v False fun n => k (.int .i64 (Int.ofNat n)) h := by
        intro k
        show (kO ((opvS x).fn T) fun v => isSl v False fun n => k (.int .i64 (Int.ofNat n)) h) = _
        rw [opvS_eq hs]
      cases hx : opv M x with
      | none => exact ⟨none, fun k => by rw [hsh, hx]; rfl, fun _ e => by cases e⟩
      | some v =>
        by_cases hv : ∃ a n c, v = .slice a n c
        · obtain ⟨a, n, q, rfl⟩ := hv
          refine ⟨some (.int .i64 (Int.ofNat n), h), fun k => by rw [hsh, hx]; rfl, fun p e => ?_⟩
          cases e
          simp only [xop, xopR, ho, xCall, hf, xCallB, ha, ht, opvs, hx, xbuiltin, hti, ob, hk, cond_true]
          rfl
        · refine ⟨none, fun k => ?_, fun _ e => by cases e⟩
          rw [hsh, hx]
          exact isSl_else (fun a n c e => hv ⟨a, n, c, e⟩) _ _

/-- The lesser of two. -/
def minS (E : Env) (o : Oper) (x y : Operand) : Xo := ⟨fun c nm T h k => kO ((opvS x).fn T) fun a => kO ((opvS y).fn T) fun b => isI a ((anyS E o).fn c nm T h k) fun m => isI b ((anyS E o).fn c nm T h k) fun n => ltC n m fun r => Bool.rec (motive := fun _ => Prop) (k (.int .i64 m) h) (k (.int .i64 n) h) r⟩

theorem minS_ok (E : Env) {o : Oper} {cl : Call} {x y : Operand} (ho : o.op = .call cl) (hf : cl.callee = .builtin .min) (ha : cl.args.toList = [x, y]) : XoOk E o (minS E o x y) := by
  unfold minS
  intro c call hc nm T M h hs
  obtain ⟨r, h1, h2⟩ := anyS_ok E o c call hc nm T M h hs
  have hsh : ∀ k, (Xo.mk fun c nm T h k => kO ((opvS x).fn T) fun a => kO ((opvS y).fn T) fun b => isI a ((anyS E o).fn c nm T h k) fun m => isI b ((anyS E o).fn c nm T h k) fun n => ltC n m fun r => Bool.rec (motive := fun _ => Prop) (k (.int .i64 m) h) (k (.int .i64 n) h) r).fn c nm T h k = kO (opv M x) fun a => kO (opv M y) fun b => isI a (k2 r k) fun m => isI b (k2 r k) fun n => Bool.rec (motive := fun _ => Prop) (k (.int .i64 m) h) (k (.int .i64 n) h) (iLt n m) := by
    intro k
    show (kO ((opvS x).fn T) fun a => kO ((opvS y).fn T) fun b => isI a ((anyS E o).fn c nm T h k) fun m => isI b ((anyS E o).fn c nm T h k) fun n => ltC n m fun r => Bool.rec (motive := fun _ => Prop) (k (.int .i64 m) h) (k (.int .i64 n) h) r) = _
    rw [opvS_eq hs, opvS_eq hs, h1]
    simp only [ltC_eq]
  cases hx : opv M x with
  | none => exact ⟨none, fun k => by rw [hsh, hx]; rfl, fun _ e => by cases e⟩
  | some a =>
    cases hy : opv M y with
    | none => exact ⟨none, fun k => by rw [hsh, hx, hy]; rfl, fun _ e => by cases e⟩
    | some b =>
      by_cases ha' : ∃ m, a = .int .i64 m
      · obtain ⟨m, rfl⟩ := ha'
        by_cases hb : ∃ n, b = .int .i64 n
        · obtain ⟨n, rfl⟩ := hb
          refine ⟨some (.int .i64 (bif iLt n m then n else m), h), fun k => ?_, fun p e => ?_⟩
          · rw [hsh, hx, hy]
            show Bool.rec (motive := fun _ => Prop) (k (.int .i64 m) h) (k (.int .i64 n) h) (iLt n m) = k (.int .i64 (bif iLt n m then n else m)) h
            cases iLt n m <;> rfl
          · cases e
            simp only [xop, xopR, ho, xCall, hf, xCallB, ha, opvs, hx, hy, xbuiltin]
        · refine ⟨r, fun k => ?_, h2⟩
          rw [hsh, hx, hy]
          exact isI_else (fun n e => hb ⟨n, e⟩) _ _
      · refine ⟨r, fun k => ?_, h2⟩
        rw [hsh, hx, hy]
        exact isI_else (fun n e => ha' ⟨n, e⟩) _ _

/- A struct out of its parts. -/

def put1C (v : Value) (off : Nat) : List Value → (List Value → Prop) → Prop :=
  Nat.rec (motive := fun _ => List Value → (List Value → Prop) → Prop) (fun cs k => List.rec (motive := fun _ => Prop) (k []) (fun _ t _ => k (v :: t)) cs) (fun _ ih cs k => List.rec (motive := fun _ => Prop) (k []) (fun c t _ => ih t fun t' => k (c :: t')) cs) off

theorem put1C_eq (v : Value) : ∀ (off : Nat) (cs : List Value) (k : List Value → Prop), put1C v off cs k = k (lput cs off [v])
  | 0, [], k => rfl
  | 0, c :: cs, k => by
    show k (v :: cs) = k (v :: lput cs 0 [])
    cases cs <;> rfl
  | n + 1, [], k => rfl
  | n + 1, c :: cs, k => by
    show (put1C v n cs fun t' => k (c :: t')) = _
    rw [put1C_eq v n]
    rfl

/-- Some cells over others. -/
def putC (vs : List Value) (off : Nat) (cs : List Value) (k : List Value → Prop) : Prop :=
  List.rec (motive := fun _ => Prop) (k (lput cs off vs)) (fun v t _ => List.rec (motive := fun _ => Prop) (put1C v off cs k) (fun _ _ _ => k (lput cs off vs)) t) vs

theorem putC_eq (vs : List Value) (off : Nat) (cs : List Value) (k : List Value → Prop) : putC vs off cs k = k (lput cs off vs) := by
  match vs with
  | [] => rfl
  | [v] => exact put1C_eq v off cs k
  | _ :: _ :: _ => rfl

structure Bd where
  f0 : FT → List Value → (List Value → Prop) → Prop

def Bd.fn (X : Bd) (x0 : FT) (x1 : List Value) (x2 : List Value → Prop) : Prop := Bd.rec (motive := fun _ => Prop) (fun f => f x0 x1 x2) X

def bldS (pl : Nat → Option (Nat × Nat)) : List (Nat × Operand) → Bd
  | [] => ⟨fun _ cs k => k cs⟩
  | (i, x) :: l => match pl i with
    | none => ⟨fun _ _ _ => False⟩
    | some (off, sz) => ⟨fun T cs k => kO ((opvS x).fn T) fun v => kO (cellsA v) fun vs => iff1 (Nat.beq vs.length sz && Nat.ble (off + vs.length) cs.length) (putC vs off cs fun cs' => (bldS pl l).fn T cs' k)⟩

theorem bldS_eq {T : FT} {M : Tm} (hs : Sim T M) (pl : Nat → Option (Nat × Nat)) : ∀ (l : List (Nat × Operand)) (cs : List Value) (k : List Value → Prop), (bldS pl l).fn T cs k = kO (partsA (opv M) pl l) fun ps => kO (fillA cs ps) k
  | [], cs, k => rfl
  | (i, x) :: l, cs, k => by
    cases hp : pl i with
    | none =>
      simp only [bldS, partsA, hp]
      rfl
    | some os =>
      obtain ⟨off, sz⟩ := os
      have hsh : (bldS pl ((i, x) :: l)).fn T cs k = kO (opv M x) fun v => kO (cellsA v) fun vs => iff1 (Nat.beq vs.length sz && Nat.ble (off + vs.length) cs.length) (kO (partsA (opv M) pl l) fun ps => kO (fillA (lput cs off vs) ps) k) := by
        simp only [bldS, hp]
        show (kO ((opvS x).fn T) fun v => kO (cellsA v) fun vs => iff1 (Nat.beq vs.length sz && Nat.ble (off + vs.length) cs.length) (putC vs off cs fun cs' => (bldS pl l).fn T cs' k)) = _
        rw [opvS_eq hs]
        simp only [putC_eq, bldS_eq hs pl l]
      rw [hsh]
      simp only [partsA, hp]
      cases hx : opv M x with
      | none => rfl
      | some v =>
        cases hq : partsA (opv M) pl l with
        | none =>
          show (kO (cellsA v) fun vs => iff1 (Nat.beq vs.length sz && Nat.ble (off + vs.length) cs.length) False) = False
          cases cellsA v with
          | none => rfl
          | some vs =>
            show iff1 (Nat.beq vs.length sz && Nat.ble (off + vs.length) cs.length) False = False
            cases (Nat.beq vs.length sz && Nat.ble (off + vs.length) cs.length) <;> rfl
        | some ps =>
          show (kO (cellsA v) fun vs => iff1 (Nat.beq vs.length sz && Nat.ble (off + vs.length) cs.length) (kO (fillA (lput cs off vs) ps) k)) = kO (fillA cs ((off, sz, v) :: ps)) k
          simp only [fillA]
          cases cellsA v with
          | none => rfl
          | some vs =>
            show iff1 (Nat.beq vs.length sz && Nat.ble (off + vs.length) cs.length) (kO (fillA (lput cs off vs) ps) k) = kO (bif Nat.beq vs.length sz && Nat.ble (off + vs.length) cs.length then fillA (lput cs off vs) ps else none) k
            cases (Nat.beq vs.length sz && Nat.ble (off + vs.length) cs.length) <;> rfl

def buildS (E : Env) (o : Oper) (t : TypeId) (parts : List (Nat × Operand)) : Xo := match tget E.tt t with
  | none => nowS
  | some ti => bif Nat.beq ti.kind 3 then ⟨fun _ _ T h k => (bldS (fun i => ti.flds[i]?) parts).fn T ti.zero fun cs => k (.agg cs.toArray) h⟩ else anyS E o

theorem buildS_ok (E : Env) {o : Oper} {t : TypeId} {parts : Array (Nat × Operand)} (ho : o.op = .build t parts) : XoOk E o (buildS E o t parts.toList) := by
  unfold buildS
  split
  · exact nowS_ok E o
  · rename_i ti hti
    cases hk : Nat.beq ti.kind 3 <;> simp only [cond_true, cond_false]
    · exact anyS_ok E o
    · refine XoOk.same fun c call hc nm T M h hs k => ?_
      show ((bldS (fun i => ti.flds[i]?) parts.toList).fn T ti.zero fun cs => k (.agg cs.toArray) h) = _
      rw [bldS_eq hs]
      simp only [xop, xopR, ho, xBuild, hti, ob, hk, cond_true]
      cases partsA (opv M) (fun i => ti.flds[i]?) parts.toList with
      | none => rfl
      | some ps =>
        show (kO (fillA ti.zero ps) fun cs => k (.agg cs.toArray) h) = k2 (ob (fillA ti.zero ps) fun cs => some (.agg cs.toArray, h)) k
        cases fillA ti.zero ps <;> rfl

/- A row out of its parts. -/

def bslS (E : Env) (t : TypeId) (len : Nat) (parts : List (Nat × Operand)) : Xo := match tget E.tt t with
  | none => nowS
  | some ti => match tget E.tt ti.elem with
    | none => nowS
    | some ei => bif Nat.beq ti.kind 1 && Nat.ble (len * ei.size) 16777216 && Nat.ble len 16777216 && Nat.beq ei.zero.length ei.size then
        ⟨fun _ nm T h k => (bldS (fun i => some (i * ei.size, ei.size)) parts).fn T (lrep ei.zero len) fun cs => wrC cs .nil 0 fun cells => hallocC h nm ⟨cells, cs.length, 0, none⟩ fun h' => k (.slice (some ⟨nm, 0, none⟩) len len) h'⟩ else nowS

theorem bslS_ok (E : Env) {o : Oper} {t : TypeId} {len : Nat} {parts : Array (Nat × Operand)} (ho : o.op = .buildSlice t len parts) : XoOk E o (bslS E t len parts.toList) := by
  unfold bslS
  split
  · exact nowS_ok E o
  · rename_i ti hti
    split
    · exact nowS_ok E o
    · rename_i ei hei
      cases hk : (Nat.beq ti.kind 1 && Nat.ble (len * ei.size) 16777216 && Nat.ble len 16777216 && Nat.beq ei.zero.length ei.size) <;> simp only [cond_true, cond_false]
      · exact nowS_ok E o
      · refine XoOk.same fun c call hc nm T M h hs k => ?_
        show ((bldS (fun i => some (i * ei.size, ei.size)) parts.toList).fn T (lrep ei.zero len) fun cs => wrC cs .nil 0 fun cells => hallocC h nm ⟨cells, cs.length, 0, none⟩ fun h' => k (.slice (some ⟨nm, 0, none⟩) len len) h') = _
        rw [bldS_eq hs]
        simp only [wrC_eq, hallocC_eq, xop, xopR, ho, xBuildSlice, hti, hei, ob, hk, cond_true]
        cases partsA (opv M) (fun i => some (i * ei.size, ei.size)) parts.toList with
        | none => rfl
        | some ps =>
          show (kO (fillA (lrep ei.zero len) ps) _) = k2 (ob (fillA (lrep ei.zero len) ps) _) k
          cases fillA (lrep ei.zero len) ps <;> rfl

def callS (E : Env) (o : Oper) (cl : Call) : Xo := match cl.callee with
  | .value f => callVS f cl.args.toList
  | .builtin .len => (match cl.args.toList, cl.argTypes.toList with
    | [x], [t] => lenS E o x t
    | _, _ => anyS E o)
  | .builtin .min => (match cl.args.toList with
    | [x, y] => minS E o x y
    | _ => anyS E o)
  | .invoke r name => callIS E r name cl.args.toList
  | _ => anyS E o

theorem callS_ok (E : Env) {o : Oper} {cl : Call} (ho : o.op = .call cl) : XoOk E o (callS E o cl) := by
  unfold callS
  split
  · rename_i f hf
    exact callVS_ok E ho hf
  · rename_i hf
    split
    · rename_i x t h1 h2
      exact lenS_ok E ho hf h1 h2
    · exact anyS_ok E o
  · rename_i hf
    split
    · rename_i x y h1
      exact minS_ok E ho hf h1
    · exact anyS_ok E o
  · rename_i r name hf
    exact callIS_ok E ho hf
  · exact anyS_ok E o

def opS (E : Env) (o : Oper) : Xo := match o.op with
  | .move x => moveS x
  | .assign x => moveS x
  | .pick c a b => pickS c a b
  | .alloc t => allocS E t
  | .box _ x => boxS x
  | .build t parts => buildS E o t parts.toList
  | .buildSlice t len parts => bslS E t len parts.toList
  | .load t a => loadS E t a
  | .store t a x => storeS E t a x
  | .nilCheck x => nilS x
  | .binOp op _ x y _ => binS E o op x y
  | .unOp op _ x => unS E o op x
  | .fieldAddr s x f => fieldS E s x f
  | .indexAddr t x ix => idxS E t x ix
  | .call c => callS E o c
  | _ => anyS E o

theorem opS_ok (E : Env) (o : Oper) : XoOk E o (opS E o) := by
  unfold opS
  split <;> rename_i ho
  · exact moveS_ok E (.inl ho)
  · exact moveS_ok E (.inr ho)
  · exact pickS_ok E ho
  · exact allocS_ok E ho
  · exact boxS_ok E ho
  · exact buildS_ok E ho
  · exact bslS_ok E ho
  · exact loadS_ok E ho
  · exact storeS_ok E ho
  · exact nilS_ok E ho
  · exact binS_ok E ho
  · exact unS_ok E ho
  · exact fieldS_ok E ho
  · exact idxS_ok E ho
  · exact callS_ok E ho
  · exact anyS_ok E o

end Go.Ev
