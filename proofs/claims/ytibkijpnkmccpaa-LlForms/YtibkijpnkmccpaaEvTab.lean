/- Tables made of lists, and the environment that they make. -/
import Derived.Test.YtibkijpnkmccpaaEvMain
set_option linter.unusedVariables false
set_option linter.unusedSimpArgs false
namespace Go.Ev
open Go.Deep Go.RowKit

def mkTab {α : Type} (l : List (Nat × α)) : BT (Option α) := l.foldl (fun m p => tset m p.1 (some p.2)) .nil

theorem fold_get {α : Type} : ∀ (l : List (Nat × α)) (m : BT (Option α)) (t : Nat) (x : α), tget (l.foldl (fun m p => tset m p.1 (some p.2)) m) t = some x → (t, x) ∈ l ∨ tget m t = some x
  | [], m, t, x, h => .inr h
  | p :: l, m, t, x, h => by
    rcases fold_get l _ t x h with h1 | h1
    · exact .inl (by simp [h1])
    · rw [tget_tset] at h1
      split at h1
      · rename_i e
        cases h1
        subst e
        exact .inl (by simp)
      · exact .inr h1

theorem mkTab_mem {α : Type} {l : List (Nat × α)} {t : Nat} {x : α} (h : tget (mkTab l) t = some x) : (t, x) ∈ l :=
  (fold_get l .nil t x h).resolve_right (fun q => by cases q)

def fnsOf (P : Program) : List Nat → List (Nat × Func)
  | [] => []
  | i :: l => match P.funcs[i]? with
    | some fn => (i, fn) :: fnsOf P l
    | none => fnsOf P l

theorem fnsOf_mem {P : Program} : ∀ {l : List Nat} {g : Nat} {fn : Func}, (g, fn) ∈ fnsOf P l → P.funcs[g]? = some fn
  | [], g, fn, h => by cases h
  | i :: l, g, fn, h => by
    simp only [fnsOf] at h
    split at h
    · rename_i f hf
      rcases List.mem_cons.1 h with e | h
      · cases e; exact hf
      · exact fnsOf_mem h
    · exact fnsOf_mem h

def envOf (P : Program) (ty : List (Nat × TI)) (fs : List Nat) (pl : List (Nat × List (Nat × List Stage))) (xt : List (Nat × Nat)) : Env :=
  { P := P, tt := mkTab ty, ff := mkTab (fnsOf P fs), pp := mkTab (pl.map fun p => (p.1, mkTab p.2)), xx := mkTab xt }

def tysOk (P : Program) (ty : List (Nat × TI)) : Prop := ty.map (fun p => tiOf P p.1) = ty.map fun p => some p.2

def fnOk (E : Env) (p : Nat × Func) : Bool := !(p.2.name == "runtime.NumGoroutine") && (match p.2.body with
  | some c => codeOk E p.1 p.2.ntmps c
  | none => false)

theorem env_okB {P : Program} {ty : List (Nat × TI)} {fs : List Nat} {pl : List (Nat × List (Nat × List Stage))} {xt : List (Nat × Nat)} (h1 : tysOk P ty) (hm : P.follows .mixedOrders = true) (h2 : (fnsOf P fs).all (fnOk (envOf P ty fs pl xt)) = true)
    (h3 : ∀ g, (g, 1) ∈ xt → ∀ a b w, (callFunc g #[.string a, .string b]).run P w = .ok (.value (.int .i64 (Extern.BytealgCompare.cmp a b))) w)
    (h4 : ∀ g, (g, 3) ∈ xt → ∀ s c w, (callFunc g #[.string s, .int .u8 c]).run P w = .ok (.value (.int .i64 (idxB s c))) w)
    (h6 : ∀ g, (g, 4) ∈ xt → Splices P g)
    (h5 : ∀ g, (g, 2) ∈ xt → ∀ w, (callFunc g #[]).run P w = .ok (.enter g #[]) w ∧ Calls P g #[] w fun e w' => e = .returned (.bool true) ∧ Below w.heap.size w w')
    {T0 e0 : Nat} (hb : xt.all (fun p => Nat.blt p.1 4294967296 || (Nat.beq p.1 (bT T0) && Nat.beq p.2 (e0 + 1000))) = true) (h7 : ∀ g, (g, 5) ∈ xt → Writes P g T0 e0) (h8 : ∀ g, (g, 6) ∈ xt → Says P g T0 e0) (h9 : ∀ g, (g, 7) ∈ xt → Clones P g) : EnvOk (envOf P ty fs pl xt) := by
  have hB : ∀ T e, bldK (envOf P ty fs pl xt) T = some e → T = T0 ∧ e = e0 := by
    intro T e hk
    unfold bldK at hk
    split at hk
    · rename_i k hk2
      have hmem : (bT T, k) ∈ xt := mkTab_mem hk2
      cases hq : Nat.ble 1000 k <;> simp only [hq, cond_true, cond_false, reduceCtorEq, Option.some.injEq] at hk
      rw [List.all_eq_true] at hb
      have := hb _ hmem
      simp only [Bool.or_eq_true, Bool.and_eq_true] at this
      rcases this with z | ⟨z1, z2⟩
      · have := blt_lt z
        unfold bT at this
        omega
      · have z1 := Nat.eq_of_beq_eq_true z1
        have z2 := Nat.eq_of_beq_eq_true z2
        unfold bT at z1
        have hk : k - 1000 = e := hk
        exact ⟨by omega, by omega⟩
    · cases hk
  refine ⟨fun t ti h => ?_, hm, fun g fn h => ?_, fun g h => h3 g (mkTab_mem h), fun g h => h4 g (mkTab_mem h), fun g h => h6 g (mkTab_mem h), fun g h T e q => (by obtain ⟨rfl, rfl⟩ := hB T e q; exact h7 g (mkTab_mem h)), fun g h T e q => (by obtain ⟨rfl, rfl⟩ := hB T e q; exact h8 g (mkTab_mem h)), fun g h => h9 g (mkTab_mem h), fun g h => h5 g (mkTab_mem h)⟩
  · have hmem := mkTab_mem h
    exact List.map_inj_left.1 h1 _ hmem
  · have hmem := mkTab_mem h
    rw [List.all_eq_true] at h2
    have h6 := h2 _ hmem
    unfold fnOk at h6
    simp only [Bool.and_eq_true, Bool.not_eq_true'] at h6
    refine ⟨fnsOf_mem hmem, h6.1, ?_⟩
    cases hb : fn.body with
    | none => rw [hb] at h6; cases h6.2
    | some c => rw [hb] at h6; exact ⟨c, rfl, h6.2⟩

theorem env_ok4 {P : Program} {ty : List (Nat × TI)} {fs : List Nat} {pl : List (Nat × List (Nat × List Stage))} {xt : List (Nat × Nat)} (h1 : tysOk P ty) (hm : P.follows .mixedOrders = true) (h2 : (fnsOf P fs).all (fnOk (envOf P ty fs pl xt)) = true)
    (h3 : ∀ g, (g, 1) ∈ xt → ∀ a b w, (callFunc g #[.string a, .string b]).run P w = .ok (.value (.int .i64 (Extern.BytealgCompare.cmp a b))) w)
    (h4 : ∀ g, (g, 3) ∈ xt → ∀ s c w, (callFunc g #[.string s, .int .u8 c]).run P w = .ok (.value (.int .i64 (idxB s c))) w)
    (h6 : ∀ g, (g, 4) ∈ xt → Splices P g)
    (h5 : ∀ g, (g, 2) ∈ xt → ∀ w, (callFunc g #[]).run P w = .ok (.enter g #[]) w ∧ Calls P g #[] w fun e w' => e = .returned (.bool true) ∧ Below w.heap.size w w')
    (h6' : xt.all (fun p => Nat.blt p.1 4294967296 && !(Nat.beq p.2 5) && !(Nat.beq p.2 6) && !(Nat.beq p.2 7)) = true := by rfl) : EnvOk (envOf P ty fs pl xt) := by
  rw [List.all_eq_true] at h6'
  refine env_okB (T0 := 0) (e0 := 0) h1 hm h2 h3 h4 h6 h5 ?_ (fun g h => ?_) (fun g h => ?_) fun g h => ?_
  · rw [List.all_eq_true]
    intro p hp
    have := h6' p hp
    simp only [Bool.and_eq_true] at this
    rw [this.1.1.1]; rfl
  · have := h6' _ h; simp at this
  · have := h6' _ h; simp at this
  · have := h6' _ h; simp at this

theorem env_ok {P : Program} {ty : List (Nat × TI)} {fs : List Nat} {pl : List (Nat × List (Nat × List Stage))} {xt : List (Nat × Nat)} (h1 : tysOk P ty) (hm : P.follows .mixedOrders = true) (h2 : (fnsOf P fs).all (fnOk (envOf P ty fs pl xt)) = true)
    (h3 : ∀ g, (g, 1) ∈ xt → ∀ a b w, (callFunc g #[.string a, .string b]).run P w = .ok (.value (.int .i64 (Extern.BytealgCompare.cmp a b))) w)
    (h4 : ∀ g, (g, 3) ∈ xt → ∀ s c w, (callFunc g #[.string s, .int .u8 c]).run P w = .ok (.value (.int .i64 (idxB s c))) w)
    (h5 : ∀ g, (g, 2) ∈ xt → ∀ w, (callFunc g #[]).run P w = .ok (.enter g #[]) w ∧ Calls P g #[] w fun e w' => e = .returned (.bool true) ∧ Below w.heap.size w w') 
    (h6 : xt.all (fun p => !(Nat.beq p.2 4)) = true := by rfl) (h6' : xt.all (fun p => Nat.blt p.1 4294967296 && !(Nat.beq p.2 5) && !(Nat.beq p.2 6) && !(Nat.beq p.2 7)) = true := by rfl) : EnvOk (envOf P ty fs pl xt) := env_ok4 h1 hm h2 h3 h4 (fun g h => by
  rw [List.all_eq_true] at h6
  cases h6 _ h) h5 h6'

def saysTrue : Option (Value × Hp) → Bool
  | some (.bool b, _) => b
  | _ => false

/-- A law without arguments that comes to true when it is reckoned returns true, in whatever world. -/
theorem law_true {E : Env} (hE : EnvOk E) {n g : Nat} {fn : Func} (hfn : tget E.ff g = some fn) (hg : g < unkU) (hx : saysTrue (callA E (ev E n) g [] ⟨.nil, 0⟩) = true) (w : World) :
    Calls E.P g #[] w fun e w' => e = .returned (.bool true) ∧ Below w.heap.size w w' := by
  unfold saysTrue at hx
  split at hx
  · rename_i b h hc
    subst hx
    obtain ⟨_, _, c, hb, _⟩ := hE.ff g fn hfn
    exact run_sound hE hfn hb hg hc rfl w
  · cases hx

end Go.Ev
