/- A statement's operations, one behind the other. -/
import Derived.Test.YtibkijpnkmccpaaEvOps8
set_option linter.unusedVariables false
set_option linter.unusedSimpArgs false
namespace Go.Ev
open Go.Deep Go.RowKit

theorem want_sound {θ : Th} {T : Tm} {a : Act} {ops : Array Oper} {o : Oper} {b : Bool}
    (hg : ∀ j want d v, o.guard = some (j, want) → (ops[j]?).bind (·.dst) = some d → tget T d = some v → ∃ u, a.tmps[d]? = some u ∧ W θ v u) (h : wantA ops o T = some b) : Region.wanted o (yielded ops a.tmps) = b := by
  unfold wantA at h
  unfold Region.wanted
  split at h
  · rename_i hn
    rw [hn]
    exact Option.some.inj h
  · rename_i j want hs
    rw [hs]
    simp only
    split at h
    · rename_i d hd
      split at h
      · rename_i x hx
        obtain ⟨u, h1, h2⟩ := hg j want d _ hs hd hx
        have hu : u = .bool x := h2
        subst hu
        unfold yielded
        rw [hd]
        simp only [Option.bind_some, h1]
        cases h
        cases x <;> cases want <;> rfl
      · rename_i x hx
        obtain ⟨u, h1, h2⟩ := hg j want d _ hs hd hx
        obtain ⟨us, hu, _⟩ := h2
        subst hu
        unfold yielded
        rw [hd]
        simp only [Option.bind_some, h1]
        cases h
        cases want <;> rfl
      · cases h
    · cases h

theorem TR.guard {θ : Th} {T : Tm} {a : Act} (ht : TR θ T a) {ops : Array Oper} {o : Oper} : ∀ j want d v, o.guard = some (j, want) → (ops[j]?).bind (·.dst) = some d → tget T d = some v → ∃ u, a.tmps[d]? = some u ∧ W θ v u :=
  fun _ _ d v _ _ h => ht.tmps d v h

theorem dstsOk_get {N : Nat} : ∀ {l : List Oper}, dstsOk N l = true → ∀ (i : Nat) (o : Oper), l[i]? = some o → ∀ d, o.dst = some d → d < N
  | [], _, i, o, h, _, _ => by simp at h
  | p :: l, hl, i, o, h, d, hd => by
    simp only [dstsOk, Bool.and_eq_true] at hl
    cases i with
    | zero =>
      simp at h
      subst h
      have := hl.1
      unfold dstOk at this
      rw [hd] at this
      simp only at this
      unfold Nat.blt at this
      exact Nat.le_of_ble_eq_true this
    | succ i => exact dstsOk_get hl.2 i o (by simpa using h) d hd

theorem undef_W {θ : Th} : W θ undefV undef := ⟨[], rfl, trivial⟩

theorem xops_sound [LG] {E : Env} (hE : EnvT E) {call : Nat → List Value → Hp → Option (Value × Hp)} (hcall : ∀ h, CallAt E.P call h.nxt h) {ops : Array Oper} {N : Nat} {ro : Option Nat} :
    ∀ (l : List Oper) (k : Nat) (T T' : Tm) (h h' : Hp) (θ : Th) (a : Act) (w : World) (Q : Exit → Act → World → Prop), xops E call ops l T h = some (T', h') → (∀ j, l[j]? = ops[k + j]?) → dstsOk N l = true → TR θ T a → N ≤ a.tmps.size → HR θ h w →
      (∀ θ' a' w', Ext h.nxt θ h w θ' h' w' → HR θ' h' w' → TR θ' T' a' → a'.tmps.size = a.tmps.size → a'.defers = a.defers → Q .normal a' w') → wpOpsIn (FW ro) 0 E.P ops Q (List.range' k l.length) a w
  | [], k, T, T', h, h', θ, a, w, Q, hx, hl, hd, ht, hN, hr, hQ => by
    cases hx
    exact hQ θ a w (Ext.refl _ _ _ _) hr ht rfl rfl
  | o :: l, k, T, T', h, h', θ, a, w, Q, hx, hl, hd, ht, hN, hr, hQ => by
    have ho : ops[k]? = some o := by have := hl 0; simpa using this.symm
    have hl' : ∀ j, l[j]? = ops[k + 1 + j]? := fun j => by
      have := hl (j + 1)
      simp only [List.getElem?_cons_succ] at this
      rw [this]
      congr 1
      omega
    have hd' := hd
    simp only [dstsOk, Bool.and_eq_true] at hd
    have hdst : ∀ d, o.dst = some d → d < a.tmps.size := fun d e => Nat.lt_of_lt_of_le (dstsOk_get hd' 0 o (by simp) d e) hN
    rw [List.length_cons, List.range'_succ, wpOpsIn_cons]
    unfold wpOpIn
    rw [ho]
    simp only
    simp only [xops] at hx
    split at hx
    · rename_i hw
      rw [if_pos (want_sound ht.guard hw)]
      split at hx
      · rename_i v h1 hop
        refine xop_sound hE hr (ht.opers o) (hcall h) (hr.fresh _ (Nat.le_refl _)) hop ro _ _ ?_
        intro θ1 w1 u e1 r1 w1'
        refine xops_sound hE hcall l (k + 1) _ T' h1 h' θ1 _ w1 Q hx hl' hd.2 ((ht.mono e1.keep).put hdst w1') (by rw [size_put]; exact hN) r1 ?_
        intro θ' a' w' e2 r2 t2 s2 d2
        exact hQ θ' a' w' (e1.trans e2 (fun n hn _ e => by have := e1.nxt; omega)) r2 t2 (by rw [s2, size_put]) (by rw [d2, defers_put])
      · cases hx
    · rename_i hw
      rw [if_neg (by rw [want_sound ht.guard hw]; simp)]
      refine ⟨fun _ _ => fn_FW, xops_sound hE hcall l (k + 1) _ T' h h' θ _ w Q hx hl' hd.2 (ht.put hdst undef_W) (by rw [size_put]; exact hN) hr ?_⟩
      intro θ' a' w' e2 r2 t2 s2 d2
      exact hQ θ' a' w' e2 r2 t2 (by rw [s2, size_put]) (by rw [d2, defers_put])
    · cases hx

theorem region_sound [LG] {E : Env} (hE : EnvT E) {call : Nat → List Value → Hp → Option (Value × Hp)} (hcall : ∀ h, CallAt E.P call h.nxt h) {ops : Array Oper} {N id : Nat} {T T' : Tm} {h h' : Hp} {θ : Th} {a : Act} {w : World} {Q : Exit → Act → World → Prop} {ro : Option Nat}
    (hx : xops E call ops ops.toList T h = some (T', h')) (hd : dstsOk N ops.toList = true) (ht : TR θ T a) (hN : N ≤ a.tmps.size) (hr : HR θ h w)
    (hQ : ∀ θ' a' w', Ext h.nxt θ h w θ' h' w' → HR θ' h' w' → TR θ' T' a' → a'.tmps.size = a.tmps.size → a'.defers = a.defers → Q .normal a' w') : (Code.region id ops false).wpIn (FW ro) 0 E.P Q a w := by
  refine wpIn_region ?_
  have := xops_sound (ro := ro) hE hcall ops.toList 0 T T' h h' θ a w Q hx (fun j => by simp) hd ht hN hr hQ
  rw [List.range_eq_range']
  simpa using this

end Go.Ev
