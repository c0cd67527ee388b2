/- What is read off the code holds of the evaluator: code, loops, functions. -/
import Derived.Test.YtochppfdebfopaaEwS5
set_option linter.unusedVariables false
set_option linter.unusedSimpArgs false
namespace Go.Ew
open Go.Ev Go.Deep

theorem fixB_eq {u v : Value} (h : fixB u v = true) : u = v := by
  unfold fixB at h
  split at h <;> first | rfl | cases h

theorem bindS_use {R : Type} {s : Sh} {f : ShT s R} {v : Value} {K1 : R → Prop} {K : Value → R → Prop} (hu : useS R s f v K1) (hb : bindS R s f K) : ∃ r, K1 r ∧ K v r := by
  cases s with
  | int k =>
    cases v <;> try exact hu.elim
    rename_i k' x
    simp only [useS] at hu
    cases hk : kindB k k' <;> rw [hk] at hu
    · exact hu.elim
    · have := kindB_eq hk
      subst this
      exact ⟨_, hu, hb x⟩
  | bool =>
    cases v <;> try exact hu.elim
    exact ⟨_, hu, hb _⟩
  | str =>
    cases v <;> try exact hu.elim
    exact ⟨_, hu, hb _⟩
  | slice =>
    cases v <;> try exact hu.elim
    exact ⟨_, hu, hb _ _ _⟩
  | ptr =>
    cases v <;> try exact hu.elim
    rename_i a
    cases a with
    | none => exact hu.elim
    | some ad =>
      obtain ⟨b, o, sp⟩ := ad
      obtain ⟨h1, h2⟩ := hu
      cases h1
      exact ⟨_, h2, hb b o⟩
  | fn =>
    cases v <;> try exact hu.elim
    rename_i fn a b
    cases fn <;> try exact hu.elim
    rename_i g
    simp only [useS] at hu
    cases hq : (Nat.beq a.toList.length 0 && Nat.beq b.toList.length 0) <;> rw [hq] at hu
    · exact hu.elim
    · simp only [Bool.and_eq_true] at hq
      have e1 : a = #[] := Array.eq_empty_of_size_eq_zero (Nat.eq_of_beq_eq_true hq.1)
      have e2 : b = #[] := Array.eq_empty_of_size_eq_zero (Nat.eq_of_beq_eq_true hq.2)
      rw [e1, e2]
      exact ⟨_, hu, hb g⟩
  | fix u =>
    have hu' : (bif fixB u v then K1 f else False) := by cases v <;> exact hu
    cases hq : fixB u v <;> rw [hq] at hu'
    · exact hu'.elim
    · rw [← fixB_eq hq]
      exact ⟨_, hu', hb⟩

theorem bindSs_use {R : Type} : ∀ {zs : List Value} {f : ShsT zs R} {vs : List Value} {K1 : R → Prop} {K : List Value → R → Prop}, useSs R zs f vs K1 → bindSs R zs f K → ∃ r, K1 r ∧ K vs r
  | [], f, [], K1, K, hu, hb => ⟨f, hu, hb⟩
  | z :: l, f, v :: vs, K1, K, hu, hb => by
    obtain ⟨r, h1, h2⟩ := bindS_use (K := fun v f => bindSs R l f fun vs f => K (v :: vs) f) hu hb
    exact bindSs_use (K := fun vs f => K (v :: vs) f) h1 h2
  | [], f, _ :: _, K1, K, hu, hb => hu.elim
  | _ :: _, f, [], K1, K, hu, hb => hu.elim

theorem SubT.put {T0 T : TS} (hs : SubT T0 T) {t : Nat} {s s' : SV} (ht : tget T t = some s') (he : ∀ ν, den ν s = den ν s') : SubT (tset T0 t (some s)) T := by
  intro u x hx
  rw [tget_tset] at hx
  by_cases e : t = u
  · rw [if_pos e] at hx
    cases hx
    subst e
    exact ⟨s', ht, he⟩
  · rw [if_neg e] at hx
    exact hs u x hx

theorem opW_tmp {T : TS} {t : Nat} {v : Value} (h : opW T (.tmp t) = some v) : ∃ s, tget T t = some s ∧ ∀ ν, den ν s = v := by
  unfold opW at h
  split at h
  · rename_i s hs
    exact ⟨s, hs, fun ν => den_val h⟩
  · cases h

theorem bindL_use {H : KH} {T : TS} {B : BX} : ∀ {l : List LV} {I : IT l} {T0 : TS} {B0 : BX} {K : (KH → Prop) → TS → BX → Prop}, useL l I T B H → bindL l I T0 B0 K → SubT T0 T → SubB B0 B → ∃ J T1 B1, K J T1 B1 ∧ J H ∧ SubT T1 T ∧ SubB B1 B
  | [], I, T0, B0, K, hu, hb, ht, hB => ⟨I, T0, B0, hb, hu, ht, hB⟩
  | .tmp t s :: l, I, T0, B0, K, hu, hb, ht, hB => by
    simp only [useL] at hu
    split at hu
    · rename_i v hv
      obtain ⟨sv, h1, h2⟩ := opW_tmp hv
      obtain ⟨r, k1, k2⟩ := bindS_use hu hb
      exact bindL_use k1 k2 (ht.put h1 fun ν => by rw [den_toSV, h2]) hB
    · exact hu.elim
  | .agg t zs :: l, I, T0, B0, K, hu, hb, ht, hB => by
    simp only [useL] at hu
    split at hu
    · rename_i cs hv
      obtain ⟨sv, h1, h2⟩ := opW_tmp hv
      obtain ⟨r, k1, k2⟩ := bindSs_use hu hb
      exact bindL_use k1 k2 (ht.put h1 fun ν => by rw [h2]; simp [den]) hB
    · exact hu.elim
  | .ref t b o :: l, I, T0, B0, K, hu, hb, ht, hB => by
    simp only [useL] at hu
    split at hu
    · rename_i b' o' h1
      cases hq : (Nat.beq b b' && Nat.beq o o') <;> rw [hq] at hu
      · exact hu.elim
      · simp only [Bool.and_eq_true] at hq
        have e1 := Nat.eq_of_beq_eq_true hq.1
        have e2 := Nat.eq_of_beq_eq_true hq.2
        subst e1; subst e2
        exact bindL_use hu hb (ht.put h1 fun ν => rfl) hB
    · exact hu.elim
  | .box b zs :: l, I, T0, B0, K, hu, hb, ht, hB => by
    simp only [useL] at hu
    split at hu
    · rename_i cs h1
      obtain ⟨r, k1, k2⟩ := bindSs_use hu hb
      refine bindL_use k1 k2 ht fun x c hx => ?_
      rw [tget_tset] at hx
      by_cases e : b = x
      · rw [if_pos e] at hx; cases hx; subst e; exact h1
      · rw [if_neg e] at hx; exact hB x c hx
    · exact hu.elim

def Post (Kn : TS → BX → KH → Prop) (Kx : Nat → TS → BX → KH → Prop) (Kr : TS → BX → KH → Prop) (x : Exit) (T : TS) (B : BX) (H : KH) : Prop := match x with
  | .normal => Kn T B H
  | .exit i => Kx i T B H
  | .ret => Kr T B H
  | _ => False

/-- What running a piece of code comes to. -/
def Runs (W : WE) (H0 : KH) (h0 : Hp) (c : Code) (M : Tm) (h : Hp) (P : Exit → TS → BX → KH → Prop) : Prop :=
  ∃ x T' B' H' ν' M' h', (∃ n, ∀ m, n ≤ m → ev W.E m c ⟨W.f, none⟩ M h = some (x, M', h')) ∧ Rl ν' T' B' H' M' h' ∧ Fr H0 h0 ν' B' H' h' ∧ P x T' B' H'

theorem loop_sound {W : WE} {H0 : KH} {h0 : Hp} {c : Code} {lv : List LV} {I : Nat → IT lv} {Kx : Nat → TS → BX → KH → Prop} {Kr : TS → BX → KH → Prop}
    (hc : ∀ n {ν : Nat → Nat} {T : TS} {B : BX} {H : KH} {M : Tm} {h : Hp}, wCode W c T B H (fun T B H => ∃ m, m < n ∧ useL lv (I m) T B H) Kx Kr → Rl ν T B H M h → Fr H0 h0 ν B H h → Runs W H0 h0 c M h (Post (fun T B H => ∃ m, m < n ∧ useL lv (I m) T B H) Kx Kr))
    (hb : ∀ n, bindL lv (I n) .nil .nil fun J T B => ∀ H, J H → wCode W c T B H (fun T B H => ∃ m, m < n ∧ useL lv (I m) T B H) Kx Kr) :
    ∀ n {ν : Nat → Nat} {T : TS} {B : BX} {H : KH} {M : Tm} {h : Hp}, useL lv (I n) T B H → Rl ν T B H M h → Fr H0 h0 ν B H h → Runs W H0 h0 (.loop c) M h (Post (fun _ _ _ => False) Kx Kr) := by
  intro n
  induction n using Nat.strongRecOn with
  | ind n ih =>
    intro ν T B H M h hu R F
    obtain ⟨J, T1, B1, k1, k2, k3, k4⟩ := bindL_use hu (hb n) (T0 := .nil) (B0 := .nil) (fun t s q => by cases q) (fun b cs q => by cases q)
    obtain ⟨x, T2, B2, H2, ν2, M2, h2, ⟨n1, hr1⟩, R2, F2, p2⟩ := hc n (k1 H k2) (R.sub k3 k4) (F.sub k4)
    cases x with
    | normal =>
      obtain ⟨m, hm, hu2⟩ := p2
      obtain ⟨x, T3, B3, H3, ν3, M3, h3, ⟨n2, hr2⟩, R3, F3, p3⟩ := ih m hm hu2 R2 F2
      refine ⟨x, T3, B3, H3, ν3, M3, h3, ⟨max n1 n2 + 1, fun k hk => ?_⟩, R3, F3, p3⟩
      obtain ⟨j, rfl⟩ : ∃ j, k = j + 1 := ⟨k - 1, by omega⟩
      simp only [ev, hr1 j (by omega), hr2 j (by omega)]
    | exit i =>
      refine ⟨.exit i, T2, B2, H2, ν2, M2, h2, ⟨n1 + 1, fun k hk => ?_⟩, R2, F2, p2⟩
      obtain ⟨j, rfl⟩ : ∃ j, k = j + 1 := ⟨k - 1, by omega⟩
      simp only [ev, hr1 j (by omega)]
    | ret =>
      refine ⟨.ret, T2, B2, H2, ν2, M2, h2, ⟨n1 + 1, fun k hk => ?_⟩, R2, F2, p2⟩
      obtain ⟨j, rfl⟩ : ∃ j, k = j + 1 := ⟨k - 1, by omega⟩
      simp only [ev, hr1 j (by omega)]
    | goto l => exact p2.elim
    | panic ch => exact p2.elim
    | outgrown => exact p2.elim

theorem block_sound {W : WE} {H0 : KH} {h0 : Hp} {c : Code} {id : Nat} {Kn : TS → BX → KH → Prop} {Kx : Nat → TS → BX → KH → Prop} {Kr : TS → BX → KH → Prop} {M : Tm} {h : Hp} {Kl : TS → BX → KH → Prop} (hl : ∀ T B H, Kl T B H → Kn T B H)
    (hr : Runs W H0 h0 c M h (Post Kl (fun i T B H => bif Nat.beq i id then Kn T B H else Kx i T B H) Kr)) : Runs W H0 h0 (.block id c) M h (Post Kn Kx Kr) := by
  obtain ⟨x, T2, B2, H2, ν2, M2, h2, ⟨n1, hr1⟩, R2, F2, p2⟩ := hr
  cases x with
  | normal =>
    refine ⟨.normal, T2, B2, H2, ν2, M2, h2, ⟨n1 + 1, fun k hk => ?_⟩, R2, F2, hl _ _ _ p2⟩
    obtain ⟨j, rfl⟩ : ∃ j, k = j + 1 := ⟨k - 1, by omega⟩
    simp only [ev, hr1 j (by omega)]
  | exit i =>
    have p2' : bif Nat.beq i id then Kn T2 B2 H2 else Kx i T2 B2 H2 := p2
    cases hb : Nat.beq i id <;> rw [hb] at p2'
    · refine ⟨.exit i, T2, B2, H2, ν2, M2, h2, ⟨n1 + 1, fun k hk => ?_⟩, R2, F2, p2'⟩
      obtain ⟨j, rfl⟩ : ∃ j, k = j + 1 := ⟨k - 1, by omega⟩
      simp only [ev, hr1 j (by omega), hb, cond_false]
    · refine ⟨.normal, T2, B2, H2, ν2, M2, h2, ⟨n1 + 1, fun k hk => ?_⟩, R2, F2, p2'⟩
      obtain ⟨j, rfl⟩ : ∃ j, k = j + 1 := ⟨k - 1, by omega⟩
      simp only [ev, hr1 j (by omega), hb, cond_true]
  | ret =>
    refine ⟨.ret, T2, B2, H2, ν2, M2, h2, ⟨n1 + 1, fun k hk => ?_⟩, R2, F2, p2⟩
    obtain ⟨j, rfl⟩ : ∃ j, k = j + 1 := ⟨k - 1, by omega⟩
    simp only [ev, hr1 j (by omega)]
  | goto l => exact p2.elim
  | panic ch => exact p2.elim
  | outgrown => exact p2.elim

theorem wCode_sound {W : WE} (hE : EnvT W.E) {H0 : KH} {h0 : Hp} : ∀ (c : Code) {Kn : TS → BX → KH → Prop} {Kx : Nat → TS → BX → KH → Prop} {Kr : TS → BX → KH → Prop} {ν : Nat → Nat} {T : TS} {B : BX} {H : KH} {M : Tm} {h : Hp},
    wCode W c T B H Kn Kx Kr → Rl ν T B H M h → Fr H0 h0 ν B H h → Runs W H0 h0 c M h (Post Kn Kx Kr)
  | .skip, Kn, Kx, Kr, ν, T, B, H, M, h, hw, R, F => by
    refine ⟨.normal, T, B, H, ν, M, h, ⟨1, fun k hk => ?_⟩, R, F, hw⟩
    obtain ⟨j, rfl⟩ : ∃ j, k = j + 1 := ⟨k - 1, by omega⟩
    rfl
  | .exit id, Kn, Kx, Kr, ν, T, B, H, M, h, hw, R, F => by
    refine ⟨.exit id, T, B, H, ν, M, h, ⟨1, fun k hk => ?_⟩, R, F, hw⟩
    obtain ⟨j, rfl⟩ : ∃ j, k = j + 1 := ⟨k - 1, by omega⟩
    rfl
  | .ret, Kn, Kx, Kr, ν, T, B, H, M, h, hw, R, F => by
    refine ⟨.ret, T, B, H, ν, M, h, ⟨1, fun k hk => ?_⟩, R, F, hw⟩
    obtain ⟨j, rfl⟩ : ∃ j, k = j + 1 := ⟨k - 1, by omega⟩
    rfl
  | .seq a b, Kn, Kx, Kr, ν, T, B, H, M, h, hw, R, F => by
    have key : ∀ Kn' : TS → BX → KH → Prop, (∀ T B H, Kn' T B H → wCode W b T B H Kn Kx Kr) → wCode W a T B H Kn' Kx Kr → Runs W H0 h0 (.seq a b) M h (Post Kn Kx Kr) := by
      intro Kn' hk hw
      obtain ⟨x, T2, B2, H2, ν2, M2, h2, ⟨n1, hr1⟩, R2, F2, p2⟩ := wCode_sound hE a hw R F
      cases x with
      | normal =>
        obtain ⟨x, T3, B3, H3, ν3, M3, h3, ⟨n2, hr2⟩, R3, F3, p3⟩ := wCode_sound hE b (hk _ _ _ p2) R2 F2
        refine ⟨x, T3, B3, H3, ν3, M3, h3, ⟨max n1 n2 + 1, fun k hk => ?_⟩, R3, F3, p3⟩
        obtain ⟨j, rfl⟩ : ∃ j, k = j + 1 := ⟨k - 1, by omega⟩
        simp only [ev, hr1 j (by omega), hr2 j (by omega)]
      | exit i =>
        refine ⟨.exit i, T2, B2, H2, ν2, M2, h2, ⟨n1 + 1, fun k hk => ?_⟩, R2, F2, p2⟩
        obtain ⟨j, rfl⟩ : ∃ j, k = j + 1 := ⟨k - 1, by omega⟩
        simp only [ev, hr1 j (by omega)]
      | ret =>
        refine ⟨.ret, T2, B2, H2, ν2, M2, h2, ⟨n1 + 1, fun k hk => ?_⟩, R2, F2, p2⟩
        obtain ⟨j, rfl⟩ : ∃ j, k = j + 1 := ⟨k - 1, by omega⟩
        simp only [ev, hr1 j (by omega)]
      | goto l => exact p2.elim
      | panic ch => exact p2.elim
      | outgrown => exact p2.elim
    simp only [wCode] at hw
    cases hf : forks a <;> rw [hf] at hw
    · exact key _ (fun _ _ _ q => q) hw
    · exact key _ (fun _ _ _ q => q) hw
  | .cond c a b, Kn, Kx, Kr, ν, T, B, H, M, h, hw, R, F => by
    simp only [wCode] at hw
    split at hw
    · rename_i t
      have yes : tget M t = some (.bool true) → Runs W H0 h0 a M h (Post Kn Kx Kr) → Runs W H0 h0 (.cond (.tmp t) a b) M h (Post Kn Kx Kr) := by
        rintro hm ⟨x, T2, B2, H2, ν2, M2, h2, ⟨n1, hr1⟩, R2, F2, p2⟩
        refine ⟨x, T2, B2, H2, ν2, M2, h2, ⟨n1 + 1, fun k hk => ?_⟩, R2, F2, p2⟩
        obtain ⟨j, rfl⟩ : ∃ j, k = j + 1 := ⟨k - 1, by omega⟩
        simp only [ev, opv, hm, hr1 j (by omega)]
      have no : tget M t = some (.bool false) → Runs W H0 h0 b M h (Post Kn Kx Kr) → Runs W H0 h0 (.cond (.tmp t) a b) M h (Post Kn Kx Kr) := by
        rintro hm ⟨x, T2, B2, H2, ν2, M2, h2, ⟨n1, hr1⟩, R2, F2, p2⟩
        refine ⟨x, T2, B2, H2, ν2, M2, h2, ⟨n1 + 1, fun k hk => ?_⟩, R2, F2, p2⟩
        obtain ⟨j, rfl⟩ : ∃ j, k = j + 1 := ⟨k - 1, by omega⟩
        simp only [ev, opv, hm, hr1 j (by omega)]
      unfold askB at hw
      split at hw
      · rename_i hs
        exact yes (R.tmp t _ hs) (wCode_sound hE a hw (R.told hs rfl) F)
      · rename_i hs
        exact no (R.tmp t _ hs) (wCode_sound hE b hw (R.told hs rfl) F)
      · rename_i bb hs
        cases bb with
        | true => exact yes (R.tmp t _ hs) (wCode_sound hE a (hw.1 rfl) (R.told hs rfl) F)
        | false => exact no (R.tmp t _ hs) (wCode_sound hE b (hw.2 rfl) (R.told hs rfl) F)
      · exact hw.elim
    · exact hw.elim
  | .block id (.loop c), Kn, Kx, Kr, ν, T, B, H, M, h, hw, R, F => by
    simp only [wCode] at hw
    split at hw
    · exact hw.elim
    · rename_i lv hlv
      obtain ⟨I, ⟨n, hu⟩, hb⟩ := hw
      refine block_sound (Kl := fun _ _ _ => False) (fun _ _ _ q => q.elim) ?_
      exact loop_sound (fun n {ν T B H M h} hw R F => wCode_sound hE c hw R F) hb n hu R F
  | .block id .skip, Kn, Kx, Kr, ν, T, B, H, M, h, hw, R, F => block_sound (fun _ _ _ q => q) (wCode_sound hE .skip hw R F)
  | .block id (.region a b c), Kn, Kx, Kr, ν, T, B, H, M, h, hw, R, F => block_sound (fun _ _ _ q => q) (wCode_sound hE (.region a b c) hw R F)
  | .block id (.seq a b), Kn, Kx, Kr, ν, T, B, H, M, h, hw, R, F => block_sound (fun _ _ _ q => q) (wCode_sound hE (.seq a b) hw R F)
  | .block id (.cond a b c), Kn, Kx, Kr, ν, T, B, H, M, h, hw, R, F => block_sound (fun _ _ _ q => q) (wCode_sound hE (.cond a b c) hw R F)
  | .block id (.block a b), Kn, Kx, Kr, ν, T, B, H, M, h, hw, R, F => block_sound (fun _ _ _ q => q) (wCode_sound hE (.block a b) hw R F)
  | .block id (.rangeFunc a b c d), Kn, Kx, Kr, ν, T, B, H, M, h, hw, R, F => hw.elim
  | .block id (.exit a), Kn, Kx, Kr, ν, T, B, H, M, h, hw, R, F => block_sound (fun _ _ _ q => q) (wCode_sound hE (.exit a) hw R F)
  | .block id (.scope a), Kn, Kx, Kr, ν, T, B, H, M, h, hw, R, F => hw.elim
  | .block id (.label a), Kn, Kx, Kr, ν, T, B, H, M, h, hw, R, F => hw.elim
  | .block id (.goto a), Kn, Kx, Kr, ν, T, B, H, M, h, hw, R, F => hw.elim
  | .block id .ret, Kn, Kx, Kr, ν, T, B, H, M, h, hw, R, F => block_sound (fun _ _ _ q => q) (wCode_sound hE .ret hw R F)
  | .block id (.refuse a), Kn, Kx, Kr, ν, T, B, H, M, h, hw, R, F => hw.elim
  | .region id ops draw, Kn, Kx, Kr, ν, T, B, H, M, h, hw, R, F => by
    simp only [wCode] at hw
    cases draw with
    | false =>
      obtain ⟨T2, B2, H2, ν2, M2, h2, ⟨n1, hr1⟩, R2, F2, p2⟩ := wOps_sound hE ops.toList hw R F
      refine ⟨.normal, T2, B2, H2, ν2, M2, h2, ⟨n1 + 1, fun k hk => ?_⟩, R2, F2, p2⟩
      obtain ⟨j, rfl⟩ : ∃ j, k = j + 1 := ⟨k - 1, by omega⟩
      simp only [ev, cond_false, hr1 j (by omega)]
    | true =>
      simp only [cond_true] at hw
      split at hw
      · exact hw.elim
      · rename_i pf hpf
        split at hw
        · exact hw.elim
        · rename_i st hst
          have R1 : Rl ν T B H M ⟨h.m, h.nxt + ops.size⟩ := ⟨R.tmp, R.box, fun b cs q => Nat.lt_of_lt_of_le (R.lt b cs q) (Nat.le_add_right _ _), R.apart, R.inj, R.know, fun k q => R.wf k (Nat.le_trans (Nat.le_add_right _ _) q)⟩
          have F1 : Fr H0 h0 ν B H ⟨h.m, h.nxt + ops.size⟩ := ⟨Nat.le_trans F.nxt (Nat.le_add_right _ _), F.keep, F.new, F.box⟩
          have I1 : In ops h.nxt [] [] ν B H ⟨h.m, h.nxt + ops.size⟩ := by
            refine ⟨Nat.le_refl _, fun i _ _ => R.wf _ (Nat.le_add_right _ _), fun i _ q => ?_, fun b cs q i _ e => ?_, fun i nm q => (by cases q)⟩
            · exfalso
              cases hq : H (h.nxt + i) with
              | none => exact q hq
              | some e => have := R.know _ _ hq; rw [R.wf _ (Nat.le_add_right _ _)] at this; cases this
            · have := R.lt b cs q; omega
          obtain ⟨T2, B2, H2, ν2, M2, h2, ⟨n1, hr1⟩, R2, F2, p2⟩ := wStages_sound hE F.nxt st hw I1 R1 F1
          refine ⟨.normal, T2, B2, H2, ν2, M2, h2, ⟨n1 + 1, fun k hk => ?_⟩, R2, F2, p2⟩
          obtain ⟨j, rfl⟩ : ∃ j, k = j + 1 := ⟨k - 1, by omega⟩
          simp only [ev, cond_true, hpf, hst, hr1 j (by omega)]
  | .loop c, Kn, Kx, Kr, ν, T, B, H, M, h, hw, R, F => hw.elim
  | .rangeFunc a b c d, Kn, Kx, Kr, ν, T, B, H, M, h, hw, R, F => hw.elim
  | .scope a, Kn, Kx, Kr, ν, T, B, H, M, h, hw, R, F => hw.elim
  | .label a, Kn, Kx, Kr, ν, T, B, H, M, h, hw, R, F => hw.elim
  | .goto a, Kn, Kx, Kr, ν, T, B, H, M, h, hw, R, F => hw.elim
  | .refuse a, Kn, Kx, Kr, ν, T, B, H, M, h, hw, R, F => hw.elim

theorem argsS_get (ν : Nat → Nat) : ∀ (l : List Value) (T : TS) (M : Tm) (i : Nat), (∀ t s, tget T t = some s → tget M t = some (den ν s)) → ∀ t s, tget (argsS T i l) t = some s → tget (args0 M i l) t = some (den ν s)
  | [], T, M, i, h, t, s, q => h t s q
  | v :: l, T, M, i, h, t, s, q => by
    refine argsS_get ν l (tset T i (some (toSV v))) (tset M i (some v)) (i + 1) (fun t s q => ?_) t s q
    rw [tget_tset] at q ⊢
    by_cases e : i = t
    · rw [if_pos e] at q ⊢
      cases q
      rw [den_toSV]
    · rw [if_neg e] at q ⊢
      exact h t s q

theorem wRess_sound {W : WE} {ν : Nat → Nat} {T : TS} {B : BX} {H : KH} {M : Tm} {h : Hp} (R : Rl ν T B H M h) {K : List Value → Prop} : ∀ {rs : List ResultVar} {acc : List Value}, wRess W T B H rs acc K → ∃ vs, resA (opv M) h W.E rs = some vs ∧ K (acc.reverse ++ vs)
  | [], acc, hw => ⟨[], rfl, by simpa [wRess] using hw⟩
  | .tmp t :: l, acc, hw => by
    simp only [wRess] at hw
    split at hw
    · rename_i v hv
      obtain ⟨vs, h1, h2⟩ := wRess_sound R hw
      exact ⟨v :: vs, by simp only [resA, R.opW hv, h1], by simpa using h2⟩
    · exact hw.elim
  | .cell t ty :: l, acc, hw => by
    simp only [wRess] at hw
    split at hw
    · rename_i b off ti hs hti
      split at hw
      · rename_i cs hcs
        cases hle : Nat.ble (off + ti.size) cs.length <;> rw [hle] at hw <;> simp only [cond_true, cond_false] at hw
        have hop : opv M (.tmp t) = some (.pointer (some ⟨ν b, off, none⟩)) := R.tmp t _ hs
        cases ha : ti.agg <;> rw [ha] at hw <;> simp only [cond_true, cond_false] at hw
        · split at hw
          · rename_i v hv
            obtain ⟨vs, h1, h2⟩ := wRess_sound R hw
            have hlt : off + 1 ≤ cs.length := by
              rcases Nat.lt_or_ge off cs.length with k | k
              · exact k
              · rw [List.getElem?_eq_none k] at hv; cases hv
            have hrd := R.rdBox hcs hlt
            rw [sub_eq_one hv] at hrd
            exact ⟨v :: vs, by simp only [resA, hop, hti, h1, ha, cond_false, hrd], by simpa using h2⟩
          · exact hw.elim
        · obtain ⟨vs, h1, h2⟩ := wRess_sound R hw
          have hrd := R.rdBox hcs (Nat.le_of_ble_eq_true hle)
          exact ⟨_ :: vs, by simp only [resA, hop, hti, h1, ha, cond_true, hrd]; rfl, by simpa using h2⟩
      · exact hw.elim
    · exact hw.elim

theorem wFun_sound {W : WE} (hE : EnvT W.E) (hlt : W.f < unkU) {fn : Func} (hfn : tget W.E.ff W.f = some fn) {args : List Value} {H : KH} {Q : Value → KH → Prop} (hw : wFun W fn args H Q) : Does W.E W.f args H Q := by
  refine ⟨hlt, fun h wf know => ?_⟩
  have hb : Nat.blt W.f unkU = true := Nat.ble_eq_true_of_le hlt
  unfold wFun at hw
  split at hw
  · exact hw.elim
  · rename_i c hc
    have R : Rl (fun _ => 0) (argsS .nil 0 args) .nil H (args0 .nil 0 args) h := ⟨argsS_get _ args .nil .nil 0 (fun t s q => by cases q), fun b cs q => (by cases q), fun b cs q => (by cases q), fun b cs q => (by cases q), fun b b' cs cs' q => (by cases q), know, wf⟩
    have F : Fr H h (fun _ => 0) .nil H h := ⟨Nat.le_refl _, fun _ _ _ => rfl, fun k q => .inl q, fun b cs q => (by cases q)⟩
    obtain ⟨x, T2, B2, H2, ν2, M2, h2, ⟨n1, hr1⟩, R2, F2, p2⟩ := wCode_sound hE c hw R F
    have fin : (x = .normal ∨ x = .ret) → wRess W T2 B2 H2 fn.results.toList [] (fun vs => match oneOf vs with | some v => Q v H2 | none => False) → ∃ v h' H', (∃ n, ∀ m, n ≤ m → callA W.E (ev W.E m) W.f args h = some (v, h')) ∧ Q v H' ∧
      (∀ k, h'.nxt ≤ k → tget h'.m k = none) ∧ (∀ k e, H' k = some e → tget h'.m k = some e) ∧
      h.nxt ≤ h'.nxt ∧ (∀ k, k < h.nxt → H k = none → tget h'.m k = tget h.m k) ∧ (∀ k, H' k ≠ none → H k ≠ none ∨ h.nxt ≤ k) := by
      intro hx hres
      obtain ⟨vs, h1, h3⟩ := wRess_sound R2 hres
      simp only [List.reverse_nil, List.nil_append] at h3
      split at h3
      · rename_i v hv
        refine ⟨v, h2, H2, ⟨n1, fun m hm => ?_⟩, h3, R2.wf, R2.know, F2.nxt, F2.keep, F2.new⟩
        simp only [callA, hb, cond_true, hfn, hc, hr1 m hm]
        rcases hx with rfl | rfl <;> simp only [h1, ob, hv]
      · exact h3.elim
    cases x with
    | normal => exact fin (.inl rfl) p2
    | ret => exact fin (.inr rfl) p2
    | exit i => exact p2.elim
    | goto l => exact p2.elim
    | panic ch => exact p2.elim
    | outgrown => exact p2.elim

theorem Does.mono {E : Env} {g : Nat} {args : List Value} {H : KH} {Q Q' : Value → KH → Prop} (hf : Does E g args H Q) (h : ∀ v H', Q v H' → Q' v H') : Does E g args H Q' := by
  refine ⟨hf.lt, fun hp wf know => ?_⟩
  obtain ⟨v, h', H', h1, h2, h3⟩ := hf.run hp wf know
  exact ⟨v, h', H', h1, h _ _ h2, h3⟩
end Go.Ew
