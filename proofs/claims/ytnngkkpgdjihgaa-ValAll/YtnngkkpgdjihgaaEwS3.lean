/- What is read off the code holds of the evaluator: all operations. -/
import Derived.Test.YtnngkkpgdjihgaaEwS2
set_option linter.unusedVariables false
set_option linter.unusedSimpArgs false
namespace Go.Ew
open Go.Ev Go.Deep

theorem eq_bool {P : Program} {t : TypeId} (hu : P.underlying t = some .bool) (d : Nat) (a b : Bool) : srun P (Op.equalIn (d + 1) t (.bool a) (.bool b)) = some (a == b) := by
  rw [Op.equalIn]
  rw [srun_bind (srun_under hu)]
  rfl

theorem eq_nil {P : Program} {t e : TypeId} (hu : P.underlying t = some (.slice e)) (d l c l' c' : Nat) : srun P (Op.equalIn (d + 1) t (.slice none l c) (.slice none l' c')) = some true := by
  rw [Op.equalIn]
  rw [srun_bind (srun_under hu)]
  rfl

section
variable {ν : Nat → Nat} {T : TS} {B : BX} {H H0 : KH} {M : Tm} {h h0 : Hp}

theorem bin_any {E : Env} (hE : EnvT E) {o : Oper} {op : BinOp} {t t2 : TypeId} {x y : Operand} {K : SV → Prop} (R : Rl ν T B H M h) (ho : o.op = .binOp op t x y t2) (hw : binS E op t (opW T x) (opW T y) K) :
    ∃ s v, K s ∧ (∀ ν, den ν s = v) ∧ ∀ call nm, xop E call nm o M h = some (v, h) := by
  cases hx : opW T x with
  | none => rw [hx] at hw; unfold binS at hw; exact hw.elim
  | some p =>
    cases hy : opW T y with
    | none => rw [hx, hy] at hw; unfold binS at hw; split at hw <;> simp_all
    | some q =>
      rw [hx, hy] at hw
      have hx' := R.opW hx
      have hy' := R.opW hy
      unfold binS at hw
      split at hw
      · rename_i k m l n e1 e2
        cases e1; cases e2
        cases hk : kindB k l <;> rw [hk] at hw
        · exact hw.elim
        · have := kindB_eq hk
          subst this
          exact int_bin ho hx' hy' hw
      · rename_i a b e1 e2
        cases e1; cases e2
        cases hk : isKind E t 9 <;> rw [hk] at hw
        · exact hw.elim
        · obtain ⟨d, hu, hd, _⟩ := isKind_spec hE hk
          rw [kind_bool hd] at hu
          have he := eq_bool hu 9999 a b
          have go : ∀ r : Bool, fastB op (.bool a) (.bool b) = none → srun E.P (binOp op t (.bool a) (.bool b)) = some (.bool r) → ∀ call nm, xop E call nm o M h = some (.bool r, h) :=
            fun r h1 h2 => plain_bin ho hx' hy' rfl rfl rfl h1 h2 (by simp)
          simp only [cond_true] at hw
          split at hw
          · exact ⟨_, _, hw, fun _ => rfl, go _ rfl (Eq.trans (srun_bind (a := (a == b)) he) rfl)⟩
          · exact ⟨_, _, hw, fun _ => rfl, go _ rfl (Eq.trans (srun_bind (a := (a == b)) he) rfl)⟩
          · exact hw.elim
      · rename_i a b e1 e2
        cases e1; cases e2
        have go : ∀ v : Value, isPlain v = true → fastB op (.string a) (.string b) = none → binOp op t (.string a) (.string b) = .pure v → ∀ call nm, xop E call nm o M h = some (v, h) :=
            fun v hv h1 h2 => plain_bin ho hx' hy' rfl rfl hv h1 (by rw [h2]; rfl) (by simp)
        split at hw
        · exact ⟨_, _, hw, fun _ => rfl, go _ rfl rfl rfl⟩
        · exact ⟨_, _, hw, fun _ => rfl, go _ rfl rfl rfl⟩
        · exact ⟨_, _, hw, fun _ => rfl, go _ rfl rfl rfl⟩
        · exact ⟨_, _, hw, fun _ => rfl, go _ rfl rfl rfl⟩
        · exact ⟨_, _, hw, fun _ => rfl, go _ rfl rfl rfl⟩
        · exact ⟨_, _, hw, fun _ => rfl, go _ rfl rfl rfl⟩
        · refine ⟨_, _, hw.2, fun _ => rfl, go _ rfl rfl ?_⟩
          show Op.stringOp .add a b = _
          have hn : ¬ (((a.size + b.size : Nat) : Int) > IntKind.i64.max) := by
            have h1 : IntKind.i64.max = 9223372036854775807 := by decide
            rw [h1]
            have := hw.1
            omega
          simp only [Op.stringOp]
          rw [if_neg hn]
          rfl
        · exact hw.elim
      · rename_i a l c l' c' e1 e2
        cases e1; cases e2
        cases hk : isKind E t 1 <;> rw [hk] at hw
        · exact hw.elim
        · obtain ⟨d, hu, hd, ti, hti, hkk⟩ := isKind_spec hE hk
          rw [kind_slice hd] at hu
          have fin : ∀ (r : Bool) (f : Bool → Bool), (op = .eql ∧ f = id ∨ op = .neq ∧ f = fun b => !b) → r = f a.isNone → ∀ call nm, xop E call nm o M h = some (.bool r, h) := by
            intro r f hop hr
            cases a with
            | none =>
              have he := eq_nil hu 9999 l c l' c'
              rcases hop with ⟨rfl, rfl⟩ | ⟨rfl, rfl⟩
              · subst hr
                exact plain_bin ho hx' hy' rfl rfl rfl rfl (Eq.trans (srun_bind (a := true) he) rfl) (by simp)
              · subst hr
                exact plain_bin ho hx' hy' rfl rfl rfl rfl (Eq.trans (srun_bind (a := true) he) rfl) (by simp)
            | some ad =>
              intro call nm
              have hpl : (plainA (.slice (some ad) l c) && plainA (.slice none l' c')) = false := rfl
              have hnk : nilKind ti.kind (.slice (some ad) l c) = true := by rw [hkk]; rfl
              rcases hop with ⟨rfl, rfl⟩ | ⟨rfl, rfl⟩
              · subst hr
                simp only [xop, xopR, ho, xBin, hx', hy', fastB, xBinEq, hpl, cond_false, hti, ob, hnk, cond_true, nilEq]
                rfl
              · subst hr
                simp only [xop, xopR, ho, xBin, hx', hy', fastB, xBinEq, hpl, cond_false, hti, ob, hnk, cond_true, nilEq]
                rfl
          simp only [cond_true] at hw
          split at hw
          · exact ⟨_, _, hw, fun _ => rfl, fin _ id (.inl ⟨rfl, rfl⟩) rfl⟩
          · exact ⟨_, _, hw, fun _ => rfl, fin _ (fun b => !b) (.inr ⟨rfl, rfl⟩) rfl⟩
          · exact hw.elim
      · exact hw.elim

/-- What an operation leaves behind. -/
structure Done (E : Env) (H0 : KH) (h0 : Hp) (o : Oper) (nm : Nat) (ν : Nat → Nat) (B : BX) (H : KH) (M : Tm) (h : Hp) (K : TS → SV → BX → KH → Prop) (s : SV) (T' : TS) (B' : BX) (H' : KH) (ν' : Nat → Nat) (h' : Hp) : Prop where
  run : ∃ n, ∀ m, n ≤ m → xop E (callA E (ev E m)) nm o M h = some (den ν' s, h')
  rl : Rl ν' T' B' H' M h'
  fr : Fr H0 h0 ν' B' H' h'
  post : K T' s B' H'
  boxes : ∀ b cs, tget B' b = some cs → (ν' b = ν b ∧ ∃ cs0, tget B b = some cs0) ∨ (ν' b = nm ∧ o.dst = some b)
  quiet : silB o.op = true ∨ allB o.op = true → ∀ k, H' k ≠ none → H k ≠ none ∨ (k = nm ∧ allB o.op = true ∧ nameOf s = some nm)
  nu : allB o.op = false → ν' = ν
  xt : Xt ν B H h nm H' h'

/-- It leaves memory as it is. -/
theorem Done.same {E : Env} {o : Oper} {nm : Nat} {K : TS → SV → BX → KH → Prop} (R : Rl ν T B H M h) (F : Fr H0 h0 ν B H h) {s : SV} (hk : K T s B H) (hx : ∀ m, xop E (callA E (ev E m)) nm o M h = some (den ν s, h)) :
    ∃ s T' B' H' ν' h', Done E H0 h0 o nm ν B H M h K s T' B' H' ν' h' :=
  ⟨s, T, B, H, ν, h, ⟨0, fun m _ => hx m⟩, R, F, hk, fun b cs q => .inl ⟨rfl, cs, q⟩, fun _ k q => .inl q, fun _ => rfl, Xt.refl nm⟩

theorem Done.alloc {E : Env} {o : Oper} {nm : Nat} {K : TS → SV → BX → KH → Prop} {e : Ent} (R : Rl ν T B H M h) (F : Fr H0 h0 ν B H h) (hf : tget h.m nm = none) (hnb : ∀ b cs, tget B b = some cs → ν b ≠ nm) (h0n : h0.nxt ≤ nm) {s : SV} (hk : K T s B (H.new nm e))
    (hx : ∀ m, xop E (callA E (ev E m)) nm o M h = some (den ν s, halloc h nm e)) (ha : allB o.op = true) (hs : nameOf s = some nm) : ∃ s T' B' H' ν' h', Done E H0 h0 o nm ν B H M h K s T' B' H' ν' h' := by
  refine ⟨s, T, B, _, ν, _, ⟨0, fun m _ => hx m⟩, R.alloc hf hnb, F.alloc h0n, hk, fun b cs q => .inl ⟨rfl, cs, q⟩, fun _ k q => ?_, fun _ => rfl, Xt.alloc⟩
  simp only [KH.new] at q
  by_cases e1 : k = nm
  · exact .inr ⟨e1, ha, hs⟩
  · rw [if_neg e1] at q; exact .inl q

theorem Done.box {E : Env} {o : Oper} {nm d : Nat} {K : TS → SV → BX → KH → Prop} {cs : List Value} (R : Rl ν T B H M h) (F : Fr H0 h0 ν B H h) (hf : tget h.m nm = none) (hHn : H nm = none) (hnb : ∀ b cs, tget B b = some cs → ν b ≠ nm) (h0n : h0.nxt ≤ nm)
    (ha : allB o.op = true) (hd : o.dst = some d) (hk : K (purge d T) (.r d 0) (tset B d (some cs)) H) (hx : ∀ m, xop E (callA E (ev E m)) nm o M h = some (newPtr nm, halloc h nm (mkEnt cs 0))) : ∃ s T' B' H' ν' h', Done E H0 h0 o nm ν B H M h K s T' B' H' ν' h' := by
  refine ⟨.r d 0, _, _, H, _, _, ⟨0, fun m _ => ?_⟩, R.newBox hf hHn hnb, F.newBox h0n, hk, fun b cs' q => ?_, fun _ k q => .inl q, fun e => (by rw [ha] at e; cases e), ?_⟩
  · rw [hx m]
    simp only [den, if_true, newPtr]
  · rw [tget_tset] at q
    by_cases e : d = b
    · subst e; exact .inr ⟨by simp, hd⟩
    · rw [if_neg e] at q
      exact .inl ⟨by simp [Ne.symm e], cs', q⟩
  · refine ⟨by simp only [halloc]; omega, fun k q => .inl q, fun k _ _ h2 _ => ?_⟩
    simp only [halloc]
    rw [tget_tset_ne _ _ _ _ (Ne.symm h2)]

theorem isLoc_some {W : WE} {dst : Option Tmp} {d : Nat} (h : isLoc W dst = some d) : dst = some d := by
  unfold isLoc at h
  cases dst with
  | none => cases h
  | some x =>
    simp only at h
    cases hm : memN x W.loc <;> rw [hm] at h <;> cases h
    rfl

theorem sub_eq_one {cs : List Value} {off : Nat} {v : Value} (h : cs[off]? = some v) : (cs.drop off).take 1 = [v] := by
  have hl : off < cs.length := by
    rcases Nat.lt_or_ge off cs.length with k | k
    · exact k
    · rw [List.getElem?_eq_none k] at h; cases h
  rw [List.getElem?_eq_getElem hl] at h
  cases h
  rw [List.drop_eq_getElem_cons hl]
  rfl

theorem wOp_sound {W : WE} (hE : EnvT W.E) {nmP : (Nat → Prop) → Prop} {o : Oper} {K : TS → SV → BX → KH → Prop} {nm : Nat} (hw : wOp W nmP o T B H K) (R : Rl ν T B H M h) (F : Fr H0 h0 ν B H h)
    (hn : ∀ k : Nat → Prop, nmP k → k nm) (hfr : silB o.op = false → tget h.m nm = none ∧ H nm = none ∧ (∀ b cs, tget B b = some cs → ν b ≠ nm) ∧ h0.nxt ≤ nm) :
    ∃ s T' B' H' ν' h', Done W.E H0 h0 o nm ν B H M h K s T' B' H' ν' h' := by
  unfold wOp at hw
  split at hw
  · -- move
    rename_i x ho
    split at hw
    · rename_i s hs
      exact Done.same R F hw fun m => by simp only [xop, xopR, ho, xMove, R.op hs, ob]
    · exact hw.elim
  · -- assign
    rename_i x ho
    split at hw
    · rename_i s hs
      exact Done.same R F hw fun m => by simp only [xop, xopR, ho, xMove, R.op hs, ob]
    · exact hw.elim
  · -- pick
    rename_i c x y ho
    have yes : opv M c = some (.bool true) → (match opS T x with | some s => K T s B H | none => False) → ∃ s T' B' H' ν' h', Done W.E H0 h0 o nm ν B H M h K s T' B' H' ν' h' := by
      intro hc hk
      split at hk
      · rename_i s hs
        exact Done.same R F hk fun m => by simp only [xop, xopR, ho, xPick, hc, R.op hs, ob]
      · exact hk.elim
    have no : opv M c = some (.bool false) → (match opS T y with | some s => K T s B H | none => False) → ∃ s T' B' H' ν' h', Done W.E H0 h0 o nm ν B H M h K s T' B' H' ν' h' := by
      intro hc hk
      split at hk
      · rename_i s hs
        exact Done.same R F hk fun m => by simp only [xop, xopR, ho, xPick, hc, R.op hs, ob]
      · exact hk.elim
    unfold askB at hw
    split at hw
    · rename_i hs; exact yes (R.op hs) hw
    · rename_i hs; exact no (R.op hs) hw
    · rename_i b hs
      cases b with
      | true => exact yes (R.op hs) (hw.1 rfl)
      | false => exact no (R.op hs) (hw.2 rfl)
    · exact hw.elim
  · -- alloc
    rename_i t ho
    obtain ⟨hf, hHn, hnb, h0n⟩ := hfr (by rw [ho]; rfl)
    split at hw
    · exact hw.elim
    · rename_i ti hti
      have hx : ∀ m, xop W.E (callA W.E (ev W.E m)) nm o M h = some (newPtr nm, halloc h nm (mkEnt ti.zero 0)) := fun m => by simp only [xop, xopR, ho, xAlloc, hti, ob]
      split at hw
      · rename_i d hd
        exact Done.box R F hf hHn hnb h0n (by rw [ho]; rfl) (isLoc_some hd) hw hx
      · exact Done.alloc R F hf hnb h0n (hn _ hw) hx (by rw [ho]; rfl) rfl
  · -- box
    rename_i t x ho
    obtain ⟨hf, hHn, hnb, h0n⟩ := hfr (by rw [ho]; rfl)
    split at hw
    · exact hw.elim
    · rename_i v hv
      split at hw
      · exact hw.elim
      · rename_i cs hcs
        have hx : ∀ m, xop W.E (callA W.E (ev W.E m)) nm o M h = some (newPtr nm, halloc h nm (mkEnt cs 0)) := fun m => by simp only [xop, xopR, ho, xBox, R.opW hv, hcs, ob]
        split at hw
        · rename_i d hd
          exact Done.box R F hf hHn hnb h0n (by rw [ho]; rfl) (isLoc_some hd) hw hx
        · exact Done.alloc R F hf hnb h0n (hn _ hw) hx (by rw [ho]; rfl) rfl
  · -- build
    rename_i t parts ho
    unfold wBuild at hw
    split at hw
    · exact hw.elim
    · rename_i ti hti
      cases hk : Nat.beq ti.kind 3 <;> simp only [hk, cond_true, cond_false] at hw
      · cases hk2 : Nat.beq ti.kind 2 <;> simp only [hk2, cond_true, cond_false] at hw
        split at hw
        · exact hw.elim
        · rename_i ei hei
          split at hw
          · rename_i ps hps
            split at hw
            · rename_i cs hcs
              exact Done.same R F hw fun m => by
                simp only [xop, xopR, ho, xBuild, hti, ob, hk, hk2, cond_true, cond_false, hei, R.parts hps, hcs, den]
            · exact hw.elim
          · exact hw.elim
      · split at hw
        · rename_i ps hps
          split at hw
          · rename_i cs hcs
            exact Done.same R F hw fun m => by
              simp only [xop, xopR, ho, xBuild, hti, ob, hk, cond_true, R.parts hps, hcs, den]
          · exact hw.elim
        · exact hw.elim
  · -- buildSlice
    rename_i t len parts ho
    obtain ⟨hf, hHn, hnb, h0n⟩ := hfr (by rw [ho]; rfl)
    unfold wBuildSlice at hw
    split at hw
    · exact hw.elim
    · rename_i ti hti
      split at hw
      · exact hw.elim
      · rename_i ei hei
        cases hq : (Nat.beq ti.kind 1 && Nat.ble (len * ei.size) 16777216 && Nat.ble len 16777216 && Nat.beq ei.zero.length ei.size) <;> simp only [hq, cond_true, cond_false] at hw
        split at hw
        · rename_i ps hps
          split at hw
          · rename_i cs hcs
            refine Done.alloc (s := .v (.slice (some ⟨nm, 0, none⟩) len len)) R F hf hnb h0n (hn _ hw) (fun m => ?_) (by rw [ho]; rfl) rfl
            simp only [xop, xopR, ho, xBuildSlice, hti, ob, hei, hq, cond_true, R.parts hps, hcs, den]
          · exact hw.elim
        · exact hw.elim
  · -- load
    rename_i t a ho
    unfold wLoad at hw
    split at hw
    · rename_i b off ti hs hti
      split at hw
      · exact hw.elim
      · rename_i cs hcs
        cases hle : Nat.ble (off + ti.size) cs.length <;> simp only [hle, cond_true, cond_false] at hw
        have hop := R.op hs
        cases ha : ti.agg <;> simp only [ha, cond_true, cond_false] at hw
        · split at hw
          · rename_i v hv
            have hlt : off + 1 ≤ cs.length := by
              rcases Nat.lt_or_ge off cs.length with k | k
              · exact k
              · rw [List.getElem?_eq_none k] at hv; cases hv
            have hrd := R.rdBox hcs hlt
            rw [sub_eq_one hv] at hrd
            refine Done.same R F hw fun m => ?_
            rw [den_toSV]
            simp only [xop, xopR, ho, xLoad, hop, den, hti, ob, ha, cond_false, hrd]
          · exact hw.elim
        · have hrd := R.rdBox hcs (Nat.le_of_ble_eq_true hle)
          refine Done.same R F hw fun m => ?_
          simp only [xop, xopR, ho, xLoad, hop, den, hti, ob, ha, cond_true, hrd]
    · rename_i ad ti hs hti
      have hop := R.op hs
      cases ha : ti.agg <;> simp only [ha, cond_true, cond_false] at hw
      · split at hw
        · obtain ⟨v, h1, h2⟩ := exSh_some hw
          have hrd := R.ldv h1
          refine Done.same R F h2 fun m => ?_
          simp only [List.length_singleton] at hrd
          rw [den_toSV]
          simp only [xop, xopR, ho, xLoad, hop, den, hti, ob, ha, cond_false, hrd]
        · exact hw.elim
      · cases hz : Nat.beq ti.zero.length ti.size <;> simp only [hz, cond_true, cond_false] at hw
        obtain ⟨vs, h0', h1, h2⟩ := exShs_some hw
        have hrd := R.ldv h1
        rw [h0', Nat.eq_of_beq_eq_true hz] at hrd
        refine Done.same R F h2 fun m => ?_
        simp only [xop, xopR, ho, xLoad, hop, den, hti, ob, ha, cond_true, hrd]
    · exact hw.elim
  · -- store
    rename_i t a x ho
    unfold wStore at hw
    split at hw
    · rename_i b off v ti hs hv hti
      split at hw
      · rename_i cs vs hcs hvs
        cases hq : (Nat.beq vs.length ti.size && Nat.ble (off + vs.length) cs.length) <;> simp only [hq, cond_true, cond_false] at hw
        simp only [Bool.and_eq_true] at hq
        obtain ⟨h', g1, g2, g3, g4⟩ := R.wrBox hcs (Nat.le_of_ble_eq_true hq.2)
        refine ⟨_, _, _, _, ν, h', ⟨0, fun m _ => ?_⟩, g4, F.wrBox hcs g2 g3, hw, fun b' cs' q => ?_, fun _ k q => .inl q, fun _ => rfl, by omega, fun k q => .inl q, fun k _ _ _ h3 => g3 k (Ne.symm (h3 b cs hcs))⟩
        · simp only [xop, xopR, ho, xStore, R.op hs, R.opW hv, den, hti, hvs, ob, hq.1, cond_true, g1]
        · rw [tget_tset] at q
          by_cases e : b = b'
          · subst e; exact .inl ⟨rfl, cs, hcs⟩
          · rw [if_neg e] at q; exact .inl ⟨rfl, cs', q⟩
      · exact hw.elim
    · rename_i ad v ti hs hv hti
      split at hw
      · rename_i vs hvs
        cases hq : Nat.beq vs.length ti.size <;> simp only [hq, cond_true, cond_false] at hw
        obtain ⟨⟨ws, hwl, hws⟩, hmay, hk⟩ := hw
        have hl := ld_load hws
        rw [hwl] at hl
        obtain ⟨h', g1, g2, g3, g4, g5⟩ := R.store hl hmay
        refine ⟨_, _, _, _, ν, h', ⟨0, fun m _ => ?_⟩, g5, F.put g2 g3 g4, hk, fun b' cs' q => .inl ⟨rfl, cs', q⟩, fun hq' => ?_, fun _ => rfl, Xt.put g2 g3 g4⟩
        · simp only [xop, xopR, ho, xStore, R.op hs, R.opW hv, den, hti, hvs, ob, hq, cond_true, g1]
        · rw [ho] at hq'; rcases hq' with q | q <;> cases q
      · exact hw.elim
    · exact hw.elim
  · -- nilCheck
    rename_i x ho
    split at hw
    · rename_i b off hs
      have := R.op hs
      exact Done.same R F hw fun m => by simp only [xop, xopR, ho, xNil, this, den]
    · rename_i ad hs
      have := R.op hs
      exact Done.same R F hw fun m => by simp only [xop, xopR, ho, xNil, this, den]
    · exact hw.elim
  · -- binOp
    rename_i op t x y t2 ho
    obtain ⟨s, v, h1, h2, h3⟩ := bin_any hE R ho hw
    exact Done.same R F h1 fun m => by rw [h3, h2]
  · -- unOp
    rename_i op t x ho
    split at hw
    · rename_i b hb
      exact Done.same R F hw fun m => by simp only [xop, xopR, ho, xUn, R.opW hb, den]
    · rename_i k n hb
      have hxv := R.opW hb
      refine Done.same R F hw fun m => ?_
      have hops : o.op.operands.toList = [x] := by rw [ho]; rfl
      have hvs : opvs (opv M) o.op.operands.toList = some [.int k n] := by rw [hops]; simp only [opvs, hxv]
      have hex : srun W.E.P (execOp (rho (opv M)) o) = some (.value (.int k (k.wrap (0 - n)))) := by
        simp only [execOp, ho, rho, hxv, Option.getD_some]
        exact Eq.trans (srun_bind (a := .int k (k.wrap (0 - n))) rfl) rfl
      have hpl : xplain W.E o (opv M) h = some (.int k (k.wrap (0 - n)), h) := by
        unfold xplain
        rw [hvs]
        simp only [allPlainA, plainA, isPlain, Bool.and_true, cond_true]
        rw [hex]
        simp only [isPlain, cond_true]
      simp only [xop, xopR, ho, xUn, hxv, den]
      exact hpl
    · exact hw.elim
  · -- convert
    rename_i src d x ho
    split at hw
    · rename_i k0 n ds k hx hs hd
      have hxv := R.opW hx
      refine Done.same R F hw fun m => ?_
      have hops : o.op.operands.toList = [x] := by rw [ho]; rfl
      have hvs : opvs (opv M) o.op.operands.toList = some [.int k0 n] := by rw [hops]; simp only [opvs, hxv]
      have hc : srun W.E.P (convert src d (.int k0 n)) = some (.int k (k.wrap n)) := by
        unfold convert
        rw [srun_bind (srun_under hs), srun_bind (srun_under hd)]
        cases ds <;> rfl
      have hex : srun W.E.P (execOp (rho (opv M)) o) = some (.value (.int k (k.wrap n))) := by
        simp only [execOp, ho, rho, hxv, Option.getD_some]
        exact Eq.trans (srun_bind (a := .int k (k.wrap n)) hc) rfl
      have hpl : xplain W.E o (opv M) h = some (.int k (k.wrap n), h) := by
        unfold xplain
        rw [hvs]
        simp only [allPlainA, plainA, isPlain, Bool.and_true, cond_true]
        rw [hex]
        simp only [isPlain, cond_true]
      simp only [xop, xopR, ho, xConv, hxv, den]
      exact hpl
    · exact hw.elim
  · -- makeSlice
    rename_i t l c ho
    obtain ⟨hf, hHn, hnb, h0n⟩ := hfr (by rw [ho]; rfl)
    split at hw
    · rename_i kn n kk k ti hl hc hti
      split at hw
      · rename_i ei hei
        cases hq : (Nat.beq ti.kind 1 && Nat.ble ei.bytes 1000000 && Nat.beq ei.zero.length ei.size) <;> simp only [hq, cond_true, cond_false] at hw
        obtain ⟨⟨q1, q2, q3⟩, hk⟩ := hw
        simp only [Bool.and_eq_true] at hq
        refine Done.alloc (s := .v (.slice (some ⟨nm, 0, none⟩) n.toNat k.toNat)) R F hf hnb h0n (hn _ hk) (fun m => ?_) (by rw [ho]; rfl) rfl
        have hb : (Nat.beq ti.kind 1 && decide (0 ≤ n) && decide (n ≤ k) && decide (k ≤ 1000000) && Nat.ble ei.bytes 1000000 && Nat.beq ei.zero.length ei.size) = true := by
          simp only [Bool.and_eq_true, decide_eq_true_eq]
          exact ⟨⟨⟨⟨⟨hq.1.1, q1⟩, q2⟩, q3⟩, hq.1.2⟩, hq.2⟩
        simp only [xop, xopR, ho, xMake, R.opW hl, R.opW hc, hti, ob, hei, hb, cond_true, den]
      · exact hw.elim
    · exact hw.elim
  · -- slice
    rename_i t x lo hi mx ho
    split at hw
    · rename_i a len cap ti lov hiv hx hti hlo hhi
      split at hw
      · rename_i ei hei
        cases hq : Nat.beq ti.kind 1 <;> simp only [hq, cond_true, cond_false] at hw
        obtain ⟨a', l', c', h1, h2⟩ := hw
        refine Done.same R F h2 fun m => ?_
        have hm : optv (opv M) (none : Option Operand) = some none := rfl
        simp only [xop, xopR, ho, xSlc, R.opW hx, hti, ob, hei, hq, cond_true, R.opWo hlo, R.opWo hhi, hm, slice_know R h1, den]
      · exact hw.elim
    · exact hw.elim
  · -- fieldAddr
    rename_i s x f ho
    unfold wField at hw
    split at hw
    · exact hw.elim
    · rename_i ti hti
      split at hw
      · exact hw.elim
      · rename_i fl hfl
        cases hq : (Nat.beq ti.kind 3 && !(Nat.beq fl.2 0)) <;> simp only [hq, cond_true, cond_false] at hw
        split at hw
        · rename_i b off hs
          refine Done.same R F hw fun m => ?_
          have hop := R.op hs
          have hb : (Nat.beq ti.kind 3 && !(Nat.beq fl.2 0) && (⟨ν b, off, none⟩ : Addr).spot.isNone) = true := by rw [hq]; rfl
          simp only [xop, xopR, ho, xField, hop, den, hti, ob, hfl, hb, cond_true]
        · rename_i ad hs
          refine Done.same R F hw.2 fun m => ?_
          have hop := R.op hs
          have hb : (Nat.beq ti.kind 3 && !(Nat.beq fl.2 0) && ad.spot.isNone) = true := by rw [hq, hw.1]; rfl
          simp only [xop, xopR, ho, xField, hop, den, hti, ob, hfl, hb, cond_true]
        · exact hw.elim
  · -- indexAddr
    rename_i t x ix ho
    unfold wIdx at hw
    split at hw
    · rename_i a len cap k i ti hx hi hti
      split at hw
      · rename_i ei hei
        cases hq : Nat.beq ti.kind 1 <;> simp only [hq, cond_true, cond_false] at hw
        obtain ⟨⟨q1, q2⟩, b, off, rfl, hk⟩ := hw
        refine Done.same R F hk fun m => ?_
        have hb : (Nat.beq ti.kind 1 && decide (0 ≤ i) && decide (i < (len : Int)) && (⟨b, off, none⟩ : Addr).spot.isNone) = true := by
          simp only [Bool.and_eq_true, decide_eq_true_eq]
          exact ⟨⟨⟨hq, q1⟩, q2⟩, rfl⟩
        simp only [xop, xopR, ho, xIdx, R.opW hx, R.opW hi, hti, ob, hei, hb, cond_true, den]
      · exact hw.elim
    · exact hw.elim
  · -- extract
    rename_i t i ho
    split at hw
    · rename_i vs hv
      split at hw
      · rename_i v hvi
        refine Done.same R F hw fun m => ?_
        simp only [xop, xopR, ho, xExtract, R.opW hv, hvi, ob, den_toSV]
      · exact hw.elim
    · exact hw.elim
  · -- call
    rename_i c ho
    split at hw
    · rename_i f hc
      split at hw
      · rename_i g first cap vs hfv hvs
        obtain ⟨v, h', H', ⟨n, hrun⟩, hQ, hwf, hknow, hnxt, hkeep, hnew⟩ := hw.run h R.wf R.know
        obtain ⟨s, hs1, hs2⟩ := wRes_some hQ
        refine ⟨s, T, B, H', ν, h', ⟨n, fun m hm => ?_⟩, R.called hwf hknow hnxt hkeep hnew, F.called hnxt hkeep hnew, hs1, fun b cs q => .inl ⟨rfl, cs, q⟩, fun hq => ?_, fun _ => rfl, hnxt, fun k q => (hnew k q).imp id .inr, fun k h1 h2 _ _ => hkeep k h1 h2⟩
        · have hlt : Nat.blt g unkU = true := Nat.ble_eq_true_of_le hw.lt
          simp only [xop, xopR, ho, xCall, hc, xCallV, R.opW hfv, R.opWs hvs, hrun m hm, hs2, hlt, cond_true]
        · rw [ho] at hq; simp only [silB, allB, hc] at hq; rcases hq with q | q <;> cases q
      · exact hw.elim
    · rename_i b hc
      split at hw
      · rename_i vs hvs
        have hv := R.opWs hvs
        unfold wBuiltin at hw
        split at hw
        · -- len of a slice
          rename_i a n c'
          split at hw
          · rename_i t htys
            split at hw
            · rename_i ti hti
              cases hq : Nat.beq ti.kind 1 <;> simp only [hq, cond_true, cond_false] at hw
              refine Done.same R F hw fun m => ?_
              simp only [xop, xopR, ho, xCall, hc, xCallB, hv, xbuiltin, htys, hti, ob, hq, cond_true, den]
            · exact hw.elim
          · exact hw.elim
        · -- len of a string
          rename_i s
          split at hw
          · rename_i t htys
            split at hw
            · rename_i ti hti
              cases hq : Nat.beq ti.kind 4 <;> simp only [hq, cond_true, cond_false] at hw
              refine Done.same R F hw fun m => ?_
              simp only [xop, xopR, ho, xCall, hc, xCallB, hv, xbuiltin, htys, hti, ob, hq, cond_true, den]
            · exact hw.elim
          · exact hw.elim
        · -- cap
          rename_i a n c'
          split at hw
          · rename_i t htys
            split at hw
            · rename_i ti hti
              cases hq : Nat.beq ti.kind 1 <;> simp only [hq, cond_true, cond_false] at hw
              refine Done.same R F hw.2 fun m => ?_
              have hb : Nat.blt c' unkU = true := Nat.ble_eq_true_of_le hw.1
              simp only [xop, xopR, ho, xCall, hc, xCallB, hv, xbuiltin, htys, hti, ob, hq, hb, Bool.and_self, cond_true, den]
            · exact hw.elim
          · exact hw.elim
        · -- min
          rename_i k x l y
          refine Done.same R F hw fun m => ?_
          simp only [xop, xopR, ho, xCall, hc, xCallB, hv, xbuiltin, den]
          congr 3
          rw [iLt_eq]
          by_cases e : y < x
          · rw [decide_eq_true e, cond_true]; omega
          · rw [decide_eq_false e, cond_false]; omega
        · -- max
          rename_i k x l y
          refine Done.same R F hw fun m => ?_
          simp only [xop, xopR, ho, xCall, hc, xCallB, hv, xbuiltin, den]
          congr 3
          rw [iLt_eq]
          by_cases e : x < y
          · rw [decide_eq_true e, cond_true]; omega
          · rw [decide_eq_false e, cond_false]; omega
        · -- append
          rename_i a len cap x
          split at hw
          · rename_i t u htys
            split at hw
            · rename_i ti ui hti hui
              split at hw
              · rename_i ei hei
                cases hq : (Nat.beq ti.kind 1 && appK ui.kind x && Nat.beq ei.zero.length ei.size) <;> simp only [hq, cond_true, cond_false] at hw
                obtain ⟨hf, hHn, hnb, h0n⟩ := hfr (by rw [ho]; simp only [silB, hc, plainB])
                obtain ⟨n, cs, q1, a', l', c', H', q2, q3⟩ := hn _ hw
                obtain ⟨h', g1, g2, g3, g4⟩ := append_k R F hf hnb h0n q2
                refine ⟨_, T, B, H', ν, h', ⟨0, fun m _ => ?_⟩, g2, g3, q3, fun b cs q => .inl ⟨rfl, cs, q⟩, fun hq' => ?_, fun _ => rfl, g4⟩
                · simp only [xop, xopR, ho, xCall, hc, xCallB, hv, xbuiltin, htys, hti, ob, hei, hui, hq, cond_true, new_know R q1, g1, den]
                · rw [ho] at hq'; simp only [silB, allB, hc, plainB] at hq'; rcases hq' with q | q <;> cases q
              · exact hw.elim
            · exact hw.elim
          · exact hw.elim
        · exact hw.elim
      · exact hw.elim
    · exact hw.elim
  · exact hw.elim
end
end Go.Ew
