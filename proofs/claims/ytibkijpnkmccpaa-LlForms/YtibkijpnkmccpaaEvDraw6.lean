/- Statements whose order is open: a region. -/
import Derived.Test.YtibkijpnkmccpaaEvDraw5
import Derived.Test.YtibkijpnkmccpaaEvPlan
set_option linter.unusedVariables false
set_option linter.unusedSimpArgs false
namespace Go.Ev
open Go.Deep Go.RowKit

/-- The rows that a stage makes are named, and not yet there. -/
theorem Inv.pre [LG] {C : Ctx} {D pre : List Nat} {prev : Option Nat} {h h1 : Hp} {listed : Array Bool} {a : Act} {w : World} {θ : Th} {T T1 : Tm} (inv : Inv C D prev h listed a w θ) (hR : PreR C.E C.ops C.base pre T h T1 h1) (hpre : ∀ k ∈ pre, k ∉ D) (hlt : ∀ k ∈ pre, k < C.ops.size) : Inv C (pre.reverse ++ D) prev h1 listed a w θ := by
  have down : ∀ n e x, tget h1.m n = some e → θ n = some x → tget h.m n = some e := by
    intro n e x q1 q2
    cases hc : tget h.m n with
    | some e' =>
      have := hR.sub n e' hc
      rw [q1] at this
      exact this.symm
    | none =>
      obtain ⟨k, hk, e1⟩ := hR.new n e q1 hc
      have := inv.names k (hlt k hk) (fun q => hpre k hk (inv.sub k q))
      rw [← e1, q2] at this
      cases this
  refine ⟨inv.size, inv.down, fun i q => by simp [inv.sub i q], inv.last, inv.defers, inv.tsize, inv.old, inv.new, ⟨fun n e x q1 q2 => inv.heap.ent n e x (down n e x q1 q2) q2, fun n m e e' x y q1 q2 hne q3 q4 => inv.heap.sep n m e e' x y (down n e x q1 q3) (down m e' y q2 q4) hne q3 q4, fun n q => inv.heap.fresh n (by rw [← hR.nxt]; exact q)⟩, inv.names, by rw [hR.nxt]; exact inv.nxt, ?_⟩
  have x := inv.ext
  exact ⟨x.keep, x.only, by rw [hR.nxt]; exact x.nxt, x.size, x.tape, x.os, x.output, x.frame, fun n e y q1 qu q2 => x.ownw n e y (down n e y q1 q2) qu q2, fun n e y q1 q2 => x.own n e y (down n e y q1 q2) q2⟩

theorem behind_spec {A : List (List Nat)} {c i : Nat} (h : behind A (some c) i = true) : c ∈ ancOf A i ∧ ∀ j ∈ ancOf A c, j ∈ ancOf A i := by
  simp only [behind, Bool.and_eq_true] at h
  exact ⟨memN_iff.1 h.1, fun j hj => subN_mem h.2 hj⟩

theorem preOk_lt {ops : Array Oper} {A : List (List Nat)} {prev : Option Nat} : ∀ {l D : List Nat}, preOk ops A prev D l = true → ∀ i ∈ l, i < ops.size
  | [], _, _, i, hi => by cases hi
  | k :: l, D, h, i, hi => by
    obtain ⟨h1, _, _, _, h5⟩ := preOk_cons h
    rcases List.mem_cons.1 hi with rfl | hi
    · rcases h1 with q | q <;> (obtain ⟨o, ho, _⟩ := opAt_some q; exact lt_of_get ho)
    · exact preOk_lt h5 i hi

theorem stages_main [LG] {C : Ctx} (hC : CtxOk C) {call : Nat → List Value → Hp → Option (Value × Hp)} (hcall : ∀ h, CallAt C.E.P call h.nxt h) {hf : Hp} {Q : Exit → Act → World → Prop}
    (hQ : ∀ θ a w, TR θ C.Tf a → a.tmps.size = C.S → a.defers = C.ds → HR θ hf w → Ext C.base C.θ0 C.h0 C.w0 θ hf w → Q .normal a w) :
    ∀ (st : List Stage) (D : List Nat) (prev : Option Nat) (T : Tm) (h : Hp), stOk C.ops C.A D prev st = true → xstages C.E call C.ops C.base st T h = some (C.Tf, hf) → CT C D T → (∀ i ∈ D, ∀ j ∈ ancOf C.A i, j ∈ D) →
      (∀ i ∈ D, opAt? C.ops allB i = true → (∀ c, prev = some c → i ≠ c ∧ i ∉ ancOf C.A c) → AFact C h i) →
      ∀ (fuel : Nat) (listed : Array Bool) (a : Act) (w : World) (θ : Th), Inv C D prev h listed a w θ → cntF listed C.ops.size ≤ fuel → wpAnyIn (FW C.ro) 0 C.E.P .any C.ops Q fuel listed a w
  | [], D, prev, T, h, hst, _, _, _, _, _, _, _, _, _, _, _ => by simp [stOk] at hst
  | s :: l, D, prev, T, h, hst, hx, ct, hancD, haf, fuel, listed, a, w, θ, inv, hcnt => by
    have hst0 := hst
    have hx0 := hx
    obtain ⟨s1, s2, s3, s4⟩ := stOk_cons hst
    simp only [xstages] at hx
    cases hre : xre C.E C.ops C.base T h s.re <;> simp only [hre, cond_true, cond_false, reduceCtorEq] at hx
    split at hx
    · cases hx
    rename_i T1 h1 hpre
    have hnx := inv.nxt
    have hR := pre_R (E := C.E) s3 hnx hpre
    have hnew := preOk_new s3
    have hplt := preOk_lt s3
    have hmem : ∀ j, j ∈ s.pre.reverse ++ D ↔ (j ∈ s.pre ∨ j ∈ D) := fun j => by simp
    -- what has been written stays
    have hstab : ∀ t j, (j ∈ s.pre ∨ j ∈ D) → writesAt C.ops j t = true → tget C.Tf t = tget T1 t := by
      intro t j hj hw
      rcases s4 with ⟨e1, e2, _⟩ | ⟨c, o, e1, ho, _, hc, _, _, _, _, hst'⟩
      · rw [e1] at hx
        subst e2
        simp only at hx
        cases hx
        rfl
      · rw [e1] at hx
        simp only [ho] at hx
        have hcw : o.dst ≠ some t := fun e => by
          have hq := writesAt_iff.2 ⟨o, ho, e⟩
          have := pair_dst hC.pair hq hw
          subst this
          exact hc ((hmem _).2 hj)
        have hjD : j ∈ c :: (s.pre.reverse ++ D) := List.mem_cons_of_mem _ ((hmem j).2 hj)
        split at hx
        · split at hx
          · rw [stages_T hC.pair hst' hx t j hjD hw, tputD_ne hcw]
          · cases hx
        · rw [stages_T hC.pair hst' hx t j hjD hw, tputD_ne hcw]
        · cases hx
    obtain ⟨ct1, hancP, hfacts⟩ := pre_facts hC s3 hnx hpre ct hstab
    have hrf := re_facts hC hnx hR hnew ct hancD (fun t j hj hw => stages_T hC.pair hst0 hx0 t j hj hw) s2 hre
    have haf1 : ∀ i ∈ s.pre.reverse ++ D, opAt? C.ops allB i = true → (∀ c, prev = some c → i ≠ c ∧ i ∉ ancOf C.A c) → AFact C h1 i := by
      intro i hi ha hp
      rcases (hmem i).1 hi with q | q
      · exact (hfacts i q).2 ha
      · exact (haf i q ha hp).mono (fun e q2 => hR.sub _ _ q2)
    have hanc1 : ∀ i ∈ s.pre.reverse ++ D, ∀ j ∈ ancOf C.A i, j ∈ s.pre.reverse ++ D := by
      intro i hi j hj
      rw [hmem]
      rcases (hmem i).1 hi with q | q
      · exact hancP i q j hj
      · exact .inr (hancD i q j hj)
    -- every one that may be done later than it was reckoned
    have fact : ∀ {listed a w θ}, Inv C (s.pre.reverse ++ D) prev h1 listed a w θ → ∀ i ∈ s.pre.reverse ++ D, ¬ Lst listed i → SFact C h1 i := by
      intro listed a w θ inv1 i hi hni
      rcases (hmem i).1 hi with q | q
      · exact (hfacts i q).1
      · unfold coverOk at s1
        rw [List.all_eq_true] at s1
        have h2 := s1 i q
        simp only [Bool.or_eq_true] at h2
        rcases h2 with (h3 | h3) | h3
        · exact hrf i (memN_iff.1 h3)
        · have hilt : i < C.ops.size := by obtain ⟨o, ho, _⟩ := opAt_some h3; exact lt_of_get ho
          refine (haf1 i hi h3 fun c hc => ⟨fun e => ?_, fun e => ?_⟩).sfact (by have := inv1.nxt; omega)
          · subst e; exact hni (inv1.last _ hc)
          · have hLc := inv1.last c hc
            have hclt : c < C.ops.size := by
              unfold Lst at hLc
              rcases Nat.lt_or_ge c listed.size with g | g
              · rw [← inv1.size]; exact g
              · simp [Array.getD_eq_getD_getElem?, Array.getElem?_eq_none g] at hLc
            exact hni (lst_of_anc hC.anc inv1.down hclt hLc e)
        · cases hp : prev with
          | none => rw [hp] at h3; cases h3
          | some c =>
            rw [hp] at h3
            simp only [Bool.or_eq_true] at h3
            have hLc := inv1.last c hp
            rcases h3 with h4 | h4
            · have e : i = c := Nat.eq_of_beq_eq_true h4
              subst e
              exact absurd hLc hni
            · have hclt : c < C.ops.size := by
                unfold Lst at hLc
                rcases Nat.lt_or_ge c listed.size with g | g
                · rw [← inv1.size]; exact g
                · simp [Array.getD_eq_getD_getElem?, Array.getElem?_eq_none g] at hLc
              exact absurd (lst_of_anc hC.anc inv1.down hclt hLc (memN_iff.1 h4)) hni
    -- all are done
    have done : ∀ {listed a w θ}, Inv C (s.pre.reverse ++ D) prev h1 listed a w θ → (∀ i, i < C.ops.size → Lst listed i) → Q .normal a w := by
      intro listed a w θ inv1 hall
      rcases s4 with ⟨e1, e2, _⟩ | ⟨c, o, e1, ho, _, hc, _⟩
      · rw [e1] at hx
        subst e2
        simp only [Option.some.injEq, Prod.mk.injEq] at hx
        obtain ⟨hT, hh⟩ := hx
        refine hQ θ a w ⟨fun t v hv => ?_⟩ inv1.tsize inv1.defers (hh ▸ inv1.heap) (hh ▸ inv1.ext)
        by_cases hex : ∃ j, writesAt C.ops j t = true
        · obtain ⟨j, hw⟩ := hex
          obtain ⟨oj, hoj, _⟩ := writesAt_iff.1 hw
          exact inv1.new t v j (hall j (lt_of_get hoj)) hw hv
        · have hno : ∀ j, writesAt C.ops j t = false := fun j => by
            cases hq : writesAt C.ops j t with
            | false => rfl
            | true => exact absurd ⟨j, hq⟩ hex
          rw [← hT, ct1 t fun j _ => hno j] at hv
          exact inv1.old t v hv fun j _ => hno j
      · exact absurd (inv1.sub c (hall c (lt_of_get ho))) hc
    have inner : ∀ (fuel : Nat) (listed : Array Bool) (a : Act) (w : World) (θ : Th), Inv C (s.pre.reverse ++ D) prev h1 listed a w θ → cntF listed C.ops.size ≤ fuel → wpAnyIn (FW C.ro) 0 C.E.P .any C.ops Q fuel listed a w := by
      intro fuel
      induction fuel with
      | zero =>
        intro listed a w θ inv1 hc
        have hall := cnt_zero (listed := listed) (k := C.ops.size) (by omega)
        refine ⟨?_, done inv1 hall⟩
        cases hr : Region.ready .any C.ops listed with
        | nil => rfl
        | cons i r =>
          have hm : i ∈ Region.ready .any C.ops listed := by rw [hr]; simp
          obtain ⟨q1, q2, _⟩ := mem_ready' inv1.size hm
          exact absurd (hall i q1) q2
      | succ fuel ih =>
        intro listed a w θ inv1 hc
        refine ⟨fun hr => done inv1 fun i hi => all_done hC.anc inv1.size hr (i + 1) i (by omega) hi, fun i hi => ?_⟩
        obtain ⟨q1, q2, q3⟩ := mem_ready' inv1.size hi
        have hcs := (cnt_set (listed := listed) (i := i) (by rw [inv1.size]; exact q1) q2 C.ops.size).1 q1
        by_cases hiD : i ∈ s.pre.reverse ++ D
        · exact silent_step hC inv1 hi hiD (fact inv1 i hiD q2) fun θ' a' w' inv' => ih _ a' w' θ' inv' (by omega)
        · rcases s4 with ⟨_, _, hall⟩ | ⟨c, o, e1, ho, hhide, hcD, hbh, hlk, hal, hfu, hst'⟩
          · exact absurd (hall i q1) hiD
          · have hancI : ∀ j ∈ ancOf C.A i, Lst listed j := anc_down hC.anc inv1.down (i + 1) i (by omega) q1 q3
            have hic : i = c := by
              rcases hfu i q1 with g | g | g
              · exact absurd g hiD
              · exact g
              · exact absurd (inv1.sub c (hancI c g)) hcD
            subst hic
            obtain ⟨lk1, lk2⟩ := lookOk_spec ho hlk
            have hlook : Look C T1 i o := by
              refine ⟨fun t ht j hj hw => (hstab t j ((hmem j).1 (lk1 j hj)) hw).symm, fun t ht hno => ct1 t fun j hj => ?_⟩
              cases hq : writesAt C.ops j t with
              | false => rfl
              | true => rw [hno j (lk2 t ht j hj hq)] at hq; cases hq
            rw [e1] at hx
            simp only [ho] at hx
            have hanc2 : ∀ k ∈ i :: (s.pre.reverse ++ D), ∀ j ∈ ancOf C.A k, j ∈ i :: (s.pre.reverse ++ D) := by
              intro k hk j hj
              rcases List.mem_cons.1 hk with rfl | hk
              · exact List.mem_cons_of_mem _ (lk1 j hj)
              · exact List.mem_cons_of_mem _ (hanc1 k hk j hj)
            split at hx
            · rename_i hw
              split at hx
              · rename_i v h2 hop
                refine loud_step hC hcall inv1 hi ho hlook hhide hw hop (fun d hd => ?_) fun θ' a' w' hnn inv' => ?_
                · rw [stages_T hC.pair hst' hx d i (by simp) (writesAt_iff.2 ⟨o, ho, hd⟩), hd, tputD_same]
                · refine stages_main hC hcall hQ l _ (some i) _ _ hst' hx (ct1.cons ho v) hanc2 ?_ fuel _ a' w' θ' inv' (by omega)
                  intro k hk ha hp
                  obtain ⟨p1, p2⟩ := hp i rfl
                  have hkD : k ∈ s.pre.reverse ++ D := (List.mem_cons.1 hk).resolve_left p1
                  have hkh : k ∈ s.hide := (hal k hkD ha).resolve_right p2
                  have hkl : k < C.ops.size := by obtain ⟨o', ho', _⟩ := opAt_some ha; exact lt_of_get ho'
                  refine (haf1 k hkD ha fun c' hc' => ⟨fun e => ?_, fun e => ?_⟩).mono fun e q => ?_
                  · subst e
                    rw [hc'] at hbh
                    exact p2 (behind_spec hbh).1
                  · rw [hc'] at hbh
                    exact p2 ((behind_spec hbh).2 k e)
                  · rw [back_get.1 ⟨k, hkh, rfl⟩]; exact q
              · cases hx
            · rename_i hw
              have hwanted := want_sound (look_guard hC inv1 ho q2 hancI hlook) hw
              unfold wpOpIn
              rw [ho]
              simp only
              rw [if_neg (by rw [hwanted]; simp)]
              have hTf : ∀ d, o.dst = some d → tget C.Tf d = some undefV := fun d hd => by
                rw [stages_T hC.pair hst' hx d i (by simp) (writesAt_iff.2 ⟨o, ho, hd⟩), hd, tputD_same]
              have inv' := inv_step (D' := i :: (s.pre.reverse ++ D)) (prev' := some i) hC inv1 hi ho (fun _ _ q => q) (fun j q => List.mem_cons_of_mem _ q) (by simp) (fun c' q => .inl (Option.some.inj q).symm) hTf undef_W inv1.heap inv1.ext (fun _ _ _ q => q) inv1.nxt
              refine ⟨fun _ _ => fn_FW, stages_main hC hcall hQ l _ (some i) _ _ hst' hx (ct1.cons ho undefV) hanc2 ?_ fuel _ _ w θ inv' (by omega)⟩
              intro k hk ha hp
              obtain ⟨p1, p2⟩ := hp i rfl
              have hkD : k ∈ s.pre.reverse ++ D := (List.mem_cons.1 hk).resolve_left p1
              refine haf1 k hkD ha fun c' hc' => ⟨fun e => ?_, fun e => ?_⟩
              · subst e
                rw [hc'] at hbh
                exact p2 (behind_spec hbh).1
              · rw [hc'] at hbh
                exact p2 ((behind_spec hbh).2 k e)
            · cases hx
    exact inner fuel listed a w θ (inv.pre hR hnew hplt) hcnt

/-- A region whose order is open. -/
theorem draw_sound [LG] {E : Env} (hE : EnvT E) (hm : E.P.follows .mixedOrders = true) {call : Nat → List Value → Hp → Option (Value × Hp)} (hcall : ∀ h, CallAt E.P call h.nxt h) {ops : Array Oper} {N id : Nat} {st : List Stage} {T T' : Tm} {h h' : Hp} {θ : Th} {a : Act} {w : World} {Q : Exit → Act → World → Prop} {ro : Option Nat}
    (hx : xstages E call ops h.nxt st T ⟨h.m, h.nxt + ops.size⟩ = some (T', h')) (hp : planOk ops st = true) (hd : dstsOk N ops.toList = true) (ht : TR θ T a) (hN : N ≤ a.tmps.size) (hr : HR θ h w)
    (hQ : ∀ θ' a' w', Ext h.nxt θ h w θ' h' w' → HR θ' h' w' → TR θ' T' a' → a'.tmps.size = a.tmps.size → a'.defers = a.defers → Q .normal a' w') : (Code.region id ops true).wpIn (FW ro) 0 E.P Q a w := by
  refine wpIn_region_any hm ?_
  obtain ⟨A, hp1, hp2, hp3⟩ := planOk_spec hp
  let C : Ctx := ⟨E, ops, A, h.nxt, a.tmps.size, T, T', θ, h, { w with drawn := w.drawn + 1 }, a.defers, ro⟩
  have hC : CtxOk C := ⟨hE, fun i hi => hp1 i hi, fun i j hi hj => hp2 i j hi hj, fun i o d ho hdd => Nat.lt_of_lt_of_le (dstsOk_get hd i o (by simpa using ho) d hdd) hN, rfl⟩
  have hr1 : HR θ ⟨h.m, h.nxt + ops.size⟩ { w with drawn := w.drawn + 1 } := ⟨(hr.drawn (w.drawn + 1)).ent, (hr.drawn (w.drawn + 1)).sep, fun n hn => hr.fresh n (by have : h.nxt + ops.size ≤ n := hn; omega)⟩
  have hl0 : ∀ i, ¬ Lst (Array.replicate ops.size false) i := fun i hq => by
    unfold Lst at hq
    rw [Array.getD_eq_getD_getElem?, Array.getElem?_replicate] at hq
    split at hq <;> simp at hq
  have inv : Inv C [] none ⟨h.m, h.nxt + ops.size⟩ (Array.replicate ops.size false) a { w with drawn := w.drawn + 1 } θ := by
    refine ⟨by simp [C], fun i o _ hL => absurd hL (hl0 i), fun i hL => absurd hL (hl0 i), fun c hc => (by cases hc), rfl, rfl, fun t v hv _ => ht.tmps t v hv, fun t v j hL => absurd hL (hl0 j), hr1, fun j hj _ => hr.fresh _ (by show h.nxt ≤ h.nxt + j; omega), Nat.le_refl _, ?_⟩
    exact ⟨fun _ _ q => q, fun _ _ _ => rfl, by show h.nxt ≤ h.nxt + ops.size; omega, Nat.le_refl _, rfl, rfl, rfl, fun _ _ _ => rfl, fun n e x q1 qu q2 => .inr ⟨n, e, x, q1, qu, q2, rfl⟩, fun n e x q1 q2 => .inr ⟨n, e, x, q1, q2, rfl⟩⟩
  have hcnt : ∀ k, k ≤ ops.size → cntF (Array.replicate ops.size false) k ≤ k := by
    intro k
    induction k with
    | zero => intro _; simp [cntF]
    | succ k ih =>
      intro hk
      have := ih (by omega)
      simp only [cntF]
      cases (Array.replicate ops.size false).getD k false <;> simp <;> omega
  refine stages_main hC hcall ?_ st [] none T _ hp3 hx (fun t _ => rfl) (fun i hi => (by cases hi)) (fun i hi => (by cases hi)) ops.size _ a _ θ inv (hcnt _ (Nat.le_refl _))
  intro θ' a' w' t1 t2 td t3 t4
  refine hQ θ' a' w' ?_ t3 t1 t2 td
  exact ⟨t4.keep, t4.only, t4.nxt, t4.size, t4.tape, t4.os, t4.output, t4.frame, t4.ownw, t4.own⟩

end Go.Ev
