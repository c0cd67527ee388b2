/- Rows that are written to: what is referred to is put into them. -/
import Derived.Test.YtlemdiinmfneoaaGreatEwKeep
set_option linter.unusedVariables false
set_option linter.unusedSimpArgs false
namespace Go.Ew
open Go.Ev Go.Deep Go.Proofs.YtlemdiinmfneoaaGreat.Va

/-- What stands at a place. -/
def cellAt (vs : List (List V)) (i j : Nat) : Option V := vs[i]?.bind fun l => l[j]?

/-- A row of three values that may be written to. -/
structure YR (B H : KH) (b : Nat) (l : List V) : Prop where
  at_ : ∃ e cs, H b = some e ∧ wrB e = true ∧ rd e.cells 0 12 = some cs ∧ RC B l cs
  new : B b = none

theorem YR.put {B H : KH} {b j : Nat} {l : List V} {v : V} {vs : List Value} (h : YR B H b l) (hl : l.length = 3) (hj : j < 3) (hv : RV B v vs) : YR B (H.put ⟨b, j * 4, none⟩ vs) b (l.set j v) := by
  obtain ⟨⟨e, cs, h1, h2, h3, h4⟩, h5⟩ := h
  have hn := hv.len
  refine ⟨⟨⟨wr e.cells (j * 4) vs, e.len, e.unk, none⟩, _, ?_, ?_, rd_wr0 h3 (by omega), ?_⟩, h5⟩
  · simp only [KH.put, if_true, h1, Option.map_some]
  · simp only [wrB, Bool.and_eq_true] at h2 ⊢
    exact ⟨h2.1, rfl⟩
  · rw [List.set_eq_take_append_cons_drop, if_pos (by omega)]
    have e1 : l.take j ++ v :: l.drop (j + 1) = l.take j ++ [v] ++ l.drop (j + 1) := by simp
    rw [e1]
    have e2 : j * 4 + vs.length = (j + 1) * 4 := by omega
    rw [e2]
    exact ((RC.cut j h4).1.append (RC.one hv)).append (RC.cut (j + 1) h4).2

theorem YR.ne {B H : KH} {b b' o : Nat} {l : List V} {vs : List Value} (h : YR B H b l) (hb : b ≠ b') : YR B (H.put ⟨b', o, none⟩ vs) b l := by
  obtain ⟨⟨e, cs, h1, h2⟩, h5⟩ := h
  exact ⟨⟨e, cs, by simp only [KH.put, if_neg hb]; exact h1, h2⟩, h5⟩

structure YS (B H : KH) (bs : List (Nat × Nat)) (ys : List (List V)) : Prop where
  le : Le B H
  row : ∀ (i : Nat) (x : Nat × Nat) (l : List V), bs[i]? = some x → ys[i]? = some l → YR B H x.1 l
  nd : (bs.map (·.1)).Nodup
  lb : bs.length = 3
  ly : ys.length = 3
  l3 : ∀ l ∈ ys, l.length = 3
  ok : ∀ l ∈ ys, ∀ v ∈ l, Ok v

theorem YS.put {B H : KH} {bs : List (Nat × Nat)} {ys : List (List V)} {i j : Nat} {x : Nat × Nat} {l : List V} {v : V} {vs : List Value} (h : YS B H bs ys) (hb : bs[i]? = some x) (hl : ys[i]? = some l) (hj : j < 3) (hv : RV B v vs) (hok : Ok v) : YS B (H.put ⟨x.1, j * 4, none⟩ vs) bs (ys.set i (l.set j v)) := by
  have hm := List.mem_of_getElem? hl
  have hi : i < ys.length := by
    rcases Nat.lt_or_ge i ys.length with q | q
    · exact q
    · rw [List.getElem?_eq_none q] at hl; cases hl
  have hr := h.row i x l hb hl
  refine ⟨fun k e q => ?_, fun i' x' l' hb' hl' => ?_, h.nd, h.lb, by simpa using h.ly, fun l' hl' => ?_, fun l' hl' w hw => ?_⟩
  · have : k ≠ x.1 := fun ek => by subst ek; rw [hr.new] at q; cases q
    simp only [KH.put, if_neg this]
    exact h.le k e q
  · rw [List.getElem?_set] at hl'
    by_cases e1 : i = i'
    · subst e1
      rw [if_pos rfl, if_pos hi] at hl'
      cases hl'
      rw [hb] at hb'
      cases hb'
      exact hr.put (h.l3 _ hm) hj hv
    · rw [if_neg e1] at hl'
      refine (h.row i' x' l' hb' hl').ne fun ex => e1 ?_
      have hlen : i < (bs.map (·.1)).length := by simp [h.lb]; have := h.ly; omega
      refine (List.getElem?_inj hlen h.nd).1 ?_
      rw [List.getElem?_map, List.getElem?_map, hb, hb']
      simp [ex]
  · rcases List.mem_or_eq_of_mem_set hl' with q | q
    · exact h.l3 _ q
    · subst q; simpa using h.l3 _ hm
  · rcases List.mem_or_eq_of_mem_set hl' with q | q
    · exact h.ok _ q w hw
    · subst q
      rcases List.mem_or_eq_of_mem_set hw with q | q
      · exact h.ok _ hm w q
      · subst q; exact hok

theorem YS.vals {B H : KH} {bs : List (Nat × Nat)} {ys : List (List V)} {a : OA} (h : YS B H bs ys) (ho : ∀ (i : Nat) (x : Nat × Nat), bs[i]? = some x → ∃ b o, a = some ⟨b, o, none⟩ ∧ ld B ⟨b, o + i, none⟩ [.slice (some ⟨x.1, 0, none⟩) 3 x.2]) : Vals H ys a := by
  refine ⟨fun i l hi => ?_, fun l hl v hv => ?_, ⟨by have := h.ly; omega, fun l hl => by have := h.l3 l hl; omega⟩⟩
  · have hlt : i < ys.length := by
      rcases Nat.lt_or_ge i ys.length with q | q
      · exact q
      · rw [List.getElem?_eq_none q] at hi; cases hi
    have hb : bs[i]? = some (bs[i]'(by have := h.lb; have := h.ly; omega)) := by simp
    generalize bs[i]'(by have := h.lb; have := h.ly; omega) = x at hb
    obtain ⟨b, o, h1, h2⟩ := ho i x hb
    have hl3 := h.l3 l (List.mem_of_getElem? hi)
    obtain ⟨⟨e, cs, r1, r2, r3, r4⟩, r5⟩ := h.row i x l hb hi
    refine ⟨b, o, some ⟨x.1, 0, none⟩, x.2, h1, by rw [hl3]; exact h.le.ld h2, RS.of_cells (cs := cs) ?_ (r4.mono h.le)⟩
    rw [hl3]
    exact kold_some.2 ⟨e, r1, r3⟩
  · have := (h.ok l hl v hv).sz
    omega

theorem frL_none {X : KH} {x : Nat × Ent} : ∀ {F : List (Nat × Ent)}, frL X F → x ∈ F → X x.1 = none
  | (b, e) :: F, h, hm => by
    rcases List.mem_cons.1 hm with rfl | q
    · exact (addL_le h.2).none h.1
    · exact frL_none h.2 q

theorem frL_nodup {X : KH} : ∀ {F : List (Nat × Ent)}, frL X F → (F.map (·.1)).Nodup
  | [], _ => by simp
  | (b, e) :: F, h => by
    rw [List.map_cons, List.nodup_cons]
    refine ⟨fun hm => ?_, frL_nodup h.2⟩
    obtain ⟨x, hx, ex⟩ := List.mem_map.1 hm
    have := addL_mem h.2 hx
    rw [ex, h.1] at this
    cases this

/-- The name of its block. -/
def R3.nm (r : R3) : Nat := match r.a with
  | some a => a.block
  | none => 0

theorem R3.ok.own1 {K : KH} {r : R3} (h : r.ok K) : ∃ e, r.a = some ⟨r.nm, 0, none⟩ ∧ r.F = [(r.nm, e)] ∧ wrB e = true ∧ rd e.cells 0 12 = some r.cs := by
  obtain ⟨l, a, c, cs, F⟩ := r
  obtain ⟨⟨h1, h2⟩, _, h3, _⟩ := h
  simp only [R3.nm] at *
  rw [h3] at h2
  match F, h1 with
  | [], _ => cases h2 with
    | lit b _ _ q => cases q
    | grown b _ _ e q => cases q
  | [(b0, e0)], _ =>
    cases h2 with
    | lit b _ _ q1 q2 q3 q4 =>
      have : b = b0 := by
        by_cases e : b = b0
        · exact e
        · simp only [addL, KH.new, if_neg e] at q1; cases q1
      subst this
      simp only [addL, KH.new, if_true] at q1
      cases q1
      refine ⟨mkEnt cs 0, rfl, rfl, rfl, ?_⟩
      exact rd_some (by omega) fun j v hv => by rw [Nat.zero_add]; simp only [mkEnt, tget_wr_nil]; exact hv
    | grown b _ _ e q1 q2 q3 q4 q5 q6 =>
      have : b = b0 := by
        by_cases e : b = b0
        · exact e
        · simp only [addL, KH.new, if_neg e] at q1; cases q1
      subst this
      simp only [addL, KH.new, if_true] at q1
      cases q1
      exact ⟨_, rfl, rfl, q6, q4⟩

theorem blocks_names {K : KH} : ∀ {rs : List R3}, (∀ r ∈ rs, r.ok K) → (blocks rs).map (·.1) = rs.map R3.nm
  | [], _ => rfl
  | r :: rs, h => by
    obtain ⟨e, _, h1, _⟩ := (h r (by simp)).own1
    rw [blocks, List.map_append, blocks_names fun r hr => h r (by simp [hr]), h1]
    rfl

/-- What is known but of blocks of such names. -/
def but (H : KH) (ns : List Nat) : KH := fun k => if k ∈ ns then none else H k

theorem but_le {H : KH} {ns : List Nat} : Le (but H ns) H := fun k e q => by
  unfold but at q
  split at q
  · cases q
  · exact q

/-- The rows that were made may be written to. -/
theorem Rs3.ys {K0 X K H H' : KH} {p n c : Nat} {rs : List R3} {a : OA} {F2 : List (Nat × Ent)} (h : Rs3 K0 X K p rs a n c F2 H) (hl : rs.length = 3) (hle : Le H H') :
    Le K0 (but H' (rs.map R3.nm)) ∧ YS (but H' (rs.map R3.nm)) H' (rs.reverse.map fun r => (r.nm, r.c)) (rowsOf rs) ∧
    (∀ (i : Nat) (x : Nat × Nat), (rs.reverse.map fun r => (r.nm, r.c))[i]? = some x → ∃ b o, a = some ⟨b, o, none⟩ ∧ ld (but H' (rs.map R3.nm)) ⟨b, o + i, none⟩ [.slice (some ⟨x.1, 0, none⟩) 3 x.2]) ∧
    (∀ k, k ∈ rs.map R3.nm → H k ≠ none) := by
  have hn := blocks_names h.rows
  have hfr := frL_app.1 h.fr
  have hX : Le X (but H' (rs.map R3.nm)) := fun k e q => by
    unfold but
    rw [if_neg, hle k e (h.at_ k e (addL_le h.fr k e q))]
    intro hk
    rw [← hn] at hk
    obtain ⟨x, hx, ex⟩ := List.mem_map.1 hk
    have := frL_none hfr.2 hx
    rw [ex, q] at this
    cases this
  have hin : ∀ x ∈ F2 ++ blocks rs, H x.1 = some x.2 := fun x hx => h.at_ _ _ (addL_mem h.fr hx)
  refine ⟨h.le.trans (h.pk.le.trans hX), ⟨but_le, fun i x l hx hl => ?_, ?_, by simp [hl], by simp [rowsOf, hl], fun l hl => ?_, fun l hl => ?_⟩, fun i x hx => ?_, fun k hk => ?_⟩
  · unfold rowsOf at hl
    rw [List.getElem?_map] at hx hl
    cases hr : rs.reverse[i]? with
    | none => rw [hr] at hl; cases hl
    | some r =>
      rw [hr] at hx hl
      cases hx
      cases hl
      have hm : r ∈ rs := List.mem_reverse.1 (List.mem_of_getElem? hr)
      have hro := h.rows r hm
      obtain ⟨e, e1, e2, e3, e4⟩ := hro.own1
      refine ⟨⟨e, r.cs, hle _ _ (hin (r.nm, e) (List.mem_append_right _ (blocks_mem hm _ (by rw [e2]; simp)))), e3, e4, hro.rc.mono (h.pk.le.trans hX)⟩, ?_⟩
      unfold but
      rw [if_pos (List.mem_map.2 ⟨r, hm, rfl⟩)]
  · have h1 := frL_nodup hfr.2
    rw [hn] at h1
    rw [List.map_map]
    have e1 : (rs.reverse.map ((fun x : Nat × Nat => x.1) ∘ fun r : R3 => (r.nm, r.c))) = (rs.map R3.nm).reverse := by rw [← List.map_reverse]; rfl
    rw [e1]
    unfold List.Nodup at h1 ⊢
    rw [List.pairwise_reverse]
    exact h1.imp fun q => Ne.symm q
  · obtain ⟨r, hr, rfl⟩ := List.mem_map.1 hl
    exact (h.rows r (List.mem_reverse.1 hr)).len
  · obtain ⟨r, hr, rfl⟩ := List.mem_map.1 hl
    exact fun v hv => ((h.rows r (List.mem_reverse.1 hr)).vals v hv).toOk
  · rw [List.getElem?_map] at hx
    cases hr : rs.reverse[i]? with
    | none => rw [hr] at hx; cases hx
    | some r =>
      rw [hr] at hx
      cases hx
      have hm : r ∈ rs := List.mem_reverse.1 (List.mem_of_getElem? hr)
      have hro := h.rows r hm
      obtain ⟨e, e1, e2, e3, e4⟩ := hro.own1
      have hown := h.own.here (H := but H' (rs.map R3.nm)) fun x hx => by
        unfold but
        rw [if_neg, hle _ _ (hin x (List.mem_append_left _ hx))]
        intro hk
        rw [← hn] at hk
        obtain ⟨y, hy, ey⟩ := List.mem_map.1 hk
        have h1 := frL_none hfr.1 hx
        have h2 := addL_mem hfr.2 hy
        rw [ey, h1] at h2
        cases h2
      obtain ⟨b, o, ha, hld⟩ := own_at (i := i) (v := r.cell) hown (by rw [List.getElem?_map, hr]; rfl)
      refine ⟨b, o, ha, ?_⟩
      have ec : r.cell = .slice (some ⟨r.nm, 0, none⟩) 3 r.c := by unfold R3.cell; rw [e1, hro.len]
      rw [← ec]
      exact hld
  · rw [← hn] at hk
    obtain ⟨y, hy, rfl⟩ := List.mem_map.1 hk
    rw [hin y (List.mem_append_right _ hy)]
    exact fun q => by cases q

/-- The refs, read. -/
theorem refs_at {H : KH} {n c k : Nat} {a : OA} {F : List (Nat × Ent)} {refs : List (Int × Int)} {p : Int × Int} (h : OwnQ 2 a refs.length c (pairC refs) F) (hh : ∀ x ∈ F, H x.1 = some x.2) (hk : refs[k]? = some p) :
    ∃ b o, a = some ⟨b, o, none⟩ ∧ ld H ⟨b, o + k * 2 + 0 * 1, none⟩ [.int .i64 p.1] ∧ ld H ⟨b, o + k * 2 + 1 * 1, none⟩ [.int .i64 p.2] := by
  have hown := h.here hh
  have hlt : k < refs.length := by
    rcases Nat.lt_or_ge k refs.length with q | q
    · exact q
    · rw [List.getElem?_eq_none q] at hk; cases hk
  obtain ⟨b, E, rfl, hb, _⟩ := hown.at_ (by omega)
  obtain ⟨e, he, hr⟩ := kold_some.1 hown.cells
  have hg : ∀ (l : List (Int × Int)) (k : Nat), l[k]? = some p → (pairC l)[k * 2]? = some (.int .i64 p.1) ∧ (pairC l)[k * 2 + 1]? = some (.int .i64 p.2) := by
    intro l
    induction l with
    | nil => intro k h; simp at h
    | cons q l ih =>
      intro k h
      cases k with
      | zero => have : q = p := by simpa using h
                subst this; exact ⟨rfl, rfl⟩
      | succ k =>
        have := ih k (by simpa using h)
        have e1 : (k + 1) * 2 = k * 2 + 2 := by omega
        rw [e1]
        exact this
  obtain ⟨g1, g2⟩ := hg refs k hk
  have cell : ∀ (j : Nat) (v : Value), (pairC refs)[j]? = some v → ld H ⟨b, j, none⟩ [v] := fun j v hv => ⟨rfl, e, he, rd_some rfl fun i w hw => by
    cases i with
    | zero => have : v = w := by simpa using hw
              subst this
              have := rd_get hr j v hv
              simpa using this
    | succ i => simp at hw⟩
  refine ⟨b, 0, rfl, ?_, ?_⟩
  · have := cell _ _ g1
    simpa using this
  · have := cell _ _ g2
    simpa using this
end Go.Ew
