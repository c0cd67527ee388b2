/- Contracts of the reference's rows: key, Find, Ins. -/
import Derived.Test.YtlemdiinmfneoaaGreatEwValP
import Derived.Test.YtlemdiinmfneoaaGreatEwCells
set_option linter.unusedVariables false
namespace Go.Proofs.YtlemdiinmfneoaaGreat
open Go.Ev Go.Ew
namespace Va

theorem ld_sub {H : KH} {b o : Nat} {cs : List Value} (h : ld H ⟨b, o, none⟩ cs) (j m : Nat) (hj : j + m ≤ cs.length) : ld H ⟨b, o + j, none⟩ ((cs.drop j).take m) := by
  obtain ⟨_, e, he, hr⟩ := h
  have h1 := rd_drop hr (m := j) (by omega)
  have h2 := rd_take h1 (m := m) (by omega)
  refine ⟨rfl, e, he, ?_⟩
  rw [List.length_take, List.length_drop, Nat.min_eq_left (by omega)]
  exact h2

def keyV : V → ByteArray
  | .mk _ _ _ [] => ByteArray.mk #[]
  | .mk _ _ _ (.mk _ _ s _ :: _) => s

def kidsV : V → Nat
  | .mk _ _ _ l => l.length

def findV (s : ByteArray) : List V → Nat × Bool
  | [] => (0, false)
  | y :: l => if strLt (keyV y) s = true then ((findV s l).1 + 1, (findV s l).2) else (0, decide (0 < kidsV y) && strEq (keyV y) s)

def insV (x : V) : List V → List V
  | [] => [x]
  | y :: l => if cmpV y x < 0 then y :: insV x l else if cmpV y x = 0 then y :: l else x :: y :: l

section
variable (ok : EnvOk (env Tryz.prog))
include ok

theorem c51 {x : V} {cx : List Value} {H : KH} {Q : PQ} (hx : RV H x cx) (hq : Q (.string (keyV x)) H) : Does (env Tryz.prog) 51 [.agg cx.toArray] H Q := by
  obtain ⟨k, i, s, l⟩ := x
  obtain ⟨a, n, c, rfl, rfl, hl, hok⟩ := hx
  refine fn51 ok ⟨fun h => ?_, fun h => ?_⟩
  · cases l with
    | nil => exact hq
    | cons y l => simp at h; omega
  · cases l with
    | nil => simp at h
    | cons y l =>
      obtain ⟨b, o, ha, ⟨cs, h2, h3⟩, h4⟩ := hl
      obtain ⟨k', i', s', l'⟩ := y
      obtain ⟨a', n', c', rfl, rfl, _, _⟩ := h3
      refine ⟨⟨by omega, by simp only [List.length_cons]; omega⟩, b, o, ha, rfl, s', ?_, hq⟩
      exact ld_sub h2 2 1 (by simp)

theorem c33 {l : List V} {a : OA} {c : Nat} {s : ByteArray} {H : KH} {Q : PQ} (hl : RS H l a) (hn : l.length ≤ 1000000)
    (hq : Q (.tuple #[.int .i64 ((findV s l).1 : Int), .bool (findV s l).2]) H) : Does (env Tryz.prog) 33 [.slice a l.length c, .string s] H Q := by
  refine fn33 ok ?_
  unfold vc33 vc33_L1
  refine ⟨fun m a4 n5 n6 s7 x8 H9 => a4 = a ∧ n5 = l.length ∧ s7 = s ∧ H9 = H ∧ ∃ j : Nat, x8 = j ∧ j ≤ l.length ∧ m = l.length - j ∧
    findV s l = (j + (findV s (l.drop j)).1, (findV s (l.drop j)).2), ⟨l.length, rfl, rfl, rfl, rfl, 0, rfl, by omega, by omega, by simp⟩, ?_⟩
  rintro m a4 n5 n6 s7 x8 H9 ⟨rfl, rfl, rfl, rfl, j, rfl, hj, rfl, e⟩
  have stop : (∀ (hlt : j < l.length), strLt (keyV l[j]) s7 = false) → vc33_J0 (j : Int) l.length a4 H9 Q s7 := by
    intro hst
    refine ⟨fun hlt => ?_, fun hge => ?_⟩
    · have hlt : j < l.length := by simpa using hlt
      have hst := hst hlt
      have hdrop : l.drop j = l[j] :: l.drop (j + 1) := List.drop_eq_getElem_cons hlt
      obtain ⟨b, o, ha, cx, hld, hrv⟩ := RS.get hl (show l[j]? = some l[j] by simp [hlt])
      rw [hdrop, findV, hst] at e
      simp only [Bool.false_eq_true, if_false, Nat.add_zero] at e
      rw [e] at hq
      have hrv' := hrv
      generalize hxv : l[j] = x at *
      obtain ⟨k1, i1, s1, lx⟩ := x
      obtain ⟨ax, nx, cx', rfl, rfl, hsx, hox⟩ := hrv
      refine ⟨⟨by omega, by omega⟩, b, o, ha, rfl, ax, lx.length, cx', by simpa using ld_sub hld 3 1 (by simp), fun h => ⟨⟨by omega, by omega⟩, b, o, ha, k1, i1, s1, ax, lx.length, cx', by simpa using hld, ?_⟩, fun h => ?_⟩
      · refine c51 ok hrv' ⟨_, rfl, ?_⟩
        have h : 0 < lx.length := by simpa using h
        have hd : decide (0 < kidsV (.mk k1 i1 s1 lx)) = true := decide_eq_true h
        simp only [hd, Bool.true_and] at hq
        exact hq
      · have h : lx.length = 0 := by simpa using h
        have hd : decide (0 < kidsV (.mk k1 i1 s1 lx)) = false := by simp [kidsV, h]
        simp only [hd, Bool.false_and] at hq
        exact hq
    · have hge : l.length ≤ j := by simpa using hge
      rw [List.drop_eq_nil_of_le hge, findV] at e
      simp only [Nat.add_zero] at e
      rw [e] at hq
      exact hq
  refine ⟨fun hlt => ?_, fun hge => stop fun hlt => ?_⟩
  · have hlt : j < l.length := by simpa using hlt
    have hdrop : l.drop j = l[j] :: l.drop (j + 1) := List.drop_eq_getElem_cons hlt
    obtain ⟨b, o, ha, cx, hld, hrv⟩ := RS.get hl (show l[j]? = some l[j] by simp [hlt])
    have hrv' := hrv
    generalize hxv : l[j] = x at *
    obtain ⟨k1, i1, s1, lx⟩ := x
    obtain ⟨ax, nx, cx', rfl, rfl, hsx, hox⟩ := hrv
    refine ⟨⟨by omega, by omega⟩, b, o, ha, k1, i1, s1, ax, lx.length, cx', by simpa using hld, c51 ok hrv' ⟨_, rfl, fun h => ?_, fun h => stop fun hlt' => ?_⟩⟩
    · rw [hdrop, findV, if_pos h] at e
      refine ⟨l.length - (j + 1), by omega, rfl, rfl, rfl, rfl, j + 1, ?_, by omega, rfl, ?_⟩
      · rw [wrap64 (by omega) (by omega)]; omega
      · rw [e]; simp only [Prod.mk.injEq, and_true]; omega
    · rw [hxv]; exact h
  · simp at hge; omega

omit ok in
theorem szL_app : ∀ l m : List V, szL (l ++ m) = szL l + szL m
  | [], m => by simp [szL]
  | v :: l, m => by simp only [List.cons_append, szL, szL_app l m]; omega
omit ok in
theorem hide_new {H : KH} {n : Nat} {e : Ent} (h : H n = none) : hideK (H.new n e) [n] = H := new_del h

abbrev VT : TI := ⟨4, 56, true, 3, 0, 0, [(0, 1), (1, 1), (2, 1), (3, 1)], [(Value.int .i64 0), (Value.int .i64 0), (Value.string (ByteArray.mk #[])), (Value.slice none 0 0)]⟩

/-- A row of one's own. -/
structure Mine (H H' : KH) (l : List V) (a : OA) (c : Nat) : Prop where
  le : Le H H'
  row : RS H' l a
  cut : SlOk H' 4 a l.length c
  own : ∃ cs, Own H H' 4 a l.length c cs

omit ok in
theorem j20 {l : List V} {x : V} {a : OA} {c j : Nat} {H : KH} {Q : PQ} {k i : Int} {s : ByteArray} {ax : OA} {nx cx : Nat}
    (hl : RS H l a) (hok : SlOk H 4 a l.length c) (hj : j ≤ l.length) (hn : l.length + 1 ≤ 1000000) (hx : RV H x [.int .i64 k, .int .i64 i, .string s, .slice ax nx cx])
    (hq : ∀ a' c' H', Mine H H' (l.take j ++ x :: l.drop j) a' c' → Q (.slice a' (l.take j ++ x :: l.drop j).length c') H') : vc32_J0 H a l.length c j k i s ax nx cx Q := by
  obtain ⟨cs, hcs, hrc⟩ := hl.cells
  obtain ⟨aL, cL, hL1, hL2⟩ := cut_lo hok hcs hj
  obtain ⟨aR, cR, hR1, hR2⟩ := cut_hi hok hcs hj
  have hlen := kold_len hcs
  refine ⟨trivial, fun n1 hn1 => ⟨aL, j, cL, (Le.new hn1).kslice hL1, fun n5 hn5 => ⟨aR, l.length - j, cR, ((Le.new hn1).trans (Le.new hn5)).kslice hR1, fun n9 hn9 => ?_⟩⟩⟩
  have h59 : n5 ≠ n9 := fun e => by subst e; simp [KH.new] at hn9
  rw [hide_new hn5]
  refine ⟨j, _, knew_of ((Le.new hn1).kold hL2), ?_⟩
  obtain ⟨a12, c17, H15, hap, hown, hle, _, hnn⟩ := Own.append (ti := VT) (H0 := H) (H := KH.new H n1 (mkEnt [] 0)) (nm := n9) (new := cs.take (j * 4)) (m := j)
    (.lit n1 0 [] (by simp [KH.new]) rfl (by decide) hn1) (Le.new hn1) (Le.none (Le.new hn5) hn9) (by simp only [List.length_take]; omega) (by omega) (by decide) (by decide)
  have h15 : H15 n5 = none := hnn n5 hn5 h59
  have leA : Le H15 (H15.new n5 (mkEnt [.int .i64 k, .int .i64 i, .string s, .slice ax nx cx] 0)) := Le.new h15
  refine ⟨a12, 0 + j, c17, H15, hap, fun _ => ?_⟩
  rw [back_new]
  refine ⟨⟨rfl, rfl, rfl, ⟨aR, _, cR, (hle.trans leA).kslice hR1, rfl⟩, trivial⟩, fun n19 hn19 => ?_⟩
  obtain ⟨a22, c33, H25, hap2, hown2, hle2, _, _⟩ := Own.append (ti := VT) (H0 := H) (nm := n19) (new := [.int .i64 k, .int .i64 i, .string s, .slice ax nx cx]) (m := 1)
    (hown.mono leA) (hle.trans leA) hn19 rfl (by omega) (by decide) (by decide)
  have hk5 : kold (H15.new n5 (mkEnt [.int .i64 k, .int .i64 i, .string s, .slice ax nx cx] 0)) 4 (some ⟨n5, 0, none⟩) 1 = some [.int .i64 k, .int .i64 i, .string s, .slice ax nx cx] :=
    kold_some.2 ⟨mkEnt [.int .i64 k, .int .i64 i, .string s, .slice ax nx cx] 0, if_pos rfl, mk_rd⟩
  refine ⟨1, _, knew_of hk5, a22, _, c33, H25, hap2, ⟨rfl, rfl, ⟨aR, _, cR, hle2.kslice hR1, rfl⟩, trivial⟩, fun n29 hn29 => ?_⟩
  refine ⟨l.length - j, _, knew_of (hle2.kold hR2), ?_⟩
  obtain ⟨a32, c37, H35, hap3, hown3, hle3, _, _⟩ := Own.append (ti := VT) (H0 := H) (nm := n29) (new := cs.drop (j * 4)) (m := l.length - j)
    hown2 hle2 hn29 (by simp only [List.length_drop]; omega) (by omega) (by decide) (by decide)
  refine ⟨a32, _, c37, H35, hap3, trivial, ?_⟩
  have hl2 : (l.take j ++ x :: l.drop j).length = 0 + j + 1 + (l.length - j) := by simp only [List.length_append, List.length_cons, List.length_take, List.length_drop]; omega
  rw [← hl2] at hown3 ⊢
  refine hq a32 c37 H35 ⟨hle3, RS.of_cells hown3.cells ?_, hown3.ok (by decide), _, hown3⟩
  have hc := hrc.cut j
  have h3 := ((RC.append hc.1 (RC.one hx)).append hc.2).mono hle3
  simpa using h3

theorem c32 {l : List V} {x : V} {a : OA} {c : Nat} {cx : List Value} {H : KH} {Q : PQ} (hl : RS H l a) (hok : SlOk H 4 a l.length c) (hx : RV H x cx)
    (h1 : szL l ≤ 60000) (h2 : szV x ≤ 60000) (hq : ∀ a' c' H', Mine H H' (insV x l) a' c' → Q (.slice a' (insV x l).length c') H') : Does (env Tryz.prog) 32 [.slice a l.length c, .agg cx.toArray] H Q := by
  have hx' := hx
  obtain ⟨k, i, s, lx⟩ := x
  obtain ⟨ax, nx, cx, rfl, rfl, hlx, hokx⟩ := hx
  have hll := len_szL l
  refine fn32 ok ?_
  generalize hxv : V.mk k i s lx = x at *
  unfold vc32 vc32_L2
  refine ⟨fun m a4 n5 n6 x7 x8 s9 a10 n11 n12 x13 H14 => a4 = a ∧ n5 = l.length ∧ n6 = c ∧ x7 = k ∧ x8 = i ∧ s9 = s ∧ a10 = ax ∧ n11 = lx.length ∧ n12 = cx ∧ H14 = H ∧
    ∃ j : Nat, x13 = j ∧ j ≤ l.length ∧ m = l.length - j ∧ insV x l = l.take j ++ insV x (l.drop j), ⟨l.length, rfl, rfl, rfl, rfl, rfl, rfl, rfl, rfl, rfl, rfl, 0, rfl, by omega, by omega, by simp⟩, ?_⟩
  rintro m a4 n5 n6 x7 x8 s9 a10 n11 n12 x13 H14 ⟨rfl, rfl, rfl, rfl, rfl, rfl, rfl, rfl, rfl, rfl, j, rfl, hj, rfl, e⟩
  have stop : (∀ (hlt : j < l.length), ¬ cmpV l[j] x < 0) → vc32_J1 (j : Int) l.length a4 H14 x7 x8 s9 a10 lx.length n12 n6 Q := by
    intro hst
    refine ⟨trivial, fun hlt => ?_, fun hge => ⟨trivial, ?_⟩⟩
    · have hlt : j < l.length := by simpa using hlt
      have hst := hst hlt
      have hdrop : l.drop j = l[j] :: l.drop (j + 1) := List.drop_eq_getElem_cons hlt
      obtain ⟨b, o, ha, cy, hld, hrv⟩ := RS.get hl (show l[j]? = some l[j] by simp [hlt])
      have hmy := mem_szL (List.getElem_mem hlt)
      have hrv' := hrv
      rw [hdrop, insV, if_neg hst, ← hdrop] at e
      generalize hyv : l[j] = y at *
      obtain ⟨k1, i1, s1, ly⟩ := y
      obtain ⟨ay, ny, cy', rfl, rfl, hsy, hoy⟩ := hrv
      refine ⟨⟨by omega, by omega⟩, b, o, ha, k1, i1, s1, ay, ly.length, cy', by simpa using hld, ?_⟩
      refine c24 ok 60000 _ _ _ _ H14 _ (by omega) (by omega) (by omega) hrv' hx' ⟨_, rfl, trivial, fun he => ?_, fun hne => ?_⟩
      · have he : cmpV (.mk k1 i1 s1 ly) x = 0 := by simpa using he
        rw [if_pos he, List.take_append_drop] at e
        rw [e] at hq
        intro n12 hn12 n13 hn13
        obtain ⟨cs, hcs, hrc⟩ := hl.cells
        have hlen := kold_len hcs
        refine ⟨l.length, cs, knew_of ((Le.new hn12).kold hcs), ?_⟩
        obtain ⟨a32, c37, H35, hap3, hown3, hle3, _, _⟩ := Own.append (ti := VT) (H0 := H14) (H := KH.new H14 n12 (mkEnt [] 0)) (nm := n13) (new := cs) (m := l.length)
          (.lit n12 0 [] (by simp [KH.new]) rfl (by decide) hn12) (Le.new hn12) hn13 hlen (by omega) (by decide) (by decide)
        refine ⟨a32, _, c37, H35, hap3, ?_⟩
        rw [Nat.zero_add] at hown3 ⊢
        exact hq a32 c37 H35 ⟨hle3, RS.of_cells hown3.cells (hrc.mono hle3), hown3.ok (by decide), _, hown3⟩
      · have hne : cmpV (.mk k1 i1 s1 ly) x ≠ 0 := by simpa using hne
        rw [if_neg hne] at e
        rw [e] at hq
        exact j20 hl hok hj (by omega) hx' hq
    · have hge : l.length ≤ j := by simpa using hge
      have hd : l.drop j = [] := List.drop_eq_nil_of_le hge
      rw [hd, insV] at e
      rw [e, ← hd] at hq
      exact j20 hl hok hj (by omega) hx' hq
  refine ⟨trivial, fun hlt => ?_, fun hge => ⟨trivial, stop fun hlt => ?_⟩⟩
  · have hlt : j < l.length := by simpa using hlt
    have hdrop : l.drop j = l[j] :: l.drop (j + 1) := List.drop_eq_getElem_cons hlt
    obtain ⟨b, o, ha, cy, hld, hrv⟩ := RS.get hl (show l[j]? = some l[j] by simp [hlt])
    have hmy := mem_szL (List.getElem_mem hlt)
    have hrv' := hrv
    have htk : l.take (j + 1) = l.take j ++ [l[j]] := by rw [List.take_add_one]; simp [hlt]
    generalize hyv : l[j] = y at *
    obtain ⟨k1, i1, s1, ly⟩ := y
    obtain ⟨ay, ny, cy', rfl, rfl, hsy, hoy⟩ := hrv
    refine ⟨⟨by omega, by omega⟩, b, o, ha, k1, i1, s1, ay, ly.length, cy', by simpa using hld, ?_⟩
    refine c24 ok 60000 _ _ _ _ H14 _ (by omega) (by omega) (by omega) hrv' hx' ⟨_, rfl, trivial, fun hlt0 => ?_, fun hge0 => stop fun _ => ?_⟩
    · have hlt0 : cmpV (.mk k1 i1 s1 ly) x < 0 := by simpa using hlt0
      rw [hdrop, insV, if_pos hlt0] at e
      refine ⟨l.length - (j + 1), by omega, rfl, rfl, rfl, rfl, rfl, rfl, rfl, rfl, rfl, rfl, j + 1, ?_, by omega, rfl, ?_⟩
      · rw [wrap64 (by omega) (by omega)]; omega
      · rw [e, htk]; simp
    · rw [hyv]; simpa using hge0
  · simp at hge; omega
end
end Va
end Go.Proofs.YtlemdiinmfneoaaGreat
