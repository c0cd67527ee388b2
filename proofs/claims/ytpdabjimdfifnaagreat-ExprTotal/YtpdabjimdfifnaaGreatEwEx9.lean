/- Rows of values of occurrences, made by the play. -/
import Derived.Test.YtpdabjimdfifnaaGreatEwEx8
import Derived.Test.YtpdabjimdfifnaaGreatEwKeep
set_option linter.unusedVariables false
set_option linter.unusedSimpArgs false
namespace Go.Ew
open Go.Ev Go.Deep Go.Proofs.YtpdabjimdfifnaaGreat.Va

theorem frL_app {X : KH} : ∀ {F G : List (Nat × Ent)}, frL X (F ++ G) ↔ frL (addL X G) F ∧ frL X G
  | [], G => ⟨fun h => ⟨trivial, h⟩, fun h => h.2⟩
  | (b, e) :: F, G => by
    simp only [List.cons_append, frL, frL_app (F := F), addL_app]
    exact ⟨fun h => ⟨⟨h.1, h.2.1⟩, h.2.2⟩, fun h => ⟨h.1.1, h.1.2, h.2⟩⟩

theorem swapL {X : KH} {F1 F2 G : List (Nat × Ent)} (h1 : F1.length ≤ 1) (h : frL X (F1 ++ (F2 ++ G))) : frL X (F2 ++ (F1 ++ G)) ∧ addL X (F2 ++ (F1 ++ G)) = addL X (F1 ++ (F2 ++ G)) := by
  rw [← List.append_assoc, frL_app] at h
  obtain ⟨e1, e2, e3⟩ := addL_swap h1 h.1
  constructor
  · rw [← List.append_assoc, frL_app, frL_app]
    exact ⟨⟨e2, e3⟩, h.2⟩
  · rw [← List.append_assoc, ← List.append_assoc, ← addL_app, ← addL_app (F := F1 ++ F2), ← addL_app (F := F2) (G := F1), e1]

theorem OwnQ.here {sz n c : Nat} {a : Option Addr} {cs : List Value} {F : List (Nat × Ent)} {H : KH} (h : OwnQ sz a n c cs F) (hh : ∀ x ∈ F, H x.1 = some x.2) : Own (fun _ => none) H sz a n c cs := by
  obtain ⟨h1, h2⟩ := h
  match F, h1 with
  | [], _ =>
    cases h2 with
    | nil => exact .nil
    | lit b _ _ q => cases q
    | grown b _ _ e q => cases q
  | [(b0, e0)], _ =>
    have hb : H b0 = some e0 := hh (b0, e0) (by simp)
    cases h2 with
    | nil => exact .nil
    | lit b _ _ q1 q2 q3 q4 =>
      have : b = b0 := by
        by_cases e : b = b0
        · exact e
        · simp only [addL, KH.new, if_neg e] at q1; cases q1
      subst this
      simp only [addL, KH.new, if_true] at q1
      cases q1
      exact .lit b n cs hb q2 q3 rfl
    | grown b _ _ e q1 q2 q3 q4 q5 q6 =>
      have : b = b0 := by
        by_cases e : b = b0
        · exact e
        · simp only [addL, KH.new, if_neg e] at q1; cases q1
      subst this
      simp only [addL, KH.new, if_true] at q1
      cases q1
      exact .grown b n cs _ hb q2 q3 q4 rfl q6

theorem addL_mem {X : KH} {x : Nat × Ent} {F : List (Nat × Ent)} (h : frL X F) (hm : x ∈ F) : addL X F x.1 = some x.2 := addL_get h hm

/-- A row of three values, in a block of its own. -/
structure R3 where
  l : List V
  a : Option Addr
  c : Nat
  cs : List Value
  F : List (Nat × Ent)

structure R3.ok (K : KH) (r : R3) : Prop where
  own : OwnQ 4 r.a r.l.length r.c r.cs r.F
  rc : RC K r.l r.cs
  len : r.l.length = 3
  vals : ∀ v ∈ r.l, Ok v

theorem R3.ok.mono {K K' : KH} {r : R3} (h : r.ok K) (hl : Le K K') : r.ok K' := ⟨h.own, h.rc.mono hl, h.len, h.vals⟩

def R3.cell (r : R3) : Value := .slice r.a r.l.length r.c

def blocks : List R3 → List (Nat × Ent)
  | [] => []
  | r :: l => r.F ++ blocks l

abbrev RT : TI := ⟨1, 24, false, 1, 30, 0, [], [.slice none 0 0]⟩

/-- Rows that are made: those that came last stand first. -/
structure Rs3 (K0 X K : KH) (p : Nat) (rs : List R3) (a : Option Addr) (n c : Nat) (F2 : List (Nat × Ent)) (H : KH) : Prop where
  pk : PK K p X
  le : Le K0 K
  own : OwnQ 1 a n c (rs.reverse.map R3.cell) F2
  len : n = rs.length
  rows : ∀ r ∈ rs, r.ok K
  fr : frL X (F2 ++ blocks rs)
  at_ : Le (addL X (F2 ++ blocks rs)) H
end Go.Ew

namespace Go.Proofs.YtpdabjimdfifnaaGreat
open Go.Ev Go.Ew
namespace Va
section
variable (ok : EnvOk (env Tryz.prog))
include ok

theorem l7 {K0 X K H : KH} {p : Nat} {rs : List R3} {a : Option Addr} {n c m : Nat} {F2 : List (Nat × Ent)} {x : Int} {I : Nat → Nat → Nat → Option Addr → Nat → Nat → Int → KH → Prop} (h : Rs3 K0 X K p rs a n c F2 H) (hn : rs.length ≤ 100)
    (hq : ∀ r X' K' a' c' F2' H', Rs3 K0 X' K' p (r :: rs) a' (n + 1) c' F2' H' → ∃ k, k < m ∧ I k p 0 a' (n + 1) c' (IntKind.wrap .i64 (x + 1)) H') : vc7_L4 p 0 a n c x H m I := by
  unfold vc7_L4
  refine ⟨fun n3 n4 n5 a6 n7 n8 x9 a10 n11 n12 x13 H14 => n4 = p ∧ n5 = 0 ∧ a6 = a ∧ n7 = n ∧ n8 = c ∧ x9 = x ∧ ∃ (X' K' : KH) (F1 : List (Nat × Ent)) (cs1 : List Value) (l : List Ew.V), PK K' p X' ∧ Le K K' ∧ OwnQ 4 a10 n11 n12 cs1 F1 ∧ n11 = l.length ∧ x13 = (l.length : Nat) ∧ l.length ≤ 3 ∧ n3 = 3 - l.length ∧ RC K' l cs1 ∧ frL X' (F1 ++ (F2 ++ blocks rs)) ∧ Le (addL X' (F1 ++ (F2 ++ blocks rs))) H14 ∧ ∀ v ∈ l, Ok v,
    ⟨3, rfl, rfl, rfl, rfl, rfl, rfl, rfl, X, K, [], [], [], h.pk, Le.refl _, .nil, rfl, rfl, by simp, rfl, rfl, h.fr, h.at_, by simp⟩, ?_⟩
  rintro n3 n4 n5 a6 n7 n8 x9 a10 n11 n12 x13 H14 ⟨rfl, rfl, rfl, rfl, rfl, rfl, X1, K1, F1, cs1, l, hpk, hle, hown, rfl, rfl, hl3, rfl, hrc, hfr, hat, hvs⟩
  -- one more value
  have more : ∀ (v : Ew.V) (k i : Int) (s : ByteArray) (av : Option Addr) (nv cv : Nat) (X2 K2 H2 : KH), PK K2 n4 X2 → Le K1 K2 → RV K2 v [.int .i64 k, .int .i64 i, .string s, .slice av nv cv] → Ok v → frL X2 (F1 ++ (F2 ++ blocks rs)) → Le (addL X2 (F1 ++ (F2 ++ blocks rs))) H2 → l.length < 3 →
      ∀ n1, H2 n1 = none → ∀ n2, (H2.new n1 (mkEnt [.int .i64 k, .int .i64 i, .string s, .slice av nv cv] 0)) n2 = none →
        ∃ (n3' : Nat) (l4 : List Value), knew (H2.new n1 (mkEnt [.int .i64 k, .int .i64 i, .string s, .slice av nv cv] 0)) VT (.slice (some ⟨n1, 0, none⟩) 1 1) = some (n3', l4) ∧ ∃ (a5 : Option Addr) (n6 n7' : Nat) (H8 : KH), kappend (H2.new n1 (mkEnt [.int .i64 k, .int .i64 i, .string s, .slice av nv cv] 0)) n2 VT a10 l.length n12 n3' l4 = some (.slice a5 n6 n7', H8) ∧
          ∃ n9 : Nat, n9 < 3 - l.length ∧ ((none : Option Nat) = none ∧ (n4 = n4 ∧ 0 = 0 ∧ a6 = a6 ∧ n7 = n7 ∧ n8 = n8 ∧ x9 = x9 ∧ ∃ (X' K' : KH) (F1 : List (Nat × Ent)) (cs1 : List Value) (l' : List Ew.V), PK K' n4 X' ∧ Le K K' ∧ OwnQ 4 a5 n6 n7' cs1 F1 ∧ n6 = l'.length ∧ IntKind.wrap .i64 (((l.length : Nat) : Int) + 1) = (l'.length : Nat) ∧ l'.length ≤ 3 ∧ n9 = 3 - l'.length ∧ RC K' l' cs1 ∧ frL X' (F1 ++ (F2 ++ blocks rs)) ∧ Le (addL X' (F1 ++ (F2 ++ blocks rs))) H8 ∧ ∀ v ∈ l', Ok v)) := by
    intro v k i s av nv cv X2 K2 H2 hpk2 hle2 hrv hOk hfr2 hat2 hlt n1 hn1 n2 hn2
    have hk : kold (H2.new n1 (mkEnt [.int .i64 k, .int .i64 i, .string s, .slice av nv cv] 0)) 4 (some ⟨n1, 0, none⟩) 1 = some [.int .i64 k, .int .i64 i, .string s, .slice av nv cv] := lit_kold (if_pos rfl) rfl
    obtain ⟨a', c', H', F', e1, e2, e3, e4⟩ := OwnQ.append (ti := VT) (m := 1) (nm := n2) (new := [.int .i64 k, .int .i64 i, .string s, .slice av nv cv]) (F := F1) (G := F2 ++ blocks rs) hown hfr2 (hat2.trans (Le.new hn1)) hn2 rfl (by omega) (by decide) (by decide) (by decide)
    refine ⟨1, _, knew_of hk, a', _, c', H', e1, 3 - (l.length + 1), by omega, rfl, rfl, rfl, rfl, rfl, rfl, rfl, X2, K2, F', _, l ++ [v], hpk2, hle.trans hle2, e2, by simp, ?_, by simp; omega, by simp, (hrc.mono hle2).append (RC.one hrv), e3, e4, fun w hw => ?_⟩
    · rw [wrap64 (by omega) (by omega)]; simp
    · rcases List.mem_append.1 hw with hw | hw
      · exact hvs w hw
      · have : w = v := by simpa using hw
        subst this
        exact hOk
  refine ⟨fun hlt => ?_, fun hge => ?_⟩
  · have hlt : l.length < 3 := by have := of_decide_eq_true hlt; omega
    refine Does.keep hfr hat (c17 ok 2 (by omega) K1 X1 n4 _ hpk fun v cs K2 X2 q1 q2 q3 q4 hf2 H2 hl2 => ?_)
    have q3' := q3
    obtain ⟨k, i, s, lv⟩ := v
    obtain ⟨av, nv, cv, rfl, rfl, _, _⟩ := q3
    refine ⟨_, _, _, _, _, _, rfl, Does.keep hf2 hl2 (c18 ok q1 (by omega) (by omega) fun y X3 hy1 hy2 hp3 hf3 H3 hl3' => ⟨y, rfl, fun hy => ?_, fun hy => ?_⟩)⟩
    · refine Does.keep hf3 hl3' (c18 ok hp3 (by omega) (by omega) fun z X4 hz1 hz2 hp4 hf4 H4 hl4 => ⟨z, rfl, ?_⟩)
      rw [wrap64 (by omega) (by omega)]
      exact more (badV (1 + z)) 7 (1 + z) emp none 0 0 X4 K2 H4 hp4 q2 leaf (ok_bad (by omega) (by omega)) hf4 hl4 hlt
    · exact more _ _ _ _ _ _ _ X3 K2 H3 hp3 q2 q3' ⟨by have := q4.1; omega, q4.2.fit⟩ hf3 hl3' hlt
  · have hge : l.length = 3 := by have := of_decide_eq_false hge; omega
    intro n1 hn1 n2 hn2
    have hk : kold (H14.new n1 (mkEnt [.slice a10 l.length n12] 0)) RT.size (some ⟨n1, 0, none⟩) 1 = some [.slice a10 l.length n12] := lit_kold (if_pos rfl) rfl
    obtain ⟨hfr', hadd⟩ := swapL hown.1 hfr
    obtain ⟨a', c', H', F', e1, e2, e3, e4⟩ := OwnQ.append (ti := RT) (m := 1) (nm := n2) (new := [.slice a10 l.length n12]) (F := F2) (G := F1 ++ blocks rs) (by exact h.own) hfr' (by rw [hadd]; exact hat.trans (Le.new hn1)) hn2 rfl (by have := h.len; omega) (by decide) (by decide) (by decide)
    have hrows : ∀ r ∈ (⟨l, a10, n12, cs1, F1⟩ : R3) :: rs, r.ok K1 := fun r hr => by
      rcases List.mem_cons.1 hr with rfl | hr
      · exact ⟨hown, hrc, hge, hvs⟩
      · exact (h.rows r hr).mono hle
    obtain ⟨kk, hk1, hk2⟩ := hq ⟨l, a10, n12, cs1, F1⟩ X1 K1 a' c' F' H' ⟨hpk, h.le.trans hle, by simpa [R3.cell] using e2, by have := h.len; simp; omega, hrows, e3, e4⟩
    exact ⟨1, _, knew_of hk, a', _, c', H', e1, kk, hk1, rfl, hk2⟩

abbrev fourTexts : List Value := [.string (ByteArray.mk #[]), .string (ByteArray.mk #[57, 57, 57, 57, 57, 57, 57, 57, 57, 57, 57, 57, 57, 57, 57, 57, 57, 57]), .string (ByteArray.mk #[49, 50, 51, 52, 53, 54, 55, 56, 57, 48, 49, 50, 51, 52, 53, 54, 55, 56, 57]), .string (ByteArray.mk #[48, 48, 55])]

theorem c7 {pa : Option Addr} {n c : Nat} {H : KH} {Q : Value → KH → Prop} (hu : U8 H pa n) (hn : n ≤ 1000000)
    (hq : ∀ (X K : KH) (p : Nat) (rs : List R3) (a : Option Addr) (c1 : Nat) (F2 : List (Nat × Ent)) (H1 : KH) (n8 : Nat) (s : ByteArray), Rs3 H X K p rs a rs.length c1 F2 H1 → rs.length = 3 → s.size ≤ 100 → H1 n8 = some (mkEnt [.string (ByteArray.mk #[49, 50]), .string (ByteArray.mk #[120]), .string s] 0) → addL X (F2 ++ blocks rs) n8 = none →
      Q (.tuple #[.slice a rs.length c1, .slice (some ⟨n8, 0, none⟩) 3 3]) H1) : Does (env Tryz.prog) 7 [.slice pa n c] H Q := by
  refine fn7 ok (c8 ok hu hn fun p H1 hp => ⟨p, 0, rfl, ?_⟩)
  unfold vc7_L6
  refine ⟨fun n3 n4 n5 a6 n7 n8 x9 H10 => n4 = p ∧ n5 = 0 ∧ ∃ (X K : KH) (rs : List R3) (F2 : List (Nat × Ent)), Rs3 H X K p rs a6 n7 n8 F2 H10 ∧ x9 = (rs.length : Nat) ∧ rs.length ≤ 3 ∧ n3 = 3 - rs.length,
    ⟨3, rfl, rfl, rfl, H1, H, [], [], ⟨hp, Le.refl _, .nil, rfl, by simp, trivial, Le.refl _⟩, rfl, by simp, rfl⟩, ?_⟩
  rintro n3 n4 n5 a6 n7 n8 x9 H10 ⟨rfl, rfl, X, K, rs, F2, h, rfl, hle, rfl⟩
  have hlen := h.len
  subst hlen
  refine ⟨fun hlt => ?_, fun hge => ⟨trivial, fun n1 hn1 => ?_⟩⟩
  · have hlt : rs.length < 3 := by have := of_decide_eq_true hlt; omega
    refine l7 ok h (by omega) fun r X' K' a' c' F2' H' h' => ⟨3 - (rs.length + 1), by omega, rfl, rfl, X', K', r :: rs, F2', h', ?_, by simp; omega, by simp⟩
    rw [wrap64 (by omega) (by omega)]; simp
  · have hge : rs.length = 3 := by have := of_decide_eq_false hge; omega
    rw [hide_new hn1]
    refine Does.keep h.fr h.at_ (c18 ok h.pk (by omega) (by omega) fun y X2 hy1 hy2 hp2 hf2 H2 hl2 => ⟨y, rfl, fun hH2 => ?_⟩)
    rw [back_new]
    have hat : (H2.new n1 (mkEnt fourTexts 0)) n1 = some (mkEnt fourTexts 0) := if_pos rfl
    have hs : ∃ s : ByteArray, fourTexts[y.toNat]? = some (.string s) ∧ s.size ≤ 100 := by
      have h4 : y.toNat = 0 ∨ y.toNat = 1 ∨ y.toNat = 2 ∨ y.toNat = 3 := by omega
      rcases h4 with q | q | q | q <;> rw [q]
      · exact ⟨_, rfl, by decide⟩
      · exact ⟨_, rfl, by decide⟩
      · exact ⟨_, rfl, by decide⟩
      · exact ⟨_, rfl, by decide⟩
    obtain ⟨s, hs1, hs2⟩ := hs
    have leN : Le H2 (H2.new n1 (mkEnt fourTexts 0)) := Le.new hH2
    refine ⟨⟨rfl, trivial⟩, ⟨hy1, by omega⟩, n1, 0, rfl, s, lit_get hat hs1, fun n8 hn8 => ?_⟩
    exact hq X2 K n4 rs a6 _ F2 _ n8 s ⟨hp2, h.le, h.own, rfl, h.rows, hf2, (hl2.trans leN).trans (Le.new hn8)⟩ hge hs2 (if_pos rfl) ((hl2.trans leN).none hn8)
end
end Va
end Go.Proofs.YtpdabjimdfifnaaGreat
