/- The law RexRound: what its function answers. -/
import Derived.Test.YtphgchjoglgeeaaEwRxT
set_option linter.unusedVariables false
set_option linter.unusedSimpArgs false
namespace Go.Ew
open Go.Ev Go.Deep

theorem fresh_app {H : KH} {n nm : Nat} {l : List It} {cs : List Value} {a : Option Addr} (hn : H n = none) (hnm : (H.new n (mkEnt (lrep [.int .i64 0, .slice none 0 0] 0) 0)) nm = none) (hk : kold H 2 a l.length = some cs) (hi : ItC H l cs) (hs : l.length ≤ 500) :
    ∃ a' c' H', kappend (H.new n (mkEnt (lrep [.int .i64 0, .slice none 0 0] 0) 0)) nm IT2 (some ⟨n, 0, none⟩) 0 0 l.length cs = some (.slice a' l.length c', H') ∧ Own H H' 2 a' l.length c' cs ∧ Le H H' := by
  have ho : Own H (H.new n (mkEnt (lrep [.int .i64 0, .slice none 0 0] 0) 0)) 2 (some ⟨n, 0, none⟩) ([] : List It).length 0 [] := Own.of_lit hn rfl (by decide)
  obtain ⟨a', c', H', g1, g2, g3, g4⟩ := more_items (l := []) (m := l) ho (Le.new hn) rfl hk hi hnm (by simp; omega)
  refine ⟨a', c', H', ?_, by simpa using g2, g3⟩
  simpa using g1

theorem parse_if {s : ByteArray} {τ : RdS} (h1 : 1 ≤ s.size) (h2 : s.size ≤ 24) (h : (foldT rd0 (letL (bytesI s) false)).bind finR = some τ) : parseR s = some τ.items := by
  unfold parseR
  rw [if_neg (by omega)]
  exact read_is h
end Go.Ew

namespace Go.Proofs.Ytphgchjoglgeeaa
open Go.Ev Go.Ew
namespace Va
section
variable (ok : EnvOk (env Try.prog))
include ok

theorem c9s {s : ByteArray} {l : List It} {H : KH} {Q : Value → KH → Prop} (h : parseR s = some l) (hq : ∀ a c H', Le H H' → ItR H' l a → Q (.tuple #[.slice a l.length c, .bool true]) H') : Does (env Try.prog) 9 [.string s] H Q :=
  c9 ok (fun hn => by rw [h] at hn; cases hn) fun l' h' a c H' hl hi => by
    rw [h] at h'
    cases h'
    exact hq a c H' hl hi

theorem c5 {a b : Option Addr} {n m c d : Nat} {H : KH} (h0 : U8 H a n) (h1 : U8 H b m) : Does (env Try.prog) 5 [.slice a n c, .slice b m d] H fun v _ => v = .bool true := by
  refine fn5 ok (c6 ⟨true, rfl, fun h => (by cases h), fun _ => ⟨fun _ => rfl, fun l0 => ⟨fun _ => rfl, fun l1 => ?_⟩⟩⟩)
  have l0 : n ≤ 8 := by have := of_decide_eq_false l0; omega
  have l1 : m ≤ 8 := by have := of_decide_eq_false l1; omega
  refine c7 ok h0 (by omega) fun p Hp hp => ⟨p, 0, rfl, c8 ok hp fun s K1 H6 hpar hadv hsz hle hpk => ⟨s, rfl, c7 ok (h1.mono (hle.trans hpk.le)) (by omega) fun p2 H9 hp2 => ⟨p2, 0, rfl, c8 ok hp2 fun t K2 H13 hpar2 hadv2 hsz2 hle2 hpk2 => ⟨t, rfl, fun _ => rfl, fun hs => ?_⟩⟩⟩⟩
  have hw : IntKind.wrap .i64 (((s.size : Nat) : Int) + ((t.size : Nat) : Int)) = ((s.size : Nat) : Int) + ((t.size : Nat) : Int) := wrap64 (by omega) (by omega)
  have hw2 : IntKind.wrap .i64 (((s.size : Nat) : Int) + ((t.size : Nat) : Int) + 5) = ((s.size : Nat) : Int) + ((t.size : Nat) : Int) + 5 := wrap64 (by omega) (by omega)
  rw [hw] at hs
  have hs := of_decide_eq_false hs
  obtain ⟨E, F, w1, w2, w3, w4, w5⟩ := wraps hadv.2 hadv2.2
  have e40 : (ByteArray.mk #[40]).size = 1 := rfl
  have e41 : (ByteArray.mk #[41]).size = 1 := rfl
  have e3 : (ByteArray.mk #[41, 124, 40]).size = 3 := rfl
  have e2 : (ByteArray.mk #[41, 40]).size = 2 := rfl
  have z1 := size_app (ByteArray.mk #[40]) s
  have z2 := size_app (ByteArray.mk #[40] ++ s) (ByteArray.mk #[41])
  have z3 := size_app (ByteArray.mk #[40] ++ s) (ByteArray.mk #[41, 124, 40])
  have z4 := size_app (ByteArray.mk #[40] ++ s ++ ByteArray.mk #[41, 124, 40]) t
  have z5 := size_app (ByteArray.mk #[40] ++ s ++ ByteArray.mk #[41, 124, 40] ++ t) (ByteArray.mk #[41])
  have z6 := size_app (ByteArray.mk #[40] ++ s) (ByteArray.mk #[41, 40])
  have z7 := size_app (ByteArray.mk #[40] ++ s ++ ByteArray.mk #[41, 40]) t
  have z8 := size_app (ByteArray.mk #[40] ++ s ++ ByteArray.mk #[41, 40] ++ t) (ByteArray.mk #[41])
  have b40 : bytesI (ByteArray.mk #[40]) = [40] := rfl
  have b41 : bytesI (ByteArray.mk #[41]) = [41] := rfl
  have b3 : bytesI (ByteArray.mk #[41, 124, 40]) = [41, 124, 40] := rfl
  have b2 : bytesI (ByteArray.mk #[41, 40]) = [41, 40] := rfl
  have p1 : parseR s = some E := parse_if hsz.1 hsz.2 w1
  have p2 : parseR t = some F := parse_if hsz2.1 hsz2.2 w2
  have p3 : parseR (ByteArray.mk #[40] ++ s ++ ByteArray.mk #[41]) = some E := parse_if (s := ByteArray.mk #[40] ++ s ++ ByteArray.mk #[41]) (τ := ⟨E, [], true, 0, none⟩) (by rw [z2, z1, e40, e41]; omega) (by rw [z2, z1, e40, e41]; omega) (by rw [bytes_app, bytes_app, b40, b41]; exact w3)
  have p4 : s.size + t.size + 5 ≤ 24 → parseR (ByteArray.mk #[40] ++ s ++ ByteArray.mk #[41, 124, 40] ++ t ++ ByteArray.mk #[41]) = some (E ++ F ++ [(3, [])]) := fun h => parse_if (s := ByteArray.mk #[40] ++ s ++ ByteArray.mk #[41, 124, 40] ++ t ++ ByteArray.mk #[41]) (τ := ⟨E ++ F ++ [(3, [])], [], true, 0, none⟩) (by rw [z5, z4, z3, z1, e40, e41, e3]; omega) (by rw [z5, z4, z3, z1, e40, e41, e3]; omega) (by rw [bytes_app, bytes_app, bytes_app, bytes_app, b40, b41, b3]; exact w4)
  have p5 : parseR (ByteArray.mk #[40] ++ s ++ ByteArray.mk #[41, 40] ++ t ++ ByteArray.mk #[41]) = some (E ++ F ++ [(2, [])]) := parse_if (s := ByteArray.mk #[40] ++ s ++ ByteArray.mk #[41, 40] ++ t ++ ByteArray.mk #[41]) (τ := ⟨E ++ F ++ [(2, [])], [], true, 0, none⟩) (by rw [z8, z7, z6, z1, e40, e41, e2]; omega) (by rw [z8, z7, z6, z1, e40, e41, e2]; omega) (by rw [bytes_app, bytes_app, bytes_app, bytes_app, b40, b41, b2]; exact w5)
  obtain ⟨sE, rE⟩ := parse_small p1
  obtain ⟨sF, rF⟩ := parse_small p2
  obtain ⟨sW, rW⟩ := parse_small p5
  -- the items are fewer than twice the letters
  refine c9s ok p1 fun ax cx H2 le2 ix => ⟨_, _, _, _, rfl, by omega, by omega, c9s ok p3 fun ay cy H8 le8 iy => ⟨_, _, _, _, rfl, c9s ok p2 fun az cz H14 le14 iz => ⟨_, _, _, _, rfl, by omega, by omega, by omega, by omega, ?_⟩⟩⟩
  refine c9 ok (fun hn H20 le20 => ⟨_, _, _, _, rfl, by omega, by omega, by omega, by omega, c9s ok p5 fun av cv H26 le26 iv => ⟨_, _, _, _, rfl, fun hA => ?_, fun hB => ?_⟩⟩) fun l4 hl4 aw cw H20 le20 iw => ⟨_, _, _, _, rfl, by omega, by omega, by omega, by omega, c9s ok p5 fun av cv H26 le26 iv => ⟨_, _, _, _, rfl, fun hA => ?_, fun hB => ?_⟩⟩
  · exact ⟨fun _ => ⟨fun _ => ⟨fun _ => c11 ok (ix.mono (((le8.trans le14).trans le20).trans le26)) (iy.mono ((le14.trans le20).trans le26)) (by omega) rE ⟨true, rfl, rfl⟩, fun h => (by cases h)⟩, fun h => (by cases h)⟩, fun h => (by cases h)⟩
  · rw [hw, hw2] at hB
    have hB := of_decide_eq_false hB
    rw [p4 (by omega)] at hn; cases hn
  · exact ⟨fun _ => ⟨fun _ => ⟨fun _ => c11 ok (ix.mono (((le8.trans le14).trans le20).trans le26)) (iy.mono ((le14.trans le20).trans le26)) (by omega) rE ⟨true, rfl, rfl⟩, fun h => (by cases h)⟩, fun h => (by cases h)⟩, fun h => (by cases h)⟩
  · rw [hw, hw2] at hB
    have hB := of_decide_eq_false hB
    rw [p4 (by omega)] at hl4
    cases hl4
    obtain ⟨sA, rA⟩ := parse_small (p4 (by omega))
    have sEF2 : (E ++ F).length ≤ 400 := by simp; omega
    have ix' := ix.mono (((le8.trans le14).trans le20).trans le26)
    have iy' := iy.mono ((le14.trans le20).trans le26)
    have iz' := iz.mono (le20.trans le26)
    have iw' := iw.mono le26
    obtain ⟨cx', kx, tx⟩ := ix'
    obtain ⟨cz', kz, tz⟩ := iz'
    intro n1 hn1 n2 hn2
    obtain ⟨a5, c7', H8', g1, g2, g3⟩ := fresh_app hn1 hn2 kx tx (by simp at sEF2; omega)
    refine ⟨_, _, knew_of ((Le.new hn1).kold kx), a5, _, _, H8', g1, fun n9 hn9 => ?_⟩
    obtain ⟨a12, c14, H15, f1, f2, f3, f4⟩ := more_items g2 g3 tx kz tz hn9 (by simp at sEF2; omega)
    refine ⟨_, _, knew_of (g3.kold kz), a12, _, _, H15, f1, ?_⟩
    have iEF : ItR H15 (E ++ F) a12 := f2.itr f3 f4
    refine ⟨fun _ => ⟨fun _ => ⟨fun _ => ⟨fun _ => ⟨fun _ => c11 ok (ItR.mono ⟨cx', kx, tx⟩ f3) (iy'.mono f3) (by omega) rE ⟨true, rfl, fun _ n19 hn19 n20 hn20 => ?_, fun h => (by cases h)⟩, fun h => (by cases h)⟩, fun h => (by cases h)⟩, fun h => (by cases h)⟩, fun h => (by cases h)⟩, fun h => (by cases h)⟩
    obtain ⟨cE, kE, tE⟩ := iEF
    have hlen : (E ++ F).length = E.length + F.length := List.length_append
    rw [← hlen]
    have one : ∀ (op : Int) (K : KH), Le H15 K → ∀ n19 n20, K n19 = none → (K.new n19 (mkEnt (lrep [.int .i64 0, .slice none 0 0] 0) 0)) n20 = none → ∃ a23 c25 H26', kappend (K.new n19 (mkEnt (lrep [.int .i64 0, .slice none 0 0] 0) 0)) n20 IT2 (some ⟨n19, 0, none⟩) 0 0 (E ++ F).length cE = some (.slice a23 (E ++ F).length c25, H26') ∧ Le K H26' ∧
        ∀ n27 n28, H26' n27 = none → (H26'.new n27 (mkEnt [.int .i64 op, .slice none 0 0] 0)) n28 = none → ∃ a31 c33 H34, kappend (H26'.new n27 (mkEnt [.int .i64 op, .slice none 0 0] 0)) n28 IT2 a23 (E ++ F).length c25 1 [.int .i64 op, .slice none 0 0] = some (.slice a31 (E ++ F ++ [(op, [])]).length c33, H34) ∧ Le K H34 ∧ ItR H34 (E ++ F ++ [(op, [])]) a31 := by
      intro op K hK n19 n20 hn19 hn20
      obtain ⟨a23, c25, H26', q1, q2, q3⟩ := fresh_app hn19 hn20 (hK.kold kE) (tE.mono hK) (by omega)
      refine ⟨a23, c25, H26', q1, q3, fun n27 n28 hn27 hn28 => ?_⟩
      have o2 : Own K (H26'.new n27 (mkEnt [.int .i64 op, .slice none 0 0] 0)) 2 a23 (E ++ F).length c25 cE := q2.mono (Le.new hn27)
      obtain ⟨a31, c33, H34, r1, r2, r3, _, _⟩ := Own.append (ti := IT2) (m := 1) (new := [.int .i64 op, .slice none 0 0]) o2 (q3.trans (Le.new hn27)) hn28 rfl (by omega) (by decide) (by decide)
      have hl1 : (E ++ F ++ [(op, [])]).length = (E ++ F).length + 1 := by rw [List.length_append]; rfl
      refine ⟨a31, c33, H34, by rw [hl1]; exact r1, r3, ⟨_, by rw [hl1]; exact r2.cells, ?_⟩⟩
      exact ((tE.mono hK).app (op := op) (l := []) (a := none) (c := 0) rfl).mono r3
    obtain ⟨a23, c25, H26', q1, q2, q3⟩ := one 3 H15 (Le.refl _) n19 n20 hn19 hn20
    refine ⟨_, _, knew_of ((Le.new hn19).kold kE), a23, _, _, H26', q1, fun n27 hn27 n28 hn28 => ?_⟩
    obtain ⟨a31, c33, H34, r1, r2, r3⟩ := q3 n27 n28 hn27 hn28
    refine ⟨1, _, knew_of (lit_kold (if_pos rfl) rfl), a31, _, _, H34, r1, c11 ok (iw'.mono (f3.trans r2)) r3 (by omega) rA ⟨true, rfl, fun _ n38 hn38 n39 hn39 => ?_, fun h => (by cases h)⟩⟩
    obtain ⟨a42, c44, H45, t1, t2, t3⟩ := one 2 H34 r2 n38 n39 hn38 hn39
    refine ⟨_, _, knew_of ((Le.new hn38).kold (r2.kold kE)), a42, _, _, H45, t1, fun n46 hn46 n47 hn47 => ?_⟩
    obtain ⟨a50, c52, H53, u1, u2, u3⟩ := t3 n46 n47 hn46 hn47
    exact ⟨1, _, knew_of (lit_kold (if_pos rfl) rfl), a50, _, _, H53, u1, c11 ok ((iv.mono f3).mono (r2.trans u2)) u3 (by omega) rW ⟨true, rfl, rfl⟩⟩
end
end Va
end Go.Proofs.Ytphgchjoglgeeaa
