import Derived.Test.YtbfemjkknemfeaaEwNh1
import Derived.Test.YtbfemjkknemfeaaEwNg2
set_option linter.unusedVariables false
set_option linter.unusedSimpArgs false
namespace Go.Ew
open Go.Ev Go.Deep

def bC (f : List Bool) : List Value := f.map .bool
theorem bC_len (f : List Bool) : (bC f).length = f.length := by simp [bC]
theorem bC_app (f g : List Bool) : bC (f ++ g) = bC f ++ bC g := by simp [bC]
theorem bC_at {f : List Bool} {k : Nat} {x : Bool} (h : f[k]? = some x) : ((bC f).drop (k * 1)).take 1 = [.bool x] := dropTake rfl fun j hj => by
  match j, hj with
  | 0, _ => simp [bC, h]
theorem bC_rep (n : Nat) : bC (List.replicate n false) = lrep [.bool false] n := by
  induction n with
  | zero => rfl
  | succ n ih => rw [List.replicate_succ]; show .bool false :: bC (List.replicate n false) = .bool false :: lrep [.bool false] n; rw [ih]

def BR (H : KH) (f : List Bool) (a : OA) : Prop := kold H 1 a f.length = some (bC f)
theorem BR.mono {H H' : KH} (hl : Le H H') {f : List Bool} {a : OA} (h : BR H f a) : BR H' f a := hl.kold h
theorem BR.at_ {H : KH} {f : List Bool} {a : OA} (h : BR H f a) {i : Nat} (hi : i < f.length) : ∃ b o, a = some ⟨b, o, none⟩ ∧ ld H ⟨b, o + i * 1, none⟩ [.bool f[i]] := by
  obtain ⟨b, o, e, r⟩ := rowAddr h (by omega)
  have := r (i * 1) 1 (by omega)
  rw [bC_at (show f[i]? = some f[i] by simp [hi])] at this
  exact ⟨b, o, e, this⟩

structure BW (H0 H : KH) (p : Nat) (f : List Bool) : Prop where
  le : Le H0 H
  nw : H0 p = none
  ex : ∃ e, H p = some e ∧ wrB e = true ∧ rd e.cells 0 f.length = some (bC f)

theorem BW.new {H : KH} {p n : Nat} (h : H p = none) : BW H (H.new p (mkEnt (lrep [.bool false] n) 0)) p (List.replicate n false) := by
  refine ⟨Le.new h, h, _, if_pos rfl, rfl, ?_⟩
  rw [bC_rep, List.length_replicate]
  have hn : n = (lrep [Value.bool false] n).length := by rw [lrep_length]; simp
  exact rd_some hn.symm fun j v hv => by rw [Nat.zero_add]; simp only [mkEnt, tget_wr_nil]; exact hv
theorem BW.br {H0 H : KH} {p : Nat} {f : List Bool} (h : BW H0 H p f) : BR H f (some ⟨p, 0, none⟩) := by
  obtain ⟨e, h1, h2, h3⟩ := h.ex
  exact kold_some.2 ⟨e, h1, by rw [Nat.mul_one]; exact h3⟩
theorem BW.may {H0 H : KH} {p : Nat} {f : List Bool} (h : BW H0 H p f) : KH.may H p := by
  obtain ⟨e, h1, h2, h3⟩ := h.ex
  exact ⟨e, h1, h2⟩
theorem BW.ld {H0 H : KH} {p : Nat} {f : List Bool} (h : BW H0 H p f) {i : Nat} (hi : i < f.length) : ld H ⟨p, 0 + i * 1, none⟩ [.bool f[i]] := by
  obtain ⟨b, o, e, r⟩ := h.br.at_ hi
  cases e
  exact r
theorem BW.put {H0 H : KH} {p : Nat} {f : List Bool} (h : BW H0 H p f) {i : Nat} (hi : i < f.length) (x : Bool) : BW H0 (H.put ⟨p, 0 + i * 1, none⟩ [.bool x]) p (f.set i x) := by
  obtain ⟨e, h1, h2, h3⟩ := h.ex
  refine ⟨fun k e' q => put_ne (fun z => by subst z; rw [h.nw] at q; cases q) (h.le k e' q), h.nw, ⟨wr e.cells (0 + i * 1) [.bool x], e.len, e.unk, none⟩, by simp only [KH.put, if_true, h1, Option.map_some], wrB_keep h2, ?_⟩
  have hsp : bC f = bC (f.take i) ++ [.bool f[i]] ++ bC (f.drop (i + 1)) := by
    have : f = f.take i ++ [f[i]] ++ f.drop (i + 1) := by
      rw [List.append_assoc]
      have h2 : [f[i]] ++ f.drop (i + 1) = f.drop i := by rw [List.drop_eq_getElem_cons hi]; rfl
      rw [h2, List.take_append_drop]
    have h3 := congrArg bC this
    rw [bC_app, bC_app] at h3
    exact h3
  have hst : bC (f.set i x) = bC (f.take i) ++ [.bool x] ++ bC (f.drop (i + 1)) := by
    rw [List.set_eq_take_append_cons_drop, if_pos hi]
    simp [bC]
  rw [hst, List.length_set]
  exact rdWr (ys := [.bool f[i]]) (by rw [h3, hsp]) (by rw [bC_len, List.length_take]; omega) rfl

def orB : List Bool → List Bool → List Bool
  | x :: f, y :: g => (x || y) :: orB f g
  | _, _ => []
theorem orB_len : ∀ {f g : List Bool}, f.length = g.length → (orB f g).length = f.length
  | [], g, h => rfl
  | x :: f, [], h => by simp at h
  | x :: f, y :: g, h => by simp [orB, orB_len (show f.length = g.length by simpa using h)]
theorem orB_at : ∀ {f g : List Bool} {i : Nat}, f.length = g.length → ((orB f g)[i]? = some true ↔ f[i]? = some true ∨ g[i]? = some true)
  | [], [], i, h => by simp [orB]
  | [], y :: g, i, h => by simp at h
  | x :: f, [], i, h => by simp at h
  | x :: f, y :: g, 0, h => by simp [orB]
  | x :: f, y :: g, i + 1, h => by
    have := orB_at (f := f) (g := g) (i := i) (by simpa using h)
    simpa [orB] using this
end Go.Ew

namespace Go.Proofs.Ytbfemjkknemfeaa
open Go.Ev Go.Ew
namespace Va
section
variable (ok : EnvOk (env Try.prog))
include ok

theorem c51 {l : List It} {a : OA} {c k : Nat} {H : KH} {Q : PQ} (hi : ItR H l a) (hk : k + 1 ≤ l.length) (hl : l.length ≤ 1000) (hq : Q (.int .i64 ((stB (l.take (k + 1)).reverse 1 : Nat) : Int)) H) : Does (env Try.prog) 51 [.slice a l.length c, .int .i64 ((k : Nat) : Int)] H Q := by
  obtain ⟨cs, hc, hit⟩ := hi
  refine fn51 ok ?_
  unfold vc51 vc51_L2
  refine ⟨fun n3 a4 n5 n6 x7 x8 H9 => a4 = a ∧ n5 = l.length ∧ H9 = H ∧ ∃ (i m : Nat), x7 = m ∧ x8 = (i : Int) - 1 ∧ i = n3 ∧ i ≤ k + 1 ∧ 1 ≤ m ∧ m ≤ k + 2 - i ∧ stB (l.take i).reverse m = stB (l.take (k + 1)).reverse 1, ⟨k + 1, rfl, rfl, rfl, k + 1, 1, rfl, by omega, rfl, by omega, by omega, by omega, rfl⟩, ?_⟩
  rintro n3 a4 n5 n6 x7 x8 H9 ⟨rfl, rfl, rfl, i, m, rfl, rfl, rfl, hik, hm1, hm2, hst⟩
  refine ⟨fun hlt => ?_, fun hge => ?_⟩
  · have hlt : 1 ≤ i := by have := of_decide_eq_true hlt; omega
    obtain ⟨j, rfl⟩ : ∃ j, i = j + 1 := ⟨i - 1, by omega⟩
    have e0 : Int.toNat (((j + 1 : Nat) : Int) - 1) = j := by omega
    have ej : ((j + 1 : Nat) : Int) - 1 = (j : Nat) := by omega
    have hj : j < l.length := by omega
    have hIn : l[j]? = some (l[j].1, l[j].2) := by simp [hj]
    obtain ⟨b1, o1, e1, r1⟩ := rowAddr hc (by omega)
    have g1 := r1 (j * 2) 2 (by omega)
    obtain ⟨ar, cr, f1, f2⟩ := ItC_at hit hIn
    rw [f1] at g1
    have g2 := ldSub g1 0 1 (by simp)
    have ht : (l.take (j + 1)).reverse = l[j] :: (l.take j).reverse := by
      rw [List.take_succ_eq_append_getElem hj, List.reverse_append]; rfl
    have hlen : (l.take j).reverse.length = j := by rw [List.length_reverse, List.length_take]; omega
    rw [ht, stB, hlen] at hst
    have w1 : IntKind.wrap .i64 ((m : Nat) - 1 : Int) = ((m - 1 : Nat) : Int) := by rw [wrap64 (by omega) (by omega)]; omega
    have w2 : IntKind.wrap .i64 ((m : Nat) + 1 : Int) = ((m + 1 : Nat) : Int) := by rw [wrap64 (by omega) (by omega)]; omega
    have w3 : IntKind.wrap .i64 (((j + 1 : Nat) : Int) - 1 - 1) = (j : Nat) - 1 := by rw [wrap64 (by omega) (by omega)]; omega
    rw [e0, w1, w2, w3]
    refine ⟨⟨by omega, by omega⟩, b1, o1, e1, rfl, l[j].1, by simpa using g2, fun q => ?_, fun q => ⟨fun q2 => ?_, fun q2 => ⟨fun q3 => ?_, fun q3 => ?_⟩⟩⟩
    · have q := of_decide_eq_true q
      rw [if_pos q] at hst
      refine ⟨fun z => ?_, fun z => ?_⟩
      · have z : m - 1 = 0 := by have := of_decide_eq_true z; omega
        rw [if_pos z] at hst
        rw [ej, hst]; exact hq
      · have z : ¬ m - 1 = 0 := by have := of_decide_eq_false z; omega
        rw [if_neg z] at hst
        exact ⟨j, by omega, rfl, rfl, rfl, j, m - 1, rfl, rfl, rfl, by omega, by omega, by omega, hst⟩
    · have q := of_decide_eq_false q
      have q2 := of_decide_eq_true q2
      rw [if_neg q, if_pos (show l[j].1 = 2 ∨ l[j].1 = 3 from .inl q2), if_neg (by omega)] at hst
      refine ⟨fun z => ?_, fun z => ⟨j, by omega, rfl, rfl, rfl, j, m + 1, rfl, rfl, rfl, by omega, by omega, by omega, hst⟩⟩
      have z := of_decide_eq_true z; omega
    · have q := of_decide_eq_false q
      have q3 := of_decide_eq_true q3
      rw [if_neg q, if_pos (show l[j].1 = 2 ∨ l[j].1 = 3 from .inr q3), if_neg (by omega)] at hst
      refine ⟨fun z => ?_, fun z => ⟨j, by omega, rfl, rfl, rfl, j, m + 1, rfl, rfl, rfl, by omega, by omega, by omega, hst⟩⟩
      have z := of_decide_eq_true z; omega
    · have q := of_decide_eq_false q
      have q2 := of_decide_eq_false q2
      have q3 := of_decide_eq_false q3
      rw [if_neg q, if_neg (show ¬ (l[j].1 = 2 ∨ l[j].1 = 3) from fun z => z.elim q2 q3), if_neg (by omega)] at hst
      refine ⟨fun z => ?_, fun z => ⟨j, by omega, rfl, rfl, rfl, j, m, rfl, rfl, rfl, by omega, by omega, by omega, hst⟩⟩
      have z := of_decide_eq_true z; omega
  · have hge : i = 0 := by have := of_decide_eq_false hge; omega
    subst hge
    have : stB (l.take 0).reverse m = 0 := rfl
    rw [this] at hst
    rw [← hst] at hq
    exact hq

theorem c52 {f g : List Bool} {a b : OA} {c d : Nat} {H : KH} {Q : PQ} (hf : BR H f a) (hg : BR H g b) (hl : g.length = f.length) (hs : f.length ≤ 1000)
    (hq : ∀ a' c' H', Le H H' → BR H' (orB f g) a' → Q (.slice a' f.length c') H') : Does (env Try.prog) 52 [.slice a f.length c, .slice b f.length d] H Q := by
  refine fn52 ok ⟨⟨by omega, by omega, by omega⟩, fun n1 h1 => ?_⟩
  have en : Int.toNat ((f.length : Nat) : Int) = f.length := by omega
  have hlo : (orB f g).length = f.length := orB_len hl.symm
  unfold vc52_L1
  rw [en]
  refine ⟨fun n3 a4 n5 n6 a7 n8 n9 a10 n11 n12 x13 H14 => a4 = a ∧ n5 = f.length ∧ a7 = b ∧ n8 = f.length ∧ a10 = some ⟨n1, 0, none⟩ ∧ n11 = f.length ∧ ∃ (i : Nat) (r : List Bool), x13 = i ∧ i ≤ f.length ∧ n3 = f.length - i ∧ BW H H14 n1 r ∧ r.length = f.length ∧ r.take i = (orB f g).take i,
    ⟨f.length, rfl, rfl, rfl, rfl, rfl, rfl, 0, List.replicate f.length false, rfl, by omega, rfl, BW.new h1, by simp, rfl⟩, ?_⟩
  rintro n3 a4 n5 n6 a7 n8 n9 a10 n11 n12 x13 H14 ⟨rfl, rfl, rfl, rfl, rfl, rfl, i, r, rfl, hi, rfl, hw, hr, ht⟩
  refine ⟨fun hlt => ?_, fun hge => ?_⟩
  · have hlt : i < f.length := by have := of_decide_eq_true hlt; omega
    have e0 : Int.toNat ((i : Nat) : Int) = i := by omega
    have hwr : IntKind.wrap .i64 (((i : Nat) : Int) + 1) = ((i + 1 : Nat) : Int) := by rw [wrap64 (by omega) (by omega)]; omega
    rw [e0, hwr]
    obtain ⟨b1, o1, e1, g1⟩ := (hf.mono hw.le).at_ hlt
    obtain ⟨b2, o2, e2, g2⟩ := (hg.mono hw.le).at_ (show i < g.length by omega)
    have hli : i < r.length := by omega
    have stp : ∀ x, x = (f[i] || g[i]'(by omega)) → (r.set i x).take (i + 1) = (orB f g).take (i + 1) := fun x hx => by
      have h1 : (r.set i x).take (i + 1) = r.take i ++ [x] := by
        rw [List.take_succ_eq_append_getElem (by rw [List.length_set]; exact hli), List.take_set_of_le (Nat.le_refl _)]
        simp
      have h2 : (orB f g).take (i + 1) = (orB f g).take i ++ [(orB f g)[i]'(by omega)] := List.take_succ_eq_append_getElem (by omega)
      rw [h1, h2, ht]
      congr 2
      rw [hx]
      have h3 := orB_at (f := f) (g := g) (i := i) hl.symm
      rw [List.getElem?_eq_getElem (show i < (orB f g).length by omega), List.getElem?_eq_getElem hlt, List.getElem?_eq_getElem (show i < g.length by omega)] at h3
      simp only [Option.some.injEq] at h3
      rw [Bool.eq_iff_iff, h3]
      simp
    refine ⟨⟨by omega, by omega⟩, b1, o1, e1, f[i], g1, fun q => ?_, fun q => ?_⟩
    · exact ⟨⟨by omega, by omega⟩, n1, 0, rfl, ⟨[.bool (r[i]'hli)], rfl, hw.ld hli⟩, hw.may, f.length - (i + 1), by omega, rfl, rfl, rfl, rfl, rfl, rfl, i + 1, _, rfl, by omega, rfl, hw.put hli true, by rw [List.length_set]; exact hr, stp true (by rw [q]; simp)⟩
    · exact ⟨⟨by omega, by omega⟩, b2, o2, e2, g[i], g2, ⟨by omega, by omega⟩, n1, 0, rfl, ⟨[.bool (r[i]'hli)], rfl, hw.ld hli⟩, hw.may, f.length - (i + 1), by omega, rfl, rfl, rfl, rfl, rfl, rfl, i + 1, _, rfl, by omega, rfl, hw.put hli g[i], by rw [List.length_set]; exact hr, stp g[i] (by rw [q]; simp)⟩
  · have hge : i = f.length := by have := of_decide_eq_false hge; omega
    subst hge
    have : r = orB f g := by
      rw [List.take_of_length_le (by omega), List.take_of_length_le (by omega)] at ht
      exact ht
    subst this
    exact hq _ _ H14 hw.le hw.br
end
end Va
end Go.Proofs.Ytbfemjkknemfeaa
