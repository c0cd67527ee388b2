import Derived.Test.YtlemdiinmfneoaaGreatEwFit
import Derived.Test.YtlemdiinmfneoaaGreatEwVc2
/- Contracts: a row with one more in its place. -/
set_option linter.unusedVariables false
set_option linter.unusedSimpArgs false
namespace Go.Ew
open Go.Ev Go.Deep

theorem rd_wr {e : BT (Option Value)} {N o : Nat} {xs ys zs vs : List Value} (h : rd e 0 N = some (xs ++ ys ++ zs)) (hx : xs.length = o) (hy : ys.length = vs.length) : rd (wr e o vs) 0 N = some (xs ++ vs ++ zs) := by
  have hl := rd_len h
  refine rd_some (by simp at hl ⊢; omega) fun j v hv => ?_
  rw [Nat.zero_add, tget_wr]
  by_cases hb : o ≤ j ∧ j < o + vs.length
  · rw [if_pos hb]
    rw [List.append_assoc, List.getElem?_append_right (by omega), List.getElem?_append_left (by omega)] at hv
    rw [hx] at hv
    exact hv
  · rw [if_neg hb]
    have := rd_get h j v ?_
    · simpa using this
    · by_cases hj : j < o
      · rw [List.append_assoc, List.getElem?_append_left (by omega)] at hv ⊢
        exact hv
      · rw [List.getElem?_append_right (by simp; omega)] at hv ⊢
        simp only [List.length_append] at hv ⊢
        rw [hy]
        exact hv

/-- A row for which there is room for so many. -/
inductive Room (K : KH) (T : Nat) : KH → OA → Nat → Nat → List Value → Prop where
  | nil (h : T = 0) : Room K T K none 0 0 []
  | blk (nm t : Nat) (e : Ent) (cs rest : List Value) (h1 : K nm = none) (h2 : e.unk = 4) (h3 : e.len = T * 4) (h4 : wrB e = true) (h5 : rd e.cells 0 (T * 4) = some (cs ++ rest)) (h6 : cs.length = t * 4) (h7 : t ≤ T) : Room K T (K.new nm e) (some ⟨nm, 0, none⟩) t unkU cs

theorem Room.append {K H : KH} {T t c m nm : Nat} {a : OA} {cs new : List Value} {ti : TI} (h4 : ti.size = 4) (hb : ti.bytes ≤ 1000000) (h : Room K T H a t c cs) (hm : new.length = m * 4) (ht : t + m ≤ T) (hT : T ≤ 1000000) :
    ∃ a' c' H', kappend H nm ti a t c m new = some (.slice a' (t + m) c', H') ∧ Room K T H' a' (t + m) c' (cs ++ new) := by
  have hh : (Nat.ble (t + m) 1000000 && Nat.ble ti.bytes 1000000 && Nat.ble 1 ti.size) = true := by
    simp only [Bool.and_eq_true]
    exact ⟨⟨Nat.ble_eq_true_of_le (by omega), Nat.ble_eq_true_of_le hb⟩, by rw [h4]; rfl⟩
  cases h with
  | nil h =>
    have hm0 : m = 0 := by omega
    subst hm0
    have hn : new = [] := List.eq_nil_of_length_eq_zero (by omega)
    subst hn
    refine ⟨none, 0, K, ?_, .nil h⟩
    unfold kappend
    simp only [hh, cond_true]
    rfl
  | blk n0 _ e _ rest h1 h2 h3 hw h5 h6 h7 =>
    have hrl := rd_len h5
    simp only [List.length_append] at hrl
    have hr : rest = rest.take (m * 4) ++ rest.drop (m * 4) := (List.take_append_drop _ _).symm
    have hrt : (rest.take (m * 4)).length = new.length := by rw [List.length_take]; omega
    have h5' : rd e.cells 0 (T * 4) = some (cs ++ rest.take (m * 4) ++ rest.drop (m * 4)) := by rw [List.append_assoc, ← hr]; exact h5
    have hK : (K.new n0 e) n0 = some e := by simp [KH.new]
    refine ⟨some ⟨n0, 0, none⟩, unkU, K.new n0 ⟨wr e.cells (t * 4) new, e.len, e.unk, none⟩, ?_, .blk n0 (t + m) _ _ (rest.drop (m * 4)) h1 h2 h3 (wrB_keep hw) (rd_wr h5' h6 hrt) (by rw [List.length_append, h6, hm]; omega) ht⟩
    unfold kappend
    have hb0 : Nat.blt unkU unkU = false := rfl
    have hq : (Nat.beq e.unk ti.size && Nat.beq 0 ((unkU - unkU) * ti.size) && (none : Option Nat).isNone && wrB e) = true := by
      rw [h2, h4, Nat.sub_self, Nat.zero_mul, hw]; rfl
    have hin : Nat.ble (0 + (t + m) * ti.size) e.len = true := Nat.ble_eq_true_of_le (by rw [h3, h4, Nat.zero_add]; exact Nat.mul_le_mul_right _ ht)
    simp only [hh, cond_true, hb0, cond_false, hK, hq, hin]
    have hrd : ∃ ws, rd e.cells (0 + t * ti.size) new.length = some ws := by
      refine ⟨rest.take (m * 4), rd_some hrt fun j v hv => ?_⟩
      have := rd_get h5' (t * 4 + j) v (by
        rw [List.append_assoc, List.getElem?_append_right (by omega), h6, Nat.add_sub_cancel_left]
        have hj : j < (rest.take (m * 4)).length := by
          rcases Nat.lt_or_ge j (rest.take (m * 4)).length with q | q
          · exact q
          · rw [List.getElem?_eq_none q] at hv; cases hv
        rw [List.getElem?_append_left hj]; exact hv)
      rw [h4, ← this, Nat.zero_add, Nat.zero_add]
    obtain ⟨ws, hws⟩ := hrd
    have hst : kstore (K.new n0 e) ⟨n0, 0 + t * ti.size, none⟩ new = some (K.new n0 ⟨wr e.cells (t * 4) new, e.len, e.unk, none⟩) := by
      unfold kstore
      simp only [hK, hw, cond_true, hws, put_new]
      rw [h4, Nat.zero_add]
    simp only [hst, ob]

theorem Room.le {K H : KH} {T t c : Nat} {a : OA} {cs : List Value} (h : Room K T H a t c cs) : Le K H := by
  cases h with
  | nil h => exact Le.refl _
  | blk nm _ e _ rest q1 => exact Le.new q1

theorem Room.out {K H : KH} {T c : Nat} {a : OA} {cs : List Value} {l : List V} (h : Room K T H a T c cs) (hl : l.length = T) (hr : RC K l cs) : Le K H ∧ RS H l a ∧ SlOk H 4 a l.length c := by
  cases h with
  | nil h =>
    have : l = [] := List.eq_nil_of_length_eq_zero (by omega)
    subst this
    exact ⟨Le.refl _, rfl, rfl⟩
  | blk nm _ e _ rest h1 h2 h3 h4 h5 h6 h7 =>
    have hK : (K.new nm e) nm = some e := by simp [KH.new]
    have hrl := rd_len h5
    have hr0 : rest = [] := List.eq_nil_of_length_eq_zero (by simp at hrl; omega)
    rw [hr0, List.append_nil] at h5
    refine ⟨Le.new h1, RS.of_cells (cs := cs) (kold_some.2 ⟨e, hK, by rw [hl]; exact h5⟩) (hr.mono (Le.new h1)), .inl ⟨rfl, T, ?_, by omega⟩⟩
    unfold kcap
    have hb0 : Nat.blt unkU unkU = false := rfl
    have hq : (Nat.beq e.unk 4 && Nat.beq 0 ((unkU - unkU) * 4) && Nat.ble 1 4 && Nat.ble 0 e.len) = true := by
      rw [h2, Nat.sub_self, Nat.zero_mul, Nat.ble_eq_true_of_le (Nat.zero_le _)]; rfl
    simp only [hb0, cond_false, hK, hq, cond_true, Nat.sub_zero]
    rw [h3, Nat.mul_div_cancel _ (by decide)]

theorem lrep_len {α : Type} (z : List α) : ∀ n, (lrep z n).length = n * z.length
  | 0 => by simp [lrep]
  | n + 1 => by rw [lrep, List.length_append, lrep_len z n, Nat.add_mul]; omega

theorem RS_none {H : KH} {l : List V} (h : RS H l none) : l = [] := by
  cases l with
  | nil => rfl
  | cons v l => obtain ⟨b, o, h1, _⟩ := h; cases h1
end Go.Ew

namespace Go.Proofs.YtlemdiinmfneoaaGreat
open Go.Ev Go.Ew
namespace Va
section
variable (ok : EnvOk (env Tryz.prog))
include ok

/-- A new row with these. -/
structure Row (H H' : KH) (l : List V) (a : OA) (c : Nat) : Prop where
  le : Le H H'
  row : RS H' l a
  cut : SlOk H' 4 a l.length c

theorem c74 : ∀ (N : Nat) (l : List V) (a : OA) (c : Nat) (H : KH) (Q : PQ), szL l ≤ N → N ≤ 60000 → RS H l a → (∀ a' c' H', Row H H' l a' c' → Q (.slice a' l.length c') H') → Does (env Tryz.prog) 74 [.slice a l.length c] H Q := by
  intro N
  induction N using Nat.strongRecOn with
  | ind N ih =>
    intro l a c H Q hsz hN hl hq
    have hll := len_szL l
    refine fn74 ok ⟨fun hn => ?_, fun hs => ⟨⟨by omega, by omega, by omega⟩, fun n1 hn1 => ?_⟩⟩
    · cases a with
      | some b => cases hn
      | none =>
        have := RS_none hl
        subst this
        exact hq none 0 H ⟨Le.refl _, rfl, rfl⟩
    unfold vc74_L1
    have hto : Int.toNat (l.length : Int) = l.length := by omega
    rw [hto]
    refine ⟨fun m a4 n5 n6 a7 n8 n9 x10 x11 H12 => a4 = some ⟨n1, 0, none⟩ ∧ n5 = l.length ∧ n6 = l.length ∧ a7 = a ∧ n8 = l.length ∧ x10 = l.length ∧ ∃ (j : Nat) (K : KH) (e : Ent) (cs rest : List Value), x11 = j ∧ j ≤ l.length ∧ m = l.length - j ∧
      H12 = K.new n1 e ∧ K n1 = none ∧ Le H K ∧ wrB e = true ∧ rd e.cells 0 (l.length * 4) = some (cs ++ rest) ∧ RC K (l.take j) cs,
      ⟨l.length, rfl, rfl, rfl, rfl, rfl, rfl, 0, H, _, [], lrep [Value.int .i64 0, .int .i64 0, .string (ByteArray.mk #[]), .slice none 0 0] l.length, rfl, by omega, by omega, rfl, hn1, Le.refl _, rfl, ?_, rfl⟩, ?_⟩
    · rw [List.nil_append, ← show (lrep [Value.int .i64 0, .int .i64 0, .string (ByteArray.mk #[]), .slice none 0 0] l.length).length = l.length * 4 from lrep_len _ _]
      exact mk_rd
    rintro m a4 n5 n6 a7 n8 n9 x10 x11 H12 ⟨rfl, rfl, rfl, rfl, rfl, rfl, j, K, e, cs, rest, rfl, hj, rfl, rfl, hK1, hle, hwr, hrd, hrc⟩
    have hcl := hrc.len
    rw [List.length_take, Nat.min_eq_left hj] at hcl
    have hrl := rd_len hrd
    rw [List.length_append] at hrl
    refine ⟨fun hlt => ?_, fun hge => ?_⟩
    · have hlt : j < l.length := by simpa using hlt
      have hx : l[j]? = some l[j] := by simp [hlt]
      obtain ⟨b, o, ha, cx, hld, hrv⟩ := RS.get hl hx
      have hszx := (szL_drop l j _ hx).1
      have htk : l.take (j + 1) = l.take j ++ [l[j]] := by rw [List.take_add_one]; simp [hlt]
      have hrv0 := hrv
      generalize hxv : l[j] = x at *
      obtain ⟨k, i, s, lx⟩ := x
      obtain ⟨ax, nx, cx', rfl, rfl, hsx, hox⟩ := hrv
      simp only [szV] at hszx
      refine ⟨⟨by omega, by omega⟩, b, o, ha, k, i, s, ax, lx.length, cx', ?_, ?_⟩
      · have := (hle.trans (Le.new hK1 (e := e))).ld hld
        simpa using this
      refine Does.frame hK1 (ih (szL lx) (by omega) lx ax cx' K _ (Nat.le_refl _) (by omega) (hsx.mono hle) fun a' c' K' hR hb => ?_)
      have hK' : (K'.new n1 e) n1 = some e := by simp [KH.new]
      obtain ⟨r1, r2, hr12, hr1l⟩ : ∃ r1 r2, rest = r1 ++ r2 ∧ r1.length = 4 := ⟨rest.take 4, rest.drop 4, (List.take_append_drop _ _).symm, by rw [List.length_take]; omega⟩
      subst hr12
      have hrd' : rd e.cells 0 (l.length * 4) = some (cs ++ r1 ++ r2) := by rw [List.append_assoc]; exact hrd
      refine ⟨a', lx.length, c', rfl, ⟨by omega, by omega⟩, n1, 0, rfl, ⟨r1, by rw [hr1l]; rfl, rfl, e, hK', ?_⟩, ⟨⟨e, hK', hwr⟩⟩, l.length - (j + 1), by omega, rfl, rfl, rfl, rfl, rfl, rfl, j + 1, K', _, cs ++ [.int .i64 k, .int .i64 i, .string s, .slice a' lx.length c'], r2, ?_, by omega, rfl, put_new, hb, hle.trans hR.le, wrB_keep hwr, ?_, ?_⟩
      · rw [hr1l]
        refine rd_some hr1l fun q v hv => ?_
        have := rd_get hrd' (j * 4 + q) v (by
          have hq4 : q < r1.length := by
            rcases Nat.lt_or_ge q r1.length with z | z
            · exact z
            · rw [List.getElem?_eq_none z] at hv; cases hv
          rw [List.append_assoc, List.getElem?_append_right (by omega), List.getElem?_append_left (by omega), hcl, Nat.add_sub_cancel_left]; exact hv)
        rw [← this]; congr 1; simp
      · rw [wrap64 (by omega) (by omega)]; omega
      · have : (0 + Int.toNat (j : Int) * 4) = j * 4 := by omega
        rw [this]
        exact rd_wr hrd' hcl (by rw [hr1l]; rfl)
      · rw [htk]
        exact (hrc.mono hR.le).append (RC.one ⟨a', _, c', rfl, rfl, hR.row, hR.cut⟩)
    · have hge : l.length ≤ j := by simpa using hge
      have hjl : j = l.length := by omega
      subst hjl
      rw [List.take_length] at hrc
      have hr0 : rest = [] := List.eq_nil_of_length_eq_zero (by omega)
      rw [hr0, List.append_nil] at hrd
      have hKn : (K.new n1 e) n1 = some e := by simp [KH.new]
      refine hq _ _ _ ⟨hle.trans (Le.new hK1), RS.of_cells (kold_some.2 ⟨e, hKn, hrd⟩) (hrc.mono (Le.new hK1)), .inl ⟨rfl, l.length, ?_, Nat.le_refl _⟩⟩
      unfold kcap
      rw [show Nat.blt l.length unkU = true from Nat.ble_eq_true_of_le (by unfold unkU; omega)]
      rfl

/-- Where one stands, or would stand: p is the first that is not less. -/
theorem c112 {l : List V} {a : OA} {c g p : Nat} {x : V} {cx : List Value} {f : V → Int} {H : KH} {Q : PQ} (hl : RS H l a) (hn : l.length ≤ 1000000) (hx : RV H x cx)
    (hg : ∀ v ∈ l, ∀ (cv : List Value) (Q : PQ), RV H v cv → Q (.int .i64 (f v)) H → Does (env Tryz.prog) g [.agg cv.toArray, .agg cx.toArray] H Q)
    (hp : p ≤ l.length) (h1 : ∀ i v, i < p → l[i]? = some v → f v < 0) (h2 : ∀ i v, p ≤ i → l[i]? = some v → 0 ≤ f v)
    (hq : ∀ b : Bool, (b = true → ∃ v, l[p]? = some v ∧ f v = 0) → (b = false → ∀ v, l[p]? = some v → f v ≠ 0) → Q (.tuple #[.int .i64 p, .bool b]) H) :
    Does (env Tryz.prog) 112 [.agg #[.slice a l.length c, .func (.func g) #[] #[]], .agg cx.toArray] H Q := by
  have hx' := hx
  obtain ⟨k, i, s, lx⟩ := x
  obtain ⟨ax, nx, cx, rfl, rfl, hlx, hokx⟩ := hx
  refine fn112 ok ⟨trivial, ?_⟩
  unfold vc112_L2
  refine ⟨fun m a4 n5 n6 n7 x8 x9 s10 a11 n12 n13 x14 x15 H16 => a4 = a ∧ n5 = l.length ∧ n7 = g ∧ x8 = k ∧ x9 = i ∧ s10 = s ∧ a11 = ax ∧ n12 = lx.length ∧ n13 = cx ∧ H16 = H ∧ ∃ lo hi : Nat, x14 = lo ∧ x15 = hi ∧ lo ≤ p ∧ p ≤ hi ∧ hi ≤ l.length ∧ m = hi - lo,
    ⟨l.length, rfl, rfl, rfl, rfl, rfl, rfl, rfl, rfl, rfl, rfl, 0, l.length, rfl, rfl, by omega, hp, Nat.le_refl _, by omega⟩, ?_⟩
  rintro m a4 n5 n6 n7 x8 x9 s10 a11 n12 n13 x14 x15 H16 ⟨rfl, rfl, rfl, rfl, rfl, rfl, rfl, rfl, rfl, rfl, lo, hi, rfl, rfl, hlo, hhi, hhl, rfl⟩
  have at_ : ∀ (j : Nat) (hj : j < l.length), ∃ b o, a4 = some ⟨b, o, none⟩ ∧ ∃ k1 i1 s1 a1 n1 c1, ld H16 ⟨b, o + j * 4, none⟩ [.int .i64 k1, .int .i64 i1, .string s1, .slice a1 n1 c1] ∧ ∀ Q : PQ, Q (.int .i64 (f l[j])) H16 → Does (env Tryz.prog) n7 [.agg #[.int .i64 k1, .int .i64 i1, .string s1, .slice a1 n1 c1], .agg #[.int .i64 x8, .int .i64 x9, .string s10, .slice a11 lx.length n13]] H16 Q := by
    intro j hj
    have hjx : l[j]? = some l[j] := by simp [hj]
    obtain ⟨b, o, ha, cy, hld, hrv⟩ := RS.get hl hjx
    have hm : l[j] ∈ l := List.getElem_mem hj
    have hrv' := hrv
    generalize hyv : l[j] = y at *
    obtain ⟨k1, i1, s1, ly⟩ := y
    obtain ⟨ay, ny, cy', rfl, rfl, hsy, hoy⟩ := hrv
    exact ⟨b, o, ha, k1, i1, s1, ay, ly.length, cy', hld, fun Q hQ => hg _ hm _ _ hrv' hQ⟩
  refine ⟨fun hlt => ?_, fun hge => ?_⟩
  · have hlt : lo < hi := by simpa using hlt
    have hmid : IntKind.wrap .i64 ((lo : Int) + IntKind.wrap .i64 (Int.tdiv (IntKind.wrap .i64 ((hi : Int) - lo)) 2)) = ((lo + (hi - lo) / 2 : Nat) : Int) := by
      rw [wrap64 (x := (hi : Int) - lo) (by omega) (by omega)]
      have e1 : (hi : Int) - lo = ((hi - lo : Nat) : Int) := by omega
      rw [e1, Int.tdiv_eq_ediv_of_nonneg (by omega)]
      rw [wrap64 (x := ((hi - lo : Nat) : Int) / 2) (by omega) (by omega), wrap64 (by omega) (by omega)]
      omega
    rw [hmid]
    have hml : lo + (hi - lo) / 2 < hi := by omega
    obtain ⟨b, o, ha, k1, i1, s1, a1, n1, c1, hld, hgo⟩ := at_ (lo + (hi - lo) / 2) (by omega)
    have hto : Int.toNat ((lo + (hi - lo) / 2 : Nat) : Int) = lo + (hi - lo) / 2 := by omega
    rw [hto]
    have hjx : l[lo + (hi - lo) / 2]? = some (l[lo + (hi - lo) / 2]'(by omega)) := by simp
    refine ⟨by decide, trivial, ⟨by omega, by omega⟩, b, o, ha, k1, i1, s1, a1, n1, c1, hld, hgo _ ⟨_, rfl, trivial, fun hneg => ?_, fun hpos => ?_⟩⟩
    · have hneg : f (l[lo + (hi - lo) / 2]'(by omega)) < 0 := by simpa using hneg
      have hmp : lo + (hi - lo) / 2 < p := by
        rcases Nat.lt_or_ge (lo + (hi - lo) / 2) p with z | z
        · exact z
        · have := h2 _ _ z hjx; omega
      refine ⟨hi - (lo + (hi - lo) / 2 + 1), by omega, rfl, rfl, rfl, rfl, rfl, rfl, rfl, rfl, rfl, rfl, lo + (hi - lo) / 2 + 1, hi, ?_, rfl, by omega, hhi, hhl, rfl⟩
      rw [wrap64 (by omega) (by omega)]; omega
    · have hpos : ¬ f (l[lo + (hi - lo) / 2]'(by omega)) < 0 := by simpa using hpos
      have hmp : p ≤ lo + (hi - lo) / 2 := by
        rcases Nat.lt_or_ge (lo + (hi - lo) / 2) p with z | z
        · have := h1 _ _ z hjx; omega
        · exact z
      exact ⟨lo + (hi - lo) / 2 - lo, by omega, rfl, rfl, rfl, rfl, rfl, rfl, rfl, rfl, rfl, rfl, lo, lo + (hi - lo) / 2, rfl, rfl, hlo, hmp, by omega, rfl⟩
  · have hge : ¬ lo < hi := by simpa using hge
    have e1 : lo = p := by omega
    subst e1
    refine ⟨trivial, fun hlt => ?_, fun hge2 => ?_⟩
    · have hlt : lo < l.length := by simpa using hlt
      obtain ⟨b, o, ha, k1, i1, s1, a1, n1, c1, hld, hgo⟩ := at_ lo hlt
      have hto : Int.toNat (lo : Int) = lo := by omega
      rw [hto]
      have hjx : l[lo]? = some l[lo] := by simp [hlt]
      refine ⟨⟨by omega, by omega⟩, b, o, ha, k1, i1, s1, a1, n1, c1, hld, hgo _ ⟨_, rfl, ⟨rfl, trivial⟩, hq _ (fun hb => ⟨_, hjx, by simpa using hb⟩) (fun hb v hv => ?_)⟩⟩
      rw [hjx] at hv
      cases hv
      simpa using hb
    · have hge2 : l.length ≤ lo := by simpa using hge2
      exact ⟨⟨rfl, trivial⟩, hq false (fun hb => by cases hb) (fun _ v hv => by rw [List.getElem?_eq_none hge2] at hv; cases hv)⟩

theorem c113 {l : List V} {a : OA} {c : Nat} {H : KH} {Q : PQ} (hl : RS H l a) (hn : l.length ≤ 60000) (hq : ∀ a' c' H', Row H H' l a' c' → Q (.slice a' l.length c') H') : Does (env Tryz.prog) 113 [.slice a l.length c] H Q := by
  refine fn113 ok ⟨fun h => ?_, fun h n1 hn1 n2 hn2 => ?_⟩
  · cases a with
    | some b => cases h
    | none =>
      have := RS_none hl
      subst this
      exact hq none 0 H ⟨Le.refl _, rfl, rfl⟩
  · obtain ⟨cs, hcs, hrc⟩ := hl.cells
    have hlen := kold_len hcs
    refine ⟨l.length, cs, knew_of ((Le.new hn1).kold hcs), ?_⟩
    obtain ⟨a32, c37, H35, hap3, hown3, hle3, _, _⟩ := Own.append (ti := VT) (H0 := H) (H := KH.new H n1 (mkEnt [] 0)) (nm := n2) (new := cs) (m := l.length)
      (.lit n1 0 [] (by simp [KH.new]) rfl (by decide) hn1) (Le.new hn1) hn2 hlen (by omega) (by decide) (by decide)
    refine ⟨a32, _, c37, H35, hap3, ?_⟩
    rw [Nat.zero_add] at hown3 ⊢
    exact hq a32 c37 H35 ⟨hle3, RS.of_cells hown3.cells (hrc.mono hle3), hown3.ok (by decide)⟩

theorem c114 {T : Nat} {H : KH} {Q : PQ} (hT : T ≤ 1000000) (hq : ∀ a c H', Room H T H' a 0 c [] → Q (.slice a 0 c) H') : Does (env Tryz.prog) 114 [.slice none 0 0, .int .i64 T] H Q := by
  refine fn114 ok ⟨fun h => by simp at h; omega, fun _ => ⟨by decide, fun h => ?_, fun h => ?_⟩⟩
  · have hw : IntKind.wrap .i64 ((T : Int) - IntKind.wrap .i64 ((0 : Nat) - (0 : Nat) : Int)) = T := by
      rw [wrap64 (x := ((0 : Nat) - (0 : Nat) : Int)) (by omega) (by omega), wrap64 (by omega) (by omega)]; omega
    have hw' : IntKind.wrap .i64 ((T : Int) - IntKind.wrap .i64 (((0 : Nat) : Int) - ((0 : Nat) : Int))) = T := hw
    rw [hw'] at h ⊢
    have hpos : 0 < T := by simpa using h
    refine ⟨by decide, none, 0, 0, rfl, fun nm hnm => ?_⟩
    have hz : knew H VT (.int .i64 (T : Int)) = some (T, lrep VT.zero T) := by
      simp only [knew]
      have e1 : (decide ((0 : Int) ≤ T) && decide ((T : Int) ≤ 1000000)) = true := by simp; omega
      rw [e1]
      simp
    refine ⟨T, lrep VT.zero T, hz, ?_⟩
    have hll : (lrep VT.zero T).length = T * 4 := lrep_len _ _
    have hap : kappend H nm VT none 0 0 T (lrep VT.zero T) = some (.slice (some ⟨nm, 0, none⟩) (0 + T) unkU, H.new nm (mkEnt ([] ++ lrep VT.zero T) VT.size)) := by
      unfold kappend
      have h1 : (Nat.ble (0 + T) 1000000 && Nat.ble VT.bytes 1000000 && Nat.ble 1 VT.size) = true := by
        simp only [Bool.and_eq_true]
        exact ⟨⟨Nat.ble_eq_true_of_le (by omega), rfl⟩, rfl⟩
      have h2 : Nat.blt 0 unkU = true := rfl
      have h3 : Nat.ble (0 + T) 0 = false := by
        cases hb : Nat.ble (0 + T) 0 with
        | false => rfl
        | true => have := Nat.le_of_ble_eq_true hb; omega
      simp only [h1, cond_true, h2, h3, cond_false]
      rfl
    refine ⟨_, _, _, _, hap, some ⟨nm, 0, none⟩, 0, unkU, ?_, ?_⟩
    · have hK : (H.new nm (mkEnt ([] ++ lrep VT.zero T) VT.size)) nm = some (mkEnt ([] ++ lrep VT.zero T) VT.size) := by simp [KH.new]
      have hkc : kcap (H.new nm (mkEnt ([] ++ lrep VT.zero T) VT.size)) ⟨nm, 0, none⟩ unkU 4 = some T := by
        unfold kcap
        have hb0 : Nat.blt unkU unkU = false := rfl
        have hlen : (mkEnt ([] ++ lrep VT.zero T) VT.size).len = T * 4 := by simp only [mkEnt, List.nil_append]; exact hll
        have hq : (Nat.beq (mkEnt ([] ++ lrep VT.zero T) VT.size).unk 4 && Nat.beq 0 ((unkU - unkU) * 4) && Nat.ble 1 4 && Nat.ble 0 (mkEnt ([] ++ lrep VT.zero T) VT.size).len) = true := by
          rw [Nat.sub_self, Nat.zero_mul, Nat.ble_eq_true_of_le (Nat.zero_le _)]; rfl
        simp only [hb0, cond_false, hK, hq, cond_true, Nat.sub_zero]
        rw [hlen, Nat.mul_div_cancel _ (by decide)]
      unfold kslice
      have n1 : natOf 0 none = some 0 := rfl
      have n2 : natOf (0 + T) (some (.int .i64 ((0 : Nat) : Int))) = some 0 := rfl
      have b1 : (Nat.ble 0 0 && Nat.ble 0 T && Nat.ble (0 + T) T && (none : Option Nat).isNone) = true := by
        simp only [Bool.and_eq_true]
        exact ⟨⟨⟨rfl, Nat.ble_eq_true_of_le (Nat.zero_le _)⟩, Nat.ble_eq_true_of_le (by omega)⟩, rfl⟩
      have b2 : Nat.blt unkU unkU = false := rfl
      have b3 : Nat.blt 0 T = true := Nat.ble_eq_true_of_le hpos
      simp only [n1, n2, hkc, b1, cond_true, b2, cond_false, b3]
      rfl
    · refine hq _ _ _ (.blk nm 0 _ [] (lrep VT.zero T) hnm rfl hll rfl ?_ rfl (Nat.zero_le _))
      rw [← hll]
      exact mk_rd
  · have hw' : IntKind.wrap .i64 ((T : Int) - IntKind.wrap .i64 (((0 : Nat) : Int) - ((0 : Nat) : Int))) = T := by
      rw [wrap64 (x := (((0 : Nat) : Int) - ((0 : Nat) : Int))) (by omega) (by omega), wrap64 (by omega) (by omega)]; omega
    rw [hw'] at h
    have h0 : T = 0 := by simp at h; omega
    subst h0
    exact hq _ _ _ (.nil rfl)

/-- Three rows, one behind the other. -/
theorem c79 {l0 l1 l2 : List V} {a0 a1 a2 : OA} {c0 c1 c2 n8 : Nat} {H : KH} {Q : PQ} (h8 : H n8 = some (mkEnt [.slice a0 l0.length c0, .slice a1 l1.length c1, .slice a2 l2.length c2] 0)) (h0 : RS H l0 a0) (h1 : RS H l1 a1) (h2 : RS H l2 a2)
    (hn : (l0 ++ l1 ++ l2).length ≤ 60000) (hq : ∀ a' c' H', Row H H' (l0 ++ l1 ++ l2) a' c' → Q (.slice a' (l0 ++ l1 ++ l2).length c') H') : Does (env Tryz.prog) 79 [.slice (some ⟨n8, 0, none⟩) 3 3] H Q := by
  -- the parts
  have hlen : (l0 ++ l1 ++ l2).length = l0.length + l1.length + l2.length := by simp; omega
  have part : ∀ j : Nat, j < 3 → ∃ (l : List V) (a : OA) (c : Nat), [l0, l1, l2][j]? = some l ∧ ld H ⟨n8, 0 + j * 1, none⟩ [.slice a l.length c] ∧ RS H l a := by
    intro j hj
    have hld : ∀ v, [Value.slice a0 l0.length c0, .slice a1 l1.length c1, .slice a2 l2.length c2][j]? = some v → ld H ⟨n8, 0 + j * 1, none⟩ [v] := fun v hv => lit_get h8 hv
    match j, hj with
    | 0, _ => exact ⟨l0, a0, c0, rfl, hld _ rfl, h0⟩
    | 1, _ => exact ⟨l1, a1, c1, rfl, hld _ rfl, h1⟩
    | 2, _ => exact ⟨l2, a2, c2, rfl, hld _ rfl, h2⟩
  let sum : Nat → Nat := fun j => (([l0, l1, l2].take j).map List.length).sum
  have sumS : ∀ j l, [l0, l1, l2][j]? = some l → sum (j + 1) = sum j + l.length := by
    intro j l hl
    match j, hl with
    | 0, hl => simp at hl; subst hl; simp [sum]
    | 1, hl => simp at hl; subst hl; simp [sum]
    | 2, hl => simp at hl; subst hl; simp [sum]; omega
    | j + 3, hl => simp at hl
  have sum3 : sum 3 = l0.length + l1.length + l2.length := by simp [sum]; omega
  have sumL : ∀ j, j ≤ 3 → sum j ≤ l0.length + l1.length + l2.length := by
    intro j hj
    match j, hj with
    | 0, _ => simp [sum]
    | 1, _ => simp [sum]; omega
    | 2, _ => simp [sum]
    | 3, _ => omega
  refine fn79 ok ?_
  unfold vc79 vc79_L3
  refine ⟨fun m a4 n5 n6 x7 a8 n9 n10 x11 x12 H13 => a4 = some ⟨n8, 0, none⟩ ∧ n5 = 3 ∧ a8 = some ⟨n8, 0, none⟩ ∧ n9 = 3 ∧ x11 = 3 ∧ H13 = H ∧ ∃ j : Nat, x12 = j ∧ j ≤ 3 ∧ m = 3 - j ∧ x7 = sum j, ⟨3, rfl, rfl, rfl, rfl, rfl, rfl, 0, rfl, by omega, rfl, rfl⟩, ?_⟩
  rintro m a4 n5 n6 x7 a8 n9 n10 x11 x12 H13 ⟨rfl, rfl, rfl, rfl, rfl, rfl, j, rfl, hj, rfl, rfl⟩
  have hsj := sumL j hj
  refine ⟨fun hlt => ?_, fun hge => ?_⟩
  · have hlt : j < 3 := by have := of_decide_eq_true hlt; omega
    obtain ⟨l, a, c, hl, hld, hrs⟩ := part j hlt
    have hs1 := sumS j l hl
    have hs2 := sumL (j + 1) (by omega)
    have hw : IntKind.wrap .i64 ((sum j : Int) + (l.length : Nat)) = ((sum (j + 1) : Nat) : Int) := by rw [wrap64 (by omega) (by omega)]; omega
    refine ⟨⟨by omega, by omega⟩, n8, 0, rfl, a, l.length, c, by simpa using hld, ?_⟩
    rw [hw]
    refine ⟨fun h => by simp at h; omega, fun _ => ⟨3 - (j + 1), by omega, rfl, rfl, rfl, rfl, rfl, rfl, j + 1, ?_, by omega, rfl, rfl⟩⟩
    rw [wrap64 (by omega) (by omega)]; omega
  · have hge : 3 ≤ j := by have := of_decide_eq_false hge; omega
    have hj3 : j = 3 := by omega
    subst hj3
    refine c114 ok (by omega) fun a c H' hR => ⟨a, 0, c, rfl, ?_⟩
    unfold vc79_L2
    refine ⟨fun m a4 n5 n6 a7 n8' n9 x10 x11 H12 => a7 = some ⟨n8, 0, none⟩ ∧ n8' = 3 ∧ x10 = 3 ∧ ∃ (j : Nat) (cs : List Value), x11 = j ∧ j ≤ 3 ∧ m = 3 - j ∧ n5 = sum j ∧ Room H13 (sum 3) H12 a4 n5 n6 cs ∧ RC H13 (([l0, l1, l2].take j).flatten) cs, ⟨3, rfl, rfl, rfl, 0, [], rfl, by omega, rfl, rfl, hR, rfl⟩, ?_⟩
    rintro m a4 n5 n6 a7 n8' n9 x10 x11 H12 ⟨rfl, rfl, rfl, j, cs, rfl, hj, rfl, rfl, hR, hrc⟩
    have hle : Le H13 H12 := hR.le
    refine ⟨fun hlt => ?_, fun hge => ?_⟩
    · have hlt : j < 3 := by have := of_decide_eq_true hlt; omega
      obtain ⟨l, a, c, hl, hld, hrs⟩ := part j hlt
      obtain ⟨cl, hcl, hrl⟩ := hrs.cells
      have hs1 := sumS j l hl
      have hs2 := sumL (j + 1) (by omega)
      refine ⟨⟨by omega, by omega⟩, n8, 0, rfl, a, l.length, c, by simpa using hle.ld hld, fun nm hnm => ⟨l.length, cl, knew_of (hle.kold hcl), ?_⟩⟩
      obtain ⟨a', c', H'', hap, hR'⟩ := Room.append (ti := VT) (nm := nm) rfl (by decide) hR (kold_len hcl) (by omega) (by omega)
      have htk : [l0, l1, l2].take (j + 1) = [l0, l1, l2].take j ++ [l] := by rw [List.take_add_one, hl]; rfl
      refine ⟨a', _, c', H'', hap, 3 - (j + 1), by omega, rfl, rfl, rfl, j + 1, cs ++ cl, ?_, by omega, rfl, by omega, hR', ?_⟩
      · rw [wrap64 (by omega) (by omega)]; omega
      · rw [htk, List.flatten_append]
        refine hrc.append ?_
        simpa using hrl
    · have hge : 3 ≤ j := by have := of_decide_eq_false hge; omega
      have hj3 : j = 3 := by omega
      subst hj3
      have hfl : ([l0, l1, l2].take 3).flatten = l0 ++ l1 ++ l2 := by simp
      rw [hfl] at hrc
      obtain ⟨k1, k2, k3⟩ := hR.out (by omega) hrc
      have : sum 3 = (l0 ++ l1 ++ l2).length := by omega
      rw [this] at *
      exact hq _ _ _ ⟨k1, k2, k3⟩

/-- With one more in its place: of what rises. -/
theorem c76 {l : List V} {x : V} {a : OA} {c g p : Nat} {cx : List Value} {f : V → Int} {H : KH} {Q : PQ} (hl : RS H l a) (hok : SlOk H 4 a l.length c) (hn : l.length ≤ 50000) (hx : RV H x cx)
    (hg : ∀ v ∈ l, ∀ (cv : List Value) (Q : PQ), RV H v cv → Q (.int .i64 (f v)) H → Does (env Tryz.prog) g [.agg cv.toArray, .agg cx.toArray] H Q)
    (hp : p ≤ l.length) (h1 : ∀ i v, i < p → l[i]? = some v → f v < 0) (h2 : ∀ i v, p ≤ i → l[i]? = some v → 0 ≤ f v)
    (hq1 : (∃ v, l[p]? = some v ∧ f v = 0) → ∀ a' c' H', Row H H' l a' c' → Q (.slice a' l.length c') H')
    (hq2 : (∀ v, l[p]? = some v → f v ≠ 0) → ∀ a' c' H', Row H H' (l.take p ++ [x] ++ l.drop p) a' c' → Q (.slice a' (l.take p ++ [x] ++ l.drop p).length c') H') :
    Does (env Tryz.prog) 76 [.agg #[.slice a l.length c, .func (.func g) #[] #[]], .agg cx.toArray] H Q := by
  have hx' := hx
  obtain ⟨k, i, s, lx⟩ := x
  obtain ⟨ax, nx, cx, rfl, rfl, hlx, hokx⟩ := hx
  refine fn76 ok (c112 ok hl (by omega) hx' hg hp h1 h2 fun b hb1 hb2 => ⟨p, b, rfl, fun hb => ?_, fun hb => ⟨trivial, ?_⟩⟩)
  · exact c113 ok hl (by omega) fun a' c' H' hR => ⟨a', _, c', rfl, hq1 (hb1 hb) a' c' H' hR⟩
  · obtain ⟨cs, hcs, hrc⟩ := hl.cells
    obtain ⟨aL, cL, hL1, hL2⟩ := cut_lo hok hcs hp
    obtain ⟨aR, cR, hR1, hR2⟩ := cut_hi hok hcs hp
    have hlen := kold_len hcs
    refine ⟨aL, p, cL, hL1, fun n4 hn4 => ⟨aR, l.length - p, cR, (Le.new hn4).kslice hR1, fun n8 hn8 => ?_⟩⟩
    have le1 := (Le.new hn4 (e := mkEnt [.int .i64 k, .int .i64 i, .string s, .slice ax lx.length cx] 0))
    have le2 := le1.trans (Le.new hn8 (e := mkEnt [.slice aL p cL, .slice (some ⟨n4, 0, none⟩) 1 1, .slice aR (l.length - p) cR] 0))
    have hc := hrc.cut p
    have hL : RS H (l.take p) aL := RS.of_cells (by rw [List.length_take, Nat.min_eq_left hp]; exact hL2) hc.1
    have hR : RS H (l.drop p) aR := RS.of_cells (by rw [List.length_drop]; exact hR2) hc.2
    have hne : n4 ≠ n8 := fun e => by subst e; simp [KH.new] at hn8
    have hO : RS ((H.new n4 (mkEnt [.int .i64 k, .int .i64 i, .string s, .slice ax lx.length cx] 0)).new n8 (mkEnt [.slice aL p cL, .slice (some ⟨n4, 0, none⟩) 1 1, .slice aR (l.length - p) cR] 0)) [.mk k i s lx] (some ⟨n4, 0, none⟩) :=
      RS.of_cells (kold_some.2 ⟨mkEnt [.int .i64 k, .int .i64 i, .string s, .slice ax lx.length cx] 0, by simp [KH.new, hne], mk_rd⟩) (RC.one (hx'.mono le2))
    have e1 : (l.take p).length = p := by rw [List.length_take, Nat.min_eq_left hp]
    have e2 : (l.drop p).length = l.length - p := List.length_drop
    refine c79 ok (l0 := l.take p) (l1 := [.mk k i s lx]) (l2 := l.drop p) (a0 := aL) (a1 := some ⟨n4, 0, none⟩) (a2 := aR) (c0 := cL) (c1 := 1) (c2 := cR) (by rw [e1, e2]; simp [KH.new]) (hL.mono le2) hO (hR.mono le2) (by simp; omega) fun a' c' H' hRow => ?_
    exact ⟨a', _, c', rfl, trivial, hq2 (hb2 hb) a' c' H' ⟨le2.trans hRow.le, hRow.row, hRow.cut⟩⟩
end
end Va
end Go.Proofs.YtlemdiinmfneoaaGreat

/- Rows that rise; what is put into them; the law ValSets. -/
set_option linter.unusedVariables false
set_option linter.unusedSimpArgs false
namespace Go.Ew
open Go.Ev Go.Deep Go.Proofs.YtlemdiinmfneoaaGreat.Va

/-- A block beside what is known. -/
def addO (K : KH) : Option (Nat × Ent) → KH
  | none => K
  | some (b, E) => K.new b E

def frO (K : KH) : Option (Nat × Ent) → Prop
  | none => True
  | some (b, _) => K b = none

theorem addO_le {K : KH} {q : Option (Nat × Ent)} (h : frO K q) : Le K (addO K q) := by
  cases q with
  | none => exact Le.refl _
  | some p => exact Le.new h

def OwnO (K : KH) (q : Option (Nat × Ent)) (a : OA) (n c : Nat) (cs : List Value) : Prop := match q with
  | none => a = none ∧ n = 0 ∧ c = 0 ∧ cs = []
  | some (b, E) => a = some ⟨b, 0, none⟩ ∧ Own K (K.new b E) 4 a n c cs

/-- A row that grows, beside what is known. -/
structure Gro (K : KH) (q : Option (Nat × Ent)) (l : List V) (a : OA) (n c : Nat) : Prop where
  fr : frO K q
  len : n = l.length
  ex : ∃ cs, RC K l cs ∧ OwnO K q a n c cs

theorem Gro.mono {K K' : KH} {q : Option (Nat × Ent)} {l : List V} {a : OA} {n c : Nat} (h : Gro K q l a n c) (hl : Le K K') (hf : frO K' q) : Gro K' q l a n c := by
  obtain ⟨h1, h2, cs, h3, h4⟩ := h
  refine ⟨hf, h2, cs, h3.mono hl, ?_⟩
  cases q with
  | none => exact h4
  | some p =>
    obtain ⟨b, E⟩ := p
    obtain ⟨rfl, h5⟩ := h4
    exact ⟨rfl, h5.move (by simp [KH.new]) hf⟩

theorem Gro.out {K : KH} {q : Option (Nat × Ent)} {l : List V} {a : OA} {n c : Nat} (h : Gro K q l a n c) : RS (addO K q) l a ∧ SlOk (addO K q) 4 a l.length c := by
  obtain ⟨h1, h2, cs, h3, h4⟩ := h
  cases q with
  | none =>
    obtain ⟨rfl, rfl, rfl, rfl⟩ := h4
    have : l = [] := List.eq_nil_of_length_eq_zero h2.symm
    subst this
    exact ⟨rfl, rfl⟩
  | some p =>
    obtain ⟨b, E⟩ := p
    obtain ⟨rfl, h5⟩ := h4
    subst h2
    exact ⟨RS.of_cells h5.cells (h3.mono (Le.new h1)), h5.ok (by decide)⟩

theorem Gro.push {K : KH} {q : Option (Nat × Ent)} {l : List V} {v : V} {a : OA} {n c nm : Nat} {cv : List Value} {ti : TI} (h4 : ti.size = 4) (hb : ti.bytes ≤ 1000000) (h : Gro K q l a n c) (hv : RV K v cv) (hnm : addO K q nm = none) (hl : l.length ≤ 1000) :
    ∃ a' c' K' q', kappend (addO K q) nm ti a n c 1 cv = some (.slice a' (n + 1) c', addO K' q') ∧ Gro K' q' (l ++ [v]) a' (n + 1) c' ∧ Le K K' := by
  obtain ⟨h1, h2, cs, h3, h5⟩ := h
  subst h2
  have ho : Own K (addO K q) ti.size a l.length c cs := by
    rw [h4]
    cases q with
    | none =>
      obtain ⟨rfl, e, rfl, rfl⟩ := h5
      rw [e]
      exact .nil
    | some p => obtain ⟨b, E⟩ := p; exact h5.2
  obtain ⟨a', c', H', k1, k2, k3, _, _⟩ := Own.append (ti := ti) (m := 1) (new := cv) ho (addO_le h1) hnm (by rw [h4]; exact hv.len) (by omega) hb (by rw [h4]; decide) (by rw [h4]; decide)
  rw [h4] at k2
  obtain ⟨b, E, rfl, hb1, hb0⟩ := k2.at_ (by omega)
  have hlb : Le K (H'.del b) := k3.del hb0
  refine ⟨_, c', H'.del b, some (b, E), ?_, ⟨del_self _ _, by simp, cs ++ cv, (h3.append (RC.one hv)).mono hlb, rfl, ?_⟩, hlb⟩
  · show _ = some (_, (H'.del b).new b E)
    rw [del_new hb1]; exact k1
  · rw [del_new hb1]
    exact k2.move rfl (del_self _ _)

/- What rises. -/

def InE (z : V) (l : List V) : Prop := ∃ w ∈ l, cmpV w z = 0

theorem ins_place (x : V) : ∀ l : List V, Srt l → ∃ p, p ≤ l.length ∧ (∀ i v, i < p → l[i]? = some v → cmpV v x < 0) ∧ (∀ i v, p ≤ i → l[i]? = some v → 0 ≤ cmpV v x) ∧
    ((∃ v, l[p]? = some v ∧ cmpV v x = 0) → insV x l = l) ∧ ((∀ v, l[p]? = some v → cmpV v x ≠ 0) → insV x l = l.take p ++ [x] ++ l.drop p)
  | [], _ => ⟨0, by simp, by simp, by simp, by simp, by simp [insV]⟩
  | y :: l, h => by
    have hy : ∀ {w}, w ∈ l → cmpV y w < 0 := fun hw => List.rel_of_pairwise_cons h hw
    have hl := h.of_cons
    by_cases hlt : cmpV y x < 0
    · obtain ⟨p, h1, h2, h3, h4, h5⟩ := ins_place x l hl
      refine ⟨p + 1, by simp; omega, fun i v hi hv => ?_, fun i v hi hv => ?_, fun hv => ?_, fun hv => ?_⟩
      · cases i with
        | zero => simp at hv; subst hv; exact hlt
        | succ i => exact h2 i v (by omega) (by simpa using hv)
      · cases i with
        | zero => omega
        | succ i => exact h3 i v (by omega) (by simpa using hv)
      · rw [insV, if_pos hlt, h4 (by simpa using hv)]
      · rw [insV, if_pos hlt, h5 (by simpa using hv)]; simp
    · refine ⟨0, by omega, fun i v hi => by omega, fun i v _ hv => ?_, fun ⟨v, hv, he⟩ => ?_, fun hv => ?_⟩
      · cases i with
        | zero => simp at hv; subst hv; omega
        | succ i =>
          have hm : v ∈ l := List.mem_of_getElem? (by simpa using hv)
          have := hy hm
          have := cmp3 y v x
          omega
      · simp at hv; subst hv
        rw [insV, if_neg hlt, if_pos he]
      · have := hv y (by simp)
        rw [insV, if_neg hlt, if_neg this]; simp

/-- All put in. -/
def insAll (l : List V) : List V := l.foldl (fun a v => insV v a) []

end Go.Ew
