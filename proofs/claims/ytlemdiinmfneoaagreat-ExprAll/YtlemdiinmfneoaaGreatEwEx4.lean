import Derived.Test.YtlemdiinmfneoaaGreatEwEx1
/- Contracts: reckon, small, taken, what is referred to. -/
set_option linter.unusedVariables false
set_option linter.unusedSimpArgs false
namespace Go.Ew
open Go.Ev Go.Deep Go.Proofs.YtlemdiinmfneoaaGreat.Va

theorem t4 (a b : V) : twoV 4 a b = if kV a = 1 ∧ kV b = 1 then addV (iV a) (iV b) else badV 4 := by simp [twoV]
theorem t5 (a b : V) : twoV 5 a b = if kV a = 1 ∧ kV b = 1 then subV (iV a) (iV b) else badV 4 := by simp [twoV]
theorem t6 (a b : V) : twoV 6 a b = if kV a = 1 ∧ kV b = 1 then mulV (iV a) (iV b) else badV 4 := by simp [twoV]
theorem t7 (a b : V) : twoV 7 a b = truV (decide (cmpV a b = 0)) := by simp [twoV]
theorem t8 (a b : V) : twoV 8 a b = truV (decide (cmpV a b < 0)) := by simp [twoV]
theorem t9 (a b : V) : twoV 9 a b = if kV a = 2 ∧ kV b = 2 then truV (decide (iV a = 1) && decide (iV b = 1)) else badV 4 := by simp [twoV]
theorem t10 (a b : V) : twoV 10 a b = if kV a = 2 ∧ kV b = 2 then truV (decide (iV a = 1) || decide (iV b = 1)) else badV 4 := by simp [twoV]
theorem t13s (a b : V) (h : kV a = 3) : twoV 13 a b = if kV a = 3 ∧ kV b = 3 then strV (sV a ++ sV b) else badV 4 := by simp [twoV, h]
theorem t13l (a b : V) (h : ¬ kV a = 3) : twoV 13 a b = if kV a = 4 ∧ kV b = 4 then .mk 4 0 emp (kidsL a ++ kidsL b) else badV 4 := by simp [twoV, h]
theorem t17 (a b : V) : twoV 17 a b = if kV a = 6 ∧ kV b = 3 then getV (kidsL a) (sV b) else badV 4 := by simp [twoV]
theorem t18 (a b : V) : twoV 18 a b = if kV a = 6 ∧ kV b = 3 then truV (findV (sV b) (kidsL a)).2 else badV 4 := by simp [twoV]
theorem t19 (a b : V) : twoV 19 a b = if kV a = 5 then .mk 5 0 emp (insV b (kidsL a)) else badV 4 := by simp [twoV]
theorem t20 (a b : V) : twoV 20 a b = if kV a = 5 then truV (memV (kidsL a) b) else badV 4 := by simp [twoV]

theorem useB {Q : PQ} {a b : Bool} {H : KH} (hq : Q (.bool a) H) (e : a = b) : Q (.bool b) H := e ▸ hq

/-- Is there such an operation, of n arguments? -/
def takesB (op n : Int) : Bool :=
  if op = 0 ∨ op = 1 ∨ op = 2 ∨ op = 3 ∨ op = 21 ∨ op = 22 then decide (n = 0)
  else if op = 11 ∨ op = 15 then decide (n = 1)
  else if op = 12 ∨ op = 16 then decide (n = 3)
  else if op = 14 then decide (n ≤ 4)
  else decide (0 < op) && (decide (op < 22) && decide (n = 2))

def digits : List UInt8 → Int → Option Int
  | [], n => some n
  | c :: l, n => if (c.toNat : Int) < 48 ∨ (57 : Int) < c.toNat then none else digits l (10 * n + (c.toNat - 48))

def numberV (s : ByteArray) : V := if s.size < 1 ∨ 18 < s.size then badV 2 else match digits s.data.toList 0 with
  | some n => numV n
  | none => badV 2

def atL {α : Type} (l : List α) (i : Int) : Option α := if i < 0 then none else l[i.toNat]?

def refV (vals : List (List V)) (occ attr : Int) : V := match atL vals occ with
  | none => badV 7
  | some row => match atL row attr with
    | none => badV 7
    | some v => takenV v

def textV (texts : List ByteArray) (occ : Int) : V := match atL texts occ with
  | none => badV 7
  | some s => smallV (strV s)

def numAtV (texts : List ByteArray) (occ : Int) : V := match atL texts occ with
  | none => badV 7
  | some s => numberV s

/-- Rows of values lie there. -/
structure Vals (H : KH) (vals : List (List V)) (a : OA) : Prop where
  row : ∀ i l, vals[i]? = some l → ∃ b o a' c', a = some ⟨b, o, none⟩ ∧ ld H ⟨b, o + i, none⟩ [.slice a' l.length c'] ∧ RS H l a'
  sz : ∀ l ∈ vals, ∀ v ∈ l, szV v ≤ 20000
  len : vals.length ≤ 1000000 ∧ ∀ l ∈ vals, l.length ≤ 1000000

structure Texts (H : KH) (texts : List ByteArray) (a : OA) : Prop where
  row : ∀ i s, texts[i]? = some s → ∃ b o, a = some ⟨b, o, none⟩ ∧ ld H ⟨b, o + i, none⟩ [.string s]
  sz : ∀ s ∈ texts, s.size ≤ 900000
  len : texts.length ≤ 1000000

theorem Vals.mono {H H' : KH} {vals : List (List V)} {a : OA} (h : Vals H vals a) (hl : Le H H') : Vals H' vals a :=
  ⟨fun i l hi => by obtain ⟨b, o, a', c', h1, h2, h3⟩ := h.row i l hi; exact ⟨b, o, a', c', h1, hl.ld h2, h3.mono hl⟩, h.sz, h.len⟩

theorem Texts.mono {H H' : KH} {texts : List ByteArray} {a : OA} (h : Texts H texts a) (hl : Le H H') : Texts H' texts a :=
  ⟨fun i l hi => by obtain ⟨b, o, h1, h2⟩ := h.row i l hi; exact ⟨b, o, h1, hl.ld h2⟩, h.sz, h.len⟩

theorem digits_none {l : List UInt8} {n : Int} {c : UInt8} (h : (c.toNat : Int) < 48 ∨ (57 : Int) < c.toNat) : digits (c :: l) n = none := if_pos h
theorem digits_some {l : List UInt8} {n : Int} {c : UInt8} (h : ¬ ((c.toNat : Int) < 48 ∨ (57 : Int) < c.toNat)) : digits (c :: l) n = digits l (10 * n + (c.toNat - 48)) := if_neg h

theorem small_le {v : V} (h : szV v ≤ 60) : smallV v = v := if_pos h
theorem small_gt {v : V} (h : ¬ szV v ≤ 60) : smallV v = badV 6 := if_neg h
end Go.Ew

namespace Go.Proofs.YtlemdiinmfneoaaGreat
open Go.Ev Go.Ew
namespace Va
section
variable (ok : EnvOk (env Tryz.prog))
include ok

theorem c70 {op : Int} {x y : V} {cx cy : List Value} {H : KH} {Q : PQ} (hx : RV H x cx) (hy : RV H y cy) (kx : Ok x) (ky : Ok y) (hq : Ans H (twoV op x y) Q) : Does (env Tryz.prog) 70 [.int .i64 op, .agg cx.toArray, .agg cy.toArray] H Q := by
  have hx' := hx
  have hy' := hy
  obtain ⟨k, i, s, l⟩ := x
  obtain ⟨a, n, c, rfl, rfl, hl, hok⟩ := hx
  obtain ⟨k', i', s', l'⟩ := y
  obtain ⟨a', n', c', rfl, rfl, hl', hok'⟩ := hy
  have sx := kx.sz
  have sy := ky.sz
  have fx := kx.fit
  have e1 : szL l ≤ 60 ∧ s.size / 16 ≤ 60 := by simp only [szV] at sx; omega
  have e2 : szL l' ≤ 60 ∧ s'.size / 16 ≤ 60 := by simp only [szV] at sy; omega
  have n1 := len_szL l
  have n2 := len_szL l'
  refine fn70 ok ⟨fun h => ?_, fun h4 => ⟨fun h => ?_, fun h5 => ⟨fun h => ?_, fun h6 => ⟨fun h => ?_, fun h7 => ⟨fun h => ?_, fun h8 => ⟨fun h => ?_, fun h9 => ⟨fun h => ?_, fun h10 => ⟨fun h => ⟨fun hk => ?_, fun hk => ?_⟩, fun h13 => ⟨fun h => ?_, fun h17 => ⟨fun h => ?_, fun h18 => ⟨fun h => ?_, fun h19 => ⟨fun h => ?_, fun h20 => ?_⟩⟩⟩⟩⟩⟩⟩⟩⟩⟩⟩⟩
  · have h : op = 4 := by simpa using h
    subst h; rw [t4] at hq
    exact c82 ok hx' hy' (fun hk Q hq => c81 ok (by rw [if_pos hk] at hq; exact hq)) (fun hk => if_neg hk) hq.wrap
  · have h : op = 5 := by simpa using h
    subst h; rw [t5] at hq
    exact c82 ok hx' hy' (fun hk Q hq => c83 ok (by rw [if_pos hk] at hq; exact hq)) (fun hk => if_neg hk) hq.wrap
  · have h : op = 6 := by simpa using h
    subst h; rw [t6] at hq
    exact c82 ok hx' hy' (fun hk Q hq => c84 ok (by rw [if_pos hk] at hq; exact hq)) (fun hk => if_neg hk) hq.wrap
  · have h : op = 7 := by simpa using h
    subst h; rw [t7] at hq
    exact c87 ok hx' hy' (fun Q hq => c86 ok (by omega) (by omega) hx' hy' hq) hq.wrap
  · have h : op = 8 := by simpa using h
    subst h; rw [t8] at hq
    exact c87 ok hx' hy' (fun Q hq => c88 ok (by omega) (by omega) hx' hy' hq) hq.wrap
  · have h : op = 9 := by simpa using h
    subst h; rw [t9] at hq
    exact c90 ok hx' hy' (fun hk Q hq => c89 ok (by rw [if_pos hk] at hq; exact hq)) (fun hk => if_neg hk) hq.wrap
  · have h : op = 10 := by simpa using h
    subst h; rw [t10] at hq
    exact c90 ok hx' hy' (fun hk Q hq => c91 ok (by rw [if_pos hk] at hq; exact hq)) (fun hk => if_neg hk) hq.wrap
  · have h : op = 13 := by simpa using h
    have hk : k = 3 := by simpa using hk
    subst h; rw [t13s (.mk k i s l) _ hk] at hq
    exact c93 ok hx' hy' (fun hk Q hq => c92 ok (by show s.size + s'.size ≤ _; omega) (by rw [if_pos hk] at hq; exact hq)) (fun hk => if_neg hk) hq.wrap
  · have h : op = 13 := by simpa using h
    have hk : ¬ k = 3 := by simpa using hk
    subst h; rw [t13l (.mk k i s l) _ hk] at hq
    exact c96 ok hx' hy' (fun hk Q a c a' c' h1 h2 h3 h4 hq => c95 ok h1 h3 (by show l.length + l'.length ≤ _; omega) (by rw [if_pos hk] at hq; exact hq)) (fun hk => if_neg hk) hq.wrap
  · have h : op = 17 := by simpa using h
    subst h; rw [t17] at hq
    refine c69 ok (cap := []) hx' hy' (fun hk Q a c h1 h2 hq => ?_) (fun hk => if_neg hk) hq.wrap
    rw [if_pos hk] at hq
    obtain ⟨rfl, _⟩ := hk
    obtain ⟨_, _, f3, f4, f5⟩ := fit6 fx
    exact c97 ok h1 f5 f4 (by show l.length ≤ _; omega) hq
  · have h : op = 18 := by simpa using h
    subst h; rw [t18] at hq
    refine c69 ok (cap := []) hx' hy' (fun hk Q a c h1 h2 hq => ?_) (fun hk => if_neg hk) hq.wrap
    rw [if_pos hk] at hq
    obtain ⟨rfl, _⟩ := hk
    obtain ⟨_, _, f3, f4, f5⟩ := fit6 fx
    exact c98 ok h1 f5 f4 (by show l.length ≤ _; omega) hq
  · have h : op = 19 := by simpa using h
    subst h; rw [t19] at hq
    refine c101 ok hx' hy' (fun hk Q a c h1 h2 hq => ?_) (fun hk => if_neg hk) hq.wrap
    rw [if_pos hk] at hq
    obtain rfl : k = 5 := hk
    obtain ⟨_, _, f3, f4⟩ := fit5 fx
    exact c100 ok h1 h2 f4 hy' (by show szL l ≤ _; omega) (by omega) hq
  · have h : op = 20 := by simpa using h
    subst h; rw [t20] at hq
    refine c101 ok hx' hy' (fun hk Q a c h1 h2 hq => ?_) (fun hk => if_neg hk) hq.wrap
    rw [if_pos hk] at hq
    obtain rfl : k = 5 := hk
    obtain ⟨_, _, f3, f4⟩ := fit5 fx
    exact c102 ok h1 f4 hy' (by show szL l ≤ _; omega) (by omega) hq
  · simp only [decide_eq_false_iff_not] at h4 h5 h6 h7 h8 h9 h10 h13 h17 h18 h19 h20
    have e : twoV op (.mk k i s l) (.mk k' i' s' l') = badV 1 := by simp [twoV, h4, h5, h6, h7, h8, h9, h10, h13, h17, h18, h19, h20]
    rw [e] at hq
    exact c38 ok hq.wrap

theorem c65 {l vs : List V} {v : V} {a b : OA} {c d q : Nat} {s : ByteArray} {H : KH} {Q : PQ} (hl : RS H l a) (hok : SlOk H 4 a l.length c) (hk : KR l) (hc : ∀ x ∈ l, 0 < kidsV x) (hn : l.length ≤ 50000)
    (hp : ld H ⟨q, 0, none⟩ [.slice b vs.length d]) (hvs : RS H vs b) (hv : vs[2]? = some v) (hq : Ans H (.mk 6 0 emp (putV l s v)) Q) : Does (env Tryz.prog) 65 [.slice a l.length c, .string s, .pointer (some ⟨q, 0, none⟩)] H Q := by
  obtain ⟨b1, o1, hb, cv, hld, hrv⟩ := RS.get hvs hv
  have h2 : 2 < vs.length := by
    rcases Nat.lt_or_ge 2 vs.length with q | q
    · exact q
    · rw [List.getElem?_eq_none q] at hv; cases hv
  have hrv' := hrv
  obtain ⟨k, i, t, lv⟩ := v
  obtain ⟨av, nv, cv, rfl, rfl, hlv, hokv⟩ := hrv
  exact fn65 ok ⟨_, _, _, hp, ⟨by omega, by omega⟩, b1, o1, hb, _, _, _, _, _, _, by simpa using hld, c66 ok hl hok hk hc hrv' hn hq.wrap⟩

theorem c45 {op : Int} {vs : List V} {a : OA} {c : Nat} {H : KH} {Q : PQ} (hvs : RS H vs a) (hok : SlOk H 4 a vs.length c) (hO : ∀ x ∈ vs, Ok x) (hn : op = 11 ∨ op = 15 → 1 ≤ vs.length) (h3 : op = 16 → vs.length = 3)
    (h2 : (op ≠ 21 ∧ op ≠ 22 ∧ op ≠ 14 ∧ op ≠ 11 ∧ op ≠ 15 ∧ op ≠ 16) → vs.length = 2) (hq : Ans H (reckonV op vs) Q) : Does (env Tryz.prog) 45 [.int .i64 op, .slice a vs.length c] H Q := by
  refine fn45 ok fun n1 hn1 => ?_
  have hle := Le.new hn1 (e := mkEnt [.slice a vs.length c] 0)
  have hat : (H.new n1 (mkEnt [.slice a vs.length c] 0)) n1 = some (mkEnt [.slice a vs.length c] 0) := if_pos rfl
  have hld : ld (H.new n1 (mkEnt [.slice a vs.length c] 0)) ⟨n1, 0, none⟩ [.slice a vs.length c] := by simpa using lit_get hat (j := 0) rfl
  have hq := hq.mono hle
  have hvs := hvs.mono hle
  have hok := hok.mono hle
  generalize H.new n1 (mkEnt [.slice a vs.length c] 0) = H1 at *
  have el : ∀ j, j < vs.length → ∃ (x : V) (b o : Nat), vs[j]? = some x ∧ a = some ⟨b, o, none⟩ ∧ ∃ (k i : Int) (s : ByteArray) (ax : OA) (nx cx : Nat), ld H1 ⟨b, o + j * 4, none⟩ [.int .i64 k, .int .i64 i, .string s, .slice ax nx cx] ∧ RV H1 x [.int .i64 k, .int .i64 i, .string s, .slice ax nx cx] ∧ Ok x := by
    intro j hj
    have hy : vs[j]? = some vs[j] := by simp [hj]
    obtain ⟨b, o, ha, cy, hld, hrv⟩ := RS.get hvs hy
    have hO1 := hO _ (List.getElem_mem hj)
    have hrv' := hrv
    generalize vs[j] = y at *
    obtain ⟨k1, i1, s1, ly⟩ := y
    obtain ⟨ay, ny, cy', rfl, rfl, hsy, hoy⟩ := hrv
    exact ⟨_, b, o, hy, ha, k1, i1, s1, ay, ly.length, cy', hld, hrv', hO1⟩
  refine ⟨fun h => ?_, fun h21 => ⟨fun h => ?_, fun h22 => ⟨fun h => ?_, fun h14 => ⟨fun h => ?_, fun h11 => ⟨fun h => ?_, fun h15 => ⟨fun h => ⟨trivial, ?_⟩, fun h16 => ⟨trivial, ?_⟩⟩⟩⟩⟩⟩⟩
  · have h : op = 21 := by simpa using h
    subst h
    exact hq _ _ (Le.refl _) leaf
  · have h : op = 22 := by simpa using h
    subst h
    exact hq _ _ (Le.refl _) leaf
  · have h : op = 14 := by simpa using h
    subst h
    exact ⟨_, _, _, hld, hq _ _ (Le.refl _) ⟨_, _, _, rfl, rfl, hvs, hok⟩⟩
  · have h : op = 11 := by simpa using h
    subst h
    have h1 := hn (.inl rfl)
    obtain ⟨x, b, o, hx, ha, k, i, s, ax, nx, cx, hl0, hr, hOx⟩ := el 0 (by omega)
    have e : reckonV 11 vs = notV x := by simp [reckonV, hx]
    rw [e] at hq
    exact ⟨_, _, _, hld, ⟨by omega, by omega⟩, b, o, ha, k, i, s, ax, nx, cx, by simpa using hl0, c63 ok hr hq.wrap⟩
  · have h : op = 15 := by simpa using h
    subst h
    have h1 := hn (.inr rfl)
    obtain ⟨x, b, o, hx, ha, k, i, s, ax, nx, cx, hl0, hr, hOx⟩ := el 0 (by omega)
    have e : reckonV 15 vs = lenV x := by simp [reckonV, hx]
    rw [e] at hq
    exact ⟨_, _, _, hld, ⟨by omega, by omega⟩, b, o, ha, k, i, s, ax, nx, cx, by simpa using hl0, c64 ok hr hq.wrap⟩
  · have h : op = 16 := by simpa using h
    subst h
    have h1 := h3 rfl
    obtain ⟨x, b, o, hx, ha, k, i, s, ax, nx, cx, hl0, hr, hOx⟩ := el 0 (by omega)
    obtain ⟨y, b', o', hy, ha', k', i', s', ay, ny, cy, hl1, hr', hOy⟩ := el 1 (by omega)
    obtain ⟨z, _, _, hz, _, _, _, _, _, _, _, _, _, hOz⟩ := el 2 (by omega)
    have e : reckonV 16 vs = if kV x = 6 ∧ kV y = 3 then .mk 6 0 emp (putV (kidsL x) (sV y) z) else badV 4 := by simp [reckonV, hx, hy, hz]
    rw [e] at hq
    refine ⟨_, _, _, hld, ⟨by omega, by omega⟩, b, o, ha, k, i, s, ax, nx, cx, by simpa using hl0, _, _, _, hld, ⟨by omega, by omega⟩, b', o', ha', k', i', s', ay, ny, cy, by simpa using hl1, ?_⟩
    refine c69 ok (cap := [.pointer (some ⟨n1, 0, none⟩)]) hr hr' (fun hk Q a c h1 h2 hq => ?_) (fun hk => if_neg hk) hq.wrapT
    rw [if_pos hk] at hq
    have fx := hOx.fit
    have sx := hOx.sz
    obtain ⟨kx, ix, tx, lx⟩ := x
    obtain ⟨rfl, _⟩ := hk
    obtain ⟨_, _, f3, f4, f5⟩ := fit6 fx
    have := len_szL lx
    exact c65 ok h1 h2 f5 (fun x hx => (pair_kids (f4 x hx)).2.2.1) (by simp only [szV] at sx; show lx.length ≤ _; omega) hld hvs hz hq
  · simp only [decide_eq_false_iff_not] at h21 h22 h14 h11 h15 h16
    have h1 := h2 ⟨h21, h22, h14, h11, h15, h16⟩
    obtain ⟨x, b, o, hx, ha, k, i, s, ax, nx, cx, hl0, hr, hOx⟩ := el 0 (by omega)
    obtain ⟨y, b', o', hy, ha', k', i', s', ay, ny, cy, hl1, hr', hOy⟩ := el 1 (by omega)
    have e : reckonV op vs = twoV op x y := by simp [reckonV, hx, hy, h21, h22, h14, h11, h15, h16]
    rw [e] at hq
    exact ⟨_, _, _, hld, ⟨by omega, by omega⟩, b, o, ha, k, i, s, ax, nx, cx, by simpa using hl0, _, _, _, hld, ⟨by omega, by omega⟩, b', o', ha', k', i', s', ay, ny, cy, by simpa using hl1, c70 ok hr hr' hOx hOy hq.wrapT⟩

theorem c44 {v : V} {cv : List Value} {H : KH} {Q : PQ} (hv : RV H v cv) (h1 : szV v ≤ 60000) (hq : Ans H (smallV v) Q) : Does (env Tryz.prog) 44 [.agg cv.toArray] H Q := by
  have hv' := hv
  have hd := dp_sz v
  obtain ⟨k, i, s, l⟩ := v
  obtain ⟨a, n, c, rfl, rfl, hl, hok⟩ := hv
  refine fn44 ok (c62 ok hv' (by omega) (by omega) ⟨_, rfl, fun h => ?_, fun h => ?_⟩)
  · rw [small_gt (by have := of_decide_eq_true h; omega)] at hq
    exact c38 ok hq.wrap
  · rw [small_le (by have := of_decide_eq_false h; omega)] at hq
    exact hq _ H (Le.refl _) hv'

theorem c39 {v : V} {cv : List Value} {H : KH} {Q : PQ} (hv : RV H v cv) (h1 : szV v ≤ 60000) (hq : Ans H (takenV v) Q) : Does (env Tryz.prog) 39 [.agg cv.toArray] H Q := by
  have hv' := hv
  obtain ⟨k, i, s, l⟩ := v
  obtain ⟨a, n, c, rfl, rfl, hl, hok⟩ := hv
  have hsm : szV (smallV (.mk k i s l)) ≤ 60 := by
    unfold smallV
    split
    · assumption
    · rw [sz_bad]; decide
  refine fn39 ok (c44 ok hv' h1 fun cs H' hle hr => ?_)
  have hr' := hr
  unfold takenV at hq
  generalize smallV (.mk k i s l) = w at *
  obtain ⟨k', i', s', l'⟩ := w
  obtain ⟨a', n', c', rfl, rfl, hl', hok'⟩ := hr
  refine ⟨_, _, _, _, _, _, rfl, c52 ok hr' (by omega) ⟨_, rfl, fun h => ?_, fun h => ?_⟩⟩
  · rw [if_neg (by rw [Bool.not_eq_true'] at h; rw [h]; decide)] at hq
    exact c38 ok (hq.mono hle).wrap
  · rw [if_pos (by rw [Bool.not_eq_false'] at h; exact h)] at hq
    refine c55 ok (l := []) (a := none) (c := 0) rfl rfl (by simp [Srt]) hr' (by simp [szL]) (by omega) fun a2 c2 H2 hR => ?_
    have hins : insV (.mk k' i' s' l') [] = [.mk k' i' s' l'] := rfl
    rw [hins] at hR ⊢
    obtain ⟨b, o, ha, cy, hld, hrv⟩ := RS.get (j := 0) hR.row (by simp : [V.mk k' i' s' l'][0]? = some (V.mk k' i' s' l'))
    have hrv' := hrv
    obtain ⟨ay, ny, cy', rfl, rfl, hsy, hoy⟩ := hrv
    exact ⟨_, _, _, rfl, ⟨by omega, by simp⟩, b, o, ha, _, _, _, _, _, _, by simpa using hld, hq _ H2 (hle.trans hR.le) hrv'⟩

theorem c34 {op n : Int} {H : KH} {Q : PQ} (hq : Q (.bool (takesB op n)) H) : Does (env Tryz.prog) 34 [.int .i64 op, .int .i64 n] H Q := by
  refine fn34 ok ?_
  unfold vc34
  repeat' (first | apply And.intro | intro _)
  all_goals exact useB hq (by simp_all [takesB] <;> omega)

theorem c56 {vals : List (List V)} {a : OA} {c : Nat} {i : Int} {H : KH} {Q : PQ} (hv : Vals H vals a) (h1 : atL vals i = none → Q (.tuple #[.slice none 0 0, .bool false]) H)
    (h2 : ∀ l, atL vals i = some l → ∀ a' c', RS H l a' → Q (.tuple #[.slice a' l.length c', .bool true]) H) : Does (env Tryz.prog) 56 [.slice a vals.length c, .int .i64 i] H Q := by
  refine fn56 ok ⟨fun h => h1 (if_pos (by simpa using h)), fun h0 => ⟨fun h => h1 ?_, fun h => ?_⟩⟩
  · have h0 : ¬ i < 0 := by simpa using h0
    have h : (vals.length : Int) ≤ i := by simpa using h
    unfold atL
    rw [if_neg h0]
    exact List.getElem?_eq_none (by omega)
  · have h0 : ¬ i < 0 := by simpa using h0
    have h : i < (vals.length : Int) := by simpa using h
    have hlt : i.toNat < vals.length := by omega
    have hy : vals[i.toNat]? = some vals[i.toNat] := by simp [hlt]
    obtain ⟨b, o, a', c', ha, hld, hrs⟩ := hv.row _ _ hy
    refine ⟨⟨by omega, by omega⟩, b, o, ha, a', _, c', by simpa using hld, h2 _ ?_ a' c' hrs⟩
    unfold atL
    rw [if_neg h0, hy]

theorem c57 {l : List V} {a : OA} {c : Nat} {i : Int} {H : KH} {Q : PQ} (hv : RS H l a) (h1 : atL l i = none → Q (.tuple #[.agg #[.int .i64 0, .int .i64 0, .string (ByteArray.mk #[]), .slice none 0 0], .bool false]) H)
    (h2 : ∀ v, atL l i = some v → ∀ k j s a' n' c', RV H v [.int .i64 k, .int .i64 j, .string s, .slice a' n' c'] → Q (.tuple #[.agg #[.int .i64 k, .int .i64 j, .string s, .slice a' n' c'], .bool true]) H) : Does (env Tryz.prog) 57 [.slice a l.length c, .int .i64 i] H Q := by
  refine fn57 ok ⟨fun h => h1 (if_pos (by simpa using h)), fun h0 => ⟨fun h => h1 ?_, fun h => ?_⟩⟩
  · have h0 : ¬ i < 0 := by simpa using h0
    have h : (l.length : Int) ≤ i := by simpa using h
    unfold atL
    rw [if_neg h0]
    exact List.getElem?_eq_none (by omega)
  · have h0 : ¬ i < 0 := by simpa using h0
    have h : i < (l.length : Int) := by simpa using h
    have hlt : i.toNat < l.length := by omega
    have hy : l[i.toNat]? = some l[i.toNat] := by simp [hlt]
    obtain ⟨b, o, ha, cy, hld, hrv⟩ := RS.get hv hy
    have h2 := h2 l[i.toNat] (by unfold atL; rw [if_neg h0, hy])
    have hrv' := hrv
    generalize l[i.toNat] = y at *
    obtain ⟨k1, i1, s1, ly⟩ := y
    obtain ⟨ay, ny, cy', rfl, rfl, hsy, hoy⟩ := hrv
    exact ⟨⟨by omega, by omega⟩, b, o, ha, _, _, _, _, _, _, by simpa using hld, h2 _ _ _ _ _ _ hrv'⟩

theorem c58 {texts : List ByteArray} {a : OA} {c : Nat} {i : Int} {H : KH} {Q : PQ} (hv : Texts H texts a) (h1 : atL texts i = none → Q (.tuple #[.string (ByteArray.mk #[]), .bool false]) H)
    (h2 : ∀ s, atL texts i = some s → Q (.tuple #[.string s, .bool true]) H) : Does (env Tryz.prog) 58 [.slice a texts.length c, .int .i64 i] H Q := by
  refine fn58 ok ⟨fun h => h1 (if_pos (by simpa using h)), fun h0 => ⟨fun h => h1 ?_, fun h => ?_⟩⟩
  · have h0 : ¬ i < 0 := by simpa using h0
    have h : (texts.length : Int) ≤ i := by simpa using h
    unfold atL
    rw [if_neg h0]
    exact List.getElem?_eq_none (by omega)
  · have h0 : ¬ i < 0 := by simpa using h0
    have h : i < (texts.length : Int) := by simpa using h
    have hlt : i.toNat < texts.length := by omega
    have hy : texts[i.toNat]? = some texts[i.toNat] := by simp [hlt]
    obtain ⟨b, o, ha, hld⟩ := hv.row _ _ hy
    refine ⟨⟨by omega, by omega⟩, b, o, ha, _, by simpa using hld, h2 _ ?_⟩
    unfold atL
    rw [if_neg h0, hy]

omit ok in
theorem atL_mem {α : Type} {l : List α} {i : Int} {x : α} (h : atL l i = some x) : x ∈ l := by
  unfold atL at h
  split at h
  · cases h
  · exact List.mem_of_getElem? h

theorem c40 {vals : List (List V)} {a b : OA} {n' c c' : Nat} {occ attr : Int} {H : KH} {Q : PQ} (hv : Vals H vals a) (hq : Ans H (refV vals occ attr) Q) :
    Does (env Tryz.prog) 40 [.agg #[.slice a vals.length c, .slice b n' c'], .int .i64 occ, .int .i64 attr] H Q := by
  unfold refV at hq
  refine fn40 ok (c56 ok hv (fun e => ⟨_, _, _, _, rfl, fun _ => ?_, fun h => (by cases h)⟩) fun l e a' c' hrs => ⟨_, _, _, _, rfl, fun h => (by cases h), fun _ => c57 ok hrs (fun e2 => ⟨_, _, _, _, _, _, _, rfl, fun _ => ?_, fun h => (by cases h)⟩) fun v e2 k j s a2 n2 c2 hr => ⟨_, _, _, _, _, _, _, rfl, fun h => (by cases h), fun _ => ?_⟩⟩)
  · rw [e] at hq; exact c38 ok hq.wrap
  · rw [e] at hq; simp only [e2] at hq; exact c38 ok hq.wrap
  · rw [e] at hq; simp only [e2] at hq
    exact c39 ok hr (by have := hv.sz l (atL_mem e) v (atL_mem e2); omega) hq.wrap

theorem c41 {texts : List ByteArray} {a b : OA} {n' c c' : Nat} {occ : Int} {H : KH} {Q : PQ} (hv : Texts H texts a) (hq : Ans H (textV texts occ) Q) :
    Does (env Tryz.prog) 41 [.agg #[.slice b n' c', .slice a texts.length c], .int .i64 occ] H Q := by
  unfold textV at hq
  refine fn41 ok (c58 ok hv (fun e => ⟨_, _, rfl, fun _ => ?_, fun h => (by cases h)⟩) fun s e => ⟨_, _, rfl, fun h => (by cases h), fun _ => ?_⟩)
  · rw [e] at hq; exact c38 ok hq.wrap
  · rw [e] at hq
    have hs := hv.sz s (atL_mem e)
    refine fn59 ok ⟨_, _, _, _, _, _, rfl, c44 ok (v := strV s) leaf ?_ hq.wrap⟩
    simp only [strV, szV, szL]; omega

theorem c42 {texts : List ByteArray} {a b : OA} {n' c c' : Nat} {occ : Int} {H : KH} {Q : PQ} (hv : Texts H texts a) (hq : Ans H (numAtV texts occ) Q) :
    Does (env Tryz.prog) 42 [.agg #[.slice b n' c', .slice a texts.length c], .int .i64 occ] H Q := by
  unfold numAtV at hq
  refine fn42 ok (c58 ok hv (fun e => ⟨_, _, rfl, fun _ => ?_, fun h => (by cases h)⟩) fun s e => ⟨_, _, rfl, fun h => (by cases h), fun _ => ⟨fun h1 => ?_, fun h1 => ⟨fun h2 => ?_, fun h2 => ?_⟩⟩⟩)
  · rw [e] at hq; exact c38 ok hq.wrap
  · rw [e] at hq
    have h1 : s.size < 1 := by have := of_decide_eq_true h1; omega
    simp only [numberV, if_pos (Or.inl h1 : s.size < 1 ∨ 18 < s.size)] at hq
    exact c38 ok hq.wrap
  · rw [e] at hq
    have h2 : 18 < s.size := by have := of_decide_eq_true h2; omega
    simp only [numberV, if_pos (Or.inr h2 : s.size < 1 ∨ 18 < s.size)] at hq
    exact c38 ok hq.wrap
  · rw [e] at hq
    have h1 : 1 ≤ s.size := by have := of_decide_eq_false h1; omega
    have h2 : s.size ≤ 18 := by have := of_decide_eq_false h2; omega
    simp only [numberV, if_neg (show ¬ (s.size < 1 ∨ 18 < s.size) by omega)] at hq
    refine ⟨by omega, fun n1 hn1 => ?_⟩
    have hle := Le.new hn1 (e := mkEnt (byteCells s) 1)
    have hat : (H.new n1 (mkEnt (byteCells s) 1)) n1 = some (mkEnt (byteCells s) 1) := if_pos rfl
    have hsz : s.size = s.data.toList.length := rfl
    unfold vc42_L1
    refine ⟨fun m x4 x5 s6 a7 n8 n9 x10 a11 n12 n13 x14 x15 H16 => a11 = some ⟨n1, 0, none⟩ ∧ n12 = s.size ∧ x14 = (s.size : Nat) ∧ H16 = H.new n1 (mkEnt (byteCells s) 1) ∧ ∃ j : Nat, x15 = j ∧ j ≤ s.size ∧ m = s.size - j ∧ 0 ≤ x10 ∧ x10 < 10 ^ j ∧ digits s.data.toList 0 = digits (s.data.toList.drop j) x10,
      ⟨s.size, rfl, rfl, rfl, rfl, 0, rfl, by omega, by omega, by omega, by decide, by simp⟩, ?_⟩
    rintro m x4 x5 s6 a7 n8 n9 x10 a11 n12 n13 x14 x15 H16 ⟨rfl, rfl, rfl, rfl, j, rfl, hj, rfl, h0, hlt10, hd⟩
    refine ⟨fun hlt => ?_, fun hge => ?_⟩
    · have hlt : j < s.size := by have := of_decide_eq_true hlt; omega
      have hjl : j < s.data.toList.length := by omega
      have hdrop : s.data.toList.drop j = s.data.toList[j] :: s.data.toList.drop (j + 1) := List.drop_eq_getElem_cons hjl
      have hcell : (byteCells s)[j]? = some (.int .u8 (s.data.toList[j].toNat : Nat)) := by
        simp only [byteCells, List.getElem?_map, List.getElem?_eq_getElem hjl, Option.map_some]
      have hb : s.data.toList[j].toNat < 256 := UInt8.toNat_lt _
      generalize s.data.toList[j] = c at *
      have hld : ld (H.new n1 (mkEnt (byteCells s) 1)) ⟨n1, 0 + j * 1, none⟩ [.int .u8 (c.toNat : Nat)] := by
        refine ⟨rfl, _, hat, rd_some rfl fun i w hw => ?_⟩
        match i, hw with
        | 0, hw =>
          simp at hw
          subst hw
          simp only [mkEnt, tget_wr_nil]
          rw [← hcell]
          congr 1
          omega
        | i + 1, hw => simp at hw
      refine ⟨⟨by omega, by omega⟩, n1, 0, rfl, _, by simpa using hld, fun hc => ?_, fun hc => ⟨fun hc2 => ?_, fun hc2 => ?_⟩⟩
      · have hc : (c.toNat : Int) < 48 := by simpa using hc
        rw [hdrop, digits_none (.inl hc)] at hd
        simp only [hd] at hq
        exact c38 ok (hq.mono hle).wrap
      · have hc2 : (57 : Int) < c.toNat := by simpa using hc2
        rw [hdrop, digits_none (.inr hc2)] at hd
        simp only [hd] at hq
        exact c38 ok (hq.mono hle).wrap
      · have hc : ¬ (c.toNat : Int) < 48 := by simpa using hc
        have hc2 : ¬ (57 : Int) < c.toNat := by simpa using hc2
        rw [hdrop, digits_some (by omega)] at hd
        have hp : (10 : Int) ^ (j + 1) = 10 * 10 ^ j := by rw [Int.pow_succ]; omega
        have hp2 : (10 : Int) ^ (j + 1) ≤ 10 ^ 18 := by
          exact_mod_cast Nat.pow_le_pow_right (by decide : 0 < 10) (by omega : j + 1 ≤ 18)
        have hp3 : (10 : Int) ^ 18 = 1000000000000000000 := by decide
        have hw1 : IntKind.wrap .i64 (10 * x10) = 10 * x10 := wrap64 (by omega) (by omega)
        have hw2 : IntKind.wrap .u8 ((c.toNat : Int) - 48) = (c.toNat : Int) - 48 := IntWalk.u8_in _ (by omega)
        have hw3 : IntKind.wrap .i64 ((c.toNat : Int) - 48) = (c.toNat : Int) - 48 := wrap64 (by omega) (by omega)
        have hw4 : IntKind.wrap .i64 (10 * x10 + ((c.toNat : Int) - 48)) = 10 * x10 + ((c.toNat : Int) - 48) := wrap64 (by omega) (by omega)
        rw [hw1, hw2, hw3, hw4]
        refine ⟨s.size - (j + 1), by omega, rfl, rfl, rfl, rfl, j + 1, ?_, by omega, rfl, by omega, by omega, hd⟩
        rw [wrap64 (by omega) (by omega)]; omega
    · have hge : s.size ≤ j := by have := of_decide_eq_false hge; omega
      rw [List.drop_eq_nil_of_le (by omega), digits] at hd
      simp only [hd] at hq
      exact c60 ok (hq.mono hle).wrap
end
end Va
end Go.Proofs.YtlemdiinmfneoaaGreat

/- Expressions as trees; what they come to; the contract of Eval. -/
set_option linter.unusedVariables false
set_option linter.unusedSimpArgs false
namespace Go.Ew
open Go.Ev Go.Deep Go.Proofs.YtlemdiinmfneoaaGreat.Va

inductive Ex where
  | mk (op : Int) (v : V) (occ attr : Int) (args : List Ex)

mutual
/-- Eight cells are an expression. -/
def RE (H : KH) : Ex → List Value → Prop
  | .mk op v occ attr args, cs => ∃ (k i : Int) (s : ByteArray) (av : OA) (nv cv : Nat) (a : OA) (c : Nat), cs = [.int .i64 op, .int .i64 k, .int .i64 i, .string s, .slice av nv cv, .int .i64 occ, .int .i64 attr, .slice a args.length c] ∧
      RV H v [.int .i64 k, .int .i64 i, .string s, .slice av nv cv] ∧ RES H args a
def RES (H : KH) : List Ex → OA → Prop
  | [], _ => True
  | e :: l, a => ∃ b o, a = some ⟨b, o, none⟩ ∧ (∃ cs, ld H ⟨b, o, none⟩ cs ∧ RE H e cs) ∧ RES H l (some ⟨b, o + 8, none⟩)
end

mutual
theorem RE.mono {H H' : KH} (h : Le H H') : ∀ {e : Ex} {cs : List Value}, RE H e cs → RE H' e cs
  | .mk op v occ attr args, cs, ⟨k, i, s, av, nv, cv, a, c, h1, h2, h3⟩ => ⟨k, i, s, av, nv, cv, a, c, h1, h2.mono h, RES.mono h h3⟩
theorem RES.mono {H H' : KH} (h : Le H H') : ∀ {l : List Ex} {a : OA}, RES H l a → RES H' l a
  | [], _, _ => trivial
  | e :: l, a, ⟨b, o, h1, ⟨cs, h2, h3⟩, h4⟩ => ⟨b, o, h1, ⟨cs, h.ld h2, RE.mono h h3⟩, RES.mono h h4⟩
end

theorem RES.get {H : KH} : ∀ {l : List Ex} {a : OA} {j : Nat} {e : Ex}, RES H l a → l[j]? = some e → ∃ b o, a = some ⟨b, o, none⟩ ∧ ∃ cs, ld H ⟨b, o + j * 8, none⟩ cs ∧ RE H e cs
  | [], a, j, e, _, hj => by simp at hj
  | x :: l, a, 0, e, ⟨b, o, h1, ⟨cs, h2, h3⟩, h4⟩, hj => by
    simp at hj
    subst hj
    exact ⟨b, o, h1, cs, by simpa using h2, h3⟩
  | x :: l, a, j + 1, e, ⟨b, o, h1, _, h4⟩, hj => by
    obtain ⟨b', o', h5, cs, h6, h7⟩ := RES.get (j := j) h4 (by simpa using hj)
    cases h5
    refine ⟨b, o, h1, cs, ?_, h7⟩
    have : o + 8 + j * 8 = o + (j + 1) * 8 := by omega
    rw [this] at h6
    exact h6

mutual
/-- Its constants are not too great. -/
def SzE : Ex → Prop
  | .mk _ v _ _ args => szV v ≤ 20000 ∧ SzEs args
def SzEs : List Ex → Prop
  | [] => True
  | e :: l => SzE e ∧ SzEs l
end

theorem SzEs.get : ∀ {l : List Ex} {e : Ex}, SzEs l → e ∈ l → SzE e
  | x :: l, e, ⟨h1, h2⟩, h => by
    rcases List.mem_cons.1 h with rfl | h
    · exact h1
    · exact SzEs.get h2 h

def chooseV (l : List V) : V := if kV (l[0]?.getD (badV 1)) = 7 then l[0]?.getD (badV 1) else if kV (l[0]?.getD (badV 1)) = 2 then (if iV (l[0]?.getD (badV 1)) = 1 then l[1]?.getD (badV 1) else l[2]?.getD (badV 1)) else badV 4

def allV (op : Int) (l : List V) : V := match l.find? fun v => decide (kV v = 7) with
  | some b => b
  | none => smallV (reckonV op l)

def evalE (vals : List (List V)) (texts : List ByteArray) : Nat → Ex → V
  | 0, _ => badV 1
  | d + 1, .mk op v occ attr args =>
    if takesB op args.length = false then badV 1
    else if op = 0 then takenV v
    else if op = 1 then refV vals occ attr
    else if op = 2 then textV texts occ
    else if op = 3 then numAtV texts occ
    else if op = 12 then chooseV (args.map (evalE vals texts d))
    else allV op (args.map (evalE vals texts d))

theorem takes_len {op n : Int} (h : takesB op n = true) (h0 : op ≠ 0) (h1 : op ≠ 1) (h2 : op ≠ 2) (h3 : op ≠ 3) : (op = 11 ∨ op = 15 → n = 1) ∧ (op = 16 ∨ op = 12 → n = 3) ∧ ((op ≠ 21 ∧ op ≠ 22 ∧ op ≠ 14 ∧ op ≠ 11 ∧ op ≠ 15 ∧ op ≠ 16 ∧ op ≠ 12) → n = 2) ∧ n ≤ 4 := by
  unfold takesB at h
  split at h
  · have := of_decide_eq_true h; omega
  · split at h
    · have := of_decide_eq_true h; omega
    · split at h
      · have := of_decide_eq_true h; omega
      · split at h
        · have := of_decide_eq_true h; omega
        · simp only [Bool.and_eq_true, decide_eq_true_eq] at h; omega

theorem ok_number (s : ByteArray) : Ok (numberV s) := by
  have h : ∀ n, Ok (numV n) := fun n => ⟨by show 1 + 0 / 16 + 0 ≤ 60; decide, fit_num⟩
  unfold numberV
  split
  · exact ok_bad (by decide) (by decide)
  · split
    · exact h _
    · exact ok_bad (by decide) (by decide)

theorem ok_eval (vals : List (List V)) (texts : List ByteArray) : ∀ (d : Nat) (e : Ex), Ok (evalE vals texts d e)
  | 0, e => by rw [evalE]; exact ok_bad (by decide) (by decide)
  | d + 1, .mk op v occ attr args => by
    have ih : ∀ x ∈ args.map (evalE vals texts d), Ok x := fun x hx => by
      obtain ⟨e, _, rfl⟩ := List.mem_map.1 hx
      exact ok_eval vals texts d e
    have b1 : Ok (badV 1) := ok_bad (by decide) (by decide)
    have b7 : Ok (badV 7) := ok_bad (by decide) (by decide)
    rw [evalE]
    split
    · exact b1
    · rename_i ht
      have ht : takesB op args.length = true := by simpa using ht
      split
      · exact ok_taken _
      · split
        · unfold refV
          split
          · exact b7
          · split
            · exact b7
            · exact ok_taken _
        · split
          · unfold textV
            split
            · exact b7
            · exact ok_small fit_str
          · split
            · unfold numAtV
              split
              · exact b7
              · exact ok_number _
            · rename_i h0 h1 h2 h3
              obtain ⟨l1, l2, l3, l4⟩ := takes_len ht h0 h1 h2 h3
              generalize hl : args.map (evalE vals texts d) = l at *
              have hlen : l.length = args.length := by rw [← hl]; simp
              have hget : ∀ j : Nat, Ok (l[j]?.getD (badV 1)) := fun j => by
                cases hj : l[j]? with
                | none => exact b1
                | some x => exact ih x (List.mem_of_getElem? hj)
              split
              · unfold chooseV
                split
                · exact hget 0
                · split
                  · split
                    · exact hget 1
                    · exact hget 2
                  · exact ok_bad (by decide) (by decide)
              · rename_i h12
                unfold allV
                split
                · rename_i b hb; exact ih b (List.mem_of_find?_eq_some hb)
                · rename_i hb
                  have hb := List.find?_eq_none.1 hb
                  exact ok_small (fit_reckon (fun x hx => ⟨by simpa using hb x hx, (ih x hx).fit⟩) (fun h => by have := l1 h; omega) (fun h => by have := l2 (.inl h); omega) (fun h => by have := l3 ⟨h.1, h.2.1, h.2.2.1, h.2.2.2.1, h.2.2.2.2.1, h.2.2.2.2.2, h12⟩; omega))

theorem emp_sz : emp.size = 0 := rfl

theorem sz_ite {c : Prop} [Decidable c] {x y : V} {n : Nat} (h1 : c → szV x ≤ n) (h2 : ¬ c → szV y ≤ n) : szV (if c then x else y) ≤ n := by
  split
  · exact h1 ‹_›
  · exact h2 ‹_›

theorem sz_kids {v : V} : szL (kidsL v) ≤ szV v := by obtain ⟨k, i, s, l⟩ := v; simp only [kidsL, szV]; omega
theorem sz_str {v : V} : szV (strV (sV v)) ≤ szV v := by obtain ⟨k, i, s, l⟩ := v; simp only [strV, sV, szV, szL]; omega

theorem sz_snd {v : V} (h : szV v ≤ 60) : szV (sndV v) ≤ 60 := by
  unfold sndV
  split
  · rename_i x y l hk
    have h1 := sz_kids (v := v)
    rw [hk] at h1
    simp only [szL] at h1
    omega
  · rw [sz_bad]; decide

theorem sz_two {op : Int} {a b : V} (ha : szV a ≤ 60) (hb : szV b ≤ 60) : szV (twoV op a b) ≤ 1000 := by
  have bd : ∀ n : Int, szV (badV n) ≤ 1000 := fun n => by rw [sz_bad]; decide
  have num : ∀ {b : Bool} {n : Int}, szV (numIfV b n) ≤ 1000 := fun {b n} => by
    unfold numIfV
    exact sz_ite (fun _ => by show 1 + 0 / 16 + 0 ≤ 1000; decide) fun _ => bd _
  have tru : ∀ {b : Bool}, szV (truV b) ≤ 1000 := fun {b} => by show 1 + 0 / 16 + 0 ≤ 1000; decide
  have ka := sz_kids (v := a)
  have kb := sz_kids (v := b)
  unfold twoV
  refine sz_ite (fun _ => sz_ite (fun _ => num) fun _ => bd _) fun _ => sz_ite (fun _ => sz_ite (fun _ => num) fun _ => bd _) fun _ => sz_ite (fun _ => sz_ite (fun _ => num) fun _ => bd _) fun _ =>
    sz_ite (fun _ => tru) fun _ => sz_ite (fun _ => tru) fun _ => sz_ite (fun _ => sz_ite (fun _ => tru) fun _ => bd _) fun _ => sz_ite (fun _ => sz_ite (fun _ => tru) fun _ => bd _) fun _ =>
    sz_ite (fun _ => sz_ite (fun _ => sz_ite (fun _ => ?_) fun _ => bd _) fun _ => sz_ite (fun _ => ?_) fun _ => bd _) fun _ =>
    sz_ite (fun _ => sz_ite (fun h => ?_) fun _ => bd _) fun _ => sz_ite (fun _ => sz_ite (fun _ => tru) fun _ => bd _) fun _ => sz_ite (fun _ => sz_ite (fun h => ?_) fun _ => bd _) fun _ => sz_ite (fun _ => sz_ite (fun _ => tru) fun _ => bd _) fun _ => bd _
  · obtain ⟨k, i, s, l⟩ := a
    obtain ⟨k', i', s', l'⟩ := b
    simp only [szV] at ha hb
    simp only [sV, strV, szV, szL, ByteArray.size_append]
    omega
  · simp only [szV, emp_sz, szL_app]; omega
  · unfold getV
    refine sz_ite (fun _ => ?_) fun _ => bd _
    split
    · rename_i p hp
      have := mem_szL (List.mem_of_getElem? hp)
      have := sz_snd (v := p) (by omega)
      omega
    · exact bd _
  · have := szL_ins b (kidsL a)
    simp only [szV, emp_sz]; omega

theorem sz_put {l : List V} {s : ByteArray} {v : V} : szL (putV l s v) ≤ szL l + szL l + 3 + s.size / 16 + szV v := by
  unfold putV
  have h1 := take_drop_size l (findV s l).1
  have h2 := take_drop_size l (if (findV s l).2 = true then (findV s l).1 + 1 else (findV s l).1)
  simp only [szL_app, szL, szV, strV, emp_sz]
  omega

theorem szL_le {m : Nat} : ∀ {l : List V}, (∀ x ∈ l, szV x ≤ m) → szL l ≤ l.length * m
  | [], _ => by simp [szL]
  | v :: l, h => by
    have h1 := h v (by simp)
    have h2 := szL_le (l := l) fun x hx => h x (by simp [hx])
    simp only [szL, List.length_cons, Nat.add_mul]
    omega

theorem sz_reckon {op : Int} {l : List V} (h : ∀ x ∈ l, szV x ≤ 60) (hn : l.length ≤ 4) : szV (reckonV op l) ≤ 1000 := by
  have hg : ∀ j : Nat, szV (l[j]?.getD (badV 1)) ≤ 60 := fun j => by
    cases hj : l[j]? with
    | none => show szV (badV 1) ≤ 60; rw [sz_bad]; decide
    | some x => exact h x (List.mem_of_getElem? hj)
  have bd : ∀ n : Int, szV (badV n) ≤ 1000 := fun n => by rw [sz_bad]; decide
  have one : ∀ n : Int, szV (numV n) ≤ 1000 := fun n => by show 1 + 0 / 16 + 0 ≤ 1000; decide
  unfold reckonV
  refine sz_ite (fun _ => by show 1 + 0 / 16 + 0 ≤ 1000; decide) fun _ => sz_ite (fun _ => by show 1 + 0 / 16 + 0 ≤ 1000; decide) fun _ => sz_ite (fun _ => ?_) fun _ => sz_ite (fun _ => ?_) fun _ => sz_ite (fun _ => ?_) fun _ => sz_ite (fun _ => ?_) fun _ => sz_two (hg 0) (hg 1)
  · have := szL_le h
    have h2 : l.length * 60 ≤ 4 * 60 := Nat.mul_le_mul_right _ hn
    simp only [szV, emp_sz]; omega
  · unfold notV
    exact sz_ite (fun _ => by show 1 + 0 / 16 + 0 ≤ 1000; decide) fun _ => bd _
  · unfold lenV
    exact sz_ite (fun _ => one _) fun _ => sz_ite (fun _ => one _) fun _ => bd _
  · refine sz_ite (fun _ => ?_) fun _ => bd _
    have h0 := hg 0
    have h1 := hg 1
    have h2 := hg 2
    generalize l[0]?.getD (badV 1) = a at *
    generalize l[1]?.getD (badV 1) = b at *
    generalize l[2]?.getD (badV 1) = c at *
    have ka := sz_kids (v := a)
    have sb := sz_str (v := b)
    have := sz_put (l := kidsL a) (s := sV b) (v := c)
    simp only [strV, szV, szL] at sb
    simp only [szV, emp_sz]; omega

theorem rd_wr0 {e : BT (Option Value)} {n o : Nat} {cs vs : List Value} (h : rd e 0 n = some cs) (ho : o + vs.length ≤ n) : rd (wr e o vs) 0 n = some (cs.take o ++ vs ++ cs.drop (o + vs.length)) := by
  have hl := rd_len h
  refine rd_some (by simp only [List.length_append, List.length_take, List.length_drop]; omega) fun j x hx => ?_
  rw [Nat.zero_add, tget_wr]
  by_cases h1 : j < o
  · rw [if_neg (by omega)]
    rw [List.append_assoc, List.getElem?_append_left (by rw [List.length_take]; omega), List.getElem?_take_of_lt h1] at hx
    simpa using rd_get h j x hx
  · by_cases h2 : j < o + vs.length
    · rw [if_pos (by omega)]
      rw [List.append_assoc, List.getElem?_append_right (by rw [List.length_take]; omega), List.length_take, Nat.min_eq_left (by omega), List.getElem?_append_left (by omega)] at hx
      exact hx
    · rw [if_neg (by omega)]
      rw [List.getElem?_append_right (by simp only [List.length_append, List.length_take]; omega), List.getElem?_drop] at hx
      have : o + vs.length + (j - (cs.take o ++ vs).length) = j := by simp only [List.length_append, List.length_take]; omega
      rw [this] at hx
      simpa using rd_get h j x hx

theorem find_first {α : Type} {p : α → Bool} {l : List α} {j : Nat} {v : α} (hv : l[j]? = some v) (hp : p v = true) (hb : ∀ x ∈ l.take j, p x = false) : l.find? p = some v := by
  have hj : j < l.length := by
    rcases Nat.lt_or_ge j l.length with q | q
    · exact q
    · rw [List.getElem?_eq_none q] at hv; cases hv
  have hvv : l[j] = v := by rw [List.getElem?_eq_getElem hj] at hv; exact Option.some.inj hv
  have hsplit : l = l.take j ++ v :: l.drop (j + 1) := by rw [← hvv, ← List.drop_eq_getElem_cons hj, List.take_append_drop]
  rw [hsplit, List.find?_append, List.find?_eq_none.2 (fun x hx => by rw [hb x hx]; decide)]
  simp [hp]
end Go.Ew

/- The contract of Eval. -/
set_option linter.unusedVariables false
set_option linter.unusedSimpArgs false
namespace Go.Proofs.YtlemdiinmfneoaaGreat
open Go.Ev Go.Ew
namespace Va

/-- What eval does at a depth. -/
def P25 (d : Nat) : Prop := ∀ (e : Ex) (ce : List Value) (vals : List (List Ew.V)) (texts : List ByteArray) (a b : OA) (c c' : Nat) (H : KH) (Q : PQ), RE H e ce → SzE e → Vals H vals a → Texts H texts b →
  Ans H (evalE vals texts d e) Q → Does (env Tryz.prog) 25 [.agg #[.slice a vals.length c, .slice b texts.length c'], .agg ce.toArray, .int .i64 (d : Nat)] H Q

section
variable (ok : EnvOk (env Tryz.prog))
include ok

theorem c43 {d : Nat} (ih : P25 d) {args : List Ex} {vals : List (List Ew.V)} {texts : List ByteArray} {a b p : OA} {c c' pc : Nat} {H : KH} {Q : PQ} (hr : RES H args p) (hn : args.length = 3) (hs : SzEs args) (hv : Vals H vals a) (ht : Texts H texts b)
    (hq : Ans H (chooseV (args.map (evalE vals texts d))) Q) : Does (env Tryz.prog) 43 [.agg #[.slice a vals.length c, .slice b texts.length c'], .slice p args.length pc, .int .i64 (d : Nat)] H Q := by
  match args, hn with
  | [e0, e1, e2], _ =>
    obtain ⟨b0, o0, hp0, ce0, hl0, hr0⟩ := RES.get (j := 0) hr (by simp : [e0, e1, e2][0]? = some e0)
    obtain ⟨b1, o1, hp1, ce1, hl1, hr1⟩ := RES.get (j := 1) hr (by simp : [e0, e1, e2][1]? = some e1)
    obtain ⟨b2, o2, hp2, ce2, hl2, hr2⟩ := RES.get (j := 2) hr (by simp : [e0, e1, e2][2]? = some e2)
    have s0 : SzE e0 := hs.get (by simp)
    have s1 : SzE e1 := hs.get (by simp)
    have s2 : SzE e2 := hs.get (by simp)
    have hch : chooseV ([e0, e1, e2].map (evalE vals texts d)) = if kV (evalE vals texts d e0) = 7 then evalE vals texts d e0 else if kV (evalE vals texts d e0) = 2 then (if iV (evalE vals texts d e0) = 1 then evalE vals texts d e1 else evalE vals texts d e2) else badV 4 := by
      simp [chooseV]
    rw [hch] at hq
    have ih0 := ih e0 ce0 vals texts a b c c' H
    have ih1 := fun H' (hle : Le H H') => ih e1 ce1 vals texts a b c c' H'
    have ih2 := fun H' (hle : Le H H') => ih e2 ce2 vals texts a b c c' H'
    have hr0' := hr0
    have hr1' := hr1
    have hr2' := hr2
    obtain ⟨op0, v0, occ0, at0, as0⟩ := e0
    obtain ⟨op1, v1, occ1, at1, as1⟩ := e1
    obtain ⟨op2, v2, occ2, at2, as2⟩ := e2
    obtain ⟨k0, i0, t0, av0, nv0, cv0, aa0, ca0, rfl, _, _⟩ := hr0
    obtain ⟨k1, i1, t1, av1, nv1, cv1, aa1, ca1, rfl, _, _⟩ := hr1
    obtain ⟨k2, i2, t2, av2, nv2, cv2, aa2, ca2, rfl, _, _⟩ := hr2
    refine fn43 ok ⟨trivial, ⟨by omega, by simp⟩, b0, o0, hp0, _, _, _, _, _, _, _, _, _, _, _, _, by simpa using hl0, ih0 _ hr0' s0 hv ht fun cs H' hle hrv => ?_⟩
    have hrv' := hrv
    generalize evalE vals texts d (.mk op0 v0 occ0 at0 as0) = w at *
    obtain ⟨k, i, s, l⟩ := w
    obtain ⟨aw, nw, cw, rfl, rfl, hlw, hokw⟩ := hrv
    have hk : kV (.mk k i s l) = k := rfl
    have hi : iV (.mk k i s l) = i := rfl
    rw [hk, hi] at hq
    refine ⟨_, _, _, _, _, _, rfl, trivial, trivial, fun h7 => ?_, fun h7 => fn61 ok ⟨trivial, _, _, rfl, fun h2 => ?_, fun h2 => ⟨fun h1 => ⟨trivial, ?_⟩, fun h1 => ⟨trivial, ?_⟩⟩⟩⟩
    · rw [if_pos (by simpa using h7)] at hq
      exact hq _ H' hle hrv'
    · rw [if_neg (by simpa using h7), if_neg (by simpa using h2)] at hq
      exact c38 ok (hq.mono hle).wrap
    · rw [if_neg (by simpa using h7), if_pos (by simpa using h2), if_pos (by simpa using h1)] at hq
      exact ⟨⟨by omega, by simp⟩, b1, o1, hp1, _, _, _, _, _, _, _, _, _, _, _, _, by simpa using hle.ld hl1, ih1 H' hle _ (hr1'.mono hle) s1 (hv.mono hle) (ht.mono hle) (hq.mono hle).wrapT⟩
    · rw [if_neg (by simpa using h7), if_pos (by simpa using h2), if_neg (by simpa using h1)] at hq
      exact ⟨⟨by omega, by simp⟩, b2, o2, hp2, _, _, _, _, _, _, _, _, _, _, _, _, by simpa using hle.ld hl2, ih2 H' hle _ (hr2'.mono hle) s2 (hv.mono hle) (ht.mono hle) (hq.mono hle).wrapT⟩

theorem l20 {d : Nat} (hd : d ≤ 100) (ih : P25 d) {op k i occ attr : Int} {s : ByteArray} {args : List Ex} {vals : List (List Ew.V)} {texts : List ByteArray} {a b aa av : OA} {c c' ca nv cv p : Nat} {H : KH} {Q : PQ} (hr : RES H args aa) (hs : SzEs args) (hv : Vals H vals a) (ht : Texts H texts b) (hp : H p = none)
    (hn : args.length ≤ 4) (h1 : op = 11 ∨ op = 15 → 1 ≤ args.length) (h3 : op = 16 → args.length = 3) (h2 : (op ≠ 21 ∧ op ≠ 22 ∧ op ≠ 14 ∧ op ≠ 11 ∧ op ≠ 15 ∧ op ≠ 16) → args.length = 2)
    (hq : Ans H (allV op (args.map (evalE vals texts d))) Q) : vc25_L2 ((d + 1 : Nat) : Int) a vals.length c b texts.length c' op k i s av nv cv occ attr aa args.length ca p H Q := by
  unfold vc25_L2
  have hz : (lrep [Value.int .i64 0, .int .i64 0, .string (ByteArray.mk #[]), .slice none 0 0] args.length).length = args.length * 4 := lrep_len _ _
  refine ⟨fun m x4 a5 n6 n7 a8 n9 n10 x11 x12 x13 s14 a15 n16 n17 x18 x19 a20 n21 n22 x23 x24 s25 a26 n27 n28 a29 n30 n31 a32 n33 n34 x35 x36 H37 => x4 = (d + 1 : Nat) ∧ a5 = a ∧ n6 = vals.length ∧ a8 = b ∧ n9 = texts.length ∧ x11 = op ∧ a29 = some ⟨p, 0, none⟩ ∧ n30 = args.length ∧ n31 = args.length ∧ a32 = aa ∧ n33 = args.length ∧ x35 = (args.length : Nat) ∧
    ∃ (j : Nat) (K : KH) (e : Ent) (cs : List Value), x36 = j ∧ j ≤ args.length ∧ m = args.length - j ∧ H37 = K.new p e ∧ K p = none ∧ Le H K ∧ wrB e = true ∧ rd e.cells 0 (args.length * 4) = some cs ∧ RC K ((args.take j).map (evalE vals texts d)) (cs.take (j * 4)) ∧ ∀ x ∈ (args.take j).map (evalE vals texts d), kV x ≠ 7,
    ⟨args.length, rfl, rfl, rfl, rfl, rfl, rfl, rfl, rfl, rfl, rfl, rfl, rfl, 0, H, _, _, rfl, by omega, rfl, rfl, hp, Le.refl _, rfl, by rw [← hz]; exact mk_rd, by simp [RC], by simp⟩, ?_⟩
  rintro m x4 a5 n6 n7 a8 n9 n10 x11 x12 x13 s14 a15 n16 n17 x18 x19 a20 n21 n22 x23 x24 s25 a26 n27 n28 a29 n30 n31 a32 n33 n34 x35 x36 H37 ⟨rfl, rfl, rfl, rfl, rfl, rfl, rfl, rfl, rfl, rfl, rfl, rfl, j, K, e, cs, rfl, hj, rfl, rfl, hKp, hle, hwr, hrd, hrc, hne⟩
  have hcl := rd_len hrd
  have leK : Le K (K.new p e) := Le.new hKp
  refine ⟨fun hlt => ?_, fun hge => ?_⟩
  · have hlt : j < args.length := by have := of_decide_eq_true hlt; omega
    have hy : args[j]? = some args[j] := by simp [hlt]
    obtain ⟨b1, o1, ha, ce, hld, hre⟩ := RES.get hr hy
    have hsz : SzE args[j] := hs.get (List.getElem_mem hlt)
    have htk : args.take (j + 1) = args.take j ++ [args[j]] := by rw [List.take_add_one]; simp [hlt]
    have hmap : (args.map (evalE vals texts d))[j]? = some (evalE vals texts d args[j]) := by rw [List.getElem?_map, hy]; rfl
    have ihj := fun Q => ih args[j] ce vals texts a5 a8 n7 n10 K Q
    generalize args[j] = ej at *
    have hre' := hre
    obtain ⟨op0, v0, occ0, at0, as0⟩ := ej
    obtain ⟨k0, i0, t0, av0, nv0, cv0, aa0, ca0, rfl, _, _⟩ := hre
    have hw : IntKind.wrap .i64 (((d + 1 : Nat) : Int) - 1) = (d : Nat) := by rw [wrap64 (by omega) (by omega)]; omega
    rw [hw]
    refine ⟨⟨by omega, by omega⟩, b1, o1, ha, _, _, _, _, _, _, _, _, _, _, _, _, by simpa using leK.ld (hle.ld hld), Does.frame hKp (ihj _ (hre'.mono hle) hsz (hv.mono hle) (ht.mono hle) fun cw K' hle' hrw hKp' => ?_)⟩
    have hrw' := hrw
    generalize evalE vals texts d (.mk op0 v0 occ0 at0 as0) = w at *
    obtain ⟨kw, iw, sw, lw⟩ := w
    obtain ⟨aw, nw, cw, rfl, rfl, hlw, hokw⟩ := hrw
    have hrd2 := rd_wr0 (o := 0 + j * 4) (vs := [.int .i64 kw, .int .i64 iw, .string sw, .slice aw lw.length cw]) hrd (by simp only [List.length_cons, List.length_nil]; omega)
    have hat : (K'.new p e) p = some e := if_pos rfl
    have hld0 : ld (K'.new p e) ⟨p, 0, none⟩ cs := ⟨rfl, e, hat, by rw [hcl]; exact hrd⟩
    have hput : (K'.new p e).put ⟨p, 0 + j * 4, none⟩ [.int .i64 kw, .int .i64 iw, .string sw, .slice aw lw.length cw] = K'.new p ⟨wr e.cells (0 + j * 4) [.int .i64 kw, .int .i64 iw, .string sw, .slice aw lw.length cw], e.len, e.unk, none⟩ := put_new
    generalize hcs2 : cs.take (0 + j * 4) ++ [Value.int .i64 kw, .int .i64 iw, .string sw, .slice aw lw.length cw] ++ cs.drop (0 + j * 4 + [Value.int .i64 kw, .int .i64 iw, .string sw, .slice aw lw.length cw].length) = cs2 at hrd2
    have hcl2 := rd_len hrd2
    have hl1 : (cs.take (0 + j * 4)).length = j * 4 := by rw [List.length_take]; omega
    have hpart : (cs2.drop (j * 4)).take 4 = [.int .i64 kw, .int .i64 iw, .string sw, .slice aw lw.length cw] := by
      rw [← hcs2, List.append_assoc, List.drop_append_of_le_length (by omega), List.drop_eq_nil_of_le (by omega), List.nil_append]
      rfl
    have hfront : cs2.take ((j + 1) * 4) = cs.take (j * 4) ++ [.int .i64 kw, .int .i64 iw, .string sw, .slice aw lw.length cw] := by
      rw [← hcs2, List.take_append_of_le_length (by simp only [List.length_append, hl1, List.length_cons, List.length_nil]; omega), Nat.zero_add, List.take_of_length_le]
      simp only [List.length_append, List.length_take, List.length_cons, List.length_nil]; omega
    generalize hent : (⟨wr e.cells (0 + j * 4) [.int .i64 kw, .int .i64 iw, .string sw, .slice aw lw.length cw], e.len, e.unk, none⟩ : Ent) = e2 at *
    have hwr2 : wrB e2 = true := by rw [← hent]; exact wrB_keep hwr
    have hrd3 : rd e2.cells 0 (args.length * 4) = some cs2 := by rw [← hent]; exact hrd2
    have hat2 : (K'.new p e2) p = some e2 := if_pos rfl
    have hldp : ld (K'.new p e2) ⟨p, 0, none⟩ cs2 := ⟨rfl, e2, hat2, by rw [hcl2]; exact hrd3⟩
    have hldj : ld (K'.new p e2) ⟨p, 0 + j * 4, none⟩ [.int .i64 kw, .int .i64 iw, .string sw, .slice aw lw.length cw] := by
      have := ld_sub hldp (j * 4) 4 (by omega)
      rw [hpart] at this
      exact this
    have hkey : (K'.new p e).put ⟨p, 0 + ((j : Nat) : Int).toNat * 4, none⟩ (Array.toList #[.int .i64 kw, .int .i64 iw, .string sw, .slice aw lw.length cw]) = K'.new p e2 := by
      rw [Int.toNat_natCast]
      exact hput
    refine ⟨_, _, _, _, _, _, rfl, ⟨by omega, by omega⟩, p, 0, rfl, ⟨(cs.drop (j * 4)).take 4, ?_, ?_⟩, ⟨⟨e, hat, hwr⟩⟩, ⟨by omega, by omega⟩, p, 0, rfl, ?_⟩
    · simp only [List.length_take, List.length_drop]; show _ = 4; omega
    · have := ld_sub hld0 (j * 4) 4 (by omega)
      simpa using this
    · rw [hkey]
      refine ⟨rfl, kw, by have := ld_sub hldj 0 1 (by simp); simpa using this, fun h7 => ?_, fun h7 => ?_⟩
      · have h7 : kw = 7 := by simpa using h7
        refine ⟨⟨by omega, by omega⟩, p, 0, rfl, kw, iw, sw, aw, _, cw, by simpa using hldj, ?_⟩
        have hf : (args.map (evalE vals texts d)).find? (fun v => decide (kV v = 7)) = some (.mk kw iw sw lw) := find_first hmap (by simp [kV, h7]) fun x hx => by
          rw [← List.map_take] at hx
          exact decide_eq_false (hne x hx)
        unfold allV at hq
        simp only [hf] at hq
        exact hq _ _ (hle.trans (hle'.trans (Le.new hKp'))) (hrw'.mono (Le.new hKp'))
      · have h7 : ¬ kw = 7 := by simpa using h7
        refine ⟨args.length - (j + 1), by omega, rfl, rfl, rfl, rfl, rfl, rfl, rfl, rfl, rfl, rfl, rfl, rfl, j + 1, K', e2, cs2, ?_, by omega, rfl, rfl, hKp', hle.trans hle', hwr2, hrd3, ?_, ?_⟩
        · rw [wrap64 (by omega) (by omega)]; omega
        · have hmj : evalE vals texts d (.mk op0 v0 occ0 at0 as0) = .mk kw iw sw lw := by
            have h5 := hmap
            rw [List.getElem?_map, hy] at h5
            exact Option.some.inj h5
          rw [htk, List.map_append, hfront]
          refine (hrc.mono hle').append ?_
          simp only [List.map_cons, List.map_nil, hmj]
          exact RC.one hrw'
        · have hmj : evalE vals texts d (.mk op0 v0 occ0 at0 as0) = .mk kw iw sw lw := by
            have h5 := hmap
            rw [List.getElem?_map, hy] at h5
            exact Option.some.inj h5
          intro x hx
          rw [htk, List.map_append] at hx
          rcases List.mem_append.1 hx with hx | hx
          · exact hne x hx
          · simp only [List.map_cons, List.map_nil, hmj, List.mem_singleton] at hx
            subst hx
            exact h7
  · have hge : args.length ≤ j := by have := of_decide_eq_false hge; omega
    have hja : j = args.length := by omega
    subst hja
    rw [List.take_length] at hrc hne
    rw [List.take_of_length_le (by omega)] at hrc
    generalize hvs : args.map (evalE vals texts d) = vs at *
    have hlen : vs.length = args.length := by rw [← hvs]; simp
    have hO : ∀ x ∈ vs, Ok x := fun x hx => by
      rw [← hvs] at hx
      obtain ⟨e, _, rfl⟩ := List.mem_map.1 hx
      exact ok_eval vals texts d e
    have hfn : vs.find? (fun v => decide (kV v = 7)) = none := List.find?_eq_none.2 fun x hx => by simpa using hne x hx
    unfold allV at hq
    simp only [hfn] at hq
    rw [← hlen]
    refine c45 ok (RS.of_cells (kold_some.2 ⟨e, if_pos rfl, by rw [hlen]; exact hrd⟩) (hrc.mono leK)) (.inl ⟨rfl, vs.length, ?_, Nat.le_refl _⟩) hO (by rw [hlen]; exact h1) (by rw [hlen]; exact h3) (by rw [hlen]; exact h2) fun cs2 H2 hle2 hr2 => ?_
    · unfold kcap
      rw [show Nat.blt vs.length unkU = true from Nat.ble_eq_true_of_le (by have : unkU = 18446744073709551616 := rfl; omega)]
      rfl
    · have hr2' := hr2
      have hsz := sz_reckon (op := x11) (l := vs) (fun x hx => (hO x hx).sz) (by omega)
      have hq2 := (hq.mono (hle.trans (leK.trans hle2))).wrap
      generalize reckonV x11 vs = w at *
      obtain ⟨kw, iw, sw, lw⟩ := w
      obtain ⟨aw, nw, cw, rfl, rfl, hlw, hokw⟩ := hr2
      exact ⟨_, _, _, _, _, _, rfl, c44 ok hr2' (by omega) hq2⟩

theorem c25 : ∀ d : Nat, d ≤ 100 → P25 d
  | 0, _ => by
    intro e ce vals texts a b c c' H Q hr hs hv ht hq
    obtain ⟨op, v, occ, attr, args⟩ := e
    obtain ⟨k, i, s, av, nv, cv, aa, ca, rfl, hrv, hres⟩ := hr
    rw [evalE] at hq
    exact fn25 ok ⟨fun _ => c38 ok hq.wrap, fun h => by simp at h⟩
  | d + 1, hd => by
    intro e ce vals texts a b c c' H Q hr hs hv ht hq
    have ih := c25 d (by omega)
    obtain ⟨op, v, occ, attr, args⟩ := e
    obtain ⟨k, i, s, av, nv, cv, aa, ca, rfl, hrv, hres⟩ := hr
    have hsv := hs.1
    have hsa := hs.2
    rw [evalE] at hq
    have hw : IntKind.wrap .i64 (((d + 1 : Nat) : Int) - 1) = (d : Nat) := by rw [wrap64 (by omega) (by omega)]; omega
    refine fn25 ok ⟨fun h => by simp at h; omega, fun _ => c34 ok ⟨_, rfl, fun hb => ?_, fun hb => ⟨fun h0 => ?_, fun h0 => ⟨fun h1 => ?_, fun h1 => ⟨fun h2 => ?_, fun h2 => ⟨fun h3 => ?_, fun h3 => ⟨fun h12 => ?_, fun h12 => ⟨⟨by omega, by omega, ?_⟩, fun n41 hn41 => ?_⟩⟩⟩⟩⟩⟩⟩⟩
    · rw [if_pos (by simpa using hb)] at hq
      exact c38 ok hq.wrap
    all_goals
      have hb : takesB op args.length = true := by simpa using hb
      rw [if_neg (by rw [hb]; decide)] at hq
    · rw [if_pos (by simpa using h0)] at hq
      exact c39 ok hrv (by omega) hq.wrap
    all_goals
      have h0 : ¬ op = 0 := by simpa using h0
      rw [if_neg h0] at hq
    · rw [if_pos (by simpa using h1)] at hq
      exact c40 ok hv hq.wrap
    all_goals
      have h1 : ¬ op = 1 := by simpa using h1
      rw [if_neg h1] at hq
    · rw [if_pos (by simpa using h2)] at hq
      exact c41 ok ht hq.wrap
    all_goals
      have h2 : ¬ op = 2 := by simpa using h2
      rw [if_neg h2] at hq
    · rw [if_pos (by simpa using h3)] at hq
      exact c42 ok ht hq.wrap
    all_goals
      have h3 : ¬ op = 3 := by simpa using h3
      rw [if_neg h3] at hq
      obtain ⟨l1, l2, l3, l4⟩ := takes_len hb h0 h1 h2 h3
    · have h12 : op = 12 := by simpa using h12
      rw [if_pos h12] at hq
      rw [hw]
      exact c43 ok ih hres (by have := l2 (.inr h12); omega) hsa hv ht hq.wrap
    · omega
    · have h12 : ¬ op = 12 := by simpa using h12
      rw [if_neg h12] at hq
      exact l20 ok (by omega) ih hres hsa hv ht hn41 (by omega) (fun h => by have := l1 h; omega) (fun h => by have := l2 (.inl h); omega) (fun h => by have := l3 ⟨h.1, h.2.1, h.2.2.1, h.2.2.2.1, h.2.2.2.2.1, h.2.2.2.2.2, h12⟩; omega) hq

theorem c14 {e : Ex} {ce : List Value} {vals : List (List Ew.V)} {texts : List ByteArray} {a b : OA} {c c' : Nat} {H : KH} {Q : PQ} (hr : RE H e ce) (hs : SzE e) (hv : Vals H vals a) (ht : Texts H texts b) (hq : Ans H (evalE vals texts 12 e) Q) :
    Does (env Tryz.prog) 14 [.agg ce.toArray, .slice a vals.length c, .slice b texts.length c'] H Q := by
  have hr' := hr
  obtain ⟨op, v, occ, attr, args⟩ := e
  obtain ⟨k, i, s, av, nv, cv, aa, ca, rfl, hrv, hres⟩ := hr
  exact fn14 ok (c25 ok 12 (by decide) _ _ vals texts a b c c' H _ hr' hs hv ht hq.wrap)
end
end Va
end Go.Proofs.YtlemdiinmfneoaaGreat
