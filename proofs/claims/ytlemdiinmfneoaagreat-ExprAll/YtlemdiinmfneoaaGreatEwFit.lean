import Derived.Test.YtlemdiinmfneoaaGreatEwValQ
/- Values that may be; rows that rise. -/
set_option linter.unusedVariables false
set_option linter.unusedSimpArgs false
namespace Go.Ew
open Go.Ev Go.Deep Go.Proofs.YtlemdiinmfneoaaGreat.Va

def Srt (l : List V) : Prop := l.Pairwise fun a b => cmpV a b < 0

theorem cmp3 (x y z : V) : (cmpV x y ≤ 0 → cmpV y z ≤ 0 → cmpV x z ≤ 0) ∧ (cmpV x y < 0 → cmpV y z ≤ 0 → cmpV x z < 0) ∧ (cmpV x y ≤ 0 → cmpV y z < 0 → cmpV x z < 0) := cmpV_trans x y z

theorem mem_ins {x z : V} : ∀ {l : List V}, z ∈ insV x l → z = x ∨ z ∈ l
  | [], h => by simp [insV] at h; exact .inl h
  | y :: l, h => by
    rw [insV] at h
    split at h
    · rcases List.mem_cons.1 h with rfl | h
      · exact .inr (by simp)
      · exact (mem_ins h).imp id fun q => by simp [q]
    · split at h
      · exact .inr h
      · rcases List.mem_cons.1 h with rfl | h
        · exact .inl rfl
        · exact .inr h

theorem srt_ins (x : V) : ∀ {l : List V}, Srt l → Srt (insV x l)
  | [], _ => by simp [insV, Srt]
  | y :: l, h => by
    have hy : ∀ {w}, w ∈ l → cmpV y w < 0 := fun hw => List.rel_of_pairwise_cons h hw
    have hl := h.of_cons
    rw [insV]
    split
    · rename_i hlt
      refine List.pairwise_cons.2 ⟨fun z hz => ?_, srt_ins x hl⟩
      rcases mem_ins hz with rfl | hz
      · exact hlt
      · exact hy hz
    · rename_i hlt
      split
      · exact h
      · rename_i hne
        refine List.pairwise_cons.2 ⟨fun z hz => ?_, h⟩
        have hxy : cmpV x y < 0 := by have := cmpV_neg y x; omega
        rcases List.mem_cons.1 hz with rfl | hz
        · exact hxy
        · have := hy hz
          exact (cmp3 x y z).2.1 hxy (by omega)


def kV : V → Int
  | .mk k _ _ _ => k

def kidsL : V → List V
  | .mk _ _ _ l => l

def cmpK (a b : V) : Int := cmpS' (keyV a) (keyV b)

def pairB : V → Bool
  | .mk k _ _ l => decide (k = 4) && (decide (l.length = 2) && decide ((l[0]?).map kV = some 3))

def riseB (f : V → V → Int) : List V → Bool
  | a :: b :: l => decide (f a b < 0) && riseB f (b :: l)
  | _ => true

mutual
def fitV : V → Bool
  | .mk k i s l =>
    if k = 1 then strEq s (ByteArray.mk #[]) && decide (l.length = 0)
    else if k = 2 then (decide (i = 0) || decide (i = 1)) && (strEq s (ByteArray.mk #[]) && decide (l.length = 0))
    else if k = 3 then decide (i = 0) && decide (l.length = 0)
    else if k = 4 then decide (i = 0) && (strEq s (ByteArray.mk #[]) && partsB l)
    else if k = 5 then decide (i = 0) && (strEq s (ByteArray.mk #[]) && partsB l) && riseB cmpV l
    else if k = 6 then decide (i = 0) && (strEq s (ByteArray.mk #[]) && partsB l) && (l.all pairB && riseB cmpK l)
    else if k = 7 then (decide (1 ≤ i) && decide (i ≤ 13)) && (strEq s (ByteArray.mk #[]) && decide (l.length = 0))
    else false
def partsB : List V → Bool
  | [] => true
  | v :: l => decide (kV v ≠ 7) && (fitV v && partsB l)
end

mutual
/-- Its numbers are an int64's. -/
def rgB : V → Bool
  | .mk _ i _ l => (decide (-9223372036854775808 ≤ i) && decide (i ≤ 9223372036854775807)) && rgBs l
def rgBs : List V → Bool
  | [] => true
  | v :: l => rgB v && rgBs l
end

theorem rgs_iff : ∀ {l : List V}, rgBs l = true ↔ ∀ x ∈ l, rgB x = true
  | [] => by simp [rgBs]
  | v :: l => by simp [rgBs, rgs_iff (l := l)]

theorem rg_mk {k i : Int} {s : ByteArray} {l : List V} (h1 : -9223372036854775808 ≤ i) (h2 : i ≤ 9223372036854775807) (h : ∀ x ∈ l, rgB x = true) : rgB (.mk k i s l) = true := by
  rw [rgB, decide_eq_true h1, decide_eq_true h2, rgs_iff.2 h]; rfl

def KR (l : List V) : Prop := l.Pairwise fun a b => cmpK a b < 0

/-- It may be, as a part; an Env's keys rise. -/
structure Fit (v : V) : Prop where
  fit : fitV v = true
  ne : kV v ≠ 7
  rg : rgB v = true
  key : kV v = 6 → KR (kidsL v) ∧ ∀ x ∈ kidsL v, 0 < kidsV x

theorem parts_of : ∀ {l : List V}, (∀ x ∈ l, fitV x = true ∧ kV x ≠ 7) → partsB l = true
  | [], _ => rfl
  | v :: l, h => by
    have h1 := h v (by simp)
    have h2 := parts_of (l := l) fun x hx => h x (by simp [hx])
    simp [partsB, h1.1, h1.2, h2]

theorem rise_of {f : V → V → Int} : ∀ {l : List V}, (l.Pairwise fun a b => f a b < 0) → riseB f l = true
  | [], _ => rfl
  | [_], _ => rfl
  | a :: b :: l, h => by
    have h1 : f a b < 0 := List.rel_of_pairwise_cons h (by simp)
    have h2 := rise_of (l := b :: l) h.of_cons
    simp [riseB, h1, h2]

theorem emp_eq : strEq (ByteArray.mk #[]) (ByteArray.mk #[]) = true := by simp [strEq]

theorem Fit.num {i : Int} (h1 : -9223372036854775808 ≤ i) (h2 : i ≤ 9223372036854775807) : Fit (.mk 1 i (ByteArray.mk #[]) []) := ⟨by simp [fitV, emp_eq], by simp [kV], rg_mk h1 h2 (by simp), by simp [kV]⟩
theorem Fit.bool {i : Int} (h1 : 0 ≤ i) (h2 : i < 2) : Fit (.mk 2 i (ByteArray.mk #[]) []) := by
  refine ⟨?_, by simp [kV], rg_mk (by omega) (by omega) (by simp), by simp [kV]⟩
  have : i = 0 ∨ i = 1 := by omega
  rcases this with rfl | rfl <;> simp [fitV, emp_eq]
theorem Fit.str {s : ByteArray} : Fit (.mk 3 0 s []) := ⟨by simp [fitV], by simp [kV], rg_mk (by decide) (by decide) (by simp), by simp [kV]⟩
theorem Fit.list {l : List V} (h : ∀ x ∈ l, Fit x) : Fit (.mk 4 0 (ByteArray.mk #[]) l) :=
  ⟨by simp [fitV, emp_eq, parts_of fun x hx => ⟨(h x hx).fit, (h x hx).ne⟩], by simp [kV], rg_mk (by decide) (by decide) fun x hx => (h x hx).rg, by simp [kV]⟩
theorem Fit.set {l : List V} (h : ∀ x ∈ l, Fit x) (hs : Srt l) : Fit (.mk 5 0 (ByteArray.mk #[]) l) :=
  ⟨by simp [fitV, emp_eq, parts_of fun x hx => ⟨(h x hx).fit, (h x hx).ne⟩, rise_of hs], by simp [kV], rg_mk (by decide) (by decide) fun x hx => (h x hx).rg, by simp [kV]⟩

/-- A row of pairs whose keys rise. -/
structure Prs (l : List V) : Prop where
  rise : KR l
  kids : ∀ x ∈ l, 0 < kidsV x
  fit : ∀ x ∈ l, Fit x
  pair : ∀ x ∈ l, pairB x = true

theorem Fit.env {l : List V} (h : Prs l) : Fit (.mk 6 0 (ByteArray.mk #[]) l) := by
  refine ⟨?_, by simp [kV], rg_mk (by decide) (by decide) fun x hx => (h.fit x hx).rg, fun _ => ⟨h.rise, h.kids⟩⟩
  have h1 : l.all pairB = true := List.all_eq_true.2 h.pair
  have h2 : riseB cmpK l = true := rise_of h.rise
  simp only [fitV]
  simp [emp_eq, parts_of fun x hx => ⟨(h.fit x hx).fit, (h.fit x hx).ne⟩, h1, h2]

theorem cmpK3 (x y z : V) : (cmpK x y < 0 → cmpK y z < 0 → cmpK x z < 0) := fun h1 h2 => (cmpS_trans _ _ _).2.1 h1 (by show cmpK y z ≤ 0; omega)

theorem less_irrefl : ∀ l : List UInt8, Op.bytesLess l l = false
  | [] => rfl
  | a :: l => by simp [Op.bytesLess, less_irrefl l]

theorem lt_cmp {x y : ByteArray} (h : strLt x y = true) : cmpS' x y < 0 := by
  rcases cmpS_rng x y with q | q | q
  · omega
  · rw [cmpS_str] at q
    by_cases e : strEq x y = true
    · exfalso
      unfold strEq at e
      unfold strLt at h
      have e : x.toList = y.toList := by simpa using e
      rw [e] at h
      rw [less_irrefl] at h
      cases h
    · simp [e, h] at q
  · rw [cmpS_str] at q
    split at q
    · omega
    · simp [h] at q

theorem put_kr {s : ByteArray} {P : V} (hk : keyV P = s) : ∀ {m : List V}, KR m → (∀ x ∈ m, 0 < kidsV x) → (findV s m).2 = false → KR (m.take (findV s m).1 ++ P :: m.drop (findV s m).1)
  | [], _, _, _ => by simp [KR]
  | y :: l, h, hc, hf => by
    have hy : ∀ {w}, w ∈ l → cmpK y w < 0 := fun hw => List.rel_of_pairwise_cons h hw
    have hl : KR l := h.of_cons
    by_cases hlt : strLt (keyV y) s = true
    · simp only [findV, if_pos hlt] at hf ⊢
      have ih := put_kr hk hl (fun x hx => hc x (by simp [hx])) hf
      rw [List.take_succ_cons, List.drop_succ_cons]
      refine List.pairwise_cons.2 ⟨fun z hz => ?_, ih⟩
      rcases List.mem_append.1 hz with hz | hz
      · exact hy (List.mem_of_mem_take hz)
      · rcases List.mem_cons.1 hz with rfl | hz
        · show cmpS' (keyV y) (keyV z) < 0
          rw [hk]; exact lt_cmp hlt
        · exact hy (List.mem_of_mem_drop hz)
    · simp only [findV, if_neg hlt] at hf ⊢
      have h0 : 0 < kidsV y := hc y (by simp)
      have hne : strEq (keyV y) s = false := by simpa [h0] using hf
      have hP : cmpK P y < 0 := by
        show cmpS' (keyV P) (keyV y) < 0
        rw [hk]
        have := cmpS_neg (keyV y) s
        have h2 := cmpS_str (keyV y) s
        rw [hne] at h2
        simp [hlt] at h2
        omega
      refine List.pairwise_cons.2 ⟨fun z hz => ?_, h⟩
      rcases List.mem_cons.1 hz with rfl | hz
      · exact hP
      · exact cmpK3 _ _ _ hP (hy hz)

theorem Prs.put {s : ByteArray} {v : V} {m : List V} (h : Prs m) (hv : Fit v) (hf : (findV s m).2 = false) : Prs (m.take (findV s m).1 ++ .mk 4 0 (ByteArray.mk #[]) [.mk 3 0 s [], v] :: m.drop (findV s m).1) := by
  have hm : ∀ {p : V → Prop}, (∀ x ∈ m, p x) → p (.mk 4 0 (ByteArray.mk #[]) [.mk 3 0 s [], v]) → ∀ x ∈ (m.take (findV s m).1 ++ .mk 4 0 (ByteArray.mk #[]) [.mk 3 0 s [], v] :: m.drop (findV s m).1), p x := by
    intro p h1 h2 x hx
    rcases List.mem_append.1 hx with hx | hx
    · exact h1 x (List.mem_of_mem_take hx)
    · rcases List.mem_cons.1 hx with rfl | hx
      · exact h2
      · exact h1 x (List.mem_of_mem_drop hx)
  refine ⟨put_kr (by simp [keyV]) h.rise h.kids hf, hm h.kids (by simp [kidsV]), hm h.fit (Fit.list ?_), hm h.pair (by simp [pairB, kV])⟩
  intro x hx
  rcases List.mem_cons.1 hx with rfl | hx
  · exact Fit.str
  · have : x = v := by simpa using hx
    subst this
    exact hv
end Go.Ew

/- Contracts of the play: numbers that are read one by one. -/
set_option linter.unusedVariables false
namespace Go.Ew
open Go.Ev Go.Deep

/-- What a call need not know it does not touch. -/
theorem Does.frame {E : Env} {g : Nat} {args : List Value} {K : KH} {p : Nat} {e : Ent} {Q : PQ} (hK : K p = none)
    (hf : Does E g args K fun v K' => K' p = none → Q v (K'.new p e)) : Does E g args (K.new p e) Q := by
  refine ⟨hf.lt, fun h hn hh => ?_⟩
  have hp : tget h.m p = some e := hh p e (by simp [KH.new])
  have hlt : p < h.nxt := by
    rcases Nat.lt_or_ge p h.nxt with q | q
    · exact q
    · rw [hn p q] at hp; cases hp
  obtain ⟨v, h', K', h1, h2, h3, h4, h5, h6, h7⟩ := hf.run h hn fun k e' q => hh k e' (by
    simp only [KH.new]
    rw [if_neg (fun ek => by subst ek; rw [hK] at q; cases q)]
    exact q)
  have hK' : K' p = none := by
    cases hk : K' p with
    | none => rfl
    | some e' =>
      rcases h7 p (by rw [hk]; simp) with q | q
      · exact absurd hK q
      · omega
  refine ⟨v, h', K'.new p e, h1, h2 hK', h3, fun k e' q => ?_, h5, fun k hk q => ?_, fun k q => ?_⟩
  · simp only [KH.new] at q
    by_cases ek : k = p
    · subst ek
      simp only [if_true] at q
      rw [h6 k hlt hK, hp]
      exact q
    · rw [if_neg ek] at q
      exact h4 k e' q
  · simp only [KH.new] at q
    by_cases ek : k = p
    · rw [if_pos ek] at q; cases q
    · rw [if_neg ek] at q
      exact h6 k hk q
  · simp only [KH.new] at q ⊢
    by_cases ek : k = p
    · rw [if_pos ek]; left; simp
    · rw [if_neg ek] at q ⊢
      exact h7 k q

/-- Small numbers lie there. -/
def U8 (K : KH) (a : OA) (n : Nat) : Prop := ∀ i, i < n → ∃ b o x, a = some ⟨b, o, none⟩ ∧ ld K ⟨b, o + i, none⟩ [.int .u8 x] ∧ 0 ≤ x ∧ x ≤ 255

theorem U8.mono {K K' : KH} (h : Le K K') {a : OA} {n : Nat} (q : U8 K a n) : U8 K' a n := fun i hi => by
  obtain ⟨b, o, x, h1, h2, h3⟩ := q i hi
  exact ⟨b, o, x, h1, h.ld h2, h3⟩

/-- The numbers are read through a block that nothing else knows. -/
structure PK (K : KH) (p : Nat) (H : KH) : Prop where
  out : K p = none
  ex : ∃ e a n c j, H = K.new p e ∧ wrB e = true ∧ rd e.cells 0 2 = some [.slice a n c, .int .i64 j] ∧ 0 ≤ j ∧ n ≤ 1000000 ∧ U8 K a n

theorem PK.le {K H : KH} {p : Nat} (h : PK K p H) : Le K H := by
  obtain ⟨h1, e, a, n, c, j, rfl, _⟩ := h
  exact Le.new h1

theorem put_new {K : KH} {p o : Nat} {e : Ent} {vs : List Value} : (K.new p e).put ⟨p, o, none⟩ vs = K.new p ⟨wr e.cells o vs, e.len, e.unk, none⟩ := by
  funext k
  simp only [KH.put, KH.new]
  by_cases hk : k = p <;> simp [hk]

theorem rd_two {e : BT (Option Value)} {u v w : Value} (h : rd e 0 2 = some [u, v]) : rd (wr e 1 [w]) 0 2 = some [u, w] := by
  refine rd_some rfl fun j x hx => ?_
  rw [Nat.zero_add, tget_wr]
  match j, hx with
  | 0, hx =>
    rw [if_neg (by omega)]
    have := rd_get h 0 u (by simp)
    simp at hx
    subst hx
    simpa using this
  | 1, hx =>
    rw [if_pos (by simp)]
    simpa using hx
  | j + 2, hx => simp at hx
end Go.Ew

namespace Go.Proofs.YtlemdiinmfneoaaGreat
open Go.Ev Go.Ew
namespace Va
section
variable (ok : EnvOk (env Tryz.prog))
include ok

theorem c7 {a : OA} {n c : Nat} {H : KH} {Q : PQ} (hu : U8 H a n) (hn : n ≤ 1000000) (hq : ∀ p H', PK H p H' → Q (.pointer (some ⟨p, 0, none⟩)) H') : Does (env Tryz.prog) 7 [.slice a n c] H Q := by
  refine fn7 ok fun n1 hn1 => hq n1 _ ⟨hn1, _, a, n, c, 0, rfl, rfl, mk_rd, by omega, hn, hu⟩

theorem c18 {K H : KH} {p : Nat} {m : Int} {Q : PQ} (hp : PK K p H) (hm : 0 < m) (hm2 : m ≤ 1000000) (hq : ∀ x H', 0 ≤ x → x < m → PK K p H' → Q (.int .i64 x) H') :
    Does (env Tryz.prog) 18 [.pointer (some ⟨p, 0, none⟩), .int .i64 m] H Q := by
  have hp' := hp
  obtain ⟨h1, e, a, n, c, j, rfl, hwr, hr, hj, hn, hu⟩ := hp
  have hld : ld (K.new p e) ⟨p, 0, none⟩ [.slice a n c, .int .i64 j] := ⟨rfl, e, by simp [KH.new], hr⟩
  refine fn18 ok ⟨trivial, rfl, j, ld_sub hld 1 1 (by simp), rfl, a, n, c, ld_sub hld 0 1 (by simp), fun h => hq 0 _ (by omega) hm hp', fun h => ?_⟩
  have h : j < n := by simpa using h
  have hw : IntKind.wrap .i64 (j + 1) = j + 1 := wrap64 (by omega) (by omega)
  have hw2 : IntKind.wrap .i64 (j + 1 - 1) = j := by rw [wrap64 (by omega) (by omega)]; omega
  refine ⟨rfl, j, ld_sub hld 1 1 (by simp), rfl, ⟨[.int .i64 j], rfl, ld_sub hld 1 1 (by simp)⟩, ⟨⟨e, by simp [KH.new], hwr⟩⟩, trivial, rfl, ?_⟩
  rw [hw, put_new]
  have hr2 := rd_two (w := .int .i64 (j + 1)) hr
  have hld2 : ld (K.new p ⟨wr e.cells (0 + 1) [.int .i64 (j + 1)], e.len, e.unk, none⟩) ⟨p, 0, none⟩ [.slice a n c, .int .i64 (j + 1)] := ⟨rfl, _, if_pos rfl, hr2⟩
  obtain ⟨j', rfl⟩ : ∃ j' : Nat, j = j' := ⟨j.toNat, by omega⟩
  obtain ⟨b, o, x, ha, hx, hx1, hx2⟩ := hu j' (by omega)
  refine ⟨a, n, c, ld_sub hld2 0 1 (by simp), rfl, (j' : Int) + 1, ld_sub hld2 1 1 (by simp), ?_⟩
  rw [hw2]
  refine ⟨⟨by omega, by omega⟩, b, o, ha, x, ?_, by omega, ?_⟩
  · have := Le.ld (Le.new h1 (e := ⟨wr e.cells (0 + 1) [.int .i64 ((j' : Int) + 1)], e.len, e.unk, none⟩)) hx
    simpa using this
  · rw [wrap64 (x := x) (by omega) (by omega), Int.tmod_eq_emod_of_nonneg hx1]
    exact hq _ _ (Int.emod_nonneg _ (by omega)) (Int.emod_lt_of_pos _ hm) ⟨h1, _, a, n, c, (j' : Int) + 1, rfl, wrB_keep hwr, hr2, by omega, hn, hu⟩
end
end Va
end Go.Proofs.YtlemdiinmfneoaaGreat

/- A row that grows while values are made. -/
set_option linter.unusedVariables false
namespace Go.Ew
open Go.Ev Go.Deep

theorem del_new {H : KH} {b : Nat} {E : Ent} (h : H b = some E) : (H.del b).new b E = H := by
  funext k
  simp only [KH.new, KH.del]
  by_cases hk : k = b
  · subst hk; simp [h]
  · simp [hk]

theorem del_self (H : KH) (b : Nat) : (H.del b) b = none := by simp [KH.del]

theorem Le.del {H H' : KH} (h : Le H H') {p : Nat} (hp : H p = Option.none) : Le H (H'.del p) := fun k e q => by
  simp only [KH.del]
  rw [if_neg (fun ek => by subst ek; rw [hp] at q; cases q)]
  exact h k e q

theorem new_new {H : KH} {a b : Nat} {x y : Ent} (h : a ≠ b) : (H.new a x).new b y = (H.new b y).new a x := by
  funext k
  simp only [KH.new]
  by_cases hk : k = a
  · subst hk; simp [h]
  · simp [hk]

/-- More is known, and the numbers are still read. -/
theorem PK.grow {K H H' : KH} {p : Nat} (h : PK K p H) (hl : Le H H') : PK (H'.del p) p H' ∧ Le K (H'.del p) := by
  have hle := h.le
  obtain ⟨h1, e, a, n, c, j, rfl, hwr, hr, hj, hn, hu⟩ := h
  have hp : H' p = some e := hl p e (by simp [KH.new])
  have hK : Le K (H'.del p) := (hle.trans hl).del h1
  exact ⟨⟨del_self _ _, e, a, n, c, j, (del_new hp).symm, hwr, hr, hj, hn, hu.mono hK⟩, hK⟩

theorem Own.at_ {H0 H : KH} {sz n c : Nat} {a : OA} {cs : List Value} (h : Own H0 H sz a n c cs) (hn : 0 < n) : ∃ b E, a = some ⟨b, 0, none⟩ ∧ H b = some E ∧ H0 b = none := by
  cases h with
  | nil => omega
  | lit b _ _ h1 h2 h3 h4 => exact ⟨b, _, rfl, h1, h4⟩
  | grown b _ _ e h1 h2 h3 h4 h5 h6 => exact ⟨b, e, rfl, h1, h5⟩

/-- It speaks of its own block only. -/
theorem Own.move {H0 H H0' H' : KH} {sz n c b o : Nat} {sp : Option Nat} {cs : List Value} (h : Own H0 H sz (some ⟨b, o, sp⟩) n c cs) (h1 : H' b = H b) (h2 : H0' b = none) : Own H0' H' sz (some ⟨b, o, sp⟩) n c cs := by
  cases h with
  | lit _ _ _ q1 q2 q3 q4 => exact .lit b n cs (by rw [h1]; exact q1) q2 q3 h2
  | grown _ _ _ e q1 q2 q3 q4 q5 q6 => exact .grown b n cs e (by rw [h1]; exact q1) q2 q3 q4 h2 q6

inductive Acc (K0 : KH) (p : Nat) (H : KH) (l : List V) : OA → Nat → Nat → Prop where
  | nil (K : KH) (h1 : PK K p H) (h2 : Le K0 K) (h3 : l = []) : Acc K0 p H l none 0 0
  | own (K : KH) (b : Nat) (E : Ent) (c : Nat) (cs : List Value) (h1 : PK K p (H.del b)) (h2 : Le K0 K) (h3 : H b = some E) (h4 : Own (H.del b) H 4 (some ⟨b, 0, none⟩) l.length c cs) (h5 : RC K l cs) : Acc K0 p H l (some ⟨b, 0, none⟩) l.length c

theorem Acc.len {K0 H : KH} {p : Nat} {l : List V} {a : OA} {n c : Nat} (h : Acc K0 p H l a n c) : n = l.length := by
  cases h with
  | nil K h1 h2 h3 => subst h3; rfl
  | own => rfl

/-- What it is in the end. -/
theorem Acc.out {K0 H : KH} {p : Nat} {l : List V} {a : OA} {n c : Nat} (h : Acc K0 p H l a n c) : ∃ K', PK K' p H ∧ Le K0 K' ∧ RS K' l a ∧ SlOk K' 4 a l.length c := by
  cases h with
  | nil K h1 h2 h3 => subst h3; exact ⟨K, h1, h2, rfl, rfl⟩
  | own K b E c cs h1 h2 h3 h4 h5 =>
    have g := h1.grow (del_le H b)
    have hbp : b ≠ p := fun e => by
      subst e
      obtain ⟨_, e, _, _, _, _, q, _⟩ := h1
      have q1 := del_self H b
      rw [q] at q1
      simp [KH.new] at q1
    have hb6 : (H.del p) b = H b := by simp only [KH.del, if_neg hbp]
    have h6 : Own (H.del b) (H.del p) 4 (some ⟨b, 0, none⟩) l.length c cs := h4.move hb6 (del_self _ _)
    exact ⟨_, g.1, h2.trans g.2, RS.of_cells h6.cells (h5.mono g.2), h6.ok (by decide)⟩
end Go.Ew

namespace Go.Proofs.YtlemdiinmfneoaaGreat
open Go.Ev Go.Ew
namespace Va

/-- One more. -/
theorem Acc.more {K0 K1 H0 H : KH} {p : Nat} {l : List V} {v : V} {a : OA} {n c nm : Nat} {cs cv : List Value} (hn : n = l.length) (hp : PK K1 p H0) (hk : Le K0 K1) (ho : Own H0 H 4 a n c cs) (hle : Le H0 H)
    (hrc : RC K1 l cs) (hv : RV K1 v cv) (hnm : H nm = none) (hl : l.length ≤ 1000) :
    ∃ a' c' H', kappend H nm VT a n c 1 cv = some (.slice a' (n + 1) c', H') ∧ Acc K0 p H' (l ++ [v]) a' (n + 1) c' := by
  subst hn
  obtain ⟨a', c', H', h1, h2, h3, _, _⟩ := Own.append (ti := VT) (m := 1) (new := cv) ho hle hnm (hv.len) (by omega) (by decide) (by decide)
  refine ⟨a', c', H', h1, ?_⟩
  obtain ⟨b, E, rfl, hb, hb0⟩ := h2.at_ (by omega)
  have hlb : Le H0 (H'.del b) := h3.del hb0
  have g := hp.grow hlb
  have hlen : l.length + 1 = (l ++ [v]).length := by simp
  have h2' : Own (H'.del b) H' 4 (some ⟨b, 0, none⟩) (l.length + 1) c' (cs ++ cv) := h2.move rfl (del_self _ _)
  rw [hlen] at h2' ⊢
  exact .own _ b E c' _ g.1 (hk.trans g.2) hb h2' ((hrc.append (RC.one hv)).mono g.2)

def P17 (d : Nat) : Prop := ∀ (K H : KH) (p : Nat) (Q : PQ), PK K p H →
  (∀ v cs K' H', PK K' p H' → Le K K' → RV K' v cs → szV v ≤ 3 * 4 ^ d ∧ Fit v → Q (.agg cs.toArray) H') → Does (env Tryz.prog) 17 [.pointer (some ⟨p, 0, none⟩), .int .i64 d] H Q

theorem Acc.step {d : Nat} (ih : P17 d) {K0 H : KH} {p : Nat} {l : List V} {a : OA} {n c : Nat} {Q : PQ} (h : Acc K0 p H l a n c) (hl : l.length ≤ 1000)
    (hq : ∀ k i s ax nx cx v H2, szV v ≤ 3 * 4 ^ d ∧ Fit v →
      (∀ n9 n10, H2 n9 = none → (H2.new n9 (mkEnt [.int .i64 k, .int .i64 i, .string s, .slice ax nx cx] 0)) n10 = none →
        ∃ a' c' H16, kappend (H2.new n9 (mkEnt [.int .i64 k, .int .i64 i, .string s, .slice ax nx cx] 0)) n10 VT a n c 1 [.int .i64 k, .int .i64 i, .string s, .slice ax nx cx] = some (.slice a' (n + 1) c', H16) ∧ Acc K0 p H16 (l ++ [v]) a' (n + 1) c') →
      Q (.agg #[.int .i64 k, .int .i64 i, .string s, .slice ax nx cx]) H2) :
    Does (env Tryz.prog) 17 [.pointer (some ⟨p, 0, none⟩), .int .i64 d] H Q := by
  cases h with
  | nil K h1 h2 h3 =>
    subst h3
    refine ih K H p _ h1 fun v cs K' H' q1 q2 q3 q4 => ?_
    have q3' := q3
    obtain ⟨k, i, s, lv⟩ := v
    obtain ⟨ax, nx, cx, rfl, _⟩ := q3
    refine hq k i s ax nx cx (.mk k i s lv) H' q4 fun n9 n10 hn9 hn10 => ?_
    have g := q1.grow (Le.new hn9 (e := mkEnt [.int .i64 k, .int .i64 i, .string s, .slice ax nx cx] 0))
    exact Acc.more (l := []) rfl g.1 ((h2.trans q2).trans g.2) .nil (Le.refl _) rfl (q3'.mono g.2) hn10 (by simp)
  | own K b E c cs h1 h2 h3 h4 h5 =>
    rw [← del_new h3]
    refine Does.frame (del_self _ _) (ih K (H.del b) p _ h1 fun v cv K' H' q1 q2 q3 q4 hb => ?_)
    have q3' := q3
    obtain ⟨k, i, s, lv⟩ := v
    obtain ⟨ax, nx, cx, rfl, _⟩ := q3
    refine hq k i s ax nx cx (.mk k i s lv) _ q4 fun n9 n10 hn9 hn10 => ?_
    have hb9 : b ≠ n9 := fun e => by subst e; simp [KH.new] at hn9
    have hn9' : H' n9 = none := (Le.new hb).none hn9
    have g := q1.grow (Le.new hn9' (e := mkEnt [.int .i64 k, .int .i64 i, .string s, .slice ax nx cx] 0))
    have hb' : (H'.new n9 (mkEnt [.int .i64 k, .int .i64 i, .string s, .slice ax nx cx] 0)) b = none := by simp [KH.new, hb9, hb]
    rw [new_new hb9] at hn10 ⊢
    have hb2 : ((H'.new n9 (mkEnt [.int .i64 k, .int .i64 i, .string s, .slice ax nx cx] 0)).new b E) b = H b := by rw [h3]; exact if_pos rfl
    exact Acc.more (l := l) rfl g.1 ((h2.trans q2).trans g.2) (h4.move hb2 hb') (Le.new hb') (h5.mono (q2.trans g.2)) (q3'.mono g.2) hn10 hl

section
variable (ok : EnvOk (env Tryz.prog))
include ok

theorem c31 {d : Nat} (ih : P17 d) (hd : d ≤ 6) {K H : KH} {p : Nat} {Q : PQ} (hp : PK K p H)
    (hq : ∀ l a c K' H', PK K' p H' → Le K K' → RS K' l a → SlOk K' 4 a l.length c → szL l ≤ 3 * (3 * 4 ^ d) ∧ (∀ x ∈ l, Fit x) → l.length ≤ 3 → Q (.slice a l.length c) H') :
    Does (env Tryz.prog) 31 [.pointer (some ⟨p, 0, none⟩), .int .i64 (d + 1 : Nat)] H Q := by
  refine fn31 ok (c18 ok hp (by omega) (by omega) fun x H' hx1 hx2 hp' => ⟨x, rfl, ?_⟩)
  unfold vc31_L1
  refine ⟨fun n3 n4 n5 x6 a7 n8 n9 x10 H11 => n4 = p ∧ n5 = 0 ∧ x6 = (d + 1 : Nat) ∧ 0 ≤ x10 ∧ n3 = x10.toNat ∧ ∃ l, Acc K p H11 l a7 n8 n9 ∧ l.length + x10.toNat ≤ 3 ∧ szL l ≤ l.length * (3 * 4 ^ d) ∧ ∀ x ∈ l, Fit x,
    ⟨x.toNat, rfl, rfl, rfl, rfl, hx1, rfl, [], .nil K hp' (Le.refl _) rfl, by simp; omega, by simp [szL], by simp⟩, ?_⟩
  rintro n3 n4 n5 x6 a7 n8 n9 x10 H11 ⟨rfl, rfl, rfl, hx, rfl, l, hacc, hlx, hsz, hfit⟩
  refine ⟨fun hpos => ?_, fun hz => ?_⟩
  · have hpos : 0 < x10 := by simpa using hpos
    have hw : IntKind.wrap .i64 (((d + 1 : Nat) : Int) - 1) = (d : Int) := by rw [wrap64 (by omega) (by omega)]; omega
    have hw2 : IntKind.wrap .i64 (x10 - 1) = x10 - 1 := wrap64 (by omega) (by omega)
    rw [hw, hw2]
    refine Acc.step ih hacc (by omega) fun k i s ax nx cx v H2 hv happ => ⟨k, i, s, ax, nx, cx, rfl, fun n9 hn9 n10 hn10 => ?_⟩
    obtain ⟨a', c', H16, e1, e2⟩ := happ n9 n10 hn9 hn10
    have hk9 : kold (H2.new n9 (mkEnt [.int .i64 k, .int .i64 i, .string s, .slice ax nx cx] 0)) 4 (some ⟨n9, 0, none⟩) 1 = some [.int .i64 k, .int .i64 i, .string s, .slice ax nx cx] :=
      kold_some.2 ⟨mkEnt [.int .i64 k, .int .i64 i, .string s, .slice ax nx cx] 0, if_pos rfl, mk_rd⟩
    refine ⟨1, _, knew_of hk9, a', _, c', H16, e1, (x10 - 1).toNat, by omega, rfl, rfl, rfl, rfl, by omega, rfl, l ++ [v], e2, by simp; omega, ?_, fun x hx => (List.mem_append.1 hx).elim (hfit x) fun q => (by simpa using q : x = v) ▸ hv.2⟩
    have hv := hv.1
    rw [szL_app, List.length_append]
    simp only [szL, List.length_cons, List.length_nil, Nat.add_mul, Nat.zero_add, Nat.one_mul]
    omega
  · obtain ⟨K', g1, g2, g3, g4⟩ := hacc.out
    have hn := hacc.len
    subst hn
    refine hq l a7 n9 K' H11 g1 g2 g3 g4 ⟨?_, hfit⟩ (by omega)
    have : l.length * (3 * 4 ^ d) ≤ 3 * (3 * 4 ^ d) := Nat.mul_le_mul_right _ (by omega)
    omega
end
end Va
end Go.Proofs.YtlemdiinmfneoaaGreat

/- The play makes values. -/
set_option linter.unusedVariables false
namespace Go.Proofs.YtlemdiinmfneoaaGreat
open Go.Ev Go.Ew
namespace Va

abbrev emp : ByteArray := ByteArray.mk #[]

theorem leaf {K : KH} {k i : Int} {s : ByteArray} : RV K (.mk k i s []) [.int .i64 k, .int .i64 i, .string s, .slice none 0 0] := ⟨none, 0, 0, rfl, rfl, rfl, rfl⟩

theorem lit_get {K : KH} {n j : Nat} {cs : List Value} {v : Value} (h : K n = some (mkEnt cs 0)) (hj : cs[j]? = some v) : ld K ⟨n, 0 + j * 1, none⟩ [v] := by
  refine ⟨rfl, _, h, rd_some rfl fun i w hw => ?_⟩
  match i, hw with
  | 0, hw =>
    simp at hw
    subst hw
    simp only [mkEnt, tget_wr_nil]
    rw [← hj]
    congr 1
    omega
  | i + 1, hw => simp at hw

theorem szL_ins (x : V) : ∀ l : List V, szL (insV x l) ≤ szL l + szV x
  | [] => by simp [insV, szL]
  | y :: l => by
    have := szL_ins x l
    simp only [insV]
    split
    · simp only [szL]; omega
    · split
      · simp only [szL]; omega
      · simp only [szL]; omega

theorem find_le (s : ByteArray) : ∀ l : List V, (findV s l).1 ≤ l.length
  | [] => by simp [findV]
  | y :: l => by
    have := find_le s l
    simp only [findV]
    split
    · simp only [List.length_cons]; omega
    · simp

section
variable (ok : EnvOk (env Tryz.prog))
include ok

theorem l12a {K H : KH} {p : Nat} {l : List V} {a : OA} {c : Nat} {Q : PQ} (hp : PK K p H) (hl : RS K l a) (hn : l.length ≤ 1000) (hsz : szL l ≤ 60000) (hf : ∀ x ∈ l, Fit x)
    (hq : ∀ m a' c' K' H', PK K' p H' → Le K K' → RS K' m a' → SlOk K' 4 a' m.length c' → szL m ≤ szL l ∧ Srt m ∧ (∀ x ∈ m, Fit x) → Q (.agg #[.int .i64 5, .int .i64 0, .string emp, .slice a' m.length c']) H') : vc17_L1 a l.length c H Q := by
  unfold vc17_L1
  refine ⟨fun n3 x4 x5 s6 a7 n8 n9 x10 x11 s12 a13 n14 n15 a16 n17 n18 x19 H20 => x10 = 5 ∧ x11 = 0 ∧ s12 = emp ∧ a16 = a ∧ n17 = l.length ∧ ∃ (K' : KH) (m : List V) (j : Nat), PK K' p H20 ∧ Le K K' ∧ RS K' m a13 ∧ SlOk K' 4 a13 m.length n15 ∧ n14 = m.length ∧
    szL m ≤ szTo l j ∧ (Srt m ∧ ∀ x ∈ m, Fit x) ∧ x19 = j ∧ j ≤ l.length ∧ n3 = l.length - j, ⟨l.length, rfl, rfl, rfl, rfl, rfl, K, [], 0, hp, Le.refl _, rfl, rfl, rfl, by simp [szL, szTo], ⟨by simp [Srt], by simp⟩, rfl, by omega, by omega⟩, ?_⟩
  rintro n3 x4 x5 s6 a7 n8 n9 x10 x11 s12 a13 n14 n15 a16 n17 n18 x19 H20 ⟨rfl, rfl, rfl, rfl, rfl, K', m, j, hpk, hle, hm, hok, rfl, hs, hgd, rfl, hj, rfl⟩
  have hto := szTo_le l j
  refine ⟨fun hlt => ?_, fun hge => hq m a13 n15 K' H20 hpk hle hm hok ⟨by omega, hgd⟩⟩
  have hlt : j < l.length := by simpa using hlt
  have hx : l[j]? = some l[j] := by simp [hlt]
  obtain ⟨b, o, ha, cy, hld, hrv⟩ := RS.get (hl.mono hle) hx
  have hsc := szTo_succ l j _ hx
  have hto2 := szTo_le l (j + 1)
  have hld' := hpk.le.ld hld
  have hrv' := hrv
  have hfy := hf _ (List.getElem_mem hlt)
  generalize hyv : l[j] = y at *
  obtain ⟨k1, i1, s1, ly⟩ := y
  obtain ⟨ay, ny, cy', rfl, rfl, hsy, hoy⟩ := hrv
  refine ⟨trivial, ⟨by omega, by omega⟩, b, o, ha, k1, i1, s1, ay, ly.length, cy', by simpa using hld', ?_⟩
  obtain ⟨h1, e, ua, un, uc, uj, rfl, hwr, hr, hj0, hn0, hu⟩ := hpk
  have hins := szL_ins (.mk k1 i1 s1 ly) m
  refine Does.frame h1 (c32 ok hm hok hrv' (by omega) (by omega) fun a' c' K2 mine hb => ⟨a', _, c', rfl, trivial, trivial, l.length - (j + 1), by omega, rfl, rfl, rfl, rfl, rfl, K2, _, j + 1,
    ⟨hb, e, ua, un, uc, uj, rfl, hwr, hr, hj0, hn0, hu.mono mine.le⟩, hle.trans mine.le, mine.row, mine.cut, rfl, by omega, ⟨srt_ins _ hgd.1, fun z hz => (mem_ins hz).elim (fun e => e ▸ hfy) (hgd.2 z)⟩, ?_, by omega, rfl⟩)
  rw [wrap64 (by omega) (by omega)]; omega

theorem l12b {d : Nat} (ih : P17 d) (hd : d ≤ 6) {K H : KH} {p : Nat} {x : Int} {Q : PQ} (hp : PK K p H) (hx1 : 0 ≤ x) (hx2 : x < 3)
    (hq : ∀ m a' c' K' H', PK K' p H' → Le K K' → RS K' m a' → SlOk K' 4 a' m.length c' → szL m ≤ 2 * (2 + 3 * 4 ^ d) ∧ Prs m → Q (.agg #[.int .i64 6, .int .i64 0, .string emp, .slice a' m.length c']) H') : vc17_L3 p 0 (d + 1 : Nat) x H Q := by
  unfold vc17_L3
  refine ⟨fun n3 n4 n5 x6 x7 x8 s9 a10 n11 n12 x13 x14 s15 a16 n17 n18 x19 H20 => n4 = p ∧ n5 = 0 ∧ x6 = (d + 1 : Nat) ∧ x13 = 6 ∧ x14 = 0 ∧ s15 = emp ∧ 0 ≤ x19 ∧ n3 = x19.toNat ∧ ∃ (K' : KH) (m : List V), PK K' p H20 ∧ Le K K' ∧ RS K' m a16 ∧ SlOk K' 4 a16 m.length n18 ∧ n17 = m.length ∧
    m.length + x19.toNat ≤ 2 ∧ szL m ≤ m.length * (2 + 3 * 4 ^ d) ∧ Prs m, ⟨x.toNat, rfl, rfl, rfl, rfl, rfl, rfl, rfl, hx1, rfl, K, [], hp, Le.refl _, rfl, rfl, rfl, by simp; omega, by simp [szL], ⟨by simp [KR], by simp, by simp, by simp⟩⟩, ?_⟩
  rintro n3 n4 n5 x6 x7 x8 s9 a10 n11 n12 x13 x14 s15 a16 n17 n18 x19 H20 ⟨rfl, rfl, rfl, rfl, rfl, rfl, hx0, rfl, K', m, hpk, hle, hm, hok, rfl, hml, hsz, hprs⟩
  refine ⟨fun hpos => ?_, fun hz => hq m a16 n18 K' H20 hpk hle hm hok ⟨?_, hprs⟩⟩
  · have hpos : 0 < x19 := by simpa using hpos
    have hw : IntKind.wrap .i64 (((d + 1 : Nat) : Int) - 1) = (d : Int) := by rw [wrap64 (by omega) (by omega)]; omega
    have hw2 : IntKind.wrap .i64 (x19 - 1) = x19 - 1 := wrap64 (by omega) (by omega)
    rw [hw, hw2]
    intro n1 hn1
    have g := hpk.grow (Le.new hn1 (e := mkEnt [.string (ByteArray.mk #[97]), .string (ByteArray.mk #[98]), .string (ByteArray.mk #[99])] 0))
    have hn1p : n1 ≠ n4 := fun e => by
      subst e
      obtain ⟨_, e, _, _, _, _, q, _⟩ := hpk
      rw [q] at hn1
      simp [KH.new] at hn1
    refine c18 ok g.1 (by omega) (by omega) fun y H3 hy1 hy2 hp3 => ⟨y, rfl, ⟨hy1, hy2⟩, n1, 0, rfl, ?_⟩
    obtain ⟨s, hs, hs1⟩ : ∃ s : ByteArray, ([.string (ByteArray.mk #[97]), .string (ByteArray.mk #[98]), .string (ByteArray.mk #[99])] : List Value)[y.toNat]? = some (.string s) ∧ s.size = 1 := by
      have h3 : y.toNat = 0 ∨ y.toNat = 1 ∨ y.toNat = 2 := by omega
      rcases h3 with q | q | q <;> rw [q]
      · exact ⟨_, rfl, rfl⟩
      · exact ⟨_, rfl, rfl⟩
      · exact ⟨_, rfl, rfl⟩
    have hlit : ((H20.new n1 (mkEnt [.string (ByteArray.mk #[97]), .string (ByteArray.mk #[98]), .string (ByteArray.mk #[99])] 0)).del n4) n1 = some (mkEnt [.string (ByteArray.mk #[97]), .string (ByteArray.mk #[98]), .string (ByteArray.mk #[99])] 0) := by
      simp only [KH.del, KH.new, if_neg hn1p, if_true]
    refine ⟨s, hp3.le.ld (lit_get hlit hs), ?_⟩
    have hfl := find_le s m
    refine c33 ok ((hm.mono g.2).mono hp3.le) (by omega) ⟨_, _, rfl, fun hb => ⟨trivial, ?_⟩, fun hb => ?_⟩
    · have hput := fun (v : V) (hv : Fit v) => hprs.put (s := s) hv (by simpa using hb)
      generalize (findV s m).1 = j at *
      refine ih _ H3 n4 _ hp3 fun v cv K13 H13 q1 q2 q3 q4 => ?_
      have q3' := q3
      obtain ⟨k, i, sv, lv⟩ := v
      obtain ⟨ax, nx, cx, rfl, _⟩ := q3
      refine ⟨k, i, sv, ax, nx, cx, rfl, ⟨rfl, trivial⟩, fun n20 hn20 => ⟨trivial, trivial, fun n21 hn21 => ?_⟩⟩
      generalize hvv : V.mk k i sv lv = v at *
      have leR := q1.le.trans (Le.new hn20 (e := mkEnt [.int .i64 3, .int .i64 0, .string s, .slice none 0 0, .int .i64 k, .int .i64 i, .string sv, .slice ax nx cx] 0))
      have hR20 : (H13.new n20 (mkEnt [.int .i64 3, .int .i64 0, .string s, .slice none 0 0, .int .i64 k, .int .i64 i, .string sv, .slice ax nx cx] 0)) n20 = some (mkEnt [.int .i64 3, .int .i64 0, .string s, .slice none 0 0, .int .i64 k, .int .i64 i, .string sv, .slice ax nx cx] 0) := if_pos rfl
      have leH13 := Le.new hn20 (e := mkEnt [.int .i64 3, .int .i64 0, .string s, .slice none 0 0, .int .i64 k, .int .i64 i, .string sv, .slice ax nx cx] 0)
      generalize hR : H13.new n20 (mkEnt [.int .i64 3, .int .i64 0, .string s, .slice none 0 0, .int .i64 k, .int .i64 i, .string sv, .slice ax nx cx] 0) = R at *
      obtain ⟨cs, hcs, hrc⟩ := ((hm.mono g.2).mono q2).cells
      obtain ⟨aL, cL, hL1, hL2⟩ := cut_lo (((hok.mono g.2).mono q2).mono leR) (leR.kold hcs) hfl
      obtain ⟨aR, cR, hR1, hR2⟩ := cut_hi (((hok.mono g.2).mono q2).mono leR) (leR.kold hcs) hfl
      have hlen := kold_len hcs
      refine ⟨aL, j, cL, (Le.new hn21).kslice hL1, fun n25 hn25 => ⟨aR, m.length - j, cR, ((Le.new hn21).trans (Le.new hn25)).kslice hR1, fun n29 hn29 => ?_⟩⟩
      have h59 : n25 ≠ n29 := fun e => by subst e; simp [KH.new] at hn29
      rw [hide_new hn25]
      refine ⟨j, _, knew_of ((Le.new hn21).kold hL2), ?_⟩
      obtain ⟨a12, c17, H15, hap, hown, hle15, _, hnn⟩ := Own.append (ti := VT) (H0 := R) (H := KH.new R n21 (mkEnt [] 0)) (nm := n29) (new := cs.take (j * 4)) (m := j)
        (.lit n21 0 [] (by simp [KH.new]) rfl (by decide) hn21) (Le.new hn21) (Le.none (Le.new hn25) hn29) (by simp only [List.length_take]; omega) (by omega) (by decide) (by decide)
      have h15 : H15 n25 = none := hnn n25 hn25 h59
      have leA : Le H15 (H15.new n25 (mkEnt [.int .i64 4, .int .i64 0, .string emp, .slice (some ⟨n20, 0, none⟩) 2 2] 0)) := Le.new h15
      refine ⟨a12, 0 + j, c17, H15, hap, fun _ => ?_⟩
      rw [back_new]
      refine ⟨⟨rfl, ⟨rfl, rfl⟩, rfl, rfl, ⟨aR, _, cR, (hle15.trans leA).kslice hR1, rfl⟩, trivial⟩, fun n39 hn39 => ?_⟩
      obtain ⟨a22, c33, H25, hap2, hown2, hle2, _, _⟩ := Own.append (ti := VT) (H0 := R) (nm := n39) (new := [.int .i64 4, .int .i64 0, .string emp, .slice (some ⟨n20, 0, none⟩) 2 2]) (m := 1)
        (hown.mono leA) (hle15.trans leA) hn39 rfl (by omega) (by decide) (by decide)
      have hk5 : kold (H15.new n25 (mkEnt [.int .i64 4, .int .i64 0, .string emp, .slice (some ⟨n20, 0, none⟩) 2 2] 0)) 4 (some ⟨n25, 0, none⟩) 1 = some [.int .i64 4, .int .i64 0, .string emp, .slice (some ⟨n20, 0, none⟩) 2 2] :=
        kold_some.2 ⟨mkEnt [.int .i64 4, .int .i64 0, .string emp, .slice (some ⟨n20, 0, none⟩) 2 2] 0, if_pos rfl, mk_rd⟩
      refine ⟨1, _, knew_of hk5, a22, _, c33, H25, hap2, ⟨⟨rfl, rfl⟩, rfl, rfl, ⟨aR, _, cR, hle2.kslice hR1, rfl⟩, trivial⟩, fun n49 hn49 => ?_⟩
      refine ⟨m.length - j, _, knew_of (hle2.kold hR2), ?_⟩
      obtain ⟨a32, c37, H35, hap3, hown3, hle3, _, _⟩ := Own.append (ti := VT) (H0 := R) (nm := n49) (new := cs.drop (j * 4)) (m := m.length - j)
        hown2 hle2 hn49 (by simp only [List.length_drop]; omega) (by omega) (by decide) (by decide)
      refine ⟨a32, _, c37, H35, hap3, trivial, trivial, (x19 - 1).toNat, by omega, rfl, rfl, rfl, rfl, rfl, rfl, rfl, by omega, rfl, ?_⟩
      have g2 := q1.grow (leH13.trans hle3)
      have hl2 : (m.take j ++ V.mk 4 0 emp [.mk 3 0 s [], v] :: m.drop j).length = 0 + j + 1 + (m.length - j) := by simp only [List.length_append, List.length_cons, List.length_take, List.length_drop]; omega
      have hl3 : (m.take j ++ V.mk 4 0 emp [.mk 3 0 s [], v] :: m.drop j).length = m.length + 1 := by rw [hl2]; omega
      have hRp : R n4 ≠ none := by
        obtain ⟨_, e, _, _, _, _, q, _⟩ := q1
        have : H13 n4 = some e := by rw [q]; exact if_pos rfl
        rw [leH13 _ _ this]
        simp
      have h20p : n20 ≠ n4 := fun e => by
        subst e
        obtain ⟨_, e, _, _, _, _, q, _⟩ := q1
        rw [q] at hn20
        simp [KH.new] at hn20
      have hown4 : Own (fun _ => none) (H35.del n4) 4 a32 (0 + j + 1 + (m.length - j)) c37 ([] ++ cs.take (j * 4) ++ [.int .i64 4, .int .i64 0, .string emp, .slice (some ⟨n20, 0, none⟩) 2 2] ++ cs.drop (j * 4)) := by
        obtain ⟨b, E, rfl, hb, hb0⟩ := hown3.at_ (by omega)
        have hbp : b ≠ n4 := fun e => by subst e; exact hRp hb0
        exact hown3.move (by simp only [KH.del, if_neg hbp]) rfl
      have h20 : (H35.del n4) n20 = some (mkEnt [.int .i64 3, .int .i64 0, .string s, .slice none 0 0, .int .i64 k, .int .i64 i, .string sv, .slice ax nx cx] 0) := by
        simp only [KH.del, if_neg h20p]
        exact hle3 _ _ hR20
      have hown20 : Own (fun _ => none) (H35.del n4) 4 (some ⟨n20, 0, none⟩) 2 2 [.int .i64 3, .int .i64 0, .string s, .slice none 0 0, .int .i64 k, .int .i64 i, .string sv, .slice ax nx cx] := .lit n20 2 _ h20 rfl (by decide) rfl
      have hpair : RV (H35.del n4) (V.mk 4 0 emp [.mk 3 0 s [], v]) [.int .i64 4, .int .i64 0, .string emp, .slice (some ⟨n20, 0, none⟩) 2 2] :=
        ⟨_, _, _, rfl, rfl, RS.of_cells hown20.cells (RC.append (l := [.mk 3 0 s []]) (m := [v]) (RC.one leaf) (RC.one (q3'.mono g2.2))), hown20.ok (by decide)⟩
      have hc := (hrc.mono g2.2).cut j
      have h3 := (RC.append hc.1 (RC.one hpair)).append hc.2
      rw [← hl2] at hown4
      refine ⟨_, _, g2.1, (hle.trans g.2).trans (q2.trans g2.2), RS.of_cells hown4.cells (by simpa using h3), hown4.ok (by decide), hl2.symm, by rw [hl3]; omega, ?_, hput v q4.2⟩
      have q4 := q4.1
      rw [hl3, szL_app]
      have htd : szL (m.take j) + szL (m.drop j) = szL m := by rw [← szL_app, List.take_append_drop]
      have he : emp.size = 0 := rfl
      simp only [szL, szV, he, hs1, Nat.add_mul, Nat.one_mul]
      generalize m.length * (2 + 3 * 4 ^ d) = X at *
      generalize 3 * 4 ^ d = B at *
      omega
    · refine ⟨(x19 - 1).toNat, by omega, rfl, rfl, rfl, rfl, rfl, rfl, rfl, by omega, rfl, _, m, hp3, hle.trans g.2, hm.mono g.2, hok.mono g.2, rfl, by omega, hsz, hprs⟩
  · have : m.length * (2 + 3 * 4 ^ d) ≤ 2 * (2 + 3 * 4 ^ d) := Nat.mul_le_mul_right _ (by omega)
    omega
end
end Va
end Go.Proofs.YtlemdiinmfneoaaGreat

/- The play makes values: Val. -/
set_option linter.unusedVariables false
namespace Go.Proofs.YtlemdiinmfneoaaGreat
open Go.Ev Go.Ew
namespace Va

abbrev texts : List Value := [.string (ByteArray.mk #[]), .string (ByteArray.mk #[97]), .string (ByteArray.mk #[98]), .string (ByteArray.mk #[97, 98]), .string (ByteArray.mk #[97, 45, 116, 101, 120, 116, 45, 111, 102, 45, 50, 49, 45, 98, 121, 116, 101, 115, 45, 120, 120])]

theorem texts_get (j : Nat) (h : j < 5) : ∃ s : ByteArray, texts[j]? = some (.string s) ∧ s.size ≤ 21 := by
  have h3 : j = 0 ∨ j = 1 ∨ j = 2 ∨ j = 3 ∨ j = 4 := by omega
  rcases h3 with q | q | q | q | q <;> rw [q] <;> exact ⟨_, rfl, by decide⟩

abbrev ints : List Value := [.int .i64 0, .int .i64 1, .int .i64 2, .int .i64 (-1), .int .i64 7, .int .i64 9223372036854775807, .int .i64 (-9223372036854775808)]

theorem ints_get (j : Nat) (h : j < 7) : ∃ x : Int, ints[j]? = some (.int .i64 x) ∧ -9223372036854775808 ≤ x ∧ x ≤ 9223372036854775807 := by
  have h3 : j = 0 ∨ j = 1 ∨ j = 2 ∨ j = 3 ∨ j = 4 ∨ j = 5 ∨ j = 6 := by omega
  rcases h3 with q | q | q | q | q | q | q <;> rw [q] <;> exact ⟨_, rfl, by decide, by decide⟩

theorem PK.fresh {K H : KH} {p n : Nat} {E : Ent} (h : PK K p H) (hn : H n = none) : PK ((H.new n E).del p) p (H.new n E) ∧ Le K ((H.new n E).del p) ∧ ((H.new n E).del p) n = some E := by
  have g := h.grow (Le.new hn (e := E))
  refine ⟨g.1, g.2, ?_⟩
  have hnp : n ≠ p := fun e => by
    subst e
    obtain ⟨_, e, _, _, _, _, q, _⟩ := h
    rw [q] at hn
    simp [KH.new] at hn
  simp only [KH.del, KH.new, if_neg hnp, if_true]

section
variable (ok : EnvOk (env Tryz.prog))
include ok

theorem c17_of {d : Nat} (hd : d ≤ 7) (hrec : 0 < d → ∃ d', d = d' + 1 ∧ d' ≤ 5 ∧ P17 d') : P17 d := by
  intro K H p Q hp hq
  have hpow : 1 ≤ 4 ^ d := Nat.one_le_pow _ _ (by omega)
  have he : emp.size = 0 := rfl
  refine fn17 ok (c18 ok hp (by omega) (by omega) fun x H2 hx1 hx2 hp2 => ⟨x, rfl, fun h => ?_, fun h3 => ⟨fun h => ?_, fun h4 => ⟨fun h => ?_, fun h5 => ⟨fun h => ?_, fun h6 => ?_⟩⟩⟩⟩)
  · intro n4 hn4
    obtain ⟨g1, g2, g3⟩ := PK.fresh (E := mkEnt ints 0) hp2 hn4
    refine c18 ok g1 (by omega) (by omega) fun y H6 hy1 hy2 hp6 => ⟨y, rfl, ⟨hy1, hy2⟩, n4, 0, rfl, ?_⟩
    obtain ⟨z, hz, hz1, hz2⟩ := ints_get y.toNat (by omega)
    exact ⟨z, hp6.le.ld (lit_get g3 hz), hq (.mk 1 z emp []) _ _ H6 hp6 g2 leaf ⟨by simp only [szV, szL, he]; omega, Fit.num hz1 hz2⟩⟩
  · exact c18 ok hp2 (by omega) (by omega) fun y H6 hy1 hy2 hp6 => ⟨y, rfl, hq (.mk 2 y emp []) _ _ H6 hp6 (Le.refl _) leaf ⟨by simp only [szV, szL, he]; omega, Fit.bool hy1 hy2⟩⟩
  · intro n4 hn4
    obtain ⟨g1, g2, g3⟩ := PK.fresh (E := mkEnt texts 0) hp2 hn4
    refine c18 ok g1 (by omega) (by omega) fun y H6 hy1 hy2 hp6 => ⟨y, rfl, ⟨hy1, hy2⟩, n4, 0, rfl, ?_⟩
    obtain ⟨z, hz, hz2⟩ := texts_get y.toNat (by omega)
    exact ⟨z, hp6.le.ld (lit_get g3 hz), hq (.mk 3 0 z []) _ _ H6 hp6 g2 leaf ⟨by simp only [szV, szL]; omega, Fit.str⟩⟩
  · intro n4 hn4
    obtain ⟨g1, g2, g3⟩ := PK.fresh (E := mkEnt texts 0) hp2 hn4
    refine c18 ok g1 (by omega) (by omega) fun y H6 hy1 hy2 hp6 => ⟨y, rfl, ⟨hy1, hy2⟩, n4, 0, rfl, ?_⟩
    obtain ⟨z, hz, hz2⟩ := texts_get y.toNat (by omega)
    exact ⟨z, hp6.le.ld (lit_get g3 hz), hq (.mk 3 0 z []) _ _ H6 hp6 g2 leaf ⟨by simp only [szV, szL]; omega, Fit.str⟩⟩
  · have hd0 : ¬ (d : Int) = 0 := by simpa using h6
    obtain ⟨d', rfl, hd', ih⟩ := hrec (by omega)
    have hpow' : 1 ≤ 4 ^ d' := Nat.one_le_pow _ _ (by omega)
    have hpe : 4 ^ (d' + 1) = 4 * 4 ^ d' := by rw [Nat.pow_succ, Nat.mul_comm]
    have hpb : 4 ^ d' ≤ 4 ^ 5 := Nat.pow_le_pow_right (by omega) hd'
    rw [hpe] at hq
    have hpb2 : 4 ^ d' ≤ 1024 := hpb
    refine ⟨fun h => ?_, fun h7 => ⟨fun h => ?_, fun h8 => ?_⟩⟩
    · refine c31 ok ih (by omega) hp2 fun l a c K' H' q1 q2 q3 q4 q5 q6 => ⟨a, _, c, rfl, hq (.mk 4 0 emp l) _ K' H' q1 q2 ⟨a, _, c, rfl, rfl, q3, q4⟩ ⟨?_, Fit.list q5.2⟩⟩
      simp only [szV, he]
      omega
    · refine c31 ok ih (by omega) hp2 fun l a c K' H' q1 q2 q3 q4 q5 q6 => ⟨a, _, c, rfl, l12a ok q1 q3 (by omega) (by omega) q5.2 fun m a' c' K2 H2' r1 r2 r3 r4 r5 => ?_⟩
      refine hq (.mk 5 0 emp m) _ K2 H2' r1 (q2.trans r2) ⟨a', _, c', rfl, rfl, r3, r4⟩ ⟨?_, Fit.set r5.2.2 r5.2.1⟩
      simp only [szV, he]
      omega
    · refine c18 ok hp2 (by omega) (by omega) fun y H6 hy1 hy2 hp6 => ⟨y, rfl, l12b ok ih (by omega) hp6 hy1 hy2 fun m a' c' K2 H2' r1 r2 r3 r4 r5 => ?_⟩
      refine hq (.mk 6 0 emp m) _ K2 H2' r1 r2 ⟨a', _, c', rfl, rfl, r3, r4⟩ ⟨?_, Fit.env r5.2⟩
      simp only [szV, he]
      omega

/-- Val makes a value, and not a big one. -/
theorem c17 : ∀ d : Nat, d ≤ 6 → P17 d
  | 0, _ => c17_of ok (by omega) fun h => absurd h (by omega)
  | d + 1, h => c17_of ok (by omega) fun _ => ⟨d, rfl, by omega, c17 d (by omega)⟩
end
end Va
end Go.Proofs.YtlemdiinmfneoaaGreat
