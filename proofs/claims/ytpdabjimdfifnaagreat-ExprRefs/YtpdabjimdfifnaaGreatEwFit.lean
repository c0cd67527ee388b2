/- Values that may be; rows that rise. -/
import Derived.Test.YtpdabjimdfifnaaGreatEwValQ
set_option linter.unusedVariables false
set_option linter.unusedSimpArgs false
namespace Go.Ew
open Go.Ev Go.Deep Go.Proofs.YtpdabjimdfifnaaGreat.Va

def Srt (l : List V) : Prop := l.Pairwise fun a b => cmpV a b < 0

theorem cmp3 (x y z : V) : (cmpV x y ≤ 0 → cmpV y z ≤ 0 → cmpV x z ≤ 0) ∧ (cmpV x y < 0 → cmpV y z ≤ 0 → cmpV x z < 0) ∧ (cmpV x y ≤ 0 → cmpV y z < 0 → cmpV x z < 0) := cmpV_trans x y z

theorem mem_ins {x z : V} : ∀ {l : List V}, z ∈ insV x l → z = x ∨ z ∈ l
  | [], h => by simp [insV] at h; exact .inl h
  | y :: l, h => by
    rw [insV] at h
    split at h
    · rcases List.mem_cons.1 h with rfl | h
      · exact .inr (by simp)
      · exact (mem_ins h).imp id fun q => by simp [q]
    · split at h
      · exact .inr h
      · rcases List.mem_cons.1 h with rfl | h
        · exact .inl rfl
        · exact .inr h

theorem srt_ins (x : V) : ∀ {l : List V}, Srt l → Srt (insV x l)
  | [], _ => by simp [insV, Srt]
  | y :: l, h => by
    have hy : ∀ {w}, w ∈ l → cmpV y w < 0 := fun hw => List.rel_of_pairwise_cons h hw
    have hl := h.of_cons
    rw [insV]
    split
    · rename_i hlt
      refine List.pairwise_cons.2 ⟨fun z hz => ?_, srt_ins x hl⟩
      rcases mem_ins hz with rfl | hz
      · exact hlt
      · exact hy hz
    · rename_i hlt
      split
      · exact h
      · rename_i hne
        refine List.pairwise_cons.2 ⟨fun z hz => ?_, h⟩
        have hxy : cmpV x y < 0 := by have := cmpV_neg y x; omega
        rcases List.mem_cons.1 hz with rfl | hz
        · exact hxy
        · have := hy hz
          exact (cmp3 x y z).2.1 hxy (by omega)


def kV : V → Int
  | .mk k _ _ _ => k

def kidsL : V → List V
  | .mk _ _ _ l => l

def cmpK (a b : V) : Int := cmpS' (keyV a) (keyV b)

def pairB : V → Bool
  | .mk k _ _ l => decide (k = 4) && (decide (l.length = 2) && decide ((l[0]?).map kV = some 3))

def riseB (f : V → V → Int) : List V → Bool
  | a :: b :: l => decide (f a b < 0) && riseB f (b :: l)
  | _ => true

mutual
def fitV : V → Bool
  | .mk k i s l =>
    if k = 1 then strEq s (ByteArray.mk #[]) && decide (l.length = 0)
    else if k = 2 then (decide (i = 0) || decide (i = 1)) && (strEq s (ByteArray.mk #[]) && decide (l.length = 0))
    else if k = 3 then decide (i = 0) && decide (l.length = 0)
    else if k = 4 then decide (i = 0) && (strEq s (ByteArray.mk #[]) && partsB l)
    else if k = 5 then decide (i = 0) && (strEq s (ByteArray.mk #[]) && partsB l) && riseB cmpV l
    else if k = 6 then decide (i = 0) && (strEq s (ByteArray.mk #[]) && partsB l) && (l.all pairB && riseB cmpK l)
    else if k = 7 then (decide (1 ≤ i) && decide (i ≤ 13)) && (strEq s (ByteArray.mk #[]) && decide (l.length = 0))
    else false
def partsB : List V → Bool
  | [] => true
  | v :: l => decide (kV v ≠ 7) && (fitV v && partsB l)
end

def KR (l : List V) : Prop := l.Pairwise fun a b => cmpK a b < 0

/-- It may be, as a part; an Env's keys rise. -/
structure Fit (v : V) : Prop where
  fit : fitV v = true
  ne : kV v ≠ 7
  key : kV v = 6 → KR (kidsL v) ∧ ∀ x ∈ kidsL v, 0 < kidsV x

theorem parts_of : ∀ {l : List V}, (∀ x ∈ l, fitV x = true ∧ kV x ≠ 7) → partsB l = true
  | [], _ => rfl
  | v :: l, h => by
    have h1 := h v (by simp)
    have h2 := parts_of (l := l) fun x hx => h x (by simp [hx])
    simp [partsB, h1.1, h1.2, h2]

theorem rise_of {f : V → V → Int} : ∀ {l : List V}, (l.Pairwise fun a b => f a b < 0) → riseB f l = true
  | [], _ => rfl
  | [_], _ => rfl
  | a :: b :: l, h => by
    have h1 : f a b < 0 := List.rel_of_pairwise_cons h (by simp)
    have h2 := rise_of (l := b :: l) h.of_cons
    simp [riseB, h1, h2]

theorem emp_eq : strEq (ByteArray.mk #[]) (ByteArray.mk #[]) = true := by simp [strEq]

theorem Fit.num {i : Int} : Fit (.mk 1 i (ByteArray.mk #[]) []) := ⟨by simp [fitV, emp_eq], by simp [kV], by simp [kV]⟩
theorem Fit.bool {i : Int} (h1 : 0 ≤ i) (h2 : i < 2) : Fit (.mk 2 i (ByteArray.mk #[]) []) := by
  refine ⟨?_, by simp [kV], by simp [kV]⟩
  have : i = 0 ∨ i = 1 := by omega
  rcases this with rfl | rfl <;> simp [fitV, emp_eq]
theorem Fit.str {s : ByteArray} : Fit (.mk 3 0 s []) := ⟨by simp [fitV], by simp [kV], by simp [kV]⟩
theorem Fit.list {l : List V} (h : ∀ x ∈ l, Fit x) : Fit (.mk 4 0 (ByteArray.mk #[]) l) :=
  ⟨by simp [fitV, emp_eq, parts_of fun x hx => ⟨(h x hx).fit, (h x hx).ne⟩], by simp [kV], by simp [kV]⟩
theorem Fit.set {l : List V} (h : ∀ x ∈ l, Fit x) (hs : Srt l) : Fit (.mk 5 0 (ByteArray.mk #[]) l) :=
  ⟨by simp [fitV, emp_eq, parts_of fun x hx => ⟨(h x hx).fit, (h x hx).ne⟩, rise_of hs], by simp [kV], by simp [kV]⟩

/-- A row of pairs whose keys rise. -/
structure Prs (l : List V) : Prop where
  rise : KR l
  kids : ∀ x ∈ l, 0 < kidsV x
  fit : ∀ x ∈ l, Fit x
  pair : ∀ x ∈ l, pairB x = true

theorem Fit.env {l : List V} (h : Prs l) : Fit (.mk 6 0 (ByteArray.mk #[]) l) := by
  refine ⟨?_, by simp [kV], fun _ => ⟨h.rise, h.kids⟩⟩
  have h1 : l.all pairB = true := List.all_eq_true.2 h.pair
  have h2 : riseB cmpK l = true := rise_of h.rise
  simp only [fitV]
  simp [emp_eq, parts_of fun x hx => ⟨(h.fit x hx).fit, (h.fit x hx).ne⟩, h1, h2]

theorem cmpK3 (x y z : V) : (cmpK x y < 0 → cmpK y z < 0 → cmpK x z < 0) := fun h1 h2 => (cmpS_trans _ _ _).2.1 h1 (by show cmpK y z ≤ 0; omega)

theorem less_irrefl : ∀ l : List UInt8, Op.bytesLess l l = false
  | [] => rfl
  | a :: l => by simp [Op.bytesLess, less_irrefl l]

theorem lt_cmp {x y : ByteArray} (h : strLt x y = true) : cmpS' x y < 0 := by
  rcases cmpS_rng x y with q | q | q
  · omega
  · rw [cmpS_str] at q
    by_cases e : strEq x y = true
    · exfalso
      unfold strEq at e
      unfold strLt at h
      have e : x.toList = y.toList := by simpa using e
      rw [e] at h
      rw [less_irrefl] at h
      cases h
    · simp [e, h] at q
  · rw [cmpS_str] at q
    split at q
    · omega
    · simp [h] at q

theorem put_kr {s : ByteArray} {P : V} (hk : keyV P = s) : ∀ {m : List V}, KR m → (∀ x ∈ m, 0 < kidsV x) → (findV s m).2 = false → KR (m.take (findV s m).1 ++ P :: m.drop (findV s m).1)
  | [], _, _, _ => by simp [KR]
  | y :: l, h, hc, hf => by
    have hy : ∀ {w}, w ∈ l → cmpK y w < 0 := fun hw => List.rel_of_pairwise_cons h hw
    have hl : KR l := h.of_cons
    by_cases hlt : strLt (keyV y) s = true
    · simp only [findV, if_pos hlt] at hf ⊢
      have ih := put_kr hk hl (fun x hx => hc x (by simp [hx])) hf
      rw [List.take_succ_cons, List.drop_succ_cons]
      refine List.pairwise_cons.2 ⟨fun z hz => ?_, ih⟩
      rcases List.mem_append.1 hz with hz | hz
      · exact hy (List.mem_of_mem_take hz)
      · rcases List.mem_cons.1 hz with rfl | hz
        · show cmpS' (keyV y) (keyV z) < 0
          rw [hk]; exact lt_cmp hlt
        · exact hy (List.mem_of_mem_drop hz)
    · simp only [findV, if_neg hlt] at hf ⊢
      have h0 : 0 < kidsV y := hc y (by simp)
      have hne : strEq (keyV y) s = false := by simpa [h0] using hf
      have hP : cmpK P y < 0 := by
        show cmpS' (keyV P) (keyV y) < 0
        rw [hk]
        have := cmpS_neg (keyV y) s
        have h2 := cmpS_str (keyV y) s
        rw [hne] at h2
        simp [hlt] at h2
        omega
      refine List.pairwise_cons.2 ⟨fun z hz => ?_, h⟩
      rcases List.mem_cons.1 hz with rfl | hz
      · exact hP
      · exact cmpK3 _ _ _ hP (hy hz)

theorem Prs.put {s : ByteArray} {v : V} {m : List V} (h : Prs m) (hv : Fit v) (hf : (findV s m).2 = false) : Prs (m.take (findV s m).1 ++ .mk 4 0 (ByteArray.mk #[]) [.mk 3 0 s [], v] :: m.drop (findV s m).1) := by
  have hm : ∀ {p : V → Prop}, (∀ x ∈ m, p x) → p (.mk 4 0 (ByteArray.mk #[]) [.mk 3 0 s [], v]) → ∀ x ∈ (m.take (findV s m).1 ++ .mk 4 0 (ByteArray.mk #[]) [.mk 3 0 s [], v] :: m.drop (findV s m).1), p x := by
    intro p h1 h2 x hx
    rcases List.mem_append.1 hx with hx | hx
    · exact h1 x (List.mem_of_mem_take hx)
    · rcases List.mem_cons.1 hx with rfl | hx
      · exact h2
      · exact h1 x (List.mem_of_mem_drop hx)
  refine ⟨put_kr (by simp [keyV]) h.rise h.kids hf, hm h.kids (by simp [kidsV]), hm h.fit (Fit.list ?_), hm h.pair (by simp [pairB, kV])⟩
  intro x hx
  rcases List.mem_cons.1 hx with rfl | hx
  · exact Fit.str
  · have : x = v := by simpa using hx
    subst this
    exact hv
end Go.Ew
