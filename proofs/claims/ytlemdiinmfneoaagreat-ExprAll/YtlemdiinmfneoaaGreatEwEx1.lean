import Derived.Test.YtlemdiinmfneoaaGreatEwRowA
import Derived.Test.YtlemdiinmfneoaaGreatEwVc4
import Derived.Test.YtlemdiinmfneoaaGreatEwFit
/- Expressions: what is reckoned of values, as trees; contracts of the small functions. -/
set_option linter.unusedVariables false
set_option linter.unusedSimpArgs false
namespace Go.Ew
open Go.Ev Go.Deep Go.Proofs.YtlemdiinmfneoaaGreat.Va

def iV : V → Int
  | .mk _ i _ _ => i

def sV : V → ByteArray
  | .mk _ _ s _ => s

def badV (n : Int) : V := .mk 7 n emp []
def numV (n : Int) : V := .mk 1 n emp []
def strV (s : ByteArray) : V := .mk 3 0 s []
def truV (b : Bool) : V := .mk 2 (if b = true then 1 else 0) emp []

def numIfV (ok : Bool) (n : Int) : V := if ok = true then numV n else badV 5

def addV (a b : Int) : V := numIfV (decide (a < IntKind.wrap .i64 (a + b)) == decide (0 < b)) (IntKind.wrap .i64 (a + b))
def subV (a b : Int) : V := numIfV (decide (IntKind.wrap .i64 (a - b) < a) == decide (0 < b)) (IntKind.wrap .i64 (a - b))
def mulV (a b : Int) : V := numIfV (decide (a = 0) || (decide (IntKind.wrap .i64 (Int.tdiv (IntKind.wrap .i64 (a * b)) a) = b) && !(decide (a = -1) && decide (b = -9223372036854775808)))) (IntKind.wrap .i64 (a * b))

/-- The second of a pair. -/
def sndV (v : V) : V := match kidsL v with
  | _ :: y :: _ => y
  | _ => badV 7

def getV (l : List V) (s : ByteArray) : V := if (findV s l).2 = true then (match l[(findV s l).1]? with
  | some p => sndV p
  | none => badV 7) else badV 7

def putV (l : List V) (s : ByteArray) (v : V) : List V := l.take (findV s l).1 ++ [.mk 4 0 emp [strV s, v]] ++ l.drop (if (findV s l).2 = true then (findV s l).1 + 1 else (findV s l).1)

def memV (l : List V) (x : V) : Bool := l.any fun v => decide (cmpV v x = 0)

def twoV (op : Int) (a b : V) : V :=
  if op = 4 then (if kV a = 1 ∧ kV b = 1 then addV (iV a) (iV b) else badV 4)
  else if op = 5 then (if kV a = 1 ∧ kV b = 1 then subV (iV a) (iV b) else badV 4)
  else if op = 6 then (if kV a = 1 ∧ kV b = 1 then mulV (iV a) (iV b) else badV 4)
  else if op = 7 then truV (decide (cmpV a b = 0))
  else if op = 8 then truV (decide (cmpV a b < 0))
  else if op = 9 then (if kV a = 2 ∧ kV b = 2 then truV (decide (iV a = 1) && decide (iV b = 1)) else badV 4)
  else if op = 10 then (if kV a = 2 ∧ kV b = 2 then truV (decide (iV a = 1) || decide (iV b = 1)) else badV 4)
  else if op = 13 then (if kV a = 3 then (if kV a = 3 ∧ kV b = 3 then strV (sV a ++ sV b) else badV 4) else (if kV a = 4 ∧ kV b = 4 then .mk 4 0 emp (kidsL a ++ kidsL b) else badV 4))
  else if op = 17 then (if kV a = 6 ∧ kV b = 3 then getV (kidsL a) (sV b) else badV 4)
  else if op = 18 then (if kV a = 6 ∧ kV b = 3 then truV (findV (sV b) (kidsL a)).2 else badV 4)
  else if op = 19 then (if kV a = 5 then .mk 5 0 emp (insV b (kidsL a)) else badV 4)
  else if op = 20 then (if kV a = 5 then truV (memV (kidsL a) b) else badV 4)
  else badV 1

def notV (a : V) : V := if kV a = 2 then truV (!(decide (iV a = 1))) else badV 4
def lenV (a : V) : V := if kV a = 3 then numV ((sV a).size : Nat) else if kV a = 4 ∨ kV a = 5 ∨ kV a = 6 then numV ((kidsL a).length : Nat) else badV 4

def reckonV (op : Int) (l : List V) : V :=
  if op = 21 then .mk 5 0 emp []
  else if op = 22 then .mk 6 0 emp []
  else if op = 14 then .mk 4 0 emp l
  else if op = 11 then notV (l[0]?.getD (badV 1))
  else if op = 15 then lenV (l[0]?.getD (badV 1))
  else if op = 16 then (let a := l[0]?.getD (badV 1); let b := l[1]?.getD (badV 1); if kV a = 6 ∧ kV b = 3 then .mk 6 0 emp (putV (kidsL a) (sV b) (l[2]?.getD (badV 1))) else badV 4)
  else twoV op (l[0]?.getD (badV 1)) (l[1]?.getD (badV 1))

def smallV (v : V) : V := if szV v ≤ 60 then v else badV 6
def takenV (v : V) : V := if (decide (szV (smallV v) ≤ 60) && fitV (smallV v)) = true then smallV v else badV 1

/-- An answer that is a value. -/
abbrev Ans (H : KH) (v : V) (Q : PQ) : Prop := ∀ cs H', Le H H' → RV H' v cs → Q (.agg cs.toArray) H'

theorem Ans.mono {H H' : KH} {v : V} {Q : PQ} (h : Ans H v Q) (hl : Le H H') : Ans H' v Q := fun cs H2 h1 h2 => h cs H2 (hl.trans h1) h2

theorem Ans.wrap {H : KH} {v : V} {Q : PQ} (hq : Ans H v Q) : Ans H v fun v1 H2 => ∃ (x3 x4 : Int) (s5 : ByteArray) (a6 : OA) (n7 n8 : Nat), v1 = .agg #[.int .i64 x3, .int .i64 x4, .string s5, .slice a6 n7 n8] ∧ Q (.agg #[.int .i64 x3, .int .i64 x4, .string s5, .slice a6 n7 n8]) H2 := by
  intro cs H' hl hr
  have hr' := hr
  obtain ⟨k, i, s, l⟩ := v
  obtain ⟨a, n, c, rfl, rfl, _⟩ := hr
  exact ⟨k, i, s, a, _, c, rfl, hq _ H' hl hr'⟩

theorem Ans.wrapT {H : KH} {v : V} {Q : PQ} (hq : Ans H v Q) : Ans H v fun v1 H2 => ∃ (x3 x4 : Int) (s5 : ByteArray) (a6 : OA) (n7 n8 : Nat), v1 = .agg #[.int .i64 x3, .int .i64 x4, .string s5, .slice a6 n7 n8] ∧ (True ∧ (True ∧ Q (.agg #[.int .i64 x3, .int .i64 x4, .string s5, .slice a6 n7 n8]) H2)) := by
  intro cs H' hl hr
  obtain ⟨a, b, c, d, e, f, h1, h2⟩ := hq.wrap cs H' hl hr
  exact ⟨a, b, c, d, e, f, h1, trivial, trivial, h2⟩

theorem mid {i j : Int} (h1 : 0 ≤ i) (h2 : 0 ≤ j) (h3 : i ≤ 1000000) (h4 : j ≤ 1000000) : IntKind.wrap .i64 (Int.fdiv (IntKind.wrap .u64 (IntKind.wrap .i64 (i + j))) (2 ^ (min (Int.toNat 1) (IntKind.bits .u64)))) = (i + j) / 2 := by
  have e : (2 : Int) ^ (min (Int.toNat 1) (IntKind.bits .u64)) = 2 := by decide
  rw [e, wrap64 (x := i + j) (by omega) (by omega), IntWalk.u64_in (i + j) (by omega), Int.fdiv_eq_ediv_of_nonneg _ (by omega), wrap64 (by omega) (by omega)]

theorem mem_iff {l : List V} {x : V} : memV l x = true ↔ ∃ v ∈ l, cmpV v x = 0 := by
  simp [memV]
end Go.Ew

namespace Go.Proofs.YtlemdiinmfneoaaGreat
open Go.Ev Go.Ew
namespace Va
section
variable (ok : EnvOk (env Tryz.prog))
include ok

theorem c38 {n : Int} {H : KH} {Q : PQ} (hq : Ans H (badV n) Q) : Does (env Tryz.prog) 38 [.int .i64 n] H Q := fn38 ok (hq _ H (Le.refl _) leaf)
theorem c59 {s : ByteArray} {H : KH} {Q : PQ} (hq : Ans H (strV s) Q) : Does (env Tryz.prog) 59 [.string s] H Q := fn59 ok (hq _ H (Le.refl _) leaf)
theorem c60 {n : Int} {H : KH} {Q : PQ} (hq : Ans H (numV n) Q) : Does (env Tryz.prog) 60 [.int .i64 n] H Q := fn60 ok (hq _ H (Le.refl _) leaf)
theorem c77 {b : Bool} {H : KH} {Q : PQ} (hq : Ans H (truV b) Q) : Does (env Tryz.prog) 77 [.bool b] H Q := by
  refine fn77 ok ⟨fun h => ?_, fun h => ?_⟩ <;> subst h <;> exact hq _ H (Le.refl _) leaf
theorem c115 {b : Bool} {n : Int} {H : KH} {Q : PQ} (hq : Ans H (numIfV b n) Q) : Does (env Tryz.prog) 115 [.bool b, .int .i64 n] H Q := by
  refine fn115 ok ⟨fun h => ?_, fun h => ?_⟩
  · have h : b = false := by simpa using h
    subst h
    exact c38 ok hq.wrap
  · have h : b = true := by simpa using h
    subst h
    exact c60 ok hq.wrap
theorem c81 {a b : Int} {H : KH} {Q : PQ} (hq : Ans H (addV a b) Q) : Does (env Tryz.prog) 81 [.int .i64 a, .int .i64 b] H Q := fn81 ok (c115 ok hq.wrap)
theorem c83 {a b : Int} {H : KH} {Q : PQ} (hq : Ans H (subV a b) Q) : Does (env Tryz.prog) 83 [.int .i64 a, .int .i64 b] H Q := fn83 ok (c115 ok hq.wrap)
theorem c84 {a b : Int} {H : KH} {Q : PQ} (hq : Ans H (mulV a b) Q) : Does (env Tryz.prog) 84 [.int .i64 a, .int .i64 b] H Q := by
  unfold mulV at hq
  refine fn84 ok ⟨fun h1 => ⟨fun h0 => ?_, fun h0 => ⟨by simpa using h0, fun h2 => ?_, fun h2 => ?_⟩⟩, fun h1 => ⟨fun h0 => ?_, fun h0 => ⟨by simpa using h0, fun h2 => ?_, fun h2 => ?_⟩⟩⟩
  all_goals
    rw [h1, h0] at hq
    first
      | rw [h2] at hq
      | skip
    simp only [Bool.true_or, Bool.false_or, Bool.true_and, Bool.false_and, Bool.not_false] at hq
    exact c115 ok hq.wrap
theorem c86 {x y : V} {cx cy : List Value} {H : KH} {Q : PQ} (h1 : szV x ≤ 60000) (h2 : szV y ≤ 60000) (hx : RV H x cx) (hy : RV H y cy) (hq : Ans H (truV (decide (cmpV x y = 0))) Q) : Does (env Tryz.prog) 86 [.agg cx.toArray, .agg cy.toArray] H Q := by
  have hx' := hx
  have hy' := hy
  obtain ⟨k, i, s, l⟩ := x
  obtain ⟨a, n, c, rfl, rfl, hl, hok⟩ := hx
  obtain ⟨k', i', s', l'⟩ := y
  obtain ⟨a', n', c', rfl, rfl, hl', hok'⟩ := hy
  exact fn86 ok (c116 ok h1 h2 hx' hy' ⟨_, rfl, c77 ok hq.wrap⟩)
theorem c88 {x y : V} {cx cy : List Value} {H : KH} {Q : PQ} (h1 : szV x ≤ 60000) (h2 : szV y ≤ 60000) (hx : RV H x cx) (hy : RV H y cy) (hq : Ans H (truV (decide (cmpV x y < 0))) Q) : Does (env Tryz.prog) 88 [.agg cx.toArray, .agg cy.toArray] H Q := by
  have hx' := hx
  have hy' := hy
  obtain ⟨k, i, s, l⟩ := x
  obtain ⟨a, n, c, rfl, rfl, hl, hok⟩ := hx
  obtain ⟨k', i', s', l'⟩ := y
  obtain ⟨a', n', c', rfl, rfl, hl', hok'⟩ := hy
  exact fn88 ok (c116 ok h1 h2 hx' hy' ⟨_, rfl, c77 ok hq.wrap⟩)
theorem c89 {a b : Bool} {H : KH} {Q : PQ} (hq : Ans H (truV (a && b)) Q) : Does (env Tryz.prog) 89 [.bool a, .bool b] H Q := by
  refine fn89 ok ⟨fun h => ?_, fun h => ?_⟩ <;> subst h <;> exact c77 ok hq.wrap
theorem c91 {a b : Bool} {H : KH} {Q : PQ} (hq : Ans H (truV (a || b)) Q) : Does (env Tryz.prog) 91 [.bool a, .bool b] H Q := by
  refine fn91 ok ⟨fun h => ?_, fun h => ?_⟩ <;> subst h <;> exact c77 ok hq.wrap
theorem c63 {x : V} {cx : List Value} {H : KH} {Q : PQ} (hx : RV H x cx) (hq : Ans H (notV x) Q) : Does (env Tryz.prog) 63 [.agg cx.toArray] H Q := by
  obtain ⟨k, i, s, l⟩ := x
  obtain ⟨a, n, c, rfl, rfl, hl, hok⟩ := hx
  refine fn63 ok (fn61 ok ⟨trivial, _, _, rfl, fun h => ?_, fun h => ?_⟩)
  · have h : ¬ k = 2 := by simpa using h
    rw [show notV (.mk k i s l) = badV 4 from if_neg h] at hq
    exact c38 ok hq.wrap
  · have h : k = 2 := by simpa using h
    rw [show notV (.mk k i s l) = truV (!(decide (i = 1))) from if_pos h] at hq
    exact c77 ok hq.wrap
theorem c64 {x : V} {cx : List Value} {H : KH} {Q : PQ} (hx : RV H x cx) (hq : Ans H (lenV x) Q) : Does (env Tryz.prog) 64 [.agg cx.toArray] H Q := by
  obtain ⟨k, i, s, l⟩ := x
  obtain ⟨a, n, c, rfl, rfl, hl, hok⟩ := hx
  have e3 : k = 3 → lenV (.mk k i s l) = numV (s.size : Nat) := fun h => if_pos h
  have e4 : ¬ k = 3 → (k = 4 ∨ k = 5 ∨ k = 6) → lenV (.mk k i s l) = numV (l.length : Nat) := fun h h' => by
    rw [show lenV (.mk k i s l) = if k = 4 ∨ k = 5 ∨ k = 6 then numV (l.length : Nat) else badV 4 from if_neg h, if_pos h']
  have e5 : ¬ k = 3 → ¬ (k = 4 ∨ k = 5 ∨ k = 6) → lenV (.mk k i s l) = badV 4 := fun h h' => by
    rw [show lenV (.mk k i s l) = if k = 4 ∨ k = 5 ∨ k = 6 then numV (l.length : Nat) else badV 4 from if_neg h, if_neg h']
  refine fn64 ok ⟨fun h => ?_, fun h => ⟨fun h4 => ?_, fun h4 => ⟨fun h5 => ?_, fun h5 => ⟨fun h6 => ?_, fun h6 => ?_⟩⟩⟩⟩
  · rw [e3 (by simpa using h)] at hq; exact c60 ok hq.wrap
  · rw [e4 (by simpa using h) (.inl (by simpa using h4))] at hq; exact c60 ok hq.wrap
  · rw [e4 (by simpa using h) (.inr (.inl (by simpa using h5)))] at hq; exact c60 ok hq.wrap
  · rw [e4 (by simpa using h) (.inr (.inr (by simpa using h6)))] at hq; exact c60 ok hq.wrap
  · simp only [decide_eq_false_iff_not] at h h4 h5 h6
    rw [e5 h (by omega)] at hq; exact c38 ok hq.wrap
theorem c92 {a b : ByteArray} {H : KH} {Q : PQ} (hn : a.size + b.size ≤ 1000000) (hq : Ans H (strV (a ++ b)) Q) : Does (env Tryz.prog) 92 [.string a, .string b] H Q := fn92 ok ⟨hn, c59 ok hq.wrap⟩

/-- What is read as two of a kind, and reckoned. -/
theorem c82 {g : Nat} {x y v : V} {cx cy : List Value} {H : KH} {Q : PQ} (hx : RV H x cx) (hy : RV H y cy)
    (h1 : kV x = 1 ∧ kV y = 1 → ∀ Q, Ans H v Q → Does (env Tryz.prog) g [.int .i64 (iV x), .int .i64 (iV y)] H Q) (h2 : ¬ (kV x = 1 ∧ kV y = 1) → v = badV 4) (hq : Ans H v Q) :
    Does (env Tryz.prog) 82 [.agg #[.func (.func 80) #[] #[], .func (.func 80) #[] #[], .func (.func g) #[] #[]], .agg cx.toArray, .agg cy.toArray] H Q := by
  obtain ⟨k, i, s, l⟩ := x
  obtain ⟨a, n, c, rfl, rfl, hl, hok⟩ := hx
  obtain ⟨k', i', s', l'⟩ := y
  obtain ⟨a', n', c', rfl, rfl, hl', hok'⟩ := hy
  simp only [kV, iV] at h1 h2
  refine fn82 ok (fn80 ok ⟨trivial, _, _, rfl, fun h => ?_, fun h => fn80 ok ⟨trivial, _, _, rfl, fun h' => ?_, fun h' => ?_⟩⟩)
  · have h : ¬ k = 1 := by simpa using h
    rw [h2 (fun q => h q.1)] at hq
    exact c38 ok hq.wrap
  · have h' : ¬ k' = 1 := by simpa using h'
    rw [h2 (fun q => h' q.2)] at hq
    exact c38 ok hq.wrap
  · exact h1 ⟨by simpa using h, by simpa using h'⟩ _ hq.wrap

theorem c90 {g : Nat} {x y v : V} {cx cy : List Value} {H : KH} {Q : PQ} (hx : RV H x cx) (hy : RV H y cy)
    (h1 : kV x = 2 ∧ kV y = 2 → ∀ Q, Ans H v Q → Does (env Tryz.prog) g [.bool (decide (iV x = 1)), .bool (decide (iV y = 1))] H Q) (h2 : ¬ (kV x = 2 ∧ kV y = 2) → v = badV 4) (hq : Ans H v Q) :
    Does (env Tryz.prog) 90 [.agg #[.func (.func 61) #[] #[], .func (.func 61) #[] #[], .func (.func g) #[] #[]], .agg cx.toArray, .agg cy.toArray] H Q := by
  obtain ⟨k, i, s, l⟩ := x
  obtain ⟨a, n, c, rfl, rfl, hl, hok⟩ := hx
  obtain ⟨k', i', s', l'⟩ := y
  obtain ⟨a', n', c', rfl, rfl, hl', hok'⟩ := hy
  simp only [kV, iV] at h1 h2
  refine fn90 ok (fn61 ok ⟨trivial, _, _, rfl, fun h => ?_, fun h => fn61 ok ⟨trivial, _, _, rfl, fun h' => ?_, fun h' => ?_⟩⟩)
  · have h : ¬ k = 2 := by simpa using h
    rw [h2 (fun q => h q.1)] at hq
    exact c38 ok hq.wrap
  · have h' : ¬ k' = 2 := by simpa using h'
    rw [h2 (fun q => h' q.2)] at hq
    exact c38 ok hq.wrap
  · exact h1 ⟨by simpa using h, by simpa using h'⟩ _ hq.wrap

theorem c93 {g : Nat} {x y v : V} {cx cy : List Value} {H : KH} {Q : PQ} (hx : RV H x cx) (hy : RV H y cy)
    (h1 : kV x = 3 ∧ kV y = 3 → ∀ Q, Ans H v Q → Does (env Tryz.prog) g [.string (sV x), .string (sV y)] H Q) (h2 : ¬ (kV x = 3 ∧ kV y = 3) → v = badV 4) (hq : Ans H v Q) :
    Does (env Tryz.prog) 93 [.agg #[.func (.func 68) #[] #[], .func (.func 68) #[] #[], .func (.func g) #[] #[]], .agg cx.toArray, .agg cy.toArray] H Q := by
  obtain ⟨k, i, s, l⟩ := x
  obtain ⟨a, n, c, rfl, rfl, hl, hok⟩ := hx
  obtain ⟨k', i', s', l'⟩ := y
  obtain ⟨a', n', c', rfl, rfl, hl', hok'⟩ := hy
  simp only [kV, sV] at h1 h2
  refine fn93 ok (fn68 ok ⟨trivial, _, _, rfl, fun h => ?_, fun h => fn68 ok ⟨trivial, _, _, rfl, fun h' => ?_, fun h' => ?_⟩⟩)
  · have h : ¬ k = 3 := by simpa using h
    rw [h2 (fun q => h q.1)] at hq
    exact c38 ok hq.wrap
  · have h' : ¬ k' = 3 := by simpa using h'
    rw [h2 (fun q => h' q.2)] at hq
    exact c38 ok hq.wrap
  · exact h1 ⟨by simpa using h, by simpa using h'⟩ _ hq.wrap

theorem c87 {g : Nat} {x y v : V} {cx cy : List Value} {H : KH} {Q : PQ} (hx : RV H x cx) (hy : RV H y cy)
    (h1 : ∀ Q, Ans H v Q → Does (env Tryz.prog) g [.agg cx.toArray, .agg cy.toArray] H Q) (hq : Ans H v Q) :
    Does (env Tryz.prog) 87 [.agg #[.func (.func 85) #[] #[], .func (.func 85) #[] #[], .func (.func g) #[] #[]], .agg cx.toArray, .agg cy.toArray] H Q := by
  obtain ⟨k, i, s, l⟩ := x
  obtain ⟨a, n, c, rfl, rfl, hl, hok⟩ := hx
  obtain ⟨k', i', s', l'⟩ := y
  obtain ⟨a', n', c', rfl, rfl, hl', hok'⟩ := hy
  exact fn87 ok (fn85 ok ⟨_, _, _, _, _, _, _, rfl, fun h => (by cases h), fun _ => fn85 ok ⟨_, _, _, _, _, _, _, rfl, fun h => (by cases h), fun _ => h1 _ hq.wrap⟩⟩)

theorem c96 {g : Nat} {x y v : V} {cx cy : List Value} {H : KH} {Q : PQ} (hx : RV H x cx) (hy : RV H y cy)
    (h1 : kV x = 4 ∧ kV y = 4 → ∀ Q a c a' c', RS H (kidsL x) a → SlOk H 4 a (kidsL x).length c → RS H (kidsL y) a' → SlOk H 4 a' (kidsL y).length c' → Ans H v Q → Does (env Tryz.prog) g [.slice a (kidsL x).length c, .slice a' (kidsL y).length c'] H Q) (h2 : ¬ (kV x = 4 ∧ kV y = 4) → v = badV 4) (hq : Ans H v Q) :
    Does (env Tryz.prog) 96 [.agg #[.func (.func 94) #[] #[], .func (.func 94) #[] #[], .func (.func g) #[] #[]], .agg cx.toArray, .agg cy.toArray] H Q := by
  obtain ⟨k, i, s, l⟩ := x
  obtain ⟨a, n, c, rfl, rfl, hl, hok⟩ := hx
  obtain ⟨k', i', s', l'⟩ := y
  obtain ⟨a', n', c', rfl, rfl, hl', hok'⟩ := hy
  simp only [kV, kidsL] at h1 h2
  refine fn96 ok (fn94 ok ⟨trivial, _, _, _, _, rfl, fun h => ?_, fun h => fn94 ok ⟨trivial, _, _, _, _, rfl, fun h' => ?_, fun h' => ?_⟩⟩)
  · have h : ¬ k = 4 := by simpa using h
    rw [h2 (fun q => h q.1)] at hq
    exact c38 ok hq.wrap
  · have h' : ¬ k' = 4 := by simpa using h'
    rw [h2 (fun q => h' q.2)] at hq
    exact c38 ok hq.wrap
  · exact h1 ⟨by simpa using h, by simpa using h'⟩ _ _ _ _ _ hl hok hl' hok' hq.wrap

theorem c101 {g : Nat} {x y v : V} {cx cy : List Value} {H : KH} {Q : PQ} (hx : RV H x cx) (hy : RV H y cy)
    (h1 : kV x = 5 → ∀ Q a c, RS H (kidsL x) a → SlOk H 4 a (kidsL x).length c → Ans H v Q → Does (env Tryz.prog) g [.slice a (kidsL x).length c, .agg cy.toArray] H Q) (h2 : ¬ kV x = 5 → v = badV 4) (hq : Ans H v Q) :
    Does (env Tryz.prog) 101 [.agg #[.func (.func 99) #[] #[], .func (.func 85) #[] #[], .func (.func g) #[] #[]], .agg cx.toArray, .agg cy.toArray] H Q := by
  obtain ⟨k, i, s, l⟩ := x
  obtain ⟨a, n, c, rfl, rfl, hl, hok⟩ := hx
  obtain ⟨k', i', s', l'⟩ := y
  obtain ⟨a', n', c', rfl, rfl, hl', hok'⟩ := hy
  simp only [kV, kidsL] at h1 h2
  refine fn101 ok (fn99 ok ⟨trivial, _, _, _, _, rfl, fun h => ?_, fun h => fn85 ok ⟨_, _, _, _, _, _, _, rfl, fun h => (by cases h), fun _ => ?_⟩⟩)
  · have h : ¬ k = 5 := by simpa using h
    rw [h2 h] at hq
    exact c38 ok hq.wrap
  · exact h1 (by simpa using h) _ _ _ hl hok hq.wrap

theorem c69 {g : Nat} {cap : List Value} {x y v : V} {cx cy : List Value} {H : KH} {Q : PQ} (hx : RV H x cx) (hy : RV H y cy)
    (h1 : kV x = 6 ∧ kV y = 3 → ∀ Q a c, RS H (kidsL x) a → SlOk H 4 a (kidsL x).length c → Ans H v Q → Does (env Tryz.prog) g ([.slice a (kidsL x).length c, .string (sV y)] ++ cap) H Q) (h2 : ¬ (kV x = 6 ∧ kV y = 3) → v = badV 4) (hq : Ans H v Q) :
    Does (env Tryz.prog) 69 [.agg #[.func (.func 67) #[] #[], .func (.func 68) #[] #[], .func (.func g) #[] cap.toArray], .agg cx.toArray, .agg cy.toArray] H Q := by
  obtain ⟨k, i, s, l⟩ := x
  obtain ⟨a, n, c, rfl, rfl, hl, hok⟩ := hx
  obtain ⟨k', i', s', l'⟩ := y
  obtain ⟨a', n', c', rfl, rfl, hl', hok'⟩ := hy
  simp only [kV, kidsL, sV] at h1 h2
  refine fn69 ok (p0_0k := []) (p0_1k := []) (fn67 ok ⟨trivial, _, _, _, _, rfl, fun h => ?_, fun h => fn68 ok ⟨trivial, _, _, rfl, fun h' => ?_, fun h' => ?_⟩⟩)
  · have h : ¬ k = 6 := by simpa using h
    rw [h2 (fun q => h q.1)] at hq
    exact c38 ok hq.wrap
  · have h' : ¬ k' = 3 := by simpa using h'
    rw [h2 (fun q => h' q.2)] at hq
    exact c38 ok hq.wrap
  · exact h1 ⟨by simpa using h, by simpa using h'⟩ _ _ _ hl hok hq.wrap
end
end Va
end Go.Proofs.YtlemdiinmfneoaaGreat

/- What is reckoned of values that may be, may be. -/
set_option linter.unusedVariables false
set_option linter.unusedSimpArgs false
namespace Go.Ew
open Go.Ev Go.Deep Go.Proofs.YtlemdiinmfneoaaGreat.Va

theorem parts_iff : ∀ {l : List V}, partsB l = true ↔ ∀ x ∈ l, kV x ≠ 7 ∧ fitV x = true
  | [] => by simp [partsB]
  | v :: l => by
    have ih := parts_iff (l := l)
    simp only [partsB, Bool.and_eq_true, decide_eq_true_eq, ih, List.forall_mem_cons]
    exact ⟨fun h => ⟨⟨h.1, h.2.1⟩, h.2.2⟩, fun h => ⟨h.1.1, h.1.2, h.2⟩⟩

theorem rise_pw {f : V → V → Int} (ht : ∀ x y z, f x y < 0 → f y z < 0 → f x z < 0) : ∀ {l : List V}, riseB f l = true → l.Pairwise fun a b => f a b < 0
  | [], _ => List.Pairwise.nil
  | [_], _ => by simp
  | a :: b :: l, h => by
    simp only [riseB, Bool.and_eq_true, decide_eq_true_eq] at h
    have ih := rise_pw ht (l := b :: l) h.2
    refine List.pairwise_cons.2 ⟨fun z hz => ?_, ih⟩
    rcases List.mem_cons.1 hz with rfl | hz
    · exact h.1
    · exact ht _ _ _ h.1 (List.rel_of_pairwise_cons ih hz)

theorem rise_srt {l : List V} (h : riseB cmpV l = true) : Srt l := rise_pw (fun x y z h1 h2 => (cmp3 x y z).2.1 h1 (by omega)) h
theorem rise_kr {l : List V} (h : riseB cmpK l = true) : KR l := rise_pw cmpK3 h

theorem pair_kids {x : V} (h : pairB x = true) : kV x = 4 ∧ (kidsL x).length = 2 ∧ 0 < kidsV x ∧ ∃ s y, kidsL x = [s, y] ∧ kV s = 3 := by
  obtain ⟨k, i, s, l⟩ := x
  simp only [pairB, Bool.and_eq_true, decide_eq_true_eq] at h
  obtain ⟨h1, h2, h3⟩ := h
  refine ⟨h1, h2, by simp [kidsV, h2], ?_⟩
  match l, h2, h3 with
  | [s, y], _, h3 => exact ⟨s, y, rfl, by simpa using h3⟩

theorem fit6 {i : Int} {s : ByteArray} {l : List V} (h : fitV (.mk 6 i s l) = true) : i = 0 ∧ strEq s emp = true ∧ (∀ x ∈ l, kV x ≠ 7 ∧ fitV x = true) ∧ (∀ x ∈ l, pairB x = true) ∧ KR l := by
  simp only [fitV] at h
  simp only [show ¬ (6 : Int) = 1 by decide, show ¬ (6 : Int) = 2 by decide, show ¬ (6 : Int) = 3 by decide, show ¬ (6 : Int) = 4 by decide, show ¬ (6 : Int) = 5 by decide, if_false, if_true, Bool.and_eq_true, decide_eq_true_eq] at h
  obtain ⟨⟨h1, h2, h3⟩, h4, h5⟩ := h
  exact ⟨h1, h2, parts_iff.1 h3, List.all_eq_true.1 h4, rise_kr h5⟩

theorem fit5 {i : Int} {s : ByteArray} {l : List V} (h : fitV (.mk 5 i s l) = true) : i = 0 ∧ strEq s emp = true ∧ (∀ x ∈ l, kV x ≠ 7 ∧ fitV x = true) ∧ Srt l := by
  simp only [fitV] at h
  simp only [show ¬ (5 : Int) = 1 by decide, show ¬ (5 : Int) = 2 by decide, show ¬ (5 : Int) = 3 by decide, show ¬ (5 : Int) = 4 by decide, if_false, if_true, Bool.and_eq_true, decide_eq_true_eq] at h
  obtain ⟨⟨h1, h2, h3⟩, h4⟩ := h
  exact ⟨h1, h2, parts_iff.1 h3, rise_srt h4⟩

theorem fit_kids {v : V} (h : fitV v = true) : ∀ x ∈ kidsL v, kV x ≠ 7 ∧ fitV x = true := by
  obtain ⟨k, i, s, l⟩ := v
  have hnil : l.length = 0 → ∀ x ∈ l, kV x ≠ 7 ∧ fitV x = true := fun h0 x hx => by
    have : l = [] := List.eq_nil_of_length_eq_zero h0
    subst this
    cases hx
  show ∀ x ∈ l, _
  simp only [fitV] at h
  split at h
  · simp only [Bool.and_eq_true, decide_eq_true_eq] at h; exact hnil h.2
  · split at h
    · simp only [Bool.and_eq_true, decide_eq_true_eq] at h; exact hnil h.2.2
    · split at h
      · simp only [Bool.and_eq_true, decide_eq_true_eq] at h; exact hnil h.2
      · split at h
        · simp only [Bool.and_eq_true, decide_eq_true_eq] at h; exact parts_iff.1 h.2.2
        · split at h
          · simp only [Bool.and_eq_true, decide_eq_true_eq] at h; exact parts_iff.1 h.1.2.2
          · split at h
            · simp only [Bool.and_eq_true, decide_eq_true_eq] at h; exact parts_iff.1 h.1.2.2
            · split at h
              · simp only [Bool.and_eq_true, decide_eq_true_eq] at h; exact hnil h.2.2
              · cases h

/-- A value that may be. -/
structure Ok (v : V) : Prop where
  sz : szV v ≤ 60
  fit : fitV v = true

theorem fit_list {l : List V} (h : ∀ x ∈ l, kV x ≠ 7 ∧ fitV x = true) : fitV (.mk 4 0 emp l) = true := by
  simp [fitV, emp_eq, parts_iff.2 h]
theorem fit_set {l : List V} (h : ∀ x ∈ l, kV x ≠ 7 ∧ fitV x = true) (hs : Srt l) : fitV (.mk 5 0 emp l) = true := by
  simp [fitV, emp_eq, parts_iff.2 h, rise_of hs]
theorem fit_env {l : List V} (h : ∀ x ∈ l, kV x ≠ 7 ∧ fitV x = true) (hp : ∀ x ∈ l, pairB x = true) (hs : KR l) : fitV (.mk 6 0 emp l) = true := by
  have h1 : l.all pairB = true := List.all_eq_true.2 hp
  have h2 : riseB cmpK l = true := rise_of hs
  simp only [fitV]
  simp [emp_eq, parts_iff.2 h, h1, h2]
theorem fit_bad {n : Int} (h1 : 1 ≤ n) (h2 : n ≤ 13) : fitV (badV n) = true := by simp [badV, fitV, emp_eq, h1, h2]
theorem fit_num {n : Int} : fitV (numV n) = true := by simp [numV, fitV, emp_eq]
theorem fit_str {s : ByteArray} : fitV (strV s) = true := by simp [strV, fitV]
theorem fit_tru {b : Bool} : fitV (truV b) = true := by cases b <;> simp [truV, fitV, emp_eq]
theorem sz_bad {n : Int} : szV (badV n) = 1 := rfl
theorem fit_numIf {b : Bool} {n : Int} : fitV (numIfV b n) = true := by
  unfold numIfV
  split
  · exact fit_num
  · exact fit_bad (by decide) (by decide)

theorem cmpS_congr {x y z : ByteArray} (h : strEq x y = true) : cmpS' x z = cmpS' y z := by
  have h : x.toList = y.toList := by simpa [strEq] using h
  rw [cmpS_eq, cmpS_eq, h]

theorem kr_put {s : ByteArray} {P : V} (hk : keyV P = s) : ∀ {m : List V}, KR m → (∀ x ∈ m, 0 < kidsV x) → KR (m.take (findV s m).1 ++ [P] ++ m.drop (if (findV s m).2 = true then (findV s m).1 + 1 else (findV s m).1))
  | [], _, _ => by simp [KR]
  | y :: l, h, hc => by
    have hy : ∀ {w}, w ∈ l → cmpK y w < 0 := fun hw => List.rel_of_pairwise_cons h hw
    have hl : KR l := h.of_cons
    by_cases hlt : strLt (keyV y) s = true
    · have ih := kr_put hk hl (fun x hx => hc x (by simp [hx]))
      have e : (if (findV s (y :: l)).2 = true then (findV s (y :: l)).1 + 1 else (findV s (y :: l)).1) = (if (findV s l).2 = true then (findV s l).1 + 1 else (findV s l).1) + 1 := by
        simp only [findV, if_pos hlt]
        split <;> rfl
      have e1 : (findV s (y :: l)).1 = (findV s l).1 + 1 := by simp only [findV, if_pos hlt]
      rw [e, e1, List.take_succ_cons, List.drop_succ_cons, List.cons_append, List.cons_append]
      refine List.pairwise_cons.2 ⟨fun z hz => ?_, ih⟩
      rcases List.mem_append.1 hz with hz | hz
      · rcases List.mem_append.1 hz with hz | hz
        · exact hy (List.mem_of_mem_take hz)
        · have : z = P := by simpa using hz
          subst this
          show cmpS' (keyV y) (keyV z) < 0
          rw [hk]; exact lt_cmp hlt
      · exact hy (List.mem_of_mem_drop hz)
    · have e1 : (findV s (y :: l)).1 = 0 := by simp only [findV, if_neg hlt]
      rw [e1, List.take_zero, List.nil_append]
      have h0 : 0 < kidsV y := hc y (by simp)
      have e2 : (findV s (y :: l)).2 = strEq (keyV y) s := by simp only [findV, if_neg hlt, decide_eq_true h0, Bool.true_and]
      rw [e2]
      by_cases he : strEq (keyV y) s = true
      · rw [if_pos he]
        refine List.pairwise_cons.2 ⟨fun z hz => ?_, hl⟩
        have := hy (w := z) (by simpa using hz)
        show cmpS' (keyV P) (keyV z) < 0
        rw [hk, ← cmpS_congr he]
        exact this
      · rw [if_neg he]
        have he : strEq (keyV y) s = false := by simpa using he
        have hP : cmpK P y < 0 := by
          show cmpS' (keyV P) (keyV y) < 0
          rw [hk]
          have := cmpS_neg (keyV y) s
          have h2 := cmpS_str (keyV y) s
          rw [he] at h2
          simp [hlt] at h2
          omega
        refine List.pairwise_cons.2 ⟨fun z hz => ?_, h⟩
        rcases List.mem_cons.1 hz with rfl | hz
        · exact hP
        · exact cmpK3 _ _ _ hP (hy hz)

theorem mem_put {l : List V} {s : ByteArray} {v z : V} (h : z ∈ putV l s v) : z ∈ l ∨ z = .mk 4 0 emp [strV s, v] := by
  unfold putV at h
  rcases List.mem_append.1 h with h | h
  · rcases List.mem_append.1 h with h | h
    · exact .inl (List.mem_of_mem_take h)
    · exact .inr (by simpa using h)
  · exact .inl (List.mem_of_mem_drop h)

theorem fit_put {i : Int} {t s : ByteArray} {l : List V} {v : V} (h : fitV (.mk 6 i t l) = true) (hv : kV v ≠ 7 ∧ fitV v = true) : fitV (.mk 6 0 emp (putV l s v)) = true := by
  obtain ⟨_, _, h3, h4, h5⟩ := fit6 h
  refine fit_env (fun x hx => ?_) (fun x hx => ?_) (kr_put (P := .mk 4 0 emp [strV s, v]) (s := s) rfl h5 fun x hx => (pair_kids (h4 x hx)).2.2.1)
  · rcases mem_put hx with hx | rfl
    · exact h3 x hx
    · refine ⟨by simp [kV], fit_list fun y hy => ?_⟩
      rcases List.mem_cons.1 hy with rfl | hy
      · exact ⟨by simp [strV, kV], fit_str⟩
      · have : y = v := by simpa using hy
        subst this
        exact hv
  · rcases mem_put hx with hx | rfl
    · exact h4 x hx
    · simp [pairB, kV, strV]

theorem fit_get {i : Int} {t s : ByteArray} {l : List V} (h : fitV (.mk 6 i t l) = true) : fitV (getV l s) = true := by
  obtain ⟨_, _, h3, h4, h5⟩ := fit6 h
  unfold getV
  split
  · split
    · rename_i p hp
      have hm : p ∈ l := List.mem_of_getElem? hp
      obtain ⟨_, _, _, a, y, hk, _⟩ := pair_kids (h4 p hm)
      have := fit_kids (h3 p hm).2 y (by rw [hk]; simp)
      simp only [sndV, hk]
      exact this.2
    · exact fit_bad (by decide) (by decide)
  · exact fit_bad (by decide) (by decide)

theorem fit_ite {c : Prop} [Decidable c] {x y : V} (h1 : c → fitV x = true) (h2 : ¬ c → fitV y = true) : fitV (if c then x else y) = true := by
  split
  · exact h1 ‹_›
  · exact h2 ‹_›

theorem fit_two {op : Int} {a b : V} (ha : fitV a = true) (hb : fitV b = true) (ka : kV a ≠ 7) (kb : kV b ≠ 7) : fitV (twoV op a b) = true := by
  have bd : fitV (badV 4) = true := fit_bad (by decide) (by decide)
  obtain ⟨k, i, s, l⟩ := a
  have tru : ∀ {c : Prop} [Decidable c] {b : Bool}, fitV (if c then truV b else badV 4) = true := fun {c _ b} => fit_ite (fun _ => fit_tru) fun _ => bd
  unfold twoV
  refine fit_ite (fun _ => fit_ite (fun _ => fit_numIf) fun _ => bd) fun _ => fit_ite (fun _ => fit_ite (fun _ => fit_numIf) fun _ => bd) fun _ => fit_ite (fun _ => fit_ite (fun _ => fit_numIf) fun _ => bd) fun _ =>
    fit_ite (fun _ => fit_tru) fun _ => fit_ite (fun _ => fit_tru) fun _ => fit_ite (fun _ => tru) fun _ => fit_ite (fun _ => tru) fun _ =>
    fit_ite (fun _ => fit_ite (fun _ => fit_ite (fun _ => fit_str) fun _ => bd) fun _ => fit_ite (fun _ => ?_) fun _ => bd) fun _ =>
    fit_ite (fun _ => fit_ite (fun h => ?_) fun _ => bd) fun _ => fit_ite (fun _ => tru) fun _ => fit_ite (fun _ => fit_ite (fun h => ?_) fun _ => bd) fun _ => fit_ite (fun _ => tru) fun _ => fit_bad (by decide) (by decide)
  · refine fit_list fun x hx => ?_
    rcases List.mem_append.1 hx with hx | hx
    · exact fit_kids ha x hx
    · exact fit_kids hb x hx
  · obtain ⟨h, _⟩ := h
    have h : k = 6 := h
    subst h
    exact fit_get ha
  · have h : k = 5 := h
    subst h
    obtain ⟨_, _, h3, h4⟩ := fit5 ha
    refine fit_set (fun x hx => ?_) (srt_ins _ h4)
    rcases mem_ins hx with rfl | hx
    · exact ⟨kb, hb⟩
    · exact h3 x hx

theorem fit_reckon {op : Int} {l : List V} (h : ∀ x ∈ l, kV x ≠ 7 ∧ fitV x = true) (hn : op = 11 ∨ op = 15 → 1 ≤ l.length) (h3 : op = 16 → l.length = 3) (h2 : (op ≠ 21 ∧ op ≠ 22 ∧ op ≠ 14 ∧ op ≠ 11 ∧ op ≠ 15 ∧ op ≠ 16) → l.length = 2) : fitV (reckonV op l) = true := by
  have hb : fitV (badV 4) = true := fit_bad (by decide) (by decide)
  unfold reckonV
  split
  · rename_i e; exact fit_set (by simp) (by simp [Srt])
  · split
    · exact fit_env (by simp) (by simp) (by simp [KR])
    · split
      · exact fit_list h
      · split
        · unfold notV; split
          · exact fit_tru
          · exact hb
        · split
          · unfold lenV; repeat' split
            · exact fit_num
            · exact fit_num
            · exact hb
          · split
            · rename_i e
              match l, h3 e with
              | [a, b, c], _ =>
                simp only [List.getElem?_cons_zero, List.getElem?_cons_succ, Option.getD_some]
                split
                · rename_i hk
                  obtain ⟨k, i, s, m⟩ := a
                  obtain ⟨rfl, _⟩ := hk
                  exact fit_put (h (.mk 6 i s m) (by simp)).2 (h c (by simp))
                · exact hb
            · rename_i e1 e2 e3 e4 e5 e6
              match l, h2 ⟨e1, e2, e3, e4, e5, e6⟩ with
              | [a, b], _ =>
                simp only [List.getElem?_cons_zero, List.getElem?_cons_succ, Option.getD_some]
                have ha := h a (by simp)
                have hb := h b (by simp)
                exact fit_two ha.2 hb.2 ha.1 hb.1

theorem ok_small {v : V} (h : fitV v = true) : Ok (smallV v) := by
  unfold smallV
  split
  · rename_i hs; exact ⟨hs, h⟩
  · exact ⟨by rw [sz_bad]; decide, fit_bad (by decide) (by decide)⟩

theorem ok_taken (v : V) : Ok (takenV v) := by
  unfold takenV
  split
  · rename_i h
    simp only [Bool.and_eq_true, decide_eq_true_eq] at h
    exact ⟨h.1, h.2⟩
  · exact ⟨by rw [sz_bad]; decide, fit_bad (by decide) (by decide)⟩

theorem ok_bad {n : Int} (h1 : 1 ≤ n) (h2 : n ≤ 13) : Ok (badV n) := ⟨by rw [sz_bad]; decide, fit_bad h1 h2⟩
end Go.Ew

/- Contracts of what is reckoned of values. -/
set_option linter.unusedVariables false
set_option linter.unusedSimpArgs false
namespace Go.Ew
open Go.Ev Go.Deep Go.Proofs.YtlemdiinmfneoaaGreat.Va

theorem sum_flat : ∀ (ls : List (List V)), ls.flatten.length = (ls.map List.length).sum := fun ls => by simp [List.length_flatten]

theorem sum_take (ls : List (List V)) (j : Nat) : ((ls.take j).map List.length).sum ≤ (ls.map List.length).sum := by
  have h : (ls.map List.length).sum = ((ls.take j).map List.length).sum + ((ls.drop j).map List.length).sum := by
    rw [← List.sum_append, ← List.map_append, List.take_append_drop]
  omega

theorem sum_succ {ls : List (List V)} {j : Nat} {l : List V} (h : ls[j]? = some l) : ((ls.take (j + 1)).map List.length).sum = ((ls.take j).map List.length).sum + l.length := by
  rw [List.take_add_one, h]
  simp

theorem take_drop_size : ∀ (l : List V) (j : Nat), szL (l.take j) + szL (l.drop j) = szL l := fun l j => by rw [← szL_app, List.take_append_drop]
end Go.Ew

namespace Go.Proofs.YtlemdiinmfneoaaGreat
open Go.Ev Go.Ew
namespace Va
section
variable (ok : EnvOk (env Tryz.prog))
include ok

/-- Rows, one behind the other. -/
theorem cat69 {ls : List (List V)} {n8 : Nat} {H : KH} {Q : PQ} (part : ∀ j l, ls[j]? = some l → ∃ a c, ld H ⟨n8, 0 + j * 1, none⟩ [.slice a l.length c] ∧ RS H l a) (hm : ls.length ≤ 1000) (hn : ls.flatten.length ≤ 60000)
    (hq : ∀ a' c' H', Row H H' ls.flatten a' c' → Q (.slice a' ls.flatten.length c') H') : Does (env Tryz.prog) 79 [.slice (some ⟨n8, 0, none⟩) ls.length ls.length] H Q := by
  let sum : Nat → Nat := fun j => ((ls.take j).map List.length).sum
  have sumS : ∀ j l, ls[j]? = some l → sum (j + 1) = sum j + l.length := fun j l hl => sum_succ hl
  have sumA : sum ls.length = ls.flatten.length := by rw [sum_flat]; simp only [sum, List.take_length]
  have sumL : ∀ j, sum j ≤ ls.flatten.length := fun j => by rw [sum_flat]; exact sum_take ls j
  refine fn79 ok ?_
  unfold vc79 vc79_L3
  refine ⟨fun m a4 n5 n6 x7 a8 n9 n10 x11 x12 H13 => a4 = some ⟨n8, 0, none⟩ ∧ n5 = ls.length ∧ a8 = some ⟨n8, 0, none⟩ ∧ n9 = ls.length ∧ x11 = (ls.length : Nat) ∧ H13 = H ∧ ∃ j : Nat, x12 = j ∧ j ≤ ls.length ∧ m = ls.length - j ∧ x7 = sum j, ⟨ls.length, rfl, rfl, rfl, rfl, rfl, rfl, 0, rfl, by omega, rfl, by simp [sum]⟩, ?_⟩
  rintro m a4 n5 n6 x7 a8 n9 n10 x11 x12 H13 ⟨rfl, rfl, rfl, rfl, rfl, rfl, j, rfl, hj, rfl, rfl⟩
  have hsj := sumL j
  refine ⟨fun hlt => ?_, fun hge => ?_⟩
  · have hlt : j < ls.length := by have := of_decide_eq_true hlt; omega
    have hl : ls[j]? = some ls[j] := by simp [hlt]
    obtain ⟨a, c, hld, hrs⟩ := part j _ hl
    have hs1 := sumS j _ hl
    have hs2 := sumL (j + 1)
    generalize ls[j] = l at *
    have hw : IntKind.wrap .i64 ((sum j : Int) + (l.length : Nat)) = ((sum (j + 1) : Nat) : Int) := by rw [wrap64 (by omega) (by omega)]; omega
    refine ⟨⟨by omega, by omega⟩, n8, 0, rfl, a, l.length, c, by simpa using hld, ?_⟩
    rw [hw]
    refine ⟨fun h => by simp at h; omega, fun _ => ⟨ls.length - (j + 1), by omega, rfl, rfl, rfl, rfl, rfl, rfl, j + 1, ?_, by omega, rfl, rfl⟩⟩
    rw [wrap64 (by omega) (by omega)]; omega
  · have hge : ls.length ≤ j := by have := of_decide_eq_false hge; omega
    have hj3 : j = ls.length := by omega
    subst hj3
    refine c114 ok (by omega) fun a c H' hR => ⟨a, 0, c, rfl, ?_⟩
    unfold vc79_L2
    refine ⟨fun m a4 n5 n6 a7 n8' n9 x10 x11 H12 => a7 = some ⟨n8, 0, none⟩ ∧ n8' = ls.length ∧ x10 = (ls.length : Nat) ∧ ∃ (j : Nat) (cs : List Value), x11 = j ∧ j ≤ ls.length ∧ m = ls.length - j ∧ n5 = sum j ∧ Room H13 (sum ls.length) H12 a4 n5 n6 cs ∧ RC H13 ((ls.take j).flatten) cs, ⟨ls.length, rfl, rfl, rfl, 0, [], rfl, by omega, rfl, by simp [sum], hR, by simp [RC]⟩, ?_⟩
    rintro m a4 n5 n6 a7 n8' n9 x10 x11 H12 ⟨rfl, rfl, rfl, j, cs, rfl, hj, rfl, rfl, hR, hrc⟩
    have hle : Le H13 H12 := hR.le
    refine ⟨fun hlt => ?_, fun hge => ?_⟩
    · have hlt : j < ls.length := by have := of_decide_eq_true hlt; omega
      have hl : ls[j]? = some ls[j] := by simp [hlt]
      obtain ⟨a, c, hld, hrs⟩ := part j _ hl
      have htk : ls.take (j + 1) = ls.take j ++ [ls[j]] := by rw [List.take_add_one, hl]; rfl
      have hs1 := sumS j _ hl
      have hs2 := sumL (j + 1)
      generalize ls[j] = l at *
      obtain ⟨cl, hcl, hrl⟩ := hrs.cells
      refine ⟨⟨by omega, by omega⟩, n8, 0, rfl, a, l.length, c, by simpa using hle.ld hld, fun nm hnm => ⟨l.length, cl, knew_of (hle.kold hcl), ?_⟩⟩
      obtain ⟨a', c', H'', hap, hR'⟩ := Room.append (ti := VT) (nm := nm) rfl (by decide) hR (kold_len hcl) (by omega) (by omega)
      refine ⟨a', _, c', H'', hap, ls.length - (j + 1), by omega, rfl, rfl, rfl, j + 1, cs ++ cl, ?_, by omega, rfl, by omega, hR', ?_⟩
      · rw [wrap64 (by omega) (by omega)]; omega
      · rw [htk, List.flatten_append]
        refine hrc.append ?_
        simpa using hrl
    · have hge : ls.length ≤ j := by have := of_decide_eq_false hge; omega
      have hj3 : j = ls.length := by omega
      subst hj3
      rw [List.take_length] at hrc
      rw [sumA] at hR ⊢
      obtain ⟨k1, k2, k3⟩ := hR.out (by omega) hrc
      exact hq _ _ _ ⟨k1, k2, k3⟩

omit ok in
theorem ansRow {H H' : KH} {l : List V} {a : OA} {c : Nat} {k : Int} {Q : PQ} (hR : Row H H' l a c) (hq : Ans H (.mk k 0 emp l) Q) : Q (.agg #[.int .i64 k, .int .i64 0, .string emp, .slice a l.length c]) H' :=
  hq _ H' hR.le ⟨a, _, c, rfl, rfl, hR.row, hR.cut⟩

theorem c95 {l m : List V} {a a' : OA} {c c' : Nat} {H : KH} {Q : PQ} (h1 : RS H l a) (h2 : RS H m a') (hn : l.length + m.length ≤ 60000) (hq : Ans H (.mk 4 0 emp (l ++ m)) Q) :
    Does (env Tryz.prog) 95 [.slice a l.length c, .slice a' m.length c'] H Q := by
  refine fn95 ok fun n1 hn1 => ?_
  have hle := Le.new hn1 (e := mkEnt [.slice a l.length c, .slice a' m.length c'] 0)
  have hat : (H.new n1 (mkEnt [.slice a l.length c, .slice a' m.length c'] 0)) n1 = some (mkEnt [.slice a l.length c, .slice a' m.length c'] 0) := if_pos rfl
  refine cat69 ok (ls := [l, m]) (fun j x hx => ?_) (by simp) (by simp; omega) fun a3 c3 H3 hR => ⟨a3, _, c3, rfl, ?_⟩
  · match j, hx with
    | 0, hx => simp at hx; subst hx; exact ⟨a, c, lit_get hat rfl, h1.mono hle⟩
    | 1, hx => simp at hx; subst hx; exact ⟨a', c', lit_get hat rfl, h2.mono hle⟩
    | j + 2, hx => simp at hx
  · have : [l, m].flatten = l ++ m := by simp
    rw [this] at hR ⊢
    exact ansRow hR (hq.mono hle)

theorem c66 {l : List V} {v : V} {a : OA} {c : Nat} {s : ByteArray} {cv : List Value} {H : KH} {Q : PQ} (hl : RS H l a) (hok : SlOk H 4 a l.length c) (hk : KR l) (hc : ∀ x ∈ l, 0 < kidsV x) (hv : RV H v cv) (hn : l.length ≤ 50000)
    (hq : Ans H (.mk 6 0 emp (putV l s v)) Q) : Does (env Tryz.prog) 66 [.slice a l.length c, .string s, .agg cv.toArray] H Q := by
  have hv' := hv
  obtain ⟨k, i, t, lv⟩ := v
  obtain ⟨av, nv, cv, rfl, rfl, hlv, hokv⟩ := hv
  refine fn66 ok ⟨trivial, fn59 ok ⟨_, _, _, _, _, _, rfl, ⟨rfl, trivial⟩, fun n9 hn9 => ⟨trivial, ?_⟩⟩⟩
  have hle9 := Le.new hn9 (e := mkEnt [.int .i64 3, .int .i64 0, .string s, .slice none 0 0, .int .i64 k, .int .i64 i, .string t, .slice av lv.length cv] 0)
  have hat9 : (H.new n9 (mkEnt [.int .i64 3, .int .i64 0, .string s, .slice none 0 0, .int .i64 k, .int .i64 i, .string t, .slice av lv.length cv] 0)) n9 = some (mkEnt [.int .i64 3, .int .i64 0, .string s, .slice none 0 0, .int .i64 k, .int .i64 i, .string t, .slice av lv.length cv] 0) := if_pos rfl
  have hown : Own H (H.new n9 (mkEnt [.int .i64 3, .int .i64 0, .string s, .slice none 0 0, .int .i64 k, .int .i64 i, .string t, .slice av lv.length cv] 0)) 4 (some ⟨n9, 0, none⟩) 2 2 [.int .i64 3, .int .i64 0, .string s, .slice none 0 0, .int .i64 k, .int .i64 i, .string t, .slice av lv.length cv] := .lit n9 2 _ hat9 rfl (by decide) hn9
  have hpair : RV (H.new n9 (mkEnt [.int .i64 3, .int .i64 0, .string s, .slice none 0 0, .int .i64 k, .int .i64 i, .string t, .slice av lv.length cv] 0)) (.mk 4 0 emp [strV s, .mk k i t lv]) [.int .i64 4, .int .i64 0, .string emp, .slice (some ⟨n9, 0, none⟩) 2 2] :=
    ⟨_, _, _, rfl, rfl, RS.of_cells hown.cells (RC.append (l := [strV s]) (m := [.mk k i t lv]) (RC.one leaf) (RC.one (hv'.mono hle9))), hown.ok (by decide)⟩
  generalize H.new n9 (mkEnt [.int .i64 3, .int .i64 0, .string s, .slice none 0 0, .int .i64 k, .int .i64 i, .string t, .slice av lv.length cv] 0) = H1 at *
  generalize V.mk k i t lv = v at *
  have hfl := find_le s l
  have hspec := find_spec (s := s) hk hc
  refine c78 ok (hl.mono hle9) (by omega) hk hc fun H2 hle2 => ⟨_, _, rfl, ?_⟩
  have le02 := hle9.trans hle2
  obtain ⟨cs, hcs, hrc⟩ := hl.cells
  have go : ∀ (q : Nat) (hq1 : (findV s l).1 ≤ q) (hq2 : q ≤ l.length) (hput : putV l s v = l.take (findV s l).1 ++ [.mk 4 0 emp [strV s, v]] ++ l.drop q),
      ∃ (a1 : OA) (n2 n3 : Nat), kslice H2 4 a l.length c none (some (.int .i64 ((findV s l).1 : Int))) = some (.slice a1 n2 n3) ∧ ∀ n4, H2 n4 = none →
        ∃ (a5 : OA) (n6 n7 : Nat), kslice (H2.new n4 (mkEnt [.int .i64 4, .int .i64 0, .string emp, .slice (some ⟨n9, 0, none⟩) 2 2] 0)) 4 a l.length c (some (.int .i64 (q : Int))) none = some (.slice a5 n6 n7) ∧
          ∀ n8, (H2.new n4 (mkEnt [.int .i64 4, .int .i64 0, .string emp, .slice (some ⟨n9, 0, none⟩) 2 2] 0)) n8 = none →
            Does (env Tryz.prog) 79 [.slice (some ⟨n8, 0, none⟩) 3 3] ((H2.new n4 (mkEnt [.int .i64 4, .int .i64 0, .string emp, .slice (some ⟨n9, 0, none⟩) 2 2] 0)).new n8 (mkEnt [.slice a1 n2 n3, .slice (some ⟨n4, 0, none⟩) 1 1, .slice a5 n6 n7] 0)) fun v9 H10 =>
              ∃ (a11 : OA) (n12 n13 : Nat), v9 = .slice a11 n12 n13 ∧ (True ∧ (True ∧ Q (.agg #[.int .i64 6, .int .i64 0, .string (ByteArray.mk #[]), .slice a11 n12 n13]) H10)) := by
    intro q hq1 hq2 hput
    obtain ⟨aL, cL, hL1, hL2⟩ := cut_lo (hok.mono le02) (le02.kold hcs) hfl
    obtain ⟨aR, cR, hR1, hR2⟩ := cut_hi (hok.mono le02) (le02.kold hcs) hq2
    refine ⟨aL, _, cL, hL1, fun n4 hn4 => ⟨aR, _, cR, (Le.new hn4).kslice hR1, fun n8 hn8 => ?_⟩⟩
    have le4 := Le.new hn4 (e := mkEnt [.int .i64 4, .int .i64 0, .string emp, .slice (some ⟨n9, 0, none⟩) 2 2] 0)
    have hat4 : (H2.new n4 (mkEnt [.int .i64 4, .int .i64 0, .string emp, .slice (some ⟨n9, 0, none⟩) 2 2] 0)) n4 = some (mkEnt [.int .i64 4, .int .i64 0, .string emp, .slice (some ⟨n9, 0, none⟩) 2 2] 0) := if_pos rfl
    have hown4 : Own H2 (H2.new n4 (mkEnt [.int .i64 4, .int .i64 0, .string emp, .slice (some ⟨n9, 0, none⟩) 2 2] 0)) 4 (some ⟨n4, 0, none⟩) 1 1 [.int .i64 4, .int .i64 0, .string emp, .slice (some ⟨n9, 0, none⟩) 2 2] := .lit n4 1 _ hat4 rfl (by decide) hn4
    generalize H2.new n4 (mkEnt [.int .i64 4, .int .i64 0, .string emp, .slice (some ⟨n9, 0, none⟩) 2 2] 0) = H4 at *
    have le8 := Le.new hn8 (e := mkEnt [.slice aL (findV s l).1 cL, .slice (some ⟨n4, 0, none⟩) 1 1, .slice aR (l.length - q) cR] 0)
    have hat8 : (H4.new n8 (mkEnt [.slice aL (findV s l).1 cL, .slice (some ⟨n4, 0, none⟩) 1 1, .slice aR (l.length - q) cR] 0)) n8 = some (mkEnt [.slice aL (findV s l).1 cL, .slice (some ⟨n4, 0, none⟩) 1 1, .slice aR (l.length - q) cR] 0) := if_pos rfl
    generalize H4.new n8 (mkEnt [.slice aL (findV s l).1 cL, .slice (some ⟨n4, 0, none⟩) 1 1, .slice aR (l.length - q) cR] 0) = H8 at *
    have le28 := le4.trans le8
    have le08 := le02.trans le28
    have hc := hrc.cut (findV s l).1
    have hcq := hrc.cut q
    have e1 : (l.take (findV s l).1).length = (findV s l).1 := by rw [List.length_take]; omega
    have e2 : (l.drop q).length = l.length - q := by rw [List.length_drop]
    have hfl3 : [l.take (findV s l).1, [V.mk 4 0 emp [strV s, v]], l.drop q].flatten = putV l s v := by rw [hput]; simp
    refine cat69 ok (ls := [l.take (findV s l).1, [.mk 4 0 emp [strV s, v]], l.drop q]) (fun j x hx => ?_) (by simp) ?_ fun a3 c3 H3 hR => ⟨a3, _, c3, rfl, trivial, trivial, ?_⟩
    · match j, hx with
      | 0, hx =>
        simp at hx; subst hx
        exact ⟨aL, cL, by rw [e1]; exact lit_get hat8 rfl, RS.of_cells (by rw [e1]; exact le28.kold hL2) (hc.1.mono le08)⟩
      | 1, hx =>
        simp at hx; subst hx
        exact ⟨some ⟨n4, 0, none⟩, 1, lit_get hat8 rfl, RS.of_cells (le8.kold hown4.cells) (RC.one (hpair.mono (hle2.trans le28)))⟩
      | 2, hx =>
        simp at hx; subst hx
        exact ⟨aR, cR, by rw [e2]; exact lit_get hat8 rfl, RS.of_cells (by rw [e2]; exact le28.kold hR2) (hcq.2.mono le08)⟩
      | j + 3, hx => simp at hx
    · rw [hfl3, hput]; simp only [List.length_append, List.length_cons, List.length_nil]; omega
    · rw [hfl3] at hR ⊢
      exact ansRow hR (hq.mono le08)
  refine ⟨fun hb => ⟨trivial, ?_⟩, fun hb => ⟨trivial, ?_⟩⟩
  · obtain ⟨y, hy, _⟩ := hspec.2.2.2.1 hb
    have hlt : (findV s l).1 < l.length := by
      rcases Nat.lt_or_ge (findV s l).1 l.length with q | q
      · exact q
      · rw [List.getElem?_eq_none q] at hy; cases hy
    have hw : IntKind.wrap .i64 (((findV s l).1 : Int) + 1) = (((findV s l).1 + 1 : Nat) : Int) := by rw [wrap64 (by omega) (by omega)]; omega
    rw [hw]
    exact go ((findV s l).1 + 1) (by omega) (by omega) (by rw [putV, if_pos hb])
  · exact go (findV s l).1 (by omega) (by omega) (by rw [putV, if_neg (by rw [hb]; decide)])

theorem c97 {l : List V} {a : OA} {c : Nat} {s : ByteArray} {H : KH} {Q : PQ} (hl : RS H l a) (hk : KR l) (hp : ∀ x ∈ l, pairB x = true) (hn : l.length ≤ 50000)
    (hq : Ans H (getV l s) Q) : Does (env Tryz.prog) 97 [.slice a l.length c, .string s] H Q := by
  have hc : ∀ x ∈ l, 0 < kidsV x := fun x hx => (pair_kids (hp x hx)).2.2.1
  have hspec := find_spec (s := s) hk hc
  refine fn97 ok (c78 ok hl (by omega) hk hc fun H2 hle => ⟨_, _, rfl, fun h => ?_, fun h => ?_⟩)
  · have h : (findV s l).2 = false := by simpa using h
    rw [show getV l s = badV 7 from if_neg (by rw [h]; decide)] at hq
    exact c38 ok (hq.mono hle).wrap
  · have h : (findV s l).2 = true := by simpa using h
    obtain ⟨y, hy, _⟩ := hspec.2.2.2.1 h
    have hlt : (findV s l).1 < l.length := by
      rcases Nat.lt_or_ge (findV s l).1 l.length with q | q
      · exact q
      · rw [List.getElem?_eq_none q] at hy; cases hy
    have hg : getV l s = sndV y := by
      unfold getV
      rw [if_pos h, hy]
    rw [hg] at hq
    have hm : y ∈ l := List.mem_of_getElem? hy
    obtain ⟨_, hlen, _, k0, z, hkids, _⟩ := pair_kids (hp y hm)
    obtain ⟨b, o, ha, cy, hld, hrv⟩ := RS.get (hl.mono hle) hy
    obtain ⟨k, i, t, ly⟩ := y
    simp only [kidsL] at hkids
    subst hkids
    obtain ⟨ay, ny, cyy, rfl, rfl, hsy, hoy⟩ := hrv
    obtain ⟨b2, o2, ha2, cz, hldz, hrvz⟩ := RS.get (j := 1) hsy (by simp : [k0, z][1]? = some z)
    have hz' : sndV (.mk k i t [k0, z]) = z := rfl
    rw [hz'] at hq
    have hrz := hrvz
    obtain ⟨kz, iz, sz, lz⟩ := z
    obtain ⟨az, nz, cz', rfl, rfl, hlz, hoz⟩ := hrvz
    refine ⟨⟨by omega, by omega⟩, b, o, ha, rfl, ay, _, cyy, by simpa using ld_sub hld 3 1 (by simp), ⟨by omega, by simp⟩, b2, o2, ha2, kz, iz, sz, az, _, cz', by simpa using hldz, hq _ H2 hle hrz⟩

theorem c98 {l : List V} {a : OA} {c : Nat} {s : ByteArray} {H : KH} {Q : PQ} (hl : RS H l a) (hk : KR l) (hp : ∀ x ∈ l, pairB x = true) (hn : l.length ≤ 50000)
    (hq : Ans H (truV (findV s l).2) Q) : Does (env Tryz.prog) 98 [.slice a l.length c, .string s] H Q :=
  fn98 ok (c78 ok hl (by omega) hk (fun x hx => (pair_kids (hp x hx)).2.2.1) fun H2 hle => ⟨_, _, rfl, c77 ok (hq.mono hle).wrap⟩)

theorem c100 {l : List V} {x : V} {a : OA} {c : Nat} {cx : List Value} {H : KH} {Q : PQ} (hl : RS H l a) (hok : SlOk H 4 a l.length c) (hs : Srt l) (hx : RV H x cx) (h1 : szL l ≤ 20000) (h2 : szV x ≤ 20000)
    (hq : Ans H (.mk 5 0 emp (insV x l)) Q) : Does (env Tryz.prog) 100 [.slice a l.length c, .agg cx.toArray] H Q := by
  have hx' := hx
  obtain ⟨k, i, s, lx⟩ := x
  obtain ⟨ax, nx, cx, rfl, rfl, hlx, hokx⟩ := hx
  exact fn100 ok (c55 ok hl hok hs hx' (by omega) (by omega) fun a' c' H' hR => ⟨a', _, c', rfl, ansRow hR hq⟩)

theorem c117 {l : List V} {a : OA} {c g p : Nat} {x : V} {cx : List Value} {f : V → Int} {H : KH} {Q : PQ} (hl : RS H l a) (hn : l.length ≤ 1000000) (hx : RV H x cx)
    (hg : ∀ v ∈ l, ∀ (cv : List Value) (Q : PQ), RV H v cv → Q (.int .i64 (f v)) H → Does (env Tryz.prog) g [.agg cv.toArray, .agg cx.toArray] H Q)
    (hp : p ≤ l.length) (h1 : ∀ i v, i < p → l[i]? = some v → f v < 0) (h2 : ∀ i v, p ≤ i → l[i]? = some v → 0 ≤ f v)
    (hq : ∀ b : Bool, (b = true → ∃ v, l[p]? = some v ∧ f v = 0) → (b = false → ∀ v, l[p]? = some v → f v ≠ 0) → Q (.tuple #[.int .i64 p, .bool b]) H) :
    Does (env Tryz.prog) 117 [.slice a l.length c, .agg cx.toArray, .func (.func g) #[] #[]] H Q := by
  have hx' := hx
  obtain ⟨k, i, s, lx⟩ := x
  obtain ⟨ax, nx, cx, rfl, rfl, hlx, hokx⟩ := hx
  refine fn117 ok ?_
  unfold vc117 vc117_L2
  refine ⟨fun m a4 n5 n6 n7 x8 x9 s10 a11 n12 n13 x14 x15 x16 H17 => a4 = a ∧ n5 = l.length ∧ n7 = g ∧ x8 = k ∧ x9 = i ∧ s10 = s ∧ a11 = ax ∧ n12 = lx.length ∧ n13 = cx ∧ x14 = (l.length : Nat) ∧ H17 = H ∧
    ∃ u w : Nat, x15 = u ∧ x16 = w ∧ u ≤ p ∧ p ≤ w ∧ w ≤ l.length ∧ m = w - u, ⟨l.length, rfl, rfl, rfl, rfl, rfl, rfl, rfl, rfl, rfl, rfl, rfl, 0, l.length, rfl, rfl, by omega, hp, by omega, by omega⟩, ?_⟩
  rintro m a4 n5 n6 n7 x8 x9 s10 a11 n12 n13 x14 x15 x16 H17 ⟨rfl, rfl, rfl, rfl, rfl, rfl, rfl, rfl, rfl, rfl, rfl, u, w, rfl, rfl, hu, hw, hwl, rfl⟩
  refine ⟨fun hlt => ?_, fun hge => ⟨trivial, ?_⟩⟩
  · have hlt : u < w := by have := of_decide_eq_true hlt; omega
    have hmid : IntKind.wrap .i64 (Int.fdiv (IntKind.wrap .u64 (IntKind.wrap .i64 ((u : Int) + (w : Int)))) (2 ^ (min (Int.toNat 1) (IntKind.bits .u64)))) = (((u + w) / 2 : Nat) : Int) := by
      rw [mid (by omega) (by omega) (by omega) (by omega)]; omega
    rw [hmid]
    have hh : (u + w) / 2 < l.length := by omega
    generalize hhv : (u + w) / 2 = h at *
    have hy : l[h]? = some l[h] := by simp [hh]
    obtain ⟨b, o, ha, cy, hld, hrv⟩ := RS.get hl hy
    have hm : l[h] ∈ l := List.getElem_mem hh
    have hrv' := hrv
    have e1 := h1 h l[h]
    have e2 := h2 h l[h]
    generalize l[h] = y at *
    obtain ⟨k1, i1, s1, ly⟩ := y
    obtain ⟨ay, ny, cy', rfl, rfl, hsy, hoy⟩ := hrv
    refine ⟨by decide, trivial, ⟨by omega, by omega⟩, b, o, ha, k1, i1, s1, ay, ly.length, cy', by simpa using hld, hg _ hm _ _ hrv' ⟨_, rfl, trivial, fun hc => ?_, fun hc => ?_⟩⟩
    · have hc : f (.mk k1 i1 s1 ly) < 0 := by simpa using hc
      have hph : h < p := by
        rcases Nat.lt_or_ge h p with q | q
        · exact q
        · have := e2 q hy; omega
      refine ⟨w - (h + 1), by omega, rfl, rfl, rfl, rfl, rfl, rfl, rfl, rfl, rfl, rfl, rfl, h + 1, w, ?_, rfl, by omega, hw, hwl, rfl⟩
      rw [wrap64 (by omega) (by omega)]; omega
    · have hc : 0 ≤ f (.mk k1 i1 s1 ly) := by simpa using hc
      have hph : p ≤ h := by
        rcases Nat.lt_or_ge h p with q | q
        · have := e1 q hy; omega
        · exact q
      exact ⟨h - u, by omega, rfl, rfl, rfl, rfl, rfl, rfl, rfl, rfl, rfl, rfl, rfl, u, h, rfl, rfl, hu, hph, by omega, rfl⟩
  · have hge : w ≤ u := by have := of_decide_eq_false hge; omega
    have hup : u = p := by omega
    subst hup
    refine ⟨fun hlt => ?_, fun hge => ⟨⟨rfl, trivial⟩, hq false (fun h => by cases h) fun _ v hv => ?_⟩⟩
    · have hlt : u < l.length := by have := of_decide_eq_true hlt; omega
      have hy : l[u]? = some l[u] := by simp [hlt]
      obtain ⟨b, o, ha, cy, hld, hrv⟩ := RS.get hl hy
      have hm : l[u] ∈ l := List.getElem_mem hlt
      have hrv' := hrv
      generalize l[u] = y at *
      obtain ⟨k1, i1, s1, ly⟩ := y
      obtain ⟨ay, ny, cy', rfl, rfl, hsy, hoy⟩ := hrv
      refine ⟨⟨by omega, by omega⟩, b, o, ha, k1, i1, s1, ay, ly.length, cy', by simpa using hld, hg _ hm _ _ hrv' ⟨_, rfl, ⟨rfl, trivial⟩, hq _ (fun hb => ⟨_, hy, by simpa using hb⟩) fun hb v hv => ?_⟩⟩
      rw [hy] at hv
      cases hv
      simpa using hb
    · have hge : l.length ≤ u := by have := of_decide_eq_false hge; omega
      rw [List.getElem?_eq_none hge] at hv
      cases hv

theorem c102 {l : List V} {x : V} {a : OA} {c : Nat} {cx : List Value} {H : KH} {Q : PQ} (hl : RS H l a) (hs : Srt l) (hx : RV H x cx) (h1 : szL l ≤ 30000) (h2 : szV x ≤ 20000)
    (hq : Ans H (truV (memV l x)) Q) : Does (env Tryz.prog) 102 [.slice a l.length c, .agg cx.toArray] H Q := by
  have hll := len_szL l
  obtain ⟨p, hp, p1, p2, p3, p4⟩ := ins_place x l hs
  have hfin : ∀ b : Bool, (b = true → ∃ v, l[p]? = some v ∧ cmpV v x = 0) → (b = false → ∀ v, l[p]? = some v → cmpV v x ≠ 0) → b = memV l x := by
    intro b hb1 hb2
    cases b with
    | true =>
      obtain ⟨v, hv, he⟩ := hb1 rfl
      exact (mem_iff.2 ⟨v, List.mem_of_getElem? hv, he⟩).symm
    | false =>
      cases hm : memV l x with
      | false => rfl
      | true =>
        exfalso
        obtain ⟨v, hv, he⟩ := mem_iff.1 hm
        obtain ⟨j, hj, rfl⟩ := List.getElem_of_mem hv
        have hjv : l[j]? = some l[j] := by simp [hj]
        rcases Nat.lt_trichotomy j p with q | q | q
        · have := p1 j _ q hjv; omega
        · subst q; exact hb2 rfl _ hjv he
        · have hpl : p < l.length := by omega
          have hpv : l[p]? = some l[p] := by simp [hpl]
          have h3 := p2 p _ (Nat.le_refl _) hpv
          have h4 := hb2 rfl _ hpv
          have h5 : cmpV l[p] l[j] < 0 := List.pairwise_iff_getElem.1 hs p j hpl hj q
          have h6 := (cmp3 x l[p] l[j]).2.1
          have h7 := cmpV_neg l[p] x
          have h8 := cmpV_neg l[j] x
          omega
  have hx' := hx
  obtain ⟨k, i, s, lx⟩ := x
  obtain ⟨ax, nx, cx, rfl, rfl, hlx, hokx⟩ := hx
  refine fn102 ok (c117 ok (f := fun v => cmpV v (.mk k i s lx)) hl (by omega) hx' (fun v hv cv Q' hr hQ => c116 ok (by have := mem_szL hv; omega) (by omega) hr hx' hQ) hp p1 p2 fun b hb1 hb2 => ⟨_, _, rfl, ?_⟩)
  have := hfin b hb1 hb2
  subst this
  exact c77 ok hq.wrap
end
end Va
end Go.Proofs.YtlemdiinmfneoaaGreat
