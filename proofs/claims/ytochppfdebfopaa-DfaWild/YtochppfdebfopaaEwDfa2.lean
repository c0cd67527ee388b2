/- Contract: the law of wild rows. -/
import Derived.Test.YtochppfdebfopaaEwDfa1
set_option linter.unusedVariables false
set_option linter.unusedSimpArgs false
namespace Go.Ew
open Go.Ev Go.Deep

/-- A row of its own, being written. -/
def RowB (K : KH) (nm : Nat) (f : Nat → Int) (H : KH) : Prop := ∃ e : Ent, H = K.new nm e ∧ e.unk = 0 ∧ e.ob = none ∧ ∀ j, j < 257 → tget e.cells j = some (.int .i64 (f j))

def upd (f : Nat → Int) (j : Nat) (x : Int) : Nat → Int := fun k => if k = j then x else f k

theorem wrB_zero {e : Ent} (h1 : e.unk = 0) (h2 : e.ob = none) : wrB e = true := by
  unfold wrB
  rw [h1, h2]
  rfl

theorem RowB.may {K H : KH} {nm : Nat} {f : Nat → Int} (h : RowB K nm f H) : H.may nm := by
  obtain ⟨e, rfl, h1, h2, _⟩ := h
  exact ⟨e, by simp [KH.new], wrB_zero h1 h2⟩

theorem RowB.ld1 {K H : KH} {nm j : Nat} {f : Nat → Int} (h : RowB K nm f H) (hj : j < 257) : ld H ⟨nm, j, none⟩ [.int .i64 (f j)] := by
  obtain ⟨e, rfl, h1, h2, h3⟩ := h
  refine ⟨rfl, e, by simp [KH.new], ?_⟩
  show rd e.cells j 1 = _
  simp only [rd, h3 j hj]

theorem put_newE {K : KH} {p o : Nat} {e : Ent} {vs : List Value} : (K.new p e).put ⟨p, o, none⟩ vs = K.new p ⟨wr e.cells o vs, e.len, e.unk, none⟩ := by
  funext k
  simp only [KH.put, KH.new]
  by_cases h : k = p <;> simp [h]

theorem RowB.put {K H : KH} {nm j : Nat} {f : Nat → Int} {x : Int} (h : RowB K nm f H) : RowB K nm (upd f j x) (H.put ⟨nm, j, none⟩ [.int .i64 x]) := by
  obtain ⟨e, rfl, h1, h2, h3⟩ := h
  refine ⟨_, put_newE, h1, rfl, fun k hk => ?_⟩
  show tget (wr e.cells j [.int .i64 x]) k = _
  rw [tget_wr]
  unfold upd
  by_cases q : k = j
  · subst q
    simp
  · have : ¬ (j ≤ k ∧ k < j + [Value.int .i64 x].length) := by simp; omega
    rw [if_neg this, if_neg q, h3 k hk]

theorem rep_len (m : Nat) (z v : Value) : (List.replicate (m + 1) z).length = (Array.toList (List.toArray (List.replicate m z ++ [v]))).length := by simp

theorem rep_get (m k : Nat) (z v : Value) (hk : k < m + 1) : (List.replicate m z ++ [v])[k]? = some (if k = m then v else z) := by
  by_cases q : k = m
  · subst q
    rw [List.getElem?_append_right (by simp)]
    simp
  · rw [List.getElem?_append_left (by simp; omega), if_neg q, List.getElem?_replicate, if_pos (by omega)]

theorem rep_wr (e : BT (Option Value)) (m k : Nat) (z v : Value) (hk : k < m + 1) : tget (wr e 0 (Array.toList (List.toArray (List.replicate m z ++ [v])))) k = some (if k = m then v else z) := by
  show tget (wr e 0 (List.replicate m z ++ [v])) k = _
  have hl : (List.replicate m z ++ [v]).length = m + 1 := by simp
  rw [tget_wr, hl, if_pos ⟨by omega, by omega⟩, Nat.sub_zero, rep_get m k z v hk]

theorem RowB.start' {K : KH} {nm m : Nat} {x : Int} (e : Ent) (h : e.unk = 0) (hm : m = 256) : RowB K nm (fun j => if j = 256 then x else 0) ((K.new nm e).put ⟨nm, 0, none⟩ (Array.toList (List.toArray (List.replicate m (.int .i64 0) ++ [.int .i64 x])))) := by
  refine ⟨_, put_newE, h, rfl, fun k hk => ?_⟩
  rw [rep_wr _ m k _ _ (by omega), hm]
  by_cases q : k = 256 <;> simp only [q, if_true, if_false]

theorem RowB.start {K : KH} {nm : Nat} {x : Int} : RowB K nm (fun j => if j = 256 then x else 0) ((K.new nm (mkEnt (List.replicate 257 (.int .i64 0)) 0)).put ⟨nm, 0, none⟩ (Array.toList (List.toArray (List.replicate 256 (.int .i64 0) ++ [.int .i64 x])))) := RowB.start' _ rfl rfl

/-- So many numbers as cells. -/
def ints (n : Nat) (g : Nat → Int) : List Value := (List.range n).map fun j => .int .i64 (g j)

theorem ints_len (n : Nat) (g : Nat → Int) : (ints n g).length = n := by simp [ints]

theorem ints_get {n j : Nat} {g : Nat → Int} (h : j < n) : (ints n g)[j]? = some (.int .i64 (g j)) := by simp [ints, h]

theorem ints_app (m n : Nat) (f g : Nat → Int) : ints m g ++ ints n f = ints (m + n) fun j => if j < m then g j else f (j - m) := by
  apply List.ext_getElem?
  intro j
  by_cases h : j < m
  · rw [List.getElem?_append_left (by rw [ints_len]; exact h), ints_get h, ints_get (by omega), if_pos h]
  · rw [List.getElem?_append_right (by rw [ints_len]; omega), ints_len]
    by_cases h2 : j < m + n
    · rw [ints_get (by omega), ints_get h2, if_neg h]
    · rw [List.getElem?_eq_none (by rw [ints_len]; omega), List.getElem?_eq_none (by rw [ints_len]; omega)]

set_option maxRecDepth 4000 in
theorem ints_lit (f : Nat → Int) : ints 257 f = [(.int .i64 (f 0)), (.int .i64 (f 1)), (.int .i64 (f 2)), (.int .i64 (f 3)), (.int .i64 (f 4)), (.int .i64 (f 5)), (.int .i64 (f 6)), (.int .i64 (f 7)), (.int .i64 (f 8)), (.int .i64 (f 9)), (.int .i64 (f 10)), (.int .i64 (f 11)), (.int .i64 (f 12)), (.int .i64 (f 13)), (.int .i64 (f 14)), (.int .i64 (f 15)), (.int .i64 (f 16)), (.int .i64 (f 17)), (.int .i64 (f 18)), (.int .i64 (f 19)), (.int .i64 (f 20)), (.int .i64 (f 21)), (.int .i64 (f 22)), (.int .i64 (f 23)), (.int .i64 (f 24)), (.int .i64 (f 25)), (.int .i64 (f 26)), (.int .i64 (f 27)), (.int .i64 (f 28)), (.int .i64 (f 29)), (.int .i64 (f 30)), (.int .i64 (f 31)), (.int .i64 (f 32)), (.int .i64 (f 33)), (.int .i64 (f 34)), (.int .i64 (f 35)), (.int .i64 (f 36)), (.int .i64 (f 37)), (.int .i64 (f 38)), (.int .i64 (f 39)), (.int .i64 (f 40)), (.int .i64 (f 41)), (.int .i64 (f 42)), (.int .i64 (f 43)), (.int .i64 (f 44)), (.int .i64 (f 45)), (.int .i64 (f 46)), (.int .i64 (f 47)), (.int .i64 (f 48)), (.int .i64 (f 49)), (.int .i64 (f 50)), (.int .i64 (f 51)), (.int .i64 (f 52)), (.int .i64 (f 53)), (.int .i64 (f 54)), (.int .i64 (f 55)), (.int .i64 (f 56)), (.int .i64 (f 57)), (.int .i64 (f 58)), (.int .i64 (f 59)), (.int .i64 (f 60)), (.int .i64 (f 61)), (.int .i64 (f 62)), (.int .i64 (f 63)), (.int .i64 (f 64)), (.int .i64 (f 65)), (.int .i64 (f 66)), (.int .i64 (f 67)), (.int .i64 (f 68)), (.int .i64 (f 69)), (.int .i64 (f 70)), (.int .i64 (f 71)), (.int .i64 (f 72)), (.int .i64 (f 73)), (.int .i64 (f 74)), (.int .i64 (f 75)), (.int .i64 (f 76)), (.int .i64 (f 77)), (.int .i64 (f 78)), (.int .i64 (f 79)), (.int .i64 (f 80)), (.int .i64 (f 81)), (.int .i64 (f 82)), (.int .i64 (f 83)), (.int .i64 (f 84)), (.int .i64 (f 85)), (.int .i64 (f 86)), (.int .i64 (f 87)), (.int .i64 (f 88)), (.int .i64 (f 89)), (.int .i64 (f 90)), (.int .i64 (f 91)), (.int .i64 (f 92)), (.int .i64 (f 93)), (.int .i64 (f 94)), (.int .i64 (f 95)), (.int .i64 (f 96)), (.int .i64 (f 97)), (.int .i64 (f 98)), (.int .i64 (f 99)), (.int .i64 (f 100)), (.int .i64 (f 101)), (.int .i64 (f 102)), (.int .i64 (f 103)), (.int .i64 (f 104)), (.int .i64 (f 105)), (.int .i64 (f 106)), (.int .i64 (f 107)), (.int .i64 (f 108)), (.int .i64 (f 109)), (.int .i64 (f 110)), (.int .i64 (f 111)), (.int .i64 (f 112)), (.int .i64 (f 113)), (.int .i64 (f 114)), (.int .i64 (f 115)), (.int .i64 (f 116)), (.int .i64 (f 117)), (.int .i64 (f 118)), (.int .i64 (f 119)), (.int .i64 (f 120)), (.int .i64 (f 121)), (.int .i64 (f 122)), (.int .i64 (f 123)), (.int .i64 (f 124)), (.int .i64 (f 125)), (.int .i64 (f 126)), (.int .i64 (f 127)), (.int .i64 (f 128)), (.int .i64 (f 129)), (.int .i64 (f 130)), (.int .i64 (f 131)), (.int .i64 (f 132)), (.int .i64 (f 133)), (.int .i64 (f 134)), (.int .i64 (f 135)), (.int .i64 (f 136)), (.int .i64 (f 137)), (.int .i64 (f 138)), (.int .i64 (f 139)), (.int .i64 (f 140)), (.int .i64 (f 141)), (.int .i64 (f 142)), (.int .i64 (f 143)), (.int .i64 (f 144)), (.int .i64 (f 145)), (.int .i64 (f 146)), (.int .i64 (f 147)), (.int .i64 (f 148)), (.int .i64 (f 149)), (.int .i64 (f 150)), (.int .i64 (f 151)), (.int .i64 (f 152)), (.int .i64 (f 153)), (.int .i64 (f 154)), (.int .i64 (f 155)), (.int .i64 (f 156)), (.int .i64 (f 157)), (.int .i64 (f 158)), (.int .i64 (f 159)), (.int .i64 (f 160)), (.int .i64 (f 161)), (.int .i64 (f 162)), (.int .i64 (f 163)), (.int .i64 (f 164)), (.int .i64 (f 165)), (.int .i64 (f 166)), (.int .i64 (f 167)), (.int .i64 (f 168)), (.int .i64 (f 169)), (.int .i64 (f 170)), (.int .i64 (f 171)), (.int .i64 (f 172)), (.int .i64 (f 173)), (.int .i64 (f 174)), (.int .i64 (f 175)), (.int .i64 (f 176)), (.int .i64 (f 177)), (.int .i64 (f 178)), (.int .i64 (f 179)), (.int .i64 (f 180)), (.int .i64 (f 181)), (.int .i64 (f 182)), (.int .i64 (f 183)), (.int .i64 (f 184)), (.int .i64 (f 185)), (.int .i64 (f 186)), (.int .i64 (f 187)), (.int .i64 (f 188)), (.int .i64 (f 189)), (.int .i64 (f 190)), (.int .i64 (f 191)), (.int .i64 (f 192)), (.int .i64 (f 193)), (.int .i64 (f 194)), (.int .i64 (f 195)), (.int .i64 (f 196)), (.int .i64 (f 197)), (.int .i64 (f 198)), (.int .i64 (f 199)), (.int .i64 (f 200)), (.int .i64 (f 201)), (.int .i64 (f 202)), (.int .i64 (f 203)), (.int .i64 (f 204)), (.int .i64 (f 205)), (.int .i64 (f 206)), (.int .i64 (f 207)), (.int .i64 (f 208)), (.int .i64 (f 209)), (.int .i64 (f 210)), (.int .i64 (f 211)), (.int .i64 (f 212)), (.int .i64 (f 213)), (.int .i64 (f 214)), (.int .i64 (f 215)), (.int .i64 (f 216)), (.int .i64 (f 217)), (.int .i64 (f 218)), (.int .i64 (f 219)), (.int .i64 (f 220)), (.int .i64 (f 221)), (.int .i64 (f 222)), (.int .i64 (f 223)), (.int .i64 (f 224)), (.int .i64 (f 225)), (.int .i64 (f 226)), (.int .i64 (f 227)), (.int .i64 (f 228)), (.int .i64 (f 229)), (.int .i64 (f 230)), (.int .i64 (f 231)), (.int .i64 (f 232)), (.int .i64 (f 233)), (.int .i64 (f 234)), (.int .i64 (f 235)), (.int .i64 (f 236)), (.int .i64 (f 237)), (.int .i64 (f 238)), (.int .i64 (f 239)), (.int .i64 (f 240)), (.int .i64 (f 241)), (.int .i64 (f 242)), (.int .i64 (f 243)), (.int .i64 (f 244)), (.int .i64 (f 245)), (.int .i64 (f 246)), (.int .i64 (f 247)), (.int .i64 (f 248)), (.int .i64 (f 249)), (.int .i64 (f 250)), (.int .i64 (f 251)), (.int .i64 (f 252)), (.int .i64 (f 253)), (.int .i64 (f 254)), (.int .i64 (f 255)), (.int .i64 (f 256))] := rfl

theorem RowB.all {K H : KH} {nm : Nat} {f : Nat → Int} (h : RowB K nm f H) : ld H ⟨nm, 0, none⟩ (ints 257 f) := by
  obtain ⟨e, rfl, h1, h2, h3⟩ := h
  refine ⟨rfl, e, by simp [KH.new], ?_⟩
  refine rd_some rfl fun j v hv => ?_
  have hj : j < 257 := by
    rcases Nat.lt_or_ge j 257 with q | q
    · exact q
    · rw [List.getElem?_eq_none (by rw [ints_len]; omega)] at hv; cases hv
  rw [ints_get hj] at hv
  cases hv
  rw [Nat.zero_add]
  exact h3 j hj

theorem RowB.le {K H : KH} {nm : Nat} {f : Nat → Int} (h : RowB K nm f H) (hn : K nm = none) : Le K H := by
  obtain ⟨e, rfl, _⟩ := h
  exact Le.new hn

theorem Own.ic {H0 H : KH} {a : Option Addr} {n c : Nat} {g : Nat → Int} (h : Own H0 H 257 a n c (ints (n * 257) g)) : IC H a (n * 257) g := by
  have hk := h.cells
  cases h with
  | nil => exact .inl rfl
  | lit b _ _ h1 h2 =>
    obtain ⟨e, k1, k2⟩ := kold_some.1 hk
    exact .inr ⟨b, 0, e, rfl, k1, fun j hj => rd_get k2 j _ (ints_get hj)⟩
  | grown b _ _ e h1 =>
    obtain ⟨e, k1, k2⟩ := kold_some.1 hk
    exact .inr ⟨b, 0, e, rfl, k1, fun j hj => rd_get k2 j _ (ints_get hj)⟩

/-- Where rows lead, and what they end in. -/
def GR (g : Nat → Int) (k n : Nat) : Prop := ∀ r, r < k → (∀ b, b < 256 → -1 ≤ g (r * 257 + b) ∧ g (r * 257 + b) < n) ∧ 0 ≤ g (r * 257 + 256) ∧ g (r * 257 + 256) < 4

/-- A row of rows of four small numbers. -/
def U84 (H : KH) (a : Option Addr) (n : Nat) : Prop := ∀ i, i < n → ∃ b o, a = some ⟨b, o, none⟩ ∧ ∀ j, j < 4 → ∃ x, ld H ⟨b, o + i * 4 + j, none⟩ [.int .u8 x] ∧ 0 ≤ x ∧ x ≤ 255

theorem GR.more {g f : Nat → Int} {k n : Nat} (h : GR g k n) (h1 : ∀ b, b < 256 → -1 ≤ f b ∧ f b < n) (h2 : 0 ≤ f 256 ∧ f 256 < 4) : GR (fun j => if j < k * 257 then g j else f (j - k * 257)) (k + 1) n := by
  intro r hr
  have key : ∀ j, j < 257 → (if r * 257 + j < k * 257 then g (r * 257 + j) else f (r * 257 + j - k * 257)) = if r < k then g (r * 257 + j) else f j := by
    intro j hj
    by_cases q : r < k
    · rw [if_pos q, if_pos (row_lt q hj)]
    · have : r = k := by omega
      subst this
      rw [if_neg q, if_neg (by omega), Nat.add_sub_cancel_left]
  refine ⟨fun b hb => ?_, ?_⟩
  · simp only [key b (by omega)]
    by_cases q : r < k
    · rw [if_pos q]; exact (h r q).1 b hb
    · rw [if_neg q]; exact h1 b hb
  · simp only [key 256 (by omega)]
    by_cases q : r < k
    · rw [if_pos q]; exact (h r q).2
    · rw [if_neg q]; exact h2
end Go.Ew

namespace Go.Proofs.Ytochppfdebfopaa
open Go.Ev Go.Ew Go.Deep
namespace Va
variable (ok : EnvOk (env Try.prog))
include ok

/-- What the law's outer loop keeps. -/
def I11 (H : KH) (a : Option Addr) (n c : Nat) (s : ByteArray) : Nat → Option Addr → Nat → Nat → ByteArray → Option Addr → Nat → Nat → Int → KH → Prop := fun n3 a4 n5 n6 s7 a8 n9 n10 x11 H12 =>
  a4 = a ∧ n5 = n ∧ n6 = c ∧ s7 = s ∧ ∃ k : Nat, x11 = k ∧ k ≤ n ∧ n9 = k ∧ n3 = n - k ∧ Le H H12 ∧ ∃ g, Own H H12 257 a8 k n10 (ints (k * 257) g) ∧ GR g k n

omit ok in
theorem small {x : Int} (h0 : 0 ≤ x) (h1 : x ≤ 255) : IntKind.wrap .i64 (Int.tmod x 4) = x % 4 ∧ IntKind.wrap .i64 (IntKind.wrap .i64 (Int.tmod x 6) - 1) = x % 6 - 1 := by
  have e1 : Int.tmod x 4 = x % 4 := Int.tmod_eq_emod_of_nonneg h0
  have e2 : Int.tmod x 6 = x % 6 := Int.tmod_eq_emod_of_nonneg h0
  rw [e1, e2, wrap64 (by omega) (by omega), wrap64 (x := x % 6) (by omega) (by omega), wrap64 (by omega) (by omega)]
  exact ⟨rfl, rfl⟩

omit ok in
set_option maxRecDepth 10000 in
theorem l4 {H H12 H15 : KH} {a a8 : Option Addr} {n c k c8 nm : Nat} {s : ByteArray} {g f : Nat → Int} (hu : U84 H a n) (hn5 : n ≤ 5) (hk : k < n) (hle : Le H H12) (hnm : H12 nm = none) (ho : Own H H12 257 a8 k c8 (ints (k * 257) g)) (hg : GR g k n)
    (hf : RowB H12 nm f H15) (hf1 : ∀ t, t < 256 → -1 ≤ f t ∧ f t < n) (hf2 : 0 ≤ f 256 ∧ f 256 < 4) : vc6_L4 a n c s a8 k c8 (k : Int) nm 0 H15 (n - k) (I11 H a n c s) := by
  refine ⟨fun n3 a4 n5 n6 s7 a8' n9 n10 x11 n12 n13 x14 H15 => a4 = a ∧ n5 = n ∧ n6 = c ∧ s7 = s ∧ a8' = a8 ∧ n9 = k ∧ n10 = c8 ∧ x11 = (k : Int) ∧ n12 = nm ∧ n13 = 0 ∧ ∃ j : Nat, x14 = j ∧ j ≤ 3 ∧ n3 = 3 - j ∧ ∃ f, RowB H12 nm f H15 ∧ (∀ t, t < 256 → -1 ≤ f t ∧ f t < n) ∧ 0 ≤ f 256 ∧ f 256 < 4, ⟨3, rfl, rfl, rfl, rfl, rfl, rfl, rfl, rfl, rfl, rfl, rfl, 0, rfl, by omega, rfl, f, hf, hf1, hf2.1, hf2.2⟩, ?_⟩
  rintro n3 a4 n5 n6 s7 a8' n9 n10 x11 n12 n13 x14 H15 ⟨rfl, rfl, rfl, rfl, rfl, rfl, rfl, rfl, rfl, rfl, j, rfl, hj, rfl, f, hf, hf1, hf2⟩
  refine ⟨fun q => ?_, fun q => ?_⟩
  · have hj3 : j < 3 := by have := of_decide_eq_true q; omega
    obtain ⟨b, o, ha, hx⟩ := hu n9 hk
    obtain ⟨x, hx1, hx2, hx3⟩ := hx j (by omega)
    obtain ⟨_, hv⟩ := small hx2 hx3
    have hw97 : IntKind.wrap .i64 (97 + (j : Int)) = ((97 + j : Nat) : Int) := by rw [wrap64 (by omega) (by omega)]; omega
    have hwj : IntKind.wrap .i64 ((j : Int) + 1) = ((j + 1 : Nat) : Int) := by rw [wrap64 (by omega) (by omega)]; omega
    have hadr : (0 + 0) + (Int.toNat ((97 + j : Nat) : Int)) * 1 = 97 + j := by omega
    refine ⟨⟨by omega, by omega⟩, b, o, ha, ⟨by omega, by omega⟩, rfl, x, ?_, by decide, rfl, ?_⟩
    · have := (hle.trans (hf.le hnm)).ld hx1
      simpa using this
    · rw [hw97, hv, hadr, hwj]
      have hin : 97 + j < 257 := by omega
      have p1 := hf.put (j := 97 + j) (x := x % 6 - 1)
      refine ⟨⟨by omega, by omega⟩, rfl, ⟨[.int .i64 (f (97 + j))], rfl, hf.ld1 hin⟩, hf.may, rfl, ⟨by omega, by omega⟩, rfl, x % 6 - 1, ?_, fun q2 => ?_, fun q2 => ?_⟩
      · have := p1.ld1 hin
        simpa [upd] using this
      · refine ⟨rfl, ⟨by omega, by omega⟩, rfl, ⟨[.int .i64 (upd f (97 + j) (x % 6 - 1) (97 + j))], rfl, p1.ld1 hin⟩, p1.may, 3 - (j + 1), by omega, rfl, rfl, rfl, rfl, rfl, rfl, rfl, rfl, rfl, rfl, rfl, j + 1, rfl, by omega, rfl, _, p1.put (j := 97 + j) (x := -1), fun t ht => ?_, ?_⟩
        · unfold upd
          split
          · omega
          · exact hf1 t ht
        · unfold upd
          rw [if_neg (by omega), if_neg (by omega)]
          exact hf2
      · have q2 := of_decide_eq_false q2
        refine ⟨3 - (j + 1), by omega, rfl, rfl, rfl, rfl, rfl, rfl, rfl, rfl, rfl, rfl, rfl, j + 1, rfl, by omega, rfl, _, p1, fun t ht => ?_, ?_⟩
        · unfold upd
          split
          · omega
          · exact hf1 t ht
        · unfold upd
          rw [if_neg (by omega)]
          exact hf2
  · clear q
    have hall := hf.all
    rw [ints_lit] at hall
    refine ⟨f 0, f 1, f 2, f 3, f 4, f 5, f 6, f 7, f 8, f 9, f 10, f 11, f 12, f 13, f 14, f 15, f 16, f 17, f 18, f 19, f 20, f 21, f 22, f 23, f 24, f 25, f 26, f 27, f 28, f 29, f 30, f 31, f 32, f 33, f 34, f 35, f 36, f 37, f 38, f 39, f 40, f 41, f 42, f 43, f 44, f 45, f 46, f 47, f 48, f 49, f 50, f 51, f 52, f 53, f 54, f 55, f 56, f 57, f 58, f 59, f 60, f 61, f 62, f 63, f 64, f 65, f 66, f 67, f 68, f 69, f 70, f 71, f 72, f 73, f 74, f 75, f 76, f 77, f 78, f 79, f 80, f 81, f 82, f 83, f 84, f 85, f 86, f 87, f 88, f 89, f 90, f 91, f 92, f 93, f 94, f 95, f 96, f 97, f 98, f 99, f 100, f 101, f 102, f 103, f 104, f 105, f 106, f 107, f 108, f 109, f 110, f 111, f 112, f 113, f 114, f 115, f 116, f 117, f 118, f 119, f 120, f 121, f 122, f 123, f 124, f 125, f 126, f 127, f 128, f 129, f 130, f 131, f 132, f 133, f 134, f 135, f 136, f 137, f 138, f 139, f 140, f 141, f 142, f 143, f 144, f 145, f 146, f 147, f 148, f 149, f 150, f 151, f 152, f 153, f 154, f 155, f 156, f 157, f 158, f 159, f 160, f 161, f 162, f 163, f 164, f 165, f 166, f 167, f 168, f 169, f 170, f 171, f 172, f 173, f 174, f 175, f 176, f 177, f 178, f 179, f 180, f 181, f 182, f 183, f 184, f 185, f 186, f 187, f 188, f 189, f 190, f 191, f 192, f 193, f 194, f 195, f 196, f 197, f 198, f 199, f 200, f 201, f 202, f 203, f 204, f 205, f 206, f 207, f 208, f 209, f 210, f 211, f 212, f 213, f 214, f 215, f 216, f 217, f 218, f 219, f 220, f 221, f 222, f 223, f 224, f 225, f 226, f 227, f 228, f 229, f 230, f 231, f 232, f 233, f 234, f 235, f 236, f 237, f 238, f 239, f 240, f 241, f 242, f 243, f 244, f 245, f 246, f 247, f 248, f 249, f 250, f 251, f 252, f 253, f 254, f 255, f 256, hall, ?_⟩
    intro n258 h258 n259 h259
    rw [← ints_lit] at h259 ⊢
    have e1 : Le H12 (H15.new n258 (mkEnt (ints 257 f) 0)) := (hf.le hnm).trans (Le.new h258)
    have hkn : knew (H15.new n258 (mkEnt (ints 257 f) 0)) ⟨257, 2056, true, 3, 0, 0, [(0, 256), (256, 1)], List.replicate 257 (.int .i64 0)⟩ (.slice (some ⟨n258, 0, none⟩) 1 1) = some (1, ints 257 f) := by
      refine knew_of (kold_some.2 ⟨mkEnt (ints 257 f) 0, if_pos rfl, ?_⟩)
      exact mk_rd (cs := ints 257 f)
    obtain ⟨a', c', H', k1, k2, k3, _, _⟩ := Own.append (ti := ⟨257, 2056, true, 3, 0, 0, [(0, 256), (256, 1)], List.replicate 257 (.int .i64 0)⟩) (m := 1) (nm := n259) (new := ints 257 f) (ho.mono e1) (hle.trans e1) h259 (show (ints 257 f).length = 1 * 257 by rw [ints_len]) (by omega) (by decide) (by decide) (by decide)
    refine ⟨1, _, hkn, a', _, c', H', k1, n5 - (n9 + 1), by omega, ?_⟩
    have hwk : IntKind.wrap .i64 ((n9 : Int) + 1) = ((n9 + 1 : Nat) : Int) := by rw [wrap64 (by omega) (by omega)]; omega
    rw [hwk]
    refine ⟨rfl, rfl, rfl, rfl, n9 + 1, rfl, hk, rfl, rfl, k3, _, ?_, hg.more hf1 hf2⟩
    rw [ints_app] at k2
    have : (n9 + 1) * 257 = n9 * 257 + 257 := by omega
    rw [this]
    exact k2

omit ok in
theorem l5 {H H12 : KH} {a a8 : Option Addr} {n c k c8 nm : Nat} {s : ByteArray} {g : Nat → Int} {x : Int} (hx : 0 ≤ x ∧ x ≤ 255) (hu : U84 H a n) (hn5 : n ≤ 5) (hk : k < n) (hle : Le H H12) (hnm : H12 nm = none) (ho : Own H H12 257 a8 k c8 (ints (k * 257) g)) (hg : GR g k n) :
    vc6_L5 a n c s a8 k c8 (k : Int) nm H12 x (n - k) (I11 H a n c s) := by
  obtain ⟨hx4, _⟩ := small hx.1 hx.2
  refine ⟨fun n3 a4 n5 n6 s7 a8' n9 n10 x11 n12 n13 x14 H15 => a4 = a ∧ n5 = n ∧ n6 = c ∧ s7 = s ∧ a8' = a8 ∧ n9 = k ∧ n10 = c8 ∧ x11 = (k : Int) ∧ n12 = nm ∧ n13 = 0 ∧ ∃ j : Nat, x14 = j ∧ j ≤ 256 ∧ n3 = 256 - j ∧ ∃ f, RowB H12 nm f H15 ∧ (∀ t, t < j → f t = -1) ∧ f 256 = x % 4, ⟨256, rfl, rfl, rfl, rfl, rfl, rfl, rfl, rfl, rfl, rfl, rfl, 0, rfl, by omega, rfl, _, RowB.start, fun t ht => by omega, by rw [if_pos rfl]; exact hx4⟩, ?_⟩
  rintro n3 a4 n5 n6 s7 a8' n9 n10 x11 n12 n13 x14 H15 ⟨rfl, rfl, rfl, rfl, rfl, rfl, rfl, rfl, rfl, rfl, j, rfl, hj, rfl, f, hf, hf1, hf2⟩
  refine ⟨fun q => ?_, fun q => ?_⟩
  · have hj3 : j < 256 := by have := of_decide_eq_true q; omega
    have hwj : IntKind.wrap .i64 ((j : Int) + 1) = ((j + 1 : Nat) : Int) := by rw [wrap64 (by omega) (by omega)]; omega
    have hadr : (0 + 0) + (Int.toNat (j : Int)) * 1 = j := by omega
    rw [hwj, hadr]
    refine ⟨rfl, ⟨by omega, by omega⟩, rfl, ⟨[.int .i64 (f j)], rfl, hf.ld1 (by omega)⟩, hf.may, 256 - (j + 1), by omega, rfl, rfl, rfl, rfl, rfl, rfl, rfl, rfl, rfl, rfl, rfl, j + 1, rfl, by omega, rfl, _, hf.put (j := j) (x := -1), fun t ht => ?_, ?_⟩
    · unfold upd
      split
      · rfl
      · exact hf1 t (by omega)
    · unfold upd
      rw [if_neg (by omega)]
      exact hf2
  · have hj3 : j = 256 := by have := of_decide_eq_false q; omega
    refine l4 hu hn5 hk hle hnm ho hg hf (fun t ht => ?_) (by omega)
    rw [hf1 t (by omega)]
    omega

omit ok in
theorem j7 {kd most x8 x9 : Int} {b10 : Bool} {H : KH} (h : (kd, most, decide (0 < most)) = (x8, x9, b10)) : vc6_J7 b10 most x9 (fun v _ => v = .bool true) H x8 kd := by
  cases h
  refine ⟨fun _ => ⟨fun _ => ⟨fun _ => rfl, fun _ => by simp⟩, fun q => by simp at q⟩, fun q => by simp at q⟩

omit ok in
theorem l10 {H : KH} {a : Option Addr} {n c : Nat} {s : ByteArray} {g : Nat → Int} (hic : IC H a (n * 257) g) (hg : GR g n n) (hs : s.size ≤ 12) :
    vc6_L10 s a n c (lgR g n s).1 (lgR g n s).2.1 (lgR g n s).2.2 H (fun v _ => v = .bool true) := by
  refine ⟨fun n3 s4 a5 n6 n7 x8 x9 b10 x11 x12 x13 x14 H15 => s4 = s ∧ a5 = a ∧ n6 = n ∧ n7 = c ∧ (x8, x9, b10) = lgR g n s ∧ H15 = H ∧ ∃ i p : Nat, x14 = i ∧ x11 = p ∧ n3 = s.size - i ∧ i ≤ s.size ∧ (n = 0 → (x12, x13, decide (0 < x13)) = lgR g n s) ∧ (n ≠ 0 → p < n ∧ lg g n s (s.size - i) i p (x12, x13, decide (0 < x13)) = lgR g n s), ⟨s.size, rfl, rfl, rfl, rfl, rfl, rfl, 0, 0, rfl, rfl, rfl, by omega, fun h0 => by unfold lgR; rw [if_pos h0]; rfl, fun h0 => ⟨by omega, by unfold lgR; rw [if_neg h0]; rfl⟩⟩, ?_⟩
  rintro n3 s4 a5 n6 n7 x8 x9 b10 x11 x12 x13 x14 H15 ⟨rfl, rfl, rfl, rfl, hres, rfl, i, p, rfl, rfl, rfl, hi, hz, hnz⟩
  refine ⟨fun hlt => ⟨fun hn0 => ?_, fun hn0 => ?_⟩, fun hge => ?_⟩
  · have hn0 : n6 ≠ 0 := by have := of_decide_eq_true hn0; omega
    obtain ⟨hp, hl⟩ := hnz hn0
    obtain ⟨b, o, ha, hld⟩ := hic.ld (j := 0) (by omega)
    have hlt : i < s4.size := by have := of_decide_eq_true hlt; omega
    obtain ⟨r1, r2⟩ := byteAt_rng s4 i
    have hf : s4.size - i = (s4.size - (i + 1)) + 1 := by omega
    rw [hf] at hl
    simp only [lg] at hl
    have hsub : p * 257 + (byteAt s4 i).toNat < n6 * 257 := row_lt hp (by omega)
    have hbd := (hg p hp).1 (byteAt s4 i).toNat (by omega)
    obtain ⟨x, hx⟩ : ∃ x, x = g (p * 257 + (byteAt s4 i).toNat) := ⟨_, rfl⟩
    rw [← hx] at hl hbd
    refine ⟨trivial, ⟨by omega, by omega⟩, ⟨by omega, by omega⟩, b, o, ha, rfl, ⟨r1, r2⟩, rfl, x, ?_, fun q => ?_, fun q => ?_⟩
    · have := hld _ hsub
      rw [← hx] at this
      simpa [Nat.add_assoc] using this
    · rw [if_pos (of_decide_eq_true q)] at hl
      exact j7 (hl.trans hres.symm)
    · have q := of_decide_eq_false q
      have hxn : x.toNat < n6 := by omega
      rw [if_neg q, if_neg (by omega)] at hl
      have hsub2 : x.toNat * 257 + 256 < n6 * 257 := row_lt hxn (by omega)
      have hend := (hg x.toNat hxn).2
      have hw : IntKind.wrap .i64 ((i : Int) + 1) = ((i + 1 : Nat) : Int) := by rw [wrap64 (by omega) (by omega)]; omega
      obtain ⟨e, he⟩ : ∃ e, e = g (x.toNat * 257 + 256) := ⟨_, rfl⟩
      rw [← he] at hl hend
      have hload : ld H15 ⟨b, ((o + ((Int.toNat x) * 257)) + 256), none⟩ [.int .i64 e] := by
        have := hld _ hsub2
        rw [← he] at this
        simpa [Nat.add_assoc] using this
      refine ⟨⟨by omega, by omega⟩, b, o, ha, rfl, e, hload, fun q3 => ⟨⟨by omega, by omega⟩, b, o, ha, rfl, e, hload, ?_⟩, fun q3 => ?_⟩
      · have q3 := of_decide_eq_true q3
        rw [if_pos (show e ≠ 0 by omega)] at hl
        rw [hw] at hl ⊢
        refine ⟨s4.size - (i + 1), by omega, rfl, rfl, rfl, rfl, hres, rfl, i + 1, x.toNat, rfl, by omega, rfl, by omega, fun h0 => absurd h0 hn0, fun _ => ⟨hxn, ?_⟩⟩
        have : decide ((0 : Int) < ((i + 1 : Nat) : Int)) = true := decide_eq_true (by omega)
        rw [this]
        exact hl
      · have q3 := of_decide_eq_false q3
        rw [if_neg (show ¬ (e ≠ 0) by omega)] at hl
        rw [hw]
        exact ⟨s4.size - (i + 1), by omega, rfl, rfl, rfl, rfl, hres, rfl, i + 1, x.toNat, rfl, by omega, rfl, by omega, fun h0 => absurd h0 hn0, fun _ => ⟨hxn, hl⟩⟩
  · have hn0 : n6 = 0 := by have := of_decide_eq_false hn0; omega
    exact j7 ((hz hn0).trans hres.symm)
  · have hge : i = s4.size := by have := of_decide_eq_false hge; omega
    by_cases hn0 : n6 = 0
    · exact j7 ((hz hn0).trans hres.symm)
    · obtain ⟨_, hl⟩ := hnz hn0
      rw [hge, Nat.sub_self] at hl
      exact j7 (Eq.trans hl hres.symm)

theorem c6 {a : Option Addr} {n c : Nat} {s : ByteArray} {H : KH} (hu : U84 H a n) : Does (env Try.prog) 6 [.slice a n c, .string s] H fun v _ => v = .bool true := by
  refine fn6 ok (does_true (by kernel_rfl) (by kernel_rfl) (by kernel_rfl) ⟨true, rfl, fun h => (by cases h), fun _ => ⟨fun _ => rfl, fun q1 => ⟨fun _ => rfl, fun q2 => ?_⟩⟩⟩)
  have hn5 : n ≤ 5 := by have := of_decide_eq_false q1; omega
  have hs : s.size ≤ 12 := by have := of_decide_eq_false q2; omega
  refine ⟨I11 H a n c s, ⟨n, rfl, rfl, rfl, rfl, 0, rfl, by omega, rfl, rfl, Le.refl _, fun _ => 0, .nil, fun r hr => by omega⟩, ?_⟩
  rintro n3 a4 n5 n6 s7 a8 n9 n10 x11 H12 ⟨rfl, rfl, rfl, rfl, k, rfl, hk, rfl, rfl, hle, g, ho, hg⟩
  refine ⟨fun q => ?_, fun q => ?_⟩
  · have hkn : n9 < n5 := by have := of_decide_eq_true q; omega
    obtain ⟨b, o, ha, hx⟩ := hu n9 hkn
    obtain ⟨x, hx1, hx2, hx3⟩ := hx 3 (by omega)
    refine ⟨⟨by omega, by omega⟩, b, o, ha, ⟨by decide, by decide⟩, rfl, x, ?_, by decide, fun nm hnm => ⟨⟨List.replicate 257 (.int .i64 0), rep_len 256 _ _, ?_⟩, ⟨mkEnt (List.replicate 257 (.int .i64 0)) 0, if_pos rfl, rfl⟩, l5 ⟨hx2, hx3⟩ hu hn5 hkn hle hnm ho hg⟩⟩
    · have := hle.ld hx1
      simpa using this
    · exact ⟨rfl, mkEnt (List.replicate 257 (.int .i64 0)) 0, if_pos rfl, mk_rd⟩
  · have hkn : n9 = n5 := by have := of_decide_eq_false q; omega
    subst hkn
    refine c13 ok ho.ic (by omega) ?_
    exact ⟨_, _, _, rfl, l10 ho.ic hg hs⟩
end Va
end Go.Proofs.Ytochppfdebfopaa
