import Derived.Test.YtpdabjimdfifnaaEwFit
/- Contracts of the play: numbers that are read one by one. -/
set_option linter.unusedVariables false
namespace Go.Ew
open Go.Ev Go.Deep

/-- What a call need not know it does not touch. -/
theorem Does.frame {E : Env} {g : Nat} {args : List Value} {K : KH} {p : Nat} {e : Ent} {Q : Value → KH → Prop} (hK : K p = none)
    (hf : Does E g args K fun v K' => K' p = none → Q v (K'.new p e)) : Does E g args (K.new p e) Q := by
  refine ⟨hf.lt, fun h hn hh => ?_⟩
  have hp : tget h.m p = some e := hh p e (by simp [KH.new])
  have hlt : p < h.nxt := by
    rcases Nat.lt_or_ge p h.nxt with q | q
    · exact q
    · rw [hn p q] at hp; cases hp
  obtain ⟨v, h', K', h1, h2, h3, h4, h5, h6, h7⟩ := hf.run h hn fun k e' q => hh k e' (by
    simp only [KH.new]
    rw [if_neg (fun ek => by subst ek; rw [hK] at q; cases q)]
    exact q)
  have hK' : K' p = none := by
    cases hk : K' p with
    | none => rfl
    | some e' =>
      rcases h7 p (by rw [hk]; simp) with q | q
      · exact absurd hK q
      · omega
  refine ⟨v, h', K'.new p e, h1, h2 hK', h3, fun k e' q => ?_, h5, fun k hk q => ?_, fun k q => ?_⟩
  · simp only [KH.new] at q
    by_cases ek : k = p
    · subst ek
      simp only [if_true] at q
      rw [h6 k hlt hK, hp]
      exact q
    · rw [if_neg ek] at q
      exact h4 k e' q
  · simp only [KH.new] at q
    by_cases ek : k = p
    · rw [if_pos ek] at q; cases q
    · rw [if_neg ek] at q
      exact h6 k hk q
  · simp only [KH.new] at q ⊢
    by_cases ek : k = p
    · rw [if_pos ek]; left; simp
    · rw [if_neg ek] at q ⊢
      exact h7 k q

/-- Small numbers lie there. -/
def U8 (K : KH) (a : Option Addr) (n : Nat) : Prop := ∀ i, i < n → ∃ b o x, a = some ⟨b, o, none⟩ ∧ ld K ⟨b, o + i, none⟩ [.int .u8 x] ∧ 0 ≤ x ∧ x ≤ 255

theorem U8.mono {K K' : KH} (h : Le K K') {a : Option Addr} {n : Nat} (q : U8 K a n) : U8 K' a n := fun i hi => by
  obtain ⟨b, o, x, h1, h2, h3⟩ := q i hi
  exact ⟨b, o, x, h1, h.ld h2, h3⟩

/-- The numbers are read through a block that nothing else knows. -/
structure PK (K : KH) (p : Nat) (H : KH) : Prop where
  out : K p = none
  ex : ∃ e a n c j, H = K.new p e ∧ wrB e = true ∧ rd e.cells 0 2 = some [.slice a n c, .int .i64 j] ∧ 0 ≤ j ∧ n ≤ 1000000 ∧ U8 K a n

theorem PK.le {K H : KH} {p : Nat} (h : PK K p H) : Le K H := by
  obtain ⟨h1, e, a, n, c, j, rfl, _⟩ := h
  exact Le.new h1

theorem put_new {K : KH} {p o : Nat} {e : Ent} {vs : List Value} : (K.new p e).put ⟨p, o, none⟩ vs = K.new p ⟨wr e.cells o vs, e.len, e.unk, none⟩ := by
  funext k
  simp only [KH.put, KH.new]
  by_cases hk : k = p <;> simp [hk]

theorem rd_two {e : BT (Option Value)} {u v w : Value} (h : rd e 0 2 = some [u, v]) : rd (wr e 1 [w]) 0 2 = some [u, w] := by
  refine rd_some rfl fun j x hx => ?_
  rw [Nat.zero_add, tget_wr]
  match j, hx with
  | 0, hx =>
    rw [if_neg (by omega)]
    have := rd_get h 0 u (by simp)
    simp at hx
    subst hx
    simpa using this
  | 1, hx =>
    rw [if_pos (by simp)]
    simpa using hx
  | j + 2, hx => simp at hx
end Go.Ew

namespace Go.Proofs.Ytpdabjimdfifnaa
open Go.Ev Go.Ew
namespace Va
section
variable (ok : EnvOk (env Try.prog))
include ok

end
end Va
end Go.Proofs.Ytpdabjimdfifnaa

/- A row that grows while values are made. -/
set_option linter.unusedVariables false
namespace Go.Ew
open Go.Ev Go.Deep

theorem del_new {H : KH} {b : Nat} {E : Ent} (h : H b = some E) : (H.del b).new b E = H := by
  funext k
  simp only [KH.new, KH.del]
  by_cases hk : k = b
  · subst hk; simp [h]
  · simp [hk]

theorem del_self (H : KH) (b : Nat) : (H.del b) b = none := by simp [KH.del]

theorem Le.del {H H' : KH} (h : Le H H') {p : Nat} (hp : H p = Option.none) : Le H (H'.del p) := fun k e q => by
  simp only [KH.del]
  rw [if_neg (fun ek => by subst ek; rw [hp] at q; cases q)]
  exact h k e q

theorem new_new {H : KH} {a b : Nat} {x y : Ent} (h : a ≠ b) : (H.new a x).new b y = (H.new b y).new a x := by
  funext k
  simp only [KH.new]
  by_cases hk : k = a
  · subst hk; simp [h]
  · simp [hk]

/-- More is known, and the numbers are still read. -/
theorem PK.grow {K H H' : KH} {p : Nat} (h : PK K p H) (hl : Le H H') : PK (H'.del p) p H' ∧ Le K (H'.del p) := by
  have hle := h.le
  obtain ⟨h1, e, a, n, c, j, rfl, hwr, hr, hj, hn, hu⟩ := h
  have hp : H' p = some e := hl p e (by simp [KH.new])
  have hK : Le K (H'.del p) := (hle.trans hl).del h1
  exact ⟨⟨del_self _ _, e, a, n, c, j, (del_new hp).symm, hwr, hr, hj, hn, hu.mono hK⟩, hK⟩

theorem Own.at_ {H0 H : KH} {sz n c : Nat} {a : Option Addr} {cs : List Value} (h : Own H0 H sz a n c cs) (hn : 0 < n) : ∃ b E, a = some ⟨b, 0, none⟩ ∧ H b = some E ∧ H0 b = none := by
  cases h with
  | nil => omega
  | lit b _ _ h1 h2 h3 h4 => exact ⟨b, _, rfl, h1, h4⟩
  | grown b _ _ e h1 h2 h3 h4 h5 h6 => exact ⟨b, e, rfl, h1, h5⟩

/-- It speaks of its own block only. -/
theorem Own.move {H0 H H0' H' : KH} {sz n c b o : Nat} {sp : Option Nat} {cs : List Value} (h : Own H0 H sz (some ⟨b, o, sp⟩) n c cs) (h1 : H' b = H b) (h2 : H0' b = none) : Own H0' H' sz (some ⟨b, o, sp⟩) n c cs := by
  cases h with
  | lit _ _ _ q1 q2 q3 q4 => exact .lit b n cs (by rw [h1]; exact q1) q2 q3 h2
  | grown _ _ _ e q1 q2 q3 q4 q5 q6 => exact .grown b n cs e (by rw [h1]; exact q1) q2 q3 q4 h2 q6

inductive Acc (K0 : KH) (p : Nat) (H : KH) (l : List V) : Option Addr → Nat → Nat → Prop where
  | nil (K : KH) (h1 : PK K p H) (h2 : Le K0 K) (h3 : l = []) : Acc K0 p H l none 0 0
  | own (K : KH) (b : Nat) (E : Ent) (c : Nat) (cs : List Value) (h1 : PK K p (H.del b)) (h2 : Le K0 K) (h3 : H b = some E) (h4 : Own (H.del b) H 4 (some ⟨b, 0, none⟩) l.length c cs) (h5 : RC K l cs) : Acc K0 p H l (some ⟨b, 0, none⟩) l.length c

theorem Acc.len {K0 H : KH} {p : Nat} {l : List V} {a : Option Addr} {n c : Nat} (h : Acc K0 p H l a n c) : n = l.length := by
  cases h with
  | nil K h1 h2 h3 => subst h3; rfl
  | own => rfl

/-- What it is in the end. -/
theorem Acc.out {K0 H : KH} {p : Nat} {l : List V} {a : Option Addr} {n c : Nat} (h : Acc K0 p H l a n c) : ∃ K', PK K' p H ∧ Le K0 K' ∧ RS K' l a ∧ SlOk K' 4 a l.length c := by
  cases h with
  | nil K h1 h2 h3 => subst h3; exact ⟨K, h1, h2, rfl, rfl⟩
  | own K b E c cs h1 h2 h3 h4 h5 =>
    have g := h1.grow (del_le H b)
    have hbp : b ≠ p := fun e => by
      subst e
      obtain ⟨_, e, _, _, _, _, q, _⟩ := h1
      have q1 := del_self H b
      rw [q] at q1
      simp [KH.new] at q1
    have hb6 : (H.del p) b = H b := by simp only [KH.del, if_neg hbp]
    have h6 : Own (H.del b) (H.del p) 4 (some ⟨b, 0, none⟩) l.length c cs := h4.move hb6 (del_self _ _)
    exact ⟨_, g.1, h2.trans g.2, RS.of_cells h6.cells (h5.mono g.2), h6.ok (by decide)⟩
end Go.Ew

namespace Go.Proofs.Ytpdabjimdfifnaa
open Go.Ev Go.Ew
namespace Va

/-- One more. -/
theorem Acc.more {K0 K1 H0 H : KH} {p : Nat} {l : List V} {v : V} {a : Option Addr} {n c nm : Nat} {cs cv : List Value} (hn : n = l.length) (hp : PK K1 p H0) (hk : Le K0 K1) (ho : Own H0 H 4 a n c cs) (hle : Le H0 H)
    (hrc : RC K1 l cs) (hv : RV K1 v cv) (hnm : H nm = none) (hl : l.length ≤ 1000) :
    ∃ a' c' H', kappend H nm VT a n c 1 cv = some (.slice a' (n + 1) c', H') ∧ Acc K0 p H' (l ++ [v]) a' (n + 1) c' := by
  subst hn
  obtain ⟨a', c', H', h1, h2, h3, _, _⟩ := Own.append (ti := VT) (m := 1) (new := cv) ho hle hnm (hv.len) (by omega) (by decide) (by decide)
  refine ⟨a', c', H', h1, ?_⟩
  obtain ⟨b, E, rfl, hb, hb0⟩ := h2.at_ (by omega)
  have hlb : Le H0 (H'.del b) := h3.del hb0
  have g := hp.grow hlb
  have hlen : l.length + 1 = (l ++ [v]).length := by simp
  have h2' : Own (H'.del b) H' 4 (some ⟨b, 0, none⟩) (l.length + 1) c' (cs ++ cv) := h2.move rfl (del_self _ _)
  rw [hlen] at h2' ⊢
  exact .own _ b E c' _ g.1 (hk.trans g.2) hb h2' ((hrc.append (RC.one hv)).mono g.2)

section
variable (ok : EnvOk (env Try.prog))
include ok

end
end Va
end Go.Proofs.Ytpdabjimdfifnaa

/- The play makes values. -/
set_option linter.unusedVariables false
namespace Go.Proofs.Ytpdabjimdfifnaa
open Go.Ev Go.Ew
namespace Va

abbrev emp : ByteArray := ByteArray.mk #[]

theorem leaf {K : KH} {k i : Int} {s : ByteArray} : RV K (.mk k i s []) [.int .i64 k, .int .i64 i, .string s, .slice none 0 0] := ⟨none, 0, 0, rfl, rfl, rfl, rfl⟩

theorem lit_get {K : KH} {n j : Nat} {cs : List Value} {v : Value} (h : K n = some (mkEnt cs 0)) (hj : cs[j]? = some v) : ld K ⟨n, 0 + j * 1, none⟩ [v] := by
  refine ⟨rfl, _, h, rd_some rfl fun i w hw => ?_⟩
  match i, hw with
  | 0, hw =>
    simp at hw
    subst hw
    simp only [mkEnt, tget_wr_nil]
    rw [← hj]
    congr 1
    omega
  | i + 1, hw => simp at hw

theorem szL_ins (x : V) : ∀ l : List V, szL (insV x l) ≤ szL l + szV x
  | [] => by simp [insV, szL]
  | y :: l => by
    have := szL_ins x l
    simp only [insV]
    split
    · simp only [szL]; omega
    · split
      · simp only [szL]; omega
      · simp only [szL]; omega

theorem find_le (s : ByteArray) : ∀ l : List V, (findV s l).1 ≤ l.length
  | [] => by simp [findV]
  | y :: l => by
    have := find_le s l
    simp only [findV]
    split
    · simp only [List.length_cons]; omega
    · simp

section
variable (ok : EnvOk (env Try.prog))
include ok

end
end Va
end Go.Proofs.Ytpdabjimdfifnaa

/- The play makes values: Val. -/
set_option linter.unusedVariables false
namespace Go.Proofs.Ytpdabjimdfifnaa
open Go.Ev Go.Ew
namespace Va

abbrev texts : List Value := [.string (ByteArray.mk #[]), .string (ByteArray.mk #[97]), .string (ByteArray.mk #[98]), .string (ByteArray.mk #[97, 98]), .string (ByteArray.mk #[97, 45, 116, 101, 120, 116, 45, 111, 102, 45, 50, 49, 45, 98, 121, 116, 101, 115, 45, 120, 120])]

theorem texts_get (j : Nat) (h : j < 5) : ∃ s : ByteArray, texts[j]? = some (.string s) ∧ s.size ≤ 21 := by
  have h3 : j = 0 ∨ j = 1 ∨ j = 2 ∨ j = 3 ∨ j = 4 := by omega
  rcases h3 with q | q | q | q | q <;> rw [q] <;> exact ⟨_, rfl, by decide⟩

abbrev ints : List Value := [.int .i64 0, .int .i64 1, .int .i64 2, .int .i64 (-1), .int .i64 7, .int .i64 9223372036854775807, .int .i64 (-9223372036854775808)]

theorem ints_get (j : Nat) (h : j < 7) : ∃ x : Int, ints[j]? = some (.int .i64 x) := by
  have h3 : j = 0 ∨ j = 1 ∨ j = 2 ∨ j = 3 ∨ j = 4 ∨ j = 5 ∨ j = 6 := by omega
  rcases h3 with q | q | q | q | q | q | q <;> rw [q] <;> exact ⟨_, rfl⟩

theorem PK.fresh {K H : KH} {p n : Nat} {E : Ent} (h : PK K p H) (hn : H n = none) : PK ((H.new n E).del p) p (H.new n E) ∧ Le K ((H.new n E).del p) ∧ ((H.new n E).del p) n = some E := by
  have g := h.grow (Le.new hn (e := E))
  refine ⟨g.1, g.2, ?_⟩
  have hnp : n ≠ p := fun e => by
    subst e
    obtain ⟨_, e, _, _, _, _, q, _⟩ := h
    rw [q] at hn
    simp [KH.new] at hn
  simp only [KH.del, KH.new, if_neg hnp, if_true]

section
variable (ok : EnvOk (env Try.prog))
include ok

end
end Va
end Go.Proofs.Ytpdabjimdfifnaa
