/- The reader: letters, one by one; Parse. -/
import Derived.Test.YtphgchjoglgeeaaEwRx4
set_option linter.unusedVariables false
set_option linter.unusedSimpArgs false
namespace Go.Ew
open Go.Ev Go.Deep

/-- The library's search for a byte. -/
theorem does_idx {E : Env} {g : Nat} {x : ByteArray} {c : Int} {H : KH} {Q : Value → KH → Prop} (h0 : Nat.blt g unkU = true) (h1 : (tget E.ff g).isNone = true) (h2 : tget E.xx g = some 3) (hq : Q (.int .i64 (idxB x c)) H) : Does E g [.string x, .int .u8 c] H Q := by
  have h1 : tget E.ff g = none := by
    cases h : tget E.ff g with
    | none => rfl
    | some f => rw [h] at h1; cases h1
  refine ⟨blt_lt h0, fun h wf know => ⟨_, h, H, ⟨0, fun m _ => ?_⟩, hq, wf, know, Nat.le_refl _, fun _ _ _ => rfl, fun k q => .inl q⟩⟩
  simp only [callA, h0, cond_true, h1, xext, h2]

def marksS : ByteArray := ByteArray.mk #[40, 41, 91, 93, 124, 42, 43, 63, 46, 92]
def clsS : ByteArray := ByteArray.mk #[93, 45, 92]

theorem marks_all : ∀ n : Nat, n < 256 → decide (0 ≤ idxB marksS (n : Int)) = decide ((n : Int) ∈ marksB) := by decide +kernel
theorem cls_all : ∀ n : Nat, n < 256 → decide (0 ≤ idxB clsS (n : Int)) = decide ((n : Int) ∈ clsB) := by decide +kernel

theorem marks_in {c : Int} (h : 0 ≤ c ∧ c < 256) : decide (0 ≤ idxB marksS c) = decide (c ∈ marksB) := by
  have := marks_all c.toNat (by omega)
  rwa [Int.toNat_of_nonneg h.1] at this
theorem cls_in {c : Int} (h : 0 ≤ c ∧ c < 256) : decide (0 ≤ idxB clsS c) = decide (c ∈ clsB) := by
  have := cls_all c.toNat (by omega)
  rwa [Int.toNat_of_nonneg h.1] at this

/-- Not too great; a dash has something ahead. -/
def Wf (n : Nat) (σ : RdS) : Prop := σ.items.length ≤ 3 * n ∧ ∀ l pl, σ.cls = some (l, pl) → l.length ≤ n ∧ (pl ≠ 0 → l ≠ [])

theorem join_cls (σ : RdS) : (joinR σ).cls = σ.cls := by unfold joinR putR; split <;> rfl
theorem end_cls {σ τ : RdS} (h : endR σ = some τ) : τ.cls = σ.cls := by
  unfold endR at h
  split at h
  · cases h
  · cases h
    show (if (joinR σ).parted = true then putR (joinR σ) 3 else joinR σ).cls = _
    split
    · exact join_cls σ
    · exact join_cls σ

theorem wf_none {n m : Nat} {σ : RdS} (h1 : σ.items.length ≤ 3 * m) (h2 : σ.cls = none) : Wf m σ := ⟨h1, fun l pl q => by rw [h2] at q; cases q⟩

theorem add_len (σ : RdS) (l : List Rg) : (addClassR σ l).items.length ≤ σ.items.length + 2 := by
  have := join_len σ
  simp only [addClassR, List.length_append, List.length_cons, List.length_nil]
  omega

theorem add_cls (σ : RdS) (l : List Rg) : (addClassR σ l).cls = σ.cls := join_cls σ

theorem mark_wf {n : Nat} {σ τ : RdS} {c : Int} (h : σ.items.length ≤ 3 * n) (hc : σ.cls = none) (ht : markR σ c = some τ) : Wf (n + 1) τ := by
  have hj := join_len σ
  unfold markR at ht
  split at ht
  · unfold openR at ht
    split at ht
    · cases ht
      refine wf_none (n := n) ?_ ?_
      · show (joinR σ).items.length ≤ _; omega
      · show (joinR σ).cls = _; rw [join_cls, hc]
    · cases ht
  split at ht
  · unfold closeR at ht
    split at ht
    · cases ht
    · split at ht
      · cases ht
      · rename_i τ' he
        cases ht
        have := end_len he
        refine wf_none (n := n) ?_ ?_
        · show τ'.items.length ≤ _; omega
        · show τ'.cls = _; rw [end_cls he, hc]
  split at ht
  · unfold openC at ht
    split at ht
    · cases ht
      refine ⟨by show σ.items.length ≤ _; omega, fun l pl q => ?_⟩
      cases q
      exact ⟨by simp, fun q => absurd rfl q⟩
    · cases ht
  split at ht
  · cases ht
    have := add_len σ [(32, 126)]
    exact wf_none (n := n) (by omega) (by rw [add_cls, hc])
  split at ht
  · have := end_len ht
    exact wf_none (n := n) (by omega) (by rw [end_cls ht, hc])
  have rep : ∀ op, repeatR σ op = some τ → Wf (n + 1) τ := fun op ht => by
    unfold repeatR at ht
    split at ht
    · cases ht
    · cases ht
      exact wf_none (n := n) (by simp [putR]; omega) hc
  split at ht
  · exact rep _ ht
  split at ht
  · exact rep _ ht
  split at ht
  · exact rep _ ht
  · cases ht

theorem addC_wf {n : Nat} {l m : List Rg} {pl pl' c : Int} (hl : l.length ≤ n) (h : addC l pl c = some (m, pl')) : m.length ≤ n + 1 ∧ (pl' ≠ 0 → m ≠ []) := by
  unfold addC at h
  split at h
  · cases h
    exact ⟨by simp; omega, fun _ => by simp⟩
  · split at h
    · cases h
    · split at h
      · cases h
      · cases h
        exact ⟨by simp; omega, fun q => absurd rfl q⟩

theorem take_wf {n : Nat} {σ τ : RdS} {c : Int} {esc : Bool} (h : Wf n σ) (ht : takeR σ c esc = some τ) : Wf (n + 1) τ := by
  obtain ⟨h1, h2⟩ := h
  unfold takeR at ht
  split at ht
  · rename_i l pl hc
    obtain ⟨g1, g2⟩ := h2 l pl hc
    unfold inClassR at ht
    split at ht
    · split at ht
      · rename_i x hx
        cases ht
        refine ⟨by show σ.items.length ≤ _; omega, fun m pl' q => ?_⟩
        have q : x = (m, pl') := Option.some.inj q
        subst q
        exact addC_wf g1 hx
      · cases ht
    · split at ht
      · split at ht
        · rename_i hp
          cases ht
          refine ⟨by show σ.items.length ≤ _; omega, fun m pl' q => ?_⟩
          have q : (l, (2 : Int)) = (m, pl') := Option.some.inj q
          cases q
          exact ⟨by omega, fun _ => g2 (by omega)⟩
        · cases ht
      · split at ht
        · split at ht
          · cases ht
            have := add_len σ l
            refine wf_none (n := n) ?_ rfl
            show (addClassR σ l).items.length ≤ _
            omega
          · cases ht
        · cases ht
  · rename_i hc
    split at ht
    · cases ht
      have := add_len σ [(c, c)]
      exact wf_none (n := n) (by omega) (by rw [add_cls, hc])
    · exact mark_wf h1 hc ht

theorem Fu.le {X H : KH} {p : Nat} {σ : RdS} (h : Fu X H p σ) : Le X H := by
  unfold Fu at h
  split at h
  · obtain ⟨_, _, _, _, _, _, h⟩ := h; exact h.pt.le
  · obtain ⟨_, _, _, _, _, _, _, _, h⟩ := h; exact h.co.pt.le
theorem CoX.le {X H : KH} {p : Nat} {σ : RdS} {kc : List Value} (h : CoX X H p σ kc) : Le X H := by
  obtain ⟨_, _, _, _, _, _, h⟩ := h; exact h.pt.le
theorem ClX.le {X H : KH} {p : Nat} {σ : RdS} {l : List Rg} {pl : Int} (h : ClX X H p σ l pl) : Le X H := by
  obtain ⟨_, _, _, _, _, _, _, _, h⟩ := h; exact h.co.pt.le

theorem Fu.of_none {X H : KH} {p : Nat} {σ : RdS} (hc : σ.cls = none) (h : CoX X H p σ shut) : Fu X H p σ := by
  unfold Fu; rw [hc]; exact h
theorem Fu.none {X H : KH} {p : Nat} {σ : RdS} (h : Fu X H p σ) (hc : σ.cls = Option.none) : CoX X H p σ shut := by
  unfold Fu at h; rw [hc] at h; exact h
theorem Fu.some {X H : KH} {p : Nat} {σ : RdS} {l : List Rg} {pl : Int} (h : Fu X H p σ) (hc : σ.cls = Option.some (l, pl)) : ClX X H p σ l pl := by
  unfold Fu at h; rw [hc] at h; exact h

/-- Only the class is another one. -/
theorem CoX.cls {X H : KH} {p : Nat} {σ : RdS} {kc : List Value} (h : CoX X H p σ kc) (x : Option (List Rg × Int)) : CoX X H p { σ with cls := x } kc := by
  obtain ⟨ai, ci, ao, co, csI, exo, h⟩ := h
  exact ⟨ai, ci, ao, co, csI, exo, h.pt, h.xi, h.xo, h.items, h.itc, h.outer, h.small⟩
theorem ClX.cls {X H : KH} {p : Nat} {σ : RdS} {l : List Rg} {pl : Int} (h : ClX X H p σ l pl) : Fu X H p { σ with cls := some (l, pl) } := by
  obtain ⟨ai, ci, ao, co, csI, exo, ar, cr, h⟩ := h
  exact ⟨ai, ci, ao, co, csI, exo, ar, cr, ⟨h.co.pt, h.co.xi, h.co.xo, h.co.items, h.co.itc, h.co.outer, h.co.small⟩, h.row, h.xr⟩
end Go.Ew

namespace Go.Proofs.Ytphgchjoglgeeaa
open Go.Ev Go.Ew
namespace Va
section
variable (ok : EnvOk (env Try.prog))
include ok

theorem c30 {s : ByteArray} {c : Int} {H : KH} {Q : Value → KH → Prop} (hq : Q (.int .i64 (idxB s c)) H) : Does (env Try.prog) 30 [.string s, .int .u8 c] H Q :=
  fn30 ok (fn39 ok (does_idx (by kernel_rfl) (by kernel_rfl) (by kernel_rfl) ⟨_, rfl, _, rfl, hq⟩))

theorem c22 {s : ByteArray} {L : List Int} {c : Int} {esc : Bool} {H : KH} {Q : Value → KH → Prop} (hL : decide (0 ≤ idxB s c) = decide (c ∈ L)) (hq : Q (.bool (standsB c esc L)) H) : Does (env Try.prog) 22 [.agg #[.int .u8 c, .bool esc], .string s] H Q := by
  refine fn22 ok (c30 ok ⟨_, rfl, fun h1 => ⟨fun h2 => ?_, fun h2 => ?_⟩, fun h1 => ?_⟩)
  · rw [hL]; unfold standsB at hq; rw [h1, h2, Bool.true_and, Bool.true_and] at hq; exact hq
  · unfold standsB at hq; rw [h2, Bool.false_and, Bool.and_false] at hq; exact hq
  · unfold standsB at hq; rw [h1, Bool.false_and] at hq; exact hq

theorem c24 {X H : KH} {p : Nat} {σ : RdS} {c : Int} {Q : Value → KH → Prop} (h : CoX X H p σ shut) (hcl : σ.cls = none) (hs : σ.items.length ≤ 900) (hn : markR σ c = none → ∀ H', Le X H' → Q (.bool false) H') (hq : ∀ τ, markR σ c = some τ → ∀ X' H', Le X X' → Fu X' H' p τ → Q (.bool true) H') : Does (env Try.prog) 24 [.pointer (some ⟨p, 0, none⟩), .int .u8 c] H Q := by
  have hle := h.le
  unfold markR at hn hq
  refine fn24 ok ⟨fun h1 => ?_, fun h1 => ⟨fun h2 => ?_, fun h2 => ⟨fun h3 => ?_, fun h3 => ⟨fun h4 => ?_, fun h4 => ⟨fun h5 => ?_, fun h5 => ⟨fun h6 => ?_, fun h6 => ⟨fun h7 => ?_, fun h7 => ⟨fun h8 => ?_, fun h8 => ?_⟩⟩⟩⟩⟩⟩⟩⟩
  · rw [if_pos (by simpa using h1)] at hn hq
    exact c32 ok h hs (fun e => ⟨_, rfl, hn e _ hle⟩) fun τ e H' hc => ⟨_, rfl, hq τ e X H' (Le.refl _) (Fu.of_none (by unfold openR at e; split at e <;> cases e; show (joinR σ).cls = _; rw [join_cls, hcl]) hc)⟩
  · rw [if_neg (by simpa using h1), if_pos (by simpa using h2)] at hn hq
    refine c33 ok h hs (fun e => ⟨_, rfl, hn e _ hle⟩) fun τ e H' hc => ⟨_, rfl, hq τ e X H' (Le.refl _) (Fu.of_none ?_ hc)⟩
    unfold closeR at e
    split at e
    · cases e
    · split at e
      · cases e
      · rename_i he
        cases e
        show RdS.cls _ = _
        rw [end_cls he, hcl]
  · rw [if_neg (by simpa using h1), if_neg (by simpa using h2), if_pos (by simpa using h3)] at hn hq
    exact c34 ok h (fun e => ⟨_, rfl, hn e _ hle⟩) fun τ e H' hc => ⟨_, rfl, hq τ e X H' (Le.refl _) hc⟩
  · rw [if_neg (by simpa using h1), if_neg (by simpa using h2), if_neg (by simpa using h3), if_pos (by simpa using h4)] at hn hq
    intro n10 hn10
    obtain ⟨ai, ci, ao, co, csI, exo, h⟩ := h
    have h9 := h.lit (e := mkEnt [.int .u8 32, .int .u8 126] 0) hn10
    exact c23 ok (l := [(32, 126)]) ⟨_, _, _, _, _, _, h9⟩ hs (lit_kold (if_pos rfl) rfl) fun H' hc => ⟨rfl, hq _ rfl _ H' (Le.new (hle.none hn10)) (Fu.of_none (by rw [add_cls, hcl]) hc)⟩
  · rw [if_neg (by simpa using h1), if_neg (by simpa using h2), if_neg (by simpa using h3), if_neg (by simpa using h4), if_pos (by simpa using h5)] at hn hq
    exact c25 ok h hs (fun e => ⟨_, rfl, hn e _ hle⟩) fun τ e H' hc => ⟨_, rfl, hq τ e X H' (Le.refl _) (Fu.of_none (by rw [end_cls e, hcl]) hc)⟩
  · rw [if_neg (by simpa using h1), if_neg (by simpa using h2), if_neg (by simpa using h3), if_neg (by simpa using h4), if_neg (by simpa using h5), if_pos (by simpa using h6)] at hn hq
    exact c35 ok h (by omega) (fun e H' hc => ⟨_, rfl, hn e _ hc.le⟩) fun τ e H' hc => ⟨_, rfl, hq τ e X H' (Le.refl _) (Fu.of_none (by unfold repeatR at e; split at e <;> cases e; exact hcl) hc)⟩
  · rw [if_neg (by simpa using h1), if_neg (by simpa using h2), if_neg (by simpa using h3), if_neg (by simpa using h4), if_neg (by simpa using h5), if_neg (by simpa using h6), if_pos (by simpa using h7)] at hn hq
    exact c35 ok h (by omega) (fun e H' hc => ⟨_, rfl, hn e _ hc.le⟩) fun τ e H' hc => ⟨_, rfl, hq τ e X H' (Le.refl _) (Fu.of_none (by unfold repeatR at e; split at e <;> cases e; exact hcl) hc)⟩
  · rw [if_neg (by simpa using h1), if_neg (by simpa using h2), if_neg (by simpa using h3), if_neg (by simpa using h4), if_neg (by simpa using h5), if_neg (by simpa using h6), if_neg (by simpa using h7), if_pos (by simpa using h8)] at hn hq
    exact c35 ok h (by omega) (fun e H' hc => ⟨_, rfl, hn e _ hc.le⟩) fun τ e H' hc => ⟨_, rfl, hq τ e X H' (Le.refl _) (Fu.of_none (by unfold repeatR at e; split at e <;> cases e; exact hcl) hc)⟩
  · rw [if_neg (by simpa using h1), if_neg (by simpa using h2), if_neg (by simpa using h3), if_neg (by simpa using h4), if_neg (by simpa using h5), if_neg (by simpa using h6), if_neg (by simpa using h7), if_neg (by simpa using h8)] at hn
    exact hn rfl _ hle

theorem c21 {X H : KH} {p : Nat} {σ : RdS} {l : List Rg} {pl c : Int} {esc : Bool} {Q : Value → KH → Prop} (h : ClX X H p σ l pl) (hs : σ.items.length ≤ 900) (hl : l.length ≤ 900) (hpl : pl ≠ 0 → l ≠ []) (hc : 0 ≤ c ∧ c < 256) (hn : inClassR σ l pl c esc = none → ∀ H', Le X H' → Q (.bool false) H') (hq : ∀ τ, inClassR σ l pl c esc = some τ → ∀ X' H', Le X X' → Fu X' H' p τ → Q (.bool true) H') : Does (env Try.prog) 21 [.pointer (some ⟨p, 0, none⟩), .agg #[.int .u8 c, .bool esc]] H Q := by
  have hle := h.le
  unfold inClassR at hn hq
  refine fn21 ok (c22 ok (s := clsS) (cls_in hc) ⟨_, rfl, fun h1 => ?_, fun h1 => ⟨fun h2 => ?_, fun h2 => ⟨fun h3 => ?_, fun h3 => ?_⟩⟩⟩)
  · rw [if_pos h1] at hn hq
    refine ⟨trivial, rfl, c27 ok h (by omega) (fun e => hpl (by omega)) (fun e => ⟨_, rfl, trivial, hn (by rw [e]) _ hle⟩) fun m pl' e H' hd => ⟨_, rfl, trivial, hq _ (by rw [e]) X H' (Le.refl _) hd.cls⟩⟩
  · rw [if_neg (by rw [h1]; decide), if_pos (by simpa using h2)] at hn hq
    exact ⟨rfl, c28 ok h (fun e => ⟨_, rfl, hn (if_neg e) _ hle⟩) fun e H' hd => ⟨_, rfl, hq _ (if_pos e) X H' (Le.refl _) hd.cls⟩⟩
  · rw [if_neg (by rw [h1]; decide), if_neg (by simpa using h2), if_pos (by simpa using h3)] at hn hq
    exact c29 ok h hs (fun e => ⟨_, rfl, hn (if_neg (by rw [e]; decide)) _ hle⟩) fun e X' H' hx hd => ⟨_, rfl, hq _ (if_pos e) X' H' hx (Fu.of_none rfl (hd.cls _))⟩
  · rw [if_neg (by rw [h1]; decide), if_neg (by simpa using h2), if_neg (by simpa using h3)] at hn
    exact hn rfl _ hle

theorem c16 {X H : KH} {p : Nat} {σ : RdS} {c : Int} {esc : Bool} {n : Nat} {Q : Value → KH → Prop} (h : Fu X H p σ) (hw : Wf n σ) (hn300 : n ≤ 300) (hc : 0 ≤ c ∧ c < 256) (hn : takeR σ c esc = none → ∀ H', Le X H' → Q (.bool false) H') (hq : ∀ τ, takeR σ c esc = some τ → ∀ X' H', Le X X' → Fu X' H' p τ → Q (.bool true) H') : Does (env Try.prog) 16 [.pointer (some ⟨p, 0, none⟩), .agg #[.int .u8 c, .bool esc]] H Q := by
  have hle := h.le
  obtain ⟨w1, w2⟩ := hw
  unfold takeR at hn hq
  cases hcl : σ.cls with
  | some x =>
    obtain ⟨l, pl⟩ := x
    rw [hcl] at hn hq
    have h' := h.some hcl
    obtain ⟨g1, g2⟩ := w2 l pl hcl
    have hk0 : ld H ⟨p, 4, none⟩ [.bool true] := by
      obtain ⟨ai, ci, ao, co, csI, exo, ar, cr, h1⟩ := h'
      exact h1.k0
    exact fn16 ok ⟨rfl, rfl, true, hk0, fun _ => c21 ok h' (by omega) (by omega) g2 hc (fun e H' hl => ⟨_, rfl, hn e H' hl⟩) fun τ e X' H' hl hf => ⟨_, rfl, hq τ e X' H' hl hf⟩, fun e => by cases e⟩
  | none =>
    rw [hcl] at hn hq
    have h' := h.none hcl
    have hk0 : ld H ⟨p, 4, none⟩ [.bool false] := by
      obtain ⟨ai, ci, ao, co, csI, exo, h1⟩ := h'
      exact Co.k (a := []) (b := [.bool false]) (c := [.slice none 0 0, .int .i64 0]) h1
    refine fn16 ok ⟨rfl, rfl, false, hk0, fun e => (by cases e), fun _ => c22 ok (s := marksS) (marks_in hc) ⟨_, rfl, fun h1 n4 hn4 => ?_, fun h1 => ?_⟩⟩
    · obtain ⟨ai, ci, ao, co, csI, exo, h2⟩ := h'
      have h9 := h2.lit (e := mkEnt [.int .u8 c, .int .u8 c] 0) hn4
      exact c23 ok (l := [(c, c)]) ⟨_, _, _, _, _, _, h9⟩ (by omega) (lit_kold (if_pos rfl) rfl) fun H' hd => ⟨rfl, hq _ (if_pos h1) _ H' (Le.new (hle.none hn4)) (Fu.of_none (by rw [add_cls, hcl]) hd)⟩
    · have e1 : ¬ standsB c esc marksB = true := by rw [h1]; decide
      exact c24 ok h' hcl (by omega) (fun e H' hl => ⟨_, rfl, hn ((if_neg e1).trans e) H' hl⟩) fun τ e X' H' hl hf => ⟨_, rfl, hq τ ((if_neg e1).trans e) X' H' hl hf⟩

theorem c17 {X H : KH} {p : Nat} {σ : RdS} {Q : Value → KH → Prop} (h : Fu X H p σ) (hs : σ.items.length ≤ 900) (hn : finR σ = none → Q (.bool false) H) (hq : ∀ τ, finR σ = some τ → ∀ H', CoX X H' p τ shut → Q (.bool true) H') : Does (env Try.prog) 17 [.pointer (some ⟨p, 0, none⟩)] H Q := by
  unfold finR at hn hq
  cases hcl : σ.cls with
  | some x =>
    obtain ⟨l, pl⟩ := x
    rw [hcl] at hn
    have h' := h.some hcl
    have hk0 : ld H ⟨p, 4, none⟩ [.bool true] := by
      obtain ⟨ai, ci, ao, co, csI, exo, ar, cr, h1⟩ := h'
      exact h1.k0
    exact fn17 ok ⟨rfl, rfl, true, hk0, fun e => (by cases e), fun _ => hn rfl⟩
  | none =>
    rw [hcl] at hn hq
    have h' := h.none hcl
    obtain ⟨ai, ci, ao, co, csI, exo, h1⟩ := h'
    have hk0 : ld H ⟨p, 4, none⟩ [.bool false] := Co.k (a := []) (b := [.bool false]) (c := [.slice none 0 0, .int .i64 0]) h1
    refine fn17 ok ⟨rfl, rfl, false, hk0, fun _ => ⟨rfl, _, _, _, h1.c1, fun e => ?_, fun e => ?_⟩, fun e => by cases e⟩
    · have e : σ.outer.length = 0 := by have := of_decide_eq_true e; omega
      exact c25 ok ⟨_, _, _, _, _, _, h1⟩ hs (fun q => ⟨_, rfl, hn ((if_pos e).trans q)⟩) fun τ q H' hd => ⟨_, rfl, hq τ ((if_pos e).trans q) H' hd⟩
    · have e : ¬ σ.outer.length = 0 := by have := of_decide_eq_false e; omega
      exact hn (if_neg e)
end
end Va
end Go.Proofs.Ytphgchjoglgeeaa
