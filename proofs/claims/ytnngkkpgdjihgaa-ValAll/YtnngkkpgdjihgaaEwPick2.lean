/- A row that grows while values are made. -/
import Derived.Test.YtnngkkpgdjihgaaEwPick
set_option linter.unusedVariables false
namespace Go.Ew
open Go.Ev Go.Deep

theorem del_new {H : KH} {b : Nat} {E : Ent} (h : H b = some E) : (H.del b).new b E = H := by
  funext k
  simp only [KH.new, KH.del]
  by_cases hk : k = b
  · subst hk; simp [h]
  · simp [hk]

theorem del_self (H : KH) (b : Nat) : (H.del b) b = none := by simp [KH.del]

theorem Le.del {H H' : KH} (h : Le H H') {p : Nat} (hp : H p = Option.none) : Le H (H'.del p) := fun k e q => by
  simp only [KH.del]
  rw [if_neg (fun ek => by subst ek; rw [hp] at q; cases q)]
  exact h k e q

theorem new_new {H : KH} {a b : Nat} {x y : Ent} (h : a ≠ b) : (H.new a x).new b y = (H.new b y).new a x := by
  funext k
  simp only [KH.new]
  by_cases hk : k = a
  · subst hk; simp [h]
  · simp [hk]

/-- More is known, and the numbers are still read. -/
theorem PK.grow {K H H' : KH} {p : Nat} (h : PK K p H) (hl : Le H H') : PK (H'.del p) p H' ∧ Le K (H'.del p) := by
  have hle := h.le
  obtain ⟨h1, e, a, n, c, j, rfl, hwr, hr, hj, hn, hu⟩ := h
  have hp : H' p = some e := hl p e (by simp [KH.new])
  have hK : Le K (H'.del p) := (hle.trans hl).del h1
  exact ⟨⟨del_self _ _, e, a, n, c, j, (del_new hp).symm, hwr, hr, hj, hn, hu.mono hK⟩, hK⟩

theorem Own.at_ {H0 H : KH} {sz n c : Nat} {a : Option Addr} {cs : List Value} (h : Own H0 H sz a n c cs) (hn : 0 < n) : ∃ b E, a = some ⟨b, 0, none⟩ ∧ H b = some E ∧ H0 b = none := by
  cases h with
  | nil => omega
  | lit b _ _ h1 h2 h3 h4 => exact ⟨b, _, rfl, h1, h4⟩
  | grown b _ _ e h1 h2 h3 h4 h5 h6 => exact ⟨b, e, rfl, h1, h5⟩

/-- It speaks of its own block only. -/
theorem Own.move {H0 H H0' H' : KH} {sz n c b o : Nat} {sp : Option Nat} {cs : List Value} (h : Own H0 H sz (some ⟨b, o, sp⟩) n c cs) (h1 : H' b = H b) (h2 : H0' b = none) : Own H0' H' sz (some ⟨b, o, sp⟩) n c cs := by
  cases h with
  | lit _ _ _ q1 q2 q3 q4 => exact .lit b n cs (by rw [h1]; exact q1) q2 q3 h2
  | grown _ _ _ e q1 q2 q3 q4 q5 q6 => exact .grown b n cs e (by rw [h1]; exact q1) q2 q3 q4 h2 q6

inductive Acc (K0 : KH) (p : Nat) (H : KH) (l : List V) : Option Addr → Nat → Nat → Prop where
  | nil (K : KH) (h1 : PK K p H) (h2 : Le K0 K) (h3 : l = []) : Acc K0 p H l none 0 0
  | own (K : KH) (b : Nat) (E : Ent) (c : Nat) (cs : List Value) (h1 : PK K p (H.del b)) (h2 : Le K0 K) (h3 : H b = some E) (h4 : Own (H.del b) H 4 (some ⟨b, 0, none⟩) l.length c cs) (h5 : RC K l cs) : Acc K0 p H l (some ⟨b, 0, none⟩) l.length c

theorem Acc.len {K0 H : KH} {p : Nat} {l : List V} {a : Option Addr} {n c : Nat} (h : Acc K0 p H l a n c) : n = l.length := by
  cases h with
  | nil K h1 h2 h3 => subst h3; rfl
  | own => rfl

/-- What it is in the end. -/
theorem Acc.out {K0 H : KH} {p : Nat} {l : List V} {a : Option Addr} {n c : Nat} (h : Acc K0 p H l a n c) : ∃ K', PK K' p H ∧ Le K0 K' ∧ RS K' l a ∧ SlOk K' 4 a l.length c := by
  cases h with
  | nil K h1 h2 h3 => subst h3; exact ⟨K, h1, h2, rfl, rfl⟩
  | own K b E c cs h1 h2 h3 h4 h5 =>
    have g := h1.grow (del_le H b)
    have hbp : b ≠ p := fun e => by
      subst e
      obtain ⟨_, e, _, _, _, _, q, _⟩ := h1
      have q1 := del_self H b
      rw [q] at q1
      simp [KH.new] at q1
    have hb6 : (H.del p) b = H b := by simp only [KH.del, if_neg hbp]
    have h6 : Own (H.del b) (H.del p) 4 (some ⟨b, 0, none⟩) l.length c cs := h4.move hb6 (del_self _ _)
    exact ⟨_, g.1, h2.trans g.2, RS.of_cells h6.cells (h5.mono g.2), h6.ok (by decide)⟩
end Go.Ew

namespace Go.Proofs.Ytnngkkpgdjihgaa
open Go.Ev Go.Ew
namespace Va

/-- One more. -/
theorem Acc.more {K0 K1 H0 H : KH} {p : Nat} {l : List V} {v : V} {a : Option Addr} {n c nm : Nat} {cs cv : List Value} (hn : n = l.length) (hp : PK K1 p H0) (hk : Le K0 K1) (ho : Own H0 H 4 a n c cs) (hle : Le H0 H)
    (hrc : RC K1 l cs) (hv : RV K1 v cv) (hnm : H nm = none) (hl : l.length ≤ 1000) :
    ∃ a' c' H', kappend H nm VT a n c 1 cv = some (.slice a' (n + 1) c', H') ∧ Acc K0 p H' (l ++ [v]) a' (n + 1) c' := by
  subst hn
  obtain ⟨a', c', H', h1, h2, h3, _, _⟩ := Own.append (ti := VT) (m := 1) (new := cv) ho hle hnm (hv.len) (by omega) (by decide) (by decide)
  refine ⟨a', c', H', h1, ?_⟩
  obtain ⟨b, E, rfl, hb, hb0⟩ := h2.at_ (by omega)
  have hlb : Le H0 (H'.del b) := h3.del hb0
  have g := hp.grow hlb
  have hlen : l.length + 1 = (l ++ [v]).length := by simp
  have h2' : Own (H'.del b) H' 4 (some ⟨b, 0, none⟩) (l.length + 1) c' (cs ++ cv) := h2.move rfl (del_self _ _)
  rw [hlen] at h2' ⊢
  exact .own _ b E c' _ g.1 (hk.trans g.2) hb h2' ((hrc.append (RC.one hv)).mono g.2)

def P11 (d : Nat) : Prop := ∀ (K H : KH) (p : Nat) (Q : Value → KH → Prop), PK K p H →
  (∀ v cs K' H', PK K' p H' → Le K K' → RV K' v cs → szV v ≤ 5 * 4 ^ d ∧ Fit v → Q (.agg cs.toArray) H') → Does (env Try.prog) 11 [.pointer (some ⟨p, 0, none⟩), .int .i64 d] H Q

theorem Acc.step {d : Nat} (ih : P11 d) {K0 H : KH} {p : Nat} {l : List V} {a : Option Addr} {n c : Nat} {Q : Value → KH → Prop} (h : Acc K0 p H l a n c) (hl : l.length ≤ 1000)
    (hq : ∀ k i s ax nx cx v H2, szV v ≤ 5 * 4 ^ d ∧ Fit v →
      (∀ n9 n10, H2 n9 = none → (H2.new n9 (mkEnt [.int .i64 k, .int .i64 i, .string s, .slice ax nx cx] 0)) n10 = none →
        ∃ a' c' H16, kappend (H2.new n9 (mkEnt [.int .i64 k, .int .i64 i, .string s, .slice ax nx cx] 0)) n10 VT a n c 1 [.int .i64 k, .int .i64 i, .string s, .slice ax nx cx] = some (.slice a' (n + 1) c', H16) ∧ Acc K0 p H16 (l ++ [v]) a' (n + 1) c') →
      Q (.agg #[.int .i64 k, .int .i64 i, .string s, .slice ax nx cx]) H2) :
    Does (env Try.prog) 11 [.pointer (some ⟨p, 0, none⟩), .int .i64 d] H Q := by
  cases h with
  | nil K h1 h2 h3 =>
    subst h3
    refine ih K H p _ h1 fun v cs K' H' q1 q2 q3 q4 => ?_
    have q3' := q3
    obtain ⟨k, i, s, lv⟩ := v
    obtain ⟨ax, nx, cx, rfl, _⟩ := q3
    refine hq k i s ax nx cx (.mk k i s lv) H' q4 fun n9 n10 hn9 hn10 => ?_
    have g := q1.grow (Le.new hn9 (e := mkEnt [.int .i64 k, .int .i64 i, .string s, .slice ax nx cx] 0))
    exact Acc.more (l := []) rfl g.1 ((h2.trans q2).trans g.2) .nil (Le.refl _) rfl (q3'.mono g.2) hn10 (by simp)
  | own K b E c cs h1 h2 h3 h4 h5 =>
    rw [← del_new h3]
    refine Does.frame (del_self _ _) (ih K (H.del b) p _ h1 fun v cv K' H' q1 q2 q3 q4 hb => ?_)
    have q3' := q3
    obtain ⟨k, i, s, lv⟩ := v
    obtain ⟨ax, nx, cx, rfl, _⟩ := q3
    refine hq k i s ax nx cx (.mk k i s lv) _ q4 fun n9 n10 hn9 hn10 => ?_
    have hb9 : b ≠ n9 := fun e => by subst e; simp [KH.new] at hn9
    have hn9' : H' n9 = none := (Le.new hb).none hn9
    have g := q1.grow (Le.new hn9' (e := mkEnt [.int .i64 k, .int .i64 i, .string s, .slice ax nx cx] 0))
    have hb' : (H'.new n9 (mkEnt [.int .i64 k, .int .i64 i, .string s, .slice ax nx cx] 0)) b = none := by simp [KH.new, hb9, hb]
    rw [new_new hb9] at hn10 ⊢
    have hb2 : ((H'.new n9 (mkEnt [.int .i64 k, .int .i64 i, .string s, .slice ax nx cx] 0)).new b E) b = H b := by rw [h3]; exact if_pos rfl
    exact Acc.more (l := l) rfl g.1 ((h2.trans q2).trans g.2) (h4.move hb2 hb') (Le.new hb') (h5.mono (q2.trans g.2)) (q3'.mono g.2) hn10 hl

section
variable (ok : EnvOk (env Try.prog))
include ok

theorem c25 {d : Nat} (ih : P11 d) (hd : d ≤ 6) {K H : KH} {p : Nat} {Q : Value → KH → Prop} (hp : PK K p H)
    (hq : ∀ l a c K' H', PK K' p H' → Le K K' → RS K' l a → SlOk K' 4 a l.length c → szL l ≤ 3 * (5 * 4 ^ d) ∧ (∀ x ∈ l, Fit x) → l.length ≤ 3 → Q (.slice a l.length c) H') :
    Does (env Try.prog) 25 [.pointer (some ⟨p, 0, none⟩), .int .i64 (d + 1 : Nat)] H Q := by
  refine fn25 ok (c24 ok hp (by omega) (by omega) fun x H' hx1 hx2 hp' => ⟨x, rfl, ?_⟩)
  unfold vc25_L1
  refine ⟨fun n3 n4 n5 x6 a7 n8 n9 x10 H11 => n4 = p ∧ n5 = 0 ∧ x6 = (d + 1 : Nat) ∧ 0 ≤ x10 ∧ n3 = x10.toNat ∧ ∃ l, Acc K p H11 l a7 n8 n9 ∧ l.length + x10.toNat ≤ 3 ∧ szL l ≤ l.length * (5 * 4 ^ d) ∧ ∀ x ∈ l, Fit x,
    ⟨x.toNat, rfl, rfl, rfl, rfl, hx1, rfl, [], .nil K hp' (Le.refl _) rfl, by simp; omega, by simp [szL], by simp⟩, ?_⟩
  rintro n3 n4 n5 x6 a7 n8 n9 x10 H11 ⟨rfl, rfl, rfl, hx, rfl, l, hacc, hlx, hsz, hfit⟩
  refine ⟨fun hpos => ?_, fun hz => ?_⟩
  · have hpos : 0 < x10 := by simpa using hpos
    have hw : IntKind.wrap .i64 (((d + 1 : Nat) : Int) - 1) = (d : Int) := by rw [wrap64 (by omega) (by omega)]; omega
    have hw2 : IntKind.wrap .i64 (x10 - 1) = x10 - 1 := wrap64 (by omega) (by omega)
    rw [hw, hw2]
    refine Acc.step ih hacc (by omega) fun k i s ax nx cx v H2 hv happ => ⟨k, i, s, ax, nx, cx, rfl, fun n9 hn9 n10 hn10 => ?_⟩
    obtain ⟨a', c', H16, e1, e2⟩ := happ n9 n10 hn9 hn10
    have hk9 : kold (H2.new n9 (mkEnt [.int .i64 k, .int .i64 i, .string s, .slice ax nx cx] 0)) 4 (some ⟨n9, 0, none⟩) 1 = some [.int .i64 k, .int .i64 i, .string s, .slice ax nx cx] :=
      kold_some.2 ⟨mkEnt [.int .i64 k, .int .i64 i, .string s, .slice ax nx cx] 0, if_pos rfl, mk_rd⟩
    refine ⟨1, _, knew_of hk9, a', _, c', H16, e1, (x10 - 1).toNat, by omega, rfl, rfl, rfl, rfl, by omega, rfl, l ++ [v], e2, by simp; omega, ?_, fun x hx => (List.mem_append.1 hx).elim (hfit x) fun q => (by simpa using q : x = v) ▸ hv.2⟩
    have hv := hv.1
    rw [szL_app, List.length_append]
    simp only [szL, List.length_cons, List.length_nil, Nat.add_mul, Nat.zero_add, Nat.one_mul]
    omega
  · obtain ⟨K', g1, g2, g3, g4⟩ := hacc.out
    have hn := hacc.len
    subst hn
    refine hq l a7 n9 K' H11 g1 g2 g3 g4 ⟨?_, hfit⟩ (by omega)
    have : l.length * (5 * 4 ^ d) ≤ 3 * (5 * 4 ^ d) := Nat.mul_le_mul_right _ (by omega)
    omega
end
end Va
end Go.Proofs.Ytnngkkpgdjihgaa
