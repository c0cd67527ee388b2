/- Rows of any kind, grown while calls are made. -/
import Derived.Test.YtlemdiinmfneoaaGreatEwFit
set_option linter.unusedVariables false
set_option linter.unusedSimpArgs false
namespace Go.Ew
open Go.Ev Go.Deep Go.Proofs.YtlemdiinmfneoaaGreat.Va

/-- What lies in so many cells. -/
structure Kd (α : Type) where
  sz : Nat
  R : KH → α → List Value → Prop
  len : ∀ {H : KH} {x : α} {cs : List Value}, R H x cs → cs.length = sz
  mono : ∀ {H H' : KH} {x : α} {cs : List Value}, Le H H' → R H x cs → R H' x cs
  pos : 1 ≤ sz
  most : sz ≤ 1000

section
variable {α : Type} (kd : Kd α)

def Kd.RC (H : KH) : List α → List Value → Prop
  | [], cs => cs = []
  | v :: l, cs => ∃ c1 c2, cs = c1 ++ c2 ∧ kd.R H v c1 ∧ Kd.RC H l c2

variable {kd}

theorem Kd.RC.mono {H H' : KH} (h : Le H H') : ∀ {l : List α} {cs : List Value}, kd.RC H l cs → kd.RC H' l cs
  | [], _, q => q
  | v :: l, _, ⟨c1, c2, e, q1, q2⟩ => ⟨c1, c2, e, kd.mono h q1, Kd.RC.mono h q2⟩

theorem Kd.RC.len {H : KH} : ∀ {l : List α} {cs : List Value}, kd.RC H l cs → cs.length = l.length * kd.sz
  | [], _, q => by cases q; simp
  | v :: l, _, ⟨c1, c2, e, q1, q2⟩ => by subst e; have := Kd.RC.len q2; have := kd.len q1; simp only [List.length_append, List.length_cons, Nat.add_mul]; omega

theorem Kd.RC.append {H : KH} : ∀ {l m : List α} {cs ds : List Value}, kd.RC H l cs → kd.RC H m ds → kd.RC H (l ++ m) (cs ++ ds)
  | [], _, _, _, q, r => by cases q; exact r
  | v :: l, _, _, _, ⟨c1, c2, e, q1, q2⟩, r => by subst e; exact ⟨c1, c2 ++ _, by rw [List.append_assoc], q1, Kd.RC.append q2 r⟩

theorem Kd.RC.one {H : KH} {v : α} {cs : List Value} (h : kd.R H v cs) : kd.RC H [v] cs := ⟨cs, [], by simp, h, rfl⟩

theorem Kd.RC.get {H : KH} : ∀ {l : List α} {cs : List Value} {j : Nat} {x : α}, kd.RC H l cs → l[j]? = some x → kd.R H x ((cs.drop (j * kd.sz)).take kd.sz) ∧ j * kd.sz + kd.sz ≤ cs.length
  | [], cs, j, x, _, h => by simp at h
  | v :: l, cs, 0, x, ⟨c1, c2, e, q1, q2⟩, h => by
    simp at h
    subst h e
    have := kd.len q1
    rw [Nat.zero_mul, List.drop_zero, List.take_append_of_le_length (by omega), List.take_of_length_le (by omega)]
    exact ⟨q1, by simp only [List.length_append]; omega⟩
  | v :: l, cs, j + 1, x, ⟨c1, c2, e, q1, q2⟩, h => by
    subst e
    have hl := kd.len q1
    obtain ⟨h1, h2⟩ := Kd.RC.get q2 (by simpa using h)
    have e1 : (j + 1) * kd.sz = c1.length + j * kd.sz := by rw [hl, Nat.add_mul]; omega
    have e2 : c1.length + j * kd.sz - c1.length = j * kd.sz := by omega
    rw [e1, List.drop_append, List.drop_eq_nil_of_le (show c1.length ≤ c1.length + j * kd.sz by omega), List.nil_append, e2]
    exact ⟨h1, by simp only [List.length_append]; omega⟩

/-- A row lies from an address on. -/
def Kd.RS (kd : Kd α) (H : KH) (l : List α) (a : OA) : Prop := ∃ cs, kold H kd.sz a l.length = some cs ∧ kd.RC H l cs

theorem Kd.RS.mono {H H' : KH} (h : Le H H') {l : List α} {a : OA} (q : kd.RS H l a) : kd.RS H' l a := by
  obtain ⟨cs, h1, h2⟩ := q
  exact ⟨cs, h.kold h1, h2.mono h⟩

theorem Kd.RS.get {H : KH} {l : List α} {a : OA} {j : Nat} {x : α} (q : kd.RS H l a) (hx : l[j]? = some x) : ∃ b o, a = some ⟨b, o, none⟩ ∧ ∃ cs, ld H ⟨b, o + j * kd.sz, none⟩ cs ∧ kd.R H x cs := by
  obtain ⟨cs, h1, h2⟩ := q
  obtain ⟨g1, g2⟩ := h2.get hx
  have hlen := h2.len
  have hl0 : l.length ≠ 0 := fun e => by
    have : l = [] := List.eq_nil_of_length_eq_zero e
    subst this
    simp at hx
  cases a with
  | none =>
    unfold kold at h1
    simp only at h1
    cases hb : Nat.beq l.length 0 with
    | true => exact absurd (Nat.eq_of_beq_eq_true hb) hl0
    | false => rw [hb] at h1; cases h1
  | some ad =>
    obtain ⟨b, o, sp⟩ := ad
    cases sp with
    | some sp =>
      unfold kold at h1
      simp only at h1
      cases hb : Nat.beq l.length 0 with
      | true => exact absurd (Nat.eq_of_beq_eq_true hb) hl0
      | false => rw [hb] at h1; cases h1
    | none =>
      obtain ⟨e, he, hr⟩ := kold_some.1 h1
      refine ⟨b, o, rfl, _, ⟨rfl, e, he, ?_⟩, g1⟩
      have r1 := rd_drop hr (m := j * kd.sz) (by rw [← hlen]; omega)
      have r2 := rd_take r1 (m := kd.sz) (by rw [← hlen]; omega)
      rw [kd.len g1]
      exact r2

theorem Kd.RS.of_own {H0 H : KH} {l : List α} {a : OA} {c : Nat} {cs : List Value} (h : Own H0 H kd.sz a l.length c cs) (hr : kd.RC H l cs) : kd.RS H l a := ⟨cs, h.cells, hr⟩

inductive AccK (kd : Kd α) (K0 : KH) (p : Nat) (H : KH) (l : List α) : OA → Nat → Nat → Prop where
  | nil (K : KH) (h1 : PK K p H) (h2 : Le K0 K) (h3 : l = []) : AccK kd K0 p H l none 0 0
  | own (K : KH) (b : Nat) (E : Ent) (c : Nat) (cs : List Value) (h1 : PK K p (H.del b)) (h2 : Le K0 K) (h3 : H b = some E) (h4 : Own (H.del b) H kd.sz (some ⟨b, 0, none⟩) l.length c cs) (h5 : kd.RC K l cs) : AccK kd K0 p H l (some ⟨b, 0, none⟩) l.length c

theorem AccK.len {K0 H : KH} {p : Nat} {l : List α} {a : OA} {n c : Nat} (h : AccK kd K0 p H l a n c) : n = l.length := by
  cases h with
  | nil K h1 h2 h3 => subst h3; rfl
  | own => rfl

/-- What it is in the end. -/
theorem AccK.out {K0 H : KH} {p : Nat} {l : List α} {a : OA} {n c : Nat} (h : AccK kd K0 p H l a n c) : ∃ K', PK K' p H ∧ Le K0 K' ∧ kd.RS K' l a ∧ SlOk K' kd.sz a l.length c := by
  cases h with
  | nil K h1 h2 h3 => subst h3; exact ⟨K, h1, h2, ⟨[], rfl, rfl⟩, rfl⟩
  | own K b E c cs h1 h2 h3 h4 h5 =>
    have g := h1.grow (del_le H b)
    have hbp : b ≠ p := fun e => by
      subst e
      obtain ⟨_, e, _, _, _, _, q, _⟩ := h1
      have q1 := del_self H b
      rw [q] at q1
      simp [KH.new] at q1
    have hb6 : (H.del p) b = H b := by simp only [KH.del, if_neg hbp]
    have h6 : Own (H.del b) (H.del p) kd.sz (some ⟨b, 0, none⟩) l.length c cs := h4.move hb6 (del_self _ _)
    exact ⟨_, g.1, h2.trans g.2, .of_own h6 (h5.mono g.2), h6.ok kd.pos⟩

/-- One more. -/
theorem AccK.more {ti : TI} (hti : ti.size = kd.sz) (htb : ti.bytes ≤ 1000000) {K0 K1 H0 H : KH} {p : Nat} {l : List α} {v : α} {a : OA} {n c nm : Nat} {cs cv : List Value} (hn : n = l.length) (hp : PK K1 p H0) (hk : Le K0 K1) (ho : Own H0 H kd.sz a n c cs) (hle : Le H0 H)
    (hrc : kd.RC K1 l cs) (hv : kd.R K1 v cv) (hnm : H nm = none) (hl : l.length ≤ 1000) :
    ∃ a' c' H', kappend H nm ti a n c 1 cv = some (.slice a' (n + 1) c', H') ∧ AccK kd K0 p H' (l ++ [v]) a' (n + 1) c' := by
  subst hn
  have hpos := kd.pos
  have hmost := kd.most
  rw [← hti] at ho
  obtain ⟨a', c', H', h1, h2, h3, _, _⟩ := Own.append (ti := ti) (m := 1) (new := cv) ho hle hnm (by rw [kd.len hv, hti, Nat.one_mul]) (by omega) htb (by omega) (by omega)
  rw [hti] at h2
  refine ⟨a', c', H', h1, ?_⟩
  obtain ⟨b, E, rfl, hb, hb0⟩ := h2.at_ (by omega)
  have hlb : Le H0 (H'.del b) := h3.del hb0
  have g := hp.grow hlb
  have hlen : l.length + 1 = (l ++ [v]).length := by simp
  have h2' : Own (H'.del b) H' kd.sz (some ⟨b, 0, none⟩) (l.length + 1) c' (cs ++ cv) := h2.move rfl (del_self _ _)
  rw [hlen] at h2' ⊢
  exact .own _ b E c' _ g.1 (hk.trans g.2) hb h2' ((hrc.append (Kd.RC.one hv)).mono g.2)

/-- A call that makes one more. -/
theorem AccK.step {ti : TI} (hti : ti.size = kd.sz) (htb : ti.bytes ≤ 1000000) {E : Env} {g : Nat} {args : List Value} {p : Nat} {P : α → Prop} (call : ∀ (K H : KH) (Q : PQ), PK K p H → (∀ x cs K' H', PK K' p H' → Le K K' → kd.R K' x cs → P x → Q (.agg cs.toArray) H') → Does E g args H Q)
    {K0 H : KH} {l : List α} {a : OA} {n c : Nat} {Q : PQ} (h : AccK kd K0 p H l a n c) (hl : l.length ≤ 1000)
    (hq : ∀ x cs K2 H2, P x → kd.R K2 x cs →
      (∀ n9 n10, H2 n9 = none → (H2.new n9 (mkEnt cs 0)) n10 = none →
        ∃ a' c' H16, kappend (H2.new n9 (mkEnt cs 0)) n10 ti a n c 1 cs = some (.slice a' (n + 1) c', H16) ∧ AccK kd K0 p H16 (l ++ [x]) a' (n + 1) c') →
      Q (.agg cs.toArray) H2) :
    Does E g args H Q := by
  cases h with
  | nil K h1 h2 h3 =>
    subst h3
    refine call K H _ h1 fun x cs K' H' q1 q2 q3 q4 => hq x cs K' H' q4 q3 fun n9 n10 hn9 hn10 => ?_
    have g := q1.grow (Le.new hn9 (e := mkEnt cs 0))
    exact AccK.more hti htb (l := []) rfl g.1 ((h2.trans q2).trans g.2) .nil (Le.refl _) rfl (kd.mono g.2 q3) hn10 (by simp)
  | own K b E c cs h1 h2 h3 h4 h5 =>
    rw [← del_new h3]
    refine Does.frame (del_self _ _) (call K (H.del b) _ h1 fun x cv K' H' q1 q2 q3 q4 hb => hq x cv K' _ q4 q3 fun n9 n10 hn9 hn10 => ?_)
    have hb9 : b ≠ n9 := fun e => by subst e; simp [KH.new] at hn9
    have hn9' : H' n9 = none := (Le.new hb).none hn9
    have g := q1.grow (Le.new hn9' (e := mkEnt cv 0))
    have hb' : (H'.new n9 (mkEnt cv 0)) b = none := by simp [KH.new, hb9, hb]
    rw [new_new hb9] at hn10 ⊢
    have hb2 : ((H'.new n9 (mkEnt cv 0)).new b E) b = H b := by rw [h3]; exact if_pos rfl
    exact AccK.more hti htb (l := l) rfl g.1 ((h2.trans q2).trans g.2) (h4.move hb2 hb') (Le.new hb') (h5.mono (q2.trans g.2)) (kd.mono g.2 q3) hn10 hl
end
end Go.Ew
