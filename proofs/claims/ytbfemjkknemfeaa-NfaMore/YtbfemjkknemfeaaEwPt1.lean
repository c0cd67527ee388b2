import Derived.Test.YtbfemjkknemfeaaEwNf5
/- The shortest text of a pattern says it (pure). -/
set_option linter.unusedVariables false
set_option linter.unusedSimpArgs false
namespace Go.Ew
open Go.Ev Go.Deep

/-- Bytes from 32 to 126. -/
def vis (c : Int) : Prop := 32 ≤ c ∧ c ≤ 126

theorem b1_bytes {c : Int} (h : vis c) : bytesI (b1B c) = [c] := by
  unfold bytesI b1B
  have h1 : (UInt8.ofNat c.toNat).toNat = c.toNat := by
    rw [UInt8.toNat_ofNat']
    have := h.1; have := h.2
    omega
  simp only [List.map_cons, List.map_nil]
  have := h.1
  rw [h1]
  congr 1
  omega

theorem byte_said : ∀ n : Nat, n < 127 → 32 ≤ n → said (ByteArray.mk #[91] ++ b1B (n : Int) ++ ByteArray.mk #[93]) [(1, [((n : Int), (n : Int))])] = !decide ((n : Int) ∈ clsB) := by decide +kernel

theorem byteT_eq {c : Int} (h : vis c) : byteT c = if c ∈ clsB then ByteArray.mk #[92] ++ b1B c else b1B c := by
  obtain ⟨n, rfl⟩ : ∃ n : Nat, c = n := ⟨c.toNat, by have := h.1; omega⟩
  have := byte_said n (by have := h.2; omega) (by have := h.1; omega)
  unfold byteT
  rw [this]
  by_cases hc : ((n : Nat) : Int) ∈ clsB
  · rw [if_pos hc, if_neg (by simp [hc])]
  · rw [if_neg hc, if_pos (by simp [hc])]

theorem let_plain {c : Int} {r : List Int} (h : c ≠ 92) : letL (c :: r) false = (c, false) :: letL r false := by
  rw [letL, if_neg (fun q => h q.1)]
theorem let_esc {c : Int} {r : List Int} : letL (92 :: c :: r) false = (c, true) :: letL r false := by
  rw [letL, if_pos ⟨rfl, rfl, by simp⟩, letL, if_neg (fun q => by cases q.2.1)]

theorem bytesI_app (a b : ByteArray) : bytesI (a ++ b) = bytesI a ++ bytesI b := bytes_app a b

/-- A byte within a class. -/
theorem byteT_run {c : Int} (h : vis c) : ∃ e, standsB c e clsB = true ∧ ∀ r, letL (bytesI (byteT c) ++ r) false = (c, e) :: letL r false := by
  rw [byteT_eq h]
  have h1 := h.1
  have h2 := h.2
  split
  · rename_i hc
    refine ⟨true, ?_, fun r => ?_⟩
    · unfold standsB; simp [h1, h2, hc]
    · rw [bytesI_app, b1_bytes h]
      exact let_esc
  · rename_i hc
    refine ⟨false, ?_, fun r => ?_⟩
    · unfold standsB; simp [h1, h2, hc]
    · rw [b1_bytes h]
      exact let_plain (fun q => hc (by rw [q]; decide))

theorem foldT_cons {σ τ : RdS} {c : Int} {e : Bool} {l : List (Int × Bool)} (h : takeR σ c e = some τ) : foldT σ ((c, e) :: l) = foldT τ l := by
  rw [foldT, h]

theorem in_cls {σ : RdS} {l : List Rg} {pl c : Int} {e : Bool} (hs : standsB c e clsB = true) {x : List Rg × Int} (ha : addC l pl c = some x) (hσ : σ.cls = some (l, pl)) : takeR σ c e = some { σ with cls := some x } := by
  unfold takeR
  rw [hσ]
  show inClassR σ l pl c e = _
  unfold inClassR
  rw [if_pos hs, ha]

/-- A range within a class. -/
theorem range_run {r : Rg} (h : okRg r) {σ : RdS} {l : List Rg} {pl : Int} (hp : pl = 0 ∨ pl = 1) (hσ : σ.cls = some (l, pl)) (q : List Int) : ∃ pl', (pl' = 0 ∨ pl' = 1) ∧ foldT σ (letL (bytesI (rangeT r) ++ q) false) = foldT { σ with cls := some (l ++ [r], pl') } (letL q false) := by
  obtain ⟨lo, hi⟩ := r
  have h1 : lo ≤ hi := h.1
  have h2 : 32 ≤ lo := h.2.1
  have h3 : hi ≤ 126 := h.2.2
  have hn2 : pl ≠ 2 := by rcases hp with q | q <;> omega
  obtain ⟨e, e1, e2⟩ := byteT_run (c := lo) ⟨h2, by omega⟩
  have a1 : addC l pl lo = some (l ++ [(lo, lo)], 1) := if_pos hn2
  unfold rangeT
  split
  · rename_i heq
    have heq : lo = hi := heq
    subst heq
    refine ⟨1, .inr rfl, ?_⟩
    rw [e2, foldT_cons (in_cls e1 a1 hσ)]
  · rename_i hne
    obtain ⟨f, f1, f2⟩ := byteT_run (c := hi) ⟨by omega, h3⟩
    refine ⟨0, .inl rfl, ?_⟩
    rw [bytesI_app, bytesI_app, List.append_assoc, List.append_assoc, e2, foldT_cons (in_cls e1 a1 hσ)]
    have b45 : bytesI (ByteArray.mk #[45]) = [45] := rfl
    rw [b45]
    show foldT _ (letL (45 :: (bytesI (byteT hi) ++ q)) false) = _
    rw [let_plain (by decide)]
    have t45 : takeR { σ with cls := some (l ++ [(lo, lo)], 1) } 45 false = some { σ with cls := some (l ++ [(lo, lo)], 2) } := rfl
    rw [foldT_cons t45, f2]
    have a2 : addC (l ++ [(lo, lo)]) 2 hi = some (l ++ [(lo, hi)], 0) := by
      unfold addC
      rw [if_neg (by decide)]
      simp
      omega
    rw [foldT_cons (in_cls f1 a2 rfl)]

theorem ranges_run : ∀ (L : List Rg) (s : ByteArray), (∀ r ∈ L, okRg r) → bytesI (rangesT L s) = bytesI s ++ (L.flatMap fun r => bytesI (rangeT r))
  | [], s, _ => by simp [rangesT]
  | r :: L, s, h => by
    rw [rangesT, ranges_run L _ (fun x hx => h x (by simp [hx])), bytesI_app]
    simp

theorem cls_run : ∀ (L : List Rg) (σ : RdS) (l : List Rg) (pl : Int) (q : List Int), (∀ r ∈ L, okRg r) → (pl = 0 ∨ pl = 1) → σ.cls = some (l, pl) → ∃ pl', (pl' = 0 ∨ pl' = 1) ∧ foldT σ (letL ((L.flatMap fun r => bytesI (rangeT r)) ++ q) false) = foldT { σ with cls := some (l ++ L, pl') } (letL q false)
  | [], σ, l, pl, q, _, hp, hσ => ⟨pl, hp, by
    have : { σ with cls := some (l ++ [], pl) } = σ := by rw [List.append_nil, ← hσ]
    rw [this]; rfl⟩
  | r :: L, σ, l, pl, q, h, hp, hσ => by
    obtain ⟨p1, q1, q2⟩ := range_run (h r (by simp)) hp hσ ((L.flatMap fun r => bytesI (rangeT r)) ++ q)
    obtain ⟨p2, r1, r2⟩ := cls_run L { σ with cls := some (l ++ [r], p1) } (l ++ [r]) p1 q (fun x hx => h x (by simp [hx])) q1 rfl
    refine ⟨p2, r1, ?_⟩
    rw [List.flatMap_cons, List.append_assoc, q2, r2]
    simp

/-- How what a text says is laid to a reader: an atom, a row of atoms, parts. -/
def Run0 (u : List Int) (I : List It) : Prop := ∀ P O pt x q, (x = 0 ∨ x = 1 ∨ x = 2) → 2 * O.length + u.length ≤ 24 → foldT ⟨P, O, pt, x, none⟩ (letL (u ++ q) false) = foldT ⟨P ++ Jn x ++ I, O, pt, Dn x, none⟩ (letL q false)
def Run1 (u : List Int) (I : List It) : Prop := ∃ I' x', (x' = 1 ∨ x' = 2) ∧ I = I' ++ Jn x' ∧ ∀ P O pt q, 2 * O.length + u.length ≤ 24 → foldT ⟨P, O, pt, 0, none⟩ (letL (u ++ q) false) = foldT ⟨P ++ I', O, pt, x', none⟩ (letL q false)
def Run2 (u : List Int) (I : List It) : Prop := ∃ I' pt' x', (x' = 1 ∨ x' = 2) ∧ I = fins I' pt' x' ∧ ∀ P O q, 2 * O.length + u.length ≤ 24 → foldT ⟨P, O, false, 0, none⟩ (letL (u ++ q) false) = foldT ⟨P ++ I', O, pt', x', none⟩ (letL q false)

theorem Run0.to1 {u : List Int} {I : List It} (h : Run0 u I) : Run1 u I := ⟨I, 1, .inl rfl, by simp [Jn], fun P O pt q hl => by
  rw [h P O pt 0 q (.inl rfl) hl]; simp [Jn, Dn]⟩
theorem Run1.to2 {u : List Int} {I : List It} (h : Run1 u I) : Run2 u I := by
  obtain ⟨I', x', h1, h2, h3⟩ := h
  refine ⟨I', false, x', h1, ?_, fun P O q hl => h3 P O false q hl⟩
  rw [h2]; unfold fins Jn
  rcases h1 with z | z <;> subst z <;> simp

/-- Brackets. -/
theorem Run2.brk {u : List Int} {I : List It} (h : Run2 u I) : Run0 ([40] ++ u ++ [41]) I := by
  obtain ⟨I', pt', x', h1, h2, h3⟩ := h
  intro P O pt x q hx hl
  simp only [List.length_append, List.length_cons, List.length_nil] at hl
  obtain ⟨y, hy, ho⟩ := open_is (P := P) (pt := pt) hx (by omega : O.length < 12)
  rw [List.append_assoc, List.append_assoc]
  show foldT _ (letL (40 :: (u ++ ([41] ++ q))) false) = _
  rw [let_plain (by decide)]
  have t40 : takeR ⟨P, O, pt, x, none⟩ 40 false = some ⟨P ++ Jn x, O ++ [(pt, y)], false, 0, none⟩ := by rw [← ho]; rfl
  rw [foldT_cons t40, h3 _ _ _ (by rw [List.length_append]; simp; omega)]
  show foldT _ (letL (41 :: q) false) = _
  rw [let_plain (by decide)]
  have t41 : takeR ⟨P ++ Jn x ++ I', O ++ [(pt, y)], pt', x', none⟩ 41 false = some ⟨P ++ Jn x ++ I, O, pt, Dn x, none⟩ := by
    show closeR _ = _
    rw [close_is h1, fins_app, ← h2]
    show some (RdS.mk _ _ _ (y + 1) _) = _
    rw [hy]
  rw [foldT_cons t41]

theorem sign_run {u : List Int} {I : List It} {c op : Int} (h : Run0 u I) (hc : c ≠ 92) (hs : standsB c false marksB = false) (hm : ∀ σ, markR σ c = repeatR σ op) : Run0 (u ++ [c]) (I ++ [(op, [])]) := by
  intro P O pt x q hx hl
  simp only [List.length_append, List.length_cons, List.length_nil] at hl
  rw [List.append_assoc, h P O pt x _ hx (by omega)]
  show foldT _ (letL (c :: q) false) = _
  rw [let_plain hc]
  have t : takeR ⟨P ++ Jn x ++ I, O, pt, Dn x, none⟩ c false = some ⟨P ++ Jn x ++ (I ++ [(op, [])]), O, pt, Dn x, none⟩ := by
    show (if standsB c false marksB = true then _ else markR _ c) = _
    rw [if_neg (by rw [hs]; decide), hm]
    unfold repeatR
    rw [if_neg (by show ¬ Dn x = 0; unfold Dn; split <;> decide)]
    simp [putR]
  rw [foldT_cons t]

theorem join_run {u v : List Int} {I J : List It} (h : Run1 u I) (k : Run0 v J) : Run1 (u ++ v) (I ++ J ++ [(2, [])]) := by
  obtain ⟨I', x', h1, h2, h3⟩ := h
  refine ⟨I ++ J, 2, .inr rfl, by simp [Jn], fun P O pt q hl => ?_⟩
  simp only [List.length_append] at hl
  rw [List.append_assoc, h3 P O pt _ (by omega), k _ O pt x' q (by rcases h1 with z | z <;> simp [z]) (by omega), h2]
  have : Dn x' = 2 := by rcases h1 with z | z <;> subst z <;> rfl
  rw [this]
  simp

theorem alt_run {u v : List Int} {I J : List It} (h : Run2 u I) (k : Run1 v J) : Run2 (u ++ [124] ++ v) (I ++ J ++ [(3, [])]) := by
  obtain ⟨I', pt', x', h1, h2, h3⟩ := h
  obtain ⟨J', y', k1, k2, k3⟩ := k
  refine ⟨I ++ J', true, y', k1, ?_, fun P O q hl => ?_⟩
  · rw [k2]; unfold fins Jn
    rcases k1 with z | z <;> subst z <;> simp
  · simp only [List.length_append, List.length_cons, List.length_nil] at hl
    rw [List.append_assoc, List.append_assoc, h3 P O _ (by omega)]
    show foldT _ (letL (124 :: (v ++ q)) false) = _
    rw [let_plain (by decide)]
    have t : takeR ⟨P ++ I', O, pt', x', none⟩ 124 false = some ⟨P ++ I, O, true, 0, none⟩ := by
      show endR _ = _
      rw [end_is h1, fins_app, ← h2]
    rw [foldT_cons t, k3 _ O true q (by omega)]
    simp

/-- One letter that says a class. -/
theorem one_letter {c : Int} {e : Bool} {r : Rg} (h : ((foldT rd0 [(c, e)]).bind finR).map RdS.items = some [(1, [r])]) : ∀ σ : RdS, σ.cls = none → takeR σ c e = some (addClassR σ [r]) := by
  intro σ hσ
  have hc : takeR σ c e = if standsB c e marksB = true then some (addClassR σ [(c, c)]) else markR σ c := by unfold takeR; rw [hσ]
  have h0 : foldT rd0 [(c, e)] = if standsB c e marksB = true then some (addClassR rd0 [(c, c)]) else markR rd0 c := by
    rw [foldT]
    have : takeR rd0 c e = if standsB c e marksB = true then some (addClassR rd0 [(c, c)]) else markR rd0 c := rfl
    rw [this]
    cases (if standsB c e marksB = true then some (addClassR rd0 [(c, c)]) else markR rd0 c : Option RdS) <;> rfl
  rw [h0] at h
  rw [hc]
  split
  · rename_i hs
    rw [if_pos hs] at h
    have h : some [((1 : Int), [(c, c)])] = some [(1, [r])] := h
    have : (c, c) = r := by simpa using h
    rw [this]
  · rename_i hs
    rw [if_neg hs] at h
    unfold markR at h ⊢
    by_cases h1 : c = 40
    · rw [if_pos h1] at h; cases h
    rw [if_neg h1] at h ⊢
    by_cases h2 : c = 41
    · rw [if_pos h2] at h; cases h
    rw [if_neg h2] at h ⊢
    by_cases h3 : c = 91
    · rw [if_pos h3] at h; cases h
    rw [if_neg h3] at h ⊢
    by_cases h4 : c = 46
    · rw [if_pos h4] at h ⊢
      have h : some [((1 : Int), [((32 : Int), (126 : Int))])] = some [(1, [r])] := h
      have : ((32 : Int), (126 : Int)) = r := by simpa using h
      rw [this]
    rw [if_neg h4] at h ⊢
    by_cases h5 : c = 124
    · rw [if_pos h5] at h; cases h
    rw [if_neg h5] at h ⊢
    by_cases h6 : c = 42
    · rw [if_pos h6] at h; cases h
    rw [if_neg h6] at h ⊢
    by_cases h7 : c = 43
    · rw [if_pos h7] at h; cases h
    rw [if_neg h7] at h ⊢
    by_cases h8 : c = 63
    · rw [if_pos h8] at h; cases h
    rw [if_neg h8] at h
    cases h

theorem parse_run {s : ByteArray} {l : List It} (h : parseR s = some l) : (1 ≤ s.size ∧ s.size ≤ 24) ∧ ((foldT rd0 (letL (bytesI s) false)).bind finR).map RdS.items = some l := by
  unfold parseR at h
  split at h
  · cases h
  · rename_i hz
    refine ⟨by omega, ?_⟩
    unfold readR at h
    split at h
    · cases h
    · rename_i σ hf
      split at h
      · cases h
      · rename_i τ ht
        rw [hf]
        show (finR σ).map RdS.items = _
        rw [ht]
        exact h

theorem run_parse {s : ByteArray} {l : List It} (h1 : 1 ≤ s.size) (h2 : s.size ≤ 24) (h : ((foldT rd0 (letL (bytesI s) false)).bind finR).map RdS.items = some l) : parseR s = some l := by
  unfold parseR
  rw [if_neg (by omega)]
  unfold readR
  cases hf : foldT rd0 (letL (bytesI s) false) with
  | none => rw [hf] at h; cases h
  | some σ =>
    rw [hf] at h
    have h : (finR σ).map RdS.items = some l := h
    cases ht : finR σ with
    | none => rw [ht] at h; cases h
    | some τ =>
      rw [ht] at h
      simp only [ht]
      exact h

/-- What a text of one letter that says a class is. -/
theorem letter_run {s : ByteArray} {c : Int} {e : Bool} {r : Rg} (hs : said s [(1, [r])] = true) (hl : ∀ q, letL (bytesI s ++ q) false = (c, e) :: letL q false) : Run0 (bytesI s) [(1, [r])] := by
  have hp : parseR s = some [(1, [r])] := of_decide_eq_true hs
  obtain ⟨_, h1⟩ := parse_run hp
  have h0 := hl []
  rw [List.append_nil] at h0
  have h0 : letL (bytesI s) false = [(c, e)] := h0
  rw [h0] at h1
  intro P O pt x q hx _
  rw [hl, foldT_cons (one_letter h1 _ rfl), add_is hx]

/-- A class. -/
theorem class_run {L : List Rg} (hne : L ≠ []) (h : ∀ r ∈ L, okRg r) : Run0 (bytesI (classT L)) [(1, L)] := by
  have brace : Run0 (bytesI (braceT L)) [(1, L)] := by
    intro P O pt x q hx hl
    unfold braceT at hl ⊢
    rw [bytesI_app, bytesI_app, ranges_run L _ h] at hl ⊢
    have e0 : bytesI (ByteArray.mk #[]) = [] := rfl
    have e1 : bytesI (ByteArray.mk #[91]) = [91] := rfl
    have e2 : bytesI (ByteArray.mk #[93]) = [93] := rfl
    rw [e0, e1, e2] at hl ⊢
    simp only [List.length_append, List.length_cons, List.length_nil] at hl
    rw [List.append_assoc, List.append_assoc, List.nil_append]
    show foldT _ (letL (91 :: ((L.flatMap fun r => bytesI (rangeT r)) ++ ([93] ++ q))) false) = _
    rw [let_plain (by decide)]
    have t91 : takeR ⟨P, O, pt, x, none⟩ 91 false = some ⟨P, O, pt, x, some ([], 0)⟩ := by
      show openC _ = _
      exact if_pos (show O.length < 12 by omega)
    rw [foldT_cons t91]
    obtain ⟨pl', p1, p2⟩ := cls_run L ⟨P, O, pt, x, some ([], 0)⟩ [] 0 ([93] ++ q) h (.inl rfl) rfl
    rw [p2]
    show foldT _ (letL (93 :: q) false) = _
    rw [let_plain (by decide)]
    have t93 : takeR ⟨P, O, pt, x, some ([] ++ L, pl')⟩ 93 false = some { addClassR ⟨P, O, pt, x, some ([] ++ L, pl')⟩ ([] ++ L) with cls := none } := by
      unfold takeR
      show inClassR _ ([] ++ L) pl' 93 false = _
      unfold inClassR
      rw [if_neg (by decide), if_neg (by decide), if_pos rfl, if_pos]
      unfold wholeC
      have h1 : 0 < ([] ++ L).length := by rw [List.nil_append]; exact List.length_pos_iff.2 hne
      have h2 : pl' ≠ 2 := by rcases p1 with z | z <;> omega
      simp [h1, h2]
      simpa using h1
    rw [foldT_cons t93, add_is hx]
    rfl
  unfold classT
  split
  · rename_i r
    have hr := h r (by simp)
    have hv : vis r.1 := ⟨hr.2.1, by have := hr.1; have := hr.2.2; omega⟩
    split
    · rename_i hs
      exact letter_run hs (c := 46) (e := false) fun q => rfl
    split
    · rename_i hs
      by_cases h92 : r.1 = 92
      · exfalso
        have : bytesI (b1B r.1) = [92] := by rw [b1_bytes hv, h92]
        obtain ⟨_, h1⟩ := parse_run (of_decide_eq_true hs : parseR (b1B r.1) = some [(1, [r])])
        rw [this] at h1
        cases h1
      · exact letter_run hs (c := r.1) (e := false) fun q => by rw [b1_bytes hv]; exact let_plain h92
    split
    · rename_i hs
      exact letter_run hs (c := r.1) (e := true) fun q => by rw [bytesI_app, b1_bytes hv]; exact let_esc
    · exact brace
  · exact brace

/-- A tree whose classes are visible. -/
def Ptn.okT : Ptn → Prop
  | .cls L => L ≠ [] ∧ ∀ r ∈ L, okRg r
  | .join a b => a.okT ∧ b.okT
  | .alt a b => a.okT ∧ b.okT
  | .star a => a.okT
  | .plus a => a.okT
  | .may a => a.okT

/-- The text of a tree says its items, as loosely as it may. -/
def RunK (k : Int) (u : List Int) (I : List It) : Prop := if k = 0 then Run0 u I else if k = 1 then Run1 u I else Run2 u I

theorem RunK.to2 {k : Int} {u : List Int} {I : List It} (h : RunK k u I) : Run2 u I := by
  unfold RunK at h
  split at h
  · exact h.to1.to2
  split at h
  · exact h.to2
  · exact h

theorem brk_bytes (k l : Int) (s : ByteArray) : bytesI (brk k l s) = if k < l then [40] ++ bytesI s ++ [41] else bytesI s := by
  unfold brk
  split
  · rw [bytesI_app, bytesI_app]; rfl
  · rfl

theorem brk0 {t : Ptn} (h : RunK t.loose (bytesI t.text) t.items) : Run0 (bytesI (brk 0 t.loose t.text)) t.items := by
  rw [brk_bytes]
  split
  · exact h.to2.brk
  · rename_i hn
    have : t.loose = 0 := by cases t <;> simp [Ptn.loose] at hn ⊢
    rw [this] at h
    exact h
theorem brk1 {t : Ptn} (h : RunK t.loose (bytesI t.text) t.items) : Run1 (bytesI (brk 1 t.loose t.text)) t.items := by
  rw [brk_bytes]
  split
  · exact h.to2.brk.to1
  · rename_i hn
    have : t.loose = 0 ∨ t.loose = 1 := by cases t <;> simp [Ptn.loose] at hn ⊢
    rcases this with q | q
    · rw [q] at h; exact Run0.to1 h
    · rw [q] at h; exact h
theorem brk2 {t : Ptn} (h : RunK t.loose (bytesI t.text) t.items) : Run2 (bytesI (brk 2 t.loose t.text)) t.items := by
  rw [brk_bytes]
  split
  · exact h.to2.brk.to1.to2
  · exact h.to2

theorem text_run : ∀ t : Ptn, t.okT → RunK t.loose (bytesI t.text) t.items
  | .cls L, h => class_run h.1 h.2
  | .join a b, h => by
    have h1 := brk1 (text_run a h.1)
    have h2 := brk0 (text_run b h.2)
    show Run1 _ _
    rw [Ptn.text, bytesI_app]
    exact join_run h1 h2
  | .alt a b, h => by
    have h1 := brk2 (text_run a h.1)
    have h2 := brk1 (text_run b h.2)
    show Run2 _ _
    rw [Ptn.text, bytesI_app, bytesI_app]
    exact alt_run h1 h2
  | .star a, h => by
    have h1 := brk0 (text_run a h)
    show Run0 _ _
    rw [Ptn.text, bytesI_app]
    exact sign_run h1 (by decide) rfl fun σ => rfl
  | .plus a, h => by
    have h1 := brk0 (text_run a h)
    show Run0 _ _
    rw [Ptn.text, bytesI_app]
    exact sign_run h1 (by decide) rfl fun σ => rfl
  | .may a, h => by
    have h1 := brk0 (text_run a h)
    show Run0 _ _
    rw [Ptn.text, bytesI_app]
    exact sign_run h1 (by decide) rfl fun σ => rfl

/-- A text short enough says its tree. -/
theorem text_said {t : Ptn} (h : t.okT) (h1 : 1 ≤ t.text.size) (h2 : t.text.size ≤ 24) : said t.text t.items = true := by
  refine decide_eq_true (run_parse h1 h2 ?_)
  obtain ⟨I', pt', x', q1, q2, q3⟩ := (text_run t h).to2
  have := q3 [] [] [] (by rw [bytes_len]; simpa using h2)
  rw [List.append_nil] at this
  have e0 : (⟨[], [], false, 0, none⟩ : RdS) = rd0 := rfl
  rw [e0] at this
  rw [this]
  show ((some (RdS.mk ([] ++ I') [] pt' x' none)).bind finR).map RdS.items = _
  show (endR _).map RdS.items = _
  rw [end_is q1, fins_app, ← q2]
  rfl
end Go.Ew

/- No text of a pattern is shorter than that of its tree (pure). -/
set_option linter.unusedVariables false
set_option linter.unusedSimpArgs false
namespace Go.Ew
open Go.Ev Go.Deep

def cK (k : Int) (t : Ptn) : Nat := (brk k t.loose t.text).size
theorem cK_eq (k : Int) (t : Ptn) : cK k t = t.text.size + if k < t.loose then 2 else 0 := by
  unfold cK brk
  split
  · rw [size_app, size_app, lit1, lit1]; omega
  · rfl
theorem loose_in (t : Ptn) : 0 ≤ t.loose ∧ t.loose ≤ 2 := by cases t <;> simp [Ptn.loose]
theorem c10 (t : Ptn) : cK 1 t ≤ cK 0 t := by
  rw [cK_eq, cK_eq]
  have := loose_in t
  split <;> split <;> omega
theorem c21 (t : Ptn) : cK 2 t ≤ cK 1 t := by
  rw [cK_eq, cK_eq]
  have := loose_in t
  split <;> split <;> omega
theorem c02 (t : Ptn) : cK 0 t ≤ cK 2 t + 2 := by
  rw [cK_eq, cK_eq]
  split <;> split <;> omega
theorem c2t (t : Ptn) : cK 2 t = t.text.size := by
  rw [cK_eq]
  have := loose_in t
  rw [if_neg (by omega)]; rfl
theorem c_join (a b : Ptn) : cK 1 (.join a b) = cK 1 a + cK 0 b := by
  rw [cK_eq]
  show (Ptn.text (.join a b)).size + _ = _
  rw [Ptn.text, size_app]
  rfl
theorem c_alt (a b : Ptn) : cK 2 (.alt a b) = cK 2 a + 1 + cK 1 b := by
  rw [c2t, Ptn.text, size_app, size_app]
  rfl
theorem c_star (a : Ptn) : cK 0 (.star a) = cK 0 a + 1 := by
  rw [cK_eq]
  show (Ptn.text (.star a)).size + 0 = _
  rw [Ptn.text, size_app]; rfl
theorem c_plus (a : Ptn) : cK 0 (.plus a) = cK 0 a + 1 := by
  rw [cK_eq]
  show (Ptn.text (.plus a)).size + 0 = _
  rw [Ptn.text, size_app]; rfl
theorem c_may (a : Ptn) : cK 0 (.may a) = cK 0 a + 1 := by
  rw [cK_eq]
  show (Ptn.text (.may a)).size + 0 = _
  rw [Ptn.text, size_app]; rfl
theorem c_cls (L : List Rg) : cK 0 (.cls L) = (classT L).size := by rw [cK_eq]; rfl

theorem classT_le (L : List Rg) : (classT L).size ≤ (braceT L).size := by
  unfold classT
  split
  · rename_i r
    have h3 : 3 ≤ (braceT [r]).size := by
      unfold braceT
      rw [size_app, size_app, lit1, lit1]
      have : 1 ≤ (rangesT [r] (ByteArray.mk #[])).size := by
        have e : (ByteArray.mk #[]).size = 0 := rfl
        simp only [rangesT, size_app, e]
        have hb : ∀ c, 1 ≤ (byteT c).size := fun c => by
          unfold byteT
          split
          · rw [b1B_size]; omega
          · rw [size_app, b1B_size, lit1]; omega
        unfold rangeT
        split
        · have := hb r.1; omega
        · rw [size_app, size_app]
          have := hb r.1; omega
      omega
    split
    · rw [lit1]; omega
    split
    · rw [b1B_size]; omega
    split
    · rw [size_app, b1B_size, lit1]; omega
    · exact Nat.le_refl _
  · exact Nat.le_refl _

theorem rangesT_snoc : ∀ (l : List Rg) (r : Rg) (s : ByteArray), rangesT (l ++ [r]) s = rangesT l s ++ rangeT r
  | [], r, s => rfl
  | x :: l, r, s => by
    show rangesT (l ++ [r]) (s ++ rangeT x) = rangesT l (s ++ rangeT x) ++ rangeT r
    exact rangesT_snoc l r _

def rS (l : List Rg) : Nat := (rangesT l (ByteArray.mk #[])).size
theorem rS_snoc (l : List Rg) (r : Rg) : rS (l ++ [r]) = rS l + (rangeT r).size := by
  unfold rS; rw [rangesT_snoc, size_app]
theorem rS_nil : rS [] = 0 := rfl
theorem brace_rS (L : List Rg) : (braceT L).size = rS L + 2 := by
  unfold braceT rS; rw [size_app, size_app, lit1, lit1]; omega

def PA (pt : Bool) (I : List It) (k : Nat) : Prop := (pt = false ∧ I = []) ∨ (pt = true ∧ ∃ A : Ptn, I = A.items ∧ cK 2 A + 1 ≤ k)
def PX (x : Int) (I : List It) (k : Nat) : Prop := (x = 0 ∧ I = []) ∨ (x = 1 ∧ ∃ J : Ptn, I = J.items ∧ cK 0 J ≤ k) ∨ (x = 2 ∧ ∃ J B : Ptn, I = J.items ++ B.items ∧ cK 1 J + cK 0 B ≤ k)
def PY (y : Int) (I : List It) (k : Nat) : Prop := (y = 0 ∧ I = []) ∨ (y = 1 ∧ ∃ J : Ptn, I = J.items ∧ cK 1 J ≤ k)
def PL (pt : Bool) (x : Int) (I : List It) (k : Nat) : Prop := ∃ IA IX ka kx, I = IA ++ IX ∧ PA pt IA ka ∧ PX x IX kx ∧ ka + kx ≤ k
def PG (g : Bool × Int) (I : List It) (k : Nat) : Prop := ∃ IA IX ka kx, I = IA ++ IX ∧ PA g.1 IA ka ∧ PY g.2 IX kx ∧ ka + kx + 1 ≤ k
def PO : List (Bool × Int) → List It → Nat → Prop
  | [], I, k => I = []
  | g :: r, I, k => ∃ Ig Ir kg kr, I = Ig ++ Ir ∧ PG g Ig kg ∧ PO r Ir kr ∧ kg + kr ≤ k
def KC : Option (List Rg × Int) → Nat → Prop
  | none, _ => True
  | some (l, pl), k => 1 + rS l + (if pl = 2 then 1 else 0) ≤ k ∧ (pl ≠ 0 → ∃ l' c, l = l' ++ [(c, c)])

theorem PO.snoc : ∀ {r : List (Bool × Int)} {g : Bool × Int} {I J : List It} {k m : Nat}, PO r I k → PG g J m → PO (r ++ [g]) (I ++ J) (k + m)
  | [], g, I, J, k, m, h, hg => by
    have h : I = [] := h
    subst h
    exact ⟨J, [], m, 0, by simp, hg, rfl, by omega⟩
  | a :: r, g, I, J, k, m, ⟨Ig, Ir, kg, kr, h1, h2, h3, h4⟩, hg => ⟨Ig, Ir ++ J, kg, kr + m, by rw [h1, List.append_assoc], h2, h3.snoc hg, by omega⟩
theorem PO.unsnoc : ∀ {r : List (Bool × Int)} {g : Bool × Int} {I : List It} {k : Nat}, PO (r ++ [g]) I k → ∃ I1 J k1 m, I = I1 ++ J ∧ PO r I1 k1 ∧ PG g J m ∧ k1 + m ≤ k
  | [], g, I, k, ⟨Ig, Ir, kg, kr, h1, h2, h3, h4⟩ => by
    have h3 : Ir = [] := h3
    subst h3
    exact ⟨[], Ig, 0, kg, by rw [h1]; simp, rfl, h2, by omega⟩
  | a :: r, g, I, k, ⟨Ig, Ir, kg, kr, h1, h2, h3, h4⟩ => by
    obtain ⟨I1, J, k1, m, q1, q2, q3, q4⟩ := PO.unsnoc h3
    exact ⟨Ig ++ I1, J, kg + k1, m, by rw [h1, q1, List.append_assoc], ⟨Ig, I1, kg, k1, rfl, h2, q2, by omega⟩, q3, by omega⟩

/-- What was read so far has at least so many bytes. -/
def Cst (σ : RdS) (n : Nat) : Prop := ∃ Iq IL ko kl kc, σ.items = Iq ++ IL ∧ PO σ.outer Iq ko ∧ PL σ.parted σ.atoms IL kl ∧ KC σ.cls kc ∧ ko + kl + kc ≤ n

/-- One atom more. -/
theorem PL.add {pt : Bool} {x : Int} {I : List It} {k : Nat} (h : PL pt x I k) (hx : x = 0 ∨ x = 1 ∨ x = 2) {C : Ptn} : PL pt (Dn x) (I ++ Jn x ++ C.items) (k + cK 0 C) := by
  obtain ⟨IA, IX, ka, kx, h1, h2, h3, h4⟩ := h
  rcases h3 with ⟨q1, q2⟩ | ⟨q1, J, q2, q3⟩ | ⟨q1, J, B, q2, q3⟩
  · subst q1; subst q2
    exact ⟨IA, C.items, ka, cK 0 C, by rw [h1]; simp [Jn], h2, .inr (.inl ⟨rfl, C, rfl, Nat.le_refl _⟩), by omega⟩
  · subst q1
    have := c10 J
    exact ⟨IA, J.items ++ C.items, ka, kx + cK 0 C, by rw [h1, q2]; simp [Jn], h2, .inr (.inr ⟨rfl, J, C, rfl, by omega⟩), by omega⟩
  · subst q1
    have := c_join J B
    exact ⟨IA, (Ptn.join J B).items ++ C.items, ka, kx + cK 0 C, by rw [h1, q2]; simp [Jn, Ptn.items], h2, .inr (.inr ⟨rfl, .join J B, C, rfl, by omega⟩), by omega⟩

/-- A group is begun. -/
theorem PL.open_ {pt : Bool} {x : Int} {I : List It} {k : Nat} (h : PL pt x I k) {y : Int} (hy : y + 1 = Dn x) : PG (pt, y) (I ++ Jn x) (k + 1) := by
  obtain ⟨IA, IX, ka, kx, h1, h2, h3, h4⟩ := h
  rcases h3 with ⟨q1, q2⟩ | ⟨q1, J, q2, q3⟩ | ⟨q1, J, B, q2, q3⟩
  · subst q1; subst q2
    have : y = 0 := by simp [Dn] at hy; omega
    exact ⟨IA, [], ka, 0, by rw [h1]; simp [Jn], h2, .inl ⟨this, rfl⟩, by omega⟩
  · subst q1
    have := c10 J
    have : y = 1 := by simp [Dn] at hy; omega
    exact ⟨IA, J.items, ka, kx, by rw [h1, q2]; simp [Jn], h2, .inr ⟨this, J, rfl, by omega⟩, by omega⟩
  · subst q1
    have := c_join J B
    have : y = 1 := by simp [Dn] at hy; omega
    exact ⟨IA, (Ptn.join J B).items, ka, kx, by rw [h1, q2]; simp [Jn, Ptn.items], h2, .inr ⟨this, .join J B, rfl, by omega⟩, by omega⟩

/-- A part ends. -/
theorem PL.end_ {pt : Bool} {x : Int} {I : List It} {k : Nat} (h : PL pt x I k) (hx : x = 1 ∨ x = 2) : ∃ T : Ptn, fins I pt x = T.items ∧ cK 2 T ≤ k := by
  obtain ⟨IA, IX, ka, kx, h1, h2, h3, h4⟩ := h
  obtain ⟨J, hJ, hJc⟩ : ∃ J : Ptn, IX ++ Jn x = J.items ∧ cK 1 J ≤ kx := by
    rcases h3 with ⟨q1, q2⟩ | ⟨q1, J, q2, q3⟩ | ⟨q1, J, B, q2, q3⟩
    · omega
    · subst q1
      have := c10 J
      exact ⟨J, by rw [q2]; simp [Jn], by omega⟩
    · subst q1
      have := c_join J B
      exact ⟨.join J B, by rw [q2]; simp [Jn, Ptn.items], by omega⟩
  have hf : fins I pt x = IA ++ J.items ++ (if pt = true then [(3, [])] else []) := by
    rw [← hJ, h1]
    unfold fins Jn
    rcases hx with q | q <;> subst q <;> simp
  rcases h2 with ⟨q1, q2⟩ | ⟨q1, A, q2, q3⟩
  · subst q1; subst q2
    have := c21 J
    exact ⟨J, by rw [hf]; simp, by omega⟩
  · subst q1
    have := c_alt A J
    exact ⟨.alt A J, by rw [hf, q2]; simp [Ptn.items], by omega⟩

theorem end_inv {σ τ : RdS} (h : endR σ = some τ) (hx : σ.atoms = 0 ∨ σ.atoms = 1 ∨ σ.atoms = 2) : (σ.atoms = 1 ∨ σ.atoms = 2) ∧ τ = ⟨fins σ.items σ.parted σ.atoms, σ.outer, true, 0, σ.cls⟩ := by
  obtain ⟨I, O, pt, x, cl⟩ := σ
  have hx : x = 0 ∨ x = 1 ∨ x = 2 := hx
  rcases hx with q | q | q <;> subst q
  · cases h
  · refine ⟨.inl rfl, ?_⟩
    cases pt <;> (cases h; simp [joinR, putR, fins])
  · refine ⟨.inr rfl, ?_⟩
    cases pt <;> (cases h; simp [joinR, putR, fins])

theorem stand_size {c : Int} {e : Bool} (h : standsB c e clsB = true) : (byteT c).size ≤ if e = true then 2 else 1 := by
  obtain ⟨h1, h2⟩ := stands_rg h
  rw [byteT_eq ⟨h1, h2⟩]
  cases e with
  | true =>
    rw [if_pos rfl]
    split
    · rw [size_app, b1B_size, lit1]; omega
    · rw [b1B_size]; omega
  | false =>
    have : c ∉ clsB := by
      unfold standsB at h
      simp only [Bool.and_eq_true, beq_iff_eq] at h
      exact of_decide_eq_false h.2.2
    rw [if_neg this, if_neg (by decide), b1B_size]
    omega

/-- A letter outside classes that stands for itself. -/
theorem mark_size {c : Int} {e : Bool} (h : standsB c e marksB = true) : (classT [(c, c)]).size ≤ if e = true then 2 else 1 := by
  obtain ⟨h1, h2⟩ := stands_rg h
  have hv : vis c := ⟨h1, h2⟩
  have hfin : ((foldT rd0 [(c, e)]).bind finR).map RdS.items = some [(1, [(c, c)])] := by
    have : takeR rd0 c e = some (addClassR rd0 [(c, c)]) := if_pos h
    rw [foldT, this]; rfl
  have hs : (if e = true then ByteArray.mk #[92] ++ b1B c else b1B c).size ≤ 2 ∧ said (if e = true then ByteArray.mk #[92] ++ b1B c else b1B c) [(1, [(c, c)])] = true := by
    cases e with
    | true =>
      rw [if_pos rfl]
      have hb : bytesI (ByteArray.mk #[92] ++ b1B c) = [92, c] := by rw [bytesI_app, b1_bytes hv]; rfl
      refine ⟨by rw [size_app, b1B_size, lit1]; omega, decide_eq_true (run_parse (by rw [size_app, b1B_size, lit1]; omega) (by rw [size_app, b1B_size, lit1]; omega) ?_)⟩
      rw [hb, let_esc]
      exact hfin
    | false =>
      rw [if_neg (by decide)]
      have h92 : c ≠ 92 := fun q => by subst q; revert h; decide
      refine ⟨by rw [b1B_size]; omega, decide_eq_true (run_parse (by rw [b1B_size]; omega) (by rw [b1B_size]; omega) ?_)⟩
      rw [b1_bytes hv, let_plain h92]
      exact hfin
  rw [classT_one]
  cases e with
  | true =>
    rw [if_pos rfl] at hs ⊢
    simp only [tryT]
    split
    · rw [lit1]; omega
    split
    · rw [b1B_size]; omega
    rw [if_pos hs.2]
    exact hs.1
  | false =>
    rw [if_neg (by decide)] at hs ⊢
    simp only [tryT]
    split
    · rw [lit1]; omega
    rw [if_pos hs.2, b1B_size]; omega

def lw (e : Bool) : Nat := if e = true then 2 else 1

theorem Cst.class_ {I : List It} {O : List (Bool × Int)} {pt : Bool} {x : Int} {cl : Option (List Rg × Int)} {n w : Nat} {L : List Rg} (h : Cst ⟨I, O, pt, x, none⟩ n) (hx : x = 0 ∨ x = 1 ∨ x = 2) (hw : (classT L).size ≤ w) : Cst (addClassR ⟨I, O, pt, x, none⟩ L) (n + w) := by
  obtain ⟨Iq, IL, ko, kl, kc, h1, h2, h3, h4, h5⟩ := h
  have h1 : I = Iq ++ IL := h1
  have h3 : PL pt x IL kl := h3
  rw [add_is hx]
  have := h3.add hx (C := .cls L)
  rw [c_cls] at this
  exact ⟨Iq, IL ++ Jn x ++ [(1, L)], ko, kl + (classT L).size, 0, by show I ++ Jn x ++ [(1, L)] = _; rw [h1]; simp, h2, this, trivial, by omega⟩

theorem take_cost {σ τ : RdS} {c : Int} {e : Bool} {n : Nat} (h : Cst σ n) (hi : Iv σ) (ht : takeR σ c e = some τ) : Cst τ (n + lw e) := by
  obtain ⟨I, O, pt, x, cl⟩ := σ
  have hx : x = 0 ∨ x = 1 ∨ x = 2 := by have := hi.at_; have : 0 ≤ x ∧ x ≤ 2 := this; omega
  have hlw : 1 ≤ lw e := by unfold lw; split <;> omega
  unfold takeR at ht
  cases cl with
  | some lp =>
    obtain ⟨l, pl⟩ := lp
    have ht : inClassR ⟨I, O, pt, x, some (l, pl)⟩ l pl c e = some τ := ht
    obtain ⟨Iq, IL, ko, kl, kc, h1, h2, h3, h4, h5⟩ := h
    obtain ⟨k1, k2⟩ : 1 + rS l + (if pl = 2 then 1 else 0) ≤ kc ∧ (pl ≠ 0 → ∃ l' c, l = l' ++ [(c, c)]) := h4
    unfold inClassR at ht
    split at ht
    · rename_i hs
      have hsz := stand_size hs
      have hsz : (byteT c).size ≤ lw e := hsz
      split at ht
      · rename_i y hy
        cases ht
        unfold addC at hy
        split at hy
        · rename_i hp
          cases hy
          refine ⟨Iq, IL, ko, kl, kc + lw e, h1, h2, h3, ⟨?_, fun _ => ⟨l, c, rfl⟩⟩, by omega⟩
          rw [rS_snoc, if_neg (by decide)]
          have : rangeT (c, c) = byteT c := if_pos rfl
          rw [this]
          omega
        · rename_i hp
          have hp : pl = 2 := by simpa using hp
          subst hp
          obtain ⟨l', c0, rfl⟩ := k2 (by decide)
          rw [if_pos rfl, rS_snoc] at k1
          have hr0 : rangeT (c0, c0) = byteT c0 := if_pos rfl
          rw [hr0] at k1
          simp only [List.getLast?_append, List.getLast?_singleton, Option.some_or] at hy
          split at hy
          · cases hy
          · have hd : (l' ++ [(c0, c0)]).dropLast = l' := by simp
            cases hy
            refine ⟨Iq, IL, ko, kl, kc + lw e, h1, h2, h3, ⟨?_, fun q => absurd rfl q⟩, by omega⟩
            rw [hd, rS_snoc, if_neg (by decide)]
            have : (rangeT (c0, c)).size ≤ (byteT c0).size + 1 + (byteT c).size := by
              unfold rangeT
              split
              · show (byteT c0).size ≤ _; omega
              · rw [size_app, size_app, lit1]; exact Nat.le_refl _
            omega
      · cases ht
    · split at ht
      · split at ht
        · rename_i hp
          cases ht
          subst hp
          rw [if_neg (by decide)] at k1
          exact ⟨Iq, IL, ko, kl, kc + lw e, h1, h2, h3, ⟨by rw [if_pos rfl]; omega, fun _ => k2 (by decide)⟩, by omega⟩
        · cases ht
      · split at ht
        · split at ht
          · rename_i hwh
            cases ht
            have e1 : ({ addClassR ⟨I, O, pt, x, some (l, pl)⟩ l with cls := none } : RdS) = addClassR ⟨I, O, pt, x, none⟩ l := by rw [add_is hx, add_is hx]
            rw [e1]
            have hp2 : pl ≠ 2 := fun q => by subst q; revert hwh; unfold wholeC; simp
            rw [if_neg hp2] at k1
            have hb := classT_le l
            rw [brace_rS] at hb
            have h0 : Cst ⟨I, O, pt, x, none⟩ (ko + kl) := ⟨Iq, IL, ko, kl, 0, h1, h2, h3, trivial, by omega⟩
            obtain ⟨a1, a2, a3, a4, a5, b1, b2, b3, b4, b5⟩ := h0.class_ (cl := none) hx (L := l) (w := n + lw e - (ko + kl)) (by omega)
            exact ⟨a1, a2, a3, a4, a5, b1, b2, b3, b4, by omega⟩
          · cases ht
        · cases ht
  | none =>
    have ht : (if standsB c e marksB = true then some (addClassR ⟨I, O, pt, x, none⟩ [(c, c)]) else markR ⟨I, O, pt, x, none⟩ c) = some τ := ht
    split at ht
    · rename_i hs
      cases ht
      exact h.class_ (cl := none) hx (mark_size hs)
    · unfold markR at ht
      have sign : ∀ op (f : Ptn → Ptn), (∀ t, (f t).items = t.items ++ [(op, [])]) → (∀ t, cK 0 (f t) = cK 0 t + 1) → repeatR ⟨I, O, pt, x, none⟩ op = some τ → Cst τ (n + lw e) := by
        intro op f hf1 hf2 hr
        obtain ⟨Iq, IL, ko, kl, kc, h1, h2, ⟨IA, IX, ka, kx, g1, g2, g3, g4⟩, h4, h5⟩ := h
        have h1 : I = Iq ++ IL := h1
        unfold repeatR at hr
        split at hr
        · cases hr
        · rename_i hx0
          have hx0 : x ≠ 0 := hx0
          cases hr
          rcases g3 with ⟨q1, q2⟩ | ⟨q1, J, q2, q3⟩ | ⟨q1, J, B, q2, q3⟩
          · exact absurd q1 hx0
          · exact ⟨Iq, IA ++ (f J).items, ko, kl + 1, kc, by show I ++ [(op, [])] = _; rw [h1, g1, q2, hf1]; simp, h2, ⟨IA, (f J).items, ka, kx + 1, rfl, g2, .inr (.inl ⟨q1, f J, rfl, by rw [hf2]; omega⟩), by omega⟩, h4, by omega⟩
          · exact ⟨Iq, IA ++ (J.items ++ (f B).items), ko, kl + 1, kc, by show I ++ [(op, [])] = _; rw [h1, g1, q2, hf1]; simp, h2, ⟨IA, J.items ++ (f B).items, ka, kx + 1, rfl, g2, .inr (.inr ⟨q1, J, f B, rfl, by rw [hf2]; omega⟩), by omega⟩, h4, by omega⟩
      by_cases c1 : c = 40
      · rw [if_pos c1] at ht
        obtain ⟨Iq, IL, ko, kl, kc, h1, h2, h3, h4, h5⟩ := h
        have h1 : I = Iq ++ IL := h1
        have hO : O.length < 12 := by
          rcases Nat.lt_or_ge O.length 12 with q | q
          · exact q
          · unfold openR at ht; rw [if_neg (by show ¬ O.length < 12; omega)] at ht; cases ht
        obtain ⟨y, hy, ho⟩ := open_is (P := I) (O := O) (pt := pt) hx hO
        rw [ho] at ht
        cases ht
        have hg := PL.open_ h3 hy
        exact ⟨Iq ++ (IL ++ Jn x), [], ko + (kl + 1), 0, 0, by show I ++ Jn x = _; rw [h1]; simp, PO.snoc h2 hg, ⟨[], [], 0, 0, rfl, .inl ⟨rfl, rfl⟩, .inl ⟨rfl, rfl⟩, by omega⟩, trivial, by omega⟩
      rw [if_neg c1] at ht
      by_cases c2 : c = 41
      · rw [if_pos c2] at ht
        obtain ⟨Iq, IL, ko, kl, kc, h1, h2, h3, h4, h5⟩ := h
        have h1 : I = Iq ++ IL := h1
        have h2 : PO O Iq ko := h2
        have h3 : PL pt x IL kl := h3
        unfold closeR at ht
        split at ht
        · cases ht
        · rename_i g hg
          have hO : O = O.dropLast ++ [g] := by
            obtain ⟨ys, hys⟩ := List.getLast?_eq_some_iff.1 (show O.getLast? = some g from hg)
            rw [hys]; simp
          split at ht
          · cases ht
          · rename_i τ' he
            obtain ⟨hx12, rfl⟩ := end_inv he hx
            have hx12 : x = 1 ∨ x = 2 := hx12
            rw [hO] at h2
            obtain ⟨I1, J, k1, m, q1, q2, q3, q4⟩ := PO.unsnoc h2
            obtain ⟨T, t1, t2⟩ := PL.end_ h3 hx12
            obtain ⟨IA, IX, ka, kx, g1, g2, g3, g4⟩ := q3
            have hc := c02 T
            have hfi : fins I pt x = Iq ++ fins IL pt x := by rw [h1, fins_app]
            cases ht
            refine ⟨I1, IA ++ (IX ++ T.items), k1, ka + (kx + cK 0 T), 0, ?_, q2, ⟨IA, IX ++ T.items, ka, kx + cK 0 T, rfl, g2, ?_, by omega⟩, trivial, by omega⟩
            · show fins I pt x = _
              rw [hfi, t1, q1, g1]; simp
            · rcases g3 with ⟨z1, z2⟩ | ⟨z1, J', z2, z3⟩
              · exact .inr (.inl ⟨by show g.2 + 1 = 1; omega, T, by rw [z2]; rfl, by omega⟩)
              · exact .inr (.inr ⟨by show g.2 + 1 = 2; omega, J', T, by rw [z2], by omega⟩)
      rw [if_neg c2] at ht
      by_cases c3 : c = 91
      · rw [if_pos c3] at ht
        unfold openC at ht
        split at ht
        · cases ht
          obtain ⟨Iq, IL, ko, kl, kc, h1, h2, h3, h4, h5⟩ := h
          exact ⟨Iq, IL, ko, kl, lw e, h1, h2, h3, ⟨by rw [rS_nil]; simp; omega, fun q => absurd rfl q⟩, by omega⟩
        · cases ht
      rw [if_neg c3] at ht
      by_cases c4 : c = 46
      · rw [if_pos c4] at ht
        cases ht
        exact h.class_ (cl := none) hx (by
          have : (classT [((32 : Int), (126 : Int))]).size = 1 := by decide +kernel
          rw [this]; exact hlw)
      rw [if_neg c4] at ht
      by_cases c5 : c = 124
      · rw [if_pos c5] at ht
        obtain ⟨Iq, IL, ko, kl, kc, h1, h2, h3, h4, h5⟩ := h
        have h1 : I = Iq ++ IL := h1
        obtain ⟨hx12, rfl⟩ := end_inv ht hx
        obtain ⟨T, t1, t2⟩ := PL.end_ h3 hx12
        have t1 : fins IL pt x = T.items := t1
        exact ⟨Iq, T.items, ko, cK 2 T + 1, 0, by show fins I pt x = _; rw [h1, fins_app, t1], h2, ⟨T.items, [], cK 2 T + 1, 0, by simp, .inr ⟨rfl, T, rfl, Nat.le_refl _⟩, .inl ⟨rfl, rfl⟩, by omega⟩, trivial, by omega⟩
      rw [if_neg c5] at ht
      by_cases c6 : c = 42
      · rw [if_pos c6] at ht; exact sign 4 .star (fun t => rfl) c_star ht
      rw [if_neg c6] at ht
      by_cases c7 : c = 43
      · rw [if_pos c7] at ht; exact sign 5 .plus (fun t => rfl) c_plus ht
      rw [if_neg c7] at ht
      by_cases c8 : c = 63
      · rw [if_pos c8] at ht; exact sign 6 .may (fun t => rfl) c_may ht
      rw [if_neg c8] at ht
      cases ht

def lwS : List (Int × Bool) → Nat
  | [] => 0
  | (_, e) :: r => lw e + lwS r

theorem fold_cost : ∀ (l : List (Int × Bool)) (σ τ : RdS) (n : Nat), Cst σ n → Iv σ → foldT σ l = some τ → Cst τ (n + lwS l)
  | [], σ, τ, n, h, hi, hf => by cases hf; exact h
  | (c, e) :: r, σ, τ, n, h, hi, hf => by
    rw [foldT] at hf
    cases ht : takeR σ c e with
    | none => rw [ht] at hf; cases hf
    | some ρ =>
      rw [ht] at hf
      have := fold_cost r ρ τ (n + lw e) (take_cost h hi ht) (hi.take ht) hf
      rw [Nat.add_assoc] at this
      exact this

theorem let_cost : ∀ (l : List Int) (b : Bool), lwS (letL l b) ≤ l.length + if b = true then 1 else 0
  | [], b => by simp [letL, lwS]
  | c :: r, b => by
    rw [letL]
    split
    · rename_i h
      have := let_cost r true
      rw [if_pos rfl] at this
      rw [h.2.1]
      simp; omega
    · have := let_cost r false
      rw [if_neg (by decide)] at this
      simp only [lwS, List.length_cons, lw]
      split <;> omega

/-- The tree is the only one. -/
theorem stk_items : ∀ (t : Ptn) (m : List It) (tp : List Ptn), stkM (t.items ++ m) tp = stkM m (t :: tp)
  | .cls L, m, tp => rfl
  | .join a b, m, tp => by
    rw [Ptn.items, List.append_assoc, List.append_assoc, stk_items a, stk_items b]; rfl
  | .alt a b, m, tp => by
    rw [Ptn.items, List.append_assoc, List.append_assoc, stk_items a, stk_items b]; rfl
  | .star a, m, tp => by rw [Ptn.items, List.append_assoc, stk_items a]; rfl
  | .plus a, m, tp => by rw [Ptn.items, List.append_assoc, stk_items a]; rfl
  | .may a, m, tp => by rw [Ptn.items, List.append_assoc, stk_items a]; rfl
theorem treeD_items (t : Ptn) : treeD t.items = t := by
  have := stk_items t [] []
  rw [List.append_nil] at this
  unfold treeD
  rw [this]; rfl

theorem okT_of : ∀ (t : Ptn), (∀ i ∈ t.items, okIt i) → t.okT
  | .cls L, h => by
    rcases h (1, L) (by simp [Ptn.items]) with ⟨_, h2, h3⟩ | ⟨h1, _⟩
    · exact ⟨h2, h3⟩
    · have h1 : (1 : Int) = 2 ∨ (1 : Int) = 3 ∨ (1 : Int) = 4 ∨ (1 : Int) = 5 ∨ (1 : Int) = 6 := h1
      omega
  | .join a b, h => ⟨okT_of a fun i hi => h i (by simp [Ptn.items, hi]), okT_of b fun i hi => h i (by simp [Ptn.items, hi])⟩
  | .alt a b, h => ⟨okT_of a fun i hi => h i (by simp [Ptn.items, hi]), okT_of b fun i hi => h i (by simp [Ptn.items, hi])⟩
  | .star a, h => okT_of a fun i hi => h i (by simp [Ptn.items, hi])
  | .plus a, h => okT_of a fun i hi => h i (by simp [Ptn.items, hi])
  | .may a, h => okT_of a fun i hi => h i (by simp [Ptn.items, hi])

theorem text_pos : ∀ (t : Ptn), 1 ≤ t.text.size
  | .cls L => by
    show 1 ≤ (classT L).size
    unfold classT
    have hb : 1 ≤ (braceT L).size := by rw [brace_rS]; omega
    split
    · rename_i r
      split
      · rw [lit1]; omega
      split
      · rw [b1B_size]; omega
      split
      · rw [size_app, lit1]; omega
      · rw [brace_rS]; omega
    · exact hb
  | .join a b => by
    have := text_pos b
    rw [Ptn.text, size_app]
    have h : cK 0 b = (brk 0 b.loose b.text).size := rfl
    rw [← h, cK_eq]; omega
  | .alt a b => by rw [Ptn.text, size_app, size_app, lit1]; omega
  | .star a => by rw [Ptn.text, size_app, lit1]; omega
  | .plus a => by rw [Ptn.text, size_app, lit1]; omega
  | .may a => by rw [Ptn.text, size_app, lit1]; omega

/-- What a text of rex says, its tree's text says. -/
theorem parse_tree {s : ByteArray} {l : List It} (h : parseR s = some l) : said (treeD l).text l = true ∧ (treeD l).text.size ≤ 24 ∧ (treeD l).items = l := by
  obtain ⟨hsz, hr⟩ := parse_run h
  obtain ⟨hfine, hcnt⟩ := parse_fine h
  obtain ⟨t, ht1, ht2⟩ := tree_of hfine hcnt
  cases hf : foldT rd0 (letL (bytesI s) false) with
  | none => rw [hf] at hr; cases hr
  | some σ =>
    rw [hf] at hr
    have f0 : Fine rd0.items := ⟨fun i hi => (by cases hi), fun k h1 h2 => by have : k ≤ 0 := h2; omega⟩
    have h0 : Iv rd0 := ⟨f0, rfl, (show (0 : Int) ≤ 0 ∧ (0 : Int) ≤ 2 by decide), fun g hg => (by cases hg), fun l pl q => (by cases q)⟩
    have hc0 : Cst rd0 0 := ⟨[], [], 0, 0, 0, rfl, rfl, ⟨[], [], 0, 0, rfl, .inl ⟨rfl, rfl⟩, .inl ⟨rfl, rfl⟩, by omega⟩, trivial, by omega⟩
    have hc := fold_cost _ rd0 σ 0 hc0 h0 hf
    have hiv := h0.fold hf
    have hle := let_cost (bytesI s) false
    rw [bytes_len, if_neg (by decide)] at hle
    have hr : (finR σ).map RdS.items = some l := hr
    obtain ⟨I, O, pt, x, cl⟩ := σ
    cases cl with
    | some lp => cases hr
    | none =>
      have hO : O = [] := by
        cases ho : O with
        | nil => rfl
        | cons g r =>
          exfalso
          rw [ho] at hr
          have : finR ⟨I, g :: r, pt, x, none⟩ = none := by
            show (if (g :: r).length = 0 then endR ⟨I, g :: r, pt, x, none⟩ else none) = none
            rw [if_neg (by simp)]
          rw [this] at hr; cases hr
      subst hO
      have hr : (endR ⟨I, [], pt, x, none⟩).map RdS.items = some l := hr
      obtain ⟨Iq, IL, ko, kl, kc, h1, h2, h3, h4, h5⟩ := hc
      have h1 : I = Iq ++ IL := h1
      have h2 : Iq = [] := h2
      subst h2
      have hx : x = 0 ∨ x = 1 ∨ x = 2 := by have : 0 ≤ x ∧ x ≤ 2 := hiv.at_; omega
      cases he : endR ⟨I, [], pt, x, none⟩ with
      | none => rw [he] at hr; cases hr
      | some τ =>
        rw [he] at hr
        obtain ⟨hx12, hτ⟩ := end_inv he hx
        rw [hτ] at hr
        have hr : some (fins I pt x) = some l := hr
        obtain ⟨T, t1, t2⟩ := PL.end_ h3 hx12
        have t1 : fins IL pt x = T.items := t1
        have hTl : T.items = l := by
          rw [← t1]
          injection hr with hr
          rw [← hr, h1]; rfl
        have htd : treeD l = T := by rw [← hTl]; exact treeD_items T
        rw [htd, ← hTl]
        have hsz2 : T.text.size ≤ s.size := by rw [← c2t]; omega
        exact ⟨text_said (okT_of T (by rw [hTl]; exact hfine.each)) (text_pos T) (by omega), by omega, rfl⟩

theorem parse_said {s : ByteArray} {l : List It} (h : parseR s = some l) : said (treeD l).text l = true := (parse_tree h).1

theorem items_text : ∀ t : Ptn, t.items.length + 1 ≤ 2 * t.text.size
  | .cls L => by
    have := text_pos (.cls L)
    simp only [Ptn.items, List.length_cons, List.length_nil]; omega
  | .join a b => by
    have h1 := items_text a
    have h2 := items_text b
    have e1 := cK_eq 1 a
    have e2 := cK_eq 0 b
    have : (Ptn.text (.join a b)).size = cK 1 a + cK 0 b := by rw [Ptn.text, size_app]; rfl
    rw [this]
    simp only [Ptn.items, List.length_append, List.length_cons, List.length_nil]; omega
  | .alt a b => by
    have h1 := items_text a
    have h2 := items_text b
    have e1 := cK_eq 2 a
    have e2 := cK_eq 1 b
    have : (Ptn.text (.alt a b)).size = cK 2 a + 1 + cK 1 b := by rw [Ptn.text, size_app, size_app]; rfl
    rw [this]
    simp only [Ptn.items, List.length_append, List.length_cons, List.length_nil]; omega
  | .star a => by
    have h1 := items_text a
    have e1 := cK_eq 0 a
    have : (Ptn.text (.star a)).size = cK 0 a + 1 := by rw [Ptn.text, size_app]; rfl
    rw [this]
    simp only [Ptn.items, List.length_append, List.length_cons, List.length_nil]; omega
  | .plus a => by
    have h1 := items_text a
    have e1 := cK_eq 0 a
    have : (Ptn.text (.plus a)).size = cK 0 a + 1 := by rw [Ptn.text, size_app]; rfl
    rw [this]
    simp only [Ptn.items, List.length_append, List.length_cons, List.length_nil]; omega
  | .may a => by
    have h1 := items_text a
    have e1 := cK_eq 0 a
    have : (Ptn.text (.may a)).size = cK 0 a + 1 := by rw [Ptn.text, size_app]; rfl
    rw [this]
    simp only [Ptn.items, List.length_append, List.length_cons, List.length_nil]; omega

theorem rS_len : ∀ L : List Rg, L.length ≤ rS L := by
  intro L
  have hb : ∀ c, 1 ≤ (byteT c).size := fun c => by
    unfold byteT
    split
    · rw [b1B_size]; omega
    · rw [size_app, b1B_size, lit1]; omega
  have hr : ∀ r, 1 ≤ (rangeT r).size := fun r => by
    unfold rangeT
    split
    · exact hb r.1
    · rw [size_app, size_app]
      have := hb r.1; omega
  have key : ∀ (L : List Rg) (s : ByteArray), s.size + L.length ≤ (rangesT L s).size := by
    intro L
    induction L with
    | nil => intro s; simp [rangesT]
    | cons r L ih =>
      intro s
      have h1 := ih (s ++ rangeT r)
      have h2 := hr r
      rw [size_app] at h1
      simp only [rangesT, List.length_cons]
      omega
  have := key L (ByteArray.mk #[])
  have e : (ByteArray.mk #[]).size = 0 := rfl
  unfold rS
  omega

theorem ranges_text : ∀ (t : Ptn) (i : It), i ∈ t.items → i.2.length ≤ t.text.size
  | .cls L, i, h => by
    have h : i = (1, L) := by simpa [Ptn.items] using h
    subst h
    show L.length ≤ (classT L).size
    rcases Nat.lt_or_ge 1 L.length with q | q
    · rw [classT_many (by omega), brace_rS]
      have := rS_len L; omega
    · have := text_pos (.cls L)
      have : 1 ≤ (classT L).size := this
      omega
  | .join a b, i, h => by
    have e1 := cK_eq 1 a
    have e2 := cK_eq 0 b
    have : (Ptn.text (.join a b)).size = cK 1 a + cK 0 b := by rw [Ptn.text, size_app]; rfl
    rw [this]
    simp only [Ptn.items, List.mem_append, List.mem_cons, List.not_mem_nil, or_false] at h
    rcases h with (h | h) | h
    · have := ranges_text a i h; omega
    · have := ranges_text b i h; omega
    · rw [h]; simp
  | .alt a b, i, h => by
    have e1 := cK_eq 2 a
    have e2 := cK_eq 1 b
    have : (Ptn.text (.alt a b)).size = cK 2 a + 1 + cK 1 b := by rw [Ptn.text, size_app, size_app]; rfl
    rw [this]
    simp only [Ptn.items, List.mem_append, List.mem_cons, List.not_mem_nil, or_false] at h
    rcases h with (h | h) | h
    · have := ranges_text a i h; omega
    · have := ranges_text b i h; omega
    · rw [h]; simp
  | .star a, i, h => by
    have e1 := cK_eq 0 a
    have : (Ptn.text (.star a)).size = cK 0 a + 1 := by rw [Ptn.text, size_app]; rfl
    rw [this]
    simp only [Ptn.items, List.mem_append, List.mem_cons, List.not_mem_nil, or_false] at h
    rcases h with h | h
    · have := ranges_text a i h; omega
    · rw [h]; simp
  | .plus a, i, h => by
    have e1 := cK_eq 0 a
    have : (Ptn.text (.plus a)).size = cK 0 a + 1 := by rw [Ptn.text, size_app]; rfl
    rw [this]
    simp only [Ptn.items, List.mem_append, List.mem_cons, List.not_mem_nil, or_false] at h
    rcases h with h | h
    · have := ranges_text a i h; omega
    · rw [h]; simp
  | .may a, i, h => by
    have e1 := cK_eq 0 a
    have : (Ptn.text (.may a)).size = cK 0 a + 1 := by rw [Ptn.text, size_app]; rfl
    rw [this]
    simp only [Ptn.items, List.mem_append, List.mem_cons, List.not_mem_nil, or_false] at h
    rcases h with h | h
    · have := ranges_text a i h; omega
    · rw [h]; simp

theorem parse_good {s : ByteArray} {l : List It} (h : parseR s = some l) : GoodP l := by
  obtain ⟨hfine, hcnt⟩ := parse_fine h
  obtain ⟨t, ht1, ht2⟩ := tree_of hfine hcnt
  have htd : treeD l = t := by rw [← ht2]; exact treeD_items t
  obtain ⟨_, h2, h3⟩ := parse_tree h
  refine ⟨by rw [htd]; exact ht1, h3, ?_, fun i hi => ?_, hfine.each⟩
  · have := items_text (treeD l)
    rw [h3] at this
    omega
  · have := ranges_text (treeD l) i (by rw [h3]; exact hi)
    omega
end Go.Ew

/- Sets of places that are made empty in one step. -/
set_option linter.unusedVariables false
set_option linter.unusedSimpArgs false
namespace Go.Ew
open Go.Ev Go.Deep

def natC (m : List Nat) : List Value := m.map fun x => .int .i64 ((x : Nat) : Int)
theorem natC_len (m : List Nat) : (natC m).length = m.length := by simp [natC]
theorem natC_app (a b : List Nat) : natC (a ++ b) = natC a ++ natC b := by simp [natC]
theorem natC_at {m : List Nat} {k x : Nat} (h : m[k]? = some x) : ((natC m).drop (k * 1)).take 1 = [.int .i64 ((x : Nat) : Int)] := dropTake rfl fun j hj => by
  match j, hj with
  | 0, _ => simp [natC, h]

theorem ld_of {H : KH} {b n : Nat} {e : Ent} {vs : List Value} (h1 : H b = some e) (h3 : rd e.cells 0 n = some vs) : ld H ⟨b, 0, none⟩ vs := ⟨rfl, e, h1, by rw [rd_len h3]; exact h3⟩

/-- What lies in a set's blocks. -/
structure StB (H : KH) (q : Nat) (m : List Nat) (N : Nat) (bp : Nat) (am : OA) (cm : Nat) (ex : List Value) (pl : List Nat) : Prop where
  pt : ∃ e, H q = some e ∧ wrB e = true ∧ rd e.cells 0 2 = some [.slice am m.length cm, .slice (some ⟨bp, 0, none⟩) N N]
  mem : Gr H 1 am m.length cm (natC m) ex
  plc : ∃ e, H bp = some e ∧ wrB e = true ∧ rd e.cells 0 N = some (natC pl)
  pln : pl.length = N
  nod : m.Nodup
  lt : ∀ x ∈ m, x < N
  inv : ∀ (k x : Nat), m[k]? = some x → pl[x]? = some k
  d1 : q ≠ bp
  d2 : blk am ≠ some q
  d3 : blk am ≠ some bp

/-- A set, in blocks B. -/
def SetIn (B : List Nat) (H : KH) (q : Nat) (m : List Nat) (N : Nat) : Prop := ∃ bp am cm ex pl, StB H q m N bp am cm ex pl ∧ B = q :: bp :: (blk am).toList

/-- What an operation of a set leaves as it was. -/
structure Fr1 (B B' : List Nat) (H H' : KH) : Prop where
  kp : ∀ k e, H k = some e → k ∉ B → H' k = some e
  nw : ∀ b ∈ B', b ∈ B ∨ H b = none

theorem Fr1.refl (B : List Nat) (H : KH) : Fr1 B B H H := ⟨fun _ _ q _ => q, fun _ q => .inl q⟩

theorem SetIn.known {B : List Nat} {H : KH} {q N : Nat} {m : List Nat} (h : SetIn B H q m N) : ∀ b ∈ B, ∃ e, H b = some e := by
  obtain ⟨bp, am, cm, ex, pl, hs, rfl⟩ := h
  intro b hb
  rcases List.mem_cons.1 hb with z | hb
  · obtain ⟨e, h1, _⟩ := hs.pt; exact ⟨e, by rw [z]; exact h1⟩
  rcases List.mem_cons.1 hb with z | hb
  · obtain ⟨e, h1, _⟩ := hs.plc; exact ⟨e, by rw [z]; exact h1⟩
  · have : blk am = some b := by simpa using hb
    exact hs.mem.at' this

theorem SetIn.agree {B : List Nat} {H H' : KH} {q N : Nat} {m : List Nat} (h : SetIn B H q m N) (hk : ∀ k e, k ∈ B → H k = some e → H' k = some e) : SetIn B H' q m N := by
  obtain ⟨bp, am, cm, ex, pl, hs, rfl⟩ := h
  obtain ⟨e1, a1, a2, a3⟩ := hs.pt
  obtain ⟨e2, b1, b2, b3⟩ := hs.plc
  exact ⟨bp, am, cm, ex, pl, ⟨⟨e1, hk q e1 (by simp) a1, a2, a3⟩, hs.mem.agree fun k e z1 z2 => hk k e (by simp [z1]) z2, ⟨e2, hk bp e2 (by simp) b1, b2, b3⟩, hs.pln, hs.nod, hs.lt, hs.inv, hs.d1, hs.d2, hs.d3⟩, rfl⟩

/-- One more, if it is within the bound. -/
def addS (N : Nat) (m : List Nat) (x : Int) : List Nat := if x < 0 then m else if (N : Int) ≤ x then m else if x.toNat ∈ m then m else m ++ [x.toNat]

section
variable {H : KH} {q N bp : Nat} {m : List Nat} {am : OA} {cm : Nat} {ex : List Value} {pl : List Nat}
theorem StB.c0 (h : StB H q m N bp am cm ex pl) : ld H ⟨q, 0, none⟩ [.slice am m.length cm] := by
  obtain ⟨e, h1, h2, h3⟩ := h.pt
  have := ldSub (ld_of h1 h3) 0 1 (by simp)
  simpa using this
theorem StB.c1 (h : StB H q m N bp am cm ex pl) : ld H ⟨q, 0 + 1, none⟩ [.slice (some ⟨bp, 0, none⟩) N N] := by
  obtain ⟨e, h1, h2, h3⟩ := h.pt
  have := ldSub (ld_of h1 h3) 1 1 (by simp)
  simpa using this
theorem StB.may (h : StB H q m N bp am cm ex pl) : KH.may H q := by
  obtain ⟨e, h1, h2, h3⟩ := h.pt
  exact ⟨e, h1, h2⟩
theorem StB.at (h : StB H q m N bp am cm ex pl) {x : Nat} (hx : x < N) : ∃ k, pl[x]? = some k ∧ ld H ⟨bp, 0 + x * 1, none⟩ [.int .i64 ((k : Nat) : Int)] := by
  obtain ⟨e, h1, h2, h3⟩ := h.plc
  have hx' : x < pl.length := by rw [h.pln]; exact hx
  refine ⟨pl[x], by simp [hx'], ?_⟩
  have := ldSub (H := H) (b := bp) (o := 0) (cs := natC pl) ⟨rfl, e, h1, by rw [natC_len, h.pln]; exact h3⟩ (x * 1) 1 (by rw [natC_len]; omega)
  rwa [natC_at (show pl[x]? = some pl[x] by simp [hx'])] at this
theorem StB.has (h : StB H q m N bp am cm ex pl) {x k : Nat} (hk : pl[x]? = some k) : x ∈ m ↔ m[k]? = some x := by
  constructor
  · intro hx
    obtain ⟨j, hj⟩ := List.getElem?_of_mem hx
    have := h.inv j x hj
    rw [hk] at this
    cases this
    exact hj
  · intro hj
    exact List.mem_of_getElem? hj
/-- One more. -/
theorem StB.put (h : StB H q m N bp am cm ex pl) {x nm : Nat} (hx : x < N) (hm : x ∉ m) (hl : m.length ≤ 1000000 - 1) (hnm : (H.put ⟨bp, 0 + x * 1, none⟩ [.int .i64 ((m.length : Nat) : Int)]) nm = none) :
    (∃ l, List.length l = 1 ∧ ld H ⟨bp, 0 + x * 1, none⟩ l) ∧ KH.may H bp ∧ ld (H.put ⟨bp, 0 + x * 1, none⟩ [.int .i64 ((m.length : Nat) : Int)]) ⟨q, 0, none⟩ [.slice am m.length cm] := by
  obtain ⟨k, _, hk⟩ := h.at hx
  obtain ⟨e, h1, h2, h3⟩ := h.plc
  refine ⟨⟨_, rfl, hk⟩, ⟨e, h1, h2⟩, ?_⟩
  obtain ⟨_, e0, z1, z2⟩ := h.c0
  exact ⟨rfl, e0, put_ne h.d1 z1, z2⟩
end

theorem nodup_le : ∀ (N : Nat) (m : List Nat), m.Nodup → (∀ x ∈ m, x < N) → m.length ≤ N
  | 0, m, h1, h2 => by
    match m with
    | [] => simp
    | x :: r => have := h2 x (by simp); omega
  | N + 1, m, h1, h2 => by
    have h3 := nodup_le N (m.filter fun x => decide (x ≠ N)) (h1.filter _) (fun x hx => by
      have hx := List.mem_filter.1 hx
      have := h2 x hx.1
      have h4 : x ≠ N := of_decide_eq_true hx.2
      omega)
    have h4 : m.length = (m.filter fun x => decide (x ≠ N)).length + m.count N := by
      have := List.length_eq_countP_add_countP (fun x => decide (x ≠ N)) (l := m)
      rw [List.countP_eq_length_filter] at this
      rw [this]
      congr 1
      rw [List.count]
      apply List.countP_congr
      intro x _
      simp
    have h5 : m.count N ≤ 1 := List.nodup_iff_count.1 h1 N
    omega
end Go.Ew

namespace Go.Proofs.Ytbfemjkknemfeaa
open Go.Ev Go.Ew
namespace Va
section
variable (ok : EnvOk (env Try.prog))
include ok

theorem c72 {H : KH} {q N bp : Nat} {m : List Nat} {am : OA} {cm : Nat} {ex : List Value} {pl : List Nat} {x : Nat} {Q : PQ} (h : StB H q m N bp am cm ex pl) (hx : x < N) (hq : Q (.bool (decide (x ∈ m))) H) : Does (env Try.prog) 72 [.pointer (some ⟨q, 0, none⟩), .int .i64 (x : Nat)] H Q := by
  obtain ⟨k, hk, hld⟩ := h.at hx
  have e0 : Int.toNat ((x : Nat) : Int) = x := by omega
  have e1 : Int.toNat ((k : Nat) : Int) = k := by omega
  refine fn72 ok ⟨rfl, _, _, _, h.c1, ⟨by omega, by omega⟩, bp, 0, rfl, (k : Int), by rw [e0]; exact hld, rfl, am, _, cm, h.c0, fun hlt => ?_, fun hge => ?_⟩
  · have hlt : k < m.length := by have := of_decide_eq_true hlt; omega
    obtain ⟨b1, o1, q1, r1⟩ := rowAddr h.mem.row (by omega)
    have g1 := r1 (k * 1) 1 (by omega)
    rw [natC_at (show m[k]? = some m[k] by simp [hlt])] at g1
    refine ⟨rfl, am, _, cm, h.c0, ⟨by omega, by omega⟩, b1, o1, q1, ((m[k] : Nat) : Int), by rw [e1]; exact g1, ?_⟩
    have : decide (((m[k] : Nat) : Int) = ((x : Nat) : Int)) = decide (x ∈ m) := by
      rw [Bool.eq_iff_iff]
      simp only [decide_eq_true_eq, h.has hk]
      simp [hlt]
      omega
    rw [this]
    exact hq
  · have hge : m.length ≤ k := by have := of_decide_eq_false hge; omega
    have : decide (x ∈ m) = false := decide_eq_false fun z => by
      have := (h.has hk).1 z
      rw [List.getElem?_eq_none hge] at this; cases this
    rw [this] at hq
    exact hq

theorem c48 {B : List Nat} {H : KH} {q N : Nat} {m : List Nat} {x : Int} {Q : PQ} (h : SetIn B H q m N) (hN : N ≤ 900000) (hq : ∀ B' H', SetIn B' H' q (addS N m x) N → Fr1 B B' H H' → Q (.tuple #[]) H') : Does (env Try.prog) 48 [.pointer (some ⟨q, 0, none⟩), .int .i64 x] H Q := by
  have h0 := h
  obtain ⟨bp, am, cm, ex, pl, hs, rfl⟩ := h
  unfold addS at hq
  refine fn48 ok ⟨fun h1 => ?_, fun h1 => ⟨rfl, _, _, _, hs.c1, fun h2 => ?_, fun h2 => ?_⟩⟩
  · rw [if_pos (of_decide_eq_true h1)] at hq
    exact hq _ H h0 (Fr1.refl _ _)
  · rw [if_neg (of_decide_eq_false h1), if_pos (of_decide_eq_true h2)] at hq
    exact hq _ H h0 (Fr1.refl _ _)
  rw [if_neg (of_decide_eq_false h1), if_neg (of_decide_eq_false h2)] at hq
  have h1 := of_decide_eq_false h1
  have h2 := of_decide_eq_false h2
  obtain ⟨y, rfl⟩ : ∃ y : Nat, x = y := ⟨x.toNat, by omega⟩
  have hy : y < N := by omega
  have e0 : Int.toNat ((y : Nat) : Int) = y := by omega
  rw [e0] at hq
  refine c72 ok hs hy ⟨_, rfl, fun h3 => ?_, fun h3 => ?_⟩
  · rw [if_pos (of_decide_eq_true h3)] at hq
    exact hq _ H h0 (Fr1.refl _ _)
  · have h3 := of_decide_eq_false h3
    rw [if_neg h3] at hq
    have hml := nodup_le N m hs.nod hs.lt
    obtain ⟨k, hk, hld⟩ := hs.at hy
    obtain ⟨ep, p1, p2, p3⟩ := hs.plc
    obtain ⟨eq, q1, q2, q3⟩ := hs.pt
    have hH1q : (H.put ⟨bp, 0 + y * 1, none⟩ [.int .i64 ((m.length : Nat) : Int)]) q = some eq := put_ne hs.d1 q1
    have hc0' : ld (H.put ⟨bp, 0 + y * 1, none⟩ [.int .i64 ((m.length : Nat) : Int)]) ⟨q, 0, none⟩ [.slice am m.length cm] := by
      have := ldSub (ld_of hH1q q3) 0 1 (by simp)
      simpa using this
    rw [e0]
    refine ⟨trivial, rfl, _, _, _, hs.c1, rfl, am, _, cm, hs.c0, ⟨by omega, by omega⟩, bp, 0, rfl, stOk hld rfl, ⟨ep, p1, p2⟩, trivial, rfl, am, _, cm, hc0', fun n13 h13 n14 h14 => ?_⟩
    have l13 := Le.new (e := mkEnt [.int .i64 ((y : Nat) : Int)] 0) h13
    have hmem : Gr ((H.put ⟨bp, 0 + y * 1, none⟩ [.int .i64 ((m.length : Nat) : Int)]).new n13 (mkEnt [.int .i64 ((y : Nat) : Int)] 0)) 1 am m.length cm (natC m) ex := hs.mem.agree fun k e z1 z2 => l13 k e (put_ne (fun z => hs.d3 (by rw [z1, z])) z2)
    obtain ⟨a', H', ex', f1, f2, _, f4, f5⟩ := hmem.append (ti := IT1) (new := [.int .i64 ((y : Nat) : Int)]) h14 rfl (by omega) (by decide) (by decide)
    have h14' : (H.put ⟨bp, 0 + y * 1, none⟩ [.int .i64 ((m.length : Nat) : Int)]) n14 = none := l13.none h14
    have h14'' : H n14 = none := by
      rcases none_or H n14 with z | ⟨e, z⟩
      · exact z
      · by_cases hb : n14 = bp
        · rw [hb] at h14'
          simp only [KH.put, if_true, p1, Option.map_some] at h14'; cases h14'
        · rw [put_ne hb z] at h14'; cases h14'
    have kp1 : ∀ k e, H k = some e → k ≠ bp → blk am ≠ some k → H' k = some e := fun k e z1 z2 z3 => f4 k e (l13 k e (put_ne z2 z1)) z3
    have hq' : H' q = some eq := kp1 q eq q1 hs.d1 hs.d2
    have hp' : H' bp = some ⟨wr ep.cells (0 + y * 1) [.int .i64 ((m.length : Nat) : Int)], ep.len, ep.unk, none⟩ := f4 bp _ (l13 bp _ (by simp only [KH.put, if_true, p1, Option.map_some])) hs.d3
    have ha' : ∀ b, blk a' = some b → b ≠ q ∧ b ≠ bp ∧ (blk am = some b ∨ H b = none) := fun b z => by
      rcases f5 b z with u | u
      · exact ⟨fun v => hs.d2 (by rw [u, v]), fun v => hs.d3 (by rw [u, v]), .inl u⟩
      · subst u
        exact ⟨fun v => (by rw [v, q1] at h14''; cases h14''), fun v => (by rw [v, p1] at h14''; cases h14''), .inr h14''⟩
    have hw0 : ld H' ⟨q, 0, none⟩ [.slice am m.length cm] := by
      have := ldSub (ld_of hq' q3) 0 1 (by simp)
      simpa using this
    refine ⟨1, _, knew_of (lit_kold (if_pos rfl) rfl), a', _, _, H', f1, rfl, stOk hw0 rfl, ⟨eq, hq', q2⟩, ?_⟩
    refine hq (q :: bp :: (blk a').toList) _ ⟨bp, a', unkU, ex', pl.set y m.length, ⟨⟨⟨wr eq.cells 0 [.slice a' (m.length + 1) unkU], eq.len, eq.unk, none⟩, by simp only [KH.put, if_true, hq', Option.map_some], wrB_keep q2, ?_⟩, ?_, ⟨_, put_ne hs.d1.symm hp', wrB_keep p2, ?_⟩, by rw [List.length_set]; exact hs.pln, ?_, ?_, ?_, hs.d1, fun z => (ha' q z).1 rfl, fun z => (ha' bp z).2.1 rfl⟩, rfl⟩ ⟨fun k e z1 z2 => ?_, fun b z => ?_⟩
    · have hl : (m ++ [y]).length = m.length + 1 := by simp
      rw [hl]
      have := rdWr (e := eq.cells) (N := 2) (o := 0) (xs := []) (ys := [.slice am m.length cm]) (zs := [.slice (some ⟨bp, 0, none⟩) N N]) (vs := [.slice a' (m.length + 1) unkU]) (by simpa using q3) rfl rfl
      simpa using this
    · have hl : (m ++ [y]).length = m.length + 1 := by simp
      have hn : natC (m ++ [y]) = natC m ++ [.int .i64 ((y : Nat) : Int)] := by simp [natC]
      rw [hl, hn]
      exact f2.agree fun k e z1 z2 => put_ne (fun z => (ha' k z1).1 z) z2
    · have hy' : y < pl.length := by rw [hs.pln]; exact hy
      have hsp : natC pl = natC (pl.take y) ++ [.int .i64 ((pl[y] : Nat) : Int)] ++ natC (pl.drop (y + 1)) := by
        have : pl = pl.take y ++ [pl[y]] ++ pl.drop (y + 1) := by
          rw [List.append_assoc]
          have h2 : [pl[y]] ++ pl.drop (y + 1) = pl.drop y := by rw [List.drop_eq_getElem_cons hy']; rfl
          rw [h2, List.take_append_drop]
        have h3 := congrArg natC this
        rw [natC_app, natC_app] at h3
        exact h3
      have hst : natC (pl.set y m.length) = natC (pl.take y) ++ [.int .i64 ((m.length : Nat) : Int)] ++ natC (pl.drop (y + 1)) := by
        rw [List.set_eq_take_append_cons_drop, if_pos hy']
        simp [natC]
      rw [hst]
      exact rdWr (ys := [.int .i64 ((pl[y] : Nat) : Int)]) (by rw [p3, hsp]) (by rw [natC_len, List.length_take]; omega) rfl
    · rw [List.nodup_append]
      exact ⟨hs.nod, by simp, fun a z1 b z2 z3 => by
        have z2 : b = y := by simpa using z2
        exact h3 (by rw [← z2, ← z3]; exact z1)⟩
    · intro z hz
      rcases List.mem_append.1 hz with hz | hz
      · exact hs.lt z hz
      · have : z = y := by simpa using hz
        rw [this]; exact hy
    · intro j z hj
      by_cases hjm : j < m.length
      · rw [List.getElem?_append_left hjm] at hj
        have := hs.inv j z hj
        have hzy : y ≠ z := fun u => h3 (by rw [u]; exact List.mem_of_getElem? hj)
        rw [List.getElem?_set_ne hzy]
        exact this
      · rw [List.getElem?_append_right (by omega)] at hj
        have hj0 : j - m.length = 0 := by
          rcases Nat.eq_zero_or_pos (j - m.length) with u | u
          · exact u
          · rw [List.getElem?_eq_none (by simp; omega)] at hj; cases hj
        rw [hj0] at hj
        have : y = z := by simpa using hj
        subst this
        have hjl : j = m.length := by omega
        rw [List.getElem?_set_self (by rw [hs.pln]; exact hy), hjl]
    · have n1 : k ≠ q := fun u => z2 (by simp [u])
      have n2 : k ≠ bp := fun u => z2 (by simp [u])
      have n3 : blk am ≠ some k := fun u => z2 (by simp [u])
      exact put_ne n1 (kp1 k e z1 n2 n3)
    · rcases List.mem_cons.1 z with u | z
      · exact .inl (by simp [u])
      rcases List.mem_cons.1 z with u | z
      · exact .inl (by simp [u])
      · have : blk a' = some b := by simpa using z
        rcases (ha' b this).2.2 with u | u
        · exact .inl (by simp [u])
        · exact .inr u

theorem c50 {B : List Nat} {H : KH} {q N : Nat} {m : List Nat} {Q : PQ} (h : SetIn B H q m N) (hq : ∀ H', SetIn B H' q [] N → Fr1 B B H H' → Q (.tuple #[]) H') : Does (env Try.prog) 50 [.pointer (some ⟨q, 0, none⟩)] H Q := by
  obtain ⟨bp, am, cm, ex, pl, hs, rfl⟩ := h
  obtain ⟨k1, k2⟩ := hs.mem.upto (cut := 0) (by omega) (by decide)
  obtain ⟨eq, q1, q2, q3⟩ := hs.pt
  obtain ⟨ep, p1, p2, p3⟩ := hs.plc
  have k1 : kslice H 1 am m.length cm none (some (.int .i64 0)) = some (.slice am 0 cm) := k1
  refine fn50 ok ⟨rfl, am, _, cm, hs.c0, am, 0, cm, k1, rfl, stOk hs.c0 rfl, hs.may, hq _ ⟨bp, am, cm, (natC m).drop (0 * 1) ++ ex, pl, ⟨⟨⟨wr eq.cells 0 [.slice am 0 cm], eq.len, eq.unk, none⟩, by simp only [KH.put, if_true, q1, Option.map_some], wrB_keep q2, ?_⟩, ?_, ⟨ep, put_ne hs.d1.symm p1, p2, p3⟩, hs.pln, List.nodup_nil, (fun x hx => by cases hx), (fun k x hx => by simp at hx), hs.d1, hs.d2, hs.d3⟩, rfl⟩ ⟨fun k e z1 z2 => put_ne (fun u => z2 (by simp [u])) z1, fun b z => .inl z⟩⟩
  · have := rdWr (e := eq.cells) (N := 2) (o := 0) (xs := []) (ys := [.slice am m.length cm]) (zs := [.slice (some ⟨bp, 0, none⟩) N N]) (vs := [.slice am 0 cm]) (by simpa using q3) rfl rfl
    simpa using this
  · have := k2.agree (H' := H.put ⟨q, 0 + 0, none⟩ [.slice am 0 cm]) fun k e z1 z2 => put_ne (fun u => hs.d2 (by rw [z1, u])) z2
    simpa [natC] using this

theorem c47 {H : KH} {N : Nat} {Q : PQ} (hN : N ≤ 900000) (hq : ∀ B H' q, SetIn B H' q [] N → Le H H' → (∀ b ∈ B, H b = none) → Q (.pointer (some ⟨q, 0, none⟩)) H') : Does (env Try.prog) 47 [.int .i64 (N : Nat)] H Q := by
  have e0 : Int.toNat ((N : Nat) : Int) = N := by omega
  refine fn47 ok ⟨⟨by omega, by omega, by omega⟩, fun n1 h1 n2 h2 => ?_⟩
  rw [e0] at h2 ⊢
  have l1 := Le.new (e := mkEnt (lrep [.int .i64 0] N) 0) h1
  have l2 := Le.new (e := mkEnt (Array.toList #[.slice none 0 0, .slice (some ⟨n1, 0, none⟩) N N]) 0) h2
  have hne : n1 ≠ n2 := fun z => by rw [← z] at h2; simp [KH.new] at h2
  have hrep : lrep [Value.int .i64 0] N = natC (List.replicate N 0) := by
    clear hq l1 l2 h2 e0 hN
    induction N with
    | zero => rfl
    | succ n ih => simp only [lrep, ih, List.replicate_succ, natC, List.map_cons]; rfl
  refine hq (n2 :: n1 :: (blk (none : OA)).toList) _ n2 ⟨n1, none, 0, [], List.replicate N 0, ⟨⟨_, if_pos rfl, rfl, rd_some rfl fun j v hv => by rw [Nat.zero_add]; simp only [mkEnt, tget_wr_nil]; exact hv⟩, .nil, ⟨mkEnt (lrep [.int .i64 0] N) 0, l2 n1 _ (if_pos rfl), rfl, ?_⟩, by simp, List.nodup_nil, (fun x hx => by cases hx), (fun k x hx => by simp at hx), hne.symm, (fun z => by cases z), fun z => by cases z⟩, rfl⟩ (l1.trans l2) fun b hb => ?_
  · have hl : (natC (List.replicate N 0)).length = N := by simp [natC]
    have hh : ∀ cs : List Value, rd (mkEnt cs 0).cells 0 cs.length = some cs := fun cs => rd_some rfl fun j v hv => by rw [Nat.zero_add]; simp only [mkEnt, tget_wr_nil]; exact hv
    have := hh (natC (List.replicate N 0))
    rw [hl] at this
    rw [hrep]
    exact this
  · rcases List.mem_cons.1 hb with z | hb
    · rw [z]; exact l1.none h2
    rcases List.mem_cons.1 hb with z | hb
    · rw [z]; exact h1
    · cases hb
end
end Va
end Go.Proofs.Ytbfemjkknemfeaa

/- All ways at once: nfa.Longest. -/
set_option linter.unusedVariables false
set_option linter.unusedSimpArgs false
namespace Go.Ew
open Go.Ev Go.Deep

def st0 : St := ⟨0, 0, -1, [], 0⟩
def stAt (S : List St) (x : Nat) : St := (S[x]?).getD st0

def spM (S : List St) : Nat → Nat → List Nat → List Nat
  | 0, _, m => m
  | f + 1, i, m => match m[i]? with
    | none => m
    | some x => spM S f (i + 1) ((stAt S x).free.foldl (addS S.length) m)
/-- All that can be reached with nothing. -/
def clM (S : List St) (m : List Nat) : List Nat := spM S (S.length + 1) 0 m
def moveM (S : List St) (c : Int) (t : List Nat) (x : Nat) : List Nat := if (stAt S x).lo ≤ c ∧ c ≤ (stAt S x).hi then addS S.length t (stAt S x).next else t
def stepM (S : List St) (c : Int) (m : List Nat) : List Nat := clM S (m.foldl (moveM S c) [])
def leastM (S : List St) (l : Int) (x : Nat) : Int := if (stAt S x).e ≠ 0 then (if l = 0 then (stAt S x).e else if (stAt S x).e < l then (stAt S x).e else l) else l
def endM (S : List St) (m : List Nat) : Int := m.foldl (leastM S) 0
def begM (S : List St) : List Nat := clM S (addS S.length [] 0)
def lgN (S : List St) (s : ByteArray) : Nat → Nat → List Nat → Int × Int × Bool → Int × Int × Bool
  | 0, _, _, r => r
  | f + 1, i, m, r => if stepM S (byteAt s i) m = [] then r else
      lgN S s f (i + 1) (stepM S (byteAt s i) m) (if endM S (stepM S (byteAt s i) m) ≠ 0 then (IntKind.wrap .i64 (endM S (stepM S (byteAt s i) m) - 1), IntKind.wrap .i64 ((i : Int) + 1), true) else r)
/-- The longest front that many ways tell. -/
def nfaL (S : List St) (s : ByteArray) : Int × Int × Bool := lgN S s s.size 0 (begM S) (0, 0, false)
def tupL3 (r : Int × Int × Bool) : Value := .tuple #[.int .i64 r.1, .int .i64 r.2.1, .bool r.2.2]

theorem SsR.get {X : KH} : ∀ {l : List St} {cs : List Value} {k : Nat} {s : St}, SsR X l cs → l[k]? = some s → ∃ a c, (cs.drop (k * 5)).take 5 = stC s a c ∧ kold X 1 a s.free.length = some (inC s.free)
  | [], cs, k, s, h, hk => by simp at hk
  | t :: r, cs, 0, s, ⟨a, c, ds, h1, h2, h3⟩, hk => by
    have hk : t = s := by simpa using hk
    subst hk; subst h1
    exact ⟨a, c, by simp [stC], h2⟩
  | t :: r, cs, k + 1, s, ⟨a, c, ds, h1, h2, h3⟩, hk => by
    subst h1
    have hk : r[k]? = some s := by simpa using hk
    obtain ⟨a', c', q1, q2⟩ := SsR.get h3 hk
    refine ⟨a', c', ?_, q2⟩
    have : (k + 1) * 5 = (stC t a c).length + k * 5 := by simp [stC]; omega
    rw [this, List.drop_append_of_le_length_add]
    exact q1
 where
  List.drop_append_of_le_length_add {α : Type} {l m : List α} {n : Nat} : (l ++ m).drop (l.length + n) = m.drop n := by
    rw [List.drop_append]; simp

structure WkB (X H : KH) (w : Nat) (S : List St) (a : OA) (c q1 q2 : Nat) (B1 B2 : List Nat) (now thn : List Nat) : Prop where
  le : Le X H
  xw : X w = none
  pt : ∃ e, H w = some e ∧ wrB e = true ∧ rd e.cells 0 3 = some [.slice a S.length c, .pointer (some ⟨q1, 0, none⟩), .pointer (some ⟨q2, 0, none⟩)]
  st : SsN X S a
  s1 : SetIn B1 H q1 now S.length
  s2 : SetIn B2 H q2 thn S.length
  x1 : ∀ b ∈ B1, X b = none ∧ b ≠ w
  x2 : ∀ b ∈ B2, X b = none ∧ b ≠ w
  d : ∀ b ∈ B1, b ∉ B2

section
variable {X H : KH} {w : Nat} {S : List St} {a : OA} {c q1 q2 : Nat} {B1 B2 : List Nat} {now thn : List Nat}
theorem WkB.c0 (h : WkB X H w S a c q1 q2 B1 B2 now thn) : ld H ⟨w, 0, none⟩ [.slice a S.length c] := by
  obtain ⟨e, h1, h2, h3⟩ := h.pt
  have := ldSub (ld_of h1 h3) 0 1 (by simp)
  simpa using this
theorem WkB.c1 (h : WkB X H w S a c q1 q2 B1 B2 now thn) : ld H ⟨w, 0 + 1, none⟩ [.pointer (some ⟨q1, 0, none⟩)] := by
  obtain ⟨e, h1, h2, h3⟩ := h.pt
  have := ldSub (ld_of h1 h3) 1 1 (by simp)
  simpa using this
theorem WkB.c2 (h : WkB X H w S a c q1 q2 B1 B2 now thn) : ld H ⟨w, 0 + 2, none⟩ [.pointer (some ⟨q2, 0, none⟩)] := by
  obtain ⟨e, h1, h2, h3⟩ := h.pt
  have := ldSub (ld_of h1 h3) 2 1 (by simp)
  simpa using this
theorem WkB.set1 (h : WkB X H w S a c q1 q2 B1 B2 now thn) {H' : KH} {B' m : List Nat} (hs : SetIn B' H' q1 m S.length) (hf : Fr1 B1 B' H H') : WkB X H' w S a c q1 q2 B' B2 m thn := by
  obtain ⟨e, h1, h2, h3⟩ := h.pt
  refine ⟨fun k e q => hf.kp k e (h.le k e q) fun z => (by rw [(h.x1 k z).1] at q; cases q), h.xw, ⟨e, hf.kp w e h1 fun z => (h.x1 w z).2 rfl, h2, h3⟩, h.st, hs, h.s2.agree fun k e z1 z2 => hf.kp k e z2 fun z3 => h.d k z3 z1, fun b z => ?_, h.x2, fun b z z2 => ?_⟩
  · rcases hf.nw b z with u | u
    · exact h.x1 b u
    · exact ⟨h.le.none u, fun v => by rw [v, h1] at u; cases u⟩
  · rcases hf.nw b z with u | u
    · exact h.d b u z2
    · obtain ⟨e, v⟩ := h.s2.known b z2
      rw [u] at v; cases v
theorem WkB.set2 (h : WkB X H w S a c q1 q2 B1 B2 now thn) {H' : KH} {B' m : List Nat} (hs : SetIn B' H' q2 m S.length) (hf : Fr1 B2 B' H H') : WkB X H' w S a c q1 q2 B1 B' now m := by
  obtain ⟨e, h1, h2, h3⟩ := h.pt
  refine ⟨fun k e q => hf.kp k e (h.le k e q) fun z => (by rw [(h.x2 k z).1] at q; cases q), h.xw, ⟨e, hf.kp w e h1 fun z => (h.x2 w z).2 rfl, h2, h3⟩, h.st, h.s1.agree fun k e z1 z2 => hf.kp k e z2 fun z3 => h.d k z1 z3, hs, h.x1, fun b z => ?_, fun b z z2 => ?_⟩
  · rcases hf.nw b z with u | u
    · exact h.x2 b u
    · exact ⟨h.le.none u, fun v => by rw [v, h1] at u; cases u⟩
  · rcases hf.nw b z2 with u | u
    · exact h.d b z u
    · obtain ⟨e, v⟩ := h.s1.known b z
      rw [u] at v; cases v
/-- A state as it lies there. -/
theorem WkB.state (h : WkB X H w S a c q1 q2 B1 B2 now thn) {x : Nat} (hx : x < S.length) : ∃ b o af cf, a = some ⟨b, o, none⟩ ∧ (∀ H', Le X H' → ld H' ⟨b, o + x * 5, none⟩ (stC (stAt S x) af cf)) ∧ kold X 1 af (stAt S x).free.length = some (inC (stAt S x).free) := by
  obtain ⟨cs, h1, h2⟩ := h.st
  obtain ⟨b, o, e, r⟩ := rowAddr h1 (by omega)
  have hs : S[x]? = some (stAt S x) := by unfold stAt; simp [hx]
  obtain ⟨af, cf, g1, g2⟩ := h2.get hs
  have := r (x * 5) 5 (by omega)
  rw [g1] at this
  exact ⟨b, o, af, cf, e, fun H' hl => hl.ld this, g2⟩
end

theorem stC_ld3 {H : KH} {b o : Nat} {s : St} {af : OA} {cf : Nat} (h : ld H ⟨b, o, none⟩ (stC s af cf)) : ld H ⟨b, o + 3, none⟩ [.slice af s.free.length cf] := by
  have := ldSub h 3 1 (by simp [stC])
  simpa [stC] using this
theorem stC_ld4 {H : KH} {b o : Nat} {s : St} {af : OA} {cf : Nat} (h : ld H ⟨b, o, none⟩ (stC s af cf)) : ld H ⟨b, o + 4, none⟩ [.int .i64 s.e] := by
  have := ldSub h 4 1 (by simp [stC])
  simpa [stC] using this

theorem inC_at {m : List Int} {k : Nat} {x : Int} (h : m[k]? = some x) : ((inC m).drop (k * 1)).take 1 = [.int .i64 x] := dropTake rfl fun j hj => by
  match j, hj with
  | 0, _ => simp [inC, h]

theorem addS_grow {N : Nat} {m : List Nat} {x : Int} : ∃ r, addS N m x = m ++ r := by
  unfold addS
  split
  · exact ⟨[], by simp⟩
  split
  · exact ⟨[], by simp⟩
  split
  · exact ⟨[], by simp⟩
  · exact ⟨_, rfl⟩
theorem addF_grow {N : Nat} : ∀ (f : List Int) (m : List Nat), ∃ r, f.foldl (addS N) m = m ++ r
  | [], m => ⟨[], by simp⟩
  | x :: f, m => by
    obtain ⟨r1, h1⟩ := addS_grow (N := N) (m := m) (x := x)
    obtain ⟨r2, h2⟩ := addF_grow f (m ++ r1)
    exact ⟨r1 ++ r2, by rw [List.foldl_cons, h1, h2, List.append_assoc]⟩
end Go.Ew

namespace Go.Proofs.Ytbfemjkknemfeaa
open Go.Ev Go.Ew
namespace Va
section
variable (ok : EnvOk (env Try.prog))
include ok

/-- What is reached from one place. -/
theorem l49 {X H : KH} {w : Nat} {S : List St} {a : OA} {c q1 q2 : Nat} {B1 B2 now thn : List Nat} {f : List Int} {af : OA} {cf i M : Nat} {Q : PQ} {I : Nat → Nat → Nat → Int → KH → Prop} (h : WkB X H w S a c q1 q2 B1 B2 now thn) (hf : kold X 1 af f.length = some (inC f)) (hS : S.length ≤ 900000) (hfl : f.length ≤ 1000000)
    (hI : ∀ H' B1', WkB X H' w S a c q1 q2 B1' B2 (f.foldl (addS S.length) now) thn → ∃ n13, n13 < M ∧ (none : Option Nat) = none ∧ I n13 w 0 (IntKind.wrap .i64 (((i : Nat) : Int) + 1)) H') : vc49_L1 w 0 ((i : Nat) : Int) af f.length cf H M I := by
  unfold vc49_L1
  refine ⟨fun n3 n4 n5 x6 a7 n8 n9 x10 x11 H12 => n4 = w ∧ n5 = 0 ∧ x6 = (i : Nat) ∧ a7 = af ∧ n8 = f.length ∧ x10 = (f.length : Nat) ∧ ∃ (k : Nat) (B1' : List Nat), x11 = k ∧ k ≤ f.length ∧ n3 = f.length - k ∧ WkB X H12 w S a c q1 q2 B1' B2 ((f.take k).foldl (addS S.length) now) thn, ⟨f.length, rfl, rfl, rfl, rfl, rfl, rfl, rfl, 0, B1, rfl, by omega, rfl, by simpa using h⟩, ?_⟩
  rintro n3 n4 n5 x6 a7 n8 n9 x10 x11 H12 ⟨rfl, rfl, rfl, rfl, rfl, rfl, k, B1', rfl, hk, rfl, hW⟩
  refine ⟨fun hlt => ?_, fun hge => ?_⟩
  · have hlt : k < f.length := by have := of_decide_eq_true hlt; omega
    have e0 : Int.toNat ((k : Nat) : Int) = k := by omega
    obtain ⟨b1, o1, e1, r1⟩ := rowAddr (hW.le.kold hf) (by omega)
    have g1 := r1 (k * 1) 1 (by omega)
    rw [inC_at (show f[k]? = some f[k] by simp [hlt])] at g1
    rw [e0]
    refine ⟨⟨by omega, by omega⟩, b1, o1, e1, _, g1, rfl, q1, 0, hW.c1, c48 ok hW.s1 hS fun B' H' hs hfr => ⟨rfl, f.length - (k + 1), by omega, rfl, rfl, rfl, rfl, rfl, rfl, rfl, k + 1, B', by rw [wrap64 (by omega) (by omega)]; omega, by omega, rfl, ?_⟩⟩
    rw [List.take_succ_eq_append_getElem hlt, List.foldl_append]
    exact hW.set1 hs hfr
  · have hge : k = f.length := by have := of_decide_eq_false hge; omega
    subst hge
    rw [List.take_length] at hW
    exact hI H12 B1' hW

theorem c49 {X H : KH} {w : Nat} {S : List St} {a : OA} {c q1 q2 : Nat} {B1 B2 now thn : List Nat} {Q : PQ} (h : WkB X H w S a c q1 q2 B1 B2 now thn) (hS : S.length ≤ 900000) (hfl : ∀ x, (stAt S x).free.length ≤ 1000000)
    (hq : ∀ H' B1', WkB X H' w S a c q1 q2 B1' B2 (clM S now) thn → Q (.tuple #[]) H') : Does (env Try.prog) 49 [.pointer (some ⟨w, 0, none⟩)] H Q := by
  refine fn49 ok ?_
  unfold vc49 vc49_L3
  refine ⟨fun n3 n4 n5 x6 H7 => n4 = w ∧ n5 = 0 ∧ ∃ (i : Nat) (B1' m : List Nat), x6 = i ∧ i ≤ S.length ∧ n3 = S.length + 1 - i ∧ WkB X H7 w S a c q1 q2 B1' B2 m thn ∧ spM S (S.length + 1 - i) i m = clM S now, ⟨S.length + 1, rfl, rfl, rfl, 0, B1, now, rfl, by omega, rfl, h, rfl⟩, ?_⟩
  rintro n3 n4 n5 x6 H7 ⟨rfl, rfl, i, B1', m, rfl, hi, rfl, hW, hm⟩
  obtain ⟨bp, am, cm, ex, pl, hs, hB1⟩ := hW.s1
  have hml := nodup_le _ m hs.nod hs.lt
  obtain ⟨f, hf⟩ : ∃ f, S.length + 1 - i = f + 1 := ⟨S.length - i, by omega⟩
  rw [hf, spM] at hm
  refine ⟨rfl, q1, 0, hW.c1, rfl, am, _, cm, hs.c0, fun hlt => ?_, fun hge => ?_⟩
  · have hlt : i < m.length := by have := of_decide_eq_true hlt; omega
    have hmi : m[i]? = some m[i] := by simp [hlt]
    rw [hmi] at hm
    have hx := hs.lt m[i] (List.getElem_mem hlt)
    have e0 : Int.toNat ((i : Nat) : Int) = i := by omega
    have e1 : Int.toNat ((m[i] : Nat) : Int) = m[i] := by omega
    obtain ⟨b1, o1, z1, r1⟩ := rowAddr hs.mem.row (by omega)
    have g1 := r1 (i * 1) 1 (by omega)
    rw [natC_at hmi] at g1
    obtain ⟨b2, o2, af, cf, z2, hst, hfr⟩ := hW.state hx
    refine ⟨trivial, rfl, a, _, c, hW.c0, rfl, q1, 0, hW.c1, rfl, am, _, cm, hs.c0, ⟨by omega, by omega⟩, b1, o1, z1, _, by rw [e0]; exact g1, ⟨by omega, by omega⟩, b2, o2, z2, rfl, af, _, cf, by rw [e1]; exact stC_ld3 (hst H7 hW.le), ?_⟩
    refine l49 ok (Q := Q) hW hfr hS (hfl _) fun H' B' hW' => ⟨S.length - i, by omega, rfl, rfl, rfl, i + 1, B', _, by rw [wrap64 (by omega) (by omega)]; omega, by omega, by omega, hW', ?_⟩
    have : S.length + 1 - (i + 1) = f := by omega
    rw [this]
    exact hm
  · have hge : m.length ≤ i := by have := of_decide_eq_false hge; omega
    rw [List.getElem?_eq_none hge] at hm
    have hm : m = clM S now := hm
    subst hm
    exact hq H7 B1' hW

theorem c31 {X H : KH} {w : Nat} {S : List St} {a : OA} {c q1 q2 : Nat} {B1 B2 now thn : List Nat} {Q : PQ} (h : WkB X H w S a c q1 q2 B1 B2 now thn) (hq : Q (.bool (decide (now = []))) H) : Does (env Try.prog) 31 [.pointer (some ⟨w, 0, none⟩)] H Q := by
  obtain ⟨bp, am, cm, ex, pl, hs, hB1⟩ := h.s1
  refine fn31 ok ⟨rfl, q1, 0, h.c1, rfl, am, _, cm, hs.c0, ?_⟩
  have : decide (((now.length : Nat) : Int) = 0) = decide (now = []) := by
    rw [Bool.eq_iff_iff]
    simp only [decide_eq_true_eq]
    constructor
    · intro z; exact List.eq_nil_of_length_eq_zero (by omega)
    · intro z; rw [z]; rfl
  rw [this]
  exact hq

theorem c32 {X H : KH} {w : Nat} {S : List St} {a : OA} {c q1 q2 : Nat} {B1 B2 now thn : List Nat} {Q : PQ} (h : WkB X H w S a c q1 q2 B1 B2 now thn) (hS : S.length ≤ 900000) (hq : Q (.int .i64 (endM S now)) H) : Does (env Try.prog) 32 [.pointer (some ⟨w, 0, none⟩)] H Q := by
  obtain ⟨bp, am, cm, ex, pl, hs, hB1⟩ := h.s1
  have hml := nodup_le _ now hs.nod hs.lt
  refine fn32 ok ⟨rfl, q1, 0, h.c1, rfl, am, _, cm, hs.c0, ?_⟩
  unfold vc32_L1
  refine ⟨fun n3 n4 n5 x6 a7 n8 n9 x10 x11 H12 => n4 = w ∧ n5 = 0 ∧ a7 = am ∧ n8 = now.length ∧ x10 = (now.length : Nat) ∧ H12 = H ∧ ∃ k : Nat, x11 = k ∧ k ≤ now.length ∧ n3 = now.length - k ∧ x6 = (now.take k).foldl (leastM S) 0, ⟨now.length, rfl, rfl, rfl, rfl, rfl, rfl, rfl, 0, rfl, by omega, rfl, by simp⟩, ?_⟩
  rintro n3 n4 n5 x6 a7 n8 n9 x10 x11 H12 ⟨rfl, rfl, rfl, rfl, rfl, rfl, k, rfl, hk, rfl, rfl⟩
  refine ⟨fun hlt => ?_, fun hge => ?_⟩
  · have hlt : k < now.length := by have := of_decide_eq_true hlt; omega
    have hmi : now[k]? = some now[k] := by simp [hlt]
    have hx := hs.lt now[k] (List.getElem_mem hlt)
    have e0 : Int.toNat ((k : Nat) : Int) = k := by omega
    have e1 : Int.toNat ((now[k] : Nat) : Int) = now[k] := by omega
    obtain ⟨b1, o1, z1, r1⟩ := rowAddr hs.mem.row (by omega)
    have g1 := r1 (k * 1) 1 (by omega)
    rw [natC_at hmi] at g1
    obtain ⟨b2, o2, af, cf, z2, hst, hfr⟩ := h.state hx
    have hnext : (now.take (k + 1)).foldl (leastM S) 0 = leastM S ((now.take k).foldl (leastM S) 0) now[k] := by
      rw [List.take_succ_eq_append_getElem hlt, List.foldl_append]; rfl
    generalize hy0 : (now.take k).foldl (leastM S) 0 = y0 at *
    have go : ∀ y, leastM S y0 now[k] = y → ∃ n10, n10 < now.length - k ∧ (none : Option Nat) = none ∧ (n4 = n4 ∧ 0 = 0 ∧ a7 = a7 ∧ now.length = now.length ∧ ((now.length : Nat) : Int) = (now.length : Nat) ∧ H12 = H12 ∧ ∃ k_1 : Nat, IntKind.wrap .i64 (((k : Nat) : Int) + 1) = k_1 ∧ k_1 ≤ now.length ∧ n10 = now.length - k_1 ∧ y = (now.take k_1).foldl (leastM S) 0) := fun y hy => ⟨now.length - (k + 1), by omega, rfl, rfl, rfl, rfl, rfl, rfl, rfl, k + 1, by rw [wrap64 (by omega) (by omega)]; omega, by omega, rfl, by rw [hnext, hy]⟩
    refine ⟨⟨by omega, by omega⟩, b1, o1, z1, _, by rw [e0]; exact g1, rfl, a, _, c, h.c0, ⟨by omega, by omega⟩, b2, o2, z2, rfl, _, by rw [e1]; exact stC_ld4 (hst H12 h.le), fun t1 => ⟨fun t2 => ?_, fun t2 => ⟨fun t3 => ?_, fun t3 => ?_⟩⟩, fun t1 => ?_⟩
    · refine go _ ?_
      unfold leastM
      rw [if_pos (of_decide_eq_true t1), if_pos (of_decide_eq_true t2)]
    · refine go _ ?_
      unfold leastM
      rw [if_pos (of_decide_eq_true t1), if_neg (of_decide_eq_false t2), if_pos (of_decide_eq_true t3)]
    · refine go _ ?_
      unfold leastM
      rw [if_pos (of_decide_eq_true t1), if_neg (of_decide_eq_false t2), if_neg (of_decide_eq_false t3)]
    · refine go _ ?_
      unfold leastM
      rw [if_neg (of_decide_eq_false t1)]
  · have hge : k = now.length := by have := of_decide_eq_false hge; omega
    subst hge
    rw [List.take_length]
    exact hq

theorem c30 {X H : KH} {w : Nat} {S : List St} {a : OA} {c q1 q2 : Nat} {B1 B2 now thn : List Nat} {x : Int} {Q : PQ} (h : WkB X H w S a c q1 q2 B1 B2 now thn) (hS : S.length ≤ 900000) (hfl : ∀ x, (stAt S x).free.length ≤ 1000000)
    (hq : ∀ H' q1' q2' B1' B2' thn', WkB X H' w S a c q1' q2' B1' B2' (stepM S x now) thn' → Q (.tuple #[]) H') : Does (env Try.prog) 30 [.pointer (some ⟨w, 0, none⟩), .int .u8 x] H Q := by
  refine fn30 ok ⟨rfl, q2, 0, h.c2, c50 ok h.s2 fun H4 hs4 hf4 => ⟨rfl, ?_⟩⟩
  have h4 := h.set2 hs4 hf4
  obtain ⟨bp, am, cm, ex, pl, hs, hB1⟩ := h4.s1
  have hml := nodup_le _ now hs.nod hs.lt
  refine ⟨rfl, q1, 0, h4.c1, rfl, am, _, cm, hs.c0, ?_⟩
  have hrow := hs.mem.row
  have hamB : ∀ b, blk am = some b → b ∈ B1 := fun b z => by rw [hB1]; simp [z]
  unfold vc30_L2
  refine ⟨fun n3 n4 n5 x6 a7 n8 n9 x10 x11 H12 => n4 = w ∧ n5 = 0 ∧ x6 = x ∧ a7 = am ∧ n8 = now.length ∧ x10 = (now.length : Nat) ∧ ∃ (k : Nat) (B2' : List Nat), x11 = k ∧ k ≤ now.length ∧ n3 = now.length - k ∧ WkB X H12 w S a c q1 q2 B1 B2' now ((now.take k).foldl (moveM S x) []) ∧ Gr H12 1 am now.length cm (natC now) ex, ⟨now.length, rfl, rfl, rfl, rfl, rfl, rfl, rfl, 0, B2, rfl, by omega, rfl, by simpa using h4, hs.mem⟩, ?_⟩
  rintro n3 n4 n5 x6 a7 n8 n9 x10 x11 H12 ⟨rfl, rfl, rfl, rfl, rfl, rfl, k, B2', rfl, hk, rfl, hW, hG⟩
  refine ⟨fun hlt => ?_, fun hge => ?_⟩
  · have hlt : k < now.length := by have := of_decide_eq_true hlt; omega
    have hmi : now[k]? = some now[k] := by simp [hlt]
    have hx := hs.lt now[k] (List.getElem_mem hlt)
    have e0 : Int.toNat ((k : Nat) : Int) = k := by omega
    have e1 : Int.toNat ((now[k] : Nat) : Int) = now[k] := by omega
    obtain ⟨b1, o1, z1, r1⟩ := rowAddr hG.row (by omega)
    have g1 := r1 (k * 1) 1 (by omega)
    rw [natC_at hmi] at g1
    obtain ⟨b2, o2, af, cf, z2, hst, hfr⟩ := hW.state hx
    have hw : IntKind.wrap .i64 (((k : Nat) : Int) + 1) = ((k + 1 : Nat) : Int) := by rw [wrap64 (by omega) (by omega)]; omega
    have hnext : (now.take (k + 1)).foldl (moveM S x6) [] = moveM S x6 ((now.take k).foldl (moveM S x6) []) now[k] := by
      rw [List.take_succ_eq_append_getElem hlt, List.foldl_append]; rfl
    have hld := hst H12 hW.le
    refine ⟨⟨by omega, by omega⟩, b1, o1, z1, _, by rw [e0]; exact g1, rfl, a, _, c, hW.c0, ⟨by omega, by omega⟩, b2, o2, z2, _, _, _, _, _, _, _, by rw [e1]; exact hld, fun t1 => ⟨fun t2 => ?_, fun t2 => ?_⟩, fun t1 => ?_⟩
    · have t1 := of_decide_eq_true t1
      have t2 := of_decide_eq_true t2
      refine ⟨trivial, rfl, q2, 0, hW.c2, c48 ok hW.s2 hS fun B' H' hs' hf' => ⟨rfl, trivial, now.length - (k + 1), by omega, rfl, rfl, rfl, rfl, rfl, rfl, rfl, k + 1, B', hw, by omega, rfl, ?_, hG.agree fun q e u1 u2 => hf'.kp q e u2 fun u3 => hW.d q (hamB q u1) u3⟩⟩
      rw [hnext, moveM, if_pos ⟨t1, t2⟩]
      exact hW.set2 hs' hf'
    · have t2 := of_decide_eq_false t2
      refine ⟨now.length - (k + 1), by omega, rfl, rfl, rfl, rfl, rfl, rfl, rfl, k + 1, B2', hw, by omega, rfl, ?_, hG⟩
      rw [hnext, moveM, if_neg (fun u => t2 u.2)]
      exact hW
    · have t1 := of_decide_eq_false t1
      refine ⟨now.length - (k + 1), by omega, rfl, rfl, rfl, rfl, rfl, rfl, rfl, k + 1, B2', hw, by omega, rfl, ?_, hG⟩
      rw [hnext, moveM, if_neg (fun u => t1 u.1)]
      exact hW
  · have hge : k = now.length := by have := of_decide_eq_false hge; omega
    subst hge
    rw [List.take_length] at hW
    obtain ⟨e, p1, p2, p3⟩ := hW.pt
    have hne1 : ∀ b ∈ B1, b ≠ n4 := fun b z => (hW.x1 b z).2
    have hne2 : ∀ b ∈ B2', b ≠ n4 := fun b z => (hW.x2 b z).2
    have pe1 : (H12.put ⟨n4, 0 + 1, none⟩ [.pointer (some ⟨q2, 0, none⟩)]) n4 = some ⟨wr e.cells (0 + 1) [.pointer (some ⟨q2, 0, none⟩)], e.len, e.unk, none⟩ := by simp only [KH.put, if_true, p1, Option.map_some]
    have rd1 : rd (wr e.cells (0 + 1) [.pointer (some ⟨q2, 0, none⟩)]) 0 3 = some [.slice a S.length c, .pointer (some ⟨q2, 0, none⟩), .pointer (some ⟨q2, 0, none⟩)] :=
      rdWr (xs := [.slice a S.length c]) (ys := [.pointer (some ⟨q1, 0, none⟩)]) (zs := [.pointer (some ⟨q2, 0, none⟩)]) (by simpa using p3) rfl rfl
    have rd2 : rd (wr (wr e.cells (0 + 1) [.pointer (some ⟨q2, 0, none⟩)]) (0 + 2) [.pointer (some ⟨q1, 0, none⟩)]) 0 3 = some [.slice a S.length c, .pointer (some ⟨q2, 0, none⟩), .pointer (some ⟨q1, 0, none⟩)] :=
      rdWr (xs := [.slice a S.length c, .pointer (some ⟨q2, 0, none⟩)]) (ys := [.pointer (some ⟨q2, 0, none⟩)]) (zs := []) (by simpa using rd1) rfl rfl
    have ldd : ld (H12.put ⟨n4, 0 + 1, none⟩ [.pointer (some ⟨q2, 0, none⟩)]) ⟨n4, 0 + 2, none⟩ [.pointer (some ⟨q2, 0, none⟩)] := by
      have := ldSub (ld_of pe1 rd1) 2 1 (by simp)
      simpa using this
    have keep : ∀ b e', b ≠ n4 → H12 b = some e' → ((H12.put ⟨n4, 0 + 1, none⟩ [.pointer (some ⟨q2, 0, none⟩)]).put ⟨n4, 0 + 2, none⟩ [.pointer (some ⟨q1, 0, none⟩)]) b = some e' := fun b e' u1 u2 => put_ne u1 (put_ne u1 u2)
    have hW2 : WkB X ((H12.put ⟨n4, 0 + 1, none⟩ [.pointer (some ⟨q2, 0, none⟩)]).put ⟨n4, 0 + 2, none⟩ [.pointer (some ⟨q1, 0, none⟩)]) n4 S a c q2 q1 B2' B1 (now.foldl (moveM S x6) []) now := by
      refine ⟨fun k e' q => keep k e' (fun z => by rw [z, hW.xw] at q; cases q) (hW.le k e' q), hW.xw, ⟨⟨wr (wr e.cells (0 + 1) [.pointer (some ⟨q2, 0, none⟩)]) (0 + 2) [.pointer (some ⟨q1, 0, none⟩)], e.len, e.unk, none⟩, ?_, wrB_keep p2, rd2⟩, hW.st, hW.s2.agree fun k e' u1 u2 => keep k e' (hne2 k u1) u2, hW.s1.agree fun k e' u1 u2 => keep k e' (hne1 k u1) u2, hW.x2, hW.x1, fun b u1 u2 => hW.d b u2 u1⟩
      show (KH.put _ _ _) n4 = _
      simp only [KH.put, if_true, p1, Option.map_some]
    refine ⟨trivial, rfl, q2, 0, hW.c2, rfl, q1, 0, hW.c1, rfl, stOk hW.c1 rfl, ⟨e, p1, p2⟩, ⟨rfl, trivial⟩, rfl, stOk ldd rfl, ⟨_, pe1, wrB_keep p2⟩, trivial, c49 ok hW2 hS hfl fun H' B1' hW3 => ⟨rfl, hq H' q2 q1 B1' B1 now hW3⟩⟩

theorem c29 {S : List St} {a : OA} {c : Nat} {H : KH} {Q : PQ} (hst : SsN H S a) (hS : S.length ≤ 900000) (hfl : ∀ x, (stAt S x).free.length ≤ 1000000)
    (hq : ∀ H' w q1 q2 B1 B2 thn, WkB H H' w S a c q1 q2 B1 B2 (begM S) thn → Q (.pointer (some ⟨w, 0, none⟩)) H') : Does (env Try.prog) 29 [.slice a S.length c] H Q := by
  refine fn29 ok (c47 ok hS fun B1 H2 q1 s1 l1 f1 => ⟨q1, 0, rfl, c47 ok hS fun B2 H6 q2 s2 l2 f2 => ⟨q2, 0, rfl, fun n9 h9 => ?_⟩⟩)
  have l3 := Le.new (e := mkEnt (Array.toList #[.slice a S.length c, .pointer (some ⟨q1, 0, none⟩), .pointer (some ⟨q2, 0, none⟩)]) 0) h9
  have kn1 : ∀ b ∈ B1, b ≠ n9 := fun b z u => by
    obtain ⟨e, v⟩ := s1.known b z
    have := l2 b e v
    rw [u, h9] at this; cases this
  have kn2 : ∀ b ∈ B2, b ≠ n9 := fun b z u => by
    obtain ⟨e, v⟩ := s2.known b z
    rw [u, h9] at v; cases v
  have hW : WkB H (H6.new n9 (mkEnt (Array.toList #[.slice a S.length c, .pointer (some ⟨q1, 0, none⟩), .pointer (some ⟨q2, 0, none⟩)]) 0)) n9 S a c q1 q2 B1 B2 [] [] := by
    refine ⟨(l1.trans l2).trans l3, l1.none (l2.none h9), ⟨_, if_pos rfl, rfl, rd_some rfl fun j v hv => by rw [Nat.zero_add]; simp only [mkEnt, tget_wr_nil]; exact hv⟩, hst, s1.agree fun k e _ z => l3 k e (l2 k e z), s2.agree fun k e _ z => l3 k e z, fun b z => ⟨f1 b z, kn1 b z⟩, fun b z => ⟨l1.none (f2 b z), kn2 b z⟩, fun b z1 z2 => ?_⟩
    obtain ⟨e, v⟩ := s1.known b z1
    rw [f2 b z2] at v; cases v
  refine ⟨rfl, q1, 0, hW.c1, c48 ok hW.s1 hS fun B' H' hs hf => ⟨rfl, c49 ok (hW.set1 hs hf) hS hfl fun H'' B'' hW' => ⟨rfl, hq H'' n9 q1 q2 B'' B2 [] hW'⟩⟩⟩

theorem c13 {S : List St} {a : OA} {c : Nat} {s : ByteArray} {H : KH} {Q : PQ} (hst : SsN H S a) (hS : S.length ≤ 900000) (hfl : ∀ x, (stAt S x).free.length ≤ 1000000) (hs : s.size ≤ 1000000)
    (hq : ∀ H', Le H H' → Q (tupL3 (nfaL S s)) H') : Does (env Try.prog) 13 [.slice a S.length c, .string s] H Q := by
  refine fn13 ok (c29 ok hst hS hfl fun H2 w q1 q2 B1 B2 thn hW => ⟨w, 0, rfl, ?_⟩)
  unfold vc13_L2
  refine ⟨fun n3 s4 x5 x6 b7 n8 n9 x10 x11 H12 => s4 = s ∧ n8 = w ∧ n9 = 0 ∧ x10 = (s.size : Nat) ∧ ∃ (i q1' q2' : Nat) (B1' B2' m thn' : List Nat), x11 = i ∧ i ≤ s.size ∧ n3 = s.size - i ∧ WkB H H12 w S a c q1' q2' B1' B2' m thn' ∧ lgN S s (s.size - i) i m (x5, x6, b7) = nfaL S s, ⟨s.size, rfl, rfl, rfl, rfl, rfl, 0, q1, q2, B1, B2, _, thn, rfl, by omega, rfl, hW, rfl⟩, ?_⟩
  rintro n3 s4 x5 x6 b7 n8 n9 x10 x11 H12 ⟨rfl, rfl, rfl, rfl, i, q1', q2', B1', B2', m, thn', rfl, hi, rfl, hW1, hm⟩
  refine ⟨fun hlt => ?_, fun hge => ?_⟩
  · have hlt : i < s4.size := by have := of_decide_eq_true hlt; omega
    have e0 : Int.toNat ((i : Nat) : Int) = i := by omega
    obtain ⟨f, hf⟩ : ∃ f, s4.size - i = f + 1 := ⟨s4.size - i - 1, by omega⟩
    rw [hf, lgN] at hm
    have hw : IntKind.wrap .i64 (((i : Nat) : Int) + 1) = ((i + 1 : Nat) : Int) := by rw [wrap64 (by omega) (by omega)]; omega
    have hf1 : s4.size - (i + 1) = f := by omega
    rw [e0]
    refine ⟨⟨by omega, by omega⟩, c30 ok hW1 hS hfl fun H' p1 p2 D1 D2 t' hW2 => ⟨rfl, c31 ok hW2 ⟨_, rfl, fun t1 => ?_, fun t1 => ?_⟩⟩⟩
    · rw [if_pos (of_decide_eq_true t1)] at hm
      have := hq H' hW2.le
      rw [← hm] at this
      exact this
    · rw [if_neg (of_decide_eq_false t1)] at hm
      refine c32 ok hW2 hS ⟨_, rfl, fun t2 => ?_, fun t2 => ?_⟩
      · rw [if_pos (of_decide_eq_true t2)] at hm
        exact ⟨f, by omega, rfl, rfl, rfl, rfl, rfl, i + 1, p1, p2, D1, D2, _, t', hw, by omega, hf1.symm, hW2, by rw [hf1]; exact hm⟩
      · rw [if_neg (of_decide_eq_false t2)] at hm
        exact ⟨f, by omega, rfl, rfl, rfl, rfl, rfl, i + 1, p1, p2, D1, D2, _, t', hw, by omega, hf1.symm, hW2, by rw [hf1]; exact hm⟩
  · have hge : i = s4.size := by have := of_decide_eq_false hge; omega
    subst hge
    rw [Nat.sub_self, lgN] at hm
    have := hq H12 hW1.le
    rw [← hm] at this
    exact this
end
end Va
end Go.Proofs.Ytbfemjkknemfeaa
