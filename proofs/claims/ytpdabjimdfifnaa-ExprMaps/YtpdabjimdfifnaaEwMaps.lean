/- The law ExprMaps: what its function answers. -/
import Derived.Test.YtpdabjimdfifnaaEwSize3
import Derived.Test.YtpdabjimdfifnaaEwVc7
set_option linter.unusedVariables false
set_option linter.unusedSimpArgs false
namespace Go.Ew
open Go.Ev Go.Deep Go.Proofs.Ytpdabjimdfifnaa.Va

def keyB (k : Nat) : ByteArray := ⟨#[UInt8.ofNat (97 + k)]⟩

theorem keyB_list (k : Nat) : (keyB k).toList = [UInt8.ofNat (97 + k)] := by rw [ByteArray.toList_eq]; rfl

theorem u8_lt {a b : Nat} (ha : a < 256) (hb : b < 256) : UInt8.ofNat a < UInt8.ofNat b ↔ a < b := by
  rw [UInt8.lt_iff_toNat_lt, UInt8.toNat_ofNat', UInt8.toNat_ofNat', Nat.mod_eq_of_lt ha, Nat.mod_eq_of_lt hb]

theorem u8_eq {a b : Nat} (ha : a < 256) (hb : b < 256) : UInt8.ofNat a = UInt8.ofNat b ↔ a = b := by
  constructor
  · intro h
    have := congrArg UInt8.toNat h
    rw [UInt8.toNat_ofNat', UInt8.toNat_ofNat', Nat.mod_eq_of_lt ha, Nat.mod_eq_of_lt hb] at this
    exact this
  · intro h; rw [h]

theorem key_lt {a b : Nat} (ha : a < 100) (hb : b < 100) : strLt (keyB a) (keyB b) = decide (a < b) := by
  unfold strLt
  rw [keyB_list, keyB_list]
  simp only [Op.bytesLess]
  have h1 := u8_lt (a := 97 + a) (b := 97 + b) (by omega) (by omega)
  have h2 := u8_eq (a := 97 + a) (b := 97 + b) (by omega) (by omega)
  generalize UInt8.ofNat (97 + a) = x at *
  generalize UInt8.ofNat (97 + b) = y at *
  by_cases h : a < b
  · have : x < y := h1.2 (by omega)
    simp [h, this]
  · have : ¬ x < y := fun q => h (by have := h1.1 q; omega)
    have h' : decide (a < b) = false := decide_eq_false h
    rw [h', decide_eq_false this]
    simp

theorem key_eq {a b : Nat} (ha : a < 100) (hb : b < 100) : strEq (keyB a) (keyB b) = decide (a = b) := by
  unfold strEq
  rw [keyB_list, keyB_list]
  have h2 := u8_eq (a := 97 + a) (b := 97 + b) (by omega) (by omega)
  generalize UInt8.ofNat (97 + a) = x at *
  generalize UInt8.ofNat (97 + b) = y at *
  by_cases h : a = b
  · have : x = y := h2.2 (by omega)
    subst this
    simp [h]
  · have : ¬ x = y := fun q => h (by have := h2.1 q; omega)
    simp [h, this]

def pairV (k : Nat) (n : Int) : V := .mk 4 0 emp [strV (keyB k), numV n]

/-- What is known of names. -/
def envL : Nat → List Int → List V
  | _, [] => []
  | k, n :: l => if n = 0 then envL (k + 1) l else pairV k n :: envL (k + 1) l

theorem key_pair {k : Nat} {n : Int} : keyV (pairV k n) = keyB k := rfl

theorem find_lt {s : ByteArray} {y : V} {l : List V} (h : strLt (keyV y) s = true) : findV s (y :: l) = ((findV s l).1 + 1, (findV s l).2) := by simp only [findV, if_pos h]
theorem find_ge {s : ByteArray} {y : V} {l : List V} (h : strLt (keyV y) s = false) : findV s (y :: l) = (0, decide (0 < kidsV y) && strEq (keyV y) s) := by simp only [findV, h, Bool.false_eq_true, if_false]

theorem put_lt {s : ByteArray} {y v : V} {l : List V} (h : strLt (keyV y) s = true) : putV (y :: l) s v = y :: putV l s v := by
  unfold putV
  rw [find_lt h]
  simp only [List.take_succ_cons, List.cons_append]
  split <;> simp

theorem get_lt {s : ByteArray} {y : V} {l : List V} (h : strLt (keyV y) s = true) : getV (y :: l) s = getV l s := by
  unfold getV
  rw [find_lt h]
  simp

theorem env_head : ∀ (k : Nat) (L : List Int) (y : V), (envL k L).head? = some y → ∃ j n, k ≤ j ∧ j < k + L.length ∧ y = pairV j n
  | k, [], y, h => by simp [envL] at h
  | k, n :: l, y, h => by
    rw [envL] at h
    split at h
    · obtain ⟨j, m, h1, h2, h3⟩ := env_head (k + 1) l y h
      exact ⟨j, m, by omega, by simp; omega, h3⟩
    · simp at h
      exact ⟨k, n, by omega, by simp, h.symm⟩

/-- A name ahead of all others. -/
theorem find_front {s : ByteArray} {l : List V} (h : ∀ y, l.head? = some y → strLt (keyV y) s = false ∧ strEq (keyV y) s = false) : findV s l = (0, false) := by
  cases l with
  | nil => rfl
  | cons y l =>
    obtain ⟨h1, h2⟩ := h y rfl
    rw [find_ge h1, h2]
    simp

theorem front_env {k j : Nat} {L : List Int} (hj : j < k) (hk : k + L.length < 100) : findV (keyB j) (envL k L) = (0, false) := find_front fun y hy => by
  obtain ⟨i, n, h1, h2, rfl⟩ := env_head k L y hy
  rw [key_pair, key_lt (by omega) (by omega), key_eq (by omega) (by omega)]
  exact ⟨decide_eq_false (by omega), decide_eq_false (by omega)⟩

theorem find_same {k : Nat} {n : Int} {l : List V} (hk : k < 100) : findV (keyB k) (pairV k n :: l) = (0, true) := by
  rw [find_ge (by rw [key_pair, key_lt hk hk]; simp), key_pair, key_eq hk hk]
  simp [kidsV, pairV]

theorem env_put {v : Int} (hv : v ≠ 0) : ∀ (k i : Nat) (L : List Int), i < L.length → k + L.length < 100 → putV (envL k L) (keyB (k + i)) (numV v) = envL k (L.set i v)
  | k, i, [], hi, _ => by simp at hi
  | k, 0, n :: l, hi, hk => by
    have hl : (k + 1) + l.length < 100 := by simp at hk; omega
    show putV (envL k (n :: l)) (keyB k) (numV v) = envL k ((n :: l).set 0 v)
    rw [List.set_cons_zero, envL, envL, if_neg hv]
    split
    · unfold putV
      rw [front_env (by omega) hl]
      simp [pairV]
    · unfold putV
      rw [find_same (by omega)]
      simp [pairV]
  | k, i + 1, n :: l, hi, hk => by
    have hl : (k + 1) + l.length < 100 := by simp at hk; omega
    have hi' : i < l.length := by simpa using hi
    have ih := env_put hv (k + 1) i l hi' hl
    have e : k + (i + 1) = k + 1 + i := by omega
    rw [List.set_cons_succ, envL, envL, e]
    split
    · exact ih
    · rw [put_lt (by rw [key_pair, key_lt (by omega) (by omega)]; exact decide_eq_true (by omega)), ih]

theorem env_find : ∀ (k i : Nat) (L : List Int) (n : Int), L[i]? = some n → k + L.length < 100 → (findV (keyB (k + i)) (envL k L)).2 = decide (n ≠ 0) ∧ getV (envL k L) (keyB (k + i)) = if n = 0 then badV 7 else numV n
  | k, i, [], n, hi, _ => by simp at hi
  | k, 0, m :: l, n, hi, hk => by
    have hl : (k + 1) + l.length < 100 := by simp at hk; omega
    simp at hi
    subst hi
    show (findV (keyB k) (envL k (m :: l))).2 = decide (m ≠ 0) ∧ getV (envL k (m :: l)) (keyB k) = if m = 0 then badV 7 else numV m
    rw [envL]
    split
    · rename_i h0
      have hf := front_env (k := k + 1) (j := k) (L := l) (by omega) hl
      refine ⟨by rw [hf]; simp [h0], ?_⟩
      unfold getV
      rw [hf]
      simp
    · rename_i h0
      have hf := find_same (k := k) (n := m) (l := envL (k + 1) l) (by omega)
      refine ⟨by rw [hf]; simp [h0], ?_⟩
      unfold getV
      rw [hf]
      simp [sndV, pairV, kidsL]
  | k, i + 1, m :: l, n, hi, hk => by
    have hl : (k + 1) + l.length < 100 := by simp at hk; omega
    have hi' : l[i]? = some n := by simpa using hi
    have hil : i < l.length := by
      rcases Nat.lt_or_ge i l.length with q | q
      · exact q
      · rw [List.getElem?_eq_none q] at hi'; cases hi'
    have ih := env_find (k + 1) i l n hi' hl
    have e : k + (i + 1) = k + 1 + i := by omega
    rw [envL, e]
    split
    · exact ih
    · have hlt : strLt (keyV (pairV k m)) (keyB (k + 1 + i)) = true := by rw [key_pair, key_lt (by omega) (by omega)]; exact decide_eq_true (by omega)
      rw [find_lt hlt, get_lt hlt]
      exact ih

theorem env_len {v : Int} (hv : v ≠ 0) : ∀ (k i : Nat) (L : List Int) (n : Int), L[i]? = some n → (envL k (L.set i v)).length = (envL k L).length + (if n = 0 then 1 else 0)
  | k, i, [], n, hi => by simp at hi
  | k, 0, m :: l, n, hi => by
    simp at hi
    subst hi
    rw [List.set_cons_zero, envL, envL, if_neg hv]
    split <;> simp
  | k, i + 1, m :: l, n, hi => by
    have ih := env_len hv (k + 1) i l n (by simpa using hi)
    rw [List.set_cons_succ, envL, envL]
    split
    · exact ih
    · simp only [List.length_cons, ih]; omega

theorem env_sz : ∀ (k : Nat) (L : List Int), szL (envL k L) ≤ 3 * L.length
  | k, [] => by simp [envL, szL]
  | k, n :: l => by
    have ih := env_sz (k + 1) l
    rw [envL]
    split
    · simp only [List.length_cons]; omega
    · have hk : (keyB k).size = 1 := rfl
      have : szV (pairV k n) = 3 := by simp only [pairV, szV, szL, strV, numV, emp_sz, hk]
      simp only [szL, List.length_cons, this]; omega

def mapV (L : List Int) : V := .mk 6 0 emp (envL 0 L)

theorem sz_map {L : List Int} (h : L.length = 4) : szV (mapV L) ≤ 60 := by
  have := env_sz 0 L
  simp only [mapV, szV, emp_sz]; omega

theorem ok_str {k : Nat} : Ok (strV (keyB k)) := ⟨by show 1 + 1 / 16 + 0 ≤ 60; decide, fit_str⟩

theorem eval_put {d : Nat} {e : Ex} {L : List Int} {i : Nat} {v : Int} (he : evalE [] [] (d + 1) e = mapV L) (hL : L.length = 4) (hi : i < 4) (hv : v ≠ 0) : evalE [] [] (d + 2) (opE 16 [e, conE (strV (keyB i)), conE (numV v)]) = mapV (L.set i v) := by
  rw [opE, evalE, if_neg (by simp [takesB]), if_neg (by decide), if_neg (by decide), if_neg (by decide), if_neg (by decide), if_neg (by decide)]
  have h1 : evalE [] [] (d + 1) (conE (strV (keyB i))) = strV (keyB i) := eval_con ok_str
  have h2 : evalE [] [] (d + 1) (conE (numV v)) = numV v := eval_con (ok_num v)
  have h3 : reckonV 16 [mapV L, strV (keyB i), numV v] = mapV (L.set i v) := by
    have hp := env_put hv 0 i L (by omega) (by omega)
    rw [Nat.zero_add] at hp
    unfold mapV
    rw [← hp]
    simp [reckonV, kV, strV, kidsL, sV]
  have k1 : ¬ kV (mapV L) = 7 := by show ¬ (6 : Int) = 7; decide
  have k2 : ¬ kV (strV (keyB i)) = 7 := by show ¬ (3 : Int) = 7; decide
  have k3 : ¬ kV (numV v) = 7 := by show ¬ (1 : Int) = 7; decide
  have h4 : smallV (mapV (L.set i v)) = mapV (L.set i v) := small_le (sz_map (by simp [hL]))
  simp only [List.map_cons, List.map_nil, he, h1, h2]
  simp [allV, k1, k2, k3, h3, h4]

theorem eval_get {L : List Int} {i : Nat} {n : Int} (hm : Ok (mapV L)) (hL : L.length = 4) (hn : L[i]? = some n) : evalE [] [] 12 (opE 17 [conE (mapV L), conE (strV (keyB i))]) = (if n = 0 then badV 7 else numV n) ∧ evalE [] [] 12 (opE 18 [conE (mapV L), conE (strV (keyB i))]) = truV (decide (n ≠ 0)) := by
  have h1 : evalE [] [] 11 (conE (strV (keyB i))) = strV (keyB i) := eval_con ok_str
  have h2 : evalE [] [] 11 (conE (mapV L)) = mapV L := eval_con hm
  have hf := env_find 0 i L n hn (by omega)
  rw [Nat.zero_add] at hf
  have k1 : ¬ kV (mapV L) = 7 := by show ¬ (6 : Int) = 7; decide
  have k2 : ¬ kV (strV (keyB i)) = 7 := by show ¬ (3 : Int) = 7; decide
  constructor
  · rw [eval_two (by decide) (by decide) (by decide), h1, h2]
    have h3 : reckonV 17 [mapV L, strV (keyB i)] = getV (envL 0 L) (keyB i) := by simp [reckonV, t17, mapV, kV, strV, kidsL, sV]
    have h4 : smallV (if n = 0 then badV 7 else numV n) = (if n = 0 then badV 7 else numV n) := small_le (sz_ite (fun _ => by rw [sz_bad]; decide) fun _ => (ok_num n).sz)
    simp only [allV, List.find?_cons, decide_eq_false k1, decide_eq_false k2, List.find?_nil, h3, hf.2, h4]
  · rw [eval_two (by decide) (by decide) (by decide), h1, h2]
    have h3 : reckonV 18 [mapV L, strV (keyB i)] = truV (findV (keyB i) (envL 0 L)).2 := by simp [reckonV, t18, mapV, kV, strV, kidsL, sV]
    simp only [allV, List.find?_cons, decide_eq_false k1, decide_eq_false k2, List.find?_nil, h3, hf.1, small_ok (ok_tru _)]

theorem may_ok' {v : V} (h : Ok v) : (decide (szV v ≤ 60) && fitV v) = true := by rw [decide_eq_true h.sz, h.fit]; rfl

/-- Pairs of small numbers lie there. -/
def U82 (K : KH) (a : Option Addr) (n : Nat) : Prop := ∀ i, i < n → ∃ b o x y, a = some ⟨b, o, none⟩ ∧ ld K ⟨b, o + i * 2, none⟩ [.int .u8 x, .int .u8 y] ∧ 0 ≤ x ∧ x ≤ 255 ∧ 0 ≤ y ∧ y ≤ 255

theorem bytes_one {x : Int} : bytesOfCells [.int .u8 x] = some [UInt8.ofNat x.toNat] := rfl

theorem key_of {x : Int} (h0 : 0 ≤ x) (h1 : x < 4) : (ByteArray.mk (List.toArray [UInt8.ofNat (IntKind.wrap .u8 (IntKind.wrap .i64 (97 + x))).toNat])) = keyB x.toNat := by
  rw [wrap64 (by omega) (by omega), IntWalk.u8_in _ (by omega)]
  have : (97 + x).toNat = 97 + x.toNat := by omega
  rw [this]
  rfl

/-- Four numbers that are kept. -/
def four (L : List Int) : List Value := L.map fun n => .int .i64 n

theorem four_set {L : List Int} {i : Nat} {v : Int} (h : i < L.length) : (four L).take i ++ [.int .i64 v] ++ (four L).drop (i + 1) = four (L.set i v) := by
  unfold four
  rw [← List.map_take, ← List.map_drop, List.set_eq_take_append_cons_drop, if_pos h, List.map_append, List.map_cons, List.append_assoc]
  rfl

theorem four_at {H : KH} {p : Nat} {L : List Int} {i : Nat} {n : Int} (h : ld H ⟨p, 0, none⟩ (four L)) (hn : L[i]? = some n) : ld H ⟨p, 0 + i * 1, none⟩ [.int .i64 n] := by
  have hi : i < L.length := by
    rcases Nat.lt_or_ge i L.length with q | q
    · exact q
    · rw [List.getElem?_eq_none q] at hn; cases hn
  have h2 := ld_sub h i 1 (by simp [four]; omega)
  have e : ((four L).drop i).take 1 = [.int .i64 n] := by
    have hi' : i < (four L).length := by simp [four]; exact hi
    rw [List.drop_eq_getElem_cons hi']
    have : (four L)[i] = .int .i64 n := by
      rw [List.getElem?_eq_getElem hi] at hn
      simp only [four, List.getElem_map, Option.some.inj hn]
    rw [this]
    rfl
  rw [e] at h2
  rw [Nat.mul_one]
  exact h2
end Go.Ew

namespace Go.Proofs.Ytpdabjimdfifnaa
open Go.Ev Go.Ew
namespace Va
section
variable (ok : EnvOk (env Try.prog))
include ok

theorem l4 {L : List Int} {p : Nat} {a : Option Addr} {n c : Nat} {H : KH} {Q : Value → KH → Prop} (hL : L.length = 4) (hpos : ∀ n ∈ L, 0 ≤ n) (hm : Ok (mapV L)) (hr : RV H (mapV L) [.int .i64 6, .int .i64 0, .string emp, .slice a n c]) (hp : ld H ⟨p, 0, none⟩ (four L)) (hq : ∀ H', Q (.bool true) H') : vc4_L4 p 0 6 0 emp a n c H Q := by
  unfold vc4_L4
  refine ⟨fun n3 n4 n5 x6 x7 s8 a9 n10 n11 x12 H13 => n4 = p ∧ n5 = 0 ∧ x6 = 6 ∧ x7 = 0 ∧ s8 = emp ∧ a9 = a ∧ n10 = n ∧ n11 = c ∧ ∃ i : Nat, x12 = i ∧ i ≤ 4 ∧ n3 = 4 - i ∧ Le H H13, ⟨4, rfl, rfl, rfl, rfl, rfl, rfl, rfl, rfl, rfl, 0, rfl, by omega, rfl, Le.refl _⟩, ?_⟩
  rintro n3 n4 n5 x6 x7 s8 a9 n10 n11 x12 H13 ⟨rfl, rfl, rfl, rfl, rfl, rfl, rfl, rfl, i, rfl, hi, rfl, hle⟩
  refine ⟨fun hlt n1 hn1 => ?_, fun _ => hq _⟩
  have hlt : i < 4 := by have := of_decide_eq_true hlt; omega
  obtain ⟨v, hv⟩ : ∃ v, L[i]? = some v := ⟨L[i], by simp [hL, hlt]⟩
  have hv0 : 0 ≤ v := hpos v (List.mem_of_getElem? hv)
  obtain ⟨g1, g2⟩ := eval_get hm hL hv
  have hkey := key_of (x := (i : Int)) (by omega) (by omega)
  rw [Int.toNat_natCast] at hkey
  have le1 := Le.new hn1 (e := mkEnt [.int .u8 (IntKind.wrap .u8 (IntKind.wrap .i64 (97 + (i : Int))))] 0)
  refine ⟨_, _, lit_kold (if_pos rfl) rfl, bytes_one, ?_⟩
  rw [hkey]
  generalize H13.new n1 (mkEnt [.int .u8 (IntKind.wrap .u8 (IntKind.wrap .i64 (97 + (i : Int))))] 0) = H1 at *
  have szm : szV (mapV L) ≤ 20000 := by have := hm.sz; omega
  have ek : ∀ K : KH, RE K (conE (strV (keyB i))) [.int .i64 0, .int .i64 3, .int .i64 0, .string (keyB i), .slice none 0 0, .int .i64 0, .int .i64 0, .slice none 0 0] := fun K => ⟨_, _, _, _, _, _, none, 0, rfl, leaf, trivial⟩
  have em : ∀ K : KH, Le H K → RE K (conE (mapV L)) [.int .i64 0, .int .i64 6, .int .i64 0, .string emp, .slice a9 n10 n11, .int .i64 0, .int .i64 0, .slice none 0 0] := fun K hK => ⟨_, _, _, _, _, _, none, 0, rfl, hr.mono hK, trivial⟩
  have sz2 : SzEs [conE (mapV L), conE (strV (keyB i))] := ⟨⟨szm, trivial⟩, ⟨by have := (ok_str (k := i)).sz; show szV (strV (keyB i)) ≤ 20000; omega, trivial⟩, trivial⟩
  refine fn8 ok ⟨_, _, _, _, _, _, _, _, _, _, _, _, rfl, trivial, fn8 ok ⟨_, _, _, _, _, _, _, _, _, _, _, _, rfl, ⟨rfl, trivial⟩, fun n2 hn2 => fn7 ok ⟨_, _, _, _, _, _, _, _, _, _, _, _, rfl, trivial, ?_⟩⟩⟩
  have le2 := Le.new hn2 (e := mkEnt ([.int .i64 0, .int .i64 6, .int .i64 0, .string emp, .slice a9 n10 n11, .int .i64 0, .int .i64 0, .slice none 0 0] ++ [.int .i64 0, .int .i64 3, .int .i64 0, .string (keyB i), .slice none 0 0, .int .i64 0, .int .i64 0, .slice none 0 0]) 0)
  have hleA := hle.trans (le1.trans le2)
  refine ev0 ok (e := opE 17 [conE (mapV L), conE (strV (keyB i))]) (re_opE (res_lit (if_pos rfl) (rc2 (em _ hleA) (ek _)))) (sz_opE sz2) fun c1 H2 le3 r1 => ?_
  rw [g1] at r1
  have hleB := hleA.trans le3
  generalize hg : (if v = 0 then badV 7 else numV v) = g at r1
  obtain ⟨kg, ig, sg, lg⟩ := g
  obtain ⟨a1, m1, c1', rfl, rfl, _, _⟩ := r1
  refine ⟨_, _, _, _, _, _, rfl, trivial, trivial, trivial, fn8 ok ⟨_, _, _, _, _, _, _, _, _, _, _, _, rfl, ⟨rfl, trivial⟩, fun n3 hn3 => fn7 ok ⟨_, _, _, _, _, _, _, _, _, _, _, _, rfl, trivial, ?_⟩⟩⟩
  have le4 := Le.new hn3 (e := mkEnt ([.int .i64 0, .int .i64 6, .int .i64 0, .string emp, .slice a9 n10 n11, .int .i64 0, .int .i64 0, .slice none 0 0] ++ [.int .i64 0, .int .i64 3, .int .i64 0, .string (keyB i), .slice none 0 0, .int .i64 0, .int .i64 0, .slice none 0 0]) 0)
  refine ev0 ok (e := opE 18 [conE (mapV L), conE (strV (keyB i))]) (re_opE (res_lit (if_pos rfl) (rc2 (em _ (hleB.trans le4)) (ek _)))) (sz_opE sz2) fun c2 H3 le5 r2 => ?_
  rw [g2] at r2
  obtain ⟨a2, m2, c2', rfl, rfl, _, _⟩ := r2
  have hleC := hleB.trans (le4.trans le5)
  have hld := four_at (hleC.ld hp) hv
  have fin : ∃ k, k < 4 - i ∧ (none : Option Nat) = none ∧ (n4 = n4 ∧ 0 = 0 ∧ (6 : Int) = 6 ∧ (0 : Int) = 0 ∧ emp = emp ∧ a9 = a9 ∧ n10 = n10 ∧ n11 = n11 ∧ ∃ j : Nat, IntKind.wrap .i64 ((i : Int) + 1) = j ∧ j ≤ 4 ∧ k = 4 - j ∧ Le H H3) :=
    ⟨4 - (i + 1), by omega, rfl, rfl, rfl, rfl, rfl, rfl, rfl, rfl, rfl, i + 1, by rw [wrap64 (by omega) (by omega)]; omega, by omega, rfl, hleC⟩
  refine ⟨_, _, _, _, _, _, rfl, trivial, trivial, trivial, ⟨by omega, by omega⟩, rfl, v, hld, fun h0 => ?_, fun h0 => ?_⟩
  · have h0 : v = 0 := by simpa using h0
    rw [if_pos h0] at hg
    cases hg
    refine ⟨fun h => by simp at h, fun _ => ⟨fun h => by simp at h, fun _ => ⟨fun h => by simp [h0] at h, fun _ => ⟨⟨by omega, by omega⟩, rfl, v, hld, fun h => ?_, fun _ => fin⟩⟩⟩⟩
    have : 0 < v := by simpa using h
    omega
  · have h0 : ¬ v = 0 := by simpa using h0
    rw [if_neg h0] at hg
    cases hg
    exact ⟨⟨by omega, by omega⟩, rfl, v, hld, fun _ => ⟨fun h => by simp at h, fun _ => ⟨⟨by omega, by omega⟩, rfl, v, hld, fun h => by simp at h, fun _ => ⟨fun h => by simp [h0] at h, fun _ => fin⟩⟩⟩, fun _ => fin⟩

theorem j4 {L : List Int} {p : Nat} {e : Ex} {x1 x2 x3 x8 x9 : Int} {s4 : ByteArray} {a5 a10 : Option Addr} {n6 n7 n11 n12 : Nat} {H : KH} {Q : Value → KH → Prop} (hL : L.length = 4) (hpos : ∀ n ∈ L, 0 ≤ n) (hre : RE H e [.int .i64 x1, .int .i64 x2, .int .i64 x3, .string s4, .slice a5 n6 n7, .int .i64 x8, .int .i64 x9, .slice a10 n11 n12]) (hse : SzE e) (he : evalE [] [] 12 e = mapV L) (hp : ld H ⟨p, 0, none⟩ (four L)) (hq : ∀ H', Q (.bool true) H') :
    vc4_J5 x1 x2 x3 s4 a5 n6 n7 x8 x9 a10 n11 n12 H Q ((envL 0 L).length : Nat) p 0 := by
  have hm : Ok (mapV L) := by rw [← he]; exact ok_eval [] [] 12 e
  refine ev0 ok hre hse fun c1 H1 le1 r1 => ?_
  rw [he] at r1
  have r1' := r1
  obtain ⟨a1, m1, c1', rfl, rfl, _, _⟩ := r1
  refine ⟨_, _, _, _, _, _, rfl, fun h => by simp at h, fun _ => c11 ok 60 _ _ H1 _ hm.sz (by omega) r1' ⟨_, rfl, fun h => ?_, fun _ => ⟨fun h => by simp at h, fun _ => l4 ok hL hpos hm r1' (le1.ld hp) hq⟩⟩⟩
  rw [may_ok' hm] at h
  cases h
end
end Va
end Go.Proofs.Ytpdabjimdfifnaa
