/- The law ValSets: what its function answers. -/
import Derived.Test.YtlemdiinmfneoaaGreatEwIns1
set_option linter.unusedVariables false
set_option linter.unusedSimpArgs false
namespace Go.Ew
open Go.Ev Go.Deep Go.Proofs.YtlemdiinmfneoaaGreat.Va

/-- Rows of small numbers lie there. -/
def U8s (K : KH) (a : OA) (n : Nat) : Prop := ∀ i, i < n → ∃ b o a' n' c', a = some ⟨b, o, none⟩ ∧ ld K ⟨b, o + i, none⟩ [.slice a' n' c'] ∧ U8 K a' n'

end Go.Ew

namespace Go.Proofs.YtlemdiinmfneoaaGreat
open Go.Ev Go.Ew
namespace Va
section
variable (ok : EnvOk (env Tryz.prog))
include ok

theorem c55 {l : List V} {x : V} {a : OA} {c : Nat} {cx : List Value} {H : KH} {Q : PQ} (hl : RS H l a) (hok : SlOk H 4 a l.length c) (hs : Srt l) (hx : RV H x cx) (h1 : szL l ≤ 20000) (h2 : szV x ≤ 20000)
    (hq : ∀ a' c' H', Row H H' (insV x l) a' c' → Q (.slice a' (insV x l).length c') H') : Does (env Tryz.prog) 55 [.slice a l.length c, .agg cx.toArray] H Q := by
  have hx' := hx
  obtain ⟨k, i, s, lx⟩ := x
  obtain ⟨ax, nx, cx, rfl, rfl, hlx, hokx⟩ := hx
  generalize hxv : V.mk k i s lx = x at *
  have hll := len_szL l
  have hw : RV H (.mk 0 0 (ByteArray.mk #[]) l) [.int .i64 0, .int .i64 0, .string (ByteArray.mk #[]), .slice a l.length c] := ⟨a, _, c, rfl, rfl, hl, hok⟩
  have hws : szV (.mk 0 0 (ByteArray.mk #[]) l) ≤ 60000 := by
    have : (ByteArray.mk #[]).size = 0 := rfl
    simp only [szV, this]; omega
  obtain ⟨p, hp, p1, p2, p3, p4⟩ := ins_place x l hs
  have hsz := szL_ins x l
  refine fn55 ok (c73 ok hw hws ⟨false, rfl, fun h => (by cases h), fun _ => c73 ok hx' (by omega) ⟨false, rfl, fun h => (by cases h), fun _ => ?_⟩⟩)
  have fin : ∀ (m : List V), insV x l = m → ∀ a' c' H', Row H H' m a' c' → ∃ a3 n4 n5, Value.slice a' m.length c' = .slice a3 n4 n5 ∧ Does (env Tryz.prog) 74 [.slice a3 n4 n5] H' fun v6 H7 => ∃ a8 n9 n10, v6 = .slice a8 n9 n10 ∧ Q (.slice a8 n9 n10) H7 := by
    intro m hm a' c' H' hR
    refine ⟨a', _, c', rfl, c74 ok 60000 m a' c' H' _ (by rw [← hm]; omega) (Nat.le_refl _) hR.row fun a2 c2 H2 hR2 => ⟨a2, _, c2, rfl, ?_⟩⟩
    have := hq a2 c2 H2 (by rw [hm]; exact ⟨hR.le.trans hR2.le, hR2.row, hR2.cut⟩)
    rw [hm] at this
    exact this
  refine c76 ok (f := fun v => cmpV v x) hl hok (by omega) hx' (fun v hv cv Q' hrv hQ' => c75 ok 60000 v x cv _ H Q' ?_ (by omega) (by omega) hrv hx' hQ') hp p1 p2 (fun hv a' c' H' hR => fin l (p3 hv) a' c' H' hR) (fun hv a' c' H' hR => fin _ (p4 hv) a' c' H' hR)
  have := mem_szL hv
  omega

omit ok in
/-- The elements in memory. -/
theorem elem {H : KH} {l : List V} {a : OA} (hl : RS H l a) {j : Nat} (hj : j < l.length) : ∃ b o, a = some ⟨b, o, none⟩ ∧ ∃ k i s ax nx cx, ld H ⟨b, o + j * 4, none⟩ [.int .i64 k, .int .i64 i, .string s, .slice ax nx cx] ∧ RV H l[j] [.int .i64 k, .int .i64 i, .string s, .slice ax nx cx] := by
  obtain ⟨b, o, ha, cy, hld, hrv⟩ := RS.get hl (show l[j]? = some l[j] by simp [hj])
  have hrv' := hrv
  generalize hyv : l[j] = y at *
  obtain ⟨k1, i1, s1, ly⟩ := y
  obtain ⟨ay, ny, cy', rfl, rfl, hsy, hoy⟩ := hrv
  exact ⟨b, o, ha, k1, i1, s1, ay, ly.length, cy', hld, hrv'⟩
end
end Va
end Go.Proofs.YtlemdiinmfneoaaGreat
