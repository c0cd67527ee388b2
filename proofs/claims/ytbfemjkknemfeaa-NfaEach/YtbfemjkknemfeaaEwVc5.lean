/- What is to be shown of functions of the program, read off their code. -/
import Derived.Test.YtbfemjkknemfeaaEwVc1
import Derived.Test.YtbfemjkknemfeaaEwS4
import Derived.Test.YtbfemjkknemfeaaEwLib
set_option linter.unusedVariables false
set_option maxRecDepth 100000
namespace Go.Proofs.Ytbfemjkknemfeaa
open Go.Ev Go.Ew
namespace Va

/- lemmata/lemmatalaw4.NfaEach -/
def W4 (P : Program) : WE := ⟨env P, tupT, [], mkTab [(0, [.tmp 5 .slice, .tmp 6 .str, .tmp 7 (.int .i64), .tmp 8 (.int .i64), .tmp 9 (.int .i64)])], 4⟩
def vc4_L2 (y1 : OA) (y2 y3 : Nat) (y4 : ByteArray) (y5 : KH) (y6 : PQ) : Prop :=
  (∃ (i : (Nat → OA → Nat → Nat → ByteArray → Int → Int → Int → KH → Prop)), (∃ (ad : Nat), i ad y1 y2 y3 y4 0 0 0 y5) ∧ ∀ (m : Nat) (e : (OA)) (c f : Nat) (g : ByteArray) (n a b : Int) (j : KH), i m e c f g n a b j → (decide (b < (c : Int)) = true → ∃ (r : (OA)) (s t : Nat), ((kslice j 1 e c f (some (.int .i64 b)) (some (.int .i64 (IntKind.wrap .i64 (b + 1))))) : (Option Value)) = (some (.slice r s t)) ∧ Does (env Try.prog) 11 [(.slice r s t)] j fun ae af => ∃ (u : (OA)) (v w : Nat), ae = (.slice u v w) ∧ Does (env Try.prog) 13 [.slice u v w, .string g] af fun ag k => ∃ (o d : Int) (p : Bool), ag = (.tuple #[.int .i64 o, .int .i64 d, .bool p]) ∧ (((!(p == (decide ((0 : Int) < d)))) : Bool) = true → y6 (.bool false) k) ∧ (((!(p == (decide ((0 : Int) < d)))) : Bool) = false → (decide (o ≠ 0) = true → y6 (.bool false) k) ∧ (decide (o ≠ 0) = false → (decide (a < d) = true → ∃ (x : Nat), (x : Nat) < m ∧ i x e c f g b d (IntKind.wrap .i64 (b + 1)) k) ∧ (decide (a < d) = false → ∃ (y : Nat), (y : Nat) < m ∧ i y e c f g n a (IntKind.wrap .i64 (b + 1)) k)))) ∧ (decide (b < (c : Int)) = false → Does (env Try.prog) 11 [(.slice e c f)] j fun ah ai => ∃ (z : (OA)) (aa ab : Nat), ah = (.slice z aa ab) ∧ Does (env Try.prog) 13 [.slice z aa ab, .string g] ai fun aj l => ∃ (ac q : Int) (h : Bool), aj = (.tuple #[.int .i64 ac, .int .i64 q, .bool h]) ∧ (decide (q = a) = true → (((h == (decide ((0 : Int) < a))) : Bool) = true → ((!h) = true → y6 (.bool true) l) ∧ ((!h) = false → y6 (.bool (decide (ac = n))) l)) ∧ (((h == (decide ((0 : Int) < a))) : Bool) = false → y6 (.bool false) l)) ∧ (decide (q = a) = false → y6 (.bool false) l)))
def vc4 (p0 : OA) (p0n p0c : Nat) (p1 : OA) (p1n p1c : Nat) (H : KH) (Q : PQ) : Prop :=
  Does (env Try.prog) 9 [] H fun g a => ∃ (b : Bool), g = (.bool b) ∧ ((!b) = true → Q (.bool false) a) ∧ ((!b) = false → (decide ((60 : Int) < (p0n : Int)) = true → Q (.bool true) a) ∧ (decide ((60 : Int) < (p0n : Int)) = false → (decide ((15 : Int) < (p1n : Int)) = true → Q (.bool true) a) ∧ (decide ((15 : Int) < (p1n : Int)) = false → Does (env Try.prog) 10 [(.slice p0 p0n p0c)] a fun h i => ∃ (c : (OA)) (d e : Nat), h = (.slice c d e) ∧ Does (env Try.prog) 12 [(.slice p1 p1n p1c)] i fun j k => ∃ (f : ByteArray), j = (.string f) ∧ vc4_L2 c d e f k Q)))
theorem fn4 (ok : EnvOk (env Try.prog)) {p0 : OA} {p0n p0c : Nat} {p1 : OA} {p1n p1c : Nat} {H : KH} {Q : PQ} (h : vc4 p0 p0n p0c p1 p1n p1c H Q) : Does (env Try.prog) 4 [.slice p0 p0n p0c, .slice p1 p1n p1c] H Q :=
  wFun_sound (W := W4 Try.prog) ok.tt (blt_lt (by kernel_rfl)) (ff_of ok (by kernel_rfl) Try.func4) (Eq.mpr (by kernel_rfl) h)

end Va
end Go.Proofs.Ytbfemjkknemfeaa
