import Derived.Test.YtfhjkkbaghanhaaGreatRows
import Derived.Shelf.Strings.Builder1
import Derived.Test.YtfhjkkbaghanhaaGreatEvMain
import Derived.Test.YtfhjkkbaghanhaaGreatEwEnv
import Derived.Test.YtfhjkkbaghanhaaGreatEwS4
import Derived.Carry
namespace Go.Proofs.YtfhjkkbaghanhaaGreat
open Go.Shelf Go.RowKit
set_option maxHeartbeats 1000000 in
set_option maxRecDepth 100000 in
theorem ccUsed (b:Nat) (w:World) (h0:w.cell? ⟨b,0,none⟩=some (.pointer (some ⟨b,0,none⟩))) :
 Calls Tryz.prog 64 #[.pointer (some ⟨b,0,none⟩)] w fun e w'=>e = .returned (.tuple #[])/\w'=w:=by
 obtain ⟨j,hj,_⟩:∃ j,Tryz.prog.info? 115=some j/\j.size=2:=Option.map_eq_some_iff.1 (by kernel_rfl)
 go_enter Tryz.func64,Tryz.ntmps64
 go_wp2
 rw [Lib.run_neq_ptr_same w _ Tryz.underlying113 hj]
 go_wp2
 go_end0
 exact ⟨rfl,rfl⟩
set_option maxHeartbeats 1000000 in
set_option maxRecDepth 100000 in
theorem ccFresh (b:Nat) (w:World) (h0:w.cell? ⟨b,0,none⟩=some (.pointer none)) (hsh:w.shape? b=some (115,2)) (hfz:w.frozen? ⟨b,0,none⟩=false) :
 Calls Tryz.prog 64 #[.pointer (some ⟨b,0,none⟩)] w fun e w'=>e = .returned (.tuple #[])/\w'=w.setCell ⟨b,0,none⟩ (.pointer (some ⟨b,0,none⟩)):=by
 obtain ⟨j,hj,hjs⟩:∃ j,Tryz.prog.info? 115=some j/\j.size=2:=Option.map_eq_some_iff.1 (by kernel_rfl)
 go_enter Tryz.func64,Tryz.ntmps64
 go_wp2
 rw [Lib.run_to_unsafe w ⟨b,0,none⟩ Tryz.underlying113 Tryz.underlying175 hj (by rw [hjs]; decide) hsh (Nat.zero_lt_succ 1)]
 simp only [Result.andThen]
 rw [Oper.upon_value]
 go_wp2
 rw [run_callFunc_extern Tryz.func83 (by kernel_rfl) (by kernel_rfl) (by kernel_rfl) (e:=Extern.AbiNoEscape.same) (by kernel_rfl)]
 rw [Lib.run_noEscape]
 simp only [Result.andThen]
 rw [Oper.upon_value]
 go_wp2
 rw [Lib.run_from_unsafe w ⟨b,0,none⟩ Tryz.underlying175 Tryz.underlying113 hj hsh (by kernel_rfl)]
 simp only [Result.andThen]
 rw [Oper.upon_value]
 go_wp2
 go_end0
 exact ⟨rfl,rfl⟩
theorem ccAny (B b:Nat) (bs:List Value) (w:World) (h:Lib.IsBuilder 115 5 B b bs w) :
 Calls Tryz.prog 64 #[.pointer (some ⟨b,0,none⟩)] w fun e w'=>e = .returned (.tuple #[])/\(Lib.BuilderAt 115 5 B b (.pointer (some ⟨b,0,none⟩)) bs w'/\Below B w w'):=by
 rcases h with h | h
 .refine (ccFresh b w h.cell0 h.shape h.frozen0).mono ?_
  rintro e w' ⟨rfl,rfl⟩
  exact ⟨rfl,h.used _,(Below.refl B w).setCell (p:=⟨b,0,none⟩) h.1 _⟩
 .refine (ccUsed b w h.cell0).mono ?_
  rintro e w' ⟨rfl,rfl⟩
  exact ⟨rfl,h,Below.refl B _⟩
set_option maxHeartbeats 2000000 in
set_option maxRecDepth 100000 in
theorem wrStr (B b:Nat) (bs:List Value) (s:ByteArray) (w:World) (h:Lib.IsBuilder 115 5 B b bs w) (hlen:bs.length+s.size<=140737488355328) (hBw:B<=w.heap.size) :
 Calls Tryz.prog 39 #[.pointer (some ⟨b,0,none⟩),.string s] w fun e w'=>e = .returned (.tuple #[.int .i64 s.size,.nilIface])/\(Lib.BuilderAt 115 5 B b (.pointer (some ⟨b,0,none⟩)) (bs++Lib.strCells s) w'/\Below B w w'):=by
 obtain ⟨i0,hi,hz0,hz1,hz2⟩:=info_parts (show (Tryz.prog.info? 5).map (fun i=>(i.zero,i.size,i.bytes))=some (some (.int .u8 0),1,1) by kernel_rfl)
 go_enter Tryz.func39,Tryz.ntmps39
 go_wp2_with (go_at_call 64; refine (ccAny B b bs _ h).mono ?_)
 rintro e w1 ⟨rfl,h1,hb1⟩
 obtain ⟨hB,v,hbk,hown,hne⟩:=h1
 have c0:w1.cell? ⟨b,0,none⟩=some (.pointer (some ⟨b,0,none⟩)):=by rw [Lib.cell_of_heap hbk]; rfl
 have c1:w1.cell? ⟨b,1,none⟩=some v:=by rw [Lib.cell_of_heap hbk]; rfl
 go_wp2_with (at_builtin; refine Lib.wpList_append_own_string _ rfl _ _ 22 9 rfl B 5 i0 Tryz.underlying22 Tryz.underlying9 hi hz0 hz1 hz2 _ _ _ rfl hown s rfl ?c3 ?c4 ?c5 ?_)
 case c3=>unfold maxLen; omega
 case c4=>omega
 case c5=>have:=hb1.size; omega
 intro v' w2 hown' hgrow _
 have hlt:b<w1.heap.size:=by
  rcases Nat.lt_or_ge b w1.heap.size with h' | h'
  .exact h'
  .simp [Array.getElem?_eq_none h'] at hbk
 have hb2:w2.heap[b]? = some (.cells #[.pointer (some ⟨b,0,none⟩),v] 115 (0,0)):=by
  rw [hgrow.block b hlt (fun e=>hne e.symm)]
  exact hbk
 have d0:w2.cell? ⟨b,0,none⟩=some (.pointer (some ⟨b,0,none⟩)):=by rw [Lib.cell_of_heap hb2]; rfl
 have d1:w2.cell? ⟨b,1,none⟩=some v:=by rw [Lib.cell_of_heap hb2]; rfl
 have f1:w2.frozen? ⟨b,1,none⟩=false:=Lib.frozen_of_heap hb2 1
 obtain ⟨ao,n',cap,rfl⟩:∃ ao n' cap,v' = .slice ao n' cap:=by
  rcases hown'.2 with ⟨hv,_⟩ | ⟨g,cap,cur,hv,_⟩
  .exact ⟨_,_,_,hv⟩
  .exact ⟨_,_,_,hv⟩
 go_wp2
 go_ret2
 refine ⟨rfl,?_,?_⟩
 .exact Lib.BuilderAt.put (T:=115) (e:=5) hB hb2 (bs':=bs++Lib.strCells s) (by simpa [Lib.strCells_length] using hown') (by decide)
 .exact (hb1.grown hgrow (by have:=hb1.size; omega) (fun k hk=>(hown.lt k hk).1)).setCell (p:=⟨b,1,none⟩) hB _
def Tryz.lays169_ren:Go.Shelf.Ren:=⟨fun | 169=>40 | n=>n,fun | 70=>113 | 9=>9 | 0=>0 | 72=>115 | 37=>22 | 127=>147 | 3=>3 | 5=>5 | n=>n,fun | n=>n⟩
theorem Tryz.lays169:Go.Proofs.Lays.n169 Tryz.prog Tryz.lays169_ren:={
 mixed:=by kernel_rfl
 f169:=Tryz.func40.trans (congrArg some (by kernel_rfl))
 t0:=Tryz.underlying0
 a0:=Tryz.isAgg0
 z0:=Tryz.sizeOf0
 v0:=Tryz.zeroValue0
 t3:=Tryz.underlying3
 a3:=Tryz.isAgg3
 z3:=Tryz.sizeOf3
 v3:=Tryz.zeroValue3
 t9:=Tryz.underlying9
 a9:=Tryz.isAgg9
 z9:=Tryz.sizeOf9
 v9:=Tryz.zeroValue9
 t37:=Tryz.underlying22
 a37:=Tryz.isAgg22
 z37:=Tryz.sizeOf22
 v37:=Tryz.zeroValue22
 t70:=Tryz.underlying113
 a70:=Tryz.isAgg113
 z70:=Tryz.sizeOf113
 v70:=Tryz.zeroValue113
 t72:=Tryz.underlying115
 a72:=Tryz.isAgg115
 z72:=Tryz.sizeOf115
 v72:=Tryz.zeroValue115
 t127:=Tryz.underlying147
 a127:=Tryz.isAgg147
 z127:=Tryz.sizeOf147
 v127:=Tryz.zeroValue147 }
theorem Tryz.Builder_Extra_169:Builder.Extra Tryz.prog Tryz.lays169_ren:={
 sizeBuilder:=by kernel_rfl
 liesBuilder:=by kernel_rfl
 t5:=Tryz.underlying5
 a5:=Tryz.isAgg5
 z5:=Tryz.sizeOf5
 v5:=Tryz.zeroValue5
 infoByte:=by kernel_rfl
 cellsByte:=by kernel_rfl
 sizeByte:=by kernel_rfl
 neB5:=by decide }
theorem Tryz.Builder_String_any (B b:Nat) (l:List UInt8) (w:World) (h:Lib.IsBuilder 115 5 B b (Lib.byteCells l) w) (hBw:B<=w.heap.size) :
 Calls Tryz.prog 40 #[.pointer (some ⟨b,0,none⟩)] w fun e w'=>e = .returned (.string ⟨l.toArray⟩)/\Below B w w':=Any.Builder_String_any Tryz.lays169 Tryz.Builder_Extra_169 B b l w h hBw
open Go.Ev in
set_option maxHeartbeats 2000000 in
set_option maxRecDepth 100000 in
theorem spl (s:ByteArray) (a n:Int) (p:ByteArray) (w:World) (hb:splB s a n p=true) :
 Calls Tryz.prog 26 #[.string s,.agg #[.int .i64 a,.int .i64 n,.string p]] w fun e w'=>e = .returned (.string (splT s a.toNat n.toNat p))/\Below w.heap.size w w':=by
 unfold splB at hb
 simp only [Bool.and_eq_true,decide_eq_true_eq,Nat.ble_eq] at hb
 obtain ⟨⟨⟨ha,hn⟩,hs⟩,hz⟩:=hb
 go_enter Tryz.func26,Tryz.ntmps26
 have hB:(w.alloc (Obj.cells #[Value.int IntKind.i64 a,Value.int IntKind.i64 n,Value.string p] 40)).heap.size=w.heap.size+1:=by simp
 have h0:=Lib.fresh_isBuilder 115 5 (w.alloc (Obj.cells #[Value.int IntKind.i64 a,Value.int IntKind.i64 n,Value.string p] 40))
 rw [hB] at h0
 have hx:=(Below.heap_alloc (w.alloc (Obj.cells #[Value.int IntKind.i64 a,Value.int IntKind.i64 n,Value.string p] 40)) (Obj.cells #[Value.pointer none,Value.slice none 0 0] 115) w.heap.size (by rw [hB]; omega)).trans (heap_alloc_new w _)
 go_wp2_with (go_at_call 39; refine (wrStr (w.heap.size+1) (w.heap.size+1) [] _ _ h0 ?l1 ?b1).mono ?_)
 case l1=>simp only [List.length_nil,ByteArray.size_extract]; omega
 case b1=>simp
 rintro e w1 ⟨rfl,h1,hb1⟩
 have k0:w1.cell? ⟨w.heap.size,0,none⟩=some (.int .i64 a):=by rw [hb1.cell (by simp),Lib.cell_of_heap hx]; rfl
 have k1:w1.cell? ⟨w.heap.size,1,none⟩=some (.int .i64 n):=by rw [hb1.cell (by simp),Lib.cell_of_heap hx]; rfl
 have k2:w1.cell? ⟨w.heap.size,2,none⟩=some (.string p):=by rw [hb1.cell (by simp),Lib.cell_of_heap hx]; rfl
 have s1:=hb1.size
 simp only [List.nil_append] at h1
 go_wp2_with (go_at_call 39; refine (wrStr (w.heap.size+1) (w.heap.size+1) _ _ _ (.inr h1) ?l2 ?b2).mono ?_)
 case l2=>simp only [Lib.strCells_length,ByteArray.size_extract]; omega
 case b2=>simp at s1; omega
 rintro e w2 ⟨rfl,h2,hb2⟩
 have m0:w2.cell? ⟨w.heap.size,0,none⟩=some (.int .i64 a):=by rw [hb2.cell (by simp)]; exact k0
 have m1:w2.cell? ⟨w.heap.size,1,none⟩=some (.int .i64 n):=by rw [hb2.cell (by simp)]; exact k1
 have s2:=hb2.size
 go_wp2_with (go_at_call 39; refine (wrStr (w.heap.size+1) (w.heap.size+1) _ _ _ (.inr h2) ?l3 ?b3).mono ?_)
 case l3=>simp only [List.length_append,Lib.strCells_length,ByteArray.size_extract]; omega
 case b3=>simp at s1; omega
 rintro e w3 ⟨rfl,h3,hb3⟩
 have s3:=hb3.size
 have hc:Lib.strCells (s.extract 0 a.toNat)++Lib.strCells p++Lib.strCells (s.extract (a+n).toNat s.size)=Lib.byteCells (s.data.toList.take a.toNat++p.data.toList++s.data.toList.drop (a.toNat+n.toNat)):=by
  have e1:(a+n).toNat=a.toNat+n.toNat:=by omega
  rw [e1]
  simp only [Lib.strCells_eq,Lib.byteCells,List.map_append,ByteArray.data_extract,Array.toList_extract]
  congr 1
  have hl:s.data.toList.length=s.size:=by rw [Array.length_toList]; rfl
  rw [List.extract_eq_take_drop]
  rw [List.take_of_length_le (by rw [List.length_drop]; omega)]
 rw [hc] at h3
 go_wp2_with (go_at_call 40; refine (Tryz.Builder_String_any (w.heap.size+1) (w.heap.size+1) _ _ (.inr h3) ?b4).mono ?_)
 case b4=>simp at s1; omega
 rintro e w4 ⟨rfl,hb4⟩
 go_wp2
 go_ret
 refine ⟨congrArg (fun l:List UInt8=>Ending.returned (Value.string ⟨l.toArray⟩)) (List.append_assoc _ _ _).symm,?_⟩
 have b0:Below w.heap.size w ((w.alloc (Obj.cells #[Value.int IntKind.i64 a,Value.int IntKind.i64 n,Value.string p] 40)).alloc (Obj.cells #[Value.pointer none,Value.slice none 0 0] 115)) :=
  ((Below.refl w.heap.size w).alloc (Nat.le_refl _) _).alloc (by rw [hB]; omega) _
 exact b0.trans ((hb1.trans (hb2.trans (hb3.trans hb4))).mono (by omega))
open Go.Ev in
theorem splices:Splices Tryz.prog 26:=fun s a n p w hb=>⟨enters_of Tryz.func26 (by kernel_rfl) rfl _ _,spl s a n p w hb⟩
end Go.Proofs.YtfhjkkbaghanhaaGreat
set_option linter.unusedVariables false
namespace Go.Proofs.YtfhjkkbaghanhaaGreat
open Go.Ev Go.Ew Go.RowKit
namespace Va
theorem tys:tysOk Tryz.prog tyL:=by unfold tysOk; kernel_rfl
theorem mixed:Tryz.prog.follows .mixedOrders=true:=by kernel_rfl
theorem own:ownKnob Tryz.prog.godebug=none:=by kernel_rfl
theorem ext111:Extern.find Tryz.f111=some Extern.BytealgIndexByte.indexByte:=by kernel_rfl
theorem ext111':(Extern.findNext Tryz.f111).isSome=false:=by kernel_rfl
theorem name111 : (Tryz.f111.name == "runtime.NumGoroutine") = false := by kernel_rfl
theorem body111:Tryz.f111.body.isNone=true:=by kernel_rfl
theorem at111 (s:ByteArray) (c:Int) (w:World):(callFunc 111 #[.string s,.int .u8 c]).run Tryz.prog w = .ok (.value (.int .i64 (idxB s c))) w:=by
 have h1:Extern.findNext Tryz.f111=none:=by
  cases h:Extern.findNext Tryz.f111 with
  | none=>rfl
  | some x=>have:=ext111'; rw [h] at this; cases this
 simp only [callFunc,Sem.run_bind,run_program,Result.andThen_ok,Tryz.func111,name111,body111,Bool.false_eq_true,if_false,if_true,run_mark,h1,ext111]
 have hc:Extern.BytealgIndexByte.indexByte #[.string s,.int .u8 c]=(do
  let b <- Extern.Bytes.bytesOf (.string s)
  let c <- Extern.Bytes.asByte (.int .u8 c)
  match (List.range b.size).find? fun i=>b[i]! == c with
  | some i=>pure (goInt i)
  | none=>pure (goInt (-1))):=rfl
 rw [hc]
 simp only [Extern.Bytes.bytesOf,Extern.Bytes.asByte,pure_bind,idxB]
 cases (List.range s.size).find? fun i=>s[i]! == c.toNat.toUInt8<;>simp [goInt]
def fnB5:List Nat:=[5,10,13,17,21,22,23,25,27,29,31,32,33,34,35,36,37,41,42,43,44,45,48,49,50,51,52,53,54,55,56,57,58,59,60,61,65,66,67,68,70,71,72,73,74,75,76,77,78,79,80,81,82,85,86,87,88,89,90,91,92,93,96,97,98,99,100,101,102,103,104,105,106,108,109,110]
def xtB5:List (Nat × Nat):=[(111,3),(26,4)]
theorem fnsB5:(fnsOf Tryz.prog fnB5).all (fnOk (envOf Tryz.prog tyL fnB5 plL xtB5))=true:=by kernel_rfl
theorem okB5:EnvOk (envOf Tryz.prog tyL fnB5 plL xtB5):=env_ok4 tys mixed fnsB5 (fun g hg=>by simp [xtB5] at hg) (fun g hg=>by
 have e:g=111:=by simpa [xtB5] using hg
 subst e
 exact at111) (fun g hg=>by
 have e:g=26:=by simpa [xtB5] using hg
 subst e
 exact splices) (fun g hg=>by simp [xtB5] at hg)
theorem hereB5:(tget (envOf Tryz.prog tyL fnB5 plL xtB5).ff 5).isSome=true:=by kernel_rfl
set_option maxRecDepth 100000 in
theorem runsB5:saysTrue (callA (envOf Tryz.prog tyL fnB5 plL xtB5) (ev (envOf Tryz.prog tyL fnB5 plL xtB5) 100000) 5 [] ⟨.nil,0⟩)=true:=by kernel_rfl
theorem walkB5 (w:World):Calls Tryz.prog 5 #[] w fun e w'=>e = .returned (.bool true)/\Below w.heap.size w w':=by
 obtain ⟨fn,hfn⟩:=Option.isSome_iff_exists.1 hereB5
 exact law_true okB5 hfn (by unfold unkU; omega) runsB5 w
theorem nameB5 : (Tryz.f5.name == "runtime.NumGoroutine") = false := by kernel_rfl
theorem bodyB5:Tryz.f5.body.isNone=false:=by kernel_rfl
theorem enterB5 (w:World):(callFunc 5 #[]).run Tryz.prog w = .ok (.enter 5 #[]) w:=by
 simp only [callFunc,Sem.run_bind,run_program,Result.andThen_ok,Tryz.func5,nameB5,bodyB5,Bool.false_eq_true,if_false,Sem.run_pure]
theorem fns:(fnsOf Tryz.prog fnL).all (fnOk (env Tryz.prog))=true:=by kernel_rfl
theorem ok:EnvOk (env Tryz.prog):=env_ok4 tys mixed fns (fun g hg=>by simp [xtL] at hg) (fun g hg=>by
 have e:g=111:=by simpa [xtL] using hg
 subst e
 exact at111) (fun g hg=>by
 have e:g=26:=by simpa [xtL] using hg
 subst e
 exact splices) (fun g hg=>by
 have e:g=5:=by simpa [xtL] using hg
 subst e
 exact fun w=>⟨enterB5 w,walkB5 w⟩)
end Va
end Go.Proofs.YtfhjkkbaghanhaaGreat
namespace Go.Ew
open Go.Ev Go.Deep Go.RowKit
def treeOf {α:Type} (f:Nat->Option α):Nat->BT (Option α)
 | 0=>.nil
 | n+1=>tset (treeOf f n) n (f n)
theorem tree_get {α:Type} (f:Nat->Option α):∀ n k,tget (treeOf f n) k=if k<n then f k else none
 | 0,k=>by simp [treeOf,tget]
 | n+1,k=>by
   rw [treeOf,tget_tset,tree_get f n]
   by_cases e:n=k
   .subst e; simp
   .rw [if_neg e]
    by_cases h:k<n
    .rw [if_pos h,if_pos (by omega)]
    .rw [if_neg h,if_neg (by omega)]
def absV (N:Nat):Value->Option Value
 | .pointer (some a)=>if a.spot=none/\a.block<N then some (.pointer (some a)) else none
 | .slice (some a) l c=>if a.spot=none/\a.block<N/\c<unkU then some (.slice (some a) l c) else if l=0 then some vague else none
 | v=>if isPlain v=true then some v else none
def thW (N:Nat):Th:=fun n=>if n<N then some (n,0,0) else none
theorem absV_S {N:Nat} {v u:Value} (h:absV N v=some u):S (thW N) u v:=by
 unfold absV at h
 split at h
 .rename_i a
  split at h
  .rename_i hq
   cases h
   refine ⟨hq.1,(a.block,0,0),by simp [thW,hq.2],?_⟩
   obtain ⟨b,o,sp⟩:=a
   obtain ⟨h1,h2⟩:=hq
   cases h1
   simp
  .cases h
 .rename_i a l c
  split at h
  .rename_i hq
   cases h
   obtain ⟨b,o,sp⟩:=a
   obtain ⟨h1,h2,h3⟩:=hq
   cases h1
   exact .inl ⟨rfl,(b,0,0),c,by simp only at h2; simp [thW,h2],.inl ⟨h3,rfl⟩,by simp⟩
  .split at h
   .rename_i hl
    cases h
    subst hl
    exact .inr ⟨by simp,rfl,Nat.le_refl _,_,_,rfl⟩
   .cases h
 .split at h
  .rename_i hp
   cases h
   exact S_plain hp
  .cases h
def bsz (w:World) (b:Nat):Nat:=match w.heap[b]? with
 | some (.cells c _ _)=>c.size
 | _=>0
def blkOf (w:World) (b:Nat) (i:Nat):Option Value:=match w.cell? ⟨b,i,none⟩ with
 | some v=>if w.frozen? ⟨b,i,none⟩=false then absV w.heap.size v else none
 | none=>none
def entW (w:World) (b:Nat):Ent:=⟨treeOf (blkOf w b) (bsz w b),0,roU,none⟩
def KW (w:World):KH:=fun b=>if b<w.heap.size then some (entW w b) else none
def snapW (w:World):Hp:=⟨treeOf (fun b=>some (entW w b)) w.heap.size,w.heap.size⟩
theorem snap_get (w:World) (k:Nat):tget (snapW w).m k=KW w k:=tree_get _ _ _
theorem KW_some {w:World} {k:Nat} {e:Ent} (h:KW w k=some e):k<w.heap.size/\e=entW w k:=by
 unfold KW at h
 split at h
 .rename_i q; cases h; exact ⟨q,rfl⟩
 .cases h
theorem HR_snap [LG] (w:World):HR (thW w.heap.size) (snapW w) w:=by
 refine ⟨fun n e x he hx=>?_,fun n m e e' x y h1 h2 hne h3 h4=>?_,fun n hn=>?_⟩
 .rw [snap_get] at he
  obtain ⟨h1,rfl⟩:=KW_some he
  have hx':x=(n,0,0):=by
   simp only [thW,if_pos h1,Option.some.injEq] at hx
   exact hx.symm
  subst hx'
  refine ⟨hx,h1,fun i v hi=>?_,fun o ho=>(by cases ho),fun hu=>⟨by simp [entW],fun i hi=>by simp at hi⟩⟩
  simp only [entW,tree_get] at hi
  split at hi
  .unfold blkOf at hi
   simp only [Nat.zero_add]
   cases hc:w.cell? ⟨n,i,none⟩ with
   | none=>rw [hc] at hi; cases hi
   | some u =>
     rw [hc] at hi
     simp only at hi
     split at hi
     .rename_i hf
      exact ⟨⟨u,rfl,absV_S hi⟩,hf⟩
     .cases hi
  .cases hi
 .unfold thW at h3 h4
  split at h3
  .split at h4
   .cases h3; cases h4; exact hne
   .cases h4
  .cases h3
 .have:¬ n<w.heap.size:=by have:w.heap.size<=n:=hn; omega
  simp [thW,this]
theorem cell_lt {w:World} {b o:Nat} {v:Value} (h:w.cell? ⟨b,o,none⟩=some v):b<w.heap.size/\o<bsz w b:=by
 unfold World.cell? at h
 unfold bsz
 cases hb:w.heap[b]? with
 | none=>simp [hb] at h
 | some ob =>
   refine ⟨(Array.getElem?_eq_some_iff.1 hb).1,?_⟩
   rw [hb] at h
   cases ob<;>simp at h ⊢
   rename_i c t fr
   exact (Array.getElem?_eq_some_iff.1 h).1
theorem KW_cell {w:World} {b o:Nat} {v u:Value} (h:w.cell? ⟨b,o,none⟩=some v) (hf:w.frozen? ⟨b,o,none⟩=false) (ha:absV w.heap.size v=some u):∃ e,KW w b=some e/\tget e.cells o=some u:=by
 obtain ⟨h1,h2⟩:=cell_lt h
 refine ⟨entW w b,by unfold KW; rw [if_pos h1],?_⟩
 simp only [entW,tree_get,if_pos h2]
 unfold blkOf
 rw [h]
 simp only [hf,if_true,ha]
theorem KW_ld {w:World} {b o:Nat} {v u:Value} (h:w.cell? ⟨b,o,none⟩=some v) (hf:w.frozen? ⟨b,o,none⟩=false) (ha:absV w.heap.size v=some u):ld (KW w) ⟨b,o,none⟩ [u]:=by
 obtain ⟨e,h1,h2⟩:=KW_cell h hf ha
 refine ⟨rfl,e,h1,?_⟩
 simp only [List.length_singleton,rd,h2]
theorem top {E:Env} (hE:EnvOk E) {g:Nat} {fn:Func} (hfn:tget E.ff g=some fn) {args cargs:List Value} {w:World} {v:Value} (hp:isPlain v=true) (hD:Does E g args (KW w) fun r _=>r=v) (ha:all2 (W (thW w.heap.size)) args cargs) :
 Calls E.P g cargs.toArray w fun e w'=>e = .returned v/\Below w.heap.size w w':=by
 letI:=lgOf E
 obtain ⟨r,h',H',⟨n,hrun⟩,hq,_⟩:=hD.run (snapW w) (fun k hk=>by
  rw [snap_get]
  have:¬ k<w.heap.size:=by have:w.heap.size<=k:=hk; omega
  simp [KW,this]) (fun k e q=>by rw [snap_get]; exact q)
 subst hq
 rcases (call_sound hE (lgOf_ok E) (ev_sound hE (lgOf_ok E) n) (snapW w) g args r h' (hrun n (Nat.le_refl _)) (thW w.heap.size) w cargs (HR_snap w) ha).1 hD.lt with ⟨_,h2⟩ | ⟨u,h1,_,_⟩
 .refine h2.mono fun e w' hq=>?_
  obtain ⟨θ',u,rfl,q1,q2,q3⟩:=hq
  rw [W_plain hp q3]
  refine ⟨rfl,q1.os,q1.tape,q1.output,q1.size,fun k hk=>q1.frame k hk fun n e x q hu _=>?_⟩
  rw [snap_get] at q
  obtain ⟨_,rfl⟩:=KW_some q
  exact absurd rfl hu
 .exfalso
  obtain ⟨f1,f2,c',f3,_⟩:=hE.ff g fn hfn
  have f2' : ¬ fn.name = "runtime.NumGoroutine" := fun e => by rw [e] at f2; simp at f2
  simp [callFunc,f1,f2',f3] at h1
section
variable {H : Type} {enc : TypeId × Value -> H} {P : Program} {w : World}
theorem cells_get {b n:Nat} {a:Addr} {cs:List Value} (h:w.cells? b a n=some cs):cs.length=n/\∀ i v,cs[i]? = some v->w.cell? (a.add i)=some v:=by
 unfold World.cells? at h
 split at h
 .refine ⟨by simpa using mapM_some_length h,fun i v hv=>?_⟩
  have hi:i<n:=by
   have:=mapM_some_length h
   rcases Nat.lt_or_ge i n with q | q
   .exact q
   .rw [List.getElem?_eq_none (by simp at this; omega)] at hv; cases hv
  have:=mapM_some_get h i i (by simp [hi])
  rw [this]; exact hv
 .cases h
theorem cell_spot {a:Addr} {v:Value} (h:w.cell? a=some v):a.spot=none:=by
 unfold World.cell? at h
 cases hs:a.spot with
 | none=>rfl
 | some s =>
   rw [hs] at h
   split at h<;>simp_all
theorem arg_slice {t e:TypeId} {v:Value} {d:DataW H} {ps:List MemPlace} (ht:P.underlying t=some (.slice e)) (he:P.cellsOf e=1) (h:DataW.Trod enc P w 0 (fun _=>true) true t v d ps) (hf:w.noneFrozen ps) (hv:∃ a l c,v = .slice a l c) :
 ∃ a n c,absV w.heap.size v=some (.slice a n c)/\∀ i,i<n->∃ b o x y m,a=some ⟨b,o,none⟩/\w.cell? ⟨b,o+i,none⟩=some x/\w.frozen? ⟨b,o+i,none⟩=false/\DataW.trod enc P w 0 (fun _=>true) true m e [x]=some y/\∀ p∈y.2,p∈ps:=by
 obtain ⟨fuel,hd⟩:=h
 obtain ⟨a0,l0,c0,rfl⟩:=hv
 have hcs:(Value.slice a0 l0 c0).cells.toList=[.slice a0 l0 c0]:=rfl
 rw [hcs] at hd
 rcases DataW.trod_slice ht hd with ⟨h1,h2⟩ | ⟨a,len,cap,elems,rest,n,_,h1,h2,_,h3,h4,h5,h6,_⟩
 .cases h1
  exact ⟨none,0,0,rfl,fun i hi=>by omega⟩
 .cases h1
  simp only [Prod.mk.injEq] at h2
  obtain ⟨rfl,rfl⟩:=h2
  have hmax:maxLen<unkU:=by decide
  by_cases hl:l0=0
  .subst hl
   have hab:absV w.heap.size (.slice (some a) 0 c0)=if a.spot=none/\a.block<w.heap.size/\c0<unkU then some (.slice (some a) 0 c0) else if 0=0 then some vague else none:=rfl
   by_cases hq:a.spot=none/\a.block<w.heap.size/\c0<unkU
   .rw [if_pos hq] at hab
    exact ⟨_,_,_,hab,fun i hi=>by omega⟩
   .rw [if_neg hq,if_pos rfl] at hab
    exact ⟨_,_,_,hab,fun i hi=>by omega⟩
  .have elem:∀ i,i<l0->∃ x y,w.cell? (a.add i)=some x/\DataW.trod enc P w 0 (fun _=>true) true n e [x]=some y/\y∈elems:=by
    intro i hi
    have h7:=h6 i hi
    rw [List.getElem?_eq_getElem (by omega)] at h7
    obtain ⟨cs,k1,k2⟩:=Option.bind_eq_some_iff.1 h7
    obtain ⟨k3,k4⟩:=cells_get k1
    rw [he] at k3 k4
    match cs,k3 with
    | [x],_ =>
      have k5:=k4 0 x rfl
      have e1:(a.add (i*1)).add 0=a.add i:=by
       rw [Nat.mul_one]
       generalize a.add i=z
       obtain ⟨b,o,sp⟩:=z
       unfold Addr.add
       simp
      rw [e1] at k5
      exact ⟨x,_,k5,k2,List.getElem_mem _⟩
   obtain ⟨x0,_,c1,_,_⟩:=elem 0 (by omega)
   have hs:a.spot=none:=by
    have:=cell_spot c1
    obtain ⟨b,o,sp⟩:=a
    unfold Addr.add at this
    simpa using this
   obtain ⟨b,o,sp⟩:=a
   cases hs
   rw [add_addr] at c1
   have hb:=(cell_lt c1).1
   have hcu:c0<unkU:=by omega
   refine ⟨some ⟨b,o,none⟩,l0,c0,by simp [absV,hb,hcu],fun i hi=>?_⟩
   obtain ⟨x,y,k1,k2,k3⟩:=elem i hi
   rw [add_addr] at k1
   refine ⟨b,o,x,y,n,rfl,k1,hf b (o+i) ?_,k2,fun p hp=>?_⟩
   .refine List.mem_append_left _ ?_
    unfold MemPlace.row
    rw [he,Nat.mul_one]
    exact List.mem_map.2 ⟨i,by simp; omega,rfl⟩
   .refine List.mem_append_right _ (List.mem_flatMap.2 ⟨y,by simp [k3],hp⟩)
theorem trod_int {t:TypeId} {k:IntKind} {x:Value} {m:Nat} {y:DataW H × List MemPlace} (ht:P.underlying t=some (.int k)) (h:DataW.trod enc P w 0 (fun _=>true) true m t [x]=some y):∃ n,x = .int k n/\(Lit.int k n).wf=true/\y=(.lit (.int k n),[]):=by
 cases m with
 | zero=>simp [DataW.trod] at h
 | succ m =>
   unfold DataW.trod at h
   rw [ht] at h
   cases x<;>simp at h
   rename_i k' n
   obtain ⟨⟨rfl,h2⟩,h3⟩:=h
   exact ⟨n,rfl,h2,h3.symm⟩
theorem trodAll_below {W W':World} (hl:laidOutB P=true) (hb:Below W.heap.size W W'):∀ (ts:List TypeId) (vs:List Value) (ds:List (DataW H)) (ps:List MemPlace),(∀ t∈ts,P.readableRec t=true/\t<P.types.size)->
 DataW.TrodAll enc P W 0 (fun _=>true) true ts vs ds ps->(∀ x∈ps,x.block<W.heap.size)->DataW.TrodAll enc P W' 0 (fun b=>decide (b<W.heap.size)) true ts vs ds ps
 | [],[],[],ps,_,h,_=>h
 | t :: ts,v :: vs,d :: ds,ps,ht,⟨p,q,h1,h2,h3⟩,hlt=>by
   subst h3
   exact ⟨p,q,Below.trod hl (ht t (by simp)).1 (ht t (by simp)).2 h1 hb (fun x hx=>hlt x (by simp [hx])),trodAll_below hl hb ts vs ds q (fun t' h'=>ht t' (by simp [h'])) h2 (fun x hx=>hlt x (by simp [hx])),rfl⟩
 | [],_ :: _,_,_,_,h,_=>by cases h
 | [],[],_ :: _,_,_,h,_=>by cases h
 | _ :: _,[],_,_,_,h,_=>by cases h
 | _ :: _,_ :: _,[],_,_,h,_=>by cases h
theorem arg_u8 {t e:TypeId} {v:Value} {d:DataW H} {ps:List MemPlace} (ht:P.underlying t=some (.slice e)) (he:P.cellsOf e=1) (hu:P.underlying e=some (.int .u8)) (h:DataW.Trod enc P w 0 (fun _=>true) true t v d ps) (hf:w.noneFrozen ps) (hv:∃ a l c,v = .slice a l c) :
 ∃ a n c,absV w.heap.size v=some (.slice a n c)/\∀ i,i<n->∃ b o x,a=some ⟨b,o,none⟩/\ld (KW w) ⟨b,o+i,none⟩ [.int .u8 x]/\0<=x/\x<=255:=by
 obtain ⟨a,n,c,h1,h2⟩:=arg_slice ht he h hf hv
 refine ⟨a,n,c,h1,fun i hi=>?_⟩
 obtain ⟨b,o,x,y,m,k1,k2,k3,k4,_⟩:=h2 i hi
 obtain ⟨z,rfl,hz,_⟩:=trod_int hu k4
 refine ⟨b,o,z,k1,KW_ld k2 k3 rfl,?_⟩
 simp only [Lit.wf,Bool.and_eq_true,decide_eq_true_eq] at hz
 have e1:IntKind.min .u8=0:=by decide
 have e2:IntKind.max .u8=255:=by decide
 omega
theorem absV_W {N:Nat} {v u:Value} (h:absV N v=some u):W (thW N) u v:=W_of_S (absV_S h)
end
end Go.Ew
set_option linter.unusedSimpArgs false
namespace Go.Ew
open Go.Ev Go.Deep Go.RowKit
theorem ld_three {H:KH} {b o:Nat} {x y z:Value} (h0:ld H ⟨b,o,none⟩ [x]) (h1:ld H ⟨b,o+1,none⟩ [y]) (h2:ld H ⟨b,o+2,none⟩ [z]):ld H ⟨b,o,none⟩ [x,y,z]:=by
 obtain ⟨_,e,p,r0⟩:=h0
 obtain ⟨_,e1,p1,r1⟩:=h1
 obtain ⟨_,e2,p2,r2⟩:=h2
 have p:H b=some e:=p
 have p1:H b=some e1:=p1
 have p2:H b=some e2:=p2
 rw [p] at p1 p2
 cases p1; cases p2
 have one:∀ {o:Nat} {v:Value},rd e.cells o 1=some [v]->tget e.cells o=some v:=fun {o v} h=>by
  simp only [rd] at h
  cases hq:tget e.cells o with
  | none=>rw [hq] at h; cases h
  | some u=>rw [hq] at h; simp at h; rw [h]
 refine ⟨rfl,e,p,?_⟩
 show rd e.cells o 3=_
 have k0:=one r0
 have k1:=one r1
 have k2:=one r2
 simp only [rd,k0,k1,show o+1+1=o+2 from rfl,k2]
section
variable {H : Type} {enc : TypeId × Value -> H} {P : Program} {w : World}
theorem arg_spl {t e:TypeId} {f0 f1 f2:Field} {v:Value} {d:DataW H} {ps:List MemPlace} (ht:P.underlying t=some (.slice e)) (he:P.underlying e=some (.struct #[f0,f1,f2])) (ce:P.cellsOf e=3) (o0:f0.offset=0) (o1:f1.offset=1) (o2:f2.offset=2)
 (c0':P.cellsOf f0.type=1) (c1':P.cellsOf f1.type=1) (c2':P.cellsOf f2.type=1) (u0:P.underlying f0.type=some (.int .i64)) (u1:P.underlying f1.type=some (.int .i64)) (u2:P.underlying f2.type=some .string)
 (h:DataW.Trod enc P w 0 (fun _=>true) true t v d ps) (hf:w.noneFrozen ps) (hv:∃ a l c,v = .slice a l c) :
 ∃ a n c,absV w.heap.size v=some (.slice a n c)/\∀ i,i<n->∃ b o x y s,a=some ⟨b,o,none⟩/\ld (KW w) ⟨b,o+i*3,none⟩ [.int .i64 x,.int .i64 y,.string s]/\ld (KW w) ⟨b,o+i*3+2,none⟩ [.string s]/\x<9223372036854775808:=by
 obtain ⟨fuel,hd⟩:=h
 obtain ⟨a0,l0,c0,rfl⟩:=hv
 have hcs:(Value.slice a0 l0 c0).cells.toList=[.slice a0 l0 c0]:=rfl
 rw [hcs] at hd
 rcases DataW.trod_slice ht hd with ⟨h1,h2⟩ | ⟨a,len,cap,elems,rest,n,_,h1,h2,_,h3,h4,h5,h6,_⟩
 .cases h1
  exact ⟨none,0,0,rfl,fun i hi=>by omega⟩
 .cases h1
  simp only [Prod.mk.injEq] at h2
  obtain ⟨rfl,rfl⟩:=h2
  have hmax:maxLen<unkU:=by decide
  by_cases hl:l0=0
  .subst hl
   have hab:absV w.heap.size (.slice (some a) 0 c0)=if a.spot=none/\a.block<w.heap.size/\c0<unkU then some (.slice (some a) 0 c0) else if 0=0 then some vague else none:=rfl
   by_cases hq:a.spot=none/\a.block<w.heap.size/\c0<unkU
   .rw [if_pos hq] at hab
    exact ⟨_,_,_,hab,fun i hi=>by omega⟩
   .rw [if_neg hq,if_pos rfl] at hab
    exact ⟨_,_,_,hab,fun i hi=>by omega⟩
  .have elem:∀ i,i<l0->∃ cs y,w.cells? 0 (a.add (i*3)) 3=some cs/\DataW.trod enc P w 0 (fun _=>true) true n e cs=some y/\y∈elems:=by
    intro i hi
    have h7:=h6 i hi
    rw [List.getElem?_eq_getElem (by omega),ce] at h7
    obtain ⟨cs,k1,k2⟩:=Option.bind_eq_some_iff.1 h7
    exact ⟨cs,_,k1,k2,List.getElem_mem _⟩
   obtain ⟨cs0,_,z1,z2,_⟩:=elem 0 (by omega)
   obtain ⟨z3,z4⟩:=cells_get z1
   have hsb:a.spot=none/\a.block<w.heap.size:=by
    match cs0,z3 with
    | [],z3=>simp at z3
    | x :: _,_ =>
      have z5:=z4 0 x rfl
      have z6:=cell_spot z5
      obtain ⟨b,o,sp⟩:=a
      have:sp=none:=by simpa [Addr.add] using z6
      subst this
      rw [add_addr,add_addr] at z5
      exact ⟨rfl,(cell_lt z5).1⟩
   obtain ⟨b,o,sp⟩:=a
   obtain ⟨hsp,hb⟩:=hsb
   cases hsp
   have hcu:c0<unkU:=by omega
   refine ⟨some ⟨b,o,none⟩,l0,c0,by simp [absV,hb,hcu],fun i hi=>?_⟩
   obtain ⟨cs,y,k1,k2,k3⟩:=elem i hi
   obtain ⟨k4,k5⟩:=cells_get k1
   obtain ⟨xs,m,rfl,rfl,hlen,hxl,hfs⟩:=DataW.trod_struct he k2
   rw [ce] at hlen
   have hxl:xs.length=3:=hxl
   match cs,hlen,xs,hxl with
   | [d0,d1,d2],_,[y0,y1,y2],_ =>
     have q0:=hfs 0 f0 rfl
     have q1:=hfs 1 f1 rfl
     have q2:=hfs 2 f2 rfl
     rw [o0,c0'] at q0
     rw [o1,c1'] at q1
     rw [o2,c2'] at q2
     have q0:DataW.trod enc P w 0 (fun _=>true) true m f0.type [d0]=some y0:=q0
     have q1:DataW.trod enc P w 0 (fun _=>true) true m f1.type [d1]=some y1:=q1
     have q2:DataW.trod enc P w 0 (fun _=>true) true m f2.type [d2]=some y2:=q2
     obtain ⟨x,rfl,hx,_⟩:=trod_int u0 q0
     obtain ⟨y,rfl,_,_⟩:=trod_int u1 q1
     obtain ⟨s,hs,_,_⟩:=DataW.trod_string u2 q2
     cases hs
     have fz:∀ j,j<3->w.frozen? ⟨b,o+i*3+j,none⟩=false:=fun j hj=>by
      refine hf b (o+i*3+j) (List.mem_append_left _ ?_)
      unfold MemPlace.row
      rw [ce]
      exact List.mem_map.2 ⟨i*3+j,by simp only [List.mem_range]; omega,by simp [Nat.add_assoc]⟩
     have w0:=k5 0 _ rfl
     have w1:=k5 1 _ rfl
     have w2:=k5 2 _ rfl
     rw [add_addr,add_addr] at w0 w1 w2
     simp only [Lit.wf,Bool.and_eq_true,decide_eq_true_eq] at hx
     have e2:IntKind.max .i64=9223372036854775807:=by decide
     have g2:=KW_ld w2 (fz 2 (by omega)) rfl
     exact ⟨b,o,x,y,s,rfl,ld_three (KW_ld w0 (fz 0 (by omega)) rfl) (KW_ld w1 (fz 1 (by omega)) rfl) g2,g2,by omega⟩
end
end Go.Ew
