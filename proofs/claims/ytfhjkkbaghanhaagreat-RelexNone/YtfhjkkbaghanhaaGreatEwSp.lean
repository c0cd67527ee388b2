import Derived.Test.YtfhjkkbaghanhaaGreatRows
import Derived.Shelf.Strings.Builder1
import Derived.Test.YtfhjkkbaghanhaaGreatEvMain
namespace Go.Proofs.YtfhjkkbaghanhaaGreat
open Go.Shelf Go.RowKit
set_option maxHeartbeats 1000000 in
set_option maxRecDepth 100000 in
theorem ccUsed (b:Nat) (w:World) (h0:w.cell? ⟨b,0,none⟩=some (.pointer (some ⟨b,0,none⟩))) :
 Calls Tryz.prog 64 #[.pointer (some ⟨b,0,none⟩)] w fun e w'=>e = .returned (.tuple #[])∧w'=w:=by
 obtain ⟨j,hj,_⟩:∃ j,Tryz.prog.info? 115=some j∧j.size=2:=Option.map_eq_some_iff.1 (by kernel_rfl)
 go_enter Tryz.func64,Tryz.ntmps64
 go_wp2
 rw [Lib.run_neq_ptr_same w _ Tryz.underlying113 hj]
 go_wp2
 go_end0
 exact ⟨rfl,rfl⟩
set_option maxHeartbeats 1000000 in
set_option maxRecDepth 100000 in
theorem ccFresh (b:Nat) (w:World) (h0:w.cell? ⟨b,0,none⟩=some (.pointer none)) (hsh:w.shape? b=some (115,2)) (hfz:w.frozen? ⟨b,0,none⟩=false) :
 Calls Tryz.prog 64 #[.pointer (some ⟨b,0,none⟩)] w fun e w'=>e = .returned (.tuple #[])∧w'=w.setCell ⟨b,0,none⟩ (.pointer (some ⟨b,0,none⟩)):=by
 obtain ⟨j,hj,hjs⟩:∃ j,Tryz.prog.info? 115=some j∧j.size=2:=Option.map_eq_some_iff.1 (by kernel_rfl)
 go_enter Tryz.func64,Tryz.ntmps64
 go_wp2
 rw [Lib.run_to_unsafe w ⟨b,0,none⟩ Tryz.underlying113 Tryz.underlying175 hj (by rw [hjs]; decide) hsh (Nat.zero_lt_succ 1)]
 simp only [Result.andThen]
 rw [Oper.upon_value]
 go_wp2
 rw [run_callFunc_extern Tryz.func83 (by kernel_rfl) (by kernel_rfl) (by kernel_rfl) (e:=Extern.AbiNoEscape.same) (by kernel_rfl)]
 rw [Lib.run_noEscape]
 simp only [Result.andThen]
 rw [Oper.upon_value]
 go_wp2
 rw [Lib.run_from_unsafe w ⟨b,0,none⟩ Tryz.underlying175 Tryz.underlying113 hj hsh (by kernel_rfl)]
 simp only [Result.andThen]
 rw [Oper.upon_value]
 go_wp2
 go_end0
 exact ⟨rfl,rfl⟩
theorem ccAny (B b:Nat) (bs:List Value) (w:World) (h:Lib.IsBuilder 115 5 B b bs w) :
 Calls Tryz.prog 64 #[.pointer (some ⟨b,0,none⟩)] w fun e w'=>e = .returned (.tuple #[])∧(Lib.BuilderAt 115 5 B b (.pointer (some ⟨b,0,none⟩)) bs w'∧Below B w w'):=by
 rcases h with h | h
 ·refine (ccFresh b w h.cell0 h.shape h.frozen0).mono ?_
  rintro e w' ⟨rfl,rfl⟩
  exact ⟨rfl,h.used _,(Below.refl B w).setCell (p:=⟨b,0,none⟩) h.1 _⟩
 ·refine (ccUsed b w h.cell0).mono ?_
  rintro e w' ⟨rfl,rfl⟩
  exact ⟨rfl,h,Below.refl B _⟩
set_option maxHeartbeats 2000000 in
set_option maxRecDepth 100000 in
theorem wrStr (B b:Nat) (bs:List Value) (s:ByteArray) (w:World) (h:Lib.IsBuilder 115 5 B b bs w) (hlen:bs.length+s.size≤140737488355328) (hBw:B≤w.heap.size) :
 Calls Tryz.prog 39 #[.pointer (some ⟨b,0,none⟩),.string s] w fun e w'=>e = .returned (.tuple #[.int .i64 s.size,.nilIface])∧(Lib.BuilderAt 115 5 B b (.pointer (some ⟨b,0,none⟩)) (bs++Lib.strCells s) w'∧Below B w w'):=by
 obtain ⟨i0,hi,hz0,hz1,hz2⟩:=info_parts (show (Tryz.prog.info? 5).map (fun i=>(i.zero,i.size,i.bytes))=some (some (.int .u8 0),1,1) by kernel_rfl)
 go_enter Tryz.func39,Tryz.ntmps39
 go_wp2_with (go_at_call 64; refine (ccAny B b bs _ h).mono ?_)
 rintro e w1 ⟨rfl,h1,hb1⟩
 obtain ⟨hB,v,hbk,hown,hne⟩:=h1
 have c0:w1.cell? ⟨b,0,none⟩=some (.pointer (some ⟨b,0,none⟩)):=by rw [Lib.cell_of_heap hbk]; rfl
 have c1:w1.cell? ⟨b,1,none⟩=some v:=by rw [Lib.cell_of_heap hbk]; rfl
 go_wp2_with (at_builtin; refine Lib.wpList_append_own_string _ rfl _ _ 22 9 rfl B 5 i0 Tryz.underlying22 Tryz.underlying9 hi hz0 hz1 hz2 _ _ _ rfl hown s rfl ?c3 ?c4 ?c5 ?_)
 case c3=>unfold maxLen; omega
 case c4=>omega
 case c5=>have:=hb1.size; omega
 intro v' w2 hown' hgrow _
 have hlt:b<w1.heap.size:=by
  rcases Nat.lt_or_ge b w1.heap.size with h' | h'
  ·exact h'
  ·simp [Array.getElem?_eq_none h'] at hbk
 have hb2:w2.heap[b]? = some (.cells #[.pointer (some ⟨b,0,none⟩),v] 115 (0,0)):=by
  rw [hgrow.block b hlt (fun e=>hne e.symm)]
  exact hbk
 have d0:w2.cell? ⟨b,0,none⟩=some (.pointer (some ⟨b,0,none⟩)):=by rw [Lib.cell_of_heap hb2]; rfl
 have d1:w2.cell? ⟨b,1,none⟩=some v:=by rw [Lib.cell_of_heap hb2]; rfl
 have f1:w2.frozen? ⟨b,1,none⟩=false:=Lib.frozen_of_heap hb2 1
 obtain ⟨ao,n',cap,rfl⟩:∃ ao n' cap,v' = .slice ao n' cap:=by
  rcases hown'.2 with ⟨hv,_⟩ | ⟨g,cap,cur,hv,_⟩
  ·exact ⟨_,_,_,hv⟩
  ·exact ⟨_,_,_,hv⟩
 go_wp2
 go_ret2
 refine ⟨rfl,?_,?_⟩
 ·exact Lib.BuilderAt.put (T:=115) (e:=5) hB hb2 (bs':=bs++Lib.strCells s) (by simpa [Lib.strCells_length] using hown') (by decide)
 ·exact (hb1.grown hgrow (by have:=hb1.size; omega) (fun k hk=>(hown.lt k hk).1)).setCell (p:=⟨b,1,none⟩) hB _
def Tryz.lays169_ren:Go.Shelf.Ren:=⟨fun | 169=>40 | n=>n,fun | 70=>113 | 9=>9 | 0=>0 | 72=>115 | 37=>22 | 127=>147 | 3=>3 | 5=>5 | n=>n,fun | n=>n⟩
theorem Tryz.lays169:Go.Proofs.Lays.n169 Tryz.prog Tryz.lays169_ren:={
 mixed:=by kernel_rfl
 f169:=Tryz.func40.trans (congrArg some (by kernel_rfl))
 t0:=Tryz.underlying0
 a0:=Tryz.isAgg0
 z0:=Tryz.sizeOf0
 v0:=Tryz.zeroValue0
 t3:=Tryz.underlying3
 a3:=Tryz.isAgg3
 z3:=Tryz.sizeOf3
 v3:=Tryz.zeroValue3
 t9:=Tryz.underlying9
 a9:=Tryz.isAgg9
 z9:=Tryz.sizeOf9
 v9:=Tryz.zeroValue9
 t37:=Tryz.underlying22
 a37:=Tryz.isAgg22
 z37:=Tryz.sizeOf22
 v37:=Tryz.zeroValue22
 t70:=Tryz.underlying113
 a70:=Tryz.isAgg113
 z70:=Tryz.sizeOf113
 v70:=Tryz.zeroValue113
 t72:=Tryz.underlying115
 a72:=Tryz.isAgg115
 z72:=Tryz.sizeOf115
 v72:=Tryz.zeroValue115
 t127:=Tryz.underlying147
 a127:=Tryz.isAgg147
 z127:=Tryz.sizeOf147
 v127:=Tryz.zeroValue147 }
theorem Tryz.Builder_Extra_169:Builder.Extra Tryz.prog Tryz.lays169_ren:={
 sizeBuilder:=by kernel_rfl
 liesBuilder:=by kernel_rfl
 t5:=Tryz.underlying5
 a5:=Tryz.isAgg5
 z5:=Tryz.sizeOf5
 v5:=Tryz.zeroValue5
 infoByte:=by kernel_rfl
 cellsByte:=by kernel_rfl
 sizeByte:=by kernel_rfl
 neB5:=by decide }
theorem Tryz.Builder_String_any (B b:Nat) (l:List UInt8) (w:World) (h:Lib.IsBuilder 115 5 B b (Lib.byteCells l) w) (hBw:B≤w.heap.size) :
 Calls Tryz.prog 40 #[.pointer (some ⟨b,0,none⟩)] w fun e w'=>e = .returned (.string ⟨l.toArray⟩)∧Below B w w':=Any.Builder_String_any Tryz.lays169 Tryz.Builder_Extra_169 B b l w h hBw
open Go.Ev in
set_option maxHeartbeats 2000000 in
set_option maxRecDepth 100000 in
theorem spl (s:ByteArray) (a n:Int) (p:ByteArray) (w:World) (hb:splB s a n p=true) :
 Calls Tryz.prog 26 #[.string s,.agg #[.int .i64 a,.int .i64 n,.string p]] w fun e w'=>e = .returned (.string (splT s a.toNat n.toNat p))∧Below w.heap.size w w':=by
 unfold splB at hb
 simp only [Bool.and_eq_true,decide_eq_true_eq,Nat.ble_eq] at hb
 obtain ⟨⟨⟨ha,hn⟩,hs⟩,hz⟩:=hb
 go_enter Tryz.func26,Tryz.ntmps26
 have hB:(w.alloc (Obj.cells #[Value.int IntKind.i64 a,Value.int IntKind.i64 n,Value.string p] 40)).heap.size=w.heap.size+1:=by simp
 have h0:=Lib.fresh_isBuilder 115 5 (w.alloc (Obj.cells #[Value.int IntKind.i64 a,Value.int IntKind.i64 n,Value.string p] 40))
 rw [hB] at h0
 have hx:=(Below.heap_alloc (w.alloc (Obj.cells #[Value.int IntKind.i64 a,Value.int IntKind.i64 n,Value.string p] 40)) (Obj.cells #[Value.pointer none,Value.slice none 0 0] 115) w.heap.size (by rw [hB]; omega)).trans (heap_alloc_new w _)
 go_wp2_with (go_at_call 39; refine (wrStr (w.heap.size+1) (w.heap.size+1) [] _ _ h0 ?l1 ?b1).mono ?_)
 case l1=>simp only [List.length_nil,ByteArray.size_extract]; omega
 case b1=>simp
 rintro e w1 ⟨rfl,h1,hb1⟩
 have k0:w1.cell? ⟨w.heap.size,0,none⟩=some (.int .i64 a):=by rw [hb1.cell (by simp),Lib.cell_of_heap hx]; rfl
 have k1:w1.cell? ⟨w.heap.size,1,none⟩=some (.int .i64 n):=by rw [hb1.cell (by simp),Lib.cell_of_heap hx]; rfl
 have k2:w1.cell? ⟨w.heap.size,2,none⟩=some (.string p):=by rw [hb1.cell (by simp),Lib.cell_of_heap hx]; rfl
 have s1:=hb1.size
 simp only [List.nil_append] at h1
 go_wp2_with (go_at_call 39; refine (wrStr (w.heap.size+1) (w.heap.size+1) _ _ _ (.inr h1) ?l2 ?b2).mono ?_)
 case l2=>simp only [Lib.strCells_length,ByteArray.size_extract]; omega
 case b2=>simp at s1; omega
 rintro e w2 ⟨rfl,h2,hb2⟩
 have m0:w2.cell? ⟨w.heap.size,0,none⟩=some (.int .i64 a):=by rw [hb2.cell (by simp)]; exact k0
 have m1:w2.cell? ⟨w.heap.size,1,none⟩=some (.int .i64 n):=by rw [hb2.cell (by simp)]; exact k1
 have s2:=hb2.size
 go_wp2_with (go_at_call 39; refine (wrStr (w.heap.size+1) (w.heap.size+1) _ _ _ (.inr h2) ?l3 ?b3).mono ?_)
 case l3=>simp only [List.length_append,Lib.strCells_length,ByteArray.size_extract]; omega
 case b3=>simp at s1; omega
 rintro e w3 ⟨rfl,h3,hb3⟩
 have s3:=hb3.size
 have hc:Lib.strCells (s.extract 0 a.toNat)++Lib.strCells p++Lib.strCells (s.extract (a+n).toNat s.size)=Lib.byteCells (s.data.toList.take a.toNat++p.data.toList++s.data.toList.drop (a.toNat+n.toNat)):=by
  have e1:(a+n).toNat=a.toNat+n.toNat:=by omega
  rw [e1]
  simp only [Lib.strCells_eq,Lib.byteCells,List.map_append,ByteArray.data_extract,Array.toList_extract]
  congr 1
  have hl:s.data.toList.length=s.size:=by rw [Array.length_toList]; rfl
  rw [List.extract_eq_take_drop]
  rw [List.take_of_length_le (by rw [List.length_drop]; omega)]
 rw [hc] at h3
 go_wp2_with (go_at_call 40; refine (Tryz.Builder_String_any (w.heap.size+1) (w.heap.size+1) _ _ (.inr h3) ?b4).mono ?_)
 case b4=>simp at s1; omega
 rintro e w4 ⟨rfl,hb4⟩
 go_wp2
 go_ret
 refine ⟨congrArg (fun l:List UInt8=>Ending.returned (Value.string ⟨l.toArray⟩)) (List.append_assoc _ _ _).symm,?_⟩
 have b0:Below w.heap.size w ((w.alloc (Obj.cells #[Value.int IntKind.i64 a,Value.int IntKind.i64 n,Value.string p] 40)).alloc (Obj.cells #[Value.pointer none,Value.slice none 0 0] 115)) :=
  ((Below.refl w.heap.size w).alloc (Nat.le_refl _) _).alloc (by rw [hB]; omega) _
 exact b0.trans ((hb1.trans (hb2.trans (hb3.trans hb4))).mono (by omega))
open Go.Ev in
theorem splices:Splices Tryz.prog 26:=fun s a n p w hb=>⟨enters_of Tryz.func26 (by kernel_rfl) rfl _ _,spl s a n p w hb⟩
end Go.Proofs.YtfhjkkbaghanhaaGreat
