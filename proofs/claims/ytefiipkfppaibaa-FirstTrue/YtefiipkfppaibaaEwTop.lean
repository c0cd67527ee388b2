import Derived.Test.YtefiipkfppaibaaEwS4
import Derived.Carry
set_option linter.unusedVariables false
namespace Go.Ew
open Go.Ev Go.Deep Go.RowKit
def treeOf {α:Type} (f:Nat->Option α):Nat->BT (Option α)
 | 0=>.nil
 | n+1=>tset (treeOf f n) n (f n)
theorem tree_get {α:Type} (f:Nat->Option α):∀ n k,tget (treeOf f n) k=if k<n then f k else none
 | 0,k=>by simp [treeOf,tget]
 | n+1,k=>by
   rw [treeOf,tget_tset,tree_get f n]
   by_cases e:n=k
   .subst e; simp
   .rw [if_neg e]
    by_cases h:k<n
    .rw [if_pos h,if_pos (by omega)]
    .rw [if_neg h,if_neg (by omega)]
def absV (N:Nat):Value->Option Value
 | .pointer (some a)=>if a.spot=none/\a.block<N then some (.pointer (some a)) else none
 | .slice (some a) l c=>if a.spot=none/\a.block<N/\c<unkU then some (.slice (some a) l c) else if l=0 then some vague else none
 | v=>if isPlain v=true then some v else none
def thW (N:Nat):Th:=fun n=>if n<N then some (n,0,0) else none
theorem absV_S {N:Nat} {v u:Value} (h:absV N v=some u):S (thW N) u v:=by
 unfold absV at h
 split at h
 .rename_i a
  split at h
  .rename_i hq
   cases h
   refine ⟨hq.1,(a.block,0,0),by simp [thW,hq.2],?_⟩
   obtain ⟨b,o,sp⟩:=a
   obtain ⟨h1,h2⟩:=hq
   cases h1
   simp
  .cases h
 .rename_i a l c
  split at h
  .rename_i hq
   cases h
   obtain ⟨b,o,sp⟩:=a
   obtain ⟨h1,h2,h3⟩:=hq
   cases h1
   exact .inl ⟨rfl,(b,0,0),c,by simp only at h2; simp [thW,h2],.inl ⟨h3,rfl⟩,by simp⟩
  .split at h
   .rename_i hl
    cases h
    subst hl
    exact .inr ⟨by simp,rfl,Nat.le_refl _,_,_,rfl⟩
   .cases h
 .split at h
  .rename_i hp
   cases h
   exact S_plain hp
  .cases h
def bsz (w:World) (b:Nat):Nat:=match w.heap[b]? with
 | some (.cells c _ _)=>c.size
 | _=>0
def blkOf (w:World) (b:Nat) (i:Nat):Option Value:=match w.cell? ⟨b,i,none⟩ with
 | some v=>if w.frozen? ⟨b,i,none⟩=false then absV w.heap.size v else none
 | none=>none
def entW (w:World) (b:Nat):Ent:=⟨treeOf (blkOf w b) (bsz w b),0,roU,none⟩
def KW (w:World):KH:=fun b=>if b<w.heap.size then some (entW w b) else none
def snapW (w:World):Hp:=⟨treeOf (fun b=>some (entW w b)) w.heap.size,w.heap.size⟩
theorem snap_get (w:World) (k:Nat):tget (snapW w).m k=KW w k:=tree_get _ _ _
theorem KW_some {w:World} {k:Nat} {e:Ent} (h:KW w k=some e):k<w.heap.size/\e=entW w k:=by
 unfold KW at h
 split at h
 .rename_i q; cases h; exact ⟨q,rfl⟩
 .cases h
theorem HR_snap [LG] (w:World):HR (thW w.heap.size) (snapW w) w:=by
 refine ⟨fun n e x he hx=>?_,fun n m e e' x y h1 h2 hne h3 h4=>?_,fun n hn=>?_⟩
 .rw [snap_get] at he
  obtain ⟨h1,rfl⟩:=KW_some he
  have hx':x=(n,0,0):=by
   simp only [thW,if_pos h1,Option.some.injEq] at hx
   exact hx.symm
  subst hx'
  refine ⟨hx,h1,fun i v hi=>?_,fun o ho=>(by cases ho),fun hu=>⟨by simp [entW],fun i hi=>by simp at hi⟩⟩
  simp only [entW,tree_get] at hi
  split at hi
  .unfold blkOf at hi
   simp only [Nat.zero_add]
   cases hc:w.cell? ⟨n,i,none⟩ with
   | none=>rw [hc] at hi; cases hi
   | some u =>
     rw [hc] at hi
     simp only at hi
     split at hi
     .rename_i hf
      exact ⟨⟨u,rfl,absV_S hi⟩,hf⟩
     .cases hi
  .cases hi
 .unfold thW at h3 h4
  split at h3
  .split at h4
   .cases h3; cases h4; exact hne
   .cases h4
  .cases h3
 .have:¬ n<w.heap.size:=by have:w.heap.size<=n:=hn; omega
  simp [thW,this]
theorem cell_lt {w:World} {b o:Nat} {v:Value} (h:w.cell? ⟨b,o,none⟩=some v):b<w.heap.size/\o<bsz w b:=by
 unfold World.cell? at h
 unfold bsz
 cases hb:w.heap[b]? with
 | none=>simp [hb] at h
 | some ob =>
   refine ⟨(Array.getElem?_eq_some_iff.1 hb).1,?_⟩
   rw [hb] at h
   cases ob<;>simp at h ⊢
   rename_i c t fr
   exact (Array.getElem?_eq_some_iff.1 h).1
theorem KW_cell {w:World} {b o:Nat} {v u:Value} (h:w.cell? ⟨b,o,none⟩=some v) (hf:w.frozen? ⟨b,o,none⟩=false) (ha:absV w.heap.size v=some u):∃ e,KW w b=some e/\tget e.cells o=some u:=by
 obtain ⟨h1,h2⟩:=cell_lt h
 refine ⟨entW w b,by unfold KW; rw [if_pos h1],?_⟩
 simp only [entW,tree_get,if_pos h2]
 unfold blkOf
 rw [h]
 simp only [hf,if_true,ha]
theorem KW_ld {w:World} {b o:Nat} {v u:Value} (h:w.cell? ⟨b,o,none⟩=some v) (hf:w.frozen? ⟨b,o,none⟩=false) (ha:absV w.heap.size v=some u):ld (KW w) ⟨b,o,none⟩ [u]:=by
 obtain ⟨e,h1,h2⟩:=KW_cell h hf ha
 refine ⟨rfl,e,h1,?_⟩
 simp only [List.length_singleton,rd,h2]
theorem top {E:Env} (hE:EnvOk E) {g:Nat} {fn:Func} (hfn:tget E.ff g=some fn) {args cargs:List Value} {w:World} {v:Value} (hp:isPlain v=true) (hD:Does E g args (KW w) fun r _=>r=v) (ha:all2 (W (thW w.heap.size)) args cargs) :
 Calls E.P g cargs.toArray w fun e w'=>e = .returned v/\Below w.heap.size w w':=by
 letI:=lgOf E
 obtain ⟨r,h',H',⟨n,hrun⟩,hq,_⟩:=hD.run (snapW w) (fun k hk=>by
  rw [snap_get]
  have:¬ k<w.heap.size:=by have:w.heap.size<=k:=hk; omega
  simp [KW,this]) (fun k e q=>by rw [snap_get]; exact q)
 subst hq
 rcases (call_sound hE (lgOf_ok E) (ev_sound hE (lgOf_ok E) n) (snapW w) g args r h' (hrun n (Nat.le_refl _)) (thW w.heap.size) w cargs (HR_snap w) ha).1 hD.lt with ⟨_,h2⟩ | ⟨u,h1,_,_⟩
 .refine h2.mono fun e w' hq=>?_
  obtain ⟨θ',u,rfl,q1,q2,q3⟩:=hq
  rw [W_plain hp q3]
  refine ⟨rfl,q1.os,q1.tape,q1.output,q1.size,fun k hk=>q1.frame k hk fun n e x q hu _=>?_⟩
  rw [snap_get] at q
  obtain ⟨_,rfl⟩:=KW_some q
  exact absurd rfl hu
 .exfalso
  obtain ⟨f1,f2,c',f3,_⟩:=hE.ff g fn hfn
  have f2' : ¬ fn.name = "runtime.NumGoroutine" := fun e => by rw [e] at f2; simp at f2
  simp [callFunc,f1,f2',f3] at h1
section
variable {H : Type} {enc : TypeId × Value -> H} {P : Program} {w : World}
theorem cells_get {b n:Nat} {a:Addr} {cs:List Value} (h:w.cells? b a n=some cs):cs.length=n/\∀ i v,cs[i]? = some v->w.cell? (a.add i)=some v:=by
 unfold World.cells? at h
 split at h
 .refine ⟨by simpa using mapM_some_length h,fun i v hv=>?_⟩
  have hi:i<n:=by
   have:=mapM_some_length h
   rcases Nat.lt_or_ge i n with q | q
   .exact q
   .rw [List.getElem?_eq_none (by simp at this; omega)] at hv; cases hv
  have:=mapM_some_get h i i (by simp [hi])
  rw [this]; exact hv
 .cases h
theorem cell_spot {a:Addr} {v:Value} (h:w.cell? a=some v):a.spot=none:=by
 unfold World.cell? at h
 cases hs:a.spot with
 | none=>rfl
 | some s =>
   rw [hs] at h
   split at h<;>simp_all
theorem arg_slice {t e:TypeId} {v:Value} {d:DataW H} {ps:List MemPlace} (ht:P.underlying t=some (.slice e)) (he:P.cellsOf e=1) (h:DataW.Trod enc P w 0 (fun _=>true) true t v d ps) (hf:w.noneFrozen ps) (hv:∃ a l c,v = .slice a l c) :
 ∃ a n c,absV w.heap.size v=some (.slice a n c)/\∀ i,i<n->∃ b o x y m,a=some ⟨b,o,none⟩/\w.cell? ⟨b,o+i,none⟩=some x/\w.frozen? ⟨b,o+i,none⟩=false/\DataW.trod enc P w 0 (fun _=>true) true m e [x]=some y/\∀ p∈y.2,p∈ps:=by
 obtain ⟨fuel,hd⟩:=h
 obtain ⟨a0,l0,c0,rfl⟩:=hv
 have hcs:(Value.slice a0 l0 c0).cells.toList=[.slice a0 l0 c0]:=rfl
 rw [hcs] at hd
 rcases DataW.trod_slice ht hd with ⟨h1,h2⟩ | ⟨a,len,cap,elems,rest,n,_,h1,h2,_,h3,h4,h5,h6,_⟩
 .cases h1
  exact ⟨none,0,0,rfl,fun i hi=>by omega⟩
 .cases h1
  simp only [Prod.mk.injEq] at h2
  obtain ⟨rfl,rfl⟩:=h2
  have hmax:maxLen<unkU:=by decide
  by_cases hl:l0=0
  .subst hl
   have hab:absV w.heap.size (.slice (some a) 0 c0)=if a.spot=none/\a.block<w.heap.size/\c0<unkU then some (.slice (some a) 0 c0) else if 0=0 then some vague else none:=rfl
   by_cases hq:a.spot=none/\a.block<w.heap.size/\c0<unkU
   .rw [if_pos hq] at hab
    exact ⟨_,_,_,hab,fun i hi=>by omega⟩
   .rw [if_neg hq,if_pos rfl] at hab
    exact ⟨_,_,_,hab,fun i hi=>by omega⟩
  .have elem:∀ i,i<l0->∃ x y,w.cell? (a.add i)=some x/\DataW.trod enc P w 0 (fun _=>true) true n e [x]=some y/\y∈elems:=by
    intro i hi
    have h7:=h6 i hi
    rw [List.getElem?_eq_getElem (by omega)] at h7
    obtain ⟨cs,k1,k2⟩:=Option.bind_eq_some_iff.1 h7
    obtain ⟨k3,k4⟩:=cells_get k1
    rw [he] at k3 k4
    match cs,k3 with
    | [x],_ =>
      have k5:=k4 0 x rfl
      have e1:(a.add (i*1)).add 0=a.add i:=by
       rw [Nat.mul_one]
       generalize a.add i=z
       obtain ⟨b,o,sp⟩:=z
       unfold Addr.add
       simp
      rw [e1] at k5
      exact ⟨x,_,k5,k2,List.getElem_mem _⟩
   obtain ⟨x0,_,c1,_,_⟩:=elem 0 (by omega)
   have hs:a.spot=none:=by
    have:=cell_spot c1
    obtain ⟨b,o,sp⟩:=a
    unfold Addr.add at this
    simpa using this
   obtain ⟨b,o,sp⟩:=a
   cases hs
   rw [add_addr] at c1
   have hb:=(cell_lt c1).1
   have hcu:c0<unkU:=by omega
   refine ⟨some ⟨b,o,none⟩,l0,c0,by simp [absV,hb,hcu],fun i hi=>?_⟩
   obtain ⟨x,y,k1,k2,k3⟩:=elem i hi
   rw [add_addr] at k1
   refine ⟨b,o,x,y,n,rfl,k1,hf b (o+i) ?_,k2,fun p hp=>?_⟩
   .refine List.mem_append_left _ ?_
    unfold MemPlace.row
    rw [he,Nat.mul_one]
    exact List.mem_map.2 ⟨i,by simp; omega,rfl⟩
   .refine List.mem_append_right _ (List.mem_flatMap.2 ⟨y,by simp [k3],hp⟩)
theorem trod_int {t:TypeId} {k:IntKind} {x:Value} {m:Nat} {y:DataW H × List MemPlace} (ht:P.underlying t=some (.int k)) (h:DataW.trod enc P w 0 (fun _=>true) true m t [x]=some y):∃ n,x = .int k n/\(Lit.int k n).wf=true/\y=(.lit (.int k n),[]):=by
 cases m with
 | zero=>simp [DataW.trod] at h
 | succ m =>
   unfold DataW.trod at h
   rw [ht] at h
   cases x<;>simp at h
   rename_i k' n
   obtain ⟨⟨rfl,h2⟩,h3⟩:=h
   exact ⟨n,rfl,h2,h3.symm⟩
theorem trodAll_below {W W':World} (hl:laidOutB P=true) (hb:Below W.heap.size W W'):∀ (ts:List TypeId) (vs:List Value) (ds:List (DataW H)) (ps:List MemPlace),(∀ t∈ts,P.readableRec t=true/\t<P.types.size)->
 DataW.TrodAll enc P W 0 (fun _=>true) true ts vs ds ps->(∀ x∈ps,x.block<W.heap.size)->DataW.TrodAll enc P W' 0 (fun b=>decide (b<W.heap.size)) true ts vs ds ps
 | [],[],[],ps,_,h,_=>h
 | t :: ts,v :: vs,d :: ds,ps,ht,⟨p,q,h1,h2,h3⟩,hlt=>by
   subst h3
   exact ⟨p,q,Below.trod hl (ht t (by simp)).1 (ht t (by simp)).2 h1 hb (fun x hx=>hlt x (by simp [hx])),trodAll_below hl hb ts vs ds q (fun t' h'=>ht t' (by simp [h'])) h2 (fun x hx=>hlt x (by simp [hx])),rfl⟩
 | [],_ :: _,_,_,_,h,_=>by cases h
 | [],[],_ :: _,_,_,h,_=>by cases h
 | _ :: _,[],_,_,_,h,_=>by cases h
 | _ :: _,_ :: _,[],_,_,h,_=>by cases h
theorem arg_u8 {t e:TypeId} {v:Value} {d:DataW H} {ps:List MemPlace} (ht:P.underlying t=some (.slice e)) (he:P.cellsOf e=1) (hu:P.underlying e=some (.int .u8)) (h:DataW.Trod enc P w 0 (fun _=>true) true t v d ps) (hf:w.noneFrozen ps) (hv:∃ a l c,v = .slice a l c) :
 ∃ a n c,absV w.heap.size v=some (.slice a n c)/\∀ i,i<n->∃ b o x,a=some ⟨b,o,none⟩/\ld (KW w) ⟨b,o+i,none⟩ [.int .u8 x]/\0<=x/\x<=255:=by
 obtain ⟨a,n,c,h1,h2⟩:=arg_slice ht he h hf hv
 refine ⟨a,n,c,h1,fun i hi=>?_⟩
 obtain ⟨b,o,x,y,m,k1,k2,k3,k4,_⟩:=h2 i hi
 obtain ⟨z,rfl,hz,_⟩:=trod_int hu k4
 refine ⟨b,o,z,k1,KW_ld k2 k3 rfl,?_⟩
 simp only [Lit.wf,Bool.and_eq_true,decide_eq_true_eq] at hz
 have e1:IntKind.min .u8=0:=by decide
 have e2:IntKind.max .u8=255:=by decide
 omega
theorem absV_W {N:Nat} {v u:Value} (h:absV N v=some u):W (thW N) u v:=W_of_S (absV_S h)
end
end Go.Ew
