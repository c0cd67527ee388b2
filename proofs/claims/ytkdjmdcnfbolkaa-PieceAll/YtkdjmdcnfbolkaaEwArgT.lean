import Derived.Test.YtkdjmdcnfbolkaaEwVc1
set_option linter.unusedVariables false
set_option linter.unusedSimpArgs false
namespace Go.Ew
open Go.Ev Go.Deep Go.RowKit
theorem ld_three {H:KH} {b o:Nat} {x y z:Value} (h0:ld H ⟨b,o,none⟩ [x]) (h1:ld H ⟨b,o+1,none⟩ [y]) (h2:ld H ⟨b,o+2,none⟩ [z]):ld H ⟨b,o,none⟩ [x,y,z]:=by
 obtain ⟨_,e,p,r0⟩:=h0
 obtain ⟨_,e1,p1,r1⟩:=h1
 obtain ⟨_,e2,p2,r2⟩:=h2
 have p:H b=some e:=p
 have p1:H b=some e1:=p1
 have p2:H b=some e2:=p2
 rw [p] at p1 p2
 cases p1; cases p2
 have one:∀ {o:Nat} {v:Value},rd e.cells o 1=some [v]->tget e.cells o=some v:=fun {o v} h=>by
  simp only [rd] at h
  cases hq:tget e.cells o with
  | none=>rw [hq] at h; cases h
  | some u=>rw [hq] at h; simp at h; rw [h]
 refine ⟨rfl,e,p,?_⟩
 show rd e.cells o 3=_
 have k0:=one r0
 have k1:=one r1
 have k2:=one r2
 simp only [rd,k0,k1,show o+1+1=o+2 from rfl,k2]
section
variable {H : Type} {enc : TypeId × Value -> H} {P : Program} {w : World}
theorem arg_spl {t e:TypeId} {f0 f1 f2:Field} {v:Value} {d:DataW H} {ps:List MemPlace} (ht:P.underlying t=some (.slice e)) (he:P.underlying e=some (.struct #[f0,f1,f2])) (ce:P.cellsOf e=3) (o0:f0.offset=0) (o1:f1.offset=1) (o2:f2.offset=2)
 (c0':P.cellsOf f0.type=1) (c1':P.cellsOf f1.type=1) (c2':P.cellsOf f2.type=1) (u0:P.underlying f0.type=some (.int .i64)) (u1:P.underlying f1.type=some (.int .i64)) (u2:P.underlying f2.type=some .string)
 (h:DataW.Trod enc P w 0 (fun _=>true) true t v d ps) (hf:w.noneFrozen ps) (hv:∃ a l c,v = .slice a l c) :
 ∃ a n c,absV w.heap.size v=some (.slice a n c)/\∀ i,i<n->∃ b o x y s,a=some ⟨b,o,none⟩/\ld (KW w) ⟨b,o+i*3,none⟩ [.int .i64 x,.int .i64 y,.string s]/\ld (KW w) ⟨b,o+i*3+2,none⟩ [.string s]/\x<9223372036854775808:=by
 obtain ⟨fuel,hd⟩:=h
 obtain ⟨a0,l0,c0,rfl⟩:=hv
 have hcs:(Value.slice a0 l0 c0).cells.toList=[.slice a0 l0 c0]:=rfl
 rw [hcs] at hd
 rcases DataW.trod_slice ht hd with ⟨h1,h2⟩ | ⟨a,len,cap,elems,rest,n,_,h1,h2,_,h3,h4,h5,h6,_⟩
 .cases h1
  exact ⟨none,0,0,rfl,fun i hi=>by omega⟩
 .cases h1
  simp only [Prod.mk.injEq] at h2
  obtain ⟨rfl,rfl⟩:=h2
  have hmax:maxLen<unkU:=by decide
  by_cases hl:l0=0
  .subst hl
   have hab:absV w.heap.size (.slice (some a) 0 c0)=if a.spot=none/\a.block<w.heap.size/\c0<unkU then some (.slice (some a) 0 c0) else if 0=0 then some vague else none:=rfl
   by_cases hq:a.spot=none/\a.block<w.heap.size/\c0<unkU
   .rw [if_pos hq] at hab
    exact ⟨_,_,_,hab,fun i hi=>by omega⟩
   .rw [if_neg hq,if_pos rfl] at hab
    exact ⟨_,_,_,hab,fun i hi=>by omega⟩
  .have elem:∀ i,i<l0->∃ cs y,w.cells? 0 (a.add (i*3)) 3=some cs/\DataW.trod enc P w 0 (fun _=>true) true n e cs=some y/\y∈elems:=by
    intro i hi
    have h7:=h6 i hi
    rw [List.getElem?_eq_getElem (by omega),ce] at h7
    obtain ⟨cs,k1,k2⟩:=Option.bind_eq_some_iff.1 h7
    exact ⟨cs,_,k1,k2,List.getElem_mem _⟩
   obtain ⟨cs0,_,z1,z2,_⟩:=elem 0 (by omega)
   obtain ⟨z3,z4⟩:=cells_get z1
   have hsb:a.spot=none/\a.block<w.heap.size:=by
    match cs0,z3 with
    | [],z3=>simp at z3
    | x :: _,_ =>
      have z5:=z4 0 x rfl
      have z6:=cell_spot z5
      obtain ⟨b,o,sp⟩:=a
      have:sp=none:=by simpa [Addr.add] using z6
      subst this
      rw [add_addr,add_addr] at z5
      exact ⟨rfl,(cell_lt z5).1⟩
   obtain ⟨b,o,sp⟩:=a
   obtain ⟨hsp,hb⟩:=hsb
   cases hsp
   have hcu:c0<unkU:=by omega
   refine ⟨some ⟨b,o,none⟩,l0,c0,by simp [absV,hb,hcu],fun i hi=>?_⟩
   obtain ⟨cs,y,k1,k2,k3⟩:=elem i hi
   obtain ⟨k4,k5⟩:=cells_get k1
   obtain ⟨xs,m,rfl,rfl,hlen,hxl,hfs⟩:=DataW.trod_struct he k2
   rw [ce] at hlen
   have hxl:xs.length=3:=hxl
   match cs,hlen,xs,hxl with
   | [d0,d1,d2],_,[y0,y1,y2],_ =>
     have q0:=hfs 0 f0 rfl
     have q1:=hfs 1 f1 rfl
     have q2:=hfs 2 f2 rfl
     rw [o0,c0'] at q0
     rw [o1,c1'] at q1
     rw [o2,c2'] at q2
     have q0:DataW.trod enc P w 0 (fun _=>true) true m f0.type [d0]=some y0:=q0
     have q1:DataW.trod enc P w 0 (fun _=>true) true m f1.type [d1]=some y1:=q1
     have q2:DataW.trod enc P w 0 (fun _=>true) true m f2.type [d2]=some y2:=q2
     obtain ⟨x,rfl,hx,_⟩:=trod_int u0 q0
     obtain ⟨y,rfl,_,_⟩:=trod_int u1 q1
     obtain ⟨s,hs,_,_⟩:=DataW.trod_string u2 q2
     cases hs
     have fz:∀ j,j<3->w.frozen? ⟨b,o+i*3+j,none⟩=false:=fun j hj=>by
      refine hf b (o+i*3+j) (List.mem_append_left _ ?_)
      unfold MemPlace.row
      rw [ce]
      exact List.mem_map.2 ⟨i*3+j,by simp only [List.mem_range]; omega,by simp [Nat.add_assoc]⟩
     have w0:=k5 0 _ rfl
     have w1:=k5 1 _ rfl
     have w2:=k5 2 _ rfl
     rw [add_addr,add_addr] at w0 w1 w2
     simp only [Lit.wf,Bool.and_eq_true,decide_eq_true_eq] at hx
     have e2:IntKind.max .i64=9223372036854775807:=by decide
     have g2:=KW_ld w2 (fz 2 (by omega)) rfl
     exact ⟨b,o,x,y,s,rfl,ld_three (KW_ld w0 (fz 0 (by omega)) rfl) (KW_ld w1 (fz 1 (by omega)) rfl) g2,g2,by omega⟩
end
end Go.Ew
