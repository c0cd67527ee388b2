import Derived.Test.YtibkijpnkmccpaaEvOps2
import Derived.IntWalk
import Derived.Lib.ConvBytes
set_option linter.unusedVariables false
set_option linter.unusedSimpArgs false
namespace Go.Ev
open Go.Deep Go.RowKit
theorem catB_eq (s t:ByteArray):catB s t=s++t:=by
 apply ByteArray.ext
 apply Array.toList_inj.1
 rw [ByteArray.data_append,Array.toList_append]
 rfl
theorem catB_size (s t:ByteArray):(catB s t).size=s.size+t.size:=by rw [catB_eq,ByteArray.size_append]
theorem catB_cells (s t:ByteArray):Lib.strCells (catB s t)=Lib.strCells s++Lib.strCells t:=by
 unfold Lib.strCells catB
 simp only [List.map_append]
structure BAft (w:World) (b T e:Nat) (v v':Value) (s t:ByteArray) (w':World):Prop where
 here:∃ p,w'.heap[b]? = some (.cells #[p,v'] T (0,0))/\(p = .pointer none\/p = .pointer (some ⟨b,0,none⟩))
 owns:w'.ownsRow 0 e 1 v' (s.size+t.size) (Lib.strCells s++Lib.strCells t)
 ne:v'.ownBlock≠some b
 nil:v' = .slice none 0 0↔v = .slice none 0 0/\t.size=0
 new:∀ k,v'.ownBlock=some k->v.ownBlock=some k\/w.heap.size<=k
 frame:∀ k,k<w.heap.size->k≠b->v.ownBlock≠some k->w'.heap[k]? = w.heap[k]?
 size:w.heap.size<=w'.heap.size
 tape:w'.tape=w.tape
 os:w'.os=w.os
 output:w'.output=w.output
structure BIs (w:World) (b T e:Nat) (v:Value) (s:ByteArray):Prop where
 here:∃ p,w.heap[b]? = some (.cells #[p,v] T (0,0))/\(p = .pointer none\/p = .pointer (some ⟨b,0,none⟩))
 owns:w.ownsRow 0 e 1 v s.size (Lib.strCells s)
 ne:v.ownBlock≠some b
 le:s.size<=1000000
 pos:v≠.slice none 0 0->0<s.size
def Writes (P:Program) (g T e:Nat):Prop:=∀ (b:Nat) (v:Value) (s t:ByteArray) (w:World),BIs w b T e v s->t.size<=1000000->
 (callFunc g #[.pointer (some ⟨b,0,none⟩),.string t]).run P w = .ok (.enter g #[.pointer (some ⟨b,0,none⟩),.string t]) w/\
 Calls P g #[.pointer (some ⟨b,0,none⟩),.string t] w fun x w'=>x = .returned (.tuple #[.int .i64 (t.size:Nat),.nilIface])/\∃ v',BAft w b T e v v' s t w'
structure BTold (w:World) (v:Value) (w':World):Prop where
 frame:∀ k,k<w.heap.size->v.ownBlock≠some k->w'.heap[k]? = w.heap[k]?
 size:w.heap.size<=w'.heap.size
 tape:w'.tape=w.tape
 os:w'.os=w.os
 output:w'.output=w.output
def Says (P:Program) (g T e:Nat):Prop:=∀ (b:Nat) (v:Value) (s:ByteArray) (w:World),BIs w b T e v s->
 (callFunc g #[.pointer (some ⟨b,0,none⟩)]).run P w = .ok (.enter g #[.pointer (some ⟨b,0,none⟩)]) w/\
 Calls P g #[.pointer (some ⟨b,0,none⟩)] w fun x w'=>x = .returned (.string s)/\BTold w v w'
def Clones (P:Program) (g:Nat):Prop:=∀ (s:ByteArray) (w:World),s.size<=1000000->(callFunc g #[.string s]).run P w = .ok (.enter g #[.string s]) w/\
 Calls P g #[.string s] w fun x w'=>x = .returned (.string s)/\Below w.heap.size w w'
theorem EntR.kept [LG] {θ θ':Th} {w w':World} {n:Nat} {e:Ent} {x:Nat × Nat × Nat} (r:EntR θ w n e x) (hk:∀ n x,θ n=some x->θ' n=some x) (hb:w'.heap[x.1]? = w.heap[x.1]?) (hs:w.heap.size<=w'.heap.size):EntR θ' w' n e x:=by
 refine ⟨hk _ _ r.at_,Nat.lt_of_lt_of_le r.lt hs,fun i v hv=>?_,fun q hq=>(by rw [hb]; exact ObR_mono hk (r.ob q hq)),fun hu=>?_⟩
 .rw [World.cell?_of_block (w:=w) hb,World.frozen?_of_block (w:=w) hb]
  obtain ⟨⟨u,h1,h2⟩,h3⟩:=r.cell i v hv
  exact ⟨⟨u,h1,S_mono hk h2⟩,h3⟩
 .obtain ⟨h1,h2⟩:=r.room hu
  refine ⟨h1,fun i hi=>?_⟩
  rw [World.cell?_of_block (w:=w) hb,World.frozen?_of_block (w:=w) hb]; exact h2 i hi
theorem EntR.obj [LG] {θ:Th} {w:World} {n:Nat} {x:Nat × Nat × Nat} {o:Ob} (h1:θ n=some x) (h2:x.1<w.heap.size) (h3:ObR θ w.heap[x.1]? o):EntR θ w n (obE o) x :=
 ⟨h1,h2,fun i v hi=>(by cases hi),fun q hq=>(by cases hq; exact h3),fun hu=>absurd rfl hu⟩
theorem bld_new [LG] {θ:Th} {h:Hp} {w w':World} (hr:HR θ h w) {b T e g n cap:Nat} {x:Nat × Nat × Nat} {p:Value} {cur:Array Value} {s:ByteArray} {m0:BT (Option Ent)} (hx:θ b=some x) (hx0:x.2.1=0) {eb:Ent} (heb:tget h.m b=some eb) (hub:eb.unk≠roU)
 (hm0:∀ k ek,tget m0 k=some ek->tget h.m k=some ek) (hp:p = .pointer none\/p = .pointer (some ⟨x.1,0,none⟩)) (h1:w'.heap[x.1]? = some (.cells #[p,.slice (some ⟨g,0,none⟩) n cap] T (0,0))) (h2:w'.heap[g]? = some (.cells cur e (0,0)))
 (hc:cur.size=cap) (hn:s.size<=cap) (hm:cap<=maxLen) (ht:cur.toList.take s.size=Lib.strCells s) (hs:s.size=n) (h0:0<n) (hne:g≠x.1)
 (hold:w.heap.size<=g\/∃ nb en z,tget h.m nb=some en/\en.unk≠roU/\θ nb=some z/\z.1=g/\tget m0 nb=none)
 (hf:∀ k ek y,tget m0 k=some ek->k≠b->θ k=some y->w'.heap[y.1]? = w.heap[y.1]?)
 (hfr:∀ k,k<w.heap.size->(∀ n e x,tget h.m n=some e->e.unk≠roU->θ n=some x->x.1≠k)->w'.heap[k]? = w.heap[k]?)
 (hsz:w.heap.size<=w'.heap.size) (htp:w'.tape=w.tape) (hos:w'.os=w.os) (hou:w'.output=w.output) :
 ∃ θ',Ext h.nxt θ h w θ' ⟨tset (tset m0 h.nxt (some (obE (.byt e h.nxt s)))) b (some (obE (.bld T e b (some (h.nxt,n))))),h.nxt+1⟩ w'/\HR θ' ⟨tset (tset m0 h.nxt (some (obE (.byt e h.nxt s)))) b (some (obE (.bld T e b (some (h.nxt,n))))),h.nxt+1⟩ w':=by
 have hnn:θ h.nxt=none:=hr.fresh _ (Nat.le_refl _)
 have hbn:h.nxt≠b:=fun q=>by rw [q,hx] at hnn; cases hnn
 have hkeep:∀ k y,θ k=some y->(fun k=>if k=h.nxt then some (g,0,cap) else θ k) k=some y:=by
  intro k y hy
  have:k≠h.nxt:=fun q=>by rw [q,hnn] at hy; cases hy
  simp only [if_neg this,hy]
 have hnew:(fun k=>if k=h.nxt then some (g,0,cap) else θ k) h.nxt=some (g,0,cap):=by simp
 have hgl:g<w'.heap.size:=(Array.getElem?_eq_some_iff.1 h2).1
 have hxl:x.1<w'.heap.size:=(Array.getElem?_eq_some_iff.1 h1).1
 have cls:∀ k ek y,tget (tset (tset m0 h.nxt (some (obE (.byt e h.nxt s)))) b (some (obE (.bld T e b (some (h.nxt,n)))))) k=some ek->(if k=h.nxt then some (g,0,cap) else θ k)=some y->
  (k=b/\y=x/\ek=obE (.bld T e b (some (h.nxt,n))))\/(k≠b/\k=h.nxt/\y=(g,0,cap)/\ek=obE (.byt e h.nxt s))\/(k≠b/\k≠h.nxt/\tget m0 k=some ek/\θ k=some y):=by
  intro k ek y q1 q2
  simp only [tget_tset] at q1
  by_cases e1:b=k
  .subst e1
   rw [if_pos rfl] at q1
   rw [if_neg (Ne.symm hbn),hx] at q2
   cases q1; cases q2
   exact .inl ⟨rfl,rfl,rfl⟩
  .rw [if_neg e1] at q1
   by_cases e2:h.nxt=k
   .rw [if_pos e2] at q1
    rw [if_pos e2.symm] at q2
    cases q1; cases q2
    exact .inr (.inl ⟨Ne.symm e1,e2.symm,rfl,rfl⟩)
   .rw [if_neg e2] at q1
    rw [if_neg (Ne.symm e2)] at q2
    exact .inr (.inr ⟨Ne.symm e1,Ne.symm e2,q1,q2⟩)
 have hgo:∀ k ek y,k≠b->tget m0 k=some ek->θ k=some y->y.1≠g:=by
  intro k ek y _ q1 q2
  rcases hold with z | ⟨nb,en,z,z1,z2,z3,z4,z5⟩
  .have:=(hr.ent _ _ _ (hm0 _ _ q1) q2).lt; omega
  .have:k≠nb:=fun q=>by rw [q,z5] at q1; cases q1
   rw [<- z4]
   exact hr.sep _ _ _ _ _ _ (hm0 _ _ q1) z1 this q2 z3
 have hxo:∀ k ek y,k≠b->tget m0 k=some ek->θ k=some y->y.1≠x.1:=fun k ek y q0 q1 q2=>hr.sep _ _ _ _ _ _ (hm0 _ _ q1) heb q0 q2 hx
 refine ⟨fun k=>if k=h.nxt then some (g,0,cap) else θ k,⟨hkeep,fun k q1 q2=>by simp only [if_neg q2],by simp,hsz,htp,hos,hou,hfr,?_,?_⟩,⟨?_,?_,?_⟩⟩
 .intro k ek y q1 hu q2
  rcases cls k ek y q1 q2 with ⟨_,rfl,_⟩ | ⟨_,_,rfl,_⟩ | ⟨_,_,q3,q4⟩
  .exact .inr ⟨b,eb,_,heb,hub,hx,rfl⟩
  .rcases hold with z | ⟨nb,en,z,z1,z2,z3,z4,z5⟩
   .exact .inl z
   .exact .inr ⟨nb,en,z,z1,z2,z3,z4⟩
  .exact .inr ⟨k,ek,y,hm0 _ _ q3,hu,q4,rfl⟩
 .intro k ek y q1 q2
  rcases cls k ek y q1 q2 with ⟨_,rfl,_⟩ | ⟨_,_,rfl,_⟩ | ⟨_,_,q3,q4⟩
  .exact .inr ⟨b,eb,_,heb,hx,rfl⟩
  .rcases hold with z | ⟨nb,en,z,z1,z2,z3,z4,z5⟩
   .exact .inl z
   .exact .inr ⟨nb,en,z,z1,z3,z4⟩
  .exact .inr ⟨k,ek,y,hm0 _ _ q3,q4,rfl⟩
 .intro k ek y q1 q2
  rcases cls k ek y q1 q2 with ⟨rfl,rfl,rfl⟩ | ⟨_,rfl,rfl,rfl⟩ | ⟨q0,_,q3,q4⟩
  .refine EntR.obj (hkeep _ _ hx) hxl (BldR.mk ⟨y,p,_,hkeep _ _ hx,hx0,h1,hp,.inr ⟨h.nxt,n,(g,0,cap),rfl,h0,hnew,rfl⟩⟩)
  .exact EntR.obj hnew hgl (BytR.mk ⟨(g,0,cap),cur,hnew,h2,hc,hn,hm,ht⟩)
  .exact (hr.ent _ _ _ (hm0 _ _ q3) q4).kept hkeep (hf _ _ _ q3 q0 q4) hsz
 .intro k l e1 e2 y z q1 q2 hkl t1 t2
  rcases cls k e1 y q1 t1 with ⟨rfl,rfl,rfl⟩ | ⟨a1,rfl,rfl,rfl⟩ | ⟨a1,a2,a3,a4⟩<;>rcases cls l e2 z q2 t2 with ⟨rfl,rfl,rfl⟩ | ⟨b1,rfl,rfl,rfl⟩ | ⟨b1,b2,b3,b4⟩
  .exact absurd rfl hkl
  .exact Ne.symm hne
  .exact Ne.symm (hxo _ _ _ b1 b3 b4)
  .exact hne
  .exact absurd rfl hkl
  .exact Ne.symm (hgo _ _ _ b1 b3 b4)
  .exact hxo _ _ _ a1 a3 a4
  .exact hgo _ _ _ a1 a3 a4
  .exact hr.sep _ _ _ _ _ _ (hm0 _ _ a3) (hm0 _ _ b3) hkl a4 b4
 .intro k hk
  have hk:h.nxt+1<=k:=hk
  have:k≠h.nxt:=by omega
  simp only [if_neg this]
  exact hr.fresh k (by omega)
theorem getOb_spec {h:Hp} {n:Nat} {o:Ob} (hg:getOb h n=some o):∃ e,tget h.m n=some e/\e.ob=some o/\e.unk≠roU:=by
 unfold getOb at hg
 split at hg
 .rename_i e he
  cases hu0:Nat.beq e.unk 0<;>simp only [hu0,cond_true,cond_false,reduceCtorEq] at hg
  exact ⟨e,he,hg,by rw [Nat.eq_of_beq_eq_true hu0]; unfold roU; omega⟩
 .cases hg
theorem optB_eq {a:Option Nat} {b:Nat} (h:optB a b=true):a=some b:=by
 cases a with
 | none=>cases h
 | some a=>rw [Nat.eq_of_beq_eq_true h]
theorem bld_is [LG] {θ:Th} {h:Hp} {w:World} (hr:HR θ h w) {b T e:Nat} {buf:Option (Nat × Nat)} (hg:getOb h b=some (.bld T e b buf)) {x:Nat × Nat × Nat} (hx:θ b=some x) :
 x.2.1=0/\∃ p v,w.heap[x.1]? = some (.cells #[p,v] T (0,0))/\(p = .pointer none\/p = .pointer (some ⟨x.1,0,none⟩))/\
  ((buf=none/\v = .slice none 0 0)\/∃ nb n z,buf=some (nb,n)/\0<n/\θ nb=some z/\v = .slice (some ⟨z.1,0,none⟩) n z.2.2):=by
 obtain ⟨eb,k1,k2,k3⟩:=getOb_spec hg
 obtain ⟨y,p,v,g1,g2,g3,g4,g5⟩:=((hr.ent _ _ _ k1 hx).ob _ k2:BldR θ _ T b buf).ex
 rw [hx] at g1
 cases g1
 exact ⟨g2,p,v,g3,g4,g5⟩
theorem row_is [LG] {θ:Th} {h:Hp} {w:World} (hr:HR θ h w) {nb e n:Nat} {s:ByteArray} (hg:getOb h nb=some (.byt e nb s)) {z:Nat × Nat × Nat} (hz:θ nb=some z) (hn:s.size=n):w.ownsRow 0 e 1 (.slice (some ⟨z.1,0,none⟩) n z.2.2) s.size (Lib.strCells s):=by
 obtain ⟨eb,k1,k2,k3⟩:=getOb_spec hg
 obtain ⟨y,cs,g1,g2,g3,g4,g5,g6⟩:=((hr.ent _ _ _ k1 hz).ob _ k2:BytR θ _ e nb s).ex
 rw [hz] at g1
 cases g1
 refine ⟨by rw [Lib.strCells_length,Nat.mul_one],.inr ⟨z.1,z.2.2,cs,by rw [hn],Nat.zero_le _,g2,g4,g5,by rw [Nat.mul_one]; exact g3,by rw [Nat.mul_one]; exact g6⟩⟩
theorem write_sound [LG] {E:Env} {θ:Th} {h h':Hp} {w:World} (hr:HR θ h w) {b:Nat} {t:ByteArray} (hx:xWrite E b t h=some h') {x:Nat × Nat × Nat} (hb:θ b=some x) :
 x.2.1=0/\t.size<=1000000/\∃ T e v s,bldK E T=some e/\BIs w x.1 T e v s/\∀ v' w',BAft w x.1 T e v v' s t w'->∃ θ',Ext h.nxt θ h w θ' h' w'/\HR θ' h' w':=by
 unfold xWrite at hx
 split at hx
 .rename_i T e self buf hg
  cases hq:(Nat.beq self b&&optB (bldK E T) e&&Nat.ble t.size 1000000)<;>simp only [hq,cond_true,cond_false,reduceCtorEq] at hx
  simp only [Bool.and_eq_true] at hq
  obtain ⟨⟨hq1,hq2⟩,hq3⟩:=hq
  have hq1:=Nat.eq_of_beq_eq_true hq1
  subst hq1
  have hq3:t.size<=1000000:=Nat.le_of_ble_eq_true hq3
  obtain ⟨hx0,p,v,g1,g2,g3⟩:=bld_is hr hg hb
  obtain ⟨eb,k1,k2,k3⟩:=getOb_spec hg
  refine ⟨hx0,hq3,T,e,v,?_⟩
  rcases g3 with ⟨rfl,rfl⟩ | ⟨nb,n,z,rfl,g4,g5,rfl⟩
  .refine ⟨⟨#[]⟩,optB_eq hq2,⟨⟨p,g1,g2⟩,World.ownsRow_nil w 0 e 1,(by intro q; cases q),Nat.zero_le _,fun q=>absurd rfl q⟩,fun v' w' a=>?_⟩
   obtain ⟨p',a1,a2⟩:=a.here
   simp only at hx
   cases hz:Nat.beq t.size 0<;>simp only [hz,cond_true,cond_false,Option.some.injEq] at hx
   .have ht0:t.size≠0:=fun q=>by rw [q] at hz; cases hz
    have hv':v'≠.slice none 0 0:=fun q=>ht0 (a.nil.1 q).2
    rcases a.owns.2 with ⟨q,_⟩ | ⟨g,cap,cur,q1,_,q2,q3,q4,q5,q6⟩
    .exact absurd q hv'
    .subst hx
     have q1:v' = .slice (some ⟨g,0,none⟩) (0+t.size) cap:=q1
     rw [Nat.zero_add] at q1
     have hsz0:(⟨#[]⟩:ByteArray).size=0:=rfl
     rw [hsz0,Nat.zero_add,Nat.mul_one] at q6
     rw [Nat.mul_one] at q5
     have q6:cur.toList.take t.size=Lib.strCells t:=q6
     subst q1
     have hg':=a.new g rfl
     refine bld_new hr (m0:=h.m) hb hx0 k1 k3 (fun _ _ q=>q) a2 a1 q2 q5 (by simpa [hsz0] using q3) q4 q6 rfl (by omega) (fun q=>a.ne (by rw [<- q]; rfl)) (.inl ?_) (fun k ek y r1 r2 r3=>a.frame _ (hr.ent _ _ _ r1 r3).lt (hr.sep _ _ _ _ _ _ r1 k1 r2 r3 hb) (by intro q; cases q)) (fun k r1 r2=>a.frame k r1 (fun q=>r2 _ _ _ k1 k3 hb q.symm) (by intro q; cases q)) a.size a.tape a.os a.output
     rcases hg' with q | q
     .cases q
     .exact q
   .subst hx
    have ht0:t.size=0:=Nat.eq_of_beq_eq_true hz
    have hv':v' = .slice none 0 0:=a.nil.2 ⟨rfl,ht0⟩
    subst hv'
    have down:∀ k ek,tget (tset h.m self (some (obE (.bld T e self none)))) k=some ek->(k=self/\ek=obE (.bld T e self none))\/(k≠self/\tget h.m k=some ek):=by
     intro k ek r1
     rw [tget_tset] at r1
     by_cases q:self=k
     .rw [if_pos q] at r1; cases r1; exact .inl ⟨q.symm,rfl⟩
     .rw [if_neg q] at r1; exact .inr ⟨Ne.symm q,r1⟩
    refine ⟨θ,⟨fun _ _ q=>q,fun _ _ _=>rfl,Nat.le_refl _,a.size,a.tape,a.os,a.output,fun k r1 r2=>a.frame k r1 (fun q=>r2 _ _ _ k1 k3 hb q.symm) (by intro q; cases q),fun n en y h1 hu h2=>?_,fun n en y h1 h2=>?_⟩,⟨fun k ek y r1 r2=>?_,fun n m e1 e2 y z r1 r2 hne t1 t2=>?_,hr.fresh⟩⟩
    .rcases down _ _ h1 with ⟨rfl,rfl⟩ | ⟨q,q'⟩
     .exact .inr ⟨_,_,_,k1,k3,h2,rfl⟩
     .exact .inr ⟨_,_,_,q',hu,h2,rfl⟩
    .rcases down _ _ h1 with ⟨rfl,rfl⟩ | ⟨q,q'⟩
     .exact .inr ⟨_,_,_,k1,h2,rfl⟩
     .exact .inr ⟨_,_,_,q',h2,rfl⟩
    .rcases down _ _ r1 with ⟨rfl,rfl⟩ | ⟨q,q'⟩
     .rw [hb] at r2
      cases r2
      exact EntR.obj hb (Nat.lt_of_lt_of_le (hr.ent _ _ _ k1 hb).lt a.size) (BldR.mk ⟨x,p',_,hb,hx0,a1,a2,.inl ⟨rfl,rfl⟩⟩)
     .exact (hr.ent _ _ _ q' r2).kept (fun _ _ q=>q) (a.frame _ (hr.ent _ _ _ q' r2).lt (hr.sep _ _ _ _ _ _ q' k1 q r2 hb) (by intro q; cases q)) a.size
    .have lift:∀ k ek,tget (tset h.m self (some (obE (.bld T e self none)))) k=some ek->∃ ek',tget h.m k=some ek':=by
      intro k ek q
      rcases down _ _ q with ⟨rfl,_⟩ | ⟨_,q⟩
      .exact ⟨_,k1⟩
      .exact ⟨_,q⟩
     obtain ⟨f1,s1⟩:=lift _ _ r1
     obtain ⟨f2,s2⟩:=lift _ _ r2
     exact hr.sep n m f1 f2 y z s1 s2 hne t1 t2
  .simp only at hx
   split at hx
   .rename_i e' self' s hgn
    cases hq:(Nat.beq e' e&&Nat.beq self' nb&&Nat.beq s.size n&&!(Nat.beq nb self)&&Nat.ble n 1000000)<;>simp only [hq,cond_true,cond_false,reduceCtorEq] at hx
    simp only [Bool.and_eq_true,Bool.not_eq_true'] at hq
    obtain ⟨⟨⟨⟨c1,c2⟩,c3⟩,c4⟩,c5⟩:=hq
    have c1:=Nat.eq_of_beq_eq_true c1
    have c2:=Nat.eq_of_beq_eq_true c2
    have c3:=Nat.eq_of_beq_eq_true c3
    have c5:n<=1000000:=Nat.le_of_ble_eq_true c5
    have c4:nb≠self:=fun q=>by rw [q,Nat.beq_refl] at c4; cases c4
    subst c1; subst c2; subst c3
    cases hx
    obtain ⟨en,j1,j2,j3⟩:=getOb_spec hgn
    have hzx:z.1≠x.1:=hr.sep _ _ _ _ _ _ j1 k1 c4 g5 hb
    refine ⟨s,optB_eq hq2,⟨⟨p,g1,g2⟩,row_is hr hgn g5 rfl,(fun q=>hzx (Option.some.inj q)),c5,fun _=>g4⟩,fun v' w' a=>?_⟩
    obtain ⟨p',a1,a2⟩:=a.here
    have hv':v'≠.slice none 0 0:=fun q=>by have:=(a.nil.1 q).1; cases this
    rcases a.owns.2 with ⟨q,_⟩ | ⟨g,cap,cur,q1,_,q2,q3,q4,q5,q6⟩
    .exact absurd q hv'
    .subst q1
     have hg':=a.new g rfl
     rw [Nat.mul_one] at q5 q6
     have hcs:=catB_size s t
     refine bld_new hr (m0:=tset h.m self' none) hb hx0 k1 k3 (fun k ek q=>?_) a2 a1 q2 q5 (by rw [hcs]; exact q3) q4 (by rw [hcs,catB_cells]; exact q6) hcs (by omega) (fun q=>a.ne (by rw [<- q]; rfl)) ?_ (fun k ek y r1 r2 r3=>?_) (fun k r1 r2=>a.frame k r1 (fun q=>r2 _ _ _ k1 k3 hb q.symm) (fun q=>r2 _ _ _ j1 j3 g5 (Option.some.inj q))) a.size a.tape a.os a.output
     .rw [tget_tset] at q
      split at q
      .cases q
      .exact q
     .rcases hg' with q | q
      .have q:z.1=g:=Option.some.inj q
       exact .inr ⟨self',en,z,j1,j3,g5,q,by rw [tget_tset,if_pos rfl]⟩
      .exact .inl q
     .rw [tget_tset] at r1
      split at r1
      .cases r1
      .rename_i hkn
       exact a.frame _ (hr.ent _ _ _ r1 r3).lt (hr.sep _ _ _ _ _ _ r1 k1 r2 r3 hb) (fun q=>hr.sep _ _ _ _ _ _ j1 r1 hkn g5 r3 (Option.some.inj q))
   .cases hx
 .cases hx
theorem str_sound [LG] {E:Env} {θ:Th} {h h':Hp} {w:World} (hr:HR θ h w) {b:Nat} {r:ByteArray} (hx:xStr E b h=some (r,h')) {x:Nat × Nat × Nat} (hb:θ b=some x) :
 x.2.1=0/\∃ T e v,bldK E T=some e/\BIs w x.1 T e v r/\∀ w',BTold w v w'->Ext h.nxt θ h w θ h' w'/\HR θ h' w':=by
 unfold xStr at hx
 split at hx
 .rename_i T e self buf hg
  cases hq:(Nat.beq self b&&optB (bldK E T) e)<;>simp only [hq,cond_true,cond_false,reduceCtorEq] at hx
  simp only [Bool.and_eq_true] at hq
  obtain ⟨hq1,hq2⟩:=hq
  have hq1:=Nat.eq_of_beq_eq_true hq1
  subst hq1
  obtain ⟨hx0,p,v,g1,g2,g3⟩:=bld_is hr hg hb
  obtain ⟨eb,k1,k2,k3⟩:=getOb_spec hg
  refine ⟨hx0,T,e,v,optB_eq hq2,?_⟩
  rcases g3 with ⟨rfl,rfl⟩ | ⟨nb,n,z,rfl,g4,g5,rfl⟩
  .cases hx
   refine ⟨⟨⟨p,g1,g2⟩,World.ownsRow_nil w 0 e 1,(by intro q; cases q),Nat.zero_le _,fun q=>absurd rfl q⟩,fun w' a=>⟨⟨fun _ _ q=>q,fun _ _ _=>rfl,Nat.le_refl _,a.size,a.tape,a.os,a.output,fun k r1 r2=>a.frame k r1 (by intro q; cases q),fun n e x h1 hu h2=>.inr ⟨n,e,x,h1,hu,h2,rfl⟩,fun n e x h1 h2=>.inr ⟨n,e,x,h1,h2,rfl⟩⟩,⟨fun k ek y r1 r2=>(hr.ent _ _ _ r1 r2).kept (fun _ _ q=>q) (a.frame _ (hr.ent _ _ _ r1 r2).lt (by intro q; cases q)) a.size,hr.sep,hr.fresh⟩⟩⟩
  .simp only at hx
   split at hx
   .rename_i e' self' s hgn
    cases hq:(Nat.beq e' e&&Nat.beq self' nb&&Nat.beq s.size n&&!(Nat.beq nb self)&&Nat.ble n 1000000)<;>simp only [hq,cond_true,cond_false,reduceCtorEq] at hx
    simp only [Bool.and_eq_true,Bool.not_eq_true'] at hq
    obtain ⟨⟨⟨⟨c1,c2⟩,c3⟩,c4⟩,c5⟩:=hq
    have c1:=Nat.eq_of_beq_eq_true c1
    have c2:=Nat.eq_of_beq_eq_true c2
    have c3:=Nat.eq_of_beq_eq_true c3
    have c5:n<=1000000:=Nat.le_of_ble_eq_true c5
    have c4:nb≠self:=fun q=>by rw [q,Nat.beq_refl] at c4; cases c4
    subst c1; subst c2; subst c3
    cases hx
    obtain ⟨en,j1,j2,j3⟩:=getOb_spec hgn
    have hzx:z.1≠x.1:=hr.sep _ _ _ _ _ _ j1 k1 c4 g5 hb
    have down:∀ k ek,tget (tset h.m self' none) k=some ek->k≠self'/\tget h.m k=some ek:=by
     intro k ek q
     rw [tget_tset] at q
     by_cases z:self'=k
     .rw [if_pos z] at q; cases q
     .rw [if_neg z] at q; exact ⟨Ne.symm z,q⟩
    refine ⟨⟨⟨p,g1,g2⟩,row_is hr hgn g5 rfl,(fun q=>hzx (Option.some.inj q)),c5,fun _=>g4⟩,fun w' a=>⟨⟨fun _ _ q=>q,fun _ _ _=>rfl,Nat.le_refl _,a.size,a.tape,a.os,a.output,fun k r1 r2=>a.frame k r1 (fun q=>r2 _ _ _ j1 j3 g5 (Option.some.inj q)),fun n e x h1 hu h2=>.inr ⟨n,e,x,(down _ _ h1).2,hu,h2,rfl⟩,fun n e x h1 h2=>.inr ⟨n,e,x,(down _ _ h1).2,h2,rfl⟩⟩,⟨fun k ek y r1 r2=>?_,fun n m e1 e2 y z r1 r2 hne t1 t2=>hr.sep n m _ _ y z (down _ _ r1).2 (down _ _ r2).2 hne t1 t2,hr.fresh⟩⟩⟩
    obtain ⟨d1,d2⟩:=down _ _ r1
    exact (hr.ent _ _ _ d2 r2).kept (fun _ _ q=>q) (a.frame _ (hr.ent _ _ _ d2 r2).lt (fun q=>hr.sep _ _ _ _ _ _ j1 d2 (Ne.symm d1) g5 r2 (Option.some.inj q))) a.size
   .cases hx
 .cases hx
theorem kind_u8 {d:TypeDesc} (h:(kindOf d).1=6):d = .int .u8:=by
 cases d<;>simp [kindOf] at h ⊢
 case int k=>cases k<;>simp [kindOf] at h ⊢
theorem fold_bytes:∀ (ns:List Int) (acc:List UInt8),ns.foldl (fun r n=>r.push (UInt8.ofNat n.toNat)) (⟨acc.toArray⟩:ByteArray)=⟨(acc++ns.map fun n=>UInt8.ofNat n.toNat).toArray⟩
 | [],acc=>by simp
 | n :: ns,acc=>by
   have:(⟨acc.toArray⟩:ByteArray).push (UInt8.ofNat n.toNat)=⟨(acc++[UInt8.ofNat n.toNat]).toArray⟩:=by simp [ByteArray.push]
   rw [List.foldl_cons,this,fold_bytes ns]
   simp [List.append_assoc]
theorem bytes_ints:∀ {cs:List Value} {bs:List UInt8},bytesOfCells cs=some bs->∃ ns:List Int,cs=ns.map (Value.int .u8)/\bs=ns.map fun n=>UInt8.ofNat n.toNat
 | [],bs,h=>by simp only [bytesOfCells,Option.some.injEq] at h; subst h; exact ⟨[],rfl,rfl⟩
 | v :: l,bs,h=>by
   unfold bytesOfCells at h
   split at h
   .rename_i heq; cases heq
   .rename_i n l' heq
    cases heq
    split at h
    .rename_i r hr
     cases h
     obtain ⟨ns,e1,e2⟩:=bytes_ints hr
     exact ⟨n :: ns,by simp [e1],by simp [e2]⟩
    .cases h
   .cases h
theorem plain_ints (ns:List Int):allPlain (ns.map (Value.int .u8))=true:=by
 induction ns with
 | nil=>rfl
 | cons n ns ih=>simp [allPlain,isPlain,ih]
theorem allS_eq {θ:Th}:∀ {vs us:List Value},allPlain vs=true->all2 (S θ) vs us->us=vs
 | [],[],_,_=>rfl
 | v :: vs,u :: us,hp,h=>by
   simp only [allPlain,Bool.and_eq_true] at hp
   rw [W_plain hp.1 (W_of_S h.1),allS_eq hp.2 h.2]
 | [],_ :: _,_,h=>h.elim
 | _ :: _,[],_,h=>h.elim
theorem op_bytes [LG] {E:Env} (hE:EnvT E) {o:Oper} {nm:Nat} {θ:Th} {h:Hp} {w:World} {a:Act} {T:Tm} (hr:HR θ h w) (ht:TO θ T a o) {src dst:TypeId} {x:Operand} {sa:Option Addr} {len cap:Nat} {ti si ei:TI} {cs:List Value} {bs:List UInt8}
 (ho:o.op = .convert src dst x) (hx:opv T x=some (.slice sa len cap)) (hti:tget E.tt dst=some ti) (hsi:tget E.tt src=some si) (hei:tget E.tt si.elem=some ei) (hk:ti.kind=4) (hk1:si.kind=1) (hk2:ei.kind=6)
 (hc:oldCells h 1 sa len=some cs) (hb:bytesOfCells cs=some bs):OpOk E.P o nm θ h w a (.string ⟨bs.toArray⟩) h:=by
 obtain ⟨i,d,z,fl,g1,g2,g3,g4,g5,rfl⟩:=ti_spec (hE _ _ hti)
 obtain ⟨i2,d2,z2,fs2,m1,m2,m3,m4,m5,rfl⟩:=ti_spec (hE _ _ hsi)
 simp only at hk hk1 hei
 obtain ⟨i3,d3,z3,fs3,p1,p2,p3,p4,p5,rfl⟩:=ti_spec (hE _ _ hei)
 simp only at hk2
 rw [kind_string hk] at g2
 rw [kind_slice hk1] at m2
 rw [kind_u8 hk2] at p2
 obtain ⟨b,c,ds,hy,k2,k4,hfirst⟩:=first_sound (P:=E.P) hr (ht _ (by simp [ho,Op.operands]) _ hx) hc
 obtain ⟨ns,e1,e2⟩:=bytes_ints hb
 subst e1; subst e2
 have hds:=allS_eq (plain_ints ns) k2
 subst hds
 refine opOk_same hr (u:=.string ⟨(ns.map fun n:Int=>UInt8.ofNat n.toNat).toArray⟩) ?_ rfl
 have hf:=hfirst w.drawn
 have hconv:=run_convert_bytes_string (P:=E.P) w src dst _ b len c m2 p2 g2
 cases b with
 | none =>
   simp at k4
   have hn:ns=[]:=by
    simp [Builtin.firstCells] at hf
    exact hf
   subst hn
   simp [execOp,ho,hy,hconv,Conv.bytesToString]
   rfl
 | some ad =>
   simp only [Builtin.firstCells,Nat.mul_one] at hf
   have hbs:=run_bytesToString (P:=E.P) w ad len c ns hf
   have hfold:=fold_bytes ns []
   simp only [List.nil_append] at hfold
   have hemp:(ByteArray.empty)=(⟨([]:List UInt8).toArray⟩:ByteArray):=rfl
   rw [hemp,hfold] at hbs
   simp [execOp,ho,hy,hconv,hbs]
theorem HR.same [LG] {θ:Th} {h:Hp} {w w2:World} (hr:HR θ h w) (hsz:w2.heap.size=w.heap.size) (hl:∀ n e x,tget h.m n=some e->e.ob≠none->θ n=some x->w2.heap[x.1]? = w.heap[x.1]?) (hc:∀ a,w2.cell? a=w.cell? a) (hf:∀ a,(w.cell? a).isSome=true->w2.frozen? a=w.frozen? a):HR θ h w2:=by
 refine ⟨fun n e x he hx=>?_,hr.sep,hr.fresh⟩
 have r:=hr.ent n e x he hx
 refine ⟨r.at_,by rw [hsz]; exact r.lt,fun i v hv=>?_,fun o ho=>?_,fun hu=>?_⟩
 rotate_left
 .rw [hl n e x he (by rw [ho]; simp) hx]
  exact r.ob o ho
 rotate_left
 .obtain ⟨⟨u,h1,h2⟩,h3⟩:=r.cell i v hv
  rw [hc,hf _ (by rw [h1]; rfl)]
  exact ⟨⟨u,h1,h2⟩,h3⟩
 .obtain ⟨h1,h2⟩:=r.room hu
  refine ⟨h1,fun i hi=>?_⟩
  rw [hc,hf _ (h2 i hi).1]
  exact h2 i hi
theorem plain_bytes:∀ l:List UInt8,allPlain (l.map fun b=>Value.int .u8 b.toNat)=true
 | []=>rfl
 | b :: l=>plain_bytes l
theorem op_strB [LG] {E:Env} (hE:EnvT E) {o:Oper} {nm:Nat} {θ:Th} {h:Hp} {w:World} {a:Act} {T:Tm} (hr:HR θ h w) (ht:TO θ T a o) {src dst:TypeId} {x:Operand} {s:ByteArray} {ti si ei:TI} (hnm:θ nm=none)
 (ho:o.op = .convert src dst x) (hx:opv T x=some (.string s)) (hti:tget E.tt dst=some ti) (hsi:tget E.tt src=some si) (hei:tget E.tt ti.elem=some ei) (hk:ti.kind=1) (hk2:ei.kind=6) :
 OpOk E.P o nm θ h w a (.slice (some ⟨nm,0,none⟩) s.size unkU) (halloc h nm (mkEnt (byteCells s) 1)):=by
 obtain ⟨i,d,z,fl,g1,g2,g3,g4,g5,rfl⟩:=ti_spec (hE _ _ hti)
 obtain ⟨i2,d2,z2,fs2,m1,m2,m3,m4,m5,rfl⟩:=ti_spec (hE _ _ hsi)
 simp only at hk hei
 obtain ⟨i3,d3,z3,fs3,p1,p2,p3,p4,p5,rfl⟩:=ti_spec (hE _ _ hei)
 simp only at hk2
 rw [kind_slice hk] at g2
 rw [kind_u8 hk2] at p2
 have hsx:a.eval x = .string s:=ht _ (by simp [ho,Op.operands]) _ hx
 have hge:=grownCap_ge w s.size 0 (kindOf d).2.1
 have hcells:(Lib.bytesCells w (kindOf d).2.1 s)=(byteCells s++List.replicate (grownCap w s.size 0 (kindOf d).2.1-s.size) (Value.int .u8 0)).toArray:=by
  apply Array.ext'
  simp [Lib.bytesCells,byteCells]
 have hlen:(byteCells s).length=s.size:=by unfold byteCells; rw [List.length_map]; rfl
 obtain ⟨e1,e2⟩:=alloc_sound (hr.drawn (w.drawn+1)) hnm (List.replicate (grownCap w s.size 0 (kindOf d).2.1-s.size) (Value.int .u8 0)) (plain_all2 (plain_bytes s.data.toList)) (kindOf d).2.1 (grownCap w s.size 0 (kindOf d).2.1) 1
  (fun _=>by
    have:(s.data.toList.map fun b=>Value.int .u8 b.toNat).length=s.size:=hlen
    simp only [List.length_append,this,List.length_replicate]
    omega)
 have hb:({ w with drawn:=w.drawn+1 }.alloc (.cells (byteCells s++List.replicate (grownCap w s.size 0 (kindOf d).2.1-s.size) (Value.int .u8 0)).toArray (kindOf d).2.1))=w.drew.alloc (.cells (Lib.bytesCells w (kindOf d).2.1 s) (kindOf d).2.1):=by rw [hcells]; rfl
 have e1':HR _ (halloc h nm (mkEnt (byteCells s) 1)) _:=e1
 have e2':Ext nm θ h _ _ (halloc h nm (mkEnt (byteCells s) 1)) _:=e2
 change HR _ _ ({ w with drawn:=w.drawn+1 }.alloc (.cells (byteCells s++List.replicate (grownCap w s.size 0 (kindOf d).2.1-s.size) (Value.int .u8 0)).toArray (kindOf d).2.1)) at e1'
 change Ext _ _ _ _ _ _ ({ w with drawn:=w.drawn+1 }.alloc (.cells (byteCells s++List.replicate (grownCap w s.size 0 (kindOf d).2.1-s.size) (Value.int .u8 0)).toArray (kindOf d).2.1)) at e2'
 rw [hb] at e1' e2'
 have hnew:(w.drew.alloc (.cells (Lib.bytesCells w (kindOf d).2.1 s) (kindOf d).2.1)).heap[w.heap.size]? = some (.cells (Lib.bytesCells w (kindOf d).2.1 s) (kindOf d).2.1):=by
  simp [World.alloc,World.drew,-World.alloc_eq,-World.drew_eq]
 have hold:∀ j,j<w.heap.size->(w.drew.alloc (.cells (Lib.bytesCells w (kindOf d).2.1 s) (kindOf d).2.1)).heap[j]? = w.heap[j]?:=by
  intro j hj
  have h1:w.heap.size≠j:=by omega
  simp [World.alloc,World.drew,-World.alloc_eq,-World.drew_eq,Array.getElem?_push,h1,Ne.symm h1]
 have hsz1:(w.drew.alloc (.cells (Lib.bytesCells w (kindOf d).2.1 s) (kindOf d).2.1)).heap.size=w.heap.size+1:=by
  simp [World.alloc,World.drew,-World.alloc_eq,-World.drew_eq]
 have hsz2:=Lib.bytesWorld_size w (kindOf d).2.1 s
 have hcell:∀ b,(Lib.bytesWorld w (kindOf d).2.1 s).cell? b=(w.drew.alloc (.cells (Lib.bytesCells w (kindOf d).2.1 s) (kindOf d).2.1)).cell? b:=by
  intro b
  unfold World.cell?
  rcases Nat.lt_trichotomy b.block w.heap.size with q | q | q
  .rw [Lib.bytesWorld_at_old _ _ _ _ q,hold _ q]
  .rw [q,Lib.bytesWorld_at_new,hnew]
  .rw [Array.getElem?_eq_none (by omega),Array.getElem?_eq_none (by omega)]
 have hloop:∀ n e x,tget (halloc h nm (mkEnt (byteCells s) 1)).m n=some e->e.ob≠none->(if n=nm then some (w.heap.size,0,grownCap w s.size 0 (kindOf d).2.1) else θ n)=some x->(Lib.bytesWorld w (kindOf d).2.1 s).heap[x.1]? = (w.drew.alloc (.cells (Lib.bytesCells w (kindOf d).2.1 s) (kindOf d).2.1)).heap[x.1]?:=by
  intro n e x he ho hx
  simp only [halloc,tget_tset] at he
  by_cases hn:nm=n
  .rw [if_pos hn] at he
   cases he
   exact absurd rfl ho
  .rw [if_neg hn] at he
   rw [if_neg (Ne.symm hn)] at hx
   have q:=(hr.ent _ _ _ he hx).lt
   rw [Lib.bytesWorld_at_old _ _ _ _ q,hold _ q]
 have hfro:∀ b,((w.drew.alloc (.cells (Lib.bytesCells w (kindOf d).2.1 s) (kindOf d).2.1)).cell? b).isSome=true->(Lib.bytesWorld w (kindOf d).2.1 s).frozen? b=(w.drew.alloc (.cells (Lib.bytesCells w (kindOf d).2.1 s) (kindOf d).2.1)).frozen? b:=by
  intro b hbs
  unfold World.frozen?
  rcases Nat.lt_trichotomy b.block w.heap.size with q | q | q
  .rw [Lib.bytesWorld_at_old _ _ _ _ q,hold _ q]
  .unfold World.cell? at hbs
   rw [q,hnew] at hbs
   simp only at hbs
   rw [q,Lib.bytesWorld_at_new,hnew]
   simp only
   have hlt:b.off<(Lib.bytesCells w (kindOf d).2.1 s).size:=by
    split at hbs
    .cases hbs
    .rcases Nat.lt_or_ge b.off (Lib.bytesCells w (kindOf d).2.1 s).size with k | k
     .exact k
     .rw [Array.getElem?_eq_none k] at hbs; cases hbs
   have h1:decide ((Lib.bytesCells w (kindOf d).2.1 s).size<=b.off)=false:=by rw [decide_eq_false_iff_not]; omega
   rw [h1]
   simp
  .rw [Array.getElem?_eq_none (by omega),Array.getElem?_eq_none (by omega)]
 refine ⟨_,Lib.bytesWorld w (kindOf d).2.1 s,.slice (some ⟨w.heap.size,0,none⟩) s.size (grownCap w s.size 0 (kindOf d).2.1),_,?_,.inl rfl,?_,e1'.same (by rw [hsz1,hsz2]) hloop hcell hfro,?_⟩
 .simp [execOp,ho,hsx,Lib.run_convert_string_bytes w src dst _ s m2 g2 p2]
 .have ee:=(Ext.drawn nm θ h w (w.drawn+1)).trans e2' (fun _ _ k=>k)
  refine ⟨ee.keep,ee.only,ee.nxt,by rw [hsz2]; omega,?_,?_,?_,fun b hb hno=>Lib.bytesWorld_at_old _ _ _ _ hb,ee.ownw,ee.own⟩
  .simp [Lib.bytesWorld,World.freeze,World.alloc,World.drew,-World.alloc_eq,-World.drew_eq]
  .simp [Lib.bytesWorld,World.freeze,World.alloc,World.drew,-World.alloc_eq,-World.drew_eq]
  .simp [Lib.bytesWorld,World.freeze,World.alloc,World.drew,-World.alloc_eq,-World.drew_eq]
 .exact W_unk (x:=(w.heap.size,0,grownCap w s.size 0 (kindOf d).2.1)) (by simp) rfl rfl rfl
theorem op_makeFunc [LG] {E:Env} (hE:EnvT E) {o:Oper} {nm:Nat} {θ:Th} {h:Hp} {w:World} {a:Act} {T:Tm} (hr:HR θ h w) (ht:TO θ T a o) {g:FuncId} {first cap:Array Operand} {vs us:List Value}
 (ho:o.op = .makeFunc (.func g) first cap) (h1:opvs (opv T) first.toList=some vs) (h2:opvs (opv T) cap.toList=some us) (k1:vs.all capOk=true) (k2:us.all capOk=true):OpOk E.P o nm θ h w a (.func (.func g) vs.toArray us.toArray) h:=by
 have w1:=opvs_O (fun y hy=>ht y (by simp [ho,Op.operands]; exact .inl (by simpa using hy))) h1
 have w2:=opvs_O (fun y hy=>ht y (by simp [ho,Op.operands]; exact .inr (by simpa using hy))) h2
 have a1:first.map a.eval=(first.toList.map a.eval).toArray:=by apply Array.ext'; simp
 have a2:cap.map a.eval=(cap.toList.map a.eval).toArray:=by apply Array.ext'; simp
 refine opOk_same hr (u:=.func (.func g) (first.toList.map a.eval).toArray (cap.toList.map a.eval).toArray) ?_ ⟨_,_,rfl,by simpa using all_V0 k1 w1,by simpa using all_V0 k2 w2⟩
 simp [execOp,ho,Instr.makeFunc,a1,a2]
theorem blt_lt {m n:Nat} (h:Nat.blt m n=true):m<n:=Nat.le_of_ble_eq_true h
def CallAt [LG] (P:Program) (call:Nat->List Value->Hp->Option (Value × Hp)) (nm:Nat) (h:Hp):Prop :=
 ∀ g args r h',call g args h=some (r,h')->∀ θ w cargs,HR θ h w->all2 (W θ) args cargs->
  (g<unkU->((callFunc g cargs.toArray).run P w = .ok (.enter g cargs.toArray) w/\Calls P g cargs.toArray w (fun e w'=>∃ θ' u,e = .returned u/\Ext nm θ h w θ' h' w'/\HR θ' h' w'/\W θ' r u))\/
    (∃ u,(callFunc g cargs.toArray).run P w = .ok (.value u) w/\W θ r u/\h'=h))/\
  (unkU<=g->∀ x,θ (g-unkU)=some x->YieldAt Fence.wide 0 P x.1 cargs.toArray w (fun e w'=>∃ θ' u,e = .returned u/\Ext nm θ h w θ' h' w'/\HR θ' h' w'/\W θ' r u))
theorem op_call [LG] {E:Env} (hE:EnvT E) {o:Oper} {nm:Nat} {θ:Th} {h h':Hp} {w:World} {a:Act} {T:Tm} {v:Value} (hr:HR θ h w) (ht:TO θ T a o) {call:Nat->List Value->Hp->Option (Value × Hp)} (hcall:CallAt E.P call nm h) {c:Call} {f:Operand} {g:Nat} {first cap:Array Value} {vs:List Value}
 (ho:o.op = .call c) (hc:c.callee = .value f) (hf:opv T f=some (.func (.func g) first cap)) (hv:opvs (opv T) c.args.toList=some vs) (hg:g<unkU) (hx:call g (first.toList++vs++cap.toList) h=some (v,h')):OpWp E.P o nm θ h w a v h':=by
 obtain ⟨fa,fb,e3,q1,q2⟩:∃ a' b':List Value,a.eval f = .func (.func g) a'.toArray b'.toArray/\all2 (V0 θ) first.toList a'/\all2 (V0 θ) cap.toList b':=ht _ (by simp [ho,Op.operands,Call.operands,hc]) _ hf
 have hw:=opvs_O (fun y hy=>ht y (by simp [ho,Op.operands,Call.operands]; exact .inr (by simpa using hy))) hv
 have harr:c.args.map a.eval=(c.args.toList.map a.eval).toArray:=by apply Array.ext'; simp
 have hrun:(execOp a.eval o).run E.P w=(callFunc g (fa++c.args.toList.map a.eval++fb).toArray).run E.P w:=by
  simp only [execOp,ho,resolve,hc,e3,Deferred.ofValue,harr,Sem.run_bind,Sem.run_pure,Result.andThen_ok,invoke]
  simp
 have hV:∀ {l m:List Value},all2 (V0 θ) l m->all2 (W θ) l m:=fun q=>all2_mono (fun _ _ z=>W_of_V (V_of_V0 z)) q
 rcases (hcall g _ v h' hx θ w _ hr (all2_append (all2_append (hV q1) hw) (hV q2))).1 hg with ⟨k1,k2⟩ | ⟨u,k1,k2,rfl⟩
 .intro ro K Q hK
  refine ⟨fun _ _=>fn_FW,?_⟩
  rw [Oper.semAt_eq ro _ _ (fun c' e=>by rw [ho] at e; cases e),hrun,k1]
  refine ⟨depth_FW,?_⟩
  refine (callsIn_FW k2).mono fun e w' he=>?_
  obtain ⟨θ',u,rfl,q1,q2,q3⟩:=he
  exact hK θ' w' u q1 q2 q3
 .exact OpOk.wp (opOk_same hr (hrun.trans k1) k2)
theorem run_sliceA {P:Program} {w:World} {t e:TypeId} {n:Nat} {i:TypeInfo} (hu:P.underlying t=some (.array n e)) (hi:P.info? e=some i) {ad:Addr} {l u:Nat} {low high:Option Value}
 (hl:OptN low 0 l) (hh:OptN high n u) (h1:l<=u) (h2:u<=n) :
 (Instr.sliceAt t (.pointer (some ad)) low high none).run P w = .ok (.slice (some (if n=l then ad else ad.add (l*i.size))) (u-l) (n-l)) w:=by
 rcases hl with ⟨rfl,rfl⟩ | ⟨k1,n1,rfl,g1,rfl⟩<;>rcases hh with ⟨rfl,rfl⟩ | ⟨k2,n2,rfl,g2,rfl⟩
 .simp [Instr.sliceAt,Instr.sureAddr,Instr.sliceBounds,run_underlying hu,run_sizeOf hi]
 .simp [Instr.sliceAt,Instr.sureAddr,Instr.sliceBounds,run_underlying hu,run_sizeOf hi,run_sliceBound g2 h2]
 .simp [Instr.sliceAt,Instr.sureAddr,Instr.sliceBounds,run_underlying hu,run_sizeOf hi,run_sliceBound g1 h1]
 .simp [Instr.sliceAt,Instr.sureAddr,Instr.sliceBounds,run_underlying hu,run_sizeOf hi,run_sliceBound g1 h1,run_sliceBound g2 h2]
theorem op_sliceA [LG] {E:Env} (hE:EnvT E) {o:Oper} {nm:Nat} {θ:Th} {h:Hp} {w:World} {a:Act} {T:Tm} (hr:HR θ h w) (ht:TO θ T a o) {t:TypeId} {x:Operand} {lo hi:Option Operand} {lov hiv:Option Value} {ad:Addr} {ti ei:TI} {l u:Nat}
 (ho:o.op = .slice t x lo hi none) (hx:opv T x=some (.pointer (some ad))) (hsp:ad.spot=none) (hti:tget E.tt t=some ti) (hei:tget E.tt ti.elem=some ei) (hk:ti.kind=2)
 (hlo:optv (opv T) lo=some lov) (hhi:optv (opv T) hi=some hiv) (hl:natOf 0 lov=some l) (hu:natOf ti.alen hiv=some u) (h1:l<=u) (h2:u<=ti.alen) (h3:ti.alen<unkU) :
 OpOk E.P o nm θ h w a (.slice (some (bif Nat.beq ti.alen l then ad else ⟨ad.block,ad.off+l*ei.size,none⟩)) (u-l) (ti.alen-l)) h:=by
 obtain ⟨i,d,z,fl,g1,g2,g3,g4,g5,rfl⟩:=ti_spec (hE _ _ hti)
 obtain ⟨i2,d2,z2,fs2,m1,m2,m3,m4,m5,rfl⟩:=ti_spec (hE _ _ hei)
 simp only at hk hei m1 m2 hu h2 h3 ⊢
 have hd:=kind_array hk
 rw [hd] at g2
 obtain ⟨_,x',hx',hev⟩:ad.spot=none/\∃ x',θ ad.block=some x'/\a.eval x = .pointer (some ⟨x'.1,x'.2.1+ad.off,none⟩):=ht _ (by simp [ho,Op.operands]) _ hx
 have n1:=opt_nat (fun y hy v=>ht y (by simp [ho,Op.operands,hy]) v) hlo hl
 have n2:=opt_nat (fun y hy v=>ht y (by simp [ho,Op.operands,hy]) v) hhi hu
 have hrun:=run_sliceA (w:=w) (ad:=⟨x'.1,x'.2.1+ad.off,none⟩) g2 m1 n1 n2 h1 h2
 refine opOk_same hr (u:=.slice (some (if (kindOf d).2.2=l then ⟨x'.1,x'.2.1+ad.off,none⟩ else (⟨x'.1,x'.2.1+ad.off,none⟩:Addr).add (l*i2.size))) (u-l) ((kindOf d).2.2-l)) ?_ ?_
 .simp only [execOp,ho,hev,Option.map_none,Sem.run_bind]
  rw [hrun]
  rfl
 .refine .inl ?_
  by_cases e:(kindOf d).2.2=l
  .rw [if_pos e]
   have eb:Nat.beq (kindOf d).2.2 l=true:=by rw [e]; exact Nat.beq_refl l
   rw [eb,cond_true]
   exact ⟨hsp,x',_,hx',.inl ⟨by omega,rfl⟩,rfl⟩
  .rw [if_neg e]
   have eb:Nat.beq (kindOf d).2.2 l=false:=by
    cases hb:Nat.beq (kindOf d).2.2 l with
    | false=>rfl
    | true=>exact (e (Nat.eq_of_beq_eq_true hb)).elim
   rw [eb,cond_false]
   exact ⟨rfl,x',_,hx',.inl ⟨by omega,rfl⟩,by simp [add_addr,Nat.add_assoc]⟩
theorem kind_no_iface {d:TypeDesc} {e n k:Nat} (h:kindOf d=(k,e,n)) (hk:1<=k):∀ ms,d≠.interface ms:=by
 rintro ms rfl
 simp only [kindOf,Prod.mk.injEq] at h
 omega
theorem kind_no_ptr {d:TypeDesc} {e n k:Nat} (h:kindOf d=(k,e,n)) (hk:k≠7):∀ t,d≠.pointer t:=by
 rintro t rfl
 simp only [kindOf,Prod.mk.injEq] at h
 exact hk h.1.symm
theorem V_of_ifa {θ:Th} {u v:Value} (hn:ifaOk u=true) (h:W θ u v):V θ u v:=by
 cases u<;>first | exact h | cases hn
theorem op_makeIface [LG] {E:Env} (hE:EnvT E) {o:Oper} {nm:Nat} {θ:Th} {h:Hp} {w:World} {a:Act} {T:Tm} (hr:HR θ h w) (ht:TO θ T a o) {t:TypeId} {x:Operand} {u:Value} {ti:TI}
 (ho:o.op = .makeInterface t x) (hx:opv T x=some u) (hti:tget E.tt t=some ti) (hu:ifaOk u=true) (hk:1<=ti.kind):OpOk E.P o nm θ h w a (.iface t u) h:=by
 have hw:=V_of_ifa hu (ht _ (by simp [ho,Op.operands]) _ hx)
 obtain ⟨i,d,z,fs,h1,h2,h3,h4,h5,rfl⟩:=ti_spec (hE _ _ hti)
 have hd:=kind_no_iface (d:=d) rfl hk
 refine opOk_same hr (u:=.iface t (a.eval x)) ?_ ⟨_,rfl,hw⟩
 simp only [execOp,ho,Instr.makeInterface,Sem.run_bind,run_underlying h2,Result.andThen_ok]
 cases d<;>first | exact (hd _ rfl).elim | rfl
theorem method_run {P:Program} {t:TypeId} {name:String} {g:Nat} {d:TypeDesc} (hm:methOf P t name=some g) (hu:P.underlying t=some d) (hd:∀ e,d≠.pointer e) (n:Nat) (v:Value) (w:World):(method (n+1) t v name).run P w = .ok (g,v) w:=by
 unfold methOf at hm
 split at hm
 .rename_i i hi
  split at hm
  .rename_i m hfm
   cases hp:m.path.isEmpty<;>simp only [hp,cond_true,cond_false,reduceCtorEq] at hm
   split at hm
   .rename_i f hf
    cases hm
    have hpl:m.path.toList=[]:=by simpa using hp
    have hti:(typeInfo t).run P w = .ok i w:=by simp [typeInfo,hi]
    have hun:(underlying t).run P w = .ok d w:=run_underlying hu w
    simp only [method,Sem.run_bind,hti,Result.andThen_ok,hfm,hpl,follow,Sem.run_pure,hf]
    simp only [receiverAt,Sem.run_bind,hun,Result.andThen_ok]
    cases d<;>first | exact (hd _ rfl).elim | simp [Place.get]
   .cases hm
  .cases hm
 .cases hm
theorem op_invoke [LG] {E:Env} (hE:EnvT E) {o:Oper} {nm:Nat} {θ:Th} {h h':Hp} {w:World} {a:Act} {T:Tm} {v:Value} (hr:HR θ h w) (ht:TO θ T a o) {call:Nat->List Value->Hp->Option (Value × Hp)} (hcall:CallAt E.P call nm h) {c:Call} {r:Operand} {name:String} {t:TypeId} {x:Value} {g:Nat} {vs:List Value} {ti:TI}
 (ho:o.op = .call c) (hc:c.callee = .invoke r name) (hf:opv T r=some (.iface t x)) (hv:opvs (opv T) c.args.toList=some vs) (hti:tget E.tt t=some ti) (hk:1<=ti.kind) (hk7:ti.kind≠7) (hm:methOf E.P t name=some g) (hg:g<unkU) (hx:call g (x :: vs) h=some (v,h')):OpWp E.P o nm θ h w a v h':=by
 obtain ⟨u',e3,q1⟩:∃ u',a.eval r = .iface t u'/\V θ x u':=ht _ (by simp [ho,Op.operands,Call.operands,hc]) _ hf
 have hw:=opvs_O (fun y hy=>ht y (by simp [ho,Op.operands,Call.operands]; exact .inr (by simpa using hy))) hv
 obtain ⟨i,d,z,fs,h1,h2,h3,h4,h5,rfl⟩:=ti_spec (hE _ _ hti)
 have hd:=kind_no_ptr (d:=d) rfl hk7
 have harr:c.args.map a.eval=(c.args.toList.map a.eval).toArray:=by apply Array.ext'; simp
 have hrun:(execOp a.eval o).run E.P w=(callFunc g (u' :: c.args.toList.map a.eval).toArray).run E.P w:=by
  simp only [execOp,ho,resolve,hc,e3,harr,Sem.run_bind,Sem.run_pure,Result.andThen_ok,invoke]
  have e4:((#[Value.iface t u']++(c.args.toList.map a.eval).toArray)[0]? : Option Value)=some (.iface t u'):=by simp
  have e5:(#[Value.iface t u']++(c.args.toList.map a.eval).toArray).extract 1 (#[Value.iface t u']++(c.args.toList.map a.eval).toArray).size=(c.args.toList.map a.eval).toArray:=by
   apply Array.ext'
   simp [List.extract_eq_take_drop]
   exact List.take_of_length_le (by simp)
  simp only [e4,e5,callMethod,Sem.run_bind,run_program,Result.andThen_ok]
  have hmr:=method_run hm h2 hd (E.P.types.size+Made.depth-1) u' w
  have hdp:E.P.types.size+Made.depth-1+1=E.P.types.size+Made.depth:=by
   have:0<Made.depth:=by decide
   omega
  rw [hdp] at hmr
  simp only [hmr,Result.andThen_ok]
  congr 2
  apply Array.ext'; simp
 rcases (hcall g _ v h' hx θ w (u' :: c.args.toList.map a.eval) hr ⟨W_of_V q1,hw⟩).1 hg with ⟨k1,k2⟩ | ⟨u,k1,k2,rfl⟩
 .intro ro K Q hK
  refine ⟨fun _ _=>fn_FW,?_⟩
  rw [Oper.semAt_eq ro _ _ (fun c' e=>by rw [ho] at e; cases e),hrun,k1]
  refine ⟨depth_FW,?_⟩
  refine (callsIn_FW k2).mono fun e w' he=>?_
  obtain ⟨θ',u,rfl,q1,q2,q3⟩:=he
  exact hK θ' w' u q1 q2 q3
 .exact OpOk.wp (opOk_same hr (hrun.trans k1) k2)
theorem op_yield [LG] {E:Env} (hE:EnvT E) {o:Oper} {nm:Nat} {θ:Th} {h h':Hp} {w:World} {a:Act} {T:Tm} {v:Value} (hr:HR θ h w) (ht:TO θ T a o) {call:Nat->List Value->Hp->Option (Value × Hp)} (hcall:CallAt E.P call nm h) {c:Call} {f:Operand} {l:Nat} {first cap:Array Value} {vs:List Value}
 (ho:o.op = .call c) (hc:c.callee = .value f) (hf:opv T f=some (.func (.yield l) first cap)) (hv:opvs (opv T) c.args.toList=some vs) (hx:call (unkU+l) vs h=some (v,h')):OpWp E.P o nm θ h w a v h':=by
 obtain ⟨x,hx0,e3⟩:∃ x,θ l=some x/\a.eval f = .func (.yield x.1) #[] #[]:=ht _ (by simp [ho,Op.operands,Call.operands,hc]) _ hf
 have hw:=opvs_O (fun y hy=>ht y (by simp [ho,Op.operands,Call.operands]; exact .inr (by simpa using hy))) hv
 have harr:c.args.map a.eval=(c.args.toList.map a.eval).toArray:=by apply Array.ext'; simp
 have hrun:(execOp a.eval o).run E.P w=(Instr.yield x.1 (c.args.toList.map a.eval).toArray).run E.P w:=by
  simp only [execOp,ho,resolve,hc,e3,Deferred.ofValue,harr,Sem.run_bind,Sem.run_pure,Result.andThen_ok,invoke]
  simp
 obtain ⟨fn,tmps,assign,body,y1,y2⟩:=(hcall _ _ v h' hx θ w _ hr hw).2 (Nat.le_add_right _ _) x (by rw [Nat.add_sub_cancel_left]; exact hx0)
 intro ro K Q hK
 refine ⟨fun _ _=>fn_FW,?_⟩
 rw [Oper.semAt_eq ro _ _ (fun c' e=>by rw [ho] at e; cases e),hrun,y1]
 refine ⟨depth_FW,?_⟩
 refine RoundIn.mono (F:=FW ro) y2 fun e w' he=>?_
 obtain ⟨θ',u,rfl,q1,q2,q3⟩:=he
 exact hK θ' w' u q1 q2 q3
theorem blt_ge {m n:Nat} (h:Nat.blt m n=false):n<=m:=by
 rcases Nat.lt_or_ge m n with k | k
 .have:Nat.blt m n=true:=Nat.ble_eq_true_of_le k
  rw [h] at this; cases this
 .exact k
theorem wrapF_eq (x:Int):wrapF x=IntKind.i64.wrap x:=by
 unfold wrapF
 cases hi:inI64 x
 .rfl
 .rw [cond_true]
  refine (IntWalk.i64_in x ?_).symm
  cases x with
  | ofNat k =>
    have:=blt_lt (m:=k) (n:=9223372036854775808) hi
    constructor
    .have:=Int.natCast_nonneg k; show (-9223372036854775808:Int)<=(k:Int); omega
    .show (k:Int)<=9223372036854775807; omega
  | negSucc k =>
    have:=blt_lt (m:=k) (n:=9223372036854775808) hi
    rw [Int.negSucc_eq]
    omega
theorem iLt_eq (x y:Int):iLt x y=decide (x<y):=by
 cases x<;>cases y<;>unfold iLt<;>simp only
 case ofNat.ofNat m n =>
  cases hb:Nat.blt m n
  .have:=blt_ge hb
   symm; rw [decide_eq_false_iff_not]; simp only [Int.ofNat_eq_natCast]; omega
  .have:=blt_lt hb
   symm; rw [decide_eq_true_eq]; simp only [Int.ofNat_eq_natCast]; omega
 case ofNat.negSucc m n=>symm; rw [decide_eq_false_iff_not]; simp only [Int.ofNat_eq_natCast,Int.negSucc_eq]; omega
 case negSucc.ofNat m n=>symm; rw [decide_eq_true_eq]; simp only [Int.ofNat_eq_natCast,Int.negSucc_eq]; omega
 case negSucc.negSucc m n =>
  cases hb:Nat.blt n m
  .have:=blt_ge hb
   symm; rw [decide_eq_false_iff_not]; simp only [Int.negSucc_eq]; omega
  .have:=blt_lt hb
   symm; rw [decide_eq_true_eq]; simp only [Int.negSucc_eq]; omega
theorem beq_ne {m n:Nat} (h:Nat.beq m n=false):m≠n:=fun e=>by
 subst e
 simp at h
theorem iEq_eq (x y:Int):iEq x y=(x == y):=by
 cases x<;>cases y<;>unfold iEq<;>simp only
 case ofNat.ofNat m n =>
  cases hb:Nat.beq m n
  .have:=beq_ne hb
   symm; rw [beq_eq_false_iff_ne]; intro e; exact this (Int.ofNat.inj e)
  .rw [Nat.eq_of_beq_eq_true hb]; simp
 case ofNat.negSucc m n=>symm; rw [beq_eq_false_iff_ne]; intro e; cases e
 case negSucc.ofNat m n=>symm; rw [beq_eq_false_iff_ne]; intro e; cases e
 case negSucc.negSucc m n =>
  cases hb:Nat.beq m n
  .have:=beq_ne hb
   symm; rw [beq_eq_false_iff_ne]; intro e; exact this (Int.negSucc.inj e)
  .rw [Nat.eq_of_beq_eq_true hb]; simp
theorem iLt_not (x y:Int):(!(iLt x y))=decide (y<=x):=by
 rw [iLt_eq]
 by_cases h:x<y
 .have:¬ y<=x:=by omega
  simp [this,h]
 .have:y<=x:=by omega
  simp [this,h]
theorem cmp_run {P:Program} {op:BinOp} {t:TypeId} {k:IntKind} {m n:Int} {v:Value} (h:fastC op m n=some v) (w:World):(binOp op t (.int k m) (.int k n)).run P w = .ok v w:=by
 cases op<;>simp only [fastC,reduceCtorEq,Option.some.injEq] at h<;>subst h<;>simp [binOp,Op.intCmp,iEq_eq,iLt_not,bne]
 all_goals simp [iLt_eq]
theorem fast_run {P:Program} {op:BinOp} {t:TypeId} {p q v:Value} (h:fastB op p q=some v) (w:World):(binOp op t p q).run P w = .ok v w:=by
 unfold fastB at h
 split at h
 .rename_i m n
  cases op<;>simp only [fastI,reduceCtorEq,Option.some.injEq] at h
  case add=>subst h; simp [binOp,Op.intArith,wrapF_eq]
  case sub=>subst h; simp [binOp,Op.intArith,wrapF_eq]; rfl
  case mul=>subst h; simp [binOp,Op.intArith,wrapF_eq]
  all_goals exact cmp_run (by simp only [fastC,Option.some.injEq]; exact h) w
 .exact cmp_run h w
 .cases h
theorem fast_ints {op:BinOp} {p q v:Value} (h:fastB op p q=some v):isPlain p=true/\isPlain q=true/\isPlain v=true/\∃ k m l n,p = .int k m/\q = .int l n:=by
 unfold fastB at h
 split at h
 .rename_i m n
  refine ⟨rfl,rfl,?_,_,_,_,_,rfl,rfl⟩
  cases op<;>simp only [fastI,reduceCtorEq,Option.some.injEq] at h<;>subst h<;>rfl
 .rename_i m n
  refine ⟨rfl,rfl,?_,_,_,_,_,rfl,rfl⟩
  cases op<;>simp only [fastC,reduceCtorEq,Option.some.injEq] at h<;>subst h<;>rfl
 .cases h
theorem op_fast [LG] {E:Env} (hE:EnvT E) {o:Oper} {nm:Nat} {θ:Th} {h:Hp} {w:World} {a:Act} {T:Tm} (hr:HR θ h w) (ht:TO θ T a o) {op:BinOp} {t t2:TypeId} {x y:Operand} {p q v:Value} (ho:o.op = .binOp op t x y t2)
 (hx:opv T x=some p) (hy:opv T y=some q) (hf:fastB op p q=some v):OpOk E.P o nm θ h w a v h:=by
 obtain ⟨h1,h2,h3,k,m,l,n,rfl,rfl⟩:=fast_ints hf
 have e1:=W_plain h1 (ht _ (by simp [ho,Op.operands]) _ hx)
 have e2:=W_plain h2 (ht _ (by simp [ho,Op.operands]) _ hy)
 refine opOk_same hr (u:=v) ?_ (W_of_S (S_plain h3))
 have hg:(eqGuard op t x y (.int k m) (.int l n)).run E.P w = .ok () w:=by cases op<;>rfl
 simp [execOp,ho,e1,e2,hg,fast_run hf w]
theorem op_lenStr [LG] {E:Env} (hE:EnvT E) {o:Oper} {nm:Nat} {θ:Th} {h:Hp} {w:World} {a:Act} {T:Tm} (hr:HR θ h w) (ht:TO θ T a o) {c:Call} {s:ByteArray} {t:TypeId} {ti:TI}
 (ho:o.op = .call c) (hc:c.callee = .builtin .len) (hv:opvs (opv T) c.args.toList=some [.string s]) (htys:c.argTypes.toList=[t]) (hti:tget E.tt t=some ti) (hk:ti.kind=4):OpOk E.P o nm θ h w a (.int .i64 s.size) h:=by
 obtain ⟨i,d,z,fl,g1,g2,g3,g4,g5,rfl⟩:=ti_spec (hE _ _ hti)
 simp only at hk
 rw [kind_string hk] at g2
 have hw:=opvs_O (fun y hy=>ht y (by simp [ho,Op.operands,Call.operands]; exact .inr (by simpa using hy))) hv
 have hat:c.argTypes = #[t]:=by rw [<- Array.toArray_toList (xs:=c.argTypes),htys]
 have hm:=allPlain_eq (by rfl) hw
 refine opOk_same hr (u:=.int .i64 s.size) (run_builtin ho hc hm (s:=Builtin.len_ c.argTypes o.type #[.string s]) (fun _=>rfl) ?_) rfl
 simp [Builtin.len_,hat,run_underlying g2,goInt]
theorem op_min [LG] {E:Env} (hE:EnvT E) {o:Oper} {nm:Nat} {θ:Th} {h:Hp} {w:World} {a:Act} {T:Tm} (hr:HR θ h w) (ht:TO θ T a o) {c:Call} {k l:IntKind} {x y:Int}
 (ho:o.op = .call c) (hc:c.callee = .builtin .min) (hv:opvs (opv T) c.args.toList=some [.int k x,.int l y]):OpOk E.P o nm θ h w a (.int k (bif iLt y x then y else x)) h:=by
 have hw:=opvs_O (fun y hy=>ht y (by simp [ho,Op.operands,Call.operands]; exact .inr (by simpa using hy))) hv
 have hm:=allPlain_eq (by rfl) hw
 refine opOk_same hr (u:=.int k (bif iLt y x then y else x)) (run_builtin ho hc hm (s:=Builtin.min_ c.argTypes o.type #[.int k x,.int l y]) (fun _=>rfl) ?_) rfl
 rw [iLt_eq]
 by_cases hlt:y<x<;>simp [Builtin.min_,Builtin.min2,hlt]
theorem op_max [LG] {E:Env} (hE:EnvT E) {o:Oper} {nm:Nat} {θ:Th} {h:Hp} {w:World} {a:Act} {T:Tm} (hr:HR θ h w) (ht:TO θ T a o) {c:Call} {k l:IntKind} {x y:Int}
 (ho:o.op = .call c) (hc:c.callee = .builtin .max) (hv:opvs (opv T) c.args.toList=some [.int k x,.int l y]):OpOk E.P o nm θ h w a (.int k (bif iLt x y then y else x)) h:=by
 have hw:=opvs_O (fun y hy=>ht y (by simp [ho,Op.operands,Call.operands]; exact .inr (by simpa using hy))) hv
 have hm:=allPlain_eq (by rfl) hw
 refine opOk_same hr (u:=.int k (bif iLt x y then y else x)) (run_builtin ho hc hm (s:=Builtin.max_ c.argTypes o.type #[.int k x,.int l y]) (fun _=>rfl) ?_) rfl
 rw [iLt_eq]
 by_cases hlt:x<y<;>simp [Builtin.max_,Builtin.max2,hlt]
theorem op_not [LG] {E:Env} (hE:EnvT E) {o:Oper} {nm:Nat} {θ:Th} {h:Hp} {w:World} {a:Act} {T:Tm} (hr:HR θ h w) (ht:TO θ T a o) {t:TypeId} {x:Operand} {b:Bool} (ho:o.op = .unOp .not t x)
 (hx:opv T x=some (.bool b)):OpOk E.P o nm θ h w a (.bool (!b)) h:=by
 have e1:=W_plain rfl (ht _ (by simp [ho,Op.operands]) _ hx)
 refine opOk_same hr (u:=.bool (!b)) ?_ rfl
 simp [execOp,ho,e1,Op.unary]
theorem xop_sound [LG] {E:Env} (hE:EnvT E) {o:Oper} {nm:Nat} {θ:Th} {h h':Hp} {w:World} {a:Act} {T:Tm} {v:Value} (hr:HR θ h w) (ht:TO θ T a o) {call:Nat->List Value->Hp->Option (Value × Hp)} (hcall:CallAt E.P call nm h) (hnm:θ nm=none)
 (hx:xop E call nm o T h=some (v,h')):OpWp E.P o nm θ h w a v h':=by
 unfold xop xopR at hx
 split at hx
 .rename_i x ho
  unfold xMove at hx
  obtain ⟨u,k1,k2⟩:=ob_some hx
  cases k2
  exact (op_move hE hr ht ho k1).wp
 .rename_i x ho
  unfold xMove at hx
  obtain ⟨u,k1,k2⟩:=ob_some hx
  cases k2
  exact (op_assign hE hr ht ho k1).wp
 .rename_i c x y ho
  unfold xPick at hx
  split at hx
  .rename_i hc
   obtain ⟨u,k1,k2⟩:=ob_some hx
   cases k2
   exact (op_pick hE hr ht ho hc (by simpa using k1)).wp
  .rename_i hc
   obtain ⟨u,k1,k2⟩:=ob_some hx
   cases k2
   exact (op_pick hE hr ht ho hc (by simpa using k1)).wp
  .cases hx
 .rename_i t ho
  unfold xAlloc at hx
  obtain ⟨ti,k1,k2⟩:=ob_some hx
  cases k2
  unfold allocE
  split
  .cases hz:isBld0 ti.zero<;>simp only [cond_true,cond_false]
   .exact (op_alloc hE hr ht hnm ho k1).wp
   .exact (op_allocB hE hr hnm ho k1 hz).wp
  .exact (op_alloc hE hr ht hnm ho k1).wp
 .rename_i t x ho
  unfold xBox at hx
  obtain ⟨u,k1,k2⟩:=ob_some hx
  obtain ⟨cs,k3,k4⟩:=ob_some k2
  cases k4
  exact (op_box hE hr ht hnm ho k1 k3).wp
 .rename_i t parts ho
  unfold xBuild at hx
  obtain ⟨ti,k1,k2⟩:=ob_some hx
  cases hk:Nat.beq ti.kind 3<;>simp only [hk,cond_true,cond_false] at k2
  .cases hk2:Nat.beq ti.kind 2<;>simp only [hk2,cond_true,cond_false,reduceCtorEq] at k2
   obtain ⟨ei,k3,k4⟩:=ob_some k2
   obtain ⟨ps,k5,k6⟩:=ob_some k4
   obtain ⟨cs,k7,k8⟩:=ob_some k6
   cases k8
   exact (op_build_array hE hr ht ho k1 (Nat.eq_of_beq_eq_true hk2) k3 k5 k7).wp
  .obtain ⟨ps,k5,k6⟩:=ob_some k2
   obtain ⟨cs,k7,k8⟩:=ob_some k6
   cases k8
   exact (op_build_struct hE hr ht ho k1 (Nat.eq_of_beq_eq_true hk) k5 k7).wp
 .rename_i t len parts ho
  unfold xBuildSlice at hx
  obtain ⟨ti,k1,k2⟩:=ob_some hx
  obtain ⟨ei,k3,k4⟩:=ob_some k2
  cases hq:(Nat.beq ti.kind 1&&Nat.ble (len*ei.size) 16777216&&Nat.ble len 16777216&&Nat.beq ei.zero.length ei.size)<;>simp only [hq,cond_true,cond_false,reduceCtorEq] at k4
  simp only [Bool.and_eq_true] at hq
  obtain ⟨ps,k5,k6⟩:=ob_some k4
  obtain ⟨cs,k7,k8⟩:=ob_some k6
  cases k8
  exact (op_buildSlice hE hr ht hnm ho k1 (Nat.eq_of_beq_eq_true hq.1.1.1) k3 (Nat.le_of_ble_eq_true hq.1.1.2) (Nat.le_of_ble_eq_true hq.1.2) (Nat.eq_of_beq_eq_true hq.2) k5 k7).wp
 .rename_i t x ho
  unfold xLoad at hx
  split at hx
  .rename_i ad hop
   obtain ⟨ti,k1,k2⟩:=ob_some hx
   exact (op_load hE hr ht ho hop k1 k2).wp
  .cases hx
 .rename_i t x y ho
  unfold xStore at hx
  split at hx
  .rename_i ad u hop1 hop2
   obtain ⟨ti,k1,k2⟩:=ob_some hx
   obtain ⟨cs,k3,k4⟩:=ob_some k2
   cases hl:Nat.beq cs.length ti.size<;>simp only [hl,cond_true,cond_false,reduceCtorEq] at k4
   obtain ⟨h2,k5,k6⟩:=ob_some k4
   cases k6
   exact (op_store hE hr ht ho hop1 hop2 k1 k3 (Nat.eq_of_beq_eq_true hl) k5).wp
  .cases hx
 .rename_i x ho
  unfold xNil at hx
  split at hx
  .rename_i ad hop
   cases hx
   exact (op_nilCheck_ptr hE hr ht ho hop).wp
  .rename_i g f1 f2 hop
   cases hx
   exact (op_nilCheck_func hE hr ht ho hop).wp
  .cases hx
 .rename_i op t x y t2 ho
  unfold xBin at hx
  split at hx
  .rename_i p q hp hq
   split at hx
   .rename_i v' hf
    cases hx
    exact (op_fast hE hr ht ho hp hq hf).wp
   unfold xBinEq at hx
   cases hb:(plainA p&&plainA q)<;>simp only [hb,cond_true,cond_false] at hx
   .obtain ⟨ti,k1,k2⟩:=ob_some hx
    cases hk:nilKind ti.kind p<;>simp only [hk,cond_true,cond_false,reduceCtorEq] at k2
    cases op<;>simp only [reduceCtorEq] at k2
    case eql =>
     obtain ⟨r,k3,k4⟩:=ob_some k2
     cases k4
     exact (op_nilEq hE hr ht ho hp hq k1 hk k3 (.inl rfl)).wp
    case neq =>
     obtain ⟨r,k3,k4⟩:=ob_some k2
     cases k4
     exact (op_nilEq hE hr ht ho hp hq k1 hk k3 (.inr rfl)).wp
   .exact (op_plain hE hr ht (by rw [ho]; intro _ _ e; cases e) hx).wp
  .cases hx
 .rename_i op t x ho
  unfold xUn at hx
  split at hx
  .rename_i b hb
   cases hx
   exact (op_not hE hr ht ho hb).wp
  .exact (op_plain hE hr ht (by rw [ho]; intro _ _ e; cases e) hx).wp
 .rename_i src dst x ho
  unfold xConv at hx
  split at hx
  .rename_i s hop
   obtain ⟨ti,k1,k2⟩:=ob_some hx
   cases hq:Nat.beq ti.kind 1<;>simp only [hq,cond_true,cond_false] at k2
   .exact (op_plain hE hr ht (by rw [ho]; intro _ _ e; cases e) k2).wp
   .obtain ⟨ei,k3,k4⟩:=ob_some k2
    obtain ⟨si,k5,k6⟩:=ob_some k4
    cases hq2:(Nat.beq ei.kind 6&&Nat.beq ei.size 1)<;>simp only [hq2,cond_true,cond_false,reduceCtorEq] at k6
    simp only [Bool.and_eq_true] at hq2
    unfold xStrB at k6
    cases hq3:(Nat.beq nm h.nxt&&Nat.ble s.size 1000000)<;>simp only [hq3,cond_true,cond_false,reduceCtorEq] at k6
    cases k6
    exact (op_strB hE hr ht hnm ho hop k1 k5 k3 (Nat.eq_of_beq_eq_true hq) (Nat.eq_of_beq_eq_true hq2.1)).wp
  .rename_i sa len cap hop
   obtain ⟨ti,k1,k2⟩:=ob_some hx
   obtain ⟨si,k3,k4⟩:=ob_some k2
   obtain ⟨ei,k5,k6⟩:=ob_some k4
   cases hq:(Nat.beq ti.kind 4&&Nat.beq si.kind 1&&Nat.beq ei.kind 6)<;>simp only [hq,cond_true,cond_false,reduceCtorEq] at k6
   simp only [Bool.and_eq_true] at hq
   obtain ⟨cs,k7,k8⟩:=ob_some k6
   obtain ⟨bs,k9,k10⟩:=ob_some k8
   cases k10
   exact (op_bytes hE hr ht ho hop k1 k3 k5 (Nat.eq_of_beq_eq_true hq.1.1) (Nat.eq_of_beq_eq_true hq.1.2) (Nat.eq_of_beq_eq_true hq.2) k7 k9).wp
  .exact (op_plain hE hr ht (by rw [ho]; intro _ _ e; cases e) hx).wp
  .cases hx
 .rename_i fn first cap ho
  unfold xMkF at hx
  split at hx
  .rename_i g vs us h1 h2
   cases hq:(vs.all capOk&&us.all capOk)<;>simp only [hq,cond_true,cond_false,reduceCtorEq] at hx
   simp only [Bool.and_eq_true] at hq
   cases hx
   exact (op_makeFunc hE hr ht ho h1 h2 hq.1 hq.2).wp
  .cases hx
 .rename_i t l c ho
  unfold xMake at hx
  split at hx
  .rename_i k1 n k2 k hl hc
   obtain ⟨ti,j1,j2⟩:=ob_some hx
   obtain ⟨ei,j3,j4⟩:=ob_some j2
   cases hq:(Nat.beq ti.kind 1&&decide (0<=n)&&decide (n<=k)&&decide (k<=1000000)&&Nat.ble ei.bytes 1000000&&Nat.beq ei.zero.length ei.size)<;>simp only [hq,cond_true,cond_false,reduceCtorEq] at j4
   simp only [Bool.and_eq_true,decide_eq_true_eq] at hq
   cases j4
   exact (op_makeSlice hE hr ht hnm ho hl hc j1 j3 (Nat.eq_of_beq_eq_true hq.1.1.1.1.1) hq.1.1.1.1.2 hq.1.1.1.2 hq.1.1.2 (Nat.le_of_ble_eq_true hq.1.2) (Nat.eq_of_beq_eq_true hq.2)).wp
  .cases hx
 .rename_i t x lo hi mx ho
  unfold xSlc at hx
  split at hx
  .rename_i sa len cap hop
   obtain ⟨ti,k1,k2⟩:=ob_some hx
   obtain ⟨ei,k3,k4⟩:=ob_some k2
   cases hk:Nat.beq ti.kind 1<;>simp only [hk,cond_true,cond_false,reduceCtorEq] at k4
   split at k4
   .rename_i lov hiv mxv j1 j2 j3
    obtain ⟨u,k5,k6⟩:=ob_some k4
    cases k6
    exact (op_slice hE hr ht ho hop k1 k3 (Nat.eq_of_beq_eq_true hk) j1 j2 j3 k5).wp
   .cases k4
  .rename_i ad hop
   obtain ⟨ti,k1,k2⟩:=ob_some hx
   obtain ⟨ei,k3,k4⟩:=ob_some k2
   cases hk:(Nat.beq ti.kind 2&&ad.spot.isNone&&mx.isNone)<;>simp only [hk,cond_true,cond_false,reduceCtorEq] at k4
   simp only [Bool.and_eq_true] at hk
   split at k4
   .rename_i lov hiv j1 j2
    split at k4
    .rename_i l u j3 j4
     cases hq:(Nat.ble l u&&Nat.ble u ti.alen&&Nat.blt ti.alen unkU)<;>simp only [hq,cond_true,cond_false,reduceCtorEq] at k4
     simp only [Bool.and_eq_true] at hq
     cases k4
     cases mx with
     | some m=>cases hk.2
     | none=>exact (op_sliceA hE hr ht ho hop (by simpa using hk.1.2) k1 k3 (Nat.eq_of_beq_eq_true hk.1.1) j1 j2 j3 j4 (Nat.le_of_ble_eq_true hq.1.1) (Nat.le_of_ble_eq_true hq.1.2) (blt_lt hq.2)).wp
    .cases k4
   .cases k4
  .exact (op_plain hE hr ht (by rw [ho]; intro _ _ e; cases e) hx).wp
  .cases hx
 .rename_i s x f ho
  unfold xField at hx
  split at hx
  .rename_i ad hop
   obtain ⟨ti,k1,k2⟩:=ob_some hx
   obtain ⟨fl,k3,k4⟩:=ob_some k2
   cases hq:(Nat.beq ti.kind 3&&!(Nat.beq fl.2 0)&&ad.spot.isNone)<;>simp only [hq,cond_true,cond_false,reduceCtorEq] at k4
   simp only [Bool.and_eq_true,Bool.not_eq_true'] at hq
   cases k4
   exact (op_fieldAddr hE hr ht ho hop k1 k3 (Nat.eq_of_beq_eq_true hq.1.1) (fun e=>by have:=hq.1.2; rw [e] at this; cases this)).wp
  .cases hx
 .rename_i t x ix ho
  unfold xIdx at hx
  split at hx
  .rename_i ad len cap k i hop1 hop2
   obtain ⟨ti,k1,k2⟩:=ob_some hx
   obtain ⟨ei,k3,k4⟩:=ob_some k2
   cases hq:(Nat.beq ti.kind 1&&decide (0<=i)&&decide (i<len)&&ad.spot.isNone)<;>simp only [hq,cond_true,cond_false,reduceCtorEq] at k4
   simp only [Bool.and_eq_true,decide_eq_true_eq] at hq
   cases k4
   exact (op_indexAddr_slice hE hr ht ho hop1 hop2 k1 k3 (Nat.eq_of_beq_eq_true hq.1.1.1) hq.1.1.2 hq.1.2).wp
  .rename_i ad k i hop1 hop2
   obtain ⟨ti,k1,k2⟩:=ob_some hx
   obtain ⟨ei,k3,k4⟩:=ob_some k2
   cases hq:(Nat.beq ti.kind 2&&decide (0<=i)&&decide (i<ti.alen)&&ad.spot.isNone)<;>simp only [hq,cond_true,cond_false,reduceCtorEq] at k4
   simp only [Bool.and_eq_true,decide_eq_true_eq] at hq
   cases k4
   exact (op_indexAddr_array hE hr ht ho hop1 hop2 k1 k3 (Nat.eq_of_beq_eq_true hq.1.1.1) hq.1.1.2 hq.1.2).wp
  .cases hx
 .rename_i ho
  exact (op_plain hE hr ht (by rw [ho]; intro _ _ e; cases e) hx).wp
 .rename_i t i ho
  unfold xExtract at hx
  split at hx
  .rename_i vs hop
   obtain ⟨u,k1,k2⟩:=ob_some hx
   cases k2
   exact (op_extract hE hr ht ho hop k1).wp
  .cases hx
 .rename_i t x f ho
  unfold xFldV at hx
  split at hx
  .rename_i cs hop
   obtain ⟨u,k1,k2⟩:=ob_some hx
   cases k2
   exact (op_field hE hr ht ho hop k1).wp
  .cases hx
 .rename_i t r ho
  cases r with
  | none=>cases hx; exact (op_makeMap hE hr hnm ho).wp
  | some r=>cases hx
 .rename_i t x ix ok ho
  exact (op_lookup hE hr ht ho hx).wp
 .rename_i t m k x ho
  exact (op_mapUpdate hE hr ht ho hx).wp
 .rename_i c ho
  unfold xCall at hx
  split at hx
  .rename_i f hc
   unfold xCallV at hx
   split at hx
   .rename_i g first cap vs hf hvs
    cases hg:Nat.blt g unkU<;>simp only [hg,cond_true,cond_false,reduceCtorEq] at hx
    exact op_call hE hr ht hcall ho hc hf hvs (blt_lt hg) hx
   .rename_i l first cap vs hf hvs
    exact op_yield hE hr ht hcall ho hc hf hvs hx
   .cases hx
  .rename_i b hc
   unfold xCallB at hx
   split at hx
   .rename_i vs hvs
    split at hx
    .rename_i r hb
     have hx:=hb.trans hx
     clear hb
     unfold xbuiltin at hx
     split at hx
     .rename_i sa n k
      split at hx
      .rename_i t ht'
       obtain ⟨ti,k1,k2⟩:=ob_some hx
       cases hk:Nat.beq ti.kind 1<;>simp only [hk,cond_true,cond_false,reduceCtorEq] at k2
       cases k2
       exact (op_len hE hr ht ho hc hvs ht' k1 (Nat.eq_of_beq_eq_true hk)).wp
      .cases hx
     .rename_i sa n k
      split at hx
      .rename_i t ht'
       obtain ⟨ti,k1,k2⟩:=ob_some hx
       cases hk:(Nat.beq ti.kind 1&&Nat.blt k unkU)<;>simp only [hk,cond_true,cond_false,reduceCtorEq] at k2
       simp only [Bool.and_eq_true] at hk
       cases k2
       exact (op_cap hE hr ht ho hc hvs ht' k1 (Nat.eq_of_beq_eq_true hk.1) (by have:=hk.2; unfold Nat.blt at this; exact Nat.le_of_ble_eq_true this)).wp
      .cases hx
     .rename_i sa len cap x
      split at hx
      .rename_i t u ht'
       obtain ⟨ti,k1,k2⟩:=ob_some hx
       obtain ⟨ei,k3,k4⟩:=ob_some k2
       obtain ⟨ui,k5,k6⟩:=ob_some k4
       cases hk:(Nat.beq ti.kind 1&&appK ui.kind x&&Nat.beq ei.zero.length ei.size)<;>simp only [hk,cond_true,cond_false,reduceCtorEq] at k6
       simp only [Bool.and_eq_true] at hk
       obtain ⟨nc,k7,k8⟩:=ob_some k6
       exact (op_append hE hr ht hnm ho hc hvs ht' k1 k3 k5 (Nat.eq_of_beq_eq_true hk.1.1) hk.1.2 (Nat.eq_of_beq_eq_true hk.2) k7 k8).wp
      .cases hx
     .rename_i sa len cap x
      split at hx
      .rename_i t u ht'
       obtain ⟨ti,k1,k2⟩:=ob_some hx
       obtain ⟨ei,k3,k4⟩:=ob_some k2
       cases hk:Nat.beq ti.kind 1<;>simp only [hk,cond_true,cond_false,reduceCtorEq] at k4
       split at k4
       .rename_i sb n k
        split at k4
        .rename_i ad bd
         obtain ⟨cs,k5,k6⟩:=ob_some k4
         obtain ⟨h2,k7,k8⟩:=ob_some k6
         cases k8
         exact (op_copy hE hr ht ho hc hvs ht' k1 k3 (Nat.eq_of_beq_eq_true hk) k5 k7).wp
        .cases hz:Nat.beq (min n len) 0<;>simp only [hz,cond_true,cond_false,reduceCtorEq] at k4
         cases k4
         exact (op_copy_none hE hr ht ho hc hvs ht' k1 k3 (Nat.eq_of_beq_eq_true hk) (Nat.eq_of_beq_eq_true hz)).wp
       .cases k4
      .cases hx
     .rename_i s
      split at hx
      .rename_i t ht'
       obtain ⟨ti,k1,k2⟩:=ob_some hx
       cases hk:Nat.beq ti.kind 4<;>simp only [hk,cond_true,cond_false,reduceCtorEq] at k2
       cases k2
       exact (op_lenStr hE hr ht ho hc hvs ht' k1 (Nat.eq_of_beq_eq_true hk)).wp
      .cases hx
     .rename_i k x l y
      cases hx
      exact (op_min hE hr ht ho hc hvs).wp
     .rename_i k x l y
      cases hx
      exact (op_max hE hr ht ho hc hvs).wp
     .cases hx
    .cases hq:(allPlain vs&&plainB b)<;>simp only [hq,cond_true,cond_false,reduceCtorEq] at hx
     exact (op_plain hE hr ht (by rw [ho]; intro _ _ e; cases e) hx).wp
   .cases hx
  .rename_i r name hc
   unfold xCallI at hx
   split at hx
   .rename_i t x vs hf hvs
    obtain ⟨ti,k1,k2⟩:=ob_some hx
    cases hq:(Nat.ble 1 ti.kind&&!(Nat.beq ti.kind 7))<;>simp only [hq,cond_true,cond_false,reduceCtorEq] at k2
    obtain ⟨g,k3,k4⟩:=ob_some k2
    cases hg:Nat.blt g unkU<;>simp only [hg,cond_true,cond_false,reduceCtorEq] at k4
    simp only [Bool.and_eq_true,Bool.not_eq_true'] at hq
    exact op_invoke hE hr ht hcall ho hc hf hvs k1 (Nat.le_of_ble_eq_true hq.1) (Nat.ne_of_beq_eq_false hq.2) k3 (blt_lt hg) k4
   .cases hx
 .rename_i t x ho
  unfold xMkI at hx
  obtain ⟨u,k1,k2⟩:=ob_some hx
  obtain ⟨ti,k3,k4⟩:=ob_some k2
  cases hq:(ifaOk u&&Nat.ble 1 ti.kind)<;>simp only [hq,cond_true,cond_false,reduceCtorEq] at k4
  simp only [Bool.and_eq_true] at hq
  cases k4
  exact (op_makeIface hE hr ht ho k1 k3 hq.1 (Nat.le_of_ble_eq_true hq.2)).wp
 .cases hx
theorem want_sound {θ:Th} {T:Tm} {a:Act} {ops:Array Oper} {o:Oper} {b:Bool}
 (hg:∀ j want d v,o.guard=some (j,want)->(ops[j]?).bind (·.dst)=some d->tget T d=some v->∃ u,a.tmps[d]? = some u/\W θ v u) (h:wantA ops o T=some b):Region.wanted o (yielded ops a.tmps)=b:=by
 unfold wantA at h
 unfold Region.wanted
 split at h
 .rename_i hn
  rw [hn]
  exact Option.some.inj h
 .rename_i j want hs
  rw [hs]
  simp only
  split at h
  .rename_i d hd
   split at h
   .rename_i x hx
    obtain ⟨u,h1,h2⟩:=hg j want d _ hs hd hx
    have hu:u = .bool x:=h2
    subst hu
    unfold yielded
    rw [hd]
    simp only [Option.bind_some,h1]
    cases h
    cases x<;>cases want<;>rfl
   .rename_i x hx
    obtain ⟨u,h1,h2⟩:=hg j want d _ hs hd hx
    obtain ⟨us,hu,_⟩:=h2
    subst hu
    unfold yielded
    rw [hd]
    simp only [Option.bind_some,h1]
    cases h
    cases want<;>rfl
   .cases h
  .cases h
theorem TR.guard {θ:Th} {T:Tm} {a:Act} (ht:TR θ T a) {ops:Array Oper} {o:Oper}:∀ j want d v,o.guard=some (j,want)->(ops[j]?).bind (·.dst)=some d->tget T d=some v->∃ u,a.tmps[d]? = some u/\W θ v u :=
 fun _ _ d v _ _ h=>ht.tmps d v h
theorem dstsOk_get {N:Nat}:∀ {l:List Oper},dstsOk N l=true->∀ (i:Nat) (o:Oper),l[i]? = some o->∀ d,o.dst=some d->d<N
 | [],_,i,o,h,_,_=>by simp at h
 | p :: l,hl,i,o,h,d,hd=>by
   simp only [dstsOk,Bool.and_eq_true] at hl
   cases i with
   | zero =>
     simp at h
     subst h
     have:=hl.1
     unfold dstOk at this
     rw [hd] at this
     simp only at this
     unfold Nat.blt at this
     exact Nat.le_of_ble_eq_true this
   | succ i=>exact dstsOk_get hl.2 i o (by simpa using h) d hd
theorem undef_W {θ:Th}:W θ undefV undef:=⟨[],rfl,trivial⟩
theorem xops_sound [LG] {E:Env} (hE:EnvT E) {call:Nat->List Value->Hp->Option (Value × Hp)} (hcall:∀ h,CallAt E.P call h.nxt h) {ops:Array Oper} {N:Nat} {ro:Option Nat} :
 ∀ (l:List Oper) (k:Nat) (T T':Tm) (h h':Hp) (θ:Th) (a:Act) (w:World) (Q:Exit->Act->World->Prop),xops E call ops l T h=some (T',h')->(∀ j,l[j]? = ops[k+j]?)->dstsOk N l=true->TR θ T a->N<=a.tmps.size->HR θ h w->
  (∀ θ' a' w',Ext h.nxt θ h w θ' h' w'->HR θ' h' w'->TR θ' T' a'->a'.tmps.size=a.tmps.size->a'.defers=a.defers->Q .normal a' w')->wpOpsIn (FW ro) 0 E.P ops Q (List.range' k l.length) a w
 | [],k,T,T',h,h',θ,a,w,Q,hx,hl,hd,ht,hN,hr,hQ=>by
   cases hx
   exact hQ θ a w (Ext.refl _ _ _ _) hr ht rfl rfl
 | o :: l,k,T,T',h,h',θ,a,w,Q,hx,hl,hd,ht,hN,hr,hQ=>by
   have ho:ops[k]? = some o:=by have:=hl 0; simpa using this.symm
   have hl':∀ j,l[j]? = ops[k+1+j]?:=fun j=>by
    have:=hl (j+1)
    simp only [List.getElem?_cons_succ] at this
    rw [this]
    congr 1
    omega
   have hd':=hd
   simp only [dstsOk,Bool.and_eq_true] at hd
   have hdst:∀ d,o.dst=some d->d<a.tmps.size:=fun d e=>Nat.lt_of_lt_of_le (dstsOk_get hd' 0 o (by simp) d e) hN
   rw [List.length_cons,List.range'_succ,wpOpsIn_cons]
   unfold wpOpIn
   rw [ho]
   simp only
   simp only [xops] at hx
   split at hx
   .rename_i hw
    rw [if_pos (want_sound ht.guard hw)]
    split at hx
    .rename_i v h1 hop
     refine xop_sound hE hr (ht.opers o) (hcall h) (hr.fresh _ (Nat.le_refl _)) hop ro _ _ ?_
     intro θ1 w1 u e1 r1 w1'
     refine xops_sound hE hcall l (k+1) _ T' h1 h' θ1 _ w1 Q hx hl' hd.2 ((ht.mono e1.keep).put hdst w1') (by rw [size_put]; exact hN) r1 ?_
     intro θ' a' w' e2 r2 t2 s2 d2
     exact hQ θ' a' w' (e1.trans e2 (fun n hn _ e=>by have:=e1.nxt; omega)) r2 t2 (by rw [s2,size_put]) (by rw [d2,defers_put])
    .cases hx
   .rename_i hw
    rw [if_neg (by rw [want_sound ht.guard hw]; simp)]
    refine ⟨fun _ _=>fn_FW,xops_sound hE hcall l (k+1) _ T' h h' θ _ w Q hx hl' hd.2 (ht.put hdst undef_W) (by rw [size_put]; exact hN) hr ?_⟩
    intro θ' a' w' e2 r2 t2 s2 d2
    exact hQ θ' a' w' e2 r2 t2 (by rw [s2,size_put]) (by rw [d2,defers_put])
   .cases hx
theorem region_sound [LG] {E:Env} (hE:EnvT E) {call:Nat->List Value->Hp->Option (Value × Hp)} (hcall:∀ h,CallAt E.P call h.nxt h) {ops:Array Oper} {N id:Nat} {T T':Tm} {h h':Hp} {θ:Th} {a:Act} {w:World} {Q:Exit->Act->World->Prop} {ro:Option Nat}
 (hx:xops E call ops ops.toList T h=some (T',h')) (hd:dstsOk N ops.toList=true) (ht:TR θ T a) (hN:N<=a.tmps.size) (hr:HR θ h w)
 (hQ:∀ θ' a' w',Ext h.nxt θ h w θ' h' w'->HR θ' h' w'->TR θ' T' a'->a'.tmps.size=a.tmps.size->a'.defers=a.defers->Q .normal a' w'):(Code.region id ops false).wpIn (FW ro) 0 E.P Q a w:=by
 refine wpIn_region ?_
 have:=xops_sound (ro:=ro) hE hcall ops.toList 0 T T' h h' θ a w Q hx (fun j=>by simp) hd ht hN hr hQ
 rw [List.range_eq_range']
 simpa using this
theorem memN_iff {i:Nat}:∀ {l:List Nat},memN i l=true↔i∈l
 | []=>by simp [memN]
 | j :: l=>by
   simp only [memN,Bool.or_eq_true,List.mem_cons,memN_iff (l:=l)]
   exact ⟨fun h=>h.imp Nat.eq_of_beq_eq_true id,fun h=>h.imp (fun e=>by rw [e]; simp) id⟩
theorem subN_mem {l m:List Nat} (h:subN l m=true) {i:Nat} (hi:i∈l):i∈m:=by
 unfold subN at h
 rw [List.all_eq_true] at h
 exact memN_iff.1 (h i hi)
theorem eqS0_eq {u v:Value} (h:eqS0 u v=true):u=v:=by
 unfold eqS0 at h
 split at h
 .rw [eq_of_beq h]
 .simp only [Bool.and_eq_true,decide_eq_true_eq] at h
  rw [h.1,h.2]
 .have:=of_decide_eq_true h
  rename_i a b
  congr 1
  cases a; cases b
  simp only at this
  congr 1
  exact Array.toList_inj.1 this
 .rfl
 .rw [of_decide_eq_true h]
 .simp only [Bool.and_eq_true] at h
  rw [Nat.eq_of_beq_eq_true h.1,Nat.eq_of_beq_eq_true h.2]
 .simp only [Bool.and_eq_true,decide_eq_true_eq] at h
  rw [h.1.1,Nat.eq_of_beq_eq_true h.1.2,Nat.eq_of_beq_eq_true h.2]
 .rfl
 .rfl
 .rfl
 .rw [Nat.eq_of_beq_eq_true h]
 .cases h
theorem eqL0_eq:∀ {u v:List Value},eqL0 u v=true->u=v
 | [],[],_=>rfl
 | a :: x,b :: y,h=>by
   simp only [eqL0,Bool.and_eq_true] at h
   rw [eqS0_eq h.1,eqL0_eq h.2]
 | [],_ :: _,h=>by simp [eqL0] at h
 | _ :: _,[],h=>by simp [eqL0] at h
theorem eqV0_eq {u v:Value} (h:eqV0 u v=true):u=v:=by
 unfold eqV0 at h
 split at h
 .rename_i a b
  congr 1
  exact Array.toList_inj.1 (eqL0_eq h)
 .exact eqS0_eq h
theorem eqLV0_eq:∀ {u v:List Value},eqLV0 u v=true->u=v
 | [],[],_=>rfl
 | a :: x,b :: y,h=>by
   simp only [eqLV0,Bool.and_eq_true] at h
   rw [eqV0_eq h.1,eqLV0_eq h.2]
 | [],_ :: _,h=>by simp [eqLV0] at h
 | _ :: _,[],h=>by simp [eqLV0] at h
theorem eqS_eq {u v:Value} (h:eqS u v=true):u=v:=by
 unfold eqS at h
 split at h
 .rename_i f a b g c d
  simp only [Bool.and_eq_true] at h
  have e1:f=g:=Nat.eq_of_beq_eq_true h.1.1
  rw [e1,Array.toList_inj.1 (eqLV0_eq h.1.2),Array.toList_inj.1 (eqLV0_eq h.2)]
 .exact eqS0_eq h
theorem eqL_eq:∀ {u v:List Value},eqL u v=true->u=v
 | [],[],_=>rfl
 | a :: x,b :: y,h=>by
   simp only [eqL,Bool.and_eq_true] at h
   rw [eqS_eq h.1,eqL_eq h.2]
 | [],_ :: _,h=>by simp [eqL] at h
 | _ :: _,[],h=>by simp [eqL] at h
theorem eqV_eq {u v:Value} (h:eqV u v=true):u=v:=by
 unfold eqV at h
 split at h
 .rename_i a b
  congr 1
  exact Array.toList_inj.1 (eqL_eq h)
 .exact eqS_eq h
theorem sil_same {E:Env} {call:Nat->List Value->Hp->Option (Value × Hp)} {nm:Nat} {o:Oper} {T:Tm} {h h':Hp} {v:Value} (hs:silB o.op=true) (hn:nm<h.nxt) (hx:xop E call nm o T h=some (v,h')):h'=h:=by
 have plain:∀ {v h'},xplain E o (opv T) h=some (v,h')->h'=h:=by
  intro v h' hp
  unfold xplain at hp
  split at hp
  .cases hp
  .rename_i vs _
   cases hq:allPlainA vs<;>simp only [hq,cond_true,cond_false,reduceCtorEq] at hp
   split at hp
   .rename_i u _
    cases hq2:isPlain u<;>simp [hq2] at hp
    exact hp.2.symm
   .cases hp
 unfold xop xopR at hx
 split at hx<;>rename_i ho<;>(try (rw [ho] at hs; simp [silB] at hs; done))
 .unfold xMove at hx
  obtain ⟨u,_,k⟩:=ob_some hx; cases k; rfl
 .unfold xMove at hx
  obtain ⟨u,_,k⟩:=ob_some hx; cases k; rfl
 .unfold xPick at hx
  split at hx
  .obtain ⟨u,_,k⟩:=ob_some hx; cases k; rfl
  .obtain ⟨u,_,k⟩:=ob_some hx; cases k; rfl
  .cases hx
 .unfold xBuild at hx
  obtain ⟨ti,_,k2⟩:=ob_some hx
  cases hk:Nat.beq ti.kind 3<;>simp only [hk,cond_true,cond_false] at k2
  .cases hk2:Nat.beq ti.kind 2<;>simp only [hk2,cond_true,cond_false,reduceCtorEq] at k2
   obtain ⟨_,_,k4⟩:=ob_some k2
   obtain ⟨_,_,k6⟩:=ob_some k4
   obtain ⟨_,_,k8⟩:=ob_some k6
   cases k8; rfl
  .obtain ⟨_,_,k6⟩:=ob_some k2
   obtain ⟨_,_,k8⟩:=ob_some k6
   cases k8; rfl
 .unfold xLoad at hx
  split at hx
  .obtain ⟨ti,_,k2⟩:=ob_some hx
   cases hk:ti.agg<;>simp only [hk,cond_true,cond_false] at k2
   .split at k2
    .cases k2; rfl
    .cases k2
   .obtain ⟨_,_,k8⟩:=ob_some k2
    cases k8; rfl
  .cases hx
 .unfold xNil at hx
  split at hx
  .cases hx; rfl
  .cases hx; rfl
  .cases hx
 .unfold xBin at hx
  split at hx
  .rename_i p q _ _
   split at hx
   .cases hx; rfl
   unfold xBinEq at hx
   cases hb:(plainA p&&plainA q)<;>simp only [hb,cond_true,cond_false] at hx
   .obtain ⟨ti,_,k2⟩:=ob_some hx
    cases hk:nilKind ti.kind p<;>simp only [hk,cond_true,cond_false,reduceCtorEq] at k2
    split at k2
    .obtain ⟨_,_,k8⟩:=ob_some k2; cases k8; rfl
    .obtain ⟨_,_,k8⟩:=ob_some k2; cases k8; rfl
    .cases k2
   .exact plain hx
  .cases hx
 .unfold xUn at hx
  split at hx
  .cases hx; rfl
  .exact plain hx
 .unfold xConv at hx
  split at hx
  .rename_i s hop
   obtain ⟨ti,k1,k2⟩:=ob_some hx
   cases hq:Nat.beq ti.kind 1<;>simp only [hq,cond_true,cond_false] at k2
   .exact plain k2
   .obtain ⟨ei,k3,k4⟩:=ob_some k2
    obtain ⟨si,k5,k6⟩:=ob_some k4
    cases hq2:(Nat.beq ei.kind 6&&Nat.beq ei.size 1)<;>simp only [hq2,cond_true,cond_false,reduceCtorEq] at k6
    unfold xStrB at k6
    cases hq3:(Nat.beq nm h.nxt&&Nat.ble s.size 1000000)<;>simp only [hq3,cond_true,cond_false,reduceCtorEq] at k6
    simp only [Bool.and_eq_true] at hq3
    have:=Nat.eq_of_beq_eq_true hq3.1
    omega
  .obtain ⟨ti,_,k2⟩:=ob_some hx
   obtain ⟨si,_,k4⟩:=ob_some k2
   obtain ⟨ei,_,k6⟩:=ob_some k4
   cases hq:(Nat.beq ti.kind 4&&Nat.beq si.kind 1&&Nat.beq ei.kind 6)<;>simp only [hq,cond_true,cond_false,reduceCtorEq] at k6
   obtain ⟨_,_,k8⟩:=ob_some k6
   obtain ⟨_,_,k9⟩:=ob_some k8
   cases k9; rfl
  .exact plain hx
  .cases hx
 .unfold xMkF at hx
  split at hx
  .rename_i g vs us h1 h2
   cases hq:(vs.all capOk&&us.all capOk)<;>simp only [hq,cond_true,cond_false,reduceCtorEq] at hx
   cases hx; rfl
  .cases hx
 .unfold xSlc at hx
  split at hx
  .obtain ⟨ti,_,k2⟩:=ob_some hx
   obtain ⟨ei,_,k4⟩:=ob_some k2
   cases hk:Nat.beq ti.kind 1<;>simp only [hk,cond_true,cond_false,reduceCtorEq] at k4
   split at k4
   .obtain ⟨_,_,k8⟩:=ob_some k4; cases k8; rfl
   .cases k4
  .rename_i mx _ ad _
   obtain ⟨ti,_,k2⟩:=ob_some hx
   obtain ⟨ei,_,k4⟩:=ob_some k2
   cases hk:(Nat.beq ti.kind 2&&ad.spot.isNone&&mx.isNone)<;>simp only [hk,cond_true,cond_false,reduceCtorEq] at k4
   split at k4
   .split at k4
    .rename_i l u _ _
     cases hq:(Nat.ble l u&&Nat.ble u ti.alen&&Nat.blt ti.alen unkU)<;>simp only [hq,cond_true,cond_false,reduceCtorEq] at k4
     cases k4; rfl
    .cases k4
   .cases k4
  .exact plain hx
  .cases hx
 .unfold xField at hx
  split at hx
  .rename_i ad _
   obtain ⟨ti,_,k2⟩:=ob_some hx
   obtain ⟨fl,_,k4⟩:=ob_some k2
   cases hq:(Nat.beq ti.kind 3&&!(Nat.beq fl.2 0)&&ad.spot.isNone)<;>simp only [hq,cond_true,cond_false,reduceCtorEq] at k4
   cases k4; rfl
  .cases hx
 .unfold xIdx at hx
  split at hx
  .rename_i ad len _ _ i _ _
   obtain ⟨ti,_,k2⟩:=ob_some hx
   obtain ⟨ei,_,k4⟩:=ob_some k2
   cases hq:(Nat.beq ti.kind 1&&decide (0<=i)&&decide (i<len)&&ad.spot.isNone)<;>simp only [hq,cond_true,cond_false,reduceCtorEq] at k4
   cases k4; rfl
  .rename_i ad _ i _ _
   obtain ⟨ti,_,k2⟩:=ob_some hx
   obtain ⟨ei,_,k4⟩:=ob_some k2
   cases hq:(Nat.beq ti.kind 2&&decide (0<=i)&&decide (i<ti.alen)&&ad.spot.isNone)<;>simp only [hq,cond_true,cond_false,reduceCtorEq] at k4
   cases k4; rfl
  .cases hx
 .exact plain hx
 .unfold xExtract at hx
  split at hx
  .obtain ⟨_,_,k8⟩:=ob_some hx; cases k8; rfl
  .cases hx
 .unfold xFldV at hx
  split at hx
  .obtain ⟨u,k1,k2⟩:=ob_some hx
   cases k2; rfl
  .cases hx
 .have lm:∀ {mt es k ok},xLookM E h mt es k ok=some (v,h')->h'=h:=by
   intro mt es k ok hm
   unfold xLookM at hm
   cases hg:keyGood E.P es.isEmpty mt.alen k<;>simp only [hg,cond_true,cond_false,reduceCtorEq] at hm
   split at hm
   .rename_i u _
    cases hq:isTup u<;>simp only [hq,cond_true,cond_false,reduceCtorEq] at hm
    cases hm; rfl
   .split at hm
    .rename_i z _
     cases hq:plainA z<;>simp only [hq,cond_true,cond_false,reduceCtorEq] at hm
     cases hm; rfl
    .cases hm
   .cases hm
  unfold xLook at hx
  split at hx
  .obtain ⟨mt,_,k2⟩:=ob_some hx
   cases hq:Nat.beq mt.kind 10<;>simp only [hq,cond_true,cond_false,reduceCtorEq] at k2
   exact lm k2
  .obtain ⟨mt,_,k2⟩:=ob_some hx
   cases hq:Nat.beq mt.kind 10<;>simp only [hq,cond_true,cond_false,reduceCtorEq] at k2
   obtain ⟨es,_,k4⟩:=ob_some k2
   exact lm k4
  .cases hx
 .unfold xCall at hx
  rename_i c
  rw [ho] at hs
  simp only [silB] at hs
  split at hx
  .rename_i hc; rw [hc] at hs; simp at hs
  .rename_i b hc
   rw [hc] at hs
   simp only at hs
   unfold xCallB at hx
   split at hx
   .rename_i vs _
    split at hx
    .rename_i r hb
     have hx:=hb.trans hx
     clear hb
     unfold xbuiltin at hx
     split at hx
     .split at hx
      .obtain ⟨ti,_,k2⟩:=ob_some hx
       cases hk:Nat.beq ti.kind 1<;>simp only [hk,cond_true,cond_false,reduceCtorEq] at k2
       cases k2; rfl
      .cases hx
     .split at hx
      .obtain ⟨ti,_,k2⟩:=ob_some hx
       simp only [Bool.cond_eq_ite] at k2
       split at k2
       .cases k2; rfl
       .cases k2
      .cases hx
     .simp [plainB] at hs
     .simp [plainB] at hs
     .split at hx
      .obtain ⟨ti,_,k2⟩:=ob_some hx
       cases hk:Nat.beq ti.kind 4<;>simp only [hk,cond_true,cond_false,reduceCtorEq] at k2
       cases k2; rfl
      .cases hx
     .cases hx; rfl
     .cases hx; rfl
     .cases hx
    .cases hq:(allPlain vs&&plainB b)<;>simp only [hq,cond_true,cond_false,reduceCtorEq] at hx
     exact plain hx
   .cases hx
  .rename_i r name hc; rw [hc] at hs; simp at hs
 .unfold xMkI at hx
  obtain ⟨u,_,k2⟩:=ob_some hx
  obtain ⟨ti,_,k4⟩:=ob_some k2
  rename_i t x
  cases hq:(ifaOk u&&Nat.ble 1 ti.kind)<;>simp only [hq,cond_true,cond_false,reduceCtorEq] at k4
  cases k4; rfl
 .cases hx
theorem all_any {E:Env} {call:Nat->List Value->Hp->Option (Value × Hp)} {nm:Nat} {o:Oper} {T:Tm} {h h':Hp} {v:Value} (hs:allB o.op=true) (hx:xop E call nm o T h=some (v,h')) :
 ∃ ent,h'=halloc h nm ent/\∀ H,xop E call nm o T H=some (v,halloc H nm ent):=by
 cases ho:o.op<;>rw [ho] at hs<;>simp only [allB,Bool.false_eq_true] at hs
 case alloc t =>
  simp only [xop,xopR,xAlloc,ho] at hx ⊢
  obtain ⟨ti,k1,k2⟩:=ob_some hx
  cases k2
  exact ⟨_,rfl,fun H=>by simp [k1,ob]⟩
 case box t x =>
  simp only [xop,xopR,xBox,ho] at hx ⊢
  obtain ⟨u,k1,k2⟩:=ob_some hx
  obtain ⟨cs,k3,k4⟩:=ob_some k2
  cases k4
  exact ⟨_,rfl,fun H=>by simp [k1,k3,ob]⟩
 case buildSlice t len parts =>
  simp only [xop,xopR,xBuildSlice,ho] at hx ⊢
  obtain ⟨ti,k1,k2⟩:=ob_some hx
  obtain ⟨ei,k3,k4⟩:=ob_some k2
  cases hq:(Nat.beq ti.kind 1&&Nat.ble (len*ei.size) 16777216&&Nat.ble len 16777216&&Nat.beq ei.zero.length ei.size)<;>simp only [hq,cond_true,cond_false,reduceCtorEq] at k4
  obtain ⟨ps,k5,k6⟩:=ob_some k4
  obtain ⟨cs,k7,k8⟩:=ob_some k6
  cases k8
  refine ⟨_,rfl,fun H=>?_⟩
  rw [k1]
  simp only [ob]
  rw [k3]
  simp only [hq,cond_true]
  rw [k5]
  simp only
  rw [k7]
 case makeSlice t l c =>
  simp only [xop,xopR,xMake,ho] at hx ⊢
  split at hx
  .rename_i k1 n k2 k hl hc
   obtain ⟨ti,j1,j2⟩:=ob_some hx
   obtain ⟨ei,j3,j4⟩:=ob_some j2
   cases hq:(Nat.beq ti.kind 1&&decide (0<=n)&&decide (n<=k)&&decide (k<=1000000)&&Nat.ble ei.bytes 1000000&&Nat.beq ei.zero.length ei.size)<;>simp only [hq,cond_true,cond_false,reduceCtorEq] at j4
   cases j4
   refine ⟨_,rfl,fun H=>?_⟩
   rw [j1]
   simp only [ob]
   rw [j3]
   simp only [hq,cond_true]
  .cases hx
structure Merge (θ θ':Th) (h1 hh hh' H':Hp):Prop where
 sub:∀ n e x,tget hh.m n=some e->θ n=some x->tget h1.m n=some e
 nxt:H'.nxt=hh'.nxt
 each:∀ n e x,tget H'.m n=some e->θ' n=some x->tget hh'.m n=some e\/(tget hh.m n=none/\tget h1.m n=some e/\θ n=some x)
theorem merge_HR [LG] {nm:Nat} {θ θ':Th} {h1 hh hh' H':Hp} {w w':World} (hr:HR θ h1 w) (m:Merge θ θ' h1 hh hh' H') (e:Ext nm θ hh w θ' hh' w') (hr':HR θ' hh' w'):HR θ' H' w':=by
 have kept:∀ n en x,tget hh.m n=none->tget h1.m n=some en->θ n=some x->w'.heap[x.1]? = w.heap[x.1]?:=by
  intro n en x h0 h2 h3
  refine e.frame x.1 (hr.ent n en x h2 h3).lt fun k ek y h4 _ h5 h6=>?_
  have hne:n≠k:=fun e1=>by subst e1; rw [h0] at h4; cases h4
  exact hr.sep n k en ek x y h2 (m.sub k ek y h4 h5) hne h3 h5 h6.symm
 refine ⟨fun n en x h2 h3=>?_,fun n k en ek x y h2 h3 hne h4 h5=>?_,fun n hn=>hr'.fresh n (by rw [<- m.nxt]; exact hn)⟩
 .rcases m.each n en x h2 h3 with h4 | ⟨h4,h5,h6⟩
  .exact hr'.ent n en x h4 h3
  .have r:=hr.ent n en x h5 h6
   have hk:=kept n en x h4 h5 h6
   refine ⟨h3,Nat.lt_of_lt_of_le r.lt e.size,fun i v hi=>?_,fun o ho=>(by rw [hk]; exact ObR_mono e.keep (r.ob o ho)),fun hu=>?_⟩
   .obtain ⟨⟨u,q1,q2⟩,q3⟩:=r.cell i v hi
    rw [World.cell?_of_block (w:=w) hk,World.frozen?_of_block (w:=w) hk]
    exact ⟨⟨u,q1,S_mono e.keep q2⟩,q3⟩
   .obtain ⟨q1,q2⟩:=r.room hu
    refine ⟨q1,fun i hi=>?_⟩
    rw [World.cell?_of_block (w:=w) hk,World.frozen?_of_block (w:=w) hk]
    exact q2 i hi
 .have cross:∀ n k en ek x y,tget hh.m n=none->tget h1.m n=some en->θ n=some x->tget hh'.m k=some ek->θ' k=some y->x.1≠y.1:=by
   intro n k en ek x y g1 g2 g3 g4 g5 g6
   rcases e.own k ek y g4 g5 with g7 | ⟨j,ej,z,g7,g8,g9⟩
   .have:=(hr.ent n en x g2 g3).lt
    omega
   .have hnj:n≠j:=fun e1=>by subst e1; rw [g1] at g7; cases g7
    exact hr.sep n j en ej x z g2 (m.sub j ej z g7 g8) hnj g3 g8 (g6.trans g9.symm)
  rcases m.each n en x h2 h4 with g | ⟨g1,g2,g3⟩<;>rcases m.each k ek y h3 h5 with f | ⟨f1,f2,f3⟩
  .exact hr'.sep n k en ek x y g f hne h4 h5
  .exact (cross k n ek en y x f1 f2 f3 g h4).symm
  .exact cross n k en ek x y g1 g2 g3 f h5
  .exact hr.sep n k en ek x y g2 f2 hne g3 f3
theorem merge_Ext {nm base:Nat} {θ0 θ θ':Th} {h0 h1 hh hh' H':Hp} {w0 w w':World} (b:Ext base θ0 h0 w0 θ h1 w) (m:Merge θ θ' h1 hh hh' H') (e:Ext nm θ hh w θ' hh' w') (hb:h0.nxt<=nm) (hn:h0.nxt<=hh.nxt) (hn':h0.nxt<=H'.nxt):Ext base θ0 h0 w0 θ' H' w' where
 keep n x q:=e.keep n x (b.keep n x q)
 only n q1 q2:=by rw [e.only n (by omega) (by omega),b.only n q1 q2]
 nxt:=hn'
 size:=Nat.le_trans b.size e.size
 tape:=e.tape.trans b.tape
 os:=e.os.trans b.os
 output:=e.output.trans b.output
 frame k hk hno:=by
  rw [e.frame k (Nat.lt_of_lt_of_le hk b.size) ?_,b.frame k hk hno]
  intro n en x q1 qu q2 q3
  rcases b.ownw n en x (m.sub n en x q1 q2) qu q2 with q4 | ⟨j,ej,y,q4,qj,q5,q6⟩
  .omega
  .exact hno j ej y q4 qj q5 (q6.trans q3)
 ownw n en x q1 qu q2:=by
  rcases m.each n en x q1 q2 with q3 | ⟨q3,q4,q5⟩
  .rcases e.ownw n en x q3 qu q2 with q6 | ⟨j,ej,y,q6,qj,q7,q8⟩
   .exact .inl (Nat.le_trans b.size q6)
   .rcases b.ownw j ej y (m.sub j ej y q6 q7) qj q7 with q9 | ⟨i,ei,z,q9,qi,q10,q11⟩
    .exact .inl (q8 ▸ q9)
    .exact .inr ⟨i,ei,z,q9,qi,q10,q11.trans q8⟩
  .exact b.ownw n en x q4 qu q5
 own n en x q1 q2:=by
  rcases m.each n en x q1 q2 with q3 | ⟨q3,q4,q5⟩
  .rcases e.own n en x q3 q2 with q6 | ⟨j,ej,y,q6,q7,q8⟩
   .exact .inl (Nat.le_trans b.size q6)
   .rcases b.own j ej y (m.sub j ej y q6 q7) q7 with q9 | ⟨i,ei,z,q9,q10,q11⟩
    .exact .inl (q8 ▸ q9)
    .exact .inr ⟨i,ei,z,q9,q10,q11.trans q8⟩
  .exact b.own n en x q4 q5
section
variable {ops : Array Oper} {A : List (List Nat)}
def Lst (listed:Array Bool) (i:Nat):Prop:=listed.getD i false=true
def Down (ops:Array Oper) (listed:Array Bool):Prop:=∀ i o,ops[i]? = some o->Lst listed i->∀ e∈o.after,Region.binds .any e=true->Lst listed e.on
theorem anc_down {listed:Array Bool} (hA:∀ i,i<ops.size->ancOk ops A i=true) (hd:Down ops listed) :
 ∀ (k i:Nat),i<k->i<ops.size->(∀ o,ops[i]? = some o->∀ e∈o.after,Region.binds .any e=true->Lst listed e.on)->∀ j,j∈ancOf A i->Lst listed j
 | 0,i,h,_,_,_,_=>by omega
 | k+1,i,h,hi,hdir,j,hj=>by
   have h1:=hA i hi
   unfold ancOk at h1
   have ho:ops[i]? = some ops[i]:=Array.getElem?_eq_getElem hi
   rw [ho] at h1
   simp only [Bool.and_eq_true] at h1
   obtain ⟨h2,h3⟩:=h1
   rw [List.all_eq_true] at h2 h3
   have h4:=h3 j hj
   rw [List.any_eq_true] at h4
   obtain ⟨e,he,h5⟩:=h4
   simp only [Bool.and_eq_true,Bool.or_eq_true] at h5
   have hem:e∈ops[i].after:=by simpa using he
   have hL:=hdir _ ho e hem h5.1
   rcases h5.2 with h6 | h6
   .rw [Nat.eq_of_beq_eq_true h6]; exact hL
   .have h7:=h2 e he
    rw [h5.1] at h7
    simp only [Bool.not_true,Bool.false_or] at h7
    unfold Nat.blt at h7
    have hlt:e.on<i:=Nat.le_of_ble_eq_true h7
    exact anc_down hA hd k e.on (by omega) (by omega) (fun o' ho' e' he' hb'=>hd e.on o' ho' hL e' he' hb') j (memN_iff.1 h6)
theorem lst_of_anc {listed:Array Bool} (hA:∀ i,i<ops.size->ancOk ops A i=true) (hd:Down ops listed) {i:Nat} (hi:i<ops.size) (hL:Lst listed i) {j:Nat} (hj:j∈ancOf A i):Lst listed j :=
 anc_down hA hd (i+1) i (by omega) hi (fun o ho e he hb=>hd i o ho hL e he hb) j hj
theorem mem_ready' {listed:Array Bool} (hs:listed.size=ops.size) {i:Nat} (h:i∈Region.ready .any ops listed) :
 i<ops.size/\¬ Lst listed i/\∀ o,ops[i]? = some o->∀ e∈o.after,Region.binds .any e=true->Lst listed e.on:=by
 unfold Region.ready at h
 rw [List.mem_filter] at h
 obtain ⟨h1,h2⟩:=h
 have hi:i<ops.size:=by simpa using h1
 simp only [Bool.and_eq_true,Bool.not_eq_true'] at h2
 have ho:ops[i]? = some ops[i]:=Array.getElem?_eq_getElem hi
 refine ⟨hi,?_,?_⟩
 .have h3:=h2.1
  unfold Lst
  have hl:i<listed.size:=by omega
  simp only [Array.getD_eq_getD_getElem?,Array.getElem?_eq_getElem hl,Option.getD_some] at h3 ⊢
  simp [h3]
 .intro o ho' e he hb
  have h3:=h2.2
  rw [ho'] at h3
  simp only [Option.map_some,Option.getD_some] at h3
  rw [Array.all_eq_true'] at h3
  have h4:=h3 e he
  rw [hb] at h4
  simpa [Lst] using h4
theorem all_done {listed:Array Bool} (hA:∀ i,i<ops.size->ancOk ops A i=true) (hs:listed.size=ops.size) (hr:Region.ready .any ops listed=[]):∀ (k i:Nat),i<k->i<ops.size->Lst listed i
 | 0,i,h,_=>by omega
 | k+1,i,h,hi=>by
   have ih:=all_done hA hs hr k
   have ho:ops[i]? = some ops[i]:=Array.getElem?_eq_getElem hi
   have hl:i<listed.size:=by omega
   unfold Lst
   cases hb:listed.getD i false with
   | true=>rfl
   | false =>
     exfalso
     have:i∈Region.ready .any ops listed:=by
      unfold Region.ready
      rw [List.mem_filter]
      refine ⟨by simpa using hi,?_⟩
      simp only [Bool.and_eq_true,Bool.not_eq_true']
      refine ⟨?_,?_⟩
      .simp only [Array.getD_eq_getD_getElem?,Array.getElem?_eq_getElem hl,Option.getD_some] at hb ⊢
       exact hb
      .rw [ho]
       simp only [Option.map_some,Option.getD_some]
       rw [Array.all_eq_true']
       intro e he
       cases hbe:Region.binds .any e with
       | false=>rfl
       | true =>
         simp only [Bool.not_true,Bool.false_or]
         have h1:=hA i hi
         unfold ancOk at h1
         rw [ho] at h1
         simp only [Bool.and_eq_true] at h1
         have h2:=h1.1
         rw [List.all_eq_true] at h2
         have h7:=h2 e (by simpa using he)
         rw [hbe] at h7
         simp only [Bool.not_true,Bool.false_or] at h7
         unfold Nat.blt at h7
         have hlt:e.on<i:=Nat.le_of_ble_eq_true h7
         exact ih e.on (by omega) (by omega)
     rw [hr] at this
     cases this
end
theorem writesAt_iff {ops:Array Oper} {j t:Nat}:writesAt ops j t=true↔∃ o,ops[j]? = some o/\o.dst=some t:=by
 unfold writesAt
 cases h:ops[j]? with
 | none=>simp
 | some o =>
   simp only [Option.some.injEq,exists_eq_left']
   cases hd:o.dst with
   | none=>simp
   | some d =>
     simp only [Option.some.injEq]
     exact ⟨Nat.eq_of_beq_eq_true,fun e=>by rw [e]; simp⟩
def noCall:Nat->List Value->Hp->Option (Value × Hp):=fun _ _ _=>none
theorem noCall_at [LG] (P:Program) (nm:Nat) (h:Hp):CallAt P noCall nm h:=fun _ _ _ _ hx=>by cases hx
theorem tputD_ne {T:Tm} {dst:Option Tmp} {v:Value} {t:Nat} (h:dst≠some t):tget (tputD T dst v) t=tget T t:=by
 cases dst with
 | none=>rfl
 | some d=>exact tget_tset_ne _ _ _ _ (fun e=>h (by rw [e]))
theorem tputD_same {T:Tm} {d:Nat} {v:Value}:tget (tputD T (some d) v) d=some v:=tget_tset_same _ _ _
theorem writes_false {ops:Array Oper} {i t:Nat} {o:Oper} (ho:ops[i]? = some o) (h:writesAt ops i t=false):o.dst≠some t:=fun e=>by
 have:=writesAt_iff.2 ⟨o,ho,e⟩
 rw [h] at this
 cases this
section
variable {E : Env} {ops : Array Oper} {A : List (List Nat)} {base : Nat}
structure PreR (E:Env) (ops:Array Oper) (base:Nat) (l:List Nat) (T:Tm) (h:Hp) (T1:Tm) (h1:Hp):Prop where
 keepT:∀ t,(∀ i∈l,writesAt ops i t=false)->tget T1 t=tget T t
 sub:∀ n e,tget h.m n=some e->tget h1.m n=some e
 new:∀ n e,tget h1.m n=some e->tget h.m n=none->∃ i∈l,n=base+i
 nxt:h1.nxt=h.nxt
theorem halloc_nxt {h:Hp} {nm:Nat} {e:Ent} (hn:nm<h.nxt):(halloc h nm e).nxt=h.nxt:=by simp only [halloc]; omega
theorem one_heap {i:Nat} {o:Oper} {T:Tm} {h h':Hp} {v:Value} (hk:silB o.op=true\/allB o.op=true) (hf:tget h.m (base+i)=none) (hn:base+i<h.nxt) (hx:xop E noCall (base+i) o T h=some (v,h')) :
 (∀ n e,tget h.m n=some e->tget h'.m n=some e)/\(∀ n e,tget h'.m n=some e->tget h.m n=none->n=base+i)/\h'.nxt=h.nxt:=by
 rcases hk with hk | hk
 .have:=sil_same hk hn hx
  subst this
  exact ⟨fun _ _ q=>q,fun n e q1 q2=>(by rw [q1] at q2; cases q2),rfl⟩
 .obtain ⟨ent,rfl,_⟩:=all_any hk hx
  refine ⟨fun n e q=>?_,fun n e q1 q2=>?_,halloc_nxt hn⟩
  .simp only [halloc]
   rw [tget_tset_ne _ _ _ _ (fun e1=>by subst e1; rw [hf] at q; cases q)]
   exact q
  .by_cases e1:base+i=n
   .exact e1.symm
   .simp only [halloc] at q1
    rw [tget_tset_ne _ _ _ _ e1,q2] at q1
    cases q1
theorem preOk_cons {prev:Option Nat} {D:List Nat} {i:Nat} {l:List Nat} (h:preOk ops A prev D (i :: l)=true) :
 (opAt? ops silB i=true\/opAt? ops allB i=true)/\i∉D/\behind A prev i=true/\lookOk ops A D i=true/\preOk ops A prev (i :: D) l=true:=by
 simp only [preOk,Bool.and_eq_true,Bool.or_eq_true,Bool.not_eq_true'] at h
 exact ⟨h.1.1.1.1,fun hm=>(by have:=memN_iff.2 hm; rw [h.1.1.1.2] at this; cases this),h.1.1.2,h.1.2,h.2⟩
theorem opAt_some {p:Op->Bool} {i:Nat} (h:opAt? ops p i=true):∃ o,ops[i]? = some o/\p o.op=true:=by
 unfold opAt? at h
 split at h
 .cases h
 .rename_i o ho; exact ⟨o,ho,h⟩
theorem lt_of_get {i:Nat} {o:Oper} (h:ops[i]? = some o):i<ops.size:=by
 rcases Nat.lt_or_ge i ops.size with g | g
 .exact g
 .rw [Array.getElem?_eq_none g] at h; cases h
theorem pre_R {prev:Option Nat}:∀ {l D:List Nat} {T T1:Tm} {h h1:Hp},preOk ops A prev D l=true->base+ops.size<=h.nxt->xpre E ops base l T h=some (T1,h1)->PreR E ops base l T h T1 h1
 | [],D,T,T1,h,h1,_,_,hx=>by
   cases hx
   exact ⟨fun _ _=>rfl,fun _ _ q=>q,fun n e q1 q2=>(by rw [q1] at q2; cases q2),rfl⟩
 | i :: l,D,T,T1,h,h1,hp,hn,hx=>by
   obtain ⟨hk,hi,_,_,hp'⟩:=preOk_cons hp
   simp only [xpre] at hx
   split at hx
   .rename_i o ho hf
    have hlt:=lt_of_get ho
    have hk':silB o.op=true\/allB o.op=true:=by
     rcases hk with hk | hk
     .obtain ⟨o',ho',q⟩:=opAt_some hk; rw [ho] at ho'; cases ho'; exact .inl q
     .obtain ⟨o',ho',q⟩:=opAt_some hk; rw [ho] at ho'; cases ho'; exact .inr q
    split at hx
    .split at hx
     .rename_i v h2 hop
      obtain ⟨g1,g2,g3⟩:=one_heap hk' hf (by omega) hop
      have ih:=pre_R hp' (by omega) hx
      refine ⟨fun t ht=>?_,fun n e q=>ih.sub n e (g1 n e q),fun n e q1 q2=>?_,by rw [ih.nxt,g3]⟩
      .rw [ih.keepT t (fun j hj=>ht j (by simp [hj])),tputD_ne (writes_false ho (ht i (by simp)))]
      .cases hc:tget h2.m n with
       | none=>obtain ⟨j,hj,e1⟩:=ih.new n e q1 hc; exact ⟨j,by simp [hj],e1⟩
       | some e'=>exact ⟨i,by simp,g2 n e' hc q2⟩
     .cases hx
    .have ih:=pre_R hp' hn hx
     refine ⟨fun t ht=>?_,ih.sub,fun n e q1 q2=>?_,ih.nxt⟩
     .rw [ih.keepT t (fun j hj=>ht j (by simp [hj])),tputD_ne (writes_false ho (ht i (by simp)))]
     .obtain ⟨j,hj,e1⟩:=ih.new n e q1 q2; exact ⟨j,by simp [hj],e1⟩
    .cases hx
   .cases hx
theorem pair_dst (hP:∀ i j,i<ops.size->j<ops.size->pairOk ops A i j=true) {i j t:Nat} (h1:writesAt ops i t=true) (h2:writesAt ops j t=true):i=j:=by
 obtain ⟨o,ho,hd⟩:=writesAt_iff.1 h1
 obtain ⟨o2,ho2,hd2⟩:=writesAt_iff.1 h2
 have hp:=hP i j (lt_of_get ho) (lt_of_get ho2)
 unfold pairOk at hp
 rw [ho] at hp
 simp only [Bool.or_eq_true,Bool.and_eq_true] at hp
 rcases hp with hp | hp
 .exact Nat.eq_of_beq_eq_true hp
 .have:=hp.2
  rw [hd] at this
  simp only [Bool.not_eq_true'] at this
  rw [h2] at this
  cases this
theorem pair_look (hP:∀ i j,i<ops.size->j<ops.size->pairOk ops A i j=true) {i j t:Nat} {o:Oper} (ho:ops[i]? = some o) (hne:i≠j) (ht:t∈o.looksAt ops) (h2:writesAt ops j t=true):j∈ancOf A i\/i∈ancOf A j:=by
 obtain ⟨o2,ho2,hd2⟩:=writesAt_iff.1 h2
 have hp:=hP i j (lt_of_get ho) (lt_of_get ho2)
 unfold pairOk at hp
 rw [ho] at hp
 simp only [Bool.or_eq_true,Bool.and_eq_true] at hp
 rcases hp with hp | hp
 .exact absurd (Nat.eq_of_beq_eq_true hp) hne
 .have:=hp.1
  rw [List.all_eq_true] at this
  have h3:=this t ht
  rw [h2] at h3
  simp only [Bool.not_true,Bool.false_or,Bool.or_eq_true] at h3
  exact h3.imp memN_iff.1 memN_iff.1
theorem lookOk_spec {D:List Nat} {i:Nat} {o:Oper} (ho:ops[i]? = some o) (h:lookOk ops A D i=true):(∀ j∈ancOf A i,j∈D)/\(∀ t∈o.looksAt ops,∀ j∈D,writesAt ops j t=true->j∈ancOf A i):=by
 unfold lookOk at h
 rw [ho] at h
 simp only [Bool.and_eq_true] at h
 refine ⟨fun j hj=>subN_mem h.1.1 hj,fun t ht j hj hw=>?_⟩
 have:=h.2
 rw [List.all_eq_true] at this
 have h2:=this t ht
 rw [List.all_eq_true] at h2
 have h3:=h2 j hj
 rw [hw] at h3
 simp only [Bool.not_true,Bool.false_or] at h3
 exact memN_iff.1 h3
theorem pre_T:∀ {l:List Nat} {T T1:Tm} {h h1:Hp},xpre E ops base l T h=some (T1,h1)->∀ t,(∀ i∈l,writesAt ops i t=false)->tget T1 t=tget T t
 | [],T,T1,h,h1,hx,t,_=>by cases hx; rfl
 | i :: l,T,T1,h,h1,hx,t,ht=>by
   simp only [xpre] at hx
   split at hx
   .rename_i o ho hf
    split at hx
    .split at hx
     .rw [pre_T hx t (fun j hj=>ht j (by simp [hj])),tputD_ne (writes_false ho (ht i (by simp)))]
     .cases hx
    .rw [pre_T hx t (fun j hj=>ht j (by simp [hj])),tputD_ne (writes_false ho (ht i (by simp)))]
    .cases hx
   .cases hx
theorem preOk_new {prev:Option Nat}:∀ {l D:List Nat},preOk ops A prev D l=true->∀ i∈l,i∉D
 | [],_,_,i,hi=>by cases hi
 | k :: l,D,h,i,hi=>by
   obtain ⟨_,h2,_,_,h5⟩:=preOk_cons h
   rcases List.mem_cons.1 hi with rfl | hi
   .exact h2
   .intro hm
    exact preOk_new h5 i hi (by simp [hm])
theorem stOk_cons {D:List Nat} {prev:Option Nat} {s:Stage} {l:List Stage} (h:stOk ops A D prev (s :: l)=true) :
 coverOk ops A prev D s.re=true/\reOk ops A D s.re=true/\preOk ops A prev D s.pre=true/\
 ((s.loud=none/\l=[]/\∀ i,i<ops.size->i∈s.pre.reverse++D)\/
  (∃ c o,s.loud=some c/\ops[c]? = some o/\(∀ i∈s.hide,i<ops.size)/\c∉s.pre.reverse++D/\behind A prev c=true/\lookOk ops A (s.pre.reverse++D) c=true/\
    (∀ i∈s.pre.reverse++D,opAt? ops allB i=true->i∈s.hide\/i∈ancOf A c)/\(∀ i,i<ops.size->i∈s.pre.reverse++D\/i=c\/c∈ancOf A i)/\stOk ops A (c :: (s.pre.reverse++D)) (some c) l=true)):=by
 simp only [stOk,Bool.and_eq_true] at h
 obtain ⟨⟨⟨h1,h2⟩,h3⟩,h4⟩:=h
 refine ⟨h1,h2,h3,?_⟩
 cases hl:s.loud with
 | none =>
   rw [hl] at h4
   simp only [Bool.and_eq_true,List.all_eq_true,List.isEmpty_iff] at h4
   exact .inl ⟨rfl,h4.2,fun i hi=>memN_iff.1 (h4.1 i (by simpa using hi))⟩
 | some c =>
   rw [hl] at h4
   simp only [Bool.and_eq_true,List.all_eq_true,Bool.or_eq_true,Bool.not_eq_true'] at h4
   obtain ⟨⟨⟨⟨⟨⟨⟨k1,k0⟩,k2⟩,k3⟩,k4⟩,k5⟩,k6⟩,k7⟩:=h4
   cases ho:ops[c]? with
   | none=>rw [ho] at k1; cases k1
   | some o =>
     refine .inr ⟨c,o,rfl,ho,fun i hi=>(by have:=k0 i hi; unfold Nat.blt at this; exact Nat.le_of_ble_eq_true this),fun hm=>(by have:=memN_iff.2 hm; rw [k2] at this; cases this),k3,k4,fun i hi ha=>?_,fun i hi=>?_,k7⟩
     .rcases k5 i hi with (q | q) | q
      .rw [ha] at q; cases q
      .exact .inl (memN_iff.1 q)
      .exact .inr (memN_iff.1 q)
     .rcases k6 i (by simpa using hi) with (q | q) | q
      .exact .inl (memN_iff.1 q)
      .exact .inr (.inl (Nat.eq_of_beq_eq_true q))
      .exact .inr (.inr (memN_iff.1 q))
theorem stages_T (hP:∀ i j,i<ops.size->j<ops.size->pairOk ops A i j=true) {call:Nat->List Value->Hp->Option (Value × Hp)} :
 ∀ {st:List Stage} {D:List Nat} {prev:Option Nat} {T Tf:Tm} {h hf:Hp},stOk ops A D prev st=true->xstages E call ops base st T h=some (Tf,hf)->∀ t j,j∈D->writesAt ops j t=true->tget Tf t=tget T t
 | [],D,prev,T,Tf,h,hf,hs,hx,t,j,hj,hw=>by simp [stOk] at hs
 | s :: l,D,prev,T,Tf,h,hf,hs,hx,t,j,hj,hw=>by
   obtain ⟨h1,h2,h3,h4⟩:=stOk_cons hs
   have hpre:∀ i∈s.pre,writesAt ops i t=false:=fun i hi=>by
    cases hq:writesAt ops i t with
    | false=>rfl
    | true =>
      have:=pair_dst hP hq hw
      subst this
      exact absurd hj (preOk_new h3 i hi)
   simp only [xstages] at hx
   cases hre:xre E ops base T h s.re<;>simp only [hre,cond_true,cond_false,reduceCtorEq] at hx
   split at hx
   .cases hx
   .rename_i T1 h1' hp
    have hT1:=pre_T hp t hpre
    rcases h4 with ⟨e1,e2,_⟩ | ⟨c,o,e1,ho,_,hc,_,_,_,_,hst⟩
    .rw [e1] at hx
     subst e2
     simp only at hx
     cases hx
     exact hT1
    .rw [e1] at hx
     simp only [ho] at hx
     have hcw:o.dst≠some t:=fun e=>by
      have hq:=writesAt_iff.2 ⟨o,ho,e⟩
      have:=pair_dst hP hq hw
      subst this
      exact hc (by simp [hj])
     have hjD:j∈c :: (s.pre.reverse++D):=by simp [hj]
     split at hx
     .split at hx
      .rw [stages_T hP hst hx t j hjD hw,tputD_ne hcw,hT1]
      .cases hx
     .rw [stages_T hP hst hx t j hjD hw,tputD_ne hcw,hT1]
     .cases hx
end
end Go.Ev
