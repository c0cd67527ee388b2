import Derived.Test.YtfhjkkbaghanhaaGreatEwNf1
import Derived.Test.YtfhjkkbaghanhaaGreatEwS4
set_option linter.unusedVariables false
set_option linter.unusedSimpArgs false
namespace Go.Ew
open Go.Ev Go.Deep
def vis (c:Int):Prop:=32<=c/\c<=126
theorem b1_bytes {c:Int} (h:vis c):bytesI (b1B c)=[c]:=by
 unfold bytesI b1B
 have h1:(UInt8.ofNat c.toNat).toNat=c.toNat:=by
  rw [UInt8.toNat_ofNat']
  have:=h.1; have:=h.2
  omega
 simp only [List.map_cons,List.map_nil]
 have:=h.1
 rw [h1]
 congr 1
 omega
theorem byte_said:∀ n:Nat,n<127->32<=n->said (ByteArray.mk #[91]++b1B (n:Int)++ByteArray.mk #[93]) [(1,[((n:Int),(n:Int))])] = !decide ((n:Int)∈clsB):=by decide +kernel
theorem byteT_eq {c:Int} (h:vis c):byteT c=if c∈clsB then ByteArray.mk #[92]++b1B c else b1B c:=by
 obtain ⟨n,rfl⟩:∃ n:Nat,c=n:=⟨c.toNat,by have:=h.1; omega⟩
 have:=byte_said n (by have:=h.2; omega) (by have:=h.1; omega)
 unfold byteT
 rw [this]
 by_cases hc:((n:Nat):Int)∈clsB
 .rw [if_pos hc,if_neg (by simp [hc])]
 .rw [if_neg hc,if_pos (by simp [hc])]
theorem let_plain {c:Int} {r:List Int} (h:c≠92):letL (c :: r) false=(c,false) :: letL r false:=by
 rw [letL,if_neg (fun q=>h q.1)]
theorem let_esc {c:Int} {r:List Int}:letL (92 :: c :: r) false=(c,true) :: letL r false:=by
 rw [letL,if_pos ⟨rfl,rfl,by simp⟩,letL,if_neg (fun q=>by cases q.2.1)]
theorem bytesI_app (a b:ByteArray):bytesI (a++b)=bytesI a++bytesI b:=bytes_app a b
theorem byteT_run {c:Int} (h:vis c):∃ e,standsB c e clsB=true/\∀ r,letL (bytesI (byteT c)++r) false=(c,e) :: letL r false:=by
 rw [byteT_eq h]
 have h1:=h.1
 have h2:=h.2
 split
 .rename_i hc
  refine ⟨true,?_,fun r=>?_⟩
  .unfold standsB; simp [h1,h2,hc]
  .rw [bytesI_app,b1_bytes h]
   exact let_esc
 .rename_i hc
  refine ⟨false,?_,fun r=>?_⟩
  .unfold standsB; simp [h1,h2,hc]
  .rw [b1_bytes h]
   exact let_plain (fun q=>hc (by rw [q]; decide))
theorem foldT_cons {σ τ:RdS} {c:Int} {e:Bool} {l:List (Int × Bool)} (h:takeR σ c e=some τ):foldT σ ((c,e) :: l)=foldT τ l:=by
 rw [foldT,h]
theorem in_cls {σ:RdS} {l:List Rg} {pl c:Int} {e:Bool} (hs:standsB c e clsB=true) {x:List Rg × Int} (ha:addC l pl c=some x) (hσ:σ.cls=some (l,pl)):takeR σ c e=some { σ with cls:=some x }:=by
 unfold takeR
 rw [hσ]
 show inClassR σ l pl c e=_
 unfold inClassR
 rw [if_pos hs,ha]
theorem range_run {r:Rg} (h:okRg r) {σ:RdS} {l:List Rg} {pl:Int} (hp:pl=0\/pl=1) (hσ:σ.cls=some (l,pl)) (q:List Int):∃ pl',(pl'=0\/pl'=1)/\foldT σ (letL (bytesI (rangeT r)++q) false)=foldT { σ with cls:=some (l++[r],pl') } (letL q false):=by
 obtain ⟨lo,hi⟩:=r
 have h1:lo<=hi:=h.1
 have h2:32<=lo:=h.2.1
 have h3:hi<=126:=h.2.2
 have hn2:pl≠2:=by rcases hp with q | q<;>omega
 obtain ⟨e,e1,e2⟩:=byteT_run (c:=lo) ⟨h2,by omega⟩
 have a1:addC l pl lo=some (l++[(lo,lo)],1):=if_pos hn2
 unfold rangeT
 split
 .rename_i heq
  have heq:lo=hi:=heq
  subst heq
  refine ⟨1,.inr rfl,?_⟩
  rw [e2,foldT_cons (in_cls e1 a1 hσ)]
 .rename_i hne
  obtain ⟨f,f1,f2⟩:=byteT_run (c:=hi) ⟨by omega,h3⟩
  refine ⟨0,.inl rfl,?_⟩
  rw [bytesI_app,bytesI_app,List.append_assoc,List.append_assoc,e2,foldT_cons (in_cls e1 a1 hσ)]
  have b45:bytesI (ByteArray.mk #[45])=[45]:=rfl
  rw [b45]
  show foldT _ (letL (45 :: (bytesI (byteT hi)++q)) false)=_
  rw [let_plain (by decide)]
  have t45:takeR { σ with cls:=some (l++[(lo,lo)],1) } 45 false=some { σ with cls:=some (l++[(lo,lo)],2) }:=rfl
  rw [foldT_cons t45,f2]
  have a2:addC (l++[(lo,lo)]) 2 hi=some (l++[(lo,hi)],0):=by
   unfold addC
   rw [if_neg (by decide)]
   simp
   omega
  rw [foldT_cons (in_cls f1 a2 rfl)]
theorem ranges_run:∀ (L:List Rg) (s:ByteArray),(∀ r∈L,okRg r)->bytesI (rangesT L s)=bytesI s++(L.flatMap fun r=>bytesI (rangeT r))
 | [],s,_=>by simp [rangesT]
 | r :: L,s,h=>by
   rw [rangesT,ranges_run L _ (fun x hx=>h x (by simp [hx])),bytesI_app]
   simp
theorem cls_run:∀ (L:List Rg) (σ:RdS) (l:List Rg) (pl:Int) (q:List Int),(∀ r∈L,okRg r)->(pl=0\/pl=1)->σ.cls=some (l,pl)->∃ pl',(pl'=0\/pl'=1)/\foldT σ (letL ((L.flatMap fun r=>bytesI (rangeT r))++q) false)=foldT { σ with cls:=some (l++L,pl') } (letL q false)
 | [],σ,l,pl,q,_,hp,hσ=>⟨pl,hp,by
   have:{ σ with cls:=some (l++[],pl) }=σ:=by rw [List.append_nil,<- hσ]
   rw [this]; rfl⟩
 | r :: L,σ,l,pl,q,h,hp,hσ=>by
   obtain ⟨p1,q1,q2⟩:=range_run (h r (by simp)) hp hσ ((L.flatMap fun r=>bytesI (rangeT r))++q)
   obtain ⟨p2,r1,r2⟩:=cls_run L { σ with cls:=some (l++[r],p1) } (l++[r]) p1 q (fun x hx=>h x (by simp [hx])) q1 rfl
   refine ⟨p2,r1,?_⟩
   rw [List.flatMap_cons,List.append_assoc,q2,r2]
   simp
def Run0 (u:List Int) (I:List It):Prop:=∀ P O pt x q,(x=0\/x=1\/x=2)->2*O.length+u.length<=24->foldT ⟨P,O,pt,x,none⟩ (letL (u++q) false)=foldT ⟨P++Jn x++I,O,pt,Dn x,none⟩ (letL q false)
def Run1 (u:List Int) (I:List It):Prop:=∃ I' x',(x'=1\/x'=2)/\I=I'++Jn x'/\∀ P O pt q,2*O.length+u.length<=24->foldT ⟨P,O,pt,0,none⟩ (letL (u++q) false)=foldT ⟨P++I',O,pt,x',none⟩ (letL q false)
def Run2 (u:List Int) (I:List It):Prop:=∃ I' pt' x',(x'=1\/x'=2)/\I=fins I' pt' x'/\∀ P O q,2*O.length+u.length<=24->foldT ⟨P,O,false,0,none⟩ (letL (u++q) false)=foldT ⟨P++I',O,pt',x',none⟩ (letL q false)
theorem Run0.to1 {u:List Int} {I:List It} (h:Run0 u I):Run1 u I:=⟨I,1,.inl rfl,by simp [Jn],fun P O pt q hl=>by
 rw [h P O pt 0 q (.inl rfl) hl]; simp [Jn,Dn]⟩
theorem Run1.to2 {u:List Int} {I:List It} (h:Run1 u I):Run2 u I:=by
 obtain ⟨I',x',h1,h2,h3⟩:=h
 refine ⟨I',false,x',h1,?_,fun P O q hl=>h3 P O false q hl⟩
 rw [h2]; unfold fins Jn
 rcases h1 with z | z<;>subst z<;>simp
theorem Run2.brk {u:List Int} {I:List It} (h:Run2 u I):Run0 ([40]++u++[41]) I:=by
 obtain ⟨I',pt',x',h1,h2,h3⟩:=h
 intro P O pt x q hx hl
 simp only [List.length_append,List.length_cons,List.length_nil] at hl
 obtain ⟨y,hy,ho⟩:=open_is (P:=P) (pt:=pt) hx (by omega:O.length<12)
 rw [List.append_assoc,List.append_assoc]
 show foldT _ (letL (40 :: (u++([41]++q))) false)=_
 rw [let_plain (by decide)]
 have t40:takeR ⟨P,O,pt,x,none⟩ 40 false=some ⟨P++Jn x,O++[(pt,y)],false,0,none⟩:=by rw [<- ho]; rfl
 rw [foldT_cons t40,h3 _ _ _ (by rw [List.length_append]; simp; omega)]
 show foldT _ (letL (41 :: q) false)=_
 rw [let_plain (by decide)]
 have t41:takeR ⟨P++Jn x++I',O++[(pt,y)],pt',x',none⟩ 41 false=some ⟨P++Jn x++I,O,pt,Dn x,none⟩:=by
  show closeR _=_
  rw [close_is h1,fins_app,<- h2]
  show some (RdS.mk _ _ _ (y+1) _)=_
  rw [hy]
 rw [foldT_cons t41]
theorem sign_run {u:List Int} {I:List It} {c op:Int} (h:Run0 u I) (hc:c≠92) (hs:standsB c false marksB=false) (hm:∀ σ,markR σ c=repeatR σ op):Run0 (u++[c]) (I++[(op,[])]):=by
 intro P O pt x q hx hl
 simp only [List.length_append,List.length_cons,List.length_nil] at hl
 rw [List.append_assoc,h P O pt x _ hx (by omega)]
 show foldT _ (letL (c :: q) false)=_
 rw [let_plain hc]
 have t:takeR ⟨P++Jn x++I,O,pt,Dn x,none⟩ c false=some ⟨P++Jn x++(I++[(op,[])]),O,pt,Dn x,none⟩:=by
  show (if standsB c false marksB=true then _ else markR _ c)=_
  rw [if_neg (by rw [hs]; decide),hm]
  unfold repeatR
  rw [if_neg (by show ¬ Dn x=0; unfold Dn; split<;>decide)]
  simp [putR]
 rw [foldT_cons t]
theorem join_run {u v:List Int} {I J:List It} (h:Run1 u I) (k:Run0 v J):Run1 (u++v) (I++J++[(2,[])]):=by
 obtain ⟨I',x',h1,h2,h3⟩:=h
 refine ⟨I++J,2,.inr rfl,by simp [Jn],fun P O pt q hl=>?_⟩
 simp only [List.length_append] at hl
 rw [List.append_assoc,h3 P O pt _ (by omega),k _ O pt x' q (by rcases h1 with z | z<;>simp [z]) (by omega),h2]
 have:Dn x'=2:=by rcases h1 with z | z<;>subst z<;>rfl
 rw [this]
 simp
theorem alt_run {u v:List Int} {I J:List It} (h:Run2 u I) (k:Run1 v J):Run2 (u++[124]++v) (I++J++[(3,[])]):=by
 obtain ⟨I',pt',x',h1,h2,h3⟩:=h
 obtain ⟨J',y',k1,k2,k3⟩:=k
 refine ⟨I++J',true,y',k1,?_,fun P O q hl=>?_⟩
 .rw [k2]; unfold fins Jn
  rcases k1 with z | z<;>subst z<;>simp
 .simp only [List.length_append,List.length_cons,List.length_nil] at hl
  rw [List.append_assoc,List.append_assoc,h3 P O _ (by omega)]
  show foldT _ (letL (124 :: (v++q)) false)=_
  rw [let_plain (by decide)]
  have t:takeR ⟨P++I',O,pt',x',none⟩ 124 false=some ⟨P++I,O,true,0,none⟩:=by
   show endR _=_
   rw [end_is h1,fins_app,<- h2]
  rw [foldT_cons t,k3 _ O true q (by omega)]
  simp
theorem one_letter {c:Int} {e:Bool} {r:Rg} (h:((foldT rd0 [(c,e)]).bind finR).map RdS.items=some [(1,[r])]):∀ σ:RdS,σ.cls=none->takeR σ c e=some (addClassR σ [r]):=by
 intro σ hσ
 have hc:takeR σ c e=if standsB c e marksB=true then some (addClassR σ [(c,c)]) else markR σ c:=by unfold takeR; rw [hσ]
 have h0:foldT rd0 [(c,e)]=if standsB c e marksB=true then some (addClassR rd0 [(c,c)]) else markR rd0 c:=by
  rw [foldT]
  have:takeR rd0 c e=if standsB c e marksB=true then some (addClassR rd0 [(c,c)]) else markR rd0 c:=rfl
  rw [this]
  cases (if standsB c e marksB=true then some (addClassR rd0 [(c,c)]) else markR rd0 c:Option RdS)<;>rfl
 rw [h0] at h
 rw [hc]
 split
 .rename_i hs
  rw [if_pos hs] at h
  have h:some [((1:Int),[(c,c)])]=some [(1,[r])]:=h
  have:(c,c)=r:=by simpa using h
  rw [this]
 .rename_i hs
  rw [if_neg hs] at h
  unfold markR at h ⊢
  by_cases h1:c=40
  .rw [if_pos h1] at h; cases h
  rw [if_neg h1] at h ⊢
  by_cases h2:c=41
  .rw [if_pos h2] at h; cases h
  rw [if_neg h2] at h ⊢
  by_cases h3:c=91
  .rw [if_pos h3] at h; cases h
  rw [if_neg h3] at h ⊢
  by_cases h4:c=46
  .rw [if_pos h4] at h ⊢
   have h:some [((1:Int),[((32:Int),(126:Int))])]=some [(1,[r])]:=h
   have:((32:Int),(126:Int))=r:=by simpa using h
   rw [this]
  rw [if_neg h4] at h ⊢
  by_cases h5:c=124
  .rw [if_pos h5] at h; cases h
  rw [if_neg h5] at h ⊢
  by_cases h6:c=42
  .rw [if_pos h6] at h; cases h
  rw [if_neg h6] at h ⊢
  by_cases h7:c=43
  .rw [if_pos h7] at h; cases h
  rw [if_neg h7] at h ⊢
  by_cases h8:c=63
  .rw [if_pos h8] at h; cases h
  rw [if_neg h8] at h
  cases h
theorem parse_run {s:ByteArray} {l:List It} (h:parseR s=some l):(1<=s.size/\s.size<=24)/\((foldT rd0 (letL (bytesI s) false)).bind finR).map RdS.items=some l:=by
 unfold parseR at h
 split at h
 .cases h
 .rename_i hz
  refine ⟨by omega,?_⟩
  unfold readR at h
  split at h
  .cases h
  .rename_i σ hf
   split at h
   .cases h
   .rename_i τ ht
    rw [hf]
    show (finR σ).map RdS.items=_
    rw [ht]
    exact h
theorem run_parse {s:ByteArray} {l:List It} (h1:1<=s.size) (h2:s.size<=24) (h:((foldT rd0 (letL (bytesI s) false)).bind finR).map RdS.items=some l):parseR s=some l:=by
 unfold parseR
 rw [if_neg (by omega)]
 unfold readR
 cases hf:foldT rd0 (letL (bytesI s) false) with
 | none=>rw [hf] at h; cases h
 | some σ =>
   rw [hf] at h
   have h:(finR σ).map RdS.items=some l:=h
   cases ht:finR σ with
   | none=>rw [ht] at h; cases h
   | some τ =>
     rw [ht] at h
     simp only [ht]
     exact h
theorem letter_run {s:ByteArray} {c:Int} {e:Bool} {r:Rg} (hs:said s [(1,[r])]=true) (hl:∀ q,letL (bytesI s++q) false=(c,e) :: letL q false):Run0 (bytesI s) [(1,[r])]:=by
 have hp:parseR s=some [(1,[r])]:=of_decide_eq_true hs
 obtain ⟨_,h1⟩:=parse_run hp
 have h0:=hl []
 rw [List.append_nil] at h0
 have h0:letL (bytesI s) false=[(c,e)]:=h0
 rw [h0] at h1
 intro P O pt x q hx _
 rw [hl,foldT_cons (one_letter h1 _ rfl),add_is hx]
theorem class_run {L:List Rg} (hne:L≠[]) (h:∀ r∈L,okRg r):Run0 (bytesI (classT L)) [(1,L)]:=by
 have brace:Run0 (bytesI (braceT L)) [(1,L)]:=by
  intro P O pt x q hx hl
  unfold braceT at hl ⊢
  rw [bytesI_app,bytesI_app,ranges_run L _ h] at hl ⊢
  have e0:bytesI (ByteArray.mk #[])=[]:=rfl
  have e1:bytesI (ByteArray.mk #[91])=[91]:=rfl
  have e2:bytesI (ByteArray.mk #[93])=[93]:=rfl
  rw [e0,e1,e2] at hl ⊢
  simp only [List.length_append,List.length_cons,List.length_nil] at hl
  rw [List.append_assoc,List.append_assoc,List.nil_append]
  show foldT _ (letL (91 :: ((L.flatMap fun r=>bytesI (rangeT r))++([93]++q))) false)=_
  rw [let_plain (by decide)]
  have t91:takeR ⟨P,O,pt,x,none⟩ 91 false=some ⟨P,O,pt,x,some ([],0)⟩:=by
   show openC _=_
   exact if_pos (show O.length<12 by omega)
  rw [foldT_cons t91]
  obtain ⟨pl',p1,p2⟩:=cls_run L ⟨P,O,pt,x,some ([],0)⟩ [] 0 ([93]++q) h (.inl rfl) rfl
  rw [p2]
  show foldT _ (letL (93 :: q) false)=_
  rw [let_plain (by decide)]
  have t93:takeR ⟨P,O,pt,x,some ([]++L,pl')⟩ 93 false=some { addClassR ⟨P,O,pt,x,some ([]++L,pl')⟩ ([]++L) with cls:=none }:=by
   unfold takeR
   show inClassR _ ([]++L) pl' 93 false=_
   unfold inClassR
   rw [if_neg (by decide),if_neg (by decide),if_pos rfl,if_pos]
   unfold wholeC
   have h1:0<([]++L).length:=by rw [List.nil_append]; exact List.length_pos_iff.2 hne
   have h2:pl'≠2:=by rcases p1 with z | z<;>omega
   simp [h1,h2]
   simpa using h1
  rw [foldT_cons t93,add_is hx]
  rfl
 unfold classT
 split
 .rename_i r
  have hr:=h r (by simp)
  have hv:vis r.1:=⟨hr.2.1,by have:=hr.1; have:=hr.2.2; omega⟩
  split
  .rename_i hs
   exact letter_run hs (c:=46) (e:=false) fun q=>rfl
  split
  .rename_i hs
   by_cases h92:r.1=92
   .exfalso
    have:bytesI (b1B r.1)=[92]:=by rw [b1_bytes hv,h92]
    obtain ⟨_,h1⟩:=parse_run (of_decide_eq_true hs:parseR (b1B r.1)=some [(1,[r])])
    rw [this] at h1
    cases h1
   .exact letter_run hs (c:=r.1) (e:=false) fun q=>by rw [b1_bytes hv]; exact let_plain h92
  split
  .rename_i hs
   exact letter_run hs (c:=r.1) (e:=true) fun q=>by rw [bytesI_app,b1_bytes hv]; exact let_esc
  .exact brace
 .exact brace
def Ptn.okT:Ptn->Prop
 | .cls L=>L≠[]/\∀ r∈L,okRg r
 | .join a b=>a.okT/\b.okT
 | .alt a b=>a.okT/\b.okT
 | .star a=>a.okT
 | .plus a=>a.okT
 | .may a=>a.okT
def RunK (k:Int) (u:List Int) (I:List It):Prop:=if k=0 then Run0 u I else if k=1 then Run1 u I else Run2 u I
theorem RunK.to2 {k:Int} {u:List Int} {I:List It} (h:RunK k u I):Run2 u I:=by
 unfold RunK at h
 split at h
 .exact h.to1.to2
 split at h
 .exact h.to2
 .exact h
theorem brk_bytes (k l:Int) (s:ByteArray):bytesI (brk k l s)=if k<l then [40]++bytesI s++[41] else bytesI s:=by
 unfold brk
 split
 .rw [bytesI_app,bytesI_app]; rfl
 .rfl
theorem brk0 {t:Ptn} (h:RunK t.loose (bytesI t.text) t.items):Run0 (bytesI (brk 0 t.loose t.text)) t.items:=by
 rw [brk_bytes]
 split
 .exact h.to2.brk
 .rename_i hn
  have:t.loose=0:=by cases t<;>simp [Ptn.loose] at hn ⊢
  rw [this] at h
  exact h
theorem brk1 {t:Ptn} (h:RunK t.loose (bytesI t.text) t.items):Run1 (bytesI (brk 1 t.loose t.text)) t.items:=by
 rw [brk_bytes]
 split
 .exact h.to2.brk.to1
 .rename_i hn
  have:t.loose=0\/t.loose=1:=by cases t<;>simp [Ptn.loose] at hn ⊢
  rcases this with q | q
  .rw [q] at h; exact Run0.to1 h
  .rw [q] at h; exact h
theorem brk2 {t:Ptn} (h:RunK t.loose (bytesI t.text) t.items):Run2 (bytesI (brk 2 t.loose t.text)) t.items:=by
 rw [brk_bytes]
 split
 .exact h.to2.brk.to1.to2
 .exact h.to2
theorem text_run:∀ t:Ptn,t.okT->RunK t.loose (bytesI t.text) t.items
 | .cls L,h=>class_run h.1 h.2
 | .join a b,h=>by
   have h1:=brk1 (text_run a h.1)
   have h2:=brk0 (text_run b h.2)
   show Run1 _ _
   rw [Ptn.text,bytesI_app]
   exact join_run h1 h2
 | .alt a b,h=>by
   have h1:=brk2 (text_run a h.1)
   have h2:=brk1 (text_run b h.2)
   show Run2 _ _
   rw [Ptn.text,bytesI_app,bytesI_app]
   exact alt_run h1 h2
 | .star a,h=>by
   have h1:=brk0 (text_run a h)
   show Run0 _ _
   rw [Ptn.text,bytesI_app]
   exact sign_run h1 (by decide) rfl fun σ=>rfl
 | .plus a,h=>by
   have h1:=brk0 (text_run a h)
   show Run0 _ _
   rw [Ptn.text,bytesI_app]
   exact sign_run h1 (by decide) rfl fun σ=>rfl
 | .may a,h=>by
   have h1:=brk0 (text_run a h)
   show Run0 _ _
   rw [Ptn.text,bytesI_app]
   exact sign_run h1 (by decide) rfl fun σ=>rfl
theorem text_said {t:Ptn} (h:t.okT) (h1:1<=t.text.size) (h2:t.text.size<=24):said t.text t.items=true:=by
 refine decide_eq_true (run_parse h1 h2 ?_)
 obtain ⟨I',pt',x',q1,q2,q3⟩:=(text_run t h).to2
 have:=q3 [] [] [] (by rw [bytes_len]; simpa using h2)
 rw [List.append_nil] at this
 have e0:(⟨[],[],false,0,none⟩:RdS)=rd0:=rfl
 rw [e0] at this
 rw [this]
 show ((some (RdS.mk ([]++I') [] pt' x' none)).bind finR).map RdS.items=_
 show (endR _).map RdS.items=_
 rw [end_is q1,fins_app,<- q2]
 rfl
def cK (k:Int) (t:Ptn):Nat:=(brk k t.loose t.text).size
theorem cK_eq (k:Int) (t:Ptn):cK k t=t.text.size+if k<t.loose then 2 else 0:=by
 unfold cK brk
 split
 .rw [size_app,size_app,lit1,lit1]; omega
 .rfl
theorem loose_in (t:Ptn):0<=t.loose/\t.loose<=2:=by cases t<;>simp [Ptn.loose]
theorem c23 (t:Ptn):cK 1 t<=cK 0 t:=by
 rw [cK_eq,cK_eq]
 have:=loose_in t
 split<;>split<;>omega
theorem c32 (t:Ptn):cK 2 t<=cK 1 t:=by
 rw [cK_eq,cK_eq]
 have:=loose_in t
 split<;>split<;>omega
theorem c02 (t:Ptn):cK 0 t<=cK 2 t+2:=by
 rw [cK_eq,cK_eq]
 split<;>split<;>omega
theorem c2t (t:Ptn):cK 2 t=t.text.size:=by
 rw [cK_eq]
 have:=loose_in t
 rw [if_neg (by omega)]; rfl
theorem c_join (a b:Ptn):cK 1 (.join a b)=cK 1 a+cK 0 b:=by
 rw [cK_eq]
 show (Ptn.text (.join a b)).size+_=_
 rw [Ptn.text,size_app]
 rfl
theorem c_alt (a b:Ptn):cK 2 (.alt a b)=cK 2 a+1+cK 1 b:=by
 rw [c2t,Ptn.text,size_app,size_app]
 rfl
theorem c_star (a:Ptn):cK 0 (.star a)=cK 0 a+1:=by
 rw [cK_eq]
 show (Ptn.text (.star a)).size+0=_
 rw [Ptn.text,size_app]; rfl
theorem c_plus (a:Ptn):cK 0 (.plus a)=cK 0 a+1:=by
 rw [cK_eq]
 show (Ptn.text (.plus a)).size+0=_
 rw [Ptn.text,size_app]; rfl
theorem c_may (a:Ptn):cK 0 (.may a)=cK 0 a+1:=by
 rw [cK_eq]
 show (Ptn.text (.may a)).size+0=_
 rw [Ptn.text,size_app]; rfl
theorem c_cls (L:List Rg):cK 0 (.cls L)=(classT L).size:=by rw [cK_eq]; rfl
theorem classT_le (L:List Rg):(classT L).size<=(braceT L).size:=by
 unfold classT
 split
 .rename_i r
  have h3:3<=(braceT [r]).size:=by
   unfold braceT
   rw [size_app,size_app,lit1,lit1]
   have:1<=(rangesT [r] (ByteArray.mk #[])).size:=by
    have e:(ByteArray.mk #[]).size=0:=rfl
    simp only [rangesT,size_app,e]
    have hb:∀ c,1<=(byteT c).size:=fun c=>by
     unfold byteT
     split
     .rw [b1B_size]; omega
     .rw [size_app,b1B_size,lit1]; omega
    unfold rangeT
    split
    .have:=hb r.1; omega
    .rw [size_app,size_app]
     have:=hb r.1; omega
   omega
  split
  .rw [lit1]; omega
  split
  .rw [b1B_size]; omega
  split
  .rw [size_app,b1B_size,lit1]; omega
  .exact Nat.le_refl _
 .exact Nat.le_refl _
theorem rangesT_snoc:∀ (l:List Rg) (r:Rg) (s:ByteArray),rangesT (l++[r]) s=rangesT l s++rangeT r
 | [],r,s=>rfl
 | x :: l,r,s=>by
   show rangesT (l++[r]) (s++rangeT x)=rangesT l (s++rangeT x)++rangeT r
   exact rangesT_snoc l r _
def rS (l:List Rg):Nat:=(rangesT l (ByteArray.mk #[])).size
theorem rS_snoc (l:List Rg) (r:Rg):rS (l++[r])=rS l+(rangeT r).size:=by
 unfold rS; rw [rangesT_snoc,size_app]
theorem rS_nil:rS []=0:=rfl
theorem brace_rS (L:List Rg):(braceT L).size=rS L+2:=by
 unfold braceT rS; rw [size_app,size_app,lit1,lit1]; omega
def PA (pt:Bool) (I:List It) (k:Nat):Prop:=(pt=false/\I=[])\/(pt=true/\∃ A:Ptn,I=A.items/\cK 2 A+1<=k)
def PX (x:Int) (I:List It) (k:Nat):Prop:=(x=0/\I=[])\/(x=1/\∃ J:Ptn,I=J.items/\cK 0 J<=k)\/(x=2/\∃ J B:Ptn,I=J.items++B.items/\cK 1 J+cK 0 B<=k)
def PY (y:Int) (I:List It) (k:Nat):Prop:=(y=0/\I=[])\/(y=1/\∃ J:Ptn,I=J.items/\cK 1 J<=k)
def PL (pt:Bool) (x:Int) (I:List It) (k:Nat):Prop:=∃ IA IX ka kx,I=IA++IX/\PA pt IA ka/\PX x IX kx/\ka+kx<=k
def PG (g:Bool × Int) (I:List It) (k:Nat):Prop:=∃ IA IX ka kx,I=IA++IX/\PA g.1 IA ka/\PY g.2 IX kx/\ka+kx+1<=k
def PO:List (Bool × Int)->List It->Nat->Prop
 | [],I,k=>I=[]
 | g :: r,I,k=>∃ Ig Ir kg kr,I=Ig++Ir/\PG g Ig kg/\PO r Ir kr/\kg+kr<=k
def KC:Option (List Rg × Int)->Nat->Prop
 | none,_=>True
 | some (l,pl),k=>1+rS l+(if pl=2 then 1 else 0)<=k/\(pl≠0->∃ l' c,l=l'++[(c,c)])
theorem PO.snoc:∀ {r:List (Bool × Int)} {g:Bool × Int} {I J:List It} {k m:Nat},PO r I k->PG g J m->PO (r++[g]) (I++J) (k+m)
 | [],g,I,J,k,m,h,hg=>by
   have h:I=[]:=h
   subst h
   exact ⟨J,[],m,0,by simp,hg,rfl,by omega⟩
 | a :: r,g,I,J,k,m,⟨Ig,Ir,kg,kr,h1,h2,h3,h4⟩,hg=>⟨Ig,Ir++J,kg,kr+m,by rw [h1,List.append_assoc],h2,h3.snoc hg,by omega⟩
theorem PO.unsnoc:∀ {r:List (Bool × Int)} {g:Bool × Int} {I:List It} {k:Nat},PO (r++[g]) I k->∃ I1 J k1 m,I=I1++J/\PO r I1 k1/\PG g J m/\k1+m<=k
 | [],g,I,k,⟨Ig,Ir,kg,kr,h1,h2,h3,h4⟩=>by
   have h3:Ir=[]:=h3
   subst h3
   exact ⟨[],Ig,0,kg,by rw [h1]; simp,rfl,h2,by omega⟩
 | a :: r,g,I,k,⟨Ig,Ir,kg,kr,h1,h2,h3,h4⟩=>by
   obtain ⟨I1,J,k1,m,q1,q2,q3,q4⟩:=PO.unsnoc h3
   exact ⟨Ig++I1,J,kg+k1,m,by rw [h1,q1,List.append_assoc],⟨Ig,I1,kg,k1,rfl,h2,q2,by omega⟩,q3,by omega⟩
def Cst (σ:RdS) (n:Nat):Prop:=∃ Iq IL ko kl kc,σ.items=Iq++IL/\PO σ.outer Iq ko/\PL σ.parted σ.atoms IL kl/\KC σ.cls kc/\ko+kl+kc<=n
theorem PL.add {pt:Bool} {x:Int} {I:List It} {k:Nat} (h:PL pt x I k) (hx:x=0\/x=1\/x=2) {C:Ptn}:PL pt (Dn x) (I++Jn x++C.items) (k+cK 0 C):=by
 obtain ⟨IA,IX,ka,kx,h1,h2,h3,h4⟩:=h
 rcases h3 with ⟨q1,q2⟩ | ⟨q1,J,q2,q3⟩ | ⟨q1,J,B,q2,q3⟩
 .subst q1; subst q2
  exact ⟨IA,C.items,ka,cK 0 C,by rw [h1]; simp [Jn],h2,.inr (.inl ⟨rfl,C,rfl,Nat.le_refl _⟩),by omega⟩
 .subst q1
  have:=c23 J
  exact ⟨IA,J.items++C.items,ka,kx+cK 0 C,by rw [h1,q2]; simp [Jn],h2,.inr (.inr ⟨rfl,J,C,rfl,by omega⟩),by omega⟩
 .subst q1
  have:=c_join J B
  exact ⟨IA,(Ptn.join J B).items++C.items,ka,kx+cK 0 C,by rw [h1,q2]; simp [Jn,Ptn.items],h2,.inr (.inr ⟨rfl,.join J B,C,rfl,by omega⟩),by omega⟩
theorem PL.open_ {pt:Bool} {x:Int} {I:List It} {k:Nat} (h:PL pt x I k) {y:Int} (hy:y+1=Dn x):PG (pt,y) (I++Jn x) (k+1):=by
 obtain ⟨IA,IX,ka,kx,h1,h2,h3,h4⟩:=h
 rcases h3 with ⟨q1,q2⟩ | ⟨q1,J,q2,q3⟩ | ⟨q1,J,B,q2,q3⟩
 .subst q1; subst q2
  have:y=0:=by simp [Dn] at hy; omega
  exact ⟨IA,[],ka,0,by rw [h1]; simp [Jn],h2,.inl ⟨this,rfl⟩,by omega⟩
 .subst q1
  have:=c23 J
  have:y=1:=by simp [Dn] at hy; omega
  exact ⟨IA,J.items,ka,kx,by rw [h1,q2]; simp [Jn],h2,.inr ⟨this,J,rfl,by omega⟩,by omega⟩
 .subst q1
  have:=c_join J B
  have:y=1:=by simp [Dn] at hy; omega
  exact ⟨IA,(Ptn.join J B).items,ka,kx,by rw [h1,q2]; simp [Jn,Ptn.items],h2,.inr ⟨this,.join J B,rfl,by omega⟩,by omega⟩
theorem PL.end_ {pt:Bool} {x:Int} {I:List It} {k:Nat} (h:PL pt x I k) (hx:x=1\/x=2):∃ T:Ptn,fins I pt x=T.items/\cK 2 T<=k:=by
 obtain ⟨IA,IX,ka,kx,h1,h2,h3,h4⟩:=h
 obtain ⟨J,hJ,hJc⟩:∃ J:Ptn,IX++Jn x=J.items/\cK 1 J<=kx:=by
  rcases h3 with ⟨q1,q2⟩ | ⟨q1,J,q2,q3⟩ | ⟨q1,J,B,q2,q3⟩
  .omega
  .subst q1
   have:=c23 J
   exact ⟨J,by rw [q2]; simp [Jn],by omega⟩
  .subst q1
   have:=c_join J B
   exact ⟨.join J B,by rw [q2]; simp [Jn,Ptn.items],by omega⟩
 have hf:fins I pt x=IA++J.items++(if pt=true then [(3,[])] else []):=by
  rw [<- hJ,h1]
  unfold fins Jn
  rcases hx with q | q<;>subst q<;>simp
 rcases h2 with ⟨q1,q2⟩ | ⟨q1,A,q2,q3⟩
 .subst q1; subst q2
  have:=c32 J
  exact ⟨J,by rw [hf]; simp,by omega⟩
 .subst q1
  have:=c_alt A J
  exact ⟨.alt A J,by rw [hf,q2]; simp [Ptn.items],by omega⟩
theorem end_inv {σ τ:RdS} (h:endR σ=some τ) (hx:σ.atoms=0\/σ.atoms=1\/σ.atoms=2):(σ.atoms=1\/σ.atoms=2)/\τ=⟨fins σ.items σ.parted σ.atoms,σ.outer,true,0,σ.cls⟩:=by
 obtain ⟨I,O,pt,x,cl⟩:=σ
 have hx:x=0\/x=1\/x=2:=hx
 rcases hx with q | q | q<;>subst q
 .cases h
 .refine ⟨.inl rfl,?_⟩
  cases pt<;>(cases h; simp [joinR,putR,fins])
 .refine ⟨.inr rfl,?_⟩
  cases pt<;>(cases h; simp [joinR,putR,fins])
theorem stand_size {c:Int} {e:Bool} (h:standsB c e clsB=true):(byteT c).size<=if e=true then 2 else 1:=by
 obtain ⟨h1,h2⟩:=stands_rg h
 rw [byteT_eq ⟨h1,h2⟩]
 cases e with
 | true =>
   rw [if_pos rfl]
   split
   .rw [size_app,b1B_size,lit1]; omega
   .rw [b1B_size]; omega
 | false =>
   have:c∉clsB:=by
    unfold standsB at h
    simp only [Bool.and_eq_true,beq_iff_eq] at h
    exact of_decide_eq_false h.2.2
   rw [if_neg this,if_neg (by decide),b1B_size]
   omega
theorem mark_size {c:Int} {e:Bool} (h:standsB c e marksB=true):(classT [(c,c)]).size<=if e=true then 2 else 1:=by
 obtain ⟨h1,h2⟩:=stands_rg h
 have hv:vis c:=⟨h1,h2⟩
 have hfin:((foldT rd0 [(c,e)]).bind finR).map RdS.items=some [(1,[(c,c)])]:=by
  have:takeR rd0 c e=some (addClassR rd0 [(c,c)]):=if_pos h
  rw [foldT,this]; rfl
 have hs:(if e=true then ByteArray.mk #[92]++b1B c else b1B c).size<=2/\said (if e=true then ByteArray.mk #[92]++b1B c else b1B c) [(1,[(c,c)])]=true:=by
  cases e with
  | true =>
    rw [if_pos rfl]
    have hb:bytesI (ByteArray.mk #[92]++b1B c)=[92,c]:=by rw [bytesI_app,b1_bytes hv]; rfl
    refine ⟨by rw [size_app,b1B_size,lit1]; omega,decide_eq_true (run_parse (by rw [size_app,b1B_size,lit1]; omega) (by rw [size_app,b1B_size,lit1]; omega) ?_)⟩
    rw [hb,let_esc]
    exact hfin
  | false =>
    rw [if_neg (by decide)]
    have h92:c≠92:=fun q=>by subst q; revert h; decide
    refine ⟨by rw [b1B_size]; omega,decide_eq_true (run_parse (by rw [b1B_size]; omega) (by rw [b1B_size]; omega) ?_)⟩
    rw [b1_bytes hv,let_plain h92]
    exact hfin
 rw [classT_one]
 cases e with
 | true =>
   rw [if_pos rfl] at hs ⊢
   simp only [tryT]
   split
   .rw [lit1]; omega
   split
   .rw [b1B_size]; omega
   rw [if_pos hs.2]
   exact hs.1
 | false =>
   rw [if_neg (by decide)] at hs ⊢
   simp only [tryT]
   split
   .rw [lit1]; omega
   rw [if_pos hs.2,b1B_size]; omega
def lw (e:Bool):Nat:=if e=true then 2 else 1
theorem Cst.class_ {I:List It} {O:List (Bool × Int)} {pt:Bool} {x:Int} {cl:Option (List Rg × Int)} {n w:Nat} {L:List Rg} (h:Cst ⟨I,O,pt,x,none⟩ n) (hx:x=0\/x=1\/x=2) (hw:(classT L).size<=w):Cst (addClassR ⟨I,O,pt,x,none⟩ L) (n+w):=by
 obtain ⟨Iq,IL,ko,kl,kc,h1,h2,h3,h4,h5⟩:=h
 have h1:I=Iq++IL:=h1
 have h3:PL pt x IL kl:=h3
 rw [add_is hx]
 have:=h3.add hx (C:=.cls L)
 rw [c_cls] at this
 exact ⟨Iq,IL++Jn x++[(1,L)],ko,kl+(classT L).size,0,by show I++Jn x++[(1,L)]=_; rw [h1]; simp,h2,this,trivial,by omega⟩
theorem take_cost {σ τ:RdS} {c:Int} {e:Bool} {n:Nat} (h:Cst σ n) (hi:Iv σ) (ht:takeR σ c e=some τ):Cst τ (n+lw e):=by
 obtain ⟨I,O,pt,x,cl⟩:=σ
 have hx:x=0\/x=1\/x=2:=by have:=hi.at_; have:0<=x/\x<=2:=this; omega
 have hlw:1<=lw e:=by unfold lw; split<;>omega
 unfold takeR at ht
 cases cl with
 | some lp =>
   obtain ⟨l,pl⟩:=lp
   have ht:inClassR ⟨I,O,pt,x,some (l,pl)⟩ l pl c e=some τ:=ht
   obtain ⟨Iq,IL,ko,kl,kc,h1,h2,h3,h4,h5⟩:=h
   obtain ⟨k1,k2⟩:1+rS l+(if pl=2 then 1 else 0)<=kc/\(pl≠0->∃ l' c,l=l'++[(c,c)]):=h4
   unfold inClassR at ht
   split at ht
   .rename_i hs
    have hsz:=stand_size hs
    have hsz:(byteT c).size<=lw e:=hsz
    split at ht
    .rename_i y hy
     cases ht
     unfold addC at hy
     split at hy
     .rename_i hp
      cases hy
      refine ⟨Iq,IL,ko,kl,kc+lw e,h1,h2,h3,⟨?_,fun _=>⟨l,c,rfl⟩⟩,by omega⟩
      rw [rS_snoc,if_neg (by decide)]
      have:rangeT (c,c)=byteT c:=if_pos rfl
      rw [this]
      omega
     .rename_i hp
      have hp:pl=2:=by simpa using hp
      subst hp
      obtain ⟨l',c0,rfl⟩:=k2 (by decide)
      rw [if_pos rfl,rS_snoc] at k1
      have hr0:rangeT (c0,c0)=byteT c0:=if_pos rfl
      rw [hr0] at k1
      simp only [List.getLast?_append,List.getLast?_singleton,Option.some_or] at hy
      split at hy
      .cases hy
      .have hd:(l'++[(c0,c0)]).dropLast=l':=by simp
       cases hy
       refine ⟨Iq,IL,ko,kl,kc+lw e,h1,h2,h3,⟨?_,fun q=>absurd rfl q⟩,by omega⟩
       rw [hd,rS_snoc,if_neg (by decide)]
       have:(rangeT (c0,c)).size<=(byteT c0).size+1+(byteT c).size:=by
        unfold rangeT
        split
        .show (byteT c0).size<=_; omega
        .rw [size_app,size_app,lit1]; exact Nat.le_refl _
       omega
    .cases ht
   .split at ht
    .split at ht
     .rename_i hp
      cases ht
      subst hp
      rw [if_neg (by decide)] at k1
      exact ⟨Iq,IL,ko,kl,kc+lw e,h1,h2,h3,⟨by rw [if_pos rfl]; omega,fun _=>k2 (by decide)⟩,by omega⟩
     .cases ht
    .split at ht
     .split at ht
      .rename_i hwh
       cases ht
       have e1:({ addClassR ⟨I,O,pt,x,some (l,pl)⟩ l with cls:=none }:RdS)=addClassR ⟨I,O,pt,x,none⟩ l:=by rw [add_is hx,add_is hx]
       rw [e1]
       have hp2:pl≠2:=fun q=>by subst q; revert hwh; unfold wholeC; simp
       rw [if_neg hp2] at k1
       have hb:=classT_le l
       rw [brace_rS] at hb
       have h0:Cst ⟨I,O,pt,x,none⟩ (ko+kl):=⟨Iq,IL,ko,kl,0,h1,h2,h3,trivial,by omega⟩
       obtain ⟨a1,a2,a3,a4,a5,b1,b2,b3,b4,b5⟩:=h0.class_ (cl:=none) hx (L:=l) (w:=n+lw e-(ko+kl)) (by omega)
       exact ⟨a1,a2,a3,a4,a5,b1,b2,b3,b4,by omega⟩
      .cases ht
     .cases ht
 | none =>
   have ht:(if standsB c e marksB=true then some (addClassR ⟨I,O,pt,x,none⟩ [(c,c)]) else markR ⟨I,O,pt,x,none⟩ c)=some τ:=ht
   split at ht
   .rename_i hs
    cases ht
    exact h.class_ (cl:=none) hx (mark_size hs)
   .unfold markR at ht
    have sign:∀ op (f:Ptn->Ptn),(∀ t,(f t).items=t.items++[(op,[])])->(∀ t,cK 0 (f t)=cK 0 t+1)->repeatR ⟨I,O,pt,x,none⟩ op=some τ->Cst τ (n+lw e):=by
     intro op f hf1 hf2 hr
     obtain ⟨Iq,IL,ko,kl,kc,h1,h2,⟨IA,IX,ka,kx,g1,g2,g3,g4⟩,h4,h5⟩:=h
     have h1:I=Iq++IL:=h1
     unfold repeatR at hr
     split at hr
     .cases hr
     .rename_i hx0
      have hx0:x≠0:=hx0
      cases hr
      rcases g3 with ⟨q1,q2⟩ | ⟨q1,J,q2,q3⟩ | ⟨q1,J,B,q2,q3⟩
      .exact absurd q1 hx0
      .exact ⟨Iq,IA++(f J).items,ko,kl+1,kc,by show I++[(op,[])]=_; rw [h1,g1,q2,hf1]; simp,h2,⟨IA,(f J).items,ka,kx+1,rfl,g2,.inr (.inl ⟨q1,f J,rfl,by rw [hf2]; omega⟩),by omega⟩,h4,by omega⟩
      .exact ⟨Iq,IA++(J.items++(f B).items),ko,kl+1,kc,by show I++[(op,[])]=_; rw [h1,g1,q2,hf1]; simp,h2,⟨IA,J.items++(f B).items,ka,kx+1,rfl,g2,.inr (.inr ⟨q1,J,f B,rfl,by rw [hf2]; omega⟩),by omega⟩,h4,by omega⟩
    by_cases c1:c=40
    .rw [if_pos c1] at ht
     obtain ⟨Iq,IL,ko,kl,kc,h1,h2,h3,h4,h5⟩:=h
     have h1:I=Iq++IL:=h1
     have hO:O.length<12:=by
      rcases Nat.lt_or_ge O.length 12 with q | q
      .exact q
      .unfold openR at ht; rw [if_neg (by show ¬ O.length<12; omega)] at ht; cases ht
     obtain ⟨y,hy,ho⟩:=open_is (P:=I) (O:=O) (pt:=pt) hx hO
     rw [ho] at ht
     cases ht
     have hg:=PL.open_ h3 hy
     exact ⟨Iq++(IL++Jn x),[],ko+(kl+1),0,0,by show I++Jn x=_; rw [h1]; simp,PO.snoc h2 hg,⟨[],[],0,0,rfl,.inl ⟨rfl,rfl⟩,.inl ⟨rfl,rfl⟩,by omega⟩,trivial,by omega⟩
    rw [if_neg c1] at ht
    by_cases c2:c=41
    .rw [if_pos c2] at ht
     obtain ⟨Iq,IL,ko,kl,kc,h1,h2,h3,h4,h5⟩:=h
     have h1:I=Iq++IL:=h1
     have h2:PO O Iq ko:=h2
     have h3:PL pt x IL kl:=h3
     unfold closeR at ht
     split at ht
     .cases ht
     .rename_i g hg
      have hO:O=O.dropLast++[g]:=by
       obtain ⟨ys,hys⟩:=List.getLast?_eq_some_iff.1 (show O.getLast? = some g from hg)
       rw [hys]; simp
      split at ht
      .cases ht
      .rename_i τ' he
       obtain ⟨hx12,rfl⟩:=end_inv he hx
       have hx12:x=1\/x=2:=hx12
       rw [hO] at h2
       obtain ⟨I1,J,k1,m,q1,q2,q3,q4⟩:=PO.unsnoc h2
       obtain ⟨T,t1,t2⟩:=PL.end_ h3 hx12
       obtain ⟨IA,IX,ka,kx,g1,g2,g3,g4⟩:=q3
       have hc:=c02 T
       have hfi:fins I pt x=Iq++fins IL pt x:=by rw [h1,fins_app]
       cases ht
       refine ⟨I1,IA++(IX++T.items),k1,ka+(kx+cK 0 T),0,?_,q2,⟨IA,IX++T.items,ka,kx+cK 0 T,rfl,g2,?_,by omega⟩,trivial,by omega⟩
       .show fins I pt x=_
        rw [hfi,t1,q1,g1]; simp
       .rcases g3 with ⟨z1,z2⟩ | ⟨z1,J',z2,z3⟩
        .exact .inr (.inl ⟨by show g.2+1=1; omega,T,by rw [z2]; rfl,by omega⟩)
        .exact .inr (.inr ⟨by show g.2+1=2; omega,J',T,by rw [z2],by omega⟩)
    rw [if_neg c2] at ht
    by_cases c3:c=91
    .rw [if_pos c3] at ht
     unfold openC at ht
     split at ht
     .cases ht
      obtain ⟨Iq,IL,ko,kl,kc,h1,h2,h3,h4,h5⟩:=h
      exact ⟨Iq,IL,ko,kl,lw e,h1,h2,h3,⟨by rw [rS_nil]; simp; omega,fun q=>absurd rfl q⟩,by omega⟩
     .cases ht
    rw [if_neg c3] at ht
    by_cases c4:c=46
    .rw [if_pos c4] at ht
     cases ht
     exact h.class_ (cl:=none) hx (by
      have:(classT [((32:Int),(126:Int))]).size=1:=by decide +kernel
      rw [this]; exact hlw)
    rw [if_neg c4] at ht
    by_cases c5:c=124
    .rw [if_pos c5] at ht
     obtain ⟨Iq,IL,ko,kl,kc,h1,h2,h3,h4,h5⟩:=h
     have h1:I=Iq++IL:=h1
     obtain ⟨hx12,rfl⟩:=end_inv ht hx
     obtain ⟨T,t1,t2⟩:=PL.end_ h3 hx12
     have t1:fins IL pt x=T.items:=t1
     exact ⟨Iq,T.items,ko,cK 2 T+1,0,by show fins I pt x=_; rw [h1,fins_app,t1],h2,⟨T.items,[],cK 2 T+1,0,by simp,.inr ⟨rfl,T,rfl,Nat.le_refl _⟩,.inl ⟨rfl,rfl⟩,by omega⟩,trivial,by omega⟩
    rw [if_neg c5] at ht
    by_cases c6:c=42
    .rw [if_pos c6] at ht; exact sign 4 .star (fun t=>rfl) c_star ht
    rw [if_neg c6] at ht
    by_cases c7:c=43
    .rw [if_pos c7] at ht; exact sign 5 .plus (fun t=>rfl) c_plus ht
    rw [if_neg c7] at ht
    by_cases c8:c=63
    .rw [if_pos c8] at ht; exact sign 6 .may (fun t=>rfl) c_may ht
    rw [if_neg c8] at ht
    cases ht
def lwS:List (Int × Bool)->Nat
 | []=>0
 | (_,e) :: r=>lw e+lwS r
theorem fold_cost:∀ (l:List (Int × Bool)) (σ τ:RdS) (n:Nat),Cst σ n->Iv σ->foldT σ l=some τ->Cst τ (n+lwS l)
 | [],σ,τ,n,h,hi,hf=>by cases hf; exact h
 | (c,e) :: r,σ,τ,n,h,hi,hf=>by
  rw [foldT] at hf
  cases ht:takeR σ c e with
  | none=>rw [ht] at hf; cases hf
  | some ρ =>
    rw [ht] at hf
    have:=fold_cost r ρ τ (n+lw e) (take_cost h hi ht) (hi.take ht) hf
    rw [Nat.add_assoc] at this
    exact this
theorem let_cost:∀ (l:List Int) (b:Bool),lwS (letL l b)<=l.length+if b=true then 1 else 0
 | [],b=>by simp [letL,lwS]
 | c :: r,b=>by
   rw [letL]
   split
   .rename_i h
    have:=let_cost r true
    rw [if_pos rfl] at this
    rw [h.2.1]
    simp; omega
   .have:=let_cost r false
    rw [if_neg (by decide)] at this
    simp only [lwS,List.length_cons,lw]
    split<;>omega
theorem stk_items:∀ (t:Ptn) (m:List It) (tp:List Ptn),stkM (t.items++m) tp=stkM m (t :: tp)
 | .cls L,m,tp=>rfl
 | .join a b,m,tp=>by
   rw [Ptn.items,List.append_assoc,List.append_assoc,stk_items a,stk_items b]; rfl
 | .alt a b,m,tp=>by
   rw [Ptn.items,List.append_assoc,List.append_assoc,stk_items a,stk_items b]; rfl
 | .star a,m,tp=>by rw [Ptn.items,List.append_assoc,stk_items a]; rfl
 | .plus a,m,tp=>by rw [Ptn.items,List.append_assoc,stk_items a]; rfl
 | .may a,m,tp=>by rw [Ptn.items,List.append_assoc,stk_items a]; rfl
theorem treeD_items (t:Ptn):treeD t.items=t:=by
 have:=stk_items t [] []
 rw [List.append_nil] at this
 unfold treeD
 rw [this]; rfl
theorem okT_of:∀ (t:Ptn),(∀ i∈t.items,okIt i)->t.okT
 | .cls L,h=>by
   rcases h (1,L) (by simp [Ptn.items]) with ⟨_,h2,h3⟩ | ⟨h1,_⟩
   .exact ⟨h2,h3⟩
   .have h1:(1:Int)=2\/(1:Int)=3\/(1:Int)=4\/(1:Int)=5\/(1:Int)=6:=h1
    omega
 | .join a b,h=>⟨okT_of a fun i hi=>h i (by simp [Ptn.items,hi]),okT_of b fun i hi=>h i (by simp [Ptn.items,hi])⟩
 | .alt a b,h=>⟨okT_of a fun i hi=>h i (by simp [Ptn.items,hi]),okT_of b fun i hi=>h i (by simp [Ptn.items,hi])⟩
 | .star a,h=>okT_of a fun i hi=>h i (by simp [Ptn.items,hi])
 | .plus a,h=>okT_of a fun i hi=>h i (by simp [Ptn.items,hi])
 | .may a,h=>okT_of a fun i hi=>h i (by simp [Ptn.items,hi])
theorem text_pos:∀ (t:Ptn),1<=t.text.size
 | .cls L=>by
   show 1<=(classT L).size
   unfold classT
   have hb:1<=(braceT L).size:=by rw [brace_rS]; omega
   split
   .rename_i r
    split
    .rw [lit1]; omega
    split
    .rw [b1B_size]; omega
    split
    .rw [size_app,lit1]; omega
    .rw [brace_rS]; omega
   .exact hb
 | .join a b=>by
   have:=text_pos b
   rw [Ptn.text,size_app]
   have h:cK 0 b=(brk 0 b.loose b.text).size:=rfl
   rw [<- h,cK_eq]; omega
 | .alt a b=>by rw [Ptn.text,size_app,size_app,lit1]; omega
 | .star a=>by rw [Ptn.text,size_app,lit1]; omega
 | .plus a=>by rw [Ptn.text,size_app,lit1]; omega
 | .may a=>by rw [Ptn.text,size_app,lit1]; omega
theorem parse_tree {s:ByteArray} {l:List It} (h:parseR s=some l):said (treeD l).text l=true/\(treeD l).text.size<=24/\(treeD l).items=l:=by
 obtain ⟨hsz,hr⟩:=parse_run h
 obtain ⟨hfine,hcnt⟩:=parse_fine h
 obtain ⟨t,ht1,ht2⟩:=tree_of hfine hcnt
 cases hf:foldT rd0 (letL (bytesI s) false) with
 | none=>rw [hf] at hr; cases hr
 | some σ =>
   rw [hf] at hr
   have f0:Fine rd0.items:=⟨fun i hi=>(by cases hi),fun k h1 h2=>by have:k<=0:=h2; omega⟩
   have h0:Iv rd0:=⟨f0,rfl,(show (0:Int)<=0/\(0:Int)<=2 by decide),fun g hg=>(by cases hg),fun l pl q=>(by cases q)⟩
   have hc0:Cst rd0 0:=⟨[],[],0,0,0,rfl,rfl,⟨[],[],0,0,rfl,.inl ⟨rfl,rfl⟩,.inl ⟨rfl,rfl⟩,by omega⟩,trivial,by omega⟩
   have hc:=fold_cost _ rd0 σ 0 hc0 h0 hf
   have hiv:=h0.fold hf
   have hle:=let_cost (bytesI s) false
   rw [bytes_len,if_neg (by decide)] at hle
   have hr:(finR σ).map RdS.items=some l:=hr
   obtain ⟨I,O,pt,x,cl⟩:=σ
   cases cl with
   | some lp=>cases hr
   | none =>
     have hO:O=[]:=by
      cases ho:O with
      | nil=>rfl
      | cons g r =>
        exfalso
        rw [ho] at hr
        have:finR ⟨I,g :: r,pt,x,none⟩=none:=by
         show (if (g :: r).length=0 then endR ⟨I,g :: r,pt,x,none⟩ else none)=none
         rw [if_neg (by simp)]
        rw [this] at hr; cases hr
     subst hO
     have hr:(endR ⟨I,[],pt,x,none⟩).map RdS.items=some l:=hr
     obtain ⟨Iq,IL,ko,kl,kc,h1,h2,h3,h4,h5⟩:=hc
     have h1:I=Iq++IL:=h1
     have h2:Iq=[]:=h2
     subst h2
     have hx:x=0\/x=1\/x=2:=by have:0<=x/\x<=2:=hiv.at_; omega
     cases he:endR ⟨I,[],pt,x,none⟩ with
     | none=>rw [he] at hr; cases hr
     | some τ =>
       rw [he] at hr
       obtain ⟨hx12,hτ⟩:=end_inv he hx
       rw [hτ] at hr
       have hr:some (fins I pt x)=some l:=hr
       obtain ⟨T,t1,t2⟩:=PL.end_ h3 hx12
       have t1:fins IL pt x=T.items:=t1
       have hTl:T.items=l:=by
        rw [<- t1]
        injection hr with hr
        rw [<- hr,h1]; rfl
       have htd:treeD l=T:=by rw [<- hTl]; exact treeD_items T
       rw [htd,<- hTl]
       have hsz2:T.text.size<=s.size:=by rw [<- c2t]; omega
       exact ⟨text_said (okT_of T (by rw [hTl]; exact hfine.each)) (text_pos T) (by omega),by omega,rfl⟩
theorem parse_said {s:ByteArray} {l:List It} (h:parseR s=some l):said (treeD l).text l=true:=(parse_tree h).1
theorem items_text:∀ t:Ptn,t.items.length+1<=2*t.text.size
 | .cls L=>by
   have:=text_pos (.cls L)
   simp only [Ptn.items,List.length_cons,List.length_nil]; omega
 | .join a b=>by
   have h1:=items_text a
   have h2:=items_text b
   have e1:=cK_eq 1 a
   have e2:=cK_eq 0 b
   have:(Ptn.text (.join a b)).size=cK 1 a+cK 0 b:=by rw [Ptn.text,size_app]; rfl
   rw [this]
   simp only [Ptn.items,List.length_append,List.length_cons,List.length_nil]; omega
 | .alt a b=>by
   have h1:=items_text a
   have h2:=items_text b
   have e1:=cK_eq 2 a
   have e2:=cK_eq 1 b
   have:(Ptn.text (.alt a b)).size=cK 2 a+1+cK 1 b:=by rw [Ptn.text,size_app,size_app]; rfl
   rw [this]
   simp only [Ptn.items,List.length_append,List.length_cons,List.length_nil]; omega
 | .star a=>by
   have h1:=items_text a
   have e1:=cK_eq 0 a
   have:(Ptn.text (.star a)).size=cK 0 a+1:=by rw [Ptn.text,size_app]; rfl
   rw [this]
   simp only [Ptn.items,List.length_append,List.length_cons,List.length_nil]; omega
 | .plus a=>by
   have h1:=items_text a
   have e1:=cK_eq 0 a
   have:(Ptn.text (.plus a)).size=cK 0 a+1:=by rw [Ptn.text,size_app]; rfl
   rw [this]
   simp only [Ptn.items,List.length_append,List.length_cons,List.length_nil]; omega
 | .may a=>by
   have h1:=items_text a
   have e1:=cK_eq 0 a
   have:(Ptn.text (.may a)).size=cK 0 a+1:=by rw [Ptn.text,size_app]; rfl
   rw [this]
   simp only [Ptn.items,List.length_append,List.length_cons,List.length_nil]; omega
theorem rS_len:∀ L:List Rg,L.length<=rS L:=by
 intro L
 have hb:∀ c,1<=(byteT c).size:=fun c=>by
  unfold byteT
  split
  .rw [b1B_size]; omega
  .rw [size_app,b1B_size,lit1]; omega
 have hr:∀ r,1<=(rangeT r).size:=fun r=>by
  unfold rangeT
  split
  .exact hb r.1
  .rw [size_app,size_app]
   have:=hb r.1; omega
 have key:∀ (L:List Rg) (s:ByteArray),s.size+L.length<=(rangesT L s).size:=by
  intro L
  induction L with
  | nil=>intro s; simp [rangesT]
  | cons r L ih =>
    intro s
    have h1:=ih (s++rangeT r)
    have h2:=hr r
    rw [size_app] at h1
    simp only [rangesT,List.length_cons]
    omega
 have:=key L (ByteArray.mk #[])
 have e:(ByteArray.mk #[]).size=0:=rfl
 unfold rS
 omega
theorem ranges_text:∀ (t:Ptn) (i:It),i∈t.items->i.2.length<=t.text.size
 | .cls L,i,h=>by
   have h:i=(1,L):=by simpa [Ptn.items] using h
   subst h
   show L.length<=(classT L).size
   rcases Nat.lt_or_ge 1 L.length with q | q
   .rw [classT_many (by omega),brace_rS]
    have:=rS_len L; omega
   .have:=text_pos (.cls L)
    have:1<=(classT L).size:=this
    omega
 | .join a b,i,h=>by
   have e1:=cK_eq 1 a
   have e2:=cK_eq 0 b
   have:(Ptn.text (.join a b)).size=cK 1 a+cK 0 b:=by rw [Ptn.text,size_app]; rfl
   rw [this]
   simp only [Ptn.items,List.mem_append,List.mem_cons,List.not_mem_nil,or_false] at h
   rcases h with (h | h) | h
   .have:=ranges_text a i h; omega
   .have:=ranges_text b i h; omega
   .rw [h]; simp
 | .alt a b,i,h=>by
   have e1:=cK_eq 2 a
   have e2:=cK_eq 1 b
   have:(Ptn.text (.alt a b)).size=cK 2 a+1+cK 1 b:=by rw [Ptn.text,size_app,size_app]; rfl
   rw [this]
   simp only [Ptn.items,List.mem_append,List.mem_cons,List.not_mem_nil,or_false] at h
   rcases h with (h | h) | h
   .have:=ranges_text a i h; omega
   .have:=ranges_text b i h; omega
   .rw [h]; simp
 | .star a,i,h=>by
   have e1:=cK_eq 0 a
   have:(Ptn.text (.star a)).size=cK 0 a+1:=by rw [Ptn.text,size_app]; rfl
   rw [this]
   simp only [Ptn.items,List.mem_append,List.mem_cons,List.not_mem_nil,or_false] at h
   rcases h with h | h
   .have:=ranges_text a i h; omega
   .rw [h]; simp
 | .plus a,i,h=>by
   have e1:=cK_eq 0 a
   have:(Ptn.text (.plus a)).size=cK 0 a+1:=by rw [Ptn.text,size_app]; rfl
   rw [this]
   simp only [Ptn.items,List.mem_append,List.mem_cons,List.not_mem_nil,or_false] at h
   rcases h with h | h
   .have:=ranges_text a i h; omega
   .rw [h]; simp
 | .may a,i,h=>by
   have e1:=cK_eq 0 a
   have:(Ptn.text (.may a)).size=cK 0 a+1:=by rw [Ptn.text,size_app]; rfl
   rw [this]
   simp only [Ptn.items,List.mem_append,List.mem_cons,List.not_mem_nil,or_false] at h
   rcases h with h | h
   .have:=ranges_text a i h; omega
   .rw [h]; simp
theorem parse_good {s:ByteArray} {l:List It} (h:parseR s=some l):GoodP l:=by
 obtain ⟨hfine,hcnt⟩:=parse_fine h
 obtain ⟨t,ht1,ht2⟩:=tree_of hfine hcnt
 have htd:treeD l=t:=by rw [<- ht2]; exact treeD_items t
 obtain ⟨_,h2,h3⟩:=parse_tree h
 refine ⟨by rw [htd]; exact ht1,h3,?_,fun i hi=>?_,hfine.each⟩
 .have:=items_text (treeD l)
  rw [h3] at this
  omega
 .have:=ranges_text (treeD l) i (by rw [h3]; exact hi)
  omega
def natC (m:List Nat):List Value:=m.map fun x=>.int .i64 ((x:Nat):Int)
theorem natC_at {m:List Nat} {k x:Nat} (h:m[k]? = some x):((natC m).drop (k*1)).take 1=[.int .i64 ((x:Nat):Int)]:=dropTake rfl fun j hj=>by
 match j,hj with
 | 0,_=>simp [natC,h]
theorem ld_of {H:KH} {b n:Nat} {e:Ent} {vs:List Value} (h1:H b=some e) (h3:rd e.cells 0 n=some vs):ld H ⟨b,0,none⟩ vs:=⟨rfl,e,h1,by rw [rd_len h3]; exact h3⟩
structure StB (H:KH) (q:Nat) (m:List Nat) (N:Nat) (bp:Nat) (am:OA) (cm:Nat) (ex:List Value) (pl:List Nat):Prop where
 pt:∃ e,H q=some e/\wrB e=true/\rd e.cells 0 2=some [.slice am m.length cm,.slice (some ⟨bp,0,none⟩) N N]
 mem:Gr H 1 am m.length cm (natC m) ex
 plc:∃ e,H bp=some e/\wrB e=true/\rd e.cells 0 N=some (natC pl)
 pln:pl.length=N
 nod:m.Nodup
 lt:∀ x∈m,x<N
 inv:∀ (k x:Nat),m[k]? = some x->pl[x]? = some k
 d1:q≠bp
 d2:blk am≠some q
 d3:blk am≠some bp
def SetIn (B:List Nat) (H:KH) (q:Nat) (m:List Nat) (N:Nat):Prop:=∃ bp am cm ex pl,StB H q m N bp am cm ex pl/\B=q :: bp :: (blk am).toList
structure Fr1 (B B':List Nat) (H H':KH):Prop where
 kp:∀ k e,H k=some e->k∉B->H' k=some e
 nw:∀ b∈B',b∈B\/H b=none
theorem Fr1.refl (B:List Nat) (H:KH):Fr1 B B H H:=⟨fun _ _ q _=>q,fun _ q=>.inl q⟩
def addS (N:Nat) (m:List Nat) (x:Int):List Nat:=if x<0 then m else if (N:Int)<=x then m else if x.toNat∈m then m else m++[x.toNat]
section
variable {H : KH} {q N bp : Nat} {m : List Nat} {am : OA} {cm : Nat} {ex : List Value} {pl : List Nat}
end
theorem nodup_le:∀ (N:Nat) (m:List Nat),m.Nodup->(∀ x∈m,x<N)->m.length<=N
 | 0,m,h1,h2=>by
   match m with
   | []=>simp
   | x :: r=>have:=h2 x (by simp); omega
 | N+1,m,h1,h2=>by
   have h3:=nodup_le N (m.filter fun x=>decide (x≠N)) (h1.filter _) (fun x hx=>by
    have hx:=List.mem_filter.1 hx
    have:=h2 x hx.1
    have h4:x≠N:=of_decide_eq_true hx.2
    omega)
   have h4:m.length=(m.filter fun x=>decide (x≠N)).length+m.count N:=by
    have:=List.length_eq_countP_add_countP (fun x=>decide (x≠N)) (l:=m)
    rw [List.countP_eq_length_filter] at this
    rw [this]
    congr 1
    rw [List.count]
    apply List.countP_congr
    intro x _
    simp
   have h5:m.count N<=1:=List.nodup_iff_count.1 h1 N
   omega
def st0:St:=⟨0,0,-1,[],0⟩
def stAt (S:List St) (x:Nat):St:=(S[x]?).getD st0
def spM (S:List St):Nat->Nat->List Nat->List Nat
 | 0,_,m=>m
 | f+1,i,m=>match m[i]? with
   | none=>m
   | some x=>spM S f (i+1) ((stAt S x).free.foldl (addS S.length) m)
def clM (S:List St) (m:List Nat):List Nat:=spM S (S.length+1) 0 m
def moveM (S:List St) (c:Int) (t:List Nat) (x:Nat):List Nat:=if (stAt S x).lo<=c/\c<=(stAt S x).hi then addS S.length t (stAt S x).next else t
def stepM (S:List St) (c:Int) (m:List Nat):List Nat:=clM S (m.foldl (moveM S c) [])
def leastM (S:List St) (l:Int) (x:Nat):Int:=if (stAt S x).e≠0 then (if l=0 then (stAt S x).e else if (stAt S x).e<l then (stAt S x).e else l) else l
def endM (S:List St) (m:List Nat):Int:=m.foldl (leastM S) 0
def begM (S:List St):List Nat:=clM S (addS S.length [] 0)
def lgN (S:List St) (s:ByteArray):Nat->Nat->List Nat->Int × Int × Bool->Int × Int × Bool
 | 0,_,_,r=>r
 | f+1,i,m,r=>if stepM S (byteAt s i) m=[] then r else
    lgN S s f (i+1) (stepM S (byteAt s i) m) (if endM S (stepM S (byteAt s i) m)≠0 then (IntKind.wrap .i64 (endM S (stepM S (byteAt s i) m)-1),IntKind.wrap .i64 ((i:Int)+1),true) else r)
def nfaL (S:List St) (s:ByteArray):Int × Int × Bool:=lgN S s s.size 0 (begM S) (0,0,false)
theorem SsR.get {X:KH}:∀ {l:List St} {cs:List Value} {k:Nat} {s:St},SsR X l cs->l[k]? = some s->∃ a c,(cs.drop (k*5)).take 5=stC s a c/\kold X 1 a s.free.length=some (inC s.free)
 | [],cs,k,s,h,hk=>by simp at hk
 | t :: r,cs,0,s,⟨a,c,ds,h1,h2,h3⟩,hk=>by
   have hk:t=s:=by simpa using hk
   subst hk; subst h1
   exact ⟨a,c,by simp [stC],h2⟩
 | t :: r,cs,k+1,s,⟨a,c,ds,h1,h2,h3⟩,hk=>by
   subst h1
   have hk:r[k]? = some s:=by simpa using hk
   obtain ⟨a',c',q1,q2⟩:=SsR.get h3 hk
   refine ⟨a',c',?_,q2⟩
   have:(k+1)*5=(stC t a c).length+k*5:=by simp [stC]; omega
   rw [this,List.drop_append_of_le_length_add]
   exact q1
 where
 List.drop_append_of_le_length_add {α:Type} {l m:List α} {n:Nat}:(l++m).drop (l.length+n)=m.drop n:=by
  rw [List.drop_append]; simp
structure WkB (X H:KH) (w:Nat) (S:List St) (a:OA) (c q1 q2:Nat) (B1 B2:List Nat) (now thn:List Nat):Prop where
 le:Le X H
 xw:X w=none
 pt:∃ e,H w=some e/\wrB e=true/\rd e.cells 0 3=some [.slice a S.length c,.pointer (some ⟨q1,0,none⟩),.pointer (some ⟨q2,0,none⟩)]
 st:SsN X S a
 s1:SetIn B1 H q1 now S.length
 s2:SetIn B2 H q2 thn S.length
 x1:∀ b∈B1,X b=none/\b≠w
 x2:∀ b∈B2,X b=none/\b≠w
 d:∀ b∈B1,b∉B2
section
variable {X H : KH} {w : Nat} {S : List St} {a : OA} {c q1 q2 : Nat} {B1 B2 : List Nat} {now thn : List Nat}
end
theorem stC_ld3 {H:KH} {b o:Nat} {s:St} {af:OA} {cf:Nat} (h:ld H ⟨b,o,none⟩ (stC s af cf)):ld H ⟨b,o+3,none⟩ [.slice af s.free.length cf]:=by
 have:=ldSub h 3 1 (by simp [stC])
 simpa [stC] using this
theorem stC_ld4 {H:KH} {b o:Nat} {s:St} {af:OA} {cf:Nat} (h:ld H ⟨b,o,none⟩ (stC s af cf)):ld H ⟨b,o+4,none⟩ [.int .i64 s.e]:=by
 have:=ldSub h 4 1 (by simp [stC])
 simpa [stC] using this
theorem inC_at {m:List Int} {k:Nat} {x:Int} (h:m[k]? = some x):((inC m).drop (k*1)).take 1=[.int .i64 x]:=dropTake rfl fun j hj=>by
 match j,hj with
 | 0,_=>simp [inC,h]
theorem addS_grow {N:Nat} {m:List Nat} {x:Int}:∃ r,addS N m x=m++r:=by
 unfold addS
 split
 .exact ⟨[],by simp⟩
 split
 .exact ⟨[],by simp⟩
 split
 .exact ⟨[],by simp⟩
 .exact ⟨_,rfl⟩
theorem addF_grow {N:Nat}:∀ (f:List Int) (m:List Nat),∃ r,f.foldl (addS N) m=m++r
 | [],m=>⟨[],by simp⟩
 | x :: f,m=>by
   obtain ⟨r1,h1⟩:=addS_grow (N:=N) (m:=m) (x:=x)
   obtain ⟨r2,h2⟩:=addF_grow f (m++r1)
   exact ⟨r1++r2,by rw [List.foldl_cons,h1,h2,List.append_assoc]⟩
inductive Mo (R:Nat->Nat->Prop):Nat->Nat->Prop where
 | none (i:Nat):Mo R i i
 | more (i k j:Nat) (h:R i k) (r:Mo R k j):Mo R i j
def Mt (s:ByteArray):Ptn->Nat->Nat->Prop
 | .cls L,i,j=>j=i+1/\i<s.size/\∃ r∈L,r.1<=byteAt s i/\byteAt s i<=r.2
 | .join a b,i,j=>∃ k,Mt s a i k/\Mt s b k j
 | .alt a b,i,j=>Mt s a i j\/Mt s b i j
 | .star a,i,j=>Mo (Mt s a) i j
 | .plus a,i,j=>∃ k,Mt s a i k/\Mo (Mt s a) k j
 | .may a,i,j=>i=j\/Mt s a i j
theorem Mo.le {R:Nat->Nat->Prop} (h:∀ i j,R i j->i<=j) {i j:Nat} (m:Mo R i j):i<=j:=by
 induction m with
 | none i=>exact Nat.le_refl _
 | more i k j h1 _ ih=>have:=h i k h1; omega
theorem Mt.le {s:ByteArray}:∀ (t:Ptn) (i j:Nat),Mt s t i j->i<=j
 | .cls L,i,j,h=>by have:=h.1; omega
 | .join a b,i,j,⟨k,h1,h2⟩=>by have:=Mt.le a i k h1; have:=Mt.le b k j h2; omega
 | .alt a b,i,j,h=>by
   rcases h with h | h
   .exact Mt.le a i j h
   .exact Mt.le b i j h
 | .star a,i,j,h=>Mo.le (Mt.le a) h
 | .plus a,i,j,⟨k,h1,h2⟩=>by have:=Mt.le a i k h1; have:=Mo.le (Mt.le a) h2; omega
 | .may a,i,j,h=>by
   rcases h with h | h
   .omega
   .exact Mt.le a i j h
def GoSt (S:List St) (s:ByteArray) (x i y j:Nat):Prop :=
 (j=i/\((y:Nat):Int)∈(stAt S x).free)\/(j=i+1/\i<s.size/\(stAt S x).lo<=byteAt s i/\byteAt s i<=(stAt S x).hi/\(stAt S x).next=(y:Nat))
inductive PWay (S:List St) (s:ByteArray):Nat->Nat->Nat->Nat->Nat->Prop where
 | here (x i:Nat):PWay S s 0 x i x i
 | on (n x i y j z k:Nat) (h:GoSt S s x i y j) (r:PWay S s n y j z k):PWay S s (n+1) x i z k
theorem PWay.app {S:List St} {s:ByteArray} {n m x i y j z k:Nat} (h:PWay S s n x i y j) (r:PWay S s m y j z k):PWay S s (n+m) x i z k:=by
 induction h with
 | here x i=>rw [Nat.zero_add]; exact r
 | on n x i y' j' y j h1 _ ih =>
   rw [show n+1+m=(n+m)+1 by omega]
   exact .on _ _ _ _ _ _ _ h1 (ih r)
theorem PWay.one {S:List St} {s:ByteArray} {x i y j:Nat} (h:GoSt S s x i y j):PWay S s 1 x i y j:=.on _ _ _ _ _ _ _ h (.here _ _)
def Led (S:List St) (s:ByteArray) (x i y j:Nat):Prop:=∃ n,PWay S s n x i y j
theorem Led.app {S:List St} {s:ByteArray} {x i y j z k:Nat} (h:Led S s x i y j) (r:Led S s y j z k):Led S s x i z k:=by
 obtain ⟨n,h⟩:=h
 obtain ⟨m,r⟩:=r
 exact ⟨_,h.app r⟩
theorem Led.one {S:List St} {s:ByteArray} {x i y j:Nat} (h:GoSt S s x i y j):Led S s x i y j:=⟨_,.one h⟩
theorem Led.refl {S:List St} {s:ByteArray} (x i:Nat):Led S s x i x i:=⟨_,.here _ _⟩
def Laid (S l:List St) (n:Nat):Prop:=∀ k s,l[k]? = some s->S[n+k]? = some s
theorem Laid.left {S l m:List St} {n:Nat} (h:Laid S (l++m) n):Laid S l n:=fun k s hk=>h k s (by
 rw [List.getElem?_append_left]
 .exact hk
 .rcases Nat.lt_or_ge k l.length with q | q
  .exact q
  .rw [List.getElem?_eq_none q] at hk; cases hk)
theorem Laid.right {S l m:List St} {n:Nat} (h:Laid S (l++m) n):Laid S m (n+l.length):=fun k s hk=>by
 rw [Nat.add_assoc]
 exact h (l.length+k) s (by rw [List.getElem?_append_right (by omega),Nat.add_sub_cancel_left]; exact hk)
theorem Laid.at_ {S l:List St} {n:Nat} (h:Laid S l n) {k:Nat} {s:St} (hk:l[k]? = some s):stAt S (n+k)=s:=by
 unfold stAt; rw [h k s hk]; rfl
theorem Laid.cons {S l:List St} {s:St} {n:Nat} (h:Laid S (s :: l) n):stAt S n=s/\Laid S l (n+1):=by
 refine ⟨h.at_ (k:=0) rfl,fun k t hk=>?_⟩
 rw [show n+1+k=n+(k+1) by omega]
 exact h (k+1) t (by simpa using hk)
structure Blk (S:List St) (s:ByteArray) (e:Nat) (n len nx:Nat) (R:Nat->Nat->Prop):Prop where
 thru:∀ i j,R i j->Led S s e i nx j
 out:∀ m i y j,PWay S s m e i y j->(y<n\/n+len<=y)->∃ k m',m'<=m/\R i k/\PWay S s m' nx k y j
 in_:n<=e/\e<n+len
theorem fork_go {S:List St} {s:ByteArray} {x:Nat} {f:List Int} (h:stAt S x=forkS f) {i y j:Nat}:GoSt S s x i y j↔j=i/\((y:Nat):Int)∈f:=by
 unfold GoSt
 rw [h]
 constructor
 .rintro (q | ⟨_,_,_,_,q⟩)
  .exact q
  .have q:(-1:Int)=(y:Nat):=q
   omega
 .intro q; exact .inl q
theorem PWay.first {S:List St} {s:ByteArray} {m x i y j:Nat} (h:PWay S s m x i y j) (hne:x≠y):∃ m' z k,m=m'+1/\GoSt S s x i z k/\PWay S s m' z k y j:=by
 cases h with
 | here=>exact absurd rfl hne
 | on n _ _ z k _ _ h1 h2=>exact ⟨n,z,k,rfl,h1,h2⟩
theorem loop_out {S:List St} {s:ByteArray} {ea n len nx:Nat} {R:Nat->Nat->Prop} (hb:Blk S s ea (n+1) len n R) (hf:stAt S n=forkS [(ea:Nat),(nx:Nat)]) :
 ∀ m i y j,PWay S s m n i y j->(y<n\/n+(len+1)<=y)->∃ k m',m'<=m/\Mo R i k/\PWay S s m' nx k y j:=by
 intro m
 induction m using Nat.strongRecOn with
 | _ m ih =>
   intro i y j hw hy
   obtain ⟨m1,z,k,hm,hg,hw1⟩:=hw.first (by omega)
   rw [fork_go hf] at hg
   obtain ⟨rfl,hz⟩:=hg
   have hz:z=ea\/z=nx:=by
    simp only [List.mem_cons,List.not_mem_nil,or_false] at hz
    omega
   rcases hz with q | q
   .subst q
    obtain ⟨k,m2,q1,q2,q3⟩:=hb.out m1 _ y j hw1 (by omega)
    obtain ⟨k',m3,r1,r2,r3⟩:=ih m2 (by omega) k y j q3 hy
    exact ⟨k',m3,by omega,.more _ k _ q2 r2,r3⟩
   .subst q
    exact ⟨_,m1,by omega,.none _,hw1⟩
theorem loop_thru {S:List St} {s:ByteArray} {ea n len nx:Nat} {R:Nat->Nat->Prop} (hb:Blk S s ea (n+1) len n R) (hf:stAt S n=forkS [(ea:Nat),(nx:Nat)]) {i j:Nat} (h:Mo R i j):Led S s n i nx j:=by
 induction h with
 | none i=>exact .one ((fork_go hf).2 ⟨rfl,by simp⟩)
 | more i k j h1 _ ih=>exact ((Led.one ((fork_go hf).2 ⟨rfl,by simp⟩)).app (hb.thru i k h1)).app ih
theorem cls_go {S:List St} {s:ByteArray} {x nx:Nat} {r:Rg} (h:stAt S x=clsS5 nx r) {i y j:Nat}:GoSt S s x i y j↔j=i+1/\i<s.size/\r.1<=byteAt s i/\byteAt s i<=r.2/\y=nx:=by
 unfold GoSt
 rw [h]
 constructor
 .rintro (q | ⟨q1,q2,q3,q4,q5⟩)
  .exact absurd q.2 (by simp [clsS5])
  .have q5:((nx:Nat):Int)=(y:Nat):=q5
   exact ⟨q1,q2,q3,q4,by omega⟩
 .rintro ⟨q1,q2,q3,q4,q5⟩
  subst q5
  exact .inr ⟨q1,q2,q3,q4,rfl⟩
theorem map_laid {S:List St} {L:List Rg} {nx n k:Nat} {r:Rg} (h:Laid S (L.map (clsS5 nx)) n) (hk:L[k]? = some r):stAt S (n+k)=clsS5 nx r:=h.at_ (by simp [hk])
theorem bld_blk (S:List St) (s:ByteArray):∀ (t:Ptn) (nx n:Nat),t.okT->Laid S (bld t nx n).1 n->(nx<n\/n+(bld t nx n).1.length<=nx)->Blk S s (bld t nx n).2 n (bld t nx n).1.length nx (Mt s t)
 | .cls L,nx,n,hne,hl,hnx=>by
   have hne:=hne.1
   by_cases h1:L.length=1
   .have hb:bld (.cls L) nx n=(L.map (clsS5 nx),n):=by simp only [bld]; rw [if_pos h1]
    rw [hb] at hl hnx ⊢
    obtain ⟨r,rfl⟩:∃ r,L=[r]:=by
     match L,h1 with
     | [r],_=>exact ⟨r,rfl⟩
    have hs:stAt S n=clsS5 nx r:=map_laid (k:=0) hl rfl
    refine ⟨fun i j h=>.one ((cls_go hs).2 ?_),fun m i y j hw hy=>?_,by simp⟩
    .obtain ⟨q1,q2,r',q3,q4⟩:=h
     have:r'=r:=by simpa using q3
     subst this
     exact ⟨q1,q2,q4.1,q4.2,rfl⟩
    .simp only [List.length_map,List.length_cons,List.length_nil] at hy
     obtain ⟨m1,z,k,hm,hg,hw1⟩:=hw.first (by omega)
     obtain ⟨q1,q2,q3,q4,q5⟩:=(cls_go hs).1 hg
     subst q5
     exact ⟨k,m1,by omega,⟨q1,q2,r,by simp,q3,q4⟩,hw1⟩
   .have hb:bld (.cls L) nx n=(L.map (clsS5 nx)++[forkS (waysM n L.length)],n+L.length):=by simp only [bld]; rw [if_neg h1]; rfl
    rw [hb] at hl hnx ⊢
    have hlm:=hl.left
    have hfk:stAt S (n+L.length)=forkS (waysM n L.length):=by
     have:=hl.right
     rw [List.length_map] at this
     exact this.cons.1
    refine ⟨fun i j h=>?_,fun m i y j hw hy=>?_,by simp⟩
    .obtain ⟨q1,q2,r,q3,q4⟩:=h
     obtain ⟨k,hk⟩:=List.getElem?_of_mem q3
     have hkl:k<L.length:=by
      rcases Nat.lt_or_ge k L.length with q | q
      .exact q
      .rw [List.getElem?_eq_none q] at hk; cases hk
     have a1:GoSt S s (n+L.length) i (n+k) i:=(fork_go hfk).2 ⟨rfl,by
      unfold waysM
      rw [List.mem_map]
      exact ⟨k,by simp [hkl],rfl⟩⟩
     have a2:GoSt S s (n+k) i nx j:=(cls_go (map_laid hlm hk)).2 ⟨q1,q2,q4.1,q4.2,rfl⟩
     exact (Led.one a1).app (.one a2)
    .simp only [List.length_append,List.length_map,List.length_cons,List.length_nil] at hy
     obtain ⟨m1,z,k,hm,hg,hw1⟩:=hw.first (by omega)
     obtain ⟨rfl,hz⟩:=(fork_go hfk).1 hg
     unfold waysM at hz
     rw [List.mem_map] at hz
     obtain ⟨q,hq1,hq2⟩:=hz
     have hq1:q<L.length:=by simpa using hq1
     have hzq:z=n+q:=by omega
     subst hzq
     have hst:=map_laid hlm (show L[q]? = some L[q] by simp [hq1])
     obtain ⟨m2,z2,k2,hm2,hg2,hw2⟩:=hw1.first (by omega)
     obtain ⟨q1,q2,q3,q4,q5⟩:=(cls_go hst).1 hg2
     subst q5
     exact ⟨k2,m2,by omega,⟨q1,q2,L[q],List.getElem_mem hq1,q3,q4⟩,hw2⟩
 | .join a b,nx,n,hok,hl,hnx=>by
   simp only [bld] at hl hnx ⊢
   have hb:=bld_blk S s b nx n hok.2 hl.left (by rw [List.length_append] at hnx; omega)
   have hin:=hb.in_
   have ha:=bld_blk S s a (bld b nx n).2 (n+(bld b nx n).1.length) hok.1 hl.right (by omega)
   have hia:=ha.in_
   rw [List.length_append] at hnx ⊢
   refine ⟨fun i j ⟨k,h1,h2⟩=>(ha.thru i k h1).app (hb.thru k j h2),fun m i y j hw hy=>?_,by omega⟩
   obtain ⟨k,m1,q1,q2,q3⟩:=ha.out m i y j hw (by omega)
   obtain ⟨k2,m2,r1,r2,r3⟩:=hb.out m1 k y j q3 (by omega)
   exact ⟨k2,m2,by omega,⟨k,q2,r2⟩,r3⟩
 | .alt a b,nx,n,hok,hl,hnx=>by
   simp only [bld] at hl hnx ⊢
   simp only [List.length_append,List.length_cons,List.length_nil] at hnx ⊢
   have ha:=bld_blk S s a nx n hok.1 hl.left.left (by omega)
   have hb:=bld_blk S s b nx (n+(bld a nx n).1.length) hok.2 hl.left.right (by omega)
   have hia:=ha.in_
   have hib:=hb.in_
   have hf:=(hl.right).cons.1
   rw [List.length_append,<- Nat.add_assoc] at hf
   refine ⟨fun i j h=>?_,fun m i y j hw hy=>?_,by omega⟩
   .rcases h with h | h
    .exact (Led.one ((fork_go hf).2 ⟨rfl,by simp⟩)).app (ha.thru i j h)
    .exact (Led.one ((fork_go hf).2 ⟨rfl,by simp⟩)).app (hb.thru i j h)
   .obtain ⟨m1,z,k,hm,hg,hw1⟩:=hw.first (by omega)
    obtain ⟨rfl,hz⟩:=(fork_go hf).1 hg
    simp only [List.mem_cons,List.not_mem_nil,or_false] at hz
    rcases hz with hz | hz
    .have:z=(bld a nx n).2:=by omega
     subst this
     obtain ⟨k,m2,q1,q2,q3⟩:=ha.out m1 _ y j hw1 (by omega)
     exact ⟨k,m2,by omega,.inl q2,q3⟩
    .have:z=(bld b nx (n+(bld a nx n).1.length)).2:=by omega
     subst this
     obtain ⟨k,m2,q1,q2,q3⟩:=hb.out m1 _ y j hw1 (by omega)
     exact ⟨k,m2,by omega,.inr q2,q3⟩
 | .star a,nx,n,hok,hl,hnx=>by
   simp only [bld] at hl hnx ⊢
   simp only [List.length_cons] at hnx ⊢
   obtain ⟨hf,hl'⟩:=hl.cons
   have ha:=bld_blk S s a n (n+1) hok hl' (by omega)
   exact ⟨fun i j h=>loop_thru ha hf h,fun m i y j hw hy=>loop_out ha hf m i y j hw (by omega),by omega⟩
 | .plus a,nx,n,hok,hl,hnx=>by
   simp only [bld] at hl hnx ⊢
   simp only [List.length_cons] at hnx ⊢
   obtain ⟨hf,hl'⟩:=hl.cons
   have ha:=bld_blk S s a n (n+1) hok hl' (by omega)
   have hia:=ha.in_
   refine ⟨fun i j ⟨k,h1,h2⟩=>(ha.thru i k h1).app (loop_thru ha hf h2),fun m i y j hw hy=>?_,by omega⟩
   obtain ⟨k,m1,q1,q2,q3⟩:=ha.out m i y j hw (by omega)
   obtain ⟨k2,m2,r1,r2,r3⟩:=loop_out ha hf m1 k y j q3 (by omega)
   exact ⟨k2,m2,by omega,⟨k,q2,r2⟩,r3⟩
 | .may a,nx,n,hok,hl,hnx=>by
   simp only [bld] at hl hnx ⊢
   simp only [List.length_append,List.length_cons,List.length_nil] at hnx ⊢
   have ha:=bld_blk S s a nx n hok hl.left (by omega)
   have hia:=ha.in_
   have hf:=(hl.right).cons.1
   refine ⟨fun i j h=>?_,fun m i y j hw hy=>?_,by omega⟩
   .rcases h with h | h
    .subst h
     exact .one ((fork_go hf).2 ⟨rfl,by simp⟩)
    .exact (Led.one ((fork_go hf).2 ⟨rfl,by simp⟩)).app (ha.thru i j h)
   .obtain ⟨m1,z,k,hm,hg,hw1⟩:=hw.first (by omega)
    obtain ⟨rfl,hz⟩:=(fork_go hf).1 hg
    simp only [List.mem_cons,List.not_mem_nil,or_false] at hz
    rcases hz with hz | hz
    .have:z=(bld a nx n).2:=by omega
     subst this
     obtain ⟨k,m2,q1,q2,q3⟩:=ha.out m1 _ y j hw1 (by omega)
     exact ⟨k,m2,by omega,.inr q2,q3⟩
    .have:z=nx:=by omega
     subst this
     exact ⟨_,m1,by omega,.inl rfl,hw1⟩
theorem addS_mem {N:Nat} {m:List Nat} {x:Int} {y:Nat}:y∈addS N m x↔y∈m\/(x=(y:Nat)/\y<N):=by
 unfold addS
 split
 .constructor
  .exact .inl
  .rintro (h | ⟨h,_⟩)
   .exact h
   .omega
 split
 .constructor
  .exact .inl
  .rintro (h | ⟨h,_⟩)
   .exact h
   .omega
 split
 .rename_i h1 h2 h3
  constructor
  .exact .inl
  .rintro (h | ⟨h,_⟩)
   .exact h
   .have:x.toNat=y:=by omega
    rw [<- this]; exact h3
 .rename_i h1 h2 h3
  rw [List.mem_append,List.mem_singleton]
  constructor
  .rintro (h | h)
   .exact .inl h
   .exact .inr ⟨by omega,by omega⟩
  .rintro (h | ⟨h,_⟩)
   .exact .inl h
   .exact .inr (by omega)
structure Fit (N:Nat) (m:List Nat):Prop where
 nod:m.Nodup
 lt:∀ x∈m,x<N
theorem addS_fit {N:Nat} {m:List Nat} {x:Int} (h:Fit N m):Fit N (addS N m x):=by
 refine ⟨?_,fun y hy=>?_⟩
 .unfold addS
  split
  .exact h.nod
  split
  .exact h.nod
  split
  .exact h.nod
  .rename_i h3
   rw [List.nodup_append]
   exact ⟨h.nod,by simp,fun a z1 b z2 z3=>by
    have z2:b=x.toNat:=by simpa using z2
    exact h3 (by rw [<- z2,<- z3]; exact z1)⟩
 .rcases addS_mem.1 hy with q | q
  .exact h.lt y q
  .exact q.2
theorem addF_mem {N:Nat}:∀ (f:List Int) (m:List Nat) (y:Nat),y∈f.foldl (addS N) m↔y∈m\/(((y:Nat):Int)∈f/\y<N)
 | [],m,y=>by simp
 | x :: f,m,y=>by
   rw [List.foldl_cons,addF_mem f,addS_mem,List.mem_cons]
   constructor
   .rintro ((h | h) | h)
    .exact .inl h
    .exact .inr ⟨.inl h.1.symm,h.2⟩
    .exact .inr ⟨.inr h.1,h.2⟩
   .rintro (h | ⟨h | h,h2⟩)
    .exact .inl (.inl h)
    .exact .inl (.inr ⟨h.symm,h2⟩)
    .exact .inr ⟨h,h2⟩
theorem addF_fit {N:Nat}:∀ (f:List Int) (m:List Nat),Fit N m->Fit N (f.foldl (addS N) m)
 | [],m,h=>h
 | x :: f,m,h=>addF_fit f _ (addS_fit h)
theorem spM_spec {S:List St}:∀ (f i:Nat) (m:List Nat),Fit S.length m->i<=m.length->S.length+1-i<=f->(∀ k x y,k<i->m[k]? = some x->((y:Nat):Int)∈(stAt S x).free->y<S.length->y∈m)->
 Fit S.length (spM S f i m)/\(∀ x∈m,x∈spM S f i m)/\(∀ x y,x∈spM S f i m->((y:Nat):Int)∈(stAt S x).free->y<S.length->y∈spM S f i m)/\
 ∀ P:Nat->Prop,(∀ x∈m,P x)->(∀ x y,P x->((y:Nat):Int)∈(stAt S x).free->y<S.length->P y)->∀ z∈spM S f i m,P z:=by
 intro f
 induction f with
 | zero =>
   intro i m hf hi hfu
   have:=nodup_le _ m hf.nod hf.lt
   omega
 | succ f ih =>
   intro i m hf hi hfu hcl
   rw [spM]
   cases hm:m[i]? with
   | none =>
     have hge:m.length<=i:=by
      rcases Nat.lt_or_ge i m.length with q | q
      .simp [q] at hm
      .exact q
     refine ⟨hf,fun x hx=>hx,fun x y hx hy hyl=>?_,fun P h1 _ z hz=>h1 z hz⟩
     obtain ⟨k,hk⟩:=List.getElem?_of_mem hx
     have hkl:k<m.length:=by
      rcases Nat.lt_or_ge k m.length with q | q
      .exact q
      .rw [List.getElem?_eq_none q] at hk; cases hk
     exact hcl k x y (by omega) hk hy hyl
   | some x =>
     have hil:i<m.length:=by
      rcases Nat.lt_or_ge i m.length with q | q
      .exact q
      .rw [List.getElem?_eq_none q] at hm; cases hm
     obtain ⟨r,hr⟩:=addF_grow (N:=S.length) (stAt S x).free m
     obtain ⟨g1,g2,g3,g4⟩:=ih (i+1) ((stAt S x).free.foldl (addS S.length) m) (addF_fit _ _ hf) (by rw [hr,List.length_append]; omega) (by omega) (fun k z y hk hz hy hyl=>by
      rw [addF_mem]
      by_cases hki:k=i
      .subst hki
       rw [hr,List.getElem?_append_left hil,hm] at hz
       cases hz
       exact .inr ⟨hy,hyl⟩
      .rw [hr,List.getElem?_append_left (by omega)] at hz
       exact .inl (hcl k z y (by omega) hz hy hyl))
     refine ⟨g1,fun z hz=>g2 z ((addF_mem _ _ _).2 (.inl hz)),g3,fun P h1 h2 z hz=>g4 P (fun w hw=>?_) h2 z hz⟩
     rcases (addF_mem _ _ _).1 hw with q | q
     .exact h1 w q
     .exact h2 x w (h1 x (List.mem_of_getElem? hm)) q.1 q.2
theorem clM_spec {S:List St} {m:List Nat} (h:Fit S.length m):Fit S.length (clM S m)/\(∀ x∈m,x∈clM S m)/\(∀ x y,x∈clM S m->((y:Nat):Int)∈(stAt S x).free->y<S.length->y∈clM S m)/\
 ∀ P:Nat->Prop,(∀ x∈m,P x)->(∀ x y,P x->((y:Nat):Int)∈(stAt S x).free->y<S.length->P y)->∀ z∈clM S m,P z :=
 spM_spec (S.length+1) 0 m h (by omega) (by omega) (fun k x y hk=>by omega)
theorem moveF_mem {S:List St} {c:Int}:∀ (m t:List Nat) (y:Nat),y∈m.foldl (moveM S c) t↔y∈t\/(∃ x∈m,(stAt S x).lo<=c/\c<=(stAt S x).hi/\(stAt S x).next=(y:Nat))/\y<S.length\/y∈t
 | [],t,y=>by simp
 | x :: m,t,y=>by
   rw [List.foldl_cons,moveF_mem m]
   have hm:y∈moveM S c t x↔y∈t\/(((stAt S x).lo<=c/\c<=(stAt S x).hi/\(stAt S x).next=(y:Nat))/\y<S.length):=by
    unfold moveM
    split
    .rename_i h
     rw [addS_mem]
     constructor
     .rintro (q | ⟨q1,q2⟩)
      .exact .inl q
      .exact .inr ⟨⟨h.1,h.2,q1⟩,q2⟩
     .rintro (q | ⟨⟨_,_,q1⟩,q2⟩)
      .exact .inl q
      .exact .inr ⟨q1,q2⟩
    .rename_i h
     constructor
     .exact .inl
     .rintro (q | ⟨⟨q1,q2,_⟩,_⟩)
      .exact q
      .exact absurd ⟨q1,q2⟩ h
   rw [hm]
   constructor
   .rintro ((q | q) | ⟨⟨w,hw,q⟩,q2⟩ | (q | q))
    .exact .inl q
    .exact .inr (.inl ⟨⟨x,by simp,q.1⟩,q.2⟩)
    .exact .inr (.inl ⟨⟨w,by simp [hw],q⟩,q2⟩)
    .exact .inl q
    .exact .inr (.inl ⟨⟨x,by simp,q.1⟩,q.2⟩)
   .rintro (q | ⟨⟨w,hw,q⟩,q2⟩ | q)
    .exact .inl (.inl q)
    .rcases List.mem_cons.1 hw with z | z
     .subst z; exact .inl (.inr ⟨q,q2⟩)
     .exact .inr (.inl ⟨⟨w,z,q⟩,q2⟩)
    .exact .inl (.inl q)
theorem moveF_fit {S:List St} {c:Int}:∀ (m t:List Nat),Fit S.length t->Fit S.length (m.foldl (moveM S c) t)
 | [],t,h=>h
 | x :: m,t,h=>moveF_fit m _ (by
   unfold moveM
   split
   .exact addS_fit h
   .exact h)
theorem fit_nil (N:Nat):Fit N []:=⟨List.nodup_nil,fun x hx=>by cases hx⟩
def Sq (S:List St) (s:ByteArray):Nat->List Nat
 | 0=>begM S
 | i+1=>stepM S (byteAt s i) (Sq S s i)
theorem Sq_fit (S:List St) (s:ByteArray):∀ i,Fit S.length (Sq S s i)
 | 0=>(clM_spec (addS_fit (fit_nil _))).1
 | i+1=>(clM_spec (moveF_fit _ _ (fit_nil _))).1
theorem Sq_closed (S:List St) (s:ByteArray) (i x y:Nat) (h:x∈Sq S s i) (hy:((y:Nat):Int)∈(stAt S x).free) (hl:y<S.length):y∈Sq S s i:=by
 cases i with
 | zero=>exact (clM_spec (addS_fit (fit_nil _))).2.2.1 x y h hy hl
 | succ i=>exact (clM_spec (moveF_fit _ _ (fit_nil _))).2.2.1 x y h hy hl
theorem Sq_next (S:List St) (s:ByteArray) (i x y:Nat) (h:x∈Sq S s i) (h1:(stAt S x).lo<=byteAt s i) (h2:byteAt s i<=(stAt S x).hi) (h3:(stAt S x).next=(y:Nat)) (hl:y<S.length):y∈Sq S s (i+1) :=
 (clM_spec (moveF_fit _ _ (fit_nil _))).2.1 y ((moveF_mem _ _ _).2 (.inr (.inl ⟨⟨x,h,h1,h2,h3⟩,hl⟩)))
theorem Sq_led (S:List St) (s:ByteArray):∀ i,i<=s.size->∀ y∈Sq S s i,Led S s 0 0 y i
 | 0,_,y,hy=>by
   refine (clM_spec (addS_fit (fit_nil _))).2.2.2 (fun z=>Led S s 0 0 z 0) (fun x hx=>?_) (fun x z hx hz _=>hx.app (.one (.inl ⟨rfl,hz⟩))) y hy
   rcases addS_mem.1 hx with q | q
   .cases q
   .have:x=0:=by omega
    subst this; exact .refl _ _
 | i+1,hi,y,hy=>by
   refine (clM_spec (moveF_fit _ _ (fit_nil _))).2.2.2 (fun z=>Led S s 0 0 z (i+1)) (fun x hx=>?_) (fun x z hx hz _=>hx.app (.one (.inl ⟨rfl,hz⟩))) y hy
   rcases (moveF_mem _ _ _).1 hx with q | ⟨⟨w,hw,q1,q2,q3⟩,_⟩ | q
   .cases q
   .exact (Sq_led S s i (by omega) w hw).app (.one (.inr ⟨rfl,by omega,q1,q2,q3⟩))
   .cases q
theorem st_out {S:List St} {x:Nat} (h:S.length<=x):stAt S x=st0:=by
 unfold stAt; rw [List.getElem?_eq_none h]; rfl
theorem Sq_all (S:List St) (s:ByteArray) {n x i y j:Nat} (h:PWay S s n x i y j):x∈Sq S s i->y<S.length->y∈Sq S s j:=by
 induction h with
 | here x i=>exact fun h _=>h
 | on n x i z k y j h1 h2 ih =>
   intro hx hy
   have hz:z<S.length\/S.length<=z:=Nat.lt_or_ge _ _
   rcases hz with hz | hz
   .refine ih ?_ hy
    rcases h1 with ⟨rfl,q⟩ | ⟨rfl,_,q1,q2,q3⟩
    .exact Sq_closed S s _ x z hx q hz
    .exact Sq_next S s i x z hx q1 q2 q3 hz
   .exfalso
    cases h2 with
    | here=>omega
    | on n _ _ w l _ _ g1 g2 =>
      unfold GoSt at g1
      rw [st_out hz] at g1
      rcases g1 with ⟨_,q⟩ | ⟨_,_,_,_,q⟩
      .cases q
      .have q:(-1:Int)=(w:Nat):=q
       omega
theorem Sq_iff (S:List St) (s:ByteArray) (h0:0<S.length) {y j:Nat} (hj:j<=s.size):y∈Sq S s j↔y<S.length/\Led S s 0 0 y j:=by
 constructor
 .intro h
  exact ⟨(Sq_fit S s j).lt y h,Sq_led S s j hj y h⟩
 .rintro ⟨h1,n,h2⟩
  exact Sq_all S s h2 ((clM_spec (addS_fit (fit_nil _))).2.1 0 (addS_mem.2 (.inr ⟨rfl,h0⟩))) h1
theorem least_spec (S:List St):∀ (m:List Nat) (l:Int),(m.foldl (leastM S) l=0↔l=0/\∀ x∈m,(stAt S x).e=0)/\(m.foldl (leastM S) l≠0->(m.foldl (leastM S) l=l\/∃ x∈m,(stAt S x).e=m.foldl (leastM S) l)/\(l≠0->m.foldl (leastM S) l<=l)/\∀ x∈m,(stAt S x).e≠0->m.foldl (leastM S) l<=(stAt S x).e)
 | [],l=>⟨by simp,fun h=>⟨.inl rfl,fun _=>Int.le_refl _,fun x hx=>by cases hx⟩⟩
 | x :: m,l=>by
   obtain ⟨h1,h2⟩:=least_spec S m (leastM S l x)
   rw [List.foldl_cons]
   have hk:(leastM S l x=0↔l=0/\(stAt S x).e=0)/\(leastM S l x=l\/leastM S l x=(stAt S x).e)/\(l≠0->leastM S l x<=l)/\((stAt S x).e≠0->leastM S l x<=(stAt S x).e):=by
    unfold leastM
    split
    .split
     .rename_i q1 q2
      exact ⟨⟨fun q=>absurd q q1,fun q=>absurd q.2 q1⟩,.inr rfl,fun q=>absurd q2 q,fun _=>Int.le_refl _⟩
     split
     .rename_i q1 q2 q3
      exact ⟨⟨fun q=>absurd q q1,fun q=>absurd q.2 q1⟩,.inr rfl,fun q=>by omega,fun _=>Int.le_refl _⟩
     .rename_i q1 q2 q3
      exact ⟨⟨fun q=>absurd q q2,fun q=>absurd q.1 q2⟩,.inl rfl,fun q=>Int.le_refl _,fun _=>by omega⟩
    .rename_i q1
     have q1:(stAt S x).e=0:=by simpa using q1
     exact ⟨⟨fun q=>⟨q,q1⟩,fun q=>q.1⟩,.inl rfl,fun q=>Int.le_refl _,fun q=>absurd q1 q⟩
   obtain ⟨k1,k2,k3,k4⟩:=hk
   refine ⟨?_,fun hne=>?_⟩
   .rw [h1,k1]
    constructor
    .rintro ⟨⟨q1,q2⟩,q3⟩
     exact ⟨q1,fun y hy=>by
      rcases List.mem_cons.1 hy with z | z
      .rw [z]; exact q2
      .exact q3 y z⟩
    .rintro ⟨q1,q2⟩
     exact ⟨⟨q1,q2 x (by simp)⟩,fun y hy=>q2 y (by simp [hy])⟩
   .obtain ⟨g1,g2,g3⟩:=h2 hne
    refine ⟨?_,fun hl=>?_,fun y hy hye=>?_⟩
    .rcases g1 with q | ⟨y,hy,q⟩
     .rcases k2 with z | z
      .exact .inl (by rw [q,z])
      .exact .inr ⟨x,by simp,by rw [q,z]⟩
     .exact .inr ⟨y,by simp [hy],q⟩
    .have:=k3 hl
     by_cases hz:leastM S l x=0
     .exact absurd (k1.1 hz).1 hl
     .have:=g2 hz; omega
    .rcases List.mem_cons.1 hy with z | z
     .subst z
      have:=k4 hye
      by_cases hz:leastM S l y=0
      .exact absurd (k1.1 hz).2 hye
      .have:=g2 hz; omega
     .exact g3 y z hye
theorem endM_spec (S:List St) (m:List Nat):(endM S m=0↔∀ x∈m,(stAt S x).e=0)/\(endM S m≠0->(∃ x∈m,(stAt S x).e=endM S m)/\∀ x∈m,(stAt S x).e≠0->endM S m<=(stAt S x).e):=by
 obtain ⟨h1,h2⟩:=least_spec S m 0
 refine ⟨by unfold endM; rw [h1]; simp,fun hne=>?_⟩
 obtain ⟨g1,_,g3⟩:=h2 hne
 refine ⟨?_,g3⟩
 rcases g1 with q | q
 .exact absurd q hne
 .exact q
theorem ofM_spec (S:List St):∀ (ts:List (List It)) (k:Nat) (f:List Int) (tl:List St),Laid S (ofM ts k f tl).2 1->
 (∃ T,(ofM ts k f tl).2=tl++T)/\∃ F,(ofM ts k f tl).1=f++F/\F.length=ts.length/\∀ (j:Nat) l,ts[j]? = some l->∃ E,1<=E/\stAt S E=endS (k+j)/\Laid S (bld (treeD l) E (E+1)).1 (E+1)/\F[j]? = some (((bld (treeD l) E (E+1)).2:Nat):Int)
 | [],k,f,tl,h=>⟨⟨[],by simp [ofM]⟩,[],by simp [ofM],rfl,fun j l hl=>by simp at hl⟩
 | l :: ts,k,f,tl,h=>by
   rw [ofM] at h ⊢
   obtain ⟨⟨T,hT⟩,F,h1,h2,h3⟩:=ofM_spec S ts (k+1) _ _ h
   have hlaid:=h
   rw [hT,List.append_assoc] at hlaid
   have hr:=hlaid.right
   obtain ⟨he,hb⟩:=Laid.cons (l:=_) (by simpa using hr)
   refine ⟨⟨_,by rw [hT,List.append_assoc]⟩,((bld (treeD l) (tl.length+1) (tl.length+2)).2:Int) :: F,by rw [h1]; simp,by simp [h2],fun j l' hl'=>?_⟩
   cases j with
   | zero =>
     have hl':l=l':=by simpa using hl'
     subst hl'
     refine ⟨1+tl.length,by omega,he,?_,?_⟩
     .have e1:1+tl.length=tl.length+1:=by omega
      rw [e1] at hb ⊢
      exact Laid.left (m:=T) (by simpa using hb)
     .have e1:1+tl.length=tl.length+1:=by omega
      rw [e1]; rfl
   | succ j =>
     obtain ⟨E,e1,e2,e3,e4⟩:=h3 j l' (by simpa using hl')
     exact ⟨E,e1,by rw [show k+(j+1)=k+1+j by omega]; exact e2,e3,by simpa using e4⟩
theorem bld_e:∀ (t:Ptn) (nx n:Nat) (k:Nat) (s:St),(bld t nx n).1[k]? = some s->s.e=0
 | .cls L,nx,n,k,s,h=>by
   have hm:=List.mem_of_getElem? h
   simp only [bld] at hm
   split at hm
   .obtain ⟨r,_,rfl⟩:=List.mem_map.1 hm; rfl
   .rcases List.mem_append.1 hm with hm | hm
    .obtain ⟨r,_,rfl⟩:=List.mem_map.1 hm; rfl
    .have:=List.mem_singleton.1 hm; rw [this]; rfl
 | .join a b,nx,n,k,s,h=>by
   have hm:=List.mem_of_getElem? h
   simp only [bld] at hm
   rcases List.mem_append.1 hm with hm | hm
   .obtain ⟨i,hi⟩:=List.getElem?_of_mem hm; exact bld_e b _ _ i s hi
   .obtain ⟨i,hi⟩:=List.getElem?_of_mem hm; exact bld_e a _ _ i s hi
 | .alt a b,nx,n,k,s,h=>by
   have hm:=List.mem_of_getElem? h
   simp only [bld] at hm
   rcases List.mem_append.1 hm with hm | hm
   .rcases List.mem_append.1 hm with hm | hm
    .obtain ⟨i,hi⟩:=List.getElem?_of_mem hm; exact bld_e a _ _ i s hi
    .obtain ⟨i,hi⟩:=List.getElem?_of_mem hm; exact bld_e b _ _ i s hi
   .have:=List.mem_singleton.1 hm; rw [this]; rfl
 | .star a,nx,n,k,s,h=>by
   have hm:=List.mem_of_getElem? h
   simp only [bld] at hm
   rcases List.mem_cons.1 hm with hm | hm
   .rw [hm]; rfl
   .obtain ⟨i,hi⟩:=List.getElem?_of_mem hm; exact bld_e a _ _ i s hi
 | .plus a,nx,n,k,s,h=>by
   have hm:=List.mem_of_getElem? h
   simp only [bld] at hm
   rcases List.mem_cons.1 hm with hm | hm
   .rw [hm]; rfl
   .obtain ⟨i,hi⟩:=List.getElem?_of_mem hm; exact bld_e a _ _ i s hi
 | .may a,nx,n,k,s,h=>by
   have hm:=List.mem_of_getElem? h
   simp only [bld] at hm
   rcases List.mem_append.1 hm with hm | hm
   .obtain ⟨i,hi⟩:=List.getElem?_of_mem hm; exact bld_e a _ _ i s hi
   .have:=List.mem_singleton.1 hm; rw [this]; rfl
theorem led_end {pats:List (List It)} (hg:∀ l∈pats,(treeD l).okT) {s:ByteArray} {j:Nat} {v:Int} (hv:v≠0) :
 (∃ y,Led (nfaM pats) s 0 0 y j/\(stAt (nfaM pats) y).e=v)↔∃ (k:Nat) (l:List It),pats[k]? = some l/\v=((k+1:Nat):Int)/\Mt s (treeD l) 0 j:=by
 have hl1:Laid (nfaM pats) (ofM pats 0 [] []).2 1:=by
  have:Laid (nfaM pats) (forkS (ofM pats 0 [] []).1 :: (ofM pats 0 [] []).2) 0:=fun k s hk=>by rw [Nat.zero_add]; exact hk
  exact this.cons.2
 have hst:stAt (nfaM pats) 0=forkS (ofM pats 0 [] []).1:=rfl
 obtain ⟨_,F,h1,h2,h3⟩:=ofM_spec (nfaM pats) pats 0 [] [] hl1
 rw [h1,List.nil_append] at hst
 have endgo:∀ {E k i y j},stAt (nfaM pats) E=endS k->¬ GoSt (nfaM pats) s E i y j:=fun {E k i y j} he hg=>by
  unfold GoSt at hg
  rw [he] at hg
  rcases hg with ⟨_,q⟩ | ⟨_,_,_,_,q⟩
  .cases q
  .have q:(-1:Int)=(y:Nat):=q
   omega
 constructor
 .rintro ⟨y,⟨n,hw⟩,hy⟩
  have hy0:0≠y:=fun q=>by
   rw [<- q,hst] at hy
   exact hv hy.symm
  obtain ⟨m1,z,k,hm,hgo,hw1⟩:=hw.first hy0
  obtain ⟨rfl,hz⟩:=(fork_go hst).1 hgo
  obtain ⟨q,hq⟩:=List.getElem?_of_mem hz
  have hql:q<pats.length:=by
   rcases Nat.lt_or_ge q pats.length with u | u
   .exact u
   .rw [List.getElem?_eq_none (by omega)] at hq; cases hq
  have hpq:pats[q]? = some pats[q]:=by simp [hql]
  obtain ⟨E,e1,e2,e3,e4⟩:=h3 q _ hpq
  rw [hq] at e4
  have hzE:z=(bld (treeD pats[q]) E (E+1)).2:=by injection e4 with e4; omega
  subst hzE
  have hb:=bld_blk (nfaM pats) s (treeD pats[q]) E (E+1) (hg _ (List.getElem_mem hql)) e3 (by omega)
  have hyo:y<E+1\/E+1+(bld (treeD pats[q]) E (E+1)).1.length<=y:=by
   apply Classical.byContradiction
   intro hno
   have hin:E+1<=y/\y<E+1+(bld (treeD pats[q]) E (E+1)).1.length:=by omega
   have hk:(bld (treeD pats[q]) E (E+1)).1[y-(E+1)]? = some ((bld (treeD pats[q]) E (E+1)).1[y-(E+1)]'(by omega)):=List.getElem?_eq_getElem (by omega)
   have hat:=e3.at_ hk
   rw [show E+1+(y-(E+1))=y by omega] at hat
   rw [hat,bld_e _ _ _ _ _ hk] at hy
   exact hv hy.symm
  obtain ⟨k,m2,q1,q2,q3⟩:=hb.out m1 _ y j hw1 hyo
  have hEy:E=y/\k=j:=by
   cases q3 with
   | here=>exact ⟨rfl,rfl⟩
   | on n _ _ w l _ _ g1 g2=>exact absurd g1 (endgo e2)
  obtain ⟨rfl,rfl⟩:=hEy
  rw [e2] at hy
  refine ⟨q,_,hpq,?_,q2⟩
  rw [<- hy]
  show ((0+q+1:Nat):Int)=_
  rw [Nat.zero_add]
 .rintro ⟨k,l,hk,hvk,hm⟩
  obtain ⟨E,e1,e2,e3,e4⟩:=h3 k l hk
  have hmem:l∈pats:=List.mem_of_getElem? hk
  have hb:=bld_blk (nfaM pats) s (treeD l) E (E+1) (hg l hmem) e3 (by omega)
  refine ⟨E,(Led.one ((fork_go hst).2 ⟨rfl,List.mem_of_getElem? e4⟩)).app (hb.thru 0 j hm),?_⟩
  rw [e2,hvk]
  show ((0+k+1:Nat):Int)=_
  rw [Nat.zero_add]
def Has (pats:List (List It)) (s:ByteArray) (k j:Nat):Prop:=∃ l,pats[k]? = some l/\Mt s (treeD l) 0 j
inductive LgSpec (M:Nat->Nat->Prop) (n:Nat):Int × Int × Bool->Prop where
 | no (h:∀ k j,1<=j->j<=n->¬ M k j):LgSpec M n (0,0,false)
 | yes (k j:Nat) (h1:1<=j) (h2:j<=n) (h3:M k j) (h4:∀ k' j',j<j'->j'<=n->¬ M k' j') (h5:∀ k',k'<k->¬ M k' j):LgSpec M n (((k:Nat):Int),((j:Nat):Int),true)
theorem LgSpec.same {M:Nat->Nat->Prop} {n:Nat} {r r':Int × Int × Bool} (h:LgSpec M n r) (h':LgSpec M n r'):r=r':=by
 cases h with
 | no h =>
   cases h' with
   | no h'=>rfl
   | yes k j h1 h2 h3=>exact absurd h3 (h k j h1 h2)
 | yes k j h1 h2 h3 h4 h5 =>
   cases h' with
   | no h'=>exact absurd h3 (h' k j h1 h2)
   | yes k' j' g1 g2 g3 g4 g5 =>
     have hj:j=j':=by
      rcases Nat.lt_trichotomy j j' with q | q | q
      .exact absurd g3 (h4 k' j' q g2)
      .exact q
      .exact absurd h3 (g4 k j q h2)
     subst hj
     have hk:k=k':=by
      rcases Nat.lt_trichotomy k k' with q | q | q
      .exact absurd h3 (g5 k q)
      .exact q
      .exact absurd g3 (h5 k' q)
     subst hk
     rfl
theorem lgN_spec {pats:List (List It)} (hg:∀ l∈pats,(treeD l).okT) (hp:pats.length<=1000) {s:ByteArray} (hs:s.size<=1000000):∀ (f i:Nat) (r:Int × Int × Bool),i+f=s.size->LgSpec (Has pats s) i r->LgSpec (Has pats s) s.size (lgN (nfaM pats) s f i (Sq (nfaM pats) s i) r):=by
 have h0:0<(nfaM pats).length:=by unfold nfaM; simp
 have hends:∀ j,j<=s.size->(∀ v,v≠0->((∃ y∈Sq (nfaM pats) s j,(stAt (nfaM pats) y).e=v)↔∃ k:Nat,v=((k+1:Nat):Int)/\Has pats s k j)):=fun j hj v hv=>by
  have:=led_end hg (s:=s) (j:=j) hv
  constructor
  .rintro ⟨y,h1,h2⟩
   obtain ⟨k,l,q1,q2,q3⟩:=this.1 ⟨y,((Sq_iff _ _ h0 hj).1 h1).2,h2⟩
   exact ⟨k,q2,l,q1,q3⟩
  .rintro ⟨k,q1,l,q2,q3⟩
   obtain ⟨y,h1,h2⟩:=this.2 ⟨k,l,q2,q1,q3⟩
   refine ⟨y,(Sq_iff _ _ h0 hj).2 ⟨?_,h1⟩,h2⟩
   rcases Nat.lt_or_ge y (nfaM pats).length with z | z
   .exact z
   .rw [st_out z] at h2
    exact absurd h2.symm hv
 intro f
 induction f with
 | zero =>
   intro i r hi h
   have:i=s.size:=by omega
   rw [<- this]; exact h
 | succ f ih =>
   intro i r hi h
   rw [lgN]
   have hSq:stepM (nfaM pats) (byteAt s i) (Sq (nfaM pats) s i)=Sq (nfaM pats) s (i+1):=rfl
   rw [hSq]
   have hno:∀ j,i<j->j<=s.size->Sq (nfaM pats) s (i+1)=[]->Sq (nfaM pats) s j=[]:=fun j h1 h2 h3=>by
    obtain ⟨d,rfl⟩:∃ d,j=i+1+d:=⟨j-(i+1),by omega⟩
    clear h1 h2
    induction d with
    | zero=>exact h3
    | succ d ihd =>
      show stepM (nfaM pats) _ (Sq (nfaM pats) s (i+1+d))=[]
      rw [ihd]
      unfold stepM
      show clM (nfaM pats) []=[]
      unfold clM
      rw [spM]; rfl
   have extend:∀ {r},LgSpec (Has pats s) i r->(∀ k,¬ Has pats s k (i+1))->LgSpec (Has pats s) (i+1) r:=fun {r} h hn=>by
    cases h with
    | no h =>
      exact .no fun k j h1 h2=>by
       rcases Nat.lt_or_ge i j with q | q
       .have:j=i+1:=by omega
        rw [this]; exact hn k
       .exact h k j h1 q
    | yes k j h1 h2 h3 h4 h5 =>
      exact .yes k j h1 (by omega) h3 (fun k' j' q1 q2=>by
       rcases Nat.lt_or_ge i j' with q | q
       .have:j'=i+1:=by omega
        rw [this]; exact hn k'
       .exact h4 k' j' q1 q) h5
   split
   .rename_i hemp
    have hall:∀ j,i<j->j<=s.size->∀ k,¬ Has pats s k j:=fun j h1 h2 k hk=>by
     obtain ⟨y,hy,_⟩:=(hends j h2 ((k+1:Nat):Int) (by omega)).2 ⟨k,rfl,hk⟩
     rw [hno j h1 h2 hemp] at hy
     cases hy
    cases h with
    | no h =>
      exact .no fun k j h1 h2=>by
       rcases Nat.lt_or_ge i j with q | q
       .exact hall j q h2 k
       .exact h k j h1 q
    | yes k j h1 h2 h3 h4 h5 =>
      exact .yes k j h1 (by omega) h3 (fun k' j' q1 q2=>by
       rcases Nat.lt_or_ge i j' with q | q
       .exact hall j' q q2 k'
       .exact h4 k' j' q1 q) h5
   .refine ih (i+1) _ (by omega) ?_
    obtain ⟨e1,e2⟩:=endM_spec (nfaM pats) (Sq (nfaM pats) s (i+1))
    have hiff:=hends (i+1) (by omega)
    split
    .rename_i hne
     obtain ⟨⟨x,hx,hxe⟩,hle⟩:=e2 hne
     obtain ⟨k,hk,hhas⟩:=(hiff _ hne).1 ⟨x,hx,hxe⟩
     have hkl:k<1000:=by
      obtain ⟨l,q,_⟩:=hhas
      rcases Nat.lt_or_ge k pats.length with u | u
      .omega
      .rw [List.getElem?_eq_none u] at q; cases q
     have w1:IntKind.wrap .i64 (endM (nfaM pats) (Sq (nfaM pats) s (i+1))-1)=((k:Nat):Int):=by rw [hk,wrap64 (by omega) (by omega)]; omega
     have w2:IntKind.wrap .i64 (((i:Nat):Int)+1)=((i+1:Nat):Int):=by rw [wrap64 (by omega) (by omega)]; omega
     rw [w1,w2]
     refine .yes k (i+1) (by omega) (Nat.le_refl _) hhas (fun k' j' q1 q2=>by omega) fun k' hk' hh=>?_
     obtain ⟨y,hy,hye⟩:=(hiff ((k'+1:Nat):Int) (by omega)).2 ⟨k',rfl,hh⟩
     have:=hle y hy (by rw [hye]; omega)
     rw [hye,hk] at this
     omega
    .rename_i hz
     have hz:endM (nfaM pats) (Sq (nfaM pats) s (i+1))=0:=by simpa using hz
     refine extend h fun k hk=>?_
     obtain ⟨y,hy,hye⟩:=(hiff ((k+1:Nat):Int) (by omega)).2 ⟨k,rfl,hk⟩
     have:=e1.1 hz y hy
     omega
theorem nfaL_spec {pats:List (List It)} (hg:∀ l∈pats,(treeD l).okT) (hp:pats.length<=1000) {s:ByteArray} (hs:s.size<=1000000):LgSpec (Has pats s) s.size (nfaL (nfaM pats) s) :=
 lgN_spec hg hp hs s.size 0 _ (by omega) (.no fun k j h1 h2=>by omega)
def SameS (a b:List Nat):Prop:=∀ x,x∈a↔x∈b
theorem SameS.nil {a b:List Nat} (h:SameS a b):a=[]↔b=[]:=by
 constructor
 .intro q
  subst q
  cases b with
  | nil=>rfl
  | cons x r=>exact absurd ((h x).2 (by simp)) (by simp)
 .intro q
  subst q
  cases a with
  | nil=>rfl
  | cons x r=>exact absurd ((h x).1 (by simp)) (by simp)
theorem SameS.trans {a b c:List Nat} (h:SameS a b) (g:SameS b c):SameS a c:=fun x=>(h x).trans (g x)
theorem move_same {S:List St} {c:Int} {a b:List Nat} (h:SameS a b):SameS (a.foldl (moveM S c) []) (b.foldl (moveM S c) []):=fun y=>by
 rw [moveF_mem,moveF_mem]
 constructor
 .rintro (q | ⟨⟨x,z1,z2⟩,z3⟩ | q)
  .cases q
  .exact .inr (.inl ⟨⟨x,(h x).1 z1,z2⟩,z3⟩)
  .cases q
 .rintro (q | ⟨⟨x,z1,z2⟩,z3⟩ | q)
  .cases q
  .exact .inr (.inl ⟨⟨x,(h x).2 z1,z2⟩,z3⟩)
  .cases q
theorem clM_same {S:List St} {a b:List Nat} (ha:Fit S.length a) (hb:Fit S.length b) (h:SameS a b):SameS (clM S a) (clM S b):=by
 obtain ⟨_,a1,a2,a3⟩:=clM_spec ha
 obtain ⟨_,b1,b2,b3⟩:=clM_spec hb
 intro z
 constructor
 .exact a3 (fun z=>z∈clM S b) (fun x hx=>b1 x ((h x).1 hx)) (fun x y hx=>b2 x y hx) z
 .exact b3 (fun z=>z∈clM S a) (fun x hx=>a1 x ((h x).2 hx)) (fun x y hx=>a2 x y hx) z
theorem stepM_same {S:List St} {c:Int} {a b:List Nat} (h:SameS a b):SameS (stepM S c a) (stepM S c b) :=
 clM_same (moveF_fit a [] (fit_nil _)) (moveF_fit b [] (fit_nil _)) (move_same h)
theorem endM_same {S:List St} {a b:List Nat} (h:SameS a b):endM S a=endM S b:=by
 obtain ⟨a1,a2⟩:=endM_spec S a
 obtain ⟨b1,b2⟩:=endM_spec S b
 by_cases z:endM S a=0
 .rw [z,b1.2 fun x hx=>a1.1 z x ((h x).2 hx)]
 .have z':endM S b≠0:=fun q=>z (a1.2 fun x hx=>b1.1 q x ((h x).1 hx))
  obtain ⟨⟨x,x1,x2⟩,x3⟩:=a2 z
  obtain ⟨⟨y,y1,y2⟩,y3⟩:=b2 z'
  have q1:=x3 y ((h y).2 y1) (by rw [y2]; exact z')
  have q2:=y3 x ((h x).1 x1) (by rw [x2]; exact z)
  rw [y2] at q1; rw [x2] at q2
  omega
theorem clM_nil {S:List St}:clM S []=[]:=by
 unfold clM
 simp [spM]
theorem step_nil {S:List St} {c:Int} {m:List Nat}:stepM S c m=[]↔m.foldl (moveM S c) []=[]:=by
 constructor
 .intro h
  cases hq:m.foldl (moveM S c) [] with
  | nil=>rfl
  | cons x r =>
    exfalso
    have:=(clM_spec (moveF_fit (c:=c) m [] (fit_nil S.length))).2.1 x (by rw [hq]; simp)
    have h:clM S (m.foldl (moveM S c) [])=[]:=h
    rw [h] at this
    cases this
 .intro h
  unfold stepM
  rw [h,clM_nil]
def dLg (g:Nat->Int) (L:Nat) (s:ByteArray):Nat->Nat->Nat->Int × Int × Bool->Int × Int × Bool
 | 0,_,_,st=>st
 | f+1,i,p,st =>
   if g (p*257+(byteAt s i).toNat)<0 then st else if (L:Int)<=g (p*257+(byteAt s i).toNat) then st else
    dLg g L s f (i+1) (g (p*257+(byteAt s i).toNat)).toNat (if g ((g (p*257+(byteAt s i).toNat)).toNat*257+256)≠0 then (IntKind.wrap .i64 (g ((g (p*257+(byteAt s i).toNat)).toNat*257+256)-1),IntKind.wrap .i64 ((i:Int)+1),true) else st)
def dLgR (g:Nat->Int) (L:Nat) (s:ByteArray):Int × Int × Bool:=if L=0 then (0,0,false) else dLg g L s s.size 0 0 (0,0,false)
structure RowsOk (S:List St) (keys:List (List Nat)) (g:Nat->Int):Prop where
 pos:0<keys.length
 beg:∀ K,keys[0]? = some K->SameS K (begM S)
 fin:∀ k K,keys[k]? = some K->g (k*257+256)=endM S K
 non:∀ k K (c:Nat),keys[k]? = some K->c<256->stepM S (c:Int) K=[]->g (k*257+c)<0
 nxt:∀ k K (c:Nat),keys[k]? = some K->c<256->stepM S (c:Int) K≠[]->∃ k' K',g (k*257+c)=((k':Nat):Int)/\keys[k']? = some K'/\SameS K' (stepM S (c:Int) K)
theorem dLg_nfa {S:List St} {keys:List (List Nat)} {g:Nat->Int} (h:RowsOk S keys g) (s:ByteArray):∀ (f i p:Nat) (K m:List Nat) (r:Int × Int × Bool),keys[p]? = some K->SameS K m->dLg g keys.length s f i p r=lgN S s f i m r
 | 0,i,p,K,m,r,hk,hs=>rfl
 | f+1,i,p,K,m,r,hk,hs=>by
   have hb:=byteAt_in s i
   have hc:(((byteAt s i).toNat:Nat):Int)=byteAt s i:=by omega
   have hlt:(byteAt s i).toNat<256:=by omega
   have hst:SameS (stepM S (byteAt s i) K) (stepM S (byteAt s i) m):=stepM_same hs
   rw [dLg,lgN]
   by_cases hz:stepM S (byteAt s i) K=[]
   .have:=h.non p K _ hk hlt (by rw [hc]; exact hz)
    rw [if_pos this,if_pos (hst.nil.1 hz)]
   .obtain ⟨k',K',q1,q2,q3⟩:=h.nxt p K _ hk hlt (by rw [hc]; exact hz)
    rw [hc] at q3
    have hkl:k'<keys.length:=by
     rcases Nat.lt_or_ge k' keys.length with u | u
     .exact u
     .rw [List.getElem?_eq_none u] at q2; cases q2
    have hn:stepM S (byteAt s i) m≠[]:=fun z=>hz (hst.nil.2 z)
    have e1:(((k':Nat):Int)).toNat=k':=by omega
    rw [q1,if_neg (by omega),if_neg (by omega),if_neg hn,e1,h.fin k' K' q2,endM_same (q3.trans hst)]
    exact dLg_nfa h s f (i+1) k' K' _ _ q2 (q3.trans hst)
theorem dLgR_nfa {S:List St} {keys:List (List Nat)} {g:Nat->Int} (h:RowsOk S keys g) (s:ByteArray):dLgR g keys.length s=nfaL S s:=by
 have hp:=h.pos
 unfold dLgR nfaL
 rw [if_neg (by omega)]
 have h0:keys[0]? = some keys[0]:=by simp [hp]
 exact dLg_nfa h s _ _ _ _ _ _ h0 (h.beg _ h0)
def bitB (x:Int) (k:Nat):Bool:=decide (andI .u8 (Int.fdiv x (2 ^ (min k (IntKind.bits .u8)))) 1=1)
def setB (x:Int) (k:Nat):Int:=orI .u8 x (IntKind.wrap .u8 (1*(2 ^ (min k (IntKind.bits .u8)))))
theorem bit_zero:∀ j:Fin 8,bitB 0 j.1=false:=by decide +kernel
theorem bit_set:∀ (k j:Fin 8) (x:Fin 256),0<=setB (x.1:Nat) k.1/\setB (x.1:Nat) k.1<=255/\bitB (setB (x.1:Nat) k.1) j.1=(bitB (x.1:Nat) j.1||j.1 == k.1):=by decide +kernel
theorem bit_sum:∀ x:Fin 256,((x.1:Nat):Int)=(List.range 8).foldl (fun a j=>a+if bitB (x.1:Nat) j then 2 ^ j else 0) 0:=by decide +kernel
theorem bit_ext {x y:Int} (hx:0<=x/\x<=255) (hy:0<=y/\y<=255) (h:∀ j,j<8->bitB x j=bitB y j):x=y:=by
 have h1:=bit_sum ⟨x.toNat,by omega⟩
 have h2:=bit_sum ⟨y.toNat,by omega⟩
 have e1:((x.toNat:Nat):Int)=x:=by omega
 have e2:((y.toNat:Nat):Int)=y:=by omega
 simp only [e1,e2] at h1 h2
 rw [h1,h2]
 have:(List.range 8)=[0,1,2,3,4,5,6,7]:=rfl
 rw [this]
 simp only [List.foldl,h 0 (by omega),h 1 (by omega),h 2 (by omega),h 3 (by omega),h 4 (by omega),h 5 (by omega),h 6 (by omega),h 7 (by omega)]
structure Bits (N:Nat) (bs:List Int) (m:List Nat):Prop where
 len:bs.length=N/8+1
 rng:∀ b∈bs,0<=b/\b<=255
 is:∀ (i j:Nat) (b:Int),bs[i]? = some b->j<8->(bitB b j=true↔i*8+j∈m)
theorem Bits.nil (N:Nat):Bits N (List.replicate (N/8+1) 0) []:=⟨by simp,fun b hb=>by rw [List.eq_of_mem_replicate hb]; omega,fun i j b hb hj=>by
 rw [List.getElem?_replicate] at hb
 split at hb
 .cases hb
  have:=bit_zero ⟨j,hj⟩
  simp only at this
  rw [this]
  simp
 .cases hb⟩
theorem Bits.add {N:Nat} {bs:List Int} {m:List Nat} (h:Bits N bs m) {x:Nat} (hx:x<N) {b:Int} (hb:bs[x/8]? = some b):Bits N (bs.set (x/8) (setB b (x%8))) (m++[x]):=by
 have hl:x/8<bs.length:=by rw [h.len]; omega
 have hbr:=h.rng b (List.mem_of_getElem? hb)
 have key:∀ j,j<8->0<=setB b (x%8)/\setB b (x%8)<=255/\bitB (setB b (x%8)) j=(bitB b j||j == x%8):=fun j hj=>by
  have:=bit_set ⟨x%8,by omega⟩ ⟨j,hj⟩ ⟨b.toNat,by omega⟩
  have e:((b.toNat:Nat):Int)=b:=by omega
  simp only [e] at this
  exact this
 refine ⟨by rw [List.length_set]; exact h.len,fun c hc=>?_,fun i j c hc hj=>?_⟩
 .rcases List.mem_or_eq_of_mem_set hc with z | z
  .exact h.rng c z
  .rw [z]; exact ⟨(key 0 (by omega)).1,(key 0 (by omega)).2.1⟩
 .by_cases hi:i=x/8
  .subst hi
   rw [List.getElem?_set_self hl] at hc
   cases hc
   rw [(key j hj).2.2,Bool.or_eq_true,h.is _ j b hb hj,List.mem_append,List.mem_singleton,beq_iff_eq]
   constructor
   .rintro (z | z)
    .exact .inl z
    .exact .inr (by omega)
   .rintro (z | z)
    .exact .inl z
    .exact .inr (by omega)
  .rw [List.getElem?_set_ne (fun z=>hi z.symm)] at hc
   rw [h.is i j c hc hj,List.mem_append,List.mem_singleton]
   constructor
   .exact .inl
   .rintro (z | z)
    .exact z
    .exfalso; exact hi (by omega)
theorem Bits.ext {N:Nat} {bs cs:List Int} {m n:List Nat} (h:Bits N bs m) (g:Bits N cs n) (hs:SameS m n):bs=cs:=by
 apply List.ext_getElem?
 intro i
 by_cases hi:i<bs.length
 .have hc:i<cs.length:=by rw [g.len,<- h.len]; exact hi
  rw [List.getElem?_eq_getElem hi,List.getElem?_eq_getElem hc]
  congr 1
  refine bit_ext (h.rng _ (List.getElem_mem hi)) (g.rng _ (List.getElem_mem hc)) fun j hj=>?_
  have h1:=h.is i j _ (List.getElem?_eq_getElem hi) hj
  have g1:=g.is i j _ (List.getElem?_eq_getElem hc) hj
  rw [Bool.eq_iff_iff,h1,g1]
  exact hs _
 .rw [List.getElem?_eq_none (by omega),List.getElem?_eq_none (by rw [g.len,<- h.len]; omega)]
theorem Bits.same {N:Nat} {bs:List Int} {m n:List Nat} (h:Bits N bs m) (g:Bits N bs n) (hm:∀ x∈m,x<N) (hn:∀ x∈n,x<N):SameS m n:=fun x=>by
 by_cases hx:x<N
 .have hi:x/8<bs.length:=by rw [h.len]; omega
  have e:x/8*8+x%8=x:=by omega
  have h1:=h.is (x/8) (x%8) _ (List.getElem?_eq_getElem hi) (by omega)
  have g1:=g.is (x/8) (x%8) _ (List.getElem?_eq_getElem hi) (by omega)
  rw [e] at h1 g1
  exact h1.symm.trans g1
 .exact ⟨fun z=>absurd (hm x z) hx,fun z=>absurd (hn x z) hx⟩
def membB:List Int->Nat->List Nat
 | [],_=>[]
 | b :: r,i=>((List.range 8).filter fun j=>bitB b j).map (fun j=>i*8+j)++membB r (i+1)
theorem memb_mem:∀ (bs:List Int) (i x:Nat),x∈membB bs i↔∃ k b,bs[k]? = some b/\x/8=i+k/\bitB b (x%8)=true
 | [],i,x=>by simp [membB]
 | b :: r,i,x=>by
   rw [membB,List.mem_append,memb_mem r (i+1) x,List.mem_map]
   constructor
   .rintro (⟨j,z1,z2⟩ | ⟨k,c,z1,z2,z3⟩)
    .have z1:=List.mem_filter.1 z1
     have hj:j<8:=List.mem_range.1 z1.1
     refine ⟨0,b,rfl,by omega,?_⟩
     have:x%8=j:=by omega
     rw [this]; exact z1.2
    .exact ⟨k+1,c,by simpa using z1,by omega,z3⟩
   .rintro ⟨k,c,z1,z2,z3⟩
    match k,z1 with
    | 0,z1 =>
      have:b=c:=by simpa using z1
      subst this
      exact .inl ⟨x%8,List.mem_filter.2 ⟨List.mem_range.2 (by omega),z3⟩,by omega⟩
    | k+1,z1=>exact .inr ⟨k,c,by simpa using z1,by omega,z3⟩
theorem Bits.memb {N:Nat} {bs:List Int} {m:List Nat} (h:Bits N bs m) (hm:∀ x∈m,x<N):SameS (membB bs 0) m:=fun x=>by
 rw [memb_mem]
 constructor
 .rintro ⟨k,b,z1,z2,z3⟩
  have:=(h.is k (x%8) b z1 (by omega)).1 z3
  have e:k*8+x%8=x:=by omega
  rwa [e] at this
 .intro z
  have hx:=hm x z
  have hi:x/8<bs.length:=by rw [h.len]; omega
  have e:x/8*8+x%8=x:=by omega
  exact ⟨x/8,bs[x/8],List.getElem?_eq_getElem hi,by omega,(h.is _ _ _ (List.getElem?_eq_getElem hi) (by omega)).2 (by rw [e]; exact z)⟩
end Go.Ew
set_option maxRecDepth 100000
namespace Go.Proofs.YtfhjkkbaghanhaaGreat
open Go.Ev Go.Ew
namespace Va
def W68 (P:Program):WE:=⟨env P,tupT,[],mkTab [(0,[.tmp 0 .slice,.tmp 1 .str,.tmp 4 (.int .i64),.tmp 5 (.int .i64),.tmp 6 .bool,.tmp 7 (.int .i64),.tmp 14 (.int .i64),.tmp 15 (.int .i64)])],68⟩
def vc68_L2 (y1:OA) (y2 y3:Nat) (y4:ByteArray) (y5:KH) (y6:PQ):Prop :=
 (∃ (k:(Nat->OA->Nat->Nat->ByteArray->Int->Int->Bool->Int->Int->Int->KH->Prop)),(∃ (v:Nat),k v y1 y2 y3 y4 0 0 false 0 (((ByteArray.size y4):Nat):Int) 0 y5)/\∀ (n:Nat) (f:(OA)) (d o:Nat) (e:ByteArray) (g h:Int) (i:Bool) (l j a:Int) (c:KH),k n f d o e g h i l j a c->(decide (a<j)=true->True/\((0:Int)<=a/\a<(((ByteArray.size e):Nat):Int))/\((0:Int)<=l/\l<(d:Int))/\∃ (p q:Nat),f=some ⟨p,q,none⟩/\(none:(Option Nat))=none/\((0:Int)<=(byteAt e (Int.toNat a))/\((byteAt e (Int.toNat a)):Int)<(256:Int))/\(none:(Option Nat))=none/\∃ (b:Int),ld c ⟨p,((q+((Int.toNat l)*257))+0)+((Int.toNat (byteAt e (Int.toNat a)))*1),none⟩ [(.int .i64 b)]/\(decide (b<0)=true->y6 (.tuple #[.int .i64 g,.int .i64 h,.bool i]) c)/\(decide (b<0)=false->(decide ((d:Int)<=b)=true->y6 (.tuple #[.int .i64 g,.int .i64 h,.bool i]) c)/\(decide ((d:Int)<=b)=false->((0:Int)<=b/\b<(d:Int))/\∃ (r s:Nat),f=some ⟨r,s,none⟩/\(none:(Option Nat))=none/\∃ (m:Int),ld c ⟨r,(s+((Int.toNat b)*257))+256,none⟩ [(.int .i64 m)]/\(decide (m≠0)=true->∃ (t:Nat),(t:Nat)<n/\k t f d o e (IntKind.wrap .i64 (m-1)) (IntKind.wrap .i64 (a+1)) true b j (IntKind.wrap .i64 (a+1)) c)/\(decide (m≠0)=false->∃ (u:Nat),(u:Nat)<n/\k u f d o e g h i b j (IntKind.wrap .i64 (a+1)) c))))/\(decide (a<j)=false->y6 (.tuple #[.int .i64 g,.int .i64 h,.bool i]) c))
def vc68 (p0:OA) (p0n p0c:Nat) (p1:ByteArray) (H:KH) (Q:PQ):Prop :=
 ((decide ((p0n:Int)=0)=true->Q (.tuple #[.int .i64 0,.int .i64 0,.bool false]) H)/\(decide ((p0n:Int)=0)=false->vc68_L2 p0 p0n p0c p1 H Q))
theorem fn68 (ok:EnvOk (env Tryz.prog)) {p0:OA} {p0n p0c:Nat} {p1:ByteArray} {H:KH} {Q:PQ} (h:vc68 p0 p0n p0c p1 H Q):Does (env Tryz.prog) 68 [.slice p0 p0n p0c,.string p1] H Q :=
 wFun_sound (W:=W68 Tryz.prog) ok.tt (blt_lt (by kernel_rfl)) (ff_of ok (by kernel_rfl) Tryz.func68) (Eq.mpr (by kernel_rfl) h)
def W49 (P:Program):WE:=⟨env P,tupT,[4],mkTab [(0,[.tmp 2 .ptr,.tmp 5 .slice,.tmp 6 (.int .i64),.tmp 7 (.int .i64)])],49⟩
def vc49_L2 (y1:Nat) (y2:OA) (y3 y4:Nat) (y5:KH) (y6:PQ):Prop :=
 (∃ (h:(Nat->Nat->Nat->OA->Nat->Nat->Int->Int->KH->Prop)),(∃ (v:Nat),(none:(Option Nat))=none/\h v y1 0 y2 y3 y4 (y3:Int) 0 (KH.new y5 y1 (mkEnt (List.replicate 256 (Value.bool false)) 0)))/\∀ (l a b:Nat) (i:(OA)) (j m:Nat) (g d:Int) (c:KH),h l a b i j m g d c->(decide (d<g)=true->((0:Int)<=d/\d<(j:Int))/\∃ (n o:Nat),i=some ⟨n,o,none⟩/\∃ (e f w:Int) (x:(OA)) (y z:Nat) (aa:Int),ld c ⟨n,o+((Int.toNat d)*5),none⟩ [.int .u8 e,.int .u8 f,.int .i64 w,.slice x y z,.int .i64 aa]/\((0:Int)<=e/\e<(256:Int))/\(none:(Option Nat))=none/\(∃ (p:(List Value)),((List.length p):Nat)=(List.length [(Value.bool true)])/\ld c ⟨a,b+((Int.toNat e)*1),none⟩ p)/\KH.may c a/\(decide (f<255)=true->((0:Int)<=(IntKind.wrap .u8 (f+1))/\((IntKind.wrap .u8 (f+1)):Int)<(256:Int))/\(none:(Option Nat))=none/\(∃ (q:(List Value)),((List.length q):Nat)=(List.length [(Value.bool true)])/\ld (KH.put c ⟨a,b+((Int.toNat e)*1),none⟩ [(.bool true)]) ⟨a,b+((Int.toNat (IntKind.wrap .u8 (f+1)))*1),none⟩ q)/\KH.may (KH.put c ⟨a,b+((Int.toNat e)*1),none⟩ [(.bool true)]) a/\∃ (r:Nat),(r:Nat)<l/\(none:(Option Nat))=none/\h r a b i j m g (IntKind.wrap .i64 (d+1)) (KH.put (KH.put c ⟨a,b+((Int.toNat e)*1),none⟩ [(.bool true)]) ⟨a,b+((Int.toNat (IntKind.wrap .u8 (f+1)))*1),none⟩ [(.bool true)]))/\(decide (f<255)=false->∃ (s:Nat),(s:Nat)<l/\(none:(Option Nat))=none/\h s a b i j m g (IntKind.wrap .i64 (d+1)) (KH.put c ⟨a,b+((Int.toNat e)*1),none⟩ [(.bool true)])))/\(decide (d<g)=false->∃ (k:(Nat->Bool)),ld c ⟨a,b,none⟩ ((boolsR 256 k)++[])/\(∃ (t:(List Value)),((List.length t):Nat)=(List.length (Array.toList (List.toArray (boolsR 256 k))))/\ld c ⟨a,b,none⟩ t)/\KH.may c a/\∃ (u:(Nat->Bool)),ld (KH.put c ⟨a,b,none⟩ (Array.toList (List.toArray (boolsR 256 k)))) ⟨a,b,none⟩ ((boolsR 256 u)++[])/\y6 (.agg (List.toArray (boolsR 256 u))) (KH.put c ⟨a,b,none⟩ (Array.toList (List.toArray (boolsR 256 k))))))
def vc49 (p0:OA) (p0n p0c:Nat) (H:KH) (Q:PQ):Prop :=
 (∀ (a:Nat),((H a):(Option (Ent)))=none->vc49_L2 a p0 p0n p0c H Q)
theorem fn49 (ok:EnvOk (env Tryz.prog)) {p0:OA} {p0n p0c:Nat} {H:KH} {Q:PQ} (h:vc49 p0 p0n p0c H Q):Does (env Tryz.prog) 49 [.slice p0 p0n p0c] H Q :=
 wFun_sound (W:=W49 Tryz.prog) ok.tt (blt_lt (by kernel_rfl)) (ff_of ok (by kernel_rfl) Tryz.func49) (Eq.mpr (by kernel_rfl) h)
def W51 (P:Program):WE:=⟨env P,tupT,[],mkTab [],51⟩
def vc51 (p0:Int) (H:KH) (Q:PQ):Prop :=
 ((8:Int)≠0/\((0:Int)<=(IntKind.wrap .i64 ((IntKind.wrap .i64 (Int.tdiv p0 8))+1))/\((IntKind.wrap .i64 ((IntKind.wrap .i64 (Int.tdiv p0 8))+1)):Int)<=(IntKind.wrap .i64 ((IntKind.wrap .i64 (Int.tdiv p0 8))+1))/\((IntKind.wrap .i64 ((IntKind.wrap .i64 (Int.tdiv p0 8))+1)):Int)<=1000000)/\∀ (a:Nat),((H a):(Option (Ent)))=none->∀ (b:Nat),(((KH.new H a (mkEnt (lrep [(.int .u8 0)] (Int.toNat (IntKind.wrap .i64 ((IntKind.wrap .i64 (Int.tdiv p0 8))+1)))) 0)) b):(Option (Ent)))=none->Q (.pointer (some ⟨b,0,none⟩)) (KH.new (KH.new H a (mkEnt (lrep [(.int .u8 0)] (Int.toNat (IntKind.wrap .i64 ((IntKind.wrap .i64 (Int.tdiv p0 8))+1)))) 0)) b (mkEnt (Array.toList #[Value.int .i64 p0,.slice (some ⟨a,0,none⟩) (Int.toNat (IntKind.wrap .i64 ((IntKind.wrap .i64 (Int.tdiv p0 8))+1))) (Int.toNat (IntKind.wrap .i64 ((IntKind.wrap .i64 (Int.tdiv p0 8))+1))),.slice none 0 0]) 0)))
theorem fn51 (ok:EnvOk (env Tryz.prog)) {p0:Int} {H:KH} {Q:PQ} (h:vc51 p0 H Q):Does (env Tryz.prog) 51 [.int .i64 p0] H Q :=
 wFun_sound (W:=W51 Tryz.prog) ok.tt (blt_lt (by kernel_rfl)) (ff_of ok (by kernel_rfl) Tryz.func51) (Eq.mpr (by kernel_rfl) h)
def W52 (P:Program):WE:=⟨env P,tupT,[],mkTab [],52⟩
def vc52 (p0b p0o:Nat) (p1:Int) (H:KH) (Q:PQ):Prop :=
 ((decide (p1<0)=true->Q (.tuple #[]) H)/\(decide (p1<0)=false->(none:(Option Nat))=none/\∃ (g:Int),ld H ⟨p0b,p0o+0,none⟩ [(.int .i64 g)]/\(decide (g<=p1)=true->Q (.tuple #[]) H)/\(decide (g<=p1)=false->Does (env Tryz.prog) 73 [.pointer (some ⟨p0b,p0o,none⟩),.int .i64 p1] H fun y a=>∃ (h:Bool),y=(.bool h)/\(h=true->Q (.tuple #[]) a)/\(h=false->True/\(none:(Option Nat))=none/\∃ (i:(OA)) (j x:Nat),ld a ⟨p0b,p0o+1,none⟩ [(.slice i j x)]/\(8:Int)≠0/\((0:Int)<=(IntKind.wrap .i64 (Int.tdiv p1 8))/\((IntKind.wrap .i64 (Int.tdiv p1 8)):Int)<(j:Int))/\∃ (n o:Nat),i=some ⟨n,o,none⟩/\∃ (c:Int),ld a ⟨n,o+((Int.toNat (IntKind.wrap .i64 (Int.tdiv p1 8)))*1),none⟩ [(.int .u8 c)]/\(8:Int)≠0/\(0:Int)<=(Int.tmod p1 8)/\((0:Int)<=(IntKind.wrap .i64 (Int.tdiv p1 8))/\((IntKind.wrap .i64 (Int.tdiv p1 8)):Int)<(j:Int))/\∃ (b d:Nat),i=some ⟨b,d,none⟩/\(∃ (p:(List Value)),((List.length p):Nat)=(List.length [(Value.int .u8 (orI .u8 c (IntKind.wrap .u8 (1*(2 ^ (min (Int.toNat (Int.tmod p1 8)) (IntKind.bits .u8)))))))])/\ld a ⟨b,d+((Int.toNat (IntKind.wrap .i64 (Int.tdiv p1 8)))*1),none⟩ p)/\KH.may a b/\True/\(none:(Option Nat))=none/\∃ (q:(OA)) (r s:Nat),ld (KH.put a ⟨b,d+((Int.toNat (IntKind.wrap .i64 (Int.tdiv p1 8)))*1),none⟩ [(.int .u8 (orI .u8 c (IntKind.wrap .u8 (1*(2 ^ (min (Int.toNat (Int.tmod p1 8)) (IntKind.bits .u8)))))))]) ⟨p0b,p0o+2,none⟩ [(.slice q r s)]/\∀ (e:Nat),(((KH.put a ⟨b,d+((Int.toNat (IntKind.wrap .i64 (Int.tdiv p1 8)))*1),none⟩ [(.int .u8 (orI .u8 c (IntKind.wrap .u8 (1*(2 ^ (min (Int.toNat (Int.tmod p1 8)) (IntKind.bits .u8)))))))]) e):(Option (Ent)))=none->∀ (t:Nat),(((KH.new (KH.put a ⟨b,d+((Int.toNat (IntKind.wrap .i64 (Int.tdiv p1 8)))*1),none⟩ [(.int .u8 (orI .u8 c (IntKind.wrap .u8 (1*(2 ^ (min (Int.toNat (Int.tmod p1 8)) (IntKind.bits .u8)))))))]) e (mkEnt [(.int .i64 p1)] 0)) t):(Option (Ent)))=none->∃ (u:Nat) (v:(List Value)),((knew (KH.new (KH.put a ⟨b,d+((Int.toNat (IntKind.wrap .i64 (Int.tdiv p1 8)))*1),none⟩ [(.int .u8 (orI .u8 c (IntKind.wrap .u8 (1*(2 ^ (min (Int.toNat (Int.tmod p1 8)) (IntKind.bits .u8)))))))]) e (mkEnt [(.int .i64 p1)] 0)) ⟨1,8,false,5,0,0,[],[(.int .i64 0)]⟩ (.slice (some ⟨e,0,none⟩) 1 1)):(Option (Nat × (List Value))))=(some (u,v))/\∃ (k:(OA)) (l m:Nat) (f:KH),((kappend (KH.new (KH.put a ⟨b,d+((Int.toNat (IntKind.wrap .i64 (Int.tdiv p1 8)))*1),none⟩ [(.int .u8 (orI .u8 c (IntKind.wrap .u8 (1*(2 ^ (min (Int.toNat (Int.tmod p1 8)) (IntKind.bits .u8)))))))]) e (mkEnt [(.int .i64 p1)] 0)) t ⟨1,8,false,5,0,0,[],[(.int .i64 0)]⟩ q r s u v):(Option (Value × KH)))=(some (.slice k l m,f))/\(none:(Option Nat))=none/\(∃ (w:(List Value)),((List.length w):Nat)=(List.length [(Value.slice k l m)])/\ld f ⟨p0b,p0o+2,none⟩ w)/\KH.may f p0b/\Q (.tuple #[]) (KH.put f ⟨p0b,p0o+2,none⟩ [(.slice k l m)])))))
theorem fn52 (ok:EnvOk (env Tryz.prog)) {p0b p0o:Nat} {p1:Int} {H:KH} {Q:PQ} (h:vc52 p0b p0o p1 H Q):Does (env Tryz.prog) 52 [.pointer (some ⟨p0b,p0o,none⟩),.int .i64 p1] H Q :=
 wFun_sound (W:=W52 Tryz.prog) ok.tt (blt_lt (by kernel_rfl)) (ff_of ok (by kernel_rfl) Tryz.func52) (Eq.mpr (by kernel_rfl) h)
def W54 (P:Program):WE:=⟨env P,tupT,[1],mkTab [(2,[.ref 1 1 0,.box 1 [.string ⟨#[]⟩],.tmp 2 .slice,.tmp 3 (.int .i64),.tmp 7 (.int .i64),.tmp 8 (.int .i64),.tmp 11 (.int .i64)]),(0,[.ref 1 1 0,.box 1 [.string ⟨#[]⟩],.tmp 2 .slice,.tmp 7 (.int .i64),.tmp 8 (.int .i64)])],54⟩
def vc54_L1 (y1:ByteArray) (y2:OA) (y3 y4:Nat) (y5 y6:Int) (y7:KH) (y8:Nat) (y9:(Nat->(ByteArray->(OA->(Nat->(Nat->(Int->(Int->(KH->Prop))))))))):Prop :=
 (∃ (f:(Nat->ByteArray->OA->Nat->Nat->Int->Int->Int->Int->KH->Prop)),(∃ (w:Nat),f w y1 y2 y3 y4 y5 y6 y5 0 y7)/\∀ (l:Nat) (c:ByteArray) (g:(OA)) (h i:Nat) (b j k a:Int) (d:KH),f l c g h i b j k a d->(decide (a<8)=true->((0:Int)<=b/\b<(((ByteArray.size c):Nat):Int))/\(0:Int)<=a/\(((decide (((andI .u8 (Int.fdiv (byteAt c (Int.toNat b)) (2 ^ (min (Int.toNat a) (IntKind.bits .u8)))) 1):Int)=1)):Bool)=true->∀ (e:Nat),((d e):(Option (Ent)))=none->∀ (m:Nat),(((KH.new d e (mkEnt [(.int .i64 (IntKind.wrap .i64 ((IntKind.wrap .i64 (b*8))+a)))] 0)) m):(Option (Ent)))=none->∃ (n:Nat) (o:(List Value)),((knew (KH.new d e (mkEnt [(.int .i64 (IntKind.wrap .i64 ((IntKind.wrap .i64 (b*8))+a)))] 0)) ⟨1,8,false,5,0,0,[],[(.int .i64 0)]⟩ (.slice (some ⟨e,0,none⟩) 1 1)):(Option (Nat × (List Value))))=(some (n,o))/\∃ (p:(OA)) (q r:Nat) (s:KH),((kappend (KH.new d e (mkEnt [(.int .i64 (IntKind.wrap .i64 ((IntKind.wrap .i64 (b*8))+a)))] 0)) m ⟨1,8,false,5,0,0,[],[(.int .i64 0)]⟩ g h i n o):(Option (Value × KH)))=(some (.slice p q r,s))/\∃ (t:Nat),(t:Nat)<l/\f t c p q r b j k (IntKind.wrap .i64 (a+1)) s)/\(((decide (((andI .u8 (Int.fdiv (byteAt c (Int.toNat b)) (2 ^ (min (Int.toNat a) (IntKind.bits .u8)))) 1):Int)=1)):Bool)=false->∃ (u:Nat),(u:Nat)<l/\f u c g h i b j k (IntKind.wrap .i64 (a+1)) d))/\(decide (a<8)=false->∃ (v:Nat),(v:Nat)<y8/\y9 v c g h i j (IntKind.wrap .i64 (k+1)) d))
def vc54_L2 (y1:ByteArray) (y2:KH) (y3:PQ):Prop :=
 (∃ (c:(Nat->ByteArray->OA->Nat->Nat->Int->Int->KH->Prop)),(∃ (j:Nat),c j y1 none 0 0 (((ByteArray.size y1):Nat):Int) 0 y2)/\∀ (h:Nat) (i:ByteArray) (d:(OA)) (e f:Nat) (a b:Int) (g:KH),c h i d e f a b g->(decide (b<a)=true->vc54_L1 i d e f b a g h c)/\(decide (b<a)=false->y3 (.slice d e f) g))
def vc54 (p0_0:ByteArray) (H:KH) (Q:PQ):Prop :=
 (vc54_L2 p0_0 H Q)
theorem fn54 (ok:EnvOk (env Tryz.prog)) {p0_0:ByteArray} {H:KH} {Q:PQ} (h:vc54 p0_0 H Q):Does (env Tryz.prog) 54 [.agg #[.string p0_0]] H Q :=
 wFun_sound (W:=W54 Tryz.prog) ok.tt (blt_lt (by kernel_rfl)) (ff_of ok (by kernel_rfl) Tryz.func54) (Eq.mpr (by kernel_rfl) h)
def W55 (P:Program):WE:=⟨env P,tupT,[],mkTab [(0,[.tmp 0 .ptr,.tmp 5 (.int .i64),.tmp 9 .slice,.tmp 10 (.int .i64),.tmp 11 (.int .i64)])],55⟩
def vc55_L1 (y1 y2:Nat) (y3:OA) (y4 y5:Nat) (y6:KH) (y7:PQ):Prop :=
 (∃ (f:(Nat->Nat->Nat->Int->OA->Nat->Nat->Int->Int->KH->Prop)),(∃ (x:Nat),(none:(Option Nat))=none/\f x y1 y2 0 y3 y4 y5 (y4:Int) 0 y6)/\∀ (k g h:Nat) (c:Int) (i:(OA)) (j l:Nat) (d a:Int) (b:KH),f k g h c i j l d a b->(decide (a<d)=true->((0:Int)<=a/\a<(j:Int))/\∃ (n o:Nat),i=some ⟨n,o,none⟩/\∃ (m:Int),ld b ⟨n,o+((Int.toNat a)*1),none⟩ [(.int .i64 m)]/\(none:(Option Nat))=none/\∃ (p:(OA)) (q y:Nat),ld b ⟨g,h+0,none⟩ [(.slice p q y)]/\((0:Int)<=m/\m<(q:Int))/\∃ (r s:Nat),p=some ⟨r,s,none⟩/\(none:(Option Nat))=none/\∃ (e:Int),ld b ⟨r,(s+((Int.toNat m)*5))+4,none⟩ [(.int .i64 e)]/\(decide (e≠0)=true->(decide (c=0)=true->∃ (t:Nat),(t:Nat)<k/\(none:(Option Nat))=none/\f t g h e i j l d (IntKind.wrap .i64 (a+1)) b)/\(decide (c=0)=false->(decide (e<c)=true->∃ (u:Nat),(u:Nat)<k/\(none:(Option Nat))=none/\f u g h e i j l d (IntKind.wrap .i64 (a+1)) b)/\(decide (e<c)=false->∃ (v:Nat),(v:Nat)<k/\(none:(Option Nat))=none/\f v g h c i j l d (IntKind.wrap .i64 (a+1)) b)))/\(decide (e≠0)=false->∃ (w:Nat),(w:Nat)<k/\(none:(Option Nat))=none/\f w g h c i j l d (IntKind.wrap .i64 (a+1)) b))/\(decide (a<d)=false->y7 (.int .i64 c) b))
def vc55 (p0b p0o:Nat) (p1:OA) (p1n p1c:Nat) (H:KH) (Q:PQ):Prop :=
 (vc55_L1 p0b p0o p1 p1n p1c H Q)
theorem fn55 (ok:EnvOk (env Tryz.prog)) {p0b p0o:Nat} {p1:OA} {p1n p1c:Nat} {H:KH} {Q:PQ} (h:vc55 p0b p0o p1 p1n p1c H Q):Does (env Tryz.prog) 55 [.pointer (some ⟨p0b,p0o,none⟩),.slice p1 p1n p1c] H Q :=
 wFun_sound (W:=W55 Tryz.prog) ok.tt (blt_lt (by kernel_rfl)) (ff_of ok (by kernel_rfl) Tryz.func55) (Eq.mpr (by kernel_rfl) h)
def W56 (P:Program):WE:=⟨env P,tupT,[10],mkTab [(0,[.tmp 0 .ptr,.tmp 2 (.int .u8),.tmp 7 .ptr,.tmp 17 .slice,.tmp 18 (.int .i64),.tmp 19 (.int .i64)])],56⟩
def vc56_L1 (y1 y2:Nat) (y3:Int) (y4 y5:Nat) (y6:OA) (y7 y8:Nat) (y9:KH) (y10:PQ):Prop :=
 (∃ (g:(Nat->Nat->Nat->Int->Nat->Nat->OA->Nat->Nat->Int->Int->KH->Prop)),(∃ (aa:Nat),(none:(Option Nat))=none/\(none:(Option Nat))=none/\g aa y1 y2 y3 y4 y5 y6 y7 y8 (y7:Int) 0 y9)/\∀ (l h i:Nat) (b:Int) (d e:Nat) (j:(OA)) (k m:Nat) (f a:Int) (c:KH),g l h i b d e j k m f a c->(decide (a<f)=true->((0:Int)<=a/\a<(k:Int))/\∃ (q r:Nat),j=some ⟨q,r,none⟩/\∃ (n:Int),ld c ⟨q,r+((Int.toNat a)*1),none⟩ [(.int .i64 n)]/\(none:(Option Nat))=none/\∃ (s:(OA)) (t ab:Nat),ld c ⟨h,i+0,none⟩ [(.slice s t ab)]/\((0:Int)<=n/\n<(t:Int))/\∃ (u v:Nat),s=some ⟨u,v,none⟩/\∃ (o p w:Int) (ac:(OA)) (ad ae:Nat) (af:Int),ld c ⟨u,v+((Int.toNat n)*5),none⟩ [.int .u8 o,.int .u8 p,.int .i64 w,.slice ac ad ae,.int .i64 af]/\(decide (o<=b)=true->(decide (b<=p)=true->Does (env Tryz.prog) 52 [.pointer (some ⟨d,e,none⟩),.int .i64 w] c fun ag ah=>ag=(.tuple #[])/\∃ (x:Nat),(x:Nat)<l/\(none:(Option Nat))=none/\(none:(Option Nat))=none/\g x h i b d e j k m f (IntKind.wrap .i64 (a+1)) ah)/\(decide (b<=p)=false->∃ (y:Nat),(y:Nat)<l/\(none:(Option Nat))=none/\(none:(Option Nat))=none/\g y h i b d e j k m f (IntKind.wrap .i64 (a+1)) c))/\(decide (o<=b)=false->∃ (z:Nat),(z:Nat)<l/\(none:(Option Nat))=none/\(none:(Option Nat))=none/\g z h i b d e j k m f (IntKind.wrap .i64 (a+1)) c))/\(decide (a<f)=false->y10 (.pointer (some ⟨d,e,none⟩)) c))
def vc56 (p0b p0o:Nat) (p1:OA) (p1n p1c:Nat) (p2:Int) (H:KH) (Q:PQ):Prop :=
 ((none:(Option Nat))=none/\∃ (d:(OA)) (a e:Nat),ld H ⟨p0b,p0o+0,none⟩ [(.slice d a e)]/\Does (env Tryz.prog) 51 [(.int .i64 (a:Int))] H fun f g=>∃ (b c:Nat),f=(.pointer (some ⟨b,c,none⟩))/\vc56_L1 p0b p0o p2 b c p1 p1n p1c g Q)
theorem fn56 (ok:EnvOk (env Tryz.prog)) {p0b p0o:Nat} {p1:OA} {p1n p1c:Nat} {p2:Int} {H:KH} {Q:PQ} (h:vc56 p0b p0o p1 p1n p1c p2 H Q):Does (env Tryz.prog) 56 [.pointer (some ⟨p0b,p0o,none⟩),.slice p1 p1n p1c,.int .u8 p2] H Q :=
 wFun_sound (W:=W56 Tryz.prog) ok.tt (blt_lt (by kernel_rfl)) (ff_of ok (by kernel_rfl) Tryz.func56) (Eq.mpr (by kernel_rfl) h)
def W73 (P:Program):WE:=⟨env P,tupT,[],mkTab [],73⟩
def vc73 (p0b p0o:Nat) (p1:Int) (H:KH) (Q:PQ):Prop :=
 ((none:(Option Nat))=none/\∃ (a:(OA)) (b f:Nat),ld H ⟨p0b,p0o+1,none⟩ [(.slice a b f)]/\(8:Int)≠0/\((0:Int)<=(IntKind.wrap .i64 (Int.tdiv p1 8))/\((IntKind.wrap .i64 (Int.tdiv p1 8)):Int)<(b:Int))/\∃ (c d:Nat),a=some ⟨c,d,none⟩/\∃ (e:Int),ld H ⟨c,d+((Int.toNat (IntKind.wrap .i64 (Int.tdiv p1 8)))*1),none⟩ [(.int .u8 e)]/\(8:Int)≠0/\(0:Int)<=(Int.tmod p1 8)/\Q (.bool (decide (((andI .u8 (Int.fdiv e (2 ^ (min (Int.toNat (Int.tmod p1 8)) (IntKind.bits .u8)))) 1):Int)=1))) H)
theorem fn73 (ok:EnvOk (env Tryz.prog)) {p0b p0o:Nat} {p1:Int} {H:KH} {Q:PQ} (h:vc73 p0b p0o p1 H Q):Does (env Tryz.prog) 73 [.pointer (some ⟨p0b,p0o,none⟩),.int .i64 p1] H Q :=
 wFun_sound (W:=W73 Tryz.prog) ok.tt (blt_lt (by kernel_rfl)) (ff_of ok (by kernel_rfl) Tryz.func73) (Eq.mpr (by kernel_rfl) h)
def W74 (P:Program):WE:=⟨env P,tupT,[],mkTab [(2,[.tmp 0 .ptr,.tmp 1 .ptr,.tmp 4 (.int .i64),.tmp 29 .slice,.tmp 30 (.int .i64),.tmp 31 (.int .i64)]),(0,[.tmp 0 .ptr,.tmp 1 .ptr,.tmp 4 (.int .i64)])],74⟩
def vc74_L1 (y1 y2 y3 y4:Nat) (y5:Int) (y6:OA) (y7 y8:Nat) (y9:KH) (y10:Nat) (y11:(Nat->(Nat->(Nat->(Nat->(Nat->(Int->(KH->Prop)))))))):Prop :=
 (∃ (f:(Nat->Nat->Nat->Nat->Nat->Int->OA->Nat->Nat->Int->Int->KH->Prop)),(∃ (s:Nat),(none:(Option Nat))=none/\(none:(Option Nat))=none/\f s y1 y2 y3 y4 y5 y6 y7 y8 (y7:Int) 0 y9)/\∀ (l g h b c:Nat) (i:Int) (j:(OA)) (k m:Nat) (d a:Int) (e:KH),f l g h b c i j k m d a e->(decide (a<d)=true->((0:Int)<=a/\a<(k:Int))/\∃ (n o:Nat),j=some ⟨n,o,none⟩/\∃ (p:Int),ld e ⟨n,o+((Int.toNat a)*1),none⟩ [(.int .i64 p)]/\Does (env Tryz.prog) 52 [.pointer (some ⟨b,c,none⟩),.int .i64 p] e fun t u=>t=(.tuple #[])/\∃ (q:Nat),(q:Nat)<l/\(none:(Option Nat))=none/\(none:(Option Nat))=none/\f q g h b c i j k m d (IntKind.wrap .i64 (a+1)) u)/\(decide (a<d)=false->∃ (r:Nat),(r:Nat)<y10/\(none:(Option Nat))=none/\(none:(Option Nat))=none/\y11 r g h b c (IntKind.wrap .i64 (i+1)) e))
def vc74_L3 (y1 y2 y3 y4:Nat) (y5:KH) (y6:PQ):Prop :=
 (∃ (f:(Nat->Nat->Nat->Nat->Nat->Int->KH->Prop)),(∃ (v:Nat),(none:(Option Nat))=none/\(none:(Option Nat))=none/\f v y1 y2 y3 y4 0 y5)/\∀ (j g h c d:Nat) (b:Int) (a:KH),f j g h c d b a->(none:(Option Nat))=none/\∃ (w:(OA)) (i x:Nat),ld a ⟨c,d+2,none⟩ [(.slice w i x)]/\(decide (b<(i:Int))=true->True/\(none:(Option Nat))=none/\∃ (k:(OA)) (l y:Nat),ld a ⟨g,h+0,none⟩ [(.slice k l y)]/\(none:(Option Nat))=none/\∃ (m:(OA)) (n z:Nat),ld a ⟨c,d+2,none⟩ [(.slice m n z)]/\((0:Int)<=b/\b<(n:Int))/\∃ (o p:Nat),m=some ⟨o,p,none⟩/\∃ (e:Int),ld a ⟨o,p+((Int.toNat b)*1),none⟩ [(.int .i64 e)]/\((0:Int)<=e/\e<(l:Int))/\∃ (q r:Nat),k=some ⟨q,r,none⟩/\(none:(Option Nat))=none/\∃ (s:(OA)) (t u:Nat),ld a ⟨q,(r+((Int.toNat e)*5))+3,none⟩ [(.slice s t u)]/\vc74_L1 g h c d b s t u a j f)/\(decide (b<(i:Int))=false->y6 (.tuple #[]) a))
def vc74 (p0b p0o p1b p1o:Nat) (H:KH) (Q:PQ):Prop :=
 (vc74_L3 p0b p0o p1b p1o H Q)
theorem fn74 (ok:EnvOk (env Tryz.prog)) {p0b p0o p1b p1o:Nat} {H:KH} {Q:PQ} (h:vc74 p0b p0o p1b p1o H Q):Does (env Tryz.prog) 74 [.pointer (some ⟨p0b,p0o,none⟩),.pointer (some ⟨p1b,p1o,none⟩)] H Q :=
 wFun_sound (W:=W74 Tryz.prog) ok.tt (blt_lt (by kernel_rfl)) (ff_of ok (by kernel_rfl) Tryz.func74) (Eq.mpr (by kernel_rfl) h)
def W76 (P:Program):WE:=⟨env P,tupT,[2],mkTab [],76⟩
def vc76 (p0b p0o:Nat) (H:KH) (Q:PQ):Prop :=
 ((none:(Option Nat))=none/\∃ (a:(OA)) (b e:Nat),ld H ⟨p0b,p0o+1,none⟩ [(.slice a b e)]/\∃ (c:(List Value)) (d:(List (UInt8))),((kold H 1 a b):(Option (List Value)))=(some c)/\((bytesOfCells c):(Option (List (UInt8))))=(some d)/\Q (.agg #[(.string (ByteArray.mk (List.toArray d)))]) H)
theorem fn76 (ok:EnvOk (env Tryz.prog)) {p0b p0o:Nat} {H:KH} {Q:PQ} (h:vc76 p0b p0o H Q):Does (env Tryz.prog) 76 [.pointer (some ⟨p0b,p0o,none⟩)] H Q :=
 wFun_sound (W:=W76 Tryz.prog) ok.tt (blt_lt (by kernel_rfl)) (ff_of ok (by kernel_rfl) Tryz.func76) (Eq.mpr (by kernel_rfl) h)
end Va
end Go.Proofs.YtfhjkkbaghanhaaGreat
