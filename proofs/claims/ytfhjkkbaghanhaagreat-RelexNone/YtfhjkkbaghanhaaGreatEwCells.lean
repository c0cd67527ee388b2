import Derived.Test.YtfhjkkbaghanhaaGreatEwVal
set_option linter.unusedVariables false
set_option linter.unusedSimpArgs false
namespace Go.Ew
open Go.Ev Go.Deep
def RC (H:KH):List V→List Value→Prop
 | [],cs=>cs=[]
 | v :: l,cs=>∃ c1 c2,cs=c1++c2∧RV H v c1∧RC H l c2
theorem RV.len {H:KH} {v:V} {cs:List Value} (h:RV H v cs):cs.length=4:=by
 obtain ⟨k,i,s,l⟩:=v
 obtain ⟨a,n,c,rfl,_⟩:=h
 rfl
theorem RC.mono {H H':KH} (h:Le H H'):∀ {l:List V} {cs:List Value},RC H l cs→RC H' l cs
 | [],_,q=>q
 | v :: l,_,⟨c1,c2,e,q1,q2⟩=>⟨c1,c2,e,q1.mono h,RC.mono h q2⟩
theorem RC.len {H:KH}:∀ {l:List V} {cs:List Value},RC H l cs→cs.length=l.length*4
 | [],_,q=>by cases q; rfl
 | v :: l,_,⟨c1,c2,e,q1,q2⟩=>by subst e; have:=RC.len q2; have:=q1.len; simp only [List.length_append,List.length_cons]; omega
theorem RC.append {H:KH}:∀ {l m:List V} {cs ds:List Value},RC H l cs→RC H m ds→RC H (l++m) (cs++ds)
 | [],_,_,_,q,r=>by cases q; exact r
 | v :: l,_,_,_,⟨c1,c2,e,q1,q2⟩,r=>by subst e; exact ⟨c1,c2++_,by rw [List.append_assoc],q1,RC.append q2 r⟩
theorem RC.one {H:KH} {v:V} {cs:List Value} (h:RV H v cs):RC H [v] cs:=⟨cs,[],by simp,h,rfl⟩
theorem RC.cut {H:KH}:∀ {l:List V} {cs:List Value} (k:Nat),RC H l cs→RC H (l.take k) (cs.take (k*4))∧RC H (l.drop k) (cs.drop (k*4))
 | [],_,k,q=>by cases q; simp [RC]
 | v :: l,_,0,q=>by simpa [RC] using q
 | v :: l,_,k+1,⟨c1,c2,e,q1,q2⟩=>by
   subst e
   have ih:=RC.cut k q2
   have h4:=q1.len
   have e1:(k+1)*4=c1.length+k*4:=by rw [h4]; omega
   rw [e1,List.take_append,List.drop_append]
   have e2:c1.length+k*4-c1.length=k*4:=by omega
   rw [e2,List.take_of_length_le (l:=c1) (by omega),List.drop_eq_nil_of_le (as:=c1) (by omega),List.nil_append]
   exact ⟨⟨c1,_,rfl,q1,ih.1⟩,ih.2⟩
theorem RS.cells {H:KH}:∀ {l:List V} {a:OA},RS H l a→∃ cs,kold H 4 a l.length=some cs∧RC H l cs
 | [],a,q=>⟨[],q,rfl⟩
 | v :: l,a,⟨b,o,h1,⟨c1,h2,h3⟩,h4⟩=>by
   obtain ⟨c2,q1,q2⟩:=RS.cells h4
   subst h1
   obtain ⟨e,he,hr⟩:=kold_some.1 q1
   obtain ⟨_,e',he',hr'⟩:=h2
   simp only at he' hr'
   rw [he] at he'
   cases he'
   rw [h3.len] at hr'
   refine ⟨c1++c2,kold_some.2 ⟨e,he,?_⟩,c1,c2,rfl,h3,q2⟩
   have:=rd_append 4 (l.length*4) o c1 c2 hr' hr
   rw [List.length_cons,show (l.length+1)*4=4+l.length*4 by omega]
   exact this
theorem Le.kslice {H H':KH} (h:Le H H') {sz n c:Nat} {a:OA} {lo hi:Option Value} {v:Value} (q:kslice H sz a n c lo hi=some v):kslice H' sz a n c lo hi=some v:=by
 unfold Ew.kslice at q ⊢
 cases a with
 | none=>exact q
 | some b =>
   simp only at q ⊢
   cases hsn:b.spot.isNone with
   | false=>rw [hsn] at q; exact q
   | true =>
   rw [hsn,cond_true] at q
   rw [cond_true]
   cases hk:Ew.kcap H b c sz with
   | some x=>rw [hk] at q; rw [h.kcap hk]; exact q
   | none=>rw [hk] at q; split at q<;>simp_all
theorem Own.mono {H0 H H':KH} (h:Le H H') {sz n c:Nat} {a:OA} {cs:List Value} (q:Own H0 H sz a n c cs):Own H0 H' sz a n c cs:=by
 cases q with
 | nil=>exact .nil
 | lit b _ _ h1 h2 h3 h4=>exact .lit b n cs (h _ _ h1) h2 h3 h4
 | grown b _ _ e h1 h2 h3 h4 h5 h6=>exact .grown b n cs e (h _ _ h1) h2 h3 h4 h5 h6
theorem Own.of_lit {H:KH} {b sz n:Nat} {cs:List Value} (hb:H b=none) (h2:cs.length=n*sz) (h3:n<unkU):Own H (H.new b (mkEnt cs 0)) sz (some ⟨b,0,none⟩) n n cs :=
 .lit b n cs (by simp [KH.new]) h2 h3 hb
theorem knew_of {H:KH} {ti:TI} {a:OA} {n c:Nat} {cs:List Value} (h:kold H ti.size a n=some cs):knew H ti (.slice a n c)=some (n,cs):=by
 cases a with
 | none =>
   unfold kold at h
   unfold knew
   cases hn:Nat.beq n 0<;>simp [hn] at h ⊢
   subst h
   exact ⟨(Nat.eq_of_beq_eq_true hn).symm,rfl⟩
 | some b=>unfold knew; simp only [h,ob]
theorem mk_rd {cs:List Value} {u:Nat}:rd (mkEnt cs u).cells 0 cs.length=some cs:=rd_some rfl fun j v hv=>by rw [Nat.zero_add]; simp only [mkEnt,tget_wr_nil]; exact hv
end Go.Ew
