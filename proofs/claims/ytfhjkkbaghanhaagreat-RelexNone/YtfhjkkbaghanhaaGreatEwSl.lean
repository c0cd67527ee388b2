import Derived.Test.YtfhjkkbaghanhaaGreatEwLib
set_option linter.unusedVariables false
set_option linter.unusedSimpArgs false
namespace Go.Ew
open Go.Ev Go.Deep
def Le (H H':KH):Prop:=∀ k e,H k=some e→H' k=some e
theorem Le.refl (H:KH):Le H H:=fun _ _ q=>q
theorem Le.trans {H H' H'':KH} (a:Le H H') (b:Le H' H''):Le H H'':=fun k e q=>b k e (a k e q)
theorem Le.new {H:KH} {n:Nat} {e:Ent} (h:H n=none):Le H (H.new n e):=fun k e' q=>by
 simp only [KH.new]
 rw [if_neg (fun e1=>by subst e1; rw [h] at q; cases q)]
 exact q
theorem Le.ld {H H':KH} (h:Le H H') {a:Addr} {vs:List Value} (q:ld H a vs):ld H' a vs:=by
 obtain ⟨h1,e,h2,h3⟩:=q
 exact ⟨h1,e,h _ _ h2,h3⟩
theorem Le.none {H H':KH} (h:Le H H') {n:Nat} (q:H' n=none):H n=none:=by
 cases hk:H n with
 | none=>rfl
 | some e=>rw [h _ _ hk] at q; cases q
theorem Le.load {H H':KH} (h:Le H H') {a:Addr} {n:Nat} {cs:List Value} (q:H.load a n=some cs):H'.load a n=some cs:=by
 unfold KH.load at q ⊢
 split at q
 ·rename_i e h1 h2
  simp only [h1,h _ _ h2]
  exact q
 ·cases q
theorem Le.kold {H H':KH} (h:Le H H') {sz n:Nat} {a:OA} {cs:List Value} (q:kold H sz a n=some cs):kold H' sz a n=some cs:=by
 unfold Ew.kold at q ⊢
 cases a with
 | none=>exact q
 | some a =>
   simp only at q ⊢
   cases hs:a.spot with
   | none=>simp only [hs] at q ⊢; exact h.load q
   | some s=>simp only [hs] at q ⊢; exact q
theorem Le.kcap {H H':KH} (h:Le H H') {a:Addr} {cap sz c:Nat} (q:kcap H a cap sz=some c):kcap H' a cap sz=some c:=by
 unfold Ew.kcap at q ⊢
 cases hb:Nat.blt cap unkU<;>simp only [hb,cond_true,cond_false] at q ⊢
 ·split at q
  ·cases q
  ·rename_i e he
   simp only [h _ _ he]
   exact q
 ·exact q
theorem rd_append {e:BT (Option Value)}:∀ (m n i:Nat) (xs ys:List Value),rd e i m=some xs→rd e (i+m) n=some ys→rd e i (m+n)=some (xs++ys)
 | 0,n,i,xs,ys,h1,h2=>by
   cases h1
   simpa using h2
 | m+1,n,i,xs,ys,h1,h2=>by
   have hl:=rd_len h1
   cases xs with
   | nil=>simp at hl
   | cons x xs =>
     have hx:=rd_get h1 0 x (by simp)
     have hxs:rd e (i+1) m=some xs:=rd_some (by simpa using hl) fun j v hv=>by
      have:=rd_get h1 (j+1) v (by simpa using hv)
      rw [← this]; congr 1; omega
     have ih:=rd_append m n (i+1) xs ys hxs (by have e1:i+1+m=i+(m+1):=by omega
                                                rw [e1]; exact h2)
     have e2:m+1+n=(m+n)+1:=by omega
     rw [e2]
     simp only [rd,List.cons_append]
     simp only [Nat.add_zero] at hx
     rw [hx,ih]
theorem rd_take {e:BT (Option Value)} {n i:Nat} {cs:List Value} (h:rd e i n=some cs) {m:Nat} (hm:m≤n):rd e i m=some (cs.take m):=by
 have hl:=rd_len h
 refine rd_some (by simp; omega) fun j v hv=>?_
 have hj:j<m:=by
  rcases Nat.lt_or_ge j m with q | q
  ·exact q
  ·rw [List.getElem?_eq_none (by simp; omega)] at hv; cases hv
 rw [List.getElem?_take_of_lt hj] at hv
 exact rd_get h j v hv
theorem rd_drop {e:BT (Option Value)} {n i:Nat} {cs:List Value} (h:rd e i n=some cs) {m:Nat} (hm:m≤n):rd e (i+m) (n-m)=some (cs.drop m):=by
 have hl:=rd_len h
 refine rd_some (by simp; omega) fun j v hv=>?_
 rw [List.getElem?_drop] at hv
 have:=rd_get h (m+j) v hv
 rw [← this]; congr 1; omega
theorem kold_some {H:KH} {sz n:Nat} {b o:Nat} {cs:List Value}:kold H sz (some ⟨b,o,none⟩) n=some cs↔∃ e,H b=some e∧rd e.cells o (n*sz)=some cs:=by
 unfold kold KH.load
 simp only
 constructor
 ·intro h
  cases hb:H b with
  | none=>rw [hb] at h; cases h
  | some e=>rw [hb] at h; exact ⟨e,rfl,h⟩
 ·rintro ⟨e,h1,h2⟩
  rw [h1]
  exact h2
theorem kold_len {H:KH} {sz n:Nat} {a:OA} {cs:List Value} (h:kold H sz a n=some cs):cs.length=n*sz:=by
 unfold kold at h
 cases a with
 | none =>
   simp only at h
   cases hn:Nat.beq n 0<;>simp [hn] at h
   subst h
   simp [Nat.eq_of_beq_eq_true hn]
 | some a =>
   simp only at h
   cases hs:a.spot with
   | none =>
     simp only [hs] at h
     unfold KH.load at h
     split at h
     ·exact rd_len h
     ·cases h
   | some s =>
     simp only [hs] at h
     cases hn:Nat.beq n 0<;>simp [hn] at h
     subst h
     simp [Nat.eq_of_beq_eq_true hn]
def SlOk (H:KH) (sz:Nat) (a:OA) (n c:Nat):Prop:=match a with
 | none=>n=0
 | some b=>(b.spot=none∧∃ cl,kcap H b c sz=some cl∧n≤cl)∨(b.spot≠none∧n=0)
theorem SlOk.mono {H H':KH} (h:Le H H') {sz n c:Nat} {a:OA} (q:SlOk H sz a n c):SlOk H' sz a n c:=by
 cases a with
 | none=>exact q
 | some b =>
   rcases q with ⟨h1,cl,h2,h3⟩ | q
   ·exact .inl ⟨h1,cl,h.kcap h2,h3⟩
   ·exact .inr q
theorem cut_lo {H:KH} {sz n c k:Nat} {a:OA} {cs:List Value} (ho:SlOk H sz a n c) (hc:kold H sz a n=some cs) (hk:k≤n) :
 ∃ a' c',kslice H sz a n c none (some (.int .i64 (k:Int)))=some (.slice a' k c')∧kold H sz a' k=some (cs.take (k*sz)):=by
 have hn:natOf n (some (.int .i64 (k:Int)))=some k:=by simp [natOf]
 cases a with
 | none =>
   have hn0:n=0:=ho
   subst hn0
   have hk0:k=0:=by omega
   subst hk0
   refine ⟨none,c,?_,?_⟩
   ·rfl
   ·simp [kold]
 | some b =>
   rcases ho with ⟨hs,cl,hcl,hle⟩ | ⟨hs,hn0⟩
   case inr =>
    subst hn0
    have hk0:k=0:=by omega
    subst hk0
    obtain ⟨bb,bo,sp⟩:=b
    cases sp with
    | none=>exact absurd rfl hs
    | some sp=>exact ⟨some ⟨bb,bo,some sp⟩,c,rfl,by simp [kold]⟩
   obtain ⟨bb,bo,sp⟩:=b
   cases hs
   obtain ⟨e,he,hrd⟩:=kold_some.1 hc
   have hb:(Nat.ble 0 k&&Nat.ble k cl&&Nat.ble n cl&&(⟨bb,bo,none⟩:Addr).spot.isNone)=true:=by
    simp only [Bool.and_eq_true]
    exact ⟨⟨⟨Nat.ble_eq_true_of_le (Nat.zero_le _),Nat.ble_eq_true_of_le (by omega)⟩,Nat.ble_eq_true_of_le hle⟩,rfl⟩
   have hrd':rd e.cells bo (k*sz)=some (cs.take (k*sz)):=rd_take hrd (Nat.mul_le_mul_right _ hk)
   have hfin:kold H sz (some ⟨bb,bo,none⟩) k=some (cs.take (k*sz)):=kold_some.2 ⟨e,he,hrd'⟩
   unfold kslice
   have hz0:natOf 0 none=some 0:=rfl
   simp only [hn,hz0,hcl,hb,cond_true,Nat.zero_mul,Nat.add_zero,Nat.sub_zero]
   cases hlt:Nat.blt c unkU<;>simp only [cond_true,cond_false]
   ·cases h0:Nat.blt 0 cl<;>simp only [cond_true,cond_false]
    ·have hz:Nat.beq 0 0=true:=rfl
     simp only [hz,cond_true]
     exact ⟨_,_,rfl,hfin⟩
    ·exact ⟨_,_,rfl,hfin⟩
   ·cases h0:Nat.beq c 0<;>simp only [cond_true,cond_false]
    ·exact ⟨_,_,rfl,hfin⟩
    ·exact ⟨_,_,rfl,hfin⟩
theorem cut_hi {H:KH} {sz n c k:Nat} {a:OA} {cs:List Value} (ho:SlOk H sz a n c) (hc:kold H sz a n=some cs) (hk:k≤n) :
 ∃ a' c',kslice H sz a n c (some (.int .i64 (k:Int))) none=some (.slice a' (n-k) c')∧kold H sz a' (n-k)=some (cs.drop (k*sz)):=by
 have hn:natOf 0 (some (.int .i64 (k:Int)))=some k:=by simp [natOf]
 have hcl':=kold_len hc
 cases a with
 | none =>
   have hn0:n=0:=ho
   subst hn0
   have hk0:k=0:=by omega
   subst hk0
   refine ⟨none,c,?_,?_⟩
   ·rfl
   ·simp at hcl'
    simp [kold,hcl']
 | some b =>
   rcases ho with ⟨hs,cl,hcl,hle⟩ | ⟨hs,hn0⟩
   case inr =>
    subst hn0
    have hk0:k=0:=by omega
    subst hk0
    obtain ⟨bb,bo,sp⟩:=b
    cases sp with
    | none=>exact absurd rfl hs
    | some sp =>
      refine ⟨some ⟨bb,bo,some sp⟩,c,rfl,?_⟩
      simp at hcl'
      simp [kold,hcl']
   obtain ⟨bb,bo,sp⟩:=b
   cases hs
   obtain ⟨e,he,hrd⟩:=kold_some.1 hc
   have hb:(Nat.ble k n&&Nat.ble n cl&&Nat.ble n cl&&(⟨bb,bo,none⟩:Addr).spot.isNone)=true:=by
    simp only [Bool.and_eq_true]
    exact ⟨⟨⟨Nat.ble_eq_true_of_le hk,Nat.ble_eq_true_of_le hle⟩,Nat.ble_eq_true_of_le hle⟩,rfl⟩
   have hrd':rd e.cells (bo+k*sz) ((n-k)*sz)=some (cs.drop (k*sz)):=by
    rw [Nat.sub_mul]
    exact rd_drop hrd (Nat.mul_le_mul_right _ hk)
   have hfin:kold H sz (some ⟨bb,bo+k*sz,none⟩) (n-k)=some (cs.drop (k*sz)):=kold_some.2 ⟨e,he,hrd'⟩
   have hend:n=k→cs.drop (k*sz)=[]:=fun e1=>List.drop_eq_nil_of_le (by rw [hcl',e1]; exact Nat.le_refl _)
   unfold kslice
   have hz0:natOf n none=some n:=rfl
   simp only [hn,hz0,hcl,hb,cond_true]
   cases hlt:Nat.blt c unkU<;>simp only [cond_true,cond_false]
   ·cases h0:Nat.blt k cl<;>simp only [cond_true,cond_false]
    ·have hge:¬ k<cl:=fun q=>by rw [show Nat.blt k cl=true from Nat.ble_eq_true_of_le q] at h0; cases h0
     have hnk:n=k:=by omega
     cases h1:Nat.beq k 0<;>simp only [cond_true,cond_false]
     ·refine ⟨some ⟨0,0,some 0⟩,unkU,by rw [hnk,Nat.sub_self]; rfl,?_⟩
      rw [hend hnk,hnk,Nat.sub_self]
      rfl
     ·have hk0:k=0:=Nat.eq_of_beq_eq_true h1
      subst hk0
      simp only [Nat.zero_mul,Nat.add_zero,Nat.sub_zero] at hfin ⊢
      exact ⟨_,_,rfl,hfin⟩
    ·exact ⟨_,_,rfl,hfin⟩
   ·cases h0:Nat.beq c k<;>simp only [cond_true,cond_false]
    ·exact ⟨_,_,rfl,hfin⟩
    ·refine ⟨_,_,rfl,?_⟩
     have hck:c=k:=Nat.eq_of_beq_eq_true h0
     have hcc:cl=c:=by
      unfold kcap at hcl
      rw [hlt] at hcl
      exact (Option.some.inj hcl).symm
     have hnk:n=k:=by omega
     rw [hend hnk,hnk,Nat.sub_self]
     exact kold_some.2 ⟨e,he,by simp [rd]⟩
inductive Own (H0 H:KH) (sz:Nat):OA→Nat→Nat→List Value→Prop where
 | nil:Own H0 H sz none 0 0 []
 | lit (b n:Nat) (cs:List Value) (h1:H b=some (mkEnt cs 0)) (h2:cs.length=n*sz) (h3:n<unkU) (h4:H0 b=none):Own H0 H sz (some ⟨b,0,none⟩) n n cs
 | grown (b n:Nat) (cs:List Value) (e:Ent) (h1:H b=some e) (h2:e.unk=sz) (h3:e.len=n*sz) (h4:rd e.cells 0 (n*sz)=some cs) (h5:H0 b=none) (h6:wrB e=true):Own H0 H sz (some ⟨b,0,none⟩) n unkU cs
theorem Own.cells {H0 H:KH} {sz n c:Nat} {a:OA} {cs:List Value} (h:Own H0 H sz a n c cs):kold H sz a n=some cs:=by
 cases h with
 | nil=>rfl
 | lit b _ _ h1 h2 =>
   refine kold_some.2 ⟨_,h1,?_⟩
   rw [← h2]
   exact rd_some rfl fun j v hv=>by rw [Nat.zero_add]; simp only [mkEnt,tget_wr_nil]; exact hv
 | grown b _ _ e h1 h2 h3 h4=>exact kold_some.2 ⟨e,h1,h4⟩
theorem Own.ok {H0 H:KH} {sz n c:Nat} {a:OA} {cs:List Value} (h:Own H0 H sz a n c cs) (hsz:1≤sz):SlOk H sz a n c:=by
 cases h with
 | nil=>rfl
 | lit b _ _ h1 h2 h3 =>
   refine .inl ⟨rfl,n,?_,Nat.le_refl _⟩
   unfold kcap
   rw [show Nat.blt n unkU=true from Nat.ble_eq_true_of_le h3]
   rfl
 | grown b _ _ e h1 h2 h3 h4 =>
   refine .inl ⟨rfl,n,?_,Nat.le_refl _⟩
   unfold kcap
   have hb:Nat.blt unkU unkU=false:=rfl
   simp only [hb,cond_false,h1,h2,Nat.sub_self,Nat.zero_mul,h3]
   have hc:(Nat.beq sz sz&&Nat.beq 0 0&&Nat.ble 1 sz&&Nat.ble 0 (n*sz))=true:=by
    simp only [Bool.and_eq_true]
    exact ⟨⟨⟨by simp,rfl⟩,Nat.ble_eq_true_of_le hsz⟩,Nat.ble_eq_true_of_le (Nat.zero_le _)⟩
   rw [hc]
   simp only [cond_true,Nat.sub_zero,Nat.mul_div_cancel _ hsz]
def blk:OA→Option Nat
 | none=>none
 | some a=>some a.block
theorem Own.append {H0 H:KH} {ti:TI} {n c m nm:Nat} {a:OA} {cs new:List Value} (h:Own H0 H ti.size a n c cs) (hle:Le H0 H) (hnm:H nm=none) (hm:new.length=m*ti.size) (hs:n+m≤1000000) (hb:ti.bytes≤1000000) (hz:1≤ti.size) (hro:ti.size≤1000000:=by decide) :
 ∃ a' c' H',kappend H nm ti a n c m new=some (.slice a' (n+m) c',H')∧Own H0 H' ti.size a' (n+m) c' (cs++new)∧Le H0 H'∧(∀ k e,H k=some e→blk a≠some k→H' k=some e)∧(∀ k,H k=none→k≠nm→H' k=none):=by
 have hh:(Nat.ble (n+m) 1000000&&Nat.ble ti.bytes 1000000&&Nat.ble 1 ti.size)=true:=by
  simp only [Bool.and_eq_true]
  exact ⟨⟨Nat.ble_eq_true_of_le hs,Nat.ble_eq_true_of_le hb⟩,Nat.ble_eq_true_of_le hz⟩
 have h0n:H0 nm=none:=hle.none hnm
 have hput:∀ (k:Addr) (e:Ent),H k.block=some e→e.ob=none→H.put k []=H:=fun k e q1 q2=>by
  funext j
  simp only [KH.put,wr]
  split
  ·rename_i ej
   subst ej
   rw [q1]
   cases e
   simp only at q2
   subst q2
   rfl
  ·rfl
 have hwn:∀ cs,wrB (mkEnt cs ti.size)=true:=fun cs=>by
  unfold wrB mkEnt noOb
  have:Nat.beq ti.size roU=false:=by
   cases hb:Nat.beq ti.size roU with
   | false=>rfl
   | true=>have:=Nat.eq_of_beq_eq_true hb; unfold roU at this; omega
  simp [this]
 have hcl:=kold_len h.cells
 have mk:∀ H1:KH,Own H0 (H1.new nm (mkEnt (cs++new) ti.size)) ti.size (some ⟨nm,0,none⟩) (n+m) unkU (cs++new):=by
  intro H1
  have hlen:(cs++new).length=(n+m)*ti.size:=by rw [List.length_append,hcl,hm,Nat.add_mul]
  refine .grown nm _ _ (mkEnt (cs++new) ti.size) (by simp [KH.new]) rfl hlen ?_ h0n (hwn _)
  rw [← hlen]
  exact rd_some rfl fun j v hv=>by rw [Nat.zero_add]; simp only [mkEnt,tget_wr_nil]; exact hv
 have frame:∀ k e,H k=some e→(H.new nm (mkEnt (cs++new) ti.size)) k=some e:=fun k e q=>Le.new hnm k e q
 have hnew0:m=0→new=[]:=fun e=>List.eq_nil_of_length_eq_zero (by rw [hm,e,Nat.zero_mul])
 have hlt0:∀ p q:Nat,¬ p≤q→Nat.ble p q=false:=fun p q hh=>by
  cases hb:Nat.ble p q with
  | false=>rfl
  | true=>exact absurd (Nat.le_of_ble_eq_true hb) hh
 cases h with
 | nil =>
   have hb0:Nat.blt 0 unkU=true:=rfl
   unfold kappend
   simp only [hh,cond_true,hb0]
   by_cases hm0:m=0
   ·subst hm0
    rw [hnew0 rfl]
    exact ⟨none,0,H,rfl,.nil,hle,fun k e q _=>q,fun k q _=>q⟩
   ·rw [hlt0 (0+m) 0 (by omega)]
    simp only [cond_false]
    exact ⟨_,_,_,rfl,mk H,hle.trans (Le.new hnm),fun k e q _=>frame k e q,fun k q hk=>by simp only [KH.new,if_neg hk]; exact q⟩
 | lit b _ _ h1 h2 h3 h4 =>
   have hb0:Nat.blt n unkU=true:=Nat.ble_eq_true_of_le h3
   unfold kappend
   simp only [hh,cond_true,hb0]
   by_cases hm0:m=0
   ·subst hm0
    rw [hnew0 rfl,show Nat.ble (n+0) n=true from Nat.ble_eq_true_of_le (by omega)]
    have hst:kstore H ⟨b,0+n*ti.size,none⟩ []=some H:=by
     unfold kstore
     have hw0:wrB (mkEnt cs 0)=true:=rfl
     simp only [h1,List.length_nil,rd,hw0,cond_true]
     rw [hput _ _ h1 rfl]
    simp only [cond_true,hst,ob,List.append_nil]
    exact ⟨_,_,_,rfl,.lit b n cs h1 h2 h3 h4,hle,fun k e q _=>q,fun k q _=>q⟩
   ·rw [hlt0 (n+m) n (by omega)]
    have hk:=(Own.lit (H0:=H0) (H:=H) (sz:=ti.size) b n cs h1 h2 h3 h4).cells
    simp only [cond_false,hk,ob]
    exact ⟨_,_,_,rfl,mk H,hle.trans (Le.new hnm),fun k e q _=>frame k e q,fun k q hk=>by simp only [KH.new,if_neg hk]; exact q⟩
 | grown b _ _ e h1 h2 h3 h4 h5 h6 =>
   have hb0:Nat.blt unkU unkU=false:=rfl
   unfold kappend
   have hq:(Nat.beq e.unk ti.size&&Nat.beq 0 ((unkU-unkU)*ti.size)&&(none:Option Nat).isNone&&wrB e)=true:=by
    rw [h2,Nat.sub_self,Nat.zero_mul,h6]
    simp
   simp only [hh,cond_true,hb0,cond_false,h1,hq]
   by_cases hm0:m=0
   ·subst hm0
    rw [hnew0 rfl,show Nat.ble (0+(n+0)*ti.size) e.len=true from Nat.ble_eq_true_of_le (by rw [h3,Nat.add_zero,Nat.zero_add]; exact Nat.le_refl _)]
    have hst:kstore H ⟨b,0+n*ti.size,none⟩ []=some H:=by
     unfold kstore
     simp only [h1,List.length_nil,rd,h6,cond_true]
     rw [hput _ _ h1 (wrB_spec h6).2]
    simp only [cond_true,hst,ob,List.append_nil]
    exact ⟨_,_,_,rfl,.grown b n cs e h1 h2 h3 h4 h5 h6,hle,fun k e q _=>q,fun k q _=>q⟩
   ·have hgt:¬ (0+(n+m)*ti.size≤e.len):=by
     rw [h3,Nat.add_mul]
     have:1*1≤m*ti.size:=Nat.mul_le_mul (by omega) hz
     omega
    rw [hlt0 _ _ hgt]
    simp only [cond_false,h4,ob]
    have hd:∀ k e',H k=some e'→some b≠some k→((H.del b).new nm (mkEnt (cs++new) ti.size)) k=some e':=by
     intro k e' q hne
     simp only [KH.new,KH.del]
     rw [if_neg (fun e1=>by subst e1; rw [hnm] at q; cases q),if_neg (fun e1=>hne (by rw [e1]))]
     exact q
    refine ⟨_,_,_,rfl,mk (H.del b),fun k e' q=>hd k e' (hle k e' q) (fun e1=>?_),fun k e' q hne=>hd k e' q hne,fun k q hk=>by
     simp only [KH.new,KH.del,if_neg hk]
     split
     ·rfl
     ·exact q⟩
    cases e1
    rw [h5] at q
    cases q
end Go.Ew
