import Derived.Test.YtlgpleiobieniaaEwDk9
set_option linter.unusedVariables false
set_option linter.unusedSimpArgs false
namespace Go.Ew
open Go.Ev Go.Deep
def sigN (N:Nat) (K:List Nat):Nat:=(List.range N).foldl (fun m x=>2*m+bif decide (x∈K) then 1 else 0) 0
theorem sig_same {N:Nat} {K K':List Nat} (h:SameS K K'):sigN N K=sigN N K':=by
 have:(fun (m x:Nat)=>2*m+bif decide (x∈K) then 1 else 0)=fun m x=>2*m+bif decide (x∈K') then 1 else 0:=by
  funext m x
  have:decide (x∈K)=decide (x∈K'):=by rw [Bool.eq_iff_iff,decide_eq_true_iff,decide_eq_true_iff]; exact h x
  rw [this]
 unfold sigN
 rw [this]
def wordsM:Nat→List (List Int)
 | 0=>[[]]
 | d+1=>(wordsM d).map (97 :: ·)++(wordsM d).map (98 :: ·)
def runM (S:List St) (K:List Nat) (w:List Int):List Nat:=w.foldl (fun K c=>stepM S c K) K
def sigsM (S:List St) (N:Nat):Nat→List Nat→List Nat
 | 0,K=>[sigN N K]
 | d+1,K=>sigsM S N d (stepM S 97 K)++sigsM S N d (stepM S 98 K)
theorem sigs_words (S:List St) (N:Nat):∀ (d:Nat) (K:List Nat),sigsM S N d K=(wordsM d).map fun w=>sigN N (runM S K w)
 | 0,K=>rfl
 | d+1,K=>by
   simp only [sigsM,wordsM,List.map_append,List.map_map,sigs_words S N d]
   rfl
theorem words_bytes:∀ (d:Nat) (w:List Int),w∈wordsM d→∀ c∈w,c=97∨c=98
 | 0,w,h,c,hc=>by
   have h:w=[]:=by simpa [wordsM] using h
   subst h; cases hc
 | d+1,w,h,c,hc=>by
   simp only [wordsM,List.mem_append,List.mem_map] at h
   rcases h with ⟨u,hu,rfl⟩ | ⟨u,hu,rfl⟩
   ·rcases List.mem_cons.1 hc with z | z
    ·exact .inl z
    ·exact words_bytes d u hu c z
   ·rcases List.mem_cons.1 hc with z | z
    ·exact .inr z
    ·exact words_bytes d u hu c z
theorem step_none {S:List St} {c:Int}:stepM S c []=[]:=by
 unfold stepM
 exact clM_nil
theorem run_none {S:List St}:∀ w:List Int,runM S [] w=[]
 | []=>rfl
 | c :: w=>by
   have:=run_none (S:=S) w
   simp only [runM,List.foldl_cons,step_none] at this ⊢
   exact this
theorem reach_key {S:List St} {keys:List (List Nat)} {g:Nat→Int} (h:RowsOk S keys g):∀ (w:List Int) (k:Nat) (K K0:List Nat),(∀ c∈w,c=97∨c=98)→keys[k]? = some K→SameS K K0→runM S K0 w≠[]→∃ (k':Nat) (K':List Nat),keys[k']? = some K'∧SameS K' (runM S K0 w)
 | [],k,K,K0,_,hk,hs,_=>⟨k,K,hk,hs⟩
 | c :: w,k,K,K0,hc,hk,hs,hne=>by
   have hne':runM S (stepM S c K0) w≠[]:=hne
   have h1:stepM S c K0≠[]:=fun z=>by rw [z,run_none] at hne'; exact hne' rfl
   have hst:=stepM_same (S:=S) (c:=c) hs
   have h2:stepM S c K≠[]:=fun z=>h1 (hst.nil.1 z)
   obtain ⟨c',e,hlt⟩:∃ c':Nat,c=((c':Nat):Int)∧c'<256:=by
    rcases hc c (by simp) with z | z
    ·exact ⟨97,z,by omega⟩
    ·exact ⟨98,z,by omega⟩
   subst e
   obtain ⟨k',K',_,q2,q3⟩:=h.nxt k K c' hk hlt h2
   exact reach_key h w k' K' (stepM S ((c':Nat):Int) K0) (fun d hd=>hc d (by simp [hd])) q2 (q3.trans hst) hne'
theorem many_keys {S:List St} {keys:List (List Nat)} {g:Nat→Int} (h:RowsOk S keys g) {N d:Nat} (hn:(sigsM S N d (begM S)).Nodup) (hz:∀ v∈sigsM S N d (begM S),v≠sigN N []):(sigsM S N d (begM S)).length≤keys.length:=by
 have hp:=h.pos
 have h0:keys[0]? = some (keys[0]'hp):=by simp [hp]
 have:=pigeon (R:=fun (v i:Nat)=>∃ K,keys[i]? = some K∧sigN N K=v) (fun t u m ⟨K,k1,k2⟩ ⟨K',k3,k4⟩=>by
  rw [k1] at k3; cases k3; rw [← k2,← k4]) (sigsM S N d (begM S)) (List.range keys.length) hn fun v hv=>by
  have hv0:=hz v hv
  rw [sigs_words] at hv
  obtain ⟨w,hw,rfl⟩:=List.mem_map.1 hv
  have hne:runM S (begM S) w≠[]:=fun z=>hv0 (by rw [z])
  obtain ⟨k',K',q1,q2⟩:=reach_key h w 0 _ (begM S) (words_bytes d w hw) h0 (h.beg _ h0) hne
  refine ⟨k',List.mem_range.2 ?_,K',q1,sig_same q2⟩
  rcases Nat.lt_or_ge k' keys.length with z | z
  ·exact z
  ·rw [List.getElem?_eq_none z] at q1; cases q1
 rwa [List.length_range] at this
def patS:Nat→ByteArray
 | 0=>ByteArray.mk #[91,97,98,93,42,97]
 | k+1=>patS k++ByteArray.mk #[46]
def itK (k:Nat):List It:=(parseR (patS k)).getD []
theorem pat_ok:∀ k:Fin 12,(parseR (patS k.1)).isSome=true:=by decide +kernel
theorem pat_it {k:Nat} (h:k<12):parseR (patS k)=some (itK k):=by
 have:=pat_ok ⟨k,h⟩
 unfold itK
 cases hp:parseR (patS k) with
 | none=>rw [hp] at this; cases this
 | some l=>rfl
theorem cls_few:∀ k:Fin 5,clsAll [itK k.1]≤8:=by decide +kernel
def sts9:List St:=[⟨0,0,-1,[12],0⟩,⟨0,0,-1,[],1⟩,⟨32,126,1,[],0⟩,⟨32,126,2,[],0⟩,⟨32,126,3,[],0⟩,⟨32,126,4,[],0⟩,⟨32,126,5,[],0⟩,⟨32,126,6,[],0⟩,⟨32,126,7,[],0⟩,⟨32,126,8,[],0⟩,⟨32,126,9,[],0⟩,⟨97,97,10,[],0⟩,⟨0,0,-1,[15,11],0⟩,⟨97,97,12,[],0⟩,⟨98,98,12,[],0⟩,⟨0,0,-1,[13,14],0⟩]
theorem sts9_eq:nfaM [itK 9]=sts9:=by kernel_rfl
theorem sts9_nod:(sigsM sts9 16 9 (begM sts9)).Nodup:=by decide +kernel
theorem sts9_ne:∀ v∈sigsM sts9 16 9 (begM sts9),v≠sigN 16 []:=by decide +kernel
theorem sts9_len:(sigsM sts9 16 9 (begM sts9)).length=512:=by decide +kernel
def sts10:List St:=[⟨0,0,-1,[13],0⟩,⟨0,0,-1,[],1⟩,⟨32,126,1,[],0⟩,⟨32,126,2,[],0⟩,⟨32,126,3,[],0⟩,⟨32,126,4,[],0⟩,⟨32,126,5,[],0⟩,⟨32,126,6,[],0⟩,⟨32,126,7,[],0⟩,⟨32,126,8,[],0⟩,⟨32,126,9,[],0⟩,⟨32,126,10,[],0⟩,⟨97,97,11,[],0⟩,⟨0,0,-1,[16,12],0⟩,⟨97,97,13,[],0⟩,⟨98,98,13,[],0⟩,⟨0,0,-1,[14,15],0⟩]
theorem sts10_eq:nfaM [itK 10]=sts10:=by kernel_rfl
theorem sts10_nod:(sigsM sts10 17 9 (begM sts10)).Nodup:=by decide +kernel
theorem sts10_ne:∀ v∈sigsM sts10 17 9 (begM sts10),v≠sigN 17 []:=by decide +kernel
theorem sts10_len:(sigsM sts10 17 9 (begM sts10)).length=512:=by decide +kernel
def sts11:List St:=[⟨0,0,-1,[14],0⟩,⟨0,0,-1,[],1⟩,⟨32,126,1,[],0⟩,⟨32,126,2,[],0⟩,⟨32,126,3,[],0⟩,⟨32,126,4,[],0⟩,⟨32,126,5,[],0⟩,⟨32,126,6,[],0⟩,⟨32,126,7,[],0⟩,⟨32,126,8,[],0⟩,⟨32,126,9,[],0⟩,⟨32,126,10,[],0⟩,⟨32,126,11,[],0⟩,⟨97,97,12,[],0⟩,⟨0,0,-1,[17,13],0⟩,⟨97,97,14,[],0⟩,⟨98,98,14,[],0⟩,⟨0,0,-1,[15,16],0⟩]
theorem sts11_eq:nfaM [itK 11]=sts11:=by kernel_rfl
theorem sts11_nod:(sigsM sts11 18 9 (begM sts11)).Nodup:=by decide +kernel
theorem sts11_ne:∀ v∈sigsM sts11 18 9 (begM sts11),v≠sigN 18 []:=by decide +kernel
theorem sts11_len:(sigsM sts11 18 9 (begM sts11)).length=512:=by decide +kernel
theorem many_not {k:Nat} (h1:9≤k) (h2:k≤11) {keys:List (List Nat)} {g:Nat→Int} (h:RowsOk (nfaM [itK k]) keys g):512≤keys.length:=by
 have:k=9∨k=10∨k=11:=by omega
 rcases this with rfl | rfl | rfl
 ·rw [sts9_eq] at h; have:=many_keys h sts9_nod sts9_ne; rw [sts9_len] at this; exact this
 ·rw [sts10_eq] at h; have:=many_keys h sts10_nod sts10_ne; rw [sts10_len] at this; exact this
 ·rw [sts11_eq] at h; have:=many_keys h sts11_nod sts11_ne; rw [sts11_len] at this; exact this
def aaaS:ByteArray:=ByteArray.mk #[97,97,97,97,97,97,97,97,97,97,97,97]
theorem few_long:∀ k:Fin 5,nfaL (nfaM [itK k.1]) aaaS=(0,12,true):=by decide +kernel
theorem few_two:∀ k:Fin 5,stepM (nfaM [itK k.1]) 97 (begM (nfaM [itK k.1]))≠[]∧∃ x∈stepM (nfaM [itK k.1]) 97 (begM (nfaM [itK k.1])),x∉begM (nfaM [itK k.1]):=by decide +kernel
end Go.Ew
