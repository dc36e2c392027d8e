/- What the statement of May12Said leans on, part 3. Conditions: each theorem's own. -/
import Derived.Test.YtpodopnmkjinhaaGreatDoorKMB
set_option linter.unusedSimpArgs false
set_option maxRecDepth 100000
set_option maxHeartbeats 8000000
open Go.Proofs.Tryz
open List renaming setIfInBounds_toArray → sIA, set_cons_zero → sC0, set_cons_succ → sCS
namespace Go.Proofs.YtpodopnmkjinhaaGreatDoor
open Go.Lib (hid)
open Go.RowKit
theorem qbk (l:List UInt8):(⟨l.toArray⟩:ByteArray).size=l.length:=by show l.toArray.size=_;simp
theorem qib (l:List UInt8) (k:Nat) (h:k<l.length):(⟨l.toArray⟩:ByteArray)[k]'(by rw [qbk];exact h)=l[k]:=rfl
theorem qm9 {w:World} {N n c:Nat} {e:TypeId} {A:Option Addr} {xs:List Value} (h:w.ownsRow N e 1 (.slice A n c) n xs):n≤c:=by
 rcases h.2 with ⟨hv,h0⟩|⟨g,cap,cur,hv,_,_,h3,_⟩
 ·omega
 ·cases hv;exact h3
theorem qqs (l:List UInt8) (f k:Nat) (hf:f≤k) (hk:k≤l.length) (W:World):
  (Instr.slice 9 (.string ⟨l.toArray⟩) (some (.int .i64 (f:Int))) (some (.int .i64 (k:Int))) none).run prog W=.ok (.string ⟨((l.drop f).take (k-f)).toArray⟩) W:=by
 have hz:=qbk l;have h:=run_slice_string (P:=prog) W 9 ⟨l.toArray⟩ .i64 .i64 (f:Int) (k:Int) underlying9 (by omega) (by omega) (by rw [hz];omega)
 rw [h];simp [ByteArray.extract_mk]
theorem qjz (l:List UInt8) (w:World) (hs:l.length≤1099511627776):
  Calls prog 42 #[encS l] w fun e w'=>∃A c,e=.returned (.slice A (qap l).length c)∧w'.ownsRow w.heap.size 9 1 (.slice A (qap l).length c) (qap l).length ((qap l).map encS)∧Below w.heap.size w w':=by
 obtain⟨i0,hi,hz0,hz1,hz2⟩:=info_parts qhc;go_enter func42,ntmps42;go_wp2;go_loopw [3,4,5] (fun v fr i wr=>∃(k f:Nat) (ls:List (List UInt8)) (a:Option Addr) (c:Nat),i=.int .i64 k∧fr=.int .i64 f∧v=.slice a ls.length c∧ls.length≤k∧f≤k∧k≤l.length+1∧qkO l k f ls∧wr.ownsRow w.heap.size 9 1 (.slice a ls.length c) ls.length (ls.map encS)∧Below w.heap.size w wr) (fun _ _ i _=>l.length+1-(intOf i).toNat)
 case atStart=>exact⟨0,0,[],none,0,rfl,rfl,rfl,Nat.le_refl _,Nat.le_refl _,Nat.zero_le _,qkO.start l,World.ownsRow_nil _ _ _ _,Below.refl _ _⟩
 case round=>
  obtain⟨k,f,ls,a,c,rfl,rfl,rfl,hlk,hfk,hk,hP,hO,hB⟩:=hrel;by_cases hle:k≤l.length
  ·by_cases hc:∃h:k<l.length,l[k]≠47
   ·obtain⟨hlt,hc⟩:=hc
    have HP:=hid (hP.on hlt hc)
    have g1:(((⟨l.toArray⟩:ByteArray)[k]'(by rw [qbk];exact hlt)).toNat !=47)=true:=by
     rw [qib l k hlt];have:=qf0 (n:=47) hc
     simp at this ⊢;omega
    have g1':((((⟨l.toArray⟩:ByteArray)[k]'(by rw [qbk];exact hlt)).toNat:Int) !=47)=true:=by
     simp at g1 ⊢;omega
    have HF:=hid (And.intro hO hB)
    clear hc hP hO hB g1;go_wp2;go_roundw
    case rel=>exact⟨k+1,f,ls,a,c,by go_num,rfl,rfl,by omega,by omega,by omega,HP.out,HF.out.1,HF.out.2⟩
    case measure=>simp [intOf];omega
   ·have hc2:∀h:k<l.length,l[k]=47:=fun h=>Classical.byContradiction fun hn=>hc ⟨h,hn⟩
    have HP0:=hid (hP.cut hle hc2)
    have hsl:=qqs l f k hfk hle;have hcap:=qm9 hO;obtain⟨cur,hcur⟩:=qQ ((l.drop f).take (k-f))
    rw [hcur] at HP0 hsl;have HS:=hid (qtm ls cur)
    clear hc hP hcur;by_cases hlt:k<l.length
    ·have g1:((((⟨l.toArray⟩:ByteArray)[k]'(by rw [qbk];exact hlt)).toNat:Int) !=47)=false:=by
      rw [qib l k hlt,hc2 hlt];rfl
     clear hc2;by_cases e0:cur=[]
     ·subst e0
      have HP:Hid (qkO l (k+1) (k+1) ls):=hid HP0.out
      have HF:=hid (And.intro hO hB)
      clear HP0 hO hB HS;go_wp2;go_roundw
      case rel=>exact⟨k+1,k+1,ls,a,c,by go_num,by go_num,rfl,by omega,by omega,by omega,HP.out,HF.out.1,HF.out.2⟩
      case measure=>simp [intOf];omega
     by_cases e1:cur=[46]
     ·subst e1
      have HP:Hid (qkO l (k+1) (k+1) ls):=hid HP0.out
      have HF:=hid (And.intro hO hB)
      clear HP0 hO hB HS e0;go_wp2;go_roundw
      case rel=>exact⟨k+1,k+1,ls,a,c,by go_num,by go_num,rfl,by omega,by omega,by omega,HP.out,HF.out.1,HF.out.2⟩
      case measure=>simp [intOf];omega
     by_cases e2:cur=[46,46]
     ·subst e2
      have HP:Hid (qkO l (k+1) (k+1) ls.dropLast):=hid HP0.out
      by_cases hm:ls=[]
      ·subst hm
       have HF:=hid (And.intro hO hB)
       clear HP0 hO hB HS e0 e1;go_wp2;go_roundw
       case rel=>exact⟨k+1,k+1,[],a,c,by go_num,by go_num,rfl,by simp,by omega,by omega,HP.out,HF.out.1,HF.out.2⟩
       case measure=>simp [intOf];omega
      ·obtain⟨m,hm⟩:∃m,ls.length=m+1:=⟨ls.length-1,by have:=List.length_pos_iff.2 hm;omega⟩
       have hd:ls.dropLast.length=m:=by rw [List.length_dropLast];omega
       rw [hm] at hO;have hO2:=qna hO;rw [← List.map_dropLast] at hO2;have hg:(0:Int)<(ls.length:Int):=by omega
       have hg1:(1:Int)≤(ls.length:Int):=by omega
       have hg2:(ls.length:Int)-1≤(c:Int):=by omega
       have hz:ls.length-1=ls.dropLast.length:=by omega
       have HF:=hid (And.intro hO2 hB)
       have HD:=hid hd;have HZ:=hid hz;clear HP0 hO hB HS e0 e1 hO2 hd hz hm;go_wp2;go_roundw
       case rel=>exact⟨k+1,k+1,ls.dropLast,a,c,by go_num,by go_num,by rw [HZ.out],by have:=HD.out;have:=HZ.out;omega,by omega,by omega,HP.out,by rw [HD.out];exact HF.out.1,HF.out.2⟩
       case measure=>simp [intOf];omega
     have HP:Hid (qkO l (k+1) (k+1) (ls++[cur])):=hid (by
      have h:=HP0.out;unfold qbE at h;rw [if_neg (by rintro(h|h);exact e0 h;exact e1 h),if_neg e2] at h;exact h)
     have q0:cur.isEmpty=false:=by cases cur with|nil=>exact absurd rfl e0|cons x r=>rfl
     have q1:(cur==[46])=false:=by simpa using e1
     have q2:(cur==[46,46])=false:=by simpa using e2
     have q3:(cur==[])=false:=by simpa using e0
     clear HP0 HS e1 e2;go_wp2_with (at_builtin;refine wpList_append_own _ rfl _ _ 22 rfl w.heap.size 9 i0 (.string .empty) 1 16 underlying22 hi hz0 hz1 hz2 rfl (by decide) _ _ _ rfl (hO.alloc _) ⟨wr.heap.size,0,none⟩ 1 1 [encS cur] rfl rfl ?c1 ?c2 ?c3 ?c4 ?c5 ?_)
     case c1=>exact World.news_of_block (cs:=#[.string ⟨cur.toArray⟩]) (t:=9) (fr:=(0,0)) (heap_alloc_new wr _)
     case c2=>simp [Value.oneCell']
     case c3=>unfold maxLen;omega
     case c4=>omega
     case c5=>have:=hB.size;simp;omega
     intro v' w8 hown8 hg _
     obtain⟨g',cap',rfl⟩:=ownsRow_succ hown8;have hB8:Below w.heap.size w w8:=(hB.alloc hB.size _).grown hg (by have:=hB.size;simp;omega) (fun j e=>(hO.lt j e).1)
     have HF:=hid (And.intro hown8 hB8)
     clear hB8 hown8 hg hO hB;go_wp2_with fail;go_roundw
     case rel=>exact⟨k+1,k+1,ls++[cur],some ⟨g',0,none⟩,cap',by go_num,by go_num,by simp,by simp;omega,by omega,by omega,HP.out,by rw [List.length_append,List.map_append];exact HF.out.1,HF.out.2⟩
     case measure=>simp [intOf];omega
    ·have g1:decide ((k:Int)<(l.length:Int))=false:=by simp;omega
     clear hc2;by_cases e0:cur=[]
     ·subst e0
      have HP:Hid (qkO l (k+1) (k+1) ls):=hid HP0.out
      have HF:=hid (And.intro hO hB)
      clear HP0 hO hB HS;go_wp2;go_roundw
      case rel=>exact⟨k+1,k+1,ls,a,c,by go_num,by go_num,rfl,by omega,by omega,by omega,HP.out,HF.out.1,HF.out.2⟩
      case measure=>simp [intOf];omega
     by_cases e1:cur=[46]
     ·subst e1
      have HP:Hid (qkO l (k+1) (k+1) ls):=hid HP0.out
      have HF:=hid (And.intro hO hB)
      clear HP0 hO hB HS e0;go_wp2;go_roundw
      case rel=>exact⟨k+1,k+1,ls,a,c,by go_num,by go_num,rfl,by omega,by omega,by omega,HP.out,HF.out.1,HF.out.2⟩
      case measure=>simp [intOf];omega
     by_cases e2:cur=[46,46]
     ·subst e2
      have HP:Hid (qkO l (k+1) (k+1) ls.dropLast):=hid HP0.out
      by_cases hm:ls=[]
      ·subst hm
       have HF:=hid (And.intro hO hB)
       clear HP0 hO hB HS e0 e1;go_wp2;go_roundw
       case rel=>exact⟨k+1,k+1,[],a,c,by go_num,by go_num,rfl,by simp,by omega,by omega,HP.out,HF.out.1,HF.out.2⟩
       case measure=>simp [intOf];omega
      ·obtain⟨m,hm⟩:∃m,ls.length=m+1:=⟨ls.length-1,by have:=List.length_pos_iff.2 hm;omega⟩
       have hd:ls.dropLast.length=m:=by rw [List.length_dropLast];omega
       rw [hm] at hO;have hO2:=qna hO;rw [← List.map_dropLast] at hO2;have hg:(0:Int)<(ls.length:Int):=by omega
       have hg1:(1:Int)≤(ls.length:Int):=by omega
       have hg2:(ls.length:Int)-1≤(c:Int):=by omega
       have hz:ls.length-1=ls.dropLast.length:=by omega
       have HF:=hid (And.intro hO2 hB)
       have HD:=hid hd;have HZ:=hid hz;clear HP0 hO hB HS e0 e1 hO2 hd hz hm;go_wp2;go_roundw
       case rel=>exact⟨k+1,k+1,ls.dropLast,a,c,by go_num,by go_num,by rw [HZ.out],by have:=HD.out;have:=HZ.out;omega,by omega,by omega,HP.out,by rw [HD.out];exact HF.out.1,HF.out.2⟩
       case measure=>simp [intOf];omega
     have HP:Hid (qkO l (k+1) (k+1) (ls++[cur])):=hid (by
      have h:=HP0.out;unfold qbE at h;rw [if_neg (by rintro(h|h);exact e0 h;exact e1 h),if_neg e2] at h;exact h)
     have q0:cur.isEmpty=false:=by cases cur with|nil=>exact absurd rfl e0|cons x r=>rfl
     have q1:(cur==[46])=false:=by simpa using e1
     have q2:(cur==[46,46])=false:=by simpa using e2
     have q3:(cur==[])=false:=by simpa using e0
     clear HP0 HS e1 e2;go_wp2_with (at_builtin;refine wpList_append_own _ rfl _ _ 22 rfl w.heap.size 9 i0 (.string .empty) 1 16 underlying22 hi hz0 hz1 hz2 rfl (by decide) _ _ _ rfl (hO.alloc _) ⟨wr.heap.size,0,none⟩ 1 1 [encS cur] rfl rfl ?c1 ?c2 ?c3 ?c4 ?c5 ?_)
     case c1=>exact World.news_of_block (cs:=#[.string ⟨cur.toArray⟩]) (t:=9) (fr:=(0,0)) (heap_alloc_new wr _)
     case c2=>simp [Value.oneCell']
     case c3=>unfold maxLen;omega
     case c4=>omega
     case c5=>have:=hB.size;simp;omega
     intro v' w8 hown8 hg _
     obtain⟨g',cap',rfl⟩:=ownsRow_succ hown8;have hB8:Below w.heap.size w w8:=(hB.alloc hB.size _).grown hg (by have:=hB.size;simp;omega) (fun j e=>(hO.lt j e).1)
     have HF:=hid (And.intro hown8 hB8)
     clear hB8 hown8 hg hO hB;go_wp2_with fail;go_roundw
     case rel=>exact⟨k+1,k+1,ls++[cur],some ⟨g',0,none⟩,cap',by go_num,by go_num,by simp,by simp;omega,by omega,by omega,HP.out,by rw [List.length_append,List.map_append];exact HF.out.1,HF.out.2⟩
     case measure=>simp [intOf];omega
  ·obtain rfl:k=l.length+1:=by omega
   have he:ls=qap l:=by
    rcases hP with ⟨h1,_⟩|⟨_,h⟩
    ·omega
    ·exact h
   have HF:=hid (And.intro hO (And.intro he hB))
   have g1:decide (((l.length+1:Nat):Int)≤(l.length:Int))=false:=by simp;omega
   clear hO hP he hB;go_wp2_with fail;go_ret;rw [← HF.out.2.1];exact⟨a,c,rfl,HF.out.1,HF.out.2.2⟩
theorem qjD (ls:List (List UInt8)) (k:Nat) (h:k<ls.length):qad (ls.take (k+1))=qad (ls.take k)++(47::ls[k]):=by
 rw [List.take_succ_eq_append_getElem h,qbh];simp [qad]
theorem qtf (ls:List (List UInt8)) (k:Nat) (h:k<ls.length):(qad (ls.take k)).length+1+ls[k].length≤(qad ls).length:=by
 have e:qad ls=qad (ls.take (k+1))++qad (ls.drop (k+1)):=by rw [← qbh,List.take_append_drop]
 rw [e,qjD ls k h];simp;omega
theorem qd7 (a b:List UInt8):(⟨a.toArray⟩:ByteArray)++⟨b.toArray⟩=⟨(a++b).toArray⟩:=by
 apply ByteArray.ext
 simp
theorem qip (A:Option Addr) (c:Nat) (ls:List (List UInt8)) (w:World) (hT:qat w (fun _=>True) A ls) (hs:(qad ls).length≤1099511627776) (hl:ls.length≤1099511627776):
  Calls prog 41 #[.slice A ls.length c] w fun e w'=>e=.returned (encS (joinL ls))∧w=w':=by
 go_enter func41,ntmps41;go_wp2;go_loop [3,4] (fun v i=>∃(k:Nat) (x:List UInt8),k≤ls.length∧i=.int .i64 k∧v=encS x∧Hid (x=qad (ls.take k))∧x.length≤1099511627776) (fun _ i=>ls.length-(intOf i).toNat)
 case atStart=>exact⟨0,[],Nat.zero_le _,rfl,rfl,hid rfl,Nat.zero_le _⟩
 case round=>
  obtain⟨k,x,hk,rfl,rfl,HX,hx⟩:=hrel;by_cases hlt:k<ls.length
  ·obtain⟨g,o,rfl,-,hc⟩:=hT k hlt
   have hlen:=qtf ls k hlt;rw [← HX.out] at hlen;have HN:=hid (qjD ls k hlt)
   rw [← HX.out] at HN;obtain⟨y,hy⟩:=qQ (ls[k])
   rw [hy] at hc hlen HN;have hyl:y.length≤1099511627776:=by omega
   clear hT hy;go_wp2;go_round
   case rel=>exact⟨k+1,x++47::y,by omega,by go_num,by rw [show(⟨#[47]⟩:ByteArray)=⟨([47]:List UInt8).toArray⟩ from rfl,qd7,qd7];simp [encS],hid (by rw [HN.out]),by simp;omega⟩
   case measure=>simp [intOf];omega
  ·obtain rfl:k=ls.length:=by omega
   have HX2:Hid (x=qad ls):=hid (by rw [HX.out,List.take_length])
   clear HX hT;by_cases he:ls=[]
   ·subst he
    obtain rfl:x=[]:=HX2.out
    go_wp2;go_ret;exact⟨rfl,rfl⟩
   ·have hx0:x≠[]:=by
     rw [HX2.out];obtain⟨y,r,rfl⟩:∃y r,ls=y::r:=by cases ls with|nil=>exact absurd rfl he|cons y r=>exact⟨y,r,rfl⟩
     simp [qad]
    have HJ:Hid (joinL ls=x):=hid (by unfold joinL;rw [if_neg he,HX2.out])
    have q0:x.isEmpty=false:=by cases x with|nil=>exact absurd rfl hx0|cons y r=>rfl
    have q1:(x==[])=false:=by simpa using hx0
    clear he HX2;go_wp2;go_ret;exact⟨by rw [HJ.out];rfl,rfl⟩
def qaK (l:List UInt8):List UInt8×Int:=if 0∈l∨l=[] then([],31) else(qam l,0)
theorem qj4:∀(s cur:List UInt8),(qad (qbX cur s)).length≤cur.length+s.length+1
 |[],cur=>by simp [qbX,qad]
 |c::r,cur=>by
  rw [qbX];split
  ·have:=qj4 r []
   simp [qad] at this ⊢;omega
  ·have:=qj4 r (cur++[c])
   simp at this ⊢;omega
theorem qvK (out:List (List UInt8)) (w:List UInt8):(qad (qbE out w)).length≤(qad out).length+(w.length+1):=by
 unfold qbE;split
 ·omega
 ·split
  ·have e:∀l:List (List UInt8),(qad l.dropLast).length≤(qad l).length:=fun l=>by
    by_cases h:l=[]
    ·subst h;simp
    ·have e:qad l=qad l.dropLast++qad [l.getLast h]:=by rw [← qbh,List.dropLast_concat_getLast]
     rw [e];simp
   have:=e out
   omega
  ·rw [qbh]
   simp [qad]
theorem qkd:∀(l out:List (List UInt8)),(qad (l.foldl qbE out)).length≤(qad out).length+(qad l).length
 |[],out=>by simp [qad]
 |w::r,out=>by
  have h1:=qkd r (qbE out w)
  have h2:=qvK out w;have e:(qad (w::r)).length=w.length+1+(qad r).length:=by simp [qad];omega
  rw [List.foldl_cons];omega
theorem qim (l:List UInt8):(qad (qap l)).length≤l.length+1:=by
 have h1:=qkd (qbX [] l) []
 have h2:=qj4 l []
 have e:(qad ([]:List (List UInt8))).length=0:=rfl
 unfold qap;simp at h2
 omega
theorem qh5 (l:List (List UInt8)):l.length≤(qad l).length:=by
 induction l with
 |nil=>exact Nat.le_refl _
 |cons w r ih=>simp [qad] at ih ⊢;omega
theorem qcX (l:List UInt8):(qam l).length≤l.length+1:=by
 unfold qam joinL;split
 ·simp
 ·exact qim l
theorem qsO (l:List UInt8) (w:World) (hs:l.length≤549755813888):
  Calls prog 16 #[encS l] w fun e w'=>e=.returned (.tuple #[encS (qaK l).1,.int .i64 (qaK l).2])∧Below w.heap.size w w':=by
 have cP:=fun W=>qjz l W (by omega)
 have hp:=qim l;have hpl:=qh5 (qap l)
 go_enter func16,ntmps16;go_wp2;go_loop [4] (fun i=>∃k:Nat,k≤l.length∧i=.int .i64 k∧Hid (∀j (h:j<l.length),j<k→l[j]≠0)) (fun i=>l.length-(intOf i).toNat)
 case atStart=>exact⟨0,Nat.zero_le _,rfl,hid (fun j _ h=>absurd h (Nat.not_lt_zero _))⟩
 case round=>
  obtain⟨k,hk,rfl,HZ⟩:=hrel;by_cases hlt:k<l.length
  ·by_cases hc:l[k]=0
   ·have g1:((((⟨l.toArray⟩:ByteArray)[k]'(by rw [qbk];exact hlt)).toNat:Int)==0)=true:=by rw [qib l k hlt,hc];rfl
    have HQ:Hid (qaK l=([],31)):=hid (by unfold qaK;rw [if_pos (.inl (by rw [← hc];exact List.getElem_mem hlt))])
    clear hc HZ cP hp hpl;go_wp2;go_ret2;exact⟨by rw [HQ.out];rfl,Below.refl _ _⟩
   ·have g1:((((⟨l.toArray⟩:ByteArray)[k]'(by rw [qbk];exact hlt)).toNat:Int)==0)=false:=by
     rw [qib l k hlt];exact qf0 (n:=0) hc
    have HZ2:Hid (∀j (h:j<l.length),j<k+1→l[j]≠0):=hid (fun j hj hjk=>by
     by_cases e:j=k
     ·subst e;exact hc
     ·exact HZ.out j hj (by omega))
    clear hc HZ cP hp hpl;go_wp2;go_round
    case rel=>exact⟨k+1,by omega,by go_num,HZ2⟩
    case measure=>simp [intOf];omega
  ·obtain rfl:k=l.length:=by omega
   have h0:0∉l:=fun h=>by
    obtain⟨j,hj,e⟩:=List.getElem_of_mem h;exact HZ.out j hj hj e
   clear HZ;by_cases he:l=[]
   ·subst he
    have HQ:Hid (qaK []=([],31)):=hid rfl
    clear cP hp hpl h0;go_wp2;go_ret2;exact⟨by rw [HQ.out];rfl,Below.refl _ _⟩
   ·have HQ:Hid (qaK l=(qam l,0)):=hid (by unfold qaK;rw [if_neg (by rintro(h|h);exact h0 h;exact he h)])
    have q0:l.isEmpty=false:=by cases l with|nil=>exact absurd rfl he|cons y r=>rfl
    have q1:(l==[])=false:=by simpa using he
    clear h0 he;go_wp2_with fail;refine(cP _).mono ?_;rintro e w1⟨A,c,rfl,hO,hb1⟩;have cJ:=qip A c (qap l) w1 (qat.of_own hO).any (by omega) (by omega)
    have HB:=hid hb1;clear hO hb1 cP hp hpl;go_wp2_with fail;refine cJ.mono ?_;rintro e w2⟨rfl,rfl⟩;go_wp2_with fail;go_ret2;exact⟨by rw [HQ.out];rfl,HB.out⟩
structure ND where
 p:List UInt8
 d:Bool
 x:List UInt8
def qal (w:World) (P:Nat→Prop) (A:Option Addr) (t:List ND):Prop:=
 ∀k (h:k<t.length),∃g o,A=some ⟨g,o,none⟩∧P g∧w.cell? ⟨g,o+k*3,none⟩=some (encS t[k].p)∧w.cell? ⟨g,o+k*3+1,none⟩=some (.bool t[k].d)∧w.cell? ⟨g,o+k*3+2,none⟩=some (encS t[k].x)
theorem qal.frame {w w':World} {P Q:Nat→Prop} {A:Option Addr} {t:List ND} (h:qal w P A t) (hf:∀g,g<w.heap.size→P g→Q g∧w'.heap[g]?=w.heap[g]?):qal w' Q A t:=fun k hk=>by
 obtain⟨g,o,e,hp,c0,c1,c2⟩:=h k hk;obtain⟨h1,h2⟩:=hf g (World.block_lt_of_cell? w _ c0) hp
 exact⟨g,o,e,h1,by simpa [World.cell?,h2] using c0,by simpa [World.cell?,h2] using c1,by simpa [World.cell?,h2] using c2⟩
theorem qal.below {w w':World} {P:Nat→Prop} {A:Option Addr} {t:List ND} (h:qal w P A t) (hb:Below w.heap.size w w'):qal w' P A t:=h.frame fun g hg hp=>⟨hp,hb.block g hg⟩
theorem qal.any {w:World} {P:Nat→Prop} {A:Option Addr} {t:List ND} (h:qal w P A t):qal w (fun _=>True) A t:=h.frame fun _ _ _=>⟨trivial,rfl⟩
def qbU (t:List ND) (p:List UInt8):Option ND:=t.find? fun n=>n.p==p
def qkb (t:List ND) (p:List UInt8):Int:=match t.findIdx? fun n=>n.p==p with|some i=>i|none=>-1
def qak (t:List ND) (p:List UInt8):Int:=if p=[47] then 2 else match qbU t p with|some n=>if n.d then 2 else 1|none=>0
def qbl (p:List UInt8):List UInt8:=joinL (qap p).dropLast
theorem qql (p:List UInt8) (w:World) (hs:p.length≤549755813888):
  Calls prog 18 #[encS p] w fun e w'=>e=.returned (encS (qbl p))∧Below w.heap.size w w':=by
 have hp:=qim p;have hpl:=qh5 (qap p)
 go_enter func18,ntmps18;go_wp2_with fail;refine(qjz p w (by omega)).mono ?_
 rintro e w1⟨A,c,rfl,hO,hb1⟩;have hcap:=qm9 hO;by_cases he:qap p=[]
 ·have HA:Hid (qbl p=[47]):=hid (by unfold qbl;rw [he];rfl)
  have hl:(qap p).length=0:=by rw [he];rfl
  clear he hO hp hpl;go_wp2;go_ret;exact⟨by rw [HA.out];rfl,hb1⟩
 ·obtain⟨m,hm⟩:∃m,(qap p).length=m+1:=⟨(qap p).length-1,by have:=List.length_pos_iff.2 he;omega⟩
  have hd:(qap p).dropLast.length=m:=by rw [List.length_dropLast];omega
  have hO2:w1.ownsRow w.heap.size 9 1 (.slice A (qap p).dropLast.length c) (qap p).dropLast.length ((qap p).dropLast.map encS):=by
   rw [hm] at hO;rw [hd,List.map_dropLast];exact qna hO
  have hsl:(qad (qap p).dropLast).length≤(qad (qap p)).length:=by
   have e:qad (qap p)=qad (qap p).dropLast++qad [(qap p).getLast he]:=by rw [← qbh,List.dropLast_concat_getLast]
   rw [e];simp
  have cJ:=qip A c (qap p).dropLast w1 (qat.of_own hO2).any (by omega) (by omega)
  have hg:(((qap p).length:Int)==0)=false:=by simp;omega
  have hg1:(1:Int)≤((qap p).length:Int):=by omega
  have hg2:((qap p).length:Int)-1≤(c:Int):=by omega
  have hg3:((qap p).length:Int)≤1099511627776:=by omega
  rw [List.length_dropLast] at cJ;have HB:=hid hb1;clear hO hO2 hm hd hsl he hp hpl hb1;go_wp2_with (go_at_call 41;refine cJ.mono ?_;rintro e w2 ⟨rfl,rfl⟩)
  go_ret;exact⟨rfl,HB.out⟩
theorem qsV (A:Option Addr) (c:Nat) (t:List ND) (p:List UInt8) (w:World) (hT:qal w (fun _=>True) A t) (hl:t.length≤1099511627776):
  Calls prog 43 #[.slice A t.length c,encS p] w fun e w'=>e=.returned (.int .i64 (qkb t p))∧w=w':=by
 go_enter func43,ntmps43;go_wp2;go_loop [5] (fun i=>∃k:Nat,k≤t.length∧i=.int .i64 k∧Hid (∀j (h:j<t.length),j<k→t[j].p≠p)) (fun i=>t.length-(intOf i).toNat)
 case atStart=>exact⟨0,Nat.zero_le _,rfl,hid (fun j _ h=>absurd h (Nat.not_lt_zero _))⟩
 case round=>
  obtain⟨k,hk,rfl,HZ⟩:=hrel;by_cases hlt:k<t.length
  ·obtain⟨g,o,rfl,-,c0,-,-⟩:=hT k hlt
   by_cases hp:t[k].p=p
   ·have g1:(t[k].p==p)=true:=by simpa using hp
    have HF:Hid (qkb t p=k):=hid (by
     unfold qkb;rw [show t.findIdx? (fun n=>n.p==p)=some k from List.findIdx?_eq_some_iff_getElem.2 ⟨hlt,g1,fun j hj=>by simpa using HZ.out j (by omega) hj⟩])
    clear hp HZ hT;go_wp2;go_ret;exact⟨by rw [HF.out];rfl,rfl⟩
   ·have g1:(t[k].p==p)=false:=by simpa using hp
    have HZ2:Hid (∀j (h:j<t.length),j<k+1→t[j].p≠p):=hid (fun j hj hjk=>by
     by_cases e:j=k
     ·subst e;exact hp
     ·exact HZ.out j hj (by omega))
    clear hp HZ hT;go_wp2;go_round
    case rel=>exact⟨k+1,by omega,by go_num,HZ2⟩
    case measure=>simp [intOf];omega
  ·obtain rfl:k=t.length:=by omega
   have HF:Hid (qkb t p=-1):=hid (by
    unfold qkb;rw [show t.findIdx? (fun n=>n.p==p)=none from by
     rw [List.findIdx?_eq_none_iff];intro x hx
     obtain⟨j,hj,rfl⟩:=List.getElem_of_mem hx
     simpa using HZ.out j hj hj])
   clear HZ hT;go_wp2;go_ret;exact⟨by rw [HF.out];rfl,rfl⟩
theorem qjc (t:List ND) (p:List UInt8):(∃(i:Nat) (h:i<t.length),qkb t p=i∧qbU t p=some t[i]∧t[i].p=p)∨(qkb t p=-1∧qbU t p=none∧∀n∈t,n.p≠p):=by
 cases hf:t.findIdx? (fun n=>n.p==p) with
 |some i=>
  obtain⟨h,h1,h2⟩:=List.findIdx?_eq_some_iff_getElem.1 hf
  refine .inl ⟨i,h,by unfold qkb;rw [hf],?_,by simpa using h1⟩
  unfold qbU;exact List.find?_eq_some_iff_getElem.2 ⟨h1,i,h,rfl,fun j hj=>by simpa using h2 j hj⟩
 |none=>
  have h:=List.findIdx?_eq_none_iff.1 hf
  refine .inr ⟨by unfold qkb;rw [hf],?_,fun n hn=>by simpa using h n hn⟩
  unfold qbU;exact List.find?_eq_none.2 fun n hn=>by simpa using h n hn
theorem qsW (A:Option Addr) (c:Nat) (t:List ND) (p:List UInt8) (w:World) (hT:qal w (fun _=>True) A t) (hl:t.length≤1099511627776):
  Calls prog 17 #[.slice A t.length c,encS p] w fun e w'=>e=.returned (.int .i64 (qak t p))∧w=w':=by
 have cF:=qsV A c t p w hT hl;by_cases hp:p=[47]
 ·have HK:Hid (qak t p=2):=hid (by unfold qak;rw [if_pos hp])
  have q0:(p==[47])=true:=by simpa using hp
  clear hp hT;go_enter func17,ntmps17;go_wp2_with (go_at_call 43;refine cF.mono ?_;rintro e w2 ⟨rfl,rfl⟩)
  go_ret;exact⟨by rw [HK.out];rfl,rfl⟩
 ·have q0:(p==[47])=false:=by simpa using hp
  rcases qjc t p with ⟨i,hi,h1,h2,h3⟩|⟨h1,h2,h3⟩
  ·obtain⟨g,o,rfl,-,c0,c1,-⟩:=hT i hi
   have HK:Hid (qak t p=if t[i].d then 2 else 1):=hid (by unfold qak;rw [if_neg hp,h2])
   rw [h1] at cF;clear hp hT h1 h2 h3 c0;generalize t[i].d=b at *;cases b
   all_goals
    go_enter func17,ntmps17;go_wp2_with (go_at_call 43;refine cF.mono ?_;rintro e w2 ⟨rfl,rfl⟩)
    go_ret;exact⟨by rw [HK.out];rfl,rfl⟩
  ·have HK:Hid (qak t p=0):=hid (by unfold qak;rw [if_neg hp,h2])
   rw [h1] at cF;clear hp hT h1 h2 h3;go_enter func17,ntmps17;go_wp2_with (go_at_call 43;refine cF.mono ?_;rintro e w2 ⟨rfl,rfl⟩)
   go_ret;exact⟨by rw [HK.out];rfl,rfl⟩
def qbH (st er:Int):PanicEntry:={ v:=.iface 37 (.agg #[.int .i64 st,.int .i64 er]),recovered:=false }
structure JobAt (W:World) (N B:Nat) (C:Option Addr) (c:Nat) (R:Option Addr) (d:Nat) (o:List UInt8) (st:Int) (t:List ND) (rd:Bool) (l:List (List UInt8)) (inn:List UInt8):Prop where
 blk:W.heap[B]?=some (.cells #[encS o,encS [],.int .i64 st,.slice C t.length c,.bool rd,.slice R l.length d,encS inn] 42 (0,0))
 nodes:qal W (fun g=>N≤g∧g≠B) C t
 hc:t.length≤c
 texts:qat W (fun g=>g<N) R l
 hd:l.length≤d
 le:N≤B
section
variable {W:World} {N B:Nat} {C:Option Addr} {c:Nat} {R:Option Addr} {d:Nat} {o:List UInt8} {st:Int} {t:List ND} {rd:Bool} {l:List (List UInt8)} {inn:List UInt8}
theorem JobAt.lt (h:JobAt W N B C c R d o st t rd l inn):B<W.heap.size:=lt_of_block h.blk
theorem JobAt.cells (h:JobAt W N B C c R d o st t rd l inn):W.cell? ⟨B,0,none⟩=some (encS o)∧W.cell? ⟨B,1,none⟩=some (encS [])∧W.cell? ⟨B,2,none⟩=some (.int .i64 st)∧W.cell? ⟨B,3,none⟩=some (.slice C t.length c)∧W.cell? ⟨B,4,none⟩=some (.bool rd)∧W.cell? ⟨B,5,none⟩=some (.slice R l.length d)∧W.cell? ⟨B,6,none⟩=some (encS inn):=by
 have h:=h.blk;simp [World.cell?,h]
theorem JobAt.free (h:JobAt W N B C c R d o st t rd l inn) (k:Nat):W.frozen? ⟨B,k,none⟩=false:=by
 have h:=h.blk;simp [World.frozen?,h]
theorem JobAt.to {W' : World} {o' : List UInt8} {st' : Int} {rd' : Bool} (h : JobAt W N B C c R d o st t rd l inn) (k : Kept B W W') (hb : W'.heap[B]? = some (.cells #[encS o', encS [], .int .i64 st', .slice C t.length c, .bool rd', .slice R l.length d, encS inn] 42 (0, 0))) : JobAt W' N B C c R d o' st' t rd' l inn :=
  ⟨hb, fun i hi => by
    obtain ⟨g, q, e, ⟨h1, h2⟩, c1, c2, c3⟩ := h.nodes i hi
    have hk := k.block g (World.block_lt_of_cell? _ _ c1) h2
    exact ⟨g, q, e, ⟨h1, h2⟩, (World.cell?_of_block (w := W) hk).trans c1, (World.cell?_of_block (w := W) hk).trans c2, (World.cell?_of_block (w := W) hk).trans c3⟩, h.hc,
   h.texts.frame fun g hg hp => ⟨hp, k.block g hg (by have := h.le; omega)⟩, h.hd, h.le⟩
theorem JobAt.below {W':World} (h:JobAt W N B C c R d o st t rd l inn) (k:Below W.heap.size W W'):JobAt W' N B C c R d o st t rd l inn:=h.to (Kept.of_below k) ((k.block _ h.lt).trans h.blk)
theorem JobAt.low {W':World} {M:Nat} (h:JobAt W N B C c R d o st t rd l inn) (k:Below M W W') (hM:W.heap.size≤M):JobAt W' N B C c R d o st t rd l inn:=h.below (k.mono hM)
theorem JobAt.re {V W' : World} {R' : Option Addr} {d' : Nat} {o' : List UInt8} {st' : Int} {rd' : Bool} {l' : List (List UInt8)} (h : JobAt W N B C c R d o st t rd l inn) (J : JobAt V N B C c R' d' o' st' t rd' l' inn) (k : Kept B W W') (hb : Below (B + 1) V W') : JobAt W' N B C c R' d' o' st' t rd' l' inn :=
  ⟨(hb.block B (by omega)).trans J.blk, fun i hi => by
    obtain ⟨g, q, e, ⟨h1, h2⟩, c1, c2, c3⟩ := h.nodes i hi
    have hk := k.block g (World.block_lt_of_cell? _ _ c1) h2
    exact ⟨g, q, e, ⟨h1, h2⟩, (World.cell?_of_block (w := W) hk).trans c1, (World.cell?_of_block (w := W) hk).trans c2, (World.cell?_of_block (w := W) hk).trans c3⟩, h.hc,
   J.texts.frame fun g hg hp => ⟨hp, hb.block g (by have := h.le; omega)⟩, J.hd, h.le⟩
theorem JobAt.heap {W':World} (h:JobAt W N B C c R d o st t rd l inn) (e:W'.heap=W.heap):JobAt W' N B C c R d o st t rd l inn:=by
 obtain⟨h1,h2,h3,h4,h5,h6⟩:=h;refine⟨by rw [e];exact h1,fun i hi=>?_,h3,h4.same e,h5,h6⟩
 obtain⟨g,q,e',h,c1,c2,c3⟩:=h2 i hi;exact⟨g,q,e',h,by simpa [World.cell?,e] using c1,by simpa [World.cell?,e] using c2,by simpa [World.cell?,e] using c3⟩
theorem JobAt.set0 (h:JobAt W N B C c R d o st t rd l inn) (o':List UInt8):JobAt (W.setCell ⟨B,0,none⟩ (encS o')) N B C c R d o' st t rd l inn:=
 h.to ((Kept.refl _ _).setCell _ _) (by exact heap_setCell_same _ _ _ _ _ (encS o') h.blk)
theorem JobAt.set2 (h:JobAt W N B C c R d o st t rd l inn) (s:Int):JobAt (W.setCell ⟨B,2,none⟩ (.int .i64 s)) N B C c R d o s t rd l inn:=
 h.to ((Kept.refl _ _).setCell _ _) (by exact heap_setCell_same _ _ _ _ _ (.int .i64 s) h.blk)
theorem JobAt.set4 (h:JobAt W N B C c R d o st t rd l inn) (r:Bool):JobAt (W.setCell ⟨B,4,none⟩ (.bool r)) N B C c R d o st t r l inn:=
 h.to ((Kept.refl _ _).setCell _ _) (by exact heap_setCell_same _ _ _ _ _ (.bool r) h.blk)
theorem JobAt.set5 (h:JobAt W N B C c R d o st t rd l inn) {R':Option Addr} {d':Nat} {l':List (List UInt8)} (hT:qat W (fun g=>g<N) R' l') (hd:l'.length≤d'):JobAt (W.setCell ⟨B,5,none⟩ (.slice R' l'.length d')) N B C c R' d' o st t rd l' inn:=by
 have hk:Kept B W (W.setCell ⟨B,5,none⟩ (.slice R' l'.length d')):=(Kept.refl _ _).setCell _ _
 refine⟨by exact heap_setCell_same _ _ _ _ _ (.slice R' l'.length d') h.blk,fun i hi=>?_,h.hc,hT.frame fun g hg hp=>⟨hp,hk.block g hg (by have:=h.le;omega)⟩,hd,h.le⟩
 obtain⟨g,q,e,⟨h1,h2⟩,c1,c2,c3⟩:=h.nodes i hi;have hb:=hk.block g (World.block_lt_of_cell? _ _ c1) h2
 exact⟨g,q,e,⟨h1,h2⟩,(World.cell?_of_block (w:=W) hb).trans c1,(World.cell?_of_block (w:=W) hb).trans c2,(World.cell?_of_block (w:=W) hb).trans c3⟩
end
theorem qay (w:World):Calls prog 30 #[.bool true] w fun e w'=>e=.returned (.tuple #[])∧w=w':=by
 go_enter func30,ntmps30;go_wp2;go_end0;exact⟨rfl,rfl⟩
theorem qau (w:World):Calls prog 30 #[.bool false] w fun e w'=>e=.panicked [qbH 2 0]∧w=w':=by
 go_enter func30,ntmps30;go_wp2;exact⟨rfl,rfl,rfl⟩
theorem qhR (w:World):Calls prog 15 #[.bool true] w fun e w'=>e=.returned (.tuple #[])∧w=w':=by
 go_enter func15,ntmps15;go_wp2;go_end0;exact⟨rfl,rfl⟩
theorem qje (w:World):Calls prog 15 #[.bool false] w fun e w'=>e=.panicked [qbH 1 17]∧w=w':=by
 go_enter func15,ntmps15;go_wp2;exact⟨rfl,rfl,rfl⟩
section
variable {W:World} {N B:Nat} {C:Option Addr} {c:Nat} {R:Option Addr} {d:Nat} {o:List UInt8} {st:Int} {t:List ND} {rd:Bool} {l:List (List UInt8)} {inn:List UInt8}
theorem qch (h:JobAt W N B C c R d o st t rd [] inn):Calls prog 28 #[.pointer (some ⟨B,5,none⟩)] W fun e w'=>e=.panicked [qbH 2 0]∧W=w':=by
 obtain⟨-,-,-,-,-,c5,-⟩:=h.cells;simp only [List.length_nil] at c5
 clear h;go_enter func28,ntmps28;go_wp2_with fail;refine(qau _).mono ?_;rintro e w1⟨rfl,rfl⟩;go_wp2_with fail;exact⟨rfl,rfl,rfl⟩
theorem qaz {x:List UInt8} {r:List (List UInt8)} (h:JobAt W N B C c R d o st t rd (x::r) inn) (hr:r.length≤1099511627776):
  Calls prog 28 #[.pointer (some ⟨B,5,none⟩)] W fun e w'=>e=.returned (encS x)∧(∃R' d',JobAt w' N B C c R' d' o st t rd r inn)∧Kept B W w':=by
 obtain⟨g,q,rfl,hg,hx⟩:=h.texts 0 (by simp)
 have hT:qat W (fun g=>g<N) (some ⟨g,q+1,none⟩) r:=fun k hk=>by
  obtain⟨g2,o2,e,h1,h2⟩:=h.texts (k+1) (by simp;omega)
  cases e
  exact⟨g,q+1,rfl,h1,by rw [show q+1+k=q+(k+1) by omega];simpa using h2⟩
 have hd:=h.hd;obtain⟨-,-,-,-,-,c5,-⟩:=h.cells;have f5:=h.free 5;have hl:(x::r).length=r.length+1:=rfl
 simp only [List.length_cons,List.getElem_cons_zero,Nat.add_zero] at c5 hx hd
 have hlt:(0:Int)<(((r.length+1:Nat)):Int):=by omega
 obtain⟨n,hn⟩:=qQ (r.length+1)
 have hn1:n-1=r.length:=by omega
 have hn0:0<n:=by omega
 have hi:((n:Int)-1)=(r.length:Int):=by omega
 have H:=hid h;have HT:=hid hT;have HK:Hid (∀v,Kept B W (W.setCell ⟨B,5,none⟩ v)):=hid fun v=>(Kept.refl B W).setCell 5 v
 clear h hT;by_cases h1:d=1
 ·subst h1
  have hr0:r=[]:=List.eq_nil_of_length_eq_zero (by omega)
  subst hr0;have hS:Hid (JobAt (W.setCell ⟨B,5,none⟩ (.slice (some ⟨g,q,none⟩) 0 0)) N B C c (some ⟨g,q,none⟩) 0 o st t rd [] inn):=hid (H.out.set5 (l':=[]) (fun k hk=>absurd hk (Nat.not_lt_zero _)) (Nat.le_refl _))
  obtain rfl:n=1:=by rw [← hn];rfl
  simp only [List.length_nil] at c5
  go_enter func28,ntmps28;go_wp2_with fail;refine(qay _).mono ?_;rintro e w1⟨rfl,rfl⟩;go_wp2_with fail;go_ret;exact⟨rfl,⟨_,_,hS.out⟩,HK.out _⟩
 ·have hS:Hid (JobAt (W.setCell ⟨B,5,none⟩ (.slice (some ⟨g,q+1,none⟩) r.length (d-1))) N B C c (some ⟨g,q+1,none⟩) (d-1) o st t rd r inn):=hid (H.out.set5 HT.out (by omega))
  rw [hn] at c5 hlt hd;have hd1:¬(d-1=0):=by omega
  go_enter func28,ntmps28;go_wp2_with fail;refine(qay _).mono ?_;rintro e w1⟨rfl,rfl⟩;go_wp2_with fail;go_ret;exact⟨rfl,⟨_,_,hS.out⟩,HK.out _⟩
theorem qhJ (h:JobAt W N B C c R d o st t rd [] inn):Calls prog 81 #[.pointer (some ⟨B,5,none⟩)] W fun e w'=>e=.returned (.tuple #[])∧W=w':=by
 obtain⟨-,-,-,-,-,c5,-⟩:=h.cells;simp only [List.length_nil] at c5
 clear h;go_enter func81,ntmps81;go_wp2_with fail;refine(qay _).mono ?_;rintro e w1⟨rfl,rfl⟩;go_wp2_with fail;go_end0;exact⟨rfl,rfl⟩
theorem qg8 {x:List UInt8} {r:List (List UInt8)} (h:JobAt W N B C c R d o st t rd (x::r) inn):Calls prog 81 #[.pointer (some ⟨B,5,none⟩)] W fun e w'=>e=.panicked [qbH 2 0]∧W=w':=by
 obtain⟨-,-,-,-,-,c5,-⟩:=h.cells;simp only [List.length_cons] at c5
 have hne:((((r.length+1:Nat)):Int)==0)=false:=by simp;omega
 generalize r.length+1=n at *;clear h;go_enter func81,ntmps81;go_wp2_with fail;refine(qau _).mono ?_;rintro e w1⟨rfl,rfl⟩;go_wp2_with fail;exact⟨rfl,rfl,rfl⟩
end
end Go.Proofs.YtpodopnmkjinhaaGreatDoor
namespace Go.Proofs.YtpodopnmkjinhaaGreatDoor
open Go.RowKit
def qbZ (l:List UInt8):List UInt8:=l.takeWhile (· !=10)
def qaX (l:List UInt8):List UInt8:=(l.dropWhile (· !=10)).drop 1
theorem qed:∀(l:List UInt8),(Lib.indexByte l 10=-1∧qbZ l=l∧qaX l=[])∨(∃i:Nat,Lib.indexByte l 10=i∧i<l.length∧qbZ l=l.take i∧qaX l=l.drop (i+1))
 |[]=>.inl ⟨rfl,rfl,rfl⟩
 |c::r=>by
  by_cases hc:c=10
  ·subst hc
   exact .inr ⟨0,by simp [Lib.indexByte],by simp,by simp [qbZ],by simp [qaX]⟩
  ·have hb:(c==10)=false:=by simpa using hc
   have hn:(c !=10)=true:=by simpa using hc
   rcases qed r with ⟨h1,h2,h3⟩|⟨i,h1,h2,h3,h4⟩
   ·refine .inl ⟨by rw [Lib.indexByte,hb,h1];rfl,?_,?_⟩
    ·unfold qbZ at h2 ⊢;rw [List.takeWhile_cons_of_pos (p:=(· !=10)) hn,h2]
    ·unfold qaX at h3 ⊢;rw [List.dropWhile_cons_of_pos (p:=(· !=10)) hn,h3]
   ·refine .inr ⟨i+1,?_,by simp;omega,?_,?_⟩
    ·rw [Lib.indexByte,hb,h1]
     have:((i:Int)==-1)=false:=by simp
     simp [this]
    ·unfold qbZ at h3 ⊢;rw [List.takeWhile_cons_of_pos (p:=(· !=10)) hn,h3];rfl
    ·unfold qaX at h4 ⊢;rw [List.dropWhile_cons_of_pos (p:=(· !=10)) hn,h4];rfl
theorem qen (c:UInt8) (r:List UInt8):(qaX (c::r)).length<(c::r).length:=by
 rcases qed (c::r) with ⟨_,_,h⟩|⟨i,_,h1,_,h⟩
 ·rw [h];simp
 ·rw [h,List.length_drop];omega
theorem qfk (l:List UInt8):(qbZ l).length+(qaX l).length≤l.length:=by
 rcases qed l with ⟨_,h0,h⟩|⟨i,_,h1,h0,h⟩
 ·rw [h,h0];simp
 ·rw [h0,h,List.length_drop,List.length_take];omega
def qav:List UInt8→List (List UInt8)
 |[]=>[]
 |c::r=>qbZ (c::r)::qav (qaX (c::r))
termination_by l=>l.length
decreasing_by exact qen c r
theorem qh7 (l:List UInt8) (h:l≠[]):qav l=qbZ l::qav (qaX l):=by
 cases l with
 |nil=>exact absurd rfl h
 |cons c r=>rw [qav]
def qax (ls:List (List UInt8)):List UInt8:=ls.flatMap fun x=>x++[10]
theorem qcL (ls:List (List UInt8)) (x:List UInt8):qax (ls++[x])=qax ls++x++[10]:=by simp [qax]
theorem qdI (ls:List (List UInt8)) (k:Nat):(qax (ls.take k)).length≤(qax ls).length:=by
 have h:qax ls=qax (ls.take k)++qax (ls.drop k):=by
  unfold qax;rw [← List.flatMap_append,List.take_append_drop]
 rw [h,List.length_append];omega
theorem qjk:∀(n:Nat) (l:List UInt8),l.length≤n→qax (qav l)=l∨qax (qav l)=l++[10]
 |_,[],_=>.inl (by rw [qav];rfl)
 |0,c::r,h=>by simp at h
 |n+1,c::r,h=>by
  have hj:qax (qav (c::r))=qbZ (c::r)++[10]++qax (qav (qaX (c::r))):=by rw [qav];simp [qax]
  have hlt:=qen c r;rw [hj];rcases qed (c::r) with ⟨_,h2,h3⟩|⟨i,h1,h2,h3,h4⟩
  ·refine .inr ?_
   rw [h2,h3,qav];simp [qax]
  ·have hi:=(Lib.indexByte_some h1).1
   have hs:qbZ (c::r)++[10]++qaX (c::r)=c::r:=by
    rw [h3,h4];have h5:(c::r)[i]=10:=by
     rw [List.getElem?_eq_getElem h2] at hi;exact Option.some.inj hi
    rw [List.append_assoc];show(c::r).take i++(10::(c::r).drop (i+1))=c::r
    rw [← h5,← List.drop_eq_getElem_cons h2,List.take_append_drop]
   rcases qjk n (qaX (c::r)) (by simp only [List.length_cons] at h hlt ⊢;omega) with e|e
   ·exact .inl (by rw [e,hs])
   ·refine .inr ?_
    rw [e,← List.append_assoc,hs]
theorem qh8:∀(n:Nat) (l:List UInt8),l.length≤n→∀x∈qav l,∀c∈x,c≠10
 |_,[],_,x,hx=>by rw [qav] at hx;cases hx
 |0,c::r,h,_,_=>by simp at h
 |n+1,c::r,h,x,hx=>by
  have hlt:=qen c r;rw [qav] at hx;rcases List.mem_cons.1 hx with rfl|hx
  ·intro d hd
   have h1:=List.all_takeWhile (p:=(· !=10)) (l:=c::r)
   have h2:=List.all_eq_true.1 h1 d hd
   simpa using h2
  ·exact qh8 n (qaX (c::r)) (by simp only [List.length_cons] at h hlt ⊢;omega) x hx
theorem qeg:∀(n:Nat) (l:List UInt8),l.length≤n→(qav l).length≤l.length∧∀x∈qav l,x.length≤l.length
 |_,[],_=>by rw [qav];simp
 |0,c::r,h=>by simp at h
 |n+1,c::r,h=>by
  have hlt:=qen c r;have hlr:=qfk (c::r)
  obtain⟨h1,h2⟩:=qeg n (qaX (c::r)) (by simp only [List.length_cons] at h hlt ⊢;omega)
  rw [qav];refine⟨by rw [List.length_cons];omega,fun x hx=>?_⟩
  rcases List.mem_cons.1 hx with rfl|hx
  ·omega
  ·have:=h2 x hx;omega
theorem qp3 (x:List UInt8) (r:List UInt8) (h:∀c∈x,c≠10):qbZ (x++10::r)=x∧qaX (x++10::r)=r:=by
 induction x with
 |nil=>exact⟨by simp [qbZ],by simp [qaX]⟩
 |cons c x ih=>
  have hc:(c !=10)=true:=by simpa using h c (by simp)
  obtain⟨i1,i2⟩:=ih fun d hd=>h d (by simp [hd])
  constructor
  ·unfold qbZ at i1 ⊢
   rw [List.cons_append,List.takeWhile_cons_of_pos (p:=(· !=10)) hc,i1]
  ·unfold qaX at i2 ⊢
   rw [List.cons_append,List.dropWhile_cons_of_pos (p:=(· !=10)) hc,i2]
theorem qjn:∀ls:List (List UInt8),(∀x∈ls,∀c∈x,c≠10)→qav (qax ls)=ls
 |[],_=>by rw [show qax []=[] from rfl,qav]
 |x::r,h=>by
  have e:qax (x::r)=x++10::qax r:=by simp [qax]
  obtain⟨h1,h2⟩:=qp3 x (qax r) (h x (by simp))
  rw [e,qh7 _ (by simp),h1,h2,qjn r fun y hy=>h y (by simp [hy])]
def mid (os:List (List UInt8)) (j:Nat) (y:List UInt8):List (List UInt8):=os.take j++y::os.drop j
end Go.Proofs.YtpodopnmkjinhaaGreatDoor
namespace Go.Proofs.YtpodopnmkjinhaaGreatDoor
open Go.Lib (hid)
open Go.RowKit
def qiQ (c:UInt8):Bool:=c==32||c==9
def qiY (l:List UInt8):List UInt8:=(l.reverse.dropWhile qiQ).reverse
def qtA (l:List UInt8):List UInt8:=qiY (l.dropWhile qiQ)
end Go.Proofs.YtpodopnmkjinhaaGreatDoor
namespace Go.Proofs.YtpodopnmkjinhaaGreatDoor
open Go.RowKit
def qps (c:UInt8):Option UInt8:=
 if c=92 then some 92 else if c=97 then some 7 else if c=98 then some 8 else if c=102 then some 12
 else if c=110 then some 10 else if c=114 then some 13 else if c=116 then some 9 else if c=118 then some 11 else none
def qmw (c:UInt8):Bool:=decide (48≤c.toNat∧c.toNat≤55)
def qd2 (t:List UInt8):List UInt8:=(t.take 3).takeWhile qmw
def qmx (l:List UInt8):Nat:=l.foldl (fun n c=>8*n+(c.toNat-48)) 0
def qu7 (t:List UInt8):List UInt8×Nat:=
 if qd2 t=[] then([],0) else if qmx (qd2 t)%256=0 then([],(qd2 t).length+1) else([(qmx (qd2 t)).toUInt8],(qd2 t).length+1)
def qc9 (t:List UInt8):List UInt8×Nat:=
 match t with
 |[]=>([],0)
 |c::_=>match qps c with
  |some b=>([b],2)
  |none=>qu7 t
theorem qoo (t:List UInt8):(qd2 t).length≤3∧(qd2 t).length≤t.length:=by
 have h1:=(List.takeWhile_sublist qmw (l:=t.take 3)).length_le
 rw [List.length_take] at h1;unfold qd2;omega
theorem qxi (t:List UInt8):(qc9 t).2≤t.length+1∧(qc9 t).2≤4∧(qc9 t).1.length≤1∧(qc9 t).2≠1∧(0<(qc9 t).2→2≤(qc9 t).2):=by
 unfold qc9;have ho:=qoo t;split
 ·simp
 ·split
  ·simp
  ·unfold qu7
   split
   ·simp
   ·rename_i h
    have:=List.length_pos_iff.2 h
    simp only [List.length_cons] at ho ⊢
    split<;>(simp [h];omega)
def qdk:List UInt8→List UInt8
 |[]=>[]
 |c::t=>if c=92∧0<(qc9 t).2 then(qc9 t).1++qdk (t.drop ((qc9 t).2-1)) else c::qdk t
termination_by s=>s.length
decreasing_by all_goals (simp;try omega)
theorem qg9:qdk []=[]:=by rw [qdk]
theorem qcS (c:UInt8) (t:List UInt8):qdk (c::t)=if c=92∧0<(qc9 t).2 then(qc9 t).1++qdk (t.drop ((qc9 t).2-1)) else c::qdk t:=by rw [qdk]
structure Sp where
 letter:UInt8
 left:Bool
 zeros:Bool
 wide:Nat
 size:Nat
def qwn:Sp:=⟨0,false,false,0,0⟩
def qbz (c:UInt8):Bool:=c==115||c==98||c==100||c==99||c==120||c==111
def qwZ (c:UInt8):Bool:=c==45||c==48
def qnZ (l:List UInt8):Nat:=l.foldl (fun n c=>10*n+(c.toNat-48)) 0
def qcC (t:List UInt8):List UInt8:=(t.take 3).takeWhile qcg
def qd3 (left zeros:Bool) (k:Nat) (t:List UInt8):Sp:=
 match t.drop (qcC t).length with
 |[]=>qwn
 |c::_=>if qbz c then⟨c,left,zeros,qnZ (qcC t),k+(qcC t).length+1⟩ else qwn
def qaA (t:List UInt8):Sp:=
 match t with
 |[]=>qd3 false false 1 []
 |c::r=>if c=37 then⟨37,false,false,0,2⟩ else if qwZ c then qd3 (c==45) (c==48) 2 r else qd3 false false 1 t
theorem qiK (t:List UInt8):(qcC t).length≤3∧(qcC t).length≤t.length:=by
 have h1:=(List.takeWhile_sublist qcg (l:=t.take 3)).length_le
 rw [List.length_take] at h1;unfold qcC;omega
theorem qjF (a b:Bool) (k:Nat) (t:List UInt8):(qd3 a b k t).letter=0∨((qd3 a b k t).size≤k+t.length∧k<(qd3 a b k t).size∧(qd3 a b k t).size≤k+4∧qbz (qd3 a b k t).letter=true):=by
 have h1:=qiK t;unfold qd3;split
 ·exact .inl rfl
 ·rename_i c r h
  have h2:=congrArg List.length h;rw [List.length_drop,List.length_cons] at h2;split
  ·rename_i hc
   exact .inr ⟨by simp only;omega,by simp only;omega,by simp only;omega,hc⟩
  ·exact .inl rfl
theorem qmh (t:List UInt8):(qaA t).letter=0∨((qaA t).size≤t.length+1∧2≤(qaA t).size∧(qaA t).size≤6∧((qaA t).letter=37∨qbz (qaA t).letter=true)):=by
 unfold qaA;split
 ·exact .inl rfl
 ·rename_i c r
  split
  ·exact .inr ⟨by simp,by simp,by simp,.inl rfl⟩
  ·split
   ·rcases qjF (c==45) (c==48) 2 r with h|⟨h1,h2,h3,h4⟩
    ·exact .inl h
    ·exact .inr ⟨by simp;omega,by omega,by omega,.inr h4⟩
   ·rcases qjF false false 1 (c::r) with h|⟨h1,h2,h3,h4⟩
    ·exact .inl h
    ·exact .inr ⟨by omega,by omega,by omega,.inr h4⟩
def qtR (d:Nat):UInt8:=if d<10 then(d+48).toUInt8 else(d+87).toUInt8
def qiO (b:Nat) (u:Nat):List UInt8:=if 2≤b∧b≤u then qiO b (u/b)++[qtR (u%b)] else [qtR u]
termination_by u
decreasing_by exact Nat.div_lt_self (by omega) (by omega)
theorem qg7 {b u:Nat} (h:u<b):qiO b u=[qtR u]:=by rw [qiO,if_neg (by omega)]
theorem qhp {b u:Nat} (h2:2≤b) (h:b≤u):qiO b u=qiO b (u/b)++[qtR (u%b)]:=by rw [qiO,if_pos ⟨h2,h⟩]
def qtb (l:List UInt8):Int×Int:=
 match l with
 |[]=>(0,33)
 |c::r=>if c=45 then(if(qbr 10 r).2 then(wrap64 (-(qbr 10 r).1),0) else(0,33))
  else if c=43 then(if(qbr 10 r).2 then(wrap64 (qbr 10 r).1,0) else(0,33))
  else(if(qbr 10 l).2 then(wrap64 (qbr 10 l).1,0) else(0,33))
def qah (l:List UInt8):Int×Int:=qtb (qtA l)
def qkn (c:UInt8):Bool:=c==100||c==120||c==111
def qxj (x:Sp) (sign s:List UInt8):List UInt8:=
 if x.left then sign++(s++List.replicate (x.wide-(sign.length+s.length)) 32)
 else if x.zeros&&qkn x.letter then sign++(List.replicate (x.wide-(sign.length+s.length)) 48++s)
 else sign++(List.replicate (x.wide-(sign.length+s.length)) 32++s)
def qnK (x:Sp) (s:List UInt8):List UInt8:=
 match s with
 |[]=>qxj x [] []
 |c::r=>if x.zeros&&qkn x.letter&&c==45 then qxj x [45] r else qxj x [] s
def qzo (c:UInt8) (n:Int):List UInt8:=
 if c=120 then qiO 16 (U n).toNat else if c=111 then qiO 8 (U n).toNat else qaw n
def qgy (x:Sp) (arg:List UInt8):List UInt8×Nat:=
 if x.letter=98 then(qnK x (qdk arg),0)
 else if x.letter=99 then(qnK x (arg.take 1),0)
 else if qkn x.letter then(qnK x (qzo x.letter (qah arg).1),if arg=[]∨(qah arg).2=0 then 0 else 1)
 else(qnK x arg,0)
structure Rd where
 text:List UInt8
 left:List (List UInt8)
 st:Nat
 over:Bool
def Rd.ahead (l:List UInt8) (m:Nat) (r:Rd):Rd:=⟨l++r.text,r.left,max m r.st,r.over⟩
def qgW (args:List (List UInt8)):List UInt8:=args.headD []
def qbf:List UInt8→List (List UInt8)→Rd
 |[],args=>⟨[],args,0,false⟩
 |c::t,args=>
  if c=92∧0<(qc9 t).2 then(qbf (t.drop ((qc9 t).2-1)) args).ahead (qc9 t).1 0
  else if c≠37 then(qbf t args).ahead [c] 0
  else if(qaA t).letter=0 then⟨[],args,1,true⟩
  else if(qaA t).letter=37 then(qbf (t.drop ((qaA t).size-1)) args).ahead [37] 0
  else(qbf (t.drop ((qaA t).size-1)) args.tail).ahead (qgy (qaA t) (qgW args)).1 (qgy (qaA t) (qgW args)).2
termination_by s=>s.length
decreasing_by all_goals (simp;try omega)
def qd8:List UInt8→Nat
 |[]=>0
 |c::t=>
  if c=92 then qd8 (t.drop (max 1 (qc9 t).2-1))
  else if c≠37 then qd8 t
  else if(qaA t).letter=0 then 0
  else if(qaA t).letter=37 then qd8 (t.drop ((qaA t).size-1))
  else qd8 (t.drop ((qaA t).size-1))+1
termination_by s=>s.length
decreasing_by all_goals (simp;try omega)
theorem qig (args:List (List UInt8)):qbf [] args=⟨[],args,0,false⟩:=by rw [qbf]
theorem qjt (c:UInt8) (t:List UInt8) (args:List (List UInt8)):qbf (c::t) args =
  if c=92∧0<(qc9 t).2 then(qbf (t.drop ((qc9 t).2-1)) args).ahead (qc9 t).1 0
  else if c≠37 then(qbf t args).ahead [c] 0
  else if(qaA t).letter=0 then⟨[],args,1,true⟩
  else if(qaA t).letter=37 then(qbf (t.drop ((qaA t).size-1)) args).ahead [37] 0
  else(qbf (t.drop ((qaA t).size-1)) args.tail).ahead (qgy (qaA t) (qgW args)).1 (qgy (qaA t) (qgW args)).2:=by rw [qbf]
theorem qk4:qd8 []=0:=by rw [qd8]
theorem qph (c:UInt8) (t:List UInt8):qd8 (c::t) =
  if c=92 then qd8 (t.drop (max 1 (qc9 t).2-1))
  else if c≠37 then qd8 t
  else if(qaA t).letter=0 then 0
  else if(qaA t).letter=37 then qd8 (t.drop ((qaA t).size-1))
  else qd8 (t.drop ((qaA t).size-1))+1:=by rw [qd8]
def qgf:Nat→List UInt8→List (List UInt8)→List UInt8×Nat
 |0,_,_=>([],0)
 |k+1,f,args=>
  if(qbf f args).over=true∨(qbf f args).left=[]∨qd8 f=0 then((qbf f args).text,(qbf f args).st)
  else((qbf f args).text++(qgf k f (qbf f args).left).1,max (qbf f args).st (qgf k f (qbf f args).left).2)
def qaV (f:List UInt8) (args:List (List UInt8)):List UInt8×Nat:=qgf (args.length+1) f args
def qbn:List (List UInt8)→List UInt8
 |[]=>[]
 |x::r=>x++r.flatMap fun y=>32::y
def echoL (args:List (List UInt8)):List UInt8:=
 match args with
 |[]=>[10]
 |a::r=>if a=[45,110] then qbn r else qbn args++[10]
def qaB:List UInt8→List (List UInt8)
 |[]=>[]
 |c::r=>if c=10 then [c]::qaB r else match qaB r with
  |[]=>[[c]]
  |l::t=>(c::l)::t
theorem qee:∀s:List UInt8,(qaB s).flatten=s
 |[]=>rfl
 |c::r=>by
  have ih:=qee r;unfold qaB;split
  ·simp [ih]
  ·split
   ·rename_i h;rw [h] at ih;simpa using ih.symm
   ·rename_i h;rw [h] at ih;simpa using ih
def qgx (s:List UInt8):Nat:=s.count 10
def qiU (s:List UInt8) (n:Int):List UInt8:=((qaB s).take n.toNat).flatten
def qeY (s:List UInt8) (n:Int):List UInt8:=((qaB s).drop ((qaB s).length-n.toNat)).flatten
def qdT (c:UInt8):Bool:=c==32||c==9||c==10||c==13
def qaZ:Bool→List UInt8→Nat
 |_,[]=>0
 |b,c::r=>if qdT c then qaZ false r else(if b then 0 else 1)+qaZ true r
def qaI:List (List UInt8)→List (List UInt8)
 |[]=>[]
 |[x]=>[x]
 |x::y::r=>if x=y then qaI (y::r) else x::qaI (y::r)
def qkD (s:List UInt8):List UInt8:=qax (qaI (qav s))
theorem qm1 (s:List UInt8):∀x∈qav s,∀c∈x,c≠10:=qh8 _ s (Nat.le_refl _)
def qxy (s:List UInt8):List UInt8:=qax ((qav s).map List.reverse)
def qis (a b:UInt8):List UInt8:=(List.range (b.toNat-a.toNat+1)).map fun k=>(a.toNat+k).toUInt8
def qkS:List UInt8→Option (List UInt8)
 |[]=>some []
 |[a]=>some [a]
 |[a,b]=>some [a,b]
 |a::m::b::t=>if m=45 then(if b<a then none else(qkS t).map (qis a b++·)) else(qkS (m::b::t)).map (a::·)
def qgS (s:List UInt8):List UInt8×Bool:=match qkS (qdk s) with|none=>([],false)|some l=>(l,true)
def swapT (s a b:List UInt8):List UInt8:=s.map fun c=>if c∈a then b.getD (min (a.idxOf c) (b.length-1)) 0 else c
def qe5 (s x y:List UInt8):List UInt8×Bool:=
 if(qgS x).2=false∨(qgS y).2=false∨((qgS y).1=[]∧(qgS x).1≠[]) then([],false) else(swapT s (qgS x).1 (qgS y).1,true)
def qtQ (s x:List UInt8):List UInt8×Bool:=if(qgS x).2=false then([],false) else(s.filter fun c=>!(qgS x).1.contains c,true)
theorem qfH:∀(n:Nat) (l:List UInt8),l.length≤n→((qav l).map List.length).sum≤l.length∧(qax (qav l)).length≤l.length+1
 |n,l,h=>by
  have hj:(qax (qav l)).length≤l.length+1:=by rcases qjk n l h with e|e<;>rw [e]<;>simp
  refine⟨?_,hj⟩
  have key:∀ls:List (List UInt8),(qax ls).length=(ls.map List.length).sum+ls.length:=fun ls=>by
   induction ls with
   |nil=>rfl
   |cons x r ih=>rw [show qax (x::r)=x++[10]++qax r by simp [qax]];simp [ih];omega
  rw [key] at hj;cases l with
  |nil=>rw [qav];exact Nat.zero_le _
  |cons c r=>
   have:(qav (c::r)).length≠0:=by rw [qav];simp
   omega
theorem qkj (ls:List (List UInt8)):(qax ls).length=(ls.map List.length).sum+ls.length:=by
 induction ls with
 |nil=>rfl
 |cons x r ih=>rw [show qax (x::r)=x++[10]++qax r by simp [qax]];simp [ih];omega
theorem qxz (s:List UInt8):(qxy s).length≤s.length+1:=by
 have h:=(qfH _ s (Nat.le_refl _)).2
 unfold qxy;rw [qkj] at h ⊢;rw [List.map_map,List.length_map]
 simpa [Function.comp_def] using h
def qfV (b:Bool) (c:List UInt8):Bool×List UInt8:=(b&&!((c.dropWhile fun c=>c==48).takeWhile qcg).isEmpty,(c.dropWhile fun c=>c==48).takeWhile qcg)
def qvE (c:List UInt8):Bool×List UInt8:=match c with|[]=>qfV false []|x::t=>if x=45 then qfV true t else qfV false (x::t)
def qf8 (s:List UInt8):Bool×List UInt8:=qvE (s.dropWhile qiQ)
theorem qu5 {r:List UInt8} {n:Nat} (hn:n≤r.length) (h:∀j (hj:j<r.length),j<n→qcg r[j]=true) (hs:n=r.length∨∃hl:n<r.length,qcg r[n]=false):r.takeWhile qcg=r.take n:=by
 have h1:∀x∈r.take n,qcg x=true:=fun x hx=>by
  obtain⟨i,hi,rfl⟩:=List.mem_take_iff_getElem.1 hx;exact h i (by omega) (by omega)
 conv=>lhs;rw [← List.take_append_drop n r]
 rw [List.takeWhile_append_of_pos h1];rcases hs with h2|⟨hl,h2⟩
 ·rw [List.drop_of_length_le (by omega)]
  simp
 ·rw [List.drop_eq_getElem_cons hl,List.takeWhile_cons,if_neg (by rw [h2];decide),List.append_nil]
open Classical in
noncomputable def qxQ (a b:List UInt8):Int:=if a.length<b.length∨(a.length=b.length∧a<b) then -1 else if a=b then 0 else 1
def qr6 (x y:Bool) (c:Int) (bl:Bool):Bool:=
 if x=true∧y=false then true else if x=false∧y=true then false else if(if x then -c else c)≠0 then decide ((if x then -c else c)<0) else bl
noncomputable def qkk (n:Bool) (a b:List UInt8):Bool:=if n=true then qr6 (qf8 a).1 (qf8 b).1 (qxQ (qf8 a).2 (qf8 b).2) (Op.bytesLess a b) else Op.bytesLess a b
noncomputable def qdZ (r n:Bool) (x z:List UInt8):Bool:=if r then qkk n z x else qkk n x z
def quM (p:List UInt8→Bool) (os:List (List UInt8)):Nat→Nat
 |0=>0
 |j+1=>if p (os.getD j []) then quM p os j else j+1
noncomputable def qyc (r n:Bool) (os:List (List UInt8)) (x:List UInt8):List (List UInt8):=mid os (quM (qdZ r n x) os os.length) x
noncomputable def qeR (r n:Bool) (ls:List (List UInt8)):List (List UInt8):=ls.foldl (qyc r n) []
noncomputable def qnu (s:List UInt8) (r u n:Bool):List UInt8:=if u then qkD (qax (qeR r n (qav s))) else qax (qeR r n (qav s))
theorem quY (os:List (List UInt8)) (j:Nat) (x:List UInt8):(mid os j x).Perm (x::os):=by
 unfold mid;refine List.perm_middle.trans ?_
 rw [List.take_append_drop]
theorem qjE (r n:Bool):∀(ls acc:List (List UInt8)),(ls.foldl (qyc r n) acc).Perm (acc++ls)
 |[],acc=>by simp
 |x::ls,acc=>by
  rw [List.foldl_cons];refine(qjE r n ls _).trans ?_
  have h:(qyc r n acc x).Perm (x::acc):=quY _ _ _
  refine(h.append_right ls).trans ?_
  rw [List.cons_append];exact List.perm_middle.symm
theorem qeK (r n:Bool) (ls:List (List UInt8)):(qeR r n ls).Perm ls:=by
 have h:=qjE r n ls []
 simpa [qeR] using h
theorem qir (r n:Bool) (ls:List (List UInt8)):(qeR r n ls).length=ls.length:=(qeK r n ls).length_eq
theorem qqt (r n:Bool) (ls:List (List UInt8)):(qax (qeR r n ls)).length=(qax ls).length:=by
 rw [qkj,qkj,qir,((qeK r n ls).map List.length).sum_nat]
theorem qrU (p:List UInt8→Bool) (os:List (List UInt8)):∀j,quM p os j≤j
 |0=>Nat.le_refl _
 |j+1=>by
  rw [quM];split
  ·have:=qrU p os j;omega
  ·exact Nat.le_refl _
def qdX:List UInt8→Nat
 |[]=>0
 |c::r=>(c.toNat-48)*10^r.length+qdX r
theorem dig_lo {c:UInt8} (h:qcg c=true):48≤c.toNat∧c.toNat≤57:=by unfold qcg at h;exact of_decide_eq_true h
theorem qoX:∀d:List UInt8,(∀c∈d,qcg c=true)→qdX d<10^d.length
 |[],_=>by simp [qdX]
 |c::r,h=>by
  have ih:=qoX r fun x hx=>h x (by simp [hx])
  have hc:=dig_lo (h c (by simp))
  rw [qdX,List.length_cons,Nat.pow_succ];have:(c.toNat-48)*10^r.length≤9*10^r.length:=Nat.mul_le_mul_right _ (by omega)
  omega
theorem qws (c:UInt8) (r:List UInt8) (h:qcg c=true) (h0:c≠48):10^r.length≤qdX (c::r):=by
 have hc:=dig_lo h;have hn:c.toNat≠48:=fun e=>h0 (UInt8.toNat_inj.1 e)
 rw [qdX];have:1*10^r.length≤(c.toNat-48)*10^r.length:=Nat.mul_le_mul_right _ (by omega)
 omega
theorem qnI:∀a b:List UInt8,a.length=b.length→(∀c∈a,qcg c=true)→(∀c∈b,qcg c=true)→(a<b↔qdX a<qdX b)
 |[],[],_,_,_=>by simp [qdX]
 |[],_::_,h,_,_=>by simp at h
 |_::_,[],h,_,_=>by simp at h
 |x::a,y::b,h,ha,hb=>by
  have hl:a.length=b.length:=by simpa using h
  have ih:=qnI a b hl (fun c hc=>ha c (by simp [hc])) (fun c hc=>hb c (by simp [hc]))
  have hx:=dig_lo (ha x (by simp))
  have hy:=dig_lo (hb y (by simp))
  have ba:=qoX a fun c hc=>ha c (by simp [hc])
  have bb:=qoX b fun c hc=>hb c (by simp [hc])
  rw [List.cons_lt_cons_iff,qdX,qdX,ih,hl];rw [hl] at ba;constructor
  ·rintro(hlt|⟨rfl,hlt⟩)
   ·rw [UInt8.lt_iff_toNat_lt] at hlt
    have:(x.toNat-48+1)*10^b.length≤(y.toNat-48)*10^b.length:=Nat.mul_le_mul_right _ (by omega)
    rw [Nat.add_mul,Nat.one_mul] at this;omega
   ·omega
  ·intro hv
   by_cases h1:x.toNat<y.toNat
   ·exact .inl (UInt8.lt_iff_toNat_lt.2 h1)
   ·by_cases h2:x.toNat=y.toNat
    ·refine .inr ⟨UInt8.toNat_inj.1 h2,?_⟩
     rw [h2] at hv;omega
    ·have:(y.toNat-48+1)*10^b.length≤(x.toNat-48)*10^b.length:=Nat.mul_le_mul_right _ (by omega)
     rw [Nat.add_mul,Nat.one_mul] at this;omega
def qd6 (d:List UInt8):Prop:=(∀c∈d,qcg c=true)∧∀c r,d=c::r→c≠48
theorem qeN {a b:List UInt8} (ha:qd6 a) (hb:qd6 b):(a.length<b.length∨(a.length=b.length∧a<b))↔qdX a<qdX b:=by
 have short:∀{a b:List UInt8},qd6 a→qd6 b→a.length<b.length→qdX a<qdX b:=fun {a b} ha hb h=>by
  cases b with
  |nil=>simp at h
  |cons c r=>
   have h1:=qoX a ha.1;have h2:=qws c r (hb.1 c (by simp)) (hb.2 c r rfl)
   have h3:10^a.length≤10^r.length:=Nat.pow_le_pow_right (by decide) (by simp at h;omega)
   omega
 constructor
 ·rintro(h|⟨h,hl⟩)
  ·exact short ha hb h
  ·exact(qnI a b h ha.1 hb.1).1 hl
 ·intro hv
  by_cases h1:a.length<b.length
  ·exact .inl h1
  ·by_cases h2:a.length=b.length
   ·exact .inr ⟨h2,(qnI a b h2 ha.1 hb.1).2 hv⟩
   ·have:=short hb ha (by omega)
    omega
theorem qtI {a b:List UInt8} (ha:qd6 a) (hb:qd6 b) (h:qdX a=qdX b):a=b:=by
 have h1:¬(a.length<b.length∨(a.length=b.length∧a<b)):=fun e=>by have:=(qeN ha hb).1 e;omega
 have h2:¬(b.length<a.length∨(b.length=a.length∧b<a)):=fun e=>by have:=(qeN hb ha).1 e;omega
 have hl:a.length=b.length:=by
  have e1:¬a.length<b.length:=fun e=>h1 (.inl e)
  have e2:¬b.length<a.length:=fun e=>h2 (.inl e)
  omega
 exact List.le_antisymm (List.not_lt.1 fun e=>h2 (.inr ⟨hl.symm,e⟩)) (List.not_lt.1 fun e=>h1 (.inr ⟨hl,e⟩))
theorem qvG {a b:List UInt8} (ha:qd6 a) (hb:qd6 b):qxQ a b=if qdX a<qdX b then -1 else if qdX a=qdX b then 0 else 1:=by
 unfold qxQ;by_cases h:qdX a<qdX b
 ·rw [if_pos ((qeN ha hb).2 h),if_pos h]
 ·rw [if_neg (fun e=>h ((qeN ha hb).1 e)),if_neg h]
  by_cases e:a=b
  ·rw [if_pos e,if_pos (by rw [e])]
  ·rw [if_neg e,if_neg (fun x=>e (qtI ha hb x))]
theorem qgw (b:Bool) (c:List UInt8):qd6 (qfV b c).2:=by
 unfold qfV;simp only
 refine⟨fun x hx=>?_,fun x r h=>?_⟩
 ·have:=List.all_takeWhile (p:=qcg) (l:=c.dropWhile fun c=>c==48)
  exact List.all_eq_true.1 this x hx
 ·have hd:∀l:List UInt8,∀y t,l.dropWhile (fun c=>c==48)=y::t→y≠48:=fun l=>by
   induction l with
   |nil=>intro y t h;simp at h
   |cons z l ih=>
    intro y t h
    rw [List.dropWhile_cons] at h;split at h
    ·exact ih y t h
    ·rename_i hz
     cases h
     simpa using hz
  cases e:c.dropWhile (fun c=>c==48) with
  |nil=>rw [e] at h;cases h
  |cons y t=>
   have:=hd c y t e
   rw [e,List.takeWhile_cons] at h;split at h
   ·cases h;exact this
   ·cases h
theorem qfN (s:List UInt8):qd6 (qf8 s).2∧((qf8 s).1=true→(qf8 s).2≠[]):=by
 have hb:∀b c,(qfV b c).1=true→(qfV b c).2≠[]:=fun b c h=>by
  unfold qfV at h ⊢
  simp only [Bool.and_eq_true,Bool.not_eq_true',List.isEmpty_eq_false_iff] at h
  exact h.2
 unfold qf8;generalize s.dropWhile qiQ=c
 unfold qvE;split
 ·exact⟨qgw _ _,hb _ _⟩
 ·split
  ·exact⟨qgw _ _,hb _ _⟩
  ·exact⟨qgw _ _,hb _ _⟩
noncomputable def qkQ (s:List UInt8):Int:=if(qf8 s).1 then -(qdX (qf8 s).2:Int) else(qdX (qf8 s).2:Int)
theorem qkF {d:List UInt8} (h:qd6 d) (hn:d≠[]):0<qdX d:=by
 cases d with
 |nil=>exact absurd rfl hn
 |cons c r=>
  have h1:=qws c r (h.1 c (by simp)) (h.2 c r rfl)
  have:0<10^r.length:=Nat.pow_pos (by decide)
  omega
theorem qfG (a b:List UInt8):qkk true a b=true↔qkQ a<qkQ b∨(qkQ a=qkQ b∧a<b):=by
 obtain⟨ca,na⟩:=qfN a;obtain⟨cb,nb⟩:=qfN b;have hs:=qvG ca cb;unfold qkk qkQ;rw [if_pos rfl,hs,bytesLess_eq];have pa:=fun h=>qkF ca (na h)
 have pb:=fun h=>qkF cb (nb h)
 generalize (qf8 a).1=x at *;generalize (qf8 b).1=y at *;generalize qdX (qf8 a).2=m at *;generalize qdX (qf8 b).2=n at *;cases x<;>cases y
 ·simp only [qr6,Bool.false_eq_true,if_false,and_true,and_false]
  rcases Nat.lt_trichotomy m n with h|h|h
  ·rw [if_pos h];simp;omega
  ·subst h;simp
  ·have e1:¬m<n:=by omega
   have e2:¬m=n:=by omega
   simp [e1,e2];omega
 ·have:=pb rfl
  simp [qr6];omega
 ·have:=pa rfl
  simp [qr6];omega
 ·have h1:=pa rfl
  have h2:=pb rfl;simp only [qr6,if_true,Bool.true_eq_false,and_false,false_and,if_false]
  rcases Nat.lt_trichotomy m n with h|h|h
  ·rw [if_pos h];simp;omega
  ·subst h;simp
  ·have e1:¬m<n:=by omega
   have e2:¬m=n:=by omega
   simp [e1,e2];omega
structure Tot (p:List UInt8→List UInt8→Bool):Prop where
 asymm:∀x y,p x y=true→p y x=false
 trans:∀x y z,p x y=true→p y z=true→p x z=true
 tri:∀x y,p x y=false→p y x=false→x=y
theorem qtw:Tot fun x y=>Op.bytesLess x y where
 asymm x y h:=by
  rw [bytesLess_eq] at h ⊢;exact decide_eq_false (List.not_lt.2 (List.le_of_lt (of_decide_eq_true h)))
 trans x y z h1 h2:=by
  rw [bytesLess_eq] at h1 h2 ⊢;exact decide_eq_true (List.lt_trans (of_decide_eq_true h1) (of_decide_eq_true h2))
 tri x y h1 h2:=by
  rw [bytesLess_eq] at h1 h2;exact List.le_antisymm (List.not_lt.1 (of_decide_eq_false h2)) (List.not_lt.1 (of_decide_eq_false h1))
theorem qvY (n:Bool):Tot (qkk n):=by
 cases n
 ·have e:qkk false=fun x y=>Op.bytesLess x y:=by funext x y;unfold qkk;rw [if_neg (by decide)]
  rw [e];exact qtw
 ·refine⟨fun x y h=>?_,fun x y z h1 h2=>?_,fun x y h1 h2=>?_⟩
  ·rw [← Bool.not_eq_true,qfG]
   rw [qfG] at h;rintro(e|⟨e1,e2⟩)
   ·omega
   ·rcases h with h|⟨h,hl⟩
    ·omega
    ·exact List.lt_irrefl _ (List.lt_trans e2 hl)
  ·rw [qfG] at h1 h2 ⊢
   rcases h1 with h1|⟨h1,l1⟩<;>rcases h2 with h2|⟨h2,l2⟩
   ·exact .inl (by omega)
   ·exact .inl (by omega)
   ·exact .inl (by omega)
   ·exact .inr ⟨by omega,List.lt_trans l1 l2⟩
  ·rw [← Bool.not_eq_true,qfG] at h1 h2
   have e:qkQ x=qkQ y:=by
    have a1:¬qkQ x<qkQ y:=fun e=>h1 (.inl e)
    have a2:¬qkQ y<qkQ x:=fun e=>h2 (.inl e)
    omega
   exact List.le_antisymm (List.not_lt.1 fun l=>h2 (.inr ⟨e.symm,l⟩)) (List.not_lt.1 fun l=>h1 (.inr ⟨e,l⟩))
theorem qdQ (r n:Bool):Tot (qdZ r n):=by
 have h:=qvY n;cases r
 ·exact h
 ·exact⟨fun x y e=>h.asymm _ _ e,fun x y z e1 e2=>h.trans _ _ _ e2 e1,fun x y e1 e2=>h.tri _ _ e2 e1⟩
theorem qjJ {p:List UInt8→List UInt8→Bool} (hp:Tot p):∀{l m:List (List UInt8)},l.Perm m→l.Pairwise (fun x y=>p y x=false)→m.Pairwise (fun x y=>p y x=false)→l=m
 |[],m,h,_,_=>(List.Perm.nil_eq h)
 |a::l,m,h,hl,hm=>by
  have ham:a∈m:=h.subset (List.mem_cons_self ..)
  cases m with
  |nil=>cases ham
  |cons b m=>
   have hab:a=b:=by
    rcases List.mem_cons.1 ham with h1|h1
    ·exact h1
    ·have hba:b∈a::l:=h.symm.subset (List.mem_cons_self ..)
     rcases List.mem_cons.1 hba with h2|h2
     ·exact h2.symm
     ·exact hp.tri _ _ ((List.pairwise_cons.1 hm).1 a h1) ((List.pairwise_cons.1 hl).1 b h2)
   subst hab;rw [qjJ hp (List.perm_cons _ |>.1 h) (List.pairwise_cons.1 hl).2 (List.pairwise_cons.1 hm).2]
theorem qtx {p:List UInt8→List UInt8→Bool} (hp:Tot p) {x y z:List UInt8} (h1:p y x=false) (h2:p z y=false):p z x=false:=by
 cases hz:p z x
 ·rfl
 ·cases hy:p y z
  ·obtain rfl:=hp.tri _ _ hy h2
   rw [h1] at hz;cases hz
  ·have:=hp.trans _ _ _ hy hz
   rw [h1] at this;cases this
theorem qji (p:List UInt8→Bool) (os:List (List UInt8)):∀j,j≤os.length→(∀i (hi:i<os.length),quM p os j≤i→i<j→p os[i]=true)∧(∀i (hi:i<os.length),i+1=quM p os j→p os[i]=false)
 |0,_=>⟨fun i _ _ h=>absurd h (Nat.not_lt_zero _),fun i _ h=>by simp [quM] at h⟩
 |j+1,hj=>by
  obtain⟨h1,h2⟩:=qji p os j (by omega)
  have e:os.getD j []=os[j]:=by rw [List.getD_eq_getElem?_getD,List.getElem?_eq_getElem (by omega)];rfl
  rw [quM,e];cases hp:p os[j]
  ·simp only [Bool.false_eq_true,if_false]
   refine⟨fun i _ a b=>by omega,fun i hi he=>?_⟩
   obtain rfl:i=j:=by omega
   exact hp
  ·simp only [if_true]
   refine⟨fun i hi a b=>?_,h2⟩
   by_cases hij:i=j
   ·subst hij;exact hp
   ·exact h1 i hi a (by omega)
theorem qpI (r n:Bool) (os:List (List UInt8)) (x:List UInt8) (h:os.Pairwise fun a b=>qdZ r n b a=false):(qyc r n os x).Pairwise fun a b=>qdZ r n b a=false:=by
 have hp:=qdQ r n;obtain⟨h1,h2⟩:=qji (qdZ r n x) os os.length (Nat.le_refl _)
 have hle:=qrU (qdZ r n x) os os.length
 unfold qyc mid;generalize quM (qdZ r n x) os os.length=j at *;have hs:=h;rw [← List.take_append_drop j os] at hs;obtain⟨q1,q2,q3⟩:=List.pairwise_append.1 hs;refine List.pairwise_append.2 ⟨q1,List.pairwise_cons.2 ⟨fun b hb=>?_,q2⟩,fun a ha b hb=>?_⟩
 ·obtain⟨i,hi,rfl⟩:=List.getElem_of_mem hb
  rw [List.length_drop] at hi;rw [List.getElem_drop];exact hp.asymm _ _ (h1 (j+i) (by omega) (by omega) (by omega))
 ·rcases List.mem_cons.1 hb with rfl|hb
  ·obtain⟨i,hi,rfl⟩:=List.mem_take_iff_getElem.1 ha
   have hj0:qdZ r n b os[j-1]=false:=h2 (j-1) (by omega) (by omega)
   by_cases e:i=j-1
   ·subst e;exact hj0
   ·have:=List.pairwise_iff_getElem.1 h i (j-1) (by omega) (by omega) (by omega)
    exact qtx hp this hj0
  ·exact q3 a ha b hb
theorem qmd (r n:Bool) (ls:List (List UInt8)):(qeR r n ls).Pairwise fun a b=>qdZ r n b a=false:=by
 have key:∀(ls acc:List (List UInt8)),acc.Pairwise (fun a b=>qdZ r n b a=false)→(ls.foldl (qyc r n) acc).Pairwise fun a b=>qdZ r n b a=false:=fun ls=>by
  induction ls with
  |nil=>intro acc h;exact h
  |cons x ls ih=>intro acc h;exact ih _ (qpI r n acc x h)
 exact key ls [] List.Pairwise.nil
theorem qme (r n:Bool) {ls m:List (List UInt8)} (h:m.Perm ls) (hs:m.Pairwise fun a b=>qdZ r n b a=false):m=qeR r n ls:=
 qjJ (qdQ r n) (h.trans (qeK r n ls).symm) hs (qmd r n ls)
def qjB (b:List UInt8) (r:List UInt8):List UInt8×Bool:=match qkS r with|none=>([],false)|some l=>(b++l,true)
theorem qvC (b:List UInt8):qjB b []=(b,true):=by simp [qjB,qkS]
theorem qoI (b:List UInt8) (a:UInt8) (r:List UInt8) (h:r.length<2∨∃m t,r=m::t∧m≠45):qjB b (a::r)=qjB (b++[a]) r:=by
 unfold qjB
 match r,h with
 |[],_=>simp [qkS]
 |[c],_=>simp [qkS]
 |m::c::t,h=>
  have hm:m≠45:=by
   rcases h with h|⟨m',t',e,h⟩
   ·simp at h;omega
   ·cases e;exact h
  rw [qkS,if_neg hm];cases qkS (m::c::t)<;>simp
theorem qxN (b:List UInt8) (a c:UInt8) (t:List UInt8) (h:a.toNat≤c.toNat):qjB b (a::45::c::t)=qjB (b++qis a c) t:=by
 unfold qjB;rw [qkS,if_pos rfl,if_neg (by rw [UInt8.lt_iff_toNat_lt];omega)];cases qkS t<;>simp
theorem qta (b:List UInt8) (a c:UInt8) (t:List UInt8) (h:c.toNat<a.toNat):qjB b (a::45::c::t)=([],false):=by
 unfold qjB;rw [qkS,if_pos rfl,if_pos (by rw [UInt8.lt_iff_toNat_lt];omega)]
theorem qvD (s:List UInt8):qgS s=qjB [] (qdk s):=by
 unfold qgS qjB;cases qkS (qdk s)<;>simp
theorem qit (a:UInt8) (k:Nat):(List.range (k+1)).map (fun k=>(a.toNat+k).toUInt8)=(List.range k).map (fun k=>(a.toNat+k).toUInt8)++[(a.toNat+k).toUInt8]:=by
 rw [List.range_succ,List.map_append]
 rfl
theorem qns:∀(l o:List UInt8),qkS l=some o→o.length≤256*l.length
 |[],o,h=>by simp [qkS] at h;subst h;simp
 |[a],o,h=>by simp [qkS] at h;subst h;simp
 |[a,b],o,h=>by simp [qkS] at h;subst h;simp
 |a::m::b::t,o,h=>by
  rw [qkS] at h;split at h
  ·split at h
   ·cases h
   ·obtain⟨p,hp,rfl⟩:=Option.map_eq_some_iff.1 h
    have:=qns t p hp
    have h1:=a.toNat_lt;have h2:=b.toNat_lt;simp only [qis,List.length_append,List.length_map,List.length_range,List.length_cons]
    omega
  ·obtain⟨p,hp,rfl⟩:=Option.map_eq_some_iff.1 h
   have:=qns (m::b::t) p hp
   simp only [List.length_cons] at this ⊢
   omega
theorem qj9:∀(n:Nat) (s:List UInt8),s.length≤n→(qdk s).length≤s.length
 |_,[],_=>by rw [qg9];exact Nat.le_refl _
 |0,c::t,h=>by simp at h
 |n+1,c::t,h=>by
  simp only [List.length_cons] at h
  rw [qcS];split
  ·rename_i hc
   have h1:=qj9 n (t.drop ((qc9 t).2-1)) (by rw [List.length_drop];omega)
   have h2:(qc9 t).1.length≤1:=by
    unfold qc9
    repeat' split
    all_goals first|simp|(unfold qu7;repeat' split;all_goals simp)
   rw [List.length_append];rw [List.length_drop] at h1;simp only [List.length_cons]
   omega
  ·have h1:=qj9 n t (by omega)
   simp only [List.length_cons]
   omega
theorem qkv (s:List UInt8):(qgS s).1.length≤256*s.length:=by
 unfold qgS;have h2:=qj9 _ s (Nat.le_refl _)
 split
 ·simp
 ·rename_i l h
  have h1:=qns (qdk s) l h
  simp only
  omega
end Go.Proofs.YtpodopnmkjinhaaGreatDoor
namespace Go.Proofs.YtpodopnmkjinhaaGreatDoor
open Go.Lib (hid)
open Go.RowKit
def qbM (t:List ND):Nat:=(t.map fun n=>n.x.length).sum
theorem qmk (t:List ND) (k:Nat) (h:k<t.length):qbM (t.take (k+1))=qbM (t.take k)+t[k].x.length:=by
 show((t.take (k+1)).map fun n=>n.x.length).sum=((t.take k).map fun n=>n.x.length).sum+_
 rw [List.take_succ_eq_append_getElem h,List.map_append,List.sum_append,List.map_cons,List.map_nil,List.sum_cons,List.sum_nil,Nat.add_zero]
def qwx (t:List ND) (k:Nat) (h:k<t.length):Prop:=
 (0∉t[k].p∧t[k].p≠[])∧qam t[k].p=t[k].p∧t[k].p≠[47]∧(∀_:0<k,t[k-1].p<t[k].p)∧(t[k].d=true→t[k].x=[])∧qbM (t.take (k+1))≤65536∧qak t (qbl t[k].p)=2
def OkT (t:List ND):Prop:=t.length≤256∧∀k (h:k<t.length),qwx t k h
open Classical in
noncomputable def qaC (t:List ND):Int:=if OkT t then 0 else 9
theorem qpc {t:List ND} {k:Nat} {h:k<t.length} (hb:¬qwx t k h):qaC t=9:=by
 unfold qaC;rw [if_neg fun ho=>hb (ho.2 k h)]
def qbj (t:List ND):Prop:=∀n∈t,n.p.length≤274877906944∧n.x.length≤274877906944
theorem qhi {p:List UInt8} (h:0∉p∧p≠[]):qaK p=(qam p,0):=by unfold qaK;rw [if_neg (by rintro(e|e);exact h.1 e;exact h.2 e)]
theorem qej {p:List UInt8} (h:¬(0∉p∧p≠[])):qaK p=([],31):=by
 unfold qaK;rw [if_pos (Classical.byContradiction fun hn=>h ⟨fun e=>hn (.inl e),fun e=>hn (.inr e)⟩)]
set_option maxHeartbeats 16000000 in
theorem qqk (A:Option Addr) (c:Nat) (t:List ND) (w:World) (hT:qal w (fun _=>True) A t) (hl:t.length≤1099511627776) (hz:qbj t):
  Calls prog 8 #[.slice A t.length c] w fun e w'=>e=.returned (.int .i64 (qaC t))∧Below w.heap.size w w':=by
 by_cases h256:256<t.length
 ·have HC:Hid (qaC t=9):=hid (by unfold qaC;rw [if_neg fun ho=>by have:=ho.1;omega])
  have g0:(256:Int)<(t.length:Int):=by omega
  clear h256 hT hz;go_enter func8,ntmps8;go_wp2;go_ret;exact⟨by rw [HC.out];rfl,Below.refl _ _⟩
 have g0:decide ((256:Int)<(t.length:Int))=false:=by simp;omega
 have HL:Hid (t.length≤256):=hid (by omega)
 clear h256;go_enter func8,ntmps8;go_wp2;clear g0;go_loopw [3,4] (fun s i wr=>∃(k n:Nat),k≤t.length∧i=.int .i64 k∧s=.int .i64 n∧n≤65536∧Hid (n=qbM (t.take k))∧Hid (∀j (h:j<t.length),j<k→qwx t j h)∧Below w.heap.size w wr) (fun _ i _=>t.length-(intOf i).toNat)
 case atStart=>exact⟨0,0,Nat.zero_le _,rfl,rfl,by omega,hid rfl,hid (fun j _ h=>absurd h (Nat.not_lt_zero _)),Below.refl _ _⟩
 case round=>
  obtain⟨k,n,hk,rfl,rfl,hn,HN,HZ,hB⟩:=hrel;by_cases hlt:k<t.length
  ·have hTr:=hT.below hB
   obtain⟨hp1,hp2⟩:=hz _ (List.getElem_mem hlt)
   have hsm:=qmk t k hlt;rw [← HN.out] at hsm;obtain⟨g,o,rfl,-,c0,c1,c2⟩:=hTr k hlt;have cP:=fun W=>qsO t[k].p W (by omega)
   have cA:=fun W=>qql t[k].p W (by omega)
   have cK:=fun W (hb:Below wr.heap.size wr W)=>qsW (some ⟨g,o,none⟩) c t (qbl t[k].p) W (hTr.below hb) hl
   have hprev:∀h:0<k,wr.cell? ⟨g,o+(k-1)*3,none⟩=some (encS t[k-1].p):=fun h=>by
    obtain⟨g',o',e,-,d0,-,-⟩:=hTr (k-1) (by omega)
    cases e
    exact d0
   have HB:=hid hB;have HPQ1:(0∉t[k].p∧t[k].p≠[])→qaK t[k].p=(qam t[k].p,0):=qhi
   have HPQ2:¬(0∉t[k].p∧t[k].p≠[])→qaK t[k].p=([],31):=qej
   have HBAD:¬qwx t k hlt→qaC t=9:=fun h=>qpc h
   have HOK:Hid (qwx t k hlt↔((0∉t[k].p∧t[k].p≠[])∧qam t[k].p=t[k].p∧t[k].p≠[47]∧(∀_:0<k,t[k-1].p<t[k].p)∧(t[k].d=true→t[k].x=[])∧qbM (t.take (k+1))≤65536∧qak t (qbl t[k].p)=2)):=hid Iff.rfl
   obtain⟨ok,hok⟩:∃ok:Prop,qwx t k hlt=ok:=⟨_,rfl⟩
   rw [hok] at HBAD HOK;have HO:=hid hok;have HSM:=hid hsm;generalize hpp:t[k].p=p at *;generalize hdd:t[k].d=d at *;generalize hxx:t[k].x=x at *;obtain⟨q,hq⟩:=qQ ((if h:0<k then t[k-1].p else []))
   have hqk:∀h:0<k,t[k-1].p=q:=fun h=>by rw [← hq,dif_pos h]
   have HX:=hid (And.intro hpp (And.intro hdd hxx))
   clear hT hTr hB hok hsm hpp hdd hxx hq;by_cases h1:¬(0∉p∧p≠[])
   ·have HC:Hid (qaC t=9):=hid (HBAD fun h=>h1 (HOK.out.1 h).1)
    rw [HPQ2 h1] at cP;clear HPQ1 HPQ2 HBAD HOK h1 cA cK hprev hqk;go_wp2_with fail;refine(cP _).mono ?_;rintro e w1⟨rfl,hb1⟩;have a0:=cell_below hb1 c0;have a1:=cell_below hb1 c1;have a2:=cell_below hb1 c2
    try have a3:=cell_below hb1 pv
    have HB1:=qH HB hb1;clear c0 c1 c2 hb1 cP;go_wp2;go_ret;exact⟨by rw [HC.out];rfl,HB1.out⟩
   replace h1:0∉p∧p≠[]:=Classical.not_not.1 h1
   rw [HPQ1 h1] at cP;clear HPQ1 HPQ2;by_cases h2:¬(qam p=p)
   ·have HC:Hid (qaC t=9):=hid (HBAD fun h=>h2 (HOK.out.1 h).2.1)
    have q2:(qam p==p)=false:=by simpa using h2
    have q2':(qam p !=p)=true:=by simpa using h2
    clear HBAD HOK h1 h2 cA cK hprev hqk;go_wp2_with fail;refine(cP _).mono ?_;rintro e w1⟨rfl,hb1⟩;have a0:=cell_below hb1 c0;have a1:=cell_below hb1 c1;have a2:=cell_below hb1 c2
    try have a3:=cell_below hb1 pv
    have HB1:=qH HB hb1;clear c0 c1 c2 hb1 cP;go_wp2;go_ret;exact⟨by rw [HC.out];rfl,HB1.out⟩
   replace h2:qam p=p:=Classical.not_not.1 h2
   rw [h2] at cP;by_cases h3:p=[47]
   ·have HC:Hid (qaC t=9):=hid (HBAD fun h=>(HOK.out.1 h).2.2.1 h3)
    have q3:(p==[47])=true:=by simpa using h3
    clear HBAD HOK h1 h2 h3 cA cK hprev hqk;go_wp2_with fail;refine(cP _).mono ?_;rintro e w1⟨rfl,hb1⟩;have a0:=cell_below hb1 c0;have a1:=cell_below hb1 c1;have a2:=cell_below hb1 c2
    try have a3:=cell_below hb1 pv
    have HB1:=qH HB hb1;clear c0 c1 c2 hb1 cP;go_wp2;go_ret;exact⟨by rw [HC.out];rfl,HB1.out⟩
   have q3:(p==[47])=false:=by simpa using h3
   have hk0:(0<k∧¬q<p)∨(0<k∧q<p)∨k=0:=by
    by_cases h:0<k
    ·by_cases h':q<p
     ·exact .inr (.inl ⟨h,h'⟩)
     ·exact .inl ⟨h,h'⟩
    ·exact .inr (.inr (by omega))
   rcases hk0 with ⟨h4,h4'⟩|hk0
   ·have HC:Hid (qaC t=9):=hid (HBAD fun h=>h4' (by have:=(HOK.out.1 h).2.2.2.1 h4;rw [hqk h4] at this;exact this))
    have pv:=hprev h4;rw [hqk h4] at pv;have q4:Op.bytesLess q p=false:=by rw [bytesLess_eq];simpa using h4'
    obtain⟨m,rfl⟩:∃m,k=m+1:=⟨k-1,by omega⟩
    simp only [Nat.add_sub_cancel] at pv
    clear HBAD HOK h1 h2 h3 h4 h4' cA cK hprev hqk;go_wp2_with fail;refine(cP _).mono ?_;rintro e w1⟨rfl,hb1⟩;have a0:=cell_below hb1 c0;have a1:=cell_below hb1 c1;have a2:=cell_below hb1 c2
    try have a3:=cell_below hb1 pv
    have HB1:=qH HB hb1;clear c0 c1 c2 hb1 cP;go_wp2;go_ret;exact⟨by rw [HC.out];rfl,HB1.out⟩
   have h4:∀_:0<k,t[k-1].p<p:=fun h=>by
    rcases hk0 with ⟨_,h'⟩|rfl
    ·rw [hqk h];exact h'
    ·omega
   by_cases h5:¬(d=true→x=[])
   ·have HC:Hid (qaC t=9):=hid (HBAD fun h=>h5 (HOK.out.1 h).2.2.2.2.1)
    have hd:d=true:=Classical.byContradiction fun hn=>h5 fun e=>absurd e hn
    have hx:x≠[]:=fun e=>h5 fun _=>e
    subst hd;have q5:(x==[])=false:=by simpa using hx
    have q5':x.isEmpty=false:=by cases x with|nil=>exact absurd rfl hx|cons y r=>rfl
    clear HBAD HOK h1 h2 h3 h4 h5 hx cA cK;rcases hk0 with ⟨h4,h4'⟩|h0
    ·have pv:=hprev h4
     rw [hqk h4] at pv;have q4:Op.bytesLess q p=true:=by rw [bytesLess_eq];simpa using h4'
     obtain⟨m,rfl⟩:∃m,k=m+1:=⟨k-1,by omega⟩
     simp only [Nat.add_sub_cancel] at pv
     clear hprev hqk h4 h4';go_wp2_with fail;refine(cP _).mono ?_;rintro e w1⟨rfl,hb1⟩;have a0:=cell_below hb1 c0;have a1:=cell_below hb1 c1;have a2:=cell_below hb1 c2
     try have a3:=cell_below hb1 pv
     have HB1:=qH HB hb1;clear c0 c1 c2 hb1 cP;go_wp2;go_ret;exact⟨by rw [HC.out];rfl,HB1.out⟩
    ·subst h0
     simp only [Nat.zero_mul,Nat.add_zero] at c0 c1 c2
     clear hprev hqk;go_wp2_with fail;refine(cP _).mono ?_;rintro e w1⟨rfl,hb1⟩;have a0:=cell_below hb1 c0;have a1:=cell_below hb1 c1;have a2:=cell_below hb1 c2
     try have a3:=cell_below hb1 pv
     have HB1:=qH HB hb1;clear c0 c1 c2 hb1 cP;go_wp2;go_ret;exact⟨by rw [HC.out];rfl,HB1.out⟩
   replace h5:d=true→x=[]:=Classical.not_not.1 h5
   have q5:d=false∨(d=true∧x=[]):=by
    cases d
    ·exact .inl rfl
    ·exact .inr ⟨rfl,h5 rfl⟩
   by_cases h6:65536<n+x.length
   ·have HC:Hid (qaC t=9):=hid (HBAD fun h=>by have:=(HOK.out.1 h).2.2.2.2.2.1;have:=HSM.out;omega)
    have q6:(65536:Int)<(n:Int)+(x.length:Int):=by omega
    have hd:d=false:=by
     rcases q5 with h|⟨_,h⟩
     ·exact h
     ·rw [h] at h6;simp at h6;omega
    subst hd;clear HBAD HOK h1 h2 h3 h4 h5 h6 cA cK q5;rcases hk0 with ⟨h4,h4'⟩|h0
    ·have pv:=hprev h4
     rw [hqk h4] at pv;have q4:Op.bytesLess q p=true:=by rw [bytesLess_eq];simpa using h4'
     obtain⟨m,rfl⟩:∃m,k=m+1:=⟨k-1,by omega⟩
     simp only [Nat.add_sub_cancel] at pv
     clear hprev hqk h4 h4';go_wp2_with fail;refine(cP _).mono ?_;rintro e w1⟨rfl,hb1⟩;have a0:=cell_below hb1 c0;have a1:=cell_below hb1 c1;have a2:=cell_below hb1 c2
     try have a3:=cell_below hb1 pv
     have HB1:=qH HB hb1;clear c0 c1 c2 hb1 cP;go_wp2;go_ret;exact⟨by rw [HC.out];rfl,HB1.out⟩
    ·subst h0
     simp only [Nat.zero_mul,Nat.add_zero] at c0 c1 c2
     clear hprev hqk;go_wp2_with fail;refine(cP _).mono ?_;rintro e w1⟨rfl,hb1⟩;have a0:=cell_below hb1 c0;have a1:=cell_below hb1 c1;have a2:=cell_below hb1 c2
     try have a3:=cell_below hb1 pv
     have HB1:=qH HB hb1;clear c0 c1 c2 hb1 cP;go_wp2;go_ret;exact⟨by rw [HC.out];rfl,HB1.out⟩
   have q6:decide ((65536:Int)<(n:Int)+(x.length:Int))=false:=by simp;omega
   by_cases h7:¬(qak t (qbl p)=2)
   ·have HC:Hid (qaC t=9):=hid (HBAD fun h=>h7 (HOK.out.1 h).2.2.2.2.2.2)
    have q7:(qak t (qbl p) !=2)=true:=by simpa using h7
    have q7':(qak t (qbl p)==2)=false:=by simpa using h7
    generalize qak t (qbl p)=K at *;clear HBAD HOK h1 h2 h3 h4 h5 h6 h7;rcases hk0 with ⟨h4,h4'⟩|h0
    ·have pv:=hprev h4
     rw [hqk h4] at pv;have q4:Op.bytesLess q p=true:=by rw [bytesLess_eq];simpa using h4'
     obtain⟨m,rfl⟩:∃m,k=m+1:=⟨k-1,by omega⟩
     simp only [Nat.add_sub_cancel] at pv
     clear hprev hqk h4 h4';rcases q5 with rfl|⟨rfl,rfl⟩
     all_goals
      go_wp2_with fail;refine(cP _).mono ?_;rintro e w1⟨rfl,hb1⟩;have a0:=cell_below hb1 c0;have a1:=cell_below hb1 c1;have a2:=cell_below hb1 c2
      try have a3:=cell_below hb1 pv
      have HB1:=hid hb1;clear c0 c1 c2 hb1 cP;go_wp2_with fail;refine(cA _).mono ?_;rintro e w2⟨rfl,hb2⟩;have hb12:=HB1.out.trans (hb2.mono HB1.out.size)
      have HB2:=hid hb12;have cK2:=cK w2 hb12;clear hb2 hb12 cK cA a0 a1 a2;go_wp2_with (go_at_call 17;refine cK2.mono ?_;rintro e w3 ⟨rfl,rfl⟩)
      go_ret;exact⟨by rw [HC.out];rfl,HB.out.trans (HB2.out.mono HB.out.size)⟩
    ·subst h0
     simp only [Nat.zero_mul,Nat.add_zero] at c0 c1 c2
     clear hprev hqk;rcases q5 with rfl|⟨rfl,rfl⟩
     all_goals
      go_wp2_with fail;refine(cP _).mono ?_;rintro e w1⟨rfl,hb1⟩;have a0:=cell_below hb1 c0;have a1:=cell_below hb1 c1;have a2:=cell_below hb1 c2
      try have a3:=cell_below hb1 pv
      have HB1:=hid hb1;clear c0 c1 c2 hb1 cP;go_wp2_with fail;refine(cA _).mono ?_;rintro e w2⟨rfl,hb2⟩;have hb12:=HB1.out.trans (hb2.mono HB1.out.size)
      have HB2:=hid hb12;have cK2:=cK w2 hb12;clear hb2 hb12 cK cA a0 a1 a2;go_wp2_with (go_at_call 17;refine cK2.mono ?_;rintro e w3 ⟨rfl,rfl⟩)
      go_ret;exact⟨by rw [HC.out];rfl,HB.out.trans (HB2.out.mono HB.out.size)⟩
   replace h7:qak t (qbl p)=2:=Classical.not_not.1 h7
   have HOKK:Hid (∀j (h:j<t.length),j<k+1→qwx t j h):=hid (fun j hj hjk=>by
    by_cases e:j=k
    ·subst e
     rw [HO.out];exact HOK.out.2 ⟨h1,h2,h3,h4,h5,by have:=HSM.out;omega,h7⟩
    ·exact HZ.out j hj (by omega))
   have HNN:Hid (n+x.length=qbM (t.take (k+1))):=hid HSM.out.symm
   rw [h7] at cK;have hn6:n+x.length≤65536:=by omega
   clear HBAD HOK h1 h2 h3 h4 h5 h6 h7;rcases hk0 with ⟨h4,h4'⟩|h0
   ·have pv:=hprev h4
    rw [hqk h4] at pv;have q4:Op.bytesLess q p=true:=by rw [bytesLess_eq];simpa using h4'
    obtain⟨m,rfl⟩:∃m,k=m+1:=⟨k-1,by omega⟩
    simp only [Nat.add_sub_cancel] at pv
    clear hprev hqk h4 h4';rcases q5 with rfl|⟨rfl,rfl⟩
    all_goals
     go_wp2_with fail;refine(cP _).mono ?_;rintro e w1⟨rfl,hb1⟩;have a0:=cell_below hb1 c0;have a1:=cell_below hb1 c1;have a2:=cell_below hb1 c2
     try have a3:=cell_below hb1 pv
     have HB1:=hid hb1;clear c0 c1 c2 hb1 cP;go_wp2_with fail;refine(cA _).mono ?_;rintro e w2⟨rfl,hb2⟩;have hb12:=HB1.out.trans (hb2.mono HB1.out.size)
     have HB2:=hid hb12;have cK2:=cK w2 hb12;clear hb2 hb12 cK cA a0 a1 a2;go_wp2_with (go_at_call 17;refine cK2.mono ?_;rintro e w3 ⟨rfl,rfl⟩)
     go_roundw
     case rel=>exact⟨m+1+1,n+_,by omega,by go_num,by go_num,hn6,HNN,HOKK,HB.out.trans (HB2.out.mono HB.out.size)⟩
     case measure=>simp [intOf];omega
   ·subst h0
    simp only [Nat.zero_mul,Nat.add_zero] at c0 c1 c2
    clear hprev hqk;rcases q5 with rfl|⟨rfl,rfl⟩
    all_goals
     go_wp2_with fail;refine(cP _).mono ?_;rintro e w1⟨rfl,hb1⟩;have a0:=cell_below hb1 c0;have a1:=cell_below hb1 c1;have a2:=cell_below hb1 c2
     try have a3:=cell_below hb1 pv
     have HB1:=hid hb1;clear c0 c1 c2 hb1 cP;go_wp2_with fail;refine(cA _).mono ?_;rintro e w2⟨rfl,hb2⟩;have hb12:=HB1.out.trans (hb2.mono HB1.out.size)
     have HB2:=hid hb12;have cK2:=cK w2 hb12;clear hb2 hb12 cK cA a0 a1 a2;go_wp2_with (go_at_call 17;refine cK2.mono ?_;rintro e w3 ⟨rfl,rfl⟩)
     go_roundw
     case rel=>exact⟨0+1,n+_,by omega,by go_num,by go_num,hn6,HNN,HOKK,HB.out.trans (HB2.out.mono HB.out.size)⟩
     case measure=>simp [intOf];omega
  ·obtain rfl:k=t.length:=by omega
   have HC:Hid (qaC t=0):=hid (by unfold qaC;rw [if_pos ⟨HL.out,fun j hj=>HZ.out j hj hj⟩])
   clear HZ HN hT hz;go_wp2;go_ret;exact⟨by rw [HC.out];rfl,hB⟩
open Classical in
noncomputable def qga (t:List ND) (p:List UInt8):List UInt8×Int:=if OkT t then qaK p else([],9)
theorem qk3 (t:List ND):(OkT t∧qaC t=0)∨(¬OkT t∧qaC t=9):=by
 unfold qaC;by_cases h:OkT t
 ·rw [if_pos h];exact .inl ⟨h,rfl⟩
 ·rw [if_neg h];exact .inr ⟨h,rfl⟩
theorem qin (p:List UInt8):qaK p=(qam p,0)∨qaK p=([],31):=by
 by_cases h:0∉p∧p≠[]
 ·exact .inl (qhi h)
 ·exact .inr (qej h)
theorem qb8 (t:List ND) (p:List UInt8):(qga t p=(qam p,0)∧OkT t∧qaK p=(qam p,0))∨(qga t p=([],31)∧OkT t∧qaK p=([],31))∨(qga t p=([],9)∧¬OkT t):=by
 unfold qga;by_cases h:OkT t
 ·rw [if_pos h]
  rcases qin p with e|e
  ·exact .inl ⟨e,h,e⟩
  ·exact .inr (.inl ⟨e,h,e⟩)
 ·rw [if_neg h];exact .inr (.inr ⟨rfl,h⟩)
theorem qbY (t:List ND) (p:List UInt8):(qak t p=0∧p≠[47]∧qbU t p=none)∨(qak t p=1∧p≠[47]∧∃n,qbU t p=some n∧n.d=false)∨(qak t p=2∧(p=[47]∨∃n,qbU t p=some n∧n.d=true)):=by
 unfold qak;by_cases hp:p=[47]
 ·rw [if_pos hp];exact .inr (.inr ⟨rfl,.inl hp⟩)
 ·rw [if_neg hp]
  cases hf:qbU t p with
  |none=>exact .inl ⟨rfl,hp,rfl⟩
  |some n=>
   cases hd:n.d
   ·exact .inr (.inl ⟨by simp [hd],hp,n,rfl,hd⟩)
   ·exact .inr (.inr ⟨by simp [hd],.inr ⟨n,rfl,hd⟩⟩)
noncomputable def qg0 (t:List ND) (p:List UInt8):List UInt8×Int:=
 if(qga t p).2≠0 then([],(qga t p).2) else if qak t (qam p)=0 then([],71) else if qak t (qam p)=2 then([],15) else(((qbU t (qam p)).map (·.x)).getD [],0)
theorem qn9 {t:List ND} {p:List UInt8} {e:Int} (h:qga t p=([],e)) (he:e≠0):qg0 t p=([],e):=by
 unfold qg0;rw [h,if_pos he]
noncomputable def qa0 (t:List ND) (p:List UInt8):Int:=if(qga t p).2≠0 then 0 else qak t (qam p)
def qbd (t:List ND) (p:List UInt8):Int:=if qak t (qbl p)=0 then 71 else if qak t (qbl p)=1 then 16 else 0
def qa7 (x:ND):List Value:=[encS x.p,.bool x.d,encS x.x]
abbrev qzw (x:ND):Value:=.agg #[encS x.p,.bool x.d,encS x.x]
theorem qhZ:(prog.info? 48).map (fun i=>(i.zero,i.size,i.bytes))=some (some (.agg #[.string .empty,.bool false,.string .empty]),3,40):=by kernel_rfl
theorem qhS:∀(ys:List ND) (k:Nat) (hk:k<ys.length) (j:Nat),j<3→(ys.flatMap qa7)[k*3+j]?=(qa7 ys[k])[j]?
 |y::r,0,_,j,hj=>by
  rw [List.flatMap_cons,Nat.zero_mul,Nat.zero_add,List.getElem?_append_left (by simpa [qa7] using hj)]
  rfl
 |y::r,k+1,hk,j,hj=>by
  rw [List.flatMap_cons,List.getElem?_append_right (by simp [qa7];omega)];have e:(k+1)*3+j-(qa7 y).length=k*3+j:=by simp [qa7];omega
  rw [e,qhS r k (by simpa using hk) j hj]
  rfl
def qfr (w:World) (N:Nat) (a:Option Addr) (c:Nat) (ys:List ND):Prop:=w.ownsRow N 48 3 (.slice a ys.length c) ys.length (ys.flatMap qa7)
theorem qfr.nodes {w:World} {N:Nat} {a:Option Addr} {c:Nat} {ys:List ND} (h:qfr w N a c ys):qal w (fun g=>N≤g) a ys:=fun k hk=>by
 rcases h.2 with ⟨hv,h0⟩|⟨g,cap,cur,hv,hN,_⟩
 ·omega
 ·cases hv
  have hc:∀j,j<3→∀u,(qa7 ys[k])[j]?=some u→w.cell? ⟨g,0+k*3+j,none⟩=some u:=fun j hj u hu=>by
   have:=World.ownsRow.cells (g:=g) h rfl (k*3+j) u (by rw [qhS ys k hk j hj];exact hu)
   rw [qgG] at this;rw [show 0+k*3+j=0+(k*3+j) by omega];exact this
  exact⟨g,0,rfl,hN,by simpa using hc 0 (by omega) _ rfl,hc 1 (by omega) _ rfl,hc 2 (by omega) _ rfl⟩
theorem qfr.kept {w w':World} {N:Nat} {a:Option Addr} {c:Nat} {ys:List ND} (h:qfr w N a c ys) (hb:Below w.heap.size w w'):qfr w' N a c ys:=by
 refine qik h fun g hg=>?_
 exact hb.block g (h.lt g hg).2
theorem qfr.next {w:World} {N g c:Nat} {ys:List ND} {y:ND} (h:w.ownsRow N 48 3 (.slice (some ⟨g,0,none⟩) (ys.length+1) c) (ys.length+1) (ys.flatMap qa7++qa7 y)):qfr w N (some ⟨g,0,none⟩) c (ys++[y]):=by
 unfold qfr;rw [List.length_append,List.flatMap_append]
 simpa using h
def stepW (n:ND) (q:List ND×Bool) (x:ND):List ND×Bool:=
 if q.2=false∧¬x.p<n.p then(if x.p=n.p then(q.1++[n],true) else(q.1++[n]++[x],true)) else if x.p=n.p then q else(q.1++[x],q.2)
def qlp (n:ND) (t:List ND) (k:Nat):List ND×Bool:=(t.take k).foldl (stepW n) ([],false)
def qbT (t:List ND) (n:ND):List ND:=(qlp n t t.length).1++if(qlp n t t.length).2 then [] else [n]
theorem qpG (n:ND) (t:List ND) (k:Nat) (h:k<t.length):qlp n t (k+1)=stepW n (qlp n t k) t[k]:=by
 unfold qlp;rw [List.take_succ_eq_append_getElem h,List.foldl_append]
 rfl
theorem qfP {w:World} {N M e k n:Nat} {v:Value} {xs:List Value} (h:w.ownsRow N e k v n xs) (hb:M≤N):w.ownsRow M e k v n xs:=by
 refine⟨h.1,?_⟩
 rcases h.2 with h0|⟨g,cap,cur,hv,h1,h2,h3⟩
 ·exact .inl h0
 ·exact .inr ⟨g,cap,cur,hv,by omega,h2,h3⟩
def qiN (W:World) (g:Nat) (a b c:Value):Prop:=W.heap[g]?=some (.cells #[a,b,c] 48 (0,0))
theorem qiN.a0 {W:World} {g:Nat} {a b c:Value} (h:qiN W g a b c):W.cell? ⟨g,0,none⟩=some a:=by unfold qiN at h;simp [World.cell?,h]
theorem qiN.a1 {W:World} {g:Nat} {a b c:Value} (h:qiN W g a b c):W.cell? ⟨g,1,none⟩=some b:=by unfold qiN at h;simp [World.cell?,h]
theorem qiN.a2 {W:World} {g:Nat} {a b c:Value} (h:qiN W g a b c):W.cell? ⟨g,2,none⟩=some c:=by unfold qiN at h;simp [World.cell?,h]
theorem qlq (n:ND) (t:List ND):∀k,k≤t.length→∀y∈(qlp n t k).1,y=n∨y∈t
 |0,_,y,h=>by simp [qlp] at h
 |k+1,hk,y,h=>by
  have ih:=qlq n t k (by omega) y
  have hx:t[k]∈t:=List.getElem_mem _
  rw [qpG n t k (by omega)] at h;unfold stepW at h;split at h
  ·split at h
   ·rcases List.mem_append.1 h with h|h
    ·exact ih h
    ·exact .inl (by simpa using h)
   ·rcases List.mem_append.1 h with h|h
    ·rcases List.mem_append.1 h with h|h
     ·exact ih h
     ·exact .inl (by simpa using h)
    ·exact .inr (by rw [List.mem_singleton.1 h];exact hx)
  ·split at h
   ·exact ih h
   ·rcases List.mem_append.1 h with h|h
    ·exact ih h
    ·exact .inr (by rw [List.mem_singleton.1 h];exact hx)
theorem qiL {t:List ND} {n y:ND} (h:y∈qbT t n):y=n∨y∈t:=by
 rcases List.mem_append.1 h with h|h
 ·exact qlq n t t.length (Nat.le_refl _) y h
 ·split at h
  ·cases h
  ·exact .inl (by simpa using h)
def qfc (z:List ND):List ND×Int:=if z.length≤256∧qbM z≤65536 then(z,0) else([],17)
theorem qdE (z:List ND):((z.length≤256∧qbM z≤65536)∧qfc z=(z,0))∨(¬(z.length≤256∧qbM z≤65536)∧qfc z=([],17)):=by
 unfold qfc;by_cases h:z.length≤256∧qbM z≤65536
 ·rw [if_pos h];exact .inl ⟨h,rfl⟩
 ·rw [if_neg h];exact .inr ⟨h,rfl⟩
def qi0 (w:World) (q:List ND×Int) (e:Ending) (w':World):Prop:=∃a c,e=.returned (.tuple #[.slice a q.1.length c,.int .i64 q.2])∧qfr w' w.heap.size a c q.1∧Below w.heap.size w w'
noncomputable def qox (t:List ND) (p x:List UInt8):List ND×Int:=
 if(qga t p).2≠0 then([],(qga t p).2) else if qak t (qam p)=2 then([],15) else if qbd t (qam p)≠0 then([],qbd t (qam p)) else qfc (qbT t ⟨qam p,false,x⟩)
noncomputable def mkQ (t:List ND) (p:List UInt8):List ND×Int:=
 if(qga t p).2≠0 then([],(qga t p).2) else if qak t (qam p)≠0 then([],14) else if qbd t (qam p)≠0 then([],qbd t (qam p)) else qfc (qbT t ⟨qam p,true,[]⟩)
theorem qoP {t:List ND} {n:ND} (h:n∈t):n.x.length≤qbM t:=by
 induction t with
 |nil=>cases h
 |cons m r ih=>
  have e:qbM (m::r)=m.x.length+qbM r:=by simp [qbM]
  rcases List.mem_cons.1 h with rfl|h
  ·omega
  ·have:=ih h;omega
theorem OkT.sum {t:List ND} (h:OkT t):qbM t≤65536:=by
 cases ht:t.length with
 |zero=>rw [List.length_eq_zero_iff.1 ht];exact Nat.zero_le _
 |succ m=>
  have h1:=(h.2 m (by omega)).2.2.2.2.2.1
  rwa [← ht,List.take_of_length_le (Nat.le_refl _)] at h1
end Go.Proofs.YtpodopnmkjinhaaGreatDoor
namespace Go.Proofs.YtpodopnmkjinhaaGreatDoor
open Go.RowKit
def qaf (l:List (List UInt8)):Nat:=(l.map fun x=>x.length+1).sum
theorem qaG:∀l:List (List UInt8),l.length≤qaf l
 |[]=>Nat.zero_le _
 |x::r=>by
  have:=qaG r
  simp only [qaf,List.map_cons,List.sum_cons,List.length_cons] at this ⊢
  omega
theorem qaH:∀(l:List (List UInt8)) (x:List UInt8),x∈l→x.length+1≤qaf l
 |a::r,x,h=>by
  simp only [qaf,List.map_cons,List.sum_cons]
  rcases List.mem_cons.1 h with rfl|h
  ·omega
  ·have:=qaH r x h
   simp only [qaf] at this
   omega
def qsx (s:List UInt8):Bool:=match s with|c::_::_=>c==45|_=>false
theorem qsy:∀(s:List UInt8) (h:1<s.length),qsx s=(s[0]==45)
 |_::_::_,_=>rfl
theorem qqc:∀(s:List UInt8),¬1<s.length→qsx s=false
 |[],_=>rfl
 |[_],_=>rfl
 |_::_::_,h=>by simp at h
structure LQ where
 out:List UInt8
 rest:List (List UInt8)
 ok:Bool
def qab (set:List UInt8):List UInt8→List (List UInt8)→LQ
 |out,[]=>⟨out,[],true⟩
 |out,x::r=>if qsx x then(if(x.drop 1).all (set.contains ·) then qab set (out++x.drop 1) r else⟨[],[],false⟩) else⟨out,x::r,true⟩
theorem qbs (set out x:List UInt8) (r:List (List UInt8)):qab set out (x::r)=if qsx x then(if(x.drop 1).all (set.contains ·) then qab set (out++x.drop 1) r else⟨[],[],false⟩) else⟨out,x::r,true⟩:=rfl
theorem qa6 (set:List UInt8):∀(l:List (List UInt8)) (out:List UInt8),(qab set out l).out.length+qaf (qab set out l).rest≤out.length+qaf l
 |[],out=>Nat.le_refl _
 |x::r,out=>by
  rw [qbs];split
  ·split
   ·have:=qa6 set r (out++x.drop 1)
    have hs:qaf (x::r)=x.length+1+qaf r:=by simp [qaf]
    rw [List.length_append,List.length_drop] at this;omega
   ·simp [qaf]
  ·exact Nat.le_refl _
structure TQ where
 out:List UInt8
 read:Bool
 st:Int
noncomputable def qaj (t:List ND) (inn:List UInt8) (q:TQ) (x:List UInt8):TQ:=
 if x=[45] then⟨if q.read then q.out else q.out++inn,true,q.st⟩ else⟨q.out++(qg0 t x).1,q.read,if(qg0 t x).2≠0 then 1 else q.st⟩
noncomputable def qaY (t:List ND) (inn:List UInt8) (l:List (List UInt8)):TQ:=if l=[] then⟨inn,true,0⟩ else l.foldl (qaj t inn) ⟨[],false,0⟩
theorem qlo {t:List ND} (h:OkT t) (x:List UInt8):(qg0 t x).1.length≤65536:=by
 unfold qg0;split
 ·exact Nat.zero_le _
 ·split
  ·exact Nat.zero_le _
  ·split
   ·exact Nat.zero_le _
   ·simp only
    cases hf:qbU t (qam x) with
    |none=>exact Nat.zero_le _
    |some n=>
     rcases qjc t (qam x) with ⟨i,hi,-,f2,-⟩|⟨-,f2,-⟩
     ·rw [f2] at hf
      cases hf
      have h1:qbM t≤65536:=h.sum
      have h2:=qoP (List.getElem_mem hi)
      simp only [Option.map_some,Option.getD_some]
      omega
     ·rw [f2] at hf;cases hf
theorem qer (t:List ND) (inn:List UInt8) (l:List (List UInt8)) (k:Nat) (h:k<l.length):(l.take (k+1)).foldl (qaj t inn) ⟨[],false,0⟩=qaj t inn ((l.take k).foldl (qaj t inn) ⟨[],false,0⟩) l[k]:=by
 rw [List.take_succ_eq_append_getElem h,List.foldl_append]
 rfl
theorem qmm (t:List ND) (hok:OkT t) (inn:List UInt8) (l:List (List UInt8)):(qaY t inn l).out.length≤l.length*65536+inn.length:=by
 have key:∀(l:List (List UInt8)) (q:TQ),(l.foldl (qaj t inn) q).out.length+(if(l.foldl (qaj t inn) q).read then 0 else inn.length)≤q.out.length+(if q.read then 0 else inn.length)+l.length*65536:=fun l=>by
  induction l with
  |nil=>intro q;simp only [List.foldl_nil,List.length_nil,Nat.zero_mul,Nat.add_zero];exact Nat.le_refl _
  |cons x l ih=>
   intro q
   rw [List.foldl_cons];refine Nat.le_trans (ih _) ?_
   have hs:(qaj t inn q x).out.length+(if(qaj t inn q x).read then 0 else inn.length)≤q.out.length+(if q.read then 0 else inn.length)+65536:=by
    unfold qaj;obtain⟨o,r,s⟩:=q;split
    ·cases r
     ·simp only [Bool.false_eq_true,if_false,if_true,List.length_append];omega
     ·simp only [if_true];omega
    ·have:=qlo hok x
     simp only [List.length_append]
     omega
   rw [List.length_cons,Nat.add_mul];omega
 unfold qaY;split
 ·simp
 ·have h:=key l ⟨[],false,0⟩
  simp only [List.length_nil,Bool.false_eq_true,if_false] at h
  omega
noncomputable def qwp (name o s:List UInt8):List UInt8:=
 if name=[115,111,114,116] then qnu s (o.contains 114) (o.contains 117) (o.contains 110) else if name=[117,110,105,113] then qkD s else if name=[114,101,118] then qxy s else s
def qbC (name:List UInt8):List UInt8:=if name=[115,111,114,116] then [114,117,110] else []
noncomputable def qes (name:List UInt8) (t:List ND) (inn:List UInt8) (args:List (List UInt8)):TQ:=
 if(qab (qbC name) [] args).ok=false then⟨[],false,2⟩
 else⟨qwp name (qab (qbC name) [] args).out (qaY t inn (qab (qbC name) [] args).rest).out,(qaY t inn (qab (qbC name) [] args).rest).read,(qaY t inn (qab (qbC name) [] args).rest).st⟩
def qeh (s:List UInt8):Int:=if(s.all qcg&&!s.isEmpty)=true∧s.length≤6 then(qah s).1 else -1
end Go.Proofs.YtpodopnmkjinhaaGreatDoor
namespace Go.Proofs.YtpodopnmkjinhaaGreatDoor
open Go.Lib (hid)
open Go.RowKit
theorem qoc:(prog.info? 71).map (·.size)=some 2:=by kernel_rfl
theorem qua:prog.cellsOf 5=1:=by kernel_rfl
structure Bears (B b:Nat) (w w':World):Prop where
 os:w'.os=w.os
 tape:w'.tape=w.tape
 output:w'.output=w.output
 size:w.heap.size≤w'.heap.size
 block:∀g,g<w.heap.size→g≠b→(g<B∨∃cs T fr,w.heap[g]?=some (.cells cs T fr)∧T≠5)→w'.heap[g]?=w.heap[g]?
theorem Bears.refl (B b:Nat) (w:World):Bears B b w w:=⟨rfl,rfl,rfl,Nat.le_refl _,fun _ _ _ _=>rfl⟩
theorem Bears.trans {B b:Nat} {w w' w'':World} (h:Bears B b w w') (k:Bears B b w' w''):Bears B b w w'':=
 ⟨k.os.trans h.os,k.tape.trans h.tape,k.output.trans h.output,Nat.le_trans h.size k.size,fun g hg hb ho=>by
  have e:=h.block g hg hb ho;exact(k.block g (Nat.lt_of_lt_of_le hg h.size) hb (ho.imp_right fun⟨cs,T,fr,h1,h2⟩=>⟨cs,T,fr,e.trans h1,h2⟩)).trans e⟩
theorem Bears.of_below {B b:Nat} {w w':World} (h:Below w.heap.size w w'):Bears B b w w':=⟨h.os,h.tape,h.output,h.size,fun g hg _ _=>h.block g hg⟩
theorem Bears.drew {B b:Nat} {w w':World} (h:Bears B b w w'):Bears B b w w'.drew:=⟨h.os,h.tape,h.output,h.size,h.block⟩
theorem Bears.setCell {B b:Nat} {w w':World} (h:Bears B b w w') (o:Nat) (v:Value):Bears B b w (w'.setCell ⟨b,o,none⟩ v):=
 h.trans ⟨rfl,rfl,rfl,by simp,fun g _ hb _=>Below.heap_setCell _ _ _ _ hb⟩
theorem Bears.alloc {B b:Nat} {w w':World} (h:Bears B b w w') (o:Obj):Bears B b w (w'.alloc o):=h.trans (Bears.of_below ((Below.refl _ _).alloc (Nat.le_refl _) o))
theorem Bears.below {B b:Nat} {w w':World} (h:Bears B b w w') (hb:B≤b) (hw:B≤w.heap.size):Below B w w':=⟨h.os,h.tape,h.output,h.size,fun g hg=>h.block g (by omega) (by omega) (.inl hg)⟩
theorem Bears.row {B b N n k:Nat} {w w':World} {e:TypeId} {v:Value} {xs:List Value} (h:Bears B b w w') (hR:w.ownsRow N e k v n xs) (he:e≠5) (hv:v.ownBlock≠some b):w'.ownsRow N e k v n xs:=by
 refine⟨hR.1,?_⟩
 rcases hR.2 with h0|⟨g,cap,cur,hv',h1,h2,h3⟩
 ·exact .inl h0
 ·exact .inr ⟨g,cap,cur,hv',h1,(h.block g (lt_of_block h2) (fun e=>hv (by rw [hv',e];rfl)) (.inr ⟨_,_,_,h2,he⟩)).trans h2,h3⟩
def qzy (w:World) (B b o:Nat) (p v:Value) (l:List UInt8):Prop:=
 (p=.pointer (some ⟨b,o,none⟩)∨(p=.pointer none∧l=[]))∧w.ownsRow B 5 1 v l.length (Lib.byteCells l)∧(v=.slice none 0 0↔l=[])
def Bld (T:TypeId) (B b o:Nat) (cs:Array Value) (l:List UInt8) (w:World):Prop:=
 B≤b∧T≠5∧w.heap[b]?=some (.cells cs T (0,0))∧∃p v,cs[o]?=some p∧cs[o+1]?=some v∧qzy w B b o p v l
theorem qb9 (T:TypeId) (w:World) (B b o:Nat) (cs:Array Value) (hT:T≠5) (hB:B≤b) (hb:w.heap[b]?=some (.cells cs T (0,0))) (h0:cs[o]?=some (.pointer none)) (h1:cs[o+1]?=some (.slice none 0 0)):Bld T B b o cs [] w:=
 ⟨hB,hT,hb,_,_,h0,h1,.inr ⟨rfl,rfl⟩,World.ownsRow_nil _ _ _ _,by simp⟩
theorem Bld.lt {T:TypeId} {B b o:Nat} {cs:Array Value} {l:List UInt8} {w:World} (h:Bld T B b o cs l w):b<w.heap.size:=lt_of_block h.2.2.1
theorem Bld.below {T:TypeId} {B b o:Nat} {cs:Array Value} {l:List UInt8} {w w':World} (h:Bld T B b o cs l w) (hb:Below w.heap.size w w'):Bld T B b o cs l w':=by
 obtain⟨hB,hT,hbk,p,v,h0,h1,h2,h3,h4⟩:=h;exact⟨hB,hT,qac hbk hb,p,v,h0,h1,h2,own_below h3 hb,h4⟩
theorem Bld.drew {T:TypeId} {B b o:Nat} {cs:Array Value} {l:List UInt8} {w:World} (h:Bld T B b o cs l w):Bld T B b o cs l w.drew:=h
theorem Bld.drewN {T:TypeId} {B b o:Nat} {cs:Array Value} {l:List UInt8} {w:World} (h:Bld T B b o cs l w) (n:Nat):Bld T B b o cs l (w.drewN n):=h
theorem Bld.other {T:TypeId} {B b o j:Nat} {cs:Array Value} {l:List UInt8} {w:World} (h:Bld T B b o cs l w) (v:Value) (h0:j≠o) (h1:j≠o+1):Bld T B b o (cs.setIfInBounds j v) l (w.setCell ⟨b,j,none⟩ v):=by
 obtain⟨hB,hT,hbk,p,u,c0,c1,h2,h3,h4⟩:=h;refine⟨hB,hT,heap_setCell_same w b j cs T v hbk,p,u,?_,?_,h2,?_,h4⟩
 ·rw [Array.getElem?_setIfInBounds_ne (by omega)];exact c0
 ·rw [Array.getElem?_setIfInBounds_ne (by omega)];exact c1
 ·exact ownsRow_setCell_other (a:=⟨b,j,none⟩) h3 (Lib.ownBlock_ne h3 hbk hT) _
theorem qmD (b o:Nat) (w:World) (h0:w.cell? ⟨b,o,none⟩=some (.pointer (some ⟨b,o,none⟩))):
  Calls prog 103 #[.pointer (some ⟨b,o,none⟩)] w fun e w'=>e=.returned (.tuple #[])∧w'=w:=by
 obtain⟨j,hj,_⟩:=Option.map_eq_some_iff.1 qoc;go_enter func103,ntmps103;go_wp2;rw [Lib.run_neq_ptr_same w _ underlying68 hj];go_wp2;go_end0;exact⟨rfl,rfl⟩
theorem qkX (T:TypeId) (b o n:Nat) (w:World) (hl:liesAt prog prog.depth T (n/prog.cellsOf T) o 71 1=true) (ho:o<n) (h0:w.cell? ⟨b,o,none⟩=some (.pointer none)) (hsh:w.shape? b=some (T,n)) (hfz:w.frozen? ⟨b,o,none⟩=false):
  Calls prog 103 #[.pointer (some ⟨b,o,none⟩)] w fun e w'=>e=.returned (.tuple #[])∧w'=w.setCell ⟨b,o,none⟩ (.pointer (some ⟨b,o,none⟩)):=by
 obtain⟨j,hj,hjs⟩:=Option.map_eq_some_iff.1 qoc;go_enter func103,ntmps103;go_wp2;rw [Lib.run_to_unsafe w ⟨b,o,none⟩ underlying68 underlying180 hj (by rw [hjs];decide) hsh ho];simp only [Result.andThen]
 rw [Oper.upon_value];go_wp2;rw [run_callFunc_extern func163 (by kernel_rfl) (by kernel_rfl) (by kernel_rfl) (e:=Extern.AbiNoEscape.same) (by kernel_rfl)];rw [Lib.run_noEscape];simp only [Result.andThen]
 rw [Oper.upon_value];go_wp2;rw [Lib.run_from_unsafe w ⟨b,o,none⟩ underlying180 underlying68 hj hsh hl];simp only [Result.andThen]
 rw [Oper.upon_value];go_wp2;go_end0;exact⟨rfl,rfl⟩
theorem qi3 (T:TypeId) (B b o:Nat) (cs:Array Value) (l:List UInt8) (w:World) (hl:liesAt prog prog.depth T (cs.size/prog.cellsOf T) o 71 1=true) (h:Bld T B b o cs l w):
  Calls prog 103 #[.pointer (some ⟨b,o,none⟩)] w fun e w'=>e=.returned (.tuple #[])∧Bld T B b o (cs.setIfInBounds o (.pointer (some ⟨b,o,none⟩))) l w'∧w'.cell? ⟨b,o,none⟩=some (.pointer (some ⟨b,o,none⟩))∧Bears B b w w':=by
 obtain⟨hB,hT,hbk,p,v,h0,h1,h2,h3,h4⟩:=h;have hos:o<cs.size:=by
  rcases Nat.lt_or_ge o cs.size with h|h
  ·exact h
  ·rw [Array.getElem?_eq_none h] at h0;cases h0
 have c0:w.cell? ⟨b,o,none⟩=some p:=by rw [Lib.cell_of_heap hbk];exact h0
 have hsh:w.shape? b=some (T,cs.size):=by simp [World.shape?,hbk]
 have f0:w.frozen? ⟨b,o,none⟩=false:=Lib.frozen_of_heap hbk o
 rcases h2 with rfl|⟨rfl,rfl⟩
 ·refine(qmD b o w c0).mono ?_
  rintro e w'⟨rfl,rfl⟩;have hcs:cs.setIfInBounds o (.pointer (some ⟨b,o,none⟩))=cs:=by
   apply Array.ext
   ·simp
   ·intro i h1 h2
    rw [Array.getElem_setIfInBounds h2];split
    ·rename_i e
     subst e;rw [Array.getElem?_eq_getElem hos] at h0;exact(Option.some.inj h0).symm
    ·rfl
  exact⟨rfl,by rw [hcs];exact⟨hB,hT,hbk,_,v,h0,h1,.inl rfl,h3,h4⟩,c0,Bears.refl _ _ _⟩
 ·refine(qkX T b o cs.size w hl hos c0 hsh f0).mono ?_
  rintro e w'⟨rfl,rfl⟩;refine⟨rfl,⟨hB,hT,heap_setCell_same w b o cs T _ hbk,_,v,?_,?_,.inl rfl,?_,h4⟩,?_,(Bears.refl _ _ _).setCell _ _⟩
  ·rw [Array.getElem?_setIfInBounds_self];simp [hos]
  ·rw [Array.getElem?_setIfInBounds_ne (by omega)];exact h1
  ·exact ownsRow_setCell_other (a:=⟨b,o,none⟩) h3 (Lib.ownBlock_ne h3 hbk hT) _
  ·exact World.cell?_setCell_same _ _ _ c0
theorem Bld.put {T:TypeId} {B b o:Nat} {cs:Array Value} {l l':List UInt8} {w w2:World} {v v':Value} (h:Bld T B b o cs l w) (hs:cs[o]?=some (.pointer (some ⟨b,o,none⟩))) (hv:cs[o+1]?=some v) (hb2:w2.heap[b]?=some (.cells cs T (0,0)))
  (hown:w2.ownsRow B 5 1 v' l'.length (Lib.byteCells l')) (hn:v'=.slice none 0 0↔l'=[]):Bld T B b o (cs.setIfInBounds (o+1) v') l' (w2.setCell ⟨b,o+1,none⟩ v'):=by
 obtain⟨hB,hT,hbk,p,u,h0,h1,h2,h3,h4⟩:=h;have hos:o+1<cs.size:=by
  rcases Nat.lt_or_ge (o+1) cs.size with h|h
  ·exact h
  ·rw [Array.getElem?_eq_none h] at hv;cases hv
 refine⟨hB,hT,heap_setCell_same w2 b (o+1) cs T _ hb2,_,v',?_,?_,.inl rfl,?_,hn⟩
 ·rw [Array.getElem?_setIfInBounds_ne (by omega)];exact hs
 ·rw [Array.getElem?_setIfInBounds_self];simp [hos]
 ·exact ownsRow_setCell_other (a:=⟨b,o+1,none⟩) hown (Lib.ownBlock_ne hown hb2 hT) _
theorem qcd {cs:Array Value} {o:Nat} {p:Value} {q:Value} (h:cs[o]?=some q):(cs.setIfInBounds o p)[o]?=some p:=by
 have hos:o<cs.size:=by
  rcases Nat.lt_or_ge o cs.size with h'|h'
  ·exact h'
  ·rw [Array.getElem?_eq_none h'] at h;cases h
 rw [Array.getElem?_setIfInBounds_self];simp [hos]
theorem Bld.cell_some {T:TypeId} {B b o:Nat} {cs:Array Value} {l:List UInt8} {w:World} (h:Bld T B b o cs l w):∃q,cs[o]?=some q:=by
 obtain⟨-,-,-,p,v,h0,-⟩:=h;exact⟨p,h0⟩
theorem Bld.row {T:TypeId} {B b o:Nat} {cs:Array Value} {l:List UInt8} {w:World} (h:Bld T B b o cs l w):
  ∃v,cs[o+1]?=some v∧w.cell? ⟨b,o+1,none⟩=some v∧w.ownsRow B 5 1 v l.length (Lib.byteCells l)∧(v=.slice none 0 0↔l=[])∧v.ownBlock≠some b:=by
 obtain⟨hB,hT,hbk,p,v,h0,h1,h2,h3,h4⟩:=h;exact⟨v,h1,by rw [Lib.cell_of_heap hbk];exact h1,h3,h4,Lib.ownBlock_ne h3 hbk hT⟩
theorem Bears.grown {B b n:Nat} {w w' w'':World} {v:Value} {xs:List Value} (h:Bears B b w w') (hR:w'.ownsRow B 5 1 v n xs) (hg:w'.grownBy w'' v.ownBlock):Bears B b w w'':=
 h.trans ⟨hg.os,hg.tape,hg.output,hg.size,fun g h1 h2 h3=>hg.block g h1 fun e=>by
  rcases hR.2 with ⟨rfl,_⟩|⟨g',cap,cur,rfl,hN,hb,_⟩
  ·cases e
  ·simp only [Value.ownBlock,Option.some.injEq] at e
   subst e;rcases h3 with h3|⟨cs,T,fr,hc,hT⟩
   ·omega
   ·rw [hb] at hc
    simp only [Option.some.injEq,Obj.cells.injEq] at hc
    exact hT hc.2.1.symm⟩
theorem qcQ (T:TypeId) (B b o:Nat) (cs:Array Value) (l:List UInt8) (x:UInt8) (w:World) (hl:liesAt prog prog.depth T (cs.size/prog.cellsOf T) o 71 1=true) (h:Bld T B b o cs l w) (hlen:l.length+1≤140737488355328) (hBw:B≤w.heap.size):
  Calls prog 51 #[.pointer (some ⟨b,o,none⟩),.int .u8 x.toNat] w fun e w'=>e=.returned .nilIface∧(∃v',Bld T B b o ((cs.setIfInBounds o (.pointer (some ⟨b,o,none⟩))).setIfInBounds (o+1) v') (l++[x]) w')∧Bears B b w w':=by
 obtain⟨i0,hi,hz0,hz1,hz2⟩:=info_parts qkf;have cC:=qi3 T B b o cs l w hl h;have hself:=qcd (p:=.pointer (some ⟨b,o,none⟩)) h.cell_some.choose_spec
 obtain⟨cs1,hcs1⟩:∃c,cs.setIfInBounds o (.pointer (some ⟨b,o,none⟩))=c:=⟨_,rfl⟩
 rw [hcs1] at cC hself ⊢;clear hl h hcs1;go_enter func51,ntmps51;go_wp2_with fail;refine cC.mono ?_;rintro e w1⟨rfl,h1,c0,hb1⟩;obtain⟨v,hv,c1,hown,hnil,hne⟩:=h1.row;have HB1:=hid hb1;have HH:=hid h1;have HS:=hid hself;have HV:=hid hv;have hbk:=h1.2.2.1;have HNE:=hid hne;have hs1:=hb1.size;have HN:=hid hnil;clear cC h1 hb1 hself hv hne hnil;go_wp2_with (at_builtin;(refine wpList_append_own _ rfl _ _ 69 rfl B 5 i0 (.int .u8 0) 1 1 underlying69 hi hz0 hz1 hz2 rfl (by decide) _ _ _ rfl (hown.alloc _) ⟨w1.heap.size,0,none⟩ 1 1 [.int .u8 x.toNat] rfl rfl (World.news_of_block (cs:=#[.int .u8 x.toNat]) (t:=5) (fr:=(0,0)) (heap_alloc_new w1 _)) (by simp [Value.oneCell']) (by unfold maxLen;omega) (by omega) (by simp;omega) ?_;intro v' w2 hown' hgrow _;obtain⟨g,cap,rfl⟩:=ownsRow_succ hown';have hb2:w2.heap[b]?=some (.cells cs1 T (0,0)):=((hgrow.block b (Nat.lt_of_lt_of_le (lt_of_block hbk) (by simp)) (fun e=>HNE.out e.symm)).trans (Lib.alloc_old w1 _ b (lt_of_block hbk))).trans hbk;have d1:w2.cell? ⟨b,o+1,none⟩=some v:=((Lib.cell_of_heap hb2 (o+1)).trans HV.out);have f1:w2.frozen? ⟨b,o+1,none⟩=false:=Lib.frozen_of_heap hb2 (o+1)))
 have HR:=hid (Bld.put (l':=l++[x]) (v':=.slice (some ⟨g,0,none⟩) (l.length+1) cap) HH.out HS.out HV.out hb2 (by simpa [Lib.byteCells] using hown') (by simp))
 have HB:=hid (((HB1.out.alloc _).grown (hown.alloc _) hgrow).setCell (o+1) (.slice (some ⟨g,0,none⟩) (l.length+1) cap))
 clear hown hown' hgrow hbk hb2;go_ret;exact⟨rfl,⟨_,HR.out⟩,HB.out⟩
theorem qa4 (T:TypeId) (B b o:Nat) (cs:Array Value) (l s:List UInt8) (w:World) (hl:liesAt prog prog.depth T (cs.size/prog.cellsOf T) o 71 1=true) (h:Bld T B b o cs l w) (hlen:l.length+s.length≤140737488355328) (hBw:B≤w.heap.size):
  Calls prog 52 #[.pointer (some ⟨b,o,none⟩),encS s] w fun e w'=>e=.returned (.tuple #[.int .i64 s.length,.nilIface])∧(∃v',Bld T B b o ((cs.setIfInBounds o (.pointer (some ⟨b,o,none⟩))).setIfInBounds (o+1) v') (l++s) w')∧Bears B b w w':=by
 obtain⟨i0,hi,hz0,hz1,hz2⟩:=info_parts qkf;have cC:=qi3 T B b o cs l w hl h;have hself:=qcd (p:=.pointer (some ⟨b,o,none⟩)) h.cell_some.choose_spec
 have hsz:(⟨s.toArray⟩:ByteArray).size=s.length:=by simp [ByteArray.size]
 have HSC:=hid (show Lib.strCells ⟨s.toArray⟩=Lib.byteCells s by simp [Lib.strCells,Lib.byteCells])
 obtain⟨cs1,hcs1⟩:∃c,cs.setIfInBounds o (.pointer (some ⟨b,o,none⟩))=c:=⟨_,rfl⟩
 rw [hcs1] at cC hself ⊢;clear hl h hcs1;go_enter func52,ntmps52;go_wp2_with fail;refine cC.mono ?_;rintro e w1⟨rfl,h1,c0,hb1⟩;obtain⟨v,hv,c1,hown,hnil,hne⟩:=h1.row;have HB1:=hid hb1;have HH:=hid h1;have HS:=hid hself;have HV:=hid hv;have hbk:=h1.2.2.1;have HNE:=hid hne;have hs1:=hb1.size;have HN:=hid hnil;clear cC h1 hb1 hself hv hne hnil;go_wp2_with (at_builtin;refine Lib.wpList_append_own_string _ rfl _ _ 69 9 rfl B 5 i0 underlying69 underlying9 hi hz0 hz1 hz2 _ _ _ rfl hown ⟨s.toArray⟩ rfl (by unfold maxLen;omega) (by omega) (by omega) ?_;intro v' w2 hown' hgrow hnn;obtain⟨ao,nn,cap,rfl⟩:=qcp hown';have hb2:w2.heap[b]?=some (.cells cs1 T (0,0)):=(hgrow.block b (lt_of_block hbk) (fun e=>HNE.out e.symm)).trans hbk;have d1:w2.cell? ⟨b,o+1,none⟩=some v:=((Lib.cell_of_heap hb2 (o+1)).trans HV.out);have f1:w2.frozen? ⟨b,o+1,none⟩=false:=Lib.frozen_of_heap hb2 (o+1);have HNN:=hid hnn;clear hnn)
 have HR:=hid (Bld.put (l':=l++s) (v':=.slice ao nn cap) HH.out HS.out HV.out hb2 (by rw [HSC.out,hsz] at hown';simpa [Lib.byteCells] using hown') (HNN.out.trans (by rw [hsz];exact⟨fun h=>by rw [HN.out.1 h.1,List.eq_nil_of_length_eq_zero h.2];rfl,fun h=>⟨HN.out.2 (List.append_eq_nil_iff.1 h).1,by rw [(List.append_eq_nil_iff.1 h).2];rfl⟩⟩)))
 have HB:=hid ((HB1.out.grown hown hgrow).setCell (o+1) (.slice ao nn cap))
 clear hown hown' hgrow hbk hb2;go_ret2;exact⟨by simp,⟨_,HR.out⟩,HB.out⟩
theorem qq5 (W:World) (q:Option Addr):(Builtin.unsafeString_ #[115,3] 9 #[.pointer q,.int .i64 0]).run prog W=.ok (.string .empty) W:=Lib.run_unsafeString_none W _ _ _ q
theorem qgK (w:World) (g k n:Nat) (h:k≠g):(w.freeze ⟨g,0,none⟩ n).heap[k]?=w.heap[k]?:=by
 unfold World.freeze;split
 ·rfl
 ·simp only [Array.getElem?_modify]
  rw [if_neg (fun e=>h e.symm)]
theorem Bears.freeze {B b g:Nat} {w:World} {cur:Array Value} {fr:Nat×Nat} (hg:w.heap[g]?=some (.cells cur 5 fr)) (hB:B≤g) (n:Nat):Bears B b w (w.freeze ⟨g,0,none⟩ n):=by
 have hf:=Lib.below_freeze (Below.refl B w) (p:=⟨g,0,none⟩) hB n
 refine⟨hf.os,hf.tape,hf.output,hf.size,fun k hk _ h3=>?_⟩
 by_cases e:k=g
 ·subst e
  rcases h3 with h3|⟨cs,T,fr',hc,hT⟩
  ·omega
  ·rw [hg] at hc
   simp only [Option.some.injEq,Obj.cells.injEq] at hc
   exact absurd hc.2.1.symm hT
 ·exact qgK w g k n e
theorem qaN (T:TypeId) (B b o:Nat) (cs:Array Value) (l:List UInt8) (w:World) (h:Bld T B b o cs l w):
  Calls prog 53 #[.pointer (some ⟨b,o,none⟩)] w fun e w'=>e=.returned (encS l)∧w'.heap[b]?=w.heap[b]?∧Bears B b w w':=by
 obtain⟨hB,hT,hbk,p,v,h0,h1,-,hown,hn⟩:=h;have c1:w.drew.cell? ⟨b,o+1,none⟩=some v:=(Lib.cell_of_heap (w:=w.drew) hbk (o+1)).trans h1
 by_cases hl:l=[]
 ·obtain rfl:=hn.2 hl
  subst hl;have hUS:=qq5;have hSD:(Builtin.unsafeSliceData_ #[69] 115 #[.slice none 0 0]).run prog w.drew=.ok (.pointer none) w.drew:=rfl
  have HX:Hid (Bears B b w w.drew):=(Bears.refl B b w).drew
  clear hbk h0 h1 hown hn;go_enter func53,ntmps53;go_wp2;go_region
  all_goals (go_wp2;go_ret;exact⟨rfl,rfl,HX.out⟩)
 ·have hl0:l.length≠0:=by simpa using hl
  obtain⟨g,cap,cur,rfl,hbg,hg,hnc,hcm,hcs,htake⟩:∃g cap cur,v=.slice (some ⟨g,0,none⟩) l.length cap∧B≤g∧w.heap[g]?=some (.cells cur 5 (0,0))∧l.length≤cap∧cap≤maxLen∧cur.size=cap*1∧cur.toList.take (l.length*1)=Lib.byteCells l:=by
   rcases hown.2 with ⟨_,hz⟩|⟨g,cap,cur,hv,r⟩
   ·exact absurd hz hl0
   ·exact⟨g,cap,cur,hv,r⟩
  have hgb:b≠g:=by
   intro e
   rw [e,hg] at hbk;simp only [Option.some.injEq,Obj.cells.injEq] at hbk
   exact hT hbk.2.1.symm
  have hSD:(Builtin.unsafeSliceData_ #[69] 115 #[.slice (some ⟨g,0,none⟩) l.length cap]).run prog w.drew=.ok (.pointer (some ⟨g,0,none⟩)) w.drew:=
   Lib.run_unsafeSliceData_row _ _ _ _ _ _ (by omega)
  have hUS:(Builtin.unsafeString_ #[115,3] 9 #[.pointer (some ⟨g,0,none⟩),.int .i64 l.length]).run prog w.drew=.ok (.string ⟨l.toArray⟩) (w.drew.freeze ⟨g,0,none⟩ l.length):=by
   refine Lib.run_unsafeString_row w.drew 115 3 9 5 underlying115 qua g cur.size (by have hg':w.drew.heap[g]?=some (.cells cur 5 (0,0)):=hg;simp [World.shape?,hg']) l hl (by omega) (by unfold maxLen at hcm;omega) ?_
   intro j x hx
   have:=hown.cells (g:=g) rfl j (.int .u8 x.toNat) (by simp [Lib.byteCells,hx])
   exact this
  have HX:Hid ((w.drew.freeze ⟨g,0,none⟩ l.length).heap[b]?=w.heap[b]?∧Bears B b w (w.drew.freeze ⟨g,0,none⟩ l.length)):=
   hid ⟨(qgK w.drew g b _ hgb).trans rfl,(Bears.refl B b w).drew.trans (Bears.freeze (w:=w.drew) hg hbg _)⟩
  clear hbk h0 h1 hown hn hg htake hgb;go_enter func53,ntmps53;go_wp2;go_region
  all_goals (go_wp2;go_ret;exact⟨rfl,HX.out.1,HX.out.2⟩)
theorem qcI (T:TypeId) (B b o:Nat) (cs:Array Value) (w:World) (hT:T≠5) (hB:B≤b) (hb:w.heap[b]?=some (.cells cs T (0,0))) (hos:o+1<cs.size):
  Calls prog 164 #[.pointer (some ⟨b,o,none⟩)] w fun e w'=>e=.returned (.tuple #[])∧Bld T B b o ((cs.setIfInBounds o (.pointer none)).setIfInBounds (o+1) (.slice none 0 0)) [] w'∧Bears B b w w':=by
 have c0:w.cell? ⟨b,o,none⟩=some cs[o]:=by rw [Lib.cell_of_heap hb];simp
 have c1:w.cell? ⟨b,o+1,none⟩=some cs[o+1]:=by rw [Lib.cell_of_heap hb];simp
 have f0:w.frozen? ⟨b,o,none⟩=false:=Lib.frozen_of_heap hb o
 have f1:w.frozen? ⟨b,o+1,none⟩=false:=Lib.frozen_of_heap hb (o+1)
 have HX:Hid (Bld T B b o ((cs.setIfInBounds o (.pointer none)).setIfInBounds (o+1) (.slice none 0 0)) [] ((w.setCell ⟨b,o,none⟩ (.pointer none)).setCell ⟨b,o+1,none⟩ (.slice none 0 0))∧Bears B b w ((w.setCell ⟨b,o,none⟩ (.pointer none)).setCell ⟨b,o+1,none⟩ (.slice none 0 0))):=hid
  ⟨qb9 T _ B b o _ hT hB (heap_setCell_same _ b (o+1) _ T _ (heap_setCell_same w b o cs T _ hb)) (by rw [Array.getElem?_setIfInBounds_ne (by omega),Array.getElem?_setIfInBounds_self];simp;omega) (by rw [Array.getElem?_setIfInBounds_self];simp;omega),((Bears.refl B b w).setCell _ _).setCell _ _⟩
 generalize cs[o]=u0 at *;generalize cs[o+1]=u1 at *;clear hb;go_enter func164,ntmps164;go_wp2;go_end0;exact⟨rfl,HX.out.1,HX.out.2⟩
theorem qkC (s:ByteArray) (w:World) (hs:s.size≤9223372036854775807):
  Calls prog 79 #[.string s,.string ⟨#[32,9]⟩] w fun e w'=>e=.returned (.string ⟨(Lib.trimS s.data.toList [32,9]).toArray⟩)∧Below w.heap.size w w':=
 Any.strings_Trim_laid Tryz.lays160 (by kernel_rfl) s ⟨#[32,9]⟩ w hs (by decide) (ascii_of_all (by decide))
def qnt (l:List UInt8):Int×Int:=
 if Lib.hasPrefix l [45] then(if(qbr 10 (Lib.trimPrefix l [45])).2 then(wrap64 (-(qbr 10 (Lib.trimPrefix l [45])).1),0) else(0,33))
 else(if(qbr 10 (Lib.trimPrefix l [43])).2 then(wrap64 (qbr 10 (Lib.trimPrefix l [43])).1,0) else(0,33))
def qil (l:List UInt8):Int×Int:=qnt (Lib.trimS l [32,9])
theorem qci (l p:List UInt8):(Lib.trimPrefix l p).length≤l.length:=by
 unfold Lib.trimPrefix;split<;>simp
theorem qaS {p:UInt8→Bool}:∀l:List UInt8,(l.dropWhile p).length≤l.length
 |[]=>Nat.le_refl _
 |c::r=>by
  rw [List.dropWhile_cons];split
  ·have:=qaS (p:=p) r;rw [List.length_cons];omega
  ·exact Nat.le_refl _
theorem qiD (l cs:List UInt8):(Lib.trimS l cs).length≤l.length:=by
 unfold Lib.trimS Lib.trimLeftS Lib.trimRightS;have h1:=qaS (p:=(cs.contains ·)) (l.reverse.dropWhile (cs.contains ·)).reverse
 have h2:=qaS (p:=(cs.contains ·)) l.reverse
 rw [List.length_reverse] at h1 h2;omega
theorem qby (l:List UInt8):(⟨l.toArray⟩:ByteArray).data.toList=l:=by simp
theorem qsC (s:ByteArray) (w:World) (hs:s.size≤9223372036854775807):
  Calls prog 112 #[.string s] w fun e w'=>e=.returned (.tuple #[.int .i64 (qil s.data.toList).1,.int .i64 (qil s.data.toList).2])∧Below w.heap.size w w':=by
 have cT:=fun W=>qkC s W hs
 have hl:=qiD s.data.toList [32,9]
 have HE:Hid (qil s.data.toList=qnt (Lib.trimS s.data.toList [32,9])):=hid rfl
 rw [qas] at hl;obtain⟨t,ht⟩:=qQ (Lib.trimS s.data.toList [32,9])
 rw [ht] at cT hl HE;clear ht;have cM:=fun W=>Tryz.strings_CutPrefix ⟨t.toArray⟩ ⟨#[45]⟩ W
 have cP:=fun W=>Tryz.strings_TrimPrefix ⟨t.toArray⟩ ⟨#[43]⟩ W
 rw [qby,show(⟨#[45]⟩:ByteArray).data.toList=[45] from rfl] at cM;rw [qby,show(⟨#[43]⟩:ByteArray).data.toList=[43] from rfl] at cP;have hm:=qci t [45]
 have hp:=qci t [43]
 unfold qnt at HE;obtain⟨m,hmm⟩:=qQ (Lib.trimPrefix t [45])
 obtain⟨p,hpp⟩:=qQ (Lib.trimPrefix t [43])
 obtain⟨b,hb⟩:=qQ (Lib.hasPrefix t [45])
 rw [hmm] at cM hm HE;rw [hpp] at cP hp HE;rw [hb] at cM HE;clear hmm hpp hb;cases b
 ·have cR:=fun W=>qkq 10 ⟨p.toArray⟩ W (by show p.toArray.size≤maxLen;unfold maxLen;simp;omega)
  rw [qby] at cR;rw [if_neg (by decide)] at HE;obtain⟨n,hn⟩:=qQ ((qbr 10 p).1)
  obtain⟨g,hg⟩:=qQ ((qbr 10 p).2)
  rw [hn,hg] at cR HE;clear hn hg hm hp hl;cases g
  ·rw [if_neg (by decide)] at HE
   go_enter func112,ntmps112;go_wp2_with (first|(go_at_call 79;(with_reducible refine(cT _).mono ?_);rintro e w1 ⟨rfl,hw1⟩)|(go_at_call 174;(with_reducible refine(cM _).mono ?_);rintro e w2 ⟨rfl,rfl⟩)|(go_at_call 168;(with_reducible refine(cP _).mono ?_);rintro e w2 ⟨rfl,rfl⟩)|(go_at_call 175;(with_reducible refine(cR _).mono ?_);rintro e w2 ⟨rfl,rfl⟩))
   go_ret2;exact⟨by rw [HE.out];rfl,hw1⟩
  ·rw [if_pos rfl] at HE
   go_enter func112,ntmps112;go_wp2_with (first|(go_at_call 79;(with_reducible refine(cT _).mono ?_);rintro e w1 ⟨rfl,hw1⟩)|(go_at_call 174;(with_reducible refine(cM _).mono ?_);rintro e w2 ⟨rfl,rfl⟩)|(go_at_call 168;(with_reducible refine(cP _).mono ?_);rintro e w2 ⟨rfl,rfl⟩)|(go_at_call 175;(with_reducible refine(cR _).mono ?_);rintro e w2 ⟨rfl,rfl⟩))
   go_ret2;exact⟨by rw [HE.out];rfl,hw1⟩
 ·have cR:=fun W=>qkq 10 ⟨m.toArray⟩ W (by show m.toArray.size≤maxLen;unfold maxLen;simp;omega)
  rw [qby] at cR;rw [if_pos rfl] at HE;obtain⟨n,hn⟩:=qQ ((qbr 10 m).1)
  obtain⟨g,hg⟩:=qQ ((qbr 10 m).2)
  rw [hn,hg] at cR HE;clear hn hg hm hp hl;cases g
  ·rw [if_neg (by decide)] at HE
   go_enter func112,ntmps112;go_wp2_with (first|(go_at_call 79;(with_reducible refine(cT _).mono ?_);rintro e w1 ⟨rfl,hw1⟩)|(go_at_call 174;(with_reducible refine(cM _).mono ?_);rintro e w2 ⟨rfl,rfl⟩)|(go_at_call 175;(with_reducible refine(cR _).mono ?_);rintro e w2 ⟨rfl,rfl⟩))
   go_ret2;exact⟨by rw [HE.out];rfl,hw1⟩
  ·rw [if_pos rfl] at HE
   have HW:Hid (wrap64 (IntKind.u64.wrap (-n))=wrap64 (-n)):=hid (by rw [qfs,qkL])
   go_enter func112,ntmps112;go_wp2_with (first|(go_at_call 79;(with_reducible refine(cT _).mono ?_);rintro e w1 ⟨rfl,hw1⟩)|(go_at_call 174;(with_reducible refine(cM _).mono ?_);rintro e w2 ⟨rfl,rfl⟩)|(go_at_call 175;(with_reducible refine(cR _).mono ?_);rintro e w2 ⟨rfl,rfl⟩))
   go_ret2;exact⟨by rw [HE.out,← HW.out];rfl,hw1⟩
theorem Bld.kept {T:TypeId} {M b o B:Nat} {cs:Array Value} {l:List UInt8} {w w':World} (h:Bld T M b o cs l w) (hk:Kept B w w') (hB:B<M):Bld T M b o cs l w':=by
 obtain⟨h0,hT,hbk,p,v,h1,h2,h3,h4,h5⟩:=h;exact⟨h0,hT,(hk.block b (lt_of_block hbk) (by omega)).trans hbk,p,v,h1,h2,h3,qik h4 fun g hg=>hk.block g (h4.lt g hg).2 (by have:=(h4.lt g hg).1;omega),h5⟩
theorem qlB:liesAt prog prog.depth 71 (2/prog.cellsOf 71) 0 71 1=true:=by kernel_rfl
theorem qhs {B b:Nat} {cs:Array Value} {l:List UInt8} {w:World} (h:Bld 71 B b 0 cs l w) (hs:cs.size=2):∃p v,cs=#[p,v]:=by
 match cs,hs with
 |⟨[p,v]⟩,_=>exact⟨p,v,rfl⟩
theorem qn1 (p:UInt8→Bool):∀l:List UInt8,(l.all p=true∧l.dropWhile p=[])∨(l.all p=false∧∃x r,l.dropWhile p=x::r∧p x=false)
 |[]=>.inl ⟨rfl,rfl⟩
 |x::r=>by
  cases hx:p x
  ·exact .inr ⟨by simp [hx],x,r,by simp [List.dropWhile_cons,hx],hx⟩
  ·rcases qn1 p r with ⟨h1,h2⟩|⟨h1,h2⟩
   ·exact .inl ⟨by simp [hx,h1],by simpa [List.dropWhile_cons,hx] using h2⟩
   ·exact .inr ⟨by simp [hx,h1],by simpa [List.dropWhile_cons,hx] using h2⟩
theorem qtz (l k:List UInt8):(Lib.trimS l k==[])=l.all (k.contains ·):=by
 unfold Lib.trimS Lib.trimLeftS Lib.trimRightS;have hr:l.reverse.all (k.contains ·)=l.all (k.contains ·):=by simp
 rcases qn1 (k.contains ·) l.reverse with ⟨h1,h2⟩|⟨h1,x,r,h2,h3⟩
 ·rw [h2,← hr,h1];rfl
 ·rw [← hr,h1,h2]
  rcases qn1 (k.contains ·) (x::r).reverse with ⟨g1,g2⟩|⟨g1,y,z,g2,g3⟩
  ·have:k.contains x=true:=List.all_eq_true.1 g1 x (by simp)
   rw [h3] at this;cases this
  ·rw [g2];rfl
theorem quk (x:List UInt8) (n:Nat) (hn:x.length=n):(⟨x.toArray⟩:ByteArray).extract 1 n=⟨(x.drop 1).toArray⟩:=by
 subst hn
 apply ByteArray.ext
 simp only [ByteArray.data_extract,List.extract_toArray,List.extract_eq_take_drop]
 rw [List.take_of_length_le (by simp)]
section
variable {W:World} {N B:Nat} {C:Option Addr} {c:Nat} {R:Option Addr} {d:Nat} {o:List UInt8} {st:Int} {t:List ND} {rd:Bool} {l:List (List UInt8)} {inn:List UInt8}
theorem qiy (a:List UInt8) (h:JobAt W N B C c R d o st t rd l inn) (hl:l.length≤1099511627776) (hn:l.head?≠some a):
  Calls prog 114 #[.pointer (some ⟨B,5,none⟩),encS a] W fun e w'=>e=.returned (.bool false)∧W=w':=by
 obtain⟨-,-,-,-,-,c5,-⟩:=h.cells;have hd:=h.hd;rcases l with _|⟨x,r⟩
 ·simp only [List.length_nil] at c5
  clear h hn;go_enter func114,ntmps114;go_wp2_with fail;go_ret;exact⟨rfl,rfl⟩
 ·obtain⟨g,q,rfl,hg,hx⟩:=h.texts 0 (by simp)
  simp only [List.length_cons,List.getElem_cons_zero,Nat.add_zero] at c5 hx hd hl
  have hlt:(0:Int)<(((r.length+1:Nat)):Int):=by omega
  have hne:((((r.length+1:Nat)):Int)==0)=false:=by simp;omega
  have hxa:(x==a)=false:=by simpa using hn
  generalize r.length+1=n at *;clear h hn;go_enter func114,ntmps114;go_wp2_with fail;go_ret;exact⟨rfl,rfl⟩
theorem qdf (a:List UInt8) (r:List (List UInt8)) (h:JobAt W N B C c R d o st t rd (a::r) inn) (hr:r.length≤1099511627776):
  Calls prog 114 #[.pointer (some ⟨B,5,none⟩),encS a] W fun e w'=>e=.returned (.bool true)∧(∃R' d',JobAt w' N B C c R' d' o st t rd r inn)∧Kept B W w':=by
 obtain⟨-,-,-,-,-,c5,-⟩:=h.cells;have cN:=qaz h hr;have hd:=h.hd;obtain⟨g,q,rfl,hg,hx⟩:=h.texts 0 (by simp)
 simp only [List.length_cons,List.getElem_cons_zero,Nat.add_zero] at c5 hx hd
 have hlt:(0:Int)<(((r.length+1:Nat)):Int):=by omega
 have hne:((((r.length+1:Nat)):Int)==0)=false:=by simp;omega
 generalize r.length+1=n at *;clear h;go_enter func114,ntmps114;go_wp2_with fail;refine cN.mono ?_;rintro e w1⟨rfl,hJ,hk⟩;clear cN;go_wp2_with fail;go_ret;exact⟨rfl,hJ,hk⟩
def qr5 (B:Nat) (w:World):Nat:=match w.cell? ⟨B,5,none⟩ with|some (.slice _ n _)=>n|_=>0
theorem JobAt.left (h:JobAt W N B C c R d o st t rd l inn):qr5 B W=l.length:=by
 unfold qr5;rw [h.cells.2.2.2.2.2.1]
def qbF (W:World) (N B:Nat) (C:Option Addr) (c:Nat) (o:List UInt8) (st:Int) (t:List ND) (rd:Bool) (inn:List UInt8) (q:LQ) (e:Ending) (w':World):Prop:=
 (q.ok=false∧e=.panicked [qbH 2 0]∧Kept B W w')∨(q.ok=true∧e=.returned (encS q.out)∧(∃R' d',JobAt w' N B C c R' d' o st t rd q.rest inn)∧Kept B W w')
theorem qcb (known:List UInt8) (ha:known.all (fun b=>decide (b.toNat<128))=true) (hk:known.length≤100) (h:JobAt W N B C c R d o st t rd l inn) (hz:qaf l≤1099511627776):
  Calls prog 33 #[.pointer (some ⟨B,5,none⟩),encS known] W fun e w'=>qbF W N B C c o st t rd inn (qab known [] l) e w':=by
 obtain⟨q,hq⟩:=qQ (qab known [] l)
 rw [hq];obtain⟨M,hM⟩:=qQ (W.heap.size)
 have hBM:B<M:=by rw [← hM];exact h.lt
 have cT:∀(s:List UInt8) (w:World) (hs:s.length≤1099511627776),Calls prog 79 #[encS s,encS known] w fun e w'=>e=.returned (encS (Lib.trimS s known))∧Below w.heap.size w w':=fun s w hs=>by
  have:=Any.strings_Trim_laid Tryz.lays160 (by kernel_rfl) ⟨s.toArray⟩ ⟨known.toArray⟩ w (by simp [ByteArray.size];omega) (by simp [ByteArray.size];omega) (ascii_of_all (by simpa using ha))
  rw [qby,qby] at this;exact this
 obtain⟨W1,hW1⟩:=qQ (W.alloc (.cells #[.pointer none,.slice none 0 0] 71))
 have hb1:Below M W W1:=by rw [← hW1];exact(Below.refl _ _).alloc (by omega) _
 have hB1:Bld 71 M M 0 #[.pointer none,.slice none 0 0] [] W1:=qb9 71 _ M M 0 _ (by decide) (Nat.le_refl _) (by rw [← hW1,← hM];exact heap_alloc_new _ _) rfl rfl
 have hJ1:=h.below (hM▸hb1)
 have HI:=hid (And.intro hB1 (And.intro h (And.intro hJ1 (Kept.of_below (B:=B) (hM▸hb1)))))
 have HQ:=hid hq;clear h hq hb1 hB1 hJ1;go_enter func33,ntmps33;go_wp2_with fail;go_loopw [6] (fun _ wr=>∃(acc:List UInt8) (l':List (List UInt8)) (p v:Value) (R':Option Addr) (d':Nat),Hid (Bld 71 M M 0 #[p,v] acc wr)∧Hid (JobAt wr N B C c R' d' o st t rd l' inn)∧Hid (Kept B W wr)∧Hid (qab known acc l'=q)∧acc.length+qaf l'≤qaf l) (fun _ wr=>qr5 B wr)
 case atStart=>exact⟨[],l,_,_,R,d,hid HI.out.1,hid HI.out.2.2.1,hid HI.out.2.2.2,HQ,by simp⟩
 case round=>
  obtain⟨acc,l',p,v,R',d',HB,HJ,HK,HL,hzl⟩:=hrel;have hMw:M≤wr.heap.size:=by have:=HK.out.size;omega
  have hexit:qab known acc l'=⟨acc,l',true⟩→(∀(w2:World),Below M wr w2→qbF W N B C c o st t rd inn q (.returned (encS acc)) w2):=fun e w2 hb=>by
   have hk2:Kept B W w2:=HK.out.low (hM▸hb)
   have hq:q=⟨acc,l',true⟩:=by rw [← HL.out,e]
   rw [hq];exact .inr ⟨rfl,rfl,⟨R',d',HI.out.2.1.re HJ.out hk2 (hb.mono (by omega))⟩,hk2⟩
  have HX:=hid hexit;clear hexit;have cS:=qaN 71 M M 0 #[p,v] acc wr HB.out
  obtain⟨-,-,-,-,-,c5,-⟩:=HJ.out.cells;have hlx:l'.length≤qaf l':=qaG l'
  rcases l' with _|⟨x,r⟩
  ·simp only [List.length_nil] at c5
   have HX:=hid (HX.out rfl)
   clear HJ HL HB hlx;go_wp2_with fail;refine cS.mono ?_;rintro e w2⟨rfl,-,hbe⟩;have HX:=hid (HX.out w2 (hbe.below (Nat.le_refl _) hMw))
   clear hbe cS;go_wp2_with fail;go_ret;exact HX.out
  ·obtain⟨g,z,rfl,-,hx⟩:=HJ.out.texts 0 (by simp)
   have hd:=HJ.out.hd;have hrl:r.length≤1099511627776:=by simp at hlx;omega
   have hxl:x.length≤1099511627776:=by have:=qaH (x::r) x (.head _);omega
   have cN:=qaz HJ.out hrl;simp only [List.length_cons,List.getElem_cons_zero,Nat.add_zero] at c5 hx hd
   have hlt:(0:Int)<(((r.length+1:Nat)):Int):=by omega
   have hlr:qr5 B wr=r.length+1:=HJ.out.left
   have hrn:r.length<r.length+1:=Nat.lt_succ_self _
   generalize r.length+1=n at *;have HM:=hid (And.intro hlr hrn)
   clear hlr hrn;have hsx:(⟨x.toArray⟩:ByteArray).size=x.length:=by simp [ByteArray.size]
   by_cases h1:1<x.length
   ·have hi1:(1:Int)<(x.length:Int):=by omega
    have hx0:∀h,(⟨x.toArray⟩:ByteArray)[0]'h=x[0]'(by omega):=fun h=>by simp [ByteArray.getElem_eq_getElem_data]
    have hop:=qsy x h1;obtain⟨y,hy⟩:=qQ (x[0]'(by omega))
    rw [hy] at hop;simp only [hy] at hx0
    clear hy;by_cases h45:y=45
    ·have g45:((y.toNat:Int)==45)=true:=by rw [h45];rfl
     have hop:qsx x=true:=by rw [hop,h45];rfl
     have HL:=hid (HL.out.symm.trans (qbs known acc x r))
     rw [hop,if_pos rfl] at HL;have hdx:=quk x x.length rfl;have hdl:(x.drop 1).length≤x.length:=by simp
     have cT:=cT (x.drop 1)
     have hte:=qtz (x.drop 1) known
     have hsz:(acc++x.drop 1).length+qaf r≤qaf l:=by
      have e:qaf (x::r)=x.length+1+qaf r:=by simp [qaf]
      rw [List.length_append];omega
     obtain⟨u,hu⟩:=qQ (x.drop 1)
     rw [hu] at cT hte hdx hdl HL hsz;obtain⟨tr,htr⟩:=qQ (Lib.trimS u known)
     simp only [htr] at cT
     rw [htr] at hte;clear hu htr hop h45 HX cS hlx;cases hok:u.all (known.contains ·)
     ·rw [hok] at hte HL
      have HE:=hid (show q.ok=false by rw [HL.out];rfl)
      clear HL hok;go_wp2_with fail;refine cN.mono ?_;rintro e w1⟨rfl,-,hk1⟩;have hk2:=HK.out.trans hk1;clear cN;go_wp2_with fail;refine(cT w1 (by omega)).mono ?_
      rintro e w2⟨rfl,hb2⟩;have HK2:=hid (hk2.trans (Kept.of_below hb2))
      clear hb2 hk2 hk1;go_wp2_with fail;refine(qau _).mono ?_;rintro e w3⟨rfl,rfl⟩;go_wp2_with fail;exact⟨rfl,.inl ⟨HE.out,rfl,HK2.out⟩⟩
     ·rw [hok,if_pos rfl] at HL
      rw [hok] at hte;clear hok;go_wp2_with fail;refine cN.mono ?_;rintro e w1⟨rfl,⟨R1,d1,hJ1⟩,hk1⟩;have HK1:=hid (HK.out.trans hk1)
      have HB1:=hid (HB.out.kept hk1 hBM)
      have HJ1:=hid hJ1;have hM1:M≤w1.heap.size:=by have:=hk1.size;omega
      clear cN hk1 hJ1 HJ HK HB;go_wp2_with fail;refine(cT w1 (by omega)).mono ?_
      rintro e w2⟨rfl,hb2⟩;have HK2:=hid (HK1.out.trans (Kept.of_below hb2))
      have HB2:=HB1.out.below hb2;have HJ2:=hid (HJ1.out.below hb2)
      have hM2:M≤w2.heap.size:=by have:=hb2.size;omega
      clear hb2 HK1 HB1 HJ1;go_wp2_with fail;refine(qay _).mono ?_;rintro e w3⟨rfl,rfl⟩;have cW:=qa4 71 M M 0 #[p,v] acc u w2 qlB HB2 (by rw [List.length_append] at hsz;omega) hM2
      clear HB2;go_wp2_with fail;refine cW.mono ?_;rintro e w3⟨rfl,⟨v',hB3⟩,hbe⟩;have hb3:=hbe.below (Nat.le_refl _) hM2
      have HK3:=hid (HK2.out.low (hM▸hb3))
      have HJ3:=hid (HI.out.2.1.re HJ2.out HK3.out (hb3.mono (by omega)))
      obtain⟨p',v'',e⟩:=qhs hB3 (by simp)
      rw [e] at hB3;have HB3:=hid hB3;have hln:qr5 B w3=r.length:=HJ3.out.left
      clear cW hbe hb3 hB3 e HK2 HJ2;go_wp2_with fail;go_roundw
      case rel=>exact⟨acc++u,r,p',v'',R1,d1,HB3,HJ3,HK3,hid HL.out.symm,hsz⟩
      case measure=>have:=HM.out.1;have:=HM.out.2;omega
    ·have g45:((y.toNat:Int)==45)=false:=qf0 (n:=45) h45
     have hop:qsx x=false:=by rw [hop];simpa using h45
     have HX:=hid (HX.out (by rw [qbs,hop];rfl))
     clear HJ HL HB hlx cN hop h45;go_wp2_with fail;refine cS.mono ?_;rintro e w2⟨rfl,-,hbe⟩;have HX:=hid (HX.out w2 (hbe.below (Nat.le_refl _) hMw))
     clear hbe cS;go_wp2_with fail;go_ret;exact HX.out
   ·have hi1:¬(1:Int)<(x.length:Int):=by omega
    have HX:=hid (HX.out (by rw [qbs,qqc x h1];rfl))
    clear HJ HL HB hlx cN h1;go_wp2_with fail;refine cS.mono ?_;rintro e w2⟨rfl,-,hbe⟩;have HX:=hid (HX.out w2 (hbe.below (Nat.le_refl _) hMw))
    clear hbe cS;go_wp2_with fail;go_ret;exact HX.out
end
def qdy (p top:List UInt8):Bool:=decide (p=top∨(top++[47]) <+: p)
def qm7 (t:List ND) (p:List UInt8):List ND:=t.filter fun n=>!qdy n.p p
theorem qsz (t:List ND) (p:List UInt8) (k:Nat) (h:k<t.length):qm7 (t.take (k+1)) p=qm7 (t.take k) p++if qdy t[k].p p then [] else [t[k]]:=by
 unfold qm7;rw [List.take_succ_eq_append_getElem h,List.filter_append]
 congr 1
 cases hb:qdy t[k].p p<;>simp [hb]
noncomputable def qfm (t:List ND) (p:List UInt8) (all:Bool):List ND×Int:=
 if(qga t p).2≠0 then([],(qga t p).2) else if qak t (qam p)=0 then([],71) else if qam p=[47]∨qak t (qam p)=2∧all=false then([],15) else(qm7 t (qam p),0)
def Asc (t:List ND):Prop:=t.Pairwise fun x y=>x.p<y.p
theorem OkT.asc {t:List ND} (h:OkT t):Asc t:=by
 refine List.pairwise_iff_getElem.2 fun i j hi hj hij=>?_
 obtain⟨d,rfl⟩:∃d,j=i+1+d:=⟨j-(i+1),by omega⟩
 induction d with
 |zero=>exact(h.2 (i+1) hj).2.2.2.1 (by omega)
 |succ d ih=>
  have h1:=ih (by omega) (by omega)
  have h2:=(h.2 (i+1+(d+1)) hj).2.2.2.1 (by omega)
  exact List.lt_trans h1 h2
def OkN (t:List ND) (n:ND):Prop:=(0∉n.p∧n.p≠[])∧qam n.p=n.p∧n.p≠[47]∧(n.d=true→n.x=[])∧qak t (qbl n.p)=2
theorem OkT.node {t:List ND} (h:OkT t) {n:ND} (hn:n∈t):OkN t n:=by
 obtain⟨k,hk,rfl⟩:=List.getElem_of_mem hn;obtain⟨h1,h2,h3,_,h5,_,h7⟩:=h.2 k hk;exact⟨h1,h2,h3,h5,h7⟩
theorem qeL (a b:List ND):qbM (a++b)=qbM a+qbM b:=by simp [qbM]
theorem qwj {t:List ND} (hl:t.length≤256) (hs:qbM t≤65536) (ha:Asc t) (hn:∀n∈t,OkN t n):OkT t:=by
 refine⟨hl,fun k hk=>?_⟩
 obtain⟨h1,h2,h3,h5,h7⟩:=hn _ (List.getElem_mem hk)
 refine⟨h1,h2,h3,fun h0=>List.pairwise_iff_getElem.1 ha (k-1) k (by omega) hk (by omega),h5,?_,h7⟩
 have e:=qeL (t.take (k+1)) (t.drop (k+1))
 rw [List.take_append_drop] at e;omega
theorem qwG {t:List ND} (h:Asc t):∀{x y:ND},x∈t→y∈t→x.p=y.p→x=y:=by
 induction t with
 |nil=>intro x y hx;cases hx
 |cons a r ih=>
  intro x y hx hy e
  obtain⟨h1,h2⟩:=List.pairwise_cons.1 h;rcases List.mem_cons.1 hx with rfl|hx
  ·rcases List.mem_cons.1 hy with rfl|hy
   ·rfl
   ·exact absurd (h1 y hy) (by rw [e];exact List.lt_irrefl _)
  ·rename_i hx'
   rcases List.mem_cons.1 hy with e2|hy
   ·subst e2
    exact absurd (h1 x hx) (by rw [e];exact List.lt_irrefl _)
   ·exact ih h2 hx hy e
theorem qeB {t:List ND} (h:Asc t) {n:ND} (hn:n∈t):qbU t n.p=some n:=by
 cases hf:qbU t n.p with
 |none=>
  have:=List.find?_eq_none.1 hf n hn
  simp at this
 |some m=>
  have h1:=List.mem_of_find?_eq_some hf
  have h2:=List.find?_some hf
  rw [qwG h h1 hn (by simpa using h2)]
theorem qhO {t:List ND} {p:List UInt8} {n:ND} (h:qbU t p=some n):n∈t∧n.p=p:=
 ⟨List.mem_of_find?_eq_some h,by simpa using List.find?_some h⟩
theorem qcK {t:List ND} {p:List UInt8}:qbU t p=none↔∀n∈t,n.p≠p:=by
 unfold qbU;rw [List.find?_eq_none];exact⟨fun h n hn=>by simpa using h n hn,fun h n hn=>by simpa using h n hn⟩
theorem qdd {t:List ND} {p:List UInt8} (ha:Asc t):qak t p=2↔p=[47]∨∃n∈t,n.p=p∧n.d=true:=by
 rcases qbY t p with ⟨h,h1,h2⟩|⟨h,h1,n,h2,h3⟩|⟨h,h1⟩
 ·rw [h]
  refine⟨fun e=>by simp at e,?_⟩
  rintro(e|⟨n,hn,e,_⟩)
  ·exact absurd e h1
  ·exact absurd e (qcK.1 h2 n hn)
 ·rw [h]
  refine⟨fun e=>by simp at e,?_⟩
  rintro(e|⟨m,hm,rfl,hd⟩)
  ·exact absurd e h1
  ·rw [qeB ha hm] at h2
   cases h2
   rw [hd] at h3;cases h3
 ·refine⟨fun _=>?_,fun _=>h⟩
  rcases h1 with h1|⟨n,h1,h2⟩
  ·exact .inl h1
  ·exact .inr ⟨n,(qhO h1).1,(qhO h1).2,h2⟩
def qd4 (n:ND):List ND→List ND
 |[]=>[n]
 |x::r=>if x.p<n.p then x::qd4 n r else n::(x::r).filter fun y=>y.p≠n.p
theorem qfA (n:ND):∀(t acc:List ND),t.foldl (stepW n) (acc,true)=(acc++t.filter (fun y=>y.p≠n.p),true)
 |[],acc=>by simp
 |x::r,acc=>by
  rw [List.foldl_cons];unfold stepW;rw [if_neg (by simp)];by_cases h:x.p=n.p
  ·rw [if_pos h,show(fun(q:List ND×Bool) (x:ND)=>if q.2=false∧¬x.p<n.p then(if x.p=n.p then(q.1++[n],true) else(q.1++[n]++[x],true)) else if x.p=n.p then q else(q.1++[x],q.2))=stepW n from rfl,qfA n r acc]
   simp [h]
  ·rw [if_neg h,show(fun(q:List ND×Bool) (x:ND)=>if q.2=false∧¬x.p<n.p then(if x.p=n.p then(q.1++[n],true) else(q.1++[n]++[x],true)) else if x.p=n.p then q else(q.1++[x],q.2))=stepW n from rfl,qfA n r (acc++[x])]
   simp [h]
theorem qn5 (n:ND):∀(t acc:List ND),((t.foldl (stepW n) (acc,false)).1++if(t.foldl (stepW n) (acc,false)).2 then [] else [n])=acc++qd4 n t
 |[],acc=>by simp [qd4]
 |x::r,acc=>by
  rw [List.foldl_cons];by_cases h:x.p<n.p
  ·have e:stepW n (acc,false) x=(acc++[x],false):=by
    unfold stepW;rw [if_neg (by simp [h]),if_neg (by intro e;rw [e] at h;exact List.lt_irrefl _ h)]
   rw [e,qn5 n r (acc++[x]),qd4,if_pos h];simp
  ·rw [qd4,if_neg h]
   by_cases h2:x.p=n.p
   ·have e:stepW n (acc,false) x=(acc++[n],true):=by
     unfold stepW;rw [if_pos ⟨rfl,h⟩,if_pos h2]
    rw [e,qfA];simp [h2]
   ·have e:stepW n (acc,false) x=(acc++[n]++[x],true):=by
     unfold stepW;rw [if_pos ⟨rfl,h⟩,if_neg h2]
    rw [e,qfA];simp [h2]
theorem qbK (t:List ND) (n:ND):qbT t n=qd4 n t:=by
 have h:=qn5 n t []
 rw [List.nil_append] at h;rw [← h];unfold qbT qlp;rw [List.take_of_length_le (Nat.le_refl _)]
theorem qff (n:ND):∀{t:List ND} {y:ND},y∈qd4 n t↔y=n∨(y∈t∧y.p≠n.p)
 |[],y=>by simp [qd4]
 |x::r,y=>by
  rw [qd4];split
  ·rename_i h
   have hx:x.p≠n.p:=fun e=>by rw [e] at h;exact List.lt_irrefl _ h
   rw [List.mem_cons,qff n,List.mem_cons];constructor
   ·rintro(rfl|rfl|⟨h1,h2⟩)
    ·exact .inr ⟨.inl rfl,hx⟩
    ·exact .inl rfl
    ·exact .inr ⟨.inr h1,h2⟩
   ·rintro(rfl|⟨rfl|h1,h2⟩)
    ·exact .inr (.inl rfl)
    ·exact .inl rfl
    ·exact .inr (.inr ⟨h1,h2⟩)
  ·rw [List.mem_cons,List.mem_filter]
   simp
theorem qkg (n:ND):∀{t:List ND},Asc t→Asc (qd4 n t)
 |[],_=>List.pairwise_singleton _ _
 |x::r,h=>by
  obtain⟨h1,h2⟩:=List.pairwise_cons.1 h;rw [qd4];split
  ·rename_i hx
   refine List.pairwise_cons.2 ⟨fun y hy=>?_,qkg n h2⟩
   rcases (qff n).1 hy with rfl|⟨hy,_⟩
   ·exact hx
   ·exact h1 y hy
  ·rename_i hx
   refine List.pairwise_cons.2 ⟨fun y hy=>?_,h.filter _⟩
   obtain⟨hy,hne⟩:=List.mem_filter.1 hy;have hne:y.p≠n.p:=by simpa using hne
   have hle:n.p≤y.p:=by
    rcases List.mem_cons.1 hy with rfl|hy
    ·exact List.not_lt.1 hx
    ·exact List.le_trans (List.not_lt.1 hx) (List.le_of_lt (h1 y hy))
   exact Classical.byContradiction fun hn=>hne (List.le_antisymm (List.not_lt.1 hn) hle)
theorem filter_all {t:List ND} {p:List UInt8} (h:∀n∈t,n.p≠p):(t.filter fun y=>y.p≠p)=t:=List.filter_eq_self.2 fun n hn=>by simpa using h n hn
theorem qnx (t:List ND) (f:ND→Bool):qbM (t.filter f)≤qbM t:=by
 induction t with
 |nil=>exact Nat.le_refl _
 |cons x r ih=>
  have e:qbM (x::r)=x.x.length+qbM r:=by simp [qbM]
  cases hf:f x
  ·rw [List.filter_cons_of_neg (by simp [hf]),e];omega
  ·rw [List.filter_cons_of_pos hf,e,show qbM (x::r.filter f)=x.x.length+qbM (r.filter f) by simp [qbM]];omega
theorem qqY {t:List ND} {p:List UInt8} (h:(qga t p).2=0):OkT t∧0∉p∧p≠[]:=by
 rcases qb8 t p with ⟨_,h0,h1⟩|⟨h1,_⟩|⟨h1,_⟩
 ·refine⟨h0,?_⟩
  by_cases hp:0∉p∧p≠[]
  ·exact hp
  ·rw [qej hp] at h1
   simp at h1
 ·rw [h1] at h;simp at h
 ·rw [h1] at h;simp at h
theorem qjv {p:List UInt8} (h:0∉p):0∉qam p:=fun hc=>by
 rcases qvh hc with e|e
 ·simp at e
 ·exact h e
theorem qfQ (p:List UInt8):qam p≠[]:=by
 obtain⟨r,e⟩:=qh0 (qap p)
 unfold qam;rw [e];simp
theorem qef (t:List ND):qak t [47]=2:=by unfold qak;rw [if_pos rfl]
theorem qoi {t:List ND} {n:ND} {q:List UInt8} (ha:Asc t) (hk:qak t n.p≠2) (hq:qak t q=2):qak (qd4 n t) q=2:=by
 rw [qdd (qkg n ha)];rcases (qdd ha).1 hq with h|⟨m,hm,rfl,hd⟩
 ·exact .inl h
 ·exact .inr ⟨m,(qff n).2 (.inr ⟨hm,fun e=>hk ((qdd ha).2 (.inr ⟨m,hm,e,hd⟩))⟩),rfl,hd⟩
theorem qst {t:List ND} {n:ND} (h:OkT t) (hk:qak t n.p≠2) (h1:0∉n.p∧n.p≠[]) (h2:qam n.p=n.p) (h3:n.d=true→n.x=[]) (h4:qak t (qbl n.p)=2)
  (hl:(qd4 n t).length≤256) (hs:qbM (qd4 n t)≤65536):OkT (qd4 n t):=by
 refine qwj hl hs (qkg n h.asc) fun y hy=>?_
 rcases (qff n).1 hy with rfl|⟨hy,_⟩
 ·exact⟨h1,h2,fun e=>hk (by rw [e];exact qef t),h3,qoi h.asc hk h4⟩
 ·obtain⟨a1,a2,a3,a4,a5⟩:=h.node hy
  exact⟨a1,a2,a3,a4,qoi h.asc hk a5⟩
theorem qtE {p top:List UInt8}:qdy p top=true↔p=top∨(top++[47]) <+: p:=by unfold qdy;exact decide_eq_true_iff
theorem qnG {q P:List UInt8} (hq:qam q=q) (h47:q≠[47]) (hP:P≠[47]) (hP0:P≠[]) (h:qdy (qbl q) P=true):qdy q P=true:=by
 have hl:qap q≠[]:=fun e=>h47 (by rw [← hq];unfold qam;rw [e];rfl)
 have hq2:q=qad (qap q):=by
  conv=>lhs;rw [← hq]
  unfold qam joinL;rw [if_neg hl]
 rw [qtE] at h ⊢;unfold qbl joinL at h;by_cases hd:(qap q).dropLast=[]
 ·rw [if_pos hd] at h
  rcases h with h|⟨r,h⟩
  ·exact absurd h.symm hP
  ·cases P with
   |nil=>exact absurd rfl hP0
   |cons c P=>simp at h
 ·rw [if_neg hd] at h
  have e:q=qad (qap q).dropLast++(47::(qap q).getLast hl):=by
   conv=>lhs;rw [hq2,← List.dropLast_concat_getLast hl,qbh]
   simp [qad]
  rcases h with h|⟨r,h⟩
  ·refine .inr ⟨(qap q).getLast hl,?_⟩
   rw [← h]
   conv=>rhs;rw [e]
   simp
  ·refine .inr ⟨r++(47::(qap q).getLast hl),?_⟩
   conv=>rhs;rw [e,← h]
   simp
theorem qkp {t:List ND} {P:List UInt8} {y:ND}:y∈qm7 t P↔y∈t∧qdy y.p P=false:=by
 unfold qm7;rw [List.mem_filter];simp
theorem qxg {t:List ND} {P:List UInt8} (h:OkT t) (hP:P≠[47]) (hP0:P≠[]):OkT (qm7 t P):=by
 have ha:Asc (qm7 t P):=h.asc.filter _
 refine qwj (Nat.le_trans (List.length_filter_le _ _) h.1) (Nat.le_trans (qnx _ _) h.sum) ha fun y hy=>?_
 obtain⟨hy,hu⟩:=qkp.1 hy;obtain⟨a1,a2,a3,a4,a5⟩:=h.node hy;refine⟨a1,a2,a3,a4,(qdd ha).2 ?_⟩
 rcases (qdd h.asc).1 a5 with e|⟨m,hm,e,hd⟩
 ·exact .inl e
 ·refine .inr ⟨m,qkp.2 ⟨hm,?_⟩,e,hd⟩
  cases hc:qdy m.p P
  ·rfl
  ·rw [e] at hc
   rw [qnG a2 a3 hP hP0 hc] at hu;cases hu
theorem ql4 {t:List ND} {p:List UInt8} (h:qbd t p=0):qak t (qbl p)=2:=by
 unfold qbd at h;rcases qbY t (qbl p) with ⟨e,_⟩|⟨e,_⟩|⟨e,_⟩
 ·rw [e] at h;simp at h
 ·rw [e] at h;simp at h
 ·exact e
theorem qsN {t:List ND} {p x:List UInt8} (h:(qox t p x).2=0):OkT t∧(0∉p∧p≠[])∧qak t (qam p)≠2∧(qox t p x).1=qd4 ⟨qam p,false,x⟩ t∧OkT (qd4 ⟨qam p,false,x⟩ t):=by
 unfold qox at h ⊢
 by_cases h1:(qga t p).2≠0
 ·rw [if_pos h1] at h;exact absurd h h1
 rw [if_neg h1] at h ⊢;obtain⟨h0,hp⟩:=qqY (Classical.not_not.1 h1)
 by_cases h2:qak t (qam p)=2
 ·rw [if_pos h2] at h;simp at h
 rw [if_neg h2] at h ⊢;by_cases h3:qbd t (qam p)≠0
 ·rw [if_pos h3] at h;exact absurd h h3
 rw [if_neg h3] at h ⊢;rcases qdE (qbT t ⟨qam p,false,x⟩) with ⟨h4,h5⟩|⟨h4,h5⟩
 ·rw [h5,qbK]
  rw [qbK] at h4;exact⟨h0,hp,h2,rfl,qst h0 h2 ⟨qjv hp.1,qfQ p⟩ (qfR p) (fun e=>by cases e) (ql4 (Classical.not_not.1 h3)) h4.1 h4.2⟩
 ·rw [h5] at h;simp at h
theorem qrh {w:List UInt8} (h:47∉w):qbX [] w=[w]:=by
 have:=qhC w [] [] h
 rw [List.append_nil,List.nil_append] at this;rw [this];rfl
def qd1 (l:List UInt8):Int:=Lib.lastIndexByte ⟨l.toArray⟩ 47
theorem last_at (l:List UInt8) (j:Nat) (h:j<l.length):(⟨l.toArray⟩:ByteArray).data[j]! = l[j]:=by
 show l.toArray[j]! = l[j]
 rw [getElem!_pos l.toArray j (by simpa using h)]
 rfl
theorem qtD {c:UInt8}:((c.toNat:Nat):Int)=47↔c=47:=by
 constructor
 ·intro h
  have h2:c.toNat=47:=by omega
  exact UInt8.toNat_inj.1 (by rw [h2];rfl)
 ·rintro rfl;rfl
theorem qlw {a b:List UInt8} (hb:47∉b):qd1 (a++47::b)=a.length:=by
 have hl:(a++47::b).length=a.length+1+b.length:=by simp;omega
 have h1:(a++47::b)[a.length]'(by omega)=47:=by simp
 unfold qd1;rcases Lib.lastIndexByte_spec ⟨(a++47::b).toArray⟩ 47 with ⟨_,hn⟩|⟨i,hi,e,hc,hn⟩
 ·have:=hn a.length (by show _<(a++47::b).toArray.size;rw [List.size_toArray];omega)
  rw [last_at _ _ (by omega),h1] at this;exact absurd rfl this
 ·have hi:i<(a++47::b).length:=by simpa [ByteArray.size] using hi
  rw [e];rw [last_at _ i hi] at hc;have hc:=qtD.1 hc;have h2:¬i<a.length:=fun hlt=>by
   have:=hn a.length hlt (by show _<(a++47::b).toArray.size;rw [List.size_toArray];omega)
   rw [last_at _ _ (by omega),h1] at this;exact absurd rfl this
  have h3:¬a.length<i:=fun hlt=>by
   rw [List.getElem_append_right (by omega)] at hc;obtain⟨d,hd⟩:∃d,i-a.length=d+1:=⟨i-a.length-1,by omega⟩
   simp only [hd,List.getElem_cons_succ] at hc
   exact hb (hc▸List.getElem_mem _)
  omega
theorem qr3 (l:List UInt8):-1≤qd1 l∧qd1 l<l.length:=by
 rcases Lib.lastIndexByte_spec ⟨l.toArray⟩ 47 with ⟨e,_⟩|⟨i,hi,e,_⟩
 ·unfold qd1;rw [e];omega
 ·unfold qd1
  have hi:i<l.length:=by simpa [ByteArray.size] using hi
  rw [e];omega
def qcE (p:List UInt8):List UInt8:=p.take (max 1 (qd1 p)).toNat
theorem qeo (ls:List (List UInt8)) (w:List UInt8):qad (ls++[w])=qad ls++47::w:=by
 rw [qbh];simp [qad]
theorem qma {ls:List (List UInt8)} (h:ls≠[]):1≤(qad ls).length:=by
 have:=qh5 ls
 have:=List.length_pos_iff.2 h
 omega
theorem qpH (ls:List (List UInt8)) (w:List UInt8) (hw:47∉w):qcE (qad (ls++[w]))=joinL ls:=by
 unfold qcE;rw [qeo,qlw hw];by_cases h:ls=[]
 ·subst h;rfl
 ·have:=qma h
  rw [show(max 1 (((qad ls).length:Nat):Int)).toNat=(qad ls).length by omega,List.take_left];unfold joinL;rw [if_neg h]
theorem qjw {p:List UInt8} (h:qam p=p) (h47:p≠[47]):∃(ls:List (List UInt8)) (w:List UInt8),qap p=ls++[w]∧p=qad (ls++[w])∧qhl w:=by
 have hl:qap p≠[]:=fun e=>h47 (by rw [← h];unfold qam;rw [e];rfl)
 refine⟨(qap p).dropLast,(qap p).getLast hl,(List.dropLast_concat_getLast hl).symm,?_,qcc _ _ (List.getLast_mem hl)⟩
 rw [List.dropLast_concat_getLast hl]
 conv=>lhs;rw [← h]
 unfold qam joinL;rw [if_neg hl]
theorem qgh {p:List UInt8} (h:qam p=p) (h47:p≠[47]):qcE p=qbl p:=by
 obtain⟨ls,w,h1,h2,h3⟩:=qjw h h47;unfold qbl;rw [h1,List.dropLast_concat]
 conv=>lhs;rw [h2]
 exact qpH ls w h3.2.2.2
theorem qo7 (ls:List (List UInt8)) (h:∀w∈ls,47∉w):(qad ls).take (max 0 (qd1 (qad ls))).toNat=qad ls.dropLast:=by
 by_cases he:ls=[]
 ·subst he;rfl
 ·conv=>lhs;rw [← List.dropLast_concat_getLast he]
  rw [qeo,qlw (h _ (List.getLast_mem he))];rw [show(max 0 (((qad ls.dropLast).length:Nat):Int)).toNat=(qad ls.dropLast).length by omega,List.take_left]
def qkz (w:List UInt8):Bool:=!(w==[])&&!(w==[46])&&!(w==[46,46])
theorem qfY (w:List UInt8):qkz w=true↔w≠[]∧w≠[46]∧w≠[46,46]:=by
 unfold qkz;by_cases h1:w=[]<;>by_cases h2:w=[46]<;>by_cases h3:w=[46,46]<;>simp_all
def qjP (s:List UInt8):Prop:=(0∉s∧s≠[])∧qam s=s∧s≠[47]
theorem qiq:∀(r cur:List UInt8),qad (qbX cur r)=47::(cur++r)
 |[],cur=>by simp [qbX,qad]
 |c::r,cur=>by
  rw [qbX];by_cases h:c=47
  ·rw [if_pos h]
   show(47::cur)++qad (qbX [] r)=_
   rw [qiq r [],h];simp
  ·rw [if_neg h,qiq r (cur++[c])];simp
theorem qwa:∀(r cur:List UInt8),qbX cur r≠[]
 |[],cur=>by simp [qbX]
 |c::r,cur=>by
  rw [qbX];split
  ·simp
  ·exact qwa r _
theorem qvX {r:List UInt8} (h0:0∉47::r) (h:∀w∈qbX [] r,qkz w=true):qjP (47::r):=by
 have hg:∀w∈qbX [] r,qhl w:=fun w hw=>by
  obtain⟨a,b,c⟩:=(qfY w).1 (h w hw)
  exact⟨a,b,c,qhD r [] (by simp) w hw⟩
 have hp:qap (47::r)=qbX [] r:=by
  unfold qap;rw [qbX,if_pos rfl,List.foldl_cons,show qbE [] []=[] from rfl,qll _ hg]
  rfl
 refine⟨⟨h0,by simp⟩,?_,fun e=>?_⟩
 ·unfold qam joinL
  rw [hp,if_neg (qwa r []),qiq];rfl
 ·obtain rfl:r=[]:=by simpa using e
  have:=h [] (by simp [qbX])
  simp [qkz] at this
theorem qx0 {r w:List UInt8} (hw:w∈qbX [] r) (h:qkz w=false):¬qjP (47::r):=fun⟨_,h1,h2⟩=>by
 have hl:qap (47::r)≠[]:=fun e=>h2 (by rw [← h1];unfold qam;rw [e];rfl)
 have e:47::r=qad (qap (47::r)):=by
  conv=>lhs;rw [← h1]
  unfold qam joinL;rw [if_neg hl]
 have hc:=qi8 (qap (47::r)) (fun w hw=>(qcc _ w hw).2.2.2) []
 rw [← e,qbX,if_pos rfl] at hc;have hc:qbX [] r=qap (47::r):=(List.cons.inj hc).2
 rw [hc] at hw;have hg:=qcc _ w hw;rw [(qfY w).2 ⟨hg.1,hg.2.1,hg.2.2.1⟩] at h;cases h
theorem qtv {s:List UInt8} (h:qjP s):∃r,s=47::r:=by
 obtain⟨r,e⟩:=qh0 (qap s)
 exact⟨r,by rw [← e];exact h.2.1.symm⟩
def qag (t:List ND) (p:List UInt8):Nat:=(t.takeWhile fun n=>decide (n.p<p)).length
theorem qoZ:∀(t:List ND) (p:List UInt8) (i:Nat),i≤t.length→(∀k (h:k<t.length),k<i→t[k].p<p)→(∀h:i<t.length,¬t[i].p<p)→qag t p=i
 |[],p,i,hi,_,_=>by
  obtain rfl:i=0:=by simpa using hi
  rfl
 |x::r,p,0,_,_,h2=>by
  have h:=h2 (by simp)
  simp only [List.getElem_cons_zero] at h
  unfold qag;rw [List.takeWhile_cons_of_neg (by simpa using h)]
  rfl
 |x::r,p,i+1,hi,h1,h2=>by
  have h:=h1 0 (by simp) (by omega)
  simp only [List.getElem_cons_zero] at h
  have ih:=qoZ r p i (by simpa using hi) (fun k hk hki=>h1 (k+1) (Nat.succ_lt_succ hk) (by omega)) (fun hlt=>h2 (Nat.succ_lt_succ hlt))
  unfold qag at ih ⊢
  rw [List.takeWhile_cons_of_pos (by simpa using h),List.length_cons,ih]
theorem qf4 (t:List ND) (p:List UInt8):qag t p≤t.length:=by
 unfold qag;exact List.Sublist.length_le (List.takeWhile_sublist _)
theorem qo0:∀(t:List ND) (p:List UInt8) (k:Nat) (h:k<t.length),k<qag t p→t[k].p<p
 |x::r,p,k,hk,hw=>by
  unfold qag at hw;by_cases h:x.p<p
  ·rw [List.takeWhile_cons_of_pos (by simpa using h),List.length_cons] at hw
   cases k with
   |zero=>exact h
   |succ k=>exact qo0 r p k (by simpa using hk) (by unfold qag;omega)
  ·rw [List.takeWhile_cons_of_neg (by simpa using h)] at hw
   simp at hw
theorem qoY:∀(t:List ND) (p:List UInt8) (h:qag t p<t.length),¬t[qag t p].p<p
 |x::r,p,hw=>by
  by_cases h:x.p<p
  ·have e:qag (x::r) p=qag r p+1:=by
    unfold qag;rw [List.takeWhile_cons_of_pos (by simpa using h),List.length_cons]
   simp only [e,List.getElem_cons_succ]
   exact qoY r p (by rw [e] at hw;simpa using hw)
  ·have e:qag (x::r) p=0:=by
    unfold qag;rw [List.takeWhile_cons_of_neg (by simpa using h)]
    rfl
   simp only [e,List.getElem_cons_zero]
   exact h
theorem qqX {t:List ND} (h:Asc t) {i j:Nat} (hi:i<t.length) (hj:j<t.length) (hij:i<j):t[i].p<t[j].p:=List.pairwise_iff_getElem.1 h i j hi hj hij
theorem qgC {t:List ND} (ha:Asc t) (p:List UInt8):(∃h:qag t p<t.length,t[qag t p].p=p∧qbU t p=some t[qag t p])∨((∀h:qag t p<t.length,t[qag t p].p≠p)∧qbU t p=none):=by
 by_cases h:∃h:qag t p<t.length,t[qag t p].p=p
 ·obtain⟨h,e⟩:=h
  refine .inl ⟨h,e,?_⟩
  have:=qeB ha (List.getElem_mem h)
  rwa [e] at this
 ·refine .inr ⟨fun h1 e=>h ⟨h1,e⟩,qcK.2 fun n hn e=>?_⟩
  obtain⟨k,hk,rfl⟩:=List.getElem_of_mem hn;by_cases hkw:k<qag t p
  ·have:=qo0 t p k hk hkw
   rw [e] at this;exact List.lt_irrefl _ this
  ·by_cases ek:k=qag t p
   ·subst ek;exact h ⟨hk,e⟩
   ·have h1:=qoY t p (by omega)
    have h2:=qqX ha (i:=qag t p) (j:=k) (by omega) hk (by omega)
    rw [e] at h2;exact h1 h2
theorem qf3 {x:ND} {r:List ND} {p:List UInt8} (h:x.p<p):qag (x::r) p=qag r p+1:=by
 unfold qag;rw [List.takeWhile_cons_of_pos (by simpa using h),List.length_cons]
theorem qf2 {x:ND} {r:List ND} {p:List UInt8} (h:¬x.p<p):qag (x::r) p=0:=by
 unfold qag;rw [List.takeWhile_cons_of_neg (by simpa using h)]
 rfl
theorem qkh (n:ND):∀{t:List ND},Asc t→qbU t n.p=none→qd4 n t=t.take (qag t n.p)++(n::t.drop (qag t n.p))
 |[],_,_=>rfl
 |x::r,ha,hf=>by
  obtain⟨h1,h2⟩:=List.pairwise_cons.1 ha;have hn:=qcK.1 hf;rw [qd4];by_cases h:x.p<n.p
  ·rw [if_pos h,qf3 h,List.take_succ_cons,List.drop_succ_cons,qkh n h2 (qcK.2 fun m hm=>hn m (List.mem_cons_of_mem _ hm))];rfl
  ·rw [if_neg h,qf2 h,filter_all hn];rfl
theorem qmT (n:ND):∀{t:List ND} {m:ND},Asc t→qbU t n.p=some m→qd4 n t=t.take (qag t n.p)++(n::t.drop (qag t n.p+1))
 |[],m,_,hf=>by cases hf
 |x::r,m,ha,hf=>by
  obtain⟨h1,h2⟩:=List.pairwise_cons.1 ha;obtain⟨hm,hp⟩:=qhO hf;rw [qd4];by_cases h:x.p<n.p
  ·have hm2:m∈r:=(List.mem_cons.1 hm).resolve_left fun e=>by
    subst e;rw [hp] at h;exact List.lt_irrefl _ h
   have hf2:qbU r n.p=some m:=by rw [← hp];exact qeB h2 hm2
   rw [if_pos h,qf3 h,List.take_succ_cons,List.drop_succ_cons,qmT n h2 hf2];rfl
  ·have hx:x.p=n.p:=by
    rcases List.mem_cons.1 hm with rfl|hm
    ·exact hp
    ·have:=h1 m hm
     rw [hp] at this;exact absurd this h
   rw [if_neg h,qf2 h,List.filter_cons_of_neg (by simp [hx]),filter_all fun y hy e=>?_]
   ·rfl
   ·have:=h1 y hy
    rw [e,hx] at this;exact List.lt_irrefl _ this
theorem qiv (x:ND) (r:List ND):qbM (x::r)=x.x.length+qbM r:=by simp [qbM]
theorem qto {n:ND} {t:List ND} (ha:Asc t) (hf:qbU t n.p=none):qbM (qd4 n t)=qbM t+n.x.length∧(qd4 n t).length=t.length+1:=by
 rw [qkh n ha hf];have e:=qeL (t.take (qag t n.p)) (t.drop (qag t n.p))
 rw [List.take_append_drop] at e;have hw:=qf4 t n.p;refine⟨by rw [qeL,qiv];omega,?_⟩
 simp;omega
theorem qxS {n m:ND} {t:List ND} (ha:Asc t) (hf:qbU t n.p=some m):qbM (qd4 n t)+m.x.length=qbM t+n.x.length∧(qd4 n t).length=t.length:=by
 rw [qmT n ha hf];rcases qgC ha n.p with ⟨h,_,e⟩|⟨_,e⟩
 ·rw [e] at hf
  obtain rfl:=Option.some.inj hf
  have e:=qeL (t.take (qag t n.p)) (t.drop (qag t n.p))
  rw [List.take_append_drop,List.drop_eq_getElem_cons h,qiv] at e;refine⟨by rw [qeL,qiv];omega,?_⟩
  simp;omega
 ·rw [e] at hf;cases hf
theorem qaU (x:List UInt8) (hx:x.length≤281474976710656) (w:World):Calls prog 26 #[encS x] w fun e w'=>e=.returned (encS x)∧Below w.heap.size w w':=by
 have cC:=fun W=>Tryz.stringslite_Clone ⟨x.toArray⟩ W (by simp [ByteArray.size];omega)
 go_enter func26,ntmps26;go_wp2_with (go_at_call 50;(with_reducible refine(cC _).mono ?_);rintro e w1 ⟨rfl,hb1⟩)
 go_ret;exact⟨rfl,hb1⟩
end Go.Proofs.YtpodopnmkjinhaaGreatDoor
namespace Go.Proofs.YtpodopnmkjinhaaGreatDoor
open Go.RowKit
def qqP {β:Type} (Lo:Nat→Prop) (J:β→World→Prop):Prop:=∀s X Y row,J s X→X.grownBy Y row→(∀r,row=some r→Lo r)→J s Y
def qqS {β:Type} (Lo:Nat→Prop) (B:Nat) (I:β→World→Prop):Prop:=∀s X Y row,I s X→X.grownBy Y row→(∀r,row=some r→Lo r∨(B≤r∧∃o:Obj,X.heap[r]?=some o∧o.isCells=false))→I s Y
theorem qqS.put {β:Type} {Lo:Nat→Prop} {B:Nat} {I:β→World→Prop} (h:qqS Lo B I) {s:β} {X:World} {l:Nat} {o:Obj} (o':Obj) (hs:I s X) (hB:B≤l) (hl:X.heap[l]?=some o) (ho:o.isCells=false):I s (X.putObj l o'):=
 h s X _ (some l) hs (grownBy_putObj' X l o') (fun r e=>by cases e;exact .inr ⟨hB,o,hl,ho⟩)
theorem qqS.alloc {β:Type} {Lo:Nat→Prop} {B:Nat} {I:β→World→Prop} (h:qqS Lo B I) {s:β} {X:World} (o:Obj) (hs:I s X):I s (X.alloc o):=h s X _ none hs (World.grownBy_alloc X o none) (fun r e=>by cases e)
theorem qqS.pure {β:Type} {Lo:Nat→Prop} {B:Nat} (p:β→Prop):qqS Lo B (fun s (_:World)=>p s):=fun _ _ _ _ h _ _=>h
def qzv {α:Type} (F:Fence) (n:Nat) (P:Program) (gf:Nat) (lb:Array Value) (enc:α→Value) (Kp:World→World→Prop) (L:List α) (Lo:Nat→Prop) (w0:World):Prop:=
 ∀(l:Nat) (J Jx:List α→World→Prop) (W:World),Below w0.heap.size w0 W→qqP Lo J→qqP Lo Jx→
  (∀pre x W1,J pre W1→pre++[x] <+: L→YieldAt F (n-1) P l #[enc x] W1 fun e W'=>(e=.returned (.bool true)∧J (pre++[x]) W'∧Kp W1 W')∨(e=.returned (.bool false)∧Jx (pre++[x]) W'))→
  J [] W→CallsIn F n P gf (#[.func (.yield l) #[] #[]]++lb) W fun e W'=>(∃v,e=.returned v)∧(J L W'∨∃pre,Jx pre W')
def qck (D:Nat) (r:Loop) (W:World):Prop:=W.heap[D]?=some (.deferred (some []))∧W.heap[D+1]?=some (.loop r)
theorem qck.keeps {D:Nat} {r:Loop} {A B:World} (h:qck D r A) (k:KeepsFrom D A B):qck D r B:=
 ⟨k.same _ _ (Nat.le_refl _) h.1 rfl,k.same _ _ (by omega) h.2 rfl⟩
theorem qck.put {D:Nat} {r r':Loop} {A:World} (h:qck D r A):qck D r' (A.putObj (D+1) (.loop r')):=
 ⟨(World.putObj_heap_other (by omega)).trans h.1,World.putObj_heap_same (Array.getElem?_eq_some_iff.1 h.2).1⟩
theorem qck.turn {D:Nat} {r:Loop} {A B:World} {row:Option Nat} (h:qck D r A) (hg:A.grownBy B row) (hr:∀k,row=some k→k<D):qck D r B:=
 ⟨(hg.block _ (Array.getElem?_eq_some_iff.1 h.1).1 (fun e=>absurd (hr _ e.symm) (Nat.lt_irrefl _))).trans h.1,(hg.block _ (Array.getElem?_eq_some_iff.1 h.2).1 (fun e=>by have:=hr _ e.symm;omega)).trans h.2⟩
theorem qsP {α:Type} {F:Fence} {n:Nat} {P:Program} {w:World} {g:Operand} {ps:Array Tmp} {assign body:Code} {Q:Exit→Act→World→Prop} {a:Act}
  (hro:F.round=none) (h1:1≤n) {gf:Nat} {lb:Array Value} (hg:a.eval g=.func (.func gf) #[] lb) (hFg:F.fn gf) (eg:∀args w,(callFunc gf args).run P w=.ok (.enter gf args) w)
  {enc:α→Value} {Kp:World→World→Prop} {L:List α} {Lo:Nat→Prop} {w0:World} (hseq:qzv F (n-1) P gf lb enc Kp L Lo w0) (hLo:∀r,Lo r→r<w.heap.size)
  (hKt:∀{A B C:World},Kp A B→Kp B C→Kp A C) (hKb:∀(W:World) (l:Nat) (o o':Obj),w.heap.size≤l→W.heap[l]?=some o→o.isCells=false→o.isWalk=false→Kp W (W.putObj l o')) (hb0:Below w0.heap.size w0 w) (hps:1=ps.size)
  (I:List α→World→Prop) (Ix:Code→List α→World→Prop) (hI:qqS Lo w.heap.size I) (hIx:∀c,qqS Lo w.heap.size (Ix c)) (h0:I [] w) (Ax:List α→α→Act→World→Prop) (hAx:∀pre x a',qqS Lo w.heap.size (fun(_:Unit) W=>Ax pre x a' W))
  (hassign:∀(l:Nat) (pre:List α) (x:α) (W:World) (K:Act→World→Prop),I pre W→pre++[x] <+: L→(∀a' W',KeepsFrom w.heap.size W W'→Kp W W'→I pre W'→Ax pre x a' W'→K a' W')→
   assign.wpIn (F.inRound l) (n-1-1) P (Exit.then K (fun _ _ _=>False)) { tmps:=(ps.zip #[enc x]).foldl (fun t (p,v)=>t.setIfInBounds p v) a.tmps,defers:=[] } W)
  (hbody:∀(l:Nat) (pre:List α) (x:α) (a':Act) (W:World),I pre W→Ax pre x a' W→pre++[x] <+: L→body.wpIn (F.inRound l) (n-1-1) P (ownPostG w.heap.size Kp I Ix (pre++[x]) W) a' W)
  (hdone:∀(W:World),I L W→W.heap[w.heap.size]?=some (.deferred (some []))→Q .normal { a with defers:={ target:=.collected w.heap.size,args:=#[] }::a.defers } W)
  (hstop:∀(c:Code) (pre:List α) (W:World),Ix c pre W→W.heap[w.heap.size]?=some (.deferred (some []))→c.wpIn F n P Q { a with defers:={ target:=.collected w.heap.size,args:=#[] }::a.defers } W):
  (Code.rangeFunc g ps assign body).wpIn F n P Q a w:=by
 refine wpIn_rangeFunc fun fn hfn=>?_
 rw [hro];obtain⟨lp,hlp⟩:∃lp:LoopState→Option Code→Loop,lp=fun st pe=>{ state:=st,pending:=pe,fn,tmps:=a.tmps,params:=ps,assign,body,defers:=w.heap.size }:=⟨_,rfl⟩
 obtain⟨V,hV⟩:=qQ ((w.alloc (.deferred (some []))).alloc (.loop (lp .ready none)))
 have bV:qck w.heap.size (lp .ready none) V:=by
  rw [← hV];exact⟨(Below.heap_alloc _ _ _ (by simp)).trans (World.alloc_heap_new w _),by have:=World.alloc_heap_new (w.alloc (.deferred (some []))) (.loop (lp .ready none));rwa [World.size_alloc] at this⟩
 have iV:I [] V:=by rw [← hV];exact hI.alloc _ (hI.alloc _ h0)
 have lV:Below w0.heap.size w0 V:=by rw [← hV];exact hb0.trans ((((Below.refl _ w).alloc (Nat.le_refl _) _).alloc (by simp) _).mono hb0.size)
 have sV:w.heap.size≤V.heap.size:=by rw [← hV];simp;omega
 refine⟨w.heap.size+1,[{ target:=.collected w.heap.size,args:=#[] }],V,{ target:=.fn (.func gf) lb,args:=#[.func (.yield (w.heap.size+1)) #[] #[]] },V,gf,
  #[.func (.yield (w.heap.size+1)) #[] #[]]++lb,V,by rw [← hV,hlp];exact run_enterLoop_outer _ _ _ _ _,by simp only [resolve,hg];simp [go_sem],fun f' hf'=>by simp [Target.leads] at hf';subst hf';exact hFg,by simp [invoke,go_sem,eg],fun _=>h1,?_⟩
 refine(hseq (w.heap.size+1) (fun pre W=>I pre W∧qck w.heap.size (lp .ready none) W) (fun pre W=>∃c,Ix c pre W∧qck w.heap.size (lp .done (some c)) W) V lV ?abides ?abidesx ?one ⟨iV,bV⟩).mono ?done
 case abides=>
  intro s A B row hs hg' hr
  exact⟨hI s A B row hs.1 hg' (fun r e=>.inl (hr r e)),hs.2.turn hg' (fun k e=>hLo k (hr k e))⟩
 case abidesx=>
  rintro s A B row⟨c,hc,hb⟩ hg' hr;exact⟨c,hIx c s A B row hc hg' (fun r e=>.inl (hr r e)),hb.turn hg' (fun k e=>hLo k (hr k e))⟩
 case one=>
  rintro pre x W⟨hi,hb⟩ hpre;have hy:=run_yield (P:=P) (args:=#[enc x]) hb.2 (by rw [hlp];exact hps)
  rw [hlp] at hy;refine⟨fn,_,assign,body,hy,roundIn_of_wpIn hfn (hassign _ pre x W _ hi hpre fun a' U kf kp hi' hax=>?_)⟩
  have hb1:=hb.keeps kf;have hb2:qck w.heap.size { lp .ready none with state:=.busy } (U.putObj (w.heap.size+1) (.loop { lp .ready none with state:=.busy })):=hb1.put
  refine⟨_,run_beginRound hb1.2 (by rw [hlp]),wpIn_mono (hbody _ pre x a' _ (hI.put _ hi' (by omega) hb1.2 rfl) ((hAx pre x a').put (s:=()) _ hax (by omega) hb1.2 rfl) hpre) ?_⟩
  have fin:∀(c:Code) (W3:World),KeepsFrom w.heap.size (U.putObj (w.heap.size+1) (.loop { lp .ready none with state:=.busy })) W3→
    W3.heap[w.heap.size+1]?=some (.loop { lp .ready none with state:=.busy })∧(Instr.endRound (w.heap.size+1) (some c)).run P W3=.ok (.bool false) (W3.putObj (w.heap.size+1) (.loop (lp .done (some c))))∧qck w.heap.size (lp .done (some c)) (W3.putObj (w.heap.size+1) (.loop (lp .done (some c)))):=fun c W3 k3=>by
   have hb3:=hb2.keeps k3;have hr:=run_endRound (P:=P) (some c) hb3.2
   rw [hlp] at hr;refine⟨hb3.2,?_,hb3.put⟩
   rw [hlp];exact hr
  rintro e a3 U3 hp;cases e with
  |normal=>
   obtain⟨k3,kp3,hi3⟩:=hp;have hb3:=hb2.keeps k3;have hr:=run_endRound (P:=P) none hb3.2
   have hb4:qck w.heap.size (lp .ready none) (U3.putObj (w.heap.size+1) (.loop (lp .ready none))):=hb3.put
   rw [hlp] at hr;rw [hlp] at hb4 hb3;refine⟨_,_,hr,.inl ⟨rfl,⟨hI.put _ hi3 (by omega) hb3.2 rfl,?_⟩,hKt kp (hKt (hKt (hKb _ _ _ _ (by omega) hb1.2 rfl rfl) kp3) (hKb _ _ _ _ (by omega) hb3.2 rfl rfl))⟩⟩
   rw [hlp];exact hb4
  |ret=>
   obtain⟨k3,hi3⟩:=hp;obtain⟨hl3,hr,hb4⟩:=fin .ret U3 k3;exact⟨_,_,hr,.inr ⟨rfl,.ret,(hIx _).put _ hi3 (by omega) hl3 rfl,hb4⟩⟩
  |exit id=>
   obtain⟨k3,hi3⟩:=hp;obtain⟨hl3,hr,hb4⟩:=fin (.exit id) U3 k3
   exact⟨_,_,hr,.inr ⟨rfl,.exit id,(hIx _).put _ hi3 (by omega) hl3 rfl,hb4⟩⟩
  |goto t=>
   obtain⟨k3,hi3⟩:=hp;obtain⟨hl3,hr,hb4⟩:=fin (.goto t) U3 k3
   exact⟨_,_,hr,.inr ⟨rfl,.goto t,(hIx _).put _ hi3 (by omega) hl3 rfl,hb4⟩⟩
  |panic ch=>exact hp.elim
  |outgrown=>exact hp.elim
 case done=>
  rintro e W2⟨⟨v,rfl⟩,⟨hi,hb⟩|⟨pre,c,hi,hb⟩⟩
  ·have hr:=run_endLoop (P:=P) hb.2 (by rw [hlp];simp)
   rw [hlp] at hr;exact⟨none,_,hr,hdone _ (hI.put _ hi (by omega) hb.2 rfl) ((World.putObj_heap_other (by omega)).trans hb.1)⟩
  ·have hr:=run_endLoop (P:=P) hb.2 (by rw [hlp];simp)
   rw [hlp] at hr;exact⟨some c,_,hr,hstop c pre _ ((hIx c).put _ hi (by omega) hb.2 rfl) ((World.putObj_heap_other (by omega)).trans hb.1)⟩
end Go.Proofs.YtpodopnmkjinhaaGreatDoor
namespace Go.Proofs.YtpodopnmkjinhaaGreatDoor
open Go.Lib (hid)
open Go.RowKit
theorem qdG:∀(l:List UInt8),(Lib.indexByte l 47=-1∧47∉l)∨(∃a b:List UInt8,Lib.indexByte l 47=a.length∧l=a++47::b∧47∉a)
 |[]=>.inl ⟨rfl,by simp⟩
 |c::r=>by
  by_cases hc:c=47
  ·subst hc
   exact .inr ⟨[],r,by simp [Lib.indexByte],rfl,by simp⟩
  ·have hb:(c==47)=false:=by simpa using hc
   rcases qdG r with ⟨h1,h2⟩|⟨a,b,h1,h2,h3⟩
   ·exact .inl ⟨by rw [Lib.indexByte,hb,h1];rfl,by simp [Ne.symm hc,h2]⟩
   ·refine .inr ⟨c::a,b,?_,by rw [h2];rfl,by simp [Ne.symm hc,h3]⟩
    rw [Lib.indexByte,hb,h1];have:((a.length:Int)==-1)=false:=by simp
    simp [this]
theorem qrf {l:List UInt8} (h:47∉l):qbX [] l=[l]:=qrh h
theorem qhE {a b:List UInt8} (h:47∉a):qbX [] (a++47::b)=a::qbX [] b:=by
 rw [qfa,qrh h];rfl
theorem qpl (l:List UInt8) (h:47∉l) (w:World):
  Calls prog 162 #[encS l,.string ⟨#[47]⟩] w fun e w'=>e=.returned (.tuple #[encS l,encS [],.bool false])∧w=w':=by
 have cI:=fun W=>Tryz.stringslite_Index_one ⟨l.toArray⟩ 47 W
 have hi:Lib.indexByte l 47=-1:=by
  rcases qdG l with ⟨h1,_⟩|⟨a,b,_,h2,_⟩
  ·exact h1
  ·rw [h2] at h;simp at h
 rw [show(⟨l.toArray⟩:ByteArray).data.toList=l from rfl,hi] at cI;clear hi h;have hz:=qbk l;go_enter func162,ntmps162;go_wp2_with (go_at_call 179;(with_reducible refine(cI _).mono ?_);rintro e w' ⟨rfl,rfl⟩)
 go_ret3;exact⟨rfl,rfl⟩
theorem quy (p:List UInt8) (k:Nat):(⟨p.toArray⟩:ByteArray).extract 0 k=⟨(p.take k).toArray⟩:=by
 apply ByteArray.ext
 apply Array.toList_inj.1
 rw [ByteArray.data_extract,Array.toList_extract,List.extract_eq_take_drop];simp
theorem quw (a b:List UInt8):(⟨(a++b).toArray⟩:ByteArray).extract 0 a.length=⟨a.toArray⟩:=by
 apply ByteArray.ext
 apply Array.toList_inj.1
 rw [ByteArray.data_extract,Array.toList_extract,List.extract_eq_take_drop];simp
theorem qrx (a b:List UInt8) (c:UInt8):(⟨(a++c::b).toArray⟩:ByteArray).extract (a.length+1) (⟨(a++c::b).toArray⟩:ByteArray).size=⟨b.toArray⟩:=by
 apply ByteArray.ext
 apply Array.toList_inj.1
 rw [ByteArray.data_extract,Array.toList_extract,List.extract_eq_take_drop,qbk];have e:List.drop (a.length+1) (a++c::b)=b:=by
  rw [show a++c::b=(a++[c])++b by simp,show a.length+1=(a++[c]).length by simp,List.drop_left]
 show List.take _ (List.drop (a.length+1) (a++c::b))=b
 rw [e,List.take_of_length_le];simp;omega
theorem qmL (a b:List UInt8) (h:47∉a) (w:World) (hs:(a++47::b).length≤1099511627776):
  Calls prog 162 #[encS (a++47::b),.string ⟨#[47]⟩] w fun e w'=>∃n,e=.returned (.tuple #[encS a,encS b,.bool true])∧w'=w.drewN n:=by
 have cI:=fun W=>Tryz.stringslite_Index_one ⟨(a++47::b).toArray⟩ 47 W
 have hi:Lib.indexByte (a++47::b) 47=a.length:=by
  rcases qdG (a++47::b) with ⟨_,h1⟩|⟨a',b',h1,h2,h3⟩
  ·simp at h1
  ·have e1:=qhE (a:=a) (b:=b) h
   rw [h2,qhE h3] at e1;rw [h1,(List.cons.inj e1).1]
 rw [show(⟨(a++47::b).toArray⟩:ByteArray).data.toList=a++47::b from rfl,hi] at cI;have e1:(⟨a.toArray⟩:ByteArray)=(⟨(a++47::b).toArray⟩:ByteArray).extract 0 a.length:=(quw a (47::b)).symm
 have e2:(⟨b.toArray⟩:ByteArray)=(⟨(a++47::b).toArray⟩:ByteArray).extract (a.length+1) (⟨(a++47::b).toArray⟩:ByteArray).size:=(qrx a b 47).symm
 have hz:=qbk (a++47::b)
 have hl:a.length+1≤(a++47::b).length:=by simp
 unfold encS;rw [e1,e2];generalize (⟨(a++47::b).toArray⟩:ByteArray)=s at *;rw [← hz] at hs hl;generalize a.length=i at *;clear e1 e2 h hi hz;go_enter func162,ntmps162;go_wp2_with (go_at_call 179;(with_reducible refine(cI _).mono ?_);rintro e w' ⟨rfl,rfl⟩)
 go_quiet (fail)
 go_wp2_with fail;go_ret3;exact⟨_,rfl,rfl⟩
theorem qwK (l:List UInt8) (h:47∉l) (w:World):
  Calls prog 99 #[encS l,.string ⟨#[47]⟩] w fun e w'=>∃n,e=.returned (.tuple #[encS l,encS [],.bool false])∧w'=w.drewN n:=by
 have cC:=fun W=>qpl l h W
 clear h;go_enter func99,ntmps99;go_wp2_with fail;refine(cC _).mono ?_;rintro e w'⟨rfl,rfl⟩;go_wp2_with fail;go_ret3;exact⟨0,rfl,rfl⟩
theorem que (a b:List UInt8) (h:47∉a) (w:World) (hs:(a++47::b).length≤1099511627776):
  Calls prog 99 #[encS (a++47::b),.string ⟨#[47]⟩] w fun e w'=>∃n,e=.returned (.tuple #[encS a,encS b,.bool true])∧w'=w.drewN n:=by
 have cC:=fun W=>qmL a b h W hs
 clear h hs;generalize a++47::b=s at *;go_enter func99,ntmps99;go_wp2_with fail;refine(cC _).mono ?_;rintro e w'⟨n,rfl,rfl⟩;go_wp2_with fail;go_ret3;exact⟨n,rfl,rfl⟩
theorem qob (p:List UInt8) (hp:p≠[]) (hs:p.length≤1099511627776) (w:World):Calls prog 24 #[encS p] w fun e w'=>e=.returned (encS (qcE p))∧w=w':=by
 have cL:=fun W=>Tryz.strings_LastIndexByte ⟨p.toArray⟩ 47 (by rw [qbk];omega) W
 have hb:=qr3 p;have hl:1≤p.length:=List.length_pos_iff.2 hp
 have hz:=qbk p;obtain⟨m,hm⟩:=qQ (Lib.lastIndexByte ⟨p.toArray⟩ 47)
 have HM:Hid (qcE p=p.take (max 1 m).toNat):=hid (by unfold qcE qd1;rw [hm])
 unfold qd1 at hb;rw [hm] at hb cL;clear hm hp;go_enter func24,ntmps24;go_wp2_with (go_at_call 49;(with_reducible refine(cL _).mono ?_);rintro e w1 ⟨rfl,rfl⟩)
 go_ret;refine⟨?_,rfl⟩
 rw [HM.out];show Ending.returned (.string ((⟨p.toArray⟩:ByteArray).extract 0 (max 1 m).toNat))=_
 rw [quy]
def qyj (w:World) (A:Option Addr) (l:List UInt8):Prop:=∀k (h:k<l.length),∃g o,A=some ⟨g,o,none⟩∧w.cell? ⟨g,o+k,none⟩=some (u8 l[k])
theorem qyj.of_own {w:World} {N n c:Nat} {A:Option Addr} {l:List UInt8} (h:w.ownsRow N 5 1 (.slice A n c) n (l.map u8)):qyj w A l:=fun k hk=>by
 have hn:l.length=n:=by have:=h.1;simpa using this
 rcases h.2 with ⟨h0,h1⟩|⟨g,cap,cur,hv,hN,hcur,_⟩
 ·omega
 ·cases hv
  refine⟨g,0,rfl,?_⟩
  have:=h.cells (g:=g) rfl k (u8 l[k]) (by simp [hk])
  rw [qgG] at this
  simpa using this
theorem qr2 (A:Option Addr) (c:Nat) (l:List UInt8) (w:World) (hT:qyj w A l) (hl:l.length≤1099511627776):
  Calls prog 262 #[.slice A l.length c,.int .u8 47] w fun e w'=>e=.returned (.int .i64 (qd1 l))∧w=w':=by
 go_enter func262,ntmps262;go_wp2;go_loop [5] (fun i=>∃k:Nat,k≤l.length∧i=.int .i64 ((k:Int)-1)∧Hid (qd1 l=Lib.lastIdx ⟨l.toArray⟩ 47 k)) (fun i=>(intOf i+1).toNat)
 case atStart=>exact⟨l.length,Nat.le_refl _,by first|rfl|go_num,hid (by unfold qd1 Lib.lastIndexByte;rw [qbk])⟩
 case round=>
  obtain⟨k,hk,rfl,HL⟩:=hrel;by_cases hlt:0<k
  ·obtain⟨m,rfl⟩:∃m,k=m+1:=⟨k-1,by omega⟩
   have hz:(((m+1:Nat):Int)-1)=(m:Int):=by omega
   rw [hz];obtain⟨g,o,rfl,hc⟩:=hT m (by omega)
   unfold u8 at hc;have hat:=last_at l m (by omega)
   by_cases h47:l[m]=47
   ·have q1:((l[m].toNat:Int)==47)=true:=by rw [h47];rfl
    have HR:Hid (qd1 l=m):=hid (by rw [HL.out];exact Lib.lastIdx_hit _ _ _ (by rw [hat,h47];rfl))
    clear hT hat h47 HL hz;go_wp2;go_ret;exact⟨by rw [HR.out];rfl,rfl⟩
   ·have q1:((l[m].toNat:Int)==47)=false:=qf0 (n:=47) h47
    have HR:Hid (qd1 l=Lib.lastIdx ⟨l.toArray⟩ 47 m):=hid (by rw [HL.out];exact Lib.lastIdx_miss _ _ _ (by rw [hat];exact fun e=>h47 (qtD.1 e)))
    clear hT hat h47 HL hz;go_wp2;go_round
    case rel=>exact⟨m,by omega,by first|rfl|go_num,HR⟩
    case measure=>simp [intOf]
  ·obtain rfl:k=0:=by omega
   have HR:Hid (qd1 l=-1):=hid (by rw [HL.out];rfl)
   clear hT HL;go_wp2;go_ret;exact⟨by rw [HR.out];rfl,rfl⟩
theorem qjX (A:Option Addr) (c:Nat) (l:List UInt8) (w:World) (hT:qyj w A l) (hl:l.length≤1099511627776):
  Calls prog 235 #[.slice A l.length c,.int .u8 47] w fun e w'=>e=.returned (.int .i64 (qd1 l))∧w=w':=by
 have cL:=qr2 A c l w hT hl;clear hT;go_enter func235,ntmps235;go_wp2_with fail;refine cL.mono ?_;rintro e w'⟨rfl,rfl⟩;go_wp2_with fail;go_ret;exact⟨rfl,rfl⟩
theorem qoK (A:Option Addr) (c:Nat) (t:List ND) (w:World) (hT:qal w (fun _=>True) A t) (hl:t.length≤256) (hz:qbj t):
  Calls prog 21 #[.slice A t.length c] w fun e w'=>e=.returned (.int .i64 (qbM t))∧Below w.heap.size w w':=by
 go_enter func21,ntmps21;go_wp2;go_loopw [3,8] (fun s i wr=>∃(k n:Nat),k≤t.length∧i=.int .i64 k∧s=.int .i64 n∧n≤k*274877906944∧Hid (n=qbM (t.take k))∧Below w.heap.size w wr) (fun _ i _=>t.length-(intOf i).toNat)
 case atStart=>exact⟨0,0,Nat.zero_le _,rfl,rfl,by omega,hid rfl,Below.refl _ _⟩
 case round=>
  obtain⟨k,n,hk,rfl,rfl,hn,HN,hB⟩:=hrel;by_cases hlt:k<t.length
  ·obtain⟨g,o,rfl,-,c0,c1,c2⟩:=hT.below hB k hlt
   have hx:=(hz _ (List.getElem_mem hlt)).2
   have HS:=hid (qmk t k hlt)
   rw [← HN.out] at HS;have HB:=hid hB;have hs0:=hB.size;obtain⟨y,hy⟩:=qQ (t[k])
   rw [hy] at c0 c1 c2 hx HS;obtain⟨p,d,x⟩:=y;simp only at c0 c1 c2 hx
   have hsz:=qbk x;clear hT hz hB hy;go_wp2;go_roundw
   case rel=>exact⟨k+1,n+x.length,by omega,by go_num,by first|go_num|(congr 1;simp),by omega,hid HS.out.symm,HB.out.alloc hs0 _⟩
   case measure=>simp [intOf];omega
  ·obtain rfl:k=t.length:=by omega
   have HR:Hid (qbM t=n):=hid (by rw [HN.out,List.take_length])
   clear hT hz HN;go_wp2;go_ret;exact⟨by rw [HR.out];rfl,hB⟩
theorem qnJ (tb pb:Nat) (A:Option Addr) (c:Nat) (t:List ND) (p:List UInt8) (k:Nat) (hk:k<t.length) (w:World) (h1:w.cell? ⟨tb,0,none⟩=some (.slice A t.length c)) (h2:w.cell? ⟨pb,0,none⟩=some (encS p)) (hT:qal w (fun _=>True) A t):
  Calls prog 101 #[.int .i64 k,.pointer (some ⟨tb,0,none⟩),.pointer (some ⟨pb,0,none⟩)] w fun e w'=>e=.returned (.bool (!decide (t[k].p<p)))∧∃n,w'=w.drewN n:=by
 obtain⟨g,o,rfl,-,c0,-,-⟩:=hT k hk;have hb:Op.bytesLess t[k].p p=decide (t[k].p<p):=bytesLess_eq _ _
 generalize t[k].p=x at *;obtain⟨b,hd⟩:=qQ (decide (x<p))
 rw [hd] at hb ⊢;clear hT hd;cases b
 all_goals
  go_enter func101,ntmps101;go_wp2;go_quiet (fail)
  go_wp2;go_ret;exact⟨rfl,_,rfl⟩
def qo5 (w:World) (n:Nat) (f:Nat→Bool) (e:Ending) (w':World):Prop:=∃r:Nat,e=.returned (.int .i64 r)∧r≤n∧(∀k,k<r→f k=false)∧(r<n→f r=true)∧∃m,w'=w.drewN m
theorem qqr (g:Nat) (lb:Array Value) (eg:∀args w,(callFunc g args).run prog w=.ok (.enter g args) w) (n:Nat) (f:Nat→Bool) (w:World) (hn:n≤1099511627776)
  (hf:∀i j,i≤j→j<n→f i=true→f j=true)
  (hp:∀k m,k<n→Calls prog g (#[.int .i64 k]++lb) (w.drewN m) fun e w'=>e=.returned (.bool (f k))∧∃n',w'=w.drewN n'):
  Calls prog 100 #[.int .i64 n,.func (.func g) #[] lb] w (qo5 w n f):=by
 go_enter func100,ntmps100;go_wp2;go_loopw [5,6] (fun i j wr=>∃a b m:Nat,i=.int .i64 a∧j=.int .i64 b∧a≤b∧b≤n∧Hid (∀k,k<a→f k=false)∧Hid (∀k,b≤k→k<n→f k=true)∧wr=w.drewN m) (fun i j _=>(intOf j-intOf i).toNat)
 case atStart=>exact⟨0,n,0,rfl,rfl,Nat.zero_le _,Nat.le_refl _,hid (fun _ h=>absurd h (Nat.not_lt_zero _)),hid (fun k h1 h2=>by omega),rfl⟩
 case round=>
  obtain⟨a,b,m,rfl,rfl,hab,hbn,HA,HB,rfl⟩:=hrel;by_cases hlt:a<b
  ·obtain⟨h,hh⟩:=qQ ((a+b)/2)
   have cP:=hp h m (by omega)
   have hc:((h:Nat):Int)=((a:Int)+b)/2:=by omega
   have hlo:a≤h:=by omega
   have hhi:h<b:=by omega
   rw [hc] at cP;have HC:=hid hc;obtain⟨v,hv⟩:=qQ (f h)
   have HV:=hid hv;rw [hv] at cP;have HM:=hid (show ∀i j,i≤j→j<n→f i=true→f j=true from hf)
   clear hp hh hc hv hf;go_wp2_with fail;refine cP.mono ?_;rintro e w'⟨rfl,m',rfl⟩;clear cP;cases v
   ·go_wp2
    go_roundw
    case rel=>exact⟨h+1,b,m',by rw [Int.natCast_add,HC.out];rfl,rfl,by omega,hbn,hid (fun k hk=>Bool.eq_false_iff.2 fun ht=>by
     have:=HM.out k h (by omega) (by omega) ht
     rw [HV.out] at this;cases this),HB,rfl⟩
    case measure=>simp [intOf];omega
   ·go_wp2
    go_roundw
    case rel=>exact⟨a,h,m',rfl,by rw [HC.out],by omega,by omega,HA,hid (fun k h1 h2=>HM.out h k h1 h2 HV.out),rfl⟩
    case measure=>simp [intOf];omega
  ·obtain rfl:a=b:=by omega
   clear hp hf;go_wp2;go_ret;exact⟨a,rfl,hbn,HA.out,fun h=>HB.out a (Nat.le_refl _) h,m,rfl⟩
theorem qmr (A:Option Addr) (c:Nat) (t:List ND) (p:List UInt8) (w:World) (hT:qal w (fun _=>True) A t) (hl:t.length≤1099511627776) (ha:Asc t):
  Calls prog 48 #[.slice A t.length c,encS p] w fun e w'=>e=.returned (.int .i64 (qag t p))∧Below w.heap.size w w':=by
 have cS:∀W:World,Below w.heap.size w W→W.cell? ⟨w.heap.size,0,none⟩=some (.slice A t.length c)→W.cell? ⟨w.heap.size+1,0,none⟩=some (encS p)→
   Calls prog 100 #[.int .i64 t.length,.func (.func 101) #[] #[.pointer (some ⟨w.heap.size,0,none⟩),.pointer (some ⟨w.heap.size+1,0,none⟩)]] W fun e w'=>e=.returned (.int .i64 (qag t p))∧∃m,w'=W.drewN m:=fun W hb h1 h2=>by
  refine(qqr 101 _ (enters_of func101 (by kernel_rfl) rfl) t.length (fun k=>if h:k<t.length then !decide (t[k].p<p) else true) W hl (fun i j hij hj hi=>?_) (fun k m hk=>?_)).mono ?_
  ·simp only [hj,show i<t.length by omega,dif_pos] at hi ⊢
   have hi:¬t[i].p<p:=by simpa using hi
   have:¬t[j].p<p:=fun hlt=>by
    by_cases e:i=j
    ·subst e;exact hi hlt
    ·exact hi (List.lt_trans (qqX ha (by omega) hj (by omega)) hlt)
   simpa using this
  ·refine(qnJ w.heap.size (w.heap.size+1) A c t p k hk (W.drewN m) h1 h2 (fun j hj=>(hT.below hb) j hj)).mono ?_
   rintro e w'⟨rfl,n',rfl⟩;rw [dif_pos hk];exact⟨rfl,m+n',by rw [World.drewN_drewN]⟩
  ·rintro e w' ⟨r,rfl,hr,hlo,hhi,m,rfl⟩
   have e:=qoZ t p r hr (fun k hk hkr=>by
    have:=hlo k hkr
    simp only [dif_pos hk] at this
    simpa using this) (fun hlt=>by
    have:=hhi hlt
    simp only [dif_pos hlt] at this
    simpa using this)
   rw [e];exact⟨rfl,m,rfl⟩
 have hb2:∀o o',Below w.heap.size w ((w.alloc o).alloc o'):=fun o o'=>((Below.refl _ _).alloc (Nat.le_refl _) _).alloc (by simp) _
 clear hT;go_enter func48,ntmps48;go_wp2_with fail;refine(cS _ (hb2 _ _) (by simp) (by simp)).mono ?_
 rintro e w'⟨rfl,m,rfl⟩;go_wp2_with fail;go_ret;exact⟨rfl,below_drewN (hb2 _ _) _⟩
theorem qgk (A:Option Addr) (c:Nat) (t:List ND) (p:List UInt8) (w:World) (hT:qal w (fun _=>True) A t) (hl:t.length≤1099511627776) (ha:Asc t):
  Calls prog 23 #[.slice A t.length c,encS p] w fun e w'=>e=.returned (.int .i64 (qak t p))∧Below w.heap.size w w':=by
 have cW:=qmr A c t p w hT hl ha;have hwl:=qf4 t p;by_cases hp:p=[47]
 ·have HK:Hid (qak t p=2):=hid (by unfold qak;rw [if_pos hp])
  have q0:(p==[47])=true:=by simpa using hp
  clear hp hT;go_enter func23,ntmps23;go_wp2_with fail;refine cW.mono ?_;rintro e w1⟨rfl,hb⟩;have HB:=hid hb;clear hb cW;go_wp2_with fail;go_ret;exact⟨by rw [HK.out];rfl,HB.out⟩
 have q0:(p==[47])=false:=by simpa using hp
 rcases qgC ha p with ⟨h,h1,h2⟩|⟨h1,h2⟩
 ·have HK:Hid (qak t p=if t[qag t p].d then 2 else 1):=hid (by unfold qak;rw [if_neg hp,h2])
  obtain⟨g,o,rfl,-,c0,c1,-⟩:=hT (qag t p) h
  have q1:(t[qag t p].p==p)=true:=by simpa using h1
  have q2:((qag t p:Int)==(t.length:Int))=false:=by simp;omega
  generalize t[qag t p]=x at *;generalize qag t p=k at *;obtain⟨xp,d,xx⟩:=x;simp only at c0 c1 q1 HK
  clear hp hT h1 h2;cases d
  all_goals
   go_enter func23,ntmps23;go_wp2_with fail;refine cW.mono ?_;rintro e w1⟨rfl,hb⟩;have a0:=cell_below hb c0;have a1:=cell_below hb c1
   have HB:=hid hb;clear hb cW c0 c1;go_wp2_with fail;go_ret;exact⟨by rw [HK.out];rfl,HB.out⟩
 ·have HK:Hid (qak t p=0):=hid (by unfold qak;rw [if_neg hp,h2])
  by_cases h:qag t p<t.length
  ·have h1:=h1 h
   obtain⟨g,o,rfl,-,c0,-,-⟩:=hT (qag t p) h
   have q1:(t[qag t p].p==p)=false:=by simpa using h1
   have q2:((qag t p:Int)==(t.length:Int))=false:=by simp;omega
   generalize t[qag t p]=x at *;generalize qag t p=k at *;obtain⟨xp,d,xx⟩:=x;simp only at c0 q1
   clear hp hT h1 h2;go_enter func23,ntmps23;go_wp2_with fail;refine cW.mono ?_;rintro e w1⟨rfl,hb⟩;have a0:=cell_below hb c0;have HB:=hid hb;clear hb cW c0;go_wp2_with fail;go_ret;exact⟨by rw [HK.out];rfl,HB.out⟩
  ·have q2:((qag t p:Int)==(t.length:Int))=true:=by simp;omega
   generalize qag t p=k at *;clear hp hT h1 h2;go_enter func23,ntmps23;go_wp2_with fail;refine cW.mono ?_;rintro e w1⟨rfl,hb⟩;have HB:=hid hb;clear hb cW;go_wp2_with fail;go_ret;exact⟨by rw [HK.out];rfl,HB.out⟩
attribute [local go_sem] Oper.semAt_some
theorem qlU (s:List UInt8) (w:World):
  Calls prog 47 #[encS s] w fun e w'=>e=.returned (.func (.func 98) #[] #[.pointer (some ⟨w.heap.size,0,none⟩)])∧w'=w.alloc (.cells #[encS s] 9):=by
 go_enter func47,ntmps47;go_wp2;go_ret;exact⟨rfl,rfl⟩
def KpS (Bs:Nat) (A B:World):Prop:=A.heap.size≤B.heap.size∧B.heap[Bs]?=A.heap[Bs]?
def qnS (Bs:Nat) (w:World):Nat:=match w.cell? ⟨Bs,0,none⟩ with|some (.string s)=>s.size+1|_=>0
theorem qlV (Bs:Nat) (s:List UInt8) (w:World) (hBs:w.heap[Bs]?=some (.cells #[encS s] 9 (0,0))) (hs:s.length≤1099511627776):
  qzv Fence.wide 8 prog 98 #[.pointer (some ⟨Bs,0,none⟩)] encS (KpS Bs) (qbX [] s) (·=Bs) w:=fun lp J Jx W hW hJ hJx hY h0=>by
 have hBl:Bs<w.heap.size:=lt_of_block hBs
 have hbk:W.heap[Bs]?=some (.cells #[encS s] 9 (0,0)):=(hW.block Bs hBl).trans hBs
 have hdr:∀done X n,J done X→J done (X.drewN n):=fun done X n h=>hJ done X _ none h (qeX (below_drewN (Below.refl _ _) n) none) (fun r e=>by cases e)
 obtain⟨L,hL⟩:=qQ (qbX [] s)
 rw [hL] at hY ⊢;have HL:=hid hL;clear hL hBs hW;refine callsIn_of_wp func98 rfl trivial ?_ rfl
 simp only [ntmps98,List.size_toArray,List.length_cons,List.length_nil,Nat.reduceAdd,Nat.reduceSub,Array.replicate_succ,Array.replicate_zero,List.push_toArray,List.append_toArray,List.nil_append,List.cons_append]
 gi_wp2
 gi_loopw [] (fun wr=>∃(done:List (List UInt8)) (r:List UInt8),Hid (L=done++qbX [] r)∧r.length≤1099511627776∧J done wr∧wr.heap[Bs]?=some (.cells #[encS r] 9 (0,0))) (fun wr=>qnS Bs wr)
 case atStart=>exact⟨[],s,hid HL.out.symm,hs,h0,hbk⟩
 case round=>
  obtain⟨done,r,HD,hr,hJd,hb⟩:=hrel;have c0:=cell_of_one hb;have f0:=free_of_one hb;rcases qdG r with ⟨-,hno⟩|⟨a,b,-,rfl,ha⟩
  ·rw [qrf hno] at HD
   have cC:=qwK r hno wr;clear hno
   gi_wp2
   refine⟨trivial,callsIn_wide.2 (cC.mono ?_)⟩
   rintro e w1⟨n,rfl,rfl⟩;obtain⟨fn,tmps,assign,body,hy,hR⟩:=hY done r (wr.drewN n) (hdr _ _ _ hJd) (by rw [HD.out];exact List.prefix_refl _)
   rw [← HD.out] at hR;clear hY cC
   gi_wp2
   refine hR.mono ?_;rintro e W3 (⟨rfl,hJ3,hk3⟩|⟨rfl,hJ3⟩)
   ·have HJ:=hid hJ3
    clear hJ3 hk3
    gi_wp2
    refine bodyPost_ret (results_none rfl _ _ _) rfl ?_
    exact⟨⟨_,rfl⟩,.inl HJ.out⟩
   ·have HJ:=hid hJ3
    clear hJ3
    gi_wp2
    refine bodyPost_ret (results_none rfl _ _ _) rfl ?_
    exact⟨⟨_,rfl⟩,.inr ⟨_,HJ.out⟩⟩
  ·rw [qhE ha] at HD
   have cC:=que a b ha wr hr;have hbl:b.length≤1099511627776:=by simp at hr;omega
   clear ha
   gi_wp2
   refine⟨trivial,callsIn_wide.2 (cC.mono ?_)⟩
   rintro e w1⟨n,rfl,rfl⟩;obtain⟨fn,tmps,assign,body,hy,hR⟩:=hY done a (wr.drewN n) (hdr _ _ _ hJd) (by rw [HD.out];exact⟨qbX [] b,by simp⟩)
   clear hY cC
   gi_wp2
   refine hR.mono ?_;rintro e W3 (⟨rfl,hJ3,hk3⟩|⟨rfl,hJ3⟩)
   ·have hb3:W3.heap[Bs]?=some (.cells #[encS (a++47::b)] 9 (0,0)):=hk3.2.trans hb
    have e0:=cell_of_one hb3;have e1:=free_of_one hb3;have HJ:=hid (show J (done++[a]) (W3.setCell ⟨Bs,0,none⟩ (encS b)) from hJ _ _ _ (some Bs) hJ3 (grownBy_setCell' W3 Bs (encS b)) (fun r e=>by cases e;rfl))
    have HB:=hid (one_setCell (u:=encS b) hb3)
    have HM:=hid (show qnS Bs wr=(a++47::b).length+1 by unfold qnS;rw [c0];simp [ByteArray.size])
    clear hJ3 hk3 hb3
    gi_wp2
    go_roundw
    case rel=>exact⟨done++[a],b,hid (by rw [HD.out];simp),hbl,HJ.out,HB.out⟩
    case measure=>
     have e2:=cell_of_one HB.out;rw [HM.out];unfold qnS;simp only [e2]
     simp [ByteArray.size]
     omega
   ·have HJ:=hid hJ3
    clear hJ3
    gi_wp2
    refine bodyPost_ret (results_none rfl _ _ _) rfl ?_
    exact⟨⟨_,rfl⟩,.inr ⟨_,HJ.out⟩⟩
attribute [local go_sem] Oper.semAt_some
theorem qfD (c:UInt8):∀(l:List UInt8),(Lib.indexByte l c=-1∧c∉l)∨(∃i:Nat,Lib.indexByte l c=i∧c∈l)
 |[]=>.inl ⟨rfl,by simp⟩
 |x::r=>by
  by_cases hc:x=c
  ·subst hc
   exact .inr ⟨0,by simp [Lib.indexByte],by simp⟩
  ·have hb:(x==c)=false:=by simpa using hc
   rcases qfD c r with ⟨h1,h2⟩|⟨i,h1,h2⟩
   ·exact .inl ⟨by rw [Lib.indexByte,hb,h1];rfl,by simp [Ne.symm hc,h2]⟩
   ·refine .inr ⟨i+1,?_,by simp [h2]⟩
    rw [Lib.indexByte,hb,h1];have:((i:Int)==-1)=false:=by simp
    simp [this]
def qg4 (s:List UInt8):Bool:=decide ((0∉s∧s≠[])∧qam s=s∧s≠[47])
theorem qmn {s:List UInt8} (h:qjP s):qg4 s=true:=decide_eq_true h
theorem qhk {s:List UInt8} (h:¬qjP s):qg4 s=false:=decide_eq_false h
theorem qvU {s:List UInt8} (h:qg4 s=true):qjP s:=of_decide_eq_true (p:=(0∉s∧s≠[])∧qam s=s∧s≠[47]) h
theorem qux (c:UInt8) (r:List UInt8):(⟨(c::r).toArray⟩:ByteArray).extract 1 (r.length+1)=⟨r.toArray⟩:=by
 apply ByteArray.ext
 apply Array.toList_inj.1
 rw [ByteArray.data_extract,Array.toList_extract,List.extract_eq_take_drop];simp
def qyo (w:World) (pre:List (List UInt8)) (W:World):Prop:=(∀x∈pre,qkz x=true)∧W.heap[w.heap.size]?=some (.cells #[.bool false] 4 (0,0))∧Below w.heap.size w W
def qyp (w:World) (L:List (List UInt8)) (c:Code) (_:List (List UInt8)) (W:World):Prop:=c=.ret∧(∃x∈L,qkz x=false)∧W.heap[w.heap.size]?=some (.cells #[.bool false] 4 (0,0))∧Below w.heap.size w W
theorem qnF {w:World} {N:Nat} {X Y:World} {row:Option Nat} (hN:w.heap.size+1≤N) (hg:X.grownBy Y row) (hr:∀r,row=some r→r=w.heap.size+1∨(N≤r∧∃o:Obj,X.heap[r]?=some o∧o.isCells=false)) (hB:Below w.heap.size w X):
  (∀o,X.heap[w.heap.size]?=some o→Y.heap[w.heap.size]?=some o)∧Below w.heap.size w Y:=by
 refine⟨fun o h=>(hg.block _ (lt_of_block h) (fun e=>?_)).trans h,hB.grown hg hB.size fun k e=>?_⟩
 ·rcases hr _ e.symm with h|⟨h,_⟩<;>omega
 ·rcases hr _ e with h|⟨h,_⟩<;>omega
theorem qyh {Bs:Nat} {w:World} (hB:Bs<w.heap.size) (W:World) (l:Nat) (o o':Obj) (hl:w.heap.size≤l) (_:W.heap[l]?=some o) (_:o.isCells=false) (_:o.isWalk=false):KpS Bs W (W.putObj l o'):=
 ⟨by simp [World.putObj],World.putObj_heap_other (by omega)⟩
theorem qyi {Bs:Nat} {A B C:World} (h:KpS Bs A B) (k:KpS Bs B C):KpS Bs A C:=⟨Nat.le_trans h.1 k.1,k.2.trans h.2⟩
theorem qqy (r:List UInt8) (w:World) (h0:0∉47::r) (hs:r.length≤549755813888):
  Calls prog 22 #[encS (47::r)] w fun e w'=>e=.returned (.bool (qg4 (47::r)))∧Below w.heap.size w w':=by
 have cI:=fun W=>Tryz.strings_IndexByte ⟨(47::r).toArray⟩ 0 W
 have hi:Lib.indexByte (47::r) 0=-1:=by
  rcases qfD 0 (47::r) with ⟨h,_⟩|⟨i,_,h⟩
  ·exact h
  ·exact absurd h h0
 rw [show Lib.indexByte (⟨(47::r).toArray⟩:ByteArray).data.toList (Int.toNat 0).toUInt8=-1 from hi] at cI;have hz:=qbk (47::r)
 have hg:=qib (47::r) 0 (by simp)
 simp only [List.getElem_cons_zero] at hg
 refine(callsIn_wide (n:=9)).1 ?_
 refine callsIn_of_wp_marks func22 rfl trivial ?_ rfl
 simp only [ntmps22,List.size_toArray,List.length_cons,List.length_nil,Nat.reduceAdd,Nat.reduceSub,Array.replicate_succ,Array.replicate_zero,List.push_toArray,List.append_toArray,List.nil_append,List.cons_append]
 gi_wp2
 refine⟨trivial,callsIn_wide.2 ((cI _).mono ?_)⟩
 rintro e w'⟨rfl,rfl⟩
 gi_wp2
 have hx:=qux 47 r;obtain⟨u,hu⟩:=qQ ((⟨(47::r).toArray⟩:ByteArray).extract 1 (r.length+1))
 rw [hu] at hx ⊢;subst hx;clear hu cI hg hi;refine⟨trivial,callsIn_wide.2 ((qlU r _).mono ?_)⟩
 rintro e w1⟨rfl,rfl⟩
 gi_wp2
 have hk0:((w.alloc (.cells #[.bool false] 4)).alloc (.cells #[encS r] 9)).heap[w.heap.size]?=some (.cells #[.bool false] 4 (0,0)):=(Below.heap_alloc _ _ _ (by simp)).trans (heap_alloc_new w _)
 have hk1:((w.alloc (.cells #[.bool false] 4)).alloc (.cells #[encS r] 9)).heap[w.heap.size+1]?=some (.cells #[encS r] 9 (0,0)):=by
  have:=heap_alloc_new (w.alloc (.cells #[.bool false] 4)) (.cells #[encS r] 9)
  rwa [World.size_alloc] at this
 have hk2:((w.alloc (.cells #[.bool false] 4)).alloc (.cells #[encS r] 9)).heap.size=w.heap.size+2:=by simp
 have hk3:Below w.heap.size w ((w.alloc (.cells #[.bool false] 4)).alloc (.cells #[encS r] 9)):=((Below.refl _ _).alloc (Nat.le_refl _) _).alloc (by simp) _
 generalize ((w.alloc (.cells #[.bool false] 4)).alloc (.cells #[encS r] 9))=W0 at *;have hseq:=qlV (w.heap.size+1) r W0 hk1 (by omega)
 refine qsP (α:=List UInt8) rfl (by omega) (gf:=98) (lb:=#[.pointer (some ⟨w.heap.size+1,0,none⟩)]) rfl trivial
  (enters_of func98 (by kernel_rfl) rfl) hseq (fun k hk=>by rw [hk2,hk];omega) (fun h k=>qyi h k) (qyh (by omega)) (Below.refl _ _) rfl
  (qyo w) (qyp w (qbX [] r)) ?hI ?hIx ⟨(fun z hz=>by cases hz),hk0,hk3⟩
  (fun _ x a' _=>a'={ tmps:=#[encS (47::r),undef,.pointer (some ⟨w.heap.size,0,none⟩),encS x,encS (47::r),.bool false,.bool false,encS (47::r),.int .u8 47,.bool false,.bool false,.bool false,encS (47::r),.int .i64 (-1),.bool false,.bool false,encS (47::r),encS r,.func (.func 98) #[] #[.pointer (some ⟨w.heap.size+1,0,none⟩)],encS x,undef,undef,undef,undef,undef,undef,undef,undef,undef,undef],defers:=[] })
  (fun _ _ _=>qqS.pure _) ?assign ?body ?done ?stop
 case hI=>
  rintro pre X Y row⟨h1,h2,h3⟩ hg hr;obtain⟨k1,k2⟩:=qnF (by omega) hg hr h3
  exact⟨h1,k1 _ h2,k2⟩
 case hIx=>
  rintro c pre X Y row⟨h0,h1,h2,h3⟩ hg hr;obtain⟨k1,k2⟩:=qnF (by omega) hg hr h3
  exact⟨h0,h1,k1 _ h2,k2⟩
 case assign=>
  rintro lp pre x W K h1 hpre hK
  gi_wp2
  exact hK _ _ (KeepsFrom.refl _ _) ⟨Nat.le_refl _,rfl⟩ h1 rfl
 case body=>
  rintro lp pre x a' W⟨h1,h2,h3⟩ rfl hpre;have hmem:x∈qbX [] r:=hpre.subset (by simp)
  have f0:=free_of_one h2;have c0:=cell_of_one h2;by_cases hx:qkz x=true
  ·have hn:=(qfY x).1 hx
   have q1:(x==[])=false:=by simpa using hn.1
   have q2:(x==[46])=false:=by simpa using hn.2.1
   have q3:(x==[46,46])=false:=by simpa using hn.2.2
   have q4:x.isEmpty=false:=by cases x with|nil=>exact absurd rfl hn.1|cons a b=>rfl
   have HI:=hid (show qyo w (pre++[x]) W from⟨fun z hz=>by
    rcases List.mem_append.1 hz with h|h
    ·exact h1 z h
    ·obtain rfl:z=x:=by simpa using h
     exact hx,h2,h3⟩)
   clear h1 h2 h3 hx hn hmem hpre hseq
   gi_wp2
   exact⟨KeepsFrom.refl _ _,⟨Nat.le_refl _,rfl⟩,HI.out⟩
  ·have hx:qkz x=false:=by simpa using hx
   have hq:x=[]∨x=[46]∨x=[46,46]:=by
    by_cases a1:x=[]
    ·exact .inl a1
    ·by_cases a2:x=[46]
     ·exact .inr (.inl a2)
     ·by_cases a3:x=[46,46]
      ·exact .inr (.inr a3)
      ·rw [(qfY x).2 ⟨a1,a2,a3⟩] at hx;cases hx
   have HX:=hid (show KeepsFrom W0.heap.size W (W.setCell ⟨w.heap.size,0,none⟩ (.bool false))∧qyp w (qbX [] r) .ret (pre++[x]) (W.setCell ⟨w.heap.size,0,none⟩ (.bool false)) from
    ⟨(KeepsOthers.setCell _ _ _).from _,rfl,⟨x,hmem,hx⟩,one_setCell h2,h3.setCell (Nat.le_refl _) _⟩)
   clear h1 h2 h3 hx hmem hpre hseq;rcases hq with rfl|rfl|rfl
   all_goals
    gi_wp2
    exact HX.out
 case done=>
  rintro W⟨h1,h2,h3⟩ hK;have f0:=free_of_one h2;have c0:=cell_of_one h2;have HT:Hid (qg4 (47::r)=true):=hid (qmn (qvX h0 h1))
  have HB:Hid (Below w.heap.size w W):=hid h3
  have H1:=hid (one_setCell (u:=.bool true) h2)
  have HK:=hid ((Below.heap_setCell W ⟨w.heap.size,0,none⟩ (.bool true) W0.heap.size (by show W0.heap.size≠w.heap.size;omega)).trans hK)
  clear h1 h2 h3 hseq h0 hK
  gi_wp2
  have s7:((W.setCell ⟨w.heap.size,0,none⟩ (.bool true)).putObj W0.heap.size (.deferred none)).cell? ⟨w.heap.size,0,none⟩=some (.bool true):=cell_of_one ((World.putObj_heap_other (by omega)).trans H1.out)
  refine⟨by simp,.inl ⟨_,_,rfl,run_takeDeferred HK.out,?_⟩⟩
  refine⟨.bool true,by simp [results,Tryz.results22,go_sem,s7],?_,?_⟩
  ·rw [HT.out]
  ·exact(HB.out.setCell (Nat.le_refl _) _).grown (grownBy_putObj' _ _ _) (by have:=HB.out.size;simpa using this) fun k e=>by cases e;omega
 case stop=>
  rintro c pre W⟨rfl,⟨x,hx,hxb⟩,h2,h3⟩ hK;have f0:=free_of_one h2;have c0:=cell_of_one h2;have HT:Hid (qg4 (47::r)=false):=hid (qhk (qx0 hx hxb))
  clear hseq h0 hx hxb
  gi_wp2
  have s7:(W.putObj W0.heap.size (.deferred none)).cell? ⟨w.heap.size,0,none⟩=some (.bool false):=cell_of_one ((World.putObj_heap_other (by omega)).trans h2)
  refine⟨by simp,.inl ⟨_,_,rfl,run_takeDeferred hK,?_⟩⟩
  refine⟨.bool false,by simp [results,Tryz.results22,go_sem,s7],?_,?_⟩
  ·rw [HT.out]
  ·exact h3.grown (grownBy_putObj' _ _ _) h3.size fun k e=>by cases e;omega
theorem qkA (s:List UInt8) (w:World) (hs:s.length≤549755813888):
  Calls prog 22 #[encS s] w fun e w'=>e=.returned (.bool (qg4 s))∧Below w.heap.size w w':=by
 have hb:Below w.heap.size w (w.alloc (.cells #[.bool false] 4)):=(Below.refl _ _).alloc (Nat.le_refl _) _
 cases s with
 |nil=>
  have HT:Hid (qg4 []=false):=hid (qhk fun h=>h.1.2 rfl)
  go_enter func22,ntmps22;go_wp2;refine bodyPost_ret (v:=.bool false) (by simp [results,Tryz.results22,go_sem]) rfl ⟨by rw [HT.out],hb⟩
 |cons c r=>
  by_cases hc:c=47
  ·subst hc
   by_cases h0:0∈47::r
   ·have cI:=fun W=>Tryz.strings_IndexByte ⟨(47::r).toArray⟩ 0 W
    rcases qfD 0 (47::r) with ⟨_,h⟩|⟨i,h,_⟩
    ·exact absurd h0 h
    rw [show Lib.indexByte (⟨(47::r).toArray⟩:ByteArray).data.toList (Int.toNat 0).toUInt8=(i:Int) from h] at cI;have HT:Hid (qg4 (47::r)=false):=hid (qhk fun hh=>hh.1.1 h0)
    have hz:=qbk (47::r)
    have hg:=qib (47::r) 0 (by simp)
    simp only [List.getElem_cons_zero] at hg
    clear h h0;go_enter func22,ntmps22;go_wp2_with (go_at_call 46;(with_reducible refine(cI _).mono ?_);rintro e w1 ⟨rfl,rfl⟩)
    refine bodyPost_ret (v:=.bool false) (by simp [results,Tryz.results22,go_sem]) rfl ⟨by rw [HT.out],hb⟩
   ·exact qqy r w h0 (by simp at hs;omega)
  ·have HT:Hid (qg4 (c::r)=false):=hid (qhk fun hh=>by
    obtain⟨r',e⟩:=qtv hh;exact hc (List.cons.inj e).1)
   have hz:=qbk (c::r)
   have hg:((((⟨(c::r).toArray⟩:ByteArray)[0]'(by rw [qbk];simp)).toNat:Int)==47)=false:=by rw [qib (c::r) 0 (by simp)];exact qf0 (n:=47) hc
   have hg':((((⟨(c::r).toArray⟩:ByteArray)[0]'(by rw [qbk];simp)).toNat:Int) !=47)=true:=by simp at hg ⊢;omega
   clear hc;go_enter func22,ntmps22;go_wp2;refine bodyPost_ret (v:=.bool false) (by simp [results,Tryz.results22,go_sem]) rfl ⟨by rw [HT.out],hb⟩
end Go.Proofs.YtpodopnmkjinhaaGreatDoor
namespace Go.Proofs.YtpodopnmkjinhaaGreatDoor
open Go.RowKit
structure Turn (N B:Nat) (W W':World):Prop where
 bel:Below B W W'
 low:∀k:Nat,k<N→k≠B→W'.heap[k]?=W.heap[k]?
 oth:∀(k:Nat) (o:Obj),W.heap[k]?=some o→o.isCells=false→W'.heap[k]?=some o
theorem Turn.refl (N B:Nat) (W:World):Turn N B W W:=⟨Below.refl _ _,fun _ _ _=>rfl,fun _ _ h _=>h⟩
theorem Turn.trans {N B:Nat} {X Y Z:World} (h:Turn N B X Y) (k:Turn N B Y Z):Turn N B X Z:=
 ⟨h.bel.trans k.bel,fun i h1 h2=>(k.low i h1 h2).trans (h.low i h1 h2),fun i o h1 h2=>k.oth i o (h.oth i o h1 h2) h2⟩
theorem Turn.below {N B:Nat} {W W':World} (hN:N≤W.heap.size) (hB:B<N) (h:Below W.heap.size W W'):Turn N B W W':=
 ⟨h.mono (by omega),fun k hk _=>h.block k (by omega),fun k o hk _=>(h.block k (lt_of_block hk)).trans hk⟩
theorem Turn.alloc {N B:Nat} {W:World} (hN:N≤W.heap.size) (hB:B<N) (o:Obj):Turn N B W (W.alloc o):=.below hN hB ((Below.refl _ _).alloc (Nat.le_refl _) _)
theorem Turn.grown {N B:Nat} {W W':World} {row:Option Nat} (hN:N≤W.heap.size) (hB:B<N) (hg:W.grownBy W' row) (hr:∀j,row=some j→N≤j∧∃cs t f,W.heap[j]?=some (.cells cs t f)):Turn N B W W':=
 ⟨(Below.refl _ _).grown hg (by omega) fun k e=>by have:=(hr k e).1;omega,fun k hk _=>hg.block k (by omega) fun e=>by have:=(hr k e.symm).1;omega,
  fun k o hk ho=>(hg.block k (lt_of_block hk) fun e=>by
   obtain⟨_,cs,t,f,hc⟩:=hr k e.symm;rw [hk] at hc;cases hc;cases ho).trans hk⟩
theorem Turn.set {N B:Nat} (W:World) (o:Nat) (v:Value):Turn N B W (W.setCell ⟨B,o,none⟩ v):=
 ⟨(Below.refl B W).setCell (p:=⟨B,o,none⟩) (Nat.le_refl B) v,fun _ _ hk=>Below.heap_setCell _ _ _ _ hk,fun k ob hk ho=>(KeepsOthers.setCell W _ _).same k ob hk ho⟩
theorem Turn.drew (N B:Nat) (W:World):Turn N B W W.drew:=⟨(Below.refl _ _).drew,fun _ _ _=>rfl,fun _ _ h _=>h⟩
theorem qaT {W:World} {N e size n:Nat} {v:Value} {xs:List Value} (h:W.ownsRow N e size v n xs):∀j,v.ownBlock=some j→N≤j∧∃cs t f,W.heap[j]?=some (.cells cs t f):=fun j hj=>by
 rcases h.2 with ⟨rfl,_⟩|⟨g,cap,cur,rfl,h1,h2,_⟩
 ·cases hj
 ·obtain rfl:g=j:=by simpa [Value.ownBlock] using hj
  exact⟨h1,_,_,_,h2⟩
theorem Turn.keeps {N B:Nat} {W W':World} (h:Turn N B W W'):KeepsFrom N W W':=⟨h.bel.size,fun k o _ hk ho=>h.oth k o hk ho⟩
theorem qdL {W W':World} {N e size n:Nat} {v:Value} {xs:List Value} (h:W.ownsRow N e size v n xs) (hb:∀j,N≤j→(∃cs t f,W.heap[j]?=some (.cells cs t f))→W'.heap[j]?=W.heap[j]?):W'.ownsRow N e size v n xs:=
 qik h fun g hg=>by
  obtain⟨h1,h2⟩:=qaT h g hg;exact hb g h1 h2
theorem qva {w:World} {N n e k c:Nat} {A:Option Addr} {xs:List Value} (h:w.ownsRow N e 1 (.slice A n c) n xs) (hk:k≤n):w.ownsRow N e 1 (.slice A k c) k (xs.take k):=by
 have hl:=h.1;refine⟨by rw [List.length_take];omega,?_⟩
 rcases h.2 with ⟨hv,h0⟩|⟨g,cap,cur,hv,h1,h2,h3,h4,h5,h6⟩
 ·obtain rfl:k=0:=by omega
  cases hv
  exact .inl ⟨rfl,rfl⟩
 ·cases hv
  refine .inr ⟨g,c,cur,rfl,h1,h2,by omega,h4,h5,?_⟩
  rw [← h6,List.take_take]
  congr 1
  omega
theorem qda {F:Fence} {n:Nat} {P:Program} (w:World) {ops:Array Oper} {rest:List Oper} {o:Oper} {a:Act} {Q:Exit→Act→World→Prop} (hgd:o.guard=none) (sl x:Operand) (t u:TypeId)
  (ho:o.op=.call { callee:=.builtin .append,args:=#[sl,x],argTypes:=#[t,u] })
  (base:Nat) (e:TypeId) (i:TypeInfo) (ht:P.underlying t=some (.slice e)) (hu:P.underlying u=some .string) (hi:P.info? e=some i) (hz:i.zero=some (.int .u8 0))
  (hsize:i.size=1) (hby:i.bytes=1)
  (v:Value) (m:Nat) (xs:List Value) (hs:a.eval sl=v) (hown:w.ownsRow base e 1 v m xs) (s:ByteArray) (hx:a.eval x=.string s)
  (h63:m+s.size≤maxLen) (hbytes:m+s.size≤140737488355328) (hbase:base≤w.heap.size)
  (hK:∀v' w',w'.ownsRow base e 1 v' (m+s.size) (xs++Lib.strCells s)→w.grownBy w' v.ownBlock→wpListIn F n P ops Q rest (a.put o.dst v') w'):wpListIn F n P ops Q (o::rest) a w:=by
 refine wpListIn_plain hgd fun K hK'=>?_
 obtain⟨v',w',hr,h2,h3,_⟩:=Lib.run_append_own_string (P:=P) w base t u o.type e i ht hu hi hz hsize hby v m xs hown s h63 hbytes hbase
 unfold Oper.wpIn;refine⟨?_,?_⟩
 ·simp [Oper.about,ho,resolve,Target.leads,Sem.run_pure]
 ·rw [Oper.semAt_plain F _ _ (by rw [ho];intro c hc';cases hc')]
  simp [execOp,ho,resolve,invoke,builtin,hs,hx,hr,Result.andThen]
  exact hK' _ _ (hK v' w' h2 h3)
theorem qgA {P:Program} {o:Oper} {a:Act} {next:Act→World→Prop} {Q:Exit→Act→World→Prop} (l n:Nat) {r:Result Next} (h:o.upon P a next Q r):o.uponIn (Fence.wide.inRound l) n P a next Q r:=by
 have hd:(Fence.wide.inRound l).depth.isSome=true→1≤n:=fun e=>by cases e
 cases r with
 |ok x w'=>
  cases x with
  |enter f args=>exact⟨hd,CallsIn.inRound l (callsIn_wide.2 h)⟩
  |row row args=>exact⟨hd,fun c cs _=>by
    obtain⟨v,w2,r,s⟩:=h c cs;exact⟨v,w2,r,stepsIn_wide.2 s⟩⟩
  |round l f tmps assign body=>exact h.elim
  |value v=>exact h
  |skip=>exact h
  |defer d=>exact h
  |_=>exact h.elim
 |halt x w'=>cases x<;>first|exact h|exact h.elim
theorem qcl {P:Program} {md:Region.Mode} {ops:Array Oper} {Q:Exit→Act→World→Prop} (l n:Nat) (hnd:∀o∈ops,∀c,o.op≠.defer c)
  (hQ:¬LetsOut Q):
  ∀(fuel:Nat) (listed:Array Bool) (a:Act) (w:World),wpAny P md ops Q fuel listed a w→wpAnyIn (Fence.wide.inRound l) n P md ops Q fuel listed a w
 |0,_,_,_,h=>h
 |fuel+1,listed,a,w,h=>⟨h.1,fun i hi=>by
  have h2:=h.2 i hi;have ih:=fun a w=>qcl (P:=P) (md:=md) l n hnd hQ fuel (listed.setIfInBounds i true) a w
  unfold wpOp at h2;unfold wpOpIn;cases ho:ops[i]? with
  |none=>rw [ho] at h2;exact ih _ _ h2
  |some o=>
   rw [ho] at h2;have hmem:o∈ops:=by obtain⟨hh,e⟩:=Array.getElem?_eq_some_iff.1 ho;rw [← e];exact Array.getElem_mem hh
   dsimp only at h2 ⊢
   by_cases hw:Region.wanted o (yielded ops a.tmps)=true
   ·rw [if_pos hw] at h2 ⊢
    rcases h2 with h2|⟨_,h2⟩
    ·refine⟨fun _ _=>trivial,?_⟩
     have h3:=Oper.wp_mono ih h2;rw [show(Fence.wide.inRound l).round=some l from rfl,Oper.semAt_eq (some l) _ o (hnd o hmem)];exact qgA l n h3
    ·exact absurd h2 hQ
   ·rw [if_neg hw] at h2 ⊢
    exact⟨fun _ _=>trivial,ih _ _ h2⟩⟩
theorem qcZ {P:Program} {id:Nat} {ops:Array Oper} {Q:Exit→Act→World→Prop} {a:Act} {w:World} (l n:Nat) (hm:P.follows .mixedOrders=true) (hnd:∀o∈ops,∀c,o.op≠.defer c)
  (hQ:¬LetsOut Q)
  (S:World→Prop) (h:wpAnyH P .any ops Q S ops.size (Array.replicate ops.size false) a w.drew):(Code.region id ops true).wpIn (Fence.wide.inRound l) n P Q a w:=
 wpIn_region_any hm (qcl l n hnd hQ _ _ _ _ (wpAny_of_held _ _ _ _ h))
end Go.Proofs.YtpodopnmkjinhaaGreatDoor
