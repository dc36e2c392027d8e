/- What the statement of May12Said leans on, part 6. Conditions: each theorem's own. -/
import Derived.Test.YtpodopnmkjinhaaGreatDoorKME
set_option linter.unusedSimpArgs false
set_option maxRecDepth 100000
set_option maxHeartbeats 8000000
open Go.Proofs.Tryz
open List renaming setIfInBounds_toArray → sIA, set_cons_zero → sC0, set_cons_succ → sCS
namespace Go.Proofs.YtpodopnmkjinhaaGreatDoor
open Go.Lib (hid)
open Go.RowKit Go.Sort
theorem qmf (r b:Bool) (R g cap:Nat) (xs:List (List UInt8)) (w:World) (hT:qbD b g xs w) (hg:g<w.heap.size) (hR:w.heap[R]?=some (.cells #[.bool r] 4 (0,0))) (hne:R≠g) (hn:xs.length≤1099511627776):
  Calls prog 122 #[.slice (some ⟨g,0,none⟩) xs.length cap,.func (.func 123) #[] #[.pointer (some ⟨R,0,none⟩)]] w fun e w'=>e=.returned (.tuple #[])∧qbD b g (qeR r b xs) w'∧w.grownBy w' (some g):=by
 have hs:xs.toArray.size=xs.length:=by simp
 have hcmp:CmpLays prog 123 #[.pointer (some ⟨R,0,none⟩)] (encR b) 3 (qqO r b) g 0 xs.toArray.size w:=fun m os dk _ x y=>by
  have hgr:=qjh (w:=w) b g m dk os
  have hRl:=lt_of_block hR;have hR2:(sortWorldK (encR b) 3 w g 0 m dk os).heap[R]?=some (.cells #[.bool r] 4 (0,0)):=(hgr.block R hRl (fun e=>hne (Option.some.inj e))).trans hR
  exact qyx r b R x y _ (cell_of_one hR2) (lt_of_block hR2)
 have h:=AnyQ.slices_SortFunc_total Tryz.sortRow 3 Tryz.isAgg143 Tryz.sizeOf143 (encR b) (quq b) (qur b) (qqO r b) (qxU r b) 123 #[.pointer (some ⟨R,0,none⟩)] g 0 cap xs.toArray w (enters_of func123 (by kernel_rfl) rfl) hcmp hT hg (by rw [hs];omega) (qs2 r b)
 rw [hs] at h;refine Calls.mono h ?_
 rintro e w'⟨rfl,n,os,rfl⟩;rw [qsd];refine⟨rfl,?_,qjh _ _ _ _ _⟩
 exact holdsK_sortWorldK_c (encR b) 3 w g 0 xs.toArray (qeR r b xs).toArray n os hT hg (by simp [qir])
theorem qmc (A:Option Addr) (cap:Nat) (fv:Value) (w:World):
  Calls prog 122 #[.slice A 0 cap,fv] w fun e w'=>e=.returned (.tuple #[])∧w'=w:=AnyF.slices_SortFunc_none Tryz.sortRow A cap fv w
end Go.Proofs.YtpodopnmkjinhaaGreatDoor
namespace Go.Proofs.YtpodopnmkjinhaaGreatDoor
open Go.Lib (hid)
open Go.RowKit
theorem qmB (S:ByteArray) (k:Nat) (h:k<S.size) (h':k<S.data.toList.length):S[k]'h=S.data.toList[k]'h':=by simp [ByteArray.getElem_eq_getElem_data]
theorem qnX (S:ByteArray) (k:Nat):(S.extract k S.size).data.toList=S.data.toList.drop k:=by
 rw [ByteArray.data_extract,Array.toList_extract,List.extract_eq_take_drop,List.take_of_length_le (by rw [List.length_drop,qas];omega)]
def qzF:Value→Nat|.string s=>s.size|_=>0
theorem qvI (a:UInt8):qis a a=[a]:=by simp [qis]
theorem qsl (S:ByteArray) (h:S.data.toList=[]):S=⟨#[]⟩:=by
 apply ByteArray.ext
 apply Array.toList_inj.1
 rw [h]
theorem qnr (s:List UInt8) (w:World) (hs:s.length≤68719476736):
  Calls prog 143 #[encS s] w fun e w'=>e=.returned (.tuple #[encS (qgS s).1,.bool (qgS s).2])∧Below w.heap.size w w':=by
 obtain⟨j0,hj,hy0,hy1,hy2⟩:=info_parts qkf;have cE:=qjb s w (by omega)
 have hel:=qj9 _ s (Nat.le_refl _)
 have HT:=hid (qvD s)
 generalize qgS s=q at *;obtain⟨e,he⟩:=qQ (qdk s)
 rw [he] at cE hel HT;obtain⟨S0,hS⟩:∃S:ByteArray,(⟨e.toArray⟩:ByteArray)=S:=⟨_,rfl⟩
 have hl0:S0.data.toList=e:=by rw [← hS]
 have hsz0:S0.size=e.length:=by rw [← hS];simp [ByteArray.size]
 change Calls _ _ _ w fun e' w'=>e'=.returned (.string ⟨e.toArray⟩)∧Below w.heap.size w w' at cE
 rw [hS] at cE;obtain⟨M,hM⟩:=qQ (S0.size)
 have hMb:M≤68719476736:=by omega
 have HT0:Hid (q=qjB [] S0.data.toList):=hid (by rw [HT.out,hl0])
 have HM:=hid hM;clear hS he hel hl0 hsz0 HT hM;go_enter func143,ntmps143;go_wp2_with fail;refine cE.mono ?_;rintro e' w1⟨rfl,hb1⟩;have HB1:=hid hb1;clear cE hb1;go_wp2_with fail;go_loopw [4,5] (fun vb vs wr=>∃(S:ByteArray) (ys:List UInt8) (C:Option Addr) (cc:Nat),vb=.slice C ys.length cc∧vs=.string S∧ys.length+256*S.size≤256*M∧Hid (q=qjB ys S.data.toList)∧Hid (wr.ownsRow w.heap.size 5 1 (.slice C ys.length cc) ys.length (ys.map Go.Proofs.YtpodopnmkjinhaaGreatDoor.u8))∧Hid (Below w.heap.size w wr)) (fun _ vs _=>qzF vs)
 case atStart=>exact⟨S0,[],none,0,rfl,rfl,by have:=HM.out;simp only [List.length_nil];omega,HT0,hid (World.ownsRow_nil _ _ _ _),HB1⟩
 case round=>
  obtain⟨S,ys,C,cc,rfl,rfl,hsz,HY,HO,HB⟩:=hrel;clear HT0 HB1 HM;by_cases h0:S.data.toList=[]
  ·have HY2:Hid (q=(ys,true)):=hid (by rw [HY.out,h0,qvC])
   obtain rfl:=qsl S h0
   have hcv:=qj1 HO.out;clear HY HO h0;go_wp2_with fail;go_ret2;exact⟨by rw [HY2.out];rfl,HB.out⟩
  ·have hpos:0<S.size:=by rw [← qas];exact List.length_pos_iff.2 h0
   have g1:¬S.toList=[]:=by rw [toList_data];exact h0
   have g2:S.toList.isEmpty=false:=by rw [toList_data];simpa using h0
   obtain⟨a,r,hl⟩:∃a r,S.data.toList=a::r:=List.exists_cons_of_ne_nil h0
   have hrl:S.size=r.length+1:=by rw [← qas,hl];rfl
   have hga:∀h,S[0]'h=a:=fun h=>by rw [qmB S 0 h (by rw [hl];simp)];simp [hl]
   -- what one round takes: lo,hi,how many octets;or a span that goes down
   have hcase:(S.size≤2∧Hid (q=qjB (ys++qis a a) (S.extract 1 S.size).data.toList))∨(2<S.size∧∃m,(∀h,S[1]'h=m)∧m≠45∧Hid (q=qjB (ys++qis a a) (S.extract 1 S.size).data.toList))
     ∨(2<S.size∧∃c,(∀h,S[1]'h=45)∧(∀h,S[2]'h=c)∧((c.toNat<a.toNat∧q=([],false))∨(a.toNat≤c.toNat∧Hid (q=qjB (ys++qis a c) (S.extract 3 S.size).data.toList)))):=by
    rw [qnX,qnX,hl,qvI];rw [hl] at HY;by_cases h2:2<S.size
    ·refine .inr ?_
     obtain⟨m,c,t,rfl⟩:∃m c t,r=m::c::t:=by
      match r,hrl with
      |m::c::t,_=>exact⟨m,c,t,rfl⟩
      |[],h=>simp at h;omega
      |[_],h=>simp at h;omega
     have hgm:∀h,S[1]'h=m:=fun h=>by rw [qmB S 1 h (by rw [hl];simp)];simp [hl]
     have hgc:∀h,S[2]'h=c:=fun h=>by rw [qmB S 2 h (by rw [hl];simp)];simp [hl]
     by_cases h45:m=45
     ·subst h45
      refine .inr ⟨h2,c,hgm,hgc,?_⟩
      by_cases hac:c.toNat<a.toNat
      ·exact .inl ⟨hac,by rw [HY.out,qta _ _ _ _ hac]⟩
      ·exact .inr ⟨by omega,hid (by rw [HY.out,qxN _ _ _ _ (by omega)];rfl)⟩
     ·exact .inl ⟨h2,m,hgm,h45,hid (by rw [HY.out,qoI _ _ _ (.inr ⟨m,_,rfl,h45⟩)];rfl)⟩
    ·exact .inl ⟨by omega,hid (by rw [HY.out,qoI _ _ _ (.inl (by omega))];rfl)⟩
   have hb1:=a.toNat_lt;have hO0:=HO.out;have hB0:=HB.out;clear h0 hl HY HO HB hrl;rcases hcase with ⟨hn2,HN⟩|⟨h2,m,hgm,h45,HN⟩|⟨h2,c,hgm,hgc,⟨hac,hq⟩|⟨hac,HN⟩⟩
   ·have hN2:¬(2:Int)<(S.size:Int):=by omega
    have hac:a.toNat≤a.toNat:=Nat.le_refl _
    have gac:¬(a.toNat:Int)<(a.toNat:Int):=by omega
    have hgc':=trivial
    obtain⟨S1,hS1⟩:=qQ (S.extract 1 S.size)
    have hz1:S1.size=S.size-1:=by rw [← hS1];simp
    rw [hS1] at HN;obtain⟨d,hd⟩:∃d:Nat,a.toNat-a.toNat=d:=⟨_,rfl⟩
    have hdi:((a.toNat:Nat):Int)-(a.toNat:Int)=(d:Int):=by omega
    have hd8:IntKind.u8.wrap (d:Int)=(d:Int):=by rw [IntKind.wrap_u8];omega
    have hd6:IntKind.i64.wrap (d:Int)=(d:Int):=by rw [IntKind.wrap_i64];omega
    have hdb:d+a.toNat<256:=by omega
    have HD:=hid hd;have hsp:=hid (show qis a a=(List.range (a.toNat-a.toNat+1)).map fun k=>(a.toNat+k).toUInt8 from rfl)
    clear hd hgc';go_wp2_with fail;go_quiet (fail)
    obtain⟨wo,hwo⟩:=qQ (wr.drewN nq)
    have hO:=own_below hO0 (w':=wo) (by rw [← hwo];exact below_drewN (Below.refl _ _) nq)
    have HBo:=hid (show Below w.heap.size w wo by rw [← hwo];exact below_drewN hB0 nq)
    rw [hwo];clear hwo hO0 hB0;go_wp2_with fail;go_loopw [4,36] (fun vb vn wr=>∃(j:Nat) (zs:List UInt8) (D:Option Addr) (dd:Nat),vb=.slice D zs.length dd∧vn=.int .i64 j∧j≤d+1∧zs.length=ys.length+j∧Hid (zs=ys++(List.range j).map fun k=>(a.toNat+k).toUInt8)∧Hid (wr.ownsRow w.heap.size 5 1 (.slice D zs.length dd) zs.length (zs.map Go.Proofs.YtpodopnmkjinhaaGreatDoor.u8))∧Hid (Below w.heap.size w wr)) (fun _ vn _=>d+1-(intOf vn).toNat)
    case atStart=>exact⟨0,ys,C,cc,rfl,rfl,by omega,rfl,hid (by simp),hid hO,HBo⟩
    case round=>
     obtain⟨j,zs,D,dd,rfl,rfl,hj1,hzl,HZ,HO,HB⟩:=hrel;clear hO HBo;by_cases hjd:j<d+1
     ·obtain⟨x,hx⟩:=qQ ((a.toNat+j).toUInt8)
      have hj8:IntKind.u8.wrap (j:Int)=(j:Int):=by rw [IntKind.wrap_u8];omega
      obtain⟨pp,hpp⟩:∃pp:Nat,a.toNat+j=pp:=⟨_,rfl⟩
      have hpi:(a.toNat:Int)+(j:Int)=(pp:Int):=by omega
      have hxn:IntKind.u8.wrap (pp:Int)=(x.toNat:Int):=by rw [IntKind.wrap_u8,← hx,hpp,Nat.toUInt8_eq,UInt8.toNat_ofNat'];omega
      have HZ2:Hid (zs++[x]=ys++(List.range (j+1)).map fun k=>(a.toNat+k).toUInt8):=hid (by rw [qit,hx,HZ.out,List.append_assoc])
      have hnc2:(j:Int)<(d:Int)+1:=by omega
      have hO:=HO.out;have hs1:=HB.out.size;have hzl2:zs.length+1≤17592186045000:=by omega
      clear hx HZ HO hpp;go_wp2_with (at_builtin;refine wpList_append_own _ rfl _ _ 69 rfl w.heap.size 5 j0 _ 1 1 underlying69 hj hy0 hy1 hy2 rfl (by decide) _ _ _ rfl (World.ownsRow.alloc (w:=wr) hO _) ⟨wr.heap.size,0,none⟩ 1 1 [Go.Proofs.YtpodopnmkjinhaaGreatDoor.u8 x] rfl rfl (World.news_of_block (cs:=#[Go.Proofs.YtpodopnmkjinhaaGreatDoor.u8 x]) (t:=5) (fr:=(0,0)) (heap_alloc_new wr _)) (by intro u hu;simp at hu;subst hu;rfl) (by unfold maxLen;omega) (by omega) (by simp;omega) ?_;intro v8 w8 hown8 hg8 _)
      obtain⟨g8,c8,rfl⟩:=ownsRow_succ hown8;have HB8:Hid (Below w.heap.size w w8):=hid ((HB.out.alloc hs1 _).grown hg8 (by simp;omega) (fun j e=>(hO.lt j e).1))
      have HO8:=hid (show w8.ownsRow w.heap.size 5 1 (.slice (some ⟨g8,0,none⟩) (zs++[x]).length c8) (zs++[x]).length ((zs++[x]).map Go.Proofs.YtpodopnmkjinhaaGreatDoor.u8) by rw [List.length_append,List.map_append];exact hown8)
      clear hown8 hg8 hO HB;go_wp2_with fail;go_roundw
      case rel=>exact⟨j+1,zs++[x],some ⟨g8,0,none⟩,c8,by simp,by go_num,by omega,by simp;omega,HZ2,HO8,HB8⟩
      case measure=>simp [intOf];omega
     ·have HE:Hid (q=qjB zs S1.data.toList):=hid (by rw [HN.out,hsp.out,HZ.out,HD.out,show d+1=j by omega])
      have hnc2:¬(j:Int)<(d:Int)+1:=by omega
      clear HZ HN hsp HD;go_wp2_with fail;go_roundw
      case rel=>exact⟨S1,zs,D,dd,rfl,rfl,by omega,HE,HO,HB⟩
      case measure=>show S1.size<S.size;omega
   ·have h2i:(2:Int)<(S.size:Int):=by omega
    have g45:((m.toNat:Int)==45)=false:=qf0 (n:=45) h45
    have hac:a.toNat≤a.toNat:=Nat.le_refl _
    have gac:¬(a.toNat:Int)<(a.toNat:Int):=by omega
    have hgc':=trivial
    obtain⟨S1,hS1⟩:=qQ (S.extract 1 S.size)
    have hz1:S1.size=S.size-1:=by rw [← hS1];simp
    rw [hS1] at HN;obtain⟨d,hd⟩:∃d:Nat,a.toNat-a.toNat=d:=⟨_,rfl⟩
    have hdi:((a.toNat:Nat):Int)-(a.toNat:Int)=(d:Int):=by omega
    have hd8:IntKind.u8.wrap (d:Int)=(d:Int):=by rw [IntKind.wrap_u8];omega
    have hd6:IntKind.i64.wrap (d:Int)=(d:Int):=by rw [IntKind.wrap_i64];omega
    have hdb:d+a.toNat<256:=by omega
    have HD:=hid hd;have hsp:=hid (show qis a a=(List.range (a.toNat-a.toNat+1)).map fun k=>(a.toNat+k).toUInt8 from rfl)
    clear hd hgc';go_wp2_with fail;go_quiet (fail)
    obtain⟨wo,hwo⟩:=qQ (wr.drewN nq)
    have hO:=own_below hO0 (w':=wo) (by rw [← hwo];exact below_drewN (Below.refl _ _) nq)
    have HBo:=hid (show Below w.heap.size w wo by rw [← hwo];exact below_drewN hB0 nq)
    rw [hwo];clear hwo hO0 hB0;go_wp2_with fail;go_loopw [4,36] (fun vb vn wr=>∃(j:Nat) (zs:List UInt8) (D:Option Addr) (dd:Nat),vb=.slice D zs.length dd∧vn=.int .i64 j∧j≤d+1∧zs.length=ys.length+j∧Hid (zs=ys++(List.range j).map fun k=>(a.toNat+k).toUInt8)∧Hid (wr.ownsRow w.heap.size 5 1 (.slice D zs.length dd) zs.length (zs.map Go.Proofs.YtpodopnmkjinhaaGreatDoor.u8))∧Hid (Below w.heap.size w wr)) (fun _ vn _=>d+1-(intOf vn).toNat)
    case atStart=>exact⟨0,ys,C,cc,rfl,rfl,by omega,rfl,hid (by simp),hid hO,HBo⟩
    case round=>
     obtain⟨j,zs,D,dd,rfl,rfl,hj1,hzl,HZ,HO,HB⟩:=hrel;clear hO HBo;by_cases hjd:j<d+1
     ·obtain⟨x,hx⟩:=qQ ((a.toNat+j).toUInt8)
      have hj8:IntKind.u8.wrap (j:Int)=(j:Int):=by rw [IntKind.wrap_u8];omega
      obtain⟨pp,hpp⟩:∃pp:Nat,a.toNat+j=pp:=⟨_,rfl⟩
      have hpi:(a.toNat:Int)+(j:Int)=(pp:Int):=by omega
      have hxn:IntKind.u8.wrap (pp:Int)=(x.toNat:Int):=by rw [IntKind.wrap_u8,← hx,hpp,Nat.toUInt8_eq,UInt8.toNat_ofNat'];omega
      have HZ2:Hid (zs++[x]=ys++(List.range (j+1)).map fun k=>(a.toNat+k).toUInt8):=hid (by rw [qit,hx,HZ.out,List.append_assoc])
      have hnc2:(j:Int)<(d:Int)+1:=by omega
      have hO:=HO.out;have hs1:=HB.out.size;have hzl2:zs.length+1≤17592186045000:=by omega
      clear hx HZ HO hpp;go_wp2_with (at_builtin;refine wpList_append_own _ rfl _ _ 69 rfl w.heap.size 5 j0 _ 1 1 underlying69 hj hy0 hy1 hy2 rfl (by decide) _ _ _ rfl (World.ownsRow.alloc (w:=wr) hO _) ⟨wr.heap.size,0,none⟩ 1 1 [Go.Proofs.YtpodopnmkjinhaaGreatDoor.u8 x] rfl rfl (World.news_of_block (cs:=#[Go.Proofs.YtpodopnmkjinhaaGreatDoor.u8 x]) (t:=5) (fr:=(0,0)) (heap_alloc_new wr _)) (by intro u hu;simp at hu;subst hu;rfl) (by unfold maxLen;omega) (by omega) (by simp;omega) ?_;intro v8 w8 hown8 hg8 _)
      obtain⟨g8,c8,rfl⟩:=ownsRow_succ hown8;have HB8:Hid (Below w.heap.size w w8):=hid ((HB.out.alloc hs1 _).grown hg8 (by simp;omega) (fun j e=>(hO.lt j e).1))
      have HO8:=hid (show w8.ownsRow w.heap.size 5 1 (.slice (some ⟨g8,0,none⟩) (zs++[x]).length c8) (zs++[x]).length ((zs++[x]).map Go.Proofs.YtpodopnmkjinhaaGreatDoor.u8) by rw [List.length_append,List.map_append];exact hown8)
      clear hown8 hg8 hO HB;go_wp2_with fail;go_roundw
      case rel=>exact⟨j+1,zs++[x],some ⟨g8,0,none⟩,c8,by simp,by go_num,by omega,by simp;omega,HZ2,HO8,HB8⟩
      case measure=>simp [intOf];omega
     ·have HE:Hid (q=qjB zs S1.data.toList):=hid (by rw [HN.out,hsp.out,HZ.out,HD.out,show d+1=j by omega])
      have hnc2:¬(j:Int)<(d:Int)+1:=by omega
      clear HZ HN hsp HD;go_wp2_with fail;go_roundw
      case rel=>exact⟨S1,zs,D,dd,rfl,rfl,by omega,HE,HO,HB⟩
      case measure=>show S1.size<S.size;omega
   ·have HQ:=hid hq
    have gac:(c.toNat:Int)<(a.toNat:Int):=by omega
    have h2i:(2:Int)<(S.size:Int):=by omega
    clear hq;go_wp2_with fail;go_quiet (fail)
    obtain⟨wo,hwo⟩:=qQ (wr.drewN nq)
    have hB1:Below w.heap.size w wo:=by rw [← hwo];exact below_drewN hB0 nq
    rw [hwo];go_wp2_with fail;go_ret2;exact⟨by rw [HQ.out];rfl,hB1⟩
   ·have h2i:(2:Int)<(S.size:Int):=by omega
    have hb2:=c.toNat_lt;have gac:¬(c.toNat:Int)<(a.toNat:Int):=by omega
    have gan:¬c.toNat<a.toNat:=by omega
    have gad:decide (c.toNat<a.toNat)=false:=decide_eq_false gan
    have hgc':=trivial
    obtain⟨S1,hS1⟩:=qQ (S.extract 3 S.size)
    have hz1:S1.size=S.size-3:=by rw [← hS1];simp
    rw [hS1] at HN;obtain⟨d,hd⟩:∃d:Nat,c.toNat-a.toNat=d:=⟨_,rfl⟩
    have hdi:((c.toNat:Nat):Int)-(a.toNat:Int)=(d:Int):=by omega
    have hd8:IntKind.u8.wrap (d:Int)=(d:Int):=by rw [IntKind.wrap_u8];omega
    have hd6:IntKind.i64.wrap (d:Int)=(d:Int):=by rw [IntKind.wrap_i64];omega
    have hdb:d+a.toNat<256:=by omega
    have HD:=hid hd;have hsp:=hid (show qis a c=(List.range (c.toNat-a.toNat+1)).map fun k=>(a.toNat+k).toUInt8 from rfl)
    clear hd hgc';go_wp2_with fail;go_quiet (fail)
    obtain⟨wo,hwo⟩:=qQ (wr.drewN nq)
    have hO:=own_below hO0 (w':=wo) (by rw [← hwo];exact below_drewN (Below.refl _ _) nq)
    have HBo:=hid (show Below w.heap.size w wo by rw [← hwo];exact below_drewN hB0 nq)
    rw [hwo];clear hwo hO0 hB0;go_wp2_with fail;go_loopw [4,36] (fun vb vn wr=>∃(j:Nat) (zs:List UInt8) (D:Option Addr) (dd:Nat),vb=.slice D zs.length dd∧vn=.int .i64 j∧j≤d+1∧zs.length=ys.length+j∧Hid (zs=ys++(List.range j).map fun k=>(a.toNat+k).toUInt8)∧Hid (wr.ownsRow w.heap.size 5 1 (.slice D zs.length dd) zs.length (zs.map Go.Proofs.YtpodopnmkjinhaaGreatDoor.u8))∧Hid (Below w.heap.size w wr)) (fun _ vn _=>d+1-(intOf vn).toNat)
    case atStart=>exact⟨0,ys,C,cc,rfl,rfl,by omega,rfl,hid (by simp),hid hO,HBo⟩
    case round=>
     obtain⟨j,zs,D,dd,rfl,rfl,hj1,hzl,HZ,HO,HB⟩:=hrel;clear hO HBo;by_cases hjd:j<d+1
     ·obtain⟨x,hx⟩:=qQ ((a.toNat+j).toUInt8)
      have hj8:IntKind.u8.wrap (j:Int)=(j:Int):=by rw [IntKind.wrap_u8];omega
      obtain⟨pp,hpp⟩:∃pp:Nat,a.toNat+j=pp:=⟨_,rfl⟩
      have hpi:(a.toNat:Int)+(j:Int)=(pp:Int):=by omega
      have hxn:IntKind.u8.wrap (pp:Int)=(x.toNat:Int):=by rw [IntKind.wrap_u8,← hx,hpp,Nat.toUInt8_eq,UInt8.toNat_ofNat'];omega
      have HZ2:Hid (zs++[x]=ys++(List.range (j+1)).map fun k=>(a.toNat+k).toUInt8):=hid (by rw [qit,hx,HZ.out,List.append_assoc])
      have hnc2:(j:Int)<(d:Int)+1:=by omega
      have hO:=HO.out;have hs1:=HB.out.size;have hzl2:zs.length+1≤17592186045000:=by omega
      clear hx HZ HO hpp;go_wp2_with (at_builtin;refine wpList_append_own _ rfl _ _ 69 rfl w.heap.size 5 j0 _ 1 1 underlying69 hj hy0 hy1 hy2 rfl (by decide) _ _ _ rfl (World.ownsRow.alloc (w:=wr) hO _) ⟨wr.heap.size,0,none⟩ 1 1 [Go.Proofs.YtpodopnmkjinhaaGreatDoor.u8 x] rfl rfl (World.news_of_block (cs:=#[Go.Proofs.YtpodopnmkjinhaaGreatDoor.u8 x]) (t:=5) (fr:=(0,0)) (heap_alloc_new wr _)) (by intro u hu;simp at hu;subst hu;rfl) (by unfold maxLen;omega) (by omega) (by simp;omega) ?_;intro v8 w8 hown8 hg8 _)
      obtain⟨g8,c8,rfl⟩:=ownsRow_succ hown8;have HB8:Hid (Below w.heap.size w w8):=hid ((HB.out.alloc hs1 _).grown hg8 (by simp;omega) (fun j e=>(hO.lt j e).1))
      have HO8:=hid (show w8.ownsRow w.heap.size 5 1 (.slice (some ⟨g8,0,none⟩) (zs++[x]).length c8) (zs++[x]).length ((zs++[x]).map Go.Proofs.YtpodopnmkjinhaaGreatDoor.u8) by rw [List.length_append,List.map_append];exact hown8)
      clear hown8 hg8 hO HB;go_wp2_with fail;go_roundw
      case rel=>exact⟨j+1,zs++[x],some ⟨g8,0,none⟩,c8,by simp,by go_num,by omega,by simp;omega,HZ2,HO8,HB8⟩
      case measure=>simp [intOf];omega
     ·have HE:Hid (q=qjB zs S1.data.toList):=hid (by rw [HN.out,hsp.out,HZ.out,HD.out,show d+1=j by omega])
      have hnc2:¬(j:Int)<(d:Int)+1:=by omega
      clear HZ HN hsp HD;go_wp2_with fail;go_roundw
      case rel=>exact⟨S1,zs,D,dd,rfl,rfl,by omega,HE,HO,HB⟩
      case measure=>show S1.size<S.size;omega
def qwt:Array Value:=(List.replicate 256 (.bool false)).toArray
def qwu:Array Value:=(List.replicate 256 (.int .u8 0)).toArray
theorem qy2 (W:World):(zeroValue 154).run prog W=.ok (.agg qwt) W:=by
 have h:(prog.info? 154).map (·.zero)=some (some (.agg qwt)):=by kernel_rfl
 obtain⟨i,hi,hz⟩:=Option.map_eq_some_iff.1 h;simp [zeroValue,typeInfo,hi,hz,go_sem]
theorem qy3 (W:World):(zeroValue 108).run prog W=.ok (.agg qwu) W:=by
 have h:(prog.info? 108).map (·.zero)=some (some (.agg qwu)):=by kernel_rfl
 obtain⟨i,hi,hz⟩:=Option.map_eq_some_iff.1 h;simp [zeroValue,typeInfo,hi,hz,go_sem]
theorem qxA (o s:List UInt8):qoA (fun c=>(c,!decide (c∈o))) s=s.filter fun c=>!o.contains c:=by
 unfold qoA
 induction s with
 |nil=>rfl
 |cons c r ih=>
  rw [List.flatMap_cons,ih,List.filter_cons];by_cases h:c∈o<;>simp [h]
theorem qvn (o b s:List UInt8):qoA (fun c=>(if c∈o then b.getD (min (o.idxOf c) (b.length-1)) 0 else c,true)) s=swapT s o b:=by
 unfold qoA swapT
 induction s with
 |nil=>rfl
 |cons c r ih=>
  rw [List.flatMap_cons,ih,List.map_cons]
  rfl
theorem qpn (s x:List UInt8) (w:World) (hs:s.length≤140737488355328) (hx:x.length≤68719476736):
  Calls prog 85 #[encS s,encS x] w fun e w'=>e=.returned (.tuple #[encS (qtQ s x).1,.bool (qtQ s x).2])∧Below w.heap.size w w':=by
 have cX:=fun W=>qnr x W hx
 have hlo:=qkv x;have HT:=hid (show qtQ s x=if(qgS x).2=false then([],false) else(s.filter fun c=>!(qgS x).1.contains c,true) from rfl)
 generalize qtQ s x=q at *;generalize qgS x=qo at *;obtain⟨o,ok⟩:=qo;simp only at cX HT hlo
 have hol:o.length≤17592186044416:=by omega
 clear hlo;cases ok with
 |false=>
  have HQ:Hid (q=([],false)):=hid (by rw [HT.out];simp)
  clear HT;go_enter func85,ntmps85;go_wp2_with fail;refine(cX _).mono ?_;rintro e w1⟨rfl,hb1⟩;have HB1:=hid hb1;clear cX hb1;go_wp2_with fail;go_ret2;exact⟨by rw [HQ.out];rfl,HB1.out⟩
 |true=>
  have HQ:Hid (q=(qoA (fun c=>(c,!decide (c∈o))) s,true)):=hid (by rw [HT.out,qxA];simp)
  have hz:=qy2;have hszo:(⟨o.toArray⟩:ByteArray).size=o.length:=by simp [ByteArray.size]
  clear HT;go_enter func85,ntmps85;go_wp2_with fail;refine(cX _).mono ?_;rintro e w1⟨rfl,hb1⟩;have HB1:=hid hb1;have hs1:=hb1.size;clear cX hb1;obtain⟨N,hN⟩:=qQ (w1.heap.size)
  go_wp2_with fail;go_loopw [19] (fun vi wr=>∃k:Nat,k≤o.length∧vi=.int .i64 k∧Hid (qiR 154 N (fun c=>.bool (decide (c∈o.take k))) wr)∧Hid (Below w.heap.size w wr)∧N<wr.heap.size) (fun vi _=>o.length-(intOf vi).toNat)
  case atStart=>
   refine⟨0,Nat.zero_le _,rfl,hid ?_,hid (HB1.out.alloc hs1 _),by simp;omega⟩
   unfold qiR;rw [← hN];have e:(fun c:UInt8=>Value.bool (decide (c∈o.take 0)))=fun _=>.bool false:=by funext c;simp
   rw [e,qjH];exact heap_alloc_new w1 _
  case round=>
   obtain⟨k,hk,rfl,HA,HB,hNr⟩:=hrel;by_cases hlt:k<o.length
   ·obtain⟨z,hze⟩:=qQ (o[k])
    have hg:∀h,(⟨o.toArray⟩:ByteArray)[k]'h=z:=fun h=>by rw [← hze];simp [ByteArray.getElem_eq_getElem_data]
    have hzl:=z.toNat_lt;have y1:wr.frozen? ⟨N,z.toNat,none⟩=false:=HA.out.frozen _
    have y0:=HA.out.cell z;have HA2:Hid (qiR 154 N (fun c=>.bool (decide (c∈o.take (k+1)))) (wr.setCell ⟨N,z.toNat,none⟩ (.bool true))):=hid (by
     have h:=HA.out.set z (.bool true)
     have e:(fun c:UInt8=>Value.bool (decide (c∈o.take (k+1))))=fun x=>if x=z then .bool true else .bool (decide (x∈o.take k)):=by
      funext c
      rw [List.take_succ_eq_append_getElem hlt,hze];by_cases hc:c=z<;>simp [hc]
     rw [e];exact h)
    have HB2:=hid (HB.out.setCell (p:=⟨N,z.toNat,none⟩) (by show w.heap.size≤N;omega) (.bool true))
    clear hze HA HB;go_wp2_with fail;go_roundw
    case rel=>exact⟨k+1,by omega,by go_num,HA2,HB2,by simp;exact hNr⟩
    case measure=>simp [intOf];omega
   ·obtain rfl:k=o.length:=by omega
    have hA:=HA.out;rw [List.take_length] at hA;have cR:=qfS 146 #[.pointer (some ⟨N,0,none⟩)] (enters_of func146 (by kernel_rfl) rfl) (fun c=>(c,!decide (c∈o))) N s wr hs hNr
     (fun c W hW=>qyz N (fun c=>decide (c∈o)) c W (by unfold qiR at hA ⊢;rw [hW];exact hA))
    have hNs:=HB.out.size;clear HA hA;go_wp2_with fail;refine cR.mono ?_;rintro e w3⟨rfl,hb3⟩;have HB3:=hid (HB.out.trans (hb3.mono hNs))
    clear cR hb3;go_wp2_with fail;go_ret2;exact⟨by rw [HQ.out];rfl,HB3.out⟩
def qec (a b:List UInt8) (k:Nat) (c:UInt8):UInt8:=if c∈a.drop k then b.getD (min (k+(a.drop k).idxOf c) (b.length-1)) 0 else c
theorem qrM (a b:List UInt8) (c:UInt8):qec a b a.length c=c:=by unfold qec;rw [List.drop_length];simp
theorem qpE (a b:List UInt8) (c:UInt8):qec a b 0 c=if c∈a then b.getD (min (a.idxOf c) (b.length-1)) 0 else c:=by unfold qec;rw [List.drop_zero,Nat.zero_add]
theorem qpD (a b:List UInt8) (k:Nat) (h:k<a.length) (c:UInt8):qec a b k c=if c=a[k] then b.getD (min k (b.length-1)) 0 else qec a b (k+1) c:=by
 have hd:a.drop k=a[k]::a.drop (k+1):=List.drop_eq_getElem_cons h
 unfold qec;rw [hd];generalize a.drop (k+1)=t
 generalize a[k]=x
 by_cases hc:c=x
 ·subst hc
  rw [if_pos (List.mem_cons_self ..),if_pos rfl,List.idxOf_cons_self,Nat.add_zero]
 ·rw [if_neg hc]
  have hi:(x::t).idxOf c=t.idxOf c+1:=by
   have hb:(x==c)=false:=by simpa using fun e=>hc e.symm
   rw [List.idxOf_cons,hb];rfl
  by_cases hm:c∈t
  ·rw [if_pos (List.mem_cons_of_mem _ hm),if_pos hm,hi,show k+(t.idxOf c+1)=k+1+t.idxOf c by omega]
  ·rw [if_neg (fun e=>by rcases List.mem_cons.1 e with e|e;exact hc e;exact hm e),if_neg hm]
theorem qtp (n:Nat) (hn:n<256):(fun x:UInt8=>Value.int .u8 (((if x.toNat<n+1 then x else 0:UInt8)).toNat:Int))=fun x=>if x=n.toUInt8 then Value.int .u8 (n:Int) else Value.int .u8 ((if x.toNat<n then x else 0:UInt8).toNat:Int):=by
 funext x
 have hx:=x.toNat_lt;have hb:(n.toUInt8).toNat=n:=by simp;omega
 by_cases hc:x=n.toUInt8
 ·subst hc
  rw [if_pos rfl,if_pos (by omega),hb]
 ·rw [if_neg hc]
  have hne:x.toNat≠n:=fun e=>hc (UInt8.toNat_inj.1 (by rw [hb,e]))
  by_cases hl:x.toNat<n
  ·rw [if_pos (by omega),if_pos hl]
  ·rw [if_neg (by omega),if_neg hl]
theorem qkB (s x y:List UInt8) (w:World) (hs:s.length≤140737488355328) (hx:x.length≤68719476736) (hy:y.length≤68719476736):
  Calls prog 83 #[encS s,encS x,encS y] w fun e w'=>e=.returned (.tuple #[encS (qe5 s x y).1,.bool (qe5 s x y).2])∧Below w.heap.size w w':=by
 have cX:=fun W=>qnr x W hx
 have cY:=fun W=>qnr y W hy
 have hla:=qkv x;have hlb:=qkv y;have HT:=hid (show qe5 s x y=if(qgS x).2=false∨(qgS y).2=false∨((qgS y).1=[]∧(qgS x).1≠[]) then([],false) else(swapT s (qgS x).1 (qgS y).1,true) from rfl)
 generalize qe5 s x y=q at *;generalize qgS x=qa at *;generalize qgS y=qb at *;obtain⟨a,oa⟩:=qa;obtain⟨b,ob⟩:=qb;simp only at cX cY HT hla hlb
 have hal:a.length≤17592186044416:=by omega
 have hbl:b.length≤17592186044416:=by omega
 clear hla hlb;have hcase:(q=([],false)∧(oa=false∨(oa=true∧ob=false)∨(oa=true∧ob=true∧b=[]∧a≠[])))∨(oa=true∧ob=true∧q=(swapT s a b,true)∧(b≠[]∨(b=[]∧a=[]))):=by
  rw [HT.out];cases oa
  ·exact .inl ⟨by simp,.inl rfl⟩
  ·cases ob
   ·exact .inl ⟨by simp,.inr (.inl ⟨rfl,rfl⟩)⟩
   ·by_cases hb:b=[]
    ·by_cases ha:a=[]
     ·exact .inr ⟨rfl,rfl,by simp [ha],.inr ⟨hb,ha⟩⟩
     ·exact .inl ⟨by simp [hb,ha],.inr (.inr ⟨rfl,rfl,hb,ha⟩)⟩
    ·exact .inr ⟨rfl,rfl,by simp [hb],.inl hb⟩
 clear HT;rcases hcase with ⟨hq,hc⟩|⟨rfl,rfl,hq,hc⟩
 ·have HQ:=hid hq
  clear hq;rcases hc with rfl|⟨rfl,rfl⟩|⟨rfl,rfl,rfl,hne⟩
  ·go_enter func83,ntmps83
   go_wp2_with fail;refine(cX _).mono ?_;rintro e w1⟨rfl,hb1⟩;have HB1:=hid hb1;clear cX hb1;go_wp2_with fail;refine(cY _).mono ?_;rintro e w2⟨rfl,hb2⟩;have HB2:=qH HB1 hb2;clear cY hb2;go_wp2_with fail;go_ret2;exact⟨by rw [HQ.out];rfl,HB2.out⟩
  ·go_enter func83,ntmps83
   go_wp2_with fail;refine(cX _).mono ?_;rintro e w1⟨rfl,hb1⟩;have HB1:=hid hb1;clear cX hb1;go_wp2_with fail;refine(cY _).mono ?_;rintro e w2⟨rfl,hb2⟩;have HB2:=qH HB1 hb2;clear cY hb2;go_wp2_with fail;go_ret2;exact⟨by rw [HQ.out];rfl,HB2.out⟩
  ·obtain⟨z,z1,z2,z3⟩:∃z,a.isEmpty=z∧(a==[])=z∧(a !=[])=!z:=⟨false,by cases a with|nil=>exact absurd rfl hne|cons _ _=>rfl,by cases a with|nil=>exact absurd rfl hne|cons _ _=>rfl,by cases a with|nil=>exact absurd rfl hne|cons _ _=>rfl⟩
   obtain rfl:z=false:=by rw [← z1];cases a with|nil=>exact absurd rfl hne|cons _ _=>rfl
   clear hne;go_enter func83,ntmps83;go_wp2_with fail;refine(cX _).mono ?_;rintro e w1⟨rfl,hb1⟩;have HB1:=hid hb1;clear cX hb1;go_wp2_with fail;refine(cY _).mono ?_;rintro e w2⟨rfl,hb2⟩;have HB2:=qH HB1 hb2;clear cY hb2;go_wp2_with fail;go_ret2;exact⟨by rw [HQ.out];rfl,HB2.out⟩
 ·have HQ:Hid (q=(qoA (fun c=>(qec a b 0 c,true)) s,true)):=hid (by
   rw [hq,← qvn]
   congr 3
   funext c
   rw [qpE])
  have hz:=qy3;have hsza:(⟨a.toArray⟩:ByteArray).size=a.length:=by simp [ByteArray.size]
  have hszb:(⟨b.toArray⟩:ByteArray).size=b.length:=by simp [ByteArray.size]
  have hbe:(b≠[]∧(b==[])=false∧b.isEmpty=false)∨(b=[]∧a=[]):=by
   rcases hc with h|h
   ·exact .inl ⟨h,by cases b with|nil=>exact absurd rfl h|cons _ _=>rfl,by cases b with|nil=>exact absurd rfl h|cons _ _=>rfl⟩
   ·exact .inr h
  clear hc hq;have HBN:Hid (0<a.length→0<b.length):=hid (by
   rcases hbe with ⟨h,-,-⟩|⟨-,h⟩
   ·exact fun _=>List.length_pos_iff.2 h
   ·rw [h];simp)
  have hbf:((b==[])=false∧b.isEmpty=false∧True)∨((b==[])=true∧b.isEmpty=true∧(a==[])=true∧a.isEmpty=true∧(a !=[])=false):=by
   rcases hbe with ⟨-,h1,h2⟩|⟨h1,h2⟩
   ·exact .inl ⟨h1,h2,trivial⟩
   ·exact .inr ⟨by rw [h1];rfl,by rw [h1];rfl,by rw [h2];rfl,by rw [h2];rfl,by rw [h2];rfl⟩
  clear hbe;rcases hbf with ⟨f1,f2,-⟩|⟨f1,f2,f3,f4,f5⟩
  all_goals
   go_enter func83,ntmps83;go_wp2_with fail;refine(cX _).mono ?_;rintro e w1⟨rfl,hb1⟩;have HB1:=hid hb1;clear cX hb1;go_wp2_with fail;refine(cY _).mono ?_;rintro e w2⟨rfl,hb2⟩;have HB2:=qH HB1 hb2;have hs2:=HB2.out.size;clear cY hb2;obtain⟨N,hN⟩:=qQ (w2.heap.size)
   go_wp2_with fail;go_loopw [40] (fun vi wr=>∃k:Nat,k≤256∧vi=.int .i64 k∧Hid (qiR 108 N (fun c=>.int .u8 ((if c.toNat<k then c else 0:UInt8).toNat:Int)) wr)∧Hid (Below w.heap.size w wr)∧N<wr.heap.size) (fun vi _=>256-(intOf vi).toNat)
   case atStart=>
    refine⟨0,Nat.zero_le _,rfl,hid ?_,hid (HB2.out.alloc hs2 _),by simp;omega⟩
    unfold qiR;rw [← hN];have e:(fun c:UInt8=>Value.int .u8 ((if c.toNat<0 then c else 0:UInt8).toNat:Int))=fun _=>.int .u8 0:=by funext c;simp
    rw [e,qjH];exact heap_alloc_new w2 _
   case round=>
    obtain⟨k,hk,rfl,HA,HB,hNr⟩:=hrel;by_cases hlt:k<256
    ·have hkz:(k.toUInt8).toNat=k:=by simp;omega
     have y1:wr.frozen? ⟨N,k,none⟩=false:=HA.out.frozen _
     obtain⟨v0,y0⟩:∃v,wr.cell? ⟨N,k,none⟩=some v:=by
      have h:=HA.out.cell k.toUInt8;rw [hkz] at h;exact⟨_,h⟩
     have hk8:IntKind.u8.wrap (k:Int)=(k:Int):=by rw [IntKind.wrap_u8];omega
     have HA2:Hid (qiR 108 N (fun c=>.int .u8 ((if c.toNat<k+1 then c else 0:UInt8).toNat:Int)) (wr.setCell ⟨N,k,none⟩ (.int .u8 k))):=hid (by
      have h:=HA.out.set k.toUInt8 (.int .u8 k)
      rw [hkz] at h;rw [qtp k hlt];exact h)
     have HB2:=hid (HB.out.setCell (p:=⟨N,k,none⟩) (by show w.heap.size≤N;omega) (.int .u8 k))
     clear HA HB hkz;go_wp2_with fail;go_roundw
     case rel=>exact⟨k+1,by omega,by go_num,HA2,HB2,by simp;exact hNr⟩
     case measure=>simp [intOf];omega
    ·obtain rfl:k=256:=by omega
     have HA0:Hid (qiR 108 N (fun c=>.int .u8 ((qec a b (a.length-0) c).toNat:Int)) wr):=hid (by
      have e:(fun c:UInt8=>Value.int .u8 ((qec a b (a.length-0) c).toNat:Int))=fun c=>.int .u8 ((if c.toNat<256 then c else 0:UInt8).toNat:Int):=by
       funext c
       rw [Nat.sub_zero,qrM,if_pos c.toNat_lt]
      rw [e];exact HA.out)
     clear HA;go_wp2_with fail;go_loopw [50] (fun vi wr=>∃k:Nat,k≤a.length∧vi=.int .i64 k∧Hid (qiR 108 N (fun c=>.int .u8 ((qec a b (a.length-k) c).toNat:Int)) wr)∧Hid (Below w.heap.size w wr)∧N<wr.heap.size) (fun vi _=>a.length-(intOf vi).toNat)
     case atStart=>exact⟨0,Nat.zero_le _,rfl,HA0,HB,hNr⟩
     case round=>
      obtain⟨k,hk,rfl,HA,HB,hNr⟩:=hrel;clear HA0;by_cases hlt:k<a.length
      ·obtain⟨p,hp⟩:=qQ (a.length-1-k)
       have hpl:p<a.length:=by omega
       have hpi:(a.length:Int)-1-(k:Int)=(p:Int):=by omega
       have hb0:=HBN.out (by omega)
       obtain⟨z,hze⟩:=qQ (a[p])
       have hg:∀h,(⟨a.toArray⟩:ByteArray)[p]'h=z:=fun h=>by rw [← hze];simp [ByteArray.getElem_eq_getElem_data]
       obtain⟨m,hm⟩:=qQ (min p (b.length-1))
       have hml:m<b.length:=by omega
       have hmi:min (p:Int) ((b.length:Int)-1)=(m:Int):=by omega
       obtain⟨y,hye⟩:=qQ (b[m])
       have hg2:∀h,(⟨b.toArray⟩:ByteArray)[m]'h=y:=fun h=>by rw [← hye];simp [ByteArray.getElem_eq_getElem_data]
       have hzl:=z.toNat_lt;have y1:wr.frozen? ⟨N,z.toNat,none⟩=false:=HA.out.frozen _
       have y0:=HA.out.cell z;generalize (Value.int .u8 ((qec a b (a.length-k) z).toNat:Int))=v0 at y0
       have HA2:Hid (qiR 108 N (fun c=>.int .u8 ((qec a b (a.length-(k+1)) c).toNat:Int)) (wr.setCell ⟨N,z.toNat,none⟩ (.int .u8 y.toNat))):=hid (by
        have h:=HA.out.set z (.int .u8 y.toNat)
        have e:(fun c:UInt8=>Value.int .u8 ((qec a b (a.length-(k+1)) c).toNat:Int))=fun x=>if x=z then .int .u8 y.toNat else .int .u8 ((qec a b (a.length-k) x).toNat:Int):=by
         funext c
         rw [show a.length-(k+1)=p by omega,qpD a b p hpl,hze,show p+1=a.length-k by omega,hm,List.getD_eq_getElem?_getD,List.getElem?_eq_getElem hml,hye];by_cases hc:c=z
         ·rw [if_pos hc,if_pos hc];rfl
         ·rw [if_neg hc,if_neg hc]
        rw [e];exact h)
       have HB2:=hid (HB.out.setCell (p:=⟨N,z.toNat,none⟩) (by show w.heap.size≤N;omega) (.int .u8 y.toNat))
       clear hze hye HA HB hp hm;go_wp2_with fail;go_region
       all_goals
        go_wp2_with fail;go_roundw
        case rel=>exact⟨k+1,by omega,by go_num,HA2,hid (HB2.out.drew),by simp;exact hNr⟩
        case measure=>simp [intOf];omega
      ·obtain rfl:k=a.length:=by omega
       have hA:=HA.out;rw [Nat.sub_self] at hA;have cR:=qfS 145 #[.pointer (some ⟨N,0,none⟩)] (enters_of func145 (by kernel_rfl) rfl) (fun c=>(qec a b 0 c,true)) N s wr hs hNr
        (fun c W hW=>qxT N (qec a b 0) c W (by unfold qiR at hA ⊢;rw [hW];exact hA))
       have hNs:=HB.out.size;clear HA hA;go_wp2_with fail;refine cR.mono ?_;rintro e w3⟨rfl,hb3⟩;have HB3:=hid (HB.out.trans (hb3.mono hNs))
       clear cR hb3;go_wp2_with fail;go_ret2;exact⟨by rw [HQ.out];rfl,HB3.out⟩
end Go.Proofs.YtpodopnmkjinhaaGreatDoor
namespace Go.Proofs.YtpodopnmkjinhaaGreatDoor
open Go.Lib (hid)
open Go.RowKit Go.Sort
theorem qhy (A:Option Addr) (cap:Nat) (fv:Value) (w:World):
  Calls prog 125 #[.slice A 0 cap,fv] w fun e w'=>e=.returned (.slice A 0 cap)∧w'=w:=by
 go_enter func125,ntmps125;go_wp2_with fail;go_ret;exact⟨rfl,rfl⟩
theorem qfe {N g:Nat} {w w':World} (h:w.grownBy w' (some g)) (hg:N≤g) (hN:N≤w.heap.size):Below N w w':=
 ⟨h.os,h.tape,h.output,h.size,fun i hi=>h.block i (by omega) (fun e=>by cases e;omega)⟩
theorem qs3 (n:Bool) (B:Nat) (w:World):qbD n B [] w:=qbD.mk' fun _ hk=>absurd hk (Nat.not_lt_zero _)
theorem qof:∀(ls:List (List UInt8)) (x:List UInt8),x∈ls→x.length≤(qax ls).length
 |y::r,x,h=>by
  have e:(qax (y::r)).length=y.length+1+(qax r).length:=by simp [qax];omega
  rw [e];rcases List.mem_cons.1 h with rfl|h
  ·omega
  ·have:=qof r x h;omega
theorem qih:∀l:List (List UInt8),(qax (qaI l)).length≤(qax l).length
 |[]=>by simp [qaI]
 |[_]=>by simp [qaI]
 |x::y::r=>by
  have ih:=qih (y::r)
  have e:∀(z:List UInt8) (l:List (List UInt8)),(qax (z::l)).length=z.length+1+(qax l).length:=fun z l=>by
   simp [qax];omega
  unfold qaI;split
  ·rw [e x];omega
  ·rw [e x,e x (y::r)];omega
theorem qvH (s:List UInt8) (r u n:Bool) (w:World) (hs:s.length≤1099511627775):
  Calls prog 72 #[encS s,.bool r,.bool u,.bool n] w fun e w'=>e=.returned (encS (qnu s r u n))∧Below w.heap.size w w':=by
 obtain⟨W0,hW0⟩:∃W,(w.alloc (.cells #[.bool r] 4)).alloc (.cells #[.bool n] 4)=W:=⟨_,rfl⟩
 have r5:W0.heap[w.heap.size]?=some (.cells #[.bool r] 4 (0,0)):=by rw [← hW0];exact heap_alloc2_old _ _ _
 have r7:W0.heap[w.heap.size+1]?=some (.cells #[.bool n] 4 (0,0)):=by rw [← hW0];exact heap_alloc2_new _ _ _
 have hB0:Below w.heap.size w W0:=by rw [← hW0];exact((Below.refl _ _).alloc (Nat.le_refl _) _).alloc (by simp) _
 have hz0:W0.heap.size=w.heap.size+2:=by rw [← hW0];simp
 have cL:=qeH ⟨s.toArray⟩ W0 (by rw [qic];omega)
 rw [show(⟨s.toArray⟩:ByteArray).data.toList=s from rfl] at cL;obtain⟨hll,-⟩:=qeg _ s (Nat.le_refl _)
 have hjl:=(qfH _ s (Nat.le_refl _)).2
 rw [qth];generalize qav s=L at *;have hj1:=qqt r n L;have hj2:=qih (qeR r n L)
 have hsl:=qir r n L;have hmem:∀l∈L,l.length≤1099511627776:=fun l hl=>by have:=qof L l hl;omega
 have HZ:=hid hz0;clear hz0;by_cases h0:L=[]
 ·subst h0
  have hs0:qeR r n []=[]:=rfl
  rw [hs0];have ho:oneOf u []=[]:=by unfold oneOf;cases u<;>rfl
  rw [ho];have cT:=fun B c A W=>qeu n B c A [] W (.inl rfl) (qs3 n B W) (fun h=>absurd rfl h) (by simp) (by simp [qax])
  have HB0:=hid hB0;have hc7:=cell_of_one r7;have cR:=fun A c W h hR=>qjA n (w.heap.size+1) A c [] W h (by simp) hR (by simp)
  simp only [List.length_nil,List.flatMap_nil] at cR cT
  clear hll hjl hj1 hj2 hsl hs0 ho r5 hmem;cases u
  all_goals
   go_enter func72,ntmps72;go_wp2_with fail;refine cL.mono ?_;rintro e w1⟨A,c,rfl,hown,hb1⟩;have HB1:=qH HB0 hb1;have hT1:=(qat.of_own (ls:=[]) hown).any
   have hc1:=qdC hb1 hc7;have cR:=cR A c w1 hT1 hc1;clear hown hb1;go_wp2_with fail;refine cR.mono ?_;rintro e w2⟨B,d,rfl,hown2,hb2⟩;have HB2:=qH HB1 hb2;clear hown2 hb2;go_wp2_with fail;refine(qmc _ _ _ _).mono ?_;rintro e w3⟨rfl,rfl⟩
  ·go_wp2_with fail
   refine(cT 0 d B _).mono ?_;rintro e w4⟨rfl,hb4⟩;have HB4:=qH HB2 hb4;go_wp2_with fail;go_ret;exact⟨rfl,HB4.out⟩
  ·go_wp2_with fail
   refine(qhy _ _ _ _).mono ?_;rintro e w3⟨rfl,rfl⟩;go_wp2_with fail;refine(cT 0 d B _).mono ?_;rintro e w4⟨rfl,hb4⟩;have HB4:=qH HB2 hb4;go_wp2_with fail;go_ret;exact⟨rfl,HB4.out⟩
 ·have hlp:0<L.length:=List.length_pos_iff.2 h0
  have HB0:=hid hB0;have hc7:=cell_of_one r7;have cR:=fun A c W h hR=>qjA n (w.heap.size+1) A c L W h (by omega) hR hmem
  have hLb:L.length≤1099511627775:=by omega
  have HSL:=hid hsl;have HJ:=hid (And.intro hjl (And.intro hj1 hj2))
  clear hsl hjl hj1 hj2 hmem;obtain⟨M,hM⟩:=qQ (qeR r n L)
  have HM:=hid hM;rw [hM] at HSL HJ;rw [hM];clear hM;have hne:oneOf u M≠[]:=by
   have hMp:0<M.length:=by rw [HSL.out];exact hlp
   unfold oneOf;cases u
   ·exact List.length_pos_iff.1 hMp
   ·cases M with
    |nil=>simp at hMp
    |cons x r=>
     intro e
     have:∀(y:List UInt8) (l:List (List UInt8)),qaI (y::l)≠[]:=fun y l=>by
      induction l generalizing y with
      |nil=>simp [qaI]
      |cons z q ih=>unfold qaI;split;exact ih z;simp
     exact this x r e
  have hol:(oneOf u M).length≤L.length:=by
   rw [← HSL.out];unfold oneOf;cases u
   ·exact Nat.le_refl _
   ·exact qfO M
  have hoj:(qax (oneOf u M)).length≤140737488355328:=by
   have h1:=HJ.out.1;have h2:=HJ.out.2.1;have h3:=HJ.out.2.2;unfold oneOf;cases u
   ·show(qax M).length≤_;omega
   ·show(qax (qaI M)).length≤_;omega
  cases u
  all_goals
   go_enter func72,ntmps72;go_wp2_with fail;refine cL.mono ?_;rintro e w1⟨A,c,rfl,hown,hb1⟩;have HB1:=qH HB0 hb1;have hT1:=(qat.of_own (ls:=L) hown).any
   have hc1:=qdC hb1 hc7;have hr1:=(hb1.block w.heap.size (lt_of_block r5)).trans r5
   have cR:=cR A c w1 hT1 hc1;clear hown hb1 hT1 hc1;go_wp2_with fail;refine cR.mono ?_;rintro e w2⟨B,d,rfl,hown2,hb2⟩;have HB2:=qH HB1 hb2;have hr2:=(hb2.block w.heap.size (lt_of_block hr1)).trans hr1
   obtain⟨g,d',hv,hdl,hgN,hgl⟩:∃g c,Value.slice B L.length d=.slice (some ⟨g,0,none⟩) L.length c∧L.length≤c∧w1.heap.size≤g∧g<w2.heap.size:=by
    rcases ql5 hown2 with h|h
    ·omega
    ·exact h
   cases hv
   have hsz1:=HB1.out.size;have hlt1:=lt_of_block hr1;have cS:=qmf r n w.heap.size g d L w2 (qbD.of_own hown2) hgl hr2 (by omega) (by omega)
   rw [HM.out] at cS;clear hown2 hb2 cR;go_wp2_with fail;refine cS.mono ?_;rintro e w3⟨rfl,hR3,hG3⟩;have HB3:=hid (HB2.out.trans (qfe hG3 (by omega) HB2.out.size))
   have hgl3:=Nat.lt_of_lt_of_le hgl hG3.size;have hMl:M.length=L.length:=HSL.out
  ·have cT:=qeu n g d (some ⟨g,0,none⟩) M w3 (.inr rfl) hR3 (fun _=>hgl3) (by rw [hMl];omega) hoj
   rw [hMl] at cT;clear cS hG3 hMl;go_wp2_with fail;refine cT.mono ?_;rintro e w4⟨rfl,hb4⟩;have HB4:=qH HB3 hb4;go_wp2_with fail;go_ret;exact⟨rfl,HB4.out⟩
  ·have cC:=qhz n g d M w3 hR3 hgl3 (by rw [hMl];omega) (by rw [hMl];omega)
   rw [hMl] at cC;clear cS hG3 hMl;go_wp2_with fail;refine cC.mono ?_;rintro e w4⟨rfl,hR4,hG4⟩;have HB4:=hid (HB3.out.trans (qfe hG4 (by omega) HB3.out.size))
   have cT:=qeu n g d (some ⟨g,0,none⟩) (qaI M) w4 (.inr rfl) hR4 (fun _=>Nat.lt_of_lt_of_le hgl3 hG4.size) (by have h:(qaI M).length≤L.length:=hol;omega) hoj
   clear cC hG4;go_wp2_with fail;refine cT.mono ?_;rintro e w5⟨rfl,hb5⟩;have HB5:=qH HB4 hb5;go_wp2_with fail;go_ret;exact⟨rfl,HB5.out⟩
end Go.Proofs.YtpodopnmkjinhaaGreatDoor
namespace Go.Proofs.YtpodopnmkjinhaaGreatDoor
open Go.Lib (hid)
open Go.RowKit
theorem qgR {w:World} {b k:Nat} {v:Value} (h:w.cell? ⟨b,k,none⟩=some v):w.setCell ⟨b,k,none⟩ v=w:=by
 have hh:(w.setCell ⟨b,k,none⟩ v).heap=w.heap:=by
  unfold World.setCell
  apply Array.ext_getElem?
  intro i
  rw [Array.getElem?_modify];by_cases hi:b=i
  ·subst hi
   rw [if_pos rfl];cases hg:w.heap[b]? with
   |none=>rfl
   |some ob=>
    cases ob with
    |cells c t f=>
     have hc:c[k]?=some v:=by simpa [World.cell?,hg] using h
     have he:c.setIfInBounds k v=c:=by
      apply Array.ext_getElem?
      intro j
      rw [Array.getElem?_setIfInBounds];by_cases hj:k=j
      ·subst hj
       obtain⟨h1,-⟩:=Array.getElem?_eq_some_iff.1 hc
       rw [if_pos rfl,if_pos h1,hc]
      ·rw [if_neg hj]
     simp only [Option.map_some]
     rw [if_neg (by simp),he]
    |_=>rfl
  ·rw [if_neg hi]
 have e:w.setCell ⟨b,k,none⟩ v={ w with heap:=(w.setCell ⟨b,k,none⟩ v).heap }:=rfl
 rw [e,hh]
theorem qp9 {w:World} {g o:Nat} {t:List ND} (hT:qal w (fun _=>True) (some ⟨g,o,none⟩) t):∀j u,(t.flatMap qa7)[j]?=some u→w.cell? ((⟨g,o,none⟩:Addr).add j)=some u:=fun j u hj=>by
 have hlen:(t.flatMap qa7).length=t.length*3:=by
  clear hT hj
  induction t with
  |nil=>rfl
  |cons n r ih=>rw [List.flatMap_cons,List.length_append,ih,List.length_cons];simp [qa7];omega
 have hjl:j<t.length*3:=by rw [← hlen];exact(List.getElem?_eq_some_iff.1 hj).1
 have hk:j/3<t.length:=by omega
 rw [show j=j/3*3+j%3 by omega,qhS t (j/3) hk (j%3) (by omega)] at hj;obtain⟨g2,o2,e,-,c0,c1,c2⟩:=hT (j/3) hk
 cases e
 rw [qgG,show g=g from rfl];have hm:j%3=0∨j%3=1∨j%3=2:=by omega
 rcases hm with hm|hm|hm
 ·rw [hm] at hj
  rw [show o+j=o+j/3*3 by omega,c0];exact hj
 ·rw [hm] at hj
  rw [show o+j=o+j/3*3+1 by omega,c1];exact hj
 ·rw [hm] at hj
  rw [show o+j=o+j/3*3+2 by omega,c2];exact hj
theorem quG (t:List ND):(t.flatMap qa7).length=t.length*3:=by
 induction t with
 |nil=>rfl
 |cons n r ih=>rw [List.flatMap_cons,List.length_append,ih,List.length_cons];simp [qa7];omega
theorem qp8 (A:Option Addr) (c:Nat) (t:List ND) (w:World) (hT:qal w (fun _=>True) A t) (hl:t.length≤1099511627776):
  Calls prog 25 #[.slice A t.length c] w fun e w'=>∃C c',e=.returned (.slice C t.length c')∧qfr w' w.heap.size C c' t∧Below w.heap.size w w':=by
 have q24:∀(w:World) (a:Option Addr) (n c n' c':Nat),(binOp .eql 23 (.slice a n c) (.slice none n' c')).run prog w=.ok (.bool a.isNone) w:=fun w a n c n' c'=>Lib.run_eql_slice_nil w _ _ a n c n' c' underlying23
 cases A with
 |none=>
  have ht:t=[]:=by
   cases t with
   |nil=>rfl
   |cons n r=>obtain⟨g,o,e,-⟩:=hT 0 (by simp);cases e
  subst ht;go_enter func25,ntmps25;go_wp2_with fail;go_ret;exact⟨none,0,rfl,World.ownsRow_nil _ _ _ _,Below.refl _ _⟩
 |some ad=>
  obtain⟨i0,hi,hz0,hz1,hz2⟩:∃i0,prog.info? 48=some i0∧i0.zero=some (.agg #[.string .empty,.bool false,.string .empty])∧i0.size=3∧i0.bytes=40:=info_parts qhZ
  have hnews:∀W,Below w.heap.size w W→∀j u,(t.flatMap qa7)[j]?=some u→W.cell? (ad.add j)=some u:=fun W hb j u hj=>by
   cases t with
   |nil=>cases j<;>cases hj
   |cons n r=>
    obtain⟨g,o,e,-⟩:=hT 0 (by simp)
    cases e
    exact cell_below hb (qp9 hT j u hj)
  have h1c:∀u∈t.flatMap qa7,u.oneCell'=true:=fun u hu=>by
   obtain⟨n,-,hn⟩:=List.mem_flatMap.1 hu;simp [qa7] at hn
   rcases hn with rfl|rfl|rfl<;>rfl
  clear hT;go_enter func25,ntmps25;go_wp2_with (at_builtin;refine wpList_append_own _ rfl _ _ 23 rfl w.heap.size 48 i0 _ 3 40 underlying23 hi hz0 hz1 hz2 rfl (by decide) _ _ _ rfl (World.ownsRow_made w #[] 0 (Nat.le_refl _) (Nat.zero_le _) rfl) ad t.length c (t.flatMap qa7) rfl (quG t) (hnews _ ((Below.refl _ _).alloc (Nat.le_refl _) _)) h1c (by unfold maxLen;omega) (by omega) (by simp) ?_)
  intro v' w1 hown hg hnil
  have hb:=((Below.refl w.heap.size w).alloc (Nat.le_refl _) (.cells #[] 48)).grown hg (by simp) (by intro k hk;simp [Value.ownBlock] at hk;omega)
  obtain⟨g,cap,rfl⟩:∃g cap,v'=.slice (some ⟨g,0,none⟩) t.length cap:=by
   rcases hown.2 with ⟨e,-⟩|⟨g,cap,cur,e,-⟩
   ·exact absurd e (by simpa using hnil)
   ·exact⟨g,cap,by simpa using e⟩
  have HO:=hid (show qfr w1 w.heap.size (some ⟨g,0,none⟩) cap t by unfold qfr;simpa using hown)
  clear hown hg hnil hnews h1c;go_wp2_with fail;go_ret;exact⟨_,_,rfl,HO.out,hb⟩
theorem qfr.row {w:World} {N:Nat} {a:Option Addr} {c:Nat} {ys:List ND} (h:qfr w N a c ys) (k:Nat) (hk:k<ys.length):∃g,a=some ⟨g,0,none⟩∧N≤g∧g<w.heap.size∧(∀j,w.frozen? ⟨g,j,none⟩=false)∧w.cell? ⟨g,k*3,none⟩=some (encS ys[k].p)∧w.cell? ⟨g,k*3+1,none⟩=some (.bool ys[k].d)∧w.cell? ⟨g,k*3+2,none⟩=some (encS ys[k].x):=by
 obtain⟨g,o,e,hN,c0,c1,c2⟩:=h.nodes k hk;rcases h.2 with ⟨hv,h0⟩|⟨g2,cap,cur,hv,h1,h2,h3⟩
 ·omega
 ·cases hv
  cases e
  simp only [Nat.zero_add] at c0 c1 c2
  exact⟨g,rfl,h1,lt_of_block h2,fun j=>by simp [World.frozen?,h2],c0,c1,c2⟩
theorem qfr.cap {w:World} {N:Nat} {a:Option Addr} {c:Nat} {ys:List ND} (h:qfr w N a c ys):ys.length≤c:=by
 rcases h.2 with ⟨hv,h0⟩|⟨g2,cap,cur,hv,h1,h2,h3,-⟩
 ·omega
 ·cases hv
  exact h3
theorem qiF (A:Option Addr) (c:Nat) (t:List ND) (w:World) (hT:qal w (fun _=>True) A t) (hl:t.length≤1099511627776) (hz:∀n∈t,n.p.length≤274877906944∧n.x.length≤274877906944):
  Calls prog 13 #[.slice A t.length c] w fun e w'=>∃C c',e=.returned (.slice C t.length c')∧qfr w' w.heap.size C c' t∧Below w.heap.size w w':=by
 have cN:=qp8 A c t w hT hl;clear hT;obtain⟨N,hN⟩:=qQ (w.heap.size)
 rw [hN] at cN ⊢;go_enter func13,ntmps13;go_wp2_with fail;refine cN.mono ?_;rintro e w1⟨C,c',rfl,hO,hb⟩;have HI:=hid (And.intro hO hb)
 clear cN hO hb;go_wp2_with fail;go_loopw [10,4,5] (fun vi _ _ wr=>∃k:Nat,vi=.int .i64 k∧k≤t.length∧Hid (qfr wr N C c' t)∧Hid (Below N w1 wr)) (fun vi _ _ _=>t.length-(intOf vi).toNat)
 case atStart=>exact⟨0,rfl,Nat.zero_le _,hid HI.out.1,hid (Below.refl _ _)⟩
 case round=>
  obtain⟨k,rfl,hk,HO,HB⟩:=hrel;by_cases hlt:k<t.length
  ·obtain⟨g,rfl,hg1,hg2,hfz,c0,c1,c2⟩:=HO.out.row k hlt
   have hsz:=hz _ (List.getElem_mem hlt)
   have hkz:(k:Int)<(t.length:Int):=by omega
   obtain⟨n,hn⟩:=qQ (t[k])
   rw [hn] at hsz c0 c1 c2;obtain⟨p,dd,x⟩:=n;simp only at c0 c1 c2 hsz
   have cP:=fun W=>qaU p (by omega) W
   have cX:=fun W=>qaU x (by omega) W
   obtain⟨W0,hW0⟩:=qQ (wr.alloc (.cells #[encS p,.bool dd,encS x] 48))
   have hA:Below wr.heap.size wr W0:=by rw [← hW0];exact(Below.refl _ _).alloc (Nat.le_refl _) _
   have hbx:W0.heap[wr.heap.size]?=some (.cells #[encS p,.bool dd,encS x] 48 (0,0)):=by rw [← hW0];exact heap_alloc_new _ _
   have hS:Cells [(⟨wr.heap.size,0,none⟩,encS p),(⟨wr.heap.size,2,none⟩,encS x)] W0.drew:=fun z hz=>by
    rcases List.mem_cons.1 hz with rfl|hz
    ·exact(Lib.cell_of_heap hbx 0).trans rfl
    rcases List.mem_cons.1 hz with rfl|hz
    ·exact(Lib.cell_of_heap hbx 2).trans rfl
    ·cases hz
   have HA:=hid hA;have HN:Hid (N≤wr.heap.size):=hid (by have:=HB.out.size;have:=HI.out.2.size;omega)
   have HR:Hid (∀V,qfr V N (some ⟨g,0,none⟩) c' t→(V.cell? ⟨g,k*3,none⟩=some (encS p)∧V.setCell ⟨g,k*3,none⟩ (encS p)=V)∧(V.cell? ⟨g,k*3+2,none⟩=some (encS x)∧V.setCell ⟨g,k*3+2,none⟩ (encS x)=V)∧∀j,V.frozen? ⟨g,j,none⟩=false):=hid fun V h=>by
    obtain⟨g2,e,-,-,hf,d0,-,d2⟩:=h.row k hlt;cases e
    rw [hn] at d0 d2;exact⟨⟨d0,qgR d0⟩,⟨d2,qgR d2⟩,hf⟩
   clear hA hbx hn hz;go_wp2_with fail;refine wp_region_held_drew (S:=Cells [(⟨wr.heap.size,0,none⟩,encS p),(⟨wr.heap.size,2,none⟩,encS x)]) (by kernel_rfl) hS (fun _=>?_)
   -- REGION
   refine qaa 0 15 (.slice (some ⟨g,0,none⟩) t.length c') rfl rfl hS ?_
   refine qaa 1 16 (.int .i64 k) rfl rfl hS ?_
   refine qaa 2 17 (.slice (some ⟨g,0,none⟩) t.length c') rfl rfl hS ?_
   refine qaa 3 18 (.int .i64 k) rfl rfl hS ?_
   refine qaa 4 19 (.pointer (some ⟨wr.heap.size,0,none⟩)) rfl rfl hS ?_
   refine qai 5 20 (encS p) rfl rfl (Or.inl ⟨by rfl,fun w' hS'=>by have s0:=hS' _ (.head _);dsimp only at s0;go_simp⟩) hS ?_
   refine qaa 7 22 (.pointer (some ⟨wr.heap.size,2,none⟩)) rfl rfl hS ?_
   refine qai 8 23 (encS x) rfl rfl (Or.inl ⟨by rfl,fun w' hS'=>by have s1:=hS' _ (.tail _ (.head _));dsimp only at s1;go_simp⟩) hS ?_
   refine qae 6 rfl fun K hK=>?_
   go_simp;go_at_call 26
   refine(cP W0.drew).mono ?_;rintro e w2⟨rfl,hb1⟩;have hS1:=hS.below hb1;go_wp2_with fail;refine qaE hK hS1 ?_
   clear hK K;refine qae 9 rfl fun K hK=>?_
   go_simp;go_at_call 26
   refine(cX w2).mono ?_;rintro e w3⟨rfl,hb2⟩;have hS2:=hS1.below hb2;have hb12:=(Below.refl _ W0).drew.trans (qT hb1 hb2)
   have HO3:=hid (HO.out.kept (HA.out.trans (hb12.mono HA.out.size)))
   obtain⟨e0,e2,f3⟩:=HR.out w3 HO3.out;have HB3:=hid (HB.out.trans ((HA.out.trans (hb12.mono HA.out.size)).mono HN.out))
   clear hb1 hb2 hb12 cP cX;go_wp2_with fail;refine qaE hK hS2 ?_
   clear hK K;refine qaa 10 25 (.pointer (some ⟨g,k*3,none⟩)) rfl rfl hS2 ?_
   refine qaa 11 26 (.pointer (some ⟨g,k*3,none⟩)) rfl rfl hS2 ?_
   refine qae 12 rfl fun K hK=>?_
   have f0:=f3 (k*3)
   have d0:=e0.1;have g0:=e0.2;go_simp;refine qaE hK hS2 ?_
   clear hK K;refine qaa 13 27 (.pointer (some ⟨g,k*3,none⟩)) rfl rfl hS2 ?_
   refine qaa 14 28 (.pointer (some ⟨g,k*3+2,none⟩)) rfl rfl hS2 ?_
   refine qae 15 rfl fun K hK=>?_
   have f0:=f3 (k*3+2)
   have d0:=e2.1;have g0:=e2.2;go_simp;refine qaE hK hS2 ?_
   clear hK K;refine wpAnyH_done (by kernel_rfl) ?_ _
   clear hS hS1 hS2 HR e0 e2 f3;go_wp2_with fail;go_roundw
   case rel=>exact⟨k+1,by go_num,by omega,HO3,HB3⟩
   case measure=>simp [intOf];omega
   -- END
  ·obtain rfl:k=t.length:=by omega
   have hkz:¬(t.length:Int)<(t.length:Int):=by omega
   go_wp2_with fail;go_ret;exact⟨_,_,rfl,HO.out,HI.out.2.trans HB.out⟩
end Go.Proofs.YtpodopnmkjinhaaGreatDoor
namespace Go.Proofs.YtpodopnmkjinhaaGreatDoor
open Go.RowKit
theorem s2:(0:Int)≤2∧(2:Int)≤2:=by decide
theorem s0:(0:Int)≤0∧(0:Int)≤2:=by decide
theorem s1:(0:Int)≤1∧(1:Int)≤2:=by decide
theorem s01:(0:Int)≤0∧(0:Int)≤1:=by decide
theorem s11:(0:Int)≤1∧(1:Int)≤1:=by decide
structure FineU (t:List ND) (f:List UInt8→UQ):Prop where
 tree:∀inn,OkT (f inn).tree
 err:∀inn,(f inn).err=0∨((f inn).err=17∧(f inn).out=[])
 read:∀inn,(f inn).read=false→∀other,f other=f inn
 st:∀inn,(f inn).read=false→0≤(f inn).st∧(f inn).st≤2
theorem qeC {t:List ND} {q:UQ} (h:OkT q.tree) (he:q.err=0∨(q.err=17∧q.out=[])) (hs:0≤q.st∧q.st≤2):FineU t fun _=>q:=⟨fun _=>h,fun _=>he,fun _ _ _=>rfl,fun _ _=>hs⟩
theorem qaP {t:List ND} (h:OkT t):FineU t fun _=>qaL t:=qeC h (.inl rfl) s2
theorem qbp {t t':List ND} {out:List UInt8} {st:Int} (h:OkT t') (hs:0≤st∧st≤2):FineU t fun _=>qbJ t' out st:=qeC h (.inl rfl) hs
theorem qeq (t:List ND):∀(l:List (List UInt8)) (q:TQ) (inn:List UInt8),(l.foldl (qaj t inn) q).read=false→q.read=false∧∀other,l.foldl (qaj t other) q=l.foldl (qaj t inn) q
 |[],q,inn,h=>⟨h,fun _=>rfl⟩
 |x::l,q,inn,h=>by
  rw [List.foldl_cons] at h;obtain⟨h1,h2⟩:=qeq t l _ inn h;have hx:x≠[45]:=fun e=>by rw [show qaj t inn q x=⟨if q.read then q.out else q.out++inn,true,q.st⟩ by unfold qaj;rw [if_pos e]] at h1;cases h1
  have he:∀other,qaj t other q x=qaj t inn q x:=fun other=>by unfold qaj;rw [if_neg hx,if_neg hx]
  refine⟨?_,fun other=>?_⟩
  ·unfold qaj at h1
   rw [if_neg hx] at h1;exact h1
  ·rw [List.foldl_cons,List.foldl_cons,he other]
   exact h2 other
theorem qqx (t:List ND) (l:List (List UInt8)) (inn:List UInt8) (h:(qaY t inn l).read=false) (other:List UInt8):qaY t other l=qaY t inn l:=by
 unfold qaY at h ⊢
 by_cases hl:l=[]
 ·rw [if_pos hl] at h;cases h
 ·rw [if_neg hl] at h ⊢
  rw [if_neg hl];exact(qeq t l _ inn h).2 other
theorem qvS (t:List ND) (inn:List UInt8) (l:List (List UInt8)):0≤(qaY t inn l).st∧(qaY t inn l).st≤1:=by
 have key:∀(l:List (List UInt8)) (q:TQ),0≤q.st∧q.st≤1→0≤(l.foldl (qaj t inn) q).st∧(l.foldl (qaj t inn) q).st≤1:=fun l=>by
  induction l with
  |nil=>intro q h;exact h
  |cons x l ih=>
   intro q h
   rw [List.foldl_cons];refine ih _ ?_
   unfold qaj;split
   ·exact h
   ·simp only
    split<;>omega
 unfold qaY;split
 ·exact s01
 ·exact key l _ s01
theorem qeD {t:List ND} (h:OkT t) (l:List (List UInt8)) (f:List UInt8→List UInt8):FineU t fun inn=>ofT t (qaY t inn l) (f (qaY t inn l).out):=
 ⟨fun _=>h,fun _=>.inl rfl,fun inn hr other=>by simp only [qqx t l inn hr other],fun inn _=>by have:=qvS t inn l;simp only [ofT];omega⟩
theorem qpx {t:List ND} (h:OkT t) (name:List UInt8) (args:List (List UInt8)):FineU t fun inn=>qct name t inn args:=by
 unfold qct qes;cases hk:(qab (qbC name) [] args).ok
 ·simp only [if_pos]
  exact qeC h (.inl rfl) s2
 ·simp only [Bool.true_eq_false,if_false]
  exact qeD h _ fun s=>qwp name (qab (qbC name) [] args).out s
theorem qjd {t:List ND} (h:OkT t) (tail:Bool) (args:List (List UInt8)):FineU t fun inn=>qgO tail t inn args:=by
 unfold qgO;by_cases hc:(qaO args).1<0∨(qab [] [] (qaO args).2).ok=false
 ·simp only [if_pos hc];exact qaP h
 ·simp only [if_neg hc]
  exact qeD h _ fun s=>if tail then qeY s (qaO args).1 else qiU s (qaO args).1
theorem qpv {t:List ND} (h:OkT t) (args:List (List UInt8)):FineU t fun inn=>qhA t inn args:=by
 unfold qhA;by_cases hc:(qab [108,119,99] [] args).ok=false∨1<(qab [108,119,99] [] args).out.length
 ·simp only [if_pos hc];exact qaP h
 ·simp only [if_neg hc]
  exact qeD h _ fun s=>qi7 _ s
theorem qpw {t:List ND} (h:OkT t) (args:List (List UInt8)):FineU t fun inn=>qe3 t inn args:=by
 have hsame:∀inn other,(qcs inn args).2=false→qcs other args=qcs inn args:=fun inn other hf=>by
  unfold qcs at hf ⊢
  split at hf
  ·split at hf
   ·rename_i a b ha
    subst ha;simp only [if_true]
    unfold qtQ at hf ⊢
    split at hf
    ·rename_i hs;rw [if_pos hs,if_pos hs]
    ·cases hf
   ·rename_i a b ha
    rw [if_neg ha,if_neg ha];unfold qe5 at hf ⊢
    split at hf
    ·rename_i hs;rw [if_pos hs,if_pos hs]
    ·cases hf
  ·rfl
 refine⟨fun inn=>?_,fun inn=>?_,fun inn hr other=>?_,fun inn hr=>?_⟩
 all_goals unfold qe3 at *
 ·split<;>exact h
 ·split<;>exact .inl rfl
 ·split at hr
  ·rename_i hf
   rw [hsame inn other hf]
  ·cases hr
 ·split
  ·exact s2
  ·exact s0
theorem quD {t:List ND} (h:OkT t) (args:List (List UInt8)):FineU t fun inn=>quf t inn args:=by
 unfold quf;split
 ·rename_i a m c d r
  by_cases hc:a≠[45,100]∨c≠[45,102]∨qeh d<1∨(qab [] [] r).ok=false
  ·simp only [if_pos hc];exact qaP h
  ·simp only [if_neg hc]
   exact qeD h _ fun s=>qv9 s m (qeh d)
 ·exact qaP h
theorem qsS {t:List ND} {x:List UInt8} {r:Bool} (h:(qfm t x r).2=0) (ht:OkT t):OkT (qfm t x r).1:=by
 unfold qfm at h ⊢
 split at h
 ·rename_i h1;exact absurd h h1
 ·rename_i h1
  rw [if_neg h1];split at h
  ·cases h
  ·rename_i h2
   rw [if_neg h2];split at h
   ·cases h
   ·rename_i h3
    rw [if_neg h3];exact qxg ht (fun e=>h3 (.inl e)) (qfQ x)
theorem qsX (r f:Bool):∀(l:List (List UInt8)) (q:List ND×Int),OkT q.1→0≤q.2∧q.2≤1→OkT (l.foldl (qsT r f) q).1∧0≤(l.foldl (qsT r f) q).2∧(l.foldl (qsT r f) q).2≤1
 |[],_,h,hs=>⟨h,hs⟩
 |x::l,q,h,hs=>by
  rw [List.foldl_cons];refine qsX r f l _ ?_ ?_
  ·unfold qsT
   split
   ·rename_i h1;exact qsS h1 h
   ·split<;>exact h
  ·unfold qsT
   split
   ·exact hs
   ·split
    ·exact s11
    ·exact hs
theorem qwY {t:List ND} (h:OkT t) (args:List (List UInt8)):FineU t fun _=>rmU t args:=by
 unfold rmU;split
 ·exact qaP h
 ·obtain⟨h1,h2,h3⟩:=qsX ((qab [102,114] [] args).out.contains 114) ((qab [102,114] [] args).out.contains 102) (qab [102,114] [] args).rest (t,0) h s01
  exact qbp h1 ⟨h2,by omega⟩
theorem qom {t:List ND} {x:List UInt8} (h:(mkQ t x).2=0):OkT (mkQ t x).1:=by
 unfold mkQ at h ⊢
 split at h
 ·rename_i h1;exact absurd h h1
 ·rename_i h1
  rw [if_neg h1];split at h
  ·cases h
  ·rename_i h2
   rw [if_neg h2];split at h
   ·rename_i h3;exact absurd h h3
   ·rename_i h3
    rw [if_neg h3];obtain⟨ht,hx⟩:=qqY (Classical.not_not.1 h1)
    have h2':qak t (qam x)=0:=Classical.not_not.1 h2
    have h3':qbd t (qam x)=0:=Classical.not_not.1 h3
    rcases qdE (qbT t ⟨qam x,true,[]⟩) with ⟨⟨l1,l2⟩,e⟩|⟨-,e⟩
    ·rw [e]
     rw [qbK] at l1 l2 ⊢;exact qst (n:=⟨qam x,true,[]⟩) ht (by rw [h2'];decide) ⟨qjv hx.1,qfQ x⟩ (qfR x) (fun _=>rfl) (ql4 h3') l1 l2
    ·rw [e] at h;cases h
def OkS (q:Option (List ND×Int)):Prop:=∀t s,q=some (t,s)→OkT t∧0≤s∧s≤1
theorem qsi (p:Bool):∀(l:List (List UInt8)) (q:Option (List ND×Int)),OkS q→OkS (l.foldl (mkS p) q)
 |[],_,h=>h
 |x::l,q,h=>by
  rw [List.foldl_cons];refine qsi p l _ ?_
  intro t s e
  cases q with
  |none=>cases e
  |some q=>
   obtain⟨t0,s0'⟩:=q;obtain⟨h1,h2,h3⟩:=h t0 s0' rfl;simp only [mkS] at e
   split at e
   ·rename_i hz
    cases e
    exact⟨qom hz,h2,h3⟩
   ·split at e
    ·cases e
    ·split at e<;>cases e
     ·exact⟨h1,s11⟩
     ·exact⟨h1,h2,h3⟩
theorem qjK:∀(l:List (List UInt8)) (q:Option (List ND×Int)),OkS q→OkS (l.foldl qiA q)
 |[],_,h=>h
 |x::l,q,h=>by
  rw [List.foldl_cons];refine qjK l _ ?_
  intro t s e
  cases q with
  |none=>cases e
  |some q=>
   obtain⟨t0,s0'⟩:=q;obtain⟨h1,h2,h3⟩:=h t0 s0' rfl;simp only [qiA] at e
   split at e
   ·cases e;exact⟨h1,h2,h3⟩
   ·split at e
    ·rename_i hz
     cases e
     obtain⟨-,-,-,e1,e2⟩:=qsN hz;exact⟨by rw [e1];exact e2,h2,h3⟩
    ·split at e
     ·cases e
     ·cases e;exact⟨h1,s11⟩
theorem qli {t:List ND} (h:OkT t) (q:Option (List ND×Int)) (hq:OkS q):FineU t fun _=>qrN t q:=by
 cases q with
 |none=>exact qeC h (.inr ⟨rfl,rfl⟩) s1
 |some q=>
  obtain⟨t',s⟩:=q;obtain⟨h1,h2,h3⟩:=hq t' s rfl;exact qbp h1 ⟨h2,by omega⟩
theorem qlN {t:List ND} (h:OkT t):OkS (some (t,0)):=fun t' s e=>by cases e;exact⟨h,s01⟩
theorem qwW {t:List ND} (h:OkT t) (args:List (List UInt8)):FineU t fun _=>mkU t args:=by
 unfold mkU;split
 ·exact qaP h
 ·exact qli h _ (qsi _ _ _ (qlN h))
theorem qpy {t:List ND} (h:OkT t) (args:List (List UInt8)):FineU t fun _=>qiB t args:=by
 unfold qiB;split
 ·exact qaP h
 ·exact qli h _ (qjK _ _ (qlN h))
theorem quE {t:List ND} (h:OkT t) (args:List (List UInt8)):FineU t fun _=>qoH t args:=by
 have hs:∀a b,FineU t fun _=>ql7 a b t:=fun a b=>by
  unfold ql7;split
  ·exact qaP h
  ·exact qbp h s0
 unfold qoH;split
 ·exact hs _ _
 ·exact hs _ _
 ·exact qaP h
theorem qlg {t:List ND} (h:OkT t) (dir:Bool) (args:List (List UInt8)):FineU t fun _=>qgY dir t args:=by
 unfold qgY;split
 ·exact qbp h s0
 ·exact qaP h
theorem qrF {t:List ND} (h:OkT t) (args:List (List UInt8)):FineU t fun _=>qhL t args:=by
 unfold qhL;split
 ·split
  ·rename_i c hc
   cases c
   ·exact qbp h s1
   ·exact qbp h s0
  ·split
   ·split
    ·rename_i n hn
     refine qbp h ?_
     split
     ·exact s1
     ·exact s0
    ·exact qaP h
   ·exact qaP h
 ·exact qaP h
theorem qwJ (x:Sp) (a:List UInt8):(qgy x a).2≤1:=by
 unfold qgy
 repeat' split
 all_goals first|exact Nat.le_refl _|exact Nat.zero_le _|(simp only;omega)|simp
theorem qg6 {l:List UInt8} {m:Nat} {r:Rd} (hm:m≤1) (h:r.st≤1):(r.ahead l m).st≤1:=by
 unfold Rd.ahead;simp only
 omega
theorem qsv:∀(n:Nat) (f:List UInt8) (args:List (List UInt8)),f.length≤n→(qbf f args).st≤1
 |_,[],_,_=>by rw [qig];exact Nat.zero_le _
 |0,_::_,_,h=>by simp at h
 |n+1,c::t,args,h=>by
  simp only [List.length_cons] at h
  have ih:=fun(k:Nat) args=>qsv n (t.drop k) args (by rw [List.length_drop];omega)
  rw [qjt];split
  ·exact qg6 (by omega) (ih _ _)
  ·split
   ·exact qg6 (by omega) (by have:=ih 0 args;rwa [List.drop_zero] at this)
   ·split
    ·exact Nat.le_refl _
    ·split
     ·exact qg6 (by omega) (ih _ _)
     ·exact qg6 (qwJ _ _) (ih _ _)
theorem qrK (f:List UInt8) (args:List (List UInt8)):(qaV f args).2≤1:=by
 have key:∀k f args,(qgf k f args).2≤1:=fun k=>by
  induction k with
  |zero=>intro f args;exact Nat.zero_le _
  |succ k ih=>
   intro f args
   have h1:=qsv _ f args (Nat.le_refl _)
   unfold qgf;split
   ·exact h1
   ·have:=ih f (qbf f args).left
    simp only
    omega
 exact key _ _ _
theorem qmO {t:List ND} (h:OkT t) (args:List (List UInt8)):FineU t fun _=>qfd t args:=by
 unfold qfd;split
 ·exact qaP h
 ·rename_i f r
  have:=qrK f r
  exact qbp h ⟨by omega,by omega⟩
theorem qlh {t:List ND} (h:OkT t) (args:List (List UInt8)):FineU t fun _=>qdc t args:=by
 unfold qdc;split
 ·exact qbp h (qru _ _)
 ·exact qaP h
theorem qrE {t:List ND} (h:OkT t) (name:List UInt8) (args:List (List UInt8)):FineU t fun inn=>qbc name args inn t:=by
 unfold qbc;by_cases c0:name=[99,97,116]∨name=[115,111,114,116]∨name=[117,110,105,113]∨name=[114,101,118]
 ·simp only [if_pos c0];exact qpx h _ _
 simp only [if_neg c0]
 by_cases c1:name=[104,101,97,100]
 ·simp only [if_pos c1];exact qjd h _ _
 simp only [if_neg c1]
 by_cases c2:name=[116,97,105,108]
 ·simp only [if_pos c2];exact qjd h _ _
 simp only [if_neg c2]
 by_cases c3:name=[119,99]
 ·simp only [if_pos c3];exact qpv h _
 simp only [if_neg c3]
 by_cases c4:name=[116,114]
 ·simp only [if_pos c4];exact qpw h _
 simp only [if_neg c4]
 by_cases c5:name=[99,117,116]
 ·simp only [if_pos c5];exact quD h _
 simp only [if_neg c5]
 by_cases c6:name=[114,109]
 ·simp only [if_pos c6];exact qwY h _
 simp only [if_neg c6]
 by_cases c7:name=[109,107,100,105,114]
 ·simp only [if_pos c7];exact qwW h _
 simp only [if_neg c7]
 by_cases c8:name=[116,111,117,99,104]
 ·simp only [if_pos c8];exact qpy h _
 simp only [if_neg c8]
 by_cases c9:name=[102,97,108,115,101]
 ·simp only [if_pos c9];exact qbp h s1
 simp only [if_neg c9]
 by_cases c10:name=[101,99,104,111]
 ·simp only [if_pos c10];exact qbp h s0
 simp only [if_neg c10]
 by_cases c11:name=[112,114,105,110,116,102]
 ·simp only [if_pos c11];exact qmO h _
 simp only [if_neg c11]
 by_cases c12:name=[116,101,115,116]
 ·simp only [if_pos c12];exact qbp h (qru _ _)
 simp only [if_neg c12]
 by_cases c13:name=[91]
 ·simp only [if_pos c13];exact qlh h _
 simp only [if_neg c13]
 by_cases c14:name=[115,101,113]
 ·simp only [if_pos c14];exact quE h _
 simp only [if_neg c14]
 by_cases c15:name=[98,97,115,101,110,97,109,101]
 ·simp only [if_pos c15];exact qlg h _ _
 simp only [if_neg c15]
 by_cases c16:name=[100,105,114,110,97,109,101]
 ·simp only [if_pos c16];exact qlg h _ _
 simp only [if_neg c16]
 by_cases c17:name=[101,120,112,114]
 ·simp only [if_pos c17];exact qrF h _
 simp only [if_neg c17]
 exact qbp h s0
theorem qxI (name:List UInt8) (args:List (List UInt8)) (inn other:List UInt8) (t:List ND):
  ((qgQ name args inn t).err≠0→(qgQ name args inn t).out=[])∧((qgQ name args inn t).err=0→OkT (qgQ name args inn t).tree)∧
   ((qgQ name args inn t).err=0→(qgQ name args inn t).read=false→qgQ name args other t=qgQ name args inn t∧0≤(qgQ name args inn t).st∧(qgQ name args inn t).st≤2):=by
 unfold qgQ;split
 ·exact⟨fun _=>rfl,fun h=>(by cases h),fun h=>(by cases h)⟩
 ·split
  ·rename_i hc
   exact⟨fun _=>rfl,fun h=>absurd h hc,fun h=>absurd h hc⟩
  ·rename_i hn hc
   have ht:OkT t:=by
    unfold qaC at hc;by_cases h:OkT t
    ·exact h
    ·rw [if_neg h] at hc;exact absurd (by decide) hc
   have F:=qrE ht name args;split
   ·exact⟨fun _=>rfl,fun h=>(by cases h),fun h=>(by cases h)⟩
   ·rename_i hl
    refine⟨fun h=>?_,fun _=>F.tree inn,fun _ hr=>?_⟩
    ·rcases F.err inn with e|⟨-,e⟩
     ·exact absurd e h
     ·exact e
    ·have he:=F.read inn hr other
     rw [he,if_neg hl];exact⟨rfl,F.st inn hr⟩
def qbG (b:Nat) (t:List ND):Prop:=∀n∈t,n.p.length≤b∧n.x.length≤b
theorem qoM:∀(l:List (List UInt8)) (k:Nat),(qad (l.take k)).length≤(qad l).length
 |[],k=>by simp
 |x::r,0=>by rw [List.take_zero];simp [qad]
 |x::r,k+1=>by
  have ih:=qoM r k;rw [List.take_succ_cons];simp only [qad,List.flatMap_cons,List.length_append] at ih ⊢
  omega
theorem qt5 (p:Bool) (x y:List UInt8) (h:y∈qgb p x):y.length≤x.length+1:=by
 unfold qgb at h;split at h
 ·obtain⟨k,hk,rfl⟩:=List.mem_map.1 h
  have hk:=List.mem_range.1 hk;have h1:=qcX x;unfold qam joinL at h1;have hne:qap x≠[]:=fun e=>by rw [e] at hk;simp at hk
  rw [if_neg hne] at h1;have h2:=qoM (qap x) (k+1)
  unfold joinL;split
  ·simp
  ·omega
 ·obtain rfl:=List.mem_singleton.1 h
  omega
theorem qki {b:Nat} {t:List ND} {n:ND} (h:qbG b t) (h1:n.p.length≤b) (h2:n.x.length≤b):qbG b (qd4 n t):=fun y hy=>by
 rcases qff n|>.1 hy with rfl|⟨hy,-⟩
 ·exact⟨h1,h2⟩
 ·exact h y hy
theorem qbm (b:Nat):qbG b []:=fun _ h=>by cases h
theorem qhQ {b:Nat} {z:List ND} (h:qbG b z):qbG b (qfc z).1:=by
 rcases qdE z with ⟨-,e⟩|⟨-,e⟩<;>rw [e]
 ·exact h
 ·exact qbm b
theorem qon {b:Nat} {t:List ND} {x:List UInt8} (h:qbG b t) (hx:x.length+1≤b):qbG b (mkQ t x).1:=by
 unfold mkQ;split
 ·exact qbm b
 ·split
  ·exact qbm b
  ·split
   ·exact qbm b
   ·refine qhQ ?_
    rw [qbK];exact qki h (Nat.le_trans (qcX x) hx) (Nat.zero_le _)
theorem qlZ {b:Nat} {t:List ND} {x:List UInt8} (h:qbG b t) (hx:x.length+1≤b):qbG b (qox t x []).1:=by
 unfold qox;split
 ·exact qbm b
 ·split
  ·exact qbm b
  ·split
   ·exact qbm b
   ·refine qhQ ?_
    rw [qbK];exact qki h (Nat.le_trans (qcX x) hx) (Nat.zero_le _)
theorem ql0 {b:Nat} {t:List ND} {x:List UInt8} {r:Bool} (h:qbG b t):qbG b (qfm t x r).1:=by
 unfold qfm;split
 ·exact qbm b
 ·split
  ·exact qbm b
  ·split
   ·exact qbm b
   ·exact fun n hn=>h n (qkp.1 hn).1
theorem qsY {b:Nat} (r f:Bool):∀(l:List (List UInt8)) (q:List ND×Int),qbG b q.1→qbG b (l.foldl (qsT r f) q).1
 |[],_,h=>h
 |x::l,q,h=>by
  rw [List.foldl_cons];refine qsY r f l _ ?_
  unfold qsT;split
  ·exact ql0 h
  ·split<;>exact h
def qo6 (b:Nat) (q:Option (List ND×Int)):Prop:=∀t s,q=some (t,s)→qbG b t
theorem qol {b:Nat} (p:Bool):∀(l:List (List UInt8)) (q:Option (List ND×Int)),(∀x∈l,x.length+1≤b)→qo6 b q→qo6 b (l.foldl (mkS p) q)
 |[],_,_,h=>h
 |x::l,q,hl,h=>by
  rw [List.foldl_cons];refine qol p l _ (fun y hy=>hl y (List.mem_cons_of_mem _ hy)) ?_
  intro t s e
  cases q with
  |none=>cases e
  |some q=>
   obtain⟨t0,s0'⟩:=q;have h1:=h t0 s0' rfl;simp only [mkS] at e
   split at e
   ·cases e;exact qon h1 (hl x (List.mem_cons_self ..))
   ·split at e
    ·cases e
    ·split at e<;>cases e<;>exact h1
theorem qjL {b:Nat}:∀(l:List (List UInt8)) (q:Option (List ND×Int)),(∀x∈l,x.length+1≤b)→qo6 b q→qo6 b (l.foldl qiA q)
 |[],_,_,h=>h
 |x::l,q,hl,h=>by
  rw [List.foldl_cons];refine qjL l _ (fun y hy=>hl y (List.mem_cons_of_mem _ hy)) ?_
  intro t s e
  cases q with
  |none=>cases e
  |some q=>
   obtain⟨t0,s0'⟩:=q;have h1:=h t0 s0' rfl;simp only [qiA] at e
   split at e
   ·cases e;exact h1
   ·split at e
    ·cases e;exact qlZ h1 (hl x (List.mem_cons_self ..))
    ·split at e
     ·cases e
     ·cases e;exact h1
theorem qlm {b:Nat} {t:List ND} (h:qbG b t) (q:Option (List ND×Int)) (hq:qo6 b q):qbG b (qrN t q).tree:=by
 cases q with
 |none=>exact h
 |some q=>exact hq q.1 q.2 rfl
theorem qfj (set:List UInt8):∀(l:List (List UInt8)) (o:List UInt8),∀x∈(qab set o l).rest,x∈l
 |[],_,x,h=>by cases h
 |y::r,o,x,h=>by
  rw [qbs] at h;split at h
  ·split at h
   ·exact List.mem_cons_of_mem _ (qfj set r _ x h)
   ·cases h
  ·exact h
theorem qvo {b:Nat} {t:List ND} {args:List (List UInt8)} (h:qbG b t):qbG b (rmU t args).tree:=by
 unfold rmU;split
 ·exact h
 ·exact qsY _ _ _ _ h
theorem qwo {b:Nat} {t:List ND} (h:qbG b t):qo6 b (some (t,0)):=fun t' s e=>by cases e;exact h
theorem qu1 {b:Nat} {t:List ND} {args:List (List UInt8)} (h:qbG b t) (ha:∀a∈args,a.length+2≤b):qbG b (mkU t args).tree:=by
 unfold mkU;split
 ·exact h
 ·refine qlm h _ (qol _ _ _ (fun x hx=>?_) (qwo h))
  obtain⟨a,h1,h2⟩:=List.mem_flatMap.1 hx;have:=qt5 _ _ _ h2
  have:=ha a (qfj _ _ _ a h1)
  omega
theorem qnD {b:Nat} {t:List ND} {args:List (List UInt8)} (h:qbG b t) (ha:∀a∈args,a.length+2≤b):qbG b (qiB t args).tree:=by
 unfold qiB;split
 ·exact h
 ·refine qlm h _ (qjL _ _ (fun x hx=>?_) (qwo h))
  have:=ha x (qfj _ _ _ x hx)
  omega
theorem qa3 {t:List ND} {q:UQ} {b:Nat} (h:qbG b t) (e:q.tree=t):qbG b q.tree:=by rw [e];exact h
theorem qrr {b:Nat} {t:List ND} {args:List (List UInt8)} (name inn:List UInt8) (h:qbG b t) (ha:∀a∈args,a.length+2≤b):qbG b (qbc name args inn t).tree:=by
 unfold qbc;by_cases c0:name=[99,97,116]∨name=[115,111,114,116]∨name=[117,110,105,113]∨name=[114,101,118]
 ·rw [if_pos c0];exact qa3 h rfl
 rw [if_neg c0];by_cases c1:name=[104,101,97,100]
 ·rw [if_pos c1];exact qa3 h (by unfold qgO;split<;>rfl)
 rw [if_neg c1];by_cases c2:name=[116,97,105,108]
 ·rw [if_pos c2];exact qa3 h (by unfold qgO;split<;>rfl)
 rw [if_neg c2];by_cases c3:name=[119,99]
 ·rw [if_pos c3];exact qa3 h (by unfold qhA;split<;>rfl)
 rw [if_neg c3];by_cases c4:name=[116,114]
 ·rw [if_pos c4];exact qa3 h (by unfold qe3;split<;>rfl)
 rw [if_neg c4];by_cases c5:name=[99,117,116]
 ·rw [if_pos c5];exact qa3 h (by unfold quf;(repeat' split)<;>rfl)
 rw [if_neg c5];by_cases c6:name=[114,109]
 ·rw [if_pos c6];exact qvo h
 rw [if_neg c6];by_cases c7:name=[109,107,100,105,114]
 ·rw [if_pos c7];exact qu1 h ha
 rw [if_neg c7];by_cases c8:name=[116,111,117,99,104]
 ·rw [if_pos c8];exact qnD h ha
 rw [if_neg c8];by_cases c9:name=[102,97,108,115,101]
 ·rw [if_pos c9];exact qa3 h rfl
 rw [if_neg c9];by_cases c10:name=[101,99,104,111]
 ·rw [if_pos c10];exact qa3 h rfl
 rw [if_neg c10];by_cases c11:name=[112,114,105,110,116,102]
 ·rw [if_pos c11];exact qa3 h (by unfold qfd;split<;>rfl)
 rw [if_neg c11];by_cases c12:name=[116,101,115,116]
 ·rw [if_pos c12];exact qa3 h rfl
 rw [if_neg c12];by_cases c13:name=[91]
 ·rw [if_pos c13];exact qa3 h (by unfold qdc;split<;>rfl)
 rw [if_neg c13];by_cases c14:name=[115,101,113]
 ·rw [if_pos c14];exact qa3 h (by unfold qoH ql7;(repeat' split)<;>rfl)
 rw [if_neg c14];by_cases c15:name=[98,97,115,101,110,97,109,101]
 ·rw [if_pos c15];exact qa3 h (by unfold qgY;split<;>rfl)
 rw [if_neg c15];by_cases c16:name=[100,105,114,110,97,109,101]
 ·rw [if_pos c16];exact qa3 h (by unfold qgY;split<;>rfl)
 rw [if_neg c16];by_cases c17:name=[101,120,112,114]
 ·rw [if_pos c17];exact qa3 h (by unfold qhL;(repeat' split)<;>rfl)
 rw [if_neg c17];exact qa3 h rfl
theorem qvv {b:Nat} {t:List ND} {args:List (List UInt8)} (name inn:List UInt8) (h:qbG b t) (ha:∀a∈args,a.length+2≤b):qbG b (qgQ name args inn t).tree:=by
 unfold qgQ;split
 ·exact qbm b
 ·split
  ·exact qbm b
  ·split
   ·exact h
   ·exact qrr name inn h ha
end Go.Proofs.YtpodopnmkjinhaaGreatDoor
namespace Go.Proofs.YtpodopnmkjinhaaGreatDoor
open Go.Lib (hid)
open Go.RowKit
noncomputable def qeQ (Q:List ND→List UInt8→List ND×Int) (q:Option (List ND×Int)) (x:List UInt8):Option (List ND×Int):=
 match q with
 |none=>none
 |some (t,s)=>if(Q t x).2=0 then some ((Q t x).1,s) else if(Q t x).2=17 then none else some (t,1)
theorem qk9 (Q:List ND→List UInt8→List ND×Int):∀l:List (List UInt8),l.foldl (qeQ Q) none=none
 |[]=>rfl
 |x::l=>by rw [List.foldl_cons];exact qk9 Q l
def qdz (w0:World) (N B:Nat) (Inv:List ND→Prop) (b:Nat) (g:Nat) (caps:Array Value) (Q:List ND→List UInt8→List ND×Int):Prop:=
 ∀(V:World) (C:Option Addr) (c:Nat) (R:Option Addr) (d:Nat) (o:List UInt8) (st:Int) (t:List ND) (rd:Bool) (l:List (List UInt8)) (inn x:List UInt8),Kept B w0 V→JobAt V N B C c R d o st t rd l inn→Inv t→x.length+1≤b→
  Calls prog g (#[encS x]++caps) V fun e v=>(∃C' c',e=.returned (.tuple #[.slice C' (Q t x).1.length c',.int .i64 (Q t x).2])∧((Q t x).2=0→qal v (fun g=>N≤g∧g≠B) C' (Q t x).1∧(Q t x).1.length≤c'))∧Below V.heap.size V v
def qtW (W:World) (N B:Nat) (R:Option Addr) (d:Nat) (o:List UInt8) (rd:Bool) (l:List (List UInt8)) (inn:List UInt8) (q:Option (List ND×Int)) (e:Ending) (w':World):Prop:=
 Kept B W w'∧((q=none∧e=.panicked [qbH 1 17])∨∃t' s' C' c',q=some (t',s')∧e=.returned (.tuple #[])∧JobAt w' N B C' c' R d o s' t' rd l inn)
section
variable {W:World} {N B:Nat} {C:Option Addr} {c:Nat} {R:Option Addr} {d:Nat} {o:List UInt8} {st:Int} {t:List ND} {rd:Bool} {l:List (List UInt8)} {inn:List UInt8}
theorem JobAt.set3 (h:JobAt W N B C c R d o st t rd l inn) {C':Option Addr} {c':Nat} {t':List ND} (hT:qal W (fun g=>N≤g∧g≠B) C' t') (hc:t'.length≤c'):JobAt (W.setCell ⟨B,3,none⟩ (.slice C' t'.length c')) N B C' c' R d o st t' rd l inn:=by
 have hk:Kept B W (W.setCell ⟨B,3,none⟩ (.slice C' t'.length c')):=(Kept.refl _ _).setCell _ _
 refine⟨by exact heap_setCell_same _ _ _ _ _ (.slice C' t'.length c') h.blk,fun i hi=>?_,hc,h.texts.frame fun g hg hp=>⟨hp,hk.block g hg (by have:=h.le;omega)⟩,h.hd,h.le⟩
 obtain⟨g,q,e,⟨h1,h2⟩,c1,c2,c3⟩:=hT i hi;have hb:=hk.block g (World.block_lt_of_cell? _ _ c1) h2
 exact⟨g,q,e,⟨h1,h2⟩,(World.cell?_of_block (w:=W) hb).trans c1,(World.cell?_of_block (w:=W) hb).trans c2,(World.cell?_of_block (w:=W) hb).trans c3⟩
theorem qun (g:Nat) (caps:Array Value) (eg:∀args w,(callFunc g args).run prog w=.ok (.enter g args) w) (Q:List ND→List UInt8→List ND×Int) (Inv:List ND→Prop) (b:Nat) (hInv:∀t x,Inv t→x.length+1≤b→(Q t x).2=0→Inv (Q t x).1)
  {w0:World} (hQ:qdz w0 N B Inv b g caps Q) (hk0:Kept B w0 W) (h:JobAt W N B C c R d o 0 t rd l inn) (ht:Inv t) (hl:qaf l≤b) (hb:b≤1099511627776):
  Calls prog 37 #[.pointer (some ⟨B,0,none⟩),.func (.func g) #[] caps] W fun e w'=>qtW W N B R d o rd l inn (l.foldl (qeQ Q) (some (t,0))) e w':=by
 have hlz:=qaG l;obtain⟨-,-,-,-,-,c5,-⟩:=h.cells;have hmem:∀x∈l,x.length+1≤b:=fun x hx=>Nat.le_trans (qaH l x hx) hl
 have HI:=hid (And.intro h (And.intro ht (And.intro hmem (And.intro hk0 hQ))))
 clear h ht hmem hk0 hQ;go_enter func37,ntmps37;go_wp2_with fail;go_loopw [14,5,6,7] (fun vi _ _ _ wr=>∃(k:Nat) (tk:List ND) (sk:Int) (Ck:Option Addr) (ck:Nat),vi=.int .i64 k∧k≤l.length∧Hid (JobAt wr N B Ck ck R d o sk tk rd l inn)∧Hid (Kept B W wr)∧Hid ((l.take k).foldl (qeQ Q) (some (t,0))=some (tk,sk))∧Hid (Inv tk)) (fun vi _ _ _ _=>l.length-(intOf vi).toNat)
 case atStart=>exact⟨0,t,0,C,c,rfl,Nat.zero_le _,hid HI.out.1,hid (Kept.refl _ _),hid rfl,hid HI.out.2.1⟩
 case round=>
  obtain⟨k,tk,sk,Ck,ck,rfl,hk,HJ,HK,HF,HV⟩:=hrel;by_cases hlt:k<l.length
  ·obtain⟨z,q,rfl,-,hc⟩:=HJ.out.texts k hlt
   have hx:=HI.out.2.2.1 _ (List.getElem_mem hlt)
   have cQ:=HI.out.2.2.2.2 wr Ck ck _ d o sk tk rd l inn l[k] (HI.out.2.2.2.1.trans HK.out) HJ.out HV.out hx
   have hkz:(k:Int)<(l.length:Int):=by omega
   have hnx:(l.take (k+1)).foldl (qeQ Q) (some (t,0))=qeQ Q (some (tk,sk)) l[k]:=by
    rw [List.take_succ_eq_append_getElem hlt,List.foldl_append,HF.out]
    rfl
   have hend:qeQ Q (some (tk,sk)) l[k]=none→l.foldl (qeQ Q) (some (t,0))=none:=fun e=>by
    have e1:l=l.take (k+1)++l.drop (k+1):=(List.take_append_drop _ _).symm
    rw [e1,List.foldl_append,hnx,e];exact qk9 Q _
   have hin:=HI.out;have hInvK:=hInv tk l[k] HV.out hx
   generalize l[k]=x at *;have hst:qeQ Q (some (tk,sk)) x=if(Q tk x).2=0 then some ((Q tk x).1,sk) else if(Q tk x).2=17 then none else some (tk,1):=rfl
   generalize Q tk x=qx at *;obtain⟨qt,qe⟩:=qx;simp only at cQ hInvK hst
   have HN:=hid (And.intro hnx (And.intro hend hst))
   clear hnx hend hst hin hx HF;by_cases h17:qe=17
   ·subst h17
    clear hInvK;go_wp2_with (go_at_fn g;refine cQ.mono ?_;rintro e w1 ⟨⟨C',c',rfl,-⟩,hb1⟩)
    refine(qje _).mono ?_;rintro e w2⟨rfl,rfl⟩;go_wp2_with fail;exact⟨rfl,HK.out.trans (Kept.of_below hb1),.inl ⟨HN.out.2.1 (by rw [HN.out.2.2];rfl),rfl⟩⟩
   ·have h17b:(qe !=17)=true:=by simpa using h17
    have h17c:(qe==17)=false:=by simpa using h17
    by_cases h0:qe=0
    ·subst h0
     have HV1:=hid (hInvK rfl)
     clear hInvK;go_wp2_with (go_at_fn g;refine cQ.mono ?_;rintro e w1 ⟨⟨C',c',rfl,hC⟩,hb1⟩)
     obtain⟨hC1,hC2⟩:=hC (by trivial)
     refine(qhR _).mono ?_;rintro e w2⟨rfl,rfl⟩;have HJ1:=hid (HJ.out.below hb1)
     have HC:=hid (And.intro hC1 hC2)
     have HK1:=hid (HK.out.trans (Kept.of_below hb1))
     have x3:=HJ1.out.cells.2.2.2.1;have f3:=HJ1.out.free 3;clear hb1 cQ hC hC1 hC2 HJ HK HV;go_wp2_with fail;go_roundw
     case rel=>exact⟨k+1,qt,sk,C',c',by go_num,by omega,hid (HJ1.out.set3 HC.out.1 HC.out.2),hid (HK1.out.setCell _ _),hid (by rw [HN.out.1,HN.out.2.2];rfl),HV1⟩
     case measure=>simp [intOf];omega
    ·have h0b:(qe !=0)=true:=by simpa using h0
     have h0c:(qe==0)=false:=by simpa using h0
     clear hInvK;go_wp2_with (go_at_fn g;refine cQ.mono ?_;rintro e w1 ⟨⟨C',c',rfl,-⟩,hb1⟩)
     refine(qhR _).mono ?_;rintro e w2⟨rfl,rfl⟩;have HJ1:=hid (HJ.out.below hb1)
     have HK1:=hid (HK.out.trans (Kept.of_below hb1))
     have x2:=HJ1.out.cells.2.2.1;have f2:=HJ1.out.free 2;clear hb1 cQ HJ HK;go_wp2_with fail;go_roundw
     case rel=>exact⟨k+1,tk,1,Ck,ck,by go_num,by omega,hid (HJ1.out.set2 1),hid (HK1.out.setCell _ _),hid (by rw [HN.out.1,HN.out.2.2,if_neg h0,if_neg h17]),HV⟩
     case measure=>simp [intOf];omega
  ·obtain rfl:k=l.length:=by omega
   have hkz:¬(l.length:Int)<(l.length:Int):=by omega
   rw [List.take_length] at HF;go_wp2_with fail;go_end0;exact⟨HK.out,.inr ⟨tk,sk,Ck,ck,HF.out,rfl,HJ.out⟩⟩
end
theorem qtF (p top:List UInt8):qdy p top=(p==top||Lib.hasPrefix p (top++[47])):=by
 unfold qdy Lib.hasPrefix;rw [Bool.eq_iff_iff,decide_eq_true_iff,Bool.or_eq_true,List.isPrefixOf_iff_prefix];simp
def qzb (ab N1:Nat) (W1:World) (ys:List ND) (wr:World):Prop:=∃a c',wr.heap[ab]?=some (.cells #[.slice a ys.length c'] 23 (0,0))∧qfr wr N1 a c' ys∧Turn N1 ab W1 wr
theorem qsR {ab N1:Nat} {W1:World} {ys:List ND} {y:ND} {w1 w3:World} {a:Option Addr} {c' gg cap:Nat} (hN:ab<N1) (hb1:w1.heap[ab]?=some (.cells #[.slice a ys.length c'] 23 (0,0))) (hO:qfr w1 N1 a c' ys) (hT:Turn N1 ab W1 w1) (hs:N1≤w1.heap.size)
  (hown3:w3.ownsRow N1 48 3 (.slice (some ⟨gg,0,none⟩) (ys.length+1) cap) (ys.length+1) (ys.flatMap qa7++qa7 y)) (hg:(w1.alloc (.cells (qa7 y).toArray 48)).grownBy w3 (Value.slice a ys.length c').ownBlock):
  qzb ab N1 W1 (ys++[y]) (w3.setCell ⟨ab,0,none⟩ (.slice (some ⟨gg,0,none⟩) (ys.length+1) cap)):=by
 have hrow:=qaT hO;have t1:Turn N1 ab W1 (w1.alloc (.cells (qa7 y).toArray 48)):=hT.trans (.alloc hs hN _)
 have t2:Turn N1 ab W1 w3:=t1.trans (.grown (by simp;omega) hN hg (qaT (World.ownsRow.alloc (w:=w1) hO _)))
 have hb3:w3.heap[ab]?=some (.cells #[.slice a ys.length c'] 23 (0,0)):=(hg.block ab (by have:=lt_of_block hb1;simp;omega) (fun e=>by have:=(hrow ab e.symm).1;omega)).trans ((Below.heap_alloc w1 _ ab (lt_of_block hb1)).trans hb1)
 refine⟨some ⟨gg,0,none⟩,cap,by rw [List.length_append];exact one_setCell hb3,?_,t2.trans (.set w3 0 _)⟩
 have ho:qfr w3 N1 (some ⟨gg,0,none⟩) cap (ys++[y]):=qfr.next hown3
 exact qdL ho fun j hj _=>Below.heap_setCell _ _ _ _ (by show j≠ab;omega)
theorem qvm (A:Option Addr) (c:Nat) (t:List ND) (p:List UInt8) (all:Bool) (bb tb ab N:Nat) (w0 W:World) (hN:N≤ab)
  (h0:W.heap[bb]?=some (.cells #[.bool all] 4 (0,0))) (h1:W.heap[tb]?=some (.cells #[.slice A t.length c] 23 (0,0))) (h4:W.heap[ab]?=some (.cells #[.slice none 0 0] 23 (0,0)))
  (hB:Below N w0 W) (hT:qal W (fun g=>g≠ab) A t) (hok:OkT t) (hz:qbj t) (ha:qga t p=(qam p,0)) (hp:p.length≤137438953472):
  Calls prog 190 #[.agg #[encS (qam p),.int .i64 (qag t (qam p)),.int .i64 (qak t (qam p))],.pointer (some ⟨bb,0,none⟩),.pointer (some ⟨tb,0,none⟩),.pointer (some ⟨ab,0,none⟩)] W (qbW (qfq N ab w0 (qfm t p all))):=by
 have hNW:N≤W.heap.size:=by have:=lt_of_block h4;omega
 have h256:=hok.1;have hpl:=qcX p;obtain⟨P,hP⟩:=qQ (qam p)
 have hq:qfm t p all=if qak t P=0 then([],71) else if P=[47]∨qak t P=2∧all=false then([],15) else(qm7 t P,0):=by unfold qfm;rw [ha,← hP];simp
 rw [hP] at hpl ⊢;clear ha hP hok;generalize qag t P=wh
 generalize qak t P=K at *;obtain⟨W1,hW1⟩:=qQ (W.alloc (.cells #[encS P,.int .i64 wh,.int .i64 K] 167))
 have hal:Below W.heap.size W W1:=by rw [← hW1];exact(Below.refl _ _).alloc (Nat.le_refl _) _
 have hs1:W1.heap.size=W.heap.size+1:=by rw [← hW1];simp
 have hsp:W1.heap[W.heap.size]?=some (.cells #[encS P,.int .i64 wh,.int .i64 K] 167 (0,0)):=by rw [← hW1];exact heap_alloc_new _ _
 have g0:=qac h0 hal;have g1:=qac h1 hal;have g4:=qac h4 hal
 have hT1:=hT.below hal;have hB1:=hB.trans (hal.mono hNW)
 have hab:=lt_of_block h4;have x0:W1.cell? ⟨W.heap.size,0,none⟩=some (encS P):=by simp [World.cell?,hsp]
 have x2:W1.cell? ⟨W.heap.size,2,none⟩=some (.int .i64 K):=by simp [World.cell?,hsp]
 have y0:=cell_of_one g0;have y1:=cell_of_one g1
 by_cases hK:K=0
 ·subst hK
  have HQ:Hid (qfm t p all=([],71)):=hid (by rw [hq,if_pos rfl])
  have HF:=hid (And.intro g4 hB1)
  clear hT hT1 g0 g1 g4 h0 h1 h4 hsp hB hB1 y0 y1 x0 hq hz;go_enter func190,ntmps190;go_wp2;go_ret;exact qa2 HQ.out HF.out.1 HF.out.2
 rw [if_neg hK] at hq;have q1:(K==0)=false:=by simpa using hK
 by_cases hd:P=[47]∨K=2∧all=false
 ·have HQ:Hid (qfm t p all=([],15)):=hid (by rw [hq,if_pos hd])
  have q2:(P==[47])=true∨((P==[47])=false∧K=2∧all=false):=by
   by_cases h47:P=[47]
   ·exact .inl (by simpa using h47)
   ·exact .inr ⟨by simpa using h47,hd.resolve_left h47⟩
  have HF:=hid (And.intro g4 hB1)
  clear hT hT1 g1 g4 h0 h1 h4 hsp hB hB1 y1 hq hz hK hd g0;rcases q2 with q2|⟨q2,rfl,rfl⟩
  all_goals
   go_enter func190,ntmps190;go_wp2;go_ret;exact qa2 HQ.out HF.out.1 HF.out.2
 ·have HQ:Hid (qfm t p all=(qm7 t P,0)):=hid (by rw [hq,if_neg hd])
  have q2:(P==[47])=false:=by simpa using fun h=>hd (.inl h)
  have q3:(K==2)=false∨((K==2)=true∧all=true):=by
   by_cases h2:K=2
   ·refine .inr ⟨by simpa using h2,?_⟩
    cases all
    ·exact absurd (.inr ⟨h2,rfl⟩) hd
    ·rfl
   ·exact .inl (by simpa using h2)
  obtain⟨i0,hi,hz0,hz1,hz2⟩:=info_parts qhZ;clear hK hd hq h0 h1 h4 g0 hT;rcases q3 with q3|⟨q3,rfl⟩
  all_goals
   go_enter func190,ntmps190;go_wp2;clear q1 q2 q3 y0 y1 x2;go_loopw [27] (fun i wr=>∃(k:Nat) (ys:List ND),k≤t.length∧i=.int .i64 k∧Hid (ys=qm7 (t.take k) P)∧qzb ab W1.heap.size W1 ys wr) (fun i _=>t.length-(intOf i).toNat)
   case atStart=>exact⟨0,[],Nat.zero_le _,rfl,hid rfl,none,0,g4,World.ownsRow_nil _ _ _ _,Turn.refl _ _ _⟩
   case round=>
    obtain⟨k,ys,hk,rfl,HY,a,c',hbx,hO,hTu⟩:=hrel;have hyl:ys.length≤k:=by
     rw [HY.out];unfold qm7;exact Nat.le_trans (List.length_filter_le _ _) (List.length_take_le _ _)
    have hsr:=hTu.bel.size;by_cases hlt:k<t.length
    ·have hTr:qal wr (fun _=>True) A t:=hT1.frame fun g hg hne=>⟨trivial,hTu.low g hg hne⟩
     obtain⟨gt,ot,rfl,-,b0,b1,b2⟩:=hTr k hlt;have HS:=hid (qsz t P k hlt)
     rw [← HY.out] at HS;obtain⟨hp1,hx1⟩:=hz _ (List.getElem_mem hlt)
     generalize t[k]=n at *;obtain⟨np,nd,nx⟩:=n;simp only at b0 b1 b2 hp1 hx1 HS
     have hup:=qtF np P;obtain⟨Q,hQ⟩:=qQ (P++[47])
     rw [hQ] at hup;have hxw:wr.cell? ⟨W.heap.size,0,none⟩=some (encS P):=by
      have e:=hTu.low W.heap.size (by omega) (by omega)
      simpa [World.cell?,e] using x0
     have cH:∀W2:World,Calls prog 191 #[encS np,.string ⟨Q.toArray⟩] W2 fun e w'=>e=.returned (.bool (Lib.hasPrefix np Q))∧w'=W2:=fun W2=>Tryz.strings_HasPrefix ⟨np.toArray⟩ ⟨Q.toArray⟩ W2
     have hadd:(⟨P.toArray⟩:ByteArray)++⟨#[47]⟩=⟨Q.toArray⟩:=by rw [← hQ];exact qd7 P [47]
     clear hQ;have hPm:P.length≤137438953473:=by omega
     obtain⟨W2,hW2⟩:=qQ (wr.alloc (.cells #[encS np,.bool nd,encS nx] 48))
     have hal2:Below wr.heap.size wr W2:=by rw [← hW2];exact(Below.refl _ _).alloc (Nat.le_refl _) _
     have hx3:qiN W2 wr.heap.size (encS np) (.bool nd) (encS nx):=by rw [← hW2];exact heap_alloc_new _ _
     have a0:=hx3.a0;have a1:=hx3.a1;have a2:=hx3.a2
     have hxw2:=cell_below hal2 hxw;have hT2:Turn W1.heap.size ab W1 W2:=hTu.trans (.below hsr (by omega) hal2)
     have hO2:=own_below hO hal2;have hb2:=qac hbx hal2;by_cases hu:qdy np P=true
     ·have HY2:Hid (ys=qm7 (t.take (k+1)) P):=hid (by rw [HS.out,hu];simp)
      have HF:=hid (show qzb ab W1.heap.size W1 ys W2 from⟨a,c',hb2,hO2,hT2⟩)
      have hc:(np==P)=true∨((np==P)=false∧Lib.hasPrefix np Q=true):=by
       rw [hup] at hu;cases h:np==P
       ·rw [h] at hu;exact .inr ⟨rfl,by simpa using hu⟩
       ·exact .inl rfl
      clear hu hup HS HY hTr hT1 hz hO hO2 hTu hT2 hb2 hbx hx3 hxw;rcases hc with hc|⟨hc,hc2⟩
      ·have hc':(np !=P)=false:=by simp only [bne,hc];rfl
       go_wp2;go_roundw
       case rel=>exact⟨k+1,ys,by omega,by go_num,HY2,HF.out⟩
       case measure=>simp [intOf];omega
      ·have hc':(np !=P)=true:=by simp only [bne,hc];rfl
       rw [hc2] at cH;go_wp2_with (go_at_call 191;(with_reducible refine(cH _).mono ?_);rintro e w5 ⟨rfl,rfl⟩)
       go_roundw
       case rel=>exact⟨k+1,ys,by omega,by go_num,HY2,HF.out⟩
       case measure=>simp [intOf];omega
     ·have hu:qdy np P=false:=by simpa using hu
      have HY2:Hid (ys++[⟨np,nd,nx⟩]=qm7 (t.take (k+1)) P):=hid (by rw [HS.out,hu];simp)
      have hc:(np==P)=false∧Lib.hasPrefix np Q=false:=by
       rw [hup] at hu
       simpa using hu
      obtain⟨hc,hc2⟩:=hc;have hc':(np !=P)=true:=by simp only [bne,hc];rfl
      rw [hc2] at cH;have cC:=fun W=>qcJ ⟨np,nd,nx⟩ W (by show np.length≤_;omega) (by show nx.length≤_;omega)
      have hlt2:=lt_of_block hb2;have hs2:=hT2.bel.size;have n0:=cell_of_one hb2;clear hu hup HS HY hTr hT1 hz hO hTu hbx hxw;go_wp2_with (go_at_call 191;(with_reducible refine(cH _).mono ?_);rintro e w5 ⟨rfl,hw5⟩;obtain rfl:W2=w5:=hw5.symm)
      clear hc hc' hc2 cH b0 b1 b2 hxw2 x0;have hO2:W2.ownsRow W1.heap.size 48 3 (.slice a ys.length c') ys.length (ys.flatMap qa7):=hO2
      go_region_law (first
       |(go_simp;go_at_call 192;refine(cC _).mono ?_;rintro e w3 ⟨rfl,hb3⟩;have hown3:=own_below (w:=W2.drew) hO2 hb3;have hbk3:=(hb3.block ab hlt2).trans hb2;have hlt3:=lt_of_block hbk3;have c3:=cell_of_one hbk3)
       |(refine step_append_lies _ (by rfl) _ _ _ (by rfl) W1.heap.size 48 i0 _ 3 40 underlying23 hi hz0 hz1 hz2 rfl (by omega) (.slice a ys.length c') ys.length (ys.flatMap qa7) (by rfl) (hown3.alloc _) ⟨w3.heap.size,0,none⟩ 1 1 (qa7 ⟨np,nd,nx⟩) (by rfl) (by rfl) (World.news_of_block (cs:=#[encS np,.bool nd,encS nx]) (t:=48) (fr:=(0,0)) (heap_alloc_new w3 _)) (by simp [qa7,Value.oneCell']) (by omega) (by unfold maxLen;omega) (by omega) (by have:W2.heap.size≤w3.heap.size:=hb3.size;simp;omega) (w3.heap.size+1) (by simp) ?_;intro gg cap w4 hown4 hg hat hlt4;have hbk4:=(hg.block ab (by simp;omega) (fun e=>by have:=(qaT hO2 _ e.symm).1;omega)).trans ((Below.heap_alloc w3 _ ab hlt3).trans hbk3);have c4:=cell_of_one hbk4;have f4:=free_of_one hbk4))
      all_goals
       have hT3:Turn W1.heap.size ab W1 w3:=(hT2.trans (.drew _ _ W2)).trans (.below (show W1.heap.size≤W2.heap.size from hs2) (by omega) hb3)
       have HF:=hid (qsR (y:=⟨np,nd,nx⟩) (by omega) hbk3 hown3 hT3 (Nat.le_trans hs2 hb3.size) hown4 hg)
       clear hown4 hg hown3 hbk3 hbk4 c3 c4 f4 hT3 hb3 hat n0 hO2 hb2;go_wp2;go_roundw
       case rel=>exact⟨k+1,ys++[⟨np,nd,nx⟩],by omega,by go_num,HY2,HF.out⟩
       case measure=>simp [intOf];omega
    ·obtain rfl:k=t.length:=by omega
     rw [List.take_length] at HY;obtain rfl:=HY.out
     have HF:=hid (show qfq N ab w0 (qm7 t P,0) 0 wr from⟨rfl,a,c',hbx,qfP hO (by omega),hB1.trans (hTu.bel.mono hN)⟩)
     clear hbx hO hTu hT1 hz;go_wp2;go_ret;rw [HQ.out];exact⟨0,rfl,HF.out⟩
theorem qnC (w:World) (o0 o1 o2:Obj) {W:World} (hW:((w.alloc o0).alloc o1).alloc o2=W):W.heap[w.heap.size]?=some o0∧W.heap[w.heap.size+1]?=some o1∧W.heap[w.heap.size+2]?=some o2∧W.heap.size=w.heap.size+3∧Below w.heap.size w W:=by
 obtain⟨h0,h1,hs,hb⟩:=qiE w o0 o1 rfl;subst hW;refine⟨(Below.heap_alloc _ _ _ (by simp;omega)).trans h0,(Below.heap_alloc _ _ _ (by simp)).trans h1,?_,by simp,hb.alloc (by simp;omega) _⟩
 have:=heap_alloc_new ((w.alloc o0).alloc o1) o2
 rwa [World.size_alloc,World.size_alloc] at this
theorem qny (A:Option Addr) (c:Nat) (t:List ND) (p:List UInt8) (all:Bool) (w:World) (hT:qal w (fun _=>True) A t) (hl:t.length≤1099511627776∧t.length≤c) (hz:qbj t) (hp:p.length≤137438953472):
  Calls prog 148 #[.slice A t.length c,encS p,.bool all] w fun e w'=>qi0 w (qfm t p all) e w':=by
 obtain⟨W1,hW1⟩:=qQ (((w.alloc (.cells #[.slice A t.length c] 23)).alloc (.cells #[.bool all] 4)).alloc (.cells #[.slice none 0 0] 23))
 obtain⟨k0,k1,k2,ks,kb⟩:=qnC w _ _ _ hW1;have y0:=cell_of_one k0;have hTb:=hT.below kb;have eg:=enters_of func190 (by kernel_rfl) rfl
 obtain⟨lb,hlb⟩:∃lb:Array Value,lb=#[.pointer (some ⟨w.heap.size+1,0,none⟩),.pointer (some ⟨w.heap.size,0,none⟩),.pointer (some ⟨w.heap.size+2,0,none⟩)]:=⟨_,rfl⟩
 have cA:Calls prog 152 #[.slice A t.length c,encS p,.func (.func 190) #[] lb] W1 (qbW (qfq w.heap.size (w.heap.size+2) w (qfm t p all))):=by
  rcases qb8 t p with ⟨ha,hok,hq⟩|⟨ha,-,-⟩|⟨ha,-⟩
  ·refine qqZ 190 lb eg _ A c t p W1 hTb hl.1 hz hl.2 (by omega) hok hq fun W hb=>?_
   rw [hlb];exact qvm A c t p all (w.heap.size+1) w.heap.size (w.heap.size+2) w.heap.size w W (by omega)
    (qac k1 hb) (qac k0 hb) (qac k2 hb) (kb.trans (hb.mono (by omega)))
    (hT.frame fun g hg _=>⟨by omega,(hb.block g (by omega)).trans (kb.block g hg)⟩) hok hz ha (by omega)
  ·refine(qeV 190 lb A c t p 31 W1 hTb hl.1 hz hl.2 (by omega) ha (by decide)).mono ?_
   rintro e w'⟨rfl,hb⟩;exact qa2 (by unfold qfm;rw [ha];exact if_pos (by decide)) (qac k2 hb) (kb.trans (hb.mono (by omega)))
  ·refine(qeV 190 lb A c t p 9 W1 hTb hl.1 hz hl.2 (by omega) ha (by decide)).mono ?_
   rintro e w'⟨rfl,hb⟩;exact qa2 (by unfold qfm;rw [ha];exact if_pos (by decide)) (qac k2 hb) (kb.trans (hb.mono (by omega)))
 rw [hlb] at cA;generalize qfm t p all=q at *;clear hT hTb hz k0 k1 k2 hlb eg;go_enter func148,ntmps148;go_wp2_with fail;refine cA.mono ?_;rintro e w2⟨n,rfl,rfl,a,c',hbx,hO,hB⟩;have e0:=cell_of_one hbx;have f0:=free_of_one hbx;have HO:=hid (And.intro hO hB)
 have HS:=hid (qfT hbx)
 clear cA hO hB hW1;go_wp2;rw [show w.heap.size+1+1=w.heap.size+2 from rfl,HS.out];exact bodyPost_ret (v:=.tuple #[.slice a q.1.length c',.int .i64 q.2]) (by simp [results,Tryz.results148,go_sem,e0]) rfl ⟨a,c',rfl,HO.out.1,HO.out.2⟩
def qdS (t:List ND):Prop:=OkT t∧qbG 1100000 t
theorem qdS.sz {t:List ND} (h:qdS t):qbj t:=fun n hn=>by have:=h.2 n hn;omega
noncomputable def qdW (t:List ND) (x:List UInt8):List ND×Int:=if qa0 t x≠0 then(t,0) else qox t x []
noncomputable def rmQ (r f:Bool) (t:List ND) (x:List UInt8):List ND×Int:=if(qfm t x r).2=71∧f=true then(t,0) else qfm t x r
theorem qty (t:List ND) (x:List UInt8) (h:qdS t) (hx:x.length+1≤1100000) (h0:(qdW t x).2=0):qdS (qdW t x).1:=by
 unfold qdW at h0 ⊢
 split at h0
 ·rename_i hk;rw [if_pos hk];exact h
 ·rename_i hk
  rw [if_neg hk];obtain⟨-,-,-,e1,e2⟩:=qsN h0;exact⟨by rw [e1];exact e2,qlZ h.2 hx⟩
theorem qyS (r f:Bool) (t:List ND) (x:List UInt8) (h:qdS t) (_:x.length+1≤1100000) (h0:(rmQ r f t x).2=0):qdS (rmQ r f t x).1:=by
 unfold rmQ at h0 ⊢
 split at h0
 ·rename_i hk;rw [if_pos hk];exact h
 ·rename_i hk
  rw [if_neg hk];exact⟨qsS h0 h.1,ql0 h.2⟩
theorem qpq:qeQ qdW=qiA:=by
 funext q x
 cases q with
 |none=>rfl
 |some q=>
  obtain⟨t,s⟩:=q;show(if(qdW t x).2=0 then _ else _)=_
  unfold qdW qiA;by_cases hk:qa0 t x≠0
  ·simp only [if_pos hk];rfl
  ·simp only [if_neg hk]
theorem qxw (t:List ND) (x:List UInt8) (r:Bool):(qfm t x r).2≠17:=by
 unfold qfm;split
 ·rcases qb8 t x with ⟨h,-⟩|⟨h,-⟩|⟨h,-⟩<;>rw [h]<;>simp
 ·split
  ·simp
  ·split<;>simp
theorem qrs (r f:Bool):∀(l:List (List UInt8)) (q:List ND×Int),l.foldl (qeQ (rmQ r f)) (some q)=some (l.foldl (qsT r f) q)
 |[],q=>rfl
 |x::l,q=>by
  rw [List.foldl_cons,List.foldl_cons,← qrs r f l]
  congr 1
  obtain⟨t,s⟩:=q;show(if(rmQ r f t x).2=0 then _ else _)=_
  have h17:=qxw t x r;unfold rmQ qsT;by_cases h0:(qfm t x r).2=0
  ·have h71:¬((qfm t x r).2=71∧f=true):=fun h=>by rw [h0] at h;exact absurd h.1 (by decide)
   simp only [if_neg h71]
   rw [if_pos h0,if_pos h0]
  ·by_cases hf:(qfm t x r).2=71∧f=true
   ·simp only [if_pos hf,if_true]
    rw [if_neg h0,if_neg (by rw [hf.1,hf.2];simp)]
   ·simp only [if_neg hf]
    rw [if_neg h0,if_neg h17,if_neg h0,if_pos];by_cases h71:(qfm t x r).2=71
    ·refine .inr ?_
     cases f
     ·rfl
     ·exact absurd ⟨h71,rfl⟩ hf
    ·exact .inl h71
theorem contains_one (l:List UInt8) (c:UInt8) (w:World):Calls prog 70 #[encS l,.string ⟨#[c]⟩] w fun e w'=>e=.returned (.bool (l.contains c))∧w'=w:=by
 have h:=Tryz.strings_Contains_one ⟨l.toArray⟩ c w
 have e:(⟨l.toArray⟩:ByteArray).data.toList=l:=by simp
 rw [e] at h;have hd:decide (0≤Lib.indexByte l c)=l.contains c:=by
  by_cases hc:c∈l
  ·rw [List.contains_iff_mem.2 hc,decide_eq_true_eq]
   rcases Int.lt_or_le (Lib.indexByte l c) 0 with h|h
   ·have h1:Lib.indexByte l c=-1:=by have:=Lib.indexByte_ge l c;omega
    obtain⟨k,hk⟩:=List.mem_iff_getElem?.1 hc
    exact absurd hk (Lib.indexByte_none h1 k)
   ·exact h
  ·have h1:l.contains c=false:=by rw [Bool.eq_false_iff];intro h;exact hc (List.contains_iff_mem.1 h)
   rw [h1,decide_eq_false_iff_not];intro h0
   obtain⟨k,hk⟩:∃k:Nat,Lib.indexByte l c=k:=⟨(Lib.indexByte l c).toNat,by omega⟩
   exact hc (List.mem_of_getElem? (Lib.indexByte_some hk).1)
 rwa [hd] at h
section
variable {W:World} {N B:Nat} {C:Option Addr} {c:Nat} {R:Option Addr} {d:Nat} {o:List UInt8} {st:Int} {t:List ND} {rd:Bool} {l:List (List UInt8)} {inn:List UInt8}
theorem qvZ {w0:World} {b:Nat} (hb:w0.heap[b]?=some (.cells #[.pointer (some ⟨B,0,none⟩)] 53 (0,0))) (hne:b≠B):qdz w0 N B qdS 1100000 88 #[.pointer (some ⟨b,0,none⟩)] qdW:=by
 intro V C c R d o st t rd l inn x hk h hi hx
 have y0:=cell_of_one (qbb hb hne hk)
 have c3:=h.cells.2.2.2.1;have cK:=qiw C c t x V h.tree ⟨by have:=hi.1.1;omega,h.hc⟩ hi.sz (by omega)
 have hVB:=h.lt;have cP:=fun V' (hb:Below V.heap.size V V')=>qvL C c t x [] V' ((h.below hb).tree) ⟨by have:=hi.1.1;omega,h.hc⟩ hi.sz (by omega) (by simp)
 have HH:=hid h;clear hb hk hi;show Calls _ _ #[encS x,.pointer (some ⟨b,0,none⟩)] _ _
 by_cases hkz:qa0 t x≠0
 ·have hk1:(qa0 t x !=0)=true:=by simpa using hkz
  have HQ:Hid (qdW t x=(t,0)):=hid (if_pos hkz)
  rw [HQ.out];generalize qa0 t x=kk at *;clear hkz h cP;go_enter func88,ntmps88;go_wp2_with fail;refine cK.mono ?_;rintro e w1⟨rfl,hb1⟩;have HJ:=hid (HH.out.below hb1)
  have y0:=cell_below hb1 y0;have c3:=cell_below hb1 c3;have HB:=hid hb1;clear cK hb1;go_wp2_with fail;go_ret2;exact⟨⟨C,c,rfl,fun _=>⟨HJ.out.nodes,HJ.out.hc⟩⟩,HB.out⟩
 ·have hk1:(qa0 t x !=0)=false:=by simpa using hkz
  have HQ:Hid (qdW t x=qox t x []):=hid (if_neg hkz)
  rw [HQ.out];generalize qa0 t x=kk at *;generalize qox t x []=qx at *;clear hkz h HQ;go_enter func88,ntmps88;go_wp2_with fail;refine cK.mono ?_;rintro e w1⟨rfl,hb1⟩;have y0:=cell_below hb1 y0;have c3:=cell_below hb1 c3;have cP:=cP w1 hb1;have HB:=hid hb1;clear cK hb1;go_wp2_with fail;refine cP.mono ?_;rintro e w2⟨C',c',rfl,hO,hb2⟩;have HO:=hid (And.intro hO.nodes (And.intro hO.cap hb2))
  clear cP hO hb2;go_wp2_with fail;go_ret2;refine⟨⟨C',c',rfl,fun _=>⟨HO.out.1.frame fun g _ hp=>⟨?_,rfl⟩,HO.out.2.1⟩⟩,HB.out.trans (HO.out.2.2.mono HB.out.size)⟩
  have hp:w1.heap.size≤g:=hp
  have h1:=HB.out.size;have h2:=HH.out.le;omega
theorem qzs {w0:World} {b b1 b2:Nat} {r f:Bool} (hb:w0.heap[b]?=some (.cells #[.pointer (some ⟨B,0,none⟩)] 53 (0,0))) (hb1:w0.heap[b1]?=some (.cells #[.bool r] 4 (0,0))) (hb2:w0.heap[b2]?=some (.cells #[.bool f] 4 (0,0))) (hne:b≠B) (hne1:b1≠B) (hne2:b2≠B):
  qdz w0 N B qdS 1100000 147 #[.pointer (some ⟨b,0,none⟩),.pointer (some ⟨b1,0,none⟩),.pointer (some ⟨b2,0,none⟩)] (rmQ r f):=by
 intro V C c R d o st t rd l inn x hk h hi hx
 have y0:=cell_of_one (qbb hb hne hk)
 have y1:=cell_of_one (qbb hb1 hne1 hk)
 have y2:=cell_of_one (qbb hb2 hne2 hk)
 have c3:=h.cells.2.2.2.1;have cR:Calls prog 148 #[.slice C t.length c,encS x,.bool r] V.drew fun e w'=>qi0 V.drew (qfm t x r) e w':=qny C c t x r V.drew (h.heap rfl).tree ⟨by have:=hi.1.1;omega,h.hc⟩ hi.sz (by omega)
 have hS:Cells [(⟨b,0,none⟩,.pointer (some ⟨B,0,none⟩)),(⟨B,3,none⟩,.slice C t.length c),(⟨b1,0,none⟩,.bool r),(⟨b2,0,none⟩,.bool f)] V.drew:=fun z hz=>by
  rcases List.mem_cons.1 hz with rfl|hz
  ·exact y0
  rcases List.mem_cons.1 hz with rfl|hz
  ·exact c3
  rcases List.mem_cons.1 hz with rfl|hz
  ·exact y1
  rcases List.mem_cons.1 hz with rfl|hz
  ·exact y2
  ·cases hz
 have HH:=hid h;have HQ:Hid (rmQ r f t x=if(qfm t x r).2=71∧f=true then(t,0) else qfm t x r):=hid rfl
 generalize rmQ r f t x=qq at *;generalize qfm t x r=qx at *;obtain⟨qt,qe⟩:=qx;unfold qi0 at cR;simp only at cR
 clear hb hb1 hb2 hk hi h;show Calls _ _ #[encS x,.pointer (some ⟨b,0,none⟩),.pointer (some ⟨b1,0,none⟩),.pointer (some ⟨b2,0,none⟩)] _ _
 go_enter func147,ntmps147;go_wp2_with fail;refine wp_region_held_drew (S:=Cells [(⟨b,0,none⟩,.pointer (some ⟨B,0,none⟩)),(⟨B,3,none⟩,.slice C t.length c),(⟨b1,0,none⟩,.bool r),(⟨b2,0,none⟩,.bool f)]) (by kernel_rfl) hS (fun _=>?_)
 -- REGION
 refine qai 0 10 (.pointer (some ⟨B,0,none⟩)) rfl rfl (Or.inl ⟨by rfl,fun w' hS'=>by have s0:=hS' _ (.head _);dsimp only at s0;go_simp⟩) hS ?_
 refine qaa 1 11 (.pointer (some ⟨B,0,none⟩)) rfl rfl hS ?_
 refine qaa 2 12 (.pointer (some ⟨B,0,none⟩)) rfl rfl hS ?_
 refine qaa 3 13 (.pointer (some ⟨B,3,none⟩)) rfl rfl hS ?_
 refine qai 4 14 (.slice C t.length c) rfl rfl (Or.inl ⟨by rfl,fun w' hS'=>by have s1:=hS' _ (.tail _ (.head _));dsimp only at s1;go_simp⟩) hS ?_
 refine qaa 5 15 (encS x) rfl rfl hS ?_
 refine qai 6 16 (.bool r) rfl rfl (Or.inl ⟨by rfl,fun w' hS'=>by have s2:=hS' _ (.tail _ (.tail _ (.head _)));dsimp only at s2;go_simp⟩) hS ?_
 refine qae 7 rfl fun K hK=>?_
 go_simp;go_at_call 148
 refine cR.mono ?_;rintro e w2⟨C',c',rfl,hO,hb1⟩;have hS1:=hS.below hb1;have HO:=hid (And.intro hO.nodes (And.intro hO.cap hb1))
 clear hO hb1 cR;go_wp2_with fail;refine qaE hK hS1 ?_
 clear hK K;refine qaa 8 9 (Value.tuple #[.slice C' qt.length c',.int .i64 qe]) rfl rfl hS1 ?_
 refine qaa 9 18 (.slice C' qt.length c') rfl rfl hS1 ?_
 refine qaa 10 19 (.int .i64 qe) rfl rfl hS1 ?_
 refine qaa 11 7 (.slice C' qt.length c') rfl rfl hS1 ?_
 refine qaa 12 8 (.int .i64 qe) rfl rfl hS1 ?_
 refine wpAnyH_done (by kernel_rfl) ?_ _
 clear hS hS1;obtain⟨hO1,hO2,hO3⟩:=HO.out;have hO3:Below V.heap.size V w2:=(Below.refl _ V).drew.trans hO3
 have HJ:=hid (HH.out.below hO3)
 have y0:=cell_below hO3 y0;have y2:=cell_below hO3 y2;have c3:=cell_below hO3 c3;have HO:=hid (And.intro hO1 (And.intro hO2 hO3))
 clear hO1 hO2 hO3;by_cases h71:qe=71
 ·subst h71
  cases f
  ·have HQ2:=hid (HQ.out.trans (if_neg (by simp)));clear HQ
   go_wp2_with fail;go_ret2;obtain rfl:=HQ2.out
   refine⟨⟨C',c',rfl,fun h0=>?_⟩,HO.out.2.2⟩
   exact absurd h0 (by show ¬(71:Int)=0;decide)
  ·have HQ2:=hid (HQ.out.trans (if_pos ⟨rfl,rfl⟩));clear HQ
   go_wp2_with fail;go_ret2;obtain rfl:=HQ2.out
   exact⟨⟨C,c,rfl,fun _=>⟨HJ.out.nodes,HJ.out.hc⟩⟩,HO.out.2.2⟩
 ·have h71b:(qe==71)=false:=by simpa using h71
  have HQ2:=hid (HQ.out.trans (if_neg (fun h=>h71 h.1)));clear HQ
  go_wp2_with fail;go_ret2;obtain rfl:=HQ2.out
  refine⟨⟨C',c',rfl,fun _=>⟨HO.out.1.frame fun g _ hp=>⟨?_,rfl⟩,HO.out.2.1⟩⟩,HO.out.2.2⟩
  have hp:V.heap.size≤g:=hp
  have h1:=HH.out.lt;have h2:=HH.out.le;omega
 -- END
end
theorem qjS (b:Nat) (q:List UInt8) (ch:UInt8) (V:World) (hb:V.cell? ⟨b,0,none⟩=some (encS q)):
  Calls prog 69 (#[.string ⟨#[ch]⟩]++#[.pointer (some ⟨b,0,none⟩)]) V fun e v=>e=.returned (.bool (q.contains ch))∧v=V:=by
 have c1:=fun w=>contains_one q ch w
 generalize q.contains ch=r at *;show Calls _ _ #[.string ⟨#[ch]⟩,.pointer (some ⟨b,0,none⟩)] _ _
 go_enter func69,ntmps69;go_wp2_with fail;refine(c1 _).mono ?_;rintro e w1⟨rfl,rfl⟩;go_wp2_with fail;go_ret;exact⟨rfl,rfl⟩
theorem qti (b1 b2:Nat) (q:List UInt8) (V:World) (hb:V.cell? ⟨b1,0,none⟩=some (encS q)) (hf:V.cell? ⟨b2,0,none⟩=some (.func (.func 69) #[] #[.pointer (some ⟨b1,0,none⟩)])) (s:List UInt8) (hs:s.length≤1099511627775):
  Calls prog 71 (#[encS s]++#[.pointer (some ⟨b2,0,none⟩)]) V fun e v=>e=.returned (encS (qnu s (q.contains 114) (q.contains 117) (q.contains 110)))∧Below V.heap.size V v:=by
 have eg:∀args w,(callFunc 69 args).run prog w=.ok (.enter 69 args) w:=enters_of func69 (by kernel_rfl) rfl
 have c1:=qjS b1 q 114 V.drew hb;have c2:=qjS b1 q 117 V.drew hb;have c3:=qjS b1 q 110 V.drew hb;have cS:=qvH s (q.contains 114) (q.contains 117) (q.contains 110) V.drew hs
 generalize qnu s (q.contains 114) (q.contains 117) (q.contains 110)=z at *;generalize q.contains 114=r at *;generalize q.contains 117=u at *;generalize q.contains 110=n at *;have hS:Cells [(⟨b2,0,none⟩,.func (.func 69) #[] #[.pointer (some ⟨b1,0,none⟩)])] V.drew:=fun z hz=>by
  rcases List.mem_cons.1 hz with rfl|hz
  ·exact hf
  ·cases hz
 show Calls _ _ #[encS s,.pointer (some ⟨b2,0,none⟩)] _ _
 clear hb hf;go_enter func71,ntmps71;go_wp2_with fail;refine wp_region_held_drew (S:=Cells [(⟨b2,0,none⟩,.func (.func 69) #[] #[.pointer (some ⟨b1,0,none⟩)])]) (by kernel_rfl) hS (fun _=>?_)
 refine qaa 0 4 (encS s) rfl rfl hS ?_
 refine qai 1 5 (.func (.func 69) #[] #[.pointer (some ⟨b1,0,none⟩)]) rfl rfl (Or.inl ⟨by rfl,fun w' hS'=>by have s0:=hS' _ (.head _);dsimp only at s0;go_simp⟩) hS ?_
 refine qai 3 7 (.func (.func 69) #[] #[.pointer (some ⟨b1,0,none⟩)]) rfl rfl (Or.inl ⟨by rfl,fun w' hS'=>by have s0:=hS' _ (.head _);dsimp only at s0;go_simp⟩) hS ?_
 refine qai 5 9 (.func (.func 69) #[] #[.pointer (some ⟨b1,0,none⟩)]) rfl rfl (Or.inl ⟨by rfl,fun w' hS'=>by have s0:=hS' _ (.head _);dsimp only at s0;go_simp⟩) hS ?_
 refine qae 2 rfl fun K hK=>?_
 go_simp;go_at_fn 69
 refine c1.mono ?_;rintro e w1⟨rfl,rfl⟩;go_wp2_with fail;refine qaE hK hS ?_
 clear hK K;refine qae 4 rfl fun K hK=>?_
 go_simp;go_at_fn 69
 refine c2.mono ?_;rintro e w1⟨rfl,rfl⟩;go_wp2_with fail;refine qaE hK hS ?_
 clear hK K;refine qae 6 rfl fun K hK=>?_
 go_simp;go_at_fn 69
 refine c3.mono ?_;rintro e w1⟨rfl,rfl⟩;go_wp2_with fail;refine qaE hK hS ?_
 clear hK K;refine qae 7 rfl fun K hK=>?_
 go_simp;go_at_call 72
 refine cS.mono ?_;rintro e w1⟨rfl,hb1⟩;go_wp2_with fail;refine qaE hK (hS.below hb1) ?_
 clear hK K;refine qai 8 3 (encS z) rfl rfl (Or.inl ⟨by rfl,fun w' _=>by go_simp⟩) (hS.below hb1) ?_
 refine wpAnyH_done (by kernel_rfl) ?_ _
 go_wp2_with fail;go_ret;exact⟨rfl,(Below.refl _ V).drew.trans hb1⟩
section
variable {W:World} {N B:Nat} {C:Option Addr} {c:Nat} {R:Option Addr} {d:Nat} {o:List UInt8} {st:Int} {t:List ND} {rd:Bool} {l args:List (List UInt8)} {inn:List UInt8}
theorem qrB (h:JobAt W N B C c R d o st t rd l inn) (hz:qaf l≤1099511627776):
  Calls prog 32 #[.pointer (some ⟨B,0,none⟩),encS [115,111,114,116]] W fun e w'=>qcf W N B C c o st t rd inn ((qab [114,117,110] [] l).ok=false) (qab [114,117,110] [] l).rest (fun s=>qnu s ((qab [114,117,110] [] l).out.contains 114) ((qab [114,117,110] [] l).out.contains 117) ((qab [114,117,110] [] l).out.contains 110)) e w':=by
 have cL:=qcb [114,117,110] (by decide) (by decide) h hz
 generalize qab [114,117,110] [] l=q at *;obtain⟨qo,qr,qk⟩:=q;unfold qbF at cL;simp only at cL ⊢
 clear h;go_enter func32,ntmps32;go_wp2_with fail;refine cL.mono ?_;rintro e w1 (⟨rfl,rfl,hk⟩|⟨rfl,rfl,⟨R',d',hJ⟩,hk⟩)
 ·go_wp2_with fail
  exact⟨rfl,hk,.inl ⟨by simp,rfl⟩⟩
 ·obtain⟨V1,hV1⟩:∃V,w1.alloc (.cells #[encS qo] 9)=V:=⟨_,rfl⟩
  have b1:V1.heap[w1.heap.size]?=some (.cells #[encS qo] 9 (0,0)):=by rw [← hV1];exact heap_alloc_new _ _
  have hb1:Below w1.heap.size w1 V1:=by rw [← hV1];exact(Below.refl _ _).alloc (Nat.le_refl _) _
  have HV:Hid (∃V0,V1.alloc (.cells #[.func (.func 69) #[] #[.pointer (some ⟨w1.heap.size,0,none⟩)]] 34)=V0∧Below w1.heap.size w1 V0∧V0.heap[w1.heap.size]?=some (.cells #[encS qo] 9 (0,0))∧V0.heap[V1.heap.size]?=some (.cells #[.func (.func 69) #[] #[.pointer (some ⟨w1.heap.size,0,none⟩)]] 34 (0,0))):=
   hid ⟨_,rfl,hb1.alloc hb1.size _,(Below.heap_alloc _ _ _ (by have:=lt_of_block b1;omega)).trans b1,heap_alloc_new _ _⟩
  have HJ:=hid hJ;have HK:=hid (And.intro hk hb1.size)
  clear b1 hb1 hJ hk cL;go_wp2_with fail;go_ret;obtain⟨V0,hV0,hb0,b1,b2⟩:=HV.out;rw [hV0];have hlt:B<w1.heap.size:=HJ.out.lt
  have hs:=HK.out.2;exact⟨HK.out.1.trans (Kept.of_below hb0),.inr ⟨by simp,_,_,rfl,enters_of func71 (by kernel_rfl) rfl,⟨_,_,HJ.out.below hb0⟩,fun V hk s hs=>
   qti w1.heap.size V1.heap.size qo V (cell_of_one (qbb b1 (by omega) hk)) (cell_of_one (qbb b2 (by omega) hk)) s (by omega)⟩⟩
theorem qvw (h:JobAt W N B C c R d [] 0 t false args inn) (hok:OkT t) (hz:qbj t) (hl:qaf args≤1100000) (hi:inn.length≤1100000):
  Calls prog 14 #[.pointer (some ⟨B,0,none⟩),encS [115,111,114,116]] W fun e w'=>qfp W N B t inn (qbc [115,111,114,116] args inn t) e w':=by
 have hs:=qa6 [114,117,110] args []
 refine qb1 _ (.inr (.inr (.inr (.inr (.inl rfl))))) hok hz _ _ _ (by simp at hs;omega) hi (qrB h (by omega)) _ (fun hb=>?_) (fun hb hk=>?_) (fun hb hk=>?_)
 all_goals show qct [115,111,114,116] t inn args=_;unfold qct qes;rw [show qbC [115,111,114,116]=[114,117,110] from rfl]
 ·rw [if_pos hb]
  rfl
 ·have h1:(qab [114,117,110] [] args).ok=true:=by simpa using hb
  rw [qbe h1] at hk;cases hk
 ·have h1:(qab [114,117,110] [] args).ok=true:=by simpa using hb
  rw [if_neg hb,qbe h1]
  rfl
end
theorem qnq (s:List UInt8) (w:World) (hs:s.length≤1099511627776):
  Calls prog 77 #[encS s] w fun e w'=>e=.returned (encS (qxy s))∧Below w.heap.size w w':=by
 have cL:=qeH ⟨s.toArray⟩ w (by rw [qic];exact hs)
 have hrl:=qxz s;obtain⟨hll,hxl⟩:=qeg _ s (Nat.le_refl _)
 have HU:=hid (show qxy s=qax ((qav s).map List.reverse) from rfl)
 rw [show(⟨s.toArray⟩:ByteArray).data.toList=s from rfl] at cL;have cT:=fun A c W h=>qlF 134 (enters_of func134 (by kernel_rfl) rfl) List.reverse A c (qav s) W h (by omega) (by rw [← HU.out];omega) (fun x hx W=>qtB x W (by have:=hxl x hx;omega))
 rw [← HU.out] at cT;generalize qav s=L at *;clear hrl hll hxl HU;go_enter func77,ntmps77;go_wp2_with fail;refine cL.mono ?_;rintro e w1⟨A,c,rfl,hown,hb1⟩;have HB1:=hid hb1;have cT:=cT A c w1 (qat.of_own (ls:=L) hown).any
 clear cL hb1 hown;go_wp2_with fail;refine cT.mono ?_;rintro e w2⟨rfl,hb2⟩;have HB2:=qH HB1 hb2;clear cT hb2;go_wp2_with fail;go_ret;exact⟨rfl,HB2.out⟩
end Go.Proofs.YtpodopnmkjinhaaGreatDoor
namespace Go.Proofs.YtpodopnmkjinhaaGreatDoor
open Go.Lib (hid)
open Go.RowKit Go.Sort
theorem qgH (zs:List (List UInt8)):∀m,m≤zs.length→Lib.compactUpTo zs.toArray m=qaI (zs.take m)
 |0,_=>by simp [Lib.compactUpTo,qaI]
 |1,h=>by
  rw [Lib.compactUpTo_succ,if_pos (Lib.keeps_lt_one _ 0 (by omega)),qdi zs 0 (by omega),List.take_succ_eq_append_getElem (by omega)];simp [Lib.compactUpTo,qaI]
 |m+2,h=>by
  rw [Lib.compactUpTo_succ,qgH zs (m+1) (by omega),qlP zs m (by omega),qdi zs (m+1) (by omega)];by_cases e:zs[m]=zs[m+1]
  ·rw [Lib.keeps_neg (by omega) (by rw [qdi zs (m+1) (by omega),Nat.add_sub_cancel,qdi zs m (by omega)];exact e.symm),if_pos e]
   simp
  ·rw [Lib.keeps_pos (by rw [qdi zs (m+1) (by omega),Nat.add_sub_cancel,qdi zs m (by omega)];exact fun h=>e h.symm),if_neg e]
   simp
theorem qpf (zs:List (List UInt8)):Lib.compact zs=qaI zs:=by
 unfold Lib.compact;rw [qgH zs zs.length (Nat.le_refl _),List.take_length]
theorem qrQ {w:World} (g q:Nat) (d:Array (List UInt8)):w.grownBy (putRow encStr (Go.Sort.ahead w q) g 0 d) (some g):=
 ⟨rfl,rfl,rfl,by rw [size_putRow];exact Nat.le_refl _,fun k hk hne=>by
  show((Go.Sort.ahead w q).heap.modify g _)[k]?=w.heap[k]?
  rw [Array.getElem?_modify,if_neg (fun e=>hne (by rw [e]))]
  rfl⟩
theorem qmI (A:Option Addr) (c N:Nat) (L:List (List UInt8)) (w:World) (h:w.ownsRow N 9 1 (.slice A L.length c) L.length (L.map encS)) (hl:L.length≤1099511627776) (hN:N≤w.heap.size):
  Calls prog 130 #[.slice A L.length c] w fun e w'=>e=.returned (.slice A (qaI L).length c)∧qat w' (fun _=>True) A (qaI L)∧Below N w w':=by
 rcases ql5 h with h0|⟨g,c',hv,hlc,hg,hgl⟩
 ·obtain rfl:L=[]:=List.eq_nil_of_length_eq_zero h0
  refine(Tryz.slices_Compact_string_empty A c w).mono ?_;rintro e w'⟨rfl,rfl⟩;exact⟨rfl,fun k hk=>absurd hk (Nat.not_lt_zero _),Below.refl _ _⟩
 ·cases hv
  have hH:Holds encStr w g 0 L.toArray:=fun j hj=>by
   have hj':j<L.length:=by simpa using hj
   rw [Nat.zero_add,qdi L j hj'];exact⟨by rw [h.cellAt j (by omega)];simp [hj'],h.frozenAt j⟩
  refine(Tryz.slices_Compact_string g 0 c L w hH (by omega) hlc).mono ?_
  rintro e w'⟨rfl,q,rfl⟩;rw [qpf];have hol:=qfO L;have hs:(qaI L++List.replicate (L.length-(qaI L).length) []).toArray.size=L.toArray.size:=by simp;omega
  have hP:=holds_putRow encStr (Go.Sort.ahead w q) g 0 L.toArray _ (fun j hj=>hH j hj) hs
  refine⟨rfl,fun k hk=>⟨g,0,rfl,trivial,?_⟩,qfe (qrQ g q _) hg hN⟩
  have hk2:k<(qaI L++List.replicate (L.length-(qaI L).length) []).length:=by rw [List.length_append];omega
  have hc:=(hP k (by simpa using hk2)).1
  rw [qdi _ k hk2,List.getElem_append_left hk] at hc;exact hc
theorem qs9 (x:List UInt8) (w:World):Calls prog 131 (#[encS x]++#[]) w fun e w'=>e=.returned (encS (id x))∧Below w.heap.size w w':=by
 go_enter func131,ntmps131;go_wp2_with fail;go_ret;exact⟨rfl,Below.refl _ _⟩
theorem qv2 (s:List UInt8) (w:World) (hs:s.length≤1099511627775):
  Calls prog 73 #[encS s] w fun e w'=>e=.returned (encS (qkD s))∧Below w.heap.size w w':=by
 have cL:=qeH ⟨s.toArray⟩ w (by rw [qic];omega)
 rw [show(⟨s.toArray⟩:ByteArray).data.toList=s from rfl] at cL;obtain⟨hll,-⟩:=qeg _ s (Nat.le_refl _)
 have hjl:=(qfH _ s (Nat.le_refl _)).2
 have HU:=hid (show qkD s=qax (qaI (qav s)) from rfl)
 generalize qkD s=q at *;generalize qav s=L at *;have hj2:=qih L;have hol:=qfO L;have cT:=fun A c W h=>qlF 131 (enters_of func131 (by kernel_rfl) rfl) id A c (qaI L) W h (by omega) (by rw [List.map_id];omega) (fun x _ W=>qs9 x W)
 rw [List.map_id,← HU.out] at cT;have cC:=fun A c W h hN=>qmI A c w.heap.size L W h (by omega) hN
 generalize qaI L=M at *;clear hll hjl hj2 hol;go_enter func73,ntmps73;go_wp2_with fail;refine cL.mono ?_;rintro e w1⟨A,c,rfl,hown,hb1⟩;have HB1:=hid hb1;have cC:=cC A c w1 hown hb1.size;clear cL hb1 hown;go_wp2_with fail;refine cC.mono ?_;rintro e w2⟨rfl,hT2,hb2⟩;have HB2:=hid (HB1.out.trans hb2)
 have cT:=cT A c w2 hT2;clear cC hb2 hT2;go_wp2_with fail;refine cT.mono ?_;rintro e w3⟨rfl,hb3⟩;have HB3:=qH HB2 hb3;clear cT hb3;go_wp2_with fail;go_ret;exact⟨rfl,HB3.out⟩
end Go.Proofs.YtpodopnmkjinhaaGreatDoor
namespace Go.Proofs.YtpodopnmkjinhaaGreatDoor
open Go.Lib (hid)
open Go.RowKit
section
variable {W:World} {N B:Nat} {C:Option Addr} {c:Nat} {R:Option Addr} {d:Nat} {o:List UInt8} {st:Int} {t:List ND} {rd:Bool} {l args:List (List UInt8)} {inn:List UInt8}
theorem quC (h:JobAt W N B C c R d o st t rd l inn):
  Calls prog 32 #[.pointer (some ⟨B,0,none⟩),encS [114,101,118]] W fun e w'=>qcf W N B C c o st t rd inn False l qxy e w':=by
 have H:=hid h;clear h;have cF:∀(s:List UInt8) V,s.length≤137438953472→Calls prog 77 (#[encS s]++#[]) V fun e v=>e=.returned (encS (qxy s))∧Below V.heap.size V v:=fun s V hs=>qnq s V (by omega)
 have HF:=hid cF;clear cF;go_enter func32,ntmps32;go_wp2_with fail;go_ret;exact⟨Kept.refl _ _,.inr ⟨fun h=>h,_,_,rfl,enters_of func77 (by kernel_rfl) rfl,⟨_,_,H.out⟩,fun V _ s hs=>HF.out s V hs⟩⟩
theorem qrD (h:JobAt W N B C c R d o st t rd l inn):
  Calls prog 32 #[.pointer (some ⟨B,0,none⟩),encS [117,110,105,113]] W fun e w'=>qcf W N B C c o st t rd inn False l qkD e w':=by
 have H:=hid h;clear h;have cF:∀(s:List UInt8) V,s.length≤137438953472→Calls prog 73 (#[encS s]++#[]) V fun e v=>e=.returned (encS (qkD s))∧Below V.heap.size V v:=fun s V hs=>qv2 s V (by omega)
 have HF:=hid cF;clear cF;go_enter func32,ntmps32;go_wp2_with fail;go_ret;exact⟨Kept.refl _ _,.inr ⟨fun h=>h,_,_,rfl,enters_of func73 (by kernel_rfl) rfl,⟨_,_,H.out⟩,fun V _ s hs=>HF.out s V hs⟩⟩
theorem qxL (h:JobAt W N B C c R d [] 0 t false args inn) (hok:OkT t) (hz:qbj t) (hl:qaf args≤1100000) (hi:inn.length≤1100000):
  Calls prog 14 #[.pointer (some ⟨B,0,none⟩),encS [114,101,118]] W fun e w'=>qfp W N B t inn (qbc [114,101,118] args inn t) e w':=by
 refine qb1 _ (.inr (.inr (.inr (.inr (.inr (.inr (.inr rfl))))))) hok hz _ _ _ hl hi (quC h) _ (fun h=>h.elim) (fun _ hk=>?_) (fun _ hk=>?_)
 ·show qct [114,101,118] t inn args=_
  unfold qct qes;rw [show qbC [114,101,118]=[] from rfl,hk,if_pos rfl]
  rfl
 ·show qct [114,101,118] t inn args=_
  unfold qct qes;rw [show qbC [114,101,118]=[] from rfl,hk,if_neg (by decide)]
  rfl
theorem qvA (h:JobAt W N B C c R d [] 0 t false args inn) (hok:OkT t) (hz:qbj t) (hl:qaf args≤1100000) (hi:inn.length≤1100000):
  Calls prog 14 #[.pointer (some ⟨B,0,none⟩),encS [117,110,105,113]] W fun e w'=>qfp W N B t inn (qbc [117,110,105,113] args inn t) e w':=by
 refine qb1 _ (.inr (.inr (.inr (.inr (.inr (.inl rfl)))))) hok hz _ _ _ hl hi (qrD h) _ (fun h=>h.elim) (fun _ hk=>?_) (fun _ hk=>?_)
 ·show qct [117,110,105,113] t inn args=_
  unfold qct qes;rw [show qbC [117,110,105,113]=[] from rfl,hk,if_pos rfl]
  rfl
 ·show qct [117,110,105,113] t inn args=_
  unfold qct qes;rw [show qbC [117,110,105,113]=[] from rfl,hk,if_neg (by decide)]
  rfl
end
theorem qyZ {V:World} {B j p r:Nat} {inn a b:List UInt8} (c0:V.cell? ⟨j,0,none⟩=some (.pointer (some ⟨B,0,none⟩))) (c1:V.cell? ⟨B,6,none⟩=some (encS inn)) (c2:V.cell? ⟨p,0,none⟩=some (encS a)) (c3:V.cell? ⟨r,0,none⟩=some (encS b)) (hi:inn.length≤1100000) (ha:a.length≤1100000) (hb:b.length≤1100000):
  Calls prog 82 (#[]++#[.pointer (some ⟨j,0,none⟩),.pointer (some ⟨p,0,none⟩),.pointer (some ⟨r,0,none⟩)]) V fun e v=>e=.returned (.tuple #[encS (qe5 inn a b).1,.bool (qe5 inn a b).2])∧Below V.heap.size V v:=by
 have cT:=qkB inn a b V.drew (by omega) (by omega) (by omega)
 have hS:Cells [(⟨j,0,none⟩,.pointer (some ⟨B,0,none⟩)),(⟨B,6,none⟩,encS inn),(⟨p,0,none⟩,encS a),(⟨r,0,none⟩,encS b)] V.drew:=fun z hz=>by
  rcases List.mem_cons.1 hz with rfl|hz
  ·exact c0
  rcases List.mem_cons.1 hz with rfl|hz
  ·exact c1
  rcases List.mem_cons.1 hz with rfl|hz
  ·exact c2
  rcases List.mem_cons.1 hz with rfl|hz
  ·exact c3
  ·cases hz
 generalize qe5 inn a b=q at *;obtain⟨q1,q2⟩:=q;simp only at cT ⊢
 show Calls _ _ #[.pointer (some ⟨j,0,none⟩),.pointer (some ⟨p,0,none⟩),.pointer (some ⟨r,0,none⟩)] _ _
 clear c0 c1 c2 c3;go_enter func82,ntmps82;go_wp2_with fail;refine wp_region_held_drew (S:=Cells [(⟨j,0,none⟩,.pointer (some ⟨B,0,none⟩)),(⟨B,6,none⟩,encS inn),(⟨p,0,none⟩,encS a),(⟨r,0,none⟩,encS b)]) (by kernel_rfl) hS (fun _=>?_)
 -- REGION1
 refine qai 0 5 (.pointer (some ⟨B,0,none⟩)) rfl rfl (Or.inl ⟨by rfl,fun w' hS'=>by have s0:=hS' _ (.head _);dsimp only at s0;go_simp⟩) hS ?_
 refine qaa 1 6 (.pointer (some ⟨B,0,none⟩)) rfl rfl hS ?_
 refine qaa 2 7 (.pointer (some ⟨B,6,none⟩)) rfl rfl hS ?_
 refine qai 3 8 (encS inn) rfl rfl (Or.inl ⟨by rfl,fun w' hS'=>by have s1:=hS' _ (.tail _ (.head _));dsimp only at s1;go_simp⟩) hS ?_
 refine qai 4 9 (encS a) rfl rfl (Or.inl ⟨by rfl,fun w' hS'=>by have s2:=hS' _ (.tail _ (.tail _ (.head _)));dsimp only at s2;go_simp⟩) hS ?_
 refine qai 5 10 (encS b) rfl rfl (Or.inl ⟨by rfl,fun w' hS'=>by have s3:=hS' _ (.tail _ (.tail _ (.tail _ (.head _))));dsimp only at s3;go_simp⟩) hS ?_
 refine qae 6 rfl fun K hK=>?_
 go_simp;go_at_call 83
 refine cT.mono ?_;rintro e w2⟨rfl,hb1⟩;have hS1:=hS.below hb1;go_wp2_with fail;refine qaE hK hS1 ?_
 clear hK K;refine qaa 7 12 (encS q1) rfl rfl hS1 ?_
 refine qaa 8 13 (.bool q2) rfl rfl hS1 ?_
 refine qaa 9 3 (encS q1) rfl rfl hS1 ?_
 refine qaa 10 4 (.bool q2) rfl rfl hS1 ?_
 refine wpAnyH_done (by kernel_rfl) ?_ _
 clear hS hS1;go_wp2_with fail;go_ret2;exact⟨rfl,(Below.refl _ V).drew.trans hb1⟩
 -- END1
theorem qy0 {V:World} {B j r:Nat} {inn b:List UInt8} (c0:V.cell? ⟨j,0,none⟩=some (.pointer (some ⟨B,0,none⟩))) (c1:V.cell? ⟨B,6,none⟩=some (encS inn)) (c3:V.cell? ⟨r,0,none⟩=some (encS b)) (hi:inn.length≤1100000) (hb:b.length≤1100000):
  Calls prog 84 (#[]++#[.pointer (some ⟨j,0,none⟩),.pointer (some ⟨r,0,none⟩)]) V fun e v=>e=.returned (.tuple #[encS (qtQ inn b).1,.bool (qtQ inn b).2])∧Below V.heap.size V v:=by
 have cT:=qpn inn b V.drew (by omega) (by omega)
 have hS:Cells [(⟨j,0,none⟩,.pointer (some ⟨B,0,none⟩)),(⟨B,6,none⟩,encS inn),(⟨r,0,none⟩,encS b)] V.drew:=fun z hz=>by
  rcases List.mem_cons.1 hz with rfl|hz
  ·exact c0
  rcases List.mem_cons.1 hz with rfl|hz
  ·exact c1
  rcases List.mem_cons.1 hz with rfl|hz
  ·exact c3
  ·cases hz
 generalize qtQ inn b=q at *;obtain⟨q1,q2⟩:=q;simp only at cT ⊢
 show Calls _ _ #[.pointer (some ⟨j,0,none⟩),.pointer (some ⟨r,0,none⟩)] _ _
 clear c0 c1 c3;go_enter func84,ntmps84;go_wp2_with fail;refine wp_region_held_drew (S:=Cells [(⟨j,0,none⟩,.pointer (some ⟨B,0,none⟩)),(⟨B,6,none⟩,encS inn),(⟨r,0,none⟩,encS b)]) (by kernel_rfl) hS (fun _=>?_)
 -- REGION2
 refine qai 0 4 (.pointer (some ⟨B,0,none⟩)) rfl rfl (Or.inl ⟨by rfl,fun w' hS'=>by have s0:=hS' _ (.head _);dsimp only at s0;go_simp⟩) hS ?_
 refine qaa 1 5 (.pointer (some ⟨B,0,none⟩)) rfl rfl hS ?_
 refine qaa 2 6 (.pointer (some ⟨B,6,none⟩)) rfl rfl hS ?_
 refine qai 3 7 (encS inn) rfl rfl (Or.inl ⟨by rfl,fun w' hS'=>by have s1:=hS' _ (.tail _ (.head _));dsimp only at s1;go_simp⟩) hS ?_
 refine qai 4 8 (encS b) rfl rfl (Or.inl ⟨by rfl,fun w' hS'=>by have s2:=hS' _ (.tail _ (.tail _ (.head _)));dsimp only at s2;go_simp⟩) hS ?_
 refine qae 5 rfl fun K hK=>?_
 go_simp;go_at_call 85
 refine cT.mono ?_;rintro e w2⟨rfl,hb1⟩;have hS1:=hS.below hb1;go_wp2_with fail;refine qaE hK hS1 ?_
 clear hK K;refine qaa 6 10 (encS q1) rfl rfl hS1 ?_
 refine qaa 7 11 (.bool q2) rfl rfl hS1 ?_
 refine qaa 8 2 (encS q1) rfl rfl hS1 ?_
 refine qaa 9 3 (.bool q2) rfl rfl hS1 ?_
 refine wpAnyH_done (by kernel_rfl) ?_ _
 clear hS hS1;go_wp2_with fail;go_ret2;exact⟨rfl,(Below.refl _ V).drew.trans hb1⟩
 -- END2
def qkV (W:World) (N B:Nat) (C:Option Addr) (c:Nat) (o:List UInt8) (st:Int) (t:List ND) (inn:List UInt8) (q:List UInt8×Bool) (e:Ending) (w':World):Prop:=
 Kept B W w'∧((q.2=false∧e=.panicked [qbH 2 0])∨(q.2=true∧e=.returned (encS q.1)∧∃R' d',JobAt w' N B C c R' d' o st t true [] inn))
section
variable {W:World} {N B:Nat} {C:Option Addr} {c:Nat} {R:Option Addr} {d:Nat} {o:List UInt8} {st:Int} {t:List ND} {rd:Bool} {l:List (List UInt8)} {inn:List UInt8}
theorem qcD (w:World) (v:Value) (T:TypeId):(w.alloc (.cells #[v] T)).cell? ⟨w.heap.size,0,none⟩=some v:=cell_of_one (heap_alloc_new w _)
theorem qb3 {B:Nat} {w w':World} {a:Addr} {v:Value} (k:Kept B w w') (h:w.cell? a=some v) (hb:a.block≠B):w'.cell? a=some v:=(World.cell?_of_block (w:=w) (k.block _ (World.block_lt_of_cell? _ _ h) hb)).trans h
theorem qyY (h:JobAt W N B C c R d o st t rd [] inn):
  Calls prog 35 #[.pointer (some ⟨B,0,none⟩)] W fun e w'=>qkV W N B C c o st t inn (qcs inn []) e w':=by
 obtain⟨V,hV⟩:=qQ (W.alloc (.cells #[.pointer (some ⟨B,0,none⟩)] 53))
 have hb:=(Below.refl W.heap.size W).alloc (Nat.le_refl _) (.cells #[.pointer (some ⟨B,0,none⟩)] 53)
 have k0:=qcD W (.pointer (some ⟨B,0,none⟩)) 53
 rw [hV] at hb k0;have HK:=hid (Kept.of_below (B:=B) hb)
 have cN:=qch (h.below hb)
 clear h hb;go_enter func35,ntmps35;go_wp2_with fail;refine cN.mono ?_;rintro e w1⟨rfl,rfl⟩;go_wp2_with fail;exact⟨rfl,HK.out,.inl ⟨rfl,rfl⟩⟩
theorem qnE {a:List UInt8} (h:JobAt W N B C c R d o st t rd [a] inn):
  Calls prog 35 #[.pointer (some ⟨B,0,none⟩)] W fun e w'=>qkV W N B C c o st t inn (qcs inn [a]) e w':=by
 obtain⟨V,hV⟩:=qQ (W.alloc (.cells #[.pointer (some ⟨B,0,none⟩)] 53))
 have hb:=(Below.refl W.heap.size W).alloc (Nat.le_refl _) (.cells #[.pointer (some ⟨B,0,none⟩)] 53)
 have k0:=qcD W (.pointer (some ⟨B,0,none⟩)) 53
 rw [hV] at hb k0;have HK:=hid (Kept.of_below (B:=B) hb)
 have HB:=hid (show B<W.heap.size from h.lt)
 have cN:=qaz (h.below hb) (by simp;try omega)
 clear h hb;go_enter func35,ntmps35;go_wp2_with fail;refine cN.mono ?_;rintro e w1⟨rfl,⟨R1,d1,hJ⟩,hk⟩;have k0:=qb3 hk k0 (by have:=HB.out;show W.heap.size≠B;omega)
 obtain⟨V1,hV1⟩:∃V,w1.alloc (.cells #[encS a] 9)=V:=⟨_,rfl⟩
 have hb:=(Below.refl w1.heap.size w1).alloc (Nat.le_refl _) (.cells #[encS a] 9)
 have k1:=qcD w1 (encS a) 9
 rw [hV1] at hb k1;have k0:=cell_below hb k0;have hn:w1.heap.size≠B:=by have:=hJ.lt;omega
 have HK:=hid (HK.out.trans (hk.trans (Kept.of_below hb)))
 have hJ:=hJ.below hb;clear hb hk cN;have cN:=qch hJ;go_wp2_with fail;refine cN.mono ?_;rintro e w2⟨rfl,rfl⟩;go_wp2_with fail;exact⟨rfl,HK.out,.inl ⟨rfl,rfl⟩⟩
theorem qx1 {a b x:List UInt8} {r:List (List UInt8)} (h:JobAt W N B C c R d o st t rd (a::b::x::r) inn) (hr:r.length≤1000000000):
  Calls prog 35 #[.pointer (some ⟨B,0,none⟩)] W fun e w'=>qkV W N B C c o st t inn (qcs inn (a::b::x::r)) e w':=by
 obtain⟨V,hV⟩:=qQ (W.alloc (.cells #[.pointer (some ⟨B,0,none⟩)] 53))
 have hb:=(Below.refl W.heap.size W).alloc (Nat.le_refl _) (.cells #[.pointer (some ⟨B,0,none⟩)] 53)
 have k0:=qcD W (.pointer (some ⟨B,0,none⟩)) 53
 rw [hV] at hb k0;have HK:=hid (Kept.of_below (B:=B) hb)
 have HB:=hid (show B<W.heap.size from h.lt)
 have cN:=qaz (h.below hb) (by simp;omega)
 clear h hb;go_enter func35,ntmps35;go_wp2_with fail;refine cN.mono ?_;rintro e w1⟨rfl,⟨R1,d1,hJ⟩,hk⟩;have k0:=qb3 hk k0 (by have:=HB.out;show W.heap.size≠B;omega)
 obtain⟨V1,hV1⟩:∃V,w1.alloc (.cells #[encS a] 9)=V:=⟨_,rfl⟩
 have hb:=(Below.refl w1.heap.size w1).alloc (Nat.le_refl _) (.cells #[encS a] 9)
 have k1:=qcD w1 (encS a) 9
 rw [hV1] at hb k1;have k0:=cell_below hb k0;have hn:w1.heap.size≠B:=by have:=hJ.lt;omega
 have HK:=hid (HK.out.trans (hk.trans (Kept.of_below hb)))
 have hJ:=hJ.below hb;clear hb hk cN;have cN:=qaz hJ (by simp;omega)
 clear hJ;go_wp2_with fail;refine cN.mono ?_;rintro e w2⟨rfl,⟨R2,d2,hJ⟩,hk⟩;have k0:=qb3 hk k0 (by have:=HB.out;show W.heap.size≠B;omega)
 have k1:=qb3 hk k1 hn;obtain⟨V2,hV2⟩:∃V,w2.alloc (.cells #[encS b] 9)=V:=⟨_,rfl⟩
 have hb:=(Below.refl w2.heap.size w2).alloc (Nat.le_refl _) (.cells #[encS b] 9)
 have k2:=qcD w2 (encS b) 9
 rw [hV2] at hb k2;have k0:=cell_below hb k0;have k1:=cell_below hb k1;have hm:w2.heap.size≠B:=by have:=hJ.lt;omega
 have HK:=hid (HK.out.trans (hk.trans (Kept.of_below hb)))
 have hJ:=hJ.below hb;clear hb hk cN;have cE:=qg8 hJ;clear hJ;go_wp2_with fail;refine cE.mono ?_;rintro e w3⟨rfl,rfl⟩;go_wp2_with fail;exact⟨rfl,HK.out,.inl ⟨rfl,rfl⟩⟩
theorem qmo {a b:List UInt8} (h:JobAt W N B C c R d o st t rd [a,b] inn) (hi:inn.length≤1100000) (ha:a.length≤1100000) (hb:b.length≤1100000):
  Calls prog 35 #[.pointer (some ⟨B,0,none⟩)] W fun e w'=>qkV W N B C c o st t inn (qcs inn [a,b]) e w':=by
 obtain⟨q,hq⟩:=qQ (qcs inn [a,b])
 rw [hq];have hq1:a=[45,100]→qtQ inn b=q:=fun e=>by subst e;exact hq
 have hq2:a≠[45,100]→qe5 inn a b=q:=fun e=>by rw [← hq];unfold qcs;simp only [if_neg e]
 obtain⟨q1,q2⟩:=q;have HS:=hid (And.intro hi (And.intro ha (And.intro hb (And.intro hq1 hq2))))
 clear hi ha hb hq hq1 hq2;obtain⟨V,hV⟩:=qQ (W.alloc (.cells #[.pointer (some ⟨B,0,none⟩)] 53))
 have hb:=(Below.refl W.heap.size W).alloc (Nat.le_refl _) (.cells #[.pointer (some ⟨B,0,none⟩)] 53)
 have k0:=qcD W (.pointer (some ⟨B,0,none⟩)) 53
 rw [hV] at hb k0;have HK:=hid (Kept.of_below (B:=B) hb)
 have HB:=hid (show B<W.heap.size from h.lt)
 have cN:=qaz (h.below hb) (by simp;try omega)
 clear h hb;go_enter func35,ntmps35;go_wp2_with fail;refine cN.mono ?_;rintro e w1⟨rfl,⟨R1,d1,hJ⟩,hk⟩;have k0:=qb3 hk k0 (by have:=HB.out;show W.heap.size≠B;omega)
 obtain⟨V1,hV1⟩:∃V,w1.alloc (.cells #[encS a] 9)=V:=⟨_,rfl⟩
 have hb:=(Below.refl w1.heap.size w1).alloc (Nat.le_refl _) (.cells #[encS a] 9)
 have k1:=qcD w1 (encS a) 9
 rw [hV1] at hb k1;have k0:=cell_below hb k0;have hn:w1.heap.size≠B:=by have:=hJ.lt;omega
 have HK:=hid (HK.out.trans (hk.trans (Kept.of_below hb)))
 have hJ:=hJ.below hb;clear hb hk cN;have cN:=qaz hJ (by simp)
 clear hJ;go_wp2_with fail;refine cN.mono ?_;rintro e w2⟨rfl,⟨R2,d2,hJ⟩,hk⟩;have k0:=qb3 hk k0 (by have:=HB.out;show W.heap.size≠B;omega)
 have k1:=qb3 hk k1 hn;obtain⟨V2,hV2⟩:∃V,w2.alloc (.cells #[encS b] 9)=V:=⟨_,rfl⟩
 have hb:=(Below.refl w2.heap.size w2).alloc (Nat.le_refl _) (.cells #[encS b] 9)
 have k2:=qcD w2 (encS b) 9
 rw [hV2] at hb k2;have k0:=cell_below hb k0;have k1:=cell_below hb k1;have hm:w2.heap.size≠B:=by have:=hJ.lt;omega
 have HK:=hid (HK.out.trans (hk.trans (Kept.of_below hb)))
 have hJ:=hJ.below hb;clear hb hk cN;have cE:=qhJ hJ;have HJ:=hid hJ;clear hJ;go_wp2_with fail;refine cE.mono ?_;rintro e w3⟨rfl,rfl⟩;clear cE;have c6:=HJ.out.cells.2.2.2.2.2.2;by_cases h0:a=[45,100]
 ·have cF:=qy0 k0 c6 k2 HS.out.1 HS.out.2.2.1
  rw [HS.out.2.2.2.1 h0] at cF;subst h0;simp only at cF
  clear c6;go_wp2_with fail;refine cF.mono ?_;rintro e w3⟨rfl,hb⟩;have k0:=cell_below hb k0;have HK:=hid (HK.out.trans (Kept.of_below hb))
  have HJ:=hid (HJ.out.below hb)
  clear cF hb k1 k2;cases q2 with
  |false=>
   go_wp2_with fail;refine(qau _).mono ?_;rintro e w4⟨rfl,rfl⟩;go_wp2_with fail;exact⟨rfl,HK.out,.inl ⟨rfl,rfl⟩⟩
  |true=>
   have x4:=HJ.out.cells.2.2.2.2.1;have f4:=HJ.out.free 4;go_wp2_with fail;refine(qay _).mono ?_;rintro e w4⟨rfl,rfl⟩;go_wp2_with fail;go_ret;exact⟨HK.out.setCell _ _,.inr ⟨rfl,rfl,_,_,HJ.out.set4 true⟩⟩
 ·have cF:=qyZ k0 c6 k1 k2 HS.out.1 HS.out.2.1 HS.out.2.2.1
  rw [HS.out.2.2.2.2 h0] at cF;have h1:(a==([45,100]:List UInt8))=false:=by simpa using h0
  clear h0;simp only at cF
  clear c6;go_wp2_with fail;refine cF.mono ?_;rintro e w3⟨rfl,hb⟩;have k0:=cell_below hb k0;have HK:=hid (HK.out.trans (Kept.of_below hb))
  have HJ:=hid (HJ.out.below hb)
  clear cF hb k1 k2;cases q2 with
  |false=>
   go_wp2_with fail;refine(qau _).mono ?_;rintro e w4⟨rfl,rfl⟩;go_wp2_with fail;exact⟨rfl,HK.out,.inl ⟨rfl,rfl⟩⟩
  |true=>
   have x4:=HJ.out.cells.2.2.2.2.1;have f4:=HJ.out.free 4;go_wp2_with fail;refine(qay _).mono ?_;rintro e w4⟨rfl,rfl⟩;go_wp2_with fail;go_ret;exact⟨HK.out.setCell _ _,.inr ⟨rfl,rfl,_,_,HJ.out.set4 true⟩⟩
end
theorem qhr:∀(l:List (List UInt8)) (x:List UInt8),qbn (l++[x])=if l=[] then x else qbn l++32::x
 |[],x=>by simp [qbn]
 |y::r,x=>by simp [qbn]
theorem qey:∀l:List (List UInt8),(qbn l).length≤qaf l
 |[]=>Nat.zero_le _
 |x::r=>by
  have h:∀r:List (List UInt8),(r.flatMap fun y=>32::y).length=qaf r:=fun r=>by
   induction r with
   |nil=>rfl
   |cons y r ih=>
    simp only [List.flatMap_cons,List.length_append,List.length_cons,qaf,List.map_cons,List.sum_cons] at ih ⊢
    omega
  have:=h r
  simp only [qbn,List.length_append,qaf,List.map_cons,List.sum_cons] at this ⊢
  omega
theorem qdO (l:List (List UInt8)) (k:Nat):qaf (l.take k)≤qaf l:=by
 have e:qaf l=qaf (l.take k)+qaf (l.drop k):=by
  unfold qaf;rw [← List.sum_append,← List.map_append,List.take_append_drop]
 omega
theorem qup (A:Option Addr) (c:Nat) (l:List (List UInt8)) (w:World) (hT:qat w (fun _=>True) A l) (hc:l.length≤c) (hz:qaf l≤1099511627776):
  Calls prog 27 #[.slice A l.length c] w fun e w'=>e=.returned (encS (echoL l))∧Below w.heap.size w w':=by
 obtain⟨N,hN⟩:=qQ (w.heap.size)
 have HN:=hid hN;have HI:Hid (Bld 71 N N 0 #[.pointer none,.slice none 0 0] [] (w.alloc (.cells #[.pointer none,.slice none 0 0] 71))∧Below N w (w.alloc (.cells #[.pointer none,.slice none 0 0] 71))):=
  hid ⟨qb9 71 _ N N 0 _ (by decide) (Nat.le_refl _) (by rw [← hN];exact heap_alloc_new _ _) rfl rfl,by rw [← hN];exact(Below.refl _ _).alloc (Nat.le_refl _) _⟩
 have hcase:(l=[]∧echoL l=qbn l++[10])∨(∃a r,l=a::r∧a=[45,110]∧echoL l=qbn r++[])∨(∃a r,l=a::r∧a≠[45,110]∧echoL l=qbn l++[10]):=by
  cases l with
  |nil=>exact .inl ⟨rfl,rfl⟩
  |cons a r=>
   by_cases h:a=[45,110]
   ·exact .inr (.inl ⟨a,r,rfl,h,by simp [echoL,h]⟩)
   ·exact .inr (.inr ⟨a,r,rfl,h,by simp [echoL,h]⟩)
 have hll:=qaG l;have hlb:l.length≤1099511627776:=by omega
 rcases hcase with ⟨h0,he⟩|⟨a,r,hl,ha,he⟩|⟨a,r,hl,ha,he⟩
 ·subst h0
  have HE:=hid he;clear he hT;go_enter func27,ntmps27;go_wp2_with fail;go_loopw [20] (fun vi wr=>∃(k:Nat) (acc:List UInt8) (p v:Value),k≤([]:List (List UInt8)).length∧vi=.int .i64 k∧Hid (Bld 71 N N 0 #[p,v] acc wr)∧Hid (acc=qbn (([]:List (List UInt8)).take k))∧Hid (Below N w wr)) (fun vi _=>([]:List (List UInt8)).length-(intOf vi).toNat)
  case atStart=>exact⟨0,[],_,_,Nat.zero_le _,rfl,hid HI.out.1,hid (by simp [qbn]),hid HI.out.2⟩
  case round=>
   obtain⟨k,acc,p,v,hk,rfl,HB,HA,HW⟩:=hrel;clear HI;have hal:acc.length≤1099511627776:=by
    rw [HA.out];have h1:=qey (([]:List (List UInt8)).take k)
    have h2:=qdO ([]:List (List UInt8)) k
    omega
   have hNw:N≤wr.heap.size:=by have:=HW.out.size;omega
   obtain rfl:k=([]:List (List UInt8)).length:=by simp at hk ⊢;exact hk
   rw [List.take_length] at HA;have HV:Hid (echoL ([]:List (List UInt8))=acc++[10]):=hid (by rw [HE.out,HA.out])
   have cS:=qa4 71 N N 0 #[p,v] acc [10] wr qb4 HB.out (by simp only [List.length_cons,List.length_nil];omega) hNw
   clear HB HA HE;go_wp2_with fail;refine cS.mono ?_;rintro e w2⟨rfl,⟨v',hB2⟩,hbe⟩;have hN2:N≤w2.heap.size:=by have:=hbe.size;omega
   have cT:=qaN 71 N N 0 _ (acc++[10]) w2 hB2
   have HW2:=hid (HW.out.trans (hbe.below (Nat.le_refl _) hNw))
   clear hB2 hbe cS HW;go_wp2_with fail;refine cT.mono ?_;rintro e w3⟨rfl,-,hbe⟩;have HW3:=hid (HW2.out.trans (hbe.below (Nat.le_refl _) hN2))
   clear hbe cT HW2;go_wp2_with fail;go_ret;exact⟨by rw [HV.out];rfl,by rw [HN.out];exact HW3.out⟩
 all_goals
  have hl0:(0:Int)<(l.length:Int):=by rw [hl];simp
  have hs0:0<l.length:=by rw [hl];simp
  obtain⟨g,o,rfl,-,hc0⟩:=hT 0 hs0;have hla:l[0]=a:=by simp only [hl,List.getElem_cons_zero]
  rw [hla] at hc0;simp only [Nat.add_zero] at hc0
 ·have hrl:l.length=r.length+1:=by rw [hl];rfl
  have HTw:Hid (qat w (fun _=>True) (some ⟨g,o+1,none⟩) r):=hid fun k hk=>by
   obtain⟨g2,o2,e,-,h⟩:=hT (k+1) (by omega)
   cases e
   refine⟨g,o+1,rfl,trivial,?_⟩
   have e1:l[k+1]=r[k]:=by simp only [hl,List.getElem_cons_succ]
   rw [e1] at h;rw [show o+1+k=o+(k+1) by omega];exact h
  have hzr:qaf r≤1099511627776:=by
   have:qaf l=a.length+1+qaf r:=by rw [hl];simp [qaf]
   omega
  have HE:=hid he;have hrb:r.length≤1099511627776:=by omega
  subst ha;clear he hl hT hla hs0 hz hll;by_cases hc1:c=1
  ·have hr0:r=[]:=List.eq_nil_of_length_eq_zero (by omega)
   subst hr0;subst hc1;clear HTw;go_enter func27,ntmps27;go_wp2_with fail;go_loopw [20] (fun vi wr=>∃(k:Nat) (acc:List UInt8) (p v:Value),k≤([]:List (List UInt8)).length∧vi=.int .i64 k∧Hid (Bld 71 N N 0 #[p,v] acc wr)∧Hid (acc=qbn (([]:List (List UInt8)).take k))∧Hid (Below N w wr)) (fun vi _=>([]:List (List UInt8)).length-(intOf vi).toNat)
   case atStart=>exact⟨0,[],_,_,Nat.zero_le _,rfl,hid HI.out.1,hid (by simp [qbn]),hid HI.out.2⟩
   case round=>
    obtain⟨k,acc,p,v,hk,rfl,HB,HA,HW⟩:=hrel;clear HI;have hal:acc.length≤1099511627776:=by
     rw [HA.out];have h1:=qey (([]:List (List UInt8)).take k)
     have h2:=qdO ([]:List (List UInt8)) k
     omega
    have hNw:N≤wr.heap.size:=by have:=HW.out.size;omega
    obtain rfl:k=([]:List (List UInt8)).length:=by simp at hk ⊢;exact hk
    rw [List.take_length] at HA;have HV:Hid (echoL l=acc++[]):=hid (by rw [HE.out,HA.out])
    have cS:=qa4 71 N N 0 #[p,v] acc [] wr qb4 HB.out (by simp only [List.length_cons,List.length_nil];omega) hNw
    clear HB HA HE;go_wp2_with fail;refine cS.mono ?_;rintro e w2⟨rfl,⟨v',hB2⟩,hbe⟩;have hN2:N≤w2.heap.size:=by have:=hbe.size;omega
    have cT:=qaN 71 N N 0 _ (acc++[]) w2 hB2
    have HW2:=hid (HW.out.trans (hbe.below (Nat.le_refl _) hNw))
    clear hB2 hbe cS HW;go_wp2_with fail;refine cT.mono ?_;rintro e w3⟨rfl,-,hbe⟩;have HW3:=hid (HW2.out.trans (hbe.below (Nat.le_refl _) hN2))
    clear hbe cT HW2;go_wp2_with fail;go_ret;exact⟨by rw [HV.out,List.append_nil];rfl,by rw [HN.out];exact HW3.out⟩
  ·skip
   go_enter func27,ntmps27;go_wp2_with fail;clear hrl;go_loopw [20] (fun vi wr=>∃(k:Nat) (acc:List UInt8) (p v:Value),k≤r.length∧vi=.int .i64 k∧Hid (Bld 71 N N 0 #[p,v] acc wr)∧Hid (acc=qbn (r.take k))∧Hid (Below N w wr)) (fun vi _=>r.length-(intOf vi).toNat)
   case atStart=>exact⟨0,[],_,_,Nat.zero_le _,rfl,hid HI.out.1,hid (by simp [qbn]),hid HI.out.2⟩
   case round=>
    obtain⟨k,acc,p,v,hk,rfl,HB,HA,HW⟩:=hrel;clear HI;have hal:acc.length≤1099511627776:=by
     rw [HA.out];have h1:=qey (r.take k)
     have h2:=qdO r k;omega
    have hNw:N≤wr.heap.size:=by have:=HW.out.size;omega
    by_cases hlt:k<r.length
    ·obtain⟨g',o',e1,-,hck⟩:=(HTw.out.below (show Below w.heap.size w wr by rw [HN.out];exact HW.out)) k hlt
     cases e1
     have hxl:=qaH r _ (List.getElem_mem hlt)
     have HS:=hid (show qbn (r.take (k+1))=if r.take k=[] then r[k] else acc++32::r[k] by
      rw [List.take_succ_eq_append_getElem hlt,qhr,HA.out])
     obtain⟨x,hx⟩:=qQ (r[k])
     rw [hx] at hck hxl HS;by_cases h0:k=0
     ·have hk0:¬(0:Int)<(k:Int):=by omega
      have hac:acc=[]:=by rw [HA.out,h0];simp [qbn]
      have HS2:Hid (acc++x=qbn (r.take (k+1))):=hid (by rw [HS.out,if_pos (by rw [h0];simp),hac];simp)
      have cS:=qa4 71 N N 0 #[p,v] acc x wr qb4 HB.out (by omega) hNw
      clear HB HA HS hac h0 hx;go_wp2_with fail;refine cS.mono ?_;rintro e w2⟨rfl,⟨v',hB2⟩,hbe⟩;have HB2:=hid hB2;have HW2:=hid (HW.out.trans (hbe.below (Nat.le_refl _) hNw))
      clear hB2 hbe cS hck;go_wp2_with fail;go_roundw
      case rel=>exact⟨k+1,acc++x,_,v',by omega,by go_num,hid HB2.out,HS2,HW2⟩
      case measure=>simp [intOf];omega
     ·have hk0:(0:Int)<(k:Int):=by omega
      have HS2:Hid ((acc++[32])++x=qbn (r.take (k+1))):=hid (by
       rw [HS.out,if_neg (fun e=>by have:=congrArg List.length e;rw [List.length_take,List.length_nil] at this;omega)];simp)
      have cB:=qcQ 71 N N 0 #[p,v] acc 32 wr qb4 HB.out (by omega) hNw
      clear HB HA HS h0 hx;go_wp2_with fail;refine cB.mono ?_;rintro e w2⟨rfl,⟨v',hB2⟩,hbe⟩;have hW2:=HW.out.trans (hbe.below (Nat.le_refl _) hNw)
      have hN2:N≤w2.heap.size:=by have:=hbe.size;omega
      have hB2':Bld 71 N N 0 #[.pointer (some ⟨N,0,none⟩),v'] (acc++[32]) w2:=hB2
      have cS:=qa4 71 N N 0 #[.pointer (some ⟨N,0,none⟩),v'] (acc++[32]) x w2 qb4 hB2' (by simp only [List.length_append,List.length_singleton];omega) hN2
      have HW2:=hid hW2;clear hB2 hB2' hbe cB hW2 hck;go_wp2_with fail;refine cS.mono ?_;rintro e w3⟨rfl,⟨v2,hB3⟩,hbe⟩;have HB3:=hid hB3;have HW3:=hid (HW2.out.trans (hbe.below (Nat.le_refl _) hN2))
      clear hB3 hbe cS HW2;go_wp2_with fail;go_roundw
      case rel=>exact⟨k+1,(acc++[32])++x,_,v2,by omega,by go_num,hid HB3.out,HS2,HW3⟩
      case measure=>simp [intOf];omega
    ·obtain rfl:k=r.length:=by omega
     rw [List.take_length] at HA;have HV:Hid (echoL l=acc++[]):=hid (by rw [HE.out,HA.out])
     have cS:=qa4 71 N N 0 #[p,v] acc [] wr qb4 HB.out (by simp only [List.length_cons,List.length_nil];omega) hNw
     clear HB HA HE;go_wp2_with fail;refine cS.mono ?_;rintro e w2⟨rfl,⟨v',hB2⟩,hbe⟩;have hN2:N≤w2.heap.size:=by have:=hbe.size;omega
     have cT:=qaN 71 N N 0 _ (acc++[]) w2 hB2
     have HW2:=hid (HW.out.trans (hbe.below (Nat.le_refl _) hNw))
     clear hB2 hbe cS HW;go_wp2_with fail;refine cT.mono ?_;rintro e w3⟨rfl,-,hbe⟩;have HW3:=hid (HW2.out.trans (hbe.below (Nat.le_refl _) hN2))
     clear hbe cT HW2;go_wp2_with fail;go_ret;exact⟨by rw [HV.out,List.append_nil];rfl,by rw [HN.out];exact HW3.out⟩
 ·have HE:=hid he
  have HTw:=hid hT;have hne:(a==[45,110])=false:=by simpa using ha
  clear he hl hT hla ha hs0;go_enter func27,ntmps27;go_wp2_with fail;go_loopw [20] (fun vi wr=>∃(k:Nat) (acc:List UInt8) (p v:Value),k≤l.length∧vi=.int .i64 k∧Hid (Bld 71 N N 0 #[p,v] acc wr)∧Hid (acc=qbn (l.take k))∧Hid (Below N w wr)) (fun vi _=>l.length-(intOf vi).toNat)
  case atStart=>exact⟨0,[],_,_,Nat.zero_le _,rfl,hid HI.out.1,hid (by simp [qbn]),hid HI.out.2⟩
  case round=>
   obtain⟨k,acc,p,v,hk,rfl,HB,HA,HW⟩:=hrel;clear HI;have hal:acc.length≤1099511627776:=by
    rw [HA.out];have h1:=qey (l.take k)
    have h2:=qdO l k;omega
   have hNw:N≤wr.heap.size:=by have:=HW.out.size;omega
   by_cases hlt:k<l.length
   ·obtain⟨g',o',e1,-,hck⟩:=(HTw.out.below (show Below w.heap.size w wr by rw [HN.out];exact HW.out)) k hlt
    cases e1
    have hxl:=qaH l _ (List.getElem_mem hlt)
    have HS:=hid (show qbn (l.take (k+1))=if l.take k=[] then l[k] else acc++32::l[k] by
     rw [List.take_succ_eq_append_getElem hlt,qhr,HA.out])
    obtain⟨x,hx⟩:=qQ (l[k])
    rw [hx] at hck hxl HS;by_cases h0:k=0
    ·have hk0:¬(0:Int)<(k:Int):=by omega
     have hac:acc=[]:=by rw [HA.out,h0];simp [qbn]
     have HS2:Hid (acc++x=qbn (l.take (k+1))):=hid (by rw [HS.out,if_pos (by rw [h0];simp),hac];simp)
     have cS:=qa4 71 N N 0 #[p,v] acc x wr qb4 HB.out (by omega) hNw
     clear HB HA HS hac h0 hx;go_wp2_with fail;refine cS.mono ?_;rintro e w2⟨rfl,⟨v',hB2⟩,hbe⟩;have HB2:=hid hB2;have HW2:=hid (HW.out.trans (hbe.below (Nat.le_refl _) hNw))
     clear hB2 hbe cS hck;go_wp2_with fail;go_roundw
     case rel=>exact⟨k+1,acc++x,_,v',by omega,by go_num,hid HB2.out,HS2,HW2⟩
     case measure=>simp [intOf];omega
    ·have hk0:(0:Int)<(k:Int):=by omega
     have HS2:Hid ((acc++[32])++x=qbn (l.take (k+1))):=hid (by
      rw [HS.out,if_neg (fun e=>by have:=congrArg List.length e;rw [List.length_take,List.length_nil] at this;omega)];simp)
     have cB:=qcQ 71 N N 0 #[p,v] acc 32 wr qb4 HB.out (by omega) hNw
     clear HB HA HS h0 hx;go_wp2_with fail;refine cB.mono ?_;rintro e w2⟨rfl,⟨v',hB2⟩,hbe⟩;have hW2:=HW.out.trans (hbe.below (Nat.le_refl _) hNw)
     have hN2:N≤w2.heap.size:=by have:=hbe.size;omega
     have hB2':Bld 71 N N 0 #[.pointer (some ⟨N,0,none⟩),v'] (acc++[32]) w2:=hB2
     have cS:=qa4 71 N N 0 #[.pointer (some ⟨N,0,none⟩),v'] (acc++[32]) x w2 qb4 hB2' (by simp only [List.length_append,List.length_singleton];omega) hN2
     have HW2:=hid hW2;clear hB2 hB2' hbe cB hW2 hck;go_wp2_with fail;refine cS.mono ?_;rintro e w3⟨rfl,⟨v2,hB3⟩,hbe⟩;have HB3:=hid hB3;have HW3:=hid (HW2.out.trans (hbe.below (Nat.le_refl _) hN2))
     clear hB3 hbe cS HW2;go_wp2_with fail;go_roundw
     case rel=>exact⟨k+1,(acc++[32])++x,_,v2,by omega,by go_num,hid HB3.out,HS2,HW3⟩
     case measure=>simp [intOf];omega
   ·obtain rfl:k=l.length:=by omega
    rw [List.take_length] at HA;have HV:Hid (echoL l=acc++[10]):=hid (by rw [HE.out,HA.out])
    have cS:=qa4 71 N N 0 #[p,v] acc [10] wr qb4 HB.out (by simp only [List.length_cons,List.length_nil];omega) hNw
    clear HB HA HE;go_wp2_with fail;refine cS.mono ?_;rintro e w2⟨rfl,⟨v',hB2⟩,hbe⟩;have hN2:N≤w2.heap.size:=by have:=hbe.size;omega
    have cT:=qaN 71 N N 0 _ (acc++[10]) w2 hB2
    have HW2:=hid (HW.out.trans (hbe.below (Nat.le_refl _) hNw))
    clear hB2 hbe cS HW;go_wp2_with fail;refine cT.mono ?_;rintro e w3⟨rfl,-,hbe⟩;have HW3:=hid (HW2.out.trans (hbe.below (Nat.le_refl _) hN2))
    clear hbe cT HW2;go_wp2_with fail;go_ret;exact⟨by rw [HV.out];rfl,by rw [HN.out];exact HW3.out⟩
theorem qtH:∀(l:List UInt8) (n:Nat),(∀c∈l,qcg c=true)→qa5 10 n l=((l.foldl (fun n c=>10*n+(c.toNat-48)) n:Nat):Int)
 |[],_,_=>rfl
 |c::r,n,h=>by
  have h1:48≤c.toNat∧c.toNat≤57:=by have:=h c (by simp);unfold qcg at this;exact of_decide_eq_true this
  have h2:qeP (c.toNat:Int)=((c.toNat-48:Nat):Int):=by unfold qeP;rw [if_pos (by omega)];omega
  rw [qa5,List.foldl_cons,h2,← qtH r (10*n+(c.toNat-48)) (fun c hc=>h c (by simp [hc]))]
  congr 1
  omega
theorem qgc:∀l:List UInt8,(∀c∈l,qcg c=true)→l.length≤3→qnZ l≤999
 |[],_,_=>by simp [qnZ]
 |[a],h,_=>by have:=h a (by simp);simp [qcg] at this;simp [qnZ];omega
 |[a,b],h,_=>by have h1:=h a (by simp);have h2:=h b (by simp);simp [qcg] at h1 h2;simp [qnZ];omega
 |[a,b,c],h,_=>by have h1:=h a (by simp);have h2:=h b (by simp);have h3:=h c (by simp);simp [qcg] at h1 h2 h3;simp [qnZ];omega
 |_::_::_::_::_,_,h=>by simp at h
theorem qhG:∀c:UInt8,qcg c=true→qiQ c=false∧c≠45∧c≠43:=fun c h=>by
 have:=Ans.all_u8 (p:=fun c=>qcg c=true→qiQ c=false∧c≠45∧c≠43) (by decide +kernel) c
 exact this h
theorem qjM:∀l:List UInt8,(∀c∈l,qiQ c=false)→qiY l=l
 |[],_=>rfl
 |x::r,h=>by
  rw [qfl,if_neg (by rw [h x (by simp)];simp),qjM r (fun c hc=>h c (by simp [hc]))]
theorem qnc (l:List UInt8) (h:∀c∈l,qcg c=true) (h3:l.length≤3):(qah l).1=(qnZ l:Int):=by
 have hle:=qgc l h h3;have ht:qtA l=l:=by
  unfold qtA;have h1:l.dropWhile qiQ=l:=by
   cases l with
   |nil=>rfl
   |cons c r=>rw [List.dropWhile_cons,if_neg (by rw [(qhG c (h c (by simp))).1];simp)]
  have h2:=qjM l (fun c hc=>(qhG c (h c hc)).1)
  first
   |rw [h1,h2]
   |(rw [h2,h1])
 unfold qah;rw [ht];cases l with
 |nil=>rfl
 |cons c r=>
  have hc:=qhG c (h c (by simp))
  have hg:qfC 10 (c::r)=true:=by
   unfold qfC;rw [List.all_eq_true];intro c hc
   have h1:48≤c.toNat∧c.toNat≤57:=by have:=h c hc;unfold qcg at this;exact of_decide_eq_true this
   unfold qeP;rw [if_pos (by omega)];simp
   omega
  have hv:qa5 10 0 (c::r)=(qnZ (c::r):Int):=qtH _ 0 h
  rw [qgu,if_neg hc.2.1,if_neg hc.2.2];simp only [qbr,hg,if_true,hv]
  have hU:U ((qnZ (c::r):Nat):Int)=((qnZ (c::r):Nat):Int):=qy5 (by omega) (by omega)
  rw [hU];simp
  exact qf6 (by omega) (by omega)
def qgt:List UInt8→List UInt8×List UInt8
 |[]=>([],[])
 |c::r=>if c=45 then([45],r) else([],c::r)
def qiV (wd:Nat) (l z:Bool) (s:List UInt8):List UInt8:=
 if l then s++List.replicate (wd-s.length) 32
 else if z then(qgt s).1++List.replicate (wd-s.length) 48++(qgt s).2
 else List.replicate (wd-s.length) 32++s
theorem qms (x:Sp) (s:List UInt8):qnK x s=qiV x.wide x.left (x.zeros&&qkn x.letter) s:=by
 unfold qnK qiV;cases s with
 |nil=>
  simp only [qxj,qgt,List.length_nil,Nat.zero_add]
  cases x.left<;>cases (x.zeros&&qkn x.letter)<;>simp
 |cons c r=>
  by_cases h:c=45
  ·subst h
   cases hz:(x.zeros&&qkn x.letter)
   ·simp only [qxj,hz]
    cases x.left<;>simp
   ·simp only [qxj,hz,qgt]
    cases x.left<;>simp [Nat.add_comm]
  ·have hb:(c==45)=false:=by simpa using h
   simp only [qxj,hb,Bool.and_false,qgt,if_neg h]
   cases x.left<;>cases (x.zeros&&qkn x.letter)<;>simp
theorem qjC (c:UInt8) (r:List UInt8):qgt (c::r)=if c=45 then([45],r) else([],c::r):=rfl
theorem qoJ (s:List UInt8):(qgt s).1++(qgt s).2=s:=by
 cases s with
 |nil=>rfl
 |cons c r=>
  rw [qjC];split
  ·rename_i h;subst h;rfl
  ·rfl
theorem qtc (s:List UInt8):Lib.trimPrefix s [45]=(qgt s).2:=by
 cases s with
 |nil=>rfl
 |cons c r=>
  rw [qjC];by_cases h:c=45
  ·subst h
   simp [Lib.trimPrefix,Lib.hasPrefix]
  ·rw [if_neg h]
   unfold Lib.trimPrefix;rw [qnk r h,if_neg (by simp)]
theorem qxx (x:UInt8) (c:Nat):Lib.repeatL [x] c=List.replicate c x:=by
 induction c with
 |zero=>simp [Lib.repeatL]
 |succ c ih=>simp [Lib.repeatL,List.replicate_succ];exact ih
theorem qn4 (x:UInt8) (c:Nat) (hc:c≤1000) (w:World):Calls prog 167 #[.string ⟨#[x]⟩,.int .i64 c] w fun e w'=>e=.returned (encS (List.replicate c x))∧Below w.heap.size w w':=by
 have h:=Tryz.strings_Repeat ⟨#[x]⟩ c w (by omega) (by show 1*c≤_;omega)
 rw [show(⟨#[x]⟩:ByteArray).data.toList=[x] from rfl,qxx] at h;exact h
theorem qjY (x y:List UInt8):(⟨x.toArray⟩:ByteArray)++(⟨y.toArray⟩:ByteArray)=⟨(x++y).toArray⟩:=qk2 x y
theorem quO (wd:Nat) (l z:Bool) (s:List UInt8) (w:World) (hw:wd≤999) (hs:s.length≤140737488351432):
  Calls prog 108 #[.agg #[.int .i64 wd,.bool l,.bool z],encS s] w fun e w'=>e=.returned (encS (qiV wd l z s))∧Below w.heap.size w w':=by
 have hsz:(⟨s.toArray⟩:ByteArray).size=s.length:=by simp [ByteArray.size]
 have HE:Hid (qiV wd l z s=if l then s++List.replicate (wd-s.length) 32
   else if z then(qgt s).1++List.replicate (wd-s.length) 48++(qgt s).2
   else List.replicate (wd-s.length) 32++s):=hid rfl
 obtain⟨k,hk⟩:=qQ (wd-s.length)
 rw [hk] at HE;have hk1000:k≤1000:=by omega
 have c32:=fun W=>qn4 32 k hk1000 W
 have c48:=fun W=>qn4 48 k hk1000 W
 have hmax:max 0 ((wd:Int)-(s.length:Int))=(k:Int):=by omega
 have hf:=heap_alloc_new w (.cells #[.int .i64 wd,.bool l,.bool z] 122)
 obtain⟨W1,hW1⟩:=qQ (w.alloc (.cells #[.int .i64 wd,.bool l,.bool z] 122))
 rw [hW1] at hf;have HB1:Hid (Below w.heap.size w W1):=hid (by rw [← hW1];exact(Below.refl _ _).alloc (Nat.le_refl _) _)
 have y0:W1.cell? ⟨w.heap.size,0,none⟩=some (.int .i64 wd):=Lib.cell_of_heap hf 0
 have y1:W1.cell? ⟨w.heap.size,1,none⟩=some (.bool l):=Lib.cell_of_heap hf 1
 have y2:W1.cell? ⟨w.heap.size,2,none⟩=some (.bool z):=Lib.cell_of_heap hf 2
 clear hf;cases l with
 |true=>
  have hcat:=qjY s (List.replicate k 32)
  obtain⟨R,hR⟩:=qQ (List.replicate k (32:UInt8))
  rw [hR] at hcat c32 HE;obtain⟨T,hT⟩:=qQ (s++R)
  rw [hT] at hcat HE;have hTl:T.length≤140737488353232:=by rw [← hT,List.length_append,← hR,List.length_replicate];omega
  have hRl:R.length≤1000:=by rw [← hR,List.length_replicate];omega
  have HE2:Hid (qiV wd true z s=T):=hid (by rw [HE.out,if_pos rfl])
  clear HE hR hT c48 hk;go_enter func108,ntmps108;go_wp2_with fail
  with_reducible refine(c32 _).mono ?_
  rintro e w2⟨rfl,hb2⟩;have HB2:=qH HB1 hb2;go_wp2_with fail;go_ret;exact⟨by rw [HE2.out];rfl,HB2.out⟩
 |false=>
  cases z with
  |false=>
   have hcat:=qjY (List.replicate k 32) s
   obtain⟨R,hR⟩:=qQ (List.replicate k (32:UInt8))
   rw [hR] at hcat c32 HE;obtain⟨T,hT⟩:=qQ (R++s)
   rw [hT] at hcat HE;have hTl:T.length≤140737488353232:=by rw [← hT,List.length_append,← hR,List.length_replicate];omega
   have hRl:R.length≤1000:=by rw [← hR,List.length_replicate];omega
   have HE2:Hid (qiV wd false false s=T):=hid (by rw [HE.out,if_neg (by simp),if_neg (by simp)])
   clear HE hR hT c48 hk;go_enter func108,ntmps108;go_wp2_with fail
   with_reducible refine(c32 _).mono ?_
   rintro e w2⟨rfl,hb2⟩;have HB2:=qH HB1 hb2;go_wp2_with fail;go_ret;exact⟨by rw [HE2.out];rfl,HB2.out⟩
  |true=>
   have cT:=fun W=>Tryz.strings_TrimPrefix ⟨s.toArray⟩ ⟨#[45]⟩ W
   have e1:(⟨s.toArray⟩:ByteArray).data.toList=s:=by simp
   rw [e1,show(⟨#[45]⟩:ByteArray).data.toList=[45] from rfl,qtc] at cT;have hsc:=qoJ s;obtain⟨g,hg⟩:=qQ ((qgt s).1)
   obtain⟨b,hb⟩:=qQ ((qgt s).2)
   rw [hg,hb] at hsc HE;rw [hb] at cT;have hl:g.length+b.length=s.length:=by rw [← hsc,List.length_append]
   have hxs:(⟨s.toArray⟩:ByteArray).extract 0 g.length=⟨g.toArray⟩:=by
    rw [qhM,List.drop_zero,← hsc,List.take_left]
   have hsub:(s.length:Int)-(b.length:Int)=(g.length:Int):=by omega
   have hgl:(g.length:Int)≤(s.length:Int):=by omega
   have hcat:=qjY g (List.replicate k 48)
   obtain⟨R,hR⟩:=qQ (List.replicate k (48:UInt8))
   rw [hR] at hcat c48 HE;obtain⟨T,hT⟩:=qQ (g++R)
   rw [hT] at hcat HE;have hcat2:=qjY T b;obtain⟨V,hV⟩:=qQ (T++b)
   rw [hV] at hcat2 HE;have hTl:T.length≤140737488352532:=by rw [← hT,List.length_append,← hR,List.length_replicate];omega
   have hVl:V.length≤140737488353232:=by
    have h2:T.length≤g.length+1000:=by rw [← hT,List.length_append,← hR,List.length_replicate];omega
    rw [← hV,List.length_append];omega
   have hRl:R.length≤1000:=by rw [← hR,List.length_replicate];omega
   have HE2:Hid (qiV wd false true s=V):=hid (by rw [HE.out,if_neg (by simp),if_pos rfl])
   have HL:=hid hl;clear HE hR hT hV c32 hk hg hb hsc e1 hl;go_enter func108,ntmps108;go_wp2_with fail
   with_reducible refine(cT _).mono ?_
   rintro e w2⟨rfl,rfl⟩;go_wp2_with fail
   with_reducible refine(c48 _).mono ?_
   rintro e w3⟨rfl,hb2⟩;have HB2:=qH HB1 hb2;go_wp2_with fail;go_ret;exact⟨by rw [HE2.out];rfl,HB2.out⟩
def Tab (w:World):Prop:=w.cell? ⟨7,7,none⟩=some (.int .u8 3)∧w.cell? ⟨7,15,none⟩=some (.int .u8 4)
theorem Tab.below {w w':World} (h:Tab w) (hb:Below w.heap.size w w'):Tab w':=⟨cell_below hb h.1,cell_below hb h.2⟩
theorem Tab.drew {w:World} (h:Tab w):Tab w.drew:=h
def SpT (w:World):Prop:=∀c:Nat,c<256→w.cell? ⟨0,c,none⟩=some (.int .u8 (if Lib.isSp (UInt8.ofNat c) then 1 else 0))
theorem SpT.below {w w':World} (h:SpT w) (hb:Below w.heap.size w w'):SpT w':=fun c hc=>cell_below hb (h c hc)
def qww (w:World):Prop:=SpT w∧Tab w
theorem tz8 (w:World) (h:Tab w):Calls prog 304 #[.int .u64 8] w fun e w'=>e=.returned (.int .i64 3)∧w'=w:=by
 have h0:=h.1;clear h;have hA:bits BinOp.and IntKind.u64 8 (IntKind.u64.wrap (-8))=8:=by kernel_rfl
 have hM:IntKind.u64.wrap 2286961704410830920=2286961704410830920:=by kernel_rfl
 go_enter func304,ntmps304;go_wp2;go_ret;exact⟨rfl,rfl⟩
theorem qzG (w:World) (h:Tab w):Calls prog 304 #[.int .u64 16] w fun e w'=>e=.returned (.int .i64 4)∧w'=w:=by
 have h0:=h.2;clear h;have hA:bits BinOp.and IntKind.u64 16 (IntKind.u64.wrap (-16))=16:=by kernel_rfl
 have hM:IntKind.u64.wrap 4573923408821661840=4573923408821661840:=by kernel_rfl
 go_enter func304,ntmps304;go_wp2;go_ret;exact⟨rfl,rfl⟩
theorem qoL (g a:Nat) (x:Int) (hx:x=(a:Int)) (ha:a<65) (W:World):(Instr.sliceAt 298 (.pointer (some ⟨g,0,none⟩)) (some (.int .i64 x)) none none).run prog W=.ok (.slice (some ⟨g,a,none⟩) (65-a) (65-a)) W:=by
 have hal:prog.arrayLen 298=65:=by simp [Program.arrayLen,underlying298]
 subst hx;rw [run_sliceAt_array_l W 298 ⟨g,0,none⟩ (by simp [Program.arrayLen,Program.elem,underlying298]) .i64 (a:Int) (by omega) (by rw [hal];omega)];have hne:¬(65=a):=by omega
 have e:(⟨g,0,none⟩:Addr).add a=⟨g,a,none⟩:=by
  unfold Addr.add;split
  ·rename_i h;rw [h]
  ·simp
 go_simp
theorem qi5 {w:World} {g a:Nat} {cur:Array Value} {t:TypeId} {l:List UInt8} (h:w.heap[g]?=some (.cells cur t (0,0))) (hl:a+l.length=65) (hs:cur.size=65) (hd:cur.toList.drop a=l.map u8):
  (convert 69 9 (.slice (some ⟨g,a,none⟩) (65-a) (65-a))).run prog w=.ok (.string ⟨l.toArray⟩) w:=by
 have e:65-a=l.length:=by omega
 rw [e];refine run_convert_bytes_back (P:=prog) w 69 9 5 ⟨g,a,none⟩ _ l underlying69 underlying5 underlying9 (fun j hj=>?_)
 rw [show(⟨g,a,none⟩:Addr).add j=⟨g,a+j,none⟩ by simp [Addr.add]];rw [cell_of h (show a+j<cur.size by omega)];have h2:(cur.toList.drop a)[j]?=(l.map u8)[j]?:=by rw [hd]
 rw [List.getElem?_drop,Array.getElem?_toList,Array.getElem?_eq_getElem (by omega)] at h2;rw [h2];simp [hj,u8]
def qi9:ByteArray:=⟨#[48,49,50,51,52,53,54,55,56,57,97,98,99,100,101,102,103,104,105,106,107,108,109,110,111,112,113,114,115,116,117,118,119,120,121,122]⟩
theorem qj5 (k:Nat) (h:k<16):∀h2,qi9[k]'h2=qtR k:=fun _=>by
 have:∀k:Fin 16,qi9[k.1]'(Nat.lt_of_lt_of_le k.2 (by decide))=qtR k.1:=by decide +kernel
 exact this ⟨k,h⟩
theorem qzE (w:World):Calls prog 282 #[.int .i64 8] w fun e w'=>e=.returned (.bool true)∧w'=w:=by
 have hpow:bits BinOp.and IntKind.i64 8 7=0:=by kernel_rfl
 go_enter func282,ntmps282;go_wp2;go_ret;exact⟨by simp,rfl⟩
theorem qy1 (w:World) (hT:Tab w):Calls prog 283 #[.int .u64 8] w fun e w'=>e=.returned (.int .i64 3)∧w'=w:=by
 have c:=tz8 w hT;go_enter func283,ntmps283;go_wp2_with (go_at_call 304;refine c.mono ?_;rintro e w1 ⟨rfl,rfl⟩)
 go_ret;exact⟨rfl,rfl⟩
theorem qze (u:Nat) (hu:u<18446744073709551616) (w:World) (hT:Tab w):
  Calls prog 253 #[.slice none 0 0,.int .u64 u,.int .i64 8,.bool false,.bool false] w fun e w'=>∃v,e=.returned (.tuple #[v,encS (qiO 8 u)])∧Below w.heap.size w w':=by
 have cP:=fun W=>qzE W
 have cT:=qy1 (w.alloc (.cells Tryz.zeroCells298 298)) (hT.below ((Below.refl _ _).alloc (Nat.le_refl _) _))
 have hz:Tryz.zeroCells298.size=65:=by kernel_rfl
 go_enter func253,ntmps253;go_wp2_with (first|(go_at_call 282;refine(cP _).mono ?_;rintro e w1 ⟨rfl,rfl⟩)|(go_at_call 283;refine cT.mono ?_;rintro e w2 ⟨rfl,rfl⟩))
 go_loopw [1,13] (fun x y wr=>∃(a r:Nat) (ds:List UInt8) (cur:Array Value),x=.int .u64 r∧y=.int .i64 a∧1≤a∧a+ds.length=65∧r<18446744073709551616∧cur.size=65∧wr.heap[w.heap.size]?=some (.cells cur 298 (0,0))∧Below w.heap.size w wr∧Hid (r<2^(a-1))∧Hid (cur.toList.drop a=ds.map u8)∧Hid (qiO 8 u=qiO 8 r++ds)) (fun _ y _=>(intOf y).toNat)
 case atStart=>
  exact⟨65,u,[],_,rfl,rfl,by omega,rfl,hu,hz,World.heap_alloc_self,(Below.refl _ _).alloc (Nat.le_refl _) _,hid (by omega),hid (by rw [List.drop_of_length_le (by rw [Array.length_toList,hz];omega)];rfl),hid (by simp)⟩
 case round=>
  obtain⟨a,r,ds,cur,rfl,rfl,ha1,ha,hr,hsz,hc,hb,HP,HD,HX⟩:=hrel;have hcell:=cell_of hc (show a-1<cur.size by omega)
  have hfr:=qhU (i:=a-1) hc
  have hcc:=hid hc;have ha65:a≤65:=by omega
  by_cases hgo:8≤r
  ·have hand:bits BinOp.and IntKind.u64 (r:Int) 7=((r%8:Nat):Int):=by
    have:=u64_and_nat r 7 hr (by omega)
    rw [show r &&& 7=r%8 from Nat.and_two_pow_sub_one_eq_mod r 3] at this;exact this
   obtain⟨m,hm⟩:=qQ (r%8)
   rw [hm] at hand;have hm16:m<16:=by omega
   have hdg:=qj5 m hm16;unfold qi9 at hdg;obtain⟨x,hx⟩:=qQ (qtR m)
   rw [hx] at hdg;have hge:(8:Int)≤(r:Int):=by omega
   have hm36:(m:Int)<36:=by omega
   clear hc;go_wp2;go_round
   case rel=>
    have hp:r<2^(a-1):=HP.out
    have ha2:2≤a:=by
     rcases Nat.lt_or_ge a 2 with h|h
     ·have:a=1:=by omega
      subst this;simp at hp
      omega
     ·exact h
    have hd:=qeA (v:=.int .u8 x.toNat) (show a-1<cur.size by omega)
    have h2:2^(a-1)=2^(a-1-1)*2:=by rw [← Nat.pow_succ,show(a-1-1).succ=a-1 by omega]
    refine⟨a-1,r/8,x::ds,_,by rw [Int.natCast_ediv];rfl,by go_num,by omega,by simp;omega,by omega,?_,heap_setCell_same _ _ _ _ _ _ hcc.out,hb.setCell (Nat.le_refl _) _,hid (by omega),hid ?_,hid ?_⟩
    ·rw [Array.size_setIfInBounds];exact hsz
    ·rw [hd,show a-1+1=a by omega,HD.out];rfl
    ·rw [HX.out,qhp (by omega) hgo,hm,hx];simp
   case measure=>simp [intOf];omega
  ·have hm16:r<16:=by omega
   have hdg:=qj5 r hm16;unfold qi9 at hdg;obtain⟨x,hx⟩:=qQ (qtR r)
   rw [hx] at hdg;have hge:¬(8:Int)≤(r:Int):=by omega
   have hm36:(r:Int)<36:=by omega
   have hd:=qeA (v:=.int .u8 x.toNat) (show a-1<cur.size by omega)
   have hsl:=qoL w.heap.size (a-1) ((a:Int)-1) (by omega) (by omega)
   have hcv:=qi5 (w:=wr.setCell ⟨w.heap.size,a-1,none⟩ (.int .u8 x.toNat)) (l:=x::ds) (heap_setCell_same _ _ _ _ _ _ hc) (show a-1+(x::ds).length=65 by simp;omega) (by rw [Array.size_setIfInBounds];exact hsz) (by rw [hd,show a-1+1=a by omega,HD.out];rfl)
   have HF:Hid (qiO 8 u=x::ds):=hid (by rw [HX.out,qg7 (by omega),hx];rfl)
   have HB:=hid (hb.setCell (p:=⟨w.heap.size,a-1,none⟩) (Nat.le_refl _) (.int .u8 x.toNat))
   clear hc hd;go_wp2;go_ret2;exact⟨⟨_,by rw [HF.out];rfl⟩,HB.out⟩
theorem qzq (w:World):Calls prog 282 #[.int .i64 16] w fun e w'=>e=.returned (.bool true)∧w'=w:=by
 have hpow:bits BinOp.and IntKind.i64 16 15=0:=by kernel_rfl
 go_enter func282,ntmps282;go_wp2;go_ret;exact⟨by simp,rfl⟩
theorem qx2 (w:World) (hT:Tab w):Calls prog 283 #[.int .u64 16] w fun e w'=>e=.returned (.int .i64 4)∧w'=w:=by
 have c:=qzG w hT;go_enter func283,ntmps283;go_wp2_with (go_at_call 304;refine c.mono ?_;rintro e w1 ⟨rfl,rfl⟩)
 go_ret;exact⟨rfl,rfl⟩
theorem qyu (u:Nat) (hu:u<18446744073709551616) (w:World) (hT:Tab w):
  Calls prog 253 #[.slice none 0 0,.int .u64 u,.int .i64 16,.bool false,.bool false] w fun e w'=>∃v,e=.returned (.tuple #[v,encS (qiO 16 u)])∧Below w.heap.size w w':=by
 have cP:=fun W=>qzq W
 have cT:=qx2 (w.alloc (.cells Tryz.zeroCells298 298)) (hT.below ((Below.refl _ _).alloc (Nat.le_refl _) _))
 have hz:Tryz.zeroCells298.size=65:=by kernel_rfl
 go_enter func253,ntmps253;go_wp2_with (first|(go_at_call 282;refine(cP _).mono ?_;rintro e w1 ⟨rfl,rfl⟩)|(go_at_call 283;refine cT.mono ?_;rintro e w2 ⟨rfl,rfl⟩))
 go_loopw [1,13] (fun x y wr=>∃(a r:Nat) (ds:List UInt8) (cur:Array Value),x=.int .u64 r∧y=.int .i64 a∧1≤a∧a+ds.length=65∧r<18446744073709551616∧cur.size=65∧wr.heap[w.heap.size]?=some (.cells cur 298 (0,0))∧Below w.heap.size w wr∧Hid (r<2^(a-1))∧Hid (cur.toList.drop a=ds.map u8)∧Hid (qiO 16 u=qiO 16 r++ds)) (fun _ y _=>(intOf y).toNat)
 case atStart=>
  exact⟨65,u,[],_,rfl,rfl,by omega,rfl,hu,hz,World.heap_alloc_self,(Below.refl _ _).alloc (Nat.le_refl _) _,hid (by omega),hid (by rw [List.drop_of_length_le (by rw [Array.length_toList,hz];omega)];rfl),hid (by simp)⟩
 case round=>
  obtain⟨a,r,ds,cur,rfl,rfl,ha1,ha,hr,hsz,hc,hb,HP,HD,HX⟩:=hrel;have hcell:=cell_of hc (show a-1<cur.size by omega)
  have hfr:=qhU (i:=a-1) hc
  have hcc:=hid hc;have ha65:a≤65:=by omega
  by_cases hgo:16≤r
  ·have hand:bits BinOp.and IntKind.u64 (r:Int) 15=((r%16:Nat):Int):=by
    have:=u64_and_nat r 15 hr (by omega)
    rw [show r &&& 15=r%16 from Nat.and_two_pow_sub_one_eq_mod r 4] at this;exact this
   obtain⟨m,hm⟩:=qQ (r%16)
   rw [hm] at hand;have hm16:m<16:=by omega
   have hdg:=qj5 m hm16;unfold qi9 at hdg;obtain⟨x,hx⟩:=qQ (qtR m)
   rw [hx] at hdg;have hge:(16:Int)≤(r:Int):=by omega
   have hm36:(m:Int)<36:=by omega
   clear hc;go_wp2;go_round
   case rel=>
    have hp:r<2^(a-1):=HP.out
    have ha2:2≤a:=by
     rcases Nat.lt_or_ge a 2 with h|h
     ·have:a=1:=by omega
      subst this;simp at hp
      omega
     ·exact h
    have hd:=qeA (v:=.int .u8 x.toNat) (show a-1<cur.size by omega)
    have h2:2^(a-1)=2^(a-1-1)*2:=by rw [← Nat.pow_succ,show(a-1-1).succ=a-1 by omega]
    refine⟨a-1,r/16,x::ds,_,by rw [Int.natCast_ediv];rfl,by go_num,by omega,by simp;omega,by omega,?_,heap_setCell_same _ _ _ _ _ _ hcc.out,hb.setCell (Nat.le_refl _) _,hid (by omega),hid ?_,hid ?_⟩
    ·rw [Array.size_setIfInBounds];exact hsz
    ·rw [hd,show a-1+1=a by omega,HD.out];rfl
    ·rw [HX.out,qhp (by omega) hgo,hm,hx];simp
   case measure=>simp [intOf];omega
  ·have hm16:r<16:=by omega
   have hdg:=qj5 r hm16;unfold qi9 at hdg;obtain⟨x,hx⟩:=qQ (qtR r)
   rw [hx] at hdg;have hge:¬(16:Int)≤(r:Int):=by omega
   have hm36:(r:Int)<36:=by omega
   have hd:=qeA (v:=.int .u8 x.toNat) (show a-1<cur.size by omega)
   have hsl:=qoL w.heap.size (a-1) ((a:Int)-1) (by omega) (by omega)
   have hcv:=qi5 (w:=wr.setCell ⟨w.heap.size,a-1,none⟩ (.int .u8 x.toNat)) (l:=x::ds) (heap_setCell_same _ _ _ _ _ _ hc) (show a-1+(x::ds).length=65 by simp;omega) (by rw [Array.size_setIfInBounds];exact hsz) (by rw [hd,show a-1+1=a by omega,HD.out];rfl)
   have HF:Hid (qiO 16 u=x::ds):=hid (by rw [HX.out,qg7 (by omega),hx];rfl)
   have HB:=hid (hb.setCell (p:=⟨w.heap.size,a-1,none⟩) (Nat.le_refl _) (.int .u8 x.toNat))
   clear hc hd;go_wp2;go_ret2;exact⟨⟨_,by rw [HF.out];rfl⟩,HB.out⟩
theorem qrH (b:Nat) (hb:b=8∨b=16) (u:Nat) (hu:u<18446744073709551616) (w:World) (hT:Tab w):
  Calls prog 171 #[.int .u64 u,.int .i64 b] w fun e w'=>e=.returned (encS (qiO b u))∧Below w.heap.size w w':=by
 have cB:Calls prog 253 #[.slice none 0 0,.int .u64 u,.int .i64 b,.bool false,.bool false] w fun e w'=>∃v,e=.returned (.tuple #[v,encS (qiO b u)])∧Below w.heap.size w w':=by
  rcases hb with rfl|rfl
  ·exact qze u hu w hT
  ·exact qyu u hu w hT
 have h10:((b:Int)==10)=false:=by rcases hb with rfl|rfl<;>rfl
 have cF:Calls prog 209 #[.int .u64 u,.int .i64 b] w fun e w'=>e=.returned (encS (qiO b u))∧Below w.heap.size w w':=by
  go_enter func209,ntmps209;go_wp2_with (go_at_call 253;refine cB.mono ?_;rintro e w1 ⟨v,rfl,hb1⟩)
  go_ret;exact⟨rfl,hb1⟩
 clear cB h10;go_enter func171,ntmps171;go_wp2_with (go_at_call 209;refine cF.mono ?_;rintro e w1 ⟨rfl,hb1⟩)
 go_ret;exact⟨rfl,hb1⟩
theorem qw5:liesAt prog prog.depth 83 (4/prog.cellsOf 83) 0 71 1=true:=by kernel_rfl
theorem qu4:83≠5:=by decide
def tlC (p v:Value) (A:Option Addr) (n c st:Nat):Array Value:=#[p,v,.slice A n c,.int .i64 st]
theorem qvT (p v:Value) (A:Option Addr) (n c st:Nat):(tlC p v A n c st).size=4:=rfl
def qew (B b:Nat) (acc:List UInt8) (args:List (List UInt8)) (st:Nat) (w:World):Prop:=
 ∃p v A c,Bld 83 B b 0 (tlC p v A args.length c st) acc w∧args.length≤c∧qat w (fun g=>g<B) A args∧B≤w.heap.size
theorem qew.below {B b st:Nat} {acc:List UInt8} {args:List (List UInt8)} {w w':World} (h:qew B b acc args st w) (hb:Below w.heap.size w w'):qew B b acc args st w':=by
 obtain⟨p,v,A,c,h1,h2,h3,h4⟩:=h;exact⟨p,v,A,c,h1.below hb,h2,h3.below hb,Nat.le_trans h4 hb.size⟩
theorem qew.drew {B b st:Nat} {acc:List UInt8} {args:List (List UInt8)} {w:World} (h:qew B b acc args st w):qew B b acc args st w.drew:=h
theorem qat.low {B:Nat} {A:Option Addr} {ls:List (List UInt8)} {w w':World} (h:qat w (fun g=>g<B) A ls) (hb:Below B w w'):qat w' (fun g=>g<B) A ls:=
 h.frame fun g _ hp=>⟨hp,hb.block g hp⟩
theorem qew.str {B b st:Nat} {acc:List UInt8} {args:List (List UInt8)} {w:World} (h:qew B b acc args st w) (x:List UInt8) (hl:acc.length+x.length≤140737488355328):
  Calls prog 52 #[.pointer (some ⟨b,0,none⟩),encS x] w fun e w'=>e=.returned (.tuple #[.int .i64 x.length,.nilIface])∧qew B b (acc++x) args st w'∧Bears B b w w':=by
 obtain⟨p,v,A,c,h1,h2,h3,h4⟩:=h;refine(qa4 83 B b 0 _ acc x w (by rw [qvT];exact qw5) h1 hl h4).mono ?_
 rintro e w'⟨rfl,⟨v',hb⟩,ho⟩;have hB:=ho.below h1.1 h4;exact⟨rfl,⟨_,v',A,c,hb,h2,h3.low hB,Nat.le_trans h4 ho.size⟩,ho⟩
theorem qew.next {B b st:Nat} {acc:List UInt8} {args:List (List UInt8)} {w:World} (h:qew B b acc args st w) (ha:args.length≤140737488355328):
  Calls prog 169 #[.pointer (some ⟨b,0,none⟩)] w fun e w'=>e=.returned (encS (qgW args))∧qew B b acc args.tail st w'∧Bears B b w w':=by
 have h':=h
 obtain⟨p,v,A,c,h1,h2,h3,h4⟩:=h;have hbk:=h1.2.2.1;have x2:w.cell? ⟨b,2,none⟩=some (.slice A args.length c):=Lib.cell_of_heap hbk 2
 have f2:w.frozen? ⟨b,2,none⟩=false:=Lib.frozen_of_heap hbk 2
 cases args with
 |nil=>
  have H:=hid h';clear h' h1 h3 hbk;go_enter func169,ntmps169;go_wp2;go_ret;exact⟨rfl,H.out,Bears.refl _ _ _⟩
 |cons a r=>
  obtain⟨g,o,rfl,hg,hc⟩:=h3 0 (by simp)
  simp only [List.getElem_cons_zero,Nat.add_zero] at hc
  have hlen:(a::r).length=r.length+1:=rfl
  obtain⟨n,hn⟩:=qQ ((a::r).length)
  have hbig:∀A' c',r.length≤c'→(∀k (h:k<r.length),∃g' o',A'=some ⟨g',o',none⟩∧w.cell? ⟨g',o'+k,none⟩=some (encS r[k])∧g'<B)→
    qew B b acc r st (w.setCell ⟨b,2,none⟩ (.slice A' r.length c')):=fun A' c' hcc hk=>by
   have hB:Below B w (w.setCell ⟨b,2,none⟩ (.slice A' r.length c')):=(Below.refl _ _).setCell h1.1 _
   refine⟨p,v,A',c',h1.other _ (by omega) (by omega),hcc,fun k hk'=>?_,by simpa using h4⟩
   obtain⟨g',o',e1,e2,e3⟩:=hk k hk';exact⟨g',o',e1,e3,(hB.cell (p:=⟨g',o'+k,none⟩) e3).trans e2⟩
  have hcell:∀k (h:k<r.length),w.cell? ⟨g,o+1+k,none⟩=some (encS r[k]):=fun k hk=>by
   obtain⟨g2,o2,e,-,h⟩:=h3 (k+1) (by simpa using hk)
   cases e
   rw [show o+1+k=o+(k+1) by omega]
   simpa using h
  by_cases hc1:c=1
  ·subst hc1
   have hr0:r=[]:=List.eq_nil_of_length_eq_zero (by rw [hlen] at h2;omega)
   subst hr0;have H:=hid (hbig (some ⟨g,o,none⟩) 0 (Nat.le_refl _) (fun k hk=>by simp at hk))
   have HB:=hid (show Bears B b w (w.setCell ⟨b,2,none⟩ (.slice (some ⟨g,o,none⟩) 0 0)) from(Bears.refl _ _ _).setCell _ _)
   clear h' h1 h3 hbk hbig hcell;go_enter func169,ntmps169;go_wp2;go_ret;exact⟨rfl,H.out,HB.out⟩
  ·have H:=hid (hbig (some ⟨g,o+1,none⟩) (c-1) (by rw [hlen] at h2;omega) (fun k hk=>⟨g,o+1,rfl,hcell k hk,hg⟩))
   have HB:=hid (show Bears B b w (w.setCell ⟨b,2,none⟩ (.slice (some ⟨g,o+1,none⟩) r.length (c-1))) from(Bears.refl _ _ _).setCell _ _)
   clear h' h1 h3 hbk hbig hcell;go_enter func169,ntmps169;go_wp2;go_ret;exact⟨rfl,H.out,HB.out⟩
theorem qcr (l:List UInt8):-9223372036854775808≤(qah l).1∧(qah l).1≤9223372036854775807:=by
 have hw:∀x,-9223372036854775808≤wrap64 x∧wrap64 x≤9223372036854775807:=fun x=>by unfold wrap64;omega
 have h0:(-9223372036854775808:Int)≤0∧(0:Int)≤9223372036854775807:=by omega
 unfold qah;cases qtA l with
 |nil=>exact h0
 |cons c r=>
  rw [qgu];split
  ·split
   ·exact hw _
   ·exact h0
  ·split
   ·split
    ·exact hw _
    ·exact h0
   ·split
    ·exact hw _
    ·exact h0
def qfX (c:UInt8) (arg:List UInt8):List UInt8:=if c=98 then qdk arg else if c=99 then arg.take 1 else if qkn c then qzo c (qah arg).1 else arg
def qq1 (arg:List UInt8):Nat:=if arg=[]∨(qah arg).2=0 then 0 else 1
def qqJ (c:UInt8) (arg:List UInt8):Nat:=if qkn c then qq1 arg else 0
theorem qiz (x:Sp) (arg:List UInt8):qgy x arg=(qnK x (qfX x.letter arg),qqJ x.letter arg):=by
 unfold qgy qfX qqJ qq1;by_cases h1:x.letter=98
 ·simp [h1,qkn]
 ·by_cases h2:x.letter=99
  ·simp [h2,qkn]
  ·rw [if_neg h1,if_neg h2,if_neg h1,if_neg h2]
   cases qkn x.letter<;>simp
theorem qew.number {B b st:Nat} {acc:List UInt8} {args:List (List UInt8)} {w:World} (h:qew B b acc args st w) (hst:st≤1) (s:List UInt8) (hs:s.length≤140737488351232):
  Calls prog 172 #[.pointer (some ⟨b,0,none⟩),encS s] w fun e w'=>e=.returned (.int .i64 (qah s).1)∧qew B b acc args (max st (qq1 s)) w'∧Bears B b w w':=by
 have cP:=qb0 s w hs;have HB:Hid (qq1 s=if s=[]∨(qah s).2=0 then 0 else 1):=hid rfl
 obtain⟨n,hn⟩:=qQ ((qah s).1)
 obtain⟨q,hq⟩:=qQ ((qah s).2)
 rw [hn,hq] at cP;rw [hq] at HB;rw [hn];have H:=hid h;clear h hn hq;by_cases hq0:q=0
 ·have HB2:Hid (qq1 s=0):=hid (by rw [HB.out,if_pos (.inr hq0)])
  subst hq0;clear HB;go_enter func172,ntmps172;go_wp2_with fail;refine cP.mono ?_;rintro e w1⟨rfl,hb1⟩;go_wp2_with fail;go_ret;exact⟨rfl,by rw [HB2.out,Nat.max_zero];exact H.out.below hb1,Bears.of_below hb1⟩
 ·have gq:(q !=0)=true:=by simpa using hq0
  by_cases hs0:s=[]
  ·have HB2:Hid (qq1 s=0):=hid (by rw [HB.out,if_pos (.inl hs0)])
   have gs:(s !=[])=false:=by simp [hs0]
   subst hs0;clear HB hq0;go_enter func172,ntmps172;go_wp2_with fail;refine cP.mono ?_;rintro e w1⟨rfl,hb1⟩;go_wp2_with fail;go_ret;exact⟨rfl,by rw [HB2.out,Nat.max_zero];exact H.out.below hb1,Bears.of_below hb1⟩
  ·have HB2:Hid (qq1 s=1):=hid (by rw [HB.out,if_neg (by simp [hs0,hq0])])
   have gs:s.isEmpty=false:=by cases s with|nil=>exact absurd rfl hs0|cons _ _=>rfl
   clear HB hq0 hs0;go_enter func172,ntmps172;go_wp2_with fail;refine cP.mono ?_;rintro e w1⟨rfl,hb1⟩;obtain⟨p,v,A,c,h1,h2,h3,h4⟩:=H.out.below hb1;have x3:w1.cell? ⟨b,3,none⟩=some (.int .i64 st):=Lib.cell_of_heap h1.2.2.1 3
   have f3:w1.frozen? ⟨b,3,none⟩=false:=Lib.frozen_of_heap h1.2.2.1 3
   have hset:Below B w1 (w1.setCell ⟨b,3,none⟩ (.int .i64 1)):=(Below.refl _ _).setCell h1.1 _
   have HF:Hid (qew B b acc args 1 (w1.setCell ⟨b,3,none⟩ (.int .i64 1))∧Bears B b w (w1.setCell ⟨b,3,none⟩ (.int .i64 1))):=hid
    ⟨⟨p,v,A,c,h1.other (.int .i64 1) (by omega) (by omega),h2,h3.low hset,by simpa using h4⟩,(Bears.of_below hb1).setCell 3 _⟩
   clear h1 h2 h3 h4 hset hb1;go_wp2_with fail;go_ret;exact⟨rfl,by rw [HB2.out,show max st 1=1 by omega];exact HF.out.1,HF.out.2⟩
theorem Tab.low {B:Nat} {w w':World} (h:Tab w) (hB:7<B) (hb:Below B w w'):Tab w':=⟨(hb.cell (p:=⟨7,7,none⟩) hB).trans h.1,(hb.cell (p:=⟨7,15,none⟩) hB).trans h.2⟩
theorem qvQ (a:List UInt8):∃m,a.take 1=a.take m∧m≤a.length∧(m:Int)=min 1 (a.length:Int):=by
 cases a with
 |nil=>exact⟨0,rfl,by simp,by decide⟩
 |cons c r=>exact⟨1,rfl,by simp,by simp;omega⟩
theorem qew.converted {B b st:Nat} {acc:List UInt8} {args:List (List UInt8)} {w:World} (h:qew B b acc args st w) (hst:st≤1) (hT:Tab w) (hTB:7<B) (c:UInt8) (hc:qbz c=true) (ha:args.length≤140737488355328) (hal:(qgW args).length≤140737488351232):
  Calls prog 109 #[.pointer (some ⟨b,0,none⟩),.int .u8 c.toNat] w fun e w'=>e=.returned (encS (qfX c (qgW args)))∧qew B b acc args.tail (max st (qqJ c (qgW args))) w'∧Bears B b w w':=by
 have cN:=h.next ha;obtain⟨hBb,hBw⟩:B≤b∧B≤w.heap.size:=by obtain⟨_,_,_,_,h1,_,_,h⟩:=h;exact⟨h1.1,h⟩
 obtain⟨a,hA⟩:=qQ (qgW args)
 rw [hA] at cN hal ⊢;have cases6:c=115∨c=98∨c=100∨c=99∨c=120∨c=111:=by
  simpa [qbz,or_assoc] using hc
 have hsz:(⟨a.toArray⟩:ByteArray).size=a.length:=by simp [ByteArray.size]
 have hTT:=hid hT;clear hA hT h hc;rcases cases6 with rfl|rfl|rfl|rfl|rfl|rfl
 ·have HE:Hid (qfX 115 a=a∧qqJ 115 a=0):=hid ⟨rfl,rfl⟩
  go_enter func109,ntmps109;go_wp2_with fail;refine cN.mono ?_;rintro e w1⟨rfl,h1,hb1⟩;have HF:=hid (And.intro h1 hb1)
  clear h1 hb1 cN;go_wp2_with fail;go_ret;exact⟨by rw [HE.out.1];rfl,by rw [HE.out.2,Nat.max_zero];exact HF.out.1,HF.out.2⟩
 ·have HE:Hid (qfX 98 a=qdk a∧qqJ 98 a=0):=hid ⟨rfl,rfl⟩
  have cE:=fun W=>qjb a W hal
  go_enter func109,ntmps109;go_wp2_with fail;refine cN.mono ?_;rintro e w1⟨rfl,h1,hb1⟩;have HF:=hid (And.intro h1 hb1)
  clear h1 hb1 cN;go_wp2_with fail;refine(cE _).mono ?_;rintro e w2⟨rfl,hb2⟩;have HF2:=hid (And.intro (HF.out.1.below hb2) (HF.out.2.trans (Bears.of_below hb2)))
  clear hb2 HF cE;go_wp2_with fail;go_ret;exact⟨by rw [HE.out.1];rfl,by rw [HE.out.2,Nat.max_zero];exact HF2.out.1,HF2.out.2⟩
 ·have HE:Hid (qfX 100 a=qaw (qah a).1∧qqJ 100 a=qq1 a):=hid ⟨rfl,rfl⟩
  have hpb:=qcr a;obtain⟨n,hn⟩:=qQ ((qah a).1)
  rw [hn] at HE hpb;have HN:=hid hn;have cP:=fun W=>qbR n hpb.1 hpb.2 W
  clear hn;go_enter func109,ntmps109;go_wp2_with fail;refine cN.mono ?_;rintro e w1⟨rfl,h1,hb1⟩;have cU:=h1.number hst a hal;rw [HN.out] at cU;have HF:=hid hb1;clear h1 hb1 cN;go_wp2_with fail;refine cU.mono ?_;rintro e w2⟨rfl,h2,hb2⟩;have HF2:=hid (And.intro h2 (HF.out.trans hb2))
  clear h2 hb2 cU HF;go_wp2_with fail;refine(cP _).mono ?_;rintro e w3⟨rfl,hb3⟩;have HF3:=hid (And.intro (HF2.out.1.below hb3) (HF2.out.2.trans (Bears.of_below hb3)))
  clear hb3 cP HF2;go_wp2_with fail;go_ret;exact⟨by rw [HE.out.1];rfl,by rw [HE.out.2];exact HF3.out.1,HF3.out.2⟩
 ·obtain⟨m,hm1,hm2,hm3⟩:=qvQ a
  have HE:Hid (qfX 99 a=a.take m∧qqJ 99 a=0):=hid ⟨hm1,rfl⟩
  have hx:(⟨a.toArray⟩:ByteArray).extract 0 m=⟨(a.take m).toArray⟩:=by rw [qhM,List.drop_zero]
  have hm4:=hm3.symm;have hm5:(m:Int)≤(a.length:Int):=by omega
  obtain⟨R,hR⟩:=qQ (a.take m)
  rw [hR] at hx HE;clear hm1 hm2 hm3 hR;go_enter func109,ntmps109;go_wp2_with fail;refine cN.mono ?_;rintro e w1⟨rfl,h1,hb1⟩;have HF:=hid (And.intro h1 hb1)
  clear h1 hb1 cN;go_wp2_with fail;go_ret;exact⟨by rw [HE.out.1];rfl,by rw [HE.out.2,Nat.max_zero];exact HF.out.1,HF.out.2⟩
 ·have HE:Hid (qfX 120 a=qiO 16 (U (qah a).1).toNat∧qqJ 120 a=qq1 a):=hid ⟨rfl,rfl⟩
  have hpb:=qcr a;obtain⟨n,hn⟩:=qQ ((qah a).1)
  rw [hn] at HE hpb;have HN:=hid hn;have hU:=qv7 n;obtain⟨u,hu⟩:=qQ ((U n).toNat)
  have hun:IntKind.u64.wrap n=(u:Int):=by rw [qfs];omega
  rw [hu] at HE;have cF:=fun W hW=>qrH 16 (by omega) u (by omega) W hW
  clear hn hu;go_enter func109,ntmps109;go_wp2_with fail;refine cN.mono ?_;rintro e w1⟨rfl,h1,hb1⟩;have cU:=h1.number hst a hal;rw [HN.out] at cU;have HF:=hid hb1;clear h1 hb1 cN;go_wp2_with fail;refine cU.mono ?_;rintro e w2⟨rfl,h2,hb2⟩;have HF2:=hid (And.intro h2 (HF.out.trans hb2))
  clear h2 hb2 cU HF;have cF2:=cF w2 (hTT.out.low hTB (HF2.out.2.below hBb hBw))
  go_wp2_with fail;refine cF2.mono ?_;rintro e w3⟨rfl,hb3⟩;have HF3:=hid (And.intro (HF2.out.1.below hb3) (HF2.out.2.trans (Bears.of_below hb3)))
  clear hb3 cF cF2 HF2;go_wp2_with fail;go_ret;exact⟨by rw [HE.out.1];rfl,by rw [HE.out.2];exact HF3.out.1,HF3.out.2⟩
 ·have HE:Hid (qfX 111 a=qiO 8 (U (qah a).1).toNat∧qqJ 111 a=qq1 a):=hid ⟨rfl,rfl⟩
  have hpb:=qcr a;obtain⟨n,hn⟩:=qQ ((qah a).1)
  rw [hn] at HE hpb;have HN:=hid hn;have hU:=qv7 n;obtain⟨u,hu⟩:=qQ ((U n).toNat)
  have hun:IntKind.u64.wrap n=(u:Int):=by rw [qfs];omega
  rw [hu] at HE;have cF:=fun W hW=>qrH 8 (by omega) u (by omega) W hW
  clear hn hu;go_enter func109,ntmps109;go_wp2_with fail;refine cN.mono ?_;rintro e w1⟨rfl,h1,hb1⟩;have cU:=h1.number hst a hal;rw [HN.out] at cU;have HF:=hid hb1;clear h1 hb1 cN;go_wp2_with fail;refine cU.mono ?_;rintro e w2⟨rfl,h2,hb2⟩;have HF2:=hid (And.intro h2 (HF.out.trans hb2))
  clear h2 hb2 cU HF;have cF2:=cF w2 (hTT.out.low hTB (HF2.out.2.below hBb hBw))
  go_wp2_with fail;refine cF2.mono ?_;rintro e w3⟨rfl,hb3⟩;have HF3:=hid (And.intro (HF2.out.1.below hb3) (HF2.out.2.trans (Bears.of_below hb3)))
  clear hb3 cF cF2 HF2;go_wp2_with fail;go_ret;exact⟨by rw [HE.out.1];rfl,by rw [HE.out.2];exact HF3.out.1,HF3.out.2⟩
end Go.Proofs.YtpodopnmkjinhaaGreatDoor
namespace Go.Proofs.YtpodopnmkjinhaaGreatDoor
open Go.RowKit
structure Cv where
 sp:Sp
 ahead:List UInt8
structure Pl where
 cvs:List Cv
 behind:List UInt8
 faulty:Bool
def Pl.more (p:Pl) (c:Cv):Pl:=⟨c::p.cvs,p.behind,p.faulty⟩
def qaM:List UInt8→List UInt8→Pl
 |[],acc=>⟨[],acc,false⟩
 |c::t,acc=>
  if c=92∧0<(qc9 t).2 then qaM (t.drop ((qc9 t).2-1)) (acc++(qc9 t).1)
  else if c≠37 then qaM t (acc++[c])
  else if(qaA t).letter=0 then⟨[],acc,true⟩
  else if(qaA t).letter=37 then qaM (t.drop ((qaA t).size-1)) (acc++[37])
  else(qaM (t.drop ((qaA t).size-1)) []).more ⟨qaA t,acc⟩
termination_by s=>s.length
decreasing_by all_goals (simp;try omega)
theorem qcY (acc:List UInt8):qaM [] acc=⟨[],acc,false⟩:=by rw [qaM]
theorem qdu (c:UInt8) (t acc:List UInt8):qaM (c::t) acc =
  if c=92∧0<(qc9 t).2 then qaM (t.drop ((qc9 t).2-1)) (acc++(qc9 t).1)
  else if c≠37 then qaM t (acc++[c])
  else if(qaA t).letter=0 then⟨[],acc,true⟩
  else if(qaA t).letter=37 then qaM (t.drop ((qaA t).size-1)) (acc++[37])
  else(qaM (t.drop ((qaA t).size-1)) []).more ⟨qaA t,acc⟩:=by rw [qaM]
structure Td where
 text:List UInt8
 left:List (List UInt8)
 st:Nat
def qaJ:List Cv→List (List UInt8)→Td
 |[],args=>⟨[],args,0⟩
 |c::r,args=>⟨c.ahead++(qgy c.sp (qgW args)).1++(qaJ r args.tail).text,(qaJ r args.tail).left,max (qgy c.sp (qgW args)).2 (qaJ r args.tail).st⟩
theorem qym {a b:Rd} (h1:a.text=b.text) (h2:a.left=b.left) (h3:a.st=b.st) (h4:a.over=b.over):a=b:=by
 cases a;cases b;simp_all
theorem qsI:∀(n:Nat) (s acc:List UInt8),s.length≤n→∀args,(qbf s args).ahead acc 0 =
  ⟨(qaJ (qaM s acc).cvs args).text++(qaM s acc).behind,(qaJ (qaM s acc).cvs args).left,max (qaJ (qaM s acc).cvs args).st (if(qaM s acc).faulty then 1 else 0),(qaM s acc).faulty⟩:=by
 intro n
 induction n with
 |zero=>
  intro s acc h args
  obtain rfl:=List.eq_nil_of_length_eq_zero (by omega:s.length=0)
  rw [qcY,qig];simp [Rd.ahead,qaJ]
 |succ n ih=>
  intro s acc h args
  cases s with
  |nil=>
   rw [qcY,qig];simp [Rd.ahead,qaJ]
  |cons c t=>
   have hd:∀k,(t.drop k).length≤n:=fun k=>by
    rw [List.length_drop];simp only [List.length_cons] at h
    omega
   rw [qdu,qjt];split
   ·rw [← ih _ _ (hd _)]
    simp [Rd.ahead]
   ·split
    ·have:=ih t (acc++[c]) (by simpa using hd 0) args
     rw [← this];simp [Rd.ahead]
    ·split
     ·simp [Rd.ahead,qaJ]
     ·split
      ·rw [← ih _ _ (hd _)]
       simp [Rd.ahead]
      ·have:=ih (t.drop ((qaA t).size-1)) [] (hd _) args.tail
       simp only [Rd.ahead,Pl.more,qaJ,Rd.mk.injEq,List.nil_append] at this ⊢
       obtain⟨h1,h2,h3,h4⟩:=this;refine⟨by rw [h1];simp,h2,?_,h4⟩
       rw [Nat.zero_max] at h3 ⊢;rw [h3,Nat.max_assoc]
       rfl
theorem qeJ (f:List UInt8) (args:List (List UInt8)):qbf f args =
  ⟨(qaJ (qaM f []).cvs args).text++(qaM f []).behind,(qaJ (qaM f []).cvs args).left,max (qaJ (qaM f []).cvs args).st (if(qaM f []).faulty then 1 else 0),(qaM f []).faulty⟩:=by
 rw [← qsI f.length f [] (Nat.le_refl _)]
 apply qym<;>simp [Rd.ahead]
theorem qsH:∀(n:Nat) (s acc:List UInt8),s.length≤n→qd8 s=(qaM s acc).cvs.length:=by
 intro n
 induction n with
 |zero=>
  intro s acc h
  obtain rfl:=List.eq_nil_of_length_eq_zero (by omega:s.length=0)
  rw [qcY,qk4]
  rfl
 |succ n ih=>
  intro s acc h
  cases s with
  |nil=>
   rw [qcY,qk4]
   rfl
  |cons c t=>
   have hd:∀k,(t.drop k).length≤n:=fun k=>by
    rw [List.length_drop];simp only [List.length_cons] at h
    omega
   rw [qdu,qph];by_cases h92:c=92
   ·rw [if_pos h92]
    by_cases h1:0<(qc9 t).2
    ·rw [if_pos ⟨h92,h1⟩,show max 1 (qc9 t).2=(qc9 t).2 by omega]
     exact ih _ _ (hd _)
    ·rw [if_neg (show ¬(c=92∧0<(qc9 t).2) from fun e=>h1 e.2),if_pos (show c≠37 by rw [h92];decide),show max 1 (qc9 t).2-1=0 by omega]
     exact ih _ _ (by simpa using hd 0)
   ·rw [if_neg h92,if_neg (show ¬(c=92∧0<(qc9 t).2) from fun e=>h92 e.1)]
    by_cases h37:c=37
    ·have h37':¬c≠37:=fun e=>e h37
     rw [if_neg h37',if_neg h37'];by_cases hl0:(qaA t).letter=0
     ·rw [if_pos hl0,if_pos hl0]
      rfl
     ·rw [if_neg hl0,if_neg hl0]
      by_cases hl1:(qaA t).letter=37
      ·rw [if_pos hl1,if_pos hl1]
       exact ih _ _ (hd _)
      ·rw [if_neg hl1,if_neg hl1,ih _ [] (hd _)]
       rfl
    ·rw [if_pos h37,if_pos h37]
     exact ih _ _ (by simpa using hd 0)
theorem qgo (f:List UInt8):qd8 f=(qaM f []).cvs.length:=qsH f.length f [] (Nat.le_refl _)
theorem qfW:∀(l:List Cv) (args:List (List UInt8)),(qaJ l args).left=args.drop l.length
 |[],args=>by simp [qaJ]
 |c::r,args=>by
  rw [qaJ,qfW r];simp only [List.length_cons]
  cases args with
  |nil=>simp
  |cons a b=>simp
theorem qii (f:List UInt8) (args:List (List UInt8)) (h0:(qbf f args).left≠[]) (h1:qd8 f≠0):(qbf f args).left.length+1≤args.length:=by
 rw [qgo] at h1;rw [qeJ] at h0 ⊢;simp only [qfW] at h0 ⊢
 have:=List.length_pos_iff.2 h0
 rw [List.length_drop] at this ⊢;omega
theorem qrJ (f:List UInt8):∀(n:Nat) (args:List (List UInt8)) (a b:Nat),args.length≤n→args.length+1≤a→args.length+1≤b→qgf a f args=qgf b f args:=by
 intro n
 induction n with
 |zero=>
  intro args a b h ha hb
  obtain rfl:=List.eq_nil_of_length_eq_zero (by omega:args.length=0)
  obtain⟨a,rfl⟩:∃x,a=x+1:=⟨a-1,by simp at ha;omega⟩
  obtain⟨b,rfl⟩:∃x,b=x+1:=⟨b-1,by simp at hb;omega⟩
  rw [qgf,qgf];split
  ·rfl
  ·rename_i hc
   exact absurd (qii f [] (fun e=>hc (.inr (.inl e))) (fun e=>hc (.inr (.inr e)))) (by simp)
 |succ n ih=>
  intro args a b h ha hb
  obtain⟨a,rfl⟩:∃x,a=x+1:=⟨a-1,by omega⟩
  obtain⟨b,rfl⟩:∃x,b=x+1:=⟨b-1,by omega⟩
  rw [qgf,qgf];split
  ·rfl
  ·rename_i hc
   have hl:=qii f args (fun e=>hc (.inr (.inl e))) (fun e=>hc (.inr (.inr e)))
   rw [ih _ a b (by omega) (by omega) (by omega)]
theorem qmQ (f:List UInt8) (args:List (List UInt8)) (h0:(qbf f args).left≠[]) (h1:(qaM f []).cvs≠[]) (h2:(qaM f []).faulty=false):
  qaV f args=((qbf f args).text++(qaV f (qbf f args).left).1,max (qbf f args).st (qaV f (qbf f args).left).2):=by
 have hc:qd8 f≠0:=by rw [qgo];exact fun e=>h1 (List.eq_nil_of_length_eq_zero e)
 have hl:=qii f args h0 hc;have ho:(qbf f args).over=false:=by rw [qeJ];exact h2
 unfold qaV;rw [qgf,if_neg (by rw [ho];simp [h0,hc])];rw [qrJ f (qbf f args).left.length (qbf f args).left args.length ((qbf f args).left.length+1) (Nat.le_refl _) hl (Nat.le_refl _)]
theorem qpB (f:List UInt8) (args:List (List UInt8)) (h:(qbf f args).left=[]∨(qaM f []).cvs=[]∨(qaM f []).faulty=true):
  qaV f args=((qbf f args).text,(qbf f args).st):=by
 unfold qaV;rw [qgf,if_pos];rcases h with h|h|h
 ·exact .inr (.inl h)
 ·exact .inr (.inr (by rw [qgo,h];rfl))
 ·exact .inl (by rw [qeJ];exact h)
end Go.Proofs.YtpodopnmkjinhaaGreatDoor
namespace Go.Proofs.YtpodopnmkjinhaaGreatDoor
open Go.Lib (hid)
open Go.RowKit
def Cv.cells (c:Cv):List Value:=[.int .i64 c.sp.wide,.bool c.sp.left,.bool (c.sp.zeros&&qkn c.sp.letter),encS c.ahead,.int .u8 c.sp.letter.toNat]
def qeW (l:List Cv):List Value:=l.flatMap Cv.cells
def plC (f:List UInt8) (k:Nat) (p v cv:Value) (fl:Bool):Array Value:=#[encS f,.int .i64 k,p,v,cv,encS [],.bool fl]
def qb5 (B b:Nat) (f:List UInt8) (k:Nat) (acc:List UInt8) (cvs:List Cv) (fl:Bool) (w:World):Prop:=
 ∃p v cv,Bld 119 B b 2 (plC f k p v cv fl) acc w∧w.ownsRow B 124 5 cv cvs.length (qeW cvs)∧B≤w.heap.size
theorem qsF (f:List UInt8) (k:Nat) (p v cv:Value) (fl:Bool) (q u:Value):((plC f k p v cv fl).setIfInBounds 2 q).setIfInBounds (2+1) u=plC f k q u cv fl:=by simp [plC]
theorem qor (f:List UInt8) (k:Nat) (p v cv:Value) (fl:Bool):(plC f k p v cv fl).size=7:=rfl
theorem qr8:liesAt prog prog.depth 119 (7/prog.cellsOf 119) 2 71 1=true:=by kernel_rfl
theorem qdK:119≠5:=by decide
theorem qbL:124≠5:=by decide
theorem qbu:119≠124:=by decide
theorem qao {w:World} {B k:Nat} {e T:TypeId} {v:Value} {n:Nat} {xs:List Value} {b:Nat} {cs:Array Value} {fr:Nat×Nat} (hown:w.ownsRow B e k v n xs) (hb:w.heap[b]?=some (.cells cs T fr)) (hTe:T≠e):v.ownBlock≠some b:=by
 rcases hown.2 with ⟨rfl,_⟩|⟨g,cap,cur,rfl,_,hg,_⟩
 ·simp [Value.ownBlock]
 ·intro h
  simp only [Value.ownBlock,Option.some.injEq] at h
  subst h;rw [hg] at hb;simp only [Option.some.injEq,Obj.cells.injEq] at hb
  exact hTe hb.2.1.symm
theorem qb5.drewN {B b k:Nat} {f acc:List UInt8} {cvs:List Cv} {fl:Bool} {w:World} (h:qb5 B b f k acc cvs fl w) (n:Nat):qb5 B b f k acc cvs fl (w.drewN n):=h
theorem qb5.below {B b k:Nat} {f acc:List UInt8} {cvs:List Cv} {fl:Bool} {w w':World} (h:qb5 B b f k acc cvs fl w) (hb:Below w.heap.size w w'):qb5 B b f k acc cvs fl w':=by
 obtain⟨p,v,cv,h1,h2,h3⟩:=h;exact⟨p,v,cv,h1.below hb,own_below h2 hb,Nat.le_trans h3 hb.size⟩
theorem qb5.c0 {B b k:Nat} {f acc:List UInt8} {cvs:List Cv} {fl:Bool} {w:World} (h:qb5 B b f k acc cvs fl w):w.cell? ⟨b,0,none⟩=some (encS f):=by
 obtain⟨p,v,cv,h1,-⟩:=h;exact Lib.cell_of_heap h1.2.2.1 0
theorem qb5.c1 {B b k:Nat} {f acc:List UInt8} {cvs:List Cv} {fl:Bool} {w:World} (h:qb5 B b f k acc cvs fl w):w.cell? ⟨b,1,none⟩=some (.int .i64 k):=by
 obtain⟨p,v,cv,h1,-⟩:=h;exact Lib.cell_of_heap h1.2.2.1 1
theorem qb5.c6 {B b k:Nat} {f acc:List UInt8} {cvs:List Cv} {fl:Bool} {w:World} (h:qb5 B b f k acc cvs fl w):w.cell? ⟨b,6,none⟩=some (.bool fl):=by
 obtain⟨p,v,cv,h1,-⟩:=h;exact Lib.cell_of_heap h1.2.2.1 6
theorem qb5.free {B b k:Nat} {f acc:List UInt8} {cvs:List Cv} {fl:Bool} {w:World} (h:qb5 B b f k acc cvs fl w) (j:Nat):w.frozen? ⟨b,j,none⟩=false:=by
 obtain⟨p,v,cv,h1,-⟩:=h;exact Lib.frozen_of_heap h1.2.2.1 j
theorem qb5.fault {B b k:Nat} {f acc:List UInt8} {cvs:List Cv} {fl:Bool} {w:World} (h:qb5 B b f k acc cvs fl w):qb5 B b f k acc cvs true (w.setCell ⟨b,6,none⟩ (.bool true))∧Below B w (w.setCell ⟨b,6,none⟩ (.bool true)):=by
 obtain⟨p,v,cv,h1,h2,h3⟩:=h;refine⟨⟨p,v,cv,h1.other (.bool true) (by omega) (by omega),?_,by simpa using h3⟩,(Below.refl _ _).setCell h1.1 _⟩
 exact h2.kept (row:=some b) ⟨rfl,rfl,rfl,by simp,fun g _ hg=>Below.heap_setCell _ _ _ _ (fun e=>hg (by rw [e]))⟩ (.inr (qao h2 h1.2.2.1 qbu))
theorem qb5.step {B b k k':Nat} {f acc:List UInt8} {cvs:List Cv} {fl:Bool} {p v cv:Value} {w w':World} (h1:Bld 119 B b 2 (plC f k p v cv fl) acc w) (h2:w.ownsRow B 124 5 cv cvs.length (qeW cvs)) (h3:B≤w.heap.size)
  (hb:w'.heap[b]?=some (.cells ((plC f k p v cv fl).setIfInBounds 1 (.int .i64 (k':Int))) 119 (0,0))) (ho:One b w w'):qb5 B b f k' acc cvs fl w'∧Below B w w':=by
 refine⟨⟨p,v,cv,h1.self ho hb ?_ ?_,h2.kept ho (.inr (qao h2 h1.2.2.1 qbu)),Nat.le_trans h3 ho.size⟩,(ho.bears B).below h1.1 h3⟩
 ·rfl
 ·rfl
theorem qb5.run {B b k:Nat} {f acc:List UInt8} {cvs:List Cv} {fl:Bool} {w:World} (h:qb5 B b f k acc cvs fl w) (of:List UInt8) (most:Nat) (hk:k≤f.length) (hs:f.length≤140737488351232):
  Calls prog 105 #[.pointer (some ⟨b,0,none⟩),encS of,.int .i64 most] w fun e w'=>e=.returned (encS (qcB of most (f.drop k)))∧qb5 B b f (k+(qcB of most (f.drop k)).length) acc cvs fl w'∧Below B w w':=by
 obtain⟨p,v,cv,h1,h2,h3⟩:=h;refine(qkt 119 b _ f of k most w h1.2.2.1 rfl rfl hk hs).mono ?_;rintro e w'⟨rfl,hb,ho⟩;exact⟨rfl,qb5.step h1 h2 h3 hb ho⟩
theorem qb5.lit {B b k:Nat} {f acc t:List UInt8} {c:UInt8} {cvs:List Cv} {fl:Bool} {w:World} (h:qb5 B b f k acc cvs fl w) (hd:f.drop k=c::t) (hs:f.length≤140737488351232):
  Calls prog 107 #[.pointer (some ⟨b,0,none⟩)] w fun e w'=>e=.returned (encS (qdJ c t).1)∧qb5 B b f (k+(qdJ c t).2) acc cvs fl w'∧Below B w w':=by
 obtain⟨p,v,cv,h1,h2,h3⟩:=h;refine(qov 119 b _ f k c t w h1.2.2.1 rfl rfl hd hs).mono ?_;rintro e w'⟨rfl,hb,ho⟩;exact⟨rfl,qb5.step h1 h2 h3 hb ho⟩
theorem qb5.more {B b k:Nat} {f acc:List UInt8} {cvs:List Cv} {fl:Bool} {w:World} (h:qb5 B b f k acc cvs fl w):
  Calls prog 104 #[.pointer (some ⟨b,0,none⟩)] w fun e w'=>e=.returned (.bool (decide (k<f.length)))∧∃m,w'=w.drewN m:=by
 have c:=qfL b ⟨f.toArray⟩ k w h.c0 h.c1
 rwa [show(⟨f.toArray⟩:ByteArray).size=f.length by simp [ByteArray.size]] at c
theorem qb5.byte {B b k:Nat} {f acc:List UInt8} {cvs:List Cv} {fl:Bool} {w:World} (h:qb5 B b f k acc cvs fl w) (x:UInt8) (hl:acc.length≤140737488351232):
  Calls prog 51 #[.pointer (some ⟨b,2,none⟩),.int .u8 x.toNat] w fun e w'=>e=.returned .nilIface∧qb5 B b f k (acc++[x]) cvs fl w'∧Below B w w':=by
 obtain⟨p,v,cv,h1,h2,h3⟩:=h;refine(qcQ 119 B b 2 _ acc x w (by rw [qor];exact qr8) h1 (by omega) h3).mono ?_
 rintro e w'⟨rfl,⟨v',hb⟩,ho⟩;rw [qsF] at hb;exact⟨rfl,⟨_,v',cv,hb,ho.row h2 qbL (qao h2 h1.2.2.1 qbu),Nat.le_trans h3 ho.size⟩,ho.below h1.1 h3⟩
theorem qb5.str {B b k:Nat} {f acc:List UInt8} {cvs:List Cv} {fl:Bool} {w:World} (h:qb5 B b f k acc cvs fl w) (x:List UInt8) (hl:acc.length+x.length≤140737488351232):
  Calls prog 52 #[.pointer (some ⟨b,2,none⟩),encS x] w fun e w'=>e=.returned (.tuple #[.int .i64 x.length,.nilIface])∧qb5 B b f k (acc++x) cvs fl w'∧Below B w w':=by
 obtain⟨p,v,cv,h1,h2,h3⟩:=h;refine(qa4 119 B b 2 _ acc x w (by rw [qor];exact qr8) h1 (by omega) h3).mono ?_
 rintro e w'⟨rfl,⟨v',hb⟩,ho⟩;rw [qsF] at hb;exact⟨rfl,⟨_,v',cv,hb,ho.row h2 qbL (qao h2 h1.2.2.1 qbu),Nat.le_trans h3 ho.size⟩,ho.below h1.1 h3⟩
def fl2:List UInt8:=[45,48]
def qya:List UInt8:=[48,49,50,51,52,53,54,55,56,57]
def lt6:List UInt8:=[115,98,100,99,120,111]
theorem qwe:∀c:UInt8,inB fl2 c=qwZ c:=Ans.all_u8 (by decide +kernel)
theorem qw2:∀c:UInt8,inB qya c=qcg c:=Ans.all_u8 (by decide +kernel)
theorem qwf:∀c:UInt8,inB lt6 c=qbz c:=Ans.all_u8 (by decide +kernel)
theorem qgs (of:List UInt8) (t:List UInt8):(qcB of 1 t=[]∧∀c r,t=c::r→inB of c=false)∨(∃c r,t=c::r∧inB of c=true∧qcB of 1 t=[c]):=by
 cases t with
 |nil=>exact .inl ⟨rfl,fun _ _ h=>by cases h⟩
 |cons c r=>
  unfold qcB;rw [List.take_succ_cons,List.take_zero,List.takeWhile_cons];cases h:inB of c with
  |false=>exact .inl ⟨by simp,fun c' r' e=>by obtain⟨rfl,rfl⟩:=List.cons.inj e;exact h⟩
  |true=>exact .inr ⟨c,r,rfl,h,by simp⟩
theorem qyT (t:List UInt8):qcB qya 3 t=qcC t:=by
 unfold qcB qcC;rw [show inB qya=qcg from funext qw2]
theorem qmt (t:List UInt8):∀c∈qcC t,qcg c=true:=fun c hc=>by
 unfold qcC at hc;exact qcF qcg _ c hc
theorem qgv (c:UInt8) (r:List UInt8):qaA (c::r)=if c=37 then⟨37,false,false,0,2⟩ else if qwZ c then qd3 (c==45) (c==48) 2 r else qd3 false false 1 (c::r):=rfl
theorem qtj (t:List UInt8) (h37:∀r,t≠37::r) (g u d lt:List UInt8) (hg:g=qcB fl2 1 t) (hu:u=t.drop g.length) (hd:d=qcC u) (hlt:lt=qcB lt6 1 (u.drop d.length)):
  (lt=[]∧(qaA t).letter=0)∨(∃c,lt=[c]∧qbz c=true∧qaA t=⟨c,g==[45],g==[48],qnZ d,g.length+d.length+2⟩):=by
 have key:∀(a b:Bool) (k:Nat),(lt=[]∧(qd3 a b k u).letter=0)∨(∃c,lt=[c]∧qbz c=true∧qd3 a b k u=⟨c,a,b,qnZ d,k+d.length+1⟩):=fun a b k=>by
  unfold qd3;rw [← hd];rcases qgs lt6 (u.drop d.length) with ⟨h1,h2⟩|⟨c,r,h1,h2,h3⟩
  ·left
   refine⟨by rw [hlt,h1],?_⟩
   cases hr:u.drop d.length with
   |nil=>rfl
   |cons c r=>
    have:=h2 c r hr
    rw [qwf] at this;simp only [this]
    rfl
  ·right
   rw [qwf] at h2;refine⟨c,by rw [hlt,h3],h2,?_⟩
   rw [h1];simp only [h2,if_true]
 rcases qgs fl2 t with ⟨h1,h2⟩|⟨c,r,h1,h2,h3⟩
 ·have hg0:g=[]:=by rw [hg,h1]
  have hut:u=t:=by rw [hu,hg0];rfl
  have hs:qaA t=qd3 false false 1 u:=by
   rw [hut];cases t with
   |nil=>rfl
   |cons c r=>
    have h3:=h2 c r rfl;rw [qwe] at h3;rw [qgv,if_neg (fun e=>h37 r (by rw [e])),if_neg (by rw [h3];simp)]
  rw [hs,hg0];rcases key false false 1 with h|⟨c,a1,a2,a3⟩
  ·exact .inl h
  ·exact .inr ⟨c,a1,a2,by rw [a3];simp;omega⟩
 ·have hg0:g=[c]:=by rw [hg,h3]
  have hut:u=r:=by rw [hu,hg0,h1];rfl
  rw [qwe] at h2;have hs:qaA t=qd3 (c==45) (c==48) 2 u:=by
   rw [hut,h1];rw [qgv,if_neg (fun e=>h37 r (by rw [h1,e])),if_pos h2]
  rw [hs,hg0];rcases key (c==45) (c==48) 2 with h|⟨c',a1,a2,a3⟩
  ·exact .inl h
  ·exact .inr ⟨c',a1,a2,by rw [a3];simp;omega⟩
end Go.Proofs.YtpodopnmkjinhaaGreatDoor
