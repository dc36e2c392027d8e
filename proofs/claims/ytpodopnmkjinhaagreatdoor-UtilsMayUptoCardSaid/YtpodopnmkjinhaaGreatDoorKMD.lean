/- What the statement of May12Said leans on, part 4. Conditions: each theorem's own. -/
import Derived.Test.YtpodopnmkjinhaaGreatDoorKMC
set_option linter.unusedSimpArgs false
set_option maxRecDepth 100000
set_option maxHeartbeats 8000000
open Go.Proofs.Tryz
open List renaming setIfInBounds_toArray → sIA, set_cons_zero → sC0, set_cons_succ → sCS
namespace Go.Proofs.YtpodopnmkjinhaaGreatDoor
open Go.Lib (hid)
open Go.RowKit
attribute [local go_sem] Oper.semAt_some
def qyk (N B:Nat) (ls:List (List UInt8)) (W:World):Prop:=
 ∃A c,W.heap[B]?=some (.cells #[.slice A (qad ls).length c] 69 (0,0))∧W.ownsRow N 5 1 (.slice A (qad ls).length c) (qad ls).length ((qad ls).map u8)
def qyl (w:World) (pre:List (List UInt8)) (W:World):Prop:=qyk (w.heap.size+2) w.heap.size (pre.foldl qbE []) W∧Below w.heap.size w W∧w.heap.size+2≤W.heap.size
theorem qyk.turn {N B Bs:Nat} {ls:List (List UInt8)} {X Y:World} {row:Option Nat} (h:qyk N B ls X) (hBN:B<N) (hBs:Bs<N) (hne:Bs≠B) (hg:X.grownBy Y row) (hr:∀r,row=some r→r=Bs∨(N≤r∧∃o:Obj,X.heap[r]?=some o∧o.isCells=false)):qyk N B ls Y:=by
 obtain⟨A,c,h1,h2⟩:=h;refine⟨A,c,(hg.block _ (lt_of_block h1) fun e=>?_).trans h1,qdL h2 fun j hj hc=>hg.block j ?_ fun e=>?_⟩
 ·rcases hr _ e.symm with h|⟨h,_⟩<;>omega
 ·obtain⟨cs,t,f,hc⟩:=hc;exact lt_of_block hc
 ·rcases hr _ e.symm with h|⟨_,o,ho,hn⟩
  ·omega
  ·obtain⟨cs,t,f,hc⟩:=hc
   rw [hc] at ho;cases ho;cases hn
theorem qsA {W:World} {N e size n:Nat} {v:Value} {xs:List Value} (h:W.ownsRow N e size v n xs):∃A c,v=.slice A n c:=by
 rcases h.2 with ⟨hv,h0⟩|⟨g,cap,cur,hv,_⟩
 ·exact⟨none,0,by rw [hv,h0]⟩
 ·exact⟨_,_,hv⟩
theorem quK:(prog.info? 5).map (fun i=>(i.zero,i.size,i.bytes))=some (some (.int .u8 0),1,1):=by kernel_rfl
theorem qrI (pre:List (List UInt8)) (x:List UInt8):(pre++[x]).foldl qbE []=qbE (pre.foldl qbE []) x:=by rw [List.foldl_append];rfl
theorem qkw (x:List UInt8):Lib.strCells ⟨x.toArray⟩=x.map u8:=by simp [Lib.strCells,u8]
set_option maxHeartbeats 16000000 in
theorem qqf (p:List UInt8) (w:World) (h0:0∉p) (hp:p≠[]) (hs:p.length≤549755813888):
  Calls prog 193 #[encS p] w fun e w'=>e=.returned (.tuple #[encS (qam p),.int .i64 0])∧Below w.heap.size w w':=by
 have cI:=fun W=>Tryz.strings_IndexByte ⟨p.toArray⟩ 0 W
 have hi:Lib.indexByte p 0=-1:=by
  rcases qfD 0 p with ⟨h,_⟩|⟨i,_,h⟩
  ·exact h
  ·exact absurd h h0
 rw [show Lib.indexByte (⟨p.toArray⟩:ByteArray).data.toList (Int.toNat 0).toUInt8=-1 from hi] at cI;have q0:(p==[])=false:=by simpa using hp
 have q1:p.isEmpty=false:=by cases p with|nil=>exact absurd rfl hp|cons a b=>rfl
 clear h0 hp hi;refine(callsIn_wide (n:=9)).1 ?_
 refine callsIn_of_wp_marks func193 rfl trivial ?_ rfl
 simp only [ntmps193,List.size_toArray,List.length_cons,List.length_nil,Nat.reduceAdd,Nat.reduceSub,Array.replicate_succ,Array.replicate_zero,List.push_toArray,List.append_toArray,List.nil_append,List.cons_append]
 gi_wp2
 refine⟨trivial,callsIn_wide.2 ((cI _).mono ?_)⟩
 rintro e w'⟨rfl,hw⟩;obtain rfl:w=w':=hw.symm
 gi_wp2
 refine⟨trivial,callsIn_wide.2 ((qlU p _).mono ?_)⟩
 rintro e w1⟨rfl,rfl⟩
 gi_wp2
 have hk0:((w.alloc (.cells #[.slice none 0 0] 69)).alloc (.cells #[encS p] 9)).heap[w.heap.size]?=some (.cells #[.slice none 0 0] 69 (0,0)):=(Below.heap_alloc _ _ _ (by simp)).trans (heap_alloc_new w _)
 have hk1:((w.alloc (.cells #[.slice none 0 0] 69)).alloc (.cells #[encS p] 9)).heap[w.heap.size+1]?=some (.cells #[encS p] 9 (0,0)):=by
  have:=heap_alloc_new (w.alloc (.cells #[.slice none 0 0] 69)) (.cells #[encS p] 9)
  rwa [World.size_alloc] at this
 have hk2:((w.alloc (.cells #[.slice none 0 0] 69)).alloc (.cells #[encS p] 9)).heap.size=w.heap.size+2:=by simp
 have hk3:Below w.heap.size w ((w.alloc (.cells #[.slice none 0 0] 69)).alloc (.cells #[encS p] 9)):=((Below.refl _ _).alloc (Nat.le_refl _) _).alloc (by simp) _
 generalize ((w.alloc (.cells #[.slice none 0 0] 69)).alloc (.cells #[encS p] 9))=W0 at *;have hseq:=qlV (w.heap.size+1) p W0 hk1 (by omega)
 obtain⟨i0,hi,hz0,hz1,hz2⟩:=info_parts quK;clear cI q0 q1;refine qsP (α:=List UInt8) rfl (by omega) (gf:=98) (lb:=#[.pointer (some ⟨w.heap.size+1,0,none⟩)]) rfl trivial
  (enters_of func98 (by kernel_rfl) rfl) hseq (fun k hk=>by rw [hk2,hk];omega) (fun h k=>qyi h k) (qyh (by omega)) (Below.refl _ _) rfl
  (qyl w) (fun _ _ _=>False) ?hI (fun _ _ _ _ _ h _ _=>h) ⟨⟨none,0,hk0,World.ownsRow_nil _ _ _ _⟩,hk3,by omega⟩
  (fun _ x a' _=>a'={ tmps:=#[encS p,undef,.string ⟨#[]⟩,.int .i64 0,.pointer (some ⟨w.heap.size,0,none⟩),encS x,encS p,.bool false,.bool false,encS p,.int .i64 (-1),.bool false,.bool false,encS p,.func (.func 98) #[] #[.pointer (some ⟨w.heap.size+1,0,none⟩)],encS x,undef,undef,undef,undef,undef,undef,undef,undef,undef,undef,undef,undef,undef,undef,undef,undef,undef,undef,undef,undef,undef],defers:=[] })
  (fun _ _ _=>qqS.pure _) ?assign ?body ?done (fun _ _ _ h=>h.elim)
 case hI=>
  rintro pre X Y row⟨h1,h2,h3⟩ hg hr;rw [hk2] at hr;exact⟨h1.turn (Bs:=w.heap.size+1) (by omega) (by omega) (by omega) hg hr,(qnF (by omega) hg hr h2).2,Nat.le_trans h3 hg.size⟩
 case assign=>
  rintro lp pre x W K h1 hpre hK
  gi_wp2
  exact hK _ _ (KeepsFrom.refl _ _) ⟨Nat.le_refl _,rfl⟩ h1 rfl
 case body=>
  rintro lp pre x a' W⟨⟨A,c,h1,h2⟩,h3,h4⟩ rfl hpre;have hm0:∀z∈pre++[x],47∉z:=fun z hz=>qhD p [] (by simp) z (hpre.subset hz)
  have hls:∀z∈pre.foldl qbE [],47∉z:=qkc (P:=fun z=>47∉z) pre (fun z hz _=>hm0 z (by simp [hz])) [] (by simp)
  have hlen:(qad (pre.foldl qbE [])).length+1+x.length≤p.length+1:=by
   have a1:=qkd pre []
   have a2:=qj4 p []
   obtain⟨z,hz⟩:=hpre;rw [← hz,qbh,qbh] at a2;simp [qad] at a1 a2 ⊢
   omega
  have HX:=hid (qrI pre x)
  have fin:∀W' ls,ls=qbE (pre.foldl qbE []) x→Turn (w.heap.size+2) w.heap.size W W'→qyk (w.heap.size+2) w.heap.size ls W'→KeepsFrom W0.heap.size W W'∧KpS (w.heap.size+1) W W'∧qyl w (pre++[x]) W':=fun W' ls e hT hO=>by
   rw [hk2];refine⟨hT.keeps,⟨hT.bel.size,hT.low _ (by omega) (by omega)⟩,?_,h3.trans hT.bel,Nat.le_trans h4 hT.bel.size⟩
   rw [HX.out,← e];exact hO
  have f0:=free_of_one h1;have c0:=cell_of_one h1;generalize pre.foldl qbE []=ls at *;clear hpre hm0 HX;by_cases hq:x=[]∨x=[46]
  ·have HF:=hid (fin W ls (by unfold qbE;rw [if_pos hq]) (Turn.refl _ _ _) ⟨A,c,h1,h2⟩)
   clear fin h1 h2 h3 h4 hls;rcases hq with rfl|rfl
   all_goals
    gi_wp2
    exact HF.out
  have hx1:x≠[]:=fun e=>hq (.inl e)
  have hx2:x≠[46]:=fun e=>hq (.inr e)
  have q1:(x==[])=false:=by simpa using hx1
  have q2:(x==[46])=false:=by simpa using hx2
  have q4:x.isEmpty=false:=by cases x with|nil=>exact absurd rfl hx1|cons a b=>rfl
  by_cases hx3:x=[46,46]
  ·subst hx3
   obtain⟨m,hm⟩:=qQ (qd1 (qad ls))
   have hlb:=qr3 (qad ls)
   have hback:=qo7 ls hls;rw [hm] at hlb hback;have hO:=qva h2 (k:=(max 0 m).toNat) (by omega)
   rw [← List.map_take,hback] at hO;have hkl:(qad ls.dropLast).length=(max 0 m).toNat:=by rw [← hback,List.length_take];omega
   have hcap:=qm9 h2;have HF:=hid (fin (W.drew.setCell ⟨w.heap.size,0,none⟩ (.slice A (max 0 m).toNat c)) ls.dropLast (by unfold qbE;rw [if_neg (by decide),if_pos rfl]) ((Turn.drew _ _ W).trans (Turn.set W.drew 0 _))
    ⟨A,c,by rw [hkl];exact one_setCell (w:=W.drew) h1,by rw [hkl];exact qdL hO fun j hj _=>Below.heap_setCell W.drew _ _ _ (by show j≠w.heap.size;omega)⟩)
   have cB:=fun(W1:World) (e:W1.heap=W.heap)=>qjX A c (qad ls) W1 (fun k hk=>by
    obtain⟨g,o,e1,e2⟩:=qyj.of_own h2 k hk;exact⟨g,o,e1,by simpa [World.cell?,e] using e2⟩) (by omega)
   rw [hm] at cB;have hif:0≤max 0 m∧max 0 m≤(c:Int):=by omega
   generalize (qad ls).length=n at *;clear fin hq hx1 hx2 hm hback hO hkl h2 h3 h4 hls hseq;have n0:W.drew.cell? ⟨w.heap.size,0,none⟩=some (.slice A n c):=c0
   have n1:W.drew.frozen? ⟨w.heap.size,0,none⟩=false:=f0
   gi_wp2
   refine qcZ lp 7 (by kernel_rfl) ?hnd ?hQ (fun _=>True) ?_
   case hnd=>
    intro o ho c e
    simp only [List.mem_toArray,List.mem_cons,List.not_mem_nil,or_false] at ho
    rcases ho with rfl|rfl|rfl|rfl|rfl|rfl<;>cases e
   case hQ=>
    rintro⟨a9,w9,h9⟩
    exact h9
   refine wpAnyH_ready (rs:=[0,1]) (by kernel_rfl) (by simp) (AllReadyH.cons rfl (fun K hK=>?_) (AllReadyH.cons rfl (fun K hK=>?_) AllReadyH.nil))
   ·go_simp
    refine qaE hK trivial ?_
    clear hK K;refine qae 1 rfl fun K hK=>?_
    go_simp;refine qaE hK trivial ?_
    clear hK K;refine qae 2 rfl fun K hK=>?_
    go_simp;go_at_call 235
    refine(cB W.drew rfl).mono ?_;rintro e W1⟨rfl,rfl⟩;go_wp2_with fail;refine qaE hK trivial ?_
    clear hK K;refine qae 3 rfl fun K hK=>?_
    go_simp;refine qaE hK trivial ?_
    clear hK K;refine qae 4 rfl fun K hK=>?_
    go_simp;refine qaE hK trivial ?_
    clear hK K;refine qae 5 rfl fun K hK=>?_
    go_simp;refine qaE hK trivial ?_
    clear hK K;refine wpAnyH_done (by kernel_rfl) ?_ _
    exact HF.out
   ·go_simp
    refine qaE hK trivial ?_
    clear hK K;refine wpAnyH_ready (rs:=[0,2]) (by kernel_rfl) (by simp) (AllReadyH.cons rfl (fun K hK=>?_) (AllReadyH.cons rfl (fun K hK=>?_) AllReadyH.nil))
    ·go_simp
     refine qaE hK trivial ?_
     clear hK K;refine qae 2 rfl fun K hK=>?_
     go_simp;go_at_call 235
     refine(cB W.drew rfl).mono ?_;rintro e W1⟨rfl,rfl⟩;go_wp2_with fail;refine qaE hK trivial ?_
     clear hK K;refine qae 3 rfl fun K hK=>?_
     go_simp;refine qaE hK trivial ?_
     clear hK K;refine qae 4 rfl fun K hK=>?_
     go_simp;refine qaE hK trivial ?_
     clear hK K;refine qae 5 rfl fun K hK=>?_
     go_simp;refine qaE hK trivial ?_
     clear hK K;refine wpAnyH_done (by kernel_rfl) ?_ _
     exact HF.out
    ·go_simp
     go_at_call 235
     refine(cB W.drew rfl).mono ?_;rintro e W1⟨rfl,rfl⟩;go_wp2_with fail;refine qaE hK trivial ?_
     clear hK K;refine wpAnyH_ready (rs:=[0,3]) (by kernel_rfl) (by simp) (AllReadyH.cons rfl (fun K hK=>?_) (AllReadyH.cons rfl (fun K hK=>?_) AllReadyH.nil))
     ·go_simp
      refine qaE hK trivial ?_
      clear hK K;refine qae 3 rfl fun K hK=>?_
      go_simp;refine qaE hK trivial ?_
      clear hK K;refine qae 4 rfl fun K hK=>?_
      go_simp;refine qaE hK trivial ?_
      clear hK K;refine qae 5 rfl fun K hK=>?_
      go_simp;refine qaE hK trivial ?_
      clear hK K;refine wpAnyH_done (by kernel_rfl) ?_ _
      exact HF.out
     ·go_simp
      refine qaE hK trivial ?_
      clear hK K;refine qae 0 rfl fun K hK=>?_
      go_simp;refine qaE hK trivial ?_
      clear hK K;refine qae 4 rfl fun K hK=>?_
      go_simp;refine qaE hK trivial ?_
      clear hK K;refine qae 5 rfl fun K hK=>?_
      go_simp;refine qaE hK trivial ?_
      clear hK K;refine wpAnyH_done (by kernel_rfl) ?_ _
      exact HF.out
  ·have q3:(x==[46,46])=false:=by simpa using hx3
   have hxs:=qbk x;have hst:qbE ls x=ls++[x]:=by unfold qbE;rw [if_neg hq,if_neg hx3]
   have hN:w.heap.size+2≤W.heap.size:=h4
   have HO:=hid h2;clear hls hq hx1 hx2 hx3 hseq h3
   gi_wp2_with (gi_at_builtin;first
    |(refine wpListIn_append_own _ rfl _ _ 69 rfl (w.heap.size+2) 5 i0 (.int .u8 0) 1 1 underlying69 hi hz0 hz1 hz2 rfl (by decide) _ _ _ rfl (h2.alloc _) ⟨W.heap.size,0,none⟩ 1 1 [.int .u8 47] rfl rfl (cell_one_new _ _ _) (by simp [Value.oneCell']) (by unfold maxLen;omega) (by omega) (by simp;omega) ?_;intro v1 w1 hown1 hg1 _;have c1:w1.cell? ⟨w.heap.size,0,none⟩=some (.slice A (qad ls).length c):=cell_of_one ((hg1.block _ (by simp;omega) (fun e=>by have:=(qaT HO.out _ e.symm).1;omega)).trans ((Below.heap_alloc _ _ _ (by omega)).trans h1));have f1:w1.frozen? ⟨w.heap.size,0,none⟩=false:=free_of_one ((hg1.block _ (by simp;omega) (fun e=>by have:=(qaT HO.out _ e.symm).1;omega)).trans ((Below.heap_alloc _ _ _ (by omega)).trans h1)))
    |(refine qda _ rfl _ _ 69 9 rfl (w.heap.size+2) 5 i0 underlying69 underlying9 hi hz0 hz1 hz2 _ _ _ rfl hown1 ⟨x.toArray⟩ rfl (by unfold maxLen;omega) (by omega) (by have:=hg1.size;simp at this;omega) ?_;intro v2 w2 hown2 hg2;obtain⟨A2,k2,rfl⟩:=qsA hown2;have hb2:w2.heap[w.heap.size]?=some (.cells #[.slice A (qad ls).length c] 69 (0,0)):=(hg2.block _ (by have:=hg1.size;simp at this;omega) (fun e=>by have:=(qaT hown1 _ e.symm).1;omega)).trans ((hg1.block _ (by simp;omega) (fun e=>by have:=(qaT HO.out _ e.symm).1;omega)).trans ((Below.heap_alloc _ _ _ (by omega)).trans h1));have c2:=cell_of_one hb2;have f2:=free_of_one hb2;clear c1 f1))
   have t1:Turn (w.heap.size+2) w.heap.size W (W.alloc (.cells #[.int .u8 47] 5)):=.alloc hN (by omega) _
   have t2:Turn (w.heap.size+2) w.heap.size W w1:=t1.trans (.grown (Nat.le_trans hN t1.bel.size) (by omega) hg1 (qaT (HO.out.alloc _)))
   have t3:Turn (w.heap.size+2) w.heap.size W w2:=t2.trans (.grown (Nat.le_trans hN t2.bel.size) (by omega) hg2 (qaT hown1))
   have t4:=t3.trans (.set w2 0 (.slice A2 ((qad ls).length+1+(⟨x.toArray⟩:ByteArray).size) k2))
   have hnl:(qad (ls++[x])).length=(qad ls).length+1+(⟨x.toArray⟩:ByteArray).size:=by rw [qeo,qbk];simp;omega
   have HF:=hid (fin _ (ls++[x]) hst.symm t4 ⟨A2,k2,by rw [hnl];exact one_setCell hb2,by
    rw [hnl,qeo];refine qdL (N:=w.heap.size+2) (W:=w2) ?_ fun j hj _=>Below.heap_setCell _ _ _ _ (by show j≠w.heap.size;omega)
    rw [qkw] at hown2
    simpa [u8] using hown2⟩)
   exact HF.out
 case done=>
  rintro W⟨⟨A,c,h1,h2⟩,h3,h4⟩ hK;have c0:=cell_of_one h1;have hne:∀k,k≠W0.heap.size→(W.putObj W0.heap.size (.deferred none)).heap[k]?=W.heap[k]?:=fun k hk=>World.putObj_heap_other hk
  have hcv:=qj1 h2;have HB:=hid (show Below w.heap.size w (W.putObj W0.heap.size (.deferred none)) from h3.grown (grownBy_putObj' _ _ _) h3.size fun k e=>by cases e;omega)
  have HP:Hid (qam p=joinL ((qbX [] p).foldl qbE [])):=hid rfl
  by_cases he:(qbX [] p).foldl qbE []=[]
  ·rw [he] at h1 c0 hcv
   have HE:Hid (qam p=[47]):=hid (by rw [HP.out,he];rfl)
   clear h1 h2 h3 h4 he HP hseq
   gi_wp2
   refine⟨by simp,.inl ⟨_,_,rfl,run_takeDeferred hK,?_⟩⟩
   refine⟨.tuple #[encS [47],.int .i64 0],by simp [results,Tryz.results193,go_sem],by rw [HE.out],HB.out⟩
  ·have hl:=qma he
   have HE:Hid (qam p=qad ((qbX [] p).foldl qbE [])):=hid (by rw [HP.out];unfold joinL;rw [if_neg he])
   have q1:(((qad ((qbX [] p).foldl qbE [])).length:Int)==0)=false:=beq_eq_false_iff_ne.2 (by omega)
   generalize qad ((qbX [] p).foldl qbE [])=z at *;clear h1 h2 h3 h4 he HP hseq
   gi_wp2
   refine⟨by simp,.inl ⟨_,_,rfl,run_takeDeferred hK,?_⟩⟩
   refine⟨.tuple #[encS z,.int .i64 0],by simp [results,Tryz.results193,go_sem],by rw [HE.out],HB.out⟩
theorem qix (p:List UInt8) (w:World) (hs:p.length≤549755813888):
  Calls prog 193 #[encS p] w fun e w'=>e=.returned (.tuple #[encS (qaK p).1,.int .i64 (qaK p).2])∧Below w.heap.size w w':=by
 by_cases hp:p=[]
 ·subst hp
  have HQ:Hid (qaK []=([],31)):=hid rfl
  go_enter func193,ntmps193;go_wp2;go_ret2;exact⟨by rw [HQ.out];rfl,Below.refl _ _⟩
 by_cases h0:0∈p
 ·have cI:=fun W=>Tryz.strings_IndexByte ⟨p.toArray⟩ 0 W
  rcases qfD 0 p with ⟨_,h⟩|⟨i,h,_⟩
  ·exact absurd h0 h
  rw [show Lib.indexByte (⟨p.toArray⟩:ByteArray).data.toList (Int.toNat 0).toUInt8=(i:Int) from h] at cI;have HQ:Hid (qaK p=([],31)):=hid (qej fun hh=>hh.1 h0)
  have q0:(p==[])=false:=by simpa using hp
  have q1:p.isEmpty=false:=by cases p with|nil=>exact absurd rfl hp|cons a b=>rfl
  clear hp h0 h;go_enter func193,ntmps193;go_wp2_with (go_at_call 46;(with_reducible refine(cI _).mono ?_);rintro e w1 ⟨rfl,rfl⟩)
  go_ret2;exact⟨by rw [HQ.out];rfl,Below.refl _ _⟩
 ·refine(qqf p w h0 hp hs).mono ?_
  rintro e w'⟨rfl,hb⟩;rw [qhi ⟨h0,hp⟩];exact⟨rfl,hb⟩
def qcO (t:List ND) (k:Nat) (h:k<t.length):Prop:=
 qjP t[k].p∧(∀_:0<k,t[k-1].p<t[k].p)∧qak (t.take k) (qcE t[k].p)=2∧(t[k].d=true→t[k].x=[])
theorem qwF {t:List ND} (h:∀k (hk:k<t.length),0<k→t[k-1].p<t[k].p):Asc t:=by
 refine List.pairwise_iff_getElem.2 fun i j hi hj hij=>?_
 obtain⟨d,rfl⟩:∃d,j=i+1+d:=⟨j-(i+1),by omega⟩
 induction d with
 |zero=>exact h (i+1) hj (by omega)
 |succ d ih=>
  have h1:=ih (by omega) (by omega)
  have h2:=h (i+1+(d+1)) hj (by omega)
  exact List.lt_trans h1 h2
theorem qrZ {t:List ND} {k:Nat} {q:List UInt8} (h:qak (t.take k) q=2):qak t q=2:=by
 rcases qbY (t.take k) q with ⟨e,_⟩|⟨e,_⟩|⟨_,h1|⟨n,h1,h2⟩⟩
 ·rw [e] at h;simp at h
 ·rw [e] at h;simp at h
 ·unfold qak;rw [if_pos h1]
 ·have hf:qbU t q=some n:=by
   unfold qbU at h1 ⊢
   rw [← List.take_append_drop k t,List.find?_append,h1];rfl
  unfold qak;split
  ·rfl
  ·rw [hf];simp [h2]
theorem qwX {t:List ND} (hl:t.length≤256) (hs:qbM t≤65536) (h:∀k (hk:k<t.length),qcO t k hk):OkT t:=by
 refine⟨hl,fun k hk=>?_⟩
 obtain⟨h1,h2,h3,h4⟩:=h k hk;have e:=qeL (t.take (k+1)) (t.drop (k+1))
 rw [List.take_append_drop] at e;refine⟨h1.1,h1.2.1,h1.2.2,h2,h4,by omega,?_⟩
 rw [← qgh h1.2.1 h1.2.2];exact qrZ h3
theorem qxb (l:List UInt8) (c:UInt8) (r:List UInt8):l<l++c::r:=by
 induction l with
 |nil=>exact List.nil_lt_cons c r
 |cons a l ih=>exact List.cons_lt_cons_self.2 ih
theorem qt1 {p:List UInt8} (h:qam p=p) (h47:p≠[47]):qbl p=[47]∨qbl p<p:=by
 obtain⟨ls,w,h1,h2,h3⟩:=qjw h h47;have e:qbl p=joinL ls:=by unfold qbl;rw [h1,List.dropLast_concat]
 rw [e];by_cases hl:ls=[]
 ·left;rw [hl];rfl
 ·right
  conv=>rhs;rw [h2,qeo]
  unfold joinL;rw [if_neg hl];exact qxb _ _ _
theorem qxh {t:List ND} (h:OkT t) (k:Nat) (hk:k<t.length):qcO t k hk:=by
 obtain⟨h1,h2,h3,h4,h5,_,h7⟩:=h.2 k hk;refine⟨⟨h1,h2,h3⟩,h4,?_,h5⟩
 rw [qgh h2 h3];have ha:Asc (t.take k):=List.Pairwise.sublist (List.take_sublist _ _) h.asc
 rw [qdd ha];rcases (qdd h.asc).1 h7 with e|⟨n,hn,e,hd⟩
 ·exact .inl e
 ·right
  obtain⟨j,hj,rfl⟩:=List.getElem_of_mem hn;have hjk:j<k:=Classical.byContradiction fun hge=>by
   have hn3:=(h.2 j hj).2.2.1
   rcases qt1 h2 h3 with e2|e2
   ·rw [e2] at e;exact hn3 e
   ·rw [← e] at e2
    by_cases ejk:j=k
    ·subst ejk;exact List.lt_irrefl _ e2
    ·exact List.lt_irrefl _ (List.lt_trans e2 (qqX h.asc hk hj (by omega)))
  exact⟨t[j],List.mem_take_iff_getElem.2 ⟨j,by omega,rfl⟩,e,hd⟩
theorem qhw {t:List ND} (h:OkT t):qaC t=0:=by unfold qaC;rw [if_pos h]
theorem qhv {t:List ND} (h:¬OkT t):qaC t=9:=by unfold qaC;rw [if_neg h]
theorem qgl {w:World} {P:Nat→Prop} {A:Option Addr} {t:List ND} (h:qal w P A t) (k:Nat):qal w P A (t.take k):=fun j hj=>by
 have hj2:j<t.length:=by rw [List.length_take] at hj;omega
 obtain⟨g,o,e,hp,c0,c1,c2⟩:=h j hj2;exact⟨g,o,e,hp,by rw [List.getElem_take];exact c0,by rw [List.getElem_take];exact c1,by rw [List.getElem_take];exact c2⟩
end Go.Proofs.YtpodopnmkjinhaaGreatDoor
namespace Go.Proofs.YtpodopnmkjinhaaGreatDoor
open Go.RowKit
def Cells (L:List (Addr×Value)) (w:World):Prop:=∀q∈L,w.cell? q.1=some q.2
theorem Cells.below {L:List (Addr×Value)} {w w':World} (h:Cells L w) (hb:Below w.heap.size w w'):Cells L w':=fun q hq=>cell_below hb (h q hq)
theorem takeH {P:Program} {ops:Array Oper} {Q:Exit→Act→World→Prop} {md:Region.Mode} {S:World→Prop} {i:Nat} {oi:Oper} {d:Option Tmp} {v:Value} {fuel:Nat} {listed:Array Bool} {a:Act} {w:World} (hi:ops[i]?=some oi) (hd:oi.dst=d)
  (hs:Region.noSelect ops=true) (hf:Region.free md ops listed i=true) (hr:(Region.ready md ops listed).contains i=true)
  (hQ:∀c a w,Q (.panic c) (a.put d v) w→Q (.panic c) a w) (hy:YieldsIf P ops S oi v a) (hS:S w)
  (h:wpAnyH P md ops Q S fuel (listed.setIfInBounds i true) (a.put d v) w):wpAnyH P md ops Q S (fuel+1) listed a w:=by
 subst hd;exact wpAnyH_take hi hs hf hr hQ hy hS h
end Go.Proofs.YtpodopnmkjinhaaGreatDoor
namespace Go.Proofs.YtpodopnmkjinhaaGreatDoor
open Go.Lib (hid)
open Go.RowKit
set_option maxHeartbeats 16000000 in
theorem qeM (A:Option Addr) (c:Nat) (t:List ND) (w:World) (hT:qal w (fun _=>True) A t) (hl:t.length≤1099511627776) (hz:qbj t) (hcap:t.length≤c):
  Calls prog 11 #[.slice A t.length c] w fun e w'=>e=.returned (.int .i64 (qaC t))∧Below w.heap.size w w':=by
 by_cases h256:256<t.length
 ·have HC:Hid (qaC t=9):=hid (qhv fun h=>by have:=h.1;omega)
  have g0:(256:Int)<(t.length:Int):=by omega
  clear h256 hT hz;go_enter func11,ntmps11;go_wp2;go_ret;exact⟨by rw [HC.out];rfl,Below.refl _ _⟩
 have g0:decide ((256:Int)<(t.length:Int))=false:=by simp;omega
 have h256':t.length≤256:=by omega
 have cS:=qoK A c t w hT h256' hz;by_cases hsz:65536<qbM t
 ·have HC:Hid (qaC t=9):=hid (qhv fun h=>by have:=h.sum;omega)
  have g1:decide ((65536:Int)<(qbM t:Int))=true:=by simp;omega
  generalize qbM t=S at *;clear h256 hT hz hsz;go_enter func11,ntmps11;go_wp2_with fail;refine cS.mono ?_;rintro e w1⟨rfl,hb⟩;have HB:=hid hb;clear hb cS;go_wp2_with fail;go_ret;exact⟨by rw [HC.out];rfl,HB.out⟩
 have g1:decide ((65536:Int)<(qbM t:Int))=false:=by simp;omega
 have HOK:Hid ((∀k (hk:k<t.length),qcO t k hk)→qaC t=0):=hid fun h=>qhw (qwX h256' (by omega) h)
 have HBAD:Hid (∀k (hk:k<t.length),¬qcO t k hk→qaC t=9):=hid fun k hk h=>qhv fun ho=>h (qxh ho k hk)
 generalize qbM t=S at *;clear h256 hsz;go_enter func11,ntmps11;go_wp2_with fail;refine cS.mono ?_;rintro e w1⟨rfl,hb⟩;have hTb:=hT.below hb;have HB0:=hid hb;clear hb cS hT;go_wp2_with fail;clear g0 g1;go_loopw [15] (fun i wr=>∃k:Nat,k≤t.length∧i=.int .i64 k∧Hid (∀j (h:j<t.length),j<k→qcO t j h)∧Below w1.heap.size w1 wr) (fun i _=>t.length-(intOf i).toNat)
 case atStart=>exact⟨0,Nat.zero_le _,rfl,hid (fun j _ h=>absurd h (Nat.not_lt_zero _)),Below.refl _ _⟩
 case round=>
  obtain⟨k,hk,rfl,HZ,hB⟩:=hrel;by_cases hlt:k<t.length
  ·have hTr:=hTb.below hB
   obtain⟨hp1,hp2⟩:=hz _ (List.getElem_mem hlt)
   obtain⟨g,o,rfl,-,c0,c1,c2⟩:=hTr k hlt;have hasc:Asc (t.take k):=qwF fun j hj hj0=>by
    have hj':j<k:=by rw [List.length_take] at hj;omega
    have:=(HZ.out j (by omega) hj').2.1 hj0
    rw [List.getElem_take,List.getElem_take];exact this
   have hkl:(t.take k).length=k:=by rw [List.length_take];omega
   have cT:=fun W=>qkA t[k].p W (by omega)
   have cK:=fun W (hb:Below wr.heap.size wr W)=>qgk (some ⟨g,o,none⟩) c (t.take k) (qcE t[k].p) W (qgl (hTr.below hb) k) (by omega) hasc
   rw [hkl] at cK;have hprev:∀h:0<k,wr.cell? ⟨g,o+(k-1)*3,none⟩=some (encS t[k-1].p):=fun h=>by
    obtain⟨g',o',e,-,d0,-,-⟩:=hTr (k-1) (by omega)
    cases e;exact d0
   have HF:Hid (qcO t k hlt↔qjP t[k].p∧(∀_:0<k,t[k-1].p<t[k].p)∧qak (t.take k) (qcE t[k].p)=2∧(t[k].d=true→t[k].x=[])):=hid Iff.rfl
   have HNF:Hid (¬qcO t k hlt→qaC t=9):=hid (HBAD.out k hlt)
   have HB:=qH HB0 hB;have hB1:=hB.size;generalize hpp:t[k].p=p at *;generalize hdd:t[k].d=d at *;generalize hxx:t[k].x=x at *;obtain⟨q,hq⟩:=qQ ((if h:0<k then t[k-1].p else []))
   have hqk:∀h:0<k,t[k-1].p=q:=fun h=>by rw [← hq,dif_pos h]
   obtain⟨W0,hW0⟩:=qQ (wr.alloc (.cells #[encS p,.bool d,encS x] 48))
   have hbW:Below wr.heap.size wr W0:=by rw [← hW0];exact(Below.refl _ _).alloc (Nat.le_refl _) _
   have hx3:qiN W0 wr.heap.size (encS p) (.bool d) (encS x):=by rw [← hW0];exact heap_alloc_new _ _
   have hCells:Cells [(⟨wr.heap.size,0,none⟩,encS p),(⟨wr.heap.size,1,none⟩,.bool d),(⟨wr.heap.size,2,none⟩,encS x)] W0.drew:=fun q hq=>by
    rcases List.mem_cons.1 hq with rfl|hq
    ·exact hx3.a0
    rcases List.mem_cons.1 hq with rfl|hq
    ·exact hx3.a1
    rcases List.mem_cons.1 hq with rfl|hq
    ·exact hx3.a2
    ·cases hq
   have HX:=hid (And.intro hpp (And.intro hdd hxx))
   clear hpp hdd hxx hq HBAD;by_cases h1:qg4 p=true
   ·have HTOLD:Hid (qjP p):=hid (qvU h1)
    rw [h1] at cT;have hpne:p≠[]:=(HTOLD.out).1.2
    have cH:=fun W=>qob p hpne (by omega) W
    have cT0:True:=trivial
    clear hpne h1;rcases Nat.eq_zero_or_pos k with rfl|hk0
    ·clear hprev
     simp only [Nat.zero_mul,Nat.add_zero] at c0 c1 c2
     by_cases h3:qak (t.take 0) (qcE p)=2
     rotate_left
     ·have HC:Hid (qaC t=9):=hid (HNF.out fun h=>h3 (HF.out.1 h).2.2.1)
      have q5:(qak (t.take 0) (qcE p)==2)=false:=by simpa using h3
      have q5':(qak (t.take 0) (qcE p) !=2)=true:=by simpa using h3
      generalize qak (t.take 0) (qcE p)=KK at *;clear HNF HF HOK h3 hqk;have hS:Cells [(⟨wr.heap.size,0,none⟩,encS p),(⟨wr.heap.size,1,none⟩,.bool d),(⟨wr.heap.size,2,none⟩,encS x)] W0.drew:=hCells
      clear hTr hTb hz hasc hx3 hCells HX cT0;go_wp2_with fail;clear c0 c1 c2;refine wp_region_held_drew (S:=Cells [(⟨wr.heap.size,0,none⟩,encS p),(⟨wr.heap.size,1,none⟩,.bool d),(⟨wr.heap.size,2,none⟩,encS x)]) (by kernel_rfl) hS (fun _=>?_)
      refine qaa 0 20 (.pointer (some ⟨wr.heap.size,0,none⟩)) rfl rfl hS ?_
      refine qai 1 21 (encS p) rfl rfl (Or.inl ⟨by rfl,fun w' hS'=>by have s0:=hS' _ (.head _);dsimp only at s0;go_simp⟩) hS ?_
      refine qae 2 rfl fun K hK=>?_
      go_simp;go_at_call 22
      refine(cT W0.drew).mono ?_;rintro e w3⟨rfl,hb3⟩;have hS3:=hS.below hb3;go_wp2_with fail;refine qaE hK hS3 ?_
      clear hK K;refine qaa 3 23 (.bool false) rfl rfl hS3 ?_
      refine qaa 4 24 (.bool false) rfl rfl hS3 ?_
      refine qaa 5 25 (.int .i64 0) rfl rfl hS3 ?_
      refine qaa 6 26 (.bool false) rfl rfl hS3 ?_
      refine qaa 7 27 (.bool false) rfl rfl hS3 ?_
      refine qar 8 28 rfl rfl hS3 ?_
      refine qar 9 29 rfl rfl hS3 ?_
      refine qar 10 30 rfl rfl hS3 ?_
      refine qar 11 31 rfl rfl hS3 ?_
      refine qar 12 32 rfl rfl hS3 ?_
      refine qar 13 33 rfl rfl hS3 ?_
      refine qar 14 34 rfl rfl hS3 ?_
      refine qar 15 35 rfl rfl hS3 ?_
      refine qar 16 36 rfl rfl hS3 ?_
      refine qaa 17 37 (.bool false) rfl rfl hS3 ?_
      refine qaa 18 38 (.bool false) rfl rfl hS3 ?_
      refine qaa 19 39 (.bool false) rfl rfl hS3 ?_
      refine qaa 20 40 (.slice (some ⟨g,o,none⟩) t.length c) rfl rfl hS3 ?_
      refine qaa 21 41 (.int .i64 0) rfl rfl hS3 ?_
      refine qaa 22 42 (.slice (some ⟨g,o,none⟩) 0 c) rfl rfl hS3 ?_
      refine qaa 23 43 (.pointer (some ⟨wr.heap.size,0,none⟩)) rfl rfl hS3 ?_
      refine qai 24 44 (encS p) rfl rfl (Or.inl ⟨by rfl,fun w' hS'=>by have s0:=hS' _ (.head _);dsimp only at s0;go_simp⟩) hS3 ?_
      refine qae 25 rfl fun K hK=>?_
      go_simp;go_at_call 24
      refine(cH w3).mono ?_;rintro e w4⟨rfl,rfl⟩;go_wp2_with fail;refine qaE hK hS3 ?_
      clear hK K;refine qae 26 rfl fun K hK=>?_
      go_simp;go_at_call 23
      refine(cK w3 (hbW.trans (((Below.refl _ W0).drew.trans hb3).mono hbW.size))).mono ?_
      rintro e w4⟨rfl,hb4⟩;have hS4:=hS3.below hb4;go_wp2_with fail;refine qaE hK hS4 ?_
      clear hK K;refine qaa 27 47 (.bool true) rfl rfl hS4 ?_
      refine qaa 28 48 (.bool true) rfl rfl hS4 ?_
      refine qaa 29 49 (.bool true) rfl rfl hS4 ?_
      refine qar 30 50 rfl rfl hS4 ?_
      refine qar 31 51 rfl rfl hS4 ?_
      refine qar 32 52 rfl rfl hS4 ?_
      refine qar 33 53 rfl rfl hS4 ?_
      refine qar 34 54 rfl rfl hS4 ?_
      refine qar 35 55 rfl rfl hS4 ?_
      refine qar 36 56 rfl rfl hS4 ?_
      refine qaa 37 57 (.bool true) rfl rfl hS4 ?_
      refine wpAnyH_done (by kernel_rfl) ?_ _
      have hs3:=((Below.refl _ W0).drew.trans hb3).size
      go_wp2;go_ret;exact⟨by rw [HC.out];rfl,HB.out.trans ((hbW.trans ((((Below.refl _ W0).drew.trans hb3).trans (hb4.mono hs3)).mono hbW.size)).mono HB.out.size)⟩
     rw [h3] at cK;cases d
     ·have HFN:Hid (qcO t 0 hlt):=hid (HF.out.2 ⟨HTOLD.out,(fun h=>absurd h (Nat.lt_irrefl _)),h3,fun h=>by cases h⟩)
      have HZ2:Hid (∀j (h:j<t.length),j<1→qcO t j h):=hid fun j hj hjk=>by
       by_cases e:j=0
       ·subst e;exact HFN.out
       ·exact HZ.out j hj (by omega)
      clear HNF HF h3 hqk HZ;have hS:Cells [(⟨wr.heap.size,0,none⟩,encS p),(⟨wr.heap.size,1,none⟩,.bool false),(⟨wr.heap.size,2,none⟩,encS x)] W0.drew:=hCells
      clear hTr hTb hz hasc hx3 hCells HX cT0;go_wp2_with fail;clear c0 c1 c2;refine wp_region_held_drew (S:=Cells [(⟨wr.heap.size,0,none⟩,encS p),(⟨wr.heap.size,1,none⟩,.bool false),(⟨wr.heap.size,2,none⟩,encS x)]) (by kernel_rfl) hS (fun _=>?_)
      refine qaa 0 20 (.pointer (some ⟨wr.heap.size,0,none⟩)) rfl rfl hS ?_
      refine qai 1 21 (encS p) rfl rfl (Or.inl ⟨by rfl,fun w' hS'=>by have s0:=hS' _ (.head _);dsimp only at s0;go_simp⟩) hS ?_
      refine qae 2 rfl fun K hK=>?_
      go_simp;go_at_call 22
      refine(cT W0.drew).mono ?_;rintro e w3⟨rfl,hb3⟩;have hS3:=hS.below hb3;go_wp2_with fail;refine qaE hK hS3 ?_
      clear hK K;refine qaa 3 23 (.bool false) rfl rfl hS3 ?_
      refine qaa 4 24 (.bool false) rfl rfl hS3 ?_
      refine qaa 5 25 (.int .i64 0) rfl rfl hS3 ?_
      refine qaa 6 26 (.bool false) rfl rfl hS3 ?_
      refine qaa 7 27 (.bool false) rfl rfl hS3 ?_
      refine qar 8 28 rfl rfl hS3 ?_
      refine qar 9 29 rfl rfl hS3 ?_
      refine qar 10 30 rfl rfl hS3 ?_
      refine qar 11 31 rfl rfl hS3 ?_
      refine qar 12 32 rfl rfl hS3 ?_
      refine qar 13 33 rfl rfl hS3 ?_
      refine qar 14 34 rfl rfl hS3 ?_
      refine qar 15 35 rfl rfl hS3 ?_
      refine qar 16 36 rfl rfl hS3 ?_
      refine qaa 17 37 (.bool false) rfl rfl hS3 ?_
      refine qaa 18 38 (.bool false) rfl rfl hS3 ?_
      refine qaa 19 39 (.bool false) rfl rfl hS3 ?_
      refine qaa 20 40 (.slice (some ⟨g,o,none⟩) t.length c) rfl rfl hS3 ?_
      refine qaa 21 41 (.int .i64 0) rfl rfl hS3 ?_
      refine qaa 22 42 (.slice (some ⟨g,o,none⟩) 0 c) rfl rfl hS3 ?_
      refine qaa 23 43 (.pointer (some ⟨wr.heap.size,0,none⟩)) rfl rfl hS3 ?_
      refine qai 24 44 (encS p) rfl rfl (Or.inl ⟨by rfl,fun w' hS'=>by have s0:=hS' _ (.head _);dsimp only at s0;go_simp⟩) hS3 ?_
      refine qae 25 rfl fun K hK=>?_
      go_simp;go_at_call 24
      refine(cH w3).mono ?_;rintro e w4⟨rfl,rfl⟩;go_wp2_with fail;refine qaE hK hS3 ?_
      clear hK K;refine qae 26 rfl fun K hK=>?_
      go_simp;go_at_call 23
      refine(cK w3 (hbW.trans (((Below.refl _ W0).drew.trans hb3).mono hbW.size))).mono ?_
      rintro e w4⟨rfl,hb4⟩;have hS4:=hS3.below hb4;go_wp2_with fail;refine qaE hK hS4 ?_
      clear hK K;refine qaa 27 47 (.bool false) rfl rfl hS4 ?_
      refine qaa 28 48 (.bool false) rfl rfl hS4 ?_
      refine qaa 29 49 (.bool false) rfl rfl hS4 ?_
      refine qaa 30 50 (.pointer (some ⟨wr.heap.size,1,none⟩)) rfl rfl hS4 ?_
      refine qai 31 51 (.bool false) rfl rfl (Or.inl ⟨by rfl,fun w' hS'=>by have s1:=hS' _ (.tail _ (.head _));dsimp only at s1;go_simp⟩) hS4 ?_
      refine qaa 32 52 (.bool false) rfl rfl hS4 ?_
      refine qar 33 53 rfl rfl hS4 ?_
      refine qar 34 54 rfl rfl hS4 ?_
      refine qar 35 55 rfl rfl hS4 ?_
      refine qaa 36 56 (.bool false) rfl rfl hS4 ?_
      refine qaa 37 57 (.bool false) rfl rfl hS4 ?_
      refine wpAnyH_done (by kernel_rfl) ?_ _
      have hs3:=((Below.refl _ W0).drew.trans hb3).size
      go_wp2;go_roundw
      case rel=>exact⟨1,by omega,by first|rfl|go_num,HZ2,hB.trans ((hbW.trans ((((Below.refl _ W0).drew.trans hb3).trans (hb4.mono hs3)).mono hbW.size)).mono hB.size)⟩
      case measure=>simp [intOf];omega
     by_cases h5:x=[]
     ·have q6:(x==[])=true:=by simpa using h5
      have q6':(x !=[])=false:=by simpa using h5
      have q7:x.isEmpty=true:=by rw [h5];rfl
      have HFN:Hid (qcO t 0 hlt):=hid (HF.out.2 ⟨HTOLD.out,(fun h=>absurd h (Nat.lt_irrefl _)),h3,fun _=>h5⟩)
      have HZ2:Hid (∀j (h:j<t.length),j<1→qcO t j h):=hid fun j hj hjk=>by
       by_cases e:j=0
       ·subst e;exact HFN.out
       ·exact HZ.out j hj (by omega)
      clear HNF HF h3 h5 hqk HZ;have hS:Cells [(⟨wr.heap.size,0,none⟩,encS p),(⟨wr.heap.size,1,none⟩,.bool true),(⟨wr.heap.size,2,none⟩,encS x)] W0.drew:=hCells
      clear hTr hTb hz hasc hx3 hCells HX cT0;go_wp2_with fail;clear c0 c1 c2;refine wp_region_held_drew (S:=Cells [(⟨wr.heap.size,0,none⟩,encS p),(⟨wr.heap.size,1,none⟩,.bool true),(⟨wr.heap.size,2,none⟩,encS x)]) (by kernel_rfl) hS (fun _=>?_)
      refine qaa 0 20 (.pointer (some ⟨wr.heap.size,0,none⟩)) rfl rfl hS ?_
      refine qai 1 21 (encS p) rfl rfl (Or.inl ⟨by rfl,fun w' hS'=>by have s0:=hS' _ (.head _);dsimp only at s0;go_simp⟩) hS ?_
      refine qae 2 rfl fun K hK=>?_
      go_simp;go_at_call 22
      refine(cT W0.drew).mono ?_;rintro e w3⟨rfl,hb3⟩;have hS3:=hS.below hb3;go_wp2_with fail;refine qaE hK hS3 ?_
      clear hK K;refine qaa 3 23 (.bool false) rfl rfl hS3 ?_
      refine qaa 4 24 (.bool false) rfl rfl hS3 ?_
      refine qaa 5 25 (.int .i64 0) rfl rfl hS3 ?_
      refine qaa 6 26 (.bool false) rfl rfl hS3 ?_
      refine qaa 7 27 (.bool false) rfl rfl hS3 ?_
      refine qar 8 28 rfl rfl hS3 ?_
      refine qar 9 29 rfl rfl hS3 ?_
      refine qar 10 30 rfl rfl hS3 ?_
      refine qar 11 31 rfl rfl hS3 ?_
      refine qar 12 32 rfl rfl hS3 ?_
      refine qar 13 33 rfl rfl hS3 ?_
      refine qar 14 34 rfl rfl hS3 ?_
      refine qar 15 35 rfl rfl hS3 ?_
      refine qar 16 36 rfl rfl hS3 ?_
      refine qaa 17 37 (.bool false) rfl rfl hS3 ?_
      refine qaa 18 38 (.bool false) rfl rfl hS3 ?_
      refine qaa 19 39 (.bool false) rfl rfl hS3 ?_
      refine qaa 20 40 (.slice (some ⟨g,o,none⟩) t.length c) rfl rfl hS3 ?_
      refine qaa 21 41 (.int .i64 0) rfl rfl hS3 ?_
      refine qaa 22 42 (.slice (some ⟨g,o,none⟩) 0 c) rfl rfl hS3 ?_
      refine qaa 23 43 (.pointer (some ⟨wr.heap.size,0,none⟩)) rfl rfl hS3 ?_
      refine qai 24 44 (encS p) rfl rfl (Or.inl ⟨by rfl,fun w' hS'=>by have s0:=hS' _ (.head _);dsimp only at s0;go_simp⟩) hS3 ?_
      refine qae 25 rfl fun K hK=>?_
      go_simp;go_at_call 24
      refine(cH w3).mono ?_;rintro e w4⟨rfl,rfl⟩;go_wp2_with fail;refine qaE hK hS3 ?_
      clear hK K;refine qae 26 rfl fun K hK=>?_
      go_simp;go_at_call 23
      refine(cK w3 (hbW.trans (((Below.refl _ W0).drew.trans hb3).mono hbW.size))).mono ?_
      rintro e w4⟨rfl,hb4⟩;have hS4:=hS3.below hb4;go_wp2_with fail;refine qaE hK hS4 ?_
      clear hK K;refine qaa 27 47 (.bool false) rfl rfl hS4 ?_
      refine qaa 28 48 (.bool false) rfl rfl hS4 ?_
      refine qaa 29 49 (.bool false) rfl rfl hS4 ?_
      refine qaa 30 50 (.pointer (some ⟨wr.heap.size,1,none⟩)) rfl rfl hS4 ?_
      refine qai 31 51 (.bool true) rfl rfl (Or.inl ⟨by rfl,fun w' hS'=>by have s1:=hS' _ (.tail _ (.head _));dsimp only at s1;go_simp⟩) hS4 ?_
      refine qaa 32 52 (.bool true) rfl rfl hS4 ?_
      refine qaa 33 53 (.pointer (some ⟨wr.heap.size,2,none⟩)) rfl rfl hS4 ?_
      refine qai 34 54 (encS x) rfl rfl (Or.inl ⟨by rfl,fun w' hS'=>by have s2:=hS' _ (.tail _ (.tail _ (.head _)));dsimp only at s2;go_simp⟩) hS4 ?_
      refine qaa 35 55 (.bool false) rfl rfl hS4 ?_
      refine qaa 36 56 (.bool false) rfl rfl hS4 ?_
      refine qaa 37 57 (.bool false) rfl rfl hS4 ?_
      refine wpAnyH_done (by kernel_rfl) ?_ _
      have hs3:=((Below.refl _ W0).drew.trans hb3).size
      go_wp2;go_roundw
      case rel=>exact⟨1,by omega,by first|rfl|go_num,HZ2,hB.trans ((hbW.trans ((((Below.refl _ W0).drew.trans hb3).trans (hb4.mono hs3)).mono hbW.size)).mono hB.size)⟩
      case measure=>simp [intOf];omega
     ·have HC:Hid (qaC t=9):=hid (HNF.out fun h=>h5 ((HF.out.1 h).2.2.2 rfl))
      have q6:(x==[])=false:=by simpa using h5
      have q6':(x !=[])=true:=by simpa using h5
      have q7:x.isEmpty=false:=by cases x with|nil=>exact absurd rfl h5|cons a b=>rfl
      clear HNF HF HOK h3 h5 hqk;have hS:Cells [(⟨wr.heap.size,0,none⟩,encS p),(⟨wr.heap.size,1,none⟩,.bool true),(⟨wr.heap.size,2,none⟩,encS x)] W0.drew:=hCells
      clear hTr hTb hz hasc hx3 hCells HX cT0;go_wp2_with fail;clear c0 c1 c2;refine wp_region_held_drew (S:=Cells [(⟨wr.heap.size,0,none⟩,encS p),(⟨wr.heap.size,1,none⟩,.bool true),(⟨wr.heap.size,2,none⟩,encS x)]) (by kernel_rfl) hS (fun _=>?_)
      refine qaa 0 20 (.pointer (some ⟨wr.heap.size,0,none⟩)) rfl rfl hS ?_
      refine qai 1 21 (encS p) rfl rfl (Or.inl ⟨by rfl,fun w' hS'=>by have s0:=hS' _ (.head _);dsimp only at s0;go_simp⟩) hS ?_
      refine qae 2 rfl fun K hK=>?_
      go_simp;go_at_call 22
      refine(cT W0.drew).mono ?_;rintro e w3⟨rfl,hb3⟩;have hS3:=hS.below hb3;go_wp2_with fail;refine qaE hK hS3 ?_
      clear hK K;refine qaa 3 23 (.bool false) rfl rfl hS3 ?_
      refine qaa 4 24 (.bool false) rfl rfl hS3 ?_
      refine qaa 5 25 (.int .i64 0) rfl rfl hS3 ?_
      refine qaa 6 26 (.bool false) rfl rfl hS3 ?_
      refine qaa 7 27 (.bool false) rfl rfl hS3 ?_
      refine qar 8 28 rfl rfl hS3 ?_
      refine qar 9 29 rfl rfl hS3 ?_
      refine qar 10 30 rfl rfl hS3 ?_
      refine qar 11 31 rfl rfl hS3 ?_
      refine qar 12 32 rfl rfl hS3 ?_
      refine qar 13 33 rfl rfl hS3 ?_
      refine qar 14 34 rfl rfl hS3 ?_
      refine qar 15 35 rfl rfl hS3 ?_
      refine qar 16 36 rfl rfl hS3 ?_
      refine qaa 17 37 (.bool false) rfl rfl hS3 ?_
      refine qaa 18 38 (.bool false) rfl rfl hS3 ?_
      refine qaa 19 39 (.bool false) rfl rfl hS3 ?_
      refine qaa 20 40 (.slice (some ⟨g,o,none⟩) t.length c) rfl rfl hS3 ?_
      refine qaa 21 41 (.int .i64 0) rfl rfl hS3 ?_
      refine qaa 22 42 (.slice (some ⟨g,o,none⟩) 0 c) rfl rfl hS3 ?_
      refine qaa 23 43 (.pointer (some ⟨wr.heap.size,0,none⟩)) rfl rfl hS3 ?_
      refine qai 24 44 (encS p) rfl rfl (Or.inl ⟨by rfl,fun w' hS'=>by have s0:=hS' _ (.head _);dsimp only at s0;go_simp⟩) hS3 ?_
      refine qae 25 rfl fun K hK=>?_
      go_simp;go_at_call 24
      refine(cH w3).mono ?_;rintro e w4⟨rfl,rfl⟩;go_wp2_with fail;refine qaE hK hS3 ?_
      clear hK K;refine qae 26 rfl fun K hK=>?_
      go_simp;go_at_call 23
      refine(cK w3 (hbW.trans (((Below.refl _ W0).drew.trans hb3).mono hbW.size))).mono ?_
      rintro e w4⟨rfl,hb4⟩;have hS4:=hS3.below hb4;go_wp2_with fail;refine qaE hK hS4 ?_
      clear hK K;refine qaa 27 47 (.bool false) rfl rfl hS4 ?_
      refine qaa 28 48 (.bool false) rfl rfl hS4 ?_
      refine qaa 29 49 (.bool false) rfl rfl hS4 ?_
      refine qaa 30 50 (.pointer (some ⟨wr.heap.size,1,none⟩)) rfl rfl hS4 ?_
      refine qai 31 51 (.bool true) rfl rfl (Or.inl ⟨by rfl,fun w' hS'=>by have s1:=hS' _ (.tail _ (.head _));dsimp only at s1;go_simp⟩) hS4 ?_
      refine qaa 32 52 (.bool true) rfl rfl hS4 ?_
      refine qaa 33 53 (.pointer (some ⟨wr.heap.size,2,none⟩)) rfl rfl hS4 ?_
      refine qai 34 54 (encS x) rfl rfl (Or.inl ⟨by rfl,fun w' hS'=>by have s2:=hS' _ (.tail _ (.tail _ (.head _)));dsimp only at s2;go_simp⟩) hS4 ?_
      refine qaa 35 55 (.bool true) rfl rfl hS4 ?_
      refine qaa 36 56 (.bool true) rfl rfl hS4 ?_
      refine qaa 37 57 (.bool true) rfl rfl hS4 ?_
      refine wpAnyH_done (by kernel_rfl) ?_ _
      have hs3:=((Below.refl _ W0).drew.trans hb3).size
      go_wp2;go_ret;exact⟨by rw [HC.out];rfl,HB.out.trans ((hbW.trans ((((Below.refl _ W0).drew.trans hb3).trans (hb4.mono hs3)).mono hbW.size)).mono HB.out.size)⟩
    ·obtain⟨m,rfl⟩:∃m,k=m+1:=⟨k-1,by omega⟩
     have hpv:=hprev (by omega)
     rw [hqk (by omega),Nat.add_sub_cancel] at hpv;clear hprev hk0;have hCells2:Cells [(⟨wr.heap.size,0,none⟩,encS p),(⟨wr.heap.size,1,none⟩,.bool d),(⟨wr.heap.size,2,none⟩,encS x),(⟨g,o+m*3,none⟩,encS q)] W0.drew:=fun z hz=>by
      rcases List.mem_cons.1 hz with rfl|hz
      ·exact hx3.a0
      rcases List.mem_cons.1 hz with rfl|hz
      ·exact hx3.a1
      rcases List.mem_cons.1 hz with rfl|hz
      ·exact hx3.a2
      rcases List.mem_cons.1 hz with rfl|hz
      ·exact(show W0.cell? ⟨g,o+m*3,none⟩=some (encS q) from cell_below hbW hpv)
      ·cases hz
     by_cases h2:q<p
     rotate_left
     ·have HC:Hid (qaC t=9):=hid (HNF.out fun h=>h2 (by have:=(HF.out.1 h).2.1 (by omega);rw [hqk (by omega)] at this;exact this))
      have q4:Op.bytesLess q p=false:=by rw [bytesLess_eq];simpa using h2
      clear HNF HF HOK h2 cK cH hqk hpv;have hS:Cells [(⟨wr.heap.size,0,none⟩,encS p),(⟨wr.heap.size,1,none⟩,.bool d),(⟨wr.heap.size,2,none⟩,encS x),(⟨g,o+m*3,none⟩,encS q)] W0.drew:=hCells2
      clear hTr hTb hz hasc hx3 hCells hCells2 HX cT0;go_wp2_with fail;clear c0 c1 c2;have hm1:m<t.length:=by omega
      have hm2:(t.length≤m)=False:=by simp;omega
      have hc0:0≤(m:Int)+1:=by omega
      have hc1:(m:Int)+1≤(c:Int):=by omega
      have hwm:IntKind.i64.wrap (m:Int)=(m:Int):=IntWalk.i64_in _ (by omega)
      refine wp_region_held_drew (S:=Cells [(⟨wr.heap.size,0,none⟩,encS p),(⟨wr.heap.size,1,none⟩,.bool d),(⟨wr.heap.size,2,none⟩,encS x),(⟨g,o+m*3,none⟩,encS q)]) (by kernel_rfl) hS (fun _=>?_)
      refine qaa 0 20 (.pointer (some ⟨wr.heap.size,0,none⟩)) rfl rfl hS ?_
      refine qai 1 21 (encS p) rfl rfl (Or.inl ⟨by rfl,fun w' hS'=>by have s0:=hS' _ (.head _);dsimp only at s0;go_simp⟩) hS ?_
      refine qae 2 rfl fun K hK=>?_
      go_simp;go_at_call 22
      refine(cT W0.drew).mono ?_;rintro e w3⟨rfl,hb3⟩;have hS3:=hS.below hb3;go_wp2_with fail;refine qaE hK hS3 ?_
      clear hK K;refine qaa 3 23 (.bool false) rfl rfl hS3 ?_
      refine qaa 4 24 (.bool false) rfl rfl hS3 ?_
      refine qaa 5 25 (.int .i64 ((m:Int)+1)) rfl rfl hS3 ?_
      refine qaa 6 26 (.bool true) rfl rfl hS3 ?_
      refine qaa 7 27 (.bool true) rfl rfl hS3 ?_
      refine qaa 8 28 (.slice (some ⟨g,o,none⟩) t.length c) rfl rfl hS3 ?_
      refine qaa 9 29 (.int .i64 ((m:Int)+1)) rfl rfl hS3 ?_
      refine qaa 10 30 (.int .i64 (m:Int)) rfl rfl hS3 ?_
      refine qaa 11 31 (.pointer (some ⟨g,o+m*3,none⟩)) rfl rfl hS3 ?_
      refine qaa 12 32 (.pointer (some ⟨g,o+m*3,none⟩)) rfl rfl hS3 ?_
      refine qai 13 33 (encS q) rfl rfl (Or.inl ⟨by rfl,fun w' hS'=>by have s3:=hS' _ (.tail _ (.tail _ (.tail _ (.head _))));dsimp only at s3;go_simp⟩) hS3 ?_
      refine qaa 14 34 (.pointer (some ⟨wr.heap.size,0,none⟩)) rfl rfl hS3 ?_
      refine qai 15 35 (encS p) rfl rfl (Or.inl ⟨by rfl,fun w' hS'=>by have s0:=hS' _ (.head _);dsimp only at s0;go_simp⟩) hS3 ?_
      refine qaa 16 36 (.bool true) rfl rfl hS3 ?_
      refine qaa 17 37 (.bool true) rfl rfl hS3 ?_
      refine qaa 18 38 (.bool true) rfl rfl hS3 ?_
      refine qaa 19 39 (.bool true) rfl rfl hS3 ?_
      refine qar 20 40 rfl rfl hS3 ?_
      refine qar 21 41 rfl rfl hS3 ?_
      refine qar 22 42 rfl rfl hS3 ?_
      refine qar 23 43 rfl rfl hS3 ?_
      refine qar 24 44 rfl rfl hS3 ?_
      refine qar 25 45 rfl rfl hS3 ?_
      refine qar 26 46 rfl rfl hS3 ?_
      refine qar 27 47 rfl rfl hS3 ?_
      refine qaa 28 48 (.bool true) rfl rfl hS3 ?_
      refine qaa 29 49 (.bool true) rfl rfl hS3 ?_
      refine qar 30 50 rfl rfl hS3 ?_
      refine qar 31 51 rfl rfl hS3 ?_
      refine qar 32 52 rfl rfl hS3 ?_
      refine qar 33 53 rfl rfl hS3 ?_
      refine qar 34 54 rfl rfl hS3 ?_
      refine qar 35 55 rfl rfl hS3 ?_
      refine qar 36 56 rfl rfl hS3 ?_
      refine qaa 37 57 (.bool true) rfl rfl hS3 ?_
      refine wpAnyH_done (by kernel_rfl) ?_ _
      clear hwm hm1 hm2 hc0 hc1;go_wp2;go_ret;exact⟨by rw [HC.out];rfl,HB.out.trans ((hbW.trans (((Below.refl _ W0).drew.trans hb3).mono hbW.size)).mono HB.out.size)⟩
     have q4:Op.bytesLess q p=true:=by rw [bytesLess_eq];simpa using h2
     by_cases h3:qak (t.take (m+1)) (qcE p)=2
     rotate_left
     ·have HC:Hid (qaC t=9):=hid (HNF.out fun h=>h3 (HF.out.1 h).2.2.1)
      have q5:(qak (t.take (m+1)) (qcE p)==2)=false:=by simpa using h3
      have q5':(qak (t.take (m+1)) (qcE p) !=2)=true:=by simpa using h3
      generalize qak (t.take (m+1)) (qcE p)=KK at *;clear HNF HF HOK h3 hqk hpv h2;have hS:Cells [(⟨wr.heap.size,0,none⟩,encS p),(⟨wr.heap.size,1,none⟩,.bool d),(⟨wr.heap.size,2,none⟩,encS x),(⟨g,o+m*3,none⟩,encS q)] W0.drew:=hCells2
      clear hTr hTb hz hasc hx3 hCells hCells2 HX cT0;go_wp2_with fail;clear c0 c1 c2;have hm1:m<t.length:=by omega
      have hm2:(t.length≤m)=False:=by simp;omega
      have hc0:0≤(m:Int)+1:=by omega
      have hc1:(m:Int)+1≤(c:Int):=by omega
      have hwm:IntKind.i64.wrap (m:Int)=(m:Int):=IntWalk.i64_in _ (by omega)
      refine wp_region_held_drew (S:=Cells [(⟨wr.heap.size,0,none⟩,encS p),(⟨wr.heap.size,1,none⟩,.bool d),(⟨wr.heap.size,2,none⟩,encS x),(⟨g,o+m*3,none⟩,encS q)]) (by kernel_rfl) hS (fun _=>?_)
      refine qaa 0 20 (.pointer (some ⟨wr.heap.size,0,none⟩)) rfl rfl hS ?_
      refine qai 1 21 (encS p) rfl rfl (Or.inl ⟨by rfl,fun w' hS'=>by have s0:=hS' _ (.head _);dsimp only at s0;go_simp⟩) hS ?_
      refine qae 2 rfl fun K hK=>?_
      go_simp;go_at_call 22
      refine(cT W0.drew).mono ?_;rintro e w3⟨rfl,hb3⟩;have hS3:=hS.below hb3;go_wp2_with fail;refine qaE hK hS3 ?_
      clear hK K;refine qaa 3 23 (.bool false) rfl rfl hS3 ?_
      refine qaa 4 24 (.bool false) rfl rfl hS3 ?_
      refine qaa 5 25 (.int .i64 ((m:Int)+1)) rfl rfl hS3 ?_
      refine qaa 6 26 (.bool true) rfl rfl hS3 ?_
      refine qaa 7 27 (.bool true) rfl rfl hS3 ?_
      refine qaa 8 28 (.slice (some ⟨g,o,none⟩) t.length c) rfl rfl hS3 ?_
      refine qaa 9 29 (.int .i64 ((m:Int)+1)) rfl rfl hS3 ?_
      refine qaa 10 30 (.int .i64 (m:Int)) rfl rfl hS3 ?_
      refine qaa 11 31 (.pointer (some ⟨g,o+m*3,none⟩)) rfl rfl hS3 ?_
      refine qaa 12 32 (.pointer (some ⟨g,o+m*3,none⟩)) rfl rfl hS3 ?_
      refine qai 13 33 (encS q) rfl rfl (Or.inl ⟨by rfl,fun w' hS'=>by have s3:=hS' _ (.tail _ (.tail _ (.tail _ (.head _))));dsimp only at s3;go_simp⟩) hS3 ?_
      refine qaa 14 34 (.pointer (some ⟨wr.heap.size,0,none⟩)) rfl rfl hS3 ?_
      refine qai 15 35 (encS p) rfl rfl (Or.inl ⟨by rfl,fun w' hS'=>by have s0:=hS' _ (.head _);dsimp only at s0;go_simp⟩) hS3 ?_
      refine qaa 16 36 (.bool false) rfl rfl hS3 ?_
      refine qaa 17 37 (.bool false) rfl rfl hS3 ?_
      refine qaa 18 38 (.bool false) rfl rfl hS3 ?_
      refine qaa 19 39 (.bool false) rfl rfl hS3 ?_
      refine qaa 20 40 (.slice (some ⟨g,o,none⟩) t.length c) rfl rfl hS3 ?_
      refine qaa 21 41 (.int .i64 ((m:Int)+1)) rfl rfl hS3 ?_
      refine qaa 22 42 (.slice (some ⟨g,o,none⟩) (m+1) c) rfl rfl hS3 ?_
      refine qaa 23 43 (.pointer (some ⟨wr.heap.size,0,none⟩)) rfl rfl hS3 ?_
      refine qai 24 44 (encS p) rfl rfl (Or.inl ⟨by rfl,fun w' hS'=>by have s0:=hS' _ (.head _);dsimp only at s0;go_simp⟩) hS3 ?_
      refine qae 25 rfl fun K hK=>?_
      go_simp;go_at_call 24
      refine(cH w3).mono ?_;rintro e w4⟨rfl,rfl⟩;go_wp2_with fail;refine qaE hK hS3 ?_
      clear hK K;refine qae 26 rfl fun K hK=>?_
      go_simp;go_at_call 23
      refine(cK w3 (hbW.trans (((Below.refl _ W0).drew.trans hb3).mono hbW.size))).mono ?_
      rintro e w4⟨rfl,hb4⟩;have hS4:=hS3.below hb4;go_wp2_with fail;refine qaE hK hS4 ?_
      clear hK K;refine qaa 27 47 (.bool true) rfl rfl hS4 ?_
      refine qaa 28 48 (.bool true) rfl rfl hS4 ?_
      refine qaa 29 49 (.bool true) rfl rfl hS4 ?_
      refine qar 30 50 rfl rfl hS4 ?_
      refine qar 31 51 rfl rfl hS4 ?_
      refine qar 32 52 rfl rfl hS4 ?_
      refine qar 33 53 rfl rfl hS4 ?_
      refine qar 34 54 rfl rfl hS4 ?_
      refine qar 35 55 rfl rfl hS4 ?_
      refine qar 36 56 rfl rfl hS4 ?_
      refine qaa 37 57 (.bool true) rfl rfl hS4 ?_
      refine wpAnyH_done (by kernel_rfl) ?_ _
      clear hwm hm1 hm2 hc0 hc1;have hs3:=((Below.refl _ W0).drew.trans hb3).size
      go_wp2;go_ret;exact⟨by rw [HC.out];rfl,HB.out.trans ((hbW.trans ((((Below.refl _ W0).drew.trans hb3).trans (hb4.mono hs3)).mono hbW.size)).mono HB.out.size)⟩
     rw [h3] at cK;cases d
     ·have HFN:Hid (qcO t (m+1) hlt):=hid (HF.out.2 ⟨HTOLD.out,(fun _=>by rw [hqk (by omega)];exact h2),h3,fun h=>by cases h⟩)
      have HZ2:Hid (∀j (h:j<t.length),j<m+1+1→qcO t j h):=hid fun j hj hjk=>by
       by_cases e:j=m+1
       ·subst e;exact HFN.out
       ·exact HZ.out j hj (by omega)
      clear HNF HF h3 hqk HZ hpv h2;have hS:Cells [(⟨wr.heap.size,0,none⟩,encS p),(⟨wr.heap.size,1,none⟩,.bool false),(⟨wr.heap.size,2,none⟩,encS x),(⟨g,o+m*3,none⟩,encS q)] W0.drew:=hCells2
      clear hTr hTb hz hasc hx3 hCells hCells2 HX cT0;go_wp2_with fail;clear c0 c1 c2;have hm1:m<t.length:=by omega
      have hm2:(t.length≤m)=False:=by simp;omega
      have hc0:0≤(m:Int)+1:=by omega
      have hc1:(m:Int)+1≤(c:Int):=by omega
      have hwm:IntKind.i64.wrap (m:Int)=(m:Int):=IntWalk.i64_in _ (by omega)
      refine wp_region_held_drew (S:=Cells [(⟨wr.heap.size,0,none⟩,encS p),(⟨wr.heap.size,1,none⟩,.bool false),(⟨wr.heap.size,2,none⟩,encS x),(⟨g,o+m*3,none⟩,encS q)]) (by kernel_rfl) hS (fun _=>?_)
      refine qaa 0 20 (.pointer (some ⟨wr.heap.size,0,none⟩)) rfl rfl hS ?_
      refine qai 1 21 (encS p) rfl rfl (Or.inl ⟨by rfl,fun w' hS'=>by have s0:=hS' _ (.head _);dsimp only at s0;go_simp⟩) hS ?_
      refine qae 2 rfl fun K hK=>?_
      go_simp;go_at_call 22
      refine(cT W0.drew).mono ?_;rintro e w3⟨rfl,hb3⟩;have hS3:=hS.below hb3;go_wp2_with fail;refine qaE hK hS3 ?_
      clear hK K;refine qaa 3 23 (.bool false) rfl rfl hS3 ?_
      refine qaa 4 24 (.bool false) rfl rfl hS3 ?_
      refine qaa 5 25 (.int .i64 ((m:Int)+1)) rfl rfl hS3 ?_
      refine qaa 6 26 (.bool true) rfl rfl hS3 ?_
      refine qaa 7 27 (.bool true) rfl rfl hS3 ?_
      refine qaa 8 28 (.slice (some ⟨g,o,none⟩) t.length c) rfl rfl hS3 ?_
      refine qaa 9 29 (.int .i64 ((m:Int)+1)) rfl rfl hS3 ?_
      refine qaa 10 30 (.int .i64 (m:Int)) rfl rfl hS3 ?_
      refine qaa 11 31 (.pointer (some ⟨g,o+m*3,none⟩)) rfl rfl hS3 ?_
      refine qaa 12 32 (.pointer (some ⟨g,o+m*3,none⟩)) rfl rfl hS3 ?_
      refine qai 13 33 (encS q) rfl rfl (Or.inl ⟨by rfl,fun w' hS'=>by have s3:=hS' _ (.tail _ (.tail _ (.tail _ (.head _))));dsimp only at s3;go_simp⟩) hS3 ?_
      refine qaa 14 34 (.pointer (some ⟨wr.heap.size,0,none⟩)) rfl rfl hS3 ?_
      refine qai 15 35 (encS p) rfl rfl (Or.inl ⟨by rfl,fun w' hS'=>by have s0:=hS' _ (.head _);dsimp only at s0;go_simp⟩) hS3 ?_
      refine qaa 16 36 (.bool false) rfl rfl hS3 ?_
      refine qaa 17 37 (.bool false) rfl rfl hS3 ?_
      refine qaa 18 38 (.bool false) rfl rfl hS3 ?_
      refine qaa 19 39 (.bool false) rfl rfl hS3 ?_
      refine qaa 20 40 (.slice (some ⟨g,o,none⟩) t.length c) rfl rfl hS3 ?_
      refine qaa 21 41 (.int .i64 ((m:Int)+1)) rfl rfl hS3 ?_
      refine qaa 22 42 (.slice (some ⟨g,o,none⟩) (m+1) c) rfl rfl hS3 ?_
      refine qaa 23 43 (.pointer (some ⟨wr.heap.size,0,none⟩)) rfl rfl hS3 ?_
      refine qai 24 44 (encS p) rfl rfl (Or.inl ⟨by rfl,fun w' hS'=>by have s0:=hS' _ (.head _);dsimp only at s0;go_simp⟩) hS3 ?_
      refine qae 25 rfl fun K hK=>?_
      go_simp;go_at_call 24
      refine(cH w3).mono ?_;rintro e w4⟨rfl,rfl⟩;go_wp2_with fail;refine qaE hK hS3 ?_
      clear hK K;refine qae 26 rfl fun K hK=>?_
      go_simp;go_at_call 23
      refine(cK w3 (hbW.trans (((Below.refl _ W0).drew.trans hb3).mono hbW.size))).mono ?_
      rintro e w4⟨rfl,hb4⟩;have hS4:=hS3.below hb4;go_wp2_with fail;refine qaE hK hS4 ?_
      clear hK K;refine qaa 27 47 (.bool false) rfl rfl hS4 ?_
      refine qaa 28 48 (.bool false) rfl rfl hS4 ?_
      refine qaa 29 49 (.bool false) rfl rfl hS4 ?_
      refine qaa 30 50 (.pointer (some ⟨wr.heap.size,1,none⟩)) rfl rfl hS4 ?_
      refine qai 31 51 (.bool false) rfl rfl (Or.inl ⟨by rfl,fun w' hS'=>by have s1:=hS' _ (.tail _ (.head _));dsimp only at s1;go_simp⟩) hS4 ?_
      refine qaa 32 52 (.bool false) rfl rfl hS4 ?_
      refine qar 33 53 rfl rfl hS4 ?_
      refine qar 34 54 rfl rfl hS4 ?_
      refine qar 35 55 rfl rfl hS4 ?_
      refine qaa 36 56 (.bool false) rfl rfl hS4 ?_
      refine qaa 37 57 (.bool false) rfl rfl hS4 ?_
      refine wpAnyH_done (by kernel_rfl) ?_ _
      clear hwm hm1 hm2 hc0 hc1;have hs3:=((Below.refl _ W0).drew.trans hb3).size
      go_wp2;go_roundw
      case rel=>exact⟨m+1+1,by omega,by first|rfl|go_num,HZ2,hB.trans ((hbW.trans ((((Below.refl _ W0).drew.trans hb3).trans (hb4.mono hs3)).mono hbW.size)).mono hB.size)⟩
      case measure=>simp [intOf];omega
     by_cases h5:x=[]
     ·have q6:(x==[])=true:=by simpa using h5
      have q6':(x !=[])=false:=by simpa using h5
      have q7:x.isEmpty=true:=by rw [h5];rfl
      have HFN:Hid (qcO t (m+1) hlt):=hid (HF.out.2 ⟨HTOLD.out,(fun _=>by rw [hqk (by omega)];exact h2),h3,fun _=>h5⟩)
      have HZ2:Hid (∀j (h:j<t.length),j<m+1+1→qcO t j h):=hid fun j hj hjk=>by
       by_cases e:j=m+1
       ·subst e;exact HFN.out
       ·exact HZ.out j hj (by omega)
      clear HNF HF h3 h5 hqk HZ hpv h2;have hS:Cells [(⟨wr.heap.size,0,none⟩,encS p),(⟨wr.heap.size,1,none⟩,.bool true),(⟨wr.heap.size,2,none⟩,encS x),(⟨g,o+m*3,none⟩,encS q)] W0.drew:=hCells2
      clear hTr hTb hz hasc hx3 hCells hCells2 HX cT0;go_wp2_with fail;clear c0 c1 c2;have hm1:m<t.length:=by omega
      have hm2:(t.length≤m)=False:=by simp;omega
      have hc0:0≤(m:Int)+1:=by omega
      have hc1:(m:Int)+1≤(c:Int):=by omega
      have hwm:IntKind.i64.wrap (m:Int)=(m:Int):=IntWalk.i64_in _ (by omega)
      refine wp_region_held_drew (S:=Cells [(⟨wr.heap.size,0,none⟩,encS p),(⟨wr.heap.size,1,none⟩,.bool true),(⟨wr.heap.size,2,none⟩,encS x),(⟨g,o+m*3,none⟩,encS q)]) (by kernel_rfl) hS (fun _=>?_)
      refine qaa 0 20 (.pointer (some ⟨wr.heap.size,0,none⟩)) rfl rfl hS ?_
      refine qai 1 21 (encS p) rfl rfl (Or.inl ⟨by rfl,fun w' hS'=>by have s0:=hS' _ (.head _);dsimp only at s0;go_simp⟩) hS ?_
      refine qae 2 rfl fun K hK=>?_
      go_simp;go_at_call 22
      refine(cT W0.drew).mono ?_;rintro e w3⟨rfl,hb3⟩;have hS3:=hS.below hb3;go_wp2_with fail;refine qaE hK hS3 ?_
      clear hK K;refine qaa 3 23 (.bool false) rfl rfl hS3 ?_
      refine qaa 4 24 (.bool false) rfl rfl hS3 ?_
      refine qaa 5 25 (.int .i64 ((m:Int)+1)) rfl rfl hS3 ?_
      refine qaa 6 26 (.bool true) rfl rfl hS3 ?_
      refine qaa 7 27 (.bool true) rfl rfl hS3 ?_
      refine qaa 8 28 (.slice (some ⟨g,o,none⟩) t.length c) rfl rfl hS3 ?_
      refine qaa 9 29 (.int .i64 ((m:Int)+1)) rfl rfl hS3 ?_
      refine qaa 10 30 (.int .i64 (m:Int)) rfl rfl hS3 ?_
      refine qaa 11 31 (.pointer (some ⟨g,o+m*3,none⟩)) rfl rfl hS3 ?_
      refine qaa 12 32 (.pointer (some ⟨g,o+m*3,none⟩)) rfl rfl hS3 ?_
      refine qai 13 33 (encS q) rfl rfl (Or.inl ⟨by rfl,fun w' hS'=>by have s3:=hS' _ (.tail _ (.tail _ (.tail _ (.head _))));dsimp only at s3;go_simp⟩) hS3 ?_
      refine qaa 14 34 (.pointer (some ⟨wr.heap.size,0,none⟩)) rfl rfl hS3 ?_
      refine qai 15 35 (encS p) rfl rfl (Or.inl ⟨by rfl,fun w' hS'=>by have s0:=hS' _ (.head _);dsimp only at s0;go_simp⟩) hS3 ?_
      refine qaa 16 36 (.bool false) rfl rfl hS3 ?_
      refine qaa 17 37 (.bool false) rfl rfl hS3 ?_
      refine qaa 18 38 (.bool false) rfl rfl hS3 ?_
      refine qaa 19 39 (.bool false) rfl rfl hS3 ?_
      refine qaa 20 40 (.slice (some ⟨g,o,none⟩) t.length c) rfl rfl hS3 ?_
      refine qaa 21 41 (.int .i64 ((m:Int)+1)) rfl rfl hS3 ?_
      refine qaa 22 42 (.slice (some ⟨g,o,none⟩) (m+1) c) rfl rfl hS3 ?_
      refine qaa 23 43 (.pointer (some ⟨wr.heap.size,0,none⟩)) rfl rfl hS3 ?_
      refine qai 24 44 (encS p) rfl rfl (Or.inl ⟨by rfl,fun w' hS'=>by have s0:=hS' _ (.head _);dsimp only at s0;go_simp⟩) hS3 ?_
      refine qae 25 rfl fun K hK=>?_
      go_simp;go_at_call 24
      refine(cH w3).mono ?_;rintro e w4⟨rfl,rfl⟩;go_wp2_with fail;refine qaE hK hS3 ?_
      clear hK K;refine qae 26 rfl fun K hK=>?_
      go_simp;go_at_call 23
      refine(cK w3 (hbW.trans (((Below.refl _ W0).drew.trans hb3).mono hbW.size))).mono ?_
      rintro e w4⟨rfl,hb4⟩;have hS4:=hS3.below hb4;go_wp2_with fail;refine qaE hK hS4 ?_
      clear hK K;refine qaa 27 47 (.bool false) rfl rfl hS4 ?_
      refine qaa 28 48 (.bool false) rfl rfl hS4 ?_
      refine qaa 29 49 (.bool false) rfl rfl hS4 ?_
      refine qaa 30 50 (.pointer (some ⟨wr.heap.size,1,none⟩)) rfl rfl hS4 ?_
      refine qai 31 51 (.bool true) rfl rfl (Or.inl ⟨by rfl,fun w' hS'=>by have s1:=hS' _ (.tail _ (.head _));dsimp only at s1;go_simp⟩) hS4 ?_
      refine qaa 32 52 (.bool true) rfl rfl hS4 ?_
      refine qaa 33 53 (.pointer (some ⟨wr.heap.size,2,none⟩)) rfl rfl hS4 ?_
      refine qai 34 54 (encS x) rfl rfl (Or.inl ⟨by rfl,fun w' hS'=>by have s2:=hS' _ (.tail _ (.tail _ (.head _)));dsimp only at s2;go_simp⟩) hS4 ?_
      refine qaa 35 55 (.bool false) rfl rfl hS4 ?_
      refine qaa 36 56 (.bool false) rfl rfl hS4 ?_
      refine qaa 37 57 (.bool false) rfl rfl hS4 ?_
      refine wpAnyH_done (by kernel_rfl) ?_ _
      clear hwm hm1 hm2 hc0 hc1;have hs3:=((Below.refl _ W0).drew.trans hb3).size
      go_wp2;go_roundw
      case rel=>exact⟨m+1+1,by omega,by first|rfl|go_num,HZ2,hB.trans ((hbW.trans ((((Below.refl _ W0).drew.trans hb3).trans (hb4.mono hs3)).mono hbW.size)).mono hB.size)⟩
      case measure=>simp [intOf];omega
     ·have HC:Hid (qaC t=9):=hid (HNF.out fun h=>h5 ((HF.out.1 h).2.2.2 rfl))
      have q6:(x==[])=false:=by simpa using h5
      have q6':(x !=[])=true:=by simpa using h5
      have q7:x.isEmpty=false:=by cases x with|nil=>exact absurd rfl h5|cons a b=>rfl
      clear HNF HF HOK h3 h5 hqk hpv h2;have hS:Cells [(⟨wr.heap.size,0,none⟩,encS p),(⟨wr.heap.size,1,none⟩,.bool true),(⟨wr.heap.size,2,none⟩,encS x),(⟨g,o+m*3,none⟩,encS q)] W0.drew:=hCells2
      clear hTr hTb hz hasc hx3 hCells hCells2 HX cT0;go_wp2_with fail;clear c0 c1 c2;have hm1:m<t.length:=by omega
      have hm2:(t.length≤m)=False:=by simp;omega
      have hc0:0≤(m:Int)+1:=by omega
      have hc1:(m:Int)+1≤(c:Int):=by omega
      have hwm:IntKind.i64.wrap (m:Int)=(m:Int):=IntWalk.i64_in _ (by omega)
      refine wp_region_held_drew (S:=Cells [(⟨wr.heap.size,0,none⟩,encS p),(⟨wr.heap.size,1,none⟩,.bool true),(⟨wr.heap.size,2,none⟩,encS x),(⟨g,o+m*3,none⟩,encS q)]) (by kernel_rfl) hS (fun _=>?_)
      refine qaa 0 20 (.pointer (some ⟨wr.heap.size,0,none⟩)) rfl rfl hS ?_
      refine qai 1 21 (encS p) rfl rfl (Or.inl ⟨by rfl,fun w' hS'=>by have s0:=hS' _ (.head _);dsimp only at s0;go_simp⟩) hS ?_
      refine qae 2 rfl fun K hK=>?_
      go_simp;go_at_call 22
      refine(cT W0.drew).mono ?_;rintro e w3⟨rfl,hb3⟩;have hS3:=hS.below hb3;go_wp2_with fail;refine qaE hK hS3 ?_
      clear hK K;refine qaa 3 23 (.bool false) rfl rfl hS3 ?_
      refine qaa 4 24 (.bool false) rfl rfl hS3 ?_
      refine qaa 5 25 (.int .i64 ((m:Int)+1)) rfl rfl hS3 ?_
      refine qaa 6 26 (.bool true) rfl rfl hS3 ?_
      refine qaa 7 27 (.bool true) rfl rfl hS3 ?_
      refine qaa 8 28 (.slice (some ⟨g,o,none⟩) t.length c) rfl rfl hS3 ?_
      refine qaa 9 29 (.int .i64 ((m:Int)+1)) rfl rfl hS3 ?_
      refine qaa 10 30 (.int .i64 (m:Int)) rfl rfl hS3 ?_
      refine qaa 11 31 (.pointer (some ⟨g,o+m*3,none⟩)) rfl rfl hS3 ?_
      refine qaa 12 32 (.pointer (some ⟨g,o+m*3,none⟩)) rfl rfl hS3 ?_
      refine qai 13 33 (encS q) rfl rfl (Or.inl ⟨by rfl,fun w' hS'=>by have s3:=hS' _ (.tail _ (.tail _ (.tail _ (.head _))));dsimp only at s3;go_simp⟩) hS3 ?_
      refine qaa 14 34 (.pointer (some ⟨wr.heap.size,0,none⟩)) rfl rfl hS3 ?_
      refine qai 15 35 (encS p) rfl rfl (Or.inl ⟨by rfl,fun w' hS'=>by have s0:=hS' _ (.head _);dsimp only at s0;go_simp⟩) hS3 ?_
      refine qaa 16 36 (.bool false) rfl rfl hS3 ?_
      refine qaa 17 37 (.bool false) rfl rfl hS3 ?_
      refine qaa 18 38 (.bool false) rfl rfl hS3 ?_
      refine qaa 19 39 (.bool false) rfl rfl hS3 ?_
      refine qaa 20 40 (.slice (some ⟨g,o,none⟩) t.length c) rfl rfl hS3 ?_
      refine qaa 21 41 (.int .i64 ((m:Int)+1)) rfl rfl hS3 ?_
      refine qaa 22 42 (.slice (some ⟨g,o,none⟩) (m+1) c) rfl rfl hS3 ?_
      refine qaa 23 43 (.pointer (some ⟨wr.heap.size,0,none⟩)) rfl rfl hS3 ?_
      refine qai 24 44 (encS p) rfl rfl (Or.inl ⟨by rfl,fun w' hS'=>by have s0:=hS' _ (.head _);dsimp only at s0;go_simp⟩) hS3 ?_
      refine qae 25 rfl fun K hK=>?_
      go_simp;go_at_call 24
      refine(cH w3).mono ?_;rintro e w4⟨rfl,rfl⟩;go_wp2_with fail;refine qaE hK hS3 ?_
      clear hK K;refine qae 26 rfl fun K hK=>?_
      go_simp;go_at_call 23
      refine(cK w3 (hbW.trans (((Below.refl _ W0).drew.trans hb3).mono hbW.size))).mono ?_
      rintro e w4⟨rfl,hb4⟩;have hS4:=hS3.below hb4;go_wp2_with fail;refine qaE hK hS4 ?_
      clear hK K;refine qaa 27 47 (.bool false) rfl rfl hS4 ?_
      refine qaa 28 48 (.bool false) rfl rfl hS4 ?_
      refine qaa 29 49 (.bool false) rfl rfl hS4 ?_
      refine qaa 30 50 (.pointer (some ⟨wr.heap.size,1,none⟩)) rfl rfl hS4 ?_
      refine qai 31 51 (.bool true) rfl rfl (Or.inl ⟨by rfl,fun w' hS'=>by have s1:=hS' _ (.tail _ (.head _));dsimp only at s1;go_simp⟩) hS4 ?_
      refine qaa 32 52 (.bool true) rfl rfl hS4 ?_
      refine qaa 33 53 (.pointer (some ⟨wr.heap.size,2,none⟩)) rfl rfl hS4 ?_
      refine qai 34 54 (encS x) rfl rfl (Or.inl ⟨by rfl,fun w' hS'=>by have s2:=hS' _ (.tail _ (.tail _ (.head _)));dsimp only at s2;go_simp⟩) hS4 ?_
      refine qaa 35 55 (.bool true) rfl rfl hS4 ?_
      refine qaa 36 56 (.bool true) rfl rfl hS4 ?_
      refine qaa 37 57 (.bool true) rfl rfl hS4 ?_
      refine wpAnyH_done (by kernel_rfl) ?_ _
      clear hwm hm1 hm2 hc0 hc1;have hs3:=((Below.refl _ W0).drew.trans hb3).size
      go_wp2;go_ret;exact⟨by rw [HC.out];rfl,HB.out.trans ((hbW.trans ((((Below.refl _ W0).drew.trans hb3).trans (hb4.mono hs3)).mono hbW.size)).mono HB.out.size)⟩
   ·have h1:qg4 p=false:=by simpa using h1
    have HC:Hid (qaC t=9):=hid (HNF.out fun h=>by have:=qmn (HF.out.1 h).1;rw [h1] at this;cases this)
    rw [h1] at cT;have hS:Cells [(⟨wr.heap.size,0,none⟩,encS p),(⟨wr.heap.size,1,none⟩,.bool d),(⟨wr.heap.size,2,none⟩,encS x)] W0.drew:=hCells
    clear cK hprev hqk HNF HF HOK h1 hTr hTb hz hasc hx3 hCells HZ;go_wp2_with fail;clear c0 c1 c2;refine wp_region_held_drew (S:=Cells [(⟨wr.heap.size,0,none⟩,encS p),(⟨wr.heap.size,1,none⟩,.bool d),(⟨wr.heap.size,2,none⟩,encS x)]) (by kernel_rfl) hS (fun _=>?_)
    refine qaa 0 20 (.pointer (some ⟨wr.heap.size,0,none⟩)) rfl rfl hS ?_
    refine qai 1 21 (encS p) rfl rfl (Or.inl ⟨by rfl,fun w' hS'=>by have s0:=hS' _ (.head _);dsimp only at s0;go_simp⟩) hS ?_
    refine qae 2 rfl fun K hK=>?_
    go_simp;go_at_call 22
    refine(cT W0.drew).mono ?_;rintro e w3⟨rfl,hb3⟩;have hS3:=hS.below hb3;go_wp2_with fail;refine qaE hK hS3 ?_
    clear hK K;refine qaa 3 23 (.bool true) rfl rfl hS3 ?_
    refine qaa 4 24 (.bool true) rfl rfl hS3 ?_
    refine qar 5 25 rfl rfl hS3 ?_
    refine qar 6 26 rfl rfl hS3 ?_
    refine qar 7 27 rfl rfl hS3 ?_
    refine qar 8 28 rfl rfl hS3 ?_
    refine qar 9 29 rfl rfl hS3 ?_
    refine qar 10 30 rfl rfl hS3 ?_
    refine qar 11 31 rfl rfl hS3 ?_
    refine qar 12 32 rfl rfl hS3 ?_
    refine qar 13 33 rfl rfl hS3 ?_
    refine qar 14 34 rfl rfl hS3 ?_
    refine qar 15 35 rfl rfl hS3 ?_
    refine qar 16 36 rfl rfl hS3 ?_
    refine qar 17 37 rfl rfl hS3 ?_
    refine qaa 18 38 (.bool true) rfl rfl hS3 ?_
    refine qaa 19 39 (.bool true) rfl rfl hS3 ?_
    refine qar 20 40 rfl rfl hS3 ?_
    refine qar 21 41 rfl rfl hS3 ?_
    refine qar 22 42 rfl rfl hS3 ?_
    refine qar 23 43 rfl rfl hS3 ?_
    refine qar 24 44 rfl rfl hS3 ?_
    refine qar 25 45 rfl rfl hS3 ?_
    refine qar 26 46 rfl rfl hS3 ?_
    refine qar 27 47 rfl rfl hS3 ?_
    refine qaa 28 48 (.bool true) rfl rfl hS3 ?_
    refine qaa 29 49 (.bool true) rfl rfl hS3 ?_
    refine qar 30 50 rfl rfl hS3 ?_
    refine qar 31 51 rfl rfl hS3 ?_
    refine qar 32 52 rfl rfl hS3 ?_
    refine qar 33 53 rfl rfl hS3 ?_
    refine qar 34 54 rfl rfl hS3 ?_
    refine qar 35 55 rfl rfl hS3 ?_
    refine qar 36 56 rfl rfl hS3 ?_
    refine qaa 37 57 (.bool true) rfl rfl hS3 ?_
    refine wpAnyH_done (by kernel_rfl) ?_ _
    go_wp2;go_ret;exact⟨by rw [HC.out];rfl,HB.out.trans ((hbW.trans (((Below.refl _ W0).drew.trans hb3).mono hbW.size)).mono HB.out.size)⟩
  ·obtain rfl:k=t.length:=by omega
   have HC:Hid (qaC t=0):=hid (HOK.out fun j hj=>HZ.out j hj hj)
   have HB:=qH HB0 hB;clear HOK HBAD HZ hB HB0 hz hTb;go_wp2;go_ret;exact⟨by rw [HC.out];rfl,HB.out⟩
theorem Cells.set {L:List (Addr×Value)} {w:World} (h:Cells L w) {p:Addr} (hp:∀q∈L,q.1.block≠p.block) (v:Value):Cells L (w.setCell p v):=fun q hq=>
 (World.cell?_setCell_other w p q.1 v fun e=>hp q hq (by rw [e])).trans (h q hq)
theorem qiN.free {W:World} {g:Nat} {a b c:Value} (h:qiN W g a b c) (o:Nat):W.frozen? ⟨g,o,none⟩=false:=by
 unfold qiN at h;simp [World.frozen?,h]
theorem qhX {w:World} {b k:Nat} {cs:Array Value} {t:TypeId} {f:Nat×Nat} (h:w.heap[b]?=some (.cells cs t f)) (v:Value):(w.setCell ⟨b,k,none⟩ v).heap[b]?=some (.cells (cs.setIfInBounds k v) t f):=by
 show(w.heap.modify b _)[b]?=_
 rw [Array.getElem?_modify,if_pos rfl,h]
 rfl
theorem qiN.set {W:World} {g:Nat} {a b c:Value} (h:qiN W g a b c) (a' b' c':Value):qiN (((W.setCell ⟨g,0,none⟩ a').setCell ⟨g,1,none⟩ b').setCell ⟨g,2,none⟩ c') g a' b' c':=by
 simpa [qiN] using qhX (k:=2) (qhX (k:=1) (qhX (k:=0) h a') b') c'
theorem qcJ (n:ND) (w:World) (hp:n.p.length≤281474976710656) (hx:n.x.length≤281474976710656):
  Calls prog 192 #[qzw n] w fun e w'=>e=.returned (qzw n)∧Below w.heap.size w w':=by
 obtain⟨p,d,x⟩:=n;simp only at hp hx
 have cP:=fun W=>qaU p hp W
 have cX:=fun W=>qaU x hx W
 obtain⟨W0,hW0⟩:=qQ ((w.alloc (.cells #[encS p,.bool d,encS x] 48)).alloc (.cells #[.string ⟨#[]⟩,.bool false,.string ⟨#[]⟩] 48))
 have hb:Below w.heap.size w W0:=by rw [← hW0];exact((Below.refl _ _).alloc (Nat.le_refl _) _).alloc (by simp) _
 have k1:qiN W0 w.heap.size (encS p) (.bool d) (encS x):=by rw [← hW0];exact(Below.heap_alloc _ _ _ (by simp)).trans (heap_alloc_new _ _)
 have k2:qiN W0 (w.heap.size+1) (.string ⟨#[]⟩) (.bool false) (.string ⟨#[]⟩):=by
  rw [← hW0];have:=heap_alloc_new (w.alloc (.cells #[encS p,.bool d,encS x] 48)) (.cells #[.string ⟨#[]⟩,.bool false,.string ⟨#[]⟩] 48)
  rwa [World.size_alloc] at this
 have hS:Cells [(⟨w.heap.size,0,none⟩,encS p),(⟨w.heap.size,1,none⟩,.bool d),(⟨w.heap.size,2,none⟩,encS x)] W0.drew:=fun z hz=>by
  rcases List.mem_cons.1 hz with rfl|hz
  ·exact k1.a0
  rcases List.mem_cons.1 hz with rfl|hz
  ·exact k1.a1
  rcases List.mem_cons.1 hz with rfl|hz
  ·exact k1.a2
  ·cases hz
 have hs0:W0.heap.size=w.heap.size+2:=by rw [← hW0];simp
 clear k1;go_enter func192,ntmps192;go_wp2_with fail;refine wp_region_held_drew (S:=Cells [(⟨w.heap.size,0,none⟩,encS p),(⟨w.heap.size,1,none⟩,.bool d),(⟨w.heap.size,2,none⟩,encS x)]) (by kernel_rfl) hS (fun _=>?_)
 refine qaa 0 3 (.pointer (some ⟨w.heap.size,0,none⟩)) rfl rfl hS ?_
 refine qai 1 4 (encS p) rfl rfl (Or.inl ⟨by rfl,fun w' hS'=>by have s0:=hS' _ (.head _);dsimp only at s0;go_simp⟩) hS ?_
 refine qaa 3 6 (.pointer (some ⟨w.heap.size,1,none⟩)) rfl rfl hS ?_
 refine qai 4 7 (.bool d) rfl rfl (Or.inl ⟨by rfl,fun w' hS'=>by have s1:=hS' _ (.tail _ (.head _));dsimp only at s1;go_simp⟩) hS ?_
 refine qaa 5 8 (.pointer (some ⟨w.heap.size,2,none⟩)) rfl rfl hS ?_
 refine qai 6 9 (encS x) rfl rfl (Or.inl ⟨by rfl,fun w' hS'=>by have s2:=hS' _ (.tail _ (.tail _ (.head _)));dsimp only at s2;go_simp⟩) hS ?_
 refine qae 2 rfl fun K hK=>?_
 go_simp;go_at_call 26
 refine(cP W0.drew).mono ?_;rintro e w1⟨rfl,hb1⟩;have hS1:=hS.below hb1;go_wp2_with fail;refine qaE hK hS1 ?_
 clear hK K;refine qae 7 rfl fun K hK=>?_
 go_simp;go_at_call 26
 refine(cX w1).mono ?_;rintro e w2⟨rfl,hb2⟩;have hS2:=hS1.below hb2;have hb12:=(Below.refl _ W0).drew.trans (qT hb1 hb2)
 have k3:qiN w2 (w.heap.size+1) (.string ⟨#[]⟩) (.bool false) (.string ⟨#[]⟩):=qac k2 hb12
 go_wp2_with fail;refine qaE hK hS2 ?_
 clear hK K;refine qaa 8 11 (.agg #[encS p,.bool d,encS x]) rfl rfl hS2 ?_
 refine qae 9 rfl fun K hK=>?_
 have e0:=k3.a0;have e1:=k3.a1;have e2:=k3.a2
 have f0:=k3.free 0;have f1:=k3.free 1;have f2:=k3.free 2
 go_simp;refine qaE hK (((hS2.set (by simp) _).set (by simp) _).set (by simp) _) ?_
 clear hK K;refine wpAnyH_done (by kernel_rfl) ?_ _
 have hB:=hid (((((hb.trans (hb12.mono (show w.heap.size≤W0.heap.size by omega))).setCell (p:=⟨w.heap.size+1,0,none⟩) (by show w.heap.size≤w.heap.size+1;omega) (encS p)).setCell (p:=⟨w.heap.size+1,1,none⟩) (by show w.heap.size≤w.heap.size+1;omega) (.bool d)).setCell (p:=⟨w.heap.size+1,2,none⟩) (by show w.heap.size≤w.heap.size+1;omega) (encS x)))
 have k4:qiN (((w2.setCell ⟨w.heap.size+1,0,none⟩ (encS p)).setCell ⟨w.heap.size+1,1,none⟩ (.bool d)).setCell ⟨w.heap.size+1,2,none⟩ (encS x)) (w.heap.size+1) (encS p) (.bool d) (encS x):=k3.set _ _ _
 clear hS hS1 hS2 hb1 hb2 hb12 k3 e0 e1 e2 f0 f1 f2 hW0 k2;generalize ((w2.setCell ⟨w.heap.size+1,0,none⟩ (encS p)).setCell ⟨w.heap.size+1,1,none⟩ (.bool d)).setCell ⟨w.heap.size+1,2,none⟩ (encS x)=w3 at *;have e0:=k4.a0;have e1:=k4.a1;have e2:=k4.a2
 go_wp2;exact bodyPost_ret (v:=.agg #[encS p,.bool d,encS x]) (by simp [results,Tryz.results192,go_sem,e0,e1,e2]) rfl ⟨rfl,hB.out⟩
def qqT (w:World) (g o:Nat) (ss:List (Option Addr×Nat×List ND)):Prop:=
 ∀k (h:k<ss.length),w.cell? ⟨g,o+k,none⟩=some (.slice ss[k].1 ss[k].2.2.length ss[k].2.1)∧qal w (fun _=>True) ss[k].1 ss[k].2.2
def qkP (ss:List (Option Addr×Nat×List ND)):List ND:=ss.flatMap (·.2.2)
theorem qkW (ss:List (Option Addr×Nat×List ND)) (k:Nat) (h:k<ss.length):qkP (ss.take (k+1))=qkP (ss.take k)++ss[k].2.2:=by
 unfold qkP;rw [List.take_succ_eq_append_getElem h,List.flatMap_append];simp
theorem qwE (ss:List (Option Addr×Nat×List ND)) (k:Nat) (h:k<ss.length):(qkP (ss.take k)).length+ss[k].2.2.length≤(qkP ss).length:=by
 have e:qkP ss=qkP (ss.take (k+1))++qkP (ss.drop (k+1)):=by unfold qkP;rw [← List.flatMap_append,List.take_append_drop]
 rw [e,qkW ss k h];simp
theorem qt2 {ss:List (Option Addr×Nat×List ND)} {k:Nat} {h:k<ss.length} {n:ND} (hn:n∈ss[k].2.2):n∈qkP ss:=List.mem_flatMap.2 ⟨_,List.getElem_mem h,hn⟩
theorem qgi (g o c:Nat) (ss:List (Option Addr×Nat×List ND)) (w:World) (hS:qqT w g o ss) (hl:ss.length≤1024) (ht:(qkP ss).length≤1048576) (hz:qbj (qkP ss)):
  Calls prog 196 #[.slice (some ⟨g,o,none⟩) ss.length c] w fun e w'=>∃a c',e=.returned (.slice a (qkP ss).length c')∧qfr w' w.heap.size a c' (qkP ss)∧Below w.heap.size w w':=by
 obtain⟨i0,hi,hz0,hz1,hz2⟩:=info_parts qhZ;go_enter func196,ntmps196;go_wp2;go_loopw [3,10] (fun v i wr=>∃(k:Nat) (a:Option Addr) (c':Nat) (ys:List ND),k≤ss.length∧i=.int .i64 k∧v=.slice a ys.length c'∧Hid (ys=qkP (ss.take k))∧qfr wr w.heap.size a c' ys∧Below w.heap.size w wr) (fun _ i _=>ss.length-(intOf i).toNat)
 case atStart=>exact⟨0,none,0,[],Nat.zero_le _,rfl,rfl,hid rfl,World.ownsRow_nil _ _ _ _,Below.refl _ _⟩
 case round=>
  obtain⟨k,a,c',ys,hk,rfl,rfl,HY,hO,hB⟩:=hrel;by_cases hlt:k<ss.length
  ·obtain⟨hc,hN⟩:=hS k hlt
   have hc:=cell_below hB hc;have hle:=qwE ss k hlt;have HY2:=hid (qkW ss k hlt)
   rw [← HY.out] at hle HY2;have hzk:∀n∈ss[k].2.2,n.p.length≤274877906944∧n.x.length≤274877906944:=fun n hn=>hz n (qt2 hn)
   generalize ss[k]=s at *;obtain⟨A1,c1,t⟩:=s;simp only at hc hN hle HY2 hzk
   have HO:=hid (And.intro hO hB)
   clear HY;go_wp2;go_loopw [3,16] (fun v i wr=>∃(j:Nat) (a3:Option Addr) (c3:Nat) (zs:List ND),j≤t.length∧i=.int .i64 j∧v=.slice a3 zs.length c3∧Hid (zs=ys++t.take j)∧qfr wr w.heap.size a3 c3 zs∧Below w.heap.size w wr) (fun _ i _=>t.length-(intOf i).toNat)
   case atStart=>exact⟨0,a,c',ys,Nat.zero_le _,rfl,rfl,hid (by simp),HO.out.1,HO.out.2⟩
   case round=>
    obtain⟨j,a3,c3,zs,hj,rfl,rfl,HZ,hO3,hB3⟩:=hrel;by_cases hjt:j<t.length
    ·obtain⟨g1,o1,rfl,-,b0,b1,b2⟩:=hN j hjt
     have b0:=cell_below hB3 b0;have b1:=cell_below hB3 b1;have b2:=cell_below hB3 b2
     have HZ2:Hid (zs++[t[j]]=ys++t.take (j+1)):=hid (by rw [HZ.out,List.take_succ_eq_append_getElem hjt,List.append_assoc])
     have hzl:zs.length≤ys.length+j:=by rw [HZ.out,List.length_append,List.length_take];omega
     obtain⟨hp1,hx1⟩:=hzk _ (List.getElem_mem hjt)
     generalize t[j]=n at *;obtain⟨p,d,x⟩:=n;simp only at b0 b1 b2 hp1 hx1
     have cC:=fun W=>qcJ ⟨p,d,x⟩ W (by show p.length≤_;omega) (by show x.length≤_;omega)
     have hs3:=hB3.size;have HB3:=hid hB3;have hO3:wr.ownsRow w.heap.size 48 3 (.slice a3 zs.length c3) zs.length (zs.flatMap qa7):=hO3
     clear hB3 hB HZ hN hzk HO hc hS;go_wp2_with fail;refine(cC _).mono ?_;rintro e w4⟨rfl,hb4⟩;have hb34:Below wr.heap.size wr w4:=((Below.refl _ _).alloc (Nat.le_refl _) _).trans (hb4.mono (by simp))
     have hO4:=own_below hO3 hb34;have HB4:=hid (HB3.out.trans (hb34.mono hs3))
     have hs4:=HB4.out.size;clear cC hb4 hb34 b0 b1 b2 hO3;go_wp2_with (at_builtin;refine wpList_append_own _ rfl _ _ 23 rfl w.heap.size 48 i0 _ 3 40 underlying23 hi hz0 hz1 hz2 rfl (by decide) _ _ _ rfl (World.ownsRow.alloc (w:=w4) hO4 _) ⟨w4.heap.size,0,none⟩ 1 1 (qa7 ⟨p,d,x⟩) rfl rfl ?c1 ?c2 ?c3 ?c4 ?c5 ?_)
     case c1=>first|exact World.news_of_block (heap_alloc_new w4 _)|exact fun j u h=>h
     case c2=>simp [qa7,Value.oneCell']
     case c3=>unfold maxLen;omega
     case c4=>omega
     case c5=>simp;omega
     intro v5 w5 hown5 hg5 _
     obtain⟨g5,c5,rfl⟩:=ownsRow_succ hown5;have hB5:Below w.heap.size w w5:=(HB4.out.alloc hs4 _).grown hg5 (by simp;omega) (fun j e=>(hO4.lt j e).1)
     have HF5:=hid (And.intro (qfr.next hown5) hB5)
     clear hB5 hown5 hg5 hO4;go_wp2_with fail;go_roundw
     case rel=>exact⟨j+1,some ⟨g5,0,none⟩,c5,zs++[⟨p,d,x⟩],by omega,by go_num,by simp,HZ2,HF5.out.1,HF5.out.2⟩
     case measure=>simp [intOf];omega
    ·obtain rfl:j=t.length:=by omega
     have HZ2:Hid (zs=qkP (ss.take (k+1))):=hid (by rw [HZ.out,List.take_length,HY2.out])
     have HO3:=hid (And.intro hO3 hB3)
     clear HZ hO3 hB3 hN hzk hc hS;go_wp2;go_roundw
     case rel=>exact⟨k+1,a3,c3,zs,by omega,by go_num,rfl,HZ2,HO3.out.1,HO3.out.2⟩
     case measure=>simp [intOf];omega
  ·obtain rfl:k=ss.length:=by omega
   rw [List.take_length] at HY;obtain rfl:=HY.out
   have HO:=hid (And.intro hO hB)
   clear hO hB hS;go_wp2;go_ret;exact⟨a,c',rfl,HO.out.1,HO.out.2⟩
theorem qeV (g:Nat) (lb:Array Value) (A:Option Addr) (c:Nat) (t:List ND) (p:List UInt8) (f:Int) (w:World) (hT:qal w (fun _=>True) A t) (hl:t.length≤1099511627776) (hz:qbj t) (hcap:t.length≤c) (hp:p.length≤274877906944) (ha:qga t p=([],f)) (hf:f≠0):
  Calls prog 152 #[.slice A t.length c,encS p,.func (.func g) #[] lb] w fun e w'=>e=.returned (.int .i64 f)∧Below w.heap.size w w':=by
 have cC:=qeM A c t w hT hl hz hcap;have cP:=fun W=>qix p W (by omega)
 rcases qk3 t with ⟨h,h0⟩|⟨h,h0⟩
 ·have hq:qaK p=([],f):=by unfold qga at ha;rw [if_pos h] at ha;exact ha
  rw [h0] at cC;rw [hq] at cP;have q1:(f==0)=false:=by simpa using hf
  have q2:(f !=0)=true:=by simpa using hf
  clear h h0 hT hz ha hf hq;go_enter func152,ntmps152;go_wp2_with fail;refine cC.mono ?_;rintro e w1⟨rfl,hb1⟩;have HB:=hid hb1;clear hb1 cC;go_wp2_with fail;refine(cP _).mono ?_;rintro e w2⟨rfl,hb2⟩;have HB2:=qH HB hb2;clear hb2 cP;go_wp2_with fail;go_ret;exact⟨rfl,HB2.out⟩
 ·have hq:f=9:=by unfold qga at ha;rw [if_neg h] at ha;exact(Prod.mk.inj ha).2.symm
  subst hq;rw [h0] at cC;clear h h0 hT hz ha cP;go_enter func152,ntmps152;go_wp2_with fail;refine cC.mono ?_;rintro e w1⟨rfl,hb1⟩;have HB:=hid hb1;clear hb1 cC;go_wp2_with fail;go_ret;exact⟨rfl,HB.out⟩
def qbW (R:Int→World→Prop) (e:Ending) (w':World):Prop:=∃n,e=.returned (.int .i64 n)∧R n w'
theorem qqZ (g:Nat) (lb:Array Value) (eg:∀args w,(callFunc g args).run prog w=.ok (.enter g args) w) (R:Int→World→Prop) (A:Option Addr) (c:Nat) (t:List ND) (p:List UInt8) (w:World) (hT:qal w (fun _=>True) A t) (hl:t.length≤1099511627776) (hz:qbj t) (hcap:t.length≤c) (hp:p.length≤274877906944) (hok:OkT t) (hq:qaK p=(qam p,0))
  (hdo:∀W,Below w.heap.size w W→Calls prog g (#[.agg #[encS (qam p),.int .i64 (qag t (qam p)),.int .i64 (qak t (qam p))]]++lb) W (qbW R)):
  Calls prog 152 #[.slice A t.length c,encS p,.func (.func g) #[] lb] w (qbW R):=by
 have cC:=qeM A c t w hT hl hz hcap;have cP:=fun W=>qix p W (by omega)
 rw [qhw hok] at cC;rw [hq] at cP;have cW:=fun W (hb:Below w.heap.size w W)=>qmr A c t (qam p) W (hT.below hb) hl hok.asc
 have cK:=fun W (hb:Below w.heap.size w W)=>qgk A c t (qam p) W (hT.below hb) hl hok.asc
 generalize qag t (qam p)=wh at *;generalize qak t (qam p)=K at *;generalize qam p=P at *;clear hT hz hok hq;go_enter func152,ntmps152;go_wp2_with fail;refine cC.mono ?_;rintro e w1⟨rfl,hb1⟩;have HB:=hid hb1;clear hb1 cC;go_wp2_with fail;refine(cP _).mono ?_;rintro e w2⟨rfl,hb2⟩;have HB2:=qH HB hb2;have cW2:=cW w2 HB2.out;clear hb2 cP cW;go_wp2_with fail;refine cW2.mono ?_;rintro e w3⟨rfl,hb3⟩;have HB3:=qH HB2 hb3;have cK3:=cK w3 HB3.out;clear hb3 cW2 cK;go_wp2_with fail;refine cK3.mono ?_;rintro e w4⟨rfl,hb4⟩;have cD:=hdo w4 (HB3.out.trans (hb4.mono HB3.out.size))
 clear hb4 cK3 hdo;go_wp2_with (go_at_fn g;refine cD.mono ?_;rintro e w5 ⟨n,rfl,hR⟩)
 have HR:=hid hR;clear hR cD;go_wp2_with fail;go_ret;exact⟨n,rfl,HR.out⟩
def qdv (t:List ND) (P:List UInt8) (K more:Int):Int:=if qak t (qcE P)=0 then 71 else if qak t (qcE P)=1 then 16 else if(K=0∧256≤t.length)∨65536<(qbM t:Int)+more then 17 else 0
theorem qoC (A:Option Addr) (c:Nat) (t:List ND) (P:List UInt8) (wh K more:Int) (w:World) (hT:qal w (fun _=>True) A t) (hok:OkT t) (hz:qbj t) (hP:P≠[]) (hs:P.length≤1099511627776) (hm:-4611686018427387904≤more∧more≤4611686018427387904):
  Calls prog (195) #[.agg #[encS P,.int .i64 wh,.int .i64 K],.slice A t.length c,.int .i64 more] w fun e w'=>e=.returned (.int .i64 (qdv t P K more))∧Below w.heap.size w w':=by
 have h256:=hok.1;have hsum:=hok.sum;have cH:=fun W=>qob P hP hs W
 have cK:=fun W (hb:Below w.heap.size w W)=>qgk A c t (qcE P) W (hT.below hb) (by omega) hok.asc
 have cS:=fun W (hb:Below w.heap.size w W)=>qoK A c t W (hT.below hb) h256 hz
 have hal:Below w.heap.size w (w.alloc (.cells #[encS P,.int .i64 wh,.int .i64 K] 167)):=(Below.refl _ _).alloc (Nat.le_refl _) _
 have hb3:(w.alloc (.cells #[encS P,.int .i64 wh,.int .i64 K] 167)).heap[w.heap.size]?=some (.cells #[encS P,.int .i64 wh,.int .i64 K] 167 (0,0)):=heap_alloc_new _ _
 generalize hS:qbM t=S at *;have hR:Hid (qdv t P K more=if qak t (qcE P)=0 then 71 else if qak t (qcE P)=1 then 16 else if(K=0∧256≤t.length)∨65536<(S:Int)+more then 17 else 0):=hid (by unfold qdv;rw [hS])
 obtain⟨W0,hW0⟩:=qQ (w.alloc (.cells #[encS P,.int .i64 wh,.int .i64 K] 167))
 rw [hW0] at hal hb3;have x0:W0.cell? ⟨w.heap.size,0,none⟩=some (encS P):=by simp [World.cell?,hb3]
 have hkc:=qbY t (qcE P)
 generalize qak t (qcE P)=KH at *;have hkc:KH=0∨KH=1∨KH=2:=by rcases hkc with ⟨h,_⟩|⟨h,_⟩|⟨h,_⟩<;>simp [h]
 clear hT hz hok hP hS;rcases hkc with rfl|rfl|rfl
 ·go_enter func195,ntmps195
  go_wp2_with (go_at_call 24;refine(cH _).mono ?_;rintro e w3 ⟨rfl,rfl⟩)
  refine(cK _ hal).mono ?_;rintro e w4⟨rfl,hb4⟩;have HB:=hid (qT hal hb4)
  clear cK cS hb4 cH x0 hb3;go_wp2;go_ret;exact⟨by rw [hR.out];rfl,HB.out⟩
 ·go_enter func195,ntmps195
  go_wp2_with (go_at_call 24;refine(cH _).mono ?_;rintro e w3 ⟨rfl,rfl⟩)
  refine(cK _ hal).mono ?_;rintro e w4⟨rfl,hb4⟩;have HB:=hid (qT hal hb4)
  clear cK cS hb4 cH x0 hb3;go_wp2;go_ret;exact⟨by rw [hR.out];rfl,HB.out⟩
 ·have hfull:(K=0∧256≤t.length)∨((K==0)=true∧decide ((256:Int)≤(t.length:Int))=false∧¬256≤t.length)∨((K==0)=false∧K≠0):=by
   by_cases hK:K=0
   ·by_cases hL:256≤t.length
    ·exact .inl ⟨hK,hL⟩
    ·exact .inr (.inl ⟨by simpa using hK,by simp;omega,hL⟩)
   ·exact .inr (.inr ⟨by simpa using hK,hK⟩)
  rcases hfull with ⟨rfl,hL⟩|hfull
  ·have q2:decide ((256:Int)≤(t.length:Int))=true:=by simp;omega
   have hR2:Hid (qdv t P 0 more=17):=hid (by rw [hR.out,if_neg (by decide),if_neg (by decide),if_pos (.inl ⟨rfl,hL⟩)])
   clear hR hL;go_enter func195,ntmps195;go_wp2_with (go_at_call 24;refine(cH _).mono ?_;rintro e w3 ⟨rfl,rfl⟩)
   refine(cK _ hal).mono ?_;rintro e w4⟨rfl,hb4⟩;have HB:=hid (qT hal hb4)
   have hb5:=qac hb3 hb4;have x2:w4.cell? ⟨w.heap.size,2,none⟩=some (.int .i64 0):=by simp [World.cell?,hb5]
   clear cK cS hb4 cH x0 hb3 hb5;go_wp2;go_ret;exact⟨by rw [hR2.out];rfl,HB.out⟩
  ·have hno:¬(K=0∧256≤t.length):=by
    rcases hfull with ⟨_,_,h⟩|⟨_,h⟩
    ·exact fun hh=>h hh.2
    ·exact fun hh=>h hh.1
   have hS2:(65536<(S:Int)+more∧decide ((65536:Int)<(S:Int)+more)=true)∨(¬65536<(S:Int)+more∧decide ((65536:Int)<(S:Int)+more)=false):=by
    by_cases h:65536<(S:Int)+more
    ·exact .inl ⟨h,by simpa using h⟩
    ·exact .inr ⟨h,by simpa using h⟩
   have hR3:Hid (qdv t P K more=if 65536<(S:Int)+more then 17 else 0):=hid (by
    rw [hR.out,if_neg (by decide),if_neg (by decide)];by_cases h:65536<(S:Int)+more
    ·rw [if_pos (.inr h),if_pos h]
    ·rw [if_neg (by rintro(e|e);exact hno e;exact h e),if_neg h])
   clear hR hno;rcases hS2 with ⟨h,q3⟩|⟨h,q3⟩
   all_goals
    first|rw [if_pos h] at hR3|rw [if_neg h] at hR3
    clear h;rcases hfull with ⟨q1,q2,-⟩|⟨q1,-⟩
    all_goals
     go_enter func195,ntmps195;go_wp2_with (go_at_call 24;refine(cH _).mono ?_;rintro e w3 ⟨rfl,rfl⟩)
     refine(cK _ hal).mono ?_;rintro e w4⟨rfl,hb4⟩;have hal4:=qT hal hb4;have hb5:=qac hb3 hb4;have x2:w4.cell? ⟨w.heap.size,2,none⟩=some (.int .i64 K):=by simp [World.cell?,hb5]
     have cS4:=cS w4 hal4;clear cK cS hb4 cH x0 hb3 hb5;go_wp2_with fail;refine cS4.mono ?_;rintro e w5⟨rfl,hb5⟩;have HB:=hid (qT hal4 hb5)
     clear hb5 cS4 x2;go_wp2;go_ret;exact⟨by rw [hR3.out];rfl,HB.out⟩
def qkR (t:List ND) (P:List UInt8):List UInt8:=((qbU t P).map (·.x)).getD []
noncomputable def qbi (t:List ND) (P:List UInt8) (y:List UInt8):List ND×Int:=
 if qak t P=2 then([],15) else if qbd t P≠0 then([],qbd t P) else qfc (qbT t ⟨P,false,y⟩)
theorem qcW {t:List ND} {P:List UInt8} (ha:Asc t) (hK:qak t P≠2):(qak t P=0∧qbU t P=none∧qkR t P=[])∨(qak t P=1∧∃h:qag t P<t.length,qbU t P=some t[qag t P]∧qkR t P=t[qag t P].x):=by
 rcases qbY t P with ⟨h,_,h2⟩|⟨h,_,n,h2,_⟩|⟨h,_⟩
 ·exact .inl ⟨h,h2,by unfold qkR;rw [h2];rfl⟩
 ·rcases qgC ha P with ⟨h3,_,h4⟩|⟨_,h4⟩
  ·exact .inr ⟨h,h3,h4,by unfold qkR;rw [h4];rfl⟩
  ·rw [h4] at h2;cases h2
 ·exact absurd h hK
theorem qrG {t:List ND} {P y:List UInt8} (hok:OkT t) (hK:qak t P≠2):
  ((qak t P=0∧256≤t.length)∨65536<(qbM t:Int)+((y.length:Int)-((qkR t P).length:Int)))↔¬((qbT t ⟨P,false,y⟩).length≤256∧qbM (qbT t ⟨P,false,y⟩)≤65536):=by
 rw [qbK];have h256:=hok.1;have hsm:=hok.sum;rcases qcW hok.asc hK with ⟨h0,h1,h2⟩|⟨h0,hw,h1,h2⟩
 ·obtain⟨e1,e2⟩:=qto (n:=⟨P,false,y⟩) hok.asc h1
  rw [e1,e2,h0,h2];simp
  omega
 ·obtain⟨e1,e2⟩:=qxS (n:=⟨P,false,y⟩) hok.asc h1
  rw [e2,h0,h2];have e1:qbM (qd4 ⟨P,false,y⟩ t)+t[qag t P].x.length=qbM t+y.length:=e1
  simp
  omega
def qcR (t:List ND) (P:List UInt8):Nat:=if qak t P=1 then qag t P+1 else qag t P
theorem qqC {t:List ND} {P y:List UInt8} (hok:OkT t) (hK:qak t P≠2):qbT t ⟨P,false,y⟩=t.take (qag t P)++(⟨P,false,y⟩::t.drop (qcR t P)):=by
 rw [qbK];unfold qcR;rcases qcW hok.asc hK with ⟨h0,h1,h2⟩|⟨h0,hw,h1,h2⟩
 ·rw [h0,if_neg (by decide)]
  exact qkh ⟨P,false,y⟩ hok.asc h1
 ·rw [h0,if_pos rfl]
  exact qmT ⟨P,false,y⟩ hok.asc h1
theorem qq3 {t:List ND} {P:List UInt8} (hok:OkT t) (hK:qak t P≠2):qcR t P≤t.length:=by
 unfold qcR;rcases qcW hok.asc hK with ⟨h0,_⟩|⟨h0,hw,_⟩
 ·rw [h0,if_neg (by decide)];exact qf4 t P
 ·rw [h0,if_pos rfl];omega
theorem ql2 {t:List ND} {P:List UInt8} (h:qam P=P) (h47:P≠[47]) (K more:Int):qdv t P K more=if qbd t P≠0 then qbd t P else if(K=0∧256≤t.length)∨65536<(qbM t:Int)+more then 17 else 0:=by
 unfold qdv qbd;rw [qgh h h47];rcases qbY t (qbl P) with ⟨e,_⟩|⟨e,_⟩|⟨e,_⟩<;>rw [e]<;>simp
def qfq (N ab:Nat) (w0:World) (q:List ND×Int) (n:Int) (W':World):Prop:=
 n=q.2∧∃a c,W'.heap[ab]?=some (.cells #[.slice a q.1.length c] 23 (0,0))∧qfr W' N a c q.1∧Below N w0 W'
theorem qa2 {N ab:Nat} {w0 W':World} {q:List ND×Int} {f:Int} (hq:q=([],f)) (h4:W'.heap[ab]?=some (.cells #[.slice none 0 0] 23 (0,0))) (hB:Below N w0 W'):qbW (qfq N ab w0 q) (.returned (.int .i64 f)) W':=by
 subst hq;exact⟨f,rfl,rfl,none,0,h4,World.ownsRow_nil _ _ _ _,hB⟩
theorem qjq {w:World} {A:Option Addr} {c b:Nat} {t:List ND} (h:qal w (fun _=>True) A t) (hc:t.length≤c):qal w (fun _=>True) (if c=b then A else A.map (·.add (b*3))) (t.drop b):=fun j hj=>by
 rw [List.length_drop] at hj;obtain⟨g,o,rfl,_,c0,c1,c2⟩:=h (b+j) (by omega)
 rw [if_neg (by omega)];refine⟨g,o+b*3,by simp [qgG],trivial,?_,?_,?_⟩
 ·rw [List.getElem_drop,show o+b*3+j*3=o+(b+j)*3 by omega];exact c0
 ·rw [List.getElem_drop,show o+b*3+j*3=o+(b+j)*3 by omega];exact c1
 ·rw [List.getElem_drop,show o+b*3+j*3=o+(b+j)*3 by omega];exact c2
theorem qyP {t:List ND} (h:OkT t) {n:ND} (hn:n∈t):n.x.length≤65536:=Nat.le_trans (qoP hn) h.sum
theorem qmU (A D:Option Addr) (c1 c3:Nat) (l1 l3:List ND) (n:ND) (w5:World) (h1:qal w5 (fun _=>True) A l1) (h3:qal w5 (fun _=>True) D l3) (ht:(l1++n::l3).length≤1048576) (hz:qbj (l1++n::l3)):
  Calls prog 196 #[.slice (some ⟨w5.heap.size+1,0,none⟩) 3 3] ((w5.drew.alloc (.cells #[encS n.p,.bool n.d,encS n.x] 48)).alloc (.cells #[.slice A l1.length c1,.slice (some ⟨w5.heap.size,0,none⟩) 1 1,.slice D l3.length c3] 23))
   fun e w'=>∃a c',e=.returned (.slice a (l1++n::l3).length c')∧qfr w' w5.heap.size a c' (l1++n::l3)∧Below w5.heap.size w5 w':=by
 obtain⟨ss,hss⟩:∃ss:List (Option Addr×Nat×List ND),ss=[(A,c1,l1),(some ⟨w5.heap.size,0,none⟩,1,[n]),(D,c3,l3)]:=⟨_,rfl⟩
 have hall:qkP ss=l1++n::l3:=by rw [hss];simp [qkP]
 have hb:Below w5.heap.size w5 (w5.drew.alloc (.cells #[encS n.p,.bool n.d,encS n.x] 48)):=(Below.refl _ w5).drew.alloc (Nat.le_refl _) _
 have hn0:(w5.drew.alloc (.cells #[encS n.p,.bool n.d,encS n.x] 48)).heap[w5.heap.size]?=some (.cells #[encS n.p,.bool n.d,encS n.x] 48 (0,0)):=heap_alloc_new w5.drew _
 have hz0:(w5.drew.alloc (.cells #[encS n.p,.bool n.d,encS n.x] 48)).heap.size=w5.heap.size+1:=by simp
 generalize w5.drew.alloc (.cells #[encS n.p,.bool n.d,encS n.x] 48)=w6 at *;obtain⟨o6,ho6⟩:=qQ ((Obj.cells #[.slice A l1.length c1,.slice (some ⟨w5.heap.size,0,none⟩) 1 1,.slice D l3.length c3] 23))
 rw [ho6];have hb6:Below w6.heap.size w6 (w6.alloc o6):=(Below.refl _ _).alloc (Nat.le_refl _) _
 have hb7:=qT hb hb6;have hk:(w6.alloc o6).heap[w5.heap.size+1]?=some (.cells #[.slice A l1.length c1,.slice (some ⟨w5.heap.size,0,none⟩) 1 1,.slice D l3.length c3] 23 (0,0)):=by
  have:=heap_alloc_new w6 o6
  rw [hz0] at this;rw [this,← ho6]
 have hn1:=qac hn0 hb6;have hsz:(w6.alloc o6).heap.size=w5.heap.size+2:=by simp [hz0]
 generalize w6.alloc o6=w7 at *;have hS:qqT w7 (w5.heap.size+1) 0 ss:=fun k hk'=>by
  subst hss
  match k,hk' with
  |0,_=>exact⟨by simp [World.cell?,hk],h1.below hb7⟩
  |1,_=>
   refine⟨by simp [World.cell?,hk],fun j hj=>?_⟩
   obtain rfl:j=0:=by simpa using hj
   exact⟨w5.heap.size,0,rfl,trivial,by simp [World.cell?,hn1],by simp [World.cell?,hn1],by simp [World.cell?,hn1]⟩
  |2,_=>exact⟨by simp [World.cell?,hk],h3.below hb7⟩
 have cJ:=qgi (w5.heap.size+1) 0 3 ss w7 hS (by rw [hss];simp) (by rw [hall];exact ht) (by rw [hall];exact hz)
 rw [hall,show ss.length=3 by rw [hss];rfl] at cJ;refine cJ.mono ?_;rintro e w'⟨a,c',rfl,hO,hb8⟩;exact⟨a,c',rfl,qfP hO (by omega),hb7.trans (hb8.mono (by omega))⟩
set_option maxHeartbeats 16000000 in
theorem qtM (g0:Nat) (eg0:∀args w,(callFunc g0 args).run prog w=.ok (.enter g0 args) w) (k:List UInt8→List UInt8) (hk:∀old W,Calls prog g0 #[encS old] W fun e w'=>e=.returned (encS (k old))∧W=w') (hkl:∀old,(k old).length≤old.length)
  (A:Option Addr) (c:Nat) (t:List ND) (P x:List UInt8) (tb kb db ab N:Nat) (w0 W:World) (hN:N≤ab) (hne:tb≠ab∧db≠ab)
  (h1:W.heap[tb]?=some (.cells #[.slice A t.length c] 23 (0,0))) (h2:W.heap[kb]?=some (.cells #[.func (.func g0) #[] #[]] 50 (0,0))) (h3:W.heap[db]?=some (.cells #[encS x] 9 (0,0))) (h4:W.heap[ab]?=some (.cells #[.slice none 0 0] 23 (0,0)))
  (hB:Below N w0 W) (hT:qal W (fun _=>True) A t) (hok:OkT t) (hz:qbj t) (hcap:t.length≤c) (hPp:qam P=P) (hP0:P≠[]) (hPl:P.length≤274877906944) (hx:x.length≤137438953472):
  Calls prog 197 #[.agg #[encS P,.int .i64 (qag t P),.int .i64 (qak t P)],.pointer (some ⟨tb,0,none⟩),.pointer (some ⟨kb,0,none⟩),.pointer (some ⟨db,0,none⟩),.pointer (some ⟨ab,0,none⟩)] W (qbW (qfq N ab w0 (qbi t P (k (qkR t P)++x)))):=by
 have hNW:N≤W.heap.size:=by have:=lt_of_block h4;omega
 have h256:=hok.1;obtain⟨W1,hW1⟩:=qQ (W.alloc (.cells #[encS P,.int .i64 (qag t P),.int .i64 (qak t P)] 167))
 have hal:Below W.heap.size W W1:=by rw [← hW1];exact(Below.refl _ _).alloc (Nat.le_refl _) _
 have hsp:W1.heap[W.heap.size]?=some (.cells #[encS P,.int .i64 (qag t P),.int .i64 (qak t P)] 167 (0,0)):=by rw [← hW1];exact heap_alloc_new _ _
 have g1:=qac h1 hal;have g2:=qac h2 hal;have g3:=qac h3 hal;have g4:=qac h4 hal
 have hT1:=hT.below hal;have hB1:=hB.trans (hal.mono hNW)
 have hsbne:W.heap.size≠ab:=by have:=lt_of_block h4;omega
 have hN1:N≤W1.heap.size:=Nat.le_trans hNW hal.size
 have x0:W1.cell? ⟨W.heap.size,0,none⟩=some (encS P):=by simp [World.cell?,hsp]
 have x1:W1.cell? ⟨W.heap.size,1,none⟩=some (.int .i64 (qag t P)):=by simp [World.cell?,hsp]
 have x2:W1.cell? ⟨W.heap.size,2,none⟩=some (.int .i64 (qak t P)):=by simp [World.cell?,hsp]
 have y1:=cell_of_one g1;have y2:=cell_of_one g2;have y3:=cell_of_one g3
 by_cases hK:qak t P=2
 ·have HQ:Hid (qbi t P (k (qkR t P)++x)=([],15)):=hid (by unfold qbi;rw [if_pos hK])
  rw [hK] at x2 hW1 ⊢;have HF:=hid (And.intro g4 hB1)
  clear hT hT1 hok hz hK g1 g2 g3 g4 h1 h2 h3 h4 hsp hB hB1 y1 y2 y3 x0 x1 hk hkl;go_enter func197,ntmps197;go_wp2;go_ret;exact qa2 HQ.out HF.out.1 HF.out.2
 have h47:P≠[47]:=fun e=>hK (by rw [e];exact qef t)
 have HRH:Hid (∀more,qdv t P (qak t P) more=if qbd t P≠0 then qbd t P else if(qak t P=0∧256≤t.length)∨65536<(qbM t:Int)+more then 17 else 0):=hid (fun more=>ql2 hPp h47 (qak t P) more)
 have HFR:=hid (qrG (y:=k (qkR t P)++x) hok hK)
 have HWP:=hid (qqC (y:=k (qkR t P)++x) hok hK)
 have HBL:=hid (qq3 hok hK)
 have hwl:=qf4 t P;have HQ:Hid (qbi t P (k (qkR t P)++x)=if qbd t P≠0 then([],qbd t P) else qfc (qbT t ⟨P,false,k (qkR t P)++x⟩)):=hid (by unfold qbi;rw [if_neg hK])
 have cR:=fun more W2 (hb:Below W1.heap.size W1 W2) hm=>qoC A c t P (qag t P) (qak t P) more W2 (hT1.below hb) hok hz hP0 (by omega) hm
 have hko:=hkl (qkR t P)
 have cK:=fun W2=>hk (qkR t P) W2
 have hjN:∀W2,Below W1.heap.size W1 W2→qal W2 (fun _=>True) A (t.take (qag t P))∧qal W2 (fun _=>True) (if c=qcR t P then A else A.map (·.add (qcR t P*3))) (t.drop (qcR t P)):=fun W2 hb=>⟨qgl (hT1.below hb) _,qjq (hT1.below hb) hcap⟩
 rcases qcW hok.asc hK with ⟨hK0,hf,ho⟩|⟨hK1,hw,hf,ho⟩
 ·rw [ho] at HQ HFR HWP cK hko ⊢
  rw [hK0] at HRH HFR cR x2 hW1 hsp ⊢;have hbe:qcR t P=qag t P:=by unfold qcR;rw [hK0];rfl
  rw [hbe] at HWP hjN HBL;simp only [List.length_nil] at hko
  have hko:k []=[]:=List.eq_nil_of_length_eq_zero (by omega)
  rw [hko] at HQ HFR HWP cK ⊢;rw [List.nil_append] at HQ HFR HWP ⊢;clear hK hK0 hf ho hbe hT hT1 h1 h2 h3 h4 hk hkl;go_enter func197,ntmps197;go_wp2_with fail;go_quiet (fail)
  go_wp2_with (go_at_fn g0;refine(cK _).mono ?_;rintro e w2 ⟨rfl,rfl⟩)
  refine(cR (x.length:Int) _ (below_drewN (Below.refl _ _) _) (by omega)).mono ?_
  rintro e w5⟨rfl,hb5'⟩;have hb5:Below W1.heap.size W1 w5:=(below_drewN (Below.refl _ W1) _).trans hb5'
  have HR:=hid (HRH.out (x.length:Int))
  have g5:=qac g4 hb5;have hB5:=hB1.trans (hb5.mono hN1)
  by_cases hroom:qbd t P=0
  rotate_left
  ·have HR2:Hid (qdv t P 0 (x.length:Int)=qbd t P):=hid (by rw [HR.out,if_pos hroom])
   have HQ2:Hid (qbi t P (x)=([],qbd t P)):=hid (by rw [HQ.out,if_pos hroom])
   have q1:(qbd t P==0)=false:=by simpa using hroom
   have q2:(qbd t P !=0)=true:=by simpa using hroom
   rw [HR2.out];have HF:=hid (And.intro g5 hB5)
   generalize qbd t P=RL at *;clear HR HR2 HQ HRH cR cK hjN hb5 hb5' g5 hB5 g1 g2 g3 g4 y1 y2 y3 x0 x1 x2 hroom hsp hok hz HFR HWP HBL;go_wp2;go_ret;exact qa2 HQ2.out HF.out.1 HF.out.2
  have HR1:Hid (qdv t P 0 (x.length:Int)=if 256≤t.length∨65536<(qbM t:Int)+(x.length:Int) then 17 else 0):=hid (by rw [HR.out,if_neg (by simpa using hroom)];simp)
  have HQ1:Hid (qbi t P (x)=qfc (qbT t ⟨P,false,x⟩)):=hid (by rw [HQ.out,if_neg (by simpa using hroom)])
  have hiff:(256≤t.length∨65536<(qbM t:Int)+(x.length:Int))↔¬((qbT t ⟨P,false,x⟩).length≤256∧qbM (qbT t ⟨P,false,x⟩)≤65536):=by
   have:=HFR.out
   simpa using this
  by_cases hfull:256≤t.length∨65536<(qbM t:Int)+(x.length:Int)
  ·have HR2:Hid (qdv t P 0 (x.length:Int)=17):=hid (by rw [HR1.out,if_pos hfull])
   have HQ2:Hid (qbi t P (x)=([],17)):=hid (by
    rw [HQ1.out];exact if_neg (hiff.1 hfull))
   rw [HR2.out];have HF:=hid (And.intro g5 hB5)
   clear HR HR1 HR2 HQ HQ1 HRH cR cK hjN hb5 hb5' g5 hB5 g1 g2 g3 g4 y1 y2 y3 x0 x1 x2 hroom hsp hok hz HFR HWP HBL hfull hiff;go_wp2;go_ret;exact qa2 HQ2.out HF.out.1 HF.out.2
  have HR2:Hid (qdv t P 0 (x.length:Int)=0):=hid (by rw [HR1.out,if_neg hfull])
  have hfit:=Classical.not_not.1 (fun h=>hfull (hiff.2 h))
  rw [HR2.out];have hwz:qbj (qbT t ⟨P,false,x⟩):=fun n hn=>by
   rcases qiL hn with rfl|h
   ·exact⟨hPl,by show(x).length≤_;omega⟩
   ·exact hz n h
  have HQ:=hid (show qbi t P (x)=(qbT t ⟨P,false,x⟩,0) by rw [HQ1.out];exact if_pos hfit)
  have hlen:=hfit.1;rw [HWP.out] at HQ hlen hwz;obtain⟨hj1,hj3⟩:=hjN w5 hb5;have hJ:=qmU A _ c (c-(qag t P)) _ _ ⟨P,false,x⟩ w5 hj1 hj3 (by omega) hwz
  obtain⟨Z,hZ⟩:=qQ (t.take (qag t P)++(⟨P,false,x⟩::t.drop (qag t P)))
  rw [hZ,List.length_take,Nat.min_eq_left hwl,List.length_drop] at hJ;rw [hZ] at HQ;have hbl:=HBL.out;have hcw:qag t P≤c:=by omega
  generalize qag t P=wh at *;obtain⟨D,hD⟩:=qQ ((if c=wh then A else A.map (·.add (wh*3))))
  rw [hD] at hJ;have hS:Cells [(⟨tb,0,none⟩,.slice A t.length c),(⟨W.heap.size,1,none⟩,.int .i64 (wh:Int)),(⟨W.heap.size,0,none⟩,encS P),(⟨db,0,none⟩,encS x)] w5.drew:=fun z hz=>by
   rcases List.mem_cons.1 hz with rfl|hz
   ·exact(show w5.cell? _=_ from cell_below hb5 y1)
   rcases List.mem_cons.1 hz with rfl|hz
   ·exact(show w5.cell? _=_ from cell_below hb5 x1)
   rcases List.mem_cons.1 hz with rfl|hz
   ·exact(show w5.cell? _=_ from cell_below hb5 x0)
   rcases List.mem_cons.1 hz with rfl|hz
   ·exact(show w5.cell? _=_ from cell_below hb5 y3)
   ·cases hz
  have hfar:∀q∈[((⟨tb,0,none⟩:Addr),Value.slice A t.length c),(⟨W.heap.size,1,none⟩,.int .i64 (wh:Int)),(⟨W.heap.size,0,none⟩,encS P),(⟨db,0,none⟩,encS x)],q.1.block≠ab:=fun q hq=>by
   rcases List.mem_cons.1 hq with rfl|hq
   ·exact hne.1
   rcases List.mem_cons.1 hq with rfl|hq
   ·exact hsbne
   rcases List.mem_cons.1 hq with rfl|hq
   ·exact hsbne
   rcases List.mem_cons.1 hq with rfl|hq
   ·exact hne.2
   ·cases hq
  have hlt5:=lt_of_block g5;have hfar2:∀j,w5.heap.size≤j→j≠ab:=fun j hj=>by omega
  clear HR HR1 HR2 HQ1 HRH cR cK hjN hb5' hB5 g1 g2 g3 g4 y1 y2 y3 x0 x1 x2 hroom hsp hok hz HFR HWP HBL hfull hiff hZ hj1 hj3 hwz hlen hfit;have hadd:(⟨#[]⟩:ByteArray)++⟨x.toArray⟩=⟨x.toArray⟩:=qd7 [] x
  have hxm:x.length≤9223372036854775807:=by omega
  go_wp2_with fail;refine wp_region_held_drew (S:=Cells [(⟨tb,0,none⟩,.slice A t.length c),(⟨W.heap.size,1,none⟩,.int .i64 (wh:Int)),(⟨W.heap.size,0,none⟩,encS P),(⟨db,0,none⟩,encS x)]) (by kernel_rfl) hS (fun _=>?_)
  refine qai 0 45 (.slice A t.length c) rfl rfl (Or.inl ⟨by rfl,fun w' hS'=>by have s0:=hS' _ (.head _);dsimp only at s0;go_simp⟩) hS ?_
  refine qaa 1 46 (.pointer (some ⟨W.heap.size,1,none⟩)) rfl rfl hS ?_
  refine qai 2 47 (.int .i64 (wh:Int)) rfl rfl (Or.inl ⟨by rfl,fun w' hS'=>by have s1:=hS' _ (.tail _ (.head _));dsimp only at s1;go_simp⟩) hS ?_
  refine qaa 3 48 (.slice A wh c) rfl rfl hS ?_
  refine qaa 4 49 (.pointer (some ⟨W.heap.size,0,none⟩)) rfl rfl hS ?_
  refine qai 5 50 (encS P) rfl rfl (Or.inl ⟨by rfl,fun w' hS'=>by have s2:=hS' _ (.tail _ (.tail _ (.head _)));dsimp only at s2;go_simp⟩) hS ?_
  refine qaa 6 51 (encS []) rfl rfl hS ?_
  refine qai 7 52 (encS x) rfl rfl (Or.inl ⟨by rfl,fun w' hS'=>by have s3:=hS' _ (.tail _ (.tail _ (.tail _ (.head _))));dsimp only at s3;go_simp⟩) hS ?_
  refine qaa 8 53 (encS x) rfl rfl hS ?_
  refine qaa 9 54 (.agg #[encS P,.bool false,encS x]) rfl rfl hS ?_
  refine qai 11 56 (.slice A t.length c) rfl rfl (Or.inl ⟨by rfl,fun w' hS'=>by have s0:=hS' _ (.head _);dsimp only at s0;go_simp⟩) hS ?_
  refine qaa 12 57 (.int .i64 (wh:Int)) rfl rfl hS ?_
  refine qaa 13 58 (.slice D (t.length-wh) (c-wh)) rfl rfl hS ?_
  clear hD;refine qae 10 rfl fun K hK=>?_
  go_simp;refine qaE hK (hS.below ((Below.refl _ _).alloc (Nat.le_refl _) _)) ?_
  clear hK K;refine qae 14 rfl fun K hK=>?_
  go_simp;refine qaE hK ((hS.below ((Below.refl _ _).alloc (Nat.le_refl _) (.cells #[encS P,.bool false,encS x] 48))).below ((Below.refl _ _).alloc (Nat.le_refl _) _)) ?_
  clear hK K;refine qae 15 rfl fun K hK=>?_
  go_simp;go_at_call 196
  refine hJ.mono ?_;rintro e w9⟨a,c9,rfl,hO9,hb9⟩;have hS9:=(show Cells _ w5 from hS).below hb9
  have k4:=qac g5 hb9;have e4:=cell_of_one k4;have f4:=free_of_one k4
  go_wp2_with fail;refine qaE hK hS9 ?_
  clear hK K;refine qae 16 rfl fun K hK=>?_
  go_simp;refine qaE hK (hS9.set hfar _) ?_
  clear hK K;refine wpAnyH_done (by kernel_rfl) ?_ _
  have HO:=hid (show qbW (qfq N ab w0 (Z,0)) (.returned (.int .i64 0)) (w9.setCell ⟨ab,0,none⟩ (.slice a Z.length c9)) from⟨0,rfl,rfl,a,c9,one_setCell k4,qfP (qdL hO9 (fun j hj _=>Below.heap_setCell _ _ _ _ (hfar2 j hj))) (Nat.le_trans hN1 hb5.size),(hB1.trans ((hb5.mono hN1).trans (hb9.mono (Nat.le_trans hN1 hb5.size)))).setCell hN _⟩)
  clear hS hS9 hJ hO9 hb9 k4 e4 f4 hfar2;go_wp2;go_ret;show qbW (qfq N ab w0 (qbi t P (x))) _ _
  rw [HQ.out];exact HO.out
 ·obtain⟨g,o,hA,-,-,-,c2⟩:=hT1 (qag t P) hw
  have HA:=hid hA;have hnl:=(qyP hok (List.getElem_mem hw))
  generalize hnx:t[qag t P].x=nx at *;have HNX:=hid hnx;rw [ho] at HQ HFR HWP cK hko ⊢;rw [hK1] at HRH HFR cR x2 hW1 hsp ⊢;have hbe:qcR t P=qag t P+1:=by unfold qcR;rw [hK1];rfl
  rw [hbe] at HWP hjN HBL;have HW2:=hid hw;clear hK hK1 hf ho hbe hT hT1 h1 h2 h3 h4 hk hkl hA hnx;go_enter func197,ntmps197;go_wp2_with fail;go_quiet (fail)
  go_wp2_with fail;have hA:=HA.out;go_quiet (fail)
  clear hA c2;go_wp2_with (go_at_fn g0;refine(cK _).mono ?_;rintro e w2 ⟨rfl,rfl⟩)
  refine(cR (((k nx).length:Int)+(x.length:Int)-(nx.length:Int)) _ (below_drewN (Below.refl _ _) _) (by omega)).mono ?_
  rintro e w5⟨rfl,hb5'⟩;have hb5:Below W1.heap.size W1 w5:=(below_drewN (Below.refl _ W1) _).trans hb5'
  have HR:=hid (HRH.out (((k nx).length:Int)+(x.length:Int)-(nx.length:Int)))
  have g5:=qac g4 hb5;have hB5:=hB1.trans (hb5.mono hN1)
  by_cases hroom:qbd t P=0
  rotate_left
  ·have HR2:Hid (qdv t P 1 (((k nx).length:Int)+(x.length:Int)-(nx.length:Int))=qbd t P):=hid (by rw [HR.out,if_pos hroom])
   have HQ2:Hid (qbi t P (k nx++x)=([],qbd t P)):=hid (by rw [HQ.out,if_pos hroom])
   have q1:(qbd t P==0)=false:=by simpa using hroom
   have q2:(qbd t P !=0)=true:=by simpa using hroom
   rw [HR2.out];have HF:=hid (And.intro g5 hB5)
   generalize qbd t P=RL at *;clear HR HR2 HQ HRH cR cK hjN hb5 hb5' g5 hB5 g1 g2 g3 g4 y1 y2 y3 x0 x1 x2 hroom hsp hok hz HFR HWP HBL;go_wp2;go_ret;exact qa2 HQ2.out HF.out.1 HF.out.2
  have HR1:Hid (qdv t P 1 (((k nx).length:Int)+(x.length:Int)-(nx.length:Int))=if 65536<(qbM t:Int)+(((k nx).length:Int)+(x.length:Int)-(nx.length:Int)) then 17 else 0):=hid (by rw [HR.out,if_neg (by simpa using hroom)];simp)
  have HQ1:Hid (qbi t P (k nx++x)=qfc (qbT t ⟨P,false,k nx++x⟩)):=hid (by rw [HQ.out,if_neg (by simpa using hroom)])
  have hiff:(65536<(qbM t:Int)+(((k nx).length:Int)+(x.length:Int)-(nx.length:Int)))↔¬((qbT t ⟨P,false,k nx++x⟩).length≤256∧qbM (qbT t ⟨P,false,k nx++x⟩)≤65536):=by
   have:=HFR.out
   rw [List.length_append,Int.natCast_add] at this
   simpa using this
  by_cases hfull:65536<(qbM t:Int)+(((k nx).length:Int)+(x.length:Int)-(nx.length:Int))
  ·have HR2:Hid (qdv t P 1 (((k nx).length:Int)+(x.length:Int)-(nx.length:Int))=17):=hid (by rw [HR1.out,if_pos hfull])
   have HQ2:Hid (qbi t P (k nx++x)=([],17)):=hid (by
    rw [HQ1.out];exact if_neg (hiff.1 hfull))
   rw [HR2.out];have HF:=hid (And.intro g5 hB5)
   clear HR HR1 HR2 HQ HQ1 HRH cR cK hjN hb5 hb5' g5 hB5 g1 g2 g3 g4 y1 y2 y3 x0 x1 x2 hroom hsp hok hz HFR HWP HBL hfull hiff;go_wp2;go_ret;exact qa2 HQ2.out HF.out.1 HF.out.2
  have HR2:Hid (qdv t P 1 (((k nx).length:Int)+(x.length:Int)-(nx.length:Int))=0):=hid (by rw [HR1.out,if_neg hfull])
  have hfit:=Classical.not_not.1 (fun h=>hfull (hiff.2 h))
  rw [HR2.out];have hwz:qbj (qbT t ⟨P,false,k nx++x⟩):=fun n hn=>by
   rcases qiL hn with rfl|h
   ·exact⟨hPl,by show(k nx++x).length≤_;simp;omega⟩
   ·exact hz n h
  have HQ:=hid (show qbi t P (k nx++x)=(qbT t ⟨P,false,k nx++x⟩,0) by rw [HQ1.out];exact if_pos hfit)
  have hlen:=hfit.1;rw [HWP.out] at HQ hlen hwz;obtain⟨hj1,hj3⟩:=hjN w5 hb5;have hJ:=qmU A _ c (c-(qag t P+1)) _ _ ⟨P,false,k nx++x⟩ w5 hj1 hj3 (by omega) hwz
  obtain⟨Z,hZ⟩:=qQ (t.take (qag t P)++(⟨P,false,k nx++x⟩::t.drop (qag t P+1)))
  rw [hZ,List.length_take,Nat.min_eq_left hwl,List.length_drop] at hJ;rw [hZ] at HQ;have hbl:=HBL.out;have hcw:qag t P≤c:=by omega
  generalize qag t P=wh at *;obtain⟨D,hD⟩:=qQ ((if c=wh+1 then A else A.map (·.add ((wh+1)*3))))
  rw [hD] at hJ;have hS:Cells [(⟨tb,0,none⟩,.slice A t.length c),(⟨W.heap.size,1,none⟩,.int .i64 (wh:Int)),(⟨W.heap.size,0,none⟩,encS P),(⟨db,0,none⟩,encS x)] w5.drew:=fun z hz=>by
   rcases List.mem_cons.1 hz with rfl|hz
   ·exact(show w5.cell? _=_ from cell_below hb5 y1)
   rcases List.mem_cons.1 hz with rfl|hz
   ·exact(show w5.cell? _=_ from cell_below hb5 x1)
   rcases List.mem_cons.1 hz with rfl|hz
   ·exact(show w5.cell? _=_ from cell_below hb5 x0)
   rcases List.mem_cons.1 hz with rfl|hz
   ·exact(show w5.cell? _=_ from cell_below hb5 y3)
   ·cases hz
  have hfar:∀q∈[((⟨tb,0,none⟩:Addr),Value.slice A t.length c),(⟨W.heap.size,1,none⟩,.int .i64 (wh:Int)),(⟨W.heap.size,0,none⟩,encS P),(⟨db,0,none⟩,encS x)],q.1.block≠ab:=fun q hq=>by
   rcases List.mem_cons.1 hq with rfl|hq
   ·exact hne.1
   rcases List.mem_cons.1 hq with rfl|hq
   ·exact hsbne
   rcases List.mem_cons.1 hq with rfl|hq
   ·exact hsbne
   rcases List.mem_cons.1 hq with rfl|hq
   ·exact hne.2
   ·cases hq
  have hlt5:=lt_of_block g5;have hfar2:∀j,w5.heap.size≤j→j≠ab:=fun j hj=>by omega
  clear HR HR1 HR2 HQ1 HRH cR cK hjN hb5' hB5 g1 g2 g3 g4 y1 y2 y3 x0 x1 x2 hroom hsp hok hz HFR HWP HBL hfull hiff hZ hj1 hj3 hwz hlen hfit;have hadd:(⟨(k nx).toArray⟩:ByteArray)++⟨x.toArray⟩=⟨(k nx++x).toArray⟩:=qd7 _ _
  have hxm:(k nx).length+x.length≤9223372036854775807:=by omega
  have hb1:(wh:Int)+1≤(t.length:Int):=by omega
  have hb0:0≤(wh:Int)+1:=by omega
  have hbn:((wh:Int)+1).toNat=wh+1:=by omega
  have hwi:IntKind.i64.wrap ((wh:Int)+1)=(wh:Int)+1:=IntWalk.i64_in _ (by omega)
  go_wp2_with fail;refine wp_region_held_drew (S:=Cells [(⟨tb,0,none⟩,.slice A t.length c),(⟨W.heap.size,1,none⟩,.int .i64 (wh:Int)),(⟨W.heap.size,0,none⟩,encS P),(⟨db,0,none⟩,encS x)]) (by kernel_rfl) hS (fun _=>?_)
  refine qai 0 45 (.slice A t.length c) rfl rfl (Or.inl ⟨by rfl,fun w' hS'=>by have s0:=hS' _ (.head _);dsimp only at s0;go_simp⟩) hS ?_
  refine qaa 1 46 (.pointer (some ⟨W.heap.size,1,none⟩)) rfl rfl hS ?_
  refine qai 2 47 (.int .i64 (wh:Int)) rfl rfl (Or.inl ⟨by rfl,fun w' hS'=>by have s1:=hS' _ (.tail _ (.head _));dsimp only at s1;go_simp⟩) hS ?_
  refine qaa 3 48 (.slice A wh c) rfl rfl hS ?_
  refine qaa 4 49 (.pointer (some ⟨W.heap.size,0,none⟩)) rfl rfl hS ?_
  refine qai 5 50 (encS P) rfl rfl (Or.inl ⟨by rfl,fun w' hS'=>by have s2:=hS' _ (.tail _ (.tail _ (.head _)));dsimp only at s2;go_simp⟩) hS ?_
  refine qaa 6 51 (encS (k nx)) rfl rfl hS ?_
  refine qai 7 52 (encS x) rfl rfl (Or.inl ⟨by rfl,fun w' hS'=>by have s3:=hS' _ (.tail _ (.tail _ (.tail _ (.head _))));dsimp only at s3;go_simp⟩) hS ?_
  refine qaa 8 53 (encS (k nx++x)) rfl rfl hS ?_
  refine qaa 9 54 (.agg #[encS P,.bool false,encS (k nx++x)]) rfl rfl hS ?_
  refine qai 11 56 (.slice A t.length c) rfl rfl (Or.inl ⟨by rfl,fun w' hS'=>by have s0:=hS' _ (.head _);dsimp only at s0;go_simp⟩) hS ?_
  refine qaa 12 57 (.int .i64 ((wh:Int)+1)) rfl rfl hS ?_
  refine qaa 13 58 (.slice D (t.length-(wh+1)) (c-(wh+1))) rfl rfl hS ?_
  clear hD;refine qae 10 rfl fun K hK=>?_
  go_simp;refine qaE hK (hS.below ((Below.refl _ _).alloc (Nat.le_refl _) _)) ?_
  clear hK K;refine qae 14 rfl fun K hK=>?_
  go_simp;refine qaE hK ((hS.below ((Below.refl _ _).alloc (Nat.le_refl _) (.cells #[encS P,.bool false,encS (k nx++x)] 48))).below ((Below.refl _ _).alloc (Nat.le_refl _) _)) ?_
  clear hK K;refine qae 15 rfl fun K hK=>?_
  go_simp;go_at_call 196
  refine hJ.mono ?_;rintro e w9⟨a,c9,rfl,hO9,hb9⟩;have hS9:=(show Cells _ w5 from hS).below hb9
  have k4:=qac g5 hb9;have e4:=cell_of_one k4;have f4:=free_of_one k4
  go_wp2_with fail;refine qaE hK hS9 ?_
  clear hK K;refine qae 16 rfl fun K hK=>?_
  go_simp;refine qaE hK (hS9.set hfar _) ?_
  clear hK K;refine wpAnyH_done (by kernel_rfl) ?_ _
  have HO:=hid (show qbW (qfq N ab w0 (Z,0)) (.returned (.int .i64 0)) (w9.setCell ⟨ab,0,none⟩ (.slice a Z.length c9)) from⟨0,rfl,rfl,a,c9,one_setCell k4,qfP (qdL hO9 (fun j hj _=>Below.heap_setCell _ _ _ _ (hfar2 j hj))) (Nat.le_trans hN1 hb5.size),(hB1.trans ((hb5.mono hN1).trans (hb9.mono (Nat.le_trans hN1 hb5.size)))).setCell hN _⟩)
  clear hS hS9 hJ hO9 hb9 k4 e4 f4 hfar2;go_wp2;go_ret;show qbW (qfq N ab w0 (qbi t P (k nx++x))) _ _
  rw [HQ.out];exact HO.out
theorem qpC (w:World) (o0 o1 o2 o3:Obj) {W:World} (hW:(((w.alloc o0).alloc o1).alloc o2).alloc o3=W):
  W.heap[w.heap.size]?=some o0∧W.heap[w.heap.size+1]?=some o1∧W.heap[w.heap.size+2]?=some o2∧W.heap[w.heap.size+3]?=some o3∧W.heap.size=w.heap.size+4∧Below w.heap.size w W:=by
 subst hW;refine⟨?_,?_,?_,?_,by simp,((((Below.refl _ _).alloc (Nat.le_refl _) _).alloc (by simp) _).alloc (by simp;omega) _).alloc (by simp;omega) _⟩
 ·exact(Below.heap_alloc _ _ _ (by simp;omega)).trans ((Below.heap_alloc _ _ _ (by simp;omega)).trans ((Below.heap_alloc _ _ _ (by simp)).trans (heap_alloc_new w _)))
 ·have:=heap_alloc_new (w.alloc o0) o1
  rw [World.size_alloc] at this;exact(Below.heap_alloc _ _ _ (by simp)).trans ((Below.heap_alloc _ _ _ (by simp)).trans this)
 ·have:=heap_alloc_new ((w.alloc o0).alloc o1) o2
  rw [World.size_alloc,World.size_alloc] at this;exact(Below.heap_alloc _ _ _ (by simp)).trans this
 ·have:=heap_alloc_new (((w.alloc o0).alloc o1).alloc o2) o3
  rw [World.size_alloc,World.size_alloc,World.size_alloc] at this;exact this
theorem qfT {w:World} {b:Nat} {v:Value} {t:TypeId} (h:w.heap[b]?=some (.cells #[v] t (0,0))):w.setCell ⟨b,0,none⟩ v=w:=by
 have hh:(w.setCell ⟨b,0,none⟩ v).heap=w.heap:=by
  apply Array.ext_getElem?
  intro i
  by_cases e:i=b
  ·subst e
   rw [one_setCell h,h]
  ·exact Below.heap_setCell _ _ _ _ e
 calc w.setCell ⟨b,0,none⟩ v={ w with heap:=(w.setCell ⟨b,0,none⟩ v).heap }:=rfl
  _=w:=by rw [hh]
noncomputable def wrQ (t:List ND) (p y:List UInt8):List ND×Int:=if(qga t p).2≠0 then([],(qga t p).2) else qbi t (qam p) y
theorem qx7 (t:List ND) (p x:List UInt8):wrQ t p x=qox t p x:=rfl
theorem qnL (g0:Nat) (eg0:∀args w,(callFunc g0 args).run prog w=.ok (.enter g0 args) w) (k:List UInt8→List UInt8) (hk:∀old W,Calls prog g0 #[encS old] W fun e w'=>e=.returned (encS (k old))∧W=w') (hkl:∀old,(k old).length≤old.length)
  (A:Option Addr) (c:Nat) (t:List ND) (p x:List UInt8) (w:World) (hT:qal w (fun _=>True) A t) (hl:t.length≤1099511627776) (hz:qbj t) (hcap:t.length≤c) (hp:p.length≤137438953472) (hx:x.length≤137438953472):
  Calls prog 154 #[.slice A t.length c,encS p,encS x,.func (.func g0) #[] #[]] w fun e w'=>qi0 w (wrQ t p (k (qkR t (qam p))++x)) e w':=by
 obtain⟨W1,hW1⟩:=qQ ((((w.alloc (.cells #[.slice A t.length c] 23)).alloc (.cells #[encS x] 9)).alloc (.cells #[.func (.func g0) #[] #[]] 50)).alloc (.cells #[.slice none 0 0] 23))
 obtain⟨k0,k1,k2,k3,ks,kb⟩:=qpC w _ _ _ _ hW1;have y0:=cell_of_one k0;have hpl:=qcX p;have hTb:=hT.below kb;have eg:=enters_of func197 (by kernel_rfl) rfl
 obtain⟨lb,hlb⟩:∃lb:Array Value,lb=#[.pointer (some ⟨w.heap.size,0,none⟩),.pointer (some ⟨w.heap.size+2,0,none⟩),.pointer (some ⟨w.heap.size+1,0,none⟩),.pointer (some ⟨w.heap.size+3,0,none⟩)]:=⟨_,rfl⟩
 have cA:Calls prog 152 #[.slice A t.length c,encS p,.func (.func 197) #[] lb] W1 (qbW (qfq w.heap.size (w.heap.size+3) w (wrQ t p (k (qkR t (qam p))++x)))):=by
  rcases qb8 t p with ⟨ha,hok,hq⟩|⟨ha,-,-⟩|⟨ha,-⟩
  ·have hw:wrQ t p (k (qkR t (qam p))++x)=qbi t (qam p) (k (qkR t (qam p))++x):=by unfold wrQ;rw [ha];simp
   rw [hw];refine qqZ 197 lb eg _ A c t p W1 hTb hl hz hcap (by omega) hok hq fun W hb=>?_
   rw [hlb];exact qtM g0 eg0 k hk hkl A c t (qam p) x w.heap.size (w.heap.size+2) (w.heap.size+1) (w.heap.size+3) w.heap.size w W (by omega) ⟨by omega,by omega⟩
    (qac k0 hb) (qac k2 hb) (qac k1 hb) (qac k3 hb) (kb.trans (hb.mono (by omega))) (hTb.below hb) hok hz hcap (qfR p) (qfQ p) (by omega) hx
  ·refine(qeV 197 lb A c t p 31 W1 hTb hl hz hcap (by omega) ha (by decide)).mono ?_
   rintro e w'⟨rfl,hb⟩;exact qa2 (by unfold wrQ;rw [ha];exact if_pos (by decide)) (qac k3 hb) (kb.trans (hb.mono (by omega)))
  ·refine(qeV 197 lb A c t p 9 W1 hTb hl hz hcap (by omega) ha (by decide)).mono ?_
   rintro e w'⟨rfl,hb⟩;exact qa2 (by unfold wrQ;rw [ha];exact if_pos (by decide)) (qac k3 hb) (kb.trans (hb.mono (by omega)))
 rw [hlb] at cA;generalize wrQ t p (k (qkR t (qam p))++x)=q at *;clear hT hTb hz hk hkl k0 k1 k2 k3 hlb eg eg0;go_enter func154,ntmps154;go_wp2_with fail;refine cA.mono ?_;rintro e w2⟨n,rfl,rfl,a,c',hbx,hO,hB⟩;have e0:=cell_of_one hbx;have f0:=free_of_one hbx;have HO:=hid (And.intro hO hB)
 have HS:=hid (qfT hbx)
 clear cA hO hB hW1;go_wp2;rw [show w.heap.size+1+1+1=w.heap.size+3 from rfl,HS.out];exact bodyPost_ret (v:=.tuple #[.slice a q.1.length c',.int .i64 q.2]) (by simp [results,Tryz.results154,go_sem,e0]) rfl ⟨a,c',rfl,HO.out.1,HO.out.2⟩
theorem qzr (old:List UInt8) (w:World):Calls prog 155 #[encS old] w fun e w'=>e=.returned (encS [])∧w=w':=by
 go_enter func155,ntmps155;go_wp2;go_ret;exact⟨rfl,rfl⟩
theorem qvL (A:Option Addr) (c:Nat) (t:List ND) (p:List UInt8) (x:List UInt8) (w:World) (hT:qal w (fun _=>True) A t) (hl:t.length≤1099511627776∧t.length≤c) (hz:qbj t) (hp:p.length≤137438953472) (hx:x.length≤137438953472):
  Calls prog 90 #[.slice A t.length c,encS p,encS x] w fun e w'=>qi0 w (qox t p x) e w':=by
 have cW:=qnL 155 (enters_of func155 (by kernel_rfl) rfl) (fun _=>[]) qzr (fun _=>Nat.zero_le _) A c t p x w hT hl.1 hz hl.2 hp hx
 rw [List.nil_append,qx7] at cW;generalize qox t p x=q at *;clear hT hz;go_enter func90,ntmps90;go_wp2_with fail;refine cW.mono ?_;rintro e w1⟨a,c2,rfl,hO,hb⟩;have HO:=hid (And.intro hO hb)
 clear hb cW hO;go_wp2_with fail;go_ret2;exact⟨a,c2,rfl,HO.out.1,HO.out.2⟩
def qza (N rb:Nat) (w0:World) (q:List UInt8×Int) (n:Int) (W':World):Prop:=n=q.2∧W'.heap[rb]?=some (.cells #[encS q.1] 9 (0,0))∧Below N w0 W'
theorem qhb {N rb:Nat} {w0 W':World} {q:List UInt8×Int} {f:Int} (hq:q=([],f)) (h4:W'.heap[rb]?=some (.cells #[.string ⟨#[]⟩] 9 (0,0))) (hB:Below N w0 W'):qbW (qza N rb w0 q) (.returned (.int .i64 f)) W':=by
 subst hq;exact⟨f,rfl,rfl,h4,hB⟩
theorem qzl (A:Option Addr) (c:Nat) (t:List ND) (p:List UInt8) (tb rb N:Nat) (w0 W:World) (hN:N≤rb) (h1:W.heap[tb]?=some (.cells #[.slice A t.length c] 23 (0,0))) (h4:W.heap[rb]?=some (.cells #[.string ⟨#[]⟩] 9 (0,0)))
  (hB:Below N w0 W) (hT:qal W (fun _=>True) A t) (hok:OkT t) (ha:qga t p=(qam p,0)):
  Calls prog 173 #[.agg #[encS (qam p),.int .i64 (qag t (qam p)),.int .i64 (qak t (qam p))],.pointer (some ⟨tb,0,none⟩),.pointer (some ⟨rb,0,none⟩)] W (qbW (qza N rb w0 (qg0 t p))):=by
 have hNW:N≤W.heap.size:=by have:=lt_of_block h4;omega
 obtain⟨P,hP⟩:=qQ (qam p)
 have hq:qg0 t p=if qak t P=0 then([],71) else if qak t P=2 then([],15) else(((qbU t P).map (·.x)).getD [],0):=by unfold qg0;rw [ha,← hP];simp
 rw [hP];obtain⟨W1,hW1⟩:=qQ (W.alloc (.cells #[encS P,.int .i64 (qag t P),.int .i64 (qak t P)] 167))
 have hal:Below W.heap.size W W1:=by rw [← hW1];exact(Below.refl _ _).alloc (Nat.le_refl _) _
 have hsp:W1.heap[W.heap.size]?=some (.cells #[encS P,.int .i64 (qag t P),.int .i64 (qak t P)] 167 (0,0)):=by rw [← hW1];exact heap_alloc_new _ _
 have g1:=qac h1 hal;have g4:=qac h4 hal
 have hT1:=hT.below hal;have hB1:=hB.trans (hal.mono hNW)
 have x1:W1.cell? ⟨W.heap.size,1,none⟩=some (.int .i64 (qag t P)):=by simp [World.cell?,hsp]
 have x2:W1.cell? ⟨W.heap.size,2,none⟩=some (.int .i64 (qak t P)):=by simp [World.cell?,hsp]
 have y1:=cell_of_one g1;by_cases hK:qak t P=2
 ·have HQ:Hid (qg0 t p=([],15)):=hid (by rw [hq,hK];rfl)
  rw [hK] at x2 hW1 ⊢;have HF:=hid (And.intro g4 hB1)
  clear hT hT1 hok hK g1 g4 h1 h4 hsp hB hB1 y1 x1 ha hq hP;go_enter func173,ntmps173;go_wp2;go_ret;exact qhb HQ.out HF.out.1 HF.out.2
 rcases qcW hok.asc hK with ⟨hK0,hf,ho⟩|⟨hK1,hw,hf,ho⟩
 ·have HQ:Hid (qg0 t p=([],71)):=hid (by rw [hq,hK0];rfl)
  rw [hK0] at x2 hW1 ⊢;have HF:=hid (And.intro g4 hB1)
  clear hT hT1 hok hK hK0 hf ho g1 g4 h1 h4 hsp hB hB1 y1 x1 ha hq hP;go_enter func173,ntmps173;go_wp2;go_ret;exact qhb HQ.out HF.out.1 HF.out.2
 ·have HQ:Hid (qg0 t p=(t[qag t P].x,0)):=hid (by rw [hq,hK1,hf];rfl)
  obtain⟨g,o,rfl,-,-,-,c2⟩:=hT1 (qag t P) hw
  have hxl:=qyP hok (List.getElem_mem hw)
  generalize t[qag t P].x=nx at *;have cC:=fun W=>qaU nx (by omega) W
  rw [hK1] at x2 hW1 ⊢;have hNW1:=hal.size;clear hT hT1 hok hK hK1 hf ho g1 h1 h4 hsp hB ha hq hP;go_enter func173,ntmps173;go_wp2_with fail;refine(cC _).mono ?_;rintro e w2⟨rfl,hb2⟩;have g5:=qac g4 hb2;have e0:=cell_of_one g5;have f0:=free_of_one g5
  have HF:=hid (And.intro (one_setCell (u:=encS nx) g5) ((hB1.trans (hb2.mono (Nat.le_trans hNW hNW1))).setCell (p:=⟨rb,0,none⟩) hN (encS nx)))
  clear hb2 cC g4 g5 hB1;go_wp2;go_ret;rw [HQ.out];exact⟨0,rfl,rfl,HF.out.1,HF.out.2⟩
theorem qiE (w:World) (o0 o1:Obj) {W:World} (hW:(w.alloc o0).alloc o1=W):W.heap[w.heap.size]?=some o0∧W.heap[w.heap.size+1]?=some o1∧W.heap.size=w.heap.size+2∧Below w.heap.size w W:=by
 subst hW;refine⟨(Below.heap_alloc _ _ _ (by simp)).trans (heap_alloc_new w _),?_,by simp,((Below.refl _ _).alloc (Nat.le_refl _) _).alloc (by simp) _⟩
 have:=heap_alloc_new (w.alloc o0) o1
 rwa [World.size_alloc] at this
theorem qoQ (A:Option Addr) (c:Nat) (t:List ND) (p:List UInt8) (w:World) (hT:qal w (fun _=>True) A t) (hl:t.length≤1099511627776∧t.length≤c) (hz:qbj t) (hp:p.length≤137438953472):
  Calls prog 111 #[.slice A t.length c,encS p] w fun e w'=>e=.returned (.tuple #[encS (qg0 t p).1,.int .i64 (qg0 t p).2])∧Below w.heap.size w w':=by
 obtain⟨W1,hW1⟩:=qQ ((w.alloc (.cells #[.slice A t.length c] 23)).alloc (.cells #[.string ⟨#[]⟩] 9))
 obtain⟨k0,k1,ks,kb⟩:=qiE w _ _ hW1;have y0:=cell_of_one k0;have hTb:=hT.below kb;have eg:=enters_of func173 (by kernel_rfl) rfl
 obtain⟨lb,hlb⟩:∃lb:Array Value,lb=#[.pointer (some ⟨w.heap.size,0,none⟩),.pointer (some ⟨w.heap.size+1,0,none⟩)]:=⟨_,rfl⟩
 have cA:Calls prog 152 #[.slice A t.length c,encS p,.func (.func 173) #[] lb] W1 (qbW (qza w.heap.size (w.heap.size+1) w (qg0 t p))):=by
  rcases qb8 t p with ⟨ha,hok,hq⟩|⟨ha,-,-⟩|⟨ha,-⟩
  ·refine qqZ 173 lb eg _ A c t p W1 hTb hl.1 hz hl.2 (by omega) hok hq fun W hb=>?_
   rw [hlb];exact qzl A c t p w.heap.size (w.heap.size+1) w.heap.size w W (by omega) (qac k0 hb) (qac k1 hb) (kb.trans (hb.mono (by omega))) (hTb.below hb) hok ha
  ·refine(qeV 173 lb A c t p 31 W1 hTb hl.1 hz hl.2 (by omega) ha (by decide)).mono ?_
   rintro e w'⟨rfl,hb⟩;exact qhb (qn9 ha (by decide)) (qac k1 hb) (kb.trans (hb.mono (by omega)))
  ·refine(qeV 173 lb A c t p 9 W1 hTb hl.1 hz hl.2 (by omega) ha (by decide)).mono ?_
   rintro e w'⟨rfl,hb⟩;exact qhb (qn9 ha (by decide)) (qac k1 hb) (kb.trans (hb.mono (by omega)))
 rw [hlb] at cA;generalize qg0 t p=q at *;clear hT hTb hz k0 k1 hlb eg;go_enter func111,ntmps111;go_wp2_with fail;refine cA.mono ?_;rintro e w2⟨n,rfl,rfl,hbx,hB⟩;have e0:=cell_of_one hbx;have f0:=free_of_one hbx;have HO:=hid hB;have HS:=hid (qfT hbx)
 clear cA hB hW1;go_wp2
 first|rw [HS.out]|rw [show w.heap.size+1=w.heap.size+1 from rfl]
 exact bodyPost_ret (v:=.tuple #[encS q.1,.int .i64 q.2]) (by simp [results,Tryz.results111,go_sem,e0]) rfl ⟨rfl,HO.out⟩
def qyg (N rb:Nat) (w0:World) (k:Int) (_n:Int) (W':World):Prop:=W'.heap[rb]?=some (.cells #[.int .i64 k] 3 (0,0))∧Below N w0 W'
theorem qyK (P:List UInt8) (wh K:Int) (rb N:Nat) (w0 W:World) (hN:N≤rb) (h4:W.heap[rb]?=some (.cells #[.int .i64 0] 3 (0,0))) (hB:Below N w0 W):
  Calls prog 153 #[.agg #[encS P,.int .i64 wh,.int .i64 K],.pointer (some ⟨rb,0,none⟩)] W (qbW (qyg N rb w0 K)):=by
 have hNW:N≤W.heap.size:=by have:=lt_of_block h4;omega
 obtain⟨W1,hW1⟩:=qQ (W.alloc (.cells #[encS P,.int .i64 wh,.int .i64 K] 167))
 have hal:Below W.heap.size W W1:=by rw [← hW1];exact(Below.refl _ _).alloc (Nat.le_refl _) _
 have hsp:W1.heap[W.heap.size]?=some (.cells #[encS P,.int .i64 wh,.int .i64 K] 167 (0,0)):=by rw [← hW1];exact heap_alloc_new _ _
 have g4:=qac h4 hal;have hB1:=hB.trans (hal.mono hNW)
 have x2:W1.cell? ⟨W.heap.size,2,none⟩=some (.int .i64 K):=by simp [World.cell?,hsp]
 have e0:=cell_of_one g4;have f0:=free_of_one g4
 have HF:=hid (And.intro (one_setCell (u:=.int .i64 K) g4) (hB1.setCell (p:=⟨rb,0,none⟩) hN (.int .i64 K)))
 clear h4 hB hsp g4 hB1;go_enter func153,ntmps153;go_wp2;go_ret;exact⟨0,rfl,HF.out.1,HF.out.2⟩
theorem qiw (A:Option Addr) (c:Nat) (t:List ND) (p:List UInt8) (w:World) (hT:qal w (fun _=>True) A t) (hl:t.length≤1099511627776∧t.length≤c) (hz:qbj t) (hp:p.length≤137438953472):
  Calls prog 89 #[.slice A t.length c,encS p] w fun e w'=>e=.returned (.int .i64 (qa0 t p))∧Below w.heap.size w w':=by
 obtain⟨W1,hW1⟩:=qQ (w.alloc (.cells #[.int .i64 0] 3))
 have kb:Below w.heap.size w W1:=by rw [← hW1];exact(Below.refl _ _).alloc (Nat.le_refl _) _
 have k0:W1.heap[w.heap.size]?=some (.cells #[.int .i64 0] 3 (0,0)):=by rw [← hW1];exact heap_alloc_new _ _
 have ks:W1.heap.size=w.heap.size+1:=by rw [← hW1];simp
 have hTb:=hT.below kb;have eg:=enters_of func153 (by kernel_rfl) rfl
 obtain⟨lb,hlb⟩:∃lb:Array Value,lb=#[.pointer (some ⟨w.heap.size,0,none⟩)]:=⟨_,rfl⟩
 have cA:Calls prog 152 #[.slice A t.length c,encS p,.func (.func 153) #[] lb] W1 (qbW (qyg w.heap.size w.heap.size w (qa0 t p))):=by
  rcases qb8 t p with ⟨ha,hok,hq⟩|⟨ha,-,-⟩|⟨ha,-⟩
  ·refine qqZ 153 lb eg _ A c t p W1 hTb hl.1 hz hl.2 (by omega) hok hq fun W hb=>?_
   rw [hlb,show qa0 t p=qak t (qam p) by unfold qa0;rw [ha];simp];exact qyK (qam p) _ _ w.heap.size w.heap.size w W (Nat.le_refl _) (qac k0 hb) (kb.trans (hb.mono (by omega)))
  ·refine(qeV 153 lb A c t p 31 W1 hTb hl.1 hz hl.2 (by omega) ha (by decide)).mono ?_
   rintro e w'⟨rfl,hb⟩;rw [show qa0 t p=0 by unfold qa0;rw [ha];simp];exact⟨31,rfl,qac k0 hb,kb.trans (hb.mono (by omega))⟩
  ·refine(qeV 153 lb A c t p 9 W1 hTb hl.1 hz hl.2 (by omega) ha (by decide)).mono ?_
   rintro e w'⟨rfl,hb⟩;rw [show qa0 t p=0 by unfold qa0;rw [ha];simp];exact⟨9,rfl,qac k0 hb,kb.trans (hb.mono (by omega))⟩
 rw [hlb] at cA;generalize qa0 t p=q at *;clear hT hTb hz k0 hlb eg;go_enter func89,ntmps89;go_wp2_with fail;refine cA.mono ?_;rintro e w2⟨n,rfl,hbx,hB⟩;have e0:=cell_of_one hbx;have f0:=free_of_one hbx;have HO:=hid hB;have HS:=hid (qfT hbx)
 clear cA hB hW1;go_wp2;rw [HS.out];exact bodyPost_ret (v:=.int .i64 q) (by simp [results,Tryz.results89,go_sem,e0]) rfl ⟨rfl,HO.out⟩
noncomputable def qiW (t:List ND) (inn:List UInt8) (rd:Bool) (x:List UInt8):List UInt8:=if x=[45] then(if rd then [] else inn) else(qg0 t x).1
theorem qoO (t:List ND) (inn:List UInt8) (q:TQ) (x:List UInt8):(qaj t inn q x).out=q.out++qiW t inn q.read x:=by
 unfold qaj qiW;obtain⟨o,r,s⟩:=q;by_cases h:x=[45]
 ·simp only [if_pos h]
  cases r<;>simp
 ·simp only [if_neg h]
theorem qn7 (t:List ND) (hok:OkT t) (inn:List UInt8) (l:List (List UInt8)):(l.foldl (qaj t inn) ⟨[],false,0⟩).out.length≤l.length*65536+inn.length:=by
 by_cases h:l=[]
 ·subst h;simp
 ·have:=qmm t hok inn l
  unfold qaY at this
  rwa [if_neg h] at this
theorem qml {t:List ND} (hok:OkT t) (inn:List UInt8) (rd:Bool) (x:List UInt8):(qiW t inn rd x).length≤65536+inn.length:=by
 unfold qiW;split
 ·split
  ·simp
  ·omega
 ·have:=qlo hok x
  omega
section
variable {W:World} {N B:Nat} {C:Option Addr} {c:Nat} {R:Option Addr} {d:Nat} {o:List UInt8} {st:Int} {t:List ND} {rd:Bool} {l:List (List UInt8)} {inn:List UInt8}
theorem JobAt.tree (h:JobAt W N B C c R d o st t rd l inn):qal W (fun _=>True) C t:=fun i hi=>by
 obtain⟨g,q,e,-,c1⟩:=h.nodes i hi;exact⟨g,q,e,trivial,c1⟩
theorem qoS (x:List UInt8) (h:JobAt W N B C c R d o st t rd l inn) (hl:t.length≤256) (hz:qbj t) (hx:x.length≤137438953472):
  Calls prog 80 #[.pointer (some ⟨B,0,none⟩),encS x] W fun e w'=>e=.returned (encS (qiW t inn rd x))∧(∀a,JobAt w' N B C c R d o (qaj t inn ⟨a,rd,st⟩ x).st t (qaj t inn ⟨a,rd,st⟩ x).read l inn)∧Kept B W w':=by
 obtain⟨-,-,c2,c3,c4,-,c6⟩:=h.cells;have f2:=h.free 2;have f4:=h.free 4;have H:=hid h;by_cases h45:x=[45]
 ·subst h45
  cases rd
  ·have HS:=hid (h.set4 true)
   have hk:Hid (Kept B W (W.setCell ⟨B,4,none⟩ (.bool true))):=hid ((Kept.refl _ _).setCell _ _)
   have c6':(W.setCell ⟨B,4,none⟩ (.bool true)).cell? ⟨B,6,none⟩=some (encS inn):=HS.out.cells.2.2.2.2.2.2
   clear h;go_enter func80,ntmps80;go_wp2_with fail;go_ret;exact⟨by unfold qiW;rw [if_pos rfl];rfl,fun a=>by unfold qaj;rw [if_pos rfl];exact HS.out,hk.out⟩
  ·clear h
   go_enter func80,ntmps80;go_wp2_with fail;go_ret;exact⟨by unfold qiW;rw [if_pos rfl];rfl,fun a=>by unfold qaj;rw [if_pos rfl];exact H.out,Kept.refl _ _⟩
 ·have hx45:(x==[45])=false:=by simpa using h45
  have cG:=qoQ C c t x W h.tree ⟨by omega,h.hc⟩ hz hx
  have HY:Hid (qiW t inn rd x=(qg0 t x).1):=hid (if_neg h45)
  have HT:Hid (∀a,qaj t inn ⟨a,rd,st⟩ x=⟨a++(qg0 t x).1,rd,if(qg0 t x).2≠0 then 1 else st⟩):=hid fun a=>if_neg h45
  generalize qg0 t x=gq at cG HY HT
  obtain⟨y,er⟩:=gq;simp only at cG
  by_cases he:er=0
  ·subst he
   clear h h45;go_enter func80,ntmps80;go_wp2_with fail;refine cG.mono ?_;rintro e w1⟨rfl,hb⟩;have HJ:=hid (H.out.below hb)
   have HK:=hid (Kept.of_below (B:=B) hb)
   clear hb cG;go_wp2_with fail;go_ret;exact⟨by rw [HY.out];rfl,fun a=>by rw [HT.out,if_neg (by simp)];exact HJ.out,HK.out⟩
  ·have he1:(er !=0)=true:=by simpa using he
   have he2:(er==0)=false:=by simpa using he
   clear h h45;go_enter func80,ntmps80;go_wp2_with fail;refine cG.mono ?_;rintro e w1⟨rfl,hb⟩;have HJ:=hid (H.out.below hb)
   have HK:=hid (Kept.of_below (B:=B) hb)
   clear c2 f2;have f2:=HJ.out.free 2;have c2:=HJ.out.cells.2.2.1;clear hb cG;go_wp2_with fail;go_ret;exact⟨by rw [HY.out];rfl,fun a=>by rw [HT.out,if_pos he];exact HJ.out.set2 1,HK.out.setCell _ _⟩
theorem qtt (h:JobAt W N B C c R d o 0 t false l inn) (hok:OkT t) (hz:qbj t) (hl:qaf l≤1100000) (hi:inn.length≤1100000):
  Calls prog 34 #[.pointer (some ⟨B,0,none⟩)] W fun e w'=>e=.returned (encS (qaY t inn l).out)∧JobAt w' N B C c R d o (qaY t inn l).st t (qaY t inn l).read l inn∧Kept B W w':=by
 have hlz:=qaG l;have hl256:t.length≤256:=hok.1
 obtain⟨-,-,-,-,-,c5,-⟩:=h.cells;have hBW:=h.lt;have hset:∃(S:Option Addr) (cap:Nat) (sl:List (List UInt8)) (V:World),(if l=[] then W.alloc (.cells #[encS [45]] 9)=V∧S=some ⟨W.heap.size,0,none⟩∧sl=[[45]]∧cap=1 else W=V∧S=R∧sl=l∧cap=d)∧JobAt V N B C c R d o 0 t false l inn∧Kept B W V∧(∀k (hk:k<sl.length),∃g q,S=some ⟨g,q,none⟩∧g≠B∧V.cell? ⟨g,q+k,none⟩=some (encS sl[k]))∧sl.foldl (qaj t inn) ⟨[],false,0⟩=qaY t inn l∧sl.length≤1100000∧sl.length≤cap∧(∀x∈sl,x.length≤1100000):=by
  by_cases h0:l=[]
  ·have hb:Below W.heap.size W (W.alloc (.cells #[encS [45]] 9)):=(Below.refl _ _).alloc (Nat.le_refl _) _
   refine⟨some ⟨W.heap.size,0,none⟩,1,[[45]],_,by rw [if_pos h0];exact⟨rfl,rfl,rfl,rfl⟩,h.below hb,Kept.of_below hb,fun k hk=>?_,?_,by simp,by simp,fun x hx=>by obtain rfl:=List.mem_singleton.1 hx;simp⟩
   ·obtain rfl:k=0:=by simp at hk;exact hk
    exact⟨_,0,rfl,by omega,(Lib.cell_of_heap (heap_alloc_new W (.cells #[encS [45]] 9)) 0).trans rfl⟩
   ·unfold qaY
    rw [if_pos h0];show qaj t inn ⟨[],false,0⟩ [45]=_
    unfold qaj;rw [if_pos rfl]
    rfl
  ·refine⟨R,d,l,W,by rw [if_neg h0];exact⟨rfl,rfl,rfl,rfl⟩,h,Kept.refl _ _,fun k hk=>?_,by unfold qaY;rw [if_neg h0],by omega,h.hd,fun x hx=>by have:=qaH l x hx;omega⟩
   obtain⟨g,q,e,hg,hc⟩:=h.texts k hk;exact⟨g,q,e,by have:=h.le;omega,hc⟩
 obtain⟨S,cap,sl,V,hcase,hJ,hK,hS,hF,hsl,hcap,hsx⟩:=hset;obtain⟨M,hM⟩:=qQ (V.heap.size)
 have hWM:W.heap.size≤M:=by have:=hK.size;omega
 have hBM:B<M:=by omega
 obtain⟨W1,hW1⟩:=qQ (V.alloc (.cells #[.pointer none,.slice none 0 0] 71))
 have hb1:Below M V W1:=by rw [← hW1];exact(Below.refl _ _).alloc (by omega) _
 have hB1:Bld 71 M M 0 #[.pointer none,.slice none 0 0] [] W1:=qb9 71 _ M M 0 _ (by decide) (Nat.le_refl _) (by rw [← hW1,← hM];exact heap_alloc_new _ _) rfl rfl
 have HI:=hid (And.intro hB1 (And.intro (hJ.low hb1 (by omega)) (And.intro hJ (And.intro hS (And.intro (Kept.of_below (B:=B) (hM▸hb1)) hK)))))
 have HF:=hid hF;have HSX:=hid hsx;clear h hJ hK hS hF hb1 hB1 hsx;obtain⟨q,hq⟩:=qQ (qaY t inn l)
 rw [hq] at HF ⊢;clear hq;by_cases h0:l=[]
 ·rw [if_pos h0] at hcase
  obtain⟨hV,hS0,rfl,rfl⟩:=hcase;subst h0;simp only [List.length_nil] at c5
  go_enter func34,ntmps34;go_wp2_with fail;go_loopw [18,6] (fun vi _ wr=>∃(k:Nat) (p v:Value),vi=.int .i64 k∧k≤([[45]]:List (List UInt8)).length∧Hid (Bld 71 M M 0 #[p,v] ((([[45]]:List (List UInt8)).take k).foldl (qaj t inn) ⟨[],false,0⟩).out wr)∧Hid (JobAt wr N B C c R d o ((([[45]]:List (List UInt8)).take k).foldl (qaj t inn) ⟨[],false,0⟩).st t ((([[45]]:List (List UInt8)).take k).foldl (qaj t inn) ⟨[],false,0⟩).read [] inn)∧Hid (Kept B V wr)) (fun vi _ _=>([[45]]:List (List UInt8)).length-(intOf vi).toNat)
  case atStart=>exact⟨0,_,_,rfl,Nat.zero_le _,hid HI.out.1,hid HI.out.2.1,hid HI.out.2.2.2.2.1⟩
  case round=>
   obtain⟨k,p,v,rfl,hk,HB,HJ,HK⟩:=hrel;have hMw:M≤wr.heap.size:=by have:=HK.out.size;omega
   by_cases hlt:k<([[45]]:List (List UInt8)).length
   ·skip
    obtain⟨g,z,hS,hgB,hc⟩:=HI.out.2.2.2.1 k hlt;rw [hS0] at hS;cases hS
    have hc1:=(World.cell?_of_block (w:=V) (a:=⟨W.heap.size,0+k,none⟩) (HK.out.block _ (World.block_lt_of_cell? _ _ hc) hgB)).trans hc
    try simp only [Nat.zero_add] at hc1
    have hx:=HSX.out _ (List.getElem_mem hlt)
    have hfo:=qn7 t hok inn (([[45]]:List (List UInt8)).take k)
    have hto:(([[45]]:List (List UInt8)).take k).length≤k:=by rw [List.length_take];omega
    have hyl:=qml hok inn ((([[45]]:List (List UInt8)).take k).foldl (qaj t inn) ⟨[],false,0⟩).read ([[45]]:List (List UInt8))[k]
    have cX:=qoS ([[45]]:List (List UInt8))[k] HJ.out hl256 hz (by omega)
    have hst:=fun(q:TQ)=>qoO t inn q ([[45]]:List (List UInt8))[k]
    have hnx:(([[45]]:List (List UInt8)).take (k+1)).foldl (qaj t inn) ⟨[],false,0⟩=qaj t inn ((([[45]]:List (List UInt8)).take k).foldl (qaj t inn) ⟨[],false,0⟩) ([[45]]:List (List UInt8))[k]:=qer t inn ([[45]]:List (List UInt8)) k hlt
    have hkz:(k:Int)<((1:Nat):Int):=by omega
    have HNX:=hid (And.intro hnx hst)
    generalize (([[45]]:List (List UInt8)).take k).foldl (qaj t inn) ⟨[],false,0⟩=qk at *;generalize ([[45]]:List (List UInt8))[k]=x at *;obtain⟨qo,qr,qs⟩:=qk;simp only at HB HJ hfo hyl cX
    have HX:=hid (cX)
    try clear hS
    clear hc hnx hst HJ hx;go_wp2_with fail;refine cX.mono ?_;rintro e w1⟨rfl,hJ1,hk1⟩;have HK1:=hid (HK.out.trans hk1)
    have HJ1:=hid (hJ1 qo)
    have HB1:=HB.out.kept hk1 hBM;have hM1:M≤w1.heap.size:=by have:=hk1.size;omega
    have cW:=qa4 71 M M 0 #[p,v] qo (qiW t inn qr x) w1 qlB HB1 (by omega) hM1
    clear cX hk1 hJ1 HB1 HX HK HB;go_wp2_with fail;refine cW.mono ?_;rintro e w2⟨rfl,⟨v',hB2⟩,hbe⟩;have hb2:=hbe.below (Nat.le_refl _) hM1
    have HK2:=hid (HK1.out.low (hM▸hb2))
    have HJ2:=hid (HI.out.2.2.1.re HJ1.out HK2.out (hb2.mono (by omega)))
    obtain⟨p',v'',e⟩:=qhs hB2 (by simp)
    rw [e] at hB2;have HB2:=hid hB2;clear cW hbe hb2 hB2 e HK1 HJ1;go_wp2_with fail;go_roundw
    case rel=>exact⟨k+1,p',v'',by go_num,by omega,by rw [HNX.out.1,HNX.out.2];exact HB2,by rw [HNX.out.1];exact HJ2,HK2⟩
    case measure=>simp [intOf];omega
   ·have hke:([[45]]:List (List UInt8)).take k=([[45]]:List (List UInt8)):=List.take_of_length_le (by omega)
    rw [hke,HF.out] at HB HJ;obtain rfl:k=1:=by simp at hk hlt;omega
    have hkz:¬((1:Nat):Int)<((1:Nat):Int):=by omega
    clear hke;have cS:=qaN 71 M M 0 #[p,v] q.out wr HB.out
    clear HB;go_wp2_with fail;refine cS.mono ?_;rintro e w2⟨rfl,-,hbe⟩;have hb2:=hbe.below (Nat.le_refl _) hMw
    have HK2:=hid (HK.out.low (hM▸hb2))
    have HJ2:=hid (HI.out.2.2.1.re HJ.out HK2.out (hb2.mono (by omega)))
    clear hbe hb2 cS HK HJ;go_wp2_with fail;go_ret;exact⟨rfl,HJ2.out,HI.out.2.2.2.2.2.trans HK2.out⟩
 ·rw [if_neg h0] at hcase
  obtain⟨hV,hS0,hL0,hD0⟩:=hcase;obtain rfl:=hV.symm
  obtain rfl:=hS0.symm
  obtain rfl:=hL0.symm
  obtain rfl:=hD0.symm
  have hne:((l.length:Int)==0)=false:=by simpa using h0
  clear h0;go_enter func34,ntmps34;go_wp2_with fail;go_loopw [18,6] (fun vi _ wr=>∃(k:Nat) (p v:Value),vi=.int .i64 k∧k≤l.length∧Hid (Bld 71 M M 0 #[p,v] ((l.take k).foldl (qaj t inn) ⟨[],false,0⟩).out wr)∧Hid (JobAt wr N B C c R d o ((l.take k).foldl (qaj t inn) ⟨[],false,0⟩).st t ((l.take k).foldl (qaj t inn) ⟨[],false,0⟩).read l inn)∧Hid (Kept B V wr)) (fun vi _ _=>l.length-(intOf vi).toNat)
  case atStart=>exact⟨0,_,_,rfl,Nat.zero_le _,hid HI.out.1,hid HI.out.2.1,hid HI.out.2.2.2.2.1⟩
  case round=>
   obtain⟨k,p,v,rfl,hk,HB,HJ,HK⟩:=hrel;have hMw:M≤wr.heap.size:=by have:=HK.out.size;omega
   by_cases hlt:k<l.length
   ·skip
    obtain⟨g,z,hS,hgB,hc⟩:=HI.out.2.2.2.1 k hlt;subst hS;have hc1:=(World.cell?_of_block (w:=V) (a:=⟨g,z+k,none⟩) (HK.out.block _ (World.block_lt_of_cell? _ _ hc) hgB)).trans hc
    try simp only [Nat.zero_add] at hc1
    have hx:=HSX.out _ (List.getElem_mem hlt)
    have hfo:=qn7 t hok inn (l.take k)
    have hto:(l.take k).length≤k:=by rw [List.length_take];omega
    have hyl:=qml hok inn ((l.take k).foldl (qaj t inn) ⟨[],false,0⟩).read l[k]
    have cX:=qoS l[k] HJ.out hl256 hz (by omega)
    have hst:=fun(q:TQ)=>qoO t inn q l[k]
    have hnx:(l.take (k+1)).foldl (qaj t inn) ⟨[],false,0⟩=qaj t inn ((l.take k).foldl (qaj t inn) ⟨[],false,0⟩) l[k]:=qer t inn l k hlt
    have hkz:(k:Int)<((l.length:Nat):Int):=by omega
    have HNX:=hid (And.intro hnx hst)
    generalize (l.take k).foldl (qaj t inn) ⟨[],false,0⟩=qk at *;generalize l[k]=x at *;obtain⟨qo,qr,qs⟩:=qk;simp only at HB HJ hfo hyl cX
    have HX:=hid (cX)
    try clear hS
    clear hc hnx hst HJ hx;go_wp2_with fail;refine cX.mono ?_;rintro e w1⟨rfl,hJ1,hk1⟩;have HK1:=hid (HK.out.trans hk1)
    have HJ1:=hid (hJ1 qo)
    have HB1:=HB.out.kept hk1 hBM;have hM1:M≤w1.heap.size:=by have:=hk1.size;omega
    have cW:=qa4 71 M M 0 #[p,v] qo (qiW t inn qr x) w1 qlB HB1 (by omega) hM1
    clear cX hk1 hJ1 HB1 HX HK HB;go_wp2_with fail;refine cW.mono ?_;rintro e w2⟨rfl,⟨v',hB2⟩,hbe⟩;have hb2:=hbe.below (Nat.le_refl _) hM1
    have HK2:=hid (HK1.out.low (hM▸hb2))
    have HJ2:=hid (HI.out.2.2.1.re HJ1.out HK2.out (hb2.mono (by omega)))
    obtain⟨p',v'',e⟩:=qhs hB2 (by simp)
    rw [e] at hB2;have HB2:=hid hB2;clear cW hbe hb2 hB2 e HK1 HJ1;go_wp2_with fail;go_roundw
    case rel=>exact⟨k+1,p',v'',by go_num,by omega,by rw [HNX.out.1,HNX.out.2];exact HB2,by rw [HNX.out.1];exact HJ2,HK2⟩
    case measure=>simp [intOf];omega
   ·have hke:l.take k=l:=List.take_of_length_le (by omega)
    rw [hke,HF.out] at HB HJ;obtain rfl:k=l.length:=by omega
    have hkz:¬((l.length:Nat):Int)<((l.length:Nat):Int):=by omega
    clear hke;have cS:=qaN 71 M M 0 #[p,v] q.out wr HB.out
    clear HB;go_wp2_with fail;refine cS.mono ?_;rintro e w2⟨rfl,-,hbe⟩;have hb2:=hbe.below (Nat.le_refl _) hMw
    have HK2:=hid (HK.out.low (hM▸hb2))
    have HJ2:=hid (HI.out.2.2.1.re HJ.out HK2.out (hb2.mono (by omega)))
    clear hbe hb2 cS HK HJ;go_wp2_with fail;go_ret;exact⟨rfl,HJ2.out,HI.out.2.2.2.2.2.trans HK2.out⟩
end
end Go.Proofs.YtpodopnmkjinhaaGreatDoor
namespace Go.Proofs.YtpodopnmkjinhaaGreatDoor
open Go.RowKit
def qwl:List (List UInt8):=[[45,110],[45,122],[45,101],[45,102],[45,100],[45,115]]
def qwk:List (List UInt8):=[[61],[33,61],[45,101,113],[45,110,101],[45,108,116],[45,108,101],[45,103,116],[45,103,101]]
def qbw (p:List UInt8):Int:=
 if p=[45,110] then 1 else if p=[45,122] then 2 else if p=[45,101] then 3 else if p=[45,102] then 4 else if p=[45,100] then 5 else if p=[45,115] then 6
 else if p=[61] then 7 else if p=[33,61] then 8 else if p=[45,101,113] then 9 else if p=[45,110,101] then 10 else if p=[45,108,116] then 11
 else if p=[45,108,101] then 12 else if p=[45,103,116] then 13 else if p=[45,103,101] then 14 else 0
theorem qoj (p:List UInt8):(p∈qwl++qwk)∨(qbw p=0∧p∉qwl++qwk):=by
 by_cases h:p∈qwl++qwk
 ·exact .inl h
 ·refine .inr ⟨?_,h⟩
  simp only [qwl,qwk,List.cons_append,List.nil_append,List.mem_cons,List.not_mem_nil,or_false,not_or] at h
  obtain⟨h1,h2,h3,h4,h5,h6,h7,h8,h9,h10,h11,h12,h13,h14⟩:=h;unfold qbw;simp only [h1,h2,h3,h4,h5,h6,h7,h8,h9,h10,h11,h12,h13,h14,if_false]
theorem qjm (p:List UInt8):0≤qbw p∧qbw p≤14:=by
 rcases qoj p with h|⟨h,-⟩
 ·simp only [qwl,qwk,List.cons_append,List.nil_append,List.mem_cons,List.not_mem_nil,or_false] at h
  rcases h with rfl|rfl|rfl|rfl|rfl|rfl|rfl|rfl|rfl|rfl|rfl|rfl|rfl|rfl<;>decide
 ·rw [h];decide
def qiG (p:List UInt8):Bool:=decide (1≤qbw p)&&decide (qbw p≤6)
def qdj (p:List UInt8):Bool:=decide (7≤qbw p)&&decide (qbw p≤14)
def qa9 (b:Bool):Int:=if b then 0 else 1
theorem qbS (b:Bool):0≤qa9 b∧qa9 b≤1:=by cases b<;>decide
def qtS (n:Int):Int:=if 1<n then n else 1-n
noncomputable def qdo (t:List ND) (p s:List UInt8):Int:=
 if qbw p=1 then qa9 (!s.isEmpty) else if qbw p=2 then qa9 s.isEmpty else if qbw p=3 then qa9 (qa0 t s !=0)
 else if qbw p=4 then qa9 (qa0 t s==1) else if qbw p=5 then qa9 (qa0 t s==2) else if qbw p=6 then qa9 (!(qg0 t s).1.isEmpty) else 2
def cmpL (k m n:Int):Bool:=if k=9 then m==n else if k=10 then m !=n else if k=11 then decide (m<n) else if k=12 then decide (m≤n) else if k=13 then decide (n<m) else decide (n≤m)
def qjV (a p b:List UInt8):Int:=
 if qbw p=7 then qa9 (a==b) else if qbw p=8 then qa9 (a !=b) else if qdj p=false then 2
 else if(qah a).2≠0∨(qah b).2≠0 then 2 else qa9 (cmpL (qbw p) (qah a).1 (qah b).1)
theorem qtd (t:List ND) (p s:List UInt8):0≤qdo t p s∧qdo t p s≤2:=by
 unfold qdo
 repeat' split
 all_goals first|decide|(have:=qbS (!s.isEmpty);have:=qbS s.isEmpty;have:=qbS (qa0 t s !=0);have:=qbS (qa0 t s==1);have:=qbS (qa0 t s==2);have:=qbS (!(qg0 t s).1.isEmpty);omega)
theorem qwH (a p b:List UInt8):0≤qjV a p b∧qjV a p b≤2:=by
 unfold qjV
 repeat' split
 all_goals first|decide|(have:=qbS (a==b);have:=qbS (a !=b);have:=qbS (cmpL (qbw p) (qah a).1 (qah b).1);omega)
def e1 (a:List UInt8):Int:=qa9 (!a.isEmpty)
noncomputable def e2 (t:List ND) (a b:List UInt8):Int:=if qiG a then qdo t a b else if a=[33] then qtS (e1 b) else 2
noncomputable def e3 (t:List ND) (a b c:List UInt8):Int:=if qdj b then qjV a b c else if a=[33] then qtS (e2 t b c) else if a=[40]∧c=[41] then e1 b else 2
noncomputable def e4 (t:List ND) (a b c d:List UInt8):Int:=if a=[33] then qtS (e3 t b c d) else if a=[40]∧d=[41] then e2 t b c else 2
noncomputable def qhK (t:List ND) (l:List (List UInt8)):Int:=
 match l with
 |[]=>1
 |[a]=>e1 a
 |[a,b]=>e2 t a b
 |[a,b,c]=>e3 t a b c
 |[a,b,c,d]=>e4 t a b c d
 |_=>2
theorem qsw {n:Int} (h:0≤n∧n≤2):0≤qtS n∧qtS n≤2:=by unfold qtS;split<;>omega
theorem qul (a:List UInt8):0≤e1 a∧e1 a≤2:=by have:=qbS (!a.isEmpty);unfold e1;omega
theorem qum (t:List ND) (a b:List UInt8):0≤e2 t a b∧e2 t a b≤2:=by
 unfold e2
 repeat' split
 all_goals first|decide|exact qtd _ _ _|exact qsw (qul _)
theorem qwO (t:List ND) (a b c:List UInt8):0≤e3 t a b c∧e3 t a b c≤2:=by
 unfold e3
 repeat' split
 all_goals first|decide|exact qwH _ _ _|exact qsw (qum _ _ _)|exact qul _
theorem qzg (t:List ND) (a b c d:List UInt8):0≤e4 t a b c d∧e4 t a b c d≤2:=by
 unfold e4
 repeat' split
 all_goals first|decide|exact qsw (qwO _ _ _ _)|exact qum _ _ _
theorem qru (t:List ND) (l:List (List UInt8)):0≤qhK t l∧qhK t l≤2:=by
 unfold qhK;split
 ·decide
 ·exact qul _
 ·exact qum _ _ _
 ·exact qwO _ _ _ _
 ·exact qzg _ _ _ _ _
 ·decide
theorem qo8:qiG [33]=false:=by decide
structure UQ where
 out:List UInt8
 st:Int
 tree:List ND
 read:Bool
 err:Int
def qaL (t:List ND):UQ:=⟨[],2,t,false,0⟩
def qbJ (t:List ND) (out:List UInt8) (st:Int):UQ:=⟨out,st,t,false,0⟩
def ofT (t:List ND) (u:TQ) (out:List UInt8):UQ:=⟨out,u.st,t,u.read,0⟩
def qaO (args:List (List UInt8)):Int×List (List UInt8):=
 match args with
 |a::b::r=>if a=[45,110] then(qeh b,r) else(10,args)
 |_=>(10,args)
noncomputable def qgO (tail:Bool) (t:List ND) (inn:List UInt8) (args:List (List UInt8)):UQ:=
 if(qaO args).1<0∨(qab [] [] (qaO args).2).ok=false then qaL t
 else ofT t (qaY t inn (qab [] [] (qaO args).2).rest) (if tail then qeY (qaY t inn (qab [] [] (qaO args).2).rest).out (qaO args).1 else qiU (qaY t inn (qab [] [] (qaO args).2).rest).out (qaO args).1)
def qi7 (o s:List UInt8):List UInt8:=
 (if o=[108] then qaw (qgx s) else if o=[119] then qaw (qaZ false s) else if o=[99] then qaw (s.length) else qaw (qgx s)++[32]++qaw (qaZ false s)++[32]++qaw (s.length))++[10]
noncomputable def qhA (t:List ND) (inn:List UInt8) (args:List (List UInt8)):UQ:=
 if(qab [108,119,99] [] args).ok=false∨1<(qab [108,119,99] [] args).out.length then qaL t
 else ofT t (qaY t inn (qab [108,119,99] [] args).rest) (qi7 (qab [108,119,99] [] args).out (qaY t inn (qab [108,119,99] [] args).rest).out)
noncomputable def qct (name:List UInt8) (t:List ND) (inn:List UInt8) (args:List (List UInt8)):UQ:=⟨(qes name t inn args).out,(qes name t inn args).st,t,(qes name t inn args).read,0⟩
def qcs (inn:List UInt8) (args:List (List UInt8)):List UInt8×Bool:=
 match args with
 |[a,b]=>if a=[45,100] then qtQ inn b else qe5 inn a b
 |_=>([],false)
def qe3 (t:List ND) (inn:List UInt8) (args:List (List UInt8)):UQ:=if(qcs inn args).2=false then qaL t else⟨(qcs inn args).1,0,t,true,0⟩
def qde (m:UInt8):List UInt8→List (List UInt8)
 |[]=>[[]]
 |c::r=>if c=m then []::qde m r else match qde m r with
  |[]=>[[c]]
  |x::t=>(c::x)::t
def partT (m:UInt8) (f:Int) (line:List UInt8):List UInt8:=if m∈line then(if 1≤f then(qde m line).getD (f.toNat-1) [] else []) else line
def qv9 (s:List UInt8) (m:UInt8) (f:Int):List UInt8:=qax ((qav s).map (partT m f))
noncomputable def quf (t:List ND) (inn:List UInt8) (args:List (List UInt8)):UQ:=
 match args with
 |a::[m]::c::d::r=>
  if a≠[45,100]∨c≠[45,102]∨qeh d<1∨(qab [] [] r).ok=false then qaL t
  else ofT t (qaY t inn (qab [] [] r).rest) (qv9 (qaY t inn (qab [] [] r).rest).out m (qeh d))
 |_=>qaL t
noncomputable def qsT (r f:Bool) (q:List ND×Int) (x:List UInt8):List ND×Int:=
 if(qfm q.1 x r).2=0 then((qfm q.1 x r).1,q.2) else if(qfm q.1 x r).2≠71∨f=false then(q.1,1) else q
noncomputable def rmU (t:List ND) (args:List (List UInt8)):UQ:=
 if(qab [102,114] [] args).ok=false then qaL t
 else qbJ ((qab [102,114] [] args).rest.foldl (qsT ((qab [102,114] [] args).out.contains 114) ((qab [102,114] [] args).out.contains 102)) (t,0)).1 [] ((qab [102,114] [] args).rest.foldl (qsT ((qab [102,114] [] args).out.contains 114) ((qab [102,114] [] args).out.contains 102)) (t,0)).2
def qgb (p:Bool) (x:List UInt8):List (List UInt8):=if p=true∧(qaK x).2=0 then(List.range (qap x).length).map fun k=>joinL ((qap x).take (k+1)) else [x]
noncomputable def mkS (p:Bool) (q:Option (List ND×Int)) (x:List UInt8):Option (List ND×Int):=
 match q with
 |none=>none
 |some (t,s)=>if(mkQ t x).2=0 then some ((mkQ t x).1,s) else if(mkQ t x).2=17 then none else if(mkQ t x).2≠14∨p=false∨qa0 t x≠2 then some (t,1) else some (t,s)
noncomputable def qiA (q:Option (List ND×Int)) (x:List UInt8):Option (List ND×Int):=
 match q with
 |none=>none
 |some (t,s)=>if qa0 t x≠0 then some (t,s) else if(qox t x []).2=0 then some ((qox t x []).1,s) else if(qox t x []).2=17 then none else some (t,1)
def qrN (t:List ND) (q:Option (List ND×Int)):UQ:=match q with|none=>⟨[],1,t,false,17⟩|some (t',s)=>qbJ t' [] s
noncomputable def mkU (t:List ND) (args:List (List UInt8)):UQ:=
 if(qab [112] [] args).ok=false∨(qab [112] [] args).rest=[] then qaL t
 else qrN t (((qab [112] [] args).rest.flatMap (qgb (!(qab [112] [] args).out.isEmpty))).foldl (mkS (!(qab [112] [] args).out.isEmpty)) (some (t,0)))
noncomputable def qiB (t:List ND) (args:List (List UInt8)):UQ:=
 if(qab [] [] args).ok=false∨(qab [] [] args).rest=[] then qaL t
 else qrN t ((qab [] [] args).rest.foldl qiA (some (t,0)))
def qhB (a b:Int):List UInt8:=(List.range (b-a+1).toNat).flatMap fun k:Nat=>qaw (a+(k:Int))++[10]
def ql7 (a b:Int×Int) (t:List ND):UQ:=if a.2≠0∨b.2≠0∨(a.1≤b.1∧4096≤b.1-a.1) then qaL t else qbJ t (qhB a.1 b.1) 0
def qoH (t:List ND) (args:List (List UInt8)):UQ:=
 match args with
 |[b]=>ql7 (1,0) (qah b) t
 |[a,b]=>ql7 (qah a) (qah b) t
 |_=>qaL t
def qa1 (s:List UInt8):List UInt8:=if s.all (·==47) then s.take 1 else(s.reverse.dropWhile (·==47)).reverse
def qjT (s:List UInt8):List UInt8:=(s.reverse.takeWhile (· !=47)).reverse
def qhn (s:List UInt8):List UInt8:=((s.reverse.dropWhile (· !=47)).drop 1).reverse
def qgX (s:List UInt8):List UInt8:=if qa1 s=[47] then [47] else qjT (qa1 s)
def qqK (s:List UInt8):List UInt8:=if qa1 s=[47] then [47] else if 47∉qa1 s then [46] else if qa1 (qhn (qa1 s))=[] then [47] else qa1 (qhn (qa1 s))
def qgY (dir:Bool) (t:List ND) (args:List (List UInt8)):UQ:=
 match args with
 |[s]=>qbJ t ((if dir then qqK s else qgX s)++[10]) 0
 |_=>qaL t
def qv8 (op:List UInt8) (x y:Int):Option Bool:=
 if op=[61] then some (decide (x=y)) else if op=[33,61] then some (decide (x≠y)) else if op=[60] then some (decide (x<y)) else if op=[60,61] then some (decide (x≤y)) else if op=[62] then some (decide (y<x)) else if op=[62,61] then some (decide (y≤x)) else none
open Classical in
noncomputable def qub (op x y:List UInt8):Option Bool:=
 if op=[61] then some (decide (x=y)) else if op=[33,61] then some (decide (x≠y)) else if op=[60] then some (decide (x<y)) else if op=[60,61] then some (decide (x≤y)) else if op=[62] then some (decide (y<x)) else if op=[62,61] then some (decide (y≤x)) else none
def qoU (op:List UInt8) (x y:Int):Option Int:=
 if op=[43] then some (wrap64 (x+y)) else if op=[45] then some (wrap64 (x-y)) else if op=[42] then some (wrap64 (x*y))
 else if op=[47] then(if y=0 then none else some (wrap64 (x.tdiv y))) else if op=[37] then(if y=0 then none else some (wrap64 (x.tmod y))) else none
noncomputable def qhL (t:List ND) (args:List (List UInt8)):UQ:=
 match args with
 |[a,op,b]=>
  match (if(qah a).2=0∧(qah b).2=0 then qv8 op (qah a).1 (qah b).1 else qub op a b) with
  |some c=>qbJ t (qaw (if c then 1 else 0)++[10]) (if c then 0 else 1)
  |none=>
   if(qah a).2=0∧(qah b).2=0 then
    match qoU op (qah a).1 (qah b).1 with
    |some n=>qbJ t (qaw n++[10]) (if n=0 then 1 else 0)
    |none=>qaL t
   else qaL t
 |_=>qaL t
def qfd (t:List ND) (args:List (List UInt8)):UQ:=
 match args with
 |[]=>qaL t
 |f::r=>qbJ t (qaV f r).1 (qaV f r).2
noncomputable def qdc (t:List ND) (args:List (List UInt8)):UQ:=if args.getLast?=some [93] then qbJ t [] (qhK t args.dropLast) else qaL t
def qbQ:List (List UInt8):=[[58],[116,114,117,101],[102,97,108,115,101],[101,99,104,111],[112,114,105,110,116,102],[116,101,115,116],[91],[99,97,116],[104,101,97,100],[116,97,105,108],[119,99],[115,111,114,116],[116,114],[117,110,105,113],[99,117,116],[114,101,118],[114,109],[109,107,100,105,114],[116,111,117,99,104],[115,101,113],[98,97,115,101,110,97,109,101],[100,105,114,110,97,109,101],[101,120,112,114]]
noncomputable def qbc (name:List UInt8) (args:List (List UInt8)) (inn:List UInt8) (t:List ND):UQ:=
 if name=[99,97,116]∨name=[115,111,114,116]∨name=[117,110,105,113]∨name=[114,101,118] then qct name t inn args
 else if name=[104,101,97,100] then qgO false t inn args
 else if name=[116,97,105,108] then qgO true t inn args
 else if name=[119,99] then qhA t inn args
 else if name=[116,114] then qe3 t inn args
 else if name=[99,117,116] then quf t inn args
 else if name=[114,109] then rmU t args
 else if name=[109,107,100,105,114] then mkU t args
 else if name=[116,111,117,99,104] then qiB t args
 else if name=[102,97,108,115,101] then qbJ t [] 1
 else if name=[101,99,104,111] then qbJ t (echoL args) 0
 else if name=[112,114,105,110,116,102] then qfd t args
 else if name=[116,101,115,116] then qbJ t [] (qhK t args)
 else if name=[91] then qdc t args
 else if name=[115,101,113] then qoH t args
 else if name=[98,97,115,101,110,97,109,101] then qgY false t args
 else if name=[100,105,114,110,97,109,101] then qgY true t args
 else if name=[101,120,112,114] then qhL t args
 else qbJ t [] 0
noncomputable def qgQ (name:List UInt8) (args:List (List UInt8)) (inn:List UInt8) (t:List ND):UQ:=
 if name∉qbQ then⟨[],0,[],false,31⟩ else if qaC t≠0 then⟨[],0,[],false,qaC t⟩
 else if 65536<(qbc name args inn t).out.length then⟨[],1,t,false,17⟩ else qbc name args inn t
end Go.Proofs.YtpodopnmkjinhaaGreatDoor
namespace Go.Proofs.YtpodopnmkjinhaaGreatDoor
open Go.Lib (hid)
open Go.RowKit
theorem quj (i:Nat) (c:UInt8) (w:World):Calls prog 213 #[.int .i64 i,.int .u8 c.toNat] w fun e w'=>e=.returned (.bool (qdU c.toNat))∧w=w':=by
 have c1:=fun W=>qea c.toNat W
 go_enter func213,ntmps213;go_wp2_with fail;refine(c1 _).mono ?_;rintro e w1⟨rfl,rfl⟩;go_wp2_with fail;go_ret;exact⟨rfl,rfl⟩
theorem qpp (s:List UInt8) (w:World) (hs:s.length≤1099511627776) (hne:s≠[]):
  Calls prog 176 #[encS s] w fun e w'=>e=.returned (.bool (s.all fun c=>qdU c.toNat))∧w=w':=by
 have cE:=fun W=>qld 213 #[] (enters_of func213 (by kernel_rfl) rfl) (fun _ c=>qdU c.toNat) ⟨s.toArray⟩ W (by unfold maxLen;simp [ByteArray.size];omega) (fun i _=>quj i _ W)
 rw [qgJ] at cE;have h1:(⟨s.toArray⟩:ByteArray).data.toList=s:=by simp
 rw [h1] at cE;have g1:(s==[])=false:=by simpa using hne
 obtain⟨q,hq⟩:=qQ ((s.all fun c=>qdU c.toNat))
 rw [hq] at cE ⊢;clear hq h1 hne;go_enter func176,ntmps176;go_wp2_with fail;refine(cE _).mono ?_;rintro e w1⟨rfl,rfl⟩;go_wp2_with fail;go_ret;exact⟨rfl,rfl⟩
end Go.Proofs.YtpodopnmkjinhaaGreatDoor
namespace Go.Proofs.YtpodopnmkjinhaaGreatDoor
open Go.RowKit
def qb6 (l:List UInt8):Bool:=l.all fun c=>decide (48≤c.toNat)&&decide (c.toNat≤57)
theorem qfw {c:UInt8} (h:(decide (48≤c.toNat)&&decide (c.toNat≤57))=true):qeP (c.toNat:Int)=c.toNat-48∧c≠32∧c≠9∧c≠45∧c≠43:=by
 simp only [Bool.and_eq_true,decide_eq_true_eq] at h
 refine⟨?_,?_,?_,?_,?_⟩
 ·unfold qeP;rw [if_pos (by omega)]
 all_goals (rintro rfl;revert h;decide)
theorem qgd {l:List UInt8} (h:qb6 l=true):qfC 10 l=true:=by
 unfold qb6 at h;unfold qfC
 rw [List.all_eq_true] at h ⊢;intro c hc
 have h1:=h c hc;have h2:=(qfw h1).1
 simp only [Bool.and_eq_true,decide_eq_true_eq] at h1
 rw [h2];simp;omega
end Go.Proofs.YtpodopnmkjinhaaGreatDoor
namespace Go.Proofs.YtpodopnmkjinhaaGreatDoor
open Go.Lib (hid)
open Go.RowKit
def qi4 (c:UInt8):Bool:=[32,9].contains c
theorem qbO {p:UInt8→Bool}:∀{l:List UInt8},(∀c∈l,p c=false)→l.dropWhile p=l
 |[],_=>rfl
 |c::r,h=>by rw [List.dropWhile_cons,if_neg (by rw [h c (by simp)];decide)]
theorem qfZ {l:List UInt8} (h:∀c∈l,qi4 c=false):Lib.trimS l [32,9]=l:=by
 have h1:l.reverse.dropWhile qi4=l.reverse:=qbO fun c hc=>h c (by simpa using hc)
 unfold Lib.trimS Lib.trimLeftS Lib.trimRightS;rw [show(fun c=>[32,9].contains c:UInt8→Bool)=qi4 from rfl,h1,List.reverse_reverse];exact qbO h
theorem qq4 {c:UInt8} (h1:c≠32) (h2:c≠9):qi4 c=false:=by
 unfold qi4;simp [h1,h2]
theorem qdD {l:List UInt8} (h:qb6 l=true):∀c∈l,qi4 c=false:=fun c hc=>by
 have h1:=List.all_eq_true.1 h c hc;have h2:=qfw h1;exact qq4 h2.2.1 h2.2.2.1
theorem qel {c d:UInt8} (h:c≠d) (l:List UInt8):Lib.hasPrefix (c::l) [d]=false:=by
 show(d==c&&List.isPrefixOf [] l)=false
 rw [show(d==c)=false by simpa using Ne.symm h];rfl
theorem qek {l:List UInt8} (h:qb6 l=true) (d:UInt8) (hd:d=45∨d=43):Lib.hasPrefix l [d]=false:=by
 cases l with
 |nil=>rfl
 |cons c r=>
  have h1:=List.all_eq_true.1 h c (by simp)
  have h2:=qfw h1;rcases hd with rfl|rfl
  ·exact qel h2.2.2.2.1 r
  ·exact qel h2.2.2.2.2 r
theorem qgz {l p:List UInt8} (h:Lib.hasPrefix l p=false):Lib.trimPrefix l p=l:=by unfold Lib.trimPrefix;rw [h];rfl
theorem qlS {l:List UInt8} {n:Int} (h:qb6 l=true) (hr:qbr 10 l=(n,true)):qil l=(wrap64 n,0):=by
 unfold qil qnt;rw [qfZ (qdD h),qek h 45 (.inl rfl),qgz (qek h 43 (.inr rfl)),hr];rfl
theorem qaQ {n:Int} (h0:-9223372036854775808≤n) (h1:n≤9223372036854775807):(qaw n).length≤20:=by
 have h:∀(k u:Nat),u<10^(k+1)→(qd0 u).length≤k+1:=fun k=>by
  induction k with
  |zero=>intro u hu;rw [qb2 (by simpa using hu)];simp
  |succ k ih=>
   intro u hu
   by_cases h:u<10
   ·rw [qb2 h];simp
   ·rw [qcm (by omega),List.length_append,List.length_singleton]
    have:=ih (u/10) (by rw [Nat.pow_succ] at hu;omega)
    omega
 have:=h 18 n.natAbs (by omega)
 unfold qaw;split
 ·rw [List.length_cons];omega
 ·omega
theorem qxl {p:UInt8→Prop} (h:∀n:Fin 256,p (UInt8.ofFin n)):∀c,p c:=fun c=>h c.toFin
theorem qyQ:∀x:UInt8,([(32:UInt8),9].contains x)=qiQ x:=qxl (by decide +kernel)
theorem qfl (x:UInt8) (r:List UInt8):qiY (x::r)=if qiY r=[]∧qiQ x=true then [] else x::qiY r:=by
 unfold qiY;rw [List.reverse_cons,List.dropWhile_append];by_cases h:r.reverse.dropWhile qiQ=[]
 ·cases hx:qiQ x<;>simp [h,hx]
 ·simp [h]
theorem qnl {u:List UInt8} {x:UInt8} (hx:qiQ x=false):∃v,qiY (x::u)=x::v:=by
 rw [qfl,if_neg (by rw [hx];simp)];exact⟨_,rfl⟩
theorem qjy:∀l:List UInt8,(qiY l).dropWhile qiQ=qiY (l.dropWhile qiQ)
 |[]=>rfl
 |x::r=>by
  have ih:=qjy r;cases hx:qiQ x
  ·obtain⟨v,hv⟩:=qnl (u:=r) hx
   rw [List.dropWhile_cons,if_neg (by rw [hx];simp),hv,List.dropWhile_cons,if_neg (by rw [hx];simp)]
  ·rw [List.dropWhile_cons,if_pos hx,qfl,← ih]
   by_cases h:qiY r=[]
   ·rw [if_pos ⟨h,hx⟩,h]
   ·rw [if_neg (fun e=>h e.1),List.dropWhile_cons,if_pos hx]
theorem qsM (l:List UInt8):Lib.trimS l [32,9]=qtA l:=by
 unfold Lib.trimS Lib.trimLeftS Lib.trimRightS;rw [show([(32:UInt8),9].contains ·)=qiQ from funext qyQ];exact qjy l
theorem qgu (c:UInt8) (r:List UInt8):qtb (c::r)=if c=45 then(if(qbr 10 r).2 then(wrap64 (-(qbr 10 r).1),0) else(0,33))
  else if c=43 then(if(qbr 10 r).2 then(wrap64 (qbr 10 r).1,0) else(0,33))
  else(if(qbr 10 (c::r)).2 then(wrap64 (qbr 10 (c::r)).1,0) else(0,33)):=rfl
theorem qnk {c x:UInt8} (r:List UInt8) (h:¬c=x):Lib.hasPrefix (c::r) [x]=false:=by
 unfold Lib.hasPrefix;simp only [List.isPrefixOf,Bool.and_true]
 simpa using fun e=>h e.symm
theorem qxO (l:List UInt8):qnt l=qtb l:=by
 cases l with
 |nil=>simp [qnt,qtb,Lib.hasPrefix,Lib.trimPrefix,qbr,qfC]
 |cons c r=>
  rw [qgu];unfold qnt;by_cases h45:c=45
  ·subst h45
   simp [Lib.hasPrefix,Lib.trimPrefix]
  ·rw [qnk r h45,if_neg (by simp),if_neg h45]
   by_cases h43:c=43
   ·subst h43
    simp [Lib.hasPrefix,Lib.trimPrefix]
   ·rw [if_neg h43]
    have h2:Lib.trimPrefix (c::r) [43]=c::r:=by unfold Lib.trimPrefix;rw [qnk r h43,if_neg (by simp)]
    rw [h2]
theorem qoq (l:List UInt8):qil l=qah l:=by
 unfold qil qah;rw [qsM,qxO]
theorem qb0 (s:List UInt8) (w:World) (hs:s.length≤140737488351232):
  Calls prog 112 #[encS s] w fun e w'=>e=.returned (.tuple #[.int .i64 (qah s).1,.int .i64 (qah s).2])∧Below w.heap.size w w':=by
 have c:=qsC ⟨s.toArray⟩ w (by simp [ByteArray.size];omega)
 have e:(⟨s.toArray⟩:ByteArray).data.toList=s:=by simp
 rw [e,qoq] at c;exact c
theorem qpo (l:List UInt8):(l.all fun c=>qdU c.toNat)=l.all qcg:=by
 congr 1
 funext c
 unfold qdU qcg;rw [Bool.eq_iff_iff];simp
 omega
theorem qyA (l:List UInt8):l.all qcg=qb6 l:=by
 unfold qb6
 congr 1
 funext c
 unfold qcg;simp
theorem qmq:∀(l:List UInt8) (n:Int),qb6 l=true→0≤n→0≤qa5 10 n l∧qa5 10 n l<(n+1)*10^l.length
 |[],n,_,h=>by simp [qa5];omega
 |c::r,n,h,hn=>by
  have h':((decide (48≤c.toNat)&&decide (c.toNat≤57))&&qb6 r)=true:=h
  rw [Bool.and_eq_true] at h';obtain⟨h1,h2⟩:=h';have hd:=(qfw h1).1
  simp only [Bool.and_eq_true,decide_eq_true_eq] at h1
  rw [qa5,hd];have ih:=qmq r (n*10+(c.toNat-48)) h2 (by omega)
  refine⟨ih.1,Int.lt_of_lt_of_le ih.2 ?_⟩
  have hp:0≤(10:Int)^r.length:=Int.pow_nonneg (by decide)
  rw [List.length_cons,Int.pow_succ,Int.mul_comm ((10:Int)^r.length) 10,← Int.mul_assoc (n+1) 10];exact Int.mul_le_mul_of_nonneg_right (by omega) hp
theorem qxe {x:List UInt8} (h:x.all qcg=true) (hne:x≠[]) (hl:x.length≤6):qeh x=(qah x).1∧0≤qeh x∧qeh x<1000000:=by
 have he:x.isEmpty=false:=by simpa using hne
 have e:qeh x=(qah x).1:=by unfold qeh;rw [if_pos ⟨by rw [h,he];rfl,hl⟩]
 refine⟨e,?_⟩
 rw [qyA] at h;have hb:=qmq x 0 h (Int.le_refl _)
 have hp:(10:Int)^x.length≤10^6:=by
  have:(10:Nat)^x.length≤10^6:=Nat.pow_le_pow_right (by decide) hl
  exact_mod_cast this
 have h6:(10:Int)^6=1000000:=by decide
 rw [h6] at hp;have hv:0≤qa5 10 0 x∧qa5 10 0 x<1000000:=by omega
 have hr:qbr 10 x=(qa5 10 0 x,true):=by
  unfold qbr;rw [qgd h,if_pos rfl,he,qy5 hv.1 (by omega)]
  rfl
 have hq:=qlS h hr;rw [qoq] at hq;rw [e,hq];show 0≤wrap64 _∧wrap64 _<1000000
 rw [qf6 (by omega) (by omega)];exact hv
theorem qko {x:List UInt8} (h:¬(x.all qcg=true∧x≠[]∧x.length≤6)):qeh x=-1:=by
 unfold qeh;rw [if_neg];rintro⟨h1,h2⟩
 rw [Bool.and_eq_true] at h1;exact h ⟨h1.1,by simpa using h1.2,h2⟩
section
variable {W:World} {N B:Nat} {C:Option Addr} {c:Nat} {R:Option Addr} {d:Nat} {o:List UInt8} {st:Int} {t:List ND} {rd:Bool} {l:List (List UInt8)} {inn:List UInt8}
theorem qk6 (h:JobAt W N B C c R d o st t rd [] inn):Calls prog 115 #[.pointer (some ⟨B,5,none⟩)] W fun e w'=>e=.panicked [qbH 2 0]∧W=w':=by
 have cN:=qch h;clear h;go_enter func115,ntmps115;go_wp2_with fail;refine cN.mono ?_;rintro e w1⟨rfl,rfl⟩;go_wp2_with fail;exact⟨rfl,rfl,rfl⟩
theorem count_cons {x:List UInt8} {r:List (List UInt8)} (h:JobAt W N B C c R d o st t rd (x::r) inn) (hr:r.length≤1099511627776) (hx:x.length≤1099511627776):
  Calls prog 115 #[.pointer (some ⟨B,5,none⟩)] W fun e w'=>Kept B W w'∧((qeh x<0∧e=.panicked [qbH 2 0])∨(0≤qeh x∧qeh x<1000000∧e=.returned (.int .i64 (qeh x))∧∃R' d',JobAt w' N B C c R' d' o st t rd r inn)):=by
 have cN:=qaz h hr;clear h;have hz:(⟨x.toArray⟩:ByteArray).size=x.length:=by simp [ByteArray.size]
 by_cases h6:x.length≤6
 ·have hi:(x.length:Int)≤6:=by omega
  by_cases h0:x=[]
  ·have hn:=qko (x:=x) (fun h=>h.2.1 h0)
   have HN:=hid (show qeh x<0 by omega)
   clear hn;subst h0;clear h6 hx;have cD:∀w,Calls prog 176 #[encS []] w fun e w'=>e=.returned (.bool false)∧w=w':=fun w=>by
    go_enter func176,ntmps176;go_wp2_with fail;go_ret;exact⟨rfl,rfl⟩
   go_enter func115,ntmps115;go_wp2_with fail;refine cN.mono ?_;rintro e w1⟨rfl,-,hk⟩;clear cN;go_wp2_with fail;refine(cD _).mono ?_;rintro e w2⟨rfl,rfl⟩;go_wp2_with fail;refine(qau _).mono ?_;rintro e w2⟨rfl,rfl⟩;go_wp2_with fail;exact⟨rfl,hk,.inl ⟨HN.out,rfl⟩⟩
  ·have cD:=fun w=>qpp x w hx h0
   rw [qpo] at cD;have cP:=fun w=>qb0 x w (by omega)
   cases hd:x.all qcg
   ·have HN:=hid (show qeh x<0 by rw [qko (x:=x) (fun h=>by rw [hd] at h;exact absurd h.1 (by decide))];decide)
    rw [hd] at cD;clear hd cP;go_enter func115,ntmps115;go_wp2_with fail;refine cN.mono ?_;rintro e w1⟨rfl,-,hk⟩;clear cN;go_wp2_with fail;refine(cD _).mono ?_;rintro e w2⟨rfl,rfl⟩;go_wp2_with fail;refine(qau _).mono ?_;rintro e w2⟨rfl,rfl⟩;go_wp2_with fail;exact⟨rfl,hk,.inl ⟨HN.out,rfl⟩⟩
   ·obtain⟨e1,e2,e3⟩:=qxe hd h0 h6
    rw [← e1] at cP;rw [hd] at cD;generalize qeh x=m at *;generalize (qah x).2=pe at *;clear e1 hd;go_enter func115,ntmps115;go_wp2_with fail;refine cN.mono ?_;rintro e w1⟨rfl,⟨R1,d1,hJ⟩,hk⟩;clear cN;go_wp2_with fail;refine(cD _).mono ?_;rintro e w2⟨rfl,rfl⟩;go_wp2_with fail;refine(qay _).mono ?_;rintro e w2⟨rfl,rfl⟩;go_wp2_with fail;refine(cP _).mono ?_;rintro e w2⟨rfl,hb⟩;have HK:=hid (hk.trans (Kept.of_below hb))
    have HJ:=hid (hJ.below hb)
    clear hk hJ hb;go_wp2_with fail;go_ret;exact⟨HK.out,.inr ⟨e2,e3,rfl,R1,d1,HJ.out⟩⟩
 ·have hi:¬(x.length:Int)≤6:=by omega
  have HN:=hid (show qeh x<0 by rw [qko (x:=x) (fun h=>h6 h.2.2)];decide)
  clear h6;go_enter func115,ntmps115;go_wp2_with fail;refine cN.mono ?_;rintro e w1⟨rfl,-,hk⟩;clear cN;go_wp2_with fail;refine(qau _).mono ?_;rintro e w2⟨rfl,rfl⟩;go_wp2_with fail;exact⟨rfl,hk,.inl ⟨HN.out,rfl⟩⟩
theorem qp4 {l:List (List UInt8)} (h:l.head?≠some [45,110]):qaO l=(10,l):=by
 unfold qaO;split
 ·rename_i a b r
  rw [if_neg (fun e=>h (by rw [e];rfl))]
 ·rfl
theorem qr9 (b:List UInt8) (r:List (List UInt8)):qaO ([45,110]::b::r)=(qeh b,r):=by
 show(if([45,110]:List UInt8)=[45,110] then(qeh b,r) else(10,[45,110]::b::r))=_
 exact if_pos rfl
theorem qlC (h:JobAt W N B C c R d o st t rd l inn) (hz:qaf l≤1099511627776):
  Calls prog 62 #[.pointer (some ⟨B,0,none⟩)] W fun e w'=>Kept B W w'∧(((qaO l).1<0∨l=[[45,110]])∧e=.panicked [qbH 2 0]∨¬((qaO l).1<0∨l=[[45,110]])∧0≤(qaO l).1∧(qaO l).1<1000000∧e=.returned (.int .i64 (qaO l).1)∧∃R' d',JobAt w' N B C c R' d' o st t rd (qaO l).2 inn):=by
 have hlz:=qaG l;by_cases h0:l.head?=some [45,110]
 ·obtain⟨r,rfl⟩:∃r,l=[45,110]::r:=by
   cases l with
   |nil=>cases h0
   |cons x r=>exact⟨r,by rw [Option.some.inj h0]⟩
  have cT:=qdf [45,110] r h (by simp at hlz;omega)
  have hr1:r.length≤1099511627776:=by simp at hlz;omega
  have hr2:∀x s,r=x::s→x.length≤1099511627776:=fun x s e=>by
   have:=qaH ([45,110]::r) x (by rw [e];exact .tail _ (.head _))
   omega
  clear h h0 hlz hz;rcases r with _|⟨b,r⟩
  ·go_enter func62,ntmps62
   go_wp2_with fail;refine cT.mono ?_;rintro e w1⟨rfl,⟨R1,d1,hJ⟩,hk⟩;have cC:=qk6 hJ;clear cT;go_wp2_with fail;refine cC.mono ?_;rintro e w2⟨rfl,rfl⟩;go_wp2_with fail;exact⟨rfl,hk,.inl ⟨.inr (by trivial),rfl⟩⟩
  ·have hb:=hr2 b r rfl
   rw [qr9];simp only [List.length_cons] at hr1
   clear hr2;go_enter func62,ntmps62;go_wp2_with fail;refine cT.mono ?_;rintro e w1⟨rfl,⟨R1,d1,hJ⟩,hk⟩;have cC:=count_cons hJ (by omega) hb
   clear cT;go_wp2_with fail;refine cC.mono ?_;rintro e w2⟨hk2,⟨hn,rfl⟩|⟨h1,h2,rfl,hJ2⟩⟩
   ·go_wp2_with fail
    exact⟨rfl,hk.trans hk2,.inl ⟨.inl hn,rfl⟩⟩
   ·go_wp2_with fail
    go_ret;exact⟨hk.trans hk2,.inr ⟨by rintro(h|h);exact absurd h1 (by show ¬(0:Int)≤qeh b;have h:qeh b<0:=h;omega);simp at h,h1,h2,rfl,hJ2⟩⟩
 ·have cT:=qiy [45,110] h (by omega) h0
  have hJ:=hid h;have HL:=hid (qp4 h0)
  have HZ:=hid h0;clear h h0;go_enter func62,ntmps62;go_wp2_with fail;refine cT.mono ?_;rintro e w1⟨rfl,rfl⟩;go_wp2_with fail;go_ret;rw [HL.out];exact⟨Kept.refl _ _,.inr ⟨by rintro(h|h);exact absurd (show(10:Int)<0 from h) (by decide);exact HZ.out (by rw [h];rfl),by show(0:Int)≤10;decide,by show(10:Int)<1000000;decide,rfl,_,_,hJ.out⟩⟩
end
end Go.Proofs.YtpodopnmkjinhaaGreatDoor
namespace Go.Proofs.YtpodopnmkjinhaaGreatDoor
open Go.RowKit
theorem all_u8 {p:UInt8→Prop} (h:∀n:Fin 256,p (UInt8.ofFin n)):∀c,p c:=fun c=>h c.toFin
theorem qqm (r:List UInt8):qaX (10::r)=r:=by simp [qaX]
theorem ql1 (c:UInt8) (r:List UInt8) (h:c≠10):qaX (c::r)=qaX r:=by
 have hc:(c !=10)=true:=by simpa using h
 unfold qaX;rw [List.dropWhile_cons_of_pos (p:=(· !=10)) hc]
theorem qh3 (r:List UInt8):qaB (10::r)=[10]::qaB r:=by rw [qaB,if_pos rfl]
theorem qgj (c:UInt8) (r:List UInt8) (h:c≠10) {x:List UInt8} {t:List (List UInt8)} (hr:qaB r=x::t):qaB (c::r)=(c::x)::t:=by rw [qaB,if_neg h,hr]
theorem qh4:∀l:List UInt8,l≠[]→∃x,qaB l=x::qaB (qaX l)
 |[],h=>absurd rfl h
 |c::r,_=>by
  by_cases hc:c=10
  ·subst hc
   exact⟨[10],by rw [qh3,qqm]⟩
  ·rw [ql1 c r hc]
   cases r with
   |nil=>exact⟨[c],by simp [qaB,hc,qaX]⟩
   |cons d q=>
    obtain⟨x,hx⟩:=qh4 (d::q) (by simp)
    exact⟨c::x,qgj c _ hc hx⟩
theorem qrY {s l:List UInt8} {k:Nat} (h:qaB l=(qaB s).drop k) (hl:l≠[]):qaB (qaX l)=(qaB s).drop (k+1):=by
 obtain⟨x,hx⟩:=qh4 l hl;rw [← List.drop_drop,← h,hx]
 rfl
theorem qrR {s l:List UInt8} {k:Nat} (h:qaB l=(qaB s).drop k):((qaB s).take k).flatten++l=s∧l.length≤s.length∧s.take (s.length-l.length)=((qaB s).take k).flatten:=by
 have e:((qaB s).take k).flatten++l=s:=by
  have h1:=qee l;rw [h] at h1;rw [← h1,← List.flatten_append,List.take_append_drop,qee]
 have hl:=congrArg List.length e;rw [List.length_append] at hl;refine⟨e,by omega,?_⟩
 have:s.length-l.length=((qaB s).take k).flatten.length:=by omega
 rw [this]
 conv=>lhs;arg 2;rw [← e]
 exact List.take_left' rfl
theorem qoa {s l:List UInt8} {k:Nat} {n:Int} (h:qaB l=(qaB s).drop k) (hk:k≤n.toNat) (he:n-k≤0∨l=[]):s.take (s.length-l.length)=qiU s n:=by
 rw [(qrR h).2.2];unfold qiU;rcases he with e|e
 ·rw [show n.toNat=k by omega]
 ·subst e
  have h0:(qaB s).length≤k:=by
   have:=congrArg List.length h
   rw [show qaB []=[] from rfl,List.length_drop] at this;simp at this
   omega
  rw [List.take_of_length_le h0,List.take_of_length_le (by omega)]
theorem qog:∀(a r:List UInt8),(a=[]∨a.getLast?=some 10)→qaB (a++r)=qaB a++qaB r
 |[],r,_=>rfl
 |[c],r,h=>by
  obtain rfl:c=10:=by rcases h with h|h;cases h;simpa using h
  simp [qaB]
 |c::d::a,r,h=>by
  have ih:=qog (d::a) r (.inr (by rcases h with h|h;cases h;simpa [List.getLast?_cons_cons] using h))
  rw [List.cons_append];by_cases hc:c=10
  ·subst hc
   rw [qh3,qh3,ih];rfl
  ·obtain⟨x,hx⟩:=qh4 (d::a) (by simp)
   rw [hx] at ih;rw [qgj c _ hc hx,qgj c _ hc ih]
   rfl
theorem qoh:∀(b:List UInt8) (c:UInt8),(∀x∈b,x≠10)→qaB (b++[c])=[b++[c]]
 |[],c,_=>by by_cases h:c=10<;>simp [qaB,h]
 |d::b,c,h=>by
  have ih:=qoh b c fun x hx=>h x (by simp [hx])
  rw [List.cons_append,qaB,if_neg (h d (by simp)),ih]
theorem qlu (p:List UInt8) (j i:Nat) (hj:j+1=p.length) (hi:i≤j) (h10:i=0∨(p.take i).getLast?=some 10) (hno:∀k (h:k<p.length),i≤k→k<j→p[k]≠10):qaB p=qaB (p.take i)++[p.drop i]:=by
 have e:p.drop i=(p.drop i).take (j-i)++[p[j]'(by omega)]:=by
  conv=>lhs;rw [← List.take_append_drop (j-i) (p.drop i)]
  congr 1
  rw [List.drop_drop,show i+(j-i)=j by omega,List.drop_eq_getElem_cons (by omega),show j+1=p.length from hj,List.drop_length]
 have h1:qaB (p.drop i)=[p.drop i]:=by
  rw [e];refine qoh _ _ fun x hx=>?_
  obtain⟨k,hk,rfl⟩:=List.getElem_of_mem hx;rw [List.length_take,List.length_drop] at hk;rw [List.getElem_take,List.getElem_drop];exact hno (i+k) (by omega) (by omega) (by omega)
 conv=>lhs;rw [← List.take_append_drop i p]
 rw [qog _ _ (by rcases h10 with h|h;exact .inl (by rw [h];rfl);exact .inr h),h1]
theorem qlt {s:List UInt8} {p i k:Nat} (h:qaB (s.take p)=(qaB s).take ((qaB s).length-k)) (hk:qaB (s.take p)=qaB (s.take i)++[(s.take p).drop i]):qaB (s.take i)=(qaB s).take ((qaB s).length-(k+1)):=by
 have h2:qaB (s.take i)=(qaB (s.take p)).take ((qaB (s.take p)).length-1):=by
  rw [hk,List.length_append,List.length_singleton,Nat.add_sub_cancel];exact(List.take_left' rfl).symm
 rw [h2,h,List.take_take,List.length_take]
 congr 1
 omega
theorem qr4 {s:List UInt8} {p k:Nat} (h:qaB (s.take p)=(qaB s).take ((qaB s).length-k)):s.drop p=((qaB s).drop ((qaB s).length-k)).flatten:=by
 have e:=qee s;rw [← List.take_append_drop ((qaB s).length-k) (qaB s),List.flatten_append,← h,qee] at e;exact List.append_cancel_left ((List.take_append_drop p s).trans e.symm)
theorem quP {s:List UInt8} {p k:Nat} {n:Int} (h:qaB (s.take p)=(qaB s).take ((qaB s).length-k)) (hp:p≤s.length) (hk:k≤n.toNat) (he:n-k≤0∨p=0):s.drop p=qeY s n:=by
 rw [qr4 h];unfold qeY;rcases he with e|e
 ·rw [show n.toNat=k by omega]
 ·subst e
  have h0:(qaB s).length≤k:=by
   have:=congrArg List.length h
   rw [List.take_zero,show qaB []=[] from rfl,List.length_take] at this;simp at this
   omega
  rw [show(qaB s).length-k=0 by omega,show(qaB s).length-n.toNat=0 by omega]
def inW (b:Bool) (a:List UInt8):Bool:=match a.getLast? with|none=>b|some d=>!qdT d
theorem qgD:∀(a:List UInt8) (b:Bool) (c:UInt8),qaZ b (a++[c])=qaZ b a+if qdT c then 0 else if inW b a then 0 else 1
 |[],b,c=>by cases hb:qdT c<;>cases b<;>simp [qaZ,inW,hb]
 |d::a,b,c=>by
  rw [List.cons_append,qaZ,qaZ];have hi:inW (!qdT d) a=inW b (d::a):=by
   cases a with
   |nil=>rfl
   |cons x y=>
    unfold inW;rw [List.getLast?_cons_cons];cases h:(x::y).getLast? with
    |none=>simp at h
    |some z=>rfl
  cases hd:qdT d
  ·rw [hd] at hi
   have hn:¬(false=true):=by simp
   rw [if_neg hn,if_neg hn,qgD a true c,← hi];simp only [Bool.not_false]
   omega
  ·rw [hd] at hi
   rw [if_pos rfl,if_pos rfl,qgD a false c,← hi];simp only [Bool.not_true]
theorem qqD (s:List UInt8) (k:Nat) (hk:k<s.length):qaZ false (s.take (k+1))=qaZ false (s.take k)+if qdT s[k] then 0 else if(if h:0<k then !qdT (s[k-1]'(by omega)) else false) then 0 else 1:=by
 rw [List.take_succ_eq_append_getElem hk,qgD]
 congr 3
 by_cases h:0<k
 ·rw [dif_pos h]
  unfold inW;obtain⟨j,rfl⟩:∃j,k=j+1:=⟨k-1,by omega⟩
  rw [List.take_succ_eq_append_getElem (by omega),List.getLast?_concat]
  rfl
 ·obtain rfl:k=0:=by omega
  rfl
theorem qmF:∀c:UInt8,decide (0≤Lib.indexByte [32,9,10,13] c)=qdT c:=all_u8 (by decide +kernel)
end Go.Proofs.YtpodopnmkjinhaaGreatDoor
namespace Go.Proofs.YtpodopnmkjinhaaGreatDoor
open Go.Lib (hid)
open Go.RowKit
theorem quR (s:ByteArray) (h:s.data.toList=[]):s=.empty:=by
 apply ByteArray.ext
 apply Array.toList_inj.1
 rw [h];rfl
theorem qxa:∃i0,prog.info? 9=some i0∧i0.zero=some (.string .empty)∧i0.size=1∧i0.bytes=16:=info_parts qhc
theorem qxd (s:ByteArray) (i:Nat):(⟨(s.data.toList.take i).toArray⟩:ByteArray)=s.extract 0 i:=by
 apply ByteArray.ext
 apply Array.toList_inj.1
 rw [ByteArray.data_extract,Array.toList_extract,List.extract_eq_take_drop];simp
theorem qsh (s:ByteArray) (i:Nat):(⟨(s.data.toList.drop i).toArray⟩:ByteArray)=s.extract i s.size:=by
 apply ByteArray.ext
 apply Array.toList_inj.1
 rw [ByteArray.data_extract,Array.toList_extract,List.extract_eq_take_drop,List.take_of_length_le (by rw [List.length_drop,qas];omega)]
theorem qmK (s:ByteArray) (w:World) (hs:s.size≤281474976710656):
  Calls prog 162 #[.string s,.string ⟨#[10]⟩] w fun e w'=>∃b n,e=.returned (.tuple #[.string ⟨(qbZ s.data.toList).toArray⟩,.string ⟨(qaX s.data.toList).toArray⟩,.bool b])∧w'=w.drewN n:=by
 have cI:=fun W=>Tryz.stringslite_Index_one s 10 W
 rcases qed s.data.toList with ⟨h1,h2,h3⟩|⟨i,h1,h2,h3,h4⟩
 ·rw [h1] at cI
  have e1:(⟨(qbZ s.data.toList).toArray⟩:ByteArray)=s:=by rw [h2]
  have e2:(⟨(qaX s.data.toList).toArray⟩:ByteArray)=⟨#[]⟩:=by rw [h3]
  rw [e1,e2];clear h1 h2 h3 e1 e2;go_enter func162,ntmps162;go_wp2_with (go_at_call 179;(with_reducible refine(cI _).mono ?_);rintro e w' ⟨rfl,rfl⟩)
  go_ret3;exact⟨_,0,rfl,rfl⟩
 ·rw [h1] at cI
  rw [qas] at h2;have e1:(⟨(qbZ s.data.toList).toArray⟩:ByteArray)=s.extract 0 i:=by rw [h3];exact qxd s i
  have e2:(⟨(qaX s.data.toList).toArray⟩:ByteArray)=s.extract (i+1) s.size:=by rw [h4];exact qsh s (i+1)
  rw [e1,e2];clear h1 h3 h4 e1 e2;go_enter func162,ntmps162;go_wp2_with (go_at_call 179;(with_reducible refine(cI _).mono ?_);rintro e w' ⟨rfl,rfl⟩)
  go_quiet (fail)
  go_wp2_with fail;go_ret3;exact⟨_,_,rfl,rfl⟩
theorem qri (s:ByteArray) (w:World) (hs:s.size≤281474976710656):
  Calls prog 99 #[.string s,.string ⟨#[10]⟩] w fun e w'=>∃b n,e=.returned (.tuple #[.string ⟨(qbZ s.data.toList).toArray⟩,.string ⟨(qaX s.data.toList).toArray⟩,.bool b])∧w'=w.drewN n:=by
 go_enter func99,ntmps99;go_wp2_with fail;refine(qmK s _ hs).mono ?_;rintro e w'⟨b,n,rfl,rfl⟩;go_wp2_with fail;go_ret3;exact⟨b,n,rfl,rfl⟩
def sizeOf' (v:Value):Nat:=match v with|.string b=>b.size|_=>0
theorem qk8 (g:Nat) (lb:Array Value) (eg:∀args w,(callFunc g args).run prog w=.ok (.enter g args) w) (I:List (List UInt8)→World→Prop) (s:ByteArray) (w:World) (hs:s.size≤1099511627776)
  (hd:∀ls W n,I ls W→I ls (W.drewN n)) (h0:I [] w)
  (hp:∀(ls:List (List UInt8)) (x:List UInt8) (W:World),ls.length<s.size→x.length≤s.size→I ls W→Calls prog g (#[encS x]++lb) W fun e W'=>e=.returned (.tuple #[])∧I (ls++[x]) W'):
  Calls prog 180 #[.string s,.func (.func g) #[] lb] w fun e w'=>e=.returned (.tuple #[])∧I (qav s.data.toList) w':=by
 obtain⟨M,hM⟩:=qQ (s.size)
 obtain⟨L,hL⟩:=qQ (qav s.data.toList)
 rw [hL];rw [hM] at hp;have HM:=hid hM;have HL:=hid hL;clear hL;go_enter func180,ntmps180;go_wp2_with fail;go_loopw [0] (fun v wr=>∃(t:ByteArray) (ls:List (List UInt8)),v=.string t∧Hid (L=ls++qav t.data.toList)∧ls.length+t.size≤M∧I ls wr) (fun v _=>sizeOf' v)
 case atStart=>exact⟨s,[],rfl,hid HL.out.symm,by have:=HM.out;simp;omega,h0⟩
 case round=>
  obtain⟨t,ls,rfl,HT,hsz,hI⟩:=hrel;clear h0;by_cases h0:t.data.toList=[]
  ·obtain rfl:=quR t h0
   have HF:Hid (L=ls):=hid (by rw [HT.out];show ls++qav []=ls;rw [qav,List.append_nil])
   clear hp hd h0;go_wp2_with fail;go_end0;exact⟨rfl,by rw [HF.out];exact hI⟩
  ·have hts:0<t.size:=by
    rw [← qas];exact List.length_pos_iff.2 h0
   have hlr:=qfk t.data.toList;rw [qas] at hlr;have HN:Hid (L=ls++[qbZ t.data.toList]++qav (qaX t.data.toList)):=hid (by rw [HT.out,qh7 _ h0];simp)
   have hlt2:(qaX t.data.toList).length<t.size:=by
    cases e:t.data.toList with
    |nil=>exact absurd e h0
    |cons c r=>have h:=qen c r;rw [← e,qas] at h;rw [← e];exact h
   have g1:¬t.toList=[]:=by rw [toList_data];exact h0
   have g2:t.toList.isEmpty=false:=by rw [toList_data];simpa using h0
   clear HT h0;go_wp2_with fail;refine(qri t _ (by have:=HM.out;omega)).mono ?_
   rintro e w'⟨b,n,rfl,rfl⟩;have cF:=hp ls (qbZ t.data.toList) _ (by omega) (by omega) (hd _ _ n hI)
   clear hp hI;go_wp2_with (go_at_fn g;refine cF.mono ?_;rintro e W' ⟨rfl,hI'⟩)
   go_roundw
   case rel=>exact⟨_,_,rfl,HN,by rw [List.length_append];show _+(qaX t.data.toList).length≤M;simp;omega,hI'⟩
   case measure=>show(qaX t.data.toList).length<t.size;exact hlt2
def qv6 (N B:Nat) (ls:List (List UInt8)) (w:World):Prop:=
 ∃v,w.heap[B]?=some (.cells #[v] 22 (0,0))∧w.ownsRow N 9 1 v ls.length (ls.map encS)∧v.ownBlock≠some B∧N≤B
theorem qm8 {N B n:Nat} {xs:List Value} {w:World} {v x:Value} (hB:w.heap[B]?=some (.cells #[x] 22 (0,0))) (ho:w.ownsRow N 9 1 v n xs):v.ownBlock≠some B:=by
 intro he
 rcases ho.2 with ⟨rfl,_⟩|⟨g,cap,cur,rfl,_,hh,_⟩
 ·simp [Value.ownBlock] at he
 ·simp only [Value.ownBlock,Option.some.injEq] at he
  subst he;rw [hB] at hh;simp at hh
theorem qv6.stored {N B:Nat} {l2:List (List UInt8)} {w w1:World} {v v':Value} (hbk:w.heap[B]?=some (.cells #[v] 22 (0,0))) (hne:v.ownBlock≠some B) (hNB:N≤B)
  (hg:w.grownBy w1 v.ownBlock) (ho:w1.ownsRow N 9 1 v' l2.length (l2.map encS)):qv6 N B l2 (w1.setCell ⟨B,0,none⟩ v'):=by
 have hb:w1.heap[B]?=some (.cells #[v] 22 (0,0)):=(hg.block B (lt_of_block hbk) (fun e=>hne e.symm)).trans hbk
 have hn:=qm8 hb ho;exact⟨v',one_setCell hb,ownsRow_setCell_other ho hn v',hn,hNB⟩
theorem qw7 (N B:Nat) (ls:List (List UInt8)) (x:List UInt8) (w:World) (h:qv6 N B ls w) (hl:ls.length≤1099511627776) (hx:x.length≤1099511627776) (hN:N≤w.heap.size):
  Calls prog 181 (#[encS x]++#[.pointer (some ⟨B,0,none⟩)]) w fun e w'=>e=.returned (.tuple #[])∧qv6 N B (ls++[x]) w'∧Below N w w':=by
 obtain⟨v,hbk,hown,hne,hNB⟩:=h;obtain⟨i0,hi,hz0,hz1,hz2⟩:=qxa;have c0:=cell_of_one hbk;have hlt:=lt_of_block hbk;have cC:=fun W=>qaU x (by omega) W
 go_enter func181,ntmps181;go_wp2_with fail;go_region_law (first
  |(go_simp;go_at_call 26;refine(cC _).mono ?_;rintro e w1 ⟨rfl,hb1⟩;have hown1:=own_below (w:=w.drew) hown hb1;have hbk1:=(hb1.block B hlt).trans hbk;have hlt1:=lt_of_block hbk1;have c1:=cell_of_one hbk1)
  |(refine step_append_lies _ (by rfl) _ _ _ (by rfl) N 9 i0 (.string .empty) 1 16 underlying22 hi hz0 hz1 hz2 rfl (by omega) v ls.length (ls.map encS) (by rfl) ((hown1.alloc _)) ⟨w1.heap.size,0,none⟩ 1 1 [encS x] (by rfl) (by rfl) (World.news_of_block (cs:=#[encS x]) (t:=9) (fr:=(0,0)) (heap_alloc_new w1 _)) (by simp [Value.oneCell']) (by omega) (by unfold maxLen;omega) (by omega) (by have:=hb1.size;simp at this;simp;omega) (w1.heap.size+1) (by simp) ?_;intro gg cap w3 hown3 hg hat hlt3;have hbk3:=(hg.block B (by simp;omega) (fun e=>hne e.symm)).trans ((Below.heap_alloc w1 _ B hlt1).trans hbk1);have c3:=cell_of_one hbk3;have f3:=free_of_one hbk3))
 all_goals
  have hownx:w3.ownsRow N 9 1 (.slice (some ⟨gg,0,none⟩) (ls.length+1) cap) (ls++[x]).length ((ls++[x]).map encS):=by simpa using hown3
  have hbka:(w1.alloc (.cells #[encS x] 9)).heap[B]?=some (.cells #[v] 22 (0,0)):=(Below.heap_alloc w1 _ B hlt1).trans hbk1
  have HO:=hid (qv6.stored hbka hne hNB hg hownx)
  have hB1:Below N w w1:=((Below.refl N w).drew).trans (hb1.mono hN)
  have HB:Hid (Below N w (w3.setCell ⟨B,0,none⟩ (.slice (some ⟨gg,0,none⟩) (ls.length+1) cap))):=hid (((hB1.alloc (by have:=hB1.size;omega) _).grown hg (by have:=hB1.size;simp;omega) (fun k hk=>(hown.lt k hk).1)).setCell hNB _)
  clear hownx hbka hown3 hg hown hbk hbk1 hbk3 c1 c3 f3 hat;go_wp2_with fail;go_end0;exact⟨rfl,HO.out,HB.out⟩
def LI (N:Nat) (w:World) (ls:List (List UInt8)) (W:World):Prop:=qv6 N N ls W∧Below N w W
theorem qeH (s:ByteArray) (w:World) (hs:s.size≤1099511627776):
  Calls prog 119 #[.string s] w fun e w'=>∃A cap,e=.returned (.slice A (qav s.data.toList).length cap)∧w'.ownsRow w.heap.size 9 1 (.slice A (qav s.data.toList).length cap) (qav s.data.toList).length ((qav s.data.toList).map encS)∧Below w.heap.size w w':=by
 have cE:∀W,Below w.heap.size w W→qv6 w.heap.size w.heap.size [] W→Calls prog 180 #[.string s,.func (.func 181) #[] #[.pointer (some ⟨w.heap.size,0,none⟩)]] W fun e w'=>e=.returned (.tuple #[])∧LI w.heap.size w (qav s.data.toList) w':=fun W hB hO=>
  qk8 181 #[.pointer (some ⟨w.heap.size,0,none⟩)] (enters_of func181 (by kernel_rfl) rfl) (LI w.heap.size w) s W hs
   (fun ls W n h=>⟨h.1,below_drewN h.2 n⟩) ⟨hO,hB⟩ (fun ls x W h1 h2 h=>(qw7 w.heap.size w.heap.size ls x W h.1 (by omega) (by omega) h.2.size).mono fun e W' ⟨he,hO',hB'⟩=>⟨he,hO',h.2.trans hB'⟩)
 have hO0:qv6 w.heap.size w.heap.size [] (w.alloc (.cells #[.slice none 0 0] 22)):=
  ⟨.slice none 0 0,heap_alloc_new w _,World.ownsRow_nil _ _ _ _,by simp [Value.ownBlock],Nat.le_refl _⟩
 go_enter func119,ntmps119;go_wp2_with fail;refine(cE _ ((Below.refl _ _).alloc (Nat.le_refl _) _) hO0).mono ?_
 rintro e w1⟨rfl,hO,hB⟩;obtain⟨v,hbk,hown,hne,-⟩:=hO;have c0:=cell_of_one hbk;obtain⟨A,cap,rfl⟩:∃A cap,v=.slice A (qav s.data.toList).length cap:=by
  rcases hown.2 with ⟨hv,h0⟩|⟨g,cap,cur,hv,_⟩
  ·exact⟨none,0,by rw [hv,h0]⟩
  ·exact⟨_,cap,hv⟩
 have HO:=hid hown;clear hown hbk hO0 cE hne;go_wp2_with fail;go_ret;exact⟨A,cap,rfl,HO.out,hB⟩
theorem qic (l:List UInt8):(⟨l.toArray⟩:ByteArray).size=l.length:=by simp [ByteArray.size]
theorem quI (s:List UInt8) (n:Int) (w:World) (hs:s.length≤140737488355328) (n0:-9223372036854775808≤n) (n1:n≤9223372036854775807):
  Calls prog 64 #[encS s,.int .i64 n] w fun e w'=>e=.returned (encS (qiU s n))∧Below w.heap.size w w':=by
 obtain⟨r0,hR⟩:∃r,qiU s n=r:=⟨_,rfl⟩
 rw [hR];have HR:=hid hR;clear hR;go_enter func64,ntmps64;go_wp2_with fail;go_loopw [1,5] (fun vn v wr=>∃(k q:Nat) (l:List UInt8) (m:Int),v=encS l∧vn=.int .i64 m∧m=n-k∧k≤n.toNat∧Hid (qaB l=(qaB s).drop k)∧l.length≤s.length∧Hid (wr=w.drewN q)) (fun vn _ _=>(intOf vn).toNat)
 case atStart=>exact⟨0,0,s,n,rfl,rfl,by omega,Nat.zero_le _,hid rfl,Nat.le_refl _,hid rfl⟩
 case round=>
  obtain⟨k,q,l,m,rfl,rfl,hm,hk,HL,hl,HW⟩:=hrel;by_cases h0:0<m
  ·by_cases hl0:l=[]
   ·have HE:=hid ((qoa HL.out hk (.inr hl0)).trans HR.out)
    subst hl0;have cC:=fun W=>qaU r0 (by rw [← HE.out,List.length_take];omega) W
    have hsl:(⟨s.toArray⟩:ByteArray).extract 0 s.length=⟨r0.toArray⟩:=by rw [← HE.out];apply ByteArray.ext;simp
    clear HL HE;go_wp2_with fail;refine(cC _).mono ?_;rintro e w1⟨rfl,hb⟩;go_wp2_with fail;go_ret;rw [HW.out] at hb;exact⟨rfl,(below_drewN (Below.refl _ _) q).trans hb⟩
   ·have hlne:(l==[])=false:=by simpa using hl0
    have HN:=hid (qrY HL.out hl0)
    have hr:(qaX l).length≤l.length:=by
     have:=qfk l
     omega
    have cC:=fun W=>qri ⟨l.toArray⟩ W (by rw [qic];omega)
    generalize qaX l=r at *;generalize qbZ l=r1 at *;clear HL;go_wp2_with fail;refine(cC _).mono ?_;rintro e w1⟨b,j,rfl,rfl⟩;go_wp2_with fail;go_roundw
    case rel=>exact⟨k+1,q+j,r,n-(k+1),rfl,by go_num,by omega,by omega,HN,by omega,hid (by rw [HW.out];simp)⟩
    case measure=>simp [intOf];omega
  ·have HE:=hid ((qoa HL.out hk (.inl (by omega))).trans HR.out)
   have hkz:s.length-l.length≤s.length:=by omega
   have cC:=fun W=>qaU r0 (by rw [← HE.out,List.length_take];omega) W
   obtain⟨z,hz⟩:∃z:Nat,s.length-l.length=z:=⟨_,rfl⟩
   have hzi:(s.length:Int)-(l.length:Int)=z:=by omega
   have hsl:(⟨s.toArray⟩:ByteArray).extract 0 z=⟨r0.toArray⟩:=by rw [← HE.out,hz];apply ByteArray.ext;simp
   clear HL HE;go_wp2_with fail;refine(cC _).mono ?_;rintro e w1⟨rfl,hb⟩;go_wp2_with fail;go_ret;rw [HW.out] at hb;exact⟨rfl,(below_drewN (Below.refl _ _) q).trans hb⟩
theorem qvO (s:List UInt8) (n:Int) (w:World) (hs:s.length≤140737488355328) (n0:-9223372036854775808≤n) (n1:n≤9223372036854775807):
  Calls prog 66 #[encS s,.int .i64 n] w fun e w'=>e=.returned (encS (qeY s n))∧Below w.heap.size w w':=by
 obtain⟨r0,hR⟩:∃r,qeY s n=r:=⟨_,rfl⟩
 rw [hR];have HR:=hid hR;clear hR;have hslice:∀z,(⟨s.toArray⟩:ByteArray).extract z s.length=⟨(s.drop z).toArray⟩:=fun z=>by have h:=qsh ⟨s.toArray⟩ z;rw [qic] at h;exact h.symm
 have hhead:∀z,(⟨s.toArray⟩:ByteArray).extract 0 z=⟨(s.take z).toArray⟩:=fun z=>by apply ByteArray.ext;simp
 go_enter func66,ntmps66;go_wp2_with fail;go_loopw [1,5] (fun vn v wr=>∃(k p q:Nat) (m:Int),v=.int .i64 p∧vn=.int .i64 m∧m=n-k∧k≤n.toNat∧p≤s.length∧Hid (qaB (s.take p)=(qaB s).take ((qaB s).length-k))∧Hid (wr=w.drewN q)) (fun vn _ _=>(intOf vn).toNat)
 case atStart=>exact⟨0,s.length,0,n,rfl,rfl,by omega,Nat.zero_le _,Nat.le_refl _,hid (by rw [List.take_length,Nat.sub_zero,List.take_length]),hid rfl⟩
 case round=>
  obtain⟨k,p,q,m,rfl,rfl,hm,hk,hp,HL,HW⟩:=hrel;by_cases h0:0<m∧0<p
  ·obtain⟨h0,hp0⟩:=h0
   have hi:(p:Int)-1=((p-1:Nat):Int):=by omega
   obtain⟨j,hj⟩:=qQ (p-1)
   rw [hj] at hi;have hsl:=hhead j;have cI:=fun W=>Tryz.strings_LastIndexByte ⟨(s.take j).toArray⟩ 10 (by rw [qic,List.length_take];omega) W
   obtain⟨i,hia,hib,HN⟩:∃i:Nat,Lib.lastIndexByte ⟨(s.take j).toArray⟩ 10=(i:Int)-1∧i≤j∧Hid (qaB (s.take i)=(qaB s).take ((qaB s).length-(k+1))):=by
    have hat:∀x (h:x<j),((⟨(s.take j).toArray⟩:ByteArray).data[x]!).toNat=(s[x]'(by omega)).toNat:=fun x h=>by
     have hx:x<(s.take j).length:=by rw [List.length_take];omega
     simp [List.getElem?_take_of_lt h,List.getElem?_eq_getElem (show x<s.length by omega)]
    have hlj:(⟨(s.take j).toArray⟩:ByteArray).size=j:=by rw [qic,List.length_take];omega
    rcases Lib.lastIndexByte_spec ⟨(s.take j).toArray⟩ 10 with ⟨e,hn⟩|⟨x,hx,e,hc,hn⟩
    ·rw [hlj] at hn
     refine⟨0,by rw [e];omega,Nat.zero_le _,hid (qlt HL.out ?_)⟩
     have:=qlu (s.take p) j 0 (by rw [List.length_take];omega) (Nat.zero_le _) (.inl rfl) fun y hy _ h2 e=>by
      rw [List.getElem_take] at e;refine hn y h2 ?_
      rw [hat y h2,e];rfl
     simpa using this
    ·rw [hlj] at hx hn
     refine⟨x+1,by rw [e];omega,by omega,hid (qlt HL.out ?_)⟩
     have h10:s[x]'(by omega)=10:=by
      rw [hat x hx] at hc;exact UInt8.toNat_inj.1 (show(s[x]'(by omega)).toNat=10 by omega)
     have:=qlu (s.take p) j (x+1) (by rw [List.length_take];omega) (by omega) (.inr (by
      rw [List.take_take,Nat.min_eq_left (by omega),List.take_succ_eq_append_getElem (by omega),List.getLast?_concat,h10])) fun y hy h1 h2 e=>by
      rw [List.getElem_take] at e;refine hn y (by omega) h2 ?_
      rw [hat y h2,e];rfl
     rw [List.take_take,Nat.min_eq_left (by omega)] at this;exact this
   rw [hia] at cI;have hii:(i:Int)-1+1=(i:Int):=by omega
   clear HL hhead hslice;go_wp2_with fail;refine(cI _).mono ?_;rintro e w1⟨rfl,rfl⟩;go_wp2_with fail;go_roundw
   case rel=>exact⟨k+1,i,q,n-(k+1),by go_num,by go_num,by omega,by omega,by omega,HN,HW⟩
   case measure=>simp [intOf];omega
  ·have HE:=hid ((quP HL.out hp hk (by omega)).trans HR.out)
   have cC:=fun W=>qaU r0 (by rw [← HE.out,List.length_drop];omega) W
   have hsl:=hslice p;rw [HE.out] at hsl;clear HL HE hhead hslice;have hcase:(0<m∧¬0<p)∨¬0<m:=by omega
   rcases hcase with ⟨h1,h2⟩|h1
   ·obtain rfl:p=0:=by omega
    go_wp2_with fail;refine(cC _).mono ?_;rintro e w1⟨rfl,hb⟩;go_wp2_with fail;go_ret;rw [HW.out] at hb;exact⟨rfl,(below_drewN (Below.refl _ _) q).trans hb⟩
   ·go_wp2_with fail
    refine(cC _).mono ?_;rintro e w1⟨rfl,hb⟩;go_wp2_with fail;go_ret;rw [HW.out] at hb;exact⟨rfl,(below_drewN (Below.refl _ _) q).trans hb⟩
theorem qqE (B:Nat) (s:List UInt8) (i:Nat) (w:World) (hi:i<s.length) (hc:w.cell? ⟨B,0,none⟩=some (encS s)):
  Calls prog 177 (#[.int .i64 i]++#[.pointer (some ⟨B,0,none⟩)]) w fun e w'=>e=.returned (.bool (qdT s[i]))∧w'=w:=by
 have hb:=qmF s[i]
 obtain⟨z,hz⟩:=qQ (Lib.indexByte [32,9,10,13] s[i])
 have cI2:∀W,Calls prog 46 #[.string ⟨#[32,9,10,13]⟩,.int .u8 (s[i].toNat:Int)] W fun e w'=>e=.returned (.int .i64 z)∧w'=W:=fun W=>by
  have:=Tryz.strings_IndexByte ⟨#[32,9,10,13]⟩ (s[i].toNat:Int) W
  rw [show((s[i].toNat:Int).toNat.toUInt8)=s[i] by simp,show(⟨#[32,9,10,13]⟩:ByteArray).data.toList=[32,9,10,13] from rfl,hz] at this;exact this
 rw [hz] at hb;have HB:=hid hb;clear hb hz;go_enter func177,ntmps177;go_wp2_with fail;refine(cI2 _).mono ?_;rintro e w1⟨rfl,rfl⟩;go_wp2_with fail;go_ret;exact⟨by rw [← HB.out];rfl,rfl⟩
theorem qf5:∀(l:List UInt8) (b:Bool),qaZ b l≤l.length
 |[],_=>by simp [qaZ]
 |c::r,b=>by
  rw [qaZ];split
  ·have:=qf5 r false;simp;omega
  ·have:=qf5 r true;cases b<;>simp<;>omega
theorem qre (s:List UInt8) (w:World) (hs:s.length≤281474976710656):
  Calls prog 116 #[encS s] w fun e w'=>e=.returned (.tuple #[.int .i64 (qgx s),.int .i64 (qaZ false s),.int .i64 s.length])∧Below w.heap.size w w':=by
 obtain⟨N,hN⟩:=qQ (w.heap.size)
 have HN:=hid hN;have hbx:Hid ((w.alloc (.cells #[encS s] 9)).heap[N]?=some (.cells #[encS s] 9 (0,0))∧Below N w (w.alloc (.cells #[encS s] 9))):=hid ⟨by rw [← hN];exact heap_alloc_new w _,by rw [← hN];exact(Below.refl _ _).alloc (Nat.le_refl _) _⟩
 have cC:=fun W=>Tryz.strings_Count_one ⟨s.toArray⟩ 10 W
 rw [show Lib.countByte (⟨s.toArray⟩:ByteArray).data.toList 10=qgx s from rfl] at cC;generalize qgx s=ts at *;obtain⟨nt,hnt⟩:∃x,qaZ false s=x:=⟨_,rfl⟩
 rw [hnt];have HT:=hid hnt;clear hnt;have cP:=fun i (h:i<s.length) W hc=>qqE N s i W h hc
 go_enter func116,ntmps116;go_wp2_with fail;go_loopw [6,11] (fun vc vi wr=>∃(k q:Nat),k≤s.length∧vi=.int .i64 k∧vc=.int .i64 (qaZ false (s.take k):Nat)∧Hid (wr=(w.alloc (.cells #[encS s] 9)).drewN q)) (fun _ vi _=>s.length-(intOf vi).toNat)
 case atStart=>exact⟨0,0,Nat.zero_le _,rfl,rfl,hid rfl⟩
 case round=>
  obtain⟨k,q,hk,rfl,rfl,HW⟩:=hrel;have hbk:wr.heap[N]?=some (.cells #[encS s] 9 (0,0)):=by rw [HW.out];exact hbx.out.1
  have c0:wr.cell? ⟨N,0,none⟩=some (encS s):=cell_of_one hbk
  have hbl:Hid (Below N w wr):=hid (by rw [HW.out];exact below_drewN hbx.out.2 q)
  have hw1:=qf5 (s.take k) false
  rw [List.length_take] at hw1;by_cases hlt:k<s.length
  ·have hst:=qqD s k hlt
   have cA:=cP k hlt;obtain⟨a,ha⟩:=qQ (qdT s[k])
   rw [ha] at hst cA;cases a with
   |true=>
    have HS:Hid (qaZ false (s.take (k+1))=qaZ false (s.take k)):=hid (by rw [hst,if_pos rfl];omega)
    clear hst cP;generalize qaZ false (s.take k)=nw at *;go_wp2_with fail;refine(cA _ c0).mono ?_;rintro e w1⟨rfl,rfl⟩;go_wp2_with fail;go_roundw
    case rel=>exact⟨k+1,q,by omega,by go_num,by rw [HS.out],HW⟩
    case measure=>simp [intOf];omega
   |false=>
    by_cases hk0:0<k
    ·have cB:=cP (k-1) (by omega)
     have hki:((k:Int)-1)=((k-1:Nat):Int):=by omega
     rw [dif_pos hk0] at hst;obtain⟨b,hb⟩:=qQ (qdT (s[k-1]'(by omega)))
     rw [hb] at hst cB;obtain⟨j,hj⟩:=qQ (k-1)
     rw [hj] at cB hki;cases b with
     |true=>
      have HS:Hid (qaZ false (s.take (k+1))=qaZ false (s.take k)+1):=hid (by rw [hst];simp)
      clear hst cP;generalize qaZ false (s.take k)=nw at *;have hk1:((k:Int)==0)=false:=by simp;omega
      go_wp2_with fail;refine(cA _ c0).mono ?_;rintro e w1⟨rfl,rfl⟩;go_wp2_with fail;refine(cB _ c0).mono ?_;rintro e w1⟨rfl,rfl⟩;go_wp2_with fail;go_roundw
      case rel=>exact⟨k+1,q,by omega,by go_num,by rw [HS.out];go_num,HW⟩
      case measure=>simp [intOf];omega
     |false=>
      have HS:Hid (qaZ false (s.take (k+1))=qaZ false (s.take k)):=hid (by rw [hst];simp)
      clear hst cP;generalize qaZ false (s.take k)=nw at *;have hk1:((k:Int)==0)=false:=by simp;omega
      go_wp2_with fail;refine(cA _ c0).mono ?_;rintro e w1⟨rfl,rfl⟩;go_wp2_with fail;refine(cB _ c0).mono ?_;rintro e w1⟨rfl,rfl⟩;go_wp2_with fail;go_roundw
      case rel=>exact⟨k+1,q,by omega,by go_num,by rw [HS.out],HW⟩
      case measure=>simp [intOf];omega
    ·obtain rfl:k=0:=by omega
     have HS:Hid (qaZ false (s.take (0+1))=qaZ false (s.take 0)+1):=hid (by rw [hst];simp)
     clear hst cP;generalize qaZ false (s.take 0)=nw at *;go_wp2_with fail;refine(cA _ c0).mono ?_;rintro e w1⟨rfl,rfl⟩;go_wp2_with fail;go_roundw
     case rel=>exact⟨1,q,by omega,by go_num,by rw [show(1:Nat)=0+1 from rfl,HS.out];go_num,HW⟩
     case measure=>simp [intOf];omega
  ·obtain rfl:k=s.length:=by omega
   rw [List.take_length,HT.out] at hw1 ⊢;clear cP;go_wp2_with fail;go_quiet ((go_at_call 178;exact Calls.quiet_of_same (cC _)))
   go_wp2_with fail;go_ret3;exact⟨rfl,by rw [HN.out];exact below_drewN hbl.out _⟩
end Go.Proofs.YtpodopnmkjinhaaGreatDoor
