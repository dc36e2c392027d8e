/- What the statement of May12Said leans on, part 7. Conditions: each theorem's own. -/
import Derived.Test.YtpodopnmkjinhaaGreatDoorKMF
set_option linter.unusedSimpArgs false
set_option maxRecDepth 100000
set_option maxHeartbeats 8000000
open Go.Proofs.Tryz
open List renaming setIfInBounds_toArray → sIA, set_cons_zero → sC0, set_cons_succ → sCS
namespace Go.Proofs.YtpodopnmkjinhaaGreatDoor
open Go.Lib (hid)
open Go.RowKit
theorem qw3:(prog.info? 124).map (fun i=>(i.zero,i.size,i.bytes))=some (some (.agg #[.int .i64 0,.bool false,.bool false,.string .empty,.int .u8 0]),5,40):=by kernel_rfl
def qeT (B b:Nat) (f:List UInt8) (k:Nat) (t acc:List UInt8) (cvs:List Cv) (w':World):Prop:=
 if(qaA t).letter=0 then ∃k',k'≤f.length∧qb5 B b f k' acc cvs true w'
 else if(qaA t).letter=37 then qb5 B b f (k+(qaA t).size-1) (acc++[37]) cvs false w'
 else qb5 B b f (k+(qaA t).size-1) [] (cvs++[⟨qaA t,acc⟩]) false w'
theorem qyH:∀c:UInt8,decide (0≤Lib.indexByte [100,120,111] c)=qkn c:=Ans.all_u8 (by decide +kernel)
theorem cells3 {b c d:Addr} {y z u:Value} {w:World} (h2:w.cell? b=some y) (h3:w.cell? c=some z) (h4:w.cell? d=some u):Cells [(b,y),(c,z),(d,u)] w:=fun q hq=>by
 rcases List.mem_cons.1 hq with rfl|hq
 ·exact h2
 rcases List.mem_cons.1 hq with rfl|hq
 ·exact h3
 rcases List.mem_cons.1 hq with rfl|hq
 ·exact h4
 ·cases hq
theorem qdr {b N o:Nat} {x y z:Value} {w:World} (h:Cells [(⟨N,0,none⟩,x),(⟨N,1,none⟩,y),(⟨N,2,none⟩,z)] w) (hne:N≠b) (v:Value):Cells [(⟨N,0,none⟩,x),(⟨N,1,none⟩,y),(⟨N,2,none⟩,z)] (w.setCell ⟨b,o,none⟩ v):=fun q hq=>
 (World.cell?_setCell_other w ⟨b,o,none⟩ q.1 v fun e=>hne (by
  have:q.1.block=N:=by
   rcases List.mem_cons.1 hq with rfl|hq
   ·rfl
   rcases List.mem_cons.1 hq with rfl|hq
   ·rfl
   rcases List.mem_cons.1 hq with rfl|hq
   ·rfl
   ·cases hq
  rw [← this,← e])).trans (h q hq)
theorem qca {N:Nat} {x y z:Value} {w w':World} {row:Option Nat} (h:Cells [(⟨N,0,none⟩,x),(⟨N,1,none⟩,y),(⟨N,2,none⟩,z)] w) (hg:w.grownBy w' row) (hne:some N≠row):Cells [(⟨N,0,none⟩,x),(⟨N,1,none⟩,y),(⟨N,2,none⟩,z)] w':=fun q hq=>
 hg.cell (h q hq) (by
  have:q.1.block=N:=by
   rcases List.mem_cons.1 hq with rfl|hq
   ·rfl
   rcases List.mem_cons.1 hq with rfl|hq
   ·rfl
   rcases List.mem_cons.1 hq with rfl|hq
   ·rfl
   ·cases hq
  rw [this];exact hne)
theorem qeG:122≠124:=by decide
theorem qhg:122≠5:=by decide
theorem qb5.added {B b k:Nat} {f:List UInt8} {cvs:List Cv} {cn:Cv} {p v cv cv':Value} {w3 w4:World} (hb3:w3.heap[b]?=some (.cells (plC f k p v cv false) 119 (0,0)))
  (hown:w3.ownsRow B 124 5 cv' (cvs++[cn]).length (qeW (cvs++[cn]))) (hBw:B≤w3.heap.size)
  (hR:Bld 119 B b 2 ((((plC f k p v cv false).setIfInBounds 4 cv').setIfInBounds 2 (.pointer none)).setIfInBounds (2+1) (.slice none 0 0)) [] w4) (ho:Bears B b (w3.setCell ⟨b,4,none⟩ cv') w4):
  qb5 B b f k [] (cvs++[cn]) false w4:=by
 have hne:=qao hown hb3 qbu;have h1:(w3.setCell ⟨b,4,none⟩ cv').ownsRow B 124 5 cv' (cvs++[cn]).length (qeW (cvs++[cn])):=
  hown.kept (row:=some b) ⟨rfl,rfl,rfl,by simp,fun g _ hg=>Below.heap_setCell _ _ _ _ (fun e=>hg (by rw [e]))⟩ (.inr hne)
 refine⟨.pointer none,.slice none 0 0,cv',?_,ho.row h1 qbL hne,Nat.le_trans hBw (by have:=ho.size;simpa using this)⟩
 have e:((((plC f k p v cv false).setIfInBounds 4 cv').setIfInBounds 2 (.pointer none)).setIfInBounds (2+1) (.slice none 0 0))=plC f k (.pointer none) (.slice none 0 0) cv' false:=by simp [plC]
 rwa [e] at hR
theorem qnd (B b k:Nat) (f t acc:List UInt8) (cvs:List Cv) (w:World) (h:qb5 B b f k acc cvs false w) (hd:f.drop k=t) (hk:k≤f.length) (hs:f.length≤140737488351232) (ha:acc.length≤140737488351232) (hc:cvs.length≤1099511627776):
  Calls prog 106 #[.pointer (some ⟨b,0,none⟩)] w fun e w'=>e=.returned (.tuple #[])∧qeT B b f k t acc cvs w'∧Below B w w':=by
 have c1:=h.run [37] 1 hk hs
 rw [hd] at c1;by_cases h37:∃r,t=37::r
 ·obtain⟨r,rfl⟩:=h37
  have hr:qcB [37] 1 (37::r)=[37]:=by
   rcases qgs [37] (37::r) with ⟨-,h2⟩|⟨c,r',h1,-,h3⟩
   ·exact absurd (h2 37 r rfl) (by decide)
   ·rw [h3,(List.cons.inj h1).1]
  have hsp:qaA (37::r)=⟨37,false,false,0,2⟩:=rfl
  rw [hr] at c1;have HP:Hid (∀w',qb5 B b f (k+1) (acc++[37]) cvs false w'→qeT B b f k (37::r) acc cvs w'):=hid fun w' h'=>by
   unfold qeT;rw [hsp,if_neg (by decide),if_pos rfl];exact h'
  clear hd hr hsp h;go_enter func106,ntmps106;go_wp2_with fail;refine c1.mono ?_;rintro e w1⟨rfl,h1,hb1⟩;have cB:=h1.byte 37 ha;have HB:=hid hb1;clear h1 hb1 c1;go_wp2_with fail;refine cB.mono ?_;rintro e w2⟨rfl,h2,hb2⟩;have HF:=hid (And.intro h2 (HB.out.trans hb2))
  clear h2 hb2 cB HB;go_wp2_with fail;refine bodyPost_ret (results_none rfl _ _ _) rfl ?_
  exact⟨rfl,HP.out _ HF.out.1,HF.out.2⟩
 ·have hr:qcB [37] 1 t=[]:=by
   rcases qgs [37] t with ⟨h1,-⟩|⟨c,r',h1,h2,-⟩
   ·exact h1
   ·have:c=37:=by
     have:=Ans.all_u8 (p:=fun c=>inB [37] c=true→c=37) (by decide +kernel) c
     exact this h2
    exact absurd ⟨r',by rw [h1,this]⟩ h37
  rw [hr] at c1;have hsr:=qtj t (fun r e=>h37 ⟨r,e⟩) (qcB fl2 1 t) (t.drop (qcB fl2 1 t).length) (qcC (t.drop (qcB fl2 1 t).length)) (qcB lt6 1 ((t.drop (qcB fl2 1 t).length).drop (qcC (t.drop (qcB fl2 1 t).length)).length)) rfl rfl rfl rfl
  have hgl:=qku fl2 1 t;have hwl:=qiK (t.drop (qcB fl2 1 t).length)
  have hll:=qku lt6 1 ((t.drop (qcB fl2 1 t).length).drop (qcC (t.drop (qcB fl2 1 t).length)).length)
  have hwa:=qmt (t.drop (qcB fl2 1 t).length)
  have htl:t.length=f.length-k:=by rw [← hd,List.length_drop]
  obtain⟨g,hg⟩:=qQ (qcB fl2 1 t)
  rw [hg] at hsr hgl hwl hll hwa;obtain⟨u,hu⟩:=qQ (t.drop g.length)
  rw [hu] at hsr hwl hll hwa;obtain⟨d,hdd⟩:=qQ (qcC u)
  rw [hdd] at hsr hwl hll hwa;obtain⟨lt,hlt⟩:=qQ (qcB lt6 1 (u.drop d.length))
  rw [hlt] at hsr hll;have hul:u.length=t.length-g.length:=by rw [← hu,List.length_drop]
  rw [List.length_drop] at hll;have e2:f.drop (k+g.length)=u:=by rw [← hu,← hd,List.drop_drop]
  have e3:f.drop (k+g.length+d.length)=u.drop d.length:=by rw [← e2,List.drop_drop]
  have hpw:=qnc d hwa hwl.1;have hdn:=qgc d hwa hwl.1;have cP:=fun W=>qb0 d W (by omega)
  rw [hpw] at cP;obtain⟨q,hq⟩:=qQ ((qah d).2)
  rw [hq] at cP;obtain⟨m,hm⟩:=qQ (qnZ d)
  rw [hm] at cP hdn hsr;have HD:=hid hd;have HG:=hid hg;have HE2:=hid e2;have HE3:=hid e3;have HDD:=hid (show qcB qya 3 u=d by rw [qyT,hdd])
  have HLT:=hid hlt;have hsz1:k+g.length≤f.length:=by omega
  have hsz2:k+g.length+d.length≤f.length:=by omega
  have hsz3:k+g.length+d.length+lt.length≤f.length:=by omega
  clear hd hg hu hdd hlt hul e2 e3 hpw hwa hq hm hr hgl hwl hll htl h37 h;rcases hsr with ⟨rfl,hl0⟩|⟨c,rfl,hlc,hsp⟩
  ·have HP:Hid (∀w' k',k'≤f.length→qb5 B b f k' acc cvs true w'→qeT B b f k t acc cvs w'):=hid fun w' k' hk' h'=>by
    unfold qeT;rw [if_pos hl0];exact⟨k',hk',h'⟩
   clear hl0;go_enter func106,ntmps106;go_wp2_with fail;refine c1.mono ?_;rintro e w1⟨rfl,h1,hb1⟩;have h1':qb5 B b f k acc cvs false w1:=h1
   have c2:=h1'.run fl2 1 hk hs;rw [HD.out,HG.out] at c2;have HB1:=hid hb1;clear h1 h1' hb1 c1;go_wp2_with fail;refine c2.mono ?_;rintro e w2⟨rfl,h2,hb2⟩;have c3:=h2.run qya 3 hsz1 hs;rw [HE2.out,HDD.out] at c3;have HB2:=hid (HB1.out.trans hb2)
   clear h2 hb2 c2 HB1;go_wp2_with fail;refine c3.mono ?_;rintro e w3⟨rfl,h3,hb3⟩;have HB3:=hid (HB2.out.trans hb3)
   have H3:=hid h3;clear h3 hb3 c3 HB2;go_wp2_with fail;refine(cP _).mono ?_;rintro e w4⟨rfl,hb4⟩;have h4:=H3.out.below hb4;have HB4:=hid (HB3.out.trans (hb4.mono (by obtain⟨_,_,_,_,_,h⟩:=H3.out;exact h)))
   have c5:=h4.run lt6 1 hsz2 hs;rw [HE3.out,HLT.out] at c5;clear h4 hb4 H3 HB3 cP;go_wp2_with fail;refine c5.mono ?_;rintro e w5⟨rfl,h5,hb5⟩;have x6:=h5.c6;have f6:=h5.free 6;have hf:=h5.fault;have HF:=hid (And.intro hf.1 ((HB4.out.trans hb5).trans hf.2))
   clear h5 hb5 hf c5 HB4;go_wp2_with fail;refine bodyPost_ret (results_none rfl _ _ _) rfl ?_
   exact⟨rfl,HP.out _ _ hsz3 HF.out.1,HF.out.2⟩
  ·have hln:(qaA t).letter≠0∧(qaA t).letter≠37:=by
    rw [hsp];have:=Ans.all_u8 (p:=fun c=>qbz c=true→c≠0∧c≠37) (by decide +kernel) c
    exact this hlc
   obtain⟨z,hz⟩:=qQ (((g==[48])&&qkn c))
   obtain⟨l45,h45⟩:=qQ ((g==[45]))
   have HCV:Hid (Cv.cells ⟨qaA t,acc⟩=[.int .i64 m,.bool l45,.bool z,encS acc,.int .u8 c.toNat]):=hid (by
    unfold Cv.cells;rw [hsp,← hz,← h45])
   have HP:Hid (∀w',qb5 B b f (k+g.length+d.length+1) [] (cvs++[⟨qaA t,acc⟩]) false w'→qeT B b f k t acc cvs w'):=hid fun w' h'=>by
    unfold qeT;rw [if_neg hln.1,if_neg hln.2];have e:k+(qaA t).size-1=k+g.length+d.length+1:=by rw [hsp];simp only;omega
    rw [e];exact h'
   obtain⟨i0,hi,hz0,hz1,hz2⟩:=info_parts qw3;have cK:=fun W=>Tryz.strings_Contains_one ⟨#[100,120,111]⟩ c W
   rw [show(⟨#[100,120,111]⟩:ByteArray).data.toList=[100,120,111] from rfl,qyH] at cK;obtain⟨nb,hnb⟩:=qQ (qkn c)
   rw [hnb] at cK hz;generalize (⟨qaA t,acc⟩:Cv)=CN at *;have hgc:∀h,(⟨#[c]⟩:ByteArray)[0]'h=c:=fun _=>rfl
   have hz':((g==[48])=true∧Hid (nb=z))∨((g==[48])=false∧Hid (false=z)):=by
    cases h48:(g==[48])
    ·exact .inr ⟨rfl,hid (by rw [← hz,h48];rfl)⟩
    ·exact .inl ⟨rfl,hid (by rw [← hz,h48];rfl)⟩
   clear hln hsp hlc hnb hz;go_enter func106,ntmps106;go_wp2_with fail;refine c1.mono ?_;rintro e w1⟨rfl,h1,hb1⟩;have h1':qb5 B b f k acc cvs false w1:=h1
   have c2:=h1'.run fl2 1 hk hs;rw [HD.out,HG.out] at c2;have HB1:=hid hb1;clear h1 h1' hb1 c1;go_wp2_with fail;refine c2.mono ?_;rintro e w2⟨rfl,h2,hb2⟩;have c3:=h2.run qya 3 hsz1 hs;rw [HE2.out,HDD.out] at c3;have HB2:=hid (HB1.out.trans hb2)
   clear h2 hb2 c2 HB1;go_wp2_with fail;refine c3.mono ?_;rintro e w3⟨rfl,h3,hb3⟩;have HB3:=hid (HB2.out.trans hb3)
   have H3:=hid h3;clear h3 hb3 c3 HB2;go_wp2_with fail;refine(cP _).mono ?_;rintro e w4⟨rfl,hb4⟩;have h4:=H3.out.below hb4;have HB4:=hid (HB3.out.trans (hb4.mono (by obtain⟨_,_,_,_,_,h⟩:=H3.out;exact h)))
   have c5:=h4.run lt6 1 hsz2 hs;rw [HE3.out,HLT.out] at c5;clear h4 hb4 H3 HB3 cP;go_wp2_with fail;refine c5.mono ?_;rintro e w5⟨rfl,h5,hb5⟩;have HB5:=hid (HB4.out.trans hb5)
   have H5:=hid h5;clear h5 hb5 c5 HB4;rcases hz' with ⟨h48,HZ⟩|⟨h48,HZ⟩
   ·go_wp2_with fail
    refine(cK _).mono ?_;rintro e w6⟨rfl,rfl⟩;rw [HZ.out];go_wp2_with fail;obtain⟨p,v,cv,hbld,hrow,hBw⟩:=H5.out;have hBb:B≤b:=hbld.1
    obtain⟨W6,hW6⟩:=qQ (w6.alloc (.cells #[.int .i64 m,.bool l45,.bool z] 122))
    have hb6:Below w6.heap.size w6 W6:=by rw [← hW6];exact(Below.refl _ _).alloc (Nat.le_refl _) _
    have hfb:W6.heap[w6.heap.size]?=some (.cells #[.int .i64 m,.bool l45,.bool z] 122 (0,0)):=by rw [← hW6];exact heap_alloc_new _ _
    rw [hW6];have hbld6:=hbld.below hb6;have hrow6:=own_below hrow hb6;have hbk6:=hbld6.2.2.1;have hs6:=hb6.size;have HB6:=hid (HB5.out.trans (hb6.mono hBw))
    have hnb:w6.heap.size≠b:=by have:=hbld.lt;omega
    obtain⟨N,hN⟩:=qQ (w6.heap.size)
    rw [hN] at hfb hnb hs6 hBw ⊢;clear hbld hrow hb6 H5 HB5 hW6 hN;have HBK:=hid hbk6;have HFB:=hid hfb;have x4:W6.drew.cell? ⟨b,4,none⟩=some cv:=Lib.cell_of_heap (w:=W6.drew) hbk6 4
    have hS:Cells [(⟨N,0,none⟩,.int .i64 m),(⟨N,1,none⟩,.bool l45),(⟨N,2,none⟩,.bool z)] W6.drew:=cells3 (Lib.cell_of_heap (w:=W6.drew) hfb 0) (Lib.cell_of_heap (w:=W6.drew) hfb 1) (Lib.cell_of_heap (w:=W6.drew) hfb 2)
    have cS:=qaN 119 B b 2 _ acc W6.drew hbld6.drew;have HR6:=hid hrow6;have HNE:=hid (qao hrow6 hbk6 qbu)
    clear hbk6 hfb hbld6 hrow6;refine wp_region_held_drew (S:=Cells [(⟨N,0,none⟩,.int .i64 m),(⟨N,1,none⟩,.bool l45),(⟨N,2,none⟩,.bool z)]) (by kernel_rfl) hS (fun _=>?_)
    refine qaa 0 50 (.pointer (some ⟨b,0,none⟩)) rfl rfl hS ?_
    refine qaa 1 51 (.pointer (some ⟨b,0,none⟩)) rfl rfl hS ?_
    refine qaa 2 52 (.pointer (some ⟨b,0,none⟩)) rfl rfl hS ?_
    refine qaa 3 53 (.pointer (some ⟨b,4,none⟩)) rfl rfl hS ?_
    refine qaa 4 54 (.pointer (some ⟨b,4,none⟩)) rfl rfl hS ?_
    refine qai 6 56 (.agg #[.int .i64 m,.bool l45,.bool z]) rfl rfl (Or.inl ⟨by rfl,fun w' hS'=>by have s0:=hS' _ (.head _);have s1:=hS' _ (.tail _ (.head _));have s2:=hS' _ (.tail _ (.tail _ (.head _)));dsimp only at s0 s1 s2;go_simp⟩) hS ?_
    refine qaa 7 57 (.pointer (some ⟨b,0,none⟩)) rfl rfl hS ?_
    refine qaa 8 58 (.pointer (some ⟨b,0,none⟩)) rfl rfl hS ?_
    refine qaa 9 59 (.pointer (some ⟨b,2,none⟩)) rfl rfl hS ?_
    refine qaa 11 61 (encS [c]) rfl rfl hS ?_
    refine qaa 12 62 (.int .u8 c.toNat) rfl rfl hS ?_
    refine wpAnyH_ready (rs:=[5,10]) (by kernel_rfl) (by simp) (AllReadyH.cons rfl (fun K hK=>?_) (AllReadyH.cons rfl (fun K hK=>?_) AllReadyH.nil))
    ·skip
     go_simp;refine qaE hK hS ?_
     clear hK K;refine qae 10 rfl fun K hK=>?_
     go_simp;go_at_call 53
     refine cS.mono ?_;rintro e w7⟨rfl,hbb7,ho7⟩;have hbk7:w7.heap[b]?=some (.cells (plC f (k+g.length+d.length+1) p v cv false) 119 (0,0)):=hbb7.trans HBK.out
     have hrow7:=ho7.row HR6.out qbL HNE.out;have hfb7:w7.heap[N]?=some (.cells #[.int .i64 m,.bool l45,.bool z] 122 (0,0)):=(ho7.block N (lt_of_block HFB.out) hnb (.inr ⟨_,_,_,HFB.out,qhg⟩)).trans HFB.out
     have hS7:Cells [(⟨N,0,none⟩,.int .i64 m),(⟨N,1,none⟩,.bool l45),(⟨N,2,none⟩,.bool z)] w7:=cells3 (Lib.cell_of_heap hfb7 0) (Lib.cell_of_heap hfb7 1) (Lib.cell_of_heap hfb7 2)
     have x47:w7.cell? ⟨b,4,none⟩=some cv:=Lib.cell_of_heap hbk7 4
     have x47a:(w7.alloc (.cells #[.int .i64 m,.bool l45,.bool z,encS acc,.int .u8 c.toNat] 124)).cell? ⟨b,4,none⟩=some cv:=Lib.cell_of_heap ((Below.heap_alloc w7 _ b (lt_of_block hbk7)).trans hbk7) 4
     have hs7:W6.heap.size≤w7.heap.size:=ho7.size
     have HBK7:=hid hbk7;have HFB7:=hid hfb7;clear hbk7 hfb7;go_wp2_with fail;refine qaE hK hS7 ?_
     clear hK K;refine qaa 13 63 (.agg #[.int .i64 m,.bool l45,.bool z,encS acc,.int .u8 c.toNat]) rfl rfl hS7 ?_
     refine qae 14 rfl fun K hK=>?_
     go_simp;refine qaE hK (hS7.below ((Below.refl _ _).alloc (Nat.le_refl _) _)) ?_
     clear hK K;refine qae 15 rfl fun K hK=>?_
     refine step_append_lies _ (by rfl) _ _ _ (by rfl) B 124 i0 (.agg #[.int .i64 0,.bool false,.bool false,.string .empty,.int .u8 0]) 5 40 underlying78 hi hz0 hz1 hz2 rfl (by omega) cv cvs.length (qeW cvs) (by rfl) (hrow7.alloc _) ⟨w7.heap.size,0,none⟩ 1 1 [.int .i64 m,.bool l45,.bool z,encS acc,.int .u8 c.toNat] (by rfl) (by rfl) (World.news_of_block (cs:=#[.int .i64 m,.bool l45,.bool z,encS acc,.int .u8 c.toNat]) (t:=124) (fr:=(0,0)) (heap_alloc_new w7 _)) (by simp [Value.oneCell']) (by omega) (by unfold maxLen;omega) (by omega) (by simp;omega) (w7.heap.size+1) (by simp) ?_
     intro gg cap w8 hown8 hg8 _ _
     have hbk8:w8.heap[b]?=some (.cells (plC f (k+g.length+d.length+1) p v cv false) 119 (0,0)):=(hg8.block b (Nat.lt_of_lt_of_le (lt_of_block HBK7.out) (by simp)) (fun e=>qao hrow7 HBK7.out qbu e.symm)).trans ((Below.heap_alloc w7 _ b (lt_of_block HBK7.out)).trans HBK7.out)
     have hS8:=qca (hS7.below ((Below.refl _ _).alloc (Nat.le_refl _) _)) hg8 (fun e=>qao hrow7 HFB7.out qeG e.symm)
     have x48:w8.cell? ⟨b,4,none⟩=some cv:=Lib.cell_of_heap hbk8 4
     have f48:w8.frozen? ⟨b,4,none⟩=false:=Lib.frozen_of_heap hbk8 4
     have HBK8:=hid hbk8;clear hbk8
     change K (Act.put _ (some 65) _) _
     refine qaE hK hS8 ?_
     clear hK K;refine qaa 16 66 (.pointer (some ⟨b,0,none⟩)) rfl rfl hS8 ?_
     refine qaa 17 67 (.pointer (some ⟨b,4,none⟩)) rfl rfl hS8 ?_
     refine qaa 18 68 (.pointer (some ⟨b,4,none⟩)) rfl rfl hS8 ?_
     refine qae 19 rfl fun K hK=>?_
     go_simp;refine qaE hK (qdr hS8 hnb _) ?_
     clear hK K;refine wpAnyH_done (by kernel_rfl) ?_ _
     have hown9:w8.ownsRow B 124 5 (.slice (some ⟨gg,0,none⟩) (cvs.length+1) cap) (cvs++[CN]).length (qeW (cvs++[CN])):=by
      unfold qeW at hown8 ⊢
      rw [List.flatMap_append,List.length_append,List.flatMap_cons,List.flatMap_nil,List.append_nil,HCV.out];exact hown8
     have hb9:=heap_setCell_same w8 b 4 _ 119 (.slice (some ⟨gg,0,none⟩) (cvs.length+1) cap) HBK8.out
     have hB7:Below B W6 w7:=((Below.refl B W6).drew).trans (ho7.below hBb (by show B≤W6.heap.size;omega))
     have hB8:Below B W6 (w8.setCell ⟨b,4,none⟩ (.slice (some ⟨gg,0,none⟩) (cvs.length+1) cap)):=((hB7.alloc (by omega) _).grown hg8 (by simp;omega) (fun j e=>(hrow7.lt j e).1)).setCell hBb _
     have cR:=qcI 119 B b 2 _ _ qdK hBb hb9 (by simp [plC])
     have hs8:B≤w8.heap.size:=by have:=hB8.size;simp at this;omega
     have HF:=hid (And.intro hown9 (And.intro HBK8.out (And.intro hs8 (HB6.out.trans hB8))))
     clear hown8 hown9 hg8 hrow7 hb9 hB7 hB8 ho7 hbb7 cS hS hS7 hS8 x47 x47a x48 f48 x4;go_wp2_with fail;refine cR.mono ?_;rintro e w9⟨rfl,hR,ho9⟩;have HG2:=hid (And.intro (qb5.added HF.out.2.1 HF.out.1 HF.out.2.2.1 hR ho9) (HF.out.2.2.2.trans (ho9.below hBb (by simpa using HF.out.2.2.1))))
     clear hR ho9 cR;go_wp2_with fail;go_end0;exact⟨rfl,HP.out _ HG2.out.1,HG2.out.2⟩
    ·skip
     go_simp;go_at_call 53
     refine cS.mono ?_;rintro e w7⟨rfl,hbb7,ho7⟩;have hbk7:w7.heap[b]?=some (.cells (plC f (k+g.length+d.length+1) p v cv false) 119 (0,0)):=hbb7.trans HBK.out
     have hrow7:=ho7.row HR6.out qbL HNE.out;have hfb7:w7.heap[N]?=some (.cells #[.int .i64 m,.bool l45,.bool z] 122 (0,0)):=(ho7.block N (lt_of_block HFB.out) hnb (.inr ⟨_,_,_,HFB.out,qhg⟩)).trans HFB.out
     have hS7:Cells [(⟨N,0,none⟩,.int .i64 m),(⟨N,1,none⟩,.bool l45),(⟨N,2,none⟩,.bool z)] w7:=cells3 (Lib.cell_of_heap hfb7 0) (Lib.cell_of_heap hfb7 1) (Lib.cell_of_heap hfb7 2)
     have x47:w7.cell? ⟨b,4,none⟩=some cv:=Lib.cell_of_heap hbk7 4
     have x47a:(w7.alloc (.cells #[.int .i64 m,.bool l45,.bool z,encS acc,.int .u8 c.toNat] 124)).cell? ⟨b,4,none⟩=some cv:=Lib.cell_of_heap ((Below.heap_alloc w7 _ b (lt_of_block hbk7)).trans hbk7) 4
     have hs7:W6.heap.size≤w7.heap.size:=ho7.size
     have HBK7:=hid hbk7;have HFB7:=hid hfb7;clear hbk7 hfb7;go_wp2_with fail;refine qaE hK hS7 ?_
     clear hK K;refine qaa 13 63 (.agg #[.int .i64 m,.bool l45,.bool z,encS acc,.int .u8 c.toNat]) rfl rfl hS7 ?_
     refine wpAnyH_ready (rs:=[5,14]) (by kernel_rfl) (by simp) (AllReadyH.cons rfl (fun K hK=>?_) (AllReadyH.cons rfl (fun K hK=>?_) AllReadyH.nil))
     ·skip
      go_simp;refine qaE hK hS7 ?_
      clear hK K;refine qae 14 rfl fun K hK=>?_
      go_simp;refine qaE hK (hS7.below ((Below.refl _ _).alloc (Nat.le_refl _) _)) ?_
      clear hK K;refine qae 15 rfl fun K hK=>?_
      refine step_append_lies _ (by rfl) _ _ _ (by rfl) B 124 i0 (.agg #[.int .i64 0,.bool false,.bool false,.string .empty,.int .u8 0]) 5 40 underlying78 hi hz0 hz1 hz2 rfl (by omega) cv cvs.length (qeW cvs) (by rfl) (hrow7.alloc _) ⟨w7.heap.size,0,none⟩ 1 1 [.int .i64 m,.bool l45,.bool z,encS acc,.int .u8 c.toNat] (by rfl) (by rfl) (World.news_of_block (cs:=#[.int .i64 m,.bool l45,.bool z,encS acc,.int .u8 c.toNat]) (t:=124) (fr:=(0,0)) (heap_alloc_new w7 _)) (by simp [Value.oneCell']) (by omega) (by unfold maxLen;omega) (by omega) (by simp;omega) (w7.heap.size+1) (by simp) ?_
      intro gg cap w8 hown8 hg8 _ _
      have hbk8:w8.heap[b]?=some (.cells (plC f (k+g.length+d.length+1) p v cv false) 119 (0,0)):=(hg8.block b (Nat.lt_of_lt_of_le (lt_of_block HBK7.out) (by simp)) (fun e=>qao hrow7 HBK7.out qbu e.symm)).trans ((Below.heap_alloc w7 _ b (lt_of_block HBK7.out)).trans HBK7.out)
      have hS8:=qca (hS7.below ((Below.refl _ _).alloc (Nat.le_refl _) _)) hg8 (fun e=>qao hrow7 HFB7.out qeG e.symm)
      have x48:w8.cell? ⟨b,4,none⟩=some cv:=Lib.cell_of_heap hbk8 4
      have f48:w8.frozen? ⟨b,4,none⟩=false:=Lib.frozen_of_heap hbk8 4
      have HBK8:=hid hbk8;clear hbk8
      change K (Act.put _ (some 65) _) _
      refine qaE hK hS8 ?_
      clear hK K;refine qaa 16 66 (.pointer (some ⟨b,0,none⟩)) rfl rfl hS8 ?_
      refine qaa 17 67 (.pointer (some ⟨b,4,none⟩)) rfl rfl hS8 ?_
      refine qaa 18 68 (.pointer (some ⟨b,4,none⟩)) rfl rfl hS8 ?_
      refine qae 19 rfl fun K hK=>?_
      go_simp;refine qaE hK (qdr hS8 hnb _) ?_
      clear hK K;refine wpAnyH_done (by kernel_rfl) ?_ _
      have hown9:w8.ownsRow B 124 5 (.slice (some ⟨gg,0,none⟩) (cvs.length+1) cap) (cvs++[CN]).length (qeW (cvs++[CN])):=by
       unfold qeW at hown8 ⊢
       rw [List.flatMap_append,List.length_append,List.flatMap_cons,List.flatMap_nil,List.append_nil,HCV.out];exact hown8
      have hb9:=heap_setCell_same w8 b 4 _ 119 (.slice (some ⟨gg,0,none⟩) (cvs.length+1) cap) HBK8.out
      have hB7:Below B W6 w7:=((Below.refl B W6).drew).trans (ho7.below hBb (by show B≤W6.heap.size;omega))
      have hB8:Below B W6 (w8.setCell ⟨b,4,none⟩ (.slice (some ⟨gg,0,none⟩) (cvs.length+1) cap)):=((hB7.alloc (by omega) _).grown hg8 (by simp;omega) (fun j e=>(hrow7.lt j e).1)).setCell hBb _
      have cR:=qcI 119 B b 2 _ _ qdK hBb hb9 (by simp [plC])
      have hs8:B≤w8.heap.size:=by have:=hB8.size;simp at this;omega
      have HF:=hid (And.intro hown9 (And.intro HBK8.out (And.intro hs8 (HB6.out.trans hB8))))
      clear hown8 hown9 hg8 hrow7 hb9 hB7 hB8 ho7 hbb7 cS hS hS7 hS8 x47 x47a x48 f48 x4;go_wp2_with fail;refine cR.mono ?_;rintro e w9⟨rfl,hR,ho9⟩;have HG2:=hid (And.intro (qb5.added HF.out.2.1 HF.out.1 HF.out.2.2.1 hR ho9) (HF.out.2.2.2.trans (ho9.below hBb (by simpa using HF.out.2.2.1))))
      clear hR ho9 cR;go_wp2_with fail;go_end0;exact⟨rfl,HP.out _ HG2.out.1,HG2.out.2⟩
     ·skip
      go_simp;refine qaE hK (hS7.below ((Below.refl _ _).alloc (Nat.le_refl _) _)) ?_
      clear hK K;refine qae 5 rfl fun K hK=>?_
      go_simp;refine qaE hK (hS7.below ((Below.refl _ _).alloc (Nat.le_refl _) _)) ?_
      clear hK K;refine qae 15 rfl fun K hK=>?_
      refine step_append_lies _ (by rfl) _ _ _ (by rfl) B 124 i0 (.agg #[.int .i64 0,.bool false,.bool false,.string .empty,.int .u8 0]) 5 40 underlying78 hi hz0 hz1 hz2 rfl (by omega) cv cvs.length (qeW cvs) (by rfl) (hrow7.alloc _) ⟨w7.heap.size,0,none⟩ 1 1 [.int .i64 m,.bool l45,.bool z,encS acc,.int .u8 c.toNat] (by rfl) (by rfl) (World.news_of_block (cs:=#[.int .i64 m,.bool l45,.bool z,encS acc,.int .u8 c.toNat]) (t:=124) (fr:=(0,0)) (heap_alloc_new w7 _)) (by simp [Value.oneCell']) (by omega) (by unfold maxLen;omega) (by omega) (by simp;omega) (w7.heap.size+1) (by simp) ?_
      intro gg cap w8 hown8 hg8 _ _
      have hbk8:w8.heap[b]?=some (.cells (plC f (k+g.length+d.length+1) p v cv false) 119 (0,0)):=(hg8.block b (Nat.lt_of_lt_of_le (lt_of_block HBK7.out) (by simp)) (fun e=>qao hrow7 HBK7.out qbu e.symm)).trans ((Below.heap_alloc w7 _ b (lt_of_block HBK7.out)).trans HBK7.out)
      have hS8:=qca (hS7.below ((Below.refl _ _).alloc (Nat.le_refl _) _)) hg8 (fun e=>qao hrow7 HFB7.out qeG e.symm)
      have x48:w8.cell? ⟨b,4,none⟩=some cv:=Lib.cell_of_heap hbk8 4
      have f48:w8.frozen? ⟨b,4,none⟩=false:=Lib.frozen_of_heap hbk8 4
      have HBK8:=hid hbk8;clear hbk8
      change K (Act.put _ (some 65) _) _
      refine qaE hK hS8 ?_
      clear hK K;refine qaa 16 66 (.pointer (some ⟨b,0,none⟩)) rfl rfl hS8 ?_
      refine qaa 17 67 (.pointer (some ⟨b,4,none⟩)) rfl rfl hS8 ?_
      refine qaa 18 68 (.pointer (some ⟨b,4,none⟩)) rfl rfl hS8 ?_
      refine qae 19 rfl fun K hK=>?_
      go_simp;refine qaE hK (qdr hS8 hnb _) ?_
      clear hK K;refine wpAnyH_done (by kernel_rfl) ?_ _
      have hown9:w8.ownsRow B 124 5 (.slice (some ⟨gg,0,none⟩) (cvs.length+1) cap) (cvs++[CN]).length (qeW (cvs++[CN])):=by
       unfold qeW at hown8 ⊢
       rw [List.flatMap_append,List.length_append,List.flatMap_cons,List.flatMap_nil,List.append_nil,HCV.out];exact hown8
      have hb9:=heap_setCell_same w8 b 4 _ 119 (.slice (some ⟨gg,0,none⟩) (cvs.length+1) cap) HBK8.out
      have hB7:Below B W6 w7:=((Below.refl B W6).drew).trans (ho7.below hBb (by show B≤W6.heap.size;omega))
      have hB8:Below B W6 (w8.setCell ⟨b,4,none⟩ (.slice (some ⟨gg,0,none⟩) (cvs.length+1) cap)):=((hB7.alloc (by omega) _).grown hg8 (by simp;omega) (fun j e=>(hrow7.lt j e).1)).setCell hBb _
      have cR:=qcI 119 B b 2 _ _ qdK hBb hb9 (by simp [plC])
      have hs8:B≤w8.heap.size:=by have:=hB8.size;simp at this;omega
      have HF:=hid (And.intro hown9 (And.intro HBK8.out (And.intro hs8 (HB6.out.trans hB8))))
      clear hown8 hown9 hg8 hrow7 hb9 hB7 hB8 ho7 hbb7 cS hS hS7 hS8 x47 x47a x48 f48 x4;go_wp2_with fail;refine cR.mono ?_;rintro e w9⟨rfl,hR,ho9⟩;have HG2:=hid (And.intro (qb5.added HF.out.2.1 HF.out.1 HF.out.2.2.1 hR ho9) (HF.out.2.2.2.trans (ho9.below hBb (by simpa using HF.out.2.2.1))))
      clear hR ho9 cR;go_wp2_with fail;go_end0;exact⟨rfl,HP.out _ HG2.out.1,HG2.out.2⟩
   ·have hzz:z=false:=HZ.out.symm
    subst hzz;obtain⟨w6,rfl⟩:∃w6,w6=w5:=⟨_,rfl⟩
    clear HZ;go_wp2_with fail;obtain⟨p,v,cv,hbld,hrow,hBw⟩:=H5.out;have hBb:B≤b:=hbld.1
    obtain⟨W6,hW6⟩:=qQ (w6.alloc (.cells #[.int .i64 m,.bool l45,.bool false] 122))
    have hb6:Below w6.heap.size w6 W6:=by rw [← hW6];exact(Below.refl _ _).alloc (Nat.le_refl _) _
    have hfb:W6.heap[w6.heap.size]?=some (.cells #[.int .i64 m,.bool l45,.bool false] 122 (0,0)):=by rw [← hW6];exact heap_alloc_new _ _
    rw [hW6];have hbld6:=hbld.below hb6;have hrow6:=own_below hrow hb6;have hbk6:=hbld6.2.2.1;have hs6:=hb6.size;have HB6:=hid (HB5.out.trans (hb6.mono hBw))
    have hnb:w6.heap.size≠b:=by have:=hbld.lt;omega
    obtain⟨N,hN⟩:=qQ (w6.heap.size)
    rw [hN] at hfb hnb hs6 hBw ⊢;clear hbld hrow hb6 H5 HB5 hW6 hN;have HBK:=hid hbk6;have HFB:=hid hfb;have x4:W6.drew.cell? ⟨b,4,none⟩=some cv:=Lib.cell_of_heap (w:=W6.drew) hbk6 4
    have hS:Cells [(⟨N,0,none⟩,.int .i64 m),(⟨N,1,none⟩,.bool l45),(⟨N,2,none⟩,.bool false)] W6.drew:=cells3 (Lib.cell_of_heap (w:=W6.drew) hfb 0) (Lib.cell_of_heap (w:=W6.drew) hfb 1) (Lib.cell_of_heap (w:=W6.drew) hfb 2)
    have cS:=qaN 119 B b 2 _ acc W6.drew hbld6.drew;have HR6:=hid hrow6;have HNE:=hid (qao hrow6 hbk6 qbu)
    clear hbk6 hfb hbld6 hrow6;refine wp_region_held_drew (S:=Cells [(⟨N,0,none⟩,.int .i64 m),(⟨N,1,none⟩,.bool l45),(⟨N,2,none⟩,.bool false)]) (by kernel_rfl) hS (fun _=>?_)
    refine qaa 0 50 (.pointer (some ⟨b,0,none⟩)) rfl rfl hS ?_
    refine qaa 1 51 (.pointer (some ⟨b,0,none⟩)) rfl rfl hS ?_
    refine qaa 2 52 (.pointer (some ⟨b,0,none⟩)) rfl rfl hS ?_
    refine qaa 3 53 (.pointer (some ⟨b,4,none⟩)) rfl rfl hS ?_
    refine qaa 4 54 (.pointer (some ⟨b,4,none⟩)) rfl rfl hS ?_
    refine qai 6 56 (.agg #[.int .i64 m,.bool l45,.bool false]) rfl rfl (Or.inl ⟨by rfl,fun w' hS'=>by have s0:=hS' _ (.head _);have s1:=hS' _ (.tail _ (.head _));have s2:=hS' _ (.tail _ (.tail _ (.head _)));dsimp only at s0 s1 s2;go_simp⟩) hS ?_
    refine qaa 7 57 (.pointer (some ⟨b,0,none⟩)) rfl rfl hS ?_
    refine qaa 8 58 (.pointer (some ⟨b,0,none⟩)) rfl rfl hS ?_
    refine qaa 9 59 (.pointer (some ⟨b,2,none⟩)) rfl rfl hS ?_
    refine qaa 11 61 (encS [c]) rfl rfl hS ?_
    refine qaa 12 62 (.int .u8 c.toNat) rfl rfl hS ?_
    refine wpAnyH_ready (rs:=[5,10]) (by kernel_rfl) (by simp) (AllReadyH.cons rfl (fun K hK=>?_) (AllReadyH.cons rfl (fun K hK=>?_) AllReadyH.nil))
    ·skip
     go_simp;refine qaE hK hS ?_
     clear hK K;refine qae 10 rfl fun K hK=>?_
     go_simp;go_at_call 53
     refine cS.mono ?_;rintro e w7⟨rfl,hbb7,ho7⟩;have hbk7:w7.heap[b]?=some (.cells (plC f (k+g.length+d.length+1) p v cv false) 119 (0,0)):=hbb7.trans HBK.out
     have hrow7:=ho7.row HR6.out qbL HNE.out;have hfb7:w7.heap[N]?=some (.cells #[.int .i64 m,.bool l45,.bool false] 122 (0,0)):=(ho7.block N (lt_of_block HFB.out) hnb (.inr ⟨_,_,_,HFB.out,qhg⟩)).trans HFB.out
     have hS7:Cells [(⟨N,0,none⟩,.int .i64 m),(⟨N,1,none⟩,.bool l45),(⟨N,2,none⟩,.bool false)] w7:=cells3 (Lib.cell_of_heap hfb7 0) (Lib.cell_of_heap hfb7 1) (Lib.cell_of_heap hfb7 2)
     have x47:w7.cell? ⟨b,4,none⟩=some cv:=Lib.cell_of_heap hbk7 4
     have x47a:(w7.alloc (.cells #[.int .i64 m,.bool l45,.bool false,encS acc,.int .u8 c.toNat] 124)).cell? ⟨b,4,none⟩=some cv:=Lib.cell_of_heap ((Below.heap_alloc w7 _ b (lt_of_block hbk7)).trans hbk7) 4
     have hs7:W6.heap.size≤w7.heap.size:=ho7.size
     have HBK7:=hid hbk7;have HFB7:=hid hfb7;clear hbk7 hfb7;go_wp2_with fail;refine qaE hK hS7 ?_
     clear hK K;refine qaa 13 63 (.agg #[.int .i64 m,.bool l45,.bool false,encS acc,.int .u8 c.toNat]) rfl rfl hS7 ?_
     refine qae 14 rfl fun K hK=>?_
     go_simp;refine qaE hK (hS7.below ((Below.refl _ _).alloc (Nat.le_refl _) _)) ?_
     clear hK K;refine qae 15 rfl fun K hK=>?_
     refine step_append_lies _ (by rfl) _ _ _ (by rfl) B 124 i0 (.agg #[.int .i64 0,.bool false,.bool false,.string .empty,.int .u8 0]) 5 40 underlying78 hi hz0 hz1 hz2 rfl (by omega) cv cvs.length (qeW cvs) (by rfl) (hrow7.alloc _) ⟨w7.heap.size,0,none⟩ 1 1 [.int .i64 m,.bool l45,.bool false,encS acc,.int .u8 c.toNat] (by rfl) (by rfl) (World.news_of_block (cs:=#[.int .i64 m,.bool l45,.bool false,encS acc,.int .u8 c.toNat]) (t:=124) (fr:=(0,0)) (heap_alloc_new w7 _)) (by simp [Value.oneCell']) (by omega) (by unfold maxLen;omega) (by omega) (by simp;omega) (w7.heap.size+1) (by simp) ?_
     intro gg cap w8 hown8 hg8 _ _
     have hbk8:w8.heap[b]?=some (.cells (plC f (k+g.length+d.length+1) p v cv false) 119 (0,0)):=(hg8.block b (Nat.lt_of_lt_of_le (lt_of_block HBK7.out) (by simp)) (fun e=>qao hrow7 HBK7.out qbu e.symm)).trans ((Below.heap_alloc w7 _ b (lt_of_block HBK7.out)).trans HBK7.out)
     have hS8:=qca (hS7.below ((Below.refl _ _).alloc (Nat.le_refl _) _)) hg8 (fun e=>qao hrow7 HFB7.out qeG e.symm)
     have x48:w8.cell? ⟨b,4,none⟩=some cv:=Lib.cell_of_heap hbk8 4
     have f48:w8.frozen? ⟨b,4,none⟩=false:=Lib.frozen_of_heap hbk8 4
     have HBK8:=hid hbk8;clear hbk8
     change K (Act.put _ (some 65) _) _
     refine qaE hK hS8 ?_
     clear hK K;refine qaa 16 66 (.pointer (some ⟨b,0,none⟩)) rfl rfl hS8 ?_
     refine qaa 17 67 (.pointer (some ⟨b,4,none⟩)) rfl rfl hS8 ?_
     refine qaa 18 68 (.pointer (some ⟨b,4,none⟩)) rfl rfl hS8 ?_
     refine qae 19 rfl fun K hK=>?_
     go_simp;refine qaE hK (qdr hS8 hnb _) ?_
     clear hK K;refine wpAnyH_done (by kernel_rfl) ?_ _
     have hown9:w8.ownsRow B 124 5 (.slice (some ⟨gg,0,none⟩) (cvs.length+1) cap) (cvs++[CN]).length (qeW (cvs++[CN])):=by
      unfold qeW at hown8 ⊢
      rw [List.flatMap_append,List.length_append,List.flatMap_cons,List.flatMap_nil,List.append_nil,HCV.out];exact hown8
     have hb9:=heap_setCell_same w8 b 4 _ 119 (.slice (some ⟨gg,0,none⟩) (cvs.length+1) cap) HBK8.out
     have hB7:Below B W6 w7:=((Below.refl B W6).drew).trans (ho7.below hBb (by show B≤W6.heap.size;omega))
     have hB8:Below B W6 (w8.setCell ⟨b,4,none⟩ (.slice (some ⟨gg,0,none⟩) (cvs.length+1) cap)):=((hB7.alloc (by omega) _).grown hg8 (by simp;omega) (fun j e=>(hrow7.lt j e).1)).setCell hBb _
     have cR:=qcI 119 B b 2 _ _ qdK hBb hb9 (by simp [plC])
     have hs8:B≤w8.heap.size:=by have:=hB8.size;simp at this;omega
     have HF:=hid (And.intro hown9 (And.intro HBK8.out (And.intro hs8 (HB6.out.trans hB8))))
     clear hown8 hown9 hg8 hrow7 hb9 hB7 hB8 ho7 hbb7 cS hS hS7 hS8 x47 x47a x48 f48 x4;go_wp2_with fail;refine cR.mono ?_;rintro e w9⟨rfl,hR,ho9⟩;have HG2:=hid (And.intro (qb5.added HF.out.2.1 HF.out.1 HF.out.2.2.1 hR ho9) (HF.out.2.2.2.trans (ho9.below hBb (by simpa using HF.out.2.2.1))))
     clear hR ho9 cR;go_wp2_with fail;go_end0;exact⟨rfl,HP.out _ HG2.out.1,HG2.out.2⟩
    ·skip
     go_simp;go_at_call 53
     refine cS.mono ?_;rintro e w7⟨rfl,hbb7,ho7⟩;have hbk7:w7.heap[b]?=some (.cells (plC f (k+g.length+d.length+1) p v cv false) 119 (0,0)):=hbb7.trans HBK.out
     have hrow7:=ho7.row HR6.out qbL HNE.out;have hfb7:w7.heap[N]?=some (.cells #[.int .i64 m,.bool l45,.bool false] 122 (0,0)):=(ho7.block N (lt_of_block HFB.out) hnb (.inr ⟨_,_,_,HFB.out,qhg⟩)).trans HFB.out
     have hS7:Cells [(⟨N,0,none⟩,.int .i64 m),(⟨N,1,none⟩,.bool l45),(⟨N,2,none⟩,.bool false)] w7:=cells3 (Lib.cell_of_heap hfb7 0) (Lib.cell_of_heap hfb7 1) (Lib.cell_of_heap hfb7 2)
     have x47:w7.cell? ⟨b,4,none⟩=some cv:=Lib.cell_of_heap hbk7 4
     have x47a:(w7.alloc (.cells #[.int .i64 m,.bool l45,.bool false,encS acc,.int .u8 c.toNat] 124)).cell? ⟨b,4,none⟩=some cv:=Lib.cell_of_heap ((Below.heap_alloc w7 _ b (lt_of_block hbk7)).trans hbk7) 4
     have hs7:W6.heap.size≤w7.heap.size:=ho7.size
     have HBK7:=hid hbk7;have HFB7:=hid hfb7;clear hbk7 hfb7;go_wp2_with fail;refine qaE hK hS7 ?_
     clear hK K;refine qaa 13 63 (.agg #[.int .i64 m,.bool l45,.bool false,encS acc,.int .u8 c.toNat]) rfl rfl hS7 ?_
     refine wpAnyH_ready (rs:=[5,14]) (by kernel_rfl) (by simp) (AllReadyH.cons rfl (fun K hK=>?_) (AllReadyH.cons rfl (fun K hK=>?_) AllReadyH.nil))
     ·skip
      go_simp;refine qaE hK hS7 ?_
      clear hK K;refine qae 14 rfl fun K hK=>?_
      go_simp;refine qaE hK (hS7.below ((Below.refl _ _).alloc (Nat.le_refl _) _)) ?_
      clear hK K;refine qae 15 rfl fun K hK=>?_
      refine step_append_lies _ (by rfl) _ _ _ (by rfl) B 124 i0 (.agg #[.int .i64 0,.bool false,.bool false,.string .empty,.int .u8 0]) 5 40 underlying78 hi hz0 hz1 hz2 rfl (by omega) cv cvs.length (qeW cvs) (by rfl) (hrow7.alloc _) ⟨w7.heap.size,0,none⟩ 1 1 [.int .i64 m,.bool l45,.bool false,encS acc,.int .u8 c.toNat] (by rfl) (by rfl) (World.news_of_block (cs:=#[.int .i64 m,.bool l45,.bool false,encS acc,.int .u8 c.toNat]) (t:=124) (fr:=(0,0)) (heap_alloc_new w7 _)) (by simp [Value.oneCell']) (by omega) (by unfold maxLen;omega) (by omega) (by simp;omega) (w7.heap.size+1) (by simp) ?_
      intro gg cap w8 hown8 hg8 _ _
      have hbk8:w8.heap[b]?=some (.cells (plC f (k+g.length+d.length+1) p v cv false) 119 (0,0)):=(hg8.block b (Nat.lt_of_lt_of_le (lt_of_block HBK7.out) (by simp)) (fun e=>qao hrow7 HBK7.out qbu e.symm)).trans ((Below.heap_alloc w7 _ b (lt_of_block HBK7.out)).trans HBK7.out)
      have hS8:=qca (hS7.below ((Below.refl _ _).alloc (Nat.le_refl _) _)) hg8 (fun e=>qao hrow7 HFB7.out qeG e.symm)
      have x48:w8.cell? ⟨b,4,none⟩=some cv:=Lib.cell_of_heap hbk8 4
      have f48:w8.frozen? ⟨b,4,none⟩=false:=Lib.frozen_of_heap hbk8 4
      have HBK8:=hid hbk8;clear hbk8
      change K (Act.put _ (some 65) _) _
      refine qaE hK hS8 ?_
      clear hK K;refine qaa 16 66 (.pointer (some ⟨b,0,none⟩)) rfl rfl hS8 ?_
      refine qaa 17 67 (.pointer (some ⟨b,4,none⟩)) rfl rfl hS8 ?_
      refine qaa 18 68 (.pointer (some ⟨b,4,none⟩)) rfl rfl hS8 ?_
      refine qae 19 rfl fun K hK=>?_
      go_simp;refine qaE hK (qdr hS8 hnb _) ?_
      clear hK K;refine wpAnyH_done (by kernel_rfl) ?_ _
      have hown9:w8.ownsRow B 124 5 (.slice (some ⟨gg,0,none⟩) (cvs.length+1) cap) (cvs++[CN]).length (qeW (cvs++[CN])):=by
       unfold qeW at hown8 ⊢
       rw [List.flatMap_append,List.length_append,List.flatMap_cons,List.flatMap_nil,List.append_nil,HCV.out];exact hown8
      have hb9:=heap_setCell_same w8 b 4 _ 119 (.slice (some ⟨gg,0,none⟩) (cvs.length+1) cap) HBK8.out
      have hB7:Below B W6 w7:=((Below.refl B W6).drew).trans (ho7.below hBb (by show B≤W6.heap.size;omega))
      have hB8:Below B W6 (w8.setCell ⟨b,4,none⟩ (.slice (some ⟨gg,0,none⟩) (cvs.length+1) cap)):=((hB7.alloc (by omega) _).grown hg8 (by simp;omega) (fun j e=>(hrow7.lt j e).1)).setCell hBb _
      have cR:=qcI 119 B b 2 _ _ qdK hBb hb9 (by simp [plC])
      have hs8:B≤w8.heap.size:=by have:=hB8.size;simp at this;omega
      have HF:=hid (And.intro hown9 (And.intro HBK8.out (And.intro hs8 (HB6.out.trans hB8))))
      clear hown8 hown9 hg8 hrow7 hb9 hB7 hB8 ho7 hbb7 cS hS hS7 hS8 x47 x47a x48 f48 x4;go_wp2_with fail;refine cR.mono ?_;rintro e w9⟨rfl,hR,ho9⟩;have HG2:=hid (And.intro (qb5.added HF.out.2.1 HF.out.1 HF.out.2.2.1 hR ho9) (HF.out.2.2.2.trans (ho9.below hBb (by simpa using HF.out.2.2.1))))
      clear hR ho9 cR;go_wp2_with fail;go_end0;exact⟨rfl,HP.out _ HG2.out.1,HG2.out.2⟩
     ·skip
      go_simp;refine qaE hK (hS7.below ((Below.refl _ _).alloc (Nat.le_refl _) _)) ?_
      clear hK K;refine qae 5 rfl fun K hK=>?_
      go_simp;refine qaE hK (hS7.below ((Below.refl _ _).alloc (Nat.le_refl _) _)) ?_
      clear hK K;refine qae 15 rfl fun K hK=>?_
      refine step_append_lies _ (by rfl) _ _ _ (by rfl) B 124 i0 (.agg #[.int .i64 0,.bool false,.bool false,.string .empty,.int .u8 0]) 5 40 underlying78 hi hz0 hz1 hz2 rfl (by omega) cv cvs.length (qeW cvs) (by rfl) (hrow7.alloc _) ⟨w7.heap.size,0,none⟩ 1 1 [.int .i64 m,.bool l45,.bool false,encS acc,.int .u8 c.toNat] (by rfl) (by rfl) (World.news_of_block (cs:=#[.int .i64 m,.bool l45,.bool false,encS acc,.int .u8 c.toNat]) (t:=124) (fr:=(0,0)) (heap_alloc_new w7 _)) (by simp [Value.oneCell']) (by omega) (by unfold maxLen;omega) (by omega) (by simp;omega) (w7.heap.size+1) (by simp) ?_
      intro gg cap w8 hown8 hg8 _ _
      have hbk8:w8.heap[b]?=some (.cells (plC f (k+g.length+d.length+1) p v cv false) 119 (0,0)):=(hg8.block b (Nat.lt_of_lt_of_le (lt_of_block HBK7.out) (by simp)) (fun e=>qao hrow7 HBK7.out qbu e.symm)).trans ((Below.heap_alloc w7 _ b (lt_of_block HBK7.out)).trans HBK7.out)
      have hS8:=qca (hS7.below ((Below.refl _ _).alloc (Nat.le_refl _) _)) hg8 (fun e=>qao hrow7 HFB7.out qeG e.symm)
      have x48:w8.cell? ⟨b,4,none⟩=some cv:=Lib.cell_of_heap hbk8 4
      have f48:w8.frozen? ⟨b,4,none⟩=false:=Lib.frozen_of_heap hbk8 4
      have HBK8:=hid hbk8;clear hbk8
      change K (Act.put _ (some 65) _) _
      refine qaE hK hS8 ?_
      clear hK K;refine qaa 16 66 (.pointer (some ⟨b,0,none⟩)) rfl rfl hS8 ?_
      refine qaa 17 67 (.pointer (some ⟨b,4,none⟩)) rfl rfl hS8 ?_
      refine qaa 18 68 (.pointer (some ⟨b,4,none⟩)) rfl rfl hS8 ?_
      refine qae 19 rfl fun K hK=>?_
      go_simp;refine qaE hK (qdr hS8 hnb _) ?_
      clear hK K;refine wpAnyH_done (by kernel_rfl) ?_ _
      have hown9:w8.ownsRow B 124 5 (.slice (some ⟨gg,0,none⟩) (cvs.length+1) cap) (cvs++[CN]).length (qeW (cvs++[CN])):=by
       unfold qeW at hown8 ⊢
       rw [List.flatMap_append,List.length_append,List.flatMap_cons,List.flatMap_nil,List.append_nil,HCV.out];exact hown8
      have hb9:=heap_setCell_same w8 b 4 _ 119 (.slice (some ⟨gg,0,none⟩) (cvs.length+1) cap) HBK8.out
      have hB7:Below B W6 w7:=((Below.refl B W6).drew).trans (ho7.below hBb (by show B≤W6.heap.size;omega))
      have hB8:Below B W6 (w8.setCell ⟨b,4,none⟩ (.slice (some ⟨gg,0,none⟩) (cvs.length+1) cap)):=((hB7.alloc (by omega) _).grown hg8 (by simp;omega) (fun j e=>(hrow7.lt j e).1)).setCell hBb _
      have cR:=qcI 119 B b 2 _ _ qdK hBb hb9 (by simp [plC])
      have hs8:B≤w8.heap.size:=by have:=hB8.size;simp at this;omega
      have HF:=hid (And.intro hown9 (And.intro HBK8.out (And.intro hs8 (HB6.out.trans hB8))))
      clear hown8 hown9 hg8 hrow7 hb9 hB7 hB8 ho7 hbb7 cS hS hS7 hS8 x47 x47a x48 f48 x4;go_wp2_with fail;refine cR.mono ?_;rintro e w9⟨rfl,hR,ho9⟩;have HG2:=hid (And.intro (qb5.added HF.out.2.1 HF.out.1 HF.out.2.2.1 hR ho9) (HF.out.2.2.2.trans (ho9.below hBb (by simpa using HF.out.2.2.1))))
      clear hR ho9 cR;go_wp2_with fail;go_end0;exact⟨rfl,HP.out _ HG2.out.1,HG2.out.2⟩
theorem Bears.heap {B b g:Nat} {w w':World} {cs:Array Value} {T:TypeId} {fr:Nat×Nat} (h:Bears B b w w') (hg:w.heap[g]?=some (.cells cs T fr)) (hb:g≠b) (hT:T≠5):w'.heap[g]?=some (.cells cs T fr):=
 (h.block g (lt_of_block hg) hb (.inr ⟨_,_,_,hg,hT⟩)).trans hg
theorem qd9 (c:Cv):c.cells.length=5:=rfl
theorem qnY:∀(l:List Cv) (k j:Nat) (h:k<l.length),j<5→(qeW l)[k*5+j]?=(l[k].cells)[j]?
 |[],k,j,h,_=>by simp at h
 |c::r,0,j,_,hj=>by
  simp only [qeW,List.flatMap_cons,Nat.zero_mul,Nat.zero_add,List.getElem_cons_zero]
  rw [List.getElem?_append_left (by rw [qd9];exact hj)]
 |c::r,k+1,j,h,hj=>by
  simp only [qeW,List.flatMap_cons,List.getElem_cons_succ]
  rw [List.getElem?_append_right (by rw [qd9];omega),qd9,show(k+1)*5+j-5=k*5+j by omega];exact qnY r k j (by simpa using h) hj
theorem qcM:80≠5:=by decide
theorem qew.st3 {B b st:Nat} {acc:List UInt8} {args:List (List UInt8)} {w:World} (h:qew B b acc args st w):
  w.cell? ⟨b,3,none⟩=some (.int .i64 st)∧w.frozen? ⟨b,3,none⟩=false∧qew B b acc args 1 (w.setCell ⟨b,3,none⟩ (.int .i64 1))∧Bears B b w (w.setCell ⟨b,3,none⟩ (.int .i64 1)):=by
 obtain⟨p,v,A,c,h1,h2,h3,h4⟩:=h;have hset:Below B w (w.setCell ⟨b,3,none⟩ (.int .i64 1)):=(Below.refl _ _).setCell h1.1 _
 exact⟨Lib.cell_of_heap h1.2.2.1 3,Lib.frozen_of_heap h1.2.2.1 3,⟨p,v,A,c,h1.other (.int .i64 1) (by omega) (by omega),h2,h3.low hset,by simpa using h4⟩,(Bears.refl _ _ _).setCell 3 _⟩
theorem qew.lt {B b st:Nat} {acc:List UInt8} {args:List (List UInt8)} {w:World} (h:qew B b acc args st w):b<w.heap.size∧B≤b∧B≤w.heap.size:=by
 obtain⟨p,v,A,c,h1,h2,h3,h4⟩:=h;exact⟨h1.lt,h1.1,h4⟩
theorem qtr (cvs:List Cv) (k:Nat) (h:k<cvs.length) (args:List (List UInt8)):qaJ (cvs.drop k) args=⟨cvs[k].ahead++(qgy cvs[k].sp (qgW args)).1++(qaJ (cvs.drop (k+1)) args.tail).text,(qaJ (cvs.drop (k+1)) args.tail).left,max (qgy cvs[k].sp (qgW args)).2 (qaJ (cvs.drop (k+1)) args.tail).st⟩:=by
 rw [List.drop_eq_getElem_cons h,qaJ]
theorem Bears.of_drew {B b:Nat} {w w':World} (h:Bears B b w.drew w'):Bears B b w w':=⟨h.os,h.tape,h.output,h.size,h.block⟩
theorem qnT {a b c d:Addr} {x y z u:Value} {w:World} (h1:w.cell? a=some x) (h2:w.cell? b=some y) (h3:w.cell? c=some z) (h4:w.cell? d=some u):Cells [(a,x),(b,y),(c,z),(d,u)] w:=fun q hq=>by
 rcases List.mem_cons.1 hq with rfl|hq
 ·exact h1
 rcases List.mem_cons.1 hq with rfl|hq
 ·exact h2
 rcases List.mem_cons.1 hq with rfl|hq
 ·exact h3
 rcases List.mem_cons.1 hq with rfl|hq
 ·exact h4
 ·cases hq
theorem qwP:∀(n:Nat) (s:List UInt8),s.length≤n→(qdk s).length≤s.length:=by
 intro n
 induction n with
 |zero=>
  intro s h
  obtain rfl:=List.eq_nil_of_length_eq_zero (by omega:s.length=0)
  rw [qg9];exact Nat.le_refl _
 |succ n ih=>
  intro s h
  cases s with
  |nil=>rw [qg9];exact Nat.le_refl _
  |cons c t=>
   have hl:=qfI c t;rw [qn2,List.length_append];have:=ih (t.drop ((qdJ c t).2-1)) (by rw [List.length_drop];simp only [List.length_cons] at h;omega)
   rw [List.length_drop] at this;simp only [List.length_cons]
   omega
theorem qmC (b:Nat):∀(k u:Nat),2≤b→u<2^k→(qiO b u).length≤k+1
 |0,u,hb,h=>by
  have:u=0:=by simpa using h
  subst this;rw [qg7 (by omega)];simp
 |k+1,u,hb,h=>by
  by_cases hu:b≤u
  ·rw [qhp hb hu,List.length_append]
   have h2:u/b<2^k:=by
    rw [Nat.pow_succ] at h;have:u/b≤u/2:=Nat.div_le_div_left hb (by omega)
    omega
   have:=qmC b k (u/b) hb h2
   simp
   omega
  ·rw [qg7 (by omega)]
   simp
theorem qoT (c:UInt8) (a:List UInt8):(qfX c a).length≤a.length+100:=by
 unfold qfX;split
 ·have:=qwP a.length a (Nat.le_refl _)
  omega
 ·split
  ·rw [List.length_take];omega
  ·split
   ·unfold qzo
    have hu:=qv7 (qah a).1
    have hp:(U (qah a).1).toNat<2^64:=by
     have:(2:Nat)^64=18446744073709551616:=by decide
     omega
    split
    ·have:=qmC 16 64 _ (by omega) hp
     omega
    ·split
     ·have:=qmC 8 64 _ (by omega) hp
      omega
     ·have:=qaQ (qcr a).1 (qcr a).2
      omega
   ·omega
theorem qq0 (c:UInt8) (a:List UInt8):qqJ c a≤1:=by
 unfold qqJ qq1;split
 ·split<;>simp
 ·simp
theorem qoR (B b st:Nat) (acc be:List UInt8) (args:List (List UInt8)) (cvs:List Cv) (fl:Bool) (A:Option Addr) (c N0:Nat) (w:World) (h:qew B b acc args st w) (hst:st≤1) (hT:Tab w) (hTB:7<B)
  (hR:w.ownsRow N0 124 5 (.slice A cvs.length c) cvs.length (qeW cvs)) (hRb:(Value.slice A cvs.length c).ownBlock≠some b) (hok:∀x∈cvs,qbz x.sp.letter=true∧x.sp.wide≤999) (hcl:cvs.length≤1099511627776)
  (hal:args.length≤140737488355328) (has:∀a∈args,a.length≤140737488351232) (hsum:acc.length+(qaJ cvs args).text.length+be.length≤140737488355328):
  Calls prog 55 #[.pointer (some ⟨b,0,none⟩),.agg #[.slice A cvs.length c,encS be,.bool fl]] w fun e w'=>e=.returned (.tuple #[])∧
   qew B b (acc++(qaJ cvs args).text++be) (qaJ cvs args).left (max st (max (qaJ cvs args).st (if fl then 1 else 0))) w'∧Bears B b w w':=by
 obtain⟨P,hP⟩:=qQ (w.heap.size)
 obtain⟨W1,hW1⟩:=qQ (w.alloc (.cells #[.slice A cvs.length c,encS be,.bool fl] 80))
 have hb1:Below w.heap.size w W1:=by rw [← hW1];exact(Below.refl _ _).alloc (Nat.le_refl _) _
 have hp1:W1.heap[P]?=some (.cells #[.slice A cvs.length c,encS be,.bool fl] 80 (0,0)):=by rw [← hW1,← hP];exact heap_alloc_new _ _
 have hPb:P≠b:=by have:=h.lt;omega
 have HI:=hid (And.intro (h.below hb1) (And.intro hp1 (Bears.of_below (B:=B) (b:=b) hb1)))
 have HTab:=hid hT;have HRow:=hid hR;have HRb:=hid hRb;have y0:W1.cell? ⟨P,0,none⟩=some (.slice A cvs.length c):=Lib.cell_of_heap hp1 0
 have hBb:=h.lt.2;clear h hb1 hp1 hT hR hRb;go_enter func55,ntmps55;go_wp2_with fail;go_loopw [9] (fun vi wr=>∃(k:Nat) (acc':List UInt8) (args':List (List UInt8)) (st':Nat),k≤cvs.length∧vi=.int .i64 k∧st'≤1∧args'.length≤140737488355328∧Hid (qew B b acc' args' st' wr)∧wr.heap[P]?=some (.cells #[.slice A cvs.length c,encS be,.bool fl] 80 (0,0))∧Hid (Bears B b w wr)∧Hid (∀a∈args',a.length≤140737488351232)∧
   Hid (acc'++(qaJ (cvs.drop k) args').text=acc++(qaJ cvs args).text∧(qaJ (cvs.drop k) args').left=(qaJ cvs args).left∧max st' (qaJ (cvs.drop k) args').st=max st (qaJ cvs args).st)) (fun vi _=>cvs.length-(intOf vi).toNat)
 case atStart=>exact⟨0,acc,args,st,by omega,rfl,hst,hal,hid HI.out.1,HI.out.2.1,hid HI.out.2.2,hid has,hid ⟨by simp,by simp,by simp⟩⟩
 case round=>
  obtain⟨k,acc',args',st',hk,rfl,hst',hal',HT,hp,HW,HA,HE⟩:=hrel;clear HI;by_cases hlt:k<cvs.length
  ·have hRk:=HW.out.row HRow.out qbL HRb.out
   obtain⟨g,rfl⟩:∃g:Nat,A=some ⟨g,0,none⟩:=by
    rcases hRk.2 with ⟨_,h0⟩|⟨g,cap,cur,hv,_⟩
    ·omega
    ·cases hv
     exact⟨g,rfl⟩
   obtain⟨cv,hcv⟩:=qQ (cvs[k])
   have hokk:=hok cv (by rw [← hcv];exact List.getElem_mem _)
   have hcell:∀j u,j<5→cv.cells[j]?=some u→wr.cell? ⟨g,k*5+j,none⟩=some u:=fun j u hj hu=>by
    have h1:=hRk.cells (g:=g) rfl (k*5+j) u (by rw [qnY cvs k j hlt hj,hcv];exact hu)
    rw [qgG] at h1
    simpa using h1
   have htd:=qtr cvs k hlt args';rw [hcv,qiz] at htd;obtain⟨⟨lt,lf,zr,wd,sz⟩,ah⟩:=cv;simp only at hokk htd
   have z0:=hcell 0 (.int .i64 wd) (by omega) rfl
   have z1:=hcell 1 (.bool lf) (by omega) rfl
   have z2:=hcell 2 (.bool (zr&&qkn lt)) (by omega) rfl
   have z3:=hcell 3 (encS ah) (by omega) rfl
   have z4:=hcell 4 (.int .u8 lt.toNat) (by omega) rfl
   simp only [Nat.add_zero] at z0
   have hlt':(k:Int)<(cvs.length:Int):=by omega
   clear hcell hRk hcv;obtain⟨zb,hzb⟩:=qQ ((zr&&qkn lt))
   rw [hzb] at z2;go_wp2_with fail;obtain⟨Q,hQ⟩:=qQ (wr.heap.size)
   obtain⟨W2,hW2⟩:=qQ (wr.alloc (.cells #[.int .i64 wd,.bool lf,.bool zb,encS ah,.int .u8 lt.toNat] 124))
   have hb2:Below wr.heap.size wr W2:=by rw [← hW2];exact(Below.refl _ _).alloc (Nat.le_refl _) _
   have hq2:W2.heap[Q]?=some (.cells #[.int .i64 wd,.bool lf,.bool zb,encS ah,.int .u8 lt.toNat] 124 (0,0)):=by rw [← hW2,← hQ];exact heap_alloc_new _ _
   have hQb:Q≠b:=by have:=HT.out.lt;omega
   rw [hW2,hQ];have HT2:=hid (HT.out.below hb2)
   have HW2:=hid (HW.out.trans (Bears.of_below (B:=B) (b:=b) hb2))
   have HP2:=hid (qac hp hb2)
   have HQ2:=hid hq2;have x3:W2.drew.cell? ⟨Q,3,none⟩=some (encS ah):=Lib.cell_of_heap (w:=W2.drew) hq2 3
   have hlen:=congrArg List.length HE.out.1;rw [htd] at hlen;simp only [List.length_append] at hlen
   have cS:=(HT2.out.drew).str ah (by omega)
   clear hb2 hq2 hp HT HW hW2 hQ z0 z1 z2 z3 z4;go_region_law (go_simp;go_at_call 52;refine cS.mono ?_;rintro e w3 ⟨rfl,h3,hb3⟩)
   all_goals
    have hq3:=(Bears.of_drew hb3).heap HQ2.out hQb qbL
    have HQ3:=hid hq3;have HW3:=hid (HW2.out.trans (Bears.of_drew hb3))
    have HP3:=hid ((Bears.of_drew hb3).heap HP2.out hPb qcM)
    have hTab3:Tab w3:=HTab.out.low hTB (HW3.out.below hBb.1 hBb.2)
    have hS:Cells [(⟨Q,0,none⟩,.int .i64 wd),(⟨Q,1,none⟩,.bool lf),(⟨Q,2,none⟩,.bool zb),(⟨Q,4,none⟩,.int .u8 lt.toNat)] w3.drew:=qnT (Lib.cell_of_heap (w:=w3.drew) hq3 0) (Lib.cell_of_heap (w:=w3.drew) hq3 1) (Lib.cell_of_heap (w:=w3.drew) hq3 2) (Lib.cell_of_heap (w:=w3.drew) hq3 4)
    have halA:(qgW args').length≤140737488351232:=by
     cases args' with
     |nil=>simp [qgW]
     |cons a r=>exact HA.out a (by simp)
    have cC:=(h3.drew).converted hst' hTab3.drew hTB lt hokk.1 hal' (by omega)
    have hwide:=qms ⟨lt,lf,zr,wd,sz⟩ (qfX lt (qgW args'))
    simp only at hwide
    rw [hzb] at hwide;have htl:=qoT lt (qgW args')
    obtain⟨tx,htx⟩:=qQ (qfX lt (qgW args'))
    rw [htx] at cC hwide htl;have cL:=fun W=>quO wd lf zb tx W hokk.2 (by omega)
    obtain⟨y,hy⟩:=qQ (qiV wd lf zb tx)
    rw [hy] at cL hwide;rw [htx,hwide] at htd;have hlen2:=congrArg List.length HE.out.1;rw [htd] at hlen2;simp only [List.length_append] at hlen2
    have hy5:(acc'++ah).length+y.length≤140737488355328:=by rw [List.length_append];omega
    have HTD:=hid htd;clear h3 hb3 hq3 cS hlen hlen2 htd hwide htx hy htl halA;go_wp2_with fail;refine wp_region_held_drew (S:=Cells [(⟨Q,0,none⟩,.int .i64 wd),(⟨Q,1,none⟩,.bool lf),(⟨Q,2,none⟩,.bool zb),(⟨Q,4,none⟩,.int .u8 lt.toNat)]) (by kernel_rfl) hS (fun _=>?_)
    refine qaa 0 19 (.pointer (some ⟨b,0,none⟩)) rfl rfl hS ?_
    refine qaa 1 20 (.pointer (some ⟨b,0,none⟩)) rfl rfl hS ?_
    refine qaa 2 21 (.pointer (some ⟨b,0,none⟩)) rfl rfl hS ?_
    refine qaa 3 22 (.pointer (some ⟨Q,0,none⟩)) rfl rfl hS ?_
    refine qai 4 23 (.agg #[.int .i64 wd,.bool lf,.bool zb]) rfl rfl (Or.inl ⟨by rfl,fun w' hS'=>by have s0:=hS' _ (.head _);have s1:=hS' _ (.tail _ (.head _));have s2:=hS' _ (.tail _ (.tail _ (.head _)));dsimp only at s0 s1 s2;go_simp⟩) hS ?_
    refine qaa 5 24 (.pointer (some ⟨b,0,none⟩)) rfl rfl hS ?_
    refine qaa 6 25 (.pointer (some ⟨Q,4,none⟩)) rfl rfl hS ?_
    refine qai 7 26 (.int .u8 lt.toNat) rfl rfl (Or.inl ⟨by rfl,fun w' hS'=>by have s3:=hS' _ (.tail _ (.tail _ (.tail _ (.head _))));dsimp only at s3;go_simp⟩) hS ?_
    refine qae 8 rfl fun K hK=>?_
    go_simp;go_at_call 109
    refine cC.mono ?_;rintro e w4⟨rfl,h4,hb4⟩;have hq4:=(Bears.of_drew hb4).heap HQ3.out hQb qbL
    have hS4:Cells [(⟨Q,0,none⟩,.int .i64 wd),(⟨Q,1,none⟩,.bool lf),(⟨Q,2,none⟩,.bool zb),(⟨Q,4,none⟩,.int .u8 lt.toNat)] w4:=qnT (Lib.cell_of_heap hq4 0) (Lib.cell_of_heap hq4 1) (Lib.cell_of_heap hq4 2) (Lib.cell_of_heap hq4 4)
    have H4:=hid (And.intro h4 (HW3.out.trans (Bears.of_drew hb4)))
    have HP4:=hid ((Bears.of_drew hb4).heap HP3.out hPb qcM)
    have HQ4:=hid hq4;clear h4 hb4 hq4;go_wp2_with fail;refine qaE hK hS4 ?_
    clear hK K;refine qae 9 rfl fun K hK=>?_
    go_simp;go_at_call 108
    refine(cL w4).mono ?_;rintro e w5⟨rfl,hb5⟩;have hq5:=qac HQ4.out hb5;have hS5:Cells [(⟨Q,0,none⟩,.int .i64 wd),(⟨Q,1,none⟩,.bool lf),(⟨Q,2,none⟩,.bool zb),(⟨Q,4,none⟩,.int .u8 lt.toNat)] w5:=qnT (Lib.cell_of_heap hq5 0) (Lib.cell_of_heap hq5 1) (Lib.cell_of_heap hq5 2) (Lib.cell_of_heap hq5 4)
    have H5:=hid (And.intro (H4.out.1.below hb5) (H4.out.2.trans (Bears.of_below (B:=B) (b:=b) hb5)))
    have HP5:=hid (qac HP4.out hb5)
    have HQ5:=hid hq5;clear hb5 hq5;go_wp2_with fail;refine qaE hK hS5 ?_
    clear hK K;refine qae 10 rfl fun K hK=>?_
    have cS6:=H5.out.1.str y hy5;go_simp;go_at_call 52
    refine cS6.mono ?_;rintro e w6⟨rfl,h6,hb6⟩;have hq6:=hb6.heap HQ5.out hQb qbL;have hS6:Cells [(⟨Q,0,none⟩,.int .i64 wd),(⟨Q,1,none⟩,.bool lf),(⟨Q,2,none⟩,.bool zb),(⟨Q,4,none⟩,.int .u8 lt.toNat)] w6:=qnT (Lib.cell_of_heap hq6 0) (Lib.cell_of_heap hq6 1) (Lib.cell_of_heap hq6 2) (Lib.cell_of_heap hq6 4)
    have H6:=hid (And.intro h6 (H5.out.2.trans hb6))
    have HP6:=hid (hb6.heap HP5.out hPb qcM)
    clear h6 hb6 hq6 cS6;go_wp2_with fail;refine qaE hK hS6 ?_
    clear hK K;refine wpAnyH_done (by kernel_rfl) ?_ _
    clear hS hS4 hS5 hS6 cC cL;have hp6:=HP6.out;have hbad:=qq0 lt (qgW args')
    go_wp2_with fail;go_roundw
    case rel=>
     refine⟨k+1,acc'++ah++y,args'.tail,max st' (qqJ lt (qgW args')),by omega,by go_num,by omega,by rw [List.length_tail];omega,hid H6.out.1,hp6,hid H6.out.2,hid (fun a ha=>HA.out a (List.mem_of_mem_tail ha)),hid ?_⟩
     obtain⟨e1,e2,e3⟩:=HE.out;rw [HTD.out] at e1 e2 e3;simp only at e1 e2 e3
     refine⟨by rw [← e1];simp,e2,by rw [← e3];omega⟩
    case measure=>simp [intOf];omega
  ·obtain rfl:k=cvs.length:=by omega
   rw [List.drop_length] at HE;have HF:Hid (acc'=acc++(qaJ cvs args).text∧args'=(qaJ cvs args).left∧st'=max st (qaJ cvs args).st):=hid ⟨by simpa [qaJ] using HE.out.1,by simpa [qaJ] using HE.out.2.1,by simpa [qaJ] using HE.out.2.2⟩
   have hlen:=congrArg List.length HF.out.1;rw [List.length_append] at hlen;have hlt':¬(cvs.length:Int)<(cvs.length:Int):=by omega
   have x1:wr.drew.cell? ⟨P,1,none⟩=some (encS be):=Lib.cell_of_heap (w:=wr.drew) hp 1
   have cS:=(HT.out.drew).str be (by omega)
   have HP:=hid hp;clear hp HE hlen;go_wp2_with fail;go_region_law (go_simp;go_at_call 52;refine cS.mono ?_;rintro e w3 ⟨rfl,h3,hb3⟩)
   all_goals
    have hp3:=(Bears.of_drew hb3).heap HP.out hPb qcM
    have x2:w3.cell? ⟨P,2,none⟩=some (.bool fl):=Lib.cell_of_heap hp3 2
    have hst3:=h3.st3;have x3:=hst3.1;have f3:=hst3.2.1;have HZ:=hid (And.intro h3 (And.intro hst3 (HW.out.trans (Bears.of_drew hb3))))
    clear h3 hb3 hp3 hst3 cS HP;cases fl with
    |false=>
     go_wp2_with fail;go_end0;refine⟨rfl,?_,HZ.out.2.2⟩
     have:=HZ.out.1
     rw [HF.out.1,HF.out.2.1,HF.out.2.2] at this
     simpa using this
    |true=>
     go_wp2_with fail;go_end0;refine⟨rfl,?_,HZ.out.2.2.trans HZ.out.2.1.2.2.2⟩
     have:=HZ.out.2.1.2.2.1
     rw [HF.out.1,HF.out.2.1] at this;have e1:max st (max (qaJ cvs args).st 1)=1:=by
      have:=HF.out.2.2
      omega
     rw [e1,← List.append_assoc];exact this
def Pl.pre (cs:List Cv) (p:Pl):Pl:=⟨cs++p.cvs,p.behind,p.faulty⟩
def qnN (f:List UInt8) (k:Nat) (acc:List UInt8) (cvs:List Cv) (fl:Bool):Prop:=qaM f []=if fl then⟨cvs,acc,true⟩ else(qaM (f.drop k) acc).pre cvs
theorem qou (c:UInt8) (t acc:List UInt8) (h:c≠37):qaM (c::t) acc=qaM (t.drop ((qdJ c t).2-1)) (acc++(qdJ c t).1):=by
 rw [qdu];unfold qdJ;split
 ·rfl
 ·simp
theorem qnN.lit {f acc t:List UInt8} {c:UInt8} {k:Nat} {cvs:List Cv} (h:qnN f k acc cvs false) (hd:f.drop k=c::t) (hc:c≠37):qnN f (k+(qdJ c t).2) (acc++(qdJ c t).1) cvs false:=by
 unfold qnN at h ⊢
 rw [h,hd,if_neg (by simp),if_neg (by simp),qou c t acc hc];have h1:=(qfI c t).1
 have ht:t=f.drop (k+1):=by rw [← List.tail_drop,hd];rfl
 have e1:t.drop ((qdJ c t).2-1)=f.drop (k+(qdJ c t).2):=by
  conv=>lhs;arg 2;rw [ht]
  rw [List.drop_drop,show k+1+((qdJ c t).2-1)=k+(qdJ c t).2 by omega]
 rw [e1]
theorem qeT.eq {B b k:Nat} {f t acc:List UInt8} {cvs:List Cv} {w':World} (h:qeT B b f (k+1) t acc cvs w') (hd:f.drop k=37::t) (hk:k<f.length) (ha:acc.length≤k) (hc:cvs.length≤k) (he:qnN f k acc cvs false):
  ∃k' acc' cvs' fl',k'≤f.length∧(fl'=false→k<k')∧acc'.length≤f.length∧(fl'=false→acc'.length≤k')∧cvs'.length≤f.length∧(fl'=false→cvs'.length≤k')∧qb5 B b f k' acc' cvs' fl' w'∧qnN f k' acc' cvs' fl':=by
 have ht:t=f.drop (k+1):=by rw [← List.tail_drop,hd];rfl
 have htl:t.length+k+1=f.length:=by
  have:=congrArg List.length hd
  rw [List.length_drop,List.length_cons] at this;omega
 have hpl:qaM (37::t) acc=if(qaA t).letter=0 then⟨[],acc,true⟩
   else if(qaA t).letter=37 then qaM (t.drop ((qaA t).size-1)) (acc++[37])
   else(qaM (t.drop ((qaA t).size-1)) []).more ⟨qaA t,acc⟩:=by
  rw [qdu,if_neg (show ¬((37:UInt8)=92∧0<(qc9 t).2) from fun e=>absurd e.1 (by decide)),if_neg (show ¬(37:UInt8)≠37 from fun e=>e rfl)]
 have hdr:∀j,1≤j→t.drop (j-1)=f.drop (k+j):=fun j hj=>by
  rw [ht,List.drop_drop,show k+1+(j-1)=k+j by omega]
 have hsz:=qmh t;unfold qeT at h;unfold qnN at he;rw [hd,if_neg (by simp),hpl] at he;by_cases h0:(qaA t).letter=0
 ·rw [if_pos h0] at h he
  obtain⟨k',hk',h'⟩:=h;exact⟨k',acc,cvs,true,hk',by simp,by omega,by simp,by omega,by simp,h',by unfold qnN;rw [he,if_pos rfl];simp [Pl.pre]⟩
 ·rw [if_neg h0] at h he
  rcases hsz with hsz|⟨z1,z2,z3,-⟩
  ·exact absurd hsz h0
  have hkk:k+1+(qaA t).size-1=k+(qaA t).size:=by omega
  rw [hkk] at h;by_cases h37:(qaA t).letter=37
  ·rw [if_pos h37] at h he
   refine⟨k+(qaA t).size,acc++[37],cvs,false,by omega,by omega,by simp;omega,by simp;omega,by omega,by omega,h,?_⟩
   unfold qnN;rw [he,if_neg (by simp),hdr _ (by omega)]
  ·rw [if_neg h37] at h he
   refine⟨k+(qaA t).size,[],cvs++[⟨qaA t,acc⟩],false,by omega,by omega,by simp,by simp,by simp;omega,by simp;omega,h,?_⟩
   unfold qnN;rw [he,if_neg (by simp),hdr _ (by omega)];simp [Pl.pre,Pl.more]
theorem qsJ:(prog.info? 80).map (·.size)=some 3:=by kernel_rfl
theorem qoz {fn:Func} {p:Tmp} (h:fn.results=#[.cell p 80]) {R:Ending→World→Prop} {a:Act} {w:World} {g:Nat} {x y z:Value} (hp:a.tmps.getD p undef=.pointer (some ⟨g,0,none⟩))
  (hh:w.heap[g]?=some (.cells #[x,y,z] 80 (0,0))) (hd:a.defers=[]) (hR:R (.returned (.agg #[x,y,z])) w):bodyPost prog fn R .ret a w:=
 bodyPost_ret (results_cell_row h _ _ g 80 #[x,y,z] (0,0) _ hp hh underlying80 rfl qsJ) hd hR
theorem qot {N k:Nat} {f acc:List UInt8} {cvs:List Cv} {fl:Bool} {p v cv:Value} {w w3:World} (hbk:w3.heap[N+1]?=some (.cells (plC f k p v cv fl) 119 (0,0))) (hrow:w3.ownsRow (N+1) 124 5 cv cvs.length (qeW cvs))
  (hn:w3.heap[N]?=some (.cells #[.slice none 0 0,encS [],.bool false] 80 (0,0))) (hB:Below N w w3):
  ((((w3.setCell ⟨N+1,5,none⟩ (encS acc)).setCell ⟨N,0,none⟩ cv).setCell ⟨N,1,none⟩ (encS acc)).setCell ⟨N,2,none⟩ (.bool fl)).heap[N]?=some (.cells #[cv,encS acc,.bool fl] 80 (0,0))∧
  ((((w3.setCell ⟨N+1,5,none⟩ (encS acc)).setCell ⟨N,0,none⟩ cv).setCell ⟨N,1,none⟩ (encS acc)).setCell ⟨N,2,none⟩ (.bool fl)).ownsRow N 124 5 cv cvs.length (qeW cvs)∧
  Below N w ((((w3.setCell ⟨N+1,5,none⟩ (encS acc)).setCell ⟨N,0,none⟩ cv).setCell ⟨N,1,none⟩ (encS acc)).setCell ⟨N,2,none⟩ (.bool fl)):=by
 have hne1:=qao hrow hbk qbu;have hne2:=qao hrow hn (show 80≠124 by decide)
 have r0:w3.ownsRow N 124 5 cv cvs.length (qeW cvs):=by
  refine⟨hrow.1,?_⟩
  rcases hrow.2 with h|⟨g,cap,cur,e1,e2,e3⟩
  ·exact .inl h
  ·exact .inr ⟨g,cap,cur,e1,by omega,e3⟩
 have h1:(w3.setCell ⟨N+1,5,none⟩ (encS acc)).heap[N]?=some (.cells #[.slice none 0 0,encS [],.bool false] 80 (0,0)):=(Below.heap_setCell _ _ _ _ (by simp)).trans hn
 have r1:=ownsRow_setCell_other (a:=⟨N+1,5,none⟩) r0 hne1 (encS acc)
 have b1:=hB.setCell (p:=⟨N+1,5,none⟩) (Nat.le_succ N) (encS acc)
 generalize w3.setCell ⟨N+1,5,none⟩ (encS acc)=V1 at *;have h2:=heap_setCell_same _ N 0 _ _ cv h1;have r2:=ownsRow_setCell_other (a:=⟨N,0,none⟩) r1 hne2 cv
 have b2:=b1.setCell (p:=⟨N,0,none⟩) (Nat.le_refl N) cv
 generalize V1.setCell ⟨N,0,none⟩ cv=V2 at *;have h3:=heap_setCell_same _ N 1 _ _ (encS acc) h2
 have r3:=ownsRow_setCell_other (a:=⟨N,1,none⟩) r2 hne2 (encS acc)
 have b3:=b2.setCell (p:=⟨N,1,none⟩) (Nat.le_refl N) (encS acc)
 generalize V2.setCell ⟨N,1,none⟩ (encS acc)=V3 at *;have h4:=heap_setCell_same _ N 2 _ _ (.bool fl) h3
 have r4:=ownsRow_setCell_other (a:=⟨N,2,none⟩) r3 hne2 (.bool fl)
 have b4:=b3.setCell (p:=⟨N,2,none⟩) (Nat.le_refl N) (.bool fl)
 refine⟨?_,r4,b4⟩
 rw [h4];simp
def qkU (w':World) (N:Nat) (f:List UInt8) (v:Value):Prop:=∃A c,v=.agg #[.slice A (qaM f []).cvs.length c,encS (qaM f []).behind,.bool (qaM f []).faulty]∧w'.ownsRow N 124 5 (.slice A (qaM f []).cvs.length c) (qaM f []).cvs.length (qeW (qaM f []).cvs)
theorem qlY {N k:Nat} {f acc:List UInt8} {cvs:List Cv} {fl:Bool} {cv:Value} {W:World} (he:qnN f k acc cvs fl) (hk:fl=false→k=f.length) (hr:W.ownsRow N 124 5 cv cvs.length (qeW cvs)):qkU W N f (.agg #[cv,encS acc,.bool fl]):=by
 have e:qaM f []=⟨cvs,acc,fl⟩:=by
  unfold qnN at he;cases fl with
  |true=>rw [he,if_pos rfl]
  |false=>rw [he,if_neg (by simp),hk rfl,List.drop_length,qcY];simp [Pl.pre]
 unfold qkU;rw [e];rcases hr.2 with ⟨rfl,h0⟩|⟨g,cap,cur,rfl,h⟩
 ·have:cvs=[]:=List.eq_nil_of_length_eq_zero h0
  subst this;exact⟨none,0,rfl,hr⟩
 ·exact⟨_,cap,rfl,hr⟩
theorem qni (f:List UInt8) (w:World) (hs:f.length≤140737488351232) (hm:f.length≤1073741824∨∀x∈f,x≠37):
  Calls prog 54 #[encS f] w fun e w'=>∃v,e=.returned v∧qkU w' w.heap.size f v∧Below w.heap.size w w':=by
 obtain⟨N,hN⟩:=qQ (w.heap.size)
 have HN:=hid hN;have HM:=hid hm;clear hm;obtain⟨W1,hW1⟩:=qQ (w.alloc (.cells #[.slice none 0 0,encS [],.bool false] 80))
 have hs1:W1.heap.size=N+1:=by rw [← hW1,← hN];simp
 obtain⟨W2,hW2⟩:=qQ (W1.alloc (.cells #[encS f,.int .i64 0,.pointer none,.slice none 0 0,.slice none 0 0,encS [],.bool false] 119))
 have hs2:W2.heap.size=N+2:=by rw [← hW2];simp;omega
 have hr1:W1.heap[N]?=some (.cells #[.slice none 0 0,encS [],.bool false] 80 (0,0)):=by rw [← hW1,← hN];exact heap_alloc_new _ _
 have hr2:W2.heap[N]?=some (.cells #[.slice none 0 0,encS [],.bool false] 80 (0,0)):=by rw [← hW2];exact(Below.heap_alloc _ _ _ (by omega)).trans hr1
 have ho2:W2.heap[N+1]?=some (.cells #[encS f,.int .i64 0,.pointer none,.slice none 0 0,.slice none 0 0,encS [],.bool false] 119 (0,0)):=by rw [← hW2,← hs1];exact heap_alloc_new _ _
 have hB2:Below N w W2:=by
  rw [← hW2,← hW1];exact((Below.refl _ _).alloc (by omega) _).alloc (by simp;omega) _
 have hP2:qb5 (N+1) (N+1) f 0 [] [] false W2:=⟨.pointer none,.slice none 0 0,.slice none 0 0,qb9 119 W2 (N+1) (N+1) 2 _ qdK (Nat.le_refl _) ho2 rfl rfl,World.ownsRow_nil _ _ _ _,by omega⟩
 have HI:=hid (And.intro hP2 (And.intro hr2 hB2))
 clear hr1 hr2 ho2 hB2 hs1 hs2 hP2;subst hW2;subst hW1;go_enter func54,ntmps54;go_wp2_with fail;go_loopg [] (f.length+1) (fun n wr=>∃(k:Nat) (acc:List UInt8) (cvs:List Cv) (fl:Bool),k≤f.length∧(fl=false→k+n=f.length+1)∧acc.length≤f.length∧(fl=false→acc.length≤k)∧cvs.length≤f.length∧(fl=false→cvs.length≤k)∧qb5 (N+1) (N+1) f k acc cvs fl wr∧Hid (qnN f k acc cvs fl)∧wr.heap[N]?=some (.cells #[.slice none 0 0,encS [],.bool false] 80 (0,0))∧Hid (Below N w wr))
 case atStart=>exact⟨0,[],[],false,by omega,by omega,by simp,by simp,by simp,by simp,HI.out.1,hid (by unfold qnN;rw [if_neg (by simp)];simp [Pl.pre]),HI.out.2.1,hid HI.out.2.2⟩
 case round=>
  obtain⟨k,acc,cvs,fl,hk,hkn,hal,hak,hcl,hck,hP,HE,hRN,HW⟩:=hrel;have cM:=hP.more;have x6:=fun n=>(hP.drewN n).c6
  have HPL:=hid hP;have HRN:=hid hRN;clear HI hP hRN
  -- the end,wherever the loop is left
  have hend:∀W:World,Below N w W→W.heap[N]?=some (.cells #[.slice none 0 0,encS [],.bool false] 80 (0,0))→qb5 (N+1) (N+1) f k acc cvs fl W→(fl=false→k=f.length)→∃p v A cc,
    Calls prog 53 #[.pointer (some ⟨N+1,2,none⟩)] W (fun e w'=>e=.returned (encS acc)∧(w'.cell? ⟨N+1,4,none⟩=some (.slice A cvs.length cc)∧w'.cell? ⟨N+1,5,none⟩=some (encS [])∧w'.cell? ⟨N+1,6,none⟩=some (.bool fl))∧(w'.frozen? ⟨N+1,5,none⟩=false∧w'.frozen? ⟨N,0,none⟩=false∧w'.frozen? ⟨N,1,none⟩=false∧w'.frozen? ⟨N,2,none⟩=false)∧(w'.cell? ⟨N,0,none⟩=some (.slice none 0 0)∧w'.cell? ⟨N,1,none⟩=some (encS [])∧w'.cell? ⟨N,2,none⟩=some (.bool false))∧
     Hid (w'.heap[N+1]?=some (.cells (plC f k p v (.slice A cvs.length cc) fl) 119 (0,0))∧w'.ownsRow (N+1) 124 5 (.slice A cvs.length cc) cvs.length (qeW cvs)∧w'.heap[N]?=some (.cells #[.slice none 0 0,encS [],.bool false] 80 (0,0))∧Below N w w')):=fun W hBW hNW hPW _=>by
   obtain⟨p,v,cv,h1,h2,h3⟩:=hPW;obtain⟨A,cc,rfl⟩:∃A cc,cv=.slice A cvs.length cc:=by
    rcases h2.2 with ⟨rfl,h0⟩|⟨g,cap,cur,rfl,-⟩
    ·exact⟨none,0,by rw [h0]⟩
    ·exact⟨_,cap,rfl⟩
   refine⟨p,v,A,cc,(qaN 119 (N+1) (N+1) 2 _ acc W h1).mono ?_⟩
   rintro e w'⟨rfl,hb,ho⟩;have hb':=hb.trans h1.2.2.1
   have hn':=(ho.block N (lt_of_block hNW) (by omega) (.inl (by omega))).trans hNW
   exact⟨rfl,⟨Lib.cell_of_heap hb' 4,Lib.cell_of_heap hb' 5,Lib.cell_of_heap hb' 6⟩,⟨Lib.frozen_of_heap hb' 5,Lib.frozen_of_heap hn' 0,Lib.frozen_of_heap hn' 1,Lib.frozen_of_heap hn' 2⟩,⟨Lib.cell_of_heap hn' 0,Lib.cell_of_heap hn' 1,Lib.cell_of_heap hn' 2⟩,hid ⟨hb',ho.row h2 qbL (qao h2 h1.2.2.1 qbu),hn',hBW.trans ((ho.below (Nat.le_refl _) h3).mono (by omega))⟩⟩
  by_cases hlt:k<f.length
  ·rw [decide_eq_true hlt] at cM
   cases fl with
   |false=>
    have hd:f.drop k=f[k]::f.drop (k+1):=List.drop_eq_getElem_cons hlt
    obtain⟨c,hc⟩:=qQ (f[k])
    obtain⟨t,ht⟩:=qQ (f.drop (k+1))
    rw [hc,ht] at hd;have htl:t.length+k+1=f.length:=by rw [← ht,List.length_drop];omega
    have hR:=fun n=>(HPL.out.drewN n).run [37] 1 hk (by omega)
    rw [hd] at hR;by_cases h37:c=37
    ·subst h37
     have hs3:f.length≤1073741824:=HM.out.resolve_right fun h=>h 37 (List.mem_of_mem_drop (show(37:UInt8)∈f.drop k by rw [hd];exact List.mem_cons_self ..)) rfl
     have hr:qcB [37] 1 (37::t)=[37]:=by
      rcases qgs [37] (37::t) with ⟨-,h2⟩|⟨c,r',h1,-,h3⟩
      ·exact absurd (h2 37 t rfl) (by decide)
      ·rw [h3,(List.cons.inj h1).1]
     rw [hr] at hR;have hak':=hak rfl
     have hck':=hck rfl
     have hkn':=hkn rfl
     clear hr hend hc hak hck hkn;go_wp2_with fail;refine cM.mono ?_;rintro e w1⟨rfl,m,rfl⟩;have x6:=x6 m;have hR:=hR m;go_wp2_with fail;refine hR.mono ?_;rintro e w2⟨rfl,h2,hb2⟩;have hn2:=(hb2.block N (by omega)).trans (show(wr.drewN m).heap[N]?=_ from HRN.out)
     have cP:=qnd (N+1) (N+1) (k+1) f t acc cvs w2 h2 ht (by omega) (by omega) (by omega) (by omega)
     have HB2:=hid (And.intro hn2 ((below_drewN HW.out m).trans (hb2.mono (by omega))))
     clear h2 hb2 hn2 hR;go_wp2_with fail;refine cP.mono ?_;rintro e w3⟨rfl,h3,hb3⟩;have HQ:=hid (h3.eq hd hlt hak' hck' HE.out)
     have HB3:=hid (And.intro ((hb3.block N (by omega)).trans HB2.out.1) (HB2.out.2.trans (hb3.mono (by omega))))
     clear h3 hb3 cP HB2;go_wp2_with fail;obtain⟨k',acc',cvs',fl',q1,q2,q3,q4,q5,q6,q7,q8⟩:=HQ.out;go_roundg (if fl' then 0 else f.length+1-k')
     case rel=>exact⟨k',acc',cvs',fl',q1,fun e=>by rw [e];simp;omega,q3,q4,q5,q6,q7,hid q8,HB3.out.1,hid HB3.out.2⟩
     case measure=>
      cases fl' with
      |true=>simp;omega
      |false=>have:=q2 rfl;simp;omega
    ·have hr:qcB [37] 1 (c::t)=[]:=by
      rcases qgs [37] (c::t) with ⟨h1,-⟩|⟨c',r',h1,h2,-⟩
      ·exact h1
      ·have:c'=37:=by
        have:=Ans.all_u8 (p:=fun c=>inB [37] c=true→c=37) (by decide +kernel) c'
        exact this h2
       exact absurd ((List.cons.inj h1).1.trans this) h37
     rw [hr] at hR;have hak':=hak rfl
     have hck':=hck rfl
     have hkn':=hkn rfl
     have HQ:=hid (HE.out.lit hd h37)
     have hll:=qfI c t;obtain⟨⟨u,j⟩,hu⟩:∃u,qdJ c t=u:=⟨_,rfl⟩
     rw [hu] at HQ hll;simp only at HQ hll
     have HU:=hid hu;clear hr hend hc hak hck hkn HE hu;go_wp2_with fail;refine cM.mono ?_;rintro e w1⟨rfl,m,rfl⟩;have x6:=x6 m;have hR:=hR m;go_wp2_with fail;refine hR.mono ?_;rintro e w2⟨rfl,h2,hb2⟩;have hn2:=(hb2.block N (by omega)).trans (show(wr.drewN m).heap[N]?=_ from HRN.out)
     have h2':qb5 (N+1) (N+1) f k acc cvs false w2:=h2
     have cL:=h2'.lit hd (by omega)
     rw [HU.out] at cL;have HB2:=hid (And.intro hn2 ((below_drewN HW.out m).trans (hb2.mono (by omega))))
     clear h2 h2' hb2 hn2 hR;go_wp2_with fail;refine cL.mono ?_;rintro e w3⟨rfl,h3,hb3⟩;have cW:=h3.str u (by omega)
     have HB3:=hid (And.intro ((hb3.block N (by omega)).trans HB2.out.1) (HB2.out.2.trans (hb3.mono (by omega))))
     clear h3 hb3 cL HB2;go_wp2_with fail;refine cW.mono ?_;rintro e w4⟨rfl,h4,hb4⟩;have H4:=hid h4;have HB4:=hid (And.intro ((hb4.block N (by omega)).trans HB3.out.1) (HB3.out.2.trans (hb4.mono (by omega))))
     clear h4 hb4 cW HB3;go_wp2_with fail;go_roundg (f.length+1-(k+j))
     case rel=>exact⟨k+j,acc++u,cvs,false,by omega,by omega,by rw [List.length_append];omega,fun _=>by rw [List.length_append];omega,hcl,fun _=>by omega,H4.out,HQ,HB4.out.1,hid HB4.out.2⟩
     case measure=>omega
   |true=>
    go_wp2_with fail;refine cM.mono ?_;rintro e w1⟨rfl,m,rfl⟩;have x6:=x6 m;obtain⟨p,v,A,cc,cS⟩:=hend (wr.drewN m) (below_drewN HW.out m) HRN.out (HPL.out.drewN m) (by simp)
    go_wp2_with fail;refine cS.mono ?_;rintro e w3⟨rfl,⟨a4,a5,a6⟩,⟨b5,d0,d1,d2⟩,⟨e0,e1,e2⟩,HF⟩;have HZ:=hid (qot (acc:=acc) HF.out.1 HF.out.2.1 HF.out.2.2.1 HF.out.2.2.2)
    have HQ:=hid (qlY HE.out (by simp) HZ.out.2.1)
    clear cS;go_wp2_with fail;refine qoz rfl rfl HZ.out.1 rfl ?_
    exact⟨_,rfl,by rw [HN.out];exact HQ.out,by rw [HN.out];exact HZ.out.2.2⟩
  ·rw [decide_eq_false hlt] at cM
   have hke:fl=false→k=f.length:=fun _=>by omega
   go_wp2_with fail;refine cM.mono ?_;rintro e w1⟨rfl,m,rfl⟩;obtain⟨p,v,A,cc,cS⟩:=hend (wr.drewN m) (below_drewN HW.out m) HRN.out (HPL.out.drewN m) hke
   go_wp2_with fail;refine cS.mono ?_;rintro e w3⟨rfl,⟨a4,a5,a6⟩,⟨b5,d0,d1,d2⟩,⟨e0,e1,e2⟩,HF⟩;have HZ:=hid (qot (acc:=acc) HF.out.1 HF.out.2.1 HF.out.2.2.1 HF.out.2.2.2)
   have HQ:=hid (qlY HE.out (by exact hke) HZ.out.2.1)
   clear cS;go_wp2_with fail;refine qoz rfl rfl HZ.out.1 rfl ?_
   exact⟨_,rfl,by rw [HN.out];exact HQ.out,by rw [HN.out];exact HZ.out.2.2⟩
theorem qnh (f:List UInt8) (w:World) (hs:f.length≤1073741824):
  Calls prog 54 #[encS f] w fun e w'=>∃v,e=.returned v∧qkU w' w.heap.size f v∧Below w.heap.size w w':=qni f w (by omega) (.inl hs)
def qeU (l:List Cv):Nat:=(l.map fun c=>c.ahead.length).sum
theorem qxk (wd:Nat) (l z:Bool) (s:List UInt8):(qiV wd l z s).length≤s.length+wd:=by
 have h:=congrArg List.length (qoJ s)
 rw [List.length_append] at h;unfold qiV;split
 ·rw [List.length_append,List.length_replicate];omega
 ·split
  ·rw [List.length_append,List.length_append,List.length_replicate];omega
  ·rw [List.length_append,List.length_replicate];omega
theorem qvW (x:Sp) (hx:x.wide≤999) (a:List UInt8):(qgy x a).1.length≤a.length+1099:=by
 rw [qiz];simp only
 rw [qms];have h1:=qxk x.wide x.left (x.zeros&&qkn x.letter) (qfX x.letter a)
 have h2:=qoT x.letter a;omega
theorem qky:∀(l:List Cv) (args:List (List UInt8)),(∀x∈l,x.sp.wide≤999)→(qaJ l args).text.length+qaf (qaJ l args).left≤qeU l+1100*l.length+qaf args
 |[],args,_=>by simp [qaJ,qeU]
 |c::r,args,h=>by
  have ih:=qky r args.tail (fun x hx=>h x (by simp [hx]))
  have ht:=qvW c.sp (h c (by simp)) (qgW args)
  have hs:(qgW args).length+qaf args.tail≤qaf args:=by
   cases args with
   |nil=>simp [qgW]
   |cons a b=>simp only [qgW,List.headD_cons,List.tail_cons,qaf,List.map_cons,List.sum_cons];omega
  have e:qeU (c::r)=c.ahead.length+qeU r:=by simp [qeU]
  rw [qaJ,e];simp only [List.length_append,List.length_cons]
  omega
theorem qnA:∀(l:List Cv) (args:List (List UInt8)),(qaJ l args).st≤1
 |[],args=>by simp [qaJ]
 |c::r,args=>by
  have h1:=qnA r args.tail;have h2:=qq0 c.sp.letter (qgW args)
  rw [qaJ,qiz];simp only
  omega
theorem ql8 (T L L' s s' F n:Nat) (hn:1≤n) (hL:1≤L') (he:L'=L-n) (h:T+s'≤F+1100*n+s):T+L'*(F+1100)+s'≤L*(F+1100)+s:=by
 obtain⟨d,rfl⟩:∃d,L=L'+n:=⟨0,by omega⟩
 have h1:(L'+n)*(F+1100)=L'*(F+1100)+n*(F+1100):=Nat.add_mul _ _ _
 have h2:n*(F+1100)=n*F+n*1100:=Nat.mul_add _ _ _
 have h3:F≤n*F:=Nat.le_mul_of_pos_left F hn
 omega
theorem qqu (t:List UInt8):(qaA t).wide≤999:=by
 have key:∀a b k (u:List UInt8),(qd3 a b k u).wide≤999:=fun a b k u=>by
  have hd:qnZ (qcC u)≤999:=qgc _ (qmt u) (qiK u).1
  unfold qd3;split
  ·exact Nat.zero_le _
  ·split
   ·exact hd
   ·exact Nat.zero_le _
 cases t with
 |nil=>exact key _ _ _ _
 |cons c r=>
  rw [qgv];split
  ·exact Nat.zero_le _
  ·split<;>exact key _ _ _ _
theorem qqj:∀(n:Nat) (s acc:List UInt8),s.length≤n→qeU (qaM s acc).cvs+(qaM s acc).behind.length≤acc.length+s.length∧(qaM s acc).cvs.length≤s.length∧∀x∈(qaM s acc).cvs,qbz x.sp.letter=true∧x.sp.wide≤999:=by
 intro n
 induction n with
 |zero=>
  intro s acc h
  obtain rfl:=List.eq_nil_of_length_eq_zero (by omega:s.length=0)
  rw [qcY];simp [qeU]
 |succ n ih=>
  intro s acc h
  cases s with
  |nil=>
   rw [qcY];simp [qeU]
  |cons c t=>
   simp only [List.length_cons] at h
   by_cases h37:c=37
   ·subst h37
    rw [qdu,if_neg (show ¬((37:UInt8)=92∧0<(qc9 t).2) from fun e=>absurd e.1 (by decide)),if_neg (show ¬(37:UInt8)≠37 from fun e=>e rfl)];by_cases h0:(qaA t).letter=0
    ·rw [if_pos h0]
     simp [qeU]
    ·rw [if_neg h0]
     rcases qmh t with hz|⟨z1,z2,z3,z4⟩
     ·exact absurd hz h0
     by_cases h37:(qaA t).letter=37
     ·rw [if_pos h37]
      have:=ih (t.drop ((qaA t).size-1)) (acc++[37]) (by rw [List.length_drop];omega)
      rw [List.length_drop,List.length_append,List.length_singleton] at this;simp only [List.length_cons]
      exact⟨by omega,by omega,this.2.2⟩
     ·rw [if_neg h37]
      have:=ih (t.drop ((qaA t).size-1)) [] (by rw [List.length_drop];omega)
      rw [List.length_drop] at this;simp only [List.length_cons,Pl.more,qeU,List.map_cons,List.sum_cons] at this ⊢
      refine⟨by simp only [List.length_nil] at this;omega,by omega,fun x hx=>?_⟩
      rcases List.mem_cons.1 hx with rfl|hx
      ·exact⟨z4.resolve_left h37,qqu t⟩
      ·exact this.2.2 x hx
   ·rw [qou c t acc h37]
    have hl:=qfI c t;have:=ih (t.drop ((qdJ c t).2-1)) (acc++(qdJ c t).1) (by rw [List.length_drop];omega)
    rw [List.length_drop,List.length_append] at this;simp only [List.length_cons]
    exact⟨by omega,by omega,this.2.2⟩
def qgV (f:List UInt8) (left:List (List UInt8)):Prop:=left≠[]∧(qaM f []).cvs≠[]∧(qaM f []).faulty=false
instance (f:List UInt8) (left:List (List UInt8)):Decidable (qgV f left):=by unfold qgV;exact inferInstance
def FEq (f:List UInt8) (args:List (List UInt8)) (acc:List UInt8) (left:List (List UInt8)) (st:Nat):Prop:=
 qaV f args=if qgV f left then(acc++(qaV f left).1,max st (qaV f left).2) else(acc,st)
theorem qn3 (f:List UInt8) (args0 args:List (List UInt8)) (acc:List UInt8) (st:Nat) (h:qaV f args0=(acc++(qaV f args).1,max st (qaV f args).2)):
  FEq f args0 (acc++(qbf f args).text) (qbf f args).left (max st (qbf f args).st):=by
 unfold FEq;rw [h];by_cases hc:qgV f (qbf f args).left
 ·rw [if_pos hc,qmQ f args hc.1 hc.2.1 hc.2.2]
  simp only [List.append_assoc,Nat.max_assoc]
 ·rw [if_neg hc]
  have he:(qbf f args).left=[]∨(qaM f []).cvs=[]∨(qaM f []).faulty=true:=by
   unfold qgV at hc;by_cases h1:(qbf f args).left=[]
   ·exact .inl h1
   ·by_cases h2:(qaM f []).cvs=[]
    ·exact .inr (.inl h2)
    ·right;right
     cases h3:(qaM f []).faulty with
     |true=>rfl
     |false=>exact absurd ⟨h1,h2,h3⟩ hc
  rw [qpB f args he]
theorem qew.told {B b st:Nat} {acc:List UInt8} {args:List (List UInt8)} {w:World} (h:qew B b acc args st w):
  Calls prog 53 #[.pointer (some ⟨b,0,none⟩)] w fun e w'=>e=.returned (encS acc)∧w'.cell? ⟨b,3,none⟩=some (.int .i64 st)∧Bears B b w w':=by
 obtain⟨p,v,A,c,h1,h2,h3,h4⟩:=h;refine(qaN 83 B b 0 _ acc w h1).mono ?_;rintro e w'⟨rfl,hb,ho⟩;exact⟨rfl,Lib.cell_of_heap (hb.trans h1.2.2.1) 3,ho⟩
theorem qew.slice {B b st:Nat} {acc:List UInt8} {args:List (List UInt8)} {w:World} (h:qew B b acc args st w):∃A c,w.cell? ⟨b,2,none⟩=some (.slice A args.length c):=by
 obtain⟨p,v,A,c,h1,h2,h3,h4⟩:=h;exact⟨A,c,Lib.cell_of_heap h1.2.2.1 2⟩
theorem qu3:83≠124:=by decide
theorem qpA (f:List UInt8) (A0:Option Addr) (c0:Nat) (args:List (List UInt8)) (w:World) (hA:qat w (fun _=>True) A0 args) (hc:args.length≤c0) (hz:f.length+qaf args≤2200000) (hT:Tab w):
  Calls prog 29 #[encS f,.slice A0 args.length c0] w fun e w'=>e=.returned (.tuple #[encS (qaV f args).1,.int .i64 (qaV f args).2])∧Below w.heap.size w w':=by
 obtain⟨N,hN⟩:=qQ (w.heap.size)
 have HN:=hid hN;have hTB:7<N:=by rw [← hN];exact World.block_lt_of_cell? w _ hT.1
 have hAB:qat w (fun g=>g<N) A0 args:=fun k hk=>by
  obtain⟨g,o,e,-,h⟩:=hA k hk;exact⟨g,o,e,by rw [← hN];exact World.block_lt_of_cell? w _ h,h⟩
 have hsl:=qaG args;have cP:=qnh f w (by omega)
 rw [hN] at cP;have hpf:=qqj f.length f [] (Nat.le_refl _)
 have HOnce:=hid (fun l=>qeJ f l)
 have HCont:Hid (∀l,qgV f l↔l≠[]∧(qaM f []).cvs≠[]∧(qaM f []).faulty=false):=hid fun _=>Iff.rfl
 obtain⟨⟨cvs,be,fl⟩,hpl⟩:∃p,qaM f []=p:=⟨_,rfl⟩
 unfold qkU at cP;rw [hpl] at cP hpf HOnce HCont;simp only [List.length_nil,Nat.zero_add] at cP hpf HOnce HCont
 obtain⟨hp1,hp2,hok⟩:=hpf;have HW:=hid (And.intro hAB hT)
 clear hA hAB hT hpl;go_enter func29,ntmps29;go_wp2_with fail;refine cP.mono ?_;rintro e w1⟨v,rfl,⟨A,c,rfl,hrow⟩,hb1⟩;go_wp2_with fail;obtain⟨P,hP⟩:=qQ (w1.heap.size)
 obtain⟨W2,hW2⟩:=qQ (w1.alloc (.cells #[.slice A cvs.length c,encS be,.bool fl] 80))
 obtain⟨W3,hW3⟩:=qQ (W2.alloc (.cells #[.pointer none,.slice none 0 0,.slice A0 args.length c0,.int .i64 0] 83))
 have hsw:w.heap.size≤w1.heap.size:=hb1.size
 have hs2:W2.heap.size=P+1:=by rw [← hW2,← hP];simp
 have hb2:Below w1.heap.size w1 W2:=by rw [← hW2];exact(Below.refl _ _).alloc (Nat.le_refl _) _
 have hb3:Below W2.heap.size W2 W3:=by rw [← hW3];exact(Below.refl _ _).alloc (Nat.le_refl _) _
 have hp2':W2.heap[P]?=some (.cells #[.slice A cvs.length c,encS be,.bool fl] 80 (0,0)):=by rw [← hW2,← hP];exact heap_alloc_new _ _
 have hp3:=qac hp2' hb3;have ht3:W3.heap[P+1]?=some (.cells #[.pointer none,.slice none 0 0,.slice A0 args.length c0,.int .i64 0] 83 (0,0)):=by rw [← hW3,← hs2];exact heap_alloc_new _ _
 have hB3:Below N w W3:=hb1.trans ((hb2.mono (by omega)).trans (hb3.mono (by omega)))
 have hs3:N≤W3.heap.size:=by have:=hB3.size;omega
 have hR3:=own_below (own_below hrow hb2) hb3
 have hRb:=qao hR3 ht3 qu3;rw [show(w1.alloc (.cells #[.slice A cvs.length c,.string { data:=be.toArray },.bool fl] 80))=W2 from hW2,hW3,hP];have hTl:qew N (P+1) [] args 0 W3:=⟨.pointer none,.slice none 0 0,A0,c0,qb9 83 W3 N (P+1) 0 _ qu4 (by omega) ht3 rfl rfl,hc,HW.out.1.low hB3,hs3⟩
 have hT3:=HW.out.2.low hTB hB3;have hlen:=qky cvs args (fun x hx=>(hok x hx).2)
 have hM:args.length*(f.length+1100)≤4842420000000:=Nat.le_trans (Nat.mul_le_mul (show args.length≤2200000 by omega) (show f.length+1100≤2201100 by omega)) (by decide)
 have hargs:∀a∈args,a.length≤140737488351232:=fun a ha=>by have:=qaH args a ha;omega
 have cT:=qoR N (P+1) 0 [] be args cvs fl A c N W3 hTl (by omega) hT3 hTB hR3 hRb hok (by omega) (by omega) hargs (by simp only [List.length_nil];omega)
 have hleft:=qfW cvs args;have HF0:Hid (FEq f args ([]++(qaJ cvs args).text++be) (qaJ cvs args).left (max 0 (max (qaJ cvs args).st (if fl then 1 else 0)))):=hid (by
  have:=qn3 f args args [] 0 (by simp)
  rw [HOnce.out] at this
  simpa using this)
 have HB3:=hid hB3;have HP3:=hid hp3;have HR3:=hid hR3;have HRb:=hid hRb;have HT3:=hid hT3;have hbN:N≤P+1:=by omega
 have hsN:=hs3;clear hW3 hW2 hb2 hb3 hp2' hp3 ht3 hB3 hR3 hRb hTl hT3 hs2 hrow hb1 hs3 hP cP;go_wp2_with fail;refine cT.mono ?_;rintro e w4⟨rfl,h4,hb4⟩;have H4:=hid h4;have HB4:=hid hb4;have HP4:=hid (hb4.heap HP3.out (by omega) qcM)
 clear h4 hb4 cT;go_wp2_with fail;go_loopg [] (qaJ cvs args).left.length (fun n wr=>∃(acc:List UInt8) (left:List (List UInt8)) (st:Nat),left.length=n∧st≤1∧left.length≤2200000∧Hid (qew N (P+1) acc left st wr)∧wr.heap[P]?=some (.cells #[.slice A cvs.length c,encS be,.bool fl] 80 (0,0))∧Hid (Bears N (P+1) W3 wr)∧Hid (FEq f args acc left st)∧
   Hid (∀a∈left,a.length≤140737488351232)∧Hid ((qgV f left→acc.length+left.length*(f.length+1100)+qaf left≤args.length*(f.length+1100)+qaf args)))
 case atStart=>
  refine⟨_,_,_,rfl,by have:=qnA cvs args;split<;>omega,by rw [hleft,List.length_drop];omega,hid H4.out,HP4.out,hid HB4.out,HF0,hid (fun a ha=>hargs a (by rw [hleft] at ha;exact List.mem_of_mem_drop ha)),hid (fun hcc=>?_)⟩
  have hcc:=(HCont.out _).1 hcc
  have hn0:1≤cvs.length:=List.length_pos_iff.2 hcc.2.1
  have hl0:1≤(qaJ cvs args).left.length:=List.length_pos_iff.2 hcc.1
  exact ql8 _ _ _ _ _ _ _ hn0 hl0 (by rw [hleft,List.length_drop]) (by simp only [List.length_append,List.length_nil];omega)
 case round=>
  obtain⟨acc,left,st,hln,hst,hll,HT,hp,HWr,HE,HQ,HS⟩:=hrel;obtain⟨A',c',x2⟩:=HT.out.slice;have p0:wr.cell? ⟨P,0,none⟩=some (.slice A cvs.length c):=Lib.cell_of_heap hp 0
  have p1:wr.cell? ⟨P,1,none⟩=some (encS be):=Lib.cell_of_heap hp 1
  have p2:wr.cell? ⟨P,2,none⟩=some (.bool fl):=Lib.cell_of_heap hp 2
  have HPr:=hid hp;clear hp HF0 hlen;by_cases hl0:left=[]
  ·have hnc:¬qgV f left:=fun h=>((HCont.out _).1 h).1 hl0
   have g1:¬(0:Int)<(left.length:Int):=by rw [hl0];simp
   clear hl0;have HFE:Hid (qaV f args=(acc,st)):=hid (by have:=HE.out;unfold FEq at this;rw [if_neg hnc] at this;exact this)
   have cS:=(HT.out.drew).told
   have x3:wr.drew.cell? ⟨P+1,3,none⟩=some (.int .i64 st):=(HT.out).st3.1
   clear HE hnc HS HQ;go_wp2_with fail;go_region_law (go_simp;go_at_call 53;refine cS.mono ?_;rintro e w6 ⟨rfl,x36,hb6⟩)
   all_goals
    have hFB:=hid (HB3.out.trans ((HWr.out.trans (Bears.of_drew hb6)).below hbN hsN))
    clear hb6 cS;go_wp2_with fail;go_ret2;rw [HFE.out];exact⟨rfl,by rw [HN.out];exact hFB.out⟩
  ·have g1:(0:Int)<(left.length:Int):=by have:=List.length_pos_iff.2 hl0;omega
   by_cases hc0:cvs=[]
   ·have hnc:¬qgV f left:=fun h=>((HCont.out _).1 h).2.1 hc0
    have g2:¬(0:Int)<(cvs.length:Int):=by rw [hc0];simp
    clear hc0 hl0;have HFE:Hid (qaV f args=(acc,st)):=hid (by have:=HE.out;unfold FEq at this;rw [if_neg hnc] at this;exact this)
    have cS:=(HT.out.drew).told
    have x3:wr.drew.cell? ⟨P+1,3,none⟩=some (.int .i64 st):=(HT.out).st3.1
    clear HE hnc HS HQ;go_wp2_with fail;go_region_law (go_simp;go_at_call 53;refine cS.mono ?_;rintro e w6 ⟨rfl,x36,hb6⟩)
    all_goals
     have hFB:=hid (HB3.out.trans ((HWr.out.trans (Bears.of_drew hb6)).below hbN hsN))
     clear hb6 cS;go_wp2_with fail;go_ret2;rw [HFE.out];exact⟨rfl,by rw [HN.out];exact hFB.out⟩
   ·have g2:(0:Int)<(cvs.length:Int):=by have:=List.length_pos_iff.2 hc0;omega
    cases fl with
    |true=>
     have hnc:¬qgV f left:=fun h=>by have:=((HCont.out _).1 h).2.2;cases this
     clear hc0 hl0;have HFE:Hid (qaV f args=(acc,st)):=hid (by have:=HE.out;unfold FEq at this;rw [if_neg hnc] at this;exact this)
     have cS:=(HT.out.drew).told
     have x3:wr.drew.cell? ⟨P+1,3,none⟩=some (.int .i64 st):=(HT.out).st3.1
     clear HE hnc HS HQ;go_wp2_with fail;go_region_law (go_simp;go_at_call 53;refine cS.mono ?_;rintro e w6 ⟨rfl,x36,hb6⟩)
     all_goals
      have hFB:=hid (HB3.out.trans ((HWr.out.trans (Bears.of_drew hb6)).below hbN hsN))
      clear hb6 cS;go_wp2_with fail;go_ret2;rw [HFE.out];exact⟨rfl,by rw [HN.out];exact hFB.out⟩
    |false=>
     have hcf:qgV f left:=(HCont.out _).2 ⟨hl0,hc0,rfl⟩
     have hsz:=HS.out hcf;have hlen:=qky cvs left (fun x hx=>(hok x hx).2)
     have hleft':=qfW cvs left
     have hR:=HWr.out.row HR3.out qbL HRb.out;have hTr:Tab wr:=HT3.out.low hTB (HWr.out.below hbN hsN)
     have cT:=qoR N (P+1) st acc be left cvs false A c N wr HT.out hst hTr hTB hR HRb.out hok (by omega) (by omega) HQ.out (by omega)
     have hF:qaV f args=(acc++(qaV f left).1,max st (qaV f left).2):=by have:=HE.out;unfold FEq at this;rw [if_pos hcf] at this;exact this
     have HF2:Hid (FEq f args (acc++(qaJ cvs left).text++be) (qaJ cvs left).left (max st (max (qaJ cvs left).st (if(false:Bool) then 1 else 0)))):=hid (by
      have:=qn3 f args left acc st hF
      rw [HOnce.out] at this
      simpa using this)
     have hlt:(qaJ cvs left).left.length<left.length:=by
      rw [hleft',List.length_drop];have:=List.length_pos_iff.2 hl0
      have:=List.length_pos_iff.2 hc0
      omega
     have HZ:Hid (qgV f (qaJ cvs left).left→(acc++(qaJ cvs left).text++be).length+(qaJ cvs left).left.length*(f.length+1100)+qaf (qaJ cvs left).left≤args.length*(f.length+1100)+qaf args):=hid (fun hcc=>by
      have hl1:1≤(qaJ cvs left).left.length:=List.length_pos_iff.2 ((HCont.out _).1 hcc).1
      have:=ql8 ((qaJ cvs left).text.length+be.length) left.length (qaJ cvs left).left.length (qaf left) (qaf (qaJ cvs left).left) f.length cvs.length (List.length_pos_iff.2 hc0) hl1 (by rw [hleft',List.length_drop]) (by omega)
      simp only [List.length_append]
      omega)
     have hst2:=qnA cvs left;have HQ2:=hid (show ∀a∈(qaJ cvs left).left,a.length≤140737488351232 from fun a ha=>HQ.out a (by rw [hleft'] at ha;exact List.mem_of_mem_drop ha))
     clear hF hcf hsz hlen hleft' hR hTr HS HE hl0 hc0;go_wp2_with fail;refine cT.mono ?_;rintro e w5⟨rfl,h5,hb5⟩;have H5:=hid h5;have HW5:=hid (HWr.out.trans hb5)
     have HP5:=hid (hb5.heap HPr.out (by omega) qcM)
     clear h5 hb5 cT;go_wp2_with fail;go_roundg (qaJ cvs left).left.length
     case rel=>exact⟨_,_,_,rfl,by rw [if_neg (by simp)];omega,by omega,hid H5.out,HP5.out,hid HW5.out,HF2,HQ2,HZ⟩
     case measure=>omega
section
variable {W:World} {N B:Nat} {C:Option Addr} {c:Nat} {R:Option Addr} {d:Nat} {o:List UInt8} {st:Int} {t:List ND} {rd:Bool} {l args:List (List UInt8)} {inn:List UInt8}
theorem qiX (h:JobAt W N B C c R d o st t rd l inn) (hl:qaf l≤1100000) (hi:inn.length≤1100000):
  Calls prog 35 #[.pointer (some ⟨B,0,none⟩)] W fun e w'=>qkV W N B C c o st t inn (qcs inn l) e w':=by
 match l,h,hl with
 |[],h,_=>exact qyY h
 |[a],h,_=>exact qnE h
 |[a,b],h,hl=>
  have h1:=qaH [a,b] a (.head _)
  have h2:=qaH [a,b] b (.tail _ (.head _))
  exact qmo h hi (by omega) (by omega)
 |a::b::x::r,h,hl=>
  have h1:=qaG (a::b::x::r)
  simp only [List.length_cons] at h1
  exact qx1 h (by omega)
theorem qyW (h:JobAt W N B C c R d [] 0 t false args inn) (hl:qaf args≤1100000) (hi:inn.length≤1100000):
  Calls prog 14 #[.pointer (some ⟨B,0,none⟩),encS [116,114]] W fun e w'=>qfp W N B t inn (qbc [116,114] args inn t) e w':=by
 have cR:=qiX h hl hi;have hd:qbc [116,114] args inn t=qe3 t inn args:=rfl
 rw [hd];have h1:(qcs inn args).2=false→qe3 t inn args=qaL t:=fun e=>by unfold qe3;rw [if_pos e]
 have h2:(qcs inn args).2=true→qe3 t inn args=⟨(qcs inn args).1,0,t,true,0⟩:=fun e=>by unfold qe3;rw [if_neg (by rw [e];decide)]
 generalize qe3 t inn args=q at *;generalize qcs inn args=u at *;obtain⟨u1,u2⟩:=u;have H1:=hid h1;have H2:=hid h2;clear h hd h1 h2;go_enter func14,ntmps14;go_wp2_with fail;refine cR.mono ?_;rintro e w1⟨hk,⟨hu,rfl⟩|⟨hu,rfl,R',d',hJ⟩⟩
 ·go_wp2_with fail
  exact⟨rfl,hk,.inl ⟨2,0,rfl,H1.out hu⟩⟩
 ·have x0:=hJ.cells.1
  have f0:=hJ.free 0;have HJ:=hid (hJ.set0 u1)
  have HK:=hid (hk.setCell 0 (encS u1))
  have HU:=hid hu;clear hJ hk cR hu;go_wp2_with fail;go_end0;rw [H2.out HU.out];exact⟨HK.out,.inr ⟨rfl,rfl,_,_,_,_,_,HJ.out⟩⟩
theorem qvs (h:JobAt W N B C c R d [] 0 t false args inn) (hl:qaf args≤1100000):
  Calls prog 14 #[.pointer (some ⟨B,0,none⟩),encS [101,99,104,111]] W fun e w'=>qfp W N B t inn (qbc [101,99,104,111] args inn t) e w':=by
 have cE:=qup R d args W (fun k hk=>by obtain⟨g,o,e,-,x⟩:=h.texts k hk;exact⟨g,o,e,trivial,x⟩) h.hd (by omega)
 have hd:qbc [101,99,104,111] args inn t=qbJ t (echoL args) 0:=rfl
 rw [hd];generalize echoL args=v at *;have x5:=h.cells.2.2.2.2.2.1;have H:=hid h;clear h hd;go_enter func14,ntmps14;go_wp2_with fail;refine cE.mono ?_;rintro e w1⟨rfl,hb⟩;have hJ:=H.out.below hb;have x0:=hJ.cells.1;have f0:=hJ.free 0;have HJ:=hid (hJ.set0 v)
 have HK:=hid ((Kept.of_below (B:=B) hb).setCell 0 (encS v))
 clear hJ hb cE;go_wp2_with fail;go_end0;exact⟨HK.out,.inr ⟨rfl,rfl,_,_,_,_,_,HJ.out⟩⟩
end
theorem qhe (p:List UInt8) (w:World):Calls prog 110 #[encS p] w fun e w'=>e=.returned (.int .i64 (qbw p))∧w=w':=by
 rcases qoj p with h|⟨h0,h⟩
 ·simp only [qwl,qwk,List.cons_append,List.nil_append,List.mem_cons,List.not_mem_nil,or_false] at h
  rcases h with rfl|rfl|rfl|rfl|rfl|rfl|rfl|rfl|rfl|rfl|rfl|rfl|rfl|rfl
  all_goals
   go_enter func110,ntmps110;go_wp2;go_ret;exact⟨rfl,rfl⟩
 ·have H:=hid h0
  have K:∀q∈qwl++qwk,(p==q)=false:=fun q hq=>by
   rw [beq_eq_false_iff_ne];intro e
   exact h (e▸hq)
  simp only [qwl,qwk,List.cons_append,List.nil_append,List.forall_mem_cons,List.not_mem_nil,false_implies,implies_true,and_true] at K
  obtain⟨k1,k2,k3,k4,k5,k6,k7,k8,k9,k10,k11,k12,k13,k14⟩:=K;clear h h0;go_enter func110,ntmps110;go_wp2;go_ret;exact⟨by rw [H.out];rfl,rfl⟩
theorem qjR (b:Bool) (w:World):Calls prog 56 #[.bool b] w fun e w'=>e=.returned (.int .i64 (qa9 b))∧w=w':=by
 cases b
 all_goals
  go_enter func56,ntmps56;go_wp2;go_ret;exact⟨rfl,rfl⟩
theorem qgn (n:Int) (h:0≤n∧n≤2) (w:World):Calls prog 61 #[.int .i64 n] w fun e w'=>e=.returned (.int .i64 (qtS n))∧w=w':=by
 have h3:n=0∨n=1∨n=2:=by omega
 rcases h3 with rfl|rfl|rfl
 all_goals
  go_enter func61,ntmps61;go_wp2;go_ret;exact⟨rfl,rfl⟩
theorem qx5 (p:List UInt8) (w:World):Calls prog 57 #[encS p] w fun e w'=>e=.returned (.bool (qiG p))∧w=w':=by
 have cK:=fun W=>qhe p W
 have HU:=hid (show qiG p=(decide (1≤qbw p)&&decide (qbw p≤6)) from rfl)
 generalize qbw p=k at *;by_cases h1:1≤k
 ·have g1:decide (1≤k)=true:=decide_eq_true h1
  go_enter func57,ntmps57;go_wp2_with (go_at_call 110;(with_reducible refine(cK _).mono ?_);rintro e w1 ⟨rfl,rfl⟩)
  go_ret;exact⟨by rw [HU.out,g1,Bool.true_and];rfl,rfl⟩
 ·have g1:decide (1≤k)=false:=decide_eq_false h1
  go_enter func57,ntmps57;go_wp2_with (go_at_call 110;(with_reducible refine(cK _).mono ?_);rintro e w1 ⟨rfl,rfl⟩)
  go_ret;exact⟨by rw [HU.out,g1,Bool.false_and];rfl,rfl⟩
theorem qnQ (p:List UInt8) (w:World):Calls prog 59 #[encS p] w fun e w'=>e=.returned (.bool (qdj p))∧w=w':=by
 have cK:=fun W=>qhe p W
 have HU:=hid (show qdj p=(decide (7≤qbw p)&&decide (qbw p≤14)) from rfl)
 generalize qbw p=k at *;by_cases h1:7≤k
 ·have g1:decide (7≤k)=true:=decide_eq_true h1
  go_enter func59,ntmps59;go_wp2_with (go_at_call 110;(with_reducible refine(cK _).mono ?_);rintro e w1 ⟨rfl,rfl⟩)
  go_ret;exact⟨by rw [HU.out,g1,Bool.true_and];rfl,rfl⟩
 ·have g1:decide (7≤k)=false:=decide_eq_false h1
  go_enter func59,ntmps59;go_wp2_with (go_at_call 110;(with_reducible refine(cK _).mono ?_);rintro e w1 ⟨rfl,rfl⟩)
  go_ret;exact⟨by rw [HU.out,g1,Bool.false_and];rfl,rfl⟩
theorem qpg (k m n:Int) (h:9≤k∧k≤14) (w:World):Calls prog 113 #[.int .i64 k,.int .i64 m,.int .i64 n] w fun e w'=>e=.returned (.bool (cmpL k m n))∧w=w':=by
 have h3:k=9∨k=10∨k=11∨k=12∨k=13∨k=14:=by omega
 clear h;rcases h3 with rfl|rfl|rfl|rfl|rfl|rfl
 all_goals
  go_enter func113,ntmps113;go_wp2;go_ret;exact⟨by simp [cmpL],rfl⟩
theorem qge (s:List UInt8):∃z,s.isEmpty=z∧(s==[])=z∧(s !=[])=!z:=by
 cases s with
 |nil=>exact⟨true,rfl,rfl,rfl⟩
 |cons c r=>exact⟨false,rfl,rfl,rfl⟩
theorem qyv (a p b:List UInt8) (w:World) (ha:a.length≤140737488351232) (hb:b.length≤140737488351232):
  Calls prog 60 #[encS a,encS p,encS b] w fun e w'=>e=.returned (.int .i64 (qjV a p b))∧Below w.heap.size w w':=by
 have cK:=fun W=>qhe p W
 have cB:=fun W=>qnQ p W
 have cA:=fun z W=>qjR z W
 have cC:=fun k m n h W=>qpg k m n h W
 have cP:=qb0 a w ha;have cQ:=fun W=>qb0 b W hb
 have hr:=qjm p;have HB:=hid (show qjV a p b=if qbw p=7 then qa9 (a==b) else if qbw p=8 then qa9 (a !=b) else if qdj p=false then 2
  else if(qah a).2≠0∨(qah b).2≠0 then 2 else qa9 (cmpL (qbw p) (qah a).1 (qah b).1) from rfl)
 have hN:qdj p=(decide (7≤qbw p)&&decide (qbw p≤14)):=rfl
 generalize qbw p=k at *;generalize qjV a p b=B at *;generalize qdj p=N at *;obtain⟨m,hm⟩:=qQ ((qah a).1)
 obtain⟨n,hn⟩:=qQ ((qah b).1)
 obtain⟨q1,hq1⟩:∃m,(qah a).2=m:=⟨_,rfl⟩
 obtain⟨q2,hq2⟩:∃n,(qah b).2=n:=⟨_,rfl⟩
 rw [hm,hn,hq1,hq2] at HB;rw [hm,hq1] at cP;rw [hn,hq2] at cQ;clear hm hn hq1 hq2;have hk:k=7∨k=8∨(k≠7∧k≠8∧k≤6)∨(k≠7∧k≠8∧9≤k∧k≤14):=by omega
 rcases hk with rfl|rfl|⟨h7,h8,h6⟩|⟨h7,h8,h9,h14⟩
 ·have HB2:=hid (HB.out.trans (if_pos rfl))
  clear HB hN cP cQ cB cC hr;go_enter func60,ntmps60;go_wp2_with (first|(go_at_call 110;(with_reducible refine(cK _).mono ?_);rintro e w1 ⟨rfl,rfl⟩)|(go_at_call 56;(with_reducible refine(cA _ _).mono ?_);rintro e w2 ⟨rfl,rfl⟩))
  go_ret;exact⟨by rw [HB2.out];rfl,Below.refl _ _⟩
 ·have HB2:=hid (HB.out.trans ((if_neg (by decide)).trans (if_pos rfl)))
  clear HB hN cP cQ cB cC hr;go_enter func60,ntmps60;go_wp2_with (first|(go_at_call 110;(with_reducible refine(cK _).mono ?_);rintro e w1 ⟨rfl,rfl⟩)|(go_at_call 56;(with_reducible refine(cA _ _).mono ?_);rintro e w2 ⟨rfl,rfl⟩))
  go_ret;exact⟨by rw [HB2.out];first|rfl|(simp [bne]),Below.refl _ _⟩
 ·have g7:(k==7)=false:=by simpa using h7
  have g8:(k==8)=false:=by simpa using h8
  obtain rfl:N=false:=by rw [hN];simp;omega
  have HB2:=hid (HB.out.trans ((if_neg h7).trans ((if_neg h8).trans (if_pos rfl))))
  clear HB hN cP cQ cA cC hr h7 h8 h6;go_enter func60,ntmps60;go_wp2_with (first|(go_at_call 110;(with_reducible refine(cK _).mono ?_);rintro e w1 ⟨rfl,rfl⟩)|(go_at_call 59;(with_reducible refine(cB _).mono ?_);rintro e w2 ⟨rfl,rfl⟩))
  go_ret;exact⟨by rw [HB2.out];rfl,Below.refl _ _⟩
 ·have g7:(k==7)=false:=by simpa using h7
  have g8:(k==8)=false:=by simpa using h8
  obtain rfl:N=true:=by rw [hN];simp;omega
  have HB1:=hid (HB.out.trans ((if_neg h7).trans ((if_neg h8).trans (if_neg (by decide)))))
  have cC1:=fun m n W=>cC k m n ⟨h9,h14⟩ W
  clear HB hN hr h7 h8 cC;by_cases e1:q1=0
  ·by_cases e2:q2=0
   ·have HB2:=hid (HB1.out.trans (if_neg (by simp [e1,e2])))
    subst e1 e2;clear HB1;go_enter func60,ntmps60;go_wp2_with (first|(go_at_call 110;(with_reducible refine(cK _).mono ?_);rintro e w1 ⟨rfl,rfl⟩)|(go_at_call 59;(with_reducible refine(cB _).mono ?_);rintro e w2 ⟨rfl,rfl⟩)|fail)
    refine cP.mono ?_;rintro e w1⟨rfl,hb1⟩;have HB1:=hid hb1;clear cP hb1;go_wp2_with fail;refine(cQ _).mono ?_;rintro e w2⟨rfl,hb2⟩;have HBe:=qH HB1 hb2;clear cQ hb2 HB1;go_wp2_with (first|(go_at_call 113;(with_reducible refine(cC1 _ _ _).mono ?_);rintro e w1 ⟨rfl,rfl⟩)|(go_at_call 56;(with_reducible refine(cA _ _).mono ?_);rintro e w2 ⟨rfl,rfl⟩))
    go_ret;exact⟨by rw [HB2.out];rfl,HBe.out⟩
   ·have HB2:=hid (HB1.out.trans (if_pos (.inr e2)))
    have g2:(q2 !=0)=true:=by simpa using e2
    subst e1;clear HB1 e2;go_enter func60,ntmps60;go_wp2_with (first|(go_at_call 110;(with_reducible refine(cK _).mono ?_);rintro e w1 ⟨rfl,rfl⟩)|(go_at_call 59;(with_reducible refine(cB _).mono ?_);rintro e w2 ⟨rfl,rfl⟩)|fail)
    refine cP.mono ?_;rintro e w1⟨rfl,hb1⟩;have HB1:=hid hb1;clear cP hb1;go_wp2_with fail;refine(cQ _).mono ?_;rintro e w2⟨rfl,hb2⟩;have HBe:=qH HB1 hb2;clear cQ hb2 HB1;go_wp2_with fail;go_ret;exact⟨by rw [HB2.out];rfl,HBe.out⟩
  ·have HB2:=hid (HB1.out.trans (if_pos (.inl e1)))
   have g1:(q1 !=0)=true:=by simpa using e1
   clear HB1 e1;go_enter func60,ntmps60;go_wp2_with (first|(go_at_call 110;(with_reducible refine(cK _).mono ?_);rintro e w1 ⟨rfl,rfl⟩)|(go_at_call 59;(with_reducible refine(cB _).mono ?_);rintro e w2 ⟨rfl,rfl⟩)|fail)
   refine cP.mono ?_;rintro e w1⟨rfl,hb1⟩;have HB1:=hid hb1;clear cP hb1;go_wp2_with fail;refine(cQ _).mono ?_;rintro e w2⟨rfl,hb2⟩;have HBe:=qH HB1 hb2;clear cQ hb2 HB1;go_wp2_with fail;go_ret;exact⟨by rw [HB2.out];rfl,HBe.out⟩
theorem qvF (A:Option Addr) (c:Nat) (t:List ND) (p s:List UInt8) (w:World) (hT:qal w (fun _=>True) A t) (hl:t.length≤1099511627776∧t.length≤c) (hz:qbj t) (hs:s.length≤137438953472):
  Calls prog 58 #[encS p,encS s,.slice A t.length c] w fun e w'=>e=.returned (.int .i64 (qdo t p s))∧Below w.heap.size w w':=by
 have cK:=fun W=>qhe p W
 have cA:=fun z W=>qjR z W
 have cD:=qiw A c t s w hT hl hz hs;have cG:=qoQ A c t s w hT hl hz hs;have hr:=qjm p;have HS:=hid (show qdo t p s=if qbw p=1 then qa9 (!s.isEmpty) else if qbw p=2 then qa9 s.isEmpty else if qbw p=3 then qa9 (qa0 t s !=0)
  else if qbw p=4 then qa9 (qa0 t s==1) else if qbw p=5 then qa9 (qa0 t s==2) else if qbw p=6 then qa9 (!(qg0 t s).1.isEmpty) else 2 from rfl)
 generalize qbw p=k at *;generalize qdo t p s=B at *;generalize qa0 t s=kd at *;generalize qg0 t s=gq at *;obtain⟨d,gf⟩:=gq;simp only at cG HS
 obtain⟨z,z1,z2,z3⟩:=qge s;obtain⟨y,y1,y2,y3⟩:=qge d;rw [z1,y1] at HS;have hk:k=1∨k=2∨k=3∨k=4∨k=5∨k=6∨(k≠1∧k≠2∧k≠3∧k≠4∧k≠5∧k≠6):=by omega
 clear hT hz;rcases hk with rfl|rfl|rfl|rfl|rfl|rfl|⟨h1,h2,h3,h4,h5,h6⟩
 ·have HB2:=hid (HS.out.trans (if_pos rfl))
  clear HS cD cG hr;cases z
  all_goals
   go_enter func58,ntmps58;go_wp2_with (first|(go_at_call 110;(with_reducible refine(cK _).mono ?_);rintro e w1 ⟨rfl,rfl⟩)|(go_at_call 56;(with_reducible refine(cA _ _).mono ?_);rintro e w2 ⟨rfl,rfl⟩))
   go_ret;exact⟨by rw [HB2.out];first|rfl|simp [z1,z2,z3],Below.refl _ _⟩
 ·have HB2:=hid (HS.out.trans ((if_neg (by decide)).trans (if_pos rfl)))
  clear HS cD cG hr;cases z
  all_goals
   go_enter func58,ntmps58;go_wp2_with (first|(go_at_call 110;(with_reducible refine(cK _).mono ?_);rintro e w1 ⟨rfl,rfl⟩)|(go_at_call 56;(with_reducible refine(cA _ _).mono ?_);rintro e w2 ⟨rfl,rfl⟩))
   go_ret;exact⟨by rw [HB2.out];first|rfl|simp [z1,z2,z3],Below.refl _ _⟩
 ·have HB2:=hid (HS.out.trans ((if_neg (by decide)).trans ((if_neg (by decide)).trans (if_pos rfl))))
  clear HS cG hr z1 z2 z3 y1 y2 y3;go_enter func58,ntmps58;go_wp2_with (go_at_call 110;(with_reducible refine(cK _).mono ?_);rintro e w1 ⟨rfl,rfl⟩)
  refine cD.mono ?_;rintro e w1⟨rfl,hb1⟩;have HBe:=hid hb1;clear cD hb1;go_wp2_with (go_at_call 56;(with_reducible refine(cA _ _).mono ?_);rintro e w2 ⟨rfl,rfl⟩)
  go_ret;exact⟨by rw [HB2.out];first|rfl|simp [bne],HBe.out⟩
 ·have HB2:=hid (HS.out.trans ((if_neg (by decide)).trans ((if_neg (by decide)).trans ((if_neg (by decide)).trans (if_pos rfl)))))
  clear HS cG hr z1 z2 z3 y1 y2 y3;go_enter func58,ntmps58;go_wp2_with (go_at_call 110;(with_reducible refine(cK _).mono ?_);rintro e w1 ⟨rfl,rfl⟩)
  refine cD.mono ?_;rintro e w1⟨rfl,hb1⟩;have HBe:=hid hb1;clear cD hb1;go_wp2_with (go_at_call 56;(with_reducible refine(cA _ _).mono ?_);rintro e w2 ⟨rfl,rfl⟩)
  go_ret;exact⟨by rw [HB2.out];first|rfl|simp [bne],HBe.out⟩
 ·have HB2:=hid (HS.out.trans ((if_neg (by decide)).trans ((if_neg (by decide)).trans ((if_neg (by decide)).trans ((if_neg (by decide)).trans (if_pos rfl))))))
  clear HS cG hr z1 z2 z3 y1 y2 y3;go_enter func58,ntmps58;go_wp2_with (go_at_call 110;(with_reducible refine(cK _).mono ?_);rintro e w1 ⟨rfl,rfl⟩)
  refine cD.mono ?_;rintro e w1⟨rfl,hb1⟩;have HBe:=hid hb1;clear cD hb1;go_wp2_with (go_at_call 56;(with_reducible refine(cA _ _).mono ?_);rintro e w2 ⟨rfl,rfl⟩)
  go_ret;exact⟨by rw [HB2.out];first|rfl|simp [bne],HBe.out⟩
 ·have HB2:=hid (HS.out.trans ((if_neg (by decide)).trans ((if_neg (by decide)).trans ((if_neg (by decide)).trans ((if_neg (by decide)).trans ((if_neg (by decide)).trans (if_pos rfl)))))))
  clear HS cD hr z1 z2 z3;cases y
  all_goals
   go_enter func58,ntmps58;go_wp2_with (go_at_call 110;(with_reducible refine(cK _).mono ?_);rintro e w1 ⟨rfl,rfl⟩)
   refine cG.mono ?_;rintro e w1⟨rfl,hb1⟩;have HBe:=hid hb1;clear cG hb1;go_wp2_with (go_at_call 56;(with_reducible refine(cA _ _).mono ?_);rintro e w2 ⟨rfl,rfl⟩)
   go_ret;exact⟨by rw [HB2.out];first|rfl|simp [y1,y2,y3],HBe.out⟩
 ·have g1:(k==1)=false:=by simpa using h1
  have g2:(k==2)=false:=by simpa using h2
  have g3:(k==3)=false:=by simpa using h3
  have g4:(k==4)=false:=by simpa using h4
  have g5:(k==5)=false:=by simpa using h5
  have g6:(k==6)=false:=by simpa using h6
  have HB2:=hid (HS.out.trans ((if_neg h1).trans ((if_neg h2).trans ((if_neg h3).trans ((if_neg h4).trans ((if_neg h5).trans (if_neg h6)))))))
  clear HS cD cG hr z1 z2 z3 y1 y2 y3 h1 h2 h3 h4 h5 h6;go_enter func58,ntmps58;go_wp2_with (go_at_call 110;(with_reducible refine(cK _).mono ?_);rintro e w1 ⟨rfl,rfl⟩)
  go_ret;exact⟨by rw [HB2.out];rfl,Below.refl _ _⟩
theorem qx4 (p:List UInt8) (w:World):Calls prog 57 #[encS p] w fun e w'=>e=.returned (.bool (qiG p))∧Below w.heap.size w w':=
 (qx5 p w).mono fun _ _ h=>⟨h.1,h.2▸Below.refl _ _⟩
theorem qt8 (p:List UInt8) (w:World):Calls prog 59 #[encS p] w fun e w'=>e=.returned (.bool (qdj p))∧Below w.heap.size w w':=
 (qnQ p w).mono fun _ _ h=>⟨h.1,h.2▸Below.refl _ _⟩
theorem qzh (A B:Option Addr) (c d:Nat) (m:Nat) (w:World):Calls prog 31 #[.slice A 0 c,.slice B m d] w fun e w'=>e=.returned (.int .i64 1)∧Below w.heap.size w w':=by
 go_enter func31,ntmps31;go_wp2_with fail;go_ret;exact⟨rfl,Below.refl _ _⟩
theorem qzj (A B:Option Addr) (c d n:Nat) (m:Nat) (h:5≤n∧n≤1099511627776) (w:World):Calls prog 31 #[.slice A n c,.slice B m d] w fun e w'=>e=.returned (.int .i64 2)∧Below w.heap.size w w':=by
 obtain⟨h5,h6⟩:=h;have q1:¬((n:Int)-1<0):=by omega
 have q2:((n:Int)-1==0)=false:=by simp;omega
 have q3:(3:Int)<(n:Int)-1:=by omega
 go_enter func31,ntmps31;go_wp2_with fail;go_ret;exact⟨rfl,Below.refl _ _⟩
theorem qwQ (g o c d m:Nat) (B:Option Addr) (a:List UInt8) (w:World) (x0:w.cell? ⟨g,o,none⟩=some (encS a)):Calls prog 31 #[.slice (some ⟨g,o,none⟩) 1 c,.slice B m d] w fun e w'=>e=.returned (.int .i64 (e1 a))∧Below w.heap.size w w':=by
 have cA:=fun z W=>qjR z W
 have HE:=hid (show e1 a=qa9 (!a.isEmpty) from rfl)
 obtain⟨z,z1,z2,z3⟩:=qge a;rw [z1] at HE;cases z
 all_goals
  go_enter func31,ntmps31;go_wp2_with (go_at_call 56;(with_reducible refine(cA _ _).mono ?_);rintro e w1 ⟨rfl,rfl⟩)
  go_ret;exact⟨by rw [HE.out];first|rfl|simp [z1,z2,z3],Below.refl _ _⟩
theorem qwR (g o c d:Nat) (B:Option Addr) (a b:List UInt8) (t:List ND) (w:World) (hc:2≤c) (x0:w.cell? ⟨g,o,none⟩=some (encS a)) (x1:w.cell? ⟨g,o+1,none⟩=some (encS b)) (hT:qal w (fun _=>True) B t) (hl:t.length≤1099511627776∧t.length≤d) (hz:qbj t) (hs:a.length≤137438953472∧b.length≤137438953472):
  Calls prog 31 #[.slice (some ⟨g,o,none⟩) 2 c,.slice B t.length d] w fun e w'=>e=.returned (.int .i64 (e2 t a b))∧Below w.heap.size w w':=by
 obtain⟨s0,s1⟩:=hs;have hc1:¬c=1:=by omega
 have HT0:=hid hT;have LO:=hid (qul b)
 have HE0:=hid (show e2 t a b=if qiG a then qdo t a b else if a=[33] then qtS (e1 b) else 2 from rfl)
 have cU:=fun W=>qx4 a W
 have cS:=fun W h=>qvF B d t a b W h hl hz s1
 have cI:=fun W h=>qwQ g (o+1) (c-1) d t.length B b W h
 clear hT hl hz;by_cases ha:a=[33]
 ·have HE:=hid (HE0.out.trans ((if_neg (by rw [ha];decide)).trans (if_pos ha)))
  subst ha;rw [qo8] at cU;clear HE0 cS;generalize qdo t [33] b=sv at *;generalize e1 b=bv at *;go_enter func31,ntmps31;go_wp2_with fail;refine(cU w).mono ?_;rintro e w1⟨rfl,hb1⟩;have HB1:=hid hb1;have HT1:=hid (HT0.out.below hb1)
  have y1_0:=cell_below hb1 x0;have y1_1:=cell_below hb1 x1;clear hb1 HT0 x0 x1;go_wp2_with fail;refine(cI w1 y1_1).mono ?_;rintro e w2⟨rfl,hb2⟩;have HB2:=qH HB1 hb2;have HT2:=hid (HT1.out.below hb2)
  have y2_0:=cell_below hb2 y1_0;have y2_1:=cell_below hb2 y1_1;clear hb2 HT1 y1_0 y1_1;go_wp2_with (go_at_call 61;(with_reducible refine(qgn _ LO.out _).mono ?_);rintro e ww ⟨rfl,rfl⟩)
  go_ret;exact⟨by rw [HE.out];rfl,HB2.out⟩
 ·have ga:(a==[33])=false:=by simpa using ha
  obtain⟨u,hu⟩:=qQ (qiG a)
  rw [hu] at cU HE0;cases u
  ·have HE:=hid (HE0.out.trans ((if_neg (by decide)).trans (if_neg ha)))
   clear HE0 cS cI ha hu LO;go_enter func31,ntmps31;go_wp2_with fail;refine(cU w).mono ?_;rintro e w1⟨rfl,hb1⟩;have HB1:=hid hb1;have HT1:=hid (HT0.out.below hb1)
   have y1_0:=cell_below hb1 x0;have y1_1:=cell_below hb1 x1;clear hb1 HT0 x0 x1;go_wp2_with fail;go_ret;exact⟨by rw [HE.out];rfl,HB1.out⟩
  ·have HE:=hid (HE0.out.trans (if_pos rfl))
   generalize qdo t a b=sv at *;clear HE0 cI ha hu LO;go_enter func31,ntmps31;go_wp2_with fail;refine(cU w).mono ?_;rintro e w1⟨rfl,hb1⟩;have HB1:=hid hb1;have HT1:=hid (HT0.out.below hb1)
   have y1_0:=cell_below hb1 x0;have y1_1:=cell_below hb1 x1;clear hb1 HT0 x0 x1;go_wp2_with fail;go_still_tail 7,(by kernel_rfl)
   change wpList _ _ _ _ _ w1.drew
   obtain⟨wd,hwd⟩:=qQ (w1.drew)
   have HB1:=hid (show Below w.heap.size w wd by rw [← hwd];exact below_drewN HB1.out 1)
   have HT1:=hid (show qal wd (fun _=>True) B t by rw [← hwd];exact HT1.out.frame fun _ _ _=>⟨trivial,rfl⟩)
   rw [hwd];clear hwd y1_0 y1_1;go_wp2_with fail;refine(cS wd HT1.out).mono ?_;rintro e w2⟨rfl,hb2⟩;have HB2:=qH HB1 hb2;have HT2:=hid (HT1.out.below hb2)
   clear hb2 HT1 ;go_wp2_with fail;go_ret;exact⟨by rw [HE.out];rfl,HB2.out⟩
theorem qyE (g o c d:Nat) (B:Option Addr) (a b c0:List UInt8) (t:List ND) (w:World) (hc:3≤c) (x0:w.cell? ⟨g,o,none⟩=some (encS a)) (x1:w.cell? ⟨g,o+1,none⟩=some (encS b)) (x2:w.cell? ⟨g,o+2,none⟩=some (encS c0)) (hT:qal w (fun _=>True) B t) (hl:t.length≤1099511627776∧t.length≤d) (hz:qbj t) (hs:a.length≤137438953472∧b.length≤137438953472∧c0.length≤137438953472):
  Calls prog 31 #[.slice (some ⟨g,o,none⟩) 3 c,.slice B t.length d] w fun e w'=>e=.returned (.int .i64 (e3 t a b c0))∧Below w.heap.size w w':=by
 obtain⟨s0,s1,s2⟩:=hs;have hc1:¬c=1:=by omega
 have HT0:=hid hT;have LO:=hid (qum t b c0)
 have HE0:=hid (show e3 t a b c0=if qdj b then qjV a b c0 else if a=[33] then qtS (e2 t b c0) else if a=[40]∧c0=[41] then e1 b else 2 from rfl)
 have cU:=fun W=>qt8 b W
 have cS:=fun W=>qyv a b c0 W (by omega) (by omega)
 have cI:=fun W x y h=>qwR g (o+1) (c-1) d B b c0 t W (by omega) x y h hl hz ⟨s1,s2⟩
 have cJ:=fun W x=>qwQ g (o+1) (c-1) d t.length B b W x
 clear hT hl hz;obtain⟨u,hu⟩:=qQ (qdj b)
 rw [hu] at cU HE0;cases u
 rotate_left 1
 ·have HE:=hid (HE0.out.trans (if_pos rfl))
  generalize qjV a b c0=sv at *;clear HE0 cI cJ hu LO;go_enter func31,ntmps31;go_wp2_with fail;refine(cU w).mono ?_;rintro e w1⟨rfl,hb1⟩;have HB1:=hid hb1;have HT1:=hid (HT0.out.below hb1)
  have y1_0:=cell_below hb1 x0;have y1_1:=cell_below hb1 x1;have y1_2:=cell_below hb1 x2;clear hb1 HT0 x0 x1 x2;go_wp2_with fail;go_still_tail 9,(by kernel_rfl)
  change wpList _ _ _ _ _ w1.drew
  obtain⟨wd,hwd⟩:=qQ (w1.drew)
  have HB1:=hid (show Below w.heap.size w wd by rw [← hwd];exact below_drewN HB1.out 1)
  have HT1:=hid (show qal wd (fun _=>True) B t by rw [← hwd];exact HT1.out.frame fun _ _ _=>⟨trivial,rfl⟩)
  rw [hwd];clear hwd y1_0 y1_1 y1_2;go_wp2_with fail;refine(cS wd).mono ?_;rintro e w2⟨rfl,hb2⟩;have HB2:=qH HB1 hb2;have HT2:=hid (HT1.out.below hb2)
  clear hb2 HT1 ;go_wp2_with fail;go_ret;exact⟨by rw [HE.out];rfl,HB2.out⟩
 have HE1:=hid (HE0.out.trans (if_neg (by decide)))
 clear HE0 hu cS;by_cases ha:a=[33]
 ·have HE:=hid (HE1.out.trans (if_pos ha))
  subst ha;clear HE1 cJ;generalize e2 t b c0=bv at *;go_enter func31,ntmps31;go_wp2_with fail;refine(cU w).mono ?_;rintro e w1⟨rfl,hb1⟩;have HB1:=hid hb1;have HT1:=hid (HT0.out.below hb1)
  have y1_0:=cell_below hb1 x0;have y1_1:=cell_below hb1 x1;have y1_2:=cell_below hb1 x2;clear hb1 HT0 x0 x1 x2;go_wp2_with fail;refine(cI w1 y1_1 y1_2 HT1.out).mono ?_;rintro e w2⟨rfl,hb2⟩;have HB2:=qH HB1 hb2;have HT2:=hid (HT1.out.below hb2)
  have y2_0:=cell_below hb2 y1_0;have y2_1:=cell_below hb2 y1_1;have y2_2:=cell_below hb2 y1_2;clear hb2 HT1 y1_0 y1_1 y1_2;go_wp2_with (go_at_call 61;(with_reducible refine(qgn _ LO.out _).mono ?_);rintro e ww ⟨rfl,rfl⟩)
  go_ret;exact⟨by rw [HE.out];rfl,HB2.out⟩
 have ga:(a==[33])=false:=by simpa using ha
 have HE2:=hid (HE1.out.trans (if_neg ha))
 clear HE1 cI ha LO;by_cases hp:a=[40]
 ·by_cases hq:c0=[41]
  ·have HE:=hid (HE2.out.trans (if_pos ⟨hp,hq⟩))
   subst hp hq;clear HE2 ga;generalize e1 b=bv at *;go_enter func31,ntmps31;go_wp2_with fail;refine(cU w).mono ?_;rintro e w1⟨rfl,hb1⟩;have HB1:=hid hb1;have HT1:=hid (HT0.out.below hb1)
   have y1_0:=cell_below hb1 x0;have y1_1:=cell_below hb1 x1;have y1_2:=cell_below hb1 x2;clear hb1 HT0 x0 x1 x2;go_wp2_with fail;refine(cJ w1 y1_1).mono ?_;rintro e w2⟨rfl,hb2⟩;have HB2:=qH HB1 hb2;have HT2:=hid (HT1.out.below hb2)
   have y2_0:=cell_below hb2 y1_0;have y2_1:=cell_below hb2 y1_1;have y2_2:=cell_below hb2 y1_2;clear hb2 HT1 y1_0 y1_1 y1_2;go_wp2_with fail;go_ret;exact⟨by rw [HE.out];rfl,HB2.out⟩
  ·have HE:=hid (HE2.out.trans (if_neg (fun e=>hq e.2)))
   have gc:(c0==[41])=false:=by simpa using hq
   subst hp;clear HE2 ga hq cJ;go_enter func31,ntmps31;go_wp2_with fail;refine(cU w).mono ?_;rintro e w1⟨rfl,hb1⟩;have HB1:=hid hb1;have HT1:=hid (HT0.out.below hb1)
   have y1_0:=cell_below hb1 x0;have y1_1:=cell_below hb1 x1;have y1_2:=cell_below hb1 x2;clear hb1 HT0 x0 x1 x2;go_wp2_with fail;go_ret;exact⟨by rw [HE.out];rfl,HB1.out⟩
 ·have HE:=hid (HE2.out.trans (if_neg (fun e=>hp e.1)))
  have gb:(a==[40])=false:=by simpa using hp
  clear HE2 hp cJ;go_enter func31,ntmps31;go_wp2_with fail;refine(cU w).mono ?_;rintro e w1⟨rfl,hb1⟩;have HB1:=hid hb1;have HT1:=hid (HT0.out.below hb1)
  have y1_0:=cell_below hb1 x0;have y1_1:=cell_below hb1 x1;have y1_2:=cell_below hb1 x2;clear hb1 HT0 x0 x1 x2;go_wp2_with fail;go_ret;exact⟨by rw [HE.out];rfl,HB1.out⟩
theorem qzi (g o c d:Nat) (B:Option Addr) (a b c0 d0:List UInt8) (t:List ND) (w:World) (hc:4≤c) (x0:w.cell? ⟨g,o,none⟩=some (encS a)) (x1:w.cell? ⟨g,o+1,none⟩=some (encS b)) (x2:w.cell? ⟨g,o+2,none⟩=some (encS c0)) (x3:w.cell? ⟨g,o+3,none⟩=some (encS d0)) (hT:qal w (fun _=>True) B t) (hl:t.length≤1099511627776∧t.length≤d) (hz:qbj t) (hs:a.length≤137438953472∧b.length≤137438953472∧c0.length≤137438953472∧d0.length≤137438953472):
  Calls prog 31 #[.slice (some ⟨g,o,none⟩) 4 c,.slice B t.length d] w fun e w'=>e=.returned (.int .i64 (e4 t a b c0 d0))∧Below w.heap.size w w':=by
 obtain⟨s0,s1,s2,s3⟩:=hs;have hc1:¬c=1:=by omega
 have HT0:=hid hT;have LO:=hid (qwO t b c0 d0)
 have HE0:=hid (show e4 t a b c0 d0=if a=[33] then qtS (e3 t b c0 d0) else if a=[40]∧d0=[41] then e2 t b c0 else 2 from rfl)
 have cI:=fun W x y z h=>qyE g (o+1) (c-1) d B b c0 d0 t W (by omega) x y z h hl hz ⟨s1,s2,s3⟩
 have cJ:=fun W x y h=>qwR g (o+1) (c-1) d B b c0 t W (by omega) x y h hl hz ⟨s1,s2⟩
 clear hT hl hz;by_cases ha:a=[33]
 ·have HE:=hid (HE0.out.trans (if_pos ha))
  subst ha;clear HE0 cJ;generalize e3 t b c0 d0=bv at *;go_enter func31,ntmps31;go_wp2_with fail;refine(cI w x1 x2 x3 HT0.out).mono ?_;rintro e w1⟨rfl,hb1⟩;have HB1:=hid hb1;have HT1:=hid (HT0.out.below hb1)
  have y1_0:=cell_below hb1 x0;have y1_1:=cell_below hb1 x1;have y1_2:=cell_below hb1 x2;have y1_3:=cell_below hb1 x3;clear hb1 HT0 x0 x1 x2 x3;go_wp2_with (go_at_call 61;(with_reducible refine(qgn _ LO.out _).mono ?_);rintro e ww ⟨rfl,rfl⟩)
  go_ret;exact⟨by rw [HE.out];rfl,HB1.out⟩
 have ga:(a==[33])=false:=by simpa using ha
 have HE2:=hid (HE0.out.trans (if_neg ha))
 clear HE0 cI ha LO;by_cases hp:a=[40]
 ·by_cases hq:d0=[41]
  ·have HE:=hid (HE2.out.trans (if_pos ⟨hp,hq⟩))
   subst hp hq;clear HE2 ga;generalize e2 t b c0=bv at *;go_enter func31,ntmps31;go_wp2_with fail;refine(cJ w x1 x2 HT0.out).mono ?_;rintro e w1⟨rfl,hb1⟩;have HB1:=hid hb1;have HT1:=hid (HT0.out.below hb1)
   have y1_0:=cell_below hb1 x0;have y1_1:=cell_below hb1 x1;have y1_2:=cell_below hb1 x2;have y1_3:=cell_below hb1 x3;clear hb1 HT0 x0 x1 x2 x3;go_wp2_with fail;go_ret;exact⟨by rw [HE.out];rfl,HB1.out⟩
  ·have HE:=hid (HE2.out.trans (if_neg (fun e=>hq e.2)))
   have gc:(d0==[41])=false:=by simpa using hq
   subst hp;clear HE2 ga hq cJ HT0;go_enter func31,ntmps31;go_wp2_with fail;go_ret;exact⟨by rw [HE.out];rfl,Below.refl _ _⟩
 ·have HE:=hid (HE2.out.trans (if_neg (fun e=>hp e.1)))
  have gb:(a==[40])=false:=by simpa using hp
  clear HE2 hp cJ HT0;go_enter func31,ntmps31;go_wp2_with fail;go_ret;exact⟨by rw [HE.out];rfl,Below.refl _ _⟩
theorem qwc (A B:Option Addr) (c d:Nat) (l:List (List UInt8)) (t:List ND) (w:World) (hL:qat w (fun _=>True) A l) (hc:l.length≤c) (hT:qal w (fun _=>True) B t) (hl:t.length≤1099511627776∧t.length≤d) (hz:qbj t) (hs:∀x∈l,x.length≤137438953472) (hn:l.length≤1099511627776):
  Calls prog 31 #[.slice A l.length c,.slice B t.length d] w fun e w'=>e=.returned (.int .i64 (qhK t l))∧Below w.heap.size w w':=by
 match l,hL,hc,hs,hn with
 |[],_,_,_,_=>exact qzh A B c d t.length w
 |[a],hL,hc,_,_=>
  obtain⟨g,o,rfl,-,x0⟩:=hL 0 (by simp)
  exact qwQ g o c d t.length B a w x0
 |[a,b],hL,hc,hs,_=>
  obtain⟨g,o,rfl,-,x0⟩:=hL 0 (by simp)
  obtain⟨_,_,e1,-,x1⟩:=hL 1 (by simp)
  cases e1
  exact qwR g o c d B a b t w hc x0 x1 hT hl hz ⟨hs _ (by simp),hs _ (by simp)⟩
 |[a,b,c0],hL,hc,hs,_=>
  obtain⟨g,o,rfl,-,x0⟩:=hL 0 (by simp)
  obtain⟨_,_,e1,-,x1⟩:=hL 1 (by simp)
  cases e1
  obtain⟨_,_,e1,-,x2⟩:=hL 2 (by simp)
  cases e1
  exact qyE g o c d B a b c0 t w hc x0 x1 x2 hT hl hz ⟨hs _ (by simp),hs _ (by simp),hs _ (by simp)⟩
 |[a,b,c0,d0],hL,hc,hs,_=>
  obtain⟨g,o,rfl,-,x0⟩:=hL 0 (by simp)
  obtain⟨_,_,e1,-,x1⟩:=hL 1 (by simp)
  cases e1
  obtain⟨_,_,e1,-,x2⟩:=hL 2 (by simp)
  cases e1
  obtain⟨_,_,e1,-,x3⟩:=hL 3 (by simp)
  cases e1
  exact qzi g o c d B a b c0 d0 t w hc x0 x1 x2 x3 hT hl hz ⟨hs _ (by simp),hs _ (by simp),hs _ (by simp),hs _ (by simp)⟩
 |a::b::c0::d0::f::r,_,_,_,hn=>
  exact qzj A B c d _ t.length ⟨by simp,hn⟩ w
theorem Cells.setAt {L:List (Addr×Value)} {w:World} {B k:Nat} (h:Cells L w) (hL:∀q∈L,q.1.off≠k) (v:Value):Cells L (w.setCell ⟨B,k,none⟩ v):=fun q hq=>(World.cell?_setCell_other w _ _ v (fun e=>hL q hq (by rw [← e]))).trans (h q hq)
section
variable {W:World} {N B:Nat} {C:Option Addr} {c:Nat} {R:Option Addr} {d:Nat} {o:List UInt8} {st:Int} {t:List ND} {rd:Bool} {l args:List (List UInt8)} {inn:List UInt8}
theorem qvz (h:JobAt W N B C c R d [] 0 t false args inn) (hz:qbj t) (hn:t.length≤1099511627776) (hl:qaf args≤1100000):
  Calls prog 14 #[.pointer (some ⟨B,0,none⟩),encS [116,101,115,116]] W fun e w'=>qfp W N B t inn (qbc [116,101,115,116] args inn t) e w':=by
 have hlz:=qaG args;have hJd:JobAt W.drew N B C c R d [] 0 t false args inn:=h.below (Below.refl _ W).drew
 have cE:=qwc R C d c args t W.drew (fun k hk=>by obtain⟨g,o,e,-,x⟩:=hJd.texts k hk;exact⟨g,o,e,trivial,x⟩) h.hd (fun i hi=>by obtain⟨g,q,e,-,x⟩:=hJd.nodes i hi;exact⟨g,q,e,trivial,x⟩) ⟨hn,h.hc⟩ hz (fun x hx=>by have:=qaH args x hx;omega) (by omega)
 have hd:qbc [116,101,115,116] args inn t=qbJ t [] (qhK t args):=rfl
 rw [hd];generalize qhK t args=m at *;have hS:Cells [(⟨B,5,none⟩,.slice R args.length d),(⟨B,3,none⟩,.slice C t.length c)] W.drew:=fun z hz=>by
  rcases List.mem_cons.1 hz with rfl|hz
  ·exact h.cells.2.2.2.2.2.1
  rcases List.mem_cons.1 hz with rfl|hz
  ·exact h.cells.2.2.2.1
  ·cases hz
 have HJ:=hid h;clear h hd hJd;go_enter func14,ntmps14;go_wp2_with fail;refine wp_region_held_drew (S:=Cells [(⟨B,5,none⟩,.slice R args.length d),(⟨B,3,none⟩,.slice C t.length c)]) (by kernel_rfl) hS (fun _=>?_)
 -- REGION1
 refine qaa 0 93 (.pointer (some ⟨B,0,none⟩)) rfl rfl hS ?_
 refine qaa 1 94 (.pointer (some ⟨B,0,none⟩)) rfl rfl hS ?_
 refine qaa 2 95 (.pointer (some ⟨B,0,none⟩)) rfl rfl hS ?_
 refine qaa 3 96 (.pointer (some ⟨B,5,none⟩)) rfl rfl hS ?_
 refine qaa 4 97 (.pointer (some ⟨B,5,none⟩)) rfl rfl hS ?_
 refine qai 5 98 (.slice R args.length d) rfl rfl (Or.inl ⟨by rfl,fun w' hS'=>by have s0:=hS' _ (.head _);dsimp only at s0;go_simp⟩) hS ?_
 refine qaa 6 99 (.pointer (some ⟨B,0,none⟩)) rfl rfl hS ?_
 refine qaa 7 100 (.pointer (some ⟨B,0,none⟩)) rfl rfl hS ?_
 refine qaa 8 101 (.pointer (some ⟨B,0,none⟩)) rfl rfl hS ?_
 refine qaa 9 102 (.pointer (some ⟨B,3,none⟩)) rfl rfl hS ?_
 refine qai 10 103 (.slice C t.length c) rfl rfl (Or.inl ⟨by rfl,fun w' hS'=>by have s1:=hS' _ (.tail _ (.head _));dsimp only at s1;go_simp⟩) hS ?_
 refine qae 11 rfl fun K hK=>?_
 go_simp;go_at_call 31
 refine cE.mono ?_;rintro e w2⟨rfl,hb1⟩;have hS1:=hS.below hb1;go_wp2_with fail;refine qaE hK hS1 ?_
 clear hK K;refine qaa 12 105 (.pointer (some ⟨B,0,none⟩)) rfl rfl hS1 ?_
 refine qaa 13 106 (.pointer (some ⟨B,0,none⟩)) rfl rfl hS1 ?_
 refine qaa 14 107 (.pointer (some ⟨B,2,none⟩)) rfl rfl hS1 ?_
 have hb1:Below W.heap.size W w2:=(Below.refl _ W).drew.trans hb1
 have hJ2:=HJ.out.below hb1;have x2:=hJ2.cells.2.2.1;have f2:=hJ2.free 2;have HJ2:=hid (hJ2.set2 m)
 have HK2:=hid ((Kept.of_below (B:=B) hb1).setCell 2 (.int .i64 m))
 clear hJ2;refine qae 15 rfl fun K hK=>?_
 go_simp;refine qaE hK (hS1.setAt (by simp) _) ?_
 clear hK K;refine wpAnyH_done (by kernel_rfl) ?_ _
 clear hS hS1;go_wp2_with fail;go_end0;exact⟨HK2.out,.inr ⟨rfl,rfl,_,_,_,_,_,HJ2.out⟩⟩
 -- END1
theorem qqo (h:JobAt W N B C c R d [] 0 t false [] inn):
  Calls prog 14 #[.pointer (some ⟨B,0,none⟩),encS [91]] W fun e w'=>qfp W N B t inn (qaL t) e w':=by
 have c5:=h.cells.2.2.2.2.2.1;simp only [List.length_nil] at c5
 clear h;go_enter func14,ntmps14;go_wp2_with fail;refine(qau _).mono ?_;rintro e w1⟨rfl,rfl⟩;go_wp2_with fail;exact⟨rfl,Kept.refl _ _,.inl ⟨2,0,rfl,rfl⟩⟩
theorem qqp {r:List (List UInt8)} {x:List UInt8} (h:JobAt W N B C c R d [] 0 t false (r++[x]) inn) (hx:x≠[93]) (hr:r.length≤1099511627776):
  Calls prog 14 #[.pointer (some ⟨B,0,none⟩),encS [91]] W fun e w'=>qfp W N B t inn (qaL t) e w':=by
 have c5:=h.cells.2.2.2.2.2.1;obtain⟨g,z,rfl,-,x0⟩:=h.texts r.length (by simp)
 have hd:=h.hd;simp only [List.length_append,List.length_singleton,List.getElem_append_right (Nat.le_refl _),Nat.sub_self,List.getElem_singleton] at c5 x0 hd
 have hne:(x==([93]:List UInt8))=false:=by simpa using hx
 have h1:((r.length+1:Nat):Int)-1=(r.length:Int):=by omega
 have h2:(0:Int)≤(r.length:Int):=by omega
 generalize r.length=n at *;clear h hx;go_enter func14,ntmps14;go_wp2_with fail;refine(qau _).mono ?_;rintro e w1⟨rfl,rfl⟩;go_wp2_with fail;exact⟨rfl,Kept.refl _ _,.inl ⟨2,0,rfl,rfl⟩⟩
theorem qs6 {r:List (List UInt8)} (h:JobAt W N B C c R d [] 0 t false (r++[[93]]) inn) (hz:qbj t) (hn:t.length≤1099511627776) (hl:qaf r≤1100000):
  Calls prog 14 #[.pointer (some ⟨B,0,none⟩),encS [91]] W fun e w'=>qfp W N B t inn (qbJ t [] (qhK t r)) e w':=by
 have hlz:=qaG r;have hJd:JobAt W.drew N B C c R d [] 0 t false (r++[[93]]) inn:=h.below (Below.refl _ W).drew
 have hd:=h.hd;have c5:=h.cells.2.2.2.2.2.1;obtain⟨g,z,rfl,-,x0⟩:=h.texts r.length (by simp)
 simp only [List.length_append,List.length_singleton,List.getElem_append_right (Nat.le_refl _),Nat.sub_self,List.getElem_singleton] at c5 x0 hd
 have cE:=qwc (some ⟨g,z,none⟩) C d c r t W.drew (fun k hk=>by
  obtain⟨g,o,e,-,x⟩:=hJd.texts k (by simp;omega)
  rw [List.getElem_append_left hk] at x;exact⟨g,o,e,trivial,x⟩) (by omega) (fun i hi=>by obtain⟨g,q,e,-,x⟩:=hJd.nodes i hi;exact⟨g,q,e,trivial,x⟩) ⟨hn,h.hc⟩ hz (fun x hx=>by have:=qaH r x hx;omega) (by omega)
 have h1:((r.length+1:Nat):Int)-1=(r.length:Int):=by omega
 have h2:(0:Int)≤(r.length:Int):=by omega
 generalize qhK t r=m at *;have hS:Cells [(⟨B,5,none⟩,.slice (some ⟨g,z,none⟩) (r.length+1) d),(⟨B,3,none⟩,.slice C t.length c)] W.drew:=fun y hy=>by
  rcases List.mem_cons.1 hy with rfl|hy
  ·exact c5
  rcases List.mem_cons.1 hy with rfl|hy
  ·exact h.cells.2.2.2.1
  ·cases hy
 have HJ:=hid h;clear h hJd;go_enter func14,ntmps14;go_wp2_with fail;refine(qay _).mono ?_;rintro e w1⟨rfl,rfl⟩;go_wp2_with fail;refine wp_region_held_drew (S:=Cells [(⟨B,5,none⟩,.slice (some ⟨g,z,none⟩) (r.length+1) d),(⟨B,3,none⟩,.slice C t.length c)]) (by kernel_rfl) hS (fun _=>?_)
 -- REGION2
 refine qaa 0 74 (.pointer (some ⟨B,0,none⟩)) rfl rfl hS ?_
 refine qaa 1 75 (.pointer (some ⟨B,0,none⟩)) rfl rfl hS ?_
 refine qaa 2 76 (.pointer (some ⟨B,0,none⟩)) rfl rfl hS ?_
 refine qaa 3 77 (.pointer (some ⟨B,5,none⟩)) rfl rfl hS ?_
 refine qaa 4 78 (.pointer (some ⟨B,5,none⟩)) rfl rfl hS ?_
 refine qai 5 79 (.slice (some ⟨g,z,none⟩) (r.length+1) d) rfl rfl (Or.inl ⟨by rfl,fun w' hS'=>by have s0:=hS' _ (.head _);dsimp only at s0;go_simp⟩) hS ?_
 refine qaa 6 80 (.int .i64 r.length) rfl rfl hS ?_
 refine qai 7 81 (.slice (some ⟨g,z,none⟩) r.length d) rfl rfl (Or.inl ⟨by rfl,fun w' _=>by go_simp;intro hq;omega⟩) hS ?_
 refine qaa 8 82 (.pointer (some ⟨B,0,none⟩)) rfl rfl hS ?_
 refine qaa 9 83 (.pointer (some ⟨B,0,none⟩)) rfl rfl hS ?_
 refine qaa 10 84 (.pointer (some ⟨B,0,none⟩)) rfl rfl hS ?_
 refine qaa 11 85 (.pointer (some ⟨B,3,none⟩)) rfl rfl hS ?_
 refine qai 12 86 (.slice C t.length c) rfl rfl (Or.inl ⟨by rfl,fun w' hS'=>by have s1:=hS' _ (.tail _ (.head _));dsimp only at s1;go_simp⟩) hS ?_
 refine qae 13 rfl fun K hK=>?_
 go_simp;go_at_call 31
 refine cE.mono ?_;rintro e w2⟨rfl,hb1⟩;have hS1:=hS.below hb1;go_wp2_with fail;refine qaE hK hS1 ?_
 clear hK K;refine qaa 14 88 (.pointer (some ⟨B,0,none⟩)) rfl rfl hS1 ?_
 refine qaa 15 89 (.pointer (some ⟨B,0,none⟩)) rfl rfl hS1 ?_
 refine qaa 16 90 (.pointer (some ⟨B,2,none⟩)) rfl rfl hS1 ?_
 have hb1:Below W.heap.size W w2:=(Below.refl _ W).drew.trans hb1
 have hJ2:=HJ.out.below hb1;have x2:=hJ2.cells.2.2.1;have f2:=hJ2.free 2;have HJ2:=hid (hJ2.set2 m)
 have HK2:=hid ((Kept.of_below (B:=B) hb1).setCell 2 (.int .i64 m))
 clear hJ2;refine qae 17 rfl fun K hK=>?_
 go_simp;refine qaE hK (hS1.setAt (by simp) _) ?_
 clear hK K;refine wpAnyH_done (by kernel_rfl) ?_ _
 clear hS hS1;go_wp2_with fail;go_end0;exact⟨HK2.out,.inr ⟨rfl,rfl,_,_,_,_,_,HJ2.out⟩⟩
 -- END2
theorem qyV (h:JobAt W N B C c R d [] 0 t false args inn) (hz:qbj t) (hn:t.length≤1099511627776) (hl:qaf args≤1100000):
  Calls prog 14 #[.pointer (some ⟨B,0,none⟩),encS [91]] W fun e w'=>qfp W N B t inn (qbc [91] args inn t) e w':=by
 have hd:qbc [91] args inn t=qdc t args:=rfl
 rw [hd];rcases List.eq_nil_or_concat args with rfl|⟨r,x,rfl⟩
 ·rw [show qdc t []=qaL t from if_neg nofun]
  exact qqo h
 ·rw [List.concat_eq_append] at *
  have hq:qdc t (r++[x])=if x=[93] then qbJ t [] (qhK t r) else qaL t:=by
   unfold qdc;rw [List.getLast?_concat,List.dropLast_concat];by_cases hx:x=[93]
   ·rw [if_pos hx,if_pos (by rw [hx])]
   ·rw [if_neg hx,if_neg (fun e=>hx (Option.some.inj e))]
  rw [hq];have hs:qaf (r++[x])=qaf r+(x.length+1):=by simp [qaf]
  have hlz:=qaG r;by_cases hx:x=[93]
  ·subst hx
   rw [if_pos rfl];exact qs6 h hz hn (by omega)
  ·rw [if_neg hx]
   exact qqp h hx (by omega)
end
theorem qr1 (g:Nat) (caps:Array Value) (eg:∀args w,(callFunc g args).run prog w=.ok (.enter g args) w) (f:List UInt8→List UInt8) (A:Option Addr) (c:Nat) (ls:List (List UInt8)) (w:World) (hT:qat w (fun _=>True) A ls)
  (hl:ls.length≤1099511627776) (hz:(qax (ls.map f)).length≤140737488355328)
  (hp:∀x∈ls,∀W,Below w.heap.size w W→Calls prog g (#[encS x]++caps) W fun e W'=>e=.returned (encS (f x))∧Below W.heap.size W W'):
  Calls prog 129 #[.slice A ls.length c,.func (.func g) #[] caps] w fun e w'=>e=.returned (encS (qax (ls.map f)))∧Below w.heap.size w w':=by
 obtain⟨N,hN⟩:=qQ (w.heap.size)
 have HN:=hid hN;have HI:Hid (Bld 71 N N 0 #[.pointer none,.slice none 0 0] [] (w.alloc (.cells #[.pointer none,.slice none 0 0] 71))∧Below N w (w.alloc (.cells #[.pointer none,.slice none 0 0] 71))):=
  hid ⟨qb9 71 _ N N 0 _ (by decide) (Nat.le_refl _) (by rw [← hN];exact heap_alloc_new _ _) rfl rfl,by rw [← hN];exact(Below.refl _ _).alloc (Nat.le_refl _) _⟩
 have HTw:=hid hT;have HZ:=hid hz;obtain⟨tot,htot⟩:∃t,qax (ls.map f)=t:=⟨_,rfl⟩
 rw [htot];have HTO:=hid htot;clear hT hz htot;go_enter func129,ntmps129;go_wp2_with fail;go_loopw [10] (fun vi wr=>∃(k:Nat) (acc:List UInt8) (p v:Value),k≤ls.length∧vi=.int .i64 k∧Hid (Bld 71 N N 0 #[p,v] acc wr)∧Hid (acc=qax ((ls.map f).take k))∧Hid (Below N w wr)) (fun vi _=>ls.length-(intOf vi).toNat)
 case atStart=>exact⟨0,[],_,_,Nat.zero_le _,rfl,hid HI.out.1,hid (by simp [qax]),hid HI.out.2⟩
 case round=>
  obtain⟨k,acc,p,v,hk,rfl,HB,HA,HW⟩:=hrel;clear HI;have hNw:N≤wr.heap.size:=by have h1:=HW.out.size;have h2:=HN.out;omega
  by_cases hlt:k<ls.length
  ·have hj:=qdI (ls.map f) (k+1)
   rw [List.take_succ_eq_append_getElem (by rw [List.length_map];exact hlt),qcL,← HA.out,List.getElem_map] at hj;have HS2:Hid (acc++f ls[k]++[10]=qax ((ls.map f).take (k+1))):=hid (by
    rw [List.take_succ_eq_append_getElem (by rw [List.length_map];exact hlt),qcL,← HA.out,List.getElem_map])
   obtain⟨g',o',rfl,-,hck⟩:=(HTw.out.below (show Below w.heap.size w wr by rw [HN.out];exact HW.out)) k hlt
   have cF:=hp ls[k] (List.getElem_mem hlt) wr (by rw [HN.out];exact HW.out)
   have hzz:=HZ.out;obtain⟨x,hx⟩:=qQ (ls[k])
   rw [hx] at hck cF hj HS2;obtain⟨y,hy⟩:=qQ (f x)
   rw [hy] at cF hj HS2;have hal:acc.length+y.length+1≤140737488355328:=by simp only [List.length_append,List.length_singleton] at hj;omega
   clear HA hx hy hj hzz hp HZ;go_wp2_with (go_at_fn g;refine cF.mono ?_;rintro e W' ⟨rfl,hbW⟩)
   have hNW:N≤W'.heap.size:=by have:=hbW.size;omega
   refine(qa4 71 N N 0 #[p,v] acc y W' (qcT p v) (HB.out.below hbW) (by omega) hNW).mono ?_
   rintro e w2⟨rfl,⟨v',hB2⟩,hbe⟩;have hN2:N≤w2.heap.size:=by have:=hbe.size;omega
   have HW2:=hid ((HW.out.trans (hbW.mono hNw)).trans (hbe.below (Nat.le_refl _) hNW))
   have hB2':Bld 71 N N 0 #[.pointer (some ⟨N,0,none⟩),v'] (acc++y) w2:=hB2
   have cB:=qcQ 71 N N 0 #[.pointer (some ⟨N,0,none⟩),v'] (acc++y) 10 w2 (qcT _ _) hB2' (by simp only [List.length_append];omega) hN2
   clear hB2 hB2' hbe cF hbW;go_wp2_with fail;refine cB.mono ?_;rintro e w3⟨rfl,⟨v2,hB3⟩,hbe⟩;have HB3:=hid hB3;have HW3:=hid (HW2.out.trans (hbe.below (Nat.le_refl _) hN2))
   clear hB3 hbe cB;go_wp2_with fail;go_roundw
   case rel=>exact⟨k+1,acc++y++[10],_,v2,by omega,by go_num,hid HB3.out,HS2,HW3⟩
   case measure=>simp [intOf];omega
  ·obtain rfl:k=ls.length:=by omega
   rw [show(ls.map f).take ls.length=ls.map f by rw [List.take_of_length_le (by simp)],HTO.out] at HA;have cT:=qaN 71 N N 0 _ acc wr HB.out;clear HB hp HZ;go_wp2_with fail;refine cT.mono ?_;rintro e w3⟨rfl,-,hbe⟩;have HW3:=hid (HW.out.trans (hbe.below (Nat.le_refl _) hNw))
   clear hbe cT;go_wp2_with fail;go_ret;exact⟨by rw [HA.out];rfl,by rw [HN.out];exact HW3.out⟩
theorem qdP (m:UInt8):∀l:List UInt8,(m∉l∧Lib.indexByte l m=-1∧qde m l=[l])∨(m∈l∧∃a b,l=a++m::b∧m∉a∧Lib.indexByte l m=(a.length:Int)∧qde m l=a::qde m b)
 |[]=>.inl ⟨List.not_mem_nil,rfl,rfl⟩
 |c::r=>by
  rw [show qde m (c::r)=if c=m then []::qde m r else match qde m r with|[]=>[[c]]|x::t=>(c::x)::t by rw [qde];rfl];rw [show Lib.indexByte (c::r) m=if c==m then 0 else if Lib.indexByte r m==-1 then -1 else Lib.indexByte r m+1 by conv=>lhs;unfold Lib.indexByte];by_cases h:c=m
  ·subst h
   rw [if_pos rfl,if_pos (by simp)];exact .inr ⟨.head _,[],r,rfl,List.not_mem_nil,rfl,rfl⟩
  ·rw [if_neg h,if_neg (by simpa using h)]
   rcases qdP m r with ⟨h1,h2,h3⟩|⟨h1,a,b,h2,h3,h4,h5⟩
   ·rw [h2,h3]
    exact .inl ⟨by simp [h1,Ne.symm h],rfl,rfl⟩
   ·rw [h4,h5]
    refine .inr ⟨by simp [h1],c::a,b,by rw [h2];rfl,by simp [h3,Ne.symm h],?_,rfl⟩
    rw [if_neg (by simp<;>omega)];simp
def qsE (m:UInt8) (f:Int) (l:List UInt8):List UInt8:=if 1≤f then(qde m l).getD (f.toNat-1) [] else []
theorem qlT (m:UInt8):∀(f:Nat) (l:List UInt8),((qde m l).getD f []).length≤l.length
 |f,l=>by
  rcases qdP m l with ⟨-,-,h⟩|⟨-,a,b,h1,-,-,h⟩
  ·rw [h]
   cases f with
   |zero=>exact Nat.le_refl _
   |succ f=>simp
  ·rw [h,h1]
   cases f with
   |zero=>simp
   |succ f=>
    have ih:=qlT m f b;simp only [List.getD_cons_succ,List.length_append,List.length_cons]
    omega
termination_by _ l=>l.length
decreasing_by rw [h1];simp;omega
theorem qvf (line:List UInt8) (m:UInt8) (f:Int) (w:World) (hl:line.length≤1099511627776) (hf:f≤1000000) (h1:1≤f):
  Calls prog 133 #[encS line,.int .u8 m.toNat,.int .i64 f] w fun e w'=>e=.returned (encS (qsE m f line))∧w=w':=by
 obtain⟨V,hV⟩:=qQ (qsE m f line)
 rw [hV];go_enter func133,ntmps133;go_wp2_with fail;go_loopw [0,2] (fun vl vf wr=>∃(l:List UInt8) (k:Nat),vl=encS l∧vf=.int .i64 ((k:Int)+1)∧l.length≤line.length∧k≤1000000∧Hid (w=wr)∧Hid (V=(qde m l).getD k [])) (fun _ vf _=>(intOf vf).toNat)
 case atStart=>exact⟨line,(f-1).toNat,rfl,by congr 1;omega,Nat.le_refl _,by omega,hid rfl,hid (by rw [← hV];unfold qsE;rw [if_pos h1];congr 1;omega)⟩
 case round=>
  obtain⟨l,k,rfl,rfl,hll,hk,HW,HV⟩:=hrel;have cI:=fun W=>Tryz.strings_IndexByte ⟨l.toArray⟩ (m.toNat:Int) W
  simp only [qcH] at cI
  have hsz:(⟨l.toArray⟩:ByteArray).size=l.length:=by simp [ByteArray.size]
  rcases qdP m l with ⟨-,h4,h5⟩|⟨-,a,b,h3,-,h4,h5⟩
  ·rw [h4] at cI
   rw [h5] at HV;clear h4 h5;cases k with
   |succ k=>
    have HV:=hid (show V=[] by rw [HV.out];simp)
    have hgt:(1:Int)<((k+1:Nat):Int)+1:=by omega
    go_wp2_with fail;refine(cI _).mono ?_;rintro e w1⟨rfl,rfl⟩;go_wp2_with fail;go_ret;exact⟨by rw [HV.out];rfl,HW.out⟩
   |zero=>
    have HV:=hid (show V=l by rw [HV.out];rfl)
    go_wp2_with fail;refine(cI _).mono ?_;rintro e w1⟨rfl,rfl⟩;go_wp2_with fail;go_ret;exact⟨by rw [HV.out];rfl,HW.out⟩
  ·rw [h4] at cI
   rw [h5] at HV;have hal:a.length+1+b.length=l.length:=by rw [h3];simp;omega
   have hsl:(⟨l.toArray⟩:ByteArray).extract 0 a.length=⟨a.toArray⟩:=by apply ByteArray.ext;simp [h3]
   have hsd:(⟨l.toArray⟩:ByteArray).extract (a.length+1) l.length=⟨b.toArray⟩:=by
    apply ByteArray.ext
    simp only [ByteArray.data_extract,List.extract_toArray,List.extract_eq_take_drop]
    rw [List.take_of_length_le (by simp),h3];simp
   clear h3 h4 h5;obtain⟨n,hn⟩:=qQ (a.length)
   rw [hn] at cI hal hsl hsd;have hm0:¬(n:Int)<0:=by omega
   have hmr:(n:Int)≤(l.length:Int):=by omega
   have hmr1:(n:Int)+1≤(l.length:Int):=by omega
   cases k with
   |succ k=>
    have HV:=hid (show V=(qde m b).getD k [] by rw [HV.out];simp)
    have hgt:(1:Int)<((k+1:Nat):Int)+1:=by omega
    clear hsl;go_wp2_with fail;refine(cI _).mono ?_;rintro e w1⟨rfl,rfl⟩;go_wp2_with fail;go_roundw
    case rel=>exact⟨b,k,rfl,by go_num,by omega,by omega,HW,HV⟩
    case measure=>simp [intOf];omega
   |zero=>
    have HV:=hid (show V=a by rw [HV.out];rfl)
    clear hsd;go_wp2_with fail;refine(cI _).mono ?_;rintro e w1⟨rfl,rfl⟩;go_wp2_with fail;go_ret;exact⟨by rw [HV.out];rfl,HW.out⟩
theorem qgL (f:List UInt8→List UInt8):∀l:List (List UInt8),(∀x∈l,(f x).length≤x.length)→(qax (l.map f)).length≤(qax l).length
 |[],_=>Nat.le_refl _
 |x::r,h=>by
  have h1:=h x (.head _)
  have h2:=qgL f r fun y hy=>h y (.tail _ hy)
  simp only [qax,List.map_cons,List.flatMap_cons,List.length_append,List.length_cons,List.length_nil] at h2 ⊢
  omega
theorem qsD (m:UInt8) (f:Int) (x:List UInt8):(partT m f x).length≤x.length:=by
 unfold partT
 repeat' split
 ·exact qlT _ _ _
 ·simp
 ·exact Nat.le_refl _
theorem qug {M:Nat} (x:List UInt8) (m:UInt8) (f:Int) (w:World) (hx:x.length≤1099511627776) (hf:f≤1000000) (h1:1≤f) (k0:w.cell? ⟨M,0,none⟩=some (.int .u8 m.toNat)) (k1:w.cell? ⟨M+1,0,none⟩=some (.int .i64 f)):
  Calls prog 132 (#[encS x]++#[.pointer (some ⟨M,0,none⟩),.pointer (some ⟨M+1,0,none⟩)]) w fun e w'=>e=.returned (encS (partT m f x))∧Below w.heap.size w w':=by
 have cI:=fun W=>Tryz.strings_IndexByte ⟨x.toArray⟩ (m.toNat:Int) W
 simp only [qcH] at cI
 have cP:=fun W=>qvf x m f W hx hf h1
 rcases qdP m x with ⟨h2,h4,-⟩|⟨h2,a,b,-,-,h4,-⟩
 ·rw [h4] at cI
  have HV:=hid (show partT m f x=x by unfold partT;rw [if_neg h2])
  generalize partT m f x=v at *;show Calls _ _ #[encS x,.pointer (some ⟨M,0,none⟩),.pointer (some ⟨M+1,0,none⟩)] _ _
  clear h2 h4;go_enter func132,ntmps132;go_wp2_with fail;refine(cI _).mono ?_;rintro e w1⟨rfl,rfl⟩;go_wp2_with fail;go_ret;exact⟨by rw [HV.out];rfl,Below.refl _ _⟩
 ·rw [h4] at cI
  have HV:=hid (show partT m f x=qsE m f x by unfold partT qsE;rw [if_pos h2])
  generalize partT m f x=v at *;show Calls _ _ #[encS x,.pointer (some ⟨M,0,none⟩),.pointer (some ⟨M+1,0,none⟩)] _ _
  have hm0:¬(a.length:Int)<0:=by omega
  clear h2 h4;go_enter func132,ntmps132;go_wp2_with fail;refine(cI _).mono ?_;rintro e w1⟨rfl,rfl⟩;go_wp2_with fail;refine(cP _).mono ?_;rintro e w1⟨rfl,rfl⟩;go_wp2_with fail;go_ret;exact⟨by rw [HV.out];rfl,Below.refl _ _⟩
theorem qwL (s:List UInt8) (m:UInt8) (f:Int) (w:World) (hs:s.length≤1099511627775) (hf:f≤1000000) (h1:1≤f):
  Calls prog 76 #[encS s,.int .u8 m.toNat,.int .i64 f] w fun e w'=>e=.returned (encS (qv9 s m f))∧Below w.heap.size w w':=by
 obtain⟨W0,hW0⟩:∃W,(w.alloc (.cells #[.int .u8 m.toNat] 5)).alloc (.cells #[.int .i64 f] 3)=W:=⟨_,rfl⟩
 have r5:W0.heap[w.heap.size]?=some (.cells #[.int .u8 m.toNat] 5 (0,0)):=by rw [← hW0];exact heap_alloc2_old _ _ _
 have r7:W0.heap[w.heap.size+1]?=some (.cells #[.int .i64 f] 3 (0,0)):=by rw [← hW0];exact heap_alloc2_new _ _ _
 have hB0:Below w.heap.size w W0:=by rw [← hW0];exact((Below.refl _ _).alloc (Nat.le_refl _) _).alloc (by simp) _
 have hsz0:W0.heap.size=w.heap.size+2:=by rw [← hW0];simp
 have k0:=cell_of_one r5;have k1:=cell_of_one r7;have cL:=qeH ⟨s.toArray⟩ W0 (by simp [ByteArray.size];omega)
 rw [show(⟨s.toArray⟩:ByteArray).data.toList=s from rfl] at cL;obtain⟨hll,hxl⟩:=qeg _ s (Nat.le_refl _)
 have hjl:=(qfH _ s (Nat.le_refl _)).2
 have hjm:=qgL (partT m f) (qav s) fun x _=>qsD m f x
 have HU:=hid (show qv9 s m f=qax ((qav s).map (partT m f)) from rfl)
 have cT:=fun A c W h (hb:Below W0.heap.size W0 W)=>qr1 132 #[.pointer (some ⟨w.heap.size,0,none⟩),.pointer (some ⟨w.heap.size+1,0,none⟩)] (enters_of func132 (by kernel_rfl) rfl) (partT m f) A c (qav s) W h (by omega) (by omega)
  (fun x hx V hV=>qug x m f V (by have:=hxl x hx;omega) hf h1 (cell_below (qT hb hV) k0) (cell_below (qT hb hV) k1))
 rw [← HU.out] at cT;generalize qv9 s m f=v at *;generalize qav s=L at *;clear hll hxl HU hjl hjm r5 r7 k0 k1;go_enter func76,ntmps76;go_wp2_with fail;refine cL.mono ?_;rintro e w1⟨A,c,rfl,hown,hb1⟩;have HB1:=hid (hB0.trans (hb1.mono (by omega)))
 have cT:=cT A c w1 (qat.of_own (ls:=L) hown).any hb1
 have hn1:=hb1.size;clear cL hb1 hown;go_wp2_with fail;refine cT.mono ?_;rintro e w2⟨rfl,hb2⟩;have HB2:=hid (HB1.out.trans (hb2.mono (by omega)))
 clear cT hb2;go_wp2_with fail;go_ret;exact⟨rfl,HB2.out⟩
def qbg:List (List UInt8)→Option (UInt8×Int×List (List UInt8))
 |a::[m]::c::d::r=>if a=[45,100]∧c=[45,102]∧1≤qeh d then some (m,qeh d,r) else none
 |_=>none
def qcP (W:World) (N B:Nat) (C:Option Addr) (c:Nat) (o:List UInt8) (st:Int) (t:List ND) (rd:Bool) (inn:List UInt8) (q:Option (UInt8×Int×List (List UInt8))) (e:Ending) (w':World):Prop:=
 Kept B W w'∧((q=none∧e=.panicked [qbH 2 0])∨(∃m f r,q=some (m,f,r)∧1≤f∧f<1000000∧e=.returned (.tuple #[.int .u8 m.toNat,.int .i64 f])∧∃R' d',JobAt w' N B C c R' d' o st t rd r inn))
theorem qqh {l:List (List UInt8)} (h:l.head?≠some [45,100]):qbg l=none:=by
 unfold qbg;split
 ·exact if_neg fun e=>h (by rw [e.1];rfl)
 ·rfl
theorem qqg {x:List UInt8} {r:List (List UInt8)} (h:x.length≠1):qbg ([45,100]::x::r)=none:=by
 unfold qbg;split
 ·rename_i heq
  injection heq with _ heq
  injection heq with heq _
  rw [heq] at h;exact absurd rfl h
 ·rfl
theorem qvi {m:UInt8} {r:List (List UInt8)} (h:r.head?≠some [45,102]):qbg ([45,100]::[m]::r)=none:=by
 unfold qbg;split
 ·rename_i heq
  injection heq with _ heq
  injection heq with _ heq
  refine if_neg fun e=>h ?_
  rw [heq,e.2.1]
  rfl
 ·rfl
section
variable {W:World} {N B:Nat} {C:Option Addr} {c:Nat} {R:Option Addr} {d:Nat} {o:List UInt8} {st:Int} {t:List ND} {rd:Bool} {l args:List (List UInt8)} {inn:List UInt8}
theorem qxm (h:JobAt W N B C c R d o st t rd l inn) (hl:l.length≤1099511627776) (h0:l.head?≠some [45,100]):
  Calls prog 74 #[.pointer (some ⟨B,0,none⟩)] W fun e w'=>qcP W N B C c o st t rd inn (qbg l) e w':=by
 rw [qqh h0];have cT:=qiy [45,100] h hl h0
 clear h h0;go_enter func74,ntmps74;go_wp2_with fail;refine cT.mono ?_;rintro e w1⟨rfl,rfl⟩;go_wp2_with fail;refine(qau _).mono ?_;rintro e wm⟨rfl,rfl⟩;go_wp2_with fail;exact⟨rfl,Kept.refl _ _,.inl ⟨rfl,rfl⟩⟩
theorem qxn (h:JobAt W N B C c R d o st t rd [[45,100]] inn):
  Calls prog 74 #[.pointer (some ⟨B,0,none⟩)] W fun e w'=>qcP W N B C c o st t rd inn (qbg [[45,100]]) e w':=by
 rw [show qbg [[45,100]]=none from rfl];have cT:=qdf [45,100] [] h (by simp)
 clear h;go_enter func74,ntmps74;go_wp2_with fail;refine cT.mono ?_;rintro e w1⟨rfl,⟨R1,d1,hJ⟩,hk⟩;have HJ:=hid hJ;have HK:=hid hk;clear cT hJ hk;go_wp2_with fail;refine(qay _).mono ?_;rintro e wm⟨rfl,rfl⟩;go_wp2_with fail;refine(qch HJ.out).mono ?_;rintro e w2⟨rfl,rfl⟩;go_wp2_with fail;exact⟨rfl,HK.out,.inl ⟨rfl,rfl⟩⟩
theorem qxo {x:List UInt8} {r:List (List UInt8)} (h:JobAt W N B C c R d o st t rd ([45,100]::x::r) inn) (hr:r.length≤1000000000) (hx:x.length≠1):
  Calls prog 74 #[.pointer (some ⟨B,0,none⟩)] W fun e w'=>qcP W N B C c o st t rd inn (qbg ([45,100]::x::r)) e w':=by
 rw [qqg hx];have cT:=qdf [45,100] (x::r) h (by simp;omega)
 have hx1:((x.length:Int)==1)=false:=by simp;omega
 clear h hx;go_enter func74,ntmps74;go_wp2_with fail;refine cT.mono ?_;rintro e w1⟨rfl,⟨R1,d1,hJ⟩,hk⟩;have HJ:=hid hJ;have HK:=hid hk;clear cT hJ hk;go_wp2_with fail;refine(qay _).mono ?_;rintro e wm⟨rfl,rfl⟩;go_wp2_with fail;refine(qaz HJ.out (by omega)).mono ?_
 rintro e w2⟨rfl,⟨R2,d2,hJ2⟩,hk2⟩;have HJ2:=hid hJ2;have HK2:=hid (HK.out.trans hk2)
 clear hJ2 hk2 HK HJ;go_wp2_with fail;refine(qau _).mono ?_;rintro e wm⟨rfl,rfl⟩;go_wp2_with fail;exact⟨rfl,HK2.out,.inl ⟨rfl,rfl⟩⟩
theorem qxp {m:UInt8} {r:List (List UInt8)} (h:JobAt W N B C c R d o st t rd ([45,100]::[m]::r) inn) (hr:r.length≤1000000000) (h0:r.head?≠some [45,102]):
  Calls prog 74 #[.pointer (some ⟨B,0,none⟩)] W fun e w'=>qcP W N B C c o st t rd inn (qbg ([45,100]::[m]::r)) e w':=by
 rw [qvi h0];have cT:=qdf [45,100] ([m]::r) h (by simp;omega)
 have H0:=hid h0;clear h h0;go_enter func74,ntmps74;go_wp2_with fail;refine cT.mono ?_;rintro e w1⟨rfl,⟨R1,d1,hJ⟩,hk⟩;have HJ:=hid hJ;have HK:=hid hk;clear cT hJ hk;go_wp2_with fail;refine(qay _).mono ?_;rintro e wm⟨rfl,rfl⟩;go_wp2_with fail;refine(qaz HJ.out (by omega)).mono ?_
 rintro e w2⟨rfl,⟨R2,d2,hJ2⟩,hk2⟩;have HJ2:=hid hJ2;have HK2:=hid (HK.out.trans hk2)
 clear hJ2 hk2 HK HJ;go_wp2_with fail;refine(qiy [45,102] HJ2.out (by omega) H0.out).mono ?_
 rintro e w3⟨rfl,rfl⟩;go_wp2_with fail;refine(qau _).mono ?_;rintro e wm⟨rfl,rfl⟩;go_wp2_with fail;exact⟨rfl,HK2.out,.inl ⟨rfl,rfl⟩⟩
theorem qxq {m:UInt8} (h:JobAt W N B C c R d o st t rd [[45,100],[m],[45,102]] inn):
  Calls prog 74 #[.pointer (some ⟨B,0,none⟩)] W fun e w'=>qcP W N B C c o st t rd inn (qbg [[45,100],[m],[45,102]]) e w':=by
 rw [show qbg [[45,100],[m],[45,102]]=none from rfl];have cT:=qdf [45,100] [[m],[45,102]] h (by simp)
 clear h;go_enter func74,ntmps74;go_wp2_with fail;refine cT.mono ?_;rintro e w1⟨rfl,⟨R1,d1,hJ⟩,hk⟩;have HJ:=hid hJ;have HK:=hid hk;clear cT hJ hk;go_wp2_with fail;refine(qay _).mono ?_;rintro e wm⟨rfl,rfl⟩;go_wp2_with fail;refine(qaz HJ.out (by simp)).mono ?_
 rintro e w2⟨rfl,⟨R2,d2,hJ2⟩,hk2⟩;have HJ2:=hid hJ2;have HK2:=hid (HK.out.trans hk2)
 clear hJ2 hk2 HK HJ;go_wp2_with fail;refine(qdf [45,102] _ HJ2.out (by simp)).mono ?_
 rintro e w3⟨rfl,⟨R3,d3,hJ3⟩,hk3⟩;have HJ3:=hid hJ3;have HK3:=hid (HK2.out.trans hk3)
 clear hJ3 hk3 HK2 HJ2;go_wp2_with fail;refine(qay _).mono ?_;rintro e wm⟨rfl,rfl⟩;go_wp2_with fail;refine(qk6 HJ3.out).mono ?_;rintro e w4⟨rfl,rfl⟩;go_wp2_with fail;exact⟨rfl,HK3.out,.inl ⟨rfl,rfl⟩⟩
theorem qxr {m:UInt8} {x:List UInt8} {r:List (List UInt8)} (h:JobAt W N B C c R d o st t rd ([45,100]::[m]::[45,102]::x::r) inn) (hr:r.length≤1000000000) (hx:x.length≤1099511627776):
  Calls prog 74 #[.pointer (some ⟨B,0,none⟩)] W fun e w'=>qcP W N B C c o st t rd inn (qbg ([45,100]::[m]::[45,102]::x::r)) e w':=by
 have hq1:1≤qeh x→qbg ([45,100]::[m]::[45,102]::x::r)=some (m,qeh x,r):=fun h1=>if_pos ⟨rfl,rfl,h1⟩
 have hq0:¬1≤qeh x→qbg ([45,100]::[m]::[45,102]::x::r)=none:=fun h1=>if_neg fun e=>h1 e.2.2
 generalize qbg ([45,100]::[m]::[45,102]::x::r)=q at *;have HQ:=hid (And.intro hq1 hq0)
 have cT:=qdf [45,100] ([m]::[45,102]::x::r) h (by simp;omega)
 clear hq1 hq0;clear h;go_enter func74,ntmps74;go_wp2_with fail;refine cT.mono ?_;rintro e w1⟨rfl,⟨R1,d1,hJ⟩,hk⟩;have HJ:=hid hJ;have HK:=hid hk;clear cT hJ hk;go_wp2_with fail;refine(qay _).mono ?_;rintro e wm⟨rfl,rfl⟩;go_wp2_with fail;refine(qaz HJ.out (by simp;omega)).mono ?_
 rintro e w2⟨rfl,⟨R2,d2,hJ2⟩,hk2⟩;have HJ2:=hid hJ2;have HK2:=hid (HK.out.trans hk2)
 clear hJ2 hk2 HK HJ;go_wp2_with fail;refine(qdf [45,102] _ HJ2.out (by simp;omega)).mono ?_
 rintro e w3⟨rfl,⟨R3,d3,hJ3⟩,hk3⟩;have HJ3:=hid hJ3;have HK3:=hid (HK2.out.trans hk3)
 clear hJ3 hk3 HK2 HJ2;go_wp2_with fail;refine(qay _).mono ?_;rintro e wm⟨rfl,rfl⟩;go_wp2_with fail;refine(count_cons HJ3.out (by omega) hx).mono ?_
 rintro e w4⟨hk4,⟨hn,rfl⟩|⟨hn0,hn1,rfl,R4,d4,hJ4⟩⟩
 ·have HK4:=hid (HK3.out.trans hk4)
  clear hk4;go_wp2_with fail;exact⟨rfl,HK4.out,.inl ⟨HQ.out.2 (by omega),rfl⟩⟩
 ·have HJ4:=hid hJ4
  have HK4:=hid (HK3.out.trans hk4)
  clear hk4 hJ4 HJ3 HK3;by_cases h1:1≤qeh x
  ·have HQ:=hid (HQ.out.1 h1)
   have H1:=hid (And.intro h1 hn1)
   have hlt:(0:Int)<qeh x:=by omega
   generalize qeh x=n at *;go_wp2_with fail;refine(qay _).mono ?_;rintro e wm⟨rfl,rfl⟩;go_wp2_with fail;go_ret2;exact⟨HK4.out,.inr ⟨_,_,_,HQ.out,H1.out.1,H1.out.2,rfl,R4,d4,HJ4.out⟩⟩
  ·have HQ0:=hid (HQ.out.2 (by omega))
   generalize qeh x=n at *;obtain rfl:n=0:=by omega
   clear h1 hn0 hn1;go_wp2_with fail;refine(qau _).mono ?_;rintro e wm⟨rfl,rfl⟩;go_wp2_with fail;exact⟨rfl,HK4.out,.inl ⟨HQ0.out,rfl⟩⟩
theorem qsG (h:JobAt W N B C c R d o st t rd l inn) (hz:qaf l≤1000000000):
  Calls prog 74 #[.pointer (some ⟨B,0,none⟩)] W fun e w'=>qcP W N B C c o st t rd inn (qbg l) e w':=by
 have hlz:=qaG l;by_cases h0:l.head?=some [45,100]
 ·match l,h,h0,hlz,hz with
  |[a],h,h0,_,_=>
   have h0:some a=some [45,100]:=h0
   cases h0
   exact qxn h
  |a::x::r,h,h0,hlz,hz=>
   have h0:some a=some [45,100]:=h0
   cases h0
   simp only [List.length_cons] at hlz
   by_cases hx:x.length=1
   ·obtain⟨m,rfl⟩:∃m,x=[m]:=by
     match x,hx with
     |[m],_=>exact⟨m,rfl⟩
    by_cases hf:r.head?=some [45,102]
    ·match r,h,hf,hlz,hz with
     |[b],h,hf,_,_=>
      have hf:some b=some [45,102]:=hf
      cases hf
      exact qxq h
     |b::y::r,h,hf,hlz,hz=>
      have hf:some b=some [45,102]:=hf
      cases hf
      have hy:=qaH ([45,100]::[m]::[45,102]::y::r) y (by simp)
      simp only [List.length_cons] at hlz
      exact qxr h (by omega) (by omega)
    ·exact qxp h (by omega) hf
   ·exact qxo h (by omega) hx
 ·exact qxm h (by omega) h0
theorem quB (h:JobAt W N B C c R d o st t rd l inn) (hz:qaf l≤1000000000):
  Calls prog 32 #[.pointer (some ⟨B,0,none⟩),encS [99,117,116]] W fun e w'=>qcf W N B C c o st t rd inn (qbg l=none) (match qbg l with|some (_,_,r)=>r|none=>[]) (fun s=>match qbg l with|some (m,f,_)=>qv9 s m f|none=>[]) e w':=by
 have cL:=qsG h hz;generalize qbg l=q at *;clear h;go_enter func32,ntmps32;go_wp2_with fail;refine cL.mono ?_;rintro e w1⟨hk,⟨rfl,rfl⟩|⟨m,f,r,rfl,h1,h2,rfl,R',d',hJ⟩⟩
 ·go_wp2_with fail
  exact⟨rfl,hk,.inl ⟨by trivial,rfl⟩⟩
 ·obtain⟨V0,hV0⟩:∃V,(w1.alloc (.cells #[.int .u8 m.toNat] 5)).alloc (.cells #[.int .i64 f] 3)=V:=⟨_,rfl⟩
  have r5:V0.heap[w1.heap.size]?=some (.cells #[.int .u8 m.toNat] 5 (0,0)):=by rw [← hV0];exact heap_alloc2_old _ _ _
  have r7:V0.heap[w1.heap.size+1]?=some (.cells #[.int .i64 f] 3 (0,0)):=by rw [← hV0];exact heap_alloc2_new _ _ _
  have hb0:Below w1.heap.size w1 V0:=by rw [← hV0];exact((Below.refl _ _).alloc (Nat.le_refl _) _).alloc (by simp) _
  have hlt:B<w1.heap.size:=hJ.lt
  have HJ:=hid (hJ.below hb0)
  have HK:=hid (hk.trans (Kept.of_below hb0))
  have HF:Hid (∀V,Kept B V0 V→∀s:List UInt8,s.length≤137438953472→Calls prog 75 (#[encS s]++#[.pointer (some ⟨w1.heap.size,0,none⟩),.pointer (some ⟨w1.heap.size+1,0,none⟩)]) V fun e v=>e=.returned (encS (qv9 s m f))∧Below V.heap.size V v):=hid fun V hk s hs=>by
   have hc:=cell_of_one (qbb r5 (by omega) hk)
   have hc2:=cell_of_one (qbb r7 (by omega) hk)
   have cH:=qwL s m f V (by omega) (by omega) h1
   show Calls _ _ #[encS s,.pointer (some ⟨w1.heap.size,0,none⟩),.pointer (some ⟨w1.heap.size+1,0,none⟩)] _ _
   clear r5 r7 hb0 hV0 hk HJ HK;go_enter func75,ntmps75;go_wp2_with fail;refine cH.mono ?_;rintro e w2⟨rfl,hb⟩;go_wp2_with fail;go_ret;exact⟨rfl,hb⟩
  clear r5 r7 hb0 hk hJ cL;go_wp2_with fail;go_ret;exact⟨HK.out,.inr ⟨nofun,_,_,rfl,enters_of func75 (by kernel_rfl) rfl,⟨_,_,HJ.out⟩,HF.out⟩⟩
theorem qk7 {m:UInt8} {f:Int} {r:List (List UInt8)} (h:qbg args=some (m,f,r)):quf t inn args=if(qab [] [] r).ok=false then qaL t else ofT t (qaY t inn (qab [] [] r).rest) (qv9 (qaY t inn (qab [] [] r).rest).out m f):=by
 unfold qbg at h;unfold quf;split at h
 ·split at h
  ·rename_i hc
   obtain⟨rfl,rfl,h3⟩:=hc;cases h
   dsimp only
   by_cases h4:(qab [] [] r).ok=false
   ·rw [if_pos h4,if_pos (.inr (.inr (.inr h4)))]
   ·rw [if_neg h4,if_neg]
    rintro(h|h|h|h)
    ·exact h rfl
    ·exact h rfl
    ·omega
    ·exact h4 h
  ·cases h
 ·cases h
theorem qrg (h:qbg args=none):quf t inn args=qaL t:=by
 unfold qbg at h;unfold quf;split
 ·rename_i a m c d r
  dsimp only at h
  by_cases hc:a=[45,100]∧c=[45,102]∧1≤qeh d
  ·rw [if_pos hc] at h
   cases h
  ·rw [if_pos]
   by_cases h1:a=[45,100]
   ·by_cases h2:c=[45,102]
    ·exact .inr (.inr (.inl (by have:¬1≤qeh d:=fun h3=>hc ⟨h1,h2,h3⟩;omega)))
    ·exact .inr (.inl h2)
   ·exact .inl h1
 ·rfl
theorem qne {m:UInt8} {f:Int} {r:List (List UInt8)} (h:qbg args=some (m,f,r)):qaf r≤qaf args:=by
 unfold qbg at h;split at h
 ·split at h
  ·cases h
   simp [qaf]
   omega
  ·cases h
 ·cases h
theorem qxH (h:JobAt W N B C c R d [] 0 t false args inn) (hok:OkT t) (hz:qbj t) (hl:qaf args≤1100000) (hi:inn.length≤1100000):
  Calls prog 14 #[.pointer (some ⟨B,0,none⟩),encS [99,117,116]] W fun e w'=>qfp W N B t inn (qbc [99,117,116] args inn t) e w':=by
 have hd:qbc [99,117,116] args inn t=quf t inn args:=rfl
 rw [hd];have cF:=quB h (by omega)
 cases hq:qbg args with
 |none=>
  rw [hq] at cF;refine qb1 _ (.inr (.inr (.inr (.inr (.inr (.inr (.inl rfl))))))) hok hz _ _ _ (by simp [qaf]) hi cF _ (fun _=>qrg hq) (fun hb=>absurd rfl hb) (fun hb=>absurd rfl hb)
 |some q=>
  obtain⟨m,f,r⟩:=q;rw [hq] at cF;have hs:=qne hq;refine qb1 _ (.inr (.inr (.inr (.inr (.inr (.inr (.inl rfl))))))) hok hz _ _ _ (by show qaf r≤_;omega) hi cF _ (fun hb=>by cases hb) (fun _ hk=>?_) (fun _ hk=>?_)
  ·rw [qk7 hq,if_pos hk]
  ·rw [qk7 hq,if_neg (by rw [hk];decide)]
end
section
variable {W:World} {N B:Nat} {C:Option Addr} {c:Nat} {R:Option Addr} {d:Nat} {o:List UInt8} {st:Int} {t:List ND} {rd:Bool} {l args:List (List UInt8)} {inn:List UInt8}
theorem qvN {W V:World} {B:Nat} (h:Tab W) (k:Kept B W V) (hB:7≠B):Tab V:=⟨qb3 k h.1 hB,qb3 k h.2 hB⟩
theorem qqn (h:JobAt W N B C c R d [] 0 t false args inn) (hl:qaf args≤1100000) (hT:Tab W) (hB:7≠B):
  Calls prog 14 #[.pointer (some ⟨B,0,none⟩),encS [112,114,105,110,116,102]] W fun e w'=>qfp W N B t inn (qbc [112,114,105,110,116,102] args inn t) e w':=by
 have hd:qbc [112,114,105,110,116,102] args inn t=qfd t args:=rfl
 rw [hd];clear hd;have hlz:=qaG args;cases args with
 |nil=>
  have cN:=qch h;have hq:qfd t []=qaL t:=rfl
  rw [hq];clear h hT;go_enter func14,ntmps14;go_wp2_with fail;refine cN.mono ?_;rintro e w1⟨rfl,rfl⟩;go_wp2_with fail;exact⟨rfl,Kept.refl _ _,.inl ⟨2,0,rfl,rfl⟩⟩
 |cons f r=>
  have hq:qfd t (f::r)=qbJ t (qaV f r).1 (qaV f r).2:=rfl
  rw [hq];have hsz:f.length+qaf r≤1100000:=by
   have:qaf (f::r)=qaf r+f.length+1∨True:=.inr trivial
   unfold qaf at hl ⊢
   simp at hl ⊢
   omega
  have cN:=qaz h (by simp at hlz;omega)
  have cF:=fun V R d (h:JobAt V N B C c R d [] 0 t false r inn) (hT:Tab V)=>qpA f R d r V (fun k hk=>by obtain⟨g,o,e,-,x⟩:=h.texts k hk;exact⟨g,o,e,trivial,x⟩) h.hd (by omega) hT
  generalize qaV f r=v at *;obtain⟨v1,v2⟩:=v;have HF:=hid cF;have HT:=hid (And.intro hT hB)
  clear h hq cF hT hB hlz hl hsz;go_enter func14,ntmps14;go_wp2_with fail;refine cN.mono ?_;rintro e w1⟨rfl,⟨R1,d1,hJ⟩,hk⟩;have cF:=HF.out w1 R1 d1 hJ (qvN HT.out.1 hk HT.out.2)
  have x5:=hJ.cells.2.2.2.2.2.1;have HJ:=hid hJ;have HK:=hid hk;clear cN hJ hk;go_wp2_with fail;refine cF.mono ?_;rintro e w2⟨rfl,hb⟩;have hJ:=HJ.out.below hb;have x0:=hJ.cells.1;have f0:=hJ.free 0;have x2:=hJ.cells.2.2.1;have f2:=hJ.free 2;have HJ2:=hid ((hJ.set0 v1).set2 v2)
  have HK2:=hid (((HK.out.trans (Kept.of_below hb)).setCell 0 (encS v1)).setCell 2 (.int .i64 v2))
  clear hJ hb cF HJ HK;go_wp2_with fail;go_end0;exact⟨HK2.out,.inr ⟨rfl,rfl,_,_,_,_,_,HJ2.out⟩⟩
end
theorem qv3 (a:Int) (k:Nat):((List.range (k+1)).flatMap fun j:Nat=>qaw (a+(j:Int))++[10])=((List.range k).flatMap fun j:Nat=>qaw (a+(j:Int))++[10])++(qaw (a+(k:Int))++[10]):=by
 rw [List.range_succ,List.flatMap_append];simp
def upN (a:Int) (k:Nat):List UInt8:=(List.range k).flatMap fun j:Nat=>qaw (a+(j:Int))++[10]
theorem qkE (a:Int) (k:Nat):upN a (k+1)=upN a k++(qaw (a+(k:Int))++[10]):=qv3 a k
theorem qnH (a:Int) (n:Nat) (h0:-9223372036854775808≤a) (h1:a+n≤9223372036854775807):∀k,k≤n+1→(upN a k).length≤k*22
 |0,_=>by simp [upN]
 |k+1,h=>by
  have ih:=qnH a n h0 h1 k (by omega)
  have hp:=qaQ (n:=a+(k:Int)) (by omega) (by omega)
  rw [qkE,List.length_append,List.length_append,List.length_singleton];omega
def qhm (W:World) (N B:Nat) (C:Option Addr) (c:Nat) (t:List ND) (inn:List UInt8) (q:UQ) (e:Ending) (w':World):Prop:=
 Kept B W w'∧((q=qaL t∧e=.panicked [qbH 2 0])∨∃v,q=qbJ t v 0∧e=.returned (encS v)∧∃R' d' l',JobAt w' N B C c R' d' [] 0 t false l' inn)
section
variable {W:World} {N B:Nat} {C:Option Addr} {c:Nat} {R:Option Addr} {d:Nat} {t:List ND} {l args:List (List UInt8)} {inn:List UInt8}
theorem qxD {a b:List UInt8} (h:JobAt W N B C c R d [] 0 t false [a,b] inn) (ha:a.length≤1099511627776) (hb:b.length≤1099511627776):
  Calls prog 38 #[.pointer (some ⟨B,0,none⟩)] W fun e w'=>qhm W N B C c t inn (qoH t [a,b]) e w':=by
 have c5:=h.cells.2.2.2.2.2.1;have cA:=qcV h (by simp) ha
 have cB:=fun V R d (h:JobAt V N B C c R d [] 0 t false [b] inn)=>qcV h (by simp) hb
 have cE:=fun V R d (h:JobAt V N B C c R d [] 0 t false [] inn)=>qhJ h
 obtain⟨a0,a1⟩:=qcq a;obtain⟨b0,b1⟩:=qcq b;have hq:qoH t [a,b]=ql7 (qah a) (qah b) t:=rfl
 rw [hq];generalize qah a=pa at *;generalize qah b=pb at *;obtain⟨x,xe⟩:=pa;obtain⟨y,ye⟩:=pb;simp only at cA cB a0 a1 b0 b1
 unfold qy4 at cA cB;simp only [List.length_cons,List.length_nil] at c5
 have HB:=hid (And.intro cB cE)
 clear cB cE h;go_enter func38,ntmps38;go_wp2_with fail;refine cA.mono ?_;rintro e w1⟨hk1,⟨hxe,rfl⟩|⟨rfl,rfl,R1,d1,hJ1⟩⟩
 ·go_wp2_with fail
  exact⟨rfl,hk1,.inl ⟨if_pos (.inl hxe),rfl⟩⟩
 have cB:=HB.out.1 w1 R1 d1 hJ1;have HK1:=hid hk1;clear hk1 hJ1 cA;go_wp2_with fail;refine cB.mono ?_;rintro e w2⟨hk2,⟨hye,rfl⟩|⟨rfl,rfl,R2,d2,hJ2⟩⟩
 ·go_wp2_with fail
  exact⟨rfl,HK1.out.trans hk2,.inl ⟨if_pos (.inr (.inl hye)),rfl⟩⟩
 have cE:=HB.out.2 w2 R2 d2 hJ2;have HK2:=hid (HK1.out.trans hk2)
 have HJ2:=hid hJ2;clear hk2 hJ2 cB HK1;go_wp2_with fail;refine cE.mono ?_;rintro e w3⟨rfl,rfl⟩;clear cE
 -- TWO
 by_cases hxy:y<x
 ·have hQ:ql7 (x,0) (y,0) t=qbJ t [] 0:=by
   unfold ql7;rw [if_neg (by rintro(h|h|⟨h,-⟩);exact h rfl;exact h rfl;have h:x≤y:=h;omega)];unfold qhB;have:(y-x+1).toNat=0:=by omega
   show qbJ t (List.flatMap _ (List.range (y-x+1).toNat)) 0=_
   rw [this]
   rfl
  have HQ:=hid hQ;clear hQ;go_wp2_with fail;go_ret;exact⟨HK2.out,.inr ⟨[],HQ.out,rfl,R2,d2,_,HJ2.out⟩⟩
 ·obtain⟨m,hm⟩:∃m:Nat,y-x=(m:Int):=⟨(y-x).toNat,by omega⟩
  have hwm:IntKind.u64.wrap (IntKind.u64.wrap y-IntKind.u64.wrap x)=(m:Int):=by simp only [IntKind.wrap_u64];omega
  by_cases h4:m<4096
  ·have hQ:ql7 (x,0) (y,0) t=qbJ t (upN x (m+1)) 0:=by
    unfold ql7;rw [if_neg (by rintro(h|h|⟨-,h⟩);exact h rfl;exact h rfl;have h:4096≤y-x:=h;omega)];unfold qhB upN;show qbJ t (List.flatMap _ (List.range (y-x+1).toNat)) 0=_
    rw [show(y-x+1).toNat=m+1 by omega]
   have HQ:=hid hQ;have g6:decide ((m:Int)<4096)=true:=decide_eq_true (by omega)
   have hup:=qnH x m (by omega) (by omega)
   have cP:=fun(k:Nat) (_:k≤m) w=>qbR (x+(k:Int)) (by omega) (by omega) w
   obtain⟨M,hM⟩:=qQ (w2.heap.size)
   obtain⟨W1,hW1⟩:=qQ (w2.alloc (.cells #[.pointer none,.slice none 0 0] 71))
   have hb1:Below M w2 W1:=by rw [← hW1];exact(Below.refl _ _).alloc (by omega) _
   have hB1:Bld 71 M M 0 #[.pointer none,.slice none 0 0] [] W1:=qb9 71 _ M M 0 _ (by decide) (Nat.le_refl _) (by rw [← hW1,← hM];exact heap_alloc_new _ _) rfl rfl
   have HI:=hid (And.intro hB1 hb1)
   have hwi:IntKind.i64.wrap (m:Int)=(m:Int):=by simp only [IntKind.wrap_i64];omega
   have HM:=hid hm;clear hQ hb1 hB1 hm;go_wp2_with fail;refine(qay _).mono ?_;rintro e w3⟨rfl,rfl⟩;go_wp2_with fail;go_loopw [41,7] (fun vi _ wr=>∃(k:Nat) (p v:Value),vi=.int .i64 k∧k≤m+1∧Hid (Bld 71 M M 0 #[p,v] (upN x k) wr)∧Hid (Below M w2 wr)) (fun vi _ _=>m+1-(intOf vi).toNat)
   case atStart=>exact⟨0,_,_,rfl,Nat.zero_le _,hid HI.out.1,hid HI.out.2⟩
   case round=>
    obtain⟨k,p,v,rfl,hk,HB,HW⟩:=hrel;have hMw:M≤wr.heap.size:=by have:=HW.out.size;omega
    by_cases hlt:k<m+1
    ·have hkz:(k:Int)<(m:Int)+1:=by omega
     have cP:=cP k (by omega) wr
     have hpl:=qaQ (n:=x+(k:Int)) (by have:=HM.out;omega) (by have:=HM.out;omega)
     have hul:=hup k hk;have hwk:IntKind.i64.wrap (x+(k:Int))=x+(k:Int):=by have:=HM.out;simp only [IntKind.wrap_i64];omega
     have HN:=hid (qkE x k)
     generalize upN x k=u at *;generalize qaw (x+(k:Int))=pr at *;go_wp2_with fail;refine cP.mono ?_;rintro e w4⟨rfl,hb4⟩;have hB4:=HB.out.below hb4;have hM4:M≤w4.heap.size:=by have:=hb4.size;omega
     have HW4:=hid (HW.out.trans (hb4.mono hMw))
     have cW:=qa4 71 M M 0 #[p,v] u (pr++[10]) w4 qlB hB4 (by rw [List.length_append,List.length_singleton];omega) hM4
     clear hb4 hB4 cP HB HW;go_wp2_with fail;refine cW.mono ?_;rintro e w5⟨rfl,⟨v',hB5⟩,hbe⟩;have hb5:=hbe.below (Nat.le_refl _) hM4
     have HW5:=hid (HW4.out.trans hb5)
     obtain⟨p',v'',e⟩:=qhs hB5 (by simp)
     rw [e] at hB5;have HB5:=hid hB5;clear cW hbe hb5 hB5 e HW4;go_wp2_with fail;go_roundw
     case rel=>exact⟨k+1,p',v'',by go_num,by omega,by rw [HN.out];exact HB5,HW5⟩
     case measure=>simp [intOf];omega
    ·obtain rfl:k=m+1:=by omega
     have hkz:¬(((m+1:Nat)):Int)<(m:Int)+1:=by omega
     have cS:=qaN 71 M M 0 #[p,v] (upN x (m+1)) wr HB.out
     clear HB;generalize upN x (m+1)=u at *;go_wp2_with fail;refine cS.mono ?_;rintro e w4⟨rfl,-,hbe⟩;have hb4:=HW.out.trans (hbe.below (Nat.le_refl _) hMw)
     have HJ4:=hid (HJ2.out.low hb4 (by omega))
     have HK4:=hid (HK2.out.trans (Kept.of_below (hM▸hb4)))
     clear hbe hb4 cS;go_wp2_with fail;go_ret;exact⟨HK4.out,.inr ⟨u,HQ.out,rfl,R2,d2,_,HJ4.out⟩⟩
  ·have hQ:ql7 (x,0) (y,0) t=qaL t:=if_pos (.inr (.inr ⟨show x≤y by omega,show 4096≤y-x by omega⟩))
   have HQ:=hid hQ;have g6:decide ((m:Int)<4096)=false:=decide_eq_false (by omega)
   have HM:=hid hm;clear hQ hm;go_wp2_with fail;refine(qau _).mono ?_;rintro e w3⟨rfl,rfl⟩;go_wp2_with fail;exact⟨rfl,HK2.out,.inl ⟨HQ.out,rfl⟩⟩
 -- END TWO
-- ONE
theorem row_one {b:List UInt8} (h:JobAt W N B C c R d [] 0 t false [b] inn) (hb:b.length≤1099511627776):
  Calls prog 38 #[.pointer (some ⟨B,0,none⟩)] W fun e w'=>qhm W N B C c t inn (qoH t [b]) e w':=by
 have c5:=h.cells.2.2.2.2.2.1;have cB:=qcV h (by simp) hb
 have cE:=fun V R d (h:JobAt V N B C c R d [] 0 t false [] inn)=>qhJ h
 obtain⟨b0,b1⟩:=qcq b;have hq:qoH t [b]=ql7 (1,0) (qah b) t:=rfl
 rw [hq];generalize qah b=pb at *;obtain⟨y,ye⟩:=pb;simp only at cB b0 b1
 unfold qy4 at cB;simp only [List.length_cons,List.length_nil] at c5
 have HE:=hid cE;clear cE h;go_enter func38,ntmps38;go_wp2_with fail;refine cB.mono ?_;rintro e w2⟨hk2,⟨hye,rfl⟩|⟨rfl,rfl,R2,d2,hJ2⟩⟩
 ·go_wp2_with fail
  exact⟨rfl,hk2,.inl ⟨if_pos (.inr (.inl hye)),rfl⟩⟩
 have cE:=HE.out w2 R2 d2 hJ2;have HK2:=hid hk2;have HJ2:=hid hJ2;clear hk2 hJ2 cB;go_wp2_with fail;refine cE.mono ?_;rintro e w3⟨rfl,rfl⟩;clear cE;by_cases hxy:y<(1:Int)
 ·have hQ:ql7 ((1:Int),0) (y,0) t=qbJ t [] 0:=by
   unfold ql7;rw [if_neg (by rintro(h|h|⟨h,-⟩);exact h rfl;exact h rfl;have h:(1:Int)≤y:=h;omega)];unfold qhB;have:(y-(1:Int)+1).toNat=0:=by omega
   show qbJ t (List.flatMap _ (List.range (y-(1:Int)+1).toNat)) 0=_
   rw [this]
   rfl
  have HQ:=hid hQ;clear hQ;go_wp2_with fail;go_ret;exact⟨HK2.out,.inr ⟨[],HQ.out,rfl,R2,d2,_,HJ2.out⟩⟩
 ·obtain⟨m,hm⟩:∃m:Nat,y-(1:Int)=(m:Int):=⟨(y-(1:Int)).toNat,by omega⟩
  have hwm:IntKind.u64.wrap (IntKind.u64.wrap y-IntKind.u64.wrap (1:Int))=(m:Int):=by simp only [IntKind.wrap_u64];omega
  by_cases h4:m<4096
  ·have hQ:ql7 ((1:Int),0) (y,0) t=qbJ t (upN (1:Int) (m+1)) 0:=by
    unfold ql7;rw [if_neg (by rintro(h|h|⟨-,h⟩);exact h rfl;exact h rfl;have h:4096≤y-(1:Int):=h;omega)];unfold qhB upN;show qbJ t (List.flatMap _ (List.range (y-(1:Int)+1).toNat)) 0=_
    rw [show(y-(1:Int)+1).toNat=m+1 by omega]
   have HQ:=hid hQ;have g6:decide ((m:Int)<4096)=true:=decide_eq_true (by omega)
   have hup:=qnH (1:Int) m (by omega) (by omega)
   have cP:=fun(k:Nat) (_:k≤m) w=>qbR ((1:Int)+(k:Int)) (by omega) (by omega) w
   obtain⟨M,hM⟩:=qQ (w2.heap.size)
   obtain⟨W1,hW1⟩:=qQ (w2.alloc (.cells #[.pointer none,.slice none 0 0] 71))
   have hb1:Below M w2 W1:=by rw [← hW1];exact(Below.refl _ _).alloc (by omega) _
   have hB1:Bld 71 M M 0 #[.pointer none,.slice none 0 0] [] W1:=qb9 71 _ M M 0 _ (by decide) (Nat.le_refl _) (by rw [← hW1,← hM];exact heap_alloc_new _ _) rfl rfl
   have HI:=hid (And.intro hB1 hb1)
   have hwi:IntKind.i64.wrap (m:Int)=(m:Int):=by simp only [IntKind.wrap_i64];omega
   have HM:=hid hm;clear hQ hb1 hB1;go_wp2_with fail;refine(qay _).mono ?_;rintro e w3⟨rfl,rfl⟩;go_wp2_with fail;go_loopw [41,7] (fun vi _ wr=>∃(k:Nat) (p v:Value),vi=.int .i64 k∧k≤m+1∧Hid (Bld 71 M M 0 #[p,v] (upN (1:Int) k) wr)∧Hid (Below M w2 wr)) (fun vi _ _=>m+1-(intOf vi).toNat)
   case atStart=>exact⟨0,_,_,rfl,Nat.zero_le _,hid HI.out.1,hid HI.out.2⟩
   case round=>
    obtain⟨k,p,v,rfl,hk,HB,HW⟩:=hrel;have hMw:M≤wr.heap.size:=by have:=HW.out.size;omega
    by_cases hlt:k<m+1
    ·have hkz:(k:Int)<(m:Int)+1:=by omega
     have cP:=cP k (by omega) wr
     have hpl:=qaQ (n:=(1:Int)+(k:Int)) (by have:=HM.out;omega) (by have:=HM.out;omega)
     have hul:=hup k hk;have hwk:IntKind.i64.wrap ((1:Int)+(k:Int))=(1:Int)+(k:Int):=by have:=HM.out;simp only [IntKind.wrap_i64];omega
     have HN:=hid (qkE (1:Int) k)
     generalize upN (1:Int) k=u at *;generalize qaw ((1:Int)+(k:Int))=pr at *;go_wp2_with fail;refine cP.mono ?_;rintro e w4⟨rfl,hb4⟩;have hB4:=HB.out.below hb4;have hM4:M≤w4.heap.size:=by have:=hb4.size;omega
     have HW4:=hid (HW.out.trans (hb4.mono hMw))
     have cW:=qa4 71 M M 0 #[p,v] u (pr++[10]) w4 qlB hB4 (by rw [List.length_append,List.length_singleton];omega) hM4
     clear hb4 hB4 cP HB HW;go_wp2_with fail;refine cW.mono ?_;rintro e w5⟨rfl,⟨v',hB5⟩,hbe⟩;have hb5:=hbe.below (Nat.le_refl _) hM4
     have HW5:=hid (HW4.out.trans hb5)
     obtain⟨p',v'',e⟩:=qhs hB5 (by simp)
     rw [e] at hB5;have HB5:=hid hB5;clear cW hbe hb5 hB5 e HW4;go_wp2_with fail;go_roundw
     case rel=>exact⟨k+1,p',v'',by go_num,by omega,by rw [HN.out];exact HB5,HW5⟩
     case measure=>simp [intOf];omega
    ·obtain rfl:k=m+1:=by omega
     have hkz:¬(((m+1:Nat)):Int)<(m:Int)+1:=by omega
     have cS:=qaN 71 M M 0 #[p,v] (upN (1:Int) (m+1)) wr HB.out
     clear HB;generalize upN (1:Int) (m+1)=u at *;go_wp2_with fail;refine cS.mono ?_;rintro e w4⟨rfl,-,hbe⟩;have hb4:=HW.out.trans (hbe.below (Nat.le_refl _) hMw)
     have HJ4:=hid (HJ2.out.low hb4 (by omega))
     have HK4:=hid (HK2.out.trans (Kept.of_below (hM▸hb4)))
     clear hbe hb4 cS;go_wp2_with fail;go_ret;exact⟨HK4.out,.inr ⟨u,HQ.out,rfl,R2,d2,_,HJ4.out⟩⟩
  ·have hQ:ql7 ((1:Int),0) (y,0) t=qaL t:=if_pos (.inr (.inr ⟨show(1:Int)≤y by omega,show 4096≤y-(1:Int) by omega⟩))
   have HQ:=hid hQ;have g6:decide ((m:Int)<4096)=false:=decide_eq_false (by omega)
   have HM:=hid hm;clear hQ;go_wp2_with fail;refine(qau _).mono ?_;rintro e w3⟨rfl,rfl⟩;go_wp2_with fail;exact⟨rfl,HK2.out,.inl ⟨HQ.out,rfl⟩⟩
-- END ONE
theorem qxC (h:JobAt W N B C c R d [] 0 t false [] inn):
  Calls prog 38 #[.pointer (some ⟨B,0,none⟩)] W fun e w'=>qhm W N B C c t inn (qoH t []) e w':=by
 have c5:=h.cells.2.2.2.2.2.1;have cA:=qqa h;simp only [List.length_nil] at c5
 clear h;go_enter func38,ntmps38;go_wp2_with fail;refine cA.mono ?_;rintro e w1⟨rfl,rfl⟩;go_wp2_with fail;exact⟨rfl,Kept.refl _ _,.inl ⟨rfl,rfl⟩⟩
theorem qvr {a b x:List UInt8} {r:List (List UInt8)} (h:JobAt W N B C c R d [] 0 t false (a::b::x::r) inn) (hr:r.length≤1000000000) (ha:a.length≤1099511627776) (hb:b.length≤1099511627776):
  Calls prog 38 #[.pointer (some ⟨B,0,none⟩)] W fun e w'=>qhm W N B C c t inn (qoH t (a::b::x::r)) e w':=by
 have c5:=h.cells.2.2.2.2.2.1;have cA:=qcV h (by simp;omega) ha
 have cB:=fun V R d (h:JobAt V N B C c R d [] 0 t false (b::x::r) inn)=>qcV h (by simp;omega) hb
 have cE:=fun V R d (h:JobAt V N B C c R d [] 0 t false (x::r) inn)=>qg8 h
 have hq:qoH t (a::b::x::r)=qaL t:=rfl
 rw [hq];generalize qah a=pa at *;generalize qah b=pb at *;unfold qy4 at cA cB;simp only [List.length_cons] at c5
 have h1:(1:Int)<((r.length+1+1+1:Nat):Int):=by omega
 generalize r.length+1+1+1=n at *;have HB:=hid (And.intro cB cE)
 clear cB cE h;go_enter func38,ntmps38;go_wp2_with fail;refine cA.mono ?_;rintro e w1⟨hk1,⟨-,rfl⟩|⟨-,rfl,R1,d1,hJ1⟩⟩
 ·go_wp2_with fail
  exact⟨rfl,hk1,.inl ⟨rfl,rfl⟩⟩
 have cB:=HB.out.1 w1 R1 d1 hJ1;have HK1:=hid hk1;clear hk1 hJ1 cA;go_wp2_with fail;refine cB.mono ?_;rintro e w2⟨hk2,⟨-,rfl⟩|⟨-,rfl,R2,d2,hJ2⟩⟩
 ·go_wp2_with fail
  exact⟨rfl,HK1.out.trans hk2,.inl ⟨rfl,rfl⟩⟩
 have cE:=HB.out.2 w2 R2 d2 hJ2;have HK2:=hid (HK1.out.trans hk2)
 clear hk2 hJ2 cB HK1;go_wp2_with fail;refine cE.mono ?_;rintro e w3⟨rfl,rfl⟩;go_wp2_with fail;exact⟨rfl,HK2.out,.inl ⟨rfl,rfl⟩⟩
theorem qxB (h:JobAt W N B C c R d [] 0 t false args inn) (hl:qaf args≤1100000):
  Calls prog 38 #[.pointer (some ⟨B,0,none⟩)] W fun e w'=>qhm W N B C c t inn (qoH t args) e w':=by
 have hm:∀a∈args,a.length≤1099511627776:=fun a ha=>by have:=qaH args a ha;omega
 have hn:=qaG args
 match args,h,hm,hn with
 |[],h,_,_=>exact qxC h
 |[b],h,hm,_=>exact row_one h (hm _ (.head _))
 |[a,b],h,hm,_=>exact qxD h (hm _ (.head _)) (hm _ (.tail _ (.head _)))
 |a::b::x::r,h,hm,hn=>exact qvr h (by simp at hn;omega) (hm _ (.head _)) (hm _ (.tail _ (.head _)))
theorem qxM (h:JobAt W N B C c R d [] 0 t false args inn) (hl:qaf args≤1100000):
  Calls prog 14 #[.pointer (some ⟨B,0,none⟩),encS [115,101,113]] W fun e w'=>qfp W N B t inn (qbc [115,101,113] args inn t) e w':=by
 have cR:=qxB h hl;have hd:qbc [115,101,113] args inn t=qoH t args:=rfl
 rw [hd];generalize qoH t args=q at *;clear h hd;go_enter func14,ntmps14;go_wp2_with fail;refine cR.mono ?_;rintro e w1⟨hk,⟨rfl,rfl⟩|⟨v,rfl,rfl,R',d',l',hJ⟩⟩
 ·go_wp2_with fail
  exact⟨rfl,hk,.inl ⟨2,0,rfl,rfl⟩⟩
 ·have x0:=hJ.cells.1
  have f0:=hJ.free 0;have HJ:=hid (hJ.set0 v)
  have HK:=hid (hk.setCell 0 (encS v))
  clear hJ hk cR;go_wp2_with fail;go_end0;exact⟨HK.out,.inr ⟨rfl,rfl,_,_,_,_,_,HJ.out⟩⟩
end
end Go.Proofs.YtpodopnmkjinhaaGreatDoor
namespace Go.Proofs.YtpodopnmkjinhaaGreatDoor
open Go.RowKit
theorem qvR {p:UInt8→Bool} {a b:List UInt8} (hb:∀c∈b,p c=true) (ha:∀c,a.getLast?=some c→p c=false):((a++b).reverse.takeWhile p).reverse=b∧((a++b).reverse.dropWhile p).reverse=a:=by
 have hb':∀c∈b.reverse,p c=true:=fun c hc=>hb c (List.mem_reverse.1 hc)
 have h0:a.reverse.takeWhile p=[]∧a.reverse.dropWhile p=a.reverse:=by
  rcases List.eq_nil_or_concat a with rfl|⟨l,x,rfl⟩
  ·exact⟨rfl,rfl⟩
  ·have:=ha x (by simp)
   simp [this]
 rw [List.reverse_append,List.takeWhile_append_of_pos hb',List.dropWhile_append_of_pos hb',h0.1,h0.2];simp
theorem qyt {x:List UInt8} {k:Nat} (hk:k≤x.length) (hn:∀j (h:j<x.length),k≤j→x[j]≠47) (h47:∀n (h:n<x.length),k=n+1→x[n]=47):
  qjT x=x.drop k∧qhn x=x.take (k-1)∧(47∉x↔k=0):=by
 have hb:∀c∈x.drop k,(c !=47)=true:=fun c hc=>by
  obtain⟨j,hj,rfl⟩:=List.getElem_of_mem hc;rw [List.length_drop] at hj;rw [List.getElem_drop]
  simpa using hn (k+j) (by omega) (by omega)
 have ha:∀c,(x.take k).getLast?=some c→(c !=47)=false:=fun c hc=>by
  cases k with
  |zero=>simp at hc
  |succ n=>
   rw [List.getLast?_eq_getElem?,List.length_take,Nat.min_eq_left hk,List.getElem?_take] at hc;have hlt:n<x.length:=by omega
   simp [hlt] at hc
   rw [← hc,h47 n hlt rfl]
   decide
 have h:=qvR hb ha;rw [List.take_append_drop] at h;refine⟨h.1,?_,?_⟩
 ·unfold qhn
  have h2:x.reverse.dropWhile (· !=47)=(x.take k).reverse:=by rw [← h.2,List.reverse_reverse]
  rw [h2];cases k with
  |zero=>simp
  |succ n=>
   have hlt:n<x.length:=by omega
   rw [List.take_succ_eq_append_getElem hlt,List.reverse_append];simp only [List.reverse_cons,List.reverse_nil,List.nil_append,List.singleton_append,List.drop_succ_cons,List.drop_zero,List.reverse_reverse,Nat.add_sub_cancel]
 ·constructor
  ·intro hx
   cases k with
   |zero=>rfl
   |succ n=>exact absurd (by have:=h47 n (by omega) rfl;exact this▸List.getElem_mem (by omega)) hx
  ·rintro rfl hx
   obtain⟨j,hj,e⟩:=List.getElem_of_mem hx;exact hn j hj (Nat.zero_le _) e
theorem qt4 (s r:List UInt8) (h:qa1 s=r) (k:Nat) (hk:k≤r.length) (hn:∀j (h:j<r.length),k≤j→r[j]≠47) (h47:∀n (h:n<r.length),k=n+1→r[n]=47):
  qgX s=(if r=[47] then [47] else r.drop k)∧qqK s=(if r=[47] then [47] else if k=0 then [46] else if qa1 (r.take (k-1))=[] then [47] else qa1 (r.take (k-1))):=by
 obtain⟨h1,h2,h3⟩:=qyt hk hn h47;unfold qgX qqK;rw [h,h1,h2];refine⟨rfl,?_⟩
 by_cases e:r=[47]
 ·rw [if_pos e,if_pos e]
 ·rw [if_neg e,if_neg e]
  by_cases e2:k=0
  ·rw [if_pos (h3.2 e2),if_pos e2]
  ·rw [if_neg (fun hh=>e2 (h3.1 hh)),if_neg e2]
end Go.Proofs.YtpodopnmkjinhaaGreatDoor
namespace Go.Proofs.YtpodopnmkjinhaaGreatDoor
open Go.Lib (hid)
open Go.RowKit
theorem qiC (s:List UInt8):(s.all (·==47)=true∧Lib.trimRightB s 47=[]∧qa1 s=s.take 1)∨(s.all (·==47)=false∧Lib.trimRightB s 47=qa1 s∧qa1 s≠[]∧qa1 s≠[47]):=by
 have hr:s.reverse.all (·==47)=s.all (·==47):=by simp
 unfold Lib.trimRightB qa1;rcases qn1 (·==47) s.reverse with ⟨h1,h2⟩|⟨h1,x,r,h2,h3⟩
 ·rw [← hr,h1,h2]
  exact .inl ⟨rfl,rfl,rfl⟩
 ·rw [← hr,h1,h2]
  refine .inr ⟨rfl,rfl,by simp,fun e=>?_⟩
  have e:(x::r).reverse=[47]:=by simpa using e
  have e2:=congrArg List.reverse e;rw [List.reverse_reverse] at e2;have hx:x=47:=by cases e2;rfl
  rw [hx] at h3;cases h3
theorem qv1 (r:List UInt8):∃k:Nat,Lib.lastIndexByte ⟨r.toArray⟩ 47=(k:Int)-1∧k≤r.length∧(∀j (h:j<r.length),k≤j→r[j]≠47)∧(∀n (h:n<r.length),k=n+1→r[n]=47):=by
 have hat:∀x (h:x<r.length),((⟨r.toArray⟩:ByteArray).data[x]!).toNat=(r[x]'h).toNat:=fun x h=>by simp [h]
 have hl:(⟨r.toArray⟩:ByteArray).size=r.length:=by simp [ByteArray.size]
 rcases Lib.lastIndexByte_spec ⟨r.toArray⟩ 47 with ⟨e,hn⟩|⟨x,hx,e,hc,hn⟩
 ·rw [hl] at hn
  refine⟨0,by rw [e];rfl,Nat.zero_le _,fun j h _ e2=>hn j h (by rw [hat j h,e2];rfl),fun n h e2=>by omega⟩
 ·rw [hl] at hx hn
  refine⟨x+1,by rw [e];omega,by omega,fun j h h2 e2=>hn j (by omega) h (by rw [hat j h,e2];rfl),fun n h e2=>?_⟩
  obtain rfl:n=x:=by omega
  rw [hat n h] at hc;exact UInt8.toNat_inj.1 (show(r[n]'h).toNat=47 by omega)
section
variable {W:World} {N B:Nat} {C:Option Addr} {c:Nat} {R:Option Addr} {d:Nat} {t:List ND} {l args:List (List UInt8)} {inn:List UInt8}
theorem qqe (s:List UInt8) (w:World) (hs:s.length≤1099511627776):
  Calls prog 93 #[encS s] w fun e w'=>e=.returned (.tuple #[encS (qqK s),encS (qgX s)])∧Below w.heap.size w w':=by
 have cT:∀(l:List UInt8) W,l.length≤1099511627776→Calls prog 157 #[encS l,.string ⟨#[47]⟩] W fun e w'=>e=.returned (encS (Lib.trimRightB l 47))∧w'=W:=fun l W hl=>by
  have h:=Tryz.strings_TrimRight_one ⟨l.toArray⟩ 47 (by decide) W (by simp [ByteArray.size];omega)
  have e:(⟨l.toArray⟩:ByteArray).data.toList=l:=by simp
  rw [e] at h;exact h
 have cL:=fun(l:List UInt8) W (hl:l.length≤1099511627776)=>Tryz.strings_LastIndexByte ⟨l.toArray⟩ 47 (by simp [ByteArray.size];omega) W
 have cT0:=cT s w hs;rcases qiC s with ⟨h1,h2,h3⟩|⟨h1,h2,h3,h4⟩
 ·rw [h2] at cT0
  have cL0:=cL [] w (by simp)
  rw [show Lib.lastIndexByte ⟨([]:List UInt8).toArray⟩ 47=-1 from rfl] at cL0;cases s with
  |nil=>
   have hd:qqK []=[46]:=rfl
   have hb:qgX []=[]:=rfl
   rw [hd,hb];clear h1 h2 h3 cT cL;go_enter func93,ntmps93;go_wp2_with fail;refine cT0.mono ?_;rintro e w1⟨rfl,rfl⟩;go_wp2_with fail;refine cL0.mono ?_;rintro e w2⟨rfl,rfl⟩;go_wp2_with fail;go_ret2;exact⟨rfl,Below.refl _ _⟩
  |cons x r=>
   have hx:x=47:=by
    have:=List.all_eq_true.1 h1 x (.head _)
    simpa using this
   have h3:qa1 (x::r)=[47]:=by rw [h3,hx];rfl
   have hd:qqK (x::r)=[47]:=by unfold qqK;rw [h3,if_pos rfl]
   have hb:qgX (x::r)=[47]:=by unfold qgX;rw [h3,if_pos rfl]
   rw [hd,hb];have hne:((x::r)==[])=false:=rfl
   generalize (x::r)=s at *;clear h1 h2 h3 cT cL hd hb;go_enter func93,ntmps93;go_wp2_with fail;refine cT0.mono ?_;rintro e w1⟨rfl,rfl⟩;go_wp2_with fail;refine cL0.mono ?_;rintro e w2⟨rfl,rfl⟩;go_wp2_with fail;go_ret2;exact⟨rfl,Below.refl _ _⟩
 ·rw [h2] at cT0
  have hlen:(qa1 s).length≤s.length:=by
   rw [← h2];unfold Lib.trimRightB;have:=qaS (p:=(·==47)) s.reverse
   simpa using this
  obtain⟨r,hr⟩:=qQ (qa1 s)
  rw [hr] at cT0 h3 h4 hlen;obtain⟨k,hk1,hk2,hk3,hk4⟩:=qv1 r;obtain⟨e1,e2⟩:=qt4 s r hr k hk2 hk3 hk4;rw [if_neg h4] at e1 e2;have cL0:=cL r w (by omega)
  rw [hk1] at cL0;rw [e1,e2];have hrne:(r==[])=false:=by simpa using h3
  clear e1 e2 hk1 hk3 hk4 h1 h2 h3 h4 hr;by_cases hk0:k=0
  ·subst hk0
   rw [if_pos rfl];clear cT cL;go_enter func93,ntmps93;go_wp2_with fail;refine cT0.mono ?_;rintro e w1⟨rfl,rfl⟩;go_wp2_with fail;refine cL0.mono ?_;rintro e w2⟨rfl,rfl⟩;go_wp2_with fail;go_ret2;exact⟨rfl,Below.refl _ _⟩
  ·rw [if_neg hk0]
   obtain⟨m,rfl⟩:∃m,k=m+1:=⟨k-1,by omega⟩
   rw [Nat.add_sub_cancel];have hmi:((m+1:Nat):Int)-1=(m:Int):=by omega
   rw [hmi] at cL0;have hm0:¬(m:Int)<0:=by omega
   have hsz:(⟨r.toArray⟩:ByteArray).size=r.length:=by simp [ByteArray.size]
   have hsl:(⟨r.toArray⟩:ByteArray).extract 0 m=⟨(r.take m).toArray⟩:=by apply ByteArray.ext;simp
   have hsd:(⟨r.toArray⟩:ByteArray).extract (m+1) r.length=⟨(r.drop (m+1)).toArray⟩:=by
    apply ByteArray.ext
    simp only [ByteArray.data_extract,List.extract_toArray,List.extract_eq_take_drop]
    rw [List.take_of_length_le (by simp)]
   have hmr:(m:Int)≤(r.length:Int):=by omega
   have hmr1:(m:Int)+1≤(r.length:Int):=by omega
   have cT1:=cT (r.take m) w (by rw [List.length_take];omega)
   have hdir:(Lib.trimRightB (r.take m) 47=[]∧(if qa1 (r.take m)=[] then [47] else qa1 (r.take m))=[47])∨(Lib.trimRightB (r.take m) 47≠[]∧(if qa1 (r.take m)=[] then [47] else qa1 (r.take m))=Lib.trimRightB (r.take m) 47):=by
    rcases qiC (r.take m) with ⟨g1,g2,g3⟩|⟨g1,g2,g3,g4⟩
    ·refine .inl ⟨g2,?_⟩
     rw [g3];generalize r.take m=y at *;cases y with
     |nil=>rfl
     |cons z y=>
      have hz:z=47:=by
       have:=List.all_eq_true.1 g1 z (.head _)
       simpa using this
      subst hz
      rfl
    ·exact .inr ⟨by rw [g2];exact g3,by rw [if_neg g3,g2]⟩
   generalize (if qa1 (r.take m)=[] then [47] else qa1 (r.take m))=dd at *;generalize Lib.trimRightB (r.take m) 47=tr at *;have HD:=hid hdir;clear hdir cT cL;go_enter func93,ntmps93;go_wp2_with fail;refine cT0.mono ?_;rintro e w1⟨rfl,rfl⟩;go_wp2_with fail;refine cL0.mono ?_;rintro e w2⟨rfl,rfl⟩;go_wp2_with fail;refine cT1.mono ?_;rintro e w3⟨rfl,rfl⟩;rcases HD.out with ⟨rfl,rfl⟩|⟨hne,rfl⟩
   ·go_wp2_with fail
    go_quiet (fail)
    go_wp2_with fail;go_ret2;exact⟨rfl,below_drewN (Below.refl _ _) _⟩
   ·have hne2:(dd==[])=false:=by simpa using hne
    go_wp2_with fail;go_quiet (fail)
    go_wp2_with fail;go_ret2;exact⟨rfl,below_drewN (Below.refl _ _) _⟩
def qtY (W:World) (N B:Nat) (C:Option Addr) (c:Nat) (t:List ND) (inn:List UInt8) (q:UQ) (e:Ending) (w':World):Prop:=
 Kept B W w'∧((q=qaL t∧e=.panicked [qbH 2 0])∨∃v,q=qbJ t (v++[10]) 0∧v.length≤1099511627776∧e=.returned (encS v)∧∃R' d' l',JobAt w' N B C c R' d' [] 0 t false l' inn)
theorem qiu (s:List UInt8):(qa1 s).length≤s.length:=by
 unfold qa1;split
 ·rw [List.length_take];omega
 ·have:=qaS (p:=(·==47)) s.reverse
  simpa using this
theorem qwN (s:List UInt8):(qqK s).length≤s.length+1:=by
 have h1:=qiu s;have h2:(qhn (qa1 s)).length≤(qa1 s).length:=by
  unfold qhn;rw [List.length_reverse,List.length_drop];have:=qaS (p:=(· !=47)) (qa1 s).reverse
  simp at this
  omega
 have h3:=qiu (qhn (qa1 s))
 unfold qqK
 repeat' split
 all_goals first|(simp;done)|omega
theorem qt3 (s:List UInt8):(qgX s).length≤s.length+1:=by
 have h1:=qiu s;have h2:(qjT (qa1 s)).length≤(qa1 s).length:=by
  unfold qjT;rw [List.length_reverse];have:=List.takeWhile_sublist (l:=(qa1 s).reverse) (· !=47)
  have:=this.length_le
  simpa using this
 unfold qgX;split
 ·simp
 ·omega
theorem qve (dir:Bool) (name:List UInt8) (hn:dir=true∧name=[100,105,114,110,97,109,101]∨dir=false∧name=[98,97,115,101,110,97,109,101]) (h:JobAt W N B C c R d [] 0 t false args inn) (hl:qaf args≤1100000):
  Calls prog 39 #[.pointer (some ⟨B,0,none⟩),encS name] W fun e w'=>qtY W N B C c t inn (qgY dir t args) e w':=by
 have hlz:=qaG args;cases args with
 |nil=>
  have cN:=qch h;have hq:qgY dir t []=qaL t:=rfl
  rw [hq];clear h;go_enter func39,ntmps39;go_wp2_with fail;refine cN.mono ?_;rintro e w1⟨rfl,rfl⟩;go_wp2_with fail;exact⟨rfl,Kept.refl _ _,.inl ⟨rfl,rfl⟩⟩
 |cons x r=>
  have hx:x.length≤1100000:=by have:=qaH (x::r) x (.head _);omega
  have cN:=qaz h (by simp at hlz;omega)
  have cP:=fun w=>qqe x w (by omega)
  have hd:=qwN x;have hb:=qt3 x;cases r with
  |nil=>
   have cE:=fun V R d (h:JobAt V N B C c R d [] 0 t false [] inn)=>qhJ h
   have hq:qgY dir t [x]=qbJ t ((if dir then qqK x else qgX x)++[10]) 0:=rfl
   rw [hq];generalize qqK x=dx at *;generalize qgX x=bx at *;have HE:=hid cE;clear h cE hl hlz hq;rcases hn with ⟨rfl,rfl⟩|⟨rfl,rfl⟩
   all_goals
    go_enter func39,ntmps39;go_wp2_with fail;refine cN.mono ?_;rintro e w1⟨rfl,⟨R1,d1,hJ⟩,hk⟩;have HJ:=hid hJ;have HK:=hid hk;clear cN hJ hk;go_wp2_with fail;refine(cP _).mono ?_;rintro e w2⟨rfl,hb2⟩;have HK2:=hid (HK.out.trans (Kept.of_below hb2))
    have hJ2:=HJ.out.below hb2;have cE:=HE.out w2 R1 d1 hJ2;have HJ2:=hid hJ2;clear hb2 hJ2 cP HK HJ;go_wp2_with fail;refine cE.mono ?_;rintro e w3⟨rfl,rfl⟩;go_wp2_with fail;go_ret;refine⟨HK2.out,.inr ⟨_,rfl,?_,rfl,R1,d1,_,HJ2.out⟩⟩
    first|(show dx.length≤_;omega)|(show bx.length≤_;omega)
  |cons y r=>
   have cE:=fun V R d (h:JobAt V N B C c R d [] 0 t false (y::r) inn)=>qg8 h
   have hq:qgY dir t (x::y::r)=qaL t:=rfl
   rw [hq];generalize qqK x=dx at *;generalize qgX x=bx at *;have HE:=hid cE;clear h cE hl hlz hq hn;go_enter func39,ntmps39;go_wp2_with fail;refine cN.mono ?_;rintro e w1⟨rfl,⟨R1,d1,hJ⟩,hk⟩;have HJ:=hid hJ;have HK:=hid hk;clear cN hJ hk;go_wp2_with fail;refine(cP _).mono ?_;rintro e w2⟨rfl,hb2⟩;have HK2:=hid (HK.out.trans (Kept.of_below hb2))
   have cE:=HE.out w2 R1 d1 (HJ.out.below hb2)
   clear hb2 cP HK HJ;go_wp2_with fail;refine cE.mono ?_;rintro e w3⟨rfl,rfl⟩;go_wp2_with fail;exact⟨rfl,HK2.out,.inl ⟨rfl,rfl⟩⟩
theorem qoF (dir:Bool) (name:List UInt8) (hn:dir=true∧name=[100,105,114,110,97,109,101]∨dir=false∧name=[98,97,115,101,110,97,109,101]) (h:JobAt W N B C c R d [] 0 t false args inn) (hl:qaf args≤1100000):
  Calls prog 14 #[.pointer (some ⟨B,0,none⟩),encS name] W fun e w'=>qfp W N B t inn (qbc name args inn t) e w':=by
 have cR:=qve dir name hn h hl;have hd:qbc name args inn t=qgY dir t args:=by rcases hn with ⟨rfl,rfl⟩|⟨rfl,rfl⟩<;>rfl
 rw [hd];generalize qgY dir t args=q at *;clear h hd;rcases hn with ⟨rfl,rfl⟩|⟨rfl,rfl⟩
 all_goals
  go_enter func14,ntmps14;go_wp2_with fail;refine cR.mono ?_;rintro e w1⟨hk,⟨rfl,rfl⟩|⟨v,rfl,hv,rfl,R',d',l',hJ⟩⟩
  ·go_wp2_with fail
   exact⟨rfl,hk,.inl ⟨2,0,rfl,rfl⟩⟩
  ·have x0:=hJ.cells.1
   have f0:=hJ.free 0;have HJ:=hid (hJ.set0 (v++[10]))
   have HK:=hid (hk.setCell 0 (encS (v++[10])))
   clear hJ hk cR;go_wp2_with fail;go_end0;exact⟨HK.out,.inr ⟨rfl,rfl,_,_,_,_,_,HJ.out⟩⟩
end
def qf9 (W:World) (N B:Nat) (C:Option Addr) (c:Nat) (t:List ND) (inn:List UInt8) (bad:Prop) (rest:List (List UInt8)) (Q:List ND→List UInt8→List ND×Int) (e:Ending) (w':World):Prop:=
 Kept B W w'∧((bad∧e=.panicked [qbH 2 0])∨(¬bad∧∃g caps,e=.returned (.func (.func g) #[] caps)∧(∀args w,(callFunc g args).run prog w=.ok (.enter g args) w)∧(∃R' d',JobAt w' N B C c R' d' [] 0 t false rest inn)∧qdz w' N B qdS 1100000 g caps Q))
section
variable {W:World} {N B:Nat} {C:Option Addr} {c:Nat} {R:Option Addr} {d:Nat} {t:List ND} {l args:List (List UInt8)} {inn:List UInt8}
theorem qgr (name:List UInt8) (hn:name=[114,109]∨name=[109,107,100,105,114]∨name=[116,111,117,99,104]) (hi:qdS t) (bad:Prop) (rest:List (List UInt8)) (Q:List ND→List UInt8→List ND×Int) (hQi:∀t x,qdS t→x.length+1≤1100000→(Q t x).2=0→qdS (Q t x).1) (hl:qaf rest≤1100000)
  (cF:Calls prog 36 #[.pointer (some ⟨B,0,none⟩),encS name] W fun e w'=>qf9 W N B C c t inn bad rest Q e w') (q:UQ) (h1:bad→q=qaL t) (h2:¬bad→(qab [] [] rest).ok=false→q=qaL t)
  (h3:¬bad→(qab [] [] rest).ok=true→q=qrN t ((qab [] [] rest).rest.foldl (qeQ Q) (some (t,0)))):
  Calls prog 14 #[.pointer (some ⟨B,0,none⟩),encS name] W fun e w'=>qfp W N B t inn q e w':=by
 have hls:=qa6 [] rest []
 have cL:=fun V R d (h:JobAt V N B C c R d [] 0 t false rest inn)=>qcb [] (by decide) (by decide) h (by omega)
 generalize qab [] [] rest=q0 at *;obtain⟨qo,qr,qk⟩:=q0;simp only [List.length_nil,Nat.zero_add] at hls
 have hqr:qaf qr≤1100000:=by omega
 unfold qbF at cL;simp only at cL h2 h3
 have cE:=fun(g:Nat) (caps:Array Value) (eg:∀args w,(callFunc g args).run prog w=.ok (.enter g args) w) (w0 V:World) R d (hQ:qdz w0 N B qdS 1100000 g caps Q) (hk:Kept B w0 V) (h:JobAt V N B C c R d [] 0 t false qr inn)=>qun g caps eg Q qdS 1100000 hQi hQ hk h hi hqr (by decide)
 generalize qr.foldl (qeQ Q) (some (t,0))=fq at *;have HC:=hid (And.intro cL cE)
 have H1:=hid h1;have H2:=hid h2;have H3:=hid h3;clear cL cE hls h1 h2 h3;rcases hn with rfl|rfl|rfl
 all_goals
  go_enter func14,ntmps14;go_wp2_with fail;refine cF.mono ?_;rintro e w1⟨hk1,⟨hbad,rfl⟩|⟨hnb,g,caps,rfl,eg,⟨R1,d1,hJ1⟩,hFn⟩⟩
  ·go_wp2_with fail
   exact⟨rfl,hk1,.inl ⟨2,0,rfl,H1.out hbad⟩⟩
  ·have cL:=HC.out.1 w1 R1 d1 hJ1
   have HK1:=hid hk1;have HF:=hid hFn;have HG:=hid eg;clear cF hk1 hFn hJ1 eg;go_wp2_with fail;refine cL.mono ?_;rintro e w2 (⟨rfl,rfl,hk2⟩|⟨rfl,rfl,⟨R2,d2,hJ2⟩,hk2⟩)
   ·go_wp2_with fail
    exact⟨rfl,HK1.out.trans hk2,.inl ⟨2,0,rfl,H2.out hnb (by trivial)⟩⟩
   ·have cE:=HC.out.2 g caps HG.out w1 w2 R2 d2 HF.out hk2 hJ2
    have HK2:=hid (HK1.out.trans hk2)
    clear cL hk2 hJ2 HF HG;go_wp2_with fail;refine cE.mono ?_;rintro e w3⟨hk3,⟨hq,rfl⟩|⟨t',s',C',c',hq,rfl,hJ3⟩⟩
    ·go_wp2_with fail
     exact⟨rfl,HK2.out.trans hk3,.inl ⟨1,17,rfl,by rw [H3.out hnb (by trivial),hq];rfl⟩⟩
    ·have HJ3:=hid hJ3
     have HK3:=hid (HK2.out.trans hk3)
     have HQ:=hid (show q=qbJ t' [] s' by rw [H3.out hnb (by trivial),hq];rfl)
     clear hJ3 hk3 cE hq;go_wp2_with fail;go_end0;rw [HQ.out];exact⟨HK3.out,.inr ⟨rfl,rfl,C',c',_,_,_,HJ3.out⟩⟩
theorem qra (h:JobAt W N B C c R d [] 0 t false args inn) (hl:args.length≤1099511627776):
  Calls prog 36 #[.pointer (some ⟨B,0,none⟩),encS [116,111,117,99,104]] W fun e w'=>qf9 W N B C c t inn (args=[]) args qdW e w':=by
 obtain⟨V,hV⟩:=qQ (W.alloc (.cells #[.pointer (some ⟨B,0,none⟩)] 53))
 have hb:Below W.heap.size W V:=by rw [← hV];exact(Below.refl _ _).alloc (Nat.le_refl _) _
 have hbx:V.heap[W.heap.size]?=some (.cells #[.pointer (some ⟨B,0,none⟩)] 53 (0,0)):=by rw [← hV];exact heap_alloc_new _ _
 have hlt:=h.lt;have hJ:=h.below hb;have y0:=cell_of_one hbx;have c5:=hJ.cells.2.2.2.2.2.1;have HJ:=hid hJ;have HK:=hid (Kept.of_below (B:=B) hb)
 have HT:=hid (show qdz V N B qdS 1100000 88 #[.pointer (some ⟨W.heap.size,0,none⟩)] qdW from qvZ hbx (by omega))
 clear hb hbx h hJ;cases args with
 |nil=>
  simp only [List.length_nil] at c5
  go_enter func36,ntmps36;go_wp2_with fail;refine(qau _).mono ?_;rintro e w1⟨rfl,rfl⟩;go_wp2_with fail;exact⟨rfl,HK.out,.inl ⟨by trivial,rfl⟩⟩
 |cons x r=>
  simp only [List.length_cons] at c5 hl
  have h0:(0:Int)<(((r.length+1:Nat)):Int):=by omega
  have HN:Hid (¬(x::r)=[]):=hid (by simp)
  go_enter func36,ntmps36;go_wp2_with fail;refine(qay _).mono ?_;rintro e w1⟨rfl,rfl⟩;go_wp2_with fail;go_ret;exact⟨HK.out,.inr ⟨HN.out,_,_,rfl,enters_of func88 (by kernel_rfl) rfl,⟨_,_,HJ.out⟩,HT.out⟩⟩
theorem qs7 (h:JobAt W N B C c R d [] 0 t false args inn) (hi:qdS t) (hl:qaf args≤1100000):
  Calls prog 14 #[.pointer (some ⟨B,0,none⟩),encS [116,111,117,99,104]] W fun e w'=>qfp W N B t inn (qbc [116,111,117,99,104] args inn t) e w':=by
 refine qgr _ (.inr (.inr rfl)) hi _ _ qdW qty hl (qra h (by have:=qaG args;omega)) _ (fun hb=>?_) (fun hb hk=>?_) (fun hb hk=>?_)
 all_goals show qiB t args=_;unfold qiB
 ·rw [if_pos (.inr (by rw [hb];rfl))]
 ·rw [if_pos (.inl hk)]
 ·have hr:(qab [] [] args).rest=args:=by
   cases args with
   |nil=>rfl
   |cons x r=>
    rw [qbs] at hk ⊢;by_cases hx:qsx x=true
    ·rw [if_pos hx] at hk
     by_cases hy:(x.drop 1).all (([]:List UInt8).contains ·)=true
     ·exfalso
      unfold qsx at hx;split at hx
      ·simp at hy
      ·cases hx
     ·rw [if_neg hy] at hk;cases hk
    ·rw [if_neg hx]
  rw [if_neg (by rintro(h|h);rw [hk] at h;cases h;rw [hr] at h;exact hb h),qpq]
end
structure RB (b:Nat) (A:Option Addr) (n c:Nat) (v0 v1 v2 v3 v4:Value) (er:Int) (w:World):Prop where
 b0:w.heap[b]?=some (.cells #[.slice A n c] 23 (0,0))
 b1:w.heap[b+1]?=some (.cells #[v0,v1,v2,v3,v4] 26 (0,0))
 b2:w.heap[b+2]?=some (.cells #[.int .i64 er] 27 (0,0))
section
variable {b n c N:Nat} {A:Option Addr} {er:Int} {v0 v1 v2 v3 v4:Value} {w w':World}
theorem RB.lt (h:RB b A n c v0 v1 v2 v3 v4 er w):b+2<w.heap.size:=lt_of_block h.b2
theorem RB.below (h:RB b A n c v0 v1 v2 v3 v4 er w) (hb:Below N w w') (hN:b+2<N):RB b A n c v0 v1 v2 v3 v4 er w':=
 ⟨(hb.block _ (by omega)).trans h.b0,(hb.block _ (by omega)).trans h.b1,(hb.block _ (by omega)).trans h.b2⟩
theorem RB.kept {B:Nat} (h:RB b A n c v0 v1 v2 v3 v4 er w) (hb:Kept B w w') (hB:b+2<B):RB b A n c v0 v1 v2 v3 v4 er w':=by
 have hl:=h.lt;exact⟨(hb.block _ (by omega) (by omega)).trans h.b0,(hb.block _ (by omega) (by omega)).trans h.b1,(hb.block _ (by omega) (by omega)).trans h.b2⟩
theorem RB.cells (h:RB b A n c v0 v1 v2 v3 v4 er w):w.cell? ⟨b,0,none⟩=some (.slice A n c)∧w.cell? ⟨b+1,0,none⟩=some v0∧w.cell? ⟨b+1,1,none⟩=some v1∧w.cell? ⟨b+1,2,none⟩=some v2∧w.cell? ⟨b+1,3,none⟩=some v3∧w.cell? ⟨b+1,4,none⟩=some v4∧w.cell? ⟨b+2,0,none⟩=some (.int .i64 er)∧
  w.frozen? ⟨b+1,0,none⟩=false∧w.frozen? ⟨b+1,1,none⟩=false∧w.frozen? ⟨b+1,2,none⟩=false∧w.frozen? ⟨b+1,3,none⟩=false∧w.frozen? ⟨b+1,4,none⟩=false∧w.frozen? ⟨b+2,0,none⟩=false:=by
 obtain⟨h0,h1,h2⟩:=h;simp [World.cell?,World.frozen?,h0,h1,h2]
theorem qcw {g k:Nat} {W:World} (h:k≠g) (o:Nat) (v:Value):(W.setCell ⟨g,o,none⟩ v).heap[k]?=W.heap[k]?:=Below.heap_setCell _ _ _ _ h
def stored5 (w:World) (g:Nat) (v0 v1 v2 v3 v4:Value):World:=((((w.setCell ⟨g,0,none⟩ v0).setCell ⟨g,1,none⟩ v1).setCell ⟨g,2,none⟩ v2).setCell ⟨g,3,none⟩ v3).setCell ⟨g,4,none⟩ v4
theorem qbI {g k:Nat} (h:k≠g) (u0 u1 u2 u3 u4:Value):(stored5 w g u0 u1 u2 u3 u4).heap[k]?=w.heap[k]?:=by
 unfold stored5;rw [qcw h,qcw h,qcw h,qcw h,qcw h]
theorem qgT {g:Nat} {T:TypeId} (h:w.heap[g]?=some (.cells #[v0,v1,v2,v3,v4] T (0,0))) (u0 u1 u2 u3 u4:Value):(stored5 w g u0 u1 u2 u3 u4).heap[g]?=some (.cells #[u0,u1,u2,u3,u4] T (0,0)):=by
 have h1:=heap_setCell_same _ _ 0 _ _ u0 h;have h2:=heap_setCell_same _ _ 1 _ _ u1 h1;have h3:=heap_setCell_same _ _ 2 _ _ u2 h2;have h4:=heap_setCell_same _ _ 3 _ _ u3 h3;exact heap_setCell_same _ _ 4 _ _ u4 h4
theorem qft {B g:Nat} {a:World} (h:Below B a w) (hB:B≤g) (u0 u1 u2 u3 u4:Value):Below B a (stored5 w g u0 u1 u2 u3 u4):=
 ((((h.setCell (p:=⟨g,0,none⟩) hB _).setCell (p:=⟨g,1,none⟩) hB _).setCell (p:=⟨g,2,none⟩) hB _).setCell (p:=⟨g,3,none⟩) hB _).setCell (p:=⟨g,4,none⟩) hB _
def qdp (w:World) (b:Nat) (v0 v1 v2 v3 v4:Value) (er:Int):World:=(stored5 w (b+1) v0 v1 v2 v3 v4).setCell ⟨b+2,0,none⟩ (.int .i64 er)
theorem RB.stored (h:RB b A n c v0 v1 v2 v3 v4 er w) (u0 u1 u2 u3 u4:Value) (e:Int):RB b A n c u0 u1 u2 u3 u4 e (qdp w b u0 u1 u2 u3 u4 e):=by
 obtain⟨h0,h1,h2⟩:=h;unfold qdp;refine⟨?_,?_,?_⟩
 ·rw [qcw (by omega),qbI (by omega)];exact h0
 ·rw [qcw (by omega)];exact qgT h1 _ _ _ _ _
 ·exact heap_setCell_same _ _ 0 _ _ _ ((qbI (by omega) _ _ _ _ _).trans h2)
theorem RB.five (h:RB b A n c v0 v1 v2 v3 v4 er w) (u0 u1 u2 u3 u4:Value):RB b A n c u0 u1 u2 u3 u4 er (stored5 w (b+1) u0 u1 u2 u3 u4):=
 ⟨(qbI (by omega) _ _ _ _ _).trans h.b0,qgT h.b1 _ _ _ _ _,(qbI (by omega) _ _ _ _ _).trans h.b2⟩
theorem RB.six (h:RB b A n c v0 v1 v2 v3 v4 er w) (e:Int):RB b A n c v0 v1 v2 v3 v4 e (w.setCell ⟨b+2,0,none⟩ (.int .i64 e)):=
 ⟨(qcw (by omega) _ _).trans h.b0,(qcw (by omega) _ _).trans h.b1,heap_setCell_same _ _ 0 _ _ _ h.b2⟩
theorem qmj {k:Nat} (h1:k≠b+1) (h2:k≠b+2) (u0 u1 u2 u3 u4:Value) (e:Int):(qdp w b u0 u1 u2 u3 u4 e).heap[k]?=w.heap[k]?:=by
 unfold qdp;rw [qcw h2,qbI h1]
theorem qdA {B:Nat} {a:World} (h:Below B a w) (hB:B≤b+1) (u0 u1 u2 u3 u4:Value) (e:Int):Below B a (qdp w b u0 u1 u2 u3 u4 e):=by
 unfold qdp;exact(qft h hB u0 u1 u2 u3 u4).setCell (p:=⟨b+2,0,none⟩) (Nat.le_succ_of_le hB) _
end
theorem Cells.stored5 {L:List (Addr×Value)} {w:World} (h:Cells L w) {g:Nat} (hp:∀q∈L,q.1.block≠g) (u0 u1 u2 u3 u4:Value):Cells L (stored5 w g u0 u1 u2 u3 u4):=fun q hq=>
 (World.cell?_of_block (w:=w) (qbI (hp q hq) u0 u1 u2 u3 u4)).trans (h q hq)
theorem Cells.setOne {L:List (Addr×Value)} {w:World} (h:Cells L w) {g:Nat} (hp:∀q∈L,q.1.block≠g) (o:Nat) (v:Value):Cells L (w.setCell ⟨g,o,none⟩ v):=fun q hq=>
 (World.cell?_of_block (w:=w) (qcw (hp q hq) o v)).trans (h q hq)
theorem qgq (v:Value) (w:World):(Instr.typeAssert (.iface 37 v) 20 37 false).run prog w=.ok v w:=by
 simp [Instr.typeAssert,run_underlying underlying37,go_sem,Result.andThen]
theorem qxE (a b c:Addr) (w:World):
  CallsD prog 12 #[.pointer (some a),.pointer (some b),.pointer (some c)] .returning w fun e u' w'=>e=.returned (.tuple #[])∧u'=.returning∧w'=w:=by
 refine callsD_of_wpS func12 rfl fun c₀ cs hu=>?_
 apply wpS_seq
 apply wpS_region
 simp [wpOpsS,go_sem,recoverD,hu,ntmps12,Exit.thenS]
 refine wpS_of_wp ?_
 change Code.wp _ _ _ ⟨#[.pointer (some a),.pointer (some b),.pointer (some c),.nilIface,undef,.nilIface,undef,undef,undef,undef,undef,undef,undef,undef,undef,undef,undef],[]⟩ _
 go_wp2;cases c₀
 simp_all [bodyPostS,results,Tryz.results12]
theorem qoD (b:Nat) (A:Option Addr) (c:Nat) (t:List ND) (v0 v1 v2 v3 v4:Value) (e0 st er:Int) (older:List PanicEntry) (w:World) (h:RB b A t.length c v0 v1 v2 v3 v4 e0 w) (hT:qal w (fun _=>True) A t) (hl:t.length≤1099511627776) (hz:∀n∈t,n.p.length≤274877906944∧n.x.length≤274877906944):
  CallsD prog 12 #[.pointer (some ⟨b,0,none⟩),.pointer (some ⟨b+1,0,none⟩),.pointer (some ⟨b+2,0,none⟩)] (.panicking (qbH st er::older)) w fun e' u' w'=>
   e'=.returned (.tuple #[])∧u'=.panicking ({ qbH st er with recovered:=true }::older)∧∃C c',RB b A t.length c (.string ⟨#[]⟩) (.string ⟨#[]⟩) (.int .i64 st) (.slice C t.length c') (.bool false) er w'∧qal w' (fun g=>b+3≤g) C t∧t.length≤c'∧Below (b+1) w w':=by
 have hta:=qgq;have cC:=fun V (h:qal V (fun _=>True) A t)=>qiF A c t V h hl hz
 have hF:=h.lt;obtain⟨W0,hW0⟩:=qQ (w.alloc (.cells #[.int .i64 st,.int .i64 er] 37))
 have hA:Below w.heap.size w W0:=by rw [← hW0];exact(Below.refl _ _).alloc (Nat.le_refl _) _
 have hbx:W0.heap[w.heap.size]?=some (.cells #[.int .i64 st,.int .i64 er] 37 (0,0)):=by rw [← hW0];exact heap_alloc_new _ _
 have hR0:RB b A t.length c v0 v1 v2 v3 v4 e0 W0.drew:=(h.below hA hF).below (Below.refl _ _).drew hF
 have hT0:qal W0.drew (fun _=>True) A t:=hT.frame fun g hg _=>⟨trivial,hA.block g hg⟩
 have hS:Cells [(⟨w.heap.size,0,none⟩,.int .i64 st),(⟨w.heap.size,1,none⟩,.int .i64 er),(⟨b,0,none⟩,.slice A t.length c)] W0.drew:=fun z hz=>by
  rcases List.mem_cons.1 hz with rfl|hz
  ·exact(Lib.cell_of_heap hbx 0).trans rfl
  rcases List.mem_cons.1 hz with rfl|hz
  ·exact(Lib.cell_of_heap hbx 1).trans rfl
  rcases List.mem_cons.1 hz with rfl|hz
  ·exact hR0.cells.1
  ·cases hz
 have HB0:=hid (show Below (b+1) w W0.drew from(hA.mono (by omega)).drew)
 have hs0:W0.heap.size=w.heap.size+1:=by rw [← hW0];simp
 have hF0:b+2<W0.heap.size:=by omega
 have hne:∀g,g≠w.heap.size→g≠b→∀q∈[((⟨w.heap.size,0,none⟩:Addr),Value.int .i64 st),(⟨w.heap.size,1,none⟩,.int .i64 er),(⟨b,0,none⟩,.slice A t.length c)],q.1.block≠g:=fun g h1 h2 q hq=>by
  rcases List.mem_cons.1 hq with rfl|hq
  ·exact fun e=>h1 e.symm
  rcases List.mem_cons.1 hq with rfl|hq
  ·exact fun e=>h1 e.symm
  rcases List.mem_cons.1 hq with rfl|hq
  ·exact fun e=>h2 e.symm
  ·cases hq
 have HN:=hid (And.intro (hne (b+1) (by omega) (by omega)) (hne (b+2) (by omega) (by omega)))
 clear h hT hA hbx hne;refine callsD_of_wpS func12 rfl fun c₀ cs hu=>?_
 apply wpS_seq
 apply wpS_region
 simp [wpOpsS,go_sem,recoverD,hu,ntmps12,Exit.thenS,qbH]
 refine wpS_of_wp ?_
 change Code.wp _ _ _ ⟨#[.pointer (some ⟨b,0,none⟩),.pointer (some ⟨b+1,0,none⟩),.pointer (some ⟨b+2,0,none⟩),.iface 37 (.agg #[.int .i64 st,.int .i64 er]),undef,.iface 37 (.agg #[.int .i64 st,.int .i64 er]),undef,undef,undef,undef,undef,undef,undef,undef,undef,undef,undef],[]⟩ _
 go_wp2;refine wp_region_held_drew (S:=Cells [(⟨w.heap.size,0,none⟩,.int .i64 st),(⟨w.heap.size,1,none⟩,.int .i64 er),(⟨b,0,none⟩,.slice A t.length c)]) (by kernel_rfl) hS (fun _=>?_)
 -- REGION
 refine qaa 0 10 (.pointer (some ⟨w.heap.size,0,none⟩)) rfl rfl hS ?_
 refine qai 1 11 (.int .i64 st) rfl rfl (Or.inl ⟨by rfl,fun w' hS'=>by have s0:=hS' _ (.head _);dsimp only at s0;go_simp⟩) hS ?_
 refine qai 2 12 (.slice A t.length c) rfl rfl (Or.inl ⟨by rfl,fun w' hS'=>by have s2:=hS' _ (.tail _ (.tail _ (.head _)));dsimp only at s2;go_simp⟩) hS ?_
 refine qaa 5 15 (.pointer (some ⟨w.heap.size,1,none⟩)) rfl rfl hS ?_
 refine qai 6 16 (.int .i64 er) rfl rfl (Or.inl ⟨by rfl,fun w' hS'=>by have s1:=hS' _ (.tail _ (.head _));dsimp only at s1;go_simp⟩) hS ?_
 refine qae 3 rfl fun K hK=>?_
 go_simp;go_at_call 13
 refine(cC W0.drew hT0).mono ?_;rintro e w2⟨C,c',rfl,hO,hb1⟩;have hS1:=hS.below hb1;have hR2:=hR0.below hb1 (show b+2<W0.drew.heap.size from hF0)
 have HT2:=hid (And.intro hO.nodes hO.cap)
 have HB2:=hid (HB0.out.trans (hb1.mono (show b+1≤W0.drew.heap.size from by show b+1≤W0.heap.size;omega)))
 clear hb1 hO cC hT0;go_wp2_with fail;refine qaE hK hS1 ?_
 clear hK K;refine qaa 4 14 (.agg #[.string ⟨#[]⟩,.string ⟨#[]⟩,.int .i64 st,.slice C t.length c',.bool false]) rfl rfl hS1 ?_
 refine qae 7 rfl fun K hK=>?_
 obtain⟨-,x0,x1,x2,x3,x4,x5,f0,f1,f2,f3,f4,f5⟩:=hR2.cells;have HR2:=hid hR2;clear hR2;go_simp;refine qaE hK (hS1.stored5 HN.out.1 _ _ _ _ _) ?_
 clear hK K;have hR3:=HR2.out.five (.string ⟨#[]⟩) (.string ⟨#[]⟩) (.int .i64 st) (.slice C t.length c') (.bool false)
 have hS3:=hS1.stored5 HN.out.1 (.string ⟨#[]⟩) (.string ⟨#[]⟩) (.int .i64 st) (.slice C t.length c') (.bool false)
 have hB3:=qft HB2.out (Nat.le_refl _) (.string ⟨#[]⟩) (.string ⟨#[]⟩) (.int .i64 st) (.slice C t.length c') (.bool false)
 have hN3:qal (stored5 w2 (b+1) (.string ⟨#[]⟩) (.string ⟨#[]⟩) (.int .i64 st) (.slice C t.length c') (.bool false)) (fun g=>b+3≤g) C t:=HT2.out.1.frame fun g hg hp=>by
  have hp:W0.drew.heap.size≤g:=hp
  have:W0.drew.heap.size=W0.heap.size:=rfl
  exact⟨by omega,qbI (by omega) _ _ _ _ _⟩
 unfold stored5 at hR3 hS3 hB3 hN3;generalize ((((w2.setCell ⟨b+1,0,none⟩ (.string ⟨#[]⟩)).setCell ⟨b+1,1,none⟩ (.string ⟨#[]⟩)).setCell ⟨b+1,2,none⟩ (.int .i64 st)).setCell ⟨b+1,3,none⟩ (.slice C t.length c')).setCell ⟨b+1,4,none⟩ (.bool false)=w3 at *;have HR3:=hid hR3;have HB3:=hid hB3;have HN3:=hid hN3;have HC3:=HT2.out.2;clear hS1 hB3 hN3 HR2 HT2 HB2;refine qae 8 rfl fun K hK=>?_
 obtain⟨-,x0,x1,x2,x3,x4,x5,f0,f1,f2,f3,f4,f5⟩:=HR3.out.cells;clear hR3;go_simp;refine qaE hK (hS3.setOne HN.out.2 _ _) ?_
 clear hK K;refine wpAnyH_done (by kernel_rfl) ?_ _
 change bodyPostS _ _ _ _ _ _ _ _ _
 have hst:=HR3.out.six er;have hbb:=HB3.out.setCell (p:=⟨b+2,0,none⟩) (by show b+1≤b+2;omega) (.int .i64 er)
 have hnn:qal (w3.setCell ⟨b+2,0,none⟩ (.int .i64 er)) (fun g=>b+3≤g) C t:=HN3.out.frame fun g hg hp=>⟨hp,qcw (by have hp:b+3≤g:=hp;omega) _ _⟩
 clear hS hS3;generalize w3.setCell ⟨b+2,0,none⟩ (.int .i64 er)=w4 at *;cases c₀
 simp [bodyPostS,results,Tryz.results12]
 exact⟨C,c',hst,hnn,HC3,hbb⟩
 -- END
theorem qqq (A B:Option Addr) (c1 c2:Nat) (t:List ND) (w:World) (P Q:Nat→Prop) (hn:t.length≤1099511627776) (h1:qal w P A t) (h2:qal w Q B t):
  Calls prog 9 #[.slice A t.length c1,.slice B t.length c2] w fun e w'=>e=.returned (.bool true)∧∃n,w'=w.drewN n:=by
 go_enter func9,ntmps9;go_wp2;go_loopw [5] (fun i wr=>∃(k n:Nat),k≤t.length∧i=.int .i64 k∧wr=w.drewN n) (fun i _=>t.length-(intOf i).toNat)
 case atStart=>exact⟨0,0,Nat.zero_le _,rfl,rfl⟩
 case round=>
  obtain⟨k,n,hk,rfl,rfl⟩:=hrel;by_cases hlt:k<t.length
  ·obtain⟨g1,o1,rfl,-,a0,a1,a2⟩:=h1 k hlt
   obtain⟨g2,o2,rfl,-,b0,b1,b2⟩:=h2 k hlt;generalize t[k]=x at *;clear h1 h2;go_wp2_with fail;go_quiet (fail)
   go_wp2;go_roundw
   case rel=>exact⟨k+1,_,by omega,by go_num,rfl⟩
   case measure=>simp [intOf];omega
  ·clear h1 h2
   go_wp2;go_ret;exact⟨rfl,n,rfl⟩
end Go.Proofs.YtpodopnmkjinhaaGreatDoor
