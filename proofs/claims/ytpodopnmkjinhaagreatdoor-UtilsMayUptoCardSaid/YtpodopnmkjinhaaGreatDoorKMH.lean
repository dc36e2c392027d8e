/- What the statement of May12Said leans on, part 8. Conditions: each theorem's own. -/
import Derived.Test.YtpodopnmkjinhaaGreatDoorKMG
set_option linter.unusedSimpArgs false
set_option maxRecDepth 100000
set_option maxHeartbeats 8000000
open Go.Proofs.Tryz
open List renaming setIfInBounds_toArray → sIA, set_cons_zero → sC0, set_cons_succ → sCS
namespace Go.Proofs.YtpodopnmkjinhaaGreatDoor
open Go.Lib (hid)
open Go.RowKit
def qy9 (q:UQ) (C:Option Addr) (c:Nat):Value:=.agg #[encS q.out,encS [],.int .i64 q.st,.slice C q.tree.length c,.bool q.read]
def qjO (w:World) (q:UQ) (e:Ending) (w':World):Prop:=∃C c,e=.returned (.tuple #[qy9 q C c,.int .i64 q.err])∧qal w' (fun g=>w.heap.size≤g) C q.tree∧q.tree.length≤c∧Below w.heap.size w w'
def qwz (w0:World) (S:List UInt8→Prop) (b:Nat):Prop:=∀(name:List UInt8) (args:List (List UInt8)) (inn:List UInt8) (t:List ND) (A:Option Addr) (c:Nat) (B:Option Addr) (d:Nat) (W:World),S name→Below w0.heap.size w0 W→name.length≤b→qat W (fun _=>True) A args→args.length≤c→qaf args≤b→inn.length≤b→qal W (fun _=>True) B t→t.length≤b→t.length≤d→qbG b t→
 Calls prog 6 #[encS name,.slice A args.length c,encS inn,.slice B t.length d] W fun e w'=>qjO W (qgQ name args inn t) e w'
def qo3 (W:World) (b:Nat) (q:UQ) (C:Option Addr) (c:Nat):Prop:=W.heap[b]?=some (.cells #[encS q.out,encS [],.int .i64 q.st,.slice C q.tree.length c,.bool q.read] 26 (0,0))
theorem qo3.cells {W:World} {b:Nat} {q:UQ} {C:Option Addr} {c:Nat} (h:qo3 W b q C c):
  W.cell? ⟨b,0,none⟩=some (encS q.out)∧W.cell? ⟨b,1,none⟩=some (encS [])∧W.cell? ⟨b,2,none⟩=some (.int .i64 q.st)∧W.cell? ⟨b,3,none⟩=some (.slice C q.tree.length c)∧W.cell? ⟨b,4,none⟩=some (.bool q.read):=by
 unfold qo3 at h;simp [World.cell?,h]
theorem qif (n:Int) (w:World):Calls prog 7 #[.int .i64 n] w fun e w'=>e=.returned (.int .i64 n)∧w'=w:=by
 go_enter func7,ntmps7;go_wp2;go_ret;exact⟨rfl,rfl⟩
theorem qu9:OkT []:=⟨Nat.zero_le _,fun _ h=>absurd h (Nat.not_lt_zero _)⟩
theorem qpd:qaC []=0:=by unfold qaC;rw [if_pos qu9]
theorem qsL:qaw 1=[49]:=by
 unfold qaw;rw [if_neg (by decide)];show qd0 1=[49]
 rw [qd0]
 rfl
theorem qqV:qgQ [119,99] [[45,108]] [97,10] []=⟨[49,10],0,[],true,0⟩:=by
 have hd:qbc [119,99] [[45,108]] [97,10] []=⟨[49,10],0,[],true,0⟩:=by
  unfold qbc;rw [if_neg (by decide),if_neg (by decide),if_neg (by decide),if_pos rfl];unfold qhA;rw [show qab [108,119,99] [] [[45,108]]=⟨[108],[],true⟩ from rfl,if_neg (by decide)];unfold qaY;rw [if_pos rfl];unfold ofT qi7;rw [if_pos rfl,show(qgx [97,10]:Int)=1 by decide,qsL]
  rfl
 unfold qgQ;rw [if_neg (by decide),qpd,if_neg (by decide),hd,if_neg (by decide)]
theorem qmA {b:Nat} {S:List UInt8→Prop} {w:World} (hR:qwz w S b) (hS:S [119,99]) (hb:10≤b):Calls prog 5 #[] w fun e w'=>e=.returned (.bool true)∧Below w.heap.size w w':=by
 have cR:=fun A (W:World) hB h=>hR [119,99] [[45,108]] [97,10] [] A 1 none 0 W hS hB (by simp;omega) h (Nat.le_refl _) (by simp [qaf];omega) (by simp;omega) (fun _ h=>absurd h (Nat.not_lt_zero _)) (by simp) (Nat.le_refl _) (qbm b)
 rw [qqV] at cR;go_enter func5,ntmps5;go_wp2_with fail;obtain⟨W1,hW1⟩:=qQ (w.alloc (.cells #[encS [45,108]] 9))
 have hb1:Below w.heap.size w W1:=by rw [← hW1];exact(Below.refl _ _).alloc (Nat.le_refl _) _
 have hk1:W1.heap[w.heap.size]?=some (.cells #[encS [45,108]] 9 (0,0)):=by rw [← hW1];exact heap_alloc_new w _
 have cR:=cR (some ⟨w.heap.size,0,none⟩) W1 hb1 (fun k hk=>by
  obtain rfl:k=0:=by simp at hk;exact hk
  exact⟨w.heap.size,0,rfl,trivial,by simp [World.cell?,hk1]⟩)
 change Calls _ _ _ (w.alloc (.cells #[encS [45,108]] 9)) _
 rw [hW1];refine cR.mono ?_;rintro e w2⟨C,c,rfl,-,-,hb2⟩;have HB2:=hid (qT hb1 hb2)
 unfold qy9;clear hb1 hb2 hk1 hW1 cR;go_wp2_with fail;refine(qif _ _).mono ?_;rintro e w3⟨rfl,rfl⟩;go_wp2_with fail;go_ret;exact⟨rfl,HB2.out.alloc HB2.out.size _⟩
def qe0:List UInt8:=[58,32,116,114,117,101,32,102,97,108,115,101,32,101,99,104,111,32,112,114,105,110,116,102,32,116,101,115,116,32,91,32,99,97,116,32,104,101,97,100,32,116,97,105,108,32,119,99,32,115,111,114,116,32,116,114,32,117,110,105,113,32,99,117,116,32,114,101,118,32,114,109,32,109,107,100,105,114,32,116,111,117,99,104,32,115,101,113,32,98,97,115,101,110,97,109,101,32,100,105,114,110,97,109,101,32,101,120,112,114]
theorem qlI:Lib.fields qe0=qbQ:=by decide +kernel
theorem qm4:qe0.all (fun b=>decide (b.toNat<128))=true:=by decide +kernel
theorem qle (w:World) (hT:SpT w):Calls prog 45 #[encS qe0] w fun e w'=>e=.returned (.slice (some ⟨w.heap.size,0,none⟩) 23 23)∧w'=w.alloc (.cells (qbQ.map encS).toArray 9):=by
 have h:=Any.strings_Fields_core Tryz.lays157 (by kernel_rfl) ⟨qe0.toArray⟩ w (by decide +kernel) (fun j b hj=>by
  have:(⟨qe0.toArray⟩:ByteArray).data.toList=qe0:=by simp
  rw [this] at hj;have hm:=List.all_eq_true.1 qm4 b (List.mem_of_getElem? hj)
  simpa using hm) hT
 have e:(⟨qe0.toArray⟩:ByteArray).data.toList=qe0:=by simp
 rw [e,qlI] at h;exact h
theorem qie (w:World) (hT:SpT w):Calls prog 20 #[] w fun e w'=>∃g,e=.returned (.slice (some ⟨g,0,none⟩) 23 23)∧qat w' (fun _=>True) (some ⟨g,0,none⟩) qbQ∧Below w.heap.size w w':=by
 have cC:=qaU qe0 (by decide +kernel) w
 have cF:=fun W (hb:Below w.heap.size w W)=>qle W (hT.below hb)
 unfold qe0 at cC cF;clear hT;go_enter func20,ntmps20;go_wp2_with fail;refine cC.mono ?_;rintro e w1⟨rfl,hb1⟩;have cF:=cF w1 hb1;clear cC;go_wp2_with fail;refine cF.mono ?_;rintro e w2⟨rfl,h2⟩;have hk:w2.heap[w1.heap.size]?=some (.cells (qbQ.map encS).toArray 9 (0,0)):=by rw [h2];exact heap_alloc_new _ _
 have HB:=hid (show Below w.heap.size w w2 from by rw [h2];exact hb1.alloc hb1.size _)
 have HT:=hid (show qat w2 (fun _=>True) (some ⟨w1.heap.size,0,none⟩) qbQ from fun k hk2=>⟨_,0,rfl,trivial,by
  rw [Nat.zero_add];refine(Lib.cell_of_heap hk k).trans ?_
  simp [hk2]⟩)
 clear h2 hk cF;go_wp2_with fail;go_ret;exact⟨_,rfl,HT.out,HB.out⟩
theorem qiT (s:List UInt8):Lib.containsS ((qbQ.map fun l=>(⟨l.toArray⟩:ByteArray)).take 23) ⟨s.toArray⟩=qbQ.contains s:=by
 rw [Bool.eq_iff_iff,Lib.containsS_iff,List.contains_iff_mem,List.take_of_length_le (by decide)];constructor
 ·intro h
  obtain⟨x,hx,e⟩:=List.mem_map.1 h;have:x=s:=by simpa using e
  rw [← this];exact hx
 ·intro h
  exact List.mem_map.2 ⟨s,h,rfl⟩
theorem qr0 (s:List UInt8) (w:World) (hT:SpT w):Calls prog 10 #[encS s] w fun e w'=>e=.returned (.bool (qbQ.contains s))∧Below w.heap.size w w':=by
 have cN:=qie w hT;have cK:=fun g W (h:qat W (fun _=>True) (some ⟨g,0,none⟩) qbQ)=>Tryz.slices_Contains_string g 0 23 23 (qbQ.map fun l=>(⟨l.toArray⟩:ByteArray)) ⟨s.toArray⟩ W (by decide) (by decide) (fun j hj=>by
  rw [List.length_map] at hj;obtain⟨g2,o2,e,-,hc⟩:=h j hj;cases e
  rw [hc,List.getD_eq_getElem?_getD,List.getElem?_map,List.getElem?_eq_getElem hj]
  rfl)
 simp only [qiT] at cK
 generalize qbQ.contains s=q at *;clear hT;go_enter func10,ntmps10;go_wp2_with fail;refine cN.mono ?_;rintro e w1⟨g,rfl,hT,hb⟩;have cK:=cK g w1 hT;have HB:=hid hb;clear cN hT hb;go_wp2_with fail;refine cK.mono ?_;rintro e w2⟨rfl,rfl⟩;go_wp2_with fail;go_ret;exact⟨rfl,HB.out⟩
abbrev W3U (w:World) (A:Option Addr) (n c:Nat):World:=((w.alloc (.cells #[.slice A n c] 23)).alloc (.cells #[.string ⟨#[]⟩,.string ⟨#[]⟩,.int .i64 0,.slice none 0 0,.bool false] 26)).alloc (.cells #[.int .i64 0] 27)
theorem qtK (w:World) (A:Option Addr) (n c:Nat) {W:World} (h:W3U w A n c=W):RB w.heap.size A n c (.string ⟨#[]⟩) (.string ⟨#[]⟩) (.int .i64 0) (.slice none 0 0) (.bool false) 0 W∧Below w.heap.size w W∧W.heap.size=w.heap.size+3:=by
 subst h;have h1:=heap_alloc_new w (.cells #[.slice A n c] 23)
 have h2:=heap_alloc_new (w.alloc (.cells #[.slice A n c] 23)) (.cells #[.string ⟨#[]⟩,.string ⟨#[]⟩,.int .i64 0,.slice none 0 0,.bool false] 26)
 have h3:=heap_alloc_new ((w.alloc (.cells #[.slice A n c] 23)).alloc (.cells #[.string ⟨#[]⟩,.string ⟨#[]⟩,.int .i64 0,.slice none 0 0,.bool false] 26)) (.cells #[.int .i64 0] 27)
 simp only [World.size_alloc] at h2 h3
 refine⟨⟨?_,?_,h3⟩,(((Below.refl _ w).alloc (Nat.le_refl _) _).alloc (by simp) _).alloc (by simp;omega) _,by simp⟩
 ·exact(Below.heap_alloc _ _ _ (by simp;omega)).trans ((Below.heap_alloc _ _ _ (by simp)).trans h1)
 ·exact(Below.heap_alloc _ _ _ (by simp)).trans h2
theorem qvB (name:List UInt8) (args:List (List UInt8)) (inn:List UInt8) (t:List ND) (A:Option Addr) (c:Nat) (B:Option Addr) (d:Nat) (w:World) (hT:SpT w)
  (hA:qat w (fun _=>True) A args) (hc:args.length≤c) (hN:qal w (fun _=>True) B t) (hl:t.length≤1099511627776) (hd:t.length≤d) (hz:qbj t)
  (hJ:OkT t→name∈qbQ→∀V J C cc R dd,JobAt V (w.heap.size+3) J C cc R dd [] 0 t false args inn→Below w.heap.size w V→Calls prog 14 #[.pointer (some ⟨J,0,none⟩),encS name] V fun e w'=>qfp V (w.heap.size+3) J t inn (qbc name args inn t) e w'):
  Calls prog 6 #[encS name,.slice A args.length c,encS inn,.slice B t.length d] w fun e w'=>qjO w (qgQ name args inn t) e w':=by
 obtain⟨W,hW⟩:=qQ (W3U w B t.length d)
 obtain⟨hR,hb,hs⟩:=qtK w B t.length d hW;have hmf:∀(fn:Fn) (first cap:Array Value) (w:World),(Instr.makeFunc fn first cap).run prog w=.ok (.func fn first cap) w:=fun _ _ _ _=>rfl
 have cK:=qr0 name W (hT.below hb)
 have hq:(name∉qbQ∧qgQ name args inn t=⟨[],0,[],false,31⟩)∨(name∈qbQ∧qaC t≠0∧qgQ name args inn t=⟨[],0,[],false,qaC t⟩)∨(name∈qbQ∧OkT t∧qgQ name args inn t=if 65536<(qbc name args inn t).out.length then⟨[],1,t,false,17⟩ else qbc name args inn t):=by
  unfold qgQ;by_cases h1:name∈qbQ
  ·rw [if_neg (fun h=>h h1)]
   by_cases h2:qaC t=0
   ·refine .inr (.inr ⟨h1,?_,by rw [if_neg (fun h=>h h2)]⟩)
    unfold qaC at h2;by_cases h:OkT t
    ·exact h
    ·rw [if_neg h] at h2;exact absurd h2 (by decide)
   ·exact .inr (.inl ⟨h1,h2,by rw [if_pos h2]⟩)
  ·exact .inl ⟨h1,by rw [if_pos h1]⟩
 obtain⟨N,hNe⟩:=qQ (w.heap.size)
 rw [hNe] at hR hb hs hJ;unfold qjO;rw [hNe]
 dsimp only [W3U] at hW
 rcases hq with ⟨hn,hq⟩|⟨hn,hck,hq⟩|⟨hn,hok,hq⟩
 ·rw [show qbQ.contains name=false by simpa using hn] at cK
  have HQ:=hid hq;generalize qgQ name args inn t=q at *;clear hJ hq hn hN hA;go_enter_defers func6,ntmps6
  go_wp2_with fail;refine cK.mono ?_;rintro e w1⟨rfl,hb1⟩;have hR1:=hR.below hb1 (by omega)
  have hB1:=hb.trans (hb1.mono (by omega))
  obtain⟨-,x0,x1,x2,x3,x4,x5,f0,f1,f2,f3,f4,f5⟩:=hR1.cells;have HR1:=hid hR1;have HB1:=hid hB1;clear cK hb1 hR1 hB1 hW hR hb;go_wp2_with fail;clear x0 x1 x2 x3 x4 x5 f0 f1 f2 f3 f4 f5;have hst:=HR1.out.stored (.string ⟨#[]⟩) (.string ⟨#[]⟩) (.int .i64 0) (.slice none 0 0) (.bool false) 31
  have hbb:=qdA HB1.out (Nat.le_succ _) (.string ⟨#[]⟩) (.string ⟨#[]⟩) (.int .i64 0) (.slice none 0 0) (.bool false) 31
  rw [show N+1+1=N+2 by omega];unfold qdp stored5 at hst hbb;generalize (((((w1.setCell ⟨N+1,0,none⟩ (.string ⟨#[]⟩)).setCell ⟨N+1,1,none⟩ (.string ⟨#[]⟩)).setCell ⟨N+1,2,none⟩ (.int .i64 0)).setCell ⟨N+1,3,none⟩ (.slice none 0 0)).setCell ⟨N+1,4,none⟩ (.bool false)).setCell ⟨N+2,0,none⟩ (.int .i64 31)=w5 at *;obtain⟨-,l0,l1,l2,l3,l4,l5,-⟩:=hst.cells;have HB5:=hid hbb;clear hst hbb HR1 HB1;simp [bodyPostD,Leaves,results,Tryz.results6,go_sem,l0,l1,l2,l3,l4,l5]
  obtain rfl:=HQ.out
  exact⟨none,0,⟨rfl,rfl⟩,fun k hk=>absurd hk (Nat.not_lt_zero _),Nat.zero_le _,HB5.out⟩
 ·rw [show qbQ.contains name=true by simpa using hn] at cK
  have HQ:=hid hq;have cC:=fun V (hb:Below w.heap.size w V)=>qeM B d t V (hN.below hb) hl hz hd
  obtain⟨m,hm⟩:=qQ (qaC t)
  rw [hm] at hck HQ;simp only [hm] at cC
  have hmne:(m !=0)=true:=by simpa using hck
  have hmne2:(m==0)=false:=by simpa using hck
  generalize qgQ name args inn t=q at *;have y0:=hR.cells.1;clear hJ hq hn hN hA hm hck;go_enter_defers func6,ntmps6
  go_wp2_with fail;refine cK.mono ?_;rintro e w1⟨rfl,hb1⟩;have hR1:=hR.below hb1 (by omega)
  have hB1:=hb.trans (hb1.mono (by omega))
  have cC:=cC w1 (hNe▸hB1)
  have HRR:=hid hR1;have HBB:=hid hB1;have y0:=hR1.cells.1;clear cK hb1 hR hb hW hR1 hB1;go_wp2_with fail;refine cC.mono ?_;rintro e w2⟨rfl,hb2⟩;have hR2:=HRR.out.below hb2 (by have:=HRR.out.lt;omega)
  have HB1:=hid (HBB.out.trans (hb2.mono (by have:=HRR.out.lt;omega)))
  have HR1:=hid hR2;obtain⟨-,x0,x1,x2,x3,x4,x5,f0,f1,f2,f3,f4,f5⟩:=hR2.cells;clear cC hb2 hR2 HRR HBB y0;go_wp2_with fail;clear x0 x1 x2 x3 x4 x5 f0 f1 f2 f3 f4 f5;have hst:=HR1.out.stored (.string ⟨#[]⟩) (.string ⟨#[]⟩) (.int .i64 0) (.slice none 0 0) (.bool false) m
  have hbb:=qdA HB1.out (Nat.le_succ _) (.string ⟨#[]⟩) (.string ⟨#[]⟩) (.int .i64 0) (.slice none 0 0) (.bool false) m
  rw [show N+1+1=N+2 by omega];unfold qdp stored5 at hst hbb;generalize (((((w2.setCell ⟨N+1,0,none⟩ (.string ⟨#[]⟩)).setCell ⟨N+1,1,none⟩ (.string ⟨#[]⟩)).setCell ⟨N+1,2,none⟩ (.int .i64 0)).setCell ⟨N+1,3,none⟩ (.slice none 0 0)).setCell ⟨N+1,4,none⟩ (.bool false)).setCell ⟨N+2,0,none⟩ (.int .i64 m)=w5 at *;obtain⟨-,l0,l1,l2,l3,l4,l5,-⟩:=hst.cells;have HB5:=hid hbb;clear hst hbb HR1 HB1;simp [bodyPostD,Leaves,results,Tryz.results6,go_sem,l0,l1,l2,l3,l4,l5]
  obtain rfl:=HQ.out
  exact⟨none,0,⟨rfl,rfl⟩,fun k hk=>absurd hk (Nat.not_lt_zero _),Nat.zero_le _,HB5.out⟩
 ·rw [show qbQ.contains name=true by simpa using hn] at cK
  have cC:=fun V (hb:Below w.heap.size w V)=>qeM B d t V (hN.below hb) hl hz hd
  rw [qhw hok] at cC;have cU:=fun V (h:qal V (fun _=>True) B t)=>qiF B d t V h hl hz
  have cJ:=hJ hok hn;have hAt:qat w (fun g=>g<N) A args:=fun k hk=>by
   obtain⟨g,o,e,-,h⟩:=hA k hk;exact⟨g,o,e,by have:=World.block_lt_of_cell? _ _ h;rw [hNe] at this;exact this,h⟩
  have HNB:=hid (show ∀V,Below N w V→qal V (fun _=>True) B t from fun V hb=>hN.below (hNe▸hb))
  have HQ:=hid hq;have HAt:=hid hAt;generalize qgQ name args inn t=q at *;generalize qbc name args inn t=qd at *;have y0:=hR.cells.1;clear hJ hq hn hN hA hAt;go_enter_defers func6,ntmps6
  go_wp2_with fail;refine cK.mono ?_;rintro e w1⟨rfl,hb1⟩;have hR1:=hR.below hb1 (by omega)
  have hB1:=hb.trans (hb1.mono (by omega))
  have cC:=cC w1 (hNe▸hB1)
  have HRR:=hid hR1;have HBB:=hid hB1;have y0:=hR1.cells.1;clear cK hb1 hR hb hW hR1 hB1;go_wp2_with fail;refine cC.mono ?_;rintro e w2⟨rfl,hb2⟩;have hR2:=HRR.out.below hb2 (by have:=HRR.out.lt;omega)
  have hB2:=HBB.out.trans (hb2.mono (by have:=HRR.out.lt;omega))
  have cU:=cU w2 (HNB.out w2 hB2)
  have HR2:=hid hR2;have HB2:=hid hB2;have y0:=hR2.cells.1;clear cC hb2 hR2 HRR HBB hB2;go_wp2_with fail;refine cU.mono ?_;rintro e w3⟨C,c',rfl,hO3,hb3⟩;have hl2:N+2<w2.heap.size:=HR2.out.lt
  have hR3:=HR2.out.below hb3 hl2;have hB3:=HB2.out.trans (hb3.mono (by omega))
  obtain⟨V,hV⟩:=qQ (w3.alloc (.cells #[.string ⟨#[]⟩,.string ⟨#[]⟩,.int .i64 0,.slice C t.length c',.bool false,.slice A args.length c,encS inn] 42))
  have hbV:Below w3.heap.size w3 V:=by rw [← hV];exact(Below.refl _ _).alloc (Nat.le_refl _) _
  have hkV:V.heap[w3.heap.size]?=some (.cells #[.string ⟨#[]⟩,.string ⟨#[]⟩,.int .i64 0,.slice C t.length c',.bool false,.slice A args.length c,encS inn] 42 (0,0)):=by rw [← hV];exact heap_alloc_new _ _
  have hl3:N+2<w3.heap.size:=hR3.lt
  have hJV:JobAt V (N+3) w3.heap.size C c' A c [] 0 t false args inn:=by
   refine⟨hkV,?_,hO3.cap,?_,hc,by omega⟩
   ·refine hO3.nodes.frame fun g hg hp=>⟨⟨?_,by omega⟩,hbV.block g hg⟩
    have hp:w2.heap.size≤g:=hp
    omega
   ·exact HAt.out.frame fun g hg hp=>⟨by have hp:g<N:=hp;omega,(hbV.block g (by have:=hB3.size;omega)).trans (hB3.block g hp)⟩
  have hBV:=hB3.trans (hbV.mono (by omega))
  have cJ:=cJ V _ _ _ _ _ hJV (hNe▸hBV)
  have HRV:=hid (hR3.below hbV hl3)
  have HBV:=hid hBV;obtain⟨J,hJe⟩:=qQ (w3.heap.size)
  rw [hJe] at cJ hl3;clear cU hO3 hb3 hR3 hB3 hbV hkV hJV hBV HR2 HB2 HAt y0;go_wp2_with fail;refine cJ.mono ?_;rintro e w4⟨hk4,⟨st,er,rfl,rfl⟩|⟨rfl,he0,C4,c4,R4,d4,l4,hJ4⟩⟩
  ·have hR4:=HRV.out.kept hk4 hl3
   have hB4:Below N w w4:=HBV.out.trans (hk4.below (by have:=HBV.out.size;omega) (by omega))
   have HQ2:q=⟨[],st,t,false,er⟩:=HQ.out.trans (if_neg (by simp))
   clear cJ hk4 HRV HBV;go_wp2_with fail;rw [show N+1+1=N+2 by omega];have hT4:qal w4 (fun _=>True) B t:=HNB.out w4 hB4
   refine leaves_cons (f:=12) (args:=#[.pointer (some ⟨N,0,none⟩),.pointer (some ⟨N+1,0,none⟩),.pointer (some ⟨N+2,0,none⟩)]) (by simp) (by simp [go_sem]) ?_
   refine(qoD N B d t _ _ _ _ _ _ st er [] _ hR4 hT4 hl hz).mono ?_
   rintro e' u' w5⟨rfl,rfl,C5,c5,hR5,hN5,hc5,hb5⟩;obtain⟨-,l0,l1,l2,l3,l4,l5,-⟩:=hR5.cells;have HB5:=hid (And.intro (hN5.frame (Q:=fun g=>N≤g) fun g _ hp=>⟨by have hp:N+3≤g:=hp;omega,rfl⟩) (And.intro hc5 (hB4.trans (hb5.mono (Nat.le_succ N)))))
   clear hR5 hN5 hc5 hb5 hT4;simp [Leaves,settle,results,Tryz.results6,go_sem,l0,l1,l2,l3,l4,l5]
   obtain rfl:=HQ2
   exact⟨C5,c5,⟨rfl,rfl⟩,HB5.out.1,HB5.out.2.1,HB5.out.2.2⟩
  ·have hR4:=HRV.out.kept hk4 hl3
   have hB4:Below N w w4:=HBV.out.trans (hk4.below (by have:=HBV.out.size;omega) (by omega))
   obtain⟨qo,qs,qt,qr,qe⟩:=qd;simp only at he0 hJ4 HQ
   obtain rfl:=he0
   obtain⟨j0,j1,j2,j3,j4,-,-⟩:=hJ4.cells;have hsz:(⟨qo.toArray⟩:ByteArray).size=qo.length:=by simp [ByteArray.size]
   by_cases hbig:65536<qo.length
   ·have hi:decide ((qo.length:Int)≤65536)=false:=decide_eq_false (by omega)
    have HQ2:q=⟨[],1,t,false,17⟩:=HQ.out.trans (if_pos hbig)
    clear cJ hk4 HRV HBV hJ4;go_wp2_with fail;refine(qje _).mono ?_;rintro e w5⟨rfl,rfl⟩;go_wp2_with fail;rw [show N+1+1=N+2 by omega];have hT4:qal w4 (fun _=>True) B t:=HNB.out w4 hB4
    refine leaves_cons (f:=12) (args:=#[.pointer (some ⟨N,0,none⟩),.pointer (some ⟨N+1,0,none⟩),.pointer (some ⟨N+2,0,none⟩)]) (by simp) (by simp [go_sem]) ?_
    refine(qoD N B d t _ _ _ _ _ _ 1 17 [] _ hR4 hT4 hl hz).mono ?_
    rintro e' u' w5⟨rfl,rfl,C5,c5,hR5,hN5,hc5,hb5⟩;obtain⟨-,l0,l1,l2,l3,l4,l5,-⟩:=hR5.cells;have HB5:=hid (And.intro (hN5.frame (Q:=fun g=>N≤g) fun g _ hp=>⟨by have hp:N+3≤g:=hp;omega,rfl⟩) (And.intro hc5 (hB4.trans (hb5.mono (Nat.le_succ N)))))
    clear hR5 hN5 hc5 hb5 hT4;simp [Leaves,settle,results,Tryz.results6,go_sem,l0,l1,l2,l3,l4,l5]
    obtain rfl:=HQ2
    exact⟨C5,c5,⟨rfl,rfl⟩,HB5.out.1,HB5.out.2.1,HB5.out.2.2⟩
   ·have hi:decide ((qo.length:Int)≤65536)=true:=decide_eq_true (by omega)
    have HQ2:q=⟨qo,qs,qt,qr,0⟩:=HQ.out.trans (if_neg hbig)
    have HR1:=hid hR4;have HB1:=hid hB4;have HJ4:=hid hJ4;obtain⟨-,x0,x1,x2,x3,x4,x5,f0,f1,f2,f3,f4,f5⟩:=hR4.cells;clear cJ hk4 HRV HBV hJ4 hR4 hB4;go_wp2_with fail;refine(qhR _).mono ?_;rintro e w5⟨rfl,rfl⟩;go_wp2_with fail;have hst:=HR1.out.stored (encS qo) (.string ⟨#[]⟩) (.int .i64 qs) (.slice C4 qt.length c4) (.bool qr) 0
    have hbb:=qdA HB1.out (Nat.le_succ _) (encS qo) (.string ⟨#[]⟩) (.int .i64 qs) (.slice C4 qt.length c4) (.bool qr) 0
    have hnn:qal (qdp w4 N (encS qo) (.string ⟨#[]⟩) (.int .i64 qs) (.slice C4 qt.length c4) (.bool qr) 0) (fun g=>N≤g) C4 qt:=HJ4.out.nodes.frame fun g hg hp=>by
     obtain⟨h1,-⟩:=hp;exact⟨by omega,qmj (by omega) (by omega) _ _ _ _ _ _⟩
    have hcc:=HJ4.out.hc;rw [show N+1+1=N+2 by omega];unfold qdp stored5 at hst hbb hnn;clear x0 x1 x2 x3 x4 x5 f0 f1 f2 f3 f4 f5;generalize (((((w4.setCell ⟨N+1,0,none⟩ (encS qo)).setCell ⟨N+1,1,none⟩ (.string ⟨#[]⟩)).setCell ⟨N+1,2,none⟩ (.int .i64 qs)).setCell ⟨N+1,3,none⟩ (.slice C4 qt.length c4)).setCell ⟨N+1,4,none⟩ (.bool qr)).setCell ⟨N+2,0,none⟩ (.int .i64 0)=w5 at *;obtain⟨-,l0,l1,l2,l3,l4,l5,-⟩:=hst.cells;have HB5:=hid (And.intro hnn (And.intro hcc hbb))
    clear hst hbb hnn hcc HR1 HB1 HJ4;refine leaves_cons (f:=12) (args:=#[.pointer (some ⟨N,0,none⟩),.pointer (some ⟨N+1,0,none⟩),.pointer (some ⟨N+2,0,none⟩)]) (by simp) (by simp [go_sem]) ?_
    refine(qxE _ _ _ _).mono ?_;rintro e' u' w6⟨rfl,rfl,rfl⟩;simp [Leaves,settle,results,Tryz.results6,go_sem,l0,l1,l2,l3,l4,l5]
    obtain rfl:=HQ2
    exact⟨C4,c4,⟨rfl,rfl⟩,HB5.out.1,HB5.out.2.1,HB5.out.2.2⟩
theorem qn0 {W W':World} {q:UQ} {C:Option Addr} {c:Nat} (h:W.alloc (.cells #[encS q.out,encS [],.int .i64 q.st,.slice C q.tree.length c,.bool q.read] 26)=W'):qo3 W' W.heap.size q C c∧Below W.heap.size W W':=by
 subst h;exact⟨heap_alloc_new W _,(Below.refl _ _).alloc (Nat.le_refl _) _⟩
theorem qte {b:Nat} {t:List ND} (h:qbG b t) (hb:b≤274877906944):qbj t:=fun n hn=>by have:=h n hn;omega
theorem quV {b:Nat} {S:List UInt8→Prop} {w:World} (hR:qwz w S b) (hSw:S [119,99]) (hb:10≤b) (hbm:b≤1099511627) (name:List UInt8) (hSn:S name) (A:Option Addr) (c:Nat) (args:List (List UInt8)) (inn other:List UInt8) (B:Option Addr) (d:Nat) (t:List ND)
  (hn:name.length≤b) (hT:qat w (fun _=>True) A args) (hc:args.length≤c) (hz:qaf args≤b) (hi:inn.length≤b) (ho:other.length≤b) (hN:qal w (fun _=>True) B t) (ht:t.length≤b) (hd:t.length≤d) (hs:qbG b t):
  Calls prog 3 #[encS name,.slice A args.length c,encS inn,encS other,.slice B t.length d] w fun e w'=>e=.returned (.bool true)∧Below w.heap.size w w':=by
 have cA:=qmA hR hSw hb;have c1:=fun W (hb:Below w.heap.size w W)=>hR name args inn t A c B d W hSn hb hn (hT.below hb) hc hz hi (hN.below hb) ht hd hs
 have c2:=fun W (hb:Below w.heap.size w W)=>hR name args other t A c B d W hSn hb hn (hT.below hb) hc hz ho (hN.below hb) ht hd hs
 obtain⟨m1,m2,m3⟩:=qxI name args inn other t;have hsz:=qvv (b:=b+2) name inn (fun n hn=>by have:=hs n hn;omega) (fun a ha=>by have:=qaH args a ha;omega:∀a∈args,a.length+2≤b+2)
 generalize qgQ name args inn t=q at *;generalize qgQ name args other t=q2 at *;clear hT hN hs;go_enter func3,ntmps3;go_wp2_with fail;refine cA.mono ?_;rintro e w1⟨rfl,hb1⟩;have c1:=c1 w1 hb1;have HB1:=hid hb1;clear cA hb1;go_wp2_with fail;refine c1.mono ?_;rintro e w2⟨C,cc,rfl,hO,-,hb2⟩;have HB2:=qH HB1 hb2;have hNq:=hO;unfold qy9;clear hO hb2 c1;go_wp2_with fail;obtain⟨W3,hW3⟩:=qQ (w2.alloc (.cells #[encS q.out,encS [],.int .i64 q.st,.slice C q.tree.length cc,.bool q.read] 26))
 obtain⟨hd3,hb3⟩:=qn0 hW3;have HB3:=qH HB2 hb3;have c2:=c2 W3 HB3.out;have hN3:=hNq.below hb3;rw [hW3];clear hW3 hb3 hNq;refine c2.mono ?_;rintro e w4⟨C2,cc2,rfl,hO2,-,hb4⟩;have HB4:=qH HB3 hb4;have hN2:=hO2;have hN4:=hN3.below hb4;have hd4:qo3 w4 w2.heap.size q C cc:=qac hd3 hb4
 unfold qy9;clear hO2 hb4 c2 hd3 hN3;go_wp2_with fail;obtain⟨W5,hW5⟩:=qQ (w4.alloc (.cells #[encS q2.out,encS [],.int .i64 q2.st,.slice C2 q2.tree.length cc2,.bool q2.read] 26))
 obtain⟨hd5,hb5⟩:=qn0 hW5;have HB5:=qH HB4 hb5;have hN5:=hN4.below hb5;have hN6:=hN2.below hb5;have hd6:qo3 W5 w2.heap.size q C cc:=qac hd4 hb5
 rw [hW5];clear hW5 hb5 hN2 hN4 hd4;obtain⟨x0,-,x2,x3,x4⟩:=hd6.cells;obtain⟨y0,-,y2,y3,y4⟩:=hd5.cells;obtain⟨o,s,tr,rd,er⟩:=q;obtain⟨o2,s2',tr2,rd2,er2⟩:=q2;simp only at m1 m2 m3 hsz hN5 hN6 x0 x2 x3 x4 y0 y2 y3 y4
 clear hd5 hd6 c1 c2;refine(qif _ _).mono ?_;rintro e w6⟨rfl,h6⟩;rw [h6];clear h6;by_cases he:er=0
 ·subst he
  have hok:=m2 rfl;have hck:qaC tr=0:=by unfold qaC;rw [if_pos hok]
  have cK:=fun W (hb:Below W5.heap.size W5 W)=>qqk C cc tr W ((hN5.below hb).frame fun _ _ _=>⟨trivial,rfl⟩) (by have:=hok.1;omega) (qte hsz (by omega))
  rw [hck] at cK;cases rd with
  |true=>
   clear m1 m2 m3 hN6 y0 y2 y3 y4 hck;go_wp2_with fail;refine(cK _ (Below.refl _ _)).mono ?_
   rintro e w7⟨rfl,hb7⟩;have HB7:=qH HB5 hb7;go_wp2_with fail;go_ret;exact⟨rfl,HB7.out⟩
  |false=>
   obtain⟨hq,h1,h2⟩:=m3 rfl rfl
   injection hq with e1 e2 e3 e4 e5
   subst e1 e2 e3 e4 e5;have cS:=fun W (hb:Below W5.heap.size W5 W)=>qqq C C2 cc cc2 tr2 W _ _ (by have:=hok.1;omega) (hN5.below hb) (hN6.below hb)
   clear m1 m2 m3 hck hsz hok hN5 hN6;go_wp2_with fail;refine(qif _ _).mono ?_;rintro e w6⟨rfl,h6⟩;rw [h6];clear h6;go_wp2_with fail;refine(cS _ (Below.refl _ _)).mono ?_
   rintro e w7⟨rfl,n,rfl⟩;have cK:=cK (W5.drewN n) (below_drewN (Below.refl _ _) n)
   have HB7:=hid (below_drewN HB5.out n)
   have z3:(W5.drewN n).cell? ⟨w2.heap.size,3,none⟩=some (.slice C tr2.length cc):=x3
   generalize W5.drewN n=W7 at *;go_wp2_with fail;refine cK.mono ?_;rintro e w8⟨rfl,hb8⟩;have HB8:=qH HB7 hb8;go_wp2_with fail;go_ret;exact⟨rfl,HB8.out⟩
 ·obtain rfl:=m1 he
  have hne:(er==0)=false:=by simpa using he
  clear m1 m2 m3 hN5 hN6 y0 y2 y3 y4 hsz;go_wp2_with fail;go_ret;exact⟨rfl,HB5.out⟩
end Go.Proofs.YtpodopnmkjinhaaGreatDoor
namespace Go.Proofs.YtpodopnmkjinhaaGreatDoor
open Go.ChangeShapes Go.WideShapes Go.ChangeAt Go.WideElems Go.RowKit
theorem qmY {P:Program} {W:World}:∀(l:List (String×DataW Unit)) (ps:List MemPlace),DataW.LaidVars P W l ps→∀(i:Nat) n d,l[i]?=some (n,d)→∃g t cs fuel p,P.globalNamed n=some g∧(P.globals[g]?).map (·.type)=some t∧W.var? P n=some cs∧DataW.trod (fun _=>()) P W 0 (fun _=>true) false fuel t cs.toList=some (d,p)
 |[],_,_,i,n,d,h=>by simp at h
 |(m,e)::r,ps,hl,0,n,d,h=>by
  obtain⟨g,t,cs,fuel,p,q,h1,h2,h3,h4,-,-⟩:=hl;have h:some (m,e)=some (n,d):=h
  cases h
  exact⟨g,t,cs,fuel,p,h1,h2,h3,h4⟩
 |(m,e)::r,ps,hl,i+1,n,d,h=>by
  obtain⟨g,t,cs,fuel,p,q,-,-,-,-,h5,-⟩:=hl;exact qmY r q h5 i n d (by simpa using h)
theorem qw1 : prog.globalNamed "math/bits.deBruijn64tab" = some 7 := by kernel_rfl
theorem qxW:(prog.globals[7]?).map (·.type)=some 314:=by kernel_rfl
theorem qw0 : prog.globalNamed "strings.asciiSpace" = some 0 := by kernel_rfl
theorem qxV:(prog.globals[0]?).map (·.type)=some 108:=by kernel_rfl
theorem qpm:(Rows.laid_strings_asciiSpace:DataW Unit)=Lib.tabData .u8 Lib.asciiSpaceTab:=by kernel_rfl
theorem qnz {W:World} (h:laidMetH prog Rows.utilsMayRow.laid W):qww W:=by
 rw [MakeChecks.laidMetH_plain _ _ _ (by kernel_rfl)] at h;obtain⟨ps,hl,-,-⟩:=h;have c5:prog.cellsOf 5=1:=by kernel_rfl
 refine⟨?_,?_⟩
 ·obtain ⟨g, t, cs, fuel, p, hg, ht, hv, hd⟩ := qmY _ ps hl 5 "strings.asciiSpace" Rows.laid_strings_asciiSpace rfl
  obtain rfl:=Option.some.inj (qw0.symm.trans hg)
  obtain rfl:=Option.some.inj (qxV.symm.trans ht)
  rw [qpm] at hd;have hc:=Lib.cells_of_tab underlying108 underlying5 c5 (by kernel_rfl) hd
  have hT : Lib.TabIs prog W "strings.asciiSpace" .u8 Lib.asciiSpaceTab := by
   unfold Lib.TabIs;rw [hv,← hc]
  intro c hc256
  rw [hT.cell hg c (by rw [Lib.asciiSpaceTab_length];exact hc256),Lib.asciiSpaceTab_at c hc256]
 ·obtain ⟨g1, t1, cs1, f1, p1, hg1, ht1, hv1, hd1⟩ := qmY _ ps hl 1 "math/bits.deBruijn64tab" Rows.laid_math_bits_deBruijn64tab rfl
  obtain rfl:=Option.some.inj (qw1.symm.trans hg1)
  obtain rfl:=Option.some.inj (qxW.symm.trans ht1)
  obtain⟨xs,m1,rfl,hx1,hlen,hn3,hel⟩:=DataW.trod_array underlying314 hd1;have hL:(Rows.laid_math_bits_deBruijn64tab:DataW Unit)=.agg (xs.map (·.1)):=(Prod.mk.inj hx1).1
  have key:∀(i:Nat) (m:Int),i<64→(match (Rows.laid_math_bits_deBruijn64tab:DataW Unit) with|.agg l=>l[i]?|_=>none)=some (.lit (.int .u8 m))→W.cell? ⟨7,i,none⟩=some (.int .u8 m):=fun i m hi hd=>by
   obtain⟨x,hx⟩:∃x,xs[i]?=some x:=⟨xs[i],List.getElem?_eq_getElem (by omega)⟩
   have h0:=hel i hi;rw [hx,c5] at h0;obtain⟨k,e1,e2,-⟩:=DataW.trod_int underlying5 h0;rw [hL] at hd;have hk:(xs.map (·.1))[i]?=some (.lit (.int .u8 k)):=by rw [List.getElem?_map,hx,e2];rfl
   have hmk:k=m:=by
    have:=hk.symm.trans hd
    simpa using this
   subst hmk;rw [World.var?_cell hg1 hv1 i];rw [Nat.mul_one] at e1;have h2:((cs1.toList.drop i).take 1)[0]?=some (.int .u8 k):=by rw [e1];rfl
   rw [List.getElem?_take_of_lt (by omega),List.getElem?_drop,Nat.add_zero,Array.getElem?_toList] at h2;exact h2
  exact⟨key 7 3 (by decide) rfl,key 15 4 (by decide) rfl⟩
end Go.Proofs.YtpodopnmkjinhaaGreatDoor
namespace Go.Proofs.YtpodopnmkjinhaaGreatDoor
open Go.ChangeShapes Go.WideShapes Go.ChangeAt Go.RowKit Go.Deep
theorem qjp:prog.cellsOf 48=3:=by kernel_rfl
theorem qhu {H:Type}:∀(ds:List (DataW H)) (d:DataW H),d∈ds→Rows.uptoBulk d≤Rows.uptoBulkAll ds
 |a::r,d,h=>by
  simp only [Rows.uptoBulkAll]
  rcases List.mem_cons.1 h with rfl|h
  ·omega
  ·have:=qhu r d h
   omega
theorem qq6 {H:Type} (d:DataW H):1≤Rows.uptoBulk d:=by
 cases d with
 |lit q=>cases q<;>simp [Rows.uptoBulk]
 |_=>simp [Rows.uptoBulk]
theorem qk0 {H:Type}:∀ds:List (DataW H),ds.length≤Rows.uptoBulkAll ds
 |[]=>Nat.zero_le _
 |d::r=>by
  have:=qk0 r
  have h1:=qq6 d;simp only [Rows.uptoBulkAll,List.length_cons]
  omega
theorem qqb {H:Type} {enc:TypeId×Value→H} {W:World} {base:Nat} {sp:Nat→Bool} {hd:Bool} {n:Nat} {cs:List Value} {x:DataW H×List MemPlace}
  (h:DataW.trod enc prog W base sp hd n 48 cs=some x):∃y:ND,cs=qa7 y∧y.p.length≤Rows.uptoBulk x.1∧y.x.length≤Rows.uptoBulk x.1:=by
 obtain⟨xs,m,hn,rfl,hl,hxl,hf⟩:=DataW.trod_struct underlying48 h;rw [qjp] at hl
 match cs,hl,xs,hxl,hf with
 |[v0,v1,v2],_,[y0,y1,y2],_,hf=>
  have h0:DataW.trod enc prog W base sp hd m 9 [v0]=some y0:=hf 0 _ rfl
  have h1:DataW.trod enc prog W base sp hd m 4 [v1]=some y1:=hf 1 _ rfl
  have h2:DataW.trod enc prog W base sp hd m 9 [v2]=some y2:=hf 2 _ rfl
  obtain⟨s0,e0,rfl,-⟩:=DataW.trod_string underlying9 h0;obtain⟨b,e1,rfl⟩:=DataW.trod_bool underlying4 h1;obtain⟨s1,e2,rfl,-⟩:=DataW.trod_string underlying9 h2;have e0:v0=.string s0:=by simpa using e0
  have e1:v1=.bool b:=by simpa using e1
  have e2:v2=.string s1:=by simpa using e2
  subst e0 e1 e2;refine⟨⟨s0.data.toList,b,s1.data.toList⟩,rfl,?_,?_⟩
  ·simp only [Rows.uptoBulk,List.map_cons,List.map_nil,Rows.uptoBulkAll];omega
  ·simp only [Rows.uptoBulk,List.map_cons,List.map_nil,Rows.uptoBulkAll];omega
theorem qm5 {H:Type} {enc:TypeId×Value→H} {W:World} {base:Nat} {v:Value} {d:DataW H} {ps:List MemPlace} (hval:Value.okWide prog W .any base 23 v)
  (h:DataW.Trod enc prog W 0 (fun _=>true) true 23 v d ps) (hb:Rows.uptoBulk d≤1048576):
  ∃(A:Option Addr) (c:Nat) (t:List ND),v=.slice A t.length c∧qal W (fun _=>True) A t∧(t.length≤1048576∧t.length≤c)∧∀n∈t,n.p.length≤1048576∧n.x.length≤1048576:=by
 obtain⟨a0,len,cap,rfl⟩:=okWide_slice underlying23 hval;obtain⟨fuel,hf⟩:=h;have hf:DataW.trod enc prog W 0 (fun _=>true) true fuel 23 [.slice a0 len cap]=some (d,ps):=hf
 rcases DataW.trod_slice underlying23 hf with ⟨e3,hx⟩|⟨a,len',cap',elems,rest,k,hk,e3,hx,_,hlc,_,hel,hget,_,_⟩
 ·injection e3 with e3 _
  rw [e3];exact⟨none,0,[],rfl,fun k hk=>absurd hk (Nat.not_lt_zero _),⟨Nat.zero_le _,Nat.zero_le _⟩,fun n hn=>by cases hn⟩
 ·injection e3 with e3 _
  rw [e3];subst hel;have hd:d=.slice (elems.map (·.1)) (rest.map (·.1)):=by cases hx;rfl
  have hbe:Rows.uptoBulkAll (elems.map (·.1))≤1048576:=by
   rw [hd] at hb;simp only [Rows.uptoBulk] at hb
   omega
  have each:∀i,i<elems.length→∃x:ND,W.cell? (a.add (i*3))=some (encS x.p)∧W.cell? (a.add (i*3+1))=some (.bool x.d)∧W.cell? (a.add (i*3+2))=some (encS x.x)∧x.p.length≤1048576∧x.x.length≤1048576:=by
   intro i hi
   have hg:=hget i hi;rw [List.getElem?_eq_getElem hi,qjp] at hg;obtain⟨cs',hc1,hc2⟩:=Option.bind_eq_some_iff.1 hg;obtain⟨x,rfl,b1,b2⟩:=qqb hc2;have hbm:=qhu _ _ (List.mem_map_of_mem (f:=(·.1)) (List.getElem_mem hi))
   obtain⟨_,_,hcell⟩:=World.cells?_some hc1
   have c0:=hcell 0 (by omega)
   have c1:=hcell 1 (by omega)
   have c2:=hcell 2 (by omega)
   rw [Go.Deep.add_add] at c0 c1 c2;exact⟨x,c0,c1,c2,by omega,by omega⟩
  haveI:Inhabited ND:=⟨⟨[],false,[]⟩⟩
  obtain⟨f,hfx⟩:=Go.Deep.choose_lt each;refine⟨some a,cap',(List.range elems.length).map f,by simp,fun k hk=>?_,?_,fun n hn=>?_⟩
  ·have hk':k<elems.length:=by simpa using hk
   obtain⟨c0,c1,c2,-⟩:=hfx k hk';obtain⟨g,o,spot⟩:=a;have hsp:spot=none:=by
    have z0:=(hfx 0 (by omega)).1
    simpa [Addr.add] using World.cell?_spot z0
   subst hsp;rw [qgG] at c0 c1 c2;have hfk:((List.range elems.length).map f)[k]=f k:=by simp
   rw [hfk];exact⟨g,o,rfl,trivial,c0,by rw [← Nat.add_assoc] at c1;exact c1,by rw [← Nat.add_assoc] at c2;exact c2⟩
  ·have:=qk0 (elems.map (·.1))
   simp only [List.length_map,List.length_range] at this ⊢
   exact⟨by omega,by omega⟩
  ·obtain⟨i,hi,rfl⟩:=List.mem_map.1 hn
   exact(hfx i (List.mem_range.1 hi)).2.2.2
end Go.Proofs.YtpodopnmkjinhaaGreatDoor
namespace Go.Proofs.YtpodopnmkjinhaaGreatDoor
open Go.ChangeShapes Go.WideShapes Go.ChangeAt Go.RowKit
theorem own:ownKnob prog.godebug=none:=by kernel_rfl
theorem laidOut:laidOutB prog=true:=by kernel_rfl
theorem qjU {P:Program} (hl:laidOutB P=true) {H:Type} {enc:TypeId×Value→H} {W W':World} (hB:Below W.heap.size W W'):∀(ts:List TypeId) (vs:List Value) (ds:List (DataW H)) (ps:List MemPlace),
  (∀t∈ts,P.readableRec t=true∧t<P.types.size)→DataW.TrodAll enc P W 0 (fun _=>true) true ts vs ds ps→(∀x∈ps,x.block<W.heap.size)→
  DataW.TrodAll enc P W' 0 (fun b=>decide (b<W.heap.size)) true ts vs ds ps:=by
 intro ts
 induction ts with
 |nil=>
  intro vs ds ps _ h _
  cases vs<;>cases ds<;>exact h
 |cons t ts ih=>
  intro vs ds ps hr h hlt
  cases vs with
  |nil=>exact h.elim
  |cons v vs=>
   cases ds with
   |nil=>exact h.elim
   |cons d ds=>
    obtain⟨p,q,h1,h2,e⟩:=h;have hr0:=hr t (List.mem_cons.2 (Or.inl rfl))
    exact⟨p,q,Below.trod hl hr0.1 hr0.2 h1 hB (fun x hx=>hlt x (by rw [e];exact List.mem_append_left _ hx)),ih vs ds q (fun t ht=>hr t (List.mem_cons.2 (Or.inr ht))) h2 (fun x hx=>hlt x (by rw [e];exact List.mem_append_right _ hx)),e⟩
theorem rows_ok {P:Program} {ts:List TypeId} (h:(ts.all fun t=>P.readableRec t&&decide (t<P.types.size))=true):∀t∈ts,P.readableRec t=true∧t<P.types.size:=fun t ht=>by
 have:=List.all_eq_true.1 h t ht
 simpa using this
theorem qmG {H:Type} {ds:List (DataW H)} {d:DataW H} (hd:d∈ds) (hk:Rows.uptoSmall H ds=true):Rows.uptoBulk d≤1048576:=
 Nat.le_trans (qhu _ _ hd) (of_decide_eq_true hk)
theorem qnB {H:Type} {ds:List (DataW H)} {s:ByteArray} (hd:(DataW.lit (H:=H) (.string s.data.toList))∈ds) (hk:Rows.uptoSmall H ds=true):s.data.toList.length≤1048576:=by
 have h:=qmG hd hk;simp only [Rows.uptoBulk] at h
 omega
end Go.Proofs.YtpodopnmkjinhaaGreatDoor
namespace Go.Proofs.YtpodopnmkjinhaaGreatDoor
open Go.Lib (hid)
open Go.RowKit
section
variable {W:World} {N B:Nat} {C:Option Addr} {c:Nat} {R:Option Addr} {d:Nat} {t:List ND} {l args:List (List UInt8)} {inn:List UInt8}
theorem qnn (h:JobAt W N B C c R d [] 0 t false args inn) (hz:qaf args≤1099511627776):
  Calls prog 86 #[.pointer (some ⟨B,0,none⟩)] W fun e w'=>qf9 W N B C c t inn ((qab [102,114] [] args).ok=false) (qab [102,114] [] args).rest (rmQ ((qab [102,114] [] args).out.contains 114) ((qab [102,114] [] args).out.contains 102)) e w':=by
 obtain⟨V,hV⟩:=qQ (W.alloc (.cells #[.pointer (some ⟨B,0,none⟩)] 53))
 have hb:Below W.heap.size W V:=by rw [← hV];exact(Below.refl _ _).alloc (Nat.le_refl _) _
 have hbx:V.heap[W.heap.size]?=some (.cells #[.pointer (some ⟨B,0,none⟩)] 53 (0,0)):=by rw [← hV];exact heap_alloc_new _ _
 have hlt:=h.lt;have cL:=qcb [102,114] (by decide) (by decide) (h.below hb) hz
 have hls:=qa6 [102,114] args []
 generalize qab [102,114] [] args=q at *;obtain⟨qo,qr,qk⟩:=q;simp only [List.length_nil,Nat.zero_add] at hls
 unfold qbF at cL;simp only at cL ⊢
 have y0:=cell_of_one hbx;have HX:=hid (And.intro hbx (Kept.of_below (B:=B) hb))
 have c1:=fun w=>contains_one qo 114 w
 have c2:=fun w=>contains_one qo 102 w
 generalize qo.contains 114=r at *;generalize qo.contains 102=f at *;have hne:W.heap.size≠B:=by omega
 clear hb hbx h hls;go_enter func86,ntmps86;go_wp2_with fail;refine cL.mono ?_;rintro e w1 (⟨rfl,rfl,hk⟩|⟨rfl,rfl,⟨R',d',hJ⟩,hk⟩)
 ·have HK:=hid (HX.out.2.trans hk)
  go_wp2_with fail;exact⟨rfl,HK.out,.inl ⟨by trivial,rfl⟩⟩
 ·have HK:=hid hk
  have HJ:=hid hJ;clear hk hJ cL;go_wp2_with fail;refine(c1 _).mono ?_;rintro e w2⟨rfl,rfl⟩;go_wp2_with fail;refine(c2 _).mono ?_;rintro e w3⟨rfl,rfl⟩;go_wp2_with fail;go_ret;obtain⟨V2,hV2⟩:=qQ ((w3.alloc (.cells #[.bool r] 4)).alloc (.cells #[.bool f] 4))
  have hb1:Below w3.heap.size w3 V2:=by rw [← hV2];exact((Below.refl _ _).alloc (Nat.le_refl _) _).alloc (by simp) _
  have k1:V2.heap[w3.heap.size]?=some (.cells #[.bool r] 4 (0,0)):=by rw [← hV2];exact(Below.heap_alloc _ _ _ (by simp)).trans (heap_alloc_new _ _)
  have k2:V2.heap[w3.heap.size+1]?=some (.cells #[.bool f] 4 (0,0)):=by
   rw [← hV2];have:=heap_alloc_new (w3.alloc (.cells #[.bool r] 4)) (.cells #[.bool f] 4)
   rwa [World.size_alloc] at this
  have k0:=(Kept.of_below (B:=B) hb1).block _ (lt_of_block (qbb HX.out.1 hne HK.out)) hne
  have hJ2:=HJ.out.below hb1;have hBl:=HJ.out.lt;rw [hV2];exact⟨(HX.out.2.trans HK.out).low (hb1.mono (HX.out.2.trans HK.out).size),.inr ⟨by simp,_,_,rfl,enters_of func147 (by kernel_rfl) rfl,⟨_,_,hJ2⟩,qzs (k0.trans (qbb HX.out.1 hne HK.out)) k1 k2 hne (by omega) (by omega)⟩⟩
theorem qyw (h:JobAt W N B C c R d [] 0 t false args inn) (hz:qaf args≤1099511627776):
  Calls prog 36 #[.pointer (some ⟨B,0,none⟩),encS [114,109]] W fun e w'=>qf9 W N B C c t inn ((qab [102,114] [] args).ok=false) (qab [102,114] [] args).rest (rmQ ((qab [102,114] [] args).out.contains 114) ((qab [102,114] [] args).out.contains 102)) e w':=by
 obtain⟨V,hV⟩:=qQ (W.alloc (.cells #[.pointer (some ⟨B,0,none⟩)] 53))
 have hb:Below W.heap.size W V:=by rw [← hV];exact(Below.refl _ _).alloc (Nat.le_refl _) _
 have hbx:V.heap[W.heap.size]?=some (.cells #[.pointer (some ⟨B,0,none⟩)] 53 (0,0)):=by rw [← hV];exact heap_alloc_new _ _
 have cR:=qnn (h.below hb) hz
 have y0:=cell_of_one hbx;have HK:=hid (Kept.of_below (B:=B) hb)
 generalize ((qab [102,114] [] args).ok=false)=bad at *;generalize rmQ ((qab [102,114] [] args).out.contains 114) ((qab [102,114] [] args).out.contains 102)=Q at *;generalize (qab [102,114] [] args).rest=rest at *;clear hb hbx h;go_enter func36,ntmps36;go_wp2_with fail;refine cR.mono ?_;rintro e w1⟨hk,⟨hbad,rfl⟩|⟨hnb,g,caps,rfl,eg,hJ,hQ⟩⟩
 ·go_wp2_with fail
  exact⟨rfl,HK.out.trans hk,.inl ⟨hbad,rfl⟩⟩
 ·have HX:=hid (And.intro eg (And.intro hJ hQ))
  clear eg hJ hQ cR;go_wp2_with fail;go_ret;exact⟨HK.out.trans hk,.inr ⟨hnb,g,caps,rfl,HX.out.1,HX.out.2.1,HX.out.2.2⟩⟩
theorem qyU (h:JobAt W N B C c R d [] 0 t false args inn) (hi:qdS t) (hl:qaf args≤1100000):
  Calls prog 14 #[.pointer (some ⟨B,0,none⟩),encS [114,109]] W fun e w'=>qfp W N B t inn (qbc [114,109] args inn t) e w':=by
 have hs:=qa6 [102,114] args []
 refine qgr _ (.inl rfl) hi _ _ _ (qyS _ _) (by simp at hs;omega) (qyw h (by omega)) _ (fun hb=>?_) (fun hb hk=>?_) (fun hb hk=>?_)
 all_goals show rmU t args=_;unfold rmU
 ·rw [if_pos hb]
 ·rw [qbe (by simpa using hb)] at hk
  cases hk
 ·rw [if_neg hb,qbe (by simpa using hb),qrs]
  rfl
end
noncomputable def qg1 (t:List ND) (P:List UInt8):List ND×Int:=if qak t P≠0 then([],14) else if qbd t P≠0 then([],qbd t P) else qfc (qbT t ⟨P,true,[]⟩)
theorem quF {t:List ND} {P:List UInt8} (hok:OkT t) (hK:qak t P=0):(256≤t.length∨65536<(qbM t:Int)+0)↔¬((qbT t ⟨P,true,[]⟩).length≤256∧qbM (qbT t ⟨P,true,[]⟩)≤65536):=by
 rw [qbK];have h256:=hok.1;have hsm:=hok.sum;rcases qcW hok.asc (by rw [hK];decide) with ⟨h0,h1,h2⟩|⟨h0,-⟩
 ·obtain⟨e1,e2⟩:=qto (n:=⟨P,true,[]⟩) hok.asc h1
  rw [e1,e2];simp
  omega
 ·rw [hK] at h0;cases h0
theorem qrq {t:List ND} {P:List UInt8} (hok:OkT t) (hK:qak t P=0):qbT t ⟨P,true,[]⟩=t.take (qag t P)++(⟨P,true,[]⟩::t.drop (qag t P)):=by
 rw [qbK];rcases qcW hok.asc (by rw [hK];decide) with ⟨-,h1,-⟩|⟨h0,-⟩
 ·exact qkh ⟨P,true,[]⟩ hok.asc h1
 ·rw [hK] at h0;cases h0
set_option maxHeartbeats 16000000 in
theorem qyL (A:Option Addr) (c:Nat) (t:List ND) (P:List UInt8) (tb ab N:Nat) (w0 W:World) (hN:N≤ab) (hne:tb≠ab)
  (h1:W.heap[tb]?=some (.cells #[.slice A t.length c] 23 (0,0))) (h4:W.heap[ab]?=some (.cells #[.slice none 0 0] 23 (0,0)))
  (hB:Below N w0 W) (hT:qal W (fun _=>True) A t) (hok:OkT t) (hz:qbj t) (hcap:t.length≤c) (hPp:qam P=P) (hP0:P≠[]) (hPl:P.length≤274877906944):
  Calls prog 194 #[.agg #[encS P,.int .i64 (qag t P),.int .i64 (qak t P)],.pointer (some ⟨tb,0,none⟩),.pointer (some ⟨ab,0,none⟩)] W (qbW (qfq N ab w0 (qg1 t P))):=by
 have hNW:N≤W.heap.size:=by have:=lt_of_block h4;omega
 have h256:=hok.1;obtain⟨W1,hW1⟩:=qQ (W.alloc (.cells #[encS P,.int .i64 (qag t P),.int .i64 (qak t P)] 167))
 have hal:Below W.heap.size W W1:=by rw [← hW1];exact(Below.refl _ _).alloc (Nat.le_refl _) _
 have hsp:W1.heap[W.heap.size]?=some (.cells #[encS P,.int .i64 (qag t P),.int .i64 (qak t P)] 167 (0,0)):=by rw [← hW1];exact heap_alloc_new _ _
 have g1:=qac h1 hal;have g4:=qac h4 hal
 have hT1:=hT.below hal;have hB1:=hB.trans (hal.mono hNW)
 have hsbne:W.heap.size≠ab:=by have:=lt_of_block h4;omega
 have hN1:N≤W1.heap.size:=Nat.le_trans hNW hal.size
 have x0:W1.cell? ⟨W.heap.size,0,none⟩=some (encS P):=by simp [World.cell?,hsp]
 have x1:W1.cell? ⟨W.heap.size,1,none⟩=some (.int .i64 (qag t P)):=by simp [World.cell?,hsp]
 have x2:W1.cell? ⟨W.heap.size,2,none⟩=some (.int .i64 (qak t P)):=by simp [World.cell?,hsp]
 have y1:=cell_of_one g1;by_cases hK:qak t P=0
 rotate_left
 ·have HQ:Hid (qg1 t P=([],14)):=hid (by unfold qg1;rw [if_pos hK])
  have q1:(qak t P==0)=false:=by simpa using hK
  have q2:(qak t P !=0)=true:=by simpa using hK
  have HF:=hid (And.intro g4 hB1)
  generalize qak t P=K at *;clear hT hT1 hok hz hK g1 g4 h1 h4 hsp hB hB1 y1 x0 x1;go_enter func194,ntmps194;go_wp2;go_ret;exact qa2 HQ.out HF.out.1 HF.out.2
 have hK2:qak t P≠2:=by rw [hK];decide
 have h47:P≠[47]:=fun e=>hK2 (by rw [e];exact qef t)
 have hRH:=ql2 (t:=t) hPp h47 (qak t P) 0
 have HFR:=hid (quF hok hK)
 have HWP:=hid (qrq hok hK)
 have hwl:=qf4 t P;have HQ:Hid (qg1 t P=if qbd t P≠0 then([],qbd t P) else qfc (qbT t ⟨P,true,[]⟩)):=hid (by unfold qg1;rw [if_neg (by simpa using hK)])
 have cR:=fun W2 (hb:Below W1.heap.size W1 W2)=>qoC A c t P (qag t P) (qak t P) 0 W2 (hT1.below hb) hok hz hP0 (by omega) (by decide)
 have hjN:∀W2,Below W1.heap.size W1 W2→qal W2 (fun _=>True) A (t.take (qag t P))∧qal W2 (fun _=>True) (if c=qag t P then A else A.map (·.add (qag t P*3))) (t.drop (qag t P)):=fun W2 hb=>⟨qgl (hT1.below hb) _,qjq (hT1.below hb) hcap⟩
 rw [hK] at hRH cR x2 hW1 hsp ⊢;have HRH:=hid hRH;clear hK hK2 hT hT1 h1 h4 hRH;go_enter func194,ntmps194;go_wp2_with fail;refine(cR _ (Below.refl _ _)).mono ?_
 rintro e w5⟨rfl,hb5⟩;have g5:=qac g4 hb5;have hB5:=hB1.trans (hb5.mono hN1)
 by_cases hroom:qbd t P=0
 rotate_left
 ·have HR2:Hid (qdv t P 0 0=qbd t P):=hid (by rw [HRH.out,if_pos hroom])
  have HQ2:Hid (qg1 t P=([],qbd t P)):=hid (by rw [HQ.out,if_pos hroom])
  have q1:(qbd t P==0)=false:=by simpa using hroom
  have q2:(qbd t P !=0)=true:=by simpa using hroom
  rw [HR2.out];have HF:=hid (And.intro g5 hB5)
  generalize qbd t P=RL at *;clear HR2 HQ HRH cR hjN hb5 g5 hB5 g1 g4 y1 x0 x1 x2 hroom hsp hok hz HFR HWP;go_wp2;go_ret;exact qa2 HQ2.out HF.out.1 HF.out.2
 have HR1:Hid (qdv t P 0 0=if 256≤t.length∨65536<(qbM t:Int)+0 then 17 else 0):=hid (by rw [HRH.out,if_neg (by simpa using hroom)];simp)
 have HQ1:Hid (qg1 t P=qfc (qbT t ⟨P,true,[]⟩)):=hid (by rw [HQ.out,if_neg (by simpa using hroom)])
 have hiff:=HFR.out;by_cases hfull:256≤t.length∨65536<(qbM t:Int)+0
 ·have HR2:Hid (qdv t P 0 0=17):=hid (by rw [HR1.out,if_pos hfull])
  have HQ2:Hid (qg1 t P=([],17)):=hid (by
   rw [HQ1.out];exact if_neg (hiff.1 hfull))
  rw [HR2.out];have HF:=hid (And.intro g5 hB5)
  clear HR1 HR2 HQ HQ1 HRH cR hjN hb5 g5 hB5 g1 g4 y1 x0 x1 x2 hroom hsp hok hz HFR HWP hfull hiff;go_wp2;go_ret;exact qa2 HQ2.out HF.out.1 HF.out.2
 have HR2:Hid (qdv t P 0 0=0):=hid (by rw [HR1.out,if_neg hfull])
 have hfit:=Classical.not_not.1 (fun h=>hfull (hiff.2 h))
 rw [HR2.out];have hwz:qbj (qbT t ⟨P,true,[]⟩):=fun n hn=>by
  rcases qiL hn with rfl|h
  ·exact⟨hPl,Nat.zero_le _⟩
  ·exact hz n h
 have HQ:=hid (show qg1 t P=(qbT t ⟨P,true,[]⟩,0) by rw [HQ1.out];exact if_pos hfit)
 have hlen:=hfit.1;rw [HWP.out] at HQ hlen hwz;obtain⟨hj1,hj3⟩:=hjN w5 hb5;have hJ:=qmU A _ c (c-(qag t P)) _ _ ⟨P,true,[]⟩ w5 hj1 hj3 (by omega) hwz
 obtain⟨Z,hZ⟩:=qQ (t.take (qag t P)++(⟨P,true,[]⟩::t.drop (qag t P)))
 rw [hZ,List.length_take,Nat.min_eq_left hwl,List.length_drop] at hJ;rw [hZ] at HQ;have hcw:qag t P≤c:=by omega
 generalize qag t P=wh at *;obtain⟨D,hD⟩:=qQ ((if c=wh then A else A.map (·.add (wh*3))))
 rw [hD] at hJ;have hS:Cells [(⟨tb,0,none⟩,.slice A t.length c),(⟨W.heap.size,1,none⟩,.int .i64 (wh:Int)),(⟨W.heap.size,0,none⟩,encS P)] w5.drew:=fun z hz=>by
  rcases List.mem_cons.1 hz with rfl|hz
  ·exact(show w5.cell? _=_ from cell_below hb5 y1)
  rcases List.mem_cons.1 hz with rfl|hz
  ·exact(show w5.cell? _=_ from cell_below hb5 x1)
  rcases List.mem_cons.1 hz with rfl|hz
  ·exact(show w5.cell? _=_ from cell_below hb5 x0)
  ·cases hz
 have hfar:∀q∈[((⟨tb,0,none⟩:Addr),Value.slice A t.length c),(⟨W.heap.size,1,none⟩,.int .i64 (wh:Int)),(⟨W.heap.size,0,none⟩,encS P)],q.1.block≠ab:=fun q hq=>by
  rcases List.mem_cons.1 hq with rfl|hq
  ·exact hne
  rcases List.mem_cons.1 hq with rfl|hq
  ·exact hsbne
  rcases List.mem_cons.1 hq with rfl|hq
  ·exact hsbne
  ·cases hq
 have hlt5:=lt_of_block g5;have hfar2:∀j,w5.heap.size≤j→j≠ab:=fun j hj=>by omega
 clear HR1 HR2 HQ1 HRH cR hjN hB5 g1 g4 y1 x0 x1 x2 hroom hsp hok hz HFR HWP hfull hiff hZ hj1 hj3 hwz hlen hfit;go_wp2_with fail;refine wp_region_held_drew (S:=Cells [(⟨tb,0,none⟩,.slice A t.length c),(⟨W.heap.size,1,none⟩,.int .i64 (wh:Int)),(⟨W.heap.size,0,none⟩,encS P)]) (by kernel_rfl) hS (fun _=>?_)
 refine qai 0 15 (.slice A t.length c) rfl rfl (Or.inl ⟨by rfl,fun w' hS'=>by have s0:=hS' _ (.head _);dsimp only at s0;go_simp⟩) hS ?_
 refine qaa 1 16 (.pointer (some ⟨W.heap.size,1,none⟩)) rfl rfl hS ?_
 refine qai 2 17 (.int .i64 (wh:Int)) rfl rfl (Or.inl ⟨by rfl,fun w' hS'=>by have s1:=hS' _ (.tail _ (.head _));dsimp only at s1;go_simp⟩) hS ?_
 refine qaa 3 18 (.slice A wh c) rfl rfl hS ?_
 refine qaa 4 19 (.pointer (some ⟨W.heap.size,0,none⟩)) rfl rfl hS ?_
 refine qai 5 20 (encS P) rfl rfl (Or.inl ⟨by rfl,fun w' hS'=>by have s2:=hS' _ (.tail _ (.tail _ (.head _)));dsimp only at s2;go_simp⟩) hS ?_
 refine qaa 6 21 (.agg #[encS P,.bool true,encS []]) rfl rfl hS ?_
 refine qai 8 23 (.slice A t.length c) rfl rfl (Or.inl ⟨by rfl,fun w' hS'=>by have s0:=hS' _ (.head _);dsimp only at s0;go_simp⟩) hS ?_
 refine qaa 9 24 (.pointer (some ⟨W.heap.size,1,none⟩)) rfl rfl hS ?_
 refine qai 10 25 (.int .i64 (wh:Int)) rfl rfl (Or.inl ⟨by rfl,fun w' hS'=>by have s1:=hS' _ (.tail _ (.head _));dsimp only at s1;go_simp⟩) hS ?_
 refine qaa 11 26 (.slice D (t.length-wh) (c-wh)) rfl rfl hS ?_
 clear hD;refine qae 7 rfl fun K hK=>?_
 go_simp;refine qaE hK (hS.below ((Below.refl _ _).alloc (Nat.le_refl _) _)) ?_
 clear hK K;refine qae 12 rfl fun K hK=>?_
 go_simp;refine qaE hK ((hS.below ((Below.refl _ _).alloc (Nat.le_refl _) (.cells #[encS P,.bool true,encS []] 48))).below ((Below.refl _ _).alloc (Nat.le_refl _) _)) ?_
 clear hK K;refine qae 13 rfl fun K hK=>?_
 go_simp;go_at_call 196
 refine hJ.mono ?_;rintro e w9⟨a,c9,rfl,hO9,hb9⟩;have hS9:=(show Cells _ w5 from hS).below hb9
 have k4:=qac g5 hb9;have e4:=cell_of_one k4;have f4:=free_of_one k4
 go_wp2_with fail;refine qaE hK hS9 ?_
 clear hK K;refine qae 14 rfl fun K hK=>?_
 go_simp;refine qaE hK (hS9.set hfar _) ?_
 clear hK K;refine wpAnyH_done (by kernel_rfl) ?_ _
 have HO:=hid (show qbW (qfq N ab w0 (Z,0)) (.returned (.int .i64 0)) (w9.setCell ⟨ab,0,none⟩ (.slice a Z.length c9)) from⟨0,rfl,rfl,a,c9,one_setCell k4,qfP (qdL hO9 (fun j hj _=>Below.heap_setCell _ _ _ _ (hfar2 j hj))) (Nat.le_trans hN1 hb5.size),(hB1.trans ((hb5.mono hN1).trans (hb9.mono (Nat.le_trans hN1 hb5.size)))).setCell hN _⟩)
 clear hS hS9 hJ hO9 hb9 k4 e4 f4 hfar2;go_wp2;go_ret;show qbW (qfq N ab w0 (qg1 t P)) _ _
 rw [HQ.out];exact HO.out
theorem qjG (A:Option Addr) (c:Nat) (t:List ND) (p:List UInt8) (w:World) (hT:qal w (fun _=>True) A t) (hl:t.length≤1099511627776∧t.length≤c) (hz:qbj t) (hp:p.length≤137438953472):
  Calls prog 151 #[.slice A t.length c,encS p] w fun e w'=>qi0 w (mkQ t p) e w':=by
 obtain⟨W1,hW1⟩:=qQ ((w.alloc (.cells #[.slice A t.length c] 23)).alloc (.cells #[.slice none 0 0] 23))
 obtain⟨k0,k1,ks,kb⟩:=qiE w _ _ hW1;have y0:=cell_of_one k0;have hpl:=qcX p;have hTb:=hT.below kb;have eg:=enters_of func194 (by kernel_rfl) rfl
 obtain⟨lb,hlb⟩:∃lb:Array Value,lb=#[.pointer (some ⟨w.heap.size,0,none⟩),.pointer (some ⟨w.heap.size+1,0,none⟩)]:=⟨_,rfl⟩
 have cA:Calls prog 152 #[.slice A t.length c,encS p,.func (.func 194) #[] lb] W1 (qbW (qfq w.heap.size (w.heap.size+1) w (mkQ t p))):=by
  rcases qb8 t p with ⟨ha,hok,hq⟩|⟨ha,-,-⟩|⟨ha,-⟩
  ·have hw:mkQ t p=qg1 t (qam p):=by unfold mkQ qg1;rw [ha];simp
   rw [hw];refine qqZ 194 lb eg _ A c t p W1 hTb hl.1 hz hl.2 (by omega) hok hq fun W hb=>?_
   rw [hlb];exact qyL A c t (qam p) w.heap.size (w.heap.size+1) w.heap.size w W (by omega) (by omega)
    (qac k0 hb) (qac k1 hb) (kb.trans (hb.mono (by omega))) (hTb.below hb) hok hz hl.2 (qfR p) (qfQ p) (by omega)
  ·refine(qeV 194 lb A c t p 31 W1 hTb hl.1 hz hl.2 (by omega) ha (by decide)).mono ?_
   rintro e w'⟨rfl,hb⟩;exact qa2 (by unfold mkQ;rw [ha];exact if_pos (by decide)) (qac k1 hb) (kb.trans (hb.mono (by omega)))
  ·refine(qeV 194 lb A c t p 9 W1 hTb hl.1 hz hl.2 (by omega) ha (by decide)).mono ?_
   rintro e w'⟨rfl,hb⟩;exact qa2 (by unfold mkQ;rw [ha];exact if_pos (by decide)) (qac k1 hb) (kb.trans (hb.mono (by omega)))
 rw [hlb] at cA;generalize mkQ t p=q at *;clear hT hTb hz k0 k1 hlb eg;go_enter func151,ntmps151;go_wp2_with fail;refine cA.mono ?_;rintro e w2⟨n,rfl,rfl,a,c',hbx,hO,hB⟩;have e0:=cell_of_one hbx;have f0:=free_of_one hbx;have HO:=hid (And.intro hO hB)
 have HS:=hid (qfT hbx)
 clear cA hO hB hW1;go_wp2;rw [HS.out];exact bodyPost_ret (v:=.tuple #[.slice a q.1.length c',.int .i64 q.2]) (by simp [results,Tryz.results151,go_sem,e0]) rfl ⟨a,c',rfl,HO.out.1,HO.out.2⟩
noncomputable def qc0 (P:List UInt8) (t:List ND) (k:Nat):List ND×Int:=if(k<P.length∧P.getD k 0≠47)∨qa0 t (P.take k)=2 then(t,0) else mkQ t (P.take k)
noncomputable def upU (P:List UInt8):Nat→Nat→List ND→List ND×Int
 |0,_,t=>(t,0)
 |n+1,k,t=>if(qc0 P t k).2=0 then upU P n (k+1) (qc0 P t k).1 else([],(qc0 P t k).2)
noncomputable def qlQ (t:List ND) (x:List UInt8):List ND×Int:=if(qaK x).2≠0 then([],(qaK x).2) else upU (qaK x).1 (qaK x).1.length 1 t
def qwy (G:Nat→Prop) (w:World) (q:List ND×Int) (e:Ending) (w':World):Prop:=
 (∃C' c',e=.returned (.tuple #[.slice C' q.1.length c',.int .i64 q.2])∧(q.2=0→qal w' G C' q.1∧q.1.length≤c'))∧Below w.heap.size w w'
theorem qnb (G:Nat→Prop) (A:Option Addr) (c:Nat) (t:List ND) (x:List UInt8) (w:World) (hG:∀g,w.heap.size≤g→G g) (hT:qal w G A t) (hc:t.length≤c) (hi:qdS t) (hx:x.length+1≤1100000)
  (hs:∀t k,qdS t→1≤k→k≤(qaK x).1.length→(qc0 (qaK x).1 t k).2=0→qdS (qc0 (qaK x).1 t k).1) (hP1:(qaK x).1.length≤1100001):
  Calls prog 150 #[.slice A t.length c,encS x] w fun e w'=>qwy G w (qlQ t x) e w':=by
 have cP:=qix x w (by omega)
 have hq0:(qaK x).2≠0→qlQ t x=([],(qaK x).2):=fun e=>if_pos e
 have hq1:(qaK x).2=0→qlQ t x=upU (qaK x).1 (qaK x).1.length 1 t:=fun e=>if_neg fun h=>h e
 generalize qlQ t x=q at *;generalize qaK x=pq at *;obtain⟨P,f⟩:=pq;simp only at cP hq0 hq1 hs hP1
 have HI:=hid (And.intro hG (And.intro hT (And.intro hc (And.intro hi hs))))
 clear hG hT hc hi hs;by_cases h0:f=0
 rotate_left
 ·have h1:(f==0)=false:=by simpa using h0
  have h2:(f !=0)=true:=by simpa using h0
  have HQ:=hid (hq0 h0)
  clear h0 hq0 hq1;go_enter func150,ntmps150;go_wp2_with fail;refine cP.mono ?_;rintro e w1⟨rfl,hb⟩;have HB:=hid hb;clear hb cP;go_wp2_with fail;go_ret2;exact⟨⟨none,0,by rw [HQ.out];rfl,fun h=>by rw [HQ.out] at h;rw [show f=0 from h] at h2;cases h2⟩,HB.out⟩
 ·subst h0
  have HQ:=hid (hq1 rfl)
  clear hq0 hq1;go_enter func150,ntmps150;go_wp2_with fail;refine cP.mono ?_;rintro e w1⟨rfl,hb⟩;have HB:=hid hb;clear hb cP;go_wp2_with fail;go_loopw [0,8] (fun vt vk wr=>∃(k:Nat) (tk:List ND) (Ck:Option Addr) (ck:Nat),vt=.slice Ck tk.length ck∧vk=.int .i64 k∧1≤k∧k≤P.length+1∧Hid (qal wr G Ck tk∧tk.length≤ck)∧Hid (qdS tk)∧Hid (Below w.heap.size w wr)∧Hid (q=upU P (P.length+1-k) k tk)) (fun _ vk _=>P.length+1-(intOf vk).toNat)
  case atStart=>exact⟨1,t,A,c,rfl,rfl,Nat.le_refl _,by omega,hid ⟨HI.out.2.1.below HB.out,HI.out.2.2.1⟩,hid HI.out.2.2.2.1,hid HB.out,HQ⟩
  case round=>
   obtain⟨k,tk,Ck,ck,rfl,rfl,hk1,hk,HN,HV,HW,HF⟩:=hrel;by_cases hle:k≤P.length
   rotate_left
   ·obtain rfl:k=P.length+1:=by omega
    have hgt:¬(((P.length+1:Nat)):Int)≤(P.length:Int):=by omega
    have HQ:=hid (show q=(tk,0) by rw [HF.out,Nat.sub_self];rfl)
    have hsz:(⟨P.toArray⟩:ByteArray).size=P.length:=by simp [ByteArray.size]
    go_wp2_with fail;go_ret2;exact⟨⟨Ck,ck,by rw [HQ.out];rfl,fun _=>by rw [HQ.out];exact HN.out⟩,HW.out⟩
   have hsl:(⟨P.toArray⟩:ByteArray).extract 0 k=⟨(P.take k).toArray⟩:=by apply ByteArray.ext;simp
   have hsz:(⟨P.toArray⟩:ByteArray).size=P.length:=by simp [ByteArray.size]
   have hkP:(k:Int)≤(P.length:Int):=by omega
   have hk0:(0:Int)≤(k:Int):=by omega
   have cK:=qiw Ck ck tk (P.take k) wr HN.out.1.any ⟨by have:=HV.out.1.1;omega,HN.out.2⟩ HV.out.sz (by rw [List.length_take];omega)
   have cM:=fun V (hb:Below wr.heap.size wr V)=>qjG Ck ck tk (P.take k) V (HN.out.1.any.below hb) ⟨by have:=HV.out.1.1;omega,HN.out.2⟩ HV.out.sz (by rw [List.length_take];omega)
   have hnw:w.heap.size≤wr.heap.size:=HW.out.size
   have HU:=hid (show q=if(qc0 P tk k).2=0 then upU P (P.length-k) (k+1) (qc0 P tk k).1 else([],(qc0 P tk k).2) by
    rw [HF.out,show P.length+1-k=(P.length-k)+1 by omega]
    rfl)
   have HS:=hid (HI.out.2.2.2.2 tk k HV.out hk1 hle)
   clear HF;by_cases hlt:k<P.length
   ·have hltI:(k:Int)<(P.length:Int):=by omega
    obtain⟨z,hz⟩:=qQ (P[k])
    have hg:∀h,(⟨P.toArray⟩:ByteArray)[k]'h=z:=fun h=>by rw [← hz];simp [ByteArray.getElem_eq_getElem_data]
    have hgd:P.getD k 0=z:=by rw [← hz];simp [List.getD,hlt]
    by_cases hA:z=47
    rotate_left
    ·have HE:=hid (show qc0 P tk k=(tk,0) from if_pos (.inl ⟨hlt,by rw [hgd];exact hA⟩))
     have hz1:((z.toNat:Int)==47)=false:=by
      have:z.toNat≠47:=fun e=>hA (UInt8.toNat_inj.1 e)
      simp;omega
     have hz2:((z.toNat:Int) !=47)=true:=by simp only [bne,hz1];rfl
     clear cK cM hA;go_wp2_with fail;go_roundw
     case rel=>exact⟨k+1,tk,Ck,ck,rfl,by go_num,by omega,by omega,HN,HV,HW,hid (by rw [HU.out,HE.out,if_pos rfl,show P.length+1-(k+1)=P.length-k by omega])⟩
     case measure=>simp [intOf];omega
    ·have HA:=hid (show ¬(k<P.length∧P.getD k 0≠47) from fun h=>h.2 (by rw [hgd];exact hA))
     subst hA;by_cases hk2:qa0 tk (P.take k)=2
     ·have HE:=hid (show qc0 P tk k=(tk,0) from if_pos (.inr hk2))
      rw [hk2] at cK;clear cM hk2;go_wp2_with fail;refine cK.mono ?_;rintro e w2⟨rfl,hb2⟩;have HN2:=hid (And.intro (HN.out.1.below hb2) HN.out.2)
      have HW2:=hid (HW.out.trans (hb2.mono hnw))
      clear cK hb2;go_wp2_with fail;go_roundw
      case rel=>exact⟨k+1,tk,Ck,ck,rfl,by go_num,by omega,by omega,HN2,HV,HW2,hid (by rw [HU.out,HE.out,if_pos rfl,show P.length+1-(k+1)=P.length-k by omega])⟩
      case measure=>simp [intOf];omega
     ·have HE:=hid (show qc0 P tk k=mkQ tk (P.take k) from if_neg (by rintro(h|h);exact HA.out h;exact hk2 h))
      have hk3:(qa0 tk (P.take k)==2)=false:=by simpa using hk2
      generalize mkQ tk (P.take k)=mq at *;generalize qa0 tk (P.take k)=kk at *;clear hk2;go_wp2_with fail;refine cK.mono ?_;rintro e w2⟨rfl,hb2⟩;have cM:=cM w2 hb2;have HW2:=hid (HW.out.trans (hb2.mono hnw))
      clear cK hb2;go_wp2_with fail;refine cM.mono ?_;rintro e w3⟨C2,c2,rfl,hO,hb3⟩;have hnw2:w.heap.size≤w2.heap.size:=HW2.out.size
      have HN3:=hid (And.intro (hO.nodes.frame (Q:=G) (w':=w3) fun g _ hp=>⟨HI.out.1 g (Nat.le_trans hnw2 hp),rfl⟩) hO.cap)
      have HW3:=hid (HW2.out.trans (hb3.mono hnw2))
      obtain⟨mt,me⟩:=mq;clear cM hO hb3;by_cases h0:me=0
      ·subst h0
       go_wp2_with fail;go_roundw
       case rel=>exact⟨k+1,mt,C2,c2,rfl,by go_num,by omega,by omega,HN3,hid (by have h:=HS.out (by rw [HE.out]);rw [HE.out] at h;exact h),HW3,hid (by rw [HU.out,HE.out,if_pos rfl,show P.length+1-(k+1)=P.length-k by omega])⟩
       case measure=>simp [intOf];omega
      ·have h1:(me==0)=false:=by simpa using h0
       have h2:(me !=0)=true:=by simpa using h0
       have HQ:=hid (show q=([],me) by rw [HU.out,HE.out];exact if_neg h0)
       clear h0;go_wp2_with fail;go_ret2;exact⟨⟨none,0,by rw [HQ.out];rfl,fun h=>by rw [HQ.out] at h;rw [show me=0 from h] at h2;cases h2⟩,HW3.out⟩
   ·have HA:=hid (show ¬(k<P.length∧P.getD k 0≠47) from fun h=>hlt h.1)
    have hltI:¬(k:Int)<(P.length:Int):=by omega
    by_cases hk2:qa0 tk (P.take k)=2
    ·have HE:=hid (show qc0 P tk k=(tk,0) from if_pos (.inr hk2))
     rw [hk2] at cK;clear cM hk2;go_wp2_with fail;refine cK.mono ?_;rintro e w2⟨rfl,hb2⟩;have HN2:=hid (And.intro (HN.out.1.below hb2) HN.out.2)
     have HW2:=hid (HW.out.trans (hb2.mono hnw))
     clear cK hb2;go_wp2_with fail;go_roundw
     case rel=>exact⟨k+1,tk,Ck,ck,rfl,by go_num,by omega,by omega,HN2,HV,HW2,hid (by rw [HU.out,HE.out,if_pos rfl,show P.length+1-(k+1)=P.length-k by omega])⟩
     case measure=>simp [intOf];omega
    ·have HE:=hid (show qc0 P tk k=mkQ tk (P.take k) from if_neg (by rintro(h|h);exact HA.out h;exact hk2 h))
     have hk3:(qa0 tk (P.take k)==2)=false:=by simpa using hk2
     generalize mkQ tk (P.take k)=mq at *;generalize qa0 tk (P.take k)=kk at *;clear hk2;go_wp2_with fail;refine cK.mono ?_;rintro e w2⟨rfl,hb2⟩;have cM:=cM w2 hb2;have HW2:=hid (HW.out.trans (hb2.mono hnw))
     clear cK hb2;go_wp2_with fail;refine cM.mono ?_;rintro e w3⟨C2,c2,rfl,hO,hb3⟩;have hnw2:w.heap.size≤w2.heap.size:=HW2.out.size
     have HN3:=hid (And.intro (hO.nodes.frame (Q:=G) (w':=w3) fun g _ hp=>⟨HI.out.1 g (Nat.le_trans hnw2 hp),rfl⟩) hO.cap)
     have HW3:=hid (HW2.out.trans (hb3.mono hnw2))
     obtain⟨mt,me⟩:=mq;clear cM hO hb3;by_cases h0:me=0
     ·subst h0
      go_wp2_with fail;go_roundw
      case rel=>exact⟨k+1,mt,C2,c2,rfl,by go_num,by omega,by omega,HN3,hid (by have h:=HS.out (by rw [HE.out]);rw [HE.out] at h;exact h),HW3,hid (by rw [HU.out,HE.out,if_pos rfl,show P.length+1-(k+1)=P.length-k by omega])⟩
      case measure=>simp [intOf];omega
     ·have h1:(me==0)=false:=by simpa using h0
      have h2:(me !=0)=true:=by simpa using h0
      have HQ:=hid (show q=([],me) by rw [HU.out,HE.out];exact if_neg h0)
      clear h0;go_wp2_with fail;go_ret2;exact⟨⟨none,0,by rw [HQ.out];rfl,fun h=>by rw [HQ.out] at h;rw [show me=0 from h] at h2;cases h2⟩,HW3.out⟩
noncomputable def qcy (p:Bool) (t:List ND) (x:List UInt8):List ND×Int:=if p=true then qlQ t x else mkQ t x
def qe7:Prop:=∀x:List UInt8,x.length+1≤1100000→∀t k,qdS t→1≤k→k≤(qaK x).1.length→(qc0 (qaK x).1 t k).2=0→qdS (qc0 (qaK x).1 t k).1
theorem qlX (x:List UInt8):(qaK x).1.length≤x.length+1:=by
 unfold qaK;split
 ·exact Nat.zero_le _
 ·exact qcX x
section
variable {W:World} {N B:Nat} {C:Option Addr} {c:Nat} {R:Option Addr} {d:Nat} {t:List ND} {l args:List (List UInt8)} {inn:List UInt8}
theorem quT (hS:qe7) {w0:World} {b b1:Nat} {p:Bool} (hb:w0.heap[b]?=some (.cells #[.pointer (some ⟨B,0,none⟩)] 53 (0,0))) (hb1:w0.heap[b1]?=some (.cells #[.bool p] 4 (0,0))) (hne:b≠B) (hne1:b1≠B):
  qdz w0 N B qdS 1100000 149 #[.pointer (some ⟨b1,0,none⟩),.pointer (some ⟨b,0,none⟩)] (qcy p):=by
 intro V C c R d o st t rd l inn x hk h hi hx
 have y0:=cell_of_one (qbb hb hne hk)
 have y1:=cell_of_one (qbb hb1 hne1 hk)
 have c3:=h.cells.2.2.2.1;have hpl:=qlX x;have hlt:=h.lt;have hle:=h.le;have cM:=qjG C c t x V h.tree ⟨by have:=hi.1.1;omega,h.hc⟩ hi.sz (by omega)
 have cP:=qnb (fun g=>N≤g∧g≠B) C c t x V (fun g hg=>⟨by omega,by omega⟩) h.nodes h.hc hi hx (hS x hx) (by omega)
 have HH:=hid h;clear hb hb1 hk hi h;show Calls _ _ #[encS x,.pointer (some ⟨b1,0,none⟩),.pointer (some ⟨b,0,none⟩)] _ _
 cases p with
 |true=>
  rw [show qcy true t x=qlQ t x from if_pos rfl];generalize qlQ t x=q at *;clear cM;go_enter func149,ntmps149;go_wp2_with fail;refine cP.mono ?_;rintro e w1⟨⟨C',c',rfl,hC⟩,hb⟩;have HC:=hid (And.intro hC hb)
  clear cP hC hb;go_wp2_with fail;go_ret2;exact⟨⟨C',c',rfl,HC.out.1⟩,HC.out.2⟩
 |false=>
  rw [show qcy false t x=mkQ t x from if_neg (by decide)];generalize mkQ t x=q at *;clear cP;go_enter func149,ntmps149;go_wp2_with fail;refine cM.mono ?_;rintro e w1⟨C',c',rfl,hO,hb⟩;have HO:=hid (And.intro hO.nodes (And.intro hO.cap hb))
  clear cM hO hb;go_wp2_with fail;go_ret2;exact⟨⟨C',c',rfl,fun _=>⟨HO.out.1.frame fun g _ hp=>⟨⟨by have:V.heap.size≤g:=hp;omega,by have:V.heap.size≤g:=hp;omega⟩,rfl⟩,HO.out.2.1⟩⟩,HO.out.2.2⟩
theorem qsc (hS:qe7) (h:JobAt W N B C c R d [] 0 t false args inn) (hz:qaf args≤1099511627776):
  Calls prog 87 #[.pointer (some ⟨B,0,none⟩)] W fun e w'=>qf9 W N B C c t inn ((qab [112] [] args).ok=false∨(qab [112] [] args).rest=[]) (qab [112] [] args).rest (qcy (!(qab [112] [] args).out.isEmpty)) e w':=by
 obtain⟨V,hV⟩:=qQ (W.alloc (.cells #[.pointer (some ⟨B,0,none⟩)] 53))
 have hb:Below W.heap.size W V:=by rw [← hV];exact(Below.refl _ _).alloc (Nat.le_refl _) _
 have hbx:V.heap[W.heap.size]?=some (.cells #[.pointer (some ⟨B,0,none⟩)] 53 (0,0)):=by rw [← hV];exact heap_alloc_new _ _
 have hlt:=h.lt;have cL:=qcb [112] (by decide) (by decide) (h.below hb) hz
 have hls:=qa6 [112] args []
 generalize qab [112] [] args=q at *;obtain⟨qo,qr,qk⟩:=q;simp only [List.length_nil,Nat.zero_add] at hls
 have hqn:=qaG qr;unfold qbF at cL;simp only at cL ⊢
 have y0:=cell_of_one hbx;have HX:=hid (And.intro hbx (Kept.of_below (B:=B) hb))
 have hne:W.heap.size≠B:=by omega
 clear hb hbx h hls;go_enter func87,ntmps87;go_wp2_with fail;refine cL.mono ?_;rintro e w1 (⟨rfl,rfl,hk⟩|⟨rfl,rfl,⟨R',d',hJ⟩,hk⟩)
 ·have HK:=hid (HX.out.2.trans hk)
  go_wp2_with fail;exact⟨rfl,HK.out,.inl ⟨by trivial,rfl⟩⟩
 ·have HK:=hid hk
  have y0:=cell_of_one (qbb HX.out.1 hne HK.out)
  obtain⟨V2,hV2⟩:=qQ (w1.alloc (.cells #[.bool (!qo.isEmpty)] 4))
  have hb1:Below w1.heap.size w1 V2:=by rw [← hV2];exact(Below.refl _ _).alloc (Nat.le_refl _) _
  have k1:V2.heap[w1.heap.size]?=some (.cells #[.bool (!qo.isEmpty)] 4 (0,0)):=by rw [← hV2];exact heap_alloc_new _ _
  have k0:=((Kept.of_below (B:=B) hb1).block _ (lt_of_block (qbb HX.out.1 hne HK.out)) hne).trans (qbb HX.out.1 hne HK.out)
  have hJ2:=hJ.below hb1;have hBl:=hJ.lt;have y0:=cell_below hb1 y0;have c5:=hJ2.cells.2.2.2.2.2.1;have HJ:=hid hJ2;have HKK:=hid ((HX.out.2.trans HK.out).low (hb1.mono (HX.out.2.trans HK.out).size))
  have HM:=hid (quT (N:=N) hS k0 k1 hne (by omega))
  clear hk hJ cL hb1 k1 k0 hJ2;cases qr with
  |nil=>
   simp only [List.length_nil] at c5
   go_wp2_with fail;refine(qau _).mono ?_;rintro e w2⟨rfl,rfl⟩;go_wp2_with fail;exact⟨rfl,HKK.out,.inl ⟨by trivial,rfl⟩⟩
  |cons x r=>
   simp only [List.length_cons] at c5 hqn
   have h0:(0:Int)<(((r.length+1:Nat)):Int):=by omega
   have HN:Hid (¬(False∨(x::r)=[])):=hid (by simp)
   go_wp2_with fail;refine(qay _).mono ?_;rintro e w2⟨rfl,rfl⟩;go_wp2_with fail;go_ret;exact⟨HKK.out,.inr ⟨by simp,_,_,rfl,enters_of func149 (by kernel_rfl) rfl,⟨_,_,HJ.out⟩,HM.out⟩⟩
theorem qq9 (hS:qe7) (h:JobAt W N B C c R d [] 0 t false args inn) (hz:qaf args≤1099511627776):
  Calls prog 36 #[.pointer (some ⟨B,0,none⟩),encS [109,107,100,105,114]] W fun e w'=>qf9 W N B C c t inn ((qab [112] [] args).ok=false∨(qab [112] [] args).rest=[]) (qab [112] [] args).rest (qcy (!(qab [112] [] args).out.isEmpty)) e w':=by
 obtain⟨V,hV⟩:=qQ (W.alloc (.cells #[.pointer (some ⟨B,0,none⟩)] 53))
 have hb:Below W.heap.size W V:=by rw [← hV];exact(Below.refl _ _).alloc (Nat.le_refl _) _
 have hbx:V.heap[W.heap.size]?=some (.cells #[.pointer (some ⟨B,0,none⟩)] 53 (0,0)):=by rw [← hV];exact heap_alloc_new _ _
 have cR:=qsc hS (h.below hb) hz
 have y0:=cell_of_one hbx;have HK:=hid (Kept.of_below (B:=B) hb)
 generalize ((qab [112] [] args).ok=false∨(qab [112] [] args).rest=[])=bad at *;generalize qcy (!(qab [112] [] args).out.isEmpty)=Q at *;generalize (qab [112] [] args).rest=rest at *;clear hb hbx h;go_enter func36,ntmps36;go_wp2_with fail;refine cR.mono ?_;rintro e w1⟨hk,⟨hbad,rfl⟩|⟨hnb,g,caps,rfl,eg,hJ,hQ⟩⟩
 ·go_wp2_with fail
  exact⟨rfl,HK.out.trans hk,.inl ⟨hbad,rfl⟩⟩
 ·have HX:=hid (And.intro eg (And.intro hJ hQ))
  clear eg hJ hQ cR;go_wp2_with fail;go_ret;exact⟨HK.out.trans hk,.inr ⟨hnb,g,caps,rfl,HX.out.1,HX.out.2.1,HX.out.2.2⟩⟩
theorem qsg {b:Nat} {t:List ND} {x:List UInt8} (h:qbG b t) (hx:(qam x).length≤b):qbG b (mkQ t x).1:=by
 unfold mkQ;split
 ·exact qbm b
 ·split
  ·exact qbm b
  ·split
   ·exact qbm b
   ·refine qhQ ?_
    rw [qbK];exact qki h hx (Nat.zero_le _)
def qmy:Prop:=∀(t:List ND) (s:Int) (x:List UInt8),qdS t→x.length+1≤1100000→qeQ (qcy true) (some (t,s)) x=(qgb true x).foldl (mkS true) (some (t,s))
theorem qlG (hS:∀t x,qdS t→x.length+1≤1100000→(qlQ t x).2=0→qdS (qlQ t x).1) (p:Bool) (t:List ND) (x:List UInt8) (h:qdS t) (hx:x.length+1≤1100000) (h0:(qcy p t x).2=0):qdS (qcy p t x).1:=by
 cases p with
 |true=>exact hS t x h hx h0
 |false=>exact⟨qom h0,qon h.2 hx⟩
theorem qwr {P:List UInt8} (hS:∀t k,qdS t→1≤k→k≤P.length→(qc0 P t k).2=0→qdS (qc0 P t k).1):∀(n k:Nat) (t:List ND),1≤k→k+n≤P.length+1→qdS t→(upU P n k t).2=0→qdS (upU P n k t).1
 |0,_,t,_,_,h,_=>h
 |n+1,k,t,h1,h2,h,h0=>by
  rw [upU] at h0 ⊢;by_cases hs:(qc0 P t k).2=0
  ·rw [if_pos hs] at h0 ⊢
   exact qwr hS n (k+1) _ (by omega) (by omega) (hS t k h h1 (by omega) hs) h0
  ·rw [if_neg hs] at h0
   exact absurd h0 hs
theorem qsB (hS:qe7) (t:List ND) (x:List UInt8) (h:qdS t) (hx:x.length+1≤1100000) (h0:(qlQ t x).2=0):qdS (qlQ t x).1:=by
 unfold qlQ at h0 ⊢
 split at h0
 ·rename_i hp;exact absurd h0 hp
 ·rename_i hp
  rw [if_neg hp];exact qwr (hS x hx) _ 1 t (Nat.le_refl _) (by omega) h h0
theorem qlk {f:Option (List ND×Int)→List UInt8→Option (List ND×Int)} (g:List UInt8→List (List UInt8)):∀(l:List (List UInt8)) (q:Option (List ND×Int)),(l.flatMap g).foldl f q=l.foldl (fun q x=>(g x).foldl f q) q
 |[],_=>rfl
 |x::r,q=>by rw [List.flatMap_cons,List.foldl_append,List.foldl_cons,qlk g r]
theorem qsj (p:Bool):∀l:List (List UInt8),l.foldl (mkS p) none=none
 |[]=>rfl
 |x::l=>by rw [List.foldl_cons];exact qsj p l
theorem qja (hS:qe7) (hF:qmy) (p:Bool):∀(l:List (List UInt8)) (q:Option (List ND×Int)),(∀t s,q=some (t,s)→qdS t)→(∀x∈l,x.length+1≤1100000)→l.foldl (qeQ (qcy p)) q=l.foldl (fun q x=>(qgb p x).foldl (mkS p) q) q
 |[],_,_,_=>rfl
 |x::r,q,hq,hx=>by
  rw [List.foldl_cons,List.foldl_cons];have hx0:=hx x (.head _)
  have e:qeQ (qcy p) q x=(qgb p x).foldl (mkS p) q:=by
   cases q with
   |none=>rw [qsj];rfl
   |some q=>
    obtain⟨t,s⟩:=q;cases p with
    |true=>exact hF t s x (hq t s rfl) hx0
    |false=>
     rw [show qgb false x=[x] from if_neg (by simp)];show(if(mkQ t x).2=0 then some ((mkQ t x).1,s) else if(mkQ t x).2=17 then none else some (t,1))=mkS false (some (t,s)) x
     unfold mkS;by_cases h0:(mkQ t x).2=0
     ·simp only [if_pos h0]
     ·by_cases h17:(mkQ t x).2=17
      ·simp only [if_neg h0,if_pos h17]
      ·simp only [if_neg h0,if_neg h17]
       rw [if_pos (by simp)]
  rw [← e];refine qja hS hF p r _ (fun t' s' he=>?_) fun y hy=>hx y (.tail _ hy)
  cases q with
  |none=>cases he
  |some q=>
   obtain⟨t,s⟩:=q;have hi:=hq t s rfl;have he:(if(qcy p t x).2=0 then some ((qcy p t x).1,s) else if(qcy p t x).2=17 then none else some (t,1))=some (t',s'):=he
   split at he
   ·rename_i h0
    have e1:=Option.some.inj he;have e2:(qcy p t x).1=t':=congrArg Prod.fst e1
    rw [← e2];exact qlG (qsB hS) p t x hi hx0 h0
   ·split at he
    ·cases he
    ·have e1:=Option.some.inj he
     have e2:t=t':=congrArg Prod.fst e1
     rw [← e2];exact hi
theorem qs5 (hS:qe7) (hF:qmy) (h:JobAt W N B C c R d [] 0 t false args inn) (hi:qdS t) (hl:qaf args≤1100000):
  Calls prog 14 #[.pointer (some ⟨B,0,none⟩),encS [109,107,100,105,114]] W fun e w'=>qfp W N B t inn (qbc [109,107,100,105,114] args inn t) e w':=by
 have hs:=qa6 [112] args []
 have hsr:qaf (qab [112] [] args).rest≤1100000:=by simp at hs;omega
 refine qgr _ (.inr (.inl rfl)) hi _ _ _ (qlG (qsB hS) _) hsr (qq9 hS h (by omega)) _ (fun hb=>?_) (fun hb hk=>?_) (fun hb hk=>?_)
 all_goals show mkU t args=_;unfold mkU
 ·rw [if_pos hb]
 ·rw [qbe (by have:¬(qab [112] [] args).ok=false:=fun e=>hb (.inl e);simpa using this)] at hk
  cases hk
 ·rw [if_neg hb,qbe (by have:¬(qab [112] [] args).ok=false:=fun e=>hb (.inl e);simpa using this),qlk]
  rw [qja hS hF _ _ _ (fun t' s' e=>by cases e;exact hi) fun x hx=>Nat.le_trans (qaH _ x hx) hsr]
end
end Go.Proofs.YtpodopnmkjinhaaGreatDoor
namespace Go.Proofs.YtpodopnmkjinhaaGreatDoor
open Go.RowKit
theorem qmb:∀(ps:List (List UInt8)) (k:Nat),(∀w∈ps,qhl w)→1≤k→k≤(qad ps).length→(k<(qad ps).length→(qad ps).getD k 0=47)→∃j,1≤j∧j≤ps.length∧(qad ps).take k=qad (ps.take j)
 |[],k,_,h1,h2,_=>by simp [qad] at h2;omega
 |w::r,k,hg,h1,h2,h3=>by
  have e:qad (w::r)=47::(w++qad r):=by simp [qad]
  rw [e] at h2 h3 ⊢;have hw:=hg w (.head _)
  obtain⟨m,rfl⟩:∃m,k=m+1:=⟨k-1,by omega⟩
  simp only [List.length_cons,List.length_append] at h2 h3
  rw [List.take_succ_cons];by_cases hm:m<w.length
  ·exfalso
   have h4:=h3 (by omega)
   have h5:(47::(w++qad r)).getD (m+1) 0=w[m]:=by simp [List.getD,List.getElem?_append_left hm,hm]
   rw [h5] at h4;exact hw.2.2.2 (h4▸List.getElem_mem hm)
  ·by_cases hm2:m=w.length
   ·subst hm2
    refine⟨1,Nat.le_refl _,by simp,?_⟩
    simp [qad]
   ·obtain⟨q,rfl⟩:∃q,m=w.length+q:=⟨m-w.length,by omega⟩
    obtain⟨j,hj1,hj2,hj3⟩:=qmb r q (fun y hy=>hg y (.tail _ hy)) (by omega) (by omega) (fun hq=>by
     have h4:=h3 (by omega)
     rw [← h4];simp [List.getD,List.getElem?_append_right])
    refine⟨j+1,by omega,by simp;omega,?_⟩
    have e2:(w++qad r).take (w.length+q)=w++(qad r).take q:=by rw [List.take_append,List.take_of_length_le (by omega),Nat.add_sub_cancel_left]
    rw [e2,hj3];simp [qad]
theorem qvg {x:List UInt8} {k:Nat} (h0:(qaK x).2=0) (h1:1≤k) (h2:k≤(qaK x).1.length) (h3:¬(k<(qaK x).1.length∧(qaK x).1.getD k 0≠47)):qam ((qaK x).1.take k)=(qaK x).1.take k∧((qap x=[]∧(qaK x).1.take k=[47])∨∃j,1≤j∧j≤(qap x).length∧(qaK x).1.take k=joinL ((qap x).take j)):=by
 have hq:qaK x=(qam x,0):=by
  unfold qaK at h0 ⊢
  split at h0
  ·cases h0
  ·rename_i h;rw [if_neg h]
 rw [hq] at h2 h3 ⊢;simp only at h2 h3 ⊢
 have hg:=qcc x;unfold qam at h2 h3 ⊢
 generalize qap x=ps at *;by_cases hp:ps=[]
 ·subst hp
  have e:joinL []=[47]:=rfl
  rw [e] at h2 h3 ⊢;obtain rfl:k=1:=by simp at h2;omega
  exact⟨rfl,.inl ⟨rfl,rfl⟩⟩
 ·have e:joinL ps=qad ps:=if_neg hp
  rw [e] at h2 h3 ⊢;obtain⟨j,hj1,hj2,hj3⟩:=qmb ps k hg h1 h2 fun hk=>Classical.not_not.1 fun hn=>h3 ⟨hk,hn⟩
  have e2:qad (ps.take j)=joinL (ps.take j):=(if_neg (by
   intro e
   have:=congrArg List.length e
   rw [List.length_take,List.length_nil] at this;omega)).symm
  rw [hj3,e2];refine⟨?_,.inr ⟨j,hj1,hj2,rfl⟩⟩
  rw [qcN _ fun w hw=>hg w (List.mem_of_mem_take hw)]
theorem qvJ:qe7:=fun x hx t k h h1 h2 h0=>by
 have hpl:=qlX x;have hp0:(qaK x).2=0:=by
  unfold qaK at h2 ⊢
  split
  ·rename_i hb
   rw [if_pos hb] at h2;simp at h2
   omega
  ·rfl
 unfold qc0 at h0 ⊢
 split
 ·exact h
 ·rename_i hc
  rw [if_neg hc] at h0;obtain⟨e,-⟩:=qvg hp0 h1 h2 fun hk=>hc (.inl hk)
  refine⟨qom h0,qsg h.2 ?_⟩
  rw [e,List.length_take];omega
noncomputable def upL:List (List UInt8)→List ND→List ND×Int
 |[],t=>(t,0)
 |y::r,t=>if qa0 t y=2 then upL r t else if(mkQ t y).2=0 then upL r (mkQ t y).1 else([],(mkQ t y).2)
theorem qtG {P:List UInt8} (n:Nat):∀(m k:Nat) (t:List ND),(∀i,i<m→k+i<P.length∧P.getD (k+i) 0≠47)→upU P (n+m) k t=upU P n (k+m) t
 |0,_,_,_=>rfl
 |m+1,k,t,h=>by
  have e:qc0 P t k=(t,0):=if_pos (.inl (by simpa using h 0 (by omega)))
  show upU P (n+m+1) k t=_
  rw [upU,e,if_pos rfl,qtG n m (k+1) t fun i hi=>by have:=h (i+1) (by omega);rwa [show k+(i+1)=k+1+i by omega] at this]
  congr 1
  omega
theorem qoV {P:List UInt8}:∀(r dn:List (List UInt8)) (t:List ND),P=qad (dn++r)→(∀w∈r,qhl w)→upU P (qad r).length ((qad dn).length+1) t=upL ((List.range r.length).map fun i=>qad (dn++r.take (i+1))) t
 |[],_,_,_,_=>rfl
 |w::r,dn,t,hP,hg=>by
  have hw:=hg w (.head _)
  have e1:qad (w::r)=47::(w++qad r):=by simp [qad]
  have e2:P=qad dn++(47::(w++qad r)):=by rw [hP,← e1];simp [qad]
  have e3:qad (dn++[w])=qad dn++(47::w):=by simp [qad]
  have ln:(qad (w::r)).length=(qad r).length+1+w.length:=by rw [e1];simp;omega
  have lp:P.length=(qad dn).length+1+w.length+(qad r).length:=by rw [e2];simp;omega
  rw [ln,qtG _ w.length _ t (fun i hi=>⟨by omega,by
   rw [e2,show(qad dn).length+1+i=(qad dn).length+(i+1) by omega];have:(qad dn++47::(w++qad r)).getD ((qad dn).length+(i+1)) 0=w[i]:=by simp [List.getD,List.getElem?_append_right,List.getElem?_append_left hi,hi]
   rw [this];exact fun h4=>hw.2.2.2 (h4▸List.getElem_mem hi)⟩)]
  rw [List.length_cons,List.range_succ_eq_map,List.map_cons,List.map_map,upU];have e4:P.take ((qad dn).length+1+w.length)=qad (dn++[w]):=by
   rw [e3,e2,show qad dn++(47::(w++qad r))=(qad dn++47::w)++qad r by simp,List.take_append,List.take_of_length_le (by simp;omega)];rw [show(qad dn).length+1+w.length-(qad dn++47::w).length=0 by simp;omega];simp
  have e5:¬((qad dn).length+1+w.length<P.length∧P.getD ((qad dn).length+1+w.length) 0≠47):=by
   rintro⟨h1,h2⟩
   apply h2
   cases r with
   |nil=>rw [lp] at h1;simp [qad] at h1
   |cons y r=>
    rw [e2,show qad dn++(47::(w++qad (y::r)))=(qad dn++47::w)++qad (y::r) by simp,show qad (y::r)=47::(y++qad r) by simp [qad]];rw [List.getD,List.getElem?_append_right (by simp;omega),show(qad dn).length+1+w.length-(qad dn++47::w).length=0 by simp;omega]
    rfl
  have ih:=fun t'=>qoV (P:=P) r (dn++[w]) t' (by rw [hP];simp) (fun y hy=>hg y (.tail _ hy))
  have l3:(qad (dn++[w])).length=(qad dn).length+1+w.length:=by rw [e3];simp;omega
  rw [l3] at ih;have hf:((fun i=>qad (dn++(w::r).take (i+1)))∘Nat.succ)=fun i=>qad (dn++[w]++r.take (i+1)):=by
   funext i
   simp
  rw [hf];show _=if qa0 t (qad (dn++(w::r).take 1))=2 then _ else if(mkQ t (qad (dn++(w::r).take 1))).2=0 then _ else _
  rw [show(w::r).take 1=[w] by simp];have es:qc0 P t ((qad dn).length+1+w.length)=if qa0 t (qad (dn++[w]))=2 then(t,0) else mkQ t (qad (dn++[w])):=by
   unfold qc0;rw [e4];by_cases hk:qa0 t (qad (dn++[w]))=2
   ·rw [if_pos (.inr hk),if_pos hk]
   ·rw [if_neg (fun h=>h.elim (fun h=>e5 h) hk),if_neg hk]
  rw [es];by_cases hk:qa0 t (qad (dn++[w]))=2
  ·simp only [if_pos hk]
   exact ih t
  ·simp only [if_neg hk]
   by_cases h0:(mkQ t (qad (dn++[w]))).2=0
   ·simp only [if_pos h0]
    exact ih _
   ·simp only [if_neg h0]
theorem qvd {t:List ND} (hok:OkT t) {x:List UInt8} (h0:(qaK x).2=0):qlQ t x=upL (qgb true x) t:=by
 have hq:qaK x=(qam x,0):=by
  unfold qaK at h0 ⊢
  split at h0
  ·cases h0
  ·rename_i h;rw [if_neg h]
 have hb:qgb true x=(List.range (qap x).length).map fun k=>joinL ((qap x).take (k+1)):=if_pos ⟨rfl,h0⟩
 unfold qlQ;rw [if_neg (by rw [h0];simp),hb,hq];have hg:=qcc x;simp only
 unfold qam;generalize qap x=ps at *;by_cases hp:ps=[]
 ·subst hp
  have hk:qa0 t [47]=2:=by
   unfold qa0 qga;rw [if_pos hok,if_neg (by rw [show qaK [47]=([47],0) from rfl];simp)];exact qef t
  show upU [47] 1 1 t=(t,0)
  have e:qc0 [47] t 1=(t,0):=if_pos (.inr hk)
  rw [upU,e,if_pos rfl]
  rfl
 ·have e:joinL ps=qad ps:=if_neg hp
  rw [e];have h:=qoV (P:=qad ps) ps [] t rfl hg
  rw [show(qad ([]:List (List UInt8))).length+1=1 from rfl] at h;rw [h]
  congr 1
  refine List.map_congr_left fun k hk=>?_
  have hk:=List.mem_range.1 hk;rw [List.nil_append];exact(if_neg fun e=>by
   have:=congrArg List.length e
   rw [List.length_take,List.length_nil] at this;omega).symm
def qiP (dn r:List (List UInt8)):List (List UInt8):=(List.range r.length).map fun k=>joinL (dn++r.take (k+1))
theorem qhq (dn:List (List UInt8)) (w:List UInt8) (r:List (List UInt8)):qiP dn (w::r)=joinL (dn++[w])::qiP (dn++[w]) r:=by
 unfold qiP;rw [List.length_cons,List.range_succ_eq_map,List.map_cons,List.map_map]
 congr 1
 refine List.map_congr_left fun k _=>?_
 show joinL (dn++(w::r).take (k+1+1))=_
 rw [List.take_succ_cons];simp
def Clean (l:List (List UInt8)):Prop:=∀w∈l,qhl w∧0∉w
theorem qez {l:List (List UInt8)} (h:Clean l):∀w∈l,qhl w:=fun w hw=>(h w hw).1
theorem qw4 (l:List (List UInt8)):joinL l≠[]:=by
 obtain⟨r,h⟩:=qh0 l;rw [h];simp
theorem qrW {l:List (List UInt8)} (h:Clean l):0∉joinL l:=by
 unfold joinL;split
 ·decide
 ·intro h0
  rcases ql9 h0 with h1|⟨w,hw,h1⟩
  ·cases h1
  ·exact(h w hw).2 h1
theorem qh1 {l:List (List UInt8)} (h:Clean l):qam (joinL l)=joinL l:=by
 unfold qam;rw [qcN l (qez h)]
theorem qls {a b:List (List UInt8)} (ha:Clean a) (hb:Clean b) (h:joinL a=joinL b):a=b:=by
 have:=congrArg qap h
 rwa [qcN a (qez ha),qcN b (qez hb)] at this
theorem qjj {dn:List (List UInt8)} {w:List UInt8} (h:Clean (dn++[w])):qbl (joinL (dn++[w]))=joinL dn:=by
 unfold qbl;rw [qcN _ (qez h),List.dropLast_concat]
theorem qh2 {dn:List (List UInt8)} {w:List UInt8} (h:Clean (dn++[w])):joinL (dn++[w])≠[47]:=fun e=>by
 have:=qls (b:=[]) h (fun _ h=>by cases h) e
 simp at this
theorem qnP {t:List ND} (hok:OkT t) {l:List (List UInt8)} (h:Clean l):qga t (joinL l)=(joinL l,0):=by
 unfold qga;rw [if_pos hok,qhi ⟨qrW h,qw4 l⟩,qh1 h]
theorem qjl {t:List ND} (hok:OkT t) {l:List (List UInt8)} (h:Clean l):qa0 t (joinL l)=qak t (joinL l):=by
 unfold qa0;rw [qnP hok h,if_neg (by simp),qh1 h]
theorem qhf {t:List ND} (hok:OkT t) {l:List (List UInt8)} (h:Clean l):mkQ t (joinL l)=if qak t (joinL l)≠0 then([],14) else if qbd t (joinL l)≠0 then([],qbd t (joinL l)) else qfc (qbT t ⟨joinL l,true,[]⟩):=by
 unfold mkQ;rw [qnP hok h,if_neg (by simp),qh1 h]
theorem qgM {t:List ND} (hok:OkT t) {dn:List (List UInt8)} {w:List UInt8} (h:Clean (dn++[w])) (hk:qak t (joinL dn)≠2):qak t (joinL (dn++[w]))=0:=by
 have hn:qbU t (joinL (dn++[w]))=none:=by
  rw [qcK];intro n hn e
  obtain⟨-,-,-,-,h5⟩:=hok.node hn;rw [e,qjj h] at h5;exact hk h5
 unfold qak;rw [if_neg (qh2 h),hn]
theorem qkm:∀l:List (List UInt8),l.foldl (mkS true) none=none
 |[]=>rfl
 |_::r=>qkm r
theorem ql3 {t:List ND} {dn:List (List UInt8)} {w:List UInt8} (h:Clean (dn++[w])):qbd t (joinL (dn++[w]))=if qak t (joinL dn)=0 then 71 else if qak t (joinL dn)=1 then 16 else 0:=by
 unfold qbd;rw [qjj h]
theorem qjf {t:List ND} (hok:OkT t):∀(r dn:List (List UInt8)),Clean (dn++r)→qak t (joinL dn)≠2→(qiP dn r).foldl (mkS true) (some (t,1))=some (t,1)
 |[],_,_,_=>rfl
 |w::r,dn,hc,hk=>by
  have hc1:Clean (dn++[w]):=fun y hy=>hc y (by simp at hy ⊢;rcases hy with h|h;exact .inl h;exact .inr (.inl h))
  have h0:=qgM hok hc1 hk;have hr:qbd t (joinL (dn++[w]))=71∨qbd t (joinL (dn++[w]))=16:=by
   rw [ql3 hc1];rcases qbY t (joinL dn) with ⟨h,_⟩|⟨h,_⟩|⟨h,_⟩
   ·exact .inl (if_pos h)
   ·exact .inr (by rw [if_neg (by rw [h];decide),if_pos h])
   ·exact absurd h hk
  have hm:(mkQ t (joinL (dn++[w]))).2=71∨(mkQ t (joinL (dn++[w]))).2=16:=by
   rw [qhf hok hc1,if_neg (by rw [h0];decide)];rcases hr with h|h
   ·exact .inl (by rw [if_pos (by rw [h];decide)];exact h)
   ·exact .inr (by rw [if_pos (by rw [h];decide)];exact h)
  rw [qhq,List.foldl_cons];have hs:mkS true (some (t,1)) (joinL (dn++[w]))=some (t,1):=by
   show(if(mkQ t (joinL (dn++[w]))).2=0 then _ else if(mkQ t (joinL (dn++[w]))).2=17 then _ else if(mkQ t (joinL (dn++[w]))).2≠14∨true=false∨qa0 t (joinL (dn++[w]))≠2 then _ else _)=_
   have h1:(mkQ t (joinL (dn++[w]))).2≠0:=by rcases hm with h|h<;>rw [h]<;>decide
   have h2:(mkQ t (joinL (dn++[w]))).2≠17:=by rcases hm with h|h<;>rw [h]<;>decide
   have h3:(mkQ t (joinL (dn++[w]))).2≠14:=by rcases hm with h|h<;>rw [h]<;>decide
   rw [if_neg h1,if_neg h2,if_pos (.inl h3)]
  rw [hs];exact qjf hok r (dn++[w]) (by rw [List.append_assoc];exact hc) (by rw [h0];decide)
theorem qok {t:List ND} (hok:OkT t) {dn:List (List UInt8)} {w:List UInt8} (h:Clean (dn++[w])) (hk:qak t (joinL dn)=2) (h0:qak t (joinL (dn++[w]))=0):
  mkQ t (joinL (dn++[w]))=([],17)∨(mkQ t (joinL (dn++[w]))=(qd4 ⟨joinL (dn++[w]),true,[]⟩ t,0)∧OkT (qd4 ⟨joinL (dn++[w]),true,[]⟩ t)∧qak (qd4 ⟨joinL (dn++[w]),true,[]⟩ t) (joinL (dn++[w]))=2∧
   ∀v,Clean (dn++[w]++[v])→qak (qd4 ⟨joinL (dn++[w]),true,[]⟩ t) (joinL (dn++[w]++[v]))=0):=by
 have hm:mkQ t (joinL (dn++[w]))=qfc (qbT t ⟨joinL (dn++[w]),true,[]⟩):=by
  rw [qhf hok h,if_neg (by rw [h0];decide),ql3 h,if_neg (by rw [if_neg (by rw [hk];decide),if_neg (by rw [hk];decide)];decide)]
 rw [qbK] at hm;rcases qdE (qd4 ⟨joinL (dn++[w]),true,[]⟩ t) with ⟨-,hf⟩|⟨-,hf⟩
 ·refine .inr ⟨by rw [hm,hf],?_,?_,fun v hv=>?_⟩
  ·have:=qom (t:=t) (x:=joinL (dn++[w])) (by rw [hm,hf])
   rwa [hm,hf] at this
  ·rw [qdd (qkg _ hok.asc)]
   exact .inr ⟨_,(qff _).2 (.inl rfl),rfl,rfl⟩
  ·have hb:=qgM hok hv (by rw [h0];decide)
   have hne:joinL (dn++[w]++[v])≠joinL (dn++[w]):=fun e=>by
    have:=congrArg List.length (qls hv h e)
    simp at this
   have hn:qbU (qd4 ⟨joinL (dn++[w]),true,[]⟩ t) (joinL (dn++[w]++[v]))=none:=by
    rw [qcK];intro n hn e
    rcases (qff _).1 hn with rfl|⟨hn,_⟩
    ·exact hne e.symm
    ·have h3:=qeB hok.asc hn
     rw [e] at h3;unfold qak at hb;rw [if_neg (qh2 hv),h3] at hb;simp only at hb
     split at hb<;>cases hb
   unfold qak;rw [if_neg (qh2 hv),hn]
 ·exact .inl (by rw [hm,hf])
theorem qn6:∀(r dn:List (List UInt8)) (t:List ND) (s:Int),OkT t→Clean (dn++r)→qak t (joinL dn)=2→(∀v,Clean (dn++[v])→qak t (joinL (dn++[v]))=0)→
  ((upL (qiP dn r) t).2=0∧(qiP dn r).foldl (mkS true) (some (t,s))=some ((upL (qiP dn r) t).1,s))∨(upL (qiP dn r) t=([],17)∧(qiP dn r).foldl (mkS true) (some (t,s))=none)
 |[],_,t,s,_,_,_,_=>.inl ⟨rfl,rfl⟩
 |w::r,dn,t,s,hok,hc,hk,hnew=>by
  have hc1:Clean (dn++[w]):=fun y hy=>hc y (by simp at hy ⊢;rcases hy with h|h;exact .inl h;exact .inr (.inl h))
  have h0:=hnew w hc1;rw [qhq,List.foldl_cons];show((if qa0 t (joinL (dn++[w]))=2 then _ else if(mkQ t (joinL (dn++[w]))).2=0 then _ else _:List ND×Int).2=0∧_=some ((if qa0 t (joinL (dn++[w]))=2 then _ else if(mkQ t (joinL (dn++[w]))).2=0 then _ else _:List ND×Int).1,s))∨((if qa0 t (joinL (dn++[w]))=2 then _ else if(mkQ t (joinL (dn++[w]))).2=0 then _ else _:List ND×Int)=_∧_)
  have hkq:qa0 t (joinL (dn++[w]))≠2:=by rw [qjl hok hc1,h0];decide
  simp only [if_neg hkq]
  rcases qok hok hc1 hk h0 with hm|⟨hm,hok1,hk1,hnew1⟩
  ·refine .inr ⟨by rw [hm];rfl,?_⟩
   have hs:mkS true (some (t,s)) (joinL (dn++[w]))=none:=by
    show(if(mkQ t (joinL (dn++[w]))).2=0 then _ else if(mkQ t (joinL (dn++[w]))).2=17 then _ else _)=_
    rw [hm];rfl
   rw [hs];exact qkm _
  ·have hs:mkS true (some (t,s)) (joinL (dn++[w]))=some (qd4 ⟨joinL (dn++[w]),true,[]⟩ t,s):=by
    show(if(mkQ t (joinL (dn++[w]))).2=0 then some ((mkQ t (joinL (dn++[w]))).1,s) else _)=_
    rw [hm];rfl
   rw [hs,hm];exact qn6 r (dn++[w]) _ s hok1 (by rw [List.append_assoc];exact hc) hk1 hnew1
def qy8 (t:List ND) (s:Int) (q:List ND×Int):Option (List ND×Int):=if q.2=0 then some (q.1,s) else if q.2=17 then none else some (t,1)
theorem qfz {t:List ND} (hok:OkT t) (s:Int):∀(r dn:List (List UInt8)),Clean (dn++r)→qak t (joinL dn)=2→qy8 t s (upL (qiP dn r) t)=(qiP dn r).foldl (mkS true) (some (t,s))
 |[],_,_,_=>rfl
 |w::r,dn,hc,hk=>by
  have hc1:Clean (dn++[w]):=fun y hy=>hc y (by simp at hy ⊢;rcases hy with h|h;exact .inl h;exact .inr (.inl h))
  have hc2:Clean (dn++[w]++r):=by rw [List.append_assoc];exact hc
  rw [qhq,List.foldl_cons];have hu:upL (joinL (dn++[w])::qiP (dn++[w]) r) t=if qa0 t (joinL (dn++[w]))=2 then upL (qiP (dn++[w]) r) t else if(mkQ t (joinL (dn++[w]))).2=0 then upL (qiP (dn++[w]) r) (mkQ t (joinL (dn++[w]))).1 else([],(mkQ t (joinL (dn++[w]))).2):=rfl
  have hsm:mkS true (some (t,s)) (joinL (dn++[w]))=if(mkQ t (joinL (dn++[w]))).2=0 then some ((mkQ t (joinL (dn++[w]))).1,s) else if(mkQ t (joinL (dn++[w]))).2=17 then none else if(mkQ t (joinL (dn++[w]))).2≠14∨true=false∨qa0 t (joinL (dn++[w]))≠2 then some (t,1) else some (t,s):=rfl
  rw [hu,hsm,qjl hok hc1];rcases qbY t (joinL (dn++[w])) with ⟨h0,_⟩|⟨h1,_⟩|⟨h2,_⟩
  ·rw [if_neg (by rw [h0];decide)]
   rcases qok hok hc1 hk h0 with hm|⟨hm,hok1,hk1,hnew1⟩
   ·rw [hm]
    show none=(qiP (dn++[w]) r).foldl (mkS true) none
    exact(qkm _).symm
   ·rw [hm]
    show qy8 t s (upL (qiP (dn++[w]) r) (qd4 ⟨joinL (dn++[w]),true,[]⟩ t))=(qiP (dn++[w]) r).foldl (mkS true) (some (qd4 ⟨joinL (dn++[w]),true,[]⟩ t,s))
    rcases qn6 r (dn++[w]) _ s hok1 hc2 hk1 hnew1 with ⟨e,hf⟩|⟨e,hf⟩
    ·rw [hf];exact if_pos e
    ·rw [hf,e];rfl
  ·have hm:mkQ t (joinL (dn++[w]))=([],14):=by rw [qhf hok hc1,if_pos (by rw [h1];decide)]
   rw [if_neg (by rw [h1];decide),hm,h1];show some (t,1)=(qiP (dn++[w]) r).foldl (mkS true) (some (t,1))
   exact(qjf hok r (dn++[w]) hc2 (by rw [h1];decide)).symm
  ·have hm:mkQ t (joinL (dn++[w]))=([],14):=by rw [qhf hok hc1,if_pos (by rw [h2];decide)]
   rw [if_pos h2,hm,h2];show qy8 t s (upL (qiP (dn++[w]) r) t)=(qiP (dn++[w]) r).foldl (mkS true) (some (t,s))
   exact qfz hok s r (dn++[w]) hc2 h2
theorem qlR:qmy:=by
 intro t s x hi _
 have hok:=hi.1;have he:qeQ (qcy true) (some (t,s)) x=qy8 t s (qlQ t x):=rfl
 rw [he];by_cases h0:(qaK x).2=0
 ·have hx:0∉x∧x≠[]:=by
   refine Classical.byContradiction fun hn=>?_
   rw [qej hn] at h0;cases h0
  have hb:qgb true x=qiP [] (qap x):=by
   unfold qgb qiP;rw [if_pos ⟨rfl,h0⟩]
   rfl
  rw [qvd hok h0,hb];refine qfz hok s (qap x) [] (fun w hw=>⟨qcc x w hw,fun h=>hx.1 (qlW x w hw 0 h)⟩) (qef t)
 ·have hb:qgb true x=[x]:=by
   unfold qgb;rw [if_neg (fun h=>h0 h.2)]
  have hq:qaK x=([],31):=by
   rcases qin x with e|e
   ·rw [e] at h0;exact absurd rfl h0
   ·exact e
  rw [hb];have hp:qlQ t x=([],31):=by
   unfold qlQ;rw [if_pos h0,hq]
  have hm:mkQ t x=([],31):=by
   unfold mkQ qga;rw [if_pos hok,hq,if_pos (by decide)]
  rw [hp];show some (t,1)=mkS true (some (t,s)) x
  have hsm:mkS true (some (t,s)) x=if(mkQ t x).2=0 then some ((mkQ t x).1,s) else if(mkQ t x).2=17 then none else if(mkQ t x).2≠14∨true=false∨qa0 t x≠2 then some (t,1) else some (t,s):=rfl
  rw [hsm,hm]
  rfl
end Go.Proofs.YtpodopnmkjinhaaGreatDoor
namespace Go.Proofs.YtpodopnmkjinhaaGreatDoor
open Go.ChangeShapes Go.WideShapes Go.ChangeAt Go.RowKit
theorem qk1 {H:Type}:∀ss:List ByteArray,Rows.uptoBulkAll (strs ss:List (DataW H))=qaf (ss.map fun s=>s.data.toList)
 |[]=>rfl
 |s::r=>by
  have:=qk1 (H:=H) r
  simp only [strs,List.map_cons,Rows.uptoBulkAll,Rows.uptoBulk,qaf,List.sum_cons] at this ⊢
  omega
theorem qm6 {H:Type} {enc:TypeId×Value→H} {W:World} {base:Nat} {v:Value} {d:DataW H} {ps:List MemPlace} (hval:Value.okWide prog W .any base 22 v)
  (h:DataW.Trod enc prog W 0 (fun _=>true) true 22 v d ps) (hb:Rows.uptoBulk d≤1048576):
  ∃(A:Option Addr) (c:Nat) (ls:List (List UInt8)),v=.slice A ls.length c∧qat W (fun _=>True) A ls∧ls.length≤c∧qaf ls≤1048576:=by
 obtain⟨a0,len,cap,rfl⟩:=okWide_slice underlying22 hval;obtain⟨fuel,hf⟩:=h;rcases open_strings underlying22 underlying9 (by kernel_rfl) hf with ⟨hcs,hx⟩|⟨a,len',cap',ss,hcs,_,hl,hm,hz,hx,hcell,_⟩
 ·have hv:Value.slice a0 len cap=.slice none 0 0:=by simpa [Value.cells] using hcs
  exact⟨none,0,[],hv,fun k hk=>absurd hk (Nat.not_lt_zero _),Nat.zero_le _,Nat.zero_le _⟩
 ·have hv:Value.slice a0 len cap=.slice (some a) len' cap':=by simpa [Value.cells] using hcs
  cases hv
  have hd:d=.slice (strs (ss.take len)) (strs (ss.drop len)):=by cases hx;rfl
  subst hd;have hlen:len≤ss.length:=by rw [hz];simpa using hl
  have hll:(ss.take len).length=len:=by rw [List.length_take];omega
  refine⟨some a,cap,(ss.take len).map (fun s=>s.data.toList),by rw [List.length_map,hll],fun k hk=>?_,?_,?_⟩
  ·rw [List.length_map,hll] at hk
   have hc:=hcell k (by omega)
   have hg:ss.getD k ByteArray.empty=ss[k]:=by simp [List.getD,show k<ss.length by omega]
   rw [hg] at hc;obtain⟨g,o,spot⟩:=a;have hsp:spot=none:=by
    have h0:=hcell 0 (by omega)
    simpa [Addr.add] using World.cell?_spot h0
   subst hsp;refine⟨g,o,rfl,trivial,?_⟩
   rw [← qgG,hc];simp
  ·rw [List.length_map,hll]
   omega
  ·have h1:=qk1 (H:=H) (ss.take len)
   simp only [Rows.uptoBulk] at hb
   omega
end Go.Proofs.YtpodopnmkjinhaaGreatDoor
namespace Go.Proofs.YtpodopnmkjinhaaGreatDoor
open Go.Lib (hid)
open Go.RowKit
theorem qxF {w:World} (hL:qww w):qwz w (fun _=>True) 1048600:=fun name args inn t A c B d W _ hB hn hA hc hz hi hN ht hd hs=>by
 have hst:=qte hs (by decide)
 refine qvB name args inn t A c B d W (hL.1.below hB) hA hc hN (by omega) hd hst ?_
 intro hok hmem V J C cc R dd h hbV
 have hiv:qdS t:=⟨hok,fun n hn=>by have:=hs n hn;omega⟩
 have hTab:Tab V:=(hL.2.below hB).below hbV
 have hJ:7≠J:=by
  have h1:=World.block_lt_of_cell? W _ (hL.2.below hB).1
  have h2:=h.le
  dsimp only at h1
  omega
 unfold qbQ at hmem;simp only [List.mem_cons,List.not_mem_nil,or_false] at hmem
 rcases hmem with rfl|rfl|rfl|rfl|rfl|rfl|rfl|rfl|rfl|rfl|rfl|rfl|rfl|rfl|rfl|rfl|rfl|rfl|rfl|rfl|rfl|rfl|rfl
 ·exact qoE _ (.inl rfl) h
 ·exact qoE _ (.inr rfl) h
 ·exact qs4 h
 ·exact qvs h (by omega)
 ·exact qqn h (by omega) hTab hJ
 ·exact qvz h hst (by omega) (by omega)
 ·exact qyV h hst (by omega) (by omega)
 ·exact qxG h hok hst (by omega) (by omega)
 ·exact qvu h hok hst (by omega) (by omega)
 ·exact qvy h hok hst (by omega) (by omega)
 ·exact qyX h hok hst (by omega) (by omega)
 ·exact qvw h hok hst (by omega) (by omega)
 ·exact qyW h (by omega) (by omega)
 ·exact qvA h hok hst (by omega) (by omega)
 ·exact qxH h hok hst (by omega) (by omega)
 ·exact qxL h hok hst (by omega) (by omega)
 ·exact qyU h hiv (by omega)
 ·exact qs5 qvJ qlR h hiv (by omega)
 ·exact qs7 h hiv (by omega)
 ·exact qxM h (by omega)
 ·exact qoF false _ (.inr ⟨rfl,rfl⟩) h (by omega)
 ·exact qoF true _ (.inl ⟨rfl,rfl⟩) h (by omega)
 ·exact qvt h (by omega)
theorem quU {H:Type} {d0:DataW H} (name:ByteArray) (AL:Option Addr) (cL:Nat) (l:List (List UInt8)) (inn other:ByteArray) (A:Option Addr) (c:Nat) (t:List ND) (d1:DataW H) (w:World)
  (_:name.size≤140737488351232) (hT:qat w (fun _=>True) AL l) (hcl:l.length≤cL) (hzl:qaf l≤1048576) (_:inn.size≤140737488351232) (_:other.size≤140737488351232)
  (hN:qal w (fun _=>True) A t) (hl:t.length≤1048576∧t.length≤c) (hz:∀n∈t,n.p.length≤1048576∧n.x.length≤1048576)
  (hk:Rows.uptoSmall H [.lit (.string name.data.toList),d0,.lit (.string inn.data.toList),.lit (.string other.data.toList),d1]=true) (hL:qww w):
  Calls prog 3 #[.string name,.slice AL l.length cL,.string inn,.string other,.slice A t.length c] w fun e w'=>e=.returned (.bool true)∧Below w.heap.size w w':=by
 have h1:name.data.toList.length≤1048576:=qnB (s:=name) (by simp) hk
 have h2:inn.data.toList.length≤1048576:=qnB (s:=inn) (by simp) hk
 have h3:other.data.toList.length≤1048576:=qnB (s:=other) (by simp) hk
 exact quV (qxF hL) trivial (by decide) (by decide) name.data.toList trivial AL cL l inn.data.toList other.data.toList A c t (by omega) hT hcl (by omega) (by omega) (by omega) hN (by omega) hl.2 (fun n hn=>by have:=hz n hn;omega)
end Go.Proofs.YtpodopnmkjinhaaGreatDoor
