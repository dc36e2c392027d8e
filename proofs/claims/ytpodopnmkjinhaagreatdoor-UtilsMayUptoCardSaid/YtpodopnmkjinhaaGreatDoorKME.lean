/- What the statement of May12Said leans on, part 5. Conditions: each theorem's own. -/
import Derived.Test.YtpodopnmkjinhaaGreatDoorKMD
set_option linter.unusedSimpArgs false
set_option maxRecDepth 100000
set_option maxHeartbeats 8000000
open Go.Proofs.Tryz
open List renaming setIfInBounds_toArray → sIA, set_cons_zero → sC0, set_cons_succ → sCS
namespace Go.Proofs.YtpodopnmkjinhaaGreatDoor
open Go.Lib (hid)
open Go.RowKit
def qcf (W:World) (N B:Nat) (C:Option Addr) (c:Nat) (o:List UInt8) (st:Int) (t:List ND) (rd:Bool) (inn:List UInt8) (bad:Prop) (rest:List (List UInt8)) (F:List UInt8→List UInt8) (e:Ending) (w':World):Prop:=
 Kept B W w'∧((bad∧e=.panicked [qbH 2 0])∨(¬bad∧∃g caps,e=.returned (.func (.func g) #[] caps)∧(∀args w,(callFunc g args).run prog w=.ok (.enter g args) w)∧(∃R' d',JobAt w' N B C c R' d' o st t rd rest inn)∧
  ∀V,Kept B w' V→∀s:List UInt8,s.length≤137438953472→Calls prog g (#[encS s]++caps) V fun e v=>e=.returned (encS (F s))∧Below V.heap.size V v))
theorem qbb {B b:Nat} {cs:Array Value} {T:TypeId} {W V:World} (h:W.heap[b]?=some (.cells cs T (0,0))) (hb:b≠B) (k:Kept B W V):V.heap[b]?=some (.cells cs T (0,0)):=(k.block b (lt_of_block h) hb).trans h
section
variable {W:World} {N B:Nat} {C:Option Addr} {c:Nat} {R:Option Addr} {d:Nat} {o:List UInt8} {st:Int} {t:List ND} {rd:Bool} {l:List (List UInt8)} {inn:List UInt8}
theorem quA (h:JobAt W N B C c R d o st t rd l inn):
  Calls prog 32 #[.pointer (some ⟨B,0,none⟩),encS [99,97,116]] W fun e w'=>qcf W N B C c o st t rd inn False l id e w':=by
 have H:=hid h;clear h;have cF:∀(s:List UInt8) V,Calls prog 78 (#[encS s]++#[]) V fun e v=>e=.returned (encS (id s))∧Below V.heap.size V v:=fun s V=>by
  show Calls _ _ #[encS s] _ _
  go_enter func78,ntmps78;go_wp2_with fail;go_ret;exact⟨rfl,Below.refl _ _⟩
 have HF:=hid cF;clear cF;go_enter func32,ntmps32;go_wp2_with fail;go_ret;exact⟨Kept.refl _ _,.inr ⟨fun h=>h,_,_,rfl,enters_of func78 (by kernel_rfl) rfl,⟨_,_,H.out⟩,fun V _ s _=>HF.out s V⟩⟩
theorem qrA (h:JobAt W N B C c R d o st t rd l inn) (hz:qaf l≤1099511627776):
  Calls prog 32 #[.pointer (some ⟨B,0,none⟩),encS [104,101,97,100]] W fun e w'=>qcf W N B C c o st t rd inn ((qaO l).1<0∨l=[[45,110]]) (qaO l).2 (fun s=>qiU s (qaO l).1) e w':=by
 have cL:=qlC h hz;have c1:=fun s n W hs n0 n1=>quI s n W hs n0 n1
 generalize (qaO l).2=r at *;generalize ((qaO l).1<0∨l=[[45,110]])=bad at *;generalize (qaO l).1=n at *;clear h;go_enter func32,ntmps32;go_wp2_with fail;refine cL.mono ?_;rintro e w1⟨hk,⟨hbad,rfl⟩|⟨hnb,h1,h2,rfl,R',d',hJ⟩⟩
 ·go_wp2_with fail
  exact⟨rfl,hk,.inl ⟨hbad,rfl⟩⟩
 ·obtain⟨V0,hV0⟩:∃V,w1.alloc (.cells #[.int .i64 n] 3)=V:=⟨_,rfl⟩
  have hbx:V0.heap[w1.heap.size]?=some (.cells #[.int .i64 n] 3 (0,0)):=by rw [← hV0];exact heap_alloc_new _ _
  have hb0:Below w1.heap.size w1 V0:=by rw [← hV0];exact(Below.refl _ _).alloc (Nat.le_refl _) _
  have hlt:B<w1.heap.size:=hJ.lt
  have HJ:=hid (hJ.below hb0)
  have HK:=hid (hk.trans (Kept.of_below hb0))
  have HF:Hid (∀V,Kept B V0 V→∀s:List UInt8,s.length≤137438953472→Calls prog 63 (#[encS s]++#[.pointer (some ⟨w1.heap.size,0,none⟩)]) V fun e v=>e=.returned (encS (qiU s n))∧Below V.heap.size V v):=hid fun V hk s hs=>by
   have hc:=cell_of_one (qbb hbx (by omega) hk)
   have cH:=c1 s n V (by omega) (by omega) (by omega)
   show Calls _ _ #[encS s,.pointer (some ⟨w1.heap.size,0,none⟩)] _ _
   clear hbx hb0 hV0 hk HJ HK;go_enter func63,ntmps63;go_wp2_with fail;refine cH.mono ?_;rintro e w2⟨rfl,hb⟩;go_wp2_with fail;go_ret;exact⟨rfl,hb⟩
  clear hbx hb0 hk hJ cL;go_wp2_with fail;go_ret;exact⟨HK.out,.inr ⟨hnb,_,_,rfl,enters_of func63 (by kernel_rfl) rfl,⟨_,_,HJ.out⟩,HF.out⟩⟩
theorem qrC (h:JobAt W N B C c R d o st t rd l inn) (hz:qaf l≤1099511627776):
  Calls prog 32 #[.pointer (some ⟨B,0,none⟩),encS [116,97,105,108]] W fun e w'=>qcf W N B C c o st t rd inn ((qaO l).1<0∨l=[[45,110]]) (qaO l).2 (fun s=>qeY s (qaO l).1) e w':=by
 have cL:=qlC h hz;have c1:=fun s n W hs n0 n1=>qvO s n W hs n0 n1
 generalize (qaO l).2=r at *;generalize ((qaO l).1<0∨l=[[45,110]])=bad at *;generalize (qaO l).1=n at *;clear h;go_enter func32,ntmps32;go_wp2_with fail;refine cL.mono ?_;rintro e w1⟨hk,⟨hbad,rfl⟩|⟨hnb,h1,h2,rfl,R',d',hJ⟩⟩
 ·go_wp2_with fail
  exact⟨rfl,hk,.inl ⟨hbad,rfl⟩⟩
 ·obtain⟨V0,hV0⟩:∃V,w1.alloc (.cells #[.int .i64 n] 3)=V:=⟨_,rfl⟩
  have hbx:V0.heap[w1.heap.size]?=some (.cells #[.int .i64 n] 3 (0,0)):=by rw [← hV0];exact heap_alloc_new _ _
  have hb0:Below w1.heap.size w1 V0:=by rw [← hV0];exact(Below.refl _ _).alloc (Nat.le_refl _) _
  have hlt:B<w1.heap.size:=hJ.lt
  have HJ:=hid (hJ.below hb0)
  have HK:=hid (hk.trans (Kept.of_below hb0))
  have HF:Hid (∀V,Kept B V0 V→∀s:List UInt8,s.length≤137438953472→Calls prog 65 (#[encS s]++#[.pointer (some ⟨w1.heap.size,0,none⟩)]) V fun e v=>e=.returned (encS (qeY s n))∧Below V.heap.size V v):=hid fun V hk s hs=>by
   have hc:=cell_of_one (qbb hbx (by omega) hk)
   have cH:=c1 s n V (by omega) (by omega) (by omega)
   show Calls _ _ #[encS s,.pointer (some ⟨w1.heap.size,0,none⟩)] _ _
   clear hbx hb0 hV0 hk HJ HK;go_enter func65,ntmps65;go_wp2_with fail;refine cH.mono ?_;rintro e w2⟨rfl,hb⟩;go_wp2_with fail;go_ret;exact⟨rfl,hb⟩
  clear hbx hb0 hk hJ cL;go_wp2_with fail;go_ret;exact⟨HK.out,.inr ⟨hnb,_,_,rfl,enters_of func65 (by kernel_rfl) rfl,⟨_,_,HJ.out⟩,HF.out⟩⟩
def qe9 (o s:List UInt8):List UInt8:=if o=[108] then qaw (qgx s) else if o=[119] then qaw (qaZ false s) else if o=[99] then qaw (s.length) else qaw (qgx s)++[32]++qaw (qaZ false s)++[32]++qaw (s.length)
theorem qrd (o s:List UInt8):qi7 o s=qe9 o s++[10]:=rfl
theorem qts (s:List UInt8):qgx s≤s.length:=List.count_le_length
theorem qpk (s q:List UInt8) (w:World) (hs:s.length≤137438953472):
  Calls prog 68 #[encS s,encS q] w fun e w'=>e=.returned (encS (qe9 q s))∧Below w.heap.size w w':=by
 have cC:=qre s w (by omega)
 have h1:=qts s;have h2:=qf5 s false;have p1:=fun W=>qbR (qgx s) (by omega) (by omega) W
 have p2:=fun W=>qbR (qaZ false s) (by omega) (by omega) W
 have p3:=fun W=>qbR (s.length) (by omega) (by omega) W
 have l1:=qaQ (n:=qgx s) (by omega) (by omega)
 have l2:=qaQ (n:=qaZ false s) (by omega) (by omega)
 have l3:=qaQ (n:=(s.length:Int)) (by omega) (by omega)
 obtain⟨V,hV⟩:=qQ (qe9 q s)
 rw [hV];unfold qe9 at hV;generalize qgx s=a at *;generalize qaZ false s=b at *;obtain⟨n,hn⟩:∃n:Int,(s.length:Int)=n:=⟨_,rfl⟩
 rw [hn] at cC p3 l3 hV;generalize qaw a=A at *;generalize qaw b=D at *;generalize qaw n=E at *;clear hn h1 h2;by_cases q1:q=[108]
 ·subst q1
  rw [if_pos rfl] at hV;subst hV;go_enter func68,ntmps68;go_wp2_with fail;refine cC.mono ?_;rintro e w1⟨rfl,hb1⟩;go_wp2_with fail;refine(p1 _).mono ?_;rintro e w2⟨rfl,hb2⟩;go_wp2_with fail;go_ret;exact⟨rfl,qT hb1 hb2⟩
 rw [if_neg q1] at hV;have e1:(q==[108])=false:=by simpa using q1
 clear q1;by_cases q2:q=[119]
 ·subst q2
  rw [if_pos rfl] at hV;subst hV;go_enter func68,ntmps68;go_wp2_with fail;refine cC.mono ?_;rintro e w1⟨rfl,hb1⟩;go_wp2_with fail;refine(p2 _).mono ?_;rintro e w2⟨rfl,hb2⟩;go_wp2_with fail;go_ret;exact⟨rfl,qT hb1 hb2⟩
 rw [if_neg q2] at hV;have e2:(q==[119])=false:=by simpa using q2
 clear q2;by_cases q3:q=[99]
 ·subst q3
  rw [if_pos rfl] at hV;subst hV;go_enter func68,ntmps68;go_wp2_with fail;refine cC.mono ?_;rintro e w1⟨rfl,hb1⟩;go_wp2_with fail;refine(p3 _).mono ?_;rintro e w2⟨rfl,hb2⟩;go_wp2_with fail;go_ret;exact⟨rfl,qT hb1 hb2⟩
 rw [if_neg q3] at hV;have e3:(q==[99])=false:=by simpa using q3
 clear q3;have HV:=hid hV;clear hV;go_enter func68,ntmps68;go_wp2_with fail;refine cC.mono ?_;rintro e w1⟨rfl,hb1⟩;have HB1:=hid hb1;go_wp2_with fail;refine(p1 _).mono ?_;rintro e w2⟨rfl,hb2⟩;have HB2:=qH HB1 hb2;clear hb2 hb1 HB1;go_wp2_with fail;refine(p2 _).mono ?_;rintro e w3⟨rfl,hb3⟩;have HB3:=qH HB2 hb3;clear hb3 HB2;go_wp2_with fail;refine(p3 _).mono ?_;rintro e w4⟨rfl,hb4⟩;have HB4:=qH HB3 hb4;clear hb4 HB3;go_wp2_with fail;go_ret;exact⟨by rw [← HV.out];rfl,HB4.out⟩
theorem qpj (o s:List UInt8) (hs:s.length≤137438953472):(qe9 o s).length≤100:=by
 have h1:=qts s;have h2:=qf5 s false;have l1:=qaQ (n:=qgx s) (by omega) (by omega)
 have l2:=qaQ (n:=qaZ false s) (by omega) (by omega)
 have l3:=qaQ (n:=(s.length:Int)) (by omega) (by omega)
 unfold qe9
 repeat' split
 all_goals (try simp only [List.length_append,List.length_cons,List.length_nil]);omega
theorem qwU (h:JobAt W N B C c R d o st t rd l inn) (hz:qaf l≤1099511627776):
  Calls prog 32 #[.pointer (some ⟨B,0,none⟩),encS [119,99]] W fun e w'=>qcf W N B C c o st t rd inn ((qab [108,119,99] [] l).ok=false∨1<(qab [108,119,99] [] l).out.length) (qab [108,119,99] [] l).rest (fun s=>qi7 (qab [108,119,99] [] l).out s) e w':=by
 have cL:=qcb [108,119,99] (by decide) (by decide) h hz
 have hls:=qa6 [108,119,99] l []
 generalize qab [108,119,99] [] l=q at *;obtain⟨qo,qr,qk⟩:=q;simp only [List.length_nil,Nat.zero_add] at hls
 have hql:qo.length≤1099511627776:=by omega
 unfold qbF at cL;simp only at cL ⊢
 clear h hls;go_enter func32,ntmps32;go_wp2_with fail;refine cL.mono ?_;rintro e w1 (⟨rfl,rfl,hk⟩|⟨rfl,rfl,⟨R',d',hJ⟩,hk⟩)
 ·go_wp2_with fail
  exact⟨rfl,hk,.inl ⟨by simp,rfl⟩⟩
 ·obtain⟨V0,hV0⟩:∃V,w1.alloc (.cells #[encS qo] 9)=V:=⟨_,rfl⟩
  have hbx:V0.heap[w1.heap.size]?=some (.cells #[encS qo] 9 (0,0)):=by rw [← hV0];exact heap_alloc_new _ _
  have hb0:Below w1.heap.size w1 V0:=by rw [← hV0];exact(Below.refl _ _).alloc (Nat.le_refl _) _
  have hlt:B<w1.heap.size:=hJ.lt
  have HJ:=hid (hJ.below hb0)
  have HK:=hid (hk.trans (Kept.of_below hb0))
  have hc0:=cell_of_one hbx;have hqs:(⟨qo.toArray⟩:ByteArray).size=qo.length:=by simp [ByteArray.size]
  by_cases h1:1<qo.length
  ·have hi:decide ((qo.length:Int)≤1)=false:=decide_eq_false (by omega)
   clear hbx hb0 hk hJ cL;go_wp2_with fail;refine(qau _).mono ?_;rintro e w2⟨rfl,rfl⟩;go_wp2_with fail;exact⟨rfl,HK.out,.inl ⟨by simp [h1],rfl⟩⟩
  ·have hi:decide ((qo.length:Int)≤1)=true:=decide_eq_true (by omega)
   have HF:Hid (∀V,Kept B V0 V→∀s:List UInt8,s.length≤137438953472→Calls prog 67 (#[encS s]++#[.pointer (some ⟨w1.heap.size,0,none⟩)]) V fun e v=>e=.returned (encS (qi7 qo s))∧Below V.heap.size V v):=hid fun V hk s hs=>by
    have hc:=cell_of_one (qbb hbx (by omega) hk)
    have cH:=qpk s qo V hs;have hvl:=qpj qo s hs;rw [qrd];generalize qe9 qo s=v at *;show Calls _ _ #[encS s,.pointer (some ⟨w1.heap.size,0,none⟩)] _ _
    clear hbx hb0 hV0 hk HJ HK hc0;go_enter func67,ntmps67;go_wp2_with fail;refine cH.mono ?_;rintro e w2⟨rfl,hb⟩;go_wp2_with fail;go_ret;exact⟨rfl,hb⟩
   have HB:=hid h1;clear hbx hb0 hk hJ cL h1;go_wp2_with fail;refine(qay _).mono ?_;rintro e w2⟨rfl,rfl⟩;go_wp2_with fail;go_ret;exact⟨HK.out,.inr ⟨by rintro(h|h);cases h;exact HB.out h,_,_,rfl,enters_of func67 (by kernel_rfl) rfl,⟨_,_,HJ.out⟩,HF.out⟩⟩
end
def qfp (W:World) (N B:Nat) (t:List ND) (inn:List UInt8) (q:UQ) (e:Ending) (w':World):Prop:=
 Kept B W w'∧((∃st er,e=.panicked [qbH st er]∧q=⟨[],st,t,false,er⟩)∨(e=.returned (.tuple #[])∧q.err=0∧∃C c R d l,JobAt w' N B C c R d q.out q.st q.tree q.read l inn))
section
variable {W:World} {N B:Nat} {C:Option Addr} {c:Nat} {R:Option Addr} {d:Nat} {o:List UInt8} {st:Int} {t:List ND} {rd:Bool} {l:List (List UInt8)} {inn:List UInt8}
theorem qb1 (name:List UInt8) (hn:name=[99,97,116]∨name=[104,101,97,100]∨name=[116,97,105,108]∨name=[119,99]∨name=[115,111,114,116]∨name=[117,110,105,113]∨name=[99,117,116]∨name=[114,101,118])
  (hok:OkT t) (hz:qbj t) (bad:Prop) (rest:List (List UInt8)) (F:List UInt8→List UInt8) (hl:qaf rest≤1100000) (hi:inn.length≤1100000)
  (cF:Calls prog 32 #[.pointer (some ⟨B,0,none⟩),encS name] W fun e w'=>qcf W N B C c [] 0 t false inn bad rest F e w') (q:UQ) (h1:bad→q=qaL t) (h2:¬bad→(qab [] [] rest).ok=false→q=qaL t)
  (h3:¬bad→(qab [] [] rest).ok=true→q=ofT t (qaY t inn (qab [] [] rest).rest) (F (qaY t inn (qab [] [] rest).rest).out)):
  Calls prog 14 #[.pointer (some ⟨B,0,none⟩),encS name] W fun e w'=>qfp W N B t inn q e w':=by
 have hls:=qa6 [] rest []
 have cL:=fun V R d (h:JobAt V N B C c R d [] 0 t false rest inn)=>qcb [] (by decide) (by decide) h (by omega)
 generalize qab [] [] rest=q0 at *;obtain⟨qo,qr,qk⟩:=q0;simp only [List.length_nil,Nat.zero_add] at hls
 have hqr:qaf qr≤1100000:=by omega
 have hto:=qmm t hok inn qr;have hqn:=qaG qr;have cT:=fun V R d (h:JobAt V N B C c R d [] 0 t false qr inn)=>qtt h hok hz hqr hi
 unfold qbF at cL;simp only at cL h2 h3
 generalize qaY t inn qr=tq at *;obtain⟨tou,trd,tst⟩:=tq;simp only at hto cT h3
 have hto2:tou.length≤137438953472:=by omega
 have HC:=hid (And.intro cL cT)
 have H1:=hid h1;have H2:=hid h2;have H3:=hid h3;clear cL cT hls h1 h2 h3;rcases hn with rfl|rfl|rfl|rfl|rfl|rfl|rfl|rfl
 all_goals
  go_enter func14,ntmps14;go_wp2_with fail;refine cF.mono ?_;rintro e w1⟨hk1,⟨hbad,rfl⟩|⟨hnb,g,caps,rfl,eg,⟨R1,d1,hJ1⟩,hFn⟩⟩
  ·go_wp2_with fail
   exact⟨rfl,hk1,.inl ⟨2,0,rfl,H1.out hbad⟩⟩
  ·have cL:=HC.out.1 w1 R1 d1 hJ1
   have HK1:=hid hk1;have HF:=hid hFn;clear cF hk1 hFn hJ1;go_wp2_with fail;refine cL.mono ?_;rintro e w2 (⟨rfl,rfl,hk2⟩|⟨rfl,rfl,⟨R2,d2,hJ2⟩,hk2⟩)
   ·go_wp2_with fail
    exact⟨rfl,HK1.out.trans hk2,.inl ⟨2,0,rfl,H2.out hnb (by trivial)⟩⟩
   ·have cT:=HC.out.2 w2 R2 d2 hJ2
    have HK2:=hid hk2;clear cL hk2 hJ2;go_wp2_with fail;refine cT.mono ?_;rintro e w3⟨rfl,hJ3,hk3⟩;have cFn:=HF.out w3 (HK2.out.trans hk3) tou hto2
    have HK3:=hid (HK1.out.trans (HK2.out.trans hk3))
    have HJ3:=hid hJ3;clear cT hk3 hJ3 HF HK2 HK1;go_wp2_with (go_at_fn g;refine cFn.mono ?_;rintro e w4 ⟨rfl,hb4⟩;have HJ4:=hid (HJ3.out.below hb4);have HK4:=hid (HK3.out.trans (Kept.of_below hb4));have x0:=HJ4.out.cells.1;have f0:=HJ4.out.free 0;clear hb4)
    go_end0;rw [H3.out hnb (by trivial)];exact⟨HK4.out.setCell _ _,.inr ⟨rfl,rfl,_,_,_,_,_,HJ4.out.set0 _⟩⟩
end
theorem qly {l:List (List UInt8)} (h:∀x r,l=x::r→qsx x=false) (known o:List UInt8):qab known o l=⟨o,l,true⟩:=by
 cases l with
 |nil=>rfl
 |cons x r=>rw [qbs,h x r rfl];rfl
theorem qgN (known:List UInt8):∀(l:List (List UInt8)) (o:List UInt8),(qab known o l).ok=true→∀x r,(qab known o l).rest=x::r→qsx x=false
 |[],o,_,x,r,h=>by cases h
 |y::s,o,hok,x,r,h=>by
  rw [qbs] at hok h;by_cases hy:qsx y=true
  ·rw [if_pos hy] at hok h
   by_cases hk:(y.drop 1).all (known.contains ·)=true
   ·rw [if_pos hk] at hok h
    exact qgN known s _ hok x r h
   ·rw [if_neg hk] at hok
    cases hok
  ·rw [if_neg hy] at h
   cases h
   simpa using hy
theorem qbe {known o:List UInt8} {l:List (List UInt8)} (h:(qab known o l).ok=true):qab [] [] (qab known o l).rest=⟨[],(qab known o l).rest,true⟩:=qly (qgN known l o h) [] []
section
variable {W:World} {N B:Nat} {C:Option Addr} {c:Nat} {R:Option Addr} {d:Nat} {t:List ND} {args:List (List UInt8)} {inn:List UInt8}
theorem qxG (h:JobAt W N B C c R d [] 0 t false args inn) (hok:OkT t) (hz:qbj t) (hl:qaf args≤1100000) (hi:inn.length≤1100000):
  Calls prog 14 #[.pointer (some ⟨B,0,none⟩),encS [99,97,116]] W fun e w'=>qfp W N B t inn (qbc [99,97,116] args inn t) e w':=by
 refine qb1 _ (.inl rfl) hok hz _ _ _ hl hi (quA h) _ (fun h=>h.elim) (fun _ hk=>?_) (fun _ hk=>?_)
 ·show qct [99,97,116] t inn args=_
  unfold qct qes;rw [show qbC [99,97,116]=[] from rfl,hk,if_pos rfl]
  rfl
 ·show qct [99,97,116] t inn args=_
  unfold qct qes;rw [show qbC [99,97,116]=[] from rfl,hk,if_neg (by decide)]
  rfl
theorem ql6 (tail:Bool) (name:List UInt8) (hn:name=[104,101,97,100]∧tail=false∨name=[116,97,105,108]∧tail=true) (hd:qbc name args inn t=qgO tail t inn args) (F:Int→List UInt8→List UInt8) (hF:∀n s,F n s=if tail then qeY s n else qiU s n)
  (cF:Calls prog 32 #[.pointer (some ⟨B,0,none⟩),encS name] W fun e w'=>qcf W N B C c [] 0 t false inn ((qaO args).1<0∨args=[[45,110]]) (qaO args).2 (F (qaO args).1) e w') (hok:OkT t) (hz:qbj t) (hl:qaf args≤1100000) (hi:inn.length≤1100000):
  Calls prog 14 #[.pointer (some ⟨B,0,none⟩),encS name] W fun e w'=>qfp W N B t inn (qbc name args inn t) e w':=by
 have hsz:qaf (qaO args).2≤qaf args:=by
  unfold qaO;split
  ·rename_i a b r
   split
   ·simp [qaf];omega
   ·exact Nat.le_refl _
  ·exact Nat.le_refl _
 refine qb1 name ?_ hok hz _ _ _ (Nat.le_trans hsz hl) hi cF _ (fun hb=>?_) (fun hb hk=>?_) (fun hb hk=>?_)
 ·rcases hn with ⟨rfl,-⟩|⟨rfl,-⟩
  ·exact .inr (.inl rfl)
  ·exact .inr (.inr (.inl rfl))
 all_goals rw [hd];unfold qgO
 ·rcases hb with hb|rfl
  ·rw [if_pos (.inl hb)]
  ·rw [if_pos (.inr (by decide))]
 ·rw [if_pos (.inr hk)]
 ·rw [if_neg (by rintro(h|h);exact hb (.inl h);rw [hk] at h;cases h),hF]
theorem qvu (h:JobAt W N B C c R d [] 0 t false args inn) (hok:OkT t) (hz:qbj t) (hl:qaf args≤1100000) (hi:inn.length≤1100000):
  Calls prog 14 #[.pointer (some ⟨B,0,none⟩),encS [104,101,97,100]] W fun e w'=>qfp W N B t inn (qbc [104,101,97,100] args inn t) e w':=
 ql6 false _ (.inl ⟨rfl,rfl⟩) rfl (fun n s=>qiU s n) (fun _ _=>rfl) (qrA h (by omega)) hok hz hl hi
theorem qvy (h:JobAt W N B C c R d [] 0 t false args inn) (hok:OkT t) (hz:qbj t) (hl:qaf args≤1100000) (hi:inn.length≤1100000):
  Calls prog 14 #[.pointer (some ⟨B,0,none⟩),encS [116,97,105,108]] W fun e w'=>qfp W N B t inn (qbc [116,97,105,108] args inn t) e w':=
 ql6 true _ (.inr ⟨rfl,rfl⟩) rfl (fun n s=>qeY s n) (fun _ _=>rfl) (qrC h (by omega)) hok hz hl hi
theorem qyX (h:JobAt W N B C c R d [] 0 t false args inn) (hok:OkT t) (hz:qbj t) (hl:qaf args≤1100000) (hi:inn.length≤1100000):
  Calls prog 14 #[.pointer (some ⟨B,0,none⟩),encS [119,99]] W fun e w'=>qfp W N B t inn (qbc [119,99] args inn t) e w':=by
 have hs:=qa6 [108,119,99] args []
 refine qb1 _ (.inr (.inr (.inr (.inl rfl)))) hok hz _ _ _ (by simp at hs;omega) hi (qwU h (by omega)) _ (fun hb=>?_) (fun hb hk=>?_) (fun hb hk=>?_)
 all_goals show qhA t inn args=_;unfold qhA
 ·rw [if_pos hb]
 ·have h1:(qab [108,119,99] [] args).ok=true:=by
   cases h:(qab [108,119,99] [] args).ok
   ·exact absurd (.inl h) hb
   ·rfl
  rw [qbe h1] at hk;cases hk
 ·have h1:(qab [108,119,99] [] args).ok=true:=by
   cases h:(qab [108,119,99] [] args).ok
   ·exact absurd (.inl h) hb
   ·rfl
  rw [if_neg hb,qbe h1]
end
def qfb:List (List UInt8):=[[43],[45],[42],[47],[37],[61,61],[33,61],[60],[60,61],[62],[62,61]]
theorem quv {op:List UInt8} (h:op∈qfb):op∈Cal.joinOps∧op≠[38,38]∧op≠[124,124]∧op≠[61]∧Cal.levL op≠2∧Cal.fineT true (Cal.tOp op)=true∧op.length≤2:=by
 unfold qfb at h;simp only [List.mem_cons,List.not_mem_nil,or_false] at h
 rcases h with rfl|rfl|rfl|rfl|rfl|rfl|rfl|rfl|rfl|rfl|rfl<;>refine⟨by decide,by decide,by decide,by decide,by decide,by decide +kernel,by decide⟩
def qg5 (w:World) (q:Except Int Int) (e:Ending) (w':World):Prop:=Below w.heap.size w w'∧((∃n,q=.ok n∧e=.returned (.int .i64 n))∨((∃m,q=.error m)∧e=.panicked [qbH 2 0]))
theorem qpL {op:List UInt8} (hop:op∈qfb) {a b m:Int} (h:Cal.joinedE op a b=.error m):m≠0:=by
 unfold qfb at hop;simp only [List.mem_cons,List.not_mem_nil,or_false] at hop
 rcases hop with rfl|rfl|rfl|rfl|rfl|rfl|rfl|rfl|rfl|rfl|rfl<;>simp [Cal.joinedE] at h
 all_goals
  split at h
  ·cases h;decide
  ·cases h
theorem qgE (op0 op:List UInt8) (h0:(op0=[61]∧op=[61,61])∨(op0≠[61]∧op=op0)) (hop:op∈qfb) (a b:Int) (ha:Cal.R64' a) (hb:Cal.R64' b) (w:World):
  Calls prog 159 #[encS op0,.int .i64 a,.int .i64 b] w fun e w'=>qg5 w (Cal.joinedE op a b) e w':=by
 obtain⟨g1,g2,g3,g4,g5,g6,g7⟩:=quv hop;have cE:=fun g Av cv ys V hg hV hy=>Cal.eval_two op g1 a b ha hb g Av cv ys V hg hV hy g2 g3 g4 g5 g6 g7
 have hbad:=fun m h=>qpL hop (a:=a) (b:=b) (m:=m) h
 generalize Cal.joinedE op a b=q at *;have p1:=fun W=>qbR a ha.1 ha.2 W
 have p2:=fun W=>qbR b hb.1 hb.2 W
 have l1:=qaQ ha.1 ha.2;have l2:=qaQ hb.1 hb.2;have HY:Hid (([⟨Cal.mV a,none,0⟩,⟨Cal.nV b,none,0⟩]:List Cal.VI).map (·.v)=[Cal.mV a,Cal.nV b]):=hid rfl
 obtain⟨W0,hW0⟩:=qQ ((w.alloc (.cells #[.string ⟨#[]⟩,.string ⟨#[109]⟩,.int .i64 0,.slice none 0 0,.string ⟨#[]⟩,.string ⟨#[110]⟩,.int .i64 0,.slice none 0 0] 205)).alloc (.cells #[encS op,.string ⟨#[]⟩,.int .i64 0,.slice (some ⟨w.heap.size,0,none⟩) 2 2] 205))
 have b0:W0.heap[w.heap.size]?=some (.cells #[.string ⟨#[]⟩,.string ⟨#[109]⟩,.int .i64 0,.slice none 0 0,.string ⟨#[]⟩,.string ⟨#[110]⟩,.int .i64 0,.slice none 0 0] 205 (0,0)):=by rw [← hW0];exact heap_alloc2_old _ _ _
 have b1:W0.heap[w.heap.size+1]?=some (.cells #[encS op,.string ⟨#[]⟩,.int .i64 0,.slice (some ⟨w.heap.size,0,none⟩) 2 2] 205 (0,0)):=by rw [← hW0];exact heap_alloc2_new _ _ _
 have hB0:Below w.heap.size w W0:=by rw [← hW0];exact((Below.refl _ _).alloc (Nat.le_refl _) _).alloc (by simp) _
 have HB:=hid (And.intro b0 (And.intro b1 hB0))
 obtain⟨N9,hN9⟩:∃n:Int,Cal.okN q=n:=⟨_,rfl⟩
 obtain⟨M9,hM9⟩:∃m:Int,Cal.erN q=m:=⟨_,rfl⟩
 have HQ:Hid ((M9=0∧q=.ok N9)∨(M9≠0∧∃m,q=.error m)):=hid (by
  cases q with
  |ok n=>exact .inl ⟨hM9.symm,by rw [← hN9];rfl⟩
  |error m=>exact .inr ⟨by rw [← hM9];exact hbad m rfl,m,rfl⟩)
 unfold Cal.TwoPost at cE;rw [hN9,hM9] at cE;obtain⟨A,hA⟩:=qQ (qaw a)
 obtain⟨D,hD⟩:=qQ (qaw b)
 have cE:∀V,Below W0.heap.size W0 V→Calls prog 199 #[.agg #[encS op,.string ⟨#[]⟩,.int .i64 0,.slice (some ⟨w.heap.size,0,none⟩) 2 2],.slice (some ⟨V.heap.size,0,none⟩) 2 2] (V.alloc (.cells #[.string ⟨#[109]⟩,encS A,.bool false,.slice none 0 0,.string ⟨#[110]⟩,encS D,.bool false,.slice none 0 0] 210)) fun e w'=>∃(A':Option Addr) (l c':Nat),e=.returned (.tuple #[.int .i64 N9,.slice A' l c',.int .i64 M9])∧Below (V.alloc (.cells #[.string ⟨#[109]⟩,encS A,.bool false,.slice none 0 0,.string ⟨#[110]⟩,encS D,.bool false,.slice none 0 0] 210)).heap.size (V.alloc (.cells #[.string ⟨#[109]⟩,encS A,.bool false,.slice none 0 0,.string ⟨#[110]⟩,encS D,.bool false,.slice none 0 0] 210)) w':=fun V hbV=>by
  have hn:=heap_alloc_new V (.cells #[.string ⟨#[109]⟩,encS A,.bool false,.slice none 0 0,.string ⟨#[110]⟩,encS D,.bool false,.slice none 0 0] 210)
  have hk:(V.alloc (.cells #[.string ⟨#[109]⟩,encS A,.bool false,.slice none 0 0,.string ⟨#[110]⟩,encS D,.bool false,.slice none 0 0] 210)).heap[w.heap.size]?=some (.cells #[.string ⟨#[]⟩,.string ⟨#[109]⟩,.int .i64 0,.slice none 0 0,.string ⟨#[]⟩,.string ⟨#[110]⟩,.int .i64 0,.slice none 0 0] 205 (0,0)):=
   (Below.heap_alloc _ _ _ (by have h1:=hbV.size;have h2:=lt_of_block b0;omega)).trans ((hbV.block _ (lt_of_block b0)).trans b0)
  subst hA hD;refine cE w.heap.size _ 2 [⟨Cal.mV a,none,0⟩,⟨Cal.nV b,none,0⟩] _ hk ⟨fun k hk2=>?_,fun x hx=>?_⟩ rfl
  ·have hk2:k<2:=hk2
   match k,hk2 with
   |0,_=>exact⟨_,0,rfl,trivial,(Lib.cell_of_heap hn 0).trans rfl,(Lib.cell_of_heap hn 1).trans rfl,(Lib.cell_of_heap hn 2).trans rfl,(Lib.cell_of_heap hn 3).trans rfl⟩
   |1,_=>exact⟨_,0,rfl,trivial,(Lib.cell_of_heap hn 4).trans rfl,(Lib.cell_of_heap hn 5).trans rfl,(Lib.cell_of_heap hn 6).trans rfl,(Lib.cell_of_heap hn 7).trans rfl⟩
  ·rcases List.mem_cons.1 hx with rfl|hx
   ·exact⟨fun k hk=>absurd hk (Nat.not_lt_zero _),⟨by show(1:Nat)≤_;decide,by show(qaw a).length≤_;omega,by show(0:Nat)*16≤_;decide,fun l hl=>by cases hl⟩⟩
   ·rcases List.mem_cons.1 hx with rfl|hx
    ·exact⟨fun k hk=>absurd hk (Nat.not_lt_zero _),⟨by show(1:Nat)≤_;decide,by show(qaw b).length≤_;omega,by show(0:Nat)*16≤_;decide,fun l hl=>by cases hl⟩⟩
    ·cases hx
 have hS:Cells [(⟨w.heap.size+1,0,none⟩,encS op),(⟨w.heap.size+1,1,none⟩,.string ⟨#[]⟩),(⟨w.heap.size+1,2,none⟩,.int .i64 0),(⟨w.heap.size+1,3,none⟩,.slice (some ⟨w.heap.size,0,none⟩) 2 2)] W0.drew:=fun z hz=>by
  rcases List.mem_cons.1 hz with rfl|hz
  ·exact(Lib.cell_of_heap b1 0).trans rfl
  rcases List.mem_cons.1 hz with rfl|hz
  ·exact(Lib.cell_of_heap b1 1).trans rfl
  rcases List.mem_cons.1 hz with rfl|hz
  ·exact(Lib.cell_of_heap b1 2).trans rfl
  rcases List.mem_cons.1 hz with rfl|hz
  ·exact(Lib.cell_of_heap b1 3).trans rfl
  ·cases hz
 have hBd:Below W0.heap.size W0 W0.drew:=(Below.refl _ W0).drew
 rw [hA] at p1 l1;rw [hD] at p2 l2;clear hA hD b0 b1 hB0 hN9 hM9 hbad;rcases h0 with ⟨rfl,h61⟩|⟨hne,rfl⟩
 ·have hs61:(Value.string ⟨#[61,61]⟩)=encS op:=by rw [h61]
  clear h61;go_enter func159,ntmps159;go_wp2_with fail;refine wp_region_held_drew (S:=Cells [(⟨w.heap.size+1,0,none⟩,encS op),(⟨w.heap.size+1,1,none⟩,.string ⟨#[]⟩),(⟨w.heap.size+1,2,none⟩,.int .i64 0),(⟨w.heap.size+1,3,none⟩,.slice (some ⟨w.heap.size,0,none⟩) 2 2)]) (by kernel_rfl) hS (fun _=>?_)
  refine qai 0 19 (.agg #[encS op,.string ⟨#[]⟩,.int .i64 0,.slice (some ⟨w.heap.size,0,none⟩) 2 2]) rfl rfl (Or.inl ⟨by rfl,fun w' hS'=>by have s0:=hS' _ (.head _);have s1:=hS' _ (.tail _ (.head _));have s2:=hS' _ (.tail _ (.tail _ (.head _)));have s3:=hS' _ (.tail _ (.tail _ (.tail _ (.head _))));dsimp only at s0 s1 s2 s3;go_simp⟩) hS ?_
  refine qaa 1 20 (.int .i64 a) rfl rfl hS ?_
  refine qaa 4 23 (.int .i64 b) rfl rfl hS ?_
  refine qae 2 rfl fun K hK=>?_
  go_simp;go_at_call 92
  refine(p1 _).mono ?_;rintro e w1⟨rfl,hb1⟩;have hS1:=hS.below hb1;have HB1:=hid (qT hBd hb1)
  clear hb1;go_wp2_with fail;refine qaE hK hS1 ?_
  clear hK K;refine qaa 3 22 (.agg #[.string ⟨#[109]⟩,encS A,.bool false,.slice none 0 0]) rfl rfl hS1 ?_
  refine qae 5 rfl fun K hK=>?_
  go_simp;go_at_call 92
  refine(p2 _).mono ?_;rintro e w2⟨rfl,hb2⟩;have hS2:=hS1.below hb2;have HB2:=qH HB1 hb2;clear hb2 HB1 hS1;go_wp2_with fail;refine qaE hK hS2 ?_
  clear hK K;refine qaa 6 25 (.agg #[.string ⟨#[110]⟩,encS D,.bool false,.slice none 0 0]) rfl rfl hS2 ?_
  refine qae 7 rfl fun K hK=>?_
  go_wp2_with fail;have hS3:=hS2.below ((Below.refl _ w2).alloc (Nat.le_refl _) (.cells #[.string ⟨#[109]⟩,encS A,.bool false,.slice none 0 0,.string ⟨#[110]⟩,encS D,.bool false,.slice none 0 0] 210))
  refine qaE hK hS3 ?_
  clear hK K;refine qae 8 rfl fun K hK=>?_
  have cE:=cE w2 HB2.out;go_simp;go_at_call 199
  refine cE.mono ?_;rintro e w3⟨A9,l9,k9,rfl,hb3⟩;have hS4:=hS3.below hb3;go_wp2_with fail;refine qaE hK hS4 ?_
  clear hK K;refine qaa 9 18 (.tuple #[.int .i64 N9,.slice A9 l9 k9,.int .i64 M9]) rfl rfl hS4 ?_
  refine qaa 10 28 (.int .i64 N9) rfl rfl hS4 ?_
  refine qaa 11 29 (.slice A9 l9 k9) rfl rfl hS4 ?_
  refine qaa 12 30 (.int .i64 M9) rfl rfl hS4 ?_
  refine qaa 13 8 (.int .i64 N9) rfl rfl hS4 ?_
  refine qaa 14 9 (.slice A9 l9 k9) rfl rfl hS4 ?_
  refine qaa 15 10 (.int .i64 M9) rfl rfl hS4 ?_
  refine wpAnyH_done (by kernel_rfl) ?_ _
  have HB3:=hid (HB.out.2.2.trans (((HB2.out.alloc HB2.out.size _).trans (hb3.mono (by have:=HB2.out.size;simp;omega))).mono (by have:=HB.out.2.2.size;omega)))
  clear hS hS2 hS3 hS4 hb3 cE;rcases HQ.out with ⟨hM,hq⟩|⟨hM,hq⟩
  ·have HQ2:=hid hq
   clear hq;subst hM;go_wp2_with fail;refine(qay _).mono ?_;rintro e w4⟨rfl,rfl⟩;go_wp2_with fail;go_ret;exact⟨HB3.out,.inl ⟨_,HQ2.out,rfl⟩⟩
  ·have hMb:(M9==0)=false:=by simpa using hM
   have HQ2:=hid hq;clear hq;go_wp2_with fail;refine(qau _).mono ?_;rintro e w4⟨rfl,rfl⟩;go_wp2_with fail;exact⟨rfl,HB3.out,.inr ⟨HQ2.out,rfl⟩⟩
 ·have hneb:(op==[61])=false:=by simpa using hne
  go_enter func159,ntmps159;go_wp2_with fail;refine wp_region_held_drew (S:=Cells [(⟨w.heap.size+1,0,none⟩,encS op),(⟨w.heap.size+1,1,none⟩,.string ⟨#[]⟩),(⟨w.heap.size+1,2,none⟩,.int .i64 0),(⟨w.heap.size+1,3,none⟩,.slice (some ⟨w.heap.size,0,none⟩) 2 2)]) (by kernel_rfl) hS (fun _=>?_)
  refine qai 0 19 (.agg #[encS op,.string ⟨#[]⟩,.int .i64 0,.slice (some ⟨w.heap.size,0,none⟩) 2 2]) rfl rfl (Or.inl ⟨by rfl,fun w' hS'=>by have s0:=hS' _ (.head _);have s1:=hS' _ (.tail _ (.head _));have s2:=hS' _ (.tail _ (.tail _ (.head _)));have s3:=hS' _ (.tail _ (.tail _ (.tail _ (.head _))));dsimp only at s0 s1 s2 s3;go_simp⟩) hS ?_
  refine qaa 1 20 (.int .i64 a) rfl rfl hS ?_
  refine qaa 4 23 (.int .i64 b) rfl rfl hS ?_
  refine qae 2 rfl fun K hK=>?_
  go_simp;go_at_call 92
  refine(p1 _).mono ?_;rintro e w1⟨rfl,hb1⟩;have hS1:=hS.below hb1;have HB1:=hid (qT hBd hb1)
  clear hb1;go_wp2_with fail;refine qaE hK hS1 ?_
  clear hK K;refine qaa 3 22 (.agg #[.string ⟨#[109]⟩,encS A,.bool false,.slice none 0 0]) rfl rfl hS1 ?_
  refine qae 5 rfl fun K hK=>?_
  go_simp;go_at_call 92
  refine(p2 _).mono ?_;rintro e w2⟨rfl,hb2⟩;have hS2:=hS1.below hb2;have HB2:=qH HB1 hb2;clear hb2 HB1 hS1;go_wp2_with fail;refine qaE hK hS2 ?_
  clear hK K;refine qaa 6 25 (.agg #[.string ⟨#[110]⟩,encS D,.bool false,.slice none 0 0]) rfl rfl hS2 ?_
  refine qae 7 rfl fun K hK=>?_
  go_wp2_with fail;have hS3:=hS2.below ((Below.refl _ w2).alloc (Nat.le_refl _) (.cells #[.string ⟨#[109]⟩,encS A,.bool false,.slice none 0 0,.string ⟨#[110]⟩,encS D,.bool false,.slice none 0 0] 210))
  refine qaE hK hS3 ?_
  clear hK K;refine qae 8 rfl fun K hK=>?_
  have cE:=cE w2 HB2.out;go_simp;go_at_call 199
  refine cE.mono ?_;rintro e w3⟨A9,l9,k9,rfl,hb3⟩;have hS4:=hS3.below hb3;go_wp2_with fail;refine qaE hK hS4 ?_
  clear hK K;refine qaa 9 18 (.tuple #[.int .i64 N9,.slice A9 l9 k9,.int .i64 M9]) rfl rfl hS4 ?_
  refine qaa 10 28 (.int .i64 N9) rfl rfl hS4 ?_
  refine qaa 11 29 (.slice A9 l9 k9) rfl rfl hS4 ?_
  refine qaa 12 30 (.int .i64 M9) rfl rfl hS4 ?_
  refine qaa 13 8 (.int .i64 N9) rfl rfl hS4 ?_
  refine qaa 14 9 (.slice A9 l9 k9) rfl rfl hS4 ?_
  refine qaa 15 10 (.int .i64 M9) rfl rfl hS4 ?_
  refine wpAnyH_done (by kernel_rfl) ?_ _
  have HB3:=hid (HB.out.2.2.trans (((HB2.out.alloc HB2.out.size _).trans (hb3.mono (by have:=HB2.out.size;simp;omega))).mono (by have:=HB.out.2.2.size;omega)))
  clear hS hS2 hS3 hS4 hb3 cE;rcases HQ.out with ⟨hM,hq⟩|⟨hM,hq⟩
  ·have HQ2:=hid hq
   clear hq;subst hM;go_wp2_with fail;refine(qay _).mono ?_;rintro e w4⟨rfl,rfl⟩;go_wp2_with fail;go_ret;exact⟨HB3.out,.inl ⟨_,HQ2.out,rfl⟩⟩
  ·have hMb:(M9==0)=false:=by simpa using hM
   have HQ2:=hid hq;clear hq;go_wp2_with fail;refine(qau _).mono ?_;rintro e w4⟨rfl,rfl⟩;go_wp2_with fail;exact⟨rfl,HB3.out,.inr ⟨HQ2.out,rfl⟩⟩
def qy4 (W:World) (N B:Nat) (C:Option Addr) (c:Nat) (o:List UInt8) (st:Int) (t:List ND) (rd:Bool) (r:List (List UInt8)) (inn:List UInt8) (n m:Int) (e:Ending) (w':World):Prop:=
 Kept B W w'∧((m≠0∧e=.panicked [qbH 2 0])∨(m=0∧e=.returned (.int .i64 n)∧∃R' d',JobAt w' N B C c R' d' o st t rd r inn))
section
variable {W:World} {N B:Nat} {C:Option Addr} {c:Nat} {R:Option Addr} {d:Nat} {o:List UInt8} {st:Int} {t:List ND} {rd:Bool} {l args:List (List UInt8)} {inn:List UInt8}
theorem qoE (name:List UInt8) (hn:name=[58]∨name=[116,114,117,101]) (h:JobAt W N B C c R d [] 0 t false args inn):
  Calls prog 14 #[.pointer (some ⟨B,0,none⟩),encS name] W fun e w'=>qfp W N B t inn (qbc name args inn t) e w':=by
 have hd:qbc name args inn t=qbJ t [] 0:=by rcases hn with rfl|rfl<;>rfl
 rw [hd];have H:=hid h;clear h hd;rcases hn with rfl|rfl
 all_goals
  go_enter func14,ntmps14;go_wp2_with fail;go_end0;exact⟨Kept.refl _ _,.inr ⟨rfl,rfl,_,_,_,_,_,H.out⟩⟩
theorem qs4 (h:JobAt W N B C c R d [] 0 t false args inn):
  Calls prog 14 #[.pointer (some ⟨B,0,none⟩),encS [102,97,108,115,101]] W fun e w'=>qfp W N B t inn (qbc [102,97,108,115,101] args inn t) e w':=by
 have hd:qbc [102,97,108,115,101] args inn t=qbJ t [] 1:=rfl
 rw [hd];have x2:=h.cells.2.2.1;have f2:=h.free 2;have H:=hid (h.set2 1)
 have HK:Hid (Kept B W (W.setCell ⟨B,2,none⟩ (.int .i64 1))):=hid ((Kept.refl _ _).setCell _ _)
 clear h hd;go_enter func14,ntmps14;go_wp2_with fail;go_end0;exact⟨HK.out,.inr ⟨rfl,rfl,_,_,_,_,_,H.out⟩⟩
theorem qcq (l:List UInt8):-9223372036854775808≤(qah l).1∧(qah l).1≤9223372036854775807:=by
 have hw:∀x:Int,-9223372036854775808≤wrap64 x∧wrap64 x≤9223372036854775807:=fun x=>by unfold wrap64;omega
 unfold qah qtb
 repeat' split
 all_goals first|exact hw _|exact⟨by decide,by decide⟩
theorem qqa (h:JobAt W N B C c R d o st t rd [] inn):Calls prog 91 #[.pointer (some ⟨B,5,none⟩)] W fun e w'=>e=.panicked [qbH 2 0]∧W=w':=by
 have cN:=qch h;clear h;go_enter func91,ntmps91;go_wp2_with fail;refine cN.mono ?_;rintro e w1⟨rfl,rfl⟩;go_wp2_with fail;exact⟨rfl,rfl,rfl⟩
theorem qcV {x:List UInt8} {r:List (List UInt8)} (h:JobAt W N B C c R d o st t rd (x::r) inn) (hr:r.length≤1099511627776) (hx:x.length≤1099511627776):
  Calls prog 91 #[.pointer (some ⟨B,5,none⟩)] W fun e w'=>qy4 W N B C c o st t rd r inn (qah x).1 (qah x).2 e w':=by
 have cN:=qaz h hr;have cP:=fun w=>qb0 x w (by omega)
 generalize (qah x).1=n at *;generalize (qah x).2=m at *;clear h;go_enter func91,ntmps91;go_wp2_with fail;refine cN.mono ?_;rintro e w1⟨rfl,⟨R1,d1,hJ⟩,hk⟩;clear cN;go_wp2_with fail;refine(cP _).mono ?_;rintro e w2⟨rfl,hb⟩;have HK:=hid (hk.trans (Kept.of_below hb))
 have HJ:=hid (hJ.below hb)
 clear hk hJ hb;by_cases h0:m=0
 ·subst h0
  go_wp2_with fail;refine(qay _).mono ?_;rintro e w3⟨rfl,rfl⟩;go_wp2_with fail;go_ret;exact⟨HK.out,.inr ⟨rfl,rfl,R1,d1,HJ.out⟩⟩
 ·have h1:(m==0)=false:=by simpa using h0
  have HM:=hid h0;clear h0;go_wp2_with fail;refine(qau _).mono ?_;rintro e w3⟨rfl,rfl⟩;go_wp2_with fail;exact⟨rfl,HK.out,.inl ⟨HM.out,rfl⟩⟩
end
end Go.Proofs.YtpodopnmkjinhaaGreatDoor
namespace Go.Proofs.YtpodopnmkjinhaaGreatDoor
open Go.RowKit Go.Sort
def nmP (n:Bool) (x:List UInt8):Int×List UInt8:=if n then((if(qf8 x).1 then -((qf8 x).2.length:Int) else((qf8 x).2.length:Int)),(qf8 x).2) else(0,[])
def encR (n:Bool) (x:List UInt8):List Value:=[.int .i64 (nmP n x).1,encS (nmP n x).2,encS x]
def qqN (a b:Int×List UInt8):Int:=if Lib.compareInt a.1 b.1=0 then(if a.1<0 then Lib.compareBytes b.2 a.2 else Lib.compareBytes a.2 b.2) else Lib.compareInt a.1 b.1
def qtT (n:Bool) (x y:List UInt8):Int:=if qqN (nmP n x) (nmP n y)=0 then Lib.compareBytes x y else qqN (nmP n x) (nmP n y)
def qqO (r n:Bool) (x y:List UInt8):Int:=if r then qtT n y x else qtT n x y
theorem qhx:∀x y:List UInt8,Lib.compareBytes x y<0↔x<y
 |[],[]=>by simp [Lib.compareBytes]
 |[],_::_=>by simp [Lib.compareBytes]
 |_::_,[]=>by simp [Lib.compareBytes]
 |a::x,b::y=>by
  rw [List.cons_lt_cons_iff];unfold Lib.compareBytes;by_cases h:a<b
  ·simp [h]
  ·by_cases h2:b<a
   ·have hne:a≠b:=fun e=>by subst e;exact h h2
    simp [h,h2,hne]
   ·have he:a=b:=UInt8.le_antisymm (UInt8.not_lt.1 h2) (UInt8.not_lt.1 h)
    subst he;simp only [h,if_false,false_or,true_and]
    exact qhx x y
theorem cmp_eq:∀x y:List UInt8,Lib.compareBytes x y=0↔x=y
 |[],[]=>by simp [Lib.compareBytes]
 |[],_::_=>by simp [Lib.compareBytes]
 |_::_,[]=>by simp [Lib.compareBytes]
 |a::x,b::y=>by
  rw [List.cons.injEq];unfold Lib.compareBytes;by_cases h:a<b
  ·have hne:a≠b:=fun e=>by subst e;exact UInt8.lt_irrefl _ h
   simp [h,hne]
  ·by_cases h2:b<a
   ·have hne:a≠b:=fun e=>by subst e;exact h h2
    simp [h,h2,hne]
   ·have he:a=b:=UInt8.le_antisymm (UInt8.not_lt.1 h2) (UInt8.not_lt.1 h)
    subst he;simp only [h,if_false,true_and]
    exact cmp_eq x y
theorem qke (a b:Int):Lib.compareInt a b<0↔a<b:=by
 unfold Lib.compareInt;split
 ·simp_all
 ·split<;>simp_all
theorem qdl (a b:Int):Lib.compareInt a b=0↔a=b:=by
 unfold Lib.compareInt;split
 ·simp;omega
 ·split
  ·simp;omega
  ·simp;omega
theorem qvp (x y:List UInt8):(qqN (nmP true x) (nmP true y)<0↔qkQ x<qkQ y)∧(qqN (nmP true x) (nmP true y)=0↔qkQ x=qkQ y):=by
 obtain⟨cx,nx⟩:=qfN x;obtain⟨cy,ny⟩:=qfN y;have l1:=qeN cx cy;have l2:=qeN cy cx;have li:=fun h=>qtI cx cy h
 have px:=fun h=>qkF cx (nx h)
 have py:=fun h=>qkF cy (ny h)
 unfold qqN nmP qkQ;simp only [if_true]
 generalize (qf8 x).1=a at *;generalize (qf8 y).1=b at *;generalize (qf8 x).2=d at *;generalize (qf8 y).2=e at *;have hd:a=true→0<d.length:=fun h=>List.length_pos_iff.2 (nx h)
 have he:b=true→0<e.length:=fun h=>List.length_pos_iff.2 (ny h)
 have hdl:d.length=e.length→(d<e↔qdX d<qdX e):=fun h=>by
  rw [← l1];exact⟨fun q=>.inr ⟨h,q⟩,fun q=>q.elim (fun q=>by omega) And.right⟩
 have hel:d.length=e.length→(e<d↔qdX e<qdX d):=fun h=>by
  rw [← l2];exact⟨fun q=>.inr ⟨h.symm,q⟩,fun q=>q.elim (fun q=>by omega) And.right⟩
 have hv:d=e↔qdX d=qdX e:=⟨fun h=>by rw [h],li⟩
 have k1:d.length<e.length→qdX d<qdX e:=fun h=>l1.1 (.inl h)
 have k2:e.length<d.length→qdX e<qdX d:=fun h=>l2.1 (.inl h)
 cases a<;>cases b
 ·simp only [Bool.false_eq_true,if_false]
  by_cases h:d.length=e.length
  ·have h0:Lib.compareInt (d.length:Int) (e.length:Int)=0:=(qdl _ _).2 (by omega)
   rw [if_pos h0,if_neg (by omega),qhx,cmp_eq,hdl h,hv];constructor<;>omega
  ·have h0:¬Lib.compareInt (d.length:Int) (e.length:Int)=0:=fun q=>h (by have:=(qdl _ _).1 q;omega)
   rw [if_neg h0,qke,qdl];constructor
   ·constructor
    ·intro q;have:=k1 (by omega);omega
    ·intro q;by_cases hh:e.length<d.length
     ·have:=k2 hh;omega
     ·omega
   ·constructor
    ·intro q;omega
    ·intro q
     by_cases hh:e.length<d.length
     ·have:=k2 hh;omega
     ·have:=k1 (by omega);omega
 ·have h1:=he rfl
  have h2:=py rfl;simp only [Bool.false_eq_true,if_false,if_true]
  have h0:¬Lib.compareInt (d.length:Int) (-(e.length:Int))=0:=fun q=>by have:=(qdl _ _).1 q;omega
  rw [if_neg h0,qke,qdl];constructor<;>omega
 ·have h1:=hd rfl
  have h2:=px rfl;simp only [Bool.false_eq_true,if_false,if_true]
  have h0:¬Lib.compareInt (-(d.length:Int)) (e.length:Int)=0:=fun q=>by have:=(qdl _ _).1 q;omega
  rw [if_neg h0,qke,qdl];constructor<;>omega
 ·have h1:=hd rfl
  have h2:=he rfl;simp only [if_true]
  by_cases h:d.length=e.length
  ·have h0:Lib.compareInt (-(d.length:Int)) (-(e.length:Int))=0:=(qdl _ _).2 (by omega)
   rw [if_pos h0,if_pos (by omega),qhx,cmp_eq,hel h,eq_comm,hv];constructor<;>omega
  ·have h0:¬Lib.compareInt (-(d.length:Int)) (-(e.length:Int))=0:=fun q=>h (by have:=(qdl _ _).1 q;omega)
   rw [if_neg h0,qke,qdl];constructor
   ·constructor
    ·intro q;have:=k2 (by omega);omega
    ·intro q;by_cases hh:e.length<d.length
     ·omega
     ·have:=k1 (by omega);omega
   ·constructor
    ·intro q;omega
    ·intro q
     by_cases hh:e.length<d.length
     ·have:=k2 hh;omega
     ·have:=k1 (by omega);omega
theorem qs0 (n:Bool) (x y:List UInt8):qtT n x y<0↔qkk n x y=true:=by
 cases n
 ·have h:qqN (nmP false x) (nmP false y)=0:=rfl
  unfold qtT qkk;rw [if_pos h,qhx,if_neg (by decide),bytesLess_eq];simp
 ·obtain⟨h1,h2⟩:=qvp x y
  rw [qfG];unfold qtT;split
  ·rename_i h
   have:=h2.1 h
   rw [qhx];constructor
   ·intro q;exact .inr ⟨this,q⟩
   ·rintro(q|⟨-,q⟩)
    ·omega
    ·exact q
  ·rename_i h
   have hn:¬qkQ x=qkQ y:=fun q=>h (h2.2 q)
   rw [h1];constructor
   ·exact .inl
   ·rintro(q|⟨q,-⟩)
    ·exact q
    ·exact absurd q hn
theorem qlE (r n:Bool) (x y:List UInt8):ltOf (qqO r n) x y=qdZ r n x y:=by
 unfold ltOf qqO qdZ;rw [Bool.eq_iff_iff,decide_eq_true_iff];cases r
 ·exact qs0 n x y
 ·exact qs0 n y x
theorem qxU (r n:Bool):SWO (ltOf (qqO r n)) where
 irrefl x:=by
  rw [qlE];cases h:qdZ r n x x
  ·rfl
  ·exact absurd ((qdQ r n).asymm _ _ h) (by rw [h];decide)
 trans x y z h1 h2:=by
  rw [qlE] at *;exact(qdQ r n).trans _ _ _ h1 h2
 ntrans x y z h1 h2:=by
  rw [qlE] at *;exact qtx (qdQ r n) h2 h1
theorem qs2 (r n:Bool) (x y:List UInt8) (h1:ltOf (qqO r n) x y=false) (h2:ltOf (qqO r n) y x=false):x=y:=by
 rw [qlE] at *;exact(qdQ r n).tri _ _ h1 h2
theorem qnv (r n:Bool) (s:List UInt8):∀x∈qeR r n (qav s),∀c∈x,c≠10:=fun x hx=>qm1 s x ((qeK r n _).mem_iff.1 hx)
def oneOf (u:Bool) (L:List (List UInt8)):List (List UInt8):=if u then qaI L else L
theorem qth (s:List UInt8) (r u n:Bool):qnu s r u n=qax (oneOf u (qeR r n (qav s))):=by
 unfold qnu oneOf;cases u
 ·rfl
 ·show qkD _=qax (qaI _)
  unfold qkD;rw [qjn _ (qnv r n s)]
end Go.Proofs.YtpodopnmkjinhaaGreatDoor
namespace Go.Proofs.YtpodopnmkjinhaaGreatDoor
open Go.Lib (hid)
open Go.RowKit
def qhh:Except Int Int→Option Int|.ok n=>some n|.error _=>none
noncomputable def qwd (a op b:List UInt8):Option Int:=
 match (if(qah a).2=0∧(qah b).2=0 then qv8 op (qah a).1 (qah b).1 else qub op a b) with
 |some c=>some (if c then 1 else 0)
 |none=>if(qah a).2=0∧(qah b).2=0 then qoU op (qah a).1 (qah b).1 else none
theorem quu (t:List ND) (a op b:List UInt8):qhL t [a,op,b]=match qwd a op b with|some n=>qbJ t (qaw n++[10]) (if n=0 then 1 else 0)|none=>qaL t:=by
 unfold qwd;show(match (if(qah a).2=0∧(qah b).2=0 then qv8 op (qah a).1 (qah b).1 else qub op a b) with
  |some c=>qbJ t (qaw (if c then 1 else 0)++[10]) (if c then 0 else 1)
  |none=>if(qah a).2=0∧(qah b).2=0 then(match qoU op (qah a).1 (qah b).1 with|some n=>qbJ t (qaw n++[10]) (if n=0 then 1 else 0)|none=>qaL t) else qaL t)=_
 cases (if(qah a).2=0∧(qah b).2=0 then qv8 op (qah a).1 (qah b).1 else qub op a b) with
 |some c=>cases c<;>rfl
 |none=>
  dsimp only
  split
  ·rfl
  ·rfl
def qj8 (op:List UInt8):List UInt8:=if op=[61] then [61,61] else op
def qdb:List (List UInt8):=[[43],[45],[42],[47],[37]]
def qcA:List (List UInt8):=[[61],[33,61],[60],[60,61],[62],[62,61]]
theorem qxZ {a b:Int} (_ha:Cal.R64' a) (hb:Cal.R64' b) (h0:b≠0):wrap64 (a.tmod b)=a.tmod b:=by
 have h:=Int.natAbs_tmod a b;have h1:a.natAbs%b.natAbs<b.natAbs:=Nat.mod_lt _ (by omega)
 have h2:(a.tmod b).natAbs<b.natAbs:=by rw [h];exact h1
 obtain⟨b1,b2⟩:=hb;exact qf6 (by omega) (by omega)
theorem qqW {op:List UInt8} (h:op∈qdb) {m n:Int} (hm:Cal.R64' m) (hn:Cal.R64' n):(∀x y,qv8 op x y=none)∧(∀x y,qub op x y=none)∧qoU op m n=qhh (Cal.joinedE op m n):=by
 unfold qdb at h;simp only [List.mem_cons,List.not_mem_nil,or_false] at h
 rcases h with rfl|rfl|rfl|rfl|rfl<;>refine⟨fun _ _=>rfl,fun x y=>by simp [qub],?_⟩
 ·rfl
 ·rfl
 ·rfl
 ·by_cases h0:n=0
  ·simp [qoU,Cal.joinedE,h0,qhh]
  ·simp [qoU,Cal.joinedE,h0,qhh]
 ·by_cases h0:n=0
  ·simp [qoU,Cal.joinedE,h0,qhh]
  ·simp [qoU,Cal.joinedE,h0,qhh,qxZ hm hn h0]
theorem qxv {op:List UInt8} (h:op∈qcA) (m n:Int):∃c,qv8 op m n=some c∧qhh (Cal.joinedE (qj8 op) m n)=some (if c then 1 else 0):=by
 unfold qcA at h;simp only [List.mem_cons,List.not_mem_nil,or_false] at h
 rcases h with rfl|rfl|rfl|rfl|rfl|rfl
 ·refine⟨_,rfl,?_⟩
  by_cases e:m=n<;>simp [Cal.joinedE,qj8,qhh,Cal.truthI,e]
 ·refine⟨_,rfl,?_⟩
  by_cases e:m=n<;>simp [Cal.joinedE,qj8,qhh,Cal.truthI,e]
 ·exact⟨_,rfl,rfl⟩
 ·exact⟨_,rfl,rfl⟩
 ·exact⟨_,rfl,rfl⟩
 ·exact⟨_,rfl,rfl⟩
theorem qnV:∀x y:List UInt8,Cal.R64' (Lib.compareBytes x y)
 |[],[]=>by unfold Lib.compareBytes Cal.R64';omega
 |[],_::_=>by unfold Lib.compareBytes Cal.R64';omega
 |_::_,[]=>by unfold Lib.compareBytes Cal.R64';omega
 |a::x,b::y=>by
  have ih:=qnV x y;unfold Lib.compareBytes;split
  ·unfold Cal.R64';omega
  ·split
   ·unfold Cal.R64';omega
   ·exact ih
theorem qrb (x y:List UInt8):0<Lib.compareBytes x y↔y<x:=by
 have h1:=qhx x y;have h2:=cmp_eq x y;constructor
 ·intro h
  have a1:¬x<y:=fun e=>by have:=h1.2 e;omega
  have a2:¬x=y:=fun e=>by have:=h2.2 e;omega
  rcases List.le_total x y with e|e
  ·exact absurd (List.le_antisymm e (List.not_lt.1 a1)) a2
  ·exact List.not_le.1 fun q=>a2 (List.le_antisymm q e)
 ·intro h
  have a1:¬x<y:=List.not_lt.2 (List.le_of_lt h)
  have a2:¬x=y:=fun e=>by subst e;exact List.lt_irrefl _ h
  have b1:¬Lib.compareBytes x y<0:=fun e=>a1 (h1.1 e)
  have b2:¬Lib.compareBytes x y=0:=fun e=>a2 (h2.1 e)
  omega
theorem qvl {op:List UInt8} (h:op∈qcA) (x y:List UInt8):∃c,qub op x y=some c∧qhh (Cal.joinedE (qj8 op) (Lib.compareBytes x y) 0)=some (if c then 1 else 0):=by
 have h1:=qhx x y;have h2:=cmp_eq x y;have h3:=qrb x y;generalize Lib.compareBytes x y=k at *;unfold qcA at h;simp only [List.mem_cons,List.not_mem_nil,or_false] at h
 rcases h with rfl|rfl|rfl|rfl|rfl|rfl
 ·refine⟨_,rfl,?_⟩
  by_cases e:x=y
  ·simp [Cal.joinedE,qj8,qhh,Cal.truthI,e,h2.2 e]
  ·have:¬k=0:=fun q=>e (h2.1 q)
   simp [Cal.joinedE,qj8,qhh,Cal.truthI,e,this]
 ·refine⟨_,rfl,?_⟩
  by_cases e:x=y
  ·simp [Cal.joinedE,qj8,qhh,Cal.truthI,e,h2.2 e]
  ·have:¬k=0:=fun q=>e (h2.1 q)
   simp [Cal.joinedE,qj8,qhh,Cal.truthI,e,this]
 ·refine⟨_,rfl,?_⟩
  by_cases e:x<y
  ·simp [Cal.joinedE,qj8,qhh,Cal.truthI,e,h1.2 e]
  ·have:¬k<0:=fun q=>e (h1.1 q)
   simp [Cal.joinedE,qj8,qhh,Cal.truthI,e,this]
 ·refine⟨_,rfl,?_⟩
  by_cases e:y<x
  ·have e2:¬x≤y:=fun q=>List.not_lt.2 q e
   have:¬k≤0:=by have:=h3.2 e;omega
   simp [Cal.joinedE,qj8,qhh,Cal.truthI,e2,this]
  ·have e2:x≤y:=List.not_lt.1 e
   have:k≤0:=by have:¬0<k:=fun q=>e (h3.1 q);omega
   simp [Cal.joinedE,qj8,qhh,Cal.truthI,e2,this]
 ·refine⟨_,rfl,?_⟩
  by_cases e:y<x
  ·simp [Cal.joinedE,qj8,qhh,Cal.truthI,e,h3.2 e]
  ·have:¬0<k:=fun q=>e (h3.1 q)
   simp [Cal.joinedE,qj8,qhh,Cal.truthI,e,this]
 ·refine⟨_,rfl,?_⟩
  by_cases e:x<y
  ·have e2:¬y≤x:=fun q=>List.not_lt.2 q e
   have:¬0≤k:=by have:=h1.2 e;omega
   simp [Cal.joinedE,qj8,qhh,Cal.truthI,e2,this]
  ·have e2:y≤x:=List.not_lt.1 e
   have:0≤k:=by have:¬k<0:=fun q=>e (h1.1 q);omega
   simp [Cal.joinedE,qj8,qhh,Cal.truthI,e2,this]
theorem qju {op:List UInt8} (h1:op∉qdb) (h2:op∉qcA):(∀x y,qv8 op x y=none)∧(∀x y,qub op x y=none)∧∀m n,qoU op m n=none:=by
 unfold qdb at h1;unfold qcA at h2;simp only [List.mem_cons,List.not_mem_nil,or_false,not_or] at h1 h2
 obtain⟨a1,a2,a3,a4,a5⟩:=h1;obtain⟨b1,b2,b3,b4,b5,b6⟩:=h2;refine⟨fun _ _=>?_,fun _ _=>?_,fun _ _=>?_⟩
 ·unfold qv8;rw [if_neg b1,if_neg b2,if_neg b3,if_neg b4,if_neg b5,if_neg b6]
 ·unfold qub;rw [if_neg b1,if_neg b2,if_neg b3,if_neg b4,if_neg b5,if_neg b6]
 ·unfold qoU;rw [if_neg a1,if_neg a2,if_neg a3,if_neg a4,if_neg a5]
theorem qyC {op:List UInt8} (h:op∈qdb):(op≠[61]∧op=op)∧op∈qfb:=by
 unfold qdb at h;simp only [List.mem_cons,List.not_mem_nil,or_false] at h
 rcases h with rfl|rfl|rfl|rfl|rfl<;>exact⟨⟨by decide,rfl⟩,by decide⟩
theorem qwb {op:List UInt8} (h:op∈qcA):((op=[61]∧qj8 op=[61,61])∨(op≠[61]∧qj8 op=op))∧qj8 op∈qfb:=by
 unfold qcA at h;simp only [List.mem_cons,List.not_mem_nil,or_false] at h
 rcases h with rfl|rfl|rfl|rfl|rfl|rfl
 ·exact⟨.inl ⟨rfl,rfl⟩,by decide⟩
 all_goals exact⟨.inr ⟨by decide,rfl⟩,by decide⟩
def qb7 (w:World) (q:Option Int) (e:Ending) (w':World):Prop:=Below w.heap.size w w'∧((∃n,q=some n∧e=.returned (.int .i64 n))∨(q=none∧e=.panicked [qbH 2 0]))
theorem qb7.of {w V w':World} {q:Except Int Int} {e:Ending} (hb:Below w.heap.size w V) (h:qg5 V q e w'):qb7 w (qhh q) e w':=by
 refine⟨hb.trans (h.1.mono hb.size),?_⟩
 rcases h.2 with ⟨n,rfl,he⟩|⟨⟨m,rfl⟩,he⟩
 ·exact .inl ⟨n,rfl,he⟩
 ·exact .inr ⟨rfl,he⟩
theorem qrz (op:List UInt8) (hop:op∈qdb∨op∈qcA) (a b:List UInt8) (m n:Int) (w:World)
  (cA:∀W,Calls prog 112 #[encS a] W fun e w'=>e=.returned (.tuple #[.int .i64 m,.int .i64 0])∧Below W.heap.size W w') (cB:∀W,Calls prog 112 #[encS b] W fun e w'=>e=.returned (.tuple #[.int .i64 n,.int .i64 0])∧Below W.heap.size W w')
  (q:Except Int Int) (cW:∀W,Calls prog 159 #[encS op,.int .i64 m,.int .i64 n] W fun e w'=>qg5 W q e w'):
  Calls prog 94 #[encS a,encS op,encS b] w fun e w'=>qb7 w (qhh q) e w':=by
 unfold qdb qcA at hop;simp only [List.mem_cons,List.not_mem_nil,or_false] at hop
 rcases hop with (rfl|rfl|rfl|rfl|rfl)|rfl|rfl|rfl|rfl|rfl|rfl
 all_goals
  go_enter func94,ntmps94;go_wp2_with fail;refine(cA _).mono ?_;rintro e w1⟨rfl,hb1⟩;have HB1:=hid hb1;clear hb1;go_wp2_with fail;refine(cB _).mono ?_;rintro e w2⟨rfl,hb2⟩;have HB2:=qH HB1 hb2;clear hb2;go_wp2_with (go_at_call 30;refine(qay _).mono ?_;rintro e w3 ⟨rfl,rfl⟩)
  refine(cW _).mono ?_;intro e w3 hw
  have hf:=qb7.of HB2.out hw;rcases hw with ⟨hb3,⟨v,rfl,rfl⟩|⟨⟨v,rfl⟩,rfl⟩⟩
  ·have HF:=hid hf
   clear hf hb3;go_wp2_with fail;go_ret;exact HF.out
  ·have HF:=hid hf
   clear hf hb3;go_wp2_with fail;exact⟨rfl,HF.out⟩
theorem quz (op:List UInt8) (hop:op∈qcA) (a b:List UInt8) (m n e0 f0:Int) (hn:¬(e0=0∧f0=0)) (w:World)
  (cA:∀W,Calls prog 112 #[encS a] W fun e w'=>e=.returned (.tuple #[.int .i64 m,.int .i64 e0])∧Below W.heap.size W w') (cB:∀W,Calls prog 112 #[encS b] W fun e w'=>e=.returned (.tuple #[.int .i64 n,.int .i64 f0])∧Below W.heap.size W w')
  (k:Int) (cC:∀W,Calls prog 158 #[encS a,encS b] W fun r w'=>r=.returned (.int .i64 k)∧w'=W)
  (q:Except Int Int) (cW:∀W,Calls prog 159 #[encS op,.int .i64 k,.int .i64 0] W fun e w'=>qg5 W q e w'):
  Calls prog 94 #[encS a,encS op,encS b] w fun e w'=>qb7 w (qhh q) e w':=by
 have hcs:(e0==0)=false∨((e0==0)=true∧(f0==0)=false):=by
  by_cases h:e0=0
  ·exact .inr ⟨by simpa using h,by simpa using fun q=>hn ⟨h,q⟩⟩
  ·exact .inl (by simpa using h)
 clear hn;unfold qcA at hop;simp only [List.mem_cons,List.not_mem_nil,or_false] at hop
 rcases hcs with h1|⟨h1,h2⟩<;>rcases hop with rfl|rfl|rfl|rfl|rfl|rfl
 all_goals
  go_enter func94,ntmps94;go_wp2_with fail;refine(cA _).mono ?_;rintro e w1⟨rfl,hb1⟩;have HB1:=hid hb1;clear hb1;go_wp2_with fail;refine(cB _).mono ?_;rintro e w2⟨rfl,hb2⟩;have HB2:=qH HB1 hb2;clear hb2;go_wp2_with fail;refine(cC _).mono ?_;rintro e w3⟨rfl,rfl⟩;go_wp2_with fail;refine(cW _).mono ?_;intro e w4 hw
  have hf:=qb7.of HB2.out hw;rcases hw with ⟨hb3,⟨v,rfl,rfl⟩|⟨⟨v,rfl⟩,rfl⟩⟩
  ·have HF:=hid hf
   clear hf hb3;go_wp2_with fail;go_ret;exact HF.out
  ·have HF:=hid hf
   clear hf hb3;go_wp2_with fail;exact⟨rfl,HF.out⟩
theorem qwS (op:List UInt8) (hop:op∈qdb) (a b:List UInt8) (m n e0 f0:Int) (hn:¬(e0=0∧f0=0)) (w:World)
  (cA:∀W,Calls prog 112 #[encS a] W fun e w'=>e=.returned (.tuple #[.int .i64 m,.int .i64 e0])∧Below W.heap.size W w') (cB:∀W,Calls prog 112 #[encS b] W fun e w'=>e=.returned (.tuple #[.int .i64 n,.int .i64 f0])∧Below W.heap.size W w'):
  Calls prog 94 #[encS a,encS op,encS b] w fun e w'=>qb7 w none e w':=by
 have hcs:(e0==0)=false∨((e0==0)=true∧(f0==0)=false):=by
  by_cases h:e0=0
  ·exact .inr ⟨by simpa using h,by simpa using fun q=>hn ⟨h,q⟩⟩
  ·exact .inl (by simpa using h)
 clear hn;unfold qdb at hop;simp only [List.mem_cons,List.not_mem_nil,or_false] at hop
 rcases hcs with h1|⟨h1,h2⟩<;>rcases hop with rfl|rfl|rfl|rfl|rfl
 all_goals
  go_enter func94,ntmps94;go_wp2_with fail;refine(cA _).mono ?_;rintro e w1⟨rfl,hb1⟩;have HB1:=hid hb1;clear hb1;go_wp2_with fail;refine(cB _).mono ?_;rintro e w2⟨rfl,hb2⟩;have HB2:=qH HB1 hb2;clear hb2;go_wp2_with fail;refine(qau _).mono ?_;rintro e w3⟨rfl,rfl⟩;go_wp2_with fail;exact⟨rfl,HB2.out,.inr ⟨rfl,rfl⟩⟩
theorem qlf (op:List UInt8) (h1:op∉qdb) (h2:op∉qcA) (a b:List UInt8) (m n e0 f0:Int) (w:World)
  (cA:∀W,Calls prog 112 #[encS a] W fun e w'=>e=.returned (.tuple #[.int .i64 m,.int .i64 e0])∧Below W.heap.size W w') (cB:∀W,Calls prog 112 #[encS b] W fun e w'=>e=.returned (.tuple #[.int .i64 n,.int .i64 f0])∧Below W.heap.size W w'):
  Calls prog 94 #[encS a,encS op,encS b] w fun e w'=>qb7 w none e w':=by
 unfold qdb at h1;unfold qcA at h2;simp only [List.mem_cons,List.not_mem_nil,or_false,not_or] at h1 h2
 obtain⟨a1,a2,a3,a4,a5⟩:=h1;obtain⟨b1,b2,b3,b4,b5,b6⟩:=h2;have a1:(op==[43])=false:=by simpa using a1
 have a2:(op==[45])=false:=by simpa using a2
 have a3:(op==[42])=false:=by simpa using a3
 have a4:(op==[47])=false:=by simpa using a4
 have a5:(op==[37])=false:=by simpa using a5
 have b1:(op==[61])=false:=by simpa using b1
 have b2:(op==[33,61])=false:=by simpa using b2
 have b3:(op==[60])=false:=by simpa using b3
 have b4:(op==[60,61])=false:=by simpa using b4
 have b5:(op==[62])=false:=by simpa using b5
 have b6:(op==[62,61])=false:=by simpa using b6
 have hcs:(e0==0)=false∨(e0==0)=true:=by cases (e0==0)<;>simp
 rcases hcs with h1|h1
 all_goals
  go_enter func94,ntmps94;go_wp2_with fail;refine(cA _).mono ?_;rintro e w1⟨rfl,hb1⟩;have HB1:=hid hb1;clear hb1;go_wp2_with fail;refine(cB _).mono ?_;rintro e w2⟨rfl,hb2⟩;have HB2:=qH HB1 hb2;clear hb2;go_wp2_with fail;refine(qau _).mono ?_;rintro e w3⟨rfl,rfl⟩;go_wp2_with fail;exact⟨rfl,HB2.out,.inr ⟨rfl,rfl⟩⟩
theorem qpu (a op b:List UInt8) (w:World) (ha:a.length≤1099511627776) (hb:b.length≤1099511627776):
  Calls prog 94 #[encS a,encS op,encS b] w fun e w'=>qb7 w (qwd a op b) e w':=by
 have cA:=fun W=>qb0 a W (by omega)
 have cB:=fun W=>qb0 b W (by omega)
 have ra:=qcq a;have rb:=qcq b;have cC:∀W,Calls prog 158 #[encS a,encS b] W fun r w'=>r=.returned (.int .i64 (Lib.compareBytes a b))∧w'=W:=fun W=>by
  have h:=Tryz.strings_Compare ⟨a.toArray⟩ ⟨b.toArray⟩ W
  rwa [show Lib.compareBytes (⟨a.toArray⟩:ByteArray).data.toList (⟨b.toArray⟩:ByteArray).data.toList=Lib.compareBytes a b by simp] at h
 unfold qwd;by_cases hn:(qah a).2=0∧(qah b).2=0
 ·rw [if_pos hn,if_pos hn]
  rw [hn.1] at cA;rw [hn.2] at cB;by_cases h1:op∈qdb
  ·obtain⟨e1,-,e3⟩:=qqW h1 (m:=(qah a).1) (n:=(qah b).1) ra rb
   obtain⟨g1,g2⟩:=qyC h1;rw [e1];show Calls _ _ _ _ fun e w'=>qb7 w (qoU op (qah a).1 (qah b).1) e w'
   rw [e3];exact qrz op (.inl h1) a b _ _ w cA cB _ fun W=>qgE op op (.inr g1) g2 _ _ ra rb W
  ·by_cases h2:op∈qcA
   ·obtain⟨c,e1,e2⟩:=qxv h2 (qah a).1 (qah b).1
    obtain⟨g1,g2⟩:=qwb h2;rw [e1];show Calls _ _ _ _ fun e w'=>qb7 w (some (if c then 1 else 0)) e w'
    rw [← e2];exact qrz op (.inr h2) a b _ _ w cA cB _ fun W=>qgE op _ g1 g2 _ _ ra rb W
   ·obtain⟨e1,-,e3⟩:=qju h1 h2
    rw [e1];show Calls _ _ _ _ fun e w'=>qb7 w (qoU op (qah a).1 (qah b).1) e w'
    rw [e3];exact qlf op h1 h2 a b _ _ _ _ w cA cB
 ·rw [if_neg hn,if_neg hn]
  by_cases h1:op∈qdb
  ·obtain⟨-,e2,-⟩:=qqW h1 (m:=(qah a).1) (n:=(qah b).1) ra rb
   rw [e2];exact qwS op h1 a b _ _ _ _ hn w cA cB
  ·by_cases h2:op∈qcA
   ·obtain⟨c,e1,e2⟩:=qvl h2 a b
    obtain⟨g1,g2⟩:=qwb h2;rw [e1];show Calls _ _ _ _ fun e w'=>qb7 w (some (if c then 1 else 0)) e w'
    rw [← e2];exact quz op h2 a b _ _ _ _ hn w cA cB _ cC _ fun W=>qgE op _ g1 g2 _ _ (qnV a b) (by unfold Cal.R64';omega) W
   ·obtain⟨-,e2,-⟩:=qju h1 h2
    rw [e2];exact qlf op h1 h2 a b _ _ _ _ w cA cB
section
variable {W:World} {N B:Nat} {C:Option Addr} {c:Nat} {R:Option Addr} {d:Nat} {t:List ND} {args:List (List UInt8)} {inn:List UInt8}
theorem qha (t:List ND) (args:List (List UInt8)) (h:∀a op b,args≠[a,op,b]):qhL t args=qaL t:=by
 unfold qhL;split
 ·exact absurd rfl (h _ _ _)
 ·rfl
theorem qv5 (x:Int):Cal.R64' (wrap64 x):=by unfold Cal.R64' wrap64;omega
theorem qx3 {op:List UInt8} {x y n:Int} (h:qoU op x y=some n):Cal.R64' n:=by
 unfold qoU at h
 repeat' split at h
 all_goals first|(cases h;done)|(cases h;exact qv5 _)
theorem qwT {a op b:List UInt8} {n:Int} (h:qwd a op b=some n):Cal.R64' n:=by
 unfold qwd at h;split at h
 ·rename_i c _
  cases h
  cases c
  ·unfold Cal.R64';simp
  ·unfold Cal.R64';simp
 ·split at h
  ·exact qx3 h
  ·cases h
theorem qjZ (x y z:List UInt8) (h:JobAt W N B C c R d [] 0 t false [x,y,z] inn) (hx:x.length≤1099511627776) (hz:z.length≤1099511627776):
  Calls prog 40 #[.pointer (some ⟨B,0,none⟩)] W fun e w'=>qfp W N B t inn (qhL t [x,y,z]) e w':=by
 have c1:=qaz h (by simp)
 have c2:=fun V R d (h:JobAt V N B C c R d [] 0 t false [y,z] inn)=>qaz h (by simp)
 have c3:=fun V R d (h:JobAt V N B C c R d [] 0 t false [z] inn)=>qaz h (by simp)
 have c4:=fun V R d (h:JobAt V N B C c R d [] 0 t false [] inn)=>qhJ h
 have cF:=fun V=>qpu x y z V hx hz
 rw [quu];have HC:=hid (And.intro c2 (And.intro c3 c4))
 have HP:Hid (∀n,qwd x y z=some n→Cal.R64' n):=hid fun n h=>qwT h
 generalize qwd x y z=q at *;clear c2 c3 c4 h;go_enter func40,ntmps40;go_wp2_with fail;refine c1.mono ?_;rintro e w1⟨rfl,⟨R1,d1,hJ1⟩,hk1⟩;have c2:=HC.out.1 w1 R1 d1 hJ1;have HK1:=hid hk1;clear hJ1 hk1 c1;go_wp2_with fail;refine c2.mono ?_;rintro e w2⟨rfl,⟨R2,d2,hJ2⟩,hk2⟩;have c3:=HC.out.2.1 w2 R2 d2 hJ2;have HK2:=hid (HK1.out.trans hk2)
 clear hJ2 hk2 c2;go_wp2_with fail;refine c3.mono ?_;rintro e w3⟨rfl,⟨R3,d3,hJ3⟩,hk3⟩;have c4:=HC.out.2.2 w3 R3 d3 hJ3;have HK3:=hid (HK2.out.trans hk3)
 have HJ3:=hid hJ3;clear hJ3 hk3 c3;go_wp2_with fail;refine c4.mono ?_;rintro e w4⟨rfl,rfl⟩;go_wp2_with fail;refine(cF _).mono ?_;rintro e w5⟨hb5,⟨n,rfl,rfl⟩|⟨rfl,rfl⟩⟩
 ·have HJ5:=hid (HJ3.out.below hb5)
  have HK5:=hid (HK3.out.trans (Kept.of_below hb5))
  have hr:=HP.out n rfl;have cP:=fun W=>qbR n hr.1 hr.2 W
  have hl:=qaQ hr.1 hr.2;clear hb5 cF c4;obtain⟨P,hP⟩:=qQ (qaw n)
  rw [hP] at cP hl;have HPn:=hid hP;clear hP;go_wp2_with fail;refine(cP _).mono ?_;rintro e w6⟨rfl,hb6⟩;have hJ6:=HJ5.out.below hb6;have x0:=hJ6.cells.1;have f0:=hJ6.free 0;have hJ7:=hJ6.set0 (P++[10])
  have HJ7:=hid hJ7;have HK7:=hid ((HK5.out.trans (Kept.of_below hb6)).setCell 0 (encS (P++[10])))
  clear hJ6 hJ7 hb6 cP HJ5 HK5;by_cases h0:n=0
  ·subst h0
   have hst:Value.string (⟨P.toArray⟩++⟨#[10]⟩)=encS (P++[10]):=by
    apply congrArg Value.string
    apply ByteArray.ext
    simp
   have f2:=HJ7.out.free 2;have x2:=HJ7.out.cells.2.2.1;have HJ8:=hid (HJ7.out.set2 1)
   have HK8:=hid (HK7.out.setCell 2 (.int .i64 1))
   clear HJ7 HK7;go_wp2_with fail;go_end0;exact⟨HK8.out,.inr ⟨rfl,rfl,_,_,_,_,_,by rw [HPn.out];exact HJ8.out⟩⟩
  ·have hnb:(n==0)=false:=by simpa using h0
   go_wp2_with fail;go_end0;exact⟨HK7.out,.inr ⟨rfl,rfl,_,_,_,_,_,by rw [HPn.out];exact HJ7.out⟩⟩
 ·have HK5:=hid (HK3.out.trans (Kept.of_below hb5))
  clear hb5 cF c4;go_wp2_with fail;exact⟨rfl,HK5.out,.inl ⟨2,0,rfl,rfl⟩⟩
theorem qmJ (h:JobAt W N B C c R d [] 0 t false args inn) (hl:qaf args≤1100000):
  Calls prog 40 #[.pointer (some ⟨B,0,none⟩)] W fun e w'=>qfp W N B t inn (qhL t args) e w':=by
 have hlz:=qaG args
 match args,h,hl,hlz with
 |[],h,_,_=>
  have c1:=qch h;have hq:=qha t [] (by simp)
  rw [hq];clear h hq;go_enter func40,ntmps40;go_wp2_with fail;refine c1.mono ?_;rintro e w1⟨rfl,rfl⟩;go_wp2_with fail;exact⟨rfl,Kept.refl _ _,.inl ⟨2,0,rfl,rfl⟩⟩
 |[x],h,_,_=>
  have c1:=qaz h (by simp)
  have c2:=fun V R d (h:JobAt V N B C c R d [] 0 t false [] inn)=>qch h
  have hq:=qha t [x] (by simp)
  rw [hq];have HC:=hid c2;clear h hq c2;go_enter func40,ntmps40;go_wp2_with fail;refine c1.mono ?_;rintro e w1⟨rfl,⟨R1,d1,hJ1⟩,hk1⟩;have c2:=HC.out w1 R1 d1 hJ1;have HK1:=hid hk1;clear hJ1 hk1 c1;go_wp2_with fail;refine c2.mono ?_;rintro e w2⟨rfl,rfl⟩;go_wp2_with fail;exact⟨rfl,HK1.out,.inl ⟨2,0,rfl,rfl⟩⟩
 |[x,y],h,_,_=>
  have c1:=qaz h (by simp)
  have c2:=fun V R d (h:JobAt V N B C c R d [] 0 t false [y] inn)=>qaz h (by simp)
  have c3:=fun V R d (h:JobAt V N B C c R d [] 0 t false [] inn)=>qch h
  have hq:=qha t [x,y] (by simp)
  rw [hq];have HC:=hid (And.intro c2 c3)
  clear h hq c2 c3;go_enter func40,ntmps40;go_wp2_with fail;refine c1.mono ?_;rintro e w1⟨rfl,⟨R1,d1,hJ1⟩,hk1⟩;have c2:=HC.out.1 w1 R1 d1 hJ1;have HK1:=hid hk1;clear hJ1 hk1 c1;go_wp2_with fail;refine c2.mono ?_;rintro e w2⟨rfl,⟨R2,d2,hJ2⟩,hk2⟩;have c3:=HC.out.2 w2 R2 d2 hJ2;have HK2:=hid (HK1.out.trans hk2)
  clear hJ2 hk2 c2;go_wp2_with fail;refine c3.mono ?_;rintro e w3⟨rfl,rfl⟩;go_wp2_with fail;exact⟨rfl,HK2.out,.inl ⟨2,0,rfl,rfl⟩⟩
 |[x,y,z],h,hl,_=>exact qjZ x y z h (by have:=qaH [x,y,z] x (by simp);omega) (by have:=qaH [x,y,z] z (by simp);omega)
 |x::y::z::v::r,h,hl,hlz=>
  have hr:r.length≤1100000:=by simp at hlz;omega
  have c1:=qaz h (by simp;omega)
  have c2:=fun V R d (h:JobAt V N B C c R d [] 0 t false (y::z::v::r) inn)=>qaz h (by simp;omega)
  have c3:=fun V R d (h:JobAt V N B C c R d [] 0 t false (z::v::r) inn)=>qaz h (by simp;omega)
  have c4:=fun V R d (h:JobAt V N B C c R d [] 0 t false (v::r) inn)=>qg8 h
  have hq:=qha t (x::y::z::v::r) (by simp)
  rw [hq];have HC:=hid (And.intro c2 (And.intro c3 c4))
  clear h hq c2 c3 c4;go_enter func40,ntmps40;go_wp2_with fail;refine c1.mono ?_;rintro e w1⟨rfl,⟨R1,d1,hJ1⟩,hk1⟩;have c2:=HC.out.1 w1 R1 d1 hJ1;have HK1:=hid hk1;clear hJ1 hk1 c1;go_wp2_with fail;refine c2.mono ?_;rintro e w2⟨rfl,⟨R2,d2,hJ2⟩,hk2⟩;have c3:=HC.out.2.1 w2 R2 d2 hJ2;have HK2:=hid (HK1.out.trans hk2)
  clear hJ2 hk2 c2;go_wp2_with fail;refine c3.mono ?_;rintro e w3⟨rfl,⟨R3,d3,hJ3⟩,hk3⟩;have c4:=HC.out.2.2 w3 R3 d3 hJ3;have HK3:=hid (HK2.out.trans hk3)
  clear hJ3 hk3 c3;go_wp2_with fail;refine c4.mono ?_;rintro e w4⟨rfl,rfl⟩;go_wp2_with fail;exact⟨rfl,HK3.out,.inl ⟨2,0,rfl,rfl⟩⟩
theorem qvt (h:JobAt W N B C c R d [] 0 t false args inn) (hl:qaf args≤1100000):
  Calls prog 14 #[.pointer (some ⟨B,0,none⟩),encS [101,120,112,114]] W fun e w'=>qfp W N B t inn (qbc [101,120,112,114] args inn t) e w':=by
 have cR:=qmJ h hl;have hd:qbc [101,120,112,114] args inn t=qhL t args:=rfl
 rw [hd];generalize qhL t args=q at *;clear h hd;go_enter func14,ntmps14;go_wp2_with fail;refine cR.mono ?_;intro e w1 hq
 have HQ:=hid hq;rcases hq with ⟨hk,⟨st,er,rfl,hq⟩|⟨rfl,he,hq⟩⟩
 ·clear hk hq
  go_wp2_with fail;exact⟨rfl,HQ.out⟩
 ·clear hk hq he
  go_wp2_with fail;go_end0;exact HQ.out
end
end Go.Proofs.YtpodopnmkjinhaaGreatDoor
namespace Go.Proofs.YtpodopnmkjinhaaGreatDoor
open Go.Lib (hid)
open Go.RowKit Go.Sort
theorem qhI {p:UInt8→Bool}:∀l:List UInt8,(l.dropWhile p).length≤l.length
 |[]=>Nat.le_refl _
 |c::r=>by
  rw [List.dropWhile_cons];split
  ·have:=qhI (p:=p) r;rw [List.length_cons];omega
  ·exact Nat.le_refl _
theorem qqz (s:List UInt8) (w:World):
  Calls prog 182 #[encS s,.string ⟨#[32,9]⟩] w fun e w'=>e=.returned (encS (s.dropWhile qiQ))∧Below w.heap.size w w':=by
 have h:=Any.strings_TrimLeft_laid Tryz.lays161 (by kernel_rfl) ⟨s.toArray⟩ ⟨#[32,9]⟩ w (by decide) (ascii_of_all (by decide))
 have e:Lib.trimLeftS s [32,9]=s.dropWhile qiQ:=by
  unfold Lib.trimLeftS
  congr 1
  funext c
  unfold qiQ;simp only [List.contains_cons,List.contains_nil,Bool.or_false]
 rw [show(⟨s.toArray⟩:ByteArray).data.toList=s from rfl,show(⟨#[32,9]⟩:ByteArray).data.toList=[32,9] from rfl,e] at h;exact h
theorem qtO (s:List UInt8) (w:World):
  Calls prog 182 #[encS s,.string ⟨#[48]⟩] w fun e w'=>e=.returned (encS (s.dropWhile (·==48)))∧w'=w:=by
 have h:=Tryz.strings_TrimLeft_one ⟨s.toArray⟩ 48 (by decide) w
 rw [show(⟨s.toArray⟩:ByteArray).data.toList=s from rfl] at h;exact h
theorem qrp (t:List UInt8) (n:Nat) (hn:n≤t.length) (h:∀j (hj:j<t.length),j<n→qcg t[j]=true) (hs:n=t.length∨∃hl:n<t.length,qcg t[n]=false):t.takeWhile qcg=t.take n∧(t.takeWhile qcg).length=n:=by
 have:=qu5 hn h hs
 refine⟨this,?_⟩
 rw [this,List.length_take];omega
theorem qxP (a:List UInt8):qvE a=qfV (Lib.hasPrefix a [45]) (Lib.trimPrefix a [45]):=by
 unfold qvE Lib.trimPrefix Lib.hasPrefix;cases a with
 |nil=>rfl
 |cons x r=>
  by_cases h:x=45
  ·subst h
   simp [List.isPrefixOf]
  ·have h':¬45=x:=fun e=>h e.symm
   have h2:(45==x)=false:=by simpa using h'
   simp [List.isPrefixOf,h,h2]
theorem qvP (m:Bool) (r D:List UInt8) (h:(r.dropWhile fun c=>c==48).takeWhile qcg=D):((if(qfV m r).1 then -((qfV m r).2.length:Int) else((qfV m r).2.length:Int)),(qfV m r).2)=((if m then -(D.length:Int) else(D.length:Int)),D):=by
 unfold qfV;rw [h];cases m
 ·simp
 ·cases D<;>simp
theorem qlM (s:List UInt8) (w:World) (hs:s.length≤1099511627776):
  Calls prog 121 #[encS s] w fun e w'=>e=.returned (.agg #[.int .i64 (nmP true s).1,encS (nmP true s).2])∧Below w.heap.size w w':=by
 have hN:nmP true s=((if(qf8 s).1 then -((qf8 s).2.length:Int) else((qf8 s).2.length:Int)),(qf8 s).2):=rfl
 unfold qf8 at hN;obtain⟨W0,hW0⟩:=qQ (w.alloc (.cells #[.int .i64 0,.string ⟨#[]⟩] 139))
 have hb0:Below w.heap.size w W0:=by rw [← hW0];exact(Below.refl _ _).alloc (Nat.le_refl _) _
 have b0:W0.heap[w.heap.size]?=some (.cells #[.int .i64 0,.string ⟨#[]⟩] 139 (0,0)):=by rw [← hW0];exact heap_alloc_new _ _
 have cL:=fun W=>qqz s W
 have hal:=qhI (p:=qiQ) s
 obtain⟨a,ha⟩:=qQ (s.dropWhile qiQ)
 rw [ha] at cL hal hN;rw [qxP] at hN;clear ha;have cM:=fun W=>Tryz.strings_CutPrefix ⟨a.toArray⟩ ⟨#[45]⟩ W
 rw [show(⟨a.toArray⟩:ByteArray).data.toList=a from rfl,show(⟨#[45]⟩:ByteArray).data.toList=[45] from rfl] at cM;have hml:(Lib.trimPrefix a [45]).length≤a.length:=by
  unfold Lib.trimPrefix;split<;>simp
 generalize Lib.hasPrefix a [45]=m at *;generalize Lib.trimPrefix a [45]=r at *;have cZ:=fun W=>qtO r W
 have htl:=qhI (p:=(·==48)) r
 have hT:=qvP m r _ rfl;rw [hT] at hN;rw [hN];clear hN hT;obtain⟨t,ht⟩:=qQ (r.dropWhile (fun c=>c==48))
 rw [ht] at cZ htl ⊢;clear ht;have HD:Hid (∀n,n≤t.length→(∀j (hj:j<t.length),j<n→qcg t[j]=true)→(n=t.length∨∃hl:n<t.length,qcg t[n]=false)→t.takeWhile qcg=t.take n∧(t.takeWhile qcg).length=n):=hid fun n h1 h2 h3=>qrp t n h1 h2 h3
 have hsz:(⟨t.toArray⟩:ByteArray).size=t.length:=by simp [ByteArray.size]
 obtain⟨D,hD⟩:=qQ (t.takeWhile qcg)
 rw [hD] at HD ⊢;clear hD;go_enter func121,ntmps121;go_wp2_with fail;refine(cL _).mono ?_;rintro e w1⟨rfl,hb1⟩;have HB1:=hid (qT hb0 hb1)
 have b1:=(hb1.block _ (lt_of_block b0)).trans b0
 have x0:=(Lib.cell_of_heap b1 0).trans rfl
 have x1:=(Lib.cell_of_heap b1 1).trans rfl
 have f0:w1.frozen? ⟨w.heap.size,0,none⟩=false:=by simp [World.frozen?,b1]
 have f1:w1.frozen? ⟨w.heap.size,1,none⟩=false:=by simp [World.frozen?,b1]
 have B1:=hid b1;clear hb0 hb1 b0 b1 cL;go_wp2_with fail;refine(cM _).mono ?_;rintro e w2⟨rfl,rfl⟩;go_wp2_with fail;refine(cZ _).mono ?_;rintro e w3⟨rfl,rfl⟩;clear cZ cM;go_wp2_with fail;go_loopw [6] (fun v wr=>∃k:Nat,k≤t.length∧v=.int .i64 k∧Hid (∀j (hj:j<t.length),j<k→qcg t[j]=true)∧wr=w3) (fun v _=>t.length-(intOf v).toNat)
 case atStart=>exact⟨0,Nat.zero_le _,rfl,hid (fun _ _ h=>absurd h (Nat.not_lt_zero _)),rfl⟩
 case round=>
  obtain⟨k,hk,rfl,HK,rfl⟩:=hrel;by_cases hc:∃hl:k<t.length,qcg t[k]=true
  ·obtain⟨hlt,hd⟩:=hc
   obtain⟨h1,h2⟩:48≤t[k].toNat∧t[k].toNat≤57:=by unfold qcg at hd;exact of_decide_eq_true hd
   have HK2:Hid (∀j (hj:j<t.length),j<k+1→qcg t[j]=true):=hid fun j hj hjk=>by
    by_cases e:j=k
    ·subst e;exact hd
    ·exact HK.out j hj (by omega)
   have hq:((⟨t.toArray⟩:ByteArray)[k]'(by rw [hsz];exact hlt))=t[k]:=rfl
   have g1:(48:Int)≤(((⟨t.toArray⟩:ByteArray)[k]'(by rw [hsz];exact hlt)).toNat:Int):=by rw [hq];omega
   have g2:(((⟨t.toArray⟩:ByteArray)[k]'(by rw [hsz];exact hlt)).toNat:Int)≤57:=by rw [hq];omega
   have hki:(k:Int)<(t.length:Int):=by omega
   clear hd HK h1 h2 hq;go_wp2_with fail;go_roundw
   case rel=>exact⟨k+1,by omega,by go_num,HK2,trivial⟩
   case measure=>simp [intOf];omega
  ·have HE:=HD.out k hk HK.out (by
    by_cases hl:k<t.length
    ·refine .inr ⟨hl,?_⟩
     cases h:qcg t[k]
     ·rfl
     ·exact absurd ⟨hl,h⟩ hc
    ·exact .inl (by omega))
   have hex:(⟨t.toArray⟩:ByteArray).extract 0 k=⟨D.toArray⟩:=by rw [HE.1];apply ByteArray.ext;simp
   have hDl:D.length=k:=HE.2
   have HF:Hid (∀v:Int,((wr.setCell ⟨w.heap.size,0,none⟩ (.int .i64 v)).setCell ⟨w.heap.size,1,none⟩ (encS D)).heap[w.heap.size]?=some (.cells #[.int .i64 v,encS D] 139 (0,0))∧Below w.heap.size w ((wr.setCell ⟨w.heap.size,0,none⟩ (.int .i64 v)).setCell ⟨w.heap.size,1,none⟩ (encS D))):=hid fun v=>
    ⟨heap_setCell_same _ _ _ _ _ _ (heap_setCell_same _ _ _ _ _ _ B1.out),(HB1.out.setCell (p:=⟨w.heap.size,0,none⟩) (Nat.le_refl _) _).setCell (p:=⟨w.heap.size,1,none⟩) (Nat.le_refl _) _⟩
   have hki:(k:Int)≤(t.length:Int):=by omega
   have HDl:=hid hDl;have hwk:wrap64 (-(k:Int))=-(k:Int):=by unfold wrap64;omega
   have hcs:(¬k<t.length)∨∃hl:k<t.length,(¬(48:Int)≤(((⟨t.toArray⟩:ByteArray)[k]'(by rw [hsz];exact hl)).toNat:Int))∨((48:Int)≤(((⟨t.toArray⟩:ByteArray)[k]'(by rw [hsz];exact hl)).toNat:Int)∧¬(((⟨t.toArray⟩:ByteArray)[k]'(by rw [hsz];exact hl)).toNat:Int)≤57):=by
    by_cases hl:k<t.length
    ·refine .inr ⟨hl,?_⟩
     have hq:((⟨t.toArray⟩:ByteArray)[k]'(by rw [hsz];exact hl))=t[k]:=rfl
     rw [hq];by_cases h1:48≤t[k].toNat
     ·by_cases h2:t[k].toNat≤57
      ·exact absurd ⟨hl,by unfold qcg;exact decide_eq_true ⟨h1,h2⟩⟩ hc
      ·exact .inr ⟨by omega,by omega⟩
     ·exact .inl (by omega)
    ·exact .inl hl
   clear HK HD HE hc hDl;have c2:(prog.info? 139).map (·.size)=some 2:=by kernel_rfl
   rcases hcs with hl|⟨hl,hl2|⟨hl1,hl2⟩⟩<;>cases m
   all_goals
    go_wp2_with fail;refine bodyPost_ret (results_cell_row rfl _ _ w.heap.size _ _ _ _ rfl (HF.out _).1 underlying139 rfl (by rw [c2];rfl)) rfl ?_
    exact⟨by rw [HDl.out],(HF.out _).2⟩
theorem qod:(prog.info? 139).map (·.size)=some 2:=by kernel_rfl
def Gr (W w':World):Prop:=∃q os,w'=grow (W.drewN q) os
theorem Gr.refl (W:World):Gr W W:=⟨0,#[],(grow_empty W).symm⟩
theorem Gr.alloc {W w:World} (h:Gr W w) (o:Obj):Gr W (w.alloc o):=by
 obtain⟨q,os,rfl⟩:=h;exact⟨q,os++#[o],by rw [alloc_eq_grow,grow_grow]⟩
theorem Gr.set {W w:World} (h:Gr W w) (b o:Nat) (v:Value) (hb:W.heap.size≤b):Gr W (w.setCell ⟨b,o,none⟩ v):=by
 obtain⟨q,os,rfl⟩:=h;exact⟨q,_,(setCell_eq _ _ _ _).trans (mapBlock_grow_new (W.drewN q) os b _ hb)⟩
theorem Gr.trans {W w w':World} (h:Gr W w) (h':Gr w w'):Gr W w':=by
 obtain⟨q,os,rfl⟩:=h;obtain⟨q',os',rfl⟩:=h';refine⟨q+q',os++os',?_⟩
 have:(grow (W.drewN q) os).drewN q'=grow ((W.drewN q).drewN q') os:=rfl
 rw [this,grow_grow];simp
theorem Gr.cell {W w:World} (h:Gr W w) {a:Addr} {v:Value} (hv:W.cell? a=some v):w.cell? a=some v:=by
 obtain⟨q,os,rfl⟩:=h;exact cell_grown (World.block_lt_of_cell? W a hv) hv q os
theorem Gr.block {W w:World} (h:Gr W w) {k:Nat} (hk:k<W.heap.size):w.heap[k]?=W.heap[k]?:=by
 obtain⟨q,os,rfl⟩:=h;exact heap_grow_old _ _ hk
theorem qxf (u v:Int) (d e:List UInt8) (W:World):Calls prog 185 #[.agg #[.int .i64 u,encS d],.agg #[.int .i64 v,encS e]] W fun r w'=>r=.returned (.int .i64 (qqN (u,d) (v,e)))∧Gr W w':=by
 have cI:=fun W=>Tryz.cmp_Compare_int u v W
 have cS:∀(x y:List UInt8) W,Calls prog 158 #[encS x,encS y] W fun r w'=>r=.returned (.int .i64 (Lib.compareBytes x y))∧w'=W:=fun x y W=>by
  have h:=Tryz.strings_Compare ⟨x.toArray⟩ ⟨y.toArray⟩ W
  rwa [show Lib.compareBytes (⟨x.toArray⟩:ByteArray).data.toList (⟨y.toArray⟩:ByteArray).data.toList=Lib.compareBytes x y by simp] at h
 obtain⟨W0,hW0⟩:=qQ ((W.alloc (.cells #[.int .i64 u,encS d] 139)).alloc (.cells #[.int .i64 v,encS e] 139))
 have b0:W0.heap[W.heap.size]?=some (.cells #[.int .i64 u,encS d] 139 (0,0)):=by rw [← hW0];exact heap_alloc2_old _ _ _
 have b1:W0.heap[W.heap.size+1]?=some (.cells #[.int .i64 v,encS e] 139 (0,0)):=by rw [← hW0];exact heap_alloc2_new _ _ _
 have G0:Hid (Gr W W0):=hid (by rw [← hW0];exact((Gr.refl W).alloc _).alloc _)
 obtain⟨r,hr⟩:=qQ (qqN (u,d) (v,e))
 have HR:=hid hr;rw [hr];unfold qqN at HR
 dsimp only at HR
 obtain⟨c,hc⟩:=qQ (Lib.compareInt u v)
 rw [hc] at cI HR;clear hr hc;have a0:=(Lib.cell_of_heap b0 0).trans rfl
 have a1:=(Lib.cell_of_heap b0 1).trans rfl
 have a2:=(Lib.cell_of_heap b1 0).trans rfl
 have a3:=(Lib.cell_of_heap b1 1).trans rfl
 by_cases hu:u<0
 ·rw [if_pos hu] at HR
  have G1:Hid (Gr W ((W0.setCell ⟨W.heap.size,1,none⟩ (encS e)).setCell ⟨W.heap.size+1,1,none⟩ (encS d))):=hid ((G0.out.set _ _ _ (Nat.le_refl _)).set _ _ _ (Nat.le_succ _))
  have f1:=Lib.frozen_of_heap b0 1;have f3:=Lib.frozen_of_heap b1 1;by_cases hc0:c=0
  ·subst hc0
   rw [if_pos rfl] at HR;go_enter func185,ntmps185;go_wp2_with fail;refine(cI _).mono ?_;rintro e w1⟨rfl,rfl⟩;go_wp2_with fail;refine(cS _ _ _).mono ?_;rintro e w1⟨rfl,rfl⟩;go_wp2_with fail;go_ret;exact⟨by rw [HR.out];rfl,G1.out⟩
  ·rw [if_neg hc0] at HR
   have hcb:(c !=0)=true:=by simpa using hc0
   go_enter func185,ntmps185;go_wp2_with fail;refine(cI _).mono ?_;rintro e w1⟨rfl,rfl⟩;go_wp2_with fail;go_ret;exact⟨by rw [HR.out];rfl,G1.out⟩
 ·rw [if_neg hu] at HR
  by_cases hc0:c=0
  ·subst hc0
   rw [if_pos rfl] at HR;go_enter func185,ntmps185;go_wp2_with fail;refine(cI _).mono ?_;rintro e w1⟨rfl,rfl⟩;go_wp2_with fail;refine(cS _ _ _).mono ?_;rintro e w1⟨rfl,rfl⟩;go_wp2_with fail;go_ret;exact⟨by rw [HR.out];rfl,G0.out⟩
  ·rw [if_neg hc0] at HR
   have hcb:(c !=0)=true:=by simpa using hc0
   go_enter func185,ntmps185;go_wp2_with fail;refine(cI _).mono ?_;rintro e w1⟨rfl,rfl⟩;go_wp2_with fail;go_ret;exact⟨by rw [HR.out];rfl,G0.out⟩
theorem qs1 (n:Bool) (x y:List UInt8) (W:World):Calls prog 124 #[.agg (encR n x).toArray,.agg (encR n y).toArray] W fun e w'=>e=.returned (.int .i64 (qtT n x y))∧Gr W w':=by
 have cN:=fun W=>qxf (nmP n x).1 (nmP n y).1 (nmP n x).2 (nmP n y).2 W
 have cS:∀W,Calls prog 158 #[encS x,encS y] W fun r w'=>r=.returned (.int .i64 (Lib.compareBytes x y))∧w'=W:=fun W=>by
  have h:=Tryz.strings_Compare ⟨x.toArray⟩ ⟨y.toArray⟩ W
  rwa [show Lib.compareBytes (⟨x.toArray⟩:ByteArray).data.toList (⟨y.toArray⟩:ByteArray).data.toList=Lib.compareBytes x y by simp] at h
 obtain⟨z,hz⟩:=qQ (qtT n x y)
 rw [hz];unfold qtT at hz;have hz:(if qqN ((nmP n x).1,(nmP n x).2) ((nmP n y).1,(nmP n y).2)=0 then Lib.compareBytes x y else qqN ((nmP n x).1,(nmP n x).2) ((nmP n y).1,(nmP n y).2))=z:=hz
 unfold encR;generalize (nmP n x).1=u at *;generalize (nmP n x).2=d at *;generalize (nmP n y).1=v at *;generalize (nmP n y).2=f at *;generalize qqN (u,d) (v,f)=c at *;have HZ:=hid hz;obtain⟨W0,hW0⟩:=qQ ((W.alloc (.cells #[.int .i64 u,encS d,encS x] 143)).alloc (.cells #[.int .i64 v,encS f,encS y] 143))
 have b0:W0.heap[W.heap.size]?=some (.cells #[.int .i64 u,encS d,encS x] 143 (0,0)):=by rw [← hW0];exact heap_alloc2_old _ _ _
 have b1:W0.heap[W.heap.size+1]?=some (.cells #[.int .i64 v,encS f,encS y] 143 (0,0)):=by rw [← hW0];exact heap_alloc2_new _ _ _
 have G0:Hid (Gr W W0):=hid (by rw [← hW0];exact((Gr.refl W).alloc _).alloc _)
 have a0:=(Lib.cell_of_heap b0 0).trans rfl
 have a1:=(Lib.cell_of_heap b0 1).trans rfl
 have a2:=(Lib.cell_of_heap b1 0).trans rfl
 have a3:=(Lib.cell_of_heap b1 1).trans rfl
 have BB:=hid (And.intro b0 b1)
 clear hz b0 b1;by_cases hc0:c=0
 ·subst hc0
  rw [if_pos rfl] at HZ;go_enter func124,ntmps124;go_wp2_with fail;refine(cN _).mono ?_;rintro e w1⟨rfl,hg1⟩;have hs:W.heap.size+1<W0.heap.size:=lt_of_block BB.out.2
  have x0:=(Lib.cell_of_heap ((hg1.block (by omega)).trans BB.out.1) 2).trans rfl
  have x1:=(Lib.cell_of_heap ((hg1.block (by omega)).trans BB.out.2) 2).trans rfl
  have G1:=hid (G0.out.trans hg1)
  clear hg1 a0 a1 a2 a3;go_wp2_with fail;refine(cS _).mono ?_;rintro e w2⟨rfl,rfl⟩;go_wp2_with fail;go_ret;exact⟨by rw [HZ.out];rfl,G1.out⟩
 ·rw [if_neg hc0] at HZ
  have hcb:(c !=0)=true:=by simpa using hc0
  go_enter func124,ntmps124;go_wp2_with fail;refine(cN _).mono ?_;rintro e w1⟨rfl,hg1⟩;go_wp2_with fail;go_ret;exact⟨by rw [HZ.out];rfl,G0.out.trans hg1⟩
theorem qzt (W0:World) (s:Nat) (a0 a1 a2 b0 b1 b2:Value) (T:TypeId) (h0:W0.heap[s]?=some (.cells #[a0,a1,a2] T (0,0))) (h1:W0.heap[s+1]?=some (.cells #[b0,b1,b2] T (0,0))):
  ∃W1,(((((W0.setCell ⟨s,0,none⟩ b0).setCell ⟨s,1,none⟩ b1).setCell ⟨s,2,none⟩ b2).setCell ⟨s+1,0,none⟩ a0).setCell ⟨s+1,1,none⟩ a1).setCell ⟨s+1,2,none⟩ a2=W1∧W1.heap[s]?=some (.cells #[b0,b1,b2] T (0,0))∧W1.heap[s+1]?=some (.cells #[a0,a1,a2] T (0,0)):=by
 have k0:=heap_setCell_same _ _ 2 _ _ b2 (heap_setCell_same _ _ 1 _ _ b1 (heap_setCell_same _ _ 0 _ _ b0 h0))
 have k1:(((W0.setCell ⟨s,0,none⟩ b0).setCell ⟨s,1,none⟩ b1).setCell ⟨s,2,none⟩ b2).heap[s+1]?=some (.cells #[b0,b1,b2] T (0,0)):=by
  rw [heap_setCell_other _ _ _ _ (by simp),heap_setCell_other _ _ _ _ (by simp),heap_setCell_other _ _ _ _ (by simp)];exact h1
 refine⟨_,rfl,?_,?_⟩
 ·rw [heap_setCell_other _ _ _ _ (by simp),heap_setCell_other _ _ _ _ (by simp),heap_setCell_other _ _ _ _ (by simp)]
  exact k0
 ·exact heap_setCell_same _ _ 2 _ _ a2 (heap_setCell_same _ _ 1 _ _ a1 (heap_setCell_same _ _ 0 _ _ a0 k1))
theorem qyx (r n:Bool) (R:Nat) (x y:List UInt8) (W:World) (hR:W.cell? ⟨R,0,none⟩=some (.bool r)) (_hlt:R<W.heap.size):Calls prog 123 (#[.agg (encR n x).toArray,.agg (encR n y).toArray]++#[.pointer (some ⟨R,0,none⟩)]) W fun e w'=>e=.returned (.int .i64 (qqO r n x y))∧∃q os,w'=grow (W.drewN q) os:=by
 show Calls _ _ #[.agg (encR n x).toArray,.agg (encR n y).toArray,.pointer (some ⟨R,0,none⟩)] W fun e w'=>e=.returned (.int .i64 (qqO r n x y))∧Gr W w'
 have c1:=qs1 n x y;have c2:=qs1 n y x;obtain⟨W0,hW0⟩:=qQ ((W.alloc (.cells #[.int .i64 (nmP n x).1,encS (nmP n x).2,encS x] 143)).alloc (.cells #[.int .i64 (nmP n y).1,encS (nmP n y).2,encS y] 143))
 have b0:W0.heap[W.heap.size]?=some (.cells #[.int .i64 (nmP n x).1,encS (nmP n x).2,encS x] 143 (0,0)):=by rw [← hW0];exact heap_alloc2_old _ _ _
 have b1:W0.heap[W.heap.size+1]?=some (.cells #[.int .i64 (nmP n y).1,encS (nmP n y).2,encS y] 143 (0,0)):=by rw [← hW0];exact heap_alloc2_new _ _ _
 have hG:Gr W W0:=by rw [← hW0];exact((Gr.refl W).alloc _).alloc _
 have c0:=hG.cell hR;unfold encR at c1 c2 ⊢
 unfold qqO;cases r
 ·rw [if_neg (by decide)]
  generalize qtT n x y=z at *;clear c2;generalize (nmP n x).1=u at *;generalize (nmP n x).2=d at *;generalize (nmP n y).1=v at *;generalize (nmP n y).2=f at *;have x0:W0.cell? ⟨W.heap.size,0,none⟩=some (.int .i64 u):=(Lib.cell_of_heap b0 0).trans rfl
  have x1:W0.cell? ⟨W.heap.size,1,none⟩=some (encS d):=(Lib.cell_of_heap b0 1).trans rfl
  have x2:W0.cell? ⟨W.heap.size,2,none⟩=some (encS x):=(Lib.cell_of_heap b0 2).trans rfl
  have z0:W0.cell? ⟨W.heap.size+1,0,none⟩=some (.int .i64 v):=(Lib.cell_of_heap b1 0).trans rfl
  have z1:W0.cell? ⟨W.heap.size+1,1,none⟩=some (encS f):=(Lib.cell_of_heap b1 1).trans rfl
  have z2:W0.cell? ⟨W.heap.size+1,2,none⟩=some (encS y):=(Lib.cell_of_heap b1 2).trans rfl
  go_enter func123,ntmps123;go_wp2_with fail;refine(c1 _).mono ?_;rintro e w1⟨rfl,hg1⟩;go_wp2_with fail;go_ret;exact⟨rfl,hG.trans hg1⟩
 ·rw [if_pos rfl]
  generalize qtT n y x=z at *;clear c1;generalize (nmP n x).1=u at *;generalize (nmP n x).2=d at *;generalize (nmP n y).1=v at *;generalize (nmP n y).2=f at *;have x0:W0.cell? ⟨W.heap.size,0,none⟩=some (.int .i64 u):=(Lib.cell_of_heap b0 0).trans rfl
  have x1:W0.cell? ⟨W.heap.size,1,none⟩=some (encS d):=(Lib.cell_of_heap b0 1).trans rfl
  have x2:W0.cell? ⟨W.heap.size,2,none⟩=some (encS x):=(Lib.cell_of_heap b0 2).trans rfl
  have z0:W0.cell? ⟨W.heap.size+1,0,none⟩=some (.int .i64 v):=(Lib.cell_of_heap b1 0).trans rfl
  have z1:W0.cell? ⟨W.heap.size+1,1,none⟩=some (encS f):=(Lib.cell_of_heap b1 1).trans rfl
  have z2:W0.cell? ⟨W.heap.size+1,2,none⟩=some (encS y):=(Lib.cell_of_heap b1 2).trans rfl
  obtain⟨W1,hW1,k0,k1⟩:=qzt W0 W.heap.size _ _ _ _ _ _ _ b0 b1;have u0:W1.cell? ⟨W.heap.size,0,none⟩=some (.int .i64 v):=(Lib.cell_of_heap k0 0).trans rfl
  have u1:W1.cell? ⟨W.heap.size,1,none⟩=some (encS f):=(Lib.cell_of_heap k0 1).trans rfl
  have u2:W1.cell? ⟨W.heap.size,2,none⟩=some (encS y):=(Lib.cell_of_heap k0 2).trans rfl
  have v0:W1.cell? ⟨W.heap.size+1,0,none⟩=some (.int .i64 u):=(Lib.cell_of_heap k1 0).trans rfl
  have v1:W1.cell? ⟨W.heap.size+1,1,none⟩=some (encS d):=(Lib.cell_of_heap k1 1).trans rfl
  have v2:W1.cell? ⟨W.heap.size+1,2,none⟩=some (encS x):=(Lib.cell_of_heap k1 2).trans rfl
  have hG1:Gr W W1:=by
   rw [← hW1];exact(((((hG.set _ _ _ (Nat.le_refl _)).set _ _ _ (Nat.le_refl _)).set _ _ _ (Nat.le_refl _)).set _ _ _ (Nat.le_succ _)).set _ _ _ (Nat.le_succ _)).set _ _ _ (Nat.le_succ _)
  have f0:=Lib.frozen_of_heap b0 0;have f1:=Lib.frozen_of_heap b0 1;have f2:=Lib.frozen_of_heap b0 2;have f3:=Lib.frozen_of_heap b1 0;have f4:=Lib.frozen_of_heap b1 1;have f5:=Lib.frozen_of_heap b1 2;go_enter func123,ntmps123;go_wp2_with fail;refine(c2 _).mono ?_;rintro e w1⟨rfl,hg1⟩;go_wp2_with fail;go_ret;exact⟨rfl,hG1.trans hg1⟩
theorem qs8 (n:Bool) (x y:List UInt8) (W:World):Calls prog 126 (#[.agg (encR n x).toArray,.agg (encR n y).toArray]++#[]) W fun e w'=>e=.returned (.bool (x==y))∧∃q os,w'=grow (W.drewN q) os:=by
 unfold encR;generalize (nmP n x).1=u at *;generalize (nmP n x).2=d at *;generalize (nmP n y).1=v at *;generalize (nmP n y).2=f at *;go_enter func126,ntmps126;go_wp2_with fail;go_ret;exact⟨rfl,0,_,by rw [alloc_eq_grow,alloc_eq_grow,grow_grow];rfl⟩
theorem qw6 (n:Bool) (x:List UInt8) (W:World):Calls prog 128 (#[.agg (encR n x).toArray]++#[]) W fun e w'=>e=.returned (encS x)∧Below W.heap.size W w':=by
 unfold encR;generalize (nmP n x).1=u at *;generalize (nmP n x).2=d at *;go_enter func128,ntmps128;go_wp2_with fail;go_ret;exact⟨rfl,(Below.refl _ _).alloc (Nat.le_refl _) _⟩
theorem qzp (n:Bool) (R:Nat) (x:List UInt8) (W:World) (hR:W.cell? ⟨R,0,none⟩=some (.bool n)) (hlt:R<W.heap.size) (hx:x.length≤1099511627776):Calls prog 120 (#[encS x]++#[.pointer (some ⟨R,0,none⟩)]) W fun e w'=>e=.returned (.agg #[.int .i64 (nmP n x).1,encS (nmP n x).2])∧Below W.heap.size W w':=by
 obtain⟨W0,hW0⟩:=qQ (W.alloc (.cells #[.int .i64 0,.string ⟨#[]⟩] 139))
 have b0:W0.heap[W.heap.size]?=some (.cells #[.int .i64 0,.string ⟨#[]⟩] 139 (0,0)):=by rw [← hW0];exact heap_alloc_new _ _
 have hb0:Below W.heap.size W W0:=by rw [← hW0];exact(Below.refl _ _).alloc (Nat.le_refl _) _
 have c0:W0.cell? ⟨R,0,none⟩=some (.bool n):=by rw [← hW0,alloc_eq_grow,cell?_grow _ _ _ hlt];exact hR
 cases n
 ·have h:nmP false x=(0,[]):=rfl
  rw [h];have f0:=Lib.frozen_of_heap b0 0;have f1:=Lib.frozen_of_heap b0 1;have x0:W0.cell? ⟨W.heap.size,0,none⟩=some (.int .i64 0):=(Lib.cell_of_heap b0 0).trans rfl
  have x1:W0.cell? ⟨W.heap.size,1,none⟩=some (.string ⟨#[]⟩):=(Lib.cell_of_heap b0 1).trans rfl
  have HF:Hid (((W0.setCell ⟨W.heap.size,0,none⟩ (.int .i64 0)).setCell ⟨W.heap.size,1,none⟩ (.string ⟨#[]⟩)).heap[W.heap.size]?=some (.cells #[.int .i64 0,.string ⟨#[]⟩] 139 (0,0))∧Below W.heap.size W ((W0.setCell ⟨W.heap.size,0,none⟩ (.int .i64 0)).setCell ⟨W.heap.size,1,none⟩ (.string ⟨#[]⟩))):=hid
   ⟨heap_setCell_same _ _ 1 _ _ _ (heap_setCell_same _ _ 0 _ _ _ b0),(hb0.setCell (p:=⟨W.heap.size,0,none⟩) (Nat.le_refl _) _).setCell (p:=⟨W.heap.size,1,none⟩) (Nat.le_refl _) _⟩
  clear b0 hb0 h hR;go_enter func120,ntmps120;go_wp2_with fail;refine bodyPost_ret (results_cell_row rfl _ _ W.heap.size _ _ _ _ rfl HF.out.1 underlying139 rfl (by rw [qod];rfl)) rfl ?_
  exact⟨rfl,HF.out.2⟩
 ·have cN:=fun V=>qlM x V hx
  generalize (nmP true x).1=u at *;generalize (nmP true x).2=d at *;have HB:=hid (And.intro b0 hb0)
  clear b0 hb0 hR;go_enter func120,ntmps120;go_wp2_with fail;refine(cN _).mono ?_;rintro e w1⟨rfl,hb1⟩;have b1:=(hb1.block _ (lt_of_block HB.out.1)).trans HB.out.1
  have f0:=Lib.frozen_of_heap b1 0;have f1:=Lib.frozen_of_heap b1 1;have x0:w1.cell? ⟨W.heap.size,0,none⟩=some (.int .i64 0):=(Lib.cell_of_heap b1 0).trans rfl
  have x1:w1.cell? ⟨W.heap.size,1,none⟩=some (.string ⟨#[]⟩):=(Lib.cell_of_heap b1 1).trans rfl
  have HF:Hid (((w1.setCell ⟨W.heap.size,0,none⟩ (.int .i64 u)).setCell ⟨W.heap.size,1,none⟩ (encS d)).heap[W.heap.size]?=some (.cells #[.int .i64 u,encS d] 139 (0,0))∧Below W.heap.size W ((w1.setCell ⟨W.heap.size,0,none⟩ (.int .i64 u)).setCell ⟨W.heap.size,1,none⟩ (encS d))):=hid
   ⟨heap_setCell_same _ _ 1 _ _ _ (heap_setCell_same _ _ 0 _ _ _ b1),((HB.out.2.trans (hb1.mono HB.out.2.size)).setCell (p:=⟨W.heap.size,0,none⟩) (Nat.le_refl _) _).setCell (p:=⟨W.heap.size,1,none⟩) (Nat.le_refl _) _⟩
  clear b1 hb1;go_wp2_with fail;refine bodyPost_ret (results_cell_row rfl _ _ W.heap.size _ _ _ _ rfl HF.out.1 underlying139 rfl (by rw [qod];rfl)) rfl ?_
  exact⟨rfl,HF.out.2⟩
theorem qsd (r n:Bool) (l:List (List UInt8)):(l.mergeSort fun x y=>!(ltOf (qqO r n)) y x)=qeR r n l:=by
 have hp:=qdQ r n;rw [show(ltOf (qqO r n))=qdZ r n from by funext x y;exact qlE r n x y];refine qme r n (List.mergeSort_perm l _) ?_
 have h:=List.pairwise_mergeSort (le:=fun x y=>!(qdZ r n y x)) (fun a b c h1 h2=>by
  simp only [Bool.not_eq_true'] at h1 h2 ⊢
  exact qtx hp h1 h2) (fun a b=>by
   cases h:qdZ r n b a
   ·simp
   ·simp [hp.asymm _ _ h]) l
 exact h.imp fun h=>by simpa using h
def qbD (n:Bool) (g:Nat) (xs:List (List UInt8)) (w:World):Prop:=HoldsK (encR n) 3 w g 0 xs.toArray
theorem quq (n:Bool) (x:List UInt8):(encR n x).length=3:=rfl
theorem qur (n:Bool) (x:List UInt8):∀v∈encR n x,v.oneCell'=true:=fun v hv=>by
 simp [encR] at hv
 rcases hv with rfl|rfl|rfl<;>rfl
theorem qdi (xs:List (List UInt8)) (k:Nat) (h:k<xs.length):xs.toArray[k]! = xs[k]:=by rw [getElem!_pos xs.toArray k (by simpa using h)];rfl
theorem qbD.at {n:Bool} {g:Nat} {xs:List (List UInt8)} {w:World} (h:qbD n g xs w) (k:Nat) (hk:k<xs.length):
  w.cell? ⟨g,k*3,none⟩=some (.int .i64 (nmP n xs[k]).1)∧w.cell? ⟨g,k*3+1,none⟩=some (encS (nmP n xs[k]).2)∧w.cell? ⟨g,k*3+2,none⟩=some (encS xs[k])∧w.frozen? ⟨g,k*3,none⟩=false∧w.frozen? ⟨g,k*3+1,none⟩=false∧w.frozen? ⟨g,k*3+2,none⟩=false:=by
 have a:=fun c (hc:c<3)=>HoldsK.cell h (i:=k) (c:=c) (by simpa using hk) hc
 rw [qdi xs k hk] at a;have a0:=a 0 (by omega)
 have a1:=a 1 (by omega)
 have a2:=a 2 (by omega)
 rw [Nat.zero_add] at a0 a1 a2;exact⟨a0.1,a1.1,a2.1,a0.2,a1.2,a2.2⟩
theorem qbD.mk' {n:Bool} {g:Nat} {xs:List (List UInt8)} {w:World} (h:∀k (hk:k<xs.length),w.cell? ⟨g,k*3,none⟩=some (.int .i64 (nmP n xs[k]).1)∧w.cell? ⟨g,k*3+1,none⟩=some (encS (nmP n xs[k]).2)∧w.cell? ⟨g,k*3+2,none⟩=some (encS xs[k])∧w.frozen? ⟨g,k*3,none⟩=false∧w.frozen? ⟨g,k*3+1,none⟩=false∧w.frozen? ⟨g,k*3+2,none⟩=false):qbD n g xs w:=fun t ht=>by
 rw [size_flatK] at ht;rw [get_flatK _ _ _ _ ht];have hs:xs.toArray.size=xs.length:=by simp
 rw [hs] at ht;obtain⟨k,c,rfl,hc⟩:∃k c,t=k*3+c∧c<3:=⟨t/3,t%3,by omega,by omega⟩
 have e1:(k*3+c)/3=k:=by omega
 have e2:(k*3+c)%3=c:=by omega
 have hk:k<xs.length:=by omega
 rw [e1,e2,qdi xs k hk,Nat.zero_add];obtain⟨a0,a1,a2,b0,b1,b2⟩:=h k hk
 match c,hc with
 |0,_=>exact⟨a0,b0⟩
 |1,_=>exact⟨a1,b1⟩
 |2,_=>exact⟨a2,b2⟩
theorem qbD.of_own {b:Bool} {N g c n:Nat} {xs:List (List UInt8)} {w:World} (h:w.ownsRow N 143 3 (.slice (some ⟨g,0,none⟩) n c) n (xs.flatMap (encR b))):qbD b g xs w:=by
 have hfl:∀ys:List (List UInt8),(ys.flatMap (encR b)).length=ys.length*3:=fun ys=>by
  induction ys with
  |nil=>rfl
  |cons y r ih=>rw [List.flatMap_cons,List.length_append,ih,List.length_cons];simp [encR];omega
 have hat:∀(ys:List (List UInt8)) k (hk:k<ys.length) c,c<3→(ys.flatMap (encR b))[k*3+c]?=(encR b ys[k])[c]?:=fun ys=>by
  induction ys with
  |nil=>intro k hk;simp at hk
  |cons y r ih=>
   intro k hk c hc
   rw [List.flatMap_cons];cases k with
   |zero=>rw [List.getElem?_append_left (by simp [encR];omega)];simp
   |succ k=>
    rw [List.getElem?_append_right (by simp [encR];omega),show(k+1)*3+c-(encR b y).length=k*3+c by simp [encR];omega,ih k (by simpa using hk) c hc]
    rfl
 have hn:xs.length=n:=by have:=h.1;rw [hfl] at this;omega
 refine qbD.mk' fun k hk=>?_
 have a:=fun c (hc:c<3)=>(h.cellAt (k*3+c) (by omega)).trans (hat xs k hk c hc)
 exact⟨a 0 (by omega),a 1 (by omega),a 2 (by omega),h.frozenAt _,h.frozenAt _,h.frozenAt _⟩
theorem qjh {w:World} (b:Bool) (g n:Nat) (d:Array (List UInt8)) (os:Array Obj):w.grownBy (sortWorldK (encR b) 3 w g 0 n d os) (some g):=by
 refine⟨rfl,rfl,rfl,?_,fun k hk hne=>?_⟩
 ·unfold sortWorldK
  rw [size_grow,size_putRowK];exact Nat.le_add_right _ _
 ·unfold sortWorldK
  rw [heap_grow_old _ _ (by rw [size_putRowK];exact hk)];show((Go.Sort.ahead w n).heap.modify g _)[k]?=w.heap[k]?
  rw [Array.getElem?_modify,if_neg (fun e=>hne (by rw [e]))]
  rfl
end Go.Proofs.YtpodopnmkjinhaaGreatDoor
namespace Go.Proofs.YtpodopnmkjinhaaGreatDoor
open Go.Lib (hid)
open Go.RowKit
theorem qrT:(prog.info? 143).map (fun i=>(i.zero,i.size,i.bytes))=some (some (.agg #[.int .i64 0,.string .empty,.string .empty]),3,40):=by kernel_rfl
theorem qdC {b o:Nat} {v:Value} {w w':World} (hB:Below w.heap.size w w') (h:w.cell? ⟨b,o,none⟩=some v):w'.cell? ⟨b,o,none⟩=some v:=by
 have hl:=World.block_lt_of_cell? w _ h
 unfold World.cell? at h ⊢
 rw [hB.block b hl];exact h
theorem qjA (b:Bool) (R:Nat) (A:Option Addr) (c:Nat) (ls:List (List UInt8)) (w:World) (hT:qat w (fun _=>True) A ls) (hl:ls.length≤1099511627776) (hR:w.cell? ⟨R,0,none⟩=some (.bool b)) (hsz:∀l∈ls,l.length≤1099511627776):
  Calls prog 118 #[.slice A ls.length c,.func (.func 120) #[] #[.pointer (some ⟨R,0,none⟩)]] w fun e w'=>∃B d,e=.returned (.slice B ls.length d)∧w'.ownsRow w.heap.size 143 3 (.slice B ls.length d) ls.length (ls.flatMap (encR b))∧Below w.heap.size w w':=by
 obtain⟨i0,hi,hz0,hz1,hz2⟩:=info_parts qrT;have eg:∀args w,(callFunc 120 args).run prog w=.ok (.enter 120 args) w:=enters_of func120 (by kernel_rfl) rfl
 go_enter func118,ntmps118;go_wp2_with fail;go_loopw [5,10] (fun v i wr=>∃(k:Nat) (B:Option Addr) (d:Nat),k≤ls.length∧i=.int .i64 k∧v=.slice B k d∧Hid (Below w.heap.size w wr)∧Hid (wr.ownsRow w.heap.size 143 3 (.slice B k d) k ((ls.take k).flatMap (encR b)))) (fun _ i _=>ls.length-(intOf i).toNat)
 case atStart=>exact⟨0,none,0,Nat.zero_le _,rfl,rfl,hid (Below.refl _ _),hid (World.ownsRow_nil _ _ _ _)⟩
 case round=>
  obtain⟨k,B,d,hk,rfl,rfl,HB,HO⟩:=hrel;by_cases hlt:k<ls.length
  ·obtain⟨g,o,rfl,-,hcx⟩:=hT k hlt
   have hcx:=qdC HB.out hcx;have hRr:=qdC HB.out hR;have HS:Hid ((ls.take k).flatMap (encR b)++encR b ls[k]=(ls.take (k+1)).flatMap (encR b)):=hid (by rw [List.take_succ_eq_append_getElem hlt,List.flatMap_append];simp)
   obtain⟨x,hx⟩:=qQ (ls[k])
   rw [hx] at hcx HS;have cF:=qzp b R x wr hRr (World.block_lt_of_cell? wr _ hRr) (hx▸hsz _ (List.getElem_mem hlt))
   have hO:=HO.out;clear HO hx hT hR hRr hsz;go_wp2_with (first
    |(go_at_fn 120;refine cF.mono ?_;rintro e w6 ⟨rfl,hb6⟩;have hB6:=HB.out.trans (hb6.mono HB.out.size);have hrow6:=own_below hO hb6)
    |(at_builtin;refine wpList_append_own _ rfl _ _ 136 rfl w.heap.size 143 i0 _ 3 40 underlying136 hi hz0 hz1 hz2 rfl (by decide) _ _ _ rfl (hrow6.alloc _) ⟨w6.heap.size,0,none⟩ 1 1 (encR b x) rfl rfl ?c1 ?c2 ?c3 ?c4 ?c5 ?_))
   case c1=>exact World.news_of_block (heap_alloc_new w6 _)
   case c2=>simp [encR,Value.oneCell']
   case c3=>unfold maxLen;omega
   case c4=>omega
   case c5=>have:=hB6.size;simp;omega
   intro v' w7 hown7 hg _
   obtain⟨g',cap',rfl⟩:=ownsRow_succ hown7;have HB7:Hid (Below w.heap.size w w7):=hid ((hB6.alloc hB6.size _).grown hg (by have:=hB6.size;simp;omega) (fun j e=>(hrow6.lt j e).1))
   rw [HS.out] at hown7;have HO7:=hid hown7;clear hown7 hg hrow6 hB6;go_wp2_with fail;go_roundw
   case rel=>exact⟨k+1,_,_,by omega,by go_num,rfl,HB7,HO7⟩
   case measure=>simp [intOf];omega
  ·obtain rfl:k=ls.length:=by omega
   have hO:=HO.out;rw [List.take_length] at hO;clear HO hT hR;go_wp2_with fail;go_ret;exact⟨B,d,rfl,hO,HB.out⟩
end Go.Proofs.YtpodopnmkjinhaaGreatDoor
namespace Go.Proofs.YtpodopnmkjinhaaGreatDoor
open Go.Lib (hid)
open Go.RowKit Go.Sort
theorem qlO:∀(l:List (List UInt8)) (x y:List UInt8),qaI (l++[x]++[y])=if x=y then qaI (l++[x]) else qaI (l++[x])++[y]
 |[],x,y=>by by_cases h:x=y<;>simp [qaI,h]
 |[z],x,y=>by
  have h1:qaI ([z]++[x]++[y])=if z=x then qaI [x,y] else z::qaI [x,y]:=rfl
  have h2:qaI ([z]++[x])=if z=x then qaI [x] else z::qaI [x]:=rfl
  rw [h1,h2];by_cases h:x=y<;>by_cases h':z=x<;>simp [qaI,h,h']
 |z::u::l,x,y=>by
  have ih:=qlO (u::l) x y
  have h1:qaI (z::u::l++[x]++[y])=if z=u then qaI (u::l++[x]++[y]) else z::qaI (u::l++[x]++[y]):=rfl
  have h2:qaI (z::u::l++[x])=if z=u then qaI (u::l++[x]) else z::qaI (u::l++[x]):=rfl
  rw [h1,h2,ih];by_cases h:x=y<;>by_cases h':z=u<;>simp [h,h']
theorem qlP (xs:List (List UInt8)) (k:Nat) (h:k+1<xs.length):qaI (xs.take (k+2))=if xs[k]'(by omega)=xs[k+1] then qaI (xs.take (k+1)) else qaI (xs.take (k+1))++[xs[k+1]]:=by
 rw [List.take_succ_eq_append_getElem (i:=k+1) h,List.take_succ_eq_append_getElem (i:=k) (by omega),qlO]
theorem qfO:∀xs:List (List UInt8),(qaI xs).length≤xs.length
 |[]=>by simp [qaI]
 |[_]=>by simp [qaI]
 |x::y::r=>by
  have ih:=qfO (y::r)
  unfold qaI;split
  ·simp only [List.length_cons] at ih ⊢;omega
  ·simp only [List.length_cons] at ih ⊢;omega
theorem qop (xs:List (List UInt8)) (h:xs.length<2):qaI xs=xs:=by
 match xs,h with
 |[],_=>rfl
 |[_],_=>rfl
 |_::_::_,h=>simp at h;omega
theorem qo1 (W:World):(zeroValue 143).run prog W=.ok (.agg #[.int .i64 0,.string .empty,.string .empty]) W:=by
 have h:=qrT;obtain⟨i,hi,hz⟩:=Option.map_eq_some_iff.1 h;simp only [Prod.mk.injEq] at hz
 simp [zeroValue,typeInfo,hi,hz.1,go_sem]
theorem qbD.block {n:Bool} {g:Nat} {xs:List (List UInt8)} {w w':World} (h:qbD n g xs w) (e:w'.heap[g]?=w.heap[g]?):qbD n g xs w':=qbD.mk' fun k hk=>by
 obtain⟨a0,a1,a2,b0,b1,b2⟩:=h.at k hk;refine⟨?_,?_,?_,?_,?_,?_⟩<;>first|(simp only [World.cell?,e];assumption)|(simp only [World.frozen?,e];assumption)
theorem qbD.grow {n:Bool} {g:Nat} {xs:List (List UInt8)} {w:World} (h:qbD n g xs w) (hg:g<w.heap.size) (q:Nat) (os:Array Obj):qbD n g xs (grow (w.drewN q) os):=h.block (heap_grow_old _ _ hg)
theorem qeF {w w':World} {r:Option Nat} (h:w.grownBy w' r) (n:Nat) (os:Array Obj):w.grownBy (grow (w'.drewN n) os) r:=
 ⟨h.os,h.tape,h.output,by rw [size_grow];exact Nat.le_trans h.size (Nat.le_add_right _ _),fun k hk hr=>(heap_grow_old _ _ (Nat.lt_of_lt_of_le hk h.size)).trans (h.block k hk hr)⟩
theorem qeE {w w':World} {g:Nat} (h:w.grownBy w' (some g)) (o:Nat) (v:Value):w.grownBy (w'.setCell ⟨g,o,none⟩ v) (some g):=
 ⟨h.os,h.tape,h.output,by simpa using h.size,fun k hk hr=>(Below.heap_setCell _ _ _ _ (fun e=>hr (by rw [e]))).trans (h.block k hk hr)⟩
theorem qbD.put {n:Bool} {g:Nat} {xs:List (List UInt8)} {w:World} (h:qbD n g xs w) (a:Nat) (x:List UInt8):
  qbD n g (xs.set a x) (((w.setCell ⟨g,a*3,none⟩ (.int .i64 (nmP n x).1)).setCell ⟨g,a*3+1,none⟩ (encS (nmP n x).2)).setCell ⟨g,a*3+2,none⟩ (encS x)):=qbD.mk' fun k hk=>by
 rw [List.length_set] at hk;obtain⟨a0,a1,a2,b0,b1,b2⟩:=h.at k hk;have q:∀(w:World) (o p:Nat) (v:Value),o≠p→(w.setCell ⟨g,o,none⟩ v).cell? ⟨g,p,none⟩=w.cell? ⟨g,p,none⟩:=fun w o p v hne=>by
  have:=World.cell?_setCells_out g [v] o w ⟨g,p,none⟩ (fun _ _=>by simp only [List.length_singleton];omega)
  exact this
 have f:∀(w:World) (o p:Nat) (v:Value),(w.setCell ⟨g,o,none⟩ v).frozen? ⟨g,p,none⟩=w.frozen? ⟨g,p,none⟩:=fun w o p v=>World.frozen?_setCells g [v] o w ⟨g,p,none⟩
 have s:∀(w:World) (o:Nat) (v u:Value),w.cell? ⟨g,o,none⟩=some u→(w.setCell ⟨g,o,none⟩ v).cell? ⟨g,o,none⟩=some v:=fun w o v u h=>World.cell?_setCell_same _ _ _ h
 refine⟨?_,?_,?_,by rw [f,f,f];exact b0,by rw [f,f,f];exact b1,by rw [f,f,f];exact b2⟩
 ·rw [List.getElem_set]
  by_cases e:a=k
  ·subst e
   rw [if_pos rfl,q _ _ _ _ (by omega),q _ _ _ _ (by omega),s _ _ _ _ a0]
  ·rw [if_neg e,q _ _ _ _ (by omega),q _ _ _ _ (by omega),q _ _ _ _ (by omega)];exact a0
 ·rw [List.getElem_set]
  by_cases e:a=k
  ·subst e
   rw [if_pos rfl,q _ _ _ _ (by omega),s _ _ _ _ ((q _ _ _ _ (by omega)).trans a1)]
  ·rw [if_neg e,q _ _ _ _ (by omega),q _ _ _ _ (by omega),q _ _ _ _ (by omega)];exact a1
 ·rw [List.getElem_set]
  by_cases e:a=k
  ·subst e
   rw [if_pos rfl,s _ _ _ _ (((q _ _ _ _ (by omega)).trans (q _ _ _ _ (by omega))).trans a2)]
  ·rw [if_neg e,q _ _ _ _ (by omega),q _ _ _ _ (by omega),q _ _ _ _ (by omega)];exact a2
theorem qhW {g:Nat}:∀(vs:List Value) (o:Nat) (w:World),w.grownBy (w.setCells g o vs) (some g)
 |[],_,w=>⟨rfl,rfl,rfl,Nat.le_refl _,fun _ _ _=>rfl⟩
 |v::r,o,w=>by
  have h1:w.grownBy (w.setCell ⟨g,o,none⟩ v) (some g):=qeE ⟨rfl,rfl,rfl,Nat.le_refl _,fun _ _ _=>rfl⟩ o v
  have h2:=qhW (g:=g) r (o+1) (w.setCell ⟨g,o,none⟩ v)
  exact⟨h2.os.trans h1.os,h2.tape.trans h1.tape,h2.output.trans h1.output,Nat.le_trans h1.size h2.size,fun k hk hr=>(h2.block k (Nat.lt_of_lt_of_le hk h1.size) hr).trans (h1.block k hk hr)⟩
theorem qpe {n:Bool} {g:Nat} {ys:List (List UInt8)} {w:World} (h:qbD n g ys w) (a:Nat) (ha:a<ys.length):
  ∃W,(∀cc ty,(Builtin.clear_ #[136] ty #[.slice (some ⟨g,a*3,none⟩) (ys.length-a) cc]).run prog w=.ok (.tuple #[]) W)∧qbD n g (ys.take a) W∧w.grownBy W (some g):=by
 have hall:∀j,j<(ys.length-a)*3→(w.cell? ⟨g,a*3+j,none⟩).isSome=true∧w.frozen? ⟨g,a*3+j,none⟩=false:=fun j hj=>by
  obtain⟨k,c,rfl,hc⟩:∃k c,j=k*3+c∧c<3:=⟨j/3,j%3,by omega,by omega⟩
  obtain⟨a0,a1,a2,b0,b1,b2⟩:=h.at (a+k) (by omega)
  rw [show a*3+(k*3+c)=(a+k)*3+c by omega]
  match c,hc with
  |0,_=>rw [Nat.add_zero];exact⟨by rw [a0];rfl,b0⟩
  |1,_=>exact⟨by rw [a1];rfl,b1⟩
  |2,_=>exact⟨by rw [a2];rfl,b2⟩
 obtain⟨L,hL⟩:=qQ ((Builtin.zeroCells (Value.agg #[.int .i64 0,.string .empty,.string .empty]).cells (ys.length-a)).toList)
 have hlen:L.length=(ys.length-a)*3:=by rw [← hL];simp [Builtin.zeroCells,Value.cells]
 have hone:∀v∈L,v.oneCell'=true:=fun v hv=>by
  rw [← hL] at hv;simp only [Builtin.zeroCells,Array.toList_map,List.mem_map] at hv
  obtain⟨i,-,rfl⟩:=hv;have hz:(Value.agg #[.int .i64 0,.string .empty,.string .empty]).cells=#[.int .i64 0,.string .empty,.string .empty]:=rfl
  rw [hz];have h3:i%3<3:=Nat.mod_lt _ (by omega)
  generalize hm:i%(#[Value.int .i64 0,.string .empty,.string .empty]:Array Value).size=m
  have h3:m<3:=by rw [← hm];exact Nat.mod_lt _ (by simp)
  match m,h3 with
  |0,_=>rfl
  |1,_=>rfl
  |2,_=>rfl
 have hst:=run_storeCells_cells (P:=prog) g (a*3) L 0 w (fun j hj=>by simpa using (hall j (by omega)).1) (fun j hj=>by simpa using (hall j (by omega)).2) hone
 simp only [Nat.add_zero] at hst
 obtain⟨m,hm⟩:∃m,ys.length-a=m+1:=⟨ys.length-a-1,by omega⟩
 have hz:=qo1 w;refine⟨w.setCells g (a*3) L,?_,?_,?_⟩
 ·intro cc ty
  rw [hm] at hL ⊢;simp [Builtin.clear_,run_underlying underlying136,hz,hL,hst]
 ·refine qbD.mk' fun k hk=>?_
  rw [List.length_take] at hk;rw [List.getElem_take];obtain⟨a0,a1,a2,b0,b1,b2⟩:=h.at k (by omega)
  have q:∀p,p<a*3→(w.setCells g (a*3) L).cell? ⟨g,p,none⟩=w.cell? ⟨g,p,none⟩:=fun p hp=>World.cell?_setCells_out g L (a*3) w ⟨g,p,none⟩ (fun _ _=>.inl hp)
  refine⟨(q _ (by omega)).trans a0,(q _ (by omega)).trans a1,(q _ (by omega)).trans a2,?_,?_,?_⟩
  ·rw [World.frozen?_setCells];exact b0
  ·rw [World.frozen?_setCells];exact b1
  ·rw [World.frozen?_setCells];exact b2
 ·exact qhW L (a*3) w
theorem qsu (xs:List (List UInt8)) (k j:Nat) (h0:0<k) (h:k<xs.length) (hj:k-1=j):qaI (xs.take (k+1))=if xs[j]'(by omega)=xs[k] then qaI (xs.take k) else qaI (xs.take k)++[xs[k]]:=by
 obtain rfl:k=j+1:=by omega
 exact qlP xs j h
theorem qjg (w:World) (r:Option Nat):w.grownBy w r:=⟨rfl,rfl,rfl,Nat.le_refl _,fun _ _ _=>rfl⟩
theorem qhz (n0:Bool) (g cap:Nat) (xs:List (List UInt8)) (w:World) (hT:qbD n0 g xs w) (hg:g<w.heap.size) (hn:xs.length≤1099511627776) (hc:xs.length≤cap):
  Calls prog 125 #[.slice (some ⟨g,0,none⟩) xs.length cap,.func (.func 126) #[] #[]] w fun e w'=>e=.returned (.slice (some ⟨g,0,none⟩) (qaI xs).length cap)∧qbD n0 g (qaI xs) w'∧w.grownBy w' (some g):=by
 have eg:∀args w,(callFunc 126 args).run prog w=.ok (.enter 126 args) w:=enters_of func126 (by kernel_rfl) rfl
 have mixed:prog.follows .mixedOrders=true:=by kernel_rfl
 have hol:=qfO xs;obtain⟨os,hos⟩:∃o,qaI xs=o:=⟨_,rfl⟩
 rw [hos] at hol ⊢;have HOS:=hid hos;clear hos;by_cases h2:xs.length<2
 ·have he:xs=os:=by rw [← HOS.out,qop xs h2]
  subst he;have HT:=hid hT;clear hT;go_enter func125,ntmps125;go_wp2_with fail;go_ret;exact⟨rfl,HT.out,qjg _ _⟩
 ·have HT:=hid hT
  clear hT;go_enter func125,ntmps125;go_wp2_with fail;go_loopw [5] (fun vk wr=>∃k:Nat,vk=.int .i64 k∧1≤k∧k≤xs.length∧Hid (qaI (xs.take k)=xs.take k)∧Hid (qbD n0 g xs wr)∧Hid (w.grownBy wr (some g))) (fun vk _=>xs.length-(intOf vk).toNat)
  case atStart=>exact⟨1,rfl,Nat.le_refl _,by omega,hid (qop _ (by rw [List.length_take];omega)),HT,hid (qjg _ _)⟩
  case round=>
   obtain⟨k,rfl,hk1,hk,HO,HR,HG⟩:=hrel;clear HT;have hgr:g<wr.heap.size:=Nat.lt_of_lt_of_le hg HG.out.size
   by_cases hlt:k<xs.length
   ·obtain⟨j,hj⟩:=qQ (k-1)
    have hji:(k:Int)-1=(j:Int):=by omega
    have hjl:j<xs.length:=by omega
    have HKJ:=hid (show k=j+1 by omega)
    have HST:=hid (qsu xs k j (by omega) hlt hj)
    have H1:=HR.out.at k hlt;have H2:=HR.out.at j hjl;obtain⟨x,hx⟩:=qQ (xs[k])
    obtain⟨y,hy⟩:=qQ (xs[j])
    rw [hx,hy] at HST;rw [hx] at H1;rw [hy] at H2;obtain⟨a0',a1',a2',-⟩:=H1;obtain⟨b0',b1',b2',-⟩:=H2;have a0:=cell_grown (a:=⟨g,k*3,none⟩) hgr a0'
    have a1:=cell_grown (a:=⟨g,k*3+1,none⟩) hgr a1'
    have a2:=cell_grown (a:=⟨g,k*3+2,none⟩) hgr a2'
    have b0:=cell_grown (a:=⟨g,j*3,none⟩) hgr b0'
    have b1:=cell_grown (a:=⟨g,j*3+1,none⟩) hgr b1'
    have b2:=cell_grown (a:=⟨g,j*3+2,none⟩) hgr b2'
    have cS:=fun n os=>qs8 n0 x y (grow (wr.drewN n) os)
    unfold encR at cS;have HX:=hid hx;clear hx hy hj a0' a1' a2' b0' b1' b2';by_cases hxy:y=x
    ·have hb:(x==y)=true:=by simp [hxy]
     have HN:Hid (qaI (xs.take (k+1))=xs.take k):=hid (by rw [HST.out,if_pos hxy,HO.out])
     clear HST HX hxy;rw [hb] at cS;go_wp2_with fail;refine wp_region_quiet_grown mixed (by kernel_rfl) ?_
     repeat (go_big_quiet_step (first|(go_at_fn 126;refine Calls.grown_of (cS _ _))))
     refine wpQuiet_nil ?_
     intro _ hw'
     obtain⟨⟨nq,osq⟩,hw''⟩:=hw'
     dsimp only at hw''
     subst hw'';obtain⟨wo,hwo⟩:=qQ (grow (wr.drewN nq) osq)
     have HRo:=hid (show qbD n0 g xs wo by rw [← hwo];exact HR.out.grow hgr nq osq)
     have HGo:=hid (show w.grownBy wo (some g) by rw [← hwo];exact qeF HG.out nq osq)
     rw [hwo];clear hwo a0 a1 a2 b0 b1 b2 cS HR HG;have hckc:¬cap=k:=by omega
     have hkc:k<cap:=by omega
     obtain⟨m,hm⟩:=qQ (xs.length-k)
     have hmi:(xs.length:Int)-(k:Int)=(m:Int):=by omega
     have hmc:m≤cap-k:=by omega
     have hm0:0<m:=by omega
     go_wp2_with fail;go_loopw [5,7] (fun va vb wr=>∃(a b:Nat) (ys:List (List UInt8)),va=.int .i64 a∧vb=.int .i64 b∧1≤b∧b≤m∧a+1≤k+b∧Hid (ys.length=xs.length∧ys.drop (k+b-1)=xs.drop (k+b-1)∧ys.take a=qaI (xs.take (k+b)))∧Hid (qbD n0 g ys wr)∧Hid (w.grownBy wr (some g))) (fun _ vb _=>m-(intOf vb).toNat)
     case atStart=>exact⟨k,1,xs,rfl,rfl,Nat.le_refl _,by omega,Nat.le_refl _,hid ⟨rfl,rfl,HN.out.symm⟩,HRo,HGo⟩
     case round=>
      obtain⟨a,b,ys,rfl,rfl,hb1,hbm,hab,HY,HR,HG⟩:=hrel;clear HRo HGo;have hgr2:g<wr.heap.size:=Nat.lt_of_lt_of_le hg HG.out.size
      have HM:=hid hm;clear hm;by_cases hlb:b<m
      ·obtain⟨c,hc1⟩:=qQ (b-1)
       have hci:(b:Int)-1=(c:Int):=by omega
       have hcl:c<m:=by omega
       have hpl:k+b<xs.length:=by have:=HM.out;omega
       have hql:k+c<xs.length:=by have:=HM.out;omega
       have hsame:∀i (h1:k+b-1≤i) (h2:i<xs.length),ys[i]'(by rw [HY.out.1];exact h2)=xs[i]:=fun i h1 h2=>by
        have h:=congrArg (fun l=>l[i-(k+b-1)]?) HY.out.2.1
        simp only [List.getElem?_drop] at h
        rw [show k+b-1+(i-(k+b-1))=i by omega,List.getElem?_eq_getElem (by rw [HY.out.1];exact h2),List.getElem?_eq_getElem h2] at h;exact Option.some.inj h
       have HST:=hid (qsu xs (k+b) (k+c) (by omega) hpl (by omega))
       have H1:=HR.out.at (k+b) (by rw [HY.out.1];exact hpl)
       have H2:=HR.out.at (k+c) (by rw [HY.out.1];exact hql)
       have hal:a<xs.length:=by omega
       have H3:=HR.out.at a (by rw [HY.out.1];exact hal)
       rw [hsame (k+b) (by omega) hpl] at H1;rw [hsame (k+c) (by omega) hql] at H2;obtain⟨x2,hx⟩:∃x,xs[k+b]=x:=⟨_,rfl⟩
       obtain⟨y2,hy⟩:∃y,xs[k+c]=y:=⟨_,rfl⟩
       obtain⟨z2,hz⟩:∃z,ys[a]'(by rw [HY.out.1];exact hal)=z:=⟨_,rfl⟩
       rw [hx,hy] at HST;rw [hx,show(k+b)*3=k*3+b*3 by omega] at H1;rw [hy,show(k+c)*3=k*3+c*3 by omega] at H2;rw [hz] at H3;obtain⟨a0',a1',a2',-⟩:=H1;obtain⟨b0',b1',b2',-⟩:=H2;have a0:=cell_grown (a:=⟨g,k*3+b*3,none⟩) hgr2 a0'
       have a1:=cell_grown (a:=⟨g,k*3+b*3+1,none⟩) hgr2 a1'
       have a2:=cell_grown (a:=⟨g,k*3+b*3+2,none⟩) hgr2 a2'
       have b0:=cell_grown (a:=⟨g,k*3+c*3,none⟩) hgr2 b0'
       have b1:=cell_grown (a:=⟨g,k*3+c*3+1,none⟩) hgr2 b1'
       have b2:=cell_grown (a:=⟨g,k*3+c*3+2,none⟩) hgr2 b2'
       have cS:=fun n os=>qs8 n0 x2 y2 (grow (wr.drewN n) os)
       unfold encR at cS;have HX2:=hid (show ys[k+b]'(by rw [HY.out.1];exact hpl)=x2 from(hsame (k+b) (by omega) hpl).trans hx)
       have HX:=hid hx;have HD:Hid (ys.drop (k+b)=xs.drop (k+b)):=hid (by
        have h:=congrArg (List.drop 1) HY.out.2.1
        rw [List.drop_drop,List.drop_drop,show k+b-1+1=k+b by omega] at h;exact h)
       clear hx hy hz hc1 a0' a1' a2' b0' b1' b2' H3 hsame;by_cases hxy:y2=x2
       ·have hb:(x2==y2)=true:=by simp [hxy]
        have HN2:Hid (ys.take a=qaI (xs.take (k+(b+1)))):=hid (by rw [HY.out.2.2,show k+(b+1)=k+b+1 by omega,HST.out,if_pos hxy])
        clear HST HX hxy;rw [hb] at cS;go_wp2_with fail;refine wp_region_quiet_grown mixed (by kernel_rfl) ?_
        repeat (go_big_quiet_step (first|(go_at_fn 126;refine Calls.grown_of (cS _ _))))
        refine wpQuiet_nil ?_
        intro _ hw'
        obtain⟨⟨nq,osq⟩,hw''⟩:=hw'
        dsimp only at hw''
        subst hw'';obtain⟨wo,hwo⟩:=qQ (grow (wr.drewN nq) osq)
        have HRo:=hid (show qbD n0 g ys wo by rw [← hwo];exact HR.out.grow hgr2 nq osq)
        have HGo:=hid (show w.grownBy wo (some g) by rw [← hwo];exact qeF HG.out nq osq)
        rw [hwo];clear hwo a0 a1 a2 b0 b1 b2 cS HR HG;go_wp2_with fail;go_roundw
        case rel=>exact⟨a,b+1,ys,rfl,by go_num,by omega,by omega,by omega,hid ⟨HY.out.1,by rw [show k+(b+1)-1=k+b by omega];exact HD.out,HN2.out⟩,HRo,HGo⟩
        case measure=>simp [intOf];omega
       ·have hb:(x2==y2)=false:=by simpa using fun e=>hxy e.symm
        have HN2:Hid (ys.take a++[x2]=qaI (xs.take (k+(b+1)))):=hid (by rw [HY.out.2.2,show k+(b+1)=k+b+1 by omega,HST.out,if_neg hxy])
        clear HST HX hxy;rw [hb] at cS;go_wp2_with fail;refine wp_region_quiet_grown mixed (by kernel_rfl) ?_
        repeat (go_big_quiet_step (first|(go_at_fn 126;refine Calls.grown_of (cS _ _))))
        refine wpQuiet_nil ?_
        intro _ hw'
        obtain⟨⟨nq,osq⟩,hw''⟩:=hw'
        dsimp only at hw''
        subst hw'';obtain⟨wo,hwo⟩:=qQ (grow (wr.drewN nq) osq)
        have HRo:=hid (show qbD n0 g ys wo by rw [← hwo];exact HR.out.grow hgr2 nq osq)
        have HGo:=hid (show w.grownBy wo (some g) by rw [← hwo];exact qeF HG.out nq osq)
        rw [hwo];clear hwo a0 a1 a2 b0 b1 b2 cS HR HG;have H1:=HRo.out.at (k+b) (by rw [HY.out.1];exact hpl)
        have H3:=HRo.out.at a (by rw [HY.out.1];exact hal)
        have hyx:ys[k+b]'(by rw [HY.out.1];exact hpl)=x2:=HX2.out
        rw [hyx,show(k+b)*3=k*3+b*3 by omega] at H1;generalize ys[a]'(by rw [HY.out.1];exact hal)=z2 at H3
        obtain⟨c0,c1,c2,-⟩:=H1;obtain⟨d0,d1,d2,f0,f1,f2⟩:=H3;have hal2:(a:Int)<(xs.length:Int):=by omega
        have hbl2:(b:Int)<(m:Int):=by omega
        have HR3:=hid (HRo.out.put a x2)
        have HG3:=hid (qeE (qeE (qeE HGo.out (a*3) (.int .i64 (nmP n0 x2).1)) (a*3+1) (encS (nmP n0 x2).2)) (a*3+2) (encS x2))
        clear hyx HRo HGo;go_wp2_with fail;go_roundw
        case rel=>exact⟨a+1,b+1,ys.set a x2,by go_num,by go_num,by omega,by omega,by omega,hid ⟨by rw [List.length_set];exact HY.out.1,by
         rw [show k+(b+1)-1=k+b by omega,List.drop_set_of_lt (by omega)];exact HD.out,by
         rw [← HN2.out,List.take_succ_eq_append_getElem (by rw [List.length_set,HY.out.1];exact hal),List.take_set_of_le (Nat.le_refl _)];simp⟩,HR3,HG3⟩
        case measure=>simp [intOf];omega
      ·obtain rfl:b=m:=by omega
       have han:a<xs.length:=by have:=HM.out;omega
       obtain⟨W,hcl,hRW,hGW⟩:=qpe HR.out a (by rw [HY.out.1];exact han)
       rw [HY.out.1] at hcl;have hkm:k+b=xs.length:=by have:=HM.out;omega
       have HOE:Hid (ys.take a=os∧os.length=a):=hid (by
        have h:=HY.out.2.2;rw [hkm,List.take_length,HOS.out] at h;exact⟨h,by rw [← h,List.length_take,HY.out.1];omega⟩)
       have hca:¬cap=a:=by omega
       have hac:a<cap:=by omega
       have HF:=hid (show qbD n0 g os W∧w.grownBy W (some g) from⟨by rw [← HOE.out.1];exact hRW,⟨hGW.os.trans HG.out.os,hGW.tape.trans HG.out.tape,hGW.output.trans HG.out.output,Nat.le_trans HG.out.size hGW.size,fun i hi hr=>(hGW.block i (Nat.lt_of_lt_of_le hi HG.out.size) hr).trans (HG.out.block i hi hr)⟩⟩)
       clear hRW hGW HR HG HY hkm;go_wp2_with fail;go_ret;exact⟨by rw [HOE.out.2];rfl,HF.out.1,HF.out.2⟩
    ·have hb:(x==y)=false:=by simpa using fun e=>hxy e.symm
     have HN:Hid (qaI (xs.take (k+1))=xs.take (k+1)):=hid (by
      rw [HST.out,if_neg hxy,HO.out,List.take_succ_eq_append_getElem hlt,HX.out])
     clear HST HX HO;rw [hb] at cS;go_wp2_with fail;refine wp_region_quiet_grown mixed (by kernel_rfl) ?_
     repeat (go_big_quiet_step (first|(go_at_fn 126;refine Calls.grown_of (cS _ _))))
     refine wpQuiet_nil ?_
     intro _ hw'
     obtain⟨⟨nq,osq⟩,hw''⟩:=hw'
     dsimp only at hw''
     subst hw'';obtain⟨wo,hwo⟩:=qQ (grow (wr.drewN nq) osq)
     have HRo:=hid (show qbD n0 g xs wo by rw [← hwo];exact HR.out.grow hgr nq osq)
     have HGo:=hid (show w.grownBy wo (some g) by rw [← hwo];exact qeF HG.out nq osq)
     rw [hwo];clear hwo a0 a1 a2 b0 b1 b2 cS HR HG;go_wp2_with fail;go_roundw
     case rel=>exact⟨k+1,by go_num,by omega,by omega,HN,HRo,HGo⟩
     case measure=>simp [intOf];omega
   ·obtain rfl:k=xs.length:=by omega
    have HE:Hid (xs=os):=hid (by
     have h:=HO.out;rw [List.take_length] at h;rw [← h,HOS.out])
    have HF:=hid (And.intro HR.out HG.out)
    clear HR HG HO;go_wp2_with fail;go_ret;rw [← HE.out];exact⟨rfl,HF.out.1,HF.out.2⟩
end Go.Proofs.YtpodopnmkjinhaaGreatDoor
namespace Go.Proofs.YtpodopnmkjinhaaGreatDoor
open Go.RowKit
def Mix {α:Type} (k:Nat) (xs ys:List α):Prop:=ys.length=xs.length∧∀t,t<xs.length→ys[t]?=if t<k∨xs.length≤t+k then xs[xs.length-1-t]? else xs[t]?
theorem Mix.zero {α:Type} (xs:List α):Mix 0 xs xs:=⟨rfl,fun t ht=>by rw [if_neg (by omega)]⟩
theorem Mix.done {α:Type} {k:Nat} {xs ys:List α} (h:Mix k xs ys) (hk:xs.length≤k+k+1):ys=xs.reverse:=by
 apply List.ext_getElem?
 intro t
 by_cases ht:t<xs.length
 ·rw [h.2 t ht,List.getElem?_reverse ht]
  by_cases hc:t<k∨xs.length≤t+k
  ·rw [if_pos hc]
  ·rw [if_neg hc,show xs.length-1-t=t by omega]
 ·rw [List.getElem?_eq_none (by rw [h.1];omega),List.getElem?_eq_none (by rw [List.length_reverse];omega)]
theorem Mix.step {α:Type} {k:Nat} {xs ys:List α} (h:Mix k xs ys) (hk:k+k+1<xs.length) {a b:α} (ha:ys[k]?=some a) (hb:ys[xs.length-1-k]?=some b):
  Mix (k+1) xs ((ys.set k b).set (xs.length-1-k) a):=by
 have h1:=h.2 k (by omega)
 have h2:=h.2 (xs.length-1-k) (by omega)
 rw [if_neg (by omega)] at h1 h2;refine⟨by simp [h.1],fun t ht=>?_⟩
 rw [List.getElem?_set,List.getElem?_set,List.length_set,h.1];by_cases e2:xs.length-1-k=t
 ·subst e2
  rw [if_pos rfl,if_pos (by omega),if_pos (by omega),show xs.length-1-(xs.length-1-k)=k by omega,← h1,ha]
 ·rw [if_neg e2]
  by_cases e1:k=t
  ·subst e1
   rw [if_pos rfl,if_pos (by omega),if_pos (by omega),← h2,hb]
  ·rw [if_neg e1,h.2 t ht]
   by_cases hc:t<k∨xs.length≤t+k
   ·rw [if_pos hc,if_pos (by omega)]
   ·rw [if_neg hc,if_neg (by omega)]
theorem Mix.mid {α:Type} {k:Nat} {xs ys:List α} (h:Mix k xs ys) {t:Nat} (h1:k≤t) (h2:t+k<xs.length):ys[t]?=xs[t]?:=by
 rw [h.2 t (by omega),if_neg (by omega)]
end Go.Proofs.YtpodopnmkjinhaaGreatDoor
namespace Go.Proofs.YtpodopnmkjinhaaGreatDoor
open Go.Lib (hid)
open Go.RowKit
abbrev One (b:Nat) (w w':World):Prop:=w.grownBy w' (some b)
theorem One.refl (b:Nat) (w:World):One b w w:=⟨rfl,rfl,rfl,Nat.le_refl _,fun _ _ _=>rfl⟩
theorem One.trans {b:Nat} {w w' w'':World} (h:One b w w') (k:One b w' w''):One b w w'':=
 ⟨k.os.trans h.os,k.tape.trans h.tape,k.output.trans h.output,Nat.le_trans h.size k.size,fun g h1 h2=>(k.block g (Nat.lt_of_lt_of_le h1 h.size) h2).trans (h.block g h1 h2)⟩
theorem One.drewN {b:Nat} {w w':World} (h:One b w w') (n:Nat):One b w (w'.drewN n):=⟨h.os,h.tape,h.output,h.size,h.block⟩
theorem One.setCell {b:Nat} {w w':World} (h:One b w w') (o:Nat) (v:Value):One b w (w'.setCell ⟨b,o,none⟩ v):=
 h.trans ⟨rfl,rfl,rfl,by simp,fun g _ hb=>Below.heap_setCell _ _ _ _ (fun e=>hb (by rw [e]))⟩
theorem One.of_below {b:Nat} {w w':World} (h:Below w.heap.size w w'):One b w w':=⟨h.os,h.tape,h.output,h.size,fun g hg _=>h.block g hg⟩
theorem One.bears {b:Nat} {w w':World} (h:One b w w') (B:Nat):Bears B b w w':=⟨h.os,h.tape,h.output,h.size,fun g hg hb _=>h.block g hg (fun e=>hb (Option.some.inj e))⟩
def inB (of:List UInt8) (c:UInt8):Bool:=decide (0≤Lib.indexByte of c)
def qcB (of:List UInt8) (most:Nat) (t:List UInt8):List UInt8:=(t.take most).takeWhile (inB of)
theorem qku (of:List UInt8) (most:Nat) (t:List UInt8):(qcB of most t).length≤most∧(qcB of most t).length≤t.length:=by
 have h1:=(List.takeWhile_sublist (inB of) (l:=t.take most)).length_le
 rw [List.length_take] at h1;unfold qcB;omega
theorem qdN (cs:Array Value) (o:Nat) (u v:Value):(cs.setIfInBounds o u).setIfInBounds o v=cs.setIfInBounds o v:=by simp
theorem takeWhile_take {α:Type} (p:α→Bool):∀l:List α,l.take (l.takeWhile p).length=l.takeWhile p
 |[]=>rfl
 |x::r=>by
  rw [List.takeWhile_cons];split
  ·simp [takeWhile_take p r]
  ·rfl
theorem qoG (of:List UInt8) (most:Nat) (t:List UInt8):t.take (qcB of most t).length=qcB of most t:=by
 have h1:=takeWhile_take (inB of) (t.take most)
 rw [List.take_take] at h1;have h2:=qku of most t;unfold qcB at h2 ⊢
 rwa [Nat.min_eq_left h2.1] at h1
theorem qcF {α:Type} (p:α→Bool):∀(l:List α),∀x∈l.takeWhile p,p x=true
 |[],x,h=>by simp at h
 |y::r,x,h=>by
  rw [List.takeWhile_cons] at h;split at h
  ·rename_i hy
   rcases List.mem_cons.1 h with rfl|h
   ·exact hy
   ·exact qcF p r x h
  ·simp at h
theorem runq_in (of:List UInt8) (most:Nat):∀(t:List UInt8) (j:Nat) (h:j<t.length),j<(qcB of most t).length→inB of t[j]=true:=by
 intro t j h hj
 have h1:t[j]=(qcB of most t)[j]:=by
  have e:(qcB of most t)[j]=(t.take (qcB of most t).length)[j]'(by rw [List.length_take];omega):=by simp only [qoG]
  rw [e,List.getElem_take]
 rw [h1];exact qcF (inB of) (t.take most) _ (List.getElem_mem hj)
theorem qe4 {α:Type} (p:α→Bool):∀(l:List α) (h:(l.takeWhile p).length<l.length),p l[(l.takeWhile p).length]=false
 |[],h=>by simp at h
 |x::r,h=>by
  cases hx:p x with
  |true=>
   have e:((x::r).takeWhile p)=x::r.takeWhile p:=by rw [List.takeWhile_cons,if_pos hx]
   simp only [e,List.length_cons,List.getElem_cons_succ]
   exact qe4 p r (by rw [e] at h;simpa using h)
  |false=>
   have e:((x::r).takeWhile p)=[]:=by rw [List.takeWhile_cons,if_neg (by rw [hx];simp)]
   simp only [e,List.length_nil,List.getElem_cons_zero]
   exact hx
theorem qvx (of:List UInt8) (most:Nat) (t:List UInt8) (h:(qcB of most t).length<t.length) (hm:(qcB of most t).length<most):inB of t[(qcB of most t).length]=false:=by
 have h1:=qe4 (inB of) (t.take most) (by unfold qcB at h hm;rw [List.length_take];omega)
 rw [List.getElem_take] at h1;exact h1
theorem qfL (b:Nat) (S:ByteArray) (q:Nat) (w:World) (c0:w.cell? ⟨b,0,none⟩=some (.string S)) (c1:w.cell? ⟨b,1,none⟩=some (.int .i64 q)):
  Calls prog 104 #[.pointer (some ⟨b,0,none⟩)] w fun e w'=>e=.returned (.bool (decide (q<S.size)))∧∃m,w'=w.drewN m:=by
 go_enter func104,ntmps104;go_wp2;go_quiet (fail)
 go_wp2;go_ret;exact⟨by simp,_,rfl⟩
theorem qkt (T:TypeId) (b:Nat) (cs:Array Value) (s of:List UInt8) (k most:Nat) (w:World) (hb:w.heap[b]?=some (.cells cs T (0,0))) (h0:cs[0]?=some (encS s)) (h1:cs[1]?=some (.int .i64 k)) (hk:k≤s.length) (hs:s.length≤140737488351232):
  Calls prog 105 #[.pointer (some ⟨b,0,none⟩),encS of,.int .i64 most] w fun e w'=>e=.returned (encS (qcB of most (s.drop k)))∧w'.heap[b]?=some (.cells (cs.setIfInBounds 1 (.int .i64 ((k+(qcB of most (s.drop k)).length:Nat):Int))) T (0,0))∧One b w w':=by
 obtain⟨S,hS⟩:∃S:ByteArray,(⟨s.toArray⟩:ByteArray)=S:=⟨_,rfl⟩
 obtain⟨O,hO⟩:∃O:ByteArray,(⟨of.toArray⟩:ByteArray)=O:=⟨_,rfl⟩
 have hsz:S.size=s.length:=by rw [← hS];simp [ByteArray.size]
 have HG:Hid (∀(k:Nat) (h:k<s.length) (h':k<S.size),S[k]'h'=s[k]):=hid fun k h h'=>by
  subst hS;simp [ByteArray.getElem_eq_getElem_data]
 have HX:Hid (∀i j,S.extract i j=⟨((s.take j).drop i).toArray⟩):=hid fun i j=>by
  rw [← hS]
  apply ByteArray.ext
  apply Array.toList_inj.1
  rw [ByteArray.data_extract,Array.toList_extract,List.extract_eq_take_drop,List.drop_take]
 obtain⟨L,hL⟩:=qQ ((qcB of most (s.drop k)).length)
 have hrl:=qku of most (s.drop k)
 rw [hL,List.length_drop] at hrl;have HT:=hid (qoG of most (s.drop k))
 rw [hL] at HT;have HI:Hid (∀q (h:q<s.length),k≤q→q<k+L→inB of s[q]=true):=hid fun q h hq hqL=>by
  have:=runq_in of most (s.drop k) (q-k) (by rw [List.length_drop];omega) (by omega)
  rw [List.getElem_drop] at this
  simpa [show k+(q-k)=q by omega] using this
 have HS:Hid (∀h:k+L<s.length,L<most→inB of s[k+L]=false):=hid fun h hm=>by
  have:=qvx of most (s.drop k) (by rw [hL,List.length_drop];omega) (by omega)
  rw [List.getElem_drop] at this
  simpa [hL] using this
 have cI:=fun(c:UInt8) W=>(Tryz.strings_IndexByte O (c.toNat:Int) W)
 have hOl:O.data.toList=of:=by rw [← hO]
 simp only [qcH,hOl] at cI
 have HB:Hid (∀c,inB of c=decide (0≤Lib.indexByte of c)):=hid fun _=>rfl
 rw [show encS of=.string O by rw [← hO]];rw [show encS s=.string S by rw [← hS]] at h0;rw [hL];have c0:w.cell? ⟨b,0,none⟩=some (.string S):=(Lib.cell_of_heap hb 0).trans h0
 have c1:w.cell? ⟨b,1,none⟩=some (.int .i64 k):=(Lib.cell_of_heap hb 1).trans h1
 have HC:Hid (cs.setIfInBounds 1 (.int .i64 k)=cs):=hid (by
  apply Array.ext
  ·simp
  ·intro i i1 i2
   rw [Array.getElem_setIfInBounds i2];split
   ·rename_i e
    subst e;rw [Array.getElem?_eq_getElem i2] at h1;exact(Option.some.inj h1).symm
   ·rfl)
 have HB0:=hid hb;have H0:=hid h0;have H1:=hid h1;have hRet:Hid ((⟨(qcB of most (s.drop k)).toArray⟩:ByteArray)=⟨((s.take (k+L)).drop k).toArray⟩):=hid (by rw [List.drop_take,show k+L-k=L by omega,HT.out])
 rw [show encS (qcB of most (s.drop k))=.string ⟨((s.take (k+L)).drop k).toArray⟩ by rw [← hRet.out]];clear hb h0 h1 hL hS hO hOl hRet HT;go_enter func105,ntmps105;go_wp2;go_loopg [] L (fun n wr=>∃q:Nat,q+n=k+L∧k≤q∧wr.heap[b]?=some (.cells (cs.setIfInBounds 1 (.int .i64 q)) T (0,0))∧One b w wr)
 case atStart=>exact⟨k,rfl,Nat.le_refl _,by rw [HC.out];exact HB0.out,One.refl _ _⟩
 case round=>
  obtain⟨q,hqn,hkq,hb,hW⟩:=hrel;have c0:wr.cell? ⟨b,0,none⟩=some (.string S):=(Lib.cell_of_heap hb 0).trans (by rw [Array.getElem?_setIfInBounds_ne (by omega)];exact H0.out)
  have c1:wr.cell? ⟨b,1,none⟩=some (.int .i64 q):=(Lib.cell_of_heap hb 1).trans (qcd H1.out)
  have f1:wr.frozen? ⟨b,1,none⟩=false:=Lib.frozen_of_heap hb 1
  have hsz1:(S.size:Int)=(s.length:Int):=by omega
  by_cases hlt:q<k+L
  ·have hql:q<s.length:=by omega
   obtain⟨c,hc⟩:=qQ (s[q])
   have hin:=HI.out q hql hkq hlt;rw [hc,HB.out] at hin;have hg:∀h,S[q]'h=c:=fun h=>by rw [HG.out q hql h,hc]
   have cM:∀n,Calls prog 104 #[.pointer (some ⟨b,0,none⟩)] (wr.drewN n) fun e w'=>e=.returned (.bool true)∧∃m,w'=(wr.drewN n).drewN m:=fun n=>(qfL b S q (wr.drewN n) c0 c1).mono fun e w' h=>⟨by rw [h.1,decide_eq_true (by omega)],h.2⟩
   have hdm:decide ((q:Int)-(k:Int)<(most:Int))=true:=by simp;omega
   have hS0:(q:Int)<(S.size:Int):=by omega
   go_wp2_with fail;go_quiet (first|(go_at_call 104;exact Calls.quiet_of (cM _))|(go_at_call 46;exact Calls.quiet_of_same (cI _ _)))
   have hb2:=heap_setCell_same (wr.drewN nq) b 1 _ T (.int .i64 ((q:Int)+1)) hb
   have hset:(cs.setIfInBounds 1 (.int .i64 (q:Int))).setIfInBounds 1 (.int .i64 ((q:Int)+1))=cs.setIfInBounds 1 (.int .i64 ((q:Int)+1)):=qdN _ _ _ _
   rw [hset] at hb2;have HB2:=hid (And.intro hb2 ((hW.drewN nq).setCell 1 (.int .i64 ((q:Int)+1))))
   clear hb2 hset hb hW hin hg cM HI HS HG;go_wp2_with fail;go_roundg (gk-1)
   case rel=>exact⟨q+1,by omega,by omega,by rw [show((q+1:Nat):Int)=(q:Int)+1 from by omega];exact HB2.out.1,HB2.out.2⟩
   case measure=>omega
  ·have hq:q=k+L:=by omega
   rw [← hq] at HS;have HQ:=hid hq;have hx:S.extract k q=⟨((s.take (k+L)).drop k).toArray⟩:=by rw [HX.out,hq]
   obtain⟨R,hR⟩:=qQ (S.extract k q)
   have HR:=hid (hR.symm.trans hx)
   clear hx;have hle:(q:Int)≤(S.size:Int):=by omega
   have hkq2:(k:Int)≤(q:Int):=by omega
   have HB2:=hid (And.intro hb hW)
   clear hb hW HI hq;by_cases hend:q<s.length
   ·have cM:∀n,Calls prog 104 #[.pointer (some ⟨b,0,none⟩)] (wr.drewN n) fun e w'=>e=.returned (.bool true)∧∃m,w'=(wr.drewN n).drewN m:=fun n=>(qfL b S q (wr.drewN n) c0 c1).mono fun e w' h=>⟨by rw [h.1,decide_eq_true (by omega)],h.2⟩
    by_cases hmm:L<most
    ·have hin:=HS.out hend hmm
     obtain⟨c,hc⟩:=qQ (s[q])
     rw [hc,HB.out] at hin;have hg:∀h,S[q]'h=c:=fun h=>by rw [HG.out _ hend h,hc]
     have hdm:decide ((q:Int)-(k:Int)<(most:Int))=true:=by have:=HQ.out;simp;omega
     have hS0:(q:Int)<(S.size:Int):=by omega
     clear HS HG hc HX;go_wp2_with fail;go_quiet (first|(go_at_call 104;exact Calls.quiet_of (cM _))|(go_at_call 46;exact Calls.quiet_of_same (cI _ _)))
     go_wp2_with fail;go_quiet (fail)
     go_wp2_with fail;go_ret;exact⟨by rw [← HR.out];rfl,by rw [← HQ.out];exact HB2.out.1,(HB2.out.2.drewN _).drewN _⟩
    ·have hdm:decide ((q:Int)-(k:Int)<(most:Int))=false:=by have:=HQ.out;simp;omega
     clear HS HG HX;go_wp2_with fail;go_quiet (first|(go_at_call 104;exact Calls.quiet_of (cM _)))
     go_wp2_with fail;go_quiet (fail)
     go_wp2_with fail;go_ret;exact⟨by rw [← HR.out];rfl,by rw [← HQ.out];exact HB2.out.1,(HB2.out.2.drewN _).drewN _⟩
   ·have cM:∀n,Calls prog 104 #[.pointer (some ⟨b,0,none⟩)] (wr.drewN n) fun e w'=>e=.returned (.bool false)∧∃m,w'=(wr.drewN n).drewN m:=fun n=>(qfL b S q (wr.drewN n) c0 c1).mono fun e w' h=>⟨by rw [h.1,decide_eq_false (by omega)],h.2⟩
    clear HS HG HX;go_wp2_with fail;go_quiet (first|(go_at_call 104;exact Calls.quiet_of (cM _)))
    go_wp2_with fail;go_quiet (fail)
    go_wp2_with fail;go_ret;exact⟨by rw [← HR.out];rfl,by rw [← HQ.out];exact HB2.out.1,(HB2.out.2.drewN _).drewN _⟩
end Go.Proofs.YtpodopnmkjinhaaGreatDoor
namespace Go.Proofs.YtpodopnmkjinhaaGreatDoor
namespace Ans
theorem qet (s:ByteArray) (h:s.data.toList=[]):s=.empty:=by
 cases s with|mk d=>cases d with|mk l=>simp at h;subst h;rfl
def qeP (c:Int):Int:=if 48≤c∧c≤57 then c-48 else if 97≤c∧c≤102 then c-97+10 else if 65≤c∧c≤70 then c-65+10 else 16
def qcz (base:Int):Nat→Int→Nat→List UInt8→Int×Nat
 |0,n,i,_=>(n,i)
 |_+1,n,i,[]=>(n,i)
 |k+1,n,i,c::r=>if base≤qeP c.toNat then(n,i) else qcz base k (n*base+qeP c.toNat) (i+1) r
def qeZ:List UInt8:=[92,39,34,97,98,101,102,110,114,116,118]
def qlH:List UInt8:=[92,39,34,7,8,27,12,10,13,9,11]
def numOf (ahead:Nat) (p:Int×Nat):Option (UInt8×Nat):=if p.1=0∨255<p.1 then none else some (p.1.toNat.toUInt8,ahead+p.2)
def qdk:List UInt8→Option (UInt8×Nat)
 |[]=>none
 |c::r=>if 0≤Lib.indexByte qeZ c then some (qlH.getD (Lib.indexByte qeZ c).toNat 0,1)
  else if c=120 then numOf 1 (qcz 16 2 0 0 r) else numOf 0 (qcz 8 3 0 0 (c::r))
def octL:List UInt8→Except Int (UInt8×Nat)
 |[]=>.error 0
 |c::r=>if c=92 then(match qdk r with|some (b,k)=>.ok (b,1+k)|none=>.error 33) else if c=0∨c=39 then .error 61 else .ok (c,1)
def dec:Nat→List UInt8→Except (Nat×Int) (List UInt8)
 |_,[]=>.ok []
 |at_,c::r=>match octL (c::r) with
  |.error e=>.error (at_,e)
  |.ok (b,k)=>match dec (at_+k) (r.drop (k-1)) with
   |.error x=>.error x
   |.ok t=>.ok (b::t)
termination_by _ l=>l.length
decreasing_by simp;omega
theorem all_u8 {p:UInt8→Prop} (h:∀n:Fin 256,p (UInt8.ofFin n)):∀c,p c:=fun c=>h c.toFin
theorem qcS (c:UInt8) (r:List UInt8):qdk (c::r)=if 0≤Lib.indexByte qeZ c then some (qlH.getD (Lib.indexByte qeZ c).toNat 0,1)
  else if c=120 then numOf 1 (qcz 16 2 0 0 r) else numOf 0 (qcz 8 3 0 0 (c::r)):=rfl
theorem qdt (c:UInt8) (r:List UInt8):octL (c::r)=if c=92 then(match qdk r with|some (b,k)=>.ok (b,1+k)|none=>.error 33) else if c=0∨c=39 then .error 61 else .ok (c,1):=rfl
theorem qhF (c:Int):0≤qeP c∧qeP c≤16:=by unfold qeP;split<;>(try split)<;>(try split)<;>omega
theorem qgm (base:Int):∀(k:Nat) (n:Int) (i:Nat) (l:List UInt8),i≤(qcz base k n i l).2∧(qcz base k n i l).2≤i+k∧(qcz base k n i l).2≤i+l.length
 |0,n,i,l=>by simp [qcz]
 |k+1,n,i,[]=>by simp [qcz]
 |k+1,n,i,c::r=>by
  unfold qcz;have:=qgm base k (n*base+qeP c.toNat) (i+1) r
  split
  ·simp
  ·simp only [List.length_cons];omega
theorem qlL {base:Int} {k:Nat} {l:List UInt8} (h:(qcz base k 0 0 l).1≠0):1≤(qcz base k 0 0 l).2:=by
 cases k with
 |zero=>simp [qcz] at h
 |succ k=>
  cases l with
  |nil=>simp [qcz] at h
  |cons c r=>
   unfold qcz at h ⊢
   split
   ·rename_i hb;simp [hb] at h
   ·have:=(qgm base k (0*base+qeP c.toNat) (0+1) r).1
    omega
theorem qjs {a:Nat} {p:Int×Nat} {b:UInt8} {k:Nat} (h:numOf a p=some (b,k)):p.1≠0∧p.1≤255∧b=p.1.toNat.toUInt8∧k=a+p.2:=by
 unfold numOf at h;split at h
 ·cases h
 ·rename_i h1
  simp only [Option.some.injEq,Prod.mk.injEq] at h
  exact⟨fun e=>h1 (.inl e),by omega,h.1.symm,h.2.symm⟩
theorem quX:∀c:UInt8,0≤Lib.indexByte qeZ c→qlH.getD (Lib.indexByte qeZ c).toNat 0≠0:=all_u8 (by decide +kernel)
theorem qcU (base:Int) (hb:0≤base):∀(k:Nat) (n:Int) (i:Nat) (l:List UInt8),0≤n→0≤(qcz base k n i l).1
 |0,n,i,l,h=>by simpa [qcz] using h
 |k+1,n,i,[],h=>by simpa [qcz] using h
 |k+1,n,i,c::r,h=>by
  unfold qcz;split
  ·exact h
  ·exact qcU base hb k _ _ r (by have:=Int.mul_nonneg h hb;have:=(qhF c.toNat).1;omega)
theorem qtu {n:Int} (h0:0≤n) (h1:n≠0) (h2:n≤255):n.toNat.toUInt8≠0:=by
 intro h
 have:=congrArg UInt8.toNat h
 simp at this
 omega
theorem qlc {l:List UInt8} {b:UInt8} {k:Nat} (h:qdk l=some (b,k)):b≠0∧1≤k∧k≤l.length:=by
 cases l with
 |nil=>simp [qdk] at h
 |cons c r=>
  rw [qcS] at h;split at h
  ·rename_i h0
   simp only [Option.some.injEq,Prod.mk.injEq] at h
   exact⟨by rw [← h.1];exact quX c h0,by omega,by simp only [List.length_cons];omega⟩
  ·split at h
   ·have h1:=qjs h
    have h2:=qlL h1.1;have h3:=qgm 16 2 0 0 r;have h4:=qcU 16 (by omega) 2 0 0 r (by omega)
    exact⟨by rw [h1.2.2.1];exact qtu h4 h1.1 h1.2.1,by omega,by simp only [List.length_cons];omega⟩
   ·have h1:=qjs h
    have h2:=qlL h1.1;have h3:=qgm 8 3 0 0 (c::r)
    have h4:=qcU 8 (by omega) 3 0 0 (c::r) (by omega)
    exact⟨by rw [h1.2.2.1];exact qtu h4 h1.1 h1.2.1,by omega,by omega⟩
theorem qsp {l:List UInt8} {b:UInt8} {k:Nat} (h:octL l=.ok (b,k)):b≠0∧1≤k∧k≤l.length:=by
 cases l with
 |nil=>simp [octL] at h
 |cons c r=>
  rw [qdt] at h;split at h
  ·split at h
   ·rename_i b' k' he
    have h1:=qlc he;simp only [Except.ok.injEq,Prod.mk.injEq] at h
    obtain⟨rfl,rfl⟩:=h;exact⟨h1.1,by omega,by simp only [List.length_cons];omega⟩
   ·cases h
  ·split at h
   ·cases h
   ·rename_i h1
    simp only [Except.ok.injEq,Prod.mk.injEq] at h
    obtain⟨rfl,rfl⟩:=h;exact⟨fun e=>h1 (.inl e),by omega,by simp⟩
theorem dec_ok {at_:Nat} {l:List UInt8} {b:UInt8} {k:Nat} (h:octL l=.ok (b,k)):dec at_ l=match dec (at_+k) (l.drop k) with|.error x=>.error x|.ok t=>.ok (b::t):=by
 have h1:=qsp h;cases l with
 |nil=>simp [octL] at h
 |cons c r=>
  have e:(c::r).drop k=r.drop (k-1):=by
   obtain⟨j,rfl⟩:∃j,k=j+1:=⟨k-1,by omega⟩
   simp
  rw [dec,h,e]
theorem qrl {at_:Nat} {l:List UInt8} {e:Int} (hl:l≠[]) (h:octL l=.error e):dec at_ l=.error (at_,e):=by
 cases l with
 |nil=>exact absurd rfl hl
 |cons c r=>rw [dec,h]
theorem dec_nil (at_:Nat):dec at_ []=.ok []:=by rw [dec]
def pre (bs:List UInt8):Except (Nat×Int) (List UInt8)→Except (Nat×Int) (List UInt8)
 |.error x=>.error x
 |.ok t=>.ok (bs++t)
theorem pre_nil (x:Except (Nat×Int) (List UInt8)):pre [] x=x:=by cases x<;>rfl
theorem qyR {at_:Nat} {l:List UInt8} {b:UInt8} {k:Nat} (bs:List UInt8) (h:octL l=.ok (b,k)):pre bs (dec at_ l)=pre (bs++[b]) (dec (at_+k) (l.drop k)):=by
 rw [dec_ok h];cases dec (at_+k) (l.drop k)<;>simp [pre]
end Ans
namespace Ans
open Go.RowKit
open Go.Lib (hid)
theorem qks {k:IntKind} {a b:Int} (h:a=b):Ending.returned (.int k a)=.returned (.int k b):=by rw [h]
theorem qea (c : Int) (h0 : 0 ≤ c) (h9 : c ≤ 255) (w : World) :
    Calls prog 302 #[.int .u8 c] w fun e w' => e = .returned (.int .i64 (qeP c)) ∧ w = w' := by
  by_cases h1 : 48 ≤ c <;> by_cases h2 : c ≤ 57 <;> by_cases h3 : 97 ≤ c <;> by_cases h4 : c ≤ 102 <;> by_cases h5 : 65 ≤ c <;> by_cases h6 : c ≤ 70
  all_goals
    first
    | (exfalso; omega)
    | (have H : Hid (qeP c = if 48 ≤ c ∧ c ≤ 57 then c - 48 else if 97 ≤ c ∧ c ≤ 102 then c - 97 + 10 else if 65 ≤ c ∧ c ≤ 70 then c - 65 + 10 else 16) := hid rfl
       go_enter func302, ntmps302
       go_wp2
       go_ret
       exact ⟨qks (by rw [H.out]; (repeat' split) <;> omega), rfl⟩)
def NB (k:Nat) (n:Int):Prop:=0≤n∧((k=0∧n≤0)∨(k=1∧n≤15)∨(k=2∧n≤255)∨(k=3∧n≤4095))
theorem qu6 (most:Nat) (hm:most≤3) (s:ByteArray) (w:World):
  Calls prog 278 #[.string s,.int .i64 8,.int .i64 most] w fun e w'=>e=.returned (.tuple #[.int .i64 (qcz 8 most 0 0 s.data.toList).1,.int .i64 (qcz 8 most 0 0 s.data.toList).2])∧w=w':=by
 go_enter func278,ntmps278;go_wp2;go_loop [6,10] (fun n i=>∃(k:Nat) (m:Int),k≤most∧k≤s.size∧n=.int .i64 m∧i=.int .i64 k∧NB k m∧Hid (qcz 8 most 0 0 s.data.toList=qcz 8 (most-k) m k (s.data.toList.drop k))) (fun _ i=>most-(intOf i).toNat)
 case atStart=>exact⟨0,0,Nat.zero_le _,Nat.zero_le _,rfl,rfl,⟨by omega,by omega⟩,hid rfl⟩
 case round=>
  obtain⟨k,m,hk,hks,rfl,rfl,hnb,HE⟩:=hrel;by_cases hkm:k<most
  ·obtain⟨q,hq⟩:∃q,most-k=q+1:=⟨most-k-1,by omega⟩
   have hq2:most-(k+1)=q:=by omega
   by_cases hlt:k<s.size
   ·have g1:((k:Int)==(s.size:Int))=false:=by simp;omega
    have hd:s.data.toList.drop k=s[k]::s.data.toList.drop  (k+1):=List.drop_eq_getElem_cons (by simpa using hlt)
    have hl9:=s[k].toNat_lt
    have cD:=fun W=>qea (s[k].toNat:Int) (by omega) (by omega) W
    have hlo:=qhF (s[k].toNat:Int)
    obtain⟨d,hdd⟩:=qQ (qeP (s[k].toNat:Int))
    rw [hdd] at cD hlo;by_cases h8:8≤d
    ·have HN:Hid (qcz 8 most 0 0 s.data.toList=(m,k)):=hid (by rw [HE.out,hd,hq,qcz,hdd,if_pos h8])
     clear hd HE hq hq2 hdd hl9;obtain⟨hm0,hmb⟩:=hnb;go_wp2_with (go_at_call 302;refine(cD _).mono ?_;rintro e w' ⟨rfl,rfl⟩)
     go_ret2;exact⟨by rw [HN.out];rfl,rfl⟩
    ·have HN:Hid (qcz 8 most 0 0 s.data.toList=qcz 8 (most-(k+1)) (m*8+d) (k+1) (s.data.toList.drop (k+1))):=hid (by rw [HE.out,hd,hq,hq2,qcz,hdd,if_neg h8])
     have g2:decide (8≤d)=false:=by simpa using h8
     clear hd HE hq hq2 hdd hl9;have hnb2:NB (k+1) (m*8+d):=by
      obtain⟨hm0,hmb⟩:=hnb;exact⟨by omega,by omega⟩
     obtain⟨hm0,hmb⟩:=hnb;have hmb2:m≤4095:=by omega
     have H2:=hid hnb2;clear hmb hnb2;go_wp2_with (go_at_call 302;refine(cD _).mono ?_;rintro e w' ⟨rfl,rfl⟩)
     go_round
     case rel=>exact⟨k+1,m*8+d,by omega,by omega,by go_num,by go_num,H2.out,HN⟩
     case measure=>simp [intOf];omega
   ·obtain rfl:k=s.size:=by omega
    have HN:Hid (qcz 8 most 0 0 s.data.toList=(m,s.size)):=hid (by rw [HE.out,List.drop_of_length_le (by rw [qas];exact Nat.le_refl _),hq,qcz])
    clear HE hq hq2;obtain⟨hm0,hmb⟩:=hnb;go_wp2;go_ret2;exact⟨by rw [HN.out];rfl,rfl⟩
  ·obtain rfl:k=most:=by omega
   have HN:Hid (qcz 8 k 0 0 s.data.toList=(m,k)):=hid (by rw [HE.out,Nat.sub_self,qcz])
   clear HE;obtain⟨hm0,hmb⟩:=hnb;go_wp2;go_ret2;exact⟨by rw [HN.out];rfl,rfl⟩
theorem qso (most:Nat) (hm:most≤3) (s:ByteArray) (w:World):
  Calls prog 278 #[.string s,.int .i64 16,.int .i64 most] w fun e w'=>e=.returned (.tuple #[.int .i64 (qcz 16 most 0 0 s.data.toList).1,.int .i64 (qcz 16 most 0 0 s.data.toList).2])∧w=w':=by
 go_enter func278,ntmps278;go_wp2;go_loop [6,10] (fun n i=>∃(k:Nat) (m:Int),k≤most∧k≤s.size∧n=.int .i64 m∧i=.int .i64 k∧NB k m∧Hid (qcz 16 most 0 0 s.data.toList=qcz 16 (most-k) m k (s.data.toList.drop k))) (fun _ i=>most-(intOf i).toNat)
 case atStart=>exact⟨0,0,Nat.zero_le _,Nat.zero_le _,rfl,rfl,⟨by omega,by omega⟩,hid rfl⟩
 case round=>
  obtain⟨k,m,hk,hks,rfl,rfl,hnb,HE⟩:=hrel;by_cases hkm:k<most
  ·obtain⟨q,hq⟩:∃q,most-k=q+1:=⟨most-k-1,by omega⟩
   have hq2:most-(k+1)=q:=by omega
   by_cases hlt:k<s.size
   ·have g1:((k:Int)==(s.size:Int))=false:=by simp;omega
    have hd:s.data.toList.drop k=s[k]::s.data.toList.drop  (k+1):=List.drop_eq_getElem_cons (by simpa using hlt)
    have hl9:=s[k].toNat_lt
    have cD:=fun W=>qea (s[k].toNat:Int) (by omega) (by omega) W
    have hlo:=qhF (s[k].toNat:Int)
    obtain⟨d,hdd⟩:=qQ (qeP (s[k].toNat:Int))
    rw [hdd] at cD hlo;by_cases h8:16≤d
    ·have HN:Hid (qcz 16 most 0 0 s.data.toList=(m,k)):=hid (by rw [HE.out,hd,hq,qcz,hdd,if_pos h8])
     clear hd HE hq hq2 hdd hl9;obtain⟨hm0,hmb⟩:=hnb;go_wp2_with (go_at_call 302;refine(cD _).mono ?_;rintro e w' ⟨rfl,rfl⟩)
     go_ret2;exact⟨by rw [HN.out];rfl,rfl⟩
    ·have HN:Hid (qcz 16 most 0 0 s.data.toList=qcz 16 (most-(k+1)) (m*16+d) (k+1) (s.data.toList.drop (k+1))):=hid (by rw [HE.out,hd,hq,hq2,qcz,hdd,if_neg h8])
     have g2:decide (16≤d)=false:=by simpa using h8
     clear hd HE hq hq2 hdd hl9;have hnb2:NB (k+1) (m*16+d):=by
      obtain⟨hm0,hmb⟩:=hnb;exact⟨by omega,by omega⟩
     obtain⟨hm0,hmb⟩:=hnb;have hmb2:m≤4095:=by omega
     have H2:=hid hnb2;clear hmb hnb2;go_wp2_with (go_at_call 302;refine(cD _).mono ?_;rintro e w' ⟨rfl,rfl⟩)
     go_round
     case rel=>exact⟨k+1,m*16+d,by omega,by omega,by go_num,by go_num,H2.out,HN⟩
     case measure=>simp [intOf];omega
   ·obtain rfl:k=s.size:=by omega
    have HN:Hid (qcz 16 most 0 0 s.data.toList=(m,s.size)):=hid (by rw [HE.out,List.drop_of_length_le (by rw [qas];exact Nat.le_refl _),hq,qcz])
    clear HE hq hq2;obtain⟨hm0,hmb⟩:=hnb;go_wp2;go_ret2;exact⟨by rw [HN.out];rfl,rfl⟩
  ·obtain rfl:k=most:=by omega
   have HN:Hid (qcz 16 k 0 0 s.data.toList=(m,k)):=hid (by rw [HE.out,Nat.sub_self,qcz])
   clear HE;obtain⟨hm0,hmb⟩:=hnb;go_wp2;go_ret2;exact⟨by rw [HN.out];rfl,rfl⟩
end Ans
namespace Ans
open Go.RowKit
open Go.Lib (hid)
def qhN (e at_:Int):PanicEntry:={ v:=.iface 223 (.agg #[.int .i64 e,.int .i64 at_]),recovered:=false }
theorem extract_from (s:ByteArray) (k:Nat):(s.extract k s.size).data.toList=s.data.toList.drop k:=by
 rw [ByteArray.data_extract,Array.toList_extract,List.extract_eq_take_drop,List.take_of_length_le];rw [List.length_drop,qas];exact Nat.le_refl _
theorem extract_size (s:ByteArray) (k:Nat):(s.extract k s.size).size=s.size-k:=by
 rw [← qas,extract_from s k,List.length_drop,qas]
theorem qxc:∀c:UInt8,Lib.indexByte qeZ c<11:=all_u8 (by decide +kernel)
def qyM:ByteArray:=⟨#[92,39,34,7,8,27,12,10,13,9,11]⟩
theorem quW:∀j:Fin 11,(qyM[j.val]'j.isLt)=qlH.getD j.val 0:=by decide +kernel
theorem qwi {n:Int} (h0:0≤n) (h2:n≤255):((n.toNat.toUInt8).toNat:Int)=n:=by
 have:n.toNat%256=n.toNat:=Nat.mod_eq_of_lt (by omega)
 simp [this];omega
def qyD (at_:Int):Option (UInt8×Nat)→Ending
 |some (c,k)=>.returned (.tuple #[.int .u8 c.toNat,.int .i64 k])
 |none=>.panicked [qhN 33 at_]
theorem qno {k1 k2:IntKind} {a b c d:Int} (h1:a=c) (h2:b=d):Ending.returned (.tuple #[.int k1 a,.int k2 b])=.returned (.tuple #[.int k1 c,.int k2 d]):=by rw [h1,h2]
theorem qmM (at_:Int) (s:ByteArray) (hs:s.size≤maxLen) (w:World):
  Calls prog 245 #[.string s,.int .i64 at_] w fun e w'=>e=qyD at_ (qdk s.data.toList)∧w=w':=by
 unfold maxLen at hs;by_cases h0:s.data.toList=[]
 ·obtain rfl:=qet s h0
  clear h0;go_enter func245,ntmps245;go_wp2;exact⟨rfl,rfl,rfl⟩
 ·have hz:s.data.toList.isEmpty=false:=by simpa using h0
  have g1:¬s.toList=[]:=by rw [toList_data];exact h0
  have g2:s.toList.isEmpty=false:=by rw [toList_data];exact hz
  have hlt:0<s.size:=by
   rcases Nat.eq_zero_or_pos s.size with h|h
   ·exact absurd (List.eq_nil_of_length_eq_zero (by rw [qas];exact h)) h0
   ·exact h
  have hd:s.data.toList=s[0]::s.data.toList.drop 1:=by
   have:=List.drop_eq_getElem_cons (l:=s.data.toList) (i:=0) (by simpa using hlt)
   rw [List.drop_zero] at this;exact this
  have HE:Hid (qdk s.data.toList=qdk (s[0]::s.data.toList.drop 1)):=hid (by rw [← hd])
  have hmk:=qxc s[0]
  have cI:=fun W=>(Tryz.strings_IndexByte ⟨#[92,39,34,97,98,101,102,110,114,116,118]⟩ (s[0].toNat:Int) W)
  rw [qcH s[0]] at cI;clear hz h0;by_cases hm:(0:Int)≤Lib.indexByte qeZ s[0]
  ·obtain⟨j,hj⟩:∃j:Nat,Lib.indexByte qeZ s[0]=j:=⟨(Lib.indexByte qeZ s[0]).toNat,by omega⟩
   have HV:Hid (qdk s.data.toList=some (qlH.getD j 0,1)):=hid (by rw [HE.out,qcS,if_pos hm,hj];rfl)
   have hj2:Lib.indexByte [92,39,34,97,98,101,102,110,114,116,118] s[0]=j:=hj
   rw [hj] at hmk;have hj11:j<11:=by omega
   have HM:=hid (quW ⟨j,hj11⟩)
   rw [hj2] at cI;clear hm hj hj2 hmk HE hd;go_enter func245,ntmps245;go_wp2_with (go_at_call 46;refine(cI _).mono ?_;rintro e w' ⟨rfl,rfl⟩)
   go_ret2;exact⟨by rw [HV.out,← HM.out];rfl,rfl⟩
  ·have hm':Lib.indexByte [92,39,34,97,98,101,102,110,114,116,118] s[0]<0:=Int.not_le.1 hm
   obtain⟨i,hi⟩:=qQ (Lib.indexByte [92,39,34,97,98,101,102,110,114,116,118] s[0])
   rw [hi] at cI hm';by_cases hx:s[0]=120
   ·have g3:((s[0].toNat:Int)==120)=true:=by rw [hx];rfl
    have hex:=extract_from s 1;have cN:=fun W=>qso 2 (by omega) (s.extract 1 s.size) W
    rw [hex,show((2:Nat):Int)=2 from rfl] at cN;have hlo:=qgm 16 2 0 0 (s.data.toList.drop 1)
    have hnn:=qcU 16 (by omega) 2 0 0 (s.data.toList.drop 1) (by omega)
    obtain⟨n,hn⟩:=qQ ((qcz 16 2 0 0 (s.data.toList.drop 1)).1)
    obtain⟨d,hdd⟩:=qQ ((qcz 16 2 0 0 (s.data.toList.drop 1)).2)
    rw [hn,hdd] at cN;rw [hn] at hnn;rw [hdd] at hlo;have HV:Hid (qdk s.data.toList=if n=0∨255<n then none else some (n.toNat.toUInt8,1+d)):=hid (by rw [HE.out,qcS,if_neg hm,if_pos hx];unfold numOf;rw [hn,hdd])
    have hd2:d≤2:=by omega
    clear hex hn hdd HE hi hm hx hlo hmk hd;by_cases hbad:n=0∨255<n
    ·have HW:Hid (qdk s.data.toList=none):=hid (by rw [HV.out,if_pos hbad])
     clear HV;by_cases hn0:n=0
     ·subst hn0
      go_enter func245,ntmps245;go_wp2_with (first|(go_at_call 46;refine(cI _).mono ?_;rintro e w' ⟨rfl,rfl⟩)|(go_at_call 278;(with_reducible refine(cN _).mono ?_);rintro e w' ⟨rfl,rfl⟩))
      exact⟨rfl,by rw [HW.out];rfl,rfl⟩
     ·have h255:255<n:=hbad.resolve_left hn0
      have g4:(n==0)=false:=by simpa using hn0
      clear hbad hn0;go_enter func245,ntmps245;go_wp2_with (first|(go_at_call 46;refine(cI _).mono ?_;rintro e w' ⟨rfl,rfl⟩)|(go_at_call 278;(with_reducible refine(cN _).mono ?_);rintro e w' ⟨rfl,rfl⟩))
      exact⟨rfl,by rw [HW.out];rfl,rfl⟩
    ·have hn0:n≠0:=fun e=>hbad (.inl e)
     have h255:n≤255:=by omega
     have HW:Hid (qdk s.data.toList=some (n.toNat.toUInt8,1+d)):=hid (by rw [HV.out,if_neg hbad])
     have g4:(n==0)=false:=by simpa using hn0
     clear hbad hn0 HV;go_enter func245,ntmps245;go_wp2_with (first|(go_at_call 46;refine(cI _).mono ?_;rintro e w' ⟨rfl,rfl⟩)|(go_at_call 278;(with_reducible refine(cN _).mono ?_);rintro e w' ⟨rfl,rfl⟩))
     go_ret2;exact⟨by rw [HW.out];exact qno (qwi hnn h255).symm (by simp),rfl⟩
   ·have g3:((s[0].toNat:Int)==120)=false:=qf0 (n:=120) hx
    have cN:=fun W=>qu6 3 (by omega) s W
    rw [show((3:Nat):Int)=3 from rfl] at cN;have hlo:=qgm 8 3 0 0 s.data.toList;have hnn:=qcU 8 (by omega) 3 0 0 s.data.toList (by omega)
    obtain⟨n,hn⟩:=qQ ((qcz 8 3 0 0 s.data.toList).1)
    obtain⟨d,hdd⟩:=qQ ((qcz 8 3 0 0 s.data.toList).2)
    rw [hn,hdd] at cN;rw [hn] at hnn;rw [hdd] at hlo;have HV:Hid (qdk s.data.toList=if n=0∨255<n then none else some (n.toNat.toUInt8,0+d)):=hid (by rw [HE.out,qcS,if_neg hm,if_neg hx,← hd];unfold numOf;rw [hn,hdd])
    have hd2:d≤3:=by omega
    clear hn hdd HE hi hm hx hlo hmk hd;by_cases hbad:n=0∨255<n
    ·have HW:Hid (qdk s.data.toList=none):=hid (by rw [HV.out,if_pos hbad])
     clear HV;by_cases hn0:n=0
     ·subst hn0
      go_enter func245,ntmps245;go_wp2_with (first|(go_at_call 46;refine(cI _).mono ?_;rintro e w' ⟨rfl,rfl⟩)|(go_at_call 278;(with_reducible refine(cN _).mono ?_);rintro e w' ⟨rfl,rfl⟩))
      exact⟨rfl,by rw [HW.out];rfl,rfl⟩
     ·have h255:255<n:=hbad.resolve_left hn0
      have g4:(n==0)=false:=by simpa using hn0
      clear hbad hn0;go_enter func245,ntmps245;go_wp2_with (first|(go_at_call 46;refine(cI _).mono ?_;rintro e w' ⟨rfl,rfl⟩)|(go_at_call 278;(with_reducible refine(cN _).mono ?_);rintro e w' ⟨rfl,rfl⟩))
      exact⟨rfl,by rw [HW.out];rfl,rfl⟩
    ·have hn0:n≠0:=fun e=>hbad (.inl e)
     have h255:n≤255:=by omega
     have HW:Hid (qdk s.data.toList=some (n.toNat.toUInt8,0+d)):=hid (by rw [HV.out,if_neg hbad])
     have g4:(n==0)=false:=by simpa using hn0
     clear hbad hn0 HV;go_enter func245,ntmps245;go_wp2_with (first|(go_at_call 46;refine(cI _).mono ?_;rintro e w' ⟨rfl,rfl⟩)|(go_at_call 278;(with_reducible refine(cN _).mono ?_);rintro e w' ⟨rfl,rfl⟩))
     go_ret2;exact⟨by rw [HW.out];exact qno (qwi hnn h255).symm (by simp),rfl⟩
end Ans
namespace Ans
open Go.RowKit
open Go.Lib (hid)
def qyO (at_:Nat):Except Int (UInt8×Nat)→Ending
 |.ok (c,k)=>.returned (.tuple #[.int .u8 c.toNat,.int .i64 k])
 |.error e=>.panicked [qhN e at_]
theorem qss (s:ByteArray) (k:Nat) (hs:s.size≤maxLen) (hk:k<s.size) (w:World):
  Calls prog 203 #[.string s,.int .i64 k] w fun e w'=>e=qyO k (octL (s.data.toList.drop k))∧w=w':=by
 have cE:=fun W=>qmM (k:Int) (s.extract (k+1) s.size) (by rw [extract_size];omega) W
 rw [extract_from] at cE;unfold maxLen at hs;have HE:Hid (octL (s.data.toList.drop k)=octL (s[k]::s.data.toList.drop (k+1))):=hid (by rw [List.drop_eq_getElem_cons (by simpa using hk)];rfl)
 by_cases h1:s[k]=92
 ·have g1:((s[k].toNat:Int)==92)=true:=by rw [h1];rfl
  cases he:qdk (s.data.toList.drop (k+1)) with
  |none=>
   rw [he] at cE
   change ∀W,Calls _ _ _ W (fun e w'=>e=.panicked [qhN 33 k]∧W=w') at cE
   have HV:Hid (octL (s.data.toList.drop k)=.error 33):=hid (by rw [HE.out,qdt,if_pos h1,he])
   clear h1 he HE;go_enter func203,ntmps203;go_wp2_with (go_at_call 245;(with_reducible refine(cE _).mono ?_);rintro e w' ⟨rfl,rfl⟩)
   exact⟨rfl,by rw [HV.out];rfl,rfl⟩
  |some p=>
   obtain⟨b,j⟩:=p;have h2:=qlc he;rw [List.length_drop,qas] at h2;rw [he] at cE
   change ∀W,Calls _ _ _ W (fun e w'=>e=.returned (.tuple #[.int .u8 b.toNat,.int .i64 j])∧W=w') at cE
   have HV:Hid (octL (s.data.toList.drop k)=.ok (b,1+j)):=hid (by rw [HE.out,qdt,if_pos h1,he])
   have hj1:=h2.2.2;clear h1 he HE h2;go_enter func203,ntmps203;go_wp2_with (go_at_call 245;(with_reducible refine(cE _).mono ?_);rintro e w' ⟨rfl,rfl⟩)
   go_ret2;exact⟨by rw [HV.out];exact qno rfl (by simp),rfl⟩
 ·have g1:((s[k].toNat:Int)==92)=false:=qf0 (n:=92) h1
  by_cases h2:s[k]=0
  ·have g2:((s[k].toNat:Int)==0)=true:=by rw [h2];rfl
   have HV:Hid (octL (s.data.toList.drop k)=.error 61):=hid (by rw [HE.out,qdt,if_neg h1,if_pos (.inl h2)])
   clear h1 h2 HE cE;go_enter func203,ntmps203;go_wp2;exact⟨rfl,by rw [HV.out];rfl,rfl⟩
  ·have g2:((s[k].toNat:Int)==0)=false:=qf0 (n:=0) h2
   by_cases h3:s[k]=39
   ·have g3:((s[k].toNat:Int)==39)=true:=by rw [h3];rfl
    have HV:Hid (octL (s.data.toList.drop k)=.error 61):=hid (by rw [HE.out,qdt,if_neg h1,if_pos (.inr h3)])
    clear h1 h2 h3 HE cE;go_enter func203,ntmps203;go_wp2;exact⟨rfl,by rw [HV.out];rfl,rfl⟩
   ·have g3:((s[k].toNat:Int)==39)=false:=qf0 (n:=39) h3
    have HV:Hid (octL (s.data.toList.drop k)=.ok (s[k],1)):=hid (by rw [HE.out,qdt,if_neg h1,if_neg (fun e=>e.elim h2 h3)])
    clear h1 h2 h3 HE cE;go_enter func203,ntmps203;go_wp2;go_ret2;exact⟨by rw [HV.out];rfl,rfl⟩
def qd5 (B:Nat) (s:Value) (n e:Int) (w:World):Prop:=
 w.heap[B]?=some (.cells #[s] 9 (0,0))∧w.heap[B+1]?=some (.cells #[.int .i64 n] 3 (0,0))∧w.heap[B+2]?=some (.cells #[.int .i64 e] 27 (0,0))
theorem qg2 (v:Value) (w:World):(Instr.typeAssert (.iface 223 v) 20 223 false).run prog w=.ok v w:=by
 simp [Instr.typeAssert,run_underlying underlying223,go_sem,Result.andThen]
theorem qpz (a b c:Addr) (w:World):
  CallsD prog 202 #[.pointer (some a),.pointer (some b),.pointer (some c)] .returning w fun e u' w'=>e=.returned (.tuple #[])∧u'=.returning∧w'=w:=by
 refine callsD_of_wpS func202 rfl fun c₀ cs hu=>?_
 apply wpS_seq
 apply wpS_region
 simp [wpOpsS,go_sem,recoverD,hu,ntmps202,Exit.thenS]
 refine wpS_of_wp ?_
 go_wp2;cases c₀
 simp_all [bodyPostS,results,Tryz.results202]
theorem heap_set {w:World} {b c:Nat} (h:c≠b) (v:Value):(w.setCell ⟨b,0,none⟩ v).heap[c]?=w.heap[c]?:=Below.heap_setCell _ _ _ _ h
theorem qd5.stored {B:Nat} {s:Value} {n0 e0:Int} {w:World} (h:qd5 B s n0 e0 w) (s':Value) (n e:Int):
  qd5 B s' n e (((w.setCell ⟨B,0,none⟩ s').setCell ⟨B+1,0,none⟩ (.int .i64 n)).setCell ⟨B+2,0,none⟩ (.int .i64 e)):=by
 obtain⟨h1,h2,h3⟩:=h;refine⟨?_,?_,?_⟩
 ·rw [heap_set (by omega),heap_set (by omega)];exact one_setCell h1
 ·rw [heap_set (by omega)];exact one_setCell ((heap_set (by omega) _).trans h2)
 ·exact one_setCell ((heap_set (by omega) _).trans ((heap_set (by omega) _).trans h3))
theorem qmP (B:Nat) (s:Value) (n0 e0:Int) (n e:Int) (older:List PanicEntry) (w:World) (h:qd5 B s n0 e0 w):
  CallsD prog 202 #[.pointer (some ⟨B,0,none⟩),.pointer (some ⟨B+1,0,none⟩),.pointer (some ⟨B+2,0,none⟩)] (.panicking (qhN e n::older)) w fun e' u' w'=>
   e'=.returned (.tuple #[])∧u'=.panicking ({ qhN e n with recovered:=true }::older)∧qd5 B (.string .empty) n e w'∧Below B w w':=by
 have hta:=qg2;refine callsD_of_wpS func202 rfl fun c₀ cs hu=>?_
 apply wpS_seq
 apply wpS_region
 simp [wpOpsS,go_sem,recoverD,hu,ntmps202,Exit.thenS,qhN]
 refine wpS_of_wp ?_
 change Code.wp _ _ _ ⟨#[.pointer (some ⟨B,0,none⟩),.pointer (some ⟨B+1,0,none⟩),.pointer (some ⟨B+2,0,none⟩),.iface 223 (.agg #[.int .i64 e,.int .i64 n]),undef,.iface 223 (.agg #[.int .i64 e,.int .i64 n]),undef,undef,undef,undef,undef,undef,undef,undef],[]⟩ _
 go_wp2;have hB2:B+2<w.heap.size:=lt_of_block h.2.2
 have h':qd5 B s n0 e0 (w.alloc (.cells #[.int .i64 e,.int .i64 n] 223)):=
  ⟨(Below.heap_alloc w _ B (by omega)).trans h.1,(Below.heap_alloc w _ (B+1) (by omega)).trans h.2.1,(Below.heap_alloc w _ (B+2) (by omega)).trans h.2.2⟩
 have hn:(w.alloc (.cells #[.int .i64 e,.int .i64 n] 223)).heap[w.heap.size]?=some (.cells #[.int .i64 e,.int .i64 n] 223 (0,0)):=heap_alloc_new w _
 have hbl:Below B w (w.alloc (.cells #[.int .i64 e,.int .i64 n] 223)):=(Below.refl B w).alloc (by omega) _
 have HX:Hid (qd5 B s n0 e0 (w.alloc (.cells #[.int .i64 e,.int .i64 n] 223))∧Below B w (w.alloc (.cells #[.int .i64 e,.int .i64 n] 223))):=hid ⟨h',hbl⟩
 generalize w.alloc (.cells #[.int .i64 e,.int .i64 n] 223)=w2 at *;have a1:=cell_of_one h'.1;have a2:=cell_of_one h'.2.1;have a3:=cell_of_one h'.2.2;have f1:=free_of_one h'.1;have f2:=free_of_one h'.2.1;have f3:=free_of_one h'.2.2;have b0:w2.cell? ⟨w.heap.size,0,none⟩=some (.int .i64 e):=by simp [World.cell?,hn]
 have b1:w2.cell? ⟨w.heap.size,1,none⟩=some (.int .i64 n):=by simp [World.cell?,hn]
 obtain⟨N,hN⟩:=qQ (w.heap.size)
 rw [hN] at hB2 b0 b1 ⊢;have hne1:B≠N:=by omega
 have hne2:B+1≠N:=by omega
 have hne3:B+2≠N:=by omega
 clear h h' hn hbl;go_region
 have hst:qd5 B (.string .empty) n e (((w2.setCell ⟨B,0,none⟩ (.string ⟨#[]⟩)).setCell ⟨B+1,0,none⟩ (.int .i64 n)).setCell ⟨B+2,0,none⟩ (.int .i64 e)).drew:=HX.out.1.stored _ _ _
 have hbb:Below B w (((w2.setCell ⟨B,0,none⟩ (.string ⟨#[]⟩)).setCell ⟨B+1,0,none⟩ (.int .i64 n)).setCell ⟨B+2,0,none⟩ (.int .i64 e)).drew:=
  (((HX.out.2.setCell (Nat.le_refl _) _).setCell (Nat.le_add_right _ _) _).setCell (Nat.le_add_right _ _) _).drew
 generalize (((w2.setCell ⟨B,0,none⟩ (.string ⟨#[]⟩)).setCell ⟨B+1,0,none⟩ (.int .i64 n)).setCell ⟨B+2,0,none⟩ (.int .i64 e)).drew=w3 at *
 change bodyPostS _ _ _ _ _ _ _ _ _
 cases c₀
 simp [bodyPostS,results,Tryz.results202]
 exact⟨hst,hbb⟩
end Ans
namespace Ans
open Go.RowKit
open Go.Lib (hid)
def qyy (n:Nat):Except (Nat×Int) (List UInt8)→Ending
 |.ok t=>.returned (.tuple #[.string ⟨t.toArray⟩,.int .i64 n,.int .i64 0])
 |.error x=>.returned (.tuple #[.string .empty,.int .i64 x.1,.int .i64 x.2])
theorem qmE {B:Nat} {s:Value} {n e:Int} {w w':World} (h:qd5 B s n e w) (hb:Below (B+3) w w'):qd5 B s n e w':=by
 obtain⟨h1,h2,h3⟩:=h;exact⟨(hb.block B (by omega)).trans h1,(hb.block (B+1) (by omega)).trans h2,(hb.block (B+2) (by omega)).trans h3⟩
def W3 (w:World):World:=((w.alloc (.cells #[.string .empty] 9)).alloc (.cells #[.int .i64 0] 3)).alloc (.cells #[.int .i64 0] 27)
theorem qt9 (w:World):qd5 w.heap.size (.string .empty) 0 0 (W3 w):=by
 have h1:=heap_alloc_new w (.cells #[.string .empty] 9)
 have h2:=heap_alloc_new (w.alloc (.cells #[.string .empty] 9)) (.cells #[.int .i64 0] 3)
 have h3:=heap_alloc_new ((w.alloc (.cells #[.string .empty] 9)).alloc (.cells #[.int .i64 0] 3)) (.cells #[.int .i64 0] 27)
 simp only [World.size_alloc] at h2 h3
 refine⟨?_,?_,h3⟩
 ·exact(Below.heap_alloc _ _ _ (by simp;omega)).trans ((Below.heap_alloc _ _ _ (by simp)).trans h1)
 ·exact(Below.heap_alloc _ _ _ (by simp)).trans h2
theorem qt6 (w:World):Below w.heap.size w (W3 w):=(((Below.refl _ w).alloc (Nat.le_refl _) _).alloc (by simp) _).alloc (by simp;omega) _
theorem qxR (w:World):(W3 w).heap.size=w.heap.size+3:=by simp [W3]
theorem decode_any (s:ByteArray) (w:World) (hs:s.size≤140737488355327):
  Calls prog 165 #[.string s] w fun e w'=>e=qyy s.size (dec 0 s.data.toList)∧Below w.heap.size w w':=by
 have hmf:∀(fn:Fn) (first cap:Array Value) (w:World),(Instr.makeFunc fn first cap).run prog w=.ok (.func fn first cap) w:=fun _ _ _ _=>rfl
 obtain⟨i0,hi,hz0,hz1,hz2⟩:=info_parts qkf;go_enter_defers func165,ntmps165
 go_wp2;go_loopw [5,6] (fun v i wr=>∃(k:Nat) (bs:List UInt8),k≤s.size∧bs.length≤k∧i=.int .i64 k∧Below (w.heap.size+3) (W3 w) wr∧wr.ownsRow (w.heap.size+3) 5 1 v bs.length (bs.map u8)∧Hid (dec 0 s.data.toList=pre bs (dec k (s.data.toList.drop k)))) (fun _ i _=>s.size-(intOf i).toNat)
 case atStart=>exact⟨0,[],Nat.zero_le _,Nat.le_refl _,rfl,Below.refl _ _,World.ownsRow_nil _ _ _ _,hid (pre_nil _).symm⟩
 case round=>
  obtain⟨k,bs,hk,hbl,rfl,hB,hown,HR⟩:=hrel;have hcl:=qmE (qt9 w) hB
  have hBw:Below w.heap.size w wr:=(qt6 w).trans (hB.mono (by omega))
  have hsz:w.heap.size+3≤wr.heap.size:=by have:=hB.size;rw [qxR] at this;exact this
  by_cases hlt:k<s.size
  ·have cO:=fun W=>qss s k (by unfold maxLen;omega) hlt W
   cases ho:octL (s.data.toList.drop k) with
   |error e=>
    rw [ho] at cO
    change ∀W,Calls _ _ _ W (fun e' w'=>e'=.panicked [qhN e k]∧W=w') at cO
    have HD:Hid (dec 0 s.data.toList=.error (k,e)):=hid (by
     rw [HR.out,qrl (fun h=>by have:=congrArg List.length h;rw [List.length_drop,qas] at this;simp at this;omega) ho];rfl)
    clear ho HR;go_wp2_with (go_at_call 203;(with_reducible refine(cO _).mono ?_);rintro e w' ⟨rfl,rfl⟩)
    refine leaves_cons (f:=202) (args:=#[.pointer (some ⟨w.heap.size,0,none⟩),.pointer (some ⟨w.heap.size+1,0,none⟩),.pointer (some ⟨w.heap.size+2,0,none⟩)]) (by simp) (by simp [go_sem]) ?_
    refine(qmP w.heap.size _ _ _ k e [] _ hcl).mono ?_
    rintro e' u' w2⟨rfl,rfl,hc3,hb3⟩;have c1:=cell_of_one hc3.1;have c2:=cell_of_one hc3.2.1;have c3:=cell_of_one hc3.2.2;have HB:=hid (hBw.trans hb3)
    clear hc3 hb3 hcl;simp [Leaves,settle,results,Tryz.results165,go_sem,c1,c2,c3]
    exact⟨by rw [HD.out];rfl,HB.out⟩
   |ok p=>
    obtain⟨b,j⟩:=p;rw [ho] at cO
    change ∀W,Calls _ _ _ W (fun e' w'=>e'=.returned (.tuple #[.int .u8 b.toNat,.int .i64 j])∧W=w') at cO
    have hj:=qsp ho;rw [List.length_drop,qas] at hj;have HD:Hid (dec 0 s.data.toList=pre (bs++[b]) (dec (k+j) (s.data.toList.drop (k+j)))):=hid (by
     rw [HR.out,qyR bs ho,List.drop_drop])
    obtain⟨-,hj1,hj2⟩:=hj;clear ho HR;go_wp2_with (first|(go_at_call 203;(with_reducible refine(cO _).mono ?_);rintro e w' ⟨rfl,rfl⟩)|(at_builtin;refine wpList_append_own _ rfl _ _ 69 rfl (w.heap.size+3) 5 i0 (.int .u8 0) 1 1 underlying69 hi hz0 hz1 hz2 rfl (by decide) _ _ _ rfl (hown.alloc _) ⟨wr.heap.size,0,none⟩ 1 1 [.int .u8 b.toNat] rfl rfl ?c1 ?c2 ?c3 ?c4 ?c5 ?_))
    case c1=>
     intro j u hj
     match j,hj with
     |0,hj=>simp at hj;subst hj;simp [Addr.add]
    case c2=>intro u hu;simp at hu;subst hu;rfl
    case c3=>unfold maxLen;omega
    case c4=>omega
    case c5=>simp;omega
    intro v' w3 hown' hg _
    have hB3:Below (w.heap.size+3) (W3 w) w3:=((hB.alloc hsz _).grown hg (by simp;omega) (fun k hk=>(hown.lt k hk).1))
    have ho3:=qvc hown';have HO:=hid ho3;clear hown' ho3 hg hown;go_wp2;go_roundw
    case rel=>exact⟨k+j,_,by omega,by simp;omega,by go_num,hB3,HO.out,HD⟩
    case measure=>simp [intOf];omega
  ·obtain rfl:k=s.size:=by omega
   have HD:Hid (dec 0 s.data.toList=.ok bs):=hid (by
    rw [HR.out,List.drop_of_length_le (by rw [qas];exact Nat.le_refl _),dec_nil];simp [pre])
   have hcv:=qj1 hown;have hst:=hcl.stored (.string ⟨bs.toArray⟩) (s.size:Int) 0
   have hbb:Below w.heap.size w (((wr.setCell ⟨w.heap.size,0,none⟩ (.string ⟨bs.toArray⟩)).setCell ⟨w.heap.size+1,0,none⟩ (.int .i64 s.size)).setCell ⟨w.heap.size+2,0,none⟩ (.int .i64 0)):=
    ((hBw.setCell (Nat.le_refl _) _).setCell (Nat.le_add_right _ _) _).setCell (Nat.le_add_right _ _) _
   have a1:=cell_of_one hcl.1;have a2:=cell_of_one hcl.2.1;have a3:=cell_of_one hcl.2.2;have f1:=free_of_one hcl.1;have f2:=free_of_one hcl.2.1;have f3:=free_of_one hcl.2.2;have HS:=hid hst;have HB:=hid hbb;clear HR hlt hown hst hbb hcl hB hBw hsz;go_wp2;refine leaves_cons (f:=202) (args:=#[.pointer (some ⟨w.heap.size,0,none⟩),.pointer (some ⟨w.heap.size+1,0,none⟩),.pointer (some ⟨w.heap.size+2,0,none⟩)]) (by simp) (by simp [go_sem]) ?_
   refine(qpz _ _ _ _).mono ?_;rintro e' u' w2⟨rfl,rfl,rfl⟩;have c1:=cell_of_one HS.out.1;have c2:=cell_of_one HS.out.2.1;have c3:=cell_of_one HS.out.2.2;simp [Leaves,settle,results,Tryz.results165,go_sem,c1,c2,c3]
   exact⟨by rw [HD.out];rfl,HB.out⟩
end Ans
end Go.Proofs.YtpodopnmkjinhaaGreatDoor
namespace Go.Proofs.YtpodopnmkjinhaaGreatDoor
open Go.Lib (hid)
open Go.RowKit
theorem qsq:∀l:List UInt8,(∀c∈l,qmw c=true)→l.length≤3→qmx l≤511
 |[],_,_=>by simp [qmx]
 |[a],h,_=>by have:=h a (by simp);simp [qmw] at this;simp [qmx];omega
 |[a,b],h,_=>by have h1:=h a (by simp);have h2:=h b (by simp);simp [qmw] at h1 h2;simp [qmx];omega
 |[a,b,c],h,_=>by have h1:=h a (by simp);have h2:=h b (by simp);have h3:=h c (by simp);simp [qmw] at h1 h2 h3;simp [qmx];omega
 |_::_::_::_::_,_,h=>by simp at h
theorem One.drew {b:Nat} {w w':World} (h:One b w w'):One b w w'.drew:=⟨h.os,h.tape,h.output,h.size,h.block⟩
theorem qk2 (x y:List UInt8):(⟨x.toArray⟩:ByteArray)++(⟨y.toArray⟩:ByteArray)=⟨(x++y).toArray⟩:=by
 apply ByteArray.ext
 apply Array.toList_inj.1
 rw [ByteArray.data_append,Array.toList_append]
theorem qhM (l:List UInt8) (i j:Nat):(⟨l.toArray⟩:ByteArray).extract i j=⟨((l.take j).drop i).toArray⟩:=by
 apply ByteArray.ext
 apply Array.toList_inj.1
 rw [ByteArray.data_extract,Array.toList_extract,List.extract_eq_take_drop,List.drop_take]
theorem qrc (w:World) (c:UInt8):(convert 69 9 (.slice (some ⟨w.heap.size,0,none⟩) 1 1)).run prog (w.alloc (.cells #[.int .u8 c.toNat] 5))=.ok (.string ⟨#[c]⟩) (w.alloc (.cells #[.int .u8 c.toNat] 5)):=by
 refine run_convert_bytes_back (P:=prog) _ 69 9 5 ⟨w.heap.size,0,none⟩ 1 [c] underlying69 underlying5 underlying9 (fun j hj=>?_)
 obtain rfl:j=0:=by simp at hj;exact hj
 exact cell_of_one (heap_alloc_new w _)
theorem qtJ:∀(l:List UInt8) (n:Nat),(∀c∈l,qmw c=true)→qa5 8 n l=((l.foldl (fun n c=>8*n+(c.toNat-48)) n:Nat):Int)
 |[],_,_=>rfl
 |c::r,n,h=>by
  have h1:48≤c.toNat∧c.toNat≤55:=by have:=h c (by simp);unfold qmw at this;exact of_decide_eq_true this
  have h2:qeP (c.toNat:Int)=((c.toNat-48:Nat):Int):=by unfold qeP;rw [if_pos (by omega)];omega
  rw [qa5,List.foldl_cons,h2,← qtJ r (8*n+(c.toNat-48)) (fun c hc=>h c (by simp [hc]))]
  congr 1
  omega
theorem qw8 (l:List UInt8) (h:∀c∈l,qmw c=true) (h0:l≠[]) (h3:l.length≤3):qlD (48::l)=((qmx l:Int),0):=by
 obtain⟨d,r,rfl⟩:∃d r,l=d::r:=by
  cases l with
  |nil=>exact absurd rfl h0
  |cons d r=>exact⟨d,r,rfl⟩
 have hd:48≤d.toNat∧d.toNat≤55:=by have:=h d (by simp);unfold qmw at this;exact of_decide_eq_true this
 have hx:¬(d=120∨d=88):=by
  rintro(rfl|rfl)
  ·exact absurd hd.2 (by decide)
  ·exact absurd hd.2 (by decide)
 have hle:=qsq _ h h3;have hs:qaR (48::d::r)=(d::r,8):=by rw [qaR,if_pos rfl,if_neg hx]
 have hg:qfC 8 (d::r)=true:=by
  unfold qfC;rw [List.all_eq_true];intro c hc
  have h1:48≤c.toNat∧c.toNat≤55:=by have:=h c hc;unfold qmw at this;exact of_decide_eq_true this
  unfold qeP;rw [if_pos (by omega)];simp
  omega
 have hv:qa5 8 0 (d::r)=(qmx (d::r):Int):=qtJ _ 0 h
 unfold qlD;rw [hs];simp only [qbr,hg,if_true,hv]
 have hU:U ((qmx (d::r):Nat):Int)=((qmx (d::r):Nat):Int):=qy5 (by omega) (by omega)
 rw [hU,qf6 (by omega) (by omega)]
 rfl
def qye (l:List UInt8):List UInt8:=if qmx l%256=0 then [] else [(qmx l).toUInt8]
theorem qsr (l:List UInt8) (w:World) (h:∀c∈l,qmw c=true) (h0:l≠[]) (h3:l.length≤3):
  Calls prog 166 #[encS l] w fun e w'=>e=.returned (encS (qye l))∧Below w.heap.size w w':=by
 have hcat:=qk2 [48] l
 have hsz:(⟨([48]++l).toArray⟩:ByteArray).size≤maxLen:=by simp [ByteArray.size,maxLen];omega
 have hls:(⟨l.toArray⟩:ByteArray).size≤3:=by simpa [ByteArray.size] using h3
 have cL:=fun W=>qh9 ⟨([48]++l).toArray⟩ W hsz
 have e48:(⟨([48]++l).toArray⟩:ByteArray).data.toList=48::l:=by simp
 rw [e48,qw8 l h h0 h3] at cL;have hle:=qsq l h h3;have HE:Hid (qye l=if qmx l%256=0 then [] else [(qmx l).toUInt8]):=hid rfl
 obtain⟨n,hn⟩:=qQ (qmx l)
 rw [hn] at HE hle cL;obtain⟨S,hS⟩:∃S:ByteArray,(⟨([48]++l).toArray⟩:ByteArray)=S:=⟨_,rfl⟩
 rw [hS] at cL hcat;have hcat2:(⟨#[48]⟩:ByteArray)++(⟨l.toArray⟩:ByteArray)=S:=hcat
 have htm:((n:Int)).tmod 256=((n%256:Nat):Int):=by
  rw [Int.tmod_eq_emod_of_nonneg (by omega)];omega
 obtain⟨m,hm⟩:=qQ (n%256)
 have hx:n.toUInt8.toNat=m:=by rw [Nat.toUInt8_eq,UInt8.toNat_ofNat',← hm]
 rw [hm] at htm HE;have hm256:m<256:=by omega
 clear hsz hn hS hcat h h0 hm e48;by_cases hz:m=0
 ·have HE2:Hid (qye l=[]):=hid (by rw [HE.out,if_pos hz])
  have hq:((m:Int)==0)=true:=by simp [hz]
  clear HE hz hx;go_enter func166,ntmps166;go_wp2_with fail;refine(cL _).mono ?_;rintro e w1⟨rfl,rfl⟩;go_wp2_with fail;go_ret;exact⟨by rw [HE2.out];rfl,Below.refl _ _⟩
 ·have HE2:Hid (qye l=[n.toUInt8]):=hid (by rw [HE.out,if_neg hz])
  have hq:((m:Int)==0)=false:=by simp;omega
  obtain⟨x,hxx⟩:=qQ (n.toUInt8)
  rw [hxx] at hx HE2;have hxw:IntKind.u8.wrap (m:Int)=(x.toNat:Int):=by rw [IntKind.wrap_u8];omega
  have hcv:=fun W=>qrc W x
  clear HE hz hx hxx;go_enter func166,ntmps166;go_wp2_with fail;refine(cL _).mono ?_;rintro e w1⟨rfl,rfl⟩;go_wp2_with fail;go_ret;exact⟨by rw [HE2.out];rfl,(Below.refl _ _).alloc (Nat.le_refl _) _⟩
def qdJ (c:UInt8) (t:List UInt8):List UInt8×Nat:=if c=92∧0<(qc9 t).2 then qc9 t else([c],1)
def mk8:List UInt8:=[92,97,98,102,110,114,116,118]
def oc8:List UInt8:=[48,49,50,51,52,53,54,55]
theorem qyI:∀c:UInt8,inB mk8 c=(qps c).isSome:=Ans.all_u8 (by decide +kernel)
theorem qyJ:∀c:UInt8,inB oc8 c=qmw c:=Ans.all_u8 (by decide +kernel)
theorem qxJ (t:List UInt8):(∃d r b,t=d::r∧qps d=some b∧qcB mk8 1 t=[d]∧qc9 t=([b],2))∨(qcB mk8 1 t=[]∧qc9 t=qu7 t):=by
 cases t with
 |nil=>exact .inr ⟨rfl,by simp [qc9,qu7,qd2]⟩
 |cons d r=>
  unfold qcB;rw [List.take_succ_cons,List.take_zero,List.takeWhile_cons,qyI];cases h:qps d with
  |none=>exact .inr ⟨by simp,by simp only [qc9,h]⟩
  |some b=>exact .inl ⟨d,r,b,rfl,h,by simp,by simp only [qc9,h]⟩
theorem qxK (t:List UInt8):qcB oc8 3 t=qd2 t:=by
 unfold qcB qd2;rw [show inB oc8=qmw from funext qyJ]
theorem qwM (d b:UInt8) (h:qps d=some b):Ans.dec 0 [92,d]=.ok [b]:=by
 have h1:Ans.octL [92,d]=.ok (b,2):=by
  unfold qps at h
  repeat' split at h
  all_goals first
   |(rename_i e;subst e;obtain rfl:=Option.some.inj h;rfl)
   |cases h
 rw [Ans.dec_ok h1];simp only [List.drop_succ_cons,List.drop_zero,Ans.dec_nil]
theorem qu8 (t:List UInt8):∀c∈qd2 t,qmw c=true:=fun c hc=>by
 unfold qd2 at hc;exact qcF qmw _ c hc
theorem qov (T:TypeId) (b:Nat) (cs:Array Value) (s:List UInt8) (k:Nat) (c:UInt8) (t:List UInt8) (w:World) (hb:w.heap[b]?=some (.cells cs T (0,0))) (h0:cs[0]?=some (encS s)) (h1:cs[1]?=some (.int .i64 k)) (hd:s.drop k=c::t) (hs:s.length≤140737488351232):
  Calls prog 107 #[.pointer (some ⟨b,0,none⟩)] w fun e w'=>e=.returned (encS (qdJ c t).1)∧w'.heap[b]?=some (.cells (cs.setIfInBounds 1 (.int .i64 ((k+(qdJ c t).2:Nat):Int))) T (0,0))∧One b w w':=by
 have hkl:k<s.length:=by
  rcases Nat.lt_or_ge k s.length with h|h
  ·exact h
  ·rw [List.drop_eq_nil_of_le h] at hd;cases hd
 have hd1:s.drop (k+1)=t:=by
  have:=congrArg List.tail hd
  rwa [List.tail_drop] at this
 have htl:t.length+k+1=s.length:=by rw [← hd1,List.length_drop];omega
 obtain⟨S,hS⟩:∃S:ByteArray,(⟨s.toArray⟩:ByteArray)=S:=⟨_,rfl⟩
 have hsz:S.size=s.length:=by rw [← hS];simp [ByteArray.size]
 have hsk:s[k]=c:=by
  have:=List.drop_eq_getElem_cons hkl
  rw [hd] at this;exact(List.cons.inj this).1.symm
 have hg:∀h,S[k]'h=c:=fun h=>by
  subst hS;rw [← hsk];simp [ByteArray.getElem_eq_getElem_data]
 have HX:Hid (∀i j,S.extract i j=⟨((s.take j).drop i).toArray⟩):=hid fun i j=>by rw [← hS];exact qhM s i j
 have hS0:(k:Int)<(S.size:Int):=by omega
 obtain⟨W1,hW1⟩:=qQ (w.setCell ⟨b,1,none⟩ (.int .i64 ((k:Int)+1)))
 obtain⟨cs1,hcs1⟩:=qQ (cs.setIfInBounds 1 (.int .i64 ((k:Int)+1)))
 have hset:∀v,cs1.setIfInBounds 1 v=cs.setIfInBounds 1 v:=fun v=>by rw [← hcs1];exact qdN _ _ _ _
 have hb1:W1.heap[b]?=some (.cells cs1 T (0,0)):=by rw [← hW1,← hcs1];exact heap_setCell_same w b 1 cs T _ hb
 have e0:cs1[0]?=some (encS s):=by rw [← hcs1,Array.getElem?_setIfInBounds_ne (by omega)];exact h0
 have e1:cs1[1]?=some (.int .i64 ((k+1:Nat):Int)):=by rw [← hcs1];exact qcd h1
 have ho1:One b w W1:=by rw [← hW1];exact(One.refl b w).setCell 1 _
 have cM:=qkt T b cs1 s mk8 (k+1) 1 W1 hb1 e0 e1 (by omega) hs
 rw [hd1] at cM;have hxs:S.extract k (k+1)=⟨[c].toArray⟩:=by rw [HX.out,List.drop_take,hd];simp
 rw [show encS s=.string S by rw [← hS]] at h0 e0;have c0:w.cell? ⟨b,0,none⟩=some (.string S):=(Lib.cell_of_heap hb 0).trans h0
 have c1:w.cell? ⟨b,1,none⟩=some (.int .i64 k):=(Lib.cell_of_heap hb 1).trans h1
 have f1:w.frozen? ⟨b,1,none⟩=false:=Lib.frozen_of_heap hb 1
 have d0:W1.cell? ⟨b,0,none⟩=some (.string S):=(Lib.cell_of_heap hb1 0).trans e0
 have d1:W1.cell? ⟨b,1,none⟩=some (.int .i64 ((k:Int)+1)):=(Lib.cell_of_heap hb1 1).trans e1
 have HC1:=hid hcs1;have HSET:=hid hset;by_cases h92:c=92
 ·subst h92
  rcases qxJ t with ⟨d,r,o,rfl,hdo,hrun,hone⟩|⟨hrun,hone⟩
  ·have HL:Hid (qdJ 92 (d::r)=([o],2)):=hid (by unfold qdJ;rw [hone];rfl)
   rw [hrun] at cM;have hk2:(k:Int)+2≤(s.length:Int):=by simp only [List.length_cons] at htl;omega
   have hk0:(0:Int)≤(k:Int)+2:=by omega
   have hk00:(k:Int)≤(k:Int)+2:=by omega
   have hx2:S.extract k (k+2)=⟨[92,d].toArray⟩:=by
    rw [HX.out,List.drop_take,hd,show k+2-k=2 by omega]
    rfl
   have cD:=fun W=>Ans.decode_any ⟨[92,d].toArray⟩ W (by simp [ByteArray.size])
   have edl:(⟨[92,d].toArray⟩:ByteArray).data.toList=[92,d]:=rfl
   rw [edl,qwM d o hdo] at cD
   change ∀W,Calls _ _ _ W (fun e w'=>e=.returned (.tuple #[encS [o],.int .i64 2,.int .i64 0])∧Below W.heap.size W w') at cD
   obtain⟨D,hD⟩:∃D:ByteArray,(⟨[92,d].toArray⟩:ByteArray)=D:=⟨_,rfl⟩
   rw [hD] at cD hx2;have hx3:S.extract k ((k:Int)+2).toNat=D:=by rw [show((k:Int)+2).toNat=k+2 by omega];exact hx2
   have HB:=hid ho1;have E1:=hid e1;clear hb hb1 h0 h1 e1 hd hd1 hset hsk hcs1 ho1 hdo hone hrun edl hD;go_enter func107,ntmps107;go_wp2_with fail;refine cM.mono ?_;rintro e w2⟨rfl,hb2,ho2⟩;have g0:w2.cell? ⟨b,0,none⟩=some (.string S):=(Lib.cell_of_heap hb2 0).trans (by rw [Array.getElem?_setIfInBounds_ne (by omega)];exact e0)
   have g1:w2.cell? ⟨b,1,none⟩=some (.int .i64 ((k+2:Nat):Int)):=(Lib.cell_of_heap hb2 1).trans (qcd E1.out)
   rw [HSET.out] at hb2;have HB2:=hid (And.intro hb2 (HB.out.trans ho2))
   clear hb2 ho2 cM;go_wp2_with fail;go_region_law (go_simp;go_at_call 165;(with_reducible refine(cD _).mono ?_);rintro e w3 ⟨rfl,hb3⟩)
   all_goals
    go_wp2_with fail;go_ret;rw [HL.out];exact⟨rfl,(hb3.block b (lt_of_block HB2.out.1)).trans HB2.out.1,(One.drew HB2.out.2).trans (One.of_below hb3)⟩
  ·rw [hrun] at cM
   have HB:=hid ho1;have E0:=hid e0;have E1:=hid e1;have hk1:(k:Int)+1≤(s.length:Int):=by omega
   have hlit:qdJ 92 t=if 0<(qu7 t).2 then qu7 t else([92],1):=by unfold qdJ;rw [hone];simp
   have hol:=qoo t;have hall:=qu8 t;have hre:=qxK t;have hES:=hid (show encS s=.string S by rw [← hS])
   clear hb hb1 h0 h1 e0 e1 hd hset hsk hcs1 ho1 hone hrun;by_cases hoc:qd2 t=[]
   ·have HL:Hid (qdJ 92 t=([92],1)):=hid (by rw [hlit];unfold qu7;rw [if_pos hoc];rfl)
    rw [hoc] at hre;have HRE:=hid hre;clear hlit hoc hol hall hre;go_enter func107,ntmps107;go_wp2_with fail;refine cM.mono ?_;rintro e w2⟨rfl,hb2,ho2⟩;have cO:=qkt T b _ s oc8 (k+1) 3 w2 hb2 (by rw [Array.getElem?_setIfInBounds_ne (by omega),hES.out];exact E0.out) (qcd E1.out) (by omega) hs
    rw [hd1,HRE.out,HSET.out,qdN] at cO;have HB2:=hid (HB.out.trans ho2)
    clear hb2 ho2 cM;go_wp2_with fail;refine cO.mono ?_;rintro e w3⟨rfl,hb3,ho3⟩;have HB3:=hid (And.intro hb3 (HB2.out.trans ho3))
    clear hb3 ho3 cO;go_wp2_with fail;go_ret;rw [HL.out];exact⟨rfl,HB3.out.1,HB3.out.2⟩
   ·have HL:Hid (qdJ 92 t=(qye (qd2 t),(qd2 t).length+1)):=hid (by
     rw [hlit];unfold qu7 qye;rw [if_neg hoc];split<;>simp)
    have HRE:=hid hre;have cT:=fun W=>qsr (qd2 t) W hall hoc hol.1
    obtain⟨u,hu⟩:=qQ (qd2 t)
    rw [hu] at HL HRE cT hoc hol;have hune:(u==[])=false:=by simpa using hoc
    have huneq:(u !=[])=true:=by simpa using hoc
    clear hlit hoc hall hre hu;go_enter func107,ntmps107;go_wp2_with fail;refine cM.mono ?_;rintro e w2⟨rfl,hb2,ho2⟩;have cO:=qkt T b _ s oc8 (k+1) 3 w2 hb2 (by rw [Array.getElem?_setIfInBounds_ne (by omega),hES.out];exact E0.out) (qcd E1.out) (by omega) hs
    rw [hd1,HRE.out,HSET.out,qdN] at cO;have HB2:=hid (HB.out.trans ho2)
    clear hb2 ho2 cM;go_wp2_with fail;refine cO.mono ?_;rintro e w3⟨rfl,hb3,ho3⟩;have HB3:=hid (And.intro hb3 (HB2.out.trans ho3))
    clear hb3 ho3 cO;go_wp2_with fail;refine(cT _).mono ?_;rintro e w4⟨rfl,hb4⟩;go_wp2_with fail;go_ret;rw [HL.out];exact⟨rfl,by rw [show k+(u.length+1)=k+1+u.length by omega];exact(hb4.block b (lt_of_block HB3.out.1)).trans HB3.out.1,HB3.out.2.trans (One.of_below hb4)⟩
 ·have hgc:((c.toNat:Int) !=92)=true:=by have:=qf0 (n:=92) h92;simpa [bne] using this
  have HL:Hid (qdJ c t=([c],1)):=hid (by unfold qdJ;rw [if_neg (fun h=>h92 h.1)])
  have HB:=hid (And.intro hb1 ho1)
  clear hb hb1 h0 h1 e0 e1 hd hd1 cM hset h92 hsk hcs1;go_enter func107,ntmps107;go_wp2_with fail;go_quiet (fail)
  go_wp2_with fail;go_ret;rw [HL.out];exact⟨rfl,by rw [← HC1.out] at HB;exact HB.out.1,HB.out.2.drewN _⟩
theorem Bld.one {T T':TypeId} {B b b' o:Nat} {cs cs':Array Value} {fr:Nat×Nat} {l:List UInt8} {w w':World} (h:Bld T B b o cs l w) (ho:One b' w w') (hne:b≠b') (hb':w.heap[b']?=some (.cells cs' T' fr)) (hT':T'≠5):Bld T B b o cs l w':=by
 obtain⟨hB,hT,hbk,p,v,h0,h1,h2,h3,h4⟩:=h;exact⟨hB,hT,(ho.block b (lt_of_block hbk) (fun e=>hne (Option.some.inj e))).trans hbk,p,v,h0,h1,h2,h3.kept ho (.inr (Lib.ownBlock_ne h3 hb' hT')),h4⟩
theorem Bld.self {T:TypeId} {B b o:Nat} {cs cs':Array Value} {l:List UInt8} {w w':World} (h:Bld T B b o cs l w) (ho:One b w w') (hb':w'.heap[b]?=some (.cells cs' T (0,0))) (e0:cs'[o]?=cs[o]?) (e1:cs'[o+1]?=cs[o+1]?):Bld T B b o cs' l w':=by
 obtain⟨hB,hT,hbk,p,v,h0,h1,h2,h3,h4⟩:=h;exact⟨hB,hT,hb',p,v,e0.trans h0,e1.trans h1,h2,h3.kept ho (.inr (Lib.ownBlock_ne h3 hbk hT)),h4⟩
theorem qn2 (c:UInt8) (t:List UInt8):qdk (c::t)=(qdJ c t).1++qdk (t.drop ((qdJ c t).2-1)):=by
 rw [qcS];unfold qdJ;split
 ·rfl
 ·simp
theorem qfI (c:UInt8) (t:List UInt8):1≤(qdJ c t).2∧(qdJ c t).2≤t.length+1∧(qdJ c t).1.length≤1:=by
 have h:=qxi t;unfold qdJ;split
 ·rename_i h1
  exact⟨h1.2,h.1,h.2.2.1⟩
 ·simp
theorem qb4:liesAt prog prog.depth 71 (2/prog.cellsOf 71) 0 71 1=true:=by kernel_rfl
theorem qjb (s:List UInt8) (w:World) (hs:s.length≤140737488351232):
  Calls prog 170 #[encS s] w fun e w'=>e=.returned (encS (qdk s))∧Below w.heap.size w w':=by
 obtain⟨N,hN⟩:=qQ (w.heap.size)
 obtain⟨W1,hW1⟩:=qQ (w.alloc (.cells #[encS s,.int .i64 0] 117))
 have hs1:W1.heap.size=N+1:=by rw [← hW1,← hN];simp
 obtain⟨W2,hW2⟩:=qQ (W1.alloc (.cells #[.pointer none,.slice none 0 0] 71))
 have hs2:W2.heap.size=N+2:=by rw [← hW2];simp;omega
 have hr1:W1.heap[N]?=some (.cells #[encS s,.int .i64 0] 117 (0,0)):=by rw [← hW1,← hN];exact heap_alloc_new _ _
 have hr2:W2.heap[N]?=some (.cells #[encS s,.int .i64 0] 117 (0,0)):=by rw [← hW2];exact(Below.heap_alloc _ _ _ (by omega)).trans hr1
 have ho2:W2.heap[N+1]?=some (.cells #[.pointer none,.slice none 0 0] 71 (0,0)):=by rw [← hW2,← hs1];exact heap_alloc_new _ _
 have hB2:Below N w W2:=by
  rw [← hW2,← hW1];exact((Below.refl _ _).alloc (by omega) _).alloc (by simp;omega) _
 have HI:=hid (And.intro hr2 (And.intro (qb9 71 W2 N (N+1) 0 _ (by decide) (by omega) ho2 rfl rfl) hB2))
 have HS2:=hid hs2;have HN:=hid hN;clear hr1 hr2 ho2 hB2 hs1 hs2;subst hW2;subst hW1;go_enter func170,ntmps170;go_wp2_with fail;go_loopg [] s.length (fun n wr=>∃(k:Nat) (acc:List UInt8) (p v:Value),k+n=s.length∧acc.length≤k∧wr.heap[N]?=some (.cells #[encS s,.int .i64 k] 117 (0,0))∧Hid (Bld 71 N (N+1) 0 #[p,v] acc wr)∧Hid (qdk s=acc++qdk (s.drop k))∧Hid (Below N w wr))
 case atStart=>exact⟨0,[],.pointer none,.slice none 0 0,by omega,Nat.le_refl _,HI.out.1,hid HI.out.2.1,hid (by simp),hid HI.out.2.2⟩
 case round=>
  obtain⟨k,acc,p,v,hkn,hal,hb,HB,HE,HW⟩:=hrel;have hsz:(⟨s.toArray⟩:ByteArray).size=s.length:=by simp [ByteArray.size]
  have c0:wr.cell? ⟨N,0,none⟩=some (encS s):=Lib.cell_of_heap hb 0
  have c1:wr.cell? ⟨N,1,none⟩=some (.int .i64 k):=Lib.cell_of_heap hb 1
  have cM:=qfL N ⟨s.toArray⟩ k wr c0 c1
  rw [hsz] at cM;by_cases hlt:k<s.length
  ·rw [decide_eq_true hlt] at cM
   have hd:s.drop k=s[k]::s.drop (k+1):=List.drop_eq_getElem_cons hlt
   generalize s[k]=c at *;generalize s.drop (k+1)=t at *;have hl:=qfI c t;have htl:t.length+k+1=s.length:=by
    have:=congrArg List.length hd
    rw [List.length_drop,List.length_cons] at this;omega
   have HE2:Hid (qdk s=(acc++(qdJ c t).1)++qdk (s.drop (k+(qdJ c t).2))):=hid (by
    rw [HE.out,hd,qn2,List.append_assoc];have e1:t.drop ((qdJ c t).2-1)=s.drop (k+(qdJ c t).2):=by
     have:t=s.drop (k+1):=by rw [← List.tail_drop,hd];rfl
     conv=>lhs;arg 2;rw [this]
     rw [List.drop_drop,show k+1+((qdJ c t).2-1)=k+(qdJ c t).2 by omega]
    rw [e1])
   have cL:=fun n=>qov 117 N #[encS s,.int .i64 k] s k c t (wr.drewN n) hb rfl rfl hd hs
   obtain⟨⟨u,j⟩,hu⟩:∃u,qdJ c t=u:=⟨_,rfl⟩
   rw [hu] at HE2 cL hl;simp only at HE2 cL hl
   have HB1:=HB.out.lt;have hB':=hid hb
   clear HE hd hu;go_wp2_with fail;refine cM.mono ?_;rintro e w1⟨rfl,m,rfl⟩;go_wp2_with fail;refine(cL m).mono ?_;rintro e w2⟨rfl,hb2,ho2⟩;have HB2:=HB.out.drewN m |>.one (b':=N) ho2 (by omega) hB'.out (by decide)
   have hW2:=HW.out.trans (Bears.below (One.bears (One.drewN (One.refl N wr) m |>.trans ho2) N) (Nat.le_refl _) (by have:=HW.out.size;omega))
   have cS:=qa4 71 N (N+1) 0 #[p,v] acc u w2 qb4 HB2 (by omega) (by have:=hW2.size;omega)
   have HW2:=hid hW2;have HB2':=hid hb2
   clear hW2 HB2 hb2 ho2 cL cM HB HW;go_wp2_with fail;refine cS.mono ?_;rintro e w3⟨rfl,⟨v',hB3⟩,hbe⟩;have hs2:=HW2.out.size;have HF:=hid (And.intro hB3 (And.intro ((hbe.block N (lt_of_block HB2'.out) (by omega) (.inr ⟨_,_,_,HB2'.out,by decide⟩)).trans HB2'.out) (HW2.out.trans (hbe.below (by omega) (by omega)))))
   clear hB3 hbe cS HW2 HB2' hs2;go_wp2_with fail;go_roundg (s.length-(k+j))
   case rel=>exact⟨k+j,acc++u,_,v',by omega,by rw [List.length_append];omega,HF.out.2.1,hid HF.out.1,HE2,hid HF.out.2.2⟩
   case measure=>omega
  ·rw [decide_eq_false hlt] at cM
   have HE2:Hid (qdk s=acc):=hid (by rw [HE.out,List.drop_of_length_le (by omega),qg9,List.append_nil])
   have cS:=fun n=>qaN 71 N (N+1) 0 #[p,v] acc (wr.drewN n) (HB.out.drewN n)
   clear HE hb;go_wp2_with fail;refine cM.mono ?_;rintro e w1⟨rfl,m,rfl⟩;go_wp2_with fail;refine(cS m).mono ?_;rintro e w2⟨rfl,-,hbe⟩;have hs2:=HW.out.size;have HF:=hid (HW.out.trans (below_drewN (Below.refl N wr) m |>.trans (hbe.below (by omega) (show N≤(wr.drewN m).heap.size by have:=HN.out;show N≤wr.heap.size;omega))))
   clear hbe cS cM;go_wp2_with fail;go_ret;exact⟨by rw [HE2.out];rfl,by rw [HN.out];exact HF.out⟩
def qtU (f:UInt8→Value):List Value:=(List.range 256).map fun i=>f i.toUInt8
theorem qkx (f:UInt8→Value):(qtU f).length=256:=by simp [qtU]
theorem qtC (c:UInt8):c.toNat.toUInt8=c:=by simp
theorem qxX (f:UInt8→Value) (c:UInt8):(qtU f)[c.toNat]?=some (f c):=by
 have h:=c.toNat_lt;unfold qtU;rw [List.getElem?_map,List.getElem?_range (by omega),Option.map_some,qtC]
theorem qvM (f:UInt8→Value) (c:UInt8) (v:Value):(qtU f).set c.toNat v=qtU fun x=>if x=c then v else f x:=by
 apply List.ext_getElem (by rw [List.length_set,qkx,qkx])
 intro i h1 h2
 have hi:i<256:=by rw [qkx] at h2;exact h2
 rw [List.getElem_set];simp only [qtU,List.getElem_map,List.getElem_range]
 by_cases e:c.toNat=i
 ·rw [if_pos e,if_pos (by rw [← e];exact qtC c)]
 ·rw [if_neg e,if_neg (fun e2=>e (by rw [← e2];simp;omega))]
theorem qjH (v:Value):qtU (fun _=>v)=List.replicate 256 v:=by
 unfold qtU;rw [List.map_const'];simp only [List.length_range]
def qiR (T:TypeId) (b:Nat) (f:UInt8→Value) (w:World):Prop:=w.heap[b]?=some (.cells (qtU f).toArray T (0,0))
theorem qiR.cell {T:TypeId} {b:Nat} {f:UInt8→Value} {w:World} (h:qiR T b f w) (c:UInt8):w.cell? ⟨b,c.toNat,none⟩=some (f c):=by
 rw [Lib.cell_of_heap h,List.getElem?_toArray];exact qxX f c
theorem qiR.frozen {T:TypeId} {b:Nat} {f:UInt8→Value} {w:World} (h:qiR T b f w) (n:Nat):w.frozen? ⟨b,n,none⟩=false:=Lib.frozen_of_heap h n
theorem qiR.set {T:TypeId} {b:Nat} {f:UInt8→Value} {w:World} (h:qiR T b f w) (c:UInt8) (v:Value):qiR T b (fun x=>if x=c then v else f x) (w.setCell ⟨b,c.toNat,none⟩ v):=by
 unfold qiR;rw [heap_setCell_same _ _ _ _ _ _ h,← qvM,List.setIfInBounds_toArray]
theorem quQ:liesAt prog prog.depth 71 ((#[.pointer none,.slice none 0 0]:Array Value).size/prog.cellsOf 71) 0 71 1=true:=by kernel_rfl
theorem qcT (p v:Value):liesAt prog prog.depth 71 ((#[p,v]:Array Value).size/prog.cellsOf 71) 0 71 1=true:=quQ
theorem qxT (b:Nat) (f:UInt8→UInt8) (c:UInt8) (w:World) (h:qiR 108 b (fun x=>.int .u8 (f x).toNat) w):
  Calls prog 145 (#[.int .u8 c.toNat]++#[.pointer (some ⟨b,0,none⟩)]) w fun e w'=>e=.returned (.tuple #[.int .u8 (f c).toNat,.bool true])∧∃n,w'=w.drewN n:=by
 have hc:=h.cell c;have hl:=c.toNat_lt;clear h;go_enter func145,ntmps145;go_wp2_with fail;go_ret2;exact⟨rfl,0,rfl⟩
theorem qyz (b:Nat) (f:UInt8→Bool) (c:UInt8) (w:World) (h:qiR 154 b (fun x=>.bool (f x)) w):
  Calls prog 146 (#[.int .u8 c.toNat]++#[.pointer (some ⟨b,0,none⟩)]) w fun e w'=>e=.returned (.tuple #[.int .u8 c.toNat,.bool (!f c)])∧∃n,w'=w.drewN n:=by
 have hc:=h.cell c;have hc2:∀n,(w.drewN n).cell? ⟨b,c.toNat,none⟩=some (.bool (f c)):=fun n=>hc
 have hl:=c.toNat_lt;clear h;go_enter func146,ntmps146;go_wp2_with fail;go_quiet (fail)
 go_wp2_with fail;go_ret2;exact⟨rfl,_,rfl⟩
def qoA (f:UInt8→UInt8×Bool) (s:List UInt8):List UInt8:=s.flatMap fun c=>if(f c).2 then [(f c).1] else []
theorem qsU (f:UInt8→UInt8×Bool) (s:List UInt8) (k:Nat) (h:k<s.length):qoA f (s.take (k+1))=qoA f (s.take k)++if(f s[k]).2 then [(f s[k]).1] else []:=by
 unfold qoA;rw [List.take_succ_eq_append_getElem h,List.flatMap_append];simp
theorem qfS (g:Nat) (lb:Array Value) (eg:∀args w,(callFunc g args).run prog w=.ok (.enter g args) w) (f:UInt8→UInt8×Bool) (T:Nat) (s:List UInt8) (w:World) (hs:s.length≤140737488355328) (hT:T<w.heap.size)
  (hp:∀(c:UInt8) (W:World),W.heap[T]?=w.heap[T]?→Calls prog g (#[.int .u8 c.toNat]++lb) W fun e W'=>e=.returned (.tuple #[.int .u8 (f c).1.toNat,.bool (f c).2])∧∃n,W'=W.drewN n):
  Calls prog 144 #[encS s,.func (.func g) #[] lb] w fun e w'=>e=.returned (encS (qoA f s))∧Below w.heap.size w w':=by
 obtain⟨N,hN⟩:=qQ (w.heap.size)
 have HN:=hid hN;have HI:Hid (Bld 71 N N 0 #[.pointer none,.slice none 0 0] [] (w.alloc (.cells #[.pointer none,.slice none 0 0] 71))∧Below N w (w.alloc (.cells #[.pointer none,.slice none 0 0] 71))):=
  hid ⟨qb9 71 _ N N 0 _ (by decide) (Nat.le_refl _) (by rw [← hN];exact heap_alloc_new _ _) rfl rfl,by rw [← hN];exact(Below.refl _ _).alloc (Nat.le_refl _) _⟩
 have hTN:T<N:=by omega
 clear hT;go_enter func144,ntmps144;go_wp2_with fail;go_loopw [11] (fun vi wr=>∃(k:Nat) (acc:List UInt8) (p v:Value),k≤s.length∧vi=.int .i64 k∧acc.length≤k∧Hid (Bld 71 N N 0 #[p,v] acc wr)∧Hid (acc=qoA f (s.take k))∧Hid (Below N w wr)) (fun vi _=>s.length-(intOf vi).toNat)
 case atStart=>exact⟨0,[],_,_,Nat.zero_le _,rfl,Nat.le_refl _,hid HI.out.1,hid (by simp [qoA]),hid HI.out.2⟩
 case round=>
  obtain⟨k,acc,p,v,hk,rfl,hal,HB,HA,HW⟩:=hrel;clear HI;have hNw:N≤wr.heap.size:=by have h1:=HW.out.size;have h2:=HN.out;omega
  by_cases hlt:k<s.length
  ·have HS:=hid (qsU f s k hlt)
   have cF:=fun W h=>hp s[k] W h
   obtain⟨y,hy⟩:=qQ (f s[k])
   rw [hy] at HS cF;obtain⟨d,b⟩:=y;simp only at HS cF
   have cF:=cF wr (HW.out.block T hTN)
   cases b with
   |true=>
    have HS2:Hid (acc++[d]=qoA f (s.take (k+1))):=hid (by rw [HS.out,HA.out];simp)
    clear HS HA hy hp;go_wp2_with (go_at_fn g;refine cF.mono ?_;rintro e W' ⟨rfl,n,rfl⟩)
    refine(qcQ 71 N N 0 #[p,v] acc d (wr.drewN n) (qcT p v) (HB.out.drewN n) (by omega) hNw).mono ?_
    rintro e w2⟨rfl,⟨v',hB2⟩,hbe⟩;have HB2:=hid hB2;have HW2:=hid ((below_drewN HW.out n).trans (hbe.below (Nat.le_refl _) hNw))
    clear hB2 hbe;go_wp2_with fail;go_roundw
    case rel=>exact⟨k+1,acc++[d],_,v',by omega,by go_num,by simp;omega,hid HB2.out,HS2,HW2⟩
    case measure=>simp [intOf];omega
   |false=>
    have HS2:Hid (acc=qoA f (s.take (k+1))):=hid (by rw [HS.out,HA.out];simp)
    clear HS HA hy hp;go_wp2_with (go_at_fn g;refine cF.mono ?_;rintro e W' ⟨rfl,n,rfl⟩)
    go_roundw
    case rel=>exact⟨k+1,acc,p,v,by omega,by go_num,by omega,hid (HB.out.drewN n),HS2,hid (below_drewN HW.out n)⟩
    case measure=>simp [intOf];omega
  ·obtain rfl:k=s.length:=by omega
   rw [List.take_length] at HA;have cT:=qaN 71 N N 0 _ acc wr HB.out;clear HB hp;go_wp2_with fail;refine cT.mono ?_;rintro e w3⟨rfl,-,hbe⟩;have HW3:=hid (HW.out.trans (hbe.below (Nat.le_refl _) hNw))
   clear hbe cT;go_wp2_with fail;go_ret;exact⟨by rw [HA.out];rfl,by rw [HN.out];exact HW3.out⟩
def qo4 (g:Nat) (l:List UInt8) (more:List Value) (w:World):Prop:=w.heap[g]?=some (.cells (l.map u8++more).toArray 5 ((l.map u8++more).toArray.size,(l.map u8++more).toArray.size+1))
theorem qo4.cell {g:Nat} {l:List UInt8} {more:List Value} {w:World} (h:qo4 g l more w) (j:Nat) (hj:j<l.length):w.cell? ⟨g,j,none⟩=some (u8 l[j]):=by
 unfold World.cell?
 rw [h];simp only
 rw [List.getElem?_toArray,List.getElem?_append_left (by rw [List.length_map];exact hj),List.getElem?_map,List.getElem?_eq_getElem hj]
 rfl
theorem qo4.frozen {g:Nat} {l:List UInt8} {more:List Value} {w:World} (h:qo4 g l more w) (j:Nat) (hj:j<l.length):w.frozen? ⟨g,j,none⟩=false:=by
 unfold World.frozen?
 rw [h];have:j<(l.map u8++more).toArray.size:=by simp;omega
 simp only [Bool.and_eq_false_imp,decide_eq_true_eq,decide_eq_false_iff_not]
 omega
theorem qo4.set {g:Nat} {l:List UInt8} {more:List Value} {w:World} (h:qo4 g l more w) (j:Nat) (hj:j<l.length) (c:UInt8):qo4 g (l.set j c) more (w.setCell ⟨g,j,none⟩ (u8 c)):=by
 have e:((l.set j c).map u8++more)=(l.map u8++more).set j (u8 c):=by rw [List.set_append_left _ _ (by rw [List.length_map];exact hj),List.map_set]
 have hz:((l.set j c).map u8++more).toArray.size=(l.map u8++more).toArray.size:=by simp
 unfold qo4 at h ⊢
 rw [hz,e];unfold World.setCell;simp only [Array.getElem?_modify,if_pos]
 rw [h];simp [List.setIfInBounds_toArray]
theorem qpi (s:List UInt8) (w:World):∃cap W more,(convert 9 69 (encS s)).run prog w=.ok (.slice (some ⟨w.heap.size,0,none⟩) s.length cap) W∧qo4 w.heap.size s more W∧Below w.heap.size w W:=by
 have h:=run_bytes_of_string (P:=prog) w 9 69 5 ⟨s.toArray⟩ underlying9 underlying69 underlying5
 rw [show(⟨s.toArray⟩:ByteArray).size=s.length by simp [ByteArray.size]] at h;generalize grownCap w s.length 0 5=cap at h
 have e:bytesRow ⟨s.toArray⟩ cap=(s.map u8++List.replicate (cap-s.length) (Value.int .u8 0)).toArray:=by
  unfold bytesRow;rw [show(⟨s.toArray⟩:ByteArray).size=s.length by simp [ByteArray.size]]
  apply Array.toList_inj.1
  simp
  exact fun _ _=>rfl
 rw [e] at h;refine⟨cap,_,List.replicate (cap-s.length) (Value.int .u8 0),h,?_,(Below.refl _ _).drew.alloc (Nat.le_refl _) _⟩
 show(w.heap.push _)[w.heap.size]?=_
 simp
theorem qud {g cap:Nat} {l:List UInt8} {more:List Value} {w:World} (h:qo4 g l more w):(convert 69 9 (.slice (some ⟨g,0,none⟩) l.length cap)).run prog w=.ok (.string ⟨l.toArray⟩) w:=
 run_convert_bytes_back w 69 9 5 ⟨g,0,none⟩ cap l underlying69 underlying5 underlying9 fun j hj=>by
  rw [qgG,Nat.zero_add];exact h.cell j hj
theorem qv0 (g cap:Nat) (l:List UInt8) (more:List Value) (w:World) (h:qo4 g l more w) (hn:l.length≤1099511627776):
  Calls prog 135 #[.slice (some ⟨g,0,none⟩) l.length cap] w fun e w'=>e=.returned (.tuple #[])∧qo4 g l.reverse more w'∧Below g w w':=by
 go_enter func135,ntmps135;go_wp2;go_loopw [2,3] (fun s2 s3 wr=>∃(k:Nat) (ys:List UInt8),k+k≤l.length+1∧s2=.int .i64 k∧s3=.int .i64 ((l.length:Int)-1-k)∧Mix k l ys∧qo4 g ys more wr∧Below g w wr) (fun s2 _ _=>l.length-(intOf s2).toNat)
 case atStart=>exact⟨0,l,by omega,rfl,by simp,Mix.zero _,h,Below.refl _ _⟩
 case round=>
  obtain⟨k,ys,hk,rfl,rfl,hm,ho,hg⟩:=hrel;by_cases hlt:(k:Int)<(l.length:Int)-1-k
  ·have q1:=hm.mid (t:=k) (Nat.le_refl _) (by omega)
   have hyl:=hm.1;obtain⟨j,hj⟩:=qQ (l.length-1-k)
   have hji:(l.length:Int)-1-(k:Int)=(j:Int):=by omega
   have ci:=ho.cell k (by omega)
   have cj:=ho.cell j (by omega)
   have fi:=ho.frozen k (by omega)
   have fj:=ho.frozen j (by omega)
   have HM:=Mix.step hm (by omega) (List.getElem?_eq_getElem (show k<ys.length by omega)) (List.getElem?_eq_getElem (show l.length-1-k<ys.length by omega))
   simp only [hj] at HM
   have HO:=(ho.set k (by omega) (ys[j]'(by omega))).set j (by rw [List.length_set];omega) (ys[k]'(by omega))
   unfold Go.Proofs.YtpodopnmkjinhaaGreatDoor.u8 at ci cj HO;generalize ys[k]'(by omega)=a at *;generalize ys[j]'(by omega)=b at *;have HM:=hid HM;have HO:=hid HO;have HB:Hid (Below g w ((wr.setCell ⟨g,k,none⟩ (.int .u8 b.toNat)).setCell ⟨g,j,none⟩ (.int .u8 a.toNat))):=hid ((hg.setCell (p:=⟨g,k,none⟩) (Nat.le_refl _) _).setCell (p:=⟨g,j,none⟩) (Nat.le_refl _) _)
   have b0:(k:Int)<(l.length:Int):=by omega
   have b2:(j:Int)<(l.length:Int):=by omega
   have hkj:(k:Int)<(j:Int):=by omega
   have hmi:(j:Int)-1=(l.length:Int)-1-((k:Int)+1):=by omega
   rw [hji];clear hm ho hg h q1 hyl;go_wp2;go_region
   go_wp2;exact⟨⟨k+1,_,by omega,by simp,by congr 1,HM.out,HO.out,HB.out.drew⟩,by simp [intOf];omega⟩
  ·have hd:=hm.done (by omega)
   subst hd;go_wp2;go_end0;exact⟨rfl,ho,hg⟩
theorem qtB (x:List UInt8) (w:World) (hx:x.length≤1099511627776):
  Calls prog 134 (#[encS x]++#[]) w fun e w'=>e=.returned (encS x.reverse)∧Below w.heap.size w w':=by
 obtain⟨cap,W,more,hc,hR,hB⟩:=qpi x w;have cT:=qv0 w.heap.size cap x more W hR hx;have hBs:=hB.size;go_enter func134,ntmps134;go_wp2_with fail;refine cT.mono ?_;rintro e w2⟨rfl,hR2,hB2⟩;have hcv:=qud (cap:=cap) hR2
 rw [List.length_reverse] at hcv;have HB:=hid (hB.trans hB2)
 clear hR hR2 hB hB2 cT hc;go_wp2_with fail;go_ret;exact⟨rfl,HB.out⟩
theorem qlF (g:Nat) (eg:∀args w,(callFunc g args).run prog w=.ok (.enter g args) w) (f:List UInt8→List UInt8) (A:Option Addr) (c:Nat) (ls:List (List UInt8)) (w:World) (hT:qat w (fun _=>True) A ls)
  (hl:ls.length≤1099511627776) (hz:(qax (ls.map f)).length≤140737488355328)
  (hp:∀x∈ls,∀W,Calls prog g (#[encS x]++#[]) W fun e W'=>e=.returned (encS (f x))∧Below W.heap.size W W'):
  Calls prog 129 #[.slice A ls.length c,.func (.func g) #[] #[]] w fun e w'=>e=.returned (encS (qax (ls.map f)))∧Below w.heap.size w w':=by
 obtain⟨N,hN⟩:=qQ (w.heap.size)
 have HN:=hid hN;have HI:Hid (Bld 71 N N 0 #[.pointer none,.slice none 0 0] [] (w.alloc (.cells #[.pointer none,.slice none 0 0] 71))∧Below N w (w.alloc (.cells #[.pointer none,.slice none 0 0] 71))):=
  hid ⟨qb9 71 _ N N 0 _ (by decide) (Nat.le_refl _) (by rw [← hN];exact heap_alloc_new _ _) rfl rfl,by rw [← hN];exact(Below.refl _ _).alloc (Nat.le_refl _) _⟩
 have HTw:=hid hT;have HZ:=hid hz;obtain⟨tot,htot⟩:∃t,qax (ls.map f)=t:=⟨_,rfl⟩
 rw [htot];have HTO:=hid htot;clear hT hz htot;go_enter func129,ntmps129;go_wp2_with fail;go_loopw [10] (fun vi wr=>∃(k:Nat) (acc:List UInt8) (p v:Value),k≤ls.length∧vi=.int .i64 k∧Hid (Bld 71 N N 0 #[p,v] acc wr)∧Hid (acc=qax ((ls.map f).take k))∧Hid (Below N w wr)) (fun vi _=>ls.length-(intOf vi).toNat)
 case atStart=>exact⟨0,[],_,_,Nat.zero_le _,rfl,hid HI.out.1,hid (by simp [qax]),hid HI.out.2⟩
 case round=>
  obtain⟨k,acc,p,v,hk,rfl,HB,HA,HW⟩:=hrel;clear HI;have hNw:N≤wr.heap.size:=by have h1:=HW.out.size;have h2:=HN.out;omega
  by_cases hlt:k<ls.length
  ·have hj:=qdI (ls.map f) (k+1)
   rw [List.take_succ_eq_append_getElem (by rw [List.length_map];exact hlt),qcL,← HA.out,List.getElem_map] at hj;have HS2:Hid (acc++f ls[k]++[10]=qax ((ls.map f).take (k+1))):=hid (by
    rw [List.take_succ_eq_append_getElem (by rw [List.length_map];exact hlt),qcL,← HA.out,List.getElem_map])
   obtain⟨g',o',rfl,-,hck⟩:=(HTw.out.below (show Below w.heap.size w wr by rw [HN.out];exact HW.out)) k hlt
   have cF:=hp ls[k] (List.getElem_mem hlt) wr
   have hzz:=HZ.out;obtain⟨x,hx⟩:=qQ (ls[k])
   rw [hx] at hck cF hj HS2;obtain⟨y,hy⟩:=qQ (f x)
   rw [hy] at cF hj HS2;have hal:acc.length+y.length+1≤140737488355328:=by simp only [List.length_append,List.length_singleton] at hj;omega
   clear HA hx hy hj hzz hp HZ;go_wp2_with (go_at_fn g;refine cF.mono ?_;rintro e W' ⟨rfl,hbW⟩)
   have hNW:N≤W'.heap.size:=by have:=hbW.size;omega
   refine(qa4 71 N N 0 #[p,v] acc y W' (qcT p v) (HB.out.below hbW) (by omega) hNW).mono ?_
   rintro e w2⟨rfl,⟨v',hB2⟩,hbe⟩;have hN2:N≤w2.heap.size:=by have:=hbe.size;omega
   have HW2:=hid ((HW.out.trans (hbW.mono hNw)).trans (hbe.below (Nat.le_refl _) hNW))
   have hB2':Bld 71 N N 0 #[.pointer (some ⟨N,0,none⟩),v'] (acc++y) w2:=hB2
   have cB:=qcQ 71 N N 0 #[.pointer (some ⟨N,0,none⟩),v'] (acc++y) 10 w2 (qcT _ _) hB2' (by simp only [List.length_append];omega) hN2
   clear hB2 hB2' hbe cF hbW;go_wp2_with fail;refine cB.mono ?_;rintro e w3⟨rfl,⟨v2,hB3⟩,hbe⟩;have HB3:=hid hB3;have HW3:=hid (HW2.out.trans (hbe.below (Nat.le_refl _) hN2))
   clear hB3 hbe cB;go_wp2_with fail;go_roundw
   case rel=>exact⟨k+1,acc++y++[10],_,v2,by omega,by go_num,hid HB3.out,HS2,HW3⟩
   case measure=>simp [intOf];omega
  ·obtain rfl:k=ls.length:=by omega
   rw [show(ls.map f).take ls.length=ls.map f by rw [List.take_of_length_le (by simp)],HTO.out] at HA;have cT:=qaN 71 N N 0 _ acc wr HB.out;clear HB hp HZ;go_wp2_with fail;refine cT.mono ?_;rintro e w3⟨rfl,-,hbe⟩;have HW3:=hid (HW.out.trans (hbe.below (Nat.le_refl _) hNw))
   clear hbe cT;go_wp2_with fail;go_ret;exact⟨by rw [HA.out];rfl,by rw [HN.out];exact HW3.out⟩
end Go.Proofs.YtpodopnmkjinhaaGreatDoor
namespace Go.Proofs.YtpodopnmkjinhaaGreatDoor
open Go.Lib (hid)
open Go.RowKit Go.Sort
theorem qeu (b:Bool) (B c:Nat) (A:Option Addr) (ls:List (List UInt8)) (w:World) (hA:ls=[]∨A=some ⟨B,0,none⟩) (hT:qbD b B ls w) (hBw:ls≠[]→B<w.heap.size)
  (hl:ls.length≤1099511627776) (hz:(qax ls).length≤140737488355328):
  Calls prog 127 #[.slice A ls.length c,.func (.func 128) #[] #[]] w fun e w'=>e=.returned (encS (qax ls))∧Below w.heap.size w w':=by
 have eg:∀args w,(callFunc 128 args).run prog w=.ok (.enter 128 args) w:=enters_of func128 (by kernel_rfl) rfl
 obtain⟨N,hN⟩:=qQ (w.heap.size)
 have HN:=hid hN;have HI:Hid (Bld 71 N N 0 #[.pointer none,.slice none 0 0] [] (w.alloc (.cells #[.pointer none,.slice none 0 0] 71))∧Below N w (w.alloc (.cells #[.pointer none,.slice none 0 0] 71))):=
  hid ⟨qb9 71 _ N N 0 _ (by decide) (Nat.le_refl _) (by rw [← hN];exact heap_alloc_new _ _) rfl rfl,by rw [← hN];exact(Below.refl _ _).alloc (Nat.le_refl _) _⟩
 have HTw:=hid hT;have HZ:=hid hz;obtain⟨tot,htot⟩:∃t,qax ls=t:=⟨_,rfl⟩
 rw [htot];have HTO:=hid htot;clear hT hz htot;go_enter func127,ntmps127;go_wp2_with fail;go_loopw [10] (fun vi wr=>∃(k:Nat) (acc:List UInt8) (p v:Value),k≤ls.length∧vi=.int .i64 k∧Hid (Bld 71 N N 0 #[p,v] acc wr)∧Hid (acc=qax (ls.take k))∧Hid (Below N w wr)) (fun vi _=>ls.length-(intOf vi).toNat)
 case atStart=>exact⟨0,[],_,_,Nat.zero_le _,rfl,hid HI.out.1,hid (by simp [qax]),hid HI.out.2⟩
 case round=>
  obtain⟨k,acc,p,v,hk,rfl,HB,HA,HW⟩:=hrel;clear HI;have hNw:N≤wr.heap.size:=by have h1:=HW.out.size;have h2:=HN.out;omega
  by_cases hlt:k<ls.length
  ·have hj:=qdI ls (k+1)
   rw [List.take_succ_eq_append_getElem hlt,qcL,← HA.out] at hj;have HS2:Hid (acc++ls[k]++[10]=qax (ls.take (k+1))):=hid (by rw [List.take_succ_eq_append_getElem hlt,qcL,← HA.out])
   have hne:ls≠[]:=fun e=>by rw [e] at hlt;simp at hlt
   obtain rfl:A=some ⟨B,0,none⟩:=hA.resolve_left hne
   have hBb:=hBw hne;obtain⟨c0,c1,c2,-⟩:=(HTw.out.block (HW.out.block B (by omega))).at k hlt
   have hzz:=HZ.out;obtain⟨x,hx⟩:=qQ (ls[k])
   rw [hx] at c0 c1 c2 hj HS2;have cF:=qw6 b x;unfold encR at cF;have hal:acc.length+x.length+1≤140737488355328:=by simp only [List.length_append,List.length_singleton] at hj;omega
   clear HA hx hj hzz HZ hne hA hBw;have zr:=qo1;go_wp2_with fail;have hbA:Below wr.heap.size wr (wr.alloc (.cells #[.int .i64 (nmP b x).1,.string ⟨(nmP b x).2.toArray⟩,.string ⟨x.toArray⟩] 143)):=(Below.refl _ _).alloc (Nat.le_refl _) _
   refine(cF _).mono ?_;rintro e W'⟨rfl,hbW0⟩;have hbW:Below wr.heap.size wr W':=qT hbA hbW0
   have hNW:N≤W'.heap.size:=by have:=hbW.size;omega
   have cS:=qa4 71 N N 0 #[p,v] acc x W' (qcT p v) (HB.out.below hbW) (by omega) hNW
   clear hbA hbW0 cF zr;go_wp2_with fail;refine cS.mono ?_;rintro e w2⟨rfl,⟨v',hB2⟩,hbe⟩;have hN2:N≤w2.heap.size:=by have:=hbe.size;omega
   have HW2:=hid ((HW.out.trans (hbW.mono hNw)).trans (hbe.below (Nat.le_refl _) hNW))
   have hB2':Bld 71 N N 0 #[.pointer (some ⟨N,0,none⟩),v'] (acc++x) w2:=hB2
   have cB:=qcQ 71 N N 0 #[.pointer (some ⟨N,0,none⟩),v'] (acc++x) 10 w2 (qcT _ _) hB2' (by simp only [List.length_append];omega) hN2
   clear hB2 hB2' hbe cS hbW;go_wp2_with fail;refine cB.mono ?_;rintro e w3⟨rfl,⟨v2,hB3⟩,hbe⟩;have HB3:=hid hB3;have HW3:=hid (HW2.out.trans (hbe.below (Nat.le_refl _) hN2))
   clear hB3 hbe cB;go_wp2_with fail;go_roundw
   case rel=>exact⟨k+1,acc++x++[10],_,v2,by omega,by go_num,hid HB3.out,HS2,HW3⟩
   case measure=>simp [intOf];omega
  ·obtain rfl:k=ls.length:=by omega
   rw [List.take_length,HTO.out] at HA;have cT:=qaN 71 N N 0 _ acc wr HB.out;clear HB HZ;go_wp2_with fail;refine cT.mono ?_;rintro e w3⟨rfl,-,hbe⟩;have HW3:=hid (HW.out.trans (hbe.below (Nat.le_refl _) hNw))
   clear hbe cT;go_wp2_with fail;go_ret;exact⟨by rw [HA.out];rfl,by rw [HN.out];exact HW3.out⟩
theorem ql5 {w:World} {N e k n:Nat} {v:Value} {xs:List Value} (h:w.ownsRow N e k v n xs):n=0∨∃g c,v=.slice (some ⟨g,0,none⟩) n c∧n≤c∧N≤g∧g<w.heap.size:=by
 rcases h.2 with ⟨_,h0⟩|⟨g,c,cur,hv,hN,hb,hl,_⟩
 ·exact .inl h0
 ·exact .inr ⟨g,c,hv,hl,hN,lt_of_block hb⟩
end Go.Proofs.YtpodopnmkjinhaaGreatDoor
namespace Go.Proofs
open Go.Shelf
def Tryz.sortRow_ren:Go.Shelf.Ren:=⟨fun|6=>122|15=>184|14=>183|28=>228|29=>229|20=>220|21=>221|22=>222|23=>223|24=>224|25=>225|26=>226|27=>227|46=>255|47=>256|48=>257|49=>258|50=>259|57=>284|n=>n,fun|22=>136|24=>143|25=>145|3=>3|39=>179|0=>0|53=>176|55=>104|4=>4|46=>233|45=>232|50=>237|5=>5|9=>9|66=>270|70=>274|76=>299|77=>291|n=>n,fun|n=>n⟩
theorem Tryz.sortRow:Go.Proofs.SlLaysF0.n6 prog Tryz.sortRow_ren:={
 mixed:=by kernel_rfl
 f6:=⟨Tryz.f122.name,by decide,func122.trans (congrArg some (by kernel_rfl))⟩
 f14:=⟨Tryz.f183.name,by decide,func183.trans (congrArg some (by kernel_rfl))⟩
 f15:=func184.trans (congrArg some (by kernel_rfl))
 f20:=⟨Tryz.f220.name,by decide,func220.trans (congrArg some (by kernel_rfl))⟩
 f21:=⟨Tryz.f221.name,by decide,func221.trans (congrArg some (by kernel_rfl))⟩
 f22:=⟨Tryz.f222.name,by decide,func222.trans (congrArg some (by kernel_rfl))⟩
 f23:=⟨Tryz.f223.name,by decide,func223.trans (congrArg some (by kernel_rfl))⟩
 f24:=⟨Tryz.f224.name,by decide,func224.trans (congrArg some (by kernel_rfl))⟩
 f25:=⟨Tryz.f225.name,by decide,func225.trans (congrArg some (by kernel_rfl))⟩
 f26:=⟨Tryz.f226.name,by decide,func226.trans (congrArg some (by kernel_rfl))⟩
 f27:=⟨Tryz.f227.name,by decide,func227.trans (congrArg some (by kernel_rfl))⟩
 f28:=func228.trans (congrArg some (by kernel_rfl))
 f29:=func229.trans (congrArg some (by kernel_rfl))
 f46:=⟨Tryz.f255.name,by decide,func255.trans (congrArg some (by kernel_rfl))⟩
 f47:=func256.trans (congrArg some (by kernel_rfl))
 f48:=func257.trans (congrArg some (by kernel_rfl))
 f49:=⟨Tryz.f258.name,by decide,func258.trans (congrArg some (by kernel_rfl))⟩
 f50:=⟨Tryz.f259.name,by decide,func259.trans (congrArg some (by kernel_rfl))⟩
 f57:=⟨Tryz.f284.name,by decide,func284.trans (congrArg some (by kernel_rfl))⟩
 t0:=underlying0
 a0:=Tryz.isAgg0
 z0:=Tryz.sizeOf0
 v0:=Tryz.zeroValue0
 t3:=underlying3
 a3:=Tryz.isAgg3
 z3:=Tryz.sizeOf3
 v3:=Tryz.zeroValue3
 t4:=underlying4
 a4:=Tryz.isAgg4
 z4:=Tryz.sizeOf4
 v4:=Tryz.zeroValue4
 t5:=underlying5
 a5:=Tryz.isAgg5
 z5:=Tryz.sizeOf5
 v5:=Tryz.zeroValue5
 t9:=underlying9
 a9:=Tryz.isAgg9
 z9:=Tryz.sizeOf9
 v9:=Tryz.zeroValue9
 t22:=underlying136
 a22:=Tryz.isAgg136
 z22:=Tryz.sizeOf136
 v22:=Tryz.zeroValue136
 t25:=underlying145
 a25:=Tryz.isAgg145
 z25:=Tryz.sizeOf145
 v25:=Tryz.zeroValue145
 t39:=underlying179
 a39:=Tryz.isAgg179
 z39:=Tryz.sizeOf179
 v39:=Tryz.zeroValue179
 t45:=underlying232
 a45:=Tryz.isAgg232
 z45:=Tryz.sizeOf232
 v45:=Tryz.zeroValue232
 t46:=underlying233
 a46:=Tryz.isAgg233
 z46:=Tryz.sizeOf233
 v46:=Tryz.zeroValue233
 t50:=underlying237
 a50:=Tryz.isAgg237
 z50:=Tryz.sizeOf237
 v50:=Tryz.zeroValue237
 t53:=underlying176
 a53:=Tryz.isAgg176
 z53:=Tryz.sizeOf176
 v53:=Tryz.zeroValue176
 t55:=underlying104
 a55:=Tryz.isAgg104
 z55:=Tryz.sizeOf104
 v55:=Tryz.zeroValue104
 t66:=underlying270
 a66:=Tryz.isAgg270
 z66:=Tryz.sizeOf270
 v66:=Tryz.zeroValue270
 t70:=underlying274
 a70:=Tryz.isAgg274
 z70:=Tryz.sizeOf274
 v70:=Tryz.zeroValue274
 t76:=underlying299
 a76:=Tryz.isAgg299
 z76:=Tryz.sizeOf299
 v76:=Tryz.zeroValue299
 t77:=underlying291
 a77:=Tryz.isAgg291
 z77:=Tryz.sizeOf291
 v77:=Tryz.zeroValue291 }
end Go.Proofs
