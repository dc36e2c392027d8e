/- What the statement of May12Said leans on, part 2. Conditions: each theorem's own. -/
import Derived.Test.YtpodopnmkjinhaaGreatDoorKMA
set_option linter.unusedSimpArgs false
set_option maxRecDepth 100000
set_option maxHeartbeats 8000000
open Go.Proofs.Tryz
open List renaming setIfInBounds_toArray → sIA, set_cons_zero → sC0, set_cons_succ → sCS
namespace Go.Proofs.YtpodopnmkjinhaaGreatDoor.Cal
open Go.Lib (hid)
open Go.RowKit Go.Shelf
attribute [local go_sem] Oper.semAt_some
def qaW {w:World} {A:Option Addr} (l:List VI) (h:qbN w (fun _=>True) A l):List (Itm w):=l.attach.map fun x=>⟨x.1,h.2 x.1 x.2⟩
theorem qfE {w:World} {A:Option Addr} (l:List VI) (h:qbN w (fun _=>True) A l):(qaW l h).map (·.1.v)=l.map (·.v):=by
 unfold qaW;rw [List.map_map];show l.attach.map (fun x=>x.1.v)=_
 conv=>rhs;rw [← List.attach_map_subtype_val l,List.map_map]
 rfl
theorem qdH {w:World} {A:Option Addr} (l:List VI) (h:qbN w (fun _=>True) A l):(qaW l h).length=l.length:=by simp [qaW]
theorem qfg {w:World} {A:Option Addr} (l:List VI) (h:qbN w (fun _=>True) A l) (k:Nat) (hk:k<(qaW l h).length):((qaW l h)[k]).1=l[k]'(by rw [← qdH l h];exact hk):=by simp [qaW]
theorem qqB (A:Option Addr) (n c:Nat) (w:World):
  Calls prog 239 #[.slice A n c] w fun e w'=>e=.returned (.func (.func 268) #[] #[.pointer (some ⟨w.heap.size,0,none⟩)])∧w'=w.alloc (.cells #[.slice A n c] 206):=by
 go_enter func239,ntmps239;go_wp2;go_ret;exact⟨rfl,rfl⟩
theorem values_stops (Bs:Nat) (A:Option Addr) (c:Nat) (l:List VI) (w:World) (hBs:w.cell? ⟨Bs,0,none⟩=some (.slice A l.length c)) (hV:qbN w (fun _=>True) A l) (hreach:l.length*64≤140737488355328):
  SeqStopsK Fence.wide 8 prog 268 #[.pointer (some ⟨Bs,0,none⟩)] (fun x:Itm w=>#[qpr x.1]) (KpC w.heap.size) (fun xs=>xs=qaW l hV) (fun _=>True) l.length w:=fun lp J Jx W hW hJ hJx hY h0=>by
 have hBl:=World.block_lt_of_cell? w _ hBs
 have hc0:=(hW.cell (p:=⟨Bs,0,none⟩) hBl).trans hBs
 have hlen:=qdH l hV;refine callsIn_of_wp func268 rfl trivial ?_ rfl
 simp only [ntmps268,List.size_toArray,List.length_cons,List.length_nil,Nat.reduceAdd,Nat.reduceSub,Array.replicate_succ,Array.replicate_zero,List.push_toArray,List.append_toArray,List.nil_append,List.cons_append]
 have HL:=hid hlen;clear hlen
 gi_wp2
 gi_loopw [7] (fun i wr=>∃k:Nat,k≤l.length∧i=.int .i64 k∧J ((qaW l hV).take k) wr∧Below w.heap.size w wr∧W.heap.size≤wr.heap.size) (fun i _=>l.length-(intOf i).toNat)
 case atStart=>exact⟨0,Nat.zero_le _,rfl,h0,hW,Nat.le_refl _⟩
 case round=>
  obtain⟨k,hk,rfl,hJs,hB,hWs⟩:=hrel;by_cases hlt:k<l.length
  ·obtain⟨g,o,rfl,-,d0,d1,d2,d3⟩:=hV.1 k hlt
   have e0:=(hB.cell (p:=⟨g,o+k*4,none⟩) (World.block_lt_of_cell? w _ d0)).trans d0
   have e1:=(hB.cell (p:=⟨g,o+k*4+1,none⟩) (World.block_lt_of_cell? w _ d1)).trans d1
   have e2:=(hB.cell (p:=⟨g,o+k*4+2,none⟩) (World.block_lt_of_cell? w _ d2)).trans d2
   have e3:=(hB.cell (p:=⟨g,o+k*4+3,none⟩) (World.block_lt_of_cell? w _ d3)).trans d3
   have hlt':k<(qaW l hV).length:=by rw [HL.out];exact hlt
   have hal:Below wr.heap.size wr (wr.alloc (.cells (qaq l[k]).toArray 210)):=(Below.refl _ _).alloc (Nat.le_refl _) _
   have hJa:=hJ _ _ _ none hJs (World.grownBy_alloc wr (.cells (qaq l[k]).toArray 210) none) (fun r e=>by cases e)
   obtain⟨fn,tmps,assign,body,hy,hR⟩:=hY _ (qaW l hV)[k] _ hJa (by rw [List.length_take];omega)
   have HT:Hid ((qaW l hV).take k++[(qaW l hV)[k]]=(qaW l hV).take (k+1)):=hid (List.take_succ_eq_append_getElem hlt').symm
   try dsimp only at hy
   rw [qfg l hV k hlt'] at hy;have hBa:=qT hB hal;have hX:qaF (wr.alloc (.cells (qaq l[k]).toArray 210)) wr.heap.size (.string ⟨l[k].v.nm.toArray⟩) (.string ⟨l[k].v.tx.toArray⟩) (.bool l[k].v.ar) (.slice l[k].A l[k].v.ls.length l[k].c):=heap_alloc_new _ _
   have x0:=hX.a0;have x1:=hX.a1;have x2:=hX.a2;have x3:=hX.a3
   have hsa:=hal.size;simp only [qaq] at hy x0 x1 x2 x3 hR hBa hsa
   have HS:=hid (And.intro hBa hsa)
   clear hJa hX hal hY d0 d1 d2 d3 hBa hsa
   gi_wp2
   refine hR.mono ?_;rintro e W3 (⟨rfl,hJ3,hk3⟩|⟨rfl,hJx3⟩)
   ·rw [HT.out] at hJ3
    have HK:=hid (And.intro hk3 hJ3)
    clear hJ3 hk3 x0 x1 x2 x3
    gi_wp2
    go_roundw
    case rel=>exact⟨k+1,by omega,by simp,HK.out.2,HS.out.1.trans HK.out.1.below,by have:=HK.out.1.below.size;have:=HS.out.2;omega⟩
    case measure=>simp [intOf];omega
   ·clear x0 x1 x2 x3
    gi_wp2
    refine bodyPost_ret (results_none rfl _ _ _) rfl ?_
    exact⟨⟨_,rfl⟩,.inr ⟨_,trivial,hJx3⟩⟩
  ·obtain rfl:k=l.length:=by omega
   have HT:Hid ((qaW l hV).take l.length=qaW l hV):=hid (by rw [← HL.out,List.take_length])
   rw [HT.out] at hJs
   gi_wp2
   go_end0;exact⟨⟨_,rfl⟩,.inl ⟨_,rfl,hJs⟩⟩
end Go.Proofs.YtpodopnmkjinhaaGreatDoor.Cal
namespace Go.Proofs.YtpodopnmkjinhaaGreatDoor.Cal
open Go.Lib (hid)
open Go.RowKit
section
variable {F:Fence} {nF:Nat} {w:World} {ops:Array Oper} {rest:List Oper} {o:Oper} {a:Act} {Q:Exit→Act→World→Prop}
theorem qeS (hg:o.guard=none) (m x v:Operand) (t e:TypeId) (hop:o.op=Op.mapUpdate t m x v) (ht:prog.underlying t=some (.map 9 e)) (b n:Nat) (f:List UInt8→Option Value)
  (hm:a.eval m=.map (some b)) (hown:qc8 w b n f) (hn:n<maxLen) (s:List UInt8) (val:Value) (hx:a.eval x=.string ⟨s.toArray⟩) (hv:a.eval v=val) (hs:s.length≤maxLen)
  (hK:∀w',qc8 w' b (if(f s).isSome then n else n+1) (fun k=>if k=s then some val else f k)→w.grownBy w' (some b)→wpListIn F nF prog ops Q rest (a.put o.dst undef) w'):
  wpListIn F nF prog ops Q (o::rest) a w:=by
 refine wpListIn_plain hg fun K' hK'=>?_
 obtain⟨w',hrun,r1,r2⟩:=hown.store ht hn s hs val;unfold Oper.wpIn;refine⟨by simp [Oper.about,hop],?_⟩
 rw [Oper.semAt_plain F _ _ (by rw [hop];intro c hc';cases hc')];simp [execOp,hop,hm,hx,hv,hrun,Result.andThen]
 exact hK' _ _ (hK w' r1 r2)
theorem qce (hg:o.guard=none) (m x:Operand) (t e:TypeId) (c:Bool) (hop:o.op=Op.lookup t m x c) (ht:prog.underlying t=some (.map 9 e)) (z:Value) (hz:(zeroValue e).run prog w=.ok z w) (b n:Nat) (f:List UInt8→Option Value)
  (hm:a.eval m=.map (some b)) (hown:qc8 w b n f) (s:List UInt8) (hx:a.eval x=.string ⟨s.toArray⟩) (hs:s.length≤maxLen)
  (hK:wpListIn F nF prog ops Q rest (a.put o.dst (if c then .tuple #[(f s).getD z,.bool (f s).isSome] else(f s).getD z)) w):
  wpListIn F nF prog ops Q (o::rest) a w:=by
 refine wpListIn_plain hg fun K' hK'=>?_
 have hrun:=hown.look ht hz c s hs;unfold Oper.wpIn;refine⟨by simp [Oper.about,hop],?_⟩
 rw [Oper.semAt_plain F _ _ (by rw [hop];intro c hc';cases hc')];simp [execOp,hop,hm,hx,hrun,Result.andThen]
 exact hK' _ _ hK
theorem qgF (hg:o.guard=none) (l c:Operand) (t:TypeId) (hop:o.op=Op.makeSlice t l c)
  (e:TypeId) (z:Value) (bytes:Nat) (ht:prog.underlying t=some (.slice e)) (hinfo:(prog.info? e).map (fun i=>(i.zero,i.size,i.bytes))=some (some z,1,bytes)) (hz1:z.cells=#[z])
  (kl kc:IntKind) (n:Nat) (hl:a.eval l=.int kl (n:Int)) (hc:a.eval c=.int kc (n:Int)) (hbytes:bytes*n≤281474976710656) (h63:n≤9223372036854775807)
  (hK:wpListIn F nF prog ops Q rest (a.put o.dst (.slice (some ⟨w.heap.size,0,none⟩) n n)) (w.alloc (.cells (madeCells #[z] n) e))):
  wpListIn F nF prog ops Q (o::rest) a w:=by
 refine wpListIn_plain hg fun K hK'=>?_
 have hrun:=run_make_row' (P:=prog) t e z bytes ht hinfo hz1 kl kc n hbytes h63 w
 unfold Oper.wpIn;refine⟨by simp [Oper.about,hop],?_⟩
 rw [Oper.semAt_plain F _ _ (by rw [hop];intro c hc';cases hc')];simp [execOp,hop,hl,hc,hrun,Result.andThen]
 exact hK' _ _ hK
end
theorem qrS:(prog.info? 4).map (fun i=>(i.zero,i.size,i.bytes))=some (some (.bool false),1,1):=by kernel_rfl
theorem qkN (w:World):(zeroValue 3).run prog w=.ok (.int .i64 0) w:=by kernel_rfl
def qcv (W:World) (b:Nat) (ob:List Bool):Prop:=W.heap[b]?=some (.cells (ob.map Value.bool).toArray 4 (0,0))
theorem qp7 (n:Nat):madeCells #[.bool false] n=((List.replicate n false).map Value.bool).toArray:=by
 apply Array.ext
 ·simp [madeCells]
 ·intro i h1 h2
  simp [madeCells,Nat.mod_one]
theorem qcv.made (w:World) (n:Nat):qcv (w.alloc (.cells (madeCells #[.bool false] n) 4)) w.heap.size (List.replicate n false):=by
 unfold qcv;rw [← qp7];exact heap_alloc_new w _
theorem qcv.cell {W:World} {b:Nat} {ob:List Bool} (h:qcv W b ob) (k:Nat) (hk:k<ob.length):W.cell? ⟨b,k,none⟩=some (.bool ob[k]):=by
 simp [World.cell?,show W.heap[b]?=_ from h,hk]
theorem qcv.lt {W:World} {b:Nat} {ob:List Bool} (h:qcv W b ob):b<W.heap.size:=lt_of_block h
theorem qcv.free {W:World} {b:Nat} {ob:List Bool} (h:qcv W b ob) (k:Nat):W.frozen? ⟨b,k,none⟩=false:=by simp [World.frozen?,show W.heap[b]?=_ from h]
theorem qcv.set {W:World} {b:Nat} {ob:List Bool} (h:qcv W b ob) (k:Nat) (x:Bool):qcv (W.setCell ⟨b,k,none⟩ (.bool x)) b (ob.set k x):=by
 have:=heap_set (k:=k) h (.bool x)
 unfold qcv;rw [this];simp [List.map_set]
theorem qcv.block {W W':World} {b:Nat} {ob:List Bool} (h:qcv W b ob) (hb:W'.heap[b]?=W.heap[b]?):qcv W' b ob:=hb.trans h
theorem qcv.fine {W W':World} {n b:Nat} {ob:List Bool} (h:qcv W b ob) (hk:KpC n W W'):qcv W' b ob:=hk.fine _ _ h rfl
theorem qc8.fine {W W':World} {n b m:Nat} {f:List UInt8→Option Value} (h:qc8 W b m f) (hk:KpC n W W'):qc8 W' b m f:=by
 obtain⟨es,c,he⟩:=h.obj;exact h.block ((hk.fine _ _ he rfl).trans he.symm)
theorem qex (w:World) (cs:Array Value) (t:TypeId) (k:Nat) (v:Value):(w.alloc (.cells cs t)).setCell ⟨w.heap.size,k,none⟩ v=w.alloc (.cells (cs.setIfInBounds k v) t):=by
 have h:=heap_set (k:=k) (heap_alloc_new w (.cells cs t)) v
 have h2:=heap_alloc_new w (.cells (cs.setIfInBounds k v) t)
 have hh:((w.alloc (.cells cs t)).setCell ⟨w.heap.size,k,none⟩ v).heap=(w.alloc (.cells (cs.setIfInBounds k v) t)).heap:=by
  apply Array.ext
  ·rw [show((w.alloc (.cells cs t)).setCell ⟨w.heap.size,k,none⟩ v).heap.size=(w.alloc (.cells cs t)).heap.size by simp [World.setCell],World.size_alloc,World.size_alloc]
  ·intro i h1 h3
   have e:((w.alloc (.cells cs t)).setCell ⟨w.heap.size,k,none⟩ v).heap[i]?=(w.alloc (.cells (cs.setIfInBounds k v) t)).heap[i]?:=by
    by_cases hi:i=w.heap.size
    ·subst hi;rw [h,h2]
    ·rw [Below.heap_setCell _ _ _ _ hi]
     have hlt:i<w.heap.size:=by rw [World.size_alloc] at h3;omega
     rw [Below.heap_alloc _ _ _ hlt,Below.heap_alloc _ _ _ hlt]
   rw [Array.getElem?_eq_getElem h1,Array.getElem?_eq_getElem h3] at e;exact Option.some.inj e
 have hw:∀A B:World,A.heap=B.heap→A={ A with heap:=B.heap }:=fun A B e=>by rw [← e]
 rw [hw _ _ hh]
 rfl
theorem qi1 (w:World) (x y z k x' y' z' k':Value) (t:TypeId):((((w.alloc (.cells #[x,y,z,k] t)).setCell ⟨w.heap.size,0,none⟩ x').setCell ⟨w.heap.size,1,none⟩ y').setCell ⟨w.heap.size,2,none⟩ z').setCell ⟨w.heap.size,3,none⟩ k'=w.alloc (.cells #[x',y',z',k'] t):=by
 rw [qex,qex,qex,qex];rfl
abbrev nmI {w:World} (x:Itm w):List UInt8:=x.1.v.nm
def qdV {w:World} (fr:List (Itm w)) (k:Nat) (s:List UInt8):Option Value:=(placeOf nmI (fr.take k) s).map fun i:Nat=>.int .i64 (i:Int)
theorem qng {w:World} (fr:List (Itm w)):qdV fr 0=fun _=>none:=by
 funext s;simp [qdV,placeOf]
theorem qnf {w:World} (fr:List (Itm w)) (hn:(fr.map nmI).Nodup) (k:Nat) (hk:k<fr.length):(fun s=>if s=nmI fr[k] then some (Value.int .i64 (k:Int)) else qdV fr k s)=qdV fr (k+1):=by
 funext s
 have ht:fr.take (k+1)=fr.take k++[fr[k]]:=List.take_succ_eq_append_getElem hk
 unfold qdV placeOf;rw [ht,List.findIdx?_append];by_cases e:s=nmI fr[k]
 ·rw [if_pos e]
  have h0:(fr.take k).findIdx? (fun x=>nmI x==s)=none:=by
   rw [List.findIdx?_eq_none_iff];intro x hx
   obtain⟨j,hj,rfl⟩:=List.getElem_of_mem hx;have hj':j<k:=by simp at hj;omega
   have hjl:j<fr.length:=by omega
   have hp:=List.pairwise_iff_getElem.1 hn j k (by simpa using hjl) (by simpa using hk) hj'
   rw [List.getElem_map,List.getElem_map] at hp;rw [List.getElem_take,e]
   simpa using hp
  rw [h0];simp [List.findIdx?_cons,e,Nat.min_eq_left (Nat.le_of_lt hk)]
 ·rw [if_neg e]
  have h0:[fr[k]].findIdx? (fun x=>nmI x==s)=none:=by
   rw [List.findIdx?_eq_none_iff];intro x hx
   simp at hx;subst hx
   simpa using fun h=>e h.symm
  rw [h0];simp
theorem qqi {w:World} (fr:List (Itm w)) (s:List UInt8):qdV fr fr.length s=(placeOf nmI fr s).map fun i:Nat=>.int .i64 (i:Int):=by
 unfold qdV;rw [List.take_length]
theorem qlr (W:World) (b k:Nat) (v:Value):W.grownBy (W.setCell ⟨b,k,none⟩ v) (some b):=
 ⟨rfl,rfl,rfl,(KeepsWalks.setCell W _ v).size,fun j _ hj=>Below.heap_setCell _ _ _ _ (fun e=>hj (by rw [e]))⟩
abbrev UU (wr:World) (x y:VI) (b i:Nat):World:=
 (((((wr.alloc (.cells #[.string ⟨x.v.nm.toArray⟩,.string ⟨x.v.tx.toArray⟩,.bool x.v.ar,.slice x.A x.v.ls.length x.c] 210)).setCell ⟨wr.heap.size,0,none⟩ (.string ⟨y.v.nm.toArray⟩)).setCell ⟨wr.heap.size,1,none⟩ (.string ⟨y.v.tx.toArray⟩)).setCell ⟨wr.heap.size,2,none⟩ (.bool y.v.ar)).setCell ⟨wr.heap.size,3,none⟩ (.slice y.A y.v.ls.length y.c)).setCell ⟨b,i,none⟩ (.bool true)
theorem qyq (wr:World) (x y:VI) (b i:Nat):UU wr x y b i=(wr.alloc (.cells (qaq y).toArray 210)).setCell ⟨b,i,none⟩ (.bool true):=by
 unfold UU;rw [qi1];rfl
theorem qtZ {w wr:World} {n0 b i m:Nat} {ob:List Bool} {n:Nat} {f:List UInt8→Option Value} (x y:VI) (hO:qcv wr b ob) (hM:qc8 wr m n f) (hB:Below n0 w wr) (hbN:n0≤b):
  qcv (UU wr x y b i) b (ob.set i true)∧qc8 (UU wr x y b i) m n f∧Below n0 w (UU wr x y b i)∧qaF (UU wr x y b i) wr.heap.size (.string ⟨y.v.nm.toArray⟩) (.string ⟨y.v.tx.toArray⟩) (.bool y.v.ar) (.slice y.A y.v.ls.length y.c):=by
 rw [qyq];have hOa:=hO.block (Below.heap_alloc wr (.cells (qaq y).toArray 210) _ hO.lt)
 have hMa:=hM.block (Below.heap_alloc wr (.cells (qaq y).toArray 210) _ hM.lt)
 obtain⟨es,cl,he⟩:=hMa.obj;have hmb:m≠b:=fun e=>by subst e;rw [show(wr.alloc _).heap[m]?=_ from hOa] at he;cases he
 have hbl:=hO.lt;refine⟨hOa.set i true,hMa.block (Below.heap_setCell _ _ _ _ hmb),(hB.alloc (by omega) _).setCell (p:=⟨b,i,none⟩) hbN _,?_⟩
 have h4:qaF (wr.alloc (.cells (qaq y).toArray 210)) wr.heap.size (.string ⟨y.v.nm.toArray⟩) (.string ⟨y.v.tx.toArray⟩) (.bool y.v.ar) (.slice y.A y.v.ls.length y.c):=heap_alloc_new _ _
 exact(Below.heap_setCell _ _ _ _ (by show wr.heap.size≠b;omega)).trans h4
end Go.Proofs.YtpodopnmkjinhaaGreatDoor.Cal
namespace Go.Proofs.YtpodopnmkjinhaaGreatDoor.Cal
open Go.Lib (hid)
open Go.RowKit Go.Shelf
attribute [local go_sem] Oper.semAt_some
theorem qjW {w:World} {A:Option Addr} {l:List VI} (h:qbN w (fun _=>True) A l) (k:Nat) (hk:k<l.length):∃g o,A=some ⟨g,o,none⟩∧w.cell? ⟨g,o+k*4,none⟩=some (encS l[k].v.nm)∧w.cell? ⟨g,o+k*4+1,none⟩=some (encS l[k].v.tx)∧w.cell? ⟨g,o+k*4+2,none⟩=some (.bool l[k].v.ar)∧w.cell? ⟨g,o+k*4+3,none⟩=some (.slice l[k].A l[k].v.ls.length l[k].c):=by
 obtain⟨g,o,e,_,h0,h1,h2,h3⟩:=h.1 k hk;exact⟨g,o,e,h0,h1,h2,h3⟩
theorem qsf (Bf Bv:Nat) (Af Av:Option Addr) (cf cv:Nat) (lf lv:List VI) (w:World) (hBf:w.cell? ⟨Bf,0,none⟩=some (.slice Af lf.length cf)) (hBv:w.cell? ⟨Bv,0,none⟩=some (.slice Av lv.length cv))
  (hF:qbN w (fun _=>True) Af lf) (hV:qbN w (fun _=>True) Av lv) (hn:((qaW lf hF).map nmI).Nodup) (hsz:(lf.length+lv.length)*64≤140737488355328):
  qx9 Fence.wide 8 prog 277 #[.pointer (some ⟨Bf,0,none⟩),.pointer (some ⟨Bv,0,none⟩)] (fun x:Itm w=>qpr x.1) (KpC w.heap.size) (fun xs=>xs=qkl nmI (qaW lv hV) (qaW lf hF)) (lv.length+lf.length) w:=fun lp J W hW hJ hY h0=>by
 have hBfl:=World.block_lt_of_cell? w _ hBf
 have hBvl:=World.block_lt_of_cell? w _ hBv
 obtain⟨F,hFe,lenF,getF⟩:∃F,qaW lf hF=F∧F.length=lf.length∧∀k (_:k<F.length) (_:k<lf.length),F[k].1=lf[k]:=⟨_,rfl,qdH lf hF,fun k hk _=>qfg lf hF k hk⟩
 obtain⟨V,hVe,lenV,getV⟩:∃V,qaW lv hV=V∧V.length=lv.length∧∀k (_:k<V.length) (_:k<lv.length),V[k].1=lv[k]:=⟨_,rfl,qdH lv hV,fun k hk _=>qfg lv hV k hk⟩
 have hmix:=quZ nmI V F;rw [hFe] at hn;rw [hFe,hVe];have HLF:=hid lenF;have HLV:=hid lenV;have HMX:=hid hmix;clear hFe hVe lenF lenV hmix;refine callsIn_of_wp func277 rfl trivial ?_ rfl
 simp only [ntmps277,List.size_toArray,List.length_cons,List.length_nil,Nat.reduceAdd,Nat.reduceSub,Array.replicate_succ,Array.replicate_zero,List.push_toArray,List.append_toArray,List.nil_append,List.cons_append]
 have hal0:Below W.heap.size W (W.alloc (.map #[] 0)):=(Below.refl _ _).alloc (Nat.le_refl _) _
 have hB0:Below w.heap.size w (W.alloc (.map #[] 0)):=qT hW hal0
 have hJ0:J [] (W.alloc (.map #[] 0)):=hJ _ _ _ none h0 (World.grownBy_alloc W _ none) (fun r e=>by cases e)
 have hM0:qc8 (W.alloc (.map #[] 0)) W.heap.size 0 (qdV F 0):=by rw [qng];exact qc8.made W
 have hs0:W.heap.size≤(W.alloc (.map #[] 0)).heap.size:=hal0.size
 have cf0:=(hB0.cell (p:=⟨Bf,0,none⟩) hBfl).trans hBf
 have hmm:=@run_makeMap prog
 gi_wp2
 clear cf0
 gi_loopw [17] (fun i wr=>∃k n:Nat,k≤lf.length∧n≤k∧i=.int .i64 k∧J [] wr∧qc8 wr W.heap.size n (qdV F k)∧Below w.heap.size w wr∧W.heap.size≤wr.heap.size) (fun i _=>lf.length-(intOf i).toNat)
 case atStart=>exact⟨0,0,Nat.zero_le _,Nat.le_refl _,rfl,hJ0,hM0,hB0,hs0⟩
 case round=>
  obtain⟨k,n,hk,hnk,rfl,hJs,hMs,hB,hWs⟩:=hrel;clear hJ0 hM0 hB0 hs0 hal0;by_cases hlt:k<lf.length
  ·obtain⟨g,o,rfl,d0,d1,d2,d3⟩:=qjW hF k hlt
   have e0:=(hB.cell (p:=⟨g,o+k*4,none⟩) (World.block_lt_of_cell? w _ d0)).trans d0
   have e1:=(hB.cell (p:=⟨g,o+k*4+1,none⟩) (World.block_lt_of_cell? w _ d1)).trans d1
   have e2:=(hB.cell (p:=⟨g,o+k*4+2,none⟩) (World.block_lt_of_cell? w _ d2)).trans d2
   have e3:=(hB.cell (p:=⟨g,o+k*4+3,none⟩) (World.block_lt_of_cell? w _ d3)).trans d3
   have hlt':k<F.length:=by rw [HLF.out];exact hlt
   have hal:Below wr.heap.size wr (wr.alloc (.cells (qaq lf[k]).toArray 210)):=(Below.refl _ _).alloc (Nat.le_refl _) _
   have hJa:=hJ _ _ _ none hJs (World.grownBy_alloc wr (.cells (qaq lf[k]).toArray 210) none) (fun r e=>by cases e)
   have hMa:=hMs.block (Below.heap_alloc wr (.cells (qaq lf[k]).toArray 210) _ hMs.lt)
   have hnm:=(hF.2 _ (List.getElem_mem hlt)).2.nm
   have hX:qaF (wr.alloc (.cells (qaq lf[k]).toArray 210)) wr.heap.size (.string ⟨lf[k].v.nm.toArray⟩) (.string ⟨lf[k].v.tx.toArray⟩) (.bool lf[k].v.ar) (.slice lf[k].A lf[k].v.ls.length lf[k].c):=heap_alloc_new _ _
   have x0:=hX.a0;have HST:=qnf F hn k hlt';rw [show nmI F[k]=lf[k].v.nm by show F[k].1.v.nm=_;rw [getF k hlt' hlt]] at HST;have HST:=hid HST;have hBa:=qT hB hal;have hsa:W.heap.size≤(wr.alloc (.cells (qaq lf[k]).toArray 210)).heap.size:=Nat.le_trans hWs hal.size
   simp only [qaq] at x0 hMa hBa hJa hsa
   have HB:=hid (And.intro hBa (And.intro hJa hsa))
   clear hJa hX hal hBa hsa d0 d1 d2 d3 hJs hMs hB
   gi_wp2_with (gi_at_mapUpdate;refine qeS rfl _ _ _ _ _ rfl underlying293 W.heap.size n (qdV F k) rfl hMa (by unfold maxLen;omega) lf[k].v.nm (.int .i64 k) rfl rfl (by unfold maxLen;omega) ?_;intro w5 hM hg)
   rw [HST.out] at hM;have hM5:=hM.mono (show _≤n+1 by split<;>omega)
   obtain⟨es,cl,hes⟩:=hMa.obj;have hJ5:=hJ _ _ _ (some W.heap.size) HB.out.2.1 hg (fun r e=>by cases e;exact⟨Nat.le_refl _,_,hes,rfl⟩)
   have hB5:Below w.heap.size w w5:=HB.out.1.grown hg HB.out.1.size (fun j e=>by cases e;exact hW.size)
   have hs5:W.heap.size≤w5.heap.size:=Nat.le_trans HB.out.2.2 (by have:=hg.size;omega)
   have HF5:=hid (And.intro hM5 (And.intro hJ5 (And.intro hB5 hs5)))
   clear hM hM5 hJ5 hB5 hs5 hg hes hMa x0 e0 e1 e2 e3 hF hV hBf hBv
   gi_wp2
   go_roundw
   case rel=>exact⟨k+1,n+1,by omega,by omega,by go_num,HF5.out.2.1,HF5.out.1,HF5.out.2.2.1,HF5.out.2.2.2⟩
   case measure=>simp [intOf];omega
  ·obtain rfl:k=lf.length:=by omega
   have hMs:=hMs.mono hnk;have cf1:=(hB.cell (p:=⟨Bf,0,none⟩) hBfl).trans hBf
   have hal1:Below wr.heap.size wr (wr.alloc (.cells (madeCells #[.bool false] lf.length) 4)):=(Below.refl _ _).alloc (Nat.le_refl _) _
   have hO1:=qcv.made wr lf.length;have hJ1:=hJ _ _ _ none hJs (World.grownBy_alloc wr (.cells (madeCells #[.bool false] lf.length) 4) none) (fun r e=>by cases e)
   have hM1:=hMs.block (Below.heap_alloc wr (.cells (madeCells #[.bool false] lf.length) 4) _ hMs.lt)
   have hB1:=qT hB hal1;have hs1:W.heap.size≤(wr.alloc (.cells (madeCells #[.bool false] lf.length) 4)).heap.size:=Nat.le_trans hWs hal1.size
   have cv1:=(hB1.cell (p:=⟨Bv,0,none⟩) hBvl).trans hBv
   obtain⟨b,hb⟩:=qQ (wr.heap.size)
   have hbN:w.heap.size≤b:=by have:=hB.size;omega
   rw [hb] at hO1 hWs;have HPF:Hid (∀s,qdV F lf.length s=(placeOf nmI F s).map fun i:Nat=>.int .i64 (i:Int)):=hid fun s=>by rw [← HLF.out];exact qqi F s
   generalize qdV F lf.length=pf at *;obtain⟨W2,hW2⟩:=qQ (wr.alloc (.cells (madeCells #[.bool false] lf.length) 4))
   rw [hW2] at hal1 hO1 hJ1 hM1 hB1 hs1 cv1;have HW2:=hid hW2;have Hb:=hid hb;clear hJs hMs hB hal1 hmm hW2 hb
   gi_wp2_with (gi_at_make;refine qgF rfl _ _ _ rfl 4 (.bool false) 1 underlying294 qrS rfl .i64 .i64 lf.length rfl rfl (by omega) (by omega) ?_;rw [HW2.out,Hb.out])
   clear cf1 cv1
   gi_loopw [32] (fun i wr=>∃(k:Nat) (ob:List Bool) (pre:List (Itm w)),k≤lv.length∧ob.length=lf.length∧i=.int .i64 k∧Hid (pre++qdn nmI F ob (V.drop k)=qkl nmI V F)∧J pre wr∧qc8 wr W.heap.size lf.length pf∧qcv wr b ob∧Below w.heap.size w wr) (fun i _=>lv.length-(intOf i).toNat)
   case atStart=>exact⟨0,List.replicate lf.length false,[],Nat.zero_le _,by simp,rfl,hid (by rw [← HLF.out];rfl),hJ1,hM1,hO1,hB1⟩
   case round=>
    clear hJ1 hM1 hO1 hB1 hs1 HW2 Hb hMs;obtain⟨k,ob,pre,hk,hob,rfl,HPRE,hJs,hMs,hO,hB⟩:=hrel;have hbl:=hO.lt;by_cases hlt:k<lv.length
    ·obtain⟨g,o,rfl,d0,d1,d2,d3⟩:=qjW hV k hlt
     have e0:=(hB.cell (p:=⟨g,o+k*4,none⟩) (World.block_lt_of_cell? w _ d0)).trans d0
     have e1:=(hB.cell (p:=⟨g,o+k*4+1,none⟩) (World.block_lt_of_cell? w _ d1)).trans d1
     have e2:=(hB.cell (p:=⟨g,o+k*4+2,none⟩) (World.block_lt_of_cell? w _ d2)).trans d2
     have e3:=(hB.cell (p:=⟨g,o+k*4+3,none⟩) (World.block_lt_of_cell? w _ d3)).trans d3
     have hlt':k<V.length:=by rw [HLV.out];exact hlt
     have hVk:=getV k hlt' hlt;have hdrop:V.drop k=V[k]::V.drop (k+1):=List.drop_eq_getElem_cons hlt'
     have HPR:=HPRE.out;rw [hdrop] at HPR;have hnV:nmI V[k]=lv[k].v.nm:=by show V[k].1.v.nm=_;rw [hVk]
     have hal:Below wr.heap.size wr (wr.alloc (.cells (qaq lv[k]).toArray 210)):=(Below.refl _ _).alloc (Nat.le_refl _) _
     have hJa:=hJ _ _ _ none hJs (World.grownBy_alloc wr (.cells (qaq lv[k]).toArray 210) none) (fun r e=>by cases e)
     have hMa:=hMs.block (Below.heap_alloc wr (.cells (qaq lv[k]).toArray 210) _ hMs.lt)
     have hOa:=hO.block (Below.heap_alloc wr (.cells (qaq lv[k]).toArray 210) _ hO.lt)
     have hnm:=(hV.2 _ (List.getElem_mem hlt)).2.nm
     have hX:qaF (wr.alloc (.cells (qaq lv[k]).toArray 210)) wr.heap.size (.string ⟨lv[k].v.nm.toArray⟩) (.string ⟨lv[k].v.tx.toArray⟩) (.bool lv[k].v.ar) (.slice lv[k].A lv[k].v.ls.length lv[k].c):=heap_alloc_new _ _
     have x0:=hX.a0;have x1:=hX.a1;have x2:=hX.a2;have x3:=hX.a3
     have hBa:=qT hB hal;have hpl:∀(pre:List (Itm w)) (x:Itm w) (r:List (Itm w)),pre++x::r=qkl nmI V F→pre.length<lv.length+lf.length:=fun pre x r e=>by
      have h1:=HMX.out;rw [← e,HLV.out,HLF.out,List.length_append,List.length_cons] at h1;omega
     cases hp:placeOf nmI F (nmI V[k]) with
     |none=>
      have HL:pf lv[k].v.nm=none:=by rw [HPF.out,← hnV,hp];rfl
      have HPN:pre++V[k]::qdn nmI F ob (V.drop (k+1))=qkl nmI V F:=by rw [← HPR,qdn,hp]
      obtain⟨fn,tmps,assign,body,hy,hR⟩:=hY pre V[k] _ hJa (hpl _ _ _ HPN)
      try dsimp only at hy
      rw [hVk] at hy;simp only [qaq] at hy x0 x1 x2 x3 hR hBa hMa hOa
      have HPN:=hid HPN;have HS:=hid (And.intro hBa hOa)
      clear hJa hX hal d0 d1 d2 d3 hBa hp HPR HPRE hdrop hOa hnV hVk
      gi_wp2_with (gi_at_lookup;refine qce rfl _ _ _ _ true rfl underlying293 (.int .i64 0) (qkN _) W.heap.size lf.length pf rfl hMa lv[k].v.nm rfl (by unfold maxLen;omega) ?_;rw [HL];simp only [if_true,Option.getD_none,Option.isSome_none])
      refine hR.mono ?_;rintro e W3⟨rfl,hJ3,hk3⟩;have HK:=hid (And.intro hk3 (And.intro hJ3 (And.intro (hMa.fine hk3) (HS.out.2.fine hk3))))
      clear hJ3 hk3 x0 x1 x2 x3 hMa hMs hO hJs
      gi_wp2
      go_roundw
      case rel=>exact⟨k+1,ob,pre++[V[k]],by omega,hob,by go_num,hid (by rw [List.append_assoc];exact HPN.out),HK.out.2.1,HK.out.2.2.1,HK.out.2.2.2,HS.out.1.trans HK.out.1.below⟩
      case measure=>simp [intOf];omega
     |some i=>
      obtain⟨hi,hin⟩:=qgP hp;have hil:i<lf.length:=by rw [← HLF.out];exact hi
      have hio:i<ob.length:=by omega
      have HL:pf lv[k].v.nm=some (.int .i64 (i:Int)):=by rw [HPF.out,← hnV,hp];rfl
      have oc:=hOa.cell i hio;have hFi:=getF i hi hil;have cfa:=(hBa.cell (p:=⟨Bf,0,none⟩) hBfl).trans hBf
      cases hobi:ob[i] with
      |true=>
       have HPN:pre++qdn nmI F ob (V.drop (k+1))=qkl nmI V F:=by rw [← HPR,qdn,hp];simp [List.getD,hio,hobi]
       rw [hobi] at oc;simp only [qaq] at x0 hBa hMa hOa hJa oc cfa
       have HPN:=hid HPN;have HS:=hid (And.intro hBa (And.intro hOa (And.intro hJa hMa)))
       clear hJa hX hal d0 d1 d2 d3 hBa hp HPR HPRE hdrop hOa hnV hVk x1 x2 x3 hFi hin hobi hJs hMs hO cfa
       gi_wp2_with (gi_at_lookup;refine qce rfl _ _ _ _ true rfl underlying293 (.int .i64 0) (qkN _) W.heap.size lf.length pf rfl hMa lv[k].v.nm rfl (by unfold maxLen;omega) ?_;rw [HL];simp only [if_true,Option.getD_some,Option.isSome_some])
       clear hMa;go_roundw
       case rel=>exact⟨k+1,ob,pre,by omega,hob,by go_num,hid HPN.out,HS.out.2.2.1,HS.out.2.2.2,HS.out.2.1,HS.out.1⟩
       case measure=>simp [intOf];omega
      |false=>
       have HPN:pre++F[i]::qdn nmI F (ob.set i true) (V.drop (k+1))=qkl nmI V F:=by
        rw [← HPR,qdn,hp];simp [List.getD,hio,hobi,hi]
       rw [hobi] at oc;obtain⟨g2,o2,rfl,p0,p1,p2,p3⟩:=qjW hF i hil;have q0:=(hBa.cell (p:=⟨g2,o2+i*4,none⟩) (World.block_lt_of_cell? w _ p0)).trans p0
       have q1:=(hBa.cell (p:=⟨g2,o2+i*4+1,none⟩) (World.block_lt_of_cell? w _ p1)).trans p1
       have q2:=(hBa.cell (p:=⟨g2,o2+i*4+2,none⟩) (World.block_lt_of_cell? w _ p2)).trans p2
       have q3:=(hBa.cell (p:=⟨g2,o2+i*4+3,none⟩) (World.block_lt_of_cell? w _ p3)).trans p3
       have f0:=hX.free 0;have f1:=hX.free 1;have f2:=hX.free 2;have f3:=hX.free 3
       have fo:=hOa.free i;have hne:b≠wr.heap.size:=by omega
       have hne2:wr.heap.size≠b:=by omega
       have hJu:J pre (UU wr lv[k] lf[i] b i):=by
        rw [qyq];have hOy:=hO.block (Below.heap_alloc wr (.cells (qaq lf[i]).toArray 210) _ hO.lt)
        exact hJ _ _ _ (some b) (hJ _ _ _ none hJs (World.grownBy_alloc wr (.cells (qaq lf[i]).toArray 210) none) (fun r e=>by cases e)) (qlr _ _ _ _) (fun r e=>by cases e;exact⟨hWs,_,hOy,rfl⟩)
       obtain⟨u1,u2,u3,u4⟩:=qtZ (i:=i) lv[k] lf[i] hO hMs hB hbN
       have y0:=u4.a0;have y1:=u4.a1;have y2:=u4.a2;have y3:=u4.a3
       obtain⟨fn,tmps,assign,body,hy,hR⟩:=hY pre F[i] _ hJu (hpl _ _ _ HPN)
       rw [hFi] at hy
       try dsimp only [UU] at hy hR y0 y1 y2 y3
       have e4:=qi1 wr (.string ⟨lv[k].v.nm.toArray⟩) (.string ⟨lv[k].v.tx.toArray⟩) (.bool lv[k].v.ar) (.slice lv[k].A lv[k].v.ls.length lv[k].c) (.string ⟨lf[i].v.nm.toArray⟩) (.string ⟨lf[i].v.tx.toArray⟩) (.bool lf[i].v.ar) (.slice lf[i].A lf[i].v.ls.length lf[i].c) 210
       have hO4:qcv (wr.alloc (.cells #[.string ⟨lf[i].v.nm.toArray⟩,.string ⟨lf[i].v.tx.toArray⟩,.bool lf[i].v.ar,.slice lf[i].A lf[i].v.ls.length lf[i].c] 210)) b ob:=hO.block (Below.heap_alloc _ _ _ hO.lt)
       simp only [qaq] at x0 hMa oc cfa q0 q1 q2 q3 f0 f1 f2 f3
       have HS:=hid (And.intro u1 (And.intro u2 u3))
       dsimp only [UU] at HS
       rw [e4] at HS hy hR y0 y1 y2 y3;obtain⟨W4,hW4⟩:=qQ (wr.alloc (.cells #[.string ⟨lf[i].v.nm.toArray⟩,.string ⟨lf[i].v.tx.toArray⟩,.bool lf[i].v.ar,.slice lf[i].A lf[i].v.ls.length lf[i].c] 210))
       rw [hW4] at hO4 HS hy hR y0 y1 y2 y3;have HW4:=hid hW4;have oc4:=hO4.cell i hio;have fo4:=hO4.free i;obtain⟨W5,hW5⟩:=qQ (W4.setCell ⟨b,i,none⟩ (.bool true))
       rw [hW5] at HS hy hR y0 y1 y2 y3;have HW5:=hid hW5;have HPN:=hid HPN;clear hJa hX hal d0 d1 d2 d3 hBa hp HPR HPRE hdrop hOa hnV hVk x1 x2 x3 hin hobi hJs hMs hO p0 p1 p2 p3 u1 u2 u3 u4 hJu hFi e4 hO4 hW4 hW5;have c4:W4.cell? ⟨b,i,none⟩=some (.bool ob[i]):=oc4
       clear oc4
       gi_wp2_with (first
        |(gi_at_lookup;refine qce rfl _ _ _ _ true rfl underlying293 (.int .i64 0) (qkN _) W.heap.size lf.length pf rfl hMa lv[k].v.nm rfl (by unfold maxLen;omega) ?_;rw [HL];simp only [if_true,Option.getD_some,Option.isSome_some])
        |(rw [HW4.out])
        |(rw [HW5.out]))
       refine hR.mono ?_;rintro e W3⟨rfl,hJ3,hk3⟩;have HK:=hid (And.intro hk3 (And.intro hJ3 (And.intro (HS.out.2.1.fine hk3) (HS.out.1.fine hk3))))
       clear hJ3 hk3 x0 y0 y1 y2 y3 q0 q1 q2 q3 f0 f1 f2 f3 fo oc cfa hMa e0 e1 e2 e3 c4 fo4
       gi_wp2
       go_roundw
       case rel=>exact⟨k+1,ob.set i true,pre++[F[i]],by omega,by rw [List.length_set];exact hob,by go_num,hid (by rw [List.append_assoc];exact HPN.out),HK.out.2.1,HK.out.2.2.1,HK.out.2.2.2,HS.out.2.2.trans HK.out.1.below⟩
       case measure=>simp [intOf];omega
    ·obtain rfl:k=lv.length:=by omega
     have HPR:pre++((F.zip ob).filter fun p=>!p.2).map Prod.fst=qkl nmI V F:=by
      have h1:=HPRE.out;rw [List.drop_of_length_le (by rw [HLV.out];exact Nat.le_refl _),qdn] at h1;exact h1
     have HPR:=hid HPR;have cf2:=(hB.cell (p:=⟨Bf,0,none⟩) hBfl).trans hBf
     clear HPRE hMs HPF
     gi_wp2
     clear cf2
     gi_loopw [62] (fun i wr=>∃(k:Nat) (pre:List (Itm w)),k≤lf.length∧i=.int .i64 k∧Hid (pre++(((F.zip ob).drop k).filter fun p=>!p.2).map Prod.fst=qkl nmI V F)∧J pre wr∧qcv wr b ob∧Below w.heap.size w wr) (fun i _=>lf.length-(intOf i).toNat)
     case atStart=>exact⟨0,pre,Nat.zero_le _,rfl,HPR,hJs,hO,hB⟩
     case round=>
      clear hJs hO hB HPR hbl hlt;obtain⟨k,pre,hk,rfl,HPRE,hJs,hO,hB⟩:=hrel;by_cases hlt:k<lf.length
      ·obtain⟨g,o,rfl,d0,d1,d2,d3⟩:=qjW hF k hlt
       have e0:=(hB.cell (p:=⟨g,o+k*4,none⟩) (World.block_lt_of_cell? w _ d0)).trans d0
       have e1:=(hB.cell (p:=⟨g,o+k*4+1,none⟩) (World.block_lt_of_cell? w _ d1)).trans d1
       have e2:=(hB.cell (p:=⟨g,o+k*4+2,none⟩) (World.block_lt_of_cell? w _ d2)).trans d2
       have e3:=(hB.cell (p:=⟨g,o+k*4+3,none⟩) (World.block_lt_of_cell? w _ d3)).trans d3
       have hlt':k<F.length:=by rw [HLF.out];exact hlt
       have hlo:k<ob.length:=by omega
       have hFk:=getF k hlt' hlt;have hz:k<(F.zip ob).length:=by rw [List.length_zip];omega
       have hdrop:(F.zip ob).drop k=(F[k],ob[k])::(F.zip ob).drop (k+1):=by
        rw [List.drop_eq_getElem_cons hz,List.getElem_zip]
       have HPR:=HPRE.out;rw [hdrop,List.filter_cons] at HPR;have hal:Below wr.heap.size wr (wr.alloc (.cells (qaq lf[k]).toArray 210)):=(Below.refl _ _).alloc (Nat.le_refl _) _
       have hJa:=hJ _ _ _ none hJs (World.grownBy_alloc wr (.cells (qaq lf[k]).toArray 210) none) (fun r e=>by cases e)
       have hOa:=hO.block (Below.heap_alloc wr (.cells (qaq lf[k]).toArray 210) _ hO.lt)
       have hX:qaF (wr.alloc (.cells (qaq lf[k]).toArray 210)) wr.heap.size (.string ⟨lf[k].v.nm.toArray⟩) (.string ⟨lf[k].v.tx.toArray⟩) (.bool lf[k].v.ar) (.slice lf[k].A lf[k].v.ls.length lf[k].c):=heap_alloc_new _ _
       have x0:=hX.a0;have x1:=hX.a1;have x2:=hX.a2;have x3:=hX.a3
       have hBa:=qT hB hal;have oc:=hOa.cell k hlo;cases hobk:ob[k] with
       |true=>
        rw [hobk] at HPR oc;have HPN:Hid (pre++(((F.zip ob).drop (k+1)).filter fun p=>!p.2).map Prod.fst=qkl nmI V F):=hid HPR
        simp only [qaq] at oc hBa hOa hJa
        have HS:=hid (And.intro hBa (And.intro hOa hJa))
        clear hJa hX hal d0 d1 d2 d3 hBa HPR HPRE hdrop hOa x0 x1 x2 x3 hFk hobk hJs hO hz
        gi_wp2
        refine⟨fun f e=>by(cases e),?_⟩
        gi_wp2
        go_roundw
        case rel=>exact⟨k+1,pre,by omega,by go_num,HPN,HS.out.2.2,HS.out.2.1,HS.out.1⟩
        case measure=>simp [intOf];omega
       |false=>
        rw [hobk] at HPR oc;have HPN:pre++F[k]::(((F.zip ob).drop (k+1)).filter fun p=>!p.2).map Prod.fst=qkl nmI V F:=HPR
        have hpl:pre.length<lv.length+lf.length:=by
         have h1:=HMX.out;rw [← HPN,HLV.out,HLF.out,List.length_append,List.length_cons] at h1;omega
        obtain⟨fn,tmps,assign,body,hy,hR⟩:=hY pre F[k] _ hJa hpl
        try dsimp only at hy
        rw [hFk] at hy;simp only [qaq] at oc hBa hOa hJa hy hR x0 x1 x2 x3
        have HPN:=hid HPN;have HS:=hid (And.intro hBa hOa)
        clear hJa hX hal d0 d1 d2 d3 hBa HPR HPRE hdrop hOa hFk hobk hJs hO hz
        gi_wp2
        refine hR.mono ?_;rintro e W3⟨rfl,hJ3,hk3⟩;have HK:=hid (And.intro hk3 (And.intro hJ3 (HS.out.2.fine hk3)))
        clear hJ3 hk3 x0 x1 x2 x3 oc
        gi_wp2
        go_roundw
        case rel=>exact⟨k+1,pre++[F[k]],by omega,by go_num,hid (by rw [List.append_assoc];exact HPN.out),HK.out.2.1,HK.out.2.2,HS.out.1.trans HK.out.1.below⟩
        case measure=>simp [intOf];omega
      ·obtain rfl:k=lf.length:=by omega
       have HP:pre=qkl nmI V F:=by
        have h1:=HPRE.out;rw [List.drop_of_length_le (by rw [List.length_zip,HLF.out];omega)] at h1
        simpa using h1
       rw [HP] at hJs;clear HP HPRE
       gi_wp2
       go_end0;exact⟨⟨_,rfl⟩,_,rfl,hJs⟩
end Go.Proofs.YtpodopnmkjinhaaGreatDoor.Cal
namespace Go.Proofs.YtpodopnmkjinhaaGreatDoor.Cal
open Go.Lib (hid)
open Go.RowKit
theorem qj7:∀args w,(callFunc 268 args).run prog w=.ok (.enter 268 args) w:=enters_of func268 (by kernel_rfl) rfl
theorem qla:∀args w,(callFunc 277 args).run prog w=.ok (.enter 277 args) w:=enters_of func277 (by kernel_rfl) rfl
abbrev qy6 (w:World) (A:Option Addr) (n c:Nat):World:=w.alloc (.cells #[.slice A n c] 206)
theorem qj2 (A:Option Addr) (c:Nat) (l:List VI) (w:World) (hV:qbN w (fun _=>True) A l) (hsz:l.length*64≤140737488355328):
  Calls prog 238 #[.func (.func 268) #[] #[.pointer (some ⟨w.heap.size,0,none⟩)]] (qy6 w A l.length c) fun e w'=>∃A' c' ys,e=.returned (.slice A' ys.length c')∧qbN w' (fun g=>w.heap.size≤g) A' ys∧ys.map (·.v)=l.map (·.v)∧Below w.heap.size w w':=by
 have hal:Below w.heap.size w (qy6 w A l.length c):=(Below.refl _ _).alloc (Nat.le_refl _) _
 have hV1:=hV.below hal;have hb:(qy6 w A l.length c).cell? ⟨w.heap.size,0,none⟩=some (.slice A l.length c):=cell_of_one (heap_alloc_new w _)
 have hs:=qx9.of_stops (values_stops w.heap.size A c l _ hb hV1 hsz)
 refine(qi6 _ _ qj7 _ (qaW l hV1) l.length hsz hs).mono ?_
 rintro e w'⟨A',c',ys,h1,h2,h3,h4⟩;refine⟨A',c',ys,h1,h2.frame fun g _ hp=>⟨?_,rfl⟩,h3.trans (qfE l hV1),qT hal h4⟩
 have:=hal.size
 omega
abbrev qwD (w:World) (Av Af:Option Addr) (nv cv nf cf:Nat):World:=(w.alloc (.cells #[.slice Av nv cv] 206)).alloc (.cells #[.slice Af nf cf] 206)
theorem qk5 (Av Af:Option Addr) (cv cf:Nat) (lv lf:List VI) (w:World) (hV:qbN w (fun _=>True) Av lv) (hF:qbN w (fun _=>True) Af lf) (hn:(lf.map (·.v.nm)).Nodup) (hsz:(lf.length+lv.length)*64≤140737488355328):
  Calls prog 238 #[.func (.func 277) #[] #[.pointer (some ⟨w.heap.size+1,0,none⟩),.pointer (some ⟨w.heap.size,0,none⟩)]] (qwD w Av Af lv.length cv lf.length cf) fun e w'=>∃A' c' ys,e=.returned (.slice A' ys.length c')∧qbN w' (fun g=>w.heap.size≤g) A' ys∧ys.map (·.v)=qkl V.nm (lv.map (·.v)) (lf.map (·.v))∧Below w.heap.size w w':=by
 have hal:Below w.heap.size w (qwD w Av Af lv.length cv lf.length cf):=((Below.refl _ _).alloc (Nat.le_refl _) _).alloc (by simp) _
 have hV1:=hV.below hal;have hF1:=hF.below hal;have hbf:(qwD w Av Af lv.length cv lf.length cf).cell? ⟨w.heap.size+1,0,none⟩=some (.slice Af lf.length cf):=by
  have:=cell_of_one (heap_alloc_new (w.alloc (.cells #[.slice Av lv.length cv] 206)) (.cells #[.slice Af lf.length cf] 206))
  rw [World.size_alloc] at this;exact this
 have hbv:(qwD w Av Af lv.length cv lf.length cf).cell? ⟨w.heap.size,0,none⟩=some (.slice Av lv.length cv):=
  cell_of_one ((Below.heap_alloc _ _ _ (by simp)).trans (heap_alloc_new w (.cells #[.slice Av lv.length cv] 206)))
 have hn1:((qaW lf hF1).map nmI).Nodup:=by
  have:(qaW lf hF1).map nmI=lf.map (·.v.nm):=by
   have h:=congrArg (List.map V.nm) (qfE lf hF1)
   rw [List.map_map,List.map_map] at h;exact h
  rw [this];exact hn
 have hs:=qsf (w.heap.size+1) w.heap.size Af Av cf cv lf lv _ hbf hbv hF1 hV1 hn1 hsz
 refine(qi6 _ _ qla _ (qkl nmI (qaW lv hV1) (qaW lf hF1)) (lv.length+lf.length) (by omega) hs).mono ?_
 rintro e w'⟨A',c',ys,h1,h2,h3,h4⟩;refine⟨A',c',ys,h1,h2.frame fun g _ hp=>⟨?_,rfl⟩,h3.trans ?_,qT hal h4⟩
 ·have:=hal.size
  omega
 ·rw [← qfE lv hV1,← qfE lf hF1]
  exact qu0 (fun x:Itm (qwD w Av Af lv.length cv lf.length cf)=>x.1.v) V.nm _ _
theorem qse (Av Af:Option Addr) (nv cv nf cf:Nat) (w:World):
  Calls prog 243 #[.slice Av nv cv,.slice Af nf cf] w fun e w'=>e=.returned (.func (.func 277) #[] #[.pointer (some ⟨w.heap.size+1,0,none⟩),.pointer (some ⟨w.heap.size,0,none⟩)])∧w'=qwD w Av Af nv cv nf cf:=by
 go_enter func243,ntmps243;go_wp2_with fail;go_ret;exact⟨rfl,rfl⟩
theorem qf1 (op nm:List UInt8) (nn:Int) (A:Option Addr) (ln c:Nat) (w:World):
  Calls prog 291 #[.agg #[.string ⟨op.toArray⟩,.string ⟨nm.toArray⟩,.int .i64 nn,.slice A ln c]] w fun e w'=>e=.returned (.bool (op==[]&&!(nm==[])))∧Below w.heap.size w w':=by
 have hV:qdY (w.alloc (.cells #[.string ⟨op.toArray⟩,.string ⟨nm.toArray⟩,.int .i64 nn,.slice A ln c] 205)) w.heap.size (.string ⟨op.toArray⟩) (.string ⟨nm.toArray⟩) (.int .i64 nn) (.slice A ln c):=heap_alloc_new _ _
 have hb:Below w.heap.size w (w.alloc (.cells #[.string ⟨op.toArray⟩,.string ⟨nm.toArray⟩,.int .i64 nn,.slice A ln c] 205)):=(Below.refl _ _).alloc (Nat.le_refl _) _
 have v0:=hV.a0;have v1:=hV.a1
 by_cases h1:op=[]
 ·have g1:(op==[])=true:=by simpa using h1
  by_cases h2:nm=[]
  ·have g2:(nm==[])=true:=by simpa using h2
   rw [g1,g2];clear h1 h2;go_enter func291,ntmps291;go_wp2;go_ret;exact⟨rfl,hb⟩
  ·have g2:(nm==[])=false:=by simpa using h2
   rw [g1,g2];clear h1 h2;go_enter func291,ntmps291;go_wp2;go_ret;exact⟨rfl,hb⟩
 ·have g1:(op==[])=false:=by simpa using h1
  rw [g1];clear h1;go_enter func291,ntmps291;go_wp2;go_ret;exact⟨rfl,hb⟩
theorem qgg {b:Nat} {w w':World} {o:Obj} (h:w.heap[b]?=some o) (hk:Below w.heap.size w w'):w'.heap[b]?=some o:=(hk.block b (lt_of_block h)).trans h
theorem qbt {w:World} {b c:Nat} (h:c≠b) (v:Value):(w.setCell ⟨b,0,none⟩ v).heap[c]?=w.heap[c]?:=Below.heap_setCell _ _ _ _ h
structure CE (b:Nat) (A:Option Addr) (ln c:Nat) (n:Int) (v:Value) (e:Int) (w:World):Prop where
 b1:w.heap[b+1]?=some (.cells #[.slice A ln c] 206 (0,0))
 b2:w.heap[b+2]?=some (.cells #[.int .i64 n] 3 (0,0))
 b3:w.heap[b+3]?=some (.cells #[v] 206 (0,0))
 b4:w.heap[b+4]?=some (.cells #[.int .i64 e] 27 (0,0))
section
variable {b ln c N:Nat} {A:Option Addr} {n e:Int} {v:Value} {w w':World}
theorem CE.below (h:CE b A ln c n v e w) (hb:Below N w w') (hN:b+4<N):CE b A ln c n v e w':=
 ⟨(hb.block _ (by omega)).trans h.b1,(hb.block _ (by omega)).trans h.b2,(hb.block _ (by omega)).trans h.b3,(hb.block _ (by omega)).trans h.b4⟩
theorem CE.lt (h:CE b A ln c n v e w):b+4<w.heap.size:=lt_of_block h.b4
def qc7 (w:World) (b:Nat) (n:Int) (v:Value) (e:Int):World:=((w.setCell ⟨b+2,0,none⟩ (.int .i64 n)).setCell ⟨b+3,0,none⟩ v).setCell ⟨b+4,0,none⟩ (.int .i64 e)
theorem CE.stored (h:CE b A ln c n v e w) (n':Int) (v':Value) (e':Int):CE b A ln c n' v' e' (qc7 w b n' v' e'):=by
 refine⟨?_,?_,?_,?_⟩
 ·exact(qbt (by omega) _).trans ((qbt (by omega) _).trans ((qbt (by omega) _).trans h.b1))
 ·exact(qbt (by omega) _).trans ((qbt (by omega) _).trans (one_setCell h.b2))
 ·exact(qbt (by omega) _).trans (one_setCell ((qbt (by omega) _).trans h.b3))
 ·exact one_setCell ((qbt (by omega) _).trans ((qbt (by omega) _).trans h.b4))
theorem qfu {B:Nat} {a:World} (h:Below B a w) (hB:B≤b+2) (n':Int) (v':Value) (e':Int):Below B a (qc7 w b n' v' e'):=
 ((h.setCell (p:=⟨b+2,0,none⟩) hB _).setCell (p:=⟨b+3,0,none⟩) (by show B≤b+3;omega) _).setCell (p:=⟨b+4,0,none⟩) (by show B≤b+4;omega) _
theorem qep {k:Nat} (hk:b+4<k) (n':Int) (v':Value) (e':Int):(qc7 w b n' v' e').heap[k]?=w.heap[k]?:=
 (qbt (by omega) _).trans ((qbt (by omega) _).trans (qbt (by omega) _))
end
theorem qgp (v:Value) (w:World):(Instr.typeAssert (.iface 251 v) 20 251 false).run prog w=.ok v w:=by
 simp [Instr.typeAssert,run_underlying underlying251,go_sem,Result.andThen]
theorem qut (a b c d:Addr) (w:World):
  CallsD prog 240 #[.pointer (some a),.pointer (some b),.pointer (some c),.pointer (some d)] .returning w fun e u' w'=>e=.returned (.tuple #[])∧u'=.returning∧w'=w:=by
 refine callsD_of_wpS func240 rfl fun c₀ cs hu=>?_
 apply wpS_seq
 apply wpS_region
 simp [wpOpsS,go_sem,recoverD,hu,ntmps240,Exit.thenS]
 refine wpS_of_wp ?_
 go_wp2;cases c₀
 simp_all [bodyPostS,results,Tryz.results240]
theorem qrt (b:Nat) (A:Option Addr) (c:Nat) (l:List VI) (n0 e0:Int) (v0:Value) (er:Int) (older:List PanicEntry) (w:World) (h:CE b A l.length c n0 v0 e0 w) (hV:qbN w (fun _=>True) A l) (hsz:l.length*64≤140737488355328):
  CallsD prog 240 #[.pointer (some ⟨b+1,0,none⟩),.pointer (some ⟨b+2,0,none⟩),.pointer (some ⟨b+3,0,none⟩),.pointer (some ⟨b+4,0,none⟩)] (.panicking (qeb er::older)) w fun e' u' w'=>
   e'=.returned (.tuple #[])∧u'=.panicking ({ qeb er with recovered:=true }::older)∧∃A' c' ys,CE b A l.length c 0 (.slice A' ys.length c') er w'∧qbN w' (fun g=>w.heap.size≤g) A' ys∧ys.map (·.v)=l.map (·.v)∧Below (b+2) w w':=by
 have hta:=qgp;refine callsD_of_wpS func240 rfl fun c₀ cs hu=>?_
 apply wpS_seq
 apply wpS_region
 simp [wpOpsS,go_sem,recoverD,hu,ntmps240,Exit.thenS,qeb]
 refine wpS_of_wp ?_
 change Code.wp _ _ _ ⟨#[.pointer (some ⟨b+1,0,none⟩),.pointer (some ⟨b+2,0,none⟩),.pointer (some ⟨b+3,0,none⟩),.pointer (some ⟨b+4,0,none⟩),.iface 251 (.agg #[.int .i64 er]),undef,.iface 251 (.agg #[.int .i64 er]),undef,undef,undef,undef,undef,undef,undef,undef,undef],[]⟩ _
 have hal:Below w.heap.size w (w.alloc (.cells #[.int .i64 er] 251)):=(Below.refl _ _).alloc (Nat.le_refl _) _
 have hb4:=h.lt;have h2:=h.below hal hb4;have hN2:(w.alloc (.cells #[.int .i64 er] 251)).heap[w.heap.size]?=some (.cells #[.int .i64 er] 251 (0,0)):=heap_alloc_new w _
 have hV2:=hV.below hal;go_wp2;have hlt2:w.heap.size<(w.alloc (.cells #[.int .i64 er] 251)).heap.size:=lt_of_block hN2
 obtain⟨w2,hw2⟩:=qQ (w.alloc (.cells #[.int .i64 er] 251))
 rw [hw2] at hal h2 hN2 hV2 hlt2 ⊢;clear hw2 h hV hta;have cV:=qqB A l.length c w2.drew;have cC:=qj2 A c l w2.drew (hV2.below (Below.refl _ _).drew) hsz
 have ha:Below w2.heap.size w2 (qy6 w2.drew A l.length c):=(Below.refl _ _).drew.alloc (Nat.le_refl _) _
 have hSk:∀w',Below w2.heap.size w2 w'→w'.cell? ⟨b+1,0,none⟩=some (.slice A l.length c)∧w'.cell? ⟨w.heap.size,0,none⟩=some (.int .i64 er):=fun w' hb=>⟨cell_of_one ((hb.block _ (lt_of_block h2.b1)).trans h2.b1),cell_of_one ((hb.block _ hlt2).trans hN2)⟩
 refine wp_region_held_drew (S:=fun w'=>w'.cell? ⟨b+1,0,none⟩=some (.slice A l.length c)∧w'.cell? ⟨w.heap.size,0,none⟩=some (.int .i64 er)) (by kernel_rfl) (hSk _ (Below.refl _ _).drew) (fun hHeld=>?_)
 refine qai 0 11 (.slice A l.length c) rfl rfl (Or.inl ⟨by rfl,?_⟩) hHeld ?_
 ·intro w hSw;(try dsimp only at hSw);obtain⟨h1,h2⟩:=hSw;go_simp
 try simp only [Act.put,sIA,sC0,sCS]
 refine qai 3 14 (.pointer (some ⟨w.heap.size,0,none⟩)) rfl rfl (Or.inl ⟨by rfl,?_⟩) hHeld ?_
 ·intro w hSw;(try dsimp only at hSw);obtain⟨h1,h2⟩:=hSw;go_simp
 try simp only [Act.put,sIA,sC0,sCS]
 refine qai 4 15 (.int .i64 er) rfl rfl (Or.inl ⟨by rfl,?_⟩) hHeld ?_
 ·intro w hSw;(try dsimp only at hSw);obtain⟨h1,h2⟩:=hSw;go_simp
 try simp only [Act.put,sIA,sC0,sCS]
 refine qae 1 rfl fun K hK=>?_
 go_simp;go_at_call 239
 refine cV.mono ?_;rintro e w3⟨rfl,rfl⟩;go_wp2_with fail;refine hK.out _ _ (hSk _ ha) (fun hHeld=>?_)
 clear hK K
 try simp only [Act.put,sIA,sC0,sCS]
 refine qae 2 rfl fun K hK=>?_
 go_simp;go_at_call 238
 refine cC.mono ?_;rintro e w4⟨A',c',ys,rfl,hV4,hys,hb4'⟩;have hbb:Below w2.heap.size w2 w4:=(Below.refl _ w2).drew.trans hb4'
 have h4:=h2.below hbb (by have:=hal.size;omega)
 have hS4:=hSk _ hbb;have a2:=cell_of_one h4.b2;have a3:=cell_of_one h4.b3;have a4:=cell_of_one h4.b4
 have f2:=free_of_one h4.b2;have f3:=free_of_one h4.b3;have f4:=free_of_one h4.b4
 have hS5:(w4.setCell ⟨b+2,0,none⟩ (.int .i64 0)).cell? ⟨b+1,0,none⟩=some (.slice A l.length c)∧(w4.setCell ⟨b+2,0,none⟩ (.int .i64 0)).cell? ⟨w.heap.size,0,none⟩=some (.int .i64 er):=⟨cell_of_one ((qbt (by omega) _).trans h4.b1),cell_of_one ((qbt (by omega) _).trans ((hbb.block _ hlt2).trans hN2))⟩
 have hS6:((w4.setCell ⟨b+2,0,none⟩ (.int .i64 0)).setCell ⟨b+3,0,none⟩ (.slice A' ys.length c')).cell? ⟨b+1,0,none⟩=some (.slice A l.length c)∧((w4.setCell ⟨b+2,0,none⟩ (.int .i64 0)).setCell ⟨b+3,0,none⟩ (.slice A' ys.length c')).cell? ⟨w.heap.size,0,none⟩=some (.int .i64 er):=⟨cell_of_one ((qbt (by omega) _).trans ((qbt (by omega) _).trans h4.b1)),cell_of_one ((qbt (by omega) _).trans ((qbt (by omega) _).trans ((hbb.block _ hlt2).trans hN2)))⟩
 have hS7:(qc7 w4 b 0 (.slice A' ys.length c') er).cell? ⟨b+1,0,none⟩=some (.slice A l.length c)∧(qc7 w4 b 0 (.slice A' ys.length c') er).cell? ⟨w.heap.size,0,none⟩=some (.int .i64 er):=⟨cell_of_one (h4.stored 0 (.slice A' ys.length c') er).b1,cell_of_one ((qep (by omega) _ _ _).trans ((hbb.block _ hlt2).trans hN2))⟩
 have HF:=hid (And.intro (h4.stored 0 (.slice A' ys.length c') er) (And.intro (hV4.frame (Q:=fun g=>w.heap.size≤g) (w':=qc7 w4 b 0 (.slice A' ys.length c') er) (fun g _ hg=>⟨by have:w2.heap.size≤g:=hg;omega,qep (by have:w2.heap.size≤g:=hg;omega) _ _ _⟩)) (And.intro hys (qfu (show Below (b+2) w w4 from(hal.mono (by omega)).trans (hbb.mono (by omega))) (Nat.le_refl _) 0 (.slice A' ys.length c') er))))
 clear hV4 hys hb4' hbb h4 hSk cC cV ha hV2 h2 hal hN2;go_wp2_with fail;refine hK.out _ _ hS4 (fun hHeld=>?_)
 clear hK K
 try simp only [Act.put,sIA,sC0,sCS]
 refine qae 5 rfl fun K hK=>?_
 go_simp;refine hK.out _ _ hS5 (fun hHeld=>?_)
 clear hK K
 try simp only [Act.put,sIA,sC0,sCS]
 refine qae 6 rfl fun K hK=>?_
 go_simp;refine hK.out _ _ hS6 (fun hHeld=>?_)
 clear hK K
 try simp only [Act.put,sIA,sC0,sCS]
 refine qae 7 rfl fun K hK=>?_
 go_simp;refine hK.out _ _ hS7 (fun hHeld=>?_)
 clear hK K
 try simp only [Act.put,sIA,sC0,sCS]
 refine wpAnyH_done (by kernel_rfl) ?_ _
 unfold qc7 at HF;generalize ((w4.setCell ⟨b+2,0,none⟩ (.int .i64 0)).setCell ⟨b+3,0,none⟩ (.slice A' ys.length c')).setCell ⟨b+4,0,none⟩ (.int .i64 er)=w9 at *
 change bodyPostS _ _ _ _ _ _ _ _ _
 cases c₀
 simp [bodyPostS,results,Tryz.results240]
 exact⟨A',c',ys,HF.out.1,HF.out.2.1,HF.out.2.2.1,HF.out.2.2.2⟩
def addN (l:List (List UInt8)) (nm:List UInt8):List (List UInt8):=if nm=[]∨nm∈l then l else l++[nm]
def qba:G→List (List UInt8)→List (List UInt8)
 |.node _ nm _ kids,l=>kids.attach.foldl (fun l k=>qba k.1 l) (addN l nm)
termination_by t=>SizeOf.sizeOf t
decreasing_by
 have:=List.sizeOf_lt_of_mem k.2
 simp
 omega
theorem qeO (t:G) (l:List (List UInt8)):qba t l=(qan t).foldl (fun l k=>qba k l) (addN l (gNm t)):=by
 cases t with
 |node op nm n kids=>
  rw [qba];show kids.attach.foldl (fun l k=>qba k.1 l) (addN l nm)=kids.foldl (fun l k=>qba k l) (addN l nm)
  rw [List.foldl_attach (f:=fun l k=>qba k l)]
def qbB:G→Nat
 |.node _ _ _ kids=>(kids.attach.map fun k=>qbB k.1).sum+1
termination_by t=>SizeOf.sizeOf t
decreasing_by
 have:=List.sizeOf_lt_of_mem k.2
 simp
 omega
theorem qfM (t:G):qbB t=((qan t).map qbB).sum+1:=by
 cases t with
 |node op nm n kids=>
  rw [qbB];simp [qan]
theorem qnO (l:List (List UInt8)) (nm:List UInt8):(addN l nm).length≤l.length+1:=by
 unfold addN;split
 ·omega
 ·simp
theorem qlj:∀(ks:List G),(∀k∈ks,∀l,(qba k l).length≤l.length+qbB k)→∀l,(ks.foldl (fun l k=>qba k l) l).length≤l.length+(ks.map qbB).sum
 |[],_,l=>by simp
 |k::ks,h,l=>by
  rw [List.foldl_cons,List.map_cons,List.sum_cons];have h1:=h k (by simp) l
  have h2:=qlj ks (fun k hk=>h k (by simp [hk])) (qba k l)
  omega
theorem qiI:∀(n:Nat) (t:G),SizeOf.sizeOf t=n→∀l,(qba t l).length≤l.length+qbB t:=by
 intro n
 induction n using Nat.strongRecOn with
 |_ n ih=>
  intro t hn l
  rw [qeO,qfM];have h1:=qnO l (gNm t)
  have h2:=qlj (qan t) (fun k hk l=>by
   obtain⟨i,hi,rfl⟩:=List.getElem_of_mem hk;exact ih _ (by rw [← hn];exact qhd t i hi) _ rfl l) (addN l (gNm t))
  omega
def qwV:Obj→Bool
 |.cells _ t _=>t !=9&&t !=22
 |_=>false
structure KeptN (N:Nat) (w w':World):Prop where
 below:Below N w w'
 fine:∀(k:Nat) (o:Obj),w.heap[k]?=some o→qwV o=true→w'.heap[k]?=some o
theorem KeptN.trans {N:Nat} {a b c:World} (h:KeptN N a b) (k:KeptN N b c):KeptN N a c:=⟨h.below.trans k.below,fun i o hi hf=>k.fine i o (h.fine i o hi hf) hf⟩
theorem KeptN.of_below {N:Nat} {w w':World} (h:Below w.heap.size w w') (hN:N≤w.heap.size):KeptN N w w':=⟨h.mono hN,fun k _ hk _=>(h.block k (lt_of_block hk)).trans hk⟩
theorem KeptN.size {N:Nat} {w w':World} (h:KeptN N w w'):w.heap.size≤w'.heap.size:=h.below.size
theorem KeptN.grown {N:Nat} {a w w':World} (h:KeptN N a w) (hN:N≤w.heap.size) {row:Option Nat} (hg:w.grownBy w' row) (hr:∀k,row=some k→N≤k∧∀o,w.heap[k]?=some o→qwV o=false):KeptN N a w':=
 h.trans ⟨(Below.refl N w).grown hg hN fun k e=>(hr k e).1,fun k o hk hf=>(hg.block k (lt_of_block hk) fun e=>by have:=(hr k e.symm).2 o hk;rw [this] at hf;cases hf).trans hk⟩
theorem KeptN.setCell {N B:Nat} {a w:World} (h:KeptN N a w) (hB:N≤B) {o:Obj} (hb:w.heap[B]?=some o) (hf:qwV o=false) (k:Nat) (v:Value):KeptN N a (w.setCell ⟨B,k,none⟩ v):=
 h.trans ⟨(Below.refl N w).setCell hB _,fun i o' hi hf'=>(Below.heap_setCell _ _ _ _ (by intro e;have e:i=B:=e;subst e;rw [hb] at hi;cases hi;rw [hf] at hf';cases hf')).trans hi⟩
def qcu (w:World) (N bm bl m:Nat) (l:List (List UInt8)):Prop:=
 N≤m∧N≤bm∧N≤bl∧w.heap[bm]?=some (.cells #[.map (some m)] 303 (0,0))∧qc8 w m l.length (fun k=>if k∈l then some (.agg #[]) else none)∧
 ∃v,w.heap[bl]?=some (.cells #[v] 22 (0,0))∧w.ownsRow N 9 1 v l.length (l.map fun k=>.string ⟨k.toArray⟩)
theorem qcu.below {w w':World} {N bm bl m:Nat} {l:List (List UInt8)} (h:qcu w N bm bl m l) (hb:Below w.heap.size w w'):qcu w' N bm bl m l:=by
 obtain⟨h1,h2,h3,h4,h5,v,h6,h7⟩:=h;exact⟨h1,h2,h3,qac h4 hb,h5.block (hb.block _ h5.lt),v,qac h6 hb,own_below h7 hb⟩
theorem qiM (w:World):(zeroValue 305).run prog w=.ok (.agg #[]) w:=by kernel_rfl
theorem qm3 (t:G) (N bm bl m:Nat) (l:List (List UInt8)) (A:Option Addr) (c:Nat) (w:World) (h:qcu w N bm bl m l) (hn:(gNm t).length≤281474976710656) (hl:(l.length+1)*16≤140737488355328):
  Calls prog 294 (#[.agg #[g0 t,g1 t,g2 t,.slice A (qaD t) c]]++#[.pointer (some ⟨bm,0,none⟩),.pointer (some ⟨bl,0,none⟩)]) w fun e w'=>e=.returned (.tuple #[])∧KeptN N w w'∧qcu w' N bm bl m (addN l (gNm t)):=by
 have hal:Below w.heap.size w (w.alloc (.cells #[g0 t,g1 t,g2 t,.slice A (qaD t) c] 205)):=(Below.refl _ _).alloc (Nat.le_refl _) _
 have hX:qdY (w.alloc (.cells #[g0 t,g1 t,g2 t,.slice A (qaD t) c] 205)) w.heap.size (g0 t) (g1 t) (g2 t) (.slice A (qaD t) c):=heap_alloc_new _ _
 have hN:=h.below hal;have hNs:N≤w.heap.size:=by have:=lt_of_block h.2.2.2.1;have:=h.2.1;omega
 have hK:=KeptN.of_below hal hNs;obtain⟨q1,q2,q3,q4,q5,v,q6,q7⟩:=hN;have x1:=hX.a1;obtain⟨nm,hnm⟩:=qQ (gNm t)
 have hg1:g1 t=.string ⟨nm.toArray⟩:=by simp only [g1,hnm]
 rw [hnm] at hn ⊢;rw [hg1] at x1 hX hK hal q4 q5 q6 q7;rw [hg1];have m0:=cell_of_one q4;have l0:=cell_of_one q6;have l1:=free_of_one q6;have hnl:nm.length≤maxLen:=by unfold maxLen;omega
 have hnc:nm.length≤281474976710656:=by omega
 clear hn hnm hg1 h;by_cases hin:nm∈l
 ·have HA:Hid (addN l nm=l):=hid (if_pos (.inr hin))
  have HQ:=hid (show qcu _ N bm bl m l from⟨q1,q2,q3,q4,q5,v,q6,q7⟩)
  have hf:(if nm∈l then some (Value.agg #[]) else none)=some (.agg #[]):=if_pos hin
  clear q1 q2 q3 q4 q6 q7 hl hin hal hX;go_enter func294,ntmps294;generalize hw0:w.alloc (.cells #[g0 t,.string ⟨nm.toArray⟩,g2 t,.slice A (qaD t) c] 205)=w0 at *;go_wp2_with (at_lookup;refine qbq rfl _ _ _ _ true rfl underlying303 (.agg #[]) (qiM _) m l.length _ rfl q5 nm rfl hnl ?_;rw [hf];simp only [Option.getD_some,Option.isSome_some,if_true])
  refine bodyPost_ret (results_none rfl _ _ _) rfl ?_
  have hb1:Below w0.heap.size w0 (w0.alloc (.cells #[] 305)):=(Below.refl _ _).alloc (Nat.le_refl _) _
  exact⟨rfl,hK.trans (.of_below hb1 (by have:=hK.size;omega)),by rw [HA.out];exact HQ.out.below hb1⟩
 ·have hx1:((w.alloc (.cells #[g0 t,.string ⟨nm.toArray⟩,g2 t,.slice A (qaD t) c] 205)).alloc (.cells #[] 305)).cell? ⟨w.heap.size,1,none⟩=_:=cell_below ((Below.refl _ _).alloc (Nat.le_refl _) _) x1
  have hm1:((w.alloc (.cells #[g0 t,.string ⟨nm.toArray⟩,g2 t,.slice A (qaD t) c] 205)).alloc (.cells #[] 305)).cell? ⟨bm,0,none⟩=_:=cell_below ((Below.refl _ _).alloc (Nat.le_refl _) _) m0
  by_cases h0:nm=[]
  ·subst h0
   have HA:Hid (addN l []=l):=hid (if_pos (.inl rfl))
   have HQ:=hid (show qcu _ N bm bl m l from⟨q1,q2,q3,q4,q5,v,q6,q7⟩)
   have hf:(if []∈l then some (Value.agg #[]) else none)=none:=if_neg hin
   clear q1 q2 q3 q4 q6 q7 hl hin hal hX;go_enter func294,ntmps294;generalize hw0:w.alloc (.cells #[g0 t,.string ⟨([]:List UInt8).toArray⟩,g2 t,.slice A (qaD t) c] 205)=w0 at *;go_wp2_with (at_lookup;refine qbq rfl _ _ _ _ true rfl underlying303 (.agg #[]) (qiM _) m l.length _ rfl q5 [] rfl hnl ?_;rw [hf];simp only [Option.getD_none,Option.isSome_none,if_true])
   refine bodyPost_ret (results_none rfl _ _ _) rfl ?_
   have hb1:Below w0.heap.size w0 (w0.alloc (.cells #[] 305)):=(Below.refl _ _).alloc (Nat.le_refl _) _
   exact⟨rfl,hK.trans (.of_below hb1 (by have:=hK.size;omega)),by rw [HA.out];exact HQ.out.below hb1⟩
  ·have HA:Hid (addN l nm=l++[nm]):=hid (if_neg (by simp [h0,hin]))
   have hf:(if nm∈l then some (Value.agg #[]) else none)=none:=if_neg hin
   have e0:nm.isEmpty=false:=by cases nm with|nil=>exact absurd rfl h0|cons=>rfl
   have e1:(nm==[])=false:=by simpa using h0
   have cC:=fun W=>qaU nm hnc W
   obtain⟨i0,hi,hz0,hz1,hz2⟩:=info_parts qhc;have hlm:l.length<maxLen:=by unfold maxLen;omega
   have hNE:(fun k=>if k∈l++[nm] then some (Value.agg #[]) else none)=fun k=>if k=nm then some (Value.agg #[]) else if k∈l then some (Value.agg #[]) else none:=by
    funext k
    by_cases e:k=nm
    ·rw [if_pos e,if_pos (by simp [e])]
    ·rw [if_neg e]
     by_cases e2:k∈l
     ·rw [if_pos e2,if_pos (by simp [e2])]
     ·rw [if_neg e2,if_neg (by simp [e,e2])]
   have HNE:=hid hNE;have hbu:Below (w.alloc (.cells #[g0 t,.string ⟨nm.toArray⟩,g2 t,.slice A (qaD t) c] 205)).heap.size (w.alloc (.cells #[g0 t,.string ⟨nm.toArray⟩,g2 t,.slice A (qaD t) c] 205)) ((w.alloc (.cells #[g0 t,.string ⟨nm.toArray⟩,g2 t,.slice A (qaD t) c] 205)).alloc (.cells #[] 305)):=(Below.refl _ _).alloc (Nat.le_refl _) _
   have hXa:=hX.below hbu;have q4a:=qac q4 hbu;have q6a:=qac q6 hbu;have q7a:=own_below q7 hbu;have hKa:=hK.trans (.of_below hbu (by have:=hK.size;omega))
   obtain⟨es0,cl0,hm0⟩:=q5.obj;have hm0a:=qac hm0 hbu;have hsa:w.heap.size+2=((w.alloc (.cells #[g0 t,.string ⟨nm.toArray⟩,g2 t,.slice A (qaD t) c] 205)).alloc (.cells #[] 305)).heap.size:=by simp
   have hmlt:m<w.heap.size:=by
    have h1:=lt_of_block hm0;simp at h1
    rcases Nat.lt_or_ge m w.heap.size with h|h
    ·exact h
    ·have:m=w.heap.size:=by omega
     subst this;have hh:(w.alloc (.cells #[g0 t,.string ⟨nm.toArray⟩,g2 t,.slice A (qaD t) c] 205)).heap[w.heap.size]?=_:=hX
     rw [hm0] at hh;cases hh
   clear hNE h0 hal q4 q6 q7 hK hX hm0 hbu;go_enter func294,ntmps294;generalize hw0:w.alloc (.cells #[g0 t,.string ⟨nm.toArray⟩,g2 t,.slice A (qaD t) c] 205)=w0 at *;go_wp2_with (first|(at_lookup;refine qbq rfl _ _ _ _ true rfl underlying303 (.agg #[]) (qiM _) m l.length _ rfl q5 nm rfl hnl ?_;rw [hf];simp only [Option.getD_none,Option.isSome_none,if_true])|(at_mapUpdate;refine qdg rfl _ _ _ _ _ rfl underlying303 m l.length _ rfl (q5.block (Below.heap_alloc _ _ _ q5.lt)) hlm nm (.agg #[]) rfl rfl hnl ?_;intro w2 hM hg))
   have hX2:qdY w2 w.heap.size (g0 t) (.string ⟨nm.toArray⟩) (g2 t) (.slice A (qaD t) c):=(hg.block _ (lt_of_block hXa) (by intro e;cases e;omega)).trans hXa
   have hmb:∀(b:Nat) (cs:Array Value) (ty:TypeId),(w0.alloc (.cells #[] 305)).heap[b]?=some (.cells cs ty (0,0))→w2.heap[b]?=some (.cells cs ty (0,0)):=fun b cs ty hb=>(hg.block b (lt_of_block hb) (by intro e;cases e;rw [hm0a] at hb;cases hb)).trans hb
   have q42:=hmb _ _ _ q4a;have q62:=hmb _ _ _ q6a;have q72:w2.ownsRow N 9 1 v l.length (l.map fun k=>.string ⟨k.toArray⟩):=qeI q7a fun g hgv=>by
    rcases q7a.2 with ⟨rfl,_⟩|⟨g',cap,cur,rfl,_,hb,_⟩
    ·simp [Value.ownBlock] at hgv
    ·obtain rfl:g'=g:=by simpa [Value.ownBlock] using hgv
     exact(hmb _ _ _ hb).trans hb.symm
   have hK2:KeptN N w w2:=hKa.grown (by omega) hg (fun k e=>by cases e;exact⟨q1,fun o ho=>by rw [hm0a] at ho;cases ho;rfl⟩)
   have hs2:w.heap.size<w2.heap.size:=hX2.lt
   have hne:v.ownBlock≠some bl:=fun he=>by
    rcases q72.2 with ⟨rfl,_⟩|⟨g,cap,cur,rfl,_,hh,_⟩
    ·simp [Value.ownBlock] at he
    ·obtain rfl:g=bl:=by simpa [Value.ownBlock] using he
     rw [q62] at hh;cases hh
   have hM2:qc8 w2 m (l.length+1) (fun k=>if k∈l++[nm] then some (.agg #[]) else none):=by
    rw [HNE.out];rw [hf] at hM;exact hM
   have HM2:=hid hM2;have HQ:=hid (And.intro q1 (And.intro q2 (And.intro q3 (And.intro hK2 q42))))
   have c0:=cell_of_one q62;have y1:=hX2.a1;have hlt:=lt_of_block q62;have hbm:bl≠m:=by intro e;subst e;rw [hm0a] at q6a;cases q6a
   clear q4a q6a q7a hKa hm0a hXa hM hmb hK2 hM2 hg hnl hlm q5 hx1 hm1 x1 m0 l0 l1 hw0 HNE q42;obtain⟨xs,hxs⟩:=qQ ((l.map fun k=>Value.string ⟨k.toArray⟩))
   have HXS:=hid hxs;rw [hxs] at q72;clear hxs;obtain⟨k,hk⟩:=qQ (l.length)
   have HKL:=hid hk;rw [hk] at q72 hl HM2;clear hk hf;go_region_law (first
    |(go_simp;go_at_call 26;refine(cC _).mono ?_;rintro e w1 ⟨rfl,hb1⟩;have hown1:=own_below (w:=w2.drew) q72 hb1;have hbk1:=(hb1.block bl hlt).trans q62;have hlt1:=lt_of_block hbk1;have c1:=cell_of_one hbk1)
    |(refine step_append_lies _ (by rfl) _ _ _ (by rfl) N 9 i0 (.string .empty) 1 16 underlying22 hi hz0 hz1 hz2 rfl (by omega) v k xs (by rfl) ((hown1.alloc _)) ⟨w1.heap.size,0,none⟩ 1 1 [.string ⟨nm.toArray⟩] (by rfl) (by rfl) (World.news_of_block (cs:=#[.string ⟨nm.toArray⟩]) (t:=9) (fr:=(0,0)) (heap_alloc_new w1 _)) (by simp [Value.oneCell']) (by omega) (by unfold maxLen;omega) (by omega) (by have:=hb1.size;simp at this;simp;omega) (w1.heap.size+1) (by simp) ?_;intro gg cap w3 hown3 hg hat hlt3;have hbk3:=(hg.block bl (by simp;omega) (fun e=>hne e.symm)).trans ((Below.heap_alloc w1 _ bl hlt1).trans hbk1);have c3:=cell_of_one hbk3;have f3:=free_of_one hbk3))
   all_goals
    have hb1':Below w2.heap.size w2 w1:=(Below.refl _ w2).drew.trans hb1
    have hK1:KeptN N w w1:=HQ.out.2.2.2.1.trans (.of_below hb1' (by omega))
    have hal1:Below w1.heap.size w1 (w1.alloc (.cells #[.string ⟨nm.toArray⟩] 9)):=(Below.refl _ _).alloc (Nat.le_refl _) _
    have hK3:KeptN N w w3:=(hK1.trans (.of_below hal1 (by have:=hK1.size;omega))).grown (by have:=hK1.size;simp;omega) hg (fun j e=>⟨(hown1.lt j e).1,fun o ho=>by
     rcases hown1.2 with ⟨rfl,_⟩|⟨g',cap',cur,rfl,_,hb,_⟩
     ·simp [Value.ownBlock] at e
     ·obtain rfl:g'=j:=by simpa [Value.ownBlock] using e
      rw [qac hb hal1] at ho;cases ho;rfl⟩)
    have hK4:KeptN N w (w3.setCell ⟨bl,0,none⟩ (.slice (some ⟨gg,0,none⟩) (k+1) cap)):=hK3.setCell q3 hbk3 rfl 0 _
    have hgb:gg≠bl:=fun e=>by
     subst e;rcases hown3.2 with ⟨hv,_⟩|⟨g',cap',cur,hv,_,hb,_⟩
     ·cases hv
     ·cases hv;rw [hbk3] at hb;cases hb
    have hown4:(w3.setCell ⟨bl,0,none⟩ (.slice (some ⟨gg,0,none⟩) (k+1) cap)).ownsRow N 9 1 (.slice (some ⟨gg,0,none⟩) (k+1) cap) (k+1) (xs++[.string ⟨nm.toArray⟩]):=qeI hown3 fun g hgv=>by
     obtain rfl:gg=g:=by simpa [Value.ownBlock] using hgv
     exact Below.heap_setCell _ _ _ _ hgb
    have hrow:∀j,v.ownBlock=some j→∃cs,(w1.alloc (.cells #[.string ⟨nm.toArray⟩] 9)).heap[j]?=some (.cells cs 9 (0,0)):=fun j e=>by
     rcases hown1.2 with ⟨rfl,_⟩|⟨g',cap',cur,rfl,_,hb,_⟩
     ·simp [Value.ownBlock] at e
     ·obtain rfl:g'=j:=by simpa [Value.ownBlock] using e
      exact⟨_,qac hb hal1⟩
    have hfin:qcu (w3.setCell ⟨bl,0,none⟩ (.slice (some ⟨gg,0,none⟩) (k+1) cap)) N bm bl m (l++[nm]):=by
     have hmN:=HM2.out;obtain⟨es1,cl1,hm1⟩:=hmN.obj;have hm1a:=qac (qac hm1 hb1') hal1
     have hm3:w3.heap[m]?=some (.map es1 cl1):=(hg.block m (lt_of_block hm1a) (fun e=>by obtain⟨cs,hcs⟩:=hrow m e.symm;rw [hm1a] at hcs;cases hcs)).trans hm1a
     have q4w:=HQ.out.2.2.2.2;have q4a:=qac (qac q4w hb1') hal1
     have q43:=(hg.block bm (lt_of_block q4a) (fun e=>by obtain⟨cs,hcs⟩:=hrow bm e.symm;rw [q4a] at hcs;cases hcs)).trans q4a
     refine⟨q1,q2,q3,(Below.heap_setCell _ _ _ _ (by intro e;have e:bm=bl:=e;subst e;rw [q4w] at q62;cases q62)).trans q43,?_,_,one_setCell hbk3,?_⟩
     ·rw [List.length_append,HKL.out]
      exact hmN.block ((Below.heap_setCell _ _ _ _ (by intro e;exact hbm e.symm)).trans (hm3.trans hm1.symm))
     ·rw [List.length_append,HKL.out,List.map_append,HXS.out]
      exact hown4
    have HF:=hid (And.intro hK4 hfin)
    clear hfin hown4 hgb hK4 hK3 hal1 hrow hK1 hb1' hown3 hg hown1 hbk1 hbk3 c1 c3 f3 hat q72 q62 c0 y1;go_wp2_with fail;go_end0;exact⟨rfl,HF.out.1,by rw [HA.out];exact HF.out.2⟩
theorem qvb {w:World} {M N n:Nat} {v:Value} {xs:List Value} (hM:M≤N) (h:w.ownsRow N 9 1 v n xs):w.ownsRow M 9 1 v n xs:=by
 refine⟨h.1,?_⟩
 rcases h.2 with h0|⟨g,cap,cur,hv,h1,h2,h3⟩
 ·exact .inl h0
 ·exact .inr ⟨g,cap,cur,hv,Nat.le_trans hM h1,h2,h3⟩
theorem KeptN.var4 {N b:Nat} {w w':World} {x y z k:Value} (h:KeptN N w w') (hb:qdY w b x y z k):qdY w' b x y z k:=h.fine _ _ hb rfl
theorem qj6 (W0:World) (N:Nat) (hN0:N=W0.heap.size) (bm bl m:Nat):∀(n:Nat) (t:G),SizeOf.sizeOf t=n→∀(l:List (List UInt8)) (A:Option Addr) (c:Nat) (w:World),GAt W0 A c t→Below N W0 w→qcu w N bm bl m l→(l.length+qbB t)*16≤140737488355328→
  Calls prog 293 #[.agg #[g0 t,g1 t,g2 t,.slice A (qaD t) c],.func (.func 294) #[] #[.pointer (some ⟨bm,0,none⟩),.pointer (some ⟨bl,0,none⟩)]] w fun e w'=>e=.returned (.tuple #[])∧KeptN N w w'∧qcu w' N bm bl m (qba t l):=by
 intro n
 induction n using Nat.strongRecOn with
 |_ n ih=>
  intro t hn l A c w hT0 hB hQ hsz
  have hT:=hT0;have hnm:=hT.nm;have hl3:=hT.len;have hNs:N≤w.heap.size:=by have:=hB.size;omega
  have hwk:=qeO t l;have hnd:=qfM t;have h4:=qnO l (gNm t)
  have hal:Below w.heap.size w (w.alloc (.cells #[g0 t,g1 t,g2 t,.slice A (qaD t) c] 205)):=(Below.refl _ _).alloc (Nat.le_refl _) _
  have hX:qdY (w.alloc (.cells #[g0 t,g1 t,g2 t,.slice A (qaD t) c] 205)) w.heap.size (g0 t) (g1 t) (g2 t) (.slice A (qaD t) c):=heap_alloc_new _ _
  have hK:=KeptN.of_below hal hNs;have hns:qbB t≥1:=by omega
  have cF:=fun W hW=>qm3 t N bm bl m l A c W hW hnm (by omega)
  have eg:=enters_of func294 (by kernel_rfl) rfl
  have hQ0:=hQ.below hal;have hB0:=hB.trans (hal.mono hNs)
  have x0:=hX.a0;have x1:=hX.a1;have x2:=hX.a2;have x3:=hX.a3
  have HWK:=hid hwk;have HND:=hid hnd;obtain⟨l0,hl0⟩:=qQ (addN l (gNm t))
  rw [hl0] at HWK h4 cF;have hkl:(qan t).length=qaD t:=rfl
  have HKL:=hid hkl;clear hwk hnd hl0 hQ hB hT hnm hal hkl;go_enter func293,ntmps293;generalize hw0:w.alloc (.cells #[g0 t,g1 t,g2 t,.slice A (qaD t) c] 205)=w0 at *;go_wp2_with fail;refine(cF _ hQ0).mono ?_;rintro e w1⟨rfl,hk1,hQ1⟩;have hX1:=hk1.var4 hX;have hB1:=hB0.trans hk1.below;have hK1:=hK.trans hk1;have x0:=hX1.a0;have x1:=hX1.a1;have x2:=hX1.a2;have x3:=hX1.a3
  clear cF hQ0 hB0 hk1 hX hK eg;go_wp2_with fail;clear x0 x1 x2 x3 hX1;go_loopw [12] (fun i wr=>∃k:Nat,k≤qaD t∧i=.int .i64 k∧KeptN N w wr∧Below N W0 wr∧qcu wr N bm bl m (((qan t).take k).foldl (fun l k=>qba k l) l0)∧Hid ((((qan t).take k).foldl (fun l k=>qba k l) l0).length≤l0.length+(((qan t).take k).map qbB).sum)) (fun i _=>qaD t-(intOf i).toNat)
  case atStart=>exact⟨0,Nat.zero_le _,rfl,hK1,hB1,hQ1,hid (by simp)⟩
  case round=>
   obtain⟨k,hk,rfl,hKr,hBr,hQr,HLr⟩:=hrel;by_cases hlt:k<qaD t
   ·have hlt':k<(qan t).length:=hlt
    have hTr:GAt wr A c t:=hT0.later (by rw [← hN0];exact hBr)
    obtain⟨g,o,A1,k1,rfl,d0,d1,d2,d3,-⟩:=hTr.kid k hlt';obtain⟨g',o',A1',k1',e',e0,e1,e2,e3,hT1⟩:=hT0.kid k hlt';cases e'
    have hsum:(((qan t).take (k+1)).map qbB).sum=(((qan t).take k).map qbB).sum+qbB (qan t)[k]:=by
     rw [List.take_succ_eq_append_getElem hlt',List.map_append,List.sum_append,List.map_cons,List.map_nil,List.sum_cons,List.sum_nil,Nat.add_zero]
    have htot:(((qan t).take (k+1)).map qbB).sum≤((qan t).map qbB).sum:=by
     conv=>rhs;rw [← List.take_append_drop (k+1) (qan t)]
     rw [List.map_append,List.sum_append];omega
    have hfold:((qan t).take (k+1)).foldl (fun l k=>qba k l) l0=qba (qan t)[k] (((qan t).take k).foldl (fun l k=>qba k l) l0):=by
     rw [List.take_succ_eq_append_getElem hlt',List.foldl_append];rfl
    have hwl:=qiI _ (qan t)[k] rfl (((qan t).take k).foldl (fun l k=>qba k l) l0)
    have hcell:W0.cell? ⟨g,o+k*4+3,none⟩=wr.cell? ⟨g,o+k*4+3,none⟩:=by
     have hgl:=World.block_lt_of_cell? W0 ⟨g,o+k*4+3,none⟩ e3
     exact(hBr.cell (p:=⟨g,o+k*4+3,none⟩) (by rw [hN0];exact hgl)).symm
    rw [e3,d3] at hcell;have hA:A1'=A1∧k1'=k1:=by simpa using hcell
    obtain⟨rfl,rfl⟩:=hA;have hLr:=HLr.out;have hnd:=HND.out;have hszk:=qhd t k hlt';have cE:=fun W hB hQ=>ih (SizeOf.sizeOf (qan t)[k]) (by omega) (qan t)[k] rfl (((qan t).take k).foldl (fun l k=>qba k l) l0) A1' k1' W hT1 hB hQ (by omega)
    have HS:=hid (And.intro hfold (And.intro hsum (And.intro hwl hLr)))
    have hg1:(k:Int)<(qaD t:Int):=by omega
    have hg0:(0:Int)≤(k:Int):=by omega
    have hNr:N≤wr.heap.size:=by have:=hKr.size;omega
    clear hfold hsum htot hwl hLr hnd hszk ih hn hTr hT1 hT0 e0 e1 e2 e3 HLr hcell hw0;generalize (qan t)[k]=tk at *;clear hlt';generalize ((qan t).take k).foldl (fun l k=>qba k l) l0=lk at *;have hal2:Below wr.heap.size wr (wr.alloc (.cells #[g0 tk,g1 tk,g2 tk,.slice A1' (qaD tk) k1'] 205)):=(Below.refl _ _).alloc (Nat.le_refl _) _
    have hY:qdY (wr.alloc (.cells #[g0 tk,g1 tk,g2 tk,.slice A1' (qaD tk) k1'] 205)) wr.heap.size (g0 tk) (g1 tk) (g2 tk) (.slice A1' (qaD tk) k1'):=heap_alloc_new _ _
    have hB2:=hBr.trans (hal2.mono hNr)
    have hQ2:=hQr.below hal2;have hK2:=hKr.trans (.of_below hal2 hNr)
    have cE2:=cE _ hB2 hQ2;have y0:=hY.a0;have y1:=hY.a1;have y2:=hY.a2;have y3:=hY.a3
    clear cE hQ2 hQr;go_wp2_with fail;refine cE2.mono ?_;rintro e w3⟨rfl,hk3,hQ3⟩;have HR:=hid (And.intro (hK2.trans hk3) (And.intro (hB2.trans hk3.below) hQ3))
    clear cE2 hk3 hQ3 hB2 hK2 hKr hBr hal2 hY y0 y1 y2 y3;go_wp2_with fail;go_roundw
    case rel=>exact⟨k+1,by omega,by go_num,HR.out.1,HR.out.2.1,by rw [HS.out.1];exact HR.out.2.2,hid (by rw [HS.out.1,HS.out.2.1];have:=HS.out.2.2.1;have:=HS.out.2.2.2;omega)⟩
    case measure=>simp [intOf];omega
   ·have hke:k=qaD t:=by omega
    subst hke;have HF:Hid (qba t l=((qan t).take (qaD t)).foldl (fun l k=>qba k l) l0):=hid (by rw [HWK.out,show(qan t).take (qaD t)=qan t from List.take_length])
    have hg1:decide ((qaD t:Int)<(qaD t:Int))=false:=by simp
    clear ih hn hT0 HLr;generalize ((qan t).take (qaD t)).foldl (fun l k=>qba k l) l0=lk at *;go_wp2;go_end0;exact⟨rfl,hKr,by rw [HF.out];exact hQr⟩
theorem qie (t:G) (A:Option Addr) (c:Nat) (w:World) (hT:GAt w A c t) (hsz:qbB t*16≤140737488355328):
  Calls prog 269 #[.agg #[g0 t,g1 t,g2 t,.slice A (qaD t) c]] w fun e w'=>∃v,e=.returned v∧w'.ownsRow w.heap.size 9 1 v (qba t []).length ((qba t []).map fun k=>.string ⟨k.toArray⟩)∧Below w.heap.size w w':=by
 have hal:Below w.heap.size w (w.alloc (.cells #[g0 t,g1 t,g2 t,.slice A (qaD t) c] 205)):=(Below.refl _ _).alloc (Nat.le_refl _) _
 have hX:qdY (w.alloc (.cells #[g0 t,g1 t,g2 t,.slice A (qaD t) c] 205)) w.heap.size (g0 t) (g1 t) (g2 t) (.slice A (qaD t) c):=heap_alloc_new _ _
 have hT1:=hT.later hal;have hs1:(w.alloc (.cells #[g0 t,g1 t,g2 t,.slice A (qaD t) c] 205)).heap.size=w.heap.size+1:=by simp
 obtain⟨w1,hw1⟩:=qQ (w.alloc (.cells #[g0 t,g1 t,g2 t,.slice A (qaD t) c] 205))
 rw [hw1] at hal hX hT1 hs1;have hal2:Below w1.heap.size w1 (((w1.alloc (.cells #[.slice none 0 0] 22)).alloc (.map #[] 0)).alloc (.cells #[.map (some (w1.heap.size+1))] 303)):=(((Below.refl _ _).alloc (Nat.le_refl _) _).alloc (by simp) _).alloc (by simp;omega) _
 have hQ:qcu (((w1.alloc (.cells #[.slice none 0 0] 22)).alloc (.map #[] 0)).alloc (.cells #[.map (some (w1.heap.size+1))] 303)) w1.heap.size (w1.heap.size+1+1) w1.heap.size (w1.heap.size+1) []:=by
  have hmm:=qc8.made (w1.alloc (.cells #[.slice none 0 0] 22))
  rw [World.size_alloc] at hmm;refine⟨by omega,by omega,Nat.le_refl _,?_,?_,.slice none 0 0,?_,World.ownsRow_nil _ _ _ _⟩
  ·have:=heap_alloc_new ((w1.alloc (.cells #[.slice none 0 0] 22)).alloc (.map #[] 0)) (.cells #[.map (some (w1.heap.size+1))] 303)
   simpa using this
  ·have:=hmm.block (Below.heap_alloc _ (.cells #[.map (some (w1.heap.size+1))] 303) _ hmm.lt)
   simpa using this
  ·exact(Below.heap_alloc _ _ _ (by simp;omega)).trans ((Below.heap_alloc _ _ _ (by simp)).trans (heap_alloc_new _ _))
 have cE:=qj6 w1 w1.heap.size rfl (w1.heap.size+1+1) w1.heap.size (w1.heap.size+1) _ t rfl [] A c _ hT1 hal2 hQ (by simpa using hsz)
 rw [hs1] at cE;have hX2:=hX.below hal2;rw [hs1] at hX2;have x0:=hX2.a0;have x1:=hX2.a1;have x2:=hX2.a2;have x3:=hX2.a3
 have y0:=hX.a0;have y1:=hX.a1;have y2:=hX.a2;have y3:=hX.a3
 have hmm:=@run_makeMap prog
 rw [hs1] at hal2;have HB:=hid (And.intro hal (And.intro hal2 hs1))
 have HW:=hid hw1;clear hal hT hT1 hX hX2 hQ hsz hal2;go_enter func269,ntmps269;go_wp2_with fail;refine cE.mono ?_;rintro e w2⟨rfl,hk2,hQ2⟩;obtain⟨_,_,_,_,_,v,h6,h7⟩:=hQ2;have l0:=cell_of_one h6;have H7:=hid (qvb (show w.heap.size≤w.heap.size+1 by omega) h7)
 have hb2:Below w.heap.size w w2:=HB.out.1.trans ((HB.out.2.1.mono (Nat.le_succ _)).trans (hk2.below.mono (by omega)))
 obtain⟨ao,n',cap,rfl⟩:=qcp h7;clear cE h6 h7 hk2 hmm;go_wp2_with fail;go_ret;exact⟨_,rfl,H7.out,hb2⟩
def qyb (l:List VI) (nm:List UInt8):Option VI:=l.reverse.find? fun x=>x.v.nm==nm
def qqL (l:List VI):qjN:=fun nm=>(qyb l nm).getD qzn
theorem qyG (l:List VI) (nm:List UInt8):(qyb l nm).map (·.v)=qzm (l.map (·.v)) nm:=by
 unfold qyb qzm;rw [← List.map_reverse,List.find?_map];rfl
theorem qyB (l:List VI):qfx (qqL l)=qgZ (l.map (·.v)):=by
 funext nm
 unfold qfx qqL qgZ;rw [← qyG];cases qyb l nm<;>rfl
theorem qlb (l:List VI) (k:Nat) (hk:k<l.length) (nm:List UInt8):qqL (l.take (k+1)) nm=if nm=l[k].v.nm then l[k] else qqL (l.take k) nm:=by
 unfold qqL qyb;rw [List.take_succ_eq_append_getElem hk,List.reverse_append,List.reverse_singleton,List.singleton_append,List.find?_cons];by_cases e:nm=l[k].v.nm
 ·rw [if_pos e];simp [e]
 ·have:(l[k].v.nm==nm)=false:=by simpa using fun h=>e h.symm
  rw [if_neg e,this]
theorem qus (l:List VI) (nm:List UInt8):qqL l nm=qzn∨qqL l nm∈l:=by
 unfold qqL qyb;cases h:l.reverse.find? fun x=>x.v.nm==nm with
 |none=>exact .inl rfl
 |some x=>exact .inr (by have:=List.mem_of_find?_eq_some h;simpa using this)
def qiZ (D:List (List UInt8)) (k:Nat) (s:List UInt8):Option Value:=if s∈D.take k then some qkM else none
def qdB (D:List (List UInt8)) (l:List VI) (s:List UInt8):Option Value:=if s∈D then some (cellC (qqL l s)) else none
theorem qqH (D:List (List UInt8)):qiZ D 0=fun _=>none:=by funext s;simp [qiZ]
theorem qqG (D:List (List UInt8)) (k:Nat) (hk:k<D.length):(fun s=>if s=D[k] then some qkM else qiZ D k s)=qiZ D (k+1):=by
 funext s
 have hm:s∈D.take (k+1)↔s∈D.take k∨s=D[k]:=by rw [List.take_succ_eq_append_getElem hk,List.mem_append,List.mem_singleton]
 unfold qiZ;by_cases e:s=D[k]
 ·rw [if_pos e,if_pos (hm.2 (.inr e))]
 ·rw [if_neg e]
  by_cases h:s∈D.take k
  ·rw [if_pos h,if_pos (hm.2 (.inl h))]
  ·rw [if_neg h,if_neg (fun h2=>(hm.1 h2).elim h e)]
theorem qtN (D:List (List UInt8)):qiZ D D.length=qdB D []:=by
 funext s;unfold qiZ qdB;rw [List.take_length];rfl
theorem qo9 (D:List (List UInt8)) (l:List VI) (k:Nat) (hk:k<l.length) (hm:l[k].v.nm∈D):(fun s=>if s=l[k].v.nm then some (cellC l[k]) else qdB D (l.take k) s)=qdB D (l.take (k+1)):=by
 funext s
 unfold qdB;rw [qlb l k hk];by_cases e:s=l[k].v.nm
 ·rw [if_pos e,if_pos (by rw [e];exact hm),if_pos e]
 ·rw [if_neg e,if_neg e]
theorem qpa (D:List (List UInt8)) (l:List VI) (k:Nat) (hk:k<l.length) (hm:l[k].v.nm∉D):qdB D (l.take k)=qdB D (l.take (k+1)):=by
 funext s
 unfold qdB;rw [qlb l k hk];by_cases h:s∈D
 ·rw [if_pos h,if_pos h,if_neg (fun e=>hm (by rw [← e];exact h))]
 ·rw [if_neg h,if_neg h]
theorem qg3 {w:World} {o:Oper} {a:Act} {K:Act→World→Prop} {Q:Exit→Act→World→Prop}
  (m x v:Operand) (t e:TypeId) (hop:o.op=Op.mapUpdate t m x v) (ht:prog.underlying t=some (.map 9 e)) (b n:Nat) (f:List UInt8→Option Value)
  (hm:a.eval m=.map (some b)) (hown:qc8 w b n f) (hn:n<maxLen) (s:List UInt8) (val:Value) (hx:a.eval x=.string ⟨s.toArray⟩) (hv:a.eval v=val) (hs:s.length≤maxLen)
  (hK:∀w',qc8 w' b (if(f s).isSome then n else n+1) (fun k=>if k=s then some val else f k)→w.grownBy w' (some b)→K (a.put o.dst undef) w'):
  o.wp prog a w K Q:=by
 obtain⟨w',hrun,r1,r2⟩:=hown.store ht hn s hs val;unfold Oper.wp;simp [execOp,hop,hm,hx,hv,hrun,Result.andThen]
 exact hK _ r1 r2
theorem qka {w:World} {o:Oper} {a:Act} (m x:Operand) (t e:TypeId) (c:Bool) (hop:o.op=Op.lookup t m x c) (ht:prog.underlying t=some (.map 9 e)) (z:Value) (hz:(zeroValue e).run prog w=.ok z w) (b n:Nat) (f:List UInt8→Option Value)
  (hm:a.eval m=.map (some b)) (hown:qc8 w b n f) (s:List UInt8) (hx:a.eval x=.string ⟨s.toArray⟩) (hs:s.length≤maxLen):
  (execOp a.eval o).run prog w=.ok (.value (if c then .tuple #[(f s).getD z,.bool (f s).isSome] else(f s).getD z)) w:=by
 have hrun:=hown.look ht hz c s hs;simp [execOp,hop,hm,hx,hrun,Result.andThen]
theorem qq2 (t:G) (A Av:Option Addr) (c cv:Nat) (lv:List VI) (w:World) (hT:GAt w A c t) (hV:qbN w (fun _=>True) Av lv) (hsz:qbB t*16≤140737488355328) (hnm:∀nm∈qba t [],nm.length≤140737488355328) (hlv:lv.length*64≤140737488355328):
  Calls prog 241 #[.agg #[g0 t,g1 t,g2 t,.slice A (qaD t) c],.slice Av lv.length cv] w fun e w'=>∃B,e=.returned (.pointer (some ⟨B,0,none⟩))∧WorkAt w' w.heap.size B (qba t []) (qqL lv) []∧Below w.heap.size w w':=by
 have hDl:=qiI _ t rfl []
 obtain⟨D,hD⟩:=qQ (qba t [])
 have hal:Below w.heap.size w (w.alloc (.cells #[g0 t,g1 t,g2 t,.slice A (qaD t) c] 205)):=(Below.refl _ _).alloc (Nat.le_refl _) _
 have hX:qdY (w.alloc (.cells #[g0 t,g1 t,g2 t,.slice A (qaD t) c] 205)) w.heap.size (g0 t) (g1 t) (g2 t) (.slice A (qaD t) c):=heap_alloc_new _ _
 have hs1:(w.alloc (.cells #[g0 t,g1 t,g2 t,.slice A (qaD t) c] 205)).heap.size=w.heap.size+1:=by simp
 obtain⟨w1,hw1⟩:=qQ (w.alloc (.cells #[g0 t,g1 t,g2 t,.slice A (qaD t) c] 205))
 have HW1:=hid hw1;rw [hw1] at hal hX hs1;clear hw1;have hM1:qc8 (w1.alloc (.map #[] 0)) w1.heap.size 0 (qiZ D 0):=by rw [qqH];exact qc8.made w1
 have hal2:Below w1.heap.size w1 ((w1.alloc (.map #[] 0)).alloc (.cells #[.map (some w1.heap.size),.slice none 0 0] 285)):=((Below.refl _ _).alloc (Nat.le_refl _) _).alloc (by simp) _
 have hM2:=hM1.block (Below.heap_alloc (w1.alloc (.map #[] 0)) (.cells #[.map (some w1.heap.size),.slice none 0 0] 285) _ hM1.lt)
 have hb2:((w1.alloc (.map #[] 0)).alloc (.cells #[.map (some w1.heap.size),.slice none 0 0] 285)).heap[w1.heap.size+1]?=some (.cells #[.map (some w1.heap.size),.slice none 0 0] 285 (0,0)):=by
  have:=heap_alloc_new (w1.alloc (.map #[] 0)) (.cells #[.map (some w1.heap.size),.slice none 0 0] 285)
  simpa using this
 rw [hs1] at hal2 hM2 hb2;obtain⟨w2,hw2⟩:=qQ ((w1.alloc (.map #[] 0)).alloc (.cells #[.map (some (w.heap.size+1)),.slice none 0 0] 285))
 have HW2:=hid hw2;rw [hw2] at hal2 hM2 hb2;clear hM1 hw2;have hB2:Below w.heap.size w w2:=hal.trans (hal2.mono (by omega))
 have cN:=qie t A c w2 (hT.later hB2) hsz
 rw [hD] at cN hDl hnm ⊢;have hX2:=hX.below (by rw [hs1];exact hal2)
 have x0:=hX2.a0;have x1:=hX2.a1;have x2:=hX2.a2;have x3:=hX2.a3
 have hmm:=@run_makeMap prog
 have hs2:=hB2.size;have HT:=hid (And.intro hnm hsz)
 have hDl':D.length*16≤140737488355328:=by simp at hDl;omega
 clear hT hnm hsz hal hX hX2 hal2 hDl;go_enter func241,ntmps241;go_wp2_with (first
  |(rw [HW1.out])
  |(rw [HW2.out])
  |(go_at_call 269;(with_reducible refine cN.mono ?_);rintro e w3 ⟨v,rfl,hrow,hb3⟩;obtain⟨ao,n',cap,rfl⟩:=qcp hrow))
 have hn':n'=D.length:=by
  rcases hrow.2 with ⟨hv,h0⟩|⟨g',cap',cur,hv,_⟩
  ·cases hv;omega
  ·cases hv;rfl
 subst hn';have hTx:qat w3 (PS w3 w2.heap.size) ao D:=qat.of_own hrow
 have hB3:=hB2.trans (hb3.mono hs2)
 have hM3:=hM2.block (hb3.block _ hM2.lt)
 have hW3:=(hb3.block _ (lt_of_block hb2)).trans hb2
 have hwm:w.heap.size≤(w.heap.size+1):=by omega
 clear hrow cN x0 x1 x2 x3 hmm hM2 hb2 hB2 hb3;go_wp2_with fail;go_loopw [18] (fun i wr=>∃k:Nat,k≤D.length∧i=.int .i64 k∧Below w.heap.size w wr∧qc8 wr (w.heap.size+1) k (qiZ D k)∧wr.heap[w.heap.size+1+1]?=some (.cells #[.map (some (w.heap.size+1)),.slice none 0 0] 285 (0,0))∧qat wr (PS wr w2.heap.size) ao D) (fun i _=>D.length-(intOf i).toNat)
 case atStart=>exact⟨0,Nat.zero_le _,rfl,hB3,hM3,hW3,hTx⟩
 case round=>
  clear hB3 hM3 hW3 hTx;obtain⟨k,hk,rfl,hB,hM,hW,hTx⟩:=hrel;have b0:wr.cell? ⟨w.heap.size+1+1,0,none⟩=some (.map (some (w.heap.size+1))):=by simp [World.cell?,hW]
  by_cases hlt:k<D.length
  ·obtain⟨g,o,rfl,hps,hcx⟩:=hTx k hlt
   have hnl:=HT.out.1 _ (List.getElem_mem hlt)
   have HZ:=hid (qqG D k hlt)
   have HTx:=hid hTx;clear hTx;go_wp2_with (at_mapUpdate;refine qdg rfl _ _ _ _ _ rfl underlying283 (w.heap.size+1) k (qiZ D k) rfl hM (by unfold maxLen;omega) D[k] qkM rfl rfl (by unfold maxLen;omega) ?_;intro w5 hM5 hg)
   rw [HZ.out] at hM5;obtain⟨es,cl,hes⟩:=hM.obj;have hM6:=hM5.mono (show _≤k+1 by split<;>omega)
   have hB5:=hB.grown hg hB.size (fun j e=>by cases e;exact hwm)
   have hW5:w5.heap[w.heap.size+1+1]?=_:=(hg.block _ (lt_of_block hW) (by simp)).trans hW
   have hT5:qat w5 (PS w5 w2.heap.size) (some ⟨g,o,none⟩) D:=HTx.out.frame fun g' hg' hp=>by
    obtain⟨h1,cs,h2⟩:=hp;have h3:=hg.block g' hg' (by intro e;cases e;rw [h2] at hes;cases hes)
    exact⟨⟨h1,cs,h3.trans h2⟩,h3⟩
   have HF:=hid (And.intro hB5 (And.intro hM6 (And.intro hW5 hT5)))
   clear hM5 hM6 hB5 hW5 hT5 hg hes hM hB hW b0;go_wp2_with fail;go_roundw
   case rel=>exact⟨k+1,by omega,by go_num,HF.out.1,HF.out.2.1,HF.out.2.2.1,HF.out.2.2.2⟩
   case measure=>simp [intOf];omega
  ·obtain rfl:k=D.length:=by omega
   rw [qtN] at hM;clear hTx b0;go_wp2_with fail;go_loopw [31] (fun i wr=>∃k:Nat,k≤lv.length∧i=.int .i64 k∧Below w.heap.size w wr∧qc8 wr (w.heap.size+1) D.length (qdB D (lv.take k))∧wr.heap[w.heap.size+1+1]?=some (.cells #[.map (some (w.heap.size+1)),.slice none 0 0] 285 (0,0))) (fun i _=>lv.length-(intOf i).toNat)
   case atStart=>exact⟨0,Nat.zero_le _,rfl,hB,hM,hW⟩
   case round=>
    clear hB hM hW;obtain⟨k,hk,rfl,hB,hM,hW⟩:=hrel;by_cases hlt:k<lv.length
    ·obtain⟨g,o,rfl,_,d0,d1,d2,d3⟩:=hV.1 k hlt
     have e0:=(hB.cell (p:=⟨g,o+k*4,none⟩) (World.block_lt_of_cell? w _ d0)).trans d0
     have e1:=(hB.cell (p:=⟨g,o+k*4+1,none⟩) (World.block_lt_of_cell? w _ d1)).trans d1
     have e2:=(hB.cell (p:=⟨g,o+k*4+2,none⟩) (World.block_lt_of_cell? w _ d2)).trans d2
     have e3:=(hB.cell (p:=⟨g,o+k*4+3,none⟩) (World.block_lt_of_cell? w _ d3)).trans d3
     have hnm:=(hV.2 _ (List.getElem_mem hlt)).2.nm
     have hal:Below wr.heap.size wr (wr.alloc (.cells (qaq lv[k]).toArray 210)):=(Below.refl _ _).alloc (Nat.le_refl _) _
     have hX:qaF (wr.alloc (.cells (qaq lv[k]).toArray 210)) wr.heap.size (.string ⟨lv[k].v.nm.toArray⟩) (.string ⟨lv[k].v.tx.toArray⟩) (.bool lv[k].v.ar) (.slice lv[k].A lv[k].v.ls.length lv[k].c):=heap_alloc_new _ _
     have hMa:=hM.block (hal.block _ hM.lt)
     have hWa:=(hal.block _ (lt_of_block hW)).trans hW
     have hBa:=qT hB hal;have hNB:w.heap.size+1+1<wr.heap.size:=lt_of_block hW
     obtain⟨N,hN⟩:=qQ (wr.heap.size)
     have HN:=hid hN;obtain⟨wa,hwa⟩:=qQ (wr.alloc (.cells #[.string ⟨lv[k].v.nm.toArray⟩,.string ⟨lv[k].v.tx.toArray⟩,.bool lv[k].v.ar,.slice lv[k].A lv[k].v.ls.length lv[k].c] 210))
     have HWA:=hid hwa;simp only [qaq] at hX hMa hWa hBa
     rw [hwa] at hX hMa hWa hBa;rw [hN] at hX hNB;clear hal d0 d1 d2 d3 hM hW hN hwa;obtain⟨u,hu⟩:∃u:VI,(qdB D (lv.take k) lv[k].v.nm).getD qkM=cellC u:=by
      unfold qdB;by_cases hm:lv[k].v.nm∈D
      ·rw [if_pos hm];exact⟨_,rfl⟩
      ·rw [if_neg hm];exact⟨qzn,rfl⟩
     obtain⟨ok,hok⟩:=qQ ((qdB D (lv.take k) lv[k].v.nm).isSome)
     have HU:=hid (And.intro hu hok)
     go_wp2_with fail;rw [HWA.out,HN.out];have hc0:wa.cell? ⟨w.heap.size+1+1,0,none⟩=some (.map (some (w.heap.size+1))):=by simp [World.cell?,hWa]
     refine wp_region_held_drew (S:=fun w'=>w'.cell? ⟨w.heap.size+1+1,0,none⟩=some (.map (some (w.heap.size+1)))∧w'.cell? ⟨N,0,none⟩=some (.string ⟨lv[k].v.nm.toArray⟩)∧qc8 w' (w.heap.size+1) D.length (qdB D (lv.take k))) (by kernel_rfl) ⟨hc0,hX.a0,hMa.block rfl⟩ (fun hHeld=>?_)
     refine qai 0 36 (.pointer (some ⟨w.heap.size+1+1,0,none⟩)) rfl rfl (Or.inl ⟨by rfl,?_⟩) hHeld ?_
     ·intro w hSw;(try dsimp only at hSw);obtain⟨h1,h2,h3⟩:=hSw;go_simp
     try simp only [Act.put,sIA,sC0,sCS]
     refine qai 1 37 (.pointer (some ⟨w.heap.size+1+1,0,none⟩)) rfl rfl (Or.inl ⟨by rfl,?_⟩) hHeld ?_
     ·intro w hSw;(try dsimp only at hSw);obtain⟨h1,h2,h3⟩:=hSw;go_simp
     try simp only [Act.put,sIA,sC0,sCS]
     refine qai 2 38 (.pointer (some ⟨w.heap.size+1+1,0,none⟩)) rfl rfl (Or.inl ⟨by rfl,?_⟩) hHeld ?_
     ·intro w hSw;(try dsimp only at hSw);obtain⟨h1,h2,h3⟩:=hSw;go_simp
     try simp only [Act.put,sIA,sC0,sCS]
     refine qai 3 39 (.map (some (w.heap.size+1))) rfl rfl (Or.inl ⟨by rfl,?_⟩) hHeld ?_
     ·intro w hSw;(try dsimp only at hSw);obtain⟨h1,h2,h3⟩:=hSw;go_simp
     try simp only [Act.put,sIA,sC0,sCS]
     refine qai 4 40 (.pointer (some ⟨N,0,none⟩)) rfl rfl (Or.inl ⟨by rfl,?_⟩) hHeld ?_
     ·intro w hSw;(try dsimp only at hSw);obtain⟨h1,h2,h3⟩:=hSw;go_simp
     try simp only [Act.put,sIA,sC0,sCS]
     refine qai 5 41 (.string ⟨lv[k].v.nm.toArray⟩) rfl rfl (Or.inl ⟨by rfl,?_⟩) hHeld ?_
     ·intro w hSw;(try dsimp only at hSw);obtain⟨h1,h2,h3⟩:=hSw;go_simp
     try simp only [Act.put,sIA,sC0,sCS]
     refine qai 6 42 (.tuple #[.agg #[.string ⟨u.v.nm.toArray⟩,.string ⟨u.v.tx.toArray⟩,.bool u.v.ar,.slice u.A u.v.ls.length u.c,.bool false,.int .i64 0],.bool ok]) rfl rfl (Or.inl ⟨by rfl,?_⟩) hHeld ?_
     ·intro w hSw;(try dsimp only at hSw);obtain⟨h1,h2,h3⟩:=hSw;refine Eq.trans (qka (w:=w) _ _ _ _ true (by rfl) underlying283 qkM (qf7 _) _ D.length _ (by rfl) h3 lv[k].v.nm (by rfl) (by unfold maxLen;omega)) (by rw [HU.out.1,HU.out.2];rfl)
     try simp only [Act.put,sIA,sC0,sCS]
     refine qai 7 35 (.tuple #[.agg #[.string ⟨u.v.nm.toArray⟩,.string ⟨u.v.tx.toArray⟩,.bool u.v.ar,.slice u.A u.v.ls.length u.c,.bool false,.int .i64 0],.bool ok]) rfl rfl (Or.inl ⟨by rfl,?_⟩) hHeld ?_
     ·intro w hSw;(try dsimp only at hSw);obtain⟨h1,h2,h3⟩:=hSw;go_simp
     try simp only [Act.put,sIA,sC0,sCS]
     refine qai 8 43 (.agg #[.string ⟨u.v.nm.toArray⟩,.string ⟨u.v.tx.toArray⟩,.bool u.v.ar,.slice u.A u.v.ls.length u.c,.bool false,.int .i64 0]) rfl rfl (Or.inl ⟨by rfl,?_⟩) hHeld ?_
     ·intro w hSw;(try dsimp only at hSw);obtain⟨h1,h2,h3⟩:=hSw;go_simp
     try simp only [Act.put,sIA,sC0,sCS]
     refine qai 9 44 (.bool ok) rfl rfl (Or.inl ⟨by rfl,?_⟩) hHeld ?_
     ·intro w hSw;(try dsimp only at hSw);obtain⟨h1,h2,h3⟩:=hSw;go_simp
     try simp only [Act.put,sIA,sC0,sCS]
     have hNa:N<wa.heap.size:=hX.lt
     have hab:Below wa.heap.size wa (wa.drew.alloc (.cells #[.string ⟨u.v.nm.toArray⟩,.string ⟨u.v.tx.toArray⟩,.bool u.v.ar,.slice u.A u.v.ls.length u.c,.bool false,.int .i64 0] 288)):=(Below.refl _ _).drew.alloc (Nat.le_refl _) _
     have hS12:(fun w'=>w'.cell? ⟨w.heap.size+1+1,0,none⟩=some (.map (some (w.heap.size+1)))∧w'.cell? ⟨N,0,none⟩=some (.string ⟨lv[k].v.nm.toArray⟩)∧qc8 w' (w.heap.size+1) D.length (qdB D (lv.take k))) (wa.drew.alloc (.cells #[.string ⟨u.v.nm.toArray⟩,.string ⟨u.v.tx.toArray⟩,.bool u.v.ar,.slice u.A u.v.ls.length u.c,.bool false,.int .i64 0] 288)):=
      ⟨cell_below hab hc0,(hX.below hab).a0,hMa.block (hab.block _ hMa.lt)⟩
     have hab0:Below wa.heap.size wa (wa.drew.alloc (.cells #[.string ⟨#[]⟩,.string ⟨#[]⟩,.bool false,.slice none 0 0,.bool false,.int .i64 0] 288)):=(Below.refl _ _).drew.alloc (Nat.le_refl _) _
     have hS11:(fun w'=>w'.cell? ⟨w.heap.size+1+1,0,none⟩=some (.map (some (w.heap.size+1)))∧w'.cell? ⟨N,0,none⟩=some (.string ⟨lv[k].v.nm.toArray⟩)∧qc8 w' (w.heap.size+1) D.length (qdB D (lv.take k))) (wa.drew.alloc (.cells #[.string ⟨#[]⟩,.string ⟨#[]⟩,.bool false,.slice none 0 0,.bool false,.int .i64 0] 288)):=
      ⟨cell_below hab0 hc0,(hX.below hab0).a0,hMa.block (hab0.block _ hMa.lt)⟩
     refine qae 10 rfl fun K hK=>?_
     go_simp;refine hK.out _ _ hS11 (fun hHeld=>?_)
     clear hK K
     try simp only [Act.put,sIA,sC0,sCS]
     refine qae 11 rfl fun K hK=>?_
     go_simp;refine hK.out _ _ hS12 (fun hHeld=>?_)
     clear hK K
     try simp only [Act.put,sIA,sC0,sCS]
     refine qae 12 rfl fun K hK=>?_
     go_simp;refine hK.out _ _ hS12 (fun hHeld=>?_)
     clear hK K hS11 hS12 hab0
     try simp only [Act.put,sIA,sC0,sCS]
     refine wpAnyH_done (by kernel_rfl) ?_ _
     obtain⟨wb,hwb⟩:=qQ ((wa.alloc (.cells #[.string ⟨u.v.nm.toArray⟩,.string ⟨u.v.tx.toArray⟩,.bool u.v.ar,.slice u.A u.v.ls.length u.c,.bool false,.int .i64 0] 288)).drew)
     have hbb:Below wa.heap.size wa wb:=by rw [← hwb];exact((Below.refl _ _).alloc (Nat.le_refl _) _).drew
     rw [hwb];have hBb:=qT hBa hbb;have hMb:=hMa.block (hbb.block _ hMa.lt)
     have hWb:=(hbb.block _ (lt_of_block hWa)).trans hWa
     have hXb:=hX.below hbb;have c0b:=cell_below hbb hc0;clear hwb hab hbb hc0 hHeld hX hWa hMa hBa;cases ok
     ·have hm:lv[k].v.nm∉D:=fun hm=>by
       have:=HU.out.2
       unfold qdB at this;rw [if_pos hm] at this;cases this
      rw [qpa D lv k hlt hm] at hMb;clear e0 e1 e2 e3 c0b hXb;go_wp2_with fail;go_roundw
      case rel=>exact⟨k+1,by omega,by go_num,hBb,hMb,hWb⟩
      case measure=>simp [intOf];omega
     ·have hm:lv[k].v.nm∈D:=Classical.byContradiction fun hm=>by
       have:=HU.out.2
       unfold qdB at this;rw [if_neg hm] at this;cases this
      have x0:=hXb.a0;have x1:=hXb.a1;have x2:=hXb.a2;have x3:=hXb.a3
      clear e0 e1 e2 e3;go_wp2_with fail;refine wp_region_held_drew (S:=fun w'=>w'.cell? ⟨w.heap.size+1+1,0,none⟩=some (.map (some (w.heap.size+1)))∧w'.cell? ⟨N,0,none⟩=some (.string ⟨lv[k].v.nm.toArray⟩)∧w'.cell? ⟨N,1,none⟩=some (.string ⟨lv[k].v.tx.toArray⟩)∧w'.cell? ⟨N,2,none⟩=some (.bool lv[k].v.ar)∧w'.cell? ⟨N,3,none⟩=some (.slice lv[k].A lv[k].v.ls.length lv[k].c)) (by kernel_rfl) ⟨c0b,x0,x1,x2,x3⟩ (fun hHeld=>?_)
      refine qai 0 46 (.pointer (some ⟨w.heap.size+1+1,0,none⟩)) rfl rfl (Or.inl ⟨by rfl,?_⟩) hHeld ?_
      ·intro w hSw;(try dsimp only at hSw);obtain⟨h1,h2,h3,h4,h5⟩:=hSw;go_simp
      try simp only [Act.put,sIA,sC0,sCS]
      refine qai 1 47 (.pointer (some ⟨w.heap.size+1+1,0,none⟩)) rfl rfl (Or.inl ⟨by rfl,?_⟩) hHeld ?_
      ·intro w hSw;(try dsimp only at hSw);obtain⟨h1,h2,h3,h4,h5⟩:=hSw;go_simp
      try simp only [Act.put,sIA,sC0,sCS]
      refine qai 2 48 (.pointer (some ⟨w.heap.size+1+1,0,none⟩)) rfl rfl (Or.inl ⟨by rfl,?_⟩) hHeld ?_
      ·intro w hSw;(try dsimp only at hSw);obtain⟨h1,h2,h3,h4,h5⟩:=hSw;go_simp
      try simp only [Act.put,sIA,sC0,sCS]
      refine qai 3 49 (.map (some (w.heap.size+1))) rfl rfl (Or.inl ⟨by rfl,?_⟩) hHeld ?_
      ·intro w hSw;(try dsimp only at hSw);obtain⟨h1,h2,h3,h4,h5⟩:=hSw;go_simp
      try simp only [Act.put,sIA,sC0,sCS]
      refine qai 4 50 (.pointer (some ⟨N,0,none⟩)) rfl rfl (Or.inl ⟨by rfl,?_⟩) hHeld ?_
      ·intro w hSw;(try dsimp only at hSw);obtain⟨h1,h2,h3,h4,h5⟩:=hSw;go_simp
      try simp only [Act.put,sIA,sC0,sCS]
      refine qai 5 51 (.string ⟨lv[k].v.nm.toArray⟩) rfl rfl (Or.inl ⟨by rfl,?_⟩) hHeld ?_
      ·intro w hSw;(try dsimp only at hSw);obtain⟨h1,h2,h3,h4,h5⟩:=hSw;go_simp
      try simp only [Act.put,sIA,sC0,sCS]
      refine qai 6 52 (.agg #[.string ⟨lv[k].v.nm.toArray⟩,.string ⟨lv[k].v.tx.toArray⟩,.bool lv[k].v.ar,.slice lv[k].A lv[k].v.ls.length lv[k].c]) rfl rfl (Or.inl ⟨by rfl,?_⟩) hHeld ?_
      ·intro w hSw;(try dsimp only at hSw);obtain⟨h1,h2,h3,h4,h5⟩:=hSw;go_simp
      try simp only [Act.put,sIA,sC0,sCS]
      refine qai 7 53 (.agg #[.string ⟨lv[k].v.nm.toArray⟩,.string ⟨lv[k].v.tx.toArray⟩,.bool lv[k].v.ar,.slice lv[k].A lv[k].v.ls.length lv[k].c,.bool false,.int .i64 0]) rfl rfl (Or.inl ⟨by rfl,?_⟩) hHeld ?_
      ·intro w hSw;(try dsimp only at hSw);obtain⟨h1,h2,h3,h4,h5⟩:=hSw;go_simp
      try simp only [Act.put,sIA,sC0,sCS]
      refine qae 8 rfl fun K hK=>?_
      refine qg3 _ _ _ _ _ (by rfl) underlying283 (w.heap.size+1) D.length _ (by rfl) (hMb.block rfl) (by unfold maxLen;omega) lv[k].v.nm (cellC lv[k]) (by rfl) (by rfl) (by unfold maxLen;omega) ?_
      intro w5 hM5 hg
      rw [if_pos HU.out.2,qo9 D lv k hlt hm] at hM5;have hne1:w.heap.size+1+1≠w.heap.size+1:=by omega
      have hneN:N≠w.heap.size+1:=by omega
      have hW5:w5.heap[w.heap.size+1+1]?=some (.cells #[.map (some (w.heap.size+1)),.slice none 0 0] 285 (0,0)):=(hg.block _ (lt_of_block hWb) (by simp)).trans hWb
      have hX5:qaF w5 N _ _ _ _:=(hg.block N hXb.lt (by intro e;cases e;exact hneN rfl)).trans hXb
      have hB5:Below w.heap.size w w5:=hBb.drew.grown hg hBb.size (fun j e=>by cases e;omega)
      refine hK.out _ _ ⟨by simp [World.cell?,hW5],hX5.a0,hX5.a1,hX5.a2,hX5.a3⟩ (fun hHeld=>?_)
      clear hK K hX5 hg hMb hBb hWb hXb c0b x0 x1 x2 x3
      try simp only [Act.put]
      refine wpAnyH_done (by kernel_rfl) ?_ _
      clear hHeld;go_wp2_with fail;go_roundw
      case rel=>exact⟨k+1,by omega,by go_num,hB5,hM5,hW5⟩
      case measure=>simp [intOf];omega
    ·obtain rfl:k=lv.length:=by omega
     rw [List.take_length] at hM;go_wp2_with fail;go_ret;refine⟨_,rfl,⟨⟨w.heap.size+1,D.length,.slice none 0 0,qdB D lv,⟨by omega,hW,hM,World.ownsRow_nil _ _ _ _,fun nm hn=>?_⟩,by omega⟩,by omega,HT.out.1,fun nm hn=>?_,by simp,by simp,hDl'⟩,hB⟩
     ·unfold qdB
      rw [if_pos hn];rfl
     ·rcases qus lv nm with h|h
      ·rw [h];exact Nat.zero_le _
      ·exact(hV.2 _ h).2.tx
def R64' (n:Int):Prop:=-9223372036854775808≤n∧n≤9223372036854775807
def qb6 (l:List UInt8):Bool:=l.all fun c=>decide (48≤c.toNat)&&decide (c.toNat≤57)
theorem qfw {c:UInt8} (h:(decide (48≤c.toNat)&&decide (c.toNat≤57))=true):qeP (c.toNat:Int)=c.toNat-48∧c≠32∧c≠9∧c≠45∧c≠43:=by
 simp only [Bool.and_eq_true,decide_eq_true_eq] at h
 refine⟨?_,?_,?_,?_,?_⟩
 ·unfold qeP;rw [if_pos (by omega)]
 all_goals (rintro rfl;revert h;decide)
theorem qgd {l:List UInt8} (h:qb6 l=true):qfC 10 l=true:=by
 unfold qb6 at h;unfold qfC
 rw [List.all_eq_true] at h ⊢;intro c hc
 have h1:=h c hc;have h2:=(qfw h1).1
 simp only [Bool.and_eq_true,decide_eq_true_eq] at h1
 rw [h2];simp;omega
theorem qrk (u:Nat):qd0 u≠[]:=by
 by_cases h:u<10
 ·rw [qb2 h];simp
 ·rw [qcm (by omega)];simp
theorem qei {d:Nat} (h:d<10):(d+48).toUInt8.toNat=d+48:=by rw [Nat.toUInt8_eq,UInt8.toNat_ofNat'];omega
theorem qds (u:Nat):qb6 (qd0 u)=true:=by
 induction u using Nat.strongRecOn with
 |_ u ih=>
  by_cases h:u<10
  ·rw [qb2 h];unfold qb6;rw [List.all_cons,qei h];simp;omega
  ·rw [qcm (by omega)];unfold qb6
   have:=ih (u/10) (by omega)
   unfold qb6 at this;rw [List.all_append,this,List.all_cons,qei (by omega)];simp;omega
theorem quh (u:Nat):qa5 10 0 (qd0 u)=u:=by
 induction u using Nat.strongRecOn with
 |_ u ih=>
  have hd:∀d:Nat,d<10→qeP (((d+48).toUInt8.toNat:Nat):Int)=d:=fun d hd=>by
   have:=(qfw (c:=(d+48).toUInt8) (by rw [qei hd];simp;omega)).1
   rw [this,qei hd];omega
  by_cases h:u<10
  ·rw [qb2 h];show 0*10+qeP _=_;rw [hd u h];omega
  ·rw [qcm (by omega),qgU,ih (u/10) (by omega),hd (u%10) (by omega)];omega
theorem qvk {u:Nat} (h:u≤9223372036854775808):qbr 10 (qd0 u)=((u:Int),true):=by
 unfold qbr;rw [if_pos (qgd (qds u)),quh,qy5 (by omega) (by omega)];have:=qrk u
 cases hx:qd0 u with
 |nil=>exact absurd hx this
 |cons c r=>rfl
def qkZ (c:UInt8):Bool:=[32,9].contains c
theorem qbO {p:UInt8→Bool}:∀{l:List UInt8},(∀c∈l,p c=false)→l.dropWhile p=l
 |[],_=>rfl
 |c::r,h=>by rw [List.dropWhile_cons,if_neg (by rw [h c (by simp)];decide)]
theorem qfZ {l:List UInt8} (h:∀c∈l,qkZ c=false):Lib.trimS l [32,9]=l:=by
 have h1:l.reverse.dropWhile qkZ=l.reverse:=qbO fun c hc=>h c (by simpa using hc)
 unfold Lib.trimS Lib.trimLeftS Lib.trimRightS;rw [show(fun c=>[32,9].contains c:UInt8→Bool)=qkZ from rfl,h1,List.reverse_reverse];exact qbO h
theorem qdD {l:List UInt8} (h:qb6 l=true):∀c∈l,qkZ c=false:=fun c hc=>by
 have h1:=List.all_eq_true.1 h c hc;have h2:=qfw h1;unfold qkZ;simp [h2.2.1,h2.2.2.1]
theorem qrj (u:Nat) (hu:1≤u):∃c r,qd0 u=c::r∧c≠48:=by
 induction u using Nat.strongRecOn with
 |_ u ih=>
  by_cases h:u<10
  ·refine⟨_,_,qb2 h,fun e=>?_⟩
   have:=congrArg UInt8.toNat e
   rw [qei h] at this;simp at this
   omega
  ·obtain⟨c,r,e,hc⟩:=ih (u/10) (by omega) (by omega)
   exact⟨c,r++[(u%10+48).toUInt8],by rw [qcm (by omega),e];rfl,hc⟩
theorem qtl (u:Nat):qaR (qd0 u)=(qd0 u,10):=by
 by_cases h:u<10
 ·rw [qb2 h];rfl
 ·obtain⟨c,r,e,hc⟩:=qrj u (by omega)
  rw [e];cases r with
  |nil=>rfl
  |cons d r=>rw [qaR,if_neg hc]
theorem qsa {u:Nat} (h:u≤9223372036854775808):qqM (qd0 u)=.ok (wrap64 u):=by
 have:qlD (qd0 u)=(wrap64 u,0):=by
  unfold qlD;rw [qtl,qvk h];rfl
 unfold qqM;rw [this];rfl
theorem qow (c:UInt8) (l:List UInt8):Lib.hasPrefix (c::l) [c]=true:=by simp [Lib.hasPrefix]
theorem qel {c d:UInt8} (h:c≠d) (l:List UInt8):Lib.hasPrefix (c::l) [d]=false:=by
 show(d==c&&List.isPrefixOf [] l)=false
 rw [show(d==c)=false by simpa using Ne.symm h];rfl
theorem qek {l:List UInt8} (h:qb6 l=true) (d:UInt8) (hd:d=45∨d=43):Lib.hasPrefix l [d]=false:=by
 cases l with
 |nil=>rfl
 |cons c r=>
  have h1:=List.all_eq_true.1 h c (by simp)
  have h2:=qfw h1;rcases hd with rfl|rfl
  ·exact qel h2.2.2.2.1 r
  ·exact qel h2.2.2.2.2 r
theorem qmp (c:UInt8) (l:List UInt8):Lib.trimPrefix (c::l) [c]=l:=by unfold Lib.trimPrefix;rw [if_pos (qow c l)];rfl
theorem qgz {l p:List UInt8} (h:Lib.hasPrefix l p=false):Lib.trimPrefix l p=l:=by unfold Lib.trimPrefix;rw [h];rfl
theorem qaQ {n:Int} (h0:-9223372036854775808≤n) (h1:n≤9223372036854775807):(qaw n).length≤20:=by
 have h:∀(k u:Nat),u<10^(k+1)→(qd0 u).length≤k+1:=fun k=>by
  induction k with
  |zero=>intro u hu;rw [qb2 (by simpa using hu)];simp
  |succ k ih=>
   intro u hu
   by_cases h:u<10
   ·rw [qb2 h];simp
   ·rw [qcm (by omega),List.length_append,List.length_singleton]
    have:=ih (u/10) (by rw [Nat.pow_succ] at hu;omega)
    omega
 have:=h 18 n.natAbs (by omega)
 unfold qaw;split
 ·rw [List.length_cons];omega
 ·omega
theorem qjI (nm:List UInt8) (ls:List (List UInt8)) {n:Int} (h:R64' n):qfn ⟨nm,qaw n,false,ls⟩=.ok n:=by
 obtain⟨h0,h1⟩:=h;unfold qfn;rw [if_neg (by simp)]
 dsimp only
 by_cases hn:n<0
 ·have hp:qaw n=45::qd0 n.natAbs:=by unfold qaw;rw [if_pos hn]
  have ht:Lib.trimS (45::qd0 n.natAbs) [32,9]=45::qd0 n.natAbs:=qfZ fun c hc=>by
   rcases List.mem_cons.1 hc with rfl|hc
   ·decide
   ·exact qdD (qds _) c hc
  rw [hp,if_neg (by simp),ht,qow,if_pos rfl,qmp,qsa (by omega)];show Except.ok (wrap64 (-(wrap64 (n.natAbs:Int))))=_
  congr 1
  unfold wrap64;omega
 ·have hp:qaw n=qd0 n.natAbs:=by unfold qaw;rw [if_neg hn]
  rw [hp,if_neg (qrk _),qfZ (qdD (qds _)),qek (qds _) 45 (.inl rfl),if_neg (by simp),qgz (qek (qds _) 45 (.inl rfl)),qsa (by omega)]
  congr 1
  unfold wrap64;omega
theorem qjo:∀(s:Asg),(s.map Prod.fst).Nodup→∀k (hk:k<s.length),s.lookup s[k].1=some s[k].2
 |[],_,k,hk=>absurd hk (Nat.not_lt_zero _)
 |(a,b)::r,_,0,_=>by simp
 |(a,b)::r,h,k+1,hk=>by
  rw [List.map_cons,List.nodup_cons] at h;have hk':k<r.length:=by simpa using hk
  have hne:(r[k].1==a)=false:=by
   have:r[k].1≠a:=fun e=>h.1 (List.mem_map.2 ⟨r[k],List.getElem_mem hk',e⟩)
   simpa using this
  rw [List.getElem_cons_succ,List.lookup_cons,hne];exact qjo r h.2 k hk'
def qcx (p:List UInt8×Int):VI:=⟨⟨p.1,qaw p.2,false,[]⟩,none,0⟩
theorem quH (s:Asg):(s.map qcx).map (·.v)=qn8 s:=by
 unfold qn8;rw [List.map_map];rfl
theorem qrL (N B:Nat) (D:List (List UInt8)) (env:qjN) (s:Asg) (w:World) (h:WorkAt w N B D env s) (hs:qtP s) (hbig:s.length*64≤140737488355328):
  Calls prog 244 #[.pointer (some ⟨B,0,none⟩)] w fun e w'=>∃A c,e=.returned (.slice A (s.map qcx).length c)∧qbN w' (fun g=>w.heap.size≤g) A (s.map qcx)∧Below w.heap.size w w':=by
 obtain⟨m,cnt,v0,f,⟨h1,h2,h3,h4,h5⟩,hc⟩:=h.ex;have b0:w.cell? ⟨B,0,none⟩=some (.map (some m)):=by simp [World.cell?,h2]
 obtain⟨ao,n',cap,rfl⟩:=qcp h4;have hn':n'=s.length:=by
  rcases h4.2 with ⟨hv,h0⟩|⟨g',cap',cur,hv,_⟩
  ·cases hv;omega
  ·cases hv;rfl
 subst hn';have b1:w.cell? ⟨B,1,none⟩=some (.slice ao s.length cap):=by simp [World.cell?,h2]
 have hT:qat w (PS w N) ao (s.map Prod.fst):=qat.of_own (n:=s.length) (c:=cap) (by rw [List.map_map];exact h4)
 obtain⟨i0,hi,hz0,hz1,hz2⟩:=info_parts qoe;have hls:=qjo s h.nodup;have hfn:∀k (hk:k<s.length),f s[k].1=some (qq7 s[k].2):=fun k hk=>by
  rw [h5 _ (h.sub _ (List.getElem_mem hk))];unfold cellOf;rw [hls k hk]
 have hnl:∀k (hk:k<s.length),s[k].1.length≤140737488355328:=fun k hk=>h.names _ (h.sub _ (List.getElem_mem hk))
 have hr:∀k (hk:k<s.length),R64 s[k].2:=fun k hk=>hs _ (List.getElem_mem hk)
 have hfs2:=qry;clear h h2 h4 h5 hls hs;go_enter func244,ntmps244;go_wp2_with fail;go_loopw [3,11] (fun v i wr=>∃k:Nat,k≤s.length∧i=.int .i64 k∧Below w.heap.size w wr∧wr.ownsRow w.heap.size 210 4 v k (((s.map qcx).take k).flatMap qaq)∧∃a n c,v=.slice a n c) (fun _ i _=>s.length-(intOf i).toNat)
 case atStart=>exact⟨0,Nat.zero_le _,rfl,Below.refl _ _,World.ownsRow_nil _ _ _ _,_,_,_,rfl⟩
 case round=>
  obtain⟨k,hk,rfl,hB,hrow,a0,n0,c0,rfl⟩:=hrel;by_cases hlt:k<s.length
  ·obtain⟨g,o,rfl,-,hcx⟩:=hT k (by simpa using hlt)
   rw [List.getElem_map] at hcx;have hcx:=cell_below hB hcx;have b0':=cell_below hB b0
   have h3':=h3.block (hB.block _ h3.lt)
   have hfk:=hfn k hlt;have hnk:=hnl k hlt;have cP:=fun W=>qbR s[k].2 (hr k hlt).1 (hr k hlt).2 W
   have HT:Hid (((s.map qcx).take k).flatMap qaq++qaq (qcx s[k])=((s.map qcx).take (k+1)).flatMap qaq):=hid (by
    rw [List.take_succ_eq_append_getElem (by simpa using hlt),List.getElem_map,List.flatMap_append];simp)
   obtain⟨q,hq⟩:=qQ (s[k])
   rw [hq] at hcx hfk hnk cP HT;obtain⟨nm,n⟩:=q
   dsimp only at hcx hfk hnk cP
   clear hq hT hfn hnl hr b0 b1 h3;go_wp2_with (first
    |(at_lookup;refine qbq rfl _ _ _ _ false rfl underlying283 qkM (qf7 _) m cnt f rfl h3' nm rfl (by unfold maxLen;omega) ?_;rw [hfk];unfold qq7;simp only [Option.getD_some,Bool.false_eq_true,if_false])
    |(go_at_call 92;(with_reducible refine(cP _).mono ?_);rintro e w6 ⟨rfl,hb6⟩;have hB6:=qT hB hb6;have hrow6:=own_below hrow hb6)
    |(at_builtin;refine wpList_append_own _ rfl _ _ 206 rfl w.heap.size 210 i0 _ 4 64 underlying206 hi hz0 hz1 hz2 rfl (by decide) _ _ _ rfl (hrow6.alloc _) ⟨w6.heap.size,0,none⟩ 1 1 (qaq (qcx (nm,n))) rfl rfl ?c1 ?c2 ?c3 ?c4 ?c5 ?_))
   case c1=>exact World.news_of_block (heap_alloc_new w6 _)
   case c2=>simp [qaq,Value.oneCell']
   case c3=>unfold maxLen;omega
   case c4=>omega
   case c5=>have:=hB6.size;simp;omega
   intro v' w7 hown7 hg _
   obtain⟨g',cap',rfl⟩:=ownsRow_succ hown7;have hB7:Below w.heap.size w w7:=(hB6.alloc hB6.size _).grown hg (by have:=hB6.size;simp;omega) (fun j e=>(hrow6.lt j e).1)
   rw [HT.out] at hown7;have HF:=hid (And.intro hB7 hown7)
   clear hown7 hg hB7 hrow6 hrow hB6 hb6;go_wp2_with fail;go_roundw
   case rel=>exact⟨k+1,by omega,by go_num,HF.out.1,HF.out.2,_,_,_,rfl⟩
   case measure=>simp [intOf];omega
  ·obtain rfl:k=s.length:=by omega
   have hn':n0=s.length:=by
    rcases hrow.2 with ⟨hv,h0⟩|⟨g',cap',cur,hv,_⟩
    ·cases hv;omega
    ·cases hv;rfl
   subst hn';rw [List.take_of_length_le (by simp)] at hrow;have hl:(s.map qcx).length=s.length:=by simp
   have hVP:qbN wr (fun g=>w.heap.size≤g) a0 (s.map qcx):=qiH (N:=w.heap.size) (c:=c0) (by rw [hl];exact hrow) (fun y hy=>by
    obtain⟨p,hp,rfl⟩:=List.mem_map.1 hy;obtain⟨k,hk,rfl⟩:=List.getElem_of_mem hp;refine⟨fun k hk=>absurd hk (Nat.not_lt_zero _),⟨hnl k hk,?_,by simp [qcx],by simp [qcx]⟩⟩
    have:=qaQ (hr k hk).1 (hr k hk).2
    simp only [qcx]
    omega)
   have HV:=hid (And.intro hVP hB)
   rw [← hl];clear hVP hB hrow hT hfn;go_wp2_with fail;go_ret;exact⟨_,_,rfl,HV.out.1,HV.out.2⟩
theorem qqQ (t:G) (A:Option Addr) (c:Nat) (w:World) (hT:GAt w A c t):
  Calls prog 263 #[.agg #[g0 t,g1 t,g2 t,.slice A (qaD t) c]] w fun e w'=>e=.returned (.int .i64 (min 1000 (gH t):Nat))∧Below w.heap.size w w':=by
 have hX:qdY (w.alloc (.cells #[g0 t,g1 t,g2 t,.slice A (qaD t) c] 205)) w.heap.size (g0 t) (g1 t) (g2 t) (.slice A (qaD t) c):=heap_alloc_new _ _
 have hal:Below w.heap.size w (w.alloc (.cells #[g0 t,g1 t,g2 t,.slice A (qaD t) c] 205)):=(Below.refl _ _).alloc (Nat.le_refl _) _
 have cD:=qrn (SizeOf.sizeOf t) t rfl A c 1000 _ (hT.later hal) (by omega) (by omega)
 rw [show((1000:Nat):Int)=1000 from rfl] at cD;have x0:=hX.a0;have x1:=hX.a1;have x2:=hX.a2;have x3:=hX.a3
 generalize hm:min 1000 (gH t)=m at *;go_enter func263,ntmps263;go_wp2_with (go_at_call 285;(with_reducible refine cD.mono ?_);rintro e w3 ⟨rfl,hb3⟩)
 go_ret;exact⟨rfl,qT hal hb3⟩
def qfh (n:Int):Int:=if n=3 then 3 else if n=15∨n=16 then 1 else if n=17 then 0 else 2
theorem qp1 (n:Int) (w:World):Calls prog 289 #[.int .i64 n] w fun e w'=>e=.returned (.int .i64 (qfh n))∧w=w':=by
 by_cases h1:n=3
 ·subst h1
  go_enter func289,ntmps289;go_wp2;go_ret;exact⟨rfl,rfl⟩
 by_cases h2:n=15
 ·subst h2
  go_enter func289,ntmps289;go_wp2;go_ret;exact⟨rfl,rfl⟩
 by_cases h3:n=16
 ·subst h3
  go_enter func289,ntmps289;go_wp2;go_ret;exact⟨rfl,rfl⟩
 by_cases h4:n=17
 ·subst h4
  go_enter func289,ntmps289;go_wp2;go_ret;exact⟨rfl,rfl⟩
 have g1:(n==3)=false:=by simpa using h1
 have g2:(n==15)=false:=by simpa using h2
 have g3:(n==16)=false:=by simpa using h3
 have g4:(n==17)=false:=by simpa using h4
 have HV:Hid (qfh n=2):=hid (by unfold qfh;rw [if_neg h1,if_neg (by simp [h2,h3]),if_neg h4])
 clear h1 h2 h3 h4;go_enter func289,ntmps289;go_wp2;go_ret;exact⟨by rw [HV.out];rfl,rfl⟩
theorem qtn (op:List UInt8) (w:World):Calls prog 306 #[.string ⟨op.toArray⟩] w fun e w'=>e=.returned (.bool (qe2 op))∧w=w':=by
 have HE:Hid (qe2 op=(op==[112,114,101,43,43]||op==[112,114,101,45,45]||op==[112,111,115,116,43,43]||op==[112,111,115,116,45,45])):=hid rfl
 cases h1:(op==[112,114,101,43,43])<;>cases h2:(op==[112,114,101,45,45])<;>cases h3:(op==[112,111,115,116,43,43])<;>cases h4:(op==[112,111,115,116,45,45])
 all_goals
  rw [h1,h2,h3,h4] at HE;go_enter func306,ntmps306;go_wp2;go_ret;exact⟨by rw [HE.out];rfl,rfl⟩
theorem qlA {op:List UInt8} (h:op∉known):levL op=0:=by
 have hk:op∉qlz.map Prod.fst:=fun e=>h (by unfold known;exact List.mem_append_left _ e)
 unfold levL;cases hl:qlz.lookup op with
 |none=>rfl
 |some n=>
  exfalso
  apply hk
  have:∀(l:List (List UInt8×Int)),l.lookup op=some n→op∈l.map Prod.fst:=by
   intro l
   induction l with
   |nil=>intro h;cases h
   |cons a r ih=>
    intro h
    obtain⟨k,v⟩:=a;rw [List.lookup_cons] at h;split at h
    ·rename_i e
     have:op=k:=by simpa using e
     rw [this];simp
    ·rw [List.map_cons]
     exact List.mem_cons_of_mem _ (ih h)
  exact this _ hl
theorem qh6 (op:List UInt8) (w:World):Calls prog 288 #[.string ⟨op.toArray⟩] w fun e w'=>e=.returned (.int .i64 (levL op))∧w=w':=by
 by_cases hk:op∈known
 ·exact qm0 op hk w
 ·have HV:=hid (qlA hk)
  have n0:(op==[])=false:=by rw [beq_eq_false_iff_ne];rintro rfl;exact hk (by decide)
  have n1:(op==[44])=false:=by rw [beq_eq_false_iff_ne];rintro rfl;exact hk (by decide)
  have n2:(op==[61])=false:=by rw [beq_eq_false_iff_ne];rintro rfl;exact hk (by decide)
  have n3:(op==[42,61])=false:=by rw [beq_eq_false_iff_ne];rintro rfl;exact hk (by decide)
  have n4:(op==[47,61])=false:=by rw [beq_eq_false_iff_ne];rintro rfl;exact hk (by decide)
  have n5:(op==[37,61])=false:=by rw [beq_eq_false_iff_ne];rintro rfl;exact hk (by decide)
  have n6:(op==[43,61])=false:=by rw [beq_eq_false_iff_ne];rintro rfl;exact hk (by decide)
  have n7:(op==[45,61])=false:=by rw [beq_eq_false_iff_ne];rintro rfl;exact hk (by decide)
  have n8:(op==[60,60,61])=false:=by rw [beq_eq_false_iff_ne];rintro rfl;exact hk (by decide)
  have n9:(op==[62,62,61])=false:=by rw [beq_eq_false_iff_ne];rintro rfl;exact hk (by decide)
  have n10:(op==[38,61])=false:=by rw [beq_eq_false_iff_ne];rintro rfl;exact hk (by decide)
  have n11:(op==[94,61])=false:=by rw [beq_eq_false_iff_ne];rintro rfl;exact hk (by decide)
  have n12:(op==[124,61])=false:=by rw [beq_eq_false_iff_ne];rintro rfl;exact hk (by decide)
  have n13:(op==[63,58])=false:=by rw [beq_eq_false_iff_ne];rintro rfl;exact hk (by decide)
  have n14:(op==[124,124])=false:=by rw [beq_eq_false_iff_ne];rintro rfl;exact hk (by decide)
  have n15:(op==[38,38])=false:=by rw [beq_eq_false_iff_ne];rintro rfl;exact hk (by decide)
  have n16:(op==[124])=false:=by rw [beq_eq_false_iff_ne];rintro rfl;exact hk (by decide)
  have n17:(op==[94])=false:=by rw [beq_eq_false_iff_ne];rintro rfl;exact hk (by decide)
  have n18:(op==[38])=false:=by rw [beq_eq_false_iff_ne];rintro rfl;exact hk (by decide)
  have n19:(op==[61,61])=false:=by rw [beq_eq_false_iff_ne];rintro rfl;exact hk (by decide)
  have n20:(op==[33,61])=false:=by rw [beq_eq_false_iff_ne];rintro rfl;exact hk (by decide)
  have n21:(op==[60])=false:=by rw [beq_eq_false_iff_ne];rintro rfl;exact hk (by decide)
  have n22:(op==[60,61])=false:=by rw [beq_eq_false_iff_ne];rintro rfl;exact hk (by decide)
  have n23:(op==[62])=false:=by rw [beq_eq_false_iff_ne];rintro rfl;exact hk (by decide)
  have n24:(op==[62,61])=false:=by rw [beq_eq_false_iff_ne];rintro rfl;exact hk (by decide)
  have n25:(op==[60,60])=false:=by rw [beq_eq_false_iff_ne];rintro rfl;exact hk (by decide)
  have n26:(op==[62,62])=false:=by rw [beq_eq_false_iff_ne];rintro rfl;exact hk (by decide)
  have n27:(op==[43])=false:=by rw [beq_eq_false_iff_ne];rintro rfl;exact hk (by decide)
  have n28:(op==[45])=false:=by rw [beq_eq_false_iff_ne];rintro rfl;exact hk (by decide)
  have n29:(op==[42])=false:=by rw [beq_eq_false_iff_ne];rintro rfl;exact hk (by decide)
  have n30:(op==[47])=false:=by rw [beq_eq_false_iff_ne];rintro rfl;exact hk (by decide)
  have n31:(op==[37])=false:=by rw [beq_eq_false_iff_ne];rintro rfl;exact hk (by decide)
  have n32:(op==[42,42])=false:=by rw [beq_eq_false_iff_ne];rintro rfl;exact hk (by decide)
  have n33:(op==[33])=false:=by rw [beq_eq_false_iff_ne];rintro rfl;exact hk (by decide)
  have n34:(op==[126])=false:=by rw [beq_eq_false_iff_ne];rintro rfl;exact hk (by decide)
  have n35:(op==[110,101,103])=false:=by rw [beq_eq_false_iff_ne];rintro rfl;exact hk (by decide)
  have n36:(op==[112,114,101,43,43])=false:=by rw [beq_eq_false_iff_ne];rintro rfl;exact hk (by decide)
  have n37:(op==[112,114,101,45,45])=false:=by rw [beq_eq_false_iff_ne];rintro rfl;exact hk (by decide)
  have n38:(op==[112,111,115,116,43,43])=false:=by rw [beq_eq_false_iff_ne];rintro rfl;exact hk (by decide)
  have n39:(op==[112,111,115,116,45,45])=false:=by rw [beq_eq_false_iff_ne];rintro rfl;exact hk (by decide)
  clear hk;go_enter func288,ntmps288;go_wp2;go_ret;exact⟨by rw [HV.out];rfl,rfl⟩
theorem qr7 (op:List UInt8):0≤levL op∧levL op≤17:=by
 by_cases hk:op∈known
 ·have h:∀m∈known,0≤levL m∧levL m≤17:=by decide +kernel
  exact h op hk
 ·rw [qlA hk];decide
def qev (op:List UInt8):Bool:=qe2 op||levL op==2
theorem qqF (op:List UInt8) (w:World):Calls prog 290 #[.string ⟨op.toArray⟩] w fun e w'=>e=.returned (.bool (qev op))∧w=w':=by
 have cS:=fun W=>qtn op W
 have cL:=fun W=>qh6 op W
 unfold qev;generalize qe2 op=b at *;generalize levL op=n at *;cases b
 ·go_enter func290,ntmps290
  go_wp2_with (first|(go_at_call 306;(with_reducible refine(cS _).mono ?_);rintro e w' ⟨rfl,rfl⟩)|(go_at_call 288;(with_reducible refine(cL _).mono ?_);rintro e w' ⟨rfl,rfl⟩))
  go_ret;exact⟨rfl,rfl⟩
 ·go_enter func290,ntmps290
  go_wp2_with (first|(go_at_call 306;(with_reducible refine(cS _).mono ?_);rintro e w' ⟨rfl,rfl⟩)|(go_at_call 288;(with_reducible refine(cL _).mono ?_);rintro e w' ⟨rfl,rfl⟩))
  go_ret;exact⟨rfl,rfl⟩
def qtV (t:G):Bool:=gOp t==[]&&!(gNm t==[])
def qyf (t:G):Bool:=match qan t with|[]=>false|k::_=>qtV k
def qdF (t:G):Bool:=
 if levL (gOp t)=0 then false
 else if(qaD t:Int)≠qfh (levL (gOp t)) then false
 else if levL (gOp t)<17 then gNm t==[]&&gN t==0&&(!qev (gOp t)||qyf t)
 else if qtV t then gN t==0&&qid (gNm t) else decide (0≤gN t)
theorem qmR (t:G) (hl:(gNm t).length≤9223372036854775807) (A:Option Addr) (c:Nat) (w:World) (hT:GAt w A c t):
  Calls prog 266 #[.agg #[g0 t,g1 t,g2 t,.slice A (qaD t) c]] w fun e w'=>e=.returned (.bool (qdF t))∧Below w.heap.size w w':=by
 have hX:qdY (w.alloc (.cells #[g0 t,g1 t,g2 t,.slice A (qaD t) c] 205)) w.heap.size (g0 t) (g1 t) (g2 t) (.slice A (qaD t) c):=heap_alloc_new _ _
 have hal:Below w.heap.size w (w.alloc (.cells #[g0 t,g1 t,g2 t,.slice A (qaD t) c] 205)):=(Below.refl _ _).alloc (Nat.le_refl _) _
 have HF:Hid (qdF t=if levL (gOp t)=0 then false else if(qaD t:Int)≠qfh (levL (gOp t)) then false else if levL (gOp t)<17 then gNm t==[]&&gN t==0&&(!qev (gOp t)||qyf t) else if qtV t then gN t==0&&qid (gNm t) else decide (0≤gN t)):=hid rfl
 have cL:=fun W=>qh6 (gOp t) W
 have hr:=qr7 (gOp t)
 have hT0:=hT.later hal;have x0:=hX.a0;have x1:=hX.a1;have x2:=hX.a2;have x3:=hX.a3
 obtain⟨n,hn⟩:=qQ (levL (gOp t))
 rw [hn] at cL HF hr;have cK:=fun W=>qp1 n W
 by_cases h0:n=0
 ·rw [if_pos h0] at HF
  subst h0;clear cK hr;go_enter func266,ntmps266;generalize hw0:w.alloc (.cells #[g0 t,g1 t,g2 t,.slice A (qaD t) c] 205)=w0 at *;go_wp2_with (go_at_call 288;(with_reducible refine(cL _).mono ?_);rintro e w' ⟨rfl,rfl⟩)
  go_quiet (fail)
  go_wp2_with fail;go_ret;exact⟨by rw [HF.out];rfl,below_drewN hal _⟩
 rw [if_neg h0] at HF;have gn0:(n==0)=false:=by simpa using h0
 obtain⟨kn,hkn⟩:∃k,qfh n=k:=⟨_,rfl⟩
 rw [hkn] at cK HF;by_cases hlen:(qaD t:Int)=kn
 rotate_left
 ·rw [if_pos hlen] at HF
  have gl:((qaD t:Int) !=kn)=true:=by simpa using hlen
  clear hlen h0 hr;go_enter func266,ntmps266;generalize hw0:w.alloc (.cells #[g0 t,g1 t,g2 t,.slice A (qaD t) c] 205)=w0 at *;go_wp2_with (go_at_call 288;(with_reducible refine(cL _).mono ?_);rintro e w' ⟨rfl,rfl⟩)
  go_quiet ((go_at_call 289;exact Calls.quiet_of_same ((cK _).mono fun _ _ h=>⟨h.1,h.2.symm⟩)))
  go_wp2_with fail;go_ret;exact⟨by rw [HF.out];rfl,below_drewN hal _⟩
 rw [if_neg (by simpa using hlen)] at HF;have gl:((qaD t:Int) !=kn)=false:=by simpa using hlen
 by_cases h17:n<17
 ·rw [if_pos h17] at HF
  have cW:=fun W=>qqF (gOp t) W
  cases e1:(gNm t==[])
  ·rw [e1] at HF
   have HF:Hid (qdF t=false):=hid (by rw [HF.out];rfl)
   clear hlen h0 hn hkn;go_enter func266,ntmps266;generalize hw0:w.alloc (.cells #[g0 t,g1 t,g2 t,.slice A (qaD t) c] 205)=w0 at *;go_wp2_with (go_at_call 288;(with_reducible refine(cL _).mono ?_);rintro e w' ⟨rfl,rfl⟩)
   go_quiet ((go_at_call 289;exact Calls.quiet_of_same ((cK _).mono fun _ _ h=>⟨h.1,h.2.symm⟩)))
   go_wp2_with fail;go_ret;exact⟨by rw [HF.out];rfl,below_drewN hal _⟩
  rw [e1] at HF;cases e2:(gN t==0)
  ·rw [e2] at HF
   have HF:Hid (qdF t=false):=hid (by rw [HF.out];rfl)
   clear hlen h0 hn hkn;go_enter func266,ntmps266;generalize hw0:w.alloc (.cells #[g0 t,g1 t,g2 t,.slice A (qaD t) c] 205)=w0 at *;go_wp2_with (go_at_call 288;(with_reducible refine(cL _).mono ?_);rintro e w' ⟨rfl,rfl⟩)
   go_quiet ((go_at_call 289;exact Calls.quiet_of_same ((cK _).mono fun _ _ h=>⟨h.1,h.2.symm⟩)))
   go_wp2_with fail;go_ret;exact⟨by rw [HF.out];rfl,below_drewN hal _⟩
  rw [e2] at HF;cases e3:qev (gOp t)
  ·rw [e3] at HF cW
   have HF:Hid (qdF t=true):=hid (by rw [HF.out];rfl)
   clear hlen h0 hn hkn;go_enter func266,ntmps266;generalize hw0:w.alloc (.cells #[g0 t,g1 t,g2 t,.slice A (qaD t) c] 205)=w0 at *;go_wp2_with (go_at_call 288;(with_reducible refine(cL _).mono ?_);rintro e w' ⟨rfl,rfl⟩)
   go_quiet ((go_at_call 289;exact Calls.quiet_of_same ((cK _).mono fun _ _ h=>⟨h.1,h.2.symm⟩)))
   go_wp2_with (go_at_call 290;(with_reducible refine(cW _).mono ?_);rintro e w' ⟨rfl,rfl⟩)
   go_ret;exact⟨by rw [HF.out];rfl,below_drewN hal _⟩
  rw [e3] at HF cW;have HF:Hid (qdF t=qyf t):=hid (by rw [HF.out];simp)
  have hpos:0<(qan t).length:=by
   have h1:1≤kn:=by
    rw [← hkn];unfold qfh
    split
    ·decide
    ·split
     ·decide
     ·split
      ·omega
      ·decide
   have h2:(1:Int)≤(qaD t:Int):=by omega
   show 0<qaD t
   omega
  obtain⟨g,o,A1,k1,rfl,d0,d1,d2,d3,-⟩:=hT0.kid 0 hpos;have HV0:Hid (qyf t=qtV (qan t)[0]):=hid (by
   unfold qyf;split
   ·rename_i he
    simp [he] at hpos
   ·rename_i he
    simp [he])
  have cV:=fun W=>qf1 (gOp (qan t)[0]) (gNm (qan t)[0]) (gN (qan t)[0]) A1 (qaD (qan t)[0]) k1 W
  have hl0:(0:Int)<(qaD t:Int):=by show(0:Int)<((qan t).length:Int);omega
  simp only [Nat.zero_mul,Nat.add_zero] at d0 d1 d2 d3
  have HVB:Hid ((gOp (qan t)[0]==[]&&!(gNm (qan t)[0]==[]))=qtV (qan t)[0]):=hid rfl
  rw [HVB.out] at cV;generalize (qan t)[0]=k0 at *;generalize qtV k0=vb at *;clear hlen h0 hn hkn hpos hT hT0 HVB;go_enter func266,ntmps266;generalize hw0:w.alloc (.cells #[g0 t,g1 t,g2 t,.slice (some ⟨g,o,none⟩) (qaD t) c] 205)=w0 at *;go_wp2_with (go_at_call 288;(with_reducible refine(cL _).mono ?_);rintro e w' ⟨rfl,rfl⟩)
  go_quiet ((go_at_call 289;exact Calls.quiet_of_same ((cK _).mono fun _ _ h=>⟨h.1,h.2.symm⟩)))
  go_wp2_with (first|(go_at_call 290;(with_reducible refine(cW _).mono ?_);rintro e w' ⟨rfl,rfl⟩)|(go_at_call 291;(with_reducible refine(cV _).mono ?_);rintro e w3 ⟨rfl,hbv⟩))
  go_ret;exact⟨by rw [HF.out,HV0.out];rfl,(below_drewN hal _).trans (hbv.mono hal.size)⟩
 ·rw [if_neg h17] at HF
  have cV:=fun W=>qf1 (gOp t) (gNm t) (gN t) A (qaD t) c W
  have cN:=fun W=>qu2 ⟨(gNm t).toArray⟩ W (by rw [qfU];unfold maxLen;omega)
  rw [show(⟨(gNm t).toArray⟩:ByteArray).data.toList=gNm t from by simp] at cN;have HVB:Hid ((gOp t==[]&&!(gNm t==[]))=qtV t):=hid rfl
  rw [HVB.out] at cV;have g17:decide (n<17)=false:=decide_eq_false h17
  cases e1:qtV t
  ·rw [e1] at HF cV
   have HF:Hid (qdF t=decide (0≤gN t)):=hid (by rw [HF.out];rfl)
   clear hlen h0 hn hkn h17 HVB cN;go_enter func266,ntmps266;generalize hw0:w.alloc (.cells #[g0 t,g1 t,g2 t,.slice A (qaD t) c] 205)=w0 at *;go_wp2_with (go_at_call 288;(with_reducible refine(cL _).mono ?_);rintro e w' ⟨rfl,rfl⟩)
   go_quiet ((go_at_call 289;exact Calls.quiet_of_same ((cK _).mono fun _ _ h=>⟨h.1,h.2.symm⟩)))
   go_wp2_with fail;refine(cV _).mono ?_;rintro e w3⟨rfl,hbv⟩;have y2:=(hX.below (show Below w0.heap.size w0 w3 from⟨hbv.os,hbv.tape,hbv.output,hbv.size,hbv.block⟩)).a2
   go_wp2_with fail;go_ret;exact⟨by rw [HF.out];rfl,(below_drewN hal _).trans (hbv.mono hal.size)⟩
  ·rw [e1] at HF cV
   have HG:Hid (qdF t=(gN t==0&&qid (gNm t))):=hid (by rw [HF.out];rfl)
   clear HF;clear hlen h0 hn hkn h17 HVB;generalize qid (gNm t)=nb at *;cases e2:(gN t==0)
   all_goals
    rw [e2] at HG;go_enter func266,ntmps266;generalize hw0:w.alloc (.cells #[g0 t,g1 t,g2 t,.slice A (qaD t) c] 205)=w0 at *;go_wp2_with (go_at_call 288;(with_reducible refine(cL _).mono ?_);rintro e w' ⟨rfl,rfl⟩)
    go_quiet ((go_at_call 289;exact Calls.quiet_of_same ((cK _).mono fun _ _ h=>⟨h.1,h.2.symm⟩)))
    go_wp2_with fail;refine(cV _).mono ?_;rintro e w3⟨rfl,hbv⟩;have hX3:=hX.below (show Below w0.heap.size w0 w3 from⟨hbv.os,hbv.tape,hbv.output,hbv.size,hbv.block⟩)
    have y1:=hX3.a1;have y2:=hX3.a2;go_wp2_with (go_at_call 292;(with_reducible refine(cN _).mono ?_);rintro e w' ⟨rfl,rfl⟩)
    go_ret;exact⟨by rw [HG.out];rfl,(below_drewN hal _).trans (hbv.mono hal.size)⟩
def qiS (p:G→Bool):G→Bool
 |.node op nm n kids=>p (.node op nm n kids)||kids.attach.any fun k=>qiS p k.1
termination_by t=>SizeOf.sizeOf t
decreasing_by
 have:=List.sizeOf_lt_of_mem k.2
 simp
 omega
theorem qho (p:G→Bool) (t:G):qiS p t=(p t||(qan t).any (qiS p)):=by
 cases t with
 |node op nm n kids=>
  rw [qiS];simp [qan]
theorem quJ (f:G→Bool) (g:Nat) (lb:Array Value) (eg:∀args w,(callFunc g args).run prog w=.ok (.enter g args) w) (t:G) (A:Option Addr) (c:Nat) (w:World) (hT:GAt w A c t)
  (hp:∀(k:Nat) (h:k<(qan t).length) (W:World) (A1:Option Addr) (k1:Nat),Below w.heap.size w W→GAt W A1 k1 (qan t)[k]→Calls prog g (#[.agg #[g0 (qan t)[k],g1 (qan t)[k],g2 (qan t)[k],.slice A1 (qaD (qan t)[k]) k1]]++lb) W fun e w'=>e=.returned (.bool (f (qan t)[k]))∧Below W.heap.size W w'):
  Calls prog 305 #[.slice A (qaD t) c,.func (.func g) #[] lb] w fun e w'=>∃r:Int,e=.returned (.int .i64 r)∧decide (0≤r)=(qan t).any f∧Below w.heap.size w w':=by
 have hl3:=hT.len;have hl4:(qaD t:Int)≤281474976710656:=by omega
 go_enter func305,ntmps305;go_wp2;go_loopw [8] (fun i wr=>∃k:Nat,k≤qaD t∧i=.int .i64 k∧Below w.heap.size w wr∧Hid ((qan t).any f=((qan t).drop k).any f)) (fun i _=>qaD t-(intOf i).toNat)
 case atStart=>exact⟨0,Nat.zero_le _,rfl,Below.refl _ _,hid rfl⟩
 case round=>
  obtain⟨k,hk,rfl,hB,HE⟩:=hrel;by_cases hlt:k<qaD t
  ·have hlt':k<(qan t).length:=hlt
   have hTr:=hT.later hB;obtain⟨g1',o,A1,k1,rfl,d0,d1,d2,d3,hTk⟩:=hTr.kid k hlt';have cC:=hp k hlt' wr A1 k1 hB hTk;have HD:Hid ((qan t).any f=(f (qan t)[k]||((qan t).drop (k+1)).any f)):=hid (by rw [HE.out,List.drop_eq_getElem_cons hlt',List.any_cons])
   have hg1:(k:Int)<(qaD t:Int):=by omega
   have hg0:(0:Int)≤(k:Int):=by omega
   generalize (qan t)[k]=tk at *;clear hp hT hTr hTk HE hlt';cases hv:f tk
   ·have HN:Hid ((qan t).any f=((qan t).drop (k+1)).any f):=hid (by rw [HD.out,hv];rfl)
    rw [hv] at cC;clear hv HD;go_wp2_with (go_at_fn g;refine cC.mono ?_;rintro e w3 ⟨rfl,hb3⟩)
    go_roundw
    case rel=>exact⟨k+1,by omega,by go_num,qT hB hb3,HN⟩
    case measure=>simp [intOf];omega
   ·have HN:Hid ((qan t).any f=true):=hid (by rw [HD.out,hv];rfl)
    rw [hv] at cC;clear hv HD;go_wp2_with (go_at_fn g;refine cC.mono ?_;rintro e w3 ⟨rfl,hb3⟩)
    go_ret;exact⟨_,rfl,by rw [HN.out];exact decide_eq_true hg0,qT hB hb3⟩
  ·have hke:k=qaD t:=by omega
   subst hke;have HN:Hid ((qan t).any f=false):=hid (by rw [HE.out,show(qan t).drop (qaD t)=[] from List.drop_length];rfl)
   have hg1:decide ((qaD t:Int)<(qaD t:Int))=false:=by simp
   clear hp hT HE;go_wp2;go_ret;exact⟨_,rfl,by rw [HN.out];rfl,hB⟩
theorem qj0 (b:Bool) (g:Nat) (lb:Array Value) (A:Option Addr) (n c:Nat) (w:World) (h:Calls prog 305 #[.slice A n c,.func (.func g) #[] lb] w fun e w'=>∃r:Int,e=.returned (.int .i64 r)∧decide (0≤r)=b∧Below w.heap.size w w'):
  Calls prog 286 #[.slice A n c,.func (.func g) #[] lb] w fun e w'=>e=.returned (.bool b)∧Below w.heap.size w w':=by
 go_enter func286,ntmps286;go_wp2_with (go_at_call 305;(with_reducible refine h.mono ?_);rintro e w3 ⟨r,rfl,hr,hb3⟩;have HR:=hid hr;clear hr)
 go_ret;exact⟨by rw [← HR.out];rfl,hb3⟩
theorem qtg (p:G→Bool) (g:Nat) (eg:∀args w,(callFunc g args).run prog w=.ok (.enter g args) w)
  (hp:∀(t:G) (A:Option Addr) (c:Nat) (W:World),GAt W A c t→Calls prog g (#[.agg #[g0 t,g1 t,g2 t,.slice A (qaD t) c]]++#[]) W fun e w'=>e=.returned (.bool (p t))∧Below W.heap.size W w'):
  ∀(n:Nat) (t:G),SizeOf.sizeOf t=n→∀(A:Option Addr) (c:Nat) (w:World),GAt w A c t→
  Calls prog 264 #[.agg #[g0 t,g1 t,g2 t,.slice A (qaD t) c],.func (.func g) #[] #[]] w fun e w'=>e=.returned (.bool (qiS p t))∧Below w.heap.size w w':=by
 intro n
 induction n using Nat.strongRecOn with
 |_ n ih=>
  intro t hn A c w hT
  have HA:=hid (qho p t)
  have hal1:Below w.heap.size w (w.alloc (.cells #[g0 t,g1 t,g2 t,.slice A (qaD t) c] 205)):=(Below.refl _ _).alloc (Nat.le_refl _) _
  have hX:qdY ((w.alloc (.cells #[g0 t,g1 t,g2 t,.slice A (qaD t) c] 205)).alloc (.cells #[.func (.func g) #[] #[]] 280)) w.heap.size (g0 t) (g1 t) (g2 t) (.slice A (qaD t) c):=(Below.heap_alloc _ _ _ (by simp)).trans (heap_alloc_new _ _)
  have hF:((w.alloc (.cells #[g0 t,g1 t,g2 t,.slice A (qaD t) c] 205)).alloc (.cells #[.func (.func g) #[] #[]] 280)).heap[w.heap.size+1]?=some (.cells #[.func (.func g) #[] #[]] 280 (0,0)):=by
   have:=heap_alloc_new (w.alloc (.cells #[g0 t,g1 t,g2 t,.slice A (qaD t) c] 205)) (.cells #[.func (.func g) #[] #[]] 280)
   rwa [World.size_alloc] at this
  have hal:Below w.heap.size w ((w.alloc (.cells #[g0 t,g1 t,g2 t,.slice A (qaD t) c] 205)).alloc (.cells #[.func (.func g) #[] #[]] 280)):=hal1.alloc hal1.size _
  have hT0:=hT.later hal;have x0:=hX.a0;have x1:=hX.a1;have x2:=hX.a2;have x3:=hX.a3
  have f0:=cell_of_one hF;have cP:=hp t A c _ hT0;have eg2:=enters_of func287 (by kernel_rfl) rfl
  cases hv:p t
  ·rw [hv] at cP
   have HF:Hid (qiS p t=(qan t).any (qiS p)):=hid (by rw [HA.out,hv];rfl)
   clear hv HA;go_enter func264,ntmps264;generalize hw0:(w.alloc (.cells #[g0 t,g1 t,g2 t,.slice A (qaD t) c] 205)).alloc (.cells #[.func (.func g) #[] #[]] 280)=w0 at *;go_wp2_with fail;refine cP.mono ?_;rintro e w1⟨rfl,hb1⟩;have hX1:=hX.below hb1;have hT1:=hT0.later hb1;have hF1:=qgg hF hb1;have hB1:=qT hal hb1;have x3:=hX1.a3;have cI:=quJ (qiS p) 287 #[.pointer (some ⟨w.heap.size+1,0,none⟩)] eg2 t A c w1 hT1 (fun k hk W A1 k1 hBW hTk=>by
    have cS:=fun W' (hTW:GAt W' A1 k1 (qan t)[k])=>ih (SizeOf.sizeOf (qan t)[k]) (by have:=qhd t k hk;omega) (qan t)[k] rfl A1 k1 W' hTW
    generalize (qan t)[k]=tk at *;have hFW:=qgg hF1 hBW;have hY:qdY (W.alloc (.cells #[g0 tk,g1 tk,g2 tk,.slice A1 (qaD tk) k1] 205)) W.heap.size (g0 tk) (g1 tk) (g2 tk) (.slice A1 (qaD tk) k1):=heap_alloc_new _ _
    have halW:Below W.heap.size W (W.alloc (.cells #[g0 tk,g1 tk,g2 tk,.slice A1 (qaD tk) k1] 205)):=(Below.refl _ _).alloc (Nat.le_refl _) _
    have cS2:=cS _ (hTk.later halW)
    have y0:=hY.a0;have y1:=hY.a1;have y2:=hY.a2;have y3:=hY.a3
    have f1:=cell_of_one (qgg hFW halW)
    generalize qiS p tk=bk at *;clear cS ih hp cP hT hT0 hT1 hTk hX hX1 hw0;go_enter func287,ntmps287;go_wp2_with (go_at_call 264;(with_reducible refine cS2.mono ?_);rintro e w3 ⟨rfl,hb3⟩)
    go_ret;exact⟨rfl,qT halW hb3⟩)
   have cC:=qj0 _ 287 #[.pointer (some ⟨w.heap.size+1,0,none⟩)] A (qaD t) c w1 cI
   generalize (qan t).any (qiS p)=bb at *;clear ih hp cP cI hT hT0 hT1 hn;go_wp2_with (go_at_call 286;(with_reducible refine cC.mono ?_);rintro e w3 ⟨rfl,hb3⟩)
   go_ret;exact⟨by rw [HF.out];rfl,qT hB1 hb3⟩
  ·rw [hv] at cP
   have HF:Hid (qiS p t=true):=hid (by rw [HA.out,hv];rfl)
   clear hv HA ih hp;go_enter func264,ntmps264;generalize hw0:(w.alloc (.cells #[g0 t,g1 t,g2 t,.slice A (qaD t) c] 205)).alloc (.cells #[.func (.func g) #[] #[]] 280)=w0 at *;go_wp2_with fail;refine cP.mono ?_;rintro e w1⟨rfl,hb1⟩;go_wp2_with fail;go_ret;exact⟨by rw [HF.out];rfl,qT hal hb1⟩
theorem qq8 (t:G) (A:Option Addr) (c:Nat) (w:World) (hT:GAt w A c t):
  Calls prog 265 (#[.agg #[g0 t,g1 t,g2 t,.slice A (qaD t) c]]++#[]) w fun e w'=>e=.returned (.bool (!qdF t))∧Below w.heap.size w w':=by
 have hX:qdY (w.alloc (.cells #[g0 t,g1 t,g2 t,.slice A (qaD t) c] 205)) w.heap.size (g0 t) (g1 t) (g2 t) (.slice A (qaD t) c):=heap_alloc_new _ _
 have hal:Below w.heap.size w (w.alloc (.cells #[g0 t,g1 t,g2 t,.slice A (qaD t) c] 205)):=(Below.refl _ _).alloc (Nat.le_refl _) _
 have cF:=qmR t (by have:=hT.nm;omega) A c _ (hT.later hal)
 have x0:=hX.a0;have x1:=hX.a1;have x2:=hX.a2;have x3:=hX.a3
 generalize qdF t=b at *;go_enter func265,ntmps265;go_wp2_with (go_at_call 266;(with_reducible refine cF.mono ?_);rintro e w3 ⟨rfl,hb3⟩)
 go_ret;exact⟨rfl,qT hal hb3⟩
def qnU (t:G):Int:=if 60<gH t then 42 else if qiS (fun t=>!qdF t) t then 9 else 0
theorem qo2 (t:G) (A:Option Addr) (c:Nat) (w:World) (hT:GAt w A c t):
  Calls prog 237 #[.agg #[g0 t,g1 t,g2 t,.slice A (qaD t) c]] w fun e w'=>e=.returned (.int .i64 (qnU t))∧Below w.heap.size w w':=by
 have hX:qdY (w.alloc (.cells #[g0 t,g1 t,g2 t,.slice A (qaD t) c] 205)) w.heap.size (g0 t) (g1 t) (g2 t) (.slice A (qaD t) c):=heap_alloc_new _ _
 have hal:Below w.heap.size w (w.alloc (.cells #[g0 t,g1 t,g2 t,.slice A (qaD t) c] 205)):=(Below.refl _ _).alloc (Nat.le_refl _) _
 have HC:Hid (qnU t=if 60<gH t then 42 else if qiS (fun t=>!qdF t) t then 9 else 0):=hid rfl
 have eg:=enters_of func265 (by kernel_rfl) rfl
 have cD:=qqQ t A c _ (hT.later hal)
 have cS:=fun W hTW=>qtg (fun t=>!qdF t) 265 eg qq8 (SizeOf.sizeOf t) t rfl A c W hTW
 have hT0:=hT.later hal;have x0:=hX.a0;have x1:=hX.a1;have x2:=hX.a2;have x3:=hX.a3
 obtain⟨m,hm⟩:=qQ (min 1000 (gH t))
 rw [hm] at cD;generalize qiS (fun t=>!qdF t) t=b at *;by_cases h60:60<gH t
 ·rw [if_pos h60] at HC
  have hm60:(60:Int)<(m:Int):=by omega
  clear hm h60 hT cS;go_enter func237,ntmps237;generalize hw0:w.alloc (.cells #[g0 t,g1 t,g2 t,.slice A (qaD t) c] 205)=w0 at *;go_wp2_with fail;refine cD.mono ?_;rintro e w1⟨rfl,hb1⟩;go_wp2_with fail;go_ret;exact⟨by rw [HC.out];rfl,qT hal hb1⟩
 ·rw [if_neg h60] at HC
  have hm60:decide ((60:Int)<(m:Int))=false:=by simp;omega
  clear hm h60 hT;go_enter func237,ntmps237;generalize hw0:w.alloc (.cells #[g0 t,g1 t,g2 t,.slice A (qaD t) c] 205)=w0 at *;go_wp2_with fail;refine cD.mono ?_;rintro e w1⟨rfl,hb1⟩;have hX1:=hX.below hb1;have x0:=hX1.a0;have x1:=hX1.a1;have x2:=hX1.a2;have x3:=hX1.a3
  have cS1:=cS w1 (hT0.later hb1)
  have hB1:=qT hal hb1;clear cD cS;go_wp2_with fail;refine cS1.mono ?_;rintro e w2⟨rfl,hb2⟩;cases b
  ·go_wp2_with fail
   go_ret;exact⟨by rw [HC.out];rfl,qT hB1 hb2⟩
  ·go_wp2_with fail
   go_ret;exact⟨by rw [HC.out];rfl,qT hB1 hb2⟩
def szT:T→Prop
 |.leaf nm n=>nm.length≤140737488355328∧R64 n
 |.one op a=>op.length≤281474976710656∧szT a
 |.two op a b=>op.length≤281474976710656∧szT a∧szT b
 |.three op a b c=>op.length≤281474976710656∧szT a∧szT b∧szT c
theorem qhV:∀t:T,gH (gOf t)=hgt t
 |.leaf nm n=>by rw [qrP];rfl
 |.one op a=>by rw [qrP];show max 0 (gH (gOf a))+1=hgt a+1;rw [qhV a];omega
 |.two op a b=>by rw [qrP];show max (max 0 (gH (gOf a))) (gH (gOf b))+1=max (hgt a) (hgt b)+1;rw [qhV a,qhV b];omega
 |.three op a b c=>by rw [qrP];show max (max (max 0 (gH (gOf a))) (gH (gOf b))) (gH (gOf c))+1=max (max (hgt a) (hgt b)) (hgt c)+1;rw [qhV a,qhV b,qhV c];omega
theorem qkG {t:T} (h:isVar t=true):qtV (gOf t)=true:=by
 cases t with
 |leaf nm n=>cases nm with
  |nil=>cases h
  |cons c r=>rfl
 |one op a=>cases h
 |two op a b=>cases h
 |three op a b c=>cases h
theorem qhT {t:G} {n:Int} (h1:gNm t=[]) (h2:gN t=0) (h3:levL (gOp t)≠0∧levL (gOp t)<17∧qfh (levL (gOp t))=n) (h4:(qaD t:Int)=n) (h5:qev (gOp t)=true→qyf t=true):qdF t=true:=by
 unfold qdF;rw [if_neg h3.1,if_neg (by rw [h3.2.2,h4];simp),if_pos h3.2.1,h1,h2];cases hw:qev (gOp t)
 ·rfl
 ·rw [h5 hw];rfl
theorem qfB (t:T) (hf:qlJ true t=true):qdF (gOf t)=true:=by
 cases t with
 |leaf nm n=>
  have hl:levL (gOp (gOf (.leaf nm n)))=17:=by show levL []=17;decide
  have hk:((qaD (gOf (.leaf nm n)):Nat):Int)=qfh 17:=by show((0:Nat):Int)=qfh 17;decide
  have hf':(if nm=[] then decide (0≤n) else(n==0&&qid nm))=true:=hf
  unfold qdF;rw [hl,if_neg (by decide),if_neg (by rw [hk];simp),if_neg (by decide)];by_cases h0:nm=[]
  ·subst h0
   rw [if_pos rfl] at hf';exact hf'
  ·rw [if_neg h0] at hf'
   have hv:qtV (gOf (.leaf nm n))=true:=qkG (by cases nm with|nil=>exact absurd rfl h0|cons c r=>rfl)
   rw [hv];exact hf'
 |one op a=>
  simp only [qlJ,Bool.and_eq_true] at hf
  obtain⟨⟨⟨h1,h2⟩,h3⟩,-⟩:=hf;have hlev:levL op=15∨levL op=16:=by simpa using h2
  refine qhT (n:=1) rfl rfl ⟨by show levL op≠0;omega,by show levL op<17;omega,by show qfh (levL op)=1;unfold qfh;rw [if_neg (by omega),if_pos (by omega)]⟩ rfl (fun hb=>?_)
  have hst:qe2 op=true:=by
   rcases Bool.or_eq_true_iff.1 (show(qe2 op||levL op==2)=true from hb) with h|h
   ·exact h
   ·have:levL op=2:=by simpa using h
    omega
  rw [hst] at h3;simp only [Bool.not_true,Bool.false_or,Bool.and_eq_true] at h3
  exact qkG h3.1
 |two op a b=>
  simp only [qlJ,Bool.and_eq_true] at hf
  obtain⟨⟨⟨⟨h1,h2⟩,h3⟩,h4⟩,-⟩:=hf;have hlev:levL op=1∨levL op=2∨(4≤levL op∧levL op≤14):=by
   unfold qwq at h2;simp at h2
   omega
  refine qhT (n:=2) rfl rfl ⟨by show levL op≠0;omega,by show levL op<17;omega,by show qfh (levL op)=2;unfold qfh;rw [if_neg (by omega),if_neg (by omega),if_neg (by omega)]⟩ rfl (fun hb=>?_)
  have hs:qe2 op=false:=by simpa using h3
  have hb':(qe2 op||levL op==2)=true:=hb
  rw [hs] at hb';have h5:levL op=2:=by simpa using hb'
  rw [h5] at h4;exact qkG (by simpa using h4)
 |three op a b d=>
  have ho:op=[63,58]:=by simpa [qlJ] using hf
  subst ho;exact qhT (n:=3) rfl rfl ⟨by show levL [63,58]≠0;decide,by show levL [63,58]<17;decide,by show qfh (levL [63,58])=3;decide⟩ rfl (fun hb=>absurd (show qev [63,58]=true from hb) (by decide))
theorem qe8:∀t:T,fineT true t=true→qiS (fun t=>!qdF t) (gOf t)=false
 |.leaf nm n,h=>by
  rw [qho,qfB _ h];rfl
 |.one op a,h=>by
  simp only [fineT,Bool.and_eq_true] at h
  rw [qho,qfB _ h.1];show(false||(qiS _ (gOf a)||false))=false
  rw [qe8 a h.2];rfl
 |.two op a b,h=>by
  simp only [fineT,Bool.and_eq_true] at h
  rw [qho,qfB _ h.1.1];show(false||(qiS _ (gOf a)||(qiS _ (gOf b)||false)))=false
  rw [qe8 a h.1.2,qe8 b h.2];rfl
 |.three op a b c,h=>by
  simp only [fineT,Bool.and_eq_true] at h
  rw [qho,qfB _ h.1.1.1];show(false||(qiS _ (gOf a)||(qiS _ (gOf b)||(qiS _ (gOf c)||false))))=false
  rw [qe8 a h.1.1.2,qe8 b h.1.2,qe8 c h.2];rfl
theorem qpb (t:T) (h:fineT true t=true) (hh:hgt t≤60):qnU (gOf t)=0:=by
 unfold qnU;rw [if_neg (by rw [qhV];omega),qe8 t h];rfl
theorem qyd {w:World} {g:Nat} {a b c d:Value} {r:List Value} {pre:List Value} {t:TypeId} (k:Nat) (hp:pre.length=k) (h:w.heap[g]?=some (.cells (pre++a::b::c::d::r).toArray t (0,0))):
  w.cell? ⟨g,k,none⟩=some a∧w.cell? ⟨g,k+1,none⟩=some b∧w.cell? ⟨g,k+2,none⟩=some c∧w.cell? ⟨g,k+3,none⟩=some d:=by
 subst hp;refine⟨?_,?_,?_,?_⟩<;>simp [World.cell?,h]
theorem qbV {w:World} {P:Nat→Prop}:∀{A:Option Addr} {c:Nat} (t:T),Tree w P A c t→szT t→GAt w A c (gOf t)
 |A,c,.leaf nm n,_,hs=>.mk (fun _=>none) (fun _=>0) ⟨Nat.zero_le _,by show nm.length≤_;have:=hs.1;omega,Nat.zero_le _,hs.2.1,hs.2.2⟩ (fun k hk=>absurd hk (Nat.not_lt_zero _)) (fun k hk=>absurd hk (Nat.not_lt_zero _))
 |A,c,.one op a,⟨g,A1,k1,h1,h2,h3,h4,h5⟩,hs=>by
  have ih:=qbV a h5 hs.2;obtain⟨x0,x1,x2,x3⟩:=qyd (pre:=[]) (r:=[]) 0 rfl h4
  obtain⟨e1,e2,e3,e4⟩:=qco a;refine .mk (fun _=>A1) (fun _=>k1) ⟨by show 1≤_;omega,Nat.zero_le _,hs.1,by show _≤(0:Int);omega,by show(0:Int)≤_;omega⟩ (fun k hk=>?_) (fun k hk=>?_)
  ·obtain rfl:k=0:=by have:k<1:=hk;omega
   refine⟨g,0,h1,?_⟩
   show _∧_∧_∧w.cell? _=some (.slice A1 (qaD (gOf a)) k1)
   simp only [Nat.zero_mul,Nat.add_zero]
   refine⟨?_,?_,?_,?_⟩
   ·show _=some (g0 (gOf a));rw [g0,e1];exact x0
   ·show _=some (g1 (gOf a));rw [g1,e2];exact x1
   ·show _=some (g2 (gOf a));rw [g2,e3];exact x2
   ·rw [e4];exact x3
  ·obtain rfl:k=0:=by have:k<1:=hk;omega
   exact ih
 |A,c,.two op a b,⟨g,A1,k1,A2,k2,h1,h2,h3,h4,h5,h6⟩,hs=>by
  have iha:=qbV a h5 hs.2.1;have ihb:=qbV b h6 hs.2.2;obtain⟨x0,x1,x2,x3⟩:=qyd (pre:=[]) (r:=[_,_,_,_]) 0 rfl h4
  obtain⟨y0,y1,y2,y3⟩:=qyd (pre:=[_,_,_,_]) (r:=[]) 4 rfl h4
  obtain⟨e1,e2,e3,e4⟩:=qco a;obtain⟨f1,f2,f3,f4⟩:=qco b;refine .mk (fun k=>if k=0 then A1 else A2) (fun k=>if k=0 then k1 else k2) ⟨by show 2≤_;omega,Nat.zero_le _,hs.1,by show _≤(0:Int);omega,by show(0:Int)≤_;omega⟩ (fun k hk=>?_) (fun k hk=>?_)
  ·have hk2:k<2:=hk
   refine⟨g,0,h1,?_⟩
   rcases (show k=0∨k=1 by omega) with rfl|rfl
   ·show _∧_∧_∧w.cell? _=some (.slice A1 (qaD (gOf a)) k1)
    simp only [Nat.zero_mul,Nat.add_zero]
    refine⟨?_,?_,?_,?_⟩
    ·show _=some (g0 (gOf a));rw [g0,e1];exact x0
    ·show _=some (g1 (gOf a));rw [g1,e2];exact x1
    ·show _=some (g2 (gOf a));rw [g2,e3];exact x2
    ·rw [e4];exact x3
   ·show _∧_∧_∧w.cell? _=some (.slice A2 (qaD (gOf b)) k2)
    simp only [Nat.one_mul,Nat.zero_add]
    refine⟨?_,?_,?_,?_⟩
    ·show _=some (g0 (gOf b));rw [g0,f1];exact y0
    ·show _=some (g1 (gOf b));rw [g1,f2];exact y1
    ·show _=some (g2 (gOf b));rw [g2,f3];exact y2
    ·rw [f4];exact y3
  ·have hk2:k<2:=hk
   rcases (show k=0∨k=1 by omega) with rfl|rfl
   ·exact iha
   ·exact ihb
 |A,c,.three op a b d,⟨g,A1,k1,A2,k2,A3,k3,h1,h2,h3,h4,h5,h6,h7⟩,hs=>by
  have iha:=qbV a h5 hs.2.1;have ihb:=qbV b h6 hs.2.2.1;have ihd:=qbV d h7 hs.2.2.2;obtain⟨x0,x1,x2,x3⟩:=qyd (pre:=[]) (r:=[_,_,_,_,_,_,_,_]) 0 rfl h4
  obtain⟨y0,y1,y2,y3⟩:=qyd (pre:=[_,_,_,_]) (r:=[_,_,_,_]) 4 rfl h4
  obtain⟨z0,z1,z2,z3⟩:=qyd (pre:=[_,_,_,_,_,_,_,_]) (r:=[]) 8 rfl h4
  obtain⟨e1,e2,e3,e4⟩:=qco a;obtain⟨f1,f2,f3,f4⟩:=qco b;obtain⟨i1,i2,i3,i4⟩:=qco d;refine .mk (fun k=>if k=0 then A1 else if k=1 then A2 else A3) (fun k=>if k=0 then k1 else if k=1 then k2 else k3) ⟨by show 3≤_;omega,Nat.zero_le _,hs.1,by show _≤(0:Int);omega,by show(0:Int)≤_;omega⟩ (fun k hk=>?_) (fun k hk=>?_)
  ·have hk2:k<3:=hk
   refine⟨g,0,h1,?_⟩
   rcases (show k=0∨k=1∨k=2 by omega) with rfl|rfl|rfl
   ·show _∧_∧_∧w.cell? _=some (.slice A1 (qaD (gOf a)) k1)
    simp only [Nat.zero_mul,Nat.add_zero]
    refine⟨?_,?_,?_,?_⟩
    ·show _=some (g0 (gOf a));rw [g0,e1];exact x0
    ·show _=some (g1 (gOf a));rw [g1,e2];exact x1
    ·show _=some (g2 (gOf a));rw [g2,e3];exact x2
    ·rw [e4];exact x3
   ·show _∧_∧_∧w.cell? _=some (.slice A2 (qaD (gOf b)) k2)
    simp only [Nat.one_mul,Nat.zero_add]
    refine⟨?_,?_,?_,?_⟩
    ·show _=some (g0 (gOf b));rw [g0,f1];exact y0
    ·show _=some (g1 (gOf b));rw [g1,f2];exact y1
    ·show _=some (g2 (gOf b));rw [g2,f3];exact y2
    ·rw [f4];exact y3
   ·show _∧_∧_∧w.cell? _=some (.slice A3 (qaD (gOf d)) k3)
    simp only [Nat.reduceMul,Nat.zero_add]
    refine⟨?_,?_,?_,?_⟩
    ·show _=some (g0 (gOf d));rw [g0,i1];exact z0
    ·show _=some (g1 (gOf d));rw [g1,i2];exact z1
    ·show _=some (g2 (gOf d));rw [g2,i3];exact z2
    ·rw [i4];exact z3
  ·have hk2:k<3:=hk
   rcases (show k=0∨k=1∨k=2 by omega) with rfl|rfl|rfl
   ·exact iha
   ·exact ihb
   ·exact ihd
theorem qjQ (l:List (List UInt8)):addN l []=l:=by unfold addN;rw [if_pos (.inl rfl)]
theorem qkH (op:List UInt8) (a:T) (l:List (List UInt8)):qba (gOf (.one op a)) l=qba (gOf a) l:=by
 rw [qeO];show qba (gOf a) (addN l [])=_;rw [qjQ]
theorem qkI (op:List UInt8) (a b:T) (l:List (List UInt8)):qba (gOf (.two op a b)) l=qba (gOf b) (qba (gOf a) l):=by
 rw [qeO];show qba (gOf b) (qba (gOf a) (addN l []))=_;rw [qjQ]
theorem qgB (op:List UInt8) (a b c:T) (l:List (List UInt8)):qba (gOf (.three op a b c)) l=qba (gOf c) (qba (gOf b) (qba (gOf a) l)):=by
 rw [qeO];show qba (gOf c) (qba (gOf b) (qba (gOf a) (addN l [])))=_;rw [qjQ]
theorem qiJ (nm:List UInt8) (n:Int) (l:List (List UInt8)):qba (gOf (.leaf nm n)) l=addN l nm:=by rw [qeO];rfl
theorem qcj:∀(t:T) (l:List (List UInt8)) (x:List UInt8),x∈l→x∈qba (gOf t) l
 |.leaf nm n,l,x,h=>by
  rw [qiJ];unfold addN
  split
  ·exact h
  ·simp [h]
 |.one op a,l,x,h=>by rw [qkH];exact qcj a l x h
 |.two op a b,l,x,h=>by rw [qkI];exact qcj b _ x (qcj a l x h)
 |.three op a b c,l,x,h=>by rw [qgB];exact qcj c _ x (qcj b _ x (qcj a l x h))
theorem qcG {D E:List (List UInt8)} (h:∀x∈D,x∈E):∀t:T,qoB D t→qoB E t
 |.leaf _ _,r=>⟨r.1,fun hn=>h _ (r.2 hn)⟩
 |.one _ a,r=>qcG h a r
 |.two _ a b,r=>⟨qcG h a r.1,qcG h b r.2⟩
 |.three _ a b c,r=>⟨qcG h a r.1,qcG h b r.2.1,qcG h c r.2.2⟩
theorem qdM:∀(t:T) (l:List (List UInt8)),szT t→qoB (qba (gOf t) l) t
 |.leaf nm n,l,hs=>⟨hs.2,fun hn=>by
  rw [qiJ];unfold addN
  by_cases h:nm∈l
  ·rw [if_pos (.inr h)];exact h
  ·rw [if_neg (by simp [hn,h])];simp⟩
 |.one op a,l,hs=>by rw [qkH];exact qdM a l hs.2
 |.two op a b,l,hs=>by
  rw [qkI];exact⟨qcG (fun x hx=>qcj b _ x hx) a (qdM a l hs.2.1),qdM b _ hs.2.2⟩
 |.three op a b c,l,hs=>by
  rw [qgB];exact⟨qcG (fun x hx=>qcj c _ x (qcj b _ x hx)) a (qdM a l hs.2.1),qcG (fun x hx=>qcj c _ x hx) b (qdM b _ hs.2.2.1),qdM c _ hs.2.2.2⟩
theorem qfo:∀(t:T) (l:List (List UInt8)),szT t→(∀x∈l,x.length≤140737488355328)→∀x∈qba (gOf t) l,x.length≤140737488355328
 |.leaf nm n,l,hs,h,x,hx=>by
  rw [qiJ] at hx;unfold addN at hx
  split at hx
  ·exact h x hx
  ·rcases List.mem_append.1 hx with hx|hx
   ·exact h x hx
   ·simp at hx;subst hx;exact hs.1
 |.one op a,l,hs,h,x,hx=>by rw [qkH] at hx;exact qfo a l hs.2 h x hx
 |.two op a b,l,hs,h,x,hx=>by
  rw [qkI] at hx;exact qfo b _ hs.2.2 (qfo a l hs.2.1 h) x hx
 |.three op a b c,l,hs,h,x,hx=>by
  rw [qgB] at hx;exact qfo c _ hs.2.2.2 (qfo b _ hs.2.2.1 (qfo a l hs.2.1 h)) x hx
theorem quN (op:List UInt8) (h:op∈joinOps):op.isEmpty=false∧(op==[])=false∧(op==[33])=false∧(op==[126])=false∧(op==[110,101,103])=false∧(op==[38,38])=false∧(op==[124,124])=false∧(op==[63,58])=false∧(op==[61])=false∧(op==[42,61])=false∧(op==[47,61])=false∧(op==[37,61])=false∧(op==[43,61])=false∧(op==[45,61])=false∧(op==[60,60,61])=false∧(op==[62,62,61])=false∧(op==[38,61])=false∧(op==[94,61])=false∧(op==[124,61])=false∧(op==[112,114,101,43,43])=false∧(op==[112,114,101,45,45])=false∧(op==[112,111,115,116,43,43])=false∧(op==[112,111,115,116,45,45])=false:=by
 have:∀m∈joinOps,m.isEmpty=false∧(m==[])=false∧(m==[33])=false∧(m==[126])=false∧(m==[110,101,103])=false∧(m==[38,38])=false∧(m==[124,124])=false∧(m==[63,58])=false∧(m==[61])=false∧(m==[42,61])=false∧(m==[47,61])=false∧(m==[37,61])=false∧(m==[43,61])=false∧(m==[45,61])=false∧(m==[60,60,61])=false∧(m==[62,62,61])=false∧(m==[38,61])=false∧(m==[94,61])=false∧(m==[124,61])=false∧(m==[112,114,101,43,43])=false∧(m==[112,114,101,45,45])=false∧(m==[112,111,115,116,43,43])=false∧(m==[112,111,115,116,45,45])=false:=by decide +kernel
 exact this op h
theorem qt7 (env:Env) (op:List UInt8) (h:op∈joinOps) (a b:T) (s:Asg):qa8 env (.two op a b) s=qbA (qa8 env a s) fun p=>qbA (qa8 env b p.2) fun q=>qbA (joinedE op p.1 q.1) fun n=>.ok (n,q.2):=by
 have:∀m∈joinOps,m≠[38,38]∧m≠[124,124]∧m≠[61]∧levL m≠2:=by decide +kernel
 obtain⟨h1,h2,h3,h4⟩:=this op h;rw [qa8,if_neg h1,if_neg h2,if_neg h3,if_neg h4]
theorem qx6 (W0:World) (B:Nat) (D:List (List UInt8)) (env:qjN) (op:List UInt8) (hop:op∈joinOps) (a b:T) (iha:ValAt W0 B D env a) (ra:qoB D a) (ihb:ValAt W0 B D env b) (rb:qoB D b):ValAt W0 B D env (.two op a b):=by
 intro A c s w hG hB hW hs
 change Calls _ _ #[.pointer (some ⟨B,0,none⟩),.agg #[.string ⟨op.toArray⟩,.string ⟨#[]⟩,.int .i64 0,.slice A 2 c]] _ _
 obtain⟨g,o,A0,k0,rfl,h40,hG0⟩:=qwg (kids:=[a,b]) hG 0 (by simp)
 rw [show o+0*4=o by omega] at h40
 change At4 W0 g (o) a A0 k0 at h40
 change GAt W0 A0 k0 (gOf a) at hG0
 obtain⟨g',o',A1,k1,e,h41,hG1⟩:=qwg (kids:=[a,b]) hG 1 (by simp)
 cases e
 rw [show o+1*4=o+4 by omega] at h41
 change At4 W0 g (o+4) b A1 k1 at h41
 change GAt W0 A1 k1 (gOf b) at hG1
 have hgl:=h40.lt;have hbW:=qkY w B op [] 0 (some ⟨g,o,none⟩) 2 c
 have hF:=(Fr.new w B op [] 0 (some ⟨g,o,none⟩) 2 c).drew
 have hW3:=(hW.below hbW).drew
 have hK3:=(hW.kept_below hbW).drew
 have h430:=(h40.keptW hB hgl).keptW hK3.below hgl
 have h431:=(h41.keptW hB hgl).keptW hK3.below hgl
 have hB3:=hB.trans hK3.below;obtain⟨w3,hw3⟩:=qQ (W3v w B op [] 0 (some ⟨g,o,none⟩) 2 c)
 have HW3:=hid hw3;rw [hw3] at hF hW3 hK3 hB3 h430 h431;have hS0:w3.drew.cell? ⟨w.heap.size,0,none⟩=some (.pointer (some ⟨B,0,none⟩))∧w3.drew.cell? ⟨w.heap.size+1+1,0,none⟩=some (.slice (some ⟨g,o,none⟩) 2 c)∧w3.drew.cell? ⟨w.heap.size+1,0,none⟩=some (.string ⟨op.toArray⟩)∧w3.drew.cell? ⟨g,o,none⟩=some (.string ⟨(opT a).toArray⟩)∧w3.drew.cell? ⟨g,o+1,none⟩=some (.string ⟨(qbP a).toArray⟩)∧w3.drew.cell? ⟨g,o+2,none⟩=some (.int .i64 (qe1 a))∧w3.drew.cell? ⟨g,o+3,none⟩=some (.slice A0 (qdm a) k0)∧w3.drew.cell? ⟨g,o+4,none⟩=some (.string ⟨(opT b).toArray⟩)∧w3.drew.cell? ⟨g,o+5,none⟩=some (.string ⟨(qbP b).toArray⟩)∧w3.drew.cell? ⟨g,o+6,none⟩=some (.int .i64 (qe1 b))∧w3.drew.cell? ⟨g,o+7,none⟩=some (.slice A1 (qdm b) k1):=⟨hF.c0,hF.c2,hF.c1,h430.1,h430.2.1,h430.2.2.1,h430.2.2.2,h431.1,h431.2.1,h431.2.2.1,h431.2.2.2⟩
 have c1:=hF.c1;have c1c:=hF.c1c
 have HB:=hid hB;clear hbW hG hW h40 h41 hw3;have hbo:=quN op hop;obtain⟨he0,n0,n1,n2,n3,n4,n5,n6,n7,n8,n9,n10,n11,n12,n13,n14,n15,n16,n17,n18,n19,n20,n21⟩:=hbo;have HE:Hid (qa8 (qfx env) (.two op a b) s=qbA (qa8 (qfx env) a s) fun p=>qbA (qa8 (qfx env) b p.2) fun q=>qbA (joinedE op p.1 q.1) fun n=>.ok (n,q.2)):=hid (qt7 (qfx env) op hop a b s)
 have cA:=iha A0 k0 s _ hG0 hB3 hW3 hs;have hfa:=qbo (qfx env) a ra s hs
 clear iha hG0 hB ra hs;cases hr:qa8 (qfx env) a s with
 |error er=>
  rw [hr] at HE cA;have HP:Hid (qa8 (qfx env) (.two op a b) s=.error er):=hid HE.out
  clear hr HE hfa hop;go_enter func242,ntmps242;go_wp2_with fail;rw [show((w.alloc (.cells #[.pointer (some ⟨B,0,none⟩)] 252)).alloc (.cells #[.string ⟨op.toArray⟩,.string ⟨#[]⟩,.int .i64 0,.slice (some ⟨g,o,none⟩) 2 c] 205)).alloc (.cells #[.slice (some ⟨g,o,none⟩) 2 c] 203)=w3 from HW3.out];refine wp_region_held_drew (S:=fun w'=>w'.cell? ⟨w.heap.size,0,none⟩=some (.pointer (some ⟨B,0,none⟩))∧w'.cell? ⟨w.heap.size+1+1,0,none⟩=some (.slice (some ⟨g,o,none⟩) 2 c)∧w'.cell? ⟨w.heap.size+1,0,none⟩=some (.string ⟨op.toArray⟩)∧w'.cell? ⟨g,o,none⟩=some (.string ⟨(opT a).toArray⟩)∧w'.cell? ⟨g,o+1,none⟩=some (.string ⟨(qbP a).toArray⟩)∧w'.cell? ⟨g,o+2,none⟩=some (.int .i64 (qe1 a))∧w'.cell? ⟨g,o+3,none⟩=some (.slice A0 (qdm a) k0)∧w'.cell? ⟨g,o+4,none⟩=some (.string ⟨(opT b).toArray⟩)∧w'.cell? ⟨g,o+5,none⟩=some (.string ⟨(qbP b).toArray⟩)∧w'.cell? ⟨g,o+6,none⟩=some (.int .i64 (qe1 b))∧w'.cell? ⟨g,o+7,none⟩=some (.slice A1 (qdm b) k1)) (by kernel_rfl) hS0 (fun hHeld=>?_)
  refine qai 0 142 (.pointer (some ⟨w.heap.size+1,0,none⟩)) rfl rfl (Or.inl ⟨by rfl,?_⟩) hHeld ?_
  ·intro w hSw;(try dsimp only at hSw);go_simp
  try simp only [Act.put,sIA,sC0,sCS]
  refine qai 1 143 (.string ⟨op.toArray⟩) rfl rfl (Or.inl ⟨by rfl,?_⟩) hHeld ?_
  ·intro w hSw;(try dsimp only at hSw);go_simp
  try simp only [Act.put,sIA,sC0,sCS]
  refine qai 2 144 (.pointer (some ⟨B,0,none⟩)) rfl rfl (Or.inl ⟨by rfl,?_⟩) hHeld ?_
  ·intro w hSw;(try dsimp only at hSw);go_simp
  try simp only [Act.put,sIA,sC0,sCS]
  refine qai 3 145 (.slice (some ⟨g,o,none⟩) 2 c) rfl rfl (Or.inl ⟨by rfl,?_⟩) hHeld ?_
  ·intro w hSw;(try dsimp only at hSw);go_simp
  try simp only [Act.put,sIA,sC0,sCS]
  refine qai 4 146 (.pointer (some ⟨g,o,none⟩)) rfl rfl (Or.inl ⟨by rfl,?_⟩) hHeld ?_
  ·intro w hSw;(try dsimp only at hSw);go_simp
  try simp only [Act.put,sIA,sC0,sCS]
  refine qai 5 147 (.agg #[.string ⟨(opT a).toArray⟩,.string ⟨(qbP a).toArray⟩,.int .i64 (qe1 a),.slice A0 (qdm a) k0]) rfl rfl (Or.inl ⟨by rfl,?_⟩) hHeld ?_
  ·intro w hSw;(try dsimp only at hSw);go_simp
  try simp only [Act.put,sIA,sC0,sCS]
  refine qai 7 149 (.pointer (some ⟨B,0,none⟩)) rfl rfl (Or.inl ⟨by rfl,?_⟩) hHeld ?_
  ·intro w hSw;(try dsimp only at hSw);go_simp
  try simp only [Act.put,sIA,sC0,sCS]
  refine qai 8 150 (.slice (some ⟨g,o,none⟩) 2 c) rfl rfl (Or.inl ⟨by rfl,?_⟩) hHeld ?_
  ·intro w hSw;(try dsimp only at hSw);go_simp
  try simp only [Act.put,sIA,sC0,sCS]
  refine qai 9 151 (.pointer (some ⟨g,o+4,none⟩)) rfl rfl (Or.inl ⟨by rfl,?_⟩) hHeld ?_
  ·intro w hSw;(try dsimp only at hSw);go_simp
  try simp only [Act.put,sIA,sC0,sCS]
  refine qai 10 152 (.agg #[.string ⟨(opT b).toArray⟩,.string ⟨(qbP b).toArray⟩,.int .i64 (qe1 b),.slice A1 (qdm b) k1]) rfl rfl (Or.inl ⟨by rfl,?_⟩) hHeld ?_
  ·intro w hSw;(try dsimp only at hSw);go_simp
  try simp only [Act.put,sIA,sC0,sCS]
  refine qae 6 rfl fun K hK=>?_
  go_simp;go_at_call 242
  (with_reducible refine cA.mono ?_)
  rintro e w4⟨hk4,rfl⟩;go_wp2_with fail;exact⟨rfl,by rw [HP.out];exact⟨hK3.trans hk4,rfl⟩⟩
 |ok r=>
  obtain⟨n,s1⟩:=r;rw [hr] at HE cA hfa;obtain⟨hn1,hs1⟩:=hfa;have HE2:Hid (qa8 (qfx env) (.two op a b) s=qbA (qa8 (qfx env) b s1) fun q=>qbA (joinedE op n q.1) fun n=>.ok (n,q.2)):=hid HE.out
  have hfb:=qbo (qfx env) b rb s1 hs1
  have ihb':=fun W hB hW=>ihb A1 k1 s1 W hG1 hB hW hs1
  clear hr HE ihb rb hs1 hG1;cases hr2:qa8 (qfx env) b s1 with
  |error er=>
   rw [hr2] at HE2 ihb';have HP:Hid (qa8 (qfx env) (.two op a b) s=.error er):=hid HE2.out
   clear hr2 HE2 hfb hop hn1;go_enter func242,ntmps242;go_wp2_with fail;rw [show((w.alloc (.cells #[.pointer (some ⟨B,0,none⟩)] 252)).alloc (.cells #[.string ⟨op.toArray⟩,.string ⟨#[]⟩,.int .i64 0,.slice (some ⟨g,o,none⟩) 2 c] 205)).alloc (.cells #[.slice (some ⟨g,o,none⟩) 2 c] 203)=w3 from HW3.out];refine wp_region_held_drew (S:=fun w'=>w'.cell? ⟨w.heap.size,0,none⟩=some (.pointer (some ⟨B,0,none⟩))∧w'.cell? ⟨w.heap.size+1+1,0,none⟩=some (.slice (some ⟨g,o,none⟩) 2 c)∧w'.cell? ⟨w.heap.size+1,0,none⟩=some (.string ⟨op.toArray⟩)∧w'.cell? ⟨g,o,none⟩=some (.string ⟨(opT a).toArray⟩)∧w'.cell? ⟨g,o+1,none⟩=some (.string ⟨(qbP a).toArray⟩)∧w'.cell? ⟨g,o+2,none⟩=some (.int .i64 (qe1 a))∧w'.cell? ⟨g,o+3,none⟩=some (.slice A0 (qdm a) k0)∧w'.cell? ⟨g,o+4,none⟩=some (.string ⟨(opT b).toArray⟩)∧w'.cell? ⟨g,o+5,none⟩=some (.string ⟨(qbP b).toArray⟩)∧w'.cell? ⟨g,o+6,none⟩=some (.int .i64 (qe1 b))∧w'.cell? ⟨g,o+7,none⟩=some (.slice A1 (qdm b) k1)) (by kernel_rfl) hS0 (fun hHeld=>?_)
   refine qai 0 142 (.pointer (some ⟨w.heap.size+1,0,none⟩)) rfl rfl (Or.inl ⟨by rfl,?_⟩) hHeld ?_
   ·intro w hSw;(try dsimp only at hSw);go_simp
   try simp only [Act.put,sIA,sC0,sCS]
   refine qai 1 143 (.string ⟨op.toArray⟩) rfl rfl (Or.inl ⟨by rfl,?_⟩) hHeld ?_
   ·intro w hSw;(try dsimp only at hSw);go_simp
   try simp only [Act.put,sIA,sC0,sCS]
   refine qai 2 144 (.pointer (some ⟨B,0,none⟩)) rfl rfl (Or.inl ⟨by rfl,?_⟩) hHeld ?_
   ·intro w hSw;(try dsimp only at hSw);go_simp
   try simp only [Act.put,sIA,sC0,sCS]
   refine qai 3 145 (.slice (some ⟨g,o,none⟩) 2 c) rfl rfl (Or.inl ⟨by rfl,?_⟩) hHeld ?_
   ·intro w hSw;(try dsimp only at hSw);go_simp
   try simp only [Act.put,sIA,sC0,sCS]
   refine qai 4 146 (.pointer (some ⟨g,o,none⟩)) rfl rfl (Or.inl ⟨by rfl,?_⟩) hHeld ?_
   ·intro w hSw;(try dsimp only at hSw);go_simp
   try simp only [Act.put,sIA,sC0,sCS]
   refine qai 5 147 (.agg #[.string ⟨(opT a).toArray⟩,.string ⟨(qbP a).toArray⟩,.int .i64 (qe1 a),.slice A0 (qdm a) k0]) rfl rfl (Or.inl ⟨by rfl,?_⟩) hHeld ?_
   ·intro w hSw;(try dsimp only at hSw);go_simp
   try simp only [Act.put,sIA,sC0,sCS]
   refine qai 7 149 (.pointer (some ⟨B,0,none⟩)) rfl rfl (Or.inl ⟨by rfl,?_⟩) hHeld ?_
   ·intro w hSw;(try dsimp only at hSw);go_simp
   try simp only [Act.put,sIA,sC0,sCS]
   refine qai 8 150 (.slice (some ⟨g,o,none⟩) 2 c) rfl rfl (Or.inl ⟨by rfl,?_⟩) hHeld ?_
   ·intro w hSw;(try dsimp only at hSw);go_simp
   try simp only [Act.put,sIA,sC0,sCS]
   refine qai 9 151 (.pointer (some ⟨g,o+4,none⟩)) rfl rfl (Or.inl ⟨by rfl,?_⟩) hHeld ?_
   ·intro w hSw;(try dsimp only at hSw);go_simp
   try simp only [Act.put,sIA,sC0,sCS]
   refine qai 10 152 (.agg #[.string ⟨(opT b).toArray⟩,.string ⟨(qbP b).toArray⟩,.int .i64 (qe1 b),.slice A1 (qdm b) k1]) rfl rfl (Or.inl ⟨by rfl,?_⟩) hHeld ?_
   ·intro w hSw;(try dsimp only at hSw);go_simp
   try simp only [Act.put,sIA,sC0,sCS]
   refine qae 6 rfl fun K hK=>?_
   go_simp;go_at_call 242
   (with_reducible refine cA.mono ?_)
   rintro e w5⟨hk5,rfl,hW5⟩;have hS5:w5.cell? ⟨w.heap.size,0,none⟩=some (.pointer (some ⟨B,0,none⟩))∧w5.cell? ⟨w.heap.size+1+1,0,none⟩=some (.slice (some ⟨g,o,none⟩) 2 c)∧w5.cell? ⟨w.heap.size+1,0,none⟩=some (.string ⟨op.toArray⟩)∧w5.cell? ⟨g,o,none⟩=some (.string ⟨(opT a).toArray⟩)∧w5.cell? ⟨g,o+1,none⟩=some (.string ⟨(qbP a).toArray⟩)∧w5.cell? ⟨g,o+2,none⟩=some (.int .i64 (qe1 a))∧w5.cell? ⟨g,o+3,none⟩=some (.slice A0 (qdm a) k0)∧w5.cell? ⟨g,o+4,none⟩=some (.string ⟨(opT b).toArray⟩)∧w5.cell? ⟨g,o+5,none⟩=some (.string ⟨(qbP b).toArray⟩)∧w5.cell? ⟨g,o+6,none⟩=some (.int .i64 (qe1 b))∧w5.cell? ⟨g,o+7,none⟩=some (.slice A1 (qdm b) k1):=⟨(hF.kept hk5).c0,(hF.kept hk5).c2,(hF.kept hk5).c1,(h430.keptW hk5.below hgl).1,(h430.keptW hk5.below hgl).2.1,(h430.keptW hk5.below hgl).2.2.1,(h430.keptW hk5.below hgl).2.2.2,(h431.keptW hk5.below hgl).1,(h431.keptW hk5.below hgl).2.1,(h431.keptW hk5.below hgl).2.2.1,(h431.keptW hk5.below hgl).2.2.2⟩
   have cB:=ihb' _ (hB3.trans hk5.below) hW5
   go_wp2_with fail;refine hK.out _ _ hS5 (fun hHeld=>?_)
   clear hK K
   try simp only [Act.put,sIA,sC0,sCS]
   refine qae 11 rfl fun K hK=>?_
   go_simp;go_at_call 242
   (with_reducible refine cB.mono ?_)
   rintro e w4⟨hk4,rfl⟩;go_wp2_with fail;exact⟨rfl,by rw [HP.out];exact⟨hK3.trans (hk5.trans hk4),rfl⟩⟩
  |ok q=>
   obtain⟨n2,s2⟩:=q;rw [hr2] at HE2 ihb' hfb;have HE3:Hid (qa8 (qfx env) (.two op a b) s=qbA (joinedE op n n2) fun n=>.ok (n,s2)):=hid HE2.out
   have cJ:=fun W=>qgi op hop n n2 hn1 hfb.1 W
   clear hr2 HE2 hfb hop hn1;cases hj:joinedE op n n2 with
   |error er=>
    rw [hj] at HE3 cJ;have HP:Hid (qa8 (qfx env) (.two op a b) s=.error er):=hid HE3.out
    clear hj HE3;go_enter func242,ntmps242;go_wp2_with fail;rw [show((w.alloc (.cells #[.pointer (some ⟨B,0,none⟩)] 252)).alloc (.cells #[.string ⟨op.toArray⟩,.string ⟨#[]⟩,.int .i64 0,.slice (some ⟨g,o,none⟩) 2 c] 205)).alloc (.cells #[.slice (some ⟨g,o,none⟩) 2 c] 203)=w3 from HW3.out];refine wp_region_held_drew (S:=fun w'=>w'.cell? ⟨w.heap.size,0,none⟩=some (.pointer (some ⟨B,0,none⟩))∧w'.cell? ⟨w.heap.size+1+1,0,none⟩=some (.slice (some ⟨g,o,none⟩) 2 c)∧w'.cell? ⟨w.heap.size+1,0,none⟩=some (.string ⟨op.toArray⟩)∧w'.cell? ⟨g,o,none⟩=some (.string ⟨(opT a).toArray⟩)∧w'.cell? ⟨g,o+1,none⟩=some (.string ⟨(qbP a).toArray⟩)∧w'.cell? ⟨g,o+2,none⟩=some (.int .i64 (qe1 a))∧w'.cell? ⟨g,o+3,none⟩=some (.slice A0 (qdm a) k0)∧w'.cell? ⟨g,o+4,none⟩=some (.string ⟨(opT b).toArray⟩)∧w'.cell? ⟨g,o+5,none⟩=some (.string ⟨(qbP b).toArray⟩)∧w'.cell? ⟨g,o+6,none⟩=some (.int .i64 (qe1 b))∧w'.cell? ⟨g,o+7,none⟩=some (.slice A1 (qdm b) k1)) (by kernel_rfl) hS0 (fun hHeld=>?_)
    refine qai 0 142 (.pointer (some ⟨w.heap.size+1,0,none⟩)) rfl rfl (Or.inl ⟨by rfl,?_⟩) hHeld ?_
    ·intro w hSw;(try dsimp only at hSw);go_simp
    try simp only [Act.put,sIA,sC0,sCS]
    refine qai 1 143 (.string ⟨op.toArray⟩) rfl rfl (Or.inl ⟨by rfl,?_⟩) hHeld ?_
    ·intro w hSw;(try dsimp only at hSw);go_simp
    try simp only [Act.put,sIA,sC0,sCS]
    refine qai 2 144 (.pointer (some ⟨B,0,none⟩)) rfl rfl (Or.inl ⟨by rfl,?_⟩) hHeld ?_
    ·intro w hSw;(try dsimp only at hSw);go_simp
    try simp only [Act.put,sIA,sC0,sCS]
    refine qai 3 145 (.slice (some ⟨g,o,none⟩) 2 c) rfl rfl (Or.inl ⟨by rfl,?_⟩) hHeld ?_
    ·intro w hSw;(try dsimp only at hSw);go_simp
    try simp only [Act.put,sIA,sC0,sCS]
    refine qai 4 146 (.pointer (some ⟨g,o,none⟩)) rfl rfl (Or.inl ⟨by rfl,?_⟩) hHeld ?_
    ·intro w hSw;(try dsimp only at hSw);go_simp
    try simp only [Act.put,sIA,sC0,sCS]
    refine qai 5 147 (.agg #[.string ⟨(opT a).toArray⟩,.string ⟨(qbP a).toArray⟩,.int .i64 (qe1 a),.slice A0 (qdm a) k0]) rfl rfl (Or.inl ⟨by rfl,?_⟩) hHeld ?_
    ·intro w hSw;(try dsimp only at hSw);go_simp
    try simp only [Act.put,sIA,sC0,sCS]
    refine qai 7 149 (.pointer (some ⟨B,0,none⟩)) rfl rfl (Or.inl ⟨by rfl,?_⟩) hHeld ?_
    ·intro w hSw;(try dsimp only at hSw);go_simp
    try simp only [Act.put,sIA,sC0,sCS]
    refine qai 8 150 (.slice (some ⟨g,o,none⟩) 2 c) rfl rfl (Or.inl ⟨by rfl,?_⟩) hHeld ?_
    ·intro w hSw;(try dsimp only at hSw);go_simp
    try simp only [Act.put,sIA,sC0,sCS]
    refine qai 9 151 (.pointer (some ⟨g,o+4,none⟩)) rfl rfl (Or.inl ⟨by rfl,?_⟩) hHeld ?_
    ·intro w hSw;(try dsimp only at hSw);go_simp
    try simp only [Act.put,sIA,sC0,sCS]
    refine qai 10 152 (.agg #[.string ⟨(opT b).toArray⟩,.string ⟨(qbP b).toArray⟩,.int .i64 (qe1 b),.slice A1 (qdm b) k1]) rfl rfl (Or.inl ⟨by rfl,?_⟩) hHeld ?_
    ·intro w hSw;(try dsimp only at hSw);go_simp
    try simp only [Act.put,sIA,sC0,sCS]
    refine qae 6 rfl fun K hK=>?_
    go_simp;go_at_call 242
    (with_reducible refine cA.mono ?_)
    rintro e w5⟨hk5,rfl,hW5⟩;have hS5:w5.cell? ⟨w.heap.size,0,none⟩=some (.pointer (some ⟨B,0,none⟩))∧w5.cell? ⟨w.heap.size+1+1,0,none⟩=some (.slice (some ⟨g,o,none⟩) 2 c)∧w5.cell? ⟨w.heap.size+1,0,none⟩=some (.string ⟨op.toArray⟩)∧w5.cell? ⟨g,o,none⟩=some (.string ⟨(opT a).toArray⟩)∧w5.cell? ⟨g,o+1,none⟩=some (.string ⟨(qbP a).toArray⟩)∧w5.cell? ⟨g,o+2,none⟩=some (.int .i64 (qe1 a))∧w5.cell? ⟨g,o+3,none⟩=some (.slice A0 (qdm a) k0)∧w5.cell? ⟨g,o+4,none⟩=some (.string ⟨(opT b).toArray⟩)∧w5.cell? ⟨g,o+5,none⟩=some (.string ⟨(qbP b).toArray⟩)∧w5.cell? ⟨g,o+6,none⟩=some (.int .i64 (qe1 b))∧w5.cell? ⟨g,o+7,none⟩=some (.slice A1 (qdm b) k1):=⟨(hF.kept hk5).c0,(hF.kept hk5).c2,(hF.kept hk5).c1,(h430.keptW hk5.below hgl).1,(h430.keptW hk5.below hgl).2.1,(h430.keptW hk5.below hgl).2.2.1,(h430.keptW hk5.below hgl).2.2.2,(h431.keptW hk5.below hgl).1,(h431.keptW hk5.below hgl).2.1,(h431.keptW hk5.below hgl).2.2.1,(h431.keptW hk5.below hgl).2.2.2⟩
    have cB:=ihb' _ (hB3.trans hk5.below) hW5
    go_wp2_with fail;refine hK.out _ _ hS5 (fun hHeld=>?_)
    clear hK K
    try simp only [Act.put,sIA,sC0,sCS]
    refine qae 11 rfl fun K hK=>?_
    go_simp;go_at_call 242
    (with_reducible refine cB.mono ?_)
    rintro e w4⟨hk4,rfl,hW4⟩
    replace hk4:=hk5.trans hk4
    have hS4:w4.cell? ⟨w.heap.size,0,none⟩=some (.pointer (some ⟨B,0,none⟩))∧w4.cell? ⟨w.heap.size+1+1,0,none⟩=some (.slice (some ⟨g,o,none⟩) 2 c)∧w4.cell? ⟨w.heap.size+1,0,none⟩=some (.string ⟨op.toArray⟩)∧w4.cell? ⟨g,o,none⟩=some (.string ⟨(opT a).toArray⟩)∧w4.cell? ⟨g,o+1,none⟩=some (.string ⟨(qbP a).toArray⟩)∧w4.cell? ⟨g,o+2,none⟩=some (.int .i64 (qe1 a))∧w4.cell? ⟨g,o+3,none⟩=some (.slice A0 (qdm a) k0)∧w4.cell? ⟨g,o+4,none⟩=some (.string ⟨(opT b).toArray⟩)∧w4.cell? ⟨g,o+5,none⟩=some (.string ⟨(qbP b).toArray⟩)∧w4.cell? ⟨g,o+6,none⟩=some (.int .i64 (qe1 b))∧w4.cell? ⟨g,o+7,none⟩=some (.slice A1 (qdm b) k1):=⟨(hF.kept hk4).c0,(hF.kept hk4).c2,(hF.kept hk4).c1,(h430.keptW hk4.below hgl).1,(h430.keptW hk4.below hgl).2.1,(h430.keptW hk4.below hgl).2.2.1,(h430.keptW hk4.below hgl).2.2.2,(h431.keptW hk4.below hgl).1,(h431.keptW hk4.below hgl).2.1,(h431.keptW hk4.below hgl).2.2.1,(h431.keptW hk4.below hgl).2.2.2⟩
    go_wp2_with fail;refine hK.out _ _ hS4 (fun hHeld=>?_)
    clear hK K
    try simp only [Act.put,sIA,sC0,sCS]
    refine qae 12 rfl fun K hK=>?_
    go_simp;go_at_call 275
    (with_reducible refine(cJ _).mono ?_)
    rintro e w8⟨he,rfl⟩;obtain rfl:e=.panicked [qeb er]:=he
    go_wp2_with fail;exact⟨rfl,by rw [HP.out];exact⟨hK3.trans hk4,rfl⟩⟩
   |ok n3=>
    rw [hj] at HE3 cJ;have HP:Hid (qa8 (qfx env) (.two op a b) s=.ok (n3,s2)):=hid HE3.out
    clear hj HE3;go_enter func242,ntmps242;go_wp2_with fail;rw [show((w.alloc (.cells #[.pointer (some ⟨B,0,none⟩)] 252)).alloc (.cells #[.string ⟨op.toArray⟩,.string ⟨#[]⟩,.int .i64 0,.slice (some ⟨g,o,none⟩) 2 c] 205)).alloc (.cells #[.slice (some ⟨g,o,none⟩) 2 c] 203)=w3 from HW3.out];refine wp_region_held_drew (S:=fun w'=>w'.cell? ⟨w.heap.size,0,none⟩=some (.pointer (some ⟨B,0,none⟩))∧w'.cell? ⟨w.heap.size+1+1,0,none⟩=some (.slice (some ⟨g,o,none⟩) 2 c)∧w'.cell? ⟨w.heap.size+1,0,none⟩=some (.string ⟨op.toArray⟩)∧w'.cell? ⟨g,o,none⟩=some (.string ⟨(opT a).toArray⟩)∧w'.cell? ⟨g,o+1,none⟩=some (.string ⟨(qbP a).toArray⟩)∧w'.cell? ⟨g,o+2,none⟩=some (.int .i64 (qe1 a))∧w'.cell? ⟨g,o+3,none⟩=some (.slice A0 (qdm a) k0)∧w'.cell? ⟨g,o+4,none⟩=some (.string ⟨(opT b).toArray⟩)∧w'.cell? ⟨g,o+5,none⟩=some (.string ⟨(qbP b).toArray⟩)∧w'.cell? ⟨g,o+6,none⟩=some (.int .i64 (qe1 b))∧w'.cell? ⟨g,o+7,none⟩=some (.slice A1 (qdm b) k1)) (by kernel_rfl) hS0 (fun hHeld=>?_)
    refine qai 0 142 (.pointer (some ⟨w.heap.size+1,0,none⟩)) rfl rfl (Or.inl ⟨by rfl,?_⟩) hHeld ?_
    ·intro w hSw;(try dsimp only at hSw);go_simp
    try simp only [Act.put,sIA,sC0,sCS]
    refine qai 1 143 (.string ⟨op.toArray⟩) rfl rfl (Or.inl ⟨by rfl,?_⟩) hHeld ?_
    ·intro w hSw;(try dsimp only at hSw);go_simp
    try simp only [Act.put,sIA,sC0,sCS]
    refine qai 2 144 (.pointer (some ⟨B,0,none⟩)) rfl rfl (Or.inl ⟨by rfl,?_⟩) hHeld ?_
    ·intro w hSw;(try dsimp only at hSw);go_simp
    try simp only [Act.put,sIA,sC0,sCS]
    refine qai 3 145 (.slice (some ⟨g,o,none⟩) 2 c) rfl rfl (Or.inl ⟨by rfl,?_⟩) hHeld ?_
    ·intro w hSw;(try dsimp only at hSw);go_simp
    try simp only [Act.put,sIA,sC0,sCS]
    refine qai 4 146 (.pointer (some ⟨g,o,none⟩)) rfl rfl (Or.inl ⟨by rfl,?_⟩) hHeld ?_
    ·intro w hSw;(try dsimp only at hSw);go_simp
    try simp only [Act.put,sIA,sC0,sCS]
    refine qai 5 147 (.agg #[.string ⟨(opT a).toArray⟩,.string ⟨(qbP a).toArray⟩,.int .i64 (qe1 a),.slice A0 (qdm a) k0]) rfl rfl (Or.inl ⟨by rfl,?_⟩) hHeld ?_
    ·intro w hSw;(try dsimp only at hSw);go_simp
    try simp only [Act.put,sIA,sC0,sCS]
    refine qai 7 149 (.pointer (some ⟨B,0,none⟩)) rfl rfl (Or.inl ⟨by rfl,?_⟩) hHeld ?_
    ·intro w hSw;(try dsimp only at hSw);go_simp
    try simp only [Act.put,sIA,sC0,sCS]
    refine qai 8 150 (.slice (some ⟨g,o,none⟩) 2 c) rfl rfl (Or.inl ⟨by rfl,?_⟩) hHeld ?_
    ·intro w hSw;(try dsimp only at hSw);go_simp
    try simp only [Act.put,sIA,sC0,sCS]
    refine qai 9 151 (.pointer (some ⟨g,o+4,none⟩)) rfl rfl (Or.inl ⟨by rfl,?_⟩) hHeld ?_
    ·intro w hSw;(try dsimp only at hSw);go_simp
    try simp only [Act.put,sIA,sC0,sCS]
    refine qai 10 152 (.agg #[.string ⟨(opT b).toArray⟩,.string ⟨(qbP b).toArray⟩,.int .i64 (qe1 b),.slice A1 (qdm b) k1]) rfl rfl (Or.inl ⟨by rfl,?_⟩) hHeld ?_
    ·intro w hSw;(try dsimp only at hSw);go_simp
    try simp only [Act.put,sIA,sC0,sCS]
    refine qae 6 rfl fun K hK=>?_
    go_simp;go_at_call 242
    (with_reducible refine cA.mono ?_)
    rintro e w5⟨hk5,rfl,hW5⟩;have hS5:w5.cell? ⟨w.heap.size,0,none⟩=some (.pointer (some ⟨B,0,none⟩))∧w5.cell? ⟨w.heap.size+1+1,0,none⟩=some (.slice (some ⟨g,o,none⟩) 2 c)∧w5.cell? ⟨w.heap.size+1,0,none⟩=some (.string ⟨op.toArray⟩)∧w5.cell? ⟨g,o,none⟩=some (.string ⟨(opT a).toArray⟩)∧w5.cell? ⟨g,o+1,none⟩=some (.string ⟨(qbP a).toArray⟩)∧w5.cell? ⟨g,o+2,none⟩=some (.int .i64 (qe1 a))∧w5.cell? ⟨g,o+3,none⟩=some (.slice A0 (qdm a) k0)∧w5.cell? ⟨g,o+4,none⟩=some (.string ⟨(opT b).toArray⟩)∧w5.cell? ⟨g,o+5,none⟩=some (.string ⟨(qbP b).toArray⟩)∧w5.cell? ⟨g,o+6,none⟩=some (.int .i64 (qe1 b))∧w5.cell? ⟨g,o+7,none⟩=some (.slice A1 (qdm b) k1):=⟨(hF.kept hk5).c0,(hF.kept hk5).c2,(hF.kept hk5).c1,(h430.keptW hk5.below hgl).1,(h430.keptW hk5.below hgl).2.1,(h430.keptW hk5.below hgl).2.2.1,(h430.keptW hk5.below hgl).2.2.2,(h431.keptW hk5.below hgl).1,(h431.keptW hk5.below hgl).2.1,(h431.keptW hk5.below hgl).2.2.1,(h431.keptW hk5.below hgl).2.2.2⟩
    have cB:=ihb' _ (hB3.trans hk5.below) hW5
    go_wp2_with fail;refine hK.out _ _ hS5 (fun hHeld=>?_)
    clear hK K
    try simp only [Act.put,sIA,sC0,sCS]
    refine qae 11 rfl fun K hK=>?_
    go_simp;go_at_call 242
    (with_reducible refine cB.mono ?_)
    rintro e w4⟨hk4,rfl,hW4⟩
    replace hk4:=hk5.trans hk4
    have hS4:w4.cell? ⟨w.heap.size,0,none⟩=some (.pointer (some ⟨B,0,none⟩))∧w4.cell? ⟨w.heap.size+1+1,0,none⟩=some (.slice (some ⟨g,o,none⟩) 2 c)∧w4.cell? ⟨w.heap.size+1,0,none⟩=some (.string ⟨op.toArray⟩)∧w4.cell? ⟨g,o,none⟩=some (.string ⟨(opT a).toArray⟩)∧w4.cell? ⟨g,o+1,none⟩=some (.string ⟨(qbP a).toArray⟩)∧w4.cell? ⟨g,o+2,none⟩=some (.int .i64 (qe1 a))∧w4.cell? ⟨g,o+3,none⟩=some (.slice A0 (qdm a) k0)∧w4.cell? ⟨g,o+4,none⟩=some (.string ⟨(opT b).toArray⟩)∧w4.cell? ⟨g,o+5,none⟩=some (.string ⟨(qbP b).toArray⟩)∧w4.cell? ⟨g,o+6,none⟩=some (.int .i64 (qe1 b))∧w4.cell? ⟨g,o+7,none⟩=some (.slice A1 (qdm b) k1):=⟨(hF.kept hk4).c0,(hF.kept hk4).c2,(hF.kept hk4).c1,(h430.keptW hk4.below hgl).1,(h430.keptW hk4.below hgl).2.1,(h430.keptW hk4.below hgl).2.2.1,(h430.keptW hk4.below hgl).2.2.2,(h431.keptW hk4.below hgl).1,(h431.keptW hk4.below hgl).2.1,(h431.keptW hk4.below hgl).2.2.1,(h431.keptW hk4.below hgl).2.2.2⟩
    go_wp2_with fail;refine hK.out _ _ hS4 (fun hHeld=>?_)
    clear hK K
    try simp only [Act.put,sIA,sC0,sCS]
    refine qae 12 rfl fun K hK=>?_
    go_simp;go_at_call 275
    (with_reducible refine(cJ _).mono ?_)
    rintro e w8⟨he,rfl⟩;obtain rfl:e=.returned (.int .i64 n3):=he
    go_wp2_with fail;refine hK.out _ _ hS4 (fun hHeld=>?_)
    clear hK K
    try simp only [Act.put,sIA,sC0,sCS]
    refine qae 13 rfl fun K hK=>?_
    go_simp;refine hK.out _ _ hS4 (fun hHeld=>?_)
    clear hK K
    try simp only [Act.put,sIA,sC0,sCS]
    refine wpAnyH_done (by kernel_rfl) ?_ _
    go_wp2_with fail;go_ret;exact(by rw [HP.out];exact⟨hK3.trans hk4,rfl,hW4⟩)
theorem qmZ (B:Nat) (n:Int) (A:Option Addr) (ln c:Nat) (w:World):
  Calls prog 270 #[.pointer (some ⟨B,0,none⟩),.agg #[.string ⟨#[]⟩,.string ⟨#[]⟩,.int .i64 n,.slice A ln c]] w fun e w'=>e=.returned (.int .i64 n)∧Below w.heap.size w w':=by
 have hX:qdY (w.alloc (.cells #[.string ⟨#[]⟩,.string ⟨#[]⟩,.int .i64 n,.slice A ln c] 205)) w.heap.size (.string ⟨#[]⟩) (.string ⟨#[]⟩) (.int .i64 n) (.slice A ln c):=heap_alloc_new _ _
 have hal:Below w.heap.size w (w.alloc (.cells #[.string ⟨#[]⟩,.string ⟨#[]⟩,.int .i64 n,.slice A ln c] 205)):=(Below.refl _ _).alloc (Nat.le_refl _) _
 have x1:=hX.a1;have x2:=hX.a2
 go_enter func270,ntmps270;go_wp2_with fail;go_ret;exact⟨rfl,hal⟩
theorem qlx (nm:List UInt8) (h0:nm≠[]) (N B:Nat) (D:List (List UInt8)) (env:qjN) (s:Asg) (n:Int) (A:Option Addr) (ln c:Nat) (w:World) (h:WorkAt w N B D env s) (hm:nm∈D):
  Calls prog 270 #[.pointer (some ⟨B,0,none⟩),.agg #[.string ⟨#[]⟩,.string ⟨nm.toArray⟩,.int .i64 n,.slice A ln c]] w fun e w'=>qbv (qem (qfx env) s nm) e∧Below w.heap.size w w':=by
 have hX:qdY (w.alloc (.cells #[.string ⟨#[]⟩,.string ⟨nm.toArray⟩,.int .i64 n,.slice A ln c] 205)) w.heap.size (.string ⟨#[]⟩) (.string ⟨nm.toArray⟩) (.int .i64 n) (.slice A ln c):=heap_alloc_new _ _
 have hal:Below w.heap.size w (w.alloc (.cells #[.string ⟨#[]⟩,.string ⟨nm.toArray⟩,.int .i64 n,.slice A ln c] 205)):=(Below.refl _ _).alloc (Nat.le_refl _) _
 have x1:=hX.a1;have x2:=hX.a2
 have cR:=qmu nm N B D env s _ (h.below hal) hm
 have e0:nm.isEmpty=false:=by cases nm with|nil=>exact absurd rfl h0|cons=>rfl
 have e1:(nm==[])=false:=by simpa using h0
 clear h hm hX;go_enter func270,ntmps270;generalize hw0:w.alloc (.cells #[.string ⟨#[]⟩,.string ⟨nm.toArray⟩,.int .i64 n,.slice A ln c] 205)=w0 at *;cases hr:qem (qfx env) s nm with
 |error er=>
  rw [hr] at cR;clear hr;go_wp2_with fail;refine cR.mono ?_;rintro e w1⟨he,hb1⟩;obtain rfl:e=.panicked [qeb er]:=he
  go_wp2_with fail;exact⟨rfl,rfl,qT hal hb1⟩
 |ok k=>
  rw [hr] at cR;clear hr;go_wp2_with fail;refine cR.mono ?_;rintro e w1⟨he,hb1⟩;obtain rfl:e=.returned (.int .i64 k):=he
  go_wp2_with fail;go_ret;exact⟨rfl,qT hal hb1⟩
theorem qoW (W0:World) (B:Nat) (D:List (List UInt8)) (env:qjN) (nm:List UInt8) (n:Int) (r:qoB D (.leaf nm n)):ValAt W0 B D env (.leaf nm n):=by
 intro A c s w hG hB hW _
 change Calls _ _ #[.pointer (some ⟨B,0,none⟩),.agg #[.string ⟨#[]⟩,.string ⟨nm.toArray⟩,.int .i64 n,.slice A 0 c]] _ _
 have hbW:=qkY w B [] nm n A 0 c
 have hF:=Fr.new w B [] nm n A 0 c
 have hW3:=hW.below hbW;have hK3:=hW.kept_below hbW;obtain⟨w3,hw3⟩:=qQ (W3v w B [] nm n A 0 c)
 have HW3:=hid hw3;rw [hw3] at hF hW3 hK3;have c0:=hF.c0;have c1:=hF.c1;have c1a:=hF.c1a;have c1b:=hF.c1b;have c1c:=hF.c1c
 clear hw3 hbW hW hG hF;by_cases h0:nm=[]
 ·subst h0
  have HE:Hid (qa8 (qfx env) (.leaf [] n) s=.ok (n,s)):=hid rfl
  have cL:=fun W=>qmZ B n A 0 c W
  go_enter func242,ntmps242;go_wp2_with fail;refine(cL _).mono ?_;rintro e w4⟨rfl,hb4⟩;rw [show((w.alloc (.cells #[.pointer (some ⟨B,0,none⟩)] 252)).alloc (.cells #[.string ⟨#[]⟩,.string ⟨#[]⟩,.int .i64 n,.slice A 0 c] 205)).alloc (.cells #[.slice A 0 c] 203)=w3 from HW3.out] at hb4;have HK:=hid (And.intro (hK3.trans (hW3.kept_below hb4)) (hW3.below hb4))
  clear hb4 hK3 hW3 cL;go_wp2_with fail;go_ret;exact(by rw [HE.out];exact⟨HK.out.1,rfl,HK.out.2⟩)
 ·have HE:Hid (qa8 (qfx env) (.leaf nm n) s=qbA (qem (qfx env) s nm) fun n=>.ok (n,s)):=hid (by rw [qa8,if_neg h0])
  have cL:=qlx nm h0 W0.heap.size B D env s n A 0 c w3 hW3 (r.2 h0)
  cases hr:qem (qfx env) s nm with
  |error er=>
   rw [hr] at cL HE;have HP:Hid (qa8 (qfx env) (.leaf nm n) s=.error er):=hid HE.out
   clear hr HE r;go_enter func242,ntmps242;go_wp2_with fail;rw [show((w.alloc (.cells #[.pointer (some ⟨B,0,none⟩)] 252)).alloc (.cells #[.string ⟨#[]⟩,.string ⟨nm.toArray⟩,.int .i64 n,.slice A 0 c] 205)).alloc (.cells #[.slice A 0 c] 203)=w3 from HW3.out];refine cL.mono ?_;rintro e w4⟨he,hb4⟩;obtain rfl:e=.panicked [qeb er]:=he
   have HK:=hid (hK3.trans (hW3.kept_below hb4))
   clear hb4 hK3 hW3 cL;go_wp2_with fail;exact⟨rfl,by rw [HP.out];exact⟨HK.out,rfl⟩⟩
  |ok k=>
   rw [hr] at cL HE;have HP:Hid (qa8 (qfx env) (.leaf nm n) s=.ok (k,s)):=hid HE.out
   clear hr HE r;go_enter func242,ntmps242;go_wp2_with fail;rw [show((w.alloc (.cells #[.pointer (some ⟨B,0,none⟩)] 252)).alloc (.cells #[.string ⟨#[]⟩,.string ⟨nm.toArray⟩,.int .i64 n,.slice A 0 c] 205)).alloc (.cells #[.slice A 0 c] 203)=w3 from HW3.out];refine cL.mono ?_;rintro e w4⟨he,hb4⟩;obtain rfl:e=.returned (.int .i64 k):=he
   have HK:=hid (And.intro (hK3.trans (hW3.kept_below hb4)) (hW3.below hb4))
   clear hb4 hK3 hW3 cL;go_wp2_with fail;go_ret;exact(by rw [HP.out];exact⟨HK.out.1,rfl,HK.out.2⟩)
def qqR (w:World) (vs:List V) (q:Except Int (Int×List V)) (e:Ending) (w':World):Prop:=
 ∃A' c' ys,e=.returned (.tuple #[.int .i64 (qzC q),.slice A' ys.length c',.int .i64 (qzB q)])∧qbN w' (fun g=>w.heap.size≤g) A' ys∧ys.map (·.v)=qzD vs q∧Below w.heap.size w w'
theorem WorkAt.high {w w':World} {N B:Nat} {D:List (List UInt8)} {env:qjN} {s:Asg} (h:WorkAt w N B D env s) (hb:∀k,N≤k→w'.heap[k]?=w.heap[k]?):WorkAt w' N B D env s:=by
 obtain⟨m,cnt,v,f,⟨h1,h2,h3,h4,h5⟩,hc⟩:=h.ex;refine { h with ex:=⟨m,cnt,v,f,⟨h1,(hb B h.le).trans h2,h3.block (hb m h1),qeI h4 fun g hg=>?_,h5⟩,hc⟩ }
 rcases h4.2 with ⟨rfl,_⟩|⟨g',cap,cur,rfl,hN,_,_⟩
 ·simp [Value.ownBlock] at hg
 ·obtain rfl:g'=g:=by simpa [Value.ownBlock] using hg
  exact hb _ hN
abbrev WE (w:World) (a0 a1 a2 a3:Value) (Av:Option Addr) (nv cv:Nat):World:=
 ((((w.alloc (.cells #[a0,a1,a2,a3] 205)).alloc (.cells #[.slice Av nv cv] 206)).alloc (.cells #[.int .i64 0] 3)).alloc (.cells #[.slice none 0 0] 206)).alloc (.cells #[.int .i64 0] 27)
theorem qt0 (w:World) (a0 a1 a2 a3:Value) (Av:Option Addr) (nv cv:Nat):Below w.heap.size w (WE w a0 a1 a2 a3 Av nv cv):=
 (((((Below.refl _ w).alloc (Nat.le_refl _) _).alloc (by simp) _).alloc (by simp;omega) _).alloc (by simp;omega) _).alloc (by simp;omega) _
theorem qwC (w:World) (a0 a1 a2 a3:Value) (Av:Option Addr) (nv cv:Nat):(WE w a0 a1 a2 a3 Av nv cv).heap.size=w.heap.size+5:=by simp
theorem qys (w:World) (a0 a1 a2 a3:Value) (Av:Option Addr) (nv cv:Nat):qdY (WE w a0 a1 a2 a3 Av nv cv) w.heap.size a0 a1 a2 a3:=
 (Below.heap_alloc _ _ _ (by simp;omega)).trans ((Below.heap_alloc _ _ _ (by simp;omega)).trans ((Below.heap_alloc _ _ _ (by simp;omega)).trans ((Below.heap_alloc _ _ _ (by simp)).trans (heap_alloc_new w _))))
theorem qzc (w:World) (a0 a1 a2 a3:Value) (Av:Option Addr) (nv cv:Nat):CE w.heap.size Av nv cv 0 (.slice none 0 0) 0 (WE w a0 a1 a2 a3 Av nv cv):=by
 refine⟨?_,?_,?_,?_⟩
 ·have:=heap_alloc_new (w.alloc (.cells #[a0,a1,a2,a3] 205)) (.cells #[.slice Av nv cv] 206)
  rw [World.size_alloc] at this;exact(Below.heap_alloc _ _ _ (by simp)).trans ((Below.heap_alloc _ _ _ (by simp)).trans ((Below.heap_alloc _ _ _ (by simp)).trans this))
 ·have:=heap_alloc_new ((w.alloc (.cells #[a0,a1,a2,a3] 205)).alloc (.cells #[.slice Av nv cv] 206)) (.cells #[.int .i64 0] 3)
  rw [World.size_alloc,World.size_alloc] at this;exact(Below.heap_alloc _ _ _ (by simp)).trans ((Below.heap_alloc _ _ _ (by simp)).trans this)
 ·have:=heap_alloc_new (((w.alloc (.cells #[a0,a1,a2,a3] 205)).alloc (.cells #[.slice Av nv cv] 206)).alloc (.cells #[.int .i64 0] 3)) (.cells #[.slice none 0 0] 206)
  rw [World.size_alloc,World.size_alloc,World.size_alloc] at this;exact(Below.heap_alloc _ _ _ (by simp)).trans this
 ·have:=heap_alloc_new ((((w.alloc (.cells #[a0,a1,a2,a3] 205)).alloc (.cells #[.slice Av nv cv] 206)).alloc (.cells #[.int .i64 0] 3)).alloc (.cells #[.slice none 0 0] 206)) (.cells #[.int .i64 0] 27)
  rw [World.size_alloc,World.size_alloc,World.size_alloc,World.size_alloc] at this;exact this
theorem qfi {P:Program} {fn:Func} {t1 t2:Array Value} {R:Ending→World→Prop} (h:results fn t1=results fn t2):∀(ds:List Deferred) (u:FrameMode) (w:World),Leaves P fn t1 R ds u w→Leaves P fn t2 R ds u w
 |[],.returning,w,hl=>by unfold Leaves at hl ⊢;rw [← h];exact hl
 |[],.panicking _,w,hl=>by unfold Leaves at hl ⊢;exact hl
 |[],.run,w,hl=>by unfold Leaves at hl;exact hl.elim
 |d::ds,u,w,hl=>by
  unfold Leaves at hl ⊢
  obtain⟨h1,fv,cap,f,args,h2,h3,h4⟩:=hl;refine⟨h1,fv,cap,f,args,h2,h3,h4.mono ?_⟩
  intro e u' w' h5
  cases e with
  |returned v=>exact qfi h ds _ _ h5
  |panicked c=>exact qfi h ds _ _ h5
  |outgrown=>exact h5
theorem qht {R:Ending→World→Prop} {d:Nat} {v:Value} {c:List PanicEntry} {a:Act} {w:World} (h4:d≠4) (h5:d≠5) (h6:d≠6) (h:bodyPostD prog Tryz.f199 R (.panic c) (a.put (some d) v) w):bodyPostD prog Tryz.f199 R (.panic c) a w:=by
 refine qfi ?_ _ _ _ h
 show results Tryz.f199 (a.tmps.setIfInBounds d v)=_
 unfold results;rw [Tryz.results199];simp [Array.getElem?_setIfInBounds_ne h4,Array.getElem?_setIfInBounds_ne h5,Array.getElem?_setIfInBounds_ne h6]
theorem qrv (t:T) (hval:∀W0 B D env,qoB D t→ValAt W0 B D env t) (A Av:Option Addr) (c cv:Nat) (lv:List VI) (w:World) (hT:GAt w A c (gOf t)) (hfine:fineT true t=true) (hh:hgt t≤60) (hs:szT t) (hV:qbN w (fun _=>True) Av lv) (hsz:(qbB (gOf t)+lv.length)*64≤140737488355328):
  Calls prog 199 #[.agg #[c0 t,c1 t,c2 t,.slice A (qdm t) c],.slice Av lv.length cv] w (qqR w (lv.map (·.v)) (qmH t (lv.map (·.v)))):=by
 have hmf:∀(fn:Fn) (first cap:Array Value) (w:World),(Instr.makeFunc fn first cap).run prog w=.ok (.func fn first cap) w:=fun _ _ _ _=>rfl
 obtain⟨e1,e2,e3,e4⟩:=qco t;have hB0:=qt0 w (c0 t) (c1 t) (c2 t) (.slice A (qdm t) c) Av lv.length cv
 have hs0:=qwC w (c0 t) (c1 t) (c2 t) (.slice A (qdm t) c) Av lv.length cv
 have hX0:=qys w (c0 t) (c1 t) (c2 t) (.slice A (qdm t) c) Av lv.length cv
 have hC0:=qzc w (c0 t) (c1 t) (c2 t) (.slice A (qdm t) c) Av lv.length cv
 have cK:=qo2 (gOf t) A c _ (hT.later hB0)
 rw [g0,g1,g2,e1,e2,e3,e4,qpb t hfine hh] at cK;have hDl:=qiI _ (gOf t) rfl []
 have hnm:=qfo t [] hs (by simp)
 have hrg:=qdM t [] hs
 have HV0:=hid (And.intro hV hT)
 have x0:=hX0.a0;have x1:=hX0.a1;have x2:=hX0.a2;have x3:=hX0.a3
 dsimp only [WE] at *
 clear hV hT;go_enter_defers func199,ntmps199
 go_wp2_with fail;generalize hW0:((((w.alloc (.cells #[c0 t,c1 t,c2 t,.slice A (qdm t) c] 205)).alloc (.cells #[.slice Av lv.length cv] 206)).alloc (.cells #[.int .i64 0] 3)).alloc (.cells #[.slice none 0 0] 206)).alloc (.cells #[.int .i64 0] 27)=W0 at *;clear hW0;refine cK.mono ?_;rintro e w1⟨rfl,hb1⟩;have hC1:=hC0.below hb1 (by omega)
 have hX1:=hX0.below hb1;have hB1:=qT hB0 hb1;have hT1:=HV0.out.2.later hB1;have hV1:=HV0.out.1.below hB1;have hs1:=hb1.size;have cB:=qq2 (gOf t) A Av c cv lv w1 hT1 hV1 (by omega) hnm (by omega)
 rw [g0,g1,g2,e1,e2,e3,e4] at cB;clear x0 x1 x2 x3 cK hX0 hC0 hB0 hb1;have x0:=hX1.a0;have x1:=hX1.a1;have x2:=hX1.a2;have x3:=hX1.a3
 have v1:=cell_of_one hC1.b1;go_wp2_with fail;refine cB.mono ?_;rintro e w2⟨B,rfl,hWk,hb2⟩;have cV:=hval w1 B _ (qqL lv) hrg A c [] w2 hT1 hb2 hWk (fun p hp=>by cases hp)
 rw [qyB] at cV;have hfit:=qbo (qgZ (lv.map (·.v))) t hrg [] (fun p hp=>by cases hp)
 have hX2:=hX1.below hb2;clear x0 x1 x2 x3 v1 cB;have x0:=hX2.a0;have x1:=hX2.a1;have x2:=hX2.a2;have x3:=hX2.a3
 have hC2:=hC1.below hb2 (by omega)
 cases hq:qa8 (qgZ (lv.map (·.v))) t [] with
 |error er=>
  rw [hq] at cV;have HQ:Hid (qmH t (lv.map (·.v))=.error er):=hid (by unfold qmH;rw [hq];rfl)
  clear hq hfit;go_wp2_with fail;refine cV.mono ?_;rintro e w3⟨hk3,rfl⟩;have hC3:=hC2.below hk3.below (by omega)
  have hB3:=hB1.trans ((hb2.trans hk3.below).mono hB1.size)
  have hV3:=HV0.out.1.below hB3;clear x0 x1 x2 x3 cV hWk hC2 hX2 hC1 hX1 hT1 hV1;go_wp2_with fail;refine leaves_cons (f:=240) (args:=#[.pointer (some ⟨w.heap.size+1,0,none⟩),.pointer (some ⟨w.heap.size+2,0,none⟩),.pointer (some ⟨w.heap.size+3,0,none⟩),.pointer (some ⟨w.heap.size+4,0,none⟩)]) (by simp) (by simp [go_sem]) ?_
  refine(qrt w.heap.size Av cv lv _ _ _ er [] _ hC3 hV3 (by omega)).mono ?_
  rintro e' u' w4⟨rfl,rfl,A',c',ys,hC4,hV4,hys,hb4⟩;have l2:=cell_of_one hC4.b2;have l3:=cell_of_one hC4.b3;have l4:=cell_of_one hC4.b4
  have HF:=hid (And.intro (hV4.frame (Q:=fun g=>w.heap.size≤g) (fun g _ hg=>⟨Nat.le_trans hB3.size hg,rfl⟩)) (And.intro hys (hB3.trans (hb4.mono (by omega)))))
  clear hC4 hV4 hys hb4 hC3 hV3;simp [Leaves,settle,results,Tryz.results199,go_sem,l2,l3,l4]
  rw [qqR,HQ.out];exact⟨A',c',ys,rfl,HF.out.1,HF.out.2.1,HF.out.2.2⟩
 |ok r=>
  obtain⟨n,s⟩:=r;rw [hq] at cV hfit;have HQ:Hid (qmH t (lv.map (·.v))=.ok (n,qkl V.nm (lv.map (·.v)) (qn8 s))):=hid (by unfold qmH;rw [hq];rfl)
  have hfs:qtP s:=hfit.2
  clear hq hfit;go_wp2_with fail;refine cV.mono ?_;rintro e w3⟨hk3,rfl,hWk3⟩;have hC3:=hC2.below hk3.below (by omega)
  have hB3:=hB1.trans ((hb2.trans hk3.below).mono hB1.size)
  clear x0 x1 x2 x3 cV hWk hC2 hX2 hC1 hX1 hT1 hV1;have a2:=cell_of_one hC3.b2;have f2:=free_of_one hC3.b2;have hsl:s.length≤_:=hWk3.short
  have hsn:s.length*64+lv.length*64≤140737488355328:=by
   simp at hDl
   omega
  have hB4:Below w.heap.size w (w3.setCell ⟨w.heap.size+2,0,none⟩ (.int .i64 n)):=hB3.setCell (p:=⟨w.heap.size+2,0,none⟩) (by show w.heap.size≤w.heap.size+2;omega) _
  have hC4:CE w.heap.size Av lv.length cv n (.slice none 0 0) 0 (w3.setCell ⟨w.heap.size+2,0,none⟩ (.int .i64 n)):=
   ⟨(qbt (by omega) _).trans hC3.b1,one_setCell hC3.b2,(qbt (by omega) _).trans hC3.b3,(qbt (by omega) _).trans hC3.b4⟩
  have hWk4:=hWk3.high (w':=w3.setCell ⟨w.heap.size+2,0,none⟩ (.int .i64 n)) (fun k hk=>qbt (by omega) _)
  go_wp2_with fail;obtain⟨w4,hw4⟩:=qQ (w3.setCell ⟨w.heap.size+2,0,none⟩ (.int .i64 n))
  rw [hw4] at hB4 hC4 hWk4 ⊢;have hs4:w3.heap.size≤w4.heap.size:=by rw [← hw4];exact(KeepsWalks.setCell w3 _ _).size
  clear hw4 a2 f2;have hb4:=hC4.lt;have cF:=qrL w1.heap.size B _ (qqL lv) s w4.drew hWk4.drew hfs (by omega)
  have hnd:((s.map qcx).map (·.v.nm)).Nodup:=by
   rw [List.map_map];exact hWk4.nodup
  have hSk:∀w',Below w4.heap.size w4 w'→w'.cell? ⟨w.heap.size+2,0,none⟩=some (.int .i64 n)∧w'.cell? ⟨w.heap.size+1,0,none⟩=some (.slice Av lv.length cv):=fun w' hb=>⟨cell_of_one (hC4.below hb hb4).b2,cell_of_one (hC4.below hb hb4).b1⟩
  have v0:=hSk _ (Below.refl _ w4)
  have v2:=v0.1;have v3:=v0.2;refine wp_region_held_drew (S:=fun w'=>w'.cell? ⟨w.heap.size+2,0,none⟩=some (.int .i64 n)∧w'.cell? ⟨w.heap.size+1,0,none⟩=some (.slice Av lv.length cv)) (by kernel_rfl) (hSk _ (Below.refl _ _).drew) (fun hHeld=>?_)
  refine qxY (i:=0) (v:=.int .i64 n) rfl (d:=some 24) rfl (by kernel_rfl) (by kernel_rfl) (by kernel_rfl) (fun _ _ _ h=>qht (by decide) (by decide) (by decide) h) (Or.inl ⟨by rfl,?_⟩) hHeld ?_
  ·intro w hSw;(try dsimp only at hSw);obtain⟨h1,h2⟩:=hSw;go_simp
  try simp only [Act.put,sIA,sC0,sCS]
  refine qxY (i:=1) (v:=.slice Av lv.length cv) rfl (d:=some 25) rfl (by kernel_rfl) (by kernel_rfl) (by kernel_rfl) (fun _ _ _ h=>qht (by decide) (by decide) (by decide) h) (Or.inl ⟨by rfl,?_⟩) hHeld ?_
  ·intro w hSw;(try dsimp only at hSw);obtain⟨h1,h2⟩:=hSw;go_simp
  try simp only [Act.put,sIA,sC0,sCS]
  refine qxY (i:=2) (v:=.pointer (some ⟨B,0,none⟩)) rfl (d:=some 26) rfl (by kernel_rfl) (by kernel_rfl) (by kernel_rfl) (fun _ _ _ h=>qht (by decide) (by decide) (by decide) h) (Or.inl ⟨by rfl,?_⟩) hHeld ?_
  ·intro w hSw;(try dsimp only at hSw);obtain⟨h1,h2⟩:=hSw;go_simp
  try simp only [Act.put,sIA,sC0,sCS]
  refine qae 3 rfl fun K hK=>?_
  go_simp;go_at_call 244
  refine cF.mono ?_;rintro e w5⟨Af,cf,rfl,hVF,hb5⟩;have hbb5:Below w4.heap.size w4 w5:=(Below.refl _ w4).drew.trans hb5
  have hS5:=hSk _ hbb5;have hVF5:=hVF.any;have hB5:=qT hB4 hbb5;have hV5:=HV0.out.1.below hB5;have cM:=qse Av Af lv.length cv (s.map qcx).length cf w5
  have cC:=qk5 Av Af cv cf lv (s.map qcx) w5 hV5 hVF5 hnd (by rw [List.length_map];omega)
  simp only [List.length_map] at cM cC
  have hbM:Below w5.heap.size w5 (qwD w5 Av Af lv.length cv s.length cf):=((Below.refl _ _).alloc (Nat.le_refl _) _).alloc (by simp) _
  have hS6:=hSk _ (qT hbb5 hbM)
  clear cF hVF hVF5 hV5 hbM hb5;go_wp2_with fail;refine hK.out _ _ hS5 (fun hHeld=>?_)
  clear hK K
  try simp only [Act.put,sIA,sC0,sCS]
  refine qae 4 rfl fun K hK=>?_
  go_simp;go_at_call 243
  refine cM.mono ?_;rintro e w6⟨rfl,rfl⟩;go_wp2_with fail;refine hK.out _ _ hS6 (fun hHeld=>?_)
  clear hK K
  try simp only [Act.put,sIA,sC0,sCS]
  refine qae 5 rfl fun K hK=>?_
  go_simp;go_at_call 238
  refine cC.mono ?_;rintro e w7⟨A',c',ys,rfl,hV7,hys,hb7⟩;have hbb7:Below w4.heap.size w4 w7:=qT hbb5 hb7
  have hC7:=hC4.below hbb7 hb4;have hS7:=hSk _ hbb7;have a2:=cell_of_one hC7.b2;have a3:=cell_of_one hC7.b3;have a4:=cell_of_one hC7.b4
  have f2:=free_of_one hC7.b2;have f3:=free_of_one hC7.b3;have f4:=free_of_one hC7.b4
  have hS8:(w7.setCell ⟨w.heap.size+2,0,none⟩ (.int .i64 n)).cell? ⟨w.heap.size+2,0,none⟩=some (.int .i64 n)∧(w7.setCell ⟨w.heap.size+2,0,none⟩ (.int .i64 n)).cell? ⟨w.heap.size+1,0,none⟩=some (.slice Av lv.length cv):=⟨cell_of_one (one_setCell hC7.b2),cell_of_one ((qbt (by omega) _).trans hC7.b1)⟩
  have hS9:((w7.setCell ⟨w.heap.size+2,0,none⟩ (.int .i64 n)).setCell ⟨w.heap.size+3,0,none⟩ (.slice A' ys.length c')).cell? ⟨w.heap.size+2,0,none⟩=some (.int .i64 n)∧((w7.setCell ⟨w.heap.size+2,0,none⟩ (.int .i64 n)).setCell ⟨w.heap.size+3,0,none⟩ (.slice A' ys.length c')).cell? ⟨w.heap.size+1,0,none⟩=some (.slice Av lv.length cv):=⟨cell_of_one ((qbt (by omega) _).trans (one_setCell hC7.b2)),cell_of_one ((qbt (by omega) _).trans ((qbt (by omega) _).trans hC7.b1))⟩
  have hS10:(qc7 w7 w.heap.size n (.slice A' ys.length c') 0).cell? ⟨w.heap.size+2,0,none⟩=some (.int .i64 n)∧(qc7 w7 w.heap.size n (.slice A' ys.length c') 0).cell? ⟨w.heap.size+1,0,none⟩=some (.slice Av lv.length cv):=⟨cell_of_one (hC7.stored n (.slice A' ys.length c') 0).b2,cell_of_one (hC7.stored n (.slice A' ys.length c') 0).b1⟩
  have hE7:=hC7.stored n (.slice A' ys.length c') 0
  have hw5:w.heap.size+4<w5.heap.size:=by have:=hbb5.size;omega
  have HF:=hid (And.intro (hV7.frame (Q:=fun g=>w.heap.size≤g) (w':=qc7 w7 w.heap.size n (.slice A' ys.length c') 0) (fun g _ hg=>⟨by have:w5.heap.size≤g:=hg;omega,qep (by have:w5.heap.size≤g:=hg;omega) _ _ _⟩)) (And.intro hys (qfu (qT hB4 hbb7) (Nat.le_add_right _ _) n (.slice A' ys.length c') 0)))
  clear hV7 hys hb7 hbb7 hSk cC hS5 hS6 hbb5 hB5 hC7 hWk4 hnd;go_wp2_with fail;refine hK.out _ _ hS7 (fun hHeld=>?_)
  clear hK K
  try simp only [Act.put,sIA,sC0,sCS]
  refine qae 6 rfl fun K hK=>?_
  go_simp;refine hK.out _ _ hS8 (fun hHeld=>?_)
  clear hK K
  try simp only [Act.put,sIA,sC0,sCS]
  refine qae 7 rfl fun K hK=>?_
  go_simp;refine hK.out _ _ hS9 (fun hHeld=>?_)
  clear hK K
  try simp only [Act.put,sIA,sC0,sCS]
  refine qae 8 rfl fun K hK=>?_
  go_simp;refine hK.out _ _ hS10 (fun hHeld=>?_)
  clear hK K
  try simp only [Act.put,sIA,sC0,sCS]
  refine wpAnyH_done (by kernel_rfl) ?_ _
  unfold qc7 at HF hE7;clear hHeld hS7 hS8 hS9 hS10 a2 a3 a4 f2 f3 f4;generalize ((w7.setCell ⟨w.heap.size+2,0,none⟩ (.int .i64 n)).setCell ⟨w.heap.size+3,0,none⟩ (.slice A' ys.length c')).setCell ⟨w.heap.size+4,0,none⟩ (.int .i64 0)=w9 at *;have l2:=cell_of_one hE7.b2;have l3:=cell_of_one hE7.b3;have l4:=cell_of_one hE7.b4
  go_wp2_with fail;refine leaves_cons (f:=240) (args:=#[.pointer (some ⟨w.heap.size+1,0,none⟩),.pointer (some ⟨w.heap.size+2,0,none⟩),.pointer (some ⟨w.heap.size+3,0,none⟩),.pointer (some ⟨w.heap.size+4,0,none⟩)]) (by simp) (by simp [go_sem]) ?_
  refine(qut _ _ _ _ _).mono ?_;rintro e' u' w10⟨rfl,rfl,rfl⟩;simp [Leaves,settle,results,Tryz.results199,go_sem,l2,l3,l4]
  rw [qqR,HQ.out];exact⟨A',c',ys,rfl,HF.out.1,HF.out.2.1.trans (by rw [quH];rfl),HF.out.2.2⟩
theorem qjr (nm:List UInt8) (n:Int):qbB (gOf (.leaf nm n))=1:=by rw [qfM];rfl
theorem qsm (op:List UInt8) (a b:T):qbB (gOf (.two op a b))=qbB (gOf a)+qbB (gOf b)+1:=by rw [qfM];show(qbB (gOf a)+(qbB (gOf b)+0))+1=_;omega
def tOp (op:List UInt8):T:=.two op (.leaf [109] 0) (.leaf [110] 0)
def mV (n:Int):V:=⟨[109],qaw n,false,[]⟩
def nV (n:Int):V:=⟨[110],qaw n,false,[]⟩
def qzu (op:List UInt8) (a b:Int):Except Int (Int×List V):=qbA (joinedE op a b) fun n=>.ok (n,[mV a,nV b])
theorem qwI (op:List UInt8) (a b:Int) (ha:R64' a) (hb:R64' b) (h1:op≠[38,38]) (h2:op≠[124,124]) (h3:op≠[61]) (h4:levL op≠2):qmH (tOp op) [mV a,nV b]=qzu op a b:=by
 have la:qa8 (qgZ [mV a,nV b]) (.leaf [109] 0) []=.ok (a,[]):=by
  show qbA (qem (qgZ [mV a,nV b]) [] [109]) _=_
  rw [show qem (qgZ [mV a,nV b]) [] [109]=.ok a from qjI [109] [] ha]
  rfl
 have lb:qa8 (qgZ [mV a,nV b]) (.leaf [110] 0) []=.ok (b,[]):=by
  show qbA (qem (qgZ [mV a,nV b]) [] [110]) _=_
  rw [show qem (qgZ [mV a,nV b]) [] [110]=.ok b from qjI [110] [] hb]
  rfl
 unfold qmH tOp qzu;rw [qa8,if_neg h1,if_neg h2,if_neg h3,if_neg h4,la];show qbA (qbA (qa8 (qgZ [mV a,nV b]) (.leaf [110] 0) []) _) _=_
 rw [lb];show qbA (qbA (joinedE op a b) _) _=_
 cases joinedE op a b<;>rfl
def okN:Except Int Int→Int|.ok n=>n|.error _=>0
def erN:Except Int Int→Int|.ok _=>0|.error m=>m
def TwoPost (w:World) (q:Except Int Int) (e:Ending) (w':World):Prop:=∃(A':Option Addr) (l c':Nat),e=.returned (.tuple #[.int .i64 (okN q),.slice A' l c',.int .i64 (erN q)])∧Below w.heap.size w w'
theorem eval_two (op:List UInt8) (hop:op∈joinOps) (a b:Int) (ha:R64' a) (hb:R64' b) (g:Nat) (Av:Option Addr) (cv:Nat) (ys:List VI) (w:World)
  (hg:w.heap[g]?=some (.cells #[.string ⟨#[]⟩,.string ⟨#[109]⟩,.int .i64 0,.slice none 0 0,.string ⟨#[]⟩,.string ⟨#[110]⟩,.int .i64 0,.slice none 0 0] 205 (0,0)))
  (hV:qbN w (fun _=>True) Av ys) (hy:ys.map (·.v)=[mV a,nV b]) (h1:op≠[38,38]) (h2:op≠[124,124]) (h3:op≠[61]) (h4:levL op≠2) (hf:fineT true (tOp op)=true) (hl:op.length≤2):
  Calls prog 199 #[.agg #[.string ⟨op.toArray⟩,.string ⟨#[]⟩,.int .i64 0,.slice (some ⟨g,0,none⟩) 2 2],.slice Av 2 cv] w (TwoPost w (joinedE op a b)):=by
 have hT:Tree w (fun _=>True) (some ⟨g,0,none⟩) 2 (tOp op):=⟨g,none,0,none,0,rfl,rfl,trivial,hg,⟨rfl,rfl⟩,⟨rfl,rfl⟩⟩
 have hs:szT (tOp op):=⟨by omega,⟨by decide,by unfold R64;omega⟩,⟨by decide,by unfold R64;omega⟩⟩
 have hn:ys.length=2:=by have:=congrArg List.length hy;simpa using this
 have h:=qrv (tOp op) (fun W0 B D env r=>qx6 W0 B D env op hop _ _ (qoW W0 B D env _ _ r.1) r.1 (qoW W0 B D env _ _ r.2) r.2) (some ⟨g,0,none⟩) Av 2 cv ys w (qbV _ hT hs) hf (by show max 1 1+1≤60;decide) hs hV (by rw [hn];unfold tOp;rw [qsm,qjr,qjr];omega)
 rw [hy,qwI op a b ha hb h1 h2 h3 h4,hn] at h;refine h.mono ?_;intro e w' he
 obtain⟨A',c',zs,e1,-,-,hbl⟩:=he;unfold qzu at e1;refine⟨A',zs.length,c',?_,hbl⟩
 rw [e1];cases joinedE op a b<;>rfl
end Go.Proofs.YtpodopnmkjinhaaGreatDoor.Cal
namespace Go.Proofs.YtpodopnmkjinhaaGreatDoor
open Go.Lib (hid)
open Go.RowKit
def qbX:List UInt8→List UInt8→List (List UInt8)
 |cur,[]=>[cur]
 |cur,c::r=>if c=47 then cur::qbX [] r else qbX (cur++[c]) r
def qbE (out:List (List UInt8)) (w:List UInt8):List (List UInt8):=if w=[]∨w=[46] then out else if w=[46,46] then out.dropLast else out++[w]
def qap (s:List UInt8):List (List UInt8):=(qbX [] s).foldl qbE []
def qad (l:List (List UInt8)):List UInt8:=l.flatMap fun w=>47::w
def joinL (l:List (List UInt8)):List UInt8:=if l=[] then [47] else qad l
def qhl (w:List UInt8):Prop:=w≠[]∧w≠[46]∧w≠[46,46]∧47∉w
theorem qhC:∀(w cur r:List UInt8),47∉w→qbX cur (w++r)=qbX (cur++w) r
 |[],cur,r,_=>by simp
 |c::w,cur,r,h=>by
  have hc:c≠47:=fun e=>h (by simp [e])
  have hw:47∉w:=fun e=>h (by simp [e])
  rw [List.cons_append,qbX,if_neg hc,qhC w (cur++[c]) r hw];simp
theorem qi8 (l:List (List UInt8)):(∀w∈l,47∉w)→∀cur,qbX cur (qad l)=cur::l:=by
 induction l with
 |nil=>intro _ cur;rfl
 |cons w r ih=>
  intro h cur
  show qbX cur (47::(w++qad r))=_
  rw [qbX,if_pos rfl,qhC w [] (qad r) (h w (by simp)),ih (fun x hx=>h x (by simp [hx]))]
  rfl
theorem qhD:∀(s cur:List UInt8),47∉cur→∀w∈qbX cur s,47∉w
 |[],cur,h,w,hw=>by
  obtain rfl:w=cur:=by simpa [qbX] using hw
  exact h
 |c::r,cur,h,w,hw=>by
  rw [qbX] at hw;split at hw
  ·rcases List.mem_cons.1 hw with rfl|hw
   ·exact h
   ·exact qhD r [] (by simp) w hw
  ·rename_i hc
   exact qhD r (cur++[c]) (by simp [h,Ne.symm hc]) w hw
theorem qj3:∀(s cur:List UInt8),∀w∈qbX cur s,∀c∈w,c∈cur∨c∈s
 |[],cur,w,hw,c,hc=>by
  obtain rfl:w=cur:=by simpa [qbX] using hw
  exact .inl hc
 |x::r,cur,w,hw,c,hc=>by
  rw [qbX] at hw;split at hw
  ·rcases List.mem_cons.1 hw with rfl|hw
   ·exact .inl hc
   ·rcases qj3 r [] w hw c hc with h|h
    ·cases h
    ·exact .inr (by simp [h])
  ·rcases qj3 r (cur++[x]) w hw c hc with h|h
   ·rcases List.mem_append.1 h with h|h
    ·exact .inl h
    ·exact .inr (by simp at h;simp [h])
   ·exact .inr (by simp [h])
theorem qfa:∀(s cur r:List UInt8),qbX cur (s++47::r)=qbX cur s++qbX [] r
 |[],cur,r=>by
  show(if(47:UInt8)=47 then cur::qbX [] r else qbX (cur++[47]) r)=[cur]++qbX [] r
  rw [if_pos rfl];rfl
 |c::s,cur,r=>by
  rw [List.cons_append,qbX,qbX];by_cases h:c=47
  ·rw [if_pos h,if_pos h,qfa s [] r];rfl
  ·rw [if_neg h,if_neg h,qfa s (cur++[c]) r]
theorem qqw {out:List (List UInt8)} {w:List UInt8} (h:qhl w):qbE out w=out++[w]:=by
 unfold qbE;rw [if_neg (by rintro(e|e);exact h.1 e;exact h.2.1 e),if_neg h.2.2.1]
theorem qll (l:List (List UInt8)):(∀w∈l,qhl w)→∀out,l.foldl qbE out=out++l:=by
 induction l with
 |nil=>intro _ out;simp
 |cons w r ih=>
  intro h out
  rw [List.foldl_cons,qqw (h w (by simp)),ih (fun x hx=>h x (by simp [hx]))];simp
theorem qkc {P:List UInt8→Prop} (l:List (List UInt8)) (hl:∀w∈l,(w≠[]∧w≠[46]∧w≠[46,46])→P w):∀out,(∀w∈out,P w)→∀w∈l.foldl qbE out,P w:=by
 induction l with
 |nil=>intro out h;exact h
 |cons x r ih=>
  intro out h
  rw [List.foldl_cons];refine ih (fun w hw=>hl w (by simp [hw])) _ fun w hw=>?_
  unfold qbE at hw;split at hw
  ·exact h w hw
  ·rename_i h1
   split at hw
   ·exact h w (List.dropLast_subset _ hw)
   ·rename_i h2
    rcases List.mem_append.1 hw with hw|hw
    ·exact h w hw
    ·obtain rfl:w=x:=by simpa using hw
     exact hl w (by simp) ⟨fun e=>h1 (.inl e),fun e=>h1 (.inr e),h2⟩
theorem qcc (s:List UInt8):∀w∈qap s,qhl w:=
 qkc (P:=qhl) _ (fun w hw h=>⟨h.1,h.2.1,h.2.2,qhD s [] (by simp) w hw⟩) [] (by simp)
theorem qlW (s:List UInt8):∀w∈qap s,∀c∈w,c∈s:=
 qkc (P:=fun w=>∀c∈w,c∈s) _ (fun w hw _ c hc=>(qj3 s [] w hw c hc).resolve_left (by simp)) [] (by simp)
theorem qcN (l:List (List UInt8)) (h:∀w∈l,qhl w):qap (joinL l)=l:=by
 by_cases hl:l=[]
 ·subst hl;rfl
 ·unfold qap joinL
  rw [if_neg hl,qi8 l (fun w hw=>(h w hw).2.2.2),List.foldl_cons,show qbE [] []=[] from rfl,qll l h]
  rfl
def qam (s:List UInt8):List UInt8:=joinL (qap s)
theorem qfR (s:List UInt8):qam (qam s)=qam s:=by
 show joinL (qap (joinL (qap s)))=_
 rw [qcN _ (qcc s)]
 rfl
theorem qh0 (l:List (List UInt8)):∃r,joinL l=47::r:=by
 cases l with
 |nil=>exact⟨[],rfl⟩
 |cons w r=>exact⟨w++qad r,rfl⟩
theorem ql9 {l:List (List UInt8)} {c:UInt8} (h:c∈qad l):c=47∨∃w∈l,c∈w:=by
 obtain⟨w,hw,hc⟩:=List.mem_flatMap.1 h;rcases List.mem_cons.1 hc with h|h
 ·exact .inl h
 ·exact .inr ⟨w,hw,h⟩
theorem qvh {s:List UInt8} {c:UInt8} (h:c∈qam s):c=47∨c∈s:=by
 unfold qam joinL at h;split at h
 ·simp at h;exact .inl h
 ·rcases ql9 h with h|⟨w,hw,hc⟩
  ·exact .inl h
  ·exact .inr (qlW s w hw c hc)
theorem qbh (l m:List (List UInt8)):qad (l++m)=qad l++qad m:=by simp [qad]
def qkO (l:List UInt8) (k f:Nat) (ls:List (List UInt8)):Prop:=
 (k≤l.length∧f≤k∧(qbX ((l.drop f).take (k-f)) (l.drop k)).foldl qbE ls=qap l)∨(k=l.length+1∧ls=qap l)
theorem qkO.start (l:List UInt8):qkO l 0 0 []:=.inl ⟨Nat.zero_le _,Nat.le_refl _,rfl⟩
theorem qkO.on {l:List UInt8} {k f:Nat} {ls:List (List UInt8)} (h:qkO l k f ls) (hk:k<l.length) (hc:l[k]≠47):qkO l (k+1) f ls:=by
 rcases h with ⟨h1,h2,h3⟩|⟨h1,_⟩
 ·refine .inl ⟨by omega,by omega,?_⟩
  rw [← h3,List.drop_eq_getElem_cons hk,qbX,if_neg hc]
  congr 2
  have e:k+1-f=(k-f)+1:=by omega
  have hg:(l.drop f)[k-f]?=some l[k]:=by
   rw [List.getElem?_drop,show f+(k-f)=k by omega,List.getElem?_eq_getElem hk]
  obtain⟨hlt,hge⟩:=List.getElem?_eq_some_iff.1 hg
  rw [e,List.take_succ_eq_append_getElem hlt,hge]
 ·omega
theorem qkO.cut {l:List UInt8} {k f:Nat} {ls:List (List UInt8)} (h:qkO l k f ls) (hk:k≤l.length) (hc:∀h:k<l.length,l[k]=47):qkO l (k+1) (k+1) (qbE ls ((l.drop f).take (k-f))):=by
 rcases h with ⟨h1,h2,h3⟩|⟨h1,_⟩
 ·by_cases hlt:k<l.length
  ·refine .inl ⟨by omega,Nat.le_refl _,?_⟩
   rw [← h3,List.drop_eq_getElem_cons hlt,hc hlt];rw [show qbX ((l.drop f).take (k-f)) (47::l.drop (k+1))=(l.drop f).take (k-f)::qbX [] (l.drop (k+1)) from if_pos rfl,List.foldl_cons,Nat.sub_self,List.take_zero]
  ·refine .inr ⟨by omega,?_⟩
   rw [← h3,show l.drop k=[] from List.drop_of_length_le (by omega)]
   rfl
 ·omega
theorem qtm (ls:List (List UInt8)) (w:List UInt8):(qbE ls w).length≤ls.length+1:=by
 unfold qbE;split
 ·omega
 ·split
  ·rw [List.length_dropLast];omega
  ·simp
end Go.Proofs.YtpodopnmkjinhaaGreatDoor
