/- What the statement of May12Said leans on, part 1. Conditions: each theorem's own. -/
import Derived.Test.YtpodopnmkjinhaaGreatDoorRows
import Derived.WalkKit
import Derived.ProofKit
import Derived.Outline
import Derived.Deep.QuietTactic
import Derived.BigQuiet
import Derived.Lib.Hide
import Derived.Below
import Derived.OneCell
import Derived.Lib.AppendStr
import Derived.WalkSpells
import Derived.WalkLawsBesides
import Derived.PlainAid
import Derived.Laws.Slices
import Derived.Lib.BufferMore
import Derived.Lib.BufferWrite
import Derived.Shelf.Strings.Builder1
import Derived.Shelf.Strings.Builder2
import Derived.Shelf.Strings.Trim
import Derived.Shelf.Small.Utf8
import Derived.Shelf.Small.Bits
import Derived.Shelf.Small.Strs
import Derived.Shelf.Small.Wraps
import Derived.Shelf.Strings.BuilderF
import Derived.Shelf.Strconv.Itoa0
import Derived.Shelf.LaysM
import Derived.Shelf.Strconv.Clone
import Derived.Shelf.Strings.Search1
import Derived.Shelf.Strings.Search2
import Derived.Shelf.Strings.Search3
import Derived.Shelf.Strings.Cut
import Derived.Shelf.Strings.Count
import Derived.Shelf.Strings.Shaped
import Derived.Shelf.Strings.LastIndex
import Derived.Shelf.Strings.Prefix
import Derived.Shelf.Strings.Fields
import Derived.Shelf.Unicode.Latin
import Derived.Shelf.Unicode.Decode
import Derived.Shelf.Strings.Runes
import Derived.Shelf.Strings.AsciiSet
import Derived.Shelf.Bits.Mul64
import Derived.Shelf.Strings.Repeat
import Derived.Shelf.Unicode.DecodeSlow
import Derived.Shelf.Unicode.Is16White
import Derived.Shelf.Unicode.IsSpaceAny
import Derived.Shelf.Unicode.Is16Any
import Derived.Shelf.Unicode.Is32Any
import Derived.Shelf.Unicode.ExclAny
import Derived.Shelf.Slices.Turned
import Derived.Shelf.Slices.CompactS
import Derived.Ground.Names2Prog
import Derived.Shelf.Slices.SearchI
import Derived.Shelf.Slices.Cells
import Derived.Ground.PaProg
import Derived.Shelf.Path.Small
import Derived.Test.YtpodopnmkjinhaaGreatDoorProg
import Derived.Shelf.Strings.SlTrimAscii
import Derived.Laws.Pointers
import Derived.Deep.LoopGhost
import Derived.Maps.OwnOps
import Derived.Laws.Rows
import Derived.RangeFuncBox
import Derived.Laws.OwnMore
import Derived.Maps.AppendAt
import Derived.Deep.RegionHeld3
import Derived.Deep.RegionLaw
import Derived.Deep.AppendLies
import Derived.Laws.EntriesVeiled
import Derived.RegionDies
import Derived.RangeFuncNested
import Derived.RangeFuncBound
import Derived.RangeFuncCalls
import Derived.RangeFuncLeaves
import Derived.Shelf.Abstract
import Derived.Shelf.RegionOpen
import Derived.OwnWalkIn
import Derived.TacticsInMore
import Derived.LoopNIn
import Derived.LoopIn
import Derived.OrdersIn
import Derived.Deep.RegionHeld
import Derived.Maps.OwnIn
import Derived.Deep.OwnRows
import Derived.Deep.RegionWith
import Derived.Defers
import Derived.Recover
import Derived.RegionTactic
import Derived.BigRegion
import Derived.Lib.IndexLaws
import Derived.Sort.OwnSorted
import Derived.Sort.Walk0
import Derived.Shelf.RegionOpenPlain
import Derived.Lib.Strings
import Derived.Lib.Slices
import Derived.Lib.Walk
import Derived.Lib.Builder
import Derived.Lib.UnsafeStr
import Derived.Laws.Externs
import Derived.OwnWalk
import Derived.Laws.MakeOwn
import Derived.Deep.Draws
import Derived.Lib.LastIndexByte
import Derived.IntWalk
import Derived.Sort.Grow
import Derived.Lib.Small
import Derived.Lib.Bytealg
import Derived.Shelf.SlSortCmp.QuietGrown
import Derived.Shelf.SlSortCmp.InsertionK
import Derived.Laws.IdiomCopy
import Derived.Laws.IdiomStrings
import Derived.Shelf.SlSortCmp.NoneTotal
import Derived.Laws.Tables
import Derived.Lib.Repeat
import Derived.Lib.Space
import Derived.Laws.BitsAllLaws
import Derived.StillTailTactics
import Derived.Lib.LaidTab
import Derived.MakeChecks
import Derived.LaidMore
import Derived.Stop.Joined
import Derived.OpenShut
import Derived.ChangeArms
import Derived.Deep.Slices
import Derived.SizedLaws
import Derived.Carry
import Derived.SliceStrings
import Derived.JoinedCond
import Derived.Deep.CondSized
import Derived.Lay
import Derived.SevenTiedAt
import Derived.Deep.DeepHandedRow
set_option linter.unusedSimpArgs false
set_option maxRecDepth 100000
set_option maxHeartbeats 8000000
open Go.Proofs.Tryz
open List renaming setIfInBounds_toArray → sIA, set_cons_zero → sC0, set_cons_succ → sCS
namespace Go.Proofs.YtpodopnmkjinhaaGreatDoor
open Go.RowKit
theorem qai {P:Program} {ops:Array Oper} {Q:Exit→Act→World→Prop} {md:Region.Mode} {S:World→Prop} {oi:Oper} {fuel:Nat} {listed l':Array Bool} {a a':Act} {w:World} (i d:Nat) (v:Value) (hi:ops[i]?=some oi) (hd:oi.dst=some d)
  (hy:YieldsIf P ops S oi v a) (hS:S w) (h:wpAnyH P md ops Q S fuel l' a' w)
  (hs:Region.noSelect ops=true:=by kernel_rfl) (hf:Region.free md ops listed i=true:=by kernel_rfl) (hr:(Region.ready md ops listed).contains i=true:=by kernel_rfl)
  (hQ:∀c a w,Q (.panic c) (a.put (some d) v) w→Q (.panic c) a w:=by exact fun _ _ _ h=>h)
  (hl:listed.setIfInBounds i true=l':=by(try simp only [List.setIfInBounds_toArray,List.set_cons_zero,List.set_cons_succ]);rfl)
  (ha:a.put (some d) v=a':=by(try simp only [Act.put,List.setIfInBounds_toArray,List.set_cons_zero,List.set_cons_succ]);rfl):wpAnyH P md ops Q S (fuel+1) listed a w:=by
 subst hl ha;exact wpAnyH_take hi hs hf hr (by rw [hd];exact hQ) hy hS (by rw [hd];exact h)
theorem qaa {P:Program} {ops:Array Oper} {Q:Exit→Act→World→Prop} {md:Region.Mode} {S:World→Prop} {oi:Oper} {fuel:Nat} {listed l':Array Bool} {a a':Act} {w:World} (i d:Nat) (v:Value) (hi:ops[i]?=some oi) (hd:oi.dst=some d)
  (hS:S w) (h:wpAnyH P md ops Q S fuel l' a' w) (hy:YieldsIf P ops S oi v a:=by exact Or.inl ⟨by rfl,fun w' _=>by go_simp⟩)
  (hs:Region.noSelect ops=true:=by kernel_rfl) (hf:Region.free md ops listed i=true:=by kernel_rfl) (hr:(Region.ready md ops listed).contains i=true:=by kernel_rfl)
  (hQ:∀c a w,Q (.panic c) (a.put (some d) v) w→Q (.panic c) a w:=by exact fun _ _ _ h=>h)
  (hl:listed.setIfInBounds i true=l':=by(try simp only [List.setIfInBounds_toArray,List.set_cons_zero,List.set_cons_succ]);rfl)
  (ha:a.put (some d) v=a':=by(try simp only [Act.put,List.setIfInBounds_toArray,List.set_cons_zero,List.set_cons_succ]);rfl):wpAnyH P md ops Q S (fuel+1) listed a w:=
 qai i d v hi hd hy hS h hs hf hr hQ hl ha
theorem qar {P:Program} {ops:Array Oper} {Q:Exit→Act→World→Prop} {md:Region.Mode} {S:World→Prop} {oi:Oper} {fuel:Nat} {listed l':Array Bool} {a a':Act} {w:World} (i d:Nat) (hi:ops[i]?=some oi) (hd:oi.dst=some d)
  (hS:S w) (h:wpAnyH P md ops Q S fuel l' a' w) (hy:YieldsIf P ops S oi undef a:=by exact Or.inr ⟨by rfl,rfl⟩)
  (hs:Region.noSelect ops=true:=by kernel_rfl) (hf:Region.free md ops listed i=true:=by kernel_rfl) (hr:(Region.ready md ops listed).contains i=true:=by kernel_rfl)
  (hQ:∀c a w,Q (.panic c) (a.put (some d) undef) w→Q (.panic c) a w:=by exact fun _ _ _ h=>h)
  (hl:listed.setIfInBounds i true=l':=by(try simp only [List.setIfInBounds_toArray,List.set_cons_zero,List.set_cons_succ]);rfl)
  (ha:a.put (some d) undef=a':=by(try simp only [Act.put,List.setIfInBounds_toArray,List.set_cons_zero,List.set_cons_succ]);rfl):wpAnyH P md ops Q S (fuel+1) listed a w:=
 qai i d undef hi hd hy hS h hs hf hr hQ hl ha
theorem qae {P:Program} {ops:Array Oper} {Q:Exit→Act→World→Prop} {md:Region.Mode} {S:World→Prop} {fuel:Nat} {listed:Array Bool} {a:Act} {w:World} {o:Oper} (i:Nat) (ho:ops[i]?=some o)
  (h:∀K':Act→World→Prop,Shut (∀a w,S w→(S w→wpAnyH P md ops Q S fuel (listed.setIfInBounds i true) a w)→K' a w)→if Region.wanted o (yielded ops a.tmps)=true then Oper.wp P o a w K' Q else K' (a.put o.dst undef) w)
  (hr:Region.ready md ops listed=[i]:=by kernel_rfl):wpAnyH P md ops Q S (fuel+1) listed a w:=
 wpAnyH_ready hr (by simp) (AllReadyH.cons ho h AllReadyH.nil)
theorem qaE {P:Program} {ops:Array Oper} {Q:Exit→Act→World→Prop} {md:Region.Mode} {S:World→Prop} {fuel:Nat} {l l':Array Bool} {a a':Act} {w:World} {K:Act→World→Prop} (hK:Shut (∀a w,S w→(S w→wpAnyH P md ops Q S fuel l a w)→K a w)) (hS:S w)
  (h:wpAnyH P md ops Q S fuel l' a' w) (hl:l=l':=by(try simp only [List.setIfInBounds_toArray,List.set_cons_zero,List.set_cons_succ]);rfl)
  (ha:a=a':=by(try simp only [Act.put,List.setIfInBounds_toArray,List.set_cons_zero,List.set_cons_succ]);rfl):K a w:=by
 subst hl ha;exact hK.out _ _ hS fun _=>h
theorem qT {a b c:World} (h:Below a.heap.size a b) (h':Below b.heap.size b c):Below a.heap.size a c:=h.trans (h'.mono h.size)
theorem qH {a b c:World} (h:Hid (Below a.heap.size a b)) (h':Below b.heap.size b c):Hid (Below a.heap.size a c):=Lib.hid (h.out.trans (h'.mono h.out.size))
theorem qQ {α:Type} (a:α):∃x,a=x:=⟨_,rfl⟩
end Go.Proofs.YtpodopnmkjinhaaGreatDoor
namespace Go.Proofs.YtpodopnmkjinhaaGreatDoor
open Go.Lib (hid)
open Go.RowKit
theorem qcH (c:UInt8):(((c.toNat:Nat):Int)).toNat.toUInt8=c:=by simp
theorem toList_data (s:ByteArray):s.toList=s.data.toList:=Lib.toList_data s
theorem qas (s:ByteArray):s.data.toList.length=s.size:=by rw [Array.length_toList];rfl
theorem getElem_toList (s:ByteArray) (k:Nat) (h:k<s.size):s.data.toList[k]'(by simpa using h)=s[k]:=rfl
theorem qkf:(prog.info? 5).map (fun i=>(i.zero,i.size,i.bytes))=some (some (.int .u8 0),1,1):=by kernel_rfl
def u8 (c:UInt8):Value:=.int .u8 c.toNat
theorem qcp {w:World} {N e k n:Nat} {v:Value} {xs:List Value} (h:w.ownsRow N e k v n xs):∃ao n' cap,v=.slice ao n' cap:=by
 rcases h.2 with ⟨hv,_⟩|⟨g,cap,cur,hv,_⟩
 ·exact⟨_,_,_,hv⟩
 ·exact⟨_,_,_,hv⟩
theorem qtq (s:ByteArray) (k:Nat) (h:k<s.size):s.data.toList.take (k+1)=s.data.toList.take k++[s[k]]:=by
 rw [List.take_succ_eq_append_getElem (by simpa using h)];rfl
theorem quc {w:World} {N g n cap:Nat} {l:List UInt8} (h:w.ownsRow N 5 1 (.slice (some ⟨g,0,none⟩) n cap) n (l.map u8)):
  (convert 69 9 (.slice (some ⟨g,0,none⟩) n cap)).run prog w=.ok (.string ⟨l.toArray⟩) w:=by
 have hn:l.length=n:=by have:=h.1;simpa using this
 subst hn;refine run_convert_bytes_back (P:=prog) w 69 9 5 ⟨g,0,none⟩ cap l underlying69 underlying5 underlying9 (fun j hj=>?_)
 exact h.cells (g:=g) rfl j _ (by simp [hj,u8])
theorem qf0 {c:UInt8} {n:Nat} (h:c≠n.toUInt8):((c.toNat:Int)==(n:Int))=false:=by
 have h2:c.toNat≠n:=fun e=>h (by rw [← e];simp)
 simp;omega
theorem qvc {w:World} {N:Nat} {v:Value} {l:List UInt8} {c:UInt8} (h:w.ownsRow N 5 1 v (l.length+1) (l.map u8++[.int .u8 c.toNat])):w.ownsRow N 5 1 v (l++[c]).length ((l++[c]).map u8):=by
 simpa [u8] using h
theorem qj1 {w:World} {N:Nat} {v:Value} {l:List UInt8} (h:w.ownsRow N 5 1 v l.length (l.map u8)):
  (convert 69 9 v).run prog w=.ok (.string ⟨l.toArray⟩) w:=by
 rcases h.2 with ⟨rfl,h0⟩|⟨g,cap,cur,rfl,_⟩
 ·obtain rfl:=List.eq_nil_of_length_eq_zero h0
  rw [run_convert_bytes_string w 69 9 5 none 0 0 underlying69 underlying5 underlying9]
  rfl
 ·exact quc h
theorem below_drewN {B:Nat} {a w:World} (h:Below B a w) (n:Nat):Below B a (w.drewN n):=⟨h.os,h.tape,h.output,h.size,h.block⟩
theorem qeX {w w':World} (h:Below w.heap.size w w') (row:Option Nat):w.grownBy w' row:=⟨h.os,h.tape,h.output,h.size,fun i hi _=>h.block i hi⟩
theorem own_below {w w':World} {N e k n:Nat} {v:Value} {xs:List Value} (h:w.ownsRow N e k v n xs) (hb:Below w.heap.size w w'):w'.ownsRow N e k v n xs:=by
 refine h.kept (qeX hb none) ?_
 cases v.ownBlock
 ·exact .inl rfl
 ·exact .inr (by simp)
theorem cell_below {w w':World} {a:Addr} {v:Value} (hb:Below w.heap.size w w') (h:w.cell? a=some v):w'.cell? a=some v:=
 (hb.cell (World.block_lt_of_cell? w a h)).trans h
def qeP (c:Int):Int:=if 48≤c∧c≤57 then c-48 else if 97≤c∧c≤102 then c-97+10 else if 65≤c∧c≤70 then c-65+10 else 16
theorem qhF (c:Int):0≤qeP c∧qeP c≤16:=by unfold qeP;split<;>(try split)<;>(try split)<;>omega
def qfC (b:Int) (l:List UInt8):Bool:=l.all fun c=>decide (qeP c.toNat<b)
def qa5 (b:Int):Int→List UInt8→Int
 |n,[]=>n
 |n,c::r=>qa5 b (n*b+qeP c.toNat) r
def U (x:Int):Int:=x%18446744073709551616
theorem qfs (x:Int):IntKind.u64.wrap x=U x:=IntKind.wrap_u64 x
theorem qv7 (x:Int):0≤U x∧U x≤18446744073709551615:=by unfold U;omega
theorem qy5 {x:Int} (h0:0≤x) (h1:x≤18446744073709551615):U x=x:=by unfold U;omega
theorem qwA (x y:Int):U (U x+y)=U (x+y):=by unfold U;omega
theorem qqU (x y:Int):U (U x*y)=U (x*y):=by unfold U;rw [Int.mul_emod,Int.emod_emod,← Int.mul_emod]
theorem qmz (x y:Int):U (x*U y)=U (x*y):=by rw [Int.mul_comm,qqU,Int.mul_comm]
theorem qyr (n b d:Int):U (U (U n*b)+d)=U (n*b+d):=by rw [qwA,← qwA (U n*b),qqU,qwA]
theorem qkL (x:Int):wrap64 (U x)=wrap64 x:=by unfold wrap64 U;omega
theorem qmv {x y:Int} (h:U x=U y):wrap64 x=wrap64 y:=by rw [← qkL x,h,qkL]
theorem qf6 {n:Int} (h0:-9223372036854775808≤n) (h1:n≤9223372036854775807):wrap64 n=n:=by unfold wrap64;omega
theorem qe6 (b:Int):∀(l m:List UInt8) (n:Int),qa5 b n (l++m)=qa5 b (qa5 b n l) m
 |[],_,_=>rfl
 |_::r,m,_=>qe6 b r m _
theorem qgU (b:Int) (l:List UInt8) (c:UInt8) (n:Int):qa5 b n (l++[c])=qa5 b n l*b+qeP c.toNat:=by rw [qe6];rfl
def qbr (b:Int) (l:List UInt8):Int×Bool:=if qfC b l then(U (qa5 b 0 l),!l.isEmpty) else(0,false)
def qcg (c:UInt8):Bool:=decide (48≤c.toNat∧c.toNat≤57)
theorem qks {k:IntKind} {a b:Int} (h:a=b):Ending.returned (.int k a)=.returned (.int k b):=by rw [h]
theorem qtL (c : Int) (h0 : 0 ≤ c) (h9 : c ≤ 255) (w : World) :
    Calls prog 211 #[.int .u8 c] w fun e w' => e = .returned (.int .u64 (qeP c)) ∧ w = w' := by
  by_cases h1 : 48 ≤ c <;> by_cases h2 : c ≤ 57 <;> by_cases h3 : 97 ≤ c <;> by_cases h4 : c ≤ 102 <;> by_cases h5 : 65 ≤ c <;> by_cases h6 : c ≤ 70
  all_goals
    first
    | (exfalso; omega)
    | (have H : Hid (qeP c = if 48 ≤ c ∧ c ≤ 57 then c - 48 else if 97 ≤ c ∧ c ≤ 102 then c - 97 + 10 else if 65 ≤ c ∧ c ≤ 70 then c - 65 + 10 else 16) := hid rfl
       go_enter func211, ntmps211
       go_wp2
       go_ret
       exact ⟨qks (by rw [H.out]; (repeat' split) <;> omega), rfl⟩)
theorem qkq (b:Int) (s:ByteArray) (w:World) (hs:s.size≤maxLen):
  Calls prog 175 #[.string s,.int .u64 b] w fun e w'=>e=.returned (.tuple #[.int .u64 (qbr b s.data.toList).1,.bool (qbr b s.data.toList).2])∧w=w':=by
 unfold maxLen at hs;go_enter func175,ntmps175;go_wp2;go_loop [4,10] (fun n i=>∃(k:Nat),k≤s.size∧i=.int .i64 k∧n=.int .u64 (U (qa5 b 0 (s.data.toList.take k)))∧Hid (qfC b (s.data.toList.take k)=true)) (fun _ i=>s.size-(intOf i).toNat)
 case atStart=>exact⟨0,Nat.zero_le _,rfl,rfl,hid rfl⟩
 case round=>
  obtain⟨k,hk,rfl,rfl,HG⟩:=hrel;obtain⟨n,hn⟩:=qQ (U (qa5 b 0 (s.data.toList.take k)))
  rw [hn];have hn0:0≤n∧n≤18446744073709551615:=by rw [← hn];exact qv7 _
  by_cases hlt:k<s.size
  ·have cD:=fun W=>qtL (s[k].toNat:Int) (by omega) (by have:=s[k].toNat_lt;omega) W
   have hlo:=qhF (s[k].toNat:Int)
   obtain⟨d,hdd⟩:=qQ (qeP (s[k].toNat:Int))
   rw [hdd] at cD hlo;have HT:Hid (s.data.toList.take (k+1)=s.data.toList.take k++[s[k]]):=hid (qtq s k hlt)
   have HDD:=hid hdd;have HN:=hid hn;clear hn hdd;by_cases h8:b≤d
   ·have HF:Hid (qbr b s.data.toList=(0,false)):=hid (by
     unfold qbr;rw [if_neg];rw [show s.data.toList=s.data.toList.take (k+1)++s.data.toList.drop (k+1) from(List.take_append_drop _ _).symm,HT.out];unfold qfC;simp only [List.all_append,List.all_cons,HDD.out]
     simp;intro _ hc;omega)
    go_wp2_with (go_at_call 211;refine(cD _).mono ?_;rintro e w' ⟨rfl,rfl⟩)
    go_ret2;exact⟨by rw [HF.out];rfl,rfl⟩
   ·have g2:decide (b≤d)=false:=by simpa using h8
    have HG2:Hid (qfC b (s.data.toList.take (k+1))=true):=hid (by
     have h1:=HG.out;rw [HT.out];unfold qfC at h1 ⊢
     simp only [List.all_append,List.all_cons,h1,HDD.out];simp;omega)
    have HV:Hid (U (qa5 b 0 (s.data.toList.take (k+1)))=U (U (n*b)+d)):=hid (by
     rw [HT.out,qgU,HDD.out,← HN.out,qyr])
    go_wp2_with (go_at_call 211;refine(cD _).mono ?_;rintro e w' ⟨rfl,rfl⟩)
    go_round
    case rel=>exact⟨k+1,by omega,by go_num,by rw [HV.out];simp only [qfs],HG2⟩
    case measure=>simp [intOf];omega
  ·obtain rfl:k=s.size:=by omega
   have HF:Hid (qbr b s.data.toList=(n,!s.data.toList.isEmpty)):=hid (by
    have ht:s.data.toList.take s.size=s.data.toList:=List.take_of_length_le (by rw [qas];exact Nat.le_refl _)
    have h1:=HG.out;rw [ht] at h1 hn;unfold qbr;rw [if_pos h1,hn])
   clear hn HG;go_wp2;go_ret2;refine⟨?_,rfl⟩
   rw [HF.out,← toList_data]
   rfl
def qaR:List UInt8→List UInt8×Int
 |c::d::r=>if c=48 then(if d=120∨d=88 then(r,16) else(d::r,8)) else(c::d::r,10)
 |l=>(l,10)
theorem qmi {l:List UInt8} (h:l.length<2):qaR l=(l,10):=by
 match l,h with
 |[],_=>rfl
 |[_],_=>rfl
 |_::_::_,h=>simp at h;omega
theorem qnw (l : List UInt8) : (qaR l).2 = 10 ∨ (qaR l).2 = 16 ∨ (qaR l).2 = 8 := by
  match l with
  | [] => simp [qaR]
  | [_] => simp [qaR]
  | c :: d :: r => rw [qaR]; split
                   · split
                     · exact .inr (.inl rfl)
                     · exact .inr (.inr rfl)
                   · exact .inl rfl
theorem qqv (l : List UInt8) : (qaR l).1.length ≤ l.length := by
  match l with
  | [] => simp [qaR]
  | [_] => simp [qaR]
  | c :: d :: r => rw [qaR]; split
                   · split
                     · simp only [List.length_cons]; omega
                     · simp only [List.length_cons]; omega
                   · exact Nat.le_refl _
theorem qi2 (s:ByteArray):(⟨s.data.toList.toArray⟩:ByteArray)=s:=by cases s;simp
theorem extract_from (s:ByteArray) (k:Nat):s.extract k s.size=⟨(s.data.toList.drop k).toArray⟩:=by
 cases s with
 |mk d=>
  rw [ByteArray.extract_mk]
  congr 1
  rw [← Array.toList_inj];simp [ByteArray.size]
  exact List.take_of_length_le (by simp)
theorem qqA (s:ByteArray) (h:2≤s.size):s.data.toList=s[0]::s[1]::s.data.toList.drop 2:=by
 have h1:s.data.toList.drop 0=s[0]::s.data.toList.drop 1:=List.drop_eq_getElem_cons (by rw [qas];omega)
 have h2:s.data.toList.drop 1=s[1]::s.data.toList.drop 2:=List.drop_eq_getElem_cons (by rw [qas];omega)
 rw [← h2,← h1];rfl
theorem qtk (s:ByteArray) (w:World) (hs:s.size≤maxLen):
  Calls prog 246 #[.string s] w fun e w'=>e=.returned (.tuple #[.string ⟨(qaR s.data.toList).1.toArray⟩,.int .u64 (qaR s.data.toList).2])∧w=w':=by
 unfold maxLen at hs;by_cases h2:s.size<2
 ·have HE:Hid (qaR s.data.toList=(s.data.toList,10)):=hid (qmi (by rw [qas];omega))
  go_enter func246,ntmps246;go_wp2;go_ret2;exact⟨by rw [HE.out,qi2];rfl,rfl⟩
 ·have HD:Hid (s.data.toList=s[0]::s[1]::s.data.toList.drop 2):=hid (qqA s (by omega))
  have h1:s.data.toList.drop 1=s[1]::s.data.toList.drop 2:=List.drop_eq_getElem_cons (by rw [qas];omega)
  have HX1:Hid (s.extract 1 s.size=⟨(s[1]::s.data.toList.drop 2).toArray⟩):=hid (by rw [extract_from,h1])
  have HX2:Hid (s.extract 2 s.size=⟨(s.data.toList.drop 2).toArray⟩):=hid (extract_from s 2)
  clear h1;have gs:decide ((s.size:Int)<2)=false:=by simp;omega
  obtain⟨r,hr⟩:=qQ (s.data.toList.drop 2)
  rw [hr] at HD HX1 HX2;clear hr;by_cases h0:s[0]=48
  ·have g0:((s[0].toNat:Int) !=48)=false:=by rw [h0];rfl
   by_cases hx:s[1]=120
   ·have g1:((s[1].toNat:Int)==120)=true:=by rw [hx];rfl
    have HE:Hid (qaR s.data.toList=(r,16)):=hid (by rw [HD.out,qaR,if_pos h0,if_pos (.inl hx)])
    clear h0 hx;go_enter func246,ntmps246;go_wp2;go_ret2;exact⟨by rw [HE.out,← HX2.out];rfl,rfl⟩
   ·have g1:((s[1].toNat:Int)==120)=false:=qf0 (n:=120) hx
    by_cases hX:s[1]=88
    ·have g2:((s[1].toNat:Int)==88)=true:=by rw [hX];rfl
     have HE:Hid (qaR s.data.toList=(r,16)):=hid (by rw [HD.out,qaR,if_pos h0,if_pos (.inr hX)])
     clear h0 hx hX;go_enter func246,ntmps246;go_wp2;go_ret2;exact⟨by rw [HE.out,← HX2.out];rfl,rfl⟩
    ·have g2:((s[1].toNat:Int)==88)=false:=qf0 (n:=88) hX
     have HE:Hid (qaR s.data.toList=(s[1]::r,8)):=hid (by rw [HD.out,qaR,if_pos h0,if_neg (by simp [hx,hX])])
     clear h0 hx hX;go_enter func246,ntmps246;go_wp2;go_ret2;exact⟨by rw [HE.out,← HX1.out];rfl,rfl⟩
  ·have g0:((s[0].toNat:Int) !=48)=true:=by have e:=qf0 (n:=48) h0;simpa [bne] using e
   have HE:Hid (qaR s.data.toList=(s.data.toList,10)):=hid (by rw [HD.out,qaR,if_neg h0])
   clear h0;go_enter func246,ntmps246;go_wp2;go_ret2;exact⟨by rw [HE.out,qi2];rfl,rfl⟩
def qlD (l:List UInt8):Int×Int:=if(qbr (qaR l).2 (qaR l).1).2 then(wrap64 (qbr (qaR l).2 (qaR l).1).1,0) else(0,33)
theorem qh9 (s:ByteArray) (w:World) (hs:s.size≤maxLen):
  Calls prog 204 #[.string s] w fun e w'=>e=.returned (.tuple #[.int .i64 (qlD s.data.toList).1,.int .i64 (qlD s.data.toList).2])∧w=w':=by
 have cS:=fun W=>qtk s W hs
 have hb:=qnw s.data.toList;have hl:=qqv s.data.toList;rw [qas] at hl;have HE:Hid (qlD s.data.toList=if(qbr (qaR s.data.toList).2 (qaR s.data.toList).1).2 then(wrap64 (qbr (qaR s.data.toList).2 (qaR s.data.toList).1).1,0) else(0,33)):=hid rfl
 obtain⟨t,ht⟩:=qQ ((qaR s.data.toList).1)
 obtain⟨b,hbb⟩:=qQ ((qaR s.data.toList).2)
 rw [ht,hbb] at cS HE;rw [hbb] at hb;rw [ht] at hl;have cR:=fun W=>qkq b ⟨t.toArray⟩ W (by show t.toArray.size≤maxLen;simp;omega)
 rw [show(⟨t.toArray⟩:ByteArray).data.toList=t from by simp] at cR;clear ht hbb hb hl;obtain⟨n,hn⟩:=qQ ((qbr b t).1)
 obtain⟨g,hg⟩:=qQ ((qbr b t).2)
 rw [hn,hg] at cR HE;clear hn hg;cases g
 ·rw [if_neg (by decide)] at HE
  go_enter func204,ntmps204;go_wp2_with (first|(go_at_call 246;(with_reducible refine(cS _).mono ?_);rintro e w1 ⟨rfl,rfl⟩)|(go_at_call 175;(with_reducible refine(cR _).mono ?_);rintro e w1 ⟨rfl,rfl⟩))
  go_ret2;exact⟨by rw [HE.out];rfl,rfl⟩
 ·rw [if_pos rfl] at HE
  go_enter func204,ntmps204;go_wp2_with (first|(go_at_call 246;(with_reducible refine(cS _).mono ?_);rintro e w1 ⟨rfl,rfl⟩)|(go_at_call 175;(with_reducible refine(cR _).mono ?_);rintro e w1 ⟨rfl,rfl⟩))
  go_ret2;exact⟨by rw [HE.out];rfl,rfl⟩
theorem qsn (n:Int) (h0:-9223372036854775808≤n) (h1:n≤9223372036854775807) (w:World):
  Calls prog 156 #[.int .i64 n] w fun e w'=>e=.returned (.int .u64 (if n<0 then -n else n))∧w=w':=by
 by_cases hn:n<0
 ·go_enter func156,ntmps156
  go_wp2;go_ret;exact⟨qks (by simp only [IntKind.wrap_u64];omega),rfl⟩
 ·go_enter func156,ntmps156
  go_wp2;go_ret;exact⟨rfl,rfl⟩
end Go.Proofs.YtpodopnmkjinhaaGreatDoor
namespace Go.Proofs
open Go.Shelf
def Tryz.lays161_ren:Go.Shelf.Ren:=⟨fun|161=>182|231=>136|227=>138|233=>139|235=>141|228=>186|197=>187|151=>188|260=>231|152=>232|137=>46|119=>261|224=>218|225=>217|217=>97|266=>161|n=>n,fun|9=>9|4=>4|3=>3|5=>5|117=>156|116=>155|0=>0|124=>159|105=>195|21=>21|119=>108|46=>179|139=>278|138=>277|n=>n,fun|3=>3|4=>4|n=>n⟩
theorem Tryz.lays161:Go.Proofs.Lays.n161 prog Tryz.lays161_ren:={
 mixed:=by kernel_rfl
 f119:=func261.trans (congrArg some (by kernel_rfl))
 f137:=func46.trans (congrArg some (by kernel_rfl))
 f151:=func188.trans (congrArg some (by kernel_rfl))
 f152:=func232.trans (congrArg some (by kernel_rfl))
 f161:=func182.trans (congrArg some (by kernel_rfl))
 f197:=func187.trans (congrArg some (by kernel_rfl))
 f217:=func97.trans (congrArg some (by kernel_rfl))
 f224:=func218.trans (congrArg some (by kernel_rfl))
 f225:=func217.trans (congrArg some (by kernel_rfl))
 f227:=func138.trans (congrArg some (by kernel_rfl))
 f228:=func186.trans (congrArg some (by kernel_rfl))
 f231:=func136.trans (congrArg some (by kernel_rfl))
 f233:=func139.trans (congrArg some (by kernel_rfl))
 f235:=func141.trans (congrArg some (by kernel_rfl))
 f260:=func231.trans (congrArg some (by kernel_rfl))
 f266:=func161.trans (congrArg some (by kernel_rfl))
 t0:=underlying0
 a0:=Tryz.isAgg0
 z0:=Tryz.sizeOf0
 v0:=Tryz.zeroValue0
 t3:=underlying3
 a3:=Tryz.isAgg3
 z3:=Tryz.sizeOf3
 v3:=Tryz.zeroValue3
 t4:=underlying4
 a4:=Tryz.isAgg4
 z4:=Tryz.sizeOf4
 v4:=Tryz.zeroValue4
 t5:=underlying5
 a5:=Tryz.isAgg5
 z5:=Tryz.sizeOf5
 v5:=Tryz.zeroValue5
 t9:=underlying9
 a9:=Tryz.isAgg9
 z9:=Tryz.sizeOf9
 v9:=Tryz.zeroValue9
 t21:=underlying21
 a21:=Tryz.isAgg21
 z21:=Tryz.sizeOf21
 v21:=Tryz.zeroValue21
 t46:=underlying179
 a46:=Tryz.isAgg179
 z46:=Tryz.sizeOf179
 v46:=Tryz.zeroValue179
 t105:=underlying195
 a105:=Tryz.isAgg195
 z105:=Tryz.sizeOf195
 v105:=Tryz.zeroValue195
 t116:=underlying155
 a116:=Tryz.isAgg155
 z116:=Tryz.sizeOf155
 t117:=underlying156
 a117:=Tryz.isAgg156
 z117:=Tryz.sizeOf156
 v117:=Tryz.zeroValue156
 t119:=underlying108
 a119:=Tryz.isAgg108
 z119:=Tryz.sizeOf108
 t124:=underlying159
 a124:=Tryz.isAgg159
 z124:=Tryz.sizeOf159
 v124:=Tryz.zeroValue159
 t138:=underlying277
 a138:=Tryz.isAgg277
 z138:=Tryz.sizeOf277
 v138:=Tryz.zeroValue277
 t139:=underlying278
 a139:=Tryz.isAgg278
 z139:=Tryz.sizeOf278
 v139:=Tryz.zeroValue278
 g3:=by kernel_rfl
 g4:=by kernel_rfl }
open Go.RowKit in
theorem Tryz.strings_TrimLeft_one (s:ByteArray) (c:UInt8) (hc:c.toNat<128) (w:World):
  Calls prog 182 #[.string s,.string ⟨#[c]⟩] w fun e w'=>e=.returned (.string ⟨(Lib.trimLeftB s.data.toList c).toArray⟩)∧w'=w:=Any.strings_TrimLeft_one Tryz.lays161 s c hc w
def Tryz.lays162_ren:Go.Shelf.Ren:=⟨fun|162=>157|232=>137|227=>138|234=>140|236=>142|228=>186|271=>189|151=>188|120=>233|197=>187|152=>232|260=>231|137=>46|119=>261|224=>218|225=>217|217=>97|266=>161|n=>n,fun|9=>9|4=>4|3=>3|5=>5|117=>156|116=>155|0=>0|124=>159|21=>21|105=>195|46=>179|119=>108|139=>278|138=>277|n=>n,fun|3=>3|4=>4|n=>n⟩
theorem Tryz.lays162:Go.Proofs.Lays.n162 prog Tryz.lays162_ren:={
 mixed:=by kernel_rfl
 f119:=func261.trans (congrArg some (by kernel_rfl))
 f120:=func233.trans (congrArg some (by kernel_rfl))
 f137:=func46.trans (congrArg some (by kernel_rfl))
 f151:=func188.trans (congrArg some (by kernel_rfl))
 f152:=func232.trans (congrArg some (by kernel_rfl))
 f162:=func157.trans (congrArg some (by kernel_rfl))
 f197:=func187.trans (congrArg some (by kernel_rfl))
 f217:=func97.trans (congrArg some (by kernel_rfl))
 f224:=func218.trans (congrArg some (by kernel_rfl))
 f225:=func217.trans (congrArg some (by kernel_rfl))
 f227:=func138.trans (congrArg some (by kernel_rfl))
 f228:=func186.trans (congrArg some (by kernel_rfl))
 f232:=func137.trans (congrArg some (by kernel_rfl))
 f234:=func140.trans (congrArg some (by kernel_rfl))
 f236:=func142.trans (congrArg some (by kernel_rfl))
 f260:=func231.trans (congrArg some (by kernel_rfl))
 f266:=func161.trans (congrArg some (by kernel_rfl))
 f271:=func189.trans (congrArg some (by kernel_rfl))
 t0:=underlying0
 a0:=Tryz.isAgg0
 z0:=Tryz.sizeOf0
 v0:=Tryz.zeroValue0
 t3:=underlying3
 a3:=Tryz.isAgg3
 z3:=Tryz.sizeOf3
 v3:=Tryz.zeroValue3
 t4:=underlying4
 a4:=Tryz.isAgg4
 z4:=Tryz.sizeOf4
 v4:=Tryz.zeroValue4
 t5:=underlying5
 a5:=Tryz.isAgg5
 z5:=Tryz.sizeOf5
 v5:=Tryz.zeroValue5
 t9:=underlying9
 a9:=Tryz.isAgg9
 z9:=Tryz.sizeOf9
 v9:=Tryz.zeroValue9
 t21:=underlying21
 a21:=Tryz.isAgg21
 z21:=Tryz.sizeOf21
 v21:=Tryz.zeroValue21
 t46:=underlying179
 a46:=Tryz.isAgg179
 z46:=Tryz.sizeOf179
 v46:=Tryz.zeroValue179
 t105:=underlying195
 a105:=Tryz.isAgg195
 z105:=Tryz.sizeOf195
 v105:=Tryz.zeroValue195
 t116:=underlying155
 a116:=Tryz.isAgg155
 z116:=Tryz.sizeOf155
 t117:=underlying156
 a117:=Tryz.isAgg156
 z117:=Tryz.sizeOf156
 v117:=Tryz.zeroValue156
 t119:=underlying108
 a119:=Tryz.isAgg108
 z119:=Tryz.sizeOf108
 t124:=underlying159
 a124:=Tryz.isAgg159
 z124:=Tryz.sizeOf159
 v124:=Tryz.zeroValue159
 t138:=underlying277
 a138:=Tryz.isAgg277
 z138:=Tryz.sizeOf277
 v138:=Tryz.zeroValue277
 t139:=underlying278
 a139:=Tryz.isAgg278
 z139:=Tryz.sizeOf278
 v139:=Tryz.zeroValue278
 g3:=by kernel_rfl
 g4:=by kernel_rfl }
open Go.RowKit in
theorem Tryz.strings_TrimRight_one (s:ByteArray) (c:UInt8) (hc:c.toNat<128) (w:World) (hs:s.size≤9223372036854775807):
  Calls prog 157 #[.string s,.string ⟨#[c]⟩] w fun e w'=>e=.returned (.string ⟨(Lib.trimRightB s.data.toList c).toArray⟩)∧w'=w:=Any.strings_TrimRight_one Tryz.lays162 s c hc w hs
def Tryz.lays160_ren:Go.Shelf.Ren:=⟨fun|160=>79|232=>137|231=>136|227=>138|234=>140|233=>139|236=>142|235=>141|228=>186|271=>189|151=>188|197=>187|120=>233|152=>232|260=>231|137=>46|119=>261|224=>218|225=>217|217=>97|266=>161|n=>n,fun|9=>9|4=>4|3=>3|5=>5|117=>156|116=>155|0=>0|124=>159|21=>21|105=>195|46=>179|119=>108|139=>278|138=>277|n=>n,fun|3=>3|4=>4|n=>n⟩
theorem Tryz.lays160:Go.Proofs.Lays.n160 prog Tryz.lays160_ren:={
 mixed:=by kernel_rfl
 f119:=func261.trans (congrArg some (by kernel_rfl))
 f120:=func233.trans (congrArg some (by kernel_rfl))
 f137:=func46.trans (congrArg some (by kernel_rfl))
 f151:=func188.trans (congrArg some (by kernel_rfl))
 f152:=func232.trans (congrArg some (by kernel_rfl))
 f160:=func79.trans (congrArg some (by kernel_rfl))
 f197:=func187.trans (congrArg some (by kernel_rfl))
 f217:=func97.trans (congrArg some (by kernel_rfl))
 f224:=func218.trans (congrArg some (by kernel_rfl))
 f225:=func217.trans (congrArg some (by kernel_rfl))
 f227:=func138.trans (congrArg some (by kernel_rfl))
 f228:=func186.trans (congrArg some (by kernel_rfl))
 f231:=func136.trans (congrArg some (by kernel_rfl))
 f232:=func137.trans (congrArg some (by kernel_rfl))
 f233:=func139.trans (congrArg some (by kernel_rfl))
 f234:=func140.trans (congrArg some (by kernel_rfl))
 f235:=func141.trans (congrArg some (by kernel_rfl))
 f236:=func142.trans (congrArg some (by kernel_rfl))
 f260:=func231.trans (congrArg some (by kernel_rfl))
 f266:=func161.trans (congrArg some (by kernel_rfl))
 f271:=func189.trans (congrArg some (by kernel_rfl))
 t0:=underlying0
 a0:=Tryz.isAgg0
 z0:=Tryz.sizeOf0
 v0:=Tryz.zeroValue0
 t3:=underlying3
 a3:=Tryz.isAgg3
 z3:=Tryz.sizeOf3
 v3:=Tryz.zeroValue3
 t4:=underlying4
 a4:=Tryz.isAgg4
 z4:=Tryz.sizeOf4
 v4:=Tryz.zeroValue4
 t5:=underlying5
 a5:=Tryz.isAgg5
 z5:=Tryz.sizeOf5
 v5:=Tryz.zeroValue5
 t9:=underlying9
 a9:=Tryz.isAgg9
 z9:=Tryz.sizeOf9
 v9:=Tryz.zeroValue9
 t21:=underlying21
 a21:=Tryz.isAgg21
 z21:=Tryz.sizeOf21
 v21:=Tryz.zeroValue21
 t46:=underlying179
 a46:=Tryz.isAgg179
 z46:=Tryz.sizeOf179
 v46:=Tryz.zeroValue179
 t105:=underlying195
 a105:=Tryz.isAgg195
 z105:=Tryz.sizeOf195
 v105:=Tryz.zeroValue195
 t116:=underlying155
 a116:=Tryz.isAgg155
 z116:=Tryz.sizeOf155
 t117:=underlying156
 a117:=Tryz.isAgg156
 z117:=Tryz.sizeOf156
 v117:=Tryz.zeroValue156
 t119:=underlying108
 a119:=Tryz.isAgg108
 z119:=Tryz.sizeOf108
 t124:=underlying159
 a124:=Tryz.isAgg159
 z124:=Tryz.sizeOf159
 v124:=Tryz.zeroValue159
 t138:=underlying277
 a138:=Tryz.isAgg277
 z138:=Tryz.sizeOf277
 v138:=Tryz.zeroValue277
 t139:=underlying278
 a139:=Tryz.isAgg278
 z139:=Tryz.sizeOf278
 v139:=Tryz.zeroValue278
 g3:=by kernel_rfl
 g4:=by kernel_rfl }
def Tryz.lays106_ren:Go.Shelf.Ren:=⟨fun|106=>158|213=>198|265=>236|n=>n,fun|9=>9|3=>3|n=>n,fun|n=>n⟩
theorem Tryz.lays106:Go.Proofs.Lays.n106 prog Tryz.lays106_ren:={
 mixed:=by kernel_rfl
 f106:=func158.trans (congrArg some (by kernel_rfl))
 f213:=func198.trans (congrArg some (by kernel_rfl))
 f265:=func236.trans (congrArg some (by kernel_rfl))
 t3:=underlying3
 a3:=Tryz.isAgg3
 z3:=Tryz.sizeOf3
 v3:=Tryz.zeroValue3
 t9:=underlying9
 a9:=Tryz.isAgg9
 z9:=Tryz.sizeOf9
 v9:=Tryz.zeroValue9 }
open Go.RowKit in
theorem Tryz.strings_Compare (a b:ByteArray) (w:World):
  Calls prog 158 #[.string a,.string b] w fun e w'=>e=.returned (.int .i64 (Lib.compareBytes a.data.toList b.data.toList))∧w'=w:=Any.strings_Compare Tryz.lays106 a b w
def Tryz.lays137_ren:Go.Shelf.Ren:=⟨fun|137=>46|217=>97|266=>161|n=>n,fun|9=>9|5=>5|3=>3|n=>n,fun|n=>n⟩
theorem Tryz.lays137:Go.Proofs.Lays.n137 prog Tryz.lays137_ren:={
 mixed:=by kernel_rfl
 f137:=func46.trans (congrArg some (by kernel_rfl))
 f217:=func97.trans (congrArg some (by kernel_rfl))
 f266:=func161.trans (congrArg some (by kernel_rfl))
 t3:=underlying3
 a3:=Tryz.isAgg3
 z3:=Tryz.sizeOf3
 v3:=Tryz.zeroValue3
 t5:=underlying5
 a5:=Tryz.isAgg5
 z5:=Tryz.sizeOf5
 v5:=Tryz.zeroValue5
 t9:=underlying9
 a9:=Tryz.isAgg9
 z9:=Tryz.sizeOf9
 v9:=Tryz.zeroValue9 }
open Go.RowKit in
theorem Tryz.strings_IndexByte (s:ByteArray) (c:Int) (w:World):
  Calls prog 46 #[.string s,.int .u8 c] w fun e w'=>e=.returned (.int .i64 (Lib.indexByte s.data.toList c.toNat.toUInt8))∧w'=w:=Any.strings_IndexByte Tryz.lays137 s c w
def Tryz.lays103_ren:Go.Shelf.Ren:=⟨fun|103=>174|210=>210|206=>234|n=>n,fun|9=>9|4=>4|24=>97|3=>3|n=>n,fun|n=>n⟩
theorem Tryz.lays103:Go.Proofs.Lays.n103 prog Tryz.lays103_ren:={
 mixed:=by kernel_rfl
 f103:=func174.trans (congrArg some (by kernel_rfl))
 f206:=func234.trans (congrArg some (by kernel_rfl))
 f210:=func210.trans (congrArg some (by kernel_rfl))
 t3:=underlying3
 a3:=Tryz.isAgg3
 z3:=Tryz.sizeOf3
 v3:=Tryz.zeroValue3
 t4:=underlying4
 a4:=Tryz.isAgg4
 z4:=Tryz.sizeOf4
 v4:=Tryz.zeroValue4
 t9:=underlying9
 a9:=Tryz.isAgg9
 z9:=Tryz.sizeOf9
 v9:=Tryz.zeroValue9
 t24:=underlying97
 a24:=Tryz.isAgg97
 z24:=Tryz.sizeOf97
 v24:=Tryz.zeroValue97 }
open Go.RowKit in
theorem Tryz.strings_CutPrefix (s p:ByteArray) (w:World):
  Calls prog 174 #[.string s,.string p] w fun e w'=>e=.returned (.tuple #[.string ⟨(Lib.trimPrefix s.data.toList p.data.toList).toArray⟩,.bool (Lib.hasPrefix s.data.toList p.data.toList)])∧w'=w:=Any.strings_CutPrefix Tryz.lays103 s p w
def Tryz.lays122_ren:Go.Shelf.Ren:=⟨fun|122=>230|215=>260|n=>n,fun|3=>3|4=>4|n=>n,fun|n=>n⟩
theorem Tryz.lays122:Go.Proofs.Lays.n122 prog Tryz.lays122_ren:={
 mixed:=by kernel_rfl
 f122:=func230.trans (congrArg some (by kernel_rfl))
 f215:=func260.trans (congrArg some (by kernel_rfl))
 t3:=underlying3
 a3:=Tryz.isAgg3
 z3:=Tryz.sizeOf3
 v3:=Tryz.zeroValue3
 t4:=underlying4
 a4:=Tryz.isAgg4
 z4:=Tryz.sizeOf4
 v4:=Tryz.zeroValue4 }
open Go.RowKit in
theorem Tryz.cmp_Compare_int (x y:Int) (w:World):
  Calls prog 230 #[.int .i64 x,.int .i64 y] w fun e w'=>e=.returned (.int .i64 (Lib.compareInt x y))∧w'=w:=Any.cmp_Compare_int Tryz.lays122 x y w
def Tryz.laysM316_ren:Go.Shelf.Ren:=⟨fun|316=>50|n=>n,fun|9=>9|3=>3|4=>4|37=>69|0=>0|127=>115|5=>5|n=>n,fun|n=>n⟩
theorem Tryz.laysM316:Go.Proofs.LaysM.n316 prog Tryz.laysM316_ren:={
 mixed:=by kernel_rfl
 f316:=func50.trans (congrArg some (by kernel_rfl))
 t0:=underlying0
 a0:=Tryz.isAgg0
 z0:=Tryz.sizeOf0
 v0:=Tryz.zeroValue0
 t3:=underlying3
 a3:=Tryz.isAgg3
 z3:=Tryz.sizeOf3
 v3:=Tryz.zeroValue3
 t4:=underlying4
 a4:=Tryz.isAgg4
 z4:=Tryz.sizeOf4
 v4:=Tryz.zeroValue4
 t9:=underlying9
 a9:=Tryz.isAgg9
 z9:=Tryz.sizeOf9
 v9:=Tryz.zeroValue9
 t37:=underlying69
 a37:=Tryz.isAgg69
 z37:=Tryz.sizeOf69
 v37:=Tryz.zeroValue69
 t127:=underlying115
 a127:=Tryz.isAgg115
 z127:=Tryz.sizeOf115
 v127:=Tryz.zeroValue115
 t5:=underlying5
 a5:=Tryz.isAgg5
 z5:=Tryz.sizeOf5
 v5:=Tryz.zeroValue5
 i0:=by kernel_rfl
 i3:=by kernel_rfl
 i4:=by kernel_rfl
 i5:=by kernel_rfl
 i9:=by kernel_rfl
 i37:=by kernel_rfl
 i127:=by kernel_rfl }
open Go.RowKit in
theorem Tryz.stringslite_Clone (s:ByteArray) (w:World) (hlim:s.size≤281474976710656):
  Calls prog 50 #[.string s] w fun e w'=>e=.returned (.string s)∧Below w.heap.size w w':=Any.stringslite_Clone Tryz.laysM316 s w hlim
def Tryz.lays219_ren:Go.Shelf.Ren:=⟨fun|219=>179|217=>97|225=>217|224=>218|267=>219|266=>161|314=>254|n=>n,fun|9=>9|3=>3|4=>4|5=>5|46=>179|146=>261|51=>176|n=>n,fun|1=>2|n=>n⟩
theorem Tryz.lays219:Go.Proofs.Lays.n219 prog Tryz.lays219_ren:={
 mixed:=by kernel_rfl
 f217:=func97.trans (congrArg some (by kernel_rfl))
 f219:=func179.trans (congrArg some (by kernel_rfl))
 f224:=func218.trans (congrArg some (by kernel_rfl))
 f225:=func217.trans (congrArg some (by kernel_rfl))
 f266:=func161.trans (congrArg some (by kernel_rfl))
 f267:=func219.trans (congrArg some (by kernel_rfl))
 f314:=func254.trans (congrArg some (by kernel_rfl))
 t3:=underlying3
 a3:=Tryz.isAgg3
 z3:=Tryz.sizeOf3
 v3:=Tryz.zeroValue3
 t4:=underlying4
 a4:=Tryz.isAgg4
 z4:=Tryz.sizeOf4
 v4:=Tryz.zeroValue4
 t5:=underlying5
 a5:=Tryz.isAgg5
 z5:=Tryz.sizeOf5
 v5:=Tryz.zeroValue5
 t9:=underlying9
 a9:=Tryz.isAgg9
 z9:=Tryz.sizeOf9
 v9:=Tryz.zeroValue9
 t46:=underlying179
 a46:=Tryz.isAgg179
 z46:=Tryz.sizeOf179
 v46:=Tryz.zeroValue179
 t51:=underlying176
 a51:=Tryz.isAgg176
 z51:=Tryz.sizeOf176
 v51:=Tryz.zeroValue176
 t146:=underlying261
 a146:=Tryz.isAgg261
 z146:=Tryz.sizeOf261
 v146:=Tryz.zeroValue261
 g1:=by kernel_rfl }
open Go.RowKit Go.Lib in
theorem Tryz.stringslite_Index_one (s:ByteArray) (c:UInt8) (w:World):
  Calls prog 179 #[.string s,.string ⟨#[c]⟩] w fun e w'=>e=.returned (.int .i64 (Lib.indexByte s.data.toList c))∧w'=w:=Any.stringslite_Index_one Tryz.lays219 s c w
def Tryz.lays144_ren:Go.Shelf.Ren:=⟨fun|144=>70|143=>117|219=>179|217=>97|225=>217|224=>218|267=>219|266=>161|314=>254|n=>n,fun|9=>9|4=>4|3=>3|5=>5|46=>179|146=>261|51=>176|n=>n,fun|1=>2|n=>n⟩
theorem Tryz.lays144:Go.Proofs.Lays.n144 prog Tryz.lays144_ren:={
 mixed:=by kernel_rfl
 f143:=func117.trans (congrArg some (by kernel_rfl))
 f144:=func70.trans (congrArg some (by kernel_rfl))
 f217:=func97.trans (congrArg some (by kernel_rfl))
 f219:=func179.trans (congrArg some (by kernel_rfl))
 f224:=func218.trans (congrArg some (by kernel_rfl))
 f225:=func217.trans (congrArg some (by kernel_rfl))
 f266:=func161.trans (congrArg some (by kernel_rfl))
 f267:=func219.trans (congrArg some (by kernel_rfl))
 f314:=func254.trans (congrArg some (by kernel_rfl))
 t3:=underlying3
 a3:=Tryz.isAgg3
 z3:=Tryz.sizeOf3
 v3:=Tryz.zeroValue3
 t4:=underlying4
 a4:=Tryz.isAgg4
 z4:=Tryz.sizeOf4
 v4:=Tryz.zeroValue4
 t5:=underlying5
 a5:=Tryz.isAgg5
 z5:=Tryz.sizeOf5
 v5:=Tryz.zeroValue5
 t9:=underlying9
 a9:=Tryz.isAgg9
 z9:=Tryz.sizeOf9
 v9:=Tryz.zeroValue9
 t46:=underlying179
 a46:=Tryz.isAgg179
 z46:=Tryz.sizeOf179
 v46:=Tryz.zeroValue179
 t51:=underlying176
 a51:=Tryz.isAgg176
 z51:=Tryz.sizeOf176
 v51:=Tryz.zeroValue176
 t146:=underlying261
 a146:=Tryz.isAgg261
 z146:=Tryz.sizeOf261
 v146:=Tryz.zeroValue261
 g1:=by kernel_rfl }
open Go.RowKit Go.Lib in
theorem Tryz.strings_Contains_one (s:ByteArray) (c:UInt8) (w:World):
  Calls prog 70 #[.string s,.string ⟨#[c]⟩] w fun e w'=>e=.returned (.bool (decide (0≤Lib.indexByte s.data.toList c)))∧w'=w:=Any.strings_Contains_one Tryz.lays144 s c w
def Tryz.lays138_ren:Go.Shelf.Ren:=⟨fun|138=>178|195=>215|218=>216|143=>117|219=>179|217=>97|225=>217|224=>218|267=>219|266=>161|314=>254|n=>n,fun|9=>9|3=>3|4=>4|5=>5|0=>0|46=>179|146=>261|51=>176|n=>n,fun|1=>2|n=>n⟩
theorem Tryz.lays138:Go.Proofs.Lays.n138 prog Tryz.lays138_ren:={
 mixed:=by kernel_rfl
 f138:=func178.trans (congrArg some (by kernel_rfl))
 f143:=func117.trans (congrArg some (by kernel_rfl))
 f195:=func215.trans (congrArg some (by kernel_rfl))
 f217:=func97.trans (congrArg some (by kernel_rfl))
 f218:=func216.trans (congrArg some (by kernel_rfl))
 f219:=func179.trans (congrArg some (by kernel_rfl))
 f224:=func218.trans (congrArg some (by kernel_rfl))
 f225:=func217.trans (congrArg some (by kernel_rfl))
 f266:=func161.trans (congrArg some (by kernel_rfl))
 f267:=func219.trans (congrArg some (by kernel_rfl))
 f314:=func254.trans (congrArg some (by kernel_rfl))
 t0:=underlying0
 a0:=Tryz.isAgg0
 z0:=Tryz.sizeOf0
 v0:=Tryz.zeroValue0
 t3:=underlying3
 a3:=Tryz.isAgg3
 z3:=Tryz.sizeOf3
 v3:=Tryz.zeroValue3
 t4:=underlying4
 a4:=Tryz.isAgg4
 z4:=Tryz.sizeOf4
 v4:=Tryz.zeroValue4
 t5:=underlying5
 a5:=Tryz.isAgg5
 z5:=Tryz.sizeOf5
 v5:=Tryz.zeroValue5
 t9:=underlying9
 a9:=Tryz.isAgg9
 z9:=Tryz.sizeOf9
 v9:=Tryz.zeroValue9
 t46:=underlying179
 a46:=Tryz.isAgg179
 z46:=Tryz.sizeOf179
 v46:=Tryz.zeroValue179
 t51:=underlying176
 a51:=Tryz.isAgg176
 z51:=Tryz.sizeOf176
 v51:=Tryz.zeroValue176
 t146:=underlying261
 a146:=Tryz.isAgg261
 z146:=Tryz.sizeOf261
 v146:=Tryz.zeroValue261
 g1:=by kernel_rfl }
open Go.RowKit Go.Lib in
theorem Tryz.strings_Count_one (s:ByteArray) (c:UInt8) (w:World):
  Calls prog 178 #[.string s,.string ⟨#[c]⟩] w fun e w'=>e=.returned (.int .i64 (Lib.countByte s.data.toList c))∧w'=w:=Any.strings_Count_one Tryz.lays138 s c w
def Tryz.lays149_ren:Go.Shelf.Ren:=⟨fun|149=>49|222=>102|n=>n,fun|9=>9|5=>5|3=>3|4=>4|n=>n,fun|n=>n⟩
theorem Tryz.lays149:Go.Proofs.Lays.n149 prog Tryz.lays149_ren:={
 mixed:=by kernel_rfl
 f149:=func49.trans (congrArg some (by kernel_rfl))
 f222:=func102.trans (congrArg some (by kernel_rfl))
 t3:=underlying3
 a3:=Tryz.isAgg3
 z3:=Tryz.sizeOf3
 v3:=Tryz.zeroValue3
 t4:=underlying4
 a4:=Tryz.isAgg4
 z4:=Tryz.sizeOf4
 v4:=Tryz.zeroValue4
 t5:=underlying5
 a5:=Tryz.isAgg5
 z5:=Tryz.sizeOf5
 v5:=Tryz.zeroValue5
 t9:=underlying9
 a9:=Tryz.isAgg9
 z9:=Tryz.sizeOf9
 v9:=Tryz.zeroValue9 }
open Go.RowKit Go.Lib in
theorem Tryz.strings_LastIndexByte (s:ByteArray) (c:Int) (hs:s.size<4611686018427387904) (w:World):
  Calls prog 49 #[.string s,.int .u8 c] w fun e w'=>e=.returned (.int .i64 (Lib.lastIndexByte s c))∧w'=w:=Any.strings_LastIndexByte Tryz.lays149 s c hs w
def Tryz.lays99_ren:Go.Shelf.Ren:=⟨fun|99=>191|206=>234|n=>n,fun|9=>9|4=>4|3=>3|n=>n,fun|n=>n⟩
theorem Tryz.lays99:Go.Proofs.Lays.n99 prog Tryz.lays99_ren:={
 mixed:=by kernel_rfl
 f99:=func191.trans (congrArg some (by kernel_rfl))
 f206:=func234.trans (congrArg some (by kernel_rfl))
 t3:=underlying3
 a3:=Tryz.isAgg3
 z3:=Tryz.sizeOf3
 v3:=Tryz.zeroValue3
 t4:=underlying4
 a4:=Tryz.isAgg4
 z4:=Tryz.sizeOf4
 v4:=Tryz.zeroValue4
 t9:=underlying9
 a9:=Tryz.isAgg9
 z9:=Tryz.sizeOf9
 v9:=Tryz.zeroValue9 }
open Go.RowKit Go.Lib in
theorem Tryz.strings_HasPrefix (s p:ByteArray) (w:World):
  Calls prog 191 #[.string s,.string p] w fun e w'=>e=.returned (.bool (Lib.hasPrefix s.data.toList p.data.toList))∧w'=w:=Any.strings_HasPrefix Tryz.lays99 s p w
def Tryz.lays101_ren:Go.Shelf.Ren:=⟨fun|101=>168|208=>208|206=>234|n=>n,fun|9=>9|4=>4|3=>3|n=>n,fun|n=>n⟩
theorem Tryz.lays101:Go.Proofs.Lays.n101 prog Tryz.lays101_ren:={
 mixed:=by kernel_rfl
 f101:=func168.trans (congrArg some (by kernel_rfl))
 f206:=func234.trans (congrArg some (by kernel_rfl))
 f208:=func208.trans (congrArg some (by kernel_rfl))
 t3:=underlying3
 a3:=Tryz.isAgg3
 z3:=Tryz.sizeOf3
 v3:=Tryz.zeroValue3
 t4:=underlying4
 a4:=Tryz.isAgg4
 z4:=Tryz.sizeOf4
 v4:=Tryz.zeroValue4
 t9:=underlying9
 a9:=Tryz.isAgg9
 z9:=Tryz.sizeOf9
 v9:=Tryz.zeroValue9 }
open Go.RowKit Go.Lib in
theorem Tryz.strings_TrimPrefix (s p:ByteArray) (w:World):
  Calls prog 168 #[.string s,.string p] w fun e w'=>e=.returned (.string ⟨(Lib.trimPrefix s.data.toList p.data.toList).toArray⟩)∧w'=w:=Any.strings_TrimPrefix Tryz.lays101 s p w
def Tryz.lays157_ren:Go.Shelf.Ren:=⟨fun|157=>45|229=>95|199=>96|261=>160|311=>200|312=>201|n=>n,fun|9=>9|31=>22|3=>3|5=>5|4=>4|119=>108|0=>0|40=>110|152=>173|21=>21|154=>175|51=>176|141=>178|196=>214|193=>211|198=>217|49=>215|194=>212|201=>220|226=>257|46=>179|227=>258|n=>n,fun|0=>0|6=>1|n=>n⟩
theorem Tryz.lays157:Go.Proofs.Lays.n157 prog Tryz.lays157_ren:={
 mixed:=by kernel_rfl
 f157:=func45.trans (congrArg some (by kernel_rfl))
 f199:=func96.trans (congrArg some (by kernel_rfl))
 f229:=func95.trans (congrArg some (by kernel_rfl))
 f261:=func160.trans (congrArg some (by kernel_rfl))
 f311:=func200.trans (congrArg some (by kernel_rfl))
 f312:=func201.trans (congrArg some (by kernel_rfl))
 t0:=underlying0
 a0:=Tryz.isAgg0
 z0:=Tryz.sizeOf0
 v0:=Tryz.zeroValue0
 t3:=underlying3
 a3:=Tryz.isAgg3
 z3:=Tryz.sizeOf3
 v3:=Tryz.zeroValue3
 t4:=underlying4
 a4:=Tryz.isAgg4
 z4:=Tryz.sizeOf4
 v4:=Tryz.zeroValue4
 t5:=underlying5
 a5:=Tryz.isAgg5
 z5:=Tryz.sizeOf5
 v5:=Tryz.zeroValue5
 t9:=underlying9
 a9:=Tryz.isAgg9
 z9:=Tryz.sizeOf9
 v9:=Tryz.zeroValue9
 t21:=underlying21
 a21:=Tryz.isAgg21
 z21:=Tryz.sizeOf21
 v21:=Tryz.zeroValue21
 t31:=underlying22
 a31:=Tryz.isAgg22
 z31:=Tryz.sizeOf22
 v31:=Tryz.zeroValue22
 t40:=underlying110
 a40:=Tryz.isAgg110
 z40:=Tryz.sizeOf110
 v40:=Tryz.zeroValue110
 t46:=underlying179
 a46:=Tryz.isAgg179
 z46:=Tryz.sizeOf179
 v46:=Tryz.zeroValue179
 t49:=underlying215
 a49:=Tryz.isAgg215
 z49:=Tryz.sizeOf215
 v49:=Tryz.zeroValue215
 t51:=underlying176
 a51:=Tryz.isAgg176
 z51:=Tryz.sizeOf176
 v51:=Tryz.zeroValue176
 t119:=underlying108
 a119:=Tryz.isAgg108
 z119:=Tryz.sizeOf108
 t141:=underlying178
 a141:=Tryz.isAgg178
 z141:=Tryz.sizeOf178
 v141:=Tryz.zeroValue178
 t152:=underlying173
 a152:=Tryz.isAgg173
 z152:=Tryz.sizeOf173
 v152:=Tryz.zeroValue173
 t154:=underlying175
 a154:=Tryz.isAgg175
 z154:=Tryz.sizeOf175
 v154:=Tryz.zeroValue175
 t193:=underlying211
 a193:=Tryz.isAgg211
 z193:=Tryz.sizeOf211
 v193:=Tryz.zeroValue211
 t194:=underlying212
 a194:=Tryz.isAgg212
 z194:=Tryz.sizeOf212
 v194:=Tryz.zeroValue212
 t196:=underlying214
 a196:=Tryz.isAgg214
 z196:=Tryz.sizeOf214
 v196:=Tryz.zeroValue214
 t198:=underlying217
 a198:=Tryz.isAgg217
 z198:=Tryz.sizeOf217
 v198:=Tryz.zeroValue217
 t201:=underlying220
 a201:=Tryz.isAgg220
 z201:=Tryz.sizeOf220
 v201:=Tryz.zeroValue220
 t226:=underlying257
 a226:=Tryz.isAgg257
 z226:=Tryz.sizeOf257
 v226:=Tryz.zeroValue257
 t227:=underlying258
 a227:=Tryz.isAgg258
 z227:=Tryz.sizeOf258
 v227:=Tryz.zeroValue258
 g0:=by kernel_rfl
 g6:=by kernel_rfl }
def Tryz.lays105_ren:Go.Shelf.Ren:=⟨fun|105=>167|212=>205|99=>191|165=>206|166=>52|170=>207|169=>53|263=>247|264=>248|206=>234|240=>103|241=>249|276=>163|277=>279|n=>n,fun|9=>9|3=>3|4=>4|20=>20|0=>0|46=>179|109=>225|5=>5|72=>71|76=>75|51=>176|146=>261|53=>104|148=>263|70=>68|37=>69|75=>73|127=>115|164=>180|80=>55|n=>n,fun|n=>n⟩
theorem Tryz.lays105:Go.Proofs.Lays.n105 prog Tryz.lays105_ren:={
 mixed:=by kernel_rfl
 f99:=func191.trans (congrArg some (by kernel_rfl))
 f105:=func167.trans (congrArg some (by kernel_rfl))
 f165:=func206.trans (congrArg some (by kernel_rfl))
 f166:=func52.trans (congrArg some (by kernel_rfl))
 f169:=func53.trans (congrArg some (by kernel_rfl))
 f170:=func207.trans (congrArg some (by kernel_rfl))
 f206:=func234.trans (congrArg some (by kernel_rfl))
 f212:=func205.trans (congrArg some (by kernel_rfl))
 f240:=func103.trans (congrArg some (by kernel_rfl))
 f241:=func249.trans (congrArg some (by kernel_rfl))
 f263:=func247.trans (congrArg some (by kernel_rfl))
 f264:=func248.trans (congrArg some (by kernel_rfl))
 f276:=func163.trans (congrArg some (by kernel_rfl))
 f277:=func279.trans (congrArg some (by kernel_rfl))
 t0:=underlying0
 a0:=Tryz.isAgg0
 z0:=Tryz.sizeOf0
 v0:=Tryz.zeroValue0
 t3:=underlying3
 a3:=Tryz.isAgg3
 z3:=Tryz.sizeOf3
 v3:=Tryz.zeroValue3
 t4:=underlying4
 a4:=Tryz.isAgg4
 z4:=Tryz.sizeOf4
 v4:=Tryz.zeroValue4
 t5:=underlying5
 a5:=Tryz.isAgg5
 z5:=Tryz.sizeOf5
 v5:=Tryz.zeroValue5
 t9:=underlying9
 a9:=Tryz.isAgg9
 z9:=Tryz.sizeOf9
 v9:=Tryz.zeroValue9
 t20:=underlying20
 a20:=Tryz.isAgg20
 z20:=Tryz.sizeOf20
 v20:=Tryz.zeroValue20
 t37:=underlying69
 a37:=Tryz.isAgg69
 z37:=Tryz.sizeOf69
 v37:=Tryz.zeroValue69
 t46:=underlying179
 a46:=Tryz.isAgg179
 z46:=Tryz.sizeOf179
 v46:=Tryz.zeroValue179
 t51:=underlying176
 a51:=Tryz.isAgg176
 z51:=Tryz.sizeOf176
 v51:=Tryz.zeroValue176
 t53:=underlying104
 a53:=Tryz.isAgg104
 z53:=Tryz.sizeOf104
 v53:=Tryz.zeroValue104
 t70:=underlying68
 a70:=Tryz.isAgg68
 z70:=Tryz.sizeOf68
 v70:=Tryz.zeroValue68
 t72:=underlying71
 a72:=Tryz.isAgg71
 z72:=Tryz.sizeOf71
 v72:=Tryz.zeroValue71
 t75:=underlying73
 a75:=Tryz.isAgg73
 z75:=Tryz.sizeOf73
 v75:=Tryz.zeroValue73
 t76:=underlying75
 a76:=Tryz.isAgg75
 z76:=Tryz.sizeOf75
 v76:=Tryz.zeroValue75
 t109:=underlying225
 a109:=Tryz.isAgg225
 z109:=Tryz.sizeOf225
 v109:=Tryz.zeroValue225
 t127:=underlying115
 a127:=Tryz.isAgg115
 z127:=Tryz.sizeOf115
 v127:=Tryz.zeroValue115
 t146:=underlying261
 a146:=Tryz.isAgg261
 z146:=Tryz.sizeOf261
 v146:=Tryz.zeroValue261
 t148:=underlying263
 a148:=Tryz.isAgg263
 z148:=Tryz.sizeOf263
 v148:=Tryz.zeroValue263
 t164:=underlying180
 a164:=Tryz.isAgg180
 z164:=Tryz.sizeOf180
 v164:=Tryz.zeroValue180 }
theorem Tryz.Builder_Extra_105:Builder.Extra prog Tryz.lays105_ren:={
 sizeBuilder:=by kernel_rfl
 liesBuilder:=by kernel_rfl
 t5:=underlying5
 a5:=Tryz.isAgg5
 z5:=Tryz.sizeOf5
 v5:=Tryz.zeroValue5
 infoByte:=by kernel_rfl
 cellsByte:=by kernel_rfl
 sizeByte:=by kernel_rfl
 neB5:=by decide }
open Go.RowKit Go.Lib in
theorem Tryz.strings_Repeat (s:ByteArray) (c:Nat) (w:World) (hc:c≤9223372036854775807) (hlen:s.size*c≤140737488355328):
  Calls prog 167 #[.string s,.int .i64 c] w fun e w'=>e=.returned (.string ⟨(Lib.repeatL s.data.toList c).toArray⟩)∧Below w.heap.size w w':=Any.strings_Repeat Tryz.lays105 Tryz.Builder_Extra_105 s c w hc hlen
def Tryz.lays110_ren:Go.Shelf.Ren:=⟨fun|110=>19|109=>44|n=>n,fun|31=>22|9=>9|4=>4|3=>3|0=>0|n=>n,fun|n=>n⟩
theorem Tryz.lays110:Go.Proofs.Lays.n110 prog Tryz.lays110_ren:={
 mixed:=by kernel_rfl
 f109:=func44.trans (congrArg some (by kernel_rfl))
 f110:=func19.trans (congrArg some (by kernel_rfl))
 t0:=underlying0
 a0:=Tryz.isAgg0
 z0:=Tryz.sizeOf0
 v0:=Tryz.zeroValue0
 t3:=underlying3
 a3:=Tryz.isAgg3
 z3:=Tryz.sizeOf3
 v3:=Tryz.zeroValue3
 t4:=underlying4
 a4:=Tryz.isAgg4
 z4:=Tryz.sizeOf4
 v4:=Tryz.zeroValue4
 t9:=underlying9
 a9:=Tryz.isAgg9
 z9:=Tryz.sizeOf9
 v9:=Tryz.zeroValue9
 t31:=underlying22
 a31:=Tryz.isAgg22
 z31:=Tryz.sizeOf22
 v31:=Tryz.zeroValue22 }
open Go.Lib in
theorem Tryz.slices_Contains_string (b off n c:Nat) (zs:List ByteArray) (x:ByteArray) (w:World) (hz:n≤zs.length) (hbig:n≤9223372036854775807) (hc:∀j,j<zs.length→w.cell? ⟨b,off+j,none⟩=some (.string (zs.getD j ByteArray.empty))):
  Calls prog 19 #[.slice (some ⟨b,off,none⟩) n c,.string x] w fun e w'=>e=.returned (.bool (Lib.containsS (zs.take n) x))∧w'=w:=Any.slices_Contains_string Tryz.lays110 b off n c zs x w hz hbig hc
def Tryz.lays194_ren:Go.Shelf.Ren:=⟨fun|194=>130|n=>n,fun|31=>22|9=>9|3=>3|4=>4|0=>0|n=>n,fun|n=>n⟩
theorem Tryz.lays194:Go.Proofs.Lays.n194 prog Tryz.lays194_ren:={
 mixed:=by kernel_rfl
 f194:=func130.trans (congrArg some (by kernel_rfl))
 t0:=underlying0
 a0:=Tryz.isAgg0
 z0:=Tryz.sizeOf0
 v0:=Tryz.zeroValue0
 t3:=underlying3
 a3:=Tryz.isAgg3
 z3:=Tryz.sizeOf3
 v3:=Tryz.zeroValue3
 t4:=underlying4
 a4:=Tryz.isAgg4
 z4:=Tryz.sizeOf4
 v4:=Tryz.zeroValue4
 t9:=underlying9
 a9:=Tryz.isAgg9
 z9:=Tryz.sizeOf9
 v9:=Tryz.zeroValue9
 t31:=underlying22
 a31:=Tryz.isAgg22
 z31:=Tryz.sizeOf22
 v31:=Tryz.zeroValue22 }
open Go.RowKit Go.Lib Go.Sort in
theorem Tryz.slices_Compact_string (blk off cap:Nat) (zs:List (List UInt8)) (w:World) (hH:Holds encStr w blk off zs.toArray) (hsz:zs.length≤9223372036854775807) (hcap:zs.length≤cap):
  Calls prog 130 #[.slice (some ⟨blk,off,none⟩) zs.length cap] w fun e w'=>e=.returned (.slice (some ⟨blk,off,none⟩) (Lib.compact zs).length cap)∧∃q,w'=putRow encStr (Sort.ahead w q) blk off (Lib.compact zs++List.replicate (zs.length-(Lib.compact zs).length) []).toArray:=Any.slices_Compact_string Tryz.lays194 blk off cap zs w hH hsz hcap
open Go.RowKit Go.Lib Go.Sort in
theorem Tryz.slices_Compact_string_empty (a:Option Addr) (cap:Nat) (w:World):
  Calls prog 130 #[.slice a 0 cap] w fun e w'=>e=.returned (.slice a 0 cap)∧w'=w:=Any.slices_Compact_string_empty Tryz.lays194 a cap w
end Go.Proofs
namespace Go.Proofs.YtpodopnmkjinhaaGreatDoor
open Go.Lib (hid)
open Go.RowKit
def qdU (c:Int):Bool:=decide (48≤c∧c≤57)
theorem qea (c:Int) (w:World):
  Calls prog 214 #[.int .u8 c] w fun e w'=>e=.returned (.bool (qdU c))∧w=w':=by
 have hb:qdU c=(decide (48≤c)&&decide (c≤57)):=by unfold qdU;simp
 by_cases h1:48≤c<;>by_cases h2:c≤57
 all_goals
  have H:=Lib.hid hb;clear hb;go_enter func214,ntmps214;go_wp2;go_ret;exact⟨by rw [H.out];simp [h1,h2],rfl⟩
def qfy (p:Nat→UInt8→Bool):Nat→List UInt8→Bool
 |_,[]=>true
 |k,c::r=>p k c&&qfy p (k+1) r
theorem qgJ (p:UInt8→Bool):∀(k:Nat) (l:List UInt8),qfy (fun _ c=>p c) k l=l.all p
 |_,[]=>rfl
 |k,c::r=>by rw [qfy,qgJ p (k+1) r];rfl
theorem qmN (p:Nat→UInt8→Bool) (l:List UInt8) (k:Nat) (h:k<l.length):
  qfy p k (l.drop k)=(p k l[k]&&qfy p (k+1) (l.drop (k+1))):=by
 rw [List.drop_eq_getElem_cons h];rfl
theorem qld (g:Nat) (lb:Array Value) (eg:∀args w,(callFunc g args).run prog w=.ok (.enter g args) w) (p:Nat→UInt8→Bool) (s:ByteArray) (w:World)
  (hs:s.size≤maxLen)
  (hp:∀(i:Nat) (h:i<s.size),Calls prog g (#[.int .i64 i,.int .u8 s[i].toNat]++lb) w fun e w'=>e=.returned (.bool (p i s[i]))∧w=w'):
  Calls prog 212 #[.string s,.func (.func g) #[] lb] w fun e w'=>e=.returned (.bool (qfy p 0 s.data.toList))∧w=w':=by
 unfold maxLen at hs;go_enter func212,ntmps212;go_wp2;go_loop [8] (fun i=>∃k:Nat,k≤s.size∧i=.int .i64 k∧qfy p 0 s.data.toList=qfy p k (s.data.toList.drop k)) (fun i=>s.size-(intOf i).toNat)
 case atStart=>exact⟨0,Nat.zero_le _,rfl,rfl⟩
 case round=>
  obtain⟨k,hk,rfl,he⟩:=hrel;have HE:=Lib.hid he;clear he;by_cases hlt:k<s.size
  ·have hd:=qmN p s.data.toList k (by simpa using hlt)
   rw [getElem_toList s k hlt] at hd;have HD:=Lib.hid hd;clear hd;have cS:=hp k hlt;clear hp;cases hv:p k s[k]
   ·have HV:=Lib.hid hv
    rw [hv] at cS;clear hv;go_wp2_with (go_at_fn g;refine cS.mono ?_;rintro e W' ⟨rfl,rfl⟩)
    go_ret;exact⟨by rw [HE.out,HD.out,HV.out];rfl,rfl⟩
   ·have HV:=Lib.hid hv
    rw [hv] at cS;clear hv;go_wp2_with (go_at_fn g;refine cS.mono ?_;rintro e W' ⟨rfl,rfl⟩)
    go_round
    case rel=>exact⟨k+1,by omega,by go_num,by rw [HE.out,HD.out,HV.out];rfl⟩
    case measure=>simp [intOf];omega
  ·have hd:s.data.toList.drop k=[]:=List.drop_eq_nil_of_le (by simp;omega)
   have HD:=Lib.hid hd;clear hd;go_wp2;go_ret;exact⟨by rw [HE.out,HD.out];rfl,rfl⟩
end Go.Proofs.YtpodopnmkjinhaaGreatDoor
namespace Go.Proofs.YtpodopnmkjinhaaGreatDoor.Cal
open Go.Lib (hid)
open Go.RowKit
def qbz (c:Int):Bool:=decide ((97≤c∧c≤122)∨(65≤c∧c≤90))
theorem qp2 (c : Int) (w : World) :
    Calls prog 308 #[.int .u8 c] w fun e w' => e = .returned (.bool (qbz c)) ∧ w = w' := by
  by_cases h1 : 97 ≤ c <;> by_cases h2 : c ≤ 122 <;> by_cases h3 : 65 ≤ c <;> by_cases h4 : c ≤ 90
  all_goals
    first
    | (exfalso; omega)
    | ((first | have H := Lib.hid (show qbz c = true from decide_eq_true (by omega)) | have H := Lib.hid (show qbz c = false from decide_eq_false (by omega)))
       go_enter func308, ntmps308
       go_wp2
       go_ret
       exact ⟨by rw [H.out]; rfl, rfl⟩)
def nameAt (i:Nat) (c:UInt8):Bool:=decide (c=95)||qbz c.toNat||(decide (0<i)&&qdU c.toNat)
theorem qsk (i:Nat) (c:UInt8):nameAt i c=(decide ((c.toNat:Int)=95)||qbz c.toNat||(decide (0<(i:Int))&&qdU c.toNat)):=by
 have h1:decide ((c.toNat:Int)=95)=decide (c=95):=by rw [Bool.eq_iff_iff];simp [← UInt8.toNat_inj];omega
 have h2:decide (0<(i:Int))=decide (0<i):=by rw [Bool.eq_iff_iff];simp
 rw [h1,h2];rfl
theorem qyN (i:Nat) (c:UInt8) (w:World):
  Calls prog 307 (#[.int .i64 i,.int .u8 c.toNat]++#[]) w fun e w'=>e=.returned (.bool (nameAt i c))∧w=w':=by
 have HX:=hid (qsk i c)
 have c1:=fun W=>qp2 c.toNat W
 have c2:=fun W=>qea c.toNat W
 by_cases h0:(c.toNat:Int)=95
 ·have HV:Hid (nameAt i c=true):=hid (by rw [HX.out];simp [h0])
  have g0:((c.toNat:Int)==95)=true:=by simpa using h0
  clear HX h0;go_enter func307,ntmps307;go_wp2_with fail;go_ret;exact⟨by rw [HV.out];rfl,rfl⟩
 ·have g0:((c.toNat:Int)==95)=false:=by simpa using h0
  have HG:=hid h0;clear h0;cases h1:qbz c.toNat
  ·by_cases h3:0<i
   ·have HV:Hid (nameAt i c=qdU c.toNat):=hid (by rw [HX.out];simp [HG.out,h1,h3])
    clear HX HG;rw [h1] at c1;clear h1;go_enter func307,ntmps307;go_wp2_with (first|(go_at_call 308;refine(c1 _).mono ?_;rintro e w' ⟨rfl,rfl⟩)|(go_at_call 214;refine(c2 _).mono ?_;rintro e w' ⟨rfl,rfl⟩))
    go_ret;exact⟨by rw [HV.out];rfl,rfl⟩
   ·have HV:Hid (nameAt i c=false):=hid (by rw [HX.out];simp [HG.out,h1];omega)
    clear HX HG;rw [h1] at c1;clear h1;go_enter func307,ntmps307;go_wp2_with (go_at_call 308;refine(c1 _).mono ?_;rintro e w' ⟨rfl,rfl⟩)
    go_ret;exact⟨by rw [HV.out];rfl,rfl⟩
  ·have HV:Hid (nameAt i c=true):=hid (by rw [HX.out];simp [h1])
   clear HX HG;rw [h1] at c1;clear h1;go_enter func307,ntmps307;go_wp2_with (go_at_call 308;refine(c1 _).mono ?_;rintro e w' ⟨rfl,rfl⟩)
   go_ret;exact⟨by rw [HV.out];rfl,rfl⟩
def qrw (l:List UInt8):Bool:=qfy nameAt 0 l
def qid (l:List UInt8):Bool:=!l.isEmpty&&decide (l.length≤64)&&qrw l
theorem qpt (s:ByteArray) (w:World) (hs:s.size≤maxLen):
  Calls prog 212 #[.string s,.func (.func 307) #[] #[]] w fun e w'=>e=.returned (.bool (qrw s.data.toList))∧w=w':=
 qld 307 #[] (enters_of func307 (by kernel_rfl) rfl) nameAt s w hs (fun i _=>qyN i _ w)
theorem qet (s:ByteArray) (h:s.data.toList=[]):s=.empty:=by
 cases s with|mk d=>cases d with|mk l=>simp at h;subst h;rfl
theorem qu2 (s:ByteArray) (w:World) (hs:s.size≤maxLen):
  Calls prog 292 #[.string s] w fun e w'=>e=.returned (.bool (qid s.data.toList))∧w=w':=by
 have cE:=fun W=>qpt s W hs
 unfold maxLen at hs;by_cases h0:s.data.toList=[]
 ·obtain rfl:=qet s h0
  go_enter func292,ntmps292;go_wp2_with fail;go_ret;exact⟨rfl,rfl⟩
 ·have hz:s.data.toList.isEmpty=false:=by simpa using h0
  have hl:=qas s;have g1:¬s.toList=[]:=by rw [toList_data];exact h0
  have g2:s.toList.isEmpty=false:=by rw [toList_data];exact hz
  by_cases h64:s.size≤64
  ·have HV:Hid (qid s.data.toList=qrw s.data.toList):=hid (by unfold qid;rw [hz,hl,decide_eq_true h64];rfl)
   clear h0 hz hl;go_enter func292,ntmps292;go_wp2_with (go_at_call 212;refine(cE _).mono ?_;rintro e w' ⟨rfl,rfl⟩)
   go_ret;exact⟨by rw [HV.out];rfl,rfl⟩
  ·have HV:Hid (qid s.data.toList=false):=hid (by unfold qid;rw [hz,hl,decide_eq_false h64];rfl)
   clear h0 hz hl;go_enter func292,ntmps292;go_wp2_with fail;go_ret;exact⟨by rw [HV.out];rfl,rfl⟩
def qlz:List (List UInt8×Int):=[([],17),([44],1),
 ([61],2),([42,61],2),([47,61],2),([37,61],2),([43,61],2),([45,61],2),([60,60,61],2),([62,62,61],2),([38,61],2),([94,61],2),([124,61],2),
 ([63,58],3),([124,124],4),([38,38],5),([124],6),([94],7),([38],8),([61,61],9),([33,61],9),([60],10),([60,61],10),([62],10),([62,61],10),
 ([60,60],11),([62,62],11),([43],12),([45],12),([42],13),([47],13),([37],13),([42,42],14),
 ([33],15),([126],15),([110,101,103],15),([112,114,101,43,43],15),([112,114,101,45,45],15),([112,111,115,116,43,43],16),([112,111,115,116,45,45],16)]
def levL (l:List UInt8):Int:=match qlz.lookup l with|some n=>n|none=>0
def known:List (List UInt8):=qlz.map Prod.fst++[[63],[58],[40],[41],[43,43],[45,45]]
inductive T where
 |leaf (name:List UInt8) (n:Int)
 |one (op:List UInt8) (a:T)
 |two (op:List UInt8) (a b:T)
 |three (op:List UInt8) (a b c:T)
def isVar:T→Bool
 |.leaf nm _=>!nm.isEmpty
 |.one ..=>false
 |.two ..=>false
 |.three ..=>false
def hgt:T→Nat
 |.leaf ..=>1
 |.one _ a=>hgt a+1
 |.two _ a b=>max (hgt a) (hgt b)+1
 |.three _ a b c=>max (max (hgt a) (hgt b)) (hgt c)+1
end Go.Proofs.YtpodopnmkjinhaaGreatDoor.Cal
namespace Go.Proofs.YtpodopnmkjinhaaGreatDoor
open Go.Lib (hid)
open Go.RowKit
def qd0 (u:Nat):List UInt8:=if 10≤u then qd0 (u/10)++[(u%10+48).toUInt8] else [(u+48).toUInt8]
termination_by u
decreasing_by omega
theorem qb2 {u:Nat} (h:u<10):qd0 u=[(u+48).toUInt8]:=by rw [qd0,if_neg (by omega)]
theorem qcm {u:Nat} (h:10≤u):qd0 u=qd0 (u/10)++[(u%10+48).toUInt8]:=by rw [qd0,if_pos h]
def qaw (n:Int):List UInt8:=if n<0 then 45::qd0 n.natAbs else qd0 n.natAbs
theorem qeA {cur:Array Value} {a:Nat} {v:Value} (h:a<cur.size):(cur.setIfInBounds a v).toList.drop a=v::cur.toList.drop (a+1):=by
 rw [Array.toList_setIfInBounds,List.drop_eq_getElem_cons (by simpa using h),List.getElem_set_self,List.drop_set_of_lt (by omega)]
theorem cell_of {w:World} {g i:Nat} {cur:Array Value} {t:TypeId} (h:w.heap[g]?=some (.cells cur t (0,0))) (hi:i<cur.size):w.cell? ⟨g,i,none⟩=some cur[i]:=by
 simp [World.cell?,h,hi]
theorem qhU {w:World} {g i:Nat} {cur:Array Value} {t:TypeId} (h:w.heap[g]?=some (.cells cur t (0,0))):w.frozen? ⟨g,i,none⟩=false:=by
 simp [World.frozen?,h]
theorem qro (r:Nat):Value.int .u8 (48+(r:Int)%10)=u8 (r%10+48).toUInt8:=by
 unfold u8
 congr 1
 have:(r%10+48).toUInt8.toNat=r%10+48:=by rw [Nat.toUInt8_eq,UInt8.toNat_ofNat'];omega
 rw [this];omega
theorem below_setRow {B g:Nat} {w0 w:World} (hb:Below B w0 w) (hBg:B≤g) (cs:Array Value):Below B w0 (w.setRow g cs):=
 ⟨hb.os,hb.tape,hb.output,by rw [size_setRow];exact hb.size,fun i hi=>(setRow_other w g i cs (by omega)).trans (hb.block i hi)⟩
theorem World.heap_alloc_self {w:World} {o:Obj}:(w.alloc o).heap[w.heap.size]?=some o:=by
 show(w.heap.push o)[w.heap.size]?=some o
 simp
theorem qwm (g a:Nat) (x:Int) (hx:x=(a:Int)) (ha:a<20) (W:World):(Instr.sliceAt 170 (.pointer (some ⟨g,0,none⟩)) (some (.int .i64 x)) none none).run prog W=.ok (.slice (some ⟨g,a,none⟩) (20-a) (20-a)) W:=by
 have hal:prog.arrayLen 170=20:=by simp [Program.arrayLen,underlying170]
 subst hx;rw [run_sliceAt_array_l W 170 ⟨g,0,none⟩ (by simp [Program.arrayLen,Program.elem,underlying170]) .i64 (a:Int) (by omega) (by rw [hal];omega)];have hne:¬(20=a):=by omega
 have e:(⟨g,0,none⟩:Addr).add a=⟨g,a,none⟩:=by
  unfold Addr.add;split
  ·rename_i h;rw [h]
  ·simp
 go_simp
theorem quL:(prog.info? 5).map (·.size)=some 1:=by kernel_rfl
def qdR (a:Nat) (cur:Array Value):Array Value:=(cur.toList.take a++Lib.byteCells [45]++cur.toList.drop (a+1)).toArray
theorem qkK {a:Nat} {cur:Array Value} (hs:cur.size=20) (ha:a<20):(qdR a cur).size=20:=by
 simp [qdR,Lib.byteCells_length];omega
theorem qkJ {a:Nat} {cur:Array Value} (hs:cur.size=20) (ha:a<20):(qdR a cur).toList.drop a=u8 45::cur.toList.drop (a+1):=by
 unfold qdR;rw [List.toList_toArray,List.append_assoc,List.drop_append_of_le_length (by simp;omega),List.drop_of_length_le (by simp;omega),List.nil_append]
 rfl
def qx8:Array Value:=#[.int .u8 0,.int .u8 0,.int .u8 0,.int .u8 0,.int .u8 0,.int .u8 0,.int .u8 0,.int .u8 0,.int .u8 0,.int .u8 0,.int .u8 0,.int .u8 0,.int .u8 0,.int .u8 0,.int .u8 0,.int .u8 0,.int .u8 0,.int .u8 0,.int .u8 0,.int .u8 0]
theorem qnW {w:World} {g a:Nat} {cur:Array Value} {t:TypeId} {l:List UInt8} (h:w.heap[g]?=some (.cells cur t (0,0))) (hl:a+l.length=20) (hs:cur.size=20) (hd:cur.toList.drop a=l.map u8):
  (convert 69 9 (.slice (some ⟨g,a,none⟩) (20-a) (20-a))).run prog w=.ok (.string ⟨l.toArray⟩) w:=by
 have e:20-a=l.length:=by omega
 rw [e];refine run_convert_bytes_back (P:=prog) w 69 9 5 ⟨g,a,none⟩ _ l underlying69 underlying5 underlying9 (fun j hj=>?_)
 rw [show(⟨g,a,none⟩:Addr).add j=⟨g,a+j,none⟩ by simp [Addr.add]];rw [cell_of h (show a+j<cur.size by omega)];have h2:(cur.toList.drop a)[j]?=(l.map u8)[j]?:=by rw [hd]
 rw [List.getElem?_drop,Array.getElem?_toList,Array.getElem?_eq_getElem (by omega)] at h2;rw [h2];simp [hj,u8]
theorem qui {u r:Nat} {ds:List UInt8} (h:qd0 u=(if 0<r then qd0 r else [])++ds) (hr:0<r):qd0 u=(if 0<r/10 then qd0 (r/10) else [])++((r%10+48).toUInt8::ds):=by
 rw [h,if_pos hr];by_cases h10:r<10
 ·rw [qb2 h10,if_neg (by omega),Nat.mod_eq_of_lt h10];rfl
 ·rw [qcm (by omega),if_pos (by omega)];simp
theorem qrm (u:Nat):qd0 u=(if 0<u/10 then qd0 (u/10) else [])++((u%10+48).toUInt8::[]):=by
 by_cases h10:u<10
 ·rw [qb2 h10,if_neg (by omega),Nat.mod_eq_of_lt h10];rfl
 ·rw [qcm (by omega),if_pos (by omega)]
theorem qbR (n:Int) (h0:-9223372036854775808≤n) (h1:n≤9223372036854775807) (w:World):
  Calls prog 92 #[.int .i64 n] w fun e w'=>e=.returned (.string ⟨(qaw n).toArray⟩)∧Below w.heap.size w w':=by
 have cS:=fun W=>qsn n h0 h1 W
 obtain⟨u,hu⟩:∃u:Nat,n.natAbs=u:=⟨_,rfl⟩
 rw [show(if n<0 then -n else n)=(u:Int) by split<;>omega] at cS;have hu64:u≤9223372036854775808:=by omega
 have HI:Hid (qaw n=if n<0 then 45::qd0 u else qd0 u):=hid (by unfold qaw;rw [hu])
 clear hu;go_enter func92,ntmps92;go_wp2_with (go_at_call 156;refine(cS _).mono ?_;rintro e w1 ⟨rfl,rfl⟩)
 go_loopw [4,5] (fun x y wr=>∃(a r:Nat) (ds:List UInt8) (cur:Array Value),x=.int .u64 r∧y=.int .i64 a∧1≤a∧a+ds.length=20∧r≤9223372036854775808∧cur.size=20∧wr.heap[w.heap.size]?=some (.cells cur 170 (0,0))∧Below w.heap.size w wr∧Hid (r<10^(a-1))∧Hid (cur.toList.drop a=ds.map u8)∧Hid (a=20∧r=u∨a<20∧qd0 u=(if 0<r then qd0 r else [])++ds)) (fun _ y _=>(intOf y).toNat)
 case atStart=>
  refine⟨20,u,[],qx8,rfl,rfl,by omega,rfl,hu64,rfl,?_,?_,hid (by omega),hid rfl,hid (.inl ⟨rfl,rfl⟩)⟩
  ·exact World.heap_alloc_self
  ·exact(Below.refl _ _).alloc (Nat.le_refl _) _
 case round=>
  obtain⟨a,r,ds,cur,rfl,rfl,ha1,ha,hr,hsz,hc,hb,HP,HD,HX⟩:=hrel;by_cases hgo:a=20∨0<r
  ·have hcell:=cell_of hc (show a-1<cur.size by omega)
   have hfr:=qhU (i:=a-1) hc
   have hcc:=hid hc;clear hc;by_cases h20:a=20
   ·subst h20
    go_wp2;go_round
    case rel=>
     have hd:=qeA (v:=.int .u8 (48+(r:Int)%10)) (show 19<cur.size by omega)
     have e20:ds=[]:=List.eq_nil_of_length_eq_zero (by omega)
     subst e20;refine⟨19,r/10,[(r%10+48).toUInt8],_,by rw [Int.natCast_ediv];rfl,rfl,by omega,rfl,by omega,?_,heap_setCell_same _ _ _ _ _ _ hcc.out,hb.setCell (Nat.le_refl _) _,hid ?_,hid ?_,hid (.inr ⟨by omega,?_⟩)⟩
     ·rw [Array.size_setIfInBounds];exact hsz
     ·have:=HP.out;simp only [Nat.add_one_sub_one] at this;omega
     ·rw [hd,qro,List.drop_of_length_le (by rw [Array.length_toList];omega)];rfl
     ·rcases HX.out with ⟨_,e⟩|⟨e,_⟩
      ·rw [e];exact qrm u
      ·omega
    case measure=>simp [intOf]
   ·have hr0:0<r:=by omega
    have g1:((a:Int)==20)=false:=by simp;omega
    go_wp2;go_round
    case rel=>
     have hd:=qeA (v:=.int .u8 (48+(r:Int)%10)) (show a-1<cur.size by omega)
     have hp:r<10^(a-1):=HP.out
     have ha2:2≤a:=by
      by_cases h:a=1
      ·subst h;simp at hp;omega
      ·omega
     refine⟨a-1,r/10,(r%10+48).toUInt8::ds,_,by rw [Int.natCast_ediv];rfl,by go_num,by omega,by simp;omega,by omega,?_,heap_setCell_same _ _ _ _ _ _ hcc.out,hb.setCell (Nat.le_refl _) _,hid ?_,hid ?_,hid (.inr ⟨by omega,?_⟩)⟩
     ·rw [Array.size_setIfInBounds];exact hsz
     ·rw [show a-1=(a-1-1)+1 by omega,Nat.pow_succ] at hp;omega
     ·rw [hd,qro,show a-1+1=a by omega,HD.out];rfl
     ·rcases HX.out with ⟨e,_⟩|⟨_,e⟩
      ·omega
      ·exact qui e hr0
    case measure=>simp [intOf];omega
  ·have hr0:r=0:=by omega
   subst hr0;have ha20:a<20:=by omega
   have g1:((a:Int)==20)=false:=by simp;omega
   have HDD:Hid (qd0 u=ds):=hid (by
    rcases HX.out with ⟨e,_⟩|⟨_,e⟩
    ·omega
    ·simpa using e)
   by_cases hn:n<0
   ·have hsl:=qwm w.heap.size (a-1) ((a:Int)-1) (by omega) (by omega)
    have hcp:=Lib.run_copy_row_string (P:=prog) wr 69 9 3 5 w.heap.size (a-1) (20-(a-1)) (20-(a-1)) ⟨#[45]⟩ cur 170 underlying69 quL hc (by show 1≤_;omega) (by show a-1+1≤_;omega)
    have hcv:=qnW (l:=45::ds) (setRow_heap wr w.heap.size cur (qdR (a-1) cur) _ _ hc) (show a-1+(45::ds).length=20 by simp;omega) (qkK hsz (by omega)) (by rw [qkJ hsz (by omega),show a-1+1=a by omega,HD.out];rfl)
    change _=Result.ok (goInt 1) (wr.setRow w.heap.size (qdR (a-1) cur)) at hcp
    have HB:=hid (below_setRow hb (Nat.le_refl _) (qdR (a-1) cur))
    have HF:Hid (qaw n=45::ds):=hid (by rw [HI.out,if_pos hn,HDD.out])
    clear hc;go_wp2;go_ret;exact⟨by rw [HF.out];rfl,HB.out⟩
   ·have hsl:=qwm w.heap.size a (a:Int) rfl (by omega)
    have hcv:=qnW hc ha hsz HD.out;have HF:Hid (qaw n=ds):=hid (by rw [HI.out,if_neg hn,HDD.out])
    clear hc;go_wp2;go_ret;exact⟨by rw [HF.out];rfl,hb⟩
end Go.Proofs.YtpodopnmkjinhaaGreatDoor
namespace Go.Proofs.YtpodopnmkjinhaaGreatDoor.Cal
open Go.Lib (hid)
open Go.RowKit
structure V where
 nm:List UInt8
 tx:List UInt8
 ar:Bool
 ls:List (List UInt8)
def noV:V:=⟨[],[],false,[]⟩
def qqM (l:List UInt8):Except Int Int:=if(qlD l).2=0 then .ok (qlD l).1 else .error (qlD l).2
def qzx:Except Int Int→Except Int Int
 |.ok n=>.ok (wrap64 (-n))
 |.error e=>.error e
def qfn (v:V):Except Int Int:=
 if v.ar then .error 33
 else if v.tx=[] then .ok 0
 else if Lib.hasPrefix (Lib.trimS v.tx [32,9]) [45] then qzx (qqM (Lib.trimPrefix (Lib.trimS v.tx [32,9]) [45]))
 else qqM (Lib.trimPrefix (Lib.trimS v.tx [32,9]) [45])
def truthI (b:Bool):Int:=if b then 1 else 0
def joinedE (op:List UInt8) (a b:Int):Except Int Int:=
 if op=[42] then .ok (wrap64 (a*b))
 else if op=[47] then(if b=0 then .error 53 else .ok (wrap64 (a.tdiv b)))
 else if op=[37] then(if b=0 then .error 53 else .ok (a.tmod b))
 else if op=[43] then .ok (wrap64 (a+b))
 else if op=[45] then .ok (wrap64 (a-b))
 else if op=[60,60] then .ok (wrap64 (a*2^(b%64).toNat))
 else if op=[62,62] then .ok (a/2^(b%64).toNat)
 else if op=[60] then .ok (truthI (decide (a<b)))
 else if op=[60,61] then .ok (truthI (decide (a≤b)))
 else if op=[62] then .ok (truthI (decide (b<a)))
 else if op=[62,61] then .ok (truthI (decide (b≤a)))
 else if op=[61,61] then .ok (truthI (a==b))
 else if op=[33,61] then .ok (truthI (a !=b))
 else if op=[38] then .ok (IntKind.i64.wrap (Int.ofNat ((IntKind.u64.wrap a).toNat &&& (IntKind.u64.wrap b).toNat)))
 else if op=[94] then .ok (IntKind.i64.wrap (Int.ofNat ((IntKind.u64.wrap a).toNat ^^^ (IntKind.u64.wrap b).toNat)))
 else if op=[124] then .ok (IntKind.i64.wrap (Int.ofNat ((IntKind.u64.wrap a).toNat ||| (IntKind.u64.wrap b).toNat)))
 else if op=[42,42] then(if b<0 then .error 4 else .ok (wrap64 (a^b.toNat)))
 else .ok b
abbrev Env:=List UInt8→V
abbrev Asg:=List (List UInt8×Int)
def qxs:Asg→List UInt8→Int→Asg
 |[],nm,n=>[(nm,n)]
 |(k,m)::r,nm,n=>if k=nm then(k,n)::r else(k,m)::qxs r nm n
def qem (env:Env) (s:Asg) (nm:List UInt8):Except Int Int:=
 match s.lookup nm with
 |some n=>.ok n
 |none=>qfn (env nm)
def qbA {α β:Type}:Except Int α→(α→Except Int β)→Except Int β
 |.ok a,f=>f a
 |.error e,_=>.error e
def nameOf:T→List UInt8
 |.leaf nm _=>nm|.one ..=>[]|.two ..=>[]|.three ..=>[]
def qzf (op:List UInt8):Int:=if op=[112,114,101,45,45]∨op=[112,111,115,116,45,45] then -1 else 1
def postOf (op:List UInt8):Bool:=op==[112,111,115,116,43,43]||op==[112,111,115,116,45,45]
def qa8 (env:Env):T→Asg→Except Int (Int×Asg)
 |.leaf nm n,s=>if nm=[] then .ok (n,s) else qbA (qem env s nm) fun n=>.ok (n,s)
 |.one op a,s=>
  if op=[33] then qbA (qa8 env a s) fun r=>.ok (truthI (r.1==0),r.2)
  else if op=[126] then qbA (qa8 env a s) fun r=>.ok (bits BinOp.xor IntKind.i64 (-1) r.1,r.2)
  else if op=[110,101,103] then qbA (qa8 env a s) fun r=>.ok (IntKind.i64.wrap (-r.1),r.2)
  else qbA (qem env s (nameOf a)) fun was=>.ok (if postOf op then was else wrap64 (was+qzf op),qxs s (nameOf a) (wrap64 (was+qzf op)))
 |.two op a b,s=>
  if op=[38,38] then qbA (qa8 env a s) fun r=>if r.1=0 then .ok (0,r.2) else qbA (qa8 env b r.2) fun q=>.ok (truthI (q.1 !=0),q.2)
  else if op=[124,124] then qbA (qa8 env a s) fun r=>if r.1=0 then qbA (qa8 env b r.2) fun q=>.ok (truthI (q.1 !=0),q.2) else .ok (1,r.2)
  else if op=[61] then qbA (qa8 env b s) fun r=>.ok (r.1,qxs r.2 (nameOf a) r.1)
  else if levL op=2 then qbA (qem env s (nameOf a)) fun was=>qbA (qa8 env b s) fun r=>qbA (joinedE op.dropLast was r.1) fun n=>.ok (n,qxs r.2 (nameOf a) n)
  else qbA (qa8 env a s) fun p=>qbA (qa8 env b p.2) fun q=>qbA (joinedE op p.1 q.1) fun n=>.ok (n,q.2)
 |.three _ a b c,s=>qbA (qa8 env a s) fun p=>if p.1=0 then qa8 env c p.2 else qa8 env b p.2
def qzm (vs:List V) (nm:List UInt8):Option V:=vs.reverse.find? fun v=>v.nm==nm
def qgZ (vs:List V):Env:=fun nm=>(qzm vs nm).getD noV
def placeOf {β:Type} (f:β→List UInt8) (fresh:List β) (nm:List UInt8):Option Nat:=fresh.findIdx? fun x=>f x==nm
def qdn {β:Type} (f:β→List UInt8) (fresh:List β):List Bool→List β→List β
 |ob,[]=>((fresh.zip ob).filter fun p=>!p.2).map Prod.fst
 |ob,v::r=>
  match placeOf f fresh (f v) with
  |none=>v::qdn f fresh ob r
  |some i=>if ob.getD i true then qdn f fresh ob r else(fresh.getD i v)::qdn f fresh (ob.set i true) r
def qkl {β:Type} (f:β→List UInt8) (vs fresh:List β):List β:=qdn f fresh (List.replicate fresh.length false) vs
def qn8 (s:Asg):List V:=s.map fun p=>⟨p.1,qaw p.2,false,[]⟩
def qmH (t:T) (vs:List V):Except Int (Int×List V):=qbA (qa8 (qgZ vs) t []) fun r=>.ok (r.1,qkl V.nm vs (qn8 r.2))
def qzC {α:Type}:Except Int (Int×α)→Int
 |.ok r=>r.1|.error _=>0
def qzB {α:Type}:Except Int α→Int
 |.ok _=>0|.error e=>e
def qzD (vs:List V):Except Int (Int×List V)→List V
 |.ok r=>r.2|.error _=>vs
theorem qgP {β:Type} {f:β→List UInt8} {fresh:List β} {nm:List UInt8} {i:Nat} (h:placeOf f fresh nm=some i):∃hi:i<fresh.length,f fresh[i]=nm:=by
 unfold placeOf at h;rw [List.findIdx?_eq_some_iff_getElem] at h;obtain⟨hi,h1,_⟩:=h;exact⟨hi,by simpa using h1⟩
theorem qfK {β γ:Type} (g:β→γ) (f:γ→List UInt8) (fresh:List β):∀(vs:List β) (ob:List Bool),ob.length=fresh.length→(qdn (fun x=>f (g x)) fresh ob vs).map g=qdn f (fresh.map g) ob (vs.map g)
 |[],ob,_=>by
  rw [List.map_nil,qdn,qdn,List.zip_map_left,List.filter_map,List.map_map,List.map_map]
  rfl
 |v::r,ob,h=>by
  have hp:placeOf f (fresh.map g) (f (g v))=placeOf (fun x=>f (g x)) fresh (f (g v)):=by
   unfold placeOf;rw [List.findIdx?_map]
   rfl
  rw [List.map_cons,qdn,qdn,hp];cases hi:placeOf (fun x=>f (g x)) fresh (f (g v)) with
  |none=>dsimp only;rw [List.map_cons,qfK g f fresh r ob h]
  |some i=>
   obtain⟨hlt,_⟩:=qgP hi
   dsimp only
   split
   ·exact qfK g f fresh r ob h
   ·rw [List.map_cons,qfK g f fresh r _ (by rw [List.length_set];exact h)]
    congr 1
    simp [List.getD,hlt]
theorem qu0 {β γ:Type} (g:β→γ) (f:γ→List UInt8) (vs fresh:List β):(qkl (fun x=>f (g x)) vs fresh).map g=qkl f (vs.map g) (fresh.map g):=by
 unfold qkl;rw [qfK g f fresh vs _ (by simp),List.length_map]
theorem qfJ {β:Type} (f:β→List UInt8) (fresh:List β):∀(vs:List β) (ob:List Bool),(qdn f fresh ob vs).length≤vs.length+fresh.length
 |[],ob=>by
  rw [qdn,List.length_map];refine Nat.le_trans (List.length_filter_le _ _) ?_
  rw [List.length_zip];simp;omega
 |v::r,ob=>by
  rw [qdn];split
  ·rw [List.length_cons,List.length_cons];have:=qfJ f fresh r ob;omega
  ·split
   ·rw [List.length_cons];have:=qfJ f fresh r ob;omega
   ·rw [List.length_cons,List.length_cons];have:=qfJ f fresh r (ob.set ‹Nat› true);omega
theorem quZ {β:Type} (f:β→List UInt8) (vs fresh:List β):(qkl f vs fresh).length≤vs.length+fresh.length:=qfJ f fresh vs _
theorem qm2 {s:Asg} {nm:List UInt8} (h:nm∉s.map Prod.fst):s.lookup nm=none:=by
 induction s with
 |nil=>rfl
 |cons p r ih=>
  obtain⟨k,m⟩:=p;rw [List.map_cons,List.mem_cons,not_or] at h;have:(nm==k)=false:=by simpa using h.1
  rw [List.lookup_cons,this];exact ih h.2
theorem qp6 {s:Asg} {nm:List UInt8} (h:nm∈s.map Prod.fst):∃n,s.lookup nm=some n∧(nm,n)∈s:=by
 induction s with
 |nil=>simp at h
 |cons p r ih=>
  obtain⟨k,m⟩:=p;rw [List.lookup_cons];by_cases e:nm=k
  ·subst e;exact⟨m,by simp,by simp⟩
  ·have:(nm==k)=false:=by simpa using e
   rw [this];rw [List.map_cons,List.mem_cons] at h;obtain⟨n,h1,h2⟩:=ih (h.resolve_left e)
   exact⟨n,h1,List.mem_cons_of_mem _ h2⟩
theorem qvj (x:Int) (k:Nat):(x*x)^(k/2)*x^(k%2)=x^k:=by
 have e:x*x=x^2:=by rw [Int.pow_succ,Int.pow_succ,Int.pow_zero,Int.one_mul]
 rw [e,← Int.pow_mul,← Int.pow_add]
 congr 1;omega
theorem qwB (x:Int):∀k:Nat,U ((U x)^k)=U (x^k)
 |0=>by rw [Int.pow_zero,Int.pow_zero]
 |k+1=>by rw [Int.pow_succ,Int.pow_succ,← qqU,qwB x k,qqU,qmz]
theorem qsK (a:Int) (b:Nat) (hb:(b:Int)≤9223372036854775807) (w:World):
  Calls prog 299 #[.int .i64 a,.int .i64 b] w fun e w'=>e=.returned (.tuple #[.int .i64 (wrap64 (a^b)),.int .i64 0])∧w=w':=by
 have HA:Hid (U (a^b)=U (1*U a^b)):=hid (by rw [Int.one_mul,qwB])
 have hU:=qv7 a;have hw:IntKind.u64.wrap a=U a:=qfs a
 obtain⟨ua,hua⟩:=qQ (U a)
 rw [hua] at HA hU hw;clear hua;go_enter func299,ntmps299;go_wp2;go_loop [6,7,8] (fun p q l=>∃(x y:Int) (k:Nat),p=.int .u64 x∧q=.int .u64 y∧l=.int .u64 k∧k≤b∧0≤x∧x≤18446744073709551615∧0≤y∧y≤18446744073709551615∧Hid (U (a^b)=U (x*y^k))) (fun _ _ l=>(intOf l).toNat)
 case atStart=>exact⟨1,ua,b,rfl,by go_num,by go_num,Nat.le_refl _,by omega,by omega,hU.1,hU.2,HA⟩
 case round=>
  obtain⟨x,y,k,rfl,rfl,rfl,hk,hx0,hx1,hy0,hy1,HE⟩:=hrel;have HY:Hid (U (y*y)^(k/2)=U (y*y)^(k/2)):=hid rfl
  have lY:=qv7 (y*y)
  have lX:=qv7 (x*y)
  have HH:=hid (qvj y k)
  have HU2:Hid (∀z:Int,U (z*U (y*y)^(k/2))=U (z*(y*y)^(k/2))):=hid (fun z=>by rw [← qmz,qwB,qmz])
  by_cases h0:k=0
  ·subst h0
   have HF:Hid (wrap64 x=wrap64 (a^b)):=hid (qmv (by rw [HE.out,Int.pow_zero,Int.mul_one]))
   clear HU2 HH lX lY HY HE;go_wp2;go_ret2;exact⟨by rw [← HF.out];rfl,rfl⟩
  ·by_cases h1:k%2=1
   ·have HF:Hid (U (a^b)=U (U (x*y)*U (y*y)^(k/2))):=hid (by
     have e:=HH.out;rw [h1,Int.pow_one] at e;rw [HE.out,HU2.out,qqU,← e,Int.mul_assoc,Int.mul_comm y ((y*y)^(k/2))])
    have g1:(((k:Int)%2)==1)=true:=by simp;omega
    clear HU2 HH HE;go_wp2;go_round
    case rel=>exact⟨U (x*y),U (y*y),k/2,by rw [← qfs],by rw [← qfs],by go_num,by omega,lX.1,lX.2,lY.1,lY.2,HF⟩
    case measure=>simp [intOf];omega
   ·have HF:Hid (U (a^b)=U (x*U (y*y)^(k/2))):=hid (by
     have e:=HH.out;rw [show k%2=0 by omega,Int.pow_zero,Int.mul_one] at e;rw [HE.out,HU2.out,← e])
    have g1:(((k:Int)%2)==1)=false:=by simp;omega
    clear HU2 HH HE;go_wp2;go_round
    case rel=>exact⟨x,U (y*y),k/2,rfl,by rw [← qfs],by go_num,by omega,hx0,hx1,lY.1,lY.2,HF⟩
    case measure=>simp [intOf];omega
theorem qnj (a b:Int) (hb:b<0) (w:World):
  Calls prog 299 #[.int .i64 a,.int .i64 b] w fun e w'=>e=.returned (.tuple #[.int .i64 0,.int .i64 4])∧w=w':=by
 go_enter func299,ntmps299;go_wp2;go_ret2;exact⟨rfl,rfl⟩
set_option maxHeartbeats 40000000 in
theorem qm0 (l:List UInt8) (h:l∈known) (w:World):
  Calls prog 288 #[.string ⟨l.toArray⟩] w fun e w'=>e=.returned (.int .i64 (levL l))∧w=w':=by
 simp only [known,qlz,List.map_cons,List.map_nil,List.cons_append,List.nil_append,List.mem_cons,List.not_mem_nil,or_false] at h
 rcases h with rfl|rfl|rfl|rfl|rfl|rfl|rfl|rfl|rfl|rfl|rfl|rfl|rfl|rfl|rfl|rfl|rfl|rfl|rfl|rfl|rfl|rfl|rfl|rfl|rfl|rfl|rfl|rfl|rfl|rfl|rfl|rfl|rfl|rfl|rfl|rfl|rfl|rfl|rfl|rfl|rfl|rfl|rfl|rfl|rfl|rfl
 all_goals
  go_enter func288,ntmps288;go_wp2;go_ret;exact⟨rfl,rfl⟩
end Go.Proofs.YtpodopnmkjinhaaGreatDoor.Cal
namespace Go.Proofs.YtpodopnmkjinhaaGreatDoor
open Go.RowKit
structure Kept (B:Nat) (w w':World):Prop where
 os:w'.os=w.os
 tape:w'.tape=w.tape
 output:w'.output=w.output
 size:w.heap.size≤w'.heap.size
 block:∀k,k<w.heap.size→k≠B→w'.heap[k]?=w.heap[k]?
theorem Kept.refl (B:Nat) (w:World):Kept B w w:=⟨rfl,rfl,rfl,Nat.le_refl _,fun _ _ _=>rfl⟩
theorem Kept.trans {B:Nat} {a b c:World} (h:Kept B a b) (k:Kept B b c):Kept B a c:=
 ⟨k.os.trans h.os,k.tape.trans h.tape,k.output.trans h.output,Nat.le_trans h.size k.size,fun i hi hn=>(k.block i (Nat.lt_of_lt_of_le hi h.size) hn).trans (h.block i hi hn)⟩
theorem Kept.of_below {B:Nat} {w w':World} (h:Below w.heap.size w w'):Kept B w w':=⟨h.os,h.tape,h.output,h.size,fun k hk _=>h.block k hk⟩
theorem Kept.below {B N:Nat} {w w':World} (h:Kept B w w') (hN:N≤w.heap.size) (hB:N≤B):Below N w w':=⟨h.os,h.tape,h.output,h.size,fun k hk=>h.block k (by omega) (by omega)⟩
theorem Kept.setCell {B:Nat} {a w:World} (h:Kept B a w) (k:Nat) (v:Value):Kept B a (w.setCell ⟨B,k,none⟩ v):=
 h.trans ⟨rfl,rfl,rfl,by simp [World.setCell],fun i hi hn=>Below.heap_setCell _ _ _ _ hn⟩
theorem Kept.low {B:Nat} {a w w':World} (h:Kept B a w) (k:Below a.heap.size w w'):Kept B a w':=
 ⟨k.os.trans h.os,k.tape.trans h.tape,k.output.trans h.output,Nat.le_trans h.size k.size,fun i hi hn=>(k.block i hi).trans (h.block i hi hn)⟩
end Go.Proofs.YtpodopnmkjinhaaGreatDoor
namespace Go.Proofs.YtpodopnmkjinhaaGreatDoor.Cal
open Go.Lib (hid)
open Go.RowKit
theorem heap_set {w:World} {B k:Nat} {c:Array Value} {t:TypeId} (h:w.heap[B]?=some (.cells c t (0,0))) (v:Value):(w.setCell ⟨B,k,none⟩ v).heap[B]?=some (.cells (c.setIfInBounds k v) t (0,0)):=heap_setCell_same _ _ _ _ _ _ h
theorem qfU (x:List UInt8):(⟨x.toArray⟩:ByteArray).size=x.length:=by show x.toArray.size=_;simp
def opT:T→List UInt8
 |.leaf ..=>[]|.one op _=>op|.two op _ _=>op|.three op _ _ _=>op
def qbP:T→List UInt8
 |.leaf nm _=>nm|.one ..=>[]|.two ..=>[]|.three ..=>[]
def qe1:T→Int
 |.leaf _ n=>n|.one ..=>0|.two ..=>0|.three ..=>0
def qdm:T→Nat
 |.leaf ..=>0|.one ..=>1|.two ..=>2|.three ..=>3
abbrev c0 (t:T):Value:=.string ⟨(opT t).toArray⟩
abbrev c1 (t:T):Value:=.string ⟨(qbP t).toArray⟩
abbrev c2 (t:T):Value:=.int .i64 (qe1 t)
def Tree (w:World) (P:Nat→Prop):Option Addr→Nat→T→Prop
 |A,c,.leaf _ _=>A=none∧c=0
 |A,c,.one _ a=>∃g A1 k1,A=some ⟨g,0,none⟩∧c=1∧P g∧w.heap[g]?=some (.cells #[c0 a,c1 a,c2 a,.slice A1 (qdm a) k1] 205 (0,0))∧Tree w P A1 k1 a
 |A,c,.two _ a b=>∃g A1 k1 A2 k2,A=some ⟨g,0,none⟩∧c=2∧P g∧w.heap[g]?=some (.cells #[c0 a,c1 a,c2 a,.slice A1 (qdm a) k1,c0 b,c1 b,c2 b,.slice A2 (qdm b) k2] 205 (0,0))∧Tree w P A1 k1 a∧Tree w P A2 k2 b
 |A,c,.three _ a b d=>∃g A1 k1 A2 k2 A3 k3,A=some ⟨g,0,none⟩∧c=3∧P g∧
   w.heap[g]?=some (.cells #[c0 a,c1 a,c2 a,.slice A1 (qdm a) k1,c0 b,c1 b,c2 b,.slice A2 (qdm b) k2,c0 d,c1 d,c2 d,.slice A3 (qdm d) k3] 205 (0,0))∧Tree w P A1 k1 a∧Tree w P A2 k2 b∧Tree w P A3 k3 d
def qdY (w:World) (N:Nat) (x y z k:Value):Prop:=w.heap[N]?=some (.cells #[x,y,z,k] 205 (0,0))
section
variable {w w':World} {N:Nat} {x y z k:Value}
theorem qdY.a0 (h:qdY w N x y z k):w.cell? ⟨N,0,none⟩=some x:=by unfold qdY at h;simp [World.cell?,h]
theorem qdY.a1 (h:qdY w N x y z k):w.cell? ⟨N,1,none⟩=some y:=by unfold qdY at h;simp [World.cell?,h]
theorem qdY.a2 (h:qdY w N x y z k):w.cell? ⟨N,2,none⟩=some z:=by unfold qdY at h;simp [World.cell?,h]
theorem qdY.a3 (h:qdY w N x y z k):w.cell? ⟨N,3,none⟩=some k:=by unfold qdY at h;simp [World.cell?,h]
theorem qdY.lt (h:qdY w N x y z k):N<w.heap.size:=lt_of_block h
theorem qdY.below (h:qdY w N x y z k) (hb:Below w.heap.size w w'):qdY w' N x y z k:=(hb.block _ h.lt).trans h
theorem qhY (x' y' z' k':Value) {i:Nat} (hi:i≠N):((((w.setCell ⟨N,0,none⟩ x').setCell ⟨N,1,none⟩ y').setCell ⟨N,2,none⟩ z').setCell ⟨N,3,none⟩ k').heap[i]?=w.heap[i]?:=
 (Below.heap_setCell _ _ _ _ hi).trans ((Below.heap_setCell _ _ _ _ hi).trans ((Below.heap_setCell _ _ _ _ hi).trans (Below.heap_setCell _ _ _ _ hi)))
theorem qdq {B:Nat} {a:World} (h:Below B a w) (hN:B≤N) (x' y' z' k':Value):Below B a ((((w.setCell ⟨N,0,none⟩ x').setCell ⟨N,1,none⟩ y').setCell ⟨N,2,none⟩ z').setCell ⟨N,3,none⟩ k'):=
 (((h.setCell (by exact hN) _).setCell (by exact hN) _).setCell (by exact hN) _).setCell (by exact hN) _
end
theorem qaU (x:List UInt8) (hx:x.length≤281474976710656) (w:World):Calls prog 26 #[.string ⟨x.toArray⟩] w fun e w'=>e=.returned (.string ⟨x.toArray⟩)∧Below w.heap.size w w':=by
 have cC:=fun W=>Tryz.stringslite_Clone ⟨x.toArray⟩ W (by rw [qfU];omega)
 go_enter func26,ntmps26;go_wp2_with (go_at_call 50;(with_reducible refine(cC _).mono ?_);rintro e w1 ⟨rfl,hb1⟩)
 go_ret;exact⟨rfl,hb1⟩
def qeb (e:Int):PanicEntry:={ v:=.iface 251 (.agg #[.int .i64 e]),recovered:=false }
theorem qdx (b:Bool) (w:World):Calls prog 271 #[.bool b] w fun e w'=>e=.returned (.int .i64 (truthI b))∧w=w':=by
 cases b
 ·go_enter func271,ntmps271
  go_wp2;go_ret;exact⟨rfl,rfl⟩
 ·go_enter func271,ntmps271
  go_wp2;go_ret;exact⟨rfl,rfl⟩
theorem qgI (w:World):Calls prog 296 #[.int .i64 0] w fun e w'=>e=.panicked [qeb 53]∧w=w':=by
 go_enter func296,ntmps296;go_wp2;exact⟨rfl,rfl,rfl⟩
theorem qhH (b:Int) (h:b≠0) (w:World):Calls prog 296 #[.int .i64 b] w fun e w'=>e=.returned (.int .i64 b)∧w=w':=by
 have g:(b==0)=false:=by simpa using h
 go_enter func296,ntmps296;go_wp2;go_ret;exact⟨rfl,rfl⟩
theorem qoN (n:Int) (w:World):Calls prog 298 #[.int .i64 n,.int .i64 0] w fun e w'=>e=.returned (.int .i64 n)∧w=w':=by
 go_enter func298,ntmps298;go_wp2;go_ret;exact⟨rfl,rfl⟩
theorem qmg (n er:Int) (h:er≠0) (w:World):Calls prog 298 #[.int .i64 n,.int .i64 er] w fun e w'=>e=.panicked [qeb er]∧w=w':=by
 have g:(er==0)=false:=by simpa using h
 have g2:(er !=0)=true:=by simpa using h
 go_enter func298,ntmps298;go_wp2;exact⟨rfl,rfl,rfl⟩
theorem qjx (b:Int) (w:World):Calls prog 297 #[.int .i64 b] w fun e w'=>e=.returned (.int .u64 (b%64))∧w=w':=by
 have h1:=qv7 b;have h2:U b%64=b%64:=by unfold U;omega
 have HW:=qfs b;obtain⟨u,hu⟩:=qQ (U b)
 rw [hu] at h1 h2 HW;have HH:=hid h2;clear h2 hu;go_enter func297,ntmps297;go_wp2;go_ret;exact⟨by rw [← HH.out];rfl,rfl⟩
theorem qkC (s:ByteArray) (w:World) (hs:s.size≤9223372036854775807):
  Calls prog 79 #[.string s,.string ⟨#[32,9]⟩] w fun e w'=>e=.returned (.string ⟨(Lib.trimS s.data.toList [32,9]).toArray⟩)∧Below w.heap.size w w':=
 Any.strings_Trim_laid Tryz.lays160 (by kernel_rfl) s ⟨#[32,9]⟩ w hs (by decide) (ascii_of_all (by decide))
theorem qci (l p:List UInt8):(Lib.trimPrefix l p).length≤l.length:=by
 unfold Lib.trimPrefix;split<;>simp
theorem qaS {p:UInt8→Bool}:∀l:List UInt8,(l.dropWhile p).length≤l.length
 |[]=>Nat.le_refl _
 |c::r=>by
  rw [List.dropWhile_cons];split
  ·have:=qaS (p:=p) r;rw [List.length_cons];omega
  ·exact Nat.le_refl _
theorem qiD (l cs:List UInt8):(Lib.trimS l cs).length≤l.length:=by
 unfold Lib.trimS Lib.trimLeftS Lib.trimRightS;have h1:=qaS (p:=(cs.contains ·)) (l.reverse.dropWhile (cs.contains ·)).reverse
 have h2:=qaS (p:=(cs.contains ·)) l.reverse
 rw [List.length_reverse] at h1 h2;omega
theorem qp5 (l:List UInt8):(∃n,qlD l=(n,0)∧qqM l=.ok n)∨(qlD l=(0,33)∧qqM l=.error 33):=by
 have h:qlD l=(0,33)∨(qlD l).2=0:=by unfold qlD;split<;>simp
 unfold qqM;rcases h with h|h
 ·exact .inr ⟨h,by rw [h];rfl⟩
 ·exact .inl ⟨(qlD l).1,by rw [← h],by rw [if_pos h]⟩
theorem qby (l:List UInt8):(⟨l.toArray⟩:ByteArray).data.toList=l:=by simp
def qaF (w:World) (N:Nat) (x y z k:Value):Prop:=w.heap[N]?=some (.cells #[x,y,z,k] 210 (0,0))
section
variable {w w':World} {N:Nat} {x y z k:Value}
theorem qaF.a0 (h:qaF w N x y z k):w.cell? ⟨N,0,none⟩=some x:=by unfold qaF at h;simp [World.cell?,h]
theorem qaF.a1 (h:qaF w N x y z k):w.cell? ⟨N,1,none⟩=some y:=by unfold qaF at h;simp [World.cell?,h]
theorem qaF.a2 (h:qaF w N x y z k):w.cell? ⟨N,2,none⟩=some z:=by unfold qaF at h;simp [World.cell?,h]
theorem qaF.a3 (h:qaF w N x y z k):w.cell? ⟨N,3,none⟩=some k:=by unfold qaF at h;simp [World.cell?,h]
theorem qaF.free (h:qaF w N x y z k) (i:Nat):w.frozen? ⟨N,i,none⟩=false:=by unfold qaF at h;simp [World.frozen?,h]
theorem qaF.lt (h:qaF w N x y z k):N<w.heap.size:=lt_of_block h
theorem qaF.below (h:qaF w N x y z k) (hb:Below w.heap.size w w'):qaF w' N x y z k:=(hb.block _ h.lt).trans h
end
def qbv (r:Except Int Int) (e:Ending):Prop:=match r with|.ok n=>e=.returned (.int .i64 n)|.error er=>e=.panicked [qeb er]
theorem qkA (v:V) (A:Value) (w:World) (hs:v.tx.length≤140737488355328):
  Calls prog 309 #[.agg #[.string ⟨v.nm.toArray⟩,.string ⟨v.tx.toArray⟩,.bool v.ar,A]] w fun e w'=>qbv (qfn v) e∧Below w.heap.size w w':=by
 obtain⟨nm,tx,ar,ls⟩:=v
 dsimp only at hs ⊢
 have hal:Below w.heap.size w (w.alloc (.cells #[.string ⟨nm.toArray⟩,.string ⟨tx.toArray⟩,.bool ar,A] 210)):=(Below.refl _ _).alloc (Nat.le_refl _) _
 have hX:qaF (w.alloc (.cells #[.string ⟨nm.toArray⟩,.string ⟨tx.toArray⟩,.bool ar,A] 210)) w.heap.size (.string ⟨nm.toArray⟩) (.string ⟨tx.toArray⟩) (.bool ar) A:=heap_alloc_new _ _
 have x1:=hX.a1;have x2:=hX.a2
 cases ar
 rotate_left
 ·have HT:Hid (qfn ⟨nm,tx,true,ls⟩=.error 33):=hid rfl
  go_enter func309,ntmps309;go_wp2_with fail;exact⟨rfl,by rw [HT.out];rfl,hal⟩
 ·by_cases h0:tx=[]
  ·subst h0
   have HT:Hid (qfn ⟨nm,[],false,ls⟩=.ok 0):=hid rfl
   go_enter func309,ntmps309;go_wp2_with fail;go_ret;exact⟨by rw [HT.out];rfl,hal⟩
  ·have g0:(tx==[])=false:=by simpa using h0
   have HT:Hid (qfn ⟨nm,tx,false,ls⟩=if Lib.hasPrefix (Lib.trimS tx [32,9]) [45] then qzx (qqM (Lib.trimPrefix (Lib.trimS tx [32,9]) [45])) else qqM (Lib.trimPrefix (Lib.trimS tx [32,9]) [45])):=hid (by
    unfold qfn;rw [if_neg (by simp),if_neg h0])
   have cT:=fun W=>qkC ⟨tx.toArray⟩ W (by rw [qfU];omega)
   have hl:=qiD tx [32,9]
   rw [qby] at cT;obtain⟨t,ht⟩:=qQ (Lib.trimS tx [32,9])
   rw [ht] at cT hl HT;have cM:=fun W=>Tryz.strings_CutPrefix ⟨t.toArray⟩ ⟨#[45]⟩ W
   rw [qby,show(⟨#[45]⟩:ByteArray).data.toList=[45] from rfl] at cM;have hm:=qci t [45]
   obtain⟨m,hmm⟩:=qQ (Lib.trimPrefix t [45])
   obtain⟨b,hb⟩:=qQ (Lib.hasPrefix t [45])
   rw [hmm] at cM hm HT;rw [hb] at cM HT;have cL:=fun W=>qh9 ⟨m.toArray⟩ W (by rw [qfU];unfold maxLen;omega)
   rw [qby] at cL;clear ht hmm hb hs hm hl;rcases qp5 m with ⟨n,h1,h2⟩|⟨h1,h2⟩
   ·rw [h1] at cL
    rw [h2] at HT;have cS:=fun W=>qoN n W
    cases b
    ·have HT:Hid (qfn ⟨nm,tx,false,ls⟩=.ok n):=hid HT.out
     clear h0 h1 h2;go_enter func309,ntmps309;generalize hw0:w.alloc (.cells #[.string ⟨nm.toArray⟩,.string ⟨tx.toArray⟩,.bool false,A] 210)=w0 at *;go_wp2_with (first|(go_at_call 79;(with_reducible refine(cT _).mono ?_);rintro e w1 ⟨rfl,hw1⟩)|(go_at_call 174;(with_reducible refine(cM _).mono ?_);rintro e w2 ⟨rfl,rfl⟩)|(go_at_call 204;(with_reducible refine(cL _).mono ?_);rintro e w2 ⟨rfl,rfl⟩)|(go_at_call 298;(with_reducible refine(cS _).mono ?_);rintro e w2 ⟨rfl,rfl⟩))
     go_ret;exact⟨by rw [HT.out];rfl,qT hal hw1⟩
    ·have HT:Hid (qfn ⟨nm,tx,false,ls⟩=.ok (wrap64 (-n))):=hid HT.out
     clear h0 h1 h2;go_enter func309,ntmps309;generalize hw0:w.alloc (.cells #[.string ⟨nm.toArray⟩,.string ⟨tx.toArray⟩,.bool false,A] 210)=w0 at *;go_wp2_with (first|(go_at_call 79;(with_reducible refine(cT _).mono ?_);rintro e w1 ⟨rfl,hw1⟩)|(go_at_call 174;(with_reducible refine(cM _).mono ?_);rintro e w2 ⟨rfl,rfl⟩)|(go_at_call 204;(with_reducible refine(cL _).mono ?_);rintro e w2 ⟨rfl,rfl⟩)|(go_at_call 298;(with_reducible refine(cS _).mono ?_);rintro e w2 ⟨rfl,rfl⟩))
     go_ret;exact⟨by rw [HT.out];rfl,qT hal hw1⟩
   ·rw [h1] at cL
    have HT:Hid (qfn ⟨nm,tx,false,ls⟩=.error 33):=hid (by rw [HT.out,h2];cases b<;>rfl)
    have cS:=fun W=>qmg 0 33 (by decide) W
    clear h0 h1 h2;go_enter func309,ntmps309;generalize hw0:w.alloc (.cells #[.string ⟨nm.toArray⟩,.string ⟨tx.toArray⟩,.bool false,A] 210)=w0 at *;go_wp2_with (first|(go_at_call 79;(with_reducible refine(cT _).mono ?_);rintro e w1 ⟨rfl,hw1⟩)|(go_at_call 174;(with_reducible refine(cM _).mono ?_);rintro e w2 ⟨rfl,rfl⟩)|(go_at_call 204;(with_reducible refine(cL _).mono ?_);rintro e w2 ⟨rfl,rfl⟩)|(go_at_call 298;(with_reducible refine(cS _).mono ?_);rintro e w2 ⟨rfl,rfl⟩))
    exact⟨rfl,by rw [HT.out];rfl,qT hal hw1⟩
theorem qpS (a b:Int) (_ha:-9223372036854775808≤a∧a≤9223372036854775807) (_hb:-9223372036854775808≤b∧b≤9223372036854775807) (w:World):Calls prog 275 #[.string ⟨#[42]⟩,.int .i64 a,.int .i64 b] w fun e w'=>qbv (joinedE [42] a b) e∧w=w':=by
 have HV:Hid (joinedE [42] a b=.ok (wrap64 (a*b))):=hid (rfl)
 clear _ha _hb;go_enter func275,ntmps275;go_wp2;go_ret;exact⟨by rw [HV.out];rfl,rfl⟩
theorem qpJ (a b:Int) (_ha:-9223372036854775808≤a∧a≤9223372036854775807) (_hb:-9223372036854775808≤b∧b≤9223372036854775807) (w:World):Calls prog 275 #[.string ⟨#[43]⟩,.int .i64 a,.int .i64 b] w fun e w'=>qbv (joinedE [43] a b) e∧w=w':=by
 have HV:Hid (joinedE [43] a b=.ok (wrap64 (a+b))):=hid (rfl)
 clear _ha _hb;go_enter func275,ntmps275;go_wp2;go_ret;exact⟨by rw [HV.out];rfl,rfl⟩
theorem qpZ (a b:Int) (_ha:-9223372036854775808≤a∧a≤9223372036854775807) (_hb:-9223372036854775808≤b∧b≤9223372036854775807) (w:World):Calls prog 275 #[.string ⟨#[45]⟩,.int .i64 a,.int .i64 b] w fun e w'=>qbv (joinedE [45] a b) e∧w=w':=by
 have HV:Hid (joinedE [45] a b=.ok (wrap64 (a-b))):=hid (rfl)
 clear _ha _hb;go_enter func275,ntmps275;go_wp2;go_ret;exact⟨by rw [HV.out];rfl,rfl⟩
theorem qmW (a b:Int) (_ha:-9223372036854775808≤a∧a≤9223372036854775807) (_hb:-9223372036854775808≤b∧b≤9223372036854775807) (h0:b=0) (w:World):Calls prog 275 #[.string ⟨#[47]⟩,.int .i64 a,.int .i64 b] w fun e w'=>qbv (joinedE [47] a b) e∧w=w':=by
 have HV:Hid (joinedE [47] a b=.error 53):=hid (by rw [h0];rfl)
 subst h0;have cD:=fun W=>qgI W
 clear _ha _hb;go_enter func275,ntmps275;go_wp2_with (first|(go_at_call 296;(with_reducible refine(cD _).mono ?_);rintro e w1 ⟨rfl,rfl⟩))
 exact⟨rfl,by rw [HV.out];rfl,rfl⟩
theorem qpV (a b:Int) (_ha:-9223372036854775808≤a∧a≤9223372036854775807) (_hb:-9223372036854775808≤b∧b≤9223372036854775807) (h0:b≠0) (w:World):Calls prog 275 #[.string ⟨#[47]⟩,.int .i64 a,.int .i64 b] w fun e w'=>qbv (joinedE [47] a b) e∧w=w':=by
 have HV:Hid (joinedE [47] a b=.ok (wrap64 (a.tdiv b))):=hid (by simp [joinedE,h0])
 have cD:=fun W=>qhH b h0 W
 have g0:(b==0)=false:=by simpa using h0
 clear _ha _hb;go_enter func275,ntmps275;go_wp2_with (first|(go_at_call 296;(with_reducible refine(cD _).mono ?_);rintro e w1 ⟨rfl,rfl⟩))
 go_ret;exact⟨by rw [HV.out];rfl,rfl⟩
theorem qmX (a b:Int) (_ha:-9223372036854775808≤a∧a≤9223372036854775807) (_hb:-9223372036854775808≤b∧b≤9223372036854775807) (h0:b=0) (w:World):Calls prog 275 #[.string ⟨#[37]⟩,.int .i64 a,.int .i64 b] w fun e w'=>qbv (joinedE [37] a b) e∧w=w':=by
 have HV:Hid (joinedE [37] a b=.error 53):=hid (by rw [h0];rfl)
 subst h0;have cD:=fun W=>qgI W
 clear _ha _hb;go_enter func275,ntmps275;go_wp2_with (first|(go_at_call 296;(with_reducible refine(cD _).mono ?_);rintro e w1 ⟨rfl,rfl⟩))
 exact⟨rfl,by rw [HV.out];rfl,rfl⟩
theorem qpW (a b:Int) (_ha:-9223372036854775808≤a∧a≤9223372036854775807) (_hb:-9223372036854775808≤b∧b≤9223372036854775807) (h0:b≠0) (w:World):Calls prog 275 #[.string ⟨#[37]⟩,.int .i64 a,.int .i64 b] w fun e w'=>qbv (joinedE [37] a b) e∧w=w':=by
 have HV:Hid (joinedE [37] a b=.ok (a.tmod b)):=hid (by simp [joinedE,h0])
 have cD:=fun W=>qhH b h0 W
 have g0:(b==0)=false:=by simpa using h0
 clear _ha _hb;go_enter func275,ntmps275;go_wp2_with (first|(go_at_call 296;(with_reducible refine(cD _).mono ?_);rintro e w1 ⟨rfl,rfl⟩))
 go_ret;exact⟨by rw [HV.out];rfl,rfl⟩
theorem qpX (a b:Int) (_ha:-9223372036854775808≤a∧a≤9223372036854775807) (_hb:-9223372036854775808≤b∧b≤9223372036854775807) (w:World):Calls prog 275 #[.string ⟨#[60,60]⟩,.int .i64 a,.int .i64 b] w fun e w'=>qbv (joinedE [60,60] a b) e∧w=w':=by
 have HV:Hid (joinedE [60,60] a b=.ok (wrap64 (a*2^(b%64).toNat))):=hid (rfl)
 have cP:=fun W=>qjx b W
 have hm0:0≤b%64:=by omega
 have hm9:b%64<64:=by omega
 obtain⟨m,hm⟩:=qQ (b%64)
 rw [hm] at cP hm0 hm9 HV;clear hm;clear _ha _hb;go_enter func275,ntmps275;go_wp2_with (first|(go_at_call 297;(with_reducible refine(cP _).mono ?_);rintro e w1 ⟨rfl,rfl⟩))
 go_ret;exact⟨by rw [HV.out];rfl,rfl⟩
theorem qpY (a b:Int) (_ha:-9223372036854775808≤a∧a≤9223372036854775807) (_hb:-9223372036854775808≤b∧b≤9223372036854775807) (w:World):Calls prog 275 #[.string ⟨#[62,62]⟩,.int .i64 a,.int .i64 b] w fun e w'=>qbv (joinedE [62,62] a b) e∧w=w':=by
 have HV:Hid (joinedE [62,62] a b=.ok (a/2^(b%64).toNat)):=hid (rfl)
 have cP:=fun W=>qjx b W
 have hm0:0≤b%64:=by omega
 have hm9:b%64<64:=by omega
 obtain⟨m,hm⟩:=qQ (b%64)
 rw [hm] at cP hm0 hm9 HV;clear hm;clear _ha _hb;go_enter func275,ntmps275;go_wp2_with (first|(go_at_call 297;(with_reducible refine(cP _).mono ?_);rintro e w1 ⟨rfl,rfl⟩))
 go_ret;exact⟨by rw [HV.out];rfl,rfl⟩
theorem qpR (a b:Int) (_ha:-9223372036854775808≤a∧a≤9223372036854775807) (_hb:-9223372036854775808≤b∧b≤9223372036854775807) (w:World):Calls prog 275 #[.string ⟨#[60]⟩,.int .i64 a,.int .i64 b] w fun e w'=>qbv (joinedE [60] a b) e∧w=w':=by
 have HV:Hid (joinedE [60] a b=.ok (truthI (decide (a<b)))):=hid (rfl)
 have cT:=fun b W=>qdx b W
 clear _ha _hb;go_enter func275,ntmps275;go_wp2_with (first|(go_at_call 271;(with_reducible refine(cT _ _).mono ?_);rintro e w1 ⟨rfl,rfl⟩))
 go_ret;exact⟨by rw [HV.out];rfl,rfl⟩
theorem qpQ (a b:Int) (_ha:-9223372036854775808≤a∧a≤9223372036854775807) (_hb:-9223372036854775808≤b∧b≤9223372036854775807) (w:World):Calls prog 275 #[.string ⟨#[60,61]⟩,.int .i64 a,.int .i64 b] w fun e w'=>qbv (joinedE [60,61] a b) e∧w=w':=by
 have HV:Hid (joinedE [60,61] a b=.ok (truthI (decide (a≤b)))):=hid (rfl)
 have cT:=fun b W=>qdx b W
 clear _ha _hb;go_enter func275,ntmps275;go_wp2_with (first|(go_at_call 271;(with_reducible refine(cT _ _).mono ?_);rintro e w1 ⟨rfl,rfl⟩))
 go_ret;exact⟨by rw [HV.out];rfl,rfl⟩
theorem qpP (a b:Int) (_ha:-9223372036854775808≤a∧a≤9223372036854775807) (_hb:-9223372036854775808≤b∧b≤9223372036854775807) (w:World):Calls prog 275 #[.string ⟨#[62]⟩,.int .i64 a,.int .i64 b] w fun e w'=>qbv (joinedE [62] a b) e∧w=w':=by
 have HV:Hid (joinedE [62] a b=.ok (truthI (decide (b<a)))):=hid (rfl)
 have cT:=fun b W=>qdx b W
 clear _ha _hb;go_enter func275,ntmps275;go_wp2_with (first|(go_at_call 271;(with_reducible refine(cT _ _).mono ?_);rintro e w1 ⟨rfl,rfl⟩))
 go_ret;exact⟨by rw [HV.out];rfl,rfl⟩
theorem qpO (a b:Int) (_ha:-9223372036854775808≤a∧a≤9223372036854775807) (_hb:-9223372036854775808≤b∧b≤9223372036854775807) (w:World):Calls prog 275 #[.string ⟨#[62,61]⟩,.int .i64 a,.int .i64 b] w fun e w'=>qbv (joinedE [62,61] a b) e∧w=w':=by
 have HV:Hid (joinedE [62,61] a b=.ok (truthI (decide (b≤a)))):=hid (rfl)
 have cT:=fun b W=>qdx b W
 clear _ha _hb;go_enter func275,ntmps275;go_wp2_with (first|(go_at_call 271;(with_reducible refine(cT _ _).mono ?_);rintro e w1 ⟨rfl,rfl⟩))
 go_ret;exact⟨by rw [HV.out];rfl,rfl⟩
theorem qpN (a b:Int) (_ha:-9223372036854775808≤a∧a≤9223372036854775807) (_hb:-9223372036854775808≤b∧b≤9223372036854775807) (w:World):Calls prog 275 #[.string ⟨#[61,61]⟩,.int .i64 a,.int .i64 b] w fun e w'=>qbv (joinedE [61,61] a b) e∧w=w':=by
 have HV:Hid (joinedE [61,61] a b=.ok (truthI (a==b))):=hid (rfl)
 have cT:=fun b W=>qdx b W
 clear _ha _hb;go_enter func275,ntmps275;go_wp2_with (first|(go_at_call 271;(with_reducible refine(cT _ _).mono ?_);rintro e w1 ⟨rfl,rfl⟩))
 go_ret;exact⟨by rw [HV.out];rfl,rfl⟩
theorem qpT (a b:Int) (_ha:-9223372036854775808≤a∧a≤9223372036854775807) (_hb:-9223372036854775808≤b∧b≤9223372036854775807) (w:World):Calls prog 275 #[.string ⟨#[33,61]⟩,.int .i64 a,.int .i64 b] w fun e w'=>qbv (joinedE [33,61] a b) e∧w=w':=by
 have HV:Hid (joinedE [33,61] a b=.ok (truthI (a !=b))):=hid (rfl)
 have cT:=fun b W=>qdx b W
 clear _ha _hb;go_enter func275,ntmps275;go_wp2_with (first|(go_at_call 271;(with_reducible refine(cT _ _).mono ?_);rintro e w1 ⟨rfl,rfl⟩))
 go_ret;exact⟨by rw [HV.out];rfl,rfl⟩
theorem qpK (a b:Int) (_ha:-9223372036854775808≤a∧a≤9223372036854775807) (_hb:-9223372036854775808≤b∧b≤9223372036854775807) (w:World):Calls prog 275 #[.string ⟨#[38]⟩,.int .i64 a,.int .i64 b] w fun e w'=>qbv (joinedE [38] a b) e∧w=w':=by
 have HV:Hid (joinedE [38] a b=.ok (IntKind.i64.wrap (Int.ofNat ((IntKind.u64.wrap a).toNat &&& (IntKind.u64.wrap b).toNat)))):=hid (rfl)
 clear _ha _hb;go_enter func275,ntmps275;go_wp2;go_ret;exact⟨by rw [HV.out];rfl,rfl⟩
theorem qp0 (a b:Int) (_ha:-9223372036854775808≤a∧a≤9223372036854775807) (_hb:-9223372036854775808≤b∧b≤9223372036854775807) (w:World):Calls prog 275 #[.string ⟨#[94]⟩,.int .i64 a,.int .i64 b] w fun e w'=>qbv (joinedE [94] a b) e∧w=w':=by
 have HV:Hid (joinedE [94] a b=.ok (IntKind.i64.wrap (Int.ofNat ((IntKind.u64.wrap a).toNat ^^^ (IntKind.u64.wrap b).toNat)))):=hid (rfl)
 clear _ha _hb;go_enter func275,ntmps275;go_wp2;go_ret;exact⟨by rw [HV.out];rfl,rfl⟩
theorem qrX (a b:Int) (_ha:-9223372036854775808≤a∧a≤9223372036854775807) (_hb:-9223372036854775808≤b∧b≤9223372036854775807) (w:World):Calls prog 275 #[.string ⟨#[124]⟩,.int .i64 a,.int .i64 b] w fun e w'=>qbv (joinedE [124] a b) e∧w=w':=by
 have HV:Hid (joinedE [124] a b=.ok (IntKind.i64.wrap (Int.ofNat ((IntKind.u64.wrap a).toNat ||| (IntKind.u64.wrap b).toNat)))):=hid (rfl)
 clear _ha _hb;go_enter func275,ntmps275;go_wp2;go_ret;exact⟨by rw [HV.out];rfl,rfl⟩
theorem qmV (a b:Int) (_ha:-9223372036854775808≤a∧a≤9223372036854775807) (_hb:-9223372036854775808≤b∧b≤9223372036854775807) (h0:b<0) (w:World):Calls prog 275 #[.string ⟨#[42,42]⟩,.int .i64 a,.int .i64 b] w fun e w'=>qbv (joinedE [42,42] a b) e∧w=w':=by
 have HV:Hid (joinedE [42,42] a b=.error 4):=hid (by simp [joinedE,h0])
 have cW:=fun W=>qnj a b h0 W
 have cS:=fun W=>qmg 0 4 (by decide) W
 clear h0;clear _ha _hb;go_enter func275,ntmps275;go_wp2_with (first|(go_at_call 299;(with_reducible refine(cW _).mono ?_);rintro e w1 ⟨rfl,rfl⟩)|(go_at_call 298;(with_reducible refine(cS _).mono ?_);rintro e w2 ⟨rfl,rfl⟩))
 exact⟨rfl,by rw [HV.out];rfl,rfl⟩
theorem qpU (a b:Int) (_ha:-9223372036854775808≤a∧a≤9223372036854775807) (_hb:-9223372036854775808≤b∧b≤9223372036854775807) (h0:¬b<0) (w:World):Calls prog 275 #[.string ⟨#[42,42]⟩,.int .i64 a,.int .i64 b] w fun e w'=>qbv (joinedE [42,42] a b) e∧w=w':=by
 have HV:Hid (joinedE [42,42] a b=.ok (wrap64 (a^b.toNat))):=hid (by simp [joinedE,h0])
 obtain⟨n,rfl⟩:∃n:Nat,b=(n:Int):=⟨b.toNat,by omega⟩
 have cW:=fun W=>qsK a n _hb.2 W
 have cS:=fun n W=>qoN n W
 clear h0;clear _ha _hb;go_enter func275,ntmps275;go_wp2_with (first|(go_at_call 299;(with_reducible refine(cW _).mono ?_);rintro e w1 ⟨rfl,rfl⟩)|(go_at_call 298;(with_reducible refine(cS _ _).mono ?_);rintro e w2 ⟨rfl,rfl⟩))
 go_ret;exact⟨by rw [HV.out];rfl,rfl⟩
theorem qpM (a b:Int) (_ha:-9223372036854775808≤a∧a≤9223372036854775807) (_hb:-9223372036854775808≤b∧b≤9223372036854775807) (w:World):Calls prog 275 #[.string ⟨#[44]⟩,.int .i64 a,.int .i64 b] w fun e w'=>qbv (joinedE [44] a b) e∧w=w':=by
 have HV:Hid (joinedE [44] a b=.ok b):=hid (rfl)
 clear _ha _hb;go_enter func275,ntmps275;go_wp2;go_ret;exact⟨by rw [HV.out];rfl,rfl⟩
def joinOps:List (List UInt8):=[[42],[47],[37],[43],[45],[60,60],[62,62],[60],[60,61],[62],[62,61],[61,61],[33,61],[38],[94],[124],[42,42],[44]]
theorem qgi (op:List UInt8) (h:op∈joinOps) (a b:Int) (ha:-9223372036854775808≤a∧a≤9223372036854775807) (hb:-9223372036854775808≤b∧b≤9223372036854775807) (w:World):
  Calls prog 275 #[.string ⟨op.toArray⟩,.int .i64 a,.int .i64 b] w fun e w'=>qbv (joinedE op a b) e∧w=w':=by
 simp only [joinOps,List.mem_cons,List.not_mem_nil,or_false] at h
 rcases h with rfl|rfl|rfl|rfl|rfl|rfl|rfl|rfl|rfl|rfl|rfl|rfl|rfl|rfl|rfl|rfl|rfl|rfl
 ·exact qpS a b ha hb w
 ·by_cases h0:b=0
  ·exact qmW a b ha hb h0 w
  ·exact qpV a b ha hb h0 w
 ·by_cases h0:b=0
  ·exact qmX a b ha hb h0 w
  ·exact qpW a b ha hb h0 w
 ·exact qpJ a b ha hb w
 ·exact qpZ a b ha hb w
 ·exact qpX a b ha hb w
 ·exact qpY a b ha hb w
 ·exact qpR a b ha hb w
 ·exact qpQ a b ha hb w
 ·exact qpP a b ha hb w
 ·exact qpO a b ha hb w
 ·exact qpN a b ha hb w
 ·exact qpT a b ha hb w
 ·exact qpK a b ha hb w
 ·exact qp0 a b ha hb w
 ·exact qrX a b ha hb w
 ·by_cases h0:b<0
  ·exact qmV a b ha hb h0 w
  ·exact qpU a b ha hb h0 w
 ·exact qpM a b ha hb w
def qkT:Except Int Int→Prop
 |.ok n=>-9223372036854775808≤n∧n≤9223372036854775807
 |.error _=>True
theorem qhP {c:Prop} [Decidable c] {x y:Except Int Int} (hx:qkT x) (hy:qkT y):qkT (if c then x else y):=by
 by_cases h:c
 ·rw [if_pos h];exact hx
 ·rw [if_neg h];exact hy
theorem qfF (op:List UInt8) (a b:Int) (ha:-9223372036854775808≤a∧a≤9223372036854775807) (hb:-9223372036854775808≤b∧b≤9223372036854775807):qkT (joinedE op a b):=by
 have hw:∀x,-9223372036854775808≤wrap64 x∧wrap64 x≤9223372036854775807:=fun x=>by unfold wrap64;omega
 have hi:∀x,-9223372036854775808≤IntKind.i64.wrap x∧IntKind.i64.wrap x≤9223372036854775807:=fun x=>by rw [IntKind.wrap_i64];omega
 have ht:∀x,-9223372036854775808≤truthI x∧truthI x≤9223372036854775807:=fun x=>by cases x<;>decide
 have hd:∀k:Nat,-9223372036854775808≤a/2^k∧a/2^k≤9223372036854775807:=fun k=>by
  have h1:(1:Int)≤2^k:=Int.pow_pos (by decide)
  generalize (2:Int)^k=p at *;rcases Int.lt_or_le a 0 with h0|h0
  ·have h2:=Int.ediv_le_ediv (c:=p) (by omega) (show a≤0 by omega)
   have h3:-9223372036854775808≤a/p:=by
    rw [Int.le_ediv_iff_mul_le (by omega)];have:p*-9223372036854775808≤1*-9223372036854775808:=Int.mul_le_mul_of_nonpos_right h1 (by omega)
    rw [Int.mul_comm];omega
   rw [Int.zero_ediv] at h2;omega
  ·have h2:=Int.ediv_nonneg h0 (show(0:Int)≤p by omega)
   have h3:=Int.ediv_le_self p h0;omega
 have hr:-9223372036854775808≤a.tmod b∧a.tmod b≤9223372036854775807:=by
  by_cases h0:b=0
  ·rw [h0,Int.tmod_zero];exact ha
  have h1:=Int.natAbs_tmod a b;have h2:=Nat.mod_lt a.natAbs (show 0<b.natAbs by omega)
  rw [← h1] at h2;omega
 unfold joinedE
 repeat' apply qhP
 all_goals (first|trivial|exact hw _|exact ht _|exact hi _|exact hd _|exact hb|exact hr)
end Go.Proofs.YtpodopnmkjinhaaGreatDoor.Cal
namespace Go.Proofs.YtpodopnmkjinhaaGreatDoor.Cal
open Go.Lib (hid)
open Go.Maps (Keyed)
open Go.RowKit
open Go.WideElems (Fit rd rg pl)
def qqI (v:Value):Option (DataW Value×List MemPlace):=some (.held v,[])
theorem qy7:Keyed prog 9:=Maps.string_keyed underlying9
theorem qlv (s:List UInt8) (h:s.length≤maxLen):keyOf prog 9 (.string ⟨s.toArray⟩)=some (.string s):=by
 have:=WideMaps.keyOf_string_mk (P:=prog) (k:=9) underlying9 (s:=⟨s.toArray⟩) (by show s.toArray.size≤maxLen;simpa using h)
 simpa using this
def qc8 (w:World) (b n:Nat) (f:List UInt8→Option Value):Prop:=
 ∃es clock,w.heap[b]?=some (.map es clock)∧Fit prog 9 qqI es clock∧es.size≤n∧
  (∀x∈es.toList,∃s,x.key=.string ⟨s.toArray⟩∧f s=some x.val)∧(∀s v,f s=some v→∃x∈es.toList,x.key=.string ⟨s.toArray⟩∧x.val=v)
theorem qc8.block {w w':World} {b n:Nat} {f:List UInt8→Option Value} (h:qc8 w b n f) (hb:w'.heap[b]?=w.heap[b]?):qc8 w' b n f:=by
 obtain⟨es,clock,h1,h2⟩:=h;exact⟨es,clock,hb.trans h1,h2⟩
theorem qc8.lt {w:World} {b n:Nat} {f:List UInt8→Option Value} (h:qc8 w b n f):b<w.heap.size:=by
 obtain⟨es,clock,h1,_⟩:=h;exact(Array.getElem?_eq_some_iff.1 h1).1
theorem qc8.obj {w:World} {b n:Nat} {f:List UInt8→Option Value} (h:qc8 w b n f):∃es clock,w.heap[b]?=some (.map es clock):=by
 obtain⟨es,clock,h1,_⟩:=h;exact⟨es,clock,h1⟩
theorem qc8.mono {w:World} {b n m:Nat} {f:List UInt8→Option Value} (h:qc8 w b n f) (hm:n≤m):qc8 w b m f:=by
 obtain⟨es,clock,h1,h2,h3,h4⟩:=h;exact⟨es,clock,h1,h2,Nat.le_trans h3 hm,h4⟩
theorem qc8.made (w:World):qc8 (w.alloc (.map #[] 0)) w.heap.size 0 (fun _=>none):=
 ⟨#[],0,(MapKept.heap_alloc w _).1,⟨by simp,MapKept.stamped_empty 0,by simp⟩,Nat.le_refl _,by simp,by simp⟩
theorem qc8.look {w:World} {b n:Nat} {f:List UInt8→Option Value} (h:qc8 w b n f) {t e:TypeId} (ht:prog.underlying t=some (.map 9 e)) {z:Value} (hz:(zeroValue e).run prog w=.ok z w)
  (c:Bool) (s:List UInt8) (hs:s.length≤maxLen):
  (Instr.lookup t (.map (some b)) (.string ⟨s.toArray⟩) c).run prog w=.ok (if c then .tuple #[(f s).getD z,.bool (f s).isSome] else(f s).getD z) w:=by
 obtain⟨es,clock,hb,F,_,h1,h2⟩:=h;rcases Maps.fit_look c qy7 ht hz hb F (qlv s hs) with ⟨hr,hn,_⟩|⟨e0,y,hm,hk,hr,_,_,_⟩
 ·have:f s=none:=by
   cases hf:f s with
   |none=>rfl
   |some v=>
    obtain⟨x,hx,hk,_⟩:=h2 s v hf;exact absurd hk (hn x hx)
  rw [hr,this];cases c<;>rfl
 ·obtain⟨s',hk',hf⟩:=h1 e0 hm
  rw [hk] at hk';have:s=s':=by simpa using hk'
  subst this;rw [hr,hf];cases c<;>rfl
theorem qia {H:Type} {x p:Lit×DataW H}:∀{l:List (Lit×DataW H)},p∈DataW.insert x l↔p=x∨p∈l:=ChangeMaps.mem_insert_iff
theorem mem_sorted {H:Type} {p:Lit×DataW H}:∀{l:List (Lit×DataW H)},p∈l.foldr DataW.insert []↔p∈l
 |[]=>by simp
 |x::r=>by rw [List.foldr_cons,qia,mem_sorted,List.mem_cons]
theorem qc8.store {w:World} {b n:Nat} {f:List UInt8→Option Value} (h:qc8 w b n f) {t e:TypeId} (ht:prog.underlying t=some (.map 9 e)) (hn:n<maxLen) (s:List UInt8) (hs:s.length≤maxLen) (v:Value):
  ∃w',(Instr.mapUpdate t (.map (some b)) (.string ⟨s.toArray⟩) v).run prog w=.ok () w'∧qc8 w' b (if(f s).isSome then n else n+1) (fun k=>if k=s then some v else f k)∧w.grownBy w' (some b):=by
 obtain⟨es,clock,hb,F,hsz,h1,h2⟩:=h;obtain⟨es',clock',hrun,F',hput,_,_,hwho⟩:=Maps.fit_store (R':=qqI) qy7 ht hb F (Nat.lt_of_le_of_lt hsz hn) (fun _ _ _ _ hz=>hz) (qlv s hs) (yv:=(.held v,[])) rfl
 have hrg:∀x:MapEntry,∀k:List UInt8,x.key=.string ⟨k.toArray⟩→k.length≤maxLen→rg prog 9 qqI x=(.string k,.held x.val):=fun x k hk hkl=>by
  have:=WideElems.rg_of (WideElems.rd_mk (P:=prog) (k:=9) (R:=qqI) (key:=x.key) (val:=x.val) (born:=x.born) (yv:=(.held x.val,[])) (hk▸qlv k hkl) rfl)
  simpa using this
 have hlen:∀{es:Array MapEntry} {clock:Nat},Fit prog 9 qqI es clock→∀x∈es.toList,∀k:List UInt8,x.key=.string ⟨k.toArray⟩→k.length≤maxLen:=fun F x hx k hk=>by
  obtain⟨y,hy⟩:=F.reads x hx;have:=WideElems.rd_key hy
  rw [hk,keyOf_string underlying9] at this;simp [mapKey,underlying9] at this
  have h3:=this.1;have:(⟨k.toArray⟩:ByteArray).size=k.length:=by show k.toArray.size=_;simp
  omega
 refine⟨_,hrun,⟨es',clock',ChangeMaps.heap_setBlock_same hb _,F',?_,?_,?_⟩,⟨rfl,rfl,rfl,by simp [ChangeMaps.setBlock],fun i _ hi=>ChangeMaps.heap_setBlock_other hb _ (fun e=>hi (by rw [e]))⟩⟩
 ·have e1:es'.size=((es'.toList.map (rg prog 9 qqI)).foldr DataW.insert []).length:=by rw [length_sorted];simp
  rw [e1,hput];unfold ChangeMaps.putKey;rw [length_insert];cases hfs:f s with
  |none=>
   have e2:=List.length_filter_le (ChangeMaps.notKey (.string s)) ((es.toList.map (rg prog 9 qqI)).foldr DataW.insert [])
   rw [length_sorted] at e2;simp at e2
   simp
   omega
  |some u=>
   obtain⟨x,hx,hxk,_⟩:=h2 s u hfs;have e2:(((es.toList.map (rg prog 9 qqI)).foldr DataW.insert []).filter (ChangeMaps.notKey (.string s))).length<((es.toList.map (rg prog 9 qqI)).foldr DataW.insert []).length:=
    List.length_filter_lt_length_iff_exists.2 ⟨(.string s,.held x.val),mem_sorted.2 (by rw [← hrg x s hxk hs];exact List.mem_map_of_mem hx),by
     intro h
     exact(Maps.notKey_iff (qy7.key (qlv s hs))).1 h rfl⟩
   rw [length_sorted] at e2;simp at e2
   simp
   omega
 ·intro x hx
  rcases hwho x hx with ⟨hx,hne⟩|⟨hk,hv⟩
  ·obtain⟨k,hk,hf⟩:=h1 x hx
   refine⟨k,hk,?_⟩
   have:k≠s:=fun e=>hne (by rw [hk,e])
   dsimp only
   rw [if_neg this];exact hf
  ·exact⟨s,hk,by dsimp only;rw [if_pos rfl,hv]⟩
 ·intro k u hk
  have hmem:∀p,p∈es'.toList.map (rg prog 9 qqI)↔p=(.string s,.held v)∨(p∈es.toList.map (rg prog 9 qqI)∧ChangeMaps.notKey (.string s) p=true):=fun p=>by
   rw [← mem_sorted,hput];unfold ChangeMaps.putKey;rw [qia,List.mem_filter,mem_sorted]
  by_cases e:k=s
  ·subst e
   dsimp only at hk
   rw [if_pos rfl] at hk;cases hk
   obtain⟨x,hx,hxe⟩:=List.mem_map.1 ((hmem _).2 (.inl rfl))
   rcases hwho x hx with ⟨hx0,hne⟩|⟨hk2,hv2⟩
   ·obtain⟨j,hj,hf⟩:=h1 x hx0
    rw [hrg x j hj (hlen F x hx0 j hj)] at hxe;have:j=k:=by simpa using (Prod.mk.inj hxe).1
    exact absurd (by rw [hj,this]) hne
   ·exact⟨x,hx,hk2,hv2⟩
  ·dsimp only at hk
   rw [if_neg e] at hk;obtain⟨x,hx,hxk,hxv⟩:=h2 k u hk;have hkl:=hlen F x hx k hxk;have hp:=hrg x k hxk hkl;have:((.string k,.held x.val):Lit×DataW Value)∈es'.toList.map (rg prog 9 qqI):=by
    refine(hmem _).2 (.inr ⟨by rw [← hp];exact List.mem_map_of_mem hx,?_⟩)
    rw [Maps.notKey_iff (qy7.key (qlv s hs))];intro e2
    apply e
    simpa using e2
   obtain⟨x',hx',hxe⟩:=List.mem_map.1 this;obtain⟨j,hj,hjk⟩:∃j:List UInt8,x'.key=.string ⟨j.toArray⟩∧True:=by
    rcases hwho x' hx' with ⟨h0,_⟩|⟨h0,_⟩
    ·obtain⟨j,hj,_⟩:=h1 x' h0;exact⟨j,hj,trivial⟩
    ·exact⟨s,h0,trivial⟩
   rw [hrg x' j hj (hlen F' x' hx' j hj)] at hxe;have e1:j=k:=by simpa using (Prod.mk.inj hxe).1
   have e2:x'.val=x.val:=by simpa using (Prod.mk.inj hxe).2
   exact⟨x',hx',by rw [hj,e1],by rw [e2,hxv]⟩
theorem qdg {w:World} {ops:Array Oper} {rest:List Oper} {o:Oper} {a:Act} {Q:Exit→Act→World→Prop}
  (hg:o.guard=none) (m x v:Operand) (t e:TypeId) (hop:o.op=Op.mapUpdate t m x v) (ht:prog.underlying t=some (.map 9 e)) (b n:Nat) (f:List UInt8→Option Value)
  (hm:a.eval m=.map (some b)) (hown:qc8 w b n f) (hn:n<maxLen) (s:List UInt8) (val:Value) (hx:a.eval x=.string ⟨s.toArray⟩) (hv:a.eval v=val) (hs:s.length≤maxLen)
  (hK:∀w',qc8 w' b (if(f s).isSome then n else n+1) (fun k=>if k=s then some val else f k)→w.grownBy w' (some b)→wpList prog ops Q rest (a.put o.dst undef) w'):
  wpList prog ops Q (o::rest) a w:=by
 refine wpList_plain hg fun K' hK'=>?_
 obtain⟨w',hrun,r1,r2⟩:=hown.store ht hn s hs val;unfold Oper.wp;simp [execOp,hop,hm,hx,hv,hrun,Result.andThen]
 exact hK' _ _ (hK w' r1 r2)
theorem qbq {w:World} {ops:Array Oper} {rest:List Oper} {o:Oper} {a:Act} {Q:Exit→Act→World→Prop}
  (hg:o.guard=none) (m x:Operand) (t e:TypeId) (c:Bool) (hop:o.op=Op.lookup t m x c) (ht:prog.underlying t=some (.map 9 e)) (z:Value) (hz:(zeroValue e).run prog w=.ok z w) (b n:Nat) (f:List UInt8→Option Value)
  (hm:a.eval m=.map (some b)) (hown:qc8 w b n f) (s:List UInt8) (hx:a.eval x=.string ⟨s.toArray⟩) (hs:s.length≤maxLen)
  (hK:wpList prog ops Q rest (a.put o.dst (if c then .tuple #[(f s).getD z,.bool (f s).isSome] else(f s).getD z)) w):
  wpList prog ops Q (o::rest) a w:=by
 refine wpList_plain hg fun K' hK'=>?_
 have hrun:=hown.look ht hz c s hs;unfold Oper.wp;simp [execOp,hop,hm,hx,hrun,Result.andThen]
 exact hK' _ _ hK
end Go.Proofs.YtpodopnmkjinhaaGreatDoor.Cal
namespace Go.Proofs.YtpodopnmkjinhaaGreatDoor
open Go.Lib (hid)
open Go.RowKit
theorem qac {b:Nat} {w w':World} {o:Obj} (h:w.heap[b]?=some o) (hk:Below w.heap.size w w'):w'.heap[b]?=some o:=(hk.block b (lt_of_block h)).trans h
theorem qhc:(prog.info? 9).map (fun i=>(i.zero,i.size,i.bytes))=some (some (.string .empty),1,16):=by kernel_rfl
theorem qeI {w w':World} {N n:Nat} {v:Value} {xs:List Value} (h:w.ownsRow N 9 1 v n xs) (hb:∀g,v.ownBlock=some g→w'.heap[g]?=w.heap[g]?):w'.ownsRow N 9 1 v n xs:=by
 refine⟨h.1,?_⟩
 rcases h.2 with h0|⟨g,cap,cur,hv,h1,h2,h3⟩
 ·exact .inl h0
 ·exact .inr ⟨g,cap,cur,hv,h1,(hb g (by rw [hv];rfl)).trans h2,h3⟩
theorem qik {w w':World} {N n k:Nat} {e:TypeId} {v:Value} {xs:List Value} (h:w.ownsRow N e k v n xs) (hb:∀g,v.ownBlock=some g→w'.heap[g]?=w.heap[g]?):w'.ownsRow N e k v n xs:=by
 refine⟨h.1,?_⟩
 rcases h.2 with h0|⟨g,cap,cur,hv,h1,h2,h3⟩
 ·exact .inl h0
 ·exact .inr ⟨g,cap,cur,hv,h1,(hb g (by rw [hv];rfl)).trans h2,h3⟩
theorem qna {w:World} {N n:Nat} {e:TypeId} {A:Option Addr} {c:Nat} {xs:List Value} (h:w.ownsRow N e 1 (.slice A (n+1) c) (n+1) xs):w.ownsRow N e 1 (.slice A n c) n xs.dropLast:=by
 have hl:=h.1;refine⟨by rw [List.length_dropLast];omega,?_⟩
 rcases h.2 with ⟨hv,h0⟩|⟨g,cap,cur,hv,h1,h2,h3,h4,h5,h6⟩
 ·omega
 ·cases hv
  refine .inr ⟨g,c,cur,rfl,h1,h2,by omega,h4,h5,?_⟩
  rw [← h6,List.dropLast_eq_take,List.take_take,List.length_take,Array.length_toList]
  congr 1
  omega
abbrev encS (x:List UInt8):Value:=.string ⟨x.toArray⟩
def qat (w:World) (P:Nat→Prop) (A:Option Addr) (ls:List (List UInt8)):Prop:=∀k (h:k<ls.length),∃g o,A=some ⟨g,o,none⟩∧P g∧w.cell? ⟨g,o+k,none⟩=some (encS ls[k])
theorem qat.frame {w w':World} {P Q:Nat→Prop} {A:Option Addr} {ls:List (List UInt8)} (h:qat w P A ls) (hf:∀g,g<w.heap.size→P g→Q g∧w'.heap[g]?=w.heap[g]?):qat w' Q A ls:=fun k hk=>by
 obtain⟨g,o,e,hp,hc⟩:=h k hk;obtain⟨h1,h2⟩:=hf g (World.block_lt_of_cell? w _ hc) hp
 exact⟨g,o,e,h1,by simpa [World.cell?,h2] using hc⟩
def PS (w:World) (N:Nat) (g:Nat):Prop:=N≤g∧∃cs,w.heap[g]?=some (.cells cs 9 (0,0))
theorem qat.of_own {w:World} {N n c:Nat} {A:Option Addr} {ls:List (List UInt8)} (h:w.ownsRow N 9 1 (.slice A n c) n (ls.map encS)):qat w (PS w N) A ls:=fun k hk=>by
 have hn:ls.length=n:=by have:=h.1;simpa using this
 rcases h.2 with ⟨h0,h1⟩|⟨g,cap,cur,hv,hN,hcur,_⟩
 ·omega
 ·cases hv
  exact⟨g,0,rfl,⟨hN,_,hcur⟩,by
   have:=h.cells (g:=g) rfl k (encS ls[k]) (by simp [hk])
   by_cases h0:k=0
   ·subst h0;simpa [Addr.add] using this
   ·simpa [Addr.add,h0] using this⟩
theorem qgG (g o j:Nat):(⟨g,o,none⟩:Addr).add j=⟨g,o+j,none⟩:=by
 unfold Addr.add;by_cases h:j=0
 ·rw [if_pos h,h];rfl
 ·rw [if_neg h]
theorem qat.below {w w':World} {P:Nat→Prop} {A:Option Addr} {ls:List (List UInt8)} (h:qat w P A ls) (hb:Below w.heap.size w w'):qat w' P A ls:=h.frame fun g hg hp=>⟨hp,hb.block g hg⟩
theorem qat.any {w:World} {P:Nat→Prop} {A:Option Addr} {ls:List (List UInt8)} (h:qat w P A ls):qat w (fun _=>True) A ls:=h.frame fun _ _ _=>⟨trivial,rfl⟩
theorem qat.same {w w':World} {P:Nat→Prop} {A:Option Addr} {ls:List (List UInt8)} (h:qat w P A ls) (e:w'.heap=w.heap):qat w' P A ls:=h.frame fun _ _ hp=>⟨hp,by rw [e]⟩
end Go.Proofs.YtpodopnmkjinhaaGreatDoor
namespace Go.Proofs.YtpodopnmkjinhaaGreatDoor.Cal
open Go.Lib (hid)
open Go.RowKit
structure VI where
 v:V
 A:Option Addr
 c:Nat
def qzn:VI:=⟨noV,none,0⟩
abbrev qjN:=List UInt8→VI
def qfx (env:qjN):Env:=fun nm=>(env nm).v
abbrev qpr (x:VI):Value:=.agg #[.string ⟨x.v.nm.toArray⟩,.string ⟨x.v.tx.toArray⟩,.bool x.v.ar,.slice x.A x.v.ls.length x.c]
def cellC (x:VI):Value:=.agg #[.string ⟨x.v.nm.toArray⟩,.string ⟨x.v.tx.toArray⟩,.bool x.v.ar,.slice x.A x.v.ls.length x.c,.bool false,.int .i64 0]
def qq7 (n:Int):Value:=.agg #[.string ⟨#[]⟩,.string ⟨#[]⟩,.bool false,.slice none 0 0,.bool true,.int .i64 n]
def cellOf (env:qjN) (s:Asg) (nm:List UInt8):Value:=match s.lookup nm with|some n=>qq7 n|none=>cellC (env nm)
abbrev qkM:Value:=.agg #[.string ⟨#[]⟩,.string ⟨#[]⟩,.bool false,.slice none 0 0,.bool false,.int .i64 0]
theorem qf7 (w:World):(zeroValue 288).run prog w=.ok qkM w:=by kernel_rfl
theorem qry (x y:ByteArray) (b1:Bool) (A:Option Addr) (n c:Nat) (b:Bool) (k:Int) (w:World):(Instr.field 288 (.agg #[.string x,.string y,.bool b1,.slice A n c,.bool b,.int .i64 k]) 2).run prog w=.ok (.int .i64 k) w:=by kernel_rfl
def qzk:Obj→Bool
 |.cells _ t _=>t !=9&&t !=285
 |_=>false
structure KeptW (N:Nat) (w w':World):Prop where
 below:Below N w w'
 fine:∀(k:Nat) (o:Obj),w.heap[k]?=some o→qzk o=true→w'.heap[k]?=some o
theorem KeptW.trans {N:Nat} {a b c:World} (h:KeptW N a b) (k:KeptW N b c):KeptW N a c:=⟨h.below.trans k.below,fun i o hi hf=>k.fine i o (h.fine i o hi hf) hf⟩
theorem KeptW.of_below {N:Nat} {w w':World} (h:Below w.heap.size w w') (hN:N≤w.heap.size):KeptW N w w':=⟨h.mono hN,fun k _ hk _=>(h.block k (lt_of_block hk)).trans hk⟩
theorem KeptW.drew {N:Nat} {a w:World} (h:KeptW N a w):KeptW N a w.drew:=⟨h.below.drew,h.fine⟩
def qzz (w:World) (N B:Nat) (D:List (List UInt8)) (env:qjN) (s:Asg) (m cnt:Nat) (v:Value) (f:List UInt8→Option Value):Prop:=
 N≤m∧w.heap[B]?=some (.cells #[.map (some m),v] 285 (0,0))∧qc8 w m cnt f∧w.ownsRow N 9 1 v s.length (s.map fun p=>.string ⟨p.1.toArray⟩)∧(∀nm∈D,f nm=some (cellOf env s nm))
structure WorkAt (w:World) (N B:Nat) (D:List (List UInt8)) (env:qjN) (s:Asg):Prop where
 ex:∃m cnt v f,qzz w N B D env s m cnt v f∧cnt≤4611686018427387904
 le:N≤B
 names:∀nm∈D,nm.length≤140737488355328
 texts:∀nm∈D,(env nm).v.tx.length≤140737488355328
 nodup:(s.map Prod.fst).Nodup
 sub:∀p∈s,p.1∈D
 few:D.length*16≤140737488355328
theorem WorkAt.lt {w:World} {N B:Nat} {D:List (List UInt8)} {env:qjN} {s:Asg} (h:WorkAt w N B D env s):B<w.heap.size:=by
 obtain⟨m,cnt,v,f,⟨_,hb,_⟩,_⟩:=h.ex;exact lt_of_block hb
theorem qlK {α:Type} [BEq α] [LawfulBEq α]:∀{l m:List α},l.Nodup→(∀x∈l,x∈m)→l.length≤m.length
 |[],_,_,_=>Nat.zero_le _
 |a::l,m,hn,hs=>by
  rw [List.nodup_cons] at hn;have ha:a∈m:=hs a (by simp)
  have:=qlK (l:=l) (m:=m.erase a) hn.2 fun x hx=>by
   have hne:x≠a:=fun e=>hn.1 (e▸hx)
   exact(List.mem_erase_of_ne hne).2 (hs x (by simp [hx]))
  rw [List.length_erase_of_mem ha] at this;have h1:0<m.length:=List.length_pos_of_mem ha
  rw [List.length_cons];omega
theorem WorkAt.short {w:World} {N B:Nat} {D:List (List UInt8)} {env:qjN} {s:Asg} (h:WorkAt w N B D env s):s.length≤D.length:=by
 have:=qlK h.nodup (m:=D) fun x hx=>by
  obtain⟨p,hp,rfl⟩:=List.mem_map.1 hx;exact h.sub p hp
 simpa using this
theorem WorkAt.below {w w':World} {N B:Nat} {D:List (List UInt8)} {env:qjN} {s:Asg} (h:WorkAt w N B D env s) (hb:Below w.heap.size w w'):WorkAt w' N B D env s:=by
 obtain⟨m,cnt,v,f,⟨h1,h2,h3,h4,h5⟩,hc⟩:=h.ex;exact { h with ex:=⟨m,cnt,v,f,⟨h1,qac h2 hb,h3.block (hb.block _ h3.lt),own_below h4 hb,h5⟩,hc⟩ }
theorem WorkAt.drew {w:World} {N B:Nat} {D:List (List UInt8)} {env:qjN} {s:Asg} (h:WorkAt w N B D env s):WorkAt w.drew N B D env s:=h.below ((Below.refl _ _).drew)
theorem qsQ {env:qjN} {s:Asg} {nm:List UInt8}:(∃n,s.lookup nm=some n∧cellOf env s nm=qq7 n∧qem (qfx env) s nm=.ok n)∨(cellOf env s nm=cellC (env nm)∧qem (qfx env) s nm=qfn (env nm).v∧s.lookup nm=none):=by
 unfold cellOf qem;cases h:s.lookup nm with
 |some n=>exact .inl ⟨n,rfl,rfl,rfl⟩
 |none=>exact .inr ⟨rfl,rfl,rfl⟩
theorem qmu (nm:List UInt8) (N B:Nat) (D:List (List UInt8)) (env:qjN) (s:Asg) (w:World) (h:WorkAt w N B D env s) (hm:nm∈D):
  Calls prog 295 #[.pointer (some ⟨B,0,none⟩),.string ⟨nm.toArray⟩] w fun e w'=>qbv (qem (qfx env) s nm) e∧Below w.heap.size w w':=by
 obtain⟨m,cnt,v,f,⟨h1,h2,h3,h4,h5⟩,hc⟩:=h.ex;have hl:=h.names nm hm;have ht:=h.texts nm hm;have b0:w.cell? ⟨B,0,none⟩=some (.map (some m)):=by simp [World.cell?,h2]
 have hfm:=h5 nm hm;rcases qsQ (env:=env) (s:=s) (nm:=nm) with ⟨n,-,hcn,hre⟩|⟨hcc,hre,-⟩
 ·rw [hcn] at hfm
  have HR:=hid hre;have hal:Below w.heap.size w (w.alloc (.cells #[.string ⟨#[]⟩,.string ⟨#[]⟩,.bool false,.slice none 0 0,.bool true,.int .i64 n] 288)):=(Below.refl _ _).alloc (Nat.le_refl _) _
  clear h h2 h4 h5 hcn hre ht;go_enter func295,ntmps295;go_wp2_with (at_lookup;refine qbq rfl _ _ _ _ false rfl underlying283 qkM (qf7 _) m cnt f rfl h3 nm rfl (by unfold maxLen;omega) ?_;rw [hfm];unfold qq7;simp only [Option.getD_some,Bool.false_eq_true,if_false])
  go_ret;exact⟨by rw [HR.out];rfl,hal⟩
 ·rw [hcc] at hfm
  have HR:=hid hre;generalize env nm=x at *;have hal:Below w.heap.size w (w.alloc (.cells #[.string ⟨x.v.nm.toArray⟩,.string ⟨x.v.tx.toArray⟩,.bool x.v.ar,.slice x.A x.v.ls.length x.c,.bool false,.int .i64 0] 288)):=(Below.refl _ _).alloc (Nat.le_refl _) _
  have cT:=fun W=>qkA x.v (.slice x.A x.v.ls.length x.c) W ht
  clear h h2 h4 h5 hcc hre;go_enter func295,ntmps295;go_wp2_with (at_lookup;refine qbq rfl _ _ _ _ false rfl underlying283 qkM (qf7 _) m cnt f rfl h3 nm rfl (by unfold maxLen;omega) ?_;rw [hfm];unfold cellC;simp only [Option.getD_some,Bool.false_eq_true,if_false])
  cases hq:qfn x.v with
  |error er=>
   have HQ:=hid hq;refine(cT _).mono ?_;rintro e w1⟨h6,hb1⟩;rw [hq] at h6;obtain rfl:e=.panicked [qeb er]:=h6
   clear hq;go_wp2_with fail;exact⟨rfl,by rw [HR.out,HQ.out];rfl,qT hal hb1⟩
  |ok n=>
   have HQ:=hid hq;refine(cT _).mono ?_;rintro e w1⟨h6,hb1⟩;rw [hq] at h6;obtain rfl:e=.returned (.int .i64 n):=h6
   clear hq;go_wp2_with fail;go_ret;exact⟨by rw [HR.out,HQ.out];rfl,qT hal hb1⟩
structure SizeV (v:V):Prop where
 nm:v.nm.length≤140737488355328
 tx:v.tx.length≤140737488355328
 ls:v.ls.length*16≤140737488355328
 each:∀l∈v.ls,l.length≤140737488355328
def qdh (w:World) (P:Nat→Prop) (x:VI):Prop:=qat w P x.A x.v.ls∧SizeV x.v
theorem qdh.frame {w w':World} {P Q:Nat→Prop} {x:VI} (h:qdh w P x) (hf:∀g,g<w.heap.size→P g→Q g∧w'.heap[g]?=w.heap[g]?):qdh w' Q x:=⟨h.1.frame hf,h.2⟩
theorem qdh.below {w w':World} {P:Nat→Prop} {x:VI} (h:qdh w P x) (hb:Below w.heap.size w w'):qdh w' P x:=h.frame fun g hg hp=>⟨hp,hb.block g hg⟩
def qbN (w:World) (P:Nat→Prop) (A:Option Addr) (l:List VI):Prop:=
 (∀k (h:k<l.length),∃g o,A=some ⟨g,o,none⟩∧P g∧w.cell? ⟨g,o+k*4,none⟩=some (encS l[k].v.nm)∧w.cell? ⟨g,o+k*4+1,none⟩=some (encS l[k].v.tx)∧w.cell? ⟨g,o+k*4+2,none⟩=some (.bool l[k].v.ar)∧w.cell? ⟨g,o+k*4+3,none⟩=some (.slice l[k].A l[k].v.ls.length l[k].c))∧∀x∈l,qdh w P x
theorem qbN.frame {w w':World} {P Q:Nat→Prop} {A:Option Addr} {l:List VI} (h:qbN w P A l) (hf:∀g,g<w.heap.size→P g→Q g∧w'.heap[g]?=w.heap[g]?):qbN w' Q A l:=by
 refine⟨fun k hk=>?_,fun x hx=>(h.2 x hx).frame hf⟩
 obtain⟨g,o,e,hp,c0,c1,c2,c3⟩:=h.1 k hk;obtain⟨h1,h2⟩:=hf g (World.block_lt_of_cell? w _ c0) hp
 exact⟨g,o,e,h1,by simpa [World.cell?,h2] using c0,by simpa [World.cell?,h2] using c1,by simpa [World.cell?,h2] using c2,by simpa [World.cell?,h2] using c3⟩
theorem qbN.below {w w':World} {P:Nat→Prop} {A:Option Addr} {l:List VI} (h:qbN w P A l) (hb:Below w.heap.size w w'):qbN w' P A l:=h.frame fun g hg hp=>⟨hp,hb.block g hg⟩
theorem qbN.any {w:World} {P:Nat→Prop} {A:Option Addr} {l:List VI} (h:qbN w P A l):qbN w (fun _=>True) A l:=h.frame fun _ _ _=>⟨trivial,rfl⟩
theorem qaF.set {w:World} {N:Nat} {x y z k:Value} (h:qaF w N x y z k) (x' y' z' k':Value):qaF ((((w.setCell ⟨N,0,none⟩ x').setCell ⟨N,1,none⟩ y').setCell ⟨N,2,none⟩ z').setCell ⟨N,3,none⟩ k') N x' y' z' k':=by
 simpa [qaF] using heap_set (k:=3) (heap_set (k:=2) (heap_set (k:=1) (heap_set (k:=0) h x') y') z') k'
theorem qaF.set3 {w:World} {N:Nat} {x y z k:Value} (h:qaF w N x y z k) (k':Value):qaF (w.setCell ⟨N,3,none⟩ k') N x y z k':=by
 simpa [qaF] using heap_set (k:=3) h k'
theorem qv4:(prog.info? 210).map (·.size)=some 4:=by kernel_rfl
theorem qnp {fn:Func} {p:Tmp} (h:fn.results=#[.cell p 210]) {R:Ending→World→Prop} {a:Act} {w:World} {g:Nat} {x y z k:Value} (hp:a.tmps.getD p undef=.pointer (some ⟨g,0,none⟩))
  (hh:qaF w g x y z k) (hd:a.defers=[]) (hR:R (.returned (.agg #[x,y,z,k])) w):bodyPost prog fn R .ret a w:=
 bodyPost_ret (results_cell_row h _ _ g 210 #[x,y,z,k] (0,0) _ hp hh underlying210 rfl qv4) hd hR
def PC (o:Option Nat) (w:World):Prop:=match o with|none=>True|some n=>qaF w n (.string ⟨#[]⟩) (.string ⟨#[]⟩) (.bool false) (.slice none 0 0)
def PQ (o:Option Nat) (w:World):Prop:=match o with
 |none=>True
 |some n=>w.cell? ⟨n,0,none⟩=some (.string ⟨#[]⟩)∧w.cell? ⟨n,1,none⟩=some (.string ⟨#[]⟩)∧w.cell? ⟨n,2,none⟩=some (.bool false)∧w.cell? ⟨n,3,none⟩=some (.slice none 0 0)∧w.frozen? ⟨n,0,none⟩=false∧w.frozen? ⟨n,1,none⟩=false∧w.frozen? ⟨n,2,none⟩=false∧w.frozen? ⟨n,3,none⟩=false
theorem PC.below {o:Option Nat} {w w':World} (h:PC o w) (hb:Below w.heap.size w w'):PC o w':=by
 cases o with
 |none=>trivial
 |some n=>exact qaF.below h hb
theorem PC.q {o:Option Nat} {w:World} (h:PC o w):PQ o w:=by
 cases o with
 |none=>trivial
 |some n=>exact⟨qaF.a0 h,qaF.a1 h,qaF.a2 h,qaF.a3 h,qaF.free h 0,qaF.free h 1,qaF.free h 2,qaF.free h 3⟩
theorem qcJ (x:VI) (w:World) (h:qdh w (fun _=>True) x):
  Calls prog 267 #[qpr x] w fun e w'=>∃y:VI,e=.returned (qpr y)∧y.v=x.v∧qdh w' (PS w' w.heap.size) y∧Below w.heap.size w w':=by
 obtain⟨⟨nm,tx,ar,ls⟩,A,c⟩:=x;obtain⟨hT,hS⟩:=h;have s1:=hS.nm;have s2:=hS.tx;have s3:=hS.ls;have s4:=hS.each
 dsimp only at s1 s2 s3 s4 hT
 have cN:=fun W=>qaU nm (by omega) W
 have cT:=fun W=>qaU tx (by omega) W
 have hal:Below w.heap.size w ((w.alloc (.cells #[encS nm,encS tx,.bool ar,.slice A ls.length c] 210)).alloc (.cells #[encS [],encS [],.bool false,.slice none 0 0] 210)):=((Below.refl _ _).alloc (Nat.le_refl _) _).alloc (by simp) _
 have hX0:qaF (w.alloc (.cells #[encS nm,encS tx,.bool ar,.slice A ls.length c] 210)) w.heap.size (encS nm) (encS tx) (.bool ar) (.slice A ls.length c):=heap_alloc_new _ _
 have hX:=hX0.below ((Below.refl _ _).alloc (Nat.le_refl _) (.cells #[encS [],encS [],.bool false,.slice none 0 0] 210))
 have hR:qaF ((w.alloc (.cells #[encS nm,encS tx,.bool ar,.slice A ls.length c] 210)).alloc (.cells #[encS [],encS [],.bool false,.slice none 0 0] 210)) (w.heap.size+1) (encS []) (encS []) (.bool false) (.slice none 0 0):=by
  have:=heap_alloc_new (w.alloc (.cells #[encS nm,encS tx,.bool ar,.slice A ls.length c] 210)) (.cells #[encS [],encS [],.bool false,.slice none 0 0] 210)
  unfold qaF
  simpa using this
 clear hX0;have hs0:((w.alloc (.cells #[encS nm,encS tx,.bool ar,.slice A ls.length c] 210)).alloc (.cells #[encS [],encS [],.bool false,.slice none 0 0] 210)).heap.size=w.heap.size+2:=by simp
 obtain⟨w0,hw0⟩:=qQ ((w.alloc (.cells #[encS nm,encS tx,.bool ar,.slice A ls.length c] 210)).alloc (.cells #[encS [],encS [],.bool false,.slice none 0 0] 210))
 have HW0:=hid hw0;rw [hw0] at hal hX hR hs0;have HS0:=hid hs0;have HSV:=hid hS;obtain⟨i0,hi,hz0,hz1,hz2⟩:=info_parts qhc;clear hw0 hs0;have bt0:∀w1,Below w0.drew.heap.size w0.drew w1→Below w0.heap.size w0 w1:=fun w1 h=>(Below.refl _ w0).drew.trans h
 have hza:Below w0.heap.size w0 (w0.alloc (.cells #[.string ⟨#[]⟩,.string ⟨#[]⟩,.bool false,.slice none 0 0] 210)):=(Below.refl _ _).alloc (Nat.le_refl _) _
 have bta:∀w1,Below (w0.alloc (.cells #[.string ⟨#[]⟩,.string ⟨#[]⟩,.bool false,.slice none 0 0] 210)).drew.heap.size (w0.alloc (.cells #[.string ⟨#[]⟩,.string ⟨#[]⟩,.bool false,.slice none 0 0] 210)).drew w1→Below w0.heap.size w0 w1∧PC (some w0.heap.size) w1:=fun w1 h=>
  ⟨hza.drew.trans (h.mono hza.size),(h.block _ (by show _<(w0.alloc _).heap.size;simp)).trans (heap_alloc_new w0 _)⟩
 have a0:=hX.a0;have a1:=hX.a1;have a2:=hX.a2
 go_enter func267,ntmps267;go_wp2_with fail;simp only [encS] at HW0 hX hR a0 a1 a2
 rw [HW0.out];have btz:∀w1 w2:World,Below (w1.alloc (.cells #[.string ⟨#[]⟩,.string ⟨#[]⟩,.bool false,.slice none 0 0] 210)).heap.size (w1.alloc (.cells #[.string ⟨#[]⟩,.string ⟨#[]⟩,.bool false,.slice none 0 0] 210)) w2→Below w1.heap.size w1 w2∧PC (some w1.heap.size) w2:=fun w1 w2 h=>
  ⟨((Below.refl _ w1).alloc (Nat.le_refl _) _).trans (h.mono (by simp)),(h.block _ (by simp)).trans (heap_alloc_new w1 _)⟩
 have pc0:∀w1,PC none w1:=fun _=>trivial
 have hn0:=Nat.ne_of_gt hX.lt;go_region_held3 (fun w'=>w'.cell? ⟨w.heap.size,0,none⟩=some (.string ⟨nm.toArray⟩)∧w'.cell? ⟨w.heap.size,1,none⟩=some (.string ⟨tx.toArray⟩)∧w'.cell? ⟨w.heap.size,2,none⟩=some (.bool ar)) (go_keep) (first
  |(go_at_call 26;(with_reducible refine(cN w0.drew).mono ?_);rintro e w1 ⟨rfl,hb1⟩;have hB1:=bt0 _ hb1;have hC1:=pc0 w1;have hX1:=hX.below hB1;have hn1:=Nat.ne_of_gt hX1.lt;have e0:=hX1.a0;have e1:=hX1.a1;have e2:=hX1.a2)
  |(go_at_call 26;(with_reducible refine(cN (w0.alloc (.cells #[.string ⟨#[]⟩,.string ⟨#[]⟩,.bool false,.slice none 0 0] 210)).drew).mono ?_);rintro e w1 ⟨rfl,hb1⟩;obtain⟨hB1,hC1⟩:=bta _ hb1;have hX1:=hX.below hB1;have hn1:=Nat.ne_of_gt hX1.lt;have e0:=hX1.a0;have e1:=hX1.a1;have e2:=hX1.a2)
  |(go_at_call 26;(with_reducible refine(cT w1).mono ?_);rintro e w2 ⟨rfl,hB2⟩;have hC2:=hC1.below hB2;have hB3:=qT hB1 hB2;have hX2:=hX.below hB3;have hn2:=Nat.ne_of_gt hX2.lt;have hQ2:=hC2.q;dsimp only [PQ] at hQ2;have e0:=hX2.a0;have e1:=hX2.a1;have e2:=hX2.a2)
  |(go_at_call 26;(with_reducible refine(cT (w1.alloc (.cells #[.string ⟨#[]⟩,.string ⟨#[]⟩,.bool false,.slice none 0 0] 210))).mono ?_);rintro e w2 ⟨rfl,hb2⟩;obtain⟨hB2,hC2⟩:=btz _ _ hb2;have hB3:=qT hB1 hB2;have hX2:=hX.below hB3;have hn2:=Nat.ne_of_gt hX2.lt;have hQ2:=hC2.q;dsimp only [PQ] at hQ2;have e0:=hX2.a0;have e1:=hX2.a1;have e2:=hX2.a2))
 ·obtain⟨C,hC⟩:=qQ (w2.heap.size)
  have hCv:qaF (w2.alloc (.cells #[.string ⟨nm.toArray⟩,.string ⟨tx.toArray⟩,.bool ar,.slice none 0 0] 210)) w2.heap.size (.string ⟨nm.toArray⟩) (.string ⟨tx.toArray⟩) (.bool ar) (.slice none 0 0):=heap_alloc_new _ _
  have hB5:Below w0.heap.size w0 (w2.alloc (.cells #[.string ⟨nm.toArray⟩,.string ⟨tx.toArray⟩,.bool ar,.slice none 0 0] 210)):=hB3.alloc hB3.size _
  have hCN:w0.heap.size≤w2.heap.size:=hB3.size
  rw [hC] at hCv hCN ⊢;generalize w2.alloc (.cells #[.string ⟨nm.toArray⟩,.string ⟨tx.toArray⟩,.bool ar,.slice none 0 0] 210)=w5 at *;clear hC hB3 hB2 hB1 hC1 hC2 hX1 hX2 e0 e1 e2 hQ2 hn1 hn2 cN cT btz bta bt0 hza pc0 hn0;have hX5:=hX.below hB5;have z3:=hX5.a3;clear a0 a1 a2;go_wp2_with fail;clear z3 hX5;go_loopw [18] (fun i wr=>∃(k:Nat) (v:Value),k≤ls.length∧i=.int .i64 k∧Below w0.heap.size w0 wr∧qaF wr C (.string ⟨nm.toArray⟩) (.string ⟨tx.toArray⟩) (.bool ar) v∧wr.ownsRow w0.heap.size 9 1 v k ((ls.map encS).take k)) (fun i _=>ls.length-(intOf i).toNat)
  case atStart=>exact⟨0,_,Nat.zero_le _,rfl,hB5,hCv,World.ownsRow_nil _ _ _ _⟩
  case round=>
   obtain⟨k,v,hk,rfl,hBr,hCr,hor⟩:=hrel;have c3:=hCr.a3;by_cases hlt:k<ls.length
   ·obtain⟨g,o,rfl,-,hcx⟩:=hT k hlt
    have hcx:=cell_below hBr (cell_below hal hcx)
    have cC:=fun W=>qaU ls[k] (by have:=s4 _ (List.getElem_mem hlt);omega) W
    have HT:Hid ((ls.map encS).take k++[encS ls[k]]=(ls.map encS).take (k+1)):=hid (by rw [List.take_succ_eq_append_getElem (by simpa using hlt),List.getElem_map])
    have hCl:=hCr.lt;have hne:v.ownBlock≠some C:=fun he=>by
     rcases hor.2 with ⟨rfl,_⟩|⟨g',cap,cur,rfl,_,hh,_⟩
     ·simp [Value.ownBlock] at he
     ·obtain rfl:g'=C:=by simpa [Value.ownBlock] using he
      have hh2:wr.heap[g']?=_:=hCr
      rw [hh2] at hh;cases hh
    generalize ls[k]=lk at *;clear hT s4 hB5 hCv hR hX hS HW0;go_wp2_with fail;go_region_law (first
     |(go_simp;go_at_call 26;refine(cC _).mono ?_;rintro e w6 ⟨rfl,hb6⟩;have hown6:=own_below (w:=wr.drew) hor hb6;have hC6:qaF w6 C _ _ _ _:=(hb6.block C hCl).trans hCr;have hl6:=hC6.lt;have c6:=hC6.a3)
     |(refine step_append_lies _ (by rfl) _ _ _ (by rfl) w0.heap.size 9 i0 (.string .empty) 1 16 underlying22 hi hz0 hz1 hz2 rfl (by omega) v k ((ls.map encS).take k) (by rfl) ((hown6.alloc _)) ⟨w6.heap.size,0,none⟩ 1 1 [encS lk] (by rfl) (by rfl) (World.news_of_block (cs:=#[encS lk]) (t:=9) (fr:=(0,0)) (heap_alloc_new w6 _)) (by simp [Value.oneCell']) (by omega) (by unfold maxLen;omega) (by omega) (by have h1:=hb6.size;have h2:=hBr.size;simp at h1;simp;omega) (w6.heap.size+1) (by simp) ?_;intro gg cap w7 hown7 hg hat hlt7;have hC7:qaF w7 C _ _ _ _:=(hg.block C (by simp;omega) (fun e=>hne e.symm)).trans ((Below.heap_alloc w6 _ C hl6).trans hC6);have c7:=hC7.a3;have f7:=hC7.free 3))
    all_goals
     have hB6:Below w0.heap.size w0 w6:=hBr.trans (((Below.refl _ wr).drew.trans hb6).mono hBr.size)
     have hB7:Below w0.heap.size w0 w7:=(hB6.alloc hB6.size _).grown hg (by have:=hB6.size;simp;omega) (fun j e=>(hown6.lt j e).1)
     have hB8:Below w0.heap.size w0 (w7.setCell ⟨C,3,none⟩ (.slice (some ⟨gg,0,none⟩) (k+1) cap)):=hB7.setCell (p:=⟨C,3,none⟩) hCN _
     have hgC:gg≠C:=fun e=>by
      subst e;rcases hown7.2 with ⟨hv,_⟩|⟨g',cap',cur,hv,_,hb,_⟩
      ·cases hv
      ·cases hv
       have hh2:w7.heap[gg]?=_:=hC7
       rw [hh2] at hb;cases hb
     have hown8:(w7.setCell ⟨C,3,none⟩ (.slice (some ⟨gg,0,none⟩) (k+1) cap)).ownsRow w0.heap.size 9 1 (.slice (some ⟨gg,0,none⟩) (k+1) cap) (k+1) ((ls.map encS).take (k+1)):=by
      rw [← HT.out];exact qeI hown7 fun g hgv=>by
       obtain rfl:gg=g:=by simpa [Value.ownBlock] using hgv
       exact Below.heap_setCell _ _ _ _ hgC
     have HF:=hid (And.intro hB8 (And.intro (hC7.set3 (.slice (some ⟨gg,0,none⟩) (k+1) cap)) hown8))
     clear hown8 hgC hB8 hB7 hB6 hown7 hg hown6 hC6 hC7 c6 c7 f7 hat hor hCr c3 hBr;go_wp2_with fail;go_roundw
     case rel=>exact⟨k+1,_,by omega,by go_num,HF.out.1,HF.out.2.1,HF.out.2.2⟩
     case measure=>simp [intOf];omega
   ·obtain rfl:k=ls.length:=by omega
    rw [List.take_of_length_le (by simp)] at hor;obtain⟨ao,n',cap,rfl⟩:=qcp hor;have hn':n'=ls.length:=by
     rcases hor.2 with ⟨hv,h0⟩|⟨g',cap',cur,hv,_⟩
     ·cases hv;omega
     ·cases hv;rfl
    subst hn';have hTx:=qat.of_own hor;have hRr:=hR.below hBr;have d0:=hCr.a0;have d1:=hCr.a1;have d2:=hCr.a2
    have r0:=hRr.a0;have r1:=hRr.a1;have r2:=hRr.a2;have r3:=hRr.a3
    have f0:=hRr.free 0;have f1:=hRr.free 1;have f2:=hRr.free 2;have f3:=hRr.free 3
    have HB:=hid (And.intro hBr (And.intro hTx (And.intro hRr HS0.out)))
    clear hT s4 hB5 hCv hR hX hS HW0 hor hTx hCr hBr hRr;go_wp2_with fail;refine qnp rfl rfl (qaF.set HB.out.2.2.1 _ _ _ _) rfl ⟨⟨⟨nm,tx,ar,ls⟩,ao,cap⟩,rfl,rfl,⟨?_,HSV.out⟩,?_⟩
    ·exact qat.frame HB.out.2.1 fun g _ hp=>by
      have h2:=qhY (w:=wr) (N:=w.heap.size+1) (.string ⟨nm.toArray⟩) (.string ⟨tx.toArray⟩) (.bool ar) (.slice ao ls.length cap) (i:=g) (by have:=HB.out.2.2.2;have:=hp.1;omega)
      exact⟨⟨by have:=HB.out.2.2.2;have:=hp.1;omega,by obtain⟨cs,hcs⟩:=hp.2;exact⟨cs,h2.trans hcs⟩⟩,h2⟩
    ·exact qdq (hal.trans (HB.out.1.mono hal.size)) (by omega) _ _ _ _
 ·obtain⟨C,hC⟩:=qQ (w1.heap.size)
  have hCN:w0.heap.size≤w1.heap.size:=hB1.size
  have hCv:=qaF.set (show qaF w2 w1.heap.size _ _ _ _ from hC2) (.string ⟨nm.toArray⟩) (.string ⟨tx.toArray⟩) (.bool ar) (.slice none 0 0)
  have hB5:=qdq hB3 hCN (.string ⟨nm.toArray⟩) (.string ⟨tx.toArray⟩) (.bool ar) (.slice none 0 0)
  rw [hC] at hCv hCN hB5 ⊢;generalize (((w2.setCell ⟨C,0,none⟩ (.string ⟨nm.toArray⟩)).setCell ⟨C,1,none⟩ (.string ⟨tx.toArray⟩)).setCell ⟨C,2,none⟩ (.bool ar)).setCell ⟨C,3,none⟩ (.slice none 0 0)=w5 at *;clear hC hB3 hB2 hB1 hC1 hC2 hX1 hX2 e0 e1 e2 hQ2 hn1 hn2 cN cT btz bta bt0 hza pc0 hn0;have hX5:=hX.below hB5;have z3:=hX5.a3;clear a0 a1 a2;go_wp2_with fail;clear z3 hX5;go_loopw [18] (fun i wr=>∃(k:Nat) (v:Value),k≤ls.length∧i=.int .i64 k∧Below w0.heap.size w0 wr∧qaF wr C (.string ⟨nm.toArray⟩) (.string ⟨tx.toArray⟩) (.bool ar) v∧wr.ownsRow w0.heap.size 9 1 v k ((ls.map encS).take k)) (fun i _=>ls.length-(intOf i).toNat)
  case atStart=>exact⟨0,_,Nat.zero_le _,rfl,hB5,hCv,World.ownsRow_nil _ _ _ _⟩
  case round=>
   obtain⟨k,v,hk,rfl,hBr,hCr,hor⟩:=hrel;have c3:=hCr.a3;by_cases hlt:k<ls.length
   ·obtain⟨g,o,rfl,-,hcx⟩:=hT k hlt
    have hcx:=cell_below hBr (cell_below hal hcx)
    have cC:=fun W=>qaU ls[k] (by have:=s4 _ (List.getElem_mem hlt);omega) W
    have HT:Hid ((ls.map encS).take k++[encS ls[k]]=(ls.map encS).take (k+1)):=hid (by rw [List.take_succ_eq_append_getElem (by simpa using hlt),List.getElem_map])
    have hCl:=hCr.lt;have hne:v.ownBlock≠some C:=fun he=>by
     rcases hor.2 with ⟨rfl,_⟩|⟨g',cap,cur,rfl,_,hh,_⟩
     ·simp [Value.ownBlock] at he
     ·obtain rfl:g'=C:=by simpa [Value.ownBlock] using he
      have hh2:wr.heap[g']?=_:=hCr
      rw [hh2] at hh;cases hh
    generalize ls[k]=lk at *;clear hT s4 hB5 hCv hR hX hS HW0;go_wp2_with fail;go_region_law (first
     |(go_simp;go_at_call 26;refine(cC _).mono ?_;rintro e w6 ⟨rfl,hb6⟩;have hown6:=own_below (w:=wr.drew) hor hb6;have hC6:qaF w6 C _ _ _ _:=(hb6.block C hCl).trans hCr;have hl6:=hC6.lt;have c6:=hC6.a3)
     |(refine step_append_lies _ (by rfl) _ _ _ (by rfl) w0.heap.size 9 i0 (.string .empty) 1 16 underlying22 hi hz0 hz1 hz2 rfl (by omega) v k ((ls.map encS).take k) (by rfl) ((hown6.alloc _)) ⟨w6.heap.size,0,none⟩ 1 1 [encS lk] (by rfl) (by rfl) (World.news_of_block (cs:=#[encS lk]) (t:=9) (fr:=(0,0)) (heap_alloc_new w6 _)) (by simp [Value.oneCell']) (by omega) (by unfold maxLen;omega) (by omega) (by have h1:=hb6.size;have h2:=hBr.size;simp at h1;simp;omega) (w6.heap.size+1) (by simp) ?_;intro gg cap w7 hown7 hg hat hlt7;have hC7:qaF w7 C _ _ _ _:=(hg.block C (by simp;omega) (fun e=>hne e.symm)).trans ((Below.heap_alloc w6 _ C hl6).trans hC6);have c7:=hC7.a3;have f7:=hC7.free 3))
    all_goals
     have hB6:Below w0.heap.size w0 w6:=hBr.trans (((Below.refl _ wr).drew.trans hb6).mono hBr.size)
     have hB7:Below w0.heap.size w0 w7:=(hB6.alloc hB6.size _).grown hg (by have:=hB6.size;simp;omega) (fun j e=>(hown6.lt j e).1)
     have hB8:Below w0.heap.size w0 (w7.setCell ⟨C,3,none⟩ (.slice (some ⟨gg,0,none⟩) (k+1) cap)):=hB7.setCell (p:=⟨C,3,none⟩) hCN _
     have hgC:gg≠C:=fun e=>by
      subst e;rcases hown7.2 with ⟨hv,_⟩|⟨g',cap',cur,hv,_,hb,_⟩
      ·cases hv
      ·cases hv
       have hh2:w7.heap[gg]?=_:=hC7
       rw [hh2] at hb;cases hb
     have hown8:(w7.setCell ⟨C,3,none⟩ (.slice (some ⟨gg,0,none⟩) (k+1) cap)).ownsRow w0.heap.size 9 1 (.slice (some ⟨gg,0,none⟩) (k+1) cap) (k+1) ((ls.map encS).take (k+1)):=by
      rw [← HT.out];exact qeI hown7 fun g hgv=>by
       obtain rfl:gg=g:=by simpa [Value.ownBlock] using hgv
       exact Below.heap_setCell _ _ _ _ hgC
     have HF:=hid (And.intro hB8 (And.intro (hC7.set3 (.slice (some ⟨gg,0,none⟩) (k+1) cap)) hown8))
     clear hown8 hgC hB8 hB7 hB6 hown7 hg hown6 hC6 hC7 c6 c7 f7 hat hor hCr c3 hBr;go_wp2_with fail;go_roundw
     case rel=>exact⟨k+1,_,by omega,by go_num,HF.out.1,HF.out.2.1,HF.out.2.2⟩
     case measure=>simp [intOf];omega
   ·obtain rfl:k=ls.length:=by omega
    rw [List.take_of_length_le (by simp)] at hor;obtain⟨ao,n',cap,rfl⟩:=qcp hor;have hn':n'=ls.length:=by
     rcases hor.2 with ⟨hv,h0⟩|⟨g',cap',cur,hv,_⟩
     ·cases hv;omega
     ·cases hv;rfl
    subst hn';have hTx:=qat.of_own hor;have hRr:=hR.below hBr;have d0:=hCr.a0;have d1:=hCr.a1;have d2:=hCr.a2
    have r0:=hRr.a0;have r1:=hRr.a1;have r2:=hRr.a2;have r3:=hRr.a3
    have f0:=hRr.free 0;have f1:=hRr.free 1;have f2:=hRr.free 2;have f3:=hRr.free 3
    have HB:=hid (And.intro hBr (And.intro hTx (And.intro hRr HS0.out)))
    clear hT s4 hB5 hCv hR hX hS HW0 hor hTx hCr hBr hRr;go_wp2_with fail;refine qnp rfl rfl (qaF.set HB.out.2.2.1 _ _ _ _) rfl ⟨⟨⟨nm,tx,ar,ls⟩,ao,cap⟩,rfl,rfl,⟨?_,HSV.out⟩,?_⟩
    ·exact qat.frame HB.out.2.1 fun g _ hp=>by
      have h2:=qhY (w:=wr) (N:=w.heap.size+1) (.string ⟨nm.toArray⟩) (.string ⟨tx.toArray⟩) (.bool ar) (.slice ao ls.length cap) (i:=g) (by have:=HB.out.2.2.2;have:=hp.1;omega)
      exact⟨⟨by have:=HB.out.2.2.2;have:=hp.1;omega,by obtain⟨cs,hcs⟩:=hp.2;exact⟨cs,h2.trans hcs⟩⟩,h2⟩
    ·exact qdq (hal.trans (HB.out.1.mono hal.size)) (by omega) _ _ _ _
 ·obtain⟨C,hC⟩:=qQ (w0.heap.size)
  have hCN:w0.heap.size≤w0.heap.size:=Nat.le_refl _
  have hCv:=qaF.set (show qaF w2 w0.heap.size _ _ _ _ from hC2) (.string ⟨nm.toArray⟩) (.string ⟨tx.toArray⟩) (.bool ar) (.slice none 0 0)
  have hB5:=qdq hB3 hCN (.string ⟨nm.toArray⟩) (.string ⟨tx.toArray⟩) (.bool ar) (.slice none 0 0)
  have hCN:w0.heap.size≤C:=by omega
  rw [hC] at hCv ⊢;rw [show(((w2.setCell ⟨w0.heap.size,0,none⟩ (.string ⟨nm.toArray⟩)).setCell ⟨w0.heap.size,1,none⟩ (.string ⟨tx.toArray⟩)).setCell ⟨w0.heap.size,2,none⟩ (.bool ar)).setCell ⟨w0.heap.size,3,none⟩ (.slice none 0 0)=(((w2.setCell ⟨C,0,none⟩ (.string ⟨nm.toArray⟩)).setCell ⟨C,1,none⟩ (.string ⟨tx.toArray⟩)).setCell ⟨C,2,none⟩ (.bool ar)).setCell ⟨C,3,none⟩ (.slice none 0 0) by rw [hC]] at hB5;generalize (((w2.setCell ⟨C,0,none⟩ (.string ⟨nm.toArray⟩)).setCell ⟨C,1,none⟩ (.string ⟨tx.toArray⟩)).setCell ⟨C,2,none⟩ (.bool ar)).setCell ⟨C,3,none⟩ (.slice none 0 0)=w5 at *;clear hC hB3 hB2 hB1 hC1 hC2 hX1 hX2 e0 e1 e2 hQ2 hn1 hn2 cN cT btz bta bt0 hza pc0 hn0;have hX5:=hX.below hB5;have z3:=hX5.a3;clear a0 a1 a2;go_wp2_with fail;clear z3 hX5;go_loopw [18] (fun i wr=>∃(k:Nat) (v:Value),k≤ls.length∧i=.int .i64 k∧Below w0.heap.size w0 wr∧qaF wr C (.string ⟨nm.toArray⟩) (.string ⟨tx.toArray⟩) (.bool ar) v∧wr.ownsRow w0.heap.size 9 1 v k ((ls.map encS).take k)) (fun i _=>ls.length-(intOf i).toNat)
  case atStart=>exact⟨0,_,Nat.zero_le _,rfl,hB5,hCv,World.ownsRow_nil _ _ _ _⟩
  case round=>
   obtain⟨k,v,hk,rfl,hBr,hCr,hor⟩:=hrel;have c3:=hCr.a3;by_cases hlt:k<ls.length
   ·obtain⟨g,o,rfl,-,hcx⟩:=hT k hlt
    have hcx:=cell_below hBr (cell_below hal hcx)
    have cC:=fun W=>qaU ls[k] (by have:=s4 _ (List.getElem_mem hlt);omega) W
    have HT:Hid ((ls.map encS).take k++[encS ls[k]]=(ls.map encS).take (k+1)):=hid (by rw [List.take_succ_eq_append_getElem (by simpa using hlt),List.getElem_map])
    have hCl:=hCr.lt;have hne:v.ownBlock≠some C:=fun he=>by
     rcases hor.2 with ⟨rfl,_⟩|⟨g',cap,cur,rfl,_,hh,_⟩
     ·simp [Value.ownBlock] at he
     ·obtain rfl:g'=C:=by simpa [Value.ownBlock] using he
      have hh2:wr.heap[g']?=_:=hCr
      rw [hh2] at hh;cases hh
    generalize ls[k]=lk at *;clear hT s4 hB5 hCv hR hX hS HW0;go_wp2_with fail;go_region_law (first
     |(go_simp;go_at_call 26;refine(cC _).mono ?_;rintro e w6 ⟨rfl,hb6⟩;have hown6:=own_below (w:=wr.drew) hor hb6;have hC6:qaF w6 C _ _ _ _:=(hb6.block C hCl).trans hCr;have hl6:=hC6.lt;have c6:=hC6.a3)
     |(refine step_append_lies _ (by rfl) _ _ _ (by rfl) w0.heap.size 9 i0 (.string .empty) 1 16 underlying22 hi hz0 hz1 hz2 rfl (by omega) v k ((ls.map encS).take k) (by rfl) ((hown6.alloc _)) ⟨w6.heap.size,0,none⟩ 1 1 [encS lk] (by rfl) (by rfl) (World.news_of_block (cs:=#[encS lk]) (t:=9) (fr:=(0,0)) (heap_alloc_new w6 _)) (by simp [Value.oneCell']) (by omega) (by unfold maxLen;omega) (by omega) (by have h1:=hb6.size;have h2:=hBr.size;simp at h1;simp;omega) (w6.heap.size+1) (by simp) ?_;intro gg cap w7 hown7 hg hat hlt7;have hC7:qaF w7 C _ _ _ _:=(hg.block C (by simp;omega) (fun e=>hne e.symm)).trans ((Below.heap_alloc w6 _ C hl6).trans hC6);have c7:=hC7.a3;have f7:=hC7.free 3))
    all_goals
     have hB6:Below w0.heap.size w0 w6:=hBr.trans (((Below.refl _ wr).drew.trans hb6).mono hBr.size)
     have hB7:Below w0.heap.size w0 w7:=(hB6.alloc hB6.size _).grown hg (by have:=hB6.size;simp;omega) (fun j e=>(hown6.lt j e).1)
     have hB8:Below w0.heap.size w0 (w7.setCell ⟨C,3,none⟩ (.slice (some ⟨gg,0,none⟩) (k+1) cap)):=hB7.setCell (p:=⟨C,3,none⟩) hCN _
     have hgC:gg≠C:=fun e=>by
      subst e;rcases hown7.2 with ⟨hv,_⟩|⟨g',cap',cur,hv,_,hb,_⟩
      ·cases hv
      ·cases hv
       have hh2:w7.heap[gg]?=_:=hC7
       rw [hh2] at hb;cases hb
     have hown8:(w7.setCell ⟨C,3,none⟩ (.slice (some ⟨gg,0,none⟩) (k+1) cap)).ownsRow w0.heap.size 9 1 (.slice (some ⟨gg,0,none⟩) (k+1) cap) (k+1) ((ls.map encS).take (k+1)):=by
      rw [← HT.out];exact qeI hown7 fun g hgv=>by
       obtain rfl:gg=g:=by simpa [Value.ownBlock] using hgv
       exact Below.heap_setCell _ _ _ _ hgC
     have HF:=hid (And.intro hB8 (And.intro (hC7.set3 (.slice (some ⟨gg,0,none⟩) (k+1) cap)) hown8))
     clear hown8 hgC hB8 hB7 hB6 hown7 hg hown6 hC6 hC7 c6 c7 f7 hat hor hCr c3 hBr;go_wp2_with fail;go_roundw
     case rel=>exact⟨k+1,_,by omega,by go_num,HF.out.1,HF.out.2.1,HF.out.2.2⟩
     case measure=>simp [intOf];omega
   ·obtain rfl:k=ls.length:=by omega
    rw [List.take_of_length_le (by simp)] at hor;obtain⟨ao,n',cap,rfl⟩:=qcp hor;have hn':n'=ls.length:=by
     rcases hor.2 with ⟨hv,h0⟩|⟨g',cap',cur,hv,_⟩
     ·cases hv;omega
     ·cases hv;rfl
    subst hn';have hTx:=qat.of_own hor;have hRr:=hR.below hBr;have d0:=hCr.a0;have d1:=hCr.a1;have d2:=hCr.a2
    have r0:=hRr.a0;have r1:=hRr.a1;have r2:=hRr.a2;have r3:=hRr.a3
    have f0:=hRr.free 0;have f1:=hRr.free 1;have f2:=hRr.free 2;have f3:=hRr.free 3
    have HB:=hid (And.intro hBr (And.intro hTx (And.intro hRr HS0.out)))
    clear hT s4 hB5 hCv hR hX hS HW0 hor hTx hCr hBr hRr;go_wp2_with fail;refine qnp rfl rfl (qaF.set HB.out.2.2.1 _ _ _ _) rfl ⟨⟨⟨nm,tx,ar,ls⟩,ao,cap⟩,rfl,rfl,⟨?_,HSV.out⟩,?_⟩
    ·exact qat.frame HB.out.2.1 fun g _ hp=>by
      have h2:=qhY (w:=wr) (N:=w.heap.size+1) (.string ⟨nm.toArray⟩) (.string ⟨tx.toArray⟩) (.bool ar) (.slice ao ls.length cap) (i:=g) (by have:=HB.out.2.2.2;have:=hp.1;omega)
      exact⟨⟨by have:=HB.out.2.2.2;have:=hp.1;omega,by obtain⟨cs,hcs⟩:=hp.2;exact⟨cs,h2.trans hcs⟩⟩,h2⟩
    ·exact qdq (hal.trans (HB.out.1.mono hal.size)) (by omega) _ _ _ _
def qzd (N B:Nat) (D:List (List UInt8)) (env:qjN) (w:World) (r:Except Int (Int×Asg)) (e:Ending) (w':World):Prop:=
 KeptW N w w'∧match r with
  |.ok q=>e=.returned (.int .i64 q.1)∧WorkAt w' N B D env q.2
  |.error er=>e=.panicked [qeb er]
theorem WorkAt.kept_below {w w':World} {N B:Nat} {D:List (List UInt8)} {env:qjN} {s:Asg} (h:WorkAt w N B D env s) (hb:Below w.heap.size w w'):KeptW N w w':=.of_below hb (by have:=h.lt;have:=h.le;omega)
def qe2 (op:List UInt8):Bool:=op==[112,114,101,43,43]||op==[112,114,101,45,45]||op==[112,111,115,116,43,43]||op==[112,111,115,116,45,45]
def qwq (n:Int):Bool:=n==1||n==2||(decide (4≤n)&&decide (n≤14))
def qlJ (bash:Bool):T→Bool
 |.leaf nm n=>if nm=[] then decide (0≤n) else(n==0&&qid nm)
 |.one op a=>known.contains op&&(levL op==15||levL op==16)&&(!qe2 op||(isVar a&&bash))&&(op !=[42,42])
 |.two op a _=>known.contains op&&qwq (levL op)&&!qe2 op&&(levL op !=2||isVar a)&&(op !=[42,42]||bash)
 |.three op _ _ _=>op==[63,58]
def fineT (bash:Bool):T→Bool
 |.leaf nm n=>qlJ bash (.leaf nm n)
 |.one op a=>qlJ bash (.one op a)&&fineT bash a
 |.two op a b=>qlJ bash (.two op a b)&&fineT bash a&&fineT bash b
 |.three op a b c=>qlJ bash (.three op a b c)&&fineT bash a&&fineT bash b&&fineT bash c
inductive G where
 |node (op nm:List UInt8) (n:Int) (kids:List G)
def gOp:G→List UInt8|.node op _ _ _=>op
def gNm:G→List UInt8|.node _ nm _ _=>nm
def gN:G→Int|.node _ _ n _=>n
def qan:G→List G|.node _ _ _ kids=>kids
def qaD (t:G):Nat:=(qan t).length
abbrev g0 (t:G):Value:=.string ⟨(gOp t).toArray⟩
abbrev g1 (t:G):Value:=.string ⟨(gNm t).toArray⟩
abbrev g2 (t:G):Value:=.int .i64 (gN t)
inductive GAt (W:World):Option Addr→Nat→G→Prop
 |mk {A:Option Addr} {c:Nat} {t:G} (av:Nat→Option Addr) (cv:Nat→Nat) (hlen:qaD t≤281474976710656∧(gNm t).length≤281474976710656∧(gOp t).length≤281474976710656∧-9223372036854775808≤gN t∧gN t≤9223372036854775807)
   (hc:∀k (h:k<(qan t).length),∃g o,A=some ⟨g,o,none⟩∧W.cell? ⟨g,o+k*4,none⟩=some (g0 (qan t)[k])∧W.cell? ⟨g,o+k*4+1,none⟩=some (g1 (qan t)[k])∧W.cell? ⟨g,o+k*4+2,none⟩=some (g2 (qan t)[k])∧W.cell? ⟨g,o+k*4+3,none⟩=some (.slice (av k) (qaD (qan t)[k]) (cv k)))
   (hk:∀k (h:k<(qan t).length),GAt W (av k) (cv k) (qan t)[k]):GAt W A c t
theorem GAt.len {W:World} {A:Option Addr} {c:Nat} {t:G} (h:GAt W A c t):qaD t≤281474976710656:=by cases h with|mk _ _ hl _ _=>exact hl.1
theorem GAt.nm {W:World} {A:Option Addr} {c:Nat} {t:G} (h:GAt W A c t):(gNm t).length≤281474976710656:=by cases h with|mk _ _ hl _ _=>exact hl.2.1
theorem GAt.kid {W:World} {A:Option Addr} {c:Nat} {t:G} (h:GAt W A c t) (k:Nat) (hk:k<(qan t).length):
  ∃g o A1 k1,A=some ⟨g,o,none⟩∧W.cell? ⟨g,o+k*4,none⟩=some (g0 (qan t)[k])∧W.cell? ⟨g,o+k*4+1,none⟩=some (g1 (qan t)[k])∧W.cell? ⟨g,o+k*4+2,none⟩=some (g2 (qan t)[k])∧W.cell? ⟨g,o+k*4+3,none⟩=some (.slice A1 (qaD (qan t)[k]) k1)∧GAt W A1 k1 (qan t)[k]:=by
 cases h with
 |mk av cv hlen hc hk'=>
  obtain⟨g,o,h1,h2⟩:=hc k hk;exact⟨g,o,av k,cv k,h1,h2.1,h2.2.1,h2.2.2.1,h2.2.2.2,hk' k hk⟩
theorem GAt.later {W W':World} {A:Option Addr} {c:Nat} {t:G} (h:GAt W A c t) (hb:Below W.heap.size W W'):GAt W' A c t:=by
 induction h with
 |mk av cv hlen hc _ ih=>
  refine .mk av cv hlen (fun k hk=>?_) ih
  obtain⟨g,o,h1,h2,h3,h4,h5⟩:=hc k hk;exact⟨g,o,h1,cell_below hb h2,cell_below hb h3,cell_below hb h4,cell_below hb h5⟩
theorem qhd (t:G) (k:Nat) (h:k<(qan t).length):SizeOf.sizeOf (qan t)[k]<SizeOf.sizeOf t:=by
 cases t with
 |node op nm n kids=>
  have h1:k<kids.length:=h
  have:=List.sizeOf_lt_of_mem (List.getElem_mem h1)
  show SizeOf.sizeOf kids[k]<SizeOf.sizeOf (G.node op nm n kids)
  simp
  omega
def gH:G→Nat
 |.node _ _ _ kids=>(kids.attach.map fun k=>gH k.1).foldl max 0+1
termination_by t=>SizeOf.sizeOf t
decreasing_by
 have:=List.sizeOf_lt_of_mem k.2
 simp
 omega
theorem qrP (t:G):gH t=((qan t).map gH).foldl max 0+1:=by
 cases t with
 |node op nm n kids=>
  rw [gH];simp [qan]
def qcn (most:Nat) (l:List G):Nat:=l.foldl (fun b t=>max b (min (most-1) (gH t))) 0
theorem qrO (most:Nat) (l:List G):qcn most l≤most-1:=by
 have:∀(l:List G) b,b≤most-1→l.foldl (fun b t=>max b (min (most-1) (gH t))) b≤most-1:=by
  intro l
  induction l with
  |nil=>exact fun b h=>h
  |cons t r ih=>exact fun b h=>ih _ (by show max b (min (most-1) (gH t))≤most-1;omega)
 exact this l 0 (Nat.zero_le _)
theorem qmS (most:Nat) (l:List G) (t:G):qcn most (l++[t])=max (qcn most l) (min (most-1) (gH t)):=by simp [qcn,List.foldl_append]
theorem qpF (most:Nat) (t:G) (h:1≤most):qcn most (qan t)+1=min most (gH t):=by
 have:∀(l:List G) a,l.foldl (fun b t=>max b (min (most-1) (gH t))) (min (most-1) a)=min (most-1) ((l.map gH).foldl max a):=by
  intro l
  induction l with
  |nil=>exact fun a=>rfl
  |cons t r ih=>
   intro a
   rw [List.foldl_cons,List.map_cons,List.foldl_cons,← ih]
   congr 1
   omega
 have h0:=this (qan t) 0
 rw [show min (most-1) 0=0 by omega] at h0;rw [qcn,h0,qrP t];omega
theorem qln (most:Nat) (l:List G) (k:Nat) (h:qcn most (l.take k)=most-1):qcn most l=most-1:=by
 have:∀(l:List G) b,b=most-1→l.foldl (fun b t=>max b (min (most-1) (gH t))) b=most-1:=by
  intro l
  induction l with
  |nil=>exact fun b h=>h
  |cons t r ih=>exact fun b h=>ih _ (by show max b (min (most-1) (gH t))=most-1;omega)
 have e:qcn most l=(l.drop k).foldl (fun b t=>max b (min (most-1) (gH t))) (qcn most (l.take k)):=by
  unfold qcn;rw [← List.foldl_append,List.take_append_drop]
 rw [e];exact this _ _ h
theorem qrn:∀(n:Nat) (t:G),SizeOf.sizeOf t=n→∀(A:Option Addr) (c:Nat) (most:Nat) (w:World),GAt w A c t→1≤most→most≤1000→
  Calls prog 285 #[.agg #[g0 t,g1 t,g2 t,.slice A (qaD t) c],.int .i64 most] w fun e w'=>e=.returned (.int .i64 (min most (gH t):Nat))∧Below w.heap.size w w':=by
 intro n
 induction n using Nat.strongRecOn with
 |_ n ih=>
  intro t hn A c most w hT h1 h9
  have HE:=hid (qpF most t h1)
  have hkl:(qan t).length=qaD t:=rfl
  have HK:=hid hkl;have hl3:=hT.len;have hX:qdY (w.alloc (.cells #[g0 t,g1 t,g2 t,.slice A (qaD t) c] 205)) w.heap.size (g0 t) (g1 t) (g2 t) (.slice A (qaD t) c):=heap_alloc_new _ _
  have hal:Below w.heap.size w (w.alloc (.cells #[g0 t,g1 t,g2 t,.slice A (qaD t) c] 205)):=(Below.refl _ _).alloc (Nat.le_refl _) _
  have hT0:=hT.later hal;have x3:=hX.a3;have hm1:(1:Int)≤(most:Int):=by omega
  have hm9:(most:Int)≤1000:=by omega
  have hl4:(qaD t:Int)≤281474976710656:=by omega
  clear hkl;go_enter func285,ntmps285;generalize hw0:w.alloc (.cells #[g0 t,g1 t,g2 t,.slice A (qaD t) c] 205)=w0 at *;go_wp2;clear hw0;go_loopw [5,11] (fun b i wr=>∃k:Nat,k≤qaD t∧i=.int .i64 k∧b=.int .i64 (qcn most ((qan t).take k):Nat)∧Below w.heap.size w wr∧GAt wr A c t) (fun _ i _=>qaD t-(intOf i).toNat)
  case atStart=>exact⟨0,Nat.zero_le _,rfl,rfl,hal,hT0⟩
  case round=>
   obtain⟨k,hk,rfl,rfl,hB,hTr⟩:=hrel;have hle:=qrO most ((qan t).take k)
   by_cases hlt:k<qaD t
   ·have hlt':k<(qan t).length:=hlt
    obtain⟨g,o,A1,k1,rfl,d0,d1,d2,d3,hTk⟩:=hTr.kid k hlt';have hsn:qcn most ((qan t).take (k+1))=max (qcn most ((qan t).take k)) (min (most-1) (gH (qan t)[k])):=by
     rw [List.take_succ_eq_append_getElem hlt',qmS]
    have HST:=hid (qln most (qan t) k)
    have hg1:(k:Int)<(qaD t:Int):=by omega
    have hszk:=qhd t k hlt';have cD:=fun m W (hTW:GAt W A1 k1 (qan t)[k]) h1 h2=>ih (SizeOf.sizeOf (qan t)[k]) (by omega) (qan t)[k] rfl A1 k1 m W hTW h1 h2
    generalize (qan t)[k]=tk at *;obtain⟨b,hb⟩:=qQ (qcn most ((qan t).take k))
    rw [hb] at hsn hle HST;rw [hb];have hal2:Below wr.heap.size wr (wr.alloc (.cells #[g0 tk,g1 tk,g2 tk,.slice A1 (qaD tk) k1] 205)):=(Below.refl _ _).alloc (Nat.le_refl _) _
    have hY:qdY (wr.alloc (.cells #[g0 tk,g1 tk,g2 tk,.slice A1 (qaD tk) k1] 205)) wr.heap.size (g0 tk) (g1 tk) (g2 tk) (.slice A1 (qaD tk) k1):=heap_alloc_new _ _
    have hTk2:=hTk.later hal2;have hTr2:=hTr.later hal2;have hB2:=qT hB hal2;generalize hw2:wr.alloc (.cells #[g0 tk,g1 tk,g2 tk,.slice A1 (qaD tk) k1] 205)=w2 at *;have y0:=hY.a0;have y1:=hY.a1;have y2:=hY.a2;have y3:=hY.a3
    clear ih hn hszk hb hT hT0 hTr hTk hal hlt';by_cases hst:b=most-1
    ·have HF:Hid (min most (gH t)=b+1):=hid (by rw [← HE.out,HST.out hst,hst])
     have gst:((b:Int)==(most:Int)-1)=true:=by simp;omega
     clear HE HST hsn cD hst;go_wp2;go_ret;exact⟨by rw [HF.out];simp,hB2⟩
    ·have gst:((b:Int)==(most:Int)-1)=false:=by simp;omega
     have cC:=cD (most-1) w2 hTk2 (by omega) (by omega)
     rw [show((most-1:Nat):Int)=(most:Int)-1 by omega] at cC;have HSN:=hid hsn;clear HST hsn cD hst;go_wp2_with (go_at_call 285;(with_reducible refine cC.mono ?_);rintro e w3 ⟨rfl,hb3⟩)
     go_roundw
     case rel=>exact⟨k+1,by omega,by go_num,by rw [HSN.out];simp;try omega,qT hB2 hb3,hTr2.later hb3⟩
     case measure=>simp [intOf];omega
   ·have hke:k=qaD t:=by omega
    subst hke;have HF:Hid (min most (gH t)=qcn most (qan t)+1):=hid HE.out.symm
    rw [show(qan t).take (qaD t)=qan t from List.take_length] at hle;rw [show(qan t).take (qaD t)=qan t from List.take_length];have hg1:decide ((qaD t:Int)<(qaD t:Int))=false:=by simp
    clear ih hn HE hT hT0 hal;generalize qcn most (qan t)=b at *;go_wp2;go_ret;exact⟨by rw [HF.out];simp,hB⟩
def gOf:T→G
 |.leaf nm n=>.node [] nm n []
 |.one op a=>.node op [] 0 [gOf a]
 |.two op a b=>.node op [] 0 [gOf a,gOf b]
 |.three op a b c=>.node op [] 0 [gOf a,gOf b,gOf c]
theorem qco (t:T):gOp (gOf t)=opT t∧gNm (gOf t)=qbP t∧gN (gOf t)=qe1 t∧qaD (gOf t)=qdm t:=by cases t<;>exact⟨rfl,rfl,rfl,rfl⟩
structure Fr (w:World) (M B:Nat) (op nm:List UInt8) (n:Int) (A:Option Addr) (ln c:Nat):Prop where
 b0:w.heap[M]?=some (.cells #[.pointer (some ⟨B,0,none⟩)] 252 (0,0))
 b1:w.heap[M+1]?=some (.cells #[.string ⟨op.toArray⟩,.string ⟨nm.toArray⟩,.int .i64 n,.slice A ln c] 205 (0,0))
 b2:w.heap[M+1+1]?=some (.cells #[.slice A ln c] 203 (0,0))
abbrev W3v (w:World) (B:Nat) (op nm:List UInt8) (n:Int) (A:Option Addr) (ln c:Nat):World:=
 ((w.alloc (.cells #[.pointer (some ⟨B,0,none⟩)] 252)).alloc (.cells #[.string ⟨op.toArray⟩,.string ⟨nm.toArray⟩,.int .i64 n,.slice A ln c] 205)).alloc (.cells #[.slice A ln c] 203)
section
variable {w w':World} {N M B:Nat} {op nm:List UInt8} {n:Int} {A:Option Addr} {ln c:Nat}
theorem Fr.kept (h:Fr w M B op nm n A ln c) (hk:KeptW N w w'):Fr w' M B op nm n A ln c:=⟨hk.fine _ _ h.b0 rfl,hk.fine _ _ h.b1 rfl,hk.fine _ _ h.b2 rfl⟩
theorem Fr.drew (h:Fr w M B op nm n A ln c):Fr w.drew M B op nm n A ln c:=⟨h.b0,h.b1,h.b2⟩
theorem Fr.c0 (h:Fr w M B op nm n A ln c):w.cell? ⟨M,0,none⟩=some (.pointer (some ⟨B,0,none⟩)):=cell_of_one h.b0
theorem Fr.c1 (h:Fr w M B op nm n A ln c):w.cell? ⟨M+1,0,none⟩=some (.string ⟨op.toArray⟩):=by simp [World.cell?,h.b1]
theorem Fr.c2 (h:Fr w M B op nm n A ln c):w.cell? ⟨M+1+1,0,none⟩=some (.slice A ln c):=cell_of_one h.b2
theorem Fr.c1a (h:Fr w M B op nm n A ln c):w.cell? ⟨M+1,1,none⟩=some (.string ⟨nm.toArray⟩):=by simp [World.cell?,h.b1]
theorem Fr.c1b (h:Fr w M B op nm n A ln c):w.cell? ⟨M+1,2,none⟩=some (.int .i64 n):=by simp [World.cell?,h.b1]
theorem Fr.c1c (h:Fr w M B op nm n A ln c):w.cell? ⟨M+1,3,none⟩=some (.slice A ln c):=by simp [World.cell?,h.b1]
theorem Fr.new (w:World) (B:Nat) (op nm:List UInt8) (n:Int) (A:Option Addr) (ln c:Nat):Fr (W3v w B op nm n A ln c) w.heap.size B op nm n A ln c:=by
 refine⟨?_,?_,?_⟩
 ·exact(Below.heap_alloc _ _ _ (by simp;omega)).trans ((Below.heap_alloc _ _ _ (by simp)).trans (heap_alloc_new _ _))
 ·refine(Below.heap_alloc _ _ _ (by simp)).trans ?_
  have:=heap_alloc_new (w.alloc (.cells #[.pointer (some ⟨B,0,none⟩)] 252)) (.cells #[.string ⟨op.toArray⟩,.string ⟨nm.toArray⟩,.int .i64 n,.slice A ln c] 205)
  simpa using this
 ·have:=heap_alloc_new ((w.alloc (.cells #[.pointer (some ⟨B,0,none⟩)] 252)).alloc (.cells #[.string ⟨op.toArray⟩,.string ⟨nm.toArray⟩,.int .i64 n,.slice A ln c] 205)) (.cells #[.slice A ln c] 203)
  simpa using this
theorem qkY (w:World) (B:Nat) (op nm:List UInt8) (n:Int) (A:Option Addr) (ln c:Nat):Below w.heap.size w (W3v w B op nm n A ln c):=
 (((Below.refl _ w).alloc (Nat.le_refl _) _).alloc (by simp) _).alloc (by simp;omega) _
end
def At4 (w:World) (g o:Nat) (t:T) (A:Option Addr) (k:Nat):Prop:=
 w.cell? ⟨g,o,none⟩=some (.string ⟨(opT t).toArray⟩)∧w.cell? ⟨g,o+1,none⟩=some (.string ⟨(qbP t).toArray⟩)∧w.cell? ⟨g,o+2,none⟩=some (.int .i64 (qe1 t))∧w.cell? ⟨g,o+3,none⟩=some (.slice A (qdm t) k)
theorem At4.keptW {N:Nat} {w w':World} {g o k:Nat} {t:T} {A:Option Addr} (h:At4 w g o t A k) (hb:Below N w w') (hg:g<N):At4 w' g o t A k:=
 ⟨(hb.cell (p:=⟨g,o,none⟩) hg).trans h.1,(hb.cell (p:=⟨g,o+1,none⟩) hg).trans h.2.1,(hb.cell (p:=⟨g,o+2,none⟩) hg).trans h.2.2.1,(hb.cell (p:=⟨g,o+3,none⟩) hg).trans h.2.2.2⟩
theorem At4.lt {w:World} {g o k:Nat} {t:T} {A:Option Addr} (h:At4 w g o t A k):g<w.heap.size:=World.block_lt_of_cell? w ⟨g,o,none⟩ h.1
theorem qwg {W:World} {A:Option Addr} {c:Nat} {op nm:List UInt8} {n:Int} {kids:List T} (h:GAt W A c (.node op nm n (kids.map gOf))) (j:Nat) (hj:j<kids.length):
  ∃g o A1 k1,A=some ⟨g,o,none⟩∧At4 W g (o+j*4) kids[j] A1 k1∧GAt W A1 k1 (gOf kids[j]):=by
 have hl:(qan (.node op nm n (kids.map gOf)))=kids.map gOf:=rfl
 obtain⟨g,o,A1,k1,h1,h2,h3,h4,h5,h6⟩:=h.kid j (by rw [hl];simpa using hj)
 have he:(qan (.node op nm n (kids.map gOf)))[j]'(by rw [hl];simpa using hj)=gOf kids[j]:=by simp [hl]
 rw [he] at h2 h3 h4 h5 h6;obtain⟨e1,e2,e3,e4⟩:=qco kids[j]
 rw [g0,e1] at h2;rw [g1,e2] at h3;rw [g2,e3] at h4;rw [e4] at h5;exact⟨g,o,A1,k1,h1,⟨h2,h3,h4,h5⟩,h6⟩
def R64 (n:Int):Prop:=-9223372036854775808≤n∧n≤9223372036854775807
def qtP (s:Asg):Prop:=∀p∈s,R64 p.2
def qtX:Except Int (Int×Asg)→Prop
 |.ok r=>R64 r.1∧qtP r.2
 |.error _=>True
def qoB (D:List (List UInt8)):T→Prop
 |.leaf nm n=>R64 n∧(nm≠[]→nm∈D)
 |.one _ a=>qoB D a
 |.two _ a b=>qoB D a∧qoB D b
 |.three _ a b c=>qoB D a∧qoB D b∧qoB D c
theorem qhj (x:Int):R64 (wrap64 x):=by unfold R64 wrap64;omega
theorem qoy (x:Int):R64 (IntKind.i64.wrap x):=by unfold R64;rw [IntKind.wrap_i64];omega
theorem qio (b:Bool):R64 (truthI b):=by cases b<;>(unfold R64;decide)
theorem qxt (n:Int):R64 (bits BinOp.xor IntKind.i64 (-1) n):=by unfold bits;exact qoy _
theorem qw9 (l:List UInt8):qkT (qqM l):=by
 unfold qqM
 apply qhP
 ·unfold qlD
  split
  ·exact qhj _
  ·show R64 0;unfold R64;decide
 ·trivial
theorem qvV (v:V):qkT (qfn v):=by
 unfold qfn;refine qhP trivial (qhP (by show R64 0;unfold R64;decide) (qhP ?_ (qw9 _)))
 cases qqM (Lib.trimPrefix (Lib.trimS v.tx [32,9]) [45]) with
 |ok n=>exact qhj _
 |error e=>trivial
theorem qkr (env:Env) (s:Asg) (hs:qtP s) (nm:List UInt8):qkT (qem env s nm):=by
 unfold qem;cases h:s.lookup nm with
 |none=>exact qvV _
 |some n=>
  by_cases hm:nm∈s.map Prod.fst
  ·obtain⟨k,h1,h2⟩:=qp6 hm
   rw [h] at h1;cases h1
   exact hs _ h2
  ·rw [qm2 hm] at h;cases h
theorem qnm {s:Asg} (hs:qtP s) (nm:List UInt8) {n:Int} (hn:R64 n):qtP (qxs s nm n):=by
 induction s with
 |nil=>intro p hp;simp [qxs] at hp;rw [hp];exact hn
 |cons q r ih=>
  obtain⟨k,m⟩:=q;have hr:qtP r:=fun p hp=>hs p (List.mem_cons_of_mem _ hp)
  rw [qxs];split
  ·intro p hp
   rcases List.mem_cons.1 hp with rfl|hp
   ·exact hn
   ·exact hr p hp
  ·intro p hp
   rcases List.mem_cons.1 hp with rfl|hp
   ·exact hs _ (List.mem_cons_self)
   ·exact ih hr p hp
theorem qbx {r:Except Int (Int×Asg)} {f:Int×Asg→Except Int (Int×Asg)} (h:qtX r) (hf:∀q,R64 q.1→qtP q.2→qtX (f q)):qtX (qbA r f):=by
 cases r with
 |error e=>trivial
 |ok q=>exact hf q h.1 h.2
theorem qdw {r:Except Int Int} {f:Int→Except Int (Int×Asg)} (h:qkT r) (hf:∀n,R64 n→qtX (f n)):qtX (qbA r f):=by
 cases r with
 |error e=>trivial
 |ok q=>exact hf q h
theorem qrV {c:Prop} [Decidable c] {x y:Except Int (Int×Asg)} (hx:qtX x) (hy:qtX y):qtX (if c then x else y):=by
 by_cases h:c
 ·rw [if_pos h];exact hx
 ·rw [if_neg h];exact hy
theorem qbo {D:List (List UInt8)} (env:Env):∀(t:T),qoB D t→∀s,qtP s→qtX (qa8 env t s)
 |.leaf nm n,h,s,hs=>by
  unfold qa8;refine qrV ⟨h.1,hs⟩ (qdw (qkr env s hs nm) fun n hn=>⟨hn,hs⟩)
 |.one op a,h,s,hs=>by
  have ih:=qbo env a h s hs;unfold qa8;refine qrV (qbx ih fun q _ h2=>⟨qio _,h2⟩) (qrV (qbx ih fun q _ h2=>⟨qxt _,h2⟩) (qrV (qbx ih fun q _ h2=>⟨qoy _,h2⟩) (qdw (qkr env s hs _) fun n hn=>⟨?_,qnm hs _ (qhj _)⟩)))
  show R64 (if postOf op then n else wrap64 (n+qzf op))
  split
  ·exact hn
  ·exact qhj _
 |.two op a b,h,s,hs=>by
  have iha:=qbo env a h.1 s hs;have z:R64 0:=by unfold R64;decide
  have o:R64 1:=by unfold R64;decide
  unfold qa8;refine qrV (qbx iha fun q _ h2=>qrV ⟨z,h2⟩ (qbx (qbo env b h.2 _ h2) fun p _ h3=>⟨qio _,h3⟩))
   (qrV (qbx iha fun q _ h2=>qrV (qbx (qbo env b h.2 _ h2) fun p _ h3=>⟨qio _,h3⟩) ⟨o,h2⟩)
   (qrV (qbx (qbo env b h.2 s hs) fun q h1 h2=>⟨h1,qnm h2 _ h1⟩)
   (qrV (qdw (qkr env s hs _) fun was hw=>qbx (qbo env b h.2 s hs) fun q h1 h2=>qdw (qfF _ _ _ hw h1) fun n hn=>⟨hn,qnm h2 _ hn⟩)
   (qbx iha fun p h1 h2=>qbx (qbo env b h.2 _ h2) fun q h3 h4=>qdw (qfF _ _ _ h1 h3) fun n hn=>⟨hn,h4⟩))))
 |.three op a b c,h,s,hs=>by
  unfold qa8;exact qbx (qbo env a h.1 s hs) fun p _ h2=>qrV (qbo env c h.2.2 _ h2) (qbo env b h.2.1 _ h2)
end Go.Proofs.YtpodopnmkjinhaaGreatDoor.Cal
namespace Go.Proofs.YtpodopnmkjinhaaGreatDoor.Cal
open Go.RowKit
theorem qgA {P:Program} {o:Oper} {a:Act} {next:Act→World→Prop} {Q:Exit→Act→World→Prop} (l n:Nat) {r:Result Next} (h:o.upon P a next Q r):o.uponIn (Fence.wide.inRound l) n P a next Q r:=by
 have hd:(Fence.wide.inRound l).depth.isSome=true→1≤n:=fun e=>by cases e
 cases r with
 |ok x w'=>
  cases x with
  |enter f args=>exact⟨hd,CallsIn.inRound l (callsIn_wide.2 h)⟩
  |row row args=>exact⟨hd,fun c cs _=>by
    obtain⟨v,w2,r,s⟩:=h c cs;exact⟨v,w2,r,stepsIn_wide.2 s⟩⟩
  |round l f tmps assign body=>exact h.elim
  |value v=>exact h
  |skip=>exact h
  |defer d=>exact h
  |_=>exact h.elim
 |halt x w'=>cases x<;>first|exact h|exact h.elim
theorem qcl {P:Program} {md:Region.Mode} {ops:Array Oper} {Q:Exit→Act→World→Prop} (l n:Nat) (hnd:∀o∈ops,∀c,o.op≠.defer c)
  (hQ:¬LetsOut Q):
  ∀(fuel:Nat) (listed:Array Bool) (a:Act) (w:World),wpAny P md ops Q fuel listed a w→wpAnyIn (Fence.wide.inRound l) n P md ops Q fuel listed a w
 |0,_,_,_,h=>h
 |fuel+1,listed,a,w,h=>⟨h.1,fun i hi=>by
  have h2:=h.2 i hi;have ih:=fun a w=>qcl (P:=P) (md:=md) l n hnd hQ fuel (listed.setIfInBounds i true) a w
  unfold wpOp at h2;unfold wpOpIn;cases ho:ops[i]? with
  |none=>rw [ho] at h2;exact ih _ _ h2
  |some o=>
   rw [ho] at h2;have hmem:o∈ops:=by obtain⟨hh,e⟩:=Array.getElem?_eq_some_iff.1 ho;rw [← e];exact Array.getElem_mem hh
   dsimp only at h2 ⊢
   by_cases hw:Region.wanted o (yielded ops a.tmps)=true
   ·rw [if_pos hw] at h2 ⊢
    rcases h2 with h2|⟨_,h2⟩
    ·refine⟨fun _ _=>trivial,?_⟩
     have h3:=Oper.wp_mono ih h2;rw [show(Fence.wide.inRound l).round=some l from rfl,Oper.semAt_eq (some l) _ o (hnd o hmem)];exact qgA l n h3
    ·exact absurd h2 hQ
   ·rw [if_neg hw] at h2 ⊢
    exact⟨fun _ _=>trivial,ih _ _ h2⟩⟩
theorem qcZ {P:Program} {id:Nat} {ops:Array Oper} {Q:Exit→Act→World→Prop} {a:Act} {w:World} (l n:Nat) (hm:P.follows .mixedOrders=true) (hnd:∀o∈ops,∀c,o.op≠.defer c)
  (hQ:¬LetsOut Q)
  (S:World→Prop) (h:wpAnyH P .any ops Q S ops.size (Array.replicate ops.size false) a w.drew):(Code.region id ops true).wpIn (Fence.wide.inRound l) n P Q a w:=
 wpIn_region_any hm (qcl l n hnd hQ _ _ _ _ (wpAny_of_held _ _ _ _ h))
def qwh:Obj→Bool
 |.cells _ t _=>t==4
 |o=>o.isWalk
def qsb:Obj→Bool
 |.cells _ t _=>t==4
 |_=>true
theorem quS {o:Obj} (h:qwh o=true):qsb o=true:=by cases o<;>first|exact h|rfl
def qwv {β:Type} (B:Nat) (J:β→World→Prop):Prop:=∀s X Y row,J s X→X.grownBy Y row→(∀r,row=some r→B≤r∧∃o:Obj,X.heap[r]?=some o∧qwh o=true)→J s Y
def qnM {β:Type} (B:Nat) (I:β→World→Prop):Prop:=∀s X Y row,I s X→X.grownBy Y row→(∀r,row=some r→B≤r∧∃o:Obj,X.heap[r]?=some o∧qsb o=true)→I s Y
theorem qnM.put {β:Type} {B:Nat} {I:β→World→Prop} (h:qnM B I) {s:β} {X:World} {l:Nat} {o:Obj} (o':Obj) (hs:I s X) (hB:B≤l) (hl:X.heap[l]?=some o) (ho:o.isCells=false):I s (X.putObj l o'):=
 h s X _ (some l) hs (grownBy_putObj' X l o') (fun r e=>by cases e;exact⟨hB,o,hl,by cases o<;>first|(cases ho;done)|rfl⟩)
theorem qnM.alloc {β:Type} {B:Nat} {I:β→World→Prop} (h:qnM B I) {s:β} {X:World} (o:Obj) (hs:I s X):I s (X.alloc o):=h s X _ none hs (World.grownBy_alloc X o none) (fun r e=>by cases e)
def qx9 {α:Type} (F:Fence) (n:Nat) (P:Program) (gf:Nat) (lb:Array Value) (enc:α→Value) (Kp:World→World→Prop) (S:List α→Prop) (N:Nat) (w0:World):Prop:=
 ∀(l:Nat) (J:List α→World→Prop) (W:World),Below w0.heap.size w0 W→qwv W.heap.size J→
  (∀pre x W1,J pre W1→pre.length<N→YieldAt F (n-1) P l #[enc x] W1 fun e W'=>e=.returned (.bool true)∧J (pre++[x]) W'∧Kp W1 W')→
  J [] W→CallsIn F n P gf (#[.func (.yield l) #[] #[]]++lb) W fun e W'=>(∃v,e=.returned v)∧∃xs,S xs∧J xs W'
theorem qx9.of_stops {α:Type} {F:Fence} {n:Nat} {P:Program} {gf:Nat} {lb:Array Value} {enc:α→Value} {Kp:World→World→Prop} {S Sp:List α→Prop} {N:Nat} {w0:World} (h:SeqStopsK F n P gf lb (fun x=>#[enc x]) Kp S Sp N w0):qx9 F n P gf lb enc Kp S N w0:=fun l J W hW hJ hY h0=>by
 refine(h l J (fun _ _=>False) W hW (fun s X Y row hs hg hr=>hJ s X Y row hs hg fun r e=>by
  obtain⟨hB,o,ho,hw⟩:=hr r e;exact⟨hB,o,ho,by cases o<;>first|exact hw|(cases hw;done)⟩) (fun _ _ _ _ hs _ _=>hs) (fun pre x W1 hj hl=>?_) h0).mono ?_
 ·obtain⟨fn,tmps,assign,body,hy,hR⟩:=hY pre x W1 hj hl
  exact⟨fn,tmps,assign,body,hy,hR.mono (fun e w' hr=>.inl hr)⟩
 ·rintro e W' ⟨hv,⟨xs,hS,hJ'⟩|⟨_,_,hf⟩⟩
  ·exact⟨hv,xs,hS,hJ'⟩
  ·exact hf.elim
def qck (D:Nat) (r:Loop) (W:World):Prop:=W.heap[D]?=some (.deferred (some []))∧W.heap[D+1]?=some (.loop r)
theorem qck.keeps {D:Nat} {r:Loop} {A B:World} (h:qck D r A) (k:KeepsFrom D A B):qck D r B:=
 ⟨k.same _ _ (Nat.le_refl _) h.1 rfl,k.same _ _ (by omega) h.2 rfl⟩
theorem qck.put {D:Nat} {r r':Loop} {A:World} (h:qck D r A):qck D r' (A.putObj (D+1) (.loop r')):=
 ⟨(World.putObj_heap_other (by omega)).trans h.1,World.putObj_heap_same (Array.getElem?_eq_some_iff.1 h.2).1⟩
theorem qxu {α:Type} {F:Fence} {n:Nat} {P:Program} {w:World} {g:Operand} {ps:Array Tmp} {assign body:Code} {Q:Exit→Act→World→Prop} {a:Act}
  (hro:F.round=none) (h1:1≤n) {gf:Nat} {lb:Array Value} (hg:a.eval g=.func (.func gf) #[] lb) (hFg:F.fn gf) (eg:∀args w,(callFunc gf args).run P w=.ok (.enter gf args) w)
  {enc:α→Value} {Kp:World→World→Prop} {S:List α→Prop} {N:Nat} {w0:World} (hseq:qx9 F (n-1) P gf lb enc Kp S N w0)
  (hKt:∀{A B C:World},Kp A B→Kp B C→Kp A C) (hKb:∀(W:World) (l:Nat) (o o':Obj),w.heap.size≤l→W.heap[l]?=some o→o.isCells=false→o.isWalk=false→Kp W (W.putObj l o')) (hb0:Below w0.heap.size w0 w) (hps:1=ps.size)
  (I:List α→World→Prop) (hI:qnM w.heap.size I) (h0:I [] w) (Ax:List α→α→Act→World→Prop) (hAx:∀pre x a',qnM w.heap.size (fun(_:Unit) W=>Ax pre x a' W))
  (hassign:∀(l:Nat) (pre:List α) (x:α) (W:World) (K:Act→World→Prop),I pre W→(∀a' W',KeepsFrom w.heap.size W W'→Kp W W'→I pre W'→Ax pre x a' W'→K a' W')→
   assign.wpIn (F.inRound l) (n-1-1) P (Exit.then K (fun _ _ _=>False)) { tmps:=(ps.zip #[enc x]).foldl (fun t (p,v)=>t.setIfInBounds p v) a.tmps,defers:=[] } W)
  (hbody:∀(l:Nat) (pre:List α) (x:α) (a':Act) (W:World),I pre W→Ax pre x a' W→pre.length<N→body.wpIn (F.inRound l) (n-1-1) P (ownPostG w.heap.size Kp I (fun _ _ _=>False) (pre++[x]) W) a' W)
  (hdone:∀(xs:List α) (W:World),S xs→I xs W→W.heap[w.heap.size]?=some (.deferred (some []))→Q .normal { a with defers:={ target:=.collected w.heap.size,args:=#[] }::a.defers } W):
  (Code.rangeFunc g ps assign body).wpIn F n P Q a w:=by
 refine wpIn_rangeFunc fun fn hfn=>?_
 rw [hro];obtain⟨lp,hlp⟩:∃lp:LoopState→Loop,lp=fun st=>{ state:=st,pending:=none,fn,tmps:=a.tmps,params:=ps,assign,body,defers:=w.heap.size }:=⟨_,rfl⟩
 obtain⟨V,hV⟩:=qQ ((w.alloc (.deferred (some []))).alloc (.loop (lp .ready)))
 have bV:qck w.heap.size (lp .ready) V:=by
  rw [← hV];exact⟨(Below.heap_alloc _ _ _ (by simp)).trans (World.alloc_heap_new w _),by have:=World.alloc_heap_new (w.alloc (.deferred (some []))) (.loop (lp .ready));rwa [World.size_alloc] at this⟩
 have iV:I [] V:=by rw [← hV];exact hI.alloc _ (hI.alloc _ h0)
 have lV:Below w0.heap.size w0 V:=by rw [← hV];exact hb0.trans ((((Below.refl _ w).alloc (Nat.le_refl _) _).alloc (by simp) _).mono hb0.size)
 have sV:w.heap.size≤V.heap.size:=by rw [← hV];simp;omega
 refine⟨w.heap.size+1,[{ target:=.collected w.heap.size,args:=#[] }],V,{ target:=.fn (.func gf) lb,args:=#[.func (.yield (w.heap.size+1)) #[] #[]] },V,gf,
  #[.func (.yield (w.heap.size+1)) #[] #[]]++lb,V,by rw [← hV,hlp];exact run_enterLoop_outer _ _ _ _ _,by simp only [resolve,hg];simp [go_sem],fun f' hf'=>by simp [Target.leads] at hf';subst hf';exact hFg,by simp [invoke,go_sem,eg],fun _=>h1,?_⟩
 refine(hseq (w.heap.size+1) (fun pre W=>I pre W∧qck w.heap.size (lp .ready) W) V lV ?abides ?one ⟨iV,bV⟩).mono ?done
 case abides=>
  intro s A B row hs hg' hr
  exact⟨hI s A B row hs.1 hg' (fun r e=>by
   obtain⟨hB,o,ho,hw⟩:=hr r e;exact⟨by omega,o,ho,quS hw⟩),⟨(hg'.block _ (Array.getElem?_eq_some_iff.1 hs.2.1).1 (fun e=>by obtain⟨_,o,ho,hw⟩:=hr _ e.symm;rw [hs.2.1] at ho;cases ho;cases hw)).trans hs.2.1,
    (hg'.block _ (Array.getElem?_eq_some_iff.1 hs.2.2).1 (fun e=>by obtain⟨_,o,ho,hw⟩:=hr _ e.symm;rw [hs.2.2] at ho;cases ho;cases hw)).trans hs.2.2⟩⟩
 case one=>
  rintro pre x W⟨hi,hb⟩ hlen;have hy:=run_yield (P:=P) (args:=#[enc x]) hb.2 (by rw [hlp];exact hps)
  rw [hlp] at hy;refine⟨fn,_,assign,body,hy,roundIn_of_wpIn hfn (hassign _ pre x W _ hi fun a' U kf kp hi' hax=>?_)⟩
  have hb1:=hb.keeps kf;have hb2:qck w.heap.size { lp .ready with state:=.busy } (U.putObj (w.heap.size+1) (.loop { lp .ready with state:=.busy })):=hb1.put
  have hnc:∀{β:Type} {G:β→World→Prop} {s:β},qnM w.heap.size G→G s U→G s (U.putObj (w.heap.size+1) (.loop { lp .ready with state:=.busy })):=fun hG hs=>hG.put _ hs (by omega) hb1.2 rfl
  refine⟨_,run_beginRound hb1.2 (by rw [hlp]),wpIn_mono (hbody _ pre x a' _ (hnc hI hi') (hnc (s:=()) (hAx pre x a') hax) hlen) ?_⟩
  rintro e a3 U3 hp;cases e with
  |normal=>
   obtain⟨k3,kp3,hi3⟩:=hp;have hb3:=hb2.keeps k3;have hr:=run_endRound (P:=P) none hb3.2
   have hb4:qck w.heap.size (lp .ready) (U3.putObj (w.heap.size+1) (.loop (lp .ready))):=hb3.put
   rw [hlp] at hr;rw [hlp] at hb4 hb3;refine⟨_,_,hr,rfl,⟨hI.put _ hi3 (by omega) hb3.2 rfl,?_⟩,hKt kp (hKt (hKt (hKb _ _ _ _ (by omega) hb1.2 rfl rfl) kp3) (hKb _ _ _ _ (by omega) hb3.2 rfl rfl))⟩
   rw [hlp];exact hb4
  |ret=>exact hp.2.elim
  |exit id=>exact hp.2.elim
  |goto t=>exact hp.2.elim
  |panic ch=>exact hp.elim
  |outgrown=>exact hp.elim
 case done=>
  rintro e W2⟨⟨v,rfl⟩,xs,hS,hi,hb⟩;have hr:=run_endLoop (P:=P) hb.2 (by rw [hlp];simp)
  rw [hlp] at hr;exact⟨none,_,hr,hdone xs _ hS (hI.put _ hi (by omega) hb.2 rfl) ((World.putObj_heap_other (by omega)).trans hb.1)⟩
end Go.Proofs.YtpodopnmkjinhaaGreatDoor.Cal
namespace Go.Proofs.YtpodopnmkjinhaaGreatDoor.Cal
open Go.Lib (hid)
open Go.RowKit
theorem qxY {P:Program} {ops:Array Oper} {Q:Exit→Act→World→Prop} {md:Region.Mode} {S:World→Prop} {i:Nat} {oi:Oper} {d:Option Tmp} {v:Value} {fuel:Nat} {listed:Array Bool} {a:Act} {w:World} (hi:ops[i]?=some oi) (hd:oi.dst=d)
  (hs:Region.noSelect ops=true) (hf:Region.free md ops listed i=true) (hr:(Region.ready md ops listed).contains i=true)
  (hQ:∀c a w,Q (.panic c) (a.put d v) w→Q (.panic c) a w) (hy:YieldsIf P ops S oi v a) (hS:S w)
  (h:wpAnyH P md ops Q S fuel (listed.setIfInBounds i true) (a.put d v) w):wpAnyH P md ops Q S (fuel+1) listed a w:=by
 subst hd;exact wpAnyH_take hi hs hf hr hQ hy hS h
def ValAt (W0:World) (B:Nat) (D:List (List UInt8)) (env:qjN) (t:T):Prop:=
 ∀(A:Option Addr) (c:Nat) (s:Asg) (w:World),GAt W0 A c (gOf t)→Below W0.heap.size W0 w→WorkAt w W0.heap.size B D env s→qtP s→
  Calls prog 242 #[.pointer (some ⟨B,0,none⟩),.agg #[.string ⟨(opT t).toArray⟩,.string ⟨(qbP t).toArray⟩,.int .i64 (qe1 t),.slice A (qdm t) c]] w (qzd W0.heap.size B D env w (qa8 (qfx env) t s))
end Go.Proofs.YtpodopnmkjinhaaGreatDoor.Cal
namespace Go.Proofs.YtpodopnmkjinhaaGreatDoor.Cal
open Go.Lib (hid)
open Go.RowKit Go.Shelf
attribute [local go_sem] Oper.semAt_some
def qyF:Obj→Bool
 |.cells _ t _=>t !=206&&t !=210
 |o=>o.isWalk
structure KpC (n₀:Nat) (A B:World):Prop where
 below:Below n₀ A B
 fine:∀(k:Nat) (o:Obj),A.heap[k]?=some o→qyF o=true→B.heap[k]?=some o
theorem KpC.t {n₀:Nat} {A B C:World} (h:KpC n₀ A B) (k:KpC n₀ B C):KpC n₀ A C:=⟨h.below.trans k.below,fun i o hi hf=>k.fine i o (h.fine i o hi hf) hf⟩
theorem KpC.b {n₀:Nat} {w:World} (hn:n₀≤w.heap.size) (W:World) (l:Nat) (o o':Obj) (hl:w.heap.size≤l) (h:W.heap[l]?=some o) (hc:o.isCells=false) (hw:o.isWalk=false):KpC n₀ W (W.putObj l o'):=
 ⟨belowK_b hn W l o o' hl h hc hw,fun k o2 hk hf=>(World.putObj_heap_other (by
  intro e;subst e
  rw [h] at hk;cases hk
  have:qyF o=false:=by cases o<;>first|(cases hc;done)|exact hw
  rw [this] at hf;cases hf)).trans hk⟩
theorem KpC.of_below {n₀:Nat} {W W':World} (h:Below W.heap.size W W') (hn:n₀≤W.heap.size):KpC n₀ W W':=⟨h.mono hn,fun k _ hk _=>(h.block k (lt_of_block hk)).trans hk⟩
abbrev Itm (w:World):={x:VI // qdh w (fun _=>True) x}
def qaq (x:VI):List Value:=[.string ⟨x.v.nm.toArray⟩,.string ⟨x.v.tx.toArray⟩,.bool x.v.ar,.slice x.A x.v.ls.length x.c]
theorem qoe:(prog.info? 210).map (fun i=>(i.zero,i.size,i.bytes))=some (some (.agg #[.string .empty,.string .empty,.bool false,.slice none 0 0]),4,64):=by kernel_rfl
def qyn (N Bx:Nat) (vs:List V) (W:World):Prop:=
 ∃(v:Value) (ys:List VI),W.heap[Bx]?=some (.cells #[v] 206 (0,0))∧W.ownsRow N 210 4 v ys.length (ys.flatMap qaq)∧ys.map (·.v)=vs∧∀y∈ys,qdh W (PS W N) y
theorem qnR {X Y:World} {row:Option Nat} (hg:X.grownBy Y row) (hr:∀r,row=some r→∃o:Obj,X.heap[r]?=some o∧o.isCells=false) {k:Nat} {cs:Array Value} {t:TypeId} {fz:Nat×Nat} (h:X.heap[k]?=some (.cells cs t fz)):Y.heap[k]?=some (.cells cs t fz):=
 (hg.block k (lt_of_block h) (by intro e;obtain⟨o,ho,hc⟩:=hr k e.symm;rw [h] at ho;cases ho;cases hc)).trans h
theorem qdh.cells {X Y:World} {N:Nat} (hk:∀(k:Nat) (cs:Array Value),X.heap[k]?=some (.cells cs 9 (0,0))→Y.heap[k]?=some (.cells cs 9 (0,0))) {y:VI} (h:qdh X (PS X N) y):qdh Y (PS Y N) y:=
 h.frame fun g _ hp=>by
  obtain⟨h1,cs,h2⟩:=hp;exact⟨⟨h1,cs,hk g cs h2⟩,(hk g cs h2).trans h2.symm⟩
theorem qij {w w':World} {N n:Nat} {v:Value} {xs:List Value} (h:w.ownsRow N 210 4 v n xs) (hb:∀g,v.ownBlock=some g→w'.heap[g]?=w.heap[g]?):w'.ownsRow N 210 4 v n xs:=by
 refine⟨h.1,?_⟩
 rcases h.2 with h0|⟨g,cap,cur,hv,h1,h2,h3⟩
 ·exact .inl h0
 ·exact .inr ⟨g,cap,cur,hv,h1,(hb g (by rw [hv];rfl)).trans h2,h3⟩
theorem qfv {X Y:World} {row:Option Nat} (hg:X.grownBy Y row) (hr:∀r,row=some r→∃o:Obj,X.heap[r]?=some o∧qsb o=true) {k:Nat} {cs:Array Value} {t:TypeId} {fz:Nat×Nat} (h:X.heap[k]?=some (.cells cs t fz)) (ht:(t==4)=false):Y.heap[k]?=some (.cells cs t fz):=
 (hg.block k (lt_of_block h) (by
  intro e
  obtain⟨o,ho,hc⟩:=hr k e.symm;rw [h] at ho;cases ho
  have hc:(t==4)=true:=hc
  rw [ht] at hc;cases hc)).trans h
theorem qnM.and {β:Type} {B:Nat} {I J:β→World→Prop} (h:qnM B I) (k:qnM B J):qnM B (fun s W=>I s W∧J s W):=fun s X Y row hs hg hr=>⟨h s X Y row hs.1 hg hr,k s X Y row hs.2 hg hr⟩
theorem qqd {β:Type} {n B:Nat} {w:World} (hn:n≤w.heap.size) (hB:n≤B):qnM B (fun(_:β) W=>Below n w W):=fun _ X _ _ hs hg hr=>hs.grown hg (by have:=hs.size;omega) (fun k e=>by have:=(hr k e).1;omega)
theorem qvq {w:World} (N Bx B:Nat):qnM B (fun(pre:List (Itm w)) W=>qyn N Bx (pre.map (·.1.v)) W):=by
 rintro pre X Y row⟨v,ys,h1,h2,h3,h4⟩ hg hr;have hr':=fun r e=>(hr r e).2
 refine⟨v,ys,qfv hg hr' h1 rfl,qij h2 fun g hgv=>?_,h3,fun y hy=>(h4 y hy).cells fun k cs hk=>qfv hg hr' hk rfl⟩
 rcases h2.2 with ⟨rfl,_⟩|⟨g',cap,cur,rfl,_,hb,_⟩
 ·simp [Value.ownBlock] at hgv
 ·obtain rfl:g'=g:=by simpa [Value.ownBlock] using hgv
  exact(qfv hg hr' hb rfl).trans hb.symm
theorem flat_get:∀(ys:List VI) (k:Nat) (hk:k<ys.length) (j:Nat),j<4→(ys.flatMap qaq)[k*4+j]?=(qaq ys[k])[j]?
 |[],k,hk,_,_=>absurd hk (Nat.not_lt_zero _)
 |y::ys,0,_,j,hj=>by
  rw [List.flatMap_cons,List.getElem?_append_left (by simp [qaq];omega)];simp
 |y::ys,k+1,hk,j,hj=>by
  rw [List.flatMap_cons,List.getElem?_append_right (by simp [qaq];omega)];have:=flat_get ys k (by simpa using hk) j hj
  rw [show(k+1)*4+j-(qaq y).length=k*4+j by simp [qaq];omega]
  simpa using this
theorem qiH {w:World} {N:Nat} {ao:Option Addr} {c:Nat} {ys:List VI} (h:w.ownsRow N 210 4 (.slice ao ys.length c) ys.length (ys.flatMap qaq)) (hI:∀y∈ys,qdh w (PS w N) y):qbN w (fun g=>N≤g) ao ys:=by
 refine⟨fun k hk=>?_,fun y hy=>(hI y hy).frame fun g _ hp=>⟨hp.1,rfl⟩⟩
 rcases h.2 with ⟨hv,h0⟩|⟨g,cap,cur,hv,hN,_⟩
 ·omega
 ·cases hv
  have hc:∀j,j<4→∀u,(qaq ys[k])[j]?=some u→w.cell? ⟨g,0+k*4+j,none⟩=some u:=fun j hj u hu=>by
   have:=h.cells (g:=g) rfl (k*4+j) u (by rw [flat_get ys k hk j hj];exact hu)
   by_cases h0:k*4+j=0
   ·rw [h0] at this
    have e1:0+k*4+j=0:=by omega
    rw [e1]
    simpa [Addr.add] using this
   ·have e1:0+k*4+j=k*4+j:=by omega
    rw [e1];rw [show(⟨g,0,none⟩:Addr).add (k*4+j)=⟨g,k*4+j,none⟩ by unfold Addr.add;rw [if_neg h0];simp] at this;exact this
  exact⟨g,0,rfl,hN,by simpa using hc 0 (by omega) _ rfl,hc 1 (by omega) _ rfl,hc 2 (by omega) _ rfl,hc 3 (by omega) _ rfl⟩
theorem qsZ {w W W1 w3:World} {n₀ N:Nat} {v:Value} {ys:List VI} {vs:List V} {y:VI} {gg cap:Nat} {z:V} (hNW:N≤W.heap.size) (hn₀N:n₀≤N) (hB:Below N w W)
  (h1:W.heap[N]?=some (.cells #[v] 206 (0,0))) (h2:W.ownsRow N 210 4 v ys.length (ys.flatMap qaq)) (h3:ys.map (·.v)=vs) (h4:∀y∈ys,qdh W (PS W N) y)
  (hyv:y.v=z) (hyI:qdh W1 (PS W1 W.heap.size) y) (hb1:Below W.heap.size W W1)
  (hown3:w3.ownsRow N 210 4 (.slice (some ⟨gg,0,none⟩) (ys.length+1) cap) (ys.length+1) (ys.flatMap qaq++qaq y))
  (hg:(W1.alloc (.cells #[.string ⟨y.v.nm.toArray⟩,.string ⟨y.v.tx.toArray⟩,.bool y.v.ar,.slice y.A y.v.ls.length y.c] 210)).grownBy w3 v.ownBlock):
  w3.heap[N]?=some (.cells #[v] 206 (0,0))∧KeepsOthers W (w3.setCell ⟨N,0,none⟩ (.slice (some ⟨gg,0,none⟩) (ys.length+1) cap))∧KpC n₀ W (w3.setCell ⟨N,0,none⟩ (.slice (some ⟨gg,0,none⟩) (ys.length+1) cap))∧
   qyn N N (vs++[z]) (w3.setCell ⟨N,0,none⟩ (.slice (some ⟨gg,0,none⟩) (ys.length+1) cap))∧Below N w (w3.setCell ⟨N,0,none⟩ (.slice (some ⟨gg,0,none⟩) (ys.length+1) cap)):=by
 have hal:Below W1.heap.size W1 (W1.alloc (.cells #[.string ⟨y.v.nm.toArray⟩,.string ⟨y.v.tx.toArray⟩,.bool y.v.ar,.slice y.A y.v.ls.length y.c] 210)):=(Below.refl _ _).alloc (Nat.le_refl _) _
 have hs1:=hb1.size;have hba:Below W.heap.size W (W1.alloc (.cells #[.string ⟨y.v.nm.toArray⟩,.string ⟨y.v.tx.toArray⟩,.bool y.v.ar,.slice y.A y.v.ls.length y.c] 210)):=hb1.trans (hal.mono hs1)
 have hrow:∀j,v.ownBlock=some j→N≤j∧∃cs,W.heap[j]?=some (.cells cs 210 (0,0)):=fun j e=>by
  rcases h2.2 with ⟨rfl,_⟩|⟨g',cap',cur,rfl,hN',hb,_⟩
  ·simp [Value.ownBlock] at e
  ·obtain rfl:g'=j:=by simpa [Value.ownBlock] using e
   exact⟨hN',_,hb⟩
 have keep:∀(k:Nat) (o:Obj),W.heap[k]?=some o→(∀cs,o≠.cells cs 210 (0,0))→w3.heap[k]?=some o:=fun k o hk hne=>by
  have hka:=qac hk hba;exact(hg.block k (lt_of_block hka) (fun e=>by
   obtain⟨_,cs,hcs⟩:=hrow k e.symm;rw [hk] at hcs;exact hne cs (Option.some.inj hcs))).trans hka
 have hN3:=keep N _ h1 (fun cs e=>by cases e)
 have hgN:gg≠N:=fun e=>by
  subst e;rcases hown3.2 with ⟨hv,_⟩|⟨g',cap',cur,hv,_,hb,_⟩
  ·cases hv
  ·cases hv;rw [hN3] at hb;cases hb
 have keep2:∀(k:Nat) (o:Obj),W.heap[k]?=some o→(∀cs,o≠.cells cs 210 (0,0))→k≠N→(w3.setCell ⟨N,0,none⟩ (.slice (some ⟨gg,0,none⟩) (ys.length+1) cap)).heap[k]?=some o:=fun k o hk hne hkN=>
  (Below.heap_setCell _ _ _ _ hkN).trans (keep k o hk hne)
 have hb3:Below N W w3:=(hba.mono hNW).grown hg (by have:=hba.size;omega) fun j e=>(hrow j e).1
 have hb4:Below N W (w3.setCell ⟨N,0,none⟩ (.slice (some ⟨gg,0,none⟩) (ys.length+1) cap)):=hb3.setCell (p:=⟨N,0,none⟩) (Nat.le_refl _) _
 refine⟨hN3,⟨hb4.size,fun k o hk hc=>keep2 k o hk (fun cs e=>by subst e;cases hc) (fun e=>by subst e;rw [h1] at hk;cases hk;cases hc)⟩,⟨hb4.mono hn₀N,fun k o hk hf=>keep2 k o hk (fun cs e=>by subst e;cases hf) (fun e=>by subst e;rw [h1] at hk;cases hk;cases hf)⟩,⟨_,ys++[y],one_setCell hN3,?_,by simp [h3,hyv],?_⟩,hB.trans hb4⟩
 ·have:(ys++[y]).flatMap qaq=ys.flatMap qaq++qaq y:=by simp
  rw [this,List.length_append];exact qij hown3 fun g hgv=>by
   obtain rfl:gg=g:=by simpa [Value.ownBlock] using hgv
   exact Below.heap_setCell _ _ _ _ hgN
 ·intro u hu
  rcases List.mem_append.1 hu with hu|hu
  ·exact(h4 u hu).cells fun k cs hk=>keep2 k _ hk (fun cs' e=>by cases e) (fun e=>by subst e;rw [h1] at hk;cases hk)
  ·obtain rfl:u=y:=by simpa using hu
   have h5:qdh W1 (PS W1 N) u:=hyI.frame fun g _ hp=>⟨⟨by have:=hp.1;omega,hp.2⟩,rfl⟩
   refine h5.cells fun k cs hk=>?_
   have hka:=qac hk hal;have hne:k≠N:=fun e=>by subst e;have:=(hb1.block k (lt_of_block h1)).trans h1;rw [hk] at this;cases this
   refine(Below.heap_setCell _ _ _ _ hne).trans ((hg.block k (lt_of_block hka) fun e=>?_).trans hka)
   obtain⟨_,cs',hcs⟩:=hrow k e.symm;have:=(hb1.block k (lt_of_block hcs)).trans hcs
   rw [hk] at this;cases this
theorem qi6 (gf:Nat) (lb:Array Value) (eg:∀args w,(callFunc gf args).run prog w=.ok (.enter gf args) w) (w:World) (l:List (Itm w)) (N:Nat) (hN:N*64≤140737488355328)
  (hseq:qx9 Fence.wide 8 prog gf lb (fun x:Itm w=>qpr x.1) (KpC w.heap.size) (fun xs=>xs=l) N w):
  Calls prog 238 #[.func (.func gf) #[] lb] w fun e w'=>∃A c ys,e=.returned (.slice A ys.length c)∧qbN w' (fun g=>w.heap.size≤g) A ys∧ys.map (·.v)=l.map (·.1.v)∧Below w.heap.size w w':=by
 obtain⟨i0,hi,hz0,hz1,hz2⟩:=info_parts qoe;refine(callsIn_wide (n:=9)).1 ?_
 refine callsIn_of_wp_marks func238 rfl trivial ?_ rfl
 simp only [ntmps238,List.size_toArray,List.length_cons,List.length_nil,Nat.reduceAdd,Nat.reduceSub,Array.replicate_succ,Array.replicate_zero,List.push_toArray,List.append_toArray,List.nil_append,List.cons_append]
 gi_wp2
 have hB0:Below w.heap.size w (w.alloc (.cells #[.slice none 0 0] 206)):=(Below.refl _ _).alloc (Nat.le_refl _) _
 have hs0:(w.alloc (.cells #[.slice none 0 0] 206)).heap.size=w.heap.size+1:=by simp
 have hR0:qyn w.heap.size w.heap.size [] (w.alloc (.cells #[.slice none 0 0] 206)):=⟨_,[],heap_alloc_new _ _,World.ownsRow_nil _ _ _ _,rfl,fun y hy=>by cases hy⟩
 obtain⟨W0,hW0⟩:=qQ (w.alloc (.cells #[.slice none 0 0] 206))
 rw [hW0] at hB0 hs0 hR0 ⊢;clear hW0;refine qxu rfl (by omega) (gf:=gf) (lb:=lb) rfl trivial eg hseq (fun h k=>KpC.t h k) (KpC.b (by omega)) hB0 rfl
  (fun pre W=>qyn w.heap.size w.heap.size (pre.map (·.1.v)) W∧Below w.heap.size w W)
  (qnM.and (qvq _ _ _) (qqd (Nat.le_refl _) (by omega))) ⟨hR0,hB0⟩
  (fun _pre x a' W=>∃Bv,W.heap[Bv]?=some (.cells #[.string ⟨x.1.v.nm.toArray⟩,.string ⟨x.1.v.tx.toArray⟩,.bool x.1.v.ar,.slice x.1.A x.1.v.ls.length x.1.c] 210 (0,0))∧a'={ tmps:=#[.func (.func gf) #[] lb,undef,.slice none 0 0,.pointer (some ⟨w.heap.size,0,none⟩),.pointer (some ⟨Bv,0,none⟩),.func (.func gf) #[] lb,qpr x.1,undef,undef,undef,undef,undef,undef],defers:=[] })
  (fun _pre x a' _ X Y row hs hg hr=>by obtain⟨Bv,h1,h2⟩:=hs;exact⟨Bv,qfv hg (fun r e=>(hr r e).2) h1 rfl,h2⟩)
  ?assign ?body ?done
 case assign=>
  rintro lp pre x W K⟨hR,hB⟩ hK;have hal:Below W.heap.size W (W.alloc (.cells #[.string ⟨x.1.v.nm.toArray⟩,.string ⟨x.1.v.tx.toArray⟩,.bool x.1.v.ar,.slice x.1.A x.1.v.ls.length x.1.c] 210)):=(Below.refl _ _).alloc (Nat.le_refl _) _
  gi_wp2
  refine hK _ _ ((KeepsOthers.alloc _ _).from _) (KpC.of_below hal hB.size) ⟨?_,qT hB hal⟩ ⟨W.heap.size,heap_alloc_new _ _,rfl⟩
  obtain⟨v,ys,h1,h2,h3,h4⟩:=hR;exact⟨v,ys,qac h1 hal,own_below h2 hal,h3,fun y hy=>(h4 y hy).cells fun k cs hk=>qac hk hal⟩
 case body=>
  rintro lp pre x a' W⟨⟨v,ys,h1,h2,h3,h4⟩,hB⟩⟨Bv,hBv,rfl⟩ hlt;have hNW:w.heap.size≤W.heap.size:=hB.size
  have hlen:ys.length≤pre.length:=by
   have:=congrArg List.length h3
   simp at this
   omega
  have hx:qdh W (fun _=>True) x.1:=x.2.frame fun g hg _=>⟨trivial,hB.block g hg⟩
  have hxd:qdh W.drew (fun _=>True) x.1:=hx.below ((Below.refl _ _).drew)
  have fin:∀(W1:World) (y:VI),y.v=x.1.v→qdh W1 (PS W1 W.drew.heap.size) y→Below W.drew.heap.size W.drew W1→∀gg cap w3,w3.ownsRow w.heap.size 210 4 (.slice (some ⟨gg,0,none⟩) (ys.length+1) cap) (ys.length+1) (ys.flatMap qaq++qaq y)→
    (W1.alloc (.cells #[.string ⟨y.v.nm.toArray⟩,.string ⟨y.v.tx.toArray⟩,.bool y.v.ar,.slice y.A y.v.ls.length y.c] 210)).grownBy w3 v.ownBlock→
    w3.heap[w.heap.size]?=some (.cells #[v] 206 (0,0))∧(KeepsFrom W0.heap.size W (w3.setCell ⟨w.heap.size,0,none⟩ (.slice (some ⟨gg,0,none⟩) (ys.length+1) cap))∧KpC w.heap.size W (w3.setCell ⟨w.heap.size,0,none⟩ (.slice (some ⟨gg,0,none⟩) (ys.length+1) cap))∧
     qyn w.heap.size w.heap.size ((pre++[x]).map (·.1.v)) (w3.setCell ⟨w.heap.size,0,none⟩ (.slice (some ⟨gg,0,none⟩) (ys.length+1) cap))∧Below w.heap.size w (w3.setCell ⟨w.heap.size,0,none⟩ (.slice (some ⟨gg,0,none⟩) (ys.length+1) cap))):=fun W1 y hyv hyI hb1 gg cap w3 hown3 hg=>by
   obtain⟨r1,r2,r3,r4,r5⟩:=qsZ (W:=W) (n₀:=w.heap.size) hNW (Nat.le_refl _) hB h1 h2 h3 h4 hyv hyI ((Below.refl _ W).drew.trans hb1) hown3 hg
   exact⟨r1,r2.from _,r3,by rw [List.map_append];exact r4,r5⟩
  have n0:W.drew.cell? ⟨w.heap.size,0,none⟩=some v:=cell_of_one (w:=W) h1
  have hX4:qaF W.drew Bv _ _ _ _:=hBv
  have b0:=hX4.a0;have b1:=hX4.a1;have b2:=hX4.a2;have b3:=hX4.a3
  clear hX4 hx h3 h4
  gi_wp2
  refine qcZ lp 7 (by kernel_rfl) ?hnd ?hQ (fun _=>True) ?_
  case hnd=>
   intro o ho c e
   simp only [List.mem_toArray,List.mem_cons,List.not_mem_nil,or_false] at ho
   rcases ho with rfl|rfl|rfl|rfl|rfl|rfl<;>cases e
  case hQ=>
   rintro⟨a9,w9,h9⟩
   exact h9
  -- BODY
  refine wpAnyH_ready (rs:=[0,1]) (by kernel_rfl) (by simp) (AllReadyH.cons rfl (fun K hK=>?_) (AllReadyH.cons rfl (fun K hK=>?_) AllReadyH.nil))
  ·go_simp
   refine qaE hK trivial ?_
   clear hK K;refine qae 1 rfl fun K hK=>?_
   go_simp;refine qaE hK trivial ?_
   clear hK K;refine qae 2 rfl fun K hK=>?_
   go_simp;go_at_call 267
   refine(qcJ x.1 _ hxd).mono ?_;rintro e W1⟨y,rfl,hyv,hyI,hb1⟩;have HYV:=hid hyv;clear hyv;have hN1:W1.heap[w.heap.size]?=some (.cells #[v] 206 (0,0)):=(hb1.block _ (lt_of_block h1)).trans h1
   have n1:=cell_of_one hN1;have n2:=cell_of_one (qac hN1 ((Below.refl _ W1).alloc (Nat.le_refl _) (.cells #[.string ⟨y.v.nm.toArray⟩,.string ⟨y.v.tx.toArray⟩,.bool y.v.ar,.slice y.A y.v.ls.length y.c] 210)))
   have ho1:=own_below (w:=W.drew) h2 hb1
   go_wp2_with fail;refine qaE hK trivial ?_
   clear hK K;refine qae 3 rfl fun K hK=>?_
   go_simp;refine qaE hK trivial ?_
   clear hK K;refine qae 4 rfl fun K hK=>?_
   refine step_append_lies _ (by rfl) _ _ _ (by rfl) w.heap.size 210 i0 _ 4 64 underlying206 hi hz0 hz1 hz2 rfl (by omega) v ys.length (ys.flatMap qaq) (by rfl) (ho1.alloc _) ⟨W1.heap.size,0,none⟩ 1 1 (qaq y) (by rfl) (by rfl) (World.news_of_block (cs:=#[.string ⟨y.v.nm.toArray⟩,.string ⟨y.v.tx.toArray⟩,.bool y.v.ar,.slice y.A y.v.ls.length y.c]) (t:=210) (fr:=(0,0)) (heap_alloc_new W1 _)) (by simp [qaq,Value.oneCell']) (by omega) (by unfold maxLen;omega) (by omega) (by have:=hb1.size;have:=hB.size;have:W.heap.size≤W1.heap.size:=hb1.size;simp;omega) (W1.heap.size+1) (by simp) ?_
   intro gg cap w3 hown3 hg hat hlt3
   have hf:=fin W1 y HYV.out hyI hb1 gg cap w3 hown3 hg;have hN3:=hf.1;have n3:=cell_of_one hN3;have f3:=free_of_one hN3
   change K (Act.put _ (some 11) _) _
   refine qaE hK trivial ?_
   clear hK K;refine qae 5 rfl fun K hK=>?_
   go_simp;refine qaE hK trivial ?_
   clear hK K;refine wpAnyH_done (by kernel_rfl) ?_ _
   exact hf.2
  ·go_simp
   refine qaE hK trivial ?_
   clear hK K;refine wpAnyH_ready (rs:=[0,2]) (by kernel_rfl) (by simp) (AllReadyH.cons rfl (fun K hK=>?_) (AllReadyH.cons rfl (fun K hK=>?_) AllReadyH.nil))
   ·go_simp
    refine qaE hK trivial ?_
    clear hK K;refine qae 2 rfl fun K hK=>?_
    go_simp;go_at_call 267
    refine(qcJ x.1 _ hxd).mono ?_;rintro e W1⟨y,rfl,hyv,hyI,hb1⟩;have HYV:=hid hyv;clear hyv;have hN1:W1.heap[w.heap.size]?=some (.cells #[v] 206 (0,0)):=(hb1.block _ (lt_of_block h1)).trans h1
    have n1:=cell_of_one hN1;have n2:=cell_of_one (qac hN1 ((Below.refl _ W1).alloc (Nat.le_refl _) (.cells #[.string ⟨y.v.nm.toArray⟩,.string ⟨y.v.tx.toArray⟩,.bool y.v.ar,.slice y.A y.v.ls.length y.c] 210)))
    have ho1:=own_below (w:=W.drew) h2 hb1
    go_wp2_with fail;refine qaE hK trivial ?_
    clear hK K;refine qae 3 rfl fun K hK=>?_
    go_simp;refine qaE hK trivial ?_
    clear hK K;refine qae 4 rfl fun K hK=>?_
    refine step_append_lies _ (by rfl) _ _ _ (by rfl) w.heap.size 210 i0 _ 4 64 underlying206 hi hz0 hz1 hz2 rfl (by omega) v ys.length (ys.flatMap qaq) (by rfl) (ho1.alloc _) ⟨W1.heap.size,0,none⟩ 1 1 (qaq y) (by rfl) (by rfl) (World.news_of_block (cs:=#[.string ⟨y.v.nm.toArray⟩,.string ⟨y.v.tx.toArray⟩,.bool y.v.ar,.slice y.A y.v.ls.length y.c]) (t:=210) (fr:=(0,0)) (heap_alloc_new W1 _)) (by simp [qaq,Value.oneCell']) (by omega) (by unfold maxLen;omega) (by omega) (by have:=hb1.size;have:=hB.size;have:W.heap.size≤W1.heap.size:=hb1.size;simp;omega) (W1.heap.size+1) (by simp) ?_
    intro gg cap w3 hown3 hg hat hlt3
    have hf:=fin W1 y HYV.out hyI hb1 gg cap w3 hown3 hg;have hN3:=hf.1;have n3:=cell_of_one hN3;have f3:=free_of_one hN3
    change K (Act.put _ (some 11) _) _
    refine qaE hK trivial ?_
    clear hK K;refine qae 5 rfl fun K hK=>?_
    go_simp;refine qaE hK trivial ?_
    clear hK K;refine wpAnyH_done (by kernel_rfl) ?_ _
    exact hf.2
   ·go_simp
    go_at_call 267
    refine(qcJ x.1 _ hxd).mono ?_;rintro e W1⟨y,rfl,hyv,hyI,hb1⟩;have HYV:=hid hyv;clear hyv;have hN1:W1.heap[w.heap.size]?=some (.cells #[v] 206 (0,0)):=(hb1.block _ (lt_of_block h1)).trans h1
    have n1:=cell_of_one hN1;have n2:=cell_of_one (qac hN1 ((Below.refl _ W1).alloc (Nat.le_refl _) (.cells #[.string ⟨y.v.nm.toArray⟩,.string ⟨y.v.tx.toArray⟩,.bool y.v.ar,.slice y.A y.v.ls.length y.c] 210)))
    have ho1:=own_below (w:=W.drew) h2 hb1
    go_wp2_with fail;refine qaE hK trivial ?_
    clear hK K;refine wpAnyH_ready (rs:=[0,3]) (by kernel_rfl) (by simp) (AllReadyH.cons rfl (fun K hK=>?_) (AllReadyH.cons rfl (fun K hK=>?_) AllReadyH.nil))
    ·go_simp
     refine qaE hK trivial ?_
     clear hK K;refine qae 3 rfl fun K hK=>?_
     go_simp;refine qaE hK trivial ?_
     clear hK K;refine qae 4 rfl fun K hK=>?_
     refine step_append_lies _ (by rfl) _ _ _ (by rfl) w.heap.size 210 i0 _ 4 64 underlying206 hi hz0 hz1 hz2 rfl (by omega) v ys.length (ys.flatMap qaq) (by rfl) (ho1.alloc _) ⟨W1.heap.size,0,none⟩ 1 1 (qaq y) (by rfl) (by rfl) (World.news_of_block (cs:=#[.string ⟨y.v.nm.toArray⟩,.string ⟨y.v.tx.toArray⟩,.bool y.v.ar,.slice y.A y.v.ls.length y.c]) (t:=210) (fr:=(0,0)) (heap_alloc_new W1 _)) (by simp [qaq,Value.oneCell']) (by omega) (by unfold maxLen;omega) (by omega) (by have:=hb1.size;have:=hB.size;have:W.heap.size≤W1.heap.size:=hb1.size;simp;omega) (W1.heap.size+1) (by simp) ?_
     intro gg cap w3 hown3 hg hat hlt3
     have hf:=fin W1 y HYV.out hyI hb1 gg cap w3 hown3 hg;have hN3:=hf.1;have n3:=cell_of_one hN3;have f3:=free_of_one hN3
     change K (Act.put _ (some 11) _) _
     refine qaE hK trivial ?_
     clear hK K;refine qae 5 rfl fun K hK=>?_
     go_simp;refine qaE hK trivial ?_
     clear hK K;refine wpAnyH_done (by kernel_rfl) ?_ _
     exact hf.2
    ·go_simp
     refine qaE hK trivial ?_
     clear hK K;refine qae 0 rfl fun K hK=>?_
     go_simp;refine qaE hK trivial ?_
     clear hK K;refine qae 4 rfl fun K hK=>?_
     refine step_append_lies _ (by rfl) _ _ _ (by rfl) w.heap.size 210 i0 _ 4 64 underlying206 hi hz0 hz1 hz2 rfl (by omega) v ys.length (ys.flatMap qaq) (by rfl) (ho1.alloc _) ⟨W1.heap.size,0,none⟩ 1 1 (qaq y) (by rfl) (by rfl) (World.news_of_block (cs:=#[.string ⟨y.v.nm.toArray⟩,.string ⟨y.v.tx.toArray⟩,.bool y.v.ar,.slice y.A y.v.ls.length y.c]) (t:=210) (fr:=(0,0)) (heap_alloc_new W1 _)) (by simp [qaq,Value.oneCell']) (by omega) (by unfold maxLen;omega) (by omega) (by have:=hb1.size;have:=hB.size;have:W.heap.size≤W1.heap.size:=hb1.size;simp;omega) (W1.heap.size+1) (by simp) ?_
     intro gg cap w3 hown3 hg hat hlt3
     have hf:=fin W1 y HYV.out hyI hb1 gg cap w3 hown3 hg;have hN3:=hf.1;have n3:=cell_of_one hN3;have f3:=free_of_one hN3
     change K (Act.put _ (some 11) _) _
     refine qaE hK trivial ?_
     clear hK K;refine qae 5 rfl fun K hK=>?_
     go_simp;refine qaE hK trivial ?_
     clear hK K;refine wpAnyH_done (by kernel_rfl) ?_ _
     exact hf.2
  -- ENDBODY
 case done=>
  rintro xs W rfl⟨⟨v,ys,h1,h2,h3,h4⟩,hB⟩ hK;obtain⟨ao,n',cap,rfl⟩:=qcp h2;have hn':n'=ys.length:=by
   rcases h2.2 with ⟨hv,h0⟩|⟨g',cap',cur,hv,_⟩
   ·cases hv;omega
   ·cases hv;rfl
  subst hn';have c1:=cell_of_one h1;have H3:=hid h3;clear h3
  gi_wp2
  refine⟨by simp,.inl ⟨_,_,rfl,run_takeDeferred hK,?_⟩⟩
  have hput:W.grownBy (W.putObj W0.heap.size (.deferred none)) (some W0.heap.size):=grownBy_putObj' W _ _
  have hnc:∀r,some W0.heap.size=some r→∃o:Obj,W.heap[r]?=some o∧o.isCells=false:=fun r e=>by cases e;exact⟨_,hK,rfl⟩
  refine⟨_,results_tmp rfl _ _ _,ao,cap,ys,rfl,?_,H3.out,hB.trans (belowK_b (w:=w) (Nat.le_refl _) W _ _ _ (by omega) hK rfl rfl)⟩
  exact qiH (qij h2 fun g hgv=>by
   rcases h2.2 with ⟨hv,_⟩|⟨g',cap',cur,hv,_,hb,_⟩
   ·obtain rfl:ao=none:=by injection hv
    simp [Value.ownBlock] at hgv
   ·obtain rfl:ao=some ⟨g',0,none⟩:=by injection hv
    obtain rfl:g'=g:=by simpa [Value.ownBlock] using hgv
    exact(qnR hput hnc hb).trans hb.symm) (fun y hy=>(h4 y hy).cells fun k cs hk=>qnR hput hnc hk)
end Go.Proofs.YtpodopnmkjinhaaGreatDoor.Cal
