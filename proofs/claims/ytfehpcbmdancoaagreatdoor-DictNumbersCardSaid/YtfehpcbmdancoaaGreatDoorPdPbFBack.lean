/- slices.Backward over pairs: an iterator from the last one to the first, by its contract. -/
import Derived.RangeFuncBox
import Derived.Shelf.Abstract
import Derived.Shelf.RegionOpen
import Derived.OwnWalkIn
import Derived.TacticsInMore
import Derived.LoopNIn
import Derived.LoopIn
import Derived.Maps.RangeWalk
import Derived.Maps.Ext
import Derived.Maps.OwnIn
import Derived.DeepKeys4
import Derived.Sort.CutIn
import Derived.Deep.DeepCutAuto
import Derived.Deep.CutRange
import Derived.Deep.RegionHeld3
import Derived.Test.YtfehpcbmdancoaaGreatDoorPdPbNPlain
import Derived.Test.YtfehpcbmdancoaaGreatDoorPdPbSGives
set_option maxRecDepth 100000
set_option maxHeartbeats 4000000
namespace Go.Proofs.YtfehpcbmdancoaaGreatDoor.Fo
open Go Go.RowKit Go.Lib Go.Shelf
attribute [local go_sem] Oper.semAt_some alloc_set
def downE (ps:List (Int×Int)):Nat→List (Nat×(Int×Int))
 | 0=>[]
 | k+1=>(k,ps.getD k (0,0))::downE ps k
def pEnc (x:Nat×(Int×Int)):Array Value:=#[.int .i64 x.1,.agg #[.int .i64 x.2.1,.int .i64 x.2.2]]
theorem fpairs_open {w:World}{A:Option Addr}{n cap:Nat}{ps:List (Int×Int)}(h:PairsAt w (.slice A n cap) ps):∀(k:Nat) p,ps[k]?=some p→∃b off,A=some ⟨b,off,none⟩∧b<w.heap.size∧n≤cap∧w.cell? ⟨b,off+k*2,none⟩=some (.int .i64 p.1)∧w.cell? ⟨b,off+k*2+1,none⟩=some (.int .i64 p.2):=by
 intro k e hk;rcases h with ⟨rfl,_⟩|⟨b,off,c,e',h1,h2,h3,h4⟩
 ·simp at hk
 ·injection e' with e1 e2 e3;subst e1 e2 e3;exact⟨b,off,rfl,h1,h2,h4 k e hk⟩
theorem pairs_form {w:World}{v:Value}{ps:List (Int×Int)}(h:PairsAt w v ps):∃A cap,v= .slice A ps.length cap:=by
 rcases h with ⟨rfl,a,c,e⟩|⟨b,off,c,e,_⟩
 ·exact⟨a,c,e⟩
 ·exact⟨_,c,e⟩
theorem cell_blk {w w':World}{b:Nat}(h:w'.heap[b]?=w.heap[b]?)(o:Nat):w'.cell? ⟨b,o,none⟩=w.cell? ⟨b,o,none⟩:=by
 unfold World.cell?;dsimp only;rw[h]
theorem back_gives (A:Option Addr)(cap:Nat)(ps:List (Int×Int))(hlen:ps.length≤1000000)(B:Nat)(R:Nat→Prop)(W:World)(hB:Boxed W B 38 (.slice A ps.length cap))(hP:PairsAt W (.slice A ps.length cap) ps)(hRB:R B)(hRA:∀b off,ps≠[]→A=some ⟨b,off,none⟩→R b):
  Gives Tryz.prog 186 #[.pointer (some ⟨B,0,none⟩)] pEnc (downE ps ps.length) R W:=by
 intro l J hJ hY hJ0;have HO:=hid (fpairs_open hP);have HP:=hid hP;have HR:=hid (And.intro hRB hRA);obtain⟨n,hn⟩:∃n,n=ps.length:=⟨_,rfl⟩;rw[←hn]at hB hlen HO⊢;have HN:=hid hn;have hcell:=hB.cell;have HB:=hid hB;have HY:=hid hY;rw[←hn]at HY;have HJ:=hid hJ;have HJ0:=hid hJ0;clear hB hP hRB hRA hn hY hJ hJ0;refine(callsIn_wide (n:=1)).1 ?_;refine callsIn_of_wp Tryz.func186 rfl trivial ?_ rfl;simp only[Tryz.ntmps186,List.size_toArray,List.length_cons,List.length_nil,Nat.reduceAdd,Nat.reduceSub,Array.replicate_succ,Array.replicate_zero,List.push_toArray,List.append_toArray,List.nil_append,List.cons_append];gi_wp2
 gi_loopw [3] (fun v wr=>∃(k:Nat) (i:Int) (pre:List (Nat×(Int×Int))) (T:Nat→Prop),v= .int .i64 i∧k≤n∧Hid (i=(k:Int)-1∧downE ps n=pre++downE ps k∧J T pre wr∧KeepsAt R W wr))
  (fun v _=>(RowKit.intOf v+1).toNat)
 case atStart=>exact⟨n,_,[],_,rfl,Nat.le_refl _,hid ⟨by go_num,by simp,HJ0.out,KeepsAt.refl _ _⟩⟩
 case round=>
  obtain⟨k,i,pre,T,rfl,hkn,HQ⟩:=hrel;clear hcell;have hbk:=HQ.out.2.2.2.block B HB.out.lt HR.out.1;have hcell:wr.cell? ⟨B,0,none⟩=some (.slice A n cap):=(cell_blk hbk 0).trans HB.out.cell;clear hbk;rcases k with _|m
  ·obtain rfl:i= -1:=by have:=HQ.out.1;omega
   gi_wp2
   go_end0
   refine⟨⟨_,rfl⟩,T,?_⟩;have h:=HQ.out.2.1;rw[show downE ps 0=[]from rfl,List.append_nil]at h;rw[h];exact HQ.out.2.2.1
  ·obtain rfl:i=(m:Int):=by have:=HQ.out.1;omega
   obtain⟨p,hp⟩:∃p,ps[m]?=some p:=⟨ps[m]'(by have:=HN.out;omega),List.getElem?_eq_getElem _⟩;have hpg:ps.getD m (0,0)=p:=by simp[List.getD,hp]
   obtain⟨b,off,rfl,hbw,hnc,c0,c1⟩:=HO.out m p hp;have hbb:=HQ.out.2.2.2.block b hbw (HR.out.2 b off (by rintro rfl;simp at hp) rfl);have d0:=(cell_blk hbb (off+m*2)).trans c0;have d1:=(cell_blk hbb (off+m*2+1)).trans c1;have hx:downE ps n=(pre++[(m,p)])++downE ps m:=by
    rw[HQ.out.2.1,show downE ps (m+1)=(m,ps.getD m (0,0))::downE ps m from rfl,hpg];simp
   have HX:=hid hx;obtain⟨fn,tmps,assign,body,hy,hR⟩:=HY.out T pre (m,p) wr ⟨_,hx.symm⟩ HQ.out.2.2.1;simp only[pEnc]at hy;have HRR:=hid hR;clear hR hx hpg hp c0 c1 hbb;gi_wp2;refine HRR.out.mono ?_;rintro e w3 ⟨rfl,hj3,hk3⟩;have HK:=hid (show downE ps n=(pre++[(m,p)])++downE ps m∧J T (pre++[(m,p)]) w3∧KeepsAt R W w3 from ⟨HX.out,hj3,HQ.out.2.2.2.trans (hk3.mono fun k hk=> .inl hk)⟩);clear hj3 hk3;gi_wp2
   go_roundw
   case rel=>exact⟨m,(m:Int)-1,_,T,by go_num,by omega,hid ⟨rfl,HK.out⟩⟩
   case measure=>dsimp only[RowKit.intOf];omega
end Go.Proofs.YtfehpcbmdancoaaGreatDoor.Fo
namespace Go.Proofs.YtfehpcbmdancoaaGreatDoor.Fo
open Go Go.RowKit Go.Lib Go.Shelf Go.Maps
attribute [local go_sem] Oper.semAt_some alloc_set
def I64 (f:Int):Prop:= -9223372036854775808≤f∧f≤9223372036854775807
theorem keyed_int:Keyed Tryz.prog 3:=int_keyed Tryz.underlying3
theorem wf_i {f:Int}(h:I64 f):(Lit.int .i64 f).wf=true:=WalkArith.wf_i64 h
theorem key_int {f:Int}(h:I64 f):keyOf Tryz.prog 3 (.int .i64 f)=some (.int .i64 f):=keyOf_int_mk Tryz.underlying3 (wf_i h)
theorem zero_int (w:World):(zeroValue 3).run Tryz.prog w= .ok (.int .i64 0) w:=by kernel_rfl
structure LetM (w:World)(b k:Nat)(f:Int→Option Int):Prop where
 own:∃D:DataW Unit,w.ownsMap Tryz.prog 3 (plainElem Tryz.prog 3) b k D∧∀c,Maps.has D (.int .i64 c)=(f c).isSome∧∀d,f c=some d→D.atKey (.int .i64 c) (.lit (.int .i64 0))= .lit (.int .i64 d)
theorem LetM.lt {w:World}{b k:Nat}{f:Int→Option Int}(h:LetM w b k f):b<w.heap.size:=by
 obtain⟨D,h1,_⟩:=h.own;exact h1.lt
theorem LetM.same {w w':World}{b k:Nat}{f:Int→Option Int}(h:LetM w b k f)(hb:w'.heap[b]?=w.heap[b]?):LetM w' b k f:=by
 obtain⟨D,⟨es,clock,h1,h2⟩,h3⟩:=h.own;exact⟨D,⟨es,clock,hb.trans h1,h2⟩,h3⟩
theorem LetM.keep {w w':World}{b k:Nat}{f:Int→Option Int}(h:LetM w b k f)(hb:Below w.heap.size w w'):LetM w' b k f:=h.same (hb.block b h.lt)
theorem LetM.made {w:World}{b:Nat}(hb:w.heap[b]?=some (.map #[] 0)):LetM w b 0 (fun _=>none):=by
 refine⟨.map [],?_,fun c=>⟨by simp[Maps.has],fun d h=>by cases h⟩⟩;have:=World.ownsMap_made (H:=Unit) w Tryz.prog 3 (plainElem Tryz.prog 3);obtain⟨es,clock,h1,h2⟩:=this;have h3:=(World.alloc_heap_new w (.map #[] 0)).symm.trans h1;exact⟨es,clock,hb.trans h3,h2⟩
theorem LetM.put {w:World}{b k:Nat}{f:Int→Option Int}(h:LetM w b k f){c d:Int}(hc:I64 c)(hd:I64 d)(hk:k<maxLen):
  ∃w',(Instr.mapUpdate 131 (.map (some b)) (.int .i64 c) (.int .i64 d)).run Tryz.prog w= .ok () w'∧LetM w' b (k+1) (fun x=>if x=c then some d else f x)∧w.grownBy w' (some b):=by
 obtain⟨D,h1,h2⟩:=h.own;obtain⟨w',hr,ho,hg⟩:=h1.update keyed_int Tryz.underlying131 hk (key_int hc) (plainElem_int Tryz.underlying3 (wf_i hd));refine⟨w',hr,⟨_,ho,fun x=>?_⟩,hg⟩;by_cases e:x=c
 ·subst e;simp only[if_true];refine⟨has_put_same h1.isMap (by unfold WideAt.IsKeyLit;trivial) _,fun y hy=>?_⟩;rw[atKey_put_same h1.isMap (by unfold WideAt.IsKeyLit;trivial)];cases hy;rfl
 ·have hne:Lit.int .i64 x≠.int .i64 c:=fun hh=>e (by injection hh);simp only[if_neg e];rw[has_put_other hne];exact⟨(h2 x).1,fun y hy=>by rw[atKey_put_other hne];exact(h2 x).2 y hy⟩
theorem LetM.look {w:World}{b k:Nat}{f:Int→Option Int}(h:LetM w b k f){c:Int}(hc:I64 c):
  ∃x,(Instr.lookup 131 (.map (some b)) (.int .i64 c) true).run Tryz.prog w= .ok (.tuple #[.int .i64 x,.bool (f c).isSome]) w∧∀d,f c=some d→x=d:=by
 obtain⟨D,h1,h2⟩:=h.own;obtain⟨v,ps,hr,hv⟩:=h1.look_ok keyed_int Tryz.underlying131 (zero_int w) (plainElem_int Tryz.underlying3 (by decide)) (key_int hc);obtain⟨x,rfl,hx,_⟩:=plainElem_int_inv Tryz.underlying3 hv;refine⟨x,by rw[hr,(h2 c).1],fun d hd=>?_⟩;have:=(h2 c).2 d hd;rw[this]at hx;simp at hx;exact hx.1.symm
def sml (ps:List (Int×Int))(c:Int):Option Int:=(ps.find? fun p=>decide (p.1=c)).map fun p=>p.2
def grt (ps:List (Int×Int))(c:Int):Option Int:=(ps.find? fun p=>decide (p.2=c)).map fun p=>p.1
theorem sml_cons (p:Int×Int)(ps:List (Int×Int))(c:Int):sml (p::ps) c=if c=p.1 then some p.2 else sml ps c:=by
 unfold sml;by_cases h:p.1=c
 ·subst h;simp
 ·rw[List.find?_cons_of_neg (by simpa using h),if_neg (fun e=>h e.symm)]
theorem grt_cons (p:Int×Int)(ps:List (Int×Int))(c:Int):grt (p::ps) c=if c=p.2 then some p.1 else grt ps c:=by
 unfold grt;by_cases h:p.2=c
 ·subst h;simp
 ·rw[List.find?_cons_of_neg (by simpa using h),if_neg (fun e=>h e.symm)]
theorem smC_sml (ps:List (Int×Int))(c:Int):smC ps c=match sml ps c with
 | some d=>some d
 | none=>if 65≤c∧c≤90 then some (c-65+97)else none:=by
 unfold smC sml;cases ps.find? fun p=>decide (p.1=c)<;>rfl
theorem grC_grt (ps:List (Int×Int))(c:Int):grC ps c=match grt ps c with
 | some d=>some d
 | none=>if 97≤c∧c≤122 then some (c-97+65)else none:=by
 unfold grC grt;cases ps.find? fun p=>decide (p.2=c)<;>rfl
def cameP (pre:List (Nat×(Int×Int))):List (Int×Int):=pre.reverse.map (·.2)
theorem cameP_snoc (pre:List (Nat×(Int×Int)))(x:Nat×(Int×Int)):cameP (pre++[x])=x.2::cameP pre:=by simp[cameP]
theorem cameP_all (ps:List (Int×Int)):∀k,k≤ps.length→cameP (downE ps k)=ps.take k
 | 0,_=>by simp[cameP,downE]
 | k+1,h=>by
   have ih:=cameP_all ps k (by omega);have hk:ps[k]?=some (ps[k]'(by omega)):=List.getElem?_eq_getElem _;rw[List.take_add_one,hk,←ih];unfold cameP;simp[downE,List.getD,hk]
theorem downE_mem (ps:List (Int×Int)):∀k,k≤ps.length→∀x∈downE ps k,x.2∈ps
 | 0,_,x,h=>by cases h
 | k+1,hk,x,h=>by
   rcases List.mem_cons.1 h with rfl|h
   ·have:ps[k]?=some (ps[k]'(by omega)):=List.getElem?_eq_getElem _;simp[List.getD,this]
   ·exact downE_mem ps k (by omega) x h
theorem downE_len (ps:List (Int×Int)):∀k,(downE ps k).length=k
 | 0=>rfl
 | k+1=>by simp[downE,downE_len ps k]
structure TwoM (w:World)(a b k:Nat)(ps:List (Int×Int)):Prop where
 small:LetM w a k (sml ps)
 great:LetM w b k (grt ps)
theorem TwoM.keep {w w':World}{a b k:Nat}{ps:List (Int×Int)}(h:TwoM w a b k ps)(hb:Below w.heap.size w w'):TwoM w' a b k ps:=⟨h.small.keep hb,h.great.keep hb⟩
def smV (ps:List (Int×Int))(c:Int):Int:=match smC ps c with
 | some d=>d
 | none=>c-65+97
def grV (ps:List (Int×Int))(c:Int):Int:=match grC ps c with
 | some d=>d
 | none=>c-97+65
theorem box2v {w:World}{a b:Value}{t:TypeId}:(w.alloc (.cells #[a,b] t)).cell? ⟨w.heap.size,0,none⟩=some a∧(w.alloc (.cells #[a,b] t)).cell? ⟨w.heap.size,1,none⟩=some b:=box2 (Below.refl _ _)
theorem psmall_any (w:World)(a b k:Nat)(ps:List (Int×Int))(c:Int)(h:TwoM w a b k ps)(hc: -1000000000000≤c∧c≤1000000000000):
  Calls Tryz.prog 83 #[.agg #[.map (some a),.map (some b)],.int .i64 c] w fun e w'=>e= .returned (.tuple #[.int .i64 (smV ps c),.bool (smC ps c).isSome])∧Below w.heap.size w w':=by
 have hm:=h.small.keep ((Below.refl w.heap.size w).alloc (Nat.le_refl _) (.cells #[.map (some a),.map (some b)] 133));obtain⟨x,hl,hx⟩:=hm.look (c:=c) ⟨by omega,by omega⟩;have hbx:=(box2v (w:=w) (a:= .map (some a)) (b:= .map (some b)) (t:=133)).1;clear h hm;unfold smV;rw[smC_sml];cases hs:sml ps c with
 | some d=>
   obtain rfl:=hx d hs;rw[hs]at hl;dsimp only[Option.isSome]at hl⊢;clear hx hs;go_enter Tryz.func83,Tryz.ntmps83;go_wp2;go_ret2;exact⟨rfl,(Below.refl _ _).alloc (Nat.le_refl _) _⟩
 | none=>
   rw[hs]at hl;dsimp only[Option.isSome]at hl;clear hx hs;by_cases h1:65≤c
   ·by_cases h2:c≤90
    ·simp only[h1,h2,and_self,if_true,Option.isSome];go_enter Tryz.func83,Tryz.ntmps83;go_wp2;go_ret2;exact⟨rfl,(Below.refl _ _).alloc (Nat.le_refl _) _⟩
    ·simp only[h1,h2,and_false,if_false,Option.isSome];go_enter Tryz.func83,Tryz.ntmps83;go_wp2;go_ret2;exact⟨rfl,(Below.refl _ _).alloc (Nat.le_refl _) _⟩
   ·simp only[h1,false_and,if_false,Option.isSome];go_enter Tryz.func83,Tryz.ntmps83;go_wp2;go_ret2;exact⟨rfl,(Below.refl _ _).alloc (Nat.le_refl _) _⟩
theorem pgreat_any (w:World)(a b k:Nat)(ps:List (Int×Int))(c:Int)(h:TwoM w a b k ps)(hc: -1000000000000≤c∧c≤1000000000000):
  Calls Tryz.prog 128 #[.agg #[.map (some a),.map (some b)],.int .i64 c] w fun e w'=>e= .returned (.tuple #[.int .i64 (grV ps c),.bool (grC ps c).isSome])∧Below w.heap.size w w':=by
 have hm:=h.great.keep ((Below.refl w.heap.size w).alloc (Nat.le_refl _) (.cells #[.map (some a),.map (some b)] 133));obtain⟨x,hl,hx⟩:=hm.look (c:=c) ⟨by omega,by omega⟩;have hbx:=(box2v (w:=w) (a:= .map (some a)) (b:= .map (some b)) (t:=133)).2;clear h hm;unfold grV;rw[grC_grt];cases hs:grt ps c with
 | some d=>
   obtain rfl:=hx d hs;rw[hs]at hl;dsimp only[Option.isSome]at hl⊢;clear hx hs;go_enter Tryz.func128,Tryz.ntmps128;go_wp2;go_ret2;exact⟨rfl,(Below.refl _ _).alloc (Nat.le_refl _) _⟩
 | none=>
   rw[hs]at hl;dsimp only[Option.isSome]at hl;clear hx hs;by_cases h1:97≤c
   ·by_cases h2:c≤122
    ·simp only[h1,h2,and_self,if_true,Option.isSome];go_enter Tryz.func128,Tryz.ntmps128;go_wp2;go_ret2;exact⟨rfl,(Below.refl _ _).alloc (Nat.le_refl _) _⟩
    ·simp only[h1,h2,and_false,if_false,Option.isSome];go_enter Tryz.func128,Tryz.ntmps128;go_wp2;go_ret2;exact⟨rfl,(Below.refl _ _).alloc (Nat.le_refl _) _⟩
   ·simp only[h1,false_and,if_false,Option.isSome];go_enter Tryz.func128,Tryz.ntmps128;go_wp2;go_ret2;exact⟨rfl,(Below.refl _ _).alloc (Nat.le_refl _) _⟩
end Go.Proofs.YtfehpcbmdancoaaGreatDoor.Fo
namespace Go.Proofs.YtfehpcbmdancoaaGreatDoor.Fo
open Go Go.RowKit Go.Lib Go.Shelf Go.Maps
attribute [local go_sem] Oper.semAt_some alloc_set
theorem back_call (A:Option Addr)(n cap:Nat)(w:World):
  Calls Tryz.prog 131 #[.slice A n cap] w fun e w'=>e= .returned (.func (.func 186) #[] #[.pointer (some ⟨w.heap.size,0,none⟩)])∧w'=w.alloc (.cells #[.slice A n cap] 38):=by
 go_enter Tryz.func131,Tryz.ntmps131;go_wp2;go_ret;exact⟨rfl,rfl⟩
theorem make_hint (t:TypeId){k e:TypeId}(ht:Tryz.prog.underlying t=some (.map k e))(n:Int)(w:World):(Instr.makeMap t (some (.int .i64 n))).run Tryz.prog w= .ok (.map (some w.heap.size)) (w.alloc (.map #[] 0)):=by
 simp[Instr.makeMap,run_underlying ht,asInt,asIntOf,Result.andThen]
structure Ready (w wx:World)(q a b:Nat):Prop where
 below:Below w.heap.size w wx
 hq:wx.heap[q]?=some (.cells #[.map (some a),.map (some b)] 133 (0,0))
 ha:wx.heap[a]?=some (.map #[] 0)
 hb:wx.heap[b]?=some (.map #[] 0)
 res:wx.heap[w.heap.size]?=some (.cells #[.map none,.map none] 133 (0,0))
 low:w.heap.size<q∧w.heap.size<a∧w.heap.size<b
 ne:q≠a∧q≠b∧a≠b
theorem heap_up {w:World}{k:Nat}{o:Obj}(h:w.heap[k]?=some o)(o':Obj):(w.alloc o').heap[k]?=some o:=(Below.heap_alloc _ _ _ (Array.getElem?_eq_some_iff.1 h).1).trans h
theorem heap_top (w:World)(o:Obj){k:Nat}(hk:w.heap.size=k):(w.alloc o).heap[k]?=some o:=hk▸World.alloc_heap_new w o
theorem four (w:World)(o1 o2 o3 o4:Obj):((((w.alloc o1).alloc o2).alloc o3).alloc o4).drew.heap[w.heap.size]?=some o1∧((((w.alloc o1).alloc o2).alloc o3).alloc o4).drew.heap[w.heap.size+1]?=some o2∧
  ((((w.alloc o1).alloc o2).alloc o3).alloc o4).drew.heap[w.heap.size+1+1]?=some o3∧((((w.alloc o1).alloc o2).alloc o3).alloc o4).drew.heap[w.heap.size+1+1+1]?=some o4∧Below w.heap.size w ((((w.alloc o1).alloc o2).alloc o3).alloc o4).drew:=by
 refine⟨?_,?_,?_,?_,((((Below.refl w.heap.size w).alloc (Nat.le_refl _) o1).alloc (by simp) o2).alloc (by simp;omega) o3).alloc (by simp;omega) o4 |>.drew⟩
 ·exact heap_up (heap_up (heap_up (heap_top w o1 rfl) o2) o3) o4
 ·exact heap_up (heap_up (heap_top (w.alloc o1) o2 (by simp)) o3) o4
 ·exact heap_up (heap_top ((w.alloc o1).alloc o2) o3 (by simp)) o4
 ·exact heap_top (((w.alloc o1).alloc o2).alloc o3) o4 (by simp)
structure RQ (w wc:World)(q a b ks kg:Nat)(fs fg:Int→Option Int)(T:Nat→Prop)(W':World):Prop where
 small:LetM W' a ks fs
 great:LetM W' b kg fg
 box:W'.heap[q]?=some (.cells #[.map (some a),.map (some b)] 133 (0,0))
 res:W'.heap[w.heap.size]?=some (.cells #[.map none,.map none] 133 (0,0))
 below:Below w.heap.size w W'
 new:∀k,T k→wc.heap.size≤k
variable {w wc : World} {q a b ks kg : Nat} {fs fg : Int → Option Int} {T : Nat → Prop} {W' : World}
theorem Ready.lt (h:Ready w wc q a b):q<wc.heap.size∧a<wc.heap.size∧b<wc.heap.size∧w.heap.size<wc.heap.size:=
 ⟨(Array.getElem?_eq_some_iff.1 h.hq).1,(Array.getElem?_eq_some_iff.1 h.ha).1,(Array.getElem?_eq_some_iff.1 h.hb).1,(Array.getElem?_eq_some_iff.1 h.res).1⟩
theorem RQ.turn (R:Ready w wc q a b)(h:RQ w wc q a b ks kg fs fg T W'){T2:Nat→Prop}{V:World}(ho:OnlyAt T W' V)(ht:∀k,T2 k→T k∨(W'.heap.size≤k∧k<V.heap.size))(hs:wc.heap.size≤W'.heap.size):RQ w wc q a b ks kg fs fg T2 V:=by
 obtain⟨l1,l2,l3,l4⟩:=R.lt;have key:∀z,z<wc.heap.size→V.heap[z]?=W'.heap[z]?:=fun z hz=>ho.block z (by omega) (fun hh=>by have:=h.new z hh;omega);refine⟨h.small.same (key a l2),h.great.same (key b l3),(key q l1).trans h.box,(key _ l4).trans h.res,OnlyAt.below h.below ho h.below.size (fun k hk=>by have:=h.new k hk;omega),fun k hk=>?_⟩;rcases ht k hk with h1|h1
 ·exact h.new k h1
 ·omega
theorem RQ.left (R:Ready w wc q a b)(h:RQ w wc q a b ks kg fs fg T W'){V:World}{k2:Nat}{f2:Int→Option Int}(hm:LetM V a k2 f2)(hg:W'.grownBy V (some a)):RQ w wc q a b k2 kg f2 fg T V:=by
 have hne:=R.ne;have hl:=R.low;have key:∀z,z<W'.heap.size→z≠a→V.heap[z]?=W'.heap[z]?:=fun z hz hn=>hg.block z hz (fun e=>hn (by injection e));refine⟨hm,h.great.same (key b h.great.lt (fun e=>hne.2.2 e.symm)),(key q (Array.getElem?_eq_some_iff.1 h.box).1 hne.1).trans h.box,(key _ (Array.getElem?_eq_some_iff.1 h.res).1 (by omega)).trans h.res,?_,h.new⟩;exact OnlyAt.below h.below (OnlyAt.of_grown (T:=fun z=>z=a) hg (fun z e=>by injection e with e;exact e.symm)) h.below.size (fun z e=>by subst e;omega)
theorem RQ.right (R:Ready w wc q a b)(h:RQ w wc q a b ks kg fs fg T W'){V:World}{k2:Nat}{f2:Int→Option Int}(hm:LetM V b k2 f2)(hg:W'.grownBy V (some b)):RQ w wc q a b ks k2 fs f2 T V:=by
 have hne:=R.ne;have hl:=R.low;have key:∀z,z<W'.heap.size→z≠b→V.heap[z]?=W'.heap[z]?:=fun z hz hn=>hg.block z hz (fun e=>hn (by injection e));refine⟨h.small.same (key a h.small.lt hne.2.2),hm,(key q (Array.getElem?_eq_some_iff.1 h.box).1 hne.2.1).trans h.box,(key _ (Array.getElem?_eq_some_iff.1 h.res).1 (by omega)).trans h.res,?_,h.new⟩;exact OnlyAt.below h.below (OnlyAt.of_grown (T:=fun z=>z=b) hg (fun z e=>by injection e with e;exact e.symm)) h.below.size (fun z e=>by subst e;omega)
theorem RQ.start (R:Ready w wc q a b):RQ w wc q a b 0 0 (fun _=>none) (fun _=>none) (fun _=>False) wc:=
 ⟨LetM.made R.ha,LetM.made R.hb,R.hq,R.res,R.below,fun _ h=>h.elim⟩
theorem RQ.boxc (h:RQ w wc q a b ks kg fs fg T W'):W'.cell? ⟨q,0,none⟩=some (.map (some a))∧W'.cell? ⟨q,1,none⟩=some (.map (some b)):=by
 have h1:=h.box;refine⟨?_,?_⟩<;>simp[World.cell?,h1]
theorem set_at {w:World}{k:Nat}{cs:Array Value}{t:TypeId}{fr:Nat×Nat}(h:w.heap[k]?=some (.cells cs t fr))(i:Nat)(v:Value):(w.setCell ⟨k,i,none⟩ v).heap[k]?=some (.cells (cs.setIfInBounds i v) t fr):=by
 have hlt:=(Array.getElem?_eq_some_iff.1 h).1;have hv:=(Array.getElem?_eq_some_iff.1 h).2;simp[World.setCell,Array.getElem?_modify,h]
theorem Tryz.infoP133:(Tryz.prog.info? 133).map (·.size)=some 2:=by kernel_rfl
theorem letters_any (w:World)(v:Value)(ps:List (Int×Int))(h:PairsAt w v ps)(hn:ps.length≤1000000)(hin:∀p∈ps,I64 p.1∧I64 p.2):
  Calls Tryz.prog 81 #[v] w fun e w'=>∃a b,e= .returned (.agg #[.map (some a),.map (some b)])∧TwoM w' a b ps.length ps∧Below w.heap.size w w':=by
 obtain⟨A,cap,rfl⟩:=pairs_form h;have HP:=hid h;have HI:=hid hin;have hmm:=make_hint 131 Tryz.underlying131;clear h hin;refine(callsIn_wide (n:=6)).1 ?_;refine callsIn_of_wp_marks Tryz.func81 rfl trivial ?_ rfl;obtain⟨n,hnn⟩:∃n,n=ps.length:=⟨_,rfl⟩;rw[←hnn]at HP hn⊢;have HN:=hid hnn;clear hnn;simp only[Tryz.ntmps81,List.size_toArray,List.length_cons,List.length_nil,Nat.reduceAdd,Nat.reduceSub,Array.replicate_succ,Array.replicate_zero,List.push_toArray,List.append_toArray,List.nil_append,List.cons_append]
 gi_upto_region 1 with fail
 gi_cut [3]from 6 (fun p wx=>∃q a b,p= .pointer (some ⟨q,0,none⟩)∧Hid (Ready w wx q a b))
 case first=>
  refine wpIn_wide.2 (wp_region_noPanic ?_);go_region
  all_goals
   refine NoPanic.normal ?_;rename_i J K hJ hK;obtain⟨h0,h1,h2,h3,hb⟩:=four w _ _ _ _;refine hK _ _ (Met.intro (hJ _ _ ?_));repeat apply Exists.intro
   refine⟨?_,rfl⟩
   first
    | refine⟨_,_,_,rfl,hid ⟨hb,h3,h1,h2,h0,?_,?_⟩⟩
    | refine⟨_,_,_,rfl,hid ⟨hb,h3,h2,h1,h0,?_,?_⟩⟩
    | refine⟨_,_,_,rfl,hid ⟨hb,h2,h1,h3,h0,?_,?_⟩⟩
    | refine⟨_,_,_,rfl,hid ⟨hb,h2,h3,h1,h0,?_,?_⟩⟩
    | refine⟨_,_,_,rfl,hid ⟨hb,h1,h2,h3,h0,?_,?_⟩⟩
    | refine⟨_,_,_,rfl,hid ⟨hb,h1,h3,h2,h0,?_,?_⟩⟩
   all_goals omega
 case rest=>
  obtain⟨q,a,b,rfl,HR⟩:=hcut;clear hmm;gi_wp2_with (refine ⟨trivial,?_⟩;gi_at_call 131;refine(callsIn_wide.2 (back_call A n cap _)).mono ?_;rintro e w1 ⟨rfl,rfl⟩);obtain⟨N,hN⟩:∃N,N=wc.heap.size:=⟨_,rfl⟩;have ho3:OnlyAt (fun _=>False) wc (wc.alloc (.cells #[.slice A n cap] 38)):=OnlyAt.alloc _ _ _;have hbx:Boxed (wc.alloc (.cells #[.slice A n cap] 38)) wc.heap.size 38 (.slice A n cap):=Boxed.new wc _ _;have hsz:(wc.alloc (.cells #[.slice A n cap] 38)).heap.size=wc.heap.size+1:=by simp
  rw[←hN]at hbx hsz⊢;generalize wc.alloc (.cells #[.slice A n cap] 38)=W3 at ho3 hbx hsz⊢;have hbw:Below w.heap.size w W3:=OnlyAt.below HR.out.below ho3 HR.out.below.size (fun _ h=>h.elim);have hst:=(RQ.start HR.out).turn HR.out ho3 (fun _ h=>h.elim) (Nat.le_refl _) (T2:=fun _=>False);have HS:=hid (And.intro hN (And.intro hsz (And.intro hbx (And.intro hbw (And.intro ho3 hst)))));clear hN ho3 hbx hsz hbw hst;have HLT:=hid HR.out.lt;refine wpIn_gives (R:=fun k=>k<w.heap.size∨k=N) (gf:=186) (lb:=#[.pointer (some ⟨N,0,none⟩)]) rfl (enters_of Tryz.func186 (by kernel_rfl) rfl) (by omega) (encs:=pEnc) (xs:=downE ps n)
   (fun W1 ho=>?gives) (fun _=>rfl) (by have:=HS.out.1;have:=HS.out.2.1;have:=HLT.out.2.2.2;rintro k (hk|rfl)<;>omega)
   (fun T pre W=>RQ w wc q a b pre.length pre.length (sml (cameP pre)) (grt (cameP pre)) T W∧N+1≤W.heap.size)
   ?stab ⟨HS.out.2.2.2.2.2,by have:=HS.out.2.1;omega⟩
   (fun T pre x a' W=>∃g,(RQ w wc q a b pre.length pre.length (sml (cameP pre)) (grt (cameP pre)) T W∧N+1≤W.heap.size)∧(W.heap[g]?=some (.cells #[.int .i64 x.2.1,.int .i64 x.2.2] 118 (0,0))∧N+1≤g∧¬T g)∧
    a'={ tmps:=#[.slice A n cap,undef,.pointer (some ⟨w.heap.size,0,none⟩),.pointer (some ⟨q,0,none⟩),undef,.pointer (some ⟨g,0,none⟩),u6,u7,u8,u9,u10,u11,u12,.slice A n cap,.func (.func 186) #[] #[.pointer (some ⟨N,0,none⟩)],
     .int .i64 x.1,.agg #[.int .i64 x.2.1,.int .i64 x.2.2],u17,u18,u19,u20,u21,u22,u23,u24,u25,u26,u27,u28,u29],defers:=[] })
   ?staba ?assign ?body ?done
  case gives=>
   have hpw:PairsAt W1 (.slice A n cap) ps:=HP.out.keep (OnlyAt.below HS.out.2.2.2.1 ho HS.out.2.2.2.1.size (fun _ h=>h.elim));have hbB:Boxed W1 N 38 (.slice A n cap):=(ho.block N (by have:=HS.out.2.1;omega) id).trans HS.out.2.2.1;have hA:∀z off,ps≠[]→A=some ⟨z,off,none⟩→z<w.heap.size∨z=N:=by
    rintro z off hne rfl;rcases ps with _|⟨p,t⟩
    ·exact absurd rfl hne
    ·obtain⟨b2,off2,e,hlt,_⟩:=fpairs_open HP.out 0 p rfl;simp only[Option.some.injEq,Addr.mk.injEq,and_true]at e;left;omega
   have hnn:=HN.out;subst hnn;exact back_gives A cap ps hn N (fun k=>k<w.heap.size∨k=N) W1 hbB hpw (.inr rfl) hA
  case stab=>
   rintro T T' pre U V ⟨h,hz⟩ ho ht;exact⟨h.turn HR.out ho ht (by have:=HS.out.1;omega),by have:=ho.size;omega⟩
  case staba=>
   rintro pre x a' T T' _ U V ⟨g,⟨h,hz⟩,⟨hg,hg1,hg2⟩,ha⟩ ho ht;have hlt:=(Array.getElem?_eq_some_iff.1 hg).1;refine⟨g,⟨h.turn HR.out ho ht (by have:=HS.out.1;omega),by have:=ho.size;omega⟩,⟨(ho.block g hlt hg2).trans hg,hg1,fun hh=>?_⟩,ha⟩;rcases ht g hh with h1|h1
   ·exact hg2 h1
   ·omega
  case assign=>
   rintro l2 T pre x W' K hpre ⟨hi,hz⟩ hlt hK;have HI2:=hid hi;have HLT2:=hid hlt;clear hi hlt;simp only[pEnc];gi_wp2;refine hK _ _ (OnlyAt.alloc _ _ _) ⟨W'.heap.size,⟨HI2.out.turn HR.out (OnlyAt.alloc _ _ _) (fun k hk=> .inl hk) (by have:=HS.out.1;omega),by simp;omega⟩,⟨World.alloc_heap_new _ _,by omega,fun hh=>?_⟩,rfl⟩;have:=HLT2.out _ hh;omega
  case body=>
   rintro l2 T pre x a' W' hpre ⟨g,⟨h,hz⟩,⟨hg,hg1,hg2⟩,rfl⟩ hlt;obtain⟨l1,l2',l3,l4⟩:=HLT.out;have hN:=HS.out.1;have hlen:pre.length<n:=by
    obtain⟨r,hr⟩:=hpre;have:=congrArg List.length hr;rw[downE_len]at this;simp at this;omega
   have hxm:x∈downE ps n:=hpre.subset (by simp);have hxi:=HI.out x.2 (downE_mem ps n (by have:=HN.out;omega) x hxm);have hglt:=(Array.getElem?_eq_some_iff.1 hg).1;obtain⟨W4,hr4,hm4,hg4⟩:=h.small.put (c:=x.2.1) (d:=x.2.2) hxi.1 hxi.2 (by unfold maxLen;omega);have h4:=h.left HR.out hm4 hg4;have hgb:W4.heap[g]?=some (.cells #[.int .i64 x.2.1,.int .i64 x.2.2] 118 (0,0)):=(hg4.block g hglt (fun e=>by injection e;omega)).trans hg;obtain⟨W5,hr5,hm5,hg5⟩:=h4.great.put (c:=x.2.2) (d:=x.2.1) hxi.2 hxi.1 (by unfold maxLen;omega);have h5:=h4.right HR.out hm5 hg5;obtain⟨q0,q1⟩:=h.boxc;obtain⟨p0,p1⟩:=h4.boxc;have e0:W'.cell? ⟨g,0,none⟩=some (.int .i64 x.2.1):=by simp[World.cell?,hg]
   have e1:W'.cell? ⟨g,1,none⟩=some (.int .i64 x.2.2):=by simp[World.cell?,hg]
   have f0:W4.cell? ⟨g,0,none⟩=some (.int .i64 x.2.1):=by simp[World.cell?,hgb]
   have f1:W4.cell? ⟨g,1,none⟩=some (.int .i64 x.2.2):=by simp[World.cell?,hgb]
   have hend:(RQ w wc q a b (pre.length+1) (pre.length+1) (sml (cameP (pre++[x]))) (grt (cameP (pre++[x]))) T W5∧N+1≤W5.heap.size)∧KeepsAt (fun k=>(k<w.heap.size∨k=N)∨T k) W' W5:=by
    have hs4:=hg4.size;have hs5:=hg5.size;refine⟨⟨?_,by omega⟩,⟨by omega,fun k hk hr=>?_⟩⟩
    ·rw[cameP_snoc,show sml (x.2::cameP pre)=fun y=>if y=x.2.1 then some x.2.2 else sml (cameP pre) y from funext (sml_cons _ _),show grt (x.2::cameP pre)=fun y=>if y=x.2.2 then some x.2.1 else grt (cameP pre) y from funext (grt_cons _ _)];exact h5
    ·have hlow:=HR.out.low;have hka:k≠a∧k≠b:=by
      rcases hr with(hr|hr)|hr
      ·omega
      ·omega
      ·have:=h.new k hr;omega
     exact(hg5.block k (by omega) (fun e=>hka.2 (by injection e))).trans (hg4.block k hk (fun e=>hka.1 (by injection e)))
   have HE:=hid hend;clear h h4 h5 hm4 hm5 hg4 hg5 hend hxi hxm hpre hgb hlt hg hg2 hz hN l1 l2' l3 l4;gi_wp2;exact HE.out
  case done=>
   rintro D T W' hD hTD ⟨h,hz⟩ hK;obtain⟨q0,q1⟩:=h.boxc;have hpre:cameP (downE ps n)=ps:=by
    rw[cameP_all ps n (by have:=HN.out;omega),List.take_of_length_le (by have:=HN.out;omega)]
   rw[downE_len,hpre]at h;have r0:W'.heap[w.heap.size]?=some (.cells #[.map none,.map none] 133 (0,0)):=h.res;have c0:W'.cell? ⟨w.heap.size,0,none⟩=some (.map none):=by simp[World.cell?,r0]
   have c1:W'.cell? ⟨w.heap.size,1,none⟩=some (.map none):=by simp[World.cell?,r0]
   have z0:W'.frozen? ⟨w.heap.size,0,none⟩=false:=Lib.frozen_of_heap r0 0;have z1:W'.frozen? ⟨w.heap.size,1,none⟩=false:=Lib.frozen_of_heap r0 1;have HH:=hid h;have HKD:=hid hK;clear h hK r0 hpre;gi_wp2;obtain⟨l1,l2,l3,l4⟩:=HLT.out;have hN:=HS.out.1;have hs3:=HS.out.2.1;have hlow:=HR.out.low;obtain⟨W2,hW2⟩:∃W2,W2=(W'.setCell ⟨w.heap.size,0,none⟩ (.map (some a))).setCell ⟨w.heap.size,1,none⟩ (.map (some b)):=⟨_,rfl⟩;have hother:∀k,k≠w.heap.size→W2.heap[k]?=W'.heap[k]?:=fun k hk=>by
    rw[hW2];exact(Below.heap_setCell _ _ _ _ hk).trans (Below.heap_setCell _ _ _ _ hk)
   have hres:W2.heap[w.heap.size]?=some (.cells #[.map (some a),.map (some b)] 133 (0,0)):=by
    have h1:=set_at HH.out.res 0 (.map (some a));have h2:=set_at h1 1 (.map (some b));rw[hW2];exact h2
   have hb2:Below w.heap.size w W2:=by
    rw[hW2];exact(HH.out.below.setCell (p:=⟨w.heap.size,0,none⟩) (Nat.le_refl _) _).setCell (p:=⟨w.heap.size,1,none⟩) (Nat.le_refl _) _
   have hD2:W2.heap[D]?=some (.deferred (some [])):=(hother D (by omega)).trans HKD.out;have hsm:LetM W2 a n (sml ps):=HH.out.small.same (hother a (by omega));have hgr:LetM W2 b n (grt ps):=HH.out.great.same (hother b (by omega));rw[←hW2];have hput:∀k,k≠D→(W2.putObj D (.deferred none)).heap[k]?=W2.heap[k]?:=fun k hk=>World.putObj_heap_other hk;refine⟨by simp,.inl ⟨_,_,rfl,run_takeDeferred hD2,?_⟩⟩;refine⟨_,results_cell_row rfl _ _ w.heap.size 133 _ (0,0) _ rfl ((hput _ (by omega)).trans hres) Tryz.underlying133 rfl Tryz.infoP133,a,b,rfl,⟨hsm.same (hput a (by omega)),hgr.same (hput b (by omega))⟩,?_⟩;exact OnlyAt.below hb2 (OnlyAt.putObj (T:=fun k=>k=D) _ _ _ rfl) hb2.size (fun k hk=>by subst hk;omega)
end Go.Proofs.YtfehpcbmdancoaaGreatDoor.Fo
