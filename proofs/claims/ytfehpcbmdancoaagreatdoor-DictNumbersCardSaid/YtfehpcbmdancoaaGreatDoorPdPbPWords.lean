/- The document's Words of chapter 10 by contract: a line cut at each blank. -/
import Derived.BigQuiet
import Derived.Laws.IdiomStrings
import Derived.StillTailTactics
import Derived.Deep.CutRange
import Derived.Deep.DeepCutAuto
import Derived.Test.YtfehpcbmdancoaaGreatDoorPdPbNPlain
import Derived.Test.YtfehpcbmdancoaaGreatDoorPdPbORows
import Derived.Test.YtfehpcbmdancoaaGreatDoorPdPbSmall
import Derived.Test.YtfehpcbmdancoaaGreatDoorPdPbYState
set_option maxRecDepth 100000
set_option maxHeartbeats 4000000
namespace Go.Proofs.YtfehpcbmdancoaaGreatDoor
open Go Go.RowKit Go.Lib
def wCells (l:List (List UInt8)):List Value:=l.map fun x=> .string ⟨x.toArray⟩
theorem Tryz.infosW9:(Tryz.prog.info? 9).map (fun i=>(i.zero,i.size,i.bytes))=some (some (.string ⟨#[]⟩),1,16):=by kernel_rfl
theorem ext_list (s:ByteArray)(a b:Nat):(s.extract a b).data.toList=(s.data.toList.drop a).take (b-a):=by
 rw[ByteArray.data_extract,Array.toList_extract]
theorem ba_list (s:ByteArray):(⟨s.data.toList.toArray⟩:ByteArray)=s:=by
 cases s;simp
theorem ext_ba (s:ByteArray)(a b:Nat):s.extract a b=⟨((s.data.toList.drop a).take (b-a)).toArray⟩:=by
 rw[←ext_list,ba_list]
def CutAt (L:List UInt8)(done:List (List UInt8))(a i:Nat):Prop:=a≤i∧i≤L.length∧wordsL L=done++wordsL (L.drop a)∧∀j,a≤j→j<i→L[j]?≠some 32
theorem CutAt.start (L:List UInt8):CutAt L [] 0 0:=⟨Nat.le_refl _,Nat.zero_le _,by simp,fun j _ h=>absurd h (Nat.not_lt_zero _)⟩
theorem part_noblank {L:List UInt8}{a i:Nat}(h:∀j,a≤j→j<i→L[j]?≠some 32):(32:UInt8) ∉ (L.drop a).take (i-a):=by
 intro hm;obtain⟨j,hj,he⟩:=List.getElem_of_mem hm;rw[List.length_take,List.length_drop]at hj;refine h (a+j) (by omega) (by omega) ?_;rw[List.getElem_take,List.getElem_drop]at he;rw[List.getElem?_eq_getElem (by omega),he]
theorem CutAt.on {L:List UInt8}{done:List (List UInt8)}{a i:Nat}(h:CutAt L done a i)(hi:i<L.length)(hne:L[i]?≠some 32):CutAt L done a (i+1):=
 ⟨by have:=h.1;omega,hi,h.2.2.1,fun j h1 h2=>by
  rcases Nat.lt_or_ge j i with hj|hj
  ·exact h.2.2.2 j h1 hj
  ·obtain rfl:j=i:=by omega
   exact hne⟩
theorem CutAt.cut {L:List UInt8}{done:List (List UInt8)}{a i:Nat}(h:CutAt L done a i)(hi:i<L.length)(he:L[i]?=some 32):CutAt L (done++[(L.drop a).take (i-a)]) (i+1) (i+1):=by
 obtain⟨h1,h2,h3,h4⟩:=h;refine⟨Nat.le_refl _,hi,?_,fun j h5 h6=>by omega⟩;have hs:L.drop a=(L.drop a).take (i-a)++32::L.drop (i+1):=by
  obtain⟨_,hc⟩:=List.getElem?_eq_some_iff.1 he;have hd:L.drop i=32::L.drop (i+1):=by rw[List.drop_eq_getElem_cons hi,hc]
  have:=(List.take_append_drop (i-a) (L.drop a)).symm;rwa[List.drop_drop,show a+(i-a)=i by omega,hd]at this
 rw[h3]
 conv=>lhs;rw[hs]
 rw[wordsL_app _ _ (part_noblank h4),List.append_assoc];rfl
theorem CutAt.fin {L:List UInt8}{done:List (List UInt8)}{a:Nat}(h:CutAt L done a L.length):wordsL L=done++[(L.drop a).take (L.length-a)]:=by
 obtain⟨h1,h2,h3,h4⟩:=h;have hn:=part_noblank h4;rw[List.take_of_length_le (by rw[List.length_drop];omega)]at hn⊢;rw[h3,wordsL_one _ hn]
def MidW (w wr:World)(v:Value)(L:List UInt8)(a i:Nat):Prop:=
 ∃done,(CutAt L done a i∨(i=L.length+1∧wordsL L=done))∧done.length≤i∧wr.ownsRow w.heap.size 9 1 v done.length (wCells done)∧Below w.heap.size w wr
theorem rwords_any (w:World)(s:ByteArray)(hs:s.size≤1000000000):
  Calls Tryz.prog 119 #[.string s] w fun e w'=>∃v,e= .returned v∧w'.ownsRow w.heap.size 9 1 v (wordsL s.data.toList).length (wCells (wordsL s.data.toList))∧Below w.heap.size w w':=by
 obtain⟨i1,hi1,hz10,hz11,hz12⟩:=info_parts Tryz.infosW9;obtain⟨L,hL⟩:∃L,L=s.data.toList:=⟨_,rfl⟩;have hLs:L.length=s.size:=by rw[hL];exact(Lib.size_eq s).symm
 rw[←hL];have HL:=hid (And.intro hL hLs);have H0:=hid (show MidW w w (.slice none 0 0) L 0 0 from ⟨[],.inl (CutAt.start L),Nat.le_refl _,World.ownsRow_nil _ _ _ _,Below.refl _ _⟩);clear hL hLs;go_enter Tryz.func119,Tryz.ntmps119;go_wp2_with fail;go_loopg [3,4,5] (s.size+1) (fun g v a i wr=>∃aa k:Nat,k+g=s.size+1∧aa≤k∧a= .int .i64 aa∧i= .int .i64 k∧Hid (MidW w wr v L aa k))
 case atStart=>exact⟨0,0,by omega,Nat.le_refl _,rfl,rfl,H0⟩
 case round=>
  obtain⟨aa,k,hk,hak,rfl,rfl,HM⟩:=hrel;obtain⟨done,hcut,hdl,hrow,hb⟩:=HM.out;have hLs:=HL.out.2;rcases Nat.eq_zero_or_pos gk with h0|h0
  ·have hkn:k=s.size+1:=by omega
   have hd:wordsL L=done:=by
    rcases hcut with h|h
    ·have:=h.2.1;omega
    ·exact h.2
   subst hkn;have HR:=hid (And.intro hrow hb);have HD:=hid hd;have hz:¬((s.size+1:Nat):Int)≤s.size:=by omega
   clear hcut hdl hrow hb hd HM hLs;go_wp2_with fail;go_ret;exact⟨_,rfl,by rw[HD.out];exact HR.out.1,HR.out.2⟩
  ·have hkn:(k:Int)≤s.size:=by omega
   have hkk:(0:Int)≤k:=by omega
   have hc:CutAt L done aa k:=by
    rcases hcut with h|h
    ·exact h
    ·omega
   have hrow2:=fun X:Value=>hrow.alloc (.cells #[X] 9);have hb2:=fun X:Value=>hb.alloc hb.size (.cells #[X] 9);have hdl2:done.length≤1000000000:=by omega
   have HR:=hid (And.intro hrow (And.intro hb (And.intro hrow2 (And.intro hb2 (And.intro hc hdl)))));have HOW:=hid (fun (X:ByteArray)=>(by intro u hu;simp only[List.mem_singleton]at hu;subst hu;rfl:∀u∈[Value.string X],u.oneCell'=true));clear hcut hdl hrow hb hrow2 hb2 HM;by_cases hks:k=s.size
   ·subst hks;have d1:((s.size:Int)==s.size)=true:=by simp
    have HF:=hid (show wordsL L=done++[(L.drop aa).take (L.length-aa)]from CutAt.fin (by rw[hLs];exact hc));have ha1:(0:Int)≤aa:=by omega
    have ha2:(aa:Int)≤s.size:=by omega
    clear hc hLs;go_wp2_with (at_builtin;refine wpList_append_own _ rfl _ _ 24 rfl w.heap.size 9 i1 (.string ⟨#[]⟩) 1 16 Tryz.underlying24 hi1 hz10 hz11 hz12 rfl (by decide) _ _ _ rfl (HR.out.2.2.1 _) ⟨wr.heap.size,0,none⟩ 1 1 [.string (s.extract aa s.size)] rfl rfl (news_row _ _ _) (HOW.out _) (by unfold maxLen;omega) (by omega) ((HR.out.2.2.2.1 (.string (s.extract aa s.size))).size) ?_);intro v' w4 hown4 hgrow4 _;have HM2:=hid (show MidW w w4 v' L (s.size+1) (s.size+1)from
     ⟨done++[(L.drop aa).take (L.length-aa)],.inr ⟨by have:=HL.out.2;omega,HF.out⟩,by rw[List.length_append];have:=HR.out.2.2.2.2.2;show done.length+1≤_;omega,by
      rw[List.length_append,show wCells (done++[(L.drop aa).take (L.length-aa)])=wCells done++[.string (s.extract aa s.size)]by
       unfold wCells;rw[List.map_append,ext_ba,HL.out.2,HL.out.1];rfl]
      exact hown4,(HR.out.2.2.2.1 _).grown hgrow4 (HR.out.2.2.2.1 _).size (fun z hz=>(HR.out.1.lt z hz).1)⟩)
    clear hown4 hgrow4;go_wp2_with fail;go_roundg (gk-1)
    case measure=>omega
    case rel=>exact⟨s.size+1,s.size+1,by omega,Nat.le_refl _,by go_num,by go_num,HM2⟩
   ·have hlt:(k:Int)<s.size:=by omega
    have d1:((k:Int)==s.size)=false:=by simp;omega
    obtain⟨c,hcL⟩:∃c,L[k]?=some c:=⟨_,List.getElem?_eq_getElem (by omega)⟩;have hks2:k<s.size:=by omega
    have hget:s[k]'hks2=c:=by
     have h1:L[k]?=s.data[k]?:=by rw[HL.out.1,Array.getElem?_toList]
     rw[hcL]at h1;have h2:s.data[k]?=some (s.data[k]'hks2):=Array.getElem?_eq_getElem hks2;rw[h2]at h1;exact(Option.some.inj h1).symm
    by_cases h32:c=32
    ·subst h32;have HC:=hid (hc.cut (by omega) hcL);have ha1:(0:Int)≤aa:=by omega
     have ha2:(aa:Int)≤k:=by omega
     have hb32:((s[k]'hks2).toNat)=32:=by rw[hget];rfl
     clear hc hcL hLs hks hget;go_wp2_with (at_builtin;refine wpList_append_own _ rfl _ _ 24 rfl w.heap.size 9 i1 (.string ⟨#[]⟩) 1 16 Tryz.underlying24 hi1 hz10 hz11 hz12 rfl (by decide) _ _ _ rfl (HR.out.2.2.1 _) ⟨wr.heap.size,0,none⟩ 1 1 [.string (s.extract aa k)] rfl rfl (news_row _ _ _) (HOW.out _) (by unfold maxLen;omega) (by omega) ((HR.out.2.2.2.1 (.string (s.extract aa k))).size) ?_);intro v' w4 hown4 hgrow4 _;have HM2:=hid (show MidW w w4 v' L (k+1) (k+1)from
      ⟨done++[(L.drop aa).take (k-aa)],.inl HC.out,by rw[List.length_append];have:=HR.out.2.2.2.2.2;show done.length+1≤_;omega,by
       rw[List.length_append,show wCells (done++[(L.drop aa).take (k-aa)])=wCells done++[.string (s.extract aa k)]by
        unfold wCells;rw[List.map_append,ext_ba,HL.out.1];rfl]
       exact hown4,(HR.out.2.2.2.1 _).grown hgrow4 (HR.out.2.2.2.1 _).size (fun z hz=>(HR.out.1.lt z hz).1)⟩)
     clear hown4 hgrow4;go_wp2_with fail;go_roundg (gk-1)
     case measure=>omega
     case rel=>exact⟨k+1,k+1,by omega,Nat.le_refl _,by go_num,by go_num,HM2⟩
    ·have HC:=hid (hc.on (by omega) (by rw[hcL];intro e;exact h32 (Option.some.inj e)));have hb32:¬((s[k]'hks2).toNat=32):=by
      rw[hget];intro e;exact h32 (UInt8.toNat_inj.1 e)
     have hb33:(((s[k]'hks2).toNat:Int)==32)=false:=by simp;omega
     have HM2:=hid (show MidW w wr u3 L aa (k+1)from ⟨done,.inl HC.out,by have:=HR.out.2.2.2.2.2;omega,HR.out.1,HR.out.2.1⟩);clear hc hcL hLs hks hget;go_wp2_with fail;go_roundg (gk-1)
     case measure=>omega
     case rel=>exact⟨aa,k+1,by omega,by omega,rfl,by go_num,HM2⟩
def LineAt (L:List UInt8)(done:List (List UInt8))(a i:Nat):Prop:=a≤i∧i≤L.length∧linesL L=done++linesL (L.drop a)∧∀j,a≤j→j<i→L[j]?≠some 10
theorem LineAt.start (L:List UInt8):LineAt L [] 0 0:=⟨Nat.le_refl _,Nat.zero_le _,by simp,fun j _ h=>absurd h (Nat.not_lt_zero _)⟩
theorem part_none10 {L:List UInt8}{a i:Nat}(h:∀j,a≤j→j<i→L[j]?≠some 10):(10:UInt8) ∉ (L.drop a).take (i-a):=by
 intro hm;obtain⟨j,hj,he⟩:=List.getElem_of_mem hm;rw[List.length_take,List.length_drop]at hj;refine h (a+j) (by omega) (by omega) ?_;rw[List.getElem_take,List.getElem_drop]at he;rw[List.getElem?_eq_getElem (by omega),he]
theorem LineAt.on {L:List UInt8}{done:List (List UInt8)}{a i:Nat}(h:LineAt L done a i)(hi:i<L.length)(hne:L[i]?≠some 10):LineAt L done a (i+1):=
 ⟨by have:=h.1;omega,hi,h.2.2.1,fun j h1 h2=>by
  rcases Nat.lt_or_ge j i with hj|hj
  ·exact h.2.2.2 j h1 hj
  ·obtain rfl:j=i:=by omega
   exact hne⟩
theorem LineAt.cut {L:List UInt8}{done:List (List UInt8)}{a i:Nat}(h:LineAt L done a i)(hi:i<L.length)(he:L[i]?=some 10):LineAt L (done++[(L.drop a).take (i-a)]) (i+1) (i+1):=by
 obtain⟨h1,h2,h3,h4⟩:=h;refine⟨Nat.le_refl _,hi,?_,fun j h5 h6=>by omega⟩;have hs:L.drop a=(L.drop a).take (i-a)++10::L.drop (i+1):=by
  obtain⟨_,hc⟩:=List.getElem?_eq_some_iff.1 he;have hd:L.drop i=10::L.drop (i+1):=by rw[List.drop_eq_getElem_cons hi,hc]
  have:=(List.take_append_drop (i-a) (L.drop a)).symm;rwa[List.drop_drop,show a+(i-a)=i by omega,hd]at this
 rw[h3]
 conv=>lhs;rw[hs]
 rw[linesL_app _ _ (part_none10 h4),List.append_assoc];rfl
theorem LineAt.fin {L:List UInt8}{done:List (List UInt8)}{a:Nat}(h:LineAt L done a L.length):linesL L=if a<L.length then done++[(L.drop a).take (L.length-a)]else done:=by
 obtain⟨h1,h2,h3,h4⟩:=h;by_cases ha:a<L.length
 ·rw[if_pos ha];have hn:=part_none10 h4;rw[List.take_of_length_le (by rw[List.length_drop];omega)]at hn⊢;rw[h3,linesL_one _ (by intro e;have:=congrArg List.length e;rw[List.length_drop]at this;simp at this;omega) hn]
 ·rw[if_neg ha,h3,List.drop_of_length_le (by omega)];simp[linesL]
def MidV (w wr:World)(v:Value)(L:List UInt8)(a i:Nat):Prop:=
 ∃done,LineAt L done a i∧done.length≤i∧wr.ownsRow w.heap.size 9 1 v done.length (wCells done)∧Below w.heap.size w wr
theorem rlines_any (w:World)(s:ByteArray)(hs:s.size≤1000000000):
  Calls Tryz.prog 65 #[.string s] w fun e w'=>∃v,e= .returned v∧w'.ownsRow w.heap.size 9 1 v (linesL s.data.toList).length (wCells (linesL s.data.toList))∧Below w.heap.size w w':=by
 obtain⟨i1,hi1,hz10,hz11,hz12⟩:=info_parts Tryz.infosW9;obtain⟨L,hL⟩:∃L,L=s.data.toList:=⟨_,rfl⟩;have hLs:L.length=s.size:=by rw[hL];exact(Lib.size_eq s).symm
 rw[←hL];have HL:=hid (And.intro hL hLs);have H0:=hid (show MidV w w (.slice none 0 0) L 0 0 from ⟨[],LineAt.start L,Nat.le_refl _,World.ownsRow_nil _ _ _ _,Below.refl _ _⟩);clear hL hLs;have HOW:=hid (fun (X:ByteArray)=>(by intro u hu;simp only[List.mem_singleton]at hu;subst hu;rfl:∀u∈[Value.string X],u.oneCell'=true));go_enter Tryz.func65,Tryz.ntmps65;go_wp2_with fail;go_loopg [3,4,5] s.size (fun g v a i wr=>∃aa k:Nat,k+g=s.size∧aa≤k∧a= .int .i64 aa∧i= .int .i64 k∧Hid (MidV w wr v L aa k))
 case atStart=>exact⟨0,0,by omega,Nat.le_refl _,rfl,rfl,H0⟩
 case round=>
  obtain⟨aa,k,hk,hak,rfl,rfl,HM⟩:=hrel;obtain⟨done,hc,hdl,hrow,hb⟩:=HM.out;have hLs:=HL.out.2;have hrow2:=fun X:Value=>hrow.alloc (.cells #[X] 9);have hb2:=fun X:Value=>hb.alloc hb.size (.cells #[X] 9);have hdl2:done.length≤1000000000:=by omega
  have hk0:(0:Int)≤k:=by omega
  have HR:=hid (And.intro hrow (And.intro hb (And.intro hrow2 (And.intro hb2 (And.intro hc hdl)))));clear hdl hrow hb hrow2 hb2 HM;rcases Nat.eq_zero_or_pos gk with h0|h0
  ·have hks:k=s.size:=by omega
   subst hks;have hz:¬((s.size:Nat):Int)<s.size:=by omega
   have hfin:=(show LineAt L done aa L.length from by rw[hLs];exact hc).fin;by_cases ha:aa<s.size
   ·rw[if_pos (by omega)]at hfin;have HF:=hid hfin;have ha1:(0:Int)≤aa:=by omega
    have ha2:(aa:Int)<s.size:=by omega
    have ha3:(aa:Int)≤s.size:=by omega
    clear hc hfin hLs ha;go_wp2_with (at_builtin;refine wpList_append_own _ rfl _ _ 24 rfl w.heap.size 9 i1 (.string ⟨#[]⟩) 1 16 Tryz.underlying24 hi1 hz10 hz11 hz12 rfl (by decide) _ _ _ rfl (HR.out.2.2.1 _) ⟨wr.heap.size,0,none⟩ 1 1 [.string (s.extract aa s.size)] rfl rfl (news_row _ _ _) (HOW.out _) (by unfold maxLen;omega) (by omega) ((HR.out.2.2.2.1 (.string (s.extract aa s.size))).size) ?_);intro v' w4 hown4 hgrow4 _;have HX:=hid (And.intro (show w4.ownsRow w.heap.size 9 1 v' (linesL L).length (wCells (linesL L))by
     rw[HF.out,List.length_append,show wCells (done++[(L.drop aa).take (L.length-aa)])=wCells done++[.string (s.extract aa s.size)]by
      unfold wCells;rw[List.map_append,ext_ba,HL.out.2,HL.out.1];rfl]
     exact hown4) ((HR.out.2.2.2.1 (.string (s.extract aa s.size))).grown hgrow4 (HR.out.2.2.2.1 _).size (fun z hz=>(HR.out.1.lt z hz).1)))
    clear hown4 hgrow4;go_wp2_with fail;go_ret;exact⟨_,rfl,HX.out.1,HX.out.2⟩
   ·rw[if_neg (by omega)]at hfin;have HF:=hid hfin;have ha2:¬(aa:Int)<s.size:=by omega
    clear hc hfin hLs ha;go_wp2_with fail;go_ret;exact⟨_,rfl,by rw[HF.out];exact HR.out.1,HR.out.2.1⟩
  ·have hlt:(k:Int)<s.size:=by omega
   obtain⟨c,hcL⟩:∃c,L[k]?=some c:=⟨_,List.getElem?_eq_getElem (by omega)⟩;have hks2:k<s.size:=by omega
   have hget:s[k]'hks2=c:=by
    have h1:L[k]?=s.data[k]?:=by rw[HL.out.1,Array.getElem?_toList]
    rw[hcL]at h1;have h2:s.data[k]?=some (s.data[k]'hks2):=Array.getElem?_eq_getElem hks2;rw[h2]at h1;exact(Option.some.inj h1).symm
   by_cases h10:c=10
   ·subst h10;have HC:=hid (hc.cut (by omega) hcL);have ha1:(0:Int)≤aa:=by omega
    have ha2:(aa:Int)≤k:=by omega
    have ha3:(k:Int)≤s.size:=by omega
    have hb32:((s[k]'hks2).toNat)=10:=by rw[hget];rfl
    clear hc hcL hLs hget;go_wp2_with (at_builtin;refine wpList_append_own _ rfl _ _ 24 rfl w.heap.size 9 i1 (.string ⟨#[]⟩) 1 16 Tryz.underlying24 hi1 hz10 hz11 hz12 rfl (by decide) _ _ _ rfl (HR.out.2.2.1 _) ⟨wr.heap.size,0,none⟩ 1 1 [.string (s.extract aa k)] rfl rfl (news_row _ _ _) (HOW.out _) (by unfold maxLen;omega) (by omega) ((HR.out.2.2.2.1 (.string (s.extract aa k))).size) ?_);intro v' w4 hown4 hgrow4 _;have HM2:=hid (show MidV w w4 v' L (k+1) (k+1)from
     ⟨done++[(L.drop aa).take (k-aa)],HC.out,by rw[List.length_append];have:=HR.out.2.2.2.2.2;show done.length+1≤_;omega,by
      rw[List.length_append,show wCells (done++[(L.drop aa).take (k-aa)])=wCells done++[.string (s.extract aa k)]by
       unfold wCells;rw[List.map_append,ext_ba,HL.out.1];rfl]
      exact hown4,(HR.out.2.2.2.1 _).grown hgrow4 (HR.out.2.2.2.1 _).size (fun z hz=>(HR.out.1.lt z hz).1)⟩)
    clear hown4 hgrow4;go_wp2_with fail;go_roundg (gk-1)
    case measure=>omega
    case rel=>exact⟨k+1,k+1,by omega,Nat.le_refl _,by go_num,by go_num,HM2⟩
   ·have HC:=hid (hc.on (by omega) (by rw[hcL];intro e;exact h10 (Option.some.inj e)));have hb32:¬((s[k]'hks2).toNat=10):=by
     rw[hget];intro e;exact h10 (UInt8.toNat_inj.1 e)
    have hb33:(((s[k]'hks2).toNat:Int)==10)=false:=by simp;omega
    have HM2:=hid (show MidV w wr u3 L aa (k+1)from ⟨done,HC.out,by have:=HR.out.2.2.2.2.2;omega,HR.out.1,HR.out.2.1⟩);clear hc hcL hLs hget;go_wp2_with fail;go_roundg (gk-1)
    case measure=>omega
    case rel=>exact⟨aa,k+1,by omega,by omega,rfl,by go_num,HM2⟩
end Go.Proofs.YtfehpcbmdancoaaGreatDoor
set_option maxRecDepth 100000
set_option maxHeartbeats 4000000
namespace Go.Proofs.YtfehpcbmdancoaaGreatDoor
open Go Go.RowKit Go.Lib
theorem rat_none (s:ByteArray)(i:Int)(w:World)(hi:i<0∨(s.size:Int)≤i)(_hm:s.size≤1000000000000):
  Calls Tryz.prog 44 #[.string s,.int .i64 i] w fun e w'=>e= .returned (.tuple #[.agg #[.int .i64 0,.int .i64 0,.int .i64 0],.bool false])∧Below w.heap.size w w':=by
 by_cases h0:i<0
 ·clear hi;go_enter Tryz.func44,Tryz.ntmps44;go_wp2;exact bodyPost_ret (v:= .tuple #[.agg #[.int .i64 0,.int .i64 0,.int .i64 0],.bool false]) (by simp[results,Tryz.results44,go_sem]) rfl ⟨rfl,(Below.refl _ _).alloc (Nat.le_refl _) _⟩
 ·have h1:(s.size:Int)≤i:=by omega
  clear hi;go_enter Tryz.func44,Tryz.ntmps44;go_wp2;exact bodyPost_ret (v:= .tuple #[.agg #[.int .i64 0,.int .i64 0,.int .i64 0],.bool false]) (by simp[results,Tryz.results44,go_sem]) rfl ⟨rfl,(Below.refl _ _).alloc (Nat.le_refl _) _⟩
theorem rat_some (s:ByteArray)(p:Nat)(w:World)(hp:p<s.size)(hm:s.size≤1000000000000):
  Calls Tryz.prog 44 #[.string s,.int .i64 p] w fun e w'=>e= .returned (.tuple #[uVal p (s.data.toList.drop p),.bool true])∧Below w.heap.size w w':=by
 obtain⟨N,hN⟩:∃N,N=(decodeL (s.data.toList.drop p)).2:=⟨_,rfl⟩;obtain⟨C,hC⟩:∃C,C=uCode (s.data.toList.drop p):=⟨_,rfl⟩;have cU:∀wx,Calls Tryz.prog 89 #[.string s,.int .i64 p] wx fun e w'=>e= .returned (.agg #[.int .i64 p,.int .i64 N,.int .i64 C])∧Below wx.heap.size wx w':=by
  intro wx;have:=one_any s p wx hp hm;rwa[uVal,←hN,←hC]at this
 rw[uVal,←hN,←hC];have CU:=hid cU;clear cU hN hC;go_enter Tryz.func44,Tryz.ntmps44;go_wp2_with (go_at_call 89;refine(CU.out _).mono ?_;rintro e w2 ⟨rfl,hb2⟩;obtain⟨⟨z0,z1,z2⟩,f0,f1,f2⟩:=box3 hb2);exact bodyPost_ret (v:= .tuple #[.agg #[.int .i64 p,.int .i64 N,.int .i64 C],.bool true]) (by simp[results,Tryz.results44,go_sem,z0,z1,z2]) rfl ⟨rfl,(((((Below.refl _ _).alloc (Nat.le_refl _) _).trans (hb2.mono (by simp))).setCell (Nat.le_refl _) _).setCell (Nat.le_refl _) _).setCell (Nat.le_refl _) _⟩
def RallInv (s:ByteArray)(w:World)(B:Nat)(v:Value)(wr:World)(pos:Nat)(us:List (Nat×Nat×Int)):Prop:=
 pos≤s.size∧units 0 s.data.toList=us++units pos (s.data.toList.drop pos)∧us.length≤pos∧wr.ownsRow B 86 3 v us.length (us.flatMap uCells)∧Below B w wr∧B≤wr.heap.size
theorem RallInv.step {s:ByteArray}{w:World}{B:Nat}{v:Value}{wr:World}{pos:Nat}{us:List (Nat×Nat×Int)}(h:RallInv s w B v wr pos us)(hp:pos<s.size){N:Nat}{C:Int}
  (hN:N=(decodeL (s.data.toList.drop pos)).2) (hC:C=uCode (s.data.toList.drop pos)) {w3:World} (hb:Below wr.heap.size wr w3) {v':Value} {w4:World}
  (hown:w4.ownsRow B 86 3 v' (us.length+1) (us.flatMap uCells++[.int .i64 pos,.int .i64 N,.int .i64 C])) (hg:w3.grownBy w4 v.ownBlock):RallInv s w B v' w4 (pos+N) (us++[(pos,N,C)]):=by
 obtain⟨h1,h3,h4,h5,h6,h7⟩:=h;have hne:s.data.toList.drop pos≠[]:=by
  intro h0;have:=congrArg List.length h0;rw[List.length_drop,←Lib.size_eq,List.length_nil]at this;omega
 have hle:=decodeL_le _ hne;have hw:=decodeL_width (s.data.toList.drop pos);rw[List.length_drop,←Lib.size_eq]at hle;have hb6:Below B w w3:=h6.trans (hb.mono h7);refine⟨by omega,?_,by simp;omega,?_,hb6.grown hg (Nat.le_trans h7 hb.size) (fun k hk=>(h5.lt k hk).1),Nat.le_trans (Nat.le_trans h7 hb.size) hg.size⟩
 ·rw[h3,units_step pos _ hne,←hN,←hC,List.drop_drop];simp
 ·have:(us++[(pos,N,C)]).flatMap uCells=us.flatMap uCells++[.int .i64 pos,.int .i64 N,.int .i64 C]:=by simp[uCells]
  rw[this];simpa using hown
theorem cells_new2 (w:World)(o:Obj)(cs:List Value)(t:TypeId):∀j u,cs[j]?=some u→((w.alloc o).alloc (.cells cs.toArray t)).cell? ((⟨w.heap.size+1,0,none⟩:Addr).add j)=some u:=by
 have h:=cells_new (w.alloc o) cs t;have e:(w.alloc o).heap.size=w.heap.size+1:=by simp
 rwa[e]at h
theorem rall_any (s:ByteArray)(w:World)(hs:s.size≤1000000000000):
  Calls Tryz.prog 47 #[.string s] w fun e w'=>∃v,e= .returned v∧w'.ownsRow w.heap.size 86 3 v (units 0 s.data.toList).length ((units 0 s.data.toList).flatMap uCells)∧Below w.heap.size w w':=by
 obtain⟨i0,hi,hz0,hz1,hz2⟩:=info_parts Tryz.info86;go_enter Tryz.func47,Tryz.ntmps47;go_wp2;have hinv0:RallInv s w w.heap.size (.slice none 0 0) w 0 []:=⟨Nat.zero_le _,by simp,Nat.le_refl _,World.ownsRow_nil _ _ _ _,Below.refl _ _,Nat.le_refl _⟩
 go_loopw [3,4] (fun v i wr=>∃(pos:Nat) (us:List (Nat×Nat×Int)),i= .int .i64 pos∧Hid (RallInv s w w.heap.size v wr pos us)) (fun _ i _=>s.size-(RowKit.intOf i).toNat)
 case atStart=>exact⟨0,[],rfl,hinv0⟩
 case round=>
  obtain⟨pos,us,rfl,HI⟩:=hrel;have hpl:=HI.out.1;have hul:=HI.out.2.2.1;clear hinv0;by_cases hp:pos<s.size
  ·have hne:s.data.toList.drop pos≠[]:=by
    intro h0;have:=congrArg List.length h0;rw[List.length_drop,←Lib.size_eq,List.length_nil]at this;omega
   have hle:=decodeL_le _ hne;rw[List.length_drop,←Lib.size_eq]at hle;have hwd:=decodeL_width (s.data.toList.drop pos);obtain⟨N,hN⟩:∃N,N=(decodeL (s.data.toList.drop pos)).2:=⟨_,rfl⟩;obtain⟨C,hC⟩:∃C,C=uCode (s.data.toList.drop pos):=⟨_,rfl⟩;have cU:∀wx,Calls Tryz.prog 89 #[.string s,.int .i64 pos] wx fun e w'=>e= .returned (.agg #[.int .i64 pos,.int .i64 N,.int .i64 C])∧Below wx.heap.size wx w':=by
    intro wx;have:=one_any s pos wx hp hs;rwa[uVal,←hN,←hC]at this
   rw[←hN]at hle hwd;have CU:=hid cU;have HN:=hid hN;have HC:=hid hC;clear hN hC cU hne;go_wp2_with fail;refine(CU.out _).mono ?_;rintro e w3 ⟨rfl,hb3⟩;have hne3:some w3.heap.size≠u3.ownBlock:=by
    intro e;have:=(HI.out.2.2.2.1.lt _ e.symm).2;have:=hb3.size;omega
   have HNE:=hid hne3;clear hne3;go_wp2_with (at_builtin;refine wpList_append_own _ rfl _ _ 90 rfl w.heap.size 86 i0 (.agg #[.int .i64 0,.int .i64 0,.int .i64 0]) 3 24 Tryz.underlying90 hi hz0 hz1 hz2 rfl (by decide) _ _ _ rfl (((own_below HI.out.2.2.2.1 hb3).alloc _).alloc _) ⟨w3.heap.size+1,0,none⟩ 1 1 [.int .i64 pos,.int .i64 N,.int .i64 C] rfl rfl (cells_new2 _ _ _ _) (uCells_one (pos,N,C)) (by unfold maxLen;omega) (by omega) (by have:=hb3.size;have:=HI.out.2.2.2.2.2;simp;omega) ?_;intro v' w4 hown4 hgrow4 _;have m1:=hgrow4.cell (a:=⟨w3.heap.size,1,none⟩) (v:= .int .i64 N) (by simp) HNE.out);have hst:=hid (HI.out.step hp HN.out HC.out (((hb3.alloc hb3.size _).alloc (by have:=hb3.size;simp;omega) _)) hown4 hgrow4);clear hown4 hgrow4 hb3
   go_roundw
   case rel=>exact⟨pos+N,_,by go_num,hst.out⟩
   case measure=>simp[RowKit.intOf];omega
  ·go_wp2;go_ret;obtain⟨h1,h3,h4,h5,h6,h7⟩:=HI.out;have h0:s.data.toList.drop pos=[]:=List.drop_eq_nil_of_le (by rw[←Lib.size_eq];omega);rw[h0,units_nil,List.append_nil]at h3;exact⟨_,rfl,by rw[h3];exact h5,h6⟩
theorem cells3:∀(us:List (Nat×Nat×Int)) (k:Nat) (u:Nat×Nat×Int),us[k]?=some u→
  (us.flatMap uCells)[k*3]?=some (.int .i64 u.1)∧(us.flatMap uCells)[k*3+1]?=some (.int .i64 u.2.1)∧(us.flatMap uCells)[k*3+2]?=some (.int .i64 u.2.2)
 | [],k,u,h=>by simp at h
 | x::us,0,u,h=>by
   simp at h;subst h;simp[uCells]
 | x::us,k+1,u,h=>by
   have ih:=cells3 us k u (by simpa using h);have e:(x::us).flatMap uCells=uCells x++us.flatMap uCells:=rfl;have hl:(uCells x).length=3:=rfl;rw[e];refine⟨?_,?_,?_⟩
   ·rw[List.getElem?_append_right (by omega),hl,show (k+1)*3-3=k*3 by omega];exact ih.1
   ·rw[List.getElem?_append_right (by omega),hl,show (k+1)*3+1-3=k*3+1 by omega];exact ih.2.1
   ·rw[List.getElem?_append_right (by omega),hl,show (k+1)*3+2-3=k*3+2 by omega];exact ih.2.2
theorem own_open {w:World}{B e size n:Nat}{v:Value}{xs:List Value}(h:w.ownsRow B e size v n xs)(hn:0<n):
  ∃g cap,v= .slice (some ⟨g,0,none⟩) n cap∧B≤g∧g<w.heap.size∧n≤cap∧cap≤maxLen∧∀j u,xs[j]?=some u→w.cell? ⟨g,j,none⟩=some u:=by
 have hc:= @World.ownsRow.cells _ _ _ _ _ _ _ h;rcases h.2 with ⟨_,rfl⟩|⟨g,cap,cur,rfl,hb,hg,hnc,hcm,_⟩
 ·omega
 ·refine⟨g,cap,rfl,hb,(Array.getElem?_eq_some_iff.1 hg).1,hnc,hcm,fun j u hu=>?_⟩;have hadd:(⟨g,0,none⟩:Addr).add j=⟨g,j,none⟩:=by unfold Addr.add;split<;>simp_all
  rw[←hadd];exact hc (g:=g) rfl j u hu
theorem own_apart {w:World}{B e e' size size' n n':Nat}{v v':Value}{xs xs':List Value}(h:w.ownsRow B e size v n xs)(h':w.ownsRow B e' size' v' n' xs')(hne:e≠e'):v.ownBlock=none∨v.ownBlock≠v'.ownBlock:=by
 rcases h.2 with ⟨rfl,_⟩|⟨g,cap,cur,rfl,_,hg,_⟩
 ·left;rfl
 ·right;rcases h'.2 with ⟨rfl,_⟩|⟨g',cap',cur',rfl,_,hg',_⟩
  ·simp[Value.ownBlock]
  ·simp only[Value.ownBlock];intro e1;obtain rfl:g=g':=Option.some.inj e1;rw[hg]at hg';simp at hg';exact hne hg'.2
def RcodInv (w:World)(B:Nat)(us:List (Nat×Nat×Int))(vs:Value)(n:Nat)(v:Value)(wr:World)(k:Nat):Prop:=
 wr.ownsRow B 86 3 vs n (us.flatMap uCells)∧wr.ownsRow B 3 1 v k ((us.take k).map fun u=> .int .i64 u.2.2)∧((us.take k).all fun u=>decide (0≤u.2.2))=true∧Below B w wr∧B≤wr.heap.size
theorem RcodInv.step {w:World}{B:Nat}{us:List (Nat×Nat×Int)}{vs:Value}{n:Nat}{v:Value}{wr:World}{k:Nat}(h:RcodInv w B us vs n v wr k){u:Nat×Nat×Int}(hu:us[k]?=some u)(h0:0≤u.2.2)
  {v':Value} {w4:World} {o o':Obj} (hown:w4.ownsRow B 3 1 v' (k+1) (((us.take k).map fun u=> .int .i64 u.2.2)++[.int .i64 u.2.2])) (hg:((wr.alloc o).alloc o').grownBy w4 v.ownBlock):RcodInv w B us vs n v' w4 (k+1):=by
 obtain⟨h1,h2,h3,h4,h5⟩:=h;have ht:us.take (k+1)=us.take k++[u]:=by
  rw[List.take_add_one,hu];rfl
 refine⟨((h1.alloc o).alloc o').kept hg (own_apart h1 h2 (by decide)),?_,?_,?_,?_⟩
 ·rw[ht,List.map_append];exact hown
 ·rw[ht,List.all_append,h3];simp[h0]
 ·exact((h4.alloc h5 o).alloc (by simp;omega) o').grown hg (by simp;omega) (fun g hk=>(h2.lt g hk).1)
 ·have:=hg.size;simp at this;omega
theorem rcodes_any (s:ByteArray)(w:World)(hs:s.size≤1000000000000):
  Calls Tryz.prog 117 #[.string s] w fun e w'=>∃v,e= .returned (.tuple #[v,.bool (validD s.data.toList)])∧w'.ownsRow w.heap.size 3 1 v (codesL s.data.toList).length ((codesL s.data.toList).map (Value.int .i64))∧Below w.heap.size w w':=by
 obtain⟨i0,hi,hz0,hz1,hz2⟩:=info_parts Tryz.info3;have hlen:=units_length_le s.data.toList 0;rw[←Lib.size_eq]at hlen;have hvu:=validD_units s.data.toList 0;have hcl:codesL s.data.toList=if validD s.data.toList then(units 0 s.data.toList).map (·.2.2)else []:=rfl
 obtain⟨us,hus⟩:∃us,us=units 0 s.data.toList:=⟨_,rfl⟩;have cA:∀wx,Calls Tryz.prog 47 #[.string s] wx fun e w'=>∃A cap,e= .returned (.slice A us.length cap)∧us.length≤cap∧cap≤maxLen∧w'.ownsRow wx.heap.size 86 3 (.slice A us.length cap) us.length (us.flatMap uCells)∧Below wx.heap.size wx w':=by
  intro wx;rw[hus];refine(rall_any s wx hs).mono ?_;rintro e w' ⟨v,he,ho,hb⟩;rcases ho.2 with ⟨rfl,h0⟩|⟨g,cap,cur,rfl,_,_,hnc,hcm,_⟩
  ·exact⟨none,0,by rw[he,h0],by omega,by simp,by rw[h0]at ho⊢;exact ho,hb⟩
  ·exact⟨_,cap,he,hnc,hcm,ho,hb⟩
 rw[←hus]at hlen hvu hcl;obtain⟨n,hn⟩:∃n,n=us.length:=⟨_,rfl⟩;rw[←hn]at hlen cA;have CA:=hid cA;have HVU:=hid hvu;have HCL:=hid hcl;have HN:=hid hn;clear cA hvu hcl hus hn;go_enter Tryz.func117,Tryz.ntmps117;go_wp2_with fail;refine(CA.out _).mono ?_;rintro e w1 ⟨A,cap,rfl,hc1,hc2,hown1,hb1⟩;have hinv0:=hid (show RcodInv w w.heap.size us (.slice A n cap) n (.slice none 0 0) w1 0 from ⟨hown1,by simpa using World.ownsRow_nil w1 w.heap.size 3 1,by simp,hb1,hb1.size⟩);clear hown1 hb1;go_wp2_with fail;unfold maxLen at hc2
 go_loopw [4,10] (fun v i wr=>∃k:Nat,i= .int .i64 k∧k≤n∧Hid (RcodInv w w.heap.size us (.slice A n cap) n v wr k)) (fun _ i _=>n-(RowKit.intOf i).toNat)
 case atStart=>exact⟨0,rfl,Nat.zero_le _,hinv0.out⟩
 case round=>
  obtain⟨k,rfl,hkn,HI⟩:=hrel;clear hinv0;by_cases hk:k<n
  ·obtain⟨u,hu⟩:∃u,us[k]?=some u:=by
    have hql:k<us.length:=by rw[←HN.out];exact hk
    exact⟨us[k],List.getElem?_eq_getElem hql⟩
   obtain⟨g,cap',hA,_,hg,hcc,_,hcells⟩:=own_open HI.out.1 (by omega);simp only[Value.slice.injEq,true_and]at hA;obtain⟨rfl,rfl⟩:=hA;obtain⟨x0,x1,x2⟩:=cells3 us k u hu;have m0:=hcells _ _ x0;have m1:=hcells _ _ x1;have m2:=hcells _ _ x2;have HU:=hid hu;clear hcells x0 x1 x2 hu;obtain⟨ua,ub,uc⟩:=u;dsimp only at m0 m1 m2;by_cases hc:uc<0
   ·have hbad:validD s.data.toList=false:=by
     rw[HVU.out,Bool.eq_false_iff];intro hall;have:=List.all_eq_true.1 hall _ (List.mem_of_getElem? HU.out);simp at this;omega
    have hcod:codesL s.data.toList=[]:=by rw[HCL.out,hbad];rfl
    have HB:=hid (And.intro hbad hcod);clear hbad hcod;go_wp2;go_ret2;refine⟨_,by rw[HB.out.1];rfl,?_,HI.out.2.2.2.1.alloc HI.out.2.2.2.2 _⟩;rw[HB.out.2];exact World.ownsRow_nil _ _ _ _
   ·have hc0:0≤uc:=by omega
    go_wp2_with (at_builtin;refine wpList_append_own _ rfl _ _ 42 rfl w.heap.size 3 i0 (.int .i64 0) 1 8 Tryz.underlying42 hi hz0 hz1 hz2 rfl (by decide) _ _ _ rfl ((HI.out.2.1.alloc _).alloc _) ⟨wr.heap.size+1,0,none⟩ 1 1 [.int .i64 uc] rfl rfl (cells_new2 _ _ _ _) (ints_oneCell .i64 [uc]) (by unfold maxLen;omega) (by omega) (by have:=HI.out.2.2.2.2;simp;omega) ?_;intro v' w4 hown4 hgrow4 _);have hst:=hid (HI.out.step HU.out hc0 hown4 hgrow4);clear hown4 hgrow4
    go_roundw
    case rel=>exact⟨k+1,by go_num,by omega,hst.out⟩
    case measure=>simp[RowKit.intOf];omega
  ·have hkk:k=n:=by omega
   obtain⟨i1,i2,i3,i4,i5⟩:=HI.out;have htk:us.take k=us:=List.take_of_length_le (by rw[←HN.out];omega);rw[htk]at i2 i3;have hgood:validD s.data.toList=true:=by rw[HVU.out];exact i3
   have hcod:codesL s.data.toList=us.map (·.2.2):=by rw[HCL.out,hgood];rfl
   have HB:=hid (And.intro hgood (And.intro hcod (And.intro i2 i4)));clear hgood hcod i1 i2 i3 i4 i5 htk;go_wp2_with fail;go_ret2;refine⟨_,by rw[HB.out.1];rfl,?_,HB.out.2.2.2⟩;rw[HB.out.2.1,List.length_map,List.map_map,←HN.out,←hkk];exact HB.out.2.2.1
theorem rvalid_any (s:ByteArray)(w:World)(hs:s.size≤1000000000000):
  Calls Tryz.prog 180 #[.string s] w fun e w'=>e= .returned (.bool (validD s.data.toList))∧Below w.heap.size w w':=by
 have C:=hid (rcodes_any s w hs);go_enter Tryz.func180,Tryz.ntmps180;go_wp2_with (go_at_call 117;refine C.out.mono ?_);rintro e w1 ⟨v,rfl,-,hb⟩;have HB:=hid hb;clear hb;go_wp2_with fail;go_ret;exact⟨rfl,HB.out⟩
theorem ret_bool10 {a b:Bool}(h:a=b):Ending.returned (.bool a)= .returned (.bool b):=by rw[h]
theorem toL_data (s:ByteArray):s.toList=s.data.toList:=by rw[ByteArray.toList_eq]
theorem flagL_one (b:UInt8):flagL [b]=if (97≤b.toNat∧b.toNat≤122)∨(65≤b.toNat∧b.toNat≤90)then(b.toNat:Int)else 0:=rfl
theorem flagL_not {x:List UInt8}(h:x.length≠1):flagL x=0:=by
 match x,h with
 | [],_=>rfl
 | _::_::_,_=>rfl
theorem rflag_any (s:ByteArray)(w:World)(_hs:s.size≤1000000000000):
  Calls Tryz.prog 120 #[.string s] w fun e w'=>e= .returned (.int .i64 (flagL s.data.toList))∧w'=w:=by
 by_cases h1:s.size=1
 ·obtain⟨b,hb⟩:∃b,s.data.toList=[b]:=by
   have:s.data.toList.length=1:=by rw[←Lib.size_eq];exact h1
   exact List.length_eq_one_iff.1 this
  have hk:0<s.size:=by omega
  have hget:s[0]'hk=b:=by
   have h2:s.data.toList[0]?=s.data[0]?:=Array.getElem?_toList;rw[hb]at h2;have h3:s.data[0]?=some (s.data[0]'hk):=Array.getElem?_eq_getElem hk;rw[h3]at h2;exact(Option.some.inj h2).symm
  rw[hb,flagL_one];have hi:((s.size:Int)==1)=true:=by rw[h1];rfl
  have hi2:(0:Int)<s.size:=by omega
  obtain⟨x,hx⟩:∃x,x=b.toNat:=⟨_,rfl⟩;have hgx:(s[0]'hk).toNat=x:=by rw[hget,hx]
  have hlt:x<256:=by rw[hx];exact b.toNat_lt
  rw[←hx];clear hb hget hx;by_cases c1:97≤x
  ·by_cases c2:x≤122
   ·rw[if_pos (.inl ⟨c1,c2⟩)];have d1:(97:Int)≤x:=by omega
    have d2:(x:Int)≤122:=by omega
    go_enter Tryz.func120,Tryz.ntmps120;go_wp2_with fail;go_ret;exact⟨rfl,rfl⟩
   ·rw[if_neg (by omega)];have d1:(97:Int)≤x:=by omega
    have d2:¬(x:Int)≤122:=by omega
    have d3:(65:Int)≤x:=by omega
    have d4:¬(x:Int)≤90:=by omega
    go_enter Tryz.func120,Tryz.ntmps120;go_wp2_with fail;go_ret;exact⟨rfl,rfl⟩
  ·have d1:¬(97:Int)≤x:=by omega
   by_cases c2:65≤x
   ·have d3:(65:Int)≤x:=by omega
    by_cases c3:x≤90
    ·rw[if_pos (.inr ⟨c2,c3⟩)];have d4:(x:Int)≤90:=by omega
     go_enter Tryz.func120,Tryz.ntmps120;go_wp2_with fail;go_ret;exact⟨rfl,rfl⟩
    ·rw[if_neg (by omega)];have d4:¬(x:Int)≤90:=by omega
     go_enter Tryz.func120,Tryz.ntmps120;go_wp2_with fail;go_ret;exact⟨rfl,rfl⟩
   ·rw[if_neg (by omega)];have d3:¬(65:Int)≤x:=by omega
    go_enter Tryz.func120,Tryz.ntmps120;go_wp2_with fail;go_ret;exact⟨rfl,rfl⟩
 ·rw[flagL_not (by rw[←Lib.size_eq];exact h1)];have hi:((s.size:Int)==1)=false:=by simp;omega
  clear h1;go_enter Tryz.func120,Tryz.ntmps120;go_wp2_with fail;go_ret;exact⟨rfl,rfl⟩
theorem rpart_any (s:ByteArray)(w:World)(hs:s.size≤1000000000000):
  Calls Tryz.prog 121 #[.string s] w fun e w'=>(∃t,e= .returned (.tuple #[.string t,.bool (partL s.data.toList).isSome])∧∀u,partL s.data.toList=some u→t=u)∧Below w.heap.size w w':=by
 have V:=hid (rvalid_any s w hs);go_enter Tryz.func121,Tryz.ntmps121;go_wp2_with (go_at_call 180;refine V.out.mono ?_;rintro e w1 ⟨rfl,hb⟩)
 ·rename_i h;go_ret2;have h2:s.data.toList=[48]:=by rw[←toL_data];simpa using h
  have hp:partL s.data.toList=some ⟨#[]⟩:=by unfold partL;rw[if_pos h2]
  rw[hp];exact⟨⟨_,rfl,fun u hu=>Option.some.inj hu⟩,Below.refl _ _⟩
 ·rename_i h1 h;go_ret2;have h2:s.data.toList=[]:=by rw[←toL_data];exact h
  have hp:partL s.data.toList=none:=by unfold partL;rw[if_neg (by rw[h2];simp),if_neg (by rw[h2];simp)]
  rw[hp];exact⟨⟨_,rfl,fun u hu=>by cases hu⟩,Below.refl _ _⟩
 ·rename_i h1 h2 h3;go_ret2;have h4:¬s.data.toList=[48]:=by rw[←toL_data];simpa using h1
  have h5:¬s.data.toList=[]:=by rw[←toL_data];exact h2
  have h6:s.toList.isEmpty=false:=by simpa using h2
  have h7:s.data.toList.length≤20:=by rw[←Lib.size_eq];omega
  cases hv:validD s.data.toList with
  | true=>
    have hp:partL s.data.toList=some s:=by unfold partL;rw[if_neg h4,if_pos ⟨h5,h7,hv⟩,ba_list]
    rw[hp];refine⟨⟨s,?_,fun u hu=>Option.some.inj hu⟩,hb⟩;show Ending.returned (.tuple #[.string s,.bool (!s.toList.isEmpty&&true)])=_;rw[h6];rfl
  | false=>
    have hp:partL s.data.toList=none:=by unfold partL;rw[if_neg h4,if_neg (by rw[hv];simp)]
    rw[hp];refine⟨⟨s,?_,fun u hu=>by cases hu⟩,hb⟩;show Ending.returned (.tuple #[.string s,.bool (!s.toList.isEmpty&&false)])=_;rw[h6];rfl
 ·rename_i h1 h2 h3;go_ret2;have h4:¬s.data.toList=[48]:=by rw[←toL_data];simpa using h1
  have h7:¬s.data.toList.length≤20:=by rw[←Lib.size_eq];omega
  have hp:partL s.data.toList=none:=by unfold partL;rw[if_neg h4,if_neg (fun h=>h7 h.2.1)]
  rw[hp];exact⟨⟨_,rfl,fun u hu=>by cases hu⟩,Below.refl _ _⟩
def begins (s t:ByteArray):Bool:=decide (t.size≤s.size∧s.extract 0 t.size=t)
def endsW (s t:ByteArray):Bool:=decide (t.size≤s.size∧s.extract (s.size-t.size) s.size=t)
theorem ba_beq (a b:ByteArray):(a.toList==b.toList)=decide (a=b):=by
 rw[Bool.eq_iff_iff,beq_iff_eq,decide_eq_true_eq,toL_data,toL_data];constructor
 ·intro h;rw[←ba_list a,h,ba_list]
 ·intro h;rw[h]
theorem rbegins_any (s t:ByteArray)(w:World)(_hs:s.size≤1000000000000)(ht:t.size≤1000000000000):
  Calls Tryz.prog 181 #[.string s,.string t] w fun e w'=>e= .returned (.bool (begins s t))∧w'=w:=by
 by_cases h:t.size≤s.size
 ·have hd:begins s t=decide (s.extract 0 t.size=t):=by unfold begins;simp[h]
  rw[hd];have h1:(t.size:Int)≤s.size:=by omega
  have h2:(0:Int)≤t.size:=by omega
  have hb:=ba_beq (s.extract 0 t.size) t;clear hd h;go_enter Tryz.func181,Tryz.ntmps181;go_wp2_with fail;go_ret;exact⟨by first|rfl|exact ret_bool10 (by simpa using hb),rfl⟩
 ·have hd:begins s t=false:=by unfold begins;simp[h]
  rw[hd];have h1:¬(t.size:Int)≤s.size:=by omega
  clear hd h;go_enter Tryz.func181,Tryz.ntmps181;go_wp2_with fail;go_ret;exact⟨rfl,rfl⟩
theorem rends10_any (s t:ByteArray)(w:World)(hs:s.size≤1000000000000)(ht:t.size≤1000000000000):
  Calls Tryz.prog 183 #[.string s,.string t] w fun e w'=>e= .returned (.bool (endsW s t))∧w'=w:=by
 by_cases h:t.size≤s.size
 ·have hd:endsW s t=decide (s.extract (s.size-t.size) s.size=t):=by unfold endsW;simp[h]
  rw[hd];obtain⟨k,hk⟩:∃k,k=s.size-t.size:=⟨_,rfl⟩;have h1:(t.size:Int)≤s.size:=by omega
  have h2:(s.size:Int)-t.size=k:=by omega
  have h3:(0:Int)≤k:=by omega
  have h4:(k:Int)≤s.size:=by omega
  rw[←hk];have hb:=ba_beq (s.extract k s.size) t;clear hd h hk;go_enter Tryz.func183,Tryz.ntmps183;go_wp2_with fail;go_ret;exact⟨by first|rfl|exact ret_bool10 (by simpa using hb),rfl⟩
 ·have hd:endsW s t=false:=by unfold endsW;simp[h]
  rw[hd];have h1:¬(t.size:Int)≤s.size:=by omega
  clear hd h;go_enter Tryz.func183,Tryz.ntmps183;go_wp2_with fail;go_ret;exact⟨rfl,rfl⟩
end Go.Proofs.YtfehpcbmdancoaaGreatDoor
namespace Go.Proofs.YtfehpcbmdancoaaGreatDoor.Ls
open Go Go.RowKit Go.Lib
def okB (b:UInt8):Bool:=decide (33≤b.toNat∧b≠47∧b≠35)
theorem byte_at {s:ByteArray}{k:Nat}(h:k<s.size):∃c,s.data.toList[k]?=some c∧s[k]'h=c:=by
 have h1:s.data.toList[k]?=s.data[k]?:=Array.getElem?_toList;have h2:s.data[k]?=some (s.data[k]'h):=Array.getElem?_eq_getElem h;exact⟨_,h1.trans h2,rfl⟩
theorem eword_any (w:World)(s:ByteArray)(hs:s.size≤1000000000):
  Calls Tryz.prog 123 #[.string s] w fun e w'=>e= .returned (.bool (wordOk s.data.toList))∧Below w.heap.size w w':=by
 have hsl:s.data.toList.length=s.size:=(Lib.size_eq s).symm;obtain⟨L,hL⟩:∃L,L=s.data.toList:=⟨_,rfl⟩;obtain⟨R,hR⟩:∃R,R=wordOk s.data.toList:=⟨_,rfl⟩;have CV:=hid (rvalid_any s w (by omega));rw[←hL]at CV hsl;rw[←hR];have HL:=hid (And.intro hL hsl);have HR:=hid (show R=(decide (L≠[])&&L.all okB&&validD L)by rw[hR,hL];rfl);have HE:=hid (show s.toList.isEmpty=decide (L=[])by rw[toL_data,←hL];cases L<;>rfl);clear hL hsl hR;go_enter Tryz.func123,Tryz.ntmps123;go_wp2_with fail;go_loopg [3] s.size (fun g i wr=>∃k:Nat,k+g=s.size∧i= .int .i64 k∧w=wr∧Hid (∀j c,j<k→L[j]?=some c→okB c=true))
 case atStart=>exact⟨0,by omega,rfl,rfl,hid fun j c hj=>absurd hj (Nat.not_lt_zero _)⟩
 case round=>
  obtain⟨k,hk,rfl,rfl,HK⟩:=hrel;have hk0:(0:Int)≤k:=by omega
  rcases Nat.eq_zero_or_pos gk with h0|h0
  ·have hkn:¬(k:Int)<s.size:=by omega
   have hall:L.all okB=true:=by
    rw[List.all_eq_true];intro c hc;obtain⟨j,hj,hje⟩:=List.getElem_of_mem hc;exact HK.out j c (by have:=HL.out.2;omega) (by rw[List.getElem?_eq_getElem hj,hje])
   by_cases hz:L=[]
   ·have hR0:R=false:=by rw[HR.out,hz];rfl
    subst hR0;have he:s.toList.isEmpty=true:=by rw[HE.out];exact decide_eq_true hz
    clear hz hall;go_wp2_with fail;go_ret;exact⟨rfl,Below.refl _ _⟩
   ·have hR1:R=validD L:=by rw[HR.out,hall,decide_eq_true (p:=L≠[]) hz];simp
    rw[←hR1]at CV;have he:s.toList.isEmpty=false:=by rw[HE.out];exact decide_eq_false hz
    clear hz hall hR1;go_wp2_with (go_at_call 180;refine CV.out.mono ?_;rintro e w2 ⟨rfl,hb⟩;have HB:=hid hb;clear hb);go_ret;exact⟨rfl,HB.out⟩
  ·have hkn:(k:Int)<s.size:=by omega
   have hks:k<s.size:=by omega
   obtain⟨c,hc,hget⟩:=byte_at hks;rw[←HL.out.1]at hc;obtain⟨x,hx⟩:∃x,x=c.toNat:=⟨_,rfl⟩;have hgx:(s[k]'hks).toNat=x:=by rw[hget,hx]
   have HC:=hid hc;have NO:=hid (show okB c=false→R=false from fun h=>by
    have h2:L.all okB=false:=by
     rw[List.all_eq_false];exact⟨c,List.mem_of_getElem? hc,by rw[h];decide⟩
    rw[HR.out,h2];simp)
   have OK:=hid (show okB c=decide (33≤x∧x≠47∧x≠35)by
    unfold okB;rw[hx];exact decide_eq_decide.2 ⟨fun h=>⟨h.1,fun e=>h.2.1 (UInt8.toNat_inj.1 e),fun e=>h.2.2 (UInt8.toNat_inj.1 e)⟩,fun h=>⟨h.1,fun e=>h.2.1 (by rw[e];rfl),fun e=>h.2.2 (by rw[e];rfl)⟩⟩)
   clear hget hc hx;by_cases c1:x<33
   ·have hR0:R=false:=NO.out (by rw[OK.out];exact decide_eq_false (by omega));subst hR0;have d1:(x:Int)<33:=by omega
    go_wp2_with fail;go_ret;exact⟨rfl,Below.refl _ _⟩
   have d1:¬(x:Int)<33:=by omega
   by_cases c2:x=47
   ·have hR0:R=false:=NO.out (by rw[OK.out];exact decide_eq_false (by omega));subst hR0;have d2:((x:Int)==47)=true:=by simp;omega
    clear c2;go_wp2_with fail;go_ret;exact⟨rfl,Below.refl _ _⟩
   have d2:((x:Int)==47)=false:=by simp;omega
   by_cases c3:x=35
   ·have hR0:R=false:=NO.out (by rw[OK.out];exact decide_eq_false (by omega));subst hR0;have d3:((x:Int)==35)=true:=by simp;omega
    clear c3;go_wp2_with fail;go_ret;exact⟨rfl,Below.refl _ _⟩
   have d3:((x:Int)==35)=false:=by simp;omega
   have HK2:=hid (show∀j c,j<k+1→L[j]?=some c→okB c=true from fun j c' hj hj'=>by
    rcases Nat.lt_or_ge j k with h|h
    ·exact HK.out j c' h hj'
    ·obtain rfl:j=k:=by omega
     rw[HC.out]at hj';rw[←Option.some.inj hj',OK.out];exact decide_eq_true (by omega))
   clear c1 c2 c3;go_wp2_with fail;go_roundg (gk-1)
   case measure=>omega
   case rel=>exact⟨k+1,by omega,by go_num,rfl,HK2⟩
def Stops (w:World)(b:Nat):Prop:=w.cell? ⟨b,0,none⟩=some (.int .u8 47)∧w.cell? ⟨b,1,none⟩=some (.int .u8 35)
theorem gcont_any (w:World)(b x:Nat)(h:Stops w b):
  Calls Tryz.prog 150 #[.slice (some ⟨b,0,none⟩) 2 2,.int .u8 x] w fun e w'=>e= .returned (.bool (decide (x=47∨x=35)))∧w'=w:=by
 have CI:Calls Tryz.prog 203 #[.slice (some ⟨b,0,none⟩) 2 2,.int .u8 x] w fun e w'=>(∃r:Int,e= .returned (.int .i64 r)∧decide (0≤r)=decide (x=47∨x=35))∧w'=w:=by
  obtain⟨h0,h1⟩:=h;go_enter Tryz.func203,Tryz.ntmps203;go_wp2_with fail;go_loopg [5,8] 2 (fun g _ i wr=>∃k:Nat,k+g=2∧i= .int .i64 k∧w=wr∧Hid ((0<k→x≠47)∧(1<k→x≠35)))
  case atStart=>exact⟨0,by omega,rfl,rfl,hid ⟨fun h=>absurd h (Nat.lt_irrefl _),fun h=>by omega⟩⟩
  case round=>
   obtain⟨k,hk,rfl,rfl,HK⟩:=hrel;have hcs:k=0∨k=1∨k=2:=by omega
   rcases hcs with rfl|rfl|rfl
   ·by_cases hx:x=47
    ·have d:((x:Int)==47)=true:=by simp;omega
     have HR:=hid (show decide ((0:Int)≤0)=decide (x=47∨x=35)by rw[decide_eq_true (Or.inl hx:x=47∨x=35)];rfl);clear hx;go_wp2_with fail;go_ret;exact⟨⟨_,rfl,HR.out⟩,rfl⟩
    ·have d:((x:Int)==47)=false:=by simp;omega
     have HX:=hid hx;clear hx;go_wp2_with fail;go_roundg (gk-1)
     case measure=>omega
     case rel=>exact⟨1,by omega,by go_num,rfl,hid ⟨fun _=>HX.out,fun h=>by omega⟩⟩
   ·have hx47:=HK.out.1 (by omega);by_cases hx:x=35
    ·have d:((x:Int)==35)=true:=by simp;omega
     have HR:=hid (show decide ((0:Int)≤1)=decide (x=47∨x=35)by rw[decide_eq_true (Or.inr hx:x=47∨x=35)];rfl);clear hx hx47;go_wp2_with fail;go_ret;exact⟨⟨_,rfl,HR.out⟩,rfl⟩
    ·have d:((x:Int)==35)=false:=by simp;omega
     have HX:=hid (And.intro hx47 hx);clear hx hx47;go_wp2_with fail;go_roundg (gk-1)
     case measure=>omega
     case rel=>exact⟨2,by omega,by go_num,rfl,hid ⟨fun _=>HX.out.1,fun _=>HX.out.2⟩⟩
   ·have hx47:=HK.out.1 (by omega);have hx35:=HK.out.2 (by omega);have HR:=hid (show decide ((0:Int)≤ -1)=decide (x=47∨x=35)by rw[decide_eq_false (by omega:¬(x=47∨x=35))];rfl);clear hx47 hx35 HK;go_wp2_with fail;go_ret;exact⟨⟨_,rfl,HR.out⟩,rfl⟩
 have C:=hid CI;clear CI h;obtain⟨R,hR⟩:∃R,R=decide (x=47∨x=35):=⟨_,rfl⟩;rw[←hR]at C⊢;clear hR;go_enter Tryz.func150,Tryz.ntmps150;go_wp2_with (go_at_call 203;refine C.out.mono ?_;rintro e w1 ⟨⟨r,rfl,hr⟩,hw⟩;have hw2:=hw.symm;clear hw;subst hw2);go_ret;exact⟨rfl,rfl⟩
def CutAns (L:List UInt8)(e:Ending):Prop:=∃a b:ByteArray,e= .returned (.tuple #[.string a,.string b])∧a.data.toList=L.takeWhile nst∧b.data.toList=L.dropWhile nst
theorem upto_nst (L:List UInt8):L.take (L.takeWhile nst).length=L.takeWhile nst∧L.drop (L.takeWhile nst).length=L.dropWhile nst:=by
 have h:L.takeWhile nst++L.dropWhile nst=L:=List.takeWhile_append_dropWhile;constructor
 ·conv=>lhs;arg 2;rw[←h]
  rw[List.take_left]
 ·conv=>lhs;arg 2;rw[←h]
  rw[List.drop_left]
theorem gcut_any (w:World)(s:ByteArray)(b:Nat)(hs:s.size≤1000000000)(hb:b<w.heap.size)(h:Stops w b):
  Calls Tryz.prog 96 #[.string s,.slice (some ⟨b,0,none⟩) 2 2] w fun e w'=>CutAns s.data.toList e∧Below w.heap.size w w':=by
 have hsl:s.data.toList.length=s.size:=(Lib.size_eq s).symm;obtain⟨L,hL⟩:∃L,L=s.data.toList:=⟨_,rfl⟩;rw[←hL]at hsl⊢;obtain⟨p,hp⟩:∃p,p=(L.takeWhile nst).length:=⟨_,rfl⟩;have hps:p≤s.size:=by
  have:=congrArg List.length (upto_nst L).1;rw[List.length_take]at this;omega
 have BYT:=hid (show∀k (h:k<s.size),∃c,L[k]?=some c∧s[k]'h=c from fun k h=>by rw[hL];exact byte_at h);have HL:=hid (And.intro hL hsl);have HP:=hid hp;have CC:=hid (fun wx x (hb2:Below w.heap.size w wx)=>gcont_any wx b x ⟨(cell_old (p:=⟨b,0,none⟩) hb2 hb).trans h.1,(cell_old (p:=⟨b,1,none⟩) hb2 hb).trans h.2⟩);have BEF:=hid (show∀k c,L[k]?=some c→k<p→nst c=true from fun k c hc hk=>by
  apply takeW_mem (p:=nst) L;have h1:(L.takeWhile nst)[k]?=some c:=by
   rw[←(upto_nst L).1,List.getElem?_take,if_pos (by omega)];exact hc
  exact List.mem_of_getElem? h1)
 have ATP:=hid (show∀c,L[p]?=some c→nst c=false from fun c hc=>by
  rw[hp]at hc;have h1:(L.dropWhile nst).head?=some c:=by
   rw[←(upto_nst L).2,List.head?_drop];exact hc
  cases hd:L.dropWhile nst with
  | nil=>rw[hd]at h1;cases h1
  | cons y r=>
    rw[hd]at h1;obtain rfl:=Option.some.inj h1;exact dropW_head L y r hd)
 clear hL hsl hp h hb;go_enter Tryz.func96,Tryz.ntmps96;go_wp2_with fail;go_loopg [6,9] (s.size+1) (fun g _ i wr=>∃k:Nat,k+g=s.size+1∧i= .int .i64 k∧k≤p∧Hid (Below w.heap.size w wr))
 case atStart=>exact⟨0,by omega,rfl,Nat.zero_le _,hid (Below.refl _ _)⟩
 case round=>
  obtain⟨k,hk,rfl,hkp,HB⟩:=hrel;have hk0:(0:Int)≤k:=by omega
  by_cases hend:k=s.size
  ·have hlt:¬(k:Int)<s.size:=by omega
   have HR:=hid (show CutAns L (.returned (.tuple #[.string s,.string ⟨#[]⟩]))from ⟨_,_,rfl,by
    rw[←HL.out.1,←(upto_nst L).1,←HP.out,List.take_of_length_le (by have:=HL.out.2;omega)],by
    rw[←(upto_nst L).2,←HP.out,List.drop_of_length_le (by have:=HL.out.2;omega)]⟩)
   clear hend;go_wp2_with fail;go_ret2;exact⟨HR.out,HB.out⟩
  ·have hlt:(k:Int)<s.size:=by omega
   have hks:k<s.size:=by omega
   obtain⟨c,hc,hget⟩:=BYT.out k hks;obtain⟨x,hx⟩:∃x,x=c.toNat:=⟨_,rfl⟩;have hgx:(s[k]'hks).toNat=x:=by rw[hget,hx]
   have hns:nst c= !(decide (x=47∨x=35)):=by
    unfold nst;rw[hx,←decide_not];apply decide_eq_decide.2;rw[not_or];exact⟨fun h=>⟨fun e=>h.1 (UInt8.toNat_inj.1 (e.trans rfl)),fun e=>h.2 (UInt8.toNat_inj.1 (e.trans rfl))⟩,fun h=>⟨fun e=>h.1 (by rw[e];rfl),fun e=>h.2 (by rw[e];rfl)⟩⟩
   have C1:=hid (CC.out wr x HB.out);by_cases hkp2:k=p
   ·have h0:=ATP.out c (by rw[←hkp2];exact hc);have hd:decide (x=47∨x=35)=true:=by rw[hns]at h0;rwa[Bool.not_eq_false']at h0
    rw[hd]at C1;have k1:(k:Int)≤s.size:=by omega
    have HR:=hid (show CutAns L (.returned (.tuple #[.string (s.extract 0 k),.string (s.extract k s.size)]))from ⟨_,_,rfl,by
     rw[ext_list,←HL.out.1,List.drop_zero,Nat.sub_zero,hkp2,HP.out,(upto_nst L).1],by
     rw[ext_list,←HL.out.1,List.take_of_length_le (by rw[List.length_drop,HL.out.2];exact Nat.le_refl _),hkp2,HP.out,(upto_nst L).2]⟩)
    clear hc hget hx hns h0 hd hkp2 hend;go_upto_region 5 with(go_at_call 150;refine C1.out.mono ?_;rintro e w1 ⟨rfl,hw⟩;have hw2:=hw.symm;clear hw;subst hw2);go_quiet (fail);have HB3:=hid (below_drewN HB.out nq);go_wp2_with fail;go_ret2;exact⟨HR.out,HB3.out⟩
   ·have h0:=BEF.out k c hc (by omega);have hd:decide (x=47∨x=35)=false:=by rw[hns]at h0;rwa[Bool.not_eq_true']at h0
    rw[hd]at C1;clear hc hget hx hns h0 hd;go_wp2_with (go_at_call 150;refine C1.out.mono ?_;rintro e w1 ⟨rfl,hw⟩;have hw2:=hw.symm;clear hw;subst hw2);go_roundg (gk-1)
    case measure=>omega
    case rel=>exact⟨k+1,by omega,by go_num,by omega,HB⟩
theorem gmin_any (w:World)(v:Value)(cs:List Int)(h:IntsAt w v cs)(h0:0<cs.length):
  Calls Tryz.prog 151 #[v] w fun e w'=>(∃m:Int,e= .returned (.int .i64 m)∧m∈cs∧∀c∈cs,m≤c)∧w'=w:=by
 have hbig:=ints_bd h;obtain⟨A,cap,rfl,hA⟩:=ints_open h;obtain⟨n,hn⟩:∃n,n=cs.length:=⟨_,rfl⟩;obtain⟨c0,hc0⟩:∃c,cs[0]?=some c:=⟨_,List.getElem?_eq_getElem h0⟩;obtain⟨q,o,rfl,hq,hcap,x0⟩:=hA 0 c0 hc0;have HA:=hid (show∀(i:Nat) c,cs[i]?=some c→w.cell? ⟨q,o+i,none⟩=some (.int .i64 c)from fun i c hi=>by
  obtain⟨q',o',e,_,_,hx⟩:=hA i c hi;injection e with e;injection e with e1 e2;subst e1 e2;exact hx)
 have x00:w.cell? ⟨q,o,none⟩=some (.int .i64 c0):=x0;rw[←hn]at hbig h0 hcap⊢;have HN:=hid hn;have HC0:=hid hc0;have n1:¬(n:Int)<1:=by omega
 have n2:(0:Int)<n:=by omega
 have n3:(n:Int)≤cap:=by omega
 clear h hA hn hc0 x0;go_enter Tryz.func151,Tryz.ntmps151;go_wp2_with fail;go_loopg [3,4] (n-1) (fun g mv i wr=>∃(k:Nat) (m:Int),k+g=n∧1≤k∧mv= .int .i64 m∧i= .int .i64 k∧w=wr∧Hid (m∈cs∧∀j c,j<k→cs[j]?=some c→m≤c))
 case atStart=>exact⟨1,c0,by omega,Nat.le_refl _,rfl,rfl,rfl,hid ⟨List.mem_of_getElem? HC0.out,fun j c hj hc=>by
  obtain rfl:j=0:=by omega
  rw[HC0.out]at hc;rw[Option.some.inj hc];exact Int.le_refl _⟩⟩
 case round=>
  obtain⟨k,m,hk,hk1,rfl,rfl,rfl,HK⟩:=hrel;have hk0:(0:Int)≤k:=by omega
  rcases Nat.eq_zero_or_pos gk with hz|hz
  ·have hkn:¬(k:Int)<n:=by omega
   have HR:=hid (show∀c∈cs,m≤c from fun c hc=>by
    obtain⟨j,hj,hje⟩:=List.getElem_of_mem hc;exact HK.out.2 j c (by have:=HN.out;omega) (by rw[List.getElem?_eq_getElem hj,hje]))
   go_wp2_with fail;go_ret;exact⟨⟨_,rfl,HK.out.1,HR.out⟩,rfl⟩
  ·have hkn:(k:Int)<n:=by omega
   obtain⟨c,hc⟩:∃c,cs[k]?=some c:=⟨_,List.getElem?_eq_getElem (by have:=HN.out;omega)⟩;have xk:=HA.out k c hc;have HC:=hid hc;clear hc;by_cases hmc:m≤c
   ·have hmin:min m c=m:=Int.min_eq_left hmc;have HK2:=hid (show m∈cs∧∀j x,j<k+1→cs[j]?=some x→m≤x from ⟨HK.out.1,fun j x hj hx=>by
     rcases Nat.lt_or_ge j k with h|h
     ·exact HK.out.2 j x h hx
     ·obtain rfl:j=k:=by omega
      rw[HC.out]at hx;rw[←Option.some.inj hx];exact hmc⟩)
    go_wp2_with fail;go_roundg (gk-1)
    case measure=>omega
    case rel=>exact⟨k+1,m,by omega,by omega,rfl,by go_num,rfl,HK2⟩
   ·have hmin:min m c=c:=Int.min_eq_right (by omega);have HK2:=hid (show c∈cs∧∀j x,j<k+1→cs[j]?=some x→c≤x from ⟨List.mem_of_getElem? HC.out,fun j x hj hx=>by
     rcases Nat.lt_or_ge j k with h|h
     ·have:=HK.out.2 j x h hx;omega
     ·obtain rfl:j=k:=by omega
      rw[HC.out]at hx;rw[←Option.some.inj hx];exact Int.le_refl _⟩)
    have hmc2:c<m:=by omega
    go_wp2_with fail;go_roundg (gk-1)
    case measure=>omega
    case rel=>exact⟨k+1,c,by omega,by omega,rfl,by go_num,rfl,HK2⟩
theorem isW_codes (l:List UInt8):isW l=(validD l&&(decide (0<(codesL l).length)&&(codesL l).all fun c=>decide (33≤c))):=by
 unfold isW codesB codesL;cases h:validD l<;>simp
theorem gisword_any (w:World)(s:ByteArray)(hs:s.size≤1000000000)(hT:Lib.Utf8Tabs 1 2 w):
  Calls Tryz.prog 97 #[.string s] w fun e w'=>e= .returned (.bool (isW s.data.toList))∧Below w.heap.size w w':=by
 have CO:=hid (codes_any s w (by omega) hT);have HW:=hid (isW_codes s.data.toList);obtain⟨R,hR⟩:∃R,R=isW s.data.toList:=⟨_,rfl⟩;rw[←hR]at HW⊢;obtain⟨cs,hcs⟩:∃cs,cs=codesL s.data.toList:=⟨_,rfl⟩;obtain⟨ok,hok⟩:∃ok,ok=validD s.data.toList:=⟨_,rfl⟩;rw[←hcs,←hok]at CO HW;clear hT hR hcs hok;obtain⟨n,hn⟩:∃n,n=cs.length:=⟨_,rfl⟩;rw[←hn]at CO HW;have HN:=hid hn;clear hn;cases ok with
 | false=>
   obtain rfl:R=false:=HW.out;go_enter Tryz.func97,Tryz.ntmps97;go_wp2_with (go_at_call 143;refine CO.out.mono ?_;rintro e w1 ⟨v,rfl,-,hb⟩;have HB:=hid hb;clear hb);go_ret;exact⟨rfl,HB.out⟩
 | true=>
   by_cases h0:n=0
   ·subst h0;obtain rfl:R=false:=HW.out;go_enter Tryz.func97,Tryz.ntmps97;go_wp2_with (go_at_call 143;refine CO.out.mono ?_;rintro e w1 ⟨v,rfl,hown,hb⟩;obtain⟨A,cap,rfl⟩:=own_shape hown;have HB:=hid hb;clear hb hown);go_ret;exact⟨rfl,HB.out⟩
   ·have hn0:(0:Int)<n:=by omega
    have hW2:=HW.out;rw[decide_eq_true (by omega:0<n)]at hW2;simp only[Bool.true_and]at hW2;have HW2:=hid hW2;clear hW2 HW;go_enter Tryz.func97,Tryz.ntmps97;go_wp2_with (first
     | (go_at_call 143;refine CO.out.mono ?_;rintro e w1 ⟨v,rfl,hown,hb⟩;have CM:=hid (gmin_any w1 v cs (ints_own (by rw[←HN.out];exact hown)) (by have:=HN.out;omega));obtain⟨A,cap,rfl⟩:=own_shape hown;have HB:=hid hb;clear hb hown)
     | (go_at_call 151;refine CM.out.mono ?_;rintro e w2 ⟨⟨m,rfl,hm1,hm2⟩,hw⟩;have hw2:=hw.symm;clear hw;subst hw2;have HM:=hid (And.intro hm1 hm2);clear hm1 hm2))
    go_ret;refine⟨?_,HB.out⟩;rw[HW2.out];show Ending.returned (.bool (decide ((33:Int)≤m)))=_;congr 2;rw[Bool.eq_iff_iff,decide_eq_true_iff,List.all_eq_true];exact⟨fun h c hc=>decide_eq_true (Int.le_trans h (HM.out.2 c hc)),fun h=>of_decide_eq_true (h m HM.out.1)⟩
def FlagAns (B:Nat)(fs:List UInt8)(e:Ending)(w':World):Prop:=
 ∃A n c b,e= .returned (.tuple #[.slice A n c,.bool b])∧b=(decide (fs≠[])&&(flagsL [] fs).isSome)∧∀f,fs≠[]→flagsL [] fs=some f→n=f.length∧w'.ownsRow B 3 1 (.slice A n c) n (f.map (Value.int .i64))
theorem gletter_any (w:World)(x:Nat):
  Calls Tryz.prog 152 #[.int .i64 x] w fun e w'=>e= .returned (.bool (decide ((97≤x∧x≤122)∨(65≤x∧x≤90))))∧w'=w:=by
 by_cases c1:97≤x
 ·have d1:(97:Int)≤x:=by omega
  by_cases c2:x≤122
  ·have d2:(x:Int)≤122:=by omega
   rw[decide_eq_true (by omega:(97≤x∧x≤122)∨(65≤x∧x≤90))];go_enter Tryz.func152,Tryz.ntmps152;go_wp2_with fail;go_ret;exact⟨rfl,rfl⟩
  ·have d2:¬(x:Int)≤122:=by omega
   have d3:(65:Int)≤x:=by omega
   have d4:¬(x:Int)≤90:=by omega
   rw[decide_eq_false (by omega:¬((97≤x∧x≤122)∨(65≤x∧x≤90)))];go_enter Tryz.func152,Tryz.ntmps152;go_wp2_with fail;go_ret;exact⟨rfl,rfl⟩
 ·have d1:¬(97:Int)≤x:=by omega
  by_cases c3:65≤x
  ·have d3:(65:Int)≤x:=by omega
   by_cases c4:x≤90
   ·have d4:(x:Int)≤90:=by omega
    rw[decide_eq_true (by omega:(97≤x∧x≤122)∨(65≤x∧x≤90))];go_enter Tryz.func152,Tryz.ntmps152;go_wp2_with fail;go_ret;exact⟨rfl,rfl⟩
   ·have d4:¬(x:Int)≤90:=by omega
    rw[decide_eq_false (by omega:¬((97≤x∧x≤122)∨(65≤x∧x≤90)))];go_enter Tryz.func152,Tryz.ntmps152;go_wp2_with fail;go_ret;exact⟨rfl,rfl⟩
  ·have d3:¬(65:Int)≤x:=by omega
   rw[decide_eq_false (by omega:¬((97≤x∧x≤122)∨(65≤x∧x≤90)))];go_enter Tryz.func152,Tryz.ntmps152;go_wp2_with fail;go_ret;exact⟨rfl,rfl⟩
theorem flagsL_land (acc:List Int)(b:UInt8)(r:List UInt8)(x:Nat)(hx:b.toNat=x):flagsL acc (b::r)=if decide ((97≤x∧x≤122)∨(65≤x∧x≤90))=true∧acc.contains (x:Int)=false then flagsL (acc++[(x:Int)]) r else none:=by
 subst hx;show (if isLet b=true∧(b.toNat:Int) ∉ acc then _ else _)=_;have h:(isLet b=true∧(b.toNat:Int) ∉ acc)↔(decide ((97≤b.toNat∧b.toNat≤122)∨(65≤b.toNat∧b.toNat≤90))=true∧acc.contains (b.toNat:Int)=false):=by
  unfold isLet;rw[Bool.eq_false_iff,ne_eq,List.contains_iff_mem]
 by_cases hc:isLet b=true∧(b.toNat:Int) ∉ acc
 ·rw[if_pos hc,if_pos (h.1 hc)]
 ·rw[if_neg hc,if_neg (fun e=>hc (h.2 e))]
theorem gflags_any (w:World)(s:ByteArray)(hs:s.size≤1000000000):
  Calls Tryz.prog 98 #[.string s] w fun e w'=>FlagAns w.heap.size s.data.toList e w'∧Below w.heap.size w w':=by
 have hsl:s.data.toList.length=s.size:=(Lib.size_eq s).symm;obtain⟨fs,hL⟩:∃L,L=s.data.toList:=⟨_,rfl⟩;obtain⟨n,hn⟩:∃n,n=s.size:=⟨_,rfl⟩;obtain⟨C,hC⟩:∃C,C=grownCap w s.size 0 5:=⟨_,rfl⟩;have hcv:=run_bytes_of_string (P:=Tryz.prog) w 9 72 5 s Tryz.underlying9 Tryz.underlying72 Tryz.underlying5;rw[←hC,←hn]at hcv;obtain⟨W1,hW1⟩:∃W1,W1=(w.drew.alloc (.cells (bytesRow s C) 5 ((bytesRow s C).size,(bytesRow s C).size+1))):=⟨_,rfl⟩;rw[←hW1]at hcv;have hb1:Below w.heap.size w W1:=by rw[hW1];exact(Below.refl _ _).drew.alloc (Nat.le_refl _) _
 have hsz:W1.heap.size=w.heap.size+1:=by rw[hW1,World.size_alloc];rfl
 have hblk:W1.heap[w.heap.size]?=some (.cells (bytesRow s C) 5 ((bytesRow s C).size,(bytesRow s C).size+1)):=by rw[hW1];exact World.alloc_heap_new w.drew _
 have hat:∀(wx:World),wx.heap[w.heap.size]?=W1.heap[w.heap.size]?→∀j c,fs[j]?=some c→wx.cell? ⟨w.heap.size,j,none⟩=some (.int .u8 (c.toNat:Int)):=fun wx hwx j c hc=>by
  rw[hblk]at hwx;rw[cell_of_row _ w.heap.size j _ _ _ hwx];rw[hL]at hc;have hj:j<s.data.size:=by
   have:=(List.getElem?_eq_some_iff.1 hc).1;simpa using this
  rw[bytesRow_at s C j hj];have h2:s.data.toList[j]?=s.data[j]?:=Array.getElem?_toList;rw[hc,Array.getElem?_eq_getElem hj]at h2;rw[←Option.some.inj h2]
 rw[←hL]at hsl⊢;have HAT:=hid hat;have HS1:=hid (And.intro hb1 hsz);have HN:=hid (show n=fs.length by rw[hn,hsl]);have hnb:n≤1000000000:=by omega
 obtain⟨i1,hi1,hz10,hz11,hz12⟩:=info_parts Tryz.infosY3;clear hL hsl hn hC hW1 hb1 hsz hblk hat hs;go_enter Tryz.func98,Tryz.ntmps98;go_wp2_with fail;go_loopg [4,6,7,11] n (fun g fv _ _ i wr=>∃(k:Nat) (acc:List Int),k+g=n∧i= .int .i64 k∧Hid (wr.ownsRow (w.heap.size+1) 3 1 fv acc.length (acc.map (Value.int .i64))∧flagsL [] fs=flagsL acc (fs.drop k)∧acc.length=k∧Below w.heap.size w wr∧wr.heap[w.heap.size]?=W1.heap[w.heap.size]?∧w.heap.size+1≤wr.heap.size))
 case atStart=>exact⟨0,[],by omega,rfl,hid ⟨World.ownsRow_nil _ _ _ _,rfl,rfl,HS1.out.1,rfl,by rw[HS1.out.2];exact Nat.le_refl _⟩⟩
 case round=>
  obtain⟨k,acc,hk,rfl,HK⟩:=hrel;have hk0:(0:Int)≤k:=by omega
  obtain⟨A,cap,rfl⟩:=own_shape HK.out.1;rcases Nat.eq_zero_or_pos gk with h0|h0
  ·obtain rfl:k=n:=by omega
   have hkn:¬(k:Int)<k:=by omega
   have HF:=hid (show flagsL [] fs=some acc by rw[HK.out.2.1,List.drop_of_length_le (by have:=HN.out;omega)];rfl);have HROW:=hid (own_less HK.out.1 (Nat.le_succ w.heap.size));have HB:=hid HK.out.2.2.2.1;have hal:=HK.out.2.2.1;rw[hal]at HROW⊢;have HAL:=hid hal;clear HK hal;by_cases hz:k=0
   ·subst hz;have hfs:fs=[]:=List.eq_nil_of_length_eq_zero HN.out.symm;have HR:=hid hfs;clear hfs;go_wp2_with fail;go_ret2;exact⟨⟨A,0,cap,false,rfl,by rw[HR.out];rfl,fun f hf=>absurd HR.out hf⟩,HB.out⟩
   ·have hk1:(0:Int)<k:=by omega
    have HNE:=hid (show fs≠[]by
     intro e;have:=HN.out;rw[e]at this;exact hz this)
    clear hz;go_wp2_with fail;go_ret2;exact⟨⟨A,k,cap,decide (0<k),rfl,by rw[decide_eq_true HNE.out,HF.out,decide_eq_true (by omega:0<k)];rfl,fun f _ he=>by
     rw[HF.out]at he;obtain rfl:=Option.some.inj he;exact⟨HAL.out.symm,HROW.out⟩⟩,HB.out⟩
  ·have hkn:(k:Int)<n:=by omega
   obtain⟨c,hc⟩:∃c,fs[k]?=some c:=⟨_,List.getElem?_eq_getElem (by have:=HN.out;omega)⟩;have x0:=HAT.out wr HK.out.2.2.2.2.1 k c hc;obtain⟨x,hx⟩:∃x,x=c.toNat:=⟨_,rfl⟩;rw[←hx]at x0;have hx256:x<256:=by rw[hx];exact c.toNat_lt
   have HST:=hid (show flagsL [] fs=if decide ((97≤x∧x≤122)∨(65≤x∧x≤90))=true∧acc.contains (x:Int)=false then flagsL (acc++[(x:Int)]) (fs.drop (k+1))else none by
    obtain⟨h1,h2⟩:=List.getElem?_eq_some_iff.1 hc;rw[HK.out.2.1,List.drop_eq_getElem_cons h1,h2,flagsL_land _ _ _ x hx.symm])
   have HNE:=hid (show fs≠[]by rintro rfl;simp at hc);have CL:=hid (fun wx=>gletter_any wx x);have CC:=hid (contains_any wr _ acc (x:Int) (ints_own HK.out.1));have hal:=HK.out.2.2.1;rw[hal]at CC;have HROW:=hid (show (wr.alloc (.cells #[.int .i64 x] 3)).ownsRow (w.heap.size+1) 3 1 (.slice A k cap) k (acc.map (Value.int .i64))from by
    have:=HK.out.1.alloc (.cells #[.int .i64 x] 3);rwa[hal]at this)
   rw[hal];have HAL:=hid hal;obtain⟨lt,hlt⟩:∃b,b=decide ((97≤x∧x≤122)∨(65≤x∧x≤90)):=⟨_,rfl⟩;obtain⟨ct,hct⟩:∃b,b=acc.contains (x:Int):=⟨_,rfl⟩;rw[←hlt,←hct]at HST;rw[←hlt]at CL;rw[←hct]at CC;clear hc hx hal hlt hct;have hxm:IntKind.i64.wrap (x:Int)=x:=IntWalk.i64_in _ (by omega);cases lt with
   | false=>
     have HZ:=hid (show flagsL [] fs=none by rw[HST.out,if_neg (by simp)]);have HB:=hid HK.out.2.2.2.1;go_wp2_with (go_at_call 152;refine(CL.out _).mono ?_;rintro e w1 ⟨rfl,hw⟩;have hw2:=hw.symm;clear hw;subst hw2);go_ret2;exact⟨⟨none,0,0,false,rfl,by rw[HZ.out];simp,fun f _ he=>by rw[HZ.out]at he;cases he⟩,HB.out⟩
   | true=>
     cases ct with
     | true=>
       have HZ:=hid (show flagsL [] fs=none by rw[HST.out,if_neg (by simp)]);have HB:=hid HK.out.2.2.2.1;go_wp2_with (first
        | (go_at_call 152;refine(CL.out _).mono ?_;rintro e w1 ⟨rfl,hw⟩;have hw2:=hw.symm;clear hw;subst hw2)
        | (go_at_call 153;refine CC.out.mono ?_;rintro e w1 ⟨rfl,hw⟩;have hw2:=hw.symm;clear hw;subst hw2))
       go_ret2;exact⟨⟨none,0,0,false,rfl,by rw[HZ.out];simp,fun f _ he=>by rw[HZ.out]at he;cases he⟩,HB.out⟩
     | false=>
       have HST2:=hid (show flagsL [] fs=flagsL (acc++[(x:Int)]) (fs.drop (k+1))by rw[HST.out,if_pos ⟨rfl,rfl⟩]);clear HST;go_wp2_with (first
        | (go_at_call 152;refine(CL.out _).mono ?_;rintro e w1 ⟨rfl,hw⟩;have hw2:=hw.symm;clear hw;subst hw2)
        | (go_at_call 153;refine CC.out.mono ?_;rintro e w1 ⟨rfl,hw⟩;have hw2:=hw.symm;clear hw;subst hw2)
        | (at_builtin;refine wpList_append_where _ rfl _ _ 42 rfl (w.heap.size+1) 3 i1 (.int .i64 0) 1 8 Tryz.underlying42 hi1 hz10 hz11 hz12 rfl (by decide) (.slice A k cap) k (acc.map (Value.int .i64)) rfl HROW.out ⟨wr.heap.size,0,none⟩ 1 1 [.int .i64 x] rfl rfl (news_row _ _ _) (int_oneY x) (by unfold maxLen;omega) (by omega) (by have:=HK.out.2.2.2.2.2;rw[World.size_alloc];omega) ?_))
       intro v' w4 hown4 hgrow4 _;have hlo:∀g,(Value.slice A k cap).ownBlock=some g→w.heap.size+1≤g:=fun g hg=>(HROW.out.lt g hg).1;have HK4:=hid (show w4.ownsRow (w.heap.size+1) 3 1 v' (acc++[(x:Int)]).length ((acc++[(x:Int)]).map (Value.int .i64))∧flagsL [] fs=flagsL (acc++[(x:Int)]) (fs.drop (k+1))∧(acc++[(x:Int)]).length=k+1∧Below w.heap.size w w4∧w4.heap[w.heap.size]?=W1.heap[w.heap.size]?∧w.heap.size+1≤w4.heap.size from by
        have hlen:(acc++[(x:Int)]).length=k+1:=by rw[List.length_append,HAL.out];rfl
        have hsz:=HK.out.2.2.2.2.2;refine⟨by rw[hlen,List.map_append];exact hown4,HST2.out,hlen,?_,?_,?_⟩
        ·have hba:=HK.out.2.2.2.1.alloc HK.out.2.2.2.1.size (.cells #[.int .i64 x] 3);exact hba.grown hgrow4 hba.size (fun g hg=>by have:=hlo g hg;omega)
        ·exact(hgrow4.block w.heap.size (by rw[World.size_alloc];omega) (fun e=>by have:=hlo _ e.symm;omega)).trans ((Below.heap_alloc _ _ _ (by omega)).trans HK.out.2.2.2.2.1)
        ·have:=hgrow4.size;rw[World.size_alloc]at this;omega)
       clear hown4 hgrow4 hlo x0;go_wp2_with fail;go_roundg (gk-1)
       case measure=>omega
       case rel=>exact⟨k+1,_,by omega,by go_num,HK4⟩
theorem gsilent_any (w:World)(s:ByteArray):
  Calls Tryz.prog 54 #[.string s] w fun e w'=>e= .returned (.bool (decide (s.data.toList=[]∨s.data.toList.head?=some 35)))∧w'=w:=by
 have hem:s.toList.isEmpty=decide (s.data.toList=[]):=by
  rw[toL_data];cases s.data.toList<;>rfl
 by_cases h0:s.data.toList=[]
 ·rw[decide_eq_true (.inl h0:s.data.toList=[]∨s.data.toList.head?=some 35)];have e1:s.toList.isEmpty=true:=by rw[hem];exact decide_eq_true h0
  clear hem h0;go_enter Tryz.func54,Tryz.ntmps54;go_wp2_with fail;go_ret;exact⟨rfl,rfl⟩
 ·have e1:s.toList.isEmpty=false:=by rw[hem];exact decide_eq_false h0
  have hS0:0<s.size:=by rw[Lib.size_eq];exact List.length_pos_iff.2 h0
  obtain⟨c,hc0,hget⟩:=byte_at hS0;obtain⟨x,hx⟩:∃x,x=c.toNat:=⟨_,rfl⟩;have hgx:(s[0]'hS0).toNat=x:=by rw[hget,hx]
  have hS1:(0:Int)<s.size:=by omega
  have hR:decide (s.data.toList=[]∨s.data.toList.head?=some 35)=decide (x=35):=by
   apply decide_eq_decide.2;rw[List.head?_eq_getElem?,hc0,hx];constructor
   ·rintro (h|h)
    ·exact absurd h h0
    ·rw[Option.some.inj h];rfl
   ·intro h;right;rw[UInt8.toNat_inj.1 (h.trans rfl:c.toNat=(35:UInt8).toNat)]
  rw[hR];clear hem h0 hc0 hget hx hR;by_cases h35:x=35
  ·rw[decide_eq_true h35];have d:((x:Int)==35)=true:=by simp;omega
   clear h35;go_enter Tryz.func54,Tryz.ntmps54;go_wp2_with fail;go_ret;exact⟨rfl,rfl⟩
  ·rw[decide_eq_false h35];have d:((x:Int)==35)=false:=by simp;omega
   clear h35;go_enter Tryz.func54,Tryz.ntmps54;go_wp2_with fail;go_ret;exact⟨rfl,rfl⟩
theorem gentry_any (w:World)(s:ByteArray)(hs:s.size≤1000000000)(hT:Lib.Utf8Tabs 1 2 w):
  Calls Tryz.prog 53 #[.string s] w fun e w'=>EntAns w.heap.size s.data.toList e w'∧Below w.heap.size w w':=by
 obtain⟨L,hL⟩:∃L,L=s.data.toList:=⟨_,rfl⟩;have hsl:L.length=s.size:=by rw[hL];exact(Lib.size_eq s).symm
 rw[←hL];have HG:=hid (gEntry_eq L);obtain⟨W0,hW0⟩:∃W0,W0=w.alloc (.cells #[.string ⟨#[]⟩,.slice none 0 0] 99):=⟨_,rfl⟩;have hb0:Below w.heap.size w W0:=by rw[hW0];exact(Below.refl _ _).alloc (Nat.le_refl _) _
 have hlt0:w.heap.size<W0.heap.size:=by rw[hW0,World.size_alloc];omega
 have BX:=hid (show∀wx,Below W0.heap.size W0 wx→_ from fun wx hb=>ebox2 (hW0▸hb));obtain⟨W1,hW1⟩:∃W1,W1=W0.alloc (.cells #[.int .u8 47,.int .u8 35] 5):=⟨_,rfl⟩;have hb1:Below W0.heap.size W0 W1:=by rw[hW1];exact(Below.refl _ _).alloc (Nat.le_refl _) _
 have hst:Stops W1 W0.heap.size:=by rw[hW1];exact⟨cell_of_row _ _ 0 _ _ (0,0) (World.alloc_heap_new _ _),cell_of_row _ _ 1 _ _ (0,0) (World.alloc_heap_new _ _)⟩
 have hlt1:W0.heap.size<W1.heap.size:=by rw[hW1,World.size_alloc];omega
 have CK:=hid (gcut_any W1 s W0.heap.size hs hlt1 hst);rw[←hL]at CK;have HT:=hid (show∀wx,Below W0.heap.size W0 wx→Lib.Utf8Tabs 1 2 wx from fun wx hb=>tabs_below hT (hb0.trans (hb.mono hb0.size)));have HB:=hid (show∀wx,Below W0.heap.size W0 wx→Below w.heap.size w wx from fun wx hb=>hb0.trans (hb.mono hb0.size));have HB1:=hid (And.intro hb1 hlt0);have HW0:=hid hW0;have HW1:=hid hW1;clear hL hb0 hb1 hst hlt1 hlt0 hT;go_enter Tryz.func53,Tryz.ntmps53;go_upto_region 1 with fail;rw[←HW0.out];clear hW0;go_wp2_with fail;rw[←HW1.out];clear hW1;refine CK.out.mono ?_;rintro e w2 ⟨⟨a,b,rfl,ha,hb⟩,hb2⟩;have H2:=hid (HB1.out.1.trans (hb2.mono HB1.out.1.size));have hsum:a.size+b.size=s.size:=by
  have h1:L.takeWhile nst++L.dropWhile nst=L:=List.takeWhile_append_dropWhile;have h2:=congrArg List.length h1;rw[List.length_append,←ha,←hb,hsl]at h2;rw[Lib.size_eq,Lib.size_eq];exact h2
 have CW:=hid (gisword_any w2 a (by omega) (HT.out _ H2.out));have HE:=hid (show entryL L=if isW a.data.toList=true then match b.data.toList with
  | []=>some ⟨a,[]⟩
  | x::fs=>if x=47∧fs≠[]then(flagsL [] fs).map fun f=>⟨a,f⟩else none
  else none by
   rw[HG.out,ha,hb];unfold gEntry;rw[show (⟨(L.takeWhile nst).toArray⟩:ByteArray)=a by rw[←ha,ba_list]];rfl)
 obtain⟨ok,hok⟩:∃ok,ok=isW a.data.toList:=⟨_,rfl⟩;rw[←hok]at CW HE;have hem:b.toList.isEmpty=decide (b.data.toList=[]):=by
  rw[toL_data];cases b.data.toList<;>rfl
 have h47:=fun x fs (h:b.data.toList=x::fs)=>dropW_head L x fs (hb.symm.trans h);clear CK hok ha hb hb2 HG hsl;cases ok with
 | false=>
   have HZ:=hid (show entryL L=none by rw[HE.out];rfl);go_wp2_with (go_at_call 97;refine CW.out.mono ?_;rintro e w3 ⟨rfl,hb3⟩;have H3:=hid (H2.out.trans (hb3.mono H2.out.size));clear hb3;obtain⟨x0,x1,fx⟩:=BX.out _ H3.out);exact bodyPost_ret (v:= .tuple #[.agg #[.string ⟨#[]⟩,.slice none 0 0],.bool false]) (by simp[results,Tryz.results53,go_sem,x0,x1]) rfl ⟨EntAns.no HZ.out,put2_below (HB.out _ H3.out) (Nat.le_refl _) _ _⟩
 | true=>
   cases hd:b.data.toList with
   | nil=>
     have e1:b.toList.isEmpty=true:=by rw[hem];exact decide_eq_true hd
     have HZ:=hid (show entryL L=some ⟨a,[]⟩by rw[HE.out,hd];rfl);clear hem hd h47 HE;go_wp2_with (go_at_call 97;refine CW.out.mono ?_;rintro e w3 ⟨rfl,hb3⟩;have H3:=hid (H2.out.trans (hb3.mono H2.out.size));clear hb3;obtain⟨x0,x1,fx⟩:=BX.out _ H3.out);exact bodyPost_ret (v:= .tuple #[.agg #[.string a,.slice none 0 0],.bool true]) (by simp[results,Tryz.results53,go_sem,x0,x1]) rfl ⟨EntAns.yes HZ.out (World.ownsRow_nil _ _ _ _),put2_below (HB.out _ H3.out) (Nat.le_refl _) _ _⟩
   | cons c fs=>
     have e1:b.toList.isEmpty=false:=by rw[hem];exact decide_eq_false (by rw[hd];simp)
     have hbs:b.size=fs.length+1:=by rw[Lib.size_eq,hd];rfl
     have hb0:0<b.size:=by omega
     obtain⟨c',hc',hget⟩:=byte_at hb0;obtain rfl:c=c':=by rw[hd]at hc';simpa using hc'
     obtain⟨x,hx⟩:∃x,x=c.toNat:=⟨_,rfl⟩;have hgx:(b[0]'hb0).toNat=x:=by rw[hget,hx]
     have hxs:x=47∨x=35:=by
      have h1:=h47 c fs hd;unfold nst at h1;have h2:=of_decide_eq_false h1;by_cases h:c=47
      ·left;rw[hx,h];rfl
      ·right;have:c=35:=by
        by_cases h3:c=35
        ·exact h3
        ·exact absurd ⟨h,h3⟩ h2
       rw[hx,this];rfl
     have hex:(b.extract 1 b.size).data.toList=fs:=by
      rw[ext_list,hd,List.take_of_length_le (by rw[List.length_drop,List.length_cons];omega)];rfl
     have CF:=hid (fun wx=>gflags_any wx (b.extract 1 b.size) (by rw[Lib.size_eq,hex];omega));rw[hex]at CF;have HZ:=hid (show entryL L=if c=47∧fs≠[]then(flagsL [] fs).map fun f=>⟨a,f⟩else none by rw[HE.out,hd];rfl);have b1:(1:Int)≤b.size:=by omega
     have b2:(0:Int)<b.size:=by omega
     have HX:=hid (show c=47↔x=47 by rw[hx];exact⟨fun e=>by rw[e];rfl,fun e=>UInt8.toNat_inj.1 (e.trans rfl)⟩);obtain⟨B1,hB1⟩:∃B,B=b.extract 1 b.size:=⟨_,rfl⟩;rw[←hB1]at CF;have hB1':b.extract 1 b.size=B1:=hB1.symm;clear hem hd h47 HE hc' hget hx hex hB1 hbs hsum;rcases hxs with rfl|rfl
     ·go_upto_region 7 with(first
       | (go_at_call 97;refine CW.out.mono ?_;rintro e w3 ⟨rfl,hb3⟩;have H3:=hid (H2.out.trans (hb3.mono H2.out.size));clear hb3)
       | (go_at_call 98;refine(CF.out _).mono ?_;rintro e w4 ⟨⟨A,n,cp,fb,rfl,hfb,hff⟩,hb4⟩;have H4:=hid (H3.out.trans (hb4.mono H3.out.size));have HFB:=hid (And.intro hfb hff);clear hb4 hfb hff))
      obtain⟨x0,x1,fx⟩:=BX.out _ H4.out;cases fb with
      | false=>
        have HZ2:=hid (show entryL L=none by
         rw[HZ.out];split
         ·rename_i h;have h1:=HFB.out.1;rw[decide_eq_true h.2]at h1;cases hf:flagsL [] fs with
          | none=>rfl
          | some f=>rw[hf]at h1;simp at h1
         ·rfl)
        go_wp2_with fail;exact bodyPost_ret (v:= .tuple #[.agg #[.string ⟨#[]⟩,.slice none 0 0],.bool false]) (by simp[results,Tryz.results53,go_sem,x0,x1]) rfl ⟨EntAns.no HZ2.out,put2_below (HB.out _ H4.out) (Nat.le_refl _) _ _⟩
      | true=>
        obtain⟨f,hne,hf⟩:∃f,fs≠[]∧flagsL [] fs=some f:=by
         have h1:=HFB.out.1.symm;rw[Bool.and_eq_true]at h1;cases hf:flagsL [] fs with
         | none=>rw[hf]at h1;simp at h1
         | some f=>exact⟨f,of_decide_eq_true h1.1,rfl⟩
        obtain⟨hn,hrow⟩:=HFB.out.2 f hne hf;have HZ2:=hid (show entryL L=some ⟨a,f⟩by rw[HZ.out,if_pos ⟨HX.out.2 (by first|rfl|trivial),hne⟩,hf];rfl);have HROW:=hid (And.intro hn hrow);clear hne hf hn hrow;go_wp2_with fail;refine bodyPost_ret (v:= .tuple #[.agg #[.string a,.slice A n cp],.bool true]) (by simp[results,Tryz.results53,go_sem,x0,x1]) rfl ⟨?_,put2_below (HB.out _ H4.out) (Nat.le_refl _) _ _⟩;have h1:=HROW.out.1;subst h1;have hlt:w.heap.size<w3.heap.size:=Nat.lt_of_lt_of_le HB1.out.2 H3.out.size;exact EntAns.yes HZ2.out (own_less (own_put2 HROW.out.2 hlt) (Nat.le_of_lt hlt))
     ·have HZ2:=hid (show entryL L=none by
       rw[HZ.out,if_neg];intro h;have:=HX.out.1 h.1;omega)
      go_upto_region 7 with(first
       | (go_at_call 97;refine CW.out.mono ?_;rintro e w3 ⟨rfl,hb3⟩;have H3:=hid (H2.out.trans (hb3.mono H2.out.size));clear hb3)
       | (go_at_call 98;refine(CF.out _).mono ?_;rintro e w4 ⟨⟨A,n,cp,fb,rfl,-,-⟩,hb4⟩;have H4:=hid (H3.out.trans (hb4.mono H3.out.size));clear hb4))
      obtain⟨x0,x1,fx⟩:=BX.out _ H4.out;go_wp2_with fail;exact bodyPost_ret (v:= .tuple #[.agg #[.string ⟨#[]⟩,.slice none 0 0],.bool false]) (by simp[results,Tryz.results53,go_sem,x0,x1]) rfl ⟨EntAns.no HZ2.out,put2_below (HB.out _ H4.out) (Nat.le_refl _) _ _⟩
structure EB (w wr:World)(HB:Nat)(W:ByteArray)(fv:Value)(acc:List Int):Prop where
 res:wr.heap[w.heap.size]?=some (.cells #[.string ⟨#[]⟩,.slice none 0 0] 99 (0,0))
 box:wr.heap[HB]?=some (.cells #[.string W,fv] 99 (0,0))
 row:wr.ownsRow (HB+1) 3 1 fv acc.length (acc.map (Value.int .i64))
 lt:w.heap.size<HB
 below:Below w.heap.size w wr
theorem EB.cells {w wr:World}{HB:Nat}{W:ByteArray}{fv:Value}{acc:List Int}(h:EB w wr HB W fv acc):
  wr.cell? ⟨w.heap.size,0,none⟩=some (.string ⟨#[]⟩)∧wr.cell? ⟨w.heap.size,1,none⟩=some (.slice none 0 0)∧wr.cell? ⟨HB,0,none⟩=some (.string W)∧wr.cell? ⟨HB,1,none⟩=some fv∧(∀o,wr.frozen? ⟨w.heap.size,o,none⟩=false)∧∀o,wr.frozen? ⟨HB,o,none⟩=false:=by
 refine⟨?_,?_,?_,?_,fun o=>?_,fun o=>?_⟩<;>simp[World.cell?,World.frozen?,h.res,h.box]
theorem EB.start (w:World)(W:ByteArray):EB w ((w.alloc (.cells #[.string ⟨#[]⟩,.slice none 0 0] 99)).alloc (.cells #[.string W,.slice none 0 0] 99)) (w.alloc (.cells #[.string ⟨#[]⟩,.slice none 0 0] 99)).heap.size W (.slice none 0 0) []:=
 ⟨(Below.heap_alloc _ _ _ (by rw[World.size_alloc];omega)).trans (World.alloc_heap_new _ _),World.alloc_heap_new _ _,World.ownsRow_nil _ _ _ _,by rw[World.size_alloc];omega,((Below.refl _ _).alloc (Nat.le_refl _) _).alloc (by rw[World.size_alloc];omega) _⟩
theorem EB.hi {w wr:World}{HB:Nat}{W:ByteArray}{fv:Value}{acc:List Int}(h:EB w wr HB W fv acc):HB+1≤wr.heap.size:=(Array.getElem?_eq_some_iff.1 h.box).1
theorem EB.keep {w wr w':World}{HB:Nat}{W:ByteArray}{fv:Value}{acc:List Int}(h:EB w wr HB W fv acc)(hb:Below wr.heap.size wr w'):EB w w' HB W fv acc:=
 ⟨(hb.block _ (Array.getElem?_eq_some_iff.1 h.res).1).trans h.res,(hb.block _ h.hi).trans h.box,own_keep9 h.row hb,h.lt,h.below.trans (hb.mono h.below.size)⟩
theorem EB.more {w wr w4:World}{HB:Nat}{W:ByteArray}{fv fv':Value}{acc:List Int}{x:Int}{o:Obj}(h:EB w wr HB W fv acc)
  (hown:w4.ownsRow (HB+1) 3 1 fv' (acc.length+1) (acc.map (Value.int .i64)++[.int .i64 x])) (hg:(wr.alloc o).grownBy w4 fv.ownBlock):EB w (w4.setCell ⟨HB,1,none⟩ fv') HB W fv' (acc++[x]):=by
 have hlo:∀g,fv.ownBlock=some g→HB+1≤g:=fun g hg=>(h.row.lt g hg).1;have key:∀k,k≤HB→w4.heap[k]?=wr.heap[k]?:=fun k hk=>by
  have:=h.hi;exact(hg.block k (by rw[World.size_alloc];omega) (fun e=>by have:=hlo k e.symm;omega)).trans (Below.heap_alloc _ _ _ (by omega))
 have hlt:=h.lt;refine⟨(set_other _ _ _ _ (by omega)).trans ((key _ (by omega)).trans h.res),?_,?_,h.lt,?_⟩
 ·have hb4:=(key HB (Nat.le_refl _)).trans h.box;simp[World.setCell,Array.getElem?_modify,hb4]
 ·rw[List.length_append,List.map_append];exact own_blk hown fun g hgr=>set_other _ _ _ _ (by have:=(hown.lt g hgr).1;omega)
 ·have hsz:=h.hi;exact((h.below.alloc h.below.size o).grown hg (h.below.alloc h.below.size o).size (fun k hk=>by have:=hlo k hk;omega)).setCell (p:=⟨HB,1,none⟩) (by show w.heap.size≤HB;omega) _
theorem EB.below2 {w wr w4:World}{HB:Nat}{W:ByteArray}{fv:Value}{acc:List Int}{o:Obj}(h:EB w wr HB W fv acc)(hg:(wr.alloc o).grownBy w4 fv.ownBlock):
  w4.cell? ⟨HB,0,none⟩=some (.string W)∧w4.cell? ⟨HB,1,none⟩=some fv∧∀o,w4.frozen? ⟨HB,o,none⟩=false:=by
 have hlo:∀g,fv.ownBlock=some g→HB+1≤g:=fun g hg=>(h.row.lt g hg).1;have hsz:=h.hi;have hb4:=((hg.block HB (by rw[World.size_alloc];omega) (fun e=>by have:=hlo HB e.symm;omega)).trans (Below.heap_alloc _ _ _ (by omega))).trans h.box;refine⟨?_,?_,fun o=>?_⟩<;>simp[World.cell?,World.frozen?,hb4]
theorem upto47 (L:List UInt8):L.take (L.takeWhile (· ≠47)).length=L.takeWhile (· ≠47)∧L.drop (L.takeWhile (· ≠47)).length=L.dropWhile (· ≠47):=by
 have h:L.takeWhile (· ≠47)++L.dropWhile (· ≠47)=L:=List.takeWhile_append_dropWhile;constructor
 ·conv=>lhs;arg 2;rw[←h]
  rw[List.take_left]
 ·conv=>lhs;arg 2;rw[←h]
  rw[List.drop_left]
theorem before47 {L:List UInt8}{k:Nat}{c:UInt8}(h:L[k]?=some c)(hk:k<(L.takeWhile (· ≠47)).length):c≠47:=by
 have h1:(L.takeWhile (· ≠47))[k]?=some c:=by
  rw[←(upto47 L).1,List.getElem?_take,if_pos hk];exact h
 have key:∀(l:List UInt8) x,x∈l.takeWhile (fun y=>decide (y≠47))→x≠47:=by
  intro l
  induction l with
  | nil=>intro x hx;cases hx
  | cons y l ih=>
    intro x hx;rw[List.takeWhile_cons]at hx;by_cases hy:decide (y≠47)=true
    ·rw[if_pos hy]at hx;rcases List.mem_cons.1 hx with rfl|hx
     ·simpa using hy
     ·exact ih x hx
    ·rw[if_neg hy]at hx;cases hx
 exact key L c (List.mem_of_getElem? h1)
theorem at47 {L:List UInt8}{c:UInt8}(h:L[(L.takeWhile (· ≠47)).length]?=some c):c=47:=by
 have h1:(L.dropWhile (· ≠47)).head?=some c:=by
  rw[←(upto47 L).2,List.head?_drop];exact h
 have h2:=List.head?_dropWhile_not (p:=fun x:UInt8=>decide (x≠47)) L;rw[h1]at h2;simpa using h2
theorem flagsL_step (acc:List Int)(b:UInt8)(r:List UInt8):flagsL acc (b::r)=if flagL [b]=0∨flagL [b]∈acc then none else flagsL (acc++[flagL [b]]) r:=by
 show (if isLet b=true∧(b.toNat:Int) ∉ acc then _ else _)=_;rw[flagL_one];unfold isLet;by_cases h:(97≤b.toNat∧b.toNat≤122)∨(65≤b.toNat∧b.toNat≤90)
 ·rw[if_pos h,decide_eq_true h];by_cases h2:(b.toNat:Int)∈acc
  ·rw[if_neg (by simp[h2]),if_pos (.inr h2)]
  ·rw[if_pos ⟨rfl,h2⟩,if_neg (by rintro (e|e);omega;exact h2 e)]
 ·rw[if_neg h,decide_eq_false h,if_neg (by simp),if_pos (.inl rfl)]
theorem flagL_low (b:UInt8):flagL [b]=0∨65≤flagL [b]:=by
 rw[flagL_one];by_cases h:(97≤b.toNat∧b.toNat≤122)∨(65≤b.toNat∧b.toNat≤90)
 ·rw[if_pos h];omega
 ·rw[if_neg h];omega
theorem entryL_bad {L:List UInt8}(h:wordOk (L.takeWhile (· ≠47))=false):entryL L=none:=by
 unfold entryL;rw[h,if_neg (by decide)]
theorem entryL_good {L:List UInt8}(h:wordOk (L.takeWhile (· ≠47))=true):entryL L=(flagsO (L.dropWhile (· ≠47))).map fun f=>⟨⟨(L.takeWhile (· ≠47)).toArray⟩,f⟩:=by
 unfold entryL;rw[if_pos h]
theorem eentry_any (w:World)(s:ByteArray)(hs:s.size≤1000000000):
  Calls Tryz.prog 68 #[.string s] w fun e w'=>EntAns w.heap.size s.data.toList e w'∧Below w.heap.size w w':=by
 have hsl:s.data.toList.length=s.size:=(Lib.size_eq s).symm;obtain⟨L,hL⟩:∃L,L=s.data.toList:=⟨_,rfl⟩;rw[←hL]at hsl⊢;obtain⟨p,hp⟩:∃p,p=(L.takeWhile (· ≠47)).length:=⟨_,rfl⟩;have hps:p≤s.size:=by
  have:=congrArg List.length (upto47 L).1;rw[List.length_take]at this;omega
 obtain⟨W,hW⟩:∃W,W=s.extract 0 p:=⟨_,rfl⟩;have hWl:W.data.toList=L.takeWhile (· ≠47):=by
  rw[hW,ext_list,←hL,List.drop_zero,Nat.sub_zero,hp,(upto47 L).1]
 have hWs:W.size≤1000000000:=by
  rw[Lib.size_eq,hWl];omega
 have CW:=hid (fun wx=>eword_any wx W hWs);rw[hWl]at CW;have HW:=hid (show (⟨(L.takeWhile (· ≠47)).toArray⟩:ByteArray)=W by rw[←hWl,ba_list]);have HL:=hid (And.intro hL hsl);have HP:=hid hp;have hx:s.extract 0 p=W:=hW.symm;obtain⟨ok,hok⟩:∃ok,ok=wordOk (L.takeWhile (· ≠47)):=⟨_,rfl⟩;rw[←hok]at CW;have HOK:=hid hok;obtain⟨W0,hW0⟩:∃W0,W0=w.alloc (.cells #[.string ⟨#[]⟩,.slice none 0 0] 99):=⟨_,rfl⟩;have hb0:Below w.heap.size w W0:=by rw[hW0];exact(Below.refl _ _).alloc (Nat.le_refl _) _
 have HB0:=hid hb0;have HS:=hid (show EB w (W0.alloc (.cells #[.string W,.slice none 0 0] 99)) W0.heap.size W (.slice none 0 0) []from hW0▸EB.start w W);have HW0:=hid hW0;obtain⟨i1,hi1,hz10,hz11,hz12⟩:=info_parts Tryz.infosY3;have BYT:=hid (show∀k (h:k<s.size),∃c,L[k]?=some c∧s[k]'h=c from fun k h=>by rw[hL];exact byte_at h);have p0:(0:Int)≤p:=by omega
 have p1:(p:Int)≤s.size:=by omega
 clear hL hsl hp hW hWl hWs hok hb0;go_enter Tryz.func68,Tryz.ntmps68;go_upto_region 1 with fail;rw[←HW0.out];clear hW0;go_wp2_with fail;go_loopg [4] p (fun g i wr=>∃k:Nat,k+g=p∧i= .int .i64 k∧W0=wr)
 case atStart=>exact⟨0,by omega,rfl,rfl⟩
 case round=>
  obtain⟨k,hk,rfl,rfl⟩:=hrel;have hk0:(0:Int)≤k:=by omega
  rcases Nat.eq_zero_or_pos gk with h0|h0
  ·obtain rfl:k=p:=by omega
   by_cases hend:k=s.size
   ·
    have hlt:¬(k:Int)<s.size:=by omega
    have he1:((k:Int)==s.size)=true:=by simp;omega
    have hlt2:¬(k:Int)+1<s.size:=by omega
    have hwr:IntKind.i64.wrap ((k:Int)+1)=((k:Int)+1):=IntWalk.i64_in _ (by omega);have HD:=hid (show L.dropWhile (· ≠47)=[]by
     rw[←(upto47 L).2,List.drop_of_length_le (by have:=HP.out;have:=HL.out.2;omega)])
    have hWS:W=s:=by rw[←hx,hend,ext_ba,List.drop_zero,Nat.sub_zero,List.take_of_length_le (by rw[Lib.size_eq];exact Nat.le_refl _),ba_list]
    subst hWS;have HKE:=hid hend;clear hend;obtain⟨x0,x1,y0,y1,fx,fy⟩:=HS.out.cells;cases ok with
    | false=>
      have HZ:=hid (entryL_bad HOK.out.symm);go_wp2_with (go_at_call 123;refine(CW.out _).mono ?_;rintro e w2 ⟨rfl,hb2⟩;have H2:=hid (HS.out.keep hb2);clear hb2 x0 x1 y0 y1 fx fy;obtain⟨z0,z1,-,-,fz,-⟩:=H2.out.cells);exact bodyPost_ret (v:= .tuple #[.agg #[.string ⟨#[]⟩,.slice none 0 0],.bool false]) (by simp[results,Tryz.results68,go_sem,z0,z1]) rfl ⟨EntAns.no HZ.out,put2_below H2.out.below (Nat.le_refl _) _ _⟩
    | true=>
      have HZ:=hid (show entryL L=some ⟨W,[]⟩by rw[entryL_good HOK.out.symm,HD.out,HW.out];rfl);go_wp2_with (go_at_call 123;refine(CW.out _).mono ?_;rintro e w2 ⟨rfl,hb2⟩;have H2:=hid (HS.out.keep hb2);clear hb2 x0 x1 y0 y1 fx fy);go_loopg [6,7,8] 0 (fun _ i _ _ wy=>i= .int .i64 ((k:Int)+1)∧w2=wy)
      case atStart=>exact⟨rfl,rfl⟩
      case round=>
       obtain⟨rfl,rfl⟩:=hrel;obtain⟨z0,z1,v0,v1,fz,fv⟩:=H2.out.cells;go_upto_region 19 with fail;go_region
       go_wp2_with fail;exact bodyPost_ret (v:= .tuple #[.agg #[.string W,.slice none 0 0],.bool true]) (by simp[results,Tryz.results68,go_sem,z0,z1]) rfl ⟨EntAns.yes HZ.out (World.ownsRow_nil _ _ _ _),(put2_below H2.out.below (Nat.le_refl _) _ _).drew⟩
   ·
    have hlt:(k:Int)<s.size:=by omega
    have hks:k<s.size:=by omega
    obtain⟨c,hc,hget⟩:=BYT.out k hks;have hsl:=at47 (show L[(L.takeWhile (· ≠47)).length]?=some c by rw[←HP.out];exact hc);subst hsl;have hgx:(s[k]'hks).toNat=47:=by rw[hget];rfl
    have hwr:IntKind.i64.wrap ((k:Int)+1)=((k+1:Nat):Int):=by rw[IntWalk.i64_in _ (by omega)];omega
    have HD:=hid (show L.dropWhile (· ≠47)=47::L.drop (k+1)by
     rw[←(upto47 L).2,←HP.out,List.drop_eq_getElem_cons (by have:=HL.out.2;omega)];obtain⟨h1,h2⟩:=List.getElem?_eq_some_iff.1 hc;rw[h2])
    clear hc hget hend;obtain⟨x0,x1,y0,y1,fx,fy⟩:=HS.out.cells;cases ok with
    | false=>
      have HZ:=hid (entryL_bad HOK.out.symm);go_wp2_with (go_at_call 123;refine(CW.out _).mono ?_;rintro e w2 ⟨rfl,hb2⟩;have H2:=hid (HS.out.keep hb2);clear hb2 x0 x1 y0 y1 fx fy;obtain⟨z0,z1,-,-,fz,-⟩:=H2.out.cells);exact bodyPost_ret (v:= .tuple #[.agg #[.string ⟨#[]⟩,.slice none 0 0],.bool false]) (by simp[results,Tryz.results68,go_sem,z0,z1]) rfl ⟨EntAns.no HZ.out,put2_below H2.out.below (Nat.le_refl _) _ _⟩
    | true=>
      obtain⟨fs,hfs⟩:∃fs,fs=L.drop (k+1):=⟨_,rfl⟩;have hfl:fs.length+(k+1)=s.size:=by rw[hfs,List.length_drop,HL.out.2];omega
      have HZ:=hid (show entryL L=if fs=[]then none else(flagsL [] fs).map fun f=>⟨W,f⟩by
       rw[entryL_good HOK.out.symm,HD.out,HW.out,←hfs];show Option.map _ (if fs=[]then none else flagsL [] fs)=_;split<;>rfl)
      have FAT:=hid (show∀q (h:k+1+q<s.size),∃c,fs[q]?=some c∧s.extract (k+1+q) (k+1+q+1)=⟨#[c]⟩from fun q h=>by
       have hq:q<fs.length:=by omega
       refine⟨fs[q]'hq,List.getElem?_eq_getElem hq,?_⟩;rw[ext_ba,←HL.out.1,←List.drop_drop,←hfs,List.drop_eq_getElem_cons hq,show k+1+q+1-(k+1+q)=1 by omega];rfl)
      have HFL:=hid hfl;clear hfs HD;go_wp2_with (go_at_call 123;refine(CW.out _).mono ?_;rintro e w2 ⟨rfl,hb2⟩;have H2:=hid hb2;clear hb2);have HS2:=hid (HS.out.keep H2.out);obtain⟨n,hn⟩:∃n,n=fs.length:=⟨_,rfl⟩;have HN:=hid hn;clear x0 x1 y0 y1 fx fy H2 hfl hn;go_loopg [6,7,8] n (fun g i _ _ wr=>∃(q:Nat) (fv:Value) (acc:List Int),q+g=n∧i= .int .i64 ((k+1+q:Nat):Int)∧Hid (EB w wr W0.heap.size W fv acc∧flagsL [] fs=flagsL acc (fs.drop q)∧acc.length=q∧∀x∈acc,65≤x))
      case atStart=>exact⟨0,_,[],by omega,rfl,hid ⟨HS2.out,rfl,rfl,fun x h=>by cases h⟩⟩
      case round=>
       obtain⟨q,fv,acc,hq,rfl,HQ⟩:=hrel;obtain⟨A,cap,rfl⟩:=own_shape HQ.out.1.row;obtain⟨x0,x1,y0,y1,fx,fy⟩:=HQ.out.1.cells;have hal:=HQ.out.2.2.1;rw[hal]at y1;have hkj0:(0:Int)≤((k+1+q:Nat):Int):=by omega
       have hnb:n≤1000000000:=by have:=HN.out;have:=HFL.out;omega
       rcases Nat.eq_zero_or_pos gk with h0|h0
       ·have hge:¬((k+1+q:Nat):Int)<s.size:=by have:=HN.out;have:=HFL.out;omega
        have he1:((k:Int)==s.size)=false:=by simp;omega
        have HF:=hid (show flagsL [] fs=some acc by rw[HQ.out.2.1,List.drop_of_length_le (by have:=HN.out;omega)];rfl);have HQE:=hid HQ.out.1;obtain⟨j,hj⟩:∃j,j=k+1+q:=⟨_,rfl⟩;rw[←hj]at hge⊢;have HAL:=hid hal;clear HQ hkj0 hj hal;by_cases hq0:q=0
        ·subst hq0;have HZ2:=hid (show entryL L=none by
          rw[HZ.out,if_pos];exact List.eq_nil_of_length_eq_zero (by have:=HN.out;omega))
         have yy:=(put2_cell (w:=wr) (H:=w.heap.size) (HB:=W0.heap.size) (o:=1) (a:= .string W) (b:= .slice A 0 cap) (by have:=HQE.out.lt;omega)).trans y1;go_upto_region 19 with fail;go_region
         go_wp2_with fail;exact bodyPost_ret (v:= .tuple #[.agg #[.string W,.slice A 0 cap],.bool false]) (by simp[results,Tryz.results68,go_sem,x0,x1]) rfl ⟨EntAns.no HZ2.out,(put2_below HQE.out.below (Nat.le_refl _) _ _).drew⟩
        ·have HZ2:=hid (show entryL L=some ⟨W,acc⟩by
          rw[HZ.out,if_neg,HF.out]
          ·rfl
          ·intro e;have:=HN.out;rw[e]at this;simp at this;omega)
         have hq1:(0:Int)<q:=by omega
         have yy:=(put2_cell (w:=wr) (H:=w.heap.size) (HB:=W0.heap.size) (o:=1) (a:= .string W) (b:= .slice A q cap) (by have:=HQE.out.lt;omega)).trans y1;go_upto_region 19 with fail;go_region
         go_wp2_with fail;refine bodyPost_ret (v:= .tuple #[.agg #[.string W,.slice A q cap],.bool true]) (by simp[results,Tryz.results68,go_sem,x0,x1];omega) rfl ⟨?_,(put2_below HQE.out.below (Nat.le_refl _) _ _).drew⟩;have h1:=HAL.out;subst h1;exact EntAns.yes HZ2.out (own_less (own_put2 HQE.out.row (by have:=HQE.out.lt;omega)).drew (by have:=HQE.out.lt;omega))
       ·have hqn:k+1+q<s.size:=by have:=HN.out;have:=HFL.out;omega
        obtain⟨c,hfc,hex⟩:=FAT.out q hqn;have CF:=hid (fun wx=>rflag_any (⟨#[c]⟩:ByteArray) wx (by show 1≤_;omega));have hFl:=flagL_low c;have HST:=hid (show flagsL [] fs=if flagL [c]=0∨flagL [c]∈acc then none else flagsL (acc++[flagL [c]]) (fs.drop (q+1))by
         obtain⟨h1,h2⟩:=List.getElem?_eq_some_iff.1 hfc;rw[HQ.out.2.1,List.drop_eq_getElem_cons h1,h2,flagsL_step])
        have HNE:=hid (show fs≠[]by rintro rfl;simp at hfc);obtain⟨F,hF⟩:∃F,F=flagL [c]:=⟨_,rfl⟩;rw[show (⟨#[c]⟩:ByteArray).data.toList=[c]from rfl,←hF]at CF;rw[←hF]at HST hFl;have HFL2:=hid hFl;obtain⟨j,hj⟩:∃j,j=k+1+q:=⟨_,rfl⟩;rw[←hj]at hex hqn hkj0⊢;have hjw:IntKind.i64.wrap ((j:Int)+1)=((j+1:Nat):Int):=by rw[IntWalk.i64_in _ (by omega)];omega
        have hjlt:(j:Int)<s.size:=by omega
        have hj1:(j:Int)≤((j+1:Nat):Int):=by omega
        have hj2:((j+1:Nat):Int)≤s.size:=by omega
        have HJ:=hid hj;have HQE:=hid HQ.out.1;have HQA:=hid HQ.out.2.2.2;have HAL:=hid hal;have HQR:=hid (show∀t a,acc[t]?=some a→∃g,A=some ⟨g,0,none⟩∧g<wr.heap.size∧q≤cap∧wr.cell? ⟨g,t,none⟩=some (.int .i64 a)from fun t a ha=>by
         have hr:=HQ.out.1.row;rw[hal]at hr;obtain⟨g,cp,e,hg,hnc,_,hcell⟩:=own_open9 hr (by have:=(List.getElem?_eq_some_iff.1 ha).1;omega);injection e with e1 e2 e3;subst e1 e3;exact⟨g,rfl,hg,hnc,hcell t _ (by rw[List.getElem?_map,ha];rfl)⟩)
        obtain⟨go,hgo⟩:∃g,g=gk:=⟨_,rfl⟩;have HGO:=hid hgo;clear hfc hF hj HQ hal hgo hqn hFl;go_wp2_with (go_at_call 120;refine(CF.out _).mono ?_;rintro e wx ⟨rfl,hwx⟩;have hwy:=hwx.symm;clear hwx;subst hwy);go_loopg [7,8] q (fun g fw jv wy=>∃(t:Nat) (f:Int),t+g=q∧fw= .int .i64 f∧jv= .int .i64 t∧wr=wy∧Hid (f=if F∈acc.take t then 0 else F))
        case atStart=>exact⟨0,F,by omega,rfl,rfl,rfl,hid (by simp)⟩
        case round=>
         obtain⟨t,f,ht,rfl,rfl,rfl,HT⟩:=hrel;have ht0:(0:Int)≤t:=by omega
         rcases Nat.eq_zero_or_pos gk with h00|h00
         ·have htq:¬(t:Int)<q:=by omega
          have hft:=HT.out;rw[List.take_of_length_le (by have:=HAL.out;omega)]at hft;by_cases hz:F=0∨F∈acc
          ·obtain rfl:f=0:=by
            rcases hz with h|h
            ·rw[hft,h];split<;>rfl
            ·rw[hft,if_pos h]
           have HZ2:=hid (show entryL L=none by rw[HZ.out,if_neg HNE.out,HST.out,if_pos hz];rfl);clear hft hz HT;go_wp2_with fail;exact bodyPost_ret (v:= .tuple #[.agg #[.string ⟨#[]⟩,.slice none 0 0],.bool false]) (by simp[results,Tryz.results68,go_sem,x0,x1]) rfl ⟨EntAns.no HZ2.out,put2_below HQE.out.below (Nat.le_refl _) _ _⟩
          ·obtain rfl:f=F:=by rw[hft,if_neg fun h=>hz (.inr h)]
           have hf0:(f==0)=false:=by simp;exact fun h=>hz (.inl h)
           have hf65:65≤f:=by
            rcases HFL2.out with h|h
            ·exact absurd (.inl h) hz
            ·exact h
           have HST2:=hid (show flagsL [] fs=flagsL (acc++[f]) (fs.drop (q+1))by rw[HST.out,if_neg hz]);have HROW:=hid (show (wr.alloc (.cells #[.int .i64 f] 3)).ownsRow (W0.heap.size+1) 3 1 (.slice A q cap) q (acc.map (Value.int .i64))from by
            have:=HQE.out.row.alloc (.cells #[.int .i64 f] 3);rwa[HAL.out]at this)
           have H65:=hid hf65;clear hft hz HT HST CF hf65;go_wp2_with (at_builtin;refine wpList_append_where _ rfl _ _ 42 rfl (W0.heap.size+1) 3 i1 (.int .i64 0) 1 8 Tryz.underlying42 hi1 hz10 hz11 hz12 rfl (by decide) (.slice A q cap) q (acc.map (Value.int .i64)) rfl HROW.out ⟨wr.heap.size,0,none⟩ 1 1 [.int .i64 f] rfl rfl (news_row _ _ _) (int_oneY f) (by unfold maxLen;omega) (by omega) (by have:=HQE.out.hi;rw[World.size_alloc];omega) ?_);intro v' w4 hown4 hgrow4 _;have hA1:=HAL.out;have HE4:=hid (HQE.out.more (x:=f) (by rw[hA1];exact hown4) (by rw[hA1];exact hgrow4));obtain⟨z0,z1,fz⟩:=HQE.out.below2 (by rw[hA1];exact hgrow4);obtain⟨A',cap',rfl⟩:=own_shape hown4;clear hown4 hgrow4 hA1 x0 x1 y0 y1 fx fy;go_wp2_with fail;go_roundg (go-1)
           case measure=>have:=HGO.out;omega
           case rel=>
            refine⟨q+1,_,acc++[f],by have:=HGO.out;omega,by have:=HJ.out;subst this;go_num,hid ⟨HE4.out,HST2.out,by rw[List.length_append,HAL.out];rfl,fun x hx=>?_⟩⟩;rcases List.mem_append.1 hx with h|h
            ·exact HQA.out x h
            ·rw[List.mem_singleton]at h;rw[h];exact H65.out
         ·have htq:(t:Int)<q:=by omega
          obtain⟨a,ha⟩:∃a,acc[t]?=some a:=⟨_,List.getElem?_eq_getElem (by have:=HAL.out;omega)⟩;obtain⟨g,rfl,hg,hqc,ca⟩:=HQR.out t a ha;have ha65:=HQA.out a (List.mem_of_getElem? ha);have htk:acc.take (t+1)=acc.take t++[a]:=by
           obtain⟨h1,h2⟩:=List.getElem?_eq_some_iff.1 ha;rw[List.take_succ_eq_append_getElem h1,h2]
          by_cases hin:F∈acc.take t
          ·obtain rfl:f=0:=by rw[HT.out,if_pos hin]
           have ha0:(a==0)=false:=by simp;omega
           have HT2:=hid (show (0:Int)=if F∈acc.take (t+1)then 0 else F by rw[if_pos (by rw[htk];exact List.mem_append_left _ hin)]);clear hin htk ha HT;go_wp2_with fail;go_roundg (gk-1)
           case measure=>omega
           case rel=>exact⟨t+1,0,by omega,rfl,by go_num,rfl,HT2⟩
          ·obtain rfl:f=F:=by rw[HT.out,if_neg hin]
           by_cases haf:a=f
           ·have hd:(a==f)=true:=by simpa using haf
            have HT2:=hid (show (0:Int)=if f∈acc.take (t+1)then 0 else f by rw[if_pos (by rw[htk,haf];simp)]);clear hin htk ha HT haf;go_wp2_with fail;go_roundg (gk-1)
            case measure=>omega
            case rel=>exact⟨t+1,0,by omega,rfl,by go_num,rfl,HT2⟩
           ·have hd:(a==f)=false:=by simpa using haf
            have HT2:=hid (show f=if f∈acc.take (t+1)then 0 else f by
             rw[if_neg];rw[htk];simp only[List.mem_append,List.mem_singleton,not_or];exact⟨hin,fun e=>haf e.symm⟩)
            clear hin htk ha HT haf;go_wp2_with fail;go_roundg (gk-1)
            case measure=>omega
            case rel=>exact⟨t+1,f,by omega,rfl,by go_num,rfl,HT2⟩
  ·have hlt:(k:Int)<s.size:=by omega
   have hks:k<s.size:=by omega
   obtain⟨c,hc,hget⟩:=BYT.out k hks;have hne:=before47 hc (by have:=HP.out;omega);obtain⟨x,hx⟩:∃x,x=c.toNat:=⟨_,rfl⟩;have hgx:(s[k]'hks).toNat=x:=by rw[hget,hx]
   have hx47:((x:Int)==47)=false:=by
    simp;intro e;exact hne (UInt8.toNat_inj.1 ((show c.toNat=47 by omega).trans rfl))
   clear hc hget hne hx;go_wp2_with fail;go_roundg (gk-1)
   case measure=>omega
   case rel=>exact⟨k+1,by omega,by go_num,rfl⟩
theorem linesL_len:∀(s:List UInt8),(linesL s).length≤s.length
 | []=>Nat.le_refl _
 | b::r=>by
   have ih:=linesL_len r;rw[linesL_cons];by_cases hb:b=10
   ·rw[if_pos hb,List.length_cons,List.length_cons];omega
   ·rw[if_neg hb];cases he:linesL r with
    | nil=>simp
    | cons x t=>rw[he,List.length_cons]at ih;rw[List.length_cons,List.length_cons];omega
theorem wCells_at {ls:List (List UInt8)}{k:Nat}{l:List UInt8}(h:ls[k]?=some l):(wCells ls)[k]?=some (.string ⟨l.toArray⟩):=by
 unfold wCells;rw[List.getElem?_map,h];rfl
def ParseAns (w w':World)(o:List En×Nat×Int)(e:Ending):Prop:=∃v,e= .returned (.tuple #[v,.int .i64 (o.2.1:Nat),.int .i64 o.2.2])∧EntsAt w' v o.1∧Below w.heap.size w w'
theorem ParseAns.no {w w':World}{o:List En×Nat×Int}{n:Nat}{c:Int}(h:o=([],n,c))(hb:Below w.heap.size w w'):ParseAns w w' o (.returned (.tuple #[.slice none 0 0,.int .i64 n,.int .i64 c])):=by
 subst h;exact⟨_,rfl,.inl ⟨rfl,_,_,rfl⟩,hb⟩
theorem head35 {l:List UInt8}{s:ByteArray}(hs:s=⟨l.toArray⟩):s.toList.isEmpty=decide (l=[]):=by
 rw[toL_data,hs];cases l<;>rfl
theorem eparse_any (w:World)(s:ByteArray)(hs:s.size≤1000000000):
  Calls Tryz.prog 33 #[.string s] w fun e w'=>ParseAns w w' (parseE s) e:=by
 by_cases hbig:(65536:Int)<s.size
 ·have HZ:=hid (show parseE s=([],0,3)by unfold parseE;rw[if_pos (by omega)]);go_enter Tryz.func33,Tryz.ntmps33;go_wp2_with fail;go_ret3;exact ParseAns.no HZ.out (Below.refl _ _)
 have CL:=hid (rlines_any w s hs);obtain⟨ls,hls⟩:∃ls,ls=linesL s.data.toList:=⟨_,rfl⟩;have hlen:∀l∈ls,l.length≤65536:=fun l hl=>by
  have h1:=linesL_sum s.data.toList;rw[←hls]at h1;have h2:=mem_sum ls l hl;have h3:s.data.toList.length=s.size:=(Lib.size_eq s).symm;omega
 have hnum:ls.length≤65536:=by
  have h1:=linesL_len s.data.toList;rw[←hls]at h1;have h3:s.data.toList.length=s.size:=(Lib.size_eq s).symm;omega
 have HP:=hid (show parseE s=endE ls by unfold parseE;rw[if_neg (by omega),hls]);rw[←hls]at CL;have HL:=hid (And.intro hlen hnum);obtain⟨n,hn⟩:∃n,n=ls.length:=⟨_,rfl⟩;rw[←hn]at CL;have HN:=hid hn;obtain⟨i1,hi1,hz10,hz11,hz12⟩:=info_parts Tryz.infosY99;clear hls hlen hnum hn;go_enter Tryz.func33,Tryz.ntmps33;go_wp2_with (go_at_call 65;refine CL.out.mono ?_;rintro e w1 ⟨v,rfl,hown,hb1⟩;have HO:=hid (And.intro hown hb1);clear hown hb1);have HW1:=hid (show _ from(HO.out.2:Below w.heap.size w w1));have hmn:n≤65536:=by have:=HL.out.2;have:=HN.out;omega
 obtain⟨A,cap,rfl,hA⟩:∃A cap,v= .slice A n cap∧(0<n→∃g,A=some ⟨g,0,none⟩∧g<w1.heap.size∧n≤cap∧∀k l,ls[k]?=some l→w1.cell? ⟨g,k,none⟩=some (.string ⟨l.toArray⟩)):=by
  rcases Nat.eq_zero_or_pos n with h0|h0
  ·rcases HO.out.1.2 with ⟨rfl,e⟩|⟨q,cap,cur,rfl,_⟩
   ·exact⟨none,0,by rw[h0],fun h=>by omega⟩
   ·exact⟨_,cap,rfl,fun h=>by omega⟩
  ·obtain⟨g,cap,rfl,hg,hnc,_,hcell⟩:=own_open9 HO.out.1 h0;exact⟨_,cap,rfl,fun _=>⟨g,rfl,hg,hnc,fun k l hl=>hcell k _ (wCells_at hl)⟩⟩
 have HV:=hid hA;have HQ0:=hid (EQ.start w1);clear hA HO;go_loopg [6,7,8,9,10] n (fun gh mv bv i _ _ wr=>∃(k:Nat) (xs:List Value),k+gh=n∧i= .int .i64 k∧bv= .int .i64 (badE 1 (ls.take k):Nat)∧Hid (EQ w1 wr mv xs (esOf (ls.take k))))
 case atStart=>exact⟨0,[],by omega,rfl,rfl,HQ0⟩
 case round=>
  obtain⟨k,xs,hk,rfl,rfl,HK⟩:=hrel;have hk0:(0:Int)≤k:=by omega
  obtain⟨MA,mc,rfl⟩:=own_shape HK.out.row;have hble:badE 1 (ls.take k)≤k:=by
   have h1:=badE_le (ls.take k) 1;rw[List.length_take]at h1;omega
  have hmle:(esOf (ls.take k)).length≤k:=by
   have h1:=esOf_le (ls.take k);rw[List.length_take]at h1;omega
  rcases Nat.eq_zero_or_pos gk with h0|h0
  ·have hkm:¬(k:Int)<n:=by omega
   have hfull:ls.take k=ls:=List.take_of_length_le (by have:=HN.out;omega);rw[hfull]at HK hble hmle⊢;obtain⟨b,hb⟩:∃b,b=badE 1 ls:=⟨_,rfl⟩;obtain⟨m,hm⟩:∃m,m=(esOf ls).length:=⟨_,rfl⟩;have HQ:=hid HK.out.reads;have HB:=hid (HW1.out.trans (HK.out.below.mono HW1.out.size));rw[←hm]at HQ hmle⊢;rw[←hb]at hble⊢;have HE:=hid (show parseE s=if 2000<m then([],0,3)else if 0<b then([],b,5)else(esOf ls,0,0)by rw[HP.out];unfold endE;rw[hm,hb]);clear HK hfull hb hm;by_cases h1:2000<m
   ·have e1:(2000:Int)<m:=by omega
    have HZ:=hid (show parseE s=([],0,3)by rw[HE.out,if_pos h1]);go_wp2_with fail;go_ret3;exact ParseAns.no HZ.out HB.out
   ·have e1:¬(2000:Int)<m:=by omega
    by_cases h2:0<b
    ·have e2:(0:Int)<b:=by omega
     have HZ:=hid (show parseE s=([],b,5)by rw[HE.out,if_neg h1,if_pos h2]);go_wp2_with fail;go_ret3;exact ParseAns.no HZ.out HB.out
    ·have e2:¬(0:Int)<b:=by omega
     have HZ:=hid (show parseE s=(esOf ls,0,0)by rw[HE.out,if_neg h1,if_neg h2]);go_wp2_with fail;go_ret3;refine⟨_,by rw[HZ.out];rfl,by rw[HZ.out];exact HQ.out,HB.out⟩
  ·have hkm:(k:Int)<n:=by omega
   obtain⟨l,hl⟩:∃l,ls[k]?=some l:=⟨_,List.getElem?_eq_getElem (by have:=HN.out;omega)⟩;obtain⟨g,rfl,hg,hnc,hcell⟩:=HV.out (by omega);have hc:=hcell k l hl;have hc2:=(HK.out.below.cell (p:=⟨g,k,none⟩) hg).trans hc;have hnc2:(n:Int)≤cap:=by omega
   have hll:=HL.out.1 l (List.mem_of_getElem? hl);obtain⟨S,hS⟩:∃S:ByteArray,S=⟨l.toArray⟩:=⟨_,rfl⟩;have hSs:S.size=l.length:=by rw[hS];show l.toArray.size=_;rw[List.size_toArray]
   have hSd:S.data.toList=l:=by rw[hS]
   have hem:=head35 hS;rw[←hS]at hc2;have HE1:=hid (esOf_take hl);have HB1:=hid (badE_take hl);obtain⟨b,hb⟩:∃b,b=badE 1 (ls.take k):=⟨_,rfl⟩;rw[←hb]at HB1 hble⊢;have CE:=hid (fun wx=>eentry_any wx S (by omega));rw[hSd]at CE;obtain⟨m,hm⟩:∃m,m=(esOf (ls.take k)).length:=⟨_,rfl⟩;rw[←hm]at HK hmle⊢;have HM:=hid hm;have HBB:=hid hb;clear hl hc hcell hS hnc hm hb HV;by_cases hsk:l=[]∨l.head?=some 35
   ·have hno:=skip_entry hsk;have hnn:noneL l=false:=by
     rw[Bool.eq_false_iff];intro e;exact((noneL_eq l).1 e).1 hsk
    have HQ2:=hid (show EQ w1 wr (.slice MA m mc) xs (esOf (ls.take (k+1)))by
     rw[HE1.out,hno];simpa using HK.out)
    have HB2:=hid (show b=badE 1 (ls.take (k+1))by
     rw[HB1.out,hnn];split
     ·rename_i e;rw[e];rfl
     ·rfl)
    by_cases hl0:l=[]
    ·have e1:S.toList.isEmpty=true:=by rw[hem];exact decide_eq_true hl0
     clear hno hnn hem hSs hSd hl0 hsk;go_wp2_with fail;go_roundg (gk-1)
     case measure=>omega
     case rel=>exact⟨k+1,xs,by omega,by go_num,congrArg (fun n:Nat=>Value.int .i64 n) HB2.out,HQ2⟩
    ·have e1:S.toList.isEmpty=false:=by rw[hem];exact decide_eq_false hl0
     have hS0:0<S.size:=by rw[hSs];exact List.length_pos_iff.2 hl0
     obtain⟨c,hc0,hget⟩:=byte_at hS0;have h35:c=35:=by
      rcases hsk with h|h
      ·exact absurd h hl0
      ·rw[hSd]at hc0;rw[List.head?_eq_getElem?]at h;rw[h]at hc0;exact(Option.some.inj hc0).symm
     subst h35;have hgx:(S[0]'hS0).toNat=35:=by rw[hget];rfl
     have hS1:(0:Int)<S.size:=by omega
     clear hno hnn hem hSs hSd hl0 hsk hc0 hget;go_wp2_with fail;go_roundg (gk-1)
     case measure=>omega
     case rel=>exact⟨k+1,xs,by omega,by go_num,congrArg (fun n:Nat=>Value.int .i64 n) HB2.out,HQ2⟩
   ·have hl0:l≠[]:=fun e=>hsk (.inl e);have e1:S.toList.isEmpty=false:=by rw[hem];exact decide_eq_false hl0
    have hS0:0<S.size:=by rw[hSs];exact List.length_pos_iff.2 hl0
    obtain⟨c,hc0,hget⟩:=byte_at hS0;obtain⟨x,hx⟩:∃x,x=c.toNat:=⟨_,rfl⟩;have hgx:(S[0]'hS0).toNat=x:=by rw[hget,hx]
    have hx35:((x:Int)==35)=false:=by
     simp;intro e;apply hsk;right;rw[hSd]at hc0;rw[List.head?_eq_getElem?,hc0];exact congrArg some (UInt8.toNat_inj.1 ((show c.toNat=35 by omega).trans rfl))
    have hS1:(0:Int)<S.size:=by omega
    have HSK:=hid hsk;clear hem hSs hSd hl0 hsk hc0 hget hx;cases he:entryL l with
    | none=>
      have hnn:noneL l=true:=(noneL_eq l).2 ⟨HSK.out,he⟩;have HQ2:=hid (show EQ w1 wr (.slice MA m mc) xs (esOf (ls.take (k+1)))by
       rw[HE1.out,he];simpa using HK.out)
      have HB2:=hid (show badE 1 (ls.take (k+1))=if b=0 then k+1 else b by rw[HB1.out,hnn];rfl);have HEE:=hid he;clear he hnn;by_cases hb0:b=0
      ·subst hb0;rw[if_pos rfl]at HB2;go_wp2_with (go_at_call 68;refine(CE.out _).mono ?_;rintro e w2 ⟨⟨W,A2,n2,c2,ok,rfl,hok,-⟩,hb2⟩;have hok2:ok=false:=(by rw[hok,HEE.out];rfl);subst hok2;have HB22:=hid (hb2.alloc hb2.size (.cells #[.string W,.slice A2 n2 c2] 99));clear hok hb2);go_roundg (gk-1)
       case measure=>omega
       case rel=>exact⟨k+1,xs,by omega,by go_num,by rw[HB2.out];go_num,hid (HQ2.out.keep HB22.out)⟩
      ·rw[if_neg hb0]at HB2;have e3:((b:Int)==0)=false:=by simp;omega
       clear hb0;go_wp2_with (go_at_call 68;refine(CE.out _).mono ?_;rintro e w2 ⟨⟨W,A2,n2,c2,ok,rfl,hok,-⟩,hb2⟩;have hok2:ok=false:=(by rw[hok,HEE.out];rfl);subst hok2;have HB22:=hid (hb2.alloc hb2.size (.cells #[.string W,.slice A2 n2 c2] 99));clear hok hb2);go_roundg (gk-1)
       case measure=>omega
       case rel=>exact⟨k+1,xs,by omega,by go_num,congrArg (fun n:Nat=>Value.int .i64 n) HB2.out.symm,hid (HQ2.out.keep HB22.out)⟩
    | some en=>
      have hnn:noneL l=false:=by
       rw[Bool.eq_false_iff];intro e;have:=((noneL_eq l).1 e).2;rw[he]at this;cases this
      have HQ2:=hid (show esOf (ls.take (k+1))=esOf (ls.take k)++[en]by rw[HE1.out,he]);have HB2:=hid (show b=badE 1 (ls.take (k+1))by
       rw[HB1.out,hnn];split
       ·rename_i e;rw[e];rfl
       ·rfl)
      have HEE:=hid he;clear he hnn;go_wp2_with (first
       | (go_at_call 68;refine(CE.out _).mono ?_;rintro e w2 ⟨⟨W,A2,n2,c2,ok,rfl,hok,hen⟩,hb2⟩;have hok2:ok=true:=(by rw[hok,HEE.out];rfl);subst hok2;obtain⟨hW,hn2,hr2⟩:=hen en HEE.out;have HR:=hid (And.intro hb2 (And.intro hW (And.intro hn2 hr2)));have hrow:=((HK.out.keep hb2).row.alloc (.cells #[.string W,.slice A2 n2 c2] 99)).alloc (.cells #[.string W,.slice A2 n2 c2] 99);rw[←HM.out]at hrow;have HROW:=hid hrow;clear hrow;have HS2:=hid (show w1.heap.size≤((w2.alloc (.cells #[.string W,.slice A2 n2 c2] 99)).alloc (.cells #[.string W,.slice A2 n2 c2] 99)).heap.size by rw[World.size_alloc,World.size_alloc];have:=(HK.out.keep hb2).below.size;omega);clear hok hen hb2 hW hn2 hr2)
       | (at_builtin;refine wpList_append_where _ rfl _ _ 60 rfl w1.heap.size 99 i1 (.agg #[.string ⟨#[]⟩,.slice none 0 0]) 2 40 Tryz.underlying60 hi1 hz10 hz11 hz12 rfl (by decide) (.slice MA m mc) m xs rfl HROW.out ⟨w2.heap.size+1,0,none⟩ 1 1 [.string W,.slice A2 n2 c2] rfl rfl (news_row2 _ _ _ _) (en_one _ _ _ _) (by unfold maxLen;omega) (by omega) HS2.out ?_))
      intro v' w4 hown4 hgrow4 hwh4;rw[HM.out]at hown4;have HQ4:=hid (HK.out.push HR.out.1 HR.out.2.1 HR.out.2.2.1 HR.out.2.2.2 (((Below.refl w2.heap.size w2).alloc (Nat.le_refl _) _).alloc (by rw[World.size_alloc];omega) _) hown4 hgrow4 (hwh4.imp id fun h g hg=>by rw[World.size_alloc,World.size_alloc];exact h g hg));clear hown4 hgrow4 hwh4;go_wp2_with fail;go_roundg (gk-1)
      case measure=>omega
      case rel=>exact⟨k+1,_,by omega,by go_num,congrArg (fun n:Nat=>Value.int .i64 n) HB2.out,by rw[HQ2.out];exact HQ4⟩
end Go.Proofs.YtfehpcbmdancoaaGreatDoor.Ls
