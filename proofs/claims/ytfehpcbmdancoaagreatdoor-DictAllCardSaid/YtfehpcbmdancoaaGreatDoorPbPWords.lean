/- The document's Words of chapter 10 by contract: a line cut at each blank. -/
import Derived.Test.YtfehpcbmdancoaaGreatDoorPbPlain
namespace Go.Proofs.YtfehpcbmdancoaaGreatDoor
open Go Go.RowKit Go.Lib
def wCells (l:List (List UInt8)):List Value:=l.map fun x=> .string ⟨x.toArray⟩
theorem Tryz.infosW9:(Tryz.prog.info? 9).map (fun i=>(i.zero,i.size,i.bytes))=some (some (.string ⟨#[]⟩),1,16):=by kernel_rfl
theorem ext_list (s:ByteArray)(a b:Nat):(s.extract a b).data.toList=(s.data.toList.drop a).take (b-a):=by
 rw[ByteArray.data_extract,Array.toList_extract]
theorem ba_list (s:ByteArray):(⟨s.data.toList.toArray⟩:ByteArray)=s:=by
 cases s;simp
theorem ext_ba (s:ByteArray)(a b:Nat):s.extract a b=⟨((s.data.toList.drop a).take (b-a)).toArray⟩:=by
 rw[←ext_list,ba_list]
def CutAt (L:List UInt8)(done:List (List UInt8))(a i:Nat):Prop:=a≤i∧i≤L.length∧wordsL L=done++wordsL (L.drop a)∧∀j,a≤j→j<i→L[j]?≠some 32
theorem CutAt.start (L:List UInt8):CutAt L [] 0 0:=⟨Nat.le_refl _,Nat.zero_le _,by simp,fun j _ h=>absurd h (Nat.not_lt_zero _)⟩
theorem part_noblank {L:List UInt8}{a i:Nat}(h:∀j,a≤j→j<i→L[j]?≠some 32):(32:UInt8) ∉ (L.drop a).take (i-a):=by
 intro hm
 obtain⟨j,hj,he⟩:=List.getElem_of_mem hm
 rw[List.length_take,List.length_drop]at hj
 refine h (a+j) (by omega) (by omega) ?_
 rw[List.getElem_take,List.getElem_drop]at he
 rw[List.getElem?_eq_getElem (by omega),he]
theorem CutAt.on {L:List UInt8}{done:List (List UInt8)}{a i:Nat}(h:CutAt L done a i)(hi:i<L.length)(hne:L[i]?≠some 32):CutAt L done a (i+1):=
 ⟨by have:=h.1;omega,hi,h.2.2.1,fun j h1 h2=>by
  rcases Nat.lt_or_ge j i with hj|hj
  ·exact h.2.2.2 j h1 hj
  ·obtain rfl:j=i:=by omega
   exact hne⟩
theorem CutAt.cut {L:List UInt8}{done:List (List UInt8)}{a i:Nat}(h:CutAt L done a i)(hi:i<L.length)(he:L[i]?=some 32):CutAt L (done++[(L.drop a).take (i-a)]) (i+1) (i+1):=by
 obtain⟨h1,h2,h3,h4⟩:=h
 refine⟨Nat.le_refl _,hi,?_,fun j h5 h6=>by omega⟩
 have hs:L.drop a=(L.drop a).take (i-a)++32::L.drop (i+1):=by
  obtain⟨_,hc⟩:=List.getElem?_eq_some_iff.1 he
  have hd:L.drop i=32::L.drop (i+1):=by rw[List.drop_eq_getElem_cons hi,hc]
  have:=(List.take_append_drop (i-a) (L.drop a)).symm
  rwa[List.drop_drop,show a+(i-a)=i by omega,hd]at this
 rw[h3]
 conv=>lhs;rw[hs]
 rw[wordsL_app _ _ (part_noblank h4),List.append_assoc]
 rfl
theorem CutAt.fin {L:List UInt8}{done:List (List UInt8)}{a:Nat}(h:CutAt L done a L.length):wordsL L=done++[(L.drop a).take (L.length-a)]:=by
 obtain⟨h1,h2,h3,h4⟩:=h
 have hn:=part_noblank h4
 rw[List.take_of_length_le (by rw[List.length_drop];omega)]at hn⊢
 rw[h3,wordsL_one _ hn]
def MidW (w wr:World)(v:Value)(L:List UInt8)(a i:Nat):Prop:=
 ∃done,(CutAt L done a i∨(i=L.length+1∧wordsL L=done))∧done.length≤i∧wr.ownsRow w.heap.size 9 1 v done.length (wCells done)∧Below w.heap.size w wr
set_option maxRecDepth 100000 in
set_option maxHeartbeats 4000000 in
theorem rwords_any (w:World)(s:ByteArray)(hs:s.size≤1000000000):
  Calls Tryz.prog 119 #[.string s] w fun e w'=>∃v,e= .returned v∧w'.ownsRow w.heap.size 9 1 v (wordsL s.data.toList).length (wCells (wordsL s.data.toList))∧Below w.heap.size w w':=by
 obtain⟨i1,hi1,hz10,hz11,hz12⟩:=info_parts Tryz.infosW9
 obtain⟨L,hL⟩:∃L,L=s.data.toList:=⟨_,rfl⟩
 have hLs:L.length=s.size:=by rw[hL];exact(Lib.size_eq s).symm
 rw[←hL]
 have HL:=Lib.hid (And.intro hL hLs)
 have H0:=Lib.hid (show MidW w w (.slice none 0 0) L 0 0 from ⟨[],.inl (CutAt.start L),Nat.le_refl _,World.ownsRow_nil _ _ _ _,Below.refl _ _⟩)
 clear hL hLs
 go_enter Tryz.func119,Tryz.ntmps119
 go_wp2_with fail
 go_loopg [3,4,5] (s.size+1) (fun g v a i wr=>∃aa k:Nat,k+g=s.size+1∧aa≤k∧a= .int .i64 aa∧i= .int .i64 k∧Hid (MidW w wr v L aa k))
 case atStart=>exact⟨0,0,by omega,Nat.le_refl _,rfl,rfl,H0⟩
 case round=>
  obtain⟨aa,k,hk,hak,rfl,rfl,HM⟩:=hrel
  obtain⟨done,hcut,hdl,hrow,hb⟩:=HM.out
  have hLs:=HL.out.2
  rcases Nat.eq_zero_or_pos gk with h0|h0
  ·have hkn:k=s.size+1:=by omega
   have hd:wordsL L=done:=by
    rcases hcut with h|h
    ·have:=h.2.1;omega
    ·exact h.2
   subst hkn
   have HR:=Lib.hid (And.intro hrow hb)
   have HD:=Lib.hid hd
   have hz:¬((s.size+1:Nat):Int)≤s.size:=by omega
   clear hcut hdl hrow hb hd HM hLs
   go_wp2_with fail
   go_ret
   exact⟨_,rfl,by rw[HD.out];exact HR.out.1,HR.out.2⟩
  ·have hkn:(k:Int)≤s.size:=by omega
   have hkk:(0:Int)≤k:=by omega
   have hc:CutAt L done aa k:=by
    rcases hcut with h|h
    ·exact h
    ·omega
   have hrow2:=fun X:Value=>hrow.alloc (.cells #[X] 9)
   have hb2:=fun X:Value=>hb.alloc hb.size (.cells #[X] 9)
   have hdl2:done.length≤1000000000:=by omega
   have HR:=Lib.hid (And.intro hrow (And.intro hb (And.intro hrow2 (And.intro hb2 (And.intro hc hdl)))))
   have HOW:=Lib.hid (fun (X:ByteArray)=>(by intro u hu;simp only[List.mem_singleton]at hu;subst hu;rfl:∀u∈[Value.string X],u.oneCell'=true))
   clear hcut hdl hrow hb hrow2 hb2 HM
   by_cases hks:k=s.size
   ·subst hks
    have d1:((s.size:Int)==s.size)=true:=by simp
    have HF:=Lib.hid (show wordsL L=done++[(L.drop aa).take (L.length-aa)]from CutAt.fin (by rw[hLs];exact hc))
    have ha1:(0:Int)≤aa:=by omega
    have ha2:(aa:Int)≤s.size:=by omega
    clear hc hLs
    go_wp2_with (at_builtin;refine wpList_append_own _ rfl _ _ 24 rfl w.heap.size 9 i1 (.string ⟨#[]⟩) 1 16 Tryz.underlying24 hi1 hz10 hz11 hz12 rfl (by decide) _ _ _ rfl (HR.out.2.2.1 _) ⟨wr.heap.size,0,none⟩ 1 1 [.string (s.extract aa s.size)] rfl rfl (news_row _ _ _) (HOW.out _) (by unfold maxLen;omega) (by omega) ((HR.out.2.2.2.1 (.string (s.extract aa s.size))).size) ?_)
    intro v' w4 hown4 hgrow4 _
    have HM2:=Lib.hid (show MidW w w4 v' L (s.size+1) (s.size+1)from
     ⟨done++[(L.drop aa).take (L.length-aa)],.inr ⟨by have:=HL.out.2;omega,HF.out⟩,by rw[List.length_append];have:=HR.out.2.2.2.2.2;show done.length+1≤_;omega,by
      rw[List.length_append,show wCells (done++[(L.drop aa).take (L.length-aa)])=wCells done++[.string (s.extract aa s.size)]by
       unfold wCells
       rw[List.map_append,ext_ba,HL.out.2,HL.out.1]
       rfl]
      exact hown4,(HR.out.2.2.2.1 _).grown hgrow4 (HR.out.2.2.2.1 _).size (fun z hz=>(HR.out.1.lt z hz).1)⟩)
    clear hown4 hgrow4
    go_wp2_with fail
    go_roundg (gk-1)
    case measure=>omega
    case rel=>exact⟨s.size+1,s.size+1,by omega,Nat.le_refl _,by go_num,by go_num,HM2⟩
   ·have hlt:(k:Int)<s.size:=by omega
    have d1:((k:Int)==s.size)=false:=by simp;omega
    obtain⟨c,hcL⟩:∃c,L[k]?=some c:=⟨_,List.getElem?_eq_getElem (by omega)⟩
    have hks2:k<s.size:=by omega
    have hget:s[k]'hks2=c:=by
     have h1:L[k]?=s.data[k]?:=by rw[HL.out.1,Array.getElem?_toList]
     rw[hcL]at h1
     have h2:s.data[k]?=some (s.data[k]'hks2):=Array.getElem?_eq_getElem hks2
     rw[h2]at h1
     exact(Option.some.inj h1).symm
    by_cases h32:c=32
    ·subst h32
     have HC:=Lib.hid (hc.cut (by omega) hcL)
     have ha1:(0:Int)≤aa:=by omega
     have ha2:(aa:Int)≤k:=by omega
     have hb32:((s[k]'hks2).toNat)=32:=by rw[hget];rfl
     clear hc hcL hLs hks hget
     go_wp2_with (at_builtin;refine wpList_append_own _ rfl _ _ 24 rfl w.heap.size 9 i1 (.string ⟨#[]⟩) 1 16 Tryz.underlying24 hi1 hz10 hz11 hz12 rfl (by decide) _ _ _ rfl (HR.out.2.2.1 _) ⟨wr.heap.size,0,none⟩ 1 1 [.string (s.extract aa k)] rfl rfl (news_row _ _ _) (HOW.out _) (by unfold maxLen;omega) (by omega) ((HR.out.2.2.2.1 (.string (s.extract aa k))).size) ?_)
     intro v' w4 hown4 hgrow4 _
     have HM2:=Lib.hid (show MidW w w4 v' L (k+1) (k+1)from
      ⟨done++[(L.drop aa).take (k-aa)],.inl HC.out,by rw[List.length_append];have:=HR.out.2.2.2.2.2;show done.length+1≤_;omega,by
       rw[List.length_append,show wCells (done++[(L.drop aa).take (k-aa)])=wCells done++[.string (s.extract aa k)]by
        unfold wCells
        rw[List.map_append,ext_ba,HL.out.1]
        rfl]
       exact hown4,(HR.out.2.2.2.1 _).grown hgrow4 (HR.out.2.2.2.1 _).size (fun z hz=>(HR.out.1.lt z hz).1)⟩)
     clear hown4 hgrow4
     go_wp2_with fail
     go_roundg (gk-1)
     case measure=>omega
     case rel=>exact⟨k+1,k+1,by omega,Nat.le_refl _,by go_num,by go_num,HM2⟩
    ·have HC:=Lib.hid (hc.on (by omega) (by rw[hcL];intro e;exact h32 (Option.some.inj e)))
     have hb32:¬((s[k]'hks2).toNat=32):=by
      rw[hget]
      intro e
      exact h32 (UInt8.toNat_inj.1 e)
     have hb33:(((s[k]'hks2).toNat:Int)==32)=false:=by simp;omega
     have HM2:=Lib.hid (show MidW w wr u3 L aa (k+1)from ⟨done,.inl HC.out,by have:=HR.out.2.2.2.2.2;omega,HR.out.1,HR.out.2.1⟩)
     clear hc hcL hLs hks hget
     go_wp2_with fail
     go_roundg (gk-1)
     case measure=>omega
     case rel=>exact⟨aa,k+1,by omega,by omega,rfl,by go_num,HM2⟩
end Go.Proofs.YtfehpcbmdancoaaGreatDoor
namespace Go.Proofs.YtfehpcbmdancoaaGreatDoor
open Go Go.RowKit Go.Lib
def LineAt (L:List UInt8)(done:List (List UInt8))(a i:Nat):Prop:=a≤i∧i≤L.length∧linesL L=done++linesL (L.drop a)∧∀j,a≤j→j<i→L[j]?≠some 10
theorem LineAt.start (L:List UInt8):LineAt L [] 0 0:=⟨Nat.le_refl _,Nat.zero_le _,by simp,fun j _ h=>absurd h (Nat.not_lt_zero _)⟩
theorem part_none10 {L:List UInt8}{a i:Nat}(h:∀j,a≤j→j<i→L[j]?≠some 10):(10:UInt8) ∉ (L.drop a).take (i-a):=by
 intro hm
 obtain⟨j,hj,he⟩:=List.getElem_of_mem hm
 rw[List.length_take,List.length_drop]at hj
 refine h (a+j) (by omega) (by omega) ?_
 rw[List.getElem_take,List.getElem_drop]at he
 rw[List.getElem?_eq_getElem (by omega),he]
theorem LineAt.on {L:List UInt8}{done:List (List UInt8)}{a i:Nat}(h:LineAt L done a i)(hi:i<L.length)(hne:L[i]?≠some 10):LineAt L done a (i+1):=
 ⟨by have:=h.1;omega,hi,h.2.2.1,fun j h1 h2=>by
  rcases Nat.lt_or_ge j i with hj|hj
  ·exact h.2.2.2 j h1 hj
  ·obtain rfl:j=i:=by omega
   exact hne⟩
theorem LineAt.cut {L:List UInt8}{done:List (List UInt8)}{a i:Nat}(h:LineAt L done a i)(hi:i<L.length)(he:L[i]?=some 10):LineAt L (done++[(L.drop a).take (i-a)]) (i+1) (i+1):=by
 obtain⟨h1,h2,h3,h4⟩:=h
 refine⟨Nat.le_refl _,hi,?_,fun j h5 h6=>by omega⟩
 have hs:L.drop a=(L.drop a).take (i-a)++10::L.drop (i+1):=by
  obtain⟨_,hc⟩:=List.getElem?_eq_some_iff.1 he
  have hd:L.drop i=10::L.drop (i+1):=by rw[List.drop_eq_getElem_cons hi,hc]
  have:=(List.take_append_drop (i-a) (L.drop a)).symm
  rwa[List.drop_drop,show a+(i-a)=i by omega,hd]at this
 rw[h3]
 conv=>lhs;rw[hs]
 rw[linesL_app _ _ (part_none10 h4),List.append_assoc]
 rfl
theorem LineAt.fin {L:List UInt8}{done:List (List UInt8)}{a:Nat}(h:LineAt L done a L.length):linesL L=if a<L.length then done++[(L.drop a).take (L.length-a)]else done:=by
 obtain⟨h1,h2,h3,h4⟩:=h
 by_cases ha:a<L.length
 ·rw[if_pos ha]
  have hn:=part_none10 h4
  rw[List.take_of_length_le (by rw[List.length_drop];omega)]at hn⊢
  rw[h3,linesL_one _ (by intro e;have:=congrArg List.length e;rw[List.length_drop]at this;simp at this;omega) hn]
 ·rw[if_neg ha,h3,List.drop_of_length_le (by omega)]
  simp[linesL]
def MidV (w wr:World)(v:Value)(L:List UInt8)(a i:Nat):Prop:=
 ∃done,LineAt L done a i∧done.length≤i∧wr.ownsRow w.heap.size 9 1 v done.length (wCells done)∧Below w.heap.size w wr
set_option maxRecDepth 100000 in
set_option maxHeartbeats 1000000 in
theorem rlines_any (w:World)(s:ByteArray)(hs:s.size≤1000000000):
  Calls Tryz.prog 65 #[.string s] w fun e w'=>∃v,e= .returned v∧w'.ownsRow w.heap.size 9 1 v (linesL s.data.toList).length (wCells (linesL s.data.toList))∧Below w.heap.size w w':=by
 obtain⟨i1,hi1,hz10,hz11,hz12⟩:=info_parts Tryz.infosW9
 obtain⟨L,hL⟩:∃L,L=s.data.toList:=⟨_,rfl⟩
 have hLs:L.length=s.size:=by rw[hL];exact(Lib.size_eq s).symm
 rw[←hL]
 have HL:=Lib.hid (And.intro hL hLs)
 have H0:=Lib.hid (show MidV w w (.slice none 0 0) L 0 0 from ⟨[],LineAt.start L,Nat.le_refl _,World.ownsRow_nil _ _ _ _,Below.refl _ _⟩)
 clear hL hLs
 have HOW:=Lib.hid (fun (X:ByteArray)=>(by intro u hu;simp only[List.mem_singleton]at hu;subst hu;rfl:∀u∈[Value.string X],u.oneCell'=true))
 go_enter Tryz.func65,Tryz.ntmps65
 go_wp2_with fail
 go_loopg [3,4,5] s.size (fun g v a i wr=>∃aa k:Nat,k+g=s.size∧aa≤k∧a= .int .i64 aa∧i= .int .i64 k∧Hid (MidV w wr v L aa k))
 case atStart=>exact⟨0,0,by omega,Nat.le_refl _,rfl,rfl,H0⟩
 case round=>
  obtain⟨aa,k,hk,hak,rfl,rfl,HM⟩:=hrel
  obtain⟨done,hc,hdl,hrow,hb⟩:=HM.out
  have hLs:=HL.out.2
  have hrow2:=fun X:Value=>hrow.alloc (.cells #[X] 9)
  have hb2:=fun X:Value=>hb.alloc hb.size (.cells #[X] 9)
  have hdl2:done.length≤1000000000:=by omega
  have hk0:(0:Int)≤k:=by omega
  have HR:=Lib.hid (And.intro hrow (And.intro hb (And.intro hrow2 (And.intro hb2 (And.intro hc hdl)))))
  clear hdl hrow hb hrow2 hb2 HM
  rcases Nat.eq_zero_or_pos gk with h0|h0
  ·have hks:k=s.size:=by omega
   subst hks
   have hz:¬((s.size:Nat):Int)<s.size:=by omega
   have hfin:=(show LineAt L done aa L.length from by rw[hLs];exact hc).fin
   by_cases ha:aa<s.size
   ·rw[if_pos (by omega)]at hfin
    have HF:=Lib.hid hfin
    have ha1:(0:Int)≤aa:=by omega
    have ha2:(aa:Int)<s.size:=by omega
    have ha3:(aa:Int)≤s.size:=by omega
    clear hc hfin hLs ha
    go_wp2_with (at_builtin;refine wpList_append_own _ rfl _ _ 24 rfl w.heap.size 9 i1 (.string ⟨#[]⟩) 1 16 Tryz.underlying24 hi1 hz10 hz11 hz12 rfl (by decide) _ _ _ rfl (HR.out.2.2.1 _) ⟨wr.heap.size,0,none⟩ 1 1 [.string (s.extract aa s.size)] rfl rfl (news_row _ _ _) (HOW.out _) (by unfold maxLen;omega) (by omega) ((HR.out.2.2.2.1 (.string (s.extract aa s.size))).size) ?_)
    intro v' w4 hown4 hgrow4 _
    have HX:=Lib.hid (And.intro (show w4.ownsRow w.heap.size 9 1 v' (linesL L).length (wCells (linesL L))by
     rw[HF.out,List.length_append,show wCells (done++[(L.drop aa).take (L.length-aa)])=wCells done++[.string (s.extract aa s.size)]by
      unfold wCells
      rw[List.map_append,ext_ba,HL.out.2,HL.out.1]
      rfl]
     exact hown4) ((HR.out.2.2.2.1 (.string (s.extract aa s.size))).grown hgrow4 (HR.out.2.2.2.1 _).size (fun z hz=>(HR.out.1.lt z hz).1)))
    clear hown4 hgrow4
    go_wp2_with fail
    go_ret
    exact⟨_,rfl,HX.out.1,HX.out.2⟩
   ·rw[if_neg (by omega)]at hfin
    have HF:=Lib.hid hfin
    have ha2:¬(aa:Int)<s.size:=by omega
    clear hc hfin hLs ha
    go_wp2_with fail
    go_ret
    exact⟨_,rfl,by rw[HF.out];exact HR.out.1,HR.out.2.1⟩
  ·have hlt:(k:Int)<s.size:=by omega
   obtain⟨c,hcL⟩:∃c,L[k]?=some c:=⟨_,List.getElem?_eq_getElem (by omega)⟩
   have hks2:k<s.size:=by omega
   have hget:s[k]'hks2=c:=by
    have h1:L[k]?=s.data[k]?:=by rw[HL.out.1,Array.getElem?_toList]
    rw[hcL]at h1
    have h2:s.data[k]?=some (s.data[k]'hks2):=Array.getElem?_eq_getElem hks2
    rw[h2]at h1
    exact(Option.some.inj h1).symm
   by_cases h10:c=10
   ·subst h10
    have HC:=Lib.hid (hc.cut (by omega) hcL)
    have ha1:(0:Int)≤aa:=by omega
    have ha2:(aa:Int)≤k:=by omega
    have ha3:(k:Int)≤s.size:=by omega
    have hb32:((s[k]'hks2).toNat)=10:=by rw[hget];rfl
    clear hc hcL hLs hget
    go_wp2_with (at_builtin;refine wpList_append_own _ rfl _ _ 24 rfl w.heap.size 9 i1 (.string ⟨#[]⟩) 1 16 Tryz.underlying24 hi1 hz10 hz11 hz12 rfl (by decide) _ _ _ rfl (HR.out.2.2.1 _) ⟨wr.heap.size,0,none⟩ 1 1 [.string (s.extract aa k)] rfl rfl (news_row _ _ _) (HOW.out _) (by unfold maxLen;omega) (by omega) ((HR.out.2.2.2.1 (.string (s.extract aa k))).size) ?_)
    intro v' w4 hown4 hgrow4 _
    have HM2:=Lib.hid (show MidV w w4 v' L (k+1) (k+1)from
     ⟨done++[(L.drop aa).take (k-aa)],HC.out,by rw[List.length_append];have:=HR.out.2.2.2.2.2;show done.length+1≤_;omega,by
      rw[List.length_append,show wCells (done++[(L.drop aa).take (k-aa)])=wCells done++[.string (s.extract aa k)]by
       unfold wCells
       rw[List.map_append,ext_ba,HL.out.1]
       rfl]
      exact hown4,(HR.out.2.2.2.1 _).grown hgrow4 (HR.out.2.2.2.1 _).size (fun z hz=>(HR.out.1.lt z hz).1)⟩)
    clear hown4 hgrow4
    go_wp2_with fail
    go_roundg (gk-1)
    case measure=>omega
    case rel=>exact⟨k+1,k+1,by omega,Nat.le_refl _,by go_num,by go_num,HM2⟩
   ·have HC:=Lib.hid (hc.on (by omega) (by rw[hcL];intro e;exact h10 (Option.some.inj e)))
    have hb32:¬((s[k]'hks2).toNat=10):=by
     rw[hget]
     intro e
     exact h10 (UInt8.toNat_inj.1 e)
    have hb33:(((s[k]'hks2).toNat:Int)==10)=false:=by simp;omega
    have HM2:=Lib.hid (show MidV w wr u3 L aa (k+1)from ⟨done,HC.out,by have:=HR.out.2.2.2.2.2;omega,HR.out.1,HR.out.2.1⟩)
    clear hc hcL hLs hget
    go_wp2_with fail
    go_roundg (gk-1)
    case measure=>omega
    case rel=>exact⟨aa,k+1,by omega,by omega,rfl,by go_num,HM2⟩
end Go.Proofs.YtfehpcbmdancoaaGreatDoor
