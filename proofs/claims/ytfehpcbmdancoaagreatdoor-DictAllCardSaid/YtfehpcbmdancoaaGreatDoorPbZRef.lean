/- Chapter 13's own answer by contract: has, Put. -/
import Derived.Deep.RegionLaw
import Derived.Deep.CutRange
import Derived.Deep.DeepCutAuto
import Derived.Laws.AppendOwnNone
import Derived.Sort.Walk0
import Derived.Deep.AppendLies
import Derived.Deep.QuietTactic
import Derived.BigQuiet
import Derived.Test.YtfehpcbmdancoaaGreatDoorRows
import Derived.ProofKit
import Derived.Deep.Strs
import Derived.Deep.Slices
import Derived.Carry
import Derived.OpenShut
import Derived.Test.YtfehpcbmdancoaaGreatDoorPbORows
import Derived.Test.YtfehpcbmdancoaaGreatDoorPbPlain
import Derived.Test.YtfehpcbmdancoaaGreatDoorPbYState
namespace Go.Proofs.YtfehpcbmdancoaaGreatDoor
open Go Go.RowKit Go.Lib
set_option maxHeartbeats 2000000 in
theorem has_any (w:World)(wd:ByteArray)(A:Option Addr)(n cap:Nat)(fl:List Int)(f:Int)(h:IntsAt w (.slice A n cap) fl):
  Calls Tryz.prog 124 #[.agg #[.string wd,.slice A n cap],.int .i64 f] w fun e w'=>e= .returned (.bool (decide (f∈fl)))∧Below w.heap.size w w':=by
 obtain⟨A',cap',e,hA⟩:=ints_open h
 injection e with e1 e2 e3
 subst e1 e2 e3
 have hbd:=ints_bd h
 obtain⟨n,hn⟩:∃n,n=fl.length:=⟨_,rfl⟩
 rw[←hn]at hA hbd⊢
 have hb0:Below w.heap.size w (w.alloc (.cells #[.string wd,.slice A n cap] 99)):=(Below.refl _ _).alloc (Nat.le_refl _) _
 have HA:=Lib.hid (show∀(i:Nat) c,fl[i]?=some c→∃q o,A=some ⟨q,o,none⟩∧q<w.heap.size∧n≤cap∧(w.alloc (.cells #[.string wd,.slice A n cap] 99)).cell? ⟨q,o+i,none⟩=some (.int .i64 c)from fun i c hc=>by
  obtain⟨q,o,k1,k2,k3,k4⟩:=hA i c hc
  exact⟨q,o,k1,k2,k3,(cell_old (p:=⟨q,o+i,none⟩) hb0 k2).trans k4⟩)
 have HN:=Lib.hid hn
 have HB:=Lib.hid hb0
 have z:=World.alloc_heap_new w (.cells #[.string wd,.slice A n cap] 99)
 have x1:(w.alloc (.cells #[.string wd,.slice A n cap] 99)).cell? ⟨w.heap.size,1,none⟩=some (.slice A n cap):=by unfold World.cell?;rw[z];rfl
 clear h hA hn hb0 z
 go_enter Tryz.func124,Tryz.ntmps124
 go_wp2
 generalize w.alloc (.cells #[.string wd,.slice A n cap] 99)=W at*
 go_loopg [5] n (fun gh i wr=>∃k:Nat,k+gh=n∧i= .int .i64 k∧wr=W∧¬(f∈fl.take k))
 case atStart=>exact⟨0,by omega,rfl,rfl,by simp⟩
 case round=>
  obtain⟨k,hk,rfl,rfl,hno⟩:=hrel
  by_cases hlt:k<n
  ·obtain⟨c,hc⟩:∃c,fl[k]?=some c:=⟨fl[k]'(by have:=HN.out;omega),List.getElem?_eq_getElem _⟩
   obtain⟨q,o,rfl,hq,hcap,hcell⟩:=HA.out k c hc
   have HC:=Lib.hid (And.intro hc hno)
   clear hc hno
   by_cases hcf:c=f
   ·subst hcf
    have hm:c∈fl:=List.mem_of_getElem? HC.out.1
    have HM:=Lib.hid hm
    clear hm
    go_wp2_with fail
    go_ret
    exact⟨by rw[decide_eq_true HM.out];rfl,HB.out⟩
   ·have HNX:Hid (¬(f∈fl.take (k+1))):=Lib.hid (by
     rw[List.take_add_one,HC.out.1]
     simp only[Option.toList,List.mem_append,List.mem_singleton]
     rintro (h|h)
     ·exact HC.out.2 h
     ·exact hcf h.symm)
    go_wp2_with fail
    go_roundg (gk-1)
    case measure=>omega
    case rel=>exact⟨k+1,by omega,by go_num,rfl,HNX.out⟩
  ·obtain rfl:k=n:=by omega
   rw[List.take_of_length_le (by have:=HN.out;omega)]at hno
   have HNO:=Lib.hid hno
   clear hno
   go_wp2_with fail
   go_ret
   exact⟨by rw[decide_eq_false HNO.out];rfl,HB.out⟩
theorem putL_at (s:ByteArray):∀(l:List ByteArray) (k:Nat),k≤l.length→(∀(j:Nat) a,j<k→l[j]?=some a→ltS a s)→(∀a,l[k]?=some a→¬ltS a s)→putL l s=if l[k]?=some s then l else l.take k++s::l.drop k
 | [],0,_,_,_=>by simp[putL]
 | a::l,0,_,_,h2=>by
   have:=h2 a rfl
   unfold putL
   rw[if_neg this]
   by_cases e:a=s<;>simp[e]
 | a::l,k+1,hk,h1,h2=>by
   have:=h1 0 a (by omega) rfl
   unfold putL
   rw[if_pos this,putL_at s l k (by simpa using hk) (fun j b hj hb=>h1 (j+1) b (by omega) (by simpa using hb)) (fun b hb=>h2 b (by simpa using hb))]
   simp only[List.getElem?_cons_succ,List.take_succ_cons,List.drop_succ_cons,List.cons_append]
   split<;>rfl
theorem less_eq (a s:ByteArray):Op.bytesLess a.toList s.toList=decide (ltS a s):=by
 rw[bytesLess_eq,ByteArray.toList_eq,ByteArray.toList_eq]
 rfl
theorem eq_eq (a s:ByteArray):(a.toList==s.toList)=decide (a=s):=by
 rw[Bool.eq_iff_iff,beq_iff_eq,decide_eq_true_eq,ByteArray.toList_eq,ByteArray.toList_eq]
 constructor
 ·intro h
  have:a.data=s.data:=Array.toList_inj.1 h
  cases a;cases s;simp at this;rw[this]
 ·intro h;rw[h]
def StrsP (w:World)(v:Value)(l:List ByteArray):Prop:=
 (l=[]∧v= .slice none 0 0)∨∃b off cap,v= .slice (some ⟨b,off,none⟩) l.length cap∧b<w.heap.size∧l.length≤cap∧cap≤maxLen∧∀(i:Nat) s,l[i]?=some s→w.cell? ⟨b,off+i,none⟩=some (.string s)
theorem StrsP.at_ {w:World}{v:Value}{l:List ByteArray}(h:StrsP w v l):StrsAt w v l:=by
 rcases h with ⟨rfl,rfl⟩|h
 ·exact .inl ⟨rfl,_,_,rfl⟩
 ·exact .inr h
theorem Tryz.infosZ9:(Tryz.prog.info? 9).map (fun i=>(i.zero,i.size,i.bytes))=some (some (.string ⟨#[]⟩),1,16):=by kernel_rfl
theorem own_strsP {w:World}{B n:Nat}{v:Value}{l:List ByteArray}(h:w.ownsRow B 9 1 v n (l.map Value.string))(hn:n=l.length):StrsP w v l:=by
 subst hn
 have hc:= @World.ownsRow.cells _ _ _ _ _ _ _ h
 rcases h.2 with ⟨rfl,h0⟩|⟨g,cap,cur,rfl,hb,hg,hnc,hcm,_⟩
 ·exact .inl ⟨List.eq_nil_of_length_eq_zero h0,rfl⟩
 ·refine .inr ⟨g,0,cap,rfl,(Array.getElem?_eq_some_iff.1 hg).1,hnc,hcm,fun i c hi=>?_⟩
  rw[Nat.zero_add,←add9]
  exact hc (g:=g) rfl i _ (by rw[List.getElem?_map,hi];rfl)
theorem str_one (l:List ByteArray):∀u∈l.map Value.string,u.oneCell'=true:=by
 intro u hu
 obtain⟨x,_,rfl⟩:=List.mem_map.1 hu
 rfl
set_option maxRecDepth 100000 in
set_option maxHeartbeats 4000000 in
theorem put13_any (w:World)(v:Value)(l:List ByteArray)(s:ByteArray)(h:StrsP w v l)(hl:l.length≤1000000000):
  Calls Tryz.prog 70 #[v,.string s] w fun e w'=>∃v',e= .returned v'∧StrsP w' v' (putL l s)∧Below w.heap.size w w':=by
 obtain⟨i0,hi,hz0,hz1,hz2⟩:=info_parts Tryz.infosZ9
 rcases h with ⟨rfl,rfl⟩|⟨b,off,cap,rfl,hb,hlc,hcm,hc⟩
 ·go_enter Tryz.func70,Tryz.ntmps70
  go_wp2
  go_loopg [5] 0 (fun gh i wr=>gh=0∧i= .int .i64 0∧wr=w)
  case atStart=>exact⟨rfl,rfl,rfl⟩
  case round=>
   obtain⟨hgh,rfl,rfl⟩:=hrel
   go_wp2_with (first
    | (at_builtin;refine wpList_append_own_none rfl _ _ 24 rfl wr.heap.size 9 i0 1 Tryz.underlying24 hi _ _ _ rfl HO1.out rfl ?_)
    | (at_builtin;refine wpList_append_own _ rfl _ _ 24 rfl wr.heap.size 9 i0 (.string ⟨#[]⟩) 1 16 Tryz.underlying24 hi hz0 hz1 hz2 rfl (by decide) _ _ _ rfl (World.ownsRow_nil _ _ _ _) ⟨wr.heap.size,0,none⟩ 1 1 [.string s] rfl rfl (World.news_of_block (cs:=#[.string s]) (t:=9) (fr:=(0,0)) (World.alloc_heap_new wr _)) (fun u hu=>by simp at hu;subst hu;rfl) (by unfold maxLen;omega) (by omega) (by simp) ?_;intro v1 w1 ho1 hg1 hn1;have HO1:=Lib.hid ho1;have HG1:=Lib.hid (And.intro hg1 hn1);clear ho1 hg1 hn1))
   go_ret
   have hb1:Below wr.heap.size wr w1:=((Below.refl _ wr).alloc (Nat.le_refl _) _).grown HG1.out.1 (by simp) (fun z hz=>by cases hz)
   exact⟨v1,rfl,own_strsP (l:=[s]) (n:=1) (by simpa using HO1.out) rfl,hb1⟩
 ·obtain⟨n,hn⟩:∃n,n=l.length:=⟨_,rfl⟩
  rw[←hn]at hl hlc⊢
  have HC:=Lib.hid hc
  have HN:=Lib.hid hn
  have HB:=Lib.hid (And.intro hb (And.intro hlc hcm))
  clear hc hn hb
  go_enter Tryz.func70,Tryz.ntmps70
  go_wp2_with fail
  go_loopg [5] n (fun gh i wr=>∃k:Nat,k+gh=n∧i= .int .i64 k∧wr=w∧∀(j:Nat) a,j<k→l[j]?=some a→ltS a s)
  case atStart=>exact⟨0,by omega,rfl,rfl,fun j a hj _=>by omega⟩
  case round=>
   obtain⟨k,hk,rfl,rfl,hlow⟩:=hrel
   by_cases hlt:k<n
   ·obtain⟨a,ha⟩:∃a,l[k]?=some a:=⟨l[k]'(by have:=HN.out;omega),List.getElem?_eq_getElem _⟩
    have hcell:=HC.out k a ha
    have HA:=Lib.hid (And.intro ha hlow)
    clear ha hlow
    by_cases hs:ltS a s
    ·have hs':Op.bytesLess a.toList s.toList=true:=by rw[less_eq];exact decide_eq_true hs
     have HL2:Hid (∀(j:Nat) a,j<k+1→l[j]?=some a→ltS a s):=Lib.hid fun j x hj hx=>by
      by_cases e:j=k
      ·subst e
       have h1:=HA.out.1
       rw[hx]at h1
       cases h1
       exact hs
      ·exact HA.out.2 j x (by omega) hx
     go_wp2_with fail
     go_roundg (gk-1)
     case measure=>omega
     case rel=>exact⟨k+1,by omega,by go_num,rfl,HL2.out⟩
    ·have hs':Op.bytesLess a.toList s.toList=false:=by rw[less_eq];exact decide_eq_false hs
     have hat:=putL_at s l k (by have:=HN.out;omega) HA.out.2 (fun x hx=>by have h1:=HA.out.1;rw[hx]at h1;cases h1;exact hs)
     by_cases he:a=s
     ·subst he
      have he':(a.toList==a.toList)=true:=by simp
      rw[if_pos HA.out.1]at hat
      have HP:=Lib.hid hat
      clear hat
      go_wp2_with fail
      go_ret
      exact⟨_,rfl,by rw[HP.out];exact .inr ⟨b,off,cap,by rw[←HN.out];rfl,HB.out.1,by rw[←HN.out];exact HB.out.2.1,HB.out.2.2,HC.out⟩,Below.refl _ _⟩
     ·have he':(a.toList==s.toList)=false:=by rw[eq_eq];exact decide_eq_false he
      rw[if_neg (fun hh=>he (by have h1:=HA.out.1;rw[hh]at h1;exact(Option.some.inj h1).symm))]at hat
      have HP:=Lib.hid hat
      clear hat
      have hkc:(k:Int)≤(cap:Int):=by omega
      have HN3:Hid (((l.drop k).map Value.string).length=(n-k)*1∧((l.take k).map Value.string).length=k*1∧∀j u,((l.take k).map Value.string)[j]?=some u→wr.cell? ((⟨b,off,none⟩:Addr).add j)=some u):=Lib.hid ⟨by rw[List.length_map,List.length_drop,←HN.out];omega,by rw[List.length_map,List.length_take,←HN.out];omega,fun j u hj=>by
       rw[List.getElem?_map]at hj
       obtain⟨x,hx,rfl⟩:=Option.map_eq_some_iff.1 hj
       rw[Addr.add_lit]
       rw[List.getElem?_take]at hx
       split at hx
       ·exact HC.out j x hx
       ·cases hx⟩
      have HD3:Hid (∀W',Below wr.heap.size wr W'→∀j u,((l.drop k).map Value.string)[j]?=some u→W'.cell? ((⟨b,off+k,none⟩:Addr).add j)=some u):=Lib.hid fun W' hb' j u hj=>by
       rw[List.getElem?_map]at hj
       obtain⟨x,hx,rfl⟩:=Option.map_eq_some_iff.1 hj
       rw[Addr.add_lit,Nat.add_assoc]
       rw[List.getElem?_drop]at hx
       exact(cell_old (p:=⟨b,off+(k+j),none⟩) hb' HB.out.1).trans (HC.out _ x hx)
      go_wp2_with (first
       | (at_builtin;refine wpList_append_own _ rfl _ _ 24 rfl wr.heap.size 9 i0 (.string ⟨#[]⟩) 1 16 Tryz.underlying24 hi hz0 hz1 hz2 rfl (by decide) _ _ _ rfl HO2.out ⟨b,off+k,none⟩ (n-k) (cap-k) ((l.drop k).map Value.string) rfl HN3.out.1 (HW2.out.2) (str_one _) (by unfold maxLen;have:=HB.out;omega) (by omega) HW2.out.1 ?_;intro v3 w3 ho3 hg3 hn3;have HO3:=Lib.hid ho3;have HG3:=Lib.hid hg3;clear ho3 hg3 hn3)
       | (at_builtin;refine wpList_append_own _ rfl _ _ 24 rfl wr.heap.size 9 i0 (.string ⟨#[]⟩) 1 16 Tryz.underlying24 hi hz0 hz1 hz2 rfl (by decide) _ _ _ rfl HA1.out.1 ⟨w1.heap.size,0,none⟩ 1 1 [.string s] rfl rfl (World.news_of_block (cs:=#[.string s]) (t:=9) (fr:=(0,0)) (World.alloc_heap_new w1 _)) (fun u hu=>by simp at hu;subst hu;rfl) (by unfold maxLen;omega) (by omega) HA1.out.2 ?_;intro v2 w2 ho2 hg2 hn2;have hb2:Below wr.heap.size wr w2:=(HB1.out.alloc HB1.out.size _).grown hg2 HA1.out.2 (fun z hz=>(HO1.out.lt z hz).1);have HW2:Hid (wr.heap.size≤w2.heap.size∧∀j u,((l.drop k).map Value.string)[j]?=some u→w2.cell? ((⟨b,off+k,none⟩:Addr).add j)=some u):=Lib.hid ⟨hb2.size,HD3.out w2 hb2⟩;have HB2:=Lib.hid hb2;clear hb2;have HO2:=Lib.hid ho2;have HG2:=Lib.hid hg2;clear ho2 hg2 hn2)
       | (at_builtin;refine wpList_append_own _ rfl _ _ 24 rfl wr.heap.size 9 i0 (.string ⟨#[]⟩) 1 16 Tryz.underlying24 hi hz0 hz1 hz2 rfl (by decide) _ _ _ rfl (World.ownsRow_nil _ _ _ _) ⟨b,off,none⟩ k cap ((l.take k).map Value.string) rfl HN3.out.2.1 HN3.out.2.2 (str_one _) (by unfold maxLen;omega) (by omega) (Nat.le_refl _) ?_;intro v1 w1 ho1 hg1 hn1;have HA1:Hid ((w1.alloc (.cells #[.string s] 9)).ownsRow wr.heap.size 9 1 v1 (0+k) ([]++(l.take k).map Value.string)∧wr.heap.size≤(w1.alloc (.cells #[.string s] 9)).heap.size):=Lib.hid ⟨own_keep9 ho1 ((Below.refl _ _).alloc (Nat.le_refl _) _),by rw[World.size_alloc];have:=hg1.size;omega⟩;have HB1:=Lib.hid (show Below wr.heap.size wr w1 from(Below.refl _ wr).grown hg1 (Nat.le_refl _) (fun z hz=>by cases hz));have HO1:=Lib.hid ho1;have HG1:=Lib.hid hg1;clear ho1 hg1 hn1))
      go_ret
      have hb3:Below wr.heap.size wr w3:=HB2.out.grown HG3.out HB2.out.size (fun z hz=>(HO2.out.lt z hz).1)
      refine⟨v3,rfl,?_,hb3⟩
      rw[HP.out]
      refine own_strsP (B:=wr.heap.size) (n:=0+k+1+(n-k)) ?_ (by rw[List.length_append,List.length_cons,List.length_take,List.length_drop,←HN.out];omega)
      have:=HO3.out
      simpa using this
   ·obtain rfl:k=n:=by omega
    have hat:=putL_at s l k (by have:=HN.out;omega) hlow (fun x hx=>by have:=(List.getElem?_eq_some_iff.1 hx).1;have:=HN.out;omega)
    rw[if_neg (fun hh=>by have:=(List.getElem?_eq_some_iff.1 hh).1;have:=HN.out;omega)]at hat
    have HP:=Lib.hid hat
    clear hat hlow
    have hkc:(k:Int)≤(cap:Int):=by omega
    have HDN:Hid (∀(W':World) (ad:Addr) j u,((l.drop k).map Value.string)[j]?=some u→W'.cell? (ad.add j)=some u):=Lib.hid fun W' ad j u hj=>by
     rw[List.drop_of_length_le (by have:=HN.out;omega)]at hj
     simp at hj
    have HN3:Hid (((l.drop k).map Value.string).length=0*1∧((l.take k).map Value.string).length=k*1∧∀j u,((l.take k).map Value.string)[j]?=some u→wr.cell? ((⟨b,off,none⟩:Addr).add j)=some u):=Lib.hid ⟨by rw[List.length_map,List.length_drop,←HN.out];omega,by rw[List.length_map,List.length_take,←HN.out];omega,fun j u hj=>by
     rw[List.getElem?_map]at hj
     obtain⟨x,hx,rfl⟩:=Option.map_eq_some_iff.1 hj
     rw[Addr.add_lit]
     rw[List.getElem?_take]at hx
     split at hx
     ·exact HC.out j x hx
     ·cases hx⟩
    have HD3:Hid (∀W',Below wr.heap.size wr W'→∀j u,((l.drop k).map Value.string)[j]?=some u→W'.cell? ((⟨b,off+k,none⟩:Addr).add j)=some u):=Lib.hid fun W' hb' j u hj=>by
     rw[List.getElem?_map]at hj
     obtain⟨x,hx,rfl⟩:=Option.map_eq_some_iff.1 hj
     rw[Addr.add_lit,Nat.add_assoc]
     rw[List.getElem?_drop]at hx
     exact(cell_old (p:=⟨b,off+(k+j),none⟩) hb' HB.out.1).trans (HC.out _ x hx)
    go_wp2_with (first
     | (at_builtin;refine wpList_append_own _ rfl _ _ 24 rfl wr.heap.size 9 i0 (.string ⟨#[]⟩) 1 16 Tryz.underlying24 hi hz0 hz1 hz2 rfl (by decide) _ _ _ rfl HO2.out (if cap=k then ⟨b,off,none⟩else ⟨b,off+k,none⟩) 0 (cap-k) ((l.drop k).map Value.string) (by show Value.slice (if cap=k then some (⟨b,off,none⟩:Addr)else some ⟨b,off+k,none⟩) 0 (cap-k)=_;split<;>rfl) HN3.out.1 (HDN.out w2 _) (str_one _) (by unfold maxLen;have:=HB.out;omega) (by omega) HW2.out.1 ?_;intro v3 w3 ho3 hg3 hn3;have HO3:=Lib.hid ho3;have HG3:=Lib.hid hg3;clear ho3 hg3 hn3)
     | (at_builtin;refine wpList_append_own _ rfl _ _ 24 rfl wr.heap.size 9 i0 (.string ⟨#[]⟩) 1 16 Tryz.underlying24 hi hz0 hz1 hz2 rfl (by decide) _ _ _ rfl HA1.out.1 ⟨w1.heap.size,0,none⟩ 1 1 [.string s] rfl rfl (World.news_of_block (cs:=#[.string s]) (t:=9) (fr:=(0,0)) (World.alloc_heap_new w1 _)) (fun u hu=>by simp at hu;subst hu;rfl) (by unfold maxLen;omega) (by omega) HA1.out.2 ?_;intro v2 w2 ho2 hg2 hn2;have hb2:Below wr.heap.size wr w2:=(HB1.out.alloc HB1.out.size _).grown hg2 HA1.out.2 (fun z hz=>(HO1.out.lt z hz).1);have HW2:Hid (wr.heap.size≤w2.heap.size∧∀j u,((l.drop k).map Value.string)[j]?=some u→w2.cell? ((⟨b,off+k,none⟩:Addr).add j)=some u):=Lib.hid ⟨hb2.size,HD3.out w2 hb2⟩;have HB2:=Lib.hid hb2;clear hb2;have HO2:=Lib.hid ho2;have HG2:=Lib.hid hg2;clear ho2 hg2 hn2)
     | (at_builtin;refine wpList_append_own _ rfl _ _ 24 rfl wr.heap.size 9 i0 (.string ⟨#[]⟩) 1 16 Tryz.underlying24 hi hz0 hz1 hz2 rfl (by decide) _ _ _ rfl (World.ownsRow_nil _ _ _ _) ⟨b,off,none⟩ k cap ((l.take k).map Value.string) rfl HN3.out.2.1 HN3.out.2.2 (str_one _) (by unfold maxLen;omega) (by omega) (Nat.le_refl _) ?_;intro v1 w1 ho1 hg1 hn1;have HA1:Hid ((w1.alloc (.cells #[.string s] 9)).ownsRow wr.heap.size 9 1 v1 (0+k) ([]++(l.take k).map Value.string)∧wr.heap.size≤(w1.alloc (.cells #[.string s] 9)).heap.size):=Lib.hid ⟨own_keep9 ho1 ((Below.refl _ _).alloc (Nat.le_refl _) _),by rw[World.size_alloc];have:=hg1.size;omega⟩;have HB1:=Lib.hid (show Below wr.heap.size wr w1 from(Below.refl _ wr).grown hg1 (Nat.le_refl _) (fun z hz=>by cases hz));have HO1:=Lib.hid ho1;have HG1:=Lib.hid hg1;clear ho1 hg1 hn1))
    all_goals
     go_ret
     have hb3:Below wr.heap.size wr w3:=HB2.out.grown HG3.out HB2.out.size (fun z hz=>(HO2.out.lt z hz).1)
     refine⟨v3,rfl,?_,hb3⟩
     rw[HP.out]
     refine own_strsP (B:=wr.heap.size) (n:=0+k+1+0) ?_ (by rw[List.length_append,List.length_cons,List.length_take,List.length_drop,←HN.out];omega)
     have:=HO3.out
     simpa using this
end Go.Proofs.YtfehpcbmdancoaaGreatDoor
namespace Go.Proofs.YtfehpcbmdancoaaGreatDoor
open Go Go.RowKit Go.Lib
theorem strs_bd {w:World}{v:Value}{l:List ByteArray}(h:StrsAt w v l):l.length≤9223372036854775807:=by
 rcases h with ⟨e,_⟩|⟨b,off,cap,e,h1,h2,h3,h4⟩
 ·rw[e];simp
 ·unfold maxLen at h3;omega
def SameE (e:Ending)(l m:List ByteArray):Prop:=e= .returned (.bool (decide (l=m)))
set_option maxRecDepth 100000 in
set_option maxHeartbeats 4000000 in
theorem sames_any (w:World)(v v':Value)(l m:List ByteArray)(h:StrsAt w v l)(h':StrsAt w v' m):
  Calls Tryz.prog 18 #[v,v'] w fun e w'=>SameE e l m∧Below w.heap.size w w':=by
 have hb1:=strs_bd h
 have hb2:=strs_bd h'
 obtain⟨A,cap,rfl⟩:=strs_form h
 obtain⟨B,cap',rfl⟩:=strs_form h'
 obtain⟨n,hn⟩:∃n,n=l.length:=⟨_,rfl⟩
 obtain⟨k',hk'⟩:∃k,k=m.length:=⟨_,rfl⟩
 rw[←hn]at h hb1⊢
 rw[←hk']at h' hb2⊢
 have HA:=Lib.hid (strs_open h)
 have HB:=Lib.hid (strs_open h')
 have HN:=Lib.hid (And.intro hn hk')
 clear h h' hn hk'
 by_cases hne:n=k'
 ·subst hne
  go_enter Tryz.func18,Tryz.ntmps18
  go_wp2_with fail
  go_loopg [5] n (fun g i wr=>∃k:Nat,k+g=n∧i= .int .i64 k∧Hid (Below w.heap.size w wr∧l.take k=m.take k))
  case atStart=>exact⟨0,by omega,rfl,Lib.hid ⟨Below.refl _ _,by simp⟩⟩
  case round=>
   obtain⟨k,hk,rfl,HP⟩:=hrel
   by_cases hlt:k<n
   ·have d1:(k:Int)<n:=by omega
    obtain⟨x,hx⟩:∃x,l[k]?=some x:=⟨_,List.getElem?_eq_getElem (by have:=HN.out.1;omega)⟩
    obtain⟨y,hy⟩:∃y,m[k]?=some y:=⟨_,List.getElem?_eq_getElem (by have:=HN.out.2;omega)⟩
    obtain⟨b,off,rfl,hb,hnc,cx⟩:=HA.out k x hx
    obtain⟨b',off',rfl,hb',hnc',cy⟩:=HB.out k y hy
    have x0:=(HP.out.1.cell (p:=⟨b,off+k,none⟩) hb).trans cx
    have y0:=(HP.out.1.cell (p:=⟨b',off'+k,none⟩) hb').trans cy
    have HXY:=Lib.hid (And.intro hx hy)
    clear hx hy cx cy
    go_upto_region 6 with fail
    go_quiet (fail)
    have HBN:=Lib.hid (show Below w.heap.size w (wr.drewN nq)from HP.out.1.trans ⟨rfl,rfl,rfl,Nat.le_refl _,fun _ _=>rfl⟩)
    clear x0 y0
    rw[eq_eq]
    by_cases he:x=y
    ·rw[decide_eq_true he]
     subst he
     have HT:=Lib.hid (show l.take (k+1)=m.take (k+1)by rw[List.take_add_one,List.take_add_one,HP.out.2,HXY.out.1,HXY.out.2])
     go_wp2_with fail
     go_roundg (gk-1)
     case measure=>omega
     case rel=>exact⟨k+1,by omega,by go_num,Lib.hid ⟨HBN.out,HT.out⟩⟩
    ·rw[decide_eq_false he]
     have HF:=Lib.hid (show¬(l=m)from fun e=>he (by have h1:=HXY.out.1;rw[e,HXY.out.2]at h1;exact(Option.some.inj h1).symm))
     go_wp2_with fail
     go_ret
     exact⟨by unfold SameE;rw[decide_eq_false HF.out];rfl,HBN.out⟩
   ·have d1:¬(k:Int)<n:=by omega
    have HF:=Lib.hid (show l=m by
     have h1:=HP.out.2
     rwa[List.take_of_length_le (by have:=HN.out.1;omega),List.take_of_length_le (by have:=HN.out.2;omega)]at h1)
    clear hlt
    go_wp2_with fail
    go_ret
    exact⟨by unfold SameE;rw[decide_eq_true HF.out];rfl,HP.out.1⟩
 ·have hne':¬((n:Int)=k'):=by omega
  have HF:=Lib.hid (show¬(l=m)from fun e=>hne (by rw[HN.out.1,HN.out.2,e]))
  clear hne
  go_enter Tryz.func18,Tryz.ntmps18
  go_wp2_with fail
  go_ret
  exact⟨by unfold SameE;rw[decide_eq_false HF.out];rfl,Below.refl _ _⟩
set_option maxRecDepth 100000 in
set_option maxHeartbeats 1000000 in
theorem fewfiles_any (w:World)(fa fl:ByteArray):
  Calls Tryz.prog 8 #[.agg #[.string fa,.string fl]] w fun e w'=>e= .returned (.bool (decide (fa.size≤1500)&&decide (fl.size≤1500)))∧Below w.heap.size w w':=by
 have HB:=Lib.hid (show Below w.heap.size w (w.alloc (.cells #[.string fa,.string fl] 23))from(Below.refl _ _).alloc (Nat.le_refl _) _)
 by_cases h1:fa.size≤1500
 ·have q1:decide ((fa.size:Int)≤1500)=true:=decide_eq_true (by omega)
  by_cases h2:fl.size≤1500
  ·have q2:decide ((fl.size:Int)≤1500)=true:=decide_eq_true (by omega)
   go_enter Tryz.func8,Tryz.ntmps8
   go_wp2_with fail
   go_ret
   exact⟨by simp[h1,h2],HB.out⟩
  ·have q2:decide ((fl.size:Int)≤1500)=false:=decide_eq_false (by omega)
   go_enter Tryz.func8,Tryz.ntmps8
   go_wp2_with fail
   go_ret
   exact⟨by simp[h1,h2],HB.out⟩
 ·have q1:decide ((fa.size:Int)≤1500)=false:=decide_eq_false (by omega)
  go_enter Tryz.func8,Tryz.ntmps8
  go_wp2_with fail
  go_ret
  exact⟨by simp[h1],HB.out⟩
end Go.Proofs.YtfehpcbmdancoaaGreatDoor
namespace Go.Proofs.YtfehpcbmdancoaaGreatDoor
open Go Go.ChangeShapes Go.WideShapes Go.ChangeAt Go.RowKit Go.Deep
theorem Tryz.cellsX9:Tryz.prog.cellsOf 9=1:=by kernel_rfl
theorem Tryz.cellsX23:(Tryz.prog.cellsOf 23)=2:=by kernel_rfl
set_option maxRecDepth 100000 in
theorem open_strs16 {H:Type}{enc:TypeId×Value→H}{W:World}{base:Nat}{v:Value}{d:DataW H}{ps:List MemPlace}
  (hval:Value.okWide Tryz.prog W .any base 24 v) (h:DataW.Trod enc Tryz.prog W 0 (fun _=>true) true 24 v d ps):∃l,StrsAt W v l:=by
 obtain⟨A,n,cap,rfl⟩:=okWide_slice Tryz.underlying24 hval
 obtain⟨fuel,hf⟩:=h
 have hcl:(Value.slice A n cap).cells.toList=[.slice A n cap]:=by simp[Value.cells]
 rw[hcl]at hf
 rcases open_strs Tryz.underlying24 Tryz.underlying9 Tryz.cellsX9 hf with ⟨hcs,_⟩|⟨a,len,cap',m,Sx,hcs,_,hl,hm,hmm,_,hcell⟩
 ·have hcs':A=none∧n=0∧cap=0:=by simpa using hcs
  obtain⟨rfl,rfl,rfl⟩:=hcs'
  exact⟨[],.inl ⟨rfl,_,_,rfl⟩⟩
 ·have hcs':A=some a∧n=len∧cap=cap':=by simpa using hcs
  obtain⟨rfl,rfl,rfl⟩:=hcs'
  simp only[if_true]at hmm
  by_cases h0:n=0
  ·subst h0
   exact⟨[],.inl ⟨rfl,_,_,rfl⟩⟩
  ·obtain⟨b,off,spot⟩:=a
   have hw0:=(hcell 0 (by omega)).1
   have hspot:spot=none:=by simpa[Addr.add]using World.cell?_spot hw0
   subst hspot
   have hadd:∀j,(⟨b,off,none⟩:Addr).add j=⟨b,off+j,none⟩:=fun j=>by unfold Addr.add;split<;>simp_all
   have hblt:=World.block_lt_of_cell? W _ hw0
   rw[hadd]at hblt
   refine⟨(List.range n).map Sx,.inr ⟨b,off,cap,by simp,hblt,by simpa using hl,hm,fun i s hs=>?_⟩⟩
   have hin:i<n:=by
    have:=(List.getElem?_eq_some_iff.1 hs).1
    simpa using this
   have hfi:s=Sx i:=by
    rw[List.getElem?_map,List.getElem?_range hin]at hs
    simpa using hs.symm
   rw[hfi,←hadd]
   exact(hcell i (by omega)).1
set_option maxRecDepth 100000 in
theorem open_files {H:Type}{enc:TypeId×Value→H}{W:World}{base:Nat}{v:Value}{d:DataW H}{ps:List MemPlace}
  (hval:Value.okWide Tryz.prog W .any base 23 v) (h:DataW.Trod enc Tryz.prog W 0 (fun _=>true) true 23 v d ps):
  ∃(a b:ByteArray),v= .agg #[.string a,.string b]:=by
 obtain⟨cs,rfl,hsz⟩:=okWide_struct Tryz.underlying23 hval
 rw[Tryz.cellsX23]at hsz
 obtain⟨fuel,hf⟩:=h
 obtain⟨cl⟩:=cs
 have hcl:(Value.agg ⟨cl⟩).cells.toList=cl:=by simp[Value.cells]
 rw[hcl]at hf
 obtain⟨xs,k',_,hd,_,hxl,hfd⟩:=DataW.trod_struct Tryz.underlying23 hf
 match cl,hsz,xs,hxl with
 | [x0,x1],_,[y0,y1],_=>
   have g0:=hfd 0 _ rfl
   have g1:=hfd 1 _ rfl
   simp[Tryz.cellsX9]at g0 g1
   obtain⟨s1,e1,q1,_⟩:=DataW.trod_string Tryz.underlying9 g0
   obtain⟨s2,e2,q2,_⟩:=DataW.trod_string Tryz.underlying9 g1
   simp at e1 e2
   subst e1 e2 q1 q2
   exact⟨s1,s2,rfl⟩
end Go.Proofs.YtfehpcbmdancoaaGreatDoor
