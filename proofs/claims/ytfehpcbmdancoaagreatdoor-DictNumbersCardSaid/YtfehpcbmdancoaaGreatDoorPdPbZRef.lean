/- Chapter 13's own answer by contract: has, Put. -/
import Derived.Deep.RegionLaw
import Derived.Deep.CutRange
import Derived.Deep.DeepCutAuto
import Derived.Laws.AppendOwnNone
import Derived.Sort.Walk0
import Derived.Deep.AppendLies
import Derived.Deep.QuietTactic
import Derived.BigQuiet
import Derived.Test.YtfehpcbmdancoaaGreatDoorRows
import Derived.ProofKit
import Derived.Deep.Strs
import Derived.Deep.Slices
import Derived.Carry
import Derived.OpenShut
import Derived.StillTailTactics
import Derived.IntWalk
import Derived.Deep.RegionWith
import Derived.Test.YtfehpcbmdancoaaGreatDoorPdPbNPlain
import Derived.Test.YtfehpcbmdancoaaGreatDoorPdPbNRefStarts
import Derived.Test.YtfehpcbmdancoaaGreatDoorPdPbORows
import Derived.Test.YtfehpcbmdancoaaGreatDoorPdPbPWords
import Derived.Test.YtfehpcbmdancoaaGreatDoorPdPbYState
set_option maxRecDepth 100000
set_option maxHeartbeats 4000000
namespace Go.Proofs.YtfehpcbmdancoaaGreatDoor
open Go Go.RowKit Go.Lib
theorem has_any (w:World)(wd:ByteArray)(A:Option Addr)(n cap:Nat)(fl:List Int)(f:Int)(h:IntsAt w (.slice A n cap) fl):
  Calls Tryz.prog 124 #[.agg #[.string wd,.slice A n cap],.int .i64 f] w fun e w'=>e= .returned (.bool (decide (f∈fl)))∧Below w.heap.size w w':=by
 obtain⟨A',cap',e,hA⟩:=ints_open h;injection e with e1 e2 e3;subst e1 e2 e3;have hbd:=ints_bd h;obtain⟨n,hn⟩:∃n,n=fl.length:=⟨_,rfl⟩;rw[←hn]at hA hbd⊢;have hb0:Below w.heap.size w (w.alloc (.cells #[.string wd,.slice A n cap] 99)):=(Below.refl _ _).alloc (Nat.le_refl _) _;have HA:=hid (show∀(i:Nat) c,fl[i]?=some c→∃q o,A=some ⟨q,o,none⟩∧q<w.heap.size∧n≤cap∧(w.alloc (.cells #[.string wd,.slice A n cap] 99)).cell? ⟨q,o+i,none⟩=some (.int .i64 c)from fun i c hc=>by
  obtain⟨q,o,k1,k2,k3,k4⟩:=hA i c hc;exact⟨q,o,k1,k2,k3,(cell_old (p:=⟨q,o+i,none⟩) hb0 k2).trans k4⟩)
 have HN:=hid hn;have HB:=hid hb0;have z:=World.alloc_heap_new w (.cells #[.string wd,.slice A n cap] 99);have x1:(w.alloc (.cells #[.string wd,.slice A n cap] 99)).cell? ⟨w.heap.size,1,none⟩=some (.slice A n cap):=by unfold World.cell?;rw[z];rfl
 clear h hA hn hb0 z;go_enter Tryz.func124,Tryz.ntmps124;go_wp2;generalize w.alloc (.cells #[.string wd,.slice A n cap] 99)=W at*;go_loopg [5] n (fun gh i wr=>∃k:Nat,k+gh=n∧i= .int .i64 k∧wr=W∧¬(f∈fl.take k))
 case atStart=>exact⟨0,by omega,rfl,rfl,by simp⟩
 case round=>
  obtain⟨k,hk,rfl,rfl,hno⟩:=hrel;by_cases hlt:k<n
  ·obtain⟨c,hc⟩:∃c,fl[k]?=some c:=⟨fl[k]'(by have:=HN.out;omega),List.getElem?_eq_getElem _⟩;obtain⟨q,o,rfl,hq,hcap,hcell⟩:=HA.out k c hc;have HC:=hid (And.intro hc hno);clear hc hno;by_cases hcf:c=f
   ·subst hcf;have hm:c∈fl:=List.mem_of_getElem? HC.out.1;have HM:=hid hm;clear hm;go_wp2_with fail;go_ret;exact⟨by rw[decide_eq_true HM.out];rfl,HB.out⟩
   ·have HNX:Hid (¬(f∈fl.take (k+1))):=hid (by
     rw[List.take_add_one,HC.out.1];simp only[Option.toList,List.mem_append,List.mem_singleton];rintro (h|h)
     ·exact HC.out.2 h
     ·exact hcf h.symm)
    go_wp2_with fail;go_roundg (gk-1)
    case measure=>omega
    case rel=>exact⟨k+1,by omega,by go_num,rfl,HNX.out⟩
  ·obtain rfl:k=n:=by omega
   rw[List.take_of_length_le (by have:=HN.out;omega)]at hno;have HNO:=hid hno;clear hno;go_wp2_with fail;go_ret;exact⟨by rw[decide_eq_false HNO.out];rfl,HB.out⟩
theorem putL_at (s:ByteArray):∀(l:List ByteArray) (k:Nat),k≤l.length→(∀(j:Nat) a,j<k→l[j]?=some a→ltS a s)→(∀a,l[k]?=some a→¬ltS a s)→putL l s=if l[k]?=some s then l else l.take k++s::l.drop k
 | [],0,_,_,_=>by simp[putL]
 | a::l,0,_,_,h2=>by
   have:=h2 a rfl;unfold putL;rw[if_neg this];by_cases e:a=s<;>simp[e]
 | a::l,k+1,hk,h1,h2=>by
   have:=h1 0 a (by omega) rfl;unfold putL;rw[if_pos this,putL_at s l k (by simpa using hk) (fun j b hj hb=>h1 (j+1) b (by omega) (by simpa using hb)) (fun b hb=>h2 b (by simpa using hb))];simp only[List.getElem?_cons_succ,List.take_succ_cons,List.drop_succ_cons,List.cons_append];split<;>rfl
theorem less_eq (a s:ByteArray):Op.bytesLess a.toList s.toList=decide (ltS a s):=by
 rw[bytesLess_eq,ByteArray.toList_eq,ByteArray.toList_eq];rfl
theorem eq_eq (a s:ByteArray):(a.toList==s.toList)=decide (a=s):=by
 rw[Bool.eq_iff_iff,beq_iff_eq,decide_eq_true_eq,ByteArray.toList_eq,ByteArray.toList_eq];constructor
 ·intro h;have:a.data=s.data:=Array.toList_inj.1 h;cases a;cases s;simp at this;rw[this]
 ·intro h;rw[h]
def StrsP (w:World)(v:Value)(l:List ByteArray):Prop:=
 (l=[]∧v= .slice none 0 0)∨∃b off cap,v= .slice (some ⟨b,off,none⟩) l.length cap∧b<w.heap.size∧l.length≤cap∧cap≤maxLen∧∀(i:Nat) s,l[i]?=some s→w.cell? ⟨b,off+i,none⟩=some (.string s)
theorem StrsP.at_ {w:World}{v:Value}{l:List ByteArray}(h:StrsP w v l):StrsAt w v l:=by
 rcases h with ⟨rfl,rfl⟩|h
 ·exact .inl ⟨rfl,_,_,rfl⟩
 ·exact .inr h
theorem Tryz.infosZ9:(Tryz.prog.info? 9).map (fun i=>(i.zero,i.size,i.bytes))=some (some (.string ⟨#[]⟩),1,16):=by kernel_rfl
theorem own_strsP {w:World}{B n:Nat}{v:Value}{l:List ByteArray}(h:w.ownsRow B 9 1 v n (l.map Value.string))(hn:n=l.length):StrsP w v l:=by
 subst hn;have hc:= @World.ownsRow.cells _ _ _ _ _ _ _ h;rcases h.2 with ⟨rfl,h0⟩|⟨g,cap,cur,rfl,hb,hg,hnc,hcm,_⟩
 ·exact .inl ⟨List.eq_nil_of_length_eq_zero h0,rfl⟩
 ·refine .inr ⟨g,0,cap,rfl,(Array.getElem?_eq_some_iff.1 hg).1,hnc,hcm,fun i c hi=>?_⟩;rw[Nat.zero_add,←add9];exact hc (g:=g) rfl i _ (by rw[List.getElem?_map,hi];rfl)
theorem str_one (l:List ByteArray):∀u∈l.map Value.string,u.oneCell'=true:=by
 intro u hu;obtain⟨x,_,rfl⟩:=List.mem_map.1 hu;rfl
theorem put13_any (w:World)(v:Value)(l:List ByteArray)(s:ByteArray)(h:StrsP w v l)(hl:l.length≤1000000000):
  Calls Tryz.prog 70 #[v,.string s] w fun e w'=>∃v',e= .returned v'∧StrsP w' v' (putL l s)∧Below w.heap.size w w':=by
 obtain⟨i0,hi,hz0,hz1,hz2⟩:=info_parts Tryz.infosZ9;rcases h with ⟨rfl,rfl⟩|⟨b,off,cap,rfl,hb,hlc,hcm,hc⟩
 ·go_enter Tryz.func70,Tryz.ntmps70;go_wp2;go_loopg [5] 0 (fun gh i wr=>gh=0∧i= .int .i64 0∧wr=w)
  case atStart=>exact⟨rfl,rfl,rfl⟩
  case round=>
   obtain⟨hgh,rfl,rfl⟩:=hrel;go_wp2_with (first
    | (at_builtin;refine wpList_append_own_none rfl _ _ 24 rfl wr.heap.size 9 i0 1 Tryz.underlying24 hi _ _ _ rfl HO1.out rfl ?_)
    | (at_builtin;refine wpList_append_own _ rfl _ _ 24 rfl wr.heap.size 9 i0 (.string ⟨#[]⟩) 1 16 Tryz.underlying24 hi hz0 hz1 hz2 rfl (by decide) _ _ _ rfl (World.ownsRow_nil _ _ _ _) ⟨wr.heap.size,0,none⟩ 1 1 [.string s] rfl rfl (World.news_of_block (cs:=#[.string s]) (t:=9) (fr:=(0,0)) (World.alloc_heap_new wr _)) (fun u hu=>by simp at hu;subst hu;rfl) (by unfold maxLen;omega) (by omega) (by simp) ?_;intro v1 w1 ho1 hg1 hn1;have HO1:=hid ho1;have HG1:=hid (And.intro hg1 hn1);clear ho1 hg1 hn1))
   go_ret;have hb1:Below wr.heap.size wr w1:=((Below.refl _ wr).alloc (Nat.le_refl _) _).grown HG1.out.1 (by simp) (fun z hz=>by cases hz);exact⟨v1,rfl,own_strsP (l:=[s]) (n:=1) (by simpa using HO1.out) rfl,hb1⟩
 ·obtain⟨n,hn⟩:∃n,n=l.length:=⟨_,rfl⟩;rw[←hn]at hl hlc⊢;have HC:=hid hc;have HN:=hid hn;have HB:=hid (And.intro hb (And.intro hlc hcm));clear hc hn hb;go_enter Tryz.func70,Tryz.ntmps70;go_wp2_with fail;go_loopg [5] n (fun gh i wr=>∃k:Nat,k+gh=n∧i= .int .i64 k∧wr=w∧∀(j:Nat) a,j<k→l[j]?=some a→ltS a s)
  case atStart=>exact⟨0,by omega,rfl,rfl,fun j a hj _=>by omega⟩
  case round=>
   obtain⟨k,hk,rfl,rfl,hlow⟩:=hrel;by_cases hlt:k<n
   ·obtain⟨a,ha⟩:∃a,l[k]?=some a:=⟨l[k]'(by have:=HN.out;omega),List.getElem?_eq_getElem _⟩;have hcell:=HC.out k a ha;have HA:=hid (And.intro ha hlow);clear ha hlow;by_cases hs:ltS a s
    ·have hs':Op.bytesLess a.toList s.toList=true:=by rw[less_eq];exact decide_eq_true hs
     have HL2:Hid (∀(j:Nat) a,j<k+1→l[j]?=some a→ltS a s):=hid fun j x hj hx=>by
      by_cases e:j=k
      ·subst e;have h1:=HA.out.1;rw[hx]at h1;cases h1;exact hs
      ·exact HA.out.2 j x (by omega) hx
     go_wp2_with fail;go_roundg (gk-1)
     case measure=>omega
     case rel=>exact⟨k+1,by omega,by go_num,rfl,HL2.out⟩
    ·have hs':Op.bytesLess a.toList s.toList=false:=by rw[less_eq];exact decide_eq_false hs
     have hat:=putL_at s l k (by have:=HN.out;omega) HA.out.2 (fun x hx=>by have h1:=HA.out.1;rw[hx]at h1;cases h1;exact hs);by_cases he:a=s
     ·subst he;have he':(a.toList==a.toList)=true:=by simp
      rw[if_pos HA.out.1]at hat;have HP:=hid hat;clear hat;go_wp2_with fail;go_ret;exact⟨_,rfl,by rw[HP.out];exact .inr ⟨b,off,cap,by rw[←HN.out];rfl,HB.out.1,by rw[←HN.out];exact HB.out.2.1,HB.out.2.2,HC.out⟩,Below.refl _ _⟩
     ·have he':(a.toList==s.toList)=false:=by rw[eq_eq];exact decide_eq_false he
      rw[if_neg (fun hh=>he (by have h1:=HA.out.1;rw[hh]at h1;exact(Option.some.inj h1).symm))]at hat;have HP:=hid hat;clear hat;have hkc:(k:Int)≤(cap:Int):=by omega
      have HN3:Hid (((l.drop k).map Value.string).length=(n-k)*1∧((l.take k).map Value.string).length=k*1∧∀j u,((l.take k).map Value.string)[j]?=some u→wr.cell? ((⟨b,off,none⟩:Addr).add j)=some u):=hid ⟨by rw[List.length_map,List.length_drop,←HN.out];omega,by rw[List.length_map,List.length_take,←HN.out];omega,fun j u hj=>by
       rw[List.getElem?_map]at hj;obtain⟨x,hx,rfl⟩:=Option.map_eq_some_iff.1 hj;rw[Addr.add_lit];rw[List.getElem?_take]at hx;split at hx
       ·exact HC.out j x hx
       ·cases hx⟩
      have HD3:Hid (∀W',Below wr.heap.size wr W'→∀j u,((l.drop k).map Value.string)[j]?=some u→W'.cell? ((⟨b,off+k,none⟩:Addr).add j)=some u):=hid fun W' hb' j u hj=>by
       rw[List.getElem?_map]at hj;obtain⟨x,hx,rfl⟩:=Option.map_eq_some_iff.1 hj;rw[Addr.add_lit,Nat.add_assoc];rw[List.getElem?_drop]at hx;exact(cell_old (p:=⟨b,off+(k+j),none⟩) hb' HB.out.1).trans (HC.out _ x hx)
      go_wp2_with (first
       | (at_builtin;refine wpList_append_own _ rfl _ _ 24 rfl wr.heap.size 9 i0 (.string ⟨#[]⟩) 1 16 Tryz.underlying24 hi hz0 hz1 hz2 rfl (by decide) _ _ _ rfl HO2.out ⟨b,off+k,none⟩ (n-k) (cap-k) ((l.drop k).map Value.string) rfl HN3.out.1 (HW2.out.2) (str_one _) (by unfold maxLen;have:=HB.out;omega) (by omega) HW2.out.1 ?_;intro v3 w3 ho3 hg3 hn3;have HO3:=hid ho3;have HG3:=hid hg3;clear ho3 hg3 hn3)
       | (at_builtin;refine wpList_append_own _ rfl _ _ 24 rfl wr.heap.size 9 i0 (.string ⟨#[]⟩) 1 16 Tryz.underlying24 hi hz0 hz1 hz2 rfl (by decide) _ _ _ rfl HA1.out.1 ⟨w1.heap.size,0,none⟩ 1 1 [.string s] rfl rfl (World.news_of_block (cs:=#[.string s]) (t:=9) (fr:=(0,0)) (World.alloc_heap_new w1 _)) (fun u hu=>by simp at hu;subst hu;rfl) (by unfold maxLen;omega) (by omega) HA1.out.2 ?_;intro v2 w2 ho2 hg2 hn2;have hb2:Below wr.heap.size wr w2:=(HB1.out.alloc HB1.out.size _).grown hg2 HA1.out.2 (fun z hz=>(HO1.out.lt z hz).1);have HW2:Hid (wr.heap.size≤w2.heap.size∧∀j u,((l.drop k).map Value.string)[j]?=some u→w2.cell? ((⟨b,off+k,none⟩:Addr).add j)=some u):=hid ⟨hb2.size,HD3.out w2 hb2⟩;have HB2:=hid hb2;clear hb2;have HO2:=hid ho2;have HG2:=hid hg2;clear ho2 hg2 hn2)
       | (at_builtin;refine wpList_append_own _ rfl _ _ 24 rfl wr.heap.size 9 i0 (.string ⟨#[]⟩) 1 16 Tryz.underlying24 hi hz0 hz1 hz2 rfl (by decide) _ _ _ rfl (World.ownsRow_nil _ _ _ _) ⟨b,off,none⟩ k cap ((l.take k).map Value.string) rfl HN3.out.2.1 HN3.out.2.2 (str_one _) (by unfold maxLen;omega) (by omega) (Nat.le_refl _) ?_;intro v1 w1 ho1 hg1 hn1;have HA1:Hid ((w1.alloc (.cells #[.string s] 9)).ownsRow wr.heap.size 9 1 v1 (0+k) ([]++(l.take k).map Value.string)∧wr.heap.size≤(w1.alloc (.cells #[.string s] 9)).heap.size):=hid ⟨own_keep9 ho1 ((Below.refl _ _).alloc (Nat.le_refl _) _),by rw[World.size_alloc];have:=hg1.size;omega⟩;have HB1:=hid (show Below wr.heap.size wr w1 from(Below.refl _ wr).grown hg1 (Nat.le_refl _) (fun z hz=>by cases hz));have HO1:=hid ho1;have HG1:=hid hg1;clear ho1 hg1 hn1))
      go_ret;have hb3:Below wr.heap.size wr w3:=HB2.out.grown HG3.out HB2.out.size (fun z hz=>(HO2.out.lt z hz).1);refine⟨v3,rfl,?_,hb3⟩;rw[HP.out];refine own_strsP (B:=wr.heap.size) (n:=0+k+1+(n-k)) ?_ (by rw[List.length_append,List.length_cons,List.length_take,List.length_drop,←HN.out];omega);have:=HO3.out;simpa using this
   ·obtain rfl:k=n:=by omega
    have hat:=putL_at s l k (by have:=HN.out;omega) hlow (fun x hx=>by have:=(List.getElem?_eq_some_iff.1 hx).1;have:=HN.out;omega);rw[if_neg (fun hh=>by have:=(List.getElem?_eq_some_iff.1 hh).1;have:=HN.out;omega)]at hat;have HP:=hid hat;clear hat hlow;have hkc:(k:Int)≤(cap:Int):=by omega
    have HDN:Hid (∀(W':World) (ad:Addr) j u,((l.drop k).map Value.string)[j]?=some u→W'.cell? (ad.add j)=some u):=hid fun W' ad j u hj=>by
     rw[List.drop_of_length_le (by have:=HN.out;omega)]at hj;simp at hj
    have HN3:Hid (((l.drop k).map Value.string).length=0*1∧((l.take k).map Value.string).length=k*1∧∀j u,((l.take k).map Value.string)[j]?=some u→wr.cell? ((⟨b,off,none⟩:Addr).add j)=some u):=hid ⟨by rw[List.length_map,List.length_drop,←HN.out];omega,by rw[List.length_map,List.length_take,←HN.out];omega,fun j u hj=>by
     rw[List.getElem?_map]at hj;obtain⟨x,hx,rfl⟩:=Option.map_eq_some_iff.1 hj;rw[Addr.add_lit];rw[List.getElem?_take]at hx;split at hx
     ·exact HC.out j x hx
     ·cases hx⟩
    have HD3:Hid (∀W',Below wr.heap.size wr W'→∀j u,((l.drop k).map Value.string)[j]?=some u→W'.cell? ((⟨b,off+k,none⟩:Addr).add j)=some u):=hid fun W' hb' j u hj=>by
     rw[List.getElem?_map]at hj;obtain⟨x,hx,rfl⟩:=Option.map_eq_some_iff.1 hj;rw[Addr.add_lit,Nat.add_assoc];rw[List.getElem?_drop]at hx;exact(cell_old (p:=⟨b,off+(k+j),none⟩) hb' HB.out.1).trans (HC.out _ x hx)
    go_wp2_with (first
     | (at_builtin;refine wpList_append_own _ rfl _ _ 24 rfl wr.heap.size 9 i0 (.string ⟨#[]⟩) 1 16 Tryz.underlying24 hi hz0 hz1 hz2 rfl (by decide) _ _ _ rfl HO2.out (if cap=k then ⟨b,off,none⟩else ⟨b,off+k,none⟩) 0 (cap-k) ((l.drop k).map Value.string) (by show Value.slice (if cap=k then some (⟨b,off,none⟩:Addr)else some ⟨b,off+k,none⟩) 0 (cap-k)=_;split<;>rfl) HN3.out.1 (HDN.out w2 _) (str_one _) (by unfold maxLen;have:=HB.out;omega) (by omega) HW2.out.1 ?_;intro v3 w3 ho3 hg3 hn3;have HO3:=hid ho3;have HG3:=hid hg3;clear ho3 hg3 hn3)
     | (at_builtin;refine wpList_append_own _ rfl _ _ 24 rfl wr.heap.size 9 i0 (.string ⟨#[]⟩) 1 16 Tryz.underlying24 hi hz0 hz1 hz2 rfl (by decide) _ _ _ rfl HA1.out.1 ⟨w1.heap.size,0,none⟩ 1 1 [.string s] rfl rfl (World.news_of_block (cs:=#[.string s]) (t:=9) (fr:=(0,0)) (World.alloc_heap_new w1 _)) (fun u hu=>by simp at hu;subst hu;rfl) (by unfold maxLen;omega) (by omega) HA1.out.2 ?_;intro v2 w2 ho2 hg2 hn2;have hb2:Below wr.heap.size wr w2:=(HB1.out.alloc HB1.out.size _).grown hg2 HA1.out.2 (fun z hz=>(HO1.out.lt z hz).1);have HW2:Hid (wr.heap.size≤w2.heap.size∧∀j u,((l.drop k).map Value.string)[j]?=some u→w2.cell? ((⟨b,off+k,none⟩:Addr).add j)=some u):=hid ⟨hb2.size,HD3.out w2 hb2⟩;have HB2:=hid hb2;clear hb2;have HO2:=hid ho2;have HG2:=hid hg2;clear ho2 hg2 hn2)
     | (at_builtin;refine wpList_append_own _ rfl _ _ 24 rfl wr.heap.size 9 i0 (.string ⟨#[]⟩) 1 16 Tryz.underlying24 hi hz0 hz1 hz2 rfl (by decide) _ _ _ rfl (World.ownsRow_nil _ _ _ _) ⟨b,off,none⟩ k cap ((l.take k).map Value.string) rfl HN3.out.2.1 HN3.out.2.2 (str_one _) (by unfold maxLen;omega) (by omega) (Nat.le_refl _) ?_;intro v1 w1 ho1 hg1 hn1;have HA1:Hid ((w1.alloc (.cells #[.string s] 9)).ownsRow wr.heap.size 9 1 v1 (0+k) ([]++(l.take k).map Value.string)∧wr.heap.size≤(w1.alloc (.cells #[.string s] 9)).heap.size):=hid ⟨own_keep9 ho1 ((Below.refl _ _).alloc (Nat.le_refl _) _),by rw[World.size_alloc];have:=hg1.size;omega⟩;have HB1:=hid (show Below wr.heap.size wr w1 from(Below.refl _ wr).grown hg1 (Nat.le_refl _) (fun z hz=>by cases hz));have HO1:=hid ho1;have HG1:=hid hg1;clear ho1 hg1 hn1))
    all_goals
     go_ret;have hb3:Below wr.heap.size wr w3:=HB2.out.grown HG3.out HB2.out.size (fun z hz=>(HO2.out.lt z hz).1);refine⟨v3,rfl,?_,hb3⟩;rw[HP.out];refine own_strsP (B:=wr.heap.size) (n:=0+k+1+0) ?_ (by rw[List.length_append,List.length_cons,List.length_take,List.length_drop,←HN.out];omega);have:=HO3.out;simpa using this
theorem strs_bd {w:World}{v:Value}{l:List ByteArray}(h:StrsAt w v l):l.length≤9223372036854775807:=by
 rcases h with ⟨e,_⟩|⟨b,off,cap,e,h1,h2,h3,h4⟩
 ·rw[e];simp
 ·unfold maxLen at h3;omega
def SameE (e:Ending)(l m:List ByteArray):Prop:=e= .returned (.bool (decide (l=m)))
theorem sames_any (w:World)(v v':Value)(l m:List ByteArray)(h:StrsAt w v l)(h':StrsAt w v' m):
  Calls Tryz.prog 18 #[v,v'] w fun e w'=>SameE e l m∧Below w.heap.size w w':=by
 have hb1:=strs_bd h;have hb2:=strs_bd h';obtain⟨A,cap,rfl⟩:=strs_form h;obtain⟨B,cap',rfl⟩:=strs_form h';obtain⟨n,hn⟩:∃n,n=l.length:=⟨_,rfl⟩;obtain⟨k',hk'⟩:∃k,k=m.length:=⟨_,rfl⟩;rw[←hn]at h hb1⊢;rw[←hk']at h' hb2⊢;have HA:=hid (strs_open h);have HB:=hid (strs_open h');have HN:=hid (And.intro hn hk');clear h h' hn hk';by_cases hne:n=k'
 ·subst hne;go_enter Tryz.func18,Tryz.ntmps18;go_wp2_with fail;go_loopg [5] n (fun g i wr=>∃k:Nat,k+g=n∧i= .int .i64 k∧Hid (Below w.heap.size w wr∧l.take k=m.take k))
  case atStart=>exact⟨0,by omega,rfl,hid ⟨Below.refl _ _,by simp⟩⟩
  case round=>
   obtain⟨k,hk,rfl,HP⟩:=hrel;by_cases hlt:k<n
   ·have d1:(k:Int)<n:=by omega
    obtain⟨x,hx⟩:∃x,l[k]?=some x:=⟨_,List.getElem?_eq_getElem (by have:=HN.out.1;omega)⟩;obtain⟨y,hy⟩:∃y,m[k]?=some y:=⟨_,List.getElem?_eq_getElem (by have:=HN.out.2;omega)⟩;obtain⟨b,off,rfl,hb,hnc,cx⟩:=HA.out k x hx;obtain⟨b',off',rfl,hb',hnc',cy⟩:=HB.out k y hy;have x0:=(HP.out.1.cell (p:=⟨b,off+k,none⟩) hb).trans cx;have y0:=(HP.out.1.cell (p:=⟨b',off'+k,none⟩) hb').trans cy;have HXY:=hid (And.intro hx hy);clear hx hy cx cy;go_upto_region 6 with fail;go_quiet (fail);have HBN:=hid (show Below w.heap.size w (wr.drewN nq)from HP.out.1.trans ⟨rfl,rfl,rfl,Nat.le_refl _,fun _ _=>rfl⟩);clear x0 y0;rw[eq_eq];by_cases he:x=y
    ·rw[decide_eq_true he];subst he;have HT:=hid (show l.take (k+1)=m.take (k+1)by rw[List.take_add_one,List.take_add_one,HP.out.2,HXY.out.1,HXY.out.2]);go_wp2_with fail;go_roundg (gk-1)
     case measure=>omega
     case rel=>exact⟨k+1,by omega,by go_num,hid ⟨HBN.out,HT.out⟩⟩
    ·rw[decide_eq_false he];have HF:=hid (show¬(l=m)from fun e=>he (by have h1:=HXY.out.1;rw[e,HXY.out.2]at h1;exact(Option.some.inj h1).symm));go_wp2_with fail;go_ret;exact⟨by unfold SameE;rw[decide_eq_false HF.out];rfl,HBN.out⟩
   ·have d1:¬(k:Int)<n:=by omega
    have HF:=hid (show l=m by
     have h1:=HP.out.2;rwa[List.take_of_length_le (by have:=HN.out.1;omega),List.take_of_length_le (by have:=HN.out.2;omega)]at h1)
    clear hlt;go_wp2_with fail;go_ret;exact⟨by unfold SameE;rw[decide_eq_true HF.out];rfl,HP.out.1⟩
 ·have hne':¬((n:Int)=k'):=by omega
  have HF:=hid (show¬(l=m)from fun e=>hne (by rw[HN.out.1,HN.out.2,e]));clear hne;go_enter Tryz.func18,Tryz.ntmps18;go_wp2_with fail;go_ret;exact⟨by unfold SameE;rw[decide_eq_false HF.out];rfl,Below.refl _ _⟩
end Go.Proofs.YtfehpcbmdancoaaGreatDoor
namespace Go.Proofs.YtfehpcbmdancoaaGreatDoor
open Go Go.ChangeShapes Go.WideShapes Go.ChangeAt Go.RowKit Go.Deep
end Go.Proofs.YtfehpcbmdancoaaGreatDoor
set_option maxRecDepth 100000
set_option maxHeartbeats 8000000
namespace Go.Proofs.YtfehpcbmdancoaaGreatDoor
open Go Go.RowKit Go.Lib
theorem codesB_two (l:List UInt8):(codesB l).isSome=validD l∧(codesB l).getD []=codesL l:=by
 unfold codesB codesL;cases validD l<;>simp
theorem okB_empty (s:ByteArray):okB s= !s.toList.isEmpty:=by
 unfold okB;rw[toL_data,Bool.eq_iff_iff,decide_eq_true_eq,Lib.size_eq];cases s.data.toList<;>simp
structure MidR (r:Ru):Prop where
 items:r.cond.length≤100000
 sets:∀it∈r.cond,it.set.length≤100000
 strip:r.strip.size≤1000000
 add:r.add.size≤1000000
def ApplyE (e:Ending)(s:ByteArray):Prop:=e= .returned (.tuple #[.string s,.bool (okB s)])
theorem applyR_none {r:Ru}{wd:ByteArray}(h:codesB wd.data.toList=none):applyR r wd=⟨#[]⟩:=by unfold applyR;rw[h]
theorem applyR_pre {r:Ru}{wd:ByteArray}{cs:List Int}(h:codesB wd.data.toList=some cs)(hp:r.pre=true):applyR r wd=if begins wd r.strip=true∧startsP r.cond cs=true then r.add++wd.extract r.strip.size wd.size else ⟨#[]⟩:=by
 unfold applyR begins;rw[h];dsimp only;rw[if_pos hp];simp only[decide_eq_true_eq,and_assoc]
theorem applyR_suf {r:Ru}{wd:ByteArray}{cs:List Int}(h:codesB wd.data.toList=some cs)(hp:r.pre=false):applyR r wd=if endsW wd r.strip=true∧endsP r.cond cs=true then wd.extract 0 (wd.size-r.strip.size)++r.add else ⟨#[]⟩:=by
 unfold applyR endsW;rw[h];dsimp only;rw[if_neg (by simp[hp])];simp only[decide_eq_true_eq,and_assoc]
theorem rapply_any (w:World)(v:Value)(r:Ru)(wd:ByteArray)(h:RuAt w v r)(hm:MidR r)(hw:wd.size≤100000):
  Calls Tryz.prog 125 #[v,.string wd] w fun e w'=>ApplyE e (applyR r wd)∧Below w.heap.size w w':=by
 obtain⟨A,cap,rfl,hi⟩:=h;obtain⟨W0,hW0⟩:∃W0,W0=w.alloc (.cells #[.bool r.pre,.int .i64 r.flag,.bool r.cross,.string r.strip,.string r.add,.slice A r.cond.length cap] 123):=⟨_,rfl⟩;have CC:=hid (rcodes_any wd W0 (by omega));have hbA:=(Below.refl w.heap.size w).alloc (Nat.le_refl _) (.cells #[.bool r.pre,.int .i64 r.flag,.bool r.cross,.string r.strip,.string r.add,.slice A r.cond.length cap] 123);rw[hW0]at CC;clear hW0 W0;have HA:=hid hbA;have HI:=hid hi;have CB:=hid (fun wx=>rbegins_any wd r.strip wx (by omega) (by have:=hm.strip;omega));have CE:=hid (fun wx=>rends10_any wd r.strip wx (by omega) (by have:=hm.strip;omega));obtain⟨n,hn⟩:∃n,n=r.cond.length:=⟨_,rfl⟩;have HN:=hid hn;have HM:=hid hm;have hst:=hm.strip;have had:=hm.add;rw[←hn]at HI HA CC⊢;obtain⟨e1,e2⟩:=codesB_two wd.data.toList;obtain⟨R,hR⟩:∃R,R=applyR r wd:=⟨_,rfl⟩;rw[←hR];have HR:=hid hR;clear hi hn hm hbA hR;cases hcb:codesB wd.data.toList with
 | none=>
   rw[hcb]at e1;rw[←e1]at CC;have HZ:=hid (show R=⟨#[]⟩from HR.out.trans (applyR_none hcb));clear e1 e2 hcb HR;go_enter Tryz.func125,Tryz.ntmps125;go_wp2_with (go_at_call 117;refine CC.out.mono ?_);rintro e w1 ⟨v1,rfl,hown,hb⟩;have HB:=hid (HA.out.trans (hb.mono HA.out.size));clear hb hown;go_wp2_with fail;go_ret2;rw[HZ.out];exact⟨rfl,HB.out⟩
 | some cs=>
   rw[hcb]at e1 e2;rw[←e1,←e2]at CC;simp only[Option.getD_some,Option.isSome_some]at CC;have hcl:=(codesB_says hcb).2;have hsl:wd.data.toList.length=wd.size:=(Lib.size_eq wd).symm;have HCL:=hid (show cs.length≤100000 by omega);clear e1 e2 hsl hcl;obtain⟨pre,flag,cross,strip,add,cond⟩:=r;dsimp only at HN HI HA CC CB CE hst had HM;cases pre with
   | true=>
     have HP:=hid (show R=_ from HR.out.trans (applyR_pre hcb rfl));clear hcb HR CE;go_enter Tryz.func125,Tryz.ntmps125;go_wp2_with (first
      | (go_at_call 117;refine CC.out.mono ?_;rintro e w1 ⟨v1,rfl,hown,hb⟩;have hin:=ints_own hown;obtain⟨B,bc,rfl,-⟩:=ints_open hin;obtain⟨x0,x1,x2,x3,x4,x5⟩:=box6 hb;have hlt:w.heap.size<w1.heap.size:=by { have:=hb.size;rw[World.size_alloc]at this;omega };have HB:=hid (HA.out.trans (hb.mono HA.out.size));have ST:=hid (rstarts_any w1 A B n cs.length cap bc cond cs (HI.out.keep HB.out) hin HN.out rfl (by rw[HN.out];exact HM.out.items) HCL.out HM.out.sets);clear hown hb hin)
      | (go_at_call 181;refine(CB.out _).mono ?_;rintro e w2 ⟨rfl,rfl⟩)
      | (go_at_call 182;refine ST.out.mono ?_;rintro e w3 ⟨rfl,hb⟩;have y3:=(hb.cell (p:=⟨w.heap.size,3,none⟩) hlt).trans x3;have y4:=(hb.cell (p:=⟨w.heap.size,4,none⟩) hlt).trans x4;have HB3:=hid (HB.out.trans (hb.mono HB.out.size));clear hb))
     ·rename_i h1 h2;go_ret2;have hz:R=⟨#[]⟩:=by rw[HP.out];exact if_neg (fun h=>by rw[h.2]at h2;cases h2)
      rw[hz];exact⟨rfl,HB3.out⟩
     ·rename_i h1 h2;have hs2:startsP cond cs=true:=by cases hh:startsP cond cs<;>simp_all
      have HZ:=hid (show R=add++wd.extract strip.size wd.size from HP.out.trans (if_pos ⟨h1,hs2⟩));have hle:strip.size≤wd.size:=by unfold begins at h1;exact(of_decide_eq_true h1).1
      have q1:(0:Int)≤strip.size:=by omega
      have q2:(strip.size:Int)≤wd.size:=by omega
      have q3:¬9223372036854775807<add.size+(wd.size-strip.size):=by omega
      have q4:¬9223372036854775807<wd.size-strip.size+add.size:=by omega
      clear h1 h2 hs2 hle x0 x1 x2 x3 x4 x5;go_quiet (fail);go_wp2_with fail;go_ret2;rw[HZ.out];exact⟨by unfold ApplyE;rw[okB_empty];rfl,below_drewN HB3.out _⟩
     ·rename_i h1;go_ret2;have hz:R=⟨#[]⟩:=by rw[HP.out];exact if_neg (fun h=>h1 h.1)
      rw[hz];exact⟨rfl,HB.out⟩
   | false=>
     obtain⟨k,hk⟩:∃k,k=wd.size-strip.size:=⟨_,rfl⟩;have HP:=hid (show R=if endsW wd strip=true∧endsP cond cs=true then wd.extract 0 k++add else ⟨#[]⟩from HR.out.trans (by rw[hk];exact applyR_suf hcb rfl));clear hcb HR CB;have HK:=hid hk;clear hk;go_enter Tryz.func125,Tryz.ntmps125;go_wp2_with (first
      | (go_at_call 117;refine CC.out.mono ?_;rintro e w1 ⟨v1,rfl,hown,hb⟩;have hin:=ints_own hown;obtain⟨B,bc,rfl,-⟩:=ints_open hin;obtain⟨x0,x1,x2,x3,x4,x5⟩:=box6 hb;have hlt:w.heap.size<w1.heap.size:=by { have:=hb.size;rw[World.size_alloc]at this;omega };have HB:=hid (HA.out.trans (hb.mono HA.out.size));have ST:=hid (rends_any w1 A B n cs.length cap bc cond cs (HI.out.keep HB.out) hin HN.out rfl (by rw[HN.out];exact HM.out.items) HCL.out HM.out.sets);clear hown hb hin)
      | (go_at_call 183;refine(CE.out _).mono ?_;rintro e w2 ⟨rfl,rfl⟩)
      | (go_at_call 184;refine ST.out.mono ?_;rintro e w3 ⟨rfl,hb⟩;have y3:=(hb.cell (p:=⟨w.heap.size,3,none⟩) hlt).trans x3;have y4:=(hb.cell (p:=⟨w.heap.size,4,none⟩) hlt).trans x4;have HB3:=hid (HB.out.trans (hb.mono HB.out.size));clear hb))
     ·rename_i h1 h2;go_ret2;have hz:R=⟨#[]⟩:=by rw[HP.out];exact if_neg (fun h=>by rw[h.2]at h2;cases h2)
      rw[hz];exact⟨rfl,HB3.out⟩
     ·rename_i h1 h2;have hs2:endsP cond cs=true:=by cases hh:endsP cond cs<;>simp_all
      have HZ:=hid (show R=wd.extract 0 k++add from HP.out.trans (if_pos ⟨h1,hs2⟩));have hle:strip.size≤wd.size:=by unfold endsW at h1;exact(of_decide_eq_true h1).1
      have q1:(0:Int)≤strip.size:=by omega
      have q2:(strip.size:Int)≤wd.size:=by omega
      have e1:(wd.size:Int)-strip.size=k:=by have:=HK.out;omega
      have q5:(0:Int)≤k:=by omega
      have q6:(k:Int)≤wd.size:=by omega
      have e2:IntKind.i64.wrap (k:Int)=k:=IntWalk.i64_in _ (by omega);have q7:¬9223372036854775807<k+add.size:=by omega
      have q8:¬9223372036854775807<min k wd.size+add.size:=by omega
      have q3:¬9223372036854775807<add.size+(wd.size-strip.size):=by omega
      have q4:¬9223372036854775807<wd.size-strip.size+add.size:=by omega
      clear h1 h2 hs2 hle x0 x1 x2 x3 x4 x5;go_quiet (fail);go_wp2_with fail;go_ret2;rw[HZ.out];exact⟨by unfold ApplyE;rw[okB_empty];rfl,below_drewN HB3.out _⟩
     ·rename_i h1;go_ret2;have hz:R=⟨#[]⟩:=by rw[HP.out];exact if_neg (fun h=>h1 h.1)
      rw[hz];exact⟨rfl,HB.out⟩
theorem bothR_yes {p s:Ru}{wd:ByteArray}(h:p.pre=true∧s.pre=false∧p.cross=true∧s.cross=true∧okB (applyR p wd)=true∧okB (applyR s wd)=true∧p.strip.size+s.strip.size≤wd.size):bothR p s wd=p.add++wd.extract p.strip.size (wd.size-s.strip.size)++s.add:=by
 unfold bothR;obtain⟨h1,h2,h3,h4,h5,h6,h7⟩:=h;exact if_pos ⟨h1,h2,h3,h4,of_decide_eq_true h5,of_decide_eq_true h6,h7⟩
theorem bothR_no {p s:Ru}{wd:ByteArray}(h:¬(p.pre=true∧s.pre=false∧p.cross=true∧s.cross=true∧okB (applyR p wd)=true∧okB (applyR s wd)=true∧p.strip.size+s.strip.size≤wd.size)):bothR p s wd=⟨#[]⟩:=by
 unfold bothR;exact if_neg fun ⟨h1,h2,h3,h4,h5,h6,h7⟩=>h ⟨h1,h2,h3,h4,decide_eq_true h5,decide_eq_true h6,h7⟩
theorem rboth_any (w:World)(v v':Value)(p s:Ru)(wd:ByteArray)(h:RuAt w v p)(hp:MidR p)(h':RuAt w v' s)(hs:MidR s)(hw:wd.size≤100000):
  Calls Tryz.prog 126 #[v,v',.string wd] w fun e w'=>ApplyE e (bothR p s wd)∧Below w.heap.size w w':=by
 have h0:=h;have h0':=h';obtain⟨A,cap,rfl,hi⟩:=h;obtain⟨A',cap',rfl,hi'⟩:=h';obtain⟨n,hn⟩:∃n,n=p.cond.length:=⟨_,rfl⟩;obtain⟨n',hn'⟩:∃n,n=s.cond.length:=⟨_,rfl⟩;rw[←hn]at h0 hi⊢;rw[←hn']at h0' hi'⊢;have hb2:Below w.heap.size w ((w.alloc (.cells #[.bool p.pre,.int .i64 p.flag,.bool p.cross,.string p.strip,.string p.add,.slice A n cap] 123)).alloc (.cells #[.bool s.pre,.int .i64 s.flag,.bool s.cross,.string s.strip,.string s.add,.slice A' n' cap'] 123)):=
  ((Below.refl _ _).alloc (Nat.le_refl _) _).alloc (by rw[World.size_alloc];omega) _
 have CA:=hid (fun wx (hb:Below w.heap.size w wx)=>rapply_any wx _ p wd (h0.keep hb) hp hw);have CS:=hid (fun wx (hb:Below w.heap.size w wx)=>rapply_any wx _ s wd (h0'.keep hb) hs hw);have HB:=hid hb2;have g1:=hp.strip;have g2:=hs.strip;have g3:=hp.add;have g4:=hs.add;obtain⟨R,hR⟩:∃R,R=bothR p s wd:=⟨_,rfl⟩;rw[←hR];have HR:=hid hR;have YES:=hid (fun h=>hR.trans (bothR_yes (p:=p) (s:=s) (wd:=wd) h));have NO:=hid (fun h=>hR.trans (bothR_no (p:=p) (s:=s) (wd:=wd) h));obtain⟨RA,hRA⟩:∃R,R=applyR p wd:=⟨_,rfl⟩;obtain⟨RS,hRS⟩:∃R,R=applyR s wd:=⟨_,rfl⟩;rw[←hRA]at CA YES NO;rw[←hRS]at CS YES NO;clear h0 h0' hi hi' hb2 hR hn hn' hRA hRS hp hs HR;obtain⟨pre,flag,cross,strip,add,cond⟩:=p;obtain⟨pre',flag',cross',strip',add',cond'⟩:=s;dsimp only at CA CS HB g1 g2 g3 g4 YES NO⊢;have BX:Hid (∀w1,Below ((w.alloc (.cells #[.bool pre,.int .i64 flag,.bool cross,.string strip,.string add,.slice A n cap] 123)).alloc (.cells #[.bool pre',.int .i64 flag',.bool cross',.string strip',.string add',.slice A' n' cap'] 123)).heap.size ((w.alloc (.cells #[.bool pre,.int .i64 flag,.bool cross,.string strip,.string add,.slice A n cap] 123)).alloc (.cells #[.bool pre',.int .i64 flag',.bool cross',.string strip',.string add',.slice A' n' cap'] 123)) w1→
   (w1.cell? ⟨w.heap.size,0,none⟩=some (.bool pre)∧w1.cell? ⟨w.heap.size,2,none⟩=some (.bool cross)∧w1.cell? ⟨w.heap.size,3,none⟩=some (.string strip)∧w1.cell? ⟨w.heap.size,4,none⟩=some (.string add))∧
   (w1.cell? ⟨w.heap.size+1,0,none⟩=some (.bool pre')∧w1.cell? ⟨w.heap.size+1,1,none⟩=some (.int .i64 flag')∧w1.cell? ⟨w.heap.size+1,2,none⟩=some (.bool cross')∧w1.cell? ⟨w.heap.size+1,3,none⟩=some (.string strip')∧w1.cell? ⟨w.heap.size+1,4,none⟩=some (.string add')∧w1.cell? ⟨w.heap.size+1,5,none⟩=some (.slice A' n' cap'))):=hid fun w1 hb=>by
  have h1:=box6 (w:=w.alloc (.cells #[.bool pre,.int .i64 flag,.bool cross,.string strip,.string add,.slice A n cap] 123)) hb;rw[World.size_alloc]at h1;have hb0:Below (w.alloc (.cells #[.bool pre,.int .i64 flag,.bool cross,.string strip,.string add,.slice A n cap] 123)).heap.size (w.alloc (.cells #[.bool pre,.int .i64 flag,.bool cross,.string strip,.string add,.slice A n cap] 123)) w1:=
   ((Below.refl _ _).alloc (Nat.le_refl _) _).trans (hb.mono (by rw[World.size_alloc (w.alloc _)];omega))
  have h2:=box6 hb0;exact⟨⟨h2.1,h2.2.2.1,h2.2.2.2.1,h2.2.2.2.2.1⟩,h1⟩
 go_enter Tryz.func126,Tryz.ntmps126;go_wp2_with (go_at_call 125;refine(CA.out _ HB.out).mono ?_);rintro e w1 ⟨rfl,hb1⟩;obtain⟨⟨x0,x2,x3,x4⟩,y0,y1,y2,y3,y4,y5⟩:=BX.out w1 hb1;have B1:=hid hb1;have HB1:=hid (HB.out.trans (hb1.mono HB.out.size));clear hb1;go_wp2_with (go_at_call 125;refine(CS.out _ HB1.out).mono ?_);rintro e w2 ⟨rfl,hb2⟩;have hbb:=B1.out.trans (hb2.mono B1.out.size);clear x0 x2 x3 x4 y0 y1 y2 y3 y4 y5;obtain⟨⟨x0,x2,x3,x4⟩,y0,y1,y2,y3,y4,y5⟩:=BX.out w2 hbb;have HB2:=hid (HB1.out.trans (hb2.mono HB1.out.size));clear hb2 hbb;generalize okB RA=oa at*;generalize okB RS=os at*;have e0:IntKind.i64.wrap ((strip.size:Int)+strip'.size)=(strip.size:Int)+strip'.size:=IntWalk.i64_in _ (by omega);by_cases hall:pre=true∧pre'=false∧cross=true∧cross'=true∧oa=true∧os=true∧strip.size+strip'.size≤wd.size
 ·have HY:=hid (YES.out hall);obtain⟨rfl,rfl,rfl,rfl,rfl,rfl,hle⟩:=hall;have d1:¬(wd.size:Int)<(strip.size:Int)+strip'.size:=by omega
  obtain⟨k,hk⟩:∃k,k=wd.size-strip'.size:=⟨_,rfl⟩;have e1:(wd.size:Int)-strip'.size=k:=by omega
  have e2:IntKind.i64.wrap (k:Int)=k:=IntWalk.i64_in _ (by omega);have q1:(0:Int)≤strip.size:=by omega
  have q2:(strip.size:Int)≤k:=by omega
  have q3:(k:Int)≤wd.size:=by omega
  have q4:(0:Int)≤k:=by omega
  have q5:¬9223372036854775807<add.size+(min k wd.size-strip.size):=by omega
  have q6:¬9223372036854775807<add.size+(min k wd.size-strip.size)+add'.size:=by omega
  have q7:¬9223372036854775807<add.size+(k-strip.size):=by omega
  have q8:¬9223372036854775807<add.size+(k-strip.size)+add'.size:=by omega
  rw[←hk]at HY;clear hk hle YES NO;go_wp2_with fail;go_quiet (fail);go_wp2_with fail;go_ret2;rw[HY.out];exact⟨by unfold ApplyE;rw[okB_empty];rfl,below_drewN HB2.out _⟩
 ·have HZ:=hid (NO.out hall);have hcs:pre=false∨(pre=true∧pre'=true)∨(pre=true∧pre'=false∧cross=false)∨(pre=true∧pre'=false∧cross=true∧cross'=false)∨(pre=true∧pre'=false∧cross=true∧cross'=true∧oa=false)∨
    (pre=true∧pre'=false∧cross=true∧cross'=true∧oa=true∧os=false)∨(pre=true∧pre'=false∧cross=true∧cross'=true∧oa=true∧os=true∧(wd.size:Int)<(strip.size:Int)+strip'.size):=by
   cases pre
   ·exact .inl rfl
   cases pre'
   case true=>exact .inr (.inl ⟨rfl,rfl⟩)
   cases cross
   ·exact .inr (.inr (.inl ⟨rfl,rfl,rfl⟩))
   cases cross'
   ·exact .inr (.inr (.inr (.inl ⟨rfl,rfl,rfl,rfl⟩)))
   cases oa
   ·exact .inr (.inr (.inr (.inr (.inl ⟨rfl,rfl,rfl,rfl,rfl⟩))))
   cases os
   ·exact .inr (.inr (.inr (.inr (.inr (.inl ⟨rfl,rfl,rfl,rfl,rfl,rfl⟩)))))
   ·refine .inr (.inr (.inr (.inr (.inr (.inr ⟨rfl,rfl,rfl,rfl,rfl,rfl,?_⟩)))));rcases Nat.lt_or_ge wd.size (strip.size+strip'.size)with h|h
    ·omega
    ·exact absurd ⟨rfl,rfl,rfl,rfl,rfl,rfl,h⟩ hall
  clear hall YES NO;rcases hcs with rfl|⟨rfl,rfl⟩|⟨rfl,rfl,rfl⟩|⟨rfl,rfl,rfl,rfl⟩|⟨rfl,rfl,rfl,rfl,rfl⟩|⟨rfl,rfl,rfl,rfl,rfl,rfl⟩|⟨rfl,rfl,rfl,rfl,rfl,rfl,hlt⟩;all_goals
   go_wp2_with fail;go_ret2;rw[HZ.out];exact⟨rfl,HB2.out⟩
theorem putOk_len (l:List ByteArray)(x:ByteArray):(putOk l x).length≤l.length+1:=by
 unfold putOk;split
 ·exact putL_length x l
 ·omega
theorem StrsP.keep {w w':World}{v:Value}{l:List ByteArray}(h:StrsP w v l)(hb:Below w.heap.size w w'):StrsP w' v l:=by
 rcases h with h|⟨b,off,cap,rfl,h1,h2,h3,h4⟩
 ·exact .inl h
 ·exact .inr ⟨b,off,cap,rfl,Nat.lt_of_lt_of_le h1 hb.size,h2,h3,fun i c hc=>(cell_old (p:=⟨b,off+i,none⟩) hb h1).trans (h4 i c hc)⟩
theorem take_fold {α β:Type}(f:β→α→β)(x:β){l:List α}{k:Nat}{a:α}(h:l[k]?=some a):(l.take (k+1)).foldl f x=f ((l.take k).foldl f x) a:=by
 rw[List.take_add_one,h,List.foldl_append];rfl
theorem forms13_any (w:World)(v:Value)(rs:List Ru)(A:Option Addr)(n cap:Nat)(wd:ByteArray)(fl:List Int)(hr:RulesAt w v rs)(hI:IntsAt w (.slice A n cap) fl)(hm:∀r∈rs,MidR r)(hw:wd.size≤100000)(hn:rs.length≤1000):
  Calls Tryz.prog 69 #[v,.agg #[.string wd,.slice A n cap]] w fun e w'=>∃v',e= .returned v'∧StrsP w' v' (formsL rs ⟨wd,fl⟩)∧Below w.heap.size w w':=by
 obtain⟨SA,sc,rfl⟩:=rules_form hr;obtain⟨sn,hsn⟩:∃sn,sn=rs.length:=⟨_,rfl⟩;rw[←hsn]at hr hn⊢;have HN:=hid (And.intro hsn (And.intro hm hw));have HO:=hid (rules_open hr);have HIW:=hid hI;obtain⟨W0,hW0⟩:∃W0,W0=w.alloc (.cells #[.string wd,.slice A n cap] 99):=⟨_,rfl⟩;have z:=World.alloc_heap_new w (.cells #[.string wd,.slice A n cap] 99);rw[←hW0]at z;have hb0:Below w.heap.size w W0:=by rw[hW0];exact(Below.refl _ _).alloc (Nat.le_refl _) _
 obtain⟨B0,hB0⟩:∃B0,B0=w.heap.size:=⟨_,rfl⟩;rw[←hB0]at z;have hBl:B0<W0.heap.size:=(Array.getElem?_eq_some_iff.1 z).1;have x0:W0.cell? ⟨B0,0,none⟩=some (.string wd):=by simp[World.cell?,z]
 have x1:W0.cell? ⟨B0,1,none⟩=some (.slice A n cap):=by simp[World.cell?,z]
 have HBX:=hid (show∀W,Below W0.heap.size W0 W→W.cell? ⟨B0,0,none⟩=some (.string wd)∧W.cell? ⟨B0,1,none⟩=some (.slice A n cap)from fun W h=>⟨(cell_old (p:=⟨B0,0,none⟩) h hBl).trans x0,(cell_old (p:=⟨B0,1,none⟩) h hBl).trans x1⟩);have HBW:=hid (show∀W,Below W0.heap.size W0 W→Below w.heap.size w W from fun W h=>hb0.trans (h.mono hb0.size));have HRU:=hid (show∀(i:Nat) r,rs[i]?=some r→∃b off B bc,SA=some ⟨b,off,none⟩∧sn≤sc∧(∀W,Below W0.heap.size W0 W→(W.cell? ⟨b,off+i*6,none⟩=some (.bool r.pre)∧W.cell? ⟨b,off+i*6+1,none⟩=some (.int .i64 r.flag)∧W.cell? ⟨b,off+i*6+2,none⟩=some (.bool r.cross)∧W.cell? ⟨b,off+i*6+3,none⟩=some (.string r.strip)∧W.cell? ⟨b,off+i*6+4,none⟩=some (.string r.add)∧W.cell? ⟨b,off+i*6+5,none⟩=some (.slice B r.cond.length bc))∧
   RuAt W (.agg #[.bool r.pre,.int .i64 r.flag,.bool r.cross,.string r.strip,.string r.add,.slice B r.cond.length bc]) r)from fun i r hi=>by
  obtain⟨b,off,k1,k2,k3,c0,c1,c2,c3,c4,B,bc,c5,hits⟩:=HO.out i r hi;refine⟨b,off,B,bc,k1,k3,fun W h=>?_⟩;have hb:=HBW.out W h;have hc:∀o,W.cell? ⟨b,o,none⟩=w.cell? ⟨b,o,none⟩:=fun o=>cell_old (p:=⟨b,o,none⟩) hb k2;exact⟨⟨(hc _).trans c0,(hc _).trans c1,(hc _).trans c2,(hc _).trans c3,(hc _).trans c4,(hc _).trans c5⟩,B,bc,rfl,hits.keep hb⟩)
 have HS1:=hid (show Below W0.heap.size W0 (W0.alloc (.cells #[.string wd] 9))∧StrsP (W0.alloc (.cells #[.string wd] 9)) (.slice (some ⟨W0.heap.size,0,none⟩) 1 1) [wd]from ⟨(Below.refl _ _).alloc (Nat.le_refl _) _,.inr ⟨W0.heap.size,0,1,rfl,by simp,by simp,by unfold maxLen;omega,fun i s hi=>by
  cases i with
  | zero=>
    simp at hi;subst hi;exact cell_of_row _ _ 0 _ _ _ (World.alloc_heap_new _ _)
  | succ i=>simp at hi⟩⟩)
 have HEN:=hid (fun W (h:Below W0.heap.size W0 W) f=>has_any W wd A n cap fl f (HIW.out.keep (HBW.out W h)));clear hr hI hm hw hsn z hb0 hBl;go_enter Tryz.func69,Tryz.ntmps69;go_upto_region 1 with fail;rw[←hB0,←hW0];clear hW0 hB0;go_wp2_with fail;go_loopg [5,6] sn (fun gh s5 s6 wr=>∃k:Nat,k+gh=sn∧s6= .int .i64 k∧Hid (StrsP wr s5 ((rs.take k).foldl (oneL rs ⟨wd,fl⟩) [wd])∧Below W0.heap.size W0 wr∧((rs.take k).foldl (oneL rs ⟨wd,fl⟩) [wd]).length≤1+k*(sn+1)))
 case atStart=>exact⟨0,by omega,rfl,hid ⟨HS1.out.2,HS1.out.1,by simp⟩⟩
 case round=>
  obtain⟨k,hk,rfl,HQ⟩:=hrel;by_cases hlt:k<sn
  ·obtain⟨r,hr⟩:∃r,rs[k]?=some r:=⟨rs[k]'(by have:=HN.out.1;omega),List.getElem?_eq_getElem _⟩;obtain⟨b,off,B,bc,rfl,hsc,hru⟩:=HRU.out k r hr;have HR:=hid (And.intro hr hru);obtain⟨⟨c0,c1,c2,c3,c4,c5⟩,-⟩:=hru wr HQ.out.2.1;obtain⟨y0,y1⟩:=HBX.out wr HQ.out.2.1;have CH:=hid (HEN.out wr.drew HQ.out.2.1.drew r.flag);clear x0 x1 hr hru;go_upto_region 5 with fail
   go_still_tail 6,(by kernel_rfl)
   change wpList _ _ _ _ _ wr.drew;clear c0 c1 c2 c3 c4 c5 y0 y1;have HQD:=hid (And.intro (HQ.out.1.keep ((Below.refl wr.heap.size wr).drew)) HQ.out.2.1.drew);generalize wr.drew=wd0 at*;by_cases hf:r.flag∈fl
   ·rw[decide_eq_true hf]at CH;go_wp2_with (go_at_call 124;refine(CH.out).mono ?_;rintro e w1 ⟨rfl,hb1⟩;have HB1:=hid (HQD.out.2.trans (hb1.mono HQD.out.2.size));have HBD:=hid hb1.drew;clear hb1 CH);obtain⟨⟨c0,c1,c2,c3,c4,c5⟩,hra⟩:=HR.out.2 w1 HB1.out;obtain⟨y0,y1⟩:=HBX.out w1 HB1.out;have CA:=hid (rapply_any w1.drew _ r wd ((HR.out.2 w1.drew HB1.out.drew).2) (HN.out.2.1 r (List.mem_of_getElem? HR.out.1)) HN.out.2.2);have HS2:=hid (show StrsP w1.drew u5 ((rs.take k).foldl (oneL rs ⟨wd,fl⟩) [wd])from HQD.out.1.keep HBD.out);have HF:=hid hf;clear hf hra;go_cut [7,8] (fun s7 s8 wx=>s7= .string (applyR r wd)∧s8= .bool (okB (applyR r wd))∧Hid (StrsP wx u5 ((rs.take k).foldl (oneL rs ⟨wd,fl⟩) [wd])∧Below W0.heap.size W0 wx))
    case first=>
     go_region_with (go_at_call 125;refine(CA.out).mono ?_;rintro e w2 ⟨rfl,hb2⟩;have HB2:=hid hb2;clear hb2)
     all_goals
      clear c0 c1 c2 c3 c4 c5 y0 y1;go_wp2_with fail;go_meet;exact⟨rfl,rfl,hid ⟨HS2.out.keep HB2.out,HB1.out.drew.trans (HB2.out.mono HB1.out.size)⟩⟩
    case rest=>
     obtain⟨rfl,rfl,HQ2⟩:=hcut;have HLEN:=hid (show ((rs.take k).foldl (oneL rs ⟨wd,fl⟩) [wd]).length≤1000000000 by
      have:=HQ.out.2.2;have:k*(sn+1)≤1000*1001:=Nat.mul_le_mul (by omega) (by omega);omega)
     clear c0 c1 c2 c3 c4 c5 y0 y1 CA HS2;obtain⟨ob,hob⟩:∃ob,ob=okB (applyR r wd):=⟨_,rfl⟩;rw[←hob];have HOB:=hid hob;clear hob
     go_upto_if 39 with(fail)
     go_cut [5] (fun s5 wx=>Hid (StrsP wx s5 (putOk ((rs.take k).foldl (oneL rs ⟨wd,fl⟩) [wd]) (applyR r wd))∧Below W0.heap.size W0 wx))
     case first=>
      cases ob with
      | true=>
        have HPUT:=hid (show putOk ((rs.take k).foldl (oneL rs ⟨wd,fl⟩) [wd]) (applyR r wd)=putL ((rs.take k).foldl (oneL rs ⟨wd,fl⟩) [wd]) (applyR r wd)from if_pos (of_decide_eq_true HOB.out.symm));have CP:=hid (put13_any wc u5 _ (applyR r wd) HQ2.out.1 HLEN.out);go_wp2_with (go_at_call 70;refine(CP.out).mono ?_;rintro e w3 ⟨v3,rfl,hs3,hb3⟩);go_meet;exact hid ⟨by rw[HPUT.out];exact hs3,HQ2.out.2.trans (hb3.mono HQ2.out.2.size)⟩
      | false=>
        have HPUT:=hid (show putOk ((rs.take k).foldl (oneL rs ⟨wd,fl⟩) [wd]) (applyR r wd)=(rs.take k).foldl (oneL rs ⟨wd,fl⟩) [wd]from if_neg (of_decide_eq_false HOB.out.symm));go_wp2_with fail;go_meet;exact hid ⟨by rw[HPUT.out];exact HQ2.out.1,HQ2.out.2⟩
     case rest=>
      have HQ3:=hcut;have hL1:Hid (oneL rs ⟨wd,fl⟩ ((rs.take k).foldl (oneL rs ⟨wd,fl⟩) [wd]) r=rs.foldl (twoL ⟨wd,fl⟩ r) (putOk ((rs.take k).foldl (oneL rs ⟨wd,fl⟩) [wd]) (applyR r wd))):=hid (if_pos HF.out);have hL2:(putOk ((rs.take k).foldl (oneL rs ⟨wd,fl⟩) [wd]) (applyR r wd)).length≤2+k*(sn+1):=by
       have:=putOk_len ((rs.take k).foldl (oneL rs ⟨wd,fl⟩) [wd]) (applyR r wd);have:=HQ.out.2.2;omega
      have hL3:2+k*(sn+1)≤1002002:=by
       have:k*(sn+1)≤1000*1001:=Nat.mul_le_mul (by omega) (by omega);omega
      have HL2:=hid (And.intro hL2 hL3);clear hcut hL2 hL3 HLEN HQ2;generalize putOk ((rs.take k).foldl (oneL rs ⟨wd,fl⟩) [wd]) (applyR r wd)=L1 at HQ3 hL1 HL2;obtain⟨g1,hg1⟩:∃g1,g1=gk:=⟨_,rfl⟩;go_wp2_with fail;go_loopg [5,9] sn (fun gh s5 s9 wq=>∃j:Nat,j+gh=sn∧s9= .int .i64 j∧Hid (StrsP wq s5 ((rs.take j).foldl (twoL ⟨wd,fl⟩ r) L1)∧Below W0.heap.size W0 wq∧((rs.take j).foldl (twoL ⟨wd,fl⟩ r) L1).length≤L1.length+j))
      case atStart=>exact⟨0,by omega,rfl,hid ⟨HQ3.out.1,HQ3.out.2,by simp⟩⟩
      case round=>
       obtain⟨j,hj,rfl,HJ⟩:=hrel;by_cases hltj:j<sn
       ·obtain⟨t,ht⟩:∃t,rs[j]?=some t:=⟨rs[j]'(by have:=HN.out.1;omega),List.getElem?_eq_getElem _⟩;obtain⟨b2,off2,B2,bc2,e2,-,hru2⟩:=HRU.out j t ht;cases e2;have HT:=hid (And.intro ht hru2);obtain⟨⟨c0,c1,c2,c3,c4,c5⟩,-⟩:=hru2 wr HJ.out.2.1;obtain⟨y0,y1⟩:=HBX.out wr HJ.out.2.1;have CH:=hid (HEN.out wr.drew HJ.out.2.1.drew t.flag);clear ht hru2;go_upto_region 12 with fail
        go_still_tail 6,(by kernel_rfl)
        change wpList _ _ _ _ _ wr.drew;clear c0 c1 c2 c3 c4 c5 y0 y1;have HQD:=hid (And.intro (HJ.out.1.keep ((Below.refl wr.heap.size wr).drew)) HJ.out.2.1.drew);generalize wr.drew=wd0 at*;by_cases hf2:t.flag∈fl
        ·rw[decide_eq_true hf2]at CH;go_wp2_with (go_at_call 124;refine(CH.out).mono ?_;rintro e w1 ⟨rfl,hb1⟩;have HB1:=hid (HQD.out.2.trans (hb1.mono HQD.out.2.size));have HBD:=hid hb1.drew;clear hb1 CH);obtain⟨⟨c0,c1,c2,c3,c4,c5⟩,-⟩:=HR.out.2 w1 HB1.out;obtain⟨⟨d0,d1,d2,d3,d4,d5⟩,-⟩:=HT.out.2 w1 HB1.out;obtain⟨y0,y1⟩:=HBX.out w1 HB1.out;have CA:=hid (rboth_any w1.drew _ _ r t wd ((HR.out.2 w1.drew HB1.out.drew).2) (HN.out.2.1 r (List.mem_of_getElem? HR.out.1)) ((HT.out.2 w1.drew HB1.out.drew).2) (HN.out.2.1 t (List.mem_of_getElem? HT.out.1)) HN.out.2.2);have HS2:=hid (show StrsP w1.drew u5 ((rs.take j).foldl (twoL ⟨wd,fl⟩ r) L1)from HQD.out.1.keep HBD.out);have HF2:=hid hf2;clear hf2;go_cut [10,11] (fun s7 s8 wx=>s7= .string (bothR r t wd)∧s8= .bool (okB (bothR r t wd))∧Hid (StrsP wx u5 ((rs.take j).foldl (twoL ⟨wd,fl⟩ r) L1)∧Below W0.heap.size W0 wx))
         case first=>
          go_region_with (go_at_call 126;refine(CA.out).mono ?_;rintro e w2 ⟨rfl,hb2⟩;have HB2:=hid hb2;clear hb2)
          all_goals
           clear c0 c1 c2 c3 c4 c5 d0 d1 d2 d3 d4 d5 y0 y1;go_wp2_with fail;go_meet;exact⟨rfl,rfl,hid ⟨HS2.out.keep HB2.out,HB1.out.drew.trans (HB2.out.mono HB1.out.size)⟩⟩
         case rest=>
          obtain⟨rfl,rfl,HQ2⟩:=hcut;have HLEN:=hid (show ((rs.take j).foldl (twoL ⟨wd,fl⟩ r) L1).length≤1000000000 by
           have:=HJ.out.2.2;have:=HL2.out;omega)
          clear c0 c1 c2 c3 c4 c5 d0 d1 d2 d3 d4 d5 y0 y1 CA HS2;obtain⟨ob2,hob⟩:∃ob,ob=okB (bothR r t wd):=⟨_,rfl⟩;rw[←hob];have HOB2:=hid hob;clear hob;have HX:=hid (show twoL ⟨wd,fl⟩ r ((rs.take j).foldl (twoL ⟨wd,fl⟩ r) L1) t=putOk ((rs.take j).foldl (twoL ⟨wd,fl⟩ r) L1) (bothR r t wd)from if_pos HF2.out);cases ob2 with
          | true=>
            have HPUT:=hid (show putOk ((rs.take j).foldl (twoL ⟨wd,fl⟩ r) L1) (bothR r t wd)=putL ((rs.take j).foldl (twoL ⟨wd,fl⟩ r) L1) (bothR r t wd)from if_pos (of_decide_eq_true HOB2.out.symm));have CP:=hid (put13_any wc u5 _ (bothR r t wd) HQ2.out.1 HLEN.out);go_wp2_with (go_at_call 70;refine(CP.out).mono ?_;rintro e w3 ⟨v3,rfl,hs3,hb3⟩;have HS3:=hid hs3;have HB3:=hid (HQ2.out.2.trans (hb3.mono HQ2.out.2.size));clear hs3 hb3);go_roundg (gk-1)
            case measure=>omega
            case rel=>exact⟨j+1,by omega,by go_num,hid (by rw[take_fold _ _ HT.out.1,HX.out];exact⟨by rw[HPUT.out];exact HS3.out,HB3.out,by have:=HJ.out.2.2;have:=putOk_len ((rs.take j).foldl (twoL ⟨wd,fl⟩ r) L1) (bothR r t wd);omega⟩)⟩
          | false=>
            have HPUT:=hid (show putOk ((rs.take j).foldl (twoL ⟨wd,fl⟩ r) L1) (bothR r t wd)=(rs.take j).foldl (twoL ⟨wd,fl⟩ r) L1 from if_neg (of_decide_eq_false HOB2.out.symm));go_wp2_with fail;go_roundg (gk-1)
            case measure=>omega
            case rel=>exact⟨j+1,by omega,by go_num,hid (by rw[take_fold _ _ HT.out.1,HX.out];exact⟨by rw[HPUT.out];exact HQ2.out.1,HQ2.out.2,by have:=HJ.out.2.2;have:=putOk_len ((rs.take j).foldl (twoL ⟨wd,fl⟩ r) L1) (bothR r t wd);omega⟩)⟩
        ·rw[decide_eq_false hf2]at CH;have HX:=hid (show twoL ⟨wd,fl⟩ r ((rs.take j).foldl (twoL ⟨wd,fl⟩ r) L1) t=(rs.take j).foldl (twoL ⟨wd,fl⟩ r) L1 from if_neg hf2);go_wp2_with (go_at_call 124;refine(CH.out).mono ?_;rintro e w1 ⟨rfl,hb1⟩;have HB1:=hid (HQD.out.2.trans (hb1.mono HQD.out.2.size));have HS1:=hid (HQD.out.1.keep hb1);clear hb1 CH);go_roundg (gk-1)
         case measure=>omega
         case rel=>exact⟨j+1,by omega,by go_num,hid (by rw[take_fold _ _ HT.out.1,HX.out];exact⟨HS1.out,HB1.out,by have:=HJ.out.2.2;omega⟩)⟩
       ·obtain rfl:j=sn:=by omega
        go_wp2_with fail;go_roundg (g1-1)
        case measure=>omega
        case rel=>
         refine⟨k+1,by omega,by go_num,hid ?_⟩;rw[take_fold _ _ HR.out.1,hL1.out];have h1:=HJ.out;rw[List.take_of_length_le (by have:=HN.out.1;omega)]at h1;exact⟨h1.1,h1.2.1,by have:=h1.2.2;have:=HL2.out.1;rw[Nat.add_mul];omega⟩
   ·rw[decide_eq_false hf]at CH;have HX:=hid (show oneL rs ⟨wd,fl⟩ ((rs.take k).foldl (oneL rs ⟨wd,fl⟩) [wd]) r=(rs.take k).foldl (oneL rs ⟨wd,fl⟩) [wd]from if_neg hf);go_wp2_with (go_at_call 124;refine(CH.out).mono ?_;rintro e w1 ⟨rfl,hb1⟩;have HB1:=hid (HQD.out.2.trans (hb1.mono HQD.out.2.size));have HS1:=hid (HQD.out.1.keep hb1);clear hb1 CH);go_roundg (gk-1)
    case measure=>omega
    case rel=>exact⟨k+1,by omega,by go_num,hid (by rw[take_fold _ _ HR.out.1,HX.out];exact⟨HS1.out,HB1.out,by have:=HQ.out.2.2;rw[Nat.add_mul];omega⟩)⟩
  ·obtain rfl:k=sn:=by omega
   go_wp2_with fail;go_ret;have h1:=HQ.out;rw[List.take_of_length_le (by have:=HN.out.1;omega)]at h1;exact⟨_,rfl,h1.1,HBW.out _ h1.2.1⟩
theorem two_len (e:En)(p:Ru):∀(rs:List Ru) (l:List ByteArray),(rs.foldl (twoL e p) l).length≤l.length+rs.length
 | [],_=>Nat.le_refl _
 | s::rs,l=>by
   have h:=two_len e p rs (twoL e p l s);have h1:(twoL e p l s).length≤l.length+1:=by
    unfold twoL;split
    ·exact putOk_len _ _
    ·omega
   rw[List.foldl_cons,List.length_cons];omega
theorem one_len (rs:List Ru)(e:En):∀(ts:List Ru) (l:List ByteArray),(ts.foldl (oneL rs e) l).length≤l.length+ts.length*(rs.length+1)
 | [],l=>by simp
 | t::ts,l=>by
   have h:=one_len rs e ts (oneL rs e l t);have h1:(oneL rs e l t).length≤l.length+(rs.length+1):=by
    unfold oneL;split
    ·have h2:=two_len e t rs (putOk l (applyR t e.word));have h3:=putOk_len l (applyR t e.word);omega
    ·omega
   rw[List.foldl_cons,List.length_cons,Nat.add_mul];omega
theorem forms_len (rs:List Ru)(e:En):(formsL rs e).length≤1+rs.length*(rs.length+1):=one_len rs e rs [e.word]
theorem all13_any (w:World)(v vE:Value)(rs:List Ru)(es:List En)(hr:RulesAt w v rs)(hE:EntsAt w vE es)(hm:∀r∈rs,MidR r)(hn:rs.length≤200)(hes:es.length≤2000)(hw:∀e∈es,e.word.size≤100000):
  Calls Tryz.prog 34 #[v,vE] w fun e w'=>∃v' c,e= .returned (.tuple #[v',.int .i64 c])∧StrsAt w' v' (allL rs es).1∧c=(allL rs es).2∧Below w.heap.size w w':=by
 obtain⟨VA,vc,rfl⟩:=ents_form hE;obtain⟨SA,sc,rfl⟩:=rules_form hr;obtain⟨sn,hsn⟩:∃sn,sn=rs.length:=⟨_,rfl⟩;obtain⟨n,hnn⟩:∃n,n=es.length:=⟨_,rfl⟩;rw[←hsn]at hr⊢;rw[←hnn]at hE hes⊢;have hlen:∀e,(formsL rs e).length≤40201:=fun e=>by
  have h:=forms_len rs e;have:rs.length*(rs.length+1)≤200*201:=Nat.mul_le_mul hn (by omega);omega
 have HN:=hid (And.intro hnn (And.intro hm (And.intro hw (And.intro hr hn))));have HO:=hid (ents_open hE);have HLN:=hid hlen;clear hr hE hm hn hw hsn hnn hlen;go_enter Tryz.func34,Tryz.ntmps34;go_wp2_with fail;go_loopg [6,7] n (fun gh s6 s7 wr=>∃k:Nat,k+gh=n∧s7= .int .i64 k∧Hid (StrsP wr s6 ((es.take k).foldl (fun m e=>(formsL rs e).foldl putL m) [])∧Below w.heap.size w wr∧((es.take k).foldl (fun m e=>(formsL rs e).foldl putL m) []).length≤k*40201))
 case atStart=>exact⟨0,by omega,rfl,hid ⟨.inl ⟨rfl,rfl⟩,Below.refl _ _,by simp⟩⟩
 case round=>
  obtain⟨k,hk,rfl,HQ⟩:=hrel;by_cases hlt:k<n
  ·obtain⟨e,he⟩:∃e,es[k]?=some e:=⟨es[k]'(by have:=HN.out.1;omega),List.getElem?_eq_getElem _⟩;obtain⟨b,off,rfl,hb,hnc,c0,A,cap,c1,hints⟩:=HO.out k e he;have HE:=hid he;obtain⟨wd,fl⟩:=e;dsimp only at c0 c1 hints;obtain⟨fn,hfn⟩:∃fn,fn=fl.length:=⟨_,rfl⟩;rw[←hfn]at c1 hints;have x0:=(HQ.out.2.1.cell (p:=⟨b,off+k*2,none⟩) hb).trans c0;have x1:=(HQ.out.2.1.cell (p:=⟨b,off+k*2+1,none⟩) hb).trans c1;have CF:=hid (forms13_any wr _ rs A fn cap wd fl (HN.out.2.2.2.1.keep HQ.out.2.1) (hints.keep HQ.out.2.1) HN.out.2.1 (HN.out.2.2.1 _ (List.mem_of_getElem? he)) (by have:=HN.out.2.2.2.2;omega));obtain⟨g1,hg1⟩:∃g1,g1=gk:=⟨_,rfl⟩;clear c0 c1 hints hfn he;go_wp2_with (go_at_call 69;refine(CF.out).mono ?_;rintro e w1 ⟨vf,rfl,hsf,hb1⟩;obtain⟨A8,c8,rfl⟩:=strs_form hsf.at_);obtain⟨m,hm⟩:∃m,m=(formsL rs ⟨wd,fl⟩).length:=⟨_,rfl⟩;have hm9:m≤40201:=by rw[hm];exact HLN.out _
   rw[←hm]at hsf⊢;have HSF:=hid (And.intro hsf (And.intro hm hb1));have HP1:=hid (show StrsP w1 u6 ((es.take k).foldl (fun m e=>(formsL rs e).foldl putL m) [])∧Below w.heap.size w w1 from ⟨HQ.out.1.keep hb1,HQ.out.2.1.trans (hb1.mono HQ.out.2.1.size)⟩);clear hsf hm hb1 CF x0 x1;have hk9:k*40201≤2000*40201:=Nat.mul_le_mul_right _ (by omega);have HM0:=hid (And.intro HQ.out.2.2 hk9);clear hk9;obtain⟨M,hM⟩:∃M,M=(es.take k).foldl (fun m e=>(formsL rs e).foldl putL m) []:=⟨_,rfl⟩;rw[←hM]at HP1 HM0;have HMQ:=hid hM;clear hM;go_loopg [6,9] m (fun gh s6 s9 wq=>∃j:Nat,j+gh=m∧s9= .int .i64 j∧Hid (StrsP wq s6 (((formsL rs ⟨wd,fl⟩).take j).foldl putL M)∧Below w1.heap.size w1 wq∧(((formsL rs ⟨wd,fl⟩).take j).foldl putL M).length≤M.length+j))
   case atStart=>exact⟨0,by omega,rfl,hid ⟨HP1.out.1,Below.refl _ _,by simp⟩⟩
   case round=>
    obtain⟨j,hj,rfl,HJ⟩:=hrel;by_cases hltj:j<m
    ·obtain⟨x,hx⟩:∃x,(formsL rs ⟨wd,fl⟩)[j]?=some x:=⟨_,List.getElem?_eq_getElem (by have:=HSF.out.2.1;omega)⟩;obtain⟨b8,o8,rfl,hb8,hn8,c8x⟩:=strs_open HSF.out.1.at_ j x hx;have y0:=(HJ.out.2.1.cell (p:=⟨b8,o8+j,none⟩) hb8).trans c8x;have CP:=hid (put13_any wr u6 _ x HJ.out.1 (by have:=HJ.out.2.2;have:=HM0.out;omega));have HXX:=hid hx;clear hx c8x;go_wp2_with (go_at_call 70;refine(CP.out).mono ?_;rintro e w3 ⟨v3,rfl,hs3,hb3⟩;have HS3:=hid (And.intro hs3 (HJ.out.2.1.trans (hb3.mono HJ.out.2.1.size)));clear hs3 hb3);go_roundg (gk-1)
     case measure=>omega
     case rel=>exact⟨j+1,by omega,by go_num,hid (by rw[take_fold _ _ HXX.out];exact⟨HS3.out.1,HS3.out.2,by have:=HJ.out.2.2;have:=putL_length x (((formsL rs ⟨wd,fl⟩).take j).foldl putL M);omega⟩)⟩
    ·obtain rfl:j=m:=by omega
     go_wp2_with fail;go_roundg (g1-1)
     case measure=>omega
     case rel=>
      refine⟨k+1,by omega,by go_num,hid ?_⟩;rw[take_fold _ _ HE.out];have h1:=HJ.out;rw[List.take_of_length_le (by have:=HSF.out.2.1;omega)]at h1;refine⟨?_,HP1.out.2.trans (h1.2.1.mono HP1.out.2.size),?_⟩
      ·show StrsP _ _ ((formsL rs ⟨wd,fl⟩).foldl putL ((es.take k).foldl (fun m e=>(formsL rs e).foldl putL m) []));rw[←HMQ.out];exact h1.1
      ·show ((formsL rs ⟨wd,fl⟩).foldl putL ((es.take k).foldl (fun m e=>(formsL rs e).foldl putL m) [])).length≤_;rw[←HMQ.out,Nat.add_mul];have:=h1.2.2;have:=HM0.out.1;omega
  ·obtain rfl:k=n:=by omega
   have hq:=HQ.out;rw[List.take_of_length_le (by have:=HN.out.1;omega)]at hq;have hq1:StrsP wr u6 (allF rs es):=hq.1;obtain⟨A6,c6,rfl⟩:=strs_form hq1.at_;obtain⟨m,hm⟩:∃m,m=(allF rs es).length:=⟨_,rfl⟩;rw[←hm]at hq1⊢;have HX:=hid (And.intro hq1 (And.intro hq.2.1 hm));by_cases hbig:(20000:Int)<m
   ·have HA:=hid (show allL rs es=([],3)by unfold allL;rw[if_neg (by omega)]);clear hq hq1 hm;go_wp2_with fail;go_ret2;rw[HA.out];exact⟨_,_,rfl,.inl ⟨rfl,_,_,rfl⟩,rfl,HX.out.2.1⟩
   ·have HA:=hid (show allL rs es=(allF rs es,0)by unfold allL;rw[if_pos (by omega)]);clear hq hq1 hm;go_wp2_with fail;go_ret2;rw[HA.out];exact⟨_,_,rfl,HX.out.1.at_,rfl,HX.out.2.1⟩
end Go.Proofs.YtfehpcbmdancoaaGreatDoor
namespace Go.Proofs.YtfehpcbmdancoaaGreatDoor
open Go Go.Lib
theorem all_len_from (rs:List Ru):∀(es:List En) (m:List ByteArray),(es.foldl (fun m e=>(formsL rs e).foldl putL m) m).length≤m.length+es.length*(1+rs.length*(rs.length+1))
 | [],m=>by simp
 | e::es,m=>by
   have h:=all_len_from rs es ((formsL rs e).foldl putL m);have h1:=puts_len (formsL rs e) m;have h2:=forms_len rs e;rw[List.foldl_cons,List.length_cons,Nat.add_mul];omega
theorem allF_len (rs:List Ru)(es:List En):(allF rs es).length≤es.length*(1+rs.length*(rs.length+1)):=by
 have:=all_len_from rs es [];simpa[allF]using this
theorem allL_ok {rs:List Ru}{es:List En}(h1:rs.length≤10)(h2:es.length≤30):allL rs es=(allF rs es,0):=by
 unfold allL;rw[if_pos];have h:=allF_len rs es;have h3:rs.length*(rs.length+1)≤10*11:=Nat.mul_le_mul h1 (by omega);have h4:es.length*(1+rs.length*(rs.length+1))≤30*111:=Nat.mul_le_mul h2 (by omega);omega
end Go.Proofs.YtfehpcbmdancoaaGreatDoor
