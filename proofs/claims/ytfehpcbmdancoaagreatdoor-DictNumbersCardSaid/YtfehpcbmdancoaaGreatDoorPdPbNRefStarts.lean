/- The document's has, Starts, Ends of chapter 9, by contract. -/
import Derived.Deep.RegionHeld3
import Derived.Deep.RegionWith
import Derived.Test.YtfehpcbmdancoaaGreatDoorPdPbNPlain
set_option maxRecDepth 100000
set_option maxHeartbeats 4000000
namespace Go.Proofs.YtfehpcbmdancoaaGreatDoor
open Go Go.RowKit
theorem contains_next (set:List Int)(j:Nat)(x c:Int)(hx:set[j]?=some x):(set.take (j+1)).contains c=((set.take j).contains c||(x==c)):=by
 rw[List.take_add_one,hx];have key:∀l:List Int,(l++[x]).contains c=(l.contains c||(x==c)):=fun l=>by
  by_cases h1:c∈l
  ·have e1:(l++[x]).contains c=true:=List.contains_iff_mem.2 (List.mem_append_left _ h1);have e2:l.contains c=true:=List.contains_iff_mem.2 h1;rw[e1,e2];rfl
  ·have e2:l.contains c=false:=by rw[Bool.eq_false_iff];intro e;exact h1 (List.contains_iff_mem.1 e)
   by_cases h2:x=c
   ·have e1:(l++[x]).contains c=true:=List.contains_iff_mem.2 (List.mem_append_right _ (by rw[h2];exact List.mem_cons_self ..));rw[e1,e2,h2];simp
   ·have e1:(l++[x]).contains c=false:=by
     rw[Bool.eq_false_iff];intro e;rcases List.mem_append.1 (List.contains_iff_mem.1 e)with h|h
     ·exact h1 h
     ·exact h2 (List.mem_singleton.1 h).symm
    rw[e1,e2,beq_eq_false_iff_ne.2 h2];rfl
 exact key _
theorem rhas_any (w:World)(it:It)(c:Int)(A:Option Addr)(n cap:Nat)(hn:n=it.set.length)(hs:IntsAt w (.slice A n cap) it.set)(h1:n≤100000):
  Calls Tryz.prog 230 #[.agg #[.bool it.any,.bool it.not,.slice A n cap],.int .i64 c] w fun e w'=>e= .returned (.bool (hasP it c))∧Below w.heap.size w w':=by
 obtain⟨A',cap',hv,hA⟩:=ints_open hs;have e1:A=A'∧cap=cap':=by injection hv with a b c;exact⟨a,c⟩
 obtain⟨rfl,rfl⟩:=e1;obtain⟨any,neg,set⟩:=it;dsimp only at hn hA⊢;have HA:=Lib.hid (And.intro hn hA);clear hs hv hA hn;go_enter Tryz.func230,Tryz.ntmps230;go_wp2_with fail;have k0:(w.alloc (.cells #[.bool any,.bool neg,.slice A n cap] 236)).cell? ⟨w.heap.size,0,none⟩=some (.bool any):=by simp
 have k1:(w.alloc (.cells #[.bool any,.bool neg,.slice A n cap] 236)).cell? ⟨w.heap.size,1,none⟩=some (.bool neg):=by simp
 have k2:(w.alloc (.cells #[.bool any,.bool neg,.slice A n cap] 236)).cell? ⟨w.heap.size,2,none⟩=some (.slice A n cap):=by simp
 have hbel:=(Below.refl w.heap.size w).alloc (Nat.le_refl _) (.cells #[.bool any,.bool neg,.slice A n cap] 236);generalize w.alloc (.cells #[.bool any,.bool neg,.slice A n cap] 236)=wB at*;have HB:=Lib.hid hbel;clear hbel;go_loop [5,6] (fun b i=>∃j:Nat,j≤n∧i= .int .i64 j∧b= .bool ((set.take j).contains c)) (fun _ i=>n-(RowKit.intOf i).toNat)
 case atStart=>exact⟨0,Nat.zero_le _,rfl,by rw[List.take_zero];rfl⟩
 case round=>
  obtain⟨j,hj,rfl,rfl⟩:=hrel;have tj0:(0:Int)≤j:=by omega
  by_cases hjn:j<n
  ·have hjI:(j:Int)<n:=by omega
   obtain⟨x,hx⟩:∃x,set[j]?=some x:=⟨_,List.getElem?_eq_getElem (by have:=HA.out.1;omega)⟩;obtain⟨q,o,rfl,hq,hqc,cq⟩:=HA.out.2 j x hx;have hcap:n≤cap:=by have:=HA.out.1;omega
   have p2:=(cell_old (p:=⟨q,o+j,none⟩) HB.out hq).trans cq;have hnext:=contains_next set j x c hx;have HNX:=Lib.hid hnext;clear cq hqc hx hnext;cases hb:(set.take j).contains c
   ·rw[hb]at HNX;by_cases hxc:x=c
    ·subst hxc;have hxx:(x==x)=true:=by simp
     go_wp2_with fail
     go_round
     case rel=>exact⟨j+1,by omega,by go_num,by rw[HNX.out];simp⟩
     case measure=>simp[RowKit.intOf];omega
    ·have hxx:(x==c)=false:=by rw[beq_eq_false_iff_ne];exact hxc
     clear hxc;go_wp2_with fail
     go_round
     case rel=>exact⟨j+1,by omega,by go_num,by rw[HNX.out];simp[hxx]⟩
     case measure=>simp[RowKit.intOf];omega
   ·rw[hb]at HNX;go_wp2_with fail
    go_round
    case rel=>exact⟨j+1,by omega,by go_num,by rw[HNX.out];simp⟩
    case measure=>simp[RowKit.intOf];omega
  ·obtain rfl:j=n:=by omega
   have htk:set.take j=set:=List.take_of_length_le (by have:=HA.out.1;omega);rw[htk];cases hb:set.contains c<;>cases any<;>cases neg;all_goals
    go_wp2_with fail;go_ret;exact⟨by simp only[hasP,hb];rfl,HB.out⟩
theorem starts_cons9 (it:It)(l:List It)(c:Int)(cs:List Int):startsP (it::l) (c::cs)=(hasP it c&&startsP l cs):=by
 unfold startsP;simp only[List.length_cons,Nat.add_le_add_iff_right,List.zip_cons_cons,List.all_cons];cases decide (l.length≤cs.length)<;>cases hasP it c<;>simp
theorem drop_cons9 {α:Type}{l:List α}{k:Nat}{x:α}(h:l[k]?=some x):l.drop k=x::l.drop (k+1):=by
 have hk:=(List.getElem?_eq_some_iff.1 h).1;rw[List.drop_eq_getElem_cons hk];have:=List.getElem?_eq_getElem hk;rw[h]at this;rw[Option.some.inj this]
theorem rstarts_any (w:World)(A B:Option Addr)(n m cap capc:Nat)(l:List It)(cs:List Int)(h:ItemsAt w (.slice A n cap) l)(h':IntsAt w (.slice B m capc) cs)(hn:n=l.length)(hm:m=cs.length)(hl:n≤100000)(hl':m≤100000)(hs:∀it∈l,it.set.length≤100000):
  Calls Tryz.prog 182 #[.slice A n cap,.slice B m capc] w fun e w'=>e= .returned (.bool (startsP l cs))∧Below w.heap.size w w':=by
 obtain⟨A',cap',hv,hc⟩:=items_open h;obtain⟨B',capc',hv',hc'⟩:=ints_open h';obtain⟨rfl,rfl⟩:A=A'∧cap=cap':=by injection hv with a b c;exact⟨a,c⟩
 obtain⟨rfl,rfl⟩:B=B'∧capc=capc':=by injection hv' with a b c;exact⟨a,c⟩
 obtain⟨R,hR⟩:∃R,R=startsP l cs:=⟨_,rfl⟩;rw[←hR];by_cases hlt:m<n
 ·have hR0:R=false:=by rw[hR];unfold startsP;rw[decide_eq_false (by omega)];rfl
  subst hR0;have hI:(m:Int)<n:=by omega
  clear hc hc' h h' hv hv' hn hm hs hR;go_enter Tryz.func182,Tryz.ntmps182;go_wp2_with fail;go_ret;exact⟨rfl,Below.refl _ _⟩
 ·have hI:¬(m:Int)<n:=by omega
  have HC:=Lib.hid (And.intro hc hc');have HN:=Lib.hid (And.intro hn hm);have HS:=Lib.hid hs;have h0:Hid (R=startsP (l.drop 0) (cs.drop 0)):=Lib.hid hR;have hnm:n≤m:=by omega
  clear hc hc' h h' hv hv' hn hm hs hR hlt;go_enter Tryz.func182,Tryz.ntmps182;go_wp2_with fail;go_loopg [5] n (fun g i wr=>∃k:Nat,k+g=n∧i= .int .i64 k∧Hid (R=startsP (l.drop k) (cs.drop k))∧Hid (Below w.heap.size w wr))
  case atStart=>exact⟨0,by omega,rfl,h0,Lib.hid (Below.refl _ _)⟩
  case round=>
   obtain⟨k,hk,rfl,HR,HB⟩:=hrel;clear h0;rcases Nat.eq_zero_or_pos gk with g0|g0
   ·have hkn:k=n:=by omega
    subst hkn;have hR1:R=true:=by
     rw[HR.out,List.drop_eq_nil_of_le (by rw[←HN.out.1];exact Nat.le_refl _)];simp[startsP]
    subst hR1;go_wp2;go_ret;exact⟨rfl,HB.out⟩
   ·have hkn:(k:Int)<n:=by omega
    have hkm:(k:Int)<m:=by omega
    have tk1:(0:Int)≤k:=by omega
    obtain⟨it,hit⟩:∃it,l[k]?=some it:=⟨_,List.getElem?_eq_getElem (by have:=HN.out.1;omega)⟩;obtain⟨c,hcc⟩:∃c,cs[k]?=some c:=⟨_,List.getElem?_eq_getElem (by have:=HN.out.2;omega)⟩;obtain⟨b,off,rfl,hlt,hcp,x0,x1,sv,x2,xs⟩:=HC.out.1 k it hit;obtain⟨q,o,rfl,hq,hqc,cq⟩:=HC.out.2 k c hcc;obtain⟨SA,cp,rfl,-⟩:=ints_open xs;have hcap:n≤cap:=by have:=HN.out.1;omega
    have hcapc:m≤capc:=by have:=HN.out.2;omega
    obtain⟨sl,hsl⟩:∃sl,sl=it.set.length:=⟨_,rfl⟩;rw[←hsl]at x2 xs;have hR2:R=(hasP it c&&startsP (l.drop (k+1)) (cs.drop (k+1))):=by
     rw[HR.out,drop_cons9 hit,drop_cons9 hcc,starts_cons9]
    have HM:=Lib.hid (show∀wx,Below w.heap.size w wx→wx.cell? ⟨b,off+k*3,none⟩=some (.bool it.any)∧wx.cell? ⟨b,off+k*3+1,none⟩=some (.bool it.not)∧wx.cell? ⟨b,off+k*3+2,none⟩=some (.slice SA sl cp)∧wx.cell? ⟨q,o+k,none⟩=some (.int .i64 c)∧Hid (Below w.heap.size w wx)from fun wx hb=>
     ⟨(cell_old (p:=⟨b,off+k*3,none⟩) hb hlt).trans x0,(cell_old (p:=⟨b,off+k*3+1,none⟩) hb hlt).trans x1,(cell_old (p:=⟨b,off+k*3+2,none⟩) hb hlt).trans x2,(cell_old (p:=⟨q,o+k,none⟩) hb hq).trans cq,Lib.hid hb⟩)
    have CH:=Lib.hid (show∀wx,(wx.cell? ⟨b,off+k*3,none⟩=some (.bool it.any)∧wx.cell? ⟨b,off+k*3+1,none⟩=some (.bool it.not)∧wx.cell? ⟨b,off+k*3+2,none⟩=some (.slice SA sl cp)∧wx.cell? ⟨q,o+k,none⟩=some (.int .i64 c)∧Hid (Below w.heap.size w wx))→Calls Tryz.prog 230 #[.agg #[.bool it.any,.bool it.not,.slice SA sl cp],.int .i64 c] wx fun e w'=>e= .returned (.bool (hasP it c))∧(w'.cell? ⟨b,off+k*3,none⟩=some (.bool it.any)∧w'.cell? ⟨b,off+k*3+1,none⟩=some (.bool it.not)∧w'.cell? ⟨b,off+k*3+2,none⟩=some (.slice SA sl cp)∧w'.cell? ⟨q,o+k,none⟩=some (.int .i64 c)∧Hid (Below w.heap.size w w'))from fun wx hx=>by
     refine(rhas_any wx it c SA sl cp hsl (xs.keep hx.2.2.2.2.out) (by rw[hsl];exact HS.out it (List.mem_of_getElem? hit))).mono ?_;rintro e w' ⟨rfl,hb⟩;exact⟨rfl,HM.out w' (hx.2.2.2.2.out.trans (hb.mono hx.2.2.2.2.out.size))⟩)
    have HS0:=Lib.hid (HM.out wr.drew HB.out.drew);obtain⟨z0,z1,z2,z3,-⟩:=HM.out wr HB.out;clear x0 x1 x2 xs cq hit hcc hcp hqc hsl;have HR2:=Lib.hid hR2;clear hR2;cases hh:hasP it c
    ·rw[hh]at CH HR2;obtain rfl:R=false:=by rw[HR2.out];rfl
     obtain⟨any,neg,set⟩:=it;dsimp only at z0 z1 z2 CH HM HS0;go_wp2_with fail;go_region_held3 (fun wx=>wx.cell? ⟨b,off+k*3,none⟩=some (.bool any)∧wx.cell? ⟨b,off+k*3+1,none⟩=some (.bool neg)∧wx.cell? ⟨b,off+k*3+2,none⟩=some (.slice SA sl cp)∧wx.cell? ⟨q,o+k,none⟩=some (.int .i64 c)∧Hid (Below w.heap.size w wx))
      (first|exact HS0.out|assumption)
      (first|(go_at_call 230;refine(CH.out _ (by assumption)).mono ?_;rintro e w5 ⟨rfl,hs⟩))
     have hb5:Hid (Below w.heap.size w w5):=by
      have hx:w5.cell? ⟨b,off+k*3,none⟩=some (.bool any)∧w5.cell? ⟨b,off+k*3+1,none⟩=some (.bool neg)∧w5.cell? ⟨b,off+k*3+2,none⟩=some (.slice SA sl cp)∧w5.cell? ⟨q,o+k,none⟩=some (.int .i64 c)∧Hid (Below w.heap.size w w5):=by assumption
      exact hx.2.2.2.2
     go_wp2_with fail;go_ret;exact⟨rfl,hb5.out⟩
    ·rw[hh]at CH HR2;obtain⟨any,neg,set⟩:=it;dsimp only at z0 z1 z2 CH HM HS0;go_wp2_with fail;go_region_held3 (fun wx=>wx.cell? ⟨b,off+k*3,none⟩=some (.bool any)∧wx.cell? ⟨b,off+k*3+1,none⟩=some (.bool neg)∧wx.cell? ⟨b,off+k*3+2,none⟩=some (.slice SA sl cp)∧wx.cell? ⟨q,o+k,none⟩=some (.int .i64 c)∧Hid (Below w.heap.size w wx))
      (first|exact HS0.out|assumption)
      (first|(go_at_call 230;refine(CH.out _ (by assumption)).mono ?_;rintro e w5 ⟨rfl,hs⟩))
     have hb5:Hid (Below w.heap.size w w5):=by
      have hx:w5.cell? ⟨b,off+k*3,none⟩=some (.bool any)∧w5.cell? ⟨b,off+k*3+1,none⟩=some (.bool neg)∧w5.cell? ⟨b,off+k*3+2,none⟩=some (.slice SA sl cp)∧w5.cell? ⟨q,o+k,none⟩=some (.int .i64 c)∧Hid (Below w.heap.size w w5):=by assumption
      exact hx.2.2.2.2
     go_wp2_with fail;go_roundg (gk-1)
     case measure=>omega
     case rel=>exact⟨k+1,by omega,by go_num,Lib.hid (by rw[HR2.out,Bool.true_and]),hb5⟩
theorem rends_any (w:World)(A B:Option Addr)(n m cap capc:Nat)(l:List It)(cs:List Int)(h:ItemsAt w (.slice A n cap) l)(h':IntsAt w (.slice B m capc) cs)(hn:n=l.length)(hm:m=cs.length)(hl:n≤100000)(hl':m≤100000)(hs:∀it∈l,it.set.length≤100000):
  Calls Tryz.prog 184 #[.slice A n cap,.slice B m capc] w fun e w'=>e= .returned (.bool (endsP l cs))∧Below w.heap.size w w':=by
 by_cases hlt:m<n
 ·have hR0:endsP l cs=false:=by unfold endsP;rw[decide_eq_false (by omega)];rfl
  rw[hR0];have hI:(m:Int)<n:=by omega
  have hI2:¬(n:Int)≤m:=by omega
  clear h h' hn hm hs hR0;go_enter Tryz.func184,Tryz.ntmps184;go_wp2_with fail;go_ret;exact⟨rfl,Below.refl _ _⟩
 ·have hI2:(n:Int)≤m:=by omega
  have hR1:endsP l cs=startsP l (cs.drop (m-n)):=by
   unfold endsP;rw[decide_eq_true (by omega),Bool.true_and,←hn,←hm]
  rw[hR1];have tw:IntKind.i64.wrap ((m:Int)-n)=((m-n:Nat):Int):=by rw[IntWalk.i64_in _ (by omega)];omega
  have t0:(0:Int)≤((m-n:Nat):Int):=by omega
  have t1:((m-n:Nat):Int)≤m:=by omega
  have hdl:(cs.drop (m-n)).length=n:=by rw[List.length_drop];omega
  obtain⟨hnil,a,cap1,hv⟩|⟨q,o,cap1,hv,hq,hcap,hmx,hcell⟩:=h'
  ·have hm0:m=0:=by rw[hm,hnil];rfl
   subst hm0;have hn0:n=0:=by omega
   subst hn0;have C:=Lib.hid (fun B' c'=>rstarts_any w A B' 0 0 cap c' l (cs.drop (0-0)) h (.inl ⟨by rw[hnil];rfl,_,_,rfl⟩) hn (by rw[hnil];rfl) hl (by omega) hs);clear h hv hnil hn hm hs hR1 hdl;go_enter Tryz.func184,Tryz.ntmps184;go_wp2_with fail;refine(C.out _ _).mono ?_;rintro e w1 ⟨rfl,hb⟩;have HB:=Lib.hid hb;clear hb;go_wp2_with fail;go_ret;exact⟨rfl,HB.out⟩
  ·obtain⟨rfl,rfl⟩:B=some ⟨q,o,none⟩∧capc=cap1:=by injection hv with a b c;exact⟨a,c⟩
   have hcapI:(m:Int)≤capc:=by omega
   have C:=Lib.hid (show∀x y,(x=o+(m-n)∧y=capc-(m-n)∨n=0)→Calls Tryz.prog 182 #[.slice A n cap,.slice (some ⟨q,x,none⟩) n y] w fun e w'=>e= .returned (.bool (startsP l (cs.drop (m-n))))∧Below w.heap.size w w' from fun x y hxy=>by
    refine rstarts_any w A _ n n cap y l (cs.drop (m-n)) h ?_ hn hdl.symm hl (by omega) hs;rcases Nat.eq_zero_or_pos n with h0|h0
    ·subst h0;exact .inl ⟨List.eq_nil_of_length_eq_zero hdl,_,_,rfl⟩
    ·rcases hxy with ⟨rfl,rfl⟩|hxy
     ·refine .inr ⟨q,_,_,by rw[hdl],hq,by rw[hdl];omega,by omega,fun i c hi=>?_⟩;rw[List.getElem?_drop]at hi;rw[Nat.add_assoc];exact hcell _ c hi
     ·omega)
   clear h hv hcell hn hm hs hR1 hdl;go_enter Tryz.func184,Tryz.ntmps184;have tmn:m-(m-n)=n:=by omega
   go_wp2_with fail;all_goals
    refine(C.out _ _ (by first|exact .inl ⟨rfl,rfl⟩|(right;omega))).mono ?_;rintro e w1 ⟨rfl,hb⟩;have HB:=Lib.hid hb;clear hb;go_wp2_with fail;go_ret;exact⟨rfl,HB.out⟩
end Go.Proofs.YtfehpcbmdancoaaGreatDoor
