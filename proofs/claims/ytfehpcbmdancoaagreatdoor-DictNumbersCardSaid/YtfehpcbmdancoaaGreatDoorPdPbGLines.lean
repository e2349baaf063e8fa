/- strings.Cut at a line's end, by contract. -/
import Derived.OwnWalk
import Derived.BigQuiet
import Derived.Test.YtfehpcbmdancoaaGreatDoorPdPbNPlain
import Derived.Test.YtfehpcbmdancoaaGreatDoorPdPbPWords
import Derived.Test.YtfehpcbmdancoaaGreatDoorPdPbShelf
set_option maxRecDepth 100000
set_option maxHeartbeats 4000000
namespace Go.Proofs.YtfehpcbmdancoaaGreatDoor.Ls
open Go Go.RowKit Go.Lib
def CutE (s:ByteArray)(e:Ending):Prop:=∃a b f,e= .returned (.tuple #[.string a,.string b,.bool f])∧a.data.toList=s.data.toList.takeWhile (· ≠10)∧b.data.toList=(s.data.toList.dropWhile (· ≠10)).tail
theorem wcutl_any (s:ByteArray)(w:World)(hs:s.size≤1000000000):
  Calls Tryz.prog 95 #[.string s,.string ⟨#[10]⟩] w fun e w'=>CutE s e∧Below w.heap.size w w':=by
 have CI:=hid (Tryz.stringslite_Index_one s 10);have hsl:s.data.toList.length=s.size:=(Lib.size_eq s).symm;by_cases hm:(10:UInt8)∈s.data.toList
 ·obtain⟨c1,c2,c3⟩:=cut10 hm;rw[idx10_some hm]at CI;obtain⟨k,hk⟩:∃k,k=(s.data.toList.takeWhile (· ≠10)).length:=⟨_,rfl⟩;rw[←hk]at CI c1 c2 c3;have hx:(s.extract 0 k).data.toList=s.data.toList.takeWhile (· ≠10):=by
   rw[ByteArray.data_extract,Array.toList_extract];show (s.data.toList.drop 0).take (k-0)=_;rw[List.drop_zero,Nat.sub_zero,c1]
  have hy:(s.extract (k+1) s.size).data.toList=(s.data.toList.dropWhile (· ≠10)).tail:=by
   rw[ByteArray.data_extract,Array.toList_extract];show (s.data.toList.drop (k+1)).take (s.size-(k+1))=_;rw[List.take_of_length_le (by rw[List.length_drop,Lib.size_eq];exact Nat.le_refl _),c2]
  have HE:=hid (show CutE s (.returned (.tuple #[.string (s.extract 0 k),.string (s.extract (k+1) s.size),.bool true]))from ⟨_,_,_,rfl,hx,hy⟩);have k0:(0:Int)≤k:=by omega
  have k1:(k:Int)≤s.size:=by omega
  have k2:(0:Int)≤(k:Int)+1:=by omega
  have k3:(k:Int)+1≤s.size:=by omega
  have k4:(0:Int)≤((k+1:Nat):Int):=by omega
  have k5:((k+1:Nat):Int)≤s.size:=by omega
  have wk:IntKind.i64.wrap ((k:Int)+1)=((k+1:Nat):Int):=by rw[IntWalk.i64_in _ (by omega)];omega
  have wk0:IntKind.i64.wrap (k:Int)=(k:Int):=by rw[IntWalk.i64_in _ (by omega)]
  clear hm hk c1 c2 c3 hx hy hsl;go_enter Tryz.func95,Tryz.ntmps95;go_upto_region 2 with(go_at_call 149;refine(CI.out _).mono ?_;rintro e w2 ⟨rfl,rfl⟩);go_upto_region 3 with fail;go_quiet (fail);go_wp2_with fail;go_ret3;exact⟨HE.out,below_drewN (Below.refl _ _) _⟩
 ·obtain⟨c1,c2⟩:=all10 hm;rw[idx10_none hm]at CI;have HE:=hid (show CutE s (.returned (.tuple #[.string s,.string ⟨#[]⟩,.bool false]))from ⟨_,_,_,rfl,c1.symm,by rw[c2];rfl⟩);clear hm c1 c2 hsl;go_enter Tryz.func95,Tryz.ntmps95;go_wp2_with (go_at_call 149;refine(CI.out _).mono ?_;rintro e w2 ⟨rfl,rfl⟩);go_ret3;exact⟨HE.out,Below.refl _ _⟩
theorem wcut_any (s:ByteArray)(w:World)(hs:s.size≤1000000000):
  Calls Tryz.prog 52 #[.string s,.string ⟨#[10]⟩] w fun e w'=>CutE s e∧Below w.heap.size w w':=by
 have C:=hid (wcutl_any s w hs);go_enter Tryz.func52,Tryz.ntmps52;go_wp2_with (go_at_call 95;refine C.out.mono ?_);rintro e w1 ⟨⟨a,b,f,rfl,ha,hb⟩,hbw⟩;have HA:=hid (And.intro ha (And.intro hb hbw));clear ha hb hbw C;go_wp2_with fail;go_ret3;exact⟨⟨a,b,f,rfl,HA.out.1,HA.out.2.1⟩,HA.out.2.2⟩
theorem glines_len:∀(s:List UInt8),(linesL s).length≤s.length
 | []=>Nat.le_refl _
 | b::r=>by
   have ih:=glines_len r;rw[linesL_cons];by_cases hb:b=10
   ·rw[if_pos hb,List.length_cons,List.length_cons];omega
   ·rw[if_neg hb];cases he:linesL r with
    | nil=>simp
    | cons x t=>rw[he,List.length_cons]at ih;rw[List.length_cons,List.length_cons];omega
def PAns (w w':World)(o:List En×Nat×Int)(e:Ending):Prop:=∃v,e= .returned (.tuple #[v,.int .i64 (o.2.1:Nat),.int .i64 o.2.2])∧EntsAt w' v o.1∧Below w.heap.size w w'
theorem PAns.no {w w':World}{o:List En×Nat×Int}{n:Nat}{c:Int}(h:o=([],n,c))(hb:Below w.heap.size w w'):PAns w w' o (.returned (.tuple #[.slice none 0 0,.int .i64 n,.int .i64 c])):=by
 subst h;exact⟨_,rfl,.inl ⟨rfl,_,_,rfl⟩,hb⟩
structure MidL (w wr:World)(ls:List (List UInt8))(v:Value)(xs:List Value)(k b m:Nat)(S:List UInt8):Prop where
 q:EQ w wr v xs (esOf (ls.take k))
 bad:b=badE 1 (ls.take k)
 rest:ls.drop k=linesL S
 len:(esOf (ls.take k)).length=m
theorem MidL.get {w wr:World}{ls:List (List UInt8)}{v:Value}{xs:List Value}{k b m:Nat}{S:List UInt8}(h:MidL w wr ls v xs k b m S)(hS:S≠[]):ls[k]?=some (S.takeWhile (· ≠10))∧ls.drop (k+1)=linesL (S.dropWhile (· ≠10)).tail:=by
 have h1:=h.rest;rw[linesL_split S hS]at h1;constructor
 ·rw[←List.head?_drop,h1];rfl
 ·rw[←List.drop_drop,h1];rfl
theorem MidL.skip {w wr wy:World}{ls:List (List UInt8)}{v:Value}{xs:List Value}{k b m:Nat}{S:List UInt8}(h:MidL w wr ls v xs k b m S)(hS:S≠[])(hb:Below wr.heap.size wr wy)(he:entryL (S.takeWhile (· ≠10))=none):
  MidL w wy ls v xs (k+1) (if b=0 then(if noneL (S.takeWhile (· ≠10))=true then k+1 else 0)else b) m (S.dropWhile (· ≠10)).tail:=by
 obtain⟨h1,h2⟩:=h.get hS;have h3:=esOf_take h1;rw[he]at h3;have h4:esOf (ls.take (k+1))=esOf (ls.take k):=by rw[h3];exact List.append_nil _
 exact⟨by rw[h4];exact h.q.keep hb,by rw[badE_take h1,←h.bad],h2,by rw[h4];exact h.len⟩
theorem noneL_of {l:List UInt8}(he:entryL l=none):noneL l= !decide (l=[]∨l.head?=some 35):=by
 rw[Bool.eq_iff_iff,noneL_eq,Bool.not_eq_true',decide_eq_false_iff_not];exact⟨fun h=>h.1,fun h=>⟨h,he⟩⟩
theorem noneL_some {l:List UInt8}{en:En}(he:entryL l=some en):noneL l=false:=by
 rw[Bool.eq_false_iff];intro e;have:=((noneL_eq l).1 e).2;rw[he]at this;cases this
theorem MidL.push {w wr w2 w5 w6:World}{ls:List (List UInt8)}{v v':Value}{xs:List Value}{k b m:Nat}{S:List UInt8}{en:En}{W:ByteArray}{A:Option Addr}{n c:Nat}(h:MidL w wr ls v xs k b m S)(hS:S≠[])(he:entryL (S.takeWhile (· ≠10))=some en)
  (hb:Below wr.heap.size wr w2) (hW:W=en.word) (hn:n=en.flags.length) (hr:w2.ownsRow wr.heap.size 3 1 (.slice A n c) n (en.flags.map (Value.int .i64))) (hb5:Below w2.heap.size w2 w5)
  (hown:w6.ownsRow w.heap.size 99 2 v' (m+1) (xs++[.string W,.slice A n c])) (hgrow:w5.grownBy w6 v.ownBlock) (hwh:v'.ownBlock=v.ownBlock∨∀g,v'.ownBlock=some g→w5.heap.size≤g):
  MidL w w6 ls v' (xs++[.string W,.slice A n c]) (k+1) b (m+1) (S.dropWhile (· ≠10)).tail:=by
 obtain⟨h1,h2⟩:=h.get hS;have h3:=esOf_take h1;rw[he]at h3;have h4:esOf (ls.take (k+1))=esOf (ls.take k)++[en]:=h3;refine⟨by rw[h4];exact h.q.push hb hW hn hr hb5 (by rw[h.len];exact hown) hgrow hwh,?_,h2,by rw[h4,List.length_append,h.len];rfl⟩;rw[badE_take h1,←h.bad,noneL_some he];split
 ·rename_i e;rw[e];rfl
 ·rfl
theorem gparse_any (w:World)(s:ByteArray)(hs:s.size≤1000000000)(hT:Lib.Utf8Tabs 1 2 w):
  Calls Tryz.prog 29 #[.string s] w fun e w'=>PAns w w' (parseE s) e:=by
 by_cases hbig:(65536:Int)<s.size
 ·have HZ:=hid (show parseE s=([],0,3)by unfold parseE;rw[if_pos (by omega)]);clear hT;go_enter Tryz.func29,Tryz.ntmps29;go_wp2_with fail;go_ret3;exact PAns.no HZ.out (Below.refl _ _)
 obtain⟨ls,hls⟩:∃ls,ls=linesL s.data.toList:=⟨_,rfl⟩;have hnum:ls.length≤65536:=by
  have h1:=glines_len s.data.toList;rw[←hls]at h1;have h3:s.data.toList.length=s.size:=(Lib.size_eq s).symm;omega
 have HP:=hid (show parseE s=endE ls by unfold parseE;rw[if_neg (by omega),hls]);have H0:=hid (show MidL w w ls (.slice none 0 0) [] 0 0 0 s.data.toList from ⟨EQ.start w,rfl,hls,rfl⟩);have HNUM:=hid hnum;have HT:=hid (show∀wx,Below w.heap.size w wx→Lib.Utf8Tabs 1 2 wx from fun wx hb=>tabs_below hT hb);obtain⟨i1,hi1,hz10,hz11,hz12⟩:=info_parts Tryz.infosY99;clear hls hnum hT;go_enter Tryz.func29,Tryz.ntmps29;go_wp2_with fail;go_loopg [0,5,6,7,8,9,10,11,12] s.size (fun g sv lv bv nv _ _ _ _ _ wr=>∃(S:ByteArray) (xs:List Value) (k b m:Nat),S.size=g∧sv= .string S∧nv= .int .i64 ((k+1:Nat):Int)∧bv= .int .i64 (b:Int)∧m≤2000∧g≤s.size∧Hid (MidL w wr ls lv xs k b m S.data.toList))
 case atStart=>exact⟨s,[],0,0,0,rfl,rfl,rfl,rfl,by omega,Nat.le_refl _,H0⟩
 case round=>
  obtain⟨S,xs,k,b,m,hSg,rfl,rfl,rfl,hm,hgs,HK⟩:=hrel;have hshape:=own_shape HK.out.q.row;rw[HK.out.len]at hshape;obtain⟨MA,mc,rfl⟩:=hshape;have hem:S.toList.isEmpty=decide (S.data.toList=[]):=by
   rw[toL_data];cases S.data.toList<;>rfl
  have HB:=hid HK.out.q.below;by_cases hS:S.data.toList=[]
  ·have e1:S.toList.isEmpty=true:=by rw[hem];exact decide_eq_true hS
   have hfull:ls.take k=ls:=by
    have h1:=HK.out.rest;rw[hS]at h1;have h2:=congrArg List.length h1;rw[List.length_drop]at h2;exact List.take_of_length_le (by simp[linesL]at h2;omega)
   have hlen:=HK.out.len;have hbad:=HK.out.bad;have hq:=HK.out.q.reads;rw[hfull]at hlen hbad hq;have HE:=hid (show parseE s=if 0<b then([],b,5)else(esOf ls,0,0)by rw[HP.out];unfold endE;rw[if_neg (by omega),←hbad]);have HQ:=hid hq;clear hem hS hfull hlen hbad hq HK;by_cases h2:0<b
   ·have e2:(0:Int)<b:=by omega
    have HZ:=hid (show parseE s=([],b,5)by rw[HE.out,if_pos h2]);go_wp2_with fail;go_ret3;exact PAns.no HZ.out HB.out
   ·have e2:¬(0:Int)<b:=by omega
    have HZ:=hid (show parseE s=(esOf ls,0,0)by rw[HE.out,if_neg h2]);go_wp2_with fail;go_ret3;exact⟨_,by rw[HZ.out];rfl,by rw[HZ.out];exact HQ.out,HB.out⟩
  ·have e1:S.toList.isEmpty=false:=by rw[hem];exact decide_eq_false hS
   obtain⟨hget,-⟩:=HK.out.get hS;have hkl:k<ls.length:=(List.getElem?_eq_some_iff.1 hget).1;have hk6:k≤65536:=by have:=HNUM.out;omega
   have HKL:=hid hkl;have HS:=hid hS;have CU:=hid (wcut_any S wr (by omega));clear hem hS hget hkl;go_wp2_with (go_at_call 52;refine CU.out.mono ?_;rintro e w2 ⟨⟨a,r,fl,rfl,ha,hr⟩,hb2⟩;have HA:=hid (And.intro ha (And.intro hr hb2));clear ha hr hb2);have hrs:r.size<S.size:=by
    have h1:S.data.toList.length=S.size:=(Lib.size_eq S).symm;have h2:S.data.toList.takeWhile (· ≠10)++S.data.toList.dropWhile (· ≠10)=S.data.toList:=List.takeWhile_append_dropWhile;have h3:=congrArg List.length h2;have h4:S.data.toList.length≠0:=fun e=>HS.out (List.eq_nil_of_length_eq_zero e);rw[List.length_append]at h3;rw[Lib.size_eq,HA.out.2.1,List.length_tail];omega
   have has:a.size≤S.size:=by
    have h1:S.data.toList.length=S.size:=(Lib.size_eq S).symm;have h2:S.data.toList.takeWhile (· ≠10)++S.data.toList.dropWhile (· ≠10)=S.data.toList:=List.takeWhile_append_dropWhile;have h3:=congrArg List.length h2;rw[List.length_append]at h3;rw[Lib.size_eq,HA.out.1];omega
   have HB2:=hid (HB.out.trans (HA.out.2.2.mono HB.out.size));have CE:=hid (gentry_any w2 a (by omega) (HT.out _ HB2.out));have CS:=hid (fun wx=>gsilent_any wx a);rw[HA.out.1]at CE CS;cases he:entryL (S.data.toList.takeWhile (· ≠10))with
   | none=>
     have HSK:=hid (fun wy (hb:Below wr.heap.size wr wy)=>HK.out.skip HS.out hb he);have hnl:=noneL_of he;have HEE:=hid he;obtain⟨sil,hsil⟩:∃d,d=decide (S.data.toList.takeWhile (· ≠10)=[]∨(S.data.toList.takeWhile (· ≠10)).head?=some 35):=⟨_,rfl⟩;rw[←hsil]at CS hnl;rw[hnl]at HSK;clear he hnl hsil;cases sil with
     | true=>
       go_wp2_with (first
        | (go_at_call 53;refine CE.out.mono ?_;rintro e w3 ⟨⟨W,A2,n2,c2,ok,rfl,hok,-⟩,hb3⟩;have hok2:ok=false:=(by rw[hok,HEE.out];rfl);subst hok2;have H3:=hid (HA.out.2.2.trans ((hb3.alloc hb3.size (.cells #[.string W,.slice A2 n2 c2] 99)).mono HA.out.2.2.size));clear hok hb3)
        | (go_at_call 54;refine(CS.out _).mono ?_;rintro e w4 ⟨rfl,hw⟩;have hw2:=hw.symm;clear hw;subst hw2))
       go_roundg r.size
       case measure=>omega
       case rel=>exact⟨r,xs,k+1,b,m,rfl,rfl,by go_num,rfl,hm,by omega,hid (by
        have h1:=HSK.out _ H3.out;rw[HA.out.2.1];have h2:(if b=0 then(if (!true)=true then k+1 else 0)else b)=b:=by
         split
         ·rename_i e;rw[e];rfl
         ·rfl
        rw[h2]at h1;exact h1)⟩
     | false=>
       by_cases hb0:b=0
       ·subst hb0;go_wp2_with (first
         | (go_at_call 53;refine CE.out.mono ?_;rintro e w3 ⟨⟨W,A2,n2,c2,ok,rfl,hok,-⟩,hb3⟩;have hok2:ok=false:=(by rw[hok,HEE.out];rfl);subst hok2;have H3:=hid (HA.out.2.2.trans ((hb3.alloc hb3.size (.cells #[.string W,.slice A2 n2 c2] 99)).mono HA.out.2.2.size));clear hok hb3)
         | (go_at_call 54;refine(CS.out _).mono ?_;rintro e w4 ⟨rfl,hw⟩;have hw2:=hw.symm;clear hw;subst hw2))
        go_roundg r.size
        case measure=>omega
        case rel=>exact⟨r,xs,k+1,k+1,m,rfl,rfl,by go_num,rfl,hm,by omega,hid (by
         have h1:=HSK.out _ H3.out;rw[HA.out.2.1];exact h1)⟩
       ·have e3:((b:Int)==0)=false:=by simp;omega
        have HB0:=hid hb0;clear hb0;go_wp2_with (first
         | (go_at_call 53;refine CE.out.mono ?_;rintro e w3 ⟨⟨W,A2,n2,c2,ok,rfl,hok,-⟩,hb3⟩;have hok2:ok=false:=(by rw[hok,HEE.out];rfl);subst hok2;have H3:=hid (HA.out.2.2.trans ((hb3.alloc hb3.size (.cells #[.string W,.slice A2 n2 c2] 99)).mono HA.out.2.2.size));clear hok hb3)
         | (go_at_call 54;refine(CS.out _).mono ?_;rintro e w4 ⟨rfl,hw⟩;have hw2:=hw.symm;clear hw;subst hw2))
        go_roundg r.size
        case measure=>omega
        case rel=>exact⟨r,xs,k+1,b,m,rfl,rfl,by go_num,rfl,hm,by omega,hid (by
         have h1:=HSK.out _ H3.out;rw[HA.out.2.1];rw[if_neg HB0.out]at h1;exact h1)⟩
   | some en=>
     have HEE:=hid he;clear he CS;go_wp2_with (first
      | (go_at_call 53;refine CE.out.mono ?_;rintro e w3 ⟨⟨W,A2,n2,c2,ok,rfl,hok,hen⟩,hb3⟩;have hok2:ok=true:=(by rw[hok,HEE.out];rfl);subst hok2;obtain⟨hW,hn2,hr2⟩:=hen en HEE.out;have HR:=hid (And.intro (HA.out.2.2.trans (hb3.mono HA.out.2.2.size)) (And.intro hW (And.intro hn2 (own_less hr2 HA.out.2.2.size))));have hrow:=((HK.out.q.keep HR.out.1).row.alloc (.cells #[.string W,.slice A2 n2 c2] 99)).alloc (.cells #[.string W,.slice A2 n2 c2] 99);rw[HK.out.len]at hrow;have HROW:=hid hrow;have HS2:=hid (show w.heap.size≤((w3.alloc (.cells #[.string W,.slice A2 n2 c2] 99)).alloc (.cells #[.string W,.slice A2 n2 c2] 99)).heap.size by rw[World.size_alloc,World.size_alloc];have:=(HK.out.q.keep HR.out.1).below.size;omega);clear hok hen hb3 hW hn2 hr2 hrow)
      | (at_builtin;refine wpList_append_where _ rfl _ _ 60 rfl w.heap.size 99 i1 (.agg #[.string ⟨#[]⟩,.slice none 0 0]) 2 40 Tryz.underlying60 hi1 hz10 hz11 hz12 rfl (by decide) (.slice MA m mc) m xs rfl HROW.out ⟨w3.heap.size+1,0,none⟩ 1 1 [.string W,.slice A2 n2 c2] rfl rfl (news_row2 _ _ _ _) (en_one _ _ _ _) (by unfold maxLen;omega) (by omega) HS2.out ?_))
     intro v' w4 hown4 hgrow4 hwh4;have HQ4:=hid (HK.out.push HS.out HEE.out HR.out.1 HR.out.2.1 HR.out.2.2.1 HR.out.2.2.2 (((Below.refl w3.heap.size w3).alloc (Nat.le_refl _) _).alloc (by rw[World.size_alloc];omega) _) hown4 hgrow4 (hwh4.imp id fun h g hg=>by rw[World.size_alloc,World.size_alloc];exact h g hg));obtain⟨A4,c4,rfl⟩:=own_shape hown4;clear hown4 hgrow4 hwh4;by_cases hfull:m+1≤2000
     ·have e4:¬(2000:Int)<((m+1:Nat):Int):=by omega
      go_wp2_with fail;go_roundg r.size
      case measure=>omega
      case rel=>exact⟨r,_,k+1,b,m+1,rfl,rfl,by go_num,rfl,hfull,by omega,hid (by rw[HA.out.2.1];exact HQ4.out)⟩
     ·have e4:(2000:Int)<((m+1:Nat):Int):=by omega
      have HZ:=hid (show parseE s=([],0,3)by
       rw[HP.out];exact badE_end (k:=k+1) (by rw[HQ4.out.len];omega))
      have HB4:=hid HQ4.out.q.below;go_wp2_with fail;go_ret3;exact PAns.no HZ.out HB4.out
end Go.Proofs.YtfehpcbmdancoaaGreatDoor.Ls
