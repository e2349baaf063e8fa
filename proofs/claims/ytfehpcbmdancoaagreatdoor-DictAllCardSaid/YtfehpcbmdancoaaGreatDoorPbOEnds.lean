/- cond's Starts and Ends by contract. -/
import Derived.Lib.Strings
import Derived.Test.YtfehpcbmdancoaaGreatDoorPbOBuild
import Derived.Test.YtfehpcbmdancoaaGreatDoorPbOFun
import Derived.Test.YtfehpcbmdancoaaGreatDoorPbRPlain
import Derived.Test.YtfehpcbmdancoaaGreatDoorPbUnit
namespace Go.Proofs.YtfehpcbmdancoaaGreatDoor
open Go Go.RowKit
set_option maxRecDepth 100000 in
set_option maxHeartbeats 4000000 in
theorem cstarts_any (w:World)(v vc:Value)(l:List It)(cs:List Int)(h:ItemsAt w v l)(hc:IntsAt w vc cs)(hl:l.length≤1000000000000):
  Calls Tryz.prog 247 #[v,vc] w fun e w'=>e= .returned (.bool (startsP l cs))∧Below w.heap.size w w':=by
 have hbig:=items_bd h
 have hbig2:=ints_bd hc
 have C1:=Lib.hid (checks_any w v l h hl)
 have HC:=Lib.hid hc
 obtain⟨A,cap,rfl,-⟩:=items_openO h
 obtain⟨A',cap',rfl,-⟩:=ints_open hc
 clear h hc
 by_cases hle:l.length≤cs.length
 ·have hd:startsP l cs=((l.zip cs).all fun x=>hasP x.1 x.2):=by unfold startsP;rw[decide_eq_true hle];rfl
  rw[hd]
  have C2:=Lib.hid fun wx vx (hf:FunsAt w wx vx l) (hb:Below w.heap.size w wx)=>hold_any w wx vx _ l cs hf (HC.out.keep hb) hle hb
  have hz:(l.length:Int)≤cs.length:=by omega
  clear hd hle
  go_enter Tryz.func247,Tryz.ntmps247
  go_wp2_with (first
   | (go_at_call 265;refine C1.out.mono ?_;rintro e w1 ⟨v1,rfl,hf1,hb1⟩;have H1:=Lib.hid (And.intro hf1 hb1);clear hf1 hb1)
   | (go_at_call 264;refine(C2.out _ _ H1.out.1 H1.out.2).mono ?_;rintro e w2 ⟨rfl,hb2⟩;have H2:=Lib.hid (H1.out.2.trans (hb2.mono H1.out.2.size));clear hb2))
  go_ret
  exact⟨rfl,H2.out⟩
 ·have hd:startsP l cs=false:=by unfold startsP;rw[decide_eq_false hle];rfl
  rw[hd]
  have hz:¬(l.length:Int)≤cs.length:=by omega
  clear hd hle C1
  go_enter Tryz.func247,Tryz.ntmps247
  go_wp2
  go_ret
  exact⟨rfl,Below.refl _ _⟩
theorem ints_last {w:World}{A:Option Addr}{cap:Nat}{cs:List Int}(h:IntsAt w (.slice A cs.length cap) cs)(k:Nat)(hk:k≤cs.length)(hlt:k<cs.length):∃b off,A=some ⟨b,off,none⟩∧k<cap∧cs.length≤cap∧IntsAt w (.slice (some ⟨b,off+k,none⟩) (cs.length-k) (cap-k)) (cs.drop k):=by
 obtain⟨rfl,_⟩|⟨b,off,cp,e,h1,h2,h3,h4⟩:=h
 ·simp at hlt
 ·injection e with e1 e2 e3
  subst e1
  subst e3
  have:=ints_part (cs:=cs) h1 h3 h4 k (cs.length-k) (n:=cs.length-k) (by rw[List.length_take,List.length_drop,Nat.min_self]) (by omega)
  rw[List.take_of_length_le (by rw[List.length_drop];exact Nat.le_refl _)]at this
  exact⟨b,off,rfl,by omega,h2,this⟩
set_option maxRecDepth 100000 in
set_option maxHeartbeats 4000000 in
theorem cends_any (w:World)(v vc:Value)(l:List It)(cs:List Int)(h:ItemsAt w v l)(hc:IntsAt w vc cs)(hl:l.length≤1000000000000):
  Calls Tryz.prog 248 #[v,vc] w fun e w'=>e= .returned (.bool (endsP l cs))∧Below w.heap.size w w':=by
 have hbig:=items_bd h
 have hbig2:=ints_bd hc
 have C1:=Lib.hid (fun m=>checks_any (w.drewN m) v l (h.keep (below_drewN (Below.refl _ _) m)) hl)
 have HC:=Lib.hid hc
 obtain⟨A,cap,rfl,-⟩:=items_openO h
 obtain⟨A',cap',rfl,-⟩:=ints_open hc
 clear h hc
 by_cases hle:l.length≤cs.length
 ·have hd:endsP l cs=((l.zip (cs.drop (cs.length-l.length))).all fun x=>hasP x.1 x.2):=by
   unfold endsP startsP
   rw[decide_eq_true hle,decide_eq_true (by rw[List.length_drop];omega)]
   rfl
  rw[hd]
  clear hd
  have HD:=Lib.hid (below_drewN (Below.refl w.heap.size w) 1)
  have C2:=Lib.hid fun wx vx v2 (hf:FunsAt (w.drewN 1) wx vx l) (hi:IntsAt wx v2 (cs.drop (cs.length-l.length))) (hb:Below (w.drewN 1).heap.size (w.drewN 1) wx)=>hold_any (w.drewN 1) wx vx v2 l (cs.drop (cs.length-l.length)) hf hi (by rw[List.length_drop];omega) hb
  rcases Nat.eq_zero_or_pos l.length with h0|h0
  ·have hnil:l=[]:=List.eq_nil_of_length_eq_zero h0
   have hdr:cs.drop (cs.length-l.length)=[]:=by rw[h0,Nat.sub_zero,List.drop_length]
   have hz:decide (l.length≤cs.length)=true:=decide_eq_true hle
   have HI:=Lib.hid (fun wx a c=>(show IntsAt wx (.slice a 0 c) (cs.drop (cs.length-l.length))from .inl ⟨hdr,a,c,rfl⟩))
   have HA:=Lib.hid (show cs.length≤cap'∨cs.length=0 by
    rcases HC.out with ⟨e,_⟩|⟨b,off,cp,e,h1,h2,h3,h4⟩
    ·right;rw[e];rfl
    ·left;injection e with e1 e2 e3;omega)
   have HA2:=Lib.hid (show cs.length=0∨∃b off,A'=some ⟨b,off,none⟩by
    rcases HC.out with ⟨e,_⟩|⟨b,off,cp,e,h1,h2,h3,h4⟩
    ·left;rw[e];rfl
    ·right;injection e with e1 e2 e3;exact⟨b,off,e1⟩)
   clear hle hdr
   subst hnil
   simp only[List.length_nil]at hz⊢C1
   obtain⟨m,hm⟩:∃m,m=cs.length:=⟨_,rfl⟩
   rw[←hm]at hz hbig2 HA HA2⊢
   have e1:(m:Int)-0=m:=by omega
   have e2:IntKind.i64.wrap (m:Int)=m:=IntWalk.i64_in _ (by omega)
   have g0:(0:Int)≤m:=by omega
   have g5:(m:Int)≤m:=by omega
   clear hm
   have g6:m≤cap':=by have:=HA.out;omega
   have e3:m-m=0:=by omega
   have gz:decide (m≤m)=true:=decide_eq_true (by omega)
   rcases A' with _|⟨b,off,ix⟩
   ·by_cases h1:cap'=m
    ·subst h1
     go_enter Tryz.func248,Tryz.ntmps248
     go_wp2_with fail
     go_region_held3 (fun wx=>True)
      (trivial)
      (first
       | (go_at_call 265;refine(C1.out 1).mono ?_;rintro e w1 ⟨v1,rfl,hf1,hb1⟩;have H1:=Lib.hid (And.intro hf1 (And.intro hb1 (HD.out.trans (hb1.mono HD.out.size))));clear hf1 hb1)
       | (go_at_call 264;refine(C2.out _ _ _ H1.out.1 (HI.out _ _ _) H1.out.2.1).mono ?_;rintro e w2 ⟨rfl,hb2⟩;have H2:=Lib.hid (H1.out.2.2.trans (hb2.mono H1.out.2.2.size));clear hb2))
     go_wp2_with fail
     go_ret
     exact⟨rfl,H2.out⟩
    ·skip
     go_enter Tryz.func248,Tryz.ntmps248
     go_wp2_with fail
     go_region_held3 (fun wx=>True)
      (trivial)
      (first
       | (go_at_call 265;refine(C1.out 1).mono ?_;rintro e w1 ⟨v1,rfl,hf1,hb1⟩;have H1:=Lib.hid (And.intro hf1 (And.intro hb1 (HD.out.trans (hb1.mono HD.out.size))));clear hf1 hb1)
       | (go_at_call 264;refine(C2.out _ _ _ H1.out.1 (HI.out _ _ _) H1.out.2.1).mono ?_;rintro e w2 ⟨rfl,hb2⟩;have H2:=Lib.hid (H1.out.2.2.trans (hb2.mono H1.out.2.2.size));clear hb2))
     go_wp2_with fail
     go_ret
     exact⟨rfl,H2.out⟩
   ·by_cases h1:cap'=m
    ·subst h1
     go_enter Tryz.func248,Tryz.ntmps248
     go_wp2_with fail
     go_region_held3 (fun wx=>True)
      (trivial)
      (first
       | (go_at_call 265;refine(C1.out 1).mono ?_;rintro e w1 ⟨v1,rfl,hf1,hb1⟩;have H1:=Lib.hid (And.intro hf1 (And.intro hb1 (HD.out.trans (hb1.mono HD.out.size))));clear hf1 hb1)
       | (go_at_call 264;refine(C2.out _ _ _ H1.out.1 (HI.out _ _ _) H1.out.2.1).mono ?_;rintro e w2 ⟨rfl,hb2⟩;have H2:=Lib.hid (H1.out.2.2.trans (hb2.mono H1.out.2.2.size));clear hb2))
     go_wp2_with fail
     go_ret
     exact⟨rfl,H2.out⟩
    ·skip
     go_enter Tryz.func248,Tryz.ntmps248
     go_wp2_with fail
     go_region_held3 (fun wx=>True)
      (trivial)
      (first
       | (go_at_call 265;refine(C1.out 1).mono ?_;rintro e w1 ⟨v1,rfl,hf1,hb1⟩;have H1:=Lib.hid (And.intro hf1 (And.intro hb1 (HD.out.trans (hb1.mono HD.out.size))));clear hf1 hb1)
       | (go_at_call 264;refine(C2.out _ _ _ H1.out.1 (HI.out _ _ _) H1.out.2.1).mono ?_;rintro e w2 ⟨rfl,hb2⟩;have H2:=Lib.hid (H1.out.2.2.trans (hb2.mono H1.out.2.2.size));clear hb2))
     go_wp2_with fail
     go_ret
     exact⟨rfl,H2.out⟩
  ·obtain⟨b,off,rfl,hk,g4,hi⟩:=ints_last HC.out (cs.length-l.length) (by omega) (by omega)
   have hz:decide (l.length≤cs.length)=true:=decide_eq_true hle
   obtain⟨k,hkk⟩:∃k,k=cs.length-l.length:=⟨_,rfl⟩
   have e1:(cs.length:Int)-l.length=k:=by omega
   have hi2:cs.length-k=l.length:=by omega
   rw[←hkk]at hk hi C2⊢
   rw[hi2]at hi
   have HI:=Lib.hid hi
   have e2:IntKind.i64.wrap (k:Int)=k:=by exact IntWalk.i64_in _ (by omega)
   have g0:(0:Int)≤k:=by omega
   have g1:(k:Int)≤cs.length:=by omega
   have g3:(k:Int)≤cap':=by omega
   have g2:¬cap'=k:=by omega
   have HK:=Lib.hid hkk
   clear hkk hi
   go_enter Tryz.func248,Tryz.ntmps248
   go_wp2_with fail
   go_region_held3 (fun wx=>True)
    (trivial)
    (first
     | (go_at_call 265;refine(C1.out 1).mono ?_;rintro e w1 ⟨v1,rfl,hf1,hb1⟩;have H1:=Lib.hid (And.intro hf1 (And.intro hb1 (HD.out.trans (hb1.mono HD.out.size))));clear hf1 hb1)
     | (go_at_call 264;refine(C2.out _ _ _ H1.out.1 (HI.out.keep H1.out.2.2) H1.out.2.1).mono ?_;rintro e w2 ⟨rfl,hb2⟩;have H2:=Lib.hid (H1.out.2.2.trans (hb2.mono H1.out.2.2.size));clear hb2))
   go_wp2_with fail
   go_ret
   exact⟨rfl,H2.out⟩
 ·have hd:endsP l cs=false:=by unfold endsP;rw[decide_eq_false hle];rfl
  rw[hd]
  have hz:decide (l.length≤cs.length)=false:=decide_eq_false hle
  clear hd hle C1
  go_enter Tryz.func248,Tryz.ntmps248
  go_wp2_with fail
  go_quiet (fail)
  go_wp2_with fail
  go_ret
  exact⟨rfl,below_drewN (Below.refl _ _) _⟩
end Go.Proofs.YtfehpcbmdancoaaGreatDoor
namespace Go.Proofs.YtfehpcbmdancoaaGreatDoor
open Go Go.RowKit Go.Lib
def restOf (r:Ru)(wd:ByteArray):ByteArray:=if r.pre then ⟨(Lib.trimPrefix wd.data.toList r.strip.data.toList).toArray⟩else ⟨(Lib.trimSuffix wd.data.toList r.strip.data.toList).toArray⟩
def thereB (r:Ru)(wd:ByteArray):Bool:=if r.pre then Lib.hasPrefix wd.data.toList r.strip.data.toList else Lib.hasSuffix wd.data.toList r.strip.data.toList
def allowB (r:Ru)(wd:ByteArray):Bool:=match codesB wd.data.toList with
 | none=>false
 | some cs=>if r.pre then startsP r.cond cs else endsP r.cond cs
def withB (r:Ru)(s:ByteArray):ByteArray:=if r.pre then r.add++s else s++r.add
theorem r_ext (s:ByteArray)(a b:Nat):s.extract a b=⟨((s.data.toList.drop a).take (b-a)).toArray⟩:=by
 rw[←r_mk (s.extract a b),ByteArray.data_extract,Array.toList_extract]
theorem r_eq {a b:List UInt8}:((⟨a.toArray⟩:ByteArray)=⟨b.toArray⟩)↔a=b:=by
 refine⟨fun h=>?_,fun h=>by rw[h]⟩
 have:=congrArg (fun x:ByteArray=>x.data.toList) h
 simpa using this
theorem pre_says (wd s:ByteArray):Lib.hasPrefix wd.data.toList s.data.toList=decide (s.size≤wd.size∧wd.extract 0 s.size=s):=by
 rw[Bool.eq_iff_iff,decide_eq_true_eq]
 unfold Lib.hasPrefix
 rw[List.isPrefixOf_iff_prefix,r_ext,Lib.size_eq,Lib.size_eq]
 conv=>rhs;rw[←r_mk s]
 rw[r_eq,List.drop_zero,Nat.sub_zero]
 simp only
 constructor
 ·intro h
  exact⟨h.length_le,(List.prefix_iff_eq_take.1 h).symm⟩
 ·rintro⟨_,h⟩
  exact List.prefix_iff_eq_take.2 h.symm
theorem suf_says (wd s:ByteArray):Lib.hasSuffix wd.data.toList s.data.toList=decide (s.size≤wd.size∧wd.extract (wd.size-s.size) wd.size=s):=by
 rw[Bool.eq_iff_iff,decide_eq_true_eq]
 unfold Lib.hasSuffix
 rw[List.isSuffixOf_iff_suffix,r_ext,Lib.size_eq,Lib.size_eq]
 conv=>rhs;rw[←r_mk s]
 rw[r_eq,List.take_of_length_le (by rw[List.length_drop];exact Nat.le_refl _)]
 simp only
 constructor
 ·intro h
  exact⟨h.length_le,(List.suffix_iff_eq_drop.1 h).symm⟩
 ·rintro⟨_,h⟩
  exact List.suffix_iff_eq_drop.2 h.symm
theorem apply_says (r:Ru)(wd:ByteArray):applyR r wd=if thereB r wd=true∧allowB r wd=true then withB r (restOf r wd)else ⟨#[]⟩:=by
 unfold applyR thereB allowB withB restOf
 cases hc:codesB wd.data.toList with
 | none=>simp
 | some cs=>
   dsimp only
   cases hp:r.pre with
   | true=>
     simp only[if_true]
     rw[pre_says]
     by_cases h:r.strip.size≤wd.size∧wd.extract 0 r.strip.size=r.strip
     ·rw[decide_eq_true h]
      by_cases h2:startsP r.cond cs=true
      ·rw[if_pos ⟨h.1,h.2,h2⟩,if_pos ⟨rfl,h2⟩]
       congr 1
       have hpre:=pre_says wd r.strip
       rw[decide_eq_true h]at hpre
       unfold Lib.trimPrefix
       rw[if_pos hpre,r_ext,List.take_of_length_le (by rw[List.length_drop,Lib.size_eq];exact Nat.le_refl _),Lib.size_eq r.strip]
      ·rw[if_neg (fun h3=>h2 h3.2.2),if_neg (fun h3=>h2 h3.2)]
     ·rw[decide_eq_false h,if_neg (fun h3=>h ⟨h3.1,h3.2.1⟩),if_neg (by simp)]
   | false=>
     simp only[Bool.false_eq_true,if_false]
     rw[suf_says]
     by_cases h:r.strip.size≤wd.size∧wd.extract (wd.size-r.strip.size) wd.size=r.strip
     ·rw[decide_eq_true h]
      by_cases h2:endsP r.cond cs=true
      ·rw[if_pos ⟨h.1,h.2,h2⟩,if_pos ⟨rfl,h2⟩]
       congr 1
       have hsuf:=suf_says wd r.strip
       rw[decide_eq_true h]at hsuf
       unfold Lib.trimSuffix
       rw[if_pos hsuf,r_ext,List.drop_zero,Nat.sub_zero,Lib.size_eq r.strip,Lib.size_eq wd]
      ·rw[if_neg (fun h3=>h2 h3.2.2),if_neg (fun h3=>h2 h3.2)]
     ·rw[decide_eq_false h,if_neg (fun h3=>h ⟨h3.1,h3.2.1⟩),if_neg (by simp)]
theorem rest_size (r:Ru)(wd:ByteArray):(restOf r wd).size≤wd.size:=by
 unfold restOf Lib.trimPrefix Lib.trimSuffix
 have h:∀l:List UInt8,(⟨l.toArray⟩:ByteArray).size=l.length:=fun l=>by show l.toArray.size=_;rw[List.size_toArray]
 rw[Lib.size_eq wd]
 split
 ·rw[h];split<;>simp
 ·rw[h];split<;>simp
theorem r_okB (s:ByteArray):okB s= !s.toList.isEmpty:=by
 unfold okB
 rw[r_toL,Bool.eq_iff_iff,decide_eq_true_eq,Lib.size_eq]
 cases s.data.toList<;>simp
theorem r_codes (l:List UInt8):(codesB l).isSome=validD l∧(codesB l).getD []=codesL l:=by
 unfold codesB codesL
 cases validD l<;>simp
set_option maxRecDepth 100000 in
set_option maxHeartbeats 2000000 in
theorem rwithout_any (w:World)(v:Value)(r:Ru)(wd:ByteArray)(h:RuAt w v r)(hw:wd.size≤1000000000):
  Calls Tryz.prog 218 #[v,.string wd] w fun e w'=>e= .returned (.tuple #[.string (restOf r wd),.bool (thereB r wd)])∧Below w.heap.size w w':=by
 obtain⟨A,cap,rfl,-⟩:=h
 have HB:=Lib.hid ((Below.refl w.heap.size w).alloc (Nat.le_refl _) (.cells #[.bool r.pre,.int .i64 r.flag,.bool r.cross,.string r.strip,.string r.add,.slice A r.cond.length cap] 123))
 obtain⟨n,hn⟩:∃n,n=r.cond.length:=⟨_,rfl⟩
 rw[←hn]at HB⊢
 clear hn
 obtain⟨pre,flag,cross,strip,add,cond⟩:=r
 have CP:=Lib.hid (fun wx=>Tryz.strings_CutPrefix wd strip wx)
 have CS:=Lib.hid (fun wx=>Tryz.strings_CutSuffix wd strip wx (by omega))
 unfold restOf thereB
 dsimp only at HB⊢
 cases pre with
 | true=>
   go_enter Tryz.func218,Tryz.ntmps218
   go_wp2_with (go_at_call 142;refine(CP.out _).mono ?_;rintro e w1 ⟨rfl,rfl⟩)
   go_ret2
   exact⟨rfl,HB.out⟩
 | false=>
   go_enter Tryz.func218,Tryz.ntmps218
   go_wp2_with (go_at_call 246;refine(CS.out _).mono ?_;rintro e w1 ⟨rfl,rfl⟩)
   go_ret2
   exact⟨rfl,HB.out⟩
theorem r_own {w:World}{B n:Nat}{v:Value}{cs:List Int}(h:w.ownsRow B 3 1 v n (cs.map (Value.int .i64)))(hn:n=cs.length):IntsAt w v cs:=by
 subst hn
 have hadd:∀(g j:Nat),(⟨g,0,none⟩:Addr).add j=⟨g,j,none⟩:=fun g j=>by unfold Addr.add;split<;>simp_all
 have hc:= @World.ownsRow.cells _ _ _ _ _ _ _ h
 rcases h.2 with ⟨rfl,h0⟩|⟨g,cap,cur,rfl,hb,hg,hnc,hcm,_⟩
 ·exact .inl ⟨List.eq_nil_of_length_eq_zero h0,_,_,rfl⟩
 ·refine .inr ⟨g,0,cap,rfl,(Array.getElem?_eq_some_iff.1 hg).1,hnc,hcm,fun i c hi=>?_⟩
  rw[Nat.zero_add,←hadd]
  exact hc (g:=g) rfl i _ (by rw[List.getElem?_map,hi];rfl)
set_option maxRecDepth 100000 in
set_option maxHeartbeats 4000000 in
theorem rallows_any (w:World)(v:Value)(r:Ru)(wd:ByteArray)(h:RuAt w v r)(hf:FitR r)(hw:wd.size≤1000000000)(hT:Lib.Utf8Tabs 1 2 w):
  Calls Tryz.prog 219 #[v,.string wd] w fun e w'=>e= .returned (.bool (allowB r wd))∧Below w.heap.size w w':=by
 obtain⟨A,cap,rfl,hi⟩:=h
 have hB0:=(Below.refl w.heap.size w).alloc (Nat.le_refl _) (.cells #[.bool r.pre,.int .i64 r.flag,.bool r.cross,.string r.strip,.string r.add,.slice A r.cond.length cap] 123)
 have CC:=Lib.hid (codes_any wd _ (by omega) (tabs_below hT hB0))
 have HB:=Lib.hid hB0
 have CS:=Lib.hid (fun wx vc cs (hb:Below w.heap.size w wx) (hc:IntsAt wx vc cs)=>cstarts_any wx _ vc r.cond cs (hi.keep hb) hc (by have:=hf.items;omega))
 have CE:=Lib.hid (fun wx vc cs (hb:Below w.heap.size w wx) (hc:IntsAt wx vc cs)=>cends_any wx _ vc r.cond cs (hi.keep hb) hc (by have:=hf.items;omega))
 obtain⟨n,hn⟩:∃n,n=r.cond.length:=⟨_,rfl⟩
 rw[←hn]at HB CC CS CE⊢
 obtain⟨e1,e2⟩:=r_codes wd.data.toList
 unfold allowB
 obtain⟨pre,flag,cross,strip,add,cond⟩:=r
 dsimp only at HB CC CS CE⊢
 cases hcb:codesB wd.data.toList with
 | none=>
   rw[hcb]at e1
   rw[←e1]at CC
   clear hi hf hT hB0 hn e1 e2 hcb CS CE
   cases pre with
   | true=>
     go_enter Tryz.func219,Tryz.ntmps219
     go_wp2_with (go_at_call 143;refine CC.out.mono ?_)
     rintro e w1 ⟨v1,rfl,-,hb⟩
     obtain⟨x0,x1,x2,x3,x4,x5⟩:=box6 hb
     have HB1:=Lib.hid (HB.out.trans (hb.mono HB.out.size))
     clear hb
     go_wp2_with fail
     go_ret
     exact⟨rfl,HB1.out⟩
   | false=>
     go_enter Tryz.func219,Tryz.ntmps219
     go_wp2_with (go_at_call 143;refine CC.out.mono ?_)
     rintro e w1 ⟨v1,rfl,-,hb⟩
     obtain⟨x0,x1,x2,x3,x4,x5⟩:=box6 hb
     have HB1:=Lib.hid (HB.out.trans (hb.mono HB.out.size))
     clear hb
     go_wp2_with fail
     go_ret
     exact⟨rfl,HB1.out⟩
 | some cs=>
   rw[hcb]at e1 e2
   rw[←e1,←e2]at CC
   simp only[Option.getD_some,Option.isSome_some]at CC
   clear hi hf hT hB0 hn e1 e2 hcb
   dsimp only
   cases pre with
   | true=>
     obtain⟨b,hb⟩:∃b,b=startsP cond cs:=⟨_,rfl⟩
     have CS2:=Lib.hid (fun wx vc hb1 hc1=>CS.out wx vc cs hb1 hc1)
     rw[←hb]at CS2
     simp only[if_true]
     rw[←hb]
     clear hb CS CE
     go_enter Tryz.func219,Tryz.ntmps219
     go_wp2_with (go_at_call 143;refine CC.out.mono ?_)
     rintro e w1 ⟨v1,rfl,hown,hb⟩
     have hin:=r_own hown rfl
     obtain⟨B,bc,rfl,-⟩:=ints_open hin
     obtain⟨x0,x1,x2,x3,x4,x5⟩:=box6 hb
     have HB1:=Lib.hid (HB.out.trans (hb.mono HB.out.size))
     have CS3:=Lib.hid (CS2.out w1 _ HB1.out hin)
     obtain⟨m,hm⟩:∃m,m=cs.length:=⟨_,rfl⟩
     rw[←hm]at CS3⊢
     clear hb hown hin CS2 hm
     go_wp2_with (go_at_call 247;refine CS3.out.mono ?_;rintro e w2 ⟨rfl,hb⟩;have HB2:=Lib.hid (HB1.out.trans (hb.mono HB1.out.size));clear hb)
     go_ret
     exact⟨rfl,HB2.out⟩
   | false=>
     obtain⟨b,hb⟩:∃b,b=endsP cond cs:=⟨_,rfl⟩
     have CS2:=Lib.hid (fun wx vc hb1 hc1=>CE.out wx vc cs hb1 hc1)
     rw[←hb]at CS2
     simp only[Bool.false_eq_true,if_false]
     rw[←hb]
     clear hb CS CE
     go_enter Tryz.func219,Tryz.ntmps219
     go_wp2_with (go_at_call 143;refine CC.out.mono ?_)
     rintro e w1 ⟨v1,rfl,hown,hb⟩
     have hin:=r_own hown rfl
     obtain⟨B,bc,rfl,-⟩:=ints_open hin
     obtain⟨x0,x1,x2,x3,x4,x5⟩:=box6 hb
     have HB1:=Lib.hid (HB.out.trans (hb.mono HB.out.size))
     have CS3:=Lib.hid (CS2.out w1 _ HB1.out hin)
     obtain⟨m,hm⟩:∃m,m=cs.length:=⟨_,rfl⟩
     rw[←hm]at CS3⊢
     clear hb hown hin CS2 hm
     go_wp2_with (go_at_call 248;refine CS3.out.mono ?_;rintro e w2 ⟨rfl,hb⟩;have HB2:=Lib.hid (HB1.out.trans (hb.mono HB1.out.size));clear hb)
     go_ret
     exact⟨rfl,HB2.out⟩
set_option maxRecDepth 100000 in
set_option maxHeartbeats 4000000 in
theorem rapp_any (w:World)(v:Value)(r:Ru)(wd:ByteArray)(h:RuAt w v r)(hf:FitR r)(hw:wd.size≤1000000000)(hT:Lib.Utf8Tabs 1 2 w):
  Calls Tryz.prog 161 #[v,.string wd] w fun e w'=>e= .returned (.tuple #[.string (applyR r wd),.bool (okB (applyR r wd))])∧Below w.heap.size w w':=by
 have h0:=h
 obtain⟨A,cap,rfl,-⟩:=h
 obtain⟨n,hn⟩:∃n,n=r.cond.length:=⟨_,rfl⟩
 rw[←hn]at h0⊢
 have hB0:=(Below.refl w.heap.size w).alloc (Nat.le_refl _) (.cells #[.bool r.pre,.int .i64 r.flag,.bool r.cross,.string r.strip,.string r.add,.slice A n cap] 123)
 have HB:=Lib.hid hB0
 have CO:=Lib.hid (fun wx (hb:Below w.heap.size w wx)=>rwithout_any wx _ r wd (h0.keep hb) hw)
 have CA:=Lib.hid (fun wx (hb:Below w.heap.size w wx)=>rallows_any wx _ r wd (h0.keep hb) hf hw (tabs_below hT hb))
 have hrs:=rest_size r wd
 have CW:=Lib.hid (fun wx (hb:Below w.heap.size w wx)=>rwith_any wx _ r (restOf r wd) (h0.keep hb) (by omega) (by have:=hf.add;omega))
 have hap:=apply_says r wd
 rw[show (if r.pre then r.add++restOf r wd else restOf r wd++r.add)=withB r (restOf r wd)from rfl]at CW
 obtain⟨R,hR⟩:∃R,R=applyR r wd:=⟨_,rfl⟩
 obtain⟨X,hX⟩:∃X,X=restOf r wd:=⟨_,rfl⟩
 obtain⟨Z,hZ⟩:∃Z,Z=withB r X:=⟨_,rfl⟩
 obtain⟨b1,h1⟩:∃b,b=thereB r wd:=⟨_,rfl⟩
 obtain⟨b2,h2⟩:∃b,b=allowB r wd:=⟨_,rfl⟩
 rw[←hX]at CW CO hap
 rw[←hZ]at CW hap
 rw[←h1]at CO hap
 rw[←h2]at CA hap
 rw[←hR]at hap⊢
 have BX:=Lib.hid (show∀wx,Below (w.alloc (.cells #[.bool r.pre,.int .i64 r.flag,.bool r.cross,.string r.strip,.string r.add,.slice A n cap] 123)).heap.size (w.alloc (.cells #[.bool r.pre,.int .i64 r.flag,.bool r.cross,.string r.strip,.string r.add,.slice A n cap] 123)) wx→_ from fun wx hb=>box6 hb)
 obtain⟨pre,flag,cross,strip,add,cond⟩:=r
 dsimp only at HB CO CA CW BX⊢
 clear h0 hf hT hn hB0 hrs hX hZ h1 h2 hR
 go_enter Tryz.func161,Tryz.ntmps161
 go_wp2_with (go_at_call 218;refine(CO.out _ HB.out).mono ?_)
 rintro e w1 ⟨rfl,hb⟩
 have HX:=Lib.hid hb
 obtain⟨x0,x1,x2,x3,x4,x5⟩:=BX.out w1 hb
 have HB1:=Lib.hid (HB.out.trans (hb.mono HB.out.size))
 clear hb
 cases b1 with
 | false=>
   have hz:R=⟨#[]⟩:=by rw[hap,if_neg (by simp)]
   subst hz
   clear hap
   go_wp2_with fail
   go_ret2
   exact⟨rfl,HB1.out⟩
 | true=>
   go_wp2_with (go_at_call 219;refine(CA.out _ HB1.out).mono ?_)
   rintro e w2 ⟨rfl,hb⟩
   have HX2:=Lib.hid (HX.out.trans (hb.mono HX.out.size))
   clear x0 x1 x2 x3 x4 x5
   obtain⟨x0,x1,x2,x3,x4,x5⟩:=BX.out w2 HX2.out
   have HB2:=Lib.hid (HB1.out.trans (hb.mono HB1.out.size))
   clear hb
   cases b2 with
   | false=>
     have hz:R=⟨#[]⟩:=by rw[hap,if_neg (by simp)]
     subst hz
     clear hap
     go_wp2_with fail
     go_ret2
     exact⟨rfl,HB2.out⟩
   | true=>
     have hz:R=Z:=by rw[hap,if_pos (by simp)]
     subst hz
     clear hap
     go_wp2_with (go_at_call 220;refine(CW.out _ HB2.out).mono ?_)
     rintro e w3 ⟨rfl,hb⟩
     have HB3:=Lib.hid (HB2.out.trans (hb.mono HB2.out.size))
     clear hb
     go_wp2_with fail
     go_ret2
     exact⟨by rw[r_okB];rfl,HB3.out⟩
set_option maxRecDepth 100000 in
set_option maxHeartbeats 2000000 in
theorem rapplies_any (w:World)(v:Value)(r:Ru)(wd:ByteArray)(h:RuAt w v r)(hf:FitR r)(hw:wd.size≤1000000000)(hT:Lib.Utf8Tabs 1 2 w):
  Calls Tryz.prog 222 #[v,.string wd] w fun e w'=>e= .returned (.bool (okB (applyR r wd)))∧Below w.heap.size w w':=by
 have h0:=h
 obtain⟨A,cap,rfl,-⟩:=h
 obtain⟨n,hn⟩:∃n,n=r.cond.length:=⟨_,rfl⟩
 rw[←hn]at h0⊢
 have hB0:=(Below.refl w.heap.size w).alloc (Nat.le_refl _) (.cells #[.bool r.pre,.int .i64 r.flag,.bool r.cross,.string r.strip,.string r.add,.slice A n cap] 123)
 have HB:=Lib.hid hB0
 have C:=Lib.hid (rapp_any _ _ r wd (h0.keep hB0) hf hw (tabs_below hT hB0))
 obtain⟨R,hR⟩:∃R,R=applyR r wd:=⟨_,rfl⟩
 obtain⟨b,hb⟩:∃b,b=okB R:=⟨_,rfl⟩
 rw[←hR]at C⊢
 rw[←hb]at C⊢
 obtain⟨pre,flag,cross,strip,add,cond⟩:=r
 dsimp only at HB C⊢
 clear h0 hf hT hn hB0 hR hb
 go_enter Tryz.func222,Tryz.ntmps222
 go_wp2_with (go_at_call 161;refine C.out.mono ?_)
 rintro e w1 ⟨rfl,hb⟩
 have HB1:=Lib.hid (HB.out.trans (hb.mono HB.out.size))
 clear hb
 go_wp2_with fail
 go_ret
 exact⟨rfl,HB1.out⟩
end Go.Proofs.YtfehpcbmdancoaaGreatDoor
namespace Go.Proofs.YtfehpcbmdancoaaGreatDoor
open Go Go.RowKit Go.Lib
theorem both_no {p s:Ru}{wd:ByteArray}(h:¬((p.pre&& !s.pre&&p.cross&&s.cross)=true∧p.strip.size+s.strip.size≤wd.size∧okB (applyR p wd)=true∧okB (applyR s wd)=true)):bothR p s wd=⟨#[]⟩:=by
 unfold bothR
 refine if_neg fun h2=>h ?_
 obtain⟨h3,h4,h5,h6,h7,h8,h9⟩:=h2
 refine⟨by rw[h3,h4,h5,h6];rfl,h9,decide_eq_true h7,decide_eq_true h8⟩
theorem both_yes {p s:Ru}{wd:ByteArray}(h1:(p.pre&& !s.pre&&p.cross&&s.cross)=true)(h2:p.strip.size+s.strip.size≤wd.size)(h3:okB (applyR p wd)=true)(h4:okB (applyR s wd)=true):
  bothR p s wd=p.add++wd.extract p.strip.size (wd.size-s.strip.size)++s.add:=by
 unfold bothR
 simp only[Bool.and_eq_true,Bool.not_eq_true']at h1
 exact if_pos ⟨h1.1.1.1,h1.1.1.2,h1.1.2,h1.2,of_decide_eq_true h3,of_decide_eq_true h4,h2⟩
set_option maxRecDepth 100000 in
set_option maxHeartbeats 8000000 in
theorem rul_both_any (w:World)(v v':Value)(p s:Ru)(wd:ByteArray)(h:RuAt w v p)(h':RuAt w v' s)(hf:FitR p)(hf':FitR s)(hw:wd.size≤1000000000)(hT:Lib.Utf8Tabs 1 2 w):
  Calls Tryz.prog 162 #[v,v',.string wd] w fun e w'=>e= .returned (.tuple #[.string (bothR p s wd),.bool (okB (bothR p s wd))])∧Below w.heap.size w w':=by
 have h0:=h
 have h0':=h'
 obtain⟨A,cap,rfl,-⟩:=h
 obtain⟨A',cap',rfl,-⟩:=h'
 obtain⟨n,hn⟩:∃n,n=p.cond.length:=⟨_,rfl⟩
 obtain⟨n',hn'⟩:∃n,n=s.cond.length:=⟨_,rfl⟩
 rw[←hn]at h0
 rw[←hn']at h0'
 rw[←hn,←hn']
 obtain⟨W0,hW0⟩:∃W0,W0=((w.alloc (.cells #[.bool p.pre,.int .i64 p.flag,.bool p.cross,.string p.strip,.string p.add,.slice A n cap] 123)).alloc (.cells #[.bool s.pre,.int .i64 s.flag,.bool s.cross,.string s.strip,.string s.add,.slice A' n' cap'] 123)):=⟨_,rfl⟩
 have hb0:Below w.heap.size w W0:=by
  rw[hW0]
  exact((Below.refl _ _).alloc (Nat.le_refl _) _).alloc (by rw[World.size_alloc];omega) _
 have HB:=Lib.hid hb0
 have CG:=Lib.hid (rtogether_any W0 _ _ p s (h0.keep hb0) (h0'.keep hb0))
 have CP:=Lib.hid (fun wx (hb:Below w.heap.size w wx)=>rapplies_any wx _ p wd (h0.keep hb) hf hw (tabs_below hT hb))
 have CS:=Lib.hid (fun wx (hb:Below w.heap.size w wx)=>rapplies_any wx _ s wd (h0'.keep hb) hf' hw (tabs_below hT hb))
 have BX:=Lib.hid (show∀w1,Below W0.heap.size W0 w1→
   (w1.cell? ⟨w.heap.size,0,none⟩=some (.bool p.pre)∧w1.cell? ⟨w.heap.size,1,none⟩=some (.int .i64 p.flag)∧w1.cell? ⟨w.heap.size,2,none⟩=some (.bool p.cross)∧w1.cell? ⟨w.heap.size,3,none⟩=some (.string p.strip)∧w1.cell? ⟨w.heap.size,4,none⟩=some (.string p.add)∧w1.cell? ⟨w.heap.size,5,none⟩=some (.slice A n cap))∧
   (w1.cell? ⟨w.heap.size+1,0,none⟩=some (.bool s.pre)∧w1.cell? ⟨w.heap.size+1,1,none⟩=some (.int .i64 s.flag)∧w1.cell? ⟨w.heap.size+1,2,none⟩=some (.bool s.cross)∧w1.cell? ⟨w.heap.size+1,3,none⟩=some (.string s.strip)∧w1.cell? ⟨w.heap.size+1,4,none⟩=some (.string s.add)∧w1.cell? ⟨w.heap.size+1,5,none⟩=some (.slice A' n' cap'))from fun w1 hb=>by
  rw[hW0]at hb
  have h1:=box6 (w:=w.alloc (.cells #[.bool p.pre,.int .i64 p.flag,.bool p.cross,.string p.strip,.string p.add,.slice A n cap] 123)) hb
  rw[World.size_alloc]at h1
  have hb0:Below (w.alloc (.cells #[.bool p.pre,.int .i64 p.flag,.bool p.cross,.string p.strip,.string p.add,.slice A n cap] 123)).heap.size (w.alloc (.cells #[.bool p.pre,.int .i64 p.flag,.bool p.cross,.string p.strip,.string p.add,.slice A n cap] 123)) w1:=
   ((Below.refl _ _).alloc (Nat.le_refl _) _).trans (hb.mono (by rw[World.size_alloc (w.alloc _)];omega))
  exact⟨box6 hb0,h1⟩)
 have HW0:=Lib.hid hW0
 have HN:=Lib.hid (both_no (p:=p) (s:=s) (wd:=wd))
 have HY:=Lib.hid (both_yes (p:=p) (s:=s) (wd:=wd))
 have hz1:=hf.strip
 have hz2:=hf'.strip
 have hz3:=hf.add
 have hz4:=hf'.add
 obtain⟨R,hR⟩:∃R,R=bothR p s wd:=⟨_,rfl⟩
 rw[←hR]at HN HY⊢
 obtain⟨b1,h1⟩:∃b,b=(p.pre&& !s.pre&&p.cross&&s.cross):=⟨_,rfl⟩
 obtain⟨b2,h2⟩:∃b,b=okB (applyR p wd):=⟨_,rfl⟩
 obtain⟨b3,h3⟩:∃b,b=okB (applyR s wd):=⟨_,rfl⟩
 rw[←h1]at HN HY CG
 rw[←h2]at HN HY CP
 rw[←h3]at HN HY CS
 obtain⟨ppre,pflag,pcross,pstrip,padd,pcond⟩:=p
 obtain⟨spre,sflag,scross,sstrip,sadd,scond⟩:=s
 dsimp only at HB CG CP CS BX HW0 HN HY hz1 hz2 hz3 hz4⊢
 have wsum:IntKind.i64.wrap ((pstrip.size:Int)+sstrip.size)=(pstrip.size:Int)+sstrip.size:=IntWalk.i64_in _ (by omega)
 have hcs:(wd.size:Int)<(pstrip.size:Int)+sstrip.size∨¬(wd.size:Int)<(pstrip.size:Int)+sstrip.size:=Decidable.em _
 clear h0 h0' hf hf' hT hb0 hn hn' h1 h2 h3 hR
 go_enter Tryz.func162,Tryz.ntmps162
 go_upto_region 1 with fail
 rw[←HW0.out]
 clear hW0
 obtain⟨⟨x0,x1,x2,x3,x4,x5⟩,y0,y1,y2,y3,y4,y5⟩:=BX.out W0 (Below.refl _ _)
 have hb0:=Below.refl W0.heap.size W0
 cases b1 with
 | false=>
   have hz:=HN.out (by simp)
   subst hz
   clear hcs hb0
   go_wp2_with (go_at_call 221;refine CG.out.mono ?_;rintro e w1 ⟨rfl,hb⟩;have HX1:=Lib.hid hb;clear hb;obtain⟨⟨z0,z1,z2,z3,z4,z5⟩,u0,u1,u2,u3,u4,u5⟩:=BX.out w1 HX1.out)
   have HB1:=Lib.hid (HB.out.trans (HX1.out.mono HB.out.size))
   go_wp2_with fail
   go_ret2
   exact⟨rfl,HB1.out⟩
 | true=>
   clear hb0
   rcases hcs with hlt|hge
   ·have hz:=HN.out (by rintro⟨_,h,_⟩;omega)
    subst hz
    go_wp2_with (go_at_call 221;refine CG.out.mono ?_;rintro e w1 ⟨rfl,hb⟩;have HX1:=Lib.hid hb;clear hb;obtain⟨⟨z0,z1,z2,z3,z4,z5⟩,u0,u1,u2,u3,u4,u5⟩:=BX.out w1 HX1.out)
    have HB1:=Lib.hid (HB.out.trans (HX1.out.mono HB.out.size))
    clear x0 x1 x2 x3 x4 x5 y0 y1 y2 y3 y4 y5
    obtain⟨⟨x0,x1,x2,x3,x4,x5⟩,y0,y1,y2,y3,y4,y5⟩:=BX.out w1 HX1.out
    go_wp2_with fail
    go_ret2
    exact⟨rfl,HB1.out⟩
   ·go_wp2_with (go_at_call 221;refine CG.out.mono ?_;rintro e w1 ⟨rfl,hb⟩;have HX1:=Lib.hid hb;clear hb;obtain⟨⟨z0,z1,z2,z3,z4,z5⟩,u0,u1,u2,u3,u4,u5⟩:=BX.out w1 HX1.out)
    have HB1:=Lib.hid (HB.out.trans (HX1.out.mono HB.out.size))
    clear x0 x1 x2 x3 x4 x5 y0 y1 y2 y3 y4 y5
    obtain⟨⟨x0,x1,x2,x3,x4,x5⟩,y0,y1,y2,y3,y4,y5⟩:=BX.out w1 HX1.out
    go_wp2_with (go_at_call 222;refine(CP.out _ HB1.out).mono ?_)
    rintro e w2 ⟨rfl,hb⟩
    have HB2:=Lib.hid (HB1.out.trans (hb.mono HB1.out.size))
    have HX2:=Lib.hid (HX1.out.trans (hb.mono HX1.out.size))
    clear x0 x1 x2 x3 x4 x5 y0 y1 y2 y3 y4 y5 hb
    obtain⟨⟨x0,x1,x2,x3,x4,x5⟩,y0,y1,y2,y3,y4,y5⟩:=BX.out w2 HX2.out
    cases b2 with
    | false=>
      have hz:=HN.out (by simp)
      subst hz
      go_wp2_with fail
      go_ret2
      exact⟨rfl,HB2.out⟩
    | true=>
      go_wp2_with (go_at_call 222;refine(CS.out _ HB2.out).mono ?_)
      rintro e w3 ⟨rfl,hb⟩
      have HB3:=Lib.hid (HB2.out.trans (hb.mono HB2.out.size))
      have HX3:=Lib.hid (HX2.out.trans (hb.mono HX2.out.size))
      clear x0 x1 x2 x3 x4 x5 y0 y1 y2 y3 y4 y5 hb
      obtain⟨⟨x0,x1,x2,x3,x4,x5⟩,y0,y1,y2,y3,y4,y5⟩:=BX.out w3 HX3.out
      cases b3 with
      | false=>
        have hz:=HN.out (by simp)
        subst hz
        go_wp2_with fail
        go_ret2
        exact⟨rfl,HB3.out⟩
      | true=>
        obtain⟨k,hk⟩:∃k,k=wd.size-sstrip.size:=⟨_,rfl⟩
        have hz:R=padd++wd.extract pstrip.size k++sadd:=by rw[hk];exact HY.out (by simp) (by omega) (by simp) (by simp)
        have HZ:=Lib.hid hz
        have e1:IntKind.i64.wrap ((wd.size:Int)-sstrip.size)=(k:Int):=by rw[IntWalk.i64_in _ (by omega)];omega
        have e2:(wd.size:Int)-sstrip.size=(k:Int):=by omega
        have q1:(0:Int)≤pstrip.size:=by omega
        have q2:(pstrip.size:Int)≤k:=by omega
        have q3:(k:Int)≤wd.size:=by omega
        have q4:(0:Int)≤k:=by omega
        have e3:IntKind.i64.wrap (k:Int)=(k:Int):=IntWalk.i64_in _ (by omega)
        have hes:(wd.extract pstrip.size k).size=k-pstrip.size:=by rw[ByteArray.size_extract];omega
        have q5:¬9223372036854775807<padd.size+(k-pstrip.size):=by omega
        have q6:¬9223372036854775807<padd.size+(k-pstrip.size)+sadd.size:=by omega
        have q7:(padd++wd.extract pstrip.size k).size=padd.size+(k-pstrip.size):=by rw[ByteArray.size_append,hes]
        have q8:¬9223372036854775807<padd.size+(min k wd.size-pstrip.size):=by omega
        have q9:¬9223372036854775807<padd.size+(min k wd.size-pstrip.size)+sadd.size:=by omega
        clear hk hz hge hz1 hz2 hz3 hz4 wsum
        go_upto_region 5 with fail
        go_quiet (fail)
        go_wp2_with fail
        go_ret2
        rw[HZ.out]
        exact⟨by rw[r_okB];rfl,below_drewN HB3.out _⟩
end Go.Proofs.YtfehpcbmdancoaaGreatDoor
