/- The document's answers of chapter 16 by contract. -/
import Derived.Deep.RegionHeld3
import Derived.Test.YtfehpcbmdancoaaGreatDoorPbPApply
import Derived.Test.YtfehpcbmdancoaaGreatDoorPbPParse
import Derived.Test.YtfehpcbmdancoaaGreatDoorPbRefAll
import Derived.Test.YtfehpcbmdancoaaGreatDoorPbRefBytes
import Derived.Test.YtfehpcbmdancoaaGreatDoorPbXDict
import Derived.Test.YtfehpcbmdancoaaGreatDoorPbZForms
import Derived.Test.YtfehpcbmdancoaaGreatDoorPbZRef
namespace Go.Proofs.YtfehpcbmdancoaaGreatDoor
open Go Go.RowKit Go.Lib
attribute [local go_sem] alloc_set
theorem news_cell (w:World)(cs:Array Value)(t:TypeId)(j:Nat):(w.alloc (.cells cs t)).cell? ⟨w.heap.size,j,none⟩=cs[j]?:=by
 rw[cell_of_row _ w.heap.size j cs t (0,0) (World.alloc_heap_new w _)]
structure RefAt (w:World)(p:Nat)(d:Di):Prop where
 box:∃A cap B cb,w.heap[p]?=some (.cells #[.slice A d.pairs.length cap,.slice B d.forms.length cb] 40 (0,0))∧PairsAt w (.slice A d.pairs.length cap) d.pairs∧StrsAt w (.slice B d.forms.length cb) d.forms
 pairs:PairsOk d.pairs∧d.pairs.length≤200
 forms:Rising d.forms∧d.forms.length≤20000∧∀x∈d.forms,x.size≤200
theorem RefAt.keep {w w':World}{p:Nat}{d:Di}(h:RefAt w p d)(hb:Below w.heap.size w w'):RefAt w' p d:=by
 obtain⟨A,cap,B,cb,h1,h2,h3⟩:=h.box
 exact⟨⟨A,cap,B,cb,(hb.block p (Array.getElem?_eq_some_iff.1 h1).1).trans h1,h2.keep hb,h3.keep hb⟩,h.pairs,h.forms⟩
theorem af_mid (s:ByteArray):∀r∈(parseA s).1.rules,MidR r:=fun r hr=>by
 obtain⟨l,hl,h1,h2⟩:=parseA_from hr
 obtain⟨-,k1,k2,k3,k4⟩:=parseR_wide hl
 have hz:(⟨l.toArray⟩:ByteArray).size=l.length:=by show l.toArray.size=_;rw[List.size_toArray]
 exact⟨by omega,fun it hit=>by have:=k2 it hit;omega,by omega,by omega⟩
theorem long_take {l:List ByteArray}{k:Nat}{x:ByteArray}(h:l[k]?=some x):longD (l.take (k+1))=(longD (l.take k)||decide (200<x.size)):=by
 unfold longD
 rw[List.take_add_one,h,List.any_append]
 simp
def RefE (w w':World)(o:Option Di×Nat×Nat×Int)(e:Ending):Prop:=
 ((o.1=none∧o.2.2.2≠0∧e= .returned (.tuple #[.pointer none,.int .i64 (o.2.1:Nat),.int .i64 (o.2.2.1:Nat),.int .i64 o.2.2.2]))∨
  ∃d p,o=(some d,0,0,0)∧e= .returned (.tuple #[.pointer (some ⟨p,0,none⟩),.int .i64 0,.int .i64 0,.int .i64 0])∧RefAt w' p d)∧Below w.heap.size w w'
set_option maxRecDepth 100000 in
set_option maxHeartbeats 1000000 in
theorem rnew_any (w:World)(fa fl:ByteArray)(hfa:fa.size≤1000000000)(hfl:fl.size≤1000000000):
  Calls Tryz.prog 11 #[.agg #[.string fa,.string fl]] w fun e w'=>RefE w w' (newD fa fl) e:=by
 obtain⟨W0,hW0⟩:∃W0,W0=w.alloc (.cells #[.string fa,.string fl] 23):=⟨_,rfl⟩
 have hb0:Below w.heap.size w W0:=by rw[hW0];exact(Below.refl _ _).alloc (Nat.le_refl _) _
 have c0:∀wx,Below W0.heap.size W0 wx→wx.cell? ⟨w.heap.size,0,none⟩=some (.string fa)∧wx.cell? ⟨w.heap.size,1,none⟩=some (.string fl):=fun wx hb=>by
  have hs:w.heap.size<W0.heap.size:=by rw[hW0,World.size_alloc];omega
  have e0:W0.cell? ⟨w.heap.size,0,none⟩=some (.string fa):=by rw[hW0];exact news_cell w #[.string fa,.string fl] _ 0
  have e1:W0.cell? ⟨w.heap.size,1,none⟩=some (.string fl):=by rw[hW0];exact news_cell w #[.string fa,.string fl] _ 1
  exact⟨(hb.cell (p:=⟨w.heap.size,0,none⟩) hs).trans e0,(hb.cell (p:=⟨w.heap.size,1,none⟩) hs).trans e1⟩
 obtain⟨⟨a,ln,ec⟩,hpa⟩:∃o,o=parseA fa:=⟨_,rfl⟩
 obtain⟨⟨es,ll,el⟩,hpl⟩:∃o,o=parseE fl:=⟨_,rfl⟩
 have CA:=Lib.hid (Af.rparseA_any W0 fa hfa)
 rw[←hpa]at CA
 obtain⟨c00,c01⟩:=c0 W0 (Below.refl _ _)
 have HC:=Lib.hid c0
 have HB:=Lib.hid hb0
 have HP:=Lib.hid (And.intro hpa hpl)
 have HFL:=Lib.hid hfl
 clear hpa hpl hb0 c0 hfa hfl
 go_enter Tryz.func11,Tryz.ntmps11
 go_upto_region 2 with(go_at_call 32;rw[←hW0];refine CA.out.mono ?_;rintro e w1 ⟨v,rfl,ha,hb1⟩;obtain⟨A,cap,B,cap',rfl,hru,hpr⟩:=ha;have HA:=Lib.hid (And.intro hru (And.intro hpr hb1));clear hru hpr hb1)
 obtain⟨q6,hq6⟩:∃q6,q6=w1.heap.size:=⟨_,rfl⟩
 obtain⟨w2,hw2⟩:∃w2,w2=w1.alloc (.cells #[.slice A a.rules.length cap,.slice B a.pairs.length cap'] 57):=⟨_,rfl⟩
 have hb2:Below W0.heap.size W0 w2:=by rw[hw2];exact HA.out.2.2.alloc HA.out.2.2.size _
 have c2:∀wx,Below w2.heap.size w2 wx→wx.cell? ⟨q6,0,none⟩=some (.slice A a.rules.length cap)∧wx.cell? ⟨q6,1,none⟩=some (.slice B a.pairs.length cap'):=fun wx hb=>by
  have hs:q6<w2.heap.size:=by rw[hw2,hq6,World.size_alloc];omega
  have e0:w2.cell? ⟨q6,0,none⟩=some (.slice A a.rules.length cap):=by rw[hw2,hq6];exact news_cell w1 #[.slice A a.rules.length cap,.slice B a.pairs.length cap'] _ 0
  have e1:w2.cell? ⟨q6,1,none⟩=some (.slice B a.pairs.length cap'):=by rw[hw2,hq6];exact news_cell w1 #[.slice A a.rules.length cap,.slice B a.pairs.length cap'] _ 1
  exact⟨(hb.cell (p:=⟨q6,0,none⟩) hs).trans e0,(hb.cell (p:=⟨q6,1,none⟩) hs).trans e1⟩
 have hal:Below w1.heap.size w1 w2:=by rw[hw2];exact(Below.refl _ _).alloc (Nat.le_refl _) _
 have H2:=Lib.hid (show RulesAt w2 (.slice A a.rules.length cap) a.rules∧PairsAt w2 (.slice B a.pairs.length cap') a.pairs∧Below w.heap.size w w2 from ⟨HA.out.1.keep hal,HA.out.2.1.keep hal,HB.out.trans (hb2.mono HB.out.size)⟩)
 have HC2:=Lib.hid c2
 rw[←hq6,←hw2]
 obtain⟨c00',c01'⟩:=HC.out w2 hb2
 clear hq6 hw2 hb2 c2 hal HA CA c00 c01 hW0
 by_cases hec:ec=0
 case neg=>
  have HZ:=Lib.hid (show newD fa fl=(none,1,ln,ec)by unfold newD;rw[←HP.out.1,if_pos hec])
  have HEC:=Lib.hid hec
  go_wp2_with fail
  refine bodyPost_ret (v:= .tuple #[.pointer none,.int .i64 1,.int .i64 ln,.int .i64 ec]) (by simp[results,Tryz.results11,go_sem]) rfl ?_
  exact⟨.inl ⟨by rw[HZ.out],by rw[HZ.out];exact HEC.out,by rw[HZ.out];rfl⟩,H2.out.2.2⟩
 subst hec
 have CL:=Lib.hid (Ls.eparse_any w2 fl HFL.out)
 rw[←HP.out.2]at CL
 go_upto_region 5 with(go_at_call 33;refine CL.out.mono ?_;rintro e w3 ⟨vl,rfl,hes,hb3⟩;have H3:=Lib.hid (And.intro hes hb3);clear hes hb3)
 clear CL c00' c01'
 by_cases hel:el=0
 case neg=>
  have HZ:=Lib.hid (show newD fa fl=(none,2,ll,el)by unfold newD;rw[←HP.out.1,if_neg (fun h=>h rfl),←HP.out.2,if_pos hel])
  have HEC:=Lib.hid hel
  go_wp2_with fail
  refine bodyPost_ret (v:= .tuple #[.pointer none,.int .i64 2,.int .i64 ll,.int .i64 el]) (by simp[results,Tryz.results11,go_sem]) rfl ?_
  exact⟨.inl ⟨by rw[HZ.out],by rw[HZ.out];exact HEC.out,by rw[HZ.out];rfl⟩,H2.out.2.2.trans (H3.out.2.mono H2.out.2.2.size)⟩
 subst hel
 have HB3:=Lib.hid (show Below w.heap.size w w3 from H2.out.2.2.trans (H3.out.2.mono H2.out.2.2.size))
 have CZ:=Lib.hid (all13_any w3 (.slice A a.rules.length cap) vl a.rules es (H2.out.1.keep H3.out.2) H3.out.1
  (by have h2:=af_mid fa;rw[←HP.out.1]at h2;exact h2)
  (by have h1:=(af_pairsOk fa).2.2;rw[←HP.out.1]at h1;exact h1)
  (by have h1:=list_few fl;rw[←HP.out.2]at h1;exact h1)
  (by have h1:=en_fit fl;rw[←HP.out.2]at h1;exact fun e he=>by have:=(h1 e he).1;omega))
 obtain⟨c20,c21⟩:=HC2.out w3 H3.out.2
 obtain⟨⟨fo,fe⟩,hfo⟩:∃o,o=allL a.rules es:=⟨_,rfl⟩
 rw[←hfo]at CZ
 have HF:=Lib.hid hfo
 clear hfo
 go_upto_region 8 with(go_at_call 34;refine CZ.out.mono ?_;rintro e w4 ⟨vf,cf,rfl,hst,rfl,hb4⟩;have H4:=Lib.hid (And.intro hst hb4);clear hst hb4)
 clear CZ c20 c21
 have HB4:=Lib.hid (show Below w.heap.size w w4 from HB3.out.trans (H4.out.2.mono HB3.out.size))
 obtain⟨FB,fcap,hvf⟩:=strs_form H4.out.1
 subst hvf
 obtain⟨n,hn⟩:∃n,n=fo.length:=⟨_,rfl⟩
 have H4n:=H4.out.1
 rw[←hn]at H4n⊢
 have HN:=Lib.hid (And.intro hn (strs_open H4n))
 have hn20:n≤20000:=by
  have h1:=HF.out
  unfold allL at h1
  split at h1
  ·rename_i hl
   rw[hn,(Prod.mk.inj h1).1];exact hl
  ·rw[hn,(Prod.mk.inj h1).1];simp
 clear hn H4n
 go_wp2_with fail
 go_loopg [8,11] n (fun gh s8 i wr=>∃(k:Nat) (ek:Nat),k+gh=n∧i= .int .i64 k∧s8= .int .i64 ek∧w4=wr∧Hid (ek=if longD (fo.take k)=true then 3 else fe))
 case atStart=>exact⟨0,fe,by omega,rfl,rfl,rfl,Lib.hid rfl⟩
 case round=>
  obtain⟨k,ek,hk,rfl,rfl,rfl,HK⟩:=hrel
  have k0:(0:Int)≤k:=by omega
  rcases Nat.eq_zero_or_pos gk with h0|h0
  ·have d1:¬(k:Int)<n:=by omega
   have hke:ek=if longD fo=true then 3 else fe:=by
    have h1:=HK.out
    rwa[List.take_of_length_le (by have:=HN.out.1;omega)]at h1
   have hfc:(fe=0∧fo=allF a.rules es)∨(fe=3∧fo=[]):=by
    have h1:=HF.out
    unfold allL at h1
    split at h1
    ·exact .inl ⟨(Prod.mk.inj h1).2,(Prod.mk.inj h1).1⟩
    ·exact .inr ⟨(Prod.mk.inj h1).2,(Prod.mk.inj h1).1⟩
   have hcase:(ek=3∧newD fa fl=(none,2,0,3))∨(ek=0∧newD fa fl=(some ⟨fo,a.pairs⟩,0,0,0)∧longD fo=false∧fo=allF a.rules es):=by
    unfold newD
    rw[←HP.out.1,if_neg (fun h=>h rfl),←HP.out.2,if_neg (fun h=>h rfl)]
    dsimp only
    rw[←HF.out]
    dsimp only
    rcases hfc with ⟨h1,h2⟩|⟨h1,h2⟩
    ·subst h1
     rw[if_neg (fun h=>h rfl)]
     by_cases hl:longD fo=true
     ·rw[if_pos hl]at hke
      exact .inl ⟨hke,if_pos hl⟩
     ·rw[if_neg hl]at hke
      exact .inr ⟨hke,if_neg hl,by simpa using hl,h2⟩
    ·subst h1 h2
     exact .inl ⟨hke,if_pos (by decide)⟩
   clear hke hfc
   rcases hcase with ⟨rfl,hZ⟩|⟨rfl,hZ,hl,hfo⟩
   ·have HZ:=Lib.hid hZ
    clear hZ
    go_wp2_with fail
    refine bodyPost_ret (v:= .tuple #[.pointer none,.int .i64 2,.int .i64 0,.int .i64 3]) (by simp[results,Tryz.results11,go_sem]) rfl ?_
    exact⟨.inl ⟨by rw[HZ.out],by rw[HZ.out];decide,by rw[HZ.out];rfl⟩,HB4.out⟩
   ·have HZ:=Lib.hid hZ
    obtain⟨c20,c21⟩:=HC2.out w4 (H3.out.2.trans (H4.out.2.mono H3.out.2.size))
    have hba:Below w4.heap.size w4 (w4.alloc (.cells #[.slice B a.pairs.length cap',.slice FB n fcap] 40)):=(Below.refl _ _).alloc (Nat.le_refl _) _
    have HD:=Lib.hid (show RefAt (w4.alloc (.cells #[.slice B a.pairs.length cap',.slice FB n fcap] 40)) w4.heap.size ⟨fo,a.pairs⟩from by
     have hp:=af_pairsOk fa
     rw[←HP.out.1]at hp
     have hsk:=H4.out.1
     rw[←HN.out.1]at hsk
     refine⟨⟨B,cap',FB,fcap,by dsimp only;rw[←HN.out.1];exact World.alloc_heap_new w4 _,(H2.out.2.1.keep (H3.out.2.trans (H4.out.2.mono H3.out.2.size))).keep hba,by dsimp only;rw[←HN.out.1];exact hsk.keep hba⟩,⟨hp.1,hp.2.1⟩,⟨by dsimp only;rw[hfo];exact allF_rising _ _,by dsimp only;rw[←HN.out.1];exact hn20,fun x hx=>?_⟩⟩
     unfold longD at hl
     rw[List.any_eq_false]at hl
     have:=hl x hx
     simpa using this)
    have HBD:=Lib.hid (HB4.out.trans (hba.mono HB4.out.size))
    clear hZ hl hfo hba
    go_wp2_with fail
    refine bodyPost_ret (v:= .tuple #[.pointer (some ⟨w4.heap.size,0,none⟩),.int .i64 0,.int .i64 0,.int .i64 0]) (by simp[results,Tryz.results11,go_sem]) rfl ?_
    exact⟨.inr ⟨_,_,HZ.out,rfl,HD.out⟩,HBD.out⟩
  ·have d1:(k:Int)<n:=by omega
   obtain⟨x,hx⟩:∃x,fo[k]?=some x:=⟨_,List.getElem?_eq_getElem (by have:=HN.out.1;omega)⟩
   obtain⟨b,off,rfl,hb,hcp,cx⟩:=HN.out.2 k x hx
   have hlt:=long_take hx
   by_cases hz:200<x.size
   ·have HX:=Lib.hid (show 3=if longD (fo.take (k+1))=true then 3 else fe by rw[hlt,decide_eq_true hz];simp)
    have q1:(200:Int)<x.size:=by omega
    clear hlt hx
    go_wp2_with fail
    go_roundg (gk-1)
    case measure=>omega
    case rel=>exact⟨k+1,3,by omega,by go_num,rfl,rfl,HX⟩
   ·have HX:=Lib.hid (show ek=if longD (fo.take (k+1))=true then 3 else fe by rw[hlt,decide_eq_false hz,Bool.or_false];exact HK.out)
    have q1:¬(200:Int)<x.size:=by omega
    clear hlt hx
    go_wp2_with fail
    go_roundg (gk-1)
    case measure=>omega
    case rel=>exact⟨k+1,ek,by omega,by go_num,rfl,rfl,HX⟩
end Go.Proofs.YtfehpcbmdancoaaGreatDoor
namespace Go.Proofs.YtfehpcbmdancoaaGreatDoor
open Go Go.RowKit Go.Lib
theorem rise_at {l:List ByteArray}(h:Rising l){i j:Nat}{x y:ByteArray}(hij:i<j)(hx:l[i]?=some x)(hy:l[j]?=some y):ltS x y:=by
 obtain⟨h1,rfl⟩:=List.getElem?_eq_some_iff.1 hx
 obtain⟨h2,rfl⟩:=List.getElem?_eq_some_iff.1 hy
 exact List.pairwise_iff_getElem.1 h i j h1 h2 hij
theorem is_mem (d:Di)(s:ByteArray):isD d s.data.toList=true↔s∈d.forms:=by
 unfold isD bytesD
 rw[decide_eq_true_eq]
 refine⟨fun h=>?_,fun h=>List.mem_map.2 ⟨s,h,rfl⟩⟩
 obtain⟨y,hy,he⟩:=List.mem_map.1 h
 have:y=s:=Fo.str_eq he
 exact this▸hy
theorem find_at {l:List ByteArray}{s:ByteArray}{f:Nat}(hr:Rising l)(h1:∀(j:Nat) a,j<f→l[j]?=some a→ltS a s)(h2:∀(j:Nat) a,f≤j→l[j]?=some a→¬ltS a s):s∈l↔l[f]?=some s:=by
 refine⟨fun h=>?_,fun h=>List.mem_of_getElem? h⟩
 obtain⟨j,hj⟩:=List.getElem?_of_mem h
 rcases Nat.lt_trichotomy j f with h3|h3|h3
 ·exact absurd (h1 j s h3 hj) (ltS_irrefl s)
 ·rw[←h3];exact hj
 ·obtain⟨hl,-⟩:=List.getElem?_eq_some_iff.1 hj
  have hf:l[f]?=some (l[f]'(by omega)):=List.getElem?_eq_getElem (by omega)
  exact absurd (rise_at hr h3 hf hj) (h2 f _ (Nat.le_refl _) hf)
set_option maxRecDepth 100000 in
set_option maxHeartbeats 1000000 in
theorem ris_any (w:World)(p:Nat)(d:Di)(h:RefAt w p d)(s:ByteArray):
  Calls Tryz.prog 15 #[.pointer (some ⟨p,0,none⟩),.string s] w fun e w'=>e= .returned (.bool (isD d s.data.toList))∧Below w.heap.size w w':=by
 obtain⟨A,cap,B,cb,hbx,-,hst⟩:=h.box
 have hA0:=is_mem d s
 obtain⟨ANS,hA⟩:∃b,b=isD d s.data.toList:=⟨_,rfl⟩
 rw[←hA]at hA0⊢
 obtain⟨l,hl⟩:∃l,l=d.forms:=⟨_,rfl⟩
 obtain⟨n,hn⟩:∃n,n=l.length:=⟨_,rfl⟩
 rw[←hl]at hst hbx hA0
 rw[←hn]at hst hbx
 have hn20:n≤20000:=by rw[hn,hl];exact h.forms.2.1
 have HL:=Lib.hid (And.intro hn (And.intro hA0 (show Rising l by rw[hl];exact h.forms.1)))
 have z1:w.cell? ⟨p,1,none⟩=some (.slice B n cb):=by simp[World.cell?,hbx]
 have HO:=Lib.hid (strs_open hst)
 clear hbx hst hl hn hA hA0 h
 go_enter Tryz.func15,Tryz.ntmps15
 go_upto_region 1 with fail
 have z1':w.drew.cell? ⟨p,1,none⟩=some (.slice B n cb):=z1
 go_region
 have HO':=Lib.hid (show∀(k:Nat) x,l[k]?=some x→∃b off,B=some ⟨b,off,none⟩∧n≤cb∧w.drew.cell? ⟨b,off+k,none⟩=some (.string x)from fun k x hx=>by
  obtain⟨b,off,e1,_,e2,e3⟩:=HO.out k x hx
  exact⟨b,off,e1,e2,e3⟩)
 clear HO z1
 generalize hwd:w.drew=w1 at*
 have HWD:=Lib.hid (show Below w.heap.size w w1 from by rw[←hwd];exact(Below.refl _ _).drew)
 clear hwd
 go_wp2_with fail
 go_loopg [5,6] n (fun gh s5 s6 wr=>∃(f t:Nat),t=f+gh∧t≤n∧s5= .int .i64 f∧s6= .int .i64 t∧w1=wr∧Hid ((∀(j:Nat) a,j<f→l[j]?=some a→ltS a s)∧(∀(j:Nat) a,t≤j→l[j]?=some a→¬ltS a s)))
 case atStart=>exact⟨0,n,by omega,Nat.le_refl _,rfl,rfl,rfl,Lib.hid ⟨fun j a hj=>absurd hj (Nat.not_lt_zero _),fun j a hj ha=>by have:=(List.getElem?_eq_some_iff.1 ha).1;have:=HL.out.1;omega⟩⟩
 case round=>
  obtain⟨f,t,hft,htn,rfl,rfl,rfl,HM⟩:=hrel
  have HFT:=Lib.hid hft
  have f0:(0:Int)≤f:=by omega
  rcases Nat.eq_zero_or_pos gk with h0|h0
  ·obtain rfl:t=f:=by omega
   clear hft
   have d1:¬(t:Int)<t:=by omega
   have hans:ANS=true↔l[t]?=some s:=HL.out.2.1.trans (find_at HL.out.2.2 HM.out.1 HM.out.2)
   by_cases hlt:t<n
   ·obtain⟨x,hx⟩:∃x,l[t]?=some x:=⟨_,List.getElem?_eq_getElem (by have:=HL.out.1;omega)⟩
    obtain⟨b,off,rfl,hcp,cx⟩:=HO'.out t x hx
    have d2:(t:Int)<n:=by omega
    have q2:decide ((t:Int)<n)=true:=decide_eq_true d2
    have he:(x.toList==s.toList)=ANS:=by
     rw[eq_eq,Bool.eq_iff_iff,decide_eq_true_eq,hans,hx]
     exact⟨fun e=>by rw[e],fun e=>Option.some.inj e⟩
    clear hans hx
    go_wp2_with fail
    go_ret
    exact⟨rfl,HWD.out⟩
   ·have d2:¬(t:Int)<n:=by omega
    have q2:decide ((t:Int)<n)=false:=decide_eq_false d2
    have he:ANS=false:=by
     rw[List.getElem?_eq_none (by have:=HL.out.1;omega)]at hans
     cases ANS with
     | false=>rfl
     | true=>exact absurd (hans.1 rfl) (by simp)
    subst he
    clear hans
    go_wp2_with fail
    go_ret
    exact⟨rfl,HWD.out⟩
  ·obtain⟨m,hm⟩:∃m,m=(f+t)/2:=⟨_,rfl⟩
   have d1:(f:Int)<t:=by omega
   obtain⟨x,hx⟩:∃x,l[m]?=some x:=⟨_,List.getElem?_eq_getElem (by have:=HL.out.1;omega)⟩
   obtain⟨b,off,rfl,hcp,cx⟩:=HO'.out m x hx
   have e9:((f:Int)+(t:Int))/2=(m:Int):=by omega
   have m0:(0:Int)≤m:=by omega
   have mn:(m:Int)<n:=by omega
   have hfm:f≤m∧m<t:=by omega
   have HFM:=Lib.hid (And.intro hfm (And.intro hft h0))
   have htb:(t:Int)≤20000:=by omega
   clear hm hft hfm
   by_cases hs:ltS x s
   ·have hs':Op.bytesLess x.toList s.toList=true:=by rw[less_eq];exact decide_eq_true hs
    have HX:=Lib.hid (show (∀(j:Nat) a,j<m+1→l[j]?=some a→ltS a s)∧(∀(j:Nat) a,t≤j→l[j]?=some a→¬ltS a s)from ⟨fun j a hj ha=>by
     rcases Nat.lt_or_ge j m with h3|h3
     ·exact ltS_trans (rise_at HL.out.2.2 h3 ha hx) hs
     ·obtain rfl:j=m:=by omega
      rw[hx]at ha
      exact Option.some.inj ha▸hs,HM.out.2⟩)
    clear hx
    go_wp2_with fail
    go_roundg (t-(m+1))
    case measure=>have:=HFM.out;omega
    case rel=>exact⟨m+1,t,by have:=HFM.out;omega,htn,by go_num,rfl,rfl,HX⟩
   ·have hs':Op.bytesLess x.toList s.toList=false:=by rw[less_eq];exact decide_eq_false hs
    have HX:=Lib.hid (show (∀(j:Nat) a,j<f→l[j]?=some a→ltS a s)∧(∀(j:Nat) a,m≤j→l[j]?=some a→¬ltS a s)from ⟨HM.out.1,fun j a hj ha=>by
     rcases Nat.lt_or_ge m j with h3|h3
     ·exact fun hh=>hs (ltS_trans (rise_at HL.out.2.2 h3 hx ha) hh)
     ·obtain rfl:j=m:=by omega
      rw[hx]at ha
      exact Option.some.inj ha▸hs⟩)
    clear hx
    go_wp2_with fail
    go_roundg (m-f)
    case measure=>have:=HFM.out;omega
    case rel=>exact⟨f,m,by have:=HFM.out;omega,by have:=HFM.out;omega,rfl,by rw[e9],rfl,HX⟩
theorem RefAt.prs {w:World}{p:Nat}{d:Di}(h:RefAt w p d):∃A cap,w.cell? ⟨p,0,none⟩=some (.slice A d.pairs.length cap)∧PairsAt w (.slice A d.pairs.length cap) d.pairs:=by
 obtain⟨A,cap,B,cb,h1,h2,-⟩:=h.box
 exact⟨A,cap,by simp[World.cell?,h1],h2⟩
set_option maxRecDepth 100000 in
set_option maxHeartbeats 1000000 in
theorem rsmall16_any (w:World)(p:Nat)(d:Di)(h:RefAt w p d)(s:ByteArray)(hs:s.size≤1000000000):
  Calls Tryz.prog 17 #[.pointer (some ⟨p,0,none⟩),.string s] w fun e w'=>e= .returned (.string (textB (smallD d s.data.toList)))∧Below w.heap.size w w':=by
 obtain⟨A,cap,h1,h2⟩:=h.prs
 have CH:=Lib.hid (show Calls Tryz.prog 37 #[.slice A d.pairs.length cap,.string s] w fun e w'=>e= .returned (.string (textB (smallD d s.data.toList)))∧Below w.heap.size w w' from Fo.small14 w A d.pairs.length cap d.pairs s h2 rfl (by have:=h.pairs.2;omega) hs)
 clear h2 h
 go_enter Tryz.func17,Tryz.ntmps17
 go_wp2_with (go_at_call 37;refine CH.out.mono ?_;rintro e w1 ⟨rfl,hb⟩;have HB:=Lib.hid hb;clear hb)
 go_ret
 exact⟨rfl,HB.out⟩
theorem textB_size (l:List UInt8):(textB l).size=l.length:=by show l.toArray.size=_;rw[List.size_toArray]
set_option maxRecDepth 100000 in
set_option maxHeartbeats 1000000 in
theorem rhas16_any (w:World)(p:Nat)(d:Di)(h:RefAt w p d)(s:ByteArray)(hs:s.size≤100000000):
  Calls Tryz.prog 13 #[.pointer (some ⟨p,0,none⟩),.string s] w fun e w'=>e= .returned (.bool (hasD d s.data.toList))∧Below w.heap.size w w':=by
 obtain⟨A,cap,h1,h2⟩:=h.prs
 have hpl:d.pairs.length≤1000000:=by have:=h.pairs.2;omega
 obtain⟨K,hK⟩:∃K,K=shapeT d.pairs s.data.toList:=⟨_,rfl⟩
 obtain⟨S,hS⟩:∃S,S=textB (smallD d s.data.toList):=⟨_,rfl⟩
 have hSz:S.size≤500000000:=by
  rw[hS,textB_size]
  have h1:=small_size d.pairs s.data.toList
  have h3:s.data.toList.length=s.size:=(Lib.size_eq s).symm
  unfold smallD
  omega
 obtain⟨T,hTt⟩:∃T,T=textB (titleT d.pairs S.data.toList):=⟨_,rfl⟩
 obtain⟨b0,hb0⟩:∃b,b=isD d s.data.toList:=⟨_,rfl⟩
 obtain⟨b1,hb1⟩:∃b,b=isD d S.data.toList:=⟨_,rfl⟩
 obtain⟨b2,hb2⟩:∃b,b=isD d T.data.toList:=⟨_,rfl⟩
 have hans:hasD d s.data.toList=(b0||(decide (K=1)&&b1)||(decide (K=2)&&b1)||(decide (K=2)&&b2)):=by
  rw[hb0,hb1,hb2,hTt,hK,hS,textB_list,textB_list];rfl
 rw[hans]
 have C1:=Lib.hid (rsmall16_any w p d h s (by omega))
 rw[←hS]at C1
 have hk:∀wx,Below w.heap.size w wx→wx.cell? ⟨p,0,none⟩=some (.slice A d.pairs.length cap):=fun wx hb=>(hb.cell (p:=⟨p,0,none⟩) (World.block_lt_of_cell? _ _ h1)).trans h1
 have C2:=Lib.hid (show∀wx,Below w.heap.size w wx→Calls Tryz.prog 26 #[.slice A d.pairs.length cap,.string s] wx fun e w'=>e= .returned (.int .i64 K)∧Below wx.heap.size wx w' from fun wx hb=>by
  rw[hK];exact Fo.shape14 wx A d.pairs.length cap d.pairs s (h2.keep hb) rfl hpl (by omega))
 have C3:=Lib.hid (show∀wx,Below w.heap.size w wx→Calls Tryz.prog 15 #[.pointer (some ⟨p,0,none⟩),.string s] wx fun e w'=>e= .returned (.bool b0)∧Below wx.heap.size wx w' from fun wx hb=>by
  rw[hb0];exact ris_any wx p d (h.keep hb) s)
 have C4:=Lib.hid (show∀wx,Below w.heap.size w wx→Calls Tryz.prog 15 #[.pointer (some ⟨p,0,none⟩),.string S] wx fun e w'=>e= .returned (.bool b1)∧Below wx.heap.size wx w' from fun wx hb=>by
  rw[hb1];exact ris_any wx p d (h.keep hb) S)
 have C5:=Lib.hid (show∀wx,Below w.heap.size w wx→Calls Tryz.prog 25 #[.slice A d.pairs.length cap,.string S] wx fun e w'=>e= .returned (.string T)∧Below wx.heap.size wx w' from fun wx hb=>by
  rw[hTt];exact Fo.title14 wx A d.pairs.length cap d.pairs S (h2.keep hb) rfl hpl (by omega))
 have C6:=Lib.hid (show∀wx,Below w.heap.size w wx→Calls Tryz.prog 15 #[.pointer (some ⟨p,0,none⟩),.string T] wx fun e w'=>e= .returned (.bool b2)∧Below wx.heap.size wx w' from fun wx hb=>by
  rw[hb2];exact ris_any wx p d (h.keep hb) T)
 have HCL:=Lib.hid hk
 clear h h1 h2 hK hS hTt hb0 hb1 hb2 hans hk hs hSz hpl
 go_enter Tryz.func13,Tryz.ntmps13
 go_wp2_with fail
 refine C1.out.mono ?_
 rintro e w1 ⟨rfl,hb⟩
 have H1:=Lib.hid hb
 have z1:=HCL.out w1 hb
 clear hb C1
 go_wp2_with fail
 refine(C2.out _ H1.out).mono ?_
 rintro e w2 ⟨rfl,hb⟩
 have H2:=Lib.hid (H1.out.trans (hb.mono H1.out.size))
 clear hb C2 z1
 go_wp2_with fail
 refine(C3.out _ H2.out).mono ?_
 rintro e w3 ⟨rfl,hb⟩
 have H3:=Lib.hid (H2.out.trans (hb.mono H2.out.size))
 clear hb C3
 cases b0 with
 | true=>
   go_wp2_with fail
   go_ret
   exact⟨rfl,H3.out⟩
 | false=>
   by_cases k1:K=1
   ·subst k1
    go_wp2_with fail
    refine(C4.out _ H3.out).mono ?_
    rintro e w4 ⟨rfl,hb⟩
    have H4:=Lib.hid (H3.out.trans (hb.mono H3.out.size))
    clear hb
    go_wp2_with fail
    go_ret
    exact⟨by simp,H4.out⟩
   ·by_cases k2:K=2
    ·subst k2
     go_wp2_with fail
     refine(C4.out _ H3.out).mono ?_
     rintro e w4 ⟨rfl,hb⟩
     have H4:=Lib.hid (H3.out.trans (hb.mono H3.out.size))
     have z4:=HCL.out w4 H4.out
     clear hb
     cases b1 with
     | true=>
       go_wp2_with fail
       go_ret
       exact⟨rfl,H4.out⟩
     | false=>
       go_wp2_with fail
       refine(C5.out _ H4.out).mono ?_
       rintro e w5 ⟨rfl,hb⟩
       have H5:=Lib.hid (H4.out.trans (hb.mono H4.out.size))
       clear hb
       go_wp2_with fail
       refine(C6.out _ H5.out).mono ?_
       rintro e w6 ⟨rfl,hb⟩
       have H6:=Lib.hid (H5.out.trans (hb.mono H5.out.size))
       clear hb
       go_wp2_with fail
       go_ret
       exact⟨by simp,H6.out⟩
    ·have d1:(K==1)=false:=by simpa using k1
     have d2:(K==2)=false:=by simpa using k2
     have HK:=Lib.hid (And.intro k1 k2)
     clear k1 k2
     go_wp2_with fail
     go_ret
     exact⟨by have:=HK.out;simp[this.1,this.2],H3.out⟩
end Go.Proofs.YtfehpcbmdancoaaGreatDoor
namespace Go.Proofs.YtfehpcbmdancoaaGreatDoor
open Go Go.RowKit Go.Lib
structure Both16 (w0 w:World)(p q:Nat)(d:Di):Prop where
 land:Lg w0 w p d
 doc:RefAt w q d
theorem Both16.keep {w0 w w':World}{p q:Nat}{d:Di}(h:Both16 w0 w p q d)(hb:Below w.heap.size w w'):Both16 w0 w' p q d:=⟨h.land.keep hb,h.doc.keep hb⟩
def At16 (w0:World)(p q:Nat)(d:Di)(a:Addr)(x:ByteArray)(wx:World):Prop:=wx.cell? a=some (.string x)∧Hid (Both16 w0 wx p q d)
theorem At16.keep {w0 w w':World}{p q:Nat}{d:Di}{a:Addr}{x:ByteArray}(h:At16 w0 p q d a x w)(hb:Below w.heap.size w w'):At16 w0 p q d a x w':=
 ⟨(hb.cell (World.block_lt_of_cell? _ _ h.1)).trans h.1,Lib.hid (h.2.out.keep hb)⟩
theorem at_calls {w0 wx:World}{p q:Nat}{d:Di}{a:Addr}{x:ByteArray}{P:Program}{f:Nat}{args:Array Value}{r:Value}(h:At16 w0 p q d a x wx)(hc:Calls P f args wx fun e w'=>e= .returned r∧Below wx.heap.size wx w'):
  Calls P f args wx fun e w'=>e= .returned r∧(w'.cell? a=some (.string x)∧Hid (Both16 w0 w' p q d)):=
 hc.mono fun _e _w' h9=>⟨h9.1,h.keep h9.2⟩
theorem newD_cases (fa fl:ByteArray):(∃i ln c,newD fa fl=(none,i,ln,c))∨∃d,newD fa fl=(some d,0,0,0):=by
 unfold newD
 split
 ·exact .inl ⟨_,_,_,rfl⟩
 ·split
  ·exact .inl ⟨_,_,_,rfl⟩
  ·split
   ·exact .inl ⟨_,_,_,rfl⟩
   ·split
    ·exact .inl ⟨_,_,_,rfl⟩
    ·exact .inr ⟨_,rfl⟩
theorem rnew_no (w:World)(fa fl:ByteArray)(hfa:fa.size≤1000000000)(hfl:fl.size≤1000000000){i ln:Nat}{c:Int}(h:newD fa fl=(none,i,ln,c)):
  Calls Tryz.prog 11 #[.agg #[.string fa,.string fl]] w fun e w'=>e= .returned (.tuple #[.pointer none,.int .i64 i,.int .i64 ln,.int .i64 c])∧Hid (c≠0)∧Below w.heap.size w w':=by
 refine(rnew_any w fa fl hfa hfl).mono ?_
 rintro e w' ⟨⟨-,h0,h1⟩|⟨d',p,h1,-⟩,hb⟩
 ·rw[h]at h1 h0;exact⟨h1,Lib.hid h0,hb⟩
 ·rw[h]at h1;cases h1
theorem rnew_yes (w:World)(fa fl:ByteArray)(hfa:fa.size≤1000000000)(hfl:fl.size≤1000000000){d:Di}(h:newD fa fl=(some d,0,0,0)):
  Calls Tryz.prog 11 #[.agg #[.string fa,.string fl]] w fun e w'=>∃p,e= .returned (.tuple #[.pointer (some ⟨p,0,none⟩),.int .i64 0,.int .i64 0,.int .i64 0])∧RefAt w' p d∧Below w.heap.size w w':=by
 refine(rnew_any w fa fl hfa hfl).mono ?_
 rintro e w' ⟨⟨h1,-⟩|⟨d',p,h1,h2,h3⟩,hb⟩
 ·rw[h]at h1;cases h1
 ·rw[h]at h1
  obtain rfl:d=d':=Option.some.inj (Prod.mk.inj h1).1
  exact⟨p,h2,h3,hb⟩
set_option maxRecDepth 100000 in
set_option maxHeartbeats 1000000 in
theorem all16_law (w:World)(hT:Tabs9 w)(fa fl:ByteArray)(v:Value)(ws:List ByteArray)(hv:StrsAt w v ws):
  Calls Tryz.prog 3 #[.agg #[.string fa,.string fl],v] w fun e w'=>e= .returned (.bool true)∧Below w.heap.size w w':=by
 obtain⟨A,cap,rfl⟩:=strs_form hv
 have hbd:=strs_bd hv
 obtain⟨n,hn⟩:∃n,n=ws.length:=⟨_,rfl⟩
 rw[←hn]at hv hbd⊢
 obtain⟨W0,hW0⟩:∃W0,W0=w.alloc (.cells #[.string fa,.string fl] 23):=⟨_,rfl⟩
 have hb0:Below w.heap.size w W0:=by rw[hW0];exact(Below.refl _ _).alloc (Nat.le_refl _) _
 have c0:∀wx,Below W0.heap.size W0 wx→wx.cell? ⟨w.heap.size,0,none⟩=some (.string fa)∧wx.cell? ⟨w.heap.size,1,none⟩=some (.string fl):=fun wx hb=>by
  have hs:w.heap.size<W0.heap.size:=by rw[hW0,World.size_alloc];omega
  have e0:W0.cell? ⟨w.heap.size,0,none⟩=some (.string fa):=by rw[hW0];exact news_cell w #[.string fa,.string fl] _ 0
  have e1:W0.cell? ⟨w.heap.size,1,none⟩=some (.string fl):=by rw[hW0];exact news_cell w #[.string fa,.string fl] _ 1
  exact⟨(hb.cell (p:=⟨w.heap.size,0,none⟩) hs).trans e0,(hb.cell (p:=⟨w.heap.size,1,none⟩) hs).trans e1⟩
 obtain⟨c00,c01⟩:=c0 W0 (Below.refl _ _)
 have CF:=Lib.hid (fewfiles_any W0 fa fl)
 have HC:=Lib.hid c0
 have HB:=Lib.hid (And.intro hb0 hT)
 have HO:=Lib.hid (And.intro hn (strs_open hv))
 have AW:=Lib.hid (fun wx (hb:Below w.heap.size w wx)=>(awake16_any wx (tabs_below hT hb)).mono fun e w' h9=>(And.intro h9.1 (hb.trans (h9.2.mono hb.size)):e= .returned (.bool true)∧Below w.heap.size w w'))
 clear c0 hb0 hT hn hv
 by_cases hf:fa.size≤1500∧fl.size≤1500
 case neg=>
  have e1:(decide (fa.size≤1500)&&decide (fl.size≤1500))=false:=by
   rw[Bool.and_eq_false_iff,decide_eq_false_iff_not,decide_eq_false_iff_not]
   by_cases h1:fa.size≤1500
   ·exact .inr fun h2=>hf ⟨h1,h2⟩
   ·exact .inl h1
  rw[e1]at CF
  clear e1 hf
  go_enter Tryz.func3,Tryz.ntmps3
  go_wp2_with (first
   | (go_at_call 8;rw[←hW0];refine CF.out.mono ?_;rintro e w1 ⟨rfl,hb1⟩;have H1:=Lib.hid (HB.out.1.trans (hb1.mono HB.out.1.size));clear hb1)
   | (go_at_call 9;refine(AW.out _ H1.out).mono ?_;rintro e w2 ⟨rfl,hb2⟩;have H2:=Lib.hid hb2;clear hb2))
  go_ret
  exact⟨rfl,H2.out⟩
 rw[decide_eq_true hf.1,decide_eq_true hf.2]at CF
 by_cases hn30:(30:Int)<n
 ·go_enter Tryz.func3,Tryz.ntmps3
  go_wp2_with (first
   | (go_at_call 8;rw[←hW0];refine CF.out.mono ?_;rintro e w1 ⟨rfl,hb1⟩;have H1:=Lib.hid (HB.out.1.trans (hb1.mono HB.out.1.size));clear hb1)
   | (go_at_call 9;refine(AW.out _ H1.out).mono ?_;rintro e w2 ⟨rfl,hb2⟩;have H2:=Lib.hid hb2;clear hb2))
  go_ret
  exact⟨rfl,H2.out⟩
 have HS:=Lib.hid hf
 clear hf
 go_enter Tryz.func3,Tryz.ntmps3
 go_upto_region 3 with(go_at_call 8;rw[←hW0];refine CF.out.mono ?_;rintro e w1 ⟨rfl,hb1⟩;have H1:=Lib.hid hb1;clear hb1)
 obtain⟨z0,z1⟩:=HC.out w1 H1.out
 have HB1:=Lib.hid (show Below w.heap.size w w1 from HB.out.1.trans (H1.out.mono HB.out.1.size))
 clear c00 c01 hW0
 rcases newD_cases fa fl with ⟨fi,li,er,ho⟩|⟨d,ho⟩
 ·have CN:=Lib.hid (new_no w1 fa fl (by have:=HS.out;omega) (by have:=HS.out;omega) (tabs_below HB.out.2 HB1.out) ho)
  have CR:=Lib.hid (fun wx=>rnew_no wx fa fl (by have:=HS.out;omega) (by have:=HS.out;omega) ho)
  clear ho
  go_wp2_with fail
  refine CN.out.mono ?_
  rintro e w2 ⟨rfl,hb2⟩
  obtain⟨z0',z1'⟩:=HC.out w2 (H1.out.trans (hb2.mono H1.out.size))
  have HB2:=Lib.hid (show Below w.heap.size w w2 from HB1.out.trans (hb2.mono HB1.out.size))
  clear hb2 z0 z1
  go_wp2_with fail
  refine(CR.out _).mono ?_
  rintro e w3 ⟨rfl,HER,hb3⟩
  have HB3:=Lib.hid (show Below w.heap.size w w3 from HB2.out.trans (hb3.mono HB2.out.size))
  have g3:¬er=0:=HER.out
  have g6:(er != 0)=true:=by simpa using g3
  clear hb3 z0' z1'
  go_wp2_with (go_at_call 9;refine(AW.out _ HB3.out).mono ?_;rintro e w4 ⟨rfl,hb4⟩;have H4:=Lib.hid hb4;clear hb4)
  go_ret
  exact⟨rfl,H4.out⟩
 have CN:=Lib.hid (new_lg (w0:=w) (w:=w1) fa fl (by have:=HS.out;omega) (by have:=HS.out;omega) (tabs_below HB.out.2 HB1.out) HB1.out ho)
 have CR:=Lib.hid (fun wx=>rnew_yes wx fa fl (by have:=HS.out;omega) (by have:=HS.out;omega) ho)
 clear ho
 go_wp2_with fail
 refine CN.out.mono ?_
 rintro e w2 ⟨p,rfl,hl2,hb2⟩
 obtain⟨z0',z1'⟩:=HC.out w2 (H1.out.trans (hb2.mono H1.out.size))
 have HL2:=Lib.hid hl2
 clear hb2 z0 z1 hl2 CN
 go_wp2_with fail
 refine(CR.out _).mono ?_
 rintro e w3 ⟨q,rfl,g3,hb3⟩
 have HT3:=Lib.hid (show Both16 w w3 p q d from ⟨HL2.out.keep hb3,g3⟩)
 clear g3 hb3 z0' z1' CR
 go_wp2_with fail
 go_loopg [13] n (fun gh i wr=>∃k:Nat,k+gh=n∧i= .int .i64 k∧Hid (Both16 w wr p q d))
 case atStart=>exact⟨0,by omega,rfl,HT3⟩
 case round=>
  obtain⟨k,hk,rfl,HK⟩:=hrel
  have k0:(0:Int)≤k:=by omega
  rcases Nat.eq_zero_or_pos gk with h0|h0
  ·have d1:¬(k:Int)<n:=by omega
   obtain⟨RA,rc,RB,rb,hbx,-,hst⟩:=HK.out.doc.box
   obtain⟨m,hm⟩:∃m,m=d.forms.length:=⟨_,rfl⟩
   rw[←hm]at hbx hst
   have HR:=Lib.hid (And.intro hm (And.intro hbx hst))
   have CFo:=Lib.hid (HK.out.land.keep (Below.refl _ _).drew |>.forms (n:=m) hm.symm)
   have y1:wr.drew.cell? ⟨q,1,none⟩=some (.slice RB m rb):=by
    show wr.cell? _=_
    simp[World.cell?,hbx]
   have HCL:=Lib.hid (show∀wx,Below wr.heap.size wr wx→wx.cell? ⟨q,1,none⟩=some (.slice RB m rb)from fun wx hb=>(hb.cell (p:=⟨q,1,none⟩) (World.block_lt_of_cell? _ _ y1)).trans y1)
   clear hm hbx hst
   go_upto_region 16 with fail
   go_region_with (first
    | (go_at_call 19;refine CFo.out.mono ?_;rintro e w5 ⟨FA,fc,rfl,HFo,hb5⟩;have hb5':=(Below.refl wr.heap.size wr).drew.trans hb5;have y2:=HCL.out _ hb5';have H5:=Lib.hid hb5';clear hb5 hb5')
    | (go_at_call 18;refine(sames_any _ _ _ d.forms d.forms (strs_own HFo.out HR.out.1) ((HR.out.2.2.keep H5.out))).mono ?_;rintro e w6 ⟨hse,hb6⟩;unfold SameE at hse;rw[decide_eq_true rfl]at hse;subst hse;have H6:=Lib.hid ((HK.out.land.keep (H5.out.trans (hb6.mono H5.out.size))));clear hb6)
    | (go_at_call 9;refine(AW.out _ H6.out.below).mono ?_;rintro e w7 ⟨rfl,hb7⟩;have H7:=Lib.hid hb7;clear hb7))
   all_goals
    go_wp2_with fail
    go_ret
    exact⟨rfl,H7.out⟩
  ·have d1:(k:Int)<n:=by omega
   obtain⟨x,hx⟩:∃x,ws[k]?=some x:=⟨_,List.getElem?_eq_getElem (by have:=HO.out.1;omega)⟩
   obtain⟨b,off,rfl,hb,hcp,cx⟩:=HO.out.2 k x hx
   have cx':=(HK.out.land.below.cell (p:=⟨b,off+k,none⟩) hb).trans cx
   clear cx hx hb
   by_cases hz:(100:Int)<x.size
   ·go_wp2_with (go_at_call 9;refine(AW.out _ HK.out.land.below).mono ?_;rintro e w4 ⟨rfl,hb4⟩;have H4:=Lib.hid hb4;clear hb4)
    go_ret
    exact⟨rfl,H4.out⟩
   ·have hzx:x.size≤100:=by omega
    have HSD:=Lib.hid (show wr.drew.cell? ⟨b,off+k,none⟩=some (.string x)∧Hid (Both16 w wr.drew p q d)from ⟨cx',Lib.hid (HK.out.keep (Below.refl _ _).drew)⟩)
    obtain⟨b0,hb0⟩:∃r,hasD d x.data.toList=r:=⟨_,rfl⟩
    obtain⟨b1,hb1⟩:∃r,isD d x.data.toList=r:=⟨_,rfl⟩
    obtain⟨S,hS⟩:∃r,textB (smallD d x.data.toList)=r:=⟨_,rfl⟩
    have C1:=Lib.hid (show∀wx,(wx.cell? ⟨b,off+k,none⟩=some (.string x)∧Hid (Both16 w wx p q d))→Calls Tryz.prog 12 #[.pointer (some ⟨p,0,none⟩),.string x] wx fun e w'=>e= .returned (.bool b0)∧(w'.cell? ⟨b,off+k,none⟩=some (.string x)∧Hid (Both16 w w' p q d))from fun wx hx=>at_calls hx (hx.2.out.land.has (by omega) hb0))
    have C2:=Lib.hid (show∀wx,(wx.cell? ⟨b,off+k,none⟩=some (.string x)∧Hid (Both16 w wx p q d))→Calls Tryz.prog 13 #[.pointer (some ⟨q,0,none⟩),.string x] wx fun e w'=>e= .returned (.bool b0)∧(w'.cell? ⟨b,off+k,none⟩=some (.string x)∧Hid (Both16 w w' p q d))from fun wx hx=>at_calls hx (by have h9:=rhas16_any wx q d hx.2.out.doc x (by omega);rwa[hb0]at h9))
    have C3:=Lib.hid (show∀wx,(wx.cell? ⟨b,off+k,none⟩=some (.string x)∧Hid (Both16 w wx p q d))→Calls Tryz.prog 14 #[.pointer (some ⟨p,0,none⟩),.string x] wx fun e w'=>e= .returned (.bool b1)∧(w'.cell? ⟨b,off+k,none⟩=some (.string x)∧Hid (Both16 w w' p q d))from fun wx hx=>at_calls hx (hx.2.out.land.is (by omega) hb1))
    have C4:=Lib.hid (show∀wx,(wx.cell? ⟨b,off+k,none⟩=some (.string x)∧Hid (Both16 w wx p q d))→Calls Tryz.prog 15 #[.pointer (some ⟨q,0,none⟩),.string x] wx fun e w'=>e= .returned (.bool b1)∧(w'.cell? ⟨b,off+k,none⟩=some (.string x)∧Hid (Both16 w w' p q d))from fun wx hx=>at_calls hx (by have h9:=ris_any wx q d hx.2.out.doc x;rwa[hb1]at h9))
    have C5:=Lib.hid (show∀wx,(wx.cell? ⟨b,off+k,none⟩=some (.string x)∧Hid (Both16 w wx p q d))→Calls Tryz.prog 16 #[.pointer (some ⟨p,0,none⟩),.string x] wx fun e w'=>e= .returned (.string S)∧(w'.cell? ⟨b,off+k,none⟩=some (.string x)∧Hid (Both16 w w' p q d))from fun wx hx=>at_calls hx (by have h9:=small_dict wx p d hx.2.out.land.at_ x (by omega);rwa[hS]at h9))
    have C6:=Lib.hid (show∀wx,(wx.cell? ⟨b,off+k,none⟩=some (.string x)∧Hid (Both16 w wx p q d))→Calls Tryz.prog 17 #[.pointer (some ⟨q,0,none⟩),.string x] wx fun e w'=>e= .returned (.string S)∧(w'.cell? ⟨b,off+k,none⟩=some (.string x)∧Hid (Both16 w w' p q d))from fun wx hx=>at_calls hx (by have h9:=rsmall16_any wx q d hx.2.out.doc x (by omega);rwa[hS]at h9))
    have q1:(b0==b0)=true:=by simp
    have q2:(b1==b1)=true:=by simp
    have q3:(S.toList==S.toList)=true:=by simp
    have q4:(b0 != b0)=false:=by simp
    have q5:(b1 != b1)=false:=by simp
    clear hb0 hb1 hS
    go_upto_region 14 with fail
    go_region_held3 (fun wx=>wx.cell? ⟨b,off+k,none⟩=some (.string x)∧Hid (Both16 w wx p q d))
     (first|exact HSD.out|assumption)
     (first
      | (go_at_call 12;refine(C1.out _ (by assumption)).mono ?_;rintro e w5 ⟨rfl,hs5⟩)
      | (go_at_call 13;refine(C2.out _ (by assumption)).mono ?_;rintro e w6 ⟨rfl,hs6⟩)
      | (go_at_call 14;refine(C3.out _ (by assumption)).mono ?_;rintro e w7 ⟨rfl,hs7⟩)
      | (go_at_call 15;refine(C4.out _ (by assumption)).mono ?_;rintro e w8 ⟨rfl,hs8⟩)
      | (go_at_call 16;refine(C5.out _ (by assumption)).mono ?_;rintro e w9 ⟨rfl,hs9⟩)
      | (go_at_call 17;refine(C6.out _ (by assumption)).mono ?_;rintro e w10 ⟨rfl,hs10⟩))
    go_wp2_with fail
    go_roundg (gk-1)
    case measure=>omega
    case rel=>exact⟨k+1,by omega,by go_num,hs10.2⟩
end Go.Proofs.YtfehpcbmdancoaaGreatDoor
