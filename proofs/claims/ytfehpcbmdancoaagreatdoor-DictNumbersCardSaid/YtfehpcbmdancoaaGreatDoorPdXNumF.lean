/- Stage 16's law DictNumbers: files by numbers make a language. -/
import Derived.Test.YtfehpcbmdancoaaGreatDoorPdPbNPlain
import Derived.Test.YtfehpcbmdancoaaGreatDoorPdPbXDict
import Derived.Test.YtfehpcbmdancoaaGreatDoorPdPbZForms
import Derived.Test.YtfehpcbmdancoaaGreatDoorPdXNumW
import Derived.Test.YtfehpcbmdancoaaGreatDoorPdYList
set_option maxRecDepth 100000
set_option maxHeartbeats 1000000
namespace Go.Proofs.YtfehpcbmdancoaaGreatDoor
open Go Go.RowKit Go.Lib
def affNum (S:ByteArray):Bool:=affOk S&&decide ((parseA S).2.2=0)
def dNum (S:ByteArray)(ks:List Nat):Di:=⟨allF (parseA S).1.rules (esOf (ks.map itemL)),(parseA S).1.pairs⟩
theorem isform_size {rs:List Ru}{e:En}(hr:∀r∈rs,r.add.size≤20)(he:e.word.size≤10){x:ByteArray}(h:IsForm rs e x):x.size≤50:=by
 rcases h with rfl|⟨r,h1,-,-,rfl⟩|⟨p,h1,s,h2,-,-,-,rfl⟩
 ·omega
 ·have:=apply_size r e.word;have:=hr r h1;omega
 ·have:=both_size p s e.word;have:=hr p h1;have:=hr s h2;omega
theorem num_size {S:ByteArray}(hS:affOk S=true)(ks:List Nat):∀x∈(dNum S ks).forms,x.size≤50:=by
 intro x hx;obtain⟨-,-,h3⟩:=affOk_says hS;obtain⟨e,he,hf⟩:=(allF_mem _ _ _).1 hx;exact isform_size (fun r hr=>(ruOk_says (h3 r hr)).2.2.2.1) (enOk_says (items_few ks e he)).1 hf
theorem num_len {S:ByteArray}(hS:affOk S=true){ks:List Nat}(hk:ks.length≤30):(dNum S ks).forms.length≤3330:=by
 obtain⟨-,h2,-⟩:=affOk_says hS;have h:=allF_len (parseA S).1.rules (esOf (ks.map itemL));have he:(esOf (ks.map itemL)).length≤30:=by rw[items_es];exact hk
 have h3:(parseA S).1.rules.length*((parseA S).1.rules.length+1)≤10*11:=Nat.mul_le_mul h2 (by omega);have h4:(esOf (ks.map itemL)).length*(1+(parseA S).1.rules.length*((parseA S).1.rules.length+1))≤30*111:=Nat.mul_le_mul he (by omega);unfold dNum;dsimp only;omega
theorem num_new {S:ByteArray}(hS:affNum S=true){ks:List Nat}(hk:ks.length≤30):newD S ⟨(listL ks).toArray⟩=(some (dNum S ks),0,0,0):=by
 unfold affNum at hS;rw[Bool.and_eq_true,decide_eq_true_eq]at hS;obtain⟨h1,h0⟩:=hS;have hz:=num_size h1 ks;have hp:=list_parse hk;obtain⟨-,h2,-⟩:=affOk_says h1;have he:(esOf (ks.map itemL)).length≤30:=by rw[items_es];exact hk
 have ha:=allL_ok h2 he;have hl:longD (allF (parseA S).1.rules (esOf (ks.map itemL)))=false:=by
  unfold longD;rw[List.any_eq_false];intro x hx;have:x.size≤50:=hz x hx;simp;omega
 unfold newD;rw[if_neg (by rw[h0];simp),hp];dsimp only;rw[if_neg (by simp),ha];dsimp only;rw[if_neg (by simp),hl,if_neg (by simp)];rfl
theorem affix16_any (x:Int)(w:World):
  Calls Tryz.prog 20 #[.int .i64 x] w fun e w'=>(∃S:ByteArray,e= .returned (.string S)∧S.size≤250∧affNum S=true)∧w'=w:=by
 have C:=hid (place9 x 1048576 w (by omega) (by omega));obtain⟨k,hk⟩:∃k,k=x%1048576:=⟨_,rfl⟩;rw[←hk]at C;clear hk;go_enter Tryz.func20,Tryz.ntmps20;go_wp2_with (go_at_call 27;refine C.out.mono ?_;rintro e w1 ⟨rfl,rfl⟩);all_goals
  go_ret;exact⟨⟨_,rfl,by decide,by decide +kernel⟩,rfl⟩
end Go.Proofs.YtfehpcbmdancoaaGreatDoor
set_option maxRecDepth 100000
set_option maxHeartbeats 4000000
namespace Go.Proofs.YtfehpcbmdancoaaGreatDoor
open Go Go.RowKit Go.Lib
structure FmAt (w0 wx:World)(p q:Nat)(d:Di)(v u:Value):Prop where
 both:Both16 w0 wx p q d
 all:StrsAt wx v d.forms
 prs:PairsAt wx u d.pairs
theorem FmAt.keep {w0 w w':World}{p q:Nat}{d:Di}{v u:Value}(h:FmAt w0 w p q d v u)(hb:Below w.heap.size w w'):FmAt w0 w' p q d v u:=⟨h.both.keep hb,h.all.keep hb,h.prs.keep hb⟩
def SF (w0:World)(p q:Nat)(d:Di)(v u:Value)(a:Addr)(s:ByteArray)(wx:World):Prop:=wx.cell? a=some (.string s)∧wx.cell? ⟨q,0,none⟩=some u∧Hid (FmAt w0 wx p q d v u)
theorem SF.keep {w0 w w':World}{p q:Nat}{d:Di}{v u:Value}{a:Addr}{s:ByteArray}(h:SF w0 p q d v u a s w)(hb:Below w.heap.size w w'):SF w0 p q d v u a s w':=
 ⟨(hb.cell (World.block_lt_of_cell? _ _ h.1)).trans h.1,(hb.cell (p:=⟨q,0,none⟩) (World.block_lt_of_cell? _ _ h.2.1)).trans h.2.1,hid (h.2.2.out.keep hb)⟩
theorem sf_calls {w0 wx:World}{p q:Nat}{d:Di}{v u:Value}{a:Addr}{s:ByteArray}{P:Program}{f:Nat}{args:Array Value}{r:Value}(h:SF w0 p q d v u a s wx)(hc:Calls P f args wx fun e w'=>e= .returned r∧Below wx.heap.size wx w'):
  Calls P f args wx fun e w'=>e= .returned r∧(w'.cell? a=some (.string s)∧w'.cell? ⟨q,0,none⟩=some u∧Hid (FmAt w0 w' p q d v u)):=
 hc.mono fun _e _w' h9=>⟨h9.1,h.keep h9.2⟩
section
variable {P : Program} {ops : Array Oper} {Q : Exit → Act → World → Prop} {md : Region.Mode} {S : World → Prop} {L L' : Array Bool} {a a' : Act} {w : World} {v : Value} {i d k n fuel : Nat} {op : Op} {ty : TypeId} {ps : String} {af : Array Edge} {gd : Option (Nat × Bool)}
structure Tk (P:Program)(ops:Array Oper)(Q:Exit→Act→World→Prop)(md:Region.Mode)(S:World→Prop)(i d:Nat)(o:Oper)(v:Value)(L L':Array Bool)(a a':Act)(w:World):Prop where
 hs:(Region.noSelect ops&&Region.free md ops L i&&(Region.ready md ops L).contains i)=true
 hy:YieldsIf P ops S o v a
 hS:S w
 hl:L.setIfInBounds i true=L'
 ha:a.put (some d) v=a'
 hQ:∀c (a:Act) (w:World),Q (.panic c) (a.put (some d) v) w→Q (.panic c) a w
theorem fz (e:ops.size=n)(h:wpAnyH P md ops Q S n L a w):wpAnyH P md ops Q S ops.size L a w:=e▸h
theorem tk (hk:fuel+1=k)(hn:i+k=59)(hi:ops[i]?=some ⟨some d,op,ty,ps,af,gd⟩)(t:Tk P ops Q md S i d ⟨some d,op,ty,ps,af,gd⟩ v L L' a a' w)
  (h:wpAnyH P md ops Q S fuel L' a' w):wpAnyH P md ops Q S k L a w:=by
 subst hk;have hs:=t.hs;rw[Bool.and_eq_true,Bool.and_eq_true]at hs;exact wpAnyH_take hi hs.1.1 hs.1.2 hs.2 t.hQ t.hy t.hS (by rw[t.hl,t.ha];exact h)
end
theorem num16_law (w:World)(hT:Tabs9 w)(x:Int)(v1 v2:Value)(ls zs:List Int)(hl:IntsAt w v1 ls)(hz:IntsAt w v2 zs):
  Calls Tryz.prog 4 #[.int .i64 x,v1,v2] w fun e w'=>e= .returned (.bool true)∧Below w.heap.size w w':=by
 have CA:=hid (affix16_any x w);have CL:=hid (list_any w v1 ls hl);have AW:=hid (fun wx (hb:Below w.heap.size w wx)=>(awake16_any wx (tabs_below hT hb)).mono fun e w' h9=>(And.intro h9.1 (hb.trans (h9.2.mono hb.size)):e= .returned (.bool true)∧Below w.heap.size w w'));have hbd:=ints_bd hz;obtain⟨A2,cap2,rfl,hA2⟩:=ints_open hz;obtain⟨A1,cap1,rfl,-⟩:=ints_open hl;obtain⟨n,hn⟩:∃n,n=zs.length:=⟨_,rfl⟩;rw[←hn]at hA2 hbd⊢;have HO:=hid (And.intro hn hA2);have HT:=hid hT;have hk:(keys ls).length≤30:=by rw[keys_len];omega
 have HKL:=hid hk;obtain⟨fl,hfl⟩:∃fl,fl=(⟨(listL (keys ls)).toArray⟩:ByteArray):=⟨_,rfl⟩;have hflz:fl.size≤1000:=by
  rw[hfl,ba_len];have:=listL_len (keys ls);omega
 rw[←hfl]at CL;have HFL:=hid (And.intro hfl hflz);clear hn hA2 hz hl hT hk hfl hflz;go_enter Tryz.func4,Tryz.ntmps4;go_upto_region 2 with(first
  | (go_at_call 20;refine CA.out.mono ?_;rintro e w1 ⟨⟨fa,rfl,haz,han⟩,rfl⟩;have HFA:=hid (And.intro haz han);clear haz han)
  | (go_at_call 21;refine CL.out.mono ?_;rintro e w2 ⟨rfl,hb2⟩;have HB2:=hid hb2;clear hb2))
 obtain⟨W0,hW0⟩:∃W0,W0=w2.alloc (.cells #[.string fa,.string fl] 23):=⟨_,rfl⟩;rw[←hW0];have hb0:Below w1.heap.size w1 W0:=by rw[hW0];exact HB2.out.alloc HB2.out.size _
 have c0:∀wx,Below W0.heap.size W0 wx→wx.cell? ⟨w2.heap.size,0,none⟩=some (.string fa)∧wx.cell? ⟨w2.heap.size,1,none⟩=some (.string fl):=fun wx hb=>by
  have hs:w2.heap.size<W0.heap.size:=by rw[hW0,World.size_alloc];omega
  have e0:W0.cell? ⟨w2.heap.size,0,none⟩=some (.string fa):=by rw[hW0];exact news_cell w2 #[.string fa,.string fl] _ 0
  have e1:W0.cell? ⟨w2.heap.size,1,none⟩=some (.string fl):=by rw[hW0];exact news_cell w2 #[.string fa,.string fl] _ 1
  exact⟨(hb.cell (p:=⟨w2.heap.size,0,none⟩) hs).trans e0,(hb.cell (p:=⟨w2.heap.size,1,none⟩) hs).trans e1⟩
 obtain⟨c00,c01⟩:=c0 W0 (Below.refl _ _);have HC:=hid c0;have ho:newD fa fl=(some (dNum fa (keys ls)),0,0,0):=by rw[HFL.out.1];exact num_new HFA.out.2 HKL.out
 have hfa9:fa.size≤1000000000:=by have:=HFA.out.1;omega
 have hfl9:fl.size≤1000000000:=by have:=HFL.out.2;omega
 obtain⟨d,hd⟩:∃d,d=dNum fa (keys ls):=⟨_,rfl⟩;rw[←hd]at ho;have HD:=hid hd;have CN:=hid (new_lg (w0:=w1) (w:=W0) fa fl hfa9 hfl9 (tabs_below HT.out hb0) hb0 ho);have CR:=hid (fun wx=>rnew_yes wx fa fl hfa9 hfl9 ho);clear ho hd hfa9 hfl9 c0 hb0 hW0 CA CL;go_wp2_with fail;refine CN.out.mono ?_;rintro e w3 ⟨p,rfl,hl3,hb3⟩;obtain⟨z0',z1'⟩:=HC.out w3 hb3;have HL3:=hid hl3;clear hb3 c00 c01 hl3 CN;go_wp2_with fail;refine(CR.out _).mono ?_;rintro e w4 ⟨q,rfl,g4,hb4⟩;have HT4:=hid (show Both16 w1 w4 p q d from ⟨HL3.out.keep hb4,g4⟩);clear g4 hb4 z0' z1' CR HC;go_wp2_with fail;refine HT4.out.land.auto.mono ?_;rintro e w5 ⟨q5,rfl,-,hw⟩;obtain rfl:w4=w5:=hw.symm;go_wp2_with fail;obtain⟨M,hM⟩:∃M,M=min n 60:=⟨_,rfl⟩;have hM1:M≤n∧M≤60∧(M=n∨M=60):=by omega
 clear hM;go_loopg [16] M (fun gh i wr=>∃k:Nat,k+gh=M∧i= .int .i64 k∧Hid (Both16 w1 wr p q d))
 case atStart=>exact⟨0,by omega,rfl,HT4⟩
 case round=>
  obtain⟨k,hk,rfl,HK⟩:=hrel;go_upto_region 7 with fail;go_cut [16,61] (fun b t wx=>b= .int .i64 k∧t= .bool (decide (k<M))∧wr=wx)
  case first=>
   by_cases h1:k<n
   ·have d1:(k:Int)<n:=by omega
    by_cases h2:k<60
    ·have d2:(k:Int)<60:=by omega
     have h3:k<M:=by omega
     have h4:decide (k<M)=true:=decide_eq_true h3;clear h1 h2 h3;go_wp2_with fail;go_meet;exact⟨rfl,by rw[h4],rfl⟩
    ·have d2:¬(k:Int)<60:=by omega
     have h3:¬k<M:=by omega
     have h4:decide (k<M)=false:=decide_eq_false h3;clear h1 h2 h3;go_wp2_with fail;go_meet;exact⟨rfl,by rw[h4],rfl⟩
   ·have d1:¬(k:Int)<n:=by omega
    have h3:¬k<M:=by omega
    have h4:decide (k<M)=false:=decide_eq_false h3;clear h1 h3;go_wp2_with fail;go_meet;exact⟨rfl,by rw[h4],rfl⟩
  case rest=>
  obtain⟨rfl,ht,rfl⟩:=hcut;rcases Nat.eq_zero_or_pos gk with h0|h0
  ·have h4:decide (k<M)=false:=decide_eq_false (by omega);rw[h4]at ht;subst ht;obtain⟨m,hm⟩:∃m,m=d.forms.length:=⟨_,rfl⟩;go_wp2_with fail;refine(HK.out.land.forms (n:=m) hm.symm).mono ?_;rintro e w5 ⟨FA,fc,rfl,HFo,hb5⟩;have hm9:m≤3330:=by rw[hm,HD.out];exact num_len (by have:=HFA.out.2;unfold affNum at this;rw[Bool.and_eq_true]at this;exact this.1) HKL.out
   have H5:=hid (And.intro (HK.out.keep hb5) (strs_own HFo.out hm));have HM:=hid hm;clear hb5 HFo hm h4 h0 hM1;go_wp2_with fail;go_loopg [19] m (fun gh i wq=>∃j:Nat,j+gh=m∧i= .int .i64 j∧Hid (Both16 w1 wq p q d∧StrsAt wq (.slice FA m fc) d.forms))
   case atStart=>exact⟨0,by omega,rfl,H5⟩
   case round=>
    obtain⟨j,hj,rfl,HJ⟩:=hrel;rcases Nat.eq_zero_or_pos gk with h0|h0
    ·have d1:¬(j:Int)<m:=by omega
     obtain⟨RA,rc,RB,rb,hbx,-,hst⟩:=HJ.out.1.doc.box;rw[←HM.out]at hbx hst;have y1:wr.cell? ⟨q,1,none⟩=some (.slice RB m rb):=by simp[World.cell?,hbx]
     have HST:=hid hst;clear hbx hst;go_wp2_with (first
      | (go_at_call 18;refine(sames_any wr _ _ d.forms d.forms HJ.out.2 HST.out).mono ?_;rintro e w6 ⟨hse,hb6⟩;unfold SameE at hse;rw[decide_eq_true rfl]at hse;subst hse;have H6:=hid (HJ.out.1.land.keep hb6);clear hb6)
      | (go_at_call 9;refine(AW.out _ H6.out.below).mono ?_;rintro e w7 ⟨rfl,hb7⟩;have H7:=hid hb7;clear hb7))
     go_ret;exact⟨rfl,H7.out⟩
    ·have d1:(j:Int)<m:=by omega
     obtain⟨s,hs⟩:∃s,d.forms[j]?=some s:=⟨_,List.getElem?_eq_getElem (by have:=HM.out;omega)⟩;obtain⟨b,off,rfl,hb,hcp,cx⟩:=strs_open HJ.out.2 j s hs;obtain⟨PA,pc,RB,rb,hbx,hpr,-⟩:=HJ.out.1.doc.box;have hsz:s.size≤200:=HJ.out.1.doc.forms.2.2 s (List.mem_of_getElem? hs);have hpn:d.pairs.length≤200:=HJ.out.1.doc.pairs.2;obtain⟨np,hnp⟩:∃np,np=d.pairs.length:=⟨_,rfl⟩;rw[←hnp]at hbx hpr hpn;have y0:wr.cell? ⟨q,0,none⟩=some (.slice PA np pc):=by simp[World.cell?,hbx]
     have hi:=is_form (d:=d) (List.mem_of_getElem? hs);have hh:=has_is hi;obtain⟨T,hT⟩:∃T,T=(⟨(titleT d.pairs s.data.toList).toArray⟩:ByteArray):=⟨_,rfl⟩;have hTl:T.data.toList=titleT d.pairs s.data.toList:=by rw[hT]
     have hTz:T.size≤204:=by
      rw[Lib.size_eq,hTl];have:=title_len d.pairs s.data.toList;have:=Lib.size_eq s;omega
     obtain⟨K,hK⟩:∃K,shapeT d.pairs s.data.toList=K:=⟨_,rfl⟩;obtain⟨L,hL⟩:∃L,shapeT d.pairs T.data.toList=L:=⟨_,rfl⟩;obtain⟨bT,hbT⟩:∃r,hasD d T.data.toList=r:=⟨_,rfl⟩;have hkey:bT=true∨(bT=false∧K≠0)∨(bT=false∧K=0∧L≠1):=by
      cases bT with
      | true=>exact .inl rfl
      | false=>
        by_cases h1:K=0
        ·by_cases h2:L=1
         ·rw[hTl]at hL hbT;have h5:=has_title HJ.out.1.doc.pairs.1 hi (hK.trans h1) (hL.trans h2);rw[h5]at hbT;cases hbT
         ·exact .inr (.inr ⟨rfl,h1,h2⟩)
        ·exact .inr (.inl ⟨rfl,h1⟩)
     have C1:=hid (show∀wx,SF w1 p q d (.slice (some ⟨b,off,none⟩) m fc) (.slice PA np pc) ⟨b,off+j,none⟩ s wx→Calls Tryz.prog 12 #[.pointer (some ⟨p,0,none⟩),.string s] wx fun e w'=>e= .returned (.bool true)∧(w'.cell? ⟨b,off+j,none⟩=some (.string s)∧w'.cell? ⟨q,0,none⟩=some (.slice PA np pc)∧Hid (FmAt w1 w' p q d (.slice (some ⟨b,off,none⟩) m fc) (.slice PA np pc)))from fun wx hx=>sf_calls hx (hx.2.2.out.both.land.has (by omega) hh));have C2:=hid (show∀wx,SF w1 p q d (.slice (some ⟨b,off,none⟩) m fc) (.slice PA np pc) ⟨b,off+j,none⟩ s wx→Calls Tryz.prog 14 #[.pointer (some ⟨p,0,none⟩),.string s] wx fun e w'=>e= .returned (.bool true)∧(w'.cell? ⟨b,off+j,none⟩=some (.string s)∧w'.cell? ⟨q,0,none⟩=some (.slice PA np pc)∧Hid (FmAt w1 w' p q d (.slice (some ⟨b,off,none⟩) m fc) (.slice PA np pc)))from fun wx hx=>sf_calls hx (hx.2.2.out.both.land.is (by omega) hi));have C3:=hid (show∀wx,SF w1 p q d (.slice (some ⟨b,off,none⟩) m fc) (.slice PA np pc) ⟨b,off+j,none⟩ s wx→Calls Tryz.prog 25 #[.slice PA np pc,.string s] wx fun e w'=>e= .returned (.string T)∧(w'.cell? ⟨b,off+j,none⟩=some (.string s)∧w'.cell? ⟨q,0,none⟩=some (.slice PA np pc)∧Hid (FmAt w1 w' p q d (.slice (some ⟨b,off,none⟩) m fc) (.slice PA np pc)))from fun wx hx=>sf_calls hx (by rw[hT];exact Fo.title14 wx PA np pc d.pairs s hx.2.2.out.prs hnp (by omega) (by omega)));have C4:=hid (show∀wx,SF w1 p q d (.slice (some ⟨b,off,none⟩) m fc) (.slice PA np pc) ⟨b,off+j,none⟩ s wx→Calls Tryz.prog 12 #[.pointer (some ⟨p,0,none⟩),.string T] wx fun e w'=>e= .returned (.bool bT)∧(w'.cell? ⟨b,off+j,none⟩=some (.string s)∧w'.cell? ⟨q,0,none⟩=some (.slice PA np pc)∧Hid (FmAt w1 w' p q d (.slice (some ⟨b,off,none⟩) m fc) (.slice PA np pc)))from fun wx hx=>sf_calls hx (hx.2.2.out.both.land.has (by omega) hbT));have C5:=hid (show∀wx,SF w1 p q d (.slice (some ⟨b,off,none⟩) m fc) (.slice PA np pc) ⟨b,off+j,none⟩ s wx→Calls Tryz.prog 26 #[.slice PA np pc,.string s] wx fun e w'=>e= .returned (.int .i64 K)∧(w'.cell? ⟨b,off+j,none⟩=some (.string s)∧w'.cell? ⟨q,0,none⟩=some (.slice PA np pc)∧Hid (FmAt w1 w' p q d (.slice (some ⟨b,off,none⟩) m fc) (.slice PA np pc)))from fun wx hx=>sf_calls hx (by rw[←hK];exact Fo.shape14 wx PA np pc d.pairs s hx.2.2.out.prs hnp (by omega) (by omega)));have C6:=hid (show∀wx,SF w1 p q d (.slice (some ⟨b,off,none⟩) m fc) (.slice PA np pc) ⟨b,off+j,none⟩ s wx→Calls Tryz.prog 26 #[.slice PA np pc,.string T] wx fun e w'=>e= .returned (.int .i64 L)∧(w'.cell? ⟨b,off+j,none⟩=some (.string s)∧w'.cell? ⟨q,0,none⟩=some (.slice PA np pc)∧Hid (FmAt w1 w' p q d (.slice (some ⟨b,off,none⟩) m fc) (.slice PA np pc)))from fun wx hx=>sf_calls hx (by rw[←hL];exact Fo.shape14 wx PA np pc d.pairs T hx.2.2.out.prs hnp (by omega) (by omega)));have HSD:=hid (show wr.cell? ⟨b,off+j,none⟩=some (.string s)∧wr.cell? ⟨q,0,none⟩=some (.slice PA np pc)∧Hid (FmAt w1 wr p q d (.slice (some ⟨b,off,none⟩) m fc) (.slice PA np pc))from ⟨cx,y0,hid ⟨HJ.out.1,HJ.out.2,hpr⟩⟩);have HSD':=hid (show wr.drew.cell? ⟨b,off+j,none⟩=some (.string s)∧wr.drew.cell? ⟨q,0,none⟩=some (.slice PA np pc)∧Hid (FmAt w1 wr.drew p q d (.slice (some ⟨b,off,none⟩) m fc) (.slice PA np pc))from SF.keep (w:=wr) HSD.out (Below.refl _ _).drew);clear hK hL hbT hT hTl hTz hi hh hpr hbx hs hb hnp hpn hsz y0 cx;rcases hkey with rfl|⟨rfl,hk0⟩|⟨rfl,rfl,hl1⟩
     ·go_upto_region 16 with fail;refine wp_region_held_drew (S:=fun wx=>wx.cell? ⟨b,off+j,none⟩=some (.string s)∧wx.cell? ⟨q,0,none⟩=some (.slice PA np pc)∧Hid (FmAt w1 wx p q d (.slice (some ⟨b,off,none⟩) m fc) (.slice PA np pc))) (by kernel_rfl) (by first|exact HSD.out|exact HSD'.out) (fun hHeld=>?_);refine fz (n:=59) rfl ?_
      iterate 5 (
       refine tk (v:=?_) (L':=?_) (a':=?_) rfl rfl rfl ⟨by kernel_rfl,?_,by assumption,?_,?_,fun _ _ _ h=>h⟩ ?_;rotate_left 3
       ·first|exact Or.inr ⟨by rfl,by rfl⟩|(refine Or.inl ⟨by rfl,?_⟩;intro w hSw;obtain⟨hS1,hS2,-⟩:=hSw;go_simp;first|done|with_reducible rfl)
       ·(try simp only[List.setIfInBounds_toArray,List.set_cons_zero,List.set_cons_succ]);rfl
       ·(try simp only[Act.put,List.setIfInBounds_toArray,List.set_cons_zero,List.set_cons_succ]);rfl)
      refine wpAnyH_ready (rs:=[5]) (by kernel_rfl) (by simp) ?_;refine AllReadyH.cons (o:={ dst:=some 108,op:=_,type:=_,pos:=_,after:=_,guard:=_ }) rfl (fun K hK=>?_) AllReadyH.nil;go_simp;refine(C1.out _ (by assumption)).mono ?_;rintro e w21 ⟨rfl,hs21⟩;go_wp2_with fail;refine hK.out _ _ hs21 (fun hHeld21=>?_);clear hK K;try simp only[Act.put,List.setIfInBounds_toArray,List.set_cons_zero,List.set_cons_succ]
      iterate 7 (
       refine tk (v:=?_) (L':=?_) (a':=?_) rfl rfl rfl ⟨by kernel_rfl,?_,by assumption,?_,?_,fun _ _ _ h=>h⟩ ?_;rotate_left 3
       ·first|exact Or.inr ⟨by rfl,by rfl⟩|(refine Or.inl ⟨by rfl,?_⟩;intro w hSw;obtain⟨hS1,hS2,-⟩:=hSw;go_simp;first|done|with_reducible rfl)
       ·(try simp only[List.setIfInBounds_toArray,List.set_cons_zero,List.set_cons_succ]);rfl
       ·(try simp only[Act.put,List.setIfInBounds_toArray,List.set_cons_zero,List.set_cons_succ]);rfl)
      refine wpAnyH_ready (rs:=[13]) (by kernel_rfl) (by simp) ?_;refine AllReadyH.cons (o:={ dst:=some 116,op:=_,type:=_,pos:=_,after:=_,guard:=_ }) rfl (fun K hK=>?_) AllReadyH.nil;go_simp;refine(C2.out _ (by assumption)).mono ?_;rintro e w22 ⟨rfl,hs22⟩;go_wp2_with fail;refine hK.out _ _ hs22 (fun hHeld22=>?_);clear hK K;try simp only[Act.put,List.setIfInBounds_toArray,List.set_cons_zero,List.set_cons_succ]
      iterate 12 (
       refine tk (v:=?_) (L':=?_) (a':=?_) rfl rfl rfl ⟨by kernel_rfl,?_,by assumption,?_,?_,fun _ _ _ h=>h⟩ ?_;rotate_left 3
       ·first|exact Or.inr ⟨by rfl,by rfl⟩|(refine Or.inl ⟨by rfl,?_⟩;intro w hSw;obtain⟨hS1,hS2,-⟩:=hSw;go_simp;first|done|with_reducible rfl)
       ·(try simp only[List.setIfInBounds_toArray,List.set_cons_zero,List.set_cons_succ]);rfl
       ·(try simp only[Act.put,List.setIfInBounds_toArray,List.set_cons_zero,List.set_cons_succ]);rfl)
      refine wpAnyH_ready (rs:=[26]) (by kernel_rfl) (by simp) ?_;refine AllReadyH.cons (o:={ dst:=some 129,op:=_,type:=_,pos:=_,after:=_,guard:=_ }) rfl (fun K hK=>?_) AllReadyH.nil;go_simp;refine(C3.out _ (by assumption)).mono ?_;rintro e w23 ⟨rfl,hs23⟩;go_wp2_with fail;refine hK.out _ _ hs23 (fun hHeld23=>?_);clear hK K;try simp only[Act.put,List.setIfInBounds_toArray,List.set_cons_zero,List.set_cons_succ]
      refine wpAnyH_ready (rs:=[27]) (by kernel_rfl) (by simp) ?_;refine AllReadyH.cons (o:={ dst:=some 130,op:=_,type:=_,pos:=_,after:=_,guard:=_ }) rfl (fun K hK=>?_) AllReadyH.nil;go_simp;refine(C4.out _ (by assumption)).mono ?_;rintro e w24 ⟨rfl,hs24⟩;go_wp2_with fail;refine hK.out _ _ hs24 (fun hHeld24=>?_);clear hK K;try simp only[Act.put,List.setIfInBounds_toArray,List.set_cons_zero,List.set_cons_succ]
      iterate 31 (
       refine tk (v:=?_) (L':=?_) (a':=?_) rfl rfl rfl ⟨by kernel_rfl,?_,by assumption,?_,?_,fun _ _ _ h=>h⟩ ?_;rotate_left 3
       ·first|exact Or.inr ⟨by rfl,by rfl⟩|(refine Or.inl ⟨by rfl,?_⟩;intro w hSw;obtain⟨hS1,hS2,-⟩:=hSw;go_simp;first|done|with_reducible rfl)
       ·(try simp only[List.setIfInBounds_toArray,List.set_cons_zero,List.set_cons_succ]);rfl
       ·(try simp only[Act.put,List.setIfInBounds_toArray,List.set_cons_zero,List.set_cons_succ]);rfl)
      refine wpAnyH_done (by kernel_rfl) ?_ _;go_wp2_with fail;go_roundg (gk-1)
      case measure=>omega
      case rel=>exact⟨j+1,by omega,by go_num,hid ⟨(hs24.2.2.out).both,(hs24.2.2.out).all⟩⟩
     ·have e1:(K==0)=false:=by simp[hk0]
      have e2:decide (K=0)=false:=decide_eq_false hk0;clear hk0;go_upto_region 16 with fail;refine wp_region_held_drew (S:=fun wx=>wx.cell? ⟨b,off+j,none⟩=some (.string s)∧wx.cell? ⟨q,0,none⟩=some (.slice PA np pc)∧Hid (FmAt w1 wx p q d (.slice (some ⟨b,off,none⟩) m fc) (.slice PA np pc))) (by kernel_rfl) (by first|exact HSD.out|exact HSD'.out) (fun hHeld=>?_);refine fz (n:=59) rfl ?_
      iterate 5 (
       refine tk (v:=?_) (L':=?_) (a':=?_) rfl rfl rfl ⟨by kernel_rfl,?_,by assumption,?_,?_,fun _ _ _ h=>h⟩ ?_;rotate_left 3
       ·first|exact Or.inr ⟨by rfl,by rfl⟩|(refine Or.inl ⟨by rfl,?_⟩;intro w hSw;obtain⟨hS1,hS2,-⟩:=hSw;go_simp;first|done|with_reducible rfl)
       ·(try simp only[List.setIfInBounds_toArray,List.set_cons_zero,List.set_cons_succ]);rfl
       ·(try simp only[Act.put,List.setIfInBounds_toArray,List.set_cons_zero,List.set_cons_succ]);rfl)
      refine wpAnyH_ready (rs:=[5]) (by kernel_rfl) (by simp) ?_;refine AllReadyH.cons (o:={ dst:=some 108,op:=_,type:=_,pos:=_,after:=_,guard:=_ }) rfl (fun K hK=>?_) AllReadyH.nil;go_simp;refine(C1.out _ (by assumption)).mono ?_;rintro e w21 ⟨rfl,hs21⟩;go_wp2_with fail;refine hK.out _ _ hs21 (fun hHeld21=>?_);clear hK K;try simp only[Act.put,List.setIfInBounds_toArray,List.set_cons_zero,List.set_cons_succ]
      iterate 7 (
       refine tk (v:=?_) (L':=?_) (a':=?_) rfl rfl rfl ⟨by kernel_rfl,?_,by assumption,?_,?_,fun _ _ _ h=>h⟩ ?_;rotate_left 3
       ·first|exact Or.inr ⟨by rfl,by rfl⟩|(refine Or.inl ⟨by rfl,?_⟩;intro w hSw;obtain⟨hS1,hS2,-⟩:=hSw;go_simp;first|done|with_reducible rfl)
       ·(try simp only[List.setIfInBounds_toArray,List.set_cons_zero,List.set_cons_succ]);rfl
       ·(try simp only[Act.put,List.setIfInBounds_toArray,List.set_cons_zero,List.set_cons_succ]);rfl)
      refine wpAnyH_ready (rs:=[13]) (by kernel_rfl) (by simp) ?_;refine AllReadyH.cons (o:={ dst:=some 116,op:=_,type:=_,pos:=_,after:=_,guard:=_ }) rfl (fun K hK=>?_) AllReadyH.nil;go_simp;refine(C2.out _ (by assumption)).mono ?_;rintro e w22 ⟨rfl,hs22⟩;go_wp2_with fail;refine hK.out _ _ hs22 (fun hHeld22=>?_);clear hK K;try simp only[Act.put,List.setIfInBounds_toArray,List.set_cons_zero,List.set_cons_succ]
      iterate 12 (
       refine tk (v:=?_) (L':=?_) (a':=?_) rfl rfl rfl ⟨by kernel_rfl,?_,by assumption,?_,?_,fun _ _ _ h=>h⟩ ?_;rotate_left 3
       ·first|exact Or.inr ⟨by rfl,by rfl⟩|(refine Or.inl ⟨by rfl,?_⟩;intro w hSw;obtain⟨hS1,hS2,-⟩:=hSw;go_simp;first|done|with_reducible rfl)
       ·(try simp only[List.setIfInBounds_toArray,List.set_cons_zero,List.set_cons_succ]);rfl
       ·(try simp only[Act.put,List.setIfInBounds_toArray,List.set_cons_zero,List.set_cons_succ]);rfl)
      refine wpAnyH_ready (rs:=[26]) (by kernel_rfl) (by simp) ?_;refine AllReadyH.cons (o:={ dst:=some 129,op:=_,type:=_,pos:=_,after:=_,guard:=_ }) rfl (fun K hK=>?_) AllReadyH.nil;go_simp;refine(C3.out _ (by assumption)).mono ?_;rintro e w23 ⟨rfl,hs23⟩;go_wp2_with fail;refine hK.out _ _ hs23 (fun hHeld23=>?_);clear hK K;try simp only[Act.put,List.setIfInBounds_toArray,List.set_cons_zero,List.set_cons_succ]
      refine wpAnyH_ready (rs:=[27]) (by kernel_rfl) (by simp) ?_;refine AllReadyH.cons (o:={ dst:=some 130,op:=_,type:=_,pos:=_,after:=_,guard:=_ }) rfl (fun K hK=>?_) AllReadyH.nil;go_simp;refine(C4.out _ (by assumption)).mono ?_;rintro e w24 ⟨rfl,hs24⟩;go_wp2_with fail;refine hK.out _ _ hs24 (fun hHeld24=>?_);clear hK K;try simp only[Act.put,List.setIfInBounds_toArray,List.set_cons_zero,List.set_cons_succ]
      iterate 10 (
       refine tk (v:=?_) (L':=?_) (a':=?_) rfl rfl rfl ⟨by kernel_rfl,?_,by assumption,?_,?_,fun _ _ _ h=>h⟩ ?_;rotate_left 3
       ·first|exact Or.inr ⟨by rfl,by rfl⟩|(refine Or.inl ⟨by rfl,?_⟩;intro w hSw;obtain⟨hS1,hS2,-⟩:=hSw;go_simp;first|done|with_reducible rfl)
       ·(try simp only[List.setIfInBounds_toArray,List.set_cons_zero,List.set_cons_succ]);rfl
       ·(try simp only[Act.put,List.setIfInBounds_toArray,List.set_cons_zero,List.set_cons_succ]);rfl)
      refine wpAnyH_ready (rs:=[38]) (by kernel_rfl) (by simp) ?_;refine AllReadyH.cons (o:={ dst:=some 141,op:=_,type:=_,pos:=_,after:=_,guard:=_ }) rfl (fun K hK=>?_) AllReadyH.nil;go_simp;refine(C5.out _ (by assumption)).mono ?_;rintro e w25 ⟨rfl,hs25⟩;go_wp2_with fail;refine hK.out _ _ hs25 (fun hHeld25=>?_);clear hK K;try simp only[Act.put,List.setIfInBounds_toArray,List.set_cons_zero,List.set_cons_succ]
      iterate 20 (
       refine tk (v:=?_) (L':=?_) (a':=?_) rfl rfl rfl ⟨by kernel_rfl,?_,by assumption,?_,?_,fun _ _ _ h=>h⟩ ?_;rotate_left 3
       ·first|exact Or.inr ⟨by rfl,by rfl⟩|(refine Or.inl ⟨by rfl,?_⟩;intro w hSw;obtain⟨hS1,hS2,-⟩:=hSw;go_simp;first|done|with_reducible rfl)
       ·(try simp only[List.setIfInBounds_toArray,List.set_cons_zero,List.set_cons_succ]);rfl
       ·(try simp only[Act.put,List.setIfInBounds_toArray,List.set_cons_zero,List.set_cons_succ]);rfl)
      refine wpAnyH_done (by kernel_rfl) ?_ _;go_wp2_with fail;go_roundg (gk-1)
      case measure=>omega
      case rel=>exact⟨j+1,by omega,by go_num,hid ⟨(hs25.2.2.out).both,(hs25.2.2.out).all⟩⟩
     ·have e1:(L==1)=false:=by simp[hl1]
      have e2:decide (L=1)=false:=decide_eq_false hl1;clear hl1;go_upto_region 16 with fail;refine wp_region_held_drew (S:=fun wx=>wx.cell? ⟨b,off+j,none⟩=some (.string s)∧wx.cell? ⟨q,0,none⟩=some (.slice PA np pc)∧Hid (FmAt w1 wx p q d (.slice (some ⟨b,off,none⟩) m fc) (.slice PA np pc))) (by kernel_rfl) (by first|exact HSD.out|exact HSD'.out) (fun hHeld=>?_);refine fz (n:=59) rfl ?_
      iterate 5 (
       refine tk (v:=?_) (L':=?_) (a':=?_) rfl rfl rfl ⟨by kernel_rfl,?_,by assumption,?_,?_,fun _ _ _ h=>h⟩ ?_;rotate_left 3
       ·first|exact Or.inr ⟨by rfl,by rfl⟩|(refine Or.inl ⟨by rfl,?_⟩;intro w hSw;obtain⟨hS1,hS2,-⟩:=hSw;go_simp;first|done|with_reducible rfl)
       ·(try simp only[List.setIfInBounds_toArray,List.set_cons_zero,List.set_cons_succ]);rfl
       ·(try simp only[Act.put,List.setIfInBounds_toArray,List.set_cons_zero,List.set_cons_succ]);rfl)
      refine wpAnyH_ready (rs:=[5]) (by kernel_rfl) (by simp) ?_;refine AllReadyH.cons (o:={ dst:=some 108,op:=_,type:=_,pos:=_,after:=_,guard:=_ }) rfl (fun K hK=>?_) AllReadyH.nil;go_simp;refine(C1.out _ (by assumption)).mono ?_;rintro e w21 ⟨rfl,hs21⟩;go_wp2_with fail;refine hK.out _ _ hs21 (fun hHeld21=>?_);clear hK K;try simp only[Act.put,List.setIfInBounds_toArray,List.set_cons_zero,List.set_cons_succ]
      iterate 7 (
       refine tk (v:=?_) (L':=?_) (a':=?_) rfl rfl rfl ⟨by kernel_rfl,?_,by assumption,?_,?_,fun _ _ _ h=>h⟩ ?_;rotate_left 3
       ·first|exact Or.inr ⟨by rfl,by rfl⟩|(refine Or.inl ⟨by rfl,?_⟩;intro w hSw;obtain⟨hS1,hS2,-⟩:=hSw;go_simp;first|done|with_reducible rfl)
       ·(try simp only[List.setIfInBounds_toArray,List.set_cons_zero,List.set_cons_succ]);rfl
       ·(try simp only[Act.put,List.setIfInBounds_toArray,List.set_cons_zero,List.set_cons_succ]);rfl)
      refine wpAnyH_ready (rs:=[13]) (by kernel_rfl) (by simp) ?_;refine AllReadyH.cons (o:={ dst:=some 116,op:=_,type:=_,pos:=_,after:=_,guard:=_ }) rfl (fun K hK=>?_) AllReadyH.nil;go_simp;refine(C2.out _ (by assumption)).mono ?_;rintro e w22 ⟨rfl,hs22⟩;go_wp2_with fail;refine hK.out _ _ hs22 (fun hHeld22=>?_);clear hK K;try simp only[Act.put,List.setIfInBounds_toArray,List.set_cons_zero,List.set_cons_succ]
      iterate 12 (
       refine tk (v:=?_) (L':=?_) (a':=?_) rfl rfl rfl ⟨by kernel_rfl,?_,by assumption,?_,?_,fun _ _ _ h=>h⟩ ?_;rotate_left 3
       ·first|exact Or.inr ⟨by rfl,by rfl⟩|(refine Or.inl ⟨by rfl,?_⟩;intro w hSw;obtain⟨hS1,hS2,-⟩:=hSw;go_simp;first|done|with_reducible rfl)
       ·(try simp only[List.setIfInBounds_toArray,List.set_cons_zero,List.set_cons_succ]);rfl
       ·(try simp only[Act.put,List.setIfInBounds_toArray,List.set_cons_zero,List.set_cons_succ]);rfl)
      refine wpAnyH_ready (rs:=[26]) (by kernel_rfl) (by simp) ?_;refine AllReadyH.cons (o:={ dst:=some 129,op:=_,type:=_,pos:=_,after:=_,guard:=_ }) rfl (fun K hK=>?_) AllReadyH.nil;go_simp;refine(C3.out _ (by assumption)).mono ?_;rintro e w23 ⟨rfl,hs23⟩;go_wp2_with fail;refine hK.out _ _ hs23 (fun hHeld23=>?_);clear hK K;try simp only[Act.put,List.setIfInBounds_toArray,List.set_cons_zero,List.set_cons_succ]
      refine wpAnyH_ready (rs:=[27]) (by kernel_rfl) (by simp) ?_;refine AllReadyH.cons (o:={ dst:=some 130,op:=_,type:=_,pos:=_,after:=_,guard:=_ }) rfl (fun K hK=>?_) AllReadyH.nil;go_simp;refine(C4.out _ (by assumption)).mono ?_;rintro e w24 ⟨rfl,hs24⟩;go_wp2_with fail;refine hK.out _ _ hs24 (fun hHeld24=>?_);clear hK K;try simp only[Act.put,List.setIfInBounds_toArray,List.set_cons_zero,List.set_cons_succ]
      iterate 10 (
       refine tk (v:=?_) (L':=?_) (a':=?_) rfl rfl rfl ⟨by kernel_rfl,?_,by assumption,?_,?_,fun _ _ _ h=>h⟩ ?_;rotate_left 3
       ·first|exact Or.inr ⟨by rfl,by rfl⟩|(refine Or.inl ⟨by rfl,?_⟩;intro w hSw;obtain⟨hS1,hS2,-⟩:=hSw;go_simp;first|done|with_reducible rfl)
       ·(try simp only[List.setIfInBounds_toArray,List.set_cons_zero,List.set_cons_succ]);rfl
       ·(try simp only[Act.put,List.setIfInBounds_toArray,List.set_cons_zero,List.set_cons_succ]);rfl)
      refine wpAnyH_ready (rs:=[38]) (by kernel_rfl) (by simp) ?_;refine AllReadyH.cons (o:={ dst:=some 141,op:=_,type:=_,pos:=_,after:=_,guard:=_ }) rfl (fun K hK=>?_) AllReadyH.nil;go_simp;refine(C5.out _ (by assumption)).mono ?_;rintro e w25 ⟨rfl,hs25⟩;go_wp2_with fail;refine hK.out _ _ hs25 (fun hHeld25=>?_);clear hK K;try simp only[Act.put,List.setIfInBounds_toArray,List.set_cons_zero,List.set_cons_succ]
      iterate 15 (
       refine tk (v:=?_) (L':=?_) (a':=?_) rfl rfl rfl ⟨by kernel_rfl,?_,by assumption,?_,?_,fun _ _ _ h=>h⟩ ?_;rotate_left 3
       ·first|exact Or.inr ⟨by rfl,by rfl⟩|(refine Or.inl ⟨by rfl,?_⟩;intro w hSw;obtain⟨hS1,hS2,-⟩:=hSw;go_simp;first|done|with_reducible rfl)
       ·(try simp only[List.setIfInBounds_toArray,List.set_cons_zero,List.set_cons_succ]);rfl
       ·(try simp only[Act.put,List.setIfInBounds_toArray,List.set_cons_zero,List.set_cons_succ]);rfl)
      refine wpAnyH_ready (rs:=[54]) (by kernel_rfl) (by simp) ?_;refine AllReadyH.cons (o:={ dst:=some 157,op:=_,type:=_,pos:=_,after:=_,guard:=_ }) rfl (fun K hK=>?_) AllReadyH.nil;go_simp;refine(C3.out _ (by assumption)).mono ?_;rintro e w26 ⟨rfl,hs26⟩;go_wp2_with fail;refine hK.out _ _ hs26 (fun hHeld26=>?_);clear hK K;try simp only[Act.put,List.setIfInBounds_toArray,List.set_cons_zero,List.set_cons_succ]
      refine wpAnyH_ready (rs:=[55]) (by kernel_rfl) (by simp) ?_;refine AllReadyH.cons (o:={ dst:=some 158,op:=_,type:=_,pos:=_,after:=_,guard:=_ }) rfl (fun K hK=>?_) AllReadyH.nil;go_simp;refine(C6.out _ (by assumption)).mono ?_;rintro e w27 ⟨rfl,hs27⟩;go_wp2_with fail;refine hK.out _ _ hs27 (fun hHeld27=>?_);clear hK K;try simp only[Act.put,List.setIfInBounds_toArray,List.set_cons_zero,List.set_cons_succ]
      iterate 3 (
       refine tk (v:=?_) (L':=?_) (a':=?_) rfl rfl rfl ⟨by kernel_rfl,?_,by assumption,?_,?_,fun _ _ _ h=>h⟩ ?_;rotate_left 3
       ·first|exact Or.inr ⟨by rfl,by rfl⟩|(refine Or.inl ⟨by rfl,?_⟩;intro w hSw;obtain⟨hS1,hS2,-⟩:=hSw;go_simp;first|done|with_reducible rfl)
       ·(try simp only[List.setIfInBounds_toArray,List.set_cons_zero,List.set_cons_succ]);rfl
       ·(try simp only[Act.put,List.setIfInBounds_toArray,List.set_cons_zero,List.set_cons_succ]);rfl)
      refine wpAnyH_done (by kernel_rfl) ?_ _;go_wp2_with fail;go_roundg (gk-1)
      case measure=>omega
      case rel=>exact⟨j+1,by omega,by go_num,hid ⟨(hs27.2.2.out).both,(hs27.2.2.out).all⟩⟩
  ·have h3:k<M:=by omega
   have h4:decide (k<M)=true:=decide_eq_true h3;rw[h4]at ht;subst ht;have d1:(k:Int)<n:=by omega
   obtain⟨c,hc⟩:∃c,zs[k]?=some c:=⟨_,List.getElem?_eq_getElem (by have:=HO.out.1;omega)⟩;obtain⟨b,off,rfl,hb,hcp,cx⟩:=HO.out.2 k c hc;have cx':=(HK.out.land.below.cell (p:=⟨b,off+k,none⟩) hb).trans cx;clear cx hc hb;go_wp2_with fail;refine(Wd.word_any c wr).mono ?_;rintro e w6 ⟨s,rfl,hsz,hb6⟩;have H6:=hid (HK.out.keep hb6);clear hb6 cx';obtain⟨b0,hb0⟩:∃r,hasD d s.data.toList=r:=⟨_,rfl⟩;obtain⟨b1,hb1⟩:∃r,isD d s.data.toList=r:=⟨_,rfl⟩;have HQ:=hid (And.intro hb0 (And.intro hb1 (show s.size≤100 by omega)));have q1:(b0==b0)=true:=by simp
   have q2:(b1==b1)=true:=by simp
   have q4:(b0 != b0)=false:=by simp
   have q5:(b1 != b1)=false:=by simp
   clear hb0 hb1 hsz;go_wp2_with fail;refine(H6.out.land.has (by have:=HQ.out.2.2;omega) HQ.out.1).mono ?_;rintro e w7 ⟨rfl,hb⟩;have H7:=hid (H6.out.keep hb);clear hb;go_wp2_with fail;refine(show Calls Tryz.prog 13 #[.pointer (some ⟨q,0,none⟩),.string s] w7 fun e w'=>e= .returned (.bool b0)∧Below w7.heap.size w7 w' from by have h9:=rhas16_any w7 q d H7.out.doc s (by have:=HQ.out.2.2;omega);rwa[HQ.out.1]at h9).mono ?_;rintro e w8 ⟨rfl,hb⟩;have H8:=hid (H7.out.keep hb);clear hb;go_wp2_with fail;refine(H8.out.land.is (by have:=HQ.out.2.2;omega) HQ.out.2.1).mono ?_;rintro e w9 ⟨rfl,hb⟩;have H9:=hid (H8.out.keep hb);clear hb;go_wp2_with fail;refine(show Calls Tryz.prog 15 #[.pointer (some ⟨q,0,none⟩),.string s] w9 fun e w'=>e= .returned (.bool b1)∧Below w9.heap.size w9 w' from by have h9:=ris_any w9 q d H9.out.doc s;rwa[HQ.out.2.1]at h9).mono ?_;rintro e w10 ⟨rfl,hb⟩;have H10:=hid (H9.out.keep hb);clear hb;go_wp2_with fail;refine H10.out.land.auto.mono ?_;rintro e w11 ⟨q6,rfl,HA,hw⟩;obtain rfl:w10=w11:=hw.symm;have CHA:=hid (show Calls Tryz.prog 24 #[.pointer (some ⟨q6,0,none⟩),.string s] w10 fun e w'=>e= .returned (.bool b1)∧Below w10.heap.size w10 w' from by
    obtain⟨g,st,a1,a2⟩:=HA.out;have h9:=Dw.has_auto w10 q6 g st _ a1 a2.start s (by have:=HQ.out.2.2;omega);have h8:=HQ.out.2.1;unfold isD at h8;rwa[h8]at h9)
   go_wp2_with fail;refine CHA.out.mono ?_;rintro e w12 ⟨rfl,hb⟩;have H12:=hid (H10.out.keep hb);clear hb CHA HA;go_wp2_with fail;refine(show Calls Tryz.prog 15 #[.pointer (some ⟨q,0,none⟩),.string s] w12 fun e w'=>e= .returned (.bool b1)∧Below w12.heap.size w12 w' from by have h9:=ris_any w12 q d H12.out.doc s;rwa[HQ.out.2.1]at h9).mono ?_;rintro e w13 ⟨rfl,hb⟩;have H13:=hid (H12.out.keep hb);clear hb;go_wp2_with fail;go_roundg (gk-1)
   case measure=>omega
   case rel=>exact⟨k+1,by omega,by go_num,H13⟩
end Go.Proofs.YtfehpcbmdancoaaGreatDoor
