/- A strings.Builder of the call's own: copyCheck, WriteString, String. -/
import Derived.Laws.AppendOwn
import Derived.Laws.Externs
import Derived.Lib.Builder
import Derived.Lib.AppendStr
import Derived.Lib.Hide
import Derived.WalkKit
import Derived.WalkSpells
import Derived.WalkLawsBesides
import Derived.IntWalk
import Derived.Below
import Derived.WalkMore
import Derived.Test.YtfehpcbmdancoaaGreatDoorPbORows
import Derived.Test.YtfehpcbmdancoaaGreatDoorPbPlain
import Derived.Test.YtfehpcbmdancoaaGreatDoorPbRPlain
import Derived.Test.YtfehpcbmdancoaaGreatDoorPbSGives
import Derived.Test.YtfehpcbmdancoaaGreatDoorPbShelf
import Derived.Test.YtfehpcbmdancoaaGreatDoorPbUnit
namespace Go.Proofs.YtfehpcbmdancoaaGreatDoor
open Go Go.RowKit
set_option maxRecDepth 100000 in
theorem byte_info:∃i0:TypeInfo,Tryz.prog.info? 5=some i0∧i0.zero=some (.int .u8 0)∧i0.size=1∧i0.bytes=1:=⟨_,rfl,rfl,rfl,rfl⟩
set_option maxRecDepth 100000 in
theorem builder_info:∃i0:TypeInfo,Tryz.prog.info? 137=some i0∧i0.size=2:=⟨_,rfl,rfl⟩
theorem string_any (B b:Nat)(l:List UInt8)(w:World)(h:Lib.IsBuilder 137 5 B b (Lib.byteCells l) w)(hBw:B≤w.heap.size):
  Calls Tryz.prog 86 #[.pointer (some ⟨b,0,none⟩)] w fun e w'=>e= .returned (.string ⟨l.toArray⟩)∧Below B w w':=
 Tryz.Builder_String_any B b l w h hBw
theorem cells_app (a b:List UInt8):Lib.byteCells a++Lib.byteCells b=Lib.byteCells (a++b):=by simp[Lib.byteCells]
end Go.Proofs.YtfehpcbmdancoaaGreatDoor
namespace Go.Proofs.YtfehpcbmdancoaaGreatDoor
open Go Go.RowKit Go.Lib
def itB (it:It):List UInt8:=ptL (itemC it)
end Go.Proofs.YtfehpcbmdancoaaGreatDoor
namespace Go.Proofs.YtfehpcbmdancoaaGreatDoor
open Go Go.RowKit Go.Lib
theorem r_index:IndexSays:=fun s w=>Tryz.strings_Index_one s 32 w
theorem blank_in (l:List UInt8):decide (0≤Lib.indexByte l 32)=decide ((32:UInt8)∈l):=by
 by_cases h:(32:UInt8)∈l
 ·rw[decide_eq_true h,idx_some h];exact decide_eq_true (by omega)
 ·rw[decide_eq_false h,idx_none h];rfl
theorem rcontains_any (s:ByteArray)(w:World):
  Calls Tryz.prog 251 #[.string s,.string ⟨#[32]⟩] w fun e w'=>e= .returned (.bool (decide ((32:UInt8)∈s.data.toList)))∧w'=w:=by
 have:=Tryz.strings_Contains_one s 32 w
 rwa[blank_in]at this
set_option maxRecDepth 100000 in
set_option maxHeartbeats 1000000 in
theorem rword_any (s:ByteArray)(w:World)(hs:s.size≤1000000000000)(hT:Lib.Utf8Tabs 1 2 w):
  Calls Tryz.prog 235 #[.string s] w fun e w'=>e= .returned (.bool (wordB s))∧Below w.heap.size w w':=by
 have C:=Lib.hid (codes_any s w hs hT)
 have CX:=Lib.hid (fun wx=>rcontains_any s wx)
 clear hT
 cases hv:validD s.data.toList with
 | false=>
   have hw:wordB s=false:=by unfold wordB;rw[hv];simp
   rw[hv]at C
   rw[hw]
   clear hv hw
   go_enter Tryz.func235,Tryz.ntmps235
   go_wp2_with (go_at_call 143;refine C.out.mono ?_)
   rintro e w1 ⟨v,rfl,-,hb⟩
   have HB:=Lib.hid hb
   clear hb
   go_wp2_with fail
   go_ret
   exact⟨rfl,HB.out⟩
 | true=>
   have hw:wordB s= !decide ((32:UInt8)∈s.data.toList):=by
    unfold wordB;rw[hv];by_cases h:(32:UInt8)∈s.data.toList<;>simp[h]
   rw[hv]at C
   rw[hw]
   obtain⟨b,hb⟩:∃b,b=decide ((32:UInt8)∈s.data.toList):=⟨_,rfl⟩
   rw[←hb]at CX⊢
   clear hv hw hb
   go_enter Tryz.func235,Tryz.ntmps235
   go_wp2_with (go_at_call 143;refine C.out.mono ?_)
   rintro e w1 ⟨v,rfl,-,hb⟩
   have HB:=Lib.hid hb
   clear hb
   go_wp2_with (go_at_call 251;refine(CX.out _).mono ?_;rintro e w2 ⟨rfl,rfl⟩)
   go_ret
   exact⟨rfl,HB.out⟩
theorem say_cases (s:ByteArray):sayB s=(!(s.toList==[48])&&decide (s.size≤20)&&wordB s):=by
 unfold sayB
 rw[r_toL]
 by_cases h1:s.data.toList=[48]<;>by_cases h2:s.size≤20<;>cases h3:wordB s<;>simp[h1,h2]
set_option maxRecDepth 100000 in
set_option maxHeartbeats 1000000 in
theorem rsay_any (s:ByteArray)(w:World)(hs:s.size≤1000000000000)(hT:Lib.Utf8Tabs 1 2 w):
  Calls Tryz.prog 191 #[.string s] w fun e w'=>e= .returned (.bool (sayB s))∧Below w.heap.size w w':=by
 have C:=Lib.hid (rword_any s w hs hT)
 rw[say_cases]
 obtain⟨b,hb⟩:∃b,b=wordB s:=⟨_,rfl⟩
 rw[←hb]at C⊢
 clear hT hb
 cases h1:(s.toList==[48])with
 | true=>
   go_enter Tryz.func191,Tryz.ntmps191
   go_wp2_with fail
   go_ret
   exact⟨rfl,Below.refl _ _⟩
 | false=>
   by_cases h2:(s.size:Int)≤20
   ·rw[decide_eq_true (show s.size≤20 by omega)]
    go_enter Tryz.func191,Tryz.ntmps191
    go_wp2_with (go_at_call 235;refine C.out.mono ?_)
    rintro e w1 ⟨rfl,hb⟩
    have HB:=Lib.hid hb
    clear hb
    go_wp2_with fail
    go_ret
    exact⟨rfl,HB.out⟩
   ·rw[decide_eq_false (show¬s.size≤20 by omega)]
    go_enter Tryz.func191,Tryz.ntmps191
    go_wp2_with fail
    go_ret
    exact⟨rfl,Below.refl _ _⟩
def TextE (e:Ending)(L:List UInt8):Prop:=∃t,e= .returned (.tuple #[.string t,.bool (partL L).isSome])∧∀u,partL L=some u→t=u
set_option maxRecDepth 100000 in
set_option maxHeartbeats 1000000 in
theorem rtextOf_any (s:ByteArray)(w:World)(hs:s.size≤1000000000000)(h32:(32:UInt8) ∉ s.data.toList)(hT:Lib.Utf8Tabs 1 2 w):
  Calls Tryz.prog 140 #[.string s] w fun e w'=>TextE e s.data.toList∧Below w.heap.size w w':=by
 have C:=Lib.hid (rsay_any s w hs hT)
 have H32:=Lib.hid h32
 clear hT h32
 cases h1:(s.toList==[48])with
 | true=>
   have HP:=Lib.hid (show partL s.data.toList=some ⟨#[]⟩by
    have:s.data.toList=[48]:=by rw[←r_toL];simpa using h1
    unfold partL;rw[if_pos this])
   go_enter Tryz.func140,Tryz.ntmps140
   go_wp2_with fail
   go_ret2
   exact⟨⟨⟨#[]⟩,by rw[HP.out];rfl,fun u hu=>Option.some.inj (HP.out.symm.trans hu)⟩,Below.refl _ _⟩
 | false=>
   have hn48:¬s.data.toList=[48]:=by rw[←r_toL];simpa using h1
   cases h2:s.toList.isEmpty with
   | true=>
     have HP:=Lib.hid (show partL s.data.toList=none by
      have:s.data.toList=[]:=by rw[←r_toL];simpa using h2
      unfold partL;rw[if_neg hn48,if_neg (by rw[this];simp)])
     clear hn48
     go_enter Tryz.func140,Tryz.ntmps140
     go_wp2_with fail
     go_ret2
     exact⟨⟨s,by rw[HP.out];rfl,fun u hu=>by rw[HP.out]at hu;cases hu⟩,Below.refl _ _⟩
   | false=>
     have h0:s.data.toList≠[]:=by rw[←r_toL];simpa using h2
     have HP:=Lib.hid (show partL s.data.toList=if sayB s=true then some s else none by
      unfold partL sayB wordB
      rw[if_neg hn48]
      have hl:=Lib.size_eq s
      by_cases hc:s.data.toList≠[]∧s.data.toList.length≤20∧validD s.data.toList=true
      ·rw[if_pos hc,if_pos (by simp only[decide_eq_true_eq];exact⟨hn48,by omega,hc.2.2,H32.out⟩),r_mk]
      ·rw[if_neg hc,if_neg (by simp only[decide_eq_true_eq];exact fun h=>hc ⟨h0,by omega,h.2.2.1⟩)])
     obtain⟨b,hb⟩:∃b,b=sayB s:=⟨_,rfl⟩
     rw[←hb]at C HP
     clear hn48 h0 hb
     go_enter Tryz.func140,Tryz.ntmps140
     go_wp2_with (go_at_call 191;refine C.out.mono ?_)
     rintro e w1 ⟨rfl,hb⟩
     have HB:=Lib.hid hb
     clear hb
     go_wp2_with fail
     go_ret2
     refine⟨⟨s,?_,fun u hu=>?_⟩,HB.out⟩
     ·rw[HP.out];cases b<;>rfl
     ·rw[HP.out]at hu
      cases b with
      | true=>exact Option.some.inj hu
      | false=>cases hu
def SetsOk (l:List It):Prop:=∀it∈l,it.set.length≤1000000000
structure FitR (r:Ru):Prop where
 items:r.cond.length≤100000
 sets:SetsOk r.cond
 strip:r.strip.size≤1000000000
 add:r.add.size≤1000000000
end Go.Proofs.YtfehpcbmdancoaaGreatDoor
namespace Go.Proofs.YtfehpcbmdancoaaGreatDoor
open Go Go.RowKit Go.Lib
def rput6 (w:World)(H:Nat)(a b c d e f:Value):World:=
 (((((w.setCell ⟨H,0,none⟩ a).setCell ⟨H,1,none⟩ b).setCell ⟨H,2,none⟩ c).setCell ⟨H,3,none⟩ d).setCell ⟨H,4,none⟩ e).setCell ⟨H,5,none⟩ f
theorem rput6_size (w:World)(H:Nat)(a b c d e f:Value):(rput6 w H a b c d e f).heap.size=w.heap.size:=by simp[rput6,World.setCell]
theorem rput6_block (w:World)(H:Nat)(a b c d e f:Value){k:Nat}(hk:k≠H):(rput6 w H a b c d e f).heap[k]?=w.heap[k]?:=by
 unfold rput6
 rw[Below.heap_setCell _ _ _ _ hk,Below.heap_setCell _ _ _ _ hk,Below.heap_setCell _ _ _ _ hk,Below.heap_setCell _ _ _ _ hk,Below.heap_setCell _ _ _ _ hk,Below.heap_setCell _ _ _ _ hk]
theorem rput6_below {B:Nat}{w w':World}{H:Nat}(h:Below B w w')(hB:B≤H)(a b c d e f:Value):Below B w (rput6 w' H a b c d e f):=
 (((((h.setCell (p:=⟨H,0,none⟩) hB _).setCell (p:=⟨H,1,none⟩) hB _).setCell (p:=⟨H,2,none⟩) hB _).setCell (p:=⟨H,3,none⟩) hB _).setCell (p:=⟨H,4,none⟩) hB _).setCell (p:=⟨H,5,none⟩) hB _
theorem rput6_items {B:Nat}{w:World}{H:Nat}{v:Value}{l:List It}(h:ItemsNew B w v l)(hB:H<B)(a b c d e f:Value):ItemsNew B (rput6 w H a b c d e f) v l:=
 h.still (by rw[rput6_size];exact Nat.le_refl _) fun k hk _=>rput6_block _ _ _ _ _ _ _ _ (by omega)
theorem rbox6f {w w':World}{a b c d e f:Value}{t:TypeId}(hb:Below (w.alloc (.cells #[a,b,c,d,e,f] t)).heap.size (w.alloc (.cells #[a,b,c,d,e,f] t)) w'):∀o,w'.frozen? ⟨w.heap.size,o,none⟩=false:=by
 have h:w'.heap[w.heap.size]?=some (.cells #[a,b,c,d,e,f] t (0,0)):=(hb.block w.heap.size (by rw[World.size_alloc];omega)).trans (World.alloc_heap_new w _)
 intro o
 simp[World.frozen?,h]
theorem rparse_len {s:ByteArray}(h:(wordsL s.data.toList).length≠6):parseR s=none:=by
 unfold parseR
 split
 ·rename_i hw;rw[hw]at h;exact absurd rfl h
 ·rfl
theorem rparse_six {s:ByteArray}{a f c x y z:List UInt8}(h:wordsL s.data.toList=[a,f,c,x,y,z]):parseR s=parse6 a f c x y z:=by
 unfold parseR;rw[h]
theorem parse6_yes {a f c x y z:List UInt8}{u v:ByteArray}{l:List It}(h1:fO a c=true)(h2:decide (flagL f≠0)=true)(hx:partL x=some u)(hy:partL y=some v)(hz:parseS ⟨z.toArray⟩=some l):
  parse6 a f c x y z=some ⟨fP a c,flagL f,fX a c,u,v,l⟩:=by
 unfold fO at h1
 simp only[decide_eq_true_eq]at h1 h2
 unfold parse6
 rw[if_pos ⟨h1.1,h2,h1.2⟩,hx,hy,hz]
 have e1:fP a c=decide (a=pfx):=by unfold fP;simp[h1.2]
 have e2:fX a c=decide (c=[89]):=by unfold fX;simp[h1.1]
 rw[e1,e2]
theorem parse6_no {a f c x y z:List UInt8}(h:¬(fO a c=true∧decide (flagL f≠0)=true∧(partL x).isSome=true∧(partL y).isSome=true∧(parseS ⟨z.toArray⟩).isSome=true)):parse6 a f c x y z=none:=by
 unfold parse6
 split
 ·rename_i hc
  split
  ·rename_i u v l hx hy hz
   exact absurd ⟨by unfold fO;exact decide_eq_true ⟨hc.1,hc.2.2⟩,decide_eq_true hc.2.1,by rw[hx];rfl,by rw[hy];rfl,by rw[hz];rfl⟩ h
  ·rfl
 ·rfl
def RuNewR (B:Nat)(w:World)(v:Value)(r:Ru):Prop:=∃A cap,v= .agg #[.bool r.pre,.int .i64 r.flag,.bool r.cross,.string r.strip,.string r.add,.slice A r.cond.length cap]∧ItemsNew B w (.slice A r.cond.length cap) r.cond
def RParseN (w w':World)(o:Option Ru)(e:Ending):Prop:=∃v,e= .returned (.tuple #[v,.bool o.isSome])∧RuNewR w.heap.size w' v (o.getD ru0)∧Below w.heap.size w w'
theorem RParseN.no {w w':World}{o:Option Ru}(h:o=none)(hb:Below w.heap.size w w'):RParseN w w' o (.returned (.tuple #[.agg #[.bool false,.int .i64 0,.bool false,.string ⟨#[]⟩,.string ⟨#[]⟩,.slice none 0 0],.bool false])):=by
 subst h;exact⟨_,rfl,⟨none,0,rfl,.inl ⟨rfl,_,_,rfl⟩⟩,hb⟩
set_option maxRecDepth 100000 in
set_option maxHeartbeats 8000000 in
theorem rpar_new (w:World)(s:ByteArray)(hs:s.size≤1000000000)(hT:Lib.Utf8Tabs 1 2 w):
  Calls Tryz.prog 90 #[.string s] w fun e w'=>RParseN w w' (parseR s) e:=by
 have hbA:=(Below.refl w.heap.size w).alloc (Nat.le_refl _) (.cells #[.bool false,.int .i64 0,.bool false,.string ⟨#[]⟩,.string ⟨#[]⟩,.slice none 0 0] 123)
 have W:=Lib.hid (rsplit_any r_index (w.alloc (.cells #[.bool false,.int .i64 0,.bool false,.string ⟨#[]⟩,.string ⟨#[]⟩,.slice none 0 0] 123)) s (by omega))
 have HA:=Lib.hid hbA
 have hwm:=wordsL_mem s.data.toList
 have hsl:s.data.toList.length=s.size:=(Lib.size_eq s).symm
 rw[hsl]at hwm
 obtain⟨hsix1,hsix2⟩:=splitL_six s.data.toList
 clear hsl
 by_cases hn:(wordsL s.data.toList).length=6
 ·rw[hsix2 hn]at W
  obtain⟨a,f,c,x,y,z,hws⟩:∃a f c x y z,wordsL s.data.toList=[a,f,c,x,y,z]:=by
   match wordsL s.data.toList,hn with
   | [a,f,c,x,y,z],_=>exact⟨a,f,c,x,y,z,rfl⟩
  rw[hws]at W hwm
  rw[rparse_six hws]
  have hla:∀u∈[a,f,c,x,y,z],(32:UInt8) ∉ u∧u.length≤s.size:=fun u hu=>hwm u hu
  obtain⟨Z,hZ⟩:∃Z,Z=parse6 a f c x y z:=⟨_,rfl⟩
  rw[←hZ]
  obtain⟨SA,hSA⟩:∃S:ByteArray,S=⟨a.toArray⟩:=⟨_,rfl⟩
  obtain⟨SF,hSF⟩:∃S:ByteArray,S=⟨f.toArray⟩:=⟨_,rfl⟩
  obtain⟨SC,hSC⟩:∃S:ByteArray,S=⟨c.toArray⟩:=⟨_,rfl⟩
  obtain⟨SX,hSX⟩:∃S:ByteArray,S=⟨x.toArray⟩:=⟨_,rfl⟩
  obtain⟨SY,hSY⟩:∃S:ByteArray,S=⟨y.toArray⟩:=⟨_,rfl⟩
  obtain⟨SZ,hSZ⟩:∃S:ByteArray,S=⟨z.toArray⟩:=⟨_,rfl⟩
  have dA:SA.data.toList=a:=by rw[hSA]
  have dF:SF.data.toList=f:=by rw[hSF]
  have dC:SC.data.toList=c:=by rw[hSC]
  have dX:SX.data.toList=x:=by rw[hSX]
  have dY:SY.data.toList=y:=by rw[hSY]
  have dZ:SZ.data.toList=z:=by rw[hSZ]
  have lA:SA.size≤1000000000:=by rw[Lib.size_eq,dA];have:=(hla a (by simp)).2;omega
  have lF:SF.size≤1000000000:=by rw[Lib.size_eq,dF];have:=(hla f (by simp)).2;omega
  have lC:SC.size≤1000000000:=by rw[Lib.size_eq,dC];have:=(hla c (by simp)).2;omega
  have lX:SX.size≤1000000000:=by rw[Lib.size_eq,dX];have:=(hla x (by simp)).2;omega
  have lY:SY.size≤1000000000:=by rw[Lib.size_eq,dY];have:=(hla y (by simp)).2;omega
  have lZ:SZ.size≤1000000000:=by rw[Lib.size_eq,dZ];have:=(hla z (by simp)).2;omega
  have C1:=Lib.hid (fun wx=>rform_any SA SC wx (by omega) (by omega))
  have C2:=Lib.hid (fun wx=>rletter_any SF wx (by omega))
  have C3:=Lib.hid (fun wx (hb:Below w.heap.size w wx)=>rtextOf_any SX wx (by omega) (by rw[dX];exact(hla x (by simp)).1) (tabs_below hT hb))
  have C4:=Lib.hid (fun wx (hb:Below w.heap.size w wx)=>rtextOf_any SY wx (by omega) (by rw[dY];exact(hla y (by simp)).1) (tabs_below hT hb))
  have C5:=Lib.hid (fun wx (hb:Below w.heap.size w wx)=>parse_any wx SZ (by omega) (tabs_below hT hb))
  rw[dA,dC]at C1
  rw[dF]at C2
  rw[dX]at C3
  rw[dY]at C4
  have HZN:=Lib.hid (fun h=>hZ.trans (parse6_no h))
  have HZY:=Lib.hid (fun (u v:ByteArray) (l:List It) h1 h2 hx hy hz=>hZ.trans (parse6_yes (u:=u) (v:=v) (l:=l) h1 h2 hx hy hz))
  rw[←hSZ]at HZN HZY
  obtain⟨pb,hpb⟩:∃b,b=fP a c:=⟨_,rfl⟩
  obtain⟨xb,hxb⟩:∃b,b=fX a c:=⟨_,rfl⟩
  obtain⟨ob,hob⟩:∃b,b=fO a c:=⟨_,rfl⟩
  obtain⟨fb,hfb⟩:∃b,b=decide (flagL f≠0):=⟨_,rfl⟩
  unfold FormE at C1
  unfold LetterE at C2
  rw[←hpb,←hxb,←hob]at C1
  rw[←hfb]at C2
  rw[←hob,←hfb]at HZN
  rw[←hob,←hfb,←hpb,←hxb]at HZY
  have HFB:=Lib.hid hfb
  unfold PartsAt at W
  have hl6: [a,f,c,x,y,z].length=6:=rfl
  rw[hl6]at W
  have EC:=Lib.hid (And.intro hSA (And.intro hSF (And.intro hSC (And.intro hSX (And.intro hSY hSZ)))))
  clear hla hn hws hZ hSA hSF hSC hSX hSY hSZ dA dF dC dX dY dZ lA lF lC lX lY lZ hpb hxb hob hfb hsix1 hsix2 hwm hbA hT
  go_enter Tryz.func90,Tryz.ntmps90
  go_wp2_with (go_at_call 137;refine W.out.mono ?_)
  rintro e w1 ⟨v,rfl,⟨g,cap,rfl,hg,hcap,-,hcell⟩,hb⟩
  have q0:=EC.out.1▸hcell 0 a rfl
  have q1:=EC.out.2.1▸hcell 1 f rfl
  have q2:=EC.out.2.2.1▸hcell 2 c rfl
  have q3:=EC.out.2.2.2.1▸hcell 3 x rfl
  have q4:=EC.out.2.2.2.2.1▸hcell 4 y rfl
  have q5:=EC.out.2.2.2.2.2▸hcell 5 z rfl
  have KX:=Lib.hid (fun wx (hx:Below w1.heap.size w1 wx)=>And.intro ((hx.cell (p:=⟨g,0,none⟩) hg).trans q0) (And.intro ((hx.cell (p:=⟨g,1,none⟩) hg).trans q1) (And.intro ((hx.cell (p:=⟨g,2,none⟩) hg).trans q2) (And.intro ((hx.cell (p:=⟨g,3,none⟩) hg).trans q3) (And.intro ((hx.cell (p:=⟨g,4,none⟩) hg).trans q4) ((hx.cell (p:=⟨g,5,none⟩) hg).trans q5))))))
  have HB:=Lib.hid hb
  have HB1:=Lib.hid (HA.out.trans (hb.mono HA.out.size))
  clear hcell hb
  clear W HA
  go_upto_region 4 with fail
  go_quiet ((go_at_call 138;refine(C1.out _).mono ?_;rintro e w2 ⟨rfl,rfl⟩;exact⟨rfl,_,rfl⟩))
  have hbd:Below w1.heap.size w1 (w1.drewN nq):=below_drewN (Below.refl _ _) _
  generalize w1.drewN nq=w2 at hbd⊢
  have HX2:=Lib.hid hbd
  clear q0 q1 q2 q3 q4 q5 C1
  obtain⟨q0,q1,q2,q3,q4,q5⟩:=KX.out w2 hbd
  clear hbd
  go_wp2_with (go_at_call 139;refine(C2.out _).mono ?_)
  rintro e w3 ⟨⟨k,rfl,hk⟩,hb⟩
  have HK:=Lib.hid hk
  have HX3:=Lib.hid (HX2.out.trans (hb.mono HX2.out.size))
  clear q0 q1 q2 q3 q4 q5 C2 hk hb
  obtain⟨q0,q1,q2,q3,q4,q5⟩:=KX.out w3 HX3.out
  have HB3:=Lib.hid (HB1.out.trans (HX3.out.mono HB1.out.size))
  go_wp2_with (go_at_call 140;refine(C3.out _ HB3.out).mono ?_)
  rintro e w4 ⟨⟨t1,rfl,ht1⟩,hb⟩
  have HT1:=Lib.hid ht1
  have HX4:=Lib.hid (HX3.out.trans (hb.mono HX3.out.size))
  clear q0 q1 q2 q3 q4 q5 C3 ht1 hb
  obtain⟨q0,q1,q2,q3,q4,q5⟩:=KX.out w4 HX4.out
  have HB4:=Lib.hid (HB1.out.trans (HX4.out.mono HB1.out.size))
  go_wp2_with (go_at_call 140;refine(C4.out _ HB4.out).mono ?_)
  rintro e w5 ⟨⟨t2,rfl,ht2⟩,hb⟩
  have HT2:=Lib.hid ht2
  have HX5:=Lib.hid (HX4.out.trans (hb.mono HX4.out.size))
  clear q0 q1 q2 q3 q4 q5 C4 ht2 hb
  obtain⟨q0,q1,q2,q3,q4,q5⟩:=KX.out w5 HX5.out
  have HB5:=Lib.hid (HB1.out.trans (HX5.out.mono HB1.out.size))
  go_wp2_with (go_at_call 141;refine(C5.out _ HB5.out).mono ?_)
  rintro e w6 ⟨v6,rfl,hi6,hb⟩
  have HX6:=Lib.hid (HX5.out.trans (hb.mono HX5.out.size))
  have HB6:=Lib.hid (HB1.out.trans (HX6.out.mono HB1.out.size))
  have HI6:=Lib.hid (hi6.less (show w.heap.size+1≤w5.heap.size from by have:=HB.out.size;rw[World.size_alloc]at this;have:=HX5.out.size;omega))
  clear q0 q1 q2 q3 q4 q5 C5 hb
  obtain⟨x0,x1,x2,x3,x4,x5⟩:=box6 (HB.out.trans (HX6.out.mono HB.out.size))
  have fz:=rbox6f (HB.out.trans (HX6.out.mono HB.out.size))
  obtain⟨D,dc,rfl,-⟩:=items_openO hi6.at
  obtain⟨dn,hdn⟩:∃d,d=((parseS SZ).getD []).length:=⟨_,rfl⟩
  rw[←hdn]at HI6⊢
  have HDN:=Lib.hid hdn
  clear hi6 hdn KX HB3 HB4 HB5 HX2 HX3 HX4 HX5
  obtain⟨bx,hbx⟩:∃b,b=(partL x).isSome:=⟨_,rfl⟩
  obtain⟨bY,hby⟩:∃b,b=(partL y).isSome:=⟨_,rfl⟩
  obtain⟨bz,hbz⟩:∃b,b=(parseS SZ).isSome:=⟨_,rfl⟩
  rw[←hbx,←hby,←hbz]at HZN
  rw[←hbx,←hby,←hbz]
  by_cases hall:ob=true∧fb=true∧bx=true∧bY=true∧bz=true
  ·obtain⟨rfl,rfl,rfl,rfl,rfl⟩:=hall
   obtain⟨u,hu⟩:=Option.isSome_iff_exists.1 hbx.symm
   obtain⟨v,hv⟩:=Option.isSome_iff_exists.1 hby.symm
   obtain⟨l,hl⟩:=Option.isSome_iff_exists.1 hbz.symm
   have hZ:=HZY.out u v l rfl rfl hu hv hl
   have hkf:=HK.out (of_decide_eq_true HFB.out.symm)
   rw[HT1.out u hu,HT2.out v hv]
   rw[hl]at HI6
   simp only[Option.getD_some]at HI6
   rw[←hkf]at hZ
   have HZ:=Lib.hid hZ
   have HDL:=Lib.hid (show dn=l.length by rw[HDN.out,hl];rfl)
   clear hu hv hl hbx hby hbz HZN HZY HK HT1 HT2 HFB hZ hkf
   go_wp2_with fail
   refine bodyPost_ret (v:= .tuple #[.agg #[.bool pb,.int .i64 k,.bool xb,.string u,.string v,.slice D dn dc],.bool true]) (by simp[results,Tryz.results90,go_sem,x0,x1,x2,x3,x4,x5]) rfl ?_
   rw[HZ.out]
   refine⟨_,rfl,⟨D,dc,?_,?_⟩,rput6_below HB6.out (Nat.le_refl _) _ _ _ _ _ _⟩
   ·show Value.agg _=Value.agg _
    rw[HDL.out]
    rfl
   ·have:=(rput6_items (H:=w.heap.size) HI6.out (by omega) (.bool pb) (.int .i64 k) (.bool xb) (.string u) (.string v) (.slice D dn dc)).less (Nat.le_succ w.heap.size)
    rw[HDL.out]at this⊢
    exact this
  ·have HZ0:=Lib.hid (HZN.out hall)
   have hcs:ob=false∨(ob=true∧fb=false)∨(ob=true∧fb=true∧bx=false)∨(ob=true∧fb=true∧bx=true∧bY=false)∨(ob=true∧fb=true∧bx=true∧bY=true∧bz=false):=by
    cases ob<;>cases fb<;>cases bx<;>cases bY<;>cases bz<;>simp_all
   clear hall hbx hby hbz HZN HZY HK HT1 HT2 HFB
   rcases hcs with rfl|⟨rfl,rfl⟩|⟨rfl,rfl,rfl⟩|⟨rfl,rfl,rfl,rfl⟩|⟨rfl,rfl,rfl,rfl,rfl⟩
   all_goals
    go_wp2_with fail
    exact bodyPost_ret (v:= .tuple #[.agg #[.bool false,.int .i64 0,.bool false,.string ⟨#[]⟩,.string ⟨#[]⟩,.slice none 0 0],.bool false]) (by simp[results,Tryz.results90,go_sem,x0,x1,x2,x3,x4,x5]) rfl (RParseN.no HZ0.out (rput6_below HB6.out (Nat.le_refl _) _ _ _ _ _ _))
 ·have hn6:(splitL 6 s.data.toList).length≠6:=fun h=>hn (hsix1.1 h)
  have HZ0:=Lib.hid (rparse_len hn)
  obtain⟨l,hl⟩:∃l,l=splitL 6 s.data.toList:=⟨_,rfl⟩
  rw[←hl]at hn6 W
  unfold PartsAt at W
  obtain⟨m,hm⟩:∃m,m=l.length:=⟨_,rfl⟩
  rw[←hm]at hn6 W
  have h6:((m:Int)==6)=false:=by simp;omega
  clear hsix1 hsix2 hwm hn hbA hT hn6 hl hm
  go_enter Tryz.func90,Tryz.ntmps90
  go_wp2_with (go_at_call 137;refine W.out.mono ?_)
  rintro e w1 ⟨v,rfl,⟨g,cap,rfl,-,-,-,-⟩,hb⟩
  obtain⟨x0,x1,x2,x3,x4,x5⟩:=box6 hb
  have fz:=rbox6f hb
  have HB1:=Lib.hid (HA.out.trans (hb.mono HA.out.size))
  clear hb
  go_wp2_with fail
  exact bodyPost_ret (v:= .tuple #[.agg #[.bool false,.int .i64 0,.bool false,.string ⟨#[]⟩,.string ⟨#[]⟩,.slice none 0 0],.bool false]) (by simp[results,Tryz.results90,go_sem,x0,x1,x2,x3,x4,x5]) rfl (RParseN.no HZ0.out (rput6_below HB1.out (Nat.le_refl _) _ _ _ _ _ _))
end Go.Proofs.YtfehpcbmdancoaaGreatDoor
namespace Go.Proofs.YtfehpcbmdancoaaGreatDoor.Fo
open Go Go.RowKit
def BuAt (N b:Nat)(p:Value)(bs:List Value)(w:World):Prop:=
 ∃v,w.heap[b]?=some (.cells #[p,v] 137 (0,0))∧w.ownsRow N 5 1 v bs.length bs∧v.ownBlock≠some b
def IsBu (N b:Nat)(bs:List Value)(w:World):Prop:=BuAt N b (.pointer none) bs w∨BuAt N b (.pointer (some ⟨b,0,none⟩)) bs w
theorem own_base {w:World}{B B' e size n:Nat}{v:Value}{xs:List Value}(h:w.ownsRow B e size v n xs)(hB:B'≤B):w.ownsRow B' e size v n xs:=by
 refine⟨h.1,?_⟩
 rcases h.2 with hn|⟨g,cap,cur,rfl,hg,rest⟩
 ·exact .inl hn
 ·exact .inr ⟨g,cap,cur,rfl,Nat.le_trans hB hg,rest⟩
theorem IsBu.builder {N b:Nat}{bs:List Value}{w:World}(h:IsBu N b bs w)(hb:b≤N):Lib.IsBuilder 137 5 b b bs w:=by
 rcases h with ⟨v,h1,h2,h3⟩|⟨v,h1,h2,h3⟩
 ·exact .inl ⟨Nat.le_refl _,v,h1,own_base h2 hb,h3⟩
 ·exact .inr ⟨Nat.le_refl _,v,h1,own_base h2 hb,h3⟩
theorem IsBu.new {N b:Nat}{w:World}(h:w.heap[b]?=some (.cells #[.pointer none,.slice none 0 0] 137 (0,0))):IsBu N b [] w:=
 .inl ⟨_,h,World.ownsRow_nil _ _ _ _,by simp[Value.ownBlock]⟩
theorem IsBu.keep {N b:Nat}{bs:List Value}{w w':World}(h:IsBu N b bs w)(hb:Below w.heap.size w w'):IsBu N b bs w':=by
 have key:∀p,BuAt N b p bs w→BuAt N b p bs w':=by
  rintro p ⟨v,h1,h2,h3⟩
  exact⟨v,(hb.block b (Array.getElem?_eq_some_iff.1 h1).1).trans h1,own_keep9 h2 hb,h3⟩
 exact h.imp (key _) (key _)
set_option maxHeartbeats 1000000 in
set_option maxRecDepth 100000 in
theorem check_bu (N b:Nat)(bs:List Value)(w:World)(h:IsBu N b bs w):
  Calls Tryz.prog 134 #[.pointer (some ⟨b,0,none⟩)] w fun e w'=>e= .returned (.tuple #[])∧(BuAt N b (.pointer (some ⟨b,0,none⟩)) bs w'∧OnlyAt (fun k=>k=b) w w'):=by
 obtain⟨j,hj,hjs⟩:=builder_info
 have u0:=Tryz.underlying135
 rcases h with h|h
 ·obtain⟨v,hb,hown,hne⟩:=h
  have h0:w.cell? ⟨b,0,none⟩=some (.pointer none):=by rw[Lib.cell_of_heap hb];rfl
  have hsh:w.shape? b=some (137,2):=by simp[World.shape?,hb]
  have hfz:w.frozen? ⟨b,0,none⟩=false:=Lib.frozen_of_heap hb 0
  have hend:BuAt N b (.pointer (some ⟨b,0,none⟩)) bs (w.setCell ⟨b,0,none⟩ (.pointer (some ⟨b,0,none⟩))):=by
   refine⟨v,by simp[World.setCell,Array.getElem?_modify,hb],?_,hne⟩
   exact hown.kept (row:=some b) ⟨rfl,rfl,rfl,by simp[World.setCell],fun k _ hk=>Below.heap_setCell _ _ _ _ (fun e=>hk (by simp[e]))⟩ (.inr hne)
  have H:=Lib.hid hend
  clear hb hown hne hend
  go_enter Tryz.func134,Tryz.ntmps134
  go_wp2
  rw[Lib.run_to_unsafe w ⟨b,0,none⟩ Tryz.underlying135 Tryz.underlying242 hj (by rw[hjs];decide) hsh (Nat.zero_lt_succ 1)]
  simp only[Result.andThen]
  rw[Oper.upon_value]
  go_wp2
  rw[run_callFunc_extern Tryz.func188 (by kernel_rfl) (by kernel_rfl) (by kernel_rfl) (e:=Extern.AbiNoEscape.same) (by kernel_rfl)]
  rw[Lib.run_noEscape]
  simp only[Result.andThen]
  rw[Oper.upon_value]
  go_wp2
  rw[Lib.run_from_unsafe w ⟨b,0,none⟩ Tryz.underlying242 Tryz.underlying135 hj hsh (by kernel_rfl)]
  simp only[Result.andThen]
  rw[Oper.upon_value]
  go_wp2
  go_end0
  exact⟨rfl,H.out,OnlyAt.setCell _ _ _ rfl⟩
 ·have h0:w.cell? ⟨b,0,none⟩=some (.pointer (some ⟨b,0,none⟩)):=by obtain⟨v,hb,_⟩:=h;rw[Lib.cell_of_heap hb];rfl
  have H:=Lib.hid h
  clear h
  go_enter Tryz.func134,Tryz.ntmps134
  go_wp2
  rw[Lib.run_neq_ptr_same w _ Tryz.underlying135 hj]
  go_wp2
  go_end0
  exact⟨rfl,H.out,OnlyAt.refl _ _⟩
set_option maxHeartbeats 1000000 in
theorem writes_bu (N b:Nat)(bs:List Value)(s:ByteArray)(w:World)(h:IsBu N b bs w)
  (hlen:bs.length+s.size≤140737488355328) (hN:N≤w.heap.size):
  Calls Tryz.prog 84 #[.pointer (some ⟨b,0,none⟩),.string s] w fun e w'=>(∃v,e= .returned v)∧IsBu N b (bs++Lib.strCells s) w'∧OnlyAt (fun k=>k=b∨N≤k) w w':=by
 obtain⟨i0,hi,hz0,hz1,hz2⟩:=byte_info
 have C:=Lib.hid (check_bu N b bs w h)
 go_enter Tryz.func84,Tryz.ntmps84
 go_wp2_with (go_at_call 134;refine(C.out).mono ?_)
 rintro e w1 ⟨rfl,hat,hb1⟩
 obtain⟨v,hbk,hown,hne⟩:=hat
 have c1:w1.cell? ⟨b,1,none⟩=some v:=by rw[Lib.cell_of_heap hbk];rfl
 have hs1:=hb1.size
 go_wp2_with (at_builtin;refine Lib.wpList_append_own_string _ rfl _ _ 72 9 rfl N 5 i0 Tryz.underlying72 Tryz.underlying9 hi hz0 hz1 hz2 _ _ _ rfl hown s rfl (by unfold maxLen;omega) (by omega) (by omega) ?_)
 intro v' w2 hown' hgrow _
 have hlt:b<w1.heap.size:=(Array.getElem?_eq_some_iff.1 hbk).1
 have hb2:w2.heap[b]?=some (.cells #[.pointer (some ⟨b,0,none⟩),v] 137 (0,0)):=by
  rw[hgrow.block b hlt (fun e=>hne e.symm)];exact hbk
 have d1:w2.cell? ⟨b,1,none⟩=some v:=by rw[Lib.cell_of_heap hb2];rfl
 have f1:w2.frozen? ⟨b,1,none⟩=false:=Lib.frozen_of_heap hb2 1
 obtain⟨ao,n',cap,rfl⟩:∃ao n' cap,v'= .slice ao n' cap:=by
  rcases hown'.2 with ⟨hv,_⟩|⟨g,cap,cur,hv,_⟩
  ·exact⟨_,_,_,hv⟩
  ·exact⟨_,_,_,hv⟩
 go_wp2
 go_ret2
 have hne':(Value.slice ao n' cap).ownBlock≠some b:=Lib.ownBlock_ne hown' hb2 (by decide)
 refine⟨⟨_,rfl⟩,.inr ⟨.slice ao n' cap,?_,?_,hne'⟩,?_⟩
 ·simp[World.setCell,Array.getElem?_modify,hb2]
 ·have:w2.ownsRow N 5 1 (.slice ao n' cap) (bs++Lib.strCells s).length (bs++Lib.strCells s):=by simpa[Lib.strCells_length]using hown'
  exact this.kept (row:=some b) ⟨rfl,rfl,rfl,by simp[World.setCell],fun k _ hk=>Below.heap_setCell _ _ _ _ (fun e=>hk (by simp[e]))⟩ (.inr hne')
 ·exact((hb1.mono fun k hk=> .inl hk).trans (OnlyAt.of_grown hgrow fun k hk=> .inr (hown.lt k hk).1)).trans (OnlyAt.setCell _ _ _ (.inl rfl))
end Go.Proofs.YtfehpcbmdancoaaGreatDoor.Fo
