/- The small callees of the rune laws: Place, ValidRune, RuneLen, HasPrefix, Bytes. -/
import Derived.Test.YtfehpcbmdancoaaGreatDoorProg
import Derived.WalkKit
import Derived.WalkSpells
import Derived.WalkLawsBesides
import Derived.Lib.Hide
import Derived.IntWalk
import Derived.BigQuiet
import Derived.Deep.QuietTactic
import Derived.Lib.OthersKept
import Derived.Deep.RegionHeld3
import Derived.StillTailTactics
import Derived.Lib.Strings
import Derived.Laws.BitsAllLaws
import Derived.Lib.EndianBits
import Derived.Test.YtfehpcbmdancoaaGreatDoorPdPbNNew
import Derived.Test.YtfehpcbmdancoaaGreatDoorPdPbNPlain
import Derived.Test.YtfehpcbmdancoaaGreatDoorPdPbORows
import Derived.Test.YtfehpcbmdancoaaGreatDoorPdPbShelf
set_option maxHeartbeats 400000
namespace Go.Proofs.YtfehpcbmdancoaaGreatDoor
open Go Go.RowKit
theorem validRune_any (r:Int)(w:World):
  Calls Tryz.prog 135 #[.int .i32 r] w fun e w'=>e= .returned (.bool (Utf8.valid r))∧w=w':=by
 by_cases h1:r<55296
 ·by_cases h0:0≤r
  ·have hv:Utf8.valid r=true:=by simp[Utf8.valid];omega
   rw[hv];clear hv;go_enter Tryz.func135,Tryz.ntmps135;go_wp2;all_goals go_ret
   all_goals exact⟨rfl,rfl⟩
  ·have hv:Utf8.valid r=false:=by simp[Utf8.valid];omega
   rw[hv];clear hv;go_enter Tryz.func135,Tryz.ntmps135;go_wp2;all_goals go_ret
   all_goals exact⟨rfl,rfl⟩
 ·by_cases h2:57343<r
  ·by_cases h3:r≤1114111
   ·have hv:Utf8.valid r=true:=by simp[Utf8.valid];omega
    rw[hv];clear hv;go_enter Tryz.func135,Tryz.ntmps135;go_wp2;all_goals go_ret
    all_goals exact⟨rfl,rfl⟩
   ·have hv:Utf8.valid r=false:=by simp[Utf8.valid];omega
    rw[hv];clear hv;go_enter Tryz.func135,Tryz.ntmps135;go_wp2;all_goals go_ret
    all_goals exact⟨rfl,rfl⟩
  ·have hv:Utf8.valid r=false:=by simp[Utf8.valid];omega
   rw[hv];clear hv;go_enter Tryz.func135,Tryz.ntmps135;go_wp2;all_goals go_ret
   all_goals exact⟨rfl,rfl⟩
def bytesOf (c:Int):ByteArray:=if Utf8.valid c then Utf8.encode c else ⟨#[]⟩
theorem bytes_any (c:Int)(w:World):
  Calls Tryz.prog 85 #[.int .i64 c] w fun e w'=>e= .returned (.string (bytesOf c))∧w=w':=by
 by_cases h0:c<0
 ·have hv:bytesOf c=⟨#[]⟩:=by simp[bytesOf,Utf8.valid];omega
  rw[hv];clear hv;go_enter Tryz.func85,Tryz.ntmps85;go_wp2_with (fail);go_ret;exact⟨rfl,rfl⟩
 ·by_cases h1:c>1114111
  ·have hv:bytesOf c=⟨#[]⟩:=by simp[bytesOf,Utf8.valid];omega
   rw[hv];clear hv;go_enter Tryz.func85,Tryz.ntmps85;go_wp2_with (fail);go_ret;exact⟨rfl,rfl⟩
  ·have hw:IntKind.i32.wrap c=c:=Go.IntWalk.i32_in c (by omega);cases hv:Utf8.valid c
   ·have hb:bytesOf c=⟨#[]⟩:=by simp[bytesOf,hv]
    rw[hb];go_enter Tryz.func85,Tryz.ntmps85;go_wp2_with (go_at_call 135;refine(validRune_any _ _).mono ?_;rintro e w' ⟨rfl,rfl⟩);go_ret;exact⟨rfl,rfl⟩
   ·have hb:bytesOf c=Utf8.encode c:=by simp[bytesOf,hv]
    rw[hb];go_enter Tryz.func85,Tryz.ntmps85;go_wp2_with (go_at_call 135;refine(validRune_any _ _).mono ?_;rintro e w' ⟨rfl,rfl⟩);go_ret;exact⟨rfl,rfl⟩
end Go.Proofs.YtfehpcbmdancoaaGreatDoor
set_option maxRecDepth 100000
set_option maxHeartbeats 4000000
namespace Go.Proofs.YtfehpcbmdancoaaGreatDoor
open Go Go.RowKit Go.Lib
theorem decode_mark (d:List UInt8)(hne:d≠[])(h:(decodeL d).1=65533):
  ((decodeL d).2=3∧d.take 3=[239,191,189])∨((decodeL d).2=1∧d.take 3≠[239,191,189]):=by
 have hl:0<d.length:=List.length_pos_iff.2 hne;have k0:=(d.getD 0 0).toNat_lt;have k1:=(d.getD 1 0).toNat_lt;have k2:=(d.getD 2 0).toNat_lt;have k3:=(d.getD 3 0).toNat_lt;rw[decodeL_N]at h⊢;have hN:d.take 3=[239,191,189]→decodeN d.length (d.getD 0 0).toNat (d.getD 1 0).toNat (d.getD 2 0).toNat (d.getD 3 0).toNat=(65533,3):=by
  intro ht;have hlen:3≤d.length:=by
   have:=congrArg List.length ht;simp at this;omega
  rw[takeC d (by omega)]at ht;simp only[List.cons.injEq,and_true]at ht;rw[ht.1,ht.2.1,ht.2.2];have h1:1<d.length:=by omega
  have h2:2<d.length:=by omega
  simp[decodeN,h1,h2]
 rcases decodeN_shape d.length (d.getD 0 0).toNat (d.getD 1 0).toNat (d.getD 2 0).toNat (d.getD 3 0).toNat with ⟨c,e⟩|⟨c1,c2,c3,cv,e⟩|⟨c1,c2,c3,c4,cv,cs,e⟩|⟨c1,c2,c3,c4,c5,cv,cw,e⟩|e
 ·rw[e]at h;dsimp only at h;omega
 ·rw[e]at h;dsimp only at h;omega
 ·left;rw[e]at h⊢;dsimp only at h⊢;refine⟨rfl,?_⟩;have e0:d.getD 0 0=239:=UInt8.toNat_inj.1 (by show _=239;omega);have e1:d.getD 1 0=191:=UInt8.toNat_inj.1 (by show _=191;omega);have e2:d.getD 2 0=189:=UInt8.toNat_inj.1 (by show _=189;omega);rw[takeC d c2,e0,e1,e2]
 ·rw[e]at h;dsimp only at h;omega
 ·right;rw[e];refine⟨rfl,fun ht=>?_⟩;rw[hN ht]at e;simp at e
def uVal (at_:Nat)(d:List UInt8):Value:= .agg #[.int .i64 at_,.int .i64 (decodeL d).2,.int .i64 (uCode d)]
theorem unit_plain (s:ByteArray)(p c:Nat)(w:World)(hc:c≤1114111)(hr:c≠65533):
  Calls Tryz.prog 133 #[.string s,.int .i64 p,.int .i32 c] w fun e w'=>e= .returned (.agg #[.int .i64 p,.int .i64 (Lib.runeLen c),.int .i64 c])∧Below w.heap.size w w':=by
 have h0:((c:Int)==65533)=false:=by simp;omega
 clear hr;go_enter Tryz.func133,Tryz.ntmps133;go_wp2_with (go_at_call 187;refine(Tryz.utf8_RuneLen _ _).mono ?_;rintro e w' ⟨rfl,rfl⟩);exact bodyPost_ret (v:= .agg #[.int .i64 p,.int .i64 (Lib.runeLen c),.int .i64 c]) (by simp[results,Tryz.results133,go_sem]) rfl ⟨rfl,(Below.refl _ _).alloc (Nat.le_refl _) _⟩
theorem unit_mark (s:ByteArray)(p:Nat)(w:World)(hp:p<s.size)(_hm:s.size≤9223372036854775807)(hh:Lib.hasPrefix (s.extract p s.size).data.toList [239,191,189]=true):
  Calls Tryz.prog 133 #[.string s,.int .i64 p,.int .i32 65533] w fun e w'=>e= .returned (.agg #[.int .i64 p,.int .i64 3,.int .i64 65533])∧Below w.heap.size w w':=by
 have H:=hid hh;clear hh;go_enter Tryz.func133,Tryz.ntmps133;go_wp2_with (first|(go_at_call 93;refine(Tryz.strings_HasPrefix _ _ _).mono ?_;rintro e w' ⟨rfl,rfl⟩;rw[H.out])|(go_at_call 187;refine(Tryz.utf8_RuneLen _ _).mono ?_;rintro e w' ⟨rfl,rfl⟩));exact bodyPost_ret (v:= .agg #[.int .i64 p,.int .i64 3,.int .i64 65533]) (by simp[results,Tryz.results133,go_sem,show Lib.runeLen 65533=3 from rfl]) rfl ⟨rfl,(Below.refl _ _).alloc (Nat.le_refl _) _⟩
theorem unit_bad (s:ByteArray)(p:Nat)(w:World)(hp:p<s.size)(_hm:s.size≤9223372036854775807)(hh:Lib.hasPrefix (s.extract p s.size).data.toList [239,191,189]=false):
  Calls Tryz.prog 133 #[.string s,.int .i64 p,.int .i32 65533] w fun e w'=>e= .returned (.agg #[.int .i64 p,.int .i64 1,.int .i64 (-1-(s[p].toNat:Int))])∧Below w.heap.size w w':=by
 have H:=hid hh;clear hh;have hb:=s[p].toNat_lt;go_enter Tryz.func133,Tryz.ntmps133;go_wp2_with (first|(go_at_call 93;refine(Tryz.strings_HasPrefix _ _ _).mono ?_;rintro e w' ⟨rfl,rfl⟩;rw[H.out])|(go_at_call 187;refine(Tryz.utf8_RuneLen _ _).mono ?_;rintro e w' ⟨rfl,rfl⟩));exact bodyPost_ret (v:= .agg #[.int .i64 p,.int .i64 1,.int .i64 (-1-(s[p].toNat:Int))]) (by simp[results,Tryz.results133,go_sem]) rfl ⟨rfl,(Below.refl _ _).alloc (Nat.le_refl _) _⟩
theorem getD_drop_at (s:ByteArray)(p:Nat)(hp:p<s.size):(s.data.toList.drop p).getD 0 0=s[p]:=by
 have h:p<s.data.toList.length:=by rw[←Lib.size_eq];exact hp
 rw[List.getD,List.getElem?_drop,Nat.add_zero,List.getElem?_eq_getElem h];rfl
theorem unit_any (s:ByteArray)(p:Nat)(w:World)(hp:p<s.size)(hm:s.size≤9223372036854775807)(c:Nat)(hc:c=(decodeL (s.data.toList.drop p)).1):
  Calls Tryz.prog 133 #[.string s,.int .i64 p,.int .i32 c] w fun e w'=>e= .returned (uVal p (s.data.toList.drop p))∧Below w.heap.size w w':=by
 have hne:s.data.toList.drop p≠[]:=by
  intro h0;have:=congrArg List.length h0;rw[List.length_drop,←Lib.size_eq]at this;simp at this;omega
 have hle:=decodeL_rune (s.data.toList.drop p);by_cases hr:c=65533
 ·subst hr;have e1:=Lib.extract_to_end s p;rcases decode_mark _ hne hc.symm with ⟨h2,h3⟩|⟨h2,h3⟩
  ·have hh:Lib.hasPrefix (s.extract p s.size).data.toList [239,191,189]=true:=by
    rw[e1,Lib.hasPrefix,List.isPrefixOf_iff_prefix];exact⟨(s.data.toList.drop p).drop 3,by rw[←h3,List.take_append_drop]⟩
   have hu:uVal p (s.data.toList.drop p)= .agg #[.int .i64 p,.int .i64 3,.int .i64 65533]:=by
    have hb:uBad (s.data.toList.drop p)=false:=by simp[uBad,h2]
    simp[uVal,uCode,hb,h2,←hc]
   rw[hu];exact unit_mark s p w hp hm hh
  ·have hh:Lib.hasPrefix (s.extract p s.size).data.toList [239,191,189]=false:=by
    rw[e1,Lib.hasPrefix,Bool.eq_false_iff];intro h;rw[List.isPrefixOf_iff_prefix]at h;obtain⟨t,ht⟩:=h;exact h3 (by rw[←ht];rfl)
   have hu:uVal p (s.data.toList.drop p)= .agg #[.int .i64 p,.int .i64 1,.int .i64 (-1-(s[p].toNat:Int))]:=by
    have hb:uBad (s.data.toList.drop p)=true:=by simp[uBad,h2,←hc]
    simp only[uVal,uCode,hb,h2,if_true,getD_drop_at s p hp];rfl
   rw[hu];exact unit_bad s p w hp hm hh
 ·have hr':(decodeL (s.data.toList.drop p)).1≠65533:=by omega
  have hu:uVal p (s.data.toList.drop p)= .agg #[.int .i64 p,.int .i64 (Lib.runeLen c),.int .i64 c]:=by
   have hb:uBad (s.data.toList.drop p)=false:=by simp[uBad,hr']
   rw[hc,runeLen_decode _ hr'];simp[uVal,uCode,hb]
  rw[hu];exact unit_plain s p c w (by omega) hr
def uCells (u:Nat×Nat×Int):List Value:=[.int .i64 u.1,.int .i64 u.2.1,.int .i64 u.2.2]
theorem own_below {w w':World}{B e size n:Nat}{v:Value}{xs:List Value}(h:w.ownsRow B e size v n xs)(hb:Below w.heap.size w w'):w'.ownsRow B e size v n xs:=by
 refine⟨h.1,?_⟩;rcases h.2 with hn|⟨g,cap,cur,rfl,hg,hgg,rest⟩
 ·exact .inl hn
 ·exact .inr ⟨g,cap,cur,rfl,hg,by rw[hb.block g (Array.getElem?_eq_some_iff.1 hgg).1];exact hgg,rest⟩
theorem own_iter {w:World}{B e size n K:Nat}{v:Value}{xs:List Value}{s:ByteArray}{pos:Nat}(h:w.ownsRow B e size v n xs)(hk:w.heap[K]?=some (.stringIter s pos))(pos':Nat):(w.iterAt K s pos').ownsRow B e size v n xs:=by
 refine⟨h.1,?_⟩;rcases h.2 with hn|⟨g,cap,cur,rfl,hg,hgg,rest⟩
 ·exact .inl hn
 ·refine .inr ⟨g,cap,cur,rfl,hg,?_,rest⟩;rw[iterAt_other _ _ _ _ _ (by intro e;subst e;rw[hk]at hgg;cases hgg)];exact hgg
theorem own_not_iter {w:World}{B e size n K:Nat}{v:Value}{xs:List Value}{s:ByteArray}{pos:Nat}(h:w.ownsRow B e size v n xs)(hk:w.heap[K]?=some (.stringIter s pos)):some K≠v.ownBlock:=by
 rcases h.2 with ⟨rfl,_⟩|⟨g,cap,cur,rfl,hg,hgg,rest⟩
 ·simp[Value.ownBlock]
 ·simp only[Value.ownBlock];intro e;obtain rfl:K=g:=Option.some.inj e;rw[hk]at hgg;cases hgg
theorem cells_new (w:World)(cs:List Value)(t:TypeId):∀j u,cs[j]?=some u→(w.alloc (.cells cs.toArray t)).cell? ((⟨w.heap.size,0,none⟩:Addr).add j)=some u:=by
 intro j u hu;have hadd:(⟨w.heap.size,0,none⟩:Addr).add j=⟨w.heap.size,j,none⟩:=by unfold Addr.add;split<;>simp_all
 rw[hadd,cell_of_row _ w.heap.size j cs.toArray t (0,0) (heap_alloc_new w _)];simpa using hu
theorem uCells_one (u:Nat×Nat×Int):∀x∈uCells u,x.oneCell'=true:=by
 intro x hx;simp only[uCells,List.mem_cons,List.mem_nil_iff,or_false]at hx;rcases hx with rfl|rfl|rfl<;>rfl
theorem count_any (s:ByteArray)(w:World)(hs:s.size≤1000000000000):
  Calls Tryz.prog 132 #[.string s] w fun e w'=>e= .returned (.int .i64 (Lib.runeCount s))∧Below w.heap.size w w':=
 (Tryz.utf8_RuneCountInString s w (by omega)).mono fun e w' ⟨he,pos,hw⟩=>⟨he,by subst hw;exact(Below.refl _ _).alloc (Nat.le_refl _) _⟩
theorem Tryz.info86:(Tryz.prog.info? 86).map (fun i=>(i.zero,i.size,i.bytes))=some (some (.agg #[.int .i64 0,.int .i64 0,.int .i64 0]),3,24):=by kernel_rfl
def AllInv (s:ByteArray)(w:World)(B K:Nat)(v:Value)(wr:World)(pos:Nat)(us:List (Nat×Nat×Int)):Prop:=
 pos≤s.size∧wr.heap[K]?=some (.stringIter s pos)∧units 0 s.data.toList=us++units pos (s.data.toList.drop pos)∧us.length≤pos∧wr.ownsRow B 86 3 v us.length (us.flatMap uCells)∧Below B w wr∧B≤K
theorem AllInv.step {s:ByteArray}{w:World}{B K:Nat}{v:Value}{wr:World}{pos:Nat}{us:List (Nat×Nat×Int)}(h:AllInv s w B K v wr pos us)(hp:pos<s.size){N:Nat}{C:Int}
  (hN:N=(decodeL (s.data.toList.drop pos)).2) (hC:C=uCode (s.data.toList.drop pos)) {w2:World} (hb:Below (wr.iterAt K s (pos+N)).heap.size (wr.iterAt K s (pos+N)) w2) {v':Value} {w4:World} {o:Obj}
  (hown:w4.ownsRow B 86 3 v' (us.length+1) (us.flatMap uCells++[.int .i64 pos,.int .i64 N,.int .i64 C])) (hg:(w2.alloc o).grownBy w4 v.ownBlock):AllInv s w B K v' w4 (pos+N) (us++[(pos,N,C)]):=by
 obtain⟨h1,h2,h3,h4,h5,h6,h7⟩:=h;have hne:s.data.toList.drop pos≠[]:=by
  intro h0;have:=congrArg List.length h0;rw[List.length_drop,←Lib.size_eq]at this;simp at this;omega
 have hle:=decodeL_le _ hne;have hw:=decodeL_width (s.data.toList.drop pos);rw[List.length_drop,←Lib.size_eq]at hle;have hKlt:K<wr.heap.size:=(Array.getElem?_eq_some_iff.1 h2).1;have hK1:(wr.iterAt K s (pos+N)).heap[K]?=some (.stringIter s (pos+N)):=iterAt_heap wr K s pos (pos+N) h2;have hsz:(wr.iterAt K s (pos+N)).heap.size=wr.heap.size:=iterAt_size _ _ _ _;have hbw:=h6.size;refine⟨by omega,?_,?_,by simp;omega,?_,?_,h7⟩
 ·rw[hg.block K (by have:=hb.size;rw[hsz]at this;simp;omega) (own_not_iter h5 h2),Below.heap_alloc _ _ _ (by have:=hb.size;rw[hsz]at this;omega),hb.block K (by omega)];exact hK1
 ·rw[h3,units_step pos _ hne,←hN,←hC,List.drop_drop];simp
 ·have:(us++[(pos,N,C)]).flatMap uCells=us.flatMap uCells++[.int .i64 pos,.int .i64 N,.int .i64 C]:=by simp[uCells]
  rw[this];simpa using hown
 ·have hB:B≤(wr.iterAt K s (pos+N)).heap.size:=by omega
  have b1:Below B w (wr.iterAt K s (pos+N)):=below_iterAt h6 h7 s _;have b2:=b1.trans (hb.mono hB);exact(b2.alloc (by have:=hb.size;omega) o).grown hg (by have:=hb.size;simp;omega) (fun k hk=>(h5.lt k hk).1)
theorem all_any (s:ByteArray)(w:World)(hs:s.size≤1000000000000):
  Calls Tryz.prog 82 #[.string s] w fun e w'=>∃v,e= .returned v∧w'.ownsRow w.heap.size 86 3 v (units 0 s.data.toList).length ((units 0 s.data.toList).flatMap uCells)∧Below w.heap.size w w':=by
 obtain⟨i0,hi,hz0,hz1,hz2⟩:=info_parts Tryz.info86;have hrc:=Lib.runeCount_le s;go_enter Tryz.func82,Tryz.ntmps82;go_wp2_with (first
  | (go_at_call 132;refine(count_any s _ hs).mono ?_;rintro e w1 ⟨rfl,hb1⟩)
  | (at_make;refine wpList_make_own _ rfl _ _ 90 rfl w.heap.size 86 i0 (.agg #[.int .i64 0,.int .i64 0,.int .i64 0]) 3 Tryz.underlying90 hi hz0 hz1 .i64 .i64 _ (Lib.runeCount s) rfl rfl rfl (by rw[hz2];omega) (by unfold maxLen;omega) (by have:=hb1.size;omega) ?_;intro w2 hown2 hgrow2))
 have hb2:Below w.heap.size w w2:=(hb1.trans ((Below.refl _ _).grown hgrow2 hb1.size (fun k hk=>by cases hk)));clear hgrow2;generalize Value.slice (some ⟨w1.heap.size,0,none⟩) 0 (Lib.runeCount s)=v0 at hown2⊢;have hinv0:AllInv s w w.heap.size w2.heap.size v0 (w2.iter s 0) 0 []:=
  ⟨Nat.zero_le _,World.iter_heap _ _ _,by simp,Nat.le_refl _,hown2.alloc (.stringIter s 0),hb2.alloc hb2.size _,hb2.size⟩
 clear hown2;have hsz2:=hb2.size;obtain⟨K,hK⟩:∃K,K=w2.heap.size:=⟨_,rfl⟩;rw[←hK]at hinv0⊢
 go_loopw [3] (fun v wr=>∃(pos:Nat) (us:List (Nat×Nat×Int)),AllInv s w w.heap.size K v wr pos us) (fun _ wr=>s.size-wr.iterPos K)
 case atStart=>exact⟨0,[],hinv0⟩
 case round=>
  obtain⟨pos,us,hinv⟩:=hrel;have hit:=hinv.2.1;have hpl:=hinv.1;have hul:=hinv.2.2.2.1;have hipos:wr.iterPos K=pos:=by simp[World.iterPos,hit]
  have HIT:=hid hit;have HI:=hid hinv;have HP:=hid hipos;clear hit hinv hinv0 hipos hK;by_cases hp:pos<s.size
  ·obtain⟨c,hc⟩:∃c,c=(decodeL (s.data.toList.drop pos)).1:=⟨_,rfl⟩;obtain⟨N,hN⟩:∃N,N=(decodeL (s.data.toList.drop pos)).2:=⟨_,rfl⟩;obtain⟨C,hC⟩:∃C,C=uCode (s.data.toList.drop pos):=⟨_,rfl⟩;have hnx:∀ty,(Instr.next (.pointer (some ⟨K,0,none⟩)) true ty).run Tryz.prog wr= .ok (.tuple #[.bool true,.int .i64 pos,.int .i32 c]) (wr.iterAt K s (pos+N)):=by
    intro ty;rw[run_next_any_at wr K s pos ty HIT.out hp,hc,hN,decodeL_drop]
   have cU:∀wx,Calls Tryz.prog 133 #[.string s,.int .i64 pos,.int .i32 c] wx fun e w'=>e= .returned (.agg #[.int .i64 pos,.int .i64 N,.int .i64 C])∧Below wx.heap.size wx w':=by
    intro wx;have:=unit_any s pos wx hp (by omega) c hc;rwa[uVal,←hN,←hC]at this
   have CU:=hid cU;have HN:=hid hN;have HC:=hid hC;clear hc hN hC cU;go_wp2_with (first
    | (go_at_call 133;refine(CU.out _).mono ?_;rintro e w3 ⟨rfl,hb3⟩)
    | (at_builtin;refine wpList_append_own _ rfl _ _ 90 rfl w.heap.size 86 i0 (.agg #[.int .i64 0,.int .i64 0,.int .i64 0]) 3 24 Tryz.underlying90 hi hz0 hz1 hz2 rfl (by decide) _ _ _ rfl ((own_below (own_iter HI.out.2.2.2.2.1 HIT.out _) hb3).alloc _) ⟨w3.heap.size,0,none⟩ 1 1 [.int .i64 pos,.int .i64 N,.int .i64 C] rfl rfl (cells_new _ _ _) (uCells_one (pos,N,C)) (by unfold maxLen;omega) (by omega) (by have:=hb3.size;rw[iterAt_size]at this;have:=HI.out.2.2.2.2.2.1.size;simp;omega) ?_;intro v' w4 hown4 hgrow4 _))
   have hst:=hid (HI.out.step hp HN.out HC.out hb3 hown4 hgrow4);clear hown4 hgrow4 hb3
   go_roundw
   case rel=>exact⟨pos+N,_,hst.out⟩
   case measure=>
    have h1:=hst.out.2.1;have h2:w4.iterPos K=pos+N:=by simp[World.iterPos,h1]
    have h3:=decodeL_width (s.data.toList.drop pos);rw[←HN.out]at h3;rw[h2,HP.out];omega
  ·have hnx:∀ty,(Instr.next (.pointer (some ⟨K,0,none⟩)) true ty).run Tryz.prog wr= .ok (.tuple #[.bool false]) wr:=fun ty=>run_next_end_at wr K s pos ty HIT.out hp;go_wp2;go_ret;obtain⟨h1,h2,h3,h4,h5,h6,h7⟩:=HI.out;have h0:s.data.toList.drop pos=[]:=List.drop_eq_nil_of_le (by rw[←Lib.size_eq];omega);rw[h0,units_nil,List.append_nil]at h3;exact⟨_,rfl,by rw[h3];exact h5,h6⟩
def codesL (l:List UInt8):List Int:=if validD l then(units 0 l).map (·.2.2)else []
theorem Tryz.info3:(Tryz.prog.info? 3).map (fun i=>(i.zero,i.size,i.bytes))=some (some (.int .i64 0),1,8):=by kernel_rfl
def CodInv (s:ByteArray)(w:World)(B K:Nat)(v:Value)(wr:World)(pos:Nat)(us:List (Nat×Nat×Int)):Prop:=
 pos≤s.size∧wr.heap[K]?=some (.stringIter s pos)∧units 0 s.data.toList=us++units pos (s.data.toList.drop pos)∧us.length≤pos∧wr.ownsRow B 3 1 v us.length (us.map fun u=> .int .i64 u.2.2)∧Below B w wr∧B≤K
theorem CodInv.step {s:ByteArray}{w:World}{B K:Nat}{v:Value}{wr:World}{pos:Nat}{us:List (Nat×Nat×Int)}(h:CodInv s w B K v wr pos us)(hp:pos<s.size){N:Nat}{C:Int}
  (hN:N=(decodeL (s.data.toList.drop pos)).2) (hC:C=uCode (s.data.toList.drop pos)) {v':Value} {w4:World} {o:Obj}
  (hown:w4.ownsRow B 3 1 v' (us.length+1) ((us.map fun u=> .int .i64 u.2.2)++[.int .i64 C])) (hg:((wr.iterAt K s (pos+N)).alloc o).grownBy w4 v.ownBlock):CodInv s w B K v' w4 (pos+N) (us++[(pos,N,C)]):=by
 obtain⟨h1,h2,h3,h4,h5,h6,h7⟩:=h;have hne:s.data.toList.drop pos≠[]:=by
  intro h0;have:=congrArg List.length h0;rw[List.length_drop,←Lib.size_eq]at this;simp at this;omega
 have hle:=decodeL_le _ hne;have hw:=decodeL_width (s.data.toList.drop pos);rw[List.length_drop,←Lib.size_eq]at hle;have hKlt:K<wr.heap.size:=(Array.getElem?_eq_some_iff.1 h2).1;have hK1:(wr.iterAt K s (pos+N)).heap[K]?=some (.stringIter s (pos+N)):=iterAt_heap wr K s pos (pos+N) h2;have hsz:(wr.iterAt K s (pos+N)).heap.size=wr.heap.size:=iterAt_size _ _ _ _;have hbw:=h6.size;refine⟨by omega,?_,?_,by simp;omega,?_,?_,h7⟩
 ·rw[hg.block K (by simp;omega) (own_not_iter h5 h2),Below.heap_alloc _ _ _ (by omega)];exact hK1
 ·rw[h3,units_step pos _ hne,←hN,←hC,List.drop_drop];simp
 ·simpa using hown
 ·have b1:Below B w (wr.iterAt K s (pos+N)):=below_iterAt h6 h7 s _;exact(b1.alloc (by omega) o).grown hg (by simp;omega) (fun k hk=>(h5.lt k hk).1)
theorem units_valid (l:List UInt8)(hv:validD l=true):∀p us t,units 0 l=us++units p t→t≠[]→uBad t=false:=by
 intro p us t h hne;rw[validD_units l 0,h,units_step p t hne,List.all_append]at hv;have hh:0≤uCode t:=by
  have:=(Bool.and_eq_true_iff.1 hv).2;rw[List.all_cons,Bool.and_eq_true_iff]at this;simpa using this.1
 cases hb:uBad t
 ·rfl
 ·simp[uCode,hb]at hh;omega
theorem codes_yes (s:ByteArray)(w:World)(hs:s.size≤1000000000000)(hT:Lib.Utf8Tabs 1 2 w)(hv:validD s.data.toList=true):
  Calls Tryz.prog 143 #[.string s] w fun e w'=>∃v,e= .returned (.tuple #[v,.bool true])∧w'.ownsRow w.heap.size 3 1 v (units 0 s.data.toList).length ((units 0 s.data.toList).map fun u=> .int .i64 u.2.2)∧Below w.heap.size w w':=by
 obtain⟨i0,hi,hz0,hz1,hz2⟩:=info_parts Tryz.info3;have hrc:=Lib.runeCount_le s;have cV:∀wx,Lib.Utf8Tabs 1 2 wx→Calls Tryz.prog 194 #[.string s] wx fun e w'=>e= .returned (.bool true)∧Below wx.heap.size wx w':=by
  intro wx ht;have:=Tryz.utf8_ValidString s wx (by omega) ht;rwa[hv]at this
 have CV:=hid cV;have HT:=hid hT;have HV:=hid hv;clear cV hT hv;go_enter Tryz.func143,Tryz.ntmps143;go_wp2_with (first
  | (go_at_call 194;refine(CV.out _ HT.out).mono ?_;rintro e w0 ⟨rfl,hb0⟩)
  | (go_at_call 132;refine(count_any s _ hs).mono ?_;rintro e w1 ⟨rfl,hb1⟩)
  | (at_make;refine wpList_make_own _ rfl _ _ 42 rfl w.heap.size 3 i0 (.int .i64 0) 1 Tryz.underlying42 hi hz0 hz1 .i64 .i64 _ (Lib.runeCount s) rfl rfl rfl (by rw[hz2];omega) (by unfold maxLen;omega) (by have:=hb1.size;have:=hb0.size;omega) ?_;intro w2 hown2 hgrow2))
 have hb01:Below w.heap.size w w1:=hb0.trans (hb1.mono hb0.size);have hb2:Below w.heap.size w w2:=(hb01.trans ((Below.refl _ _).grown hgrow2 hb01.size (fun k hk=>by cases hk)));clear hgrow2 hb0 hb1;generalize Value.slice (some ⟨w1.heap.size,0,none⟩) 0 (Lib.runeCount s)=v0 at hown2⊢;have hinv0:CodInv s w w.heap.size w2.heap.size v0 (w2.iter s 0) 0 []:=
  ⟨Nat.zero_le _,World.iter_heap _ _ _,by simp,Nat.le_refl _,hown2.alloc (.stringIter s 0),hb2.alloc hb2.size _,hb2.size⟩
 clear hown2;have hsz2:=hb2.size;obtain⟨K,hK⟩:∃K,K=w2.heap.size:=⟨_,rfl⟩;rw[←hK]at hinv0⊢
 go_loopw [4] (fun v wr=>∃(pos:Nat) (us:List (Nat×Nat×Int)),CodInv s w w.heap.size K v wr pos us) (fun _ wr=>s.size-wr.iterPos K)
 case atStart=>exact⟨0,[],hinv0⟩
 case round=>
  obtain⟨pos,us,hinv⟩:=hrel;have hit:=hinv.2.1;have hpl:=hinv.1;have hul:=hinv.2.2.2.1;have hipos:wr.iterPos K=pos:=by simp[World.iterPos,hit]
  have HIT:=hid hit;have HI:=hid hinv;have HP:=hid hipos;clear hit hinv hinv0 hipos hK;by_cases hp:pos<s.size
  ·have hne:s.data.toList.drop pos≠[]:=by
    intro h0;have:=congrArg List.length h0;rw[List.length_drop,←Lib.size_eq]at this;simp at this;omega
   have hbad:=units_valid _ HV.out _ _ _ HI.out.2.2.1 hne;have hcl:=decodeL_rune (s.data.toList.drop pos);obtain⟨c,hc⟩:∃c,c=(decodeL (s.data.toList.drop pos)).1:=⟨_,rfl⟩;obtain⟨N,hN⟩:∃N,N=(decodeL (s.data.toList.drop pos)).2:=⟨_,rfl⟩;have hC:(c:Int)=uCode (s.data.toList.drop pos):=by simp[uCode,hbad,hc]
   rw[←hc]at hcl;have hnx:∀ty,(Instr.next (.pointer (some ⟨K,0,none⟩)) true ty).run Tryz.prog wr= .ok (.tuple #[.bool true,.int .i64 pos,.int .i32 c]) (wr.iterAt K s (pos+N)):=by
    intro ty;rw[run_next_any_at wr K s pos ty HIT.out hp,hc,hN,decodeL_drop]
   have HN:=hid hN;have HC:=hid hC;clear hc hN hC hbad;have hsz3:=iterAt_size wr K s (pos+N);have hbwr:=HI.out.2.2.2.2.2.1.size;have HS:=hid hsz3;clear hsz3;go_wp2_with (first
    | (at_builtin;refine wpList_append_own _ rfl _ _ 42 rfl w.heap.size 3 i0 (.int .i64 0) 1 8 Tryz.underlying42 hi hz0 hz1 hz2 rfl (by decide) _ _ _ rfl ((own_iter HI.out.2.2.2.2.1 HIT.out _).alloc _) ⟨(wr.iterAt K s (pos+N)).heap.size,0,none⟩ 1 1 [.int .i64 c] rfl rfl (cells_new _ _ _) (ints_oneCell .i64 [(c:Int)]) (by unfold maxLen;omega) (by omega) (by have:=HS.out;simp;omega) ?_;intro v' w4 hown4 hgrow4 _))
   have hst:=hid (HI.out.step hp HN.out HC.out hown4 hgrow4);clear hown4 hgrow4
   go_roundw
   case rel=>exact⟨pos+N,_,hst.out⟩
   case measure=>
    have h1:=hst.out.2.1;have h2:w4.iterPos K=pos+N:=by simp[World.iterPos,h1]
    have h3:=decodeL_width (s.data.toList.drop pos);rw[←HN.out]at h3;rw[h2,HP.out];omega
  ·have hnx:∀ty,(Instr.next (.pointer (some ⟨K,0,none⟩)) true ty).run Tryz.prog wr= .ok (.tuple #[.bool false]) wr:=fun ty=>run_next_end_at wr K s pos ty HIT.out hp;go_wp2;go_ret2;obtain⟨h1,h2,h3,h4,h5,h6,h7⟩:=HI.out;have h0:s.data.toList.drop pos=[]:=List.drop_eq_nil_of_le (by rw[←Lib.size_eq];omega);rw[h0,units_nil,List.append_nil]at h3;exact⟨_,rfl,by rw[h3];exact h5,h6⟩
theorem codes_no (s:ByteArray)(w:World)(hs:s.size≤1000000000000)(hT:Lib.Utf8Tabs 1 2 w)(hv:validD s.data.toList=false):
  Calls Tryz.prog 143 #[.string s] w fun e w'=>e= .returned (.tuple #[.slice none 0 0,.bool false])∧Below w.heap.size w w':=by
 have cV:∀wx,Lib.Utf8Tabs 1 2 wx→Calls Tryz.prog 194 #[.string s] wx fun e w'=>e= .returned (.bool false)∧Below wx.heap.size wx w':=by
  intro wx ht;have:=Tryz.utf8_ValidString s wx (by omega) ht;rwa[hv]at this
 have CV:=hid cV;have HT:=hid hT;clear cV hT hv;go_enter Tryz.func143,Tryz.ntmps143;go_wp2_with (first
  | (go_at_call 194;refine(CV.out _ HT.out).mono ?_;rintro e w0 ⟨rfl,hb0⟩))
 go_ret2;exact⟨rfl,hb0⟩
theorem tabs_below {w w':World}(h:Lib.Utf8Tabs 1 2 w)(hb:Below w.heap.size w w'):Lib.Utf8Tabs 1 2 w':=by
 have h0:1<w.heap.size:=World.block_lt_of_cell? _ _ (h.1 0 (by omega));have h1:2<w.heap.size:=World.block_lt_of_cell? _ _ (h.2 0 (by omega)).1;exact⟨fun c hc=>(hb.cell (p:=⟨1,c,none⟩) h0).trans (h.1 c hc),fun i hi=>⟨(hb.cell (p:=⟨2,2*i,none⟩) h1).trans (h.2 i hi).1,(hb.cell (p:=⟨2,2*i+1,none⟩) h1).trans (h.2 i hi).2⟩⟩
theorem box3 {w w':World}{a b c:Value}{t:TypeId}(hb:Below (w.alloc (.cells #[a,b,c] t)).heap.size (w.alloc (.cells #[a,b,c] t)) w'):
  (w'.cell? ⟨w.heap.size,0,none⟩=some a∧w'.cell? ⟨w.heap.size,1,none⟩=some b∧w'.cell? ⟨w.heap.size,2,none⟩=some c)∧
  (w'.frozen? ⟨w.heap.size,0,none⟩=false∧w'.frozen? ⟨w.heap.size,1,none⟩=false∧w'.frozen? ⟨w.heap.size,2,none⟩=false):=by
 have hl:w.heap.size<(w.alloc (.cells #[a,b,c] t)).heap.size:=by simp
 refine⟨⟨(hb.cell (p:=⟨w.heap.size,0,none⟩) hl).trans (by simp),(hb.cell (p:=⟨w.heap.size,1,none⟩) hl).trans (by simp),(hb.cell (p:=⟨w.heap.size,2,none⟩) hl).trans (by simp)⟩,
  ⟨(hb.frozen (p:=⟨w.heap.size,0,none⟩) hl).trans (by simp),(hb.frozen (p:=⟨w.heap.size,1,none⟩) hl).trans (by simp),(hb.frozen (p:=⟨w.heap.size,2,none⟩) hl).trans (by simp)⟩⟩
theorem codes_any (s:ByteArray)(w:World)(hs:s.size≤1000000000000)(hT:Lib.Utf8Tabs 1 2 w):
  Calls Tryz.prog 143 #[.string s] w fun e w'=>∃v,e= .returned (.tuple #[v,.bool (validD s.data.toList)])∧w'.ownsRow w.heap.size 3 1 v (codesL s.data.toList).length ((codesL s.data.toList).map (Value.int .i64))∧Below w.heap.size w w':=by
 cases hv:validD s.data.toList
 ·refine(codes_no s w hs hT hv).mono fun e w' ⟨he,hb⟩=>⟨_,he,?_,hb⟩;simp only[codesL,hv];exact World.ownsRow_nil _ _ _ _
 ·refine(codes_yes s w hs hT hv).mono fun e w' ⟨v,he,ho,hb⟩=>⟨v,he,?_,hb⟩;simp only[codesL,hv,if_true,List.length_map,List.map_map];exact ho
theorem at_none (s:ByteArray)(i:Int)(w:World)(hi:i<0∨(s.size:Int)≤i)(_hm:s.size≤9223372036854775807):
  Calls Tryz.prog 130 #[.string s,.int .i64 i] w fun e w'=>e= .returned (.tuple #[.agg #[.int .i64 0,.int .i64 0,.int .i64 0],.bool false])∧Below w.heap.size w w':=by
 by_cases h0:i<0
 ·clear hi;go_enter Tryz.func130,Tryz.ntmps130;go_wp2;exact bodyPost_ret (v:= .tuple #[.agg #[.int .i64 0,.int .i64 0,.int .i64 0],.bool false]) (by simp[results,Tryz.results130,go_sem]) rfl ⟨rfl,(Below.refl _ _).alloc (Nat.le_refl _) _⟩
 ·have h1:(s.size:Int)≤i:=by omega
  clear hi;go_enter Tryz.func130,Tryz.ntmps130;go_wp2;exact bodyPost_ret (v:= .tuple #[.agg #[.int .i64 0,.int .i64 0,.int .i64 0],.bool false]) (by simp[results,Tryz.results130,go_sem]) rfl ⟨rfl,(Below.refl _ _).alloc (Nat.le_refl _) _⟩
theorem at_some (s:ByteArray)(p:Nat)(w:World)(hp:p<s.size)(hm:s.size≤9223372036854775807)(hT:Lib.Utf8Tabs 1 2 w):
  Calls Tryz.prog 130 #[.string s,.int .i64 p] w fun e w'=>e= .returned (.tuple #[uVal p (s.data.toList.drop p),.bool true])∧Below w.heap.size w w':=by
 obtain⟨c,hc⟩:∃c,c=(decodeL (s.data.toList.drop p)).1:=⟨_,rfl⟩;obtain⟨N,hN⟩:∃N,N=(decodeL (s.data.toList.drop p)).2:=⟨_,rfl⟩;obtain⟨C,hC⟩:∃C,C=uCode (s.data.toList.drop p):=⟨_,rfl⟩;have hd:Lib.decodeGo (s.extract p s.size)=(c,N):=by
  have h0:(s.extract p s.size).size≠0:=by simp;omega
  rw[Lib.decodeGo,if_neg h0,←decodeL_drop,List.drop_zero,Lib.extract_to_end,hc,hN]
 have cD:∀wx,Lib.Utf8Tabs 1 2 wx→Calls Tryz.prog 185 #[.string (s.extract p s.size)] wx fun e w'=>e= .returned (.tuple #[.int .i32 c,.int .i64 N])∧Below wx.heap.size wx w':=by
  intro wx ht;have:=Tryz.utf8_DecodeRuneInString (s.extract p s.size) wx ht;rwa[hd]at this
 have cU:∀wx,Calls Tryz.prog 133 #[.string s,.int .i64 p,.int .i32 c] wx fun e w'=>e= .returned (.agg #[.int .i64 p,.int .i64 N,.int .i64 C])∧Below wx.heap.size wx w':=by
  intro wx;have:=unit_any s p wx hp (by omega) c hc;rwa[uVal,←hN,←hC]at this
 rw[uVal,←hN,←hC];have CD:=hid cD;have CU:=hid cU;have hT2:∀o,Lib.Utf8Tabs 1 2 (w.alloc o):=fun o=>tabs_below hT ((Below.refl _ _).alloc (Nat.le_refl _) _);have HT:=hid hT2;clear cD cU hT hT2 hd hc hN hC;go_enter Tryz.func130,Tryz.ntmps130;go_wp2_with (first
  | (go_at_call 185;refine(CD.out _ (HT.out _)).mono ?_;rintro e w1 ⟨rfl,hb1⟩)
  | (go_at_call 133;refine(CU.out _).mono ?_;rintro e w2 ⟨rfl,hb2⟩;obtain⟨⟨z0,z1,z2⟩,f0,f1,f2⟩:=box3 (hb1.trans (hb2.mono hb1.size))))
 exact bodyPost_ret (v:= .tuple #[.agg #[.int .i64 p,.int .i64 N,.int .i64 C],.bool true]) (by simp[results,Tryz.results130,go_sem,z0,z1,z2]) rfl ⟨rfl,(((((Below.refl _ _).alloc (Nat.le_refl _) _).trans ((hb1.trans (hb2.mono hb1.size)).mono (by simp))).setCell (Nat.le_refl _) _).setCell (Nat.le_refl _) _).setCell (Nat.le_refl _) _⟩
end Go.Proofs.YtfehpcbmdancoaaGreatDoor
namespace Go.Proofs.YtfehpcbmdancoaaGreatDoor
open Go Go.RowKit
theorem takeSet_noneO:∀{r:List Int},(∀c∈r,c≠93)→takeSet r=none
 | [],_=>rfl
 | c::r,h=>by
   unfold takeSet;rw[if_neg (h c (List.mem_cons_self ..)),takeSet_noneO fun x hx=>h x (List.mem_cons_of_mem _ hx)];rfl
theorem setC_none {neg:Bool}{r:List Int}(h:∀c∈r,c≠93):setC neg r=none:=by
 unfold setC;rw[takeSet_noneO h]
theorem split_at {r:List Int}{k:Nat}(hk:r[k]?=some 93)(hne:∀j,j<k→r[j]?≠some 93):r=r.take k++93::r.drop (k+1)∧(∀c∈r.take k,c≠93)∧(r.take k).length=k:=by
 obtain⟨hlt,he⟩:=List.getElem?_eq_some_iff.1 hk;refine⟨?_,fun c hc e=>?_,by rw[List.length_take];omega⟩
 ·have:=List.take_append_drop k r;rw[List.drop_eq_getElem_cons hlt,he]at this;exact this.symm
 ·obtain⟨j,hj,hjc⟩:=List.getElem_of_mem hc;rw[List.length_take]at hj;refine hne j (by omega) ?_;rw[List.getElem?_eq_getElem (by omega),←e,←hjc,List.getElem_take]
def HeadR (w w':World)(cs:List Int)(e:Ending):Prop:=
 match headC cs with
 | none=>e= .returned (.tuple #[.agg #[.bool false,.bool false,.slice none 0 0],.int .i64 0])
 | some (it,r)=>∃sv,e= .returned (.tuple #[.agg #[.bool it.any,.bool it.not,sv],.int .i64 ((cs.length-r.length:Nat):Int)])∧IntsAt w' sv it.set∧∀b,sv.ownBlock=some b→w.heap.size≤b∧b<w'.heap.size
theorem HeadR.no {w w':World}{cs:List Int}{e:Ending}(h:headC cs=none)(he:e= .returned (.tuple #[.agg #[.bool false,.bool false,.slice none 0 0],.int .i64 0])):HeadR w w' cs e:=by
 unfold HeadR;rw[h];exact he
theorem HeadR.yes {w w':World}{cs r:List Int}{it:It}{e:Ending}{sv:Value}{n:Nat}(h:headC cs=some (it,r))(hn:cs.length-r.length=n)(he:e= .returned (.tuple #[.agg #[.bool it.any,.bool it.not,sv],.int .i64 n]))(hi:IntsAt w' sv it.set)(hb:∀b,sv.ownBlock=some b→w.heap.size≤b∧b<w'.heap.size):HeadR w w' cs e:=by
 unfold HeadR;rw[h];subst hn;exact⟨sv,he,hi,hb⟩
theorem ints_part {w:World}{b off n cap:Nat}{cs:List Int}(hlt:b<w.heap.size)(hm:cap≤maxLen)(hc:∀(i:Nat) c,cs[i]?=some c→w.cell? ⟨b,off+i,none⟩=some (.int .i64 c))(k m:Nat)(hn:n=((cs.drop k).take m).length)(hcap:n+k≤cap):IntsAt w (.slice (some ⟨b,off+k,none⟩) n (cap-k)) ((cs.drop k).take m):=by
 subst hn;refine .inr ⟨b,off+k,cap-k,rfl,hlt,by omega,by omega,fun i c hi=>?_⟩;have:=(List.getElem?_eq_some_iff.1 hi).1;rw[List.getElem?_take_of_lt (by rw[List.length_take]at this;omega),List.getElem?_drop]at hi;rw[Nat.add_assoc];exact hc _ _ hi
theorem ints_set3 {w:World}{sv:Value}{cs:List Int}{H:Nat}(h:IntsAt w sv cs)(hb:∀b,sv.ownBlock=some b→b≠H)(a b c:Value):IntsAt (((w.setCell ⟨H,0,none⟩ a).setCell ⟨H,1,none⟩ b).setCell ⟨H,2,none⟩ c) sv cs:=by
 refine h.still (by simp[World.setCell]) fun g hg _=>?_;have hne:=hb g hg;rw[Below.heap_setCell _ _ _ _ hne,Below.heap_setCell _ _ _ _ hne,Below.heap_setCell _ _ _ _ hne]
theorem below_set3 {B:Nat}{w w':World}{H:Nat}(h:Below B w w')(hB:B≤H)(a b c:Value):Below B w (((w'.setCell ⟨H,0,none⟩ a).setCell ⟨H,1,none⟩ b).setCell ⟨H,2,none⟩ c):=
 ((h.setCell (p:=⟨H,0,none⟩) hB _).setCell (p:=⟨H,1,none⟩) hB _).setCell (p:=⟨H,2,none⟩) hB _
theorem own_new {w w2:World}{o:Obj}{sv:Value}{n:Nat}{xs:List Value}(h:w2.ownsRow (w.alloc o).heap.size 3 1 sv n xs):∀b,sv.ownBlock=some b→w.heap.size<b∧b<w2.heap.size:=by
 intro b hb;have:=h.lt b hb;rw[World.size_alloc]at this;omega
theorem bracket_cases {r:List Int}{k:Nat}(hk:(91::r)[k]?=some 93)(hne:∀j,j<k→(91::r)[j]?≠some 93):1≤k∧k<(91::r).length∧
  ((k=1∧headC (91::r)=none)∨(k=2∧(91::r)[1]?=some 94∧headC (91::r)=none)∨
  (3≤k∧(91::r)[1]?=some 94∧∃set b,headC (91::r)=some (⟨false,true,set⟩,b)∧set=((91::r).drop 2).take (k-2)∧set.length=k-2∧(91::r).length-b.length=k+1)∨
  (2≤k∧∃c,(91::r)[1]?=some c∧c≠94∧∃set b,headC (91::r)=some (⟨false,false,set⟩,b)∧set=((91::r).drop 1).take (k-1)∧set.length=k-1∧(91::r).length-b.length=k+1)):=by
 obtain⟨hlt,-⟩:=List.getElem?_eq_some_iff.1 hk;have h1:1≤k:=by
  rcases Nat.eq_zero_or_pos k with rfl|h
  ·simp at hk
  ·exact h
 obtain⟨m,rfl⟩:∃m,k=m+1:=⟨k-1,by omega⟩;rw[List.getElem?_cons_succ]at hk;have hne':∀j,j<m→r[j]?≠some 93:=fun j hj=>by have:=hne (j+1) (by omega);rwa[List.getElem?_cons_succ]at this
 obtain⟨s1,s2,s3⟩:=split_at hk hne';have hh:headC (91::r)=if r.head?=some 94 then setC true r.tail else setC false r:=by
  rw[headC_cons,if_neg (by decide),if_neg (by decide),if_pos rfl]
 have hlen:r.length=m+(r.drop (m+1)).length+1:=by rw[List.length_drop];simp at hlt;omega
 refine⟨by omega,hlt,?_⟩;rw[List.getElem?_cons_succ]
 match m,r,s1,s2,s3,hh,hlen with
 | 0,r,s1,s2,s3,hh,hlen=>
   left;refine⟨rfl,?_⟩;rw[hh,s1];rfl
 | m+1,r,s1,s2,s3,hh,hlen=>
   right;cases hr:r with
   | nil=>rw[hr]at hlen;simp at hlen
   | cons x r'=>
     have ht:r.take (m+1)=x::r'.take m:=by rw[hr];rfl
     have hd:r.drop (m+1+1)=r'.drop (m+1):=by rw[hr];rfl
     have e1:r'=r'.take m++93::r'.drop (m+1):=by
      have:=s1;rw[ht,hd,hr,List.cons_append]at this;exact(List.cons.inj this).2
     have e2:∀c∈r'.take m,c≠93:=fun c hc=>s2 c (by rw[ht];exact List.mem_cons_of_mem _ hc);have e3:(r'.take m).length=m:=by rw[ht]at s3;simpa using s3
     have e4:r'.length=m+1+(r'.drop (m+1)).length:=by
      conv=>lhs;rw[e1]
      rw[List.length_append,e3,List.length_cons];omega
     rw[hr]at hh;simp only[List.head?_cons,List.tail_cons,Option.some.injEq]at hh;simp only[List.length_cons,List.getElem?_cons_zero,Option.some.injEq,List.drop_succ_cons,List.drop_zero];by_cases hx:x=94
     ·rw[if_pos hx]at hh;by_cases hm:m=0
      ·left;subst hm;refine⟨rfl,hx,?_⟩;rw[hh,e1];rfl
      ·right;left;refine⟨by omega,hx,r'.take m,r'.drop (m+1),?_,by simp,by rw[e3];omega,by omega⟩;rw[hh]
       conv=>lhs;rw[e1]
       exact setC_app (fun e=>hm (by rw[←e3,e];rfl)) e2
     ·rw[if_neg hx]at hh;right;right;refine⟨by omega,x,rfl,hx,x::r'.take m,r'.drop (m+1),?_,by simp,by simp[e3],by omega⟩;rw[hh]
      conv=>lhs;rw[e1]
      exact setC_app (a:=x::r'.take m) (by simp) (by rw[←ht];exact s2)
theorem bracketed_any (w:World)(v:Value)(r:List Int)(h:IntsAt w v (91::r))(hn:r.length≤1000000000000):
  Calls Tryz.prog 236 #[v] w fun e w'=>HeadR w w' (91::r) e∧Below w.heap.size w w':=by
 have C:=Lib.hid (fun wx hx=>index_any wx v (91::r) 93 hx);have CC:=Lib.hid fun wx (vx:Value) (cx:List Int)=>clone_any wx vx cx;have HI:=Lib.hid h;obtain⟨h0,_⟩|⟨b,off,cap,rfl,h1,h2,h3,h4⟩:=h
 ·cases h0
 have HC:=Lib.hid h4;clear h4;obtain⟨n,hN⟩:∃n,n=(91::r).length:=⟨_,rfl⟩;rw[←hN]at h2 HI C⊢;have HN:=Lib.hid hN;clear hN;go_enter Tryz.func236,Tryz.ntmps236;go_wp2_with (go_at_call 204;refine(C.out _ (HI.out.keep ((Below.refl _ w).alloc (Nat.le_refl _) _))).mono ?_);rintro e w1 ⟨x,rfl,rfl,hi⟩;have hbA:=(Below.refl w.heap.size w).alloc (Nat.le_refl _) (.cells #[.bool false,.bool false,.slice none 0 0] 236);rcases hi with ⟨rfl,hno⟩|⟨k,rfl,hk,hne⟩
 ·have hh:headC (91::r)=none:=by
   rw[headC_cons,if_neg (by decide),if_neg (by decide),if_pos rfl,setC_none (fun c hc=>hno c (List.mem_cons_of_mem _ hc)),setC_none (fun c hc=>hno c (List.mem_cons_of_mem _ (List.mem_of_mem_tail hc)))];split<;>rfl
  clear hno;have HH:=Lib.hid hh;clear hh;go_wp2;exact bodyPost_ret (v:= .tuple #[.agg #[.bool false,.bool false,.slice none 0 0],.int .i64 0]) (by simp[results,Tryz.results236,go_sem]) rfl ⟨HeadR.no HH.out rfl,hbA⟩
 ·obtain⟨k1,kn,hcs⟩:=bracket_cases hk hne;have g1:(1:Int)≤k:=by omega
  have g0:(0:Int)≤k:=by omega
  have g2:k≤cap:=by have:=HN.out;omega
  have g3:k<cap:=by have:=HN.out;omega
  have KN:Hid (k≤1000000000000):=Lib.hid (by rw[List.length_cons]at kn;omega);have d1:¬cap=1:=by omega
  clear hk hne kn;rcases hcs with ⟨rfl,hh⟩|⟨rfl,hx,hh⟩|⟨k3,hx,set,b',hh,hset,hsl,hbl⟩|⟨k2,c,hx,hc,set,b',hh,hset,hsl,hbl⟩
  ·have HH:=Lib.hid hh;clear hh;go_wp2;exact bodyPost_ret (v:= .tuple #[.agg #[.bool false,.bool false,.slice none 0 0],.int .i64 0]) (by simp[results,Tryz.results236,go_sem]) rfl ⟨HeadR.no HH.out rfl,hbA⟩
  ·have cx:=HC.out 1 _ hx;have HH:=Lib.hid hh;have d2:¬cap=2:=by omega
   clear hh hx;go_wp2;exact bodyPost_ret (v:= .tuple #[.agg #[.bool false,.bool false,.slice none 0 0],.int .i64 0]) (by simp[results,Tryz.results236,go_sem]) rfl ⟨HeadR.no HH.out rfl,hbA⟩
  ·have cx:=HC.out 1 _ hx;have HH:=Lib.hid (And.intro hh (And.intro hset (And.intro hsl hbl)));have d2:¬cap=2:=by omega
   have hI:IntsAt (w.alloc (.cells #[.bool false,.bool false,.slice none 0 0] 236)) (.slice (some ⟨b,off+1+1,none⟩) (k-1-1) (cap-1-1)) set:=by
    refine IntsAt.keep ?_ hbA;have:=ints_part h1 h3 HC.out 2 (k-2) (n:=k-2) (by rw[←hset,hsl]) (by omega);rw[←hset]at this;rw[show k-2=k-1-1 by omega]at this;exact this
   have C1:=Lib.hid (CC.out _ _ _ hI (by omega) (by have:=KN.out;omega));rw[hsl]at C1;clear hh hx hset hsl hbl hI C;go_wp2_with (go_at_call 252;refine C1.out.mono ?_);rintro e w2 ⟨sv,rfl,hown,hb2⟩;obtain⟨⟨z0,z1,z2⟩,f0,f1,f2⟩:=box3 hb2;have hbw:=hbA.trans (hb2.mono hbA.size);have hsv:∃ao n' cp,sv= .slice ao n' cp:=by
    rcases hown.2 with ⟨e,_⟩|⟨_,_,_,e,_⟩
    ·exact⟨_,_,_,e⟩
    ·exact⟨_,_,_,e⟩
   obtain⟨ao,n',cp,rfl⟩:=hsv;have H2:=Lib.hid (And.intro hown hbw);clear hown hb2 hbw;go_wp2_with fail;refine bodyPost_ret (v:= .tuple #[.agg #[.bool false,.bool true,(.slice ao n' cp)],.int .i64 ((k+1:Nat):Int)]) (by simp[results,Tryz.results236,go_sem,z0,z1,z2];have:=KN.out;unfold wrap64;omega) rfl ?_;have hnew:=own_new H2.out.1;refine⟨HeadR.yes HH.out.1 HH.out.2.2.2 rfl (ints_set3 (ints_own (by rw[HH.out.2.2.1];exact H2.out.1)) (fun b hb=>by have:=hnew b hb;omega) _ _ _) (fun b hb=>?_),below_set3 H2.out.2 (Nat.le_refl _) _ _ _⟩;have:=hnew b hb;simp[World.setCell];omega
  ·have cx:=HC.out 1 _ hx;have HH:=Lib.hid (And.intro hh (And.intro hset (And.intro hsl hbl)));have d94:(c==94)=false:=by simpa using hc
   have hI:IntsAt (w.alloc (.cells #[.bool false,.bool false,.slice none 0 0] 236)) (.slice (some ⟨b,off+1,none⟩) (k-1) (cap-1)) set:=by
    refine IntsAt.keep ?_ hbA;have:=ints_part h1 h3 HC.out 1 (k-1) (n:=k-1) (by rw[←hset,hsl]) (by omega);rw[←hset]at this;rw[show k-1=k-1 by omega]at this;exact this
   have C1:=Lib.hid (CC.out _ _ _ hI (by omega) (by have:=KN.out;omega));rw[hsl]at C1;clear hh hx hset hsl hbl hI C;go_wp2_with (go_at_call 252;refine C1.out.mono ?_);rintro e w2 ⟨sv,rfl,hown,hb2⟩;obtain⟨⟨z0,z1,z2⟩,f0,f1,f2⟩:=box3 hb2;have hbw:=hbA.trans (hb2.mono hbA.size);have hsv:∃ao n' cp,sv= .slice ao n' cp:=by
    rcases hown.2 with ⟨e,_⟩|⟨_,_,_,e,_⟩
    ·exact⟨_,_,_,e⟩
    ·exact⟨_,_,_,e⟩
   obtain⟨ao,n',cp,rfl⟩:=hsv;have H2:=Lib.hid (And.intro hown hbw);clear hown hb2 hbw;go_wp2_with fail;refine bodyPost_ret (v:= .tuple #[.agg #[.bool false,.bool false,(.slice ao n' cp)],.int .i64 ((k+1:Nat):Int)]) (by simp[results,Tryz.results236,go_sem,z0,z1,z2];have:=KN.out;unfold wrap64;omega) rfl ?_;have hnew:=own_new H2.out.1;refine⟨HeadR.yes HH.out.1 HH.out.2.2.2 rfl (ints_set3 (ints_own (by rw[HH.out.2.2.1];exact H2.out.1)) (fun b hb=>by have:=hnew b hb;omega) _ _ _) (fun b hb=>?_),below_set3 H2.out.2 (Nat.le_refl _) _ _ _⟩;have:=hnew b hb;simp[World.setCell];omega
theorem HeadR.elim {w w':World}{cs:List Int}{e:Ending}(h:HeadR w w' cs e):(headC cs=none∧e= .returned (.tuple #[.agg #[.bool false,.bool false,.slice none 0 0],.int .i64 0]))∨
  ∃it r ao n cp,headC cs=some (it,r)∧e= .returned (.tuple #[.agg #[.bool it.any,.bool it.not,.slice ao n cp],.int .i64 ((cs.length-r.length:Nat):Int)])∧IntsAt w' (.slice ao n cp) it.set∧∀b,(Value.slice ao n cp).ownBlock=some b→w.heap.size≤b∧b<w'.heap.size:=by
 unfold HeadR at h;cases hh:headC cs with
 | none=>rw[hh]at h;exact .inl ⟨rfl,h⟩
 | some x=>
   obtain⟨it,r⟩:=x;rw[hh]at h;obtain⟨sv,h1,h2,h3⟩:=h;obtain⟨ao,n,cp,rfl⟩:∃ao n cp,sv= .slice ao n cp:=by
    rcases h2 with ⟨_,a,cap,e⟩|⟨b,off,cap,e,_⟩
    ·exact⟨_,_,_,e⟩
    ·exact⟨_,_,_,e⟩
   exact .inr ⟨it,r,ao,n,cp,rfl,h1,h2,h3⟩
theorem first_any (w:World)(v:Value)(c:Int)(r:List Int)(h:IntsAt w v (c::r))(hn:r.length≤1000000000000):
  Calls Tryz.prog 192 #[v] w fun e w'=>HeadR w w' (c::r) e∧Below w.heap.size w w':=by
 have C:=Lib.hid (fun wx hx=>bracketed_any wx v r hx hn);have HI:=Lib.hid h;have hbA:=(Below.refl w.heap.size w).alloc (Nat.le_refl _) (.cells #[.bool false,.bool false,.slice none 0 0] 236);obtain⟨h0,_⟩|⟨b,off,cap,rfl,h1,h2,h3,h4⟩:=h
 ·cases h0
 have c0:=h4 0 c rfl;rw[Nat.add_zero]at c0;clear h4;obtain⟨n,hN⟩:∃n,n=(c::r).length:=⟨_,rfl⟩;have hn0:(0:Int)<n:=by rw[hN,List.length_cons];omega
 rw[←hN]at h2 HI C⊢;have HN:=Lib.hid hN;clear hN hn;by_cases c46:c=46
 ·subst c46;have HH:=Lib.hid (show headC (46::r)=some (⟨true,false,[]⟩,r)by rw[headC_cons,if_pos rfl]);go_enter Tryz.func192,Tryz.ntmps192;go_wp2;refine bodyPost_ret (v:= .tuple #[.agg #[.bool true,.bool false,.slice none 0 0],.int .i64 1]) (by simp[results,Tryz.results192,go_sem]) rfl ⟨HeadR.yes (n:=1) HH.out (by rw[List.length_cons];omega) rfl (.inl ⟨rfl,_,_,rfl⟩) (fun b hb=>by simp[Value.ownBlock]at hb),?_⟩;exact(Below.refl w.heap.size w).alloc (Nat.le_refl _) _
 have HB:=Lib.hid hbA;have d46:(c==46)=false:=by simpa using c46
 by_cases c91:c=91
 ·subst c91;clear c46 d46;go_enter Tryz.func192,Tryz.ntmps192;go_wp2_with (go_at_call 236;refine(C.out _ (HI.out.keep HB.out)).mono ?_);rintro e w1 ⟨hR,hb1⟩;obtain⟨⟨z0,z1,z2⟩,f0,f1,f2⟩:=box3 hb1;have HW:=Lib.hid (hbA.trans (hb1.mono hbA.size));rcases hR.elim with ⟨hh,rfl⟩|⟨it,r',ao,n',cp,hh,rfl,hset,hbk⟩
  ·have HH:=Lib.hid hh;clear hh hR hb1;go_wp2_with fail;exact bodyPost_ret (v:= .tuple #[.agg #[.bool false,.bool false,.slice none 0 0],.int .i64 0]) (by simp[results,Tryz.results192,go_sem,z0,z1,z2]) rfl ⟨HeadR.no HH.out rfl,below_set3 HW.out (Nat.le_refl _) _ _ _⟩
  ·have HH:=Lib.hid (And.intro hh (And.intro hset hbk));clear hh hR hb1 hset hbk;obtain⟨m,hm⟩:∃m,m=(91::r).length-r'.length:=⟨_,rfl⟩;have HM:=Lib.hid hm;rw[←hm];clear hm;go_wp2_with fail;refine bodyPost_ret (v:= .tuple #[.agg #[.bool it.any,.bool it.not,.slice ao n' cp],.int .i64 m]) (by simp[results,Tryz.results192,go_sem,z0,z1,z2]) rfl ⟨HeadR.yes HH.out.1 HM.out.symm rfl (ints_set3 HH.out.2.1 (fun b hb=>by have:=HH.out.2.2 b hb;rw[World.size_alloc]at this;omega) _ _ _) (fun b hb=>?_),below_set3 HW.out (Nat.le_refl _) _ _ _⟩;have:=HH.out.2.2 b hb;rw[World.size_alloc]at this;simp[World.setCell];omega
 have d91:(c==91)=false:=by simpa using c91
 by_cases c93:c=93
 ·subst c93;have HH:=Lib.hid (show headC (93::r)=none by rw[headC_cons,if_neg (by decide),if_pos rfl]);clear c46 c91 d46 d91;go_enter Tryz.func192,Tryz.ntmps192;go_wp2;exact bodyPost_ret (v:= .tuple #[.agg #[.bool false,.bool false,.slice none 0 0],.int .i64 0]) (by simp[results,Tryz.results192,go_sem]) rfl ⟨HeadR.no HH.out rfl,HB.out⟩
 have d93:(c==93)=false:=by simpa using c93
 have HH:=Lib.hid (show headC (c::r)=some (⟨false,false,[c]⟩,r)by rw[headC_cons,if_neg c46,if_neg c93,if_neg c91]);clear c46 c91 c93;go_enter Tryz.func192,Tryz.ntmps192;go_wp2;refine bodyPost_ret (v:= .tuple #[.agg #[.bool false,.bool false,.slice (some ⟨w.heap.size+1,0,none⟩) 1 1],.int .i64 1]) (by simp[results,Tryz.results192,go_sem]) rfl ?_;have hl:=IntsAt.lit (w.alloc (.cells #[.bool false,.bool false,.slice (some ⟨w.heap.size+1,0,none⟩) 1 1] 236)) [c] #[.int .i64 c] 3 rfl (by simp);rw[World.size_alloc]at hl;refine⟨HeadR.yes (n:=1) HH.out (by rw[List.length_cons];omega) rfl hl (fun b hb=>?_),((Below.refl w.heap.size w).alloc (Nat.le_refl _) _).alloc (by simp) _⟩;simp[Value.ownBlock]at hb;simp;omega
end Go.Proofs.YtfehpcbmdancoaaGreatDoor
namespace Go.Proofs.YtfehpcbmdancoaaGreatDoor
open Go Go.RowKit Go.Lib
def parseL (cs:List Int):Option (List It):=parseF cs.length cs
theorem parseF_any:∀(f:Nat) (cs:List Int),cs.length≤f→parseF f cs=parseL cs:=by
 intro f
 induction f using Nat.strongRecOn with
 | _ f ih=>
   intro cs hf
   match f,cs,hf with
   | 0,[],_=>rfl
   | f+1,[],_=>simp[parseL,parseF]
   | f+1,c::t,hf=>
     unfold parseL;rw[List.length_cons];unfold parseF;rw[if_neg (by simp),if_neg (by simp)];cases hh:headC (c::t)with
     | none=>rfl
     | some x=>
       obtain⟨it,r⟩:=x;have hr:=(headC_says hh).2.2.1;rw[List.length_cons]at hr hf;dsimp only;rw[ih f (by omega) r (by omega)];rcases Nat.lt_or_ge t.length (f+1)with h1|h1
       ·rw[ih t.length h1 r (by omega)]
       ·omega
theorem parseL_nil:parseL []=some []:=rfl
theorem parseL_cons {cs:List Int}(h:cs≠[]):parseL cs=match headC cs with
  | none=>none
  | some (it,r)=>(parseL r).map fun l=>it::l:=by
 cases cs with
 | nil=>exact absurd rfl h
 | cons c t=>
   conv=>lhs;unfold parseL
   rw[List.length_cons];unfold parseF;rw[if_neg (by simp)];cases hh:headC (c::t)with
   | none=>rfl
   | some x=>
     obtain⟨it,r⟩:=x;have hr:=(headC_says hh).2.2.1;rw[List.length_cons]at hr;dsimp only;rw[parseF_any _ _ (by omega)]
theorem parseC_R (cs:List Int):parseC cs=match parseL cs with
 | none=>none
 | some l=>if 0<l.length∧l.length≤8 then some l else none:=rfl
theorem headC_drop {cs r:List Int}{it:It}(h:headC cs=some (it,r)):r=cs.drop (cs.length-r.length)∧r.length<cs.length:=by
 refine⟨?_,(headC_says h).2.2.1⟩;have suf:∃a,cs=a++r:=by
  match cs,h with
  | c::t,h=>
    rw[headC_cons]at h;split at h
    ·simp only[Option.some.injEq,Prod.mk.injEq]at h;exact⟨[c],by rw[←h.2];rfl⟩
    split at h
    ·cases h
    split at h
    ·split at h
     ·rename_i hhead;obtain⟨_,_,_,_,h5⟩:=setC_len h;have ht:t=94::t.tail:=by
       cases t with
       | nil=>simp at hhead
       | cons x t'=>simp only[List.head?_cons,Option.some.injEq]at hhead;rw[hhead];rfl
      exact⟨c::94::(it.set++[93]),by rw[ht,h5];simp⟩
     ·obtain⟨_,_,_,_,h5⟩:=setC_len h;exact⟨c::(it.set++[93]),by rw[h5];simp⟩
    ·simp only[Option.some.injEq,Prod.mk.injEq]at h;exact⟨[c],by rw[←h.2];rfl⟩
 obtain⟨a,rfl⟩:=suf;rw[List.length_append,show a.length+r.length-r.length=a.length by omega,List.drop_left]
theorem parseS_no {s:ByteArray}(h:validD s.data.toList=false):parseS s=none:=by
 unfold parseS codesB;rw[if_neg (by simp[h])]
theorem parseS_yes {s:ByteArray}(h:validD s.data.toList=true):parseS s=parseC (codesL s.data.toList):=by
 unfold parseS codesB codesL;rw[if_pos h,if_pos h]
def Left (cs:List Int)(l:List It)(rest:List Int):Prop:=parseL cs=(parseL rest).map fun t=>l++t
theorem Left.step {cs rest r:List Int}{l:List It}{it:It}(h:Left cs l rest)(hh:headC rest=some (it,r)):Left cs (l++[it]) r:=by
 have hne:rest≠[]:=by intro e;rw[e]at hh;cases hh
 unfold Left at h⊢;rw[h,parseL_cons hne,hh];show Option.map _ (Option.map _ (parseL r))=_;cases parseL r<;>simp
theorem Left.wrong {cs rest:List Int}{l:List It}(h:Left cs l rest)(hne:rest≠[])(hh:headC rest=none):parseC cs=none:=by
 unfold Left at h;rw[parseL_cons hne,hh]at h;rw[parseC_R,h];rfl
theorem Left.many {cs rest r:List Int}{l:List It}{it:It}(h:Left cs l rest)(hh:headC rest=some (it,r))(h8:l.length=8):parseC cs=none:=by
 have hs:=h.step hh;unfold Left at hs;rw[parseC_R,hs];cases parseL r with
 | none=>rfl
 | some t=>
   show (if 0<((l++[it])++t).length∧((l++[it])++t).length≤8 then _ else none)=none;rw[if_neg];simp only[List.length_append,List.length_cons];omega
theorem Left.done {cs:List Int}{l:List It}(h:Left cs l [])(h0:l≠[])(h8:l.length≤8):parseC cs=some l:=by
 unfold Left at h;rw[parseL_nil]at h;simp only[Option.map_some,List.append_nil]at h;rw[parseC_R,h];dsimp only;rw[if_pos ⟨List.length_pos_iff.2 h0,h8⟩]
theorem Left.start (cs:List Int):Left cs [] cs:=by
 unfold Left;cases parseL cs<;>simp
theorem Grow.news {w0 w:World}{v vc:Value}{xs:List Value}{l:List It}{cs:List Int}(h:Grow w0 w v vc xs l cs)(hf:FreshX w0.heap.size xs l):ItemsNew w0.heap.size w v l:=by
 have hadd:∀(g j:Nat),(⟨g,0,none⟩:Addr).add j=⟨g,j,none⟩:=fun g j=>by unfold Addr.add;split<;>simp_all
 have hc:= @World.ownsRow.cells _ _ _ _ _ _ _ h.row;rcases h.row.2 with ⟨rfl,h0⟩|⟨g,cap,cur,rfl,hb,hg,hnc,hcm,_⟩
 ·exact .inl ⟨List.eq_nil_of_length_eq_zero h0,_,_,rfl⟩
 ·refine .inr ⟨g,0,cap,rfl,(Array.getElem?_eq_some_iff.1 hg).1,hb,hnc,hcm,fun i it hi=>?_⟩;obtain⟨sv,h1,h2,h3,h4,_⟩:=h.sets i it hi;rw[Nat.zero_add];exact⟨by rw[←hadd];exact hc (g:=g) rfl _ _ h1,by rw[←hadd];exact hc (g:=g) rfl _ _ h2,sv,by rw[←hadd];exact hc (g:=g) rfl _ _ h3,h4,hf i it hi sv h3⟩
def MidP (w0 wr:World)(vc v:Value)(cs:List Int)(l:List It)(rest:List Int):Prop:=
 (∃xs,Grow w0 wr v (.slice none 0 0) xs l []∧FreshX w0.heap.size xs l)∧IntsAt w0 vc rest∧Left cs l rest∧(l≠[]∨rest≠[])∧rest.length≤1000000000000
def ParseR (w w':World)(o:Option (List It))(e:Ending):Prop:=∃v,e= .returned (.tuple #[v,.bool o.isSome])∧ItemsNew w.heap.size w' v (o.getD [])∧Below w.heap.size w w'
theorem ParseR.no {w w':World}{o:Option (List It)}(h:o=none)(hb:Below w.heap.size w w'):ParseR w w' o (.returned (.tuple #[.slice none 0 0,.bool false])):=by
 subst h;exact⟨_,rfl,.inl ⟨rfl,_,_,rfl⟩,hb⟩
theorem ParseR.yes {w w':World}{o:Option (List It)}{l:List It}{v:Value}(h:o=some l)(hi:ItemsNew w.heap.size w' v l)(hb:Below w.heap.size w w'):ParseR w w' o (.returned (.tuple #[v,.bool true])):=by
 subst h;exact⟨_,rfl,hi,hb⟩
theorem parse_any (w:World)(s:ByteArray)(hs:s.size≤1000000000000)(hT:Lib.Utf8Tabs 1 2 w):
  Calls Tryz.prog 141 #[.string s] w fun e w'=>ParseR w w' (parseS s) e:=by
 obtain⟨i1,hi1,hz10,hz11,hz12⟩:=info_parts Tryz.infosN236;have CC:=hid (codes_any s w hs hT);have hlen:=fun cs=>codesB_says (s:=s.data.toList) (cs:=cs);cases hv:validD s.data.toList with
 | false=>
   have HP:=hid (parseS_no hv);rw[hv]at CC;clear hlen hv hT;go_enter Tryz.func141,Tryz.ntmps141;go_wp2_with (go_at_call 143;refine CC.out.mono ?_);rintro e w1 ⟨v,rfl,-,hb⟩;have HB:=hid hb;clear hb;go_wp2_with fail;go_ret2;exact ParseR.no HP.out HB.out
 | true=>
   have HP:=hid (parseS_yes hv);have hcl:(codesL s.data.toList).length≤1000000000000:=by
    have:=(hlen (codesL s.data.toList) (by unfold codesB codesL;rw[if_pos hv,if_pos hv])).2;have h2:s.data.toList.length=s.size:=(Lib.size_eq s).symm;omega
   rw[hv]at CC;have HL:=hid hcl;clear hlen hv hcl hT;generalize codesL s.data.toList=cs at CC HP HL;go_enter Tryz.func141,Tryz.ntmps141;go_wp2_with (go_at_call 143;refine CC.out.mono ?_);rintro e w1 ⟨v,rfl,hown,hb⟩;have HI:=hid (ints_own hown);have HB:=hid hb;clear hown hb;obtain⟨ao,cap,rfl,-⟩:=ints_open HI.out;cases cs with
   | nil=>
     go_wp2_with fail;go_ret2;exact ParseR.no HP.out HB.out
   | cons c0 cs0=>
     obtain⟨n0,hn0⟩:∃n0,n0=(c0::cs0).length:=⟨_,rfl⟩;have hn1:((n0:Int)==0)=false:=by rw[hn0,List.length_cons];simp;omega
     rw[←hn0]at HI⊢;have HN:=hid hn0;clear hn0;generalize hCS:c0::cs0=cs at*;have HCS:=hid (show cs≠[]by rw[←hCS];simp);clear hCS;go_wp2_with fail;go_loopg [4,6,7,8] n0 (fun g vc v _u7 _u8 wr=>∃(l:List It) (rest:List Int),g=rest.length∧Hid (MidP w1 wr vc v cs l rest∧l.length≤8))
     case atStart=>exact⟨[],cs,HN.out,hid ⟨⟨⟨[],Grow.start w1,FreshX.nil _⟩,HI.out,Left.start cs,.inr HCS.out,HL.out⟩,Nat.zero_le _⟩⟩
     case round=>
      obtain⟨l,rest,hg,HM⟩:=hrel;clear HI hn1;cases rest with
      | nil=>
        obtain⟨⟨⟨xs,hG,hFX⟩,hI,hL,hne,-⟩,h8⟩:=HM.out;obtain⟨A,cp,rfl,-⟩:=ints_open hI;simp only[List.length_nil];have HF:=hid (HP.out.trans (hL.done (hne.resolve_right (fun h=>h rfl)) h8));have HR:=hid (And.intro ((hG.news hFX).less HB.out.size) (HB.out.trans (hG.below.mono HB.out.size)));clear hG hI hL hne h8 HM hg hFX;go_wp2_with fail;go_ret2;exact ParseR.yes HF.out HR.out.1 HR.out.2
      | cons c r=>
        obtain⟨⟨⟨xs,hG,hFX⟩,hI,hL,hne,hrl⟩,h8⟩:=HM.out;have HFX:=hid hFX;have C1:=hid (first_any wr u4 c r (hI.keep hG.below) (by rw[List.length_cons]at hrl;omega));have HII:=hid hI;obtain⟨h0,_⟩|⟨b,off,cp,rfl,h1,h2,h3,h4⟩:=hI
        ·cases h0
        have HC4:=hid h4;clear h4;obtain⟨vb,vcp,rfl⟩:∃a c,u6= .slice a l.length c:=by
         rcases hG.row.2 with ⟨e,e0⟩|⟨_,_,_,e,_⟩
         ·exact⟨_,_,by rw[e,e0]⟩
         ·exact⟨_,_,e⟩
        obtain⟨n,hn⟩:∃n,n=(c::r).length:=⟨_,rfl⟩;have hn0:(0:Int)<n:=by rw[hn,List.length_cons];omega
        rw[←hn]at h2 hrl C1 HII⊢;have HN:=hid hn;have HGK:=hid (show gk=n from hg.trans hn.symm);have HG:=hid (And.intro hG (And.intro hL h8));have HB2:=hid (HB.out.trans (hG.below.mono HB.out.size));clear hG hL h8 hne HM hg hn hFX;go_wp2_with (go_at_call 192;refine C1.out.mono ?_);rintro e w2 ⟨hR,hb2⟩;rcases hR.elim with ⟨hh,rfl⟩|⟨it,r',ao',n',cp',hh,rfl,hset,hbk⟩
        ·have HF:=hid (HP.out.trans (HG.out.2.1.wrong (by simp) hh));have H2:=hid (HB2.out.trans (hb2.mono HB2.out.size));clear hh hR hb2;go_wp2_with fail;go_ret2;exact ParseR.no HF.out ((H2.out.alloc H2.out.size _))
        ·obtain⟨any,neg,set⟩:=it;have hdr:=headC_drop hh;rw[←HN.out]at hdr;rw[←HN.out];obtain⟨m,hm⟩:∃m,m=n-r'.length:=⟨_,rfl⟩;rw[←hm]at hdr⊢;have hm0:((m:Int)==0)=false:=by simp;omega
         have hm1:(m:Int)≤n:=by omega
         have hm2:(0:Int)≤m:=by omega
         have hrl':r'.length=n-m:=by omega
         obtain⟨k,hk⟩:∃k,k=l.length:=⟨_,rfl⟩;have HK:=hid hk;rw[←hk]at HG⊢;by_cases hk8:k=8
         ·subst hk8;have HF:=hid (HP.out.trans (HG.out.2.1.many hh hk.symm));have H2:=hid (HB2.out.trans (hb2.mono HB2.out.size));clear hh hR hb2 hset hbk hdr hm hk;go_wp2_with fail;go_ret2;exact ParseR.no HF.out ((H2.out.alloc H2.out.size _))
         ·have hk8':((k:Int)==8)=false:=by simp;omega
          have hkk:k≤8:=HG.out.2.2;have HK7:=hid (show k+1≤8∧0<m by omega);have G3:=hid (((HG.out.1.keep hb2).alloc (.cells #[.bool any,.bool neg,.slice ao' n' cp'] 236)).alloc (.cells #[.bool any,.bool neg,.slice ao' n' cp'] 236));have hs3:IntsAt ((w2.alloc (.cells #[.bool any,.bool neg,.slice ao' n' cp'] 236)).alloc (.cells #[.bool any,.bool neg,.slice ao' n' cp'] 236)) (.slice ao' n' cp') set:=hset.keep (((Below.refl _ _).alloc (Nat.le_refl _) _).alloc (by simp) _);have hb3:∀z,(Value.slice ao' n' cp').ownBlock=some z→z<((w2.alloc (.cells #[.bool any,.bool neg,.slice ao' n' cp'] 236)).alloc (.cells #[.bool any,.bool neg,.slice ao' n' cp'] 236)).heap.size∧(Value.slice vb k vcp).ownBlock≠some z∧(Value.slice none 0 0).ownBlock≠some z:=fun z hz=>by
           have h1:=hbk z hz;refine⟨by simp;omega,fun e=>?_,fun e=>by cases e⟩;have h2:=(HG.out.1.row.lt z e).2;omega
          have HS:=hid (And.intro hs3 hb3);have HL2:=hid (And.intro (HG.out.2.1.step hh) hdr);have HFX2:=hid (show FreshX w1.heap.size (xs++iCells ⟨any,neg,set⟩ (.slice ao' n' cp')) (l++[⟨any,neg,set⟩])from HFX.out.snoc HG.out.1.row.1 fun g hg=>Nat.le_trans HG.out.1.below.size (hbk g hg).1);have hkc:(l.length:Nat)=k:=hk.symm;have HKC:=hid hkc;clear hh hR hb2 hset hbk hdr hm hk hs3 hb3 hkc hk8;go_wp2_with (at_builtin;refine wpList_append_where _ rfl _ _ 121 rfl w1.heap.size 236 i1 (.agg #[.bool false,.bool false,.slice none 0 0]) 3 32 Tryz.underlying121 hi1 hz10 hz11 hz12 rfl (by decide) (.slice vb k vcp) k xs rfl (HKC.out▸G3.out.row) ⟨w2.heap.size+1,0,none⟩ 1 1 (iCells ⟨any,neg,set⟩ (.slice ao' n' cp')) rfl rfl (news_row2 _ _ _ _) (iCells_one _ _ _ _) (by unfold maxLen;omega) (by omega) (G3.out.below.size) ?_);intro v' w4 hown4 hgrow4 hwh4;have G4:=hid (G3.out.item (it:=⟨any,neg,set⟩) (by rw[HKC.out];exact hown4) hgrow4 (by rw[World.size_alloc,World.size_alloc];exact hwh4) HS.out.1 HS.out.2);have H8:=hid (show (l++[(⟨any,neg,set⟩:It)]).length≤8 by rw[List.length_append,HKC.out];exact HK7.out.1);clear hown4 hgrow4 hwh4 G3 HS hkk;by_cases hc:cp=m
          ·have hnm:n=m:=by omega
           subst hnm;subst hc;have HR0:=hid (show r'=[]from List.eq_nil_of_length_eq_zero (by omega));go_wp2_with fail;go_roundg r'.length
           case measure=>have:=HGK.out;rw[HR0.out];simp;omega
           case rel=>
            refine⟨l++[⟨any,neg,set⟩],r',rfl,hid ⟨⟨⟨_,G4.out,HFX2.out⟩,?_,HL2.out.1,.inl (by simp),by rw[HR0.out];simp⟩,H8.out⟩⟩;rw[HR0.out];exact .inl ⟨rfl,_,_,rfl⟩
          ·go_wp2_with fail;go_roundg r'.length
           case measure=>have:=HGK.out;have:=HK7.out;omega
           case rel=>
            have hp:=ints_part h1 h3 HC4.out m (n-m) (n:=n-m) (by rw[←HL2.out.2.1,List.take_of_length_le (by omega),hrl']) (by omega);rw[←HL2.out.2.1,List.take_of_length_le (by omega)]at hp;exact⟨l++[⟨any,neg,set⟩],r',rfl,hid ⟨⟨⟨_,G4.out,HFX2.out⟩,hp,HL2.out.1,.inl (by simp),by omega⟩,H8.out⟩⟩
end Go.Proofs.YtfehpcbmdancoaaGreatDoor
namespace Go.Proofs.YtfehpcbmdancoaaGreatDoor.Af
open Go Go.RowKit Go.Lib
def PairE (e:Ending)(o:Option (Int×Int)):Prop:=e= .returned (.tuple #[.agg #[.int .i64 (o.getD (0,0)).1,.int .i64 (o.getD (0,0)).2],.bool o.isSome])
theorem PairE.none {e:Ending}{o:Option (Int×Int)}(h:o=Option.none)(he:e= .returned (.tuple #[.agg #[.int .i64 0,.int .i64 0],.bool false])):PairE e o:=by subst h;exact he
theorem pairL_head {ps:List (Int×Int)}{l:List UInt8}(h:l.take 5≠caseW):pairL ps l=none:=by unfold pairL;rw[if_neg h]
theorem pairL_short {ps:List (Int×Int)}{l:List UInt8}(h:l.length<6):pairL ps l=none:=by
 unfold pairL;split
 ·rw[List.drop_of_length_le (by omega)];rfl
 ·rfl
theorem pairL_codes {ps:List (Int×Int)}{l:List UInt8}(h:validD (l.drop 5)=false∨(codesL (l.drop 5)).length≠2):pairL ps l=none:=by
 unfold pairL;split
 ·unfold codesB;cases hv:validD (l.drop 5)with
  | false=>rfl
  | true=>
    rw[if_pos rfl];rcases h with h|h
    ·rw[hv]at h;cases h
    ·unfold codesL at h;rw[if_pos hv]at h;split
     ·rename_i g s hc;rw[Option.some.inj hc]at h;exact absurd rfl h
     ·rfl
 ·rfl
theorem pairL_two {ps:List (Int×Int)}{l:List UInt8}{g s:Int}(h5:l.take 5=caseW)(hv:validD (l.drop 5)=true)(hc:codesL (l.drop 5)=[g,s]):pairL ps l=if okPair ps g s=true then some (g,s)else none:=by
 unfold codesL at hc;rw[if_pos hv]at hc;unfold pairL codesB;rw[if_pos h5,if_pos hv,hc]
theorem used_take {ps:List (Int×Int)}{k:Nat}{p:Int×Int}{c:Int}(h:ps[k]?=some p):usedP (ps.take (k+1)) c=(usedP (ps.take k) c||(p.1==c||p.2==c)):=by
 obtain⟨hlt,he⟩:=List.getElem?_eq_some_iff.1 h;unfold usedP;rw[List.take_succ_eq_append_getElem hlt,he,List.any_append];simp
theorem used_in {ps:List (Int×Int)}{k:Nat}{p:Int×Int}{c:Int}(h:ps[k]?=some p)(hc:p.1=c∨p.2=c):usedP ps c=true:=by
 unfold usedP;rw[List.any_eq_true];exact⟨p,List.mem_of_getElem? h,by simpa using hc⟩
theorem v_own {w:World}{B n:Nat}{v:Value}{cs:List Int}(h:w.ownsRow B 3 1 v n (cs.map (Value.int .i64)))(hn:n=cs.length):IntsAt w v cs:=by
 subst hn;have hadd:∀(g j:Nat),(⟨g,0,none⟩:Addr).add j=⟨g,j,none⟩:=fun g j=>by unfold Addr.add;split<;>simp_all
 have hc:= @World.ownsRow.cells _ _ _ _ _ _ _ h;rcases h.2 with ⟨rfl,h0⟩|⟨g,cap,cur,rfl,hb,hg,hnc,hcm,_⟩
 ·exact .inl ⟨List.eq_nil_of_length_eq_zero h0,_,_,rfl⟩
 ·refine .inr ⟨g,0,cap,rfl,(Array.getElem?_eq_some_iff.1 hg).1,hnc,hcm,fun i c hi=>?_⟩;rw[Nat.zero_add,←hadd];exact hc (g:=g) rfl i _ (by rw[List.getElem?_map,hi];rfl)
theorem box2f {w w':World}{a b:Value}{t:TypeId}(hb:Below (w.alloc (.cells #[a,b] t)).heap.size (w.alloc (.cells #[a,b] t)) w'):∀o,w'.frozen? ⟨w.heap.size,o,none⟩=false:=by
 have h:w'.heap[w.heap.size]?=some (.cells #[a,b] t (0,0)):=(hb.block w.heap.size (by rw[World.size_alloc];omega)).trans (World.alloc_heap_new w _);intro o;simp[World.frozen?,h]
theorem put2_below {B:Nat}{w w':World}{H:Nat}(h:Below B w w')(hB:B≤H)(a b:Value):Below B w ((w'.setCell ⟨H,0,none⟩ a).setCell ⟨H,1,none⟩ b):=
 (h.setCell (p:=⟨H,0,none⟩) hB _).setCell (p:=⟨H,1,none⟩) hB _
theorem case_yes {s:ByteArray}(h:s.data.toList.take 5=caseW)(w:World):
  Calls Tryz.prog 142 #[.string s,.string ⟨#[67,65,83,69,32]⟩] w fun e w'=>e= .returned (.tuple #[.string ⟨(s.data.toList.drop 5).toArray⟩,.bool true])∧w'=w:=by
 have hc:=Tryz.strings_CutPrefix s ⟨#[67,65,83,69,32]⟩ w;have hp:Lib.hasPrefix s.data.toList (⟨#[67,65,83,69,32]⟩:ByteArray).data.toList=true:=by
  unfold Lib.hasPrefix;rw[List.isPrefixOf_iff_prefix];refine⟨s.data.toList.drop 5,?_⟩;have:=List.take_append_drop 5 s.data.toList;rw[h]at this;exact this
 unfold Lib.trimPrefix at hc;rw[hp,if_pos rfl]at hc;exact hc
theorem case_no {s:ByteArray}(h:s.data.toList.take 5≠caseW)(w:World):
  Calls Tryz.prog 142 #[.string s,.string ⟨#[67,65,83,69,32]⟩] w fun e w'=>e= .returned (.tuple #[.string s,.bool false])∧w'=w:=by
 have hc:=Tryz.strings_CutPrefix s ⟨#[67,65,83,69,32]⟩ w;have hp:Lib.hasPrefix s.data.toList (⟨#[67,65,83,69,32]⟩:ByteArray).data.toList=false:=by
  unfold Lib.hasPrefix;rw[Bool.eq_false_iff];intro he;rw[List.isPrefixOf_iff_prefix]at he;obtain⟨t,ht⟩:=he;refine h ?_;rw[←ht];rfl
 unfold Lib.trimPrefix at hc;rw[hp,if_neg (by decide)]at hc;have hs:(⟨s.data.toList.toArray⟩:ByteArray)=s:=by cases s;simp
 rw[hs]at hc;exact hc
theorem ok_taken (ps:List (Int×Int))(g s:Int)(h:(g==s)=false):okPair ps g s= !([g,s].any (takenP ps)):=by
 unfold okPair;rw[h];simp only[List.any_cons,List.any_nil,takenP];cases plainC g<;>cases plainC s<;>cases usedP ps g<;>cases usedP ps s<;>rfl
theorem wpair_any (w:World)(H:Nat)(v:Value)(ps:List (Int×Int))(s:ByteArray)(hv:w.cell? ⟨H,1,none⟩=some v)(hH:H<w.heap.size)(h:PairsAt w v ps)(hs:s.size≤1000000000)
  (hT:Lib.Utf8Tabs 1 2 w):
  Calls Tryz.prog 91 #[.pointer (some ⟨H,0,none⟩),.string s] w fun e w'=>PairE e (pairL ps s.data.toList)∧Below w.heap.size w w':=by
 obtain⟨W0,hW0⟩:∃W0,W0=w.alloc (.cells #[.int .i64 0,.int .i64 0] 118):=⟨_,rfl⟩;have hb0:Below w.heap.size w W0:=by rw[hW0];exact(Below.refl _ _).alloc (Nat.le_refl _) _
 have HB:=hid hb0;have BX:=hid (show∀wx,Below W0.heap.size W0 wx→_ from fun wx hb=>And.intro (box2 (hW0▸hb)) (box2f (hW0▸hb)));have HW0:=hid hW0;have hH0:H<W0.heap.size:=Nat.lt_of_lt_of_le hH hb0.size;have hv0:=(hb0.cell (p:=⟨H,1,none⟩) hH).trans hv;have CT:=hid (fun wx (hb:Below W0.heap.size W0 wx) u cs (hc:IntsAt wx u cs)=>wci_any wx H v u ps cs ((hb.cell (p:=⟨H,1,none⟩) hH0).trans hv0) (Nat.lt_of_lt_of_le hH0 hb.size) ((h.keep hb0).keep hb) hc);obtain⟨o,ho⟩:∃o,o=pairL ps s.data.toList:=⟨_,rfl⟩;rw[←ho];have HO:=hid ho;have hT0:=tabs_below hT hb0;clear ho h hv hv0 hH hT hb0;by_cases hc5:s.data.toList.take 5=caseW
 case neg=>
  have HZ:=hid (show o=none from HO.out.trans (pairL_head hc5));have CP:=hid (case_no hc5);clear hc5 hT0 CT;go_enter Tryz.func91,Tryz.ntmps91;go_upto_region 1 with fail;rw[←HW0.out];clear hW0;obtain⟨⟨x0,x1⟩,fz⟩:=BX.out W0 (Below.refl _ _);go_wp2_with (go_at_call 142;refine(CP.out _).mono ?_;rintro e w1 ⟨rfl,rfl⟩);exact bodyPost_ret (v:= .tuple #[.agg #[.int .i64 0,.int .i64 0],.bool false]) (by simp[results,Tryz.results91,go_sem,x0,x1]) rfl ⟨PairE.none HZ.out rfl,put2_below HB.out (Nat.le_refl _) _ _⟩
 have CP:=hid (case_yes hc5);have CC:=hid (codes_any ⟨(s.data.toList.drop 5).toArray⟩ W0 (by
  show (s.data.toList.drop 5).toArray.size≤_;rw[List.size_toArray,List.length_drop];have:s.data.toList.length=s.size:=(Lib.size_eq s).symm;omega) hT0)
 have hdd:(⟨(s.data.toList.drop 5).toArray⟩:ByteArray).data.toList=s.data.toList.drop 5:=by simp
 rw[hdd]at CC;have HC5:=hid hc5;obtain⟨S5,hS5⟩:∃S:ByteArray,S=⟨(s.data.toList.drop 5).toArray⟩:=⟨_,rfl⟩;rw[←hS5]at CP CC;clear hc5 hdd hT0 hS5;go_enter Tryz.func91,Tryz.ntmps91;go_upto_region 1 with fail;rw[←HW0.out];clear hW0;go_wp2_with (first
  | (go_at_call 142;refine(CP.out _).mono ?_;rintro e w1 ⟨rfl,rfl⟩)
  | (go_at_call 143;refine CC.out.mono ?_))
 rintro e w1 ⟨v1,rfl,hown,hb1⟩;have hin:=v_own hown rfl;obtain⟨D,dc,rfl,hD⟩:=ints_open hin;obtain⟨⟨x0,x1⟩,fz⟩:=BX.out w1 hb1;have HX1:=hid hb1;have HB1:=hid (HB.out.trans (hb1.mono HB.out.size));have CX:=hid (fun wx (hb:Below w1.heap.size w1 wx)=>CT.out wx (HX1.out.trans (hb.mono HX1.out.size)) _ _ (hin.keep hb));clear hown hin hb1 CC CP CT;obtain⟨cs,hcs⟩:∃cs,cs=codesL (s.data.toList.drop 5):=⟨_,rfl⟩;rw[←hcs]at hD CX⊢;obtain⟨bv,hbv⟩:∃b,b=validD (s.data.toList.drop 5):=⟨_,rfl⟩;rw[←hbv];have HCS:=hid (And.intro hcs hbv);obtain⟨n,hn⟩:∃n,n=cs.length:=⟨_,rfl⟩;rw[←hn]at hD CX⊢;have HD:=hid hD;clear hcs hbv hD;cases bv with
 | false=>
   have HZ:=hid (show o=none from HO.out.trans (pairL_codes (.inl HCS.out.2.symm)));clear hn CX;go_upto_region 5 with fail;go_quiet (fail);go_wp2_with fail;exact bodyPost_ret (v:= .tuple #[.agg #[.int .i64 0,.int .i64 0],.bool false]) (by simp[results,Tryz.results91,go_sem,x0,x1]) rfl ⟨PairE.none HZ.out rfl,put2_below (below_drewN HB1.out _) (Nat.le_refl _) _ _⟩
 | true=>
   by_cases hn2:n=2
   case neg=>
    have HZ:=hid (show o=none from HO.out.trans (pairL_codes (.inr (by rw[←HCS.out.1,←hn];exact hn2))));have hne2:((n:Int)==2)=false:=by simp;omega
    have hne3:((n:Int) != 2)=true:=by rw[bne,hne2];rfl
    clear hn hn2 CX;go_upto_region 5 with fail;go_quiet (fail);go_wp2_with fail;exact bodyPost_ret (v:= .tuple #[.agg #[.int .i64 0,.int .i64 0],.bool false]) (by simp[results,Tryz.results91,go_sem,x0,x1]) rfl ⟨PairE.none HZ.out rfl,put2_below (below_drewN HB1.out _) (Nat.le_refl _) _ _⟩
   subst hn2;obtain⟨g,t,rfl⟩:∃g t,cs=[g,t]:=by
    match cs,hn with
    | [g,t],_=>exact⟨g,t,rfl⟩
   obtain⟨q,oo,rfl,hq,hcap,c0⟩:=HD.out 0 g rfl;obtain⟨q',oo',e,-,-,c1⟩:=HD.out 1 t rfl;injection e with e;injection e with e1 e2;subst e1 e2;have hcap2:(2:Int)≤dc:=by have:2≤dc:=hcap;omega
   simp only[Nat.add_zero]at c0;have hO:=HO.out.trans (pairL_two HC5.out HCS.out.2.symm HCS.out.1.symm);clear hn hcap;by_cases h1:g=t
   ·have HZ:=hid (show o=none from hO.trans (if_neg (by unfold okPair;rw[beq_iff_eq.2 h1];simp)));have d1:(g==t)=true:=by simpa using h1
    clear hO h1 CX;go_upto_region 5 with fail;go_quiet (fail);go_wp2_with fail;exact bodyPost_ret (v:= .tuple #[.agg #[.int .i64 0,.int .i64 0],.bool false]) (by simp[results,Tryz.results91,go_sem,x0,x1]) rfl ⟨PairE.none HZ.out rfl,put2_below (below_drewN HB1.out _) (Nat.le_refl _) _ _⟩
   have d1:(g==t)=false:=by simpa using h1
   rw[ok_taken _ _ _ d1]at hO;obtain⟨b,hb⟩:∃b,b=[g,t].any (takenP ps):=⟨_,rfl⟩;rw[←hb]at hO CX;have HO2:=hid hO;have HM:=hid (show∀wx,Below w1.heap.size w1 wx→(wx.cell? ⟨q,oo,none⟩=some (.int .i64 g)∧wx.cell? ⟨q,oo+1,none⟩=some (.int .i64 t)∧Hid (Below w1.heap.size w1 wx))from fun wx hx=>
    ⟨(hx.cell (p:=⟨q,oo,none⟩) hq).trans c0,(hx.cell (p:=⟨q,oo+1,none⟩) hq).trans c1,hid hx⟩)
   have CY:=hid (show∀wx,(wx.cell? ⟨q,oo,none⟩=some (.int .i64 g)∧wx.cell? ⟨q,oo+1,none⟩=some (.int .i64 t)∧Hid (Below w1.heap.size w1 wx))→Calls Tryz.prog 144 #[.slice (some ⟨q,oo,none⟩) 2 dc,.func (.func 145) #[.pointer (some ⟨H,0,none⟩)] #[]] wx fun e w'=>e= .returned (.bool b)∧(w'.cell? ⟨q,oo,none⟩=some (.int .i64 g)∧w'.cell? ⟨q,oo+1,none⟩=some (.int .i64 t)∧Hid (Below w1.heap.size w1 w'))from fun wx hx=>by
    refine(CX.out wx hx.2.2.out).mono ?_;rintro e w' ⟨rfl,hbb⟩;exact⟨rfl,HM.out w' (hx.2.2.out.trans (hbb.mono hx.2.2.out.size))⟩)
   have HS0:=hid (HM.out w1.drew (Below.refl _ _).drew);clear hO h1 hb CX x0 x1 fz hq;go_upto_region 5 with fail;go_region_held3 (fun wx=>wx.cell? ⟨q,oo,none⟩=some (.int .i64 g)∧wx.cell? ⟨q,oo+1,none⟩=some (.int .i64 t)∧Hid (Below w1.heap.size w1 wx))
    (first|exact HS0.out|assumption)
    (first|(go_at_call 144;refine(CY.out _ (by assumption)).mono ?_;rintro e w5 ⟨rfl,hs⟩))
   have hx:w5.cell? ⟨q,oo,none⟩=some (.int .i64 g)∧w5.cell? ⟨q,oo+1,none⟩=some (.int .i64 t)∧Hid (Below w1.heap.size w1 w5):=by assumption
   have hb5:=HX1.out.trans (hx.2.2.out.mono HX1.out.size);obtain⟨⟨x0,x1⟩,fz⟩:=BX.out w5 hb5;have HB5:=hid (HB.out.trans (hb5.mono HB.out.size));cases b with
   | true=>
     have HZ:=hid (show o=none from HO2.out);clear hx hb5 c0 c1 hs;go_wp2_with fail;exact bodyPost_ret (v:= .tuple #[.agg #[.int .i64 0,.int .i64 0],.bool false]) (by simp[results,Tryz.results91,go_sem,x0,x1]) rfl ⟨PairE.none HZ.out rfl,put2_below HB5.out (Nat.le_refl _) _ _⟩
   | false=>
     have HZ:=hid (show o=some (g,t)from HO2.out);have z0:w5.drew.cell? ⟨q,oo,none⟩=_:=hx.1;have z1:w5.drew.cell? ⟨q,oo+1,none⟩=_:=hx.2.1;have y0:w5.drew.cell? ⟨w.heap.size,0,none⟩=_:=x0;have y1:w5.drew.cell? ⟨w.heap.size,1,none⟩=_:=x1;have yf:∀o,w5.drew.frozen? ⟨w.heap.size,o,none⟩=false:=fz;have HD2:=hid (show Below w.heap.size w w5.drew from below_drewN HB5.out 1);clear hb5 c0 c1;go_upto_region 7 with fail
     go_still_tail 7,(by kernel_rfl)
     repeat still_step
     try refine wpStill_nil ?_
     change wpList _ _ _ _ _ w5.drew;clear hx x0 x1 fz hs;generalize w5.drew=wd at*;go_wp2_with fail;refine bodyPost_ret (v:= .tuple #[.agg #[.int .i64 g,.int .i64 t],.bool true]) (by simp[results,Tryz.results91,go_sem,y0,y1]) rfl ⟨?_,put2_below HD2.out (Nat.le_refl _) _ _⟩;unfold PairE;rw[HZ.out];rfl
end Go.Proofs.YtfehpcbmdancoaaGreatDoor.Af
namespace Go.Proofs.YtfehpcbmdancoaaGreatDoor
open Go Go.Lib
theorem wrap62:∀n:Int,0≤n→n<2^62→IntKind.i64.wrap n=n:=fun n h1 h2=>IntWalk.i64_in n (by omega)
theorem and_i64 (a b:Nat)(ha:a<2^62)(hb:b<2^62):bits .and .i64 (a:Int) (b:Int)=((a&&&b:Nat):Int):=(bits_nat .i64 62 (by decide) wrap62 a b ha hb).1
theorem or_i64 (x y:Nat)(hx:x<2^62)(h64:x%64=0)(hy:y<64):bits .or .i64 (x:Int) (y:Int)=((x+y:Nat):Int):=by
 rw[bits_join .i64 62 (by decide) wrap62 6 x y (by omega) (by omega) (by omega) (by omega) (by omega) (by omega),Int.natCast_add]
theorem mask3 (a:Nat):a&&&7=a%8:=Nat.and_two_pow_sub_one_eq_mod a 3
theorem mask4 (a:Nat):a&&&15=a%16:=Nat.and_two_pow_sub_one_eq_mod a 4
theorem mask5 (a:Nat):a&&&31=a%32:=Nat.and_two_pow_sub_one_eq_mod a 5
theorem mask6 (a:Nat):a&&&63=a%64:=Nat.and_two_pow_sub_one_eq_mod a 6
theorem and7 (a:Nat)(ha:a<2^62):bits .and .i64 (a:Int) 7=((a%8:Nat):Int):=(and_i64 a 7 ha (by decide)).trans (by rw[mask3])
theorem and15 (a:Nat)(ha:a<2^62):bits .and .i64 (a:Int) 15=((a%16:Nat):Int):=(and_i64 a 15 ha (by decide)).trans (by rw[mask4])
theorem and31 (a:Nat)(ha:a<2^62):bits .and .i64 (a:Int) 31=((a%32:Nat):Int):=(and_i64 a 31 ha (by decide)).trans (by rw[mask5])
theorem and63 (a:Nat)(ha:a<2^62):bits .and .i64 (a:Int) 63=((a%64:Nat):Int):=(and_i64 a 63 ha (by decide)).trans (by rw[mask6])
theorem u8_192:∀x:Fin 256,bits .and .u8 ((x.val:Nat):Int) 192=((x.val/64*64:Nat):Int):=by decide
theorem u8_63:∀x:Fin 256,bits .and .u8 ((x.val:Nat):Int) 63=((x.val%64:Nat):Int):=by decide
theorem u8_top (b:UInt8):bits .and .u8 (b.toNat:Int) 192=((b.toNat/64*64:Nat):Int):=u8_192 ⟨b.toNat,b.toNat_lt⟩
theorem u8_low (b:UInt8):bits .and .u8 (b.toNat:Int) 63=((b.toNat%64:Nat):Int):=u8_63 ⟨b.toNat,b.toNat_lt⟩
end Go.Proofs.YtfehpcbmdancoaaGreatDoor
namespace Go.Proofs.YtfehpcbmdancoaaGreatDoor
open Go Go.RowKit Go.Lib
def OneSays (s:ByteArray)(i:Nat)(N C:Int)(w:World):Prop:=
 Calls Tryz.prog 89 #[.string s,.int .i64 i] w fun e w'=>e= .returned (.agg #[.int .i64 i,.int .i64 N,.int .i64 C])∧Below w.heap.size w w'
theorem one_ascii (s:ByteArray)(i:Nat)(w:World)(hi:i<s.size)(_hs:s.size≤1000000000000)(hb:s[i].toNat<128):OneSays s i 1 s[i].toNat w:=by
 unfold OneSays;go_enter Tryz.func89,Tryz.ntmps89;go_wp2;exact bodyPost_ret (v:= .agg #[.int .i64 i,.int .i64 1,.int .i64 s[i].toNat]) (by simp[results,Tryz.results89,go_sem]) rfl ⟨rfl,((Below.refl _ _).alloc (Nat.le_refl _) _).alloc (by simp) _⟩
theorem one_none (s:ByteArray)(i:Nat)(w:World)(hi:i<s.size)(_hs:s.size≤1000000000000)(hb:(128≤s[i].toNat∧s[i].toNat<194)∨244<s[i].toNat):OneSays s i 1 (-1-s[i].toNat) w:=by
 unfold OneSays;have hbb:=s[i].toNat_lt;rcases hb with ⟨h1,h2⟩|h1;all_goals
  go_enter Tryz.func89,Tryz.ntmps89;go_wp2;exact bodyPost_ret (v:= .agg #[.int .i64 i,.int .i64 1,.int .i64 (-1-s[i].toNat)]) (by simp[results,Tryz.results89,go_sem]) rfl ⟨rfl,((Below.refl _ _).alloc (Nat.le_refl _) _).alloc (by simp) _⟩
theorem one_short (s:ByteArray)(i:Nat)(w:World)(hi:i<s.size)(hs:s.size≤1000000000000)(hb:(194≤s[i].toNat∧s[i].toNat≤223∧s.size<i+2)∨(224≤s[i].toNat∧s[i].toNat≤239∧s.size<i+3)∨(240≤s[i].toNat∧s[i].toNat≤244∧s.size<i+4)):OneSays s i 1 (-1-s[i].toNat) w:=by
 unfold OneSays;have hbb:=s[i].toNat_lt;rcases hb with ⟨h1,h2,h3⟩|⟨h1,h2,h3⟩|⟨h1,h2,h3⟩;all_goals
  go_enter Tryz.func89,Tryz.ntmps89;go_wp2;exact bodyPost_ret (v:= .agg #[.int .i64 i,.int .i64 1,.int .i64 (-1-s[i].toNat)]) (by simp[results,Tryz.results89,go_sem]) rfl ⟨rfl,((Below.refl _ _).alloc (Nat.le_refl _) _).alloc (by simp) _⟩
def bt (s:ByteArray)(i j:Nat):Nat:=((s.data.toList.drop i).getD j 0).toNat
def vv (s:ByteArray)(i m:Nat):Nat→Nat
 | 0=>m
 | k+1=>vv s i m k*64+bt s i (k+1)%64
theorem bt_at (s:ByteArray)(i j:Nat)(h:i+j<s.size):bt s i j=s[i+j].toNat:=by
 have hl:i+j<s.data.toList.length:=by rw[←Lib.size_eq];exact h
 rw[bt,List.getD,List.getElem?_drop,List.getElem?_eq_getElem hl];rfl
theorem dec_bt (s:ByteArray)(i:Nat):decodeL (s.data.toList.drop i)=decodeN (s.size-i) (bt s i 0) (bt s i 1) (bt s i 2) (bt s i 3):=by
 rw[decodeL_N,List.length_drop,←Lib.size_eq];rfl
theorem bad_val (s:ByteArray)(i:Nat)(hi:i<s.size)(h:decodeL (s.data.toList.drop i)=(65533,1)):uVal i (s.data.toList.drop i)= .agg #[.int .i64 i,.int .i64 1,.int .i64 (-1-s[i].toNat)]:=by
 have hb:uBad (s.data.toList.drop i)=true:=by simp[uBad,h]
 simp only[uVal,uCode,hb,if_true,getD_drop_at s i hi,h];rfl
theorem good_val (s:ByteArray)(i n V:Nat)(hn:2≤n)(h:decodeL (s.data.toList.drop i)=(V,n)):uVal i (s.data.toList.drop i)= .agg #[.int .i64 i,.int .i64 n,.int .i64 V]:=by
 have hb:uBad (s.data.toList.drop i)=false:=by simp[uBad,h];omega
 simp[uVal,uCode,hb,h]
theorem ascii_val (s:ByteArray)(i:Nat)(hi:i<s.size)(hb:s[i].toNat<128):uVal i (s.data.toList.drop i)= .agg #[.int .i64 i,.int .i64 1,.int .i64 s[i].toNat]:=by
 have h:decodeL (s.data.toList.drop i)=(s[i].toNat,1):=by
  rw[dec_bt,bt_at s i 0 (by omega)];exact decodeN_ascii _ _ _ _ _ hb
 have hbd:uBad (s.data.toList.drop i)=false:=by simp[uBad,h];omega
 simp[uVal,uCode,hbd,h]
theorem dec2 (L b0 b1 b2 b3:Nat)(h1:194≤b0)(h2:b0≤223):decodeN L b0 b1 b2 b3=if 1<L∧b1/64=2 then(b0%32*64+b1%64,2)else(65533,1):=by
 unfold decodeN
 repeat' split
 all_goals first|rfl|(exfalso;omega)
theorem dec3 (L b0 b1 b2 b3:Nat)(h1:224≤b0)(h2:b0≤239):decodeN L b0 b1 b2 b3=if (1<L∧b1/64=2)∧(2<L∧b2/64=2)∧2048≤(b0%16*64+b1%64)*64+b2%64∧((b0%16*64+b1%64)*64+b2%64<55296∨57344≤(b0%16*64+b1%64)*64+b2%64)then((b0%16*64+b1%64)*64+b2%64,3)else(65533,1):=by
 unfold decodeN
 repeat' split
 all_goals first|rfl|(exfalso;omega)|(congr 1;omega)
theorem dec4 (L b0 b1 b2 b3:Nat)(h1:240≤b0)(h2:b0≤244):decodeN L b0 b1 b2 b3=if (1<L∧b1/64=2)∧(2<L∧b2/64=2)∧(3<L∧b3/64=2)∧65536≤((b0%8*64+b1%64)*64+b2%64)*64+b3%64∧((b0%8*64+b1%64)*64+b2%64)*64+b3%64≤1114111 then(((b0%8*64+b1%64)*64+b2%64)*64+b3%64,4)else(65533,1):=by
 unfold decodeN
 repeat' split
 all_goals first|rfl|(exfalso;omega)|(congr 1;omega)
theorem one_lead2 (s:ByteArray)(i:Nat)(w:World)(hi:i<s.size)(hs:s.size≤1000000000000)(h1:194≤s[i].toNat)(h2:s[i].toNat≤223)(h3:i+2≤s.size):
  Calls Tryz.prog 89 #[.string s,.int .i64 i] w fun e w'=>e= .returned (uVal i (s.data.toList.drop i))∧Below w.heap.size w w':=by
 have hbb:=s[i].toNat_lt;have e1:=and31 s[i].toNat (by omega);have hd:=dec_bt s i;rw[dec2 _ _ _ _ _ (by rw[bt_at s i 0 (by omega)];exact h1) (by rw[bt_at s i 0 (by omega)];exact h2)]at hd;have hb0:bt s i 0=s[i].toNat:=bt_at s i 0 (by omega);obtain⟨m,hm⟩:∃m,m=s[i].toNat%32:=⟨_,rfl⟩;have hm0:vv s i m 0=m:=rfl;have hmb:bt s i 0%32=m:=by rw[hb0,hm]
 have hmlt:m<32:=by omega
 rw[←hm]at e1;have HD:=hid hd;have HMB:=hid hmb;clear hm hd hb0 hmb hm0;have g0:decide ((s[i].toNat:Int)<128)=false:=by simp;omega
 have g1:decide ((194:Int)≤(s[i].toNat:Int))=true:=by simp;omega
 have g2:decide ((s[i].toNat:Int)≤223)=true:=by simp;omega
 have gz:decide ((s.size:Int)<(i:Int)+2)=false:=by simp;omega
 go_enter Tryz.func89,Tryz.ntmps89;go_wp2;have hbad0:=bad_val s i hi;have HBV:=hid hbad0;clear hbad0;go_loop [8,9] (fun v k=>∃kk V:Nat,1≤kk∧kk≤2∧k= .int .i64 kk∧v= .int .i64 V∧V<32*64^(kk-1)∧Hid (V=vv s i m (kk-1)∧∀j,1≤j→j<kk→bt s i j/64=2)) (fun _ k=>2-(RowKit.intOf k).toNat)
 case atStart=>exact⟨1,m,by omega,by omega,rfl,rfl,by simpa using hmlt,⟨rfl,fun j a b=>by omega⟩⟩
 case round=>
  obtain⟨kk,V,hk1,hk2,rfl,rfl,hVlt,HV⟩:=hrel;by_cases hkn:kk<2
  ·have hin:i+kk<s.size:=by omega
   have hx:=s[i+kk].toNat_lt;have hbt:=bt_at s i kk hin;have ht:=u8_top s[i+kk];by_cases hc:s[i+kk].toNat/64=2
   ·have hc1:(bits .and .u8 (s[i+kk].toNat:Int) 192 != 128)=false:=by rw[ht,hc];rfl
    obtain⟨X,hX⟩:∃X,X=s[i+kk].toNat%64:=⟨_,rfl⟩;have hlow:=u8_low s[i+kk];rw[←hX]at hlow;have hXlt:X<64:=by omega
    have hVb:V<2^20:=by
     have hkc:kk=1∨kk=2∨kk=3:=by omega
     rcases hkc with rfl|rfl|rfl<;>simp at hVlt<;>omega
    have hor:=or_i64 (V*64) X (by omega) (by omega) hXlt;have hV64:((V*64:Nat):Int)=(V:Int)*64:=by omega
    rw[hV64]at hor;obtain⟨V',hV'⟩:∃V',V'=V*64+X:=⟨_,rfl⟩;rw[←hV']at hor;have HN:=hid (show V'=vv s i m kk∧∀j,1≤j→j<kk+1→bt s i j/64=2 from by
     obtain⟨q1,q2⟩:=HV.out;refine⟨?_,fun j a b=>?_⟩
     ·obtain⟨kp,rfl⟩:∃kp,kk=kp+1:=⟨kk-1,by omega⟩;rw[hV',hX,vv,hbt,q1];rfl
     ·by_cases hjk:j=kk
      ·subst hjk;rw[hbt];exact hc
      ·exact q2 j a (by omega))
    have hVn:V'<32*64^(kk+1-1):=by
     have hkc:kk=1∨kk=2∨kk=3:=by omega
     rcases hkc with rfl|rfl|rfl<;>simp at hVlt⊢ <;>omega
    have hkp:kk+1-1=kk:=by omega
    have HKP:=hid hkp;have HVN:=hid hVn;clear hX hV' hV64 ht hbt hVlt hc hkp hVn;go_wp2
    go_round
    case rel=>exact⟨kk+1,V',by omega,by omega,by go_num,rfl,HVN.out,by rw[HKP.out];exact HN.out⟩
    case measure=>simp[RowKit.intOf];omega
   ·have hc1:(bits .and .u8 (s[i+kk].toNat:Int) 192 != 128)=true:=by
     rw[ht];simp;omega
    have hbad:decodeL (s.data.toList.drop i)=(65533,1):=by
     rw[HD.out,if_neg];intro hall;apply hc;rw[←hbt];have hkc:kk=1:=by omega
     subst hkc;exact hall.2
    have HR:=hid (HBV.out hbad);clear ht hbt hVlt hc hbad;go_wp2;exact bodyPost_ret (v:= .agg #[.int .i64 i,.int .i64 1,.int .i64 (-1-s[i].toNat)]) (by simp[results,Tryz.results89,go_sem]) rfl ⟨by rw[HR.out],((Below.refl _ _).alloc (Nat.le_refl _) _).alloc (by simp) _⟩
  ·obtain rfl:kk=2:=by omega
   obtain⟨q1,q2⟩:=HV.out;have hV:V=m*64+bt s i 1%64:=q1;have hdec:decodeL (s.data.toList.drop i)=(V,2):=by
    rw[HD.out,if_pos ⟨by omega,q2 1 (by omega) (by omega)⟩,HMB.out,←hV]
   have HR:=hid (good_val s i 2 V (by omega) hdec);have hV1:V<2048:=by simp at hVlt;omega
   clear q1 q2 hV hdec hVlt;go_wp2;exact bodyPost_ret (v:= .agg #[.int .i64 i,.int .i64 2,.int .i64 V]) (by simp[results,Tryz.results89,go_sem]) rfl ⟨by rw[HR.out];rfl,((Below.refl _ _).alloc (Nat.le_refl _) _).alloc (by simp) _⟩
theorem one_lead3 (s:ByteArray)(i:Nat)(w:World)(hi:i<s.size)(hs:s.size≤1000000000000)(h1:224≤s[i].toNat)(h2:s[i].toNat≤239)(h3:i+3≤s.size):
  Calls Tryz.prog 89 #[.string s,.int .i64 i] w fun e w'=>e= .returned (uVal i (s.data.toList.drop i))∧Below w.heap.size w w':=by
 have hbb:=s[i].toNat_lt;have e1:=and15 s[i].toNat (by omega);have hd:=dec_bt s i;rw[dec3 _ _ _ _ _ (by rw[bt_at s i 0 (by omega)];exact h1) (by rw[bt_at s i 0 (by omega)];exact h2)]at hd;have hb0:bt s i 0=s[i].toNat:=bt_at s i 0 (by omega);obtain⟨m,hm⟩:∃m,m=s[i].toNat%16:=⟨_,rfl⟩;have hm0:vv s i m 0=m:=rfl;have hmb:bt s i 0%16=m:=by rw[hb0,hm]
 have hmlt:m<16:=by omega
 rw[←hm]at e1;have HD:=hid hd;have HMB:=hid hmb;clear hm hd hb0 hmb hm0;have g0:decide ((s[i].toNat:Int)<128)=false:=by simp;omega
 have g1:decide ((194:Int)≤(s[i].toNat:Int))=true:=by simp;omega
 have g2:decide ((s[i].toNat:Int)≤223)=false:=by simp;omega
 have g3:decide ((224:Int)≤(s[i].toNat:Int))=true:=by simp;omega
 have g4:decide ((s[i].toNat:Int)≤239)=true:=by simp;omega
 have gz:decide ((s.size:Int)<(i:Int)+3)=false:=by simp;omega
 go_enter Tryz.func89,Tryz.ntmps89;go_wp2;have hbad0:=bad_val s i hi;have HBV:=hid hbad0;clear hbad0;go_loop [8,9] (fun v k=>∃kk V:Nat,1≤kk∧kk≤3∧k= .int .i64 kk∧v= .int .i64 V∧V<16*64^(kk-1)∧Hid (V=vv s i m (kk-1)∧∀j,1≤j→j<kk→bt s i j/64=2)) (fun _ k=>3-(RowKit.intOf k).toNat)
 case atStart=>exact⟨1,m,by omega,by omega,rfl,rfl,by simpa using hmlt,⟨rfl,fun j a b=>by omega⟩⟩
 case round=>
  obtain⟨kk,V,hk1,hk2,rfl,rfl,hVlt,HV⟩:=hrel;by_cases hkn:kk<3
  ·have hin:i+kk<s.size:=by omega
   have hx:=s[i+kk].toNat_lt;have hbt:=bt_at s i kk hin;have ht:=u8_top s[i+kk];by_cases hc:s[i+kk].toNat/64=2
   ·have hc1:(bits .and .u8 (s[i+kk].toNat:Int) 192 != 128)=false:=by rw[ht,hc];rfl
    obtain⟨X,hX⟩:∃X,X=s[i+kk].toNat%64:=⟨_,rfl⟩;have hlow:=u8_low s[i+kk];rw[←hX]at hlow;have hXlt:X<64:=by omega
    have hVb:V<2^20:=by
     have hkc:kk=1∨kk=2∨kk=3:=by omega
     rcases hkc with rfl|rfl|rfl<;>simp at hVlt<;>omega
    have hor:=or_i64 (V*64) X (by omega) (by omega) hXlt;have hV64:((V*64:Nat):Int)=(V:Int)*64:=by omega
    rw[hV64]at hor;obtain⟨V',hV'⟩:∃V',V'=V*64+X:=⟨_,rfl⟩;rw[←hV']at hor;have HN:=hid (show V'=vv s i m kk∧∀j,1≤j→j<kk+1→bt s i j/64=2 from by
     obtain⟨q1,q2⟩:=HV.out;refine⟨?_,fun j a b=>?_⟩
     ·obtain⟨kp,rfl⟩:∃kp,kk=kp+1:=⟨kk-1,by omega⟩;rw[hV',hX,vv,hbt,q1];rfl
     ·by_cases hjk:j=kk
      ·subst hjk;rw[hbt];exact hc
      ·exact q2 j a (by omega))
    have hVn:V'<16*64^(kk+1-1):=by
     have hkc:kk=1∨kk=2∨kk=3:=by omega
     rcases hkc with rfl|rfl|rfl<;>simp at hVlt⊢ <;>omega
    have hkp:kk+1-1=kk:=by omega
    have HKP:=hid hkp;have HVN:=hid hVn;clear hX hV' hV64 ht hbt hVlt hc hkp hVn;go_wp2
    go_round
    case rel=>exact⟨kk+1,V',by omega,by omega,by go_num,rfl,HVN.out,by rw[HKP.out];exact HN.out⟩
    case measure=>simp[RowKit.intOf];omega
   ·have hc1:(bits .and .u8 (s[i+kk].toNat:Int) 192 != 128)=true:=by
     rw[ht];simp;omega
    have hbad:decodeL (s.data.toList.drop i)=(65533,1):=by
     rw[HD.out,if_neg];intro hall;apply hc;rw[←hbt];have hkc:kk=1∨kk=2:=by omega
     rcases hkc with rfl|rfl
     ·exact hall.1.2
     ·exact hall.2.1.2
    have HR:=hid (HBV.out hbad);clear ht hbt hVlt hc hbad;go_wp2;exact bodyPost_ret (v:= .agg #[.int .i64 i,.int .i64 1,.int .i64 (-1-s[i].toNat)]) (by simp[results,Tryz.results89,go_sem]) rfl ⟨by rw[HR.out],((Below.refl _ _).alloc (Nat.le_refl _) _).alloc (by simp) _⟩
  ·obtain rfl:kk=3:=by omega
   obtain⟨q1,q2⟩:=HV.out;have hV:V=(m*64+bt s i 1%64)*64+bt s i 2%64:=q1;have hVlt':V<2097152:=by simp at hVlt;omega
   have hdec:=HD.out;rw[HMB.out,←hV]at hdec;clear q1 hV hVlt;have hcase:(V<2048)∨(2048≤V∧V<55296)∨(55296≤V∧V≤57343)∨(57344≤V):=by omega
   rcases hcase with v1|⟨v1,v2⟩|⟨v1,v2⟩|v1
   ·have hde:decodeL (s.data.toList.drop i)=(65533,1):=by rw[hdec,if_neg (by omega)]
    have HR:=hid (HBV.out hde);clear q2 hdec hde;go_wp2;exact bodyPost_ret (v:= .agg #[.int .i64 i,.int .i64 1,.int .i64 (-1-s[i].toNat)]) (by simp[results,Tryz.results89,go_sem]) rfl ⟨by rw[HR.out],((Below.refl _ _).alloc (Nat.le_refl _) _).alloc (by simp) _⟩
   ·have hde:decodeL (s.data.toList.drop i)=(V,3):=by rw[hdec,if_pos ⟨⟨by omega,q2 1 (by omega) (by omega)⟩,⟨by omega,q2 2 (by omega) (by omega)⟩,by omega,by omega⟩]
    have HR:=hid (good_val s i 3 V (by omega) hde);clear q2 hdec hde;go_wp2;exact bodyPost_ret (v:= .agg #[.int .i64 i,.int .i64 3,.int .i64 V]) (by simp[results,Tryz.results89,go_sem]) rfl ⟨by rw[HR.out];rfl,((Below.refl _ _).alloc (Nat.le_refl _) _).alloc (by simp) _⟩
   ·have hde:decodeL (s.data.toList.drop i)=(65533,1):=by rw[hdec,if_neg (by omega)]
    have HR:=hid (HBV.out hde);clear q2 hdec hde;go_wp2;exact bodyPost_ret (v:= .agg #[.int .i64 i,.int .i64 1,.int .i64 (-1-s[i].toNat)]) (by simp[results,Tryz.results89,go_sem]) rfl ⟨by rw[HR.out],((Below.refl _ _).alloc (Nat.le_refl _) _).alloc (by simp) _⟩
   ·have hde:decodeL (s.data.toList.drop i)=(V,3):=by rw[hdec,if_pos ⟨⟨by omega,q2 1 (by omega) (by omega)⟩,⟨by omega,q2 2 (by omega) (by omega)⟩,by omega,by omega⟩]
    have HR:=hid (good_val s i 3 V (by omega) hde);clear q2 hdec hde;go_wp2;exact bodyPost_ret (v:= .agg #[.int .i64 i,.int .i64 3,.int .i64 V]) (by simp[results,Tryz.results89,go_sem]) rfl ⟨by rw[HR.out];rfl,((Below.refl _ _).alloc (Nat.le_refl _) _).alloc (by simp) _⟩
theorem one_lead4 (s:ByteArray)(i:Nat)(w:World)(hi:i<s.size)(hs:s.size≤1000000000000)(h1:240≤s[i].toNat)(h2:s[i].toNat≤244)(h3:i+4≤s.size):
  Calls Tryz.prog 89 #[.string s,.int .i64 i] w fun e w'=>e= .returned (uVal i (s.data.toList.drop i))∧Below w.heap.size w w':=by
 have hbb:=s[i].toNat_lt;have e1:=and7 s[i].toNat (by omega);have hd:=dec_bt s i;rw[dec4 _ _ _ _ _ (by rw[bt_at s i 0 (by omega)];exact h1) (by rw[bt_at s i 0 (by omega)];exact h2)]at hd;have hb0:bt s i 0=s[i].toNat:=bt_at s i 0 (by omega);obtain⟨m,hm⟩:∃m,m=s[i].toNat%8:=⟨_,rfl⟩;have hm0:vv s i m 0=m:=rfl;have hmb:bt s i 0%8=m:=by rw[hb0,hm]
 have hmlt:m<8:=by omega
 rw[←hm]at e1;have HD:=hid hd;have HMB:=hid hmb;clear hm hd hb0 hmb hm0;have g0:decide ((s[i].toNat:Int)<128)=false:=by simp;omega
 have g1:decide ((194:Int)≤(s[i].toNat:Int))=true:=by simp;omega
 have g2:decide ((s[i].toNat:Int)≤223)=false:=by simp;omega
 have g3:decide ((224:Int)≤(s[i].toNat:Int))=true:=by simp;omega
 have g4:decide ((s[i].toNat:Int)≤239)=false:=by simp;omega
 have g5:decide ((240:Int)≤(s[i].toNat:Int))=true:=by simp;omega
 have g6:decide ((s[i].toNat:Int)≤244)=true:=by simp;omega
 have gz:decide ((s.size:Int)<(i:Int)+4)=false:=by simp;omega
 go_enter Tryz.func89,Tryz.ntmps89;go_wp2;have hbad0:=bad_val s i hi;have HBV:=hid hbad0;clear hbad0;go_loop [8,9] (fun v k=>∃kk V:Nat,1≤kk∧kk≤4∧k= .int .i64 kk∧v= .int .i64 V∧V<8*64^(kk-1)∧Hid (V=vv s i m (kk-1)∧∀j,1≤j→j<kk→bt s i j/64=2)) (fun _ k=>4-(RowKit.intOf k).toNat)
 case atStart=>exact⟨1,m,by omega,by omega,rfl,rfl,by simpa using hmlt,⟨rfl,fun j a b=>by omega⟩⟩
 case round=>
  obtain⟨kk,V,hk1,hk2,rfl,rfl,hVlt,HV⟩:=hrel;by_cases hkn:kk<4
  ·have hin:i+kk<s.size:=by omega
   have hx:=s[i+kk].toNat_lt;have hbt:=bt_at s i kk hin;have ht:=u8_top s[i+kk];by_cases hc:s[i+kk].toNat/64=2
   ·have hc1:(bits .and .u8 (s[i+kk].toNat:Int) 192 != 128)=false:=by rw[ht,hc];rfl
    obtain⟨X,hX⟩:∃X,X=s[i+kk].toNat%64:=⟨_,rfl⟩;have hlow:=u8_low s[i+kk];rw[←hX]at hlow;have hXlt:X<64:=by omega
    have hVb:V<2^20:=by
     have hkc:kk=1∨kk=2∨kk=3:=by omega
     rcases hkc with rfl|rfl|rfl<;>simp at hVlt<;>omega
    have hor:=or_i64 (V*64) X (by omega) (by omega) hXlt;have hV64:((V*64:Nat):Int)=(V:Int)*64:=by omega
    rw[hV64]at hor;obtain⟨V',hV'⟩:∃V',V'=V*64+X:=⟨_,rfl⟩;rw[←hV']at hor;have HN:=hid (show V'=vv s i m kk∧∀j,1≤j→j<kk+1→bt s i j/64=2 from by
     obtain⟨q1,q2⟩:=HV.out;refine⟨?_,fun j a b=>?_⟩
     ·obtain⟨kp,rfl⟩:∃kp,kk=kp+1:=⟨kk-1,by omega⟩;rw[hV',hX,vv,hbt,q1];rfl
     ·by_cases hjk:j=kk
      ·subst hjk;rw[hbt];exact hc
      ·exact q2 j a (by omega))
    have hVn:V'<8*64^(kk+1-1):=by
     have hkc:kk=1∨kk=2∨kk=3:=by omega
     rcases hkc with rfl|rfl|rfl<;>simp at hVlt⊢ <;>omega
    have hkp:kk+1-1=kk:=by omega
    have HKP:=hid hkp;have HVN:=hid hVn;clear hX hV' hV64 ht hbt hVlt hc hkp hVn;go_wp2
    go_round
    case rel=>exact⟨kk+1,V',by omega,by omega,by go_num,rfl,HVN.out,by rw[HKP.out];exact HN.out⟩
    case measure=>simp[RowKit.intOf];omega
   ·have hc1:(bits .and .u8 (s[i+kk].toNat:Int) 192 != 128)=true:=by
     rw[ht];simp;omega
    have hbad:decodeL (s.data.toList.drop i)=(65533,1):=by
     rw[HD.out,if_neg];intro hall;apply hc;rw[←hbt];have hkc:kk=1∨kk=2∨kk=3:=by omega
     rcases hkc with rfl|rfl|rfl
     ·exact hall.1.2
     ·exact hall.2.1.2
     ·exact hall.2.2.1.2
    have HR:=hid (HBV.out hbad);clear ht hbt hVlt hc hbad;go_wp2;exact bodyPost_ret (v:= .agg #[.int .i64 i,.int .i64 1,.int .i64 (-1-s[i].toNat)]) (by simp[results,Tryz.results89,go_sem]) rfl ⟨by rw[HR.out],((Below.refl _ _).alloc (Nat.le_refl _) _).alloc (by simp) _⟩
  ·obtain rfl:kk=4:=by omega
   obtain⟨q1,q2⟩:=HV.out;have hV:V=((m*64+bt s i 1%64)*64+bt s i 2%64)*64+bt s i 3%64:=q1;have hVlt':V<2097152:=by simp at hVlt;omega
   have hdec:=HD.out;rw[HMB.out,←hV]at hdec;clear q1 hV hVlt;have hcase:(V<65536)∨(65536≤V∧V≤1114111)∨(1114111<V):=by omega
   rcases hcase with v1|⟨v1,v2⟩|v1
   ·have hde:decodeL (s.data.toList.drop i)=(65533,1):=by rw[hdec,if_neg (by omega)]
    have HR:=hid (HBV.out hde);clear q2 hdec hde;go_wp2;exact bodyPost_ret (v:= .agg #[.int .i64 i,.int .i64 1,.int .i64 (-1-s[i].toNat)]) (by simp[results,Tryz.results89,go_sem]) rfl ⟨by rw[HR.out],((Below.refl _ _).alloc (Nat.le_refl _) _).alloc (by simp) _⟩
   ·have hde:decodeL (s.data.toList.drop i)=(V,4):=by rw[hdec,if_pos ⟨⟨by omega,q2 1 (by omega) (by omega)⟩,⟨by omega,q2 2 (by omega) (by omega)⟩,⟨by omega,q2 3 (by omega) (by omega)⟩,by omega,by omega⟩]
    have HR:=hid (good_val s i 4 V (by omega) hde);clear q2 hdec hde;go_wp2;exact bodyPost_ret (v:= .agg #[.int .i64 i,.int .i64 4,.int .i64 V]) (by simp[results,Tryz.results89,go_sem]) rfl ⟨by rw[HR.out];rfl,((Below.refl _ _).alloc (Nat.le_refl _) _).alloc (by simp) _⟩
   ·have hde:decodeL (s.data.toList.drop i)=(65533,1):=by rw[hdec,if_neg (by omega)]
    have HR:=hid (HBV.out hde);clear q2 hdec hde;go_wp2;exact bodyPost_ret (v:= .agg #[.int .i64 i,.int .i64 1,.int .i64 (-1-s[i].toNat)]) (by simp[results,Tryz.results89,go_sem]) rfl ⟨by rw[HR.out],((Below.refl _ _).alloc (Nat.le_refl _) _).alloc (by simp) _⟩
theorem one_any (s:ByteArray)(i:Nat)(w:World)(hi:i<s.size)(hs:s.size≤1000000000000):
  Calls Tryz.prog 89 #[.string s,.int .i64 i] w fun e w'=>e= .returned (uVal i (s.data.toList.drop i))∧Below w.heap.size w w':=by
 have hbb:=s[i].toNat_lt;have hb0:bt s i 0=s[i].toNat:=bt_at s i 0 (by omega);by_cases h0:s[i].toNat<128
 ·rw[ascii_val s i hi h0];exact one_ascii s i w hi hs h0
 ·by_cases h1:(128≤s[i].toNat∧s[i].toNat<194)∨244<s[i].toNat
  ·rw[bad_val s i hi (by rw[dec_bt];exact decodeN_bad _ _ _ _ _ (by rw[hb0];omega))];exact one_none s i w hi hs h1
  ·by_cases h2:(194≤s[i].toNat∧s[i].toNat≤223∧s.size<i+2)∨(224≤s[i].toNat∧s[i].toNat≤239∧s.size<i+3)∨(240≤s[i].toNat∧s[i].toNat≤244∧s.size<i+4)
   ·rw[bad_val s i hi (by
     rw[dec_bt];rcases h2 with ⟨a,b,c⟩|⟨a,b,c⟩|⟨a,b,c⟩
     ·rw[dec2 _ _ _ _ _ (by omega) (by omega),if_neg (by omega)]
     ·rw[dec3 _ _ _ _ _ (by omega) (by omega),if_neg (by omega)]
     ·rw[dec4 _ _ _ _ _ (by omega) (by omega),if_neg (by omega)])]
    exact one_short s i w hi hs h2
   ·by_cases h3:s[i].toNat≤223
    ·exact one_lead2 s i w hi hs (by omega) h3 (by omega)
    ·by_cases h4:s[i].toNat≤239
     ·exact one_lead3 s i w hi hs (by omega) h4 (by omega)
     ·exact one_lead4 s i w hi hs (by omega) (by omega) (by omega)
end Go.Proofs.YtfehpcbmdancoaaGreatDoor
