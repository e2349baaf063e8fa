/- The document's own bytes of a code, by their contract. -/
import Derived.Test.YtfehpcbmdancoaaGreatDoorPdPbNPlain
import Derived.Test.YtfehpcbmdancoaaGreatDoorPdPbPWords
import Derived.Test.YtfehpcbmdancoaaGreatDoorPdPbRPlain
import Derived.Test.YtfehpcbmdancoaaGreatDoorPdPbSmall
set_option maxRecDepth 100000
set_option maxHeartbeats 1000000
namespace Go.Proofs.YtfehpcbmdancoaaGreatDoor
open Go Go.RowKit Go.Lib
theorem bytes_none (c:Int)(h:c<0∨1114111<c∨(55296≤c∧c≤57343)):bytesOf c=⟨#[]⟩:=by
 have hv:Utf8.valid c=false:=by simp[Utf8.valid];omega
 simp[bytesOf,hv]
theorem bytes_some (k:Nat)(h:k<55296∨(57344≤k∧k≤1114111)):Utf8.valid (k:Int)=true∧bytesOf k=Utf8.encode k:=by
 have hv:Utf8.valid (k:Int)=true:=by simp[Utf8.valid];omega
 exact⟨hv,by simp[bytesOf,hv]⟩
theorem rbytes_none (c:Int)(w:World)(h:c<0∨1114111<c∨(55296≤c∧c≤57343)):
  Calls Tryz.prog 46 #[.int .i64 c] w fun e w'=>e= .returned (.string ⟨#[]⟩)∧Below w.heap.size w w':=by
 rcases h with h|h|⟨h1,h2⟩;all_goals
  go_enter Tryz.func46,Tryz.ntmps46;go_wp2;go_ret;exact⟨rfl,Below.refl _ _⟩
theorem conv_new (w:World)(B:List Nat)(s:ByteArray)(n:Nat)(hn:B.length=n)(hb:∀b∈B,b<256)(hs:s.data.toList=B.map UInt8.ofNat):
  (convert 72 9 (.slice (some ⟨w.heap.size,0,none⟩) n n)).run Tryz.prog (w.alloc (.cells (B.map fun (b:Nat)=>Value.int .u8 (b:Int)).toArray 5))= .ok (.string s) (w.alloc (.cells (B.map fun (b:Nat)=>Value.int .u8 (b:Int)).toArray 5)):=by
 have hlen:s.data.toList.length=n:=by rw[hs,List.length_map,hn]
 have h:=run_convert_bytes_back (P:=Tryz.prog) (w.alloc (.cells (B.map fun (b:Nat)=>Value.int .u8 (b:Int)).toArray 5)) 72 9 5 ⟨w.heap.size,0,none⟩ n s.data.toList Tryz.underlying72 Tryz.underlying5 Tryz.underlying9 (fun j hj=>by
  apply cells_new;have hjB:j<B.length:=by rw[hn,←hlen];exact hj
  have e:s.data.toList[j]=UInt8.ofNat B[j]:=by simp[hs]
  rw[List.getElem?_map,List.getElem?_eq_getElem hjB,e,ofNat_toNat _ (hb _ (List.getElem_mem hjB))];rfl)
 rw[hlen]at h;have e2:(⟨s.data.toList.toArray⟩:ByteArray)=s:=by cases s;simp
 rwa[e2]at h
theorem rbytes_one (k:Nat)(w:World)(h:k<128)(E:ByteArray)(hE:E.data.toList=[UInt8.ofNat k]):
  Calls Tryz.prog 46 #[.int .i64 k] w fun e w'=>e= .returned (.string E)∧Below w.heap.size w w':=by
 have hc:=conv_new w [k] E 1 rfl (by simp;omega) (by simpa using hE);simp only[List.map_cons,List.map_nil]at hc;clear hE;go_enter Tryz.func46,Tryz.ntmps46;go_wp2;go_ret;exact⟨rfl,(Below.refl _ _).alloc (Nat.le_refl _) _⟩
theorem rbytes_two (k:Nat)(w:World)(h1:128≤k)(h2:k<2048)(E:ByteArray)(hE:E.data.toList=[UInt8.ofNat (192+k/64),UInt8.ofNat (128+k%64)]):
  Calls Tryz.prog 46 #[.int .i64 k] w fun e w'=>e= .returned (.string E)∧Below w.heap.size w w':=by
 obtain⟨B0,hB0⟩:∃B,B=192+k/64:=⟨_,rfl⟩;obtain⟨X1,hX1⟩:∃X,X=k%64:=⟨_,rfl⟩;obtain⟨B1,hB1⟩:∃B,B=128+X1:=⟨_,rfl⟩;have hc:=conv_new w [B0,B1] E 2 rfl (by simp;omega) (by rw[hE,hB0,hB1,hX1];rfl);simp only[List.map_cons,List.map_nil]at hc;have f0:bits .or .i64 192 ((k:Int)/64)=(B0:Int):=by rw[hB0];exact or_i64 192 (k/64) (by omega) (by omega) (by omega)
 have f1:bits .and .i64 (k:Int) 63=(X1:Int):=by rw[hX1];exact and63 k (by omega)
 have f2:bits .or .i64 128 (X1:Int)=(B1:Int):=by rw[hB1];exact or_i64 128 X1 (by omega) (by omega) (by omega)
 have b0:B0<256:=by omega
 have b1:B1<256:=by omega
 have c0:(B0:Int)%256=B0:=by omega
 have c1:(B1:Int)%256=B1:=by omega
 clear hE hB0 hB1 hX1;go_enter Tryz.func46,Tryz.ntmps46;go_wp2;go_ret;exact⟨rfl,(Below.refl _ _).alloc (Nat.le_refl _) _⟩
theorem rbytes_three (c:Int)(k:Nat)(hck:c=(k:Int))(w:World)(h1:2048≤k)(h2:k<65536)(h3:k<55296∨57344≤k)(E:ByteArray)(hE:E.data.toList=[UInt8.ofNat (224+k/4096),UInt8.ofNat (128+k/64%64),UInt8.ofNat (128+k%64)]):
  Calls Tryz.prog 46 #[.int .i64 c] w fun e w'=>e= .returned (.string E)∧Below w.heap.size w w':=by
 obtain⟨B0,hB0⟩:∃B,B=224+k/4096:=⟨_,rfl⟩;obtain⟨X1,hX1⟩:∃X,X=k/64%64:=⟨_,rfl⟩;obtain⟨B1,hB1⟩:∃B,B=128+X1:=⟨_,rfl⟩;obtain⟨X2,hX2⟩:∃X,X=k%64:=⟨_,rfl⟩;obtain⟨B2,hB2⟩:∃B,B=128+X2:=⟨_,rfl⟩;have hc:=conv_new w [B0,B1,B2] E 3 rfl (by simp;omega) (by rw[hE,hB0,hB1,hX1,hB2,hX2];rfl);simp only[List.map_cons,List.map_nil]at hc;have f0:bits .or .i64 224 (c/4096)=(B0:Int):=by
  rw[hck,hB0];have e:=bits_join .i64 62 (by decide) wrap62 5 (224:Int) ((k:Int)/4096) (by omega) (by omega) (by omega) (by omega) (by omega) (by omega);rw[e];omega
 have f1:bits .and .i64 (c/64) 63=(X1:Int):=by rw[hck,hX1];exact and63 (k/64) (by omega)
 have f2:bits .or .i64 128 (X1:Int)=(B1:Int):=by rw[hB1];exact or_i64 128 X1 (by omega) (by omega) (by omega)
 have f3:bits .and .i64 c 63=(X2:Int):=by rw[hck,hX2];exact and63 k (by omega)
 have f4:bits .or .i64 128 (X2:Int)=(B2:Int):=by rw[hB2];exact or_i64 128 X2 (by omega) (by omega) (by omega)
 have b0:B0<256:=by omega
 have b1:B1<256:=by omega
 have b2:B2<256:=by omega
 have c0:(B0:Int)%256=B0:=by omega
 have c1:(B1:Int)%256=B1:=by omega
 have c2:(B2:Int)%256=B2:=by omega
 have i1:(2048:Int)≤c:=by omega
 have i2:c<65536:=by omega
 have i3:c<55296∨57344≤c:=by omega
 clear hck hE hB0 hB1 hX1 hB2 hX2 h1 h2 h3;rcases i3 with h3|h3;all_goals
  go_enter Tryz.func46,Tryz.ntmps46;go_wp2;go_ret;exact⟨rfl,(Below.refl _ _).alloc (Nat.le_refl _) _⟩
theorem rbytes_four (c:Int)(k:Nat)(hck:c=(k:Int))(w:World)(h1:65536≤k)(h2:k≤1114111)(E:ByteArray)(hE:E.data.toList=[UInt8.ofNat (240+k/262144),UInt8.ofNat (128+k/4096%64),UInt8.ofNat (128+k/64%64),UInt8.ofNat (128+k%64)]):
  Calls Tryz.prog 46 #[.int .i64 c] w fun e w'=>e= .returned (.string E)∧Below w.heap.size w w':=by
 obtain⟨B0,hB0⟩:∃B,B=240+k/262144:=⟨_,rfl⟩;obtain⟨X3,hX3⟩:∃X,X=k/4096%64:=⟨_,rfl⟩;obtain⟨B3,hB3⟩:∃B,B=128+X3:=⟨_,rfl⟩;obtain⟨X1,hX1⟩:∃X,X=k/64%64:=⟨_,rfl⟩;obtain⟨B1,hB1⟩:∃B,B=128+X1:=⟨_,rfl⟩;obtain⟨X2,hX2⟩:∃X,X=k%64:=⟨_,rfl⟩;obtain⟨B2,hB2⟩:∃B,B=128+X2:=⟨_,rfl⟩;have hc:=conv_new w [B0,B3,B1,B2] E 4 rfl (by simp;omega) (by rw[hE,hB0,hB1,hX1,hB2,hX2,hB3,hX3];rfl);simp only[List.map_cons,List.map_nil]at hc;have f0:bits .or .i64 240 (c/262144)=(B0:Int):=by
  rw[hck,hB0];have e:=bits_join .i64 62 (by decide) wrap62 4 (240:Int) ((k:Int)/262144) (by omega) (by omega) (by omega) (by omega) (by omega) (by omega);rw[e];omega
 have f5:bits .and .i64 (c/4096) 63=(X3:Int):=by rw[hck,hX3];exact and63 (k/4096) (by omega)
 have f6:bits .or .i64 128 (X3:Int)=(B3:Int):=by rw[hB3];exact or_i64 128 X3 (by omega) (by omega) (by omega)
 have f1:bits .and .i64 (c/64) 63=(X1:Int):=by rw[hck,hX1];exact and63 (k/64) (by omega)
 have f2:bits .or .i64 128 (X1:Int)=(B1:Int):=by rw[hB1];exact or_i64 128 X1 (by omega) (by omega) (by omega)
 have f3:bits .and .i64 c 63=(X2:Int):=by rw[hck,hX2];exact and63 k (by omega)
 have f4:bits .or .i64 128 (X2:Int)=(B2:Int):=by rw[hB2];exact or_i64 128 X2 (by omega) (by omega) (by omega)
 have b0:B0<256:=by omega
 have b1:B1<256:=by omega
 have b2:B2<256:=by omega
 have b3:B3<256:=by omega
 have c0:(B0:Int)%256=B0:=by omega
 have c1:(B1:Int)%256=B1:=by omega
 have c2:(B2:Int)%256=B2:=by omega
 have c3:(B3:Int)%256=B3:=by omega
 have i1:65536≤c:=by omega
 have i2:c≤1114111:=by omega
 clear hck hE hB0 hB1 hX1 hB2 hX2 hB3 hX3 h1 h2;go_enter Tryz.func46,Tryz.ntmps46;go_wp2;go_ret;exact⟨rfl,(Below.refl _ _).alloc (Nat.le_refl _) _⟩
theorem rbytes_any (c:Int)(w:World):Calls Tryz.prog 46 #[.int .i64 c] w fun e w'=>e= .returned (.string (bytesOf c))∧Below w.heap.size w w':=by
 by_cases h:c<0∨1114111<c∨(55296≤c∧c≤57343)
 ·rw[bytes_none c h];exact rbytes_none c w h
 ·obtain⟨k,rfl⟩:∃k:Nat,c=k:=⟨c.toNat,by omega⟩;obtain⟨hv,hb⟩:=bytes_some k (by omega);rw[hb];rcases enc_cases k hv with ⟨h1,e⟩|⟨h1,h2,e⟩|⟨h1,h2,h3,e⟩|⟨h1,h2,e⟩
  ·exact rbytes_one k w h1 _ e
  ·exact rbytes_two k w h1 h2 _ e
  ·exact rbytes_three _ k rfl w h1 h2 h3 _ e
  ·exact rbytes_four _ k rfl w h1 h2 _ e
end Go.Proofs.YtfehpcbmdancoaaGreatDoor
namespace Go.Proofs.YtfehpcbmdancoaaGreatDoor.Fo
open Go Go.RowKit Go.Lib
attribute [local go_sem] alloc_set
theorem strA (l:List UInt8):(⟨l.toArray⟩:ByteArray).data.toList=l:=by simp
theorem str_eq {a b:ByteArray}(h:a.data.toList=b.data.toList):a=b:=by
 have:=Array.toList_inj.1 h;cases a;cases b;simp at this;rw[this]
theorem app_list (a b:ByteArray):(a++b).data.toList=a.data.toList++b.data.toList:=by simp
theorem small14 (w:World)(A:Option Addr)(n cap:Nat)(ps:List (Int×Int))(s:ByteArray)(h:PairsAt w (.slice A n cap) ps)(hn:n=ps.length)(hn9:n≤1000000)(hs:s.size≤1000000000):
  Calls Tryz.prog 37 #[.slice A n cap,.string s] w fun e w'=>e= .returned (.string ⟨(smallT ps s.data.toList).toArray⟩)∧Below w.heap.size w w':=by
 have CA:=hid (rall_any s w (by omega));obtain⟨us,hus⟩:∃us,us=units 0 s.data.toList:=⟨_,rfl⟩;obtain⟨m,hm⟩:∃m,m=us.length:=⟨_,rfl⟩;rw[←hus]at CA;have hml:m≤s.size:=by rw[hm,hus,Lib.size_eq];exact units_length_le _ 0
 have HU:=hid (And.intro hus hm);have HP:=hid (And.intro h (And.intro hn hn9));clear h hn hus hm;go_enter Tryz.func37,Tryz.ntmps37;go_wp2_with fail;refine CA.out.mono ?_;rintro e w2 ⟨vu,rfl,hown,hb2⟩;obtain⟨A2,cap2,rfl,hmc,hcells⟩:=us_open hown;rw[←HU.out.2]at hmc⊢;have HC:=hid hcells;have HB2:=hid hb2;clear hcells hown hb2 CA;go_wp2_with fail;go_loopg [5,13] m (fun gh t i wr=>∃(k:Nat),k+gh=m∧i= .int .i64 k∧t= .string ⟨(preS ps s.data.toList k).toArray⟩∧Hid (Below w2.heap.size w2 wr))
 case atStart=>exact⟨0,by omega,rfl,rfl,hid (Below.refl _ _)⟩
 case round=>
  obtain⟨k,hk,rfl,rfl,HB⟩:=hrel;have k0:(0:Int)≤k:=by omega
  rcases Nat.eq_zero_or_pos gk with h0|h0
  ·have d1:¬(k:Int)<m:=by omega
   have HE:=hid (preS_all ps s.data.toList (k:=k) (by rw[←HU.out.1,←HU.out.2];omega));go_wp2_with fail;go_ret;exact⟨by rw[HE.out];rfl,HB2.out.trans (HB.out.mono HB2.out.size)⟩
  ·have d1:(k:Int)<m:=by omega
   obtain⟨u,hu⟩:∃u,us[k]?=some u:=⟨us[k]'(by have:=HU.out.2;omega),List.getElem?_eq_getElem _⟩;obtain⟨g,rfl,hg1,hg2,c0,c1,c2⟩:=HC.out k u hu;have e0:=(HB.out.cell (p:=⟨g,k*3,none⟩) hg2).trans c0;have e1:=(HB.out.cell (p:=⟨g,k*3+1,none⟩) hg2).trans c1;have e2:=(HB.out.cell (p:=⟨g,k*3+2,none⟩) hg2).trans c2;obtain⟨ua,un,uc⟩:=u;dsimp only at e0 e1 e2;have hbd:=unit_bd s.data.toList 0 (ua,un,uc) (List.mem_of_getElem? (by rw[←HU.out.1];exact hu));rw[←Lib.size_eq]at hbd;dsimp only at hbd;have hsn:=preS_snoc (ps:=ps) (by rw[←HU.out.1];exact hu);dsimp only at hsn;have hpl:=preS_len ps s.data.toList k;rw[←Lib.size_eq]at hpl;obtain⟨T0,hT0⟩:∃T,T=(⟨(preS ps s.data.toList k).toArray⟩:ByteArray):=⟨_,rfl⟩;have hz0:T0.size≤5*s.size:=by rw[hT0];show (preS ps s.data.toList k).toArray.size≤_;rw[List.size_toArray];exact hpl
   obtain⟨wx,hwx⟩:∃wx,wx=wr.alloc (.cells #[.int .i64 ua,.int .i64 un,.int .i64 uc] 86):=⟨_,rfl⟩;have hbx:Below wr.heap.size wr wx:=by rw[hwx];exact(Below.refl _ _).alloc (Nat.le_refl _) _
   have y0:wx.heap[wr.heap.size]?=some (.cells #[.int .i64 ua,.int .i64 un,.int .i64 uc] 86 (0,0)):=by rw[hwx];exact World.alloc_heap_new _ _
   have z0:wx.cell? ⟨wr.heap.size,0,none⟩=some (.int .i64 ua):=by simp[World.cell?,y0]
   have z1:wx.cell? ⟨wr.heap.size,1,none⟩=some (.int .i64 un):=by simp[World.cell?,y0]
   have z2:wx.cell? ⟨wr.heap.size,2,none⟩=some (.int .i64 uc):=by simp[World.cell?,y0]
   have hbw:Below w2.heap.size w2 wx:=HB.out.trans (hbx.mono HB.out.size);have HWX:=hid (And.intro hwx hbw);have CS:=hid (rsmall14 wx A n cap ps uc (HP.out.1.keep (HB2.out.trans (hbw.mono HB2.out.size))) HP.out.2.1 HP.out.2.2 (by omega));rw[←hT0];have HT0:=hid (And.intro hT0 hsn);clear hu c0 c1 c2 hsn hpl hT0 hbx y0 hbw;go_upto_region 5 with fail;rw[←HWX.out.1];clear hwx;cases hsc:smC ps uc with
   | some d=>
     rw[hsc]at CS;obtain⟨T1,hT1⟩:∃T,T=(⟨(preS ps s.data.toList (k+1)).toArray⟩:ByteArray):=⟨_,rfl⟩;have hcat:T0++bytesOf d=T1:=by
      refine str_eq ?_;rw[app_list,hT1,HT0.out.1,strA,strA,HT0.out.2,←byC_bytes];congr 1;unfold pcS;rw[hsc]
     have hbz:(bytesOf d).size≤4:=by
      rw[Lib.size_eq,←byC_bytes];unfold byC;split
      ·exact enc_len d
      ·simp
     have g1:¬9223372036854775807<T0.size+(bytesOf d).size:=by omega
     have HT1:=hid hT1;have CB:=hid (rbytes_any d wx);clear hT1 hbz hsc;go_wp2_with (first
      | (go_at_call 48;refine CS.out.mono ?_;rintro e w4 ⟨rfl,rfl⟩)
      | (go_at_call 46;refine CB.out.mono ?_;rintro e w5 ⟨rfl,hb5⟩;have HB5:=hid hb5;clear hb5))
     go_roundg (gk-1)
     case measure=>omega
     case rel=>exact⟨k+1,by omega,by go_num,by rw[HT1.out],hid (HWX.out.2.trans (HB5.out.mono HWX.out.2.size))⟩
   | none=>
     rw[hsc]at CS;obtain⟨T1,hT1⟩:∃T,T=(⟨(preS ps s.data.toList (k+1)).toArray⟩:ByteArray):=⟨_,rfl⟩;obtain⟨pc,hpc⟩:∃p,s.extract ua (ua+un)=p:=⟨_,rfl⟩;have hpl:pc.data.toList=(s.data.toList.drop ua).take un:=by rw[←hpc];exact fext_list s ua un
     have hcat:T0++pc=T1:=by
      refine str_eq ?_;rw[app_list,hT1,HT0.out.1,strA,strA,HT0.out.2,hpl];congr 1;unfold pcS;rw[hsc]
     have hpz:pc.size≤s.size:=by
      rw[Lib.size_eq,hpl,List.length_take,List.length_drop,Lib.size_eq];omega
     have g1:¬9223372036854775807<T0.size+pc.size:=by omega
     have ws:IntKind.i64.wrap ((ua:Int)+(un:Int))=((ua+un:Nat):Int):=by rw[IntWalk.i64_in _ (by omega)];omega
     have s0:(0:Int)≤ua:=by omega
     have s1:(ua:Int)≤((ua+un:Nat):Int):=by omega
     have s2:((ua+un:Nat):Int)≤s.size:=by omega
     have HT1:=hid hT1;clear hT1 hpz hpl hsc;go_wp2_with (go_at_call 48;refine CS.out.mono ?_;rintro e w4 ⟨rfl,rfl⟩);go_roundg (gk-1)
     case measure=>omega
     case rel=>exact⟨k+1,by omega,by go_num,by rw[HT1.out],hid HWX.out.2⟩
theorem title14 (w:World)(A:Option Addr)(n cap:Nat)(ps:List (Int×Int))(s:ByteArray)(h:PairsAt w (.slice A n cap) ps)(hn:n=ps.length)(hn9:n≤1000000)(hs:s.size≤1000000000):
  Calls Tryz.prog 25 #[.slice A n cap,.string s] w fun e w'=>e= .returned (.string ⟨(titleT ps s.data.toList).toArray⟩)∧Below w.heap.size w w':=by
 rcases Nat.eq_zero_or_pos s.size with hz|hz
 ·have CA:=hid (rat_none s 0 w (.inr (by omega)) (by omega));have he:s.data.toList=[]:=List.eq_nil_of_length_eq_zero (by rw[←Lib.size_eq];exact hz);have HE:=hid (show s=⟨(titleT ps s.data.toList).toArray⟩from str_eq (by rw[strA,he];rfl));clear h he hz hs;go_enter Tryz.func25,Tryz.ntmps25;go_wp2_with (go_at_call 44;refine CA.out.mono ?_;rintro e w2 ⟨rfl,hb2⟩;have HB:=hid hb2;clear hb2);go_ret;exact⟨by rw[←HE.out];rfl,HB.out.alloc HB.out.size _⟩
 ·have CA:=hid (show Calls Tryz.prog 44 #[.string s,.int .i64 0] w fun e w'=>e= .returned (.tuple #[uVal 0 s.data.toList,.bool true])∧Below w.heap.size w w' from rat_some s 0 w hz (by omega));have hne:s.data.toList≠[]:=fun e=>by have h2:=Lib.size_eq s;rw[e]at h2;have h3:([]:List UInt8).length=0:=rfl;omega
  have hun:units 0 s.data.toList=(0,(decodeL s.data.toList).2,uCode s.data.toList)::units (0+(decodeL s.data.toList).2) (s.data.toList.drop (decodeL s.data.toList).2):=units_step 0 s.data.toList hne;have hbd:=unit_bd s.data.toList 0 _ (by rw[hun];exact List.mem_cons_self ..);dsimp only at hbd;rw[←Lib.size_eq]at hbd;obtain⟨R,hR⟩:∃R:ByteArray,R=⟨(titleT ps s.data.toList).toArray⟩:=⟨_,rfl⟩;rw[←hR];unfold titleT at hR;rw[if_neg hne]at hR;unfold uVal at CA;obtain⟨un,hun2⟩:∃un,un=(decodeL s.data.toList).2:=⟨_,rfl⟩;obtain⟨uc,huc⟩:∃uc,uc=uCode s.data.toList:=⟨_,rfl⟩;rw[←hun2,←huc]at CA hbd;rw[←hun2,←huc]at hR;have HP:=hid (And.intro h (And.intro hn hn9));have HR:=hid hR;clear h hn hun hne hR hun2 huc;go_enter Tryz.func25,Tryz.ntmps25;go_upto_region 2 with(go_at_call 44;refine CA.out.mono ?_;rintro e w2 ⟨rfl,hb2⟩;have HB:=hid hb2;clear hb2);obtain⟨wx,hwx⟩:∃wx,wx=w2.alloc (.cells #[.int .i64 0,.int .i64 un,.int .i64 uc] 86):=⟨_,rfl⟩;have hbx:Below w2.heap.size w2 wx:=by rw[hwx];exact(Below.refl _ _).alloc (Nat.le_refl _) _
  have y0:wx.heap[w2.heap.size]?=some (.cells #[.int .i64 0,.int .i64 un,.int .i64 uc] 86 (0,0)):=by rw[hwx];exact World.alloc_heap_new _ _
  have z1:wx.cell? ⟨w2.heap.size,1,none⟩=some (.int .i64 un):=by simp[World.cell?,y0]
  have z2:wx.cell? ⟨w2.heap.size,2,none⟩=some (.int .i64 uc):=by simp[World.cell?,y0]
  have HWX:=hid (And.intro (HB.out.trans (hbx.mono HB.out.size)) y0);have CS:=hid (rgreat14 wx A n cap ps uc (HP.out.1.keep HWX.out.1) HP.out.2.1 HP.out.2.2 (by omega));try simp only[Int.natCast_zero,Nat.cast_zero,Int.ofNat_zero]
  rw[←hwx];clear hwx hbx y0 CA;cases hsc:grC ps uc with
  | none=>
    rw[hsc]at CS;have HE:=hid (show R=s from str_eq (by rw[HR.out,hsc,strA]));clear hsc;go_wp2_with (go_at_call 45;refine CS.out.mono ?_;rintro e w4 ⟨rfl,rfl⟩);go_ret;exact⟨by rw[HE.out];rfl,HWX.out.1⟩
  | some d=>
    rw[hsc]at CS;obtain⟨pc,hpc⟩:∃p,s.extract un s.size=p:=⟨_,rfl⟩;have hpl:pc.data.toList=s.data.toList.drop un:=by
     rw[←hpc,show s.size=un+(s.size-un)by omega,fext_list];exact List.take_of_length_le (by rw[List.length_drop,←Lib.size_eq];exact Nat.le_refl _)
    have HE:=hid (show bytesOf d++pc=R from str_eq (by rw[app_list,HR.out,hsc,strA,←byC_bytes,hpl]));have hbz:(bytesOf d).size≤4:=by
     rw[Lib.size_eq,←byC_bytes];unfold byC;split
     ·exact enc_len d
     ·simp
    have hpz:pc.size≤s.size:=by
     rw[Lib.size_eq,hpl,List.length_drop,Lib.size_eq];omega
    have g1:¬9223372036854775807<(bytesOf d).size+pc.size:=by omega
    have s0:(0:Int)≤un:=by omega
    have s2:(un:Int)≤s.size:=by omega
    have HCB:=hid (rbytes_any d wx.drew);have z1':wx.drew.cell? ⟨w2.heap.size,1,none⟩=some (.int .i64 un):=z1;have HCL:=hid (show∀wz,Below wx.heap.size wx wz→wz.cell? ⟨w2.heap.size,1,none⟩=some (.int .i64 un)from fun wz hz=>(hz.cell (p:=⟨w2.heap.size,1,none⟩) (World.block_lt_of_cell? _ _ z1)).trans z1);clear hsc hbz hpz hpl;go_upto_region 7 with(go_at_call 45;refine CS.out.mono ?_;rintro e w4 ⟨rfl,hw⟩;obtain rfl:wx=w4:=hw.symm);go_region_with (go_at_call 46;refine HCB.out.mono ?_;rintro e w5 ⟨rfl,hb5⟩;have z5:=HCL.out w5 ((Below.refl _ _).drew.trans hb5);have HB5:=hid (show Below wx.heap.size wx w5 from(Below.refl _ _).drew.trans hb5);clear hb5)
    all_goals
     go_wp2_with fail;go_ret;exact⟨by rw[←HE.out];rfl,HWX.out.1.trans (HB5.out.mono HWX.out.1.size)⟩
theorem shape14 (w:World)(A:Option Addr)(n cap:Nat)(ps:List (Int×Int))(s:ByteArray)(h:PairsAt w (.slice A n cap) ps)(hn:n=ps.length)(hn9:n≤1000000)(hs:s.size≤1000000000):
  Calls Tryz.prog 26 #[.slice A n cap,.string s] w fun e w'=>e= .returned (.int .i64 (shapeT ps s.data.toList))∧Below w.heap.size w w':=by
 have CA:=hid (rall_any s w (by omega));obtain⟨us,hus⟩:∃us,us=units 0 s.data.toList:=⟨_,rfl⟩;obtain⟨m,hm⟩:∃m,m=us.length:=⟨_,rfl⟩;rw[←hus]at CA;have hml:m≤s.size:=by rw[hm,hus,Lib.size_eq];exact units_length_le _ 0
 have hcl:(codesT s.data.toList).length=m:=by rw[codesT_units,List.length_map,←hus,←hm]
 have HU:=hid (And.intro hus (And.intro hm hcl));have HP:=hid (And.intro h (And.intro hn hn9));obtain⟨R,hR⟩:∃R,R=shapeT ps s.data.toList:=⟨_,rfl⟩;rw[←hR];have HR:=hid hR;clear h hn hus hm hcl hR;go_enter Tryz.func26,Tryz.ntmps26;go_wp2_with fail;refine CA.out.mono ?_;rintro e w2 ⟨vu,rfl,hown,hb2⟩;obtain⟨A2,cap2,rfl,hmc,hcells⟩:=us_open hown;rw[←HU.out.2.1]at hmc⊢;have HC:=hid hcells;have HB2:=hid hb2;clear hcells hown hb2 CA;go_wp2_with fail;go_loopg [5,6,7,17] m (fun gh g1 g2 g3 i wr=>∃(k gn mn:Nat) (fb:Bool),k+gh=m∧i= .int .i64 k∧g1= .int .i64 gn∧g2= .int .i64 mn∧g3= .bool fb∧gn≤k∧mn≤k∧
  Hid (gn=greatsC ps ((codesT s.data.toList).take k)∧mn=smallsC ps ((codesT s.data.toList).take k)∧fb=firstC ps ((codesT s.data.toList).take k)∧Below w2.heap.size w2 wr))
 case atStart=>exact⟨0,0,0,false,by omega,rfl,rfl,rfl,rfl,Nat.le_refl _,Nat.le_refl _,hid ⟨rfl,rfl,rfl,Below.refl _ _⟩⟩
 case round=>
  obtain⟨k,gn,mn,fb,hk,rfl,rfl,rfl,rfl,hgk,hmk,HB⟩:=hrel;by_cases hlt:k<m
  ·obtain⟨u,hu⟩:∃u,us[k]?=some u:=⟨us[k]'(by have:=HU.out.2.1;omega),List.getElem?_eq_getElem _⟩;obtain⟨g,rfl,hg1,hg2,c0,c1,c2⟩:=HC.out k u hu;have hb:=HB.out.2.2.2;have e0:=(hb.cell (p:=⟨g,k*3,none⟩) hg2).trans c0;have e1:=(hb.cell (p:=⟨g,k*3+1,none⟩) hg2).trans c1;have e2:=(hb.cell (p:=⟨g,k*3+2,none⟩) hg2).trans c2;obtain⟨ua,un,uc⟩:=u;dsimp only at e0 e1 e2;have hbd:=unit_bd s.data.toList 0 (ua,un,uc) (List.mem_of_getElem? (by rw[←HU.out.1];exact hu));dsimp only at hbd;have hsn:=codes_take (by rw[←HU.out.1];exact hu);dsimp only at hsn;have hft:=first_turn ps (ua:=k) (by rw[HU.out.2.2];exact hlt) hsn Iff.rfl;have hgt:greatsC ps ((codesT s.data.toList).take (k+1))=gn+if (smC ps uc).isSome=true then 1 else 0:=by rw[hsn,greats_snoc,←HB.out.1]
   have hmt:smallsC ps ((codesT s.data.toList).take (k+1))=mn+if (grC ps uc).isSome=true then 1 else 0:=by rw[hsn,smalls_snoc,←HB.out.2.1]
   rw[←HB.out.2.2.1]at hft;have tk1:(0:Int)≤k:=by omega
   have tk2:(k:Int)<m:=by omega
   obtain⟨wx,hwx⟩:∃wx,wx=wr.alloc (.cells #[.int .i64 ua,.int .i64 un,.int .i64 uc] 86):=⟨_,rfl⟩;have hbx:Below wr.heap.size wr wx:=by rw[hwx];exact(Below.refl _ _).alloc (Nat.le_refl _) _
   have y0:wx.heap[wr.heap.size]?=some (.cells #[.int .i64 ua,.int .i64 un,.int .i64 uc] 86 (0,0)):=by rw[hwx];exact World.alloc_heap_new _ _
   have z2:wx.cell? ⟨wr.heap.size,2,none⟩=some (.int .i64 uc):=by simp[World.cell?,y0]
   have HBX:=hid (show Below w2.heap.size w2 wx from hb.trans (hbx.mono hb.size));have CS:=hid (rsmall14 wx A n cap ps uc (HP.out.1.keep (HB2.out.trans (HBX.out.mono HB2.out.size))) HP.out.2.1 HP.out.2.2 (by omega));have CG:=hid (rgreat14 wx A n cap ps uc (HP.out.1.keep (HB2.out.trans (HBX.out.mono HB2.out.size))) HP.out.2.1 HP.out.2.2 (by omega));generalize (smC ps uc).getD uc=V1 at*;generalize (grC ps uc).getD uc=V2 at*;generalize (smC ps uc).isSome=X at*;generalize (grC ps uc).isSome=Y at*;have HFT:=hid (And.intro hft (And.intro hgt hmt));have hgw:IntKind.i64.wrap ((gn:Int)+1)=((gn+1:Nat):Int):=by rw[IntWalk.i64_in _ (by omega)];omega
   have hmw:IntKind.i64.wrap ((mn:Int)+1)=((mn+1:Nat):Int):=by rw[IntWalk.i64_in _ (by omega)];omega
   clear hu c0 c1 c2 hsn hft hgt hmt hbd hb hbx y0 hg1 hg2;go_upto_region 5 with fail;rw[←hwx];clear hwx e0 e1 e2;have kf:((k:Int)==0)=decide (k=0):=by by_cases hz:k=0<;>simp[hz];try omega
   generalize hD:decide (k=0)=Dk at*;go_upto_region 7 with(first
    | (go_at_call 48;refine CS.out.mono ?_;rintro e w4 ⟨rfl,rfl⟩)
    | (go_at_call 45;refine CG.out.mono ?_;rintro e w4 ⟨rfl,rfl⟩))
   cases X<;>cases Y<;>cases fb<;>cases Dk;all_goals
    go_wp2_with fail;go_roundg (gk-1)
   all_goals first
    | omega
    | exact⟨k+1,gn,mn,_,by omega,by go_num,rfl,rfl,rfl,by omega,by omega,hid ⟨HFT.out.2.1.symm,HFT.out.2.2.symm,HFT.out.1.symm,HBX.out⟩⟩
    | exact⟨k+1,gn,mn+1,_,by omega,by go_num,rfl,rfl,rfl,by omega,by omega,hid ⟨HFT.out.2.1.symm,HFT.out.2.2.symm,HFT.out.1.symm,HBX.out⟩⟩
    | exact⟨k+1,gn+1,mn,_,by omega,by go_num,rfl,rfl,rfl,by omega,by omega,hid ⟨HFT.out.2.1.symm,HFT.out.2.2.symm,HFT.out.1.symm,HBX.out⟩⟩
    | exact⟨k+1,gn+1,mn+1,_,by omega,by go_num,rfl,rfl,rfl,by omega,by omega,hid ⟨HFT.out.2.1.symm,HFT.out.2.2.symm,HFT.out.1.symm,HBX.out⟩⟩
  ·obtain rfl:k=m:=by omega
   have hall:(codesT s.data.toList).take k=codesT s.data.toList:=List.take_of_length_le (by rw[HU.out.2.2];exact Nat.le_refl _);have hans:R=shapeN gn mn fb:=by
    rw[HR.out];unfold shapeT shapeC;rw[HB.out.1,HB.out.2.1,HB.out.2.2.1,hall]
   have HE:=hid (And.intro hans (HB2.out.trans (HB.out.2.2.2.mono HB2.out.size)));clear hall hans;by_cases h0:gn=0
   ·subst h0;go_wp2_with fail;go_ret;exact⟨by rw[HE.out.1];rfl,HE.out.2⟩
   ·have g0:((gn:Int)==0)=false:=by simp;omega
    by_cases h1:gn=1
    ·subst h1;cases fb
     ·go_wp2_with fail;go_ret;exact⟨by rw[HE.out.1];simp[shapeN],HE.out.2⟩
     ·go_wp2_with fail;go_ret;exact⟨by rw[HE.out.1];simp[shapeN],HE.out.2⟩
    ·have g1:((gn:Int)==1)=false:=by simp;omega
     have g2:decide ((2:Int)≤gn)=true:=by simp;omega
     have HN:=hid (And.intro h0 h1);clear h0 h1;by_cases hm0:mn=0
     ·subst hm0;go_wp2_with fail;go_ret;exact⟨by rw[HE.out.1];have:=HN.out;simp[shapeN,this.1,this.2];omega,HE.out.2⟩
     ·have m0:((mn:Int)==0)=false:=by simp;omega
      have HN2:=hid hm0;clear hm0;go_wp2_with fail;go_ret;exact⟨by rw[HE.out.1];have:=HN.out;simp[shapeN,this.1,this.2,HN2.out],HE.out.2⟩
end Go.Proofs.YtfehpcbmdancoaaGreatDoor.Fo
