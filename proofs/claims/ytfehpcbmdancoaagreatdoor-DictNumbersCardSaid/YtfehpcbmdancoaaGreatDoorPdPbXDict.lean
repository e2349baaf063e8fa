/- dict's calls by contract: Has, Forms, Auto. -/
import Derived.Deep.RegionHeld3
import Derived.Deep.RegionLaw
import Derived.Deep.AppendLies
import Derived.Deep.LoopGhost
import Derived.Deep.DeepCutAuto
import Derived.BigRegion
import Derived.Laws.Rows
import Derived.Outline
import Derived.Deep.QuietTactic
import Derived.BigQuiet
import Derived.Deep.MidRow
import Derived.Lib.ConvBytes
import Derived.Laws.IdiomStrings
import Derived.Deep.RegionWith
import Derived.Test.YtfehpcbmdancoaaGreatDoorPdPbNPlain
import Derived.Test.YtfehpcbmdancoaaGreatDoorPdPbPWords
import Derived.Test.YtfehpcbmdancoaaGreatDoorPdPbRefBytes
import Derived.Test.YtfehpcbmdancoaaGreatDoorPdPbVPair
import Derived.Test.YtfehpcbmdancoaaGreatDoorPdPbXFrom
import Derived.Test.YtfehpcbmdancoaaGreatDoorPdPbZForms
import Derived.Test.YtfehpcbmdancoaaGreatDoorPdPbZRef
set_option maxRecDepth 100000
set_option maxHeartbeats 1000000
namespace Go.Proofs.YtfehpcbmdancoaaGreatDoor
open Go Go.RowKit Go.Lib
attribute [local go_sem] alloc_set
theorem heap_up6 {w:World}{k:Nat}{o:Obj}(h:w.heap[k]?=some o)(o':Obj):(w.alloc o').heap[k]?=some o:=(Below.heap_alloc _ _ _ (Array.getElem?_eq_some_iff.1 h).1).trans h
theorem heap_top6 (w:World)(o:Obj){k:Nat}(hk:w.heap.size=k):(w.alloc o).heap[k]?=some o:=hk▸World.alloc_heap_new w o
theorem later_int (w:World)(n:Nat)(hn:w.heap.size=n)(fk:Nat)(cap:Array Value):Calls Tryz.prog 71 #[.func (.func fk) #[] cap] w fun e w'=>
  e= .returned (.func (.func 127) #[] #[.pointer (some ⟨n+2,0,none⟩),.pointer (some ⟨n,0,none⟩),.pointer (some ⟨n+1,0,none⟩)])∧w'.heap.size=n+3∧Below w.heap.size w w'∧
  w'.heap[n]?=some (.cells #[.func (.func fk) #[] cap] 77 (0,0))∧w'.heap[n+1]?=some (.cells #[.int .i64 0] 3 (0,0))∧w'.heap[n+2]?=some (.cells #[.bool false] 4 (0,0)):=by
 subst hn;obtain⟨w3,hw3⟩:∃w3,w3=((w.alloc (.cells #[.func (.func fk) #[] cap] 77)).alloc (.cells #[.int .i64 0] 3)).alloc (.cells #[.bool false] 4):=⟨_,rfl⟩;have HE:=hid (show w3.heap.size=w.heap.size+3∧Below w.heap.size w w3∧w3.heap[w.heap.size]?=some (.cells #[.func (.func fk) #[] cap] 77 (0,0))∧w3.heap[w.heap.size+1]?=some (.cells #[.int .i64 0] 3 (0,0))∧w3.heap[w.heap.size+2]?=some (.cells #[.bool false] 4 (0,0))from by
  rw[hw3];exact⟨by simp,(((Below.refl _ _).alloc (Nat.le_refl _) _).alloc (by simp) _).alloc (by simp;omega) _,heap_up6 (heap_up6 (heap_top6 _ _ rfl) _) _,heap_up6 (heap_top6 _ _ (by rw[World.size_alloc])) _,heap_top6 _ _ (by simp only[World.size_alloc])⟩)
 obtain⟨W2,hW2⟩:∃W2,W2=(w.alloc (.cells #[.func (.func fk) #[] cap] 77)).alloc (.cells #[.int .i64 0] 3):=⟨_,rfl⟩;have hs2:W2.heap.size=w.heap.size+1+1:=by rw[hW2];simp
 have n0:(W2.alloc (.cells #[.bool false] 4)).cell? ⟨w.heap.size+1+1,0,none⟩=some (.bool false):=by rw[←hs2];exact Dw.new_cell W2 #[.bool false] _ 0
 have n1:(W2.alloc (.cells #[.bool false] 4)).frozen? ⟨w.heap.size+1+1,0,none⟩=false:=by
  rw[←hs2];unfold World.frozen?;rw[World.alloc_heap_new];rfl
 have n2:(W2.alloc (.cells #[.bool false] 4)).setCell ⟨w.heap.size+1+1,0,none⟩ (.bool false)=w3:=by
  rw[←hs2,alloc_set,hw3,←hW2];rfl
 rw[hW2]at n0 n1 n2;clear hW2 hs2 hw3;go_enter Tryz.func71,Tryz.ntmps71;go_wp2_with fail;go_ret;exact⟨rfl,HE.out⟩
theorem later_str (w:World)(n:Nat)(hn:w.heap.size=n)(fk:Nat)(cap:Array Value):Calls Tryz.prog 74 #[.func (.func fk) #[] cap] w fun e w'=>
  e= .returned (.func (.func 129) #[] #[.pointer (some ⟨n+2,0,none⟩),.pointer (some ⟨n,0,none⟩),.pointer (some ⟨n+1,0,none⟩)])∧w'.heap.size=n+3∧Below w.heap.size w w'∧
  w'.heap[n]?=some (.cells #[.func (.func fk) #[] cap] 129 (0,0))∧w'.heap[n+1]?=some (.cells #[.string ⟨#[]⟩] 9 (0,0))∧w'.heap[n+2]?=some (.cells #[.bool false] 4 (0,0)):=by
 subst hn;obtain⟨w3,hw3⟩:∃w3,w3=((w.alloc (.cells #[.func (.func fk) #[] cap] 129)).alloc (.cells #[.string ⟨#[]⟩] 9)).alloc (.cells #[.bool false] 4):=⟨_,rfl⟩;have HE:=hid (show w3.heap.size=w.heap.size+3∧Below w.heap.size w w3∧w3.heap[w.heap.size]?=some (.cells #[.func (.func fk) #[] cap] 129 (0,0))∧w3.heap[w.heap.size+1]?=some (.cells #[.string ⟨#[]⟩] 9 (0,0))∧w3.heap[w.heap.size+2]?=some (.cells #[.bool false] 4 (0,0))from by
  rw[hw3];exact⟨by simp,(((Below.refl _ _).alloc (Nat.le_refl _) _).alloc (by simp) _).alloc (by simp;omega) _,heap_up6 (heap_up6 (heap_top6 _ _ rfl) _) _,heap_up6 (heap_top6 _ _ (by rw[World.size_alloc])) _,heap_top6 _ _ (by simp only[World.size_alloc])⟩)
 obtain⟨W2,hW2⟩:∃W2,W2=(w.alloc (.cells #[.func (.func fk) #[] cap] 129)).alloc (.cells #[.string ⟨#[]⟩] 9):=⟨_,rfl⟩;have hs2:W2.heap.size=w.heap.size+1+1:=by rw[hW2];simp
 have n0:(W2.alloc (.cells #[.bool false] 4)).cell? ⟨w.heap.size+1+1,0,none⟩=some (.bool false):=by rw[←hs2];exact Dw.new_cell W2 #[.bool false] _ 0
 have n1:(W2.alloc (.cells #[.bool false] 4)).frozen? ⟨w.heap.size+1+1,0,none⟩=false:=by
  rw[←hs2];unfold World.frozen?;rw[World.alloc_heap_new];rfl
 have n2:(W2.alloc (.cells #[.bool false] 4)).setCell ⟨w.heap.size+1+1,0,none⟩ (.bool false)=w3:=by
  rw[←hs2,alloc_set,hw3,←hW2];rfl
 rw[hW2]at n0 n1 n2;clear hW2 hs2 hw3;go_enter Tryz.func74,Tryz.ntmps74;go_wp2_with fail;go_ret;exact⟨rfl,HE.out⟩
theorem box_laid (w:World)(n:Nat)(hn:w.heap.size=n)(t:TypeId)(v:Value):(w.alloc (.cells #[.nilFunc] t)).cell? ⟨n,0,none⟩=some .nilFunc∧(w.alloc (.cells #[.nilFunc] t)).frozen? ⟨n,0,none⟩=false∧(w.alloc (.cells #[.nilFunc] t)).setCell ⟨n,0,none⟩ v=w.alloc (.cells #[v] t):=by
 subst hn;refine⟨Dw.new_cell w #[.nilFunc] _ 0,?_,?_⟩
 ·unfold World.frozen?;rw[World.alloc_heap_new];rfl
 ·rw[alloc_set];rfl
theorem checks_dict (w:World)(N p:Nat)(hN:w.heap.size=N)(s:ByteArray)(K:Int)(S:ByteArray):Calls Tryz.prog 35 #[.pointer (some ⟨p,0,none⟩),.string s] w fun e w'=>
  e= .returned (.slice (some ⟨N+10,0,none⟩) 4 4)∧Ck w w' N p s K S:=by
 obtain⟨W2,hW2⟩:∃W2,W2=(w.alloc (.cells #[.pointer (some ⟨p,0,none⟩)] 27)).alloc (.cells #[.string s] 9):=⟨_,rfl⟩;have hs2:W2.heap.size=N+2:=by rw[hW2];simp[hN]
 have hb2:Below w.heap.size w W2:=by rw[hW2];exact((Below.refl _ _).alloc (Nat.le_refl _) _).alloc (by simp) _
 have q0:W2.heap[N]?=some (.cells #[.pointer (some ⟨p,0,none⟩)] 27 (0,0)):=by rw[hW2];exact heap_up6 (heap_top6 _ _ hN) _
 have q1:W2.heap[N+1]?=some (.cells #[.string s] 9 (0,0)):=by rw[hW2];exact heap_top6 _ _ (by rw[World.size_alloc,hN])
 have C1:=hid (show Calls Tryz.prog 71 #[.func (.func 72) #[] #[.pointer (some ⟨N,0,none⟩),.pointer (some ⟨N+1,0,none⟩)]] W2 fun e w'=>
  e= .returned (.func (.func 127) #[] #[.pointer (some ⟨N+4,0,none⟩),.pointer (some ⟨N+2,0,none⟩),.pointer (some ⟨N+3,0,none⟩)])∧w'.heap.size=N+5∧Below W2.heap.size W2 w'∧
  w'.heap[N+2]?=some (.cells #[.func (.func 72) #[] #[.pointer (some ⟨N,0,none⟩),.pointer (some ⟨N+1,0,none⟩)]] 77 (0,0))∧w'.heap[N+3]?=some (.cells #[.int .i64 0] 3 (0,0))∧w'.heap[N+4]?=some (.cells #[.bool false] 4 (0,0))from
  later_int W2 (N+2) hs2 72 #[.pointer (some ⟨N,0,none⟩),.pointer (some ⟨N+1,0,none⟩)])
 have HQ:=hid (And.intro q0 (And.intro q1 (And.intro hb2 (And.intro hs2 hN))));clear q0 q1 hb2 hs2;go_enter Tryz.func35,Tryz.ntmps35;go_upto_region 1 with fail;rw[←hW2];clear hW2 hN;go_upto_region 2 with(go_at_call 71;refine C1.out.mono ?_;rintro e w3 ⟨rfl,hs3,hr⟩;obtain⟨n0,n1,n2⟩:=box_laid w3 (N+5) hs3 77 (.func (.func 127) #[] #[.pointer (some ⟨N+4,0,none⟩),.pointer (some ⟨N+2,0,none⟩),.pointer (some ⟨N+3,0,none⟩)]);have H3:=hid (And.intro hs3 hr);clear hr);obtain⟨W4,hW4⟩:∃W4,W4=w3.alloc (.cells #[.func (.func 127) #[] #[.pointer (some ⟨N+4,0,none⟩),.pointer (some ⟨N+2,0,none⟩),.pointer (some ⟨N+3,0,none⟩)]] 77):=⟨_,rfl⟩;rw[←hW4];have hs4:W4.heap.size=N+6:=by rw[hW4,World.size_alloc,H3.out.1]
 have C2:=hid (show Calls Tryz.prog 74 #[.func (.func 75) #[] #[.pointer (some ⟨N,0,none⟩),.pointer (some ⟨N+1,0,none⟩)]] W4 fun e w'=>
  e= .returned (.func (.func 129) #[] #[.pointer (some ⟨N+8,0,none⟩),.pointer (some ⟨N+6,0,none⟩),.pointer (some ⟨N+7,0,none⟩)])∧w'.heap.size=N+9∧Below W4.heap.size W4 w'∧
  w'.heap[N+6]?=some (.cells #[.func (.func 75) #[] #[.pointer (some ⟨N,0,none⟩),.pointer (some ⟨N+1,0,none⟩)]] 129 (0,0))∧w'.heap[N+7]?=some (.cells #[.string ⟨#[]⟩] 9 (0,0))∧w'.heap[N+8]?=some (.cells #[.bool false] 4 (0,0))from
  later_str W4 (N+6) hs4 75 #[.pointer (some ⟨N,0,none⟩),.pointer (some ⟨N+1,0,none⟩)])
 have H4:=hid (show W4.heap.size=N+6∧Below W2.heap.size W2 W4∧W4.heap[N+2]?=w3.heap[N+2]?∧W4.heap[N+3]?=w3.heap[N+3]?∧W4.heap[N+4]?=w3.heap[N+4]?∧W4.heap[N+5]?=some (.cells #[.func (.func 127) #[] #[.pointer (some ⟨N+4,0,none⟩),.pointer (some ⟨N+2,0,none⟩),.pointer (some ⟨N+3,0,none⟩)]] 77 (0,0))from by
  have hs3:=H3.out.1;rw[hW4];exact⟨by rw[World.size_alloc,hs3],H3.out.2.1.alloc H3.out.2.1.size _,Below.heap_alloc _ _ _ (by omega),Below.heap_alloc _ _ _ (by omega),Below.heap_alloc _ _ _ (by omega),heap_top6 _ _ hs3⟩)
 clear hs3 hs4 n0 n1 n2 hW4 C1;go_upto_region 3 with(go_at_call 74;refine C2.out.mono ?_;rintro e w5 ⟨rfl,hs5,hr⟩;obtain⟨n0,n1,n2⟩:=box_laid w5 (N+9) hs5 129 (.func (.func 129) #[] #[.pointer (some ⟨N+8,0,none⟩),.pointer (some ⟨N+6,0,none⟩),.pointer (some ⟨N+7,0,none⟩)]);have H5:=hid (And.intro hs5 hr);clear hr);obtain⟨W6,hW6⟩:∃W6,W6=w5.alloc (.cells #[.func (.func 129) #[] #[.pointer (some ⟨N+8,0,none⟩),.pointer (some ⟨N+6,0,none⟩),.pointer (some ⟨N+7,0,none⟩)]] 129):=⟨_,rfl⟩;rw[←hW6];have hs6:W6.heap.size=N+10:=by rw[hW6,World.size_alloc,H5.out.1]
 have HF:=hid (show Ck w (W6.alloc (.cells (askRow N) 26)) N p s K S from by
  obtain⟨k1,k2,k3,k4,k5⟩:=HQ.out;obtain⟨r1,r2,r3,r4,r5⟩:=H3.out;obtain⟨s1,s2,s3,s4,s5,s6⟩:=H4.out;obtain⟨t1,t2,t3,t4,t5⟩:=H5.out;have hb56:Below w5.heap.size w5 (W6.alloc (.cells (askRow N) 26)):=by rw[hW6];exact((Below.refl _ _).alloc (Nat.le_refl _) _).alloc (by simp) _
  have hb4:Below W4.heap.size W4 (W6.alloc (.cells (askRow N) 26)):=t2.trans (hb56.mono (by omega));have hb2':Below W2.heap.size W2 (W6.alloc (.cells (askRow N) 26)):=s2.trans (hb4.mono (by omega));have up4:∀k,k<N+6→(W6.alloc (.cells (askRow N) 26)).heap[k]?=W4.heap[k]?:=fun k hk=>hb4.block k (by omega);have up5:∀k,k<N+9→(W6.alloc (.cells (askRow N) 26)).heap[k]?=w5.heap[k]?:=fun k hk=>hb56.block k (by omega);refine⟨(hb2'.block N (by omega)).trans k1,(hb2'.block (N+1) (by omega)).trans k2,(up4 _ (by omega)).trans (s3.trans r3),⟨false,0,by simp,(up4 _ (by omega)).trans (s4.trans r4),(up4 _ (by omega)).trans (s5.trans r5)⟩,(up4 _ (by omega)).trans s6,(up5 _ (by omega)).trans t3,⟨false,_,by simp,(up5 _ (by omega)).trans t4,(up5 _ (by omega)).trans t5⟩,?_,heap_top6 _ _ hs6,?_⟩
  ·rw[hW6];exact heap_up6 (heap_top6 _ _ t1) _
  ·rw[k5]at k3;exact k3.trans (hb2'.mono (by omega)))
 unfold askRow at HF;clear hs5 n0 n1 n2 hW6 C2 HQ H3 H4 H5;go_wp2_with fail;go_ret;exact⟨rfl,HF.out⟩
theorem has_dict (w:World)(p:Nat)(d:Di)(h:DictAt w p d)(hT:Fo.TU w)(s:ByteArray)(hs:s.size≤100000000):
  Calls Tryz.prog 12 #[.pointer (some ⟨p,0,none⟩),.string s] w fun e w'=>e= .returned (.bool (hasD d s.data.toList))∧Below w.heap.size w w':=by
 obtain⟨N,hN⟩:∃N,N=w.heap.size:=⟨_,rfl⟩;obtain⟨K,hK⟩:∃K,K=shapeT d.pairs s.data.toList:=⟨_,rfl⟩;obtain⟨S,hS⟩:∃S,S=textB (smallD d s.data.toList):=⟨_,rfl⟩;have hL:Lang w N p s d K S:=⟨h,hN.symm,hT,hs,hK,hS⟩;have hans:hasD d s.data.toList=(isD d s.data.toList||(decide (K=1)&&isD d S.data.toList)||(decide (K=2)&&isD d S.data.toList)||(decide (K=2)&&isD d (titleT d.pairs S.data.toList))):=by
  rw[hK,hS,textB_list];rfl
 have C0:=hid (checks_dict w N p hN.symm s K S);obtain⟨A0,hA0⟩:∃b,b=isD d s.data.toList:=⟨_,rfl⟩;obtain⟨A1,hA1⟩:∃b,b=(decide (K=1)&&isD d S.data.toList):=⟨_,rfl⟩;obtain⟨A2,hA2⟩:∃b,b=(decide (K=2)&&isD d S.data.toList):=⟨_,rfl⟩;obtain⟨A3,hA3⟩:∃b,b=(decide (K=2)&&isD d (titleT d.pairs S.data.toList)):=⟨_,rfl⟩;rw[←hA0,←hA1,←hA2,←hA3]at hans;rw[hans];have HA:=hid (show∀wx,Ck w wx N p s K S→
   Calls Tryz.prog 76 #[.pointer (some ⟨N,0,none⟩),.pointer (some ⟨N+1,0,none⟩)] wx (fun e w'=>e= .returned (.bool A0)∧Ck w w' N p s K S)∧
   Calls Tryz.prog 77 #[.pointer (some ⟨N+5,0,none⟩),.pointer (some ⟨N,0,none⟩),.pointer (some ⟨N+9,0,none⟩)] wx (fun e w'=>e= .returned (.bool A1)∧Ck w w' N p s K S)∧
   Calls Tryz.prog 78 #[.pointer (some ⟨N+5,0,none⟩),.pointer (some ⟨N,0,none⟩),.pointer (some ⟨N+9,0,none⟩)] wx (fun e w'=>e= .returned (.bool A2)∧Ck w w' N p s K S)∧
   Calls Tryz.prog 79 #[.pointer (some ⟨N+5,0,none⟩),.pointer (some ⟨N,0,none⟩),.pointer (some ⟨N+9,0,none⟩)] wx (fun e w'=>e= .returned (.bool A3)∧Ck w w' N p s K S)from fun wx hx=>by
  rw[hA0,hA1,hA2,hA3];exact⟨ask3 hL hx,ask4 hL hx,ask5 hL hx,ask6 hL hx⟩)
 have HNN:=hid hN;clear hans hA0 hA1 hA2 hA3 hK hS hL h hT hs hN;go_enter Tryz.func12,Tryz.ntmps12;go_wp2_with (go_at_call 35;refine C0.out.mono ?_;rintro e w1 ⟨rfl,hk1⟩;have H1:=hid hk1;clear hk1);go_loopg [11] 4 (fun gh y wr=>∃k:Nat,k+gh=4∧y= .int .i64 k∧Hid (Ck w wr N p s K S∧(0<k→A0=false)∧(1<k→A1=false)∧(2<k→A2=false)∧(3<k→A3=false)))
 case atStart=>exact⟨0,rfl,rfl,hid ⟨H1.out,by simp,by simp,by simp,by simp⟩⟩
 case round=>
  obtain⟨k,hk,rfl,HM⟩:=hrel;obtain⟨hA0,hA1,hA2,hA3⟩:=HM.out.2;have hcs:k=0∨k=1∨k=2∨k=3∨k=4:=by omega
  rcases hcs with rfl|rfl|rfl|rfl|rfl
  ·
   have b:=HM.out.1.b10;have x0:wr.cell? ⟨N+10,0,none⟩=some (.func (.func 76) #[] #[.pointer (some ⟨N,0,none⟩),.pointer (some ⟨N+1,0,none⟩)]):=by unfold askRow at b;simp[World.cell?,b]
   have C:=hid (HA.out wr HM.out.1).1;clear b;cases A0 with
   | true=>
     go_wp2_with (go_at_call 76;refine C.out.mono ?_;rintro e w2 ⟨rfl,hk2⟩;have H2:=hid hk2;clear hk2);go_ret;exact⟨ret_bool (by simp),by rw[←HNN.out];exact H2.out.below⟩
   | false=>
     go_wp2_with (go_at_call 76;refine C.out.mono ?_;rintro e w2 ⟨rfl,hk2⟩;have H2:=hid hk2;clear hk2);go_roundg (gk-1)
     case measure=>omega
     case rel=>exact⟨1,by omega,by go_num,hid ⟨H2.out,by simp,fun h=>absurd h (by decide),fun h=>absurd h (by decide),fun h=>absurd h (by decide)⟩⟩
  ·
   have b:=HM.out.1.b10;have x1:wr.cell? ⟨N+10,1,none⟩=some (.func (.func 77) #[] #[.pointer (some ⟨N+5,0,none⟩),.pointer (some ⟨N,0,none⟩),.pointer (some ⟨N+9,0,none⟩)]):=by unfold askRow at b;simp[World.cell?,b]
   have C:=hid (HA.out wr HM.out.1).2.1;clear b;cases A1 with
   | true=>
     go_wp2_with (go_at_call 77;refine C.out.mono ?_;rintro e w2 ⟨rfl,hk2⟩;have H2:=hid hk2;clear hk2);go_ret;exact⟨ret_bool (by simp),by rw[←HNN.out];exact H2.out.below⟩
   | false=>
     go_wp2_with (go_at_call 77;refine C.out.mono ?_;rintro e w2 ⟨rfl,hk2⟩;have H2:=hid hk2;clear hk2);go_roundg (gk-1)
     case measure=>omega
     case rel=>exact⟨2,by omega,by go_num,hid ⟨H2.out,fun _=>hA0 (by decide),by simp,fun h=>absurd h (by decide),fun h=>absurd h (by decide)⟩⟩
  ·
   have b:=HM.out.1.b10;have x2:wr.cell? ⟨N+10,2,none⟩=some (.func (.func 78) #[] #[.pointer (some ⟨N+5,0,none⟩),.pointer (some ⟨N,0,none⟩),.pointer (some ⟨N+9,0,none⟩)]):=by unfold askRow at b;simp[World.cell?,b]
   have C:=hid (HA.out wr HM.out.1).2.2.1;clear b;cases A2 with
   | true=>
     go_wp2_with (go_at_call 78;refine C.out.mono ?_;rintro e w2 ⟨rfl,hk2⟩;have H2:=hid hk2;clear hk2);go_ret;exact⟨ret_bool (by simp),by rw[←HNN.out];exact H2.out.below⟩
   | false=>
     go_wp2_with (go_at_call 78;refine C.out.mono ?_;rintro e w2 ⟨rfl,hk2⟩;have H2:=hid hk2;clear hk2);go_roundg (gk-1)
     case measure=>omega
     case rel=>exact⟨3,by omega,by go_num,hid ⟨H2.out,fun _=>hA0 (by decide),fun _=>hA1 (by decide),by simp,fun h=>absurd h (by decide)⟩⟩
  ·
   have b:=HM.out.1.b10;have x3:wr.cell? ⟨N+10,3,none⟩=some (.func (.func 79) #[] #[.pointer (some ⟨N+5,0,none⟩),.pointer (some ⟨N,0,none⟩),.pointer (some ⟨N+9,0,none⟩)]):=by unfold askRow at b;simp[World.cell?,b]
   have C:=hid (HA.out wr HM.out.1).2.2.2;clear b;cases A3 with
   | true=>
     go_wp2_with (go_at_call 79;refine C.out.mono ?_;rintro e w2 ⟨rfl,hk2⟩;have H2:=hid hk2;clear hk2);go_ret;exact⟨ret_bool (by simp),by rw[←HNN.out];exact H2.out.below⟩
   | false=>
     go_wp2_with (go_at_call 79;refine C.out.mono ?_;rintro e w2 ⟨rfl,hk2⟩;have H2:=hid hk2;clear hk2);go_roundg (gk-1)
     case measure=>omega
     case rel=>exact⟨4,by omega,by go_num,hid ⟨H2.out,fun _=>hA0 (by decide),fun _=>hA1 (by decide),fun _=>hA2 (by decide),by simp⟩⟩
  ·have e0:=hA0 (by decide);have e1:=hA1 (by decide);have e2:=hA2 (by decide);have e3:=hA3 (by decide);subst e0 e1 e2 e3;go_wp2_with fail;go_ret;exact⟨ret_bool (by simp),by rw[←HNN.out];exact HM.out.1.below⟩
theorem forms_any (w:World)(p:Nat)(d:Di)(h:DictAt w p d):Calls Tryz.prog 19 #[.pointer (some ⟨p,0,none⟩)] w fun e w'=>∃v,e= .returned v∧w'.ownsRow w.heap.size 9 1 v d.forms.length (d.forms.map Value.string)∧Below w.heap.size w w':=by
 obtain⟨q,g,st,A,cap,h1,-,-,h4,h5⟩:=h.prs;refine(Dw.forms_dict w p q g st (bytesD d) h1 h4 h5.start (fun x hx=>?_) ?_).mono ?_
 ·obtain⟨y,hy,rfl⟩:=List.mem_map.1 hx;have h2:=h.forms.2.2 y hy;have h3:y.data.toList.length=y.size:=(Lib.size_eq y).symm;omega
 ·unfold bytesD;rw[List.length_map];have:=h.forms.2.1;omega
 ·rintro e w' ⟨v,he,h2,h3⟩;refine⟨v,he,?_,h3⟩;have e1:(bytesD d).length=d.forms.length:=by unfold bytesD;rw[List.length_map]
  have e2:((bytesD d).map fun x=>(⟨x.toArray⟩:ByteArray))=d.forms:=by
   unfold bytesD;rw[List.map_map];exact(List.map_congr_left fun x _=>textB_back x).trans (List.map_id _)
  rw[e1,e2]at h2;exact h2
theorem auto_any (w:World)(p:Nat)(d:Di)(h:DictAt w p d):Calls Tryz.prog 22 #[.pointer (some ⟨p,0,none⟩)] w fun e w'=>(∃q g st,e= .returned (.pointer (some ⟨q,0,none⟩))∧Dw.AutoAt w q g st∧Dw.AutoOf g st (bytesD d))∧w'=w:=by
 obtain⟨q,g,st,A,cap,h1,-,-,h4,h5⟩:=h.prs;have HH:=hid (And.intro h4 h5);clear h4 h5 h;go_enter Tryz.func22,Tryz.ntmps22;go_wp2_with fail;go_ret;exact⟨⟨q,g,st,rfl,HH.out⟩,rfl⟩
theorem new_yes (w:World)(fa fl:ByteArray)(hfa:fa.size≤1000000000)(hfl:fl.size≤1000000000)(hT:Tabs9 w){d:Di}(h:newD fa fl=(some d,0,0,0)):
  Calls Tryz.prog 10 #[.agg #[.string fa,.string fl]] w fun e w'=>∃p,e= .returned (.tuple #[.pointer (some ⟨p,0,none⟩),.int .i64 0,.int .i64 0,.int .i64 0])∧DictAt w' p d∧Below w.heap.size w w':=by
 refine(new_any w fa fl hfa hfl hT).mono ?_;rintro e w' ⟨⟨h1,-⟩|⟨d',p,h1,h2,h3⟩,hb⟩
 ·rw[h]at h1;cases h1
 ·rw[h]at h1;obtain rfl:d=d':=Option.some.inj (Prod.mk.inj h1).1;exact⟨p,h2,h3,hb⟩
end Go.Proofs.YtfehpcbmdancoaaGreatDoor
namespace Go.Proofs.YtfehpcbmdancoaaGreatDoor
open Go Go.RowKit Go.Lib
structure Lg (w0 w:World)(p:Nat)(d:Di):Prop where
 at_:DictAt w p d
 tabs:Fo.TU w
 below:Below w0.heap.size w0 w
theorem Lg.keep {w0 w w':World}{p:Nat}{d:Di}(h:Lg w0 w p d)(hb:Below w.heap.size w w'):Lg w0 w' p d:=⟨h.at_.keep hb,tabs_below h.tabs hb,h.below.trans (hb.mono h.below.size)⟩
theorem Lg.has {w0 w:World}{p:Nat}{d:Di}(h:Lg w0 w p d){s:ByteArray}{b:Bool}(hs:s.size≤100000000)(e:hasD d s.data.toList=b):Calls Tryz.prog 12 #[.pointer (some ⟨p,0,none⟩),.string s] w fun e w'=>e= .returned (.bool b)∧Below w.heap.size w w':=by
 have:=has_dict w p d h.at_ h.tabs s hs;rwa[e]at this
theorem Lg.is {w0 w:World}{p:Nat}{d:Di}(h:Lg w0 w p d){s:ByteArray}{b:Bool}(hs:s.size≤100000000)(e:isD d s.data.toList=b):Calls Tryz.prog 14 #[.pointer (some ⟨p,0,none⟩),.string s] w fun e w'=>e= .returned (.bool b)∧Below w.heap.size w w':=by
 have:=is_dict w p d h.at_ s (by omega);rwa[e]at this
theorem Lg.auto {w0 w:World}{p:Nat}{d:Di}(h:Lg w0 w p d):Calls Tryz.prog 22 #[.pointer (some ⟨p,0,none⟩)] w fun e w'=>∃q,e= .returned (.pointer (some ⟨q,0,none⟩))∧Hid (∃g st,Dw.AutoAt w q g st∧Dw.AutoOf g st (bytesD d))∧w'=w:=by
 refine(auto_any w p d h.at_).mono ?_;rintro e w' ⟨⟨q,g,st,h1,h2,h3⟩,h4⟩;exact⟨q,h1,hid ⟨g,st,h2,h3⟩,h4⟩
theorem Lg.forms {w0 w:World}{p:Nat}{d:Di}(h:Lg w0 w p d){n:Nat}(hn:d.forms.length=n):Calls Tryz.prog 19 #[.pointer (some ⟨p,0,none⟩)] w fun e w'=>∃A cap,e= .returned (.slice A n cap)∧Hid (w'.ownsRow w.heap.size 9 1 (.slice A n cap) n (d.forms.map Value.string))∧Below w.heap.size w w':=by
 subst hn;refine(forms_any w p d h.at_).mono ?_;rintro e w' ⟨v,h1,h2,h3⟩;obtain⟨A,cap,rfl⟩:=Dw.row_shape h2;exact⟨A,cap,h1,hid h2,h3⟩
theorem new_lg {w0 w:World}(fa fl:ByteArray)(hfa:fa.size≤1000000000)(hfl:fl.size≤1000000000)(hT:Tabs9 w)(hb0:Below w0.heap.size w0 w){d:Di}(h:newD fa fl=(some d,0,0,0)):
  Calls Tryz.prog 10 #[.agg #[.string fa,.string fl]] w fun e w'=>∃p,e= .returned (.tuple #[.pointer (some ⟨p,0,none⟩),.int .i64 0,.int .i64 0,.int .i64 0])∧Lg w0 w' p d∧Below w.heap.size w w':=by
 refine(new_yes w fa fl hfa hfl hT h).mono ?_;rintro e w' ⟨p,h1,h2,h3⟩;exact⟨p,h1,⟨h2,tabs_below hT h3,hb0.trans (h3.mono hb0.size)⟩,h3⟩
def dParis:Di:=⟨[⟨#[80,97,114,105,115]⟩],[]⟩
theorem newParis:newD ⟨#[]⟩ ⟨#[80,97,114,105,115,10]⟩=(some dParis,0,0,0):=by decide +kernel
theorem awake16_any (w:World)(hT:Tabs9 w):Calls Tryz.prog 9 #[] w fun e w'=>e= .returned (.bool true)∧Below w.heap.size w w':=by
 have CN:=hid (new_lg (w0:=w) ⟨#[]⟩ ⟨#[80,97,114,105,115,10]⟩ (by decide) (by decide) hT (Below.refl _ _) newParis);clear hT;go_enter Tryz.func9,Tryz.ntmps9;go_wp2_with fail;refine CN.out.mono ?_;rintro e w1 ⟨p,rfl,hl,hb⟩;have H1:=hid hl;clear hl hb;go_wp2_with fail;refine(H1.out.has (b:=true) (by decide) (by decide +kernel)).mono ?_;rintro e w2 ⟨rfl,hb⟩;have H2:=hid (H1.out.keep hb);clear hb;go_wp2_with fail;refine(H2.out.has (b:=true) (by decide) (by decide +kernel)).mono ?_;rintro e w3 ⟨rfl,hb⟩;have H3:=hid (H2.out.keep hb);clear hb;go_wp2_with fail;refine(H3.out.has (b:=false) (by decide) (by decide +kernel)).mono ?_;rintro e w4 ⟨rfl,hb⟩;have H4:=hid (H3.out.keep hb);clear hb;go_wp2_with fail;refine H4.out.auto.mono ?_;rintro e w5 ⟨q,rfl,-,rfl⟩;go_wp2_with fail;refine(H4.out.forms (n:=1) rfl).mono ?_;rintro e w6 ⟨A,cap,rfl,-,hb⟩;have H6:=hid (H4.out.keep hb);clear hb;go_wp2_with fail;go_ret;exact⟨rfl,H6.out.below⟩
end Go.Proofs.YtfehpcbmdancoaaGreatDoor
set_option maxRecDepth 100000
set_option maxHeartbeats 1000000
namespace Go.Proofs.YtfehpcbmdancoaaGreatDoor
open Go Go.RowKit Go.Lib
attribute [local go_sem] alloc_set
theorem news_cell (w:World)(cs:Array Value)(t:TypeId)(j:Nat):(w.alloc (.cells cs t)).cell? ⟨w.heap.size,j,none⟩=cs[j]?:=by
 rw[cell_of_row _ w.heap.size j cs t (0,0) (World.alloc_heap_new w _)]
structure RefAt (w:World)(p:Nat)(d:Di):Prop where
 box:∃A cap B cb,w.heap[p]?=some (.cells #[.slice A d.pairs.length cap,.slice B d.forms.length cb] 40 (0,0))∧PairsAt w (.slice A d.pairs.length cap) d.pairs∧StrsAt w (.slice B d.forms.length cb) d.forms
 pairs:PairsOk d.pairs∧d.pairs.length≤200
 forms:Rising d.forms∧d.forms.length≤20000∧∀x∈d.forms,x.size≤200
theorem RefAt.keep {w w':World}{p:Nat}{d:Di}(h:RefAt w p d)(hb:Below w.heap.size w w'):RefAt w' p d:=by
 obtain⟨A,cap,B,cb,h1,h2,h3⟩:=h.box;exact⟨⟨A,cap,B,cb,(hb.block p (Array.getElem?_eq_some_iff.1 h1).1).trans h1,h2.keep hb,h3.keep hb⟩,h.pairs,h.forms⟩
theorem af_mid (s:ByteArray):∀r∈(parseA s).1.rules,MidR r:=fun r hr=>by
 obtain⟨l,hl,h1,h2⟩:=parseA_from hr;obtain⟨-,k1,k2,k3,k4⟩:=parseR_wide hl;have hz:(⟨l.toArray⟩:ByteArray).size=l.length:=by show l.toArray.size=_;rw[List.size_toArray]
 exact⟨by omega,fun it hit=>by have:=k2 it hit;omega,by omega,by omega⟩
theorem long_take {l:List ByteArray}{k:Nat}{x:ByteArray}(h:l[k]?=some x):longD (l.take (k+1))=(longD (l.take k)||decide (200<x.size)):=by
 unfold longD;rw[List.take_add_one,h,List.any_append];simp
def RefE (w w':World)(o:Option Di×Nat×Nat×Int)(e:Ending):Prop:=
 ((o.1=none∧o.2.2.2≠0∧e= .returned (.tuple #[.pointer none,.int .i64 (o.2.1:Nat),.int .i64 (o.2.2.1:Nat),.int .i64 o.2.2.2]))∨
  ∃d p,o=(some d,0,0,0)∧e= .returned (.tuple #[.pointer (some ⟨p,0,none⟩),.int .i64 0,.int .i64 0,.int .i64 0])∧RefAt w' p d)∧Below w.heap.size w w'
theorem rnew_any (w:World)(fa fl:ByteArray)(hfa:fa.size≤1000000000)(hfl:fl.size≤1000000000):
  Calls Tryz.prog 11 #[.agg #[.string fa,.string fl]] w fun e w'=>RefE w w' (newD fa fl) e:=by
 obtain⟨W0,hW0⟩:∃W0,W0=w.alloc (.cells #[.string fa,.string fl] 23):=⟨_,rfl⟩;have hb0:Below w.heap.size w W0:=by rw[hW0];exact(Below.refl _ _).alloc (Nat.le_refl _) _
 have c0:∀wx,Below W0.heap.size W0 wx→wx.cell? ⟨w.heap.size,0,none⟩=some (.string fa)∧wx.cell? ⟨w.heap.size,1,none⟩=some (.string fl):=fun wx hb=>by
  have hs:w.heap.size<W0.heap.size:=by rw[hW0,World.size_alloc];omega
  have e0:W0.cell? ⟨w.heap.size,0,none⟩=some (.string fa):=by rw[hW0];exact news_cell w #[.string fa,.string fl] _ 0
  have e1:W0.cell? ⟨w.heap.size,1,none⟩=some (.string fl):=by rw[hW0];exact news_cell w #[.string fa,.string fl] _ 1
  exact⟨(hb.cell (p:=⟨w.heap.size,0,none⟩) hs).trans e0,(hb.cell (p:=⟨w.heap.size,1,none⟩) hs).trans e1⟩
 obtain⟨⟨a,ln,ec⟩,hpa⟩:∃o,o=parseA fa:=⟨_,rfl⟩;obtain⟨⟨es,ll,el⟩,hpl⟩:∃o,o=parseE fl:=⟨_,rfl⟩;have CA:=hid (Af.rparseA_any W0 fa hfa);rw[←hpa]at CA;obtain⟨c00,c01⟩:=c0 W0 (Below.refl _ _);have HC:=hid c0;have HB:=hid hb0;have HP:=hid (And.intro hpa hpl);have HFL:=hid hfl;clear hpa hpl hb0 c0 hfa hfl;go_enter Tryz.func11,Tryz.ntmps11;go_upto_region 2 with(go_at_call 32;rw[←hW0];refine CA.out.mono ?_;rintro e w1 ⟨v,rfl,ha,hb1⟩;obtain⟨A,cap,B,cap',rfl,hru,hpr⟩:=ha;have HA:=hid (And.intro hru (And.intro hpr hb1));clear hru hpr hb1);obtain⟨q6,hq6⟩:∃q6,q6=w1.heap.size:=⟨_,rfl⟩;obtain⟨w2,hw2⟩:∃w2,w2=w1.alloc (.cells #[.slice A a.rules.length cap,.slice B a.pairs.length cap'] 57):=⟨_,rfl⟩;have hb2:Below W0.heap.size W0 w2:=by rw[hw2];exact HA.out.2.2.alloc HA.out.2.2.size _
 have c2:∀wx,Below w2.heap.size w2 wx→wx.cell? ⟨q6,0,none⟩=some (.slice A a.rules.length cap)∧wx.cell? ⟨q6,1,none⟩=some (.slice B a.pairs.length cap'):=fun wx hb=>by
  have hs:q6<w2.heap.size:=by rw[hw2,hq6,World.size_alloc];omega
  have e0:w2.cell? ⟨q6,0,none⟩=some (.slice A a.rules.length cap):=by rw[hw2,hq6];exact news_cell w1 #[.slice A a.rules.length cap,.slice B a.pairs.length cap'] _ 0
  have e1:w2.cell? ⟨q6,1,none⟩=some (.slice B a.pairs.length cap'):=by rw[hw2,hq6];exact news_cell w1 #[.slice A a.rules.length cap,.slice B a.pairs.length cap'] _ 1
  exact⟨(hb.cell (p:=⟨q6,0,none⟩) hs).trans e0,(hb.cell (p:=⟨q6,1,none⟩) hs).trans e1⟩
 have hal:Below w1.heap.size w1 w2:=by rw[hw2];exact(Below.refl _ _).alloc (Nat.le_refl _) _
 have H2:=hid (show RulesAt w2 (.slice A a.rules.length cap) a.rules∧PairsAt w2 (.slice B a.pairs.length cap') a.pairs∧Below w.heap.size w w2 from ⟨HA.out.1.keep hal,HA.out.2.1.keep hal,HB.out.trans (hb2.mono HB.out.size)⟩);have HC2:=hid c2;rw[←hq6,←hw2];obtain⟨c00',c01'⟩:=HC.out w2 hb2;clear hq6 hw2 hb2 c2 hal HA CA c00 c01 hW0;by_cases hec:ec=0
 case neg=>
  have HZ:=hid (show newD fa fl=(none,1,ln,ec)by unfold newD;rw[←HP.out.1,if_pos hec]);have HEC:=hid hec;go_wp2_with fail;refine bodyPost_ret (v:= .tuple #[.pointer none,.int .i64 1,.int .i64 ln,.int .i64 ec]) (by simp[results,Tryz.results11,go_sem]) rfl ?_;exact⟨.inl ⟨by rw[HZ.out],by rw[HZ.out];exact HEC.out,by rw[HZ.out];rfl⟩,H2.out.2.2⟩
 subst hec;have CL:=hid (Ls.eparse_any w2 fl HFL.out);rw[←HP.out.2]at CL;go_upto_region 5 with(go_at_call 33;refine CL.out.mono ?_;rintro e w3 ⟨vl,rfl,hes,hb3⟩;have H3:=hid (And.intro hes hb3);clear hes hb3);clear CL c00' c01';by_cases hel:el=0
 case neg=>
  have HZ:=hid (show newD fa fl=(none,2,ll,el)by unfold newD;rw[←HP.out.1,if_neg (fun h=>h rfl),←HP.out.2,if_pos hel]);have HEC:=hid hel;go_wp2_with fail;refine bodyPost_ret (v:= .tuple #[.pointer none,.int .i64 2,.int .i64 ll,.int .i64 el]) (by simp[results,Tryz.results11,go_sem]) rfl ?_;exact⟨.inl ⟨by rw[HZ.out],by rw[HZ.out];exact HEC.out,by rw[HZ.out];rfl⟩,H2.out.2.2.trans (H3.out.2.mono H2.out.2.2.size)⟩
 subst hel;have HB3:=hid (show Below w.heap.size w w3 from H2.out.2.2.trans (H3.out.2.mono H2.out.2.2.size));have CZ:=hid (all13_any w3 (.slice A a.rules.length cap) vl a.rules es (H2.out.1.keep H3.out.2) H3.out.1
  (by have h2:=af_mid fa;rw[←HP.out.1]at h2;exact h2)
  (by have h1:=(af_pairsOk fa).2.2;rw[←HP.out.1]at h1;exact h1)
  (by have h1:=list_few fl;rw[←HP.out.2]at h1;exact h1)
  (by have h1:=en_fit fl;rw[←HP.out.2]at h1;exact fun e he=>by have:=(h1 e he).1;omega))
 obtain⟨c20,c21⟩:=HC2.out w3 H3.out.2;obtain⟨⟨fo,fe⟩,hfo⟩:∃o,o=allL a.rules es:=⟨_,rfl⟩;rw[←hfo]at CZ;have HF:=hid hfo;clear hfo;go_upto_region 8 with(go_at_call 34;refine CZ.out.mono ?_;rintro e w4 ⟨vf,cf,rfl,hst,rfl,hb4⟩;have H4:=hid (And.intro hst hb4);clear hst hb4);clear CZ c20 c21;have HB4:=hid (show Below w.heap.size w w4 from HB3.out.trans (H4.out.2.mono HB3.out.size));obtain⟨FB,fcap,hvf⟩:=strs_form H4.out.1;subst hvf;obtain⟨n,hn⟩:∃n,n=fo.length:=⟨_,rfl⟩;have H4n:=H4.out.1;rw[←hn]at H4n⊢;have HN:=hid (And.intro hn (strs_open H4n));have hn20:n≤20000:=by
  have h1:=HF.out;unfold allL at h1;split at h1
  ·rename_i hl;rw[hn,(Prod.mk.inj h1).1];exact hl
  ·rw[hn,(Prod.mk.inj h1).1];simp
 clear hn H4n;go_wp2_with fail;go_loopg [8,11] n (fun gh s8 i wr=>∃(k:Nat) (ek:Nat),k+gh=n∧i= .int .i64 k∧s8= .int .i64 ek∧w4=wr∧Hid (ek=if longD (fo.take k)=true then 3 else fe))
 case atStart=>exact⟨0,fe,by omega,rfl,rfl,rfl,hid rfl⟩
 case round=>
  obtain⟨k,ek,hk,rfl,rfl,rfl,HK⟩:=hrel;have k0:(0:Int)≤k:=by omega
  rcases Nat.eq_zero_or_pos gk with h0|h0
  ·have d1:¬(k:Int)<n:=by omega
   have hke:ek=if longD fo=true then 3 else fe:=by
    have h1:=HK.out;rwa[List.take_of_length_le (by have:=HN.out.1;omega)]at h1
   have hfc:(fe=0∧fo=allF a.rules es)∨(fe=3∧fo=[]):=by
    have h1:=HF.out;unfold allL at h1;split at h1
    ·exact .inl ⟨(Prod.mk.inj h1).2,(Prod.mk.inj h1).1⟩
    ·exact .inr ⟨(Prod.mk.inj h1).2,(Prod.mk.inj h1).1⟩
   have hcase:(ek=3∧newD fa fl=(none,2,0,3))∨(ek=0∧newD fa fl=(some ⟨fo,a.pairs⟩,0,0,0)∧longD fo=false∧fo=allF a.rules es):=by
    unfold newD;rw[←HP.out.1,if_neg (fun h=>h rfl),←HP.out.2,if_neg (fun h=>h rfl)];dsimp only;rw[←HF.out];dsimp only;rcases hfc with ⟨h1,h2⟩|⟨h1,h2⟩
    ·subst h1;rw[if_neg (fun h=>h rfl)];by_cases hl:longD fo=true
     ·rw[if_pos hl]at hke;exact .inl ⟨hke,if_pos hl⟩
     ·rw[if_neg hl]at hke;exact .inr ⟨hke,if_neg hl,by simpa using hl,h2⟩
    ·subst h1 h2;exact .inl ⟨hke,if_pos (by decide)⟩
   clear hke hfc;rcases hcase with ⟨rfl,hZ⟩|⟨rfl,hZ,hl,hfo⟩
   ·have HZ:=hid hZ;clear hZ;go_wp2_with fail;refine bodyPost_ret (v:= .tuple #[.pointer none,.int .i64 2,.int .i64 0,.int .i64 3]) (by simp[results,Tryz.results11,go_sem]) rfl ?_;exact⟨.inl ⟨by rw[HZ.out],by rw[HZ.out];decide,by rw[HZ.out];rfl⟩,HB4.out⟩
   ·have HZ:=hid hZ;obtain⟨c20,c21⟩:=HC2.out w4 (H3.out.2.trans (H4.out.2.mono H3.out.2.size));have hba:Below w4.heap.size w4 (w4.alloc (.cells #[.slice B a.pairs.length cap',.slice FB n fcap] 40)):=(Below.refl _ _).alloc (Nat.le_refl _) _;have HD:=hid (show RefAt (w4.alloc (.cells #[.slice B a.pairs.length cap',.slice FB n fcap] 40)) w4.heap.size ⟨fo,a.pairs⟩from by
     have hp:=af_pairsOk fa;rw[←HP.out.1]at hp;have hsk:=H4.out.1;rw[←HN.out.1]at hsk;refine⟨⟨B,cap',FB,fcap,by dsimp only;rw[←HN.out.1];exact World.alloc_heap_new w4 _,(H2.out.2.1.keep (H3.out.2.trans (H4.out.2.mono H3.out.2.size))).keep hba,by dsimp only;rw[←HN.out.1];exact hsk.keep hba⟩,⟨hp.1,hp.2.1⟩,⟨by dsimp only;rw[hfo];exact allF_rising _ _,by dsimp only;rw[←HN.out.1];exact hn20,fun x hx=>?_⟩⟩;unfold longD at hl;rw[List.any_eq_false]at hl;have:=hl x hx;simpa using this)
    have HBD:=hid (HB4.out.trans (hba.mono HB4.out.size));clear hZ hl hfo hba;go_wp2_with fail;refine bodyPost_ret (v:= .tuple #[.pointer (some ⟨w4.heap.size,0,none⟩),.int .i64 0,.int .i64 0,.int .i64 0]) (by simp[results,Tryz.results11,go_sem]) rfl ?_;exact⟨.inr ⟨_,_,HZ.out,rfl,HD.out⟩,HBD.out⟩
  ·have d1:(k:Int)<n:=by omega
   obtain⟨x,hx⟩:∃x,fo[k]?=some x:=⟨_,List.getElem?_eq_getElem (by have:=HN.out.1;omega)⟩;obtain⟨b,off,rfl,hb,hcp,cx⟩:=HN.out.2 k x hx;have hlt:=long_take hx;by_cases hz:200<x.size
   ·have HX:=hid (show 3=if longD (fo.take (k+1))=true then 3 else fe by rw[hlt,decide_eq_true hz];simp);have q1:(200:Int)<x.size:=by omega
    clear hlt hx;go_wp2_with fail;go_roundg (gk-1)
    case measure=>omega
    case rel=>exact⟨k+1,3,by omega,by go_num,rfl,rfl,HX⟩
   ·have HX:=hid (show ek=if longD (fo.take (k+1))=true then 3 else fe by rw[hlt,decide_eq_false hz,Bool.or_false];exact HK.out);have q1:¬(200:Int)<x.size:=by omega
    clear hlt hx;go_wp2_with fail;go_roundg (gk-1)
    case measure=>omega
    case rel=>exact⟨k+1,ek,by omega,by go_num,rfl,rfl,HX⟩
end Go.Proofs.YtfehpcbmdancoaaGreatDoor
namespace Go.Proofs.YtfehpcbmdancoaaGreatDoor
open Go Go.RowKit Go.Lib
theorem rise_at {l:List ByteArray}(h:Rising l){i j:Nat}{x y:ByteArray}(hij:i<j)(hx:l[i]?=some x)(hy:l[j]?=some y):ltS x y:=by
 obtain⟨h1,rfl⟩:=List.getElem?_eq_some_iff.1 hx;obtain⟨h2,rfl⟩:=List.getElem?_eq_some_iff.1 hy;exact List.pairwise_iff_getElem.1 h i j h1 h2 hij
theorem is_mem (d:Di)(s:ByteArray):isD d s.data.toList=true↔s∈d.forms:=by
 unfold isD bytesD;rw[decide_eq_true_eq];refine⟨fun h=>?_,fun h=>List.mem_map.2 ⟨s,h,rfl⟩⟩;obtain⟨y,hy,he⟩:=List.mem_map.1 h;have:y=s:=Fo.str_eq he;exact this▸hy
theorem find_at {l:List ByteArray}{s:ByteArray}{f:Nat}(hr:Rising l)(h1:∀(j:Nat) a,j<f→l[j]?=some a→ltS a s)(h2:∀(j:Nat) a,f≤j→l[j]?=some a→¬ltS a s):s∈l↔l[f]?=some s:=by
 refine⟨fun h=>?_,fun h=>List.mem_of_getElem? h⟩;obtain⟨j,hj⟩:=List.getElem?_of_mem h;rcases Nat.lt_trichotomy j f with h3|h3|h3
 ·exact absurd (h1 j s h3 hj) (ltS_irrefl s)
 ·rw[←h3];exact hj
 ·obtain⟨hl,-⟩:=List.getElem?_eq_some_iff.1 hj;have hf:l[f]?=some (l[f]'(by omega)):=List.getElem?_eq_getElem (by omega);exact absurd (rise_at hr h3 hf hj) (h2 f _ (Nat.le_refl _) hf)
theorem ris_any (w:World)(p:Nat)(d:Di)(h:RefAt w p d)(s:ByteArray):
  Calls Tryz.prog 15 #[.pointer (some ⟨p,0,none⟩),.string s] w fun e w'=>e= .returned (.bool (isD d s.data.toList))∧Below w.heap.size w w':=by
 obtain⟨A,cap,B,cb,hbx,-,hst⟩:=h.box;have hA0:=is_mem d s;obtain⟨ANS,hA⟩:∃b,b=isD d s.data.toList:=⟨_,rfl⟩;rw[←hA]at hA0⊢;obtain⟨l,hl⟩:∃l,l=d.forms:=⟨_,rfl⟩;obtain⟨n,hn⟩:∃n,n=l.length:=⟨_,rfl⟩;rw[←hl]at hst hbx hA0;rw[←hn]at hst hbx;have hn20:n≤20000:=by rw[hn,hl];exact h.forms.2.1
 have HL:=hid (And.intro hn (And.intro hA0 (show Rising l by rw[hl];exact h.forms.1)));have z1:w.cell? ⟨p,1,none⟩=some (.slice B n cb):=by simp[World.cell?,hbx]
 have HO:=hid (strs_open hst);clear hbx hst hl hn hA hA0 h;go_enter Tryz.func15,Tryz.ntmps15;go_upto_region 1 with fail;have z1':w.drew.cell? ⟨p,1,none⟩=some (.slice B n cb):=z1;go_region
 have HO':=hid (show∀(k:Nat) x,l[k]?=some x→∃b off,B=some ⟨b,off,none⟩∧n≤cb∧w.drew.cell? ⟨b,off+k,none⟩=some (.string x)from fun k x hx=>by
  obtain⟨b,off,e1,_,e2,e3⟩:=HO.out k x hx;exact⟨b,off,e1,e2,e3⟩)
 clear HO z1;generalize hwd:w.drew=w1 at*;have HWD:=hid (show Below w.heap.size w w1 from by rw[←hwd];exact(Below.refl _ _).drew);clear hwd;go_wp2_with fail;go_loopg [5,6] n (fun gh s5 s6 wr=>∃(f t:Nat),t=f+gh∧t≤n∧s5= .int .i64 f∧s6= .int .i64 t∧w1=wr∧Hid ((∀(j:Nat) a,j<f→l[j]?=some a→ltS a s)∧(∀(j:Nat) a,t≤j→l[j]?=some a→¬ltS a s)))
 case atStart=>exact⟨0,n,by omega,Nat.le_refl _,rfl,rfl,rfl,hid ⟨fun j a hj=>absurd hj (Nat.not_lt_zero _),fun j a hj ha=>by have:=(List.getElem?_eq_some_iff.1 ha).1;have:=HL.out.1;omega⟩⟩
 case round=>
  obtain⟨f,t,hft,htn,rfl,rfl,rfl,HM⟩:=hrel;have HFT:=hid hft;have f0:(0:Int)≤f:=by omega
  rcases Nat.eq_zero_or_pos gk with h0|h0
  ·obtain rfl:t=f:=by omega
   clear hft;have d1:¬(t:Int)<t:=by omega
   have hans:ANS=true↔l[t]?=some s:=HL.out.2.1.trans (find_at HL.out.2.2 HM.out.1 HM.out.2);by_cases hlt:t<n
   ·obtain⟨x,hx⟩:∃x,l[t]?=some x:=⟨_,List.getElem?_eq_getElem (by have:=HL.out.1;omega)⟩;obtain⟨b,off,rfl,hcp,cx⟩:=HO'.out t x hx;have d2:(t:Int)<n:=by omega
    have q2:decide ((t:Int)<n)=true:=decide_eq_true d2;have he:(x.toList==s.toList)=ANS:=by
     rw[eq_eq,Bool.eq_iff_iff,decide_eq_true_eq,hans,hx];exact⟨fun e=>by rw[e],fun e=>Option.some.inj e⟩
    clear hans hx;go_wp2_with fail;go_ret;exact⟨rfl,HWD.out⟩
   ·have d2:¬(t:Int)<n:=by omega
    have q2:decide ((t:Int)<n)=false:=decide_eq_false d2;have he:ANS=false:=by
     rw[List.getElem?_eq_none (by have:=HL.out.1;omega)]at hans;cases ANS with
     | false=>rfl
     | true=>exact absurd (hans.1 rfl) (by simp)
    subst he;clear hans;go_wp2_with fail;go_ret;exact⟨rfl,HWD.out⟩
  ·obtain⟨m,hm⟩:∃m,m=(f+t)/2:=⟨_,rfl⟩;have d1:(f:Int)<t:=by omega
   obtain⟨x,hx⟩:∃x,l[m]?=some x:=⟨_,List.getElem?_eq_getElem (by have:=HL.out.1;omega)⟩;obtain⟨b,off,rfl,hcp,cx⟩:=HO'.out m x hx;have e9:((f:Int)+(t:Int))/2=(m:Int):=by omega
   have m0:(0:Int)≤m:=by omega
   have mn:(m:Int)<n:=by omega
   have hfm:f≤m∧m<t:=by omega
   have HFM:=hid (And.intro hfm (And.intro hft h0));have htb:(t:Int)≤20000:=by omega
   clear hm hft hfm;by_cases hs:ltS x s
   ·have hs':Op.bytesLess x.toList s.toList=true:=by rw[less_eq];exact decide_eq_true hs
    have HX:=hid (show (∀(j:Nat) a,j<m+1→l[j]?=some a→ltS a s)∧(∀(j:Nat) a,t≤j→l[j]?=some a→¬ltS a s)from ⟨fun j a hj ha=>by
     rcases Nat.lt_or_ge j m with h3|h3
     ·exact ltS_trans (rise_at HL.out.2.2 h3 ha hx) hs
     ·obtain rfl:j=m:=by omega
      rw[hx]at ha;exact Option.some.inj ha▸hs,HM.out.2⟩)
    clear hx;go_wp2_with fail;go_roundg (t-(m+1))
    case measure=>have:=HFM.out;omega
    case rel=>exact⟨m+1,t,by have:=HFM.out;omega,htn,by go_num,rfl,rfl,HX⟩
   ·have hs':Op.bytesLess x.toList s.toList=false:=by rw[less_eq];exact decide_eq_false hs
    have HX:=hid (show (∀(j:Nat) a,j<f→l[j]?=some a→ltS a s)∧(∀(j:Nat) a,m≤j→l[j]?=some a→¬ltS a s)from ⟨HM.out.1,fun j a hj ha=>by
     rcases Nat.lt_or_ge m j with h3|h3
     ·exact fun hh=>hs (ltS_trans (rise_at HL.out.2.2 h3 hx ha) hh)
     ·obtain rfl:j=m:=by omega
      rw[hx]at ha;exact Option.some.inj ha▸hs⟩)
    clear hx;go_wp2_with fail;go_roundg (m-f)
    case measure=>have:=HFM.out;omega
    case rel=>exact⟨f,m,by have:=HFM.out;omega,by have:=HFM.out;omega,rfl,by rw[e9],rfl,HX⟩
theorem RefAt.prs {w:World}{p:Nat}{d:Di}(h:RefAt w p d):∃A cap,w.cell? ⟨p,0,none⟩=some (.slice A d.pairs.length cap)∧PairsAt w (.slice A d.pairs.length cap) d.pairs:=by
 obtain⟨A,cap,B,cb,h1,h2,-⟩:=h.box;exact⟨A,cap,by simp[World.cell?,h1],h2⟩
theorem rsmall16_any (w:World)(p:Nat)(d:Di)(h:RefAt w p d)(s:ByteArray)(hs:s.size≤1000000000):
  Calls Tryz.prog 17 #[.pointer (some ⟨p,0,none⟩),.string s] w fun e w'=>e= .returned (.string (textB (smallD d s.data.toList)))∧Below w.heap.size w w':=by
 obtain⟨A,cap,h1,h2⟩:=h.prs;have CH:=hid (show Calls Tryz.prog 37 #[.slice A d.pairs.length cap,.string s] w fun e w'=>e= .returned (.string (textB (smallD d s.data.toList)))∧Below w.heap.size w w' from Fo.small14 w A d.pairs.length cap d.pairs s h2 rfl (by have:=h.pairs.2;omega) hs);clear h2 h;go_enter Tryz.func17,Tryz.ntmps17;go_wp2_with (go_at_call 37;refine CH.out.mono ?_;rintro e w1 ⟨rfl,hb⟩;have HB:=hid hb;clear hb);go_ret;exact⟨rfl,HB.out⟩
theorem textB_size (l:List UInt8):(textB l).size=l.length:=by show l.toArray.size=_;rw[List.size_toArray]
theorem rhas16_any (w:World)(p:Nat)(d:Di)(h:RefAt w p d)(s:ByteArray)(hs:s.size≤100000000):
  Calls Tryz.prog 13 #[.pointer (some ⟨p,0,none⟩),.string s] w fun e w'=>e= .returned (.bool (hasD d s.data.toList))∧Below w.heap.size w w':=by
 obtain⟨A,cap,h1,h2⟩:=h.prs;have hpl:d.pairs.length≤1000000:=by have:=h.pairs.2;omega
 obtain⟨K,hK⟩:∃K,K=shapeT d.pairs s.data.toList:=⟨_,rfl⟩;obtain⟨S,hS⟩:∃S,S=textB (smallD d s.data.toList):=⟨_,rfl⟩;have hSz:S.size≤500000000:=by
  rw[hS,textB_size];have h1:=small_size d.pairs s.data.toList;have h3:s.data.toList.length=s.size:=(Lib.size_eq s).symm;unfold smallD;omega
 obtain⟨T,hTt⟩:∃T,T=textB (titleT d.pairs S.data.toList):=⟨_,rfl⟩;obtain⟨b0,hb0⟩:∃b,b=isD d s.data.toList:=⟨_,rfl⟩;obtain⟨b1,hb1⟩:∃b,b=isD d S.data.toList:=⟨_,rfl⟩;obtain⟨b2,hb2⟩:∃b,b=isD d T.data.toList:=⟨_,rfl⟩;have hans:hasD d s.data.toList=(b0||(decide (K=1)&&b1)||(decide (K=2)&&b1)||(decide (K=2)&&b2)):=by
  rw[hb0,hb1,hb2,hTt,hK,hS,textB_list,textB_list];rfl
 rw[hans];have C1:=hid (rsmall16_any w p d h s (by omega));rw[←hS]at C1;have hk:∀wx,Below w.heap.size w wx→wx.cell? ⟨p,0,none⟩=some (.slice A d.pairs.length cap):=fun wx hb=>(hb.cell (p:=⟨p,0,none⟩) (World.block_lt_of_cell? _ _ h1)).trans h1;have C2:=hid (show∀wx,Below w.heap.size w wx→Calls Tryz.prog 26 #[.slice A d.pairs.length cap,.string s] wx fun e w'=>e= .returned (.int .i64 K)∧Below wx.heap.size wx w' from fun wx hb=>by
  rw[hK];exact Fo.shape14 wx A d.pairs.length cap d.pairs s (h2.keep hb) rfl hpl (by omega))
 have C3:=hid (show∀wx,Below w.heap.size w wx→Calls Tryz.prog 15 #[.pointer (some ⟨p,0,none⟩),.string s] wx fun e w'=>e= .returned (.bool b0)∧Below wx.heap.size wx w' from fun wx hb=>by
  rw[hb0];exact ris_any wx p d (h.keep hb) s)
 have C4:=hid (show∀wx,Below w.heap.size w wx→Calls Tryz.prog 15 #[.pointer (some ⟨p,0,none⟩),.string S] wx fun e w'=>e= .returned (.bool b1)∧Below wx.heap.size wx w' from fun wx hb=>by
  rw[hb1];exact ris_any wx p d (h.keep hb) S)
 have C5:=hid (show∀wx,Below w.heap.size w wx→Calls Tryz.prog 25 #[.slice A d.pairs.length cap,.string S] wx fun e w'=>e= .returned (.string T)∧Below wx.heap.size wx w' from fun wx hb=>by
  rw[hTt];exact Fo.title14 wx A d.pairs.length cap d.pairs S (h2.keep hb) rfl hpl (by omega))
 have C6:=hid (show∀wx,Below w.heap.size w wx→Calls Tryz.prog 15 #[.pointer (some ⟨p,0,none⟩),.string T] wx fun e w'=>e= .returned (.bool b2)∧Below wx.heap.size wx w' from fun wx hb=>by
  rw[hb2];exact ris_any wx p d (h.keep hb) T)
 have HCL:=hid hk;clear h h1 h2 hK hS hTt hb0 hb1 hb2 hans hk hs hSz hpl;go_enter Tryz.func13,Tryz.ntmps13;go_wp2_with fail;refine C1.out.mono ?_;rintro e w1 ⟨rfl,hb⟩;have H1:=hid hb;have z1:=HCL.out w1 hb;clear hb C1;go_wp2_with fail;refine(C2.out _ H1.out).mono ?_;rintro e w2 ⟨rfl,hb⟩;have H2:=hid (H1.out.trans (hb.mono H1.out.size));clear hb C2 z1;go_wp2_with fail;refine(C3.out _ H2.out).mono ?_;rintro e w3 ⟨rfl,hb⟩;have H3:=hid (H2.out.trans (hb.mono H2.out.size));clear hb C3;cases b0 with
 | true=>
   go_wp2_with fail;go_ret;exact⟨rfl,H3.out⟩
 | false=>
   by_cases k1:K=1
   ·subst k1;go_wp2_with fail;refine(C4.out _ H3.out).mono ?_;rintro e w4 ⟨rfl,hb⟩;have H4:=hid (H3.out.trans (hb.mono H3.out.size));clear hb;go_wp2_with fail;go_ret;exact⟨by simp,H4.out⟩
   ·by_cases k2:K=2
    ·subst k2;go_wp2_with fail;refine(C4.out _ H3.out).mono ?_;rintro e w4 ⟨rfl,hb⟩;have H4:=hid (H3.out.trans (hb.mono H3.out.size));have z4:=HCL.out w4 H4.out;clear hb;cases b1 with
     | true=>
       go_wp2_with fail;go_ret;exact⟨rfl,H4.out⟩
     | false=>
       go_wp2_with fail;refine(C5.out _ H4.out).mono ?_;rintro e w5 ⟨rfl,hb⟩;have H5:=hid (H4.out.trans (hb.mono H4.out.size));clear hb;go_wp2_with fail;refine(C6.out _ H5.out).mono ?_;rintro e w6 ⟨rfl,hb⟩;have H6:=hid (H5.out.trans (hb.mono H5.out.size));clear hb;go_wp2_with fail;go_ret;exact⟨by simp,H6.out⟩
    ·have d1:(K==1)=false:=by simpa using k1
     have d2:(K==2)=false:=by simpa using k2
     have HK:=hid (And.intro k1 k2);clear k1 k2;go_wp2_with fail;go_ret;exact⟨by have:=HK.out;simp[this.1,this.2],H3.out⟩
structure Both16 (w0 w:World)(p q:Nat)(d:Di):Prop where
 land:Lg w0 w p d
 doc:RefAt w q d
theorem Both16.keep {w0 w w':World}{p q:Nat}{d:Di}(h:Both16 w0 w p q d)(hb:Below w.heap.size w w'):Both16 w0 w' p q d:=⟨h.land.keep hb,h.doc.keep hb⟩
def At16 (w0:World)(p q:Nat)(d:Di)(a:Addr)(x:ByteArray)(wx:World):Prop:=wx.cell? a=some (.string x)∧Hid (Both16 w0 wx p q d)
theorem At16.keep {w0 w w':World}{p q:Nat}{d:Di}{a:Addr}{x:ByteArray}(h:At16 w0 p q d a x w)(hb:Below w.heap.size w w'):At16 w0 p q d a x w':=
 ⟨(hb.cell (World.block_lt_of_cell? _ _ h.1)).trans h.1,hid (h.2.out.keep hb)⟩
theorem rnew_yes (w:World)(fa fl:ByteArray)(hfa:fa.size≤1000000000)(hfl:fl.size≤1000000000){d:Di}(h:newD fa fl=(some d,0,0,0)):
  Calls Tryz.prog 11 #[.agg #[.string fa,.string fl]] w fun e w'=>∃p,e= .returned (.tuple #[.pointer (some ⟨p,0,none⟩),.int .i64 0,.int .i64 0,.int .i64 0])∧RefAt w' p d∧Below w.heap.size w w':=by
 refine(rnew_any w fa fl hfa hfl).mono ?_;rintro e w' ⟨⟨h1,-⟩|⟨d',p,h1,h2,h3⟩,hb⟩
 ·rw[h]at h1;cases h1
 ·rw[h]at h1;obtain rfl:d=d':=Option.some.inj (Prod.mk.inj h1).1;exact⟨p,h2,h3,hb⟩
end Go.Proofs.YtfehpcbmdancoaaGreatDoor
set_option maxRecDepth 100000
set_option maxHeartbeats 4000000
namespace Go.Proofs.YtfehpcbmdancoaaGreatDoor.Wd
section
open Go Go.RowKit Go.Lib
def wordArr:Array Value:=#[.string ⟨#[99,97,116]⟩,.string ⟨#[100,111,103]⟩,.string ⟨#[99,105,116,121]⟩,.string ⟨#[100,111]⟩,.string ⟨#[100,111,110,101]⟩,.string ⟨#[80,97,114,105,115]⟩,.string ⟨#[105,116,39,115]⟩,.string ⟨#[104,111,112,101]⟩,.string ⟨#[109,97,107,101]⟩,.string ⟨#[116,97,112]⟩,.string ⟨#[116,111,112]⟩,.string ⟨#[116,111,112,115]⟩,.string ⟨#[116,97,112,115]⟩,.string ⟨#[98,101]⟩,.string ⟨#[195,150,108]⟩,.string ⟨#[195,182,100,101]⟩,.string ⟨#[78,65,84,79]⟩,.string ⟨#[97]⟩,.string ⟨#[114,117,110]⟩,.string ⟨#[114,117,110,115]⟩,.string ⟨#[116,114,121]⟩,.string ⟨#[116,114,105,101,115]⟩,.string ⟨#[104,111,117,115,101]⟩,.string ⟨#[109,111,117,115,101]⟩]
def wordOf (i:Nat):ByteArray:=match wordArr.getD i (.string ⟨#[]⟩)with| .string s=>s|_=>⟨#[]⟩
def wordsVal:Value:= .agg wordArr
theorem word_size:∀i,i<24→1≤(wordOf i).size∧(wordOf i).size≤6:=by decide
theorem wpList_build_eq {P:Program}{ops:Array Oper}{rest:List Oper}{o:Oper}{a:Act}{w:World}{Q:Exit→Act→World→Prop}(hg:o.guard=none)(t:TypeId)(parts:Array (Nat×Operand))(ho:o.op= .build t parts)
  (cells:Array Value) (hc:P.built t (parts.map fun (i,x)=>(i,a.eval x)).toList=some cells) (h:wpList P ops Q rest (a.put o.dst (.agg cells)) w):wpList P ops Q (o::rest) a w:=
 wpList_build hg t parts ho (by rw[hc];rfl) (by rw[hc];exact h)
theorem below_setRow {B:Nat}{a w:World}(h:Below B a w){g:Nat}(hg:B≤g)(cs:Array Value):Below B a (w.setRow g cs):=
 ⟨h.os,h.tape,h.output,by simp;exact h.size,fun k hk=>by
  rw[←h.block k hk];simp only[World.setRow,Array.getElem?_modify];rw[if_neg (by omega)]⟩
theorem Tryz.info78:(Tryz.prog.info? 78).map (·.size)=some 24:=by kernel_rfl
theorem word_one:wordArr.all (·.oneCell')=true:=by kernel_rfl
theorem row_same (w:World)(Z:Array Value)(t:TypeId)(cs:Array Value):((w.alloc (.cells Z t)).setRow w.heap.size cs).heap[w.heap.size]?=some (.cells cs t (0,0)):=by
 simp only[World.setRow,Array.getElem?_modify,if_true];rw[heap_alloc_new];rfl
theorem words_any (w:World):Calls Tryz.prog 43 #[] w fun e w'=>e= .returned wordsVal∧Below w.heap.size w w':=by
 go_enter Tryz.func43,Tryz.ntmps43;go_upto_region 1 with fail;refine wp_region_lit (l:=[_,_]) ?_;refine wpList_build_eq rfl 78 _ rfl wordArr (by kernel_rfl) ?_;refine wpList_store_row rfl 78 (.tmp 0) (.tmp 1) rfl w.heap.size wordArr rfl rfl 78 _ (heap_alloc_new w _) Tryz.info78 rfl word_one ?_;refine wpList_nil ?_;have hr:=fun Z:Array Value=>row_same w Z 78 wordArr;have hb:=fun Z:Array Value=>below_setRow ((Below.refl w.heap.size w).alloc (Nat.le_refl _) (.cells Z 78)) (Nat.le_refl _) wordArr;have HR:=hid hr;have HB:=hid hb;clear hr hb;simp only[Act.put,List.setIfInBounds_toArray,List.set_cons_zero,List.set_cons_succ];go_wp2_with fail;refine bodyPost_ret (results_cell_row rfl _ _ w.heap.size 78 wordArr (0,0) _ rfl (HR.out _) Tryz.underlying78 rfl Tryz.info78) rfl ?_;exact⟨rfl,HB.out _⟩
theorem word_at0 (w:World):(Instr.index 78 wordsVal (.int .i64 0)).run Tryz.prog w= .ok (.string (wordOf 0)) w:=by kernel_rfl
theorem word_at1 (w:World):(Instr.index 78 wordsVal (.int .i64 1)).run Tryz.prog w= .ok (.string (wordOf 1)) w:=by kernel_rfl
theorem word_at2 (w:World):(Instr.index 78 wordsVal (.int .i64 2)).run Tryz.prog w= .ok (.string (wordOf 2)) w:=by kernel_rfl
theorem word_at3 (w:World):(Instr.index 78 wordsVal (.int .i64 3)).run Tryz.prog w= .ok (.string (wordOf 3)) w:=by kernel_rfl
theorem word_at4 (w:World):(Instr.index 78 wordsVal (.int .i64 4)).run Tryz.prog w= .ok (.string (wordOf 4)) w:=by kernel_rfl
theorem word_at5 (w:World):(Instr.index 78 wordsVal (.int .i64 5)).run Tryz.prog w= .ok (.string (wordOf 5)) w:=by kernel_rfl
theorem word_at6 (w:World):(Instr.index 78 wordsVal (.int .i64 6)).run Tryz.prog w= .ok (.string (wordOf 6)) w:=by kernel_rfl
theorem word_at7 (w:World):(Instr.index 78 wordsVal (.int .i64 7)).run Tryz.prog w= .ok (.string (wordOf 7)) w:=by kernel_rfl
theorem word_at8 (w:World):(Instr.index 78 wordsVal (.int .i64 8)).run Tryz.prog w= .ok (.string (wordOf 8)) w:=by kernel_rfl
theorem word_at9 (w:World):(Instr.index 78 wordsVal (.int .i64 9)).run Tryz.prog w= .ok (.string (wordOf 9)) w:=by kernel_rfl
theorem word_at10 (w:World):(Instr.index 78 wordsVal (.int .i64 10)).run Tryz.prog w= .ok (.string (wordOf 10)) w:=by kernel_rfl
theorem word_at11 (w:World):(Instr.index 78 wordsVal (.int .i64 11)).run Tryz.prog w= .ok (.string (wordOf 11)) w:=by kernel_rfl
theorem word_at12 (w:World):(Instr.index 78 wordsVal (.int .i64 12)).run Tryz.prog w= .ok (.string (wordOf 12)) w:=by kernel_rfl
theorem word_at13 (w:World):(Instr.index 78 wordsVal (.int .i64 13)).run Tryz.prog w= .ok (.string (wordOf 13)) w:=by kernel_rfl
theorem word_at14 (w:World):(Instr.index 78 wordsVal (.int .i64 14)).run Tryz.prog w= .ok (.string (wordOf 14)) w:=by kernel_rfl
theorem word_at15 (w:World):(Instr.index 78 wordsVal (.int .i64 15)).run Tryz.prog w= .ok (.string (wordOf 15)) w:=by kernel_rfl
theorem word_at16 (w:World):(Instr.index 78 wordsVal (.int .i64 16)).run Tryz.prog w= .ok (.string (wordOf 16)) w:=by kernel_rfl
theorem word_at17 (w:World):(Instr.index 78 wordsVal (.int .i64 17)).run Tryz.prog w= .ok (.string (wordOf 17)) w:=by kernel_rfl
theorem word_at18 (w:World):(Instr.index 78 wordsVal (.int .i64 18)).run Tryz.prog w= .ok (.string (wordOf 18)) w:=by kernel_rfl
theorem word_at19 (w:World):(Instr.index 78 wordsVal (.int .i64 19)).run Tryz.prog w= .ok (.string (wordOf 19)) w:=by kernel_rfl
theorem word_at20 (w:World):(Instr.index 78 wordsVal (.int .i64 20)).run Tryz.prog w= .ok (.string (wordOf 20)) w:=by kernel_rfl
theorem word_at21 (w:World):(Instr.index 78 wordsVal (.int .i64 21)).run Tryz.prog w= .ok (.string (wordOf 21)) w:=by kernel_rfl
theorem word_at22 (w:World):(Instr.index 78 wordsVal (.int .i64 22)).run Tryz.prog w= .ok (.string (wordOf 22)) w:=by kernel_rfl
theorem word_at23 (w:World):(Instr.index 78 wordsVal (.int .i64 23)).run Tryz.prog w= .ok (.string (wordOf 23)) w:=by kernel_rfl
theorem word_at (i:Nat)(h:i<24)(w:World):(Instr.index 78 wordsVal (.int .i64 i)).run Tryz.prog w= .ok (.string (wordOf i)) w:=by
 have hc:i=0∨i=1∨i=2∨i=3∨i=4∨i=5∨i=6∨i=7∨i=8∨i=9∨i=10∨i=11∨i=12∨i=13∨i=14∨i=15∨i=16∨i=17∨i=18∨i=19∨i=20∨i=21∨i=22∨i=23:=by omega
 rcases hc with rfl|rfl|rfl|rfl|rfl|rfl|rfl|rfl|rfl|rfl|rfl|rfl|rfl|rfl|rfl|rfl|rfl|rfl|rfl|rfl|rfl|rfl|rfl|rfl
 ·exact word_at0 w
 ·exact word_at1 w
 ·exact word_at2 w
 ·exact word_at3 w
 ·exact word_at4 w
 ·exact word_at5 w
 ·exact word_at6 w
 ·exact word_at7 w
 ·exact word_at8 w
 ·exact word_at9 w
 ·exact word_at10 w
 ·exact word_at11 w
 ·exact word_at12 w
 ·exact word_at13 w
 ·exact word_at14 w
 ·exact word_at15 w
 ·exact word_at16 w
 ·exact word_at17 w
 ·exact word_at18 w
 ·exact word_at19 w
 ·exact word_at20 w
 ·exact word_at21 w
 ·exact word_at22 w
 ·exact word_at23 w
theorem below_dr {B:Nat}{a w:World}(h:Below B a w)(n:Nat):Below B a (w.drewN n):=⟨h.os,h.tape,h.output,h.size,h.block⟩
def Short (n:Nat)(w:World)(e:Ending)(w':World):Prop:=∃s:ByteArray,e= .returned (.string s)∧s.size≤n∧Below w.heap.size w w'
theorem word_plain (v:Int)(k:Nat)(w:World)(hk:v%16777216=k)(t:Int)(ht:(k:Int)/24%9=t)(h:t=0∨t=1∨t=3∨t=7∨t=8):
  Calls Tryz.prog 23 #[.int .i64 v] w (Short 12 w):=by
 have hkl:k<16777216:=by omega
 obtain⟨hW1,hW2⟩:=word_size (k%24) (by omega);have hix:=fun wx=>word_at (k%24) (by omega) wx;rw[show ((k%24:Nat):Int)=(k:Int)%24 by omega]at hix;obtain⟨W,hW⟩:∃W,W=wordOf (k%24):=⟨_,rfl⟩;rw[←hW]at hix hW1 hW2;have P:=hid (place9 v 16777216 w (by omega) (by omega));rw[hk]at P;have WS:=hid words_any;have k0:(0:Int)≤k:=by omega
 have k1:(k:Int)<16777216:=by omega
 clear hW hk;rcases h with rfl|rfl|rfl|rfl|rfl;all_goals
  go_enter Tryz.func23,Tryz.ntmps23;go_wp2_with fail;refine(P.out).mono ?_;rintro e w1 ⟨rfl,rfl⟩;go_wp2_with fail;refine(WS.out _).mono ?_;rintro e w2 ⟨rfl,hb2⟩;have HB:=hid hb2;clear hb2;go_wp2_with fail;go_ret;refine⟨_,rfl,?_,HB.out⟩;have e1:ByteArray.size ⟨#[115]⟩=1:=rfl;have e2:ByteArray.size ⟨#[117,110]⟩=2:=rfl;have e3:ByteArray.size ⟨#[120]⟩=1:=rfl
  first
   | omega
   | (rw [ByteArray.size_append];omega)
theorem word_turn (v:Int)(k:Nat)(w:World)(hk:v%16777216=k)(ht:(k:Int)/24%9=2):Calls Tryz.prog 23 #[.int .i64 v] w (Short 12 w):=by
 have hkl:k<16777216:=by omega
 obtain⟨hW1,hW2⟩:=word_size (k%24) (by omega);have hix:=fun wx=>word_at (k%24) (by omega) wx;rw[show ((k%24:Nat):Int)=(k:Int)%24 by omega]at hix;obtain⟨W,hW⟩:∃W,W=wordOf (k%24):=⟨_,rfl⟩;rw[←hW]at hix hW1 hW2;have P:=hid (place9 v 16777216 w (by omega) (by omega));rw[hk]at P;have WS:=hid words_any;have k0:(0:Int)≤k:=by omega
 have k1:(k:Int)<16777216:=by omega
 clear hW hk;by_cases hl:1<W.size
 ·have s1:(1:Int)<W.size:=by omega
  have s2:(2:Int)≤W.size:=by omega
  go_enter Tryz.func23,Tryz.ntmps23;go_wp2_with fail;refine(P.out).mono ?_;rintro e w1 ⟨rfl,rfl⟩;go_wp2_with fail;refine(WS.out _).mono ?_;rintro e w2 ⟨rfl,hb2⟩;have HB:=hid hb2;clear hb2;go_wp2_with fail;go_quiet (fail);go_wp2_with fail;go_ret;refine⟨_,rfl,?_,below_dr HB.out nq⟩;simp only[ByteArray.size_append,ByteArray.size_extract];omega
 ·have s3:W.size≤1:=by omega
  have d1:decide ((1:Int)<(W.size:Int))=false:=by simp;omega
  have d2:decide (1<W.size)=false:=by simp;omega
  have HS:=hid s3;clear hl s3;go_enter Tryz.func23,Tryz.ntmps23;go_wp2_with fail;refine(P.out).mono ?_;rintro e w1 ⟨rfl,rfl⟩;go_wp2_with fail;refine(WS.out _).mono ?_;rintro e w2 ⟨rfl,hb2⟩;have HB:=hid hb2;clear hb2;go_wp2_with fail;go_ret;exact⟨_,rfl,by have:=HS.out;omega,HB.out⟩
theorem word_cut (v:Int)(k:Nat)(w:World)(hk:v%16777216=k)(ht:(k:Int)/24%9=4):Calls Tryz.prog 23 #[.int .i64 v] w (Short 12 w):=by
 have hkl:k<16777216:=by omega
 obtain⟨hW1,hW2⟩:=word_size (k%24) (by omega);have hix:=fun wx=>word_at (k%24) (by omega) wx;rw[show ((k%24:Nat):Int)=(k:Int)%24 by omega]at hix;obtain⟨W,hW⟩:∃W,W=wordOf (k%24):=⟨_,rfl⟩;rw[←hW]at hix hW1 hW2;have P:=hid (place9 v 16777216 w (by omega) (by omega));rw[hk]at P;have WS:=hid words_any;have k0:(0:Int)≤k:=by omega
 have k1:(k:Int)<16777216:=by omega
 clear hW hk;by_cases hl:2<W.size
 ·have s1:(2:Int)<W.size:=by omega
  have s2:(0:Int)≤(W.size:Int)-1:=by omega
  go_enter Tryz.func23,Tryz.ntmps23;go_wp2_with fail;refine(P.out).mono ?_;rintro e w1 ⟨rfl,rfl⟩;go_wp2_with fail;refine(WS.out _).mono ?_;rintro e w2 ⟨rfl,hb2⟩;have HB:=hid hb2;clear hb2;go_wp2_with fail;go_ret;refine⟨_,rfl,?_,HB.out⟩;simp only[ByteArray.size_extract];omega
 ·have s3:W.size≤2:=by omega
  have d1:decide ((2:Int)<(W.size:Int))=false:=by simp;omega
  have d2:decide (2<W.size)=false:=by simp;omega
  have HS:=hid s3;clear hl s3;go_enter Tryz.func23,Tryz.ntmps23;go_wp2_with fail;refine(P.out).mono ?_;rintro e w1 ⟨rfl,rfl⟩;go_wp2_with fail;refine(WS.out _).mono ?_;rintro e w2 ⟨rfl,hb2⟩;have HB:=hid hb2;clear hb2;go_wp2_with fail;go_ret;exact⟨_,rfl,by have:=HS.out;omega,HB.out⟩
end
section
open Go Go.RowKit Go.Lib
theorem conv_one (x:Int)(hx0:0≤x)(hx1:x<256):∃S:ByteArray,S.size=1∧∀wx:World,(convert 72 9 (.slice (some ⟨wx.heap.size,0,none⟩) 1 1)).run Tryz.prog ((wx.alloc (.cells #[.int .u8 x] 5)).drew)= .ok (.string S) ((wx.alloc (.cells #[.int .u8 x] 5)).drew):=by
 refine⟨⟨[UInt8.ofNat x.toNat].toArray⟩,rfl,fun wx=>?_⟩;exact run_convert_bytes_back (P:=Tryz.prog) ((wx.alloc (.cells #[.int .u8 x] 5)).drew) 72 9 5 ⟨wx.heap.size,0,none⟩ 1 [UInt8.ofNat x.toNat] Tryz.underlying72 Tryz.underlying5 Tryz.underlying9 (fun j hj=>by
  have hj0:j=0:=by simpa using hj
  subst hj0;have he:((UInt8.ofNat x.toNat).toNat:Int)=x:=by simp;omega
  have hc:((wx.alloc (.cells #[.int .u8 x] 5)).drew).cell? ⟨wx.heap.size,0,none⟩=some (.int .u8 x):=by simp
  rw[show (⟨wx.heap.size,0,none⟩:Addr).add 0=⟨wx.heap.size,0,none⟩from rfl,hc];show _=some (Value.int .u8 ((UInt8.ofNat x.toNat).toNat:Int));rw[he])
theorem word_title (v:Int)(k:Nat)(w:World)(hk:v%16777216=k)(ht:(k:Int)/24%9=6):Calls Tryz.prog 23 #[.int .i64 v] w (Short 12 w):=by
 have hkl:k<16777216:=by omega
 obtain⟨hW1,hW2⟩:=word_size (k%24) (by omega);have hix:=fun wx=>word_at (k%24) (by omega) wx;rw[show ((k%24:Nat):Int)=(k:Int)%24 by omega]at hix;obtain⟨W,hW⟩:∃W,W=wordOf (k%24):=⟨_,rfl⟩;rw[←hW]at hix hW1 hW2;have P:=hid (place9 v 16777216 w (by omega) (by omega));rw[hk]at P;have WS:=hid words_any;have k0:(0:Int)≤k:=by omega
 have k1:(k:Int)<16777216:=by omega
 clear hW hk;have hpos:0<W.size:=by omega
 have hbb:=W[0].toNat_lt;by_cases hlow:97≤W[0].toNat∧W[0].toNat≤122
 ·obtain⟨l1,l2⟩:=hlow;have q1:(97:Int)≤(W[0].toNat:Int):=by omega
  have q2:(W[0].toNat:Int)≤122:=by omega
  obtain⟨S,hS1,hS2⟩:=conv_one ((W[0].toNat:Int)-32) (by omega) (by omega);have hS3:S.size≤1:=by omega
  have HS1:=hid hS1;have s1:(0:Int)<W.size:=by omega
  have s2:(1:Int)≤W.size:=by omega
  have u1:IntKind.u8.wrap ((W[0].toNat:Int)-32)=(W[0].toNat:Int)-32:=IntWalk.u8_in _ (by omega);clear hS1;go_enter Tryz.func23,Tryz.ntmps23;go_wp2_with fail;refine(P.out).mono ?_;rintro e w1 ⟨rfl,rfl⟩;go_wp2_with fail;refine(WS.out _).mono ?_;rintro e w2 ⟨rfl,hb2⟩;have HB:=hid hb2;clear hb2;go_wp2_with fail;go_region
  go_wp2_with fail;go_ret;refine⟨_,rfl,?_,below_dr (HB.out.alloc HB.out.size _) 1⟩;have:=HS1.out;simp only[ByteArray.size_append,ByteArray.size_extract];omega
 ·have hcs:W[0].toNat<97∨122<W[0].toNat:=by omega
  have HW:=hid hW2;have s1:(0:Int)<W.size:=by omega
  rcases hcs with hc|hc
  ·have d1:decide ((97:Int)≤(W[0].toNat:Int))=false:=by simp;omega
   have d2:decide (97≤W[0].toNat)=false:=by simp;omega
   clear hlow hc;go_enter Tryz.func23,Tryz.ntmps23;go_wp2_with fail;refine(P.out).mono ?_;rintro e w1 ⟨rfl,rfl⟩;go_wp2_with fail;refine(WS.out _).mono ?_;rintro e w2 ⟨rfl,hb2⟩;have HB:=hid hb2;clear hb2;go_wp2_with fail;go_ret;exact⟨_,rfl,by have:=HW.out;omega,HB.out⟩
  ·have e1:(97:Int)≤(W[0].toNat:Int):=by omega
   have d1:decide ((W[0].toNat:Int)≤122)=false:=by simp;omega
   have d2:decide (W[0].toNat≤122)=false:=by simp;omega
   clear hlow hc;go_enter Tryz.func23,Tryz.ntmps23;go_wp2_with fail;refine(P.out).mono ?_;rintro e w1 ⟨rfl,rfl⟩;go_wp2_with fail;refine(WS.out _).mono ?_;rintro e w2 ⟨rfl,hb2⟩;have HB:=hid hb2;clear hb2;go_wp2_with fail;go_ret;exact⟨_,rfl,by have:=HW.out;omega,HB.out⟩
end
section
open Go Go.RowKit Go.Lib
def BytesAt (w:World)(g n:Nat):Prop:=∀q,q<n→(∃x:Int,0≤x∧x<256∧w.cell? ⟨g,q,none⟩=some (.int .u8 x))∧w.frozen? ⟨g,q,none⟩=false
theorem BytesAt.set {w:World}{g n:Nat}(h:BytesAt w g n)(k:Nat)(y:Int)(hy0:0≤y)(hy1:y<256):BytesAt (w.setCell ⟨g,k,none⟩ (.int .u8 y)) g n:=by
 intro q hq;obtain⟨⟨x,hx0,hx1,hx⟩,hf⟩:=h q hq;refine⟨?_,?_⟩
 ·by_cases hk:k=q
  ·subst hk;exact⟨y,hy0,hy1,World.cell?_setCell_same (h:=hx) ..⟩
  ·exact⟨x,hx0,hx1,(World.cell?_setCell_other (h:=by intro e;injection e;omega) ..).trans hx⟩
 ·rw[←hf];exact World.frozen?_setCell ..
theorem BytesAt.back {w:World}{g n cap:Nat}(h:BytesAt w g n):∃S:ByteArray,S.size=n∧(convert 72 9 (.slice (some ⟨g,0,none⟩) n cap)).run Tryz.prog w= .ok (.string S) w:=by
 have hex:∀q,q<n→∃b:UInt8,w.cell? ⟨g,q,none⟩=some (.int .u8 (b.toNat:Int)):=fun q hq=>by
  obtain⟨⟨x,hx0,hx1,hx⟩,_⟩:=h q hq;refine⟨UInt8.ofNat x.toNat,?_⟩;have he:((UInt8.ofNat x.toNat).toNat:Int)=x:=by simp;omega
  rw[he];exact hx
 obtain⟨f,hf⟩:∃f:Nat→UInt8,∀q,q<n→w.cell? ⟨g,q,none⟩=some (.int .u8 ((f q).toNat:Int)):=by
  classical
  exact⟨fun q=>if hq:q<n then Classical.choose (hex q hq)else 0,fun q hq=>by simp only[dif_pos hq];exact Classical.choose_spec (hex q hq)⟩
 have hl:((List.range n).map f).length=n:=by simp
 refine⟨⟨((List.range n).map f).toArray⟩,by show ((List.range n).map f).toArray.size=n;simp,?_⟩;have:=run_convert_bytes_back (P:=Tryz.prog) w 72 9 5 ⟨g,0,none⟩ cap ((List.range n).map f) Tryz.underlying72 Tryz.underlying5 Tryz.underlying9 (fun j hj=>by
  rw[hl]at hj;have hadd:(⟨g,0,none⟩:Addr).add j=⟨g,j,none⟩:=by unfold Addr.add;split<;>simp_all
  rw[hadd,hf j hj];simp)
 rwa[hl]at this
theorem bytes_below (w:World)(s:ByteArray):Below w.heap.size w (bytesWorld w 5 s):=by
 refine⟨?_,?_,?_,by rw[bytesWorld_size];omega,fun k hk=>bytesWorld_at_old w 5 s k hk⟩;all_goals (simp [bytesWorld,World.freeze];try rfl)
theorem bytes_at (w:World)(s:ByteArray):BytesAt (bytesWorld w 5 s) w.heap.size s.size:=by
 intro q hq;refine⟨⟨_,?_,?_,bytesWorld_cell w 5 s q hq⟩,?_⟩
 ·omega
 ·have:=(s.data.toList.getD q 0).toNat_lt;omega
 ·have hsz:s.size≤(bytesCells w 5 s).size:=by
   unfold bytesCells;rw[Array.size_append,Array.size_map];show s.data.size≤_;omega
  simp[World.frozen?,bytesWorld_at_new];omega
theorem word_great (v:Int)(k:Nat)(w:World)(hk:v%16777216=k)(ht:(k:Int)/24%9=5):Calls Tryz.prog 23 #[.int .i64 v] w (Short 12 w):=by
 have hkl:k<16777216:=by omega
 obtain⟨hW1,hW2⟩:=word_size (k%24) (by omega);have hix:=fun wx=>word_at (k%24) (by omega) wx;rw[show ((k%24:Nat):Int)=(k:Int)%24 by omega]at hix;obtain⟨W,hW⟩:∃W,W=wordOf (k%24):=⟨_,rfl⟩;rw[←hW]at hix hW1 hW2;have P:=hid (place9 v 16777216 w (by omega) (by omega));rw[hk]at P;have WS:=hid words_any;have k0:(0:Int)≤k:=by omega
 have k1:(k:Int)<16777216:=by omega
 clear hW hk;have hconv:=fun wx:World=>Lib.run_convert_string_bytes (P:=Tryz.prog) wx 9 72 5 W Tryz.underlying9 Tryz.underlying72 Tryz.underlying5;go_enter Tryz.func23,Tryz.ntmps23;go_wp2_with fail;refine(P.out).mono ?_;rintro e w1 ⟨rfl,rfl⟩;go_wp2_with fail;refine(WS.out _).mono ?_;rintro e w2 ⟨rfl,hb2⟩;have HB:=hid hb2;clear hb2;go_wp2_with fail;have hbw:=bytes_below w2 W;have hba:=bytes_at w2 W;have hsz:=bytesWorld_size w2 5 W;obtain⟨g,hg⟩:∃g,g=w2.heap.size:=⟨_,rfl⟩;obtain⟨cap,hcap⟩:∃cap,cap=grownCap w2 W.size 0 5:=⟨_,rfl⟩;have hgb:w.heap.size≤g:=by rw[hg];exact HB.out.size
 have HB3:=hid (HB.out.trans (hbw.mono HB.out.size));rw[←hg]at hba;rw[←hg,←hcap];generalize bytesWorld w2 5 W=w3 at hba HB3⊢;have HBA:=hid hba;clear hbw hba hsz hg hcap hconv;have HW2:=hid hW2
 go_loopw [6] (fun i wr=>∃j:Nat,j≤W.size∧i= .int .i64 j∧Hid (BytesAt wr g W.size)∧Hid (Below w.heap.size w wr)) (fun i _=>W.size-(RowKit.intOf i).toNat)
 case atStart=>exact⟨0,Nat.zero_le _,rfl,HBA.out,HB3.out⟩
 case round=>
  obtain⟨j,hj,rfl,HA,HL⟩:=hrel;by_cases hjn:j<W.size
  ·obtain⟨⟨x,hx0,hx1,hx⟩,hf⟩:=HA.out j hjn;have tj1:(0:Int)≤j:=by omega
   have tj2:(j:Int)<W.size:=by omega
   have HX:=hid hx;have HF:=hid hf;by_cases hin:97≤x∧x≤122
   ·obtain⟨i1,i2⟩:=hin;have HA2:=hid (HA.out.set j (x-32) (by omega) (by omega));have HL2:=hid (HL.out.setCell (p:=⟨g,j,none⟩) hgb (.int .u8 (x-32)));go_wp2_with fail
    go_roundw
    case rel=>exact⟨j+1,by omega,by go_num,HA2.out,HL2.out⟩
    case measure=>simp[RowKit.intOf];omega
   ·have hcs:x<97∨122<x:=by omega
    clear hin;rcases hcs with hc|hc
    ·have d1:decide ((97:Int)≤x)=false:=by simp;omega
     clear hc;go_wp2_with fail
     go_roundw
     case rel=>exact⟨j+1,by omega,by go_num,HA.out,HL.out⟩
     case measure=>simp[RowKit.intOf];omega
    ·have e1:(97:Int)≤x:=by omega
     have d1:decide (x≤122)=false:=by simp;omega
     clear hc;go_wp2_with fail
     go_roundw
     case rel=>exact⟨j+1,by omega,by go_num,HA.out,HL.out⟩
     case measure=>simp[RowKit.intOf];omega
  ·obtain⟨S,hS1,hS2⟩:=HA.out.back (cap:=cap);have HS:=hid hS1;clear hS1;go_wp2_with fail;go_ret;exact⟨_,rfl,by have:=HS.out;have:=HW2.out;omega,HL.out⟩
theorem word_any (v:Int)(w:World):Calls Tryz.prog 23 #[.int .i64 v] w (Short 12 w):=by
 obtain⟨k,hk⟩:∃k:Nat,v%16777216=k:=⟨(v%16777216).toNat,by omega⟩;obtain⟨t,ht⟩:∃t:Int,(k:Int)/24%9=t:=⟨_,rfl⟩;have hc:(t=0∨t=1∨t=3∨t=7∨t=8)∨t=2∨t=4∨t=5∨t=6:=by omega
 rcases hc with h|rfl|rfl|rfl|rfl
 ·exact word_plain v k w hk t ht h
 ·exact word_turn v k w hk ht
 ·exact word_cut v k w hk ht
 ·exact word_great v k w hk ht
 ·exact word_title v k w hk ht
end
end Go.Proofs.YtfehpcbmdancoaaGreatDoor.Wd
