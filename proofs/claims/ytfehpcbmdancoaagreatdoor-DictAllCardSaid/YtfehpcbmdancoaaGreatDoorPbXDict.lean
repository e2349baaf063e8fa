/- dict's calls by contract: Has, Forms, Auto. -/
import Derived.Test.YtfehpcbmdancoaaGreatDoorPbXFrom
import Derived.Test.YtfehpcbmdancoaaGreatDoorPbZForms
namespace Go.Proofs.YtfehpcbmdancoaaGreatDoor
open Go Go.RowKit Go.Lib
attribute [local go_sem] alloc_set
theorem heap_up6 {w:World}{k:Nat}{o:Obj}(h:w.heap[k]?=some o)(o':Obj):(w.alloc o').heap[k]?=some o:=(Below.heap_alloc _ _ _ (Array.getElem?_eq_some_iff.1 h).1).trans h
theorem heap_top6 (w:World)(o:Obj){k:Nat}(hk:w.heap.size=k):(w.alloc o).heap[k]?=some o:=hk▸World.alloc_heap_new w o
set_option maxRecDepth 100000 in
set_option maxHeartbeats 1000000 in
theorem later_int (w:World)(n:Nat)(hn:w.heap.size=n)(fk:Nat)(cap:Array Value):Calls Tryz.prog 71 #[.func (.func fk) #[] cap] w fun e w'=>
  e= .returned (.func (.func 127) #[] #[.pointer (some ⟨n+2,0,none⟩),.pointer (some ⟨n,0,none⟩),.pointer (some ⟨n+1,0,none⟩)])∧w'.heap.size=n+3∧Below w.heap.size w w'∧
  w'.heap[n]?=some (.cells #[.func (.func fk) #[] cap] 77 (0,0))∧w'.heap[n+1]?=some (.cells #[.int .i64 0] 3 (0,0))∧w'.heap[n+2]?=some (.cells #[.bool false] 4 (0,0)):=by
 subst hn
 obtain⟨w3,hw3⟩:∃w3,w3=((w.alloc (.cells #[.func (.func fk) #[] cap] 77)).alloc (.cells #[.int .i64 0] 3)).alloc (.cells #[.bool false] 4):=⟨_,rfl⟩
 have HE:=Lib.hid (show w3.heap.size=w.heap.size+3∧Below w.heap.size w w3∧w3.heap[w.heap.size]?=some (.cells #[.func (.func fk) #[] cap] 77 (0,0))∧w3.heap[w.heap.size+1]?=some (.cells #[.int .i64 0] 3 (0,0))∧w3.heap[w.heap.size+2]?=some (.cells #[.bool false] 4 (0,0))from by
  rw[hw3]
  exact⟨by simp,(((Below.refl _ _).alloc (Nat.le_refl _) _).alloc (by simp) _).alloc (by simp;omega) _,heap_up6 (heap_up6 (heap_top6 _ _ rfl) _) _,heap_up6 (heap_top6 _ _ (by rw[World.size_alloc])) _,heap_top6 _ _ (by simp only[World.size_alloc])⟩)
 obtain⟨W2,hW2⟩:∃W2,W2=(w.alloc (.cells #[.func (.func fk) #[] cap] 77)).alloc (.cells #[.int .i64 0] 3):=⟨_,rfl⟩
 have hs2:W2.heap.size=w.heap.size+1+1:=by rw[hW2];simp
 have n0:(W2.alloc (.cells #[.bool false] 4)).cell? ⟨w.heap.size+1+1,0,none⟩=some (.bool false):=by rw[←hs2];exact Dw.new_cell W2 #[.bool false] _ 0
 have n1:(W2.alloc (.cells #[.bool false] 4)).frozen? ⟨w.heap.size+1+1,0,none⟩=false:=by
  rw[←hs2]
  unfold World.frozen?
  rw[World.alloc_heap_new]
  rfl
 have n2:(W2.alloc (.cells #[.bool false] 4)).setCell ⟨w.heap.size+1+1,0,none⟩ (.bool false)=w3:=by
  rw[←hs2,alloc_set,hw3,←hW2]
  rfl
 rw[hW2]at n0 n1 n2
 clear hW2 hs2 hw3
 go_enter Tryz.func71,Tryz.ntmps71
 go_wp2_with fail
 go_ret
 exact⟨rfl,HE.out⟩
set_option maxRecDepth 100000 in
set_option maxHeartbeats 1000000 in
theorem later_str (w:World)(n:Nat)(hn:w.heap.size=n)(fk:Nat)(cap:Array Value):Calls Tryz.prog 74 #[.func (.func fk) #[] cap] w fun e w'=>
  e= .returned (.func (.func 129) #[] #[.pointer (some ⟨n+2,0,none⟩),.pointer (some ⟨n,0,none⟩),.pointer (some ⟨n+1,0,none⟩)])∧w'.heap.size=n+3∧Below w.heap.size w w'∧
  w'.heap[n]?=some (.cells #[.func (.func fk) #[] cap] 129 (0,0))∧w'.heap[n+1]?=some (.cells #[.string ⟨#[]⟩] 9 (0,0))∧w'.heap[n+2]?=some (.cells #[.bool false] 4 (0,0)):=by
 subst hn
 obtain⟨w3,hw3⟩:∃w3,w3=((w.alloc (.cells #[.func (.func fk) #[] cap] 129)).alloc (.cells #[.string ⟨#[]⟩] 9)).alloc (.cells #[.bool false] 4):=⟨_,rfl⟩
 have HE:=Lib.hid (show w3.heap.size=w.heap.size+3∧Below w.heap.size w w3∧w3.heap[w.heap.size]?=some (.cells #[.func (.func fk) #[] cap] 129 (0,0))∧w3.heap[w.heap.size+1]?=some (.cells #[.string ⟨#[]⟩] 9 (0,0))∧w3.heap[w.heap.size+2]?=some (.cells #[.bool false] 4 (0,0))from by
  rw[hw3]
  exact⟨by simp,(((Below.refl _ _).alloc (Nat.le_refl _) _).alloc (by simp) _).alloc (by simp;omega) _,heap_up6 (heap_up6 (heap_top6 _ _ rfl) _) _,heap_up6 (heap_top6 _ _ (by rw[World.size_alloc])) _,heap_top6 _ _ (by simp only[World.size_alloc])⟩)
 obtain⟨W2,hW2⟩:∃W2,W2=(w.alloc (.cells #[.func (.func fk) #[] cap] 129)).alloc (.cells #[.string ⟨#[]⟩] 9):=⟨_,rfl⟩
 have hs2:W2.heap.size=w.heap.size+1+1:=by rw[hW2];simp
 have n0:(W2.alloc (.cells #[.bool false] 4)).cell? ⟨w.heap.size+1+1,0,none⟩=some (.bool false):=by rw[←hs2];exact Dw.new_cell W2 #[.bool false] _ 0
 have n1:(W2.alloc (.cells #[.bool false] 4)).frozen? ⟨w.heap.size+1+1,0,none⟩=false:=by
  rw[←hs2]
  unfold World.frozen?
  rw[World.alloc_heap_new]
  rfl
 have n2:(W2.alloc (.cells #[.bool false] 4)).setCell ⟨w.heap.size+1+1,0,none⟩ (.bool false)=w3:=by
  rw[←hs2,alloc_set,hw3,←hW2]
  rfl
 rw[hW2]at n0 n1 n2
 clear hW2 hs2 hw3
 go_enter Tryz.func74,Tryz.ntmps74
 go_wp2_with fail
 go_ret
 exact⟨rfl,HE.out⟩
theorem box_laid (w:World)(n:Nat)(hn:w.heap.size=n)(t:TypeId)(v:Value):(w.alloc (.cells #[.nilFunc] t)).cell? ⟨n,0,none⟩=some .nilFunc∧(w.alloc (.cells #[.nilFunc] t)).frozen? ⟨n,0,none⟩=false∧(w.alloc (.cells #[.nilFunc] t)).setCell ⟨n,0,none⟩ v=w.alloc (.cells #[v] t):=by
 subst hn
 refine⟨Dw.new_cell w #[.nilFunc] _ 0,?_,?_⟩
 ·unfold World.frozen?
  rw[World.alloc_heap_new]
  rfl
 ·rw[alloc_set]
  rfl
set_option maxRecDepth 100000 in
set_option maxHeartbeats 1000000 in
theorem checks_dict (w:World)(N p:Nat)(hN:w.heap.size=N)(s:ByteArray)(K:Int)(S:ByteArray):Calls Tryz.prog 35 #[.pointer (some ⟨p,0,none⟩),.string s] w fun e w'=>
  e= .returned (.slice (some ⟨N+10,0,none⟩) 4 4)∧Ck w w' N p s K S:=by
 obtain⟨W2,hW2⟩:∃W2,W2=(w.alloc (.cells #[.pointer (some ⟨p,0,none⟩)] 27)).alloc (.cells #[.string s] 9):=⟨_,rfl⟩
 have hs2:W2.heap.size=N+2:=by rw[hW2];simp[hN]
 have hb2:Below w.heap.size w W2:=by rw[hW2];exact((Below.refl _ _).alloc (Nat.le_refl _) _).alloc (by simp) _
 have q0:W2.heap[N]?=some (.cells #[.pointer (some ⟨p,0,none⟩)] 27 (0,0)):=by rw[hW2];exact heap_up6 (heap_top6 _ _ hN) _
 have q1:W2.heap[N+1]?=some (.cells #[.string s] 9 (0,0)):=by rw[hW2];exact heap_top6 _ _ (by rw[World.size_alloc,hN])
 have C1:=Lib.hid (show Calls Tryz.prog 71 #[.func (.func 72) #[] #[.pointer (some ⟨N,0,none⟩),.pointer (some ⟨N+1,0,none⟩)]] W2 fun e w'=>
  e= .returned (.func (.func 127) #[] #[.pointer (some ⟨N+4,0,none⟩),.pointer (some ⟨N+2,0,none⟩),.pointer (some ⟨N+3,0,none⟩)])∧w'.heap.size=N+5∧Below W2.heap.size W2 w'∧
  w'.heap[N+2]?=some (.cells #[.func (.func 72) #[] #[.pointer (some ⟨N,0,none⟩),.pointer (some ⟨N+1,0,none⟩)]] 77 (0,0))∧w'.heap[N+3]?=some (.cells #[.int .i64 0] 3 (0,0))∧w'.heap[N+4]?=some (.cells #[.bool false] 4 (0,0))from
  later_int W2 (N+2) hs2 72 #[.pointer (some ⟨N,0,none⟩),.pointer (some ⟨N+1,0,none⟩)])
 have HQ:=Lib.hid (And.intro q0 (And.intro q1 (And.intro hb2 (And.intro hs2 hN))))
 clear q0 q1 hb2 hs2
 go_enter Tryz.func35,Tryz.ntmps35
 go_upto_region 1 with fail
 rw[←hW2]
 clear hW2 hN
 go_upto_region 2 with(go_at_call 71;refine C1.out.mono ?_;rintro e w3 ⟨rfl,hs3,hr⟩;obtain⟨n0,n1,n2⟩:=box_laid w3 (N+5) hs3 77 (.func (.func 127) #[] #[.pointer (some ⟨N+4,0,none⟩),.pointer (some ⟨N+2,0,none⟩),.pointer (some ⟨N+3,0,none⟩)]);have H3:=Lib.hid (And.intro hs3 hr);clear hr)
 obtain⟨W4,hW4⟩:∃W4,W4=w3.alloc (.cells #[.func (.func 127) #[] #[.pointer (some ⟨N+4,0,none⟩),.pointer (some ⟨N+2,0,none⟩),.pointer (some ⟨N+3,0,none⟩)]] 77):=⟨_,rfl⟩
 rw[←hW4]
 have hs4:W4.heap.size=N+6:=by rw[hW4,World.size_alloc,H3.out.1]
 have C2:=Lib.hid (show Calls Tryz.prog 74 #[.func (.func 75) #[] #[.pointer (some ⟨N,0,none⟩),.pointer (some ⟨N+1,0,none⟩)]] W4 fun e w'=>
  e= .returned (.func (.func 129) #[] #[.pointer (some ⟨N+8,0,none⟩),.pointer (some ⟨N+6,0,none⟩),.pointer (some ⟨N+7,0,none⟩)])∧w'.heap.size=N+9∧Below W4.heap.size W4 w'∧
  w'.heap[N+6]?=some (.cells #[.func (.func 75) #[] #[.pointer (some ⟨N,0,none⟩),.pointer (some ⟨N+1,0,none⟩)]] 129 (0,0))∧w'.heap[N+7]?=some (.cells #[.string ⟨#[]⟩] 9 (0,0))∧w'.heap[N+8]?=some (.cells #[.bool false] 4 (0,0))from
  later_str W4 (N+6) hs4 75 #[.pointer (some ⟨N,0,none⟩),.pointer (some ⟨N+1,0,none⟩)])
 have H4:=Lib.hid (show W4.heap.size=N+6∧Below W2.heap.size W2 W4∧W4.heap[N+2]?=w3.heap[N+2]?∧W4.heap[N+3]?=w3.heap[N+3]?∧W4.heap[N+4]?=w3.heap[N+4]?∧W4.heap[N+5]?=some (.cells #[.func (.func 127) #[] #[.pointer (some ⟨N+4,0,none⟩),.pointer (some ⟨N+2,0,none⟩),.pointer (some ⟨N+3,0,none⟩)]] 77 (0,0))from by
  have hs3:=H3.out.1
  rw[hW4]
  exact⟨by rw[World.size_alloc,hs3],H3.out.2.1.alloc H3.out.2.1.size _,Below.heap_alloc _ _ _ (by omega),Below.heap_alloc _ _ _ (by omega),Below.heap_alloc _ _ _ (by omega),heap_top6 _ _ hs3⟩)
 clear hs3 hs4 n0 n1 n2 hW4 C1
 go_upto_region 3 with(go_at_call 74;refine C2.out.mono ?_;rintro e w5 ⟨rfl,hs5,hr⟩;obtain⟨n0,n1,n2⟩:=box_laid w5 (N+9) hs5 129 (.func (.func 129) #[] #[.pointer (some ⟨N+8,0,none⟩),.pointer (some ⟨N+6,0,none⟩),.pointer (some ⟨N+7,0,none⟩)]);have H5:=Lib.hid (And.intro hs5 hr);clear hr)
 obtain⟨W6,hW6⟩:∃W6,W6=w5.alloc (.cells #[.func (.func 129) #[] #[.pointer (some ⟨N+8,0,none⟩),.pointer (some ⟨N+6,0,none⟩),.pointer (some ⟨N+7,0,none⟩)]] 129):=⟨_,rfl⟩
 rw[←hW6]
 have hs6:W6.heap.size=N+10:=by rw[hW6,World.size_alloc,H5.out.1]
 have HF:=Lib.hid (show Ck w (W6.alloc (.cells (askRow N) 26)) N p s K S from by
  obtain⟨k1,k2,k3,k4,k5⟩:=HQ.out
  obtain⟨r1,r2,r3,r4,r5⟩:=H3.out
  obtain⟨s1,s2,s3,s4,s5,s6⟩:=H4.out
  obtain⟨t1,t2,t3,t4,t5⟩:=H5.out
  have hb56:Below w5.heap.size w5 (W6.alloc (.cells (askRow N) 26)):=by rw[hW6];exact((Below.refl _ _).alloc (Nat.le_refl _) _).alloc (by simp) _
  have hb4:Below W4.heap.size W4 (W6.alloc (.cells (askRow N) 26)):=t2.trans (hb56.mono (by omega))
  have hb2':Below W2.heap.size W2 (W6.alloc (.cells (askRow N) 26)):=s2.trans (hb4.mono (by omega))
  have up4:∀k,k<N+6→(W6.alloc (.cells (askRow N) 26)).heap[k]?=W4.heap[k]?:=fun k hk=>hb4.block k (by omega)
  have up5:∀k,k<N+9→(W6.alloc (.cells (askRow N) 26)).heap[k]?=w5.heap[k]?:=fun k hk=>hb56.block k (by omega)
  refine⟨(hb2'.block N (by omega)).trans k1,(hb2'.block (N+1) (by omega)).trans k2,(up4 _ (by omega)).trans (s3.trans r3),⟨false,0,by simp,(up4 _ (by omega)).trans (s4.trans r4),(up4 _ (by omega)).trans (s5.trans r5)⟩,(up4 _ (by omega)).trans s6,(up5 _ (by omega)).trans t3,⟨false,_,by simp,(up5 _ (by omega)).trans t4,(up5 _ (by omega)).trans t5⟩,?_,heap_top6 _ _ hs6,?_⟩
  ·rw[hW6];exact heap_up6 (heap_top6 _ _ t1) _
  ·rw[k5]at k3;exact k3.trans (hb2'.mono (by omega)))
 unfold askRow at HF
 clear hs5 n0 n1 n2 hW6 C2 HQ H3 H4 H5
 go_wp2_with fail
 go_ret
 exact⟨rfl,HF.out⟩
set_option maxRecDepth 100000 in
set_option maxHeartbeats 1000000 in
theorem has_dict (w:World)(p:Nat)(d:Di)(h:DictAt w p d)(hT:Fo.TU w)(s:ByteArray)(hs:s.size≤100000000):
  Calls Tryz.prog 12 #[.pointer (some ⟨p,0,none⟩),.string s] w fun e w'=>e= .returned (.bool (hasD d s.data.toList))∧Below w.heap.size w w':=by
 obtain⟨N,hN⟩:∃N,N=w.heap.size:=⟨_,rfl⟩
 obtain⟨K,hK⟩:∃K,K=shapeT d.pairs s.data.toList:=⟨_,rfl⟩
 obtain⟨S,hS⟩:∃S,S=textB (smallD d s.data.toList):=⟨_,rfl⟩
 have hL:Lang w N p s d K S:=⟨h,hN.symm,hT,hs,hK,hS⟩
 have hans:hasD d s.data.toList=(isD d s.data.toList||(decide (K=1)&&isD d S.data.toList)||(decide (K=2)&&isD d S.data.toList)||(decide (K=2)&&isD d (titleT d.pairs S.data.toList))):=by
  rw[hK,hS,textB_list];rfl
 have C0:=Lib.hid (checks_dict w N p hN.symm s K S)
 obtain⟨A0,hA0⟩:∃b,b=isD d s.data.toList:=⟨_,rfl⟩
 obtain⟨A1,hA1⟩:∃b,b=(decide (K=1)&&isD d S.data.toList):=⟨_,rfl⟩
 obtain⟨A2,hA2⟩:∃b,b=(decide (K=2)&&isD d S.data.toList):=⟨_,rfl⟩
 obtain⟨A3,hA3⟩:∃b,b=(decide (K=2)&&isD d (titleT d.pairs S.data.toList)):=⟨_,rfl⟩
 rw[←hA0,←hA1,←hA2,←hA3]at hans
 rw[hans]
 have HA:=Lib.hid (show∀wx,Ck w wx N p s K S→
   Calls Tryz.prog 76 #[.pointer (some ⟨N,0,none⟩),.pointer (some ⟨N+1,0,none⟩)] wx (fun e w'=>e= .returned (.bool A0)∧Ck w w' N p s K S)∧
   Calls Tryz.prog 77 #[.pointer (some ⟨N+5,0,none⟩),.pointer (some ⟨N,0,none⟩),.pointer (some ⟨N+9,0,none⟩)] wx (fun e w'=>e= .returned (.bool A1)∧Ck w w' N p s K S)∧
   Calls Tryz.prog 78 #[.pointer (some ⟨N+5,0,none⟩),.pointer (some ⟨N,0,none⟩),.pointer (some ⟨N+9,0,none⟩)] wx (fun e w'=>e= .returned (.bool A2)∧Ck w w' N p s K S)∧
   Calls Tryz.prog 79 #[.pointer (some ⟨N+5,0,none⟩),.pointer (some ⟨N,0,none⟩),.pointer (some ⟨N+9,0,none⟩)] wx (fun e w'=>e= .returned (.bool A3)∧Ck w w' N p s K S)from fun wx hx=>by
  rw[hA0,hA1,hA2,hA3]
  exact⟨ask3 hL hx,ask4 hL hx,ask5 hL hx,ask6 hL hx⟩)
 have HNN:=Lib.hid hN
 clear hans hA0 hA1 hA2 hA3 hK hS hL h hT hs hN
 go_enter Tryz.func12,Tryz.ntmps12
 go_wp2_with (go_at_call 35;refine C0.out.mono ?_;rintro e w1 ⟨rfl,hk1⟩;have H1:=Lib.hid hk1;clear hk1)
 go_loopg [11] 4 (fun gh y wr=>∃k:Nat,k+gh=4∧y= .int .i64 k∧Hid (Ck w wr N p s K S∧(0<k→A0=false)∧(1<k→A1=false)∧(2<k→A2=false)∧(3<k→A3=false)))
 case atStart=>exact⟨0,rfl,rfl,Lib.hid ⟨H1.out,by simp,by simp,by simp,by simp⟩⟩
 case round=>
  obtain⟨k,hk,rfl,HM⟩:=hrel
  obtain⟨hA0,hA1,hA2,hA3⟩:=HM.out.2
  have hcs:k=0∨k=1∨k=2∨k=3∨k=4:=by omega
  rcases hcs with rfl|rfl|rfl|rfl|rfl
  ·
   have b:=HM.out.1.b10
   have x0:wr.cell? ⟨N+10,0,none⟩=some (.func (.func 76) #[] #[.pointer (some ⟨N,0,none⟩),.pointer (some ⟨N+1,0,none⟩)]):=by unfold askRow at b;simp[World.cell?,b]
   have C:=Lib.hid (HA.out wr HM.out.1).1
   clear b
   cases A0 with
   | true=>
     go_wp2_with (go_at_call 76;refine C.out.mono ?_;rintro e w2 ⟨rfl,hk2⟩;have H2:=Lib.hid hk2;clear hk2)
     go_ret
     exact⟨ret_bool (by simp),by rw[←HNN.out];exact H2.out.below⟩
   | false=>
     go_wp2_with (go_at_call 76;refine C.out.mono ?_;rintro e w2 ⟨rfl,hk2⟩;have H2:=Lib.hid hk2;clear hk2)
     go_roundg (gk-1)
     case measure=>omega
     case rel=>exact⟨1,by omega,by go_num,Lib.hid ⟨H2.out,by simp,fun h=>absurd h (by decide),fun h=>absurd h (by decide),fun h=>absurd h (by decide)⟩⟩
  ·
   have b:=HM.out.1.b10
   have x1:wr.cell? ⟨N+10,1,none⟩=some (.func (.func 77) #[] #[.pointer (some ⟨N+5,0,none⟩),.pointer (some ⟨N,0,none⟩),.pointer (some ⟨N+9,0,none⟩)]):=by unfold askRow at b;simp[World.cell?,b]
   have C:=Lib.hid (HA.out wr HM.out.1).2.1
   clear b
   cases A1 with
   | true=>
     go_wp2_with (go_at_call 77;refine C.out.mono ?_;rintro e w2 ⟨rfl,hk2⟩;have H2:=Lib.hid hk2;clear hk2)
     go_ret
     exact⟨ret_bool (by simp),by rw[←HNN.out];exact H2.out.below⟩
   | false=>
     go_wp2_with (go_at_call 77;refine C.out.mono ?_;rintro e w2 ⟨rfl,hk2⟩;have H2:=Lib.hid hk2;clear hk2)
     go_roundg (gk-1)
     case measure=>omega
     case rel=>exact⟨2,by omega,by go_num,Lib.hid ⟨H2.out,fun _=>hA0 (by decide),by simp,fun h=>absurd h (by decide),fun h=>absurd h (by decide)⟩⟩
  ·
   have b:=HM.out.1.b10
   have x2:wr.cell? ⟨N+10,2,none⟩=some (.func (.func 78) #[] #[.pointer (some ⟨N+5,0,none⟩),.pointer (some ⟨N,0,none⟩),.pointer (some ⟨N+9,0,none⟩)]):=by unfold askRow at b;simp[World.cell?,b]
   have C:=Lib.hid (HA.out wr HM.out.1).2.2.1
   clear b
   cases A2 with
   | true=>
     go_wp2_with (go_at_call 78;refine C.out.mono ?_;rintro e w2 ⟨rfl,hk2⟩;have H2:=Lib.hid hk2;clear hk2)
     go_ret
     exact⟨ret_bool (by simp),by rw[←HNN.out];exact H2.out.below⟩
   | false=>
     go_wp2_with (go_at_call 78;refine C.out.mono ?_;rintro e w2 ⟨rfl,hk2⟩;have H2:=Lib.hid hk2;clear hk2)
     go_roundg (gk-1)
     case measure=>omega
     case rel=>exact⟨3,by omega,by go_num,Lib.hid ⟨H2.out,fun _=>hA0 (by decide),fun _=>hA1 (by decide),by simp,fun h=>absurd h (by decide)⟩⟩
  ·
   have b:=HM.out.1.b10
   have x3:wr.cell? ⟨N+10,3,none⟩=some (.func (.func 79) #[] #[.pointer (some ⟨N+5,0,none⟩),.pointer (some ⟨N,0,none⟩),.pointer (some ⟨N+9,0,none⟩)]):=by unfold askRow at b;simp[World.cell?,b]
   have C:=Lib.hid (HA.out wr HM.out.1).2.2.2
   clear b
   cases A3 with
   | true=>
     go_wp2_with (go_at_call 79;refine C.out.mono ?_;rintro e w2 ⟨rfl,hk2⟩;have H2:=Lib.hid hk2;clear hk2)
     go_ret
     exact⟨ret_bool (by simp),by rw[←HNN.out];exact H2.out.below⟩
   | false=>
     go_wp2_with (go_at_call 79;refine C.out.mono ?_;rintro e w2 ⟨rfl,hk2⟩;have H2:=Lib.hid hk2;clear hk2)
     go_roundg (gk-1)
     case measure=>omega
     case rel=>exact⟨4,by omega,by go_num,Lib.hid ⟨H2.out,fun _=>hA0 (by decide),fun _=>hA1 (by decide),fun _=>hA2 (by decide),by simp⟩⟩
  ·have e0:=hA0 (by decide)
   have e1:=hA1 (by decide)
   have e2:=hA2 (by decide)
   have e3:=hA3 (by decide)
   subst e0 e1 e2 e3
   go_wp2_with fail
   go_ret
   exact⟨ret_bool (by simp),by rw[←HNN.out];exact HM.out.1.below⟩
theorem forms_any (w:World)(p:Nat)(d:Di)(h:DictAt w p d):Calls Tryz.prog 19 #[.pointer (some ⟨p,0,none⟩)] w fun e w'=>∃v,e= .returned v∧w'.ownsRow w.heap.size 9 1 v d.forms.length (d.forms.map Value.string)∧Below w.heap.size w w':=by
 obtain⟨q,g,st,A,cap,h1,-,-,h4,h5⟩:=h.prs
 refine(Dw.forms_dict w p q g st (bytesD d) h1 h4 h5.start (fun x hx=>?_) ?_).mono ?_
 ·obtain⟨y,hy,rfl⟩:=List.mem_map.1 hx
  have h2:=h.forms.2.2 y hy
  have h3:y.data.toList.length=y.size:=(Lib.size_eq y).symm
  omega
 ·unfold bytesD
  rw[List.length_map]
  have:=h.forms.2.1
  omega
 ·rintro e w' ⟨v,he,h2,h3⟩
  refine⟨v,he,?_,h3⟩
  have e1:(bytesD d).length=d.forms.length:=by unfold bytesD;rw[List.length_map]
  have e2:((bytesD d).map fun x=>(⟨x.toArray⟩:ByteArray))=d.forms:=by
   unfold bytesD
   rw[List.map_map]
   exact(List.map_congr_left fun x _=>textB_back x).trans (List.map_id _)
  rw[e1,e2]at h2
  exact h2
set_option maxRecDepth 100000 in
theorem auto_any (w:World)(p:Nat)(d:Di)(h:DictAt w p d):Calls Tryz.prog 22 #[.pointer (some ⟨p,0,none⟩)] w fun e w'=>(∃q g st,e= .returned (.pointer (some ⟨q,0,none⟩))∧Dw.AutoAt w q g st∧Dw.AutoOf g st (bytesD d))∧w'=w:=by
 obtain⟨q,g,st,A,cap,h1,-,-,h4,h5⟩:=h.prs
 have HH:=Lib.hid (And.intro h4 h5)
 clear h4 h5 h
 go_enter Tryz.func22,Tryz.ntmps22
 go_wp2_with fail
 go_ret
 exact⟨⟨q,g,st,rfl,HH.out⟩,rfl⟩
theorem new_yes (w:World)(fa fl:ByteArray)(hfa:fa.size≤1000000000)(hfl:fl.size≤1000000000)(hT:Tabs9 w){d:Di}(h:newD fa fl=(some d,0,0,0)):
  Calls Tryz.prog 10 #[.agg #[.string fa,.string fl]] w fun e w'=>∃p,e= .returned (.tuple #[.pointer (some ⟨p,0,none⟩),.int .i64 0,.int .i64 0,.int .i64 0])∧DictAt w' p d∧Below w.heap.size w w':=by
 refine(new_any w fa fl hfa hfl hT).mono ?_
 rintro e w' ⟨⟨h1,-⟩|⟨d',p,h1,h2,h3⟩,hb⟩
 ·rw[h]at h1;cases h1
 ·rw[h]at h1
  obtain rfl:d=d':=Option.some.inj (Prod.mk.inj h1).1
  exact⟨p,h2,h3,hb⟩
theorem new_no (w:World)(fa fl:ByteArray)(hfa:fa.size≤1000000000)(hfl:fl.size≤1000000000)(hT:Tabs9 w){i ln:Nat}{c:Int}(h:newD fa fl=(none,i,ln,c)):
  Calls Tryz.prog 10 #[.agg #[.string fa,.string fl]] w fun e w'=>e= .returned (.tuple #[.pointer none,.int .i64 i,.int .i64 ln,.int .i64 c])∧Below w.heap.size w w':=by
 refine(new_any w fa fl hfa hfl hT).mono ?_
 rintro e w' ⟨⟨-,h1⟩|⟨d',p,h1,-⟩,hb⟩
 ·rw[h]at h1;exact⟨h1,hb⟩
 ·rw[h]at h1;cases h1
end Go.Proofs.YtfehpcbmdancoaaGreatDoor
namespace Go.Proofs.YtfehpcbmdancoaaGreatDoor
open Go Go.RowKit Go.Lib
structure Lg (w0 w:World)(p:Nat)(d:Di):Prop where
 at_:DictAt w p d
 tabs:Fo.TU w
 below:Below w0.heap.size w0 w
theorem Lg.keep {w0 w w':World}{p:Nat}{d:Di}(h:Lg w0 w p d)(hb:Below w.heap.size w w'):Lg w0 w' p d:=⟨h.at_.keep hb,tabs_below h.tabs hb,h.below.trans (hb.mono h.below.size)⟩
theorem Lg.has {w0 w:World}{p:Nat}{d:Di}(h:Lg w0 w p d){s:ByteArray}{b:Bool}(hs:s.size≤100000000)(e:hasD d s.data.toList=b):Calls Tryz.prog 12 #[.pointer (some ⟨p,0,none⟩),.string s] w fun e w'=>e= .returned (.bool b)∧Below w.heap.size w w':=by
 have:=has_dict w p d h.at_ h.tabs s hs
 rwa[e]at this
theorem Lg.is {w0 w:World}{p:Nat}{d:Di}(h:Lg w0 w p d){s:ByteArray}{b:Bool}(hs:s.size≤100000000)(e:isD d s.data.toList=b):Calls Tryz.prog 14 #[.pointer (some ⟨p,0,none⟩),.string s] w fun e w'=>e= .returned (.bool b)∧Below w.heap.size w w':=by
 have:=is_dict w p d h.at_ s (by omega)
 rwa[e]at this
theorem Lg.auto {w0 w:World}{p:Nat}{d:Di}(h:Lg w0 w p d):Calls Tryz.prog 22 #[.pointer (some ⟨p,0,none⟩)] w fun e w'=>∃q,e= .returned (.pointer (some ⟨q,0,none⟩))∧Hid (∃g st,Dw.AutoAt w q g st∧Dw.AutoOf g st (bytesD d))∧w'=w:=by
 refine(auto_any w p d h.at_).mono ?_
 rintro e w' ⟨⟨q,g,st,h1,h2,h3⟩,h4⟩
 exact⟨q,h1,Lib.hid ⟨g,st,h2,h3⟩,h4⟩
theorem Lg.forms {w0 w:World}{p:Nat}{d:Di}(h:Lg w0 w p d){n:Nat}(hn:d.forms.length=n):Calls Tryz.prog 19 #[.pointer (some ⟨p,0,none⟩)] w fun e w'=>∃A cap,e= .returned (.slice A n cap)∧Hid (w'.ownsRow w.heap.size 9 1 (.slice A n cap) n (d.forms.map Value.string))∧Below w.heap.size w w':=by
 subst hn
 refine(forms_any w p d h.at_).mono ?_
 rintro e w' ⟨v,h1,h2,h3⟩
 obtain⟨A,cap,rfl⟩:=Dw.row_shape h2
 exact⟨A,cap,h1,Lib.hid h2,h3⟩
theorem new_lg {w0 w:World}(fa fl:ByteArray)(hfa:fa.size≤1000000000)(hfl:fl.size≤1000000000)(hT:Tabs9 w)(hb0:Below w0.heap.size w0 w){d:Di}(h:newD fa fl=(some d,0,0,0)):
  Calls Tryz.prog 10 #[.agg #[.string fa,.string fl]] w fun e w'=>∃p,e= .returned (.tuple #[.pointer (some ⟨p,0,none⟩),.int .i64 0,.int .i64 0,.int .i64 0])∧Lg w0 w' p d∧Below w.heap.size w w':=by
 refine(new_yes w fa fl hfa hfl hT h).mono ?_
 rintro e w' ⟨p,h1,h2,h3⟩
 exact⟨p,h1,⟨h2,tabs_below hT h3,hb0.trans (h3.mono hb0.size)⟩,h3⟩
def dParis:Di:=⟨[⟨#[80,97,114,105,115]⟩],[]⟩
theorem newParis:newD ⟨#[]⟩ ⟨#[80,97,114,105,115,10]⟩=(some dParis,0,0,0):=by decide +kernel
set_option maxRecDepth 100000 in
set_option maxHeartbeats 1000000 in
theorem awake16_any (w:World)(hT:Tabs9 w):Calls Tryz.prog 9 #[] w fun e w'=>e= .returned (.bool true)∧Below w.heap.size w w':=by
 have CN:=Lib.hid (new_lg (w0:=w) ⟨#[]⟩ ⟨#[80,97,114,105,115,10]⟩ (by decide) (by decide) hT (Below.refl _ _) newParis)
 clear hT
 go_enter Tryz.func9,Tryz.ntmps9
 go_wp2_with fail
 refine CN.out.mono ?_
 rintro e w1 ⟨p,rfl,hl,hb⟩
 have H1:=Lib.hid hl
 clear hl hb
 go_wp2_with fail
 refine(H1.out.has (b:=true) (by decide) (by decide +kernel)).mono ?_
 rintro e w2 ⟨rfl,hb⟩
 have H2:=Lib.hid (H1.out.keep hb)
 clear hb
 go_wp2_with fail
 refine(H2.out.has (b:=true) (by decide) (by decide +kernel)).mono ?_
 rintro e w3 ⟨rfl,hb⟩
 have H3:=Lib.hid (H2.out.keep hb)
 clear hb
 go_wp2_with fail
 refine(H3.out.has (b:=false) (by decide) (by decide +kernel)).mono ?_
 rintro e w4 ⟨rfl,hb⟩
 have H4:=Lib.hid (H3.out.keep hb)
 clear hb
 go_wp2_with fail
 refine H4.out.auto.mono ?_
 rintro e w5 ⟨q,rfl,-,rfl⟩
 go_wp2_with fail
 refine(H4.out.forms (n:=1) rfl).mono ?_
 rintro e w6 ⟨A,cap,rfl,-,hb⟩
 have H6:=Lib.hid (H4.out.keep hb)
 clear hb
 go_wp2_with fail
 go_ret
 exact⟨rfl,H6.out.below⟩
end Go.Proofs.YtfehpcbmdancoaaGreatDoor
