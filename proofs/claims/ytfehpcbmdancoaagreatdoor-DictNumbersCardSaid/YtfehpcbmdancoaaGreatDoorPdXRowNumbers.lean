/- For every input: DictNumbers returns true and leaves its arguments as they were. Conditions: the row's own; the tables unicode/utf8.first and acceptRanges are laid as the card ties them. -/
import Derived.Test.YtfehpcbmdancoaaGreatDoorRows
import Derived.ProofKit
import Derived.Deep.Strs
import Derived.Deep.Slices
import Derived.Carry
import Derived.OpenShut
import Derived.Test.YtfehpcbmdancoaaGreatDoorPdPbNPlain
import Derived.Test.YtfehpcbmdancoaaGreatDoorPdPbQFrame
import Derived.Test.YtfehpcbmdancoaaGreatDoorPdXNumF
set_option maxRecDepth 100000
set_option maxHeartbeats 4000000
namespace Go.Proofs.YtfehpcbmdancoaaGreatDoor
open Go Go.Shelf Go.ChangeShapes Go.WideShapes Go.ChangeAt Go.RowKit Go.Lib
theorem Tryz.own:ownKnob Tryz.prog.godebug=none:=by kernel_rfl
theorem r_spot {w:World}{a:Addr}{n:Nat}{x:Value}(h:w.cell? (a.add n)=some x)(h0:∃y,w.cell? a=some y):∃b off,a=⟨b,off,none⟩∧b<w.heap.size∧∀j,a.add j=⟨b,off+j,none⟩:=by
 obtain⟨b,off,spot⟩:=a;obtain⟨y,hy⟩:=h0;have hspot:spot=none:=World.cell?_spot hy;subst hspot;exact⟨b,off,rfl,World.block_lt_of_cell? w _ hy,fun j=>by unfold Addr.add;split<;>simp_all⟩
theorem Tryz.cellsR3:Tryz.prog.cellsOf 3=1:=by kernel_rfl
theorem z_ints {H:Type}{enc:TypeId×Value→H}{W:World}{fuel:Nat}{v:Value}{x:DataW H×List MemPlace}
  (hf:DataW.trod enc Tryz.prog W 0 (fun _=>true) true fuel 42 [v]=some x):∃cs:List Int,IntsAt W v cs∧∀c∈cs,In64 c:=by
 rcases open_ints Tryz.underlying42 Tryz.underlying3 Tryz.cellsR3 hf with ⟨hcs,_⟩|⟨a,len,cap,zs,hcs,_,hl,hm,hz,_,hcell,hwf⟩
 ·obtain rfl:v= .slice none 0 0:=by simpa using hcs
  exact⟨[],.inl ⟨rfl,_,_,rfl⟩,fun c h=>by cases h⟩
 ·obtain rfl:v= .slice (some a) len cap:=by simpa using hcs
  simp only[if_true]at hz;by_cases h0:len=0
  ·subst h0;exact⟨[],.inl ⟨rfl,_,_,rfl⟩,fun c h=>by cases h⟩
  ·have hc0:=hcell 0 (by omega);obtain⟨b,off,rfl,hb,hadd⟩:=r_spot (a:=a) hc0 ⟨_,by simpa[Addr.add]using hc0⟩;have hlen:(zs.take len).length=len:=by rw[List.length_take];omega
   refine⟨zs.take len,.inr ⟨b,off,cap,by rw[hlen],hb,by omega,hm,fun i c hi=>?_⟩,fun c hc=>bounds_i64 (hwf c (List.mem_of_mem_take hc))⟩;rw[List.getElem?_take]at hi;split at hi
   ·have hil:=(List.getElem?_eq_some_iff.1 hi).1;rw[←hadd,hcell i hil,List.getD,hi];rfl
   ·cases hi
theorem open_numsZ {H:Type}{enc:TypeId×Value→H}{W:World}{base:Nat}{v:Value}{d:DataW H}{ps:List MemPlace}
  (hval:Value.okWide Tryz.prog W .any base 42 v) (h:DataW.Trod enc Tryz.prog W 0 (fun _=>true) true 42 v d ps):∃cs:List Int,IntsAt W v cs∧∀c∈cs,In64 c:=by
 obtain⟨A,n,cap,rfl⟩:=okWide_slice Tryz.underlying42 hval;obtain⟨fuel,hf⟩:=h;have hcl:(Value.slice A n cap).cells.toList=[.slice A n cap]:=by simp[Value.cells]
 rw[hcl]at hf;exact z_ints hf
theorem dictnumbers_witness (os:Os){H:Type}(enc:TypeId×Value→H):
  (OpenSpec.ofChange Rows.dictNumbersSpec).preRow enc Tryz.prog Tryz.f4 Rows.dictNumbersRow.domain false Rows.dictNumbersRow.laid ((laidWorld os).forCall (fun _ _=>0) ⟨#[],#[.int .i64 0,.slice none 0 0,.slice none 0 0],[]⟩).memory #[.int .i64 0,.slice none 0 0,.slice none 0 0]:=by
 have hw:(DataW.whole enc Tryz.prog ((laidWorld os).forCall (fun _ _=>0) ⟨#[],#[.int .i64 0,.slice none 0 0,.slice none 0 0],[]⟩).memory Tryz.f4.params.toList (OpenSpec.ofChange Rows.dictNumbersSpec).vars false (#[.int .i64 0,.slice none 0 0,.slice none 0 0]:Array Value).toList 8).map (fun x=>(x.1,x.2.1))=
  some ([.lit (.int .i64 0),.nil,.nil],[]):=by kernel_rfl
 obtain⟨⟨x1,x2,x3⟩,hx,hx1⟩:=Option.map_eq_some_iff.1 hw;simp only[Prod.mk.injEq]at hx1;obtain⟨rfl,rfl⟩:=hx1;exact OpenSpec.preRow_of_cond 8 hx (by kernel_rfl) (fun k hk=>by cases hk) (by kernel_rfl) (laid_met os _)
theorem dictnumbers_lifted (os:Os)(started:os.Started)(H:Type)(enc:TypeId×Value→H)(F:Stop.Interp):
  ReturnsInHanded {} Tryz.checked os 4 .any ((OpenSpec.ofChange Rows.dictNumbersSpec).preRow enc Tryz.prog Tryz.f4 Rows.dictNumbersRow.domain false Rows.dictNumbersRow.laid) (((OpenSpec.ofChange Rows.dictNumbersSpec).at F).post enc Tryz.prog Tryz.f4 false true false false):=by
 refine returnsInHanded_of_row (C:=Tryz.checked) (s:=OpenSpec.ofChange Rows.dictNumbersSpec) Tryz.own started (by kernel_rfl) Tryz.func4
  (witness_row_atRef (enc:=enc) (C:=Tryz.checked) false (laidWorld os) #[.int .i64 0,.slice none 0 0,.slice none 0 0] rfl (by kernel_rfl) (by kernel_rfl) (by kernel_rfl) (dictnumbers_witness os enc)) ?_
 intro W base args ds gs before hval0 hW _ _ _ hL _ _;have hval:∀(j:Nat) t v,Tryz.f4.params[j]?=some t→args[j]?=some v→Value.okWide Tryz.prog W .any base t v:=hval0;have hW':=hW;obtain⟨p,q,hA0,hV0,rfl,_,_⟩:=hW;have hA:DataW.TrodAll enc Tryz.prog W 0 (fun _=>true) true Tryz.f4.params.toList args.toList ds p:=hA0;rw[Tryz.params4]at hA hval;obtain⟨v0,v1,v2,d0,d1,d2,p0,p1,p2,rfl,rfl,rfl,h0,h1,h2⟩:=trodAll_three hA;obtain⟨rfl,rfl⟩:=trodVars_none hV0;obtain⟨y0,rfl,rfl,rfl,wy0⟩:=open_int Tryz.underlying3 (hval 0 3 v0 rfl rfl) h0;have b0:=bounds_i64 wy0;obtain⟨l1,hl1,-⟩:=open_numsZ (hval 1 42 v1 rfl rfl) h1;have hlt1:∀x∈p1,x.block<W.heap.size:=fun x hx=>by simpa using hW'.lt x (by simp[hx])
 obtain⟨l2,hl2,-⟩:=open_numsZ (hval 2 42 v2 rfl rfl) h2;have hlt2:∀x∈p2,x.block<W.heap.size:=fun x hx=>by simpa using hW'.lt x (by simp[hx])
 clear hA0 hV0 hval0;have htab:Tabs9 W:=tabs_of_laid hL;refine(num16_law W htab y0 v1 v2 l1 l2 hl1 hl2).mono ?_;rintro e W' ⟨rfl,bel⟩;have harg1:DataW.Trod enc Tryz.prog W' 0 (fun b=>decide (b<W.heap.size)) true 42 v1 d1 p1:=
  Below.trod Tryz.laidOut (by kernel_rfl) (of_decide_eq_true (by kernel_rfl)) h1 bel hlt1
 have harg2:DataW.Trod enc Tryz.prog W' 0 (fun b=>decide (b<W.heap.size)) true 42 v2 d2 p2:=
  Below.trod Tryz.laidOut (by kernel_rfl) (of_decide_eq_true (by kernel_rfl)) h2 bel hlt2
 have e1:((OpenSpec.ofChange Rows.dictNumbersSpec).at F).fn H ([.lit (.int .i64 y0),d1,d2]++[])={ results:=[.lit (.bool true)],args:=[.lit (.int .i64 y0),d1,d2] }:=rfl;refine⟨_,rfl,_,_,_,[],[]++(p1++p2),[],hW',?_,?_,?_,bel.frame _,fun h=>by cases h⟩
 ·rw[e1];exact trodAll_mk1 (shut_bool Tryz.underlying4 _)
 ·rw[e1];exact trodAll_mk3 (shut_int Tryz.underlying3 wy0) harg1 harg2
 ·rw[e1];rfl
theorem dictnumbers_row:Rows.DictNumbersSaid:=
 OpenClaim.holds_of_cond 4 Tryz.f4 rfl rfl rfl rfl rfl rfl rfl ⟨rfl,rfl,rfl,rfl,rfl⟩ rfl rfl rfl rfl rfl (by kernel_rfl) Tryz.func4 (by kernel_rfl)
  (of_decide_eq_true (by kernel_rfl)) (by unfold Func.isWrapper;rw[if_neg (of_decide_eq_false (by kernel_rfl))];exact⟨rfl,rfl⟩)
  (fun os started H enc _ F0=>by rw[OpenClaim.pre_eq_preRow];exact dictnumbers_lifted os started H enc F0)
theorem dictnumbers_card:Rows.DictNumbersCardSaid:=
 Claim7.holds_tied_plain_at .later [] [.data,.pinned] true (true,"23cdd88ae7dd9283ea00caf079ac3489d2efaea85f59dc3271d13caf31abc8e6") false
  dictnumbers_row (fun _ h=>by cases h) (by kernel_rfl) (fun _ h=>by cases h) dictNumbers_row_tie rfl ⟨rfl,rfl⟩ (by kernel_rfl) rfl
  (fun f fn hf hfn=>by
   obtain rfl:f=4:=Option.some.inj ((show Tryz.prog.funcNamed "abecedary/abecedarylaw16.DictNumbers" =some 4 by kernel_rfl).symm.trans hf) |>.symm;obtain rfl:fn=Tryz.f4:=(Option.some.inj (Tryz.func4.symm.trans hfn)).symm;exact⟨by kernel_rfl,fun j t ht=>by
    rw[Tryz.params4]at ht;have h3:t=3∨t=42:=by
     rcases j with _|_|_|j
     ·left;simpa using ht.symm
     ·right;simpa using ht.symm
     ·right;simpa using ht.symm
     ·simp at ht
    rcases h3 with rfl|rfl
    ·exact(show Tryz.prog.wantsStandIn 3=false by kernel_rfl)
    ·exact(show Tryz.prog.wantsStandIn 42=false by kernel_rfl)⟩)
  (by kernel_rfl)
end Go.Proofs.YtfehpcbmdancoaaGreatDoor
