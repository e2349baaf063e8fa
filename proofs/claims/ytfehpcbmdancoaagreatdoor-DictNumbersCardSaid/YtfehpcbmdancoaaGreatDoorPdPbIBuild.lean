/- dawg.Build by contract: too long, too many, or the automaton of the words. -/
import Derived.Lib.RowBridge
import Derived.Test.YtfehpcbmdancoaaGreatDoorPdPbIState
import Derived.Test.YtfehpcbmdancoaaGreatDoorPdPbShelf
set_option maxRecDepth 100000
set_option maxHeartbeats 2000000
namespace Go.Proofs.YtfehpcbmdancoaaGreatDoor.Dw
open Go Go.RowKit Go.Lib Go.Shelf Go.Sort
theorem toolong_any (w:World)(s:ByteArray):Calls Tryz.prog 60 #[.string s] w fun e w'=>e= .returned (.bool (decide (200<s.size)))∧w'=w:=by
 obtain⟨R,hR⟩:∃R,R=decide (200<s.size):=⟨_,rfl⟩;rw[←hR];have HR:=hid hR;clear hR;by_cases h:200<s.size
 ·obtain rfl:R=true:=by rw[HR.out];exact decide_eq_true h
  have h':(200:Int)<s.size:=by omega
  go_enter Tryz.func60,Tryz.ntmps60;go_wp2;go_ret;exact⟨rfl,rfl⟩
 ·obtain rfl:R=false:=by rw[HR.out];exact decide_eq_false h
  have h':¬(200:Int)<s.size:=by omega
  go_enter Tryz.func60,Tryz.ntmps60;go_wp2;go_ret;exact⟨rfl,rfl⟩
def longL (l:List ByteArray):Bool:=l.any fun s=>decide (200<s.size)
theorem ret_bool {a b:Bool}(h:a=b):Ending.returned (.bool a)=Ending.returned (.bool b):=by rw[h]
theorem ixf_any (w:World)(v:Value)(l:List ByteArray)(h:StrsAt w v l):
  Calls Tryz.prog 113 #[v,.func (.func 60) #[] #[]] w fun e w'=>(∃r:Int,e= .returned (.int .i64 r)∧decide (0≤r)=longL l)∧Below w.heap.size w w':=by
 have hbd:=strs_bd h;obtain⟨B,cB,rfl⟩:=strs_form h;obtain⟨m,hm⟩:∃m,m=l.length:=⟨_,rfl⟩;rw[←hm]at h hbd⊢;have HP:=hid (strs_open h);have HM:=hid hm;have CT:=hid toolong_any;clear h hm;go_enter Tryz.func113,Tryz.ntmps113;go_wp2_with fail;go_loopg [5,8] m (fun g _s5 i wr=>∃k:Nat,k+g=m∧i= .int .i64 k∧Hid (Below w.heap.size w wr∧longL (l.take k)=false))
 case atStart=>exact⟨0,by omega,rfl,hid ⟨Below.refl _ _,by simp[longL]⟩⟩
 case round=>
  obtain⟨k,hk,rfl,HK⟩:=hrel;have hk0:(0:Int)≤k:=by omega
  rcases Nat.eq_zero_or_pos gk with h0|h0
  ·have hkm:¬(k:Int)<m:=by omega
   have HF:=hid (show longL l=false by
    have h:=HK.out.2;rwa[List.take_of_length_le (by have:=HM.out;omega)]at h)
   go_wp2_with fail;go_ret;exact⟨⟨_,rfl,by rw[HF.out];rfl⟩,HK.out.1⟩
  ·have hkm:(k:Int)<m:=by omega
   obtain⟨s,hs⟩:∃s,l[k]?=some s:=⟨_,List.getElem?_eq_getElem (by have:=HM.out;omega)⟩;obtain⟨b,off,rfl,hb,hc,e0⟩:=HP.out k s hs;have f0:=(HK.out.1.cell (p:=⟨b,off+k,none⟩) hb).trans e0;have hm1:(m:Int)≤cB:=by omega
   have C1:=hid (CT.out wr s);have HS:=hid hs;clear e0 hb hc hs;by_cases hz:200<s.size
   ·have C2:=hid (decide_eq_true hz▸C1.out);have HI2:=hid (show longL l=true by
     unfold longL;rw[List.any_eq_true];exact⟨s,List.mem_of_getElem? HS.out,decide_eq_true hz⟩)
    clear hz C1;go_wp2_with (go_at_call 60;refine C2.out.mono ?_;rintro e w2 ⟨rfl,rfl⟩);go_ret;exact⟨⟨_,rfl,by rw[HI2.out];exact decide_eq_true (by omega)⟩,HK.out.1⟩
   ·have C2:=hid (decide_eq_false hz▸C1.out);have HI2:=hid (show longL (l.take (k+1))=false by
     have h:=HK.out.2;unfold longL at h⊢;rw[List.take_add_one,HS.out,List.any_append,h];simp;omega)
    clear hz C1;go_wp2_with (go_at_call 60;refine C2.out.mono ?_;rintro e w2 ⟨rfl,rfl⟩);go_roundg (gk-1)
    case measure=>omega
    case rel=>exact⟨k+1,by omega,by go_num,hid ⟨HK.out.1,HI2.out⟩⟩
theorem cof_any (w:World)(v:Value)(l:List ByteArray)(h:StrsAt w v l):
  Calls Tryz.prog 59 #[v,.func (.func 60) #[] #[]] w fun e w'=>e= .returned (.bool (longL l))∧Below w.heap.size w w':=by
 have C:=hid (ixf_any w v l h);obtain⟨B,cB,rfl⟩:=strs_form h;obtain⟨m,hm⟩:∃m,m=l.length:=⟨_,rfl⟩;rw[←hm]at C⊢;clear h hm;go_enter Tryz.func59,Tryz.ntmps59;go_wp2_with (go_at_call 113;refine C.out.mono ?_;rintro e w1 ⟨⟨r,rfl,hr⟩,hb⟩;have HR:=hid hr;have HB:=hid hb;clear hr hb);go_ret;exact⟨ret_bool HR.out,HB.out⟩
theorem compact_up {d:Array (List UInt8)}(h:∀i j,i≤j→j<d.size→d[i]! ≤d[j]!):∀m,m≤d.size→(compactUpTo d m).Pairwise (· < ·)∧(∀x,x∈compactUpTo d m↔∃j,j<m∧d[j]! =x)
 | 0,_=>⟨by simp[compactUpTo],fun x=>by simp[compactUpTo]⟩
 | m+1,hm=>by
   obtain⟨h1,h2⟩:=compact_up h m (by omega);rw[compactUpTo_succ];by_cases hk:keeps d m=true
   ·rw[if_pos hk];have hk':m=0∨d[m]! ≠d[m-1]! :=of_decide_eq_true hk;refine⟨List.pairwise_append.2 ⟨h1,by simp,fun x hx y hy=>?_⟩,fun x=>?_⟩
    ·simp at hy;subst hy;obtain⟨j,hj,rfl⟩:=(h2 x).1 hx;rcases hk' with e|e
     ·omega
     ·have l1:=h j (m-1) (by omega) (by omega);have l2:=h (m-1) m (by omega) (by omega);rcases Classical.em (d[m-1]! <d[m]!)with h3|h3
      ·exact List.lt_of_le_of_lt l1 h3
      ·exact absurd (List.le_antisymm (List.not_lt.1 h3) l2) e
    ·rw[List.mem_append,h2,List.mem_singleton];constructor
     ·rintro (⟨j,hj,e⟩|e)
      ·exact⟨j,by omega,e⟩
      ·exact⟨m,by omega,e.symm⟩
     ·rintro⟨j,hj,e⟩;by_cases ej:j=m
      ·subst ej;exact .inr e.symm
      ·exact .inl ⟨j,by omega,e⟩
   ·rw[if_neg hk,List.append_nil];have hk':¬(m=0∨d[m]! ≠d[m-1]!):=fun hh=>hk (decide_eq_true hh);have hm0:m≠0:=fun e=>hk' (.inl e);have he:d[m]! =d[m-1]! :=Classical.byContradiction fun e=>hk' (.inr e);refine⟨h1,fun x=>?_⟩;rw[h2];constructor
    ·rintro⟨j,hj,e⟩;exact⟨j,by omega,e⟩
    ·rintro⟨j,hj,e⟩;by_cases ej:j=m
     ·subst ej;exact⟨j-1,by omega,by rw[←he];exact e⟩
     ·exact⟨j,by omega,e⟩
def encs (l:List ByteArray):List (List UInt8):=l.map fun s=>s.data.toList
theorem once_list (ss:List (List UInt8)):∃l:List ByteArray,Rising l∧encs l=compact (ss.mergeSort fun x y=>decide (x≤y))∧l.length≤ss.length∧∀x:ByteArray,x∈l↔x.data.toList∈ss:=by
 obtain⟨zs,hzs⟩:∃zs,zs=ss.mergeSort fun x y=>decide (x≤y):=⟨_,rfl⟩;have hsorted:zs.Pairwise (· ≤·):=by
  have h1:=List.pairwise_mergeSort (le:=fun x y:List UInt8=>decide (x≤y)) (fun a b c hab hbc=>by simp only[decide_eq_true_eq]at *;exact List.le_trans hab hbc) (fun a b=>by simp only[Bool.or_eq_true,decide_eq_true_eq];exact List.le_total a b) ss;rw[hzs];exact h1.imp fun hab=>of_decide_eq_true hab
 have hmono:∀i j,i≤j→j<zs.toArray.size→zs.toArray[i]! ≤zs.toArray[j]! :=fun i j hij hj=>by
  have hj':j<zs.length:=by simpa using hj
  have e1:zs.toArray[i]! =zs[i]'(by omega):=by rw[getElem!_pos _ i (by simp;omega)];simp
  have e2:zs.toArray[j]! =zs[j]'hj':=by rw[getElem!_pos _ j hj];simp
  rw[e1,e2];rcases Nat.eq_or_lt_of_le hij with rfl|hlt
  ·exact List.le_refl _
  ·exact List.pairwise_iff_getElem.1 hsorted i j (by omega) hj' hlt
 obtain⟨h1,h2⟩:=compact_up hmono zs.length (by simp);have hc:compact zs=compactUpTo zs.toArray zs.length:=rfl;rw[←hzs];refine⟨(compact zs).map fun x=>⟨x.toArray⟩,?_,by unfold encs;rw[List.map_map];exact List.map_id _,?_,fun x=>?_⟩
 ·unfold Rising;rw[List.pairwise_map,hc];exact h1
 ·rw[List.length_map];refine Nat.le_trans (compact_length_le zs) ?_;rw[hzs,List.length_mergeSort];exact Nat.le_refl _
 ·rw[List.mem_map,hc];have hmem:∀y,y∈zs↔y∈ss:=fun y=>by rw[hzs];exact(List.mergeSort_perm ss _).mem_iff
  constructor
  ·rintro⟨y,hy,rfl⟩;obtain⟨j,hj,e⟩:=(h2 y).1 hy;rw[←hmem];show y.toArray.toList∈zs;rw[List.toList_toArray,←e,getElem!_pos _ j (by simpa using hj)];simp
  ·intro hx;rw[←hmem]at hx;obtain⟨j,hj,e⟩:=List.getElem_of_mem hx;refine⟨x.data.toList,(h2 _).2 ⟨j,hj,?_⟩,by simp⟩;rw[getElem!_pos _ j (by simpa using hj)];simpa using e
theorem only_growS {T:Nat→Prop}(w:World)(os:Array Obj):OnlyAt T w (grow w os):=
 ⟨rfl,rfl,rfl,by simp[grow],fun k hk _=>by show (w.heap++os)[k]?=_;rw[Array.getElem?_append_left hk]⟩
theorem only_putRowS {α:Type}[Inhabited α](enc:α→Value)(w:World)(blk off:Nat)(d:Array α):OnlyAt (· =blk) w (putRow enc w blk off d):=by
 refine⟨rfl,rfl,rfl,by simp[putRow,mapBlock],fun k hk hn=>?_⟩;simp[putRow,mapBlock,Array.getElem?_modify];intro e;exact absurd e.symm hn
theorem only_aheadS {T:Nat→Prop}(w:World)(n:Nat):OnlyAt T w (Sort.ahead w n):=⟨rfl,rfl,rfl,Nat.le_refl _,fun _ _ _=>rfl⟩
theorem holds_ahead {w:World}{blk off n:Nat}{d:Array (List UInt8)}(h:Holds encStr w blk off d):Holds encStr (Sort.ahead w n) blk off d:=h
theorem holds_growS {w:World}{blk off:Nat}{d:Array (List UInt8)}{os:Array Obj}(h:Holds encStr w blk off d)(hb:blk<w.heap.size):Holds encStr (grow w os) blk off d:=by
 have e:(grow w os).heap[blk]?=w.heap[blk]?:=by show (w.heap++os)[blk]?=_;rw[Array.getElem?_append_left hb]
 intro j hj;obtain⟨h1,h2⟩:=h j hj;exact⟨by rw[←h1];unfold World.cell?;dsimp only;rw[e],by rw[←h2];unfold World.frozen?;dsimp only;rw[e]⟩
theorem clone_nil (w:World)(A:Option Addr)(cap:Nat):Calls Tryz.prog 61 #[.slice A 0 cap] w fun e w'=>∃A' c',e= .returned (.slice A' 0 c')∧Below w.heap.size w w':=by
 cases A with
 | none=>
   refine(Tryz.slices_Clone_string_nil 0 cap w).mono ?_;rintro e w' ⟨rfl,rfl⟩;exact⟨_,_,rfl,Below.refl _ _⟩
 | some a=>
   refine(Tryz.slices_Clone_string_zero a cap w).mono ?_;rintro e w' ⟨v',rfl,ho,-,hb⟩;obtain⟨A',c',rfl⟩:=row_shape ho;exact⟨_,_,rfl,hb⟩
theorem encs_str (l:List ByteArray):(encs l).map encStr=l.map Value.string:=by
 unfold encs;rw[List.map_map];apply List.map_congr_left;intro s _;show Value.string ⟨s.data.toList.toArray⟩= .string s;rw[Array.toArray_toList]
theorem row_holds {w:World}{B n:Nat}{v:Value}{l:List ByteArray}(h:w.ownsRow B 9 1 v n (l.map Value.string))(hn:0<n):∃g cap,v= .slice (some ⟨g,0,none⟩) n cap∧B≤g∧g<w.heap.size∧n≤cap∧cap≤maxLen∧n=l.length∧Holds encStr w g 0 (encs l).toArray:=by
 have hl:l.length=n*1:=by have:=h.1;rwa[List.length_map]at this
 obtain⟨g,cap,e,k1,k2,k3,k4⟩:=own_open9 h hn;refine⟨g,cap,e,(h.lt g (by rw[e];rfl)).1,k1,k2,k3,by omega,fun j hj=>?_⟩;have hj':j<(encs l).length:=by simpa using hj
 have hf:w.frozen? ⟨g,0+j,none⟩=false:=by
  rcases h.2 with ⟨e',_⟩|⟨g',cap',cur,e',_,hg,_⟩
  ·rw[e]at e';cases e'
  ·rw[e]at e';cases e';simp[World.frozen?,hg]
 refine⟨?_,hf⟩;rw[Nat.zero_add];refine k4 j _ ?_;rw[←encs_str,List.getElem?_map,getElem!_pos _ j hj];simp
theorem holds_strs {w:World}{g cap:Nat}{l:List ByteArray}{zs:List (List UInt8)}(h:Holds encStr w g 0 zs.toArray)(hp:∃r,zs=encs l++r)(_hl:0<l.length)(hc:l.length≤cap)(hm:cap≤maxLen)(hg:g<w.heap.size):StrsAt w (.slice (some ⟨g,0,none⟩) l.length cap) l:=by
 obtain⟨r,rfl⟩:=hp;refine .inr ⟨g,0,cap,rfl,hg,hc,hm,fun i s hs=>?_⟩;have hi:=(List.getElem?_eq_some_iff.1 hs).1;have hi':i<(encs l++r).toArray.size:=by simp[encs];omega
 have h1:=(h i hi').1;rw[h1,getElem!_pos _ i hi'];have:(encs l++r).toArray[i]'hi'=s.data.toList:=by
  have e1:(encs l++r)[i]?=some s.data.toList:=by rw[List.getElem?_append_left (by simp[encs];exact hi)];unfold encs;rw[List.getElem?_map,hs];rfl
  obtain⟨_,e2⟩:=List.getElem?_eq_some_iff.1 e1;simpa using e2
 rw[this]
def BuildE (e:Ending)(w':World)(l:List ByteArray):Prop:=
 (longL l=true∧e= .returned (.tuple #[.pointer none,.int .i64 3]))∨(longL l=false∧∃(m:List ByteArray) (p:Nat) (g:GA) (st:Nat),e= .returned (.tuple #[.pointer (some ⟨p,0,none⟩),.int .i64 0])∧Rising m∧(∀x,x∈m↔x∈l)∧AutoAt w' p g st∧AutoOf g st (m.map (tailD 0)))
theorem build_any (w:World)(v:Value)(l:List ByteArray)(h:StrsAt w v l)(hl:l.length≤20000):
  Calls Tryz.prog 31 #[v] w fun e w'=>BuildE e w' l∧Below w.heap.size w w':=by
 have CC:=hid (cof_any w v l h);obtain⟨A,cap,rfl⟩:=strs_form h;obtain⟨n,hn⟩:∃n,n=l.length:=⟨_,rfl⟩;rw[←hn]at h CC⊢;have H:=hid (And.intro h (And.intro hl hn));clear h hl hn;cases hL:longL l with
 | true=>
   rw[hL]at CC;have HL:=hid hL;clear hL;go_enter Tryz.func31,Tryz.ntmps31;go_wp2_with (go_at_call 59;refine CC.out.mono ?_;rintro e w1 ⟨rfl,hb⟩;have HB:=hid hb;clear hb);go_ret2;exact⟨.inl ⟨HL.out,rfl⟩,HB.out⟩
 | false=>
   rw[hL]at CC;have HL:=hid hL;clear hL;by_cases hz:n=0
   ·subst hz;have he:l=[]:=List.eq_nil_of_length_eq_zero H.out.2.2.symm;subst he;have CB:=hid (fun wx A' c'=>built_any wx (.slice A' 0 c') [] (.inl ⟨rfl,_,_,rfl⟩) List.Pairwise.nil (Nat.zero_le _) (fun _ h=>by cases h));have CL:=hid clone_nil;have CSo:=hid Tryz.slices_Sort_string_none;have CCo:=hid Tryz.slices_Compact_string_empty;go_enter Tryz.func31,Tryz.ntmps31;go_wp2_with (first
     | (go_at_call 59;refine CC.out.mono ?_;rintro e w1 ⟨rfl,hb⟩;have HB:=hid hb;clear hb)
     | (go_at_call 61;refine(CL.out _ _ _).mono ?_;rintro e w2 ⟨A',c',rfl,hb⟩;have HB2:=hid hb;clear hb)
     | (go_at_call 62;refine(CSo.out _ _ _).mono ?_;rintro e w3 ⟨rfl,rfl⟩)
     | (go_at_call 63;refine(CCo.out _ _ _).mono ?_;rintro e w4 ⟨rfl,rfl⟩)
     | (go_at_call 64;refine(CB.out _ _ _).mono ?_;rintro e w5 ⟨p,g,st,rfl,hr⟩;have HR:=hid hr;clear hr))
    go_ret2;obtain⟨r1,r2,r3⟩:=HR.out;exact⟨.inr ⟨HL.out,[],p,g,st,rfl,List.Pairwise.nil,fun _=>Iff.rfl,r1,r2⟩,HB.out.trans ((HB2.out.mono HB.out.size).trans (r3.mono (by have:=HB.out.size;have:=HB2.out.size;omega)))⟩
   ·obtain⟨h0,hl0,hn0⟩:=H.out;obtain⟨m,hm1,hm2,hm3,hm4⟩:=once_list (encs l);have hel:(encs l).length=n:=by unfold encs;rw[List.length_map,hn0]
    rw[hel]at hm3;have hmem:∀x,x∈m↔x∈l:=fun x=>by
     rw[hm4];unfold encs;rw[List.mem_map];constructor
     ·rintro⟨y,hy,e⟩;have e2:y.data=x.data:=Array.toList_inj.1 e;obtain rfl:y=x:=by cases y;cases x;simp at e2;rw[e2]
      exact hy
     ·intro hx;exact⟨x,hx,rfl⟩
    have hm0:0<m.length:=by
     cases l with
     | nil=>simp at hn0;exact absurd hn0 hz
     | cons y l'=>
       have:=(hmem y).2 (List.mem_cons_self ..);exact List.length_pos_of_mem this
    obtain⟨k,hk⟩:∃k,k=m.length:=⟨_,rfl⟩;have hcl:(compact ((encs l).mergeSort fun x y=>decide (x≤y))).length=k:=by rw[←hm2,hk];unfold encs;rw[List.length_map]
    have hzl:((encs l).mergeSort fun x y=>decide (x≤y)).length=n:=by rw[List.length_mergeSort,hel]
    have hsz:∀s∈m,s.size≤200:=fun s hs=>by
     have h1:=HL.out;unfold longL at h1;rw[List.any_eq_false]at h1;have:=h1 s ((hmem s).1 hs);simpa using this
    have CL:=hid (show∀wx,Below w.heap.size w wx→Calls Tryz.prog 61 #[.slice A n cap] wx fun e w'=>∃g c',e= .returned (.slice (some ⟨g,0,none⟩) n c')∧Hid (Holds encStr w' g 0 (encs l).toArray∧w.heap.size≤g∧g<w'.heap.size∧n≤c'∧c'≤maxLen∧Below w.heap.size w w')from fun wx hb=>by
     rcases h0.keep hb with ⟨e,_⟩|⟨b,off,c,e,k1,k2,k3,k4⟩
     ·rw[e]at hn0;exact absurd hn0 hz
     ·injection e with e1 e2 e3;subst e1 e3;refine(Tryz.slices_Clone_string b off n cap l wx (by omega) (by omega) (fun j hj=>by
       rw[k4 j _ (List.getElem?_eq_getElem hj),List.getD_eq_getElem?_getD,List.getElem?_eq_getElem hj];rfl)).mono ?_
      rintro e w' ⟨v',rfl,ho,-,hb2⟩;rw[List.take_of_length_le (by omega)]at ho;obtain⟨g,c',rfl,r1,r2,r3,r4,-,r5⟩:=row_holds ho (by omega);exact⟨g,c',rfl,hid ⟨r5,Nat.le_trans hb.size r1,r2,r3,r4,hb.trans (hb2.mono hb.size)⟩⟩)
    have CSo:=hid (show∀wx g c',(Holds encStr wx g 0 (encs l).toArray∧w.heap.size≤g∧g<wx.heap.size∧n≤c'∧c'≤maxLen∧Below w.heap.size w wx)→Calls Tryz.prog 62 #[.slice (some ⟨g,0,none⟩) n c'] wx fun e w'=>e= .returned (.tuple #[])∧Hid (Holds encStr w' g 0 ((encs l).mergeSort fun x y=>decide (x≤y)).toArray∧w.heap.size≤g∧g<w'.heap.size∧n≤c'∧c'≤maxLen∧Below w.heap.size w w')from fun wx g c' hf=>by
     obtain⟨f1,f2,f3,f4,f5,f6⟩:=hf;have hc:=Tryz.slices_Sort_string g 0 c' (encs l) wx f1 f3 (by omega);rw[hel]at hc;refine hc.mono ?_;rintro e w' ⟨rfl,q,os,rfl⟩;have ho:OnlyAt (· =g) wx (grow (putRow encStr (Sort.ahead wx q) g 0 ((encs l).mergeSort fun x y=>decide (x≤y)).toArray) os):=(only_aheadS wx q).trans ((only_putRowS _ _ _ _ _).trans (only_growS _ _));have h1:=holds_putRow encStr (Sort.ahead wx q) g 0 (encs l).toArray ((encs l).mergeSort fun x y=>decide (x≤y)).toArray (Sort.holds_ahead _ _ _ _ _ _ f1) (by simp);exact⟨rfl,hid ⟨holds_growS h1 (by have:=((only_aheadS (T:=(· =g)) wx q).trans (only_putRowS encStr (Sort.ahead wx q) g 0 ((encs l).mergeSort fun x y=>decide (x≤y)).toArray)).size;omega),f2,by have:=ho.size;omega,f4,f5,OnlyAt.below f6 ho f6.size (fun z hz'=>by omega)⟩⟩)
    have CCo:=hid (show∀wx g c',(Holds encStr wx g 0 ((encs l).mergeSort fun x y=>decide (x≤y)).toArray∧w.heap.size≤g∧g<wx.heap.size∧n≤c'∧c'≤maxLen∧Below w.heap.size w wx)→Calls Tryz.prog 63 #[.slice (some ⟨g,0,none⟩) n c'] wx fun e w'=>e= .returned (.slice (some ⟨g,0,none⟩) k c')∧Hid (StrsAt w' (.slice (some ⟨g,0,none⟩) k c') m∧Below w.heap.size w w')from fun wx g c' hf=>by
     obtain⟨f1,f2,f3,f4,f5,f6⟩:=hf;have hc:=Tryz.slices_Compact_string g 0 c' ((encs l).mergeSort fun x y=>decide (x≤y)) wx f1 (by omega) (by omega);rw[hzl,hcl]at hc;refine hc.mono ?_;rintro e w' ⟨rfl,q,rfl⟩;have ho:=(only_aheadS (T:=(· =g)) wx q).trans (only_putRowS encStr (Sort.ahead wx q) g 0 (compact ((encs l).mergeSort fun x y=>decide (x≤y))++List.replicate (n-k) []).toArray);have h1:=holds_putRow encStr (Sort.ahead wx q) g 0 ((encs l).mergeSort fun x y=>decide (x≤y)).toArray (compact ((encs l).mergeSort fun x y=>decide (x≤y))++List.replicate (n-k) []).toArray (Sort.holds_ahead _ _ _ _ _ _ f1) (by rw[List.size_toArray,List.size_toArray,List.length_append,List.length_replicate,hcl,hzl];omega);have h2:=holds_strs (l:=m) (cap:=c') h1 ⟨_,by rw[hm2]⟩ hm0 (by omega) f5 (by have:=ho.size;omega);rw[←hk]at h2;exact⟨rfl,hid ⟨h2,OnlyAt.below f6 ho f6.size (fun z hz'=>by omega)⟩⟩)
    have CB:=hid (fun wx v hv=>built_any wx v m hv hm1 (by omega) hsz);have HM:=hid (And.intro hm1 hmem);have hk2:¬(20000:Int)<k:=by omega
    clear h0 hl0 hn0 hm1 hm2 hm3 hm4 hel hmem hm0 hk hcl hzl hsz hz;go_enter Tryz.func31,Tryz.ntmps31;go_wp2_with (first
     | (go_at_call 59;refine CC.out.mono ?_;rintro e w1 ⟨rfl,hb⟩;have HB:=hid hb;clear hb)
     | (go_at_call 61;refine(CL.out _ HB.out).mono ?_;rintro e w2 ⟨g,c',rfl,HB2⟩)
     | (go_at_call 62;refine(CSo.out _ _ _ HB2.out).mono ?_;rintro e w3 ⟨rfl,HB3⟩)
     | (go_at_call 63;refine(CCo.out _ _ _ HB3.out).mono ?_;rintro e w4 ⟨rfl,HB4⟩)
     | (go_at_call 64;refine(CB.out _ _ HB4.out.1).mono ?_;rintro e w5 ⟨p,g',st,rfl,hr⟩;have HR:=hid hr;clear hr))
    go_ret2;obtain⟨r1,r2,r3⟩:=HR.out;exact⟨.inr ⟨HL.out,m,p,g',st,rfl,HM.out.1,HM.out.2,r1,r2⟩,HB4.out.2.trans (r3.mono HB4.out.2.size)⟩
end Go.Proofs.YtfehpcbmdancoaaGreatDoor.Dw
