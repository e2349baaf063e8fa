/- Lists by numbers: abecedarylaw00.List by contract; what such a list reads as. -/
import Derived.Deep.CutRange
import Derived.Deep.DeepCutAuto
import Derived.Test.YtfehpcbmdancoaaGreatDoorPdPbNPlain
import Derived.Test.YtfehpcbmdancoaaGreatDoorPdPbORows
import Derived.Test.YtfehpcbmdancoaaGreatDoorPdPbPWords
import Derived.Test.YtfehpcbmdancoaaGreatDoorPdPbYState
import Derived.Test.YtfehpcbmdancoaaGreatDoorPdPbZRef
set_option maxRecDepth 100000
set_option maxHeartbeats 1000000
namespace Go.Proofs.YtfehpcbmdancoaaGreatDoor
open Go Go.RowKit Go.Lib
def wordsB:List ByteArray:=[⟨#[99,97,116]⟩,⟨#[100,111,103]⟩,⟨#[99,105,116,121]⟩,⟨#[100,111]⟩,⟨#[100,111,110,101]⟩,⟨#[80,97,114,105,115]⟩,⟨#[105,116,39,115]⟩,⟨#[104,111,112,101]⟩,⟨#[109,97,107,101]⟩,⟨#[116,97,112]⟩,⟨#[116,111,112]⟩,⟨#[116,111,112,115]⟩,⟨#[116,97,112,115]⟩,⟨#[98,101]⟩,⟨#[195,150,108]⟩,⟨#[195,182,100,101]⟩,⟨#[78,65,84,79]⟩,⟨#[97]⟩,⟨#[114,117,110]⟩,⟨#[114,117,110,115]⟩,⟨#[116,114,121]⟩,⟨#[116,114,105,101,115]⟩,⟨#[104,111,117,115,101]⟩,⟨#[109,111,117,115,101]⟩]
def sixB:List ByteArray:=[⟨#[83]⟩,⟨#[85]⟩,⟨#[83,85]⟩,⟨#[68]⟩,⟨#[82,83]⟩,⟨#[84]⟩]
def wordQ (i:Nat):ByteArray:=wordsB.getD i ⟨#[]⟩
def flB (i:Nat):ByteArray:=sixB.getD i ⟨#[]⟩
def item3 (a b c:Nat):List UInt8:=(wordQ a).data.toList++(if 0<b then 47::(flB c).data.toList else [])
def itemL (k:Nat):List UInt8:=item3 (k%24) (k/24%3) (k/72%6)
def listL (ks:List Nat):List UInt8:=((ks.map itemL).map fun l=>l++[10]).flatten
def keys (l:List Int):List Nat:=(l.take 30).map fun x=>(x%1048576).toNat
theorem word_size:∀a:Fin 24,(wordQ a.1).size≤5:=by decide
theorem fl_size:∀a:Fin 6,(flB a.1).size≤2:=by decide
theorem item3_ok:∀(a:Fin 24) (b:Fin 3) (c:Fin 6),(entryL (item3 a.1 b.1 c.1)).isSome=true∧(10:UInt8) ∉ item3 a.1 b.1 c.1∧(item3 a.1 b.1 c.1).length≤8:=by decide +kernel
theorem itemL_ok (k:Nat):(entryL (itemL k)).isSome=true∧(10:UInt8) ∉ itemL k∧(itemL k).length≤8:=
 item3_ok ⟨k%24,Nat.mod_lt _ (by decide)⟩ ⟨k/24%3,Nat.mod_lt _ (by decide)⟩ ⟨k/72%6,Nat.mod_lt _ (by decide)⟩
theorem keys_len (l:List Int):(keys l).length=min 30 l.length:=by unfold keys;rw[List.length_map,List.length_take]
theorem listL_len:∀ks:List Nat,(listL ks).length≤9*ks.length
 | []=>Nat.le_refl _
 | k::ks=>by
   have ih:=listL_len ks;have h:=(itemL_ok k).2.2;show (itemL k++[10]++listL ks).length≤9*(ks.length+1);rw[List.length_append,List.length_append];show _+1+_≤_;omega
theorem listL_lines (ks:List Nat):linesL (listL ks)=ks.map itemL:=
 linesL_flat _ fun l hl=>by
  obtain⟨k,_,rfl⟩:=List.mem_map.1 hl;exact(itemL_ok k).2.1
theorem items_es:∀ks:List Nat,(esOf (ks.map itemL)).length=ks.length
 | []=>rfl
 | k::ks=>by
   have ih:=items_es ks;obtain⟨e,he⟩:=Option.isSome_iff_exists.1 (itemL_ok k).1;unfold esOf at ih⊢;rw[List.map_cons,List.filterMap_cons,he,List.length_cons,List.length_cons,ih]
theorem items_good (ks:List Nat):∀l∈ks.map itemL,noneL l=false:=fun l hl=>by
 obtain⟨k,_,rfl⟩:=List.mem_map.1 hl;obtain⟨e,he⟩:=Option.isSome_iff_exists.1 (itemL_ok k).1;unfold noneL;rw[he];simp
theorem ba_toL (l:List UInt8):(⟨l.toArray⟩:ByteArray).data.toList=l:=by simp
theorem ba_len (l:List UInt8):(⟨l.toArray⟩:ByteArray).size=l.length:=by show l.toArray.size=_;rw[List.size_toArray]
theorem list_parse {ks:List Nat}(hk:ks.length≤30):parseE ⟨(listL ks).toArray⟩=(esOf (ks.map itemL),0,0):=by
 have h1:=listL_len ks;have h2:=items_es ks;have h:=parseE_of (s:=⟨(listL ks).toArray⟩) (by rw[ba_len];omega) (by rw[ba_toL,listL_lines];omega) (by rw[ba_toL,listL_lines];exact items_good ks);rw[ba_toL,listL_lines]at h;exact h
theorem keys_at {l:List Int}{k:Nat}{x:Int}(h:l[k]?=some x)(hk:k<30):(keys l)[k]?=some (x%1048576).toNat:=by
 unfold keys;rw[List.getElem?_map,List.getElem?_take,if_pos hk,h];rfl
theorem listL_take {ks:List Nat}{j k:Nat}(h:ks[j]?=some k):listL (ks.take (j+1))=listL (ks.take j)++(itemL k++[10]):=by
 obtain⟨h1,h2⟩:=List.getElem?_eq_some_iff.1 h;unfold listL;rw[List.take_succ_eq_append_getElem h1,h2,List.map_append,List.map_append,List.flatten_append];simp
theorem wordsC_at:∀i:Nat,i<24→wordsC[i]?=some (.string (wordQ i))
 | 0,_=>rfl
 | 1,_=>rfl
 | 2,_=>rfl
 | 3,_=>rfl
 | 4,_=>rfl
 | 5,_=>rfl
 | 6,_=>rfl
 | 7,_=>rfl
 | 8,_=>rfl
 | 9,_=>rfl
 | 10,_=>rfl
 | 11,_=>rfl
 | 12,_=>rfl
 | 13,_=>rfl
 | 14,_=>rfl
 | 15,_=>rfl
 | 16,_=>rfl
 | 17,_=>rfl
 | 18,_=>rfl
 | 19,_=>rfl
 | 20,_=>rfl
 | 21,_=>rfl
 | 22,_=>rfl
 | 23,_=>rfl
 | i+24,h=>by omega
theorem pick6 (w:World):∀k:Nat,k<6→(Instr.index 80 (.agg #[.string ⟨#[83]⟩,.string ⟨#[85]⟩,.string ⟨#[83,85]⟩,.string ⟨#[68]⟩,.string ⟨#[82,83]⟩,.string ⟨#[84]⟩]) (.int .i64 k)).run Tryz.prog w= .ok (.string (flB k)) w
 | 0,_=>by kernel_rfl
 | 1,_=>by kernel_rfl
 | 2,_=>by kernel_rfl
 | 3,_=>by kernel_rfl
 | 4,_=>by kernel_rfl
 | 5,_=>by kernel_rfl
 | h+6,hh=>by omega
theorem l_app (a b:ByteArray):(a++b).data.toList=a.data.toList++b.data.toList:=by
 rw[ByteArray.data_append,Array.toList_append]
theorem list_any (w:World)(v:Value)(l:List Int)(h:IntsAt w v l):
  Calls Tryz.prog 21 #[v] w fun e w'=>e= .returned (.string ⟨(listL (keys l)).toArray⟩)∧Below w.heap.size w w':=by
 obtain⟨A,cap,rfl,hA⟩:=ints_open h;have hbd:=ints_bd h;obtain⟨n,hn⟩:∃n,n=l.length:=⟨_,rfl⟩;rw[←hn]at hA hbd⊢;have HA:=hid hA;have HN:=hid hn;have CW:=hid (words_any w);have hsz:wordsC.size=24:=by kernel_rfl
 clear h hA hn;go_enter Tryz.func21,Tryz.ntmps21;go_upto_region 3 with(go_at_call 43;refine CW.out.mono ?_;rintro e w1 ⟨rfl,hb1⟩;have HB1:=hid hb1;clear hb1;have hsc:=run_storeCells_new (P:=Tryz.prog) w1 78 #[.string ⟨#[]⟩,.string ⟨#[]⟩,.string ⟨#[]⟩,.string ⟨#[]⟩,.string ⟨#[]⟩,.string ⟨#[]⟩,.string ⟨#[]⟩,.string ⟨#[]⟩,.string ⟨#[]⟩,.string ⟨#[]⟩,.string ⟨#[]⟩,.string ⟨#[]⟩,.string ⟨#[]⟩,.string ⟨#[]⟩,.string ⟨#[]⟩,.string ⟨#[]⟩,.string ⟨#[]⟩,.string ⟨#[]⟩,.string ⟨#[]⟩,.string ⟨#[]⟩,.string ⟨#[]⟩,.string ⟨#[]⟩,.string ⟨#[]⟩,.string ⟨#[]⟩] wordsC (by kernel_rfl) (by kernel_rfl) (by kernel_rfl));obtain⟨W2,hW2⟩:∃W2,W2=w1.alloc (.cells wordsC 78):=⟨_,rfl⟩;obtain⟨H,hH⟩:∃H,H=w1.heap.size:=⟨_,rfl⟩;have HB2:=hid (show Below w.heap.size w W2 by rw[hW2];exact HB1.out.alloc HB1.out.size _);have HC:=hid (show∀a,a<24→W2.cell? ⟨H,a,none⟩=some (.string (wordQ a))from fun a ha=>by
  have h1:W2.heap[H]?=some (.cells wordsC 78 (0,0)):=by rw[hW2,hH];exact World.alloc_heap_new _ _
  rw[cell_of_row _ H a _ _ _ h1];exact wordsC_at a ha)
 rw[←hW2,←hH];clear hW2 hH hsc hsz CW;obtain⟨m,hm⟩:∃m,m=min 30 n:=⟨_,rfl⟩;have hmn:m≤n:=by omega
 have hm30:m≤30:=by omega
 have HM:=hid (show m=n∨m=30 by omega);have HKL:=hid (show (keys l).length=m by rw[keys_len,hm,HN.out]);clear hm;go_wp2_with fail;go_loopg [3,5,6] m (fun g sv i _ wr=>∃(k:Nat) (P:ByteArray),k+g=m∧i= .int .i64 k∧sv= .string P∧W2=wr∧Hid (P.data.toList=listL ((keys l).take k)))
 case atStart=>exact⟨0,_,by omega,rfl,rfl,rfl,hid rfl⟩
 case round=>
  obtain⟨k,P,hk,rfl,rfl,rfl,HP⟩:=hrel;have hk0:(0:Int)≤k:=by omega
  rcases Nat.eq_zero_or_pos gk with h0|h0
  ·obtain rfl:k=m:=by omega
   have HR:=hid (show P=⟨(listL (keys l)).toArray⟩by
    have h1:=HP.out;rw[List.take_of_length_le (by rw[HKL.out];exact Nat.le_refl _)]at h1;rw[←h1,ba_list])
   by_cases hkn:k=n
   ·have d1:¬(k:Int)<n:=by omega
    clear hkn;go_wp2_with fail;go_ret;exact⟨by rw[←HR.out];rfl,HB2.out⟩
   ·have d1:(k:Int)<n:=by omega
    have d2:¬(k:Int)<30:=by
     rcases HM.out with h|h
     ·exact absurd h hkn
     ·omega
    clear hkn;go_wp2_with fail;go_ret;exact⟨by rw[←HR.out];rfl,HB2.out⟩
  ·have d1:(k:Int)<n:=by omega
   have d2:(k:Int)<30:=by omega
   obtain⟨x,hx⟩:∃x,l[k]?=some x:=⟨_,List.getElem?_eq_getElem (by have:=HN.out;omega)⟩;obtain⟨q,o,rfl,hq,hcap,xc⟩:=HA.out k x hx;have y0:=(cell_old (p:=⟨q,o+k,none⟩) HB2.out hq).trans xc;have hcap2:(n:Int)≤cap:=by omega
   have hka:=keys_at hx (by omega);have HTK:=hid (listL_take hka);have PL:=hid (fun wx=>place9 x 1048576 wx (by omega) (by omega));obtain⟨K,hK⟩:∃K,K=(x%1048576).toNat:=⟨_,rfl⟩;have hKI:x%1048576=(K:Int):=by omega
   rw[hKI]at PL;rw[←hK]at HTK;have hPs:P.size≤300:=by
    have h1:=listL_len ((keys l).take k);rw[List.length_take]at h1;rw[Lib.size_eq,HP.out];omega
   obtain⟨a,ha⟩:∃a,a=K%24:=⟨_,rfl⟩;obtain⟨q1,hq1⟩:∃a,a=K/24:=⟨_,rfl⟩;obtain⟨b,hb⟩:∃a,a=q1%3:=⟨_,rfl⟩;obtain⟨q2,hq2⟩:∃a,a=K/72:=⟨_,rfl⟩;obtain⟨c,hc⟩:∃a,a=q2%6:=⟨_,rfl⟩;have ha24:a<24:=by omega
   have hc6:c<6:=by omega
   have m1:(K:Int).tmod 24=(a:Int):=by rw[Int.tmod_eq_emod_of_nonneg (by omega)];omega
   have m2:(K:Int).tdiv 24=(q1:Int):=by rw[Int.tdiv_eq_ediv_of_nonneg (by omega)];omega
   have m3:(q1:Int).tmod 3=(b:Int):=by rw[Int.tmod_eq_emod_of_nonneg (by omega)];omega
   have m4:(K:Int).tdiv 72=(q2:Int):=by rw[Int.tdiv_eq_ediv_of_nonneg (by omega)];omega
   have m5:(q2:Int).tmod 6=(c:Int):=by rw[Int.tmod_eq_emod_of_nonneg (by omega)];omega
   have v2:IntKind.i64.wrap (q1:Int)=(q1:Int):=IntWalk.i64_in _ (by omega);have v4:IntKind.i64.wrap (q2:Int)=(q2:Int):=IntWalk.i64_in _ (by omega);have a0:(0:Int)≤a:=by omega
   have a1:(a:Int)<24:=by omega
   have hcell:=HC.out a ha24;have pk:=fun wx=>pick6 wx c hc6;have hws:=word_size ⟨a,ha24⟩;have hfs:=fl_size ⟨c,hc6⟩;dsimp only at hws hfs;have HIT:=hid (show itemL K=(wordQ a).data.toList++(if 0<b then 47::(flB c).data.toList else [])by rw[ha,hb,hc,hq1,hq2];rfl);obtain⟨WA,hWA⟩:∃X,X=wordQ a:=⟨_,rfl⟩;obtain⟨FL,hFL⟩:∃X,X=flB c:=⟨_,rfl⟩;rw[←hWA]at hcell hws HIT;rw[←hFL]at pk hfs HIT;have n1:¬(9223372036854775807<P.size+WA.size):=by omega
   have n2:¬(9223372036854775807<P.size+WA.size+1):=by omega
   have n3:¬(9223372036854775807<P.size+WA.size+1+FL.size):=by omega
   have n4:¬(9223372036854775807<P.size+WA.size+1+FL.size+1):=by omega
   clear hx hq hcap xc hka hK hKI ha hq1 hb hq2 hc hWA hFL hws hfs hPs;by_cases hb0:0<b
   ·have e1:(0:Int)<b:=by omega
    have HR:=hid (show (P++WA++(⟨#[47]⟩:ByteArray)++FL++(⟨#[10]⟩:ByteArray)).data.toList=listL ((keys l).take (k+1))by
     rw[l_app,l_app,l_app,l_app,HP.out,HTK.out,HIT.out,if_pos hb0];simp)
    clear hb0;go_wp2_with (go_at_call 27;refine(PL.out _).mono ?_;rintro e wx ⟨rfl,hwx⟩;subst hwx);go_roundg (gk-1)
    case measure=>omega
    case rel=>exact⟨k+1,_,by omega,by go_num,rfl,rfl,HR⟩
   ·have e1:¬(0:Int)<b:=by omega
    have HR:=hid (show (P++WA++(⟨#[10]⟩:ByteArray)).data.toList=listL ((keys l).take (k+1))by
     rw[l_app,l_app,HP.out,HTK.out,HIT.out,if_neg hb0];simp)
    clear hb0;go_wp2_with (go_at_call 27;refine(PL.out _).mono ?_;rintro e wx ⟨rfl,hwx⟩;subst hwx);go_roundg (gk-1)
    case measure=>omega
    case rel=>exact⟨k+1,_,by omega,by go_num,rfl,rfl,HR⟩
end Go.Proofs.YtfehpcbmdancoaaGreatDoor
set_option maxRecDepth 100000
set_option maxHeartbeats 1000000
namespace Go.Proofs.YtfehpcbmdancoaaGreatDoor
open Go Go.RowKit Go.Lib
def ruOk (r:Ru):Bool:=decide (r.cond.length≤12)&&(r.cond.all fun it=>decide (it.set.length≤40))&&decide (r.strip.size≤20)&&decide (r.add.size≤20)&&decide (0≤r.flag)&&decide (r.flag≤1000)
def affOk (S:ByteArray):Bool:=decide (1≤(parseA S).1.rules.length)&&decide ((parseA S).1.rules.length≤10)&&(parseA S).1.rules.all ruOk
theorem ruOk_says {r:Ru}(h:ruOk r=true):r.cond.length≤12∧(∀it∈r.cond,it.set.length≤40)∧r.strip.size≤20∧r.add.size≤20∧0≤r.flag∧r.flag≤1000:=by
 unfold ruOk at h;simp only[Bool.and_eq_true,decide_eq_true_eq,List.all_eq_true]at h;obtain⟨⟨⟨⟨⟨h1,h2⟩,h3⟩,h4⟩,h5⟩,h6⟩:=h;exact⟨h1,h2,h3,h4,h5,h6⟩
theorem affOk_says {S:ByteArray}(h:affOk S=true):1≤(parseA S).1.rules.length∧(parseA S).1.rules.length≤10∧∀r∈(parseA S).1.rules,ruOk r=true:=by
 unfold affOk at h;simp only[Bool.and_eq_true,decide_eq_true_eq,List.all_eq_true]at h;exact⟨h.1.1,h.1.2,h.2⟩
def enOk (e:En):Bool:=decide (e.word.size≤10)&&decide (e.flags.length≤10)&&e.flags.all fun f=>decide (0≤f)&&decide (f≤1000)
theorem enOk_says {e:En}(h:enOk e=true):e.word.size≤10∧e.flags.length≤10∧∀f∈e.flags,0≤f∧f≤1000:=by
 unfold enOk at h;simp only[Bool.and_eq_true,decide_eq_true_eq,List.all_eq_true]at h;exact⟨h.1.1,h.1.2,h.2⟩
theorem item3_few:∀(a:Fin 24) (b:Fin 3) (c:Fin 6),(entryL (item3 a.1 b.1 c.1)).all enOk=true:=by decide +kernel
theorem items_few (ks:List Nat):∀e∈esOf (ks.map itemL),enOk e=true:=fun e he=>by
 unfold esOf at he;obtain⟨l,hl,hle⟩:=List.mem_filterMap.1 he;obtain⟨k,_,rfl⟩:=List.mem_map.1 hl;have h:=item3_few ⟨k%24,Nat.mod_lt _ (by decide)⟩ ⟨k/24%3,Nat.mod_lt _ (by decide)⟩ ⟨k/72%6,Nat.mod_lt _ (by decide)⟩;dsimp only at h;have h2:entryL (item3 (k%24) (k/24%3) (k/72%6))=some e:=hle;rw[h2]at h;exact h
end Go.Proofs.YtfehpcbmdancoaaGreatDoor
