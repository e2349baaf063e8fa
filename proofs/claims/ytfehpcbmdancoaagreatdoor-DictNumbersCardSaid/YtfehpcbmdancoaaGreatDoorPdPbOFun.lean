/- Items as functions in a list: function, checks, hold; Starts, Ends. -/
import Derived.Shelf.Abstract
import Derived.Laws.EntriesVeiled
import Derived.Deep.RegionHeld3
import Derived.Lib.Strings
import Derived.Test.YtfehpcbmdancoaaGreatDoorPdPbORows
import Derived.Test.YtfehpcbmdancoaaGreatDoorPdPbRPlain
import Derived.Test.YtfehpcbmdancoaaGreatDoorPdPbSGives
import Derived.Test.YtfehpcbmdancoaaGreatDoorPdPbSmall
set_option maxRecDepth 100000
set_option maxHeartbeats 4000000
namespace Go.Proofs.YtfehpcbmdancoaaGreatDoor
open Go Go.RowKit
def BoxAt (w0 w:World)(q:Nat)(it:It):Prop:=∃a n c,w.heap[q]?=some (.cells #[.bool it.any,.bool it.not,.slice a n c] 236 (0,0))∧IntsAt w0 (.slice a n c) it.set
def FunIs (w0 w:World)(f:Value)(it:It):Prop:=
 (it.any=true∧f= .func (.func 273) #[] #[])∨
 (it.any=false∧it.not=true∧∃p q,f= .func (.func 274) #[] #[.pointer (some ⟨p,0,none⟩)]∧w.heap[p]?=some (.cells #[.func (.func 272) #[] #[.pointer (some ⟨q,0,none⟩)]] 73 (0,0))∧BoxAt w0 w q it)∨
 (it.any=false∧it.not=false∧∃q,f= .func (.func 272) #[] #[.pointer (some ⟨q,0,none⟩)]∧BoxAt w0 w q it)
theorem cell_box {w:World}{q:Nat}{cs:Array Value}{t:TypeId}(h:w.heap[q]?=some (.cells cs t (0,0)))(j:Nat):w.cell? ⟨q,j,none⟩=cs[j]?:=by
 simp[World.cell?,h]
theorem FunIs.still {w0 w w':World}{f:Value}{it:It}(h:FunIs w0 w f it)(hb:∀(b:Nat) (cs:Array Value) (t:TypeId),w.heap[b]?=some (Obj.cells cs t (0,0))→t=236∨t=73→w'.heap[b]?=w.heap[b]?):FunIs w0 w' f it:=by
 rcases h with h|⟨h1,h2,p,q,h3,h4,a,n,c,h5,h6⟩|⟨h1,h2,q,h3,a,n,c,h5,h6⟩
 ·exact .inl h
 ·exact .inr (.inl ⟨h1,h2,p,q,h3,(hb p _ _ h4 (.inr rfl)).trans h4,a,n,c,(hb q _ _ h5 (.inl rfl)).trans h5,h6⟩)
 ·exact .inr (.inr ⟨h1,h2,q,h3,a,n,c,(hb q _ _ h5 (.inl rfl)).trans h5,h6⟩)
theorem FunIs.keep {w0 w w':World}{f:Value}{it:It}(h:FunIs w0 w f it)(hb:Below w.heap.size w w'):FunIs w0 w' f it:=
 h.still fun b _ _ hg _=>hb.block b (Array.getElem?_eq_some_iff.1 hg).1
theorem fun1_any (w0 w:World)(q:Nat)(it:It)(c:Int)(h:BoxAt w0 w q it)(hb:Below w0.heap.size w0 w):
  Calls Tryz.prog 272 #[.int .i64 c,.pointer (some ⟨q,0,none⟩)] w fun e w'=>e= .returned (.bool (it.set.contains c))∧w'=w:=by
 obtain⟨a,n,cp,hq,hi⟩:=h;have C:=Lib.hid (contains_any w _ it.set c (hi.keep hb));have z2:=cell_box hq 2;simp at z2;clear hq hi hb;go_enter Tryz.func272,Tryz.ntmps272;go_wp2_with (go_at_call 153;refine C.out.mono ?_;rintro e w1 ⟨rfl,rfl⟩);go_ret;exact⟨ret_bool (by simp),rfl⟩
theorem fun2_any (w:World)(c:Int):Calls Tryz.prog 273 #[.int .i64 c] w fun e w'=>e= .returned (.bool true)∧w'=w:=by
 go_enter Tryz.func273,Tryz.ntmps273;go_wp2;go_ret;exact⟨rfl,rfl⟩
theorem fun3_any (w0 w:World)(p q:Nat)(it:It)(c:Int)(hp:w.heap[p]?=some (.cells #[.func (.func 272) #[] #[.pointer (some ⟨q,0,none⟩)]] 73 (0,0)))(h:BoxAt w0 w q it)(hb:Below w0.heap.size w0 w):
  Calls Tryz.prog 274 #[.int .i64 c,.pointer (some ⟨p,0,none⟩)] w fun e w'=>e= .returned (.bool (!it.set.contains c))∧w'=w:=by
 have C:=Lib.hid (fun1_any w0 w q it c h hb);have z0:=cell_box hp 0;simp at z0;clear hp h hb;go_enter Tryz.func274,Tryz.ntmps274;go_wp2_with (go_at_call 272;refine C.out.mono ?_;rintro e w1 ⟨rfl,rfl⟩);go_ret;exact⟨ret_bool (by simp),rfl⟩
theorem BoxAt.keep {w0 w w':World}{q:Nat}{it:It}(h:BoxAt w0 w q it)(hb:Below w.heap.size w w'):BoxAt w0 w' q it:=by
 obtain⟨a,n,c,h1,h2⟩:=h;exact⟨a,n,c,(hb.block q (Array.getElem?_eq_some_iff.1 h1).1).trans h1,h2⟩
theorem fun_call {w0 w:World}{f:Value}{it:It}(h:FunIs w0 w f it)(hb:Below w0.heap.size w0 w):∃(k:Nat) (cap:Array Value),f= .func (.func k) #[] cap∧(∀args w,(callFunc k args).run Tryz.prog w= .ok (.enter k args) w)∧
  ∀wx,Below w.heap.size w wx→∀c,Calls Tryz.prog k (#[.int .i64 c]++cap) wx fun e w'=>e= .returned (.bool (hasP it c))∧w'=wx:=by
 have hB:∀wx,Below w.heap.size w wx→Below w0.heap.size w0 wx:=fun wx hx=>hb.trans (hx.mono hb.size);rcases h with ⟨h1,rfl⟩|⟨h1,h2,p,q,rfl,h4,h5⟩|⟨h1,h2,q,rfl,h5⟩
 ·exact⟨_,_,rfl,enters_of Tryz.func273 rfl rfl,fun wx _ c=>by
   have:=fun2_any wx c;rwa[show hasP it c=true by unfold hasP;rw[h1];rfl]⟩
 ·exact⟨_,_,rfl,enters_of Tryz.func274 rfl rfl,fun wx hx c=>by
   have:=fun3_any w0 wx p q it c ((hx.block p (Array.getElem?_eq_some_iff.1 h4).1).trans h4) (h5.keep hx) (hB wx hx);rwa[show hasP it c= !it.set.contains c by unfold hasP;rw[h1,h2];simp]⟩
 ·exact⟨_,_,rfl,enters_of Tryz.func272 rfl rfl,fun wx hx c=>by
   have:=fun1_any w0 wx q it c (h5.keep hx) (hB wx hx);rwa[show hasP it c=it.set.contains c by unfold hasP;rw[h1,h2];simp]⟩
theorem function_any (w0 w:World)(it:It)(sv:Value)(h:IntsAt w0 sv it.set):
  Calls Tryz.prog 270 #[.agg #[.bool it.any,.bool it.not,sv]] w fun e w'=>∃f,e= .returned f∧FunIs w0 w' f it∧Below w.heap.size w w':=by
 obtain⟨A,cap,rfl,-⟩:=ints_open h;have HI:=Lib.hid h;clear h;have hb0:=(Below.refl w.heap.size w).alloc (Nat.le_refl _) (.cells #[.bool it.any,.bool it.not,.slice A it.set.length cap] 236);have HB:=Lib.hid (hb0.alloc hb0.size (.cells #[.func (.func 272) #[] #[.pointer (some ⟨w.heap.size,0,none⟩)]] 73));clear hb0;obtain⟨any,neg,set⟩:=it;dsimp only at HI HB⊢;have HQ:=Lib.hid (show BoxAt w0 ((w.alloc (.cells #[.bool any,.bool neg,.slice A set.length cap] 236)).alloc (.cells #[.func (.func 272) #[] #[.pointer (some ⟨w.heap.size,0,none⟩)]] 73)) w.heap.size ⟨any,neg,set⟩from
  ⟨_,_,_,by rw[Below.heap_alloc _ _ _ (by simp)];exact World.alloc_heap_new w _,HI.out⟩)
 have HP:=Lib.hid (show ((w.alloc (.cells #[.bool any,.bool neg,.slice A set.length cap] 236)).alloc (.cells #[.func (.func 272) #[] #[.pointer (some ⟨w.heap.size,0,none⟩)]] 73)).heap[w.heap.size+1]?=some (.cells #[.func (.func 272) #[] #[.pointer (some ⟨w.heap.size,0,none⟩)]] 73 (0,0))by
  have:=World.alloc_heap_new (w.alloc (.cells #[.bool any,.bool neg,.slice A set.length cap] 236)) (.cells #[.func (.func 272) #[] #[.pointer (some ⟨w.heap.size,0,none⟩)]] 73);rwa[World.size_alloc]at this)
 cases any with
 | true=>
   go_enter Tryz.func270,Tryz.ntmps270;go_wp2_with fail;go_ret;exact⟨_,rfl,.inl ⟨rfl,rfl⟩,HB.out⟩
 | false=>
   cases neg with
   | true=>
     go_enter Tryz.func270,Tryz.ntmps270;go_wp2_with fail;go_ret;exact⟨_,rfl,.inr (.inl ⟨rfl,rfl,_,_,rfl,HP.out,HQ.out⟩),HB.out⟩
   | false=>
     go_enter Tryz.func270,Tryz.ntmps270;go_wp2_with fail;go_ret;exact⟨_,rfl,.inr (.inr ⟨rfl,rfl,_,rfl,HQ.out⟩),HB.out⟩
theorem Tryz.infosN300:(Tryz.prog.info? 300).map (fun i=>(i.zero,i.size,i.bytes))=some (some (.agg #[.nilFunc]),1,8):=by kernel_rfl
theorem FunIs.grown {w0 w w':World}{f v:Value}{it:It}{B n:Nat}{xs:List Value}(h:FunIs w0 w f it)(hr:w.ownsRow B 300 1 v n xs)(hg:w.grownBy w' v.ownBlock):FunIs w0 w' f it:=by
 refine h.still fun b cs t hb ht=>hg.block b (Array.getElem?_eq_some_iff.1 hb).1 fun e=>?_;rcases hr.2 with ⟨rfl,_⟩|⟨g,cap,cur,rfl,_,h2,_⟩
 ·cases e
 ·simp only[Value.ownBlock,Option.some.injEq]at e;subst e;rw[hb]at h2;simp only[Option.some.injEq,Obj.cells.injEq]at h2;have h3:=h2.2.1;rcases ht with rfl|rfl<;>exact absurd h3 (by decide)
def FunsIs (w0 w:World)(fs:List Value)(l:List It):Prop:=∀(i:Nat) it,l[i]?=some it→∃f,fs[i]?=some f∧FunIs w0 w f it
def FunsAt (w0 w:World)(v:Value)(l:List It):Prop:=∃fs,w.ownsRow w0.heap.size 300 1 v l.length fs∧FunsIs w0 w fs l
theorem FunsIs.snoc {w0 w:World}{fs:List Value}{l:List It}{k:Nat}{f:Value}{it:It}(h:FunsIs w0 w fs (l.take k))(hl:fs.length=k)(hit:l[k]?=some it)(hf:FunIs w0 w f it):FunsIs w0 w (fs++[f]) (l.take (k+1)):=by
 intro i x hi;have hik:i<k+1:=by
  have:=(List.getElem?_eq_some_iff.1 hi).1;rw[List.length_take]at this;omega
 rw[List.getElem?_take_of_lt hik]at hi;rcases Nat.lt_or_ge i k with h1|h1
 ·obtain⟨f',h2,h3⟩:=h i x (by rw[List.getElem?_take_of_lt h1];exact hi);exact⟨f',by rw[List.getElem?_append_left (by omega)];exact h2,h3⟩
 ·obtain rfl:i=k:=by omega
  rw[hit]at hi;obtain rfl:=Option.some.inj hi;exact⟨f,by rw[List.getElem?_append_right (by omega),hl,Nat.sub_self];rfl,hf⟩
theorem checks_any (w:World)(v:Value)(l:List It)(h:ItemsAt w v l)(hn:l.length≤1000000000000):
  Calls Tryz.prog 265 #[v] w fun e w'=>∃v',e= .returned v'∧FunsAt w w' v' l∧Below w.heap.size w w':=by
 obtain⟨i1,hi1,hz10,hz11,hz12⟩:=info_parts Tryz.infosN300;obtain⟨A,cap,rfl,hA⟩:=items_openO h;have HA:=Lib.hid hA;clear hA h;obtain⟨n,hn'⟩:∃n,n=l.length:=⟨_,rfl⟩;rw[←hn']at hn⊢;have HN:=Lib.hid hn';clear hn';go_enter Tryz.func265,Tryz.ntmps265;go_wp2_with (at_make;refine wpList_make_own _ rfl _ _ 295 rfl w.heap.size 300 i1 (.agg #[.nilFunc]) 1 Tryz.underlying295 hi1 hz10 hz11 .i64 .i64 _ n rfl rfl rfl (by rw[hz12];omega) (by unfold maxLen;omega) (Nat.le_refl _) ?_);intro w1 hown1 hgrow1;have H1:=Lib.hid (show (∃fs:List Value,fs.length=0∧w1.ownsRow w.heap.size 300 1 (.slice (some ⟨w.heap.size,0,none⟩) 0 n) 0 fs∧FunsIs w w1 fs (l.take 0))∧Below w.heap.size w w1 from ⟨⟨[],rfl,hown1,fun i it hi=>by simp at hi⟩,(Below.refl _ _).grown hgrow1 (Nat.le_refl _) (fun k hk=>by cases hk)⟩);clear hown1 hgrow1;go_wp2_with fail;go_loopg [3,5,11] n (fun g v' _ i wr=>∃k:Nat,k+g=n∧i= .int .i64 k∧Hid ((∃fs:List Value,fs.length=k∧wr.ownsRow w.heap.size 300 1 v' k fs∧FunsIs w wr fs (l.take k))∧Below w.heap.size w wr))
 case atStart=>exact⟨0,by omega,rfl,H1⟩
 case round=>
  obtain⟨k,hk,rfl,HM⟩:=hrel;rcases Nat.eq_zero_or_pos gk with h0|h0
  ·have hkn:k=n:=by omega
   subst hkn;have hfull:l.take k=l:=List.take_of_length_le (by have:=HN.out;omega);rw[hfull]at HM;obtain⟨⟨fs,hfl,hrow,hfs⟩,hb⟩:=HM.out;have HF:=Lib.hid (And.intro (show FunsAt w wr u3 l from ⟨fs,by rw[←HN.out];exact hrow,hfs⟩) hb);clear HM hfl hrow hfs hb hfull;go_wp2_with fail;go_ret;exact⟨_,rfl,HF.out.1,HF.out.2⟩
  ·have hkn:(k:Int)<n:=by omega
   obtain⟨it,hit⟩:∃it,l[k]?=some it:=⟨_,List.getElem?_eq_getElem (by have:=HN.out;omega)⟩;obtain⟨q,o,rfl,hq,-,m0,m1,a,m,cp,m2,hs⟩:=HA.out k it hit;obtain⟨⟨fs,hfl,hrow,hfs⟩,hb⟩:=HM.out;have p0:=(hb.cell (p:=⟨q,o+k*3,none⟩) hq).trans m0;have p1:=(hb.cell (p:=⟨q,o+k*3+1,none⟩) hq).trans m1;have p2:=(hb.cell (p:=⟨q,o+k*3+2,none⟩) hq).trans m2;have tk1:(0:Int)≤k:=by omega
   have hb0:=Lib.hid ((Below.refl wr.heap.size wr).alloc (Nat.le_refl _) (.cells #[.bool it.any,.bool it.not,.slice a m cp] 236));have FC:=Lib.hid (function_any w (wr.alloc (.cells #[.bool it.any,.bool it.not,.slice a m cp] 236)) it (.slice a m cp) hs);have HR:=Lib.hid (And.intro hrow (And.intro hfs (And.intro hb (And.intro hfl hit))));clear m0 m1 m2 hs hit hrow hfs hb hfl HM;go_wp2_with (go_at_call 270;refine FC.out.mono ?_);rintro e w2 ⟨f,rfl,hf,hb2⟩;have hbw:Below wr.heap.size wr w2:=hb0.out.trans (hb2.mono hb0.out.size);obtain⟨fk,fcap,rfl,-,-⟩:=fun_call hf (HR.out.2.2.1.trans (hbw.mono HR.out.2.2.1.size));have hba:=(Below.refl w2.heap.size w2).alloc (Nat.le_refl _) (.cells #[.func (.func fk) #[] fcap] 300);have hrow2:=own_keep9 (own_keep9 HR.out.1 hbw) hba;have HS:=Lib.hid (show (w2.alloc (.cells #[.func (.func fk) #[] fcap] 300)).ownsRow w.heap.size 300 1 u3 k fs∧FunIs w (w2.alloc (.cells #[.func (.func fk) #[] fcap] 300)) (.func (.func fk) #[] fcap) it∧FunsIs w (w2.alloc (.cells #[.func (.func fk) #[] fcap] 300)) fs (l.take k)∧Below w.heap.size w (w2.alloc (.cells #[.func (.func fk) #[] fcap] 300))from
    ⟨hrow2,hf.keep hba,fun i x hi=>by obtain⟨f',h2,h3⟩:=HR.out.2.1 i x hi;exact⟨f',h2,(h3.keep hbw).keep hba⟩,(HR.out.2.2.1.trans (hbw.mono HR.out.2.2.1.size)).trans (hba.mono (by have:=hbw.size;have:=HR.out.2.2.1.size;omega))⟩)
   have hkm:k+1≤1000000000000:=by omega
   clear hbw hba hrow2 hf hb2;go_wp2_with (at_builtin;refine wpList_append_own _ rfl _ _ 295 rfl w.heap.size 300 i1 (.agg #[.nilFunc]) 1 8 Tryz.underlying295 hi1 hz10 hz11 hz12 rfl (by decide) u3 k fs rfl HS.out.1 ⟨w2.heap.size,0,none⟩ 1 1 [.func (.func fk) #[] fcap] rfl rfl (news_row _ _ _) (by intro u hu;simp at hu;subst hu;rfl) (by unfold maxLen;omega) (by omega) (HS.out.2.2.2.size) ?_);intro v' w4 hown4 hgrow4 _;have HM2:=Lib.hid (show (∃fs:List Value,fs.length=k+1∧w4.ownsRow w.heap.size 300 1 v' (k+1) fs∧FunsIs w w4 fs (l.take (k+1)))∧Below w.heap.size w w4 from
    ⟨⟨fs++[.func (.func fk) #[] fcap],by rw[List.length_append,HR.out.2.2.2.1];rfl,hown4,FunsIs.snoc (fun i x hi=>by obtain⟨f',h2,h3⟩:=HS.out.2.2.1 i x hi;exact⟨f',h2,h3.grown HS.out.1 hgrow4⟩) HR.out.2.2.2.1 HR.out.2.2.2.2 (HS.out.2.1.grown HS.out.1 hgrow4)⟩,HS.out.2.2.2.grown hgrow4 HS.out.2.2.2.size (fun z hz=>(HS.out.1.lt z hz).1)⟩)
   clear hown4 hgrow4 hkm;go_wp2_with fail;go_roundg (gk-1)
   case measure=>omega
   case rel=>exact⟨k+1,by omega,by go_num,HM2⟩
theorem all_upto {l:List It}{cs:List Int}{n:Nat}(hn:n=l.length)(hl:l.length≤cs.length)(h:∀j,j<n→∀it c,l[j]?=some it→cs[j]?=some c→hasP it c=true):(l.zip cs).all (fun x=>hasP x.1 x.2)=true:=by
 rw[List.all_eq_true];intro x hx;obtain⟨j,hj,hjx⟩:=List.getElem_of_mem hx;rw[List.length_zip]at hj;rw[List.getElem_zip]at hjx;subst hjx;exact h j (by omega) _ _ (List.getElem?_eq_getElem (by omega)) (List.getElem?_eq_getElem (by omega))
theorem all_not {l:List It}{cs:List Int}{k:Nat}{it:It}{c:Int}(h1:l[k]?=some it)(h2:cs[k]?=some c)(h:hasP it c=false):(l.zip cs).all (fun x=>hasP x.1 x.2)=false:=by
 rw[List.all_eq_false];exact⟨(it,c),List.mem_of_getElem? (i:=k) (by rw[List.getElem?_zip_eq_some];exact⟨h1,h2⟩),by simp[h]⟩
theorem hold_any (w0 w:World)(v vc:Value)(l:List It)(cs:List Int)(h:FunsAt w0 w v l)(hc:IntsAt w vc cs)(hl:l.length≤cs.length)(hb0:Below w0.heap.size w0 w):
  Calls Tryz.prog 264 #[v,vc] w fun e w'=>e= .returned (.bool ((l.zip cs).all fun x=>hasP x.1 x.2))∧Below w.heap.size w w':=by
 obtain⟨fs,hrow,hfs⟩:=h;have hbig:=ints_bd hc;obtain⟨A,cap,rfl,hA⟩:=ints_open hc;have HR:=Lib.hid (And.intro hrow hfs);obtain⟨a,cp,rfl,hrd⟩:∃a c,v= .slice a l.length c∧∀k,k<l.length→∃g,a=some ⟨g,0,none⟩∧g<w.heap.size∧l.length≤c∧∀u,fs[k]?=some u→w.cell? ⟨g,k,none⟩=some u:=by
  have hcl:= @World.ownsRow.cells _ _ _ _ _ _ _ hrow;rcases hrow.2 with ⟨e,e0⟩|⟨g,c,cur,e,_,h2,h3,_⟩
  ·exact⟨none,0,by rw[e,e0],fun k hk=>by omega⟩
  ·subst e;refine⟨_,_,rfl,fun k _=>⟨g,rfl,(Array.getElem?_eq_some_iff.1 h2).1,h3,fun u hu=>?_⟩⟩;have:=hcl (g:=g) rfl k u hu;rwa[add9]at this
 obtain⟨n,hn⟩:∃n,n=l.length:=⟨_,rfl⟩;rw[←hn]at hl hrd⊢;have HN:=Lib.hid (And.intro hn hl);have HRD:=Lib.hid (And.intro hrd (And.intro hA hb0));have hncs:(n:Int)≤cs.length:=by omega
 clear hn hrd hA hrow hfs hc hb0;go_enter Tryz.func264,Tryz.ntmps264;go_wp2;go_loopg [5,6,9] n (fun g _ _ i wr=>∃k:Nat,k+g=n∧i= .int .i64 k∧Hid (Below w.heap.size w wr)∧Hid (∀j,j<k→∀it c,l[j]?=some it→cs[j]?=some c→hasP it c=true))
 case atStart=>exact⟨0,by omega,rfl,Lib.hid (Below.refl _ _),Lib.hid fun j hj=>absurd hj (Nat.not_lt_zero _)⟩
 case round=>
  obtain⟨k,hk,rfl,HB,HP⟩:=hrel;rcases Nat.eq_zero_or_pos gk with h0|h0
  ·have hkn:k=n:=by omega
   subst hkn;have HF:=Lib.hid (all_upto HN.out.1 (by have:=HN.out;omega) HP.out);go_wp2_with fail;go_ret;exact⟨ret_bool HF.out.symm,HB.out⟩
  ·have hkn:(k:Int)<n:=by omega
   obtain⟨it,hit⟩:∃it,l[k]?=some it:=⟨_,List.getElem?_eq_getElem (by have:=HN.out.1;omega)⟩;obtain⟨c,hc⟩:∃c,cs[k]?=some c:=⟨_,List.getElem?_eq_getElem (by have:=HN.out;omega)⟩;obtain⟨g,rfl,hg,hgc,hcell⟩:=HRD.out.1 k (by omega);obtain⟨f,hfk,hf⟩:=HR.out.2 k it hit;obtain⟨q,o,rfl,hq,hqc,cq⟩:=HRD.out.2.1 k c hc;have hcg:=hcell f hfk;have p0:=(HB.out.cell (p:=⟨g,k,none⟩) hg).trans hcg;have p1:=(HB.out.cell (p:=⟨q,o+k,none⟩) hq).trans cq;have hqw:q<wr.heap.size:=Nat.lt_of_lt_of_le hq HB.out.size;have tk1:(0:Int)≤k:=by omega
   have tk2:(k:Int)<cs.length:=by omega
   have hbA:=(Below.refl wr.heap.size wr).alloc (Nat.le_refl _) (.cells #[f] 300);have hbW:Below w.heap.size w (wr.alloc (.cells #[f] 300)):=HB.out.trans (hbA.mono HB.out.size);have hbV:Below w0.heap.size w0 (wr.alloc (.cells #[f] 300)):=HRD.out.2.2.trans (hbW.mono HRD.out.2.2.size);obtain⟨fk,fcap,rfl,el,hcall⟩:=fun_call (hf.keep hbW) hbV;have FC:=Lib.hid (fun m=>hcall _ (below_drewN (Below.refl _ (wr.alloc (.cells #[.func (.func fk) #[] fcap] 300))) m) c);have HB2:=Lib.hid hbW;have HC:=Lib.hid (And.intro hit hc);clear hit hc hcell hfk hf cq hcg hbA hbW hbV hcall;go_wp2_with fail;cases hh:hasP it c with
   | true=>
     rw[hh]at FC;have HH:=Lib.hid hh;clear hh;go_quiet ((refine (FC.out _).mono ?_;rintro e w ⟨rfl,rfl⟩;exact⟨rfl,_,rfl⟩));go_wp2_with fail;go_roundg (gk-1)
     case measure=>omega
     case rel=>
      refine⟨k+1,by omega,by go_num,Lib.hid (below_drewN HB2.out _),Lib.hid fun j hj it' c' h1 h2=>?_⟩;rcases Nat.lt_or_ge j k with hjk|hjk
      ·exact HP.out j hjk it' c' h1 h2
      ·obtain rfl:j=k:=by omega
       rw[HC.out.1]at h1;rw[HC.out.2]at h2;rw[←Option.some.inj h1,←Option.some.inj h2];exact HH.out
   | false=>
     rw[hh]at FC;have HF:=Lib.hid (all_not HC.out.1 HC.out.2 hh);clear hh;go_quiet ((refine (FC.out _).mono ?_;rintro e w ⟨rfl,rfl⟩;exact⟨rfl,_,rfl⟩));go_wp2_with fail;go_ret;exact⟨ret_bool HF.out.symm,below_drewN HB2.out _⟩
end Go.Proofs.YtfehpcbmdancoaaGreatDoor
set_option maxRecDepth 100000
set_option maxHeartbeats 8000000
namespace Go.Proofs.YtfehpcbmdancoaaGreatDoor
open Go Go.RowKit
theorem cstarts_any (w:World)(v vc:Value)(l:List It)(cs:List Int)(h:ItemsAt w v l)(hc:IntsAt w vc cs)(hl:l.length≤1000000000000):
  Calls Tryz.prog 247 #[v,vc] w fun e w'=>e= .returned (.bool (startsP l cs))∧Below w.heap.size w w':=by
 have hbig:=items_bd h;have hbig2:=ints_bd hc;have C1:=Lib.hid (checks_any w v l h hl);have HC:=Lib.hid hc;obtain⟨A,cap,rfl,-⟩:=items_openO h;obtain⟨A',cap',rfl,-⟩:=ints_open hc;clear h hc;by_cases hle:l.length≤cs.length
 ·have hd:startsP l cs=((l.zip cs).all fun x=>hasP x.1 x.2):=by unfold startsP;rw[decide_eq_true hle];rfl
  rw[hd];have C2:=Lib.hid fun wx vx (hf:FunsAt w wx vx l) (hb:Below w.heap.size w wx)=>hold_any w wx vx _ l cs hf (HC.out.keep hb) hle hb;have hz:(l.length:Int)≤cs.length:=by omega
  clear hd hle;go_enter Tryz.func247,Tryz.ntmps247;go_wp2_with (first
   | (go_at_call 265;refine C1.out.mono ?_;rintro e w1 ⟨v1,rfl,hf1,hb1⟩;have H1:=Lib.hid (And.intro hf1 hb1);clear hf1 hb1)
   | (go_at_call 264;refine(C2.out _ _ H1.out.1 H1.out.2).mono ?_;rintro e w2 ⟨rfl,hb2⟩;have H2:=Lib.hid (H1.out.2.trans (hb2.mono H1.out.2.size));clear hb2))
  go_ret;exact⟨rfl,H2.out⟩
 ·have hd:startsP l cs=false:=by unfold startsP;rw[decide_eq_false hle];rfl
  rw[hd];have hz:¬(l.length:Int)≤cs.length:=by omega
  clear hd hle C1;go_enter Tryz.func247,Tryz.ntmps247;go_wp2;go_ret;exact⟨rfl,Below.refl _ _⟩
theorem ints_last {w:World}{A:Option Addr}{cap:Nat}{cs:List Int}(h:IntsAt w (.slice A cs.length cap) cs)(k:Nat)(hk:k≤cs.length)(hlt:k<cs.length):∃b off,A=some ⟨b,off,none⟩∧k<cap∧cs.length≤cap∧IntsAt w (.slice (some ⟨b,off+k,none⟩) (cs.length-k) (cap-k)) (cs.drop k):=by
 obtain⟨rfl,_⟩|⟨b,off,cp,e,h1,h2,h3,h4⟩:=h
 ·simp at hlt
 ·injection e with e1 e2 e3;subst e1;subst e3;have:=ints_part (cs:=cs) h1 h3 h4 k (cs.length-k) (n:=cs.length-k) (by rw[List.length_take,List.length_drop,Nat.min_self]) (by omega);rw[List.take_of_length_le (by rw[List.length_drop];exact Nat.le_refl _)]at this;exact⟨b,off,rfl,by omega,h2,this⟩
theorem cends_any (w:World)(v vc:Value)(l:List It)(cs:List Int)(h:ItemsAt w v l)(hc:IntsAt w vc cs)(hl:l.length≤1000000000000):
  Calls Tryz.prog 248 #[v,vc] w fun e w'=>e= .returned (.bool (endsP l cs))∧Below w.heap.size w w':=by
 have hbig:=items_bd h;have hbig2:=ints_bd hc;have C1:=Lib.hid (fun m=>checks_any (w.drewN m) v l (h.keep (below_drewN (Below.refl _ _) m)) hl);have HC:=Lib.hid hc;obtain⟨A,cap,rfl,-⟩:=items_openO h;obtain⟨A',cap',rfl,-⟩:=ints_open hc;clear h hc;by_cases hle:l.length≤cs.length
 ·have hd:endsP l cs=((l.zip (cs.drop (cs.length-l.length))).all fun x=>hasP x.1 x.2):=by
   unfold endsP startsP;rw[decide_eq_true hle,decide_eq_true (by rw[List.length_drop];omega)];rfl
  rw[hd];clear hd;have HD:=Lib.hid (below_drewN (Below.refl w.heap.size w) 1);have C2:=Lib.hid fun wx vx v2 (hf:FunsAt (w.drewN 1) wx vx l) (hi:IntsAt wx v2 (cs.drop (cs.length-l.length))) (hb:Below (w.drewN 1).heap.size (w.drewN 1) wx)=>hold_any (w.drewN 1) wx vx v2 l (cs.drop (cs.length-l.length)) hf hi (by rw[List.length_drop];omega) hb;rcases Nat.eq_zero_or_pos l.length with h0|h0
  ·have hnil:l=[]:=List.eq_nil_of_length_eq_zero h0;have hdr:cs.drop (cs.length-l.length)=[]:=by rw[h0,Nat.sub_zero,List.drop_length]
   have hz:decide (l.length≤cs.length)=true:=decide_eq_true hle;have HI:=Lib.hid (fun wx a c=>(show IntsAt wx (.slice a 0 c) (cs.drop (cs.length-l.length))from .inl ⟨hdr,a,c,rfl⟩));have HA:=Lib.hid (show cs.length≤cap'∨cs.length=0 by
    rcases HC.out with ⟨e,_⟩|⟨b,off,cp,e,h1,h2,h3,h4⟩
    ·right;rw[e];rfl
    ·left;injection e with e1 e2 e3;omega)
   have HA2:=Lib.hid (show cs.length=0∨∃b off,A'=some ⟨b,off,none⟩by
    rcases HC.out with ⟨e,_⟩|⟨b,off,cp,e,h1,h2,h3,h4⟩
    ·left;rw[e];rfl
    ·right;injection e with e1 e2 e3;exact⟨b,off,e1⟩)
   clear hle hdr;subst hnil;simp only[List.length_nil]at hz⊢C1;obtain⟨m,hm⟩:∃m,m=cs.length:=⟨_,rfl⟩;rw[←hm]at hz hbig2 HA HA2⊢;have e1:(m:Int)-0=m:=by omega
   have e2:IntKind.i64.wrap (m:Int)=m:=IntWalk.i64_in _ (by omega);have g0:(0:Int)≤m:=by omega
   have g5:(m:Int)≤m:=by omega
   clear hm;have g6:m≤cap':=by have:=HA.out;omega
   have e3:m-m=0:=by omega
   have gz:decide (m≤m)=true:=decide_eq_true (by omega);rcases A' with _|⟨b,off,ix⟩
   ·by_cases h1:cap'=m
    ·subst h1;go_enter Tryz.func248,Tryz.ntmps248;go_wp2_with fail;go_region_held3 (fun wx=>True)
      (trivial)
      (first
       | (go_at_call 265;refine(C1.out 1).mono ?_;rintro e w1 ⟨v1,rfl,hf1,hb1⟩;have H1:=Lib.hid (And.intro hf1 (And.intro hb1 (HD.out.trans (hb1.mono HD.out.size))));clear hf1 hb1)
       | (go_at_call 264;refine(C2.out _ _ _ H1.out.1 (HI.out _ _ _) H1.out.2.1).mono ?_;rintro e w2 ⟨rfl,hb2⟩;have H2:=Lib.hid (H1.out.2.2.trans (hb2.mono H1.out.2.2.size));clear hb2))
     go_wp2_with fail;go_ret;exact⟨rfl,H2.out⟩
    ·skip
     go_enter Tryz.func248,Tryz.ntmps248;go_wp2_with fail;go_region_held3 (fun wx=>True)
      (trivial)
      (first
       | (go_at_call 265;refine(C1.out 1).mono ?_;rintro e w1 ⟨v1,rfl,hf1,hb1⟩;have H1:=Lib.hid (And.intro hf1 (And.intro hb1 (HD.out.trans (hb1.mono HD.out.size))));clear hf1 hb1)
       | (go_at_call 264;refine(C2.out _ _ _ H1.out.1 (HI.out _ _ _) H1.out.2.1).mono ?_;rintro e w2 ⟨rfl,hb2⟩;have H2:=Lib.hid (H1.out.2.2.trans (hb2.mono H1.out.2.2.size));clear hb2))
     go_wp2_with fail;go_ret;exact⟨rfl,H2.out⟩
   ·by_cases h1:cap'=m
    ·subst h1;go_enter Tryz.func248,Tryz.ntmps248;go_wp2_with fail;go_region_held3 (fun wx=>True)
      (trivial)
      (first
       | (go_at_call 265;refine(C1.out 1).mono ?_;rintro e w1 ⟨v1,rfl,hf1,hb1⟩;have H1:=Lib.hid (And.intro hf1 (And.intro hb1 (HD.out.trans (hb1.mono HD.out.size))));clear hf1 hb1)
       | (go_at_call 264;refine(C2.out _ _ _ H1.out.1 (HI.out _ _ _) H1.out.2.1).mono ?_;rintro e w2 ⟨rfl,hb2⟩;have H2:=Lib.hid (H1.out.2.2.trans (hb2.mono H1.out.2.2.size));clear hb2))
     go_wp2_with fail;go_ret;exact⟨rfl,H2.out⟩
    ·skip
     go_enter Tryz.func248,Tryz.ntmps248;go_wp2_with fail;go_region_held3 (fun wx=>True)
      (trivial)
      (first
       | (go_at_call 265;refine(C1.out 1).mono ?_;rintro e w1 ⟨v1,rfl,hf1,hb1⟩;have H1:=Lib.hid (And.intro hf1 (And.intro hb1 (HD.out.trans (hb1.mono HD.out.size))));clear hf1 hb1)
       | (go_at_call 264;refine(C2.out _ _ _ H1.out.1 (HI.out _ _ _) H1.out.2.1).mono ?_;rintro e w2 ⟨rfl,hb2⟩;have H2:=Lib.hid (H1.out.2.2.trans (hb2.mono H1.out.2.2.size));clear hb2))
     go_wp2_with fail;go_ret;exact⟨rfl,H2.out⟩
  ·obtain⟨b,off,rfl,hk,g4,hi⟩:=ints_last HC.out (cs.length-l.length) (by omega) (by omega);have hz:decide (l.length≤cs.length)=true:=decide_eq_true hle;obtain⟨k,hkk⟩:∃k,k=cs.length-l.length:=⟨_,rfl⟩;have e1:(cs.length:Int)-l.length=k:=by omega
   have hi2:cs.length-k=l.length:=by omega
   rw[←hkk]at hk hi C2⊢;rw[hi2]at hi;have HI:=Lib.hid hi;have e2:IntKind.i64.wrap (k:Int)=k:=by exact IntWalk.i64_in _ (by omega)
   have g0:(0:Int)≤k:=by omega
   have g1:(k:Int)≤cs.length:=by omega
   have g3:(k:Int)≤cap':=by omega
   have g2:¬cap'=k:=by omega
   have HK:=Lib.hid hkk;clear hkk hi;go_enter Tryz.func248,Tryz.ntmps248;go_wp2_with fail;go_region_held3 (fun wx=>True)
    (trivial)
    (first
     | (go_at_call 265;refine(C1.out 1).mono ?_;rintro e w1 ⟨v1,rfl,hf1,hb1⟩;have H1:=Lib.hid (And.intro hf1 (And.intro hb1 (HD.out.trans (hb1.mono HD.out.size))));clear hf1 hb1)
     | (go_at_call 264;refine(C2.out _ _ _ H1.out.1 (HI.out.keep H1.out.2.2) H1.out.2.1).mono ?_;rintro e w2 ⟨rfl,hb2⟩;have H2:=Lib.hid (H1.out.2.2.trans (hb2.mono H1.out.2.2.size));clear hb2))
   go_wp2_with fail;go_ret;exact⟨rfl,H2.out⟩
 ·have hd:endsP l cs=false:=by unfold endsP;rw[decide_eq_false hle];rfl
  rw[hd];have hz:decide (l.length≤cs.length)=false:=decide_eq_false hle;clear hd hle C1;go_enter Tryz.func248,Tryz.ntmps248;go_wp2_with fail;go_quiet (fail);go_wp2_with fail;go_ret;exact⟨rfl,below_drewN (Below.refl _ _) _⟩
end Go.Proofs.YtfehpcbmdancoaaGreatDoor
namespace Go.Proofs.YtfehpcbmdancoaaGreatDoor
open Go Go.RowKit Go.Lib
def restOf (r:Ru)(wd:ByteArray):ByteArray:=if r.pre then ⟨(Lib.trimPrefix wd.data.toList r.strip.data.toList).toArray⟩else ⟨(Lib.trimSuffix wd.data.toList r.strip.data.toList).toArray⟩
def thereB (r:Ru)(wd:ByteArray):Bool:=if r.pre then Lib.hasPrefix wd.data.toList r.strip.data.toList else Lib.hasSuffix wd.data.toList r.strip.data.toList
def allowB (r:Ru)(wd:ByteArray):Bool:=match codesB wd.data.toList with
 | none=>false
 | some cs=>if r.pre then startsP r.cond cs else endsP r.cond cs
def withB (r:Ru)(s:ByteArray):ByteArray:=if r.pre then r.add++s else s++r.add
theorem r_ext (s:ByteArray)(a b:Nat):s.extract a b=⟨((s.data.toList.drop a).take (b-a)).toArray⟩:=by
 rw[←r_mk (s.extract a b),ByteArray.data_extract,Array.toList_extract]
theorem r_eq {a b:List UInt8}:((⟨a.toArray⟩:ByteArray)=⟨b.toArray⟩)↔a=b:=by
 refine⟨fun h=>?_,fun h=>by rw[h]⟩;have:=congrArg (fun x:ByteArray=>x.data.toList) h;simpa using this
theorem pre_says (wd s:ByteArray):Lib.hasPrefix wd.data.toList s.data.toList=decide (s.size≤wd.size∧wd.extract 0 s.size=s):=by
 rw[Bool.eq_iff_iff,decide_eq_true_eq];unfold Lib.hasPrefix;rw[List.isPrefixOf_iff_prefix,r_ext,Lib.size_eq,Lib.size_eq]
 conv=>rhs;rw[←r_mk s]
 rw[r_eq,List.drop_zero,Nat.sub_zero];simp only;constructor
 ·intro h;exact⟨h.length_le,(List.prefix_iff_eq_take.1 h).symm⟩
 ·rintro⟨_,h⟩;exact List.prefix_iff_eq_take.2 h.symm
theorem suf_says (wd s:ByteArray):Lib.hasSuffix wd.data.toList s.data.toList=decide (s.size≤wd.size∧wd.extract (wd.size-s.size) wd.size=s):=by
 rw[Bool.eq_iff_iff,decide_eq_true_eq];unfold Lib.hasSuffix;rw[List.isSuffixOf_iff_suffix,r_ext,Lib.size_eq,Lib.size_eq]
 conv=>rhs;rw[←r_mk s]
 rw[r_eq,List.take_of_length_le (by rw[List.length_drop];exact Nat.le_refl _)];simp only;constructor
 ·intro h;exact⟨h.length_le,(List.suffix_iff_eq_drop.1 h).symm⟩
 ·rintro⟨_,h⟩;exact List.suffix_iff_eq_drop.2 h.symm
theorem apply_says (r:Ru)(wd:ByteArray):applyR r wd=if thereB r wd=true∧allowB r wd=true then withB r (restOf r wd)else ⟨#[]⟩:=by
 unfold applyR thereB allowB withB restOf;cases hc:codesB wd.data.toList with
 | none=>simp
 | some cs=>
   dsimp only;cases hp:r.pre with
   | true=>
     simp only[if_true];rw[pre_says];by_cases h:r.strip.size≤wd.size∧wd.extract 0 r.strip.size=r.strip
     ·rw[decide_eq_true h];by_cases h2:startsP r.cond cs=true
      ·rw[if_pos ⟨h.1,h.2,h2⟩,if_pos ⟨rfl,h2⟩];congr 1;have hpre:=pre_says wd r.strip;rw[decide_eq_true h]at hpre;unfold Lib.trimPrefix;rw[if_pos hpre,r_ext,List.take_of_length_le (by rw[List.length_drop,Lib.size_eq];exact Nat.le_refl _),Lib.size_eq r.strip]
      ·rw[if_neg (fun h3=>h2 h3.2.2),if_neg (fun h3=>h2 h3.2)]
     ·rw[decide_eq_false h,if_neg (fun h3=>h ⟨h3.1,h3.2.1⟩),if_neg (by simp)]
   | false=>
     simp only[Bool.false_eq_true,if_false];rw[suf_says];by_cases h:r.strip.size≤wd.size∧wd.extract (wd.size-r.strip.size) wd.size=r.strip
     ·rw[decide_eq_true h];by_cases h2:endsP r.cond cs=true
      ·rw[if_pos ⟨h.1,h.2,h2⟩,if_pos ⟨rfl,h2⟩];congr 1;have hsuf:=suf_says wd r.strip;rw[decide_eq_true h]at hsuf;unfold Lib.trimSuffix;rw[if_pos hsuf,r_ext,List.drop_zero,Nat.sub_zero,Lib.size_eq r.strip,Lib.size_eq wd]
      ·rw[if_neg (fun h3=>h2 h3.2.2),if_neg (fun h3=>h2 h3.2)]
     ·rw[decide_eq_false h,if_neg (fun h3=>h ⟨h3.1,h3.2.1⟩),if_neg (by simp)]
theorem rest_size (r:Ru)(wd:ByteArray):(restOf r wd).size≤wd.size:=by
 unfold restOf Lib.trimPrefix Lib.trimSuffix;have h:∀l:List UInt8,(⟨l.toArray⟩:ByteArray).size=l.length:=fun l=>by show l.toArray.size=_;rw[List.size_toArray]
 rw[Lib.size_eq wd];split
 ·rw[h];split<;>simp
 ·rw[h];split<;>simp
theorem r_okB (s:ByteArray):okB s= !s.toList.isEmpty:=by
 unfold okB;rw[r_toL,Bool.eq_iff_iff,decide_eq_true_eq,Lib.size_eq];cases s.data.toList<;>simp
theorem r_codes (l:List UInt8):(codesB l).isSome=validD l∧(codesB l).getD []=codesL l:=by
 unfold codesB codesL;cases validD l<;>simp
theorem rwithout_any (w:World)(v:Value)(r:Ru)(wd:ByteArray)(h:RuAt w v r)(hw:wd.size≤1000000000):
  Calls Tryz.prog 218 #[v,.string wd] w fun e w'=>e= .returned (.tuple #[.string (restOf r wd),.bool (thereB r wd)])∧Below w.heap.size w w':=by
 obtain⟨A,cap,rfl,-⟩:=h;have HB:=hid ((Below.refl w.heap.size w).alloc (Nat.le_refl _) (.cells #[.bool r.pre,.int .i64 r.flag,.bool r.cross,.string r.strip,.string r.add,.slice A r.cond.length cap] 123));obtain⟨n,hn⟩:∃n,n=r.cond.length:=⟨_,rfl⟩;rw[←hn]at HB⊢;clear hn;obtain⟨pre,flag,cross,strip,add,cond⟩:=r;have CP:=hid (fun wx=>Tryz.strings_CutPrefix wd strip wx);have CS:=hid (fun wx=>Tryz.strings_CutSuffix wd strip wx (by omega));unfold restOf thereB;dsimp only at HB⊢;cases pre with
 | true=>
   go_enter Tryz.func218,Tryz.ntmps218;go_wp2_with (go_at_call 142;refine(CP.out _).mono ?_;rintro e w1 ⟨rfl,rfl⟩);go_ret2;exact⟨rfl,HB.out⟩
 | false=>
   go_enter Tryz.func218,Tryz.ntmps218;go_wp2_with (go_at_call 246;refine(CS.out _).mono ?_;rintro e w1 ⟨rfl,rfl⟩);go_ret2;exact⟨rfl,HB.out⟩
theorem r_own {w:World}{B n:Nat}{v:Value}{cs:List Int}(h:w.ownsRow B 3 1 v n (cs.map (Value.int .i64)))(hn:n=cs.length):IntsAt w v cs:=by
 subst hn;have hadd:∀(g j:Nat),(⟨g,0,none⟩:Addr).add j=⟨g,j,none⟩:=fun g j=>by unfold Addr.add;split<;>simp_all
 have hc:= @World.ownsRow.cells _ _ _ _ _ _ _ h;rcases h.2 with ⟨rfl,h0⟩|⟨g,cap,cur,rfl,hb,hg,hnc,hcm,_⟩
 ·exact .inl ⟨List.eq_nil_of_length_eq_zero h0,_,_,rfl⟩
 ·refine .inr ⟨g,0,cap,rfl,(Array.getElem?_eq_some_iff.1 hg).1,hnc,hcm,fun i c hi=>?_⟩;rw[Nat.zero_add,←hadd];exact hc (g:=g) rfl i _ (by rw[List.getElem?_map,hi];rfl)
theorem rallows_any (w:World)(v:Value)(r:Ru)(wd:ByteArray)(h:RuAt w v r)(hf:FitR r)(hw:wd.size≤1000000000)(hT:Lib.Utf8Tabs 1 2 w):
  Calls Tryz.prog 219 #[v,.string wd] w fun e w'=>e= .returned (.bool (allowB r wd))∧Below w.heap.size w w':=by
 obtain⟨A,cap,rfl,hi⟩:=h;have hB0:=(Below.refl w.heap.size w).alloc (Nat.le_refl _) (.cells #[.bool r.pre,.int .i64 r.flag,.bool r.cross,.string r.strip,.string r.add,.slice A r.cond.length cap] 123);have CC:=hid (codes_any wd _ (by omega) (tabs_below hT hB0));have HB:=hid hB0;have CS:=hid (fun wx vc cs (hb:Below w.heap.size w wx) (hc:IntsAt wx vc cs)=>cstarts_any wx _ vc r.cond cs (hi.keep hb) hc (by have:=hf.items;omega));have CE:=hid (fun wx vc cs (hb:Below w.heap.size w wx) (hc:IntsAt wx vc cs)=>cends_any wx _ vc r.cond cs (hi.keep hb) hc (by have:=hf.items;omega));obtain⟨n,hn⟩:∃n,n=r.cond.length:=⟨_,rfl⟩;rw[←hn]at HB CC CS CE⊢;obtain⟨e1,e2⟩:=r_codes wd.data.toList;unfold allowB;obtain⟨pre,flag,cross,strip,add,cond⟩:=r;dsimp only at HB CC CS CE⊢;cases hcb:codesB wd.data.toList with
 | none=>
   rw[hcb]at e1;rw[←e1]at CC;clear hi hf hT hB0 hn e1 e2 hcb CS CE;cases pre with
   | true=>
     go_enter Tryz.func219,Tryz.ntmps219;go_wp2_with (go_at_call 143;refine CC.out.mono ?_);rintro e w1 ⟨v1,rfl,-,hb⟩;obtain⟨x0,x1,x2,x3,x4,x5⟩:=box6 hb;have HB1:=hid (HB.out.trans (hb.mono HB.out.size));clear hb;go_wp2_with fail;go_ret;exact⟨rfl,HB1.out⟩
   | false=>
     go_enter Tryz.func219,Tryz.ntmps219;go_wp2_with (go_at_call 143;refine CC.out.mono ?_);rintro e w1 ⟨v1,rfl,-,hb⟩;obtain⟨x0,x1,x2,x3,x4,x5⟩:=box6 hb;have HB1:=hid (HB.out.trans (hb.mono HB.out.size));clear hb;go_wp2_with fail;go_ret;exact⟨rfl,HB1.out⟩
 | some cs=>
   rw[hcb]at e1 e2;rw[←e1,←e2]at CC;simp only[Option.getD_some,Option.isSome_some]at CC;clear hi hf hT hB0 hn e1 e2 hcb;dsimp only;cases pre with
   | true=>
     obtain⟨b,hb⟩:∃b,b=startsP cond cs:=⟨_,rfl⟩;have CS2:=hid (fun wx vc hb1 hc1=>CS.out wx vc cs hb1 hc1);rw[←hb]at CS2;simp only[if_true];rw[←hb];clear hb CS CE;go_enter Tryz.func219,Tryz.ntmps219;go_wp2_with (go_at_call 143;refine CC.out.mono ?_);rintro e w1 ⟨v1,rfl,hown,hb⟩;have hin:=r_own hown rfl;obtain⟨B,bc,rfl,-⟩:=ints_open hin;obtain⟨x0,x1,x2,x3,x4,x5⟩:=box6 hb;have HB1:=hid (HB.out.trans (hb.mono HB.out.size));have CS3:=hid (CS2.out w1 _ HB1.out hin);obtain⟨m,hm⟩:∃m,m=cs.length:=⟨_,rfl⟩;rw[←hm]at CS3⊢;clear hb hown hin CS2 hm;go_wp2_with (go_at_call 247;refine CS3.out.mono ?_;rintro e w2 ⟨rfl,hb⟩;have HB2:=hid (HB1.out.trans (hb.mono HB1.out.size));clear hb);go_ret;exact⟨rfl,HB2.out⟩
   | false=>
     obtain⟨b,hb⟩:∃b,b=endsP cond cs:=⟨_,rfl⟩;have CS2:=hid (fun wx vc hb1 hc1=>CE.out wx vc cs hb1 hc1);rw[←hb]at CS2;simp only[Bool.false_eq_true,if_false];rw[←hb];clear hb CS CE;go_enter Tryz.func219,Tryz.ntmps219;go_wp2_with (go_at_call 143;refine CC.out.mono ?_);rintro e w1 ⟨v1,rfl,hown,hb⟩;have hin:=r_own hown rfl;obtain⟨B,bc,rfl,-⟩:=ints_open hin;obtain⟨x0,x1,x2,x3,x4,x5⟩:=box6 hb;have HB1:=hid (HB.out.trans (hb.mono HB.out.size));have CS3:=hid (CS2.out w1 _ HB1.out hin);obtain⟨m,hm⟩:∃m,m=cs.length:=⟨_,rfl⟩;rw[←hm]at CS3⊢;clear hb hown hin CS2 hm;go_wp2_with (go_at_call 248;refine CS3.out.mono ?_;rintro e w2 ⟨rfl,hb⟩;have HB2:=hid (HB1.out.trans (hb.mono HB1.out.size));clear hb);go_ret;exact⟨rfl,HB2.out⟩
theorem rapp_any (w:World)(v:Value)(r:Ru)(wd:ByteArray)(h:RuAt w v r)(hf:FitR r)(hw:wd.size≤1000000000)(hT:Lib.Utf8Tabs 1 2 w):
  Calls Tryz.prog 161 #[v,.string wd] w fun e w'=>e= .returned (.tuple #[.string (applyR r wd),.bool (okB (applyR r wd))])∧Below w.heap.size w w':=by
 have h0:=h;obtain⟨A,cap,rfl,-⟩:=h;obtain⟨n,hn⟩:∃n,n=r.cond.length:=⟨_,rfl⟩;rw[←hn]at h0⊢;have hB0:=(Below.refl w.heap.size w).alloc (Nat.le_refl _) (.cells #[.bool r.pre,.int .i64 r.flag,.bool r.cross,.string r.strip,.string r.add,.slice A n cap] 123);have HB:=hid hB0;have CO:=hid (fun wx (hb:Below w.heap.size w wx)=>rwithout_any wx _ r wd (h0.keep hb) hw);have CA:=hid (fun wx (hb:Below w.heap.size w wx)=>rallows_any wx _ r wd (h0.keep hb) hf hw (tabs_below hT hb));have hrs:=rest_size r wd;have CW:=hid (fun wx (hb:Below w.heap.size w wx)=>rwith_any wx _ r (restOf r wd) (h0.keep hb) (by omega) (by have:=hf.add;omega));have hap:=apply_says r wd;rw[show (if r.pre then r.add++restOf r wd else restOf r wd++r.add)=withB r (restOf r wd)from rfl]at CW;obtain⟨R,hR⟩:∃R,R=applyR r wd:=⟨_,rfl⟩;obtain⟨X,hX⟩:∃X,X=restOf r wd:=⟨_,rfl⟩;obtain⟨Z,hZ⟩:∃Z,Z=withB r X:=⟨_,rfl⟩;obtain⟨b1,h1⟩:∃b,b=thereB r wd:=⟨_,rfl⟩;obtain⟨b2,h2⟩:∃b,b=allowB r wd:=⟨_,rfl⟩;rw[←hX]at CW CO hap;rw[←hZ]at CW hap;rw[←h1]at CO hap;rw[←h2]at CA hap;rw[←hR]at hap⊢;have BX:=hid (show∀wx,Below (w.alloc (.cells #[.bool r.pre,.int .i64 r.flag,.bool r.cross,.string r.strip,.string r.add,.slice A n cap] 123)).heap.size (w.alloc (.cells #[.bool r.pre,.int .i64 r.flag,.bool r.cross,.string r.strip,.string r.add,.slice A n cap] 123)) wx→_ from fun wx hb=>box6 hb);obtain⟨pre,flag,cross,strip,add,cond⟩:=r;dsimp only at HB CO CA CW BX⊢;clear h0 hf hT hn hB0 hrs hX hZ h1 h2 hR;go_enter Tryz.func161,Tryz.ntmps161;go_wp2_with (go_at_call 218;refine(CO.out _ HB.out).mono ?_);rintro e w1 ⟨rfl,hb⟩;have HX:=hid hb;obtain⟨x0,x1,x2,x3,x4,x5⟩:=BX.out w1 hb;have HB1:=hid (HB.out.trans (hb.mono HB.out.size));clear hb;cases b1 with
 | false=>
   have hz:R=⟨#[]⟩:=by rw[hap,if_neg (by simp)]
   subst hz;clear hap;go_wp2_with fail;go_ret2;exact⟨rfl,HB1.out⟩
 | true=>
   go_wp2_with (go_at_call 219;refine(CA.out _ HB1.out).mono ?_);rintro e w2 ⟨rfl,hb⟩;have HX2:=hid (HX.out.trans (hb.mono HX.out.size));clear x0 x1 x2 x3 x4 x5;obtain⟨x0,x1,x2,x3,x4,x5⟩:=BX.out w2 HX2.out;have HB2:=hid (HB1.out.trans (hb.mono HB1.out.size));clear hb;cases b2 with
   | false=>
     have hz:R=⟨#[]⟩:=by rw[hap,if_neg (by simp)]
     subst hz;clear hap;go_wp2_with fail;go_ret2;exact⟨rfl,HB2.out⟩
   | true=>
     have hz:R=Z:=by rw[hap,if_pos (by simp)]
     subst hz;clear hap;go_wp2_with (go_at_call 220;refine(CW.out _ HB2.out).mono ?_);rintro e w3 ⟨rfl,hb⟩;have HB3:=hid (HB2.out.trans (hb.mono HB2.out.size));clear hb;go_wp2_with fail;go_ret2;exact⟨by rw[r_okB];rfl,HB3.out⟩
theorem rapplies_any (w:World)(v:Value)(r:Ru)(wd:ByteArray)(h:RuAt w v r)(hf:FitR r)(hw:wd.size≤1000000000)(hT:Lib.Utf8Tabs 1 2 w):
  Calls Tryz.prog 222 #[v,.string wd] w fun e w'=>e= .returned (.bool (okB (applyR r wd)))∧Below w.heap.size w w':=by
 have h0:=h;obtain⟨A,cap,rfl,-⟩:=h;obtain⟨n,hn⟩:∃n,n=r.cond.length:=⟨_,rfl⟩;rw[←hn]at h0⊢;have hB0:=(Below.refl w.heap.size w).alloc (Nat.le_refl _) (.cells #[.bool r.pre,.int .i64 r.flag,.bool r.cross,.string r.strip,.string r.add,.slice A n cap] 123);have HB:=hid hB0;have C:=hid (rapp_any _ _ r wd (h0.keep hB0) hf hw (tabs_below hT hB0));obtain⟨R,hR⟩:∃R,R=applyR r wd:=⟨_,rfl⟩;obtain⟨b,hb⟩:∃b,b=okB R:=⟨_,rfl⟩;rw[←hR]at C⊢;rw[←hb]at C⊢;obtain⟨pre,flag,cross,strip,add,cond⟩:=r;dsimp only at HB C⊢;clear h0 hf hT hn hB0 hR hb;go_enter Tryz.func222,Tryz.ntmps222;go_wp2_with (go_at_call 161;refine C.out.mono ?_);rintro e w1 ⟨rfl,hb⟩;have HB1:=hid (HB.out.trans (hb.mono HB.out.size));clear hb;go_wp2_with fail;go_ret;exact⟨rfl,HB1.out⟩
theorem both_no {p s:Ru}{wd:ByteArray}(h:¬((p.pre&& !s.pre&&p.cross&&s.cross)=true∧p.strip.size+s.strip.size≤wd.size∧okB (applyR p wd)=true∧okB (applyR s wd)=true)):bothR p s wd=⟨#[]⟩:=by
 unfold bothR;refine if_neg fun h2=>h ?_;obtain⟨h3,h4,h5,h6,h7,h8,h9⟩:=h2;refine⟨by rw[h3,h4,h5,h6];rfl,h9,decide_eq_true h7,decide_eq_true h8⟩
theorem both_yes {p s:Ru}{wd:ByteArray}(h1:(p.pre&& !s.pre&&p.cross&&s.cross)=true)(h2:p.strip.size+s.strip.size≤wd.size)(h3:okB (applyR p wd)=true)(h4:okB (applyR s wd)=true):
  bothR p s wd=p.add++wd.extract p.strip.size (wd.size-s.strip.size)++s.add:=by
 unfold bothR;simp only[Bool.and_eq_true,Bool.not_eq_true']at h1;exact if_pos ⟨h1.1.1.1,h1.1.1.2,h1.1.2,h1.2,of_decide_eq_true h3,of_decide_eq_true h4,h2⟩
theorem rul_both_any (w:World)(v v':Value)(p s:Ru)(wd:ByteArray)(h:RuAt w v p)(h':RuAt w v' s)(hf:FitR p)(hf':FitR s)(hw:wd.size≤1000000000)(hT:Lib.Utf8Tabs 1 2 w):
  Calls Tryz.prog 162 #[v,v',.string wd] w fun e w'=>e= .returned (.tuple #[.string (bothR p s wd),.bool (okB (bothR p s wd))])∧Below w.heap.size w w':=by
 have h0:=h;have h0':=h';obtain⟨A,cap,rfl,-⟩:=h;obtain⟨A',cap',rfl,-⟩:=h';obtain⟨n,hn⟩:∃n,n=p.cond.length:=⟨_,rfl⟩;obtain⟨n',hn'⟩:∃n,n=s.cond.length:=⟨_,rfl⟩;rw[←hn]at h0;rw[←hn']at h0';rw[←hn,←hn'];obtain⟨W0,hW0⟩:∃W0,W0=((w.alloc (.cells #[.bool p.pre,.int .i64 p.flag,.bool p.cross,.string p.strip,.string p.add,.slice A n cap] 123)).alloc (.cells #[.bool s.pre,.int .i64 s.flag,.bool s.cross,.string s.strip,.string s.add,.slice A' n' cap'] 123)):=⟨_,rfl⟩;have hb0:Below w.heap.size w W0:=by
  rw[hW0];exact((Below.refl _ _).alloc (Nat.le_refl _) _).alloc (by rw[World.size_alloc];omega) _
 have HB:=hid hb0;have CG:=hid (rtogether_any W0 _ _ p s (h0.keep hb0) (h0'.keep hb0));have CP:=hid (fun wx (hb:Below w.heap.size w wx)=>rapplies_any wx _ p wd (h0.keep hb) hf hw (tabs_below hT hb));have CS:=hid (fun wx (hb:Below w.heap.size w wx)=>rapplies_any wx _ s wd (h0'.keep hb) hf' hw (tabs_below hT hb));have BX:=hid (show∀w1,Below W0.heap.size W0 w1→
   (w1.cell? ⟨w.heap.size,0,none⟩=some (.bool p.pre)∧w1.cell? ⟨w.heap.size,1,none⟩=some (.int .i64 p.flag)∧w1.cell? ⟨w.heap.size,2,none⟩=some (.bool p.cross)∧w1.cell? ⟨w.heap.size,3,none⟩=some (.string p.strip)∧w1.cell? ⟨w.heap.size,4,none⟩=some (.string p.add)∧w1.cell? ⟨w.heap.size,5,none⟩=some (.slice A n cap))∧
   (w1.cell? ⟨w.heap.size+1,0,none⟩=some (.bool s.pre)∧w1.cell? ⟨w.heap.size+1,1,none⟩=some (.int .i64 s.flag)∧w1.cell? ⟨w.heap.size+1,2,none⟩=some (.bool s.cross)∧w1.cell? ⟨w.heap.size+1,3,none⟩=some (.string s.strip)∧w1.cell? ⟨w.heap.size+1,4,none⟩=some (.string s.add)∧w1.cell? ⟨w.heap.size+1,5,none⟩=some (.slice A' n' cap'))from fun w1 hb=>by
  rw[hW0]at hb;have h1:=box6 (w:=w.alloc (.cells #[.bool p.pre,.int .i64 p.flag,.bool p.cross,.string p.strip,.string p.add,.slice A n cap] 123)) hb;rw[World.size_alloc]at h1;have hb0:Below (w.alloc (.cells #[.bool p.pre,.int .i64 p.flag,.bool p.cross,.string p.strip,.string p.add,.slice A n cap] 123)).heap.size (w.alloc (.cells #[.bool p.pre,.int .i64 p.flag,.bool p.cross,.string p.strip,.string p.add,.slice A n cap] 123)) w1:=
   ((Below.refl _ _).alloc (Nat.le_refl _) _).trans (hb.mono (by rw[World.size_alloc (w.alloc _)];omega))
  exact⟨box6 hb0,h1⟩)
 have HW0:=hid hW0;have HN:=hid (both_no (p:=p) (s:=s) (wd:=wd));have HY:=hid (both_yes (p:=p) (s:=s) (wd:=wd));have hz1:=hf.strip;have hz2:=hf'.strip;have hz3:=hf.add;have hz4:=hf'.add;obtain⟨R,hR⟩:∃R,R=bothR p s wd:=⟨_,rfl⟩;rw[←hR]at HN HY⊢;obtain⟨b1,h1⟩:∃b,b=(p.pre&& !s.pre&&p.cross&&s.cross):=⟨_,rfl⟩;obtain⟨b2,h2⟩:∃b,b=okB (applyR p wd):=⟨_,rfl⟩;obtain⟨b3,h3⟩:∃b,b=okB (applyR s wd):=⟨_,rfl⟩;rw[←h1]at HN HY CG;rw[←h2]at HN HY CP;rw[←h3]at HN HY CS;obtain⟨ppre,pflag,pcross,pstrip,padd,pcond⟩:=p;obtain⟨spre,sflag,scross,sstrip,sadd,scond⟩:=s;dsimp only at HB CG CP CS BX HW0 HN HY hz1 hz2 hz3 hz4⊢;have wsum:IntKind.i64.wrap ((pstrip.size:Int)+sstrip.size)=(pstrip.size:Int)+sstrip.size:=IntWalk.i64_in _ (by omega);have hcs:(wd.size:Int)<(pstrip.size:Int)+sstrip.size∨¬(wd.size:Int)<(pstrip.size:Int)+sstrip.size:=Decidable.em _;clear h0 h0' hf hf' hT hb0 hn hn' h1 h2 h3 hR;go_enter Tryz.func162,Tryz.ntmps162;go_upto_region 1 with fail;rw[←HW0.out];clear hW0;obtain⟨⟨x0,x1,x2,x3,x4,x5⟩,y0,y1,y2,y3,y4,y5⟩:=BX.out W0 (Below.refl _ _);have hb0:=Below.refl W0.heap.size W0;cases b1 with
 | false=>
   have hz:=HN.out (by simp);subst hz;clear hcs hb0;go_wp2_with (go_at_call 221;refine CG.out.mono ?_;rintro e w1 ⟨rfl,hb⟩;have HX1:=hid hb;clear hb;obtain⟨⟨z0,z1,z2,z3,z4,z5⟩,u0,u1,u2,u3,u4,u5⟩:=BX.out w1 HX1.out);have HB1:=hid (HB.out.trans (HX1.out.mono HB.out.size));go_wp2_with fail;go_ret2;exact⟨rfl,HB1.out⟩
 | true=>
   clear hb0;rcases hcs with hlt|hge
   ·have hz:=HN.out (by rintro⟨_,h,_⟩;omega);subst hz;go_wp2_with (go_at_call 221;refine CG.out.mono ?_;rintro e w1 ⟨rfl,hb⟩;have HX1:=hid hb;clear hb;obtain⟨⟨z0,z1,z2,z3,z4,z5⟩,u0,u1,u2,u3,u4,u5⟩:=BX.out w1 HX1.out);have HB1:=hid (HB.out.trans (HX1.out.mono HB.out.size));clear x0 x1 x2 x3 x4 x5 y0 y1 y2 y3 y4 y5;obtain⟨⟨x0,x1,x2,x3,x4,x5⟩,y0,y1,y2,y3,y4,y5⟩:=BX.out w1 HX1.out;go_wp2_with fail;go_ret2;exact⟨rfl,HB1.out⟩
   ·go_wp2_with (go_at_call 221;refine CG.out.mono ?_;rintro e w1 ⟨rfl,hb⟩;have HX1:=hid hb;clear hb;obtain⟨⟨z0,z1,z2,z3,z4,z5⟩,u0,u1,u2,u3,u4,u5⟩:=BX.out w1 HX1.out);have HB1:=hid (HB.out.trans (HX1.out.mono HB.out.size));clear x0 x1 x2 x3 x4 x5 y0 y1 y2 y3 y4 y5;obtain⟨⟨x0,x1,x2,x3,x4,x5⟩,y0,y1,y2,y3,y4,y5⟩:=BX.out w1 HX1.out;go_wp2_with (go_at_call 222;refine(CP.out _ HB1.out).mono ?_);rintro e w2 ⟨rfl,hb⟩;have HB2:=hid (HB1.out.trans (hb.mono HB1.out.size));have HX2:=hid (HX1.out.trans (hb.mono HX1.out.size));clear x0 x1 x2 x3 x4 x5 y0 y1 y2 y3 y4 y5 hb;obtain⟨⟨x0,x1,x2,x3,x4,x5⟩,y0,y1,y2,y3,y4,y5⟩:=BX.out w2 HX2.out;cases b2 with
    | false=>
      have hz:=HN.out (by simp);subst hz;go_wp2_with fail;go_ret2;exact⟨rfl,HB2.out⟩
    | true=>
      go_wp2_with (go_at_call 222;refine(CS.out _ HB2.out).mono ?_);rintro e w3 ⟨rfl,hb⟩;have HB3:=hid (HB2.out.trans (hb.mono HB2.out.size));have HX3:=hid (HX2.out.trans (hb.mono HX2.out.size));clear x0 x1 x2 x3 x4 x5 y0 y1 y2 y3 y4 y5 hb;obtain⟨⟨x0,x1,x2,x3,x4,x5⟩,y0,y1,y2,y3,y4,y5⟩:=BX.out w3 HX3.out;cases b3 with
      | false=>
        have hz:=HN.out (by simp);subst hz;go_wp2_with fail;go_ret2;exact⟨rfl,HB3.out⟩
      | true=>
        obtain⟨k,hk⟩:∃k,k=wd.size-sstrip.size:=⟨_,rfl⟩;have hz:R=padd++wd.extract pstrip.size k++sadd:=by rw[hk];exact HY.out (by simp) (by omega) (by simp) (by simp)
        have HZ:=hid hz;have e1:IntKind.i64.wrap ((wd.size:Int)-sstrip.size)=(k:Int):=by rw[IntWalk.i64_in _ (by omega)];omega
        have e2:(wd.size:Int)-sstrip.size=(k:Int):=by omega
        have q1:(0:Int)≤pstrip.size:=by omega
        have q2:(pstrip.size:Int)≤k:=by omega
        have q3:(k:Int)≤wd.size:=by omega
        have q4:(0:Int)≤k:=by omega
        have e3:IntKind.i64.wrap (k:Int)=(k:Int):=IntWalk.i64_in _ (by omega);have hes:(wd.extract pstrip.size k).size=k-pstrip.size:=by rw[ByteArray.size_extract];omega
        have q5:¬9223372036854775807<padd.size+(k-pstrip.size):=by omega
        have q6:¬9223372036854775807<padd.size+(k-pstrip.size)+sadd.size:=by omega
        have q7:(padd++wd.extract pstrip.size k).size=padd.size+(k-pstrip.size):=by rw[ByteArray.size_append,hes]
        have q8:¬9223372036854775807<padd.size+(min k wd.size-pstrip.size):=by omega
        have q9:¬9223372036854775807<padd.size+(min k wd.size-pstrip.size)+sadd.size:=by omega
        clear hk hz hge hz1 hz2 hz3 hz4 wsum;go_upto_region 5 with fail;go_quiet (fail);go_wp2_with fail;go_ret2;rw[HZ.out];exact⟨by rw[r_okB];rfl,below_drewN HB3.out _⟩
end Go.Proofs.YtfehpcbmdancoaaGreatDoor
