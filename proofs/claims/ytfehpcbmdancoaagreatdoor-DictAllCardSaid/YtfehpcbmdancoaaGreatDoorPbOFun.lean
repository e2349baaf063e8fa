/- Items as functions in a list: function, checks, hold; Starts, Ends. -/
import Derived.Shelf.Abstract
import Derived.Laws.EntriesVeiled
import Derived.Deep.RegionHeld3
import Derived.Test.YtfehpcbmdancoaaGreatDoorPbORows
import Derived.Test.YtfehpcbmdancoaaGreatDoorPbSGives
namespace Go.Proofs.YtfehpcbmdancoaaGreatDoor
open Go Go.RowKit
def BoxAt (w0 w:World)(q:Nat)(it:It):Prop:=∃a n c,w.heap[q]?=some (.cells #[.bool it.any,.bool it.not,.slice a n c] 236 (0,0))∧IntsAt w0 (.slice a n c) it.set
def FunIs (w0 w:World)(f:Value)(it:It):Prop:=
 (it.any=true∧f= .func (.func 273) #[] #[])∨
 (it.any=false∧it.not=true∧∃p q,f= .func (.func 274) #[] #[.pointer (some ⟨p,0,none⟩)]∧w.heap[p]?=some (.cells #[.func (.func 272) #[] #[.pointer (some ⟨q,0,none⟩)]] 73 (0,0))∧BoxAt w0 w q it)∨
 (it.any=false∧it.not=false∧∃q,f= .func (.func 272) #[] #[.pointer (some ⟨q,0,none⟩)]∧BoxAt w0 w q it)
theorem cell_box {w:World}{q:Nat}{cs:Array Value}{t:TypeId}(h:w.heap[q]?=some (.cells cs t (0,0)))(j:Nat):w.cell? ⟨q,j,none⟩=cs[j]?:=by
 simp[World.cell?,h]
theorem FunIs.still {w0 w w':World}{f:Value}{it:It}(h:FunIs w0 w f it)(hb:∀(b:Nat) (cs:Array Value) (t:TypeId),w.heap[b]?=some (Obj.cells cs t (0,0))→t=236∨t=73→w'.heap[b]?=w.heap[b]?):FunIs w0 w' f it:=by
 rcases h with h|⟨h1,h2,p,q,h3,h4,a,n,c,h5,h6⟩|⟨h1,h2,q,h3,a,n,c,h5,h6⟩
 ·exact .inl h
 ·exact .inr (.inl ⟨h1,h2,p,q,h3,(hb p _ _ h4 (.inr rfl)).trans h4,a,n,c,(hb q _ _ h5 (.inl rfl)).trans h5,h6⟩)
 ·exact .inr (.inr ⟨h1,h2,q,h3,a,n,c,(hb q _ _ h5 (.inl rfl)).trans h5,h6⟩)
theorem FunIs.keep {w0 w w':World}{f:Value}{it:It}(h:FunIs w0 w f it)(hb:Below w.heap.size w w'):FunIs w0 w' f it:=
 h.still fun b _ _ hg _=>hb.block b (Array.getElem?_eq_some_iff.1 hg).1
set_option maxRecDepth 100000 in
set_option maxHeartbeats 1000000 in
theorem fun1_any (w0 w:World)(q:Nat)(it:It)(c:Int)(h:BoxAt w0 w q it)(hb:Below w0.heap.size w0 w):
  Calls Tryz.prog 272 #[.int .i64 c,.pointer (some ⟨q,0,none⟩)] w fun e w'=>e= .returned (.bool (it.set.contains c))∧w'=w:=by
 obtain⟨a,n,cp,hq,hi⟩:=h
 have C:=Lib.hid (contains_any w _ it.set c (hi.keep hb))
 have z2:=cell_box hq 2
 simp at z2
 clear hq hi hb
 go_enter Tryz.func272,Tryz.ntmps272
 go_wp2_with (go_at_call 153;refine C.out.mono ?_;rintro e w1 ⟨rfl,rfl⟩)
 go_ret
 exact⟨ret_bool (by simp),rfl⟩
set_option maxRecDepth 100000 in
set_option maxHeartbeats 1000000 in
theorem fun2_any (w:World)(c:Int):Calls Tryz.prog 273 #[.int .i64 c] w fun e w'=>e= .returned (.bool true)∧w'=w:=by
 go_enter Tryz.func273,Tryz.ntmps273
 go_wp2
 go_ret
 exact⟨rfl,rfl⟩
set_option maxRecDepth 100000 in
set_option maxHeartbeats 1000000 in
theorem fun3_any (w0 w:World)(p q:Nat)(it:It)(c:Int)(hp:w.heap[p]?=some (.cells #[.func (.func 272) #[] #[.pointer (some ⟨q,0,none⟩)]] 73 (0,0)))(h:BoxAt w0 w q it)(hb:Below w0.heap.size w0 w):
  Calls Tryz.prog 274 #[.int .i64 c,.pointer (some ⟨p,0,none⟩)] w fun e w'=>e= .returned (.bool (!it.set.contains c))∧w'=w:=by
 have C:=Lib.hid (fun1_any w0 w q it c h hb)
 have z0:=cell_box hp 0
 simp at z0
 clear hp h hb
 go_enter Tryz.func274,Tryz.ntmps274
 go_wp2_with (go_at_call 272;refine C.out.mono ?_;rintro e w1 ⟨rfl,rfl⟩)
 go_ret
 exact⟨ret_bool (by simp),rfl⟩
theorem BoxAt.keep {w0 w w':World}{q:Nat}{it:It}(h:BoxAt w0 w q it)(hb:Below w.heap.size w w'):BoxAt w0 w' q it:=by
 obtain⟨a,n,c,h1,h2⟩:=h
 exact⟨a,n,c,(hb.block q (Array.getElem?_eq_some_iff.1 h1).1).trans h1,h2⟩
theorem fun_call {w0 w:World}{f:Value}{it:It}(h:FunIs w0 w f it)(hb:Below w0.heap.size w0 w):∃(k:Nat) (cap:Array Value),f= .func (.func k) #[] cap∧(∀args w,(callFunc k args).run Tryz.prog w= .ok (.enter k args) w)∧
  ∀wx,Below w.heap.size w wx→∀c,Calls Tryz.prog k (#[.int .i64 c]++cap) wx fun e w'=>e= .returned (.bool (hasP it c))∧w'=wx:=by
 have hB:∀wx,Below w.heap.size w wx→Below w0.heap.size w0 wx:=fun wx hx=>hb.trans (hx.mono hb.size)
 rcases h with ⟨h1,rfl⟩|⟨h1,h2,p,q,rfl,h4,h5⟩|⟨h1,h2,q,rfl,h5⟩
 ·exact⟨_,_,rfl,enters_of Tryz.func273 rfl rfl,fun wx _ c=>by
   have:=fun2_any wx c
   rwa[show hasP it c=true by unfold hasP;rw[h1];rfl]⟩
 ·exact⟨_,_,rfl,enters_of Tryz.func274 rfl rfl,fun wx hx c=>by
   have:=fun3_any w0 wx p q it c ((hx.block p (Array.getElem?_eq_some_iff.1 h4).1).trans h4) (h5.keep hx) (hB wx hx)
   rwa[show hasP it c= !it.set.contains c by unfold hasP;rw[h1,h2];simp]⟩
 ·exact⟨_,_,rfl,enters_of Tryz.func272 rfl rfl,fun wx hx c=>by
   have:=fun1_any w0 wx q it c (h5.keep hx) (hB wx hx)
   rwa[show hasP it c=it.set.contains c by unfold hasP;rw[h1,h2];simp]⟩
set_option maxRecDepth 100000 in
set_option maxHeartbeats 1000000 in
theorem function_any (w0 w:World)(it:It)(sv:Value)(h:IntsAt w0 sv it.set):
  Calls Tryz.prog 270 #[.agg #[.bool it.any,.bool it.not,sv]] w fun e w'=>∃f,e= .returned f∧FunIs w0 w' f it∧Below w.heap.size w w':=by
 obtain⟨A,cap,rfl,-⟩:=ints_open h
 have HI:=Lib.hid h
 clear h
 have hb0:=(Below.refl w.heap.size w).alloc (Nat.le_refl _) (.cells #[.bool it.any,.bool it.not,.slice A it.set.length cap] 236)
 have HB:=Lib.hid (hb0.alloc hb0.size (.cells #[.func (.func 272) #[] #[.pointer (some ⟨w.heap.size,0,none⟩)]] 73))
 clear hb0
 obtain⟨any,neg,set⟩:=it
 dsimp only at HI HB⊢
 have HQ:=Lib.hid (show BoxAt w0 ((w.alloc (.cells #[.bool any,.bool neg,.slice A set.length cap] 236)).alloc (.cells #[.func (.func 272) #[] #[.pointer (some ⟨w.heap.size,0,none⟩)]] 73)) w.heap.size ⟨any,neg,set⟩from
  ⟨_,_,_,by rw[Below.heap_alloc _ _ _ (by simp)];exact World.alloc_heap_new w _,HI.out⟩)
 have HP:=Lib.hid (show ((w.alloc (.cells #[.bool any,.bool neg,.slice A set.length cap] 236)).alloc (.cells #[.func (.func 272) #[] #[.pointer (some ⟨w.heap.size,0,none⟩)]] 73)).heap[w.heap.size+1]?=some (.cells #[.func (.func 272) #[] #[.pointer (some ⟨w.heap.size,0,none⟩)]] 73 (0,0))by
  have:=World.alloc_heap_new (w.alloc (.cells #[.bool any,.bool neg,.slice A set.length cap] 236)) (.cells #[.func (.func 272) #[] #[.pointer (some ⟨w.heap.size,0,none⟩)]] 73)
  rwa[World.size_alloc]at this)
 cases any with
 | true=>
   go_enter Tryz.func270,Tryz.ntmps270
   go_wp2_with fail
   go_ret
   exact⟨_,rfl,.inl ⟨rfl,rfl⟩,HB.out⟩
 | false=>
   cases neg with
   | true=>
     go_enter Tryz.func270,Tryz.ntmps270
     go_wp2_with fail
     go_ret
     exact⟨_,rfl,.inr (.inl ⟨rfl,rfl,_,_,rfl,HP.out,HQ.out⟩),HB.out⟩
   | false=>
     go_enter Tryz.func270,Tryz.ntmps270
     go_wp2_with fail
     go_ret
     exact⟨_,rfl,.inr (.inr ⟨rfl,rfl,_,rfl,HQ.out⟩),HB.out⟩
end Go.Proofs.YtfehpcbmdancoaaGreatDoor
namespace Go.Proofs.YtfehpcbmdancoaaGreatDoor
open Go Go.RowKit
theorem Tryz.infosN300:(Tryz.prog.info? 300).map (fun i=>(i.zero,i.size,i.bytes))=some (some (.agg #[.nilFunc]),1,8):=by kernel_rfl
theorem FunIs.grown {w0 w w':World}{f v:Value}{it:It}{B n:Nat}{xs:List Value}(h:FunIs w0 w f it)(hr:w.ownsRow B 300 1 v n xs)(hg:w.grownBy w' v.ownBlock):FunIs w0 w' f it:=by
 refine h.still fun b cs t hb ht=>hg.block b (Array.getElem?_eq_some_iff.1 hb).1 fun e=>?_
 rcases hr.2 with ⟨rfl,_⟩|⟨g,cap,cur,rfl,_,h2,_⟩
 ·cases e
 ·simp only[Value.ownBlock,Option.some.injEq]at e
  subst e
  rw[hb]at h2
  simp only[Option.some.injEq,Obj.cells.injEq]at h2
  have h3:=h2.2.1
  rcases ht with rfl|rfl<;>exact absurd h3 (by decide)
def FunsIs (w0 w:World)(fs:List Value)(l:List It):Prop:=∀(i:Nat) it,l[i]?=some it→∃f,fs[i]?=some f∧FunIs w0 w f it
def FunsAt (w0 w:World)(v:Value)(l:List It):Prop:=∃fs,w.ownsRow w0.heap.size 300 1 v l.length fs∧FunsIs w0 w fs l
theorem FunsIs.snoc {w0 w:World}{fs:List Value}{l:List It}{k:Nat}{f:Value}{it:It}(h:FunsIs w0 w fs (l.take k))(hl:fs.length=k)(hit:l[k]?=some it)(hf:FunIs w0 w f it):FunsIs w0 w (fs++[f]) (l.take (k+1)):=by
 intro i x hi
 have hik:i<k+1:=by
  have:=(List.getElem?_eq_some_iff.1 hi).1
  rw[List.length_take]at this;omega
 rw[List.getElem?_take_of_lt hik]at hi
 rcases Nat.lt_or_ge i k with h1|h1
 ·obtain⟨f',h2,h3⟩:=h i x (by rw[List.getElem?_take_of_lt h1];exact hi)
  exact⟨f',by rw[List.getElem?_append_left (by omega)];exact h2,h3⟩
 ·obtain rfl:i=k:=by omega
  rw[hit]at hi
  obtain rfl:=Option.some.inj hi
  exact⟨f,by rw[List.getElem?_append_right (by omega),hl,Nat.sub_self];rfl,hf⟩
set_option maxRecDepth 100000 in
set_option maxHeartbeats 4000000 in
theorem checks_any (w:World)(v:Value)(l:List It)(h:ItemsAt w v l)(hn:l.length≤1000000000000):
  Calls Tryz.prog 265 #[v] w fun e w'=>∃v',e= .returned v'∧FunsAt w w' v' l∧Below w.heap.size w w':=by
 obtain⟨i1,hi1,hz10,hz11,hz12⟩:=info_parts Tryz.infosN300
 obtain⟨A,cap,rfl,hA⟩:=items_openO h
 have HA:=Lib.hid hA
 clear hA h
 obtain⟨n,hn'⟩:∃n,n=l.length:=⟨_,rfl⟩
 rw[←hn']at hn⊢
 have HN:=Lib.hid hn'
 clear hn'
 go_enter Tryz.func265,Tryz.ntmps265
 go_wp2_with (at_make;refine wpList_make_own _ rfl _ _ 295 rfl w.heap.size 300 i1 (.agg #[.nilFunc]) 1 Tryz.underlying295 hi1 hz10 hz11 .i64 .i64 _ n rfl rfl rfl (by rw[hz12];omega) (by unfold maxLen;omega) (Nat.le_refl _) ?_)
 intro w1 hown1 hgrow1
 have H1:=Lib.hid (show (∃fs:List Value,fs.length=0∧w1.ownsRow w.heap.size 300 1 (.slice (some ⟨w.heap.size,0,none⟩) 0 n) 0 fs∧FunsIs w w1 fs (l.take 0))∧Below w.heap.size w w1 from ⟨⟨[],rfl,hown1,fun i it hi=>by simp at hi⟩,(Below.refl _ _).grown hgrow1 (Nat.le_refl _) (fun k hk=>by cases hk)⟩)
 clear hown1 hgrow1
 go_wp2_with fail
 go_loopg [3,5,11] n (fun g v' _ i wr=>∃k:Nat,k+g=n∧i= .int .i64 k∧Hid ((∃fs:List Value,fs.length=k∧wr.ownsRow w.heap.size 300 1 v' k fs∧FunsIs w wr fs (l.take k))∧Below w.heap.size w wr))
 case atStart=>exact⟨0,by omega,rfl,H1⟩
 case round=>
  obtain⟨k,hk,rfl,HM⟩:=hrel
  rcases Nat.eq_zero_or_pos gk with h0|h0
  ·have hkn:k=n:=by omega
   subst hkn
   have hfull:l.take k=l:=List.take_of_length_le (by have:=HN.out;omega)
   rw[hfull]at HM
   obtain⟨⟨fs,hfl,hrow,hfs⟩,hb⟩:=HM.out
   have HF:=Lib.hid (And.intro (show FunsAt w wr u3 l from ⟨fs,by rw[←HN.out];exact hrow,hfs⟩) hb)
   clear HM hfl hrow hfs hb hfull
   go_wp2_with fail
   go_ret
   exact⟨_,rfl,HF.out.1,HF.out.2⟩
  ·have hkn:(k:Int)<n:=by omega
   obtain⟨it,hit⟩:∃it,l[k]?=some it:=⟨_,List.getElem?_eq_getElem (by have:=HN.out;omega)⟩
   obtain⟨q,o,rfl,hq,-,m0,m1,a,m,cp,m2,hs⟩:=HA.out k it hit
   obtain⟨⟨fs,hfl,hrow,hfs⟩,hb⟩:=HM.out
   have p0:=(hb.cell (p:=⟨q,o+k*3,none⟩) hq).trans m0
   have p1:=(hb.cell (p:=⟨q,o+k*3+1,none⟩) hq).trans m1
   have p2:=(hb.cell (p:=⟨q,o+k*3+2,none⟩) hq).trans m2
   have tk1:(0:Int)≤k:=by omega
   have hb0:=Lib.hid ((Below.refl wr.heap.size wr).alloc (Nat.le_refl _) (.cells #[.bool it.any,.bool it.not,.slice a m cp] 236))
   have FC:=Lib.hid (function_any w (wr.alloc (.cells #[.bool it.any,.bool it.not,.slice a m cp] 236)) it (.slice a m cp) hs)
   have HR:=Lib.hid (And.intro hrow (And.intro hfs (And.intro hb (And.intro hfl hit))))
   clear m0 m1 m2 hs hit hrow hfs hb hfl HM
   go_wp2_with (go_at_call 270;refine FC.out.mono ?_)
   rintro e w2 ⟨f,rfl,hf,hb2⟩
   have hbw:Below wr.heap.size wr w2:=hb0.out.trans (hb2.mono hb0.out.size)
   obtain⟨fk,fcap,rfl,-,-⟩:=fun_call hf (HR.out.2.2.1.trans (hbw.mono HR.out.2.2.1.size))
   have hba:=(Below.refl w2.heap.size w2).alloc (Nat.le_refl _) (.cells #[.func (.func fk) #[] fcap] 300)
   have hrow2:=own_keep9 (own_keep9 HR.out.1 hbw) hba
   have HS:=Lib.hid (show (w2.alloc (.cells #[.func (.func fk) #[] fcap] 300)).ownsRow w.heap.size 300 1 u3 k fs∧FunIs w (w2.alloc (.cells #[.func (.func fk) #[] fcap] 300)) (.func (.func fk) #[] fcap) it∧FunsIs w (w2.alloc (.cells #[.func (.func fk) #[] fcap] 300)) fs (l.take k)∧Below w.heap.size w (w2.alloc (.cells #[.func (.func fk) #[] fcap] 300))from
    ⟨hrow2,hf.keep hba,fun i x hi=>by obtain⟨f',h2,h3⟩:=HR.out.2.1 i x hi;exact⟨f',h2,(h3.keep hbw).keep hba⟩,(HR.out.2.2.1.trans (hbw.mono HR.out.2.2.1.size)).trans (hba.mono (by have:=hbw.size;have:=HR.out.2.2.1.size;omega))⟩)
   have hkm:k+1≤1000000000000:=by omega
   clear hbw hba hrow2 hf hb2
   go_wp2_with (at_builtin;refine wpList_append_own _ rfl _ _ 295 rfl w.heap.size 300 i1 (.agg #[.nilFunc]) 1 8 Tryz.underlying295 hi1 hz10 hz11 hz12 rfl (by decide) u3 k fs rfl HS.out.1 ⟨w2.heap.size,0,none⟩ 1 1 [.func (.func fk) #[] fcap] rfl rfl (news_row _ _ _) (by intro u hu;simp at hu;subst hu;rfl) (by unfold maxLen;omega) (by omega) (HS.out.2.2.2.size) ?_)
   intro v' w4 hown4 hgrow4 _
   have HM2:=Lib.hid (show (∃fs:List Value,fs.length=k+1∧w4.ownsRow w.heap.size 300 1 v' (k+1) fs∧FunsIs w w4 fs (l.take (k+1)))∧Below w.heap.size w w4 from
    ⟨⟨fs++[.func (.func fk) #[] fcap],by rw[List.length_append,HR.out.2.2.2.1];rfl,hown4,FunsIs.snoc (fun i x hi=>by obtain⟨f',h2,h3⟩:=HS.out.2.2.1 i x hi;exact⟨f',h2,h3.grown HS.out.1 hgrow4⟩) HR.out.2.2.2.1 HR.out.2.2.2.2 (HS.out.2.1.grown HS.out.1 hgrow4)⟩,HS.out.2.2.2.grown hgrow4 HS.out.2.2.2.size (fun z hz=>(HS.out.1.lt z hz).1)⟩)
   clear hown4 hgrow4 hkm
   go_wp2_with fail
   go_roundg (gk-1)
   case measure=>omega
   case rel=>exact⟨k+1,by omega,by go_num,HM2⟩
theorem all_upto {l:List It}{cs:List Int}{n:Nat}(hn:n=l.length)(hl:l.length≤cs.length)(h:∀j,j<n→∀it c,l[j]?=some it→cs[j]?=some c→hasP it c=true):(l.zip cs).all (fun x=>hasP x.1 x.2)=true:=by
 rw[List.all_eq_true]
 intro x hx
 obtain⟨j,hj,hjx⟩:=List.getElem_of_mem hx
 rw[List.length_zip]at hj
 rw[List.getElem_zip]at hjx
 subst hjx
 exact h j (by omega) _ _ (List.getElem?_eq_getElem (by omega)) (List.getElem?_eq_getElem (by omega))
theorem all_not {l:List It}{cs:List Int}{k:Nat}{it:It}{c:Int}(h1:l[k]?=some it)(h2:cs[k]?=some c)(h:hasP it c=false):(l.zip cs).all (fun x=>hasP x.1 x.2)=false:=by
 rw[List.all_eq_false]
 exact⟨(it,c),List.mem_of_getElem? (i:=k) (by rw[List.getElem?_zip_eq_some];exact⟨h1,h2⟩),by simp[h]⟩
set_option maxRecDepth 100000 in
set_option maxHeartbeats 4000000 in
theorem hold_any (w0 w:World)(v vc:Value)(l:List It)(cs:List Int)(h:FunsAt w0 w v l)(hc:IntsAt w vc cs)(hl:l.length≤cs.length)(hb0:Below w0.heap.size w0 w):
  Calls Tryz.prog 264 #[v,vc] w fun e w'=>e= .returned (.bool ((l.zip cs).all fun x=>hasP x.1 x.2))∧Below w.heap.size w w':=by
 obtain⟨fs,hrow,hfs⟩:=h
 have hbig:=ints_bd hc
 obtain⟨A,cap,rfl,hA⟩:=ints_open hc
 have HR:=Lib.hid (And.intro hrow hfs)
 obtain⟨a,cp,rfl,hrd⟩:∃a c,v= .slice a l.length c∧∀k,k<l.length→∃g,a=some ⟨g,0,none⟩∧g<w.heap.size∧l.length≤c∧∀u,fs[k]?=some u→w.cell? ⟨g,k,none⟩=some u:=by
  have hcl:= @World.ownsRow.cells _ _ _ _ _ _ _ hrow
  rcases hrow.2 with ⟨e,e0⟩|⟨g,c,cur,e,_,h2,h3,_⟩
  ·exact⟨none,0,by rw[e,e0],fun k hk=>by omega⟩
  ·subst e
   refine⟨_,_,rfl,fun k _=>⟨g,rfl,(Array.getElem?_eq_some_iff.1 h2).1,h3,fun u hu=>?_⟩⟩
   have:=hcl (g:=g) rfl k u hu
   rwa[add9]at this
 obtain⟨n,hn⟩:∃n,n=l.length:=⟨_,rfl⟩
 rw[←hn]at hl hrd⊢
 have HN:=Lib.hid (And.intro hn hl)
 have HRD:=Lib.hid (And.intro hrd (And.intro hA hb0))
 have hncs:(n:Int)≤cs.length:=by omega
 clear hn hrd hA hrow hfs hc hb0
 go_enter Tryz.func264,Tryz.ntmps264
 go_wp2
 go_loopg [5,6,9] n (fun g _ _ i wr=>∃k:Nat,k+g=n∧i= .int .i64 k∧Hid (Below w.heap.size w wr)∧Hid (∀j,j<k→∀it c,l[j]?=some it→cs[j]?=some c→hasP it c=true))
 case atStart=>exact⟨0,by omega,rfl,Lib.hid (Below.refl _ _),Lib.hid fun j hj=>absurd hj (Nat.not_lt_zero _)⟩
 case round=>
  obtain⟨k,hk,rfl,HB,HP⟩:=hrel
  rcases Nat.eq_zero_or_pos gk with h0|h0
  ·have hkn:k=n:=by omega
   subst hkn
   have HF:=Lib.hid (all_upto HN.out.1 (by have:=HN.out;omega) HP.out)
   go_wp2_with fail
   go_ret
   exact⟨ret_bool HF.out.symm,HB.out⟩
  ·have hkn:(k:Int)<n:=by omega
   obtain⟨it,hit⟩:∃it,l[k]?=some it:=⟨_,List.getElem?_eq_getElem (by have:=HN.out.1;omega)⟩
   obtain⟨c,hc⟩:∃c,cs[k]?=some c:=⟨_,List.getElem?_eq_getElem (by have:=HN.out;omega)⟩
   obtain⟨g,rfl,hg,hgc,hcell⟩:=HRD.out.1 k (by omega)
   obtain⟨f,hfk,hf⟩:=HR.out.2 k it hit
   obtain⟨q,o,rfl,hq,hqc,cq⟩:=HRD.out.2.1 k c hc
   have hcg:=hcell f hfk
   have p0:=(HB.out.cell (p:=⟨g,k,none⟩) hg).trans hcg
   have p1:=(HB.out.cell (p:=⟨q,o+k,none⟩) hq).trans cq
   have hqw:q<wr.heap.size:=Nat.lt_of_lt_of_le hq HB.out.size
   have tk1:(0:Int)≤k:=by omega
   have tk2:(k:Int)<cs.length:=by omega
   have hbA:=(Below.refl wr.heap.size wr).alloc (Nat.le_refl _) (.cells #[f] 300)
   have hbW:Below w.heap.size w (wr.alloc (.cells #[f] 300)):=HB.out.trans (hbA.mono HB.out.size)
   have hbV:Below w0.heap.size w0 (wr.alloc (.cells #[f] 300)):=HRD.out.2.2.trans (hbW.mono HRD.out.2.2.size)
   obtain⟨fk,fcap,rfl,el,hcall⟩:=fun_call (hf.keep hbW) hbV
   have FC:=Lib.hid (fun m=>hcall _ (below_drewN (Below.refl _ (wr.alloc (.cells #[.func (.func fk) #[] fcap] 300))) m) c)
   have HB2:=Lib.hid hbW
   have HC:=Lib.hid (And.intro hit hc)
   clear hit hc hcell hfk hf cq hcg hbA hbW hbV hcall
   go_wp2_with fail
   cases hh:hasP it c with
   | true=>
     rw[hh]at FC
     have HH:=Lib.hid hh
     clear hh
     go_quiet ((refine (FC.out _).mono ?_;rintro e w ⟨rfl,rfl⟩;exact⟨rfl,_,rfl⟩))
     go_wp2_with fail
     go_roundg (gk-1)
     case measure=>omega
     case rel=>
      refine⟨k+1,by omega,by go_num,Lib.hid (below_drewN HB2.out _),Lib.hid fun j hj it' c' h1 h2=>?_⟩
      rcases Nat.lt_or_ge j k with hjk|hjk
      ·exact HP.out j hjk it' c' h1 h2
      ·obtain rfl:j=k:=by omega
       rw[HC.out.1]at h1
       rw[HC.out.2]at h2
       rw[←Option.some.inj h1,←Option.some.inj h2]
       exact HH.out
   | false=>
     rw[hh]at FC
     have HF:=Lib.hid (all_not HC.out.1 HC.out.2 hh)
     clear hh
     go_quiet ((refine (FC.out _).mono ?_;rintro e w ⟨rfl,rfl⟩;exact⟨rfl,_,rfl⟩))
     go_wp2_with fail
     go_ret
     exact⟨ret_bool HF.out.symm,below_drewN HB2.out _⟩
end Go.Proofs.YtfehpcbmdancoaaGreatDoor
