/- A row of entries that grows. -/
import Derived.Deep.AppendLies
import Derived.Deep.RegionLaw
import Derived.Deep.CutRange
import Derived.Deep.DeepCutAuto
import Derived.Laws.MakeOwn
import Derived.Deep.WholeRow
import Derived.Great.BuildSlice
import Derived.Laws.ResultCell
import Derived.Test.YtfehpcbmdancoaaGreatDoorPdPbNPlain
set_option maxRecDepth 100000
set_option maxHeartbeats 4000000
namespace Go.Proofs.YtfehpcbmdancoaaGreatDoor
open Go Go.RowKit Go.Lib
def EnsRow (w:World)(xs:List Value)(es:List En)(N:Nat→Prop):Prop:=
 ∀(i:Nat) e,es[i]?=some e→xs[i*2]?=some (.string e.word)∧∃A cap,xs[i*2+1]?=some (.slice A e.flags.length cap)∧IntsAt w (.slice A e.flags.length cap) e.flags∧∀b,(Value.slice A e.flags.length cap).ownBlock=some b→b<w.heap.size∧¬N b
theorem EnsRow.still {w w':World}{xs:List Value}{es:List En}{N N':Nat→Prop}(h:EnsRow w xs es N)(hs:w.heap.size≤w'.heap.size)(hb:∀b,b<w.heap.size→¬N b→w'.heap[b]?=w.heap[b]?)(hN:∀b,b<w.heap.size→N' b→N b):EnsRow w' xs es N':=by
 intro i e hi;obtain⟨h1,A,cap,h3,h4,h5⟩:=h i e hi;exact⟨h1,A,cap,h3,h4.still hs fun b hv hlt=>hb b hlt (h5 b hv).2,fun b hv=>⟨Nat.lt_of_lt_of_le (h5 b hv).1 hs,fun hn=>(h5 b hv).2 (hN b (h5 b hv).1 hn)⟩⟩
theorem EnsRow.snoc {w:World}{xs:List Value}{es:List En}{N:Nat→Prop}(h:EnsRow w xs es N)(hl:xs.length=es.length*2){e:En}{A:Option Addr}{cap:Nat}(hv:IntsAt w (.slice A e.flags.length cap) e.flags)(hb:∀b,(Value.slice A e.flags.length cap).ownBlock=some b→b<w.heap.size∧¬N b):EnsRow w (xs++[.string e.word,.slice A e.flags.length cap]) (es++[e]) N:=by
 intro i x hi;rcases Nat.lt_or_ge i es.length with hlt|hge
 ·rw[List.getElem?_append_left hlt]at hi;obtain⟨h1,B,c,h3,h4,h5⟩:=h i x hi;exact⟨by rw[List.getElem?_append_left (by omega)];exact h1,B,c,by rw[List.getElem?_append_left (by omega)];exact h3,h4,h5⟩
 ·rw[List.getElem?_append_right hge]at hi;have h0:i-es.length=0:=by
   have:=(List.getElem?_eq_some_iff.1 hi).1;simp at this;omega
  rw[h0]at hi;obtain rfl:e=x:=by simpa using hi
  obtain rfl:i=es.length:=by omega
  refine⟨?_,A,cap,?_,hv,hb⟩
  ·rw[List.getElem?_append_right (by omega),hl,Nat.sub_self];rfl
  ·rw[List.getElem?_append_right (by omega),hl,show es.length*2+1-es.length*2=1 by omega];rfl
structure EQ (w0 w:World)(v:Value)(xs:List Value)(es:List En):Prop where
 row:w.ownsRow w0.heap.size 99 2 v es.length xs
 ents:EnsRow w xs es (fun b=>v.ownBlock=some b)
 below:Below w0.heap.size w0 w
theorem EQ.start (w:World):EQ w w (.slice none 0 0) [] []:=⟨World.ownsRow_nil _ _ _ _,fun i e h=>by simp at h,Below.refl _ _⟩
theorem EQ.keep {w0 w w':World}{v:Value}{xs:List Value}{es:List En}(h:EQ w0 w v xs es)(hb:Below w.heap.size w w'):EQ w0 w' v xs es:=
 ⟨own_keep9 h.row hb,h.ents.still hb.size (fun b hlt _=>hb.block b hlt) (fun _ _ hn=>hn),h.below.trans (hb.mono h.below.size)⟩
theorem EQ.more {w0 w w':World}{v v':Value}{xs:List Value}{es:List En}{e:En}{A:Option Addr}{cap:Nat}(h:EQ w0 w v xs es)
  (hown:w'.ownsRow w0.heap.size 99 2 v' (es.length+1) (xs++[.string e.word,.slice A e.flags.length cap])) (hgrow:w.grownBy w' v.ownBlock)
  (hwh:v'.ownBlock=v.ownBlock∨∀g,v'.ownBlock=some g→w.heap.size≤g) (hv:IntsAt w (.slice A e.flags.length cap) e.flags) (hb:∀b,(Value.slice A e.flags.length cap).ownBlock=some b→b<w.heap.size∧v.ownBlock≠some b):EQ w0 w' v' (xs++[.string e.word,.slice A e.flags.length cap]) (es++[e]):=by
 have hlo:∀z,v.ownBlock=some z→w0.heap.size≤z:=fun z hz=>(h.row.lt z hz).1;refine⟨by rw[List.length_append];exact hown,?_,h.below.grown hgrow h.below.size hlo⟩;have h1:EnsRow w (xs++[.string e.word,.slice A e.flags.length cap]) (es++[e]) (fun b=>v.ownBlock=some b):=h.ents.snoc h.row.1 hv fun b hvb=>hb b hvb;refine h1.still hgrow.size (fun b hlt hn=>hgrow.block b hlt (fun e=>hn e.symm)) (fun b hlt hn=>?_);rcases hwh with e|e
 ·exact e▸hn
 ·have:=e b hn;omega
theorem EQ.reads {w0 w:World}{v:Value}{xs:List Value}{es:List En}(h:EQ w0 w v xs es):EntsAt w v es:=by
 have hc:= @World.ownsRow.cells _ _ _ _ _ _ _ h.row;rcases h.row.2 with ⟨rfl,h0⟩|⟨g,cap,cur,rfl,hb,hg,hnc,hcm,_⟩
 ·exact .inl ⟨List.eq_nil_of_length_eq_zero h0,_,_,rfl⟩
 ·refine .inr ⟨g,0,cap,rfl,(Array.getElem?_eq_some_iff.1 hg).1,hnc,hcm,fun i e hi=>?_⟩;obtain⟨h1,A,c,h3,h4,_⟩:=h.ents i e hi;rw[Nat.zero_add];exact⟨by rw[←add9];exact hc (g:=g) rfl _ _ h1,A,c,by rw[←add9];exact hc (g:=g) rfl _ _ h3,h4⟩
theorem en_one (W:ByteArray)(A:Option Addr)(n cp:Nat):∀u∈[Value.string W,.slice A n cp],u.oneCell'=true:=by
 intro u hu;simp only[List.mem_cons,List.not_mem_nil,or_false]at hu;rcases hu with rfl|rfl<;>rfl
theorem int_oneY (a:Int):∀u∈[Value.int .i64 a],u.oneCell'=true:=by
 intro u hu;simp only[List.mem_cons,List.not_mem_nil,or_false]at hu;subst hu;rfl
theorem Tryz.infosY99:(Tryz.prog.info? 99).map (fun i=>(i.zero,i.size,i.bytes))=some (some (.agg #[.string ⟨#[]⟩,.slice none 0 0]),2,40):=by kernel_rfl
theorem Tryz.infosY3:(Tryz.prog.info? 3).map (fun i=>(i.zero,i.size,i.bytes))=some (some (.int .i64 0),1,8):=by kernel_rfl
def EntAns (B:Nat)(l:List UInt8)(e:Ending)(w':World):Prop:=
 ∃W A n c b,e= .returned (.tuple #[.agg #[.string W,.slice A n c],.bool b])∧b=(entryL l).isSome∧∀en,entryL l=some en→W=en.word∧n=en.flags.length∧w'.ownsRow B 3 1 (.slice A n c) n (en.flags.map (Value.int .i64))
theorem own_less {w:World}{B B' e s n:Nat}{v:Value}{xs:List Value}(h:w.ownsRow B e s v n xs)(hb:B'≤B):w.ownsRow B' e s v n xs:=
 ⟨h.1,h.2.imp id fun ⟨g,cap,cur,h1,h2,h3⟩=>⟨g,cap,cur,h1,Nat.le_trans hb h2,h3⟩⟩
theorem own_blk {w w':World}{B e s n:Nat}{v:Value}{xs:List Value}(h:w.ownsRow B e s v n xs)(hb:∀g,v.ownBlock=some g→w'.heap[g]?=w.heap[g]?):w'.ownsRow B e s v n xs:=by
 refine⟨h.1,?_⟩;rcases h.2 with h|⟨g,cap,cur,h1,h2,h3,h4⟩
 ·exact .inl h
 ·subst h1;exact .inr ⟨g,cap,cur,rfl,h2,(hb g rfl).trans h3,h4⟩
theorem set_other (w:World)(HA o:Nat)(v:Value){k:Nat}(hk:k≠HA):(w.setCell ⟨HA,o,none⟩ v).heap[k]?=w.heap[k]?:=Below.heap_setCell _ _ _ _ hk
theorem set_size (w:World)(a:Addr)(v:Value):(w.setCell a v).heap.size=w.heap.size:=by simp[World.setCell]
theorem put2_below {B:Nat}{w w':World}{H:Nat}(h:Below B w w')(hB:B≤H)(a b:Value):Below B w ((w'.setCell ⟨H,0,none⟩ a).setCell ⟨H,1,none⟩ b):=
 (h.setCell (p:=⟨H,0,none⟩) hB _).setCell (p:=⟨H,1,none⟩) hB _
theorem own_put2 {w:World}{B H e s n:Nat}{v a b:Value}{xs:List Value}(h:w.ownsRow B e s v n xs)(hB:H<B):((w.setCell ⟨H,0,none⟩ a).setCell ⟨H,1,none⟩ b).ownsRow B e s v n xs:=
 own_blk h fun g hg=>by
  have:=(h.lt g hg).1;exact(set_other _ _ _ _ (by omega)).trans (set_other _ _ _ _ (by omega))
theorem EQ.push {w1 wr w2 w5 w6:World}{v v':Value}{xs:List Value}{es:List En}{e:En}{W:ByteArray}{A:Option Addr}{n c:Nat}(h:EQ w1 wr v xs es)(hb:Below wr.heap.size wr w2)(hW:W=e.word)(hn:n=e.flags.length)
  (hr:w2.ownsRow wr.heap.size 3 1 (.slice A n c) n (e.flags.map (Value.int .i64))) (hb5:Below w2.heap.size w2 w5)
  (hown:w6.ownsRow w1.heap.size 99 2 v' (es.length+1) (xs++[.string W,.slice A n c])) (hgrow:w5.grownBy w6 v.ownBlock)
  (hwh:v'.ownBlock=v.ownBlock∨∀g,v'.ownBlock=some g→w5.heap.size≤g):EQ w1 w6 v' (xs++[.string W,.slice A n c]) (es++[e]):=by
 subst hW hn;refine((h.keep hb).keep hb5).more hown hgrow hwh (ints_own (own_keep9 hr hb5)) fun b hbb=>?_;have h1:=hr.lt b hbb;refine⟨Nat.lt_of_lt_of_le h1.2 hb5.size,fun e=>?_⟩;have:=(h.row.lt b e).2;omega
theorem EntAns.no {B:Nat}{l:List UInt8}{w':World}{W:ByteArray}{A:Option Addr}{n c:Nat}(h:entryL l=none):EntAns B l (.returned (.tuple #[.agg #[.string W,.slice A n c],.bool false])) w':=
 ⟨W,A,n,c,false,rfl,by rw[h];rfl,fun en he=>by rw[h]at he;cases he⟩
theorem EntAns.yes {B:Nat}{l:List UInt8}{w':World}{en:En}{A:Option Addr}{c:Nat}(h:entryL l=some en)(hr:w'.ownsRow B 3 1 (.slice A en.flags.length c) en.flags.length (en.flags.map (Value.int .i64))):EntAns B l (.returned (.tuple #[.agg #[.string en.word,.slice A en.flags.length c],.bool true])) w':=
 ⟨en.word,A,_,c,true,rfl,by rw[h];rfl,fun e he=>by rw[h]at he;obtain rfl:=Option.some.inj he;exact⟨rfl,rfl,hr⟩⟩
theorem own_shape {w:World}{B e s n:Nat}{v:Value}{xs:List Value}(h:w.ownsRow B e s v n xs):∃A cap,v= .slice A n cap:=by
 rcases h.2 with ⟨rfl,rfl⟩|⟨g,cap,cur,rfl,_⟩
 ·exact⟨_,_,rfl⟩
 ·exact⟨_,_,rfl⟩
theorem put2_cell {w:World}{H HB o:Nat}{a b:Value}(h:HB≠H):((w.setCell ⟨H,0,none⟩ a).setCell ⟨H,1,none⟩ b).cell? ⟨HB,o,none⟩=w.cell? ⟨HB,o,none⟩:=by
 unfold World.cell?;show (match ((w.setCell ⟨H,0,none⟩ a).setCell ⟨H,1,none⟩ b).heap[HB]? with|_=>_)=_;rw[set_other _ _ _ _ h,set_other _ _ _ _ h]
theorem ebox2 {w w':World}{a b:Value}{t:TypeId}(hb:Below (w.alloc (.cells #[a,b] t)).heap.size (w.alloc (.cells #[a,b] t)) w'):
  w'.cell? ⟨w.heap.size,0,none⟩=some a∧w'.cell? ⟨w.heap.size,1,none⟩=some b∧∀o,w'.frozen? ⟨w.heap.size,o,none⟩=false:=by
 have h:w'.heap[w.heap.size]?=some (.cells #[a,b] t (0,0)):=(hb.block w.heap.size (by rw[World.size_alloc];omega)).trans (World.alloc_heap_new w _);refine⟨?_,?_,fun o=>?_⟩<;>simp[World.cell?,World.frozen?,h]
end Go.Proofs.YtfehpcbmdancoaaGreatDoor
namespace Go.Proofs.YtfehpcbmdancoaaGreatDoor
open Go Go.RowKit Go.Lib Go.Maps
theorem Tryz.infosZ123:(Tryz.prog.info? 123).map (fun i=>(i.zero,i.size,i.bytes))=some (some (.agg #[.bool false,.int .i64 0,.bool false,.string ⟨#[]⟩,.string ⟨#[]⟩,.slice none 0 0]),6,80):=by kernel_rfl
theorem zero_rules (w:World):(zeroValue 55).run Tryz.prog w= .ok (.slice none 0 0) w:=by kernel_rfl
def zCells (r:Ru)(A:Option Addr)(cap:Nat):List Value:=[.bool r.pre,.int .i64 r.flag,.bool r.cross,.string r.strip,.string r.add,.slice A r.cond.length cap]
def ZRow (Wb:World)(xs:List Value)(rs:List Ru):Prop:=
 ∀(i:Nat) r,rs[i]?=some r→∃A cap,xs[i*6]?=some (.bool r.pre)∧xs[i*6+1]?=some (.int .i64 r.flag)∧xs[i*6+2]?=some (.bool r.cross)∧xs[i*6+3]?=some (.string r.strip)∧xs[i*6+4]?=some (.string r.add)∧xs[i*6+5]?=some (.slice A r.cond.length cap)∧ItemsAt Wb (.slice A r.cond.length cap) r.cond
theorem ZRow.nil (Wb:World):ZRow Wb [] []:=fun i r h=>by simp at h
theorem ZRow.snoc {Wb:World}{xs:List Value}{rs:List Ru}(h:ZRow Wb xs rs)(hl:xs.length=rs.length*6){r:Ru}{A:Option Addr}{cap:Nat}(hr:ItemsAt Wb (.slice A r.cond.length cap) r.cond):ZRow Wb (xs++zCells r A cap) (rs++[r]):=by
 intro i x hi;rcases Nat.lt_or_ge i rs.length with hlt|hge
 ·rw[List.getElem?_append_left hlt]at hi;obtain⟨B,c,h0,h1,h2,h3,h4,h5,h6⟩:=h i x hi;refine⟨B,c,?_,?_,?_,?_,?_,?_,h6⟩<;>rw[List.getElem?_append_left (by omega)]<;>assumption
 ·rw[List.getElem?_append_right hge]at hi;have h0:i-rs.length=0:=by
   have:=(List.getElem?_eq_some_iff.1 hi).1;simp at this;omega
  rw[h0]at hi;obtain rfl:r=x:=by simpa using hi
  obtain rfl:i=rs.length:=by omega
  refine⟨A,cap,?_,?_,?_,?_,?_,?_,hr⟩
  ·rw[List.getElem?_append_right (by omega),hl,Nat.sub_self];rfl
  ·rw[List.getElem?_append_right (by omega),hl,show rs.length*6+1-rs.length*6=1 by omega];rfl
  ·rw[List.getElem?_append_right (by omega),hl,show rs.length*6+2-rs.length*6=2 by omega];rfl
  ·rw[List.getElem?_append_right (by omega),hl,show rs.length*6+3-rs.length*6=3 by omega];rfl
  ·rw[List.getElem?_append_right (by omega),hl,show rs.length*6+4-rs.length*6=4 by omega];rfl
  ·rw[List.getElem?_append_right (by omega),hl,show rs.length*6+5-rs.length*6=5 by omega];rfl
theorem ZRow.reads {Wb w:World}{B:Nat}{v:Value}{xs:List Value}{rs:List Ru}(h:ZRow Wb xs rs)(ho:w.ownsRow B 123 6 v rs.length xs):RulesOn Wb w v rs:=by
 have hc:= @World.ownsRow.cells _ _ _ _ _ _ _ ho;rcases ho.2 with ⟨rfl,h0⟩|⟨g,cap,cur,rfl,hb,hg,hnc,hcm,_⟩
 ·exact .inl ⟨List.eq_nil_of_length_eq_zero h0,_,_,rfl⟩
 ·refine .inr ⟨g,0,cap,rfl,(Array.getElem?_eq_some_iff.1 hg).1,hnc,hcm,fun i r hi=>?_⟩;obtain⟨A,c,h0,h1,h2,h3,h4,h5,h6⟩:=h i r hi;rw[Nat.zero_add];exact⟨by rw[←add9];exact hc (g:=g) rfl _ _ h0,by rw[←add9];exact hc (g:=g) rfl _ _ h1,by rw[←add9];exact hc (g:=g) rfl _ _ h2,by rw[←add9];exact hc (g:=g) rfl _ _ h3,by rw[←add9];exact hc (g:=g) rfl _ _ h4,A,c,by rw[←add9];exact hc (g:=g) rfl _ _ h5,h6⟩
def ofFlag (rs:List Ru)(f:Int):List Ru:=rs.filter fun r=>decide (r.flag=f)
theorem ofFlag_snoc (rs:List Ru)(r:Ru)(f:Int):ofFlag (rs++[r]) f=if r.flag=f then ofFlag rs f++[r]else ofFlag rs f:=by
 unfold ofFlag;rw[List.filter_append];by_cases h:r.flag=f<;>simp[h]
theorem ofFlag_len (rs:List Ru)(f:Int):(ofFlag rs f).length≤rs.length:=List.length_filter_le _ _
structure TQ (Wb w0 wr:World)(b:Nat)(D:DataW Value)(U:Int→Value)(X:Int→List Value)(rs:List Ru):Prop where
 map:wr.ownsMap Tryz.prog 3 heldR b rs.length D
 at_:∀f,D.atKey (.int .i64 f) (.held (.slice none 0 0))= .held (U f)
 row:∀f,wr.ownsRow (b+1) 123 6 (U f) (ofFlag rs f).length (X f)
 cells:∀f,ZRow Wb (X f) (ofFlag rs f)
 apart:∀f g,f≠g→(U f).ownBlock=none∨(U f).ownBlock≠(U g).ownBlock
 below:Below w0.heap.size w0 wr
 low:w0.heap.size≤b
theorem TQ.start (Wb w:World):TQ Wb w (w.alloc (.map #[] 0)) w.heap.size (.map []) (fun _=> .slice none 0 0) (fun _=>[]) []:=
 ⟨World.ownsMap_made _ _ _ _,fun _=>rfl,fun _=>World.ownsRow_nil _ _ _ _,fun _=>ZRow.nil _,fun _ _ _=> .inl rfl,(Below.refl _ _).alloc (Nat.le_refl _) _,Nat.le_refl _⟩
theorem TQ.done {Wb w0 wr:World}{b:Nat}{D:DataW Value}{U:Int→Value}{X:Int→List Value}{rs:List Ru}(h:TQ Wb w0 wr b D U X rs):TabAt Wb wr b rs:=
 ⟨_,D,U,h.map,h.at_,fun f=>(h.cells f).reads (h.row f)⟩
theorem TQ.more {Wb w0 wr W1 w4 w5:World}{b:Nat}{D:DataW Value}{U:Int→Value}{X:Int→List Value}{rs:List Ru}(h:TQ Wb w0 wr b D U X rs){r:Ru}{A:Option Addr}{cap:Nat}{v':Value}(hb1:Below wr.heap.size wr W1)
  (hr:ItemsAt Wb (.slice A r.cond.length cap) r.cond) (hown:w4.ownsRow (b+1) 123 6 v' ((ofFlag rs r.flag).length+1) (X r.flag++zCells r A cap)) (hg4:W1.grownBy w4 (U r.flag).ownBlock)
  (hat:v'.ownBlock=(U r.flag).ownBlock∨∀g,v'.ownBlock=some g→wr.heap.size≤g) (hm:w5.ownsMap Tryz.prog 3 heldR b (rs.length+1) (D.put (.int .i64 r.flag) (.held v'))) (hg5:w4.grownBy w5 (some b)):
  TQ Wb w0 w5 b (D.put (.int .i64 r.flag) (.held v')) (fun f=>if f=r.flag then v' else U f) (fun f=>if f=r.flag then X r.flag++zCells r A cap else X f) (rs++[r]):=by
 have hne:(U r.flag).ownBlock≠some b:=fun e=>by have:=((h.row r.flag).lt b e).1;omega
 have hlo:∀z,(U r.flag).ownBlock=some z→w0.heap.size≤z:=fun z hz=>by have:=((h.row r.flag).lt z hz).1;have:=h.low;omega
 refine⟨by rw[List.length_append];exact hm,fun f=>?_,fun f=>?_,fun f=>?_,fun f g hfg=>?_,?_,h.low⟩
 ·by_cases hf:f=r.flag
  ·subst hf;rw[if_pos rfl,atKey_put_same h.map.isMap (by unfold WideAt.IsKeyLit;trivial)]
  ·rw[if_neg hf,atKey_put_other (fun e=>hf (by injection e)),h.at_]
 ·rw[ofFlag_snoc];by_cases hf:f=r.flag
  ·subst hf;rw[if_pos rfl,if_pos rfl,if_pos rfl,List.length_append];refine hown.kept hg5 (.inr fun e=>?_);rcases hat with h1|h1
   ·exact hne (h1▸e)
   ·have:=h1 b e;have:=h.map.lt;omega
  ·rw[if_neg hf,if_neg hf,if_neg (fun e=>hf e.symm)];refine((own_keep9 (h.row f) hb1).kept hg4 (h.apart f r.flag hf)).kept hg5 ?_;rcases Decidable.em ((U f).ownBlock=some b)with e|e
   ·have:=((h.row f).lt b e).1;omega
   ·exact .inr e
 ·rw[ofFlag_snoc];by_cases hf:f=r.flag
  ·subst hf;rw[if_pos rfl,if_pos rfl];exact(h.cells r.flag).snoc (h.row r.flag).1 hr
  ·rw[if_neg hf,if_neg (fun e=>hf e.symm)];exact h.cells f
 ·by_cases hf:f=r.flag
  ·subst hf;rw[if_pos rfl,if_neg (fun e=>hfg e.symm)];rcases hat with h1|h1
   ·rw[h1];exact h.apart r.flag g hfg
   ·rcases hu:v'.ownBlock with _|z
    ·exact .inl rfl
    ·refine .inr fun e=>?_;have:=((h.row g).lt z e.symm).2;have:=h1 z hu;omega
  ·rw[if_neg hf];by_cases hg:g=r.flag
   ·subst hg;rw[if_pos rfl];rcases hat with h1|h1
    ·rw[h1];exact h.apart f r.flag hf
    ·rcases hu:(U f).ownBlock with _|z
     ·exact .inl rfl
     ·refine .inr fun e=>?_;have:=((h.row f).lt z hu).2;have:=h1 z e.symm;omega
   ·rw[if_neg hg];exact h.apart f g hfg
 ·have h1:=h.below.trans (hb1.mono h.below.size);have h2:=h1.grown hg4 h1.size hlo;exact h2.grown hg5 h2.size (fun z hz=>by cases hz;exact h.low)
theorem zrule_one (a:Bool)(b:Int)(c:Bool)(d e:ByteArray)(A:Option Addr)(n cp:Nat):∀u∈[Value.bool a,.int .i64 b,.bool c,.string d,.string e,.slice A n cp],u.oneCell'=true:=by
 intro u hu;simp only[List.mem_cons,List.not_mem_nil,or_false]at hu;rcases hu with rfl|rfl|rfl|rfl|rfl|rfl<;>rfl
theorem rules_form {w:World}{v:Value}{rs:List Ru}(h:RulesAt w v rs):∃A cap,v= .slice A rs.length cap:=by
 rcases h with ⟨rfl,a,c,e⟩|⟨b,off,c,e,_⟩
 ·exact⟨a,c,e⟩
 ·exact⟨_,c,e⟩
theorem rules_open {w:World}{A:Option Addr}{n cap:Nat}{rs:List Ru}(h:RulesAt w (.slice A n cap) rs):∀(k:Nat) r,rs[k]?=some r→∃b off,A=some ⟨b,off,none⟩∧b<w.heap.size∧n≤cap∧RuCells w b (off+k*6) r:=by
 intro k e hk;rcases h with ⟨rfl,_⟩|⟨b,off,c,e',h1,h2,h3,h4⟩
 ·simp at hk
 ·injection e' with e1 e2 e3;subst e1 e2 e3;exact⟨b,off,rfl,h1,h2,h4 k e hk⟩
theorem look_tab {W:World}{b n:Nat}{D:DataW Value}{f:Int}{u:Value}(hm:W.ownsMap Tryz.prog 3 heldR b n D)(hat:D.atKey (.int .i64 f) (.held (.slice none 0 0))= .held u)(hf:In64 f):
  (Instr.lookup 103 (.map (some b)) (.int .i64 f) false).run Tryz.prog W= .ok u W:=by
 obtain⟨v,ps,hr,hv⟩:=hm.lookup keyed_int Tryz.underlying103 (zero_rules W) (zd:= .held (.slice none 0 0)) (zp:=[]) rfl (key_int hf);rw[hat]at hv;have:=heldR_inv hv;simp only[Prod.mk.injEq,DataW.held.injEq]at this;rw[hr,this.1]
theorem put_tab {W:World}{b n:Nat}{D:DataW Value}{f:Int}(u:Value)(hm:W.ownsMap Tryz.prog 3 heldR b n D)(hn:n<maxLen)(hf:In64 f):
  ∃w',(Instr.mapUpdate 103 (.map (some b)) (.int .i64 f) u).run Tryz.prog W= .ok () w'∧w'.ownsMap Tryz.prog 3 heldR b (n+1) (D.put (.int .i64 f) (.held u))∧W.grownBy w' (some b):=
 hm.update keyed_int Tryz.underlying103 hn (key_int hf) (ps:=[]) rfl
theorem ruon_open {Wb w:World}{A:Option Addr}{n cap:Nat}{rs:List Ru}(h:RulesOn Wb w (.slice A n cap) rs):∀(k:Nat) r,rs[k]?=some r→∃b off,A=some ⟨b,off,none⟩∧b<w.heap.size∧n≤cap∧RuOn Wb w b (off+k*6) r:=by
 intro k e hk;rcases h with ⟨rfl,_⟩|⟨b,off,c,e',h1,h2,h3,h4⟩
 ·simp at hk
 ·injection e' with e1 e2 e3;subst e1 e2 e3;exact⟨b,off,rfl,h1,h2,h4 k e hk⟩
theorem ruon_form {Wb w:World}{v:Value}{rs:List Ru}(h:RulesOn Wb w v rs):∃A cap,v= .slice A rs.length cap:=by
 rcases h with ⟨rfl,a,c,e⟩|⟨b,off,c,e,_⟩
 ·exact⟨a,c,e⟩
 ·exact⟨_,c,e⟩
theorem rules_on {Wb w:World}{v:Value}{rs:List Ru}(h:RulesAt Wb v rs)(hs:Sub Wb w):RulesOn Wb w v rs:=by
 rcases h with h|⟨b,off,cap,rfl,h1,h2,h3,h4⟩
 ·exact .inl h
 ·refine .inr ⟨b,off,cap,rfl,Nat.lt_of_lt_of_le h1 hs.1,h2,h3,fun i r hr=>?_⟩;obtain⟨k0,k1,k2,k3,k4,A,c,k5,k6⟩:=h4 i r hr;exact⟨hs.2 _ _ k0,hs.2 _ _ k1,hs.2 _ _ k2,hs.2 _ _ k3,hs.2 _ _ k4,A,c,hs.2 _ _ k5,k6⟩
theorem TabAt.base {Wb Wc w:World}{b:Nat}{rs:List Ru}(h:TabAt Wb w b rs)(hs:Sub Wb Wc):TabAt Wc w b rs:=by
 obtain⟨n,D,U,h1,h2,h3⟩:=h;refine⟨n,D,U,h1,h2,fun f=>?_⟩;rcases h3 f with h|⟨b,off,cap,e,k1,k2,k3,k4⟩
 ·exact .inl h
 ·refine .inr ⟨b,off,cap,e,k1,k2,k3,fun i r hr=>?_⟩;obtain⟨z0,z1,z2,z3,z4,A,c,z5,z6⟩:=k4 i r hr;exact⟨z0,z1,z2,z3,z4,A,c,z5,z6.sub hs⟩
theorem byflag_on (Wb w:World)(v:Value)(rs:List Ru)(h:RulesOn Wb w v rs)(hn:rs.length≤100000)(hf:∀r∈rs,In64 r.flag):
  Calls Tryz.prog 55 #[v] w fun e w'=>e= .returned (.map (some w.heap.size))∧TabAt Wb w' w.heap.size rs∧Below w.heap.size w w':=by
 obtain⟨A,cap,rfl⟩:=ruon_form h;obtain⟨n,hnn⟩:∃n,n=rs.length:=⟨_,rfl⟩;rw[←hnn]at h⊢;have HO:=hid (ruon_open h);have HF:=hid hf;have HN:=hid hnn;have hn':n≤100000:=by omega
 obtain⟨i1,hi1,hz10,hz11,hz12⟩:=info_parts Tryz.infosZ123;have hmm:= @run_makeMap Tryz.prog;have HQ0:=hid (TQ.start Wb w);clear h hf hnn hn;go_enter Tryz.func55,Tryz.ntmps55;go_wp2;go_loopg [9] n (fun gh i wr=>∃(k:Nat),k+gh=n∧i= .int .i64 k∧Hid (∃D U X,TQ Wb w wr w.heap.size D U X (rs.take k)))
 case atStart=>exact⟨0,by omega,rfl,hid ⟨_,_,_,HQ0.out⟩⟩
 case round=>
  obtain⟨k,hk,rfl,HQ⟩:=hrel;by_cases hlt:k<n
  ·obtain⟨r,hr⟩:∃r,rs[k]?=some r:=⟨rs[k]'(by have:=HN.out;omega),List.getElem?_eq_getElem _⟩;obtain⟨D,U,X,hq⟩:=HQ.out;obtain⟨b,off,rfl,hb,hnc,hcells⟩:=HO.out k r hr;have HR:=hid hr;have HQ1:=hid hq;have hbw:b<wr.heap.size:=Nat.lt_of_lt_of_le hb hq.below.size;have hin:In64 r.flag:=HF.out r (List.mem_of_getElem? hr);obtain⟨c0,c1,c2,c3,c4,B,bc,c5,hits⟩:=hcells;have e0:=(hq.below.cell (p:=⟨b,off+k*6,none⟩) hb).trans c0;have e1:=(hq.below.cell (p:=⟨b,off+k*6+1,none⟩) hb).trans c1;have e2:=(hq.below.cell (p:=⟨b,off+k*6+2,none⟩) hb).trans c2;have e3:=(hq.below.cell (p:=⟨b,off+k*6+3,none⟩) hb).trans c3;have e4:=(hq.below.cell (p:=⟨b,off+k*6+4,none⟩) hb).trans c4;have e5:=(hq.below.cell (p:=⟨b,off+k*6+5,none⟩) hb).trans c5;have HIT:=hid hits;have HIN:=hid hin;clear c0 c1 c2 c3 c4 c5 hits hr hq HQ hin;go_upto_region 5 with fail;obtain⟨Wd,hWd⟩:∃Wd,Wd=wr.alloc (.cells #[.bool r.pre,.int .i64 r.flag,.bool r.cross,.string r.strip,.string r.add,.slice B r.cond.length bc] 123):=⟨_,rfl⟩;obtain⟨x0,x1,x2,x3,x4,x5⟩:=box6 (Below.refl (wr.alloc (.cells #[.bool r.pre,.int .i64 r.flag,.bool r.cross,.string r.strip,.string r.add,.slice B r.cond.length bc] 123)).heap.size _);rw[←hWd]at x0 x1 x2 x3 x4 x5;have hbd:Below wr.heap.size wr Wd:=by rw[hWd];exact(Below.refl _ _).alloc (Nat.le_refl _) _
   have hsd:Wd.heap.size=wr.heap.size+1:=by rw[hWd,World.size_alloc]
   rw[←hWd];clear hWd e0 e1 e2 e3 e4 e5;obtain⟨UA,uc,hU⟩:=own_shape (HQ1.out.row r.flag);obtain⟨m,hm⟩:∃m,m=(ofFlag (rs.take k) r.flag).length:=⟨_,rfl⟩;have hml:m≤k:=by have:=ofFlag_len (rs.take k) r.flag;rw[List.length_take]at this;omega
   rw[←hm]at hU;have hrow:Wd.ownsRow (w.heap.size+1) 123 6 (.slice UA m uc) m (X r.flag):=by rw[←hU,hm];exact own_keep9 (HQ1.out.row r.flag) hbd
   have hat:D.atKey (.int .i64 r.flag) (.held (.slice none 0 0))= .held (.slice UA m uc):=by rw[←hU];exact HQ1.out.at_ r.flag
   have hmp:Wd.ownsMap Tryz.prog 3 heldR w.heap.size k D:=by
    have:=omap_below HQ1.out.map hbd;rwa[List.length_take,Nat.min_eq_left (by have:=HN.out;omega)]at this
   have l1:=look_tab (W:=Wd.drew) hmp hat HIN.out;have l2:=look_tab (W:=(Wd.alloc (.cells #[.bool r.pre,.int .i64 r.flag,.bool r.cross,.string r.strip,.string r.add,.slice B r.cond.length bc] 123)).drew) (hmp.alloc _) hat HIN.out;obtain⟨Bx,hBx⟩:∃Bx,Bx=wr.heap.size:=⟨_,rfl⟩;rw[←hBx]at x0 x1 x2 x3 x4 x5 hsd⊢;have HW:=hid (And.intro hrow (And.intro hmp hsd));have HB:=hid (And.intro hbd (And.intro hm (And.intro hU hBx)));have hwb:w.heap.size<Bx:=by rw[hBx];exact HQ1.out.map.lt
   have HWB:=hid hwb;have h1c:=zrule_one r.pre r.flag r.cross r.strip r.add B r.cond.length bc;have hup:∀(w4:World) (g c:Nat),((Wd.alloc (.cells #[.bool r.pre,.int .i64 r.flag,.bool r.cross,.string r.strip,.string r.add,.slice B r.cond.length bc] 123)).drew).grownBy w4 (Value.slice UA m uc).ownBlock→
     w4.cell? ⟨Bx,1,none⟩=some (.int .i64 r.flag)∧∃w5,(Instr.mapUpdate 103 (.map (some w.heap.size)) (.int .i64 r.flag) (.slice (some ⟨g,0,none⟩) (m+1) c)).run Tryz.prog w4= .ok () w5∧
     w5.ownsMap Tryz.prog 3 heldR w.heap.size (k+1) (D.put (.int .i64 r.flag) (.held (.slice (some ⟨g,0,none⟩) (m+1) c)))∧w4.grownBy w5 (some w.heap.size):=by
    intro w4 g c hg;have hne:∀z,(Value.slice UA m uc).ownBlock=some z→w.heap.size<z∧z≠Bx:=fun z hz=>by
     have h1:=(hrow.lt z hz).1;rw[←hU]at hz;have h2:=((HQ1.out.row r.flag).lt z hz).2;omega
    refine⟨?_,put_tab _ ((hmp.alloc _).drew.kept hg (fun e=>?_)) (by unfold maxLen;omega) HIN.out⟩
    ·have hxb:=World.block_lt_of_cell? _ _ x1;refine(World.grownBy.cell_far hg ⟨Bx,1,none⟩ (by show Bx<(Wd.alloc _).heap.size;rw[World.size_alloc];omega) (fun e=>(hne _ e.symm).2 rfl)).trans ?_;exact(((Below.refl Wd.heap.size Wd).alloc (Nat.le_refl _) _).cell (p:=⟨Bx,1,none⟩) hxb).trans x1
    ·have:=(hne _ e.symm).1;omega
   have HUP:=hid hup;have y1:(Wd.alloc (.cells #[.bool r.pre,.int .i64 r.flag,.bool r.cross,.string r.strip,.string r.add,.slice B r.cond.length bc] 123)).cell? ⟨Bx,1,none⟩=some (.int .i64 r.flag):=(((Below.refl Wd.heap.size Wd).alloc (Nat.le_refl _) _).cell (p:=⟨Bx,1,none⟩) (World.block_lt_of_cell? _ _ x1)).trans x1;clear hup hrow hmp hbd hat hwb hm hU hBx hsd;go_region_law ((refine step_append_lies _ (by rfl) _ _ _ (by rfl) (w.heap.size+1) 123 i1 _ 6 80 Tryz.underlying55 hi1 hz10 hz11 hz12 rfl (by omega) (.slice UA m uc) m (X r.flag) (by rfl) ((HW.out.1.alloc _).drew) ⟨Wd.heap.size,0,none⟩ 1 1 [.bool r.pre,.int .i64 r.flag,.bool r.cross,.string r.strip,.string r.add,.slice B r.cond.length bc] (by rfl) (by rfl) (World.news_of_block (cs:=#[.bool r.pre,.int .i64 r.flag,.bool r.cross,.string r.strip,.string r.add,.slice B r.cond.length bc]) (t:=123) (fr:=(0,0)) (World.alloc_heap_new Wd _)) h1c (by omega) (by unfold maxLen;omega) (by omega) (by have:=HW.out.2.2;have:=HWB.out;simp;omega) (Wd.heap.size+1) (by simp) ?_;intro gg cap4 w4 hown4 hgrow4 hat4 hlt4;obtain⟨m4,w5,hrun5,hown5,hgr5⟩:=HUP.out w4 gg cap4 hgrow4;have H5:=hid (And.intro hown5 hgr5);clear hown5 hgr5))
   all_goals
    have hbK:Below wr.heap.size wr ((Wd.alloc (.cells #[.bool r.pre,.int .i64 r.flag,.bool r.cross,.string r.strip,.string r.add,.slice B r.cond.length bc] 123)).drew):=(HB.out.1.alloc HB.out.1.size _).drew;have ht:(rs.take k).length=k:=by rw[List.length_take];have:=HN.out;omega
    have HN2:Hid (∃D' U' X',TQ Wb w w5 w.heap.size D' U' X' (rs.take (k+1))):=by
     clear l1 l2 x0 x1 x2 x3 x4 x5 y1 m4 hrun5;have hT:rs.take (k+1)=rs.take k++[r]:=by rw[List.take_add_one,HR.out];rfl
     rw[hT];have hm0:=HB.out.2.1;have hU0:=HB.out.2.2.1;refine hid ⟨_,_,_,HQ1.out.more hbK HIT.out (v':= .slice (some ⟨gg,0,none⟩) (m+1) cap4) ?_ ?_ ?_ ?_ H5.out.2⟩
     ·rw[←hm0];exact hown4
     ·rw[hU0];exact hgrow4
     ·rw[hU0];rcases hat4 with e|e
      ·exact .inl e.symm
      ·refine .inr fun g hg=>?_;simp only[Value.ownBlock,Option.some.injEq]at hg;have:=HW.out.2.2;have:=HB.out.2.2.2;omega
     ·rw[ht];exact H5.out.1
    clear l1 l2 x0 x1 x2 x3 x4 x5 y1 m4 hrun5 hown4 hgrow4 hat4 hlt4 hbK ht H5;go_wp2_with fail;go_roundg (gk-1)
    case measure=>omega
    case rel=>exact⟨k+1,by omega,by go_num,HN2⟩
  ·obtain rfl:k=n:=by omega
   obtain⟨D,U,X,hq⟩:=HQ.out;rw[List.take_of_length_le (by have:=HN.out;omega)]at hq;have HX:=hid hq;clear hq HQ;go_wp2_with fail;go_ret;exact⟨rfl,HX.out.done,HX.out.below⟩
end Go.Proofs.YtfehpcbmdancoaaGreatDoor
set_option maxRecDepth 100000
set_option maxHeartbeats 400000
namespace Go.Proofs.YtfehpcbmdancoaaGreatDoor
open Go Go.RowKit Go.Lib
def wordsC:Array Value:=#[.string ⟨#[99,97,116]⟩,.string ⟨#[100,111,103]⟩,.string ⟨#[99,105,116,121]⟩,.string ⟨#[100,111]⟩,.string ⟨#[100,111,110,101]⟩,.string ⟨#[80,97,114,105,115]⟩,.string ⟨#[105,116,39,115]⟩,.string ⟨#[104,111,112,101]⟩,.string ⟨#[109,97,107,101]⟩,.string ⟨#[116,97,112]⟩,.string ⟨#[116,111,112]⟩,.string ⟨#[116,111,112,115]⟩,.string ⟨#[116,97,112,115]⟩,.string ⟨#[98,101]⟩,.string ⟨#[195,150,108]⟩,.string ⟨#[195,182,100,101]⟩,.string ⟨#[78,65,84,79]⟩,.string ⟨#[97]⟩,.string ⟨#[114,117,110]⟩,.string ⟨#[114,117,110,115]⟩,.string ⟨#[116,114,121]⟩,.string ⟨#[116,114,105,101,115]⟩,.string ⟨#[104,111,117,115,101]⟩,.string ⟨#[109,111,117,115,101]⟩]
def zeroC:Array Value:=#[.string ⟨#[]⟩,.string ⟨#[]⟩,.string ⟨#[]⟩,.string ⟨#[]⟩,.string ⟨#[]⟩,.string ⟨#[]⟩,.string ⟨#[]⟩,.string ⟨#[]⟩,.string ⟨#[]⟩,.string ⟨#[]⟩,.string ⟨#[]⟩,.string ⟨#[]⟩,.string ⟨#[]⟩,.string ⟨#[]⟩,.string ⟨#[]⟩,.string ⟨#[]⟩,.string ⟨#[]⟩,.string ⟨#[]⟩,.string ⟨#[]⟩,.string ⟨#[]⟩,.string ⟨#[]⟩,.string ⟨#[]⟩,.string ⟨#[]⟩,.string ⟨#[]⟩]
theorem results_cell1 {fn:Func}{p:Tmp}{ty:TypeId}(h:fn.results=#[.cell p ty])(tmps:Array Value)(P:Program)(w:World):
  (results fn tmps).run P w=((asAddr (tmps.getD p undef)).run P w).andThen fun a w₁=>(loadVar ty a).run P w₁:=by
 simp only[results,h];simp[Sem.run_bind,Result.andThen]
theorem words_any (w:World):Calls Tryz.prog 43 #[] w fun e w'=>e= .returned (.agg wordsC)∧Below w.heap.size w w':=by
 have hld:=run_loadVar_new (P:=Tryz.prog) w 78 wordsC 24 9 Tryz.underlying78 (by kernel_rfl);go_enter Tryz.func43,Tryz.ntmps43;go_upto_region 1 with fail;rename_i Q0 K0 hK0;apply wp_region_lit;refine wpList_buildTo rfl 78 _ rfl (some 1) rfl wordsC (by kernel_rfl) ?_;refine wpList_store_rowTo rfl 78 _ _ rfl rfl w.heap.size wordsC rfl rfl 78 zeroC (World.alloc_heap_new w _) (by kernel_rfl) (by kernel_rfl) (by kernel_rfl) ?_;apply wpList_nil;refine hK0 _ _ ?_;have hb:Below w.heap.size w (w.alloc (.cells wordsC 78)):=(Below.refl _ _).alloc (Nat.le_refl _) _;have hset:(w.alloc (.cells zeroC 78)).setRow w.heap.size wordsC=w.alloc (.cells wordsC 78):=World.setRow_alloc_new ..;rw[show (w.alloc (.cells #[.string ⟨#[]⟩,.string ⟨#[]⟩,.string ⟨#[]⟩,.string ⟨#[]⟩,.string ⟨#[]⟩,.string ⟨#[]⟩,.string ⟨#[]⟩,.string ⟨#[]⟩,.string ⟨#[]⟩,.string ⟨#[]⟩,.string ⟨#[]⟩,.string ⟨#[]⟩,.string ⟨#[]⟩,.string ⟨#[]⟩,.string ⟨#[]⟩,.string ⟨#[]⟩,.string ⟨#[]⟩,.string ⟨#[]⟩,.string ⟨#[]⟩,.string ⟨#[]⟩,.string ⟨#[]⟩,.string ⟨#[]⟩,.string ⟨#[]⟩,.string ⟨#[]⟩] 78))=w.alloc (.cells zeroC 78)from rfl,hset];go_wp2_with fail;refine bodyPost_ret (v:= .agg wordsC) ?_ rfl ⟨rfl,hb⟩;rw[results_cell1 rfl];simp[asAddr,Act.put,Result.andThen,hld]
end Go.Proofs.YtfehpcbmdancoaaGreatDoor
