/- closure.Forms by contract. -/
import Derived.Sort.CutIn
import Derived.Deep.RegionHeld3
import Derived.Maps.OwnIn
import Derived.Sort.MapsRangeIn
import Derived.Sort.LoopGhostIn
import Derived.Laws.EntriesVeiled
import Derived.Deep.RegionWith
import Derived.BigQuiet
import Derived.Test.YtfehpcbmdancoaaGreatDoorPdPbGLines
import Derived.Test.YtfehpcbmdancoaaGreatDoorPdPbIBuild
import Derived.Test.YtfehpcbmdancoaaGreatDoorPdPbIState
import Derived.Test.YtfehpcbmdancoaaGreatDoorPdPbLayg
import Derived.Test.YtfehpcbmdancoaaGreatDoorPdPbNPlain
import Derived.Test.YtfehpcbmdancoaaGreatDoorPdPbRPlain
import Derived.Test.YtfehpcbmdancoaaGreatDoorPdPbWAdd
import Derived.Test.YtfehpcbmdancoaaGreatDoorPdPbZApplied
import Derived.Test.YtfehpcbmdancoaaGreatDoorPdPbZCompact
set_option maxRecDepth 100000
set_option maxHeartbeats 4000000
namespace Go.Proofs.YtfehpcbmdancoaaGreatDoor
open Go Go.RowKit Go.Lib Go.Shelf Go.Maps
attribute [local go_sem] Oper.semAt_some alloc_set
structure ZArg (rs:List Ru)(e:En):Prop where
 fit:∀r∈rs,FitR r
 rin:∀r∈rs,In64 r.flag
 fin:∀f∈e.flags,In64 f
 word:e.word.size≤1000000000
 nr:rs.length≤1000
 nf:e.flags.length≤1000
structure SetQ (w:World)(bm:Nat)(D:DataW Unit)(k:Nat)(p:ByteArray→Prop):Prop where
 own:w.ownsMap Tryz.prog 9 unitElem bm k D
 mem:∀x:ByteArray,Maps.has D (.string x.data.toList)=true↔p x
theorem apply_size (r:Ru)(wd:ByteArray):(applyR r wd).size≤wd.size+r.add.size:=by
 unfold applyR;split
 ·exact Nat.zero_le _
 ·split
  ·split
   ·rw[ByteArray.size_append,ByteArray.size_extract];omega
   ·exact Nat.zero_le _
  ·split
   ·rw[ByteArray.size_append,ByteArray.size_extract];omega
   ·exact Nat.zero_le _
theorem both_size (p s:Ru)(wd:ByteArray):(bothR p s wd).size≤wd.size+p.add.size+s.add.size:=by
 unfold bothR;split
 ·rw[ByteArray.size_append,ByteArray.size_append,ByteArray.size_extract];omega
 ·exact Nat.zero_le _
theorem form_size {rs:List Ru}{e:En}{x:ByteArray}(hA:ZArg rs e)(h:IsForm rs e x):x.size≤3000000000:=by
 have hw:=hA.word;rcases h with rfl|⟨r,hr,-,-,rfl⟩|⟨p,hp,s,hs,-,-,-,rfl⟩
 ·omega
 ·have:=apply_size r e.word;have:=(hA.fit r hr).add;omega
 ·have:=both_size p s e.word;have:=(hA.fit p hp).add;have:=(hA.fit s hs).add;omega
theorem SetQ.put {w w':World}{bm:Nat}{D:DataW Unit}{k k':Nat}{p:ByteArray→Prop}(h:SetQ w bm D k p){x:ByteArray}(hx:x.size≤maxLen)(hown:w'.ownsMap Tryz.prog 9 unitElem bm k' (D.put (.string x.data.toList) (.agg []))):SetQ w' bm (D.put (.string x.data.toList) (.agg [])) k' (fun y=>y=x∨p y):=by
 refine⟨hown,fun y=>?_⟩;by_cases e:y=x
 ·subst e;rw[has_put_same h.own.isMap (keyed_str.key (key_str hx))];simp
 ·rw[has_put_other (fun hh=>e (by
   injection hh with hh;have:y.data=x.data:=Array.toList_inj.1 hh;cases y;cases x;simp at this;rw[this])),h.mem]
  simp[e]
end Go.Proofs.YtfehpcbmdancoaaGreatDoor
namespace Go.Proofs.YtfehpcbmdancoaaGreatDoor
open Go Go.RowKit Go.Lib
theorem step_pairsOk {d:Rd}{n:Nat}{l:List UInt8}(h:PairsOk d.pairs)(hl:(10:UInt8) ∉ l):PairsOk (stepA d n l).pairs:=by
 unfold stepA;split
 ·exact h
 ·split
  ·rename_i p hp;exact h.snoc (pairL_says hp hl)
  ·split
   ·exact h
   ·exact h
theorem read_pairsOk:∀(ls:List (List UInt8)) (d:Rd) (n:Nat),PairsOk d.pairs→(∀l∈ls,(10:UInt8) ∉ l)→PairsOk (readA d n ls).pairs
 | [],_,_,h,_=>h
 | l::ls,d,n,h,hl=>read_pairsOk ls (stepA d n l) (n+1) (step_pairsOk h (hl l (List.mem_cons_self ..))) fun x hx=>hl x (List.mem_cons_of_mem _ hx)
theorem af_pairsOk (s:ByteArray):PairsOk (parseA s).1.pairs∧(parseA s).1.pairs.length≤200∧(parseA s).1.rules.length≤200:=by
 have h0:PairsOk af0.pairs∧af0.pairs.length≤200∧af0.rules.length≤200:=⟨PairsOk.nil,by decide,by decide⟩;unfold parseA;split
 ·exact h0
 ·have hp:=read_pairsOk (linesL s.data.toList) rd0 1 PairsOk.nil fun l hl=>linesL_mem _ l hl;generalize readA rd0 1 (linesL s.data.toList)=d at hp⊢;unfold endA;split
  ·exact h0
  ·split
   ·exact h0
   ·split
    ·exact h0
    ·exact⟨hp,by dsimp only;omega,by dsimp only;omega⟩
theorem pt_range {c:Int}(h:Pt c):0≤c∧c≤1114111:=by
 unfold Pt Utf8.valid at h;simp at h;omega
theorem pairs_range {ps:List (Int×Int)}(h:PairsOk ps):∀p∈ps,(-9223372036854775808≤p.1∧p.1≤9223372036854775807)∧ -9223372036854775808≤p.2∧p.2≤9223372036854775807:=fun p hp=>by
 obtain⟨h1,h2,-,-⟩:=h.mem hp;have:=pt_range h1;have:=pt_range h2;omega
theorem flag_range {s:ByteArray}{r:Ru}(h:parseR s=some r):In64 r.flag:=by
 have h1:=(parseR_wide h).1;unfold textR at h1;split at h1
 ·rename_i hc;unfold In64;have:=hc.1;have:=hc.2.1;omega
 ·rw[parseR_nil]at h1;cases h1
theorem af_fit (s:ByteArray):∀r∈(parseA s).1.rules,FitR r∧In64 r.flag:=fun r hr=>by
 obtain⟨l,hl,h1,h2⟩:=parseA_from hr;obtain⟨-,k1,k2,k3,k4⟩:=parseR_wide hl;have hz:(⟨l.toArray⟩:ByteArray).size=l.length:=by show l.toArray.size=_;rw[List.size_toArray]
 exact⟨⟨by omega,fun it hit=>by have:=k2 it hit;omega,by omega,by omega⟩,flag_range hl⟩
theorem flagsL_nodup:∀(fs:List UInt8) (acc f:List Int),acc.Nodup→flagsL acc fs=some f→f.Nodup
 | [],acc,f,hn,h=>by simp[flagsL]at h;rw[←h];exact hn
 | b::r,acc,f,hn,h=>by
   unfold flagsL at h;split at h
   ·rename_i hc;refine flagsL_nodup r _ f ?_ h;rw[List.nodup_append];exact⟨hn,by simp,fun x hx y hy=>by rw[List.mem_singleton]at hy;subst hy;exact fun e=>hc.2 (e▸hx)⟩
   ·cases h
theorem nodupX {α:Type}[DecidableEq α]:∀(a b:List α),a.Nodup→(∀x∈a,x∈b)→a.length≤b.length
 | [],_,_,_=>Nat.zero_le _
 | x::a,b,hn,h=>by
   obtain⟨h1,h2⟩:=List.nodup_cons.1 hn;have hb:x∈b:=h x (List.mem_cons_self ..);have:=nodupX a (b.erase x) h2 fun y hy=>(List.mem_erase_of_ne (fun e=>h1 (by rw[←e];exact hy))).2 (h y (List.mem_cons_of_mem _ hy));have hl:=List.length_erase_of_mem hb;have hp:=List.length_pos_of_mem hb;rw[List.length_cons];omega
theorem ints_few (f:List Int)(h:∀x∈f,65≤x∧x≤122)(hn:f.Nodup):f.length≤1000:=by
 have hs:∀x∈f,x∈(List.range 200).map Int.ofNat:=fun x hx=>by
  have:=h x hx;exact List.mem_map.2 ⟨x.toNat,List.mem_range.2 (by omega),by simp;omega⟩
 have:=nodupX _ _ hn hs;rw[List.length_map,List.length_range]at this;omega
theorem en_fit (s:ByteArray):∀e∈(parseE s).1,e.word.size≤65536∧e.flags.length≤1000∧(∀f∈e.flags,In64 f)∧e.word.size≠0:=fun e he=>by
 have hsz:s.size≤65536:=by
  unfold parseE at he;split at he
  ·cases he
  ·omega
 obtain⟨l,hl,hle⟩:=parseE_in he;obtain⟨h1,h2,h3,h4,h5,h6⟩:=entry_line hle;have hll:=line_le hl;have hs:s.data.toList.length=s.size:=(Lib.size_eq s).symm;refine⟨by omega,ints_few _ h5 ?_,fun f hf=>by have:=h5 f hf;unfold In64;omega,fun h0=>?_⟩
 ·unfold entryL at hle;split at hle
  ·cases hf:flagsO (l.dropWhile (· ≠47))with
   | none=>rw[hf]at hle;cases hle
   | some f=>
     rw[hf]at hle;obtain rfl:=Option.some.inj hle;show f.Nodup;unfold flagsO at hf;split at hf
     ·rw[←Option.some.inj hf];exact List.nodup_nil
     ·split at hf
      ·cases hf
      ·exact flagsL_nodup _ _ _ List.nodup_nil hf
  ·cases hle
 ·have:e.word.data.toList=[]:=List.eq_nil_of_length_eq_zero (by rw[←Lib.size_eq];exact h0);rw[this]at h6;simp[wordOk]at h6
theorem lang_args (fa fl:ByteArray):∀e∈(parseE fl).1,ZArg (parseA fa).1.rules e:=fun e he=>by
 obtain⟨h1,h2,h3,-⟩:=en_fit fl e he;exact⟨fun r hr=>(af_fit fa r hr).1,fun r hr=>(af_fit fa r hr).2,h3,by omega,by have:=(af_pairsOk fa).2.2;omega,h2⟩
theorem list_few (s:ByteArray):(parseE s).1.length≤2000:=parseE_len s
end Go.Proofs.YtfehpcbmdancoaaGreatDoor
namespace Go.Proofs.YtfehpcbmdancoaaGreatDoor.Cl
open Go Go.RowKit Go.Lib Go.Shelf Go.Maps
attribute [local go_sem] Oper.semAt_some alloc_set
theorem nodup_le {α:Type}[DecidableEq α]:∀(a b:List α),a.Nodup→(∀x∈a,x∈b)→a.length≤b.length
 | [],_,_,_=>Nat.zero_le _
 | x::a,b,hn,h=>by
   obtain⟨h1,h2⟩:=List.nodup_cons.1 hn;have hb:x∈b:=h x (List.mem_cons_self ..);have:=nodup_le a (b.erase x) h2 fun y hy=>(List.mem_erase_of_ne (fun e=>h1 (by rw[←e];exact hy))).2 (h y (List.mem_cons_of_mem _ hy));have hl:=List.length_erase_of_mem hb;have hp:=List.length_pos_of_mem hb;rw[List.length_cons];omega
theorem set_texts {w:World}{b n:Nat}{D:DataW Unit}(h:w.ownsMap Tryz.prog 9 unitElem b n D):∃ss:List ByteArray,ss.Nodup∧ss.length=Maps.size D∧∀x:ByteArray,x∈ss↔Maps.has D (.string x.data.toList)=true:=by
 obtain⟨es,rfl,hpw,-⟩:=h.entries keyed_str;have hk:∀p∈es,∃x,p.1= .string x:=by
  obtain⟨es',e,h2⟩:=h.keysOf;simp only[DataW.map.injEq]at e;subst e;intro p hp;obtain⟨v,hv⟩:=h2 p hp;obtain⟨x,_,hx,_⟩:=Maps.keyOf_str Tryz.underlying9 hv;exact⟨x,hx⟩
 have hnd:=strKeys_nodup hk hpw;refine⟨(strKeys (.map es)).map fun x=>⟨x.toArray⟩,?_,?_,fun x=>?_⟩
 ·rw[List.Nodup,List.pairwise_map];refine hnd.imp fun {a b} hab e=>hab ?_;have:=congrArg (fun z:ByteArray=>z.data.toList) e;simpa using this
 ·rw[List.length_map];show (es.map _).length=_;rw[List.length_map];rfl
 ·rw[←strKeys_mem hk,List.mem_map];constructor
  ·rintro⟨y,hy,rfl⟩;simpa using hy
  ·intro hx;exact⟨_,hx,by simp⟩
theorem rising_nodup {l:List ByteArray}(h:Rising l):l.Nodup:=by
 unfold Rising at h;refine h.imp fun {a b} hab e=>?_;subst e;exact List.lt_irrefl _ hab
theorem set_le {w:World}{b n:Nat}{D:DataW Unit}(h:w.ownsMap Tryz.prog 9 unitElem b n D){l:List ByteArray}(hs:∀x:ByteArray,Maps.has D (.string x.data.toList)=true→x∈l):Maps.size D≤l.length:=by
 obtain⟨ss,h1,h2,h3⟩:=set_texts h;rw[←h2];exact nodup_le _ _ h1 fun x hx=>hs x ((h3 x).1 hx)
theorem set_ge {w:World}{b n:Nat}{D:DataW Unit}(h:w.ownsMap Tryz.prog 9 unitElem b n D){l:List ByteArray}(hl:l.Nodup)(hs:∀x∈l,Maps.has D (.string x.data.toList)=true):l.length≤Maps.size D:=by
 obtain⟨ss,h1,h2,h3⟩:=set_texts h;rw[←h2];exact nodup_le _ _ hl fun x hx=>(h3 x).2 (hs x hx)
theorem isform_alike {rs:List Ru}{e e':En}(h:Alike e e')(x:ByteArray):IsForm rs e x↔IsForm rs e' x:=by
 unfold IsForm;rw[h.1];simp only[h.2]
def marks (Ds:List Nat):List Deferred:=Ds.map fun D=>{ target:= .collected D,args:=#[] }
theorem leaves_marks {F:Fence}{n:Nat}{P:Program}{fn:Func}{tmps:Array Value}{R:Ending→World→Prop}:∀(Ds:List Nat) (W:World),Ds.Nodup→(∀D∈Ds,W.heap[D]?=some (.deferred (some [])))→
  (∀W',OnlyAt (· ∈Ds) W W'→LeavesInM F n P fn tmps R [] .returning W')→LeavesInM F n P fn tmps R (marks Ds) .returning W
 | [],W,_,_,h=>h W (OnlyAt.refl _ _)
 | D::Ds,W,hn,hD,h=>by
   obtain⟨h1,h2⟩:=List.nodup_cons.1 hn;refine⟨by simp,.inl ⟨D,_,rfl,run_takeDeferred (hD D (List.mem_cons_self ..)),leaves_marks Ds _ h2 (fun D' hD'=>?_) fun W' ho=>h W' ?_⟩⟩
   ·exact(World.putObj_heap_other (fun e=>h1 (by rw[←e];exact hD'))).trans (hD D' (List.mem_cons_of_mem _ hD'))
   ·exact(OnlyAt.putObj (T:=(· ∈D::Ds)) _ _ _ (List.mem_cons_self ..)).trans (ho.mono fun k hk=>List.mem_cons_of_mem _ hk)
def cutW (w:World)(q:Nat):World:=(w.putObj q (.map #[] 0)).putObj (q+1) (.map #[] 0)
theorem cut_size (w:World)(q:Nat):(cutW w q).heap.size=w.heap.size:=by simp[cutW]
theorem cut_heap (w:World)(q:Nat){k:Nat}(h:k≠q∧k≠q+1):(cutW w q).heap[k]?=w.heap[k]?:=by
 unfold cutW;rw[World.putObj_heap_other h.2,World.putObj_heap_other h.1]
theorem cut_below (w0 w:World){q:Nat}(h:Below w0.heap.size w0 w)(hq:w0.heap.size≤q):Below w0.heap.size w0 (cutW w q):=
 OnlyAt.below h ((OnlyAt.putObj (T:=fun k=>k=q∨k=q+1) w q _ (.inl rfl)).trans (OnlyAt.putObj _ _ _ (.inr rfl))) h.size (fun k hk=>by omega)
theorem cut_cell {w:World}{q:Nat}{a:Addr}{v:Value}(h:(cutW w q).cell? a=some v)(hq:q+1<w.heap.size):a.block≠q∧a.block≠q+1∧w.cell? a=some v:=by
 have h1:a.block≠q:=by
  intro e;obtain⟨c,t,f,hc⟩:=CellsOf.of_cell h;rw[e]at hc;unfold cutW at hc;rw[World.putObj_heap_other (by omega),World.putObj_heap_same (by omega)]at hc;cases hc
 have h2:a.block≠q+1:=by
  intro e;obtain⟨c,t,f,hc⟩:=CellsOf.of_cell h;rw[e]at hc;unfold cutW at hc;rw[World.putObj_heap_same (by simp;omega)]at hc;cases hc
 refine⟨h1,h2,?_⟩;unfold World.cell? at h⊢;rw[cut_heap w q ⟨h1,h2⟩]at h;exact h
theorem cut_sub {R:Nat→Prop}{w W':World}{q:Nat}(h:KeepsAt R w W')(hR:∀k,CellsOf w k→k≠q→k≠q+1→R k)(hq:q+1<w.heap.size):Sub (cutW w q) W':=by
 refine⟨by rw[cut_size];exact h.size,fun a v ha=>?_⟩;obtain⟨h1,h2,h3⟩:=cut_cell ha hq;have hc:=CellsOf.of_cell h3;unfold World.cell? at h3⊢;rw[h.block a.block hc.lt (hR _ hc h1 h2)];exact h3
theorem one_box {w:World}{q:Nat}{x:Value}{t:TypeId}(h:w.heap[q]?=some (.cells #[x] t (0,0))):w.cell? ⟨q,0,none⟩=some x∧w.frozen? ⟨q,0,none⟩=false:=by
 refine⟨by simp[World.cell?,h],?_⟩;unfold World.frozen?;rw[h];rfl
theorem cut_more {R:Nat→Prop}{w w3 W':World}{q:Nat}(hs:Sub (cutW w q) w3)(h:KeepsAt R w3 W')(hR:∀k,CellsOf w3 k→k≠q→k≠q+1→R k)(hq:q+1<w.heap.size):Sub (cutW w q) W':=by
 refine⟨Nat.le_trans hs.1 h.size,fun a v ha=>?_⟩;obtain⟨h1,h2,-⟩:=cut_cell ha hq;have h3:=hs.2 a v ha;have hc:=CellsOf.of_cell h3;unfold World.cell? at h3⊢;rw[h.block a.block hc.lt (hR _ hc h1 h2)];exact h3
theorem _root_.Go.Proofs.YtfehpcbmdancoaaGreatDoor.TabAt.cut {Wb w:World}{b q:Nat}{rs:List Ru}(h:TabAt Wb w b rs)(hb:b≠q∧b≠q+1){x:Value}{t:TypeId}(hx:∀y,x≠.bool y)(h0:w.heap[q]?=some (.cells #[x] t (0,0))){x1:Value}{t1:TypeId}(hx1:∀y,x1≠.bool y)(h1:w.heap[q+1]?=some (.cells #[x1] t1 (0,0))):TabAt Wb (cutW w q) b rs:=by
 obtain⟨n,D,U,k1,k2,k3⟩:=h;refine⟨n,D,U,omap_same k1 (cut_heap w q hb),k2,fun f=>?_⟩;rcases k3 f with h|⟨g,off,cap,e,z1,z2,z3,z4⟩
 ·exact .inl h
 ·refine .inr ⟨g,off,cap,e,by rw[cut_size];exact z1,z2,z3,fun i r hr=>?_⟩;obtain⟨y0,y1,y2,y3,y4,A,c,y5,y6⟩:=z4 i r hr;have hgne:∀(q':Nat) (x':Value) (t':TypeId),(∀y,x'≠.bool y)→w.heap[q']?=some (.cells #[x'] t' (0,0))→g≠q':=by
   rintro q' x' t' hb' hh rfl;unfold World.cell? at y0;simp only[hh]at y0;cases ho:off+i*6 with
   | zero=>rw[ho]at y0;exact hb' _ (by simpa using y0)
   | succ o=>rw[ho]at y0;simp at y0
  have hne:=And.intro (hgne q x t hx h0) (hgne (q+1) x1 t1 hx1 h1);have hcl:∀o,(cutW w q).cell? ⟨g,o,none⟩=w.cell? ⟨g,o,none⟩:=fun o=>by
   unfold World.cell?;rw[cut_heap w q hne]
  exact⟨(hcl _).trans y0,(hcl _).trans y1,(hcl _).trans y2,(hcl _).trans y3,(hcl _).trans y4,A,c,(hcl _).trans y5,y6⟩
structure OutQ (w w2:World)(q mb:Nat)(rs:List Ru)(l:List En)(k:Nat)(Ds:List Nat)(D':DataW Unit)(W:World):Prop where
 set:SetQ W mb D' (Maps.size D') (fun x=>∃e∈l.take k,IsForm rs e x)
 few:Maps.size D'≤20000
 old:KeepsAt (fun k=>(CellsOf w2 k∧k≠q∧k≠q+1)∨k=q+2) w2 W
 below:Below w.heap.size w W
 nd:Ds.Nodup
 mark:∀D∈Ds,W.heap[D]?=some (.deferred (some []))∧w2.heap.size≤D
 c0:W.heap[q]?=some (.cells #[.slice none 0 0] 24 (0,0))
 c1:W.heap[q+1]?=some (.cells #[.int .i64 0] 28 (0,0))
theorem all_leave (w W:World)(q:Nat)(Ds:List Nat)(tmps:Array Value)(t4:tmps.getD 4 undef= .pointer (some ⟨q,0,none⟩))(t5:tmps.getD 5 undef= .pointer (some ⟨q+1,0,none⟩))(v:Value)(c:Int)(L:List ByteArray)
  (h0:W.heap[q]?=some (.cells #[.slice none 0 0] 24 (0,0))) (h1:W.heap[q+1]?=some (.cells #[.int .i64 0] 28 (0,0))) (hq:w.heap.size=q) (hb:Below w.heap.size w W) (hn:Ds.Nodup) (hD:∀D∈Ds,W.heap[D]?=some (.deferred (some []))∧q+1<D) (hs:StrsAt W v L):
  LeavesInM Fence.wide 6 Tryz.prog Tryz.f30 tmps (fun e w'=>∃v' c',e= .returned (.tuple #[v',.int .i64 c'])∧StrsAt w' v' L∧c'=c∧Below w.heap.size w w') (marks Ds) .returning ((W.setCell ⟨q,0,none⟩ v).setCell ⟨q+1,0,none⟩ (.int .i64 c)):=by
 have hqW:q<W.heap.size:=(Array.getElem?_eq_some_iff.1 h0).1;have hqW1:q+1<W.heap.size:=(Array.getElem?_eq_some_iff.1 h1).1;have ho6:OnlyAt (fun k=>k=q∨k=q+1) W ((W.setCell ⟨q,0,none⟩ v).setCell ⟨q+1,0,none⟩ (.int .i64 c)):=(OnlyAt.setCell _ _ _ (.inl rfl)).trans (OnlyAt.setCell _ _ _ (.inr rfl));have y0:((W.setCell ⟨q,0,none⟩ v).setCell ⟨q+1,0,none⟩ (.int .i64 c)).cell? ⟨q,0,none⟩=some v:=by
  rw[World.cell?_setCell_other _ _ _ _ (by simp)];exact World.cell?_setCell_same' _ _ _ (by rw[(one_box h0).1];rfl)
 have y1:((W.setCell ⟨q,0,none⟩ v).setCell ⟨q+1,0,none⟩ (.int .i64 c)).cell? ⟨q+1,0,none⟩=some (.int .i64 c):=by
  refine World.cell?_setCell_same' _ _ _ ?_;rw[World.cell?_setCell_other _ _ _ _ (by simp),(one_box h1).1];rfl
 have hst:∀(a:Addr) (x:ByteArray),W.cell? a=some (.string x)→a.block≠q∧a.block≠q+1:=fun a x ha=>by
  obtain⟨b,o,sp⟩:=a;have hb0:∀(y:Value) (t:TypeId),W.heap[b]?=some (.cells #[y] t (0,0))→y= .string x:=fun y t hh=>by
   unfold World.cell? at ha;simp only[hh]at ha;cases sp with
   | some s=>simp at ha
   | none=>
     cases o with
     | zero=>simpa using ha
     | succ o=>simp at ha
  refine⟨fun e=>?_,fun e=>?_⟩
  ·obtain rfl:b=q:=e;exact absurd (hb0 _ _ h0) (by simp)
  ·obtain rfl:b=q+1:=e;exact absurd (hb0 _ _ h1) (by simp)
 refine leaves_marks Ds _ hn (fun D hd=>?_) fun W' ho=>?_
 ·exact(ho6.block D (Array.getElem?_eq_some_iff.1 (hD D hd).1).1 (by have:=(hD D hd).2;omega)).trans (hD D hd).1
 ·have hnq:∀k,k≤q+1→¬(k∈Ds):=fun k hk hh=>by have:=(hD k hh).2;omega
  have z0:W'.cell? ⟨q,0,none⟩=some v:=by
   refine Eq.trans ?_ y0;unfold World.cell?;rw[ho.block q (Nat.lt_of_lt_of_le hqW ho6.size) (hnq q (by omega))]
  have z1:W'.cell? ⟨q+1,0,none⟩=some (.int .i64 c):=by
   refine Eq.trans ?_ y1;unfold World.cell?;rw[ho.block (q+1) (Nat.lt_of_lt_of_le hqW1 ho6.size) (hnq _ (Nat.le_refl _))]
  rw[Array.getD_eq_getD_getElem?]at t4 t5;refine⟨.tuple #[v,.int .i64 c],by simp[results,Tryz.results30,go_sem,t4,t5,z0,z1],v,c,rfl,?_,rfl,?_⟩
  ·rcases hs with h|⟨b,off,cap,e,k1,k2,k3,k4⟩
   ·exact .inl h
   ·refine .inr ⟨b,off,cap,e,Nat.lt_of_lt_of_le k1 (Nat.le_trans ho6.size ho.size),k2,k3,fun i x hi=>?_⟩;have hx:=k4 i x hi;obtain⟨n1,n2⟩:=hst _ _ hx;refine Eq.trans ?_ hx;have hnb:¬(b∈Ds):=fun hh=>by
     have h9:=(hD b hh).1;unfold World.cell? at hx;simp only[h9]at hx;cases hx
    unfold World.cell?;rw[ho.block b (Nat.lt_of_lt_of_le k1 ho6.size) hnb,ho6.block b k1 (fun hh=>hh.elim n1 n2)]
  ·exact OnlyAt.below (OnlyAt.below hb ho6 hb.size (fun k hk=>by omega)) ho (Nat.le_trans hb.size ho6.size) (fun k hk=>by have:=(hD k hk).2;omega)
theorem all_quit (w W:World)(q:Nat)(Ds:List Nat)(tmps:Array Value)(t4:tmps.getD 4 undef= .pointer (some ⟨q,0,none⟩))(t5:tmps.getD 5 undef= .pointer (some ⟨q+1,0,none⟩))(c:Int)
  (h0:W.heap[q]?=some (.cells #[.slice none 0 0] 24 (0,0))) (h1:W.heap[q+1]?=some (.cells #[.int .i64 c] 28 (0,0))) (hq:w.heap.size=q) (hb:Below w.heap.size w W) (hn:Ds.Nodup) (hD:∀D∈Ds,W.heap[D]?=some (.deferred (some []))∧q+1<D):
  LeavesInM Fence.wide 6 Tryz.prog Tryz.f30 tmps (fun e w'=>∃v' c',e= .returned (.tuple #[v',.int .i64 c'])∧StrsAt w' v' []∧c'=c∧Below w.heap.size w w') (marks Ds) .returning W:=by
 refine leaves_marks Ds _ hn (fun D hd=>(hD D hd).1) fun W' ho=>?_;have hnq:∀k,k≤q+1→¬(k∈Ds):=fun k hk hh=>by have:=(hD k hh).2;omega
 have z0:=(one_box ((ho.block q (Array.getElem?_eq_some_iff.1 h0).1 (hnq q (by omega))).trans h0)).1;have z1:=(one_box ((ho.block (q+1) (Array.getElem?_eq_some_iff.1 h1).1 (hnq _ (Nat.le_refl _))).trans h1)).1;rw[Array.getD_eq_getD_getElem?]at t4 t5;refine⟨.tuple #[.slice none 0 0,.int .i64 c],by simp[results,Tryz.results30,go_sem,t4,t5,z0,z1],.slice none 0 0,c,rfl,.inl ⟨rfl,_,_,rfl⟩,rfl,?_⟩;exact OnlyAt.below hb ho hb.size (fun k hk=>by have:=(hD k hk).2;omega)
theorem set_heap {W:World}{b:Nat}{x y:Value}{t:TypeId}(h:W.heap[b]?=some (.cells #[x] t (0,0))):(W.setCell ⟨b,0,none⟩ y).heap[b]?=some (.cells #[y] t (0,0)):=by
 have hlt:=(Array.getElem?_eq_some_iff.1 h).1;have he:=(Array.getElem?_eq_some_iff.1 h).2;unfold World.setCell;simp[Array.getElem?_modify,h]
theorem all_any (w:World)(v vE:Value)(rs:List Ru)(es:List En)(hr:RulesAt w v rs)(hE:EntsAt w vE es)(hT:Tabs9 w)(hrs:rs.length≤1000∧∀r∈rs,In64 r.flag)(hes:es.length≤1000000000)(hA:∀e∈es,ZArg rs e):
  Calls Tryz.prog 30 #[v,vE] w fun e w'=>∃v' c,e= .returned (.tuple #[v',.int .i64 c])∧StrsAt w' v' (allL rs es).1∧c=(allL rs es).2∧Below w.heap.size w w':=by
 obtain⟨SA,sc,rfl⟩:=rules_form hr;obtain⟨sn,hsn⟩:∃sn,sn=rs.length:=⟨_,rfl⟩;rw[←hsn]at hr⊢;have CB:=hid (fun wx (hb:Below w.heap.size w wx)=>byflag_on w wx (.slice SA sn sc) rs (rules_on hr (Sub.of_below hb)) (by omega) hrs.2);have CU:=hid (fun wx (hb:Below w.heap.size w wx)=>unlike_any wx vE es (hE.keep hb) hes (fun e he=>by have:=(hA e he).nf;omega));have HA:=hid (And.intro hr (And.intro hT (And.intro hrs hA)));have HES:=hid hes;have hmm:= @run_makeMap Tryz.prog;clear hr hE hT hrs hes hA hsn;refine(callsIn_wide (n:=6)).1 ?_;refine callsIn_of_wp_marks Tryz.func30 rfl trivial ?_ rfl;simp only[Tryz.ntmps30,List.size_toArray,List.length_cons,List.length_nil,Nat.reduceAdd,Nat.reduceSub,Array.replicate_succ,Array.replicate_zero,List.push_toArray,List.append_toArray,List.nil_append,List.cons_append];gi_wp2_with (first
  | (refine ⟨trivial,?_⟩;gi_at_call 55;refine(callsIn_wide.2 (CB.out _ (((Below.refl _ _).alloc (Nat.le_refl _) _).alloc (by simp) _))).mono ?_;rintro e w1 ⟨rfl,htab,hb1⟩)
  | (refine ⟨trivial,?_⟩;gi_at_call 56;refine(callsIn_wide.2 (CU.out _ ((((((Below.refl w.heap.size w).alloc (Nat.le_refl _) _).alloc (by simp) _).trans (hb1.mono (by simp;omega))).alloc (by have:=hb1.size;simp at this;omega) _).alloc (by have:=hb1.size;simp at this;simp;omega) _))).mono ?_;rintro e w2 ⟨v',l,rfl,hl,hb2,hll,hl1,hl2⟩;obtain⟨VA,vc,rfl⟩:=ents_form hl.1;obtain⟨ln,hln⟩:∃ln,ln=l.length:=⟨_,rfl⟩;rw[←hln]at hl⊢;have HL:=hid (And.intro hl (And.intro hb2 (And.intro hb1 (And.intro htab (And.intro hl1 (And.intro hl2 (And.intro hll hln)))))));clear hl hb2 hb1 htab hl1 hl2 hll hln))
 obtain⟨hl,hb2,hb1,htab,hl1,hl2,hll,hln⟩:=HL.out;obtain⟨q,hq⟩:∃q,q=w.heap.size:=⟨_,rfl⟩;obtain⟨mb,hmb⟩:∃mb,mb=w1.heap.size:=⟨_,rfl⟩;have s0:((w.alloc (.cells #[.slice none 0 0] 24)).alloc (.cells #[.int .i64 0] 28)).heap.size=q+2:=by rw[World.size_alloc,World.size_alloc,hq]
 have s1:q+2<mb:=by have:=htab.lt;rw[s0]at this;omega
 have s2:((w1.alloc (.map #[] 0)).alloc (.cells #[.map (some w1.heap.size)] 106)).heap.size=mb+2:=by rw[World.size_alloc,World.size_alloc,hmb]
 have s3:mb+2≤w2.heap.size:=by have:=hb2.size;rw[s2]at this;exact this
 have p0:((w.alloc (.cells #[.slice none 0 0] 24)).alloc (.cells #[.int .i64 0] 28)).heap[q]?=some (.cells #[.slice none 0 0] 24 (0,0)):=heap_up (heap_top _ _ hq.symm) _;have p1:((w.alloc (.cells #[.slice none 0 0] 24)).alloc (.cells #[.int .i64 0] 28)).heap[q+1]?=some (.cells #[.int .i64 0] 28 (0,0)):=heap_top _ _ (by rw[World.size_alloc,hq]);have a0:=heap_up (heap_up ((hb1.block q (by rw[s0];omega)).trans p0) (.map #[] 0)) (.cells #[.map (some w1.heap.size)] 106);have a1:=heap_up (heap_up ((hb1.block (q+1) (by rw[s0];omega)).trans p1) (.map #[] 0)) (.cells #[.map (some w1.heap.size)] 106);have c0:=(hb2.block q (by rw[s2];omega)).trans a0;have c1:=(hb2.block (q+1) (by rw[s2];omega)).trans a1;have m0:((w1.alloc (.map #[] 0)).alloc (.cells #[.map (some w1.heap.size)] 106)).heap[mb]?=some (.map #[] 0):=heap_up (heap_top _ _ hmb.symm) _;have m1:((w1.alloc (.map #[] 0)).alloc (.cells #[.map (some w1.heap.size)] 106)).heap[mb+1]?=some (.cells #[.map (some w1.heap.size)] 106 (0,0)):=heap_top _ _ (by rw[World.size_alloc,hmb]);have d0:=(hb2.block mb (by rw[s2];omega)).trans m0;have d1:=(hb2.block (mb+1) (by rw[s2];omega)).trans m1;rw[←hmb]at d1;have hw1:Below w.heap.size w w1:=(((Below.refl _ _).alloc (Nat.le_refl _) _).alloc (by simp) _).trans (hb1.mono (by rw[s0];omega));have hw2:Below w.heap.size w w2:=((hw1.alloc hw1.size _).alloc (by rw[World.size_alloc];omega) _).trans (hb2.mono (by rw[s2];omega));have hq2:q+1<w2.heap.size:=by omega
 have hbase:Below w.heap.size w (cutW w2 q):=cut_below w w2 hw2 (by omega);have htb:TabAt (cutW w2 q) (cutW w2 q) (q+2) rs:=by
  have h1:TabAt w w2 (q+2) rs:=by
   rw[s0]at htab;have h2:Below w1.heap.size w1 w2:=(((Below.refl _ _).alloc (Nat.le_refl _) _).alloc (by simp) _).trans (hb2.mono (by rw[s2];omega));exact htab.keep h2
  exact(h1.base (Sub.of_below hbase)).cut (by omega) (by simp) c0 (by simp) c1
 have hents:EntsAt (cutW w2 q) (.slice VA ln vc) l:=hl.2 _ (by rw[cut_size];exact Nat.le_refl _) (fun k hk _=>by rw[s2]at hk;exact cut_heap w2 q (by omega));obtain⟨D,U,htf⟩:=htb.named;have HTF:=hid htf;have HS:=hid (And.intro hq (And.intro s1 (And.intro s3 (And.intro hw2 hq2))));have HM:=hid (And.intro d0 (And.intro d1 (And.intro c0 c1)));have HE:=hid hents;have HB:=hid hbase;have HLF:=hid (And.intro hl1 (And.intro hl2 (And.intro hll hln)));have hz:∀e∈l,ZArg rs e:=fun e he=>by
  obtain⟨e0,h1,h2,h3⟩:=hl1 e he;have h:=HA.out.2.2.2 e0 h1;exact⟨h.fit,h.rin,fun f hf=>h.fin f ((h2.2 f).1 hf),by rw[h2.1];exact h.word,h.nr,by have:=h.nf;omega⟩
 have HZ:=hid hz;have hln9:ln≤1000000000:=by have:=HES.out;omega
 rw[←hq,←hmb];simp only[Nat.add_assoc,Nat.reduceAdd];have HO0:Hid (OutQ w w2 q mb rs l 0 [] (.map []) w2):=by
  refine hid ⟨⟨?_,fun x=>by simp[Maps.has]⟩,by simp[Maps.size],KeepsAt.refl _ _,hw2,List.nodup_nil,fun D hD=>(by cases hD),c0,c1⟩;obtain⟨es',clock,h1,h2⟩:=World.ownsMap_made (H:=Unit) w Tryz.prog 9 unitElem;have h3:=(World.alloc_heap_new w (.map #[] 0)).symm.trans h1;exact⟨es',clock,d0.trans h3,h2⟩
 clear hl hb2 hb1 htab hl1 hl2 hll hln s0 s1 s2 s3 p0 p1 a0 a1 c0 c1 m0 m1 d0 d1 hw1 hw2 hq2 hbase htb hents htf hz hq hmb HL CB CU hmm;refine wpIn_loop_ghost_k (fun gh a W=>∃(k:Nat) (Ds:List Nat) (D':DataW Unit) (u8 u9 u10 u18 u19 u20 u21 u22 u23 u24 u25 u26 u27 u28 u29 u30 u31 u32 u33:Value),k+gh=ln∧Hid (OutQ w w2 q mb rs l k Ds D' W)∧a={ tmps:=#[.slice SA sn sc,vE,undef,undef,.pointer (some ⟨q,0,none⟩),.pointer (some ⟨q+1,0,none⟩),.map (some (q+2)),.pointer (some ⟨mb+1,0,none⟩),u8,u9,u10,.slice SA sn sc,.map (some (q+2)),.map (some mb),vE,.slice VA ln vc,.int .i64 ln,.int .i64 k,u18,u19,u20,u21,u22,u23,u24,u25,u26,u27,u28,u29,u30,u31,u32,u33],defers:=marks Ds }) ln ⟨0,[],_,_,_,_,_,_,_,_,_,_,_,_,_,_,_,_,_,_,_,_,by omega,HO0,rfl⟩ ?_;rintro gk a' wr ⟨k,Ds,D',u8,u9,u10,u18,u19,u20,u21,u22,u23,u24,u25,u26,u27,u28,u29,u30,u31,u32,u33,hk,HO,rfl⟩ J K hJ hK;have HJK:=hid (And.intro hJ hK);clear hJ hK;by_cases hlt:k<ln
 ·obtain⟨e,he⟩:∃e,l[k]?=some e:=⟨l[k]'(by have:=HLF.out.2.2.2;omega),List.getElem?_eq_getElem _⟩;have hmem:=List.mem_of_getElem? he;have hwd:=HO.out.old;have hq2:=HS.out.2.2.2.2;have hsub:Sub (cutW w2 q) wr:=cut_sub hwd (fun k h1 h2 h3=> .inl ⟨h1,h2,h3⟩) hq2;obtain⟨b,off,hVA,hb,hnc,c0,A',cap',c1,hints⟩:=ents_open HE.out k e he;subst hVA;obtain⟨wd,fl⟩:=e;dsimp only at c0 c1 hints;obtain⟨fn,hfn⟩:∃fn,fn=fl.length:=⟨_,rfl⟩;rw[←hfn]at c1 hints;have c0:=hsub.2 _ _ c0;have c1:=hsub.2 _ _ c1;have hb:b<wr.heap.size:=Nat.lt_of_lt_of_le hb hsub.1;have hfix:AFix (cutW w2 q) rs fl wd A' fn cap':=by
   have hz:=HZ.out _ hmem;exact⟨hints,tabs_below HA.out.2.1 HB.out,hz.fit,hz.rin,hz.fin,hz.word,hz.nr,hz.nf⟩
  have HFIX:=hid hfix;have HEL:=hid (And.intro he (And.intro hmem hfn));have HSB:=hid hsub;have CM:=hid (fun wx=>made_call (some (q+2)) wd A' fn cap' wx);clear he hmem hwd hq2 hsub hints hfn hfix;gi_wp2_with (refine ⟨trivial,?_⟩;gi_at_call 57;refine(callsIn_wide.2 (CM.out _)).mono ?_;rintro e3 w3 ⟨rfl,rfl⟩);obtain⟨m,hm⟩:∃m,m=wr.heap.size:=⟨_,rfl⟩;have hb3:Below wr.heap.size wr (((wr.alloc (.cells #[.string wd,.slice A' fn cap'] 99)).alloc (.cells #[.map (some (q+2))] 103)).alloc (.cells #[.string wd,.slice A' fn cap'] 99)):=(((Below.refl _ _).alloc (Nat.le_refl _) _).alloc (by simp) _).alloc (by simp;omega) _;have n0:(((wr.alloc (.cells #[.string wd,.slice A' fn cap'] 99)).alloc (.cells #[.map (some (q+2))] 103)).alloc (.cells #[.string wd,.slice A' fn cap'] 99)).heap[m+1]?=some (.cells #[.map (some (q+2))] 103 (0,0)):=heap_up (heap_top _ _ (by rw[World.size_alloc,hm])) _;have n1:(((wr.alloc (.cells #[.string wd,.slice A' fn cap'] 99)).alloc (.cells #[.map (some (q+2))] 103)).alloc (.cells #[.string wd,.slice A' fn cap'] 99)).heap[m+2]?=some (.cells #[.string wd,.slice A' fn cap'] 99 (0,0)):=heap_top _ _ (by simp only[World.size_alloc];omega);rw[←hm];simp only[Nat.add_assoc,Nat.reduceAdd];revert hb3 n0 n1;generalize (((wr.alloc (.cells #[.string wd,.slice A' fn cap'] 99)).alloc (.cells #[.map (some (q+2))] 103)).alloc (.cells #[.string wd,.slice A' fn cap'] 99))=w3;intro hb3 n0 n1;obtain⟨sq,sqm,smw,hw2,hq2⟩:=HS.out;have hso:=HO.out.old.size;have hsm:m+2<w3.heap.size:=(Array.getElem?_eq_some_iff.1 n1).1;have hs3:Sub (cutW w2 q) w3:=HSB.out.trans (Sub.of_below hb3);have hmp:w3.heap[q+2]?=(cutW w2 q).heap[q+2]?:=by
   rw[hb3.block (q+2) (by omega),HO.out.old.block (q+2) (by omega) (.inr rfl)];exact(cut_heap w2 q (by omega)).symm
  have hRlt:∀k,((CellsOf w3 k∧k≠q∧k≠q+1)∨k=q+2)→k<w3.heap.size:=fun k h=>h.elim (fun h=>h.1.lt) fun e=>by omega
  have hdat:∀W',KeepsAt (fun k=>(CellsOf w3 k∧k≠q∧k≠q+1)∨k=q+2) w3 W'→AData (cutW w2 q) (m+2) (m+1) (q+2) rs D U wd A' fn cap' W':=fun W' hk=>by
   have hs:=cut_more hs3 hk (fun k h1 h2 h3=> .inl ⟨h1,h2,h3⟩) hq2;have hkk:∀(p:Addr) v,w3.cell? p=some v→p.block≠q→p.block≠q+1→W'.cell? p=some v:=fun p v hp h1 h2=>by
    have hc:=CellsOf.of_cell hp;unfold World.cell? at hp⊢;rw[hk.block p.block hc.lt (.inl ⟨hc,h1,h2⟩)];exact hp
   refine⟨hs,HTF.out.on hs ((hk.block _ (by omega) (.inr rfl)).trans hmp),hkk _ _ ?_ (by show m+2≠q;omega) (by show m+2≠q+1;omega),hkk _ _ ?_ (by show m+2≠q;omega) (by show m+2≠q+1;omega),hkk _ _ ?_ (by show m+1≠q;omega) (by show m+1≠q+1;omega)⟩
   ·simp[World.cell?,n1]
   ·simp[World.cell?,n1]
   ·simp[World.cell?,n0]
  have HDAT:=hid hdat;have HR3:=hid hRlt;have hbw3:Below w.heap.size w w3:=HO.out.below.trans (hb3.mono HO.out.below.size);have e0:=(hb3.block q (Array.getElem?_eq_some_iff.1 HO.out.c0).1).trans HO.out.c0;have e1:=(hb3.block (q+1) (Array.getElem?_eq_some_iff.1 HO.out.c1).1).trans HO.out.c1;have eb:w3.heap[mb+1]?=some (.cells #[.map (some mb)] 106 (0,0)):=by
   have hc:CellsOf w2 (mb+1):=⟨_,_,_,HM.out.2.1⟩;exact(hb3.block _ (Nat.lt_of_lt_of_le hc.lt hso)).trans ((HO.out.old.block _ hc.lt (.inl ⟨hc,by omega,by omega⟩)).trans HM.out.2.1)
  have em:∃es0 clock,w3.heap[mb]?=some (.map es0 clock):=by
   obtain⟨es0,clock,h1,-⟩:=HO.out.set.own;exact⟨es0,clock,(hb3.block mb (by omega)).trans h1⟩
  have hmk:∀D∈Ds,w3.heap[D]?=some (.deferred (some [])):=fun D hD=>(hb3.block D (Array.getElem?_eq_some_iff.1 (HO.out.mark D hD).1).1).trans (HO.out.mark D hD).1;have HX3:=hid (And.intro hbw3 (And.intro e0 (And.intro e1 (And.intro eb (And.intro em (And.intro hmk (And.intro hsm (And.intro hm (hb3)))))))));clear hb3 n0 n1 sq sqm smw hw2 hq2 hso hsm hs3 hmp hRlt hdat hbw3 e0 e1 eb em hmk hm;refine wpIn_stops (R:=fun k=>(CellsOf w3 k∧k≠q∧k≠q+1)∨k=q+2) (gf:=107) (lb:=#[.pointer (some ⟨m+2,0,none⟩),.pointer (some ⟨m+1,0,none⟩)]) rfl (enters_of Tryz.func107 (by kernel_rfl) rfl) (by omega) (encs:=fmEnc) (Adm:=FmAdm rs ⟨wd,fl⟩) (S:=FmAll rs ⟨wd,fl⟩)
   (fun W1' ho=>made_stops (cutW w2 q) (m+2) (m+1) (q+2) rs D U fl wd A' fn cap' HFIX.out _ W1' (fun W' hk=>HDAT.out W' ((KeepsAt.of_only ho (fun _ _ h=>h)).trans hk)) (fun k hk=>Nat.lt_of_lt_of_le (HR3.out k hk) ho.size))
   (fun _=>rfl) HR3.out
   (fun T pre W'=>∃D2,SetQ W' mb D2 (Maps.size D2) (fun x=>(∃e∈l.take k,IsForm rs e x)∨x∈pre)∧Maps.size D2≤20000∧(∀j,T j→w3.heap.size≤j)∧KeepsAt (fun k=>(CellsOf w3 k∧k≠q∧k≠q+1)∨k=q+2) w3 W'∧Below w.heap.size w W'∧(∀D∈Ds,W'.heap[D]?=some (.deferred (some [])))∧W'.heap[q]?=some (.cells #[.slice none 0 0] 24 (0,0))∧W'.heap[q+1]?=some (.cells #[.int .i64 0] 28 (0,0))∧∀x∈pre,IsForm rs ⟨wd,fl⟩ x)
   ?stab (fun c T pre W'=>c= .ret∧w3.heap.size≤W'.heap.size∧20000<(allF rs es).length∧(∀j,T j→w3.heap.size≤j)∧Below w.heap.size w W'∧(∀D∈Ds,W'.heap[D]?=some (.deferred (some [])))∧W'.heap[q]?=some (.cells #[.slice none 0 0] 24 (0,0))∧W'.heap[q+1]?=some (.cells #[.int .i64 3] 28 (0,0))) ?stabx ?start
   (fun T pre x a' W'=>(∃D2,SetQ W' mb D2 (Maps.size D2) (fun x=>(∃e∈l.take k,IsForm rs e x)∨x∈pre)∧Maps.size D2≤20000∧(∀j,T j→w3.heap.size≤j)∧KeepsAt (fun k=>(CellsOf w3 k∧k≠q∧k≠q+1)∨k=q+2) w3 W'∧Below w.heap.size w W'∧(∀D∈Ds,W'.heap[D]?=some (.deferred (some [])))∧W'.heap[q]?=some (.cells #[.slice none 0 0] 24 (0,0))∧W'.heap[q+1]?=some (.cells #[.int .i64 0] 28 (0,0))∧∀x∈pre,IsForm rs ⟨wd,fl⟩ x)∧
    a'={ tmps:=#[.slice SA sn sc,vE,undef,undef,.pointer (some ⟨q,0,none⟩),.pointer (some ⟨q+1,0,none⟩),.map (some (q+2)),.pointer (some ⟨mb+1,0,none⟩),u8,.pointer (some ⟨m,0,none⟩),.string x,.slice SA sn sc,.map (some (q+2)),.map (some mb),vE,.slice (some ⟨b,off,none⟩) ln vc,.int .i64 ln,.int .i64 k,.bool true,.pointer (some ⟨b,off+k*2,none⟩),.agg #[.string wd,.slice A' fn cap'],.map (some (q+2)),.agg #[.string wd,.slice A' fn cap'],.func (.func 107) #[] #[.pointer (some ⟨m+2,0,none⟩),.pointer (some ⟨m+1,0,none⟩)],.string x,u25,u26,u27,u28,u29,u30,u31,u32,u33],defers:=[] })
   ?staba ?assign ?body ?done ?stop
  case stab=>
   rintro T T' pre U V ⟨D2,h,hf,hT,hkp,hb,hmk,e0,e1,hx⟩ ho ht;have hsT:w3.heap.size≤U.heap.size:=hkp.size;have hbw:=HX3.out.1.size;have hnm:¬T mb:=fun hh=>by have:=hT _ hh;have:=HS.out.2.2.1;have:=HO.out.old.size;have:=HX3.out.2.2.2.2.2.2.2.2.size;omega
   have hl3:∀j,j<w3.heap.size→¬T j:=fun j hj hh=>by have:=hT j hh;omega
   have hq3:q+1<w3.heap.size:=(Array.getElem?_eq_some_iff.1 HX3.out.2.2.1).1;refine⟨D2,⟨omap_same h.own (ho.block _ h.own.lt hnm),h.mem⟩,hf,fun j hj=>?_,hkp.trans ⟨ho.size,fun j hj hr=>ho.block j hj (hl3 j (HR3.out j hr))⟩,OnlyAt.below hb ho hb.size (fun j hh=>by have:=hT _ hh;omega),fun D hD=>(ho.block D (Array.getElem?_eq_some_iff.1 (hmk D hD)).1 (hl3 D (Array.getElem?_eq_some_iff.1 (HX3.out.2.2.2.2.2.1 D hD)).1)).trans (hmk D hD),(ho.block q (by omega) (hl3 q (by omega))).trans e0,(ho.block (q+1) (by omega) (hl3 _ hq3)).trans e1,hx⟩
   ·rcases ht j hj with h'|h'
    ·exact hT j h'
    ·omega
  case stabx=>
   rintro c T T' pre U V ⟨hc,hz3,hbig,hT,hb,hmk,e0,e1⟩ ho ht;have hl3:∀j,j<w3.heap.size→¬T j:=fun j hj hh=>by have:=hT j hh;omega
   have hq3:q+1<w3.heap.size:=(Array.getElem?_eq_some_iff.1 HX3.out.2.2.1).1;have hbw:=HX3.out.1.size;have hq1:q+1<U.heap.size:=(Array.getElem?_eq_some_iff.1 e1).1;refine⟨hc,Nat.le_trans hz3 ho.size,hbig,fun j hj=>?_,OnlyAt.below hb ho hb.size (fun j hh=>by have:=hT _ hh;omega),fun D hD=>(ho.block D (Array.getElem?_eq_some_iff.1 (hmk D hD)).1 (hl3 D (Array.getElem?_eq_some_iff.1 (HX3.out.2.2.2.2.2.1 D hD)).1)).trans (hmk D hD),(ho.block q (by omega) (hl3 q (by omega))).trans e0,(ho.block (q+1) hq1 (hl3 _ hq3)).trans e1⟩;rcases ht j hj with h'|h'
   ·exact hT j h'
   ·omega
  case start=>
   obtain⟨hs1,hs2,hs3,hs4,hs5,hs6,hs7,hs8,hs9⟩:=HX3.out;refine⟨D',⟨omap_below HO.out.set.own hs9,fun x=>?_⟩,HO.out.few,fun _ h=>h.elim,KeepsAt.refl _ _,hs1,hs6,hs2,hs3,fun x hx=>by cases hx⟩;rw[HO.out.set.mem];simp
  case staba=>
   rintro pre x a' T T' _ U V ⟨⟨D2,h,hf,hT,hkp,hb,hmk,e0,e1,hx⟩,ha⟩ ho ht;have hsT:w3.heap.size≤U.heap.size:=hkp.size;have hbw:=HX3.out.1.size;have hnm:¬T mb:=fun hh=>by have:=hT _ hh;have:=HS.out.2.2.1;have:=HO.out.old.size;have:=HX3.out.2.2.2.2.2.2.2.2.size;omega
   have hl3:∀j,j<w3.heap.size→¬T j:=fun j hj hh=>by have:=hT j hh;omega
   have hq3:q+1<w3.heap.size:=(Array.getElem?_eq_some_iff.1 HX3.out.2.2.1).1;refine⟨⟨D2,⟨omap_same h.own (ho.block _ h.own.lt hnm),h.mem⟩,hf,fun j hj=>?_,hkp.trans ⟨ho.size,fun j hj hr=>ho.block j hj (hl3 j (HR3.out j hr))⟩,OnlyAt.below hb ho hb.size (fun j hh=>by have:=hT _ hh;omega),fun D hD=>(ho.block D (Array.getElem?_eq_some_iff.1 (hmk D hD)).1 (hl3 D (Array.getElem?_eq_some_iff.1 (HX3.out.2.2.2.2.2.1 D hD)).1)).trans (hmk D hD),(ho.block q (by omega) (hl3 q (by omega))).trans e0,(ho.block (q+1) (by omega) (hl3 _ hq3)).trans e1,hx⟩,ha⟩
   ·rcases ht j hj with h'|h'
    ·exact hT j h'
    ·omega
  case assign=>
   rintro l2 T pre x W' K2 hadm hI hlt hK2;simp only[fmEnc];obtain⟨hs1,hs2,hs3,hs4,hs5,hs6,hs7,hs8,hs9⟩:=HX3.out;gi_wp2;exact hK2 _ _ (OnlyAt.refl _ _) ⟨hI,by rw[hs8]⟩
  case body=>
   rintro l2 T pre x a' W' hadm ⟨⟨D2,h,hf,hT,hkp,hb,hmk,e0,e1,hx⟩,rfl⟩ hlt;have hcb:CellsOf w3 (mb+1):=⟨_,_,_,HX3.out.2.2.2.1⟩;have c2:W'.cell? ⟨mb+1,0,none⟩=some (.map (some mb)):=(one_box ((hkp.block _ hcb.lt (.inl ⟨hcb,by have:=HS.out.2.1;omega,by have:=HS.out.2.1;omega⟩)).trans HX3.out.2.2.2.1)).1;have hxs:x.size≤maxLen:=by have:=form_size (HZ.out _ HEL.out.2.1) hadm.1;unfold maxLen;omega
   have HI2:=hid (And.intro h (And.intro hf (And.intro hT (And.intro hkp (And.intro hb (And.intro hmk (And.intro e0 e1)))))));have HX:=hid (And.intro hx (And.intro hadm.1 hxs));clear h hf hT hkp hb hmk e0 e1 hx hadm hxs hcb;obtain⟨D3,hD3⟩:∃D3,D3=D2.put (.string x.data.toList) (.agg []):=⟨_,rfl⟩;obtain⟨sz,hsz⟩:∃sz,sz=Maps.size D3:=⟨_,rfl⟩;have HSZ:=hid (And.intro hD3 hsz);have AFT:=hid (show∀W4,W4.ownsMap Tryz.prog 9 unitElem mb (Maps.size D2+1) D3→W'.grownBy W4 (some mb)→(W4.cell? ⟨mb+1,0,none⟩=some (.map (some mb))∧(W4.cell? ⟨q,0,none⟩=some (.slice none 0 0)∧W4.frozen? ⟨q,0,none⟩=false)∧W4.cell? ⟨q+1,0,none⟩=some (.int .i64 0)∧W4.frozen? ⟨q+1,0,none⟩=false)∧
     (SetQ W4 mb D3 (Maps.size D3) (fun y=>(∃e∈l.take k,IsForm rs e y)∨y∈pre++[x])∧KeepsAt (fun k=>(CellsOf w3 k∧k≠q∧k≠q+1)∨k=q+2) w3 W4∧Below w.heap.size w W4∧(∀D∈Ds,W4.heap[D]?=some (.deferred (some [])))∧W4.heap[q]?=some (.cells #[.slice none 0 0] 24 (0,0))∧W4.heap[q+1]?=some (.cells #[.int .i64 0] 28 (0,0))∧(∀y∈pre++[x],IsForm rs ⟨wd,fl⟩ y)∧KeepsAt (fun j=>((CellsOf w3 j∧j≠q∧j≠q+1)∨j=q+2)∨T j) W' W4)from by
    intro W4 hown hg;obtain⟨h,hf,hT,hkp,hb,hmk,e0,e1⟩:=HI2.out;obtain⟨hs1,hs2,hs3,hs4,⟨es0,clock,hs5⟩,hs6,hs7,hs8,hs9⟩:=HX3.out;have ho4:OnlyAt (fun k=>k=mb) W' W4:=OnlyAt.of_grown hg (fun k e=>by cases e;rfl);have hq1:=HS.out.2.1;have hnm:∀j,((CellsOf w3 j∧j≠q∧j≠q+1)∨j=q+2)→j≠mb:=by
     rintro j (⟨⟨c,t,f,hc⟩,-,-⟩|rfl) e
     ·rw[e,hs5]at hc;cases hc
     ·omega
    have hqlt:q+1<W'.heap.size:=(Array.getElem?_eq_some_iff.1 e1).1;have g0:=(ho4.block q (by omega) (by omega)).trans e0;have g1:=(ho4.block (q+1) hqlt (by omega)).trans e1;have hcb:CellsOf w3 (mb+1):=⟨_,_,_,hs4⟩;have gb:=(ho4.block (mb+1) (Nat.lt_of_lt_of_le hcb.lt hkp.size) (by omega)).trans ((hkp.block _ hcb.lt (.inl ⟨hcb,by omega,by omega⟩)).trans hs4);have hp:=h.put HX.out.2.2 (k':=Maps.size D2+1) (w':=W4) (by rw[←hD3];exact hown);rw[←hD3]at hp;refine⟨⟨(one_box gb).1,one_box g0,one_box g1⟩,⟨omap_fit hown,fun y=>?_⟩,hkp.trans ⟨ho4.size,fun j hj hr=>ho4.block j hj (hnm j hr)⟩,OnlyAt.below hb ho4 hb.size (fun j hj=>by have:=HS.out.1;omega),fun D hD=>(ho4.block D (Array.getElem?_eq_some_iff.1 (hmk D hD)).1 (fun e=>by have:=hs6 D hD;rw[e,hs5]at this;cases this)).trans (hmk D hD),g0,g1,fun y hy=>?_,⟨ho4.size,fun j hj hr=>ho4.block j hj ?_⟩⟩
    ·rw[hp.mem,List.mem_append,List.mem_singleton];constructor
     ·rintro (h|h|h)
      ·exact .inr (.inr h)
      ·exact .inl h
      ·exact .inr (.inl h)
     ·rintro (h|h|h)
      ·exact .inr (.inl h)
      ·exact .inr (.inr h)
      ·exact .inl h
    ·rcases List.mem_append.1 hy with hy|hy
     ·exact HX.out.1 y hy
     ·rw[List.mem_singleton.1 hy];exact HX.out.2.1
    ·rcases hr with hr|hr
     ·exact hnm j hr
     ·have:=hT j hr;have:=(Array.getElem?_eq_some_iff.1 hs5).1;omega)
   clear hD3 hsz;by_cases hbig:sz≤20000
   ·have hbi:(sz:Int)≤20000:=by omega
    gi_wp2_with (first
     | (gi_at_mapUpdate;refine wpListIn_mapUpdate_own _ rfl _ _ _ 106 rfl 9 _ keyed_str Tryz.underlying106 _ mb (Maps.size D2) _ rfl HI2.out.1.own (by have:=HI2.out.2.1;unfold maxLen;omega) _ _ _ rfl rfl (key_str HX.out.2.2) _ [] unitElem_mk ?_;rw[←HSZ.out.1];intro W4 hown4 hg4;obtain⟨⟨y2,⟨y0,f0⟩,y1,f1⟩,hrest⟩:=AFT.out W4 hown4 hg4;have HRE:=hid hrest;clear hrest hown4 hg4)
     | (gi_at_len;refine wpListIn_len_own _ rfl _ 106 rfl 9 _ Tryz.underlying106 unitElem mb (Maps.size D3) D3 rfl HRE.out.1.own ?_;rw[←HSZ.out.2]))
    exact⟨⟨D3,HRE.out.1,by have:=HSZ.out.2;omega,HI2.out.2.2.1,HRE.out.2.1,HRE.out.2.2.1,HRE.out.2.2.2.1,HRE.out.2.2.2.2.1,HRE.out.2.2.2.2.2.1,HRE.out.2.2.2.2.2.2.1⟩,HRE.out.2.2.2.2.2.2.2⟩
   ·have hbi:20000<(sz:Int):=by omega
    gi_wp2_with (first
     | (gi_at_mapUpdate;refine wpListIn_mapUpdate_own _ rfl _ _ _ 106 rfl 9 _ keyed_str Tryz.underlying106 _ mb (Maps.size D2) _ rfl HI2.out.1.own (by have:=HI2.out.2.1;unfold maxLen;omega) _ _ _ rfl rfl (key_str HX.out.2.2) _ [] unitElem_mk ?_;rw[←HSZ.out.1];intro W4 hown4 hg4;obtain⟨⟨y2,⟨y0,f0⟩,y1,f1⟩,hrest⟩:=AFT.out W4 hown4 hg4;have HRE:=hid hrest;clear hrest hown4 hg4)
     | (gi_at_len;refine wpListIn_len_own _ rfl _ 106 rfl 9 _ Tryz.underlying106 unitElem mb (Maps.size D3) D3 rfl HRE.out.1.own ?_;rw[←HSZ.out.2]))
    clear y0 y1 y2 f0 f1;obtain⟨h1,h2,h3,h4,h5,h6,h7,h8⟩:=HRE.out;have hq1:q+1<W4.heap.size:=(Array.getElem?_eq_some_iff.1 h6).1;have hw3q:q+1<w3.heap.size:=(Array.getElem?_eq_some_iff.1 HX3.out.2.2.1).1;have ho5:OnlyAt (fun k=>k=q∨k=q+1) W4 ((W4.setCell ⟨q,0,none⟩ (.slice none 0 0)).setCell ⟨q+1,0,none⟩ (.int .i64 3)):=(OnlyAt.setCell _ _ _ (.inl rfl)).trans (OnlyAt.setCell _ _ _ (.inr rfl));refine⟨⟨rfl,Nat.le_trans h2.size ho5.size,?_,HI2.out.2.2.1,OnlyAt.below h3 ho5 h3.size (fun j hj=>by have:=HS.out.1;omega),fun D hD=>(ho5.block D (Array.getElem?_eq_some_iff.1 (h4 D hD)).1 (fun e=>?_)).trans (h4 D hD),?_,?_⟩,h8.trans ⟨ho5.size,fun j hj hr=>ho5.block j hj (fun e=>?_)⟩⟩
    ·refine Nat.lt_of_lt_of_le (show 20000<Maps.size D3 by have:=HSZ.out.2;omega) (set_le h1.own fun y hy=>?_);rw[allF_mem];rcases (h1.mem y).1 hy with ⟨e,he,hfe⟩|hy
     ·obtain⟨e0,k1,k2,-⟩:=HLF.out.1 e (List.mem_of_mem_take he);exact⟨e0,k1,(isform_alike k2 y).1 hfe⟩
     ·obtain⟨e0,k1,k2,-⟩:=HLF.out.1 _ HEL.out.2.1;exact⟨e0,k1,(isform_alike k2 y).1 (h7 y hy)⟩
    ·have h9:=h4 D hD;rcases e with rfl|rfl
     ·rw[h5]at h9;cases h9
     ·rw[h6]at h9;cases h9
    ·exact(Below.heap_setCell _ _ _ _ (by show q≠q+1;omega)).trans (set_heap h5)
    ·exact set_heap ((Below.heap_setCell _ _ _ _ (by show q+1≠q;omega)).trans h6)
    ·have hq2:=HS.out.2.1;rcases hr with(⟨-,n1,n2⟩|rfl)|hr
     ·omega
     ·omega
     ·have:=HI2.out.2.2.1 j hr;omega
  case done=>
   rintro Dd T xs W' hDd hTD hall ⟨D2,h,hf,hT,hkp,hb,hmk,e0,e1,hx⟩ hKd;obtain⟨hs1,hs2,hs3,hs4,hs5,hs6,hs7,hs8,hs9⟩:=HX3.out;have htk:l.take (k+1)=l.take k++[⟨wd,fl⟩]:=by rw[List.take_add_one,HEL.out.1];rfl
   have hold:KeepsAt (fun k=>(CellsOf w2 k∧k≠q∧k≠q+1)∨k=q+2) w2 W':=by
    refine HO.out.old.trans ⟨Nat.le_trans hs9.size hkp.size,fun j hj hr=>(hkp.block j (Nat.lt_of_lt_of_le hj hs9.size) ?_).trans (hs9.block j hj)⟩;rcases hr with ⟨hc,n1,n2⟩|rfl
    ·refine .inl ⟨?_,n1,n2⟩;obtain⟨c,t,f,hcc⟩:=hc;exact⟨c,t,f,(hs9.block j hj).trans ((HO.out.old.block j (Array.getElem?_eq_some_iff.1 hcc).1 (.inl ⟨⟨c,t,f,hcc⟩,n1,n2⟩)).trans hcc)⟩
    ·exact .inr rfl
   have hnx:OutQ w w2 q mb rs l (k+1) (Dd::Ds) D2 W':=by
    refine⟨⟨h.own,fun y=>?_⟩,hf,hold,hb,List.nodup_cons.2 ⟨fun hh=>?_,HO.out.nd⟩,fun D hD=>?_,e0,e1⟩
    ·rw[h.mem,htk];simp only[List.mem_append,List.mem_singleton];constructor
     ·rintro (⟨e,he,hfe⟩|hy)
      ·exact⟨e,.inl he,hfe⟩
      ·exact⟨_,.inr rfl,hx y hy⟩
     ·rintro⟨e,he|he,hfe⟩
      ·exact .inl ⟨e,he,hfe⟩
      ·subst he;exact .inr (hall y hfe)
    ·have:=(Array.getElem?_eq_some_iff.1 (hs6 Dd hh)).1;omega
    ·rcases List.mem_cons.1 hD with rfl|hD
     ·exact⟨hKd,by have:=HO.out.old.size;have:=hs9.size;omega⟩
     ·exact⟨hmk D hD,(HO.out.mark D hD).2⟩
   have HNX:=hid hnx;have e17:((k+1:Nat):Int)=(k:Int)+1:=by omega
   clear h hf hT hkp hb hmk e0 e1 hx hKd hs1 hs2 hs3 hs4 hs5 hs6 hs7 hs8 hs9 htk hnx hall hold;gi_wp2;refine HJK.out.2 _ _ ⟨gk-1,by omega,HJK.out.1 _ _ _ ⟨k+1,Dd::Ds,D2,?_⟩⟩;repeat apply Exists.intro
   refine⟨by omega,HNX,?_⟩;rw[e17];rfl
  case stop=>
   rintro Dd T c xs W' hDd hTD ⟨rfl,hz3,hbig,hT,hb,hmk,e0,e1⟩ hKd;have hall:allL rs es=([],3):=by unfold allL;rw[if_neg (by omega)]
   have hnd:(Dd::Ds).Nodup:=List.nodup_cons.2 ⟨fun hh=>by have:=(Array.getElem?_eq_some_iff.1 (HX3.out.2.2.2.2.2.1 Dd hh)).1;omega,HO.out.nd⟩;have hw3q:q+1<w3.heap.size:=(Array.getElem?_eq_some_iff.1 HX3.out.2.2.1).1;have HQT:=hid (fun (tmps:Array Value) t4 t5=>all_quit w W' q (Dd::Ds) tmps t4 t5 3 e0 e1 HS.out.1.symm hb hnd (fun D hD=>by
    rcases List.mem_cons.1 hD with rfl|hD
    ·exact⟨hKd,by omega⟩
    ·exact⟨hmk D hD,by have:=(HO.out.mark D hD).2;have:=HS.out.2.2.2.2;omega⟩))
   have HAL:=hid hall;clear hz3 hbig hT hb hmk e0 e1 hKd hall hnd hw3q;gi_wp2;rw[HAL.out];refine HQT.out _ ?_ ?_
   ·rfl
   ·rfl
 ·obtain rfl:k=ln:=by omega
  have hset:=HO.out.set;have hfl:∀x:ByteArray,x∈allF rs es↔Maps.has D' (.string x.data.toList)=true:=fun x=>by
   rw[allF_mem,hset.mem,List.take_of_length_le (by have:=HLF.out.2.2.2;omega)];constructor
   ·rintro⟨e0,h0,hx⟩;obtain⟨e,h1,h2⟩:=HLF.out.2.1 e0 h0;exact⟨e,h1,(isform_alike h2 x).2 hx⟩
   ·rintro⟨e,h0,hx⟩;obtain⟨e0,h1,h2,-⟩:=HLF.out.1 e h0;exact⟨e0,h1,(isform_alike h2 x).1 hx⟩
  have hall:allL rs es=(allF rs es,0):=by
   unfold allL;rw[if_pos];exact Nat.le_trans (set_ge hset.own (rising_nodup (allF_rising rs es)) fun x hx=>(hfl x).1 hx) HO.out.few
  have hwd:=HO.out.old;have cb:wr.cell? ⟨mb+1,0,none⟩=some (.map (some mb)):=by
   have hc:CellsOf w2 (mb+1):=⟨_,_,_,HM.out.2.1⟩;have:=(hwd.block _ hc.lt (.inl ⟨hc,by have:=HS.out.2.1;omega,by have:=HS.out.2.1;omega⟩)).trans HM.out.2.1;simp[World.cell?,this]
  have CR:=hid (rising_any mb (Maps.size D') D' wr hset.own (by have:=HO.out.few;omega) (allF rs es) (allF_rising rs es) hfl);have HAL:=hid hall;clear hset hfl hall hwd;gi_wp2_with (refine ⟨trivial,?_⟩;gi_at_call 58;refine(callsIn_wide.2 CR.out).mono ?_;rintro e w5 ⟨v5,rfl,hst,hb5⟩;obtain⟨VB,vb5,rfl⟩:=strs_form hst;have g0:=(hb5.block q (Array.getElem?_eq_some_iff.1 HO.out.c0).1).trans HO.out.c0;have g1:=(hb5.block (q+1) (Array.getElem?_eq_some_iff.1 HO.out.c1).1).trans HO.out.c1;obtain⟨y0,f0⟩:=one_box g0;obtain⟨y1,f1⟩:=one_box g1;have H5:=hid (And.intro hst (And.intro hb5 (And.intro g0 g1)));clear hst hb5 g0 g1);rw[HAL.out];refine all_leave w w5 q Ds _ ?_ ?_ (.slice VB (allF rs es).length vb5) 0 (allF rs es) H5.out.2.2.1 H5.out.2.2.2 HS.out.1.symm (HO.out.below.trans (H5.out.2.1.mono HO.out.below.size)) HO.out.nd (fun D hD=>⟨(H5.out.2.1.block D (Array.getElem?_eq_some_iff.1 (HO.out.mark D hD).1).1).trans (HO.out.mark D hD).1,by have:=(HO.out.mark D hD).2;have:=HS.out.2.2.2.2;omega⟩) H5.out.1
  ·rfl
  ·rfl
end Go.Proofs.YtfehpcbmdancoaaGreatDoor.Cl
namespace Go.Proofs.YtfehpcbmdancoaaGreatDoor
open Go Go.RowKit Go.Lib
structure DictAt (w:World)(p:Nat)(d:Di):Prop where
 box:∃q g st A cap,w.heap[p]?=some (.cells #[.pointer (some ⟨q,0,none⟩),.slice A d.pairs.length cap] 68 (0,0))∧PairsAt w (.slice A d.pairs.length cap) d.pairs∧Dw.AutoAt w q g st∧Dw.AutoOf g st (bytesD d)
 pairs:PairsOk d.pairs∧d.pairs.length≤200
 forms:Rising d.forms∧d.forms.length≤20000∧∀x∈d.forms,x.size≤200
theorem DictAt.keep {w w':World}{p:Nat}{d:Di}(h:DictAt w p d)(hb:Below w.heap.size w w'):DictAt w' p d:=by
 obtain⟨q,g,st,A,cap,h1,h2,h3,h4⟩:=h.box;exact⟨⟨q,g,st,A,cap,(hb.block p (Array.getElem?_eq_some_iff.1 h1).1).trans h1,h2.keep hb,h3.keep hb,h4⟩,h.pairs,h.forms⟩
def NewE (w w':World)(o:Option Di×Nat×Nat×Int)(e:Ending):Prop:=
 ((o.1=none∧e= .returned (.tuple #[.pointer none,.int .i64 (o.2.1:Nat),.int .i64 (o.2.2.1:Nat),.int .i64 o.2.2.2]))∨
  ∃d p,o=(some d,0,0,0)∧e= .returned (.tuple #[.pointer (some ⟨p,0,none⟩),.int .i64 0,.int .i64 0,.int .i64 0])∧DictAt w' p d)∧Below w.heap.size w w'
theorem new_any (w:World)(fa fl:ByteArray)(hfa:fa.size≤1000000000)(hfl:fl.size≤1000000000)(hT:Tabs9 w):
  Calls Tryz.prog 10 #[.agg #[.string fa,.string fl]] w fun e w'=>NewE w w' (newD fa fl) e:=by
 obtain⟨W0,hW0⟩:∃W0,W0=w.alloc (.cells #[.string fa,.string fl] 23):=⟨_,rfl⟩;have hb0:Below w.heap.size w W0:=by rw[hW0];exact(Below.refl _ _).alloc (Nat.le_refl _) _
 have c0:∀wx,Below W0.heap.size W0 wx→wx.cell? ⟨w.heap.size,0,none⟩=some (.string fa)∧wx.cell? ⟨w.heap.size,1,none⟩=some (.string fl):=fun wx hb=>by
  have hs:w.heap.size<W0.heap.size:=by rw[hW0,World.size_alloc];omega
  have e0:W0.cell? ⟨w.heap.size,0,none⟩=some (.string fa):=by rw[hW0];exact Dw.new_cell w #[.string fa,.string fl] _ 0
  have e1:W0.cell? ⟨w.heap.size,1,none⟩=some (.string fl):=by rw[hW0];exact Dw.new_cell w #[.string fa,.string fl] _ 1
  exact⟨(hb.cell (p:=⟨w.heap.size,0,none⟩) hs).trans e0,(hb.cell (p:=⟨w.heap.size,1,none⟩) hs).trans e1⟩
 obtain⟨⟨a,ln,ec⟩,hpa⟩:∃o,o=parseA fa:=⟨_,rfl⟩;obtain⟨⟨es,ll,el⟩,hpl⟩:∃o,o=parseE fl:=⟨_,rfl⟩;have CA:=hid (Af.wparse_any W0 fa hfa (tabs_below hT hb0));rw[←hpa]at CA;obtain⟨c00,c01⟩:=c0 W0 (Below.refl _ _);have HC:=hid c0;have HB:=hid (And.intro hb0 hT);have HP:=hid (And.intro hpa hpl);have HFL:=hid hfl;clear hpa hpl hb0 c0 hT hfa hfl;go_enter Tryz.func10,Tryz.ntmps10;go_upto_region 2 with(go_at_call 28;rw[←hW0];refine CA.out.mono ?_;rintro e w1 ⟨v,rfl,ha,hb1⟩;obtain⟨A,cap,B,cap',rfl,hru,hpr⟩:=ha;have HA:=hid (And.intro hru (And.intro hpr hb1));clear hru hpr hb1);obtain⟨q6,hq6⟩:∃q6,q6=w1.heap.size:=⟨_,rfl⟩;obtain⟨w2,hw2⟩:∃w2,w2=w1.alloc (.cells #[.slice A a.rules.length cap,.slice B a.pairs.length cap'] 57):=⟨_,rfl⟩;have hb2:Below W0.heap.size W0 w2:=by rw[hw2];exact HA.out.2.2.alloc HA.out.2.2.size _
 have c2:∀wx,Below w2.heap.size w2 wx→wx.cell? ⟨q6,0,none⟩=some (.slice A a.rules.length cap)∧wx.cell? ⟨q6,1,none⟩=some (.slice B a.pairs.length cap'):=fun wx hb=>by
  have hs:q6<w2.heap.size:=by rw[hw2,hq6,World.size_alloc];omega
  have e0:w2.cell? ⟨q6,0,none⟩=some (.slice A a.rules.length cap):=by rw[hw2,hq6];exact Dw.new_cell w1 #[.slice A a.rules.length cap,.slice B a.pairs.length cap'] _ 0
  have e1:w2.cell? ⟨q6,1,none⟩=some (.slice B a.pairs.length cap'):=by rw[hw2,hq6];exact Dw.new_cell w1 #[.slice A a.rules.length cap,.slice B a.pairs.length cap'] _ 1
  exact⟨(hb.cell (p:=⟨q6,0,none⟩) hs).trans e0,(hb.cell (p:=⟨q6,1,none⟩) hs).trans e1⟩
 have hal:Below w1.heap.size w1 w2:=by rw[hw2];exact(Below.refl _ _).alloc (Nat.le_refl _) _
 have H2:=hid (show RulesAt w2 (.slice A a.rules.length cap) a.rules∧PairsAt w2 (.slice B a.pairs.length cap') a.pairs∧Below w.heap.size w w2 from ⟨HA.out.1.keep hal,HA.out.2.1.keep hal,HB.out.1.trans (hb2.mono HB.out.1.size)⟩);have HC2:=hid c2;rw[←hq6,←hw2];obtain⟨c00',c01'⟩:=HC.out w2 hb2;clear hq6 hw2 hb2 c2 hal HA CA c00 c01 hW0;by_cases hec:ec=0
 case neg=>
  have HZ:=hid (show newD fa fl=(none,1,ln,ec)by unfold newD;rw[←HP.out.1,if_pos hec]);go_wp2_with fail;refine bodyPost_ret (v:= .tuple #[.pointer none,.int .i64 1,.int .i64 ln,.int .i64 ec]) (by simp[results,Tryz.results10,go_sem]) rfl ?_;exact⟨.inl ⟨by rw[HZ.out],by rw[HZ.out];rfl⟩,H2.out.2.2⟩
 subst hec;have CL:=hid (Ls.gparse_any w2 fl HFL.out (tabs_below HB.out.2 H2.out.2.2));rw[←HP.out.2]at CL;go_upto_region 5 with(go_at_call 29;refine CL.out.mono ?_;rintro e w3 ⟨vl,rfl,hes,hb3⟩;have H3:=hid (And.intro hes hb3);clear hes hb3);clear CL c00' c01';by_cases hel:el=0
 case neg=>
  have HZ:=hid (show newD fa fl=(none,2,ll,el)by unfold newD;rw[←HP.out.1,if_neg (fun h=>h rfl),←HP.out.2,if_pos hel]);go_wp2_with fail;refine bodyPost_ret (v:= .tuple #[.pointer none,.int .i64 2,.int .i64 ll,.int .i64 el]) (by simp[results,Tryz.results10,go_sem]) rfl ?_;exact⟨.inl ⟨by rw[HZ.out],by rw[HZ.out];rfl⟩,H2.out.2.2.trans (H3.out.2.mono H2.out.2.2.size)⟩
 subst hel;have HB3:=hid (show Below w.heap.size w w3 from H2.out.2.2.trans (H3.out.2.mono H2.out.2.2.size));have CZ:=hid (Cl.all_any w3 (.slice A a.rules.length cap) vl a.rules es (H2.out.1.keep H3.out.2) H3.out.1 (tabs_below HB.out.2 HB3.out)
  (by have h1:=(af_pairsOk fa).2.2;have h2:=af_fit fa;rw[←HP.out.1]at h1 h2;dsimp only at h1 h2;exact⟨by omega,fun r hr=>(h2 r hr).2⟩)
  (by have h1:=list_few fl;rw[←HP.out.2]at h1;dsimp only at h1;omega)
  (by have h1:=lang_args fa fl;rw[←HP.out.1,←HP.out.2]at h1;exact h1))
 obtain⟨c20,c21⟩:=HC2.out w3 H3.out.2;obtain⟨⟨fo,fe⟩,hfo⟩:∃o,o=allL a.rules es:=⟨_,rfl⟩;rw[←hfo]at CZ;have HF:=hid hfo;clear hfo;go_upto_region 8 with(go_at_call 30;refine CZ.out.mono ?_;rintro e w4 ⟨vf,cf,rfl,hst,rfl,hb4⟩;have H4:=hid (And.intro hst hb4);clear hst hb4);clear CZ c20 c21;have HB4:=hid (show Below w.heap.size w w4 from HB3.out.trans (H4.out.2.mono HB3.out.size));have hcase:(fe=0∧fo=allF a.rules es∧fo.length≤20000)∨(fe=3∧¬(fe:Int)=0):=by
  have h1:=HF.out;unfold allL at h1;split at h1
  ·rename_i hl;obtain⟨rfl,rfl⟩:=Prod.mk.inj h1;exact .inl ⟨rfl,rfl,hl⟩
  ·obtain⟨rfl,rfl⟩:=Prod.mk.inj h1;exact .inr ⟨rfl,by decide⟩
 rcases hcase with ⟨hfe,hfo,hfl⟩|⟨hfe,hne⟩
 case inr=>
  have HZ:=hid (show newD fa fl=(none,2,0,3)by unfold newD;rw[←HP.out.1,if_neg (fun h=>h rfl),←HP.out.2,if_neg (fun h=>h rfl)];dsimp only;rw[←HF.out];exact if_pos (by dsimp only;omega));have HFE:=hid hfe;clear hfe;go_wp2_with fail;refine bodyPost_ret (v:= .tuple #[.pointer none,.int .i64 2,.int .i64 0,.int .i64 fe]) (by simp[results,Tryz.results10,go_sem]) rfl ?_;exact⟨.inl ⟨by rw[HZ.out],by rw[HZ.out,HFE.out];rfl⟩,HB4.out⟩
 subst hfe;have CB:=hid (Dw.build_any w4 vf fo H4.out.1 hfl);have HFO:=hid (And.intro hfo hfl);clear hfo hfl;obtain⟨c20,c21⟩:=HC2.out w4 (H3.out.2.trans (H4.out.2.mono H3.out.2.size));go_upto_region 11 with(go_at_call 31;refine CB.out.mono ?_;rintro e w5 ⟨hbe,hb5⟩;rcases hbe with ⟨hlg,rfl⟩|⟨hlg,m,qa,g,st,rfl,hm1,hm2,hm3,hm4⟩;all_goals have HB5:=hid hb5;all_goals clear hb5)
 ·have HZ:=hid (show newD fa fl=(none,2,0,3)by unfold newD;rw[←HP.out.1,if_neg (fun h=>h rfl),←HP.out.2,if_neg (fun h=>h rfl)];dsimp only;rw[←HF.out,if_neg (fun h=>h rfl)];exact if_pos hlg);clear hlg;go_wp2_with fail;refine bodyPost_ret (v:= .tuple #[.pointer none,.int .i64 2,.int .i64 0,.int .i64 3]) (by simp[results,Tryz.results10,go_sem]) rfl ?_;exact⟨.inl ⟨by rw[HZ.out],by rw[HZ.out];rfl⟩,HB4.out.trans (HB5.out.mono HB4.out.size)⟩
 ·have hmf:m=fo:=rising_eq hm1 (by rw[HFO.out.1];exact allF_rising _ _) hm2;subst hmf;have HZ:=hid (show newD fa fl=(some ⟨m,a.pairs⟩,0,0,0)by unfold newD;rw[←HP.out.1,if_neg (fun h=>h rfl),←HP.out.2,if_neg (fun h=>h rfl)];dsimp only;rw[←HF.out,if_neg (fun h=>h rfl)];exact if_neg (by rw[show longD m=false from hlg];decide));obtain⟨q8,hq8⟩:∃q8,q8=w5.heap.size:=⟨_,rfl⟩;have HD:=hid (show DictAt (w5.alloc (.cells #[.pointer (some ⟨qa,0,none⟩),.slice B a.pairs.length cap'] 68)) w5.heap.size ⟨m,a.pairs⟩from by
   have hba:Below w5.heap.size w5 (w5.alloc (.cells #[.pointer (some ⟨qa,0,none⟩),.slice B a.pairs.length cap'] 68)):=(Below.refl _ _).alloc (Nat.le_refl _) _;have hp:=af_pairsOk fa;rw[←HP.out.1]at hp;refine⟨⟨qa,g,st,B,cap',World.alloc_heap_new w5 _,?_,hm3.keep hba,?_⟩,⟨hp.1,hp.2.1⟩,⟨hm1,HFO.out.2,fun x hx=>?_⟩⟩
   ·exact((H2.out.2.1.keep (H3.out.2.trans (H4.out.2.mono H3.out.2.size))).keep HB5.out).keep hba
   ·have:bytesD ⟨m,a.pairs⟩=m.map (Dw.tailD 0):=by
     unfold bytesD;exact List.map_congr_left fun x _=>rfl
    rw[this];exact hm4
   ·have h1:longD m=false:=hlg;unfold longD at h1;rw[List.any_eq_false]at h1;have:=h1 x hx;simpa using this)
  have HBD:=hid (show Below w.heap.size w (w5.alloc (.cells #[.pointer (some ⟨qa,0,none⟩),.slice B a.pairs.length cap'] 68))from(HB4.out.trans (HB5.out.mono HB4.out.size)).alloc (Nat.le_trans HB4.out.size HB5.out.size) _);have c25:w5.cell? ⟨q6,1,none⟩=some (.slice B a.pairs.length cap'):=(HC2.out w5 ((H3.out.2.trans (H4.out.2.mono H3.out.2.size)).trans (HB5.out.mono (Nat.le_trans H3.out.2.size H4.out.2.size)))).2;clear hlg hm1 hm2 hm3 hm4 hq8 c20 c21;go_wp2_with fail;refine bodyPost_ret (v:= .tuple #[.pointer (some ⟨w5.heap.size,0,none⟩),.int .i64 0,.int .i64 0,.int .i64 0]) (by simp[results,Tryz.results10,go_sem]) rfl ?_;exact⟨.inr ⟨_,_,HZ.out,rfl,HD.out⟩,HBD.out⟩
theorem DictAt.prs {w:World}{p:Nat}{d:Di}(h:DictAt w p d):∃q g st A cap,w.cell? ⟨p,0,none⟩=some (.pointer (some ⟨q,0,none⟩))∧w.cell? ⟨p,1,none⟩=some (.slice A d.pairs.length cap)∧Fo.Prs w (.slice A d.pairs.length cap) d.pairs∧Dw.AutoAt w q g st∧Dw.AutoOf g st (bytesD d):=by
 obtain⟨q,g,st,A,cap,h1,h2,h3,h4⟩:=h.box;refine⟨q,g,st,A,cap,by simp[World.cell?,h1],by simp[World.cell?,h1],⟨h2,by have:=h.pairs.2;omega,fun x hx=>?_⟩,h3,h4⟩;have:=pairs_range h.pairs.1 x hx;exact⟨this.1,this.2⟩
theorem is_dict (w:World)(p:Nat)(d:Di)(h:DictAt w p d)(s:ByteArray)(hs:s.size≤1000000000):
  Calls Tryz.prog 14 #[.pointer (some ⟨p,0,none⟩),.string s] w fun e w'=>e= .returned (.bool (isD d s.data.toList))∧Below w.heap.size w w':=by
 obtain⟨q,g,st,A,cap,h1,h2,h3,h4,h5⟩:=h.prs;have CH:=hid (Dw.has_auto w q g st _ h4 h5.start s hs);have e1:isD d s.data.toList=decide (s.data.toList∈bytesD d):=rfl;rw[←e1]at CH;clear h2 h3 h4 h5 h e1;go_enter Tryz.func14,Tryz.ntmps14;go_wp2_with (go_at_call 24;refine CH.out.mono ?_;rintro e w1 ⟨rfl,hb⟩;have HB:=hid hb;clear hb);go_ret;exact⟨rfl,HB.out⟩
theorem small_dict (w:World)(p:Nat)(d:Di)(h:DictAt w p d)(s:ByteArray)(hs:s.size≤1000000000):
  Calls Tryz.prog 16 #[.pointer (some ⟨p,0,none⟩),.string s] w fun e w'=>e= .returned (.string (textB (smallD d s.data.toList)))∧Below w.heap.size w w':=by
 obtain⟨q,g,st,A,cap,h1,h2,h3,-,-⟩:=h.prs;have CH:=hid (Fo.fsmall h3 (s:=s) (t:=textB (smallD d s.data.toList)) hs (textB_list _).symm);clear h1 h3 h;go_enter Tryz.func16,Tryz.ntmps16;go_wp2_with (go_at_call 36;refine CH.out.mono ?_;rintro e w1 ⟨rfl,hb⟩;have HB:=hid hb;clear hb);go_ret;exact⟨rfl,HB.out⟩
def askRow (N:Nat):Array Value:=#[.func (.func 76) #[] #[.pointer (some ⟨N,0,none⟩),.pointer (some ⟨N+1,0,none⟩)],
 .func (.func 77) #[] #[.pointer (some ⟨N+5,0,none⟩),.pointer (some ⟨N,0,none⟩),.pointer (some ⟨N+9,0,none⟩)],
 .func (.func 78) #[] #[.pointer (some ⟨N+5,0,none⟩),.pointer (some ⟨N,0,none⟩),.pointer (some ⟨N+9,0,none⟩)],
 .func (.func 79) #[] #[.pointer (some ⟨N+5,0,none⟩),.pointer (some ⟨N,0,none⟩),.pointer (some ⟨N+9,0,none⟩)]]
structure Ck (w0 w:World)(N p:Nat)(s:ByteArray)(K:Int)(S:ByteArray):Prop where
 b0:w.heap[N]?=some (.cells #[.pointer (some ⟨p,0,none⟩)] 27 (0,0))
 b1:w.heap[N+1]?=some (.cells #[.string s] 9 (0,0))
 b2:w.heap[N+2]?=some (.cells #[.func (.func 72) #[] #[.pointer (some ⟨N,0,none⟩),.pointer (some ⟨N+1,0,none⟩)]] 77 (0,0))
 a3:∃(m:Bool) (v:Int),(m=true→v=K)∧w.heap[N+3]?=some (.cells #[.int .i64 v] 3 (0,0))∧w.heap[N+4]?=some (.cells #[.bool m] 4 (0,0))
 b5:w.heap[N+5]?=some (.cells #[.func (.func 127) #[] #[.pointer (some ⟨N+4,0,none⟩),.pointer (some ⟨N+2,0,none⟩),.pointer (some ⟨N+3,0,none⟩)]] 77 (0,0))
 b6:w.heap[N+6]?=some (.cells #[.func (.func 75) #[] #[.pointer (some ⟨N,0,none⟩),.pointer (some ⟨N+1,0,none⟩)]] 129 (0,0))
 a7:∃(m:Bool) (v:ByteArray),(m=true→v=S)∧w.heap[N+7]?=some (.cells #[.string v] 9 (0,0))∧w.heap[N+8]?=some (.cells #[.bool m] 4 (0,0))
 b9:w.heap[N+9]?=some (.cells #[.func (.func 129) #[] #[.pointer (some ⟨N+8,0,none⟩),.pointer (some ⟨N+6,0,none⟩),.pointer (some ⟨N+7,0,none⟩)]] 129 (0,0))
 b10:w.heap[N+10]?=some (.cells (askRow N) 26 (0,0))
 below:Below N w0 w
theorem Ck.lt {w0 w:World}{N p:Nat}{s:ByteArray}{K:Int}{S:ByteArray}(h:Ck w0 w N p s K S):N+10<w.heap.size:=(Array.getElem?_eq_some_iff.1 h.b10).1
theorem Ck.turn {w0 w w':World}{N p:Nat}{s:ByteArray}{K:Int}{S:ByteArray}(h:Ck w0 w N p s K S){T:Nat→Prop}(ho:OnlyAt T w w')(hT:∀k,T k→k=N+3∨k=N+4∨k=N+7∨k=N+8)
  (h3:∃(m:Bool) (v:Int),(m=true→v=K)∧w'.heap[N+3]?=some (.cells #[.int .i64 v] 3 (0,0))∧w'.heap[N+4]?=some (.cells #[.bool m] 4 (0,0)))
  (h7:∃(m:Bool) (v:ByteArray),(m=true→v=S)∧w'.heap[N+7]?=some (.cells #[.string v] 9 (0,0))∧w'.heap[N+8]?=some (.cells #[.bool m] 4 (0,0))):Ck w0 w' N p s K S:=by
 have hlt:=h.lt;have key:∀k,k<w.heap.size→k≠N+3→k≠N+4→k≠N+7→k≠N+8→w'.heap[k]?=w.heap[k]?:=fun k hk e1 e2 e3 e4=>ho.block k hk fun hh=>by rcases hT k hh with e|e|e|e<;>omega
 exact⟨(key N (by omega) (by omega) (by omega) (by omega) (by omega)).trans h.b0,(key _ (by omega) (by omega) (by omega) (by omega) (by omega)).trans h.b1,(key _ (by omega) (by omega) (by omega) (by omega) (by omega)).trans h.b2,h3,
  (key _ (by omega) (by omega) (by omega) (by omega) (by omega)).trans h.b5,(key _ (by omega) (by omega) (by omega) (by omega) (by omega)).trans h.b6,h7,(key _ (by omega) (by omega) (by omega) (by omega) (by omega)).trans h.b9,(key _ (by omega) (by omega) (by omega) (by omega) (by omega)).trans h.b10,
  OnlyAt.below h.below ho (by omega) fun k hk=>by rcases hT k hk with e|e|e|e<;>omega⟩
theorem Ck.keep {w0 w w':World}{N p:Nat}{s:ByteArray}{K:Int}{S:ByteArray}(h:Ck w0 w N p s K S)(hb:Below w.heap.size w w'):Ck w0 w' N p s K S:=by
 have hlt:=h.lt;obtain⟨m,v,e1,e2,e3⟩:=h.a3;obtain⟨m',v',e1',e2',e3'⟩:=h.a7;exact h.turn (OnlyAt.of_below (T:=fun _=>False) hb) (fun _ hk=>hk.elim) ⟨m,v,e1,(hb.block _ (by omega)).trans e2,(hb.block _ (by omega)).trans e3⟩ ⟨m',v',e1',(hb.block _ (by omega)).trans e2',(hb.block _ (by omega)).trans e3'⟩
theorem box_set {w:World}{b:Nat}{u:Value}{t:TypeId}(h:w.heap[b]?=some (.cells #[u] t (0,0)))(v:Value):(w.setCell ⟨b,0,none⟩ v).heap[b]?=some (.cells #[v] t (0,0)):=by
 have:=Dw.heap_set (o:=0) h v;simpa using this
theorem box_get {w:World}{b:Nat}{u:Value}{t:TypeId}(h:w.heap[b]?=some (.cells #[u] t (0,0))):w.cell? ⟨b,0,none⟩=some u∧w.frozen? ⟨b,0,none⟩=false:=⟨by simp[World.cell?,h],by simp[World.frozen?,h]⟩
theorem Ck.made3 {w0 w:World}{N p:Nat}{s:ByteArray}{K:Int}{S:ByteArray}(h:Ck w0 w N p s K S):Ck w0 ((w.setCell ⟨N+3,0,none⟩ (.int .i64 K)).setCell ⟨N+4,0,none⟩ (.bool true)) N p s K S:=by
 obtain⟨m,v,e1,e2,e3⟩:=h.a3;obtain⟨m',v',e1',e2',e3'⟩:=h.a7;have ho:OnlyAt (fun k=>k=N+3∨k=N+4) w ((w.setCell ⟨N+3,0,none⟩ (.int .i64 K)).setCell ⟨N+4,0,none⟩ (.bool true)):=(OnlyAt.setCell _ _ _ (.inl rfl)).trans (OnlyAt.setCell _ _ _ (.inr rfl));have hlt:=h.lt;refine h.turn ho (fun k hk=>by omega) ⟨true,K,fun _=>rfl,?_,?_⟩ ⟨m',v',e1',(ho.block _ (by omega) (by omega)).trans e2',(ho.block _ (by omega) (by omega)).trans e3'⟩
 ·exact(Below.heap_setCell _ _ _ _ (by simp)).trans (box_set e2 _)
 ·exact box_set ((Below.heap_setCell _ _ _ _ (by simp)).trans e3) _
theorem Ck.made7 {w0 w:World}{N p:Nat}{s:ByteArray}{K:Int}{S:ByteArray}(h:Ck w0 w N p s K S):Ck w0 ((w.setCell ⟨N+7,0,none⟩ (.string S)).setCell ⟨N+8,0,none⟩ (.bool true)) N p s K S:=by
 obtain⟨m,v,e1,e2,e3⟩:=h.a3;obtain⟨m',v',e1',e2',e3'⟩:=h.a7;have ho:OnlyAt (fun k=>k=N+7∨k=N+8) w ((w.setCell ⟨N+7,0,none⟩ (.string S)).setCell ⟨N+8,0,none⟩ (.bool true)):=(OnlyAt.setCell _ _ _ (.inl rfl)).trans (OnlyAt.setCell _ _ _ (.inr rfl));have hlt:=h.lt;refine h.turn ho (fun k hk=>by omega) ⟨m,v,e1,(ho.block _ (by omega) (by omega)).trans e2,(ho.block _ (by omega) (by omega)).trans e3⟩ ⟨true,S,fun _=>rfl,?_,?_⟩
 ·exact(Below.heap_setCell _ _ _ _ (by simp)).trans (box_set e2' _)
 ·exact box_set ((Below.heap_setCell _ _ _ _ (by simp)).trans e3') _
structure Lang (w0:World)(N p:Nat)(s:ByteArray)(d:Di)(K:Int)(S:ByteArray):Prop where
 at_:DictAt w0 p d
 size:w0.heap.size=N
 tabs:Fo.TU w0
 word:s.size≤100000000
 shape:K=shapeT d.pairs s.data.toList
 small:S=textB (smallD d s.data.toList)
theorem Lang.dict {w0 w:World}{N p:Nat}{s:ByteArray}{d:Di}{K:Int}{S:ByteArray}(h:Lang w0 N p s d K S)(k:Ck w0 w N p s K S):DictAt w p d:=h.at_.keep (by rw[h.size];exact k.below)
theorem Lang.ssize {w0:World}{N p:Nat}{s:ByteArray}{d:Di}{K:Int}{S:ByteArray}(h:Lang w0 N p s d K S):S.size≤1000000000:=by
 rw[h.small];have h1:=small_size d.pairs s.data.toList;have h2:(textB (smallD d s.data.toList)).size=(smallD d s.data.toList).length:=by show (smallD d s.data.toList).toArray.size=_;rw[List.size_toArray]
 have h3:s.data.toList.length=s.size:=(Lib.size_eq s).symm;have:=h.word;unfold smallD at h2⊢;omega
theorem ask1 {w0 w:World}{N p:Nat}{s:ByteArray}{d:Di}{K:Int}{S:ByteArray}(h:Lang w0 N p s d K S)(k:Ck w0 w N p s K S):
  Calls Tryz.prog 72 #[.pointer (some ⟨N,0,none⟩),.pointer (some ⟨N+1,0,none⟩)] w fun e w'=>e= .returned (.int .i64 K)∧Ck w0 w' N p s K S:=by
 have hkd:=k.keep ((Below.refl w.heap.size w).drew);obtain⟨q,g,st,A,cap,h1,h2,h3,-,-⟩:=(h.dict hkd).prs;have CH:=hid (Fo.fshape h3 (s:=s) (k:=K) (by have:=h.word;omega) h.shape.symm);have z0:=(box_get hkd.b0).1;have z1:=(box_get hkd.b1).1;have HK:=hid hkd;clear h1 h3 h k hkd;go_enter Tryz.func72,Tryz.ntmps72;go_upto_region 1 with fail;go_region_with (go_at_call 73;refine CH.out.mono ?_;rintro e w1 ⟨rfl,hb⟩;have HB:=hid hb;clear hb)
 all_goals
  go_wp2_with fail;go_ret;exact⟨rfl,HK.out.keep HB.out⟩
theorem ask2 {w0 w:World}{N p:Nat}{s:ByteArray}{d:Di}{K:Int}{S:ByteArray}(h:Lang w0 N p s d K S)(k:Ck w0 w N p s K S):
  Calls Tryz.prog 75 #[.pointer (some ⟨N,0,none⟩),.pointer (some ⟨N+1,0,none⟩)] w fun e w'=>e= .returned (.string S)∧Ck w0 w' N p s K S:=by
 have C:=hid (small_dict w p d (h.dict k) s (by have:=h.word;omega));rw[←h.small]at C;have z0:=(box_get k.b0).1;have z1:=(box_get k.b1).1;have HK:=hid k;clear h k;go_enter Tryz.func75,Tryz.ntmps75;go_wp2_with (go_at_call 16;refine C.out.mono ?_;rintro e w1 ⟨rfl,hb⟩;have HB:=hid hb;clear hb);go_ret;exact⟨rfl,HK.out.keep HB.out⟩
theorem later3 {w0 w:World}{N p:Nat}{s:ByteArray}{d:Di}{K:Int}{S:ByteArray}(h:Lang w0 N p s d K S)(k:Ck w0 w N p s K S):
  Calls Tryz.prog 127 #[.pointer (some ⟨N+4,0,none⟩),.pointer (some ⟨N+2,0,none⟩),.pointer (some ⟨N+3,0,none⟩)] w fun e w'=>e= .returned (.int .i64 K)∧Ck w0 w' N p s K S:=by
 obtain⟨m,v,e1,e2,e3⟩:=k.a3;have z4:=(box_get e3).1;have z3:=(box_get e2).1;cases m with
 | true=>
   obtain rfl:=e1 rfl;have HK:=hid k;clear h k e1 e2 e3;go_enter Tryz.func127,Tryz.ntmps127;go_wp2_with fail;go_ret;exact⟨rfl,HK.out⟩
 | false=>
   have C:=hid (ask1 h k);have z2:=(box_get k.b2).1;clear h k e1 e2 e3;go_enter Tryz.func127,Tryz.ntmps127;go_wp2_with (go_at_call 72;refine C.out.mono ?_;rintro e w1 ⟨rfl,hk⟩;obtain⟨m',v',-,y2,y3⟩:=hk.a3;have x3:=box_get y2;have x4:=box_get y3;obtain⟨x3,x3f⟩:=x3;obtain⟨x4,x4f⟩:=x4;have HK:=hid hk.made3;have x5:=(box_get (Below.heap_setCell w1 ⟨N+3,0,none⟩ (.int .i64 K) (N+4) (by simp) |>.trans y3)).1;have x6:=(box_get (Below.heap_setCell w1 ⟨N+3,0,none⟩ (.int .i64 K) (N+4) (by simp) |>.trans y3)).2;clear hk y2 y3);go_ret;exact⟨rfl,HK.out⟩
theorem byC_len (c:Int):(byC c).length≤4:=by
 unfold byC;split
 ·exact enc_len c
 ·simp
theorem title_len (ps:List (Int×Int))(s:List UInt8):(titleT ps s).length≤s.length+4:=by
 unfold titleT;split
 ·simp
 ·split
  ·rename_i d _;have:=byC_len d;rw[List.length_append,List.length_drop];omega
  ·omega
theorem Lang.ssz5 {w0:World}{N p:Nat}{s:ByteArray}{d:Di}{K:Int}{S:ByteArray}(h:Lang w0 N p s d K S):S.size≤500000000:=by
 rw[h.small];have h1:=small_size d.pairs s.data.toList;have h2:(textB (smallD d s.data.toList)).size=(smallD d s.data.toList).length:=by show (smallD d s.data.toList).toArray.size=_;rw[List.size_toArray]
 have h3:s.data.toList.length=s.size:=(Lib.size_eq s).symm;have:=h.word;unfold smallD at h2⊢;omega
variable {w0 w : World} {N p : Nat} {s : ByteArray} {d : Di} {K : Int} {S : ByteArray}
theorem later7 (h:Lang w0 N p s d K S)(k:Ck w0 w N p s K S):
  Calls Tryz.prog 129 #[.pointer (some ⟨N+8,0,none⟩),.pointer (some ⟨N+6,0,none⟩),.pointer (some ⟨N+7,0,none⟩)] w fun e w'=>e= .returned (.string S)∧Ck w0 w' N p s K S:=by
 obtain⟨m,v,e1,e2,e3⟩:=k.a7;have z4:=(box_get e3).1;have z3:=(box_get e2).1;cases m with
 | true=>
   obtain rfl:=e1 rfl;have HK:=hid k;clear h k e1 e2 e3;go_enter Tryz.func129,Tryz.ntmps129;go_wp2_with fail;go_ret;exact⟨rfl,HK.out⟩
 | false=>
   have C:=hid (ask2 h k);have z2:=(box_get k.b6).1;clear h k e1 e2 e3;go_enter Tryz.func129,Tryz.ntmps129;go_wp2_with (go_at_call 75;refine C.out.mono ?_;rintro e w1 ⟨rfl,hk⟩;obtain⟨m',v',-,y2,y3⟩:=hk.a7;have x3:=box_get y2;have x4:=box_get y3;obtain⟨x3,x3f⟩:=x3;obtain⟨x4,x4f⟩:=x4;have HK:=hid hk.made7;have x5:=(box_get (Below.heap_setCell w1 ⟨N+7,0,none⟩ (.string S) (N+8) (by simp) |>.trans y3)).1;have x6:=(box_get (Below.heap_setCell w1 ⟨N+7,0,none⟩ (.string S) (N+8) (by simp) |>.trans y3)).2;clear hk y2 y3);go_ret;exact⟨rfl,HK.out⟩
theorem ask3 (h:Lang w0 N p s d K S)(k:Ck w0 w N p s K S):
  Calls Tryz.prog 76 #[.pointer (some ⟨N,0,none⟩),.pointer (some ⟨N+1,0,none⟩)] w fun e w'=>e= .returned (.bool (isD d s.data.toList))∧Ck w0 w' N p s K S:=by
 have C:=hid (is_dict w p d (h.dict k) s (by have:=h.word;omega));have z0:=(box_get k.b0).1;have z1:=(box_get k.b1).1;have HK:=hid k;clear h k;go_enter Tryz.func76,Tryz.ntmps76;go_wp2_with (go_at_call 14;refine C.out.mono ?_;rintro e w1 ⟨rfl,hb⟩;have HB:=hid hb;clear hb);go_ret;exact⟨rfl,HK.out.keep HB.out⟩
theorem ask4 (h:Lang w0 N p s d K S)(k:Ck w0 w N p s K S):
  Calls Tryz.prog 77 #[.pointer (some ⟨N+5,0,none⟩),.pointer (some ⟨N,0,none⟩),.pointer (some ⟨N+9,0,none⟩)] w fun e w'=>e= .returned (.bool (decide (K=1)&&isD d S.data.toList))∧Ck w0 w' N p s K S:=by
 have hkd:=k.keep ((Below.refl w.heap.size w).drew);have C3:=hid (later3 h hkd);have z5:=(box_get hkd.b5).1;have HH:=hid h;have HCK:=hid (show∀wx,Ck w0 wx N p s K S→(wx.cell? ⟨N,0,none⟩=some (.pointer (some ⟨p,0,none⟩))∧wx.cell? ⟨N+9,0,none⟩=some (.func (.func 129) #[] #[.pointer (some ⟨N+8,0,none⟩),.pointer (some ⟨N+6,0,none⟩),.pointer (some ⟨N+7,0,none⟩)]))from fun wx hx=>⟨(box_get hx.b0).1,(box_get hx.b9).1⟩);have HKD:=hid hkd;clear h k hkd;by_cases hK:K=1
 ·subst hK;go_enter Tryz.func77,Tryz.ntmps77;go_upto_region 1 with fail;go_region_with (first
   | (go_at_call 127;refine C3.out.mono ?_;rintro e w1 ⟨rfl,hk1⟩;obtain⟨a0,a9⟩:=HCK.out _ hk1;have HK1:=hid hk1;clear hk1)
   | (go_at_call 129;refine(later7 HH.out HK1.out).mono ?_;rintro e w2 ⟨rfl,hk2⟩;obtain⟨a0',a9'⟩:=HCK.out _ hk2;have HK2:=hid hk2;clear hk2)
   | (go_at_call 14;refine(is_dict _ p d (HH.out.dict HK2.out) S HH.out.ssize).mono ?_;rintro e w3 ⟨rfl,hb⟩;have HK3:=hid (HK2.out.keep hb);clear hb))
  all_goals
   go_wp2_with fail;go_ret;exact⟨rfl,HK3.out⟩
 ·have d1:(K==1)=false:=by simpa using hK
  have d2:decide (K=1)=false:=decide_eq_false hK;rw[d2];clear d2;go_enter Tryz.func77,Tryz.ntmps77;go_upto_region 1 with fail;have HSD:=hid (show w.drew.cell? ⟨N+5,0,none⟩=some (.func (.func 127) #[] #[.pointer (some ⟨N+4,0,none⟩),.pointer (some ⟨N+2,0,none⟩),.pointer (some ⟨N+3,0,none⟩)])∧Hid (Ck w0 w.drew N p s K S)from ⟨z5,hid HKD.out⟩);have CH1:=hid (show∀wx,(wx.cell? ⟨N+5,0,none⟩=some (.func (.func 127) #[] #[.pointer (some ⟨N+4,0,none⟩),.pointer (some ⟨N+2,0,none⟩),.pointer (some ⟨N+3,0,none⟩)])∧Hid (Ck w0 wx N p s K S))→Calls Tryz.prog 127 #[.pointer (some ⟨N+4,0,none⟩),.pointer (some ⟨N+2,0,none⟩),.pointer (some ⟨N+3,0,none⟩)] wx fun e w'=>e= .returned (.int .i64 K)∧(w'.cell? ⟨N+5,0,none⟩=some (.func (.func 127) #[] #[.pointer (some ⟨N+4,0,none⟩),.pointer (some ⟨N+2,0,none⟩),.pointer (some ⟨N+3,0,none⟩)])∧Hid (Ck w0 w' N p s K S))from fun wx hx=>
   (later3 HH.out hx.2.out).mono fun e w' h9=>⟨h9.1,(box_get h9.2.b5).1,hid h9.2⟩)
  refine wp_region_held_drew (S:=fun wx=>wx.cell? ⟨N+5,0,none⟩=some (.func (.func 127) #[] #[.pointer (some ⟨N+4,0,none⟩),.pointer (some ⟨N+2,0,none⟩),.pointer (some ⟨N+3,0,none⟩)])∧Hid (Ck w0 wx N p s K S)) (by kernel_rfl) HSD.out (fun hHeld=>?_);refine wpAnyH_take (i:=0) (oi:={ dst:=some 4,op:=_,type:=_,pos:=_,after:=_,guard:=_ }) (v:=?_) rfl (by kernel_rfl) (by kernel_rfl) (by kernel_rfl) (fun _ _ _ h=>h) (Or.inl ⟨by rfl,?_⟩) (by assumption) ?_;rotate_left
  ·(intro w hSw;(try dsimp only at hSw);go_simp;first|done|with_reducible rfl)
  try simp only[Act.put,List.setIfInBounds_toArray,List.set_cons_zero,List.set_cons_succ]
  refine wpAnyH_ready (rs:=[1]) (by kernel_rfl) (by simp) ?_;refine AllReadyH.cons (o:={ dst:=some 5,op:=_,type:=_,pos:=_,after:=_,guard:=_ }) rfl (fun K hK=>?_) AllReadyH.nil;go_simp;refine(CH1.out _ (by assumption)).mono ?_;rintro e w5 ⟨rfl,hs5⟩;go_wp2_with fail;refine hK.out _ _ hs5 (fun hHeld5=>?_);clear hK K;try simp only[Act.put,List.setIfInBounds_toArray,List.set_cons_zero,List.set_cons_succ]
  refine wpAnyH_take (i:=2) (oi:={ dst:=some 6,op:=_,type:=_,pos:=_,after:=_,guard:=_ }) (v:=?_) rfl (by kernel_rfl) (by kernel_rfl) (by kernel_rfl) (fun _ _ _ h=>h) (Or.inl ⟨by rfl,?_⟩) (by assumption) ?_;rotate_left
  ·(intro w hSw;(try dsimp only at hSw);go_simp;first|done|with_reducible rfl)
  try simp only[Act.put,List.setIfInBounds_toArray,List.set_cons_zero,List.set_cons_succ]
  refine wpAnyH_take (i:=3) (oi:={ dst:=some 7,op:=_,type:=_,pos:=_,after:=_,guard:=_ }) (v:=?_) rfl (by kernel_rfl) (by kernel_rfl) (by kernel_rfl) (fun _ _ _ h=>h) (Or.inl ⟨by rfl,?_⟩) (by assumption) ?_;rotate_left
  ·(intro w hSw;(try dsimp only at hSw);go_simp;first|done|with_reducible rfl)
  try simp only[Act.put,List.setIfInBounds_toArray,List.set_cons_zero,List.set_cons_succ]
  refine wpAnyH_take (i:=4) (oi:={ dst:=some 8,op:=_,type:=_,pos:=_,after:=_,guard:=_ }) (v:=undef) rfl (by kernel_rfl) (by kernel_rfl) (by kernel_rfl) (fun _ _ _ h=>h) (Or.inr ⟨by rfl,rfl⟩) (by assumption) ?_;try simp only[Act.put,List.setIfInBounds_toArray,List.set_cons_zero,List.set_cons_succ]
  refine wpAnyH_take (i:=5) (oi:={ dst:=some 9,op:=_,type:=_,pos:=_,after:=_,guard:=_ }) (v:=undef) rfl (by kernel_rfl) (by kernel_rfl) (by kernel_rfl) (fun _ _ _ h=>h) (Or.inr ⟨by rfl,rfl⟩) (by assumption) ?_;try simp only[Act.put,List.setIfInBounds_toArray,List.set_cons_zero,List.set_cons_succ]
  refine wpAnyH_take (i:=6) (oi:={ dst:=some 10,op:=_,type:=_,pos:=_,after:=_,guard:=_ }) (v:=undef) rfl (by kernel_rfl) (by kernel_rfl) (by kernel_rfl) (fun _ _ _ h=>h) (Or.inr ⟨by rfl,rfl⟩) (by assumption) ?_;try simp only[Act.put,List.setIfInBounds_toArray,List.set_cons_zero,List.set_cons_succ]
  refine wpAnyH_take (i:=7) (oi:={ dst:=some 11,op:=_,type:=_,pos:=_,after:=_,guard:=_ }) (v:=undef) rfl (by kernel_rfl) (by kernel_rfl) (by kernel_rfl) (fun _ _ _ h=>h) (Or.inr ⟨by rfl,rfl⟩) (by assumption) ?_;try simp only[Act.put,List.setIfInBounds_toArray,List.set_cons_zero,List.set_cons_succ]
  refine wpAnyH_take (i:=8) (oi:={ dst:=some 12,op:=_,type:=_,pos:=_,after:=_,guard:=_ }) (v:=?_) rfl (by kernel_rfl) (by kernel_rfl) (by kernel_rfl) (fun _ _ _ h=>h) (Or.inl ⟨by rfl,?_⟩) (by assumption) ?_;rotate_left
  ·(intro w hSw;(try dsimp only at hSw);go_simp;first|done|with_reducible rfl)
  try simp only[Act.put,List.setIfInBounds_toArray,List.set_cons_zero,List.set_cons_succ]
  refine wpAnyH_take (i:=9) (oi:={ dst:=some 3,op:=_,type:=_,pos:=_,after:=_,guard:=_ }) (v:=?_) rfl (by kernel_rfl) (by kernel_rfl) (by kernel_rfl) (fun _ _ _ h=>h) (Or.inl ⟨by rfl,?_⟩) (by assumption) ?_;rotate_left
  ·(intro w hSw;(try dsimp only at hSw);go_simp;first|done|with_reducible rfl)
  try simp only[Act.put,List.setIfInBounds_toArray,List.set_cons_zero,List.set_cons_succ]
  refine wpAnyH_done (by kernel_rfl) ?_ _;go_wp2_with fail;go_ret;exact⟨rfl,hs5.2.out⟩
theorem ask5 (h:Lang w0 N p s d K S)(k:Ck w0 w N p s K S):
  Calls Tryz.prog 78 #[.pointer (some ⟨N+5,0,none⟩),.pointer (some ⟨N,0,none⟩),.pointer (some ⟨N+9,0,none⟩)] w fun e w'=>e= .returned (.bool (decide (K=2)&&isD d S.data.toList))∧Ck w0 w' N p s K S:=by
 have hkd:=k.keep ((Below.refl w.heap.size w).drew);have C3:=hid (later3 h hkd);have z5:=(box_get hkd.b5).1;have HH:=hid h;have HCK:=hid (show∀wx,Ck w0 wx N p s K S→(wx.cell? ⟨N,0,none⟩=some (.pointer (some ⟨p,0,none⟩))∧wx.cell? ⟨N+9,0,none⟩=some (.func (.func 129) #[] #[.pointer (some ⟨N+8,0,none⟩),.pointer (some ⟨N+6,0,none⟩),.pointer (some ⟨N+7,0,none⟩)]))from fun wx hx=>⟨(box_get hx.b0).1,(box_get hx.b9).1⟩);have HKD:=hid hkd;clear h k hkd;by_cases hK:K=2
 ·subst hK;go_enter Tryz.func78,Tryz.ntmps78;go_upto_region 1 with fail;go_region_with (first
   | (go_at_call 127;refine C3.out.mono ?_;rintro e w1 ⟨rfl,hk1⟩;obtain⟨a0,a9⟩:=HCK.out _ hk1;have HK1:=hid hk1;clear hk1)
   | (go_at_call 129;refine(later7 HH.out HK1.out).mono ?_;rintro e w2 ⟨rfl,hk2⟩;obtain⟨a0',a9'⟩:=HCK.out _ hk2;have HK2:=hid hk2;clear hk2)
   | (go_at_call 14;refine(is_dict _ p d (HH.out.dict HK2.out) S HH.out.ssize).mono ?_;rintro e w3 ⟨rfl,hb⟩;have HK3:=hid (HK2.out.keep hb);clear hb))
  all_goals
   go_wp2_with fail;go_ret;exact⟨rfl,HK3.out⟩
 ·have d1:(K==2)=false:=by simpa using hK
  have d2:decide (K=2)=false:=decide_eq_false hK;rw[d2];clear d2;go_enter Tryz.func78,Tryz.ntmps78;go_upto_region 1 with fail;have HSD:=hid (show w.drew.cell? ⟨N+5,0,none⟩=some (.func (.func 127) #[] #[.pointer (some ⟨N+4,0,none⟩),.pointer (some ⟨N+2,0,none⟩),.pointer (some ⟨N+3,0,none⟩)])∧Hid (Ck w0 w.drew N p s K S)from ⟨z5,hid HKD.out⟩);have CH1:=hid (show∀wx,(wx.cell? ⟨N+5,0,none⟩=some (.func (.func 127) #[] #[.pointer (some ⟨N+4,0,none⟩),.pointer (some ⟨N+2,0,none⟩),.pointer (some ⟨N+3,0,none⟩)])∧Hid (Ck w0 wx N p s K S))→Calls Tryz.prog 127 #[.pointer (some ⟨N+4,0,none⟩),.pointer (some ⟨N+2,0,none⟩),.pointer (some ⟨N+3,0,none⟩)] wx fun e w'=>e= .returned (.int .i64 K)∧(w'.cell? ⟨N+5,0,none⟩=some (.func (.func 127) #[] #[.pointer (some ⟨N+4,0,none⟩),.pointer (some ⟨N+2,0,none⟩),.pointer (some ⟨N+3,0,none⟩)])∧Hid (Ck w0 w' N p s K S))from fun wx hx=>
   (later3 HH.out hx.2.out).mono fun e w' h9=>⟨h9.1,(box_get h9.2.b5).1,hid h9.2⟩)
  refine wp_region_held_drew (S:=fun wx=>wx.cell? ⟨N+5,0,none⟩=some (.func (.func 127) #[] #[.pointer (some ⟨N+4,0,none⟩),.pointer (some ⟨N+2,0,none⟩),.pointer (some ⟨N+3,0,none⟩)])∧Hid (Ck w0 wx N p s K S)) (by kernel_rfl) HSD.out (fun hHeld=>?_);refine wpAnyH_take (i:=0) (oi:={ dst:=some 4,op:=_,type:=_,pos:=_,after:=_,guard:=_ }) (v:=?_) rfl (by kernel_rfl) (by kernel_rfl) (by kernel_rfl) (fun _ _ _ h=>h) (Or.inl ⟨by rfl,?_⟩) (by assumption) ?_;rotate_left
  ·(intro w hSw;(try dsimp only at hSw);go_simp;first|done|with_reducible rfl)
  try simp only[Act.put,List.setIfInBounds_toArray,List.set_cons_zero,List.set_cons_succ]
  refine wpAnyH_ready (rs:=[1]) (by kernel_rfl) (by simp) ?_;refine AllReadyH.cons (o:={ dst:=some 5,op:=_,type:=_,pos:=_,after:=_,guard:=_ }) rfl (fun K hK=>?_) AllReadyH.nil;go_simp;refine(CH1.out _ (by assumption)).mono ?_;rintro e w5 ⟨rfl,hs5⟩;go_wp2_with fail;refine hK.out _ _ hs5 (fun hHeld5=>?_);clear hK K;try simp only[Act.put,List.setIfInBounds_toArray,List.set_cons_zero,List.set_cons_succ]
  refine wpAnyH_take (i:=2) (oi:={ dst:=some 6,op:=_,type:=_,pos:=_,after:=_,guard:=_ }) (v:=?_) rfl (by kernel_rfl) (by kernel_rfl) (by kernel_rfl) (fun _ _ _ h=>h) (Or.inl ⟨by rfl,?_⟩) (by assumption) ?_;rotate_left
  ·(intro w hSw;(try dsimp only at hSw);go_simp;first|done|with_reducible rfl)
  try simp only[Act.put,List.setIfInBounds_toArray,List.set_cons_zero,List.set_cons_succ]
  refine wpAnyH_take (i:=3) (oi:={ dst:=some 7,op:=_,type:=_,pos:=_,after:=_,guard:=_ }) (v:=?_) rfl (by kernel_rfl) (by kernel_rfl) (by kernel_rfl) (fun _ _ _ h=>h) (Or.inl ⟨by rfl,?_⟩) (by assumption) ?_;rotate_left
  ·(intro w hSw;(try dsimp only at hSw);go_simp;first|done|with_reducible rfl)
  try simp only[Act.put,List.setIfInBounds_toArray,List.set_cons_zero,List.set_cons_succ]
  refine wpAnyH_take (i:=4) (oi:={ dst:=some 8,op:=_,type:=_,pos:=_,after:=_,guard:=_ }) (v:=undef) rfl (by kernel_rfl) (by kernel_rfl) (by kernel_rfl) (fun _ _ _ h=>h) (Or.inr ⟨by rfl,rfl⟩) (by assumption) ?_;try simp only[Act.put,List.setIfInBounds_toArray,List.set_cons_zero,List.set_cons_succ]
  refine wpAnyH_take (i:=5) (oi:={ dst:=some 9,op:=_,type:=_,pos:=_,after:=_,guard:=_ }) (v:=undef) rfl (by kernel_rfl) (by kernel_rfl) (by kernel_rfl) (fun _ _ _ h=>h) (Or.inr ⟨by rfl,rfl⟩) (by assumption) ?_;try simp only[Act.put,List.setIfInBounds_toArray,List.set_cons_zero,List.set_cons_succ]
  refine wpAnyH_take (i:=6) (oi:={ dst:=some 10,op:=_,type:=_,pos:=_,after:=_,guard:=_ }) (v:=undef) rfl (by kernel_rfl) (by kernel_rfl) (by kernel_rfl) (fun _ _ _ h=>h) (Or.inr ⟨by rfl,rfl⟩) (by assumption) ?_;try simp only[Act.put,List.setIfInBounds_toArray,List.set_cons_zero,List.set_cons_succ]
  refine wpAnyH_take (i:=7) (oi:={ dst:=some 11,op:=_,type:=_,pos:=_,after:=_,guard:=_ }) (v:=undef) rfl (by kernel_rfl) (by kernel_rfl) (by kernel_rfl) (fun _ _ _ h=>h) (Or.inr ⟨by rfl,rfl⟩) (by assumption) ?_;try simp only[Act.put,List.setIfInBounds_toArray,List.set_cons_zero,List.set_cons_succ]
  refine wpAnyH_take (i:=8) (oi:={ dst:=some 12,op:=_,type:=_,pos:=_,after:=_,guard:=_ }) (v:=?_) rfl (by kernel_rfl) (by kernel_rfl) (by kernel_rfl) (fun _ _ _ h=>h) (Or.inl ⟨by rfl,?_⟩) (by assumption) ?_;rotate_left
  ·(intro w hSw;(try dsimp only at hSw);go_simp;first|done|with_reducible rfl)
  try simp only[Act.put,List.setIfInBounds_toArray,List.set_cons_zero,List.set_cons_succ]
  refine wpAnyH_take (i:=9) (oi:={ dst:=some 3,op:=_,type:=_,pos:=_,after:=_,guard:=_ }) (v:=?_) rfl (by kernel_rfl) (by kernel_rfl) (by kernel_rfl) (fun _ _ _ h=>h) (Or.inl ⟨by rfl,?_⟩) (by assumption) ?_;rotate_left
  ·(intro w hSw;(try dsimp only at hSw);go_simp;first|done|with_reducible rfl)
  try simp only[Act.put,List.setIfInBounds_toArray,List.set_cons_zero,List.set_cons_succ]
  refine wpAnyH_done (by kernel_rfl) ?_ _;go_wp2_with fail;go_ret;exact⟨rfl,hs5.2.out⟩
theorem ask6 (h:Lang w0 N p s d K S)(k:Ck w0 w N p s K S):
  Calls Tryz.prog 79 #[.pointer (some ⟨N+5,0,none⟩),.pointer (some ⟨N,0,none⟩),.pointer (some ⟨N+9,0,none⟩)] w fun e w'=>e= .returned (.bool (decide (K=2)&&isD d (titleT d.pairs S.data.toList)))∧Ck w0 w' N p s K S:=by
 have hkd:=k.keep ((Below.refl w.heap.size w).drew);have C3:=hid (later3 h hkd);have z5:=(box_get hkd.b5).1;obtain⟨q,g,st,A,cap,-,-,-,-,-⟩:=(h.dict hkd).prs;have HH:=hid h;clear q g st A cap;obtain⟨q,g,st,A,cap,r1,r2,r3,-,-⟩:=h.at_.prs;have HPR:=hid r3;have HCK:=hid (show∀wx,Ck w0 wx N p s K S→(wx.cell? ⟨N,0,none⟩=some (.pointer (some ⟨p,0,none⟩))∧wx.cell? ⟨N+9,0,none⟩=some (.func (.func 129) #[] #[.pointer (some ⟨N+8,0,none⟩),.pointer (some ⟨N+6,0,none⟩),.pointer (some ⟨N+7,0,none⟩)])∧wx.cell? ⟨p,1,none⟩=some (.slice A d.pairs.length cap))from fun wx hx=>⟨(box_get hx.b0).1,(box_get hx.b9).1,by
  have hb:=hx.below;rw[←HH.out.size]at hb;exact(hb.cell (p:=⟨p,1,none⟩) (World.block_lt_of_cell? _ _ r2)).trans r2⟩)
 have HKD:=hid hkd;have SC:=hid (show∀wx,Ck w0 wx N p s K S→wx.cell? ⟨N+5,0,none⟩=some (.func (.func 127) #[] #[.pointer (some ⟨N+4,0,none⟩),.pointer (some ⟨N+2,0,none⟩),.pointer (some ⟨N+3,0,none⟩)])∧wx.cell? ⟨N,0,none⟩=some (.pointer (some ⟨p,0,none⟩))∧wx.cell? ⟨N+9,0,none⟩=some (.func (.func 129) #[] #[.pointer (some ⟨N+8,0,none⟩),.pointer (some ⟨N+6,0,none⟩),.pointer (some ⟨N+7,0,none⟩)])∧wx.cell? ⟨p,1,none⟩=some (.slice A d.pairs.length cap)from fun wx hx=>⟨(box_get hx.b5).1,HCK.out wx hx⟩);have HTI:=hid (show∀wx,Ck w0 wx N p s K S→Calls Tryz.prog 80 #[.slice A d.pairs.length cap,.string S] wx fun e w'=>e= .returned (.string (textB (titleT d.pairs S.data.toList)))∧Below wx.heap.size wx w' from fun wx hx=>by
  have hb:=hx.below;rw[←HH.out.size]at hb;exact Fo.ftitle (HPR.out.keep hb) (tabs_below HH.out.tabs hb) HH.out.ssize (textB_list _).symm)
 have HSZ:=hid (show (textB (titleT d.pairs S.data.toList)).size≤1000000000 from by
  have h1:=title_len d.pairs S.data.toList;have h2:(textB (titleT d.pairs S.data.toList)).size=(titleT d.pairs S.data.toList).length:=by show (titleT d.pairs S.data.toList).toArray.size=_;rw[List.size_toArray]
  have h3:S.data.toList.length=S.size:=(Lib.size_eq S).symm;have:=HH.out.ssz5;omega)
 clear h k hkd r1 r2 r3;by_cases hK:K=2
 ·subst hK;go_enter Tryz.func79,Tryz.ntmps79;go_upto_region 1 with fail;have HS0:=hid (SC.out _ HKD.out);go_region_held3 (fun wx=>wx.cell? ⟨N+5,0,none⟩=some (.func (.func 127) #[] #[.pointer (some ⟨N+4,0,none⟩),.pointer (some ⟨N+2,0,none⟩),.pointer (some ⟨N+3,0,none⟩)])∧wx.cell? ⟨N,0,none⟩=some (.pointer (some ⟨p,0,none⟩))∧wx.cell? ⟨N+9,0,none⟩=some (.func (.func 129) #[] #[.pointer (some ⟨N+8,0,none⟩),.pointer (some ⟨N+6,0,none⟩),.pointer (some ⟨N+7,0,none⟩)])∧wx.cell? ⟨p,1,none⟩=some (.slice A d.pairs.length cap))
   (first|exact HS4.out|exact HS3.out|exact HS2.out|exact HS1.out|exact HS0.out)
   (first
   | (go_at_call 127;refine C3.out.mono ?_;rintro e w1 ⟨rfl,hk1⟩;have HS1:=hid (SC.out _ hk1);have HK1:=hid hk1;clear hk1)
   | (go_at_call 129;refine(later7 HH.out HK1.out).mono ?_;rintro e w2 ⟨rfl,hk2⟩;have HS2:=hid (SC.out _ hk2);have HK2:=hid hk2;clear hk2)
   | (go_at_call 80;refine(HTI.out _ HK2.out).mono ?_;rintro e w3 ⟨rfl,hb⟩;have hk3:=HK2.out.keep hb;have HS3:=hid (SC.out _ hk3);have HK3:=hid hk3;clear hb hk3)
   | (go_at_call 14;refine(is_dict _ p d (HH.out.dict HK3.out) (textB (titleT d.pairs S.data.toList)) HSZ.out).mono ?_;rintro e w4 ⟨rfl,hb⟩;have HS4:=hid (SC.out _ (HK3.out.keep hb));have HK4:=hid (HK3.out.keep hb);clear hb))
  go_wp2_with fail;go_ret;refine⟨?_,HK4.out⟩;rw[←textB_list (titleT d.pairs S.data.toList)];rfl
 ·have d1:(K==2)=false:=by simpa using hK
  have d2:decide (K=2)=false:=decide_eq_false hK;rw[d2];clear d2;go_enter Tryz.func79,Tryz.ntmps79;go_upto_region 1 with fail;have HSD:=hid (show w.drew.cell? ⟨N+5,0,none⟩=some (.func (.func 127) #[] #[.pointer (some ⟨N+4,0,none⟩),.pointer (some ⟨N+2,0,none⟩),.pointer (some ⟨N+3,0,none⟩)])∧Hid (Ck w0 w.drew N p s K S)from ⟨z5,hid HKD.out⟩);have CH1:=hid (show∀wx,(wx.cell? ⟨N+5,0,none⟩=some (.func (.func 127) #[] #[.pointer (some ⟨N+4,0,none⟩),.pointer (some ⟨N+2,0,none⟩),.pointer (some ⟨N+3,0,none⟩)])∧Hid (Ck w0 wx N p s K S))→Calls Tryz.prog 127 #[.pointer (some ⟨N+4,0,none⟩),.pointer (some ⟨N+2,0,none⟩),.pointer (some ⟨N+3,0,none⟩)] wx fun e w'=>e= .returned (.int .i64 K)∧(w'.cell? ⟨N+5,0,none⟩=some (.func (.func 127) #[] #[.pointer (some ⟨N+4,0,none⟩),.pointer (some ⟨N+2,0,none⟩),.pointer (some ⟨N+3,0,none⟩)])∧Hid (Ck w0 w' N p s K S))from fun wx hx=>
   (later3 HH.out hx.2.out).mono fun e w' h9=>⟨h9.1,(box_get h9.2.b5).1,hid h9.2⟩)
  refine wp_region_held_drew (S:=fun wx=>wx.cell? ⟨N+5,0,none⟩=some (.func (.func 127) #[] #[.pointer (some ⟨N+4,0,none⟩),.pointer (some ⟨N+2,0,none⟩),.pointer (some ⟨N+3,0,none⟩)])∧Hid (Ck w0 wx N p s K S)) (by kernel_rfl) HSD.out (fun hHeld=>?_);refine wpAnyH_take (i:=0) (oi:={ dst:=some 4,op:=_,type:=_,pos:=_,after:=_,guard:=_ }) (v:=?_) rfl (by kernel_rfl) (by kernel_rfl) (by kernel_rfl) (fun _ _ _ h=>h) (Or.inl ⟨by rfl,?_⟩) (by assumption) ?_;rotate_left
  ·(intro w hSw;(try dsimp only at hSw);go_simp;first|done|with_reducible rfl)
  try simp only[Act.put,List.setIfInBounds_toArray,List.set_cons_zero,List.set_cons_succ]
  refine wpAnyH_ready (rs:=[1]) (by kernel_rfl) (by simp) ?_;refine AllReadyH.cons (o:={ dst:=some 5,op:=_,type:=_,pos:=_,after:=_,guard:=_ }) rfl (fun K hK=>?_) AllReadyH.nil;go_simp;refine(CH1.out _ (by assumption)).mono ?_;rintro e w5 ⟨rfl,hs5⟩;go_wp2_with fail;refine hK.out _ _ hs5 (fun hHeld5=>?_);clear hK K;try simp only[Act.put,List.setIfInBounds_toArray,List.set_cons_zero,List.set_cons_succ]
  refine wpAnyH_take (i:=2) (oi:={ dst:=some 6,op:=_,type:=_,pos:=_,after:=_,guard:=_ }) (v:=?_) rfl (by kernel_rfl) (by kernel_rfl) (by kernel_rfl) (fun _ _ _ h=>h) (Or.inl ⟨by rfl,?_⟩) (by assumption) ?_;rotate_left
  ·(intro w hSw;(try dsimp only at hSw);go_simp;first|done|with_reducible rfl)
  try simp only[Act.put,List.setIfInBounds_toArray,List.set_cons_zero,List.set_cons_succ]
  refine wpAnyH_take (i:=3) (oi:={ dst:=some 7,op:=_,type:=_,pos:=_,after:=_,guard:=_ }) (v:=?_) rfl (by kernel_rfl) (by kernel_rfl) (by kernel_rfl) (fun _ _ _ h=>h) (Or.inl ⟨by rfl,?_⟩) (by assumption) ?_;rotate_left
  ·(intro w hSw;(try dsimp only at hSw);go_simp;first|done|with_reducible rfl)
  try simp only[Act.put,List.setIfInBounds_toArray,List.set_cons_zero,List.set_cons_succ]
  refine wpAnyH_take (i:=4) (oi:={ dst:=some 8,op:=_,type:=_,pos:=_,after:=_,guard:=_ }) (v:=undef) rfl (by kernel_rfl) (by kernel_rfl) (by kernel_rfl) (fun _ _ _ h=>h) (Or.inr ⟨by rfl,rfl⟩) (by assumption) ?_;try simp only[Act.put,List.setIfInBounds_toArray,List.set_cons_zero,List.set_cons_succ]
  refine wpAnyH_take (i:=5) (oi:={ dst:=some 9,op:=_,type:=_,pos:=_,after:=_,guard:=_ }) (v:=undef) rfl (by kernel_rfl) (by kernel_rfl) (by kernel_rfl) (fun _ _ _ h=>h) (Or.inr ⟨by rfl,rfl⟩) (by assumption) ?_;try simp only[Act.put,List.setIfInBounds_toArray,List.set_cons_zero,List.set_cons_succ]
  refine wpAnyH_take (i:=6) (oi:={ dst:=some 10,op:=_,type:=_,pos:=_,after:=_,guard:=_ }) (v:=undef) rfl (by kernel_rfl) (by kernel_rfl) (by kernel_rfl) (fun _ _ _ h=>h) (Or.inr ⟨by rfl,rfl⟩) (by assumption) ?_;try simp only[Act.put,List.setIfInBounds_toArray,List.set_cons_zero,List.set_cons_succ]
  refine wpAnyH_take (i:=7) (oi:={ dst:=some 11,op:=_,type:=_,pos:=_,after:=_,guard:=_ }) (v:=undef) rfl (by kernel_rfl) (by kernel_rfl) (by kernel_rfl) (fun _ _ _ h=>h) (Or.inr ⟨by rfl,rfl⟩) (by assumption) ?_;try simp only[Act.put,List.setIfInBounds_toArray,List.set_cons_zero,List.set_cons_succ]
  refine wpAnyH_take (i:=8) (oi:={ dst:=some 12,op:=_,type:=_,pos:=_,after:=_,guard:=_ }) (v:=undef) rfl (by kernel_rfl) (by kernel_rfl) (by kernel_rfl) (fun _ _ _ h=>h) (Or.inr ⟨by rfl,rfl⟩) (by assumption) ?_;try simp only[Act.put,List.setIfInBounds_toArray,List.set_cons_zero,List.set_cons_succ]
  refine wpAnyH_take (i:=9) (oi:={ dst:=some 13,op:=_,type:=_,pos:=_,after:=_,guard:=_ }) (v:=undef) rfl (by kernel_rfl) (by kernel_rfl) (by kernel_rfl) (fun _ _ _ h=>h) (Or.inr ⟨by rfl,rfl⟩) (by assumption) ?_;try simp only[Act.put,List.setIfInBounds_toArray,List.set_cons_zero,List.set_cons_succ]
  refine wpAnyH_take (i:=10) (oi:={ dst:=some 14,op:=_,type:=_,pos:=_,after:=_,guard:=_ }) (v:=undef) rfl (by kernel_rfl) (by kernel_rfl) (by kernel_rfl) (fun _ _ _ h=>h) (Or.inr ⟨by rfl,rfl⟩) (by assumption) ?_;try simp only[Act.put,List.setIfInBounds_toArray,List.set_cons_zero,List.set_cons_succ]
  refine wpAnyH_take (i:=11) (oi:={ dst:=some 15,op:=_,type:=_,pos:=_,after:=_,guard:=_ }) (v:=undef) rfl (by kernel_rfl) (by kernel_rfl) (by kernel_rfl) (fun _ _ _ h=>h) (Or.inr ⟨by rfl,rfl⟩) (by assumption) ?_;try simp only[Act.put,List.setIfInBounds_toArray,List.set_cons_zero,List.set_cons_succ]
  refine wpAnyH_take (i:=12) (oi:={ dst:=some 16,op:=_,type:=_,pos:=_,after:=_,guard:=_ }) (v:=undef) rfl (by kernel_rfl) (by kernel_rfl) (by kernel_rfl) (fun _ _ _ h=>h) (Or.inr ⟨by rfl,rfl⟩) (by assumption) ?_;try simp only[Act.put,List.setIfInBounds_toArray,List.set_cons_zero,List.set_cons_succ]
  refine wpAnyH_take (i:=13) (oi:={ dst:=some 17,op:=_,type:=_,pos:=_,after:=_,guard:=_ }) (v:=?_) rfl (by kernel_rfl) (by kernel_rfl) (by kernel_rfl) (fun _ _ _ h=>h) (Or.inl ⟨by rfl,?_⟩) (by assumption) ?_;rotate_left
  ·(intro w hSw;(try dsimp only at hSw);go_simp;first|done|with_reducible rfl)
  try simp only[Act.put,List.setIfInBounds_toArray,List.set_cons_zero,List.set_cons_succ]
  refine wpAnyH_take (i:=14) (oi:={ dst:=some 3,op:=_,type:=_,pos:=_,after:=_,guard:=_ }) (v:=?_) rfl (by kernel_rfl) (by kernel_rfl) (by kernel_rfl) (fun _ _ _ h=>h) (Or.inl ⟨by rfl,?_⟩) (by assumption) ?_;rotate_left
  ·(intro w hSw;(try dsimp only at hSw);go_simp;first|done|with_reducible rfl)
  try simp only[Act.put,List.setIfInBounds_toArray,List.set_cons_zero,List.set_cons_succ]
  refine wpAnyH_done (by kernel_rfl) ?_ _;go_wp2_with fail;go_ret;exact⟨rfl,hs5.2.out⟩
end Go.Proofs.YtfehpcbmdancoaaGreatDoor
