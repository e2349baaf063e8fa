/- Stage 16's law DictNumbers, plain: a form of small letters, titled, becomes itself again. No program. -/
import Derived.Test.YtfehpcbmdancoaaGreatDoorPdPbNPlain
namespace Go.Proofs.YtfehpcbmdancoaaGreatDoor
open Go Go.Lib
theorem PairsOk.one {ps:List (Int×Int)}(h:PairsOk ps){p q:Int×Int}(hp:p∈ps)(hq:q∈ps)(e:p.1=q.1):p=q:=by
 have two:∀(a:List (Int×Int)) p b,ps=a++p::b→∀q∈a,q.1≠p.1:=by
  intro a p b e q hq;have h1:=(h a p b e).1;unfold okPair usedP at h1;simp only[Bool.and_eq_true,Bool.not_eq_true']at h1;have hg:=h1.1.2;rw[List.any_eq_false]at hg;have k1:=hg q hq;simp only[Bool.or_eq_true,beq_iff_eq,not_or]at k1;exact k1.1
 obtain⟨a,b,e1⟩:=List.append_of_mem hp;rw[e1]at hq;rcases List.mem_append.1 hq with hq|hq
 ·exact absurd e.symm (two a p b e1 q hq)
 ·rcases List.mem_cons.1 hq with rfl|hq
  ·rfl
  ·obtain⟨c,d,e2⟩:=List.append_of_mem hq;exact absurd e (two (a++p::c) q d (by rw[e1,e2];simp) p (by simp))
theorem grC_back {ps:List (Int×Int)}(h:PairsOk ps){c d:Int}(e:grC ps c=some d):smC ps d=some c∧Pt c:=by
 unfold grC at e;split at e
 ·rename_i p hp;obtain rfl:p.1=d:=by simpa using e
  have hm:=List.mem_of_find?_eq_some hp;have h2:p.2=c:=by simpa using List.find?_some hp
  subst h2;refine⟨?_,(h.mem hm).2.1⟩;unfold smC;cases hq:ps.find? fun q=>decide (q.1=p.1)with
  | some q=>
    have e1:q.1=p.1:=by simpa using List.find?_some hq
    rw[h.one (List.mem_of_find?_eq_some hq) hm e1]
  | none=>
    rw[List.find?_eq_none]at hq;exact absurd (by simp) (hq p hm)
 ·split at e
  ·rename_i hc;obtain rfl:c-97+65=d:=by simpa using e
   refine⟨?_,?_⟩
   ·unfold smC;have hn:(ps.find? fun q=>decide (q.1=c-97+65))=none:=by
     rw[List.find?_eq_none];intro q hq;have:=(h.mem hq).2.2.1;simp[plainC]at this;simp;omega
    rw[hn];dsimp only;rw[if_pos (by omega)];congr 1;omega
   ·unfold Pt Utf8.valid;simp;omega
  ·cases e
theorem shape_zero {ps:List (Int×Int)}{s:List UInt8}(h0:shapeT ps s=0):∀u∈cuts s,smC ps u.2=none:=by
 have hg:greatsC ps (codesT s)=0:=by
  unfold shapeT shapeC shapeN at h0;split at h0
  ·assumption
  ·split at h0
   ·simp at h0
   ·split at h0<;>simp at h0
 unfold greatsC at hg;rw[List.countP_eq_zero]at hg;intro u hu;have:=hg u.2 (by unfold codesT;exact List.mem_map.2 ⟨u,hu,rfl⟩);simpa using this
theorem title_small {ps:List (Int×Int)}(h:PairsOk ps)(s:List UInt8)(h0:shapeT ps s=0)(h1:shapeT ps (titleT ps s)=1):smallT ps (titleT ps s)=s:=by
 have hz:=shape_zero h0;unfold titleT at h1⊢;by_cases hs:s=[]
 ·rw[if_pos hs]at h1⊢;subst hs;rw[h0]at h1;simp at h1
 rw[if_neg hs]at h1⊢;cases hq:grC ps (uCode s)with
 | none=>
   rw[hq]at h1;dsimp only at h1;rw[h0]at h1;simp at h1
 | some d=>
   dsimp only;obtain⟨hd,hpc⟩:=grC_back h hq;have hpd:=grC_pt h hq;have hbad:uBad s=false:=by
    cases hb:uBad s with
    | false=>rfl
    | true=>
      obtain⟨k,hk,_⟩:=pt_nat hpc;have hu:uCode s<0:=by
       unfold uCode;rw[hb];simp;omega
      omega
   have hb:¬((decodeL s).1=65533∧(decodeL s).2=1):=by
    unfold uBad at hbad;simpa using hbad
   have hby:byC (uCode s)=s.take (decodeL s).2:=by
    rw[byC_pt hpc];have hc:uCode s=((decodeL s).1:Int):=by simp[uCode,hbad]
    rw[hc,enc_rune9 _ (valid_dec s),encode_decode s hs hb]
   have hrest:smallT ps (s.drop (decodeL s).2)=s.drop (decodeL s).2:=by
    have hn:∀u∈cuts (s.drop (decodeL s).2),smC ps u.2=none:=by
     intro u hu;exact hz u (by rw[cuts_step s hs];exact List.mem_cons_of_mem _ hu)
    have h1:=flat_id _ hn;rw[cuts_bytes]at h1;exact h1
   have e1:smallT ps (byC d++s.drop (decodeL s).2)=byC (uCode s)++smallT ps (s.drop (decodeL s).2):=by
    unfold smallT;rw[cuts_code hpd,List.flatMap_cons];unfold pcS;rw[hd]
   rw[e1,hrest,hby,List.take_append_drop]
theorem has_title {d:Di}(h:PairsOk d.pairs){s:List UInt8}(hi:isD d s=true)(h0:shapeT d.pairs s=0)(h1:shapeT d.pairs (titleT d.pairs s)=1):hasD d (titleT d.pairs s)=true:=by
 have e:smallD d (titleT d.pairs s)=s:=title_small h s h0 h1;unfold hasD check1;rw[e,hi,h1];simp
theorem has_is {d:Di}{s:List UInt8}(hi:isD d s=true):hasD d s=true:=by
 unfold hasD check0;rw[hi];simp
theorem is_form {d:Di}{s:ByteArray}(hm:s∈d.forms):isD d s.data.toList=true:=by
 unfold isD bytesD;exact decide_eq_true (List.mem_map.2 ⟨s,hm,rfl⟩)
end Go.Proofs.YtfehpcbmdancoaaGreatDoor
