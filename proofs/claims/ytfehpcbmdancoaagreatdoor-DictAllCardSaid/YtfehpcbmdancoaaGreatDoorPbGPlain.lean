/- The landed reader of a line, plain: cut at the first stop, a word by its codes. -/
import Derived.Test.YtfehpcbmdancoaaGreatDoorPbPlain
namespace Go.Proofs.YtfehpcbmdancoaaGreatDoor.Ls
open Go Go.Lib
def nst (b:UInt8):Bool:=decide (b≠47∧b≠35)
def isW (l:List UInt8):Bool:=match codesB l with
 | some cs=>decide (0<cs.length)&&cs.all fun c=>decide (33≤c)
 | none=>false
def gEntry (l:List UInt8):Option En:=
 if isW (l.takeWhile nst)=true then match l.dropWhile nst with
  | []=>some ⟨⟨(l.takeWhile nst).toArray⟩,[]⟩
  | b::fs=>if b=47∧fs≠[]then(flagsL [] fs).map fun f=>⟨⟨(l.takeWhile nst).toArray⟩,f⟩else none
 else none
theorem takeW_mem {p:UInt8→Bool}:∀(l:List UInt8) x,x∈l.takeWhile p→p x=true
 | [],x,h=>by cases h
 | y::l,x,h=>by
   rw[List.takeWhile_cons]at h
   by_cases hy:p y=true
   ·rw[if_pos hy]at h
    rcases List.mem_cons.1 h with rfl|h
    ·exact hy
    ·exact takeW_mem l x h
   ·rw[if_neg hy]at h;cases h
theorem dropW_head {p:UInt8→Bool}:∀(l:List UInt8) (b:UInt8) (r:List UInt8),l.dropWhile p=b::r→p b=false
 | [],b,r,h=>by cases h
 | y::l,b,r,h=>by
   rw[List.dropWhile_cons]at h
   by_cases hy:p y=true
   ·rw[if_pos hy]at h;exact dropW_head l b r h
   ·rw[if_neg hy]at h
    obtain⟨rfl,_⟩:=List.cons.inj h
    simpa using hy
theorem takeW_app {p:UInt8→Bool}:∀(a r:List UInt8),(∀x∈a,p x=true)→(a++r).takeWhile p=a++r.takeWhile p∧(a++r).dropWhile p=r.dropWhile p
 | [],r,_=>⟨rfl,rfl⟩
 | x::a,r,h=>by
   have ih:=takeW_app a r fun y hy=>h y (List.mem_cons_of_mem _ hy)
   have hx:=h x (List.mem_cons_self ..)
   simp only[List.cons_append,List.takeWhile_cons,List.dropWhile_cons,hx,if_true]
   exact⟨by rw[ih.1],ih.2⟩
theorem pt_lt {c:Int}(h:Pt c):0≤c:=by
 obtain⟨k,rfl,_⟩:=pt_nat h
 omega
theorem word_same {l:List UInt8}(h:∀b∈l,nst b=true):wordOk l=isW l:=by
 unfold wordOk isW
 cases hc:codesB l with
 | none=>
   have hv:validD l=false:=by
    unfold codesB at hc
    split at hc
    ·cases hc
    ·rename_i hn;simpa using hn
   rw[hv];simp
 | some cs=>
   have hv:validD l=true:=by
    unfold codesB at hc
    split at hc
    ·rename_i hn;exact hn
    ·cases hc
   have he:=encL_codesB hc
   have hpt:=(codesB_says hc).1
   rw[hv,Bool.and_true]
   have h1:decide (l≠[])=decide (0<cs.length):=by
    apply decide_eq_decide.2
    constructor
    ·intro hl
     rcases Nat.eq_zero_or_pos cs.length with h0|h0
     ·rw[List.eq_nil_of_length_eq_zero h0]at he
      exact absurd he.symm hl
     ·exact h0
    ·rintro h0 rfl
     have:=(codesB_says hc).2
     simp at this
     rw[this]at h0
     simp at h0
   have h2:(l.all fun b=>decide (33≤b.toNat∧b≠47∧b≠35))=cs.all fun c=>decide (33≤c):=by
    rw[Bool.eq_iff_iff,List.all_eq_true,List.all_eq_true]
    constructor
    ·intro hl c hcm
     have h0:=pt_lt (hpt c hcm)
     apply decide_eq_true
     rcases Int.lt_or_le c 33 with hlt|hge
     ·obtain⟨b,hb⟩:∃b:UInt8,b=UInt8.ofNat c.toNat:=⟨_,rfl⟩
      have hbn:b.toNat=c.toNat:=by rw[hb];exact ofNat_toNat _ (by omega)
      have hm:=(encL_mem hpt (b:=b) (by omega)).2 (by rw[hbn];rwa[Int.toNat_of_nonneg h0])
      rw[he]at hm
      have:=of_decide_eq_true (hl b hm)
      omega
     ·exact hge
    ·intro hcs b hb
     have hn:=of_decide_eq_true (h b hb)
     apply decide_eq_true
     refine⟨?_,hn⟩
     rcases Nat.lt_or_ge b.toNat 33 with hlt|hge
     ·rw[←he]at hb
      have hm:=(encL_mem hpt (b:=b) (by omega)).1 hb
      have:=of_decide_eq_true (hcs _ hm)
      omega
     ·exact hge
   rw[h1,h2]
theorem gEntry_eq (l:List UInt8):entryL l=gEntry l:=by
 have hl:l.takeWhile nst++l.dropWhile nst=l:=List.takeWhile_append_dropWhile
 have hin:=takeW_mem (p:=nst) l
 unfold gEntry
 rw[←word_same hin]
 have h47:∀x∈l.takeWhile nst,(fun y:UInt8=>decide (y≠47)) x=true:=fun x hx=>by
  have:=of_decide_eq_true (hin x hx)
  exact decide_eq_true this.1
 cases hd:l.dropWhile nst with
 | nil=>
   rw[hd,List.append_nil]at hl
   have k:=takeW_app (p:=fun y:UInt8=>decide (y≠47)) (l.takeWhile nst) [] h47
   rw[List.append_nil,hl]at k
   rw[hl]
   unfold entryL
   rw[k.1,k.2,List.takeWhile_nil,List.append_nil]
   rfl
 | cons b fs=>
   rw[hd]at hl
   have hb:=dropW_head l b fs hd
   have k:=takeW_app (p:=fun y:UInt8=>decide (y≠47)) (l.takeWhile nst) (b::fs) h47
   rw[hl]at k
   by_cases hb47:b=47
   ·subst hb47
    have k1:((47:UInt8)::fs).takeWhile (fun y:UInt8=>decide (y≠47))=[]:=by rw[List.takeWhile_cons,if_neg (by decide)]
    have k2:((47:UInt8)::fs).dropWhile (fun y:UInt8=>decide (y≠47))=47::fs:=by rw[List.dropWhile_cons,if_neg (by decide)]
    unfold entryL
    rw[k.1,k.2,k1,k2,List.append_nil]
    by_cases hw:wordOk (l.takeWhile nst)=true
    ·rw[if_pos hw,if_pos hw]
     show Option.map _ (if fs=[]then none else flagsL [] fs)=if (47:UInt8)=47∧fs≠[]then _ else none
     by_cases hf:fs=[]
     ·rw[if_pos hf,if_neg (fun e=>e.2 hf)];rfl
     ·rw[if_neg hf,if_pos ⟨rfl,hf⟩]
    ·rw[if_neg hw,if_neg hw]
   ·have hb35:b=35:=by
     unfold nst at hb
     have:=of_decide_eq_false hb
     by_cases h:b=35
     ·exact h
     ·exact absurd ⟨hb47,h⟩ this
    have hbad:wordOk (l.takeWhile (fun y:UInt8=>decide (y≠47)))=false:=by
     rw[k.1,List.takeWhile_cons,if_pos (by rw[hb35];decide),hb35]
     unfold wordOk
     rw[Bool.and_eq_false_iff,Bool.and_eq_false_iff]
     left;right
     rw[List.all_eq_false]
     exact⟨35,by simp,by decide⟩
    have h0:entryL l=none:=by
     unfold entryL
     rw[if_neg]
     rw[show wordOk (l.takeWhile (· ≠47))=false from hbad]
     decide
    rw[h0]
    split
    ·show none=if b=47∧fs≠[]then _ else none
     rw[if_neg (fun e=>hb47 e.1)]
    ·rfl
theorem badE_end {ls:List (List UInt8)}{k:Nat}(h:2000<(esOf (ls.take k)).length):endE ls=([],0,3):=by
 unfold endE
 rw[if_pos (by have:=esOf_pre ls k;omega)]
end Go.Proofs.YtfehpcbmdancoaaGreatDoor.Ls
