/- Conditions, plain: no program. What a list of codes reads as; items as codes; one is read as the other. -/
import Derived.Lib.MapLaws
namespace Go.Proofs.YtfehpcbmdancoaaGreatDoor
open Go
structure It where
 any:Bool
 not:Bool
 set:List Int
deriving DecidableEq
def takeSet:List Int→Option (List Int×List Int)
 | []=>none
 | c::r=>if c=93 then some ([],r)else(takeSet r).map fun x=>(c::x.1,x.2)
def setC (neg:Bool)(r:List Int):Option (It×List Int):=
 match takeSet r with
 | none=>none
 | some (a,b)=>if a=[]then none else some (⟨false,neg,a⟩,b)
def headC:List Int→Option (It×List Int)
 | []=>none
 | c::r=>if c=46 then some (⟨true,false,[]⟩,r)else if c=93 then none else if c=91 then(if r.head?=some 94 then setC true r.tail else setC false r)else some (⟨false,false,[c]⟩,r)
def parseF:Nat→List Int→Option (List It)
 | 0,cs=>if cs=[]then some []else none
 | f+1,cs=>if cs=[]then some []else match headC cs with
   | none=>none
   | some (it,r)=>(parseF f r).map fun l=>it::l
def parseC (cs:List Int):Option (List It):=
 match parseF cs.length cs with
 | none=>none
 | some l=>if 0<l.length∧l.length≤8 then some l else none
def itemC (it:It):List Int:=
 if it.any then [46]else if it.set.length=1∧it.not=false∧it.set.head?≠some 46∧it.set.head?≠some 91∧it.set.head?≠some 93 then it.set
 else 91::((if it.not then [94]else [])++(it.set++[93]))
def textC (l:List It):List Int:=l.flatMap itemC
def Good (it:It):Prop:=it=⟨true,false,[]⟩∨(it.any=false∧it.set≠[]∧(∀c∈it.set,c≠93)∧(it.not=false→it.set.head?=some 94→it.set=[94]))
def hasP (it:It)(c:Int):Bool:=it.any||(it.set.contains c != it.not)
def startsP (l:List It)(cs:List Int):Bool:=decide (l.length≤cs.length)&&(l.zip cs).all fun x=>hasP x.1 x.2
def endsP (l:List It)(cs:List Int):Bool:=decide (l.length≤cs.length)&&startsP l (cs.drop (cs.length-l.length))
theorem headC_cons (c:Int)(r:List Int):headC (c::r)=if c=46 then some (⟨true,false,[]⟩,r)else if c=93 then none else if c=91 then(if r.head?=some 94 then setC true r.tail else setC false r)else some (⟨false,false,[c]⟩,r):=rfl
theorem takeSet_len:∀(cs:List Int) {a b:List Int},takeSet cs=some (a,b)→cs=a++93::b∧∀c∈a,c≠93
 | [],a,b,h=>by simp[takeSet]at h
 | c::r,a,b,h=>by
   unfold takeSet at h
   by_cases hc:c=93
   ·rw[if_pos hc]at h
    simp only[Option.some.injEq,Prod.mk.injEq]at h
    obtain⟨rfl,rfl⟩:=h
    exact⟨by rw[hc];rfl,fun c hc=>by cases hc⟩
   ·rw[if_neg hc,Option.map_eq_some_iff]at h
    obtain⟨⟨a',b'⟩,h1,h2⟩:=h
    simp only[Prod.mk.injEq]at h2
    obtain⟨rfl,rfl⟩:=h2
    obtain⟨h3,h4⟩:=takeSet_len r h1
    refine⟨by rw[h3];rfl,fun x hx=>?_⟩
    rcases List.mem_cons.1 hx with rfl|hx
    ·exact hc
    ·exact h4 x hx
theorem takeSet_app:∀(a b:List Int),(∀c∈a,c≠93)→takeSet (a++93::b)=some (a,b)
 | [],b,_=>by simp[takeSet]
 | c::a,b,h=>by
   have hc:=h c (List.mem_cons_self ..)
   have ih:=takeSet_app a b fun x hx=>h x (List.mem_cons_of_mem _ hx)
   show takeSet (c::(a++93::b))=_
   unfold takeSet
   rw[if_neg hc,ih]
   rfl
theorem setC_len {neg:Bool}{r b:List Int}{it:It}(h:setC neg r=some (it,b)):it.any=false∧it.not=neg∧it.set≠[]∧(∀c∈it.set,c≠93)∧r=it.set++93::b:=by
 unfold setC at h
 split at h
 ·cases h
 ·rename_i a b' ht
  split at h
  ·cases h
  ·rename_i hne
   simp only[Option.some.injEq,Prod.mk.injEq]at h
   obtain⟨rfl,rfl⟩:=h
   obtain⟨h1,h2⟩:=takeSet_len r ht
   exact⟨rfl,rfl,hne,h2,h1⟩
theorem setC_app {neg:Bool}{a b:List Int}(hne:a≠[])(h:∀c∈a,c≠93):setC neg (a++93::b)=some (⟨false,neg,a⟩,b):=by
 unfold setC
 rw[takeSet_app a b h]
 simp[hne]
theorem headC_says {cs r:List Int}{it:It}(h:headC cs=some (it,r)):Good it∧(itemC it).length+r.length≤cs.length∧r.length<cs.length∧(∀c∈it.set,c∈cs)∧(∀c∈r,c∈cs)∧it.set.length≤cs.length:=by
 match cs,h with
 | c::t,h=>
   rw[headC_cons]at h
   split at h
   ·simp only[Option.some.injEq,Prod.mk.injEq]at h
    obtain⟨rfl,rfl⟩:=h
    exact⟨.inl rfl,by simp[itemC];omega,by simp,(fun c hc=>by cases hc),(fun c hc=>List.mem_cons_of_mem _ hc),Nat.zero_le _⟩
   split at h
   ·cases h
   split at h
   ·rename_i h46 h93 h91
    have hlen:∀(it:It),it.any=false→(itemC it).length≤it.set.length+2+(if it.not then 1 else 0):=by
     intro it ha
     unfold itemC
     rw[if_neg (by simp[ha])]
     split
     ·omega
     ·split<;>simp_all
    split at h
    ·rename_i hhead
     obtain⟨h1,h2,h3,h4,h5⟩:=setC_len h
     have ht:t=94::t.tail:=by
      cases t with
      | nil=>simp at hhead
      | cons x t'=>simp only[List.head?_cons,Option.some.injEq]at hhead;rw[hhead];rfl
     have hl:=hlen it h1
     rw[h2]at hl
     have hT:t.length=it.set.length+r.length+2:=by
      rw[ht,h5];simp;omega
     refine⟨.inr ⟨h1,h3,h4,fun h=>by rw[h2]at h;cases h⟩,by simp only[List.length_cons];simp at hl;omega,by simp only[List.length_cons];omega,fun c hc=>?_,fun c hc=>?_,by simp only[List.length_cons];omega⟩
     ·rw[ht,h5];simp[hc]
     ·rw[ht,h5];simp[hc]
    ·rename_i hhead
     obtain⟨h1,h2,h3,h4,h5⟩:=setC_len h
     have hl:=hlen it h1
     rw[h2]at hl
     have hT:t.length=it.set.length+r.length+1:=by
      rw[h5];simp;omega
     refine⟨.inr ⟨h1,h3,h4,fun _ hh=>?_⟩,by simp only[List.length_cons];simp at hl;omega,by simp only[List.length_cons];omega,fun c hc=>?_,fun c hc=>?_,by simp only[List.length_cons];omega⟩
     ·exfalso
      apply hhead
      rw[h5]
      cases hs:it.set with
      | nil=>exact absurd hs h3
      | cons x y=>rw[hs]at hh;simpa using hh
     ·rw[h5];simp[hc]
     ·rw[h5];simp[hc]
   ·rename_i h46 h93 h91
    simp only[Option.some.injEq,Prod.mk.injEq]at h
    obtain⟨rfl,rfl⟩:=h
    refine⟨.inr ⟨rfl,(fun h=>by cases h),(fun x hx=>?_),(fun _ hh=>?_)⟩,?_,by simp,(fun x hx=>?_),(fun c hc=>List.mem_cons_of_mem _ hc),by simp⟩
    ·simp only[List.mem_cons,List.not_mem_nil,or_false]at hx;rw[hx];exact h93
    ·simp only[List.head?_cons,Option.some.injEq]at hh;rw[hh]
    ·unfold itemC
     rw[if_neg (by simp),if_pos (by simp[h46,h91,h93])]
     simp;omega
    ·simp only[List.mem_cons,List.not_mem_nil,or_false]at hx;rw[hx];exact List.mem_cons_self ..
theorem headC_item {it:It}(h:Good it)(r:List Int):headC (itemC it++r)=some (it,r):=by
 obtain⟨any,neg,set⟩:=it
 rcases h with h|⟨h1,h2,h3,h4⟩
 ·cases h
  rfl
 ·simp only at h1 h2 h3 h4
  subst h1
  unfold itemC
  rw[if_neg (by simp)]
  split
  ·rename_i hc
   obtain⟨hl,hn,a,b,c⟩:=hc
   simp only at hl hn a b c
   match set,hl with
   | [x],_=>
     simp only[List.head?_cons,ne_eq,Option.some.injEq]at a b c
     subst hn
     show headC (x::r)=_
     rw[headC_cons,if_neg a,if_neg c,if_neg b]
  ·rename_i hc
   simp only[List.cons_append,List.append_assoc,List.nil_append]
   rw[headC_cons,if_neg (by decide),if_neg (by decide),if_pos rfl]
   cases neg with
   | true=>
     simp only[if_true,List.cons_append,List.nil_append,List.head?_cons,List.tail_cons]
     exact setC_app h2 h3
   | false=>
     simp only[Bool.false_eq_true,if_false,List.nil_append]
     have hh:(set++93::r).head?≠some 94:=by
      cases hs:set with
      | nil=>exact absurd hs h2
      | cons x y=>
        intro hx
        have hx':set.head?=some 94:=by rw[hs];simpa using hx
        have:=h4 rfl hx'
        apply hc
        simp[this]
     rw[if_neg hh]
     exact setC_app h2 h3
theorem parseF_text:∀(l:List It) (f:Nat),(∀it∈l,Good it)→(textC l).length≤f→parseF f (textC l)=some l
 | [],f,_,_=>by cases f<;>simp[textC,parseF]
 | it::l,f,h,hf=>by
   have hg:=h it (List.mem_cons_self ..)
   have hh:=headC_item hg (textC l)
   have ht:textC (it::l)=itemC it++textC l:=by simp[textC]
   rw[ht]at hf⊢
   have hlt:=(headC_says hh).2.2.1
   cases f with
   | zero=>omega
   | succ f=>
     have ih:=parseF_text l f (fun x hx=>h x (List.mem_cons_of_mem _ hx)) (by omega)
     unfold parseF
     rw[if_neg (by intro e;rw[e]at hlt;simp at hlt),hh]
     simp only[ih,Option.map_some]
theorem parseF_says:∀(f:Nat) (cs:List Int) {l:List It},parseF f cs=some l→(∀it∈l,Good it∧(∀c∈it.set,c∈cs)∧it.set.length≤cs.length)∧(textC l).length≤cs.length
 | 0,cs,l,h=>by
   unfold parseF at h
   split at h
   ·simp only[Option.some.injEq]at h;subst h;exact⟨(fun it hit=>by cases hit),Nat.zero_le _⟩
   ·cases h
 | f+1,cs,l,h=>by
   unfold parseF at h
   split at h
   ·simp only[Option.some.injEq]at h;subst h;exact⟨(fun it hit=>by cases hit),Nat.zero_le _⟩
   split at h
   ·cases h
   ·rename_i it r hh
    rw[Option.map_eq_some_iff]at h
    obtain⟨l',h1,rfl⟩:=h
    obtain⟨g1,g2,g3,g4,g5,g6⟩:=headC_says hh
    obtain⟨i1,i2⟩:=parseF_says f r h1
    refine⟨fun x hx=>?_,by rw[show textC (it::l')=itemC it++textC l' by simp[textC],List.length_append];omega⟩
    rcases List.mem_cons.1 hx with rfl|hx
    ·exact⟨g1,g4,g6⟩
    ·obtain⟨j1,j2,j3⟩:=i1 x hx
     exact⟨j1,fun c hc=>g5 c (j2 c hc),by omega⟩
theorem parseC_says {cs:List Int}{l:List It}(h:parseC cs=some l):(∀it∈l,Good it∧(∀c∈it.set,c∈cs)∧it.set.length≤cs.length)∧(textC l).length≤cs.length∧0<l.length∧l.length≤8:=by
 unfold parseC at h
 split at h
 ·cases h
 ·rename_i l' hf
  split at h
  ·rename_i hl
   simp only[Option.some.injEq]at h
   subst h
   obtain⟨h1,h2⟩:=parseF_says _ _ hf
   exact⟨h1,h2,hl.1,hl.2⟩
  ·cases h
theorem parseC_text {l:List It}(h:∀it∈l,Good it)(h0:0<l.length)(h8:l.length≤8):parseC (textC l)=some l:=by
 unfold parseC
 rw[parseF_text l _ h (Nat.le_refl _)]
 simp[h0,h8]
theorem textC_mem {l:List It}{P:Int→Prop}(h:∀it∈l,∀c∈it.set,P c)(h46:P 46)(h91:P 91)(h93:P 93)(h94:P 94):∀c∈textC l,P c:=by
 intro c hc
 unfold textC at hc
 rw[List.mem_flatMap]at hc
 obtain⟨it,hit,hc⟩:=hc
 unfold itemC at hc
 split at hc
 ·simp at hc;exact hc▸h46
 split at hc
 ·exact h it hit c hc
 ·rcases List.mem_cons.1 hc with rfl|hc
  ·exact h91
  rcases List.mem_append.1 hc with hc|hc
  ·split at hc
   ·simp at hc;exact hc▸h94
   ·cases hc
  rcases List.mem_append.1 hc with hc|hc
  ·exact h it hit c hc
  ·simp at hc;exact hc▸h93
end Go.Proofs.YtfehpcbmdancoaaGreatDoor
