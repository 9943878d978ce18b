/-
  FLists, WPlain, Behind, Begun, LawBehind, Lst, FMem.
-/
import Derived.Laws.BytesArg
import Derived.Test.YtcbnnfeelhlapadGreatDoorCheck
namespace Go.Proofs.YtcbnnfeelhlapadGreatDoor
open Go.RowKit
set_option maxRecDepth 20000
set_option maxHeartbeats 400000
variable {l:List Ch} {d:Dd} {last:Int->Int} {i:Nat}
def zha(l:List Ch)(d:Dd):Int:=
 if za9 d≠0 then za9 d else if cnt l d.seen d.by_<d.at_+d.many then 1 else if 200<l.length+d.text.size then 9 else 0
def doC(l:List Ch)(d:Dd)(number:Int):Int:=if zha l d≠0 then zha l d else if number<1 then 1 else 0
def zh6:List Ch->Nat->List Dd->(List Ch)×Int×Nat
 |l,_,[]=>(l,0,0)
 |l,i,d::r=>if doC l d (i+1)≠0 then([],doC l d (i+1),i)else zh6 (doL l d (i+1)) (i+1) r
theorem zc0{number:Int}(h:doC l d number=0):za9 d=0/\d.at_+d.many<=cnt l d.seen d.by_/\l.length+d.text.size<=200/\1<=number:=by
 unfold doC at h
 by_cases hm:zha l d=0
 ·rw[if_neg (by simp[hm])]at h
  unfold zha at hm
  by_cases hc:za9 d=0
  ·rw[if_neg (by simp[hc])]at hm
   by_cases h1:cnt l d.seen d.by_<d.at_+d.many
   ·rw[if_pos h1]at hm;cases hm
   rw[if_neg h1]at hm
   by_cases h2:200<l.length+d.text.size
   ·rw[if_pos h2]at hm;cases hm
   by_cases h3:number<1
   ·rw[if_pos h3]at h;cases h
   exact⟨hc,by omega,by omega,by omega⟩
  rw[if_pos hc]at hm;exact absurd hm hc
 rw[if_pos hm]at h;exact absurd h hm
structure qcf(last:Int->Int)(i:Nat)(l:List Ch):Prop where
 wr:∀x∈l,wrB x.by_=true
 no:∀x∈l,1<=x.no/\x.no<=last x.by_
 k:∀x∈l,0<=x.k/\x.k<=19
 gone:∀x∈l,0<=x.gone/\x.gone<=15
 inn:∀x∈l,1<=x.inn/\x.inn<=i
 out:∀x∈l,0<=x.out/\x.out<=i/\(x.out≠0->x.inn<x.out/\x.gone≠0)
 one:l.Pairwise fun x y=>¬(x.by_=y.by_/\x.no=y.no/\x.k=y.k)
theorem zah(h:za9 d=0):(d.kind=1\/d.kind=2)/\wrB d.by_=true/\1<=d.no/\d.no<=120/\0<=d.seen/\d.seen<=120/\0<=d.at_/\d.at_<=200/\0<=d.many/\d.many<=200/\(d.kind=1->1<=d.text.size/\d.text.size<=20/\d.many=0)/\(d.kind≠1->d.text.size=0):=by
 unfold za9 at h
 by_cases hk:d.kind=1\/d.kind=2
 ·rw[if_neg (by omega)]at h
  cases hp:zcr d
  ·rw[if_pos hp]at h;cases h
  rw[if_neg (by simp[hp])]at h
  simp[zcr,zas]at hp
  obtain⟨h1,⟨h2,h3⟩,⟨h4,h5⟩,h6,h7⟩:=hp
  by_cases h1k:d.kind=1
  ·rw[if_pos h1k,zwt]at h
   by_cases hm:d.many=0
   ·rw[if_neg (by simp[hm])]at h
    cases ht:zci d.text
    ·rw[ht]at h;cases h
    simp[zci]at ht
    exact⟨hk,h1,h2,h3,h4,h5,h6,h7,by omega,by omega,fun _=>⟨ht.1.1,ht.1.2,hm⟩,fun hh=>absurd h1k hh⟩
   rw[if_pos hm]at h;cases h
  rw[if_neg h1k,zl3]at h
  by_cases ht:d.text.size=0
  ·rw[if_neg (by simp[ht])]at h
   cases hm:zas d.many 1 200
   ·rw[hm]at h;cases h
   simp[zas]at hm
   exact⟨hk,h1,h2,h3,h4,h5,h6,h7,by omega,by omega,fun hh=>absurd hh h1k,fun _=>ht⟩
  rw[if_pos ht]at h;cases h
 rw[if_pos (by omega)]at h;cases h
theorem zsa(d:Dd)(number:Int):∀(k:Nat) (l:List UInt8),(zbb d number k l).Pairwise fun x y=>¬(x.by_=y.by_/\x.no=y.no/\x.k=y.k)
 |_,[]=>List.Pairwise.nil
 |k,b::r=>by
  rw[zbb,List.pairwise_cons]
  refine⟨fun y hy=> ?_,zsa d number (k+1) r⟩
  obtain⟨j,c,rfl,h1,_,_⟩:=zdm hy
  rintro⟨_,_,h⟩
  have h':(k:Int)=j:=h
  omega
theorem made_put(hm:qcf last i l)(h:za9 d=0)(hk:d.kind=1)(hno:d.no=last d.by_+1):qcf (fun w=>if w=d.by_ then d.no else last w) (i+1) (doL l d (i+1)):=by
 obtain⟨_,hw,hn1,_,_,_,_,_,_,_,hp,_⟩:=zah h
 obtain⟨t1,t2,_⟩:=hp hk
 have hmem:∀x∈doL l d (i+1),x∈l\/x∈zez d (i+1):=by
  intro x hx
  rw[doL,if_pos hk,List.mem_append,List.mem_append]at hx
  rcases hx with hx|hx|hx
  ·exact .inl (List.mem_of_mem_take hx)
  ·exact .inr hx
  exact .inl (List.mem_of_mem_drop hx)
 have hnew:∀x∈zez d (i+1),∃j:Nat,∃b,x=zm9 d (i+1) j b/\j<d.text.size:=by
  intro x hx
  obtain⟨j,b,rfl,_,h2,_⟩:=zdm hx
  exact⟨j,b,rfl,by rw[<-zav];omega⟩
 have hlast:∀x∈l,x.no<=(fun w=>if w=d.by_ then d.no else last w) x.by_:=by
  intro x hx
  have:=(hm.no x hx).2
  show x.no<=if x.by_=d.by_ then d.no else last x.by_
  split
  ·rename_i e;rw[e]at this;omega
  exact this
 refine⟨fun x hx=> ?_,fun x hx=> ?_,fun x hx=> ?_,fun x hx=> ?_,fun x hx=> ?_,fun x hx=> ?_,?_⟩
 ·rcases hmem x hx with hx|hx
  ·exact hm.wr x hx
  obtain⟨j,b,rfl,_⟩:=hnew x hx;exact hw
 ·rcases hmem x hx with hx|hx
  ·exact⟨(hm.no x hx).1,hlast x hx⟩
  obtain⟨j,b,rfl,_⟩:=hnew x hx
  refine⟨hn1,?_⟩
  show d.no<=if d.by_=d.by_ then d.no else last d.by_
  rw[if_pos rfl]
  exact Int.le_refl _
 ·rcases hmem x hx with hx|hx
  ·exact hm.k x hx
  obtain⟨j,b,rfl,hj⟩:=hnew x hx
  show 0<=(j:Int)/\(j:Int)<=19
  omega
 ·rcases hmem x hx with hx|hx
  ·exact hm.gone x hx
  obtain⟨j,b,rfl,hj⟩:=hnew x hx
  show(0:Int)<=0/\(0:Int)<=15
  decide
 ·rcases hmem x hx with hx|hx
  ·have:=hm.inn x hx
   omega
  obtain⟨j,b,rfl,hj⟩:=hnew x hx
  show(1:Int)<=(i:Int)+1/\(i:Int)+1<=((i+1:Nat):Int)
  omega
 ·rcases hmem x hx with hx|hx
  ·have:=hm.out x hx
   exact⟨this.1,by omega,this.2.2⟩
  obtain⟨j,b,rfl,hj⟩:=hnew x hx
  exact⟨Int.le_refl 0,by show(0:Int)<=((i+1:Nat):Int);omega,fun e=>absurd rfl e⟩
 rw[doL,if_pos hk,List.pairwise_append,List.pairwise_append]
 have hpart:=hm.one
 rw[<-List.take_append_drop (zb7 l d) l,List.pairwise_append]at hpart
 have hdiff:∀x∈l,∀y∈zez d (i+1),¬(x.by_=y.by_/\x.no=y.no/\x.k=y.k):=by
  rintro x hx y hy ⟨h1,h2,_⟩
  obtain⟨j,b,rfl,_⟩:=hnew y hy
  have:=(hm.no x hx).2
  have h1':x.by_=d.by_:=h1
  have h2':x.no=d.no:=h2
  rw[h1']at this
  omega
 refine⟨hpart.1,⟨zsa d (i+1) 0 _,hpart.2.1,fun y hy x hx e=>hdiff x (List.mem_of_mem_drop hx) y hy ⟨e.1.symm,e.2.1.symm,e.2.2.symm⟩⟩,fun x hx y hy=> ?_⟩
 rcases List.mem_append.1 hy with hy|hy
 ·exact hdiff x (List.mem_of_mem_take hx) y hy
 exact hpart.2.2 x hx y hy
theorem znv{g w:Int}(hw:wrB w=true)(h:zce g w=false)(h0:0<=g)(h1:g<=15):0<=g+2 ^ w.toNat/\g+2 ^ w.toNat<=15/\g+2 ^ w.toNat≠0:=by
 have hw':0<=w/\w<=3:=by simpa [wrB]using hw
 rw[zce,hw,Bool.true_and,qcc]at h
 have h':¬g / 2 ^ w.toNat % 2=1:=by simpa using h
 rcases(show w=0\/w=1\/w=2\/w=3 by omega)with rfl|rfl|rfl|rfl<;>(simp at h'⊢;omega)
theorem zfk{d:Dd}{number:Int}{y:Ch}:∀{l:List Ch} {k:Int},y∈zby d number k l->∃x∈l,y=x\/(za7 d.seen d.by_ x=true/\y=zex d.by_ number x)
 |[],k,h=>by simp[zby]at h
 |x::r,k,h=>by
  rw[zau,List.mem_cons]at h
  rcases h with rfl|h
  ·refine⟨x,by simp,?_⟩
   unfold tk
   split
   ·rename_i hc;exact .inr ⟨hc.1,rfl⟩
   exact .inl rfl
  obtain⟨z,hz,hy⟩:=zfk h
  exact⟨z,by simp[hz],hy⟩
theorem zlz{d:Dd}{number:Int}:∀{l:List Ch} {k:Int},l.Pairwise (fun x y=>¬(x.by_=y.by_/\x.no=y.no/\x.k=y.k))->(zby d number k l).Pairwise fun x y=>¬(x.by_=y.by_/\x.no=y.no/\x.k=y.k)
 |[],k,_=>List.Pairwise.nil
 |x::r,k,h=>by
  rw[List.pairwise_cons]at h
  rw[zau,List.pairwise_cons]
  have hx:(tk d number k x).by_=x.by_/\(tk d number k x).no=x.no/\(tk d number k x).k=x.k:=by
   unfold tk
   split<;>exact⟨rfl,rfl,rfl⟩
  refine⟨fun y hy=> ?_,zlz h.2⟩
  obtain⟨z,hz,hyz⟩:=zfk hy
  rw[hx.1,hx.2.1,hx.2.2]
  rcases hyz with rfl|⟨_,rfl⟩
  ·exact h.1 _ hz
  exact h.1 z hz
theorem qew(hm:qcf last i l)(h:za9 d=0)(hk:d.kind≠1)(hno:d.no=last d.by_+1)(hi:i<1000):qcf (fun w=>if w=d.by_ then d.no else last w) (i+1) (doL l d (i+1)):=by
 obtain⟨_,hw,hn1,_,_,_,_,_,_,_,_,_⟩:=zah h
 rw[doL,if_neg hk]
 have hlast:∀x∈l,x.no<=(fun w=>if w=d.by_ then d.no else last w) x.by_:=by
  intro x hx
  have:=(hm.no x hx).2
  show x.no<=if x.by_=d.by_ then d.no else last x.by_
  split
  ·rename_i e;rw[e]at this;omega
  exact this
 refine⟨fun y hy=> ?_,fun y hy=> ?_,fun y hy=> ?_,fun y hy=> ?_,fun y hy=> ?_,fun y hy=> ?_,zlz hm.one⟩
 all_goals obtain⟨x,hx,hyx⟩:=zfk hy
 ·rcases hyx with rfl|⟨_,rfl⟩
  ·exact hm.wr _ hx
  exact hm.wr x hx
 ·rcases hyx with rfl|⟨_,rfl⟩
  ·exact⟨(hm.no _ hx).1,hlast _ hx⟩
  exact⟨(hm.no x hx).1,hlast x hx⟩
 ·rcases hyx with rfl|⟨_,rfl⟩
  ·exact hm.k _ hx
  exact hm.k x hx
 ·rcases hyx with rfl|⟨hs,rfl⟩
  ·exact hm.gone _ hx
  have hg:=hm.gone x hx
  have:=znv hw (ze1 hs) hg.1 hg.2
  exact⟨this.1,this.2.1⟩
 ·rcases hyx with rfl|⟨_,rfl⟩
  ·have:=hm.inn _ hx;omega
  have:=hm.inn x hx
  show 1<=x.inn/\x.inn<=((i+1:Nat):Int)
  omega
 rcases hyx with rfl|⟨hs,rfl⟩
 ·have:=hm.out _ hx
  exact⟨this.1,by omega,this.2.2⟩
 have ho:=hm.out x hx
 have hin:=hm.inn x hx
 have hg:=hm.gone x hx
 have hga:=znv hw (ze1 hs) hg.1 hg.2
 show 0<=zal ((i:Int)+1) x.out/\zal ((i:Int)+1) x.out<=((i+1:Nat):Int)/\(zal ((i:Int)+1) x.out≠0->x.inn<zal ((i:Int)+1) x.out/\x.gone+2 ^ d.by_.toNat≠0)
 unfold zal
 split
 ·refine⟨by omega,by omega,fun _=>⟨by omega,hga.2.2⟩⟩
 refine⟨ho.1,by omega,fun hne=>⟨(ho.2.2 hne).1,hga.2.2⟩⟩
def zg8(n:Int)(l:List Ch):Prop:=∀x∈l,x.inn<=n/\x.out=0/\x.gone=0
theorem qb6(hm:qcf last i l)(hl:l.length<=200){r:Int}(h:zpt l i r):r=0:=by
 have hz:∀j,j<l.length->zf7 l i j=0:=by
  intro j hj
  unfold zf7
  rw[List.getElem?_eq_getElem hj]
  have hx:l[j]∈l:=List.getElem_mem hj
  have h1:zcu l[j] i=0:=by
   unfold zcu
   have a1:=hm.wr _ hx
   have a2:=hm.no _ hx
   have a3:=hm.k _ hx
   have a4:=hm.gone _ hx
   have a5:=hm.inn _ hx
   have a6:=hm.out _ hx
   have n1:zn0 l[j]=true:=by
    simp only[zn0,a1,zas,Bool.true_and,Bool.and_eq_true,decide_eq_true_eq]
    omega
   have n2:zgn l[j] i=true:=by
    simp only[zgn,zas,Bool.and_eq_true,Bool.or_eq_true,decide_eq_true_eq]
    exact⟨.inr a5,a6.1,a6.2.1⟩
   have n3:qbq l[j]=false:=by
    unfold qbq
    by_cases ho:l[j].out=0
    ·simp[ho]
    have:=a6.2.2 ho
    have e1:decide (l[j].out<=l[j].inn)=false:=decide_eq_false (by omega)
    have e2:(l[j].gone==0)=false:=beq_eq_false_iff_ne.2 this.2
    rw[e1,e2]
    simp
   rw[n1,n2,n3]
   rfl
  have h2:zf4 l j=false:=by
   unfold zf4
   rw[List.getElem?_eq_getElem hj]
   show((l.take j).any fun y=>zk5 y l[j])=false
   rw[List.any_eq_false]
   intro y hy
   obtain⟨k,hk,rfl⟩:=List.getElem_of_mem hy
   have hk':k<j:=by simpa using(show k<(l.take j).length from hk) |> fun h=>by rw[List.length_take]at h;omega
   have:=List.pairwise_iff_getElem.1 hm.one k j (by omega) hj hk'
   rw[List.getElem_take]
   simpa [zk5]using this
  simp[h1,h2]
 rcases h with⟨h,_⟩|⟨_,⟨k,hk,_,hy,hr⟩|⟨_,rfl⟩⟩
 ·omega
 ·rw[hz k hk]at hy;exact absurd hy.symm hr
 rfl
variable {a x l:List Ch} {p q:Nat} {y:Ch} {d e:Dd} {number seen by_ n v me least:Int}
def ins(p:Nat)(x l:List Ch):List Ch:=l.take p++(x++l.drop p)
theorem zr8{b:List Ch}(h:a.length=p):ins p x (a++b)=a++(x++b):=by
 subst h
 rw[ins,List.take_left,List.drop_left]
theorem zxb:y∈ins p x l↔y∈x\/y∈l:=by
 have:=List.take_append_drop p l
 rw[ins,List.mem_append,List.mem_append]
 constructor
 ·rintro(h|h|h)
  ·exact .inr (List.mem_of_mem_take h)
  ·exact .inl h
  exact .inr (List.mem_of_mem_drop h)
 rintro(h|h)
 ·exact .inr (.inl h)
 rw[<-this,List.mem_append]at h
 rcases h with h|h
 ·exact .inl h
 exact .inr (.inr h)
theorem zzs{y:List Ch}(h:p<=q)(hq:q<=l.length):ins (q+x.length) y (ins p x l)=ins p x (ins q y l):=by
 have e1:l=l.take p++((l.drop p).take (q-p)++l.drop q):=by
  have e2:=List.take_append_drop (q-p) (l.drop p)
  rw[List.drop_drop,show p+(q-p)=q by omega]at e2
  rw[e2,List.take_append_drop]
 have ha:(l.take p).length=p:=by rw[List.length_take];omega
 have hb:((l.drop p).take (q-p)).length=q-p:=by rw[List.length_take,List.length_drop];omega
 generalize l.take p=a at e1 ha
 generalize (l.drop p).take (q-p)=b at e1 hb
 generalize l.drop q=c at e1
 subst e1
 rw[zr8 ha]
 have e3:a++(x++(b++c))=(a++(x++b))++c:=by simp
 rw[e3,zr8 (by simp;omega)]
 have e4:a++(b++c)=(a++b)++c:=by simp
 rw[e4,zr8 (a:=a++b) (by simp;omega)]
 have e5:a++b++(y++c)=a++(b++(y++c)):=by simp
 rw[e5,zr8 ha]
 simp
theorem zcc(h:d.kind=1):doL l d number=ins (zb7 l d) (zez d number) l:=by
 rw[doL,if_pos h,ins]
theorem zbl(h:d.kind≠1):doL l d number=zby d number 0 l:=by
 rw[doL,if_neg h]
theorem zpp{seen by_:Int}:∀(x:List Ch) (n:Nat) (l:List Ch),(∀y∈x,za7 seen by_ y=false)->zaa seen by_ (n+1) (x++l)=(zaa seen by_ (n+1) l).map (· +x.length)
 |[],n,l,_=>by rw[List.nil_append];cases zaa seen by_ (n+1) l<;>rfl
 |y::x,n,l,h=>by
  rw[List.cons_append,zaa,if_neg (by rw[h y (by simp)];simp),zpp x n l (fun z hz=>h z (by simp[hz]))]
  cases zaa seen by_ (n+1) l
  ·rfl
  simp;omega
theorem zek(seen by_:Int)(l:List Ch):zaa seen by_ 0 l=some 0:=by cases l<;>rfl
theorem zik{seen by_:Int}{x:List Ch}(hx:∀y∈x,za7 seen by_ y=false):∀(l:List Ch) (n p q:Nat),p<=l.length->zaa seen by_ n l=some q->zaa seen by_ n (ins p x l)=some (if p<q then q+x.length else q)
 |l,0,p,q,_,h=>by
  rw[zek]at h⊢
  obtain rfl:=Option.some.inj h
  simp
 |[],n+1,p,q,hp,h=>by cases h
 |y::r,n+1,0,q,hp,h=>by
  rw[ins,List.take_zero,List.drop_zero,List.nil_append,zpp x n _ hx,h]
  have:0<q:=by
   rw[zaa]at h
   split at h
   ·cases hb:zaa seen by_ n r<;>rw[hb]at h<;>simp at h
    omega
   cases hb:zaa seen by_ (n+1) r<;>rw[hb]at h<;>simp at h
   omega
  rw[if_pos this]
  rfl
 |y::r,n+1,p+1,q,hp,h=>by
  have e:ins (p+1) x (y::r)=y::ins p x r:=rfl
  rw[e,zaa]
  rw[zaa]at h
  have hp':p<=r.length:=by simpa using hp
  split at h
  ·rename_i hy
   rw[if_pos hy]
   cases hb:zaa seen by_ n r with
   |none=>rw[hb]at h;cases h
   |some q'=>
    rw[hb]at h
    obtain rfl:=Option.some.inj h
    rw[zik hx r n p q' hp' hb]
    simp only[Option.map_some,Option.some.injEq,Nat.add_lt_add_iff_right]
    split<;>omega
  rename_i hy
  rw[if_neg hy]
  cases hb:zaa seen by_ (n+1) r with
  |none=>rw[hb]at h;cases h
  |some q'=>
   rw[hb]at h
   obtain rfl:=Option.some.inj h
   rw[zik hx r (n+1) p q' hp' hb]
   simp only[Option.map_some,Option.some.injEq,Nat.add_lt_add_iff_right]
   split<;>omega
theorem ztz{by_:Int}:∀(x l:List Ch),(∀y∈x,y.inn=za3/\y.by_≠by_)->zbm by_ (x++l)=zbm by_ l+x.length
 |[],l,_=>rfl
 |y::x,l,h=>by
  rw[List.cons_append,zbm,if_pos (h y (by simp)),ztz x l (fun z hz=>h z (by simp[hz])),List.length_cons]
  omega
theorem zty{by_:Int}{x:List Ch}(hx:∀y∈x,y.inn=za3/\y.by_≠by_):∀(l:List Ch) (j:Nat),j<=l.length->zbm by_ (ins j x l)=if zbm by_ l<j then zbm by_ l else zbm by_ l+x.length
 |l,0,_=>by
  rw[ins,List.take_zero,List.drop_zero,List.nil_append,ztz x l hx]
  simp
 |y::r,j+1,h=>by
  have e:ins (j+1) x (y::r)=y::ins j x r:=rfl
  rw[e,zbm,zbm]
  by_cases hy:y.inn=za3/\y.by_≠by_
  ·rw[if_pos hy,if_pos hy,zty hx r j (by simpa using h)]
   simp only[Nat.add_lt_add_iff_right]
   split<;>omega
  rw[if_neg hy,if_neg hy]
  simp
def ziv(me:Int)(l:List Ch):Prop:=∀x∈l,x.inn=za3->x.by_=me
theorem zfl{me:Int}{l:List Ch}(h:ziv me l):zbm me l=0:=by
 cases l with
 |nil=>rfl
 |cons x r=>rw[zbm,if_neg (fun e=>e.2 (h x (by simp) e.1))]
theorem ziv.drop{me:Int}{l:List Ch}(h:ziv me l)(p:Nat):ziv me (l.drop p):=fun x hx=>h x (List.mem_of_mem_drop hx)
theorem ziv.ins{me:Int}{x l:List Ch}(h:ziv me l)(hx:ziv me x)(p:Nat):ziv me (ins p x l):=fun y hy=>by
 rcases zxb.1 hy with hy|hy
 ·exact hx y hy
 exact h y hy
theorem zco(h:y∈zez d number):y.inn=number/\y.by_=d.by_/\y.out=0/\y.gone=0/\y.no=d.no:=by
 obtain⟨j,b,rfl,_⟩:=zdm h
 exact⟨rfl,rfl,rfl,rfl,rfl⟩
theorem zld(h:d.by_≠by_)(hn:seen<number):∀y∈zez d number,za7 seen by_ y=false:=by
 intro y hy
 obtain⟨j,b,rfl,_⟩:=zdm hy
 exact zqz d number seen by_ j b h hn
theorem ze8(h:d.at_<=cnt l d.seen d.by_):∃q,zaa d.seen d.by_ d.at_.toNat l=some q/\q<=l.length/\zb7 l d=q+zbm d.by_ (l.drop q)/\zb7 l d<=l.length:=by
 have hl:d.at_.toNat<=(vw l d.seen d.by_).length:=by have:=zix l d.seen d.by_;omega
 obtain⟨q,hq⟩:=zh4 hl
 have h1:=(zd4 hq).1
 have hk:=znp d.by_ (l.drop q)
 rw[List.length_drop]at hk
 have e:zb7 l d=q+zbm d.by_ (l.drop q):=by rw[zb7,hq]
 exact⟨q,hq,h1,e,by omega⟩
theorem zvf(h:q<=p)(hp:p<=l.length):(ins p x l).drop q=ins (p-q) x (l.drop q):=by
 rw[ins,ins,List.drop_append_of_le_length (by rw[List.length_take];omega),List.drop_take,List.drop_drop,show q+(p-q)=p by omega]
theorem zsx(h:p<=q)(hp:p<=l.length):(ins p x l).drop (q+x.length)=l.drop q:=by
 have e1:(l.take p).length=p:=by rw[List.length_take];omega
 have e:ins p x l=(l.take p++x)++l.drop p:=by rw[ins,List.append_assoc]
 rw[e,List.drop_append,List.drop_eq_nil_of_le (by rw[List.length_append,e1];omega),List.nil_append,List.length_append,e1,List.drop_drop]
 congr 1
 omega
theorem zwv(hp:p<=l.length)(hn:d.at_<=cnt l d.seen d.by_)(hs:∀y∈x,za7 d.seen d.by_ y=false)(hx:∀y∈x,y.inn=za3/\y.by_≠d.by_):
 zb7 (ins p x l) d=if zb7 l d<p then zb7 l d else zb7 l d+x.length:=by
 obtain⟨q,hq,hql,e,_⟩:=ze8 hn
 have hb:=zik hs l d.at_.toNat p q hp hq
 rw[zb7,hb]
 show(if p<q then q+x.length else q)+zbm d.by_ ((ins p x l).drop (if p<q then q+x.length else q))=_
 rw[e]
 by_cases hpq:p<q
 ·rw[if_pos hpq,zsx (by omega) hp,if_neg (by omega)]
  omega
 rw[if_neg hpq,zvf (by omega) hp,zty hx _ _ (by rw[List.length_drop];omega)]
 by_cases hk:zbm d.by_ (l.drop q)<p-q
 ·rw[if_pos hk,if_pos (by omega)]
 rw[if_neg hk,if_neg (by omega)]
 omega
theorem qef(hp:p<=l.length)(hn:e.at_<=cnt l e.seen e.by_)(hm:ziv e.by_ l)(hs:∀y∈x,za7 e.seen e.by_ y=false)(hx:ziv e.by_ x):
 zb7 (ins p x l) e=if p<zb7 l e then zb7 l e+x.length else zb7 l e:=by
 obtain⟨q,hq,hql,e1,_⟩:=ze8 hn
 rw[zfl (hm.drop q),Nat.add_zero]at e1
 have hb:=zik hs l e.at_.toNat p q hp hq
 rw[zb7,hb]
 show(if p<q then q+x.length else q)+zbm e.by_ ((ins p x l).drop (if p<q then q+x.length else q))=_
 rw[zfl ((hm.ins hx p).drop _),e1]
 rfl
theorem cnt_nil(seen by_:Int):cnt [] seen by_=0:=rfl
theorem zj2(d:Dd)(number:Int):∀(a b:List Ch) (k:Int),zby d number k (a++b)=zby d number k a++zby d number (k+cnt a d.seen d.by_) b
 |[],b,k=>by rw[cnt_nil,Int.add_zero];rfl
 |x::a,b,k=>by
  rw[List.cons_append,zau,zau,zj2 d number a b,zt3,List.cons_append]
  congr 3
  unfold nx
  split<;>omega
theorem zmv(d:Dd)(number:Int):∀(a:List Ch) (k:Int),(∀y∈a,za7 d.seen d.by_ y=false)->zby d number k a=a
 |[],k,_=>rfl
 |x::a,k,h=>by
  have hx:=h x (by simp)
  rw[zau,zmv d number a _ (fun y hy=>h y (by simp[hy])),tk,if_neg (fun e=>by rw[hx]at e;exact Bool.noConfusion e.1)]
theorem qc1(h:∀y∈a,za7 seen by_ y=false):cnt a seen by_=0:=by
 rw[<-zix,qcn h];rfl
theorem ztp(hp:p<=l.length)(hs:∀y∈x,za7 d.seen d.by_ y=false):zby d number 0 (ins p x l)=ins p x (zby d number 0 l):=by
 have e:=List.take_append_drop p l
 conv=>rhs;rw[<-e]
 rw[zj2,zr8 (by rw[zgh,List.length_take];omega),ins,zj2,zj2,zmv d number x _ hs,qc1 hs,Int.add_zero]
theorem zmo{e:Dd}{number seen v:Int}(hw:wrB e.by_=true)(hv:v≠e.by_)(hn:seen<number\/number=za3):∀(l:List Ch) (k:Int) (n:Nat),zaa seen v n (zby e number k l)=zaa seen v n l
 |l,k,0=>by rw[zek,zek]
 |[],k,n+1=>rfl
 |x::r,k,n+1=>by
  rw[zau,zaa,zaa,zyn hw hv hn,zmo hw hv hn r _ n,zmo hw hv hn r _ (n+1)]
theorem zl2(e:Dd)(number k:Int)(x:Ch):(tk e number k x).inn=x.inn/\(tk e number k x).by_=x.by_/\(tk e number k x).c=x.c/\(tk e number k x).no=x.no/\(tk e number k x).k=x.k:=by
 unfold tk
 split<;>exact⟨rfl,rfl,rfl,rfl,rfl⟩
theorem zyz{e:Dd}{number v:Int}:∀(l:List Ch) (k:Int),zbm v (zby e number k l)=zbm v l
 |[],k=>rfl
 |x::r,k=>by
  rw[zau,zbm,zbm,zyz r,(zl2 e number k x).1,(zl2 e number k x).2.1]
theorem qan(e:Dd)(number:Int)(l:List Ch)(p:Nat)(k:Int):∃j,(zby e number k l).drop p=zby e number j (l.drop p):=by
 have h:=List.take_append_drop p l
 refine⟨k+cnt (l.take p) e.seen e.by_,?_⟩
 by_cases hp:p<=l.length
 ·conv=>lhs;rw[<-h,zj2]
  rw[List.drop_left' (by rw[zgh,List.length_take];omega)]
 rw[List.drop_eq_nil_of_le (by rw[zgh];omega),List.drop_eq_nil_of_le (by omega)]
 rfl
theorem zza{l:List Ch}{d e:Dd}{number:Int}(hw:wrB e.by_=true)(hv:d.by_≠e.by_)(hn:d.seen<number\/number=za3):zb7 (zby e number 0 l) d=zb7 l d:=by
 unfold zb7
 rw[zmo hw hv hn]
 cases zaa d.seen d.by_ d.at_.toNat l with
 |none=>rfl
 |some p=>
  obtain⟨j,hj⟩:=qan e number l p 0
  show p+zbm d.by_ ((zby e number 0 l).drop p)=p+zbm d.by_ (l.drop p)
  rw[hj,zyz]
theorem ze3(o:Int):zal za3 o=o:=by
 rw[zal,if_neg (fun h=>h.1 rfl)]
theorem qb4(a b n:Int)(x:Ch):zex a n (zex b za3 x)=zex b za3 (zex a n x):=by
 simp only[zex,ze3,Ch.mk.injEq,true_and]
 omega
theorem zqo{d e:Dd}{n:Int}(hd:wrB d.by_=true)(he:wrB e.by_=true)(hne:d.by_≠e.by_)(hn:e.seen<n):∀(l:List Ch) (j k:Int),
 zby d n k (zby e za3 j l)=zby e za3 j (zby d n k l)
 |[],j,k=>rfl
 |x::r,j,k=>by
  have s1:za7 d.seen d.by_ (tk e za3 j x)=za7 d.seen d.by_ x:=zyn he hne (.inr rfl)
  have s2:za7 e.seen e.by_ (tk d n k x)=za7 e.seen e.by_ x:=zyn hd (Ne.symm hne) (.inl hn)
  rw[zau,zau,zau,zau]
  have n1:nx d k (tk e za3 j x)=nx d k x:=by unfold nx;rw[s1]
  have n2:nx e j (tk d n k x)=nx e j x:=by unfold nx;rw[s2]
  rw[n1,n2,zqo hd he hne hn r]
  congr 1
  rw[tk,s1]
  conv=>rhs;rw[tk,s2]
  by_cases c1:za7 d.seen d.by_ x=true/\d.at_<=k/\k<d.at_+d.many
  ·rw[if_pos c1]
   by_cases c2:za7 e.seen e.by_ x=true/\e.at_<=j/\j<e.at_+e.many
   ·rw[if_pos c2,tk,if_pos c2,tk,if_pos c1,qb4]
   rw[if_neg c2,tk,if_neg c2,tk,if_pos c1]
  rw[if_neg c1]
  by_cases c2:za7 e.seen e.by_ x=true/\e.at_<=j/\j<e.at_+e.many
  ·rw[if_pos c2,tk,if_pos c2,tk,if_neg c1]
  rw[if_neg c2,tk,if_neg c2,tk,if_neg c1]
theorem qg2(hd:wrB d.by_=true)(he:wrB e.by_=true)(hne:d.by_≠e.by_)(hm:ziv e.by_ l)(sd:d.seen<n)(se:e.seen<n)(ho:n<za3)
 (hnd:d.at_<=cnt l d.seen d.by_) (hne':e.at_<=cnt l e.seen e.by_):doL (doL l e za3) d n=doL (doL l d n) e za3:=by
 by_cases kd:d.kind=1
 ·by_cases ke:e.kind=1
  ·obtain⟨_,_,_,_,pd⟩:=ze8 hnd
   obtain⟨_,_,_,_,pe⟩:=ze8 hne'
   have h1:zb7 (ins (zb7 l e) (zez e za3) l) d=if zb7 l d<zb7 l e then zb7 l d else zb7 l d+(zez e za3).length:=
    zwv pe hnd (zld (Ne.symm hne) (by omega)) (fun y hy=>⟨(zco hy).1,by rw[(zco hy).2.1];exact Ne.symm hne⟩)
   have h2:zb7 (ins (zb7 l d) (zez d n) l) e=if zb7 l d<zb7 l e then zb7 l e+(zez d n).length else zb7 l e:=
    qef pd hne' hm (zld hne se) (fun y hy h=>absurd ((zco hy).1.symm.trans h) (by omega))
   rw[zcc ke,zcc kd,zcc kd,zcc ke,h1,h2]
   by_cases c:zb7 l d<zb7 l e
   ·rw[if_pos c,if_pos c,zzs (by omega) pe]
   rw[if_neg c,if_neg c,zzs (by omega) pd]
  obtain⟨_,_,_,_,pd⟩:=ze8 hnd
  rw[zbl ke,zcc kd,zcc kd,zbl ke,zza he hne (.inr rfl),ztp pd (zld hne se)]
 by_cases ke:e.kind=1
 ·obtain⟨_,_,_,_,pe⟩:=ze8 hne'
  rw[zcc ke,zbl kd,zbl kd,zcc ke,zza hd (Ne.symm hne) (.inl se),ztp pe (zld (Ne.symm hne) (by omega))]
 rw[zbl ke,zbl kd,zbl kd,zbl ke,zqo hd he hne se]
theorem doC_of(hc:za9 d=0)(hn:d.at_+d.many<=cnt l d.seen d.by_)(hl:l.length+d.text.size<=200)(h1:1<=number):doC l d number=0:=by
 have hm:zha l d=0:=by
  rw[zha,if_neg (fun h=>h hc),if_neg (by omega),if_neg (by omega)]
 rw[doC,if_neg (fun h=>h hm),if_neg (by omega)]
theorem vw_do(hw:wrB e.by_=true)(hv:v≠e.by_)(hn:seen<number):vw (doL l e number) seen v=vw l seen v:=doL_far hw hv hn
theorem qgj(hw:wrB e.by_=true)(hv:v≠e.by_)(hn:seen<number):cnt (doL l e number) seen v=cnt l seen v:=by
 rw[<-zix,<-zix,vw_do hw hv hn]
theorem zja(h:ziv me l)(he:number=za3->e.by_=me):ziv me (doL l e number):=by
 by_cases ke:e.kind=1
 ·rw[zcc ke]
  exact h.ins (fun y hy hi=>by rw[(zco hy).2.1];exact he ((zco hy).1.symm.trans hi)) _
 rw[zbl ke]
 intro y hy hi
 obtain⟨x,hx,hxy⟩:=zfk hy
 rcases hxy with rfl|⟨_,rfl⟩
 ·exact h y hx hi
 exact h x hx hi
def zaj:List Ch->List Dd->List Ch
 |l,[]=>l
 |l,e::es=>zaj (doL l e za3) es
def okTop:List Ch->List Dd->Prop
 |_,[]=>True
 |l,e::es=>doC l e za3=0/\okTop (doL l e za3) es
theorem zjt:∀(es:List Dd) (l:List Ch) (e:Dd),zaj l (es++[e])=doL (zaj l es) e za3
 |[],_,_=>rfl
 |_::es,_,e=>zjt es _ e
theorem zk2{least seen by_:Int}(hs:least<=seen):∀(l:List Ch) (n p:Nat),zaa seen by_ n l=some p->zaa seen by_ n (ofL least l)=some (ofL least (l.take p)).length
 |l,0,p,h=>by
  rw[zek]at h⊢
  obtain rfl:=Option.some.inj h
  rfl
 |[],n+1,p,h=>by cases h
 |x::r,n+1,p,h=>by
  rw[zaa]at h
  have ec:∀t:List Ch,ofL least (x::t)=if ze4 least x=true then ofL least t else x::ofL least t:=fun t=>by
   cases hd:ze4 least x<;>simp[ofL,hd]
  by_cases hx:za7 seen by_ x=true
  ·rw[if_pos hx]at h
   have hd:¬ze4 least x=true:=fun hd=>by rw[zkv hs hd]at hx;exact Bool.noConfusion hx
   cases hb:zaa seen by_ n r with
   |none=>rw[hb]at h;cases h
   |some q=>
    rw[hb]at h
    obtain rfl:=Option.some.inj h
    rw[ec,if_neg hd,zaa,if_pos hx,zk2 hs r n q hb,List.take_succ_cons,ec,if_neg hd]
    rfl
  rw[if_neg hx]at h
  cases hb:zaa seen by_ (n+1) r with
  |none=>rw[hb]at h;cases h
  |some q=>
   rw[hb]at h
   obtain rfl:=Option.some.inj h
   rw[List.take_succ_cons,ec,ec]
   by_cases hd:ze4 least x=true
   ·rw[if_pos hd,if_pos hd,zk2 hs r (n+1) q hb]
   rw[if_neg hd,if_neg hd,zaa,if_neg hx,zk2 hs r (n+1) q hb]
   rfl
theorem ziv.of(h:ziv me l)(least:Int):ziv me (ofL least l):=fun x hx=>h x ((List.mem_filter.1 hx).1)
theorem tk_done{k:Int}{x:Ch}(hn:number=za3\/least<number)(h1:number≠0):ze4 least (tk e number k x)=ze4 least x:=by
 unfold tk
 split
 ·show decide (zal number x.out≠0/\zal number x.out<=least)=decide (x.out≠0/\x.out<=least)
  unfold zal
  split
  ·rename_i h
   rw[decide_eq_decide]
   constructor
   ·intro g;omega
   intro g;omega
  rfl
 rfl
theorem zyu{e:Dd}{least number:Int}(hs:least<=e.seen)(hn:number=za3\/least<number)(h1:number≠0):∀(l:List Ch) (k:Int),ofL least (zby e number k l)=zby e number k (ofL least l)
 |[],k=>rfl
 |x::r,k=>by
  have ec:∀(y:Ch) (t:List Ch),ofL least (y::t)=if ze4 least y=true then ofL least t else y::ofL least t:=fun y t=>by
   cases hd:ze4 least y<;>simp[ofL,hd]
  rw[zau,ec,ec,tk_done hn h1,zyu hs hn h1 r]
  by_cases hd:ze4 least x=true
  ·have hx:=zkv (by_:=e.by_) hs hd
   rw[if_pos hd,if_pos hd,nx,if_neg (by rw[hx];simp)]
  rw[if_neg hd,if_neg hd,zau]
theorem ofL_all(h:∀y∈x,y.out=0):ofL least x=x:=by
 unfold ofL
 rw[List.filter_eq_self]
 intro y hy
 simp[ze4,h y hy]
theorem do_of(hs:least<=e.seen)(hn:number=za3\/least<number)(h1:number≠0)(hm:ziv e.by_ l)(ha:e.at_<=cnt l e.seen e.by_):ofL least (doL l e number)=doL (ofL least l) e number:=by
 by_cases ke:e.kind=1
 ·obtain⟨q,hq,hql,eq,_⟩:=ze8 ha
  rw[zfl (hm.drop q),Nat.add_zero]at eq
  have e2:zb7 (ofL least l) e=(ofL least (l.take q)).length:=by
   rw[zb7,zk2 hs l _ q hq]
   show _+zbm e.by_ _=_
   rw[zfl ((hm.of least).drop _),Nat.add_zero]
  rw[zcc ke,zcc ke,e2,eq,of_split least l q,zr8 rfl,ins,zsc,zsc,ofL_all (fun y hy=>(zco hy).2.2.1)]
 rw[zbl ke,zbl ke,zyu hs hn h1]
theorem qg6(hs:least<=e.seen)(h:doC l e number=0):doC (ofL least l) e number=0:=by
 obtain⟨h1,h2,h3,h4⟩:=zc0 h
 have:=zze least l
 exact doC_of h1 (by rw[qgi _ hs];exact h2) (by omega) h4
theorem of_less{less more:Int}(h:less<=more)(l:List Ch):ofL less (ofL more l)=ofL more l:=by
 unfold ofL
 rw[List.filter_eq_self]
 intro x hx
 have h1:=(List.mem_filter.1 hx).2
 simp[ze4]at h1⊢
 omega
structure Ackd(n me:Int)(x y:Ch):Prop where
 c:y.c=x.c
 by_:y.by_=x.by_
 no:y.no=x.no
 k:y.k=x.k
 gone:y.gone=x.gone
 inn:y.inn=x.inn\/(x.inn=za3/\y.inn=n/\x.by_=me)
 out:y.out=x.out\/(y.out=n/\(x.out=0\/n<x.out)/\zce x.gone me=true)
theorem Ackd.refl(n me:Int)(x:Ch):Ackd n me x x:=⟨rfl,rfl,rfl,rfl,rfl,.inl rfl,.inl rfl⟩
def zfz(n me:Int):List Ch->List Ch->Prop
 |[],[]=>True
 |x::a,y::b=>Ackd n me x y/\zfz n me a b
 |_,_=>False
theorem zfz.refl(n me:Int):∀l,zfz n me l l
 |[]=>trivial
 |x::l=>⟨Ackd.refl n me x,zfz.refl n me l⟩
theorem zfz.len{n me:Int}:∀{a b:List Ch},zfz n me a b->a.length=b.length
 |[],[],_=>rfl
 |_::_,_::_,h=>by rw[List.length_cons,List.length_cons,h.2.len]
theorem zfz.app{n me:Int}:∀{a b c d:List Ch},zfz n me a b->zfz n me c d->zfz n me (a++c) (b++d)
 |[],[],_,_,_,h=>h
 |_::_,_::_,_,_,h,h'=>⟨h.1,h.2.app h'⟩
theorem zfz.take{n me:Int}:∀{a b:List Ch} (p:Nat),zfz n me a b->zfz n me (a.take p) (b.take p)
 |_,_,0,_=>by rw[List.take_zero,List.take_zero];trivial
 |[],[],_+1,_=>trivial
 |_::_,_::_,p+1,h=>⟨h.1,h.2.take p⟩
theorem zfz.drop{n me:Int}:∀{a b:List Ch} (p:Nat),zfz n me a b->zfz n me (a.drop p) (b.drop p)
 |_,_,0,h=>h
 |[],[],_+1,_=>trivial
 |_::_,_::_,p+1,h=>h.2.drop p
theorem zfz.ins{n me:Int}{a b x y:List Ch}(p:Nat)(h:zfz n me a b)(h':zfz n me x y):zfz n me (Go.Proofs.YtcbnnfeelhlapadGreatDoor.ins p x a) (Go.Proofs.YtcbnnfeelhlapadGreatDoor.ins p y b):=(h.take p).app (h'.app (h.drop p))
theorem Ackd.sees{x:Ch}(h:Ackd n me x y)(_hn:seen<n):za7 seen me y=za7 seen me x:=by
 obtain⟨c,b,no,k,g,hi,ho⟩:=h
 have e1:inB y.inn y.by_ seen me=inB x.inn x.by_ seen me:=by
  rw[b]
  rcases hi with hi|⟨_,_,hb⟩
  ·rw[hi]
  simp[inB,hb]
 have e2:zmz y.out y.gone seen me=zmz x.out x.gone seen me:=by
  rw[g]
  rcases ho with ho|⟨_,_,ht⟩
  ·rw[ho]
  simp[zmz,ht]
 unfold za7 zi7
 rw[e1,e2]
theorem zfz.behind{n me seen:Int}(hn:seen<n):∀{a b:List Ch} (m:Nat),zfz n me a b->zaa seen me m b=zaa seen me m a
 |_,_,0,_=>by rw[zek,zek]
 |[],[],_+1,_=>rfl
 |x::a,y::b,m+1,h=>by
  rw[zaa,zaa,h.1.sees hn,h.2.behind hn m,h.2.behind hn (m+1)]
theorem zfz.cnt{n me seen:Int}(hn:seen<n):∀{a b:List Ch},zfz n me a b->Go.Proofs.YtcbnnfeelhlapadGreatDoor.cnt b seen me=Go.Proofs.YtcbnnfeelhlapadGreatDoor.cnt a seen me
 |[],[],_=>rfl
 |x::a,y::b,h=>by rw[zt3,zt3,h.1.sees hn,h.2.cnt hn]
theorem zfz.mine{n me:Int}(hn:n<za3):∀{a b:List Ch},zfz n me a b->ziv me a->ziv me b
 |[],[],_,_=>fun _ hx=>absurd hx (by simp)
 |x::a,y::b,h,hm=>by
  intro z hz hi
  rcases List.mem_cons.1 hz with rfl|hz
  ·rw[h.1.by_]
   rcases h.1.inn with e|⟨_,e,_⟩
   ·exact hm x (by simp) (e▸hi)
   omega
  exact h.2.mine hn (fun w hw=>hm w (by simp[hw])) z hz hi
theorem zfz.tk{n:Int}{e:Dd}(hn:e.seen<n):∀{a b:List Ch} (k:Int),zfz n e.by_ a b->zfz n e.by_ (zby e za3 k a) (zby e za3 k b)
 |[],[],_,_=>trivial
 |x::a,y::b,k,h=>by
  rw[zau,zau]
  have hs:=h.1.sees hn
  have hx:nx e k y=nx e k x:=by unfold nx;rw[hs]
  rw[hx]
  refine⟨?_,h.2.tk hn _⟩
  unfold Go.Proofs.YtcbnnfeelhlapadGreatDoor.tk
  rw[hs]
  by_cases c:za7 e.seen e.by_ x=true/\e.at_<=k/\k<e.at_+e.many
  ·rw[if_pos c,if_pos c]
   have ht:=ze1 c.1
   obtain⟨h1,h2,h3,h4,h5,h6,h7⟩:=h.1
   refine⟨h1,h2,h3,h4,?_,h6,.inl ?_⟩
   ·show y.gone+_=x.gone+_
    rw[h5]
   show zal za3 y.out=zal za3 x.out
   rw[ze3,ze3]
   rcases h7 with h7|⟨_,_,h7⟩
   ·exact h7
   rw[ht]at h7;exact Bool.noConfusion h7
  rw[if_neg c,if_neg c];exact h.1
theorem zfz.do_{n:Int}{e:Dd}{a b:List Ch}(hn:e.seen<n)(ho:n<za3)(hm:ziv e.by_ a)(h:zfz n e.by_ a b):zfz n e.by_ (doL a e za3) (doL b e za3):=by
 by_cases ke:e.kind=1
 ·have hp:zb7 b e=zb7 a e:=by
   unfold zb7
   rw[h.behind hn]
   cases zaa e.seen e.by_ e.at_.toNat a with
   |none=>rfl
   |some p=>
    show p+zbm e.by_ (b.drop p)=p+zbm e.by_ (a.drop p)
    rw[zfl (hm.drop p),zfl ((h.mine ho hm).drop p)]
  rw[zcc ke,zcc ke,hp]
  exact h.ins _ (zfz.refl _ _ _)
 rw[zbl ke,zbl ke]
 exact h.tk hn 0
theorem qgz(d:Dd)(n:Int):∀(k:Nat) (t:List UInt8),zfz n d.by_ (zbb d za3 k t) (zbb d n k t)
 |_,[]=>trivial
 |k,_::t=>⟨⟨rfl,rfl,rfl,rfl,rfl,.inr ⟨rfl,rfl,rfl⟩,.inl rfl⟩,qgz d n (k+1) t⟩
theorem qa3{d:Dd}{n:Int}(hw:wrB d.by_=true)(ho:n≠za3):∀(l:List Ch) (k:Int),zfz n d.by_ (zby d za3 k l) (zby d n k l)
 |[],_=>trivial
 |x::r,k=>by
  rw[zau,zau]
  refine⟨?_,qa3 hw ho r _⟩
  unfold tk
  by_cases c:za7 d.seen d.by_ x=true/\d.at_<=k/\k<d.at_+d.many
  ·rw[if_pos c,if_pos c]
   refine⟨rfl,rfl,rfl,rfl,rfl,.inl rfl,?_⟩
   show zal n x.out=zal za3 x.out\/(zal n x.out=n/\(zal za3 x.out=0\/n<zal za3 x.out)/\zce (x.gone+2 ^ d.by_.toNat) d.by_=true)
   rw[ze3]
   unfold zal
   by_cases hc:x.out=0\/n<x.out
   ·rw[if_pos ⟨ho,hc⟩]
    refine .inr ⟨rfl,hc,?_⟩
    rw[zyl hw (ze1 c.1)]
    simp
   rw[if_neg (fun e=>hc e.2)]
   exact .inl rfl
  rw[if_neg c,if_neg c];exact Ackd.refl _ _ _
theorem qh0(hw:wrB d.by_=true)(ho:n≠za3):zfz n d.by_ (doL l d za3) (doL l d n):=by
 by_cases kd:d.kind=1
 ·rw[zcc kd,zcc kd]
  exact(zfz.refl _ _ _).ins _ (qgz d n 0 _)
 rw[zbl kd,zbl kd]
 exact qa3 hw ho l 0
def Upto(me s:Int)(l:List Ch):Prop:=∀x∈l,(x.inn<=s\/x.by_=me)/\x.out<=s
theorem upto_do{s:Int}(h:Upto me s l)(hb:e.by_=me)(h0:0<=s):Upto me s (doL l e za3):=by
 by_cases ke:e.kind=1
 ·rw[zcc ke]
  intro y hy
  rcases zxb.1 hy with hy|hy
  ·obtain⟨_,p2,p3,_⟩:=zco hy
   exact⟨.inr (p2.trans hb),by omega⟩
  exact h y hy
 rw[zbl ke]
 intro y hy
 obtain⟨x,hx,hxy⟩:=zfk hy
 rcases hxy with rfl|⟨_,rfl⟩
 ·exact h y hx
 refine⟨(h x hx).1,?_⟩
 show zal za3 x.out<=s
 rw[ze3];exact(h x hx).2
theorem zyh{me s:Int}(h0:0<=s):∀(es:List Dd) {l:List Ch},Upto me s l->(∀e∈es,e.by_=me)->Upto me s (zaj l es)
 |[],_,h,_=>h
 |e::es,_,h,he=>zyh h0 es (upto_do h (he e (by simp)) h0) (fun x hx=>he x (by simp[hx]))
theorem vw_ack{me s:Int}:∀{a b:List Ch},zfz (s+1) me a b->Upto me s a->vw b (s+1) me=vw a s me
 |[],[],_,_=>rfl
 |x::a,y::b,h,hu=>by
  have ih:=vw_ack h.2 (fun z hz=>hu z (by simp[hz]))
  obtain⟨hi,ho⟩:=hu x (by simp)
  obtain⟨c,b',_,_,g,gi,go⟩:=h.1
  have e1:inB y.inn y.by_ (s+1) me=true:=by
   rw[inB,decide_eq_true_eq,b']
   rcases hi with hi|hi
   ·rcases gi with gi|⟨_,gi,_⟩
    ·exact .inl (by omega)
    exact .inl (by omega)
   exact .inr hi
  have e2:inB x.inn x.by_ s me=true:=by
   rw[inB,decide_eq_true_eq];exact hi
  have e3:zmz y.out y.gone (s+1) me=zmz x.out x.gone s me:=by
   rw[g]
   rcases go with go|⟨_,_,ht⟩
   ·have:decide (x.out≠0/\x.out<=s+1)=decide (x.out≠0/\x.out<=s):=by
     rw[decide_eq_decide]
     constructor<;>intro hh<;>exact⟨hh.1,by omega⟩
    rw[go,zmz,zmz,this]
   simp[zmz,ht]
  have hs:za7 (s+1) me y=za7 s me x:=by
   unfold za7 zi7
   rw[e1,e2,e3]
  cases hx:za7 s me x
  ·rw[zcw _ (hs.trans hx),zcw _ hx,ih]
  rw[zc5 _ (hs.trans hx),zc5 _ hx,ih,c]
variable {W w:World} {seen by_ nn met:Int}
structure qh3(W:World)(seen by_ nn met:Int)(w:World):Prop where
 below:Below W.heap.size W w
 size:W.heap.size+4<=w.heap.size
 c0:w.cell? ⟨W.heap.size,0,none⟩=some (.int .i64 seen)
 c1:w.cell? ⟨W.heap.size+1,0,none⟩=some (.int .i64 by_)
 c2:w.cell? ⟨W.heap.size+2,0,none⟩=some (.int .i64 nn)
 c3:w.cell? ⟨W.heap.size+3,0,none⟩=some (.int .i64 met)
 f3:w.frozen? ⟨W.heap.size+3,0,none⟩=false
theorem qh3.after{w':World}(h:qh3 W seen by_ nn met w)(hb:Below w.heap.size w w'):qh3 W seen by_ nn met w':=by
 have hs:=h.size
 obtain⟨hc,hf⟩:=zdp hb
 refine⟨h.below.trans (hb.mono (by omega)),Nat.le_trans hs hb.size,?_,?_,?_,?_,?_⟩
 ·rw[hc _ _ (by omega)];exact h.c0
 ·rw[hc _ _ (by omega)];exact h.c1
 ·rw[hc _ _ (by omega)];exact h.c2
 ·rw[hc _ _ (by omega)];exact h.c3
 rw[hf _ _ (by omega)];exact h.f3
theorem qh3.store(h:qh3 W seen by_ nn met w)(m:Int):qh3 W seen by_ nn m (w.setCell ⟨W.heap.size+3,0,none⟩ (.int .i64 m)):=by
 have hs:=h.size
 refine⟨h.below.setCell (by simp) _,by simpa [World.setCell]using hs,?_,?_,?_,?_,?_⟩
 ·rw[World.cell?_of_block (w:=w) (Below.heap_setCell _ _ _ _ (by simp))];exact h.c0
 ·rw[World.cell?_of_block (w:=w) (Below.heap_setCell _ _ _ _ (by simp))];exact h.c1
 ·rw[World.cell?_of_block (w:=w) (Below.heap_setCell _ _ _ _ (by simp))];exact h.c2
 ·have:=h.c3
  simp[go_sem,this]
 have:=h.f3
 simp[go_sem,this]
def qds(seen by_:Int)(x:Ch)(met:Int):Int:=if za7 seen by_ x=true then met+1 else met
def qdt(seen by_:Int)(x:Ch)(met nn:Int):Bool:=za7 seen by_ x&&(met+1==nn)
theorem zy6(x:Ch)(W:World)(seen by_ nn met:Int)(w:World)(h:qh3 W seen by_ nn met w)(h0:0<=met)(h1:met<=281474976710656):
 Calls Tryz.prog 238 (#[chV x]++ #[.pointer (some ⟨W.heap.size,0,none⟩),.pointer (some ⟨W.heap.size+1,0,none⟩),.pointer (some ⟨W.heap.size+3,0,none⟩),.pointer (some ⟨W.heap.size+2,0,none⟩)]) w
  fun e w'=>e= .returned (.bool (qdt seen by_ x met nn))/\qh3 W seen by_ nn (qds seen by_ x met) w':=by
 have H:=hid h
 have hs:=h.size
 have c0:∀o,(w.alloc o).cell? ⟨W.heap.size,0,none⟩=some (.int .i64 seen):=fun o=>by rw[World.cell?_alloc_past _ _ _ (show W.heap.size<w.heap.size by omega)];exact h.c0
 have c1:∀o,(w.alloc o).cell? ⟨W.heap.size+1,0,none⟩=some (.int .i64 by_):=fun o=>by rw[World.cell?_alloc_past _ _ _ (show W.heap.size+1<w.heap.size by omega)];exact h.c1
 clear h
 go_enter Tryz.func238,Tryz.ntmps238
 go_wp2_with fail
 refine(zjr x _ _ _).mono ?_
 rintro e w1 ⟨rfl,hb1⟩
 have hb2:Below w.heap.size w w1:=bla ((Below.refl _ _).alloc (Nat.le_refl _) _) hb1
 have H1:=hid (H.out.after hb2)
 have g2:=H1.out.c2
 have g3:=H1.out.c3
 have gf:=H1.out.f3
 clear c0 c1 hb1 hb2 H
 cases hc:zi7 x.by_ x.inn x.out x.gone seen by_
 ·go_wp2
  go_ret
  have hx:za7 seen by_ x=false:=hc
  exact⟨zbf (by simp[qdt,hx]),by simp only[qds,hx];exact H1.out⟩
 have H2:Hid (qh3 W seen by_ nn (met+1) (w1.setCell ⟨W.heap.size+3,0,none⟩ (.int .i64 (met+1)))):=H1.out.store _
 have k2:=H2.out.c2
 have k3:=H2.out.c3
 go_wp2
 go_ret
 have hx:za7 seen by_ x=true:=hc
 exact⟨zbf (by simp[qdt,hx]),by simp only[qds,hx];exact H2.out⟩
def zuz(l:List Ch)(seen by_ nn:Int)(k:Nat):Bool:=
 match l[k]? with
 |some x=>qdt seen by_ x (cnt (l.take k) seen by_) nn
 |none=>false
def zta(l:List Ch)(seen by_ nn r:Int):Prop:=
 (nn=0/\r=0)\/(nn≠0/\((∃k:Nat,k<l.length/\(∀j,j<k->zuz l seen by_ nn j=false)/\zuz l seen by_ nn k=true/\r=k+1)\/((∀j,j<l.length->zuz l seen by_ nn j=false)/\r= -1)))
theorem qaq(l:List Ch)(seen by_:Int)(k:Nat)(h:k<l.length):qds seen by_ l[k] (cnt (l.take k) seen by_)=cnt (l.take (k+1)) seen by_:=by
 rw[zcf l k h,zih]
 unfold qds
 split<;>omega
theorem zy4(W:World)(b off:Nat)(l:List Ch)(seen by_ nn:Int)(hl:l.length<=281474976710656)(hr:Row W b off l):
 Step 238 #[.pointer (some ⟨W.heap.size,0,none⟩),.pointer (some ⟨W.heap.size+1,0,none⟩),.pointer (some ⟨W.heap.size+3,0,none⟩),.pointer (some ⟨W.heap.size+2,0,none⟩)] b off l
  (fun k w=>qh3 W seen by_ nn (cnt (l.take k) seen by_) w) (zuz l seen by_ nn):=by
 refine⟨fun k w h=>hr.below h.below,fun k hk w h=> ?_⟩
 have hb:=zn9 (l.take k) seen by_
 have hle:(l.take k).length<=l.length:=by simp;omega
 refine(zy6 l[k] W seen by_ nn (cnt (l.take k) seen by_) w h hb.1 (by omega)).mono ?_
 rintro e w' ⟨rfl,h'⟩
 rw[qaq l seen by_ k hk]at h'
 refine⟨zbf ?_,h'⟩
 unfold zuz
 rw[List.getElem?_eq_getElem hk]
theorem qc6(w:World)(seen by_ nn:Int):qh3 w seen by_ nn 0 ((((w.alloc (.cells #[.int .i64 seen] 3)).alloc (.cells #[.int .i64 by_] 3)).alloc (.cells #[.int .i64 nn] 3)).alloc (.cells #[.int .i64 0] 3)):=by
 refine⟨?_,by simp,?_,?_,?_,?_,?_⟩
 ·exact((((Below.refl _ _).alloc (Nat.le_refl _) _).alloc (by simp) _).alloc (by simp;omega) _).alloc (by simp;omega) _
 ·simp[go_sem,World.cell?_alloc_past]
 ·simp[go_sem,World.cell?_alloc_past]
 ·simp[go_sem,World.cell?_alloc_past]
 ·simp[go_sem]
 simp[go_sem]
theorem zy2:∀args w,Sem.run Tryz.prog (callFunc 238 args) w= .ok (.enter 238 args) w:=fun _ _=>by kernel_rfl
theorem zy5(b off len cap:Nat)(l:List Ch)(seen by_ n:Int)(w:World)(hl:l.length=len)(hm:len<=281474976710656)(hr:Row w b off l):
 Calls Tryz.prog 232 #[.slice (some ⟨b,off,none⟩) len cap,.int .i64 seen,.int .i64 by_,.int .i64 n] w fun e w'=>
  ∃r,e= .returned (.int .i64 r)/\zta l seen by_ n r/\Below w.heap.size w w':=by
 by_cases h0:n=0
 ·have h0':(n==0)=true:=by simp[h0]
  have H0:=hid h0
  clear h0
  go_enter Tryz.func232,Tryz.ntmps232
  go_wp2
  go_ret
  exact⟨0,rfl,.inl ⟨H0.out,rfl⟩,(((Below.refl _ _).alloc (Nat.le_refl _) _).alloc (by simp) _).alloc (by simp;omega) _⟩
 have h0':(n==0)=false:=by simp[h0]
 have H0:=hid h0
 have HL:=hid hl
 have HS:Hid _:=qc6 w seen by_ n
 have HT:Hid _:=zy4 w b off l seen by_ n (by omega) hr
 clear h0 hl hr
 have hmf:∀(fn:Fn) (first cap:Array Value) (w:World),(Instr.makeFunc fn first cap).run Tryz.prog w= .ok (.func fn first cap) w:=fun _ _ _ _=>rfl
 go_enter Tryz.func232,Tryz.ntmps232
 go_wp2_with fail
 rw[show w.heap.size+1+1+1=w.heap.size+3 from rfl,show w.heap.size+1+1=w.heap.size+2 from rfl]
 refine(zfe 238 #[.pointer (some ⟨w.heap.size,0,none⟩),.pointer (some ⟨w.heap.size+1,0,none⟩),.pointer (some ⟨w.heap.size+3,0,none⟩),.pointer (some ⟨w.heap.size+2,0,none⟩)] b off len cap l _ _ _ HL.out hm zy2 HT.out HS.out).mono ?_
 intro e w1 hres
 have H1:Hid _:=hres
 clear hres HT HS
 rcases H1.out with⟨k,hk,hno,hyes,rfl,hI⟩|⟨hno,rfl,hI⟩
 ·have H2:Hid _:=hno
  have H3:Hid _:=hyes
  have H4:Hid _:=hI
  clear H1 hno hyes hI
  go_wp2
  go_ret
  exact⟨(k:Int)+1,rfl,.inr ⟨H0.out,.inl ⟨k,by rw[HL.out];exact hk,H2.out,H3.out,rfl⟩⟩,H4.out.below⟩
 have H2:Hid _:=hno
 have H4:Hid _:=hI
 clear H1 hno hI
 go_wp2
 go_ret
 exact⟨-1,rfl,.inr ⟨H0.out,.inr ⟨by rw[HL.out];exact H2.out,rfl⟩⟩,H4.out.below⟩
theorem zga{w:World}{base:Nat}{v:Value}{zs:List Int}(h:w.ownsRow base 5 1 v zs.length (zf0 zs)):
 (convert 42 9 v).run Tryz.prog w= .ok (.string (strOfNums zs)) w:=by
 obtain⟨h1,h2⟩:=h
 rcases h2 with⟨rfl,hn⟩|⟨g,cap,cur,rfl,hg,hh,hle,hm,hsz,hx⟩
 ·obtain rfl:zs=[]:=List.length_eq_zero_iff.1 hn
  rw[run_convert_bytes_nil w 42 5 Tryz.underlying42 Tryz.underlying5 0 0 9 Tryz.underlying9]
  rfl
 refine run_convert_bytes_arg w 42 5 Tryz.underlying42 Tryz.underlying5 g 0 zs.length cap zs rfl ?_ 9 Tryz.underlying9
 intro i hi
 have hown:w.ownsRow base 5 1 (.slice (some ⟨g,0,none⟩) zs.length cap) zs.length (zf0 zs):=⟨h1,.inr ⟨g,cap,cur,rfl,hg,hh,hle,hm,hsz,hx⟩⟩
 have:=hown.cellAt i (by omega)
 rw[Nat.zero_add,this]
 simp[zf0,List.getElem?_eq_getElem hi,List.getD]
variable {l:List Ch} {seen by_ r:Int}
theorem zxx(a:Option Addr)(cap:Nat)(seen by_:Int)(w:World):
 Calls Tryz.prog 231 #[.slice a 0 cap,.int .i64 seen,.int .i64 by_] w fun e w'=>e= .returned (.int .i64 0)/\Below w.heap.size w w':=by
 go_enter Tryz.func231,Tryz.ntmps231
 go_wp2
 refine wp_loop_rounds 1 ?_
 rw[rounds_succ]
 go_wp2
 go_ret
 exact⟨rfl,Below.refl _ _⟩
theorem zgs(a:Option Addr)(cap:Nat)(f:Value)(w:World):
 Calls Tryz.prog 189 #[.slice a 0 cap,f] w fun e w'=>e= .returned (.int .i64 (-1))/\Below w.heap.size w w':=by
 go_enter Tryz.func189,Tryz.ntmps189
 go_wp2
 refine wp_loop_rounds 1 ?_
 rw[rounds_succ]
 go_wp2
 go_ret
 exact⟨rfl,Below.refl _ _⟩
def zku(n:Int):Int:=if n=0 then 0 else-1
theorem below4(w:World)(o1 o2 o3 o4:Obj):Below w.heap.size w ((((w.alloc o1).alloc o2).alloc o3).alloc o4):=
 ((((Below.refl _ _).alloc (Nat.le_refl _) _).alloc (by simp) _).alloc (by simp;omega) _).alloc (by simp;omega) _
theorem zvs(a:Option Addr)(cap:Nat)(seen by_ n:Int)(w:World):
 Calls Tryz.prog 232 #[.slice a 0 cap,.int .i64 seen,.int .i64 by_,.int .i64 n] w fun e w'=>e= .returned (.int .i64 (zku n))/\Below w.heap.size w w':=by
 by_cases h0:n=0
 ·have h0':(n==0)=true:=by simp[h0]
  have H0:=hid h0
  clear h0
  go_enter Tryz.func232,Tryz.ntmps232
  go_wp2
  go_ret
  exact⟨zae (by simp[zku,H0.out]),(((Below.refl _ _).alloc (Nat.le_refl _) _).alloc (by simp) _).alloc (by simp;omega) _⟩
 have h0':(n==0)=false:=by simp[h0]
 have H0:=hid h0
 clear h0
 have hmf:∀(fn:Fn) (first cap:Array Value) (w:World),(Instr.makeFunc fn first cap).run Tryz.prog w= .ok (.func fn first cap) w:=fun _ _ _ _=>rfl
 go_enter Tryz.func232,Tryz.ntmps232
 go_wp2_with fail
 refine(zgs _ _ _ _).mono ?_
 rintro e w1 ⟨rfl,hb⟩
 have HB:Hid (Below w.heap.size w w1):=bla (below4 w _ _ _ _) hb
 clear hb
 go_wp2
 go_ret
 exact⟨zae (by simp[zku,H0.out]),HB.out⟩
theorem zxz(l:List Ch)(seen by_:Int)(k:Nat):cnt (l.take k) seen by_<=cnt l seen by_:=by
 have h:cnt (l.take k++l.drop k) seen by_=cnt (l.take k) seen by_+cnt (l.drop k) seen by_:=by
  unfold cnt
  rw[List.filter_append,List.length_append]
  omega
 rw[List.take_append_drop]at h
 have:=(zn9 (l.drop k) seen by_).1
 omega
theorem qfl(l:List Ch)(seen by_ nn:Int)(k:Nat)(hk:k<l.length):zuz l seen by_ nn k=true↔za7 seen by_ l[k]=true/\cnt (l.take (k+1)) seen by_=nn:=by
 unfold zuz
 rw[List.getElem?_eq_getElem hk,zcf l k hk,zih]
 simp only[qdt]
 by_cases h:za7 seen by_ l[k]=true
 ·simp[h]
 simp[h]
theorem hit_ex(l:List Ch)(seen by_ nn:Int)(h1:0<nn):∀m,m<=l.length->nn<=cnt (l.take m) seen by_->∃k,k<m/\zuz l seen by_ nn k=true:=by
 intro m
 induction m with
 |zero=>intro _ h;simp[cnt]at h;omega
 |succ m ih=>
  intro hm h
  by_cases hle:nn<=cnt (l.take m) seen by_
  ·obtain⟨k,hk,hh⟩:=ih (by omega) hle
   exact⟨k,by omega,hh⟩
  refine⟨m,by omega,(qfl l seen by_ nn m (by omega)).2 ?_⟩
  have hs:=zih (l.take m) l[m] seen by_
  rw[<-zcf l m (by omega)]at hs
  by_cases hx:za7 seen by_ l[m]=true
  ·rw[if_pos hx]at hs
   exact⟨hx,by omega⟩
  rw[if_neg hx]at hs
  omega
theorem zy3(h:zta l seen by_ 0 r):r=0:=by
 rcases h with⟨_,hr⟩|⟨h,_⟩
 ·exact hr
 exact absurd rfl h
theorem qc7{n:Int}(h:zta l seen by_ n r)(h0:0<n)(hn:n<=cnt l seen by_):
 ∃m:Nat,∃hm:m<l.length,r=m+1/\cnt (l.take (m+1)) seen by_=n/\za7 seen by_ l[m]=true:=by
 rcases h with⟨rfl,_⟩|⟨_,⟨k,hk,_,hyes,hr⟩|⟨hno,_⟩⟩
 ·omega
 ·have h1:=(qfl l seen by_ n k hk).1 hyes
  exact⟨k,hk,hr,h1.2,h1.1⟩
 obtain⟨k,hk,hh⟩:=hit_ex l seen by_ n h0 l.length (Nat.le_refl _) (by rw[List.take_length];exact hn)
 rw[hno k hk]at hh
 cases hh
variable {w:World} {v:Value} {l:List Ch}
def Lst(w:World)(v:Value)(l:List Ch):Prop:=
 ∃(a:Option Addr) (len cap:Nat),v= .slice a len cap/\l.length=len/\len<=cap/\(len=0\/∃b off,a=some ⟨b,off,none⟩/\Row w b off l)
theorem Lst.below{w w':World}{v:Value}{l:List Ch}(h:Lst w v l)(hb:Below w.heap.size w w'):Lst w' v l:=by
 obtain⟨a,len,cap,rfl,h1,h2,h3⟩:=h
 refine⟨a,len,cap,rfl,h1,h2,?_⟩
 rcases h3 with h3|⟨b,off,rfl,hr⟩
 ·exact .inl h3
 exact .inr ⟨b,off,rfl,hr.below hb⟩
theorem lst_nil(w:World):Lst w (.slice none 0 0) []:=⟨none,0,0,rfl,rfl,Nat.le_refl _,.inl rfl⟩
theorem qad(a:Option Addr)(cap:Nat)(seen by_:Int)(w:World):
 Calls Tryz.prog 139 #[.slice a 0 cap,.int .i64 seen,.int .i64 by_] w fun e w'=>e= .returned (.slice none 0 0)/\Below w.heap.size w w':=by
 go_enter Tryz.func139,Tryz.ntmps139
 go_wp2
 refine wp_loop_rounds 1 ?_
 rw[rounds_succ]
 go_wp2
 go_ret
 exact⟨rfl,Below.refl _ _⟩
theorem zy1(a:Option Addr)(cap:Nat)(log:Int)(w:World):
 Calls Tryz.prog 157 #[.slice a 0 cap,.int .i64 log] w fun e w'=>e= .returned (.int .i64 0)/\Below w.heap.size w w':=by
 go_enter Tryz.func157,Tryz.ntmps157
 go_wp2
 refine wp_loop_rounds 1 ?_
 rw[rounds_succ]
 go_wp2
 go_ret
 exact⟨rfl,Below.refl _ _⟩
theorem qgh(h:Lst w v l)(hl:l.length<=1000)(seen by_:Int):
 Calls Tryz.prog 231 #[v,.int .i64 seen,.int .i64 by_] w fun e w'=>e= .returned (.int .i64 (cnt l seen by_))/\Below w.heap.size w w':=by
 obtain⟨a,len,cap,rfl,h1,h2,h3⟩:=h
 rcases h3 with rfl|⟨b,off,rfl,hr⟩
 ·obtain rfl:l=[]:=List.length_eq_zero_iff.1 h1
  exact zxx a cap seen by_ w
 exact qbz b off len cap l seen by_ w h1 (by omega) hr
theorem qgk(h:Lst w v l)(hl:l.length<=1000)(log:Int):
 Calls Tryz.prog 157 #[v,.int .i64 log] w fun e w'=>∃r,e= .returned (.int .i64 r)/\zpt l log r/\Below w.heap.size w w':=by
 obtain⟨a,len,cap,rfl,h1,h2,h3⟩:=h
 rcases h3 with rfl|⟨b,off,rfl,hr⟩
 ·obtain rfl:l=[]:=List.length_eq_zero_iff.1 h1
  refine(zy1 a cap log w).mono ?_
  rintro e w' ⟨rfl,hb⟩
  exact⟨0,rfl,.inr ⟨by decide,.inr ⟨fun j hj=>absurd hj (Nat.not_lt_zero _),rfl⟩⟩,hb⟩
 exact qc3 b off len cap l log w h1 h2 (by omega) hr
theorem zry(a b:List Int):strOfNums (a++b)=strOfNums a++strOfNums b:=by
 cases hs:strOfNums a++strOfNums b with
 |mk d=>
  have h1:d.toList=(strOfNums a).data.toList++(strOfNums b).data.toList:=by
   have:=congrArg (fun s:ByteArray=>s.data.toList) hs
   simpa using this.symm
  have h2:(strOfNums (a++b)).data.toList=d.toList:=by rw[h1,strOfNums_data,strOfNums_data,strOfNums_data,List.map_append]
  cases hd:strOfNums (a++b)with
  |mk d'=>
   rw[hd]at h2
   have:d'=d:=Array.toList_inj.1 h2
   rw[this]
theorem zbn(a:List Int):(strOfNums a).size=a.length:=by
 show(strOfNums a).data.size=a.length
 rw[<-Array.length_toList,strOfNums_data,List.length_map]
variable {w w':World} {base:Nat} {l:List Ch} {v:Value}
def zcd(x:Ch):List Value:=[.int .u8 x.c,.int .i64 x.by_,.int .i64 x.no,.int .i64 x.k,.int .i64 x.inn,.int .i64 x.out,.int .i64 x.gone]
def zaq:List Ch->List Value
 |[]=>[]
 |x::r=>zcd x++zaq r
theorem zdd:∀l:List Ch,(zaq l).length=l.length*7
 |[]=>rfl
 |x::r=>by
  rw[zaq,List.length_append,zdd r,List.length_cons]
  show 7+_=_
  omega
theorem zfa:∀a b:List Ch,zaq (a++b)=zaq a++zaq b
 |[],b=>rfl
 |x::r,b=>by rw[List.cons_append,zaq,zfa r b,zaq,List.append_assoc]
theorem zk1:∀(l:List Ch) (u:Value),u∈zaq l->u.oneCell'=true
 |[],u,h=>by simp[zaq]at h
 |x::r,u,h=>by
  rw[zaq,List.mem_append]at h
  rcases h with h|h
  ·simp[zcd]at h
   rcases h with rfl|rfl|rfl|rfl|rfl|rfl|rfl<;>rfl
  exact zk1 r u h
theorem zrj:∀(l:List Ch) (i r:Nat) (hi:i<l.length),r<7->(zaq l)[i*7+r]? =(zcd l[i])[r]?
 |[],i,r,hi,_=>absurd hi (Nat.not_lt_zero _)
 |x::l,0,r,_,hr=>by
  rw[zaq,Nat.zero_mul,Nat.zero_add,List.getElem?_append_left (by exact hr)]
  rfl
 |x::l,i+1,r,hi,hr=>by
  rw[zaq,List.getElem?_append_right (by show 7<=_;omega)]
  show(zaq l)[(i+1)*7+r-7]? =_
  rw[show(i+1)*7+r-7=i*7+r by omega,zrj l i r (by simpa using hi) hr]
  rfl
theorem zdv(b off j:Nat):(⟨b,off,none⟩:Addr).add j=⟨b,off+j,none⟩:=by
 unfold Addr.add
 split<;>simp_all
theorem ztv{w:World}{b:Nat}:∀(l:List Ch) (off:Nat),(∀i (h:i<l.length),At w b (off+i*7) l[i])->∀j u,(zaq l)[j]? =some u->w.cell? ((⟨b,off,none⟩:Addr).add j)=some u
 |[],off,_,j,u,hu=>by simp[zaq]at hu
 |x::l,off,h,j,u,hu=>by
  rw[zdv]
  rw[zaq]at hu
  by_cases hj:j<7
  ·rw[List.getElem?_append_left (by exact hj)]at hu
   obtain⟨h0,h1,h2,h3,h4,h5,h6⟩:=h 0 (by simp)
   simp only[Nat.zero_mul,Nat.add_zero,List.getElem_cons_zero]at h0 h1 h2 h3 h4 h5 h6
   rcases(show j=0\/j=1\/j=2\/j=3\/j=4\/j=5\/j=6 by omega)with rfl|rfl|rfl|rfl|rfl|rfl|rfl<;>simp[zcd]at hu<;>subst hu<;>assumption
  rw[List.getElem?_append_right (by show 7<=j;omega)]at hu
  have hu':(zaq l)[j-7]? =some u:=hu
  have:=ztv l (off+7) (fun i hi=>by
   have:=h (i+1) (by simpa using hi)
   rw[show off+(i+1)*7=off+7+i*7 by omega]at this
   exact this) (j-7) u hu'
  rw[zdv,show off+7+(j-7)=off+j by omega]at this
  exact this
def Own(w:World)(base:Nat)(v:Value)(l:List Ch):Prop:=w.ownsRow base 127 7 v l.length (zaq l)
theorem zd6(w:World)(base:Nat):Own w base (.slice none 0 0) []:=World.ownsRow_nil _ _ _ _
theorem own_row{g n cap:Nat}(hg:g<w.heap.size)(hn:l.length=n)(h:w.ownsRow base 127 7 (.slice (some ⟨g,0,none⟩) n cap) n (zaq l)):Row w g 0 l:=by
 refine⟨hg,fun i hi=> ?_⟩
 have key:∀r,r<7->w.cell? ⟨g,0+i*7+r,none⟩=(zcd l[i])[r]? :=fun r hr=>by
  rw[Nat.zero_add,h.cellAt (i*7+r) (by omega),zrj l i r hi hr]
 have k0:=key 0 (by omega)
 have k1:=key 1 (by omega)
 have k2:=key 2 (by omega)
 have k3:=key 3 (by omega)
 have k4:=key 4 (by omega)
 have k5:=key 5 (by omega)
 have k6:=key 6 (by omega)
 exact⟨k0,k1,k2,k3,k4,k5,k6⟩
theorem Own.lst(h:Own w base v l):Lst w v l:=by
 have h':=h
 obtain⟨_,h2⟩:=h
 rcases h2 with⟨rfl,hn⟩|⟨g,cap,cur,rfl,hb,hg,hnc,_⟩
 ·obtain rfl:l=[]:=List.length_eq_zero_iff.1 hn
  exact lst_nil w
 exact⟨_,_,_,rfl,rfl,hnc,.inr ⟨g,0,rfl,own_row (Array.getElem?_eq_some_iff.1 hg).1 rfl h'⟩⟩
theorem Own.below(h:Own w base v l)(hb:Below w.heap.size w w'):Own w' base v l:=zed h hb
theorem Own.mono{base':Nat}(h:Own w base v l)(hb:base'<=base):Own w base' v l:=by
 obtain⟨h1,h2⟩:=h
 refine⟨h1,?_⟩
 rcases h2 with h2|⟨g,cap,cur,e,hg,r⟩
 ·exact .inl h2
 exact .inr ⟨g,cap,cur,e,Nat.le_trans hb hg,r⟩
structure zdq(w:World)(B o:Nat)(d:Dd):Prop where
 lt:B<w.heap.size
 c0:w.cell? ⟨B,o,none⟩=some (.int .i64 d.kind)
 c1:w.cell? ⟨B,o+1,none⟩=some (.int .i64 d.by_)
 c2:w.cell? ⟨B,o+2,none⟩=some (.int .i64 d.no)
 c3:w.cell? ⟨B,o+3,none⟩=some (.int .i64 d.seen)
 c4:w.cell? ⟨B,o+4,none⟩=some (.int .i64 d.at_)
 c5:w.cell? ⟨B,o+5,none⟩=some (.int .i64 d.many)
 c6:w.cell? ⟨B,o+6,none⟩=some (.string d.text)
abbrev zd9(d:Dd):Obj:= .cells #[.int .i64 d.kind,.int .i64 d.by_,.int .i64 d.no,.int .i64 d.seen,.int .i64 d.at_,.int .i64 d.many,.string d.text] 124
theorem zb4(w:World)(d:Dd):zdq (w.alloc (zd9 d)) w.heap.size 0 d:=by
 refine⟨by simp,?_,?_,?_,?_,?_,?_,?_⟩<;>simp[go_sem]
theorem zdq.below{B o:Nat}{d:Dd}(h:zdq w B o d)(hb:Below w.heap.size w w'):zdq w' B o d:=by
 obtain⟨hc,_⟩:=zdp hb
 refine⟨by have:=hb.size;have:=h.lt;omega,?_,?_,?_,?_,?_,?_,?_⟩<;>rw[hc _ _ h.lt]
 ·exact h.c0
 ·exact h.c1
 ·exact h.c2
 ·exact h.c3
 ·exact h.c4
 ·exact h.c5
 exact h.c6
theorem Lst.len{w:World}{v:Value}{l:List Ch}(h:Lst w v l):∃a cap,v= .slice a l.length cap/\l.length<=cap:=by
 obtain⟨a,len,cap,rfl,rfl,h2,_⟩:=h
 exact⟨a,cap,rfl,h2⟩
theorem Row.drop'{b off:Nat}(h:Row w b off l)(k:Nat):Row w b (off+k*7) (l.drop k):=
 ⟨h.lt,fun i hi=>by
  have hi':k+i<l.length:=by rw[List.length_drop]at hi;omega
  rw[List.getElem_drop]
  have:=h.at_ (k+i) hi'
  rw[show off+(k+i)*7=off+k*7+i*7 by rw[Nat.add_mul];omega]at this
  exact this⟩
def zi0(l:List Ch):Prop:=∀x∈l,-9223372036854775808<=x.gone/\x.gone<=9223372036854775807
end Go.Proofs.YtcbnnfeelhlapadGreatDoor