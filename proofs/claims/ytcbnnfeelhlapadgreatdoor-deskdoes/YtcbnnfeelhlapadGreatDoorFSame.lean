/-
  WTook, WRel, WMem, CLeaf, FSame.
-/
import Derived.Test.YtcbnnfeelhlapadGreatDoorLMem
namespace Go.Proofs.YtcbnnfeelhlapadGreatDoor
open Go.RowKit
set_option maxRecDepth 20000
set_option maxHeartbeats 400000
variable {t l r a b:List Ch} {x y:Ch} {d e:Dd} {k n no:Int} {p:Nat}
def zi1(x:Ch):Int×Int×Int×Int:=(x.inn,x.by_,x.no,x.k)
def zel(l:List Ch)(d:Dd):List Ch:=((l.filter (za7 d.seen d.by_)).drop d.at_.toNat).take d.many.toNat
def zvy(t:List Ch)(x:Ch):Bool:=t.any fun y=>decide (y.inn=x.inn)&&zk5 y x
theorem znu:zvy t x=true↔zi1 x∈t.map zi1:=by
 rw[zvy,List.any_eq_true,List.mem_map]
 constructor
 ·rintro⟨y,hy,h⟩
  refine⟨y,hy,?_⟩
  simp[zk5]at h
  simp[zi1,h]
 rintro⟨y,hy,h⟩
 refine⟨y,hy,?_⟩
 simp[zi1]at h
 simp[zk5,h]
theorem hit_key(h:zi1 x=zi1 y):zvy t x=zvy t y:=by
 rw[Bool.eq_iff_iff,znu,znu,h]
theorem qgw(ha:zlq l){x y:Ch}(hx:x∈l)(hy:y∈l)(h:x.by_=y.by_/\x.no=y.no/\x.k=y.k):x=y:=by
 obtain⟨i,hi,rfl⟩:=List.getElem_of_mem hx
 obtain⟨j,hj,rfl⟩:=List.getElem_of_mem hy
 rcases Nat.lt_trichotomy i j with c|c|c
 ·exact absurd h (List.pairwise_iff_getElem.1 ha i j hi hj c)
 ·subst c;rfl
 exact absurd ⟨h.1.symm,h.2.1.symm,h.2.2.symm⟩ (List.pairwise_iff_getElem.1 ha j i hj hi c)
theorem hit_took{u:List Ch}(ha:zlq l)(hu:∀x∈u,x∈l)(h:t.map zi1=u.map zi1){x:Ch}(hx:x∈l):zvy t x=true↔x∈u:=by
 rw[znu,h,List.mem_map]
 constructor
 ·rintro⟨y,hy,e⟩
  simp only[zi1,Prod.mk.injEq]at e
  rw[<-qgw ha (hu y hy) hx e.2];exact hy
 intro hx'
 exact⟨x,hx',rfl⟩
def tkB(d:Dd)(k:Int)(x:Ch):Prop:=za7 d.seen d.by_ x=true/\d.at_<=k/\k<d.at_+d.many
instance (d:Dd) (k:Int) (x:Ch):Decidable (tkB d k x):=inferInstanceAs (Decidable (_/\_))
def zgf(d:Dd):Int->List Ch->List Ch
 |_,[]=>[]
 |k,x::r=>if tkB d k x then x::zgf d (nx d k x) r else zgf d (nx d k x) r
theorem tk_eq(d:Dd)(n k:Int)(x:Ch):tk d n k x=if tkB d k x then zex d.by_ n x else x:=rfl
theorem zym(d:Dd)(ha:0<=d.at_)(hm:0<=d.many):∀(l:List Ch) (k:Nat),zgf d k l=((l.filter (za7 d.seen d.by_)).drop (d.at_.toNat-k)).take (d.many.toNat-(k-d.at_.toNat))
 |[],k=>by simp[zgf]
 |x::r,k=>by
  have ih:=zym d ha hm r
  rw[zgf]
  by_cases hx:za7 d.seen d.by_ x=true
  ·rw[List.filter_cons_of_pos hx]
   have e:nx d (k:Int) x=((k+1:Nat):Int):=by rw[nx,if_pos hx];omega
   rw[e,ih (k+1)]
   by_cases h1:d.at_<=k
   ·have z:d.at_.toNat-k=0:=by omega
    have z':d.at_.toNat-(k+1)=0:=by omega
    rw[z,z',List.drop_zero,List.drop_zero]
    by_cases h2:(k:Int)<d.at_+d.many
    ·rw[if_pos ⟨hx,h1,h2⟩]
     have:d.many.toNat-(k-d.at_.toNat)=d.many.toNat-(k+1-d.at_.toNat)+1:=by omega
     rw[this,List.take_succ_cons]
    rw[if_neg (fun h=>h2 h.2.2)]
    have h3:d.many.toNat-(k-d.at_.toNat)=0:=by omega
    have h4:d.many.toNat-(k+1-d.at_.toNat)=0:=by omega
    rw[h3,h4,List.take_zero,List.take_zero]
   rw[if_neg (fun h=>h1 h.2.1)]
   have h3:d.at_.toNat-k=d.at_.toNat-(k+1)+1:=by omega
   have h4:k-d.at_.toNat=k+1-d.at_.toNat:=by omega
   rw[h3,List.drop_succ_cons,h4]
  have e:nx d (k:Int) x=(k:Int):=by rw[nx,if_neg hx]
  rw[if_neg (fun h=>hx h.1),List.filter_cons_of_neg hx,e,ih k]
theorem zrv(ha:0<=d.at_)(hm:0<=d.many):zel l d=zgf d 0 l:=by
 have:=zym d ha hm l 0
 simp only[Nat.sub_zero,Nat.zero_sub]at this
 exact this.symm
theorem zhk{d:Dd}:∀{l:List Ch} {k:Int} {x:Ch},x∈zgf d k l->x∈l
 |[],_,_,h=>h
 |y::r,k,x,h=>by
  rw[zgf]at h
  split at h
  ·rcases List.mem_cons.1 h with rfl|h
   ·exact List.mem_cons_self ..
   exact List.mem_cons_of_mem _ (zhk h)
  exact List.mem_cons_of_mem _ (zhk h)
theorem qae(h:d.many=0):zel l d=[]:=by simp[zel,h]
theorem qd6(h:d.many=0)(ht:t.map zi1=(zel l d).map zi1):t=[]:=by
 rw[qae h]at ht
 simpa using ht
theorem tail_in(h:y∈zgf d (nx d k x) r):y∈zgf d k (x::r):=by
 rw[zgf]
 split
 ·exact List.mem_cons_of_mem _ h
 exact h
theorem tail_out(ha:zlq (x::r))(hy:y∈r)(h:y∈zgf d k (x::r)):y∈zgf d (nx d k x) r:=by
 rw[zgf]at h
 split at h
 ·rcases List.mem_cons.1 h with rfl|h
  ·exact absurd ⟨rfl,rfl,rfl⟩ ((List.pairwise_cons.1 ha).1 y hy)
  exact h
 exact h
theorem head_in(h:tkB d k x):x∈zgf d k (x::r):=by
 rw[zgf,if_pos h];exact List.mem_cons_self ..
theorem head_out(ha:zlq (x::r))(h:¬tkB d k x):x∉zgf d k (x::r):=by
 rw[zgf,if_neg h]
 intro hx
 exact absurd ⟨rfl,rfl,rfl⟩ ((List.pairwise_cons.1 ha).1 x (zhk hx))
theorem zyt{d:Dd}{n m:Int}{f:Ch->Ch}:∀(l:List Ch) (k:Int),zlq l->(∀x∈zgf d k l,f (zex d.by_ m x)=zex d.by_ n x)->(∀x∈l,x∉zgf d k l->f x=x)->(zby d m k l).map f=zby d n k l
 |[],_,_,_,_=>rfl
 |x::r,k,ha,h1,h2=>by
  rw[zau,zau,List.map_cons,zyt r (nx d k x) (List.pairwise_cons.1 ha).2 (fun y hy=>h1 y (tail_in hy)) (fun y hy hn=>h2 y (by simp[hy]) (fun e=>hn (tail_out ha hy e)))]
  congr 1
  rw[tk_eq,tk_eq]
  by_cases c:tkB d k x
  ·rw[if_pos c,if_pos c];exact h1 x (head_in c)
  rw[if_neg c,if_neg c];exact h2 x (by simp) (head_out ha c)
structure Nums(me:Int)(l:List Ch)(es:List Dd):Prop where
 ap:zlq l
 low:∀x∈l,x.by_=me->∀e∈es,x.no<e.no
 up:es.Pairwise fun a b=>a.no<b.no
 by_:∀e∈es,e.by_=me
theorem qgv(ha:zlq l)(hl:∀x∈l,x.by_=d.by_->x.no<d.no):zlq (ins p (zez d n) l):=by
 have hpart:=ha
 rw[zlq,<-List.take_append_drop p l,List.pairwise_append]at hpart
 have hdiff:∀x∈l,∀y∈zez d n,¬(x.by_=y.by_/\x.no=y.no/\x.k=y.k):=by
  rintro x hx y hy ⟨h1,h2,_⟩
  have hp:=zco hy
  have:=hl x hx (h1.trans hp.2.1)
  rw[hp.2.2.2.2]at h2
  omega
 rw[zlq,ins,List.pairwise_append,List.pairwise_append]
 refine⟨hpart.1,⟨zsa d n 0 _,hpart.2.1,fun y hy x hx e=>hdiff x (List.mem_of_mem_drop hx) y hy ⟨e.1.symm,e.2.1.symm,e.2.2.symm⟩⟩,fun x hx y hy=> ?_⟩
 rcases List.mem_append.1 hy with hy|hy
 ·exact hdiff x (List.mem_of_mem_take hx) y hy
 exact hpart.2.2 x hx y hy
theorem zzg(h:y∈doL l d n):y∈zez d n\/∃x∈l,y.by_=x.by_/\y.no=x.no/\y.k=x.k/\y.inn=x.inn/\(y=x\/(za7 d.seen d.by_ x=true/\y=zex d.by_ n x)):=by
 by_cases k:d.kind=1
 ·rw[zcc k]at h
  rcases zxb.1 h with h|h
  ·exact .inl h
  exact .inr ⟨y,h,rfl,rfl,rfl,rfl,.inl rfl⟩
 rw[zbl k]at h
 obtain⟨x,hx,hxy⟩:=zfk h
 refine .inr ⟨x,hx,?_⟩
 rcases hxy with rfl|⟨hs,rfl⟩
 ·exact⟨rfl,rfl,rfl,rfl,.inl rfl⟩
 exact⟨rfl,rfl,rfl,rfl,.inr ⟨hs,rfl⟩⟩
theorem Nums.next{me:Int}{es:List Dd}(h:Nums me l (e::es))(n:Int):Nums me (doL l e n) es:=by
 have hup:=List.pairwise_cons.1 h.up
 refine⟨?_,?_,hup.2,fun x hx=>h.by_ x (by simp[hx])⟩
 ·by_cases k:e.kind=1
  ·rw[zcc k]
   exact qgv h.ap (fun x hx hb=>h.low x hx (hb.trans (h.by_ e (by simp))) e (by simp))
  rw[zbl k];exact zlz h.ap
 intro y hy hb x hx
 rcases zzg hy with hy|⟨z,hz,h1,h2,_⟩
 ·rw[(zco hy).2.2.2.2];exact hup.1 x hx
 rw[h2];exact h.low z hz (h1.symm.trans hb) x (by simp[hx])
def zne:List Ch->List Dd->List (List Ch)->Prop
 |_,[],[]=>True
 |l,e::es,t::ts=>t.map zi1=(zel l e).map zi1/\zne (doL l e za3) es ts
 |_,_,_=>False
theorem ztk:∀{es:List Dd} {ts:List (List Ch)} {l:List Ch},zne l es ts->ts.length=es.length
 |[],[],_,_=>rfl
 |_::_,_::_,_,h=>by rw[List.length_cons,List.length_cons,ztk h.2]
 |[],_::_,_,h=>h.elim
 |_::_,[],_,h=>h.elim
theorem zql:∀{es:List Dd} {ts:List (List Ch)} {l:List Ch} (e:Dd),zne l es ts->zne l (es++[e]) (ts++[zel (zaj l es) e])
 |[],[],_,_,_=>⟨rfl,trivial⟩
 |_::_,_::_,_,e,h=>⟨h.1,zql e h.2⟩
 |[],_::_,_,_,h=>h.elim
 |_::_,[],_,_,h=>h.elim
theorem qf9(h:a.map zi1=b.map zi1)(i j:Nat):((a.drop i).take j).map zi1=((b.drop i).take j).map zi1:=by
 rw[List.map_take,List.map_drop,h,List.map_take,List.map_drop]
theorem sees_far{d:Dd}{n s v:Int}(hw:wrB d.by_=true)(hv:v≠d.by_)(hn:s<n)(l:List Ch):((doL l d n).filter (za7 s v)).map zi1=(l.filter (za7 s v)).map zi1:=by
 by_cases k:d.kind=1
 ·rw[zcc k,ins,List.filter_append,List.filter_append]
  have e:(zez d n).filter (za7 s v)=[]:=by
   rw[List.filter_eq_nil_iff]
   intro y hy
   rw[zld (Ne.symm hv) hn y hy];simp
  rw[e,List.nil_append,<-List.filter_append,List.take_append_drop]
 rw[zbl k]
 have key:∀(l:List Ch) (k:Int),((zby d n k l).filter (za7 s v)).map zi1=(l.filter (za7 s v)).map zi1:=by
  intro l
  induction l with
  |nil=>intro k;rfl
  |cons x r ih=>
   intro k
   have hs:za7 s v (tk d n k x)=za7 s v x:=zyn hw hv (.inl hn)
   have hk:zi1 (tk d n k x)=zi1 x:=by
    obtain⟨p1,p2,_,p4,p5⟩:=zl2 d n k x
    simp only[zi1,p1,p2,p4,p5]
   rw[zau,List.filter_cons,List.filter_cons,hs]
   cases za7 s v x
   ·simpa using ih _
   simp[hk,ih]
 exact key l 0
theorem took_far(hw:wrB d.by_=true)(hv:e.by_≠d.by_)(hn:e.seen<n)(l:List Ch):(zel (doL l d n) e).map zi1=(zel l e).map zi1:=qf9 (sees_far hw hv hn l) _ _
theorem zo9{me n:Int}{d:Dd}(hne:d.by_≠me)(sd:d.seen<n)(ho:n<za3):∀(es:List Dd) (ts:List (List Ch)) (l:List Ch),ziv me l->(∀e∈es,e.by_=me/\e.seen<n)->zdw l es->Fit l d->zne l es ts->zne (doL l d n) es ts
 |[],[],_,_,_,_,_,_=>trivial
 |e::es,t::ts,l,hm,he,hk,h,ht=>by
  obtain⟨rfl,se⟩:=he e (by simp)
  have we:=zrb hk.1
  have wd:=zrb h
  have ed:cnt (doL l e za3) d.seen d.by_=cnt l d.seen d.by_:=qgj we hne (by omega)
  have:=zo9 hne sd ho es ts (doL l e za3) (zja hm (fun _=>rfl)) (fun x hx=>he x (by simp[hx])) hk.2 ⟨h.1,by rw[ed];exact h.2⟩ ht.2
  rw[qg2 wd we hne hm sd se ho (zp9 h) (zp9 hk.1)]at this
  exact⟨by rw[took_far wd (Ne.symm hne) se];exact ht.1,this⟩
 |[],_::_,_,_,_,_,_,h=>h.elim
 |_::_,[],_,_,_,_,_,h=>h.elim
theorem zoa{me least:Int}:∀(es:List Dd) (ts:List (List Ch)) (l:List Ch),ziv me l->(∀e∈es,e.by_=me/\least<=e.seen)->zdw l es->zne l es ts->zne (ofL least l) es ts
 |[],[],_,_,_,_,_=>trivial
 |e::es,t::ts,l,hm,he,hk,ht=>by
  obtain⟨rfl,se⟩:=he e (by simp)
  have:=zoa es ts (doL l e za3) (zja hm (fun _=>rfl)) (fun x hx=>he x (by simp[hx])) hk.2 ht.2
  rw[do_of (number:=za3) se (.inl rfl) (by decide) hm (zp9 hk.1)]at this
  refine⟨?_,this⟩
  rw[zel,qe5 se];exact ht.1
 |[],_::_,_,_,_,_,h=>h.elim
 |_::_,[],_,_,_,_,h=>h.elim
def zef(no n:Int)(x:Ch):Ch:=if x.inn=za3/\x.no=no then⟨x.c,x.by_,x.no,x.k,n,x.out,x.gone⟩else x
def zkm(t:List Ch)(n:Int)(x:Ch):Ch:=if x.out=0/\zvy t x=true then⟨x.c,x.by_,x.no,x.k,x.inn,n,x.gone⟩else x
def zf2(no n:Int)(t:List Ch)(x:Ch):Ch:=zkm t n (zef no n x)
theorem qgy(no n:Int)(t:List Ch)(x:Ch):(zf2 no n t x).c=x.c/\(zf2 no n t x).by_=x.by_/\(zf2 no n t x).no=x.no/\(zf2 no n t x).k=x.k/\(zf2 no n t x).gone=x.gone/\(zf2 no n t x).inn=(zef no n x).inn:=by
 unfold zf2 zkm zef
 split<;>split<;>exact⟨rfl,rfl,rfl,rfl,rfl,rfl⟩
theorem qa4(no n:Int)(t:List Ch)(b:Int)(x:Ch):zf2 no n t (zex b za3 x)=zex b za3 (zf2 no n t x):=by
 have e1:zef no n (zex b za3 x)=zex b za3 (zef no n x):=by
  unfold zef
  show(if x.inn=za3/\x.no=no then _ else _)=_
  by_cases c:x.inn=za3/\x.no=no
  ·rw[if_pos c,if_pos c];rfl
  rw[if_neg c,if_neg c]
 have e2:∀y:Ch,zkm t n (zex b za3 y)=zex b za3 (zkm t n y):=by
  intro y
  unfold zkm
  have ho:(zex b za3 y).out=y.out:=ze3 _
  have hh:zvy t (zex b za3 y)=zvy t y:=hit_key rfl
  rw[ho,hh]
  by_cases c:y.out=0/\zvy t y=true
  ·rw[if_pos c,if_pos c]
   simp only[zex,ze3]
  rw[if_neg c,if_neg c]
 rw[zf2,e1,e2];rfl
theorem ins_map{f:Ch->Ch}{x:List Ch}(h:x.map f=x):(ins p x l).map f=ins p x (l.map f):=by
 rw[ins,List.map_append,List.map_append,List.map_take,List.map_drop,h,ins]
theorem zmu{no n:Int}{t:List Ch}{e:Dd}(hn:e.seen<n):∀(l:List Ch) (k:Int),zfz n e.by_ l (l.map (zf2 no n t))->zby e za3 k (l.map (zf2 no n t))=(zby e za3 k l).map (zf2 no n t)
 |[],_,_=>rfl
 |x::r,k,h=>by
  have hs:=h.1.sees hn
  have hx:nx e k (zf2 no n t x)=nx e k x:=by unfold nx;rw[hs]
  rw[List.map_cons,zau,zau,List.map_cons,hx,zmu hn r _ h.2]
  congr 1
  rw[tk_eq,tk_eq]
  have hc:tkB e k (zf2 no n t x)↔tkB e k x:=by unfold tkB;rw[hs]
  by_cases c:tkB e k x
  ·rw[if_pos c,if_pos (hc.2 c),qa4]
  rw[if_neg c,if_neg (fun h=>c (hc.1 h))]
theorem qbx{no n:Int}{t:List Ch}{e:Dd}{l:List Ch}(hn:e.seen<n)(ho:n<za3)(hm:ziv e.by_ l)(h:zfz n e.by_ l (l.map (zf2 no n t)))(hf:∀y∈zez e za3,zf2 no n t y=y):
 doL (l.map (zf2 no n t)) e za3=(doL l e za3).map (zf2 no n t):=by
 by_cases ke:e.kind=1
 ·have hp:zb7 (l.map (zf2 no n t)) e=zb7 l e:=by
   unfold zb7
   rw[h.behind hn]
   cases zaa e.seen e.by_ e.at_.toNat l with
   |none=>rfl
   |some p=>
    show p+zbm e.by_ ((l.map (zf2 no n t)).drop p)=p+zbm e.by_ (l.drop p)
    rw[zfl (hm.drop p),zfl ((h.mine ho hm).drop p)]
  have hfix:(zez e za3).map (zf2 no n t)=zez e za3:=by
   rw[List.map_congr_left hf,List.map_id']
  rw[zcc ke,zcc ke,hp,ins_map hfix]
 rw[zbl ke,zbl ke]
 exact zmu hn l 0 h
theorem qen(u:List Ch):(u.map (zf2 no n t)).map zi1=(u.map (zef no n)).map zi1:=by
 rw[List.map_map,List.map_map]
 apply List.map_congr_left
 intro x _
 obtain⟨_,a2,a3,a4,_,a6⟩:=qgy no n t x
 have e:(zef no n x).by_=x.by_/\(zef no n x).no=x.no/\(zef no n x).k=x.k:=by unfold zef;split<;>exact⟨rfl,rfl,rfl⟩
 simp only[Function.comp,zi1,a2,a3,a4,a6,e.1,e.2.1,e.2.2]
theorem num_keys(h:a.map zi1=b.map zi1):(a.map (zef no n)).map zi1=(b.map (zef no n)).map zi1:=by
 have e:∀u:List Ch,(u.map (zef no n)).map zi1=(u.map zi1).map fun k=>(if k.1=za3/\k.2.2.1=no then n else k.1,k.2):=by
  intro u
  rw[List.map_map,List.map_map]
  apply List.map_congr_left
  intro x _
  unfold zef Function.comp zi1
  by_cases c:x.inn=za3/\x.no=no
  ·simp[c]
  simp[c]
 rw[e,e,h]
theorem took_ack{no n:Int}{t:List Ch}{e:Dd}{l:List Ch}(hn:e.seen<n)(h:zfz n e.by_ l (l.map (zf2 no n t))):zel (l.map (zf2 no n t)) e=(zel l e).map (zf2 no n t):=by
 have key:∀l:List Ch,zfz n e.by_ l (l.map (zf2 no n t))->(l.map (zf2 no n t)).filter (za7 e.seen e.by_)=(l.filter (za7 e.seen e.by_)).map (zf2 no n t):=by
  intro l
  induction l with
  |nil=>intro _;rfl
  |cons x r ih=>
   intro h
   rw[List.map_cons,List.filter_cons,List.filter_cons,h.1.sees hn,ih h.2]
   cases za7 e.seen e.by_ x<;>simp
 rw[zel,key l h,<-List.map_drop,<-List.map_take];rfl
theorem qd5{me no n:Int}{t:List Ch}(ho:n<za3):∀(es:List Dd) (ts:List (List Ch)) (l:List Ch),(∀e∈es,e.by_=me/\e.seen<n)->ziv me l->zfz n me l (l.map (zf2 no n t))->(∀e∈es,∀y∈zez e za3,zf2 no n t y=y)->zne l es ts->
 zaj (l.map (zf2 no n t)) es=(zaj l es).map (zf2 no n t)/\zne (l.map (zf2 no n t)) es (ts.map fun u=>u.map (zef no n))
 |[],[],_,_,_,_,_,_=>⟨rfl,trivial⟩
 |e::es,u::ts,l,he,hm,h,hf,ht=>by
  obtain⟨rfl,se⟩:=he e (by simp)
  have hd:=qbx se ho hm h (hf e (by simp))
  have hA:=h.do_ se ho hm
  rw[hd]at hA
  obtain⟨a1,a2⟩:=qd5 ho es ts (doL l e za3) (fun x hx=>he x (by simp[hx])) (zja hm (fun _=>rfl)) hA (fun x hx=>hf x (by simp[hx])) ht.2
  refine⟨by rw[zaj,zaj,hd,a1],?_,by rw[hd];exact a2⟩
  show(u.map (zef no n)).map zi1=_
  rw[took_ack se h,qen,num_keys ht.1]
 |[],_::_,_,_,_,_,_,h=>h.elim
 |_::_,[],_,_,_,_,_,h=>h.elim
theorem many_put(h:za9 d=0)(k:d.kind=1):d.many=0:=((zah h).2.2.2.2.2.2.2.2.2.2.1 k).2.2
theorem ack_one{me n:Int}{d:Dd}{es:List Dd}{t:List Ch}{l:List Ch}(_h1:1<=n)(ho:n<za3)(hN:Nums me l (d::es))(hin:∀x∈l,x.inn<n)(hout:∀x∈l,x.out<n)(hc:za9 d=0)(ht:t.map zi1=(zel l d).map zi1):
 doL l d n=(doL l d za3).map (zf2 d.no n t)/\zfz n me (doL l d za3) ((doL l d za3).map (zf2 d.no n t))/\∀e∈es,∀y∈zez e za3,zf2 d.no n t y=y:=by
 have hb:d.by_=me:=hN.by_ d (by simp)
 obtain⟨_,hw,_,_,_,_,ha0,_,hm0,_⟩:=zah hc
 have hnum:∀x∈l,zef d.no n x=x:=fun x hx=>by
  unfold zef
  rw[if_neg]
  intro c
  have:=hin x hx
  omega
 have hhit:∀x∈l,zvy t x=true↔x∈zgf d 0 l:=fun x hx=>by
  rw[<-zrv ha0 hm0]
  exact hit_took hN.ap (fun y hy=>by rw[zrv ha0 hm0]at hy;exact zhk hy) ht hx
 have hfit:∀x∈l,x∉zgf d 0 l->zf2 d.no n t x=x:=fun x hx hn=>by
  rw[zf2,hnum x hx,zkm,if_neg]
  rintro⟨_,h⟩
  exact hn ((hhit x hx).1 h)
 have hmark:∀x∈l,x∈zgf d 0 l->zf2 d.no n t (zex d.by_ za3 x)=zex d.by_ n x:=fun x hx hy=>by
  rw[qa4,zf2,hnum x hx,zkm]
  have hh:=(hhit x hx).2 hy
  have:=hout x hx
  by_cases c:x.out=0
  ·have e2:zal n x.out=n:=by rw[zal,if_pos ⟨by omega,.inl c⟩]
   rw[if_pos ⟨c,hh⟩]
   show(⟨x.c,x.by_,x.no,x.k,x.inn,zal za3 n,_⟩:Ch)=⟨x.c,x.by_,x.no,x.k,x.inn,zal n x.out,_⟩
   rw[ze3,e2]
  have e2:zal n x.out=x.out:=by
   rw[zal,if_neg]
   rintro⟨_,h|h⟩
   ·exact c h
   omega
  rw[if_neg (fun h=>c h.1)]
  show(⟨x.c,x.by_,x.no,x.k,x.inn,zal za3 x.out,_⟩:Ch)=⟨x.c,x.by_,x.no,x.k,x.inn,zal n x.out,_⟩
  rw[ze3,e2]
 have hnew:∀e∈es,∀y∈zez e za3,zf2 d.no n t y=y:=fun e he y hy=>by
  have hp:=zco hy
  have hno:d.no<e.no:=(List.pairwise_cons.1 hN.up).1 e he
  have e1:zef d.no n y=y:=by
   unfold zef
   rw[if_neg]
   rintro⟨_,h⟩
   rw[hp.2.2.2.2]at h
   omega
  rw[zf2,e1,zkm,if_neg]
  rintro⟨_,h⟩
  rw[znu,ht,List.mem_map]at h
  obtain⟨z,hz,hk⟩:=h
  rw[zrv ha0 hm0]at hz
  have hzl:=zhk hz
  simp only[zi1,Prod.mk.injEq]at hk
  have:=hin z hzl
  have h3:=hp.1
  omega
 by_cases k:d.kind=1
 ·have htn:t=[]:=qd6 (many_put hc k) ht
  have hnl:(zez d za3).map (zf2 d.no n t)=zez d n:=by
   subst htn
   have key:∀(u:List UInt8) (j:Nat),(zbb d za3 j u).map (zf2 d.no n [])=zbb d n j u:=by
    intro u
    induction u with
    |nil=>intro j;rfl
    |cons b r ih=>
     intro j
     rw[zbb,zbb,List.map_cons,ih]
     congr 1
     simp[zf2,zef,zkm,zvy,zm9]
   exact key _ 0
  have hl:l.map (zf2 d.no n t)=l:=by
   rw[List.map_congr_left (g:=id) (fun x hx=> ?_),List.map_id]
   refine hfit x hx ?_
   rw[<-hhit x hx,htn]
   simp[zvy]
  have e1:(doL l d za3).map (zf2 d.no n t)=doL l d n:=by
   rw[zcc k,zcc k,ins,List.map_append,List.map_append,hnl,List.map_take,List.map_drop,hl];rfl
  refine⟨e1.symm,?_,hnew⟩
  rw[e1,<-hb]
  exact qh0 hw (by omega)
 have e1:(doL l d za3).map (zf2 d.no n t)=doL l d n:=by
  rw[zbl k,zbl k]
  exact zyt l 0 hN.ap (fun x hx=>hmark x (zhk hx) hx) hfit
 refine⟨e1.symm,?_,hnew⟩
 rw[e1,<-hb]
 exact qh0 hw (by omega)
variable {b:Bk} {c:Int} {r:Wr} {ts:List (List Ch)}
structure Rel(r:Wr)(ts:List (List Ch)):Prop where
 tk:zne r.base r.opens ts
 nums:Nums r.me r.base r.opens
 low:∀x∈r.base,x.by_=r.me->x.no<r.next
 up:∀e∈r.opens,e.no<r.next
 n1:1<=r.next
 n2:r.next<=121
theorem WI.no_open(h:WI b c r)(hg:zct b):∀x∈r.base,1<=x.inn/\x.inn<=r.seen/\0<=x.out/\x.out<=r.seen/\0<=x.gone/\x.gone<=15:=by
 intro x hx
 rw[h.base]at hx
 have hx':=(List.mem_filter.1 hx).1
 have hm:=(zcl hg r.seen h.seen).1
 have h1:=hm.inn x hx'
 have h2:=hm.out x hx'
 have h3:=hm.gone x hx'
 omega
theorem Rel.does(h:Rel r ts){e:Dd}(hb:e.by_=r.me)(hn:e.no=r.next)(hc:doC r.list e za3=0):
 Rel ⟨r.me,r.seen,r.next+1,r.base,r.opens++[e],r.sent⟩ (ts++[zel r.list e]):=by
 have hno:=(zah (zc0 hc).1).2.2.2.1
 have h1:=h.n1
 refine⟨zql e h.tk,⟨h.nums.ap,?_,?_,?_⟩,?_,?_,?_,?_⟩
 ·intro x hx hm y hy
  rcases List.mem_append.1 hy with hy|hy
  ·exact h.nums.low x hx hm y hy
  obtain rfl:y=e:=by simpa using hy
  rw[hn];exact h.low x hx hm
 ·refine List.pairwise_append.2 ⟨h.nums.up,List.pairwise_singleton _ _,?_⟩
  intro x hx y hy
  obtain rfl:y=e:=by simpa using hy
  rw[hn];exact h.up x hx
 ·intro y hy
  rcases List.mem_append.1 hy with hy|hy
  ·exact h.nums.by_ y hy
  obtain rfl:y=e:=by simpa using hy
  exact hb
 ·intro x hx hm
  have:=h.low x hx hm
  show x.no<r.next+1
  omega
 ·intro y hy
  show y.no<r.next+1
  rcases List.mem_append.1 hy with hy|hy
  ·have:=h.up y hy;omega
  obtain rfl:y=e:=by simpa using hy
  omega
 ·show 1<=r.next+1;omega
 show r.next+1<=121;omega
theorem Rel.sends(h:Rel r ts)(s:Nat):Rel ⟨r.me,r.seen,r.next,r.base,r.opens,s⟩ ts:=⟨h.tk,h.nums,h.low,h.up,h.n1,h.n2⟩
theorem Rel.clears(h:Rel r ts)(hw:WI b c r)(hg:zct b){least:Int}(hl:∀e∈r.opens,least<=e.seen):Rel ⟨r.me,r.seen,r.next,ofL least r.base,r.opens,r.sent⟩ ts:=by
 have hm:ziv r.me r.base:=by rw[hw.base];exact(zdc hg hw.seen r.me).of c
 have hs:∀x∈ofL least r.base,x∈r.base:=fun x hx=>(List.mem_filter.1 hx).1
 exact⟨zoa r.opens ts r.base hm (fun e he=>⟨h.nums.by_ e he,hl e he⟩) (hw.list_eq hg).1 h.tk,⟨h.nums.ap.of least,fun x hx=>h.nums.low x (hs x hx),h.nums.up,h.nums.by_⟩,fun x hx=>h.low x (hs x hx),h.up,h.n1,h.n2⟩
theorem WI.opens_least{w:Wr}(h:WI b c w){least:Int}(h1:least<=zap b)(h2:∀d∈b.ds.drop w.seen,least<=d.seen):∀e∈w.opens,least<=e.seen:=by
 have hsaid:=zeg h.wr h.here
 have hs:=h.said
 intro e he
 obtain⟨i,hi,rfl⟩:=List.mem_iff_getElem.1 he
 by_cases hs':i<w.sent
 ·have:w.opens[i]∈w.opens.take w.sent:=by
   rw[List.mem_take_iff_getElem]
   exact⟨i,by omega,rfl⟩
  rw[<-h.told]at this
  exact h2 _ (List.mem_filter.1 this).1
 have:=h.unsent (i:=i) (by omega) (List.getElem?_eq_getElem hi)
 omega
theorem Rel.hears_other(h:Rel r ts)(hw:WI b c r)(hg:zct b)(hi:r.seen<b.ds.length)(hne:b.ds[r.seen].by_≠r.me):
 Rel ⟨r.me,r.seen+1,r.next,doL r.base b.ds[r.seen] ((r.seen:Int)+1),r.opens,r.sent⟩ ts:=by
 obtain⟨n1,n2⟩:=zl8 hg hi
 obtain⟨b1,b2⟩:=hw.base_next hg hi
 have hm:ziv r.me r.base:=by rw[hw.base];exact(zdc hg hw.seen r.me).of c
 have hes:∀e∈r.opens,e.by_=r.me/\e.seen<(r.seen:Int)+1:=fun e he=>⟨(hw.own e he).1,by have:=(hw.own e he).2.1;omega⟩
 have hold:∀y∈doL r.base b.ds[r.seen] ((r.seen:Int)+1),y.by_=r.me->∃x∈r.base,x.by_=r.me/\y.no=x.no:=by
  intro y hy hb
  rcases zzg hy with hy|⟨x,hx,h1,h2,_⟩
  ·exact absurd ((zco hy).2.1.symm.trans hb) hne
  exact⟨x,hx,h1.symm.trans hb,h2⟩
 refine⟨zo9 hne n1 n2 r.opens ts r.base hm hes (hw.list_eq hg).1 (zv6 b1) h.tk,⟨?_,?_,h.nums.up,h.nums.by_⟩,?_,h.up,h.n1,h.n2⟩
 ·rw[b2]
  exact zlq.of (zcl hg (r.seen+1) hi).1.one c
 ·intro y hy hb e he
  obtain⟨x,hx,h1,h2⟩:=hold y hy hb
  rw[h2];exact h.nums.low x hx h1 e he
 intro y hy hb
 obtain⟨x,hx,h1,h2⟩:=hold y hy hb
 show y.no<r.next
 rw[h2];exact h.low x hx h1
theorem Rel.hears_own{t:List Ch}(h:Rel r (t::ts))(hw:WI b c r)(hg:zct b)(hi:r.seen<b.ds.length){es:List Dd}(he:r.opens=b.ds[r.seen]::es):
 Rel ⟨r.me,r.seen+1,r.next,doL r.base b.ds[r.seen] ((r.seen:Int)+1),es,r.sent-1⟩ (ts.map fun u=>u.map (zef b.ds[r.seen].no ((r.seen:Int)+1)))/\
 zaj (doL r.base b.ds[r.seen] ((r.seen:Int)+1)) es=r.list.map (zf2 b.ds[r.seen].no ((r.seen:Int)+1) t):=by
 obtain⟨n1,n2⟩:=zl8 hg hi
 have hm:ziv r.me r.base:=by rw[hw.base];exact(zdc hg hw.seen r.me).of c
 have hes:∀e∈r.opens,e.by_=r.me/\e.seen<(r.seen:Int)+1:=fun e he=>⟨(hw.own e he).1,by have:=(hw.own e he).2.1;omega⟩
 have hno:=hw.no_open hg
 have hN:=h.nums
 have ht:=h.tk
 have hf:=(hw.list_eq hg).1
 rw[he]at hN ht hf hes
 have hck:=hf.1.1
 have hlist:r.list=zaj (doL r.base b.ds[r.seen] za3) es:=by rw[Wr.list,he];rfl
 obtain⟨a1,a2,a3⟩:=ack_one (t:=t) (n:=(r.seen:Int)+1) (by omega) n2 hN (fun x hx=>by have:=hno x hx;omega) (fun x hx=>by have:=hno x hx;omega) hck ht.1
 have hm2:ziv r.me (doL r.base b.ds[r.seen] za3):=zja hm (fun _=>hN.by_ _ (by simp))
 obtain⟨c1,c2⟩:=qd5 n2 es ts _ (fun e hx=>hes e (by simp[hx])) hm2 a2 a3 ht.2
 rw[<-a1]at c1 c2
 refine⟨⟨c2,hN.next _,?_,fun e hx=>h.up e (by rw[he];simp[hx]),h.n1,h.n2⟩,by rw[c1,hlist]⟩
 intro y hy hb
 show y.no<r.next
 rcases zzg hy with hy|⟨x,hx,h1,h2,_⟩
 ·rw[(zco hy).2.2.2.2];exact h.up _ (by rw[he];simp)
 rw[h2];exact h.low x hx (h1.symm.trans hb)
theorem Rel.comes_in(hg:zct b)(v:Int):Rel ⟨v,b.ds.length,b.last v+1,b.chars,[],0⟩ []:=by
 have hm:=zje hg
 have hl:=zb2 hg v
 have hsm:b.len<=120:=by have:=hg.small;show(b.ds.length:Int)<=120;omega
 refine⟨trivial,⟨hm.one,fun _ _ _ e he=>(by cases he),List.Pairwise.nil,fun e he=>(by cases he)⟩,?_,fun e he=>(by cases he),?_,?_⟩
 ·intro x hx hb
  have h1:=(hm.no x hx).2
  have hb':x.by_=v:=hb
  rw[hb',<-hg.last]at h1
  show x.no<b.last v+1
  omega
 ·show 1<=b.last v+1;omega
 show b.last v+1<=121;omega
theorem zyq{me:Int}:∀(es:List Dd) {l:List Ch},(∀x∈l,0<=x.out/\0<=x.gone/\x.gone<=15)->zdw l es->∀x∈zaj l es,0<=x.out/\0<=x.gone/\x.gone<=15
 |[],_,h,_=>h
 |e::es,l,h,hf=>by
  refine zyq (me:=me) es (fun y hy=> ?_) hf.2
  rcases zzg hy with hy|⟨x,hx,_,_,_,_,rfl|⟨hs,rfl⟩⟩
  ·have:=zco hy
   omega
  ·exact h y hx
  have hx':=h x hx
  have:=znv (zrb hf.1) (ze1 hs) hx'.2.1 hx'.2.2
  refine⟨?_,this.1,this.2.1⟩
  show 0<=zal za3 x.out
  rw[ze3];exact hx'.1
theorem WI.tame(h:WI b c r)(hg:zct b):∀x∈r.list,0<=x.out/\0<=x.gone/\x.gone<=15:=
 zyq (me:=r.me) r.opens (fun x hx=>by have:=h.no_open hg x hx;omega) (h.list_eq hg).1
theorem WI.fits(h:WI b c r)(hg:zct b):zi0 r.list:=fun x hx=>by
 have:=h.tame hg x hx
 omega
theorem WI.few{b:Bk}{c:Int}{r:Wr}{ts:List (List Ch)}(h:WI b c r)(hr:Rel r ts)(hg:zct b):r.opens.length<=120:=by
 cases hes:r.opens with
 |nil=>simp
 |cons e es=>
  have h0:=h.no 0 e (by rw[hes];rfl)
  have hf:=(h.list_eq hg).1
  rw[hes]at hf
  have h1:=(zah hf.1.1).2.2.1
  have h2:=hr.n2
  rw[hes]at h0
  simp only[Int.natCast_zero]at h0
  omega
variable {w w':World} {base g n cap P Q:Nat} {v lv ov bv:Value} {l:List Ch} {me next seen sent:Int} {S T:Nat->Prop} {tvs:List Value} {es:List Dd} {ts:List (List Ch)}
theorem zu3:∀(l:List Ch) (i r:Nat) (y:Ch) (u:Value) (hi:i<l.length),r<7->(zcd l[i]).set r u=zcd y->(zaq l).set (i*7+r) u=zaq (l.set i y)
 |[],i,_,_,_,hi,_,_=>absurd hi (Nat.not_lt_zero _)
 |x::l,0,r,y,u,_,hr,hy=>by
  have h7:(zcd x).length=7:=rfl
  rw[Nat.zero_mul,Nat.zero_add,zaq,List.set_append_left (h:=by omega),List.set_cons_zero,zaq]
  have hy':(zcd x).set r u=zcd y:=hy
  rw[hy']
 |x::l,i+1,r,y,u,hi,hr,hy=>by
  have h7:(zcd x).length=7:=rfl
  have:=zu3 l i r y u (by simpa using hi) hr hy
  rw[zaq,List.set_append_right (h:=by rw[h7];omega),List.set_cons_succ,zaq,h7,show(i+1)*7+r-7=i*7+r by omega,this]
theorem zuf{L:List Ch}(h:Own w base (.slice (some ⟨g,0,none⟩) n cap) L)(hn:L.length=n){i r:Nat}(hi:i<L.length)(hr:r<7){y:Ch}{u:Value}(hy:(zcd L[i]).set r u=zcd y):
 Own (w.setCell ⟨g,i*7+r,none⟩ u) base (.slice (some ⟨g,0,none⟩) n cap) (L.set i y):=by
 unfold Own at h⊢
 rw[List.length_set,<-zu3 L i r y u hi hr hy,hn]
 rw[hn]at h
 exact(h.stored _ _).1
def zm8(x:Dd×Value):List Value:=zf9 x.1++[x.2]
def zdf:List (Dd×Value)->List Value
 |[]=>[]
 |x::r=>zm8 x++zdf r
theorem zf5(x:Dd×Value):(zm8 x).length=8:=rfl
theorem zml:∀l:List (Dd×Value),(zdf l).length=l.length*8
 |[]=>rfl
 |x::r=>by
  rw[zdf,List.length_append,zml r,List.length_cons,zf5]
  omega
theorem zri:∀a b:List (Dd×Value),zdf (a++b)=zdf a++zdf b
 |[],b=>rfl
 |x::r,b=>by rw[List.cons_append,zdf,zri r b,zdf,List.append_assoc]
theorem zmk:∀(l:List (Dd×Value)) (_:∀x∈l,x.2.oneCell'=true) (u:Value),u∈zdf l->u.oneCell'=true
 |[],_,u,h=>by simp[zdf]at h
 |x::r,hl,u,h=>by
  rw[zdf,List.mem_append]at h
  rcases h with h|h
  ·simp[zm8,zf9]at h
   rcases h with rfl|rfl|rfl|rfl|rfl|rfl|rfl|rfl
   all_goals first|rfl|exact hl x (by simp)
  exact zmk r (fun y hy=>hl y (by simp[hy])) u h
theorem zrh:∀(l:List (Dd×Value)) (i r:Nat) (hi:i<l.length),r<8->(zdf l)[i*8+r]? =(zm8 l[i])[r]?
 |[],i,r,hi,_=>absurd hi (Nat.not_lt_zero _)
 |x::l,0,r,_,hr=>by
  rw[zdf,Nat.zero_mul,Nat.zero_add,List.getElem?_append_left (by rw[zf5];exact hr)]
  rfl
 |x::l,i+1,r,hi,hr=>by
  rw[zdf,List.getElem?_append_right (by rw[zf5];omega),zf5,show(i+1)*8+r-8=i*8+r by omega,zrh l i r (by simpa using hi) hr]
  rfl
def znc(w:World)(base:Nat)(v:Value)(l:List (Dd×Value)):Prop:=w.ownsRow base 180 8 v l.length (zdf l)
theorem zzc(w:World)(base:Nat):znc w base (.slice none 0 0) []:=World.ownsRow_nil _ _ _ _
theorem znc.len{l:List (Dd×Value)}(h:znc w base v l):∃a cap,v= .slice a l.length cap:=by
 rcases h.2 with⟨rfl,hn⟩|⟨g,cap,cur,rfl,_⟩
 ·exact⟨none,0,by rw[hn]⟩
 exact⟨_,cap,rfl⟩
theorem znc.place{l:List (Dd×Value)}(h:znc w base v l)(hk:0<l.length):∃g cap,v= .slice (some ⟨g,0,none⟩) l.length cap:=by
 rcases h.2 with⟨_,hn⟩|⟨g,cap,cur,rfl,_⟩
 ·omega
 exact⟨g,cap,rfl⟩
theorem znc.below{l:List (Dd×Value)}(h:znc w base v l)(hb:Below w.heap.size w w'):znc w' base v l:=
 World.ownsRow.kept (row:=none) h ⟨hb.os,hb.tape,hb.output,hb.size,fun k hk _=>hb.block k hk⟩ (by cases h':v.ownBlock<;>simp)
structure OoAt(w:World)(B o:Nat)(d:Dd)(tv:Value):Prop where
 deed:zdq w B o d
 took:w.cell? ⟨B,o+7,none⟩=some tv
theorem znc.nth{l:List (Dd×Value)}(h:znc w base (.slice (some ⟨g,0,none⟩) n cap) l)(hn:l.length=n){i:Nat}(hi:i<l.length):OoAt w g (i*8) l[i].1 l[i].2:=by
 unfold znc at h
 rw[hn]at h
 have hlt:=(World.ownsRow.lt h g rfl).2
 have key:∀r,r<8->w.cell? ⟨g,i*8+r,none⟩=(zm8 l[i])[r]? :=fun r hr=>by
  rw[World.ownsRow.cellAt h (i*8+r) (by omega),zrh l i r hi hr]
 exact⟨⟨hlt,key 0 (by omega),key 1 (by omega),key 2 (by omega),key 3 (by omega),key 4 (by omega),key 5 (by omega),key 6 (by omega)⟩,key 7 (by omega)⟩
def zem(w:World)(base:Nat):List Value->List (List Ch)->Prop
 |[],[]=>True
 |v::vs,t::ts=>Own w base v t/\zem w base vs ts
 |_,_=>False
theorem zem.len{w:World}{base:Nat}:∀{vs:List Value} {ts:List (List Ch)},zem w base vs ts->vs.length=ts.length
 |[],[],_=>rfl
 |_::_,_::_,h=>by rw[List.length_cons,List.length_cons,zem.len h.2]
 |[],_::_,h=>h.elim
 |_::_,[],h=>h.elim
theorem zem.of_block{w w':World}{base:Nat}:∀{vs:List Value} {ts:List (List Ch)},zem w base vs ts->(∀v∈vs,∀k,v.ownBlock=some k->w'.heap[k]? =w.heap[k]?)->zem w' base vs ts
 |[],[],_,_=>trivial
 |v::vs,_::_,h,hb=>⟨za5 h.1 (hb v (by simp)),zem.of_block h.2 (fun u hu=>hb u (by simp[hu]))⟩
 |[],_::_,h,_=>h.elim
 |_::_,[],h,_=>h.elim
theorem zem.nth{w:World}{base:Nat}:∀{vs:List Value} {ts:List (List Ch)},zem w base vs ts->∀(i:Nat) (hi:i<vs.length) (ht:i<ts.length),Own w base vs[i] ts[i]
 |[],[],_,i,hi,_=>absurd hi (Nat.not_lt_zero _)
 |v::vs,t::ts,h,0,_,_=>h.1
 |v::vs,t::ts,h,i+1,hi,ht=>zem.nth h.2 i (by simpa using hi) (by simpa using ht)
 |[],_::_,h,_,_,_=>h.elim
 |_::_,[],h,_,_,_=>h.elim
theorem zem.lt{w:World}{base:Nat}:∀{vs:List Value} {ts:List (List Ch)},zem w base vs ts->∀v∈vs,∀k,v.ownBlock=some k->base<=k/\k<w.heap.size
 |[],[],_,_,hv,_,_=>by cases hv
 |v::vs,t::ts,h,u,hu,k,e=>by
  rcases List.mem_cons.1 hu with rfl|hu
  ·exact World.ownsRow.lt h.1 k e
  exact zem.lt h.2 u hu k e
 |[],_::_,h,_,_,_,_=>h.elim
 |_::_,[],h,_,_,_,_=>h.elim
theorem zem.snoc{w:World}{base:Nat}{v:Value}{t:List Ch}(ho:Own w base v t):∀{vs:List Value} {ts:List (List Ch)},zem w base vs ts->zem w base (vs++[v]) (ts++[t])
 |[],[],_=>⟨ho,trivial⟩
 |_::_,_::_,h=>⟨h.1,zem.snoc ho h.2⟩
 |[],_::_,h=>h.elim
 |_::_,[],h=>h.elim
theorem zem.one{w:World}{base:Nat}:∀{vs:List Value} {ts:List (List Ch)},zem w base vs ts->∀v∈vs,v.oneCell'=true
 |[],[],_,_,hv=>by cases hv
 |v::vs,t::ts,h,u,hu=>by
  rcases List.mem_cons.1 hu with rfl|hu
  ·obtain⟨a,cap,rfl,_⟩:=h.1.lst.len
   rfl
  exact zem.one h.2 u hu
 |[],_::_,h,_,_=>h.elim
 |_::_,[],h,_,_=>h.elim
structure PwC(w:World)(P:Nat)(lv ov:Value)(me next seen sent:Int):Prop where
 lt:P<w.heap.size
 me:w.cell? ⟨P,0,none⟩=some (.int .i64 me)
 next:w.cell? ⟨P,1,none⟩=some (.int .i64 next)
 seen:w.cell? ⟨P,2,none⟩=some (.int .i64 seen)
 list:w.cell? ⟨P,3,none⟩=some lv
 opens:w.cell? ⟨P,4,none⟩=some ov
 sent:w.cell? ⟨P,5,none⟩=some (.int .i64 sent)
 free:∀o,o<6->w.frozen? ⟨P,o,none⟩=false
theorem PwC.kept(h:PwC w P lv ov me next seen sent)(hs:w.heap.size<=w'.heap.size)(hb:w'.heap[P]? =w.heap[P]?):PwC w' P lv ov me next seen sent:=by
 have hc:∀o,w'.cell? ⟨P,o,none⟩=w.cell? ⟨P,o,none⟩:=fun o=>World.cell?_of_block (a:=⟨P,o,none⟩) hb
 have hf:∀o,w'.frozen? ⟨P,o,none⟩=w.frozen? ⟨P,o,none⟩:=fun o=>World.frozen?_of_block (a:=⟨P,o,none⟩) hb
 exact⟨Nat.lt_of_lt_of_le h.lt hs,by rw[hc];exact h.me,by rw[hc];exact h.next,by rw[hc];exact h.seen,by rw[hc];exact h.list,by rw[hc];exact h.opens,by rw[hc];exact h.sent,fun o ho=>by rw[hf];exact h.free o ho⟩
structure zd3(w:World)(base:Nat)(S:Nat->Prop)(P:Nat)(lv ov:Value)(tvs:List Value)(l:List Ch)(es:List Dd)(ts:List (List Ch))(me next seen sent:Int):Prop where
 lo:∀k,S k->base<=k/\k<w.heap.size
 hP:S P
 cells:PwC w P lv ov me next seen sent
 ownL:Own w base lv l
 ownO:znc w base ov (es.zip tvs)
 len:tvs.length=es.length
 tooks:zem w base tvs ts
 lB:∀k,lv.ownBlock=some k->S k/\k≠P
 oB:∀k,ov.ownBlock=some k->S k/\k≠P/\lv.ownBlock≠some k
 tB:∀tv∈tvs,∀k,tv.ownBlock=some k->S k/\k≠P/\lv.ownBlock≠some k/\ov.ownBlock≠some k
 tD:tvs.Pairwise fun a b=>∀k,a.ownBlock=some k->b.ownBlock≠some k
theorem zd3.kept{w w':World}{base P:Nat}{S T:Nat->Prop}{lv ov:Value}{tvs:List Value}{l:List Ch}{es:List Dd}{ts:List (List Ch)}{me next seen sent:Int}(h:zd3 w base S P lv ov tvs l es ts me next seen sent)(hk:zam T w w')(hd:∀k,S k->¬T k):zd3 w' base S P lv ov tvs l es ts me next seen sent:=by
 have hb:∀k,S k->w'.heap[k]? =w.heap[k]? :=fun k hs=>hk.block k (h.lo k hs).2 (hd k hs)
 exact⟨fun k hs=>⟨(h.lo k hs).1,Nat.lt_of_lt_of_le (h.lo k hs).2 hk.size⟩,h.hP,h.cells.kept hk.size (hb P h.hP),za5 h.ownL (fun k e=>hb k (h.lB k e).1),za5 h.ownO (fun k e=>hb k (h.oB k e).1),h.len,h.tooks.of_block (fun v hv k e=>hb k (h.tB v hv k e).1),h.lB,h.oB,h.tB,h.tD⟩
theorem zd3.below(h:zd3 w base S P lv ov tvs l es ts me next seen sent)(hb:Below w.heap.size w w'):zd3 w' base S P lv ov tvs l es ts me next seen sent:=
 h.kept (T:=fun _=>False) (.of_below hb) (fun _ _ e=>e)
theorem zd3.base_le(h:zd3 w base S P lv ov tvs l es ts me next seen sent):base<=w.heap.size:=by
 have:=h.lo P h.hP
 omega
theorem zd3.mono(h:zd3 w base S P lv ov tvs l es ts me next seen sent)(hT:∀k,S k->T k)(hl:∀k,T k->base<=k/\k<w.heap.size):zd3 w base T P lv ov tvs l es ts me next seen sent:=
 ⟨hl,hT _ h.hP,h.cells,h.ownL,h.ownO,h.len,h.tooks,fun k e=>⟨hT k (h.lB k e).1,(h.lB k e).2⟩,fun k e=>⟨hT k (h.oB k e).1,(h.oB k e).2⟩,fun tv ht k e=>⟨hT k (h.tB tv ht k e).1,(h.tB tv ht k e).2⟩,h.tD⟩
structure zni(w:World)(base:Nat)(S:Nat->Prop)(P:Nat)(l:List Ch)(es:List Dd)(ts:List (List Ch))(me next seen sent:Int)(w':World):Prop where
 at_:∃lv ov tvs,zd3 w' base (grow S w w') P lv ov tvs l es ts me next seen sent
 kept:zam S w w'
theorem zkr(hb:base<=w.heap.size)(hs:w.heap.size<=w'.heap.size)(hl:∀k,S k->base<=k/\k<w.heap.size):∀k,grow S w w' k->base<=k/\k<w'.heap.size:=fun k e=>by
 rcases e with e|e
 ·have:=hl k e;omega
 omega
structure ScC(w:World)(Q:Nat)(bv ov:Value)(me seen next sent:Int):Prop where
 lt:Q<w.heap.size
 me:w.cell? ⟨Q,0,none⟩=some (.int .i64 me)
 seen:w.cell? ⟨Q,1,none⟩=some (.int .i64 seen)
 next:w.cell? ⟨Q,2,none⟩=some (.int .i64 next)
 base:w.cell? ⟨Q,3,none⟩=some bv
 opens:w.cell? ⟨Q,4,none⟩=some ov
 sent:w.cell? ⟨Q,5,none⟩=some (.int .i64 sent)
 free:∀o,o<6->w.frozen? ⟨Q,o,none⟩=false
theorem ScC.kept(h:ScC w Q bv ov me seen next sent)(hs:w.heap.size<=w'.heap.size)(hb:w'.heap[Q]? =w.heap[Q]?):ScC w' Q bv ov me seen next sent:=by
 have hc:∀o,w'.cell? ⟨Q,o,none⟩=w.cell? ⟨Q,o,none⟩:=fun o=>World.cell?_of_block (a:=⟨Q,o,none⟩) hb
 have hf:∀o,w'.frozen? ⟨Q,o,none⟩=w.frozen? ⟨Q,o,none⟩:=fun o=>World.frozen?_of_block (a:=⟨Q,o,none⟩) hb
 exact⟨Nat.lt_of_lt_of_le h.lt hs,by rw[hc];exact h.me,by rw[hc];exact h.seen,by rw[hc];exact h.next,by rw[hc];exact h.base,by rw[hc];exact h.opens,by rw[hc];exact h.sent,fun o ho=>by rw[hf];exact h.free o ho⟩
structure zfw(w:World)(base:Nat)(S:Nat->Prop)(Q:Nat)(bv ov:Value)(l:List Ch)(es:List Dd)(me seen next sent:Int):Prop where
 lo:∀k,S k->base<=k/\k<w.heap.size
 hQ:S Q
 cells:ScC w Q bv ov me seen next sent
 ownB:Own w base bv l
 ownO:zfx w base ov es
 bB:∀k,bv.ownBlock=some k->S k/\k≠Q
 oB:∀k,ov.ownBlock=some k->S k/\k≠Q/\bv.ownBlock≠some k
theorem zfw.kept{w w':World}{base Q:Nat}{S T:Nat->Prop}{bv ov:Value}{l:List Ch}{es:List Dd}{me seen next sent:Int}(h:zfw w base S Q bv ov l es me seen next sent)(hk:zam T w w')(hd:∀k,S k->¬T k):zfw w' base S Q bv ov l es me seen next sent:=by
 have hb:∀k,S k->w'.heap[k]? =w.heap[k]? :=fun k hs=>hk.block k (h.lo k hs).2 (hd k hs)
 exact⟨fun k hs=>⟨(h.lo k hs).1,Nat.lt_of_lt_of_le (h.lo k hs).2 hk.size⟩,h.hQ,h.cells.kept hk.size (hb Q h.hQ),za5 h.ownB (fun k e=>hb k (h.bB k e).1),za5 h.ownO (fun k e=>hb k (h.oB k e).1),h.bB,h.oB⟩
theorem zfw.below(h:zfw w base S Q bv ov l es me seen next sent)(hb:Below w.heap.size w w'):zfw w' base S Q bv ov l es me seen next sent:=
 h.kept (T:=fun _=>False) (.of_below hb) (fun _ _ e=>e)
theorem zfw.base_le(h:zfw w base S Q bv ov l es me seen next sent):base<=w.heap.size:=by
 have:=h.lo Q h.hQ
 omega
theorem zfw.mono(h:zfw w base S Q bv ov l es me seen next sent)(hT:∀k,S k->T k)(hl:∀k,T k->base<=k/\k<w.heap.size):zfw w base T Q bv ov l es me seen next sent:=
 ⟨hl,hT _ h.hQ,h.cells,h.ownB,h.ownO,fun k e=>⟨hT k (h.bB k e).1,(h.bB k e).2⟩,fun k e=>⟨hT k (h.oB k e).1,(h.oB k e).2⟩⟩
structure zt9(w:World)(base:Nat)(S:Nat->Prop)(Q:Nat)(l:List Ch)(es:List Dd)(me seen next sent:Int)(w':World):Prop where
 at_:∃bv ov,zfw w' base (grow S w w') Q bv ov l es me seen next sent
 kept:zam S w w'
theorem za2(w:World)(o:Obj):Below w.heap.size w (w.alloc o):=(Below.refl _ _).alloc (Nat.le_refl _) _
theorem below2(w:World)(o p:Obj):Below w.heap.size w ((w.alloc o).alloc p):=(za2 w o).alloc (by simp) _
theorem done_any(x:Ch)(least:Int)(w:World):
 Calls Tryz.prog 198 #[chV x,.int .i64 least] w fun e w'=>e= .returned (.bool (ze4 least x))/\Below w.heap.size w w':=by
 obtain⟨c,b,no,k,i,o,g⟩:=x
 by_cases h1:o=0
 ·have h1':(o != 0)=false:=by simp[h1]
  have H1:=hid h1
  clear h1
  go_enter Tryz.func198,Tryz.ntmps198
  go_wp2
  go_ret
  exact⟨zbf (by simp[ze4,H1.out]),za2 _ _⟩
 have h1':(o != 0)=true:=by simp[h1]
 have H1:=hid h1
 clear h1
 by_cases h2:o<=least
 ·go_enter Tryz.func198,Tryz.ntmps198
  go_wp2
  go_ret
  exact⟨zbf (by simp[ze4,H1.out,h2]),za2 _ _⟩
 go_enter Tryz.func198,Tryz.ntmps198
 go_wp2
 go_ret
 exact⟨zbf (by
  have:¬o<=least:=by omega
  simp[ze4,this]),za2 _ _⟩
structure NBox(n:Int)(B:Nat)(w:World):Prop where
 lt:B<w.heap.size
 at_:w.cell? ⟨B,0,none⟩=some (.int .i64 n)
theorem NBox.low{w w':World}{n:Int}{B base:Nat}(h:NBox n B w)(hB:B<base)(hb:Below base w w'):NBox n B w':=
 ⟨Nat.lt_of_lt_of_le h.lt hb.size,by rw[hb.cell (p:=⟨B,0,none⟩) hB];exact h.at_⟩
theorem of1_any(x:Ch)(least:Int)(B:Nat)(w:World)(h:w.cell? ⟨B,0,none⟩=some (.int .i64 least)):
 Calls Tryz.prog 197 (#[chV x]++ #[.pointer (some ⟨B,0,none⟩)]) w fun e w'=>e= .returned (.bool (ze4 least x))/\Below w.heap.size w w':=by
 have c0:∀o,(w.alloc o).cell? ⟨B,0,none⟩=some (.int .i64 least):=fun o=>Lib.cell?_alloc_some o h
 clear h
 go_enter Tryz.func197,Tryz.ntmps197
 go_wp2_with fail
 refine(done_any x least _).mono ?_
 rintro e w1 ⟨rfl,hb⟩
 have HB:Hid (Below w.heap.size w w1):=bla (za2 _ _) hb
 clear hb c0
 go_wp2
 go_ret
 exact⟨rfl,HB.out⟩
theorem Lst.row{w:World}{a:Option Addr}{n cap:Nat}{l:List Ch}(h:Lst w (.slice a n cap) l)(hp:0<n):∃b off,a=some ⟨b,off,none⟩/\l.length=n/\Row w b off l:=by
 obtain⟨a',len,cap',he,h1,h2,h3⟩:=h
 simp only[Value.slice.injEq]at he
 obtain⟨rfl,rfl,rfl⟩:=he
 rcases h3 with h3|⟨b,off,rfl,hr⟩
 ·omega
 exact⟨b,off,rfl,h1,hr⟩
end Go.Proofs.YtcbnnfeelhlapadGreatDoor