/-
  zg6 mathematics of a writer: deeds that have no number yet, and what comes from others, change places; what is done with is not missed. No walk.
-/
import Derived.Test.YtcbnnfeelhlapadGreatDoorFLists
import Derived.Test.YtcbnnfeelhlapadGreatDoorDPlain
import Derived.Laws.BytesArg
namespace Go.Proofs.YtcbnnfeelhlapadGreatDoor
set_option maxHeartbeats 400000
def ins(p:Nat)(x l:List Ch):List Ch:=l.take p++(x++l.drop p)
theorem zr6{a b x:List Ch}{p:Nat}(h:a.length=p):ins p x (a++b)=a++(x++b):=by
 subst h
 rw[ins,List.take_left,List.drop_left]
theorem zxc{p:Nat}{x l:List Ch}{y:Ch}:y∈ins p x l↔y∈x∨y∈l:=by
 have:=List.take_append_drop p l
 rw[ins,List.mem_append,List.mem_append]
 constructor
 ·rintro(h|h|h)
  ·exact .inr (List.mem_of_mem_take h)
  ·exact .inl h
  ·exact .inr (List.mem_of_mem_drop h)
 ·rintro(h|h)
  ·exact .inr (.inl h)
  ·rw[←this,List.mem_append]at h
   rcases h with h|h
   ·exact .inl h
   ·exact .inr (.inr h)
theorem zzq{p q:Nat}{x y l:List Ch}(h:p≤q)(hq:q≤l.length):ins (q+x.length) y (ins p x l)=ins p x (ins q y l):=by
 have e1:l=l.take p++((l.drop p).take (q-p)++l.drop q):=by
  have e2:=List.take_append_drop (q-p) (l.drop p)
  rw[List.drop_drop,show p+(q-p)=q by omega]at e2
  rw[e2,List.take_append_drop]
 have ha:(l.take p).length=p:=by rw[List.length_take];omega
 have hb:((l.drop p).take (q-p)).length=q-p:=by rw[List.length_take,List.length_drop];omega
 generalize l.take p=a at e1 ha
 generalize (l.drop p).take (q-p)=b at e1 hb
 generalize l.drop q=c at e1
 subst e1
 rw[zr6 ha]
 have e3:a++(x++(b++c))=(a++(x++b))++c:=by simp
 rw[e3,zr6 (by simp;omega)]
 have e4:a++(b++c)=(a++b)++c:=by simp
 rw[e4,zr6 (a:=a++b) (by simp;omega)]
 have e5:a++b++(y++c)=a++(b++(y++c)):=by simp
 rw[e5,zr6 ha]
 simp
theorem zcg{l:List Ch}{d:Dd}{number:Int}(h:d.kind=1):doL l d number=ins (zbb l d) (zf4 d number) l:=by
 rw[doL,if_pos h,ins]
theorem zbo{l:List Ch}{d:Dd}{number:Int}(h:d.kind≠1):doL l d number=zc0 d number 0 l:=by
 rw[doL,if_neg h]
theorem zpr{seen by_:Int}:∀(x:List Ch) (n:Nat) (l:List Ch),(∀y∈x,za5 seen by_ y=false)→za8 seen by_ (n+1) (x++l)=(za8 seen by_ (n+1) l).map (· +x.length)
 |[],n,l,_=>by rw[List.nil_append];cases za8 seen by_ (n+1) l<;>rfl
 |y::x,n,l,h=>by
  rw[List.cons_append,za8,if_neg (by rw[h y (by simp)];simp),zpr x n l (fun z hz=>h z (by simp[hz]))]
  cases za8 seen by_ (n+1) l
  ·rfl
  ·simp;omega
theorem zeo(seen by_:Int)(l:List Ch):za8 seen by_ 0 l=some 0:=by cases l<;>rfl
theorem zij{seen by_:Int}{x:List Ch}(hx:∀y∈x,za5 seen by_ y=false):∀(l:List Ch) (n p q:Nat),p≤l.length→za8 seen by_ n l=some q→za8 seen by_ n (ins p x l)=some (if p<q then q+x.length else q)
 |l,0,p,q,_,h=>by
  rw[zeo]at h⊢
  obtain rfl:=Option.some.inj h
  simp
 |[],n+1,p,q,hp,h=>by cases h
 |y::r,n+1,0,q,hp,h=>by
  rw[ins,List.take_zero,List.drop_zero,List.nil_append,zpr x n _ hx,h]
  have:0<q:=by
   rw[za8]at h
   split at h
   ·cases hb:za8 seen by_ n r<;>rw[hb]at h<;>simp at h
    omega
   ·cases hb:za8 seen by_ (n+1) r<;>rw[hb]at h<;>simp at h
    omega
  rw[if_pos this]
  rfl
 |y::r,n+1,p+1,q,hp,h=>by
  have e:ins (p+1) x (y::r)=y::ins p x r:=rfl
  rw[e,za8]
  rw[za8]at h
  have hp':p≤r.length:=by simpa using hp
  split at h
  ·rename_i hy
   rw[if_pos hy]
   cases hb:za8 seen by_ n r with
   |none=>rw[hb]at h;cases h
   |some q'=>
    rw[hb]at h
    obtain rfl:=Option.some.inj h
    rw[zij hx r n p q' hp' hb]
    simp only[Option.map_some,Option.some.injEq,Nat.add_lt_add_iff_right]
    split<;>omega
  ·rename_i hy
   rw[if_neg hy]
   cases hb:za8 seen by_ (n+1) r with
   |none=>rw[hb]at h;cases h
   |some q'=>
    rw[hb]at h
    obtain rfl:=Option.some.inj h
    rw[zij hx r (n+1) p q' hp' hb]
    simp only[Option.map_some,Option.some.injEq,Nat.add_lt_add_iff_right]
    split<;>omega
theorem ztz{by_:Int}:∀(x l:List Ch),(∀y∈x,y.inn=za0∧y.by_≠by_)→zbm by_ (x++l)=zbm by_ l+x.length
 |[],l,_=>rfl
 |y::x,l,h=>by
  rw[List.cons_append,zbm,if_pos (h y (by simp)),ztz x l (fun z hz=>h z (by simp[hz])),List.length_cons]
  omega
theorem zty{by_:Int}{x:List Ch}(hx:∀y∈x,y.inn=za0∧y.by_≠by_):∀(l:List Ch) (j:Nat),j≤l.length→zbm by_ (ins j x l)=if zbm by_ l<j then zbm by_ l else zbm by_ l+x.length
 |l,0,_=>by
  rw[ins,List.take_zero,List.drop_zero,List.nil_append,ztz x l hx]
  simp
 |y::r,j+1,h=>by
  have e:ins (j+1) x (y::r)=y::ins j x r:=rfl
  rw[e,zbm,zbm]
  by_cases hy:y.inn=za0∧y.by_≠by_
  ·rw[if_pos hy,if_pos hy,zty hx r j (by simpa using h)]
   simp only[Nat.add_lt_add_iff_right]
   split<;>omega
  ·rw[if_neg hy,if_neg hy]
   simp
def ziv(me:Int)(l:List Ch):Prop:=∀x∈l,x.inn=za0→x.by_=me
theorem zfq{me:Int}{l:List Ch}(h:ziv me l):zbm me l=0:=by
 cases l with
 |nil=>rfl
 |cons x r=>rw[zbm,if_neg (fun e=>e.2 (h x (by simp) e.1))]
theorem ziv.drop{me:Int}{l:List Ch}(h:ziv me l)(p:Nat):ziv me (l.drop p):=fun x hx=>h x (List.mem_of_mem_drop hx)
theorem ziv.ins{me:Int}{x l:List Ch}(h:ziv me l)(hx:ziv me x)(p:Nat):ziv me (ins p x l):=fun y hy=>by
 rcases zxc.1 hy with hy|hy
 ·exact hx y hy
 ·exact h y hy
theorem zcr{d:Dd}{number:Int}{y:Ch}(h:y∈zf4 d number):y.inn=number∧y.by_=d.by_∧y.out=0∧y.gone=0∧y.no=d.no:=by
 obtain⟨j,b,rfl,_⟩:=zdp h
 exact⟨rfl,rfl,rfl,rfl,rfl⟩
theorem zle{d:Dd}{number seen by_:Int}(h:d.by_≠by_)(hn:seen<number):∀y∈zf4 d number,za5 seen by_ y=false:=by
 intro y hy
 obtain⟨j,b,rfl,_⟩:=zdp hy
 exact zqx d number seen by_ j b h hn
theorem zec{l:List Ch}{d:Dd}(h:d.at_≤cnt l d.seen d.by_):∃q,za8 d.seen d.by_ d.at_.toNat l=some q∧q≤l.length∧zbb l d=q+zbm d.by_ (l.drop q)∧zbb l d≤l.length:=by
 have hl:d.at_.toNat≤(vw l d.seen d.by_).length:=by have:=zix l d.seen d.by_;omega
 obtain⟨q,hq⟩:=zh9 hl
 have h1:=(zd5 hq).1
 have hk:=znp d.by_ (l.drop q)
 rw[List.length_drop]at hk
 have e:zbb l d=q+zbm d.by_ (l.drop q):=by rw[zbb,hq]
 exact⟨q,hq,h1,e,by omega⟩
theorem zve{p q:Nat}{x l:List Ch}(h:q≤p)(hp:p≤l.length):(ins p x l).drop q=ins (p-q) x (l.drop q):=by
 rw[ins,ins,List.drop_append_of_le_length (by rw[List.length_take];omega),List.drop_take,List.drop_drop,show q+(p-q)=p by omega]
theorem zsw{p q:Nat}{x l:List Ch}(h:p≤q)(hp:p≤l.length):(ins p x l).drop (q+x.length)=l.drop q:=by
 have e1:(l.take p).length=p:=by rw[List.length_take];omega
 have e:ins p x l=(l.take p++x)++l.drop p:=by rw[ins,List.append_assoc]
 rw[e,List.drop_append,List.drop_eq_nil_of_le (by rw[List.length_append,e1];omega),List.nil_append,List.length_append,e1,List.drop_drop]
 congr 1
 omega
theorem zwv{l x:List Ch}{d:Dd}{p:Nat}(hp:p≤l.length)(hn:d.at_≤cnt l d.seen d.by_)(hs:∀y∈x,za5 d.seen d.by_ y=false)(hx:∀y∈x,y.inn=za0∧y.by_≠d.by_):
 zbb (ins p x l) d=if zbb l d<p then zbb l d else zbb l d+x.length:=by
 obtain⟨q,hq,hql,e,_⟩:=zec hn
 have hb:=zij hs l d.at_.toNat p q hp hq
 rw[zbb,hb]
 show(if p<q then q+x.length else q)+zbm d.by_ ((ins p x l).drop (if p<q then q+x.length else q))=_
 rw[e]
 by_cases hpq:p<q
 ·rw[if_pos hpq,zsw (by omega) hp,if_neg (by omega)]
  omega
 ·rw[if_neg hpq,zve (by omega) hp,zty hx _ _ (by rw[List.length_drop];omega)]
  by_cases hk:zbm d.by_ (l.drop q)<p-q
  ·rw[if_pos hk,if_pos (by omega)]
  ·rw[if_neg hk,if_neg (by omega)]
   omega
theorem qee{l x:List Ch}{e:Dd}{p:Nat}(hp:p≤l.length)(hn:e.at_≤cnt l e.seen e.by_)(hm:ziv e.by_ l)(hs:∀y∈x,za5 e.seen e.by_ y=false)(hx:ziv e.by_ x):
 zbb (ins p x l) e=if p<zbb l e then zbb l e+x.length else zbb l e:=by
 obtain⟨q,hq,hql,e1,_⟩:=zec hn
 rw[zfq (hm.drop q),Nat.add_zero]at e1
 have hb:=zij hs l e.at_.toNat p q hp hq
 rw[zbb,hb]
 show(if p<q then q+x.length else q)+zbm e.by_ ((ins p x l).drop (if p<q then q+x.length else q))=_
 rw[zfq ((hm.ins hx p).drop _),e1]
 rfl
theorem cnt_nil(seen by_:Int):cnt [] seen by_=0:=rfl
theorem zj1(d:Dd)(number:Int):∀(a b:List Ch) (k:Int),zc0 d number k (a++b)=zc0 d number k a++zc0 d number (k+cnt a d.seen d.by_) b
 |[],b,k=>by rw[cnt_nil,Int.add_zero];rfl
 |x::a,b,k=>by
  rw[List.cons_append,zax,zax,zj1 d number a b,zt2,List.cons_append]
  congr 3
  unfold nx
  split<;>omega
theorem zmy(d:Dd)(number:Int):∀(a:List Ch) (k:Int),(∀y∈a,za5 d.seen d.by_ y=false)→zc0 d number k a=a
 |[],k,_=>rfl
 |x::a,k,h=>by
  have hx:=h x (by simp)
  rw[zax,zmy d number a _ (fun y hy=>h y (by simp[hy])),tk,if_neg (fun e=>by rw[hx]at e;exact Bool.noConfusion e.1)]
theorem qc0{a:List Ch}{seen by_:Int}(h:∀y∈a,za5 seen by_ y=false):cnt a seen by_=0:=by
 rw[←zix,qcm h];rfl
theorem ztp{d:Dd}{number:Int}{x l:List Ch}{p:Nat}(hp:p≤l.length)(hs:∀y∈x,za5 d.seen d.by_ y=false):zc0 d number 0 (ins p x l)=ins p x (zc0 d number 0 l):=by
 have e:=List.take_append_drop p l
 conv=>rhs;rw[←e]
 rw[zj1,zr6 (by rw[zgh,List.length_take];omega),ins,zj1,zj1,zmy d number x _ hs,qc0 hs,Int.add_zero]
theorem zms{e:Dd}{number seen v:Int}(hw:wrB e.by_=true)(hv:v≠e.by_)(hn:seen<number∨number=za0):∀(l:List Ch) (k:Int) (n:Nat),za8 seen v n (zc0 e number k l)=za8 seen v n l
 |l,k,0=>by rw[zeo,zeo]
 |[],k,n+1=>rfl
 |x::r,k,n+1=>by
  rw[zax,za8,za8,zyl hw hv hn,zms hw hv hn r _ n,zms hw hv hn r _ (n+1)]
theorem zl3(e:Dd)(number k:Int)(x:Ch):(tk e number k x).inn=x.inn∧(tk e number k x).by_=x.by_∧(tk e number k x).c=x.c∧(tk e number k x).no=x.no∧(tk e number k x).k=x.k:=by
 unfold tk
 split<;>exact⟨rfl,rfl,rfl,rfl,rfl⟩
theorem zyx{e:Dd}{number v:Int}:∀(l:List Ch) (k:Int),zbm v (zc0 e number k l)=zbm v l
 |[],k=>rfl
 |x::r,k=>by
  rw[zax,zbm,zbm,zyx r,(zl3 e number k x).1,(zl3 e number k x).2.1]
theorem qal(e:Dd)(number:Int)(l:List Ch)(p:Nat)(k:Int):∃j,(zc0 e number k l).drop p=zc0 e number j (l.drop p):=by
 have h:=List.take_append_drop p l
 refine⟨k+cnt (l.take p) e.seen e.by_,?_⟩
 by_cases hp:p≤l.length
 ·conv=>lhs;rw[←h,zj1]
  rw[List.drop_left' (by rw[zgh,List.length_take];omega)]
 ·rw[List.drop_eq_nil_of_le (by rw[zgh];omega),List.drop_eq_nil_of_le (by omega)]
  rfl
theorem zz8{l:List Ch}{d e:Dd}{number:Int}(hw:wrB e.by_=true)(hv:d.by_≠e.by_)(hn:d.seen<number∨number=za0):zbb (zc0 e number 0 l) d=zbb l d:=by
 unfold zbb
 rw[zms hw hv hn]
 cases za8 d.seen d.by_ d.at_.toNat l with
 |none=>rfl
 |some p=>
  obtain⟨j,hj⟩:=qal e number l p 0
  show p+zbm d.by_ ((zc0 e number 0 l).drop p)=p+zbm d.by_ (l.drop p)
  rw[hj,zyx]
theorem ze6(o:Int):zaj za0 o=o:=by
 rw[zaj,if_neg (fun h=>h.1 rfl)]
theorem qb3(a b n:Int)(x:Ch):zf1 a n (zf1 b za0 x)=zf1 b za0 (zf1 a n x):=by
 simp only[zf1,ze6,Ch.mk.injEq,true_and]
 omega
theorem zqm{d e:Dd}{n:Int}(hd:wrB d.by_=true)(he:wrB e.by_=true)(hne:d.by_≠e.by_)(hn:e.seen<n):∀(l:List Ch) (j k:Int),
 zc0 d n k (zc0 e za0 j l)=zc0 e za0 j (zc0 d n k l)
 |[],j,k=>rfl
 |x::r,j,k=>by
  have s1:za5 d.seen d.by_ (tk e za0 j x)=za5 d.seen d.by_ x:=zyl he hne (.inr rfl)
  have s2:za5 e.seen e.by_ (tk d n k x)=za5 e.seen e.by_ x:=zyl hd (Ne.symm hne) (.inl hn)
  rw[zax,zax,zax,zax]
  have n1:nx d k (tk e za0 j x)=nx d k x:=by unfold nx;rw[s1]
  have n2:nx e j (tk d n k x)=nx e j x:=by unfold nx;rw[s2]
  rw[n1,n2,zqm hd he hne hn r]
  congr 1
  rw[tk,s1]
  conv=>rhs;rw[tk,s2]
  by_cases c1:za5 d.seen d.by_ x=true∧d.at_≤k∧k<d.at_+d.many
  ·rw[if_pos c1]
   by_cases c2:za5 e.seen e.by_ x=true∧e.at_≤j∧j<e.at_+e.many
   ·rw[if_pos c2,tk,if_pos c2,tk,if_pos c1,qb3]
   ·rw[if_neg c2,tk,if_neg c2,tk,if_pos c1]
  ·rw[if_neg c1]
   by_cases c2:za5 e.seen e.by_ x=true∧e.at_≤j∧j<e.at_+e.many
   ·rw[if_pos c2,tk,if_pos c2,tk,if_neg c1]
   ·rw[if_neg c2,tk,if_neg c2,tk,if_neg c1]
theorem qg0{l:List Ch}{d e:Dd}{n:Int}(hd:wrB d.by_=true)(he:wrB e.by_=true)(hne:d.by_≠e.by_)(hm:ziv e.by_ l)(sd:d.seen<n)(se:e.seen<n)(ho:n<za0)
 (hnd:d.at_≤cnt l d.seen d.by_) (hne':e.at_≤cnt l e.seen e.by_):doL (doL l e za0) d n=doL (doL l d n) e za0:=by
 by_cases kd:d.kind=1
 ·by_cases ke:e.kind=1
  ·obtain⟨_,_,_,_,pd⟩:=zec hnd
   obtain⟨_,_,_,_,pe⟩:=zec hne'
   have h1:zbb (ins (zbb l e) (zf4 e za0) l) d=if zbb l d<zbb l e then zbb l d else zbb l d+(zf4 e za0).length:=
    zwv pe hnd (zle (Ne.symm hne) (by omega)) (fun y hy=>⟨(zcr hy).1,by rw[(zcr hy).2.1];exact Ne.symm hne⟩)
   have h2:zbb (ins (zbb l d) (zf4 d n) l) e=if zbb l d<zbb l e then zbb l e+(zf4 d n).length else zbb l e:=
    qee pd hne' hm (zle hne se) (fun y hy h=>absurd ((zcr hy).1.symm.trans h) (by omega))
   rw[zcg ke,zcg kd,zcg kd,zcg ke,h1,h2]
   by_cases c:zbb l d<zbb l e
   ·rw[if_pos c,if_pos c,zzq (by omega) pe]
   ·rw[if_neg c,if_neg c,zzq (by omega) pd]
  ·obtain⟨_,_,_,_,pd⟩:=zec hnd
   rw[zbo ke,zcg kd,zcg kd,zbo ke,zz8 he hne (.inr rfl),ztp pd (zle hne se)]
 ·by_cases ke:e.kind=1
  ·obtain⟨_,_,_,_,pe⟩:=zec hne'
   rw[zcg ke,zbo kd,zbo kd,zcg ke,zz8 hd (Ne.symm hne) (.inl se),ztp pe (zle (Ne.symm hne) (by omega))]
  ·rw[zbo ke,zbo kd,zbo kd,zbo ke,zqm hd he hne se]
theorem doC_of{l:List Ch}{d:Dd}{number:Int}(hc:za6 d=0)(hn:d.at_+d.many≤cnt l d.seen d.by_)(hl:l.length+d.text.size≤200)(h1:1≤number):doC l d number=0:=by
 have hm:zgx l d=0:=by
  rw[zgx,if_neg (fun h=>h hc),if_neg (by omega),if_neg (by omega)]
 rw[doC,if_neg (fun h=>h hm),if_neg (by omega)]
theorem vw_do{l:List Ch}{e:Dd}{number seen v:Int}(hw:wrB e.by_=true)(hv:v≠e.by_)(hn:seen<number):vw (doL l e number) seen v=vw l seen v:=doL_far hw hv hn
theorem qgh{l:List Ch}{e:Dd}{number seen v:Int}(hw:wrB e.by_=true)(hv:v≠e.by_)(hn:seen<number):cnt (doL l e number) seen v=cnt l seen v:=by
 rw[←zix,←zix,vw_do hw hv hn]
theorem zja{me:Int}{l:List Ch}{e:Dd}{number:Int}(h:ziv me l)(he:number=za0→e.by_=me):ziv me (doL l e number):=by
 by_cases ke:e.kind=1
 ·rw[zcg ke]
  exact h.ins (fun y hy hi=>by rw[(zcr hy).2.1];exact he ((zcr hy).1.symm.trans hi)) _
 ·rw[zbo ke]
  intro y hy hi
  obtain⟨x,hx,hxy⟩:=zfp hy
  rcases hxy with rfl|⟨_,rfl⟩
  ·exact h y hx hi
  ·exact h x hx hi
def zai:List Ch→List Dd→List Ch
 |l,[]=>l
 |l,e::es=>zai (doL l e za0) es
def okTop:List Ch→List Dd→Prop
 |_,[]=>True
 |l,e::es=>doC l e za0=0∧okTop (doL l e za0) es
theorem zjs:∀(es:List Dd) (l:List Ch) (e:Dd),zai l (es++[e])=doL (zai l es) e za0
 |[],_,_=>rfl
 |_::es,_,e=>zjs es _ e
theorem zk1{least seen by_:Int}(hs:least≤seen):∀(l:List Ch) (n p:Nat),za8 seen by_ n l=some p→za8 seen by_ n (ofL least l)=some (ofL least (l.take p)).length
 |l,0,p,h=>by
  rw[zeo]at h⊢
  obtain rfl:=Option.some.inj h
  rfl
 |[],n+1,p,h=>by cases h
 |x::r,n+1,p,h=>by
  rw[za8]at h
  have ec:∀t:List Ch,ofL least (x::t)=if ze7 least x=true then ofL least t else x::ofL least t:=fun t=>by
   cases hd:ze7 least x<;>simp[ofL,hd]
  by_cases hx:za5 seen by_ x=true
  ·rw[if_pos hx]at h
   have hd:¬ze7 least x=true:=fun hd=>by rw[zku hs hd]at hx;exact Bool.noConfusion hx
   cases hb:za8 seen by_ n r with
   |none=>rw[hb]at h;cases h
   |some q=>
    rw[hb]at h
    obtain rfl:=Option.some.inj h
    rw[ec,if_neg hd,za8,if_pos hx,zk1 hs r n q hb,List.take_succ_cons,ec,if_neg hd]
    rfl
  ·rw[if_neg hx]at h
   cases hb:za8 seen by_ (n+1) r with
   |none=>rw[hb]at h;cases h
   |some q=>
    rw[hb]at h
    obtain rfl:=Option.some.inj h
    rw[List.take_succ_cons,ec,ec]
    by_cases hd:ze7 least x=true
    ·rw[if_pos hd,if_pos hd,zk1 hs r (n+1) q hb]
    ·rw[if_neg hd,if_neg hd,za8,if_neg hx,zk1 hs r (n+1) q hb]
     rfl
theorem ziv.of{me:Int}{l:List Ch}(h:ziv me l)(least:Int):ziv me (ofL least l):=fun x hx=>h x ((List.mem_filter.1 hx).1)
theorem tk_done{e:Dd}{least number k:Int}{x:Ch}(hn:number=za0∨least<number)(h1:number≠0):ze7 least (tk e number k x)=ze7 least x:=by
 unfold tk
 split
 ·show decide (zaj number x.out≠0∧zaj number x.out≤least)=decide (x.out≠0∧x.out≤least)
  unfold zaj
  split
  ·rename_i h
   rw[decide_eq_decide]
   constructor
   ·intro g;omega
   ·intro g;omega
  ·rfl
 ·rfl
theorem zys{e:Dd}{least number:Int}(hs:least≤e.seen)(hn:number=za0∨least<number)(h1:number≠0):∀(l:List Ch) (k:Int),ofL least (zc0 e number k l)=zc0 e number k (ofL least l)
 |[],k=>rfl
 |x::r,k=>by
  have ec:∀(y:Ch) (t:List Ch),ofL least (y::t)=if ze7 least y=true then ofL least t else y::ofL least t:=fun y t=>by
   cases hd:ze7 least y<;>simp[ofL,hd]
  rw[zax,ec,ec,tk_done hn h1,zys hs hn h1 r]
  by_cases hd:ze7 least x=true
  ·have hx:=zku (by_:=e.by_) hs hd
   rw[if_pos hd,if_pos hd,nx,if_neg (by rw[hx];simp)]
  ·rw[if_neg hd,if_neg hd,zax]
theorem ofL_all{least:Int}{x:List Ch}(h:∀y∈x,y.out=0):ofL least x=x:=by
 unfold ofL
 rw[List.filter_eq_self]
 intro y hy
 simp[ze7,h y hy]
theorem do_of{l:List Ch}{e:Dd}{least number:Int}(hs:least≤e.seen)(hn:number=za0∨least<number)(h1:number≠0)(hm:ziv e.by_ l)(ha:e.at_≤cnt l e.seen e.by_):ofL least (doL l e number)=doL (ofL least l) e number:=by
 by_cases ke:e.kind=1
 ·obtain⟨q,hq,hql,eq,_⟩:=zec ha
  rw[zfq (hm.drop q),Nat.add_zero]at eq
  have e2:zbb (ofL least l) e=(ofL least (l.take q)).length:=by
   rw[zbb,zk1 hs l _ q hq]
   show _+zbm e.by_ _=_
   rw[zfq ((hm.of least).drop _),Nat.add_zero]
  rw[zcg ke,zcg ke,e2,eq,of_split least l q,zr6 rfl,ins,zsb,zsb,ofL_all (fun y hy=>(zcr hy).2.2.1)]
 ·rw[zbo ke,zbo ke,zys hs hn h1]
theorem qg4{l:List Ch}{e:Dd}{least number:Int}(hs:least≤e.seen)(h:doC l e number=0):doC (ofL least l) e number=0:=by
 obtain⟨h1,h2,h3,h4⟩:=zc2 h
 have:=zzc least l
 exact doC_of h1 (by rw[qgg _ hs];exact h2) (by omega) h4
theorem of_less{less more:Int}(h:less≤more)(l:List Ch):ofL less (ofL more l)=ofL more l:=by
 unfold ofL
 rw[List.filter_eq_self]
 intro x hx
 have h1:=(List.mem_filter.1 hx).2
 simp[ze7]at h1⊢
 omega
structure Ackd(n me:Int)(x y:Ch):Prop where
 c:y.c=x.c
 by_:y.by_=x.by_
 no:y.no=x.no
 k:y.k=x.k
 gone:y.gone=x.gone
 inn:y.inn=x.inn∨(x.inn=za0∧y.inn=n∧x.by_=me)
 out:y.out=x.out∨(y.out=n∧(x.out=0∨n<x.out)∧zcd x.gone me=true)
theorem Ackd.refl(n me:Int)(x:Ch):Ackd n me x x:=⟨rfl,rfl,rfl,rfl,rfl,.inl rfl,.inl rfl⟩
def zg1(n me:Int):List Ch→List Ch→Prop
 |[],[]=>True
 |x::a,y::b=>Ackd n me x y∧zg1 n me a b
 |_,_=>False
theorem zg1.refl(n me:Int):∀l,zg1 n me l l
 |[]=>trivial
 |x::l=>⟨Ackd.refl n me x,zg1.refl n me l⟩
theorem zg1.len{n me:Int}:∀{a b:List Ch},zg1 n me a b→a.length=b.length
 |[],[],_=>rfl
 |_::_,_::_,h=>by rw[List.length_cons,List.length_cons,h.2.len]
theorem zg1.app{n me:Int}:∀{a b c d:List Ch},zg1 n me a b→zg1 n me c d→zg1 n me (a++c) (b++d)
 |[],[],_,_,_,h=>h
 |_::_,_::_,_,_,h,h'=>⟨h.1,h.2.app h'⟩
theorem zg1.take{n me:Int}:∀{a b:List Ch} (p:Nat),zg1 n me a b→zg1 n me (a.take p) (b.take p)
 |_,_,0,_=>by rw[List.take_zero,List.take_zero];trivial
 |[],[],_+1,_=>trivial
 |_::_,_::_,p+1,h=>⟨h.1,h.2.take p⟩
theorem zg1.drop{n me:Int}:∀{a b:List Ch} (p:Nat),zg1 n me a b→zg1 n me (a.drop p) (b.drop p)
 |_,_,0,h=>h
 |[],[],_+1,_=>trivial
 |_::_,_::_,p+1,h=>h.2.drop p
theorem zg1.ins{n me:Int}{a b x y:List Ch}(p:Nat)(h:zg1 n me a b)(h':zg1 n me x y):zg1 n me (Go.Proofs.YtcbnnfeelhlapadGreatDoor.ins p x a) (Go.Proofs.YtcbnnfeelhlapadGreatDoor.ins p y b):=(h.take p).app (h'.app (h.drop p))
theorem Ackd.sees{n me seen:Int}{x y:Ch}(h:Ackd n me x y)(_hn:seen<n):za5 seen me y=za5 seen me x:=by
 obtain⟨c,b,no,k,g,hi,ho⟩:=h
 have e1:inB y.inn y.by_ seen me=inB x.inn x.by_ seen me:=by
  rw[b]
  rcases hi with hi|⟨_,_,hb⟩
  ·rw[hi]
  ·simp[inB,hb]
 have e2:zls y.out y.gone seen me=zls x.out x.gone seen me:=by
  rw[g]
  rcases ho with ho|⟨_,_,ht⟩
  ·rw[ho]
  ·simp[zls,ht]
 unfold za5 zi6
 rw[e1,e2]
theorem zg1.behind{n me seen:Int}(hn:seen<n):∀{a b:List Ch} (m:Nat),zg1 n me a b→za8 seen me m b=za8 seen me m a
 |_,_,0,_=>by rw[zeo,zeo]
 |[],[],_+1,_=>rfl
 |x::a,y::b,m+1,h=>by
  rw[za8,za8,h.1.sees hn,h.2.behind hn m,h.2.behind hn (m+1)]
theorem zg1.cnt{n me seen:Int}(hn:seen<n):∀{a b:List Ch},zg1 n me a b→Go.Proofs.YtcbnnfeelhlapadGreatDoor.cnt b seen me=Go.Proofs.YtcbnnfeelhlapadGreatDoor.cnt a seen me
 |[],[],_=>rfl
 |x::a,y::b,h=>by rw[zt2,zt2,h.1.sees hn,h.2.cnt hn]
theorem zg1.mine{n me:Int}(hn:n<za0):∀{a b:List Ch},zg1 n me a b→ziv me a→ziv me b
 |[],[],_,_=>fun _ hx=>absurd hx (by simp)
 |x::a,y::b,h,hm=>by
  intro z hz hi
  rcases List.mem_cons.1 hz with rfl|hz
  ·rw[h.1.by_]
   rcases h.1.inn with e|⟨_,e,_⟩
   ·exact hm x (by simp) (e▸hi)
   ·omega
  ·exact h.2.mine hn (fun w hw=>hm w (by simp[hw])) z hz hi
theorem zg1.tk{n:Int}{e:Dd}(hn:e.seen<n):∀{a b:List Ch} (k:Int),zg1 n e.by_ a b→zg1 n e.by_ (zc0 e za0 k a) (zc0 e za0 k b)
 |[],[],_,_=>trivial
 |x::a,y::b,k,h=>by
  rw[zax,zax]
  have hs:=h.1.sees hn
  have hx:nx e k y=nx e k x:=by unfold nx;rw[hs]
  rw[hx]
  refine⟨?_,h.2.tk hn _⟩
  unfold Go.Proofs.YtcbnnfeelhlapadGreatDoor.tk
  rw[hs]
  by_cases c:za5 e.seen e.by_ x=true∧e.at_≤k∧k<e.at_+e.many
  ·rw[if_pos c,if_pos c]
   have ht:=ze5 c.1
   obtain⟨h1,h2,h3,h4,h5,h6,h7⟩:=h.1
   refine⟨h1,h2,h3,h4,?_,h6,.inl ?_⟩
   ·show y.gone+_=x.gone+_
    rw[h5]
   ·show zaj za0 y.out=zaj za0 x.out
    rw[ze6,ze6]
    rcases h7 with h7|⟨_,_,h7⟩
    ·exact h7
    ·rw[ht]at h7;exact Bool.noConfusion h7
  ·rw[if_neg c,if_neg c];exact h.1
theorem zg1.do_{n:Int}{e:Dd}{a b:List Ch}(hn:e.seen<n)(ho:n<za0)(hm:ziv e.by_ a)(h:zg1 n e.by_ a b):zg1 n e.by_ (doL a e za0) (doL b e za0):=by
 by_cases ke:e.kind=1
 ·have hp:zbb b e=zbb a e:=by
   unfold zbb
   rw[h.behind hn]
   cases za8 e.seen e.by_ e.at_.toNat a with
   |none=>rfl
   |some p=>
    show p+zbm e.by_ (b.drop p)=p+zbm e.by_ (a.drop p)
    rw[zfq (hm.drop p),zfq ((h.mine ho hm).drop p)]
  rw[zcg ke,zcg ke,hp]
  exact h.ins _ (zg1.refl _ _ _)
 ·rw[zbo ke,zbo ke]
  exact h.tk hn 0
theorem qgx(d:Dd)(n:Int):∀(k:Nat) (t:List UInt8),zg1 n d.by_ (zbc d za0 k t) (zbc d n k t)
 |_,[]=>trivial
 |k,_::t=>⟨⟨rfl,rfl,rfl,rfl,rfl,.inr ⟨rfl,rfl,rfl⟩,.inl rfl⟩,qgx d n (k+1) t⟩
theorem qa1{d:Dd}{n:Int}(hw:wrB d.by_=true)(ho:n≠za0):∀(l:List Ch) (k:Int),zg1 n d.by_ (zc0 d za0 k l) (zc0 d n k l)
 |[],_=>trivial
 |x::r,k=>by
  rw[zax,zax]
  refine⟨?_,qa1 hw ho r _⟩
  unfold tk
  by_cases c:za5 d.seen d.by_ x=true∧d.at_≤k∧k<d.at_+d.many
  ·rw[if_pos c,if_pos c]
   refine⟨rfl,rfl,rfl,rfl,rfl,.inl rfl,?_⟩
   show zaj n x.out=zaj za0 x.out∨(zaj n x.out=n∧(zaj za0 x.out=0∨n<zaj za0 x.out)∧zcd (x.gone+2 ^ d.by_.toNat) d.by_=true)
   rw[ze6]
   unfold zaj
   by_cases hc:x.out=0∨n<x.out
   ·rw[if_pos ⟨ho,hc⟩]
    refine .inr ⟨rfl,hc,?_⟩
    rw[zyj hw (ze5 c.1)]
    simp
   ·rw[if_neg (fun e=>hc e.2)]
    exact .inl rfl
  ·rw[if_neg c,if_neg c];exact Ackd.refl _ _ _
theorem qgy{d:Dd}{n:Int}{l:List Ch}(hw:wrB d.by_=true)(ho:n≠za0):zg1 n d.by_ (doL l d za0) (doL l d n):=by
 by_cases kd:d.kind=1
 ·rw[zcg kd,zcg kd]
  exact(zg1.refl _ _ _).ins _ (qgx d n 0 _)
 ·rw[zbo kd,zbo kd]
  exact qa1 hw ho l 0
def Upto(me s:Int)(l:List Ch):Prop:=∀x∈l,(x.inn≤s∨x.by_=me)∧x.out≤s
theorem upto_do{me s:Int}{e:Dd}{l:List Ch}(h:Upto me s l)(hb:e.by_=me)(h0:0≤s):Upto me s (doL l e za0):=by
 by_cases ke:e.kind=1
 ·rw[zcg ke]
  intro y hy
  rcases zxc.1 hy with hy|hy
  ·obtain⟨_,p2,p3,_⟩:=zcr hy
   exact⟨.inr (p2.trans hb),by omega⟩
  ·exact h y hy
 ·rw[zbo ke]
  intro y hy
  obtain⟨x,hx,hxy⟩:=zfp hy
  rcases hxy with rfl|⟨_,rfl⟩
  ·exact h y hx
  ·refine⟨(h x hx).1,?_⟩
   show zaj za0 x.out≤s
   rw[ze6];exact(h x hx).2
theorem zyf{me s:Int}(h0:0≤s):∀(es:List Dd) {l:List Ch},Upto me s l→(∀e∈es,e.by_=me)→Upto me s (zai l es)
 |[],_,h,_=>h
 |e::es,_,h,he=>zyf h0 es (upto_do h (he e (by simp)) h0) (fun x hx=>he x (by simp[hx]))
theorem vw_ack{me s:Int}:∀{a b:List Ch},zg1 (s+1) me a b→Upto me s a→vw b (s+1) me=vw a s me
 |[],[],_,_=>rfl
 |x::a,y::b,h,hu=>by
  have ih:=vw_ack h.2 (fun z hz=>hu z (by simp[hz]))
  obtain⟨hi,ho⟩:=hu x (by simp)
  obtain⟨c,b',_,_,g,gi,go⟩:=h.1
  have e1:inB y.inn y.by_ (s+1) me=true:=by
   rw[inB,decide_eq_true_eq,b']
   rcases hi with hi|hi
   ·rcases gi with gi|⟨_,gi,_⟩
    ·exact .inl (by omega)
    ·exact .inl (by omega)
   ·exact .inr hi
  have e2:inB x.inn x.by_ s me=true:=by
   rw[inB,decide_eq_true_eq];exact hi
  have e3:zls y.out y.gone (s+1) me=zls x.out x.gone s me:=by
   rw[g]
   rcases go with go|⟨_,_,ht⟩
   ·have:decide (x.out≠0∧x.out≤s+1)=decide (x.out≠0∧x.out≤s):=by
     rw[decide_eq_decide]
     constructor<;>intro hh<;>exact⟨hh.1,by omega⟩
    rw[go,zls,zls,this]
   ·simp[zls,ht]
  have hs:za5 (s+1) me y=za5 s me x:=by
   unfold za5 zi6
   rw[e1,e2,e3]
  cases hx:za5 s me x
  ·rw[zcy _ (hs.trans hx),zcy _ hx,ih]
  ·rw[zc9 _ (hs.trans hx),zc9 _ hx,ih,c]
end Go.Proofs.YtcbnnfeelhlapadGreatDoor
namespace Go.Proofs.YtcbnnfeelhlapadGreatDoor
set_option maxHeartbeats 400000
set_option maxRecDepth 20000
open Go.RowKit
structure qc9(W:World)(seen by_ nn met:Int)(w:World):Prop where
 below:Below W.heap.size W w
 size:W.heap.size+4≤w.heap.size
 c0:w.cell? ⟨W.heap.size,0,none⟩=some (.int .i64 seen)
 c1:w.cell? ⟨W.heap.size+1,0,none⟩=some (.int .i64 by_)
 c2:w.cell? ⟨W.heap.size+2,0,none⟩=some (.int .i64 nn)
 c3:w.cell? ⟨W.heap.size+3,0,none⟩=some (.int .i64 met)
 f3:w.frozen? ⟨W.heap.size+3,0,none⟩=false
theorem qc9.after{W w w':World}{seen by_ nn met:Int}(h:qc9 W seen by_ nn met w)(hb:Below w.heap.size w w'):qc9 W seen by_ nn met w':=by
 have hs:=h.size
 obtain⟨hc,hf⟩:=zds hb
 refine⟨h.below.trans (hb.mono (by omega)),Nat.le_trans hs hb.size,?_,?_,?_,?_,?_⟩
 ·rw[hc _ _ (by omega)];exact h.c0
 ·rw[hc _ _ (by omega)];exact h.c1
 ·rw[hc _ _ (by omega)];exact h.c2
 ·rw[hc _ _ (by omega)];exact h.c3
 ·rw[hf _ _ (by omega)];exact h.f3
theorem qc9.store{W w:World}{seen by_ nn met:Int}(h:qc9 W seen by_ nn met w)(m:Int):qc9 W seen by_ nn m (w.setCell ⟨W.heap.size+3,0,none⟩ (.int .i64 m)):=by
 have hs:=h.size
 refine⟨h.below.setCell (by simp) _,by simpa [World.setCell]using hs,?_,?_,?_,?_,?_⟩
 ·rw[World.cell?_of_block (w:=w) (Below.heap_setCell _ _ _ _ (by simp))];exact h.c0
 ·rw[World.cell?_of_block (w:=w) (Below.heap_setCell _ _ _ _ (by simp))];exact h.c1
 ·rw[World.cell?_of_block (w:=w) (Below.heap_setCell _ _ _ _ (by simp))];exact h.c2
 ·have:=h.c3
  simp[go_sem,this]
 ·have:=h.f3
  simp[go_sem,this]
def qdr(seen by_:Int)(x:Ch)(met:Int):Int:=if za5 seen by_ x=true then met+1 else met
def qds(seen by_:Int)(x:Ch)(met nn:Int):Bool:=za5 seen by_ x&&(met+1==nn)
theorem zy7(x:Ch)(W:World)(seen by_ nn met:Int)(w:World)(h:qc9 W seen by_ nn met w)(h0:0≤met)(h1:met≤281474976710656):
 Calls Tryz.prog 238 (#[chV x]++ #[.pointer (some ⟨W.heap.size,0,none⟩),.pointer (some ⟨W.heap.size+1,0,none⟩),.pointer (some ⟨W.heap.size+3,0,none⟩),.pointer (some ⟨W.heap.size+2,0,none⟩)]) w
  fun e w'=>e= .returned (.bool (qds seen by_ x met nn))∧qc9 W seen by_ nn (qdr seen by_ x met) w':=by
 have H:Hid (qc9 W seen by_ nn met w):=h
 have hs:=h.size
 have c0:∀o,(w.alloc o).cell? ⟨W.heap.size,0,none⟩=some (.int .i64 seen):=fun o=>by rw[World.cell?_alloc_past _ _ _ (show W.heap.size<w.heap.size by omega)];exact h.c0
 have c1:∀o,(w.alloc o).cell? ⟨W.heap.size+1,0,none⟩=some (.int .i64 by_):=fun o=>by rw[World.cell?_alloc_past _ _ _ (show W.heap.size+1<w.heap.size by omega)];exact h.c1
 clear h
 go_enter Tryz.func238,Tryz.ntmps238
 go_wp2_with fail
 refine(zjq x _ _ _).mono ?_
 rintro e w1 ⟨rfl,hb1⟩
 have hb2:Below w.heap.size w w1:=bla ((Below.refl _ _).alloc (Nat.le_refl _) _) hb1
 have H1:Hid (qc9 W seen by_ nn met w1):=H.out.after hb2
 have g2:=H1.out.c2
 have g3:=H1.out.c3
 have gf:=H1.out.f3
 clear c0 c1 hb1 hb2 H
 cases hc:zi6 x.by_ x.inn x.out x.gone seen by_
 ·go_wp2
  go_ret
  have hx:za5 seen by_ x=false:=hc
  exact⟨zbh (by simp[qds,hx]),by simp only[qdr,hx];exact H1.out⟩
 ·have H2:Hid (qc9 W seen by_ nn (met+1) (w1.setCell ⟨W.heap.size+3,0,none⟩ (.int .i64 (met+1)))):=H1.out.store _
  have k2:=H2.out.c2
  have k3:=H2.out.c3
  go_wp2
  go_ret
  have hx:za5 seen by_ x=true:=hc
  exact⟨zbh (by simp[qds,hx]),by simp only[qdr,hx];exact H2.out⟩
def zuy(l:List Ch)(seen by_ nn:Int)(k:Nat):Bool:=
 match l[k]? with
 |some x=>qds seen by_ x (cnt (l.take k) seen by_) nn
 |none=>false
def zta(l:List Ch)(seen by_ nn r:Int):Prop:=
 (nn=0∧r=0)∨(nn≠0∧((∃k:Nat,k<l.length∧(∀j,j<k→zuy l seen by_ nn j=false)∧zuy l seen by_ nn k=true∧r=k+1)∨((∀j,j<l.length→zuy l seen by_ nn j=false)∧r= -1)))
theorem qao(l:List Ch)(seen by_:Int)(k:Nat)(h:k<l.length):qdr seen by_ l[k] (cnt (l.take k) seen by_)=cnt (l.take (k+1)) seen by_:=by
 rw[zcj l k h,zig]
 unfold qdr
 split<;>omega
theorem zy5(W:World)(b off:Nat)(l:List Ch)(seen by_ nn:Int)(hl:l.length≤281474976710656)(hr:Row W b off l):
 Step 238 #[.pointer (some ⟨W.heap.size,0,none⟩),.pointer (some ⟨W.heap.size+1,0,none⟩),.pointer (some ⟨W.heap.size+3,0,none⟩),.pointer (some ⟨W.heap.size+2,0,none⟩)] b off l
  (fun k w=>qc9 W seen by_ nn (cnt (l.take k) seen by_) w) (zuy l seen by_ nn):=by
 refine⟨fun k w h=>hr.below h.below,fun k hk w h=> ?_⟩
 have hb:=zna (l.take k) seen by_
 have hle:(l.take k).length≤l.length:=by simp;omega
 refine(zy7 l[k] W seen by_ nn (cnt (l.take k) seen by_) w h hb.1 (by omega)).mono ?_
 rintro e w' ⟨rfl,h'⟩
 rw[qao l seen by_ k hk]at h'
 refine⟨zbh ?_,h'⟩
 unfold zuy
 rw[List.getElem?_eq_getElem hk]
theorem qc5(w:World)(seen by_ nn:Int):qc9 w seen by_ nn 0 ((((w.alloc (.cells #[.int .i64 seen] 3)).alloc (.cells #[.int .i64 by_] 3)).alloc (.cells #[.int .i64 nn] 3)).alloc (.cells #[.int .i64 0] 3)):=by
 refine⟨?_,by simp,?_,?_,?_,?_,?_⟩
 ·exact((((Below.refl _ _).alloc (Nat.le_refl _) _).alloc (by simp) _).alloc (by simp;omega) _).alloc (by simp;omega) _
 ·simp[go_sem,World.cell?_alloc_past]
 ·simp[go_sem,World.cell?_alloc_past]
 ·simp[go_sem,World.cell?_alloc_past]
 ·simp[go_sem]
 ·simp[go_sem]
theorem zy3:∀args w,Sem.run Tryz.prog (callFunc 238 args) w= .ok (.enter 238 args) w:=fun _ _=>by kernel_rfl
theorem zy6(b off len cap:Nat)(l:List Ch)(seen by_ n:Int)(w:World)(hl:l.length=len)(hm:len≤281474976710656)(hr:Row w b off l):
 Calls Tryz.prog 232 #[.slice (some ⟨b,off,none⟩) len cap,.int .i64 seen,.int .i64 by_,.int .i64 n] w fun e w'=>
  ∃r,e= .returned (.int .i64 r)∧zta l seen by_ n r∧Below w.heap.size w w':=by
 by_cases h0:n=0
 ·have h0':(n==0)=true:=by simp[h0]
  have H0:Hid (n=0):=h0
  clear h0
  go_enter Tryz.func232,Tryz.ntmps232
  go_wp2
  go_ret
  exact⟨0,rfl,.inl ⟨H0.out,rfl⟩,(((Below.refl _ _).alloc (Nat.le_refl _) _).alloc (by simp) _).alloc (by simp;omega) _⟩
 ·have h0':(n==0)=false:=by simp[h0]
  have H0:Hid (n≠0):=h0
  have HL:Hid (l.length=len):=hl
  have HS:Hid _:=qc5 w seen by_ n
  have HT:Hid _:=zy5 w b off l seen by_ n (by omega) hr
  clear h0 hl hr
  have hmf:∀(fn:Fn) (first cap:Array Value) (w:World),(Instr.makeFunc fn first cap).run Tryz.prog w= .ok (.func fn first cap) w:=fun _ _ _ _=>rfl
  go_enter Tryz.func232,Tryz.ntmps232
  go_wp2_with fail
  rw[show w.heap.size+1+1+1=w.heap.size+3 from rfl,show w.heap.size+1+1=w.heap.size+2 from rfl]
  refine(zfi 238 #[.pointer (some ⟨w.heap.size,0,none⟩),.pointer (some ⟨w.heap.size+1,0,none⟩),.pointer (some ⟨w.heap.size+3,0,none⟩),.pointer (some ⟨w.heap.size+2,0,none⟩)] b off len cap l _ _ _ HL.out hm zy3 HT.out HS.out).mono ?_
  intro e w1 hres
  have H1:Hid _:=hres
  clear hres HT HS
  rcases H1.out with⟨k,hk,hno,hyes,rfl,hI⟩|⟨hno,rfl,hI⟩
  ·have H2:Hid _:=hno
   have H3:Hid _:=hyes
   have H4:Hid _:=hI
   clear H1 hno hyes hI
   go_wp2
   go_ret
   exact⟨(k:Int)+1,rfl,.inr ⟨H0.out,.inl ⟨k,by rw[HL.out];exact hk,H2.out,H3.out,rfl⟩⟩,H4.out.below⟩
  ·have H2:Hid _:=hno
   have H4:Hid _:=hI
   clear H1 hno hI
   go_wp2
   go_ret
   exact⟨-1,rfl,.inr ⟨H0.out,.inr ⟨by rw[HL.out];exact H2.out,rfl⟩⟩,H4.out.below⟩
end Go.Proofs.YtcbnnfeelhlapadGreatDoor
namespace Go.Proofs.YtcbnnfeelhlapadGreatDoor
set_option maxHeartbeats 400000
open Go.RowKit
theorem zg9{w:World}{base:Nat}{v:Value}{zs:List Int}(h:w.ownsRow base 5 1 v zs.length (zen zs)):
 (convert 42 9 v).run Tryz.prog w= .ok (.string (strOfNums zs)) w:=by
 obtain⟨h1,h2⟩:=h
 rcases h2 with⟨rfl,hn⟩|⟨g,cap,cur,rfl,hg,hh,hle,hm,hsz,hx⟩
 ·obtain rfl:zs=[]:=List.length_eq_zero_iff.1 hn
  rw[run_convert_bytes_nil w 42 5 Tryz.underlying42 Tryz.underlying5 0 0 9 Tryz.underlying9]
  rfl
 ·refine run_convert_bytes_arg w 42 5 Tryz.underlying42 Tryz.underlying5 g 0 zs.length cap zs rfl ?_ 9 Tryz.underlying9
  intro i hi
  have hown:w.ownsRow base 5 1 (.slice (some ⟨g,0,none⟩) zs.length cap) zs.length (zen zs):=⟨h1,.inr ⟨g,cap,cur,rfl,hg,hh,hle,hm,hsz,hx⟩⟩
  have:=hown.cellAt i (by omega)
  rw[Nat.zero_add,this]
  simp[zen,List.getElem?_eq_getElem hi,List.getD]
end Go.Proofs.YtcbnnfeelhlapadGreatDoor
namespace Go.Proofs.YtcbnnfeelhlapadGreatDoor
set_option maxHeartbeats 400000
set_option maxRecDepth 20000
open Go.RowKit
theorem zxy(a:Option Addr)(cap:Nat)(seen by_:Int)(w:World):
 Calls Tryz.prog 231 #[.slice a 0 cap,.int .i64 seen,.int .i64 by_] w fun e w'=>e= .returned (.int .i64 0)∧Below w.heap.size w w':=by
 go_enter Tryz.func231,Tryz.ntmps231
 go_wp2
 refine wp_loop_rounds 1 ?_
 rw[rounds_succ]
 go_wp2
 go_ret
 exact⟨rfl,Below.refl _ _⟩
theorem zgr(a:Option Addr)(cap:Nat)(f:Value)(w:World):
 Calls Tryz.prog 189 #[.slice a 0 cap,f] w fun e w'=>e= .returned (.int .i64 (-1))∧Below w.heap.size w w':=by
 go_enter Tryz.func189,Tryz.ntmps189
 go_wp2
 refine wp_loop_rounds 1 ?_
 rw[rounds_succ]
 go_wp2
 go_ret
 exact⟨rfl,Below.refl _ _⟩
def zkt(n:Int):Int:=if n=0 then 0 else-1
theorem below4(w:World)(o1 o2 o3 o4:Obj):Below w.heap.size w ((((w.alloc o1).alloc o2).alloc o3).alloc o4):=
 ((((Below.refl _ _).alloc (Nat.le_refl _) _).alloc (by simp) _).alloc (by simp;omega) _).alloc (by simp;omega) _
theorem zvr(a:Option Addr)(cap:Nat)(seen by_ n:Int)(w:World):
 Calls Tryz.prog 232 #[.slice a 0 cap,.int .i64 seen,.int .i64 by_,.int .i64 n] w fun e w'=>e= .returned (.int .i64 (zkt n))∧Below w.heap.size w w':=by
 by_cases h0:n=0
 ·have h0':(n==0)=true:=by simp[h0]
  have H0:Hid (n=0):=h0
  clear h0
  go_enter Tryz.func232,Tryz.ntmps232
  go_wp2
  go_ret
  exact⟨zad (by simp[zkt,H0.out]),(((Below.refl _ _).alloc (Nat.le_refl _) _).alloc (by simp) _).alloc (by simp;omega) _⟩
 ·have h0':(n==0)=false:=by simp[h0]
  have H0:Hid (n≠0):=h0
  clear h0
  have hmf:∀(fn:Fn) (first cap:Array Value) (w:World),(Instr.makeFunc fn first cap).run Tryz.prog w= .ok (.func fn first cap) w:=fun _ _ _ _=>rfl
  go_enter Tryz.func232,Tryz.ntmps232
  go_wp2_with fail
  refine(zgr _ _ _ _).mono ?_
  rintro e w1 ⟨rfl,hb⟩
  have HB:Hid (Below w.heap.size w w1):=bla (below4 w _ _ _ _) hb
  clear hb
  go_wp2
  go_ret
  exact⟨zad (by simp[zkt,H0.out]),HB.out⟩
theorem zy0(l:List Ch)(seen by_:Int)(k:Nat):cnt (l.take k) seen by_≤cnt l seen by_:=by
 have h:cnt (l.take k++l.drop k) seen by_=cnt (l.take k) seen by_+cnt (l.drop k) seen by_:=by
  unfold cnt
  rw[List.filter_append,List.length_append]
  omega
 rw[List.take_append_drop]at h
 have:=(zna (l.drop k) seen by_).1
 omega
theorem qfj(l:List Ch)(seen by_ nn:Int)(k:Nat)(hk:k<l.length):zuy l seen by_ nn k=true↔za5 seen by_ l[k]=true∧cnt (l.take (k+1)) seen by_=nn:=by
 unfold zuy
 rw[List.getElem?_eq_getElem hk,zcj l k hk,zig]
 simp only[qds]
 by_cases h:za5 seen by_ l[k]=true
 ·simp[h]
 ·simp[h]
theorem hit_ex(l:List Ch)(seen by_ nn:Int)(h1:0<nn):∀m,m≤l.length→nn≤cnt (l.take m) seen by_→∃k,k<m∧zuy l seen by_ nn k=true:=by
 intro m
 induction m with
 |zero=>intro _ h;simp[cnt]at h;omega
 |succ m ih=>
  intro hm h
  by_cases hle:nn≤cnt (l.take m) seen by_
  ·obtain⟨k,hk,hh⟩:=ih (by omega) hle
   exact⟨k,by omega,hh⟩
  ·refine⟨m,by omega,(qfj l seen by_ nn m (by omega)).2 ?_⟩
   have hs:=zig (l.take m) l[m] seen by_
   rw[←zcj l m (by omega)]at hs
   by_cases hx:za5 seen by_ l[m]=true
   ·rw[if_pos hx]at hs
    exact⟨hx,by omega⟩
   ·rw[if_neg hx]at hs
    omega
theorem zy4{l:List Ch}{seen by_ r:Int}(h:zta l seen by_ 0 r):r=0:=by
 rcases h with⟨_,hr⟩|⟨h,_⟩
 ·exact hr
 ·exact absurd rfl h
theorem qc6{l:List Ch}{seen by_ n r:Int}(h:zta l seen by_ n r)(h0:0<n)(hn:n≤cnt l seen by_):
 ∃m:Nat,∃hm:m<l.length,r=m+1∧cnt (l.take (m+1)) seen by_=n∧za5 seen by_ l[m]=true:=by
 rcases h with⟨rfl,_⟩|⟨_,⟨k,hk,_,hyes,hr⟩|⟨hno,_⟩⟩
 ·omega
 ·have h1:=(qfj l seen by_ n k hk).1 hyes
  exact⟨k,hk,hr,h1.2,h1.1⟩
 ·obtain⟨k,hk,hh⟩:=hit_ex l seen by_ n h0 l.length (Nat.le_refl _) (by rw[List.take_length];exact hn)
  rw[hno k hk]at hh
  cases hh
end Go.Proofs.YtcbnnfeelhlapadGreatDoor