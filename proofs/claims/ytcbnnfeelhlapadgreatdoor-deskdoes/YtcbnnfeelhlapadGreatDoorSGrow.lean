/-
  zg6 mathematics of what the document's own answer reckons: bytes of which it says what the program says. No walk.
-/
import Derived.Test.YtcbnnfeelhlapadGreatDoorWRoom
namespace Go.Proofs.YtcbnnfeelhlapadGreatDoor
open Go.RowKit
def zgs(l:List Ch):Prop:=∀x∈l,0≤x.out∧0≤x.gone∧x.gone≤15
theorem tame_nil:zgs []:=fun x hx=>by simp at hx
theorem zjo{l:List Ch}(h:zgs l)(k:Nat)(hk:k<l.length):0≤l[k].out∧l[k].inn=l[k].inn∧0≤l[k].gone∧l[k].gone≤15:=⟨(h _ (List.getElem_mem hk)).1,rfl,(h _ (List.getElem_mem hk)).2⟩
theorem zuo{last:Int→Int}{i:Nat}{l:List Ch}(h:qce last i l)(_hi:i≤1000):zgs l:=by
 intro x hx
 have h1:=h.out x hx
 have h3:=h.gone x hx
 exact⟨h1.1,h3.1,h3.2⟩
theorem zje{b:Bk}(h:zcm b):qce (zft b.ds) b.ds.length b.chars:=by
 have:=(zsl b.ds [] [] h.ok (by have:=h.small;simp;omega) zzh rfl (Nat.zero_le _) h.all0).1
 exact this
theorem zjd{b:Bk}(h:zcm b):zgs b.chars:=zuo (zje h) (by have:=h.small;omega)
theorem zv4{l:List Ch}(h:zgs l):zg7 l:=fun x hx=>by
 have:=h x hx
 omega
theorem tame_new(d:Dd)(n:Int):zgs (zf4 d n):=by
 intro x hx
 obtain⟨j,b,rfl,_⟩:=zdp hx
 show 0≤(0:Int)∧0≤(0:Int)∧(0:Int)≤15
 omega
theorem zx1{number out:Int}(h:0≤out)(hn:1≤number):0≤zaj number out:=by
 unfold zaj
 split<;>omega
theorem zyp{l:List Ch}{d:Dd}{number:Int}(h:zgs l)(hc:za6 d=0)(h1:1≤number):zgs (doL l d number):=by
 obtain⟨_,hw,_⟩:=zah hc
 by_cases hk:d.kind=1
 ·rw[doL,if_pos hk]
  intro x hx
  rcases List.mem_append.1 hx with hx|hx
  ·exact h x (List.mem_of_mem_take hx)
  ·rcases List.mem_append.1 hx with hx|hx
   ·exact tame_new d _ x hx
   ·exact h x (List.mem_of_mem_drop hx)
 ·rw[doL,if_neg hk]
  intro y hy
  obtain⟨x,hx,hyx⟩:=zfp hy
  obtain⟨g1,g3,g4⟩:=h x hx
  rcases hyx with rfl|⟨hs,rfl⟩
  ·exact⟨g1,g3,g4⟩
  ·have h3:=znv hw (ze5 hs) g3 g4
   exact⟨zx1 g1 h1,h3.1,h3.2.1⟩
theorem tame_do{l:List Ch}{d:Dd}{number:Int}(h:zgs l)(hc:za6 d=0)(h1:1≤number)(_h2:number≤1000):zgs (doL l d number):=zyp h hc h1
theorem out_tame{o g seen by_:Int}(h:0≤o):(zcd g by_||(decide (0<o)&&decide (o≤seen)))=zls o g seen by_:=by
 unfold zls
 rw[Bool.or_comm]
 congr 1
 rw[Bool.eq_iff_iff]
 simp
 omega
theorem zm2{d:Dd}{number:Int}(x:Ch):∀(l:List Ch) (k:Int),zc0 d number k (l++[x])=zc0 d number k l++[if za5 d.seen d.by_ x=true then(if d.at_≤k+cnt l d.seen d.by_∧k+cnt l d.seen d.by_<d.at_+d.many then zf1 d.by_ number x else x)else x]
 |[],k=>by
  have e:cnt [] d.seen d.by_=0:=rfl
  rw[List.nil_append,zc0,zc0,zc0,zc0,e,Int.add_zero]
  split<;>rfl
 |y::r,k=>by
  rw[List.cons_append,zc0,zc0]
  by_cases hy:za5 d.seen d.by_ y=true
  ·have e:cnt (y::r) d.seen d.by_=cnt r d.seen d.by_+1:=by simp[cnt,hy]
   rw[if_pos hy,if_pos hy,zm2 x r (k+1),List.cons_append,e,show k+1+cnt r d.seen d.by_=k+(cnt r d.seen d.by_+1) by omega]
  ·have e:cnt (y::r) d.seen d.by_=cnt r d.seen d.by_:=by simp[cnt,hy]
   rw[if_neg hy,if_neg hy,zm2 x r k,List.cons_append,e]
def BTo(l:List Ch)(seen by_:Int)(n i k:Nat):Prop:=k<n∧za8 seen by_ n l=(za8 seen by_ (n-k) (l.drop i)).map (· +i)
theorem qgo(l:List Ch)(seen by_:Int){n:Nat}(h:0<n):BTo l seen by_ n 0 0:=by
 refine⟨h,?_⟩
 simp
theorem bto_miss{l:List Ch}{seen by_:Int}{n i k:Nat}(h:BTo l seen by_ n i k)(hi:i<l.length)(hs:za5 seen by_ l[i]=false):BTo l seen by_ n (i+1) k:=by
 refine⟨h.1,?_⟩
 rw[h.2,List.drop_eq_getElem_cons hi]
 obtain⟨m,hm⟩:∃m,n-k=m+1:=⟨n-k-1,by have:=h.1;omega⟩
 rw[hm,za8,if_neg (by simp[hs]),Option.map_map]
 congr 1
 funext x
 show x+1+i=x+(i+1)
 omega
theorem bto_met{l:List Ch}{seen by_:Int}{n i k:Nat}(h:BTo l seen by_ n i k)(hi:i<l.length)(hs:za5 seen by_ l[i]=true)(hk:k+1≠n):BTo l seen by_ n (i+1) (k+1):=by
 have h1:=h.1
 refine⟨by omega,?_⟩
 rw[h.2,List.drop_eq_getElem_cons hi]
 obtain⟨m,hm⟩:∃m,n-k=m+1:=⟨n-k-1,by omega⟩
 rw[hm,za8,if_pos hs,Option.map_map,show n-(k+1)=m by omega]
 congr 1
 funext x
 show x+1+i=x+(i+1)
 omega
theorem bto_hit{l:List Ch}{seen by_:Int}{n i k:Nat}(h:BTo l seen by_ n i k)(hi:i<l.length)(hs:za5 seen by_ l[i]=true)(hk:k+1=n):za8 seen by_ n l=some (i+1):=by
 have h1:=h.1
 rw[h.2,List.drop_eq_getElem_cons hi,show n-k=0+1 by omega,za8,if_pos hs]
 have e:za8 seen by_ 0 (l.drop (i+1))=some 0:=by cases l.drop (i+1)<;>rfl
 rw[e]
 show some (0+1+i)=some (i+1)
 congr 1
 omega
theorem bto_end{l:List Ch}{seen by_:Int}{n k:Nat}(h:BTo l seen by_ n l.length k):za8 seen by_ n l=none:=by
 have h1:=h.1
 rw[h.2,List.drop_eq_nil_of_le (Nat.le_refl _),show n-k=(n-k-1)+1 by omega,za8]
 rfl
def zps(l:List Ch)(seen by_:Int)(n:Nat):Int:=match za8 seen by_ n l with
 |some p=>p
 |none=> -1
theorem znc{l:List Ch}{seen by_:Int}{n p:Nat}(h:za8 seen by_ n l=some p):zps l seen by_ n=p:=by rw[zps,h]
theorem zvs{l:List Ch}{seen by_:Int}{n:Nat}(h:za8 seen by_ n l=none):zps l seen by_ n= -1:=by rw[zps,h]
theorem qdg{l:List Ch}(h:∀x∈l,0≤x.out∧x.out≤1000∧x.inn≤1000∧0≤x.by_):vw l 1073741823 (-1)=zdi l:=by
 unfold vw zdi
 congr 1
 apply List.filter_congr
 intro x hx
 obtain⟨h1,h2,h3,h4⟩:=h x hx
 have hw:wrB (-1)=false:=by decide
 show(inB x.inn x.by_ 1073741823 (-1)&& !zls x.out x.gone 1073741823 (-1))=zgg x
 rw[zls,zcd,hw,zgg,zv1,inB]
 rw[Bool.eq_iff_iff]
 simp[za0]
 omega
theorem qfo{b:Bk}(h:zcm b):vw b.chars 1073741823 (-1)=zdi b.chars:=by
 have hm:=zje h
 have hs:=h.small
 refine qdg (fun x hx=> ?_)
 have h1:=hm.out x hx
 have h2:=hm.inn x hx
 have h3:=hm.wr x hx
 have h4:0≤x.by_∧x.by_≤3:=by simpa [wrB]using h3
 omega
theorem mayR{l:List Ch}{d:Dd}(h:za6 d=0):zgx l d=if cnt l d.seen d.by_<d.at_∨cnt l d.seen d.by_<d.at_+d.many then 1 else if 200<l.length+d.text.size then 9 else 0:=by
 have hm:=(zah h).2.2.2.2.2.2.2.2.1
 rw[zgx,if_neg (fun e=>e h)]
 by_cases h1:cnt l d.seen d.by_<d.at_+d.many
 ·rw[if_pos h1,if_pos (.inr h1)]
 ·have h2:¬(cnt l d.seen d.by_<d.at_∨cnt l d.seen d.by_<d.at_+d.many):=by omega
  rw[if_neg h1,if_neg h2]
end Go.Proofs.YtcbnnfeelhlapadGreatDoor
namespace Go.Proofs.YtcbnnfeelhlapadGreatDoor
structure Tst where
 kind:Int
 w:Int
 at_:Int
 many:Int
 text:ByteArray
structure Twn where
 b:Bk
 ws:Int→Option Wr
def zau(b:Bk)(seen:Nat):Int:=(b.ds.drop seen).foldl (fun n d=>if d.seen<n then d.seen else n) (zao b)
def ownD(w:Wr)(s:Tst):Dd:=if s.kind=2 then⟨1,w.me,w.next,w.seen,s.at_,0,s.text⟩else⟨2,w.me,w.next,w.seen,s.at_,s.many,ByteArray.empty⟩
theorem dd_eq(a b:Dd):(a.kind=b.kind∧a.by_=b.by_∧a.no=b.no∧a.seen=b.seen∧a.at_=b.at_∧a.many=b.many∧a.text.data=b.text.data)↔a=b:=by
 obtain⟨a1,a2,a3,a4,a5,a6,⟨a7⟩⟩:=a
 obtain⟨b1,b2,b3,b4,b5,b6,⟨b7⟩⟩:=b
 simp
instance:DecidableEq Dd:=fun a b=>decidable_of_iff _ (dd_eq a b)
def zkv(w:Wr)(e:Dd):Wr:=⟨w.me,w.seen,w.next+1,w.base,w.opens++[e],w.sent⟩
def zdj(w:Wr):Wr:=⟨w.me,w.seen,w.next,w.base,w.opens,w.sent+1⟩
def zbd(w:Wr)(d:Dd):Int:=if d.by_≠w.me then doC w.list d ((w.seen:Int)+1)else if w.opens.head? =some d then 0 else 12
def zav(w:Wr)(d:Dd):Wr:=
 if d.by_≠w.me then⟨w.me,w.seen+1,w.next,doL w.base d ((w.seen:Int)+1),w.opens,w.sent⟩else⟨w.me,w.seen+1,w.next,doL w.base d ((w.seen:Int)+1),w.opens.tail,w.sent-1⟩
def zfw(w:Wr)(least:Int):Wr:=⟨w.me,w.seen,w.next,ofL least w.base,w.opens,w.sent⟩
def newW(b:Bk)(v:Int):Wr:=⟨v,b.ds.length,b.last v+1,b.chars,[],0⟩
def zdl(t:Twn)(v:Int):Twn:=⟨zcs t.b v,zab t.ws v none⟩
def ze0(t:Twn)(v:Int)(w:Wr):Int×Twn:=
 match w.opens[w.sent]? with
 |none=>(5,t)
 |some d=>(za4 t.b d,if za4 t.b d=0 then⟨zat t.b d,zab t.ws v (some (zdj w))⟩else zdl t v)
def zdk(t:Twn)(v:Int)(w:Wr):Int×Twn:=
 match t.b.ds[w.seen]? with
 |none=>(5,t)
 |some d=>if zbd w d=0 then(zd4 t.b v (zav w d).least,⟨zcz t.b v (zav w d).least,zab t.ws v (some (zav w d))⟩)else(zbd w d,zdl t v)
def qay(t:Twn)(v:Int)(w:Wr)(s:Tst):Int×Twn:=
 (doC w.list (ownD w s) za0,if doC w.list (ownD w s) za0=0 then⟨t.b,zab t.ws v (some (zkv w (ownD w s)))⟩else t)
def zsp(t:Twn)(v:Int):Int×Twn:=
 (zc6 t.b v,if zc6 t.b v=0 then⟨zbw t.b v,zab t.ws v (some (newW t.b v))⟩else t)
def tDo(t:Twn)(s:Tst):Int×Twn:=
 if s.kind<1∨7<s.kind then(2,t)else if s.kind=1 then zsp t s.w else
  match t.ws s.w with
  |none=>(5,t)
  |some w=>
   if s.kind=2∨s.kind=3 then qay t s.w w s else if s.kind=4 then ze0 t s.w w else if s.kind=5 then zdk t s.w w
   else if s.kind=6 then(0,⟨t.b,zab t.ws s.w (some (zfw w (zau t.b w.seen)))⟩)else(0,zdl t s.w)
structure TwI(t:Twn):Prop where
 good:zcm t.b
 wi:∀k w,t.ws k=some w→w.me=k∧∃c,WI t.b c w
 here:∀k,t.b.here k=true→∃w,t.ws k=some w
 none:∀k,wrB k=false→t.ws k=none
theorem qcr:TwI ⟨Bk.empty,fun _=>none⟩:=by
 refine⟨qbj,fun k w h=> ?_,fun k h=> ?_,fun _ _=>rfl⟩
 ·cases h
 ·cases h
theorem TwI.set{t:Twn}(h:TwI t){b':Bk}{v:Int}{w':Wr}(hg:zcm b')(hv:wrB v=true)(hm:w'.me=v)(hw:∃c,WI b' c w')(ho:∀k w c,k≠v→t.ws k=some w→WI t.b c w→WI b' c w)(hh:∀k,k≠v→b'.here k=true→t.b.here k=true):
 TwI ⟨b',zab t.ws v (some w')⟩:=by
 refine⟨hg,fun k w hk=> ?_,fun k hk=> ?_,fun k hk=> ?_⟩
 ·have hk':zab t.ws v (some w') k=some w:=hk
  by_cases e:k=v
  ·subst e
   rw[zaf,Option.some.injEq]at hk'
   subst hk'
   exact⟨hm,hw⟩
  ·rw[za9 _ _ e]at hk'
   obtain⟨h1,c,h2⟩:=h.wi k w hk'
   exact⟨h1,c,ho k w c e hk' h2⟩
 ·show∃w,zab t.ws v (some w') k=some w
  by_cases e:k=v
  ·subst e
   exact⟨w',zaf _ _ _⟩
  ·rw[za9 _ _ e]
   exact h.here k (hh k e hk)
 ·show zab t.ws v (some w') k=Option.none
  have e:k≠v:=fun e=>by subst e;rw[hv]at hk;cases hk
  rw[za9 _ _ e]
  exact h.none k hk
theorem TwI.drop{t:Twn}(h:TwI t){v:Int}(hv:t.b.isHere v=true):TwI (zdl t v):=by
 refine⟨qbi v h.good,fun k w hk=> ?_,fun k hk=> ?_,fun k hk=> ?_⟩
 ·have hk':zab t.ws v Option.none k=some w:=hk
  by_cases e:k=v
  ·subst e
   rw[zaf]at hk';cases hk'
  ·rw[za9 _ _ e]at hk'
   obtain⟨h1,c,h2⟩:=h.wi k w hk'
   exact⟨h1,c,h2.other_leaves (by rw[h1];exact Ne.symm e)⟩
 ·have hl:zhs t.b v=0:=by rw[zhs,if_pos hv]
  have hk':(zcs t.b v).here k=true:=hk
  rw[zcs,if_pos hl]at hk'
  have hk'':zab t.b.here v false k=true:=hk'
  show∃w,zab t.ws v Option.none k=some w
  by_cases e:k=v
  ·subst e
   rw[zaf]at hk'';cases hk''
  ·rw[za9 _ _ e]at hk''⊢
   exact h.here k hk''
 ·show zab t.ws v Option.none k=Option.none
  by_cases e:k=v
  ·subst e;exact zaf _ _ _
  ·rw[za9 _ _ e];exact h.none k hk
theorem TwI.is_here{t:Twn}(h:TwI t){v:Int}{w:Wr}(hw:t.ws v=some w):t.b.isHere v=true∧wrB v=true:=by
 obtain⟨rfl,c,hi⟩:=h.wi v w hw
 exact⟨by rw[Bk.isHere,hi.wr,hi.here];rfl,hi.wr⟩
theorem zuq(b:Bk)(seen:Nat):zau b seen≤zao b∧∀d∈b.ds.drop seen,zau b seen≤d.seen:=by
 have:∀(l:List Dd) (n:Int),l.foldl (fun n d=>if d.seen<n then d.seen else n) n≤n∧∀d∈l,l.foldl (fun n d=>if d.seen<n then d.seen else n) n≤d.seen:=by
  intro l
  induction l with
  |nil=>exact fun n=>⟨Int.le_refl _,fun d hd=>absurd hd (by simp)⟩
  |cons x l ih=>
   intro n
   obtain⟨i1,i2⟩:=ih (if x.seen<n then x.seen else n)
   have hle:(if x.seen<n then x.seen else n)≤n∧(if x.seen<n then x.seen else n)≤x.seen:=by split<;>omega
   rw[List.foldl_cons]
   refine⟨by omega,fun d hd=> ?_⟩
   rcases List.mem_cons.1 hd with rfl|hd
   ·omega
   ·exact i2 d hd
 exact this _ _
theorem ti_join{t:Twn}(h:TwI t)(v:Int):TwI (zsp t v).2:=by
 unfold zsp
 by_cases hc:zc6 t.b v=0
 ·show TwI (if zc6 t.b v=0 then _ else _)
  rw[if_pos hc]
  have hv:wrB v=true:=by
   unfold zc6 at hc
   cases hh:wrB v
   ·rw[if_pos hh]at hc;cases hc
   ·rfl
  refine h.set (zpa v h.good) hv rfl ⟨0,WI.comes_in h.good hc⟩ (fun k w c hk hw hi=> ?_) (fun k hk hh=> ?_)
  ·obtain⟨h1,_⟩:=h.wi k w hw
   exact hi.other_joins (by rw[h1];exact Ne.symm hk)
  ·rw[zbw,if_pos hc]at hh
   have hh':zab t.b.here v true k=true:=hh
   rw[za9 _ _ hk]at hh'
   exact hh'
 ·show TwI (if zc6 t.b v=0 then _ else _)
  rw[if_neg hc];exact h
theorem zue(w:Wr)(s:Tst):(ownD w s).by_=w.me∧(ownD w s).no=w.next∧(ownD w s).seen=w.seen:=by
 unfold ownD
 split<;>exact⟨rfl,rfl,rfl⟩
theorem ti_own{t:Twn}(h:TwI t){v:Int}{w:Wr}(hw:t.ws v=some w)(s:Tst):TwI (qay t v w s).2:=by
 obtain⟨hm,c,hi⟩:=h.wi v w hw
 obtain⟨o1,o2,o3⟩:=zue w s
 unfold qay
 show TwI (if doC w.list (ownD w s) za0=0 then _ else _)
 by_cases hc:doC w.list (ownD w s) za0=0
 ·rw[if_pos hc]
  exact h.set h.good (h.is_here hw).2 hm ⟨c,hi.does h.good o1 o2 o3 hc⟩ (fun _ _ _ _ _ x=>x) (fun _ _ x=>x)
 ·rw[if_neg hc];exact h
theorem ti_send{t:Twn}(h:TwI t){v:Int}{w:Wr}(hw:t.ws v=some w):TwI (ze0 t v w).2:=by
 obtain⟨hm,c,hi⟩:=h.wi v w hw
 unfold ze0
 cases hd:w.opens[w.sent]? with
 |none=>exact h
 |some d=>
  show TwI (if za4 t.b d=0 then _ else _)
  by_cases hc:za4 t.b d=0
  ·rw[if_pos hc]
   have hb:=(hi.own d (List.mem_of_getElem? hd)).1
   refine h.set (qbk d h.good) (h.is_here hw).2 hm ⟨c,hi.sent_ok hd hc⟩ (fun k w' c' hk hw' hi'=> ?_) (fun k _ hh=> ?_)
   ·obtain⟨h1,_⟩:=h.wi k w' hw'
    exact hi'.other_comes (by rw[hb,hm,h1];exact Ne.symm hk) hc
   ·rw[zt1 hc]at hh
    exact hh
  ·rw[if_neg hc]
   exact h.drop (h.is_here hw).1
theorem hear_ok{b:Bk}{c:Int}{w:Wr}(hi:WI b c w)(hg:zcm b){d:Dd}(hd:b.ds[w.seen]? =some d):(zbd w d=0∨zbd w d=9)∧(zbd w d=0→WI b c (zav w d)):=by
 obtain⟨hl,rfl⟩:=List.getElem?_eq_some_iff.1 hd
 unfold zbd zav
 by_cases hb:b.ds[w.seen].by_=w.me
 ·have hnb:¬b.ds[w.seen].by_≠w.me:=fun x=>x hb
  rw[if_neg hnb,if_neg hnb]
  obtain⟨es,he,h1⟩:=hi.own_first hl hb
  have hh:w.opens.head? =some b.ds[w.seen]:=by rw[he];rfl
  have ht:w.opens.tail=es:=by rw[he];rfl
  rw[if_pos hh,ht]
  exact⟨.inl rfl,fun _=>(hi.hears_own hg hl he h1 hb).1⟩
 ·rw[if_pos hb,if_pos hb]
  obtain⟨h1,h2⟩:=hi.hears_other hg hl hb
  exact⟨h1,fun hc=>(h2 hc).2⟩
theorem zss(w:Wr)(d:Dd):(zav w d).me=w.me∧(zav w d).seen=w.seen+1:=by
 unfold zav
 split<;>exact⟨rfl,rfl⟩
theorem ti_hear{t:Twn}(h:TwI t){v:Int}{w:Wr}(hw:t.ws v=some w):TwI (zdk t v w).2∧(∀d,t.b.ds[w.seen]? =some d→zbd w d=0→(zdk t v w).1=0):=by
 obtain⟨hm,c,hi⟩:=h.wi v w hw
 unfold zdk
 cases hd:t.b.ds[w.seen]? with
 |none=>exact⟨h,fun d hd=>by cases hd⟩
 |some d=>
  obtain⟨_,h2⟩:=hear_ok hi h.good hd
  by_cases hc:zbd w d=0
  ·have hs:=(h2 hc).says
   rw[(zss w d).1,hm]at hs
   show TwI (if zbd w d=0 then(_,_)else(_,_)).2∧_
   refine⟨?_,fun d' hd' hc'=> ?_⟩
   ·rw[if_pos hc]
    refine h.set (qfp _ _ h.good) (h.is_here hw).2 ((zss w d).1.trans hm) ⟨c,hs.2⟩ (fun k w' c' hk hw' hi'=> ?_) (fun k _ hh=> ?_)
    ·obtain⟨h1,_⟩:=h.wi k w' hw'
     exact hi'.other_says (by rw[h1];exact Ne.symm hk)
    ·rw[zcz,if_pos hs.1]at hh
     exact hh
   ·show(if zbd w d=0 then(_,_)else(_,_)).1=(0:Int)
    rw[if_pos hc]
    exact hs.1
  ·show TwI (if zbd w d=0 then(_,_)else(_,_)).2∧_
   refine⟨?_,fun d' hd' hc'=> ?_⟩
   ·rw[if_neg hc]
    exact h.drop (h.is_here hw).1
   ·obtain rfl:=Option.some.inj hd'
    exact absurd hc' hc
end Go.Proofs.YtcbnnfeelhlapadGreatDoor
namespace Go.Proofs.YtcbnnfeelhlapadGreatDoor
theorem says_ds(b:Bk)(v n:Int):(zcz b v n).ds=b.ds:=by unfold zcz;split<;>rfl
theorem leave_ds(b:Bk)(v:Int):(zcs b v).ds=b.ds:=by unfold zcs;split<;>rfl
theorem hear_ds(t:Twn)(v:Int)(w:Wr):(zdk t v w).2.b.ds=t.b.ds:=by
 unfold zdk
 cases t.b.ds[w.seen]? with
 |none=>rfl
 |some d=>
  show(if zbd w d=0 then(zd4 t.b v (zav w d).least,(⟨zcz t.b v (zav w d).least,zab t.ws v (some (zav w d))⟩:Twn))else(zbd w d,zdl t v)).2.b.ds=_
  split
  ·exact says_ds _ _ _
  ·exact leave_ds _ _
end Go.Proofs.YtcbnnfeelhlapadGreatDoor
namespace Go.Proofs.YtcbnnfeelhlapadGreatDoor
def unsent(t:Twn)(v:Int):Nat:=match t.ws v with
 |none=>0
 |some w=>w.opens.length-w.sent
def zev(t:Twn)(v:Int):Nat:=match t.ws v with
 |none=>0
 |some w=>t.b.ds.length-w.seen
theorem qe2{t:Twn}{v:Int}{w:Wr}(hc:(ze0 t v w).1=0):∃d,w.opens[w.sent]? =some d∧za4 t.b d=0∧(ze0 t v w).2=⟨zat t.b d,zab t.ws v (some (zdj w))⟩:=by
 unfold ze0 at hc⊢
 cases hd:w.opens[w.sent]? with
 |none=>rw[hd]at hc;cases hc
 |some d=>
  rw[hd]at hc
  have hc':za4 t.b d=0:=hc
  refine⟨d,rfl,hc',?_⟩
  show(if za4 t.b d=0 then _ else _)=_
  rw[if_pos hc']
theorem qfl{t:Twn}{v:Int}{w:Wr}(hc:(zdk t v w).1=0):∃d,t.b.ds[w.seen]? =some d∧zbd w d=0∧(zdk t v w).2=⟨zcz t.b v (zav w d).least,zab t.ws v (some (zav w d))⟩:=by
 unfold zdk at hc⊢
 cases hd:t.b.ds[w.seen]? with
 |none=>rw[hd]at hc;cases hc
 |some d=>
  rw[hd]at hc
  by_cases hz:zbd w d=0
  ·refine⟨d,rfl,hz,?_⟩
   show(if zbd w d=0 then _ else _:Int×Twn).2=_
   rw[if_pos hz]
  ·have hc':(if zbd w d=0 then(zd4 t.b v (zav w d).least,(⟨zcz t.b v (zav w d).least,zab t.ws v (some (zav w d))⟩:Twn))else(zbd w d,zdl t v)).1=0:=hc
   rw[if_neg hz]at hc'
   exact absurd hc' hz
theorem zi3{t:Twn}{v:Int}{w:Wr}(hw:t.ws v=some w)(hc:(ze0 t v w).1=0):unsent (ze0 t v w).2 v<unsent t v:=by
 obtain⟨d,hd,_,he⟩:=qe2 hc
 have hl:=(List.getElem?_eq_some_iff.1 hd).1
 have e1:(ze0 t v w).2.ws v=some (zdj w):=by rw[he];exact zaf _ _ _
 unfold unsent
 rw[e1,hw]
 show w.opens.length-(w.sent+1)<w.opens.length-w.sent
 omega
theorem zh1{t:Twn}{v:Int}{w:Wr}(hw:t.ws v=some w)(hc:(zdk t v w).1=0):zev (zdk t v w).2 v<zev t v:=by
 obtain⟨d,hd,_,he⟩:=qfl hc
 have hl:=(List.getElem?_eq_some_iff.1 hd).1
 have e1:(zdk t v w).2.ws v=some (zav w d):=by rw[he];exact zaf _ _ _
 unfold zev
 rw[e1,hw,hear_ds]
 show t.b.ds.length-(zav w d).seen<t.b.ds.length-w.seen
 rw[(zss w d).2]
 omega
def zc5(t:Twn)(v:Int):Twn:=
 match _hw:t.ws v with
 |none=>t
 |some w=>if _hc:(ze0 t v w).1=0 then zc5 (ze0 t v w).2 v else(ze0 t v w).2
termination_by unsent t v
decreasing_by exact zi3 _hw _hc
def zc7(t:Twn)(v:Int):Twn:=
 match _hw:t.ws v with
 |none=>t
 |some w=>if _hc:(zdk t v w).1=0 then zc7 (zdk t v w).2 v else(zdk t v w).2
termination_by zev t v
decreasing_by exact zh1 _hw _hc
theorem zfr{t:Twn}{v:Int}(h:t.ws v=none):zc5 t v=t:=by
 rw[zc5]
 split
 ·rfl
 ·rename_i w hw;rw[h]at hw;cases hw
theorem zee{t:Twn}{v:Int}{w:Wr}(h:t.ws v=some w):zc5 t v=if(ze0 t v w).1=0 then zc5 (ze0 t v w).2 v else(ze0 t v w).2:=by
 rw[zc5]
 split
 ·rename_i hw;rw[h]at hw;cases hw
 ·rename_i w' hw
  rw[h,Option.some.injEq]at hw
  subst hw
  split<;>rfl
theorem zfu{t:Twn}{v:Int}(h:t.ws v=none):zc7 t v=t:=by
 rw[zc7]
 split
 ·rfl
 ·rename_i w hw;rw[h]at hw;cases hw
theorem zel{t:Twn}{v:Int}{w:Wr}(h:t.ws v=some w):zc7 t v=if(zdk t v w).1=0 then zc7 (zdk t v w).2 v else(zdk t v w).2:=by
 rw[zc7]
 split
 ·rename_i hw;rw[h]at hw;cases hw
 ·rename_i w' hw
  rw[h,Option.some.injEq]at hw
  subst hw
  split<;>rfl
theorem zwl{v:Int}(P:Twn→Prop)(hs:∀t w,P t→t.ws v=some w→P (ze0 t v w).2):∀(n:Nat) (t:Twn),unsent t v=n→P t→P (zc5 t v):=by
 intro n
 induction n using Nat.strongRecOn with
 |ind n ih=>
  intro t hn h
  cases hw:t.ws v with
  |none=>rw[zfr hw];exact h
  |some w=>
   rw[zee hw]
   split
   ·rename_i hc
    exact ih _ (by rw[←hn];exact zi3 hw hc) _ rfl (hs t w h hw)
   ·exact hs t w h hw
theorem zxj{v:Int}(P:Twn→Prop)(hs:∀t w,P t→t.ws v=some w→P (zdk t v w).2):∀(n:Nat) (t:Twn),zev t v=n→P t→P (zc7 t v):=by
 intro n
 induction n using Nat.strongRecOn with
 |ind n ih=>
  intro t hn h
  cases hw:t.ws v with
  |none=>rw[zfu hw];exact h
  |some w=>
   rw[zel hw]
   split
   ·rename_i hc
    exact ih _ (by rw[←hn];exact zh1 hw hc) _ rfl (hs t w h hw)
   ·exact hs t w h hw
def zdg:Nat→Twn→Twn
 | 0,t=>t
 |n+1,t=>zc5 (zdg n t) n
def zh7:Nat→Twn→Twn
 | 0,t=>t
 |n+1,t=>zc7 (zh7 n t) n
def zdz(t:Twn):Twn:=zh7 4 (zdg 4 t)
end Go.Proofs.YtcbnnfeelhlapadGreatDoor
namespace Go.Proofs.YtcbnnfeelhlapadGreatDoor
def visL(ds:List Dd)(n:Nat):List Ch:=(zar ds n).filter zgg
theorem text_out{b:Bk}(hg:zcm b){n:Nat}(hn:n≤b.ds.length){x:Ch}(hx:x∈zar b.ds n):zgg x=decide (x.out=0):=by
 obtain⟨hm,_⟩:=zco hg n hn
 have h1:=hm.inn x hx
 have h2:=hm.out x hx
 have hs:=hg.small
 have e1:x.inn≠1073741824:=by omega
 have e2:x.out≠1073741824:=by omega
 unfold zgg zv1
 by_cases ho:x.out=0
 ·simp[ho,e1]
 ·simp[ho,e1,e2]
theorem zoo{b:Bk}(hg:zcm b){n:Nat}(hn:n≤b.ds.length){s:Int}(hs:(n:Int)≤s){x:Ch}(hx:x∈zar b.ds n):za5 s (-1) x=zgg x:=by
 rw[text_out hg hn hx]
 obtain⟨hm,_⟩:=zco hg n hn
 have h1:=hm.inn x hx
 have h2:=hm.out x hx
 have hw:wrB (-1)=false:=by decide
 have e1:inB x.inn x.by_ s (-1)=true:=by rw[inB,decide_eq_true_eq];exact .inl (by omega)
 unfold za5 zi6 zls
 rw[e1,zcd,hw]
 by_cases ho:x.out=0
 ·simp[ho]
 ·have:x.out≠0∧x.out≤s:=⟨ho,by omega⟩
  simp[ho,this]
end Go.Proofs.YtcbnnfeelhlapadGreatDoor
namespace Go.Proofs.YtcbnnfeelhlapadGreatDoor
def qf8(x:Ch):Int×Int×Int×Int:=(x.c,x.by_,x.no,x.k)
def zcu(l:List Ch)(n:Int):List Ch:=l.filter (za5 n (-1))
theorem zqk(l:List Ch)(x:Ch)(n:Int):zcu (l++[x]) n=zcu l n++if za5 n (-1) x=true then [x]else []:=by
 unfold zcu
 rw[List.filter_append]
 by_cases h:za5 n (-1) x=true<;>simp[h]
theorem zrv(l:List Ch)(n:Int):(zcu l n).length≤l.length:=List.length_filter_le _ _
theorem zop(x:Ch)(n:Int):za5 n (-1) x=(decide (x.inn≤n∨x.by_= -1)&& !decide (x.out≠0∧x.out≤n)):=by
 have hw:wrB (-1)=false:=by decide
 unfold za5 zi6 inB zls zcd
 rw[hw]
 simp
theorem then_new{d:Dd}{number n:Int}(hn:n<number)(hb:d.by_≠ -1):zcu (zf4 d number) n=[]:=by
 unfold zcu
 rw[List.filter_eq_nil_iff]
 intro x hx
 obtain⟨h1,h2,_⟩:=zcr hx
 rw[zop,h1,h2]
 have:¬(number≤n∨d.by_= -1):=by rintro(h|h);omega;exact hb h
 simp[this]
theorem then_ins{l x:List Ch}{p:Nat}{n:Int}(h:zcu x n=[]):zcu (ins p x l) n=zcu l n:=by
 unfold zcu at*
 rw[ins,List.filter_append,List.filter_append,h,List.nil_append,←List.filter_append,List.take_append_drop]
theorem tk_sees(d:Dd){number n:Int}(hn:n<number)(h0:0≤n)(k:Int)(x:Ch):za5 n (-1) (tk d number k x)=za5 n (-1) x:=by
 obtain⟨h1,h2,_⟩:=zl3 d number k x
 rw[zop,zop,h1,h2]
 congr 2
 rw[decide_eq_decide]
 unfold tk
 split
 ·show(zaj number x.out≠0∧zaj number x.out≤n)↔_
  unfold zaj
  split
  ·rename_i h
   constructor
   ·rintro⟨_,h'⟩;omega
   ·rintro⟨h3,h4⟩;omega
  ·exact Iff.rfl
 ·exact Iff.rfl
theorem ztl(d:Dd){number n:Int}(hn:n<number)(h0:0≤n):∀(l:List Ch) (k:Int),(zcu (zc0 d number k l) n).map qf8=(zcu l n).map qf8
 |[],_=>rfl
 |x::l,k=>by
  have ih:=ztl d hn h0 l (nx d k x)
  unfold zcu at*
  rw[zax,List.filter_cons,List.filter_cons,tk_sees d hn h0]
  obtain⟨h1,h2,h3,h4,h5⟩:=zl3 d number k x
  by_cases h:za5 n (-1) x=true
  ·rw[if_pos h,if_pos h,List.map_cons,List.map_cons,ih]
   congr 1
   unfold qf8
   rw[h2,h3,h4,h5]
  ·rw[if_neg h,if_neg h,ih]
theorem ztm{b:Bk}(hg:zcm b){n:Nat}:∀(m:Nat),n+m≤b.ds.length→(zcu (zar b.ds (n+m)) n).map qf8=(visL b.ds n).map qf8
 | 0,hm=>by
  unfold zcu visL
  rw[Nat.add_zero,List.filter_congr (fun x hx=>zoo hg (by omega) (Int.le_refl _) hx)]
 |m+1,hm=>by
  have ih:=ztm hg (n:=n) m (by omega)
  obtain⟨s1,s2⟩:=zjx hg (i:=n+m) (by omega)
  rw[←Nat.add_assoc,s2,←ih]
  have hw:=(zah (zc2 s1).1).2.1
  by_cases hk:b.ds[n+m].kind=1
  ·rw[zcg hk,then_ins (then_new (by omega) (fun e=>by rw[e]at hw;revert hw;decide))]
  ·rw[zbo hk,ztl _ (by omega) (by omega)]
theorem zqo{b:Bk}(hg:zcm b){n:Nat}(hn:n≤b.ds.length):(zcu b.chars n).map qf8=(visL b.ds n).map qf8:=by
 have h:=ztm hg (n:=n) (b.ds.length-n) (by omega)
 rw[show n+(b.ds.length-n)=b.ds.length by omega,zjj]at h
 exact h
theorem zzn{α:Type}(f:Int×Int×Int×Int→α){a b:List Ch}(h:a.map qf8=b.map qf8):a.map (fun x=>f (qf8 x))=b.map (fun x=>f (qf8 x)):=by
 have:=congrArg (List.map f) h
 rw[List.map_map,List.map_map]at this
 exact this
def txS(b:Bk)(n:Int):List Int:=(zcu b.chars n).map (·.c)
def byS(b:Bk)(n:Int):List Int:=(zcu b.chars n).map (·.by_)
theorem story_tx{b:Bk}(hg:zcm b){n:Nat}(hn:n≤b.ds.length):txS b n=(visL b.ds n).map (·.c):=zzn (fun k=>k.1) (zqo hg hn)
theorem story_by{b:Bk}(hg:zcm b){n:Nat}(hn:n≤b.ds.length):byS b n=(visL b.ds n).map (·.by_):=zzn (fun k=>k.2.1) (zqo hg hn)
end Go.Proofs.YtcbnnfeelhlapadGreatDoor
namespace Go.Proofs.YtcbnnfeelhlapadGreatDoor
end Go.Proofs.YtcbnnfeelhlapadGreatDoor