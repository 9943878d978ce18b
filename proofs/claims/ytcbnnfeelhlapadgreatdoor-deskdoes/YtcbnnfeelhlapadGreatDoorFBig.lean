/-
  TPlain, TLaw, TSettle, SPlain, SMath, SGrow, FLate, FBig.
-/
import Derived.Test.YtcbnnfeelhlapadGreatDoorRPlain
namespace Go.Proofs.YtcbnnfeelhlapadGreatDoor
structure Tst where
 kind:Int
 w:Int
 at_:Int
 many:Int
 text:ByteArray
structure Twn where
 b:Bk
 ws:Int->Option Wr
def zba(b:Bk)(seen:Nat):Int:=(b.ds.drop seen).foldl (fun n d=>if d.seen<n then d.seen else n) (zap b)
def ownD(w:Wr)(s:Tst):Dd:=if s.kind=2 then⟨1,w.me,w.next,w.seen,s.at_,0,s.text⟩else⟨2,w.me,w.next,w.seen,s.at_,s.many,ByteArray.empty⟩
theorem dd_eq(a b:Dd):(a.kind=b.kind/\a.by_=b.by_/\a.no=b.no/\a.seen=b.seen/\a.at_=b.at_/\a.many=b.many/\a.text.data=b.text.data)↔a=b:=by
 obtain⟨a1,a2,a3,a4,a5,a6,⟨a7⟩⟩:=a
 obtain⟨b1,b2,b3,b4,b5,b6,⟨b7⟩⟩:=b
 simp
instance:DecidableEq Dd:=fun a b=>decidable_of_iff _ (dd_eq a b)
def zkw(w:Wr)(e:Dd):Wr:=⟨w.me,w.seen,w.next+1,w.base,w.opens++[e],w.sent⟩
def zfm(w:Wr):Wr:=⟨w.me,w.seen,w.next,w.base,w.opens,w.sent+1⟩
def zbt(w:Wr)(d:Dd):Int:=if d.by_≠w.me then doC w.list d ((w.seen:Int)+1)else if w.opens.head? =some d then 0 else 12
def zb1(w:Wr)(d:Dd):Wr:=
 if d.by_≠w.me then⟨w.me,w.seen+1,w.next,doL w.base d ((w.seen:Int)+1),w.opens,w.sent⟩else⟨w.me,w.seen+1,w.next,doL w.base d ((w.seen:Int)+1),w.opens.tail,w.sent-1⟩
def zgt(w:Wr)(least:Int):Wr:=⟨w.me,w.seen,w.next,ofL least w.base,w.opens,w.sent⟩
def newW(b:Bk)(v:Int):Wr:=⟨v,b.ds.length,b.last v+1,b.chars,[],0⟩
def zdu(t:Twn)(v:Int):Twn:=⟨zcp t.b v,zai t.ws v none⟩
def zdx(t:Twn)(v:Int)(w:Wr):Int×Twn:=
 match w.opens[w.sent]? with
 |none=>(5,t)
 |some d=>(za6 t.b d,if za6 t.b d=0 then⟨zb9 t.b d,zai t.ws v (some (zfm w))⟩else zdu t v)
def zdg(t:Twn)(v:Int)(w:Wr):Int×Twn:=
 match t.b.ds[w.seen]? with
 |none=>(5,t)
 |some d=>if zbt w d=0 then(ze2 t.b v (zb1 w d).least,⟨zd5 t.b v (zb1 w d).least,zai t.ws v (some (zb1 w d))⟩)else(zbt w d,zdu t v)
def qb0(t:Twn)(v:Int)(w:Wr)(s:Tst):Int×Twn:=
 (doC w.list (ownD w s) za3,if doC w.list (ownD w s) za3=0 then⟨t.b,zai t.ws v (some (zkw w (ownD w s)))⟩else t)
def zsq(t:Twn)(v:Int):Int×Twn:=
 (zde t.b v,if zde t.b v=0 then⟨zc4 t.b v,zai t.ws v (some (newW t.b v))⟩else t)
def tDo(t:Twn)(s:Tst):Int×Twn:=
 if s.kind<1\/7<s.kind then(2,t)else if s.kind=1 then zsq t s.w else
  match t.ws s.w with
  |none=>(5,t)
  |some w=>
   if s.kind=2\/s.kind=3 then qb0 t s.w w s else if s.kind=4 then zdx t s.w w else if s.kind=5 then zdg t s.w w
   else if s.kind=6 then(0,⟨t.b,zai t.ws s.w (some (zgt w (zba t.b w.seen)))⟩)else(0,zdu t s.w)
structure TwI(t:Twn):Prop where
 good:zct t.b
 wi:∀k w,t.ws k=some w->w.me=k/\∃c,WI t.b c w
 here:∀k,t.b.here k=true->∃w,t.ws k=some w
 none:∀k,wrB k=false->t.ws k=none
theorem qcs:TwI ⟨Bk.empty,fun _=>none⟩:=by
 refine⟨qbk,fun k w h=> ?_,fun k h=> ?_,fun _ _=>rfl⟩
 ·cases h
 cases h
theorem TwI.set{t:Twn}(h:TwI t){b':Bk}{v:Int}{w':Wr}(hg:zct b')(hv:wrB v=true)(hm:w'.me=v)(hw:∃c,WI b' c w')(ho:∀k w c,k≠v->t.ws k=some w->WI t.b c w->WI b' c w)(hh:∀k,k≠v->b'.here k=true->t.b.here k=true):
 TwI ⟨b',zai t.ws v (some w')⟩:=by
 refine⟨hg,fun k w hk=> ?_,fun k hk=> ?_,fun k hk=> ?_⟩
 ·have hk':zai t.ws v (some w') k=some w:=hk
  by_cases e:k=v
  ·subst e
   rw[zag,Option.some.injEq]at hk'
   subst hk'
   exact⟨hm,hw⟩
  rw[zab _ _ e]at hk'
  obtain⟨h1,c,h2⟩:=h.wi k w hk'
  exact⟨h1,c,ho k w c e hk' h2⟩
 ·show∃w,zai t.ws v (some w') k=some w
  by_cases e:k=v
  ·subst e
   exact⟨w',zag _ _ _⟩
  rw[zab _ _ e]
  exact h.here k (hh k e hk)
 show zai t.ws v (some w') k=Option.none
 have e:k≠v:=fun e=>by subst e;rw[hv]at hk;cases hk
 rw[zab _ _ e]
 exact h.none k hk
theorem TwI.drop{t:Twn}(h:TwI t){v:Int}(hv:t.b.isHere v=true):TwI (zdu t v):=by
 refine⟨qbj v h.good,fun k w hk=> ?_,fun k hk=> ?_,fun k hk=> ?_⟩
 ·have hk':zai t.ws v Option.none k=some w:=hk
  by_cases e:k=v
  ·subst e
   rw[zag]at hk';cases hk'
  rw[zab _ _ e]at hk'
  obtain⟨h1,c,h2⟩:=h.wi k w hk'
  exact⟨h1,c,h2.other_leaves (by rw[h1];exact Ne.symm e)⟩
 ·have hl:zlg t.b v=0:=by rw[zlg,if_pos hv]
  have hk':(zcp t.b v).here k=true:=hk
  rw[zcp,if_pos hl]at hk'
  have hk'':zai t.b.here v false k=true:=hk'
  show∃w,zai t.ws v Option.none k=some w
  by_cases e:k=v
  ·subst e
   rw[zag]at hk'';cases hk''
  rw[zab _ _ e]at hk''⊢
  exact h.here k hk''
 show zai t.ws v Option.none k=Option.none
 by_cases e:k=v
 ·subst e;exact zag _ _ _
 rw[zab _ _ e];exact h.none k hk
theorem TwI.is_here{t:Twn}(h:TwI t){v:Int}{w:Wr}(hw:t.ws v=some w):t.b.isHere v=true/\wrB v=true:=by
 obtain⟨rfl,c,hi⟩:=h.wi v w hw
 exact⟨by rw[Bk.isHere,hi.wr,hi.here];rfl,hi.wr⟩
theorem zur(b:Bk)(seen:Nat):zba b seen<=zap b/\∀d∈b.ds.drop seen,zba b seen<=d.seen:=by
 have:∀(l:List Dd) (n:Int),l.foldl (fun n d=>if d.seen<n then d.seen else n) n<=n/\∀d∈l,l.foldl (fun n d=>if d.seen<n then d.seen else n) n<=d.seen:=by
  intro l
  induction l with
  |nil=>exact fun n=>⟨Int.le_refl _,fun d hd=>absurd hd (by simp)⟩
  |cons x l ih=>
   intro n
   obtain⟨i1,i2⟩:=ih (if x.seen<n then x.seen else n)
   have hle:(if x.seen<n then x.seen else n)<=n/\(if x.seen<n then x.seen else n)<=x.seen:=by split<;>omega
   rw[List.foldl_cons]
   refine⟨by omega,fun d hd=> ?_⟩
   rcases List.mem_cons.1 hd with rfl|hd
   ·omega
   exact i2 d hd
 exact this _ _
theorem ti_join{t:Twn}(h:TwI t)(v:Int):TwI (zsq t v).2:=by
 unfold zsq
 by_cases hc:zde t.b v=0
 ·show TwI (if zde t.b v=0 then _ else _)
  rw[if_pos hc]
  have hv:wrB v=true:=by
   unfold zde at hc
   cases hh:wrB v
   ·rw[if_pos hh]at hc;cases hc
   rfl
  refine h.set (zp8 v h.good) hv rfl ⟨0,WI.comes_in h.good hc⟩ (fun k w c hk hw hi=> ?_) (fun k hk hh=> ?_)
  ·obtain⟨h1,_⟩:=h.wi k w hw
   exact hi.other_joins (by rw[h1];exact Ne.symm hk)
  rw[zc4,if_pos hc]at hh
  have hh':zai t.b.here v true k=true:=hh
  rw[zab _ _ hk]at hh'
  exact hh'
 show TwI (if zde t.b v=0 then _ else _)
 rw[if_neg hc];exact h
theorem zue(w:Wr)(s:Tst):(ownD w s).by_=w.me/\(ownD w s).no=w.next/\(ownD w s).seen=w.seen:=by
 unfold ownD
 split<;>exact⟨rfl,rfl,rfl⟩
theorem ti_own{t:Twn}(h:TwI t){v:Int}{w:Wr}(hw:t.ws v=some w)(s:Tst):TwI (qb0 t v w s).2:=by
 obtain⟨hm,c,hi⟩:=h.wi v w hw
 obtain⟨o1,o2,o3⟩:=zue w s
 unfold qb0
 show TwI (if doC w.list (ownD w s) za3=0 then _ else _)
 by_cases hc:doC w.list (ownD w s) za3=0
 ·rw[if_pos hc]
  exact h.set h.good (h.is_here hw).2 hm ⟨c,hi.does h.good o1 o2 o3 hc⟩ (fun _ _ _ _ _ x=>x) (fun _ _ x=>x)
 rw[if_neg hc];exact h
theorem ti_send{t:Twn}(h:TwI t){v:Int}{w:Wr}(hw:t.ws v=some w):TwI (zdx t v w).2:=by
 obtain⟨hm,c,hi⟩:=h.wi v w hw
 unfold zdx
 cases hd:w.opens[w.sent]? with
 |none=>exact h
 |some d=>
  show TwI (if za6 t.b d=0 then _ else _)
  by_cases hc:za6 t.b d=0
  ·rw[if_pos hc]
   have hb:=(hi.own d (List.mem_of_getElem? hd)).1
   refine h.set (qbl d h.good) (h.is_here hw).2 hm ⟨c,hi.sent_ok hd hc⟩ (fun k w' c' hk hw' hi'=> ?_) (fun k _ hh=> ?_)
   ·obtain⟨h1,_⟩:=h.wi k w' hw'
    exact hi'.other_comes (by rw[hb,hm,h1];exact Ne.symm hk) hc
   rw[zt2 hc]at hh
   exact hh
  rw[if_neg hc]
  exact h.drop (h.is_here hw).1
theorem hear_ok{b:Bk}{c:Int}{w:Wr}(hi:WI b c w)(hg:zct b){d:Dd}(hd:b.ds[w.seen]? =some d):(zbt w d=0\/zbt w d=9)/\(zbt w d=0->WI b c (zb1 w d)):=by
 obtain⟨hl,rfl⟩:=List.getElem?_eq_some_iff.1 hd
 unfold zbt zb1
 by_cases hb:b.ds[w.seen].by_=w.me
 ·have hnb:¬b.ds[w.seen].by_≠w.me:=fun x=>x hb
  rw[if_neg hnb,if_neg hnb]
  obtain⟨es,he,h1⟩:=hi.own_first hl hb
  have hh:w.opens.head? =some b.ds[w.seen]:=by rw[he];rfl
  have ht:w.opens.tail=es:=by rw[he];rfl
  rw[if_pos hh,ht]
  exact⟨.inl rfl,fun _=>(hi.hears_own hg hl he h1 hb).1⟩
 rw[if_pos hb,if_pos hb]
 obtain⟨h1,h2⟩:=hi.hears_other hg hl hb
 exact⟨h1,fun hc=>(h2 hc).2⟩
theorem zst(w:Wr)(d:Dd):(zb1 w d).me=w.me/\(zb1 w d).seen=w.seen+1:=by
 unfold zb1
 split<;>exact⟨rfl,rfl⟩
theorem ti_hear{t:Twn}(h:TwI t){v:Int}{w:Wr}(hw:t.ws v=some w):TwI (zdg t v w).2/\(∀d,t.b.ds[w.seen]? =some d->zbt w d=0->(zdg t v w).1=0):=by
 obtain⟨hm,c,hi⟩:=h.wi v w hw
 unfold zdg
 cases hd:t.b.ds[w.seen]? with
 |none=>exact⟨h,fun d hd=>by cases hd⟩
 |some d=>
  obtain⟨_,h2⟩:=hear_ok hi h.good hd
  by_cases hc:zbt w d=0
  ·have hs:=(h2 hc).says
   rw[(zst w d).1,hm]at hs
   show TwI (if zbt w d=0 then(_,_)else(_,_)).2/\_
   refine⟨?_,fun d' hd' hc'=> ?_⟩
   ·rw[if_pos hc]
    refine h.set (qfr _ _ h.good) (h.is_here hw).2 ((zst w d).1.trans hm) ⟨c,hs.2⟩ (fun k w' c' hk hw' hi'=> ?_) (fun k _ hh=> ?_)
    ·obtain⟨h1,_⟩:=h.wi k w' hw'
     exact hi'.other_says (by rw[h1];exact Ne.symm hk)
    rw[zd5,if_pos hs.1]at hh
    exact hh
   show(if zbt w d=0 then(_,_)else(_,_)).1=(0:Int)
   rw[if_pos hc]
   exact hs.1
  show TwI (if zbt w d=0 then(_,_)else(_,_)).2/\_
  refine⟨?_,fun d' hd' hc'=> ?_⟩
  ·rw[if_neg hc]
   exact h.drop (h.is_here hw).1
  obtain rfl:=Option.some.inj hd'
  exact absurd hc' hc
theorem says_ds(b:Bk)(v n:Int):(zd5 b v n).ds=b.ds:=by unfold zd5;split<;>rfl
theorem leave_ds(b:Bk)(v:Int):(zcp b v).ds=b.ds:=by unfold zcp;split<;>rfl
theorem hear_ds(t:Twn)(v:Int)(w:Wr):(zdg t v w).2.b.ds=t.b.ds:=by
 unfold zdg
 cases t.b.ds[w.seen]? with
 |none=>rfl
 |some d=>
  show(if zbt w d=0 then(ze2 t.b v (zb1 w d).least,(⟨zd5 t.b v (zb1 w d).least,zai t.ws v (some (zb1 w d))⟩:Twn))else(zbt w d,zdu t v)).2.b.ds=_
  split
  ·exact says_ds _ _ _
  exact leave_ds _ _
variable {t:Twn} {v:Int} {w:Wr}
def unsent(t:Twn)(v:Int):Nat:=match t.ws v with
 |none=>0
 |some w=>w.opens.length-w.sent
def zft(t:Twn)(v:Int):Nat:=match t.ws v with
 |none=>0
 |some w=>t.b.ds.length-w.seen
theorem qe3{t:Twn}{v:Int}{w:Wr}(hc:(zdx t v w).1=0):∃d,w.opens[w.sent]? =some d/\za6 t.b d=0/\(zdx t v w).2=⟨zb9 t.b d,zai t.ws v (some (zfm w))⟩:=by
 unfold zdx at hc⊢
 cases hd:w.opens[w.sent]? with
 |none=>rw[hd]at hc;cases hc
 |some d=>
  rw[hd]at hc
  have hc':za6 t.b d=0:=hc
  refine⟨d,rfl,hc',?_⟩
  show(if za6 t.b d=0 then _ else _)=_
  rw[if_pos hc']
theorem qfn{t:Twn}{v:Int}{w:Wr}(hc:(zdg t v w).1=0):∃d,t.b.ds[w.seen]? =some d/\zbt w d=0/\(zdg t v w).2=⟨zd5 t.b v (zb1 w d).least,zai t.ws v (some (zb1 w d))⟩:=by
 unfold zdg at hc⊢
 cases hd:t.b.ds[w.seen]? with
 |none=>rw[hd]at hc;cases hc
 |some d=>
  rw[hd]at hc
  by_cases hz:zbt w d=0
  ·refine⟨d,rfl,hz,?_⟩
   show(if zbt w d=0 then _ else _:Int×Twn).2=_
   rw[if_pos hz]
  have hc':(if zbt w d=0 then(ze2 t.b v (zb1 w d).least,(⟨zd5 t.b v (zb1 w d).least,zai t.ws v (some (zb1 w d))⟩:Twn))else(zbt w d,zdu t v)).1=0:=hc
  rw[if_neg hz]at hc'
  exact absurd hc' hz
theorem zi4(hw:t.ws v=some w)(hc:(zdx t v w).1=0):unsent (zdx t v w).2 v<unsent t v:=by
 obtain⟨d,hd,_,he⟩:=qe3 hc
 have hl:=(List.getElem?_eq_some_iff.1 hd).1
 have e1:(zdx t v w).2.ws v=some (zfm w):=by rw[he];exact zag _ _ _
 unfold unsent
 rw[e1,hw]
 show w.opens.length-(w.sent+1)<w.opens.length-w.sent
 omega
theorem zgw(hw:t.ws v=some w)(hc:(zdg t v w).1=0):zft (zdg t v w).2 v<zft t v:=by
 obtain⟨d,hd,_,he⟩:=qfn hc
 have hl:=(List.getElem?_eq_some_iff.1 hd).1
 have e1:(zdg t v w).2.ws v=some (zb1 w d):=by rw[he];exact zag _ _ _
 unfold zft
 rw[e1,hw,hear_ds]
 show t.b.ds.length-(zb1 w d).seen<t.b.ds.length-w.seen
 rw[(zst w d).2]
 omega
def zc8(t:Twn)(v:Int):Twn:=
 match _hw:t.ws v with
 |none=>t
 |some w=>if _hc:(zdx t v w).1=0 then zc8 (zdx t v w).2 v else(zdx t v w).2
termination_by unsent t v
decreasing_by exact zi4 _hw _hc
def zca(t:Twn)(v:Int):Twn:=
 match _hw:t.ws v with
 |none=>t
 |some w=>if _hc:(zdg t v w).1=0 then zca (zdg t v w).2 v else(zdg t v w).2
termination_by zft t v
decreasing_by exact zgw _hw _hc
theorem zfn(h:t.ws v=none):zc8 t v=t:=by
 rw[zc8]
 split
 ·rfl
 rename_i w hw;rw[h]at hw;cases hw
theorem zea(h:t.ws v=some w):zc8 t v=if(zdx t v w).1=0 then zc8 (zdx t v w).2 v else(zdx t v w).2:=by
 rw[zc8]
 split
 ·rename_i hw;rw[h]at hw;cases hw
 rename_i w' hw
 rw[h,Option.some.injEq]at hw
 subst hw
 split<;>rfl
theorem zfr(h:t.ws v=none):zca t v=t:=by
 rw[zca]
 split
 ·rfl
 rename_i w hw;rw[h]at hw;cases hw
theorem zei(h:t.ws v=some w):zca t v=if(zdg t v w).1=0 then zca (zdg t v w).2 v else(zdg t v w).2:=by
 rw[zca]
 split
 ·rename_i hw;rw[h]at hw;cases hw
 rename_i w' hw
 rw[h,Option.some.injEq]at hw
 subst hw
 split<;>rfl
theorem zwl{v:Int}(P:Twn->Prop)(hs:∀t w,P t->t.ws v=some w->P (zdx t v w).2):∀(n:Nat) (t:Twn),unsent t v=n->P t->P (zc8 t v):=by
 intro n
 induction n using Nat.strongRecOn with
 |ind n ih=>
  intro t hn h
  cases hw:t.ws v with
  |none=>rw[zfn hw];exact h
  |some w=>
   rw[zea hw]
   split
   ·rename_i hc
    exact ih _ (by rw[<-hn];exact zi4 hw hc) _ rfl (hs t w h hw)
   exact hs t w h hw
theorem zxi{v:Int}(P:Twn->Prop)(hs:∀t w,P t->t.ws v=some w->P (zdg t v w).2):∀(n:Nat) (t:Twn),zft t v=n->P t->P (zca t v):=by
 intro n
 induction n using Nat.strongRecOn with
 |ind n ih=>
  intro t hn h
  cases hw:t.ws v with
  |none=>rw[zfr hw];exact h
  |some w=>
   rw[zei hw]
   split
   ·rename_i hc
    exact ih _ (by rw[<-hn];exact zgw hw hc) _ rfl (hs t w h hw)
   exact hs t w h hw
def zdl:Nat->Twn->Twn
 | 0,t=>t
 |n+1,t=>zc8 (zdl n t) n
def zhs:Nat->Twn->Twn
 | 0,t=>t
 |n+1,t=>zca (zhs n t) n
def zep(t:Twn):Twn:=zhs 4 (zdl 4 t)
def visL(ds:List Dd)(n:Nat):List Ch:=(zaw ds n).filter zgg
theorem text_out{b:Bk}(hg:zct b){n:Nat}(hn:n<=b.ds.length){x:Ch}(hx:x∈zaw b.ds n):zgg x=decide (x.out=0):=by
 obtain⟨hm,_⟩:=zcl hg n hn
 have h1:=hm.inn x hx
 have h2:=hm.out x hx
 have hs:=hg.small
 have e1:x.inn≠1073741824:=by omega
 have e2:x.out≠1073741824:=by omega
 unfold zgg zv2
 by_cases ho:x.out=0
 ·simp[ho,e1]
 simp[ho,e1,e2]
theorem zom{b:Bk}(hg:zct b){n:Nat}(hn:n<=b.ds.length){s:Int}(hs:(n:Int)<=s){x:Ch}(hx:x∈zaw b.ds n):za7 s (-1) x=zgg x:=by
 rw[text_out hg hn hx]
 obtain⟨hm,_⟩:=zcl hg n hn
 have h1:=hm.inn x hx
 have h2:=hm.out x hx
 have hw:wrB (-1)=false:=by decide
 have e1:inB x.inn x.by_ s (-1)=true:=by rw[inB,decide_eq_true_eq];exact .inl (by omega)
 unfold za7 zi7 zmz
 rw[e1,zce,hw]
 by_cases ho:x.out=0
 ·simp[ho]
 have:x.out≠0/\x.out<=s:=⟨ho,by omega⟩
 simp[ho,this]
variable {n:Int} {b:Bk}
def qfa(x:Ch):Int×Int×Int×Int:=(x.c,x.by_,x.no,x.k)
def zcx(l:List Ch)(n:Int):List Ch:=l.filter (za7 n (-1))
theorem zqm(l:List Ch)(x:Ch)(n:Int):zcx (l++[x]) n=zcx l n++if za7 n (-1) x=true then [x]else []:=by
 unfold zcx
 rw[List.filter_append]
 by_cases h:za7 n (-1) x=true<;>simp[h]
theorem zrw(l:List Ch)(n:Int):(zcx l n).length<=l.length:=List.length_filter_le _ _
theorem zon(x:Ch)(n:Int):za7 n (-1) x=(decide (x.inn<=n\/x.by_= -1)&& !decide (x.out≠0/\x.out<=n)):=by
 have hw:wrB (-1)=false:=by decide
 unfold za7 zi7 inB zmz zce
 rw[hw]
 simp
theorem then_new{d:Dd}{number:Int}(hn:n<number)(hb:d.by_≠ -1):zcx (zez d number) n=[]:=by
 unfold zcx
 rw[List.filter_eq_nil_iff]
 intro x hx
 obtain⟨h1,h2,_⟩:=zco hx
 rw[zon,h1,h2]
 have:¬(number<=n\/d.by_= -1):=by rintro(h|h);omega;exact hb h
 simp[this]
theorem then_ins{l x:List Ch}{p:Nat}(h:zcx x n=[]):zcx (ins p x l) n=zcx l n:=by
 unfold zcx at*
 rw[ins,List.filter_append,List.filter_append,h,List.nil_append,<-List.filter_append,List.take_append_drop]
theorem tk_sees(d:Dd){number n:Int}(hn:n<number)(h0:0<=n)(k:Int)(x:Ch):za7 n (-1) (tk d number k x)=za7 n (-1) x:=by
 obtain⟨h1,h2,_⟩:=zl2 d number k x
 rw[zon,zon,h1,h2]
 congr 2
 rw[decide_eq_decide]
 unfold tk
 split
 ·show(zal number x.out≠0/\zal number x.out<=n)↔_
  unfold zal
  split
  ·rename_i h
   constructor
   ·rintro⟨_,h'⟩;omega
   rintro⟨h3,h4⟩;omega
  exact Iff.rfl
 exact Iff.rfl
theorem ztl(d:Dd){number n:Int}(hn:n<number)(h0:0<=n):∀(l:List Ch) (k:Int),(zcx (zby d number k l) n).map qfa=(zcx l n).map qfa
 |[],_=>rfl
 |x::l,k=>by
  have ih:=ztl d hn h0 l (nx d k x)
  unfold zcx at*
  rw[zau,List.filter_cons,List.filter_cons,tk_sees d hn h0]
  obtain⟨h1,h2,h3,h4,h5⟩:=zl2 d number k x
  by_cases h:za7 n (-1) x=true
  ·rw[if_pos h,if_pos h,List.map_cons,List.map_cons,ih]
   congr 1
   unfold qfa
   rw[h2,h3,h4,h5]
  rw[if_neg h,if_neg h,ih]
theorem ztm{b:Bk}(hg:zct b){n:Nat}:∀(m:Nat),n+m<=b.ds.length->(zcx (zaw b.ds (n+m)) n).map qfa=(visL b.ds n).map qfa
 | 0,hm=>by
  unfold zcx visL
  rw[Nat.add_zero,List.filter_congr (fun x hx=>zom hg (by omega) (Int.le_refl _) hx)]
 |m+1,hm=>by
  have ih:=ztm hg (n:=n) m (by omega)
  obtain⟨s1,s2⟩:=zjy hg (i:=n+m) (by omega)
  rw[<-Nat.add_assoc,s2,<-ih]
  have hw:=(zah (zc0 s1).1).2.1
  by_cases hk:b.ds[n+m].kind=1
  ·rw[zcc hk,then_ins (then_new (by omega) (fun e=>by rw[e]at hw;revert hw;decide))]
  rw[zbl hk,ztl _ (by omega) (by omega)]
theorem zqq(hg:zct b){n:Nat}(hn:n<=b.ds.length):(zcx b.chars n).map qfa=(visL b.ds n).map qfa:=by
 have h:=ztm hg (n:=n) (b.ds.length-n) (by omega)
 rw[show n+(b.ds.length-n)=b.ds.length by omega,zjj]at h
 exact h
theorem zzp{α:Type}(f:Int×Int×Int×Int->α){a b:List Ch}(h:a.map qfa=b.map qfa):a.map (fun x=>f (qfa x))=b.map (fun x=>f (qfa x)):=by
 have:=congrArg (List.map f) h
 rw[List.map_map,List.map_map]at this
 exact this
def txS(b:Bk)(n:Int):List Int:=(zcx b.chars n).map (·.c)
def byS(b:Bk)(n:Int):List Int:=(zcx b.chars n).map (·.by_)
theorem story_tx(hg:zct b){n:Nat}(hn:n<=b.ds.length):txS b n=(visL b.ds n).map (·.c):=zzp (fun k=>k.1) (zqq hg hn)
theorem story_by(hg:zct b){n:Nat}(hn:n<=b.ds.length):byS b n=(visL b.ds n).map (·.by_):=zzp (fun k=>k.2.1) (zqq hg hn)
variable {s:Bool} {a:Act} {v:Value} {j i k:Nat} {listed:Array Bool} {Q:Act->World->Prop}
abbrev Cls:=World->Prop
section
variable {P:Program} {ops:Array Oper} {md:Region.Mode} {U0:Cls} {sp lt:Nat->Bool}
def zjc(P:Program)(o:Oper)(a:Act)(U D:Cls)(p:Value->Prop)(U' D':Value->Cls):Prop:=
 (∃v,p v)/\(∀v w,U' v w->U w)/\(∀v w,D' v w->U' v w)/\∀w,D w->zb0 P (fun v w'=>p v/\D' v w') ((execOp a.eval o).run P w)
def zc9(P:Program)(U0:Cls)(s t:Bool)(o:Oper)(a:Act)(U D:Cls)(K:Act->Cls->Cls->Prop):Prop:=
 if s=true then∃p U' D',zjc P o a U D p U' D'/\∀v,p v->K (a.put o.dst v) (U' v) (D' v)
 else∃v,ze6 P (if t=true then U else U0) o a v/\K (a.put o.dst v) U D
def ze9(P:Program)(ops:Array Oper)(U0:Cls)(sp lt:Nat->Bool)(Q:Act->World->Prop):List Oper->Nat->Act->Cls->Cls->Prop
 |[],_,a,_,D=>∀w,D w->Q a w
 |o::rest,k,a,U,D=>if Region.wanted o (yielded ops a.tmps)=true then zc9 P U0 (sp k) (lt k) o a U D (ze9 P ops U0 sp lt Q rest (k+1))else ze9 P ops U0 sp lt Q rest (k+1) (a.put o.dst undef) U D
def zgq(P:Program)(ops:Array Oper)(U0:Cls)(sp lt:Nat->Bool)(i:Nat)(K:Act->Cls->Cls->Prop)(a:Act)(U D:Cls):Prop:=
 match ops[i]? with
 |none=>K a U D
 |some o=>if Region.wanted o (yielded ops a.tmps)=true then zc9 P U0 (sp i) (lt i) o a U D K else K (a.put o.dst undef) U D
theorem zsp{t:Bool}{o:Oper}{U D:Cls}{K K':Act->Cls->Cls->Prop}(h:∀a U' D',(∀w,U' w->U w)->K a U' D'->K' a U' D')(hh:zc9 P U0 s t o a U D K):zc9 P U0 s t o a U D K':=by
 unfold zc9 at*
 cases s
 ·obtain⟨v,h1,h2⟩:=hh
  exact⟨v,h1,h _ _ _ (fun _ h=>h) h2⟩
 obtain⟨p,U',D',h1,h2⟩:=hh
 exact⟨p,U',D',h1,fun v hv=>h _ _ _ (h1.2.1 v) (h2 v hv)⟩
theorem zx8{i:Nat}{a:Act}{U D:Cls}{K K':Act->Cls->Cls->Prop}(h:∀a U' D',(∀w,U' w->U w)->K a U' D'->K' a U' D')(hh:zgq P ops U0 sp lt i K a U D):zgq P ops U0 sp lt i K' a U D:=by
 unfold zgq at*
 cases ho:ops[i]? with
 |none=>rw[ho]at hh;exact h _ _ _ (fun _ h=>h) hh
 |some o=>
  rw[ho]at hh
  show if _ then _ else _
  have hh':if Region.wanted o (yielded ops a.tmps)=true then zc9 P U0 (sp i) (lt i) o a U D K else K (a.put o.dst undef) U D:=hh
  by_cases hw:Region.wanted o (yielded ops a.tmps)=true
  ·rw[if_pos hw]at hh'⊢;exact zsp h hh'
  rw[if_neg hw]at hh'⊢;exact h _ _ _ (fun _ h=>h) hh'
def zin(P:Program)(md:Region.Mode)(ops:Array Oper)(U0:Cls)(sp lt:Nat->Bool)(Q:Act->World->Prop):Nat->Array Bool->Act->Cls->Cls->Prop
 | 0,listed,a,_,D=>Region.ready md ops listed=[]/\∀w,D w->Q a w
 |fuel+1,listed,a,U,D=>
  (Region.ready md ops listed=[]->∀w,D w->Q a w)/\
  ∀i∈Region.ready md ops listed,zgq P ops U0 sp lt i (zin P md ops U0 sp lt Q fuel (listed.setIfInBounds i true)) a U D
theorem qa8{s t:Bool}{o:Oper}{a:Act}{U D:Cls}{K:Act->Cls->Cls->Prop}{K':Act->World->Prop}{Q':Exit->Act->World->Prop}{w:World}(hU:∀w,U w->U0 w)(hDU:∀w,D w->U w)(hw:D w)
 (h:∀a (U' D':Cls) w',(∀w,U' w->U0 w)->(∀w,D' w->U' w)->D' w'->K a U' D'->K' a w') (hh:zc9 P U0 s t o a U D K):o.wp P a w K' Q':=by
 unfold zc9 at hh
 unfold Oper.wp
 cases s
 ·obtain⟨v,h1,h2⟩:=hh
  have hr:(execOp a.eval o).run P w= .ok (.value v) w:=by
   apply h1
   cases t
   ·exact hU w (hDU w hw)
   exact hDU w hw
  rw[hr]
  exact h _ U D _ hU hDU hw h2
 obtain⟨p,U',D',⟨_,hU',hD',h1⟩,h2⟩:=hh
 have h3:=h1 w hw
 generalize (execOp a.eval o).run P w=r at*
 cases r with
 |ok n w'=>
  cases n<;>simp only[zb0]at h3<;>simp only[Oper.upon]
  case value u=>exact h _ (U' u) (D' u) _ (fun w hw=>hU w (hU' u w hw)) (hD' u) h3.2 (h2 u h3.1)
  case skip=>exact h _ (U' undef) (D' undef) _ (fun w hw=>hU w (hU' undef w hw)) (hD' undef) h3.2 (h2 undef h3.1)
  case enter f args=>
   exact h3.mono fun e w'' ⟨v,he,hp,hd⟩=>by subst he;exact h _ (U' v) (D' v) _ (fun w hw=>hU w (hU' v w hw)) (hD' v) hd (h2 v hp)
 |halt x w'=>simp only[zb0]at h3
theorem zeo{Q:Act->World->Prop}{Q':Exit->Act->World->Prop}(hQ:∀a w,Q a w->Q' .normal a w):∀(fuel:Nat) (listed:Array Bool) (a:Act) (U D:Cls) (w:World),(∀w,U w->U0 w)->(∀w,D w->U w)->D w->
 zin P md ops U0 sp lt Q fuel listed a U D->wpAny P md ops Q' fuel listed a w
 | 0,_,_,_,_,_,_,_,hw,h=>⟨h.1,hQ _ _ (h.2 _ hw)⟩
 |fuel+1,listed,a,U,D,w,hU,hD,hw,h=>⟨fun h0=>hQ _ _ (h.1 h0 _ hw),fun i hi=>by
  have h1:=h.2 i hi
  unfold zgq at h1
  unfold wpOp
  cases ho:ops[i]? with
  |none=>rw[ho]at h1;exact zeo hQ fuel _ _ U D _ hU hD hw h1
  |some o=>
   rw[ho]at h1
   have h2:if Region.wanted o (yielded ops a.tmps)=true then zc9 P U0 (sp i) (lt i) o a U D (zin P md ops U0 sp lt Q fuel (listed.setIfInBounds i true))else zin P md ops U0 sp lt Q fuel (listed.setIfInBounds i true) (a.put o.dst undef) U D:=h1
   show if _ then _ else _
   by_cases hwt:Region.wanted o (yielded ops a.tmps)=true
   ·rw[if_pos hwt]at h2⊢
    exact .inl (qa8 hU hD hw (fun a' U' D' w' hU' hD' hd hk=>zeo hQ fuel _ a' U' D' w' hU' hD' hd hk) h2)
   rw[if_neg hwt]at h2⊢
   exact zeo hQ fuel _ _ U D _ hU hD hw h2⟩
theorem zd2.less{U U':Cls}{o:Oper}(h:zd2 P ops U s o v a)(hU:∀w,U' w->U w):zd2 P ops U' s o v a:=by
 rcases h with⟨h1,h2,h3⟩|h
 ·exact .inl ⟨h1,h2,fun w hw=>h3 w (hU w hw)⟩
 exact .inr h
theorem qbc{oi oj:Oper}(hj:ops[j]? =some oj)(hap:oi.apart ops oj=true)
 (hsi:∀cs b,oi.op≠ .select cs b) (hsj:∀cs b,oj.op≠ .select cs b) {K:Act->Cls->Cls->Prop} {a:Act} {U D:Cls} {t:Bool}
 (hy:zd2 P ops (if t=true then U else U0) s oi v a) (h:zgq P ops U0 sp lt j K (a.put oi.dst v) U D):
 zgq P ops U0 sp lt j (fun a' U' D'=>zd2 P ops (if t=true then U' else U0) s oi v a'/\K (a'.put oi.dst v) U' D') a U D:=by
 obtain⟨h1,h2,h3⟩:=Oper.apart_spec hap
 unfold zgq at*
 simp only[hj]at*
 rw[wanted_put oj a oi.dst v h1]at h
 by_cases hw:Region.wanted oj (yielded ops a.tmps)=true
 ·rw[if_pos hw]at h⊢
  unfold zc9 zjc at*
  cases hs:sp j
  ·rw[hs]at h
   obtain⟨u,hu,hn⟩:=h
   refine⟨u,?_,hy.put hsi h3,by rw[<-Act.put_comm a v u h2];exact hn⟩
   unfold ze6 at hu⊢
   rw[execOp_put oj hsj a oi.dst v h1]at hu
   exact hu
  rw[hs]at h
  obtain⟨p,U',D',hu,hn⟩:=h
  rw[execOp_put oj hsj a oi.dst v h1]at hu
  refine⟨p,U',D',hu,fun u hp=>⟨?_,by rw[<-Act.put_comm a v u h2];exact hn u hp⟩⟩
  refine zd2.put hsi h3 (hy.less ?_)
  cases t
  ·exact fun w hw=>hw
  exact hu.2.1 u
 rw[if_neg hw]at h⊢
 exact⟨hy.put hsi h3,by rw[<-Act.put_comm a v undef h2];exact h⟩
theorem zis{s t:Bool}{Q:Act->World->Prop}{i:Nat}{oi:Oper}{v:Value}(hi:ops[i]? =some oi)(hsel:∀(j:Nat) (o:Oper) cs b,ops[j]? =some o->o.op≠ .select cs b)
 (hown:∀{K:Act->Cls->Cls->Prop} {a:Act} {U D:Cls},zd2 P ops (if t=true then U else U0) s oi v a->K (a.put oi.dst v) U D->zgq P ops U0 sp lt i K a U D):
 ∀(fuel:Nat) (listed:Array Bool) (a:Act) (U D:Cls),zh7 md ops oi i listed->i∈Region.ready md ops listed->zd2 P ops (if t=true then U else U0) s oi v a->
  zin P md ops U0 sp lt Q fuel (listed.setIfInBounds i true) (a.put oi.dst v) U D->zin P md ops U0 sp lt Q (fuel+1) listed a U D:=by
 intro fuel
 induction fuel with
 |zero=>
  intro listed a U D _ hr hy H
  refine⟨fun h=>(by rw[h]at hr;cases hr),fun j hj=> ?_⟩
  by_cases hji:j=i
  ·subst hji;exact hown hy H
  have:=ready_mono hj hji
  rw[H.1]at this
  cases this
 |succ fuel ih=>
  intro listed a U D hfree hr hy H
  refine⟨fun h=>(by rw[h]at hr;cases hr),fun j hj=> ?_⟩
  by_cases hji:j=i
  ·subst hji;exact hown hy H
  have h1:=H.2 j (ready_mono hj hji)
  obtain⟨hjun,oj,hoj,hall⟩:=mem_ready.1 hj
  have h2:=qbc hoj (hfree j oj hoj hji hjun (zgo hr hall)) (fun cs b=>hsel i oi cs b hi) (fun cs b=>hsel j oj cs b hoj) hy h1
  refine zx8 (fun a' U' D' _ h3=>ih (listed.setIfInBounds j true) a' U' D' (hfree.later hjun) (ready_mono hr (Ne.symm hji)) h3.1 ?_) h2
  rw[Array.setIfInBounds_comm _ _ hji]
  exact h3.2
def Lone(md:Region.Mode)(ops:Array Oper)(sp lt:Nat->Bool)(i:Nat)(listed:Array Bool):Prop:=
 ∀j oj,(sp j||lt j)=true->j≠i->ops[j]? =some oj->listed.getD j true=false->∃e∈oj.after,Region.binds md e=true/\sp e.on=true/\listed.getD e.on false=false
theorem Lone.not_ready(h:Lone md ops sp lt i listed)(hj:j∈Region.ready md ops listed)(hji:j≠i):sp j=false/\lt j=false:=by
 obtain⟨hun,oj,hoj,hall⟩:=mem_ready.1 hj
 cases hs:(sp j||lt j)
 ·exact Bool.or_eq_false_iff.1 hs
 obtain⟨e,he,hb,_,hl⟩:=h j oj hs hji hoj hun
 rw[hall e he hb]at hl
 cases hl
theorem Lone.later(h:Lone md ops sp lt i listed)(hs:sp j=false):Lone md ops sp lt i (listed.setIfInBounds j true):=by
 intro k ok hk hki hok hun
 by_cases hjk:j=k
 ·subst hjk
  rcases Nat.lt_or_ge j listed.size with h'|h'
  ·simp[h']at hun
  rw[show listed.setIfInBounds j true=listed by simp[Array.setIfInBounds,Nat.not_lt.2 h']]at hun
  simp[Array.getElem?_eq_none h']at hun
 rw[getD_set_ne true hjk]at hun
 obtain⟨e,he,hb,hse,hl⟩:=h k ok hk hki hok hun
 have hje:j≠e.on:=fun e'=>by rw[e',hse]at hs;cases hs
 exact⟨e,he,hb,hse,by rw[getD_set_ne false hje];exact hl⟩
theorem znf{Q:Act->World->Prop}{i:Nat}{oi:Oper}{p:Value->Prop}{U' D':Value->Cls}{w0:World}(hw0:U0 w0)(hi:ops[i]? =some oi)(hsi:sp i=true)(hsel:∀(j:Nat) (o:Oper) cs b,ops[j]? =some o->o.op≠ .select cs b):
 ∀(fuel:Nat) (listed:Array Bool) (a:Act) (U D:Cls),zh7 md ops oi i listed->Lone md ops sp lt i listed->i∈Region.ready md ops listed->Region.wanted oi (yielded ops a.tmps)=true->zjc P oi a U D p U' D'->
  (∀v,p v->zin P md ops U0 sp lt Q fuel (listed.setIfInBounds i true) (a.put oi.dst v) (U' v) (D' v))->zin P md ops U0 sp lt Q (fuel+1) listed a U D:=by
 intro fuel
 induction fuel with
 |zero=>
  intro listed a U D _ _ hr hw hy H
  refine⟨fun h=>(by rw[h]at hr;cases hr),fun j hj=> ?_⟩
  by_cases hji:j=i
  ·subst hji
   unfold zgq
   simp only[hi,if_pos hw]
   unfold zc9
   rw[if_pos hsi]
   exact⟨p,U',D',hy,H⟩
  obtain⟨v0,hv0⟩:=hy.1
  have:=ready_mono hj hji
  rw[(H v0 hv0).1]at this
  cases this
 |succ fuel ih=>
  intro listed a U D hfree hal hr hw hy H
  refine⟨fun h=>(by rw[h]at hr;cases hr),fun j hj=> ?_⟩
  by_cases hji:j=i
  ·subst hji
   unfold zgq
   simp only[hi,if_pos hw]
   unfold zc9
   rw[if_pos hsi]
   exact⟨p,U',D',hy,H⟩
  obtain⟨hjun,oj,hoj,hall⟩:=mem_ready.1 hj
  obtain⟨hsj,hlj⟩:=hal.not_ready hj hji
  have hap:=hfree j oj hoj hji hjun (zgo hr hall)
  obtain⟨h1,h2,h3⟩:=Oper.apart_spec hap
  have seli:=fun cs b=>hsel i oi cs b hi
  have selj:=fun cs b=>hsel j oj cs b hoj
  have hw':∀u,Region.wanted oi (yielded ops (a.put oj.dst u).tmps)=true:=fun u=>by rw[wanted_put oi a oj.dst u h3];exact hw
  have hy':∀u,zjc P oi (a.put oj.dst u) U D p U' D':=fun u=>by unfold zjc at *; rw[execOp_put oi seli a oj.dst u h3];exact hy
  have hop:∀v,p v->zgq P ops U0 sp lt j (zin P md ops U0 sp lt Q fuel ((listed.setIfInBounds i true).setIfInBounds j true)) (a.put oi.dst v) (U' v) (D' v):=fun v hv=>(H v hv).2 j (ready_mono hj hji)
  unfold zgq at hop⊢
  simp only[hoj]at hop⊢
  by_cases hwj:Region.wanted oj (yielded ops a.tmps)=true
  ·rw[if_pos hwj]
   unfold zc9
   rw[if_neg (by simp[hsj]),hlj]
   have hst:∀v,p v->∃u,ze6 P U0 oj a u/\zin P md ops U0 sp lt Q fuel ((listed.setIfInBounds i true).setIfInBounds j true) ((a.put oi.dst v).put oj.dst u) (U' v) (D' v):=fun v hv=>by
    have h4:=hop v hv
    rw[wanted_put oj a oi.dst v h1,if_pos hwj]at h4
    unfold zc9 at h4
    rw[if_neg (by simp[hsj]),hlj]at h4
    obtain⟨u,hu,hk⟩:=h4
    refine⟨u,?_,hk⟩
    have hu':ze6 P U0 oj (a.put oi.dst v) u:=hu
    unfold ze6 at hu'⊢
    rw[execOp_put oj selj a oi.dst v h1]at hu'
    exact hu'
   obtain⟨v0,hv0⟩:=hy.1
   obtain⟨u,hu,_⟩:=hst v0 hv0
   refine⟨u,hu,ih (listed.setIfInBounds j true) _ U D (hfree.later hjun) (hal.later hsj) (ready_mono hr (Ne.symm hji)) (hw' u) (hy' u) (fun v hv=> ?_)⟩
   obtain⟨u',hu',hk⟩:=hst v hv
   have e:u'=u:=by
    have e1:=hu' w0 hw0
    rw[hu w0 hw0]at e1
    simp at e1
    exact e1.symm
   subst e
   rw[<-Act.put_comm a v u' h2,Array.setIfInBounds_comm _ _ hji]
   exact hk
  rw[if_neg hwj]
  refine ih (listed.setIfInBounds j true) _ U D (hfree.later hjun) (hal.later hsj) (ready_mono hr (Ne.symm hji)) (hw' undef) (hy' undef) (fun v hv=> ?_)
  have h4:=hop v hv
  rw[wanted_put oj a oi.dst v h1,if_neg hwj]at h4
  rw[<-Act.put_comm a v undef h2,Array.setIfInBounds_comm _ _ hji]
  exact h4
def qf1(md:Region.Mode)(ops:Array Oper)(sp lt:Nat->Bool):Bool:=
 (List.range ops.size).all fun j=> !(sp j||lt j)||(List.range j).all (fun i=> !sp i)||
  match ops[j]? with
  |some oj=>oj.after.any fun e=>Region.binds md e&&sp e.on&&decide (e.on<j)&&(List.range ops.size).all fun i=> !sp i||decide (i<=e.on)||decide (j<=i)
  |none=>true
theorem qf0(h:qf1 md ops sp lt=true){i:Nat}{listed:Array Bool}(hi:sp i=true)(hlow:∀j,j<i->listed.getD j false=true)(hhigh':∀j,i<=j->j<ops.size->listed.getD j false=false):Lone md ops sp lt i listed:=by
 intro j oj hs hji hoj hun
 have hjs:j<ops.size:=(Array.getElem?_eq_some_iff.1 hoj).1
 unfold qf1 at h
 rw[List.all_eq_true]at h
 have h1:=h j (List.mem_range.2 hjs)
 simp only[hs,hoj,Bool.not_true,Bool.false_or,Bool.or_eq_true,List.all_eq_true,List.mem_range,Bool.not_eq_true']at h1
 by_cases hlt:j<i
 ·have h2:=hlow j hlt
  rcases Nat.lt_or_ge j listed.size with h'|h'
  ·simp[h']at h2 hun;rw[h2]at hun;cases hun
  simp[Array.getElem?_eq_none h']at h2
 have hij:i<j:=by omega
 rcases h1 with h1|h1
 ·have:=h1 i hij
  rw[hi]at this;cases this
 obtain⟨e,he,hb⟩:=Array.any_eq_true'.1 h1
 simp only[Bool.and_eq_true,decide_eq_true_eq,List.all_eq_true,List.mem_range,Bool.or_eq_true,Bool.not_eq_true']at hb
 obtain⟨⟨⟨hb1,hb2⟩,hb3⟩,hb4⟩:=hb
 have hie:i<=e.on:=by
  rcases hb4 i (by omega)with(h5|h5)|h5
  ·rw[hi]at h5;cases h5
  ·exact h5
  omega
 exact⟨e,he,hb1,hb2,hhigh' e.on hie (by omega)⟩
theorem zlt{Q:Act->World->Prop}{w0:World}(hw0:U0 w0)(hs:Region.noSelect ops=true)(hc:qf1 md ops sp lt=true):∀(l:List Oper) (k:Nat) (a:Act) (U D:Cls),(∀j,l[j]? =ops[k+j]?)->k+l.length=ops.size->
 Region.lexFrom md ops l.length k (upto ops.size k)=true->ze9 P ops U0 sp lt Q l k a U D->zin P md ops U0 sp lt Q l.length (upto ops.size k) a U D
 |[],_,_,_,_,_,_,hB,h=>⟨by simpa [Region.lexFrom]using hB,h⟩
 |o::l,k,a,U,D,hl,hsz,hB,h=>by
  have h0:ops[k]? =some o:=by simpa using(hl 0).symm
  simp only[List.length_cons,Region.lexFrom,Bool.and_eq_true]at hB
  obtain⟨⟨hr,hf⟩,hB'⟩:=hB
  rw[zfh]at hB'
  have hr':k∈Region.ready md ops (upto ops.size k):=by simpa using hr
  have hfree:zh7 md ops o k (upto ops.size k):=Region.free_spec h0 hf
  have next:∀a' U' D',ze9 P ops U0 sp lt Q l (k+1) a' U' D'->zin P md ops U0 sp lt Q l.length ((upto ops.size k).setIfInBounds k true) a' U' D':=fun a' U' D' hh=>by
   rw[zfh]
   exact zlt hw0 hs hc l (k+1) a' U' D' (fun j=>by have:=hl (j+1);simpa [Nat.add_assoc,Nat.add_comm 1 j]using this) (by simp at hsz;omega) hB' hh
  have h':if Region.wanted o (yielded ops a.tmps)=true then zc9 P U0 (sp k) (lt k) o a U D (ze9 P ops U0 sp lt Q l (k+1))else ze9 P ops U0 sp lt Q l (k+1) (a.put o.dst undef) U D:=h
  by_cases hw:Region.wanted o (yielded ops a.tmps)=true
  ·rw[if_pos hw]at h'
   unfold zc9 at h'
   cases hsp:sp k
   ·rw[hsp]at h'
    obtain⟨v,hv,hk⟩:=h'
    refine zis (s:=false) (t:=lt k) h0 (Region.noSelect_spec hs) ?_ l.length _ a U D hfree hr' (.inl ⟨rfl,hw,hv⟩) (next _ _ _ hk)
    intro K a U D hy hK
    unfold zgq
    simp only[h0]
    rcases hy with⟨_,hw2,hv2⟩|⟨hw2,rfl⟩
    ·rw[if_pos hw2]
     unfold zc9
     rw[hsp]
     exact⟨v,hv2,hK⟩
    rw[if_neg (by simp[hw2])]
    exact hK
   rw[hsp]at h'
   obtain⟨p,U',D',hy,hk⟩:=h'
   have hks:k<ops.size:=by simp at hsz;omega
   refine znf hw0 h0 hsp (Region.noSelect_spec hs) l.length _ a U D hfree (qf0 hc hsp (fun j hj=> ?_) (fun j hj hjs=> ?_)) hr' hw hy (fun v hv=>next _ _ _ (hk v hv))
   ·rw[zlw (by omega)];exact decide_eq_true hj
   rw[zlw hjs];exact decide_eq_false (by omega)
  rw[if_neg hw]at h'
  have hw':Region.wanted o (yielded ops a.tmps)=false:=by simpa using hw
  refine zis (s:=true) (t:=true) h0 (Region.noSelect_spec hs) ?_ l.length _ a U D hfree hr' (.inr ⟨hw',rfl⟩) (next _ _ _ h')
  intro K a U D hy hK
  unfold zgq
  simp only[h0]
  rcases hy with⟨hf,_⟩|⟨hw2,_⟩
  ·cases hf
  rw[if_neg (by simp[hw2])]
  exact hK
theorem wp_region_late{id:Nat}{Q:Exit->Act->World->Prop}{w:World}(U0:Cls)(sp lt:Nat->Bool)(hm:P.follows .mixedOrders=true)(hB:Region.lexB .any ops=true)(hc:qf1 .any ops sp lt=true)
 (hD:U0 w.drew) (h:ze9 P ops U0 sp lt (fun a' w'=>Q .normal a' w') ops.toList 0 a U0 U0):(Code.region id ops true).wp P Q a w:=by
 simp only[Region.lexB,Bool.and_eq_true]at hB
 have hD':U0 {w with drawn:=w.drawn+1}:=hD
 refine wp_region_any hm (zeo (U0:=U0) (sp:=sp) (lt:=lt) (Q:=fun a' w'=>Q .normal a' w') (fun _ _ h=>h) _ _ _ U0 U0 _ (fun _ h=>h) (fun _ h=>h) hD' ?_)
 have:=zlt (md:= .any) hD' hB.1 hc ops.toList 0 a U0 U0 (by simp) (by simp) (by rw[zda];simpa using hB.2) h
 rw[zda]at this
 simpa using this
theorem zhf{U D:Cls}(h:∀w,D w->Q a w):ze9 P ops U0 sp lt Q [] k a U D:=h
theorem ztd{o:Oper}{rest:List Oper}{U D:Cls}(hs:(sp k||lt k)=false)
 (h:∀K:Act->Prop,(∀a,ze9 P ops U0 sp lt Q rest (k+1) a U D->K a)->if Region.wanted o (yielded ops a.tmps)=true then∃v,(∀w,U0 w->(execOp a.eval o).run P w= .ok (.value v) w)/\K (a.put o.dst v)else K (a.put o.dst undef)):ze9 P ops U0 sp lt Q (o::rest) k a U D:=by
 have h1:=h (fun a=>ze9 P ops U0 sp lt Q rest (k+1) a U D) (fun _ h=>h)
 obtain⟨hs1,hs2⟩:=Bool.or_eq_false_iff.1 hs
 show if _ then _ else _
 by_cases hw:Region.wanted o (yielded ops a.tmps)=true
 ·rw[if_pos hw]at h1⊢
  unfold zc9
  rw[hs1,hs2]
  exact h1
 rw[if_neg hw]at h1⊢
 exact h1
theorem zte{o:Oper}{rest:List Oper}{U D:Cls}(hs:sp k=true)(hw:Region.wanted o (yielded ops a.tmps)=true)(p:Value->Prop)(U' D':Value->Cls)(hp:∃v,p v)(hU:∀v w,U' v w->U w)(hD:∀v w,D' v w->U' v w)
 (hrun:∀w,D w->zb0 P (fun v w'=>p v/\D' v w') ((execOp a.eval o).run P w)) (h:∀v,p v->ze9 P ops U0 sp lt Q rest (k+1) (a.put o.dst v) (U' v) (D' v)):ze9 P ops U0 sp lt Q (o::rest) k a U D:=by
 show if _ then _ else _
 rw[if_pos hw]
 unfold zc9
 rw[hs]
 exact⟨p,U',D',⟨hp,hU,hD,hrun⟩,h⟩
end
variable {a:Act} {Q:Act->World->Prop} {k:Nat}
section
variable {P:Program} {ops:Array Oper} {U0:Cls} {sp lt:Nat->Bool}
theorem zcm{d:Option Tmp}{v:Value}{K:Act->Prop}(w0:World)(h:Oper.quiet P ⟨d,.move (.const v),0,"",#[],none⟩ a (fun _=>True) K):K (a.put d v):=by
 obtain⟨v',hq,hk⟩:=h
 have h1:=hq w0 trivial
 unfold Oper.quietAt at h1
 rw[BigFrame.run_move (.const v) rfl]at h1
 obtain⟨_,h2⟩:=h1
 have h3:v=v':=h2
 subst h3
 exact hk
theorem wlb{o:Oper}{rest:List Oper}{U D:Cls}(d:Option Tmp)(w0:World)(hs:(sp k||lt k)=false)(v:Value)(hd:o.dst=d)(hw:Region.wanted o (yielded ops a.tmps)=true)
 (hrun:∀w,U0 w->(execOp a.eval o).run P w= .ok (.value v) w) (h:Oper.quiet P ⟨d,.move (.const v),0,"",#[],none⟩ a (fun _=>True) (fun a'=>ze9 P ops U0 sp lt Q rest (k+1) a' U D)):ze9 P ops U0 sp lt Q (o::rest) k a U D:=
 ztd hs fun K hK=>by
  rw[if_pos hw]
  refine⟨v,hrun,hK _ ?_⟩
  rw[hd]
  exact zcm w0 h
theorem zak{o:Oper}{rest:List Oper}{U D:Cls}(d:Option Tmp)(w0:World)(v:Value)(i:Operand)(x:Value)(hrun:∀w,U0 w->∀r:Operand->Value,r i=x->(execOp r o).run P w= .ok (.value v) w)(h:Oper.quiet P ⟨d,.move (.const v),0,"",#[],none⟩ a (fun _=>True) (fun a'=>ze9 P ops U0 sp lt Q rest (k+1) a' U D))(hs:(sp k||lt k)=false:=by rfl)(hd:o.dst=d:=by rfl)(hw:Region.wanted o (yielded ops a.tmps)=true:=by kernel_rfl)(hx:a.eval i=x:=by kernel_rfl):ze9 P ops U0 sp lt Q (o::rest) k a U D:=
 wlb d w0 hs v hd hw (fun w e=>hrun w e a.eval hx) h
theorem wls{o:Oper}{rest:List Oper}{U D:Cls}(d:Option Tmp)(w0:World)(hs:sp k=true)(hd:o.dst=d)(hw:Region.wanted o (yielded ops a.tmps)=true)(p:Value->Prop)(U' D':Value->Cls)(hp:∃v,p v)(hU:∀v w,U' v w->U w)(hD:∀v w,D' v w->U' v w)
 (hrun:∀w,D w->zb0 P (fun v w'=>p v/\D' v w') ((execOp a.eval o).run P w)) (h:∀v,p v->Oper.quiet P ⟨d,.move (.const v),0,"",#[],none⟩ a (fun _=>True) (fun a'=>ze9 P ops U0 sp lt Q rest (k+1) a' (U' v) (D' v))):ze9 P ops U0 sp lt Q (o::rest) k a U D:=
 zte hs hw p U' D' hp hU hD hrun fun v hv=>by
  rw[hd]
  exact zcm w0 (h v hv)
end
end Go.Proofs.YtcbnnfeelhlapadGreatDoor