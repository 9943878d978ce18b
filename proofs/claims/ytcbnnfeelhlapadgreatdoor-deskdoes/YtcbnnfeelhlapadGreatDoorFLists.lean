/-
  zg6 mathematics of deeds done to a list: what a deed makes of it, and what its writer and others see behind it. No walk.
-/
import Derived.Test.YtcbnnfeelhlapadGreatDoorDPlain
import Derived.Deep.RegionWith
namespace Go.Proofs.YtcbnnfeelhlapadGreatDoor
set_option maxHeartbeats 1000000
abbrev za0:Int:=1073741824
def zmc(d:Dd)(number:Int)(k:Nat)(b:UInt8):Ch:=⟨b.toNat,d.by_,d.no,k,number,0,0⟩
def zbc(d:Dd)(number:Int):Nat→List UInt8→List Ch
 |_,[]=>[]
 |k,b::r=>zmc d number k b::zbc d number (k+1) r
def zf4(d:Dd)(number:Int):List Ch:=zbc d number 0 d.text.data.toList
def zaj(number out:Int):Int:=if number≠za0∧(out=0∨number<out)then number else out
def zf1(by_ number:Int)(x:Ch):Ch:=⟨x.c,x.by_,x.no,x.k,x.inn,zaj number x.out,x.gone+2 ^ by_.toNat⟩
def za8(seen by_:Int):Nat→List Ch→Option Nat
 | 0,_=>some 0
 |_+1,[]=>none
 |n+1,x::r=>if za5 seen by_ x=true then(za8 seen by_ n r).map (· +1)else(za8 seen by_ (n+1) r).map (· +1)
def zbm(by_:Int):List Ch→Nat
 |[]=>0
 |x::r=>if x.inn=za0∧x.by_≠by_ then zbm by_ r+1 else 0
def zbb(l:List Ch)(d:Dd):Nat:=
 match za8 d.seen d.by_ d.at_.toNat l with
 |some p=>p+zbm d.by_ (l.drop p)
 |none=>0
def zc0(d:Dd)(number:Int):Int→List Ch→List Ch
 |_,[]=>[]
 |k,x::r=>if za5 d.seen d.by_ x=true then(if d.at_≤k∧k<d.at_+d.many then zf1 d.by_ number x else x)::zc0 d number (k+1) r else x::zc0 d number k r
def doL(l:List Ch)(d:Dd)(number:Int):List Ch:=
 if d.kind=1 then l.take (zbb l d)++(zf4 d number++l.drop (zbb l d))else zc0 d number 0 l
theorem zye(a b:List Ch)(seen by_:Int):vw (a++b) seen by_=vw a seen by_++vw b seen by_:=by
 simp[vw,List.filter_append]
theorem zc9{x:Ch}{seen by_:Int}(l:List Ch)(h:za5 seen by_ x=true):vw (x::l) seen by_=x.c::vw l seen by_:=by
 simp[vw,h]
theorem zcy{x:Ch}{seen by_:Int}(l:List Ch)(h:za5 seen by_ x=false):vw (x::l) seen by_=vw l seen by_:=by
 simp[vw,h]
theorem zix(l:List Ch)(seen by_:Int):((vw l seen by_).length:Int)=cnt l seen by_:=by
 simp[vw,cnt]
theorem qcm{l:List Ch}{seen by_:Int}(h:∀x∈l,za5 seen by_ x=false):vw l seen by_=[]:=by
 induction l with
 |nil=>rfl
 |cons x r ih=>rw[zcy r (h x (by simp)),ih (fun y hy=>h y (by simp[hy]))]
theorem zqx(d:Dd)(number seen by_:Int)(k:Nat)(b:UInt8)(h:d.by_≠by_)(hn:seen<number):za5 seen by_ (zmc d number k b)=false:=by
 have h1:inB number d.by_ seen by_=false:=by
  rw[inB]
  refine decide_eq_false (fun e=> ?_)
  rcases e with e|e
  ·omega
  ·exact h e
 show(inB number d.by_ seen by_&& !zls 0 0 seen by_)=false
 rw[h1]
 rfl
def nums(s:ByteArray):List Int:=s.data.toList.map fun b=>(b.toNat:Int)
theorem zdp{d:Dd}{number:Int}{x:Ch}:∀{k:Nat} {l:List UInt8},x∈zbc d number k l→∃j b,x=zmc d number j b∧k≤j∧j<k+l.length∧b∈l
 |_,[],h=>by simp[zbc]at h
 |k,b::r,h=>by
  rw[zbc,List.mem_cons]at h
  rcases h with rfl|h
  ·exact⟨k,b,rfl,Nat.le_refl _,by simp,by simp⟩
  ·obtain⟨j,c,rfl,h1,h2,h3⟩:=zdp h
   exact⟨j,c,rfl,by omega,by simp;omega,by simp[h3]⟩
theorem qen(d:Dd)(number:Int):∀(k:Nat) (l:List UInt8),(zbc d number k l).map (·.c)=l.map fun b=>(b.toNat:Int)
 |_,[]=>rfl
 |k,b::r=>by rw[zbc,List.map_cons,qen d number (k+1) r,List.map_cons];rfl
theorem zgo(d:Dd)(number:Int):∀(k:Nat) (l:List UInt8),(zbc d number k l).length=l.length
 |_,[]=>rfl
 |k,b::r=>by rw[zbc,List.length_cons,zgo d number (k+1) r,List.length_cons]
theorem zj8(d:Dd)(number:Int)(b:UInt8):∀(k:Nat) (l:List UInt8),zbc d number k (l++[b])=zbc d number k l++[zmc d number (k+l.length) b]
 |k,[]=>rfl
 |k,c::r=>by
  rw[List.cons_append,zbc,zj8 d number b (k+1) r,zbc,List.cons_append,List.length_cons,show k+1+r.length=k+(r.length+1) by omega]
theorem zg5(d:Dd)(number:Int):(zf4 d number).length=d.text.size:=by rw[zf4,zgo,zay]
theorem zwz(d:Dd)(number seen by_:Int)(h:d.by_≠by_)(hn:seen<number):vw (zf4 d number) seen by_=[]:=by
 refine qcm (fun x hx=> ?_)
 obtain⟨j,b,rfl,_⟩:=zdp hx
 exact zqx d number seen by_ j b h hn
theorem zh9{seen by_:Int}:∀{n:Nat} {l:List Ch},n≤(vw l seen by_).length→∃p,za8 seen by_ n l=some p
 | 0,l,_=>⟨0,by cases l<;>rfl⟩
 |n+1,[],h=>by simp[vw]at h
 |n+1,x::r,h=>by
  rw[za8]
  by_cases hx:za5 seen by_ x=true
  ·rw[zc9 r hx]at h
   obtain⟨p,hp⟩:=zh9 (n:=n) (l:=r) (by simpa using h)
   exact⟨p+1,by rw[if_pos hx,hp];rfl⟩
  ·rw[zcy r (by simpa using hx)]at h
   obtain⟨p,hp⟩:=zh9 (n:=n+1) (l:=r) h
   exact⟨p+1,by rw[if_neg hx,hp];rfl⟩
theorem zd5{seen by_:Int}:∀{n:Nat} {l:List Ch} {p:Nat},za8 seen by_ n l=some p→p≤l.length∧vw (l.take p) seen by_=(vw l seen by_).take n∧(vw l seen by_).take n=(vw (l.take p) seen by_)∧(vw (l.take p) seen by_).length=n
 | 0,l,p,h=>by
  obtain rfl:p=0:=by cases l<;>exact(Option.some.inj h).symm
  simp[vw]
 |n+1,[],p,h=>by cases h
 |n+1,x::r,p,h=>by
  rw[za8]at h
  by_cases hx:za5 seen by_ x=true
  ·rw[if_pos hx]at h
   cases hb:za8 seen by_ n r with
   |none=>rw[hb]at h;cases h
   |some q=>
    rw[hb]at h
    obtain rfl:=Option.some.inj h
    obtain⟨h1,h2,_,h4⟩:=zd5 hb
    rw[List.take_succ_cons,zc9 _ hx,zc9 _ hx,h2]
    rw[h2]at h4
    refine⟨by simpa using h1,rfl,rfl,by simpa using h4⟩
  ·have hx':za5 seen by_ x=false:=by simpa using hx
   rw[if_neg hx]at h
   cases hb:za8 seen by_ (n+1) r with
   |none=>rw[hb]at h;cases h
   |some q=>
    rw[hb]at h
    obtain rfl:=Option.some.inj h
    obtain⟨h1,h2,_,h4⟩:=zd5 hb
    rw[List.take_succ_cons,zcy _ hx',zcy _ hx',h2]
    rw[h2]at h4
    exact⟨by simpa using h1,rfl,rfl,h4⟩
theorem znp(by_:Int):∀(l:List Ch),zbm by_ l≤l.length
 |[]=>Nat.le_refl _
 |x::r=>by
  rw[zbm]
  split
  ·have:=znp by_ r;simp;omega
  ·simp
theorem bit_add{g:Int}{w:Int}(hw:wrB w=true)(h:qcb g w=false)(v:Int)(hv:wrB v=true):qcb (g+2 ^ w.toNat) v=(decide (v=w)||qcb g v):=by
 have hw':0≤w∧w≤3:=by simpa [wrB]using hw
 have hv':0≤v∧v≤3:=by simpa [wrB]using hv
 unfold qcb at h⊢
 have h':¬g / 2 ^ w.toNat % 2=1:=by simpa using h
 rcases(show w=0∨w=1∨w=2∨w=3 by omega)with rfl|rfl|rfl|rfl<;>rcases(show v=0∨v=1∨v=2∨v=3 by omega)with rfl|rfl|rfl|rfl<;>
  (rw[Bool.eq_iff_iff];simp at h'⊢;try omega)
theorem zyj{g:Int}{w:Int}(hw:wrB w=true)(h:zcd g w=false)(v:Int):zcd (g+2 ^ w.toNat) v=(decide (v=w)||zcd g v):=by
 rw[zcd,hw,Bool.true_and]at h
 by_cases hv:wrB v=true
 ·rw[zcd,zcd,hv,Bool.true_and,Bool.true_and,bit_add hw h v hv]
 ·have hv':wrB v=false:=by simpa using hv
  have hne:v≠w:=fun e=>by rw[e,hw]at hv';cases hv'
  rw[zcd,zcd,hv',decide_eq_false hne]
  rfl
theorem qa0{g w:Int}(hw:wrB w=true)(h:zcd g w=false)(hg:g≤9223372036854775807):g+2 ^ w.toNat≤9223372036854775807:=by
 have hw':0≤w∧w≤3:=by simpa [wrB]using hw
 rw[zcd,hw,Bool.true_and,qcb]at h
 have h':¬g / 2 ^ w.toNat % 2=1:=by simpa using h
 rcases(show w=0∨w=1∨w=2∨w=3 by omega)with rfl|rfl|rfl|rfl<;>(simp at h'⊢;omega)
theorem ze5{x:Ch}{seen by_:Int}(h:za5 seen by_ x=true):zcd x.gone by_=false:=by
 simp only[za5,zi6,zls,Bool.and_eq_true,Bool.not_eq_true',Bool.or_eq_false_iff]at h
 exact h.2.2
theorem qb4{x:Ch}{seen v by_ number:Int}(hw:wrB by_=true)(h:zcd x.gone by_=false)(hv:v≠by_):
 za5 seen v (zf1 by_ number x)=(inB x.inn x.by_ seen v&& !(decide (zaj number x.out≠0∧zaj number x.out≤seen)||zcd x.gone v)):=by
 show(inB x.inn x.by_ seen v&& !(decide (zaj number x.out≠0∧zaj number x.out≤seen)||zcd (x.gone+2 ^ by_.toNat) v))=_
 rw[zyj hw h,decide_eq_false hv,Bool.false_or]
theorem out_far{number seen out:Int}(h:seen<number):decide (zaj number out≠0∧zaj number out≤seen)=decide (out≠0∧out≤seen):=by
 unfold zaj
 by_cases hc:number≠za0∧(out=0∨number<out)
 ·rw[if_pos hc,decide_eq_false (by omega),decide_eq_false (by omega)]
 ·rw[if_neg hc]
theorem out_open{seen out:Int}:decide (zaj za0 out≠0∧zaj za0 out≤seen)=decide (out≠0∧out≤seen):=by
 unfold zaj
 rw[if_neg (by simp)]
theorem zzf{x:Ch}{seen v by_ number:Int}(hw:wrB by_=true)(h:zcd x.gone by_=false)(hv:v≠by_)(hn:seen<number∨number=za0):za5 seen v (zf1 by_ number x)=za5 seen v x:=by
 rw[qb4 hw h hv]
 rcases hn with hn|rfl
 ·rw[out_far hn];rfl
 ·rw[out_open];rfl
theorem zgh(d:Dd)(number:Int):∀(l:List Ch) (k:Int),(zc0 d number k l).length=l.length
 |[],k=>rfl
 |x::r,k=>by
  rw[zc0]
  split
  ·rw[List.length_cons,zgh d number r (k+1),List.length_cons]
  ·rw[List.length_cons,zgh d number r k,List.length_cons]
theorem zof{d:Dd}{number seen v:Int}(hw:wrB d.by_=true)(hv:v≠d.by_)(hn:seen<number∨number=za0):∀(l:List Ch) (k:Int),vw (zc0 d number k l) seen v=vw l seen v
 |[],k=>rfl
 |x::r,k=>by
  rw[zc0]
  by_cases hx:za5 d.seen d.by_ x=true
  ·rw[if_pos hx]
   have ih:=zof hw hv hn r (k+1)
   have hy:∀y:Ch,za5 seen v y=za5 seen v x→y.c=x.c→vw (y::zc0 d number (k+1) r) seen v=vw (x::r) seen v:=by
    intro y h1 h2
    by_cases hs:za5 seen v x=true
    ·rw[zc9 _ (h1.trans hs),zc9 _ hs,ih,h2]
    ·have hs':za5 seen v x=false:=by simpa using hs
     rw[zcy _ (h1.trans hs'),zcy _ hs',ih]
   split
   ·exact hy _ (zzf hw (ze5 hx) hv hn) rfl
   ·exact hy _ rfl rfl
  ·rw[if_neg hx]
   have ih:=zof hw hv hn r k
   by_cases hs:za5 seen v x=true
   ·rw[zc9 _ hs,zc9 _ hs,ih]
   ·have hs':za5 seen v x=false:=by simpa using hs
    rw[zcy _ hs',zcy _ hs',ih]
theorem zt2(x:Ch)(l:List Ch)(seen v:Int):cnt (x::l) seen v=(if za5 seen v x=true then 1 else 0)+cnt l seen v:=by
 unfold cnt
 by_cases h:za5 seen v x=true
 ·simp[h];omega
 ·simp[h]
def room(d:Dd)(k:Int):Int:=if k<d.at_ then d.many else if k<d.at_+d.many then d.at_+d.many-k else 0
theorem doL_far{l:List Ch}{d:Dd}{number seen v:Int}(hw:wrB d.by_=true)(hv:v≠d.by_)(hn:seen<number):vw (doL l d number) seen v=vw l seen v:=by
 by_cases hk:d.kind=1
 ·rw[doL,if_pos hk,zye,zye,zwz d number seen v (fun e=>hv e.symm) hn,List.nil_append,←zye,List.take_append_drop]
 ·rw[doL,if_neg hk]
  exact zof hw hv (.inl hn) l 0
def tk(d:Dd)(number k:Int)(x:Ch):Ch:=if za5 d.seen d.by_ x=true∧d.at_≤k∧k<d.at_+d.many then zf1 d.by_ number x else x
def nx(d:Dd)(k:Int)(x:Ch):Int:=if za5 d.seen d.by_ x=true then k+1 else k
theorem zax(d:Dd)(number k:Int)(x:Ch)(r:List Ch):zc0 d number k (x::r)=tk d number k x::zc0 d number (nx d k x) r:=by
 rw[zc0,tk,nx]
 by_cases hx:za5 d.seen d.by_ x=true
 ·rw[if_pos hx,if_pos hx]
  by_cases hc:d.at_≤k∧k<d.at_+d.many
  ·rw[if_pos hc,if_pos ⟨hx,hc⟩]
  ·rw[if_neg hc,if_neg (fun e=>hc e.2)]
 ·rw[if_neg hx,if_neg hx,if_neg (fun e=>hx e.1)]
theorem zyl{d:Dd}{number k seen v:Int}{x:Ch}(hw:wrB d.by_=true)(hv:v≠d.by_)(hn:seen<number∨number=za0):za5 seen v (tk d number k x)=za5 seen v x:=by
 unfold tk
 split
 ·rename_i h
  exact zzf hw (ze5 h.1) hv hn
 ·rfl
theorem zsx{l:List Ch}{d:Dd}{number:Int}(ht:d.kind≠1→d.text.size=0):(doL l d number).length=l.length+d.text.size:=by
 by_cases hk:d.kind=1
 ·rw[doL,if_pos hk,List.length_append,List.length_append,zg5]
  have:=congrArg List.length (List.take_append_drop (zbb l d) l)
  rw[List.length_append]at this
  omega
 ·rw[doL,if_neg hk,zgh,ht hk,Nat.add_zero]
end Go.Proofs.YtcbnnfeelhlapadGreatDoor
namespace Go.Proofs.YtcbnnfeelhlapadGreatDoor
set_option maxHeartbeats 1000000
def ze7(least:Int)(x:Ch):Bool:=decide (x.out≠0∧x.out≤least)
def ofL(least:Int)(l:List Ch):List Ch:=l.filter fun x=> !ze7 least x
theorem zsb(least:Int)(a b:List Ch):ofL least (a++b)=ofL least a++ofL least b:=List.filter_append ..
theorem ofL_one(least:Int)(x:Ch):ofL least [x]=if ze7 least x=true then []else [x]:=by
 cases h:ze7 least x<;>simp[ofL,h]
theorem ofL_snoc(least:Int)(l:List Ch)(x:Ch):ofL least (l++[x])=ofL least l++if ze7 least x=true then []else [x]:=by
 rw[zsb,ofL_one]
theorem zzc(least:Int)(l:List Ch):(ofL least l).length≤l.length:=List.length_filter_le ..
theorem zsa(least:Int)(l:List Ch)(k:Nat)(h:k<l.length):ofL least (l.take (k+1))=ofL least (l.take k)++if ze7 least l[k]=true then []else [l[k]]:=by
 rw[zcj l k h,ofL_snoc]
theorem of_more{less more:Int}(h:less≤more)(l:List Ch):ofL more (ofL less l)=ofL more l:=by
 unfold ofL
 rw[List.filter_filter]
 congr 1
 funext x
 by_cases h1:x.out≠0∧x.out≤less
 ·have h2:x.out≠0∧x.out≤more:=⟨h1.1,by omega⟩
  simp[ze7,h1,h2]
 ·simp only[ze7,h1,decide_false,Bool.not_false,Bool.and_true]
theorem zku{least seen by_:Int}{x:Ch}(hs:least≤seen)(h:ze7 least x=true):za5 seen by_ x=false:=by
 rw[ze7,decide_eq_true_eq]at h
 have h2:x.out≠0∧x.out≤seen:=⟨h.1,by omega⟩
 simp[za5,zi6,zls,h2]
theorem qe4{least seen by_:Int}(hs:least≤seen)(l:List Ch):(ofL least l).filter (za5 seen by_)=l.filter (za5 seen by_):=by
 unfold ofL
 rw[List.filter_filter]
 congr 1
 funext x
 cases h:ze7 least x
 ·simp
 ·simp[zku hs h]
theorem qgg{least seen:Int}(by_:Int)(hs:least≤seen)(l:List Ch):cnt (ofL least l) seen by_=cnt l seen by_:=by
 unfold cnt;rw[qe4 hs]
theorem of_split(least:Int)(l:List Ch)(k:Nat):ofL least l=ofL least (l.take k)++ofL least (l.drop k):=by
 rw[←zsb,List.take_append_drop]
def zlr(l:List Ch):Prop:=l.Pairwise fun x y=>¬(x.by_=y.by_∧x.no=y.no∧x.k=y.k)
theorem zlr.of{l:List Ch}(h:zlr l)(least:Int):zlr (ofL least l):=List.Pairwise.filter _ h
end Go.Proofs.YtcbnnfeelhlapadGreatDoor
namespace Go.Proofs.YtcbnnfeelhlapadGreatDoor
set_option maxHeartbeats 1000000
set_option maxRecDepth 20000
open Go.RowKit
def zn2(x:Ch):Bool:=wrB x.by_&&decide (1≤x.no)&&zaw x.k 0 19&&zaw x.gone 0 15
def zgm(x:Ch)(log:Int):Bool:=((x.inn==1073741824)||zaw x.inn 1 log)&&zaw x.out 0 log
def qbp(x:Ch):Bool:=(x.out != 0)&&(decide (x.out≤x.inn)||(x.gone==0))
def zcl(x:Ch)(log:Int):Int:=if(zn2 x&&zgm x log)=true then(if qbp x=true then 3 else 0)else 1
theorem zj9(x:Ch)(w:World):
 Calls Tryz.prog 214 #[chV x] w fun e w'=>e= .returned (.bool (zn2 x))∧Below w.heap.size w w':=by
 obtain⟨c,b,no,k,i,o,g⟩:=x
 cases h1:wrB b
 ·go_enter Tryz.func214,Tryz.ntmps214
  go_wp2_with (first|(go_at_call 116;refine(zbl _ _).mono ?_;rintro e w' ⟨rfl,rfl⟩)|(go_at_call 161;refine(zg8 _ _ _ _).mono ?_;rintro e w' ⟨rfl,rfl⟩))
  go_ret
  exact⟨zbh (by simp[zn2,h1]),(Below.refl _ _).alloc (Nat.le_refl _) _⟩
 ·by_cases h2:1≤no
  ·cases h3:zaw k 0 19
   all_goals
    go_enter Tryz.func214,Tryz.ntmps214
    go_wp2_with (first|(go_at_call 116;refine(zbl _ _).mono ?_;rintro e w' ⟨rfl,rfl⟩)|(go_at_call 161;refine(zg8 _ _ _ _).mono ?_;rintro e w' ⟨rfl,rfl⟩))
    go_ret
    exact⟨zbh (by simp[zn2,h1,h2,h3]),(Below.refl _ _).alloc (Nat.le_refl _) _⟩
  ·go_enter Tryz.func214,Tryz.ntmps214
   go_wp2_with (first|(go_at_call 116;refine(zbl _ _).mono ?_;rintro e w' ⟨rfl,rfl⟩)|(go_at_call 161;refine(zg8 _ _ _ _).mono ?_;rintro e w' ⟨rfl,rfl⟩))
   go_ret
   exact⟨zbh (by simp[zn2];intro _ h;omega),(Below.refl _ _).alloc (Nat.le_refl _) _⟩
theorem zh3(x:Ch)(log:Int)(w:World):
 Calls Tryz.prog 215 #[chV x,.int .i64 log] w fun e w'=>e= .returned (.bool (zgm x log))∧Below w.heap.size w w':=by
 obtain⟨c,b,no,k,i,o,g⟩:=x
 cases h1:(i==1073741824)
 ·cases h2:zaw i 1 log
  all_goals
   go_enter Tryz.func215,Tryz.ntmps215
   go_wp2_with (go_at_call 161;refine(zg8 _ _ _ _).mono ?_;rintro e w' ⟨rfl,rfl⟩)
   go_ret
   exact⟨zbh (by simp[zgm,h1,h2]),(Below.refl _ _).alloc (Nat.le_refl _) _⟩
 ·go_enter Tryz.func215,Tryz.ntmps215
  go_wp2_with (go_at_call 161;refine(zg8 _ _ _ _).mono ?_;rintro e w' ⟨rfl,rfl⟩)
  go_ret
  exact⟨zbh (by simp[zgm,h1]),(Below.refl _ _).alloc (Nat.le_refl _) _⟩
theorem zvn(x:Ch)(log:Int)(w:World):
 Calls Tryz.prog 187 #[chV x,.int .i64 log] w fun e w'=>e= .returned (.int .i64 (zcl x log))∧Below w.heap.size w w':=by
 cases h1:zn2 x
 ·go_enter Tryz.func187,Tryz.ntmps187
  go_wp2_with fail
  refine(zj9 x _).mono ?_
  rintro e w1 ⟨rfl,hb⟩
  have HB:Hid (Below w.heap.size w w1):=bla ((Below.refl _ _).alloc (Nat.le_refl _) _) hb
  clear hb
  go_wp2
  go_ret
  exact⟨zad (by simp[zcl,h1]),HB.out⟩
 ·cases h2:zgm x log
  ·go_enter Tryz.func187,Tryz.ntmps187
   go_wp2_with fail
   refine(zj9 x _).mono ?_
   rintro e w1 ⟨rfl,hb⟩
   obtain⟨hc,hf⟩:=zds hb
   go_wp2_with fail
   refine(zh3 x _ _).mono ?_
   rintro e w2 ⟨rfl,hb2⟩
   have HB:Hid (Below w.heap.size w w2):=bla (bla ((Below.refl _ _).alloc (Nat.le_refl _) _) hb) hb2
   clear hb hb2 hc hf
   go_wp2
   go_ret
   exact⟨zad (by simp[zcl,h1,h2]),HB.out⟩
  ·cases h3:(x.out != 0)
   ·go_enter Tryz.func187,Tryz.ntmps187
    go_wp2_with fail
    refine(zj9 x _).mono ?_
    rintro e w1 ⟨rfl,hb⟩
    obtain⟨hc,hf⟩:=zds hb
    go_wp2_with fail
    refine(zh3 x _ _).mono ?_
    rintro e w2 ⟨rfl,hb2⟩
    have hz:w.heap.size<w1.heap.size:=by have:=hb.size;simp at this;omega
    obtain⟨hc2,hf2⟩:=zds hb2
    have HB:Hid (Below w.heap.size w w2):=bla (bla ((Below.refl _ _).alloc (Nat.le_refl _) _) hb) hb2
    clear hb hb2 hf hf2
    go_wp2
    go_ret
    exact⟨zad (by simp[zcl,h1,h2,qbp,h3]),HB.out⟩
   ·by_cases h4:x.out≤x.inn
    ·go_enter Tryz.func187,Tryz.ntmps187
     go_wp2_with fail
     refine(zj9 x _).mono ?_
     rintro e w1 ⟨rfl,hb⟩
     obtain⟨hc,hf⟩:=zds hb
     go_wp2_with fail
     refine(zh3 x _ _).mono ?_
     rintro e w2 ⟨rfl,hb2⟩
     have hz:w.heap.size<w1.heap.size:=by have:=hb.size;simp at this;omega
     obtain⟨hc2,hf2⟩:=zds hb2
     have HB:Hid (Below w.heap.size w w2):=bla (bla ((Below.refl _ _).alloc (Nat.le_refl _) _) hb) hb2
     clear hb hb2 hf hf2
     go_wp2
     go_ret
     exact⟨zad (by simp[zcl,h1,h2,qbp,h3,h4]),HB.out⟩
    ·cases h5:(x.gone==0)
     all_goals
      go_enter Tryz.func187,Tryz.ntmps187
      go_wp2_with fail
      refine(zj9 x _).mono ?_
      rintro e w1 ⟨rfl,hb⟩
      obtain⟨hc,hf⟩:=zds hb
      go_wp2_with fail
      refine(zh3 x _ _).mono ?_
      rintro e w2 ⟨rfl,hb2⟩
      have hz:w.heap.size<w1.heap.size:=by have:=hb.size;simp at this;omega
      obtain⟨hc2,hf2⟩:=zds hb2
      have HB:Hid (Below w.heap.size w w2):=bla (bla ((Below.refl _ _).alloc (Nat.le_refl _) _) hb) hb2
      clear hb hb2 hf hf2
      go_wp2
      go_ret
      have h4':¬x.out≤x.inn:=by omega
      exact⟨zad (by simp[zcl,h1,h2,qbp,h3,h4',h5]),HB.out⟩
def zf8(l:List Ch)(k:Nat):Bool:=
 match l[k]? with
 |some x=>(l.take k).any (fun y=>zk4 y x)
 |none=>false
def zfb(l:List Ch)(log:Int)(k:Nat):Int:=
 match l[k]? with
 |some x=>if zcl x log≠0 then zcl x log else if zf8 l k=true then 6 else 0
 |none=>0
def zl0(l:List Ch)(log r:Int):Prop:=
 (200<l.length∧r=10)∨(l.length≤200∧((∃k:Nat,k<l.length∧(∀j,j<k→zfb l log j=0)∧zfb l log k=r∧r≠0)∨((∀j,j<l.length→zfb l log j=0)∧r=0)))
theorem zxp{l:List Ch}{k:Nat}(hk:k<l.length){r:Int}(h:qh0 (l.take k) l[k] r):(0≤r↔zf8 l k=true)∧(r<0↔zf8 l k=false)∧ -1≤r∧r≤k:=by
 have hlen:(l.take k).length=k:=by simp;omega
 unfold zf8
 rw[List.getElem?_eq_getElem hk]
 rcases h with⟨j,hj,_,hs,rfl⟩|⟨hno,rfl⟩
 ·have ha:(l.take k).any (fun y=>zk4 y l[k])=true:=by
   rw[List.any_eq_true]
   unfold zot at hs
   rw[List.getElem?_eq_getElem hj]at hs
   exact⟨(l.take k)[j],List.getElem_mem hj,hs⟩
  rw[hlen]at hj
  exact⟨⟨fun _=>ha,fun _=>by omega⟩,⟨fun h=>by omega,fun h=>(Bool.noConfusion (ha.symm.trans h))⟩,by omega,by omega⟩
 ·have ha:(l.take k).any (fun y=>zk4 y l[k])=false:=by
   rw[List.any_eq_false]
   intro y hy
   obtain⟨j,hj,rfl⟩:=List.mem_iff_getElem.1 hy
   have:=hno j hj
   unfold zot at this
   rw[List.getElem?_eq_getElem hj]at this
   exact fun h=>Bool.noConfusion (this.symm.trans h)
  exact⟨⟨fun h=>by omega,fun h=>(Bool.noConfusion (ha.symm.trans h))⟩,⟨fun _=>ha,fun _=>by omega⟩,by omega,by omega⟩
theorem Row.take{w:World}{b off:Nat}{l:List Ch}(h:Row w b off l)(k:Nat):Row w b off (l.take k):=by
 refine⟨h.lt,fun i hi=> ?_⟩
 have hi':i<l.length:=by simp at hi;omega
 rw[List.getElem_take]
 exact h.at_ i hi'
theorem qbt(l:List Ch)(log:Int)(k:Nat)(h:∀j,j<k→zfb l log j=0)(hk:zfb l log k=0):∀j,j<k+1→zfb l log j=0:=by
 intro j hj
 by_cases e:j=k
 ·rw[e];exact hk
 ·exact h j (by omega)
theorem qc2(b off len cap:Nat)(l:List Ch)(log:Int)(w:World)(hl:l.length=len)(hc:len≤cap)(hm:len≤281474976710656)(hr:Row w b off l):
 Calls Tryz.prog 157 #[.slice (some ⟨b,off,none⟩) len cap,.int .i64 log] w fun e w'=>∃r,e= .returned (.int .i64 r)∧zl0 l log r∧Below w.heap.size w w':=by
 have HR:Hid (Row w b off l):=hr
 have HL:Hid (l.length=len):=hl
 have hb:=hr.lt
 clear hr hl
 by_cases h200:200<len
 ·go_enter Tryz.func157,Tryz.ntmps157
  go_wp2
  go_ret
  exact⟨10,rfl,.inl ⟨by rw[HL.out];exact h200,rfl⟩,Below.refl _ _⟩
 ·have h200':decide (200<(len:Int))=false:=by simp;omega
  go_enter Tryz.func157,Tryz.ntmps157
  go_wp2
  go_loopw [13] (fun i wr=>∃k:Nat,k≤len∧i= .int .i64 k∧Hid (∀j,j<k→zfb l log j=0)∧Below w.heap.size w wr) (fun i _=>len-(intOf i).toNat)
  case atStart=>exact⟨0,Nat.zero_le _,rfl,fun j hj=>absurd hj (Nat.not_lt_zero _),Below.refl _ _⟩
  case round=>
   obtain⟨k,hk,rfl,hno,hbel⟩:=hrel
   by_cases hlt:k<len
   ·have hkl:k<l.length:=by rw[HL.out];exact hlt
    have HF:Hid _:=fun r=> @zxp l k hkl r
    have HX:Hid (zfb l log k=if zcl l[k] log≠0 then zcl l[k] log else if zf8 l k=true then 6 else 0):=by
     unfold Hid zfb
     rw[List.getElem?_eq_getElem hkl]
    have HRr:Hid (Row wr b off l):=HR.out.below hbel
    obtain⟨h0,h1,h2,h3,h4,h5,h6⟩:=HRr.out.at_ k hkl
    generalize l[k]=x at h0 h1 h2 h3 h4 h5 h6 HX HF
    go_wp2_with fail
    refine(zvn x _ _).mono ?_
    rintro e w1 ⟨rfl,hb1⟩
    by_cases hz:zcl x log=0
    ·have hz':(zcl x log != 0)=false:=by simp[hz]
     have HZ:Hid (zcl x log=0):=hz
     obtain⟨hc1,hf1⟩:=zds hb1
     have hk0:(0:Int)≤(k:Int):=by omega
     have hkc:(k:Int)≤(cap:Int):=by omega
     have hb2:Below w.heap.size w w1:=bla (hbel.alloc (by have:=hbel.size;omega) _) hb1
     have HC:Hid (Calls Tryz.prog 188 #[.slice (some ⟨b,off,none⟩) k cap,chV x] w1.drew fun e w'=>∃r,e= .returned (.int .i64 r)∧qh0 (l.take k) x r∧Below w1.drew.heap.size w1.drew w'):=
      qfv b off k cap (l.take k) x w1.drew (by simp;omega) (by omega) ((HR.out.below hb2.drew).take k)
     clear h0 h1 h2 h3 h4 h5 h6 hz
     go_wp2_with fail
     go_region_with (go_at_call 188;refine HC.out.mono ?_;rintro e w2 ⟨r,rfl,hfi,hb3⟩)
     have HFI:=HF.out r hfi
     have HB4:Hid (Below w.heap.size w w2):=bla hb2.drew hb3
     clear hfi hb3 hb2 hb1 hc1 hf1 HC HF hbel hk0 hkc
     by_cases hr:0≤r
     ·have hs:=HFI.1.1 hr
      have HV:Hid (zfb l log k=6):=by unfold Hid;rw[HX.out,if_neg (by rw[HZ.out];simp),if_pos hs]
      clear HFI hs
      go_wp2
      go_ret
      exact⟨6,rfl,.inr ⟨by rw[HL.out];omega,.inl ⟨k,by rw[HL.out];exact hlt,hno.out,HV.out,by decide⟩⟩,HB4.out⟩
     ·have hs:=HFI.2.1.1 (by omega)
      have HV:Hid (zfb l log k=0):=by unfold Hid;rw[HX.out,if_neg (by rw[HZ.out];simp),if_neg (by rw[hs];simp)]
      clear HFI hs
      go_wp2
      go_roundw
      case rel=>exact⟨k+1,by omega,by go_num,qbt l log k hno.out HV.out,HB4.out⟩
      case measure=>simp[intOf];omega
    ·have hz':(zcl x log != 0)=true:=by simp[hz]
     have HZ:Hid (zcl x log≠0):=hz
     have hb2:Below w.heap.size w w1:=bla (hbel.alloc (by have:=hbel.size;omega) _) hb1
     clear h0 h1 h2 h3 h4 h5 h6 hb1 hz HF
     go_wp2
     go_ret
     refine⟨zcl x log,rfl,.inr ⟨by rw[HL.out];omega,.inl ⟨k,by rw[HL.out];exact hlt,hno.out,?_,HZ.out⟩⟩,hb2⟩
     rw[HX.out,if_pos HZ.out]
   ·obtain rfl:k=len:=by omega
    go_wp2
    go_ret
    exact⟨0,rfl,.inr ⟨by rw[HL.out];omega,.inr ⟨by rw[HL.out];exact hno.out,rfl⟩⟩,hbel⟩
end Go.Proofs.YtcbnnfeelhlapadGreatDoor
namespace Go.Proofs.YtcbnnfeelhlapadGreatDoor
set_option maxHeartbeats 1000000
def zgx(l:List Ch)(d:Dd):Int:=
 if za6 d≠0 then za6 d else if cnt l d.seen d.by_<d.at_+d.many then 1 else if 200<l.length+d.text.size then 9 else 0
def doC(l:List Ch)(d:Dd)(number:Int):Int:=if zgx l d≠0 then zgx l d else if number<1 then 1 else 0
def zgv:List Ch→Nat→List Dd→(List Ch)×Int×Nat
 |l,_,[]=>(l,0,0)
 |l,i,d::r=>if doC l d (i+1)≠0 then([],doC l d (i+1),i)else zgv (doL l d (i+1)) (i+1) r
theorem zc2{l:List Ch}{d:Dd}{number:Int}(h:doC l d number=0):za6 d=0∧d.at_+d.many≤cnt l d.seen d.by_∧l.length+d.text.size≤200∧1≤number:=by
 unfold doC at h
 by_cases hm:zgx l d=0
 ·rw[if_neg (by simp[hm])]at h
  unfold zgx at hm
  by_cases hc:za6 d=0
  ·rw[if_neg (by simp[hc])]at hm
   by_cases h1:cnt l d.seen d.by_<d.at_+d.many
   ·rw[if_pos h1]at hm;cases hm
   ·rw[if_neg h1]at hm
    by_cases h2:200<l.length+d.text.size
    ·rw[if_pos h2]at hm;cases hm
    ·by_cases h3:number<1
     ·rw[if_pos h3]at h;cases h
     ·exact⟨hc,by omega,by omega,by omega⟩
  ·rw[if_pos hc]at hm;exact absurd hm hc
 ·rw[if_pos hm]at h;exact absurd h hm
structure qce(last:Int→Int)(i:Nat)(l:List Ch):Prop where
 wr:∀x∈l,wrB x.by_=true
 no:∀x∈l,1≤x.no∧x.no≤last x.by_
 k:∀x∈l,0≤x.k∧x.k≤19
 gone:∀x∈l,0≤x.gone∧x.gone≤15
 inn:∀x∈l,1≤x.inn∧x.inn≤i
 out:∀x∈l,0≤x.out∧x.out≤i∧(x.out≠0→x.inn<x.out∧x.gone≠0)
 one:l.Pairwise fun x y=>¬(x.by_=y.by_∧x.no=y.no∧x.k=y.k)
theorem zah{d:Dd}(h:za6 d=0):(d.kind=1∨d.kind=2)∧wrB d.by_=true∧1≤d.no∧d.no≤120∧0≤d.seen∧d.seen≤120∧0≤d.at_∧d.at_≤200∧0≤d.many∧d.many≤200∧(d.kind=1→1≤d.text.size∧d.text.size≤20∧d.many=0)∧(d.kind≠1→d.text.size=0):=by
 unfold za6 at h
 by_cases hk:d.kind=1∨d.kind=2
 ·rw[if_neg (by omega)]at h
  cases hp:zcv d
  ·rw[if_pos hp]at h;cases h
  ·rw[if_neg (by simp[hp])]at h
   simp[zcv,zaw]at hp
   obtain⟨h1,⟨h2,h3⟩,⟨h4,h5⟩,h6,h7⟩:=hp
   by_cases h1k:d.kind=1
   ·rw[if_pos h1k,zwt]at h
    by_cases hm:d.many=0
    ·rw[if_neg (by simp[hm])]at h
     cases ht:zck d.text
     ·rw[ht]at h;cases h
     ·simp[zck]at ht
      exact⟨hk,h1,h2,h3,h4,h5,h6,h7,by omega,by omega,fun _=>⟨ht.1.1,ht.1.2,hm⟩,fun hh=>absurd h1k hh⟩
    ·rw[if_pos hm]at h;cases h
   ·rw[if_neg h1k,zl4]at h
    by_cases ht:d.text.size=0
    ·rw[if_neg (by simp[ht])]at h
     cases hm:zaw d.many 1 200
     ·rw[hm]at h;cases h
     ·simp[zaw]at hm
      exact⟨hk,h1,h2,h3,h4,h5,h6,h7,by omega,by omega,fun hh=>absurd hh h1k,fun _=>ht⟩
    ·rw[if_pos ht]at h;cases h
 ·rw[if_pos (by omega)]at h;cases h
theorem zs9(d:Dd)(number:Int):∀(k:Nat) (l:List UInt8),(zbc d number k l).Pairwise fun x y=>¬(x.by_=y.by_∧x.no=y.no∧x.k=y.k)
 |_,[]=>List.Pairwise.nil
 |k,b::r=>by
  rw[zbc,List.pairwise_cons]
  refine⟨fun y hy=> ?_,zs9 d number (k+1) r⟩
  obtain⟨j,c,rfl,h1,_,_⟩:=zdp hy
  rintro⟨_,_,h⟩
  have h':(k:Int)=j:=h
  omega
theorem made_put{last:Int→Int}{i:Nat}{l:List Ch}{d:Dd}(hm:qce last i l)(h:za6 d=0)(hk:d.kind=1)(hno:d.no=last d.by_+1):qce (fun w=>if w=d.by_ then d.no else last w) (i+1) (doL l d (i+1)):=by
 obtain⟨_,hw,hn1,_,_,_,_,_,_,_,hp,_⟩:=zah h
 obtain⟨t1,t2,_⟩:=hp hk
 have hmem:∀x∈doL l d (i+1),x∈l∨x∈zf4 d (i+1):=by
  intro x hx
  rw[doL,if_pos hk,List.mem_append,List.mem_append]at hx
  rcases hx with hx|hx|hx
  ·exact .inl (List.mem_of_mem_take hx)
  ·exact .inr hx
  ·exact .inl (List.mem_of_mem_drop hx)
 have hnew:∀x∈zf4 d (i+1),∃j:Nat,∃b,x=zmc d (i+1) j b∧j<d.text.size:=by
  intro x hx
  obtain⟨j,b,rfl,_,h2,_⟩:=zdp hx
  exact⟨j,b,rfl,by rw[←zay];omega⟩
 have hlast:∀x∈l,x.no≤(fun w=>if w=d.by_ then d.no else last w) x.by_:=by
  intro x hx
  have:=(hm.no x hx).2
  show x.no≤if x.by_=d.by_ then d.no else last x.by_
  split
  ·rename_i e;rw[e]at this;omega
  ·exact this
 refine⟨fun x hx=> ?_,fun x hx=> ?_,fun x hx=> ?_,fun x hx=> ?_,fun x hx=> ?_,fun x hx=> ?_,?_⟩
 ·rcases hmem x hx with hx|hx
  ·exact hm.wr x hx
  ·obtain⟨j,b,rfl,_⟩:=hnew x hx;exact hw
 ·rcases hmem x hx with hx|hx
  ·exact⟨(hm.no x hx).1,hlast x hx⟩
  ·obtain⟨j,b,rfl,_⟩:=hnew x hx
   refine⟨hn1,?_⟩
   show d.no≤if d.by_=d.by_ then d.no else last d.by_
   rw[if_pos rfl]
   exact Int.le_refl _
 ·rcases hmem x hx with hx|hx
  ·exact hm.k x hx
  ·obtain⟨j,b,rfl,hj⟩:=hnew x hx
   show 0≤(j:Int)∧(j:Int)≤19
   omega
 ·rcases hmem x hx with hx|hx
  ·exact hm.gone x hx
  ·obtain⟨j,b,rfl,hj⟩:=hnew x hx
   show(0:Int)≤0∧(0:Int)≤15
   decide
 ·rcases hmem x hx with hx|hx
  ·have:=hm.inn x hx
   omega
  ·obtain⟨j,b,rfl,hj⟩:=hnew x hx
   show(1:Int)≤(i:Int)+1∧(i:Int)+1≤((i+1:Nat):Int)
   omega
 ·rcases hmem x hx with hx|hx
  ·have:=hm.out x hx
   exact⟨this.1,by omega,this.2.2⟩
  ·obtain⟨j,b,rfl,hj⟩:=hnew x hx
   exact⟨Int.le_refl 0,by show(0:Int)≤((i+1:Nat):Int);omega,fun e=>absurd rfl e⟩
 ·rw[doL,if_pos hk,List.pairwise_append,List.pairwise_append]
  have hpart:=hm.one
  rw[←List.take_append_drop (zbb l d) l,List.pairwise_append]at hpart
  have hdiff:∀x∈l,∀y∈zf4 d (i+1),¬(x.by_=y.by_∧x.no=y.no∧x.k=y.k):=by
   rintro x hx y hy ⟨h1,h2,_⟩
   obtain⟨j,b,rfl,_⟩:=hnew y hy
   have:=(hm.no x hx).2
   have h1':x.by_=d.by_:=h1
   have h2':x.no=d.no:=h2
   rw[h1']at this
   omega
  refine⟨hpart.1,⟨zs9 d (i+1) 0 _,hpart.2.1,fun y hy x hx e=>hdiff x (List.mem_of_mem_drop hx) y hy ⟨e.1.symm,e.2.1.symm,e.2.2.symm⟩⟩,fun x hx y hy=> ?_⟩
  rcases List.mem_append.1 hy with hy|hy
  ·exact hdiff x (List.mem_of_mem_take hx) y hy
  ·exact hpart.2.2 x hx y hy
theorem znv{g w:Int}(hw:wrB w=true)(h:zcd g w=false)(h0:0≤g)(h1:g≤15):0≤g+2 ^ w.toNat∧g+2 ^ w.toNat≤15∧g+2 ^ w.toNat≠0:=by
 have hw':0≤w∧w≤3:=by simpa [wrB]using hw
 rw[zcd,hw,Bool.true_and,qcb]at h
 have h':¬g / 2 ^ w.toNat % 2=1:=by simpa using h
 rcases(show w=0∨w=1∨w=2∨w=3 by omega)with rfl|rfl|rfl|rfl<;>(simp at h'⊢;omega)
theorem zfp{d:Dd}{number:Int}{y:Ch}:∀{l:List Ch} {k:Int},y∈zc0 d number k l→∃x∈l,y=x∨(za5 d.seen d.by_ x=true∧y=zf1 d.by_ number x)
 |[],k,h=>by simp[zc0]at h
 |x::r,k,h=>by
  rw[zax,List.mem_cons]at h
  rcases h with rfl|h
  ·refine⟨x,by simp,?_⟩
   unfold tk
   split
   ·rename_i hc;exact .inr ⟨hc.1,rfl⟩
   ·exact .inl rfl
  ·obtain⟨z,hz,hy⟩:=zfp h
   exact⟨z,by simp[hz],hy⟩
theorem zm3{d:Dd}{number:Int}:∀{l:List Ch} {k:Int},l.Pairwise (fun x y=>¬(x.by_=y.by_∧x.no=y.no∧x.k=y.k))→(zc0 d number k l).Pairwise fun x y=>¬(x.by_=y.by_∧x.no=y.no∧x.k=y.k)
 |[],k,_=>List.Pairwise.nil
 |x::r,k,h=>by
  rw[List.pairwise_cons]at h
  rw[zax,List.pairwise_cons]
  have hx:(tk d number k x).by_=x.by_∧(tk d number k x).no=x.no∧(tk d number k x).k=x.k:=by
   unfold tk
   split<;>exact⟨rfl,rfl,rfl⟩
  refine⟨fun y hy=> ?_,zm3 h.2⟩
  obtain⟨z,hz,hyz⟩:=zfp hy
  rw[hx.1,hx.2.1,hx.2.2]
  rcases hyz with rfl|⟨_,rfl⟩
  ·exact h.1 _ hz
  ·exact h.1 z hz
theorem qeu{last:Int→Int}{i:Nat}{l:List Ch}{d:Dd}(hm:qce last i l)(h:za6 d=0)(hk:d.kind≠1)(hno:d.no=last d.by_+1)(hi:i<1000):qce (fun w=>if w=d.by_ then d.no else last w) (i+1) (doL l d (i+1)):=by
 obtain⟨_,hw,hn1,_,_,_,_,_,_,_,_,_⟩:=zah h
 rw[doL,if_neg hk]
 have hlast:∀x∈l,x.no≤(fun w=>if w=d.by_ then d.no else last w) x.by_:=by
  intro x hx
  have:=(hm.no x hx).2
  show x.no≤if x.by_=d.by_ then d.no else last x.by_
  split
  ·rename_i e;rw[e]at this;omega
  ·exact this
 refine⟨fun y hy=> ?_,fun y hy=> ?_,fun y hy=> ?_,fun y hy=> ?_,fun y hy=> ?_,fun y hy=> ?_,zm3 hm.one⟩
 all_goals obtain⟨x,hx,hyx⟩:=zfp hy
 ·rcases hyx with rfl|⟨_,rfl⟩
  ·exact hm.wr _ hx
  ·exact hm.wr x hx
 ·rcases hyx with rfl|⟨_,rfl⟩
  ·exact⟨(hm.no _ hx).1,hlast _ hx⟩
  ·exact⟨(hm.no x hx).1,hlast x hx⟩
 ·rcases hyx with rfl|⟨_,rfl⟩
  ·exact hm.k _ hx
  ·exact hm.k x hx
 ·rcases hyx with rfl|⟨hs,rfl⟩
  ·exact hm.gone _ hx
  ·have hg:=hm.gone x hx
   have:=znv hw (ze5 hs) hg.1 hg.2
   exact⟨this.1,this.2.1⟩
 ·rcases hyx with rfl|⟨_,rfl⟩
  ·have:=hm.inn _ hx;omega
  ·have:=hm.inn x hx
   show 1≤x.inn∧x.inn≤((i+1:Nat):Int)
   omega
 ·rcases hyx with rfl|⟨hs,rfl⟩
  ·have:=hm.out _ hx
   exact⟨this.1,by omega,this.2.2⟩
  ·have ho:=hm.out x hx
   have hin:=hm.inn x hx
   have hg:=hm.gone x hx
   have hga:=znv hw (ze5 hs) hg.1 hg.2
   show 0≤zaj ((i:Int)+1) x.out∧zaj ((i:Int)+1) x.out≤((i+1:Nat):Int)∧(zaj ((i:Int)+1) x.out≠0→x.inn<zaj ((i:Int)+1) x.out∧x.gone+2 ^ d.by_.toNat≠0)
   unfold zaj
   split
   ·refine⟨by omega,by omega,fun _=>⟨by omega,hga.2.2⟩⟩
   ·refine⟨ho.1,by omega,fun hne=>⟨(ho.2.2 hne).1,hga.2.2⟩⟩
def zg6(n:Int)(l:List Ch):Prop:=∀x∈l,x.inn≤n∧x.out=0∧x.gone=0
theorem qb5{last:Int→Int}{i:Nat}{l:List Ch}(hm:qce last i l)(hl:l.length≤200){r:Int}(h:zl0 l i r):r=0:=by
 have hz:∀j,j<l.length→zfb l i j=0:=by
  intro j hj
  unfold zfb
  rw[List.getElem?_eq_getElem hj]
  have hx:l[j]∈l:=List.getElem_mem hj
  have h1:zcl l[j] i=0:=by
   unfold zcl
   have a1:=hm.wr _ hx
   have a2:=hm.no _ hx
   have a3:=hm.k _ hx
   have a4:=hm.gone _ hx
   have a5:=hm.inn _ hx
   have a6:=hm.out _ hx
   have n1:zn2 l[j]=true:=by
    simp only[zn2,a1,zaw,Bool.true_and,Bool.and_eq_true,decide_eq_true_eq]
    omega
   have n2:zgm l[j] i=true:=by
    simp only[zgm,zaw,Bool.and_eq_true,Bool.or_eq_true,decide_eq_true_eq]
    exact⟨.inr a5,a6.1,a6.2.1⟩
   have n3:qbp l[j]=false:=by
    unfold qbp
    by_cases ho:l[j].out=0
    ·simp[ho]
    ·have:=a6.2.2 ho
     have e1:decide (l[j].out≤l[j].inn)=false:=decide_eq_false (by omega)
     have e2:(l[j].gone==0)=false:=beq_eq_false_iff_ne.2 this.2
     rw[e1,e2]
     simp
   rw[n1,n2,n3]
   rfl
  have h2:zf8 l j=false:=by
   unfold zf8
   rw[List.getElem?_eq_getElem hj]
   show((l.take j).any fun y=>zk4 y l[j])=false
   rw[List.any_eq_false]
   intro y hy
   obtain⟨k,hk,rfl⟩:=List.getElem_of_mem hy
   have hk':k<j:=by simpa using(show k<(l.take j).length from hk) |> fun h=>by rw[List.length_take]at h;omega
   have:=List.pairwise_iff_getElem.1 hm.one k j (by omega) hj hk'
   rw[List.getElem_take]
   simpa [zk4]using this
  simp[h1,h2]
 rcases h with⟨h,_⟩|⟨_,⟨k,hk,_,hy,hr⟩|⟨_,rfl⟩⟩
 ·omega
 ·rw[hz k hk]at hy;exact absurd hy.symm hr
 ·rfl
end Go.Proofs.YtcbnnfeelhlapadGreatDoor