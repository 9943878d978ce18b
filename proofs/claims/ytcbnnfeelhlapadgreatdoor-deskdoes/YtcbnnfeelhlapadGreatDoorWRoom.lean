/-
  zg6 mathematics of a log: who is there, what each has said, the deeds, and what never happens. No walk.
-/
import Derived.Test.YtcbnnfeelhlapadGreatDoorFLiP
import Derived.Test.YtcbnnfeelhlapadGreatDoorLawBehind
namespace Go.Proofs.YtcbnnfeelhlapadGreatDoor
open Go.RowKit
def zab{α:Type}(f:Int→α)(w:Int)(x:α):Int→α:=fun v=>if v=w then x else f v
theorem zaf{α:Type}(f:Int→α)(w:Int)(x:α):zab f w x w=x:=if_pos rfl
theorem za9{α:Type}(f:Int→α){w v:Int}(x:α)(h:v≠w):zab f w x v=f v:=if_neg h
structure Bk where
 ds:List Dd
 here:Int→Bool
 last:Int→Int
 said:Int→Int
def Bk.empty:Bk:=⟨[],fun _=>false,fun _=>0,fun _=>0⟩
def Bk.len(b:Bk):Int:=b.ds.length
def Bk.isHere(b:Bk)(w:Int):Bool:=wrB w&&b.here w
def Bk.chars(b:Bk):List Ch:=(zgv [] 0 b.ds).1
def zc6(b:Bk)(w:Int):Int:=if wrB w=false then 1 else if b.here w=true then 6 else 0
def zbw(b:Bk)(w:Int):Bk:=if zc6 b w=0 then⟨b.ds,zab b.here w true,b.last,zab b.said w b.len⟩else b
def zey(b:Bk)(w:Int):Int:=if zc6 b w=0 then b.last w+1 else 0
def zhs(b:Bk)(w:Int):Int:=if b.isHere w=true then 0 else 5
def zcs(b:Bk)(w:Int):Bk:=if zhs b w=0 then⟨b.ds,zab b.here w false,b.last,b.said⟩else b
def za4(b:Bk)(d:Dd):Int:=
 if b.isHere d.by_=false then 5 else if d.no≠b.last d.by_+1 then 7 else if d.seen<b.said d.by_∨b.len<d.seen then 8 else if 120≤b.len then 9 else doC b.chars d (b.len+1)
def zat(b:Bk)(d:Dd):Bk:=if za4 b d=0 then⟨b.ds++[d],b.here,zab b.last d.by_ d.no,zab b.said d.by_ d.seen⟩else b
def zam(b:Bk)(d:Dd):Int:=if za4 b d=0 then b.len+1 else 0
def zd4(b:Bk)(w seen:Int):Int:=if b.isHere w=false then 5 else if seen<b.said w∨b.len<seen then 8 else 0
def zcz(b:Bk)(w seen:Int):Bk:=if zd4 b w seen=0 then⟨b.ds,b.here,b.last,zab b.said w seen⟩else b
def zal(b:Bk)(n w:Int):Int:=if b.here w=true∧b.said w<n then b.said w else n
def zao(b:Bk):Int:=zal b (zal b (zal b (zal b b.len 0) 1) 2) 3
def updS(f:Int→Int)(d:Dd):Int→Int:=zab f d.by_ d.seen
def zla(l:List Dd):Int→Int:=l.foldl updS (fun _=>0)
theorem zwm(l:List Dd)(d:Dd):zla (l++[d])=updS (zla l) d:=by simp[zla]
structure zcm(b:Bk):Prop where
 all0:(zgv [] 0 b.ds).2.1=0
 small:b.ds.length≤120
 ok:∀i,i<b.ds.length→okAt b.ds i
 mono:∀i d,b.ds[i]? =some d→zla (b.ds.take i) d.by_≤d.seen
 last:∀w,b.last w=zft b.ds w
 saw:∀w,zla b.ds w≤b.said w
 said:∀w,0≤b.said w∧b.said w≤b.len
theorem qbj:zcm Bk.empty:=by
 refine⟨rfl,Nat.zero_le _,fun i hi=>absurd hi (Nat.not_lt_zero _),fun i d h=> ?_,fun w=>rfl,fun w=>Int.le_refl _,fun w=>⟨Int.le_refl _,Int.le_refl _⟩⟩
 simp[Bk.empty]at h
theorem zpt{d:Dd}:∀(ds:List Dd) (l:List Ch) (i:Nat),(zgv l i ds).2.1=0→doC (zgv l i ds).1 d (((i+ds.length:Nat):Int)+1)=0→
 zgv l i (ds++[d])=(doL (zgv l i ds).1 d (((i+ds.length:Nat):Int)+1),0,0)
 |[],l,i,_,hc=>by
  simp only[List.nil_append,List.length_nil,Nat.add_zero,zgv]at hc⊢
  rw[if_neg (fun h=>h hc)]
 |e::r,l,i,h,hc=>by
  rw[List.cons_append,zgv]
  rw[zgv]at h hc
  by_cases he:doC l e ((i:Int)+1)=0
  ·rw[if_neg (fun x=>x he)]at h hc⊢
   have hl:i+(e::r).length=i+1+r.length:=by simp;omega
   rw[hl]at hc⊢
   rw[zpt r _ (i+1) h hc,zgv,if_neg (fun x=>x he)]
  ·rw[if_pos he]at h
   exact absurd h he
theorem zac{b:Bk}{w:Int}(h:b.isHere w=true):wrB w=true∧b.here w=true:=by
 simpa [Bk.isHere]using h
theorem zkx{b:Bk}{d:Dd}(h:za4 b d=0):b.isHere d.by_=true∧d.no=b.last d.by_+1∧b.said d.by_≤d.seen∧d.seen≤b.len∧b.len<120∧doC b.chars d (b.len+1)=0:=by
 unfold za4 at h
 cases hh:b.isHere d.by_
 ·rw[if_pos hh]at h;cases h
 ·rw[if_neg (by simp[hh])]at h
  by_cases h1:d.no=b.last d.by_+1
  ·rw[if_neg (fun e=>e h1)]at h
   by_cases h2:d.seen<b.said d.by_∨b.len<d.seen
   ·rw[if_pos h2]at h;cases h
   ·rw[if_neg h2]at h
    by_cases h3:120≤b.len
    ·rw[if_pos h3]at h;cases h
    ·rw[if_neg h3]at h
     exact⟨rfl,h1,by omega,by omega,by omega,h⟩
  ·rw[if_pos h1]at h;cases h
theorem zpa{b:Bk}(w:Int)(h:zcm b):zcm (zbw b w):=by
 unfold zbw
 split
 ·refine⟨h.all0,h.small,h.ok,h.mono,h.last,fun v=> ?_,fun v=> ?_⟩
  ·have h1:=h.saw v
   have h2:=h.said v
   show zla b.ds v≤zab b.said w b.len v
   by_cases e:v=w
   ·rw[e,zaf];rw[e]at h1 h2;omega
   ·rw[za9 _ _ e];exact h1
  ·have h2:=h.said v
   show 0≤zab b.said w b.len v∧zab b.said w b.len v≤b.len
   by_cases e:v=w
   ·rw[e,zaf];rw[e]at h2;omega
   ·rw[za9 _ _ e];exact h2
 ·exact h
theorem qbi{b:Bk}(w:Int)(h:zcm b):zcm (zcs b w):=by
 unfold zcs
 split
 ·exact⟨h.all0,h.small,h.ok,h.mono,h.last,h.saw,h.said⟩
 ·exact h
theorem qfp{b:Bk}(w seen:Int)(h:zcm b):zcm (zcz b w seen):=by
 unfold zcz
 split
 ·rename_i hc
  have hs:b.said w≤seen∧seen≤b.len:=by
   unfold zd4 at hc
   split at hc
   ·cases hc
   ·split at hc
    ·cases hc
    ·omega
  refine⟨h.all0,h.small,h.ok,h.mono,h.last,fun v=> ?_,fun v=> ?_⟩
  ·have h1:=h.saw v
   show zla b.ds v≤zab b.said w seen v
   by_cases e:v=w
   ·rw[e,zaf];rw[e]at h1;omega
   ·rw[za9 _ _ e];exact h1
  ·have h2:=h.said v
   show 0≤zab b.said w seen v∧zab b.said w seen v≤b.len
   by_cases e:v=w
   ·rw[e,zaf];rw[e]at h2;omega
   ·rw[za9 _ _ e];exact h2
 ·exact h
theorem zpm{b:Bk}{d:Dd}(h:zcm b)(hc:za4 b d=0):zgv [] 0 (b.ds++[d])=(doL b.chars d (b.len+1),0,0):=by
 obtain⟨_,_,_,_,_,h6⟩:=zkx hc
 have:=zpt (d:=d) b.ds [] 0 h.all0 (by rw[Nat.zero_add];exact h6)
 rw[Nat.zero_add]at this
 exact this
theorem qbk{b:Bk}(d:Dd)(h:zcm b):zcm (zat b d):=by
 unfold zat
 split
 ·rename_i hc
  obtain⟨h1,h2,h3,h4,h5,h6⟩:=zkx hc
  have hs0:=h.said d.by_
  have hlen:b.len=(b.ds.length:Int):=rfl
  refine⟨?_,?_,?_,?_,?_,?_,?_⟩
  ·show(zgv [] 0 (b.ds++[d])).2.1=0
   rw[zpm h hc]
  ·show(b.ds++[d]).length≤120
   rw[List.length_append]
   show b.ds.length+1≤120
   omega
  ·intro i hi e he
   have hi':i<b.ds.length+1:=by simpa using hi
   by_cases hil:i<b.ds.length
   ·have he':b.ds[i]? =some e:=by
     rw[←he]
     exact(List.getElem?_append_left hil).symm
    have:=h.ok i hil e he'
    show wrB e.by_=true∧e.no=zft ((b.ds++[d]).take i) e.by_+1∧e.seen≤i
    rw[List.take_append_of_le_length (by omega)]
    exact this
   ·obtain rfl:i=b.ds.length:=by omega
    have he':e=d:=by
     have:(b.ds++[d])[b.ds.length]? =some e:=he
     simpa using this.symm
    subst he'
    show wrB e.by_=true∧e.no=zft ((b.ds++[e]).take b.ds.length) e.by_+1∧e.seen≤(b.ds.length:Int)
    rw[List.take_left,←h.last]
    exact⟨(zac h1).1,h2,h4⟩
  ·intro i e he
   have he0:(b.ds++[d])[i]? =some e:=he
   have hi:i<b.ds.length+1:=by
    have:=(List.getElem?_eq_some_iff.1 he0).1
    simpa using this
   show zla ((b.ds++[d]).take i) e.by_≤e.seen
   by_cases hil:i<b.ds.length
   ·rw[List.take_append_of_le_length (by omega)]
    exact h.mono i e (by rw[←he0];exact(List.getElem?_append_left hil).symm)
   ·obtain rfl:i=b.ds.length:=by omega
    have he':e=d:=by simpa using he0.symm
    subst he'
    rw[List.take_left]
    have:=h.saw e.by_
    omega
  ·intro w
   show zab b.last d.by_ d.no w=zft (b.ds++[d]) w
   rw[zko]
   show(if w=d.by_ then d.no else b.last w)=if w=d.by_ then d.no else zft b.ds w
   rw[h.last w]
  ·intro w
   show zla (b.ds++[d]) w≤zab b.said d.by_ d.seen w
   rw[zwm,updS]
   by_cases e:w=d.by_
   ·rw[e,zaf,zaf];exact Int.le_refl _
   ·rw[za9 _ _ e,za9 _ _ e];exact h.saw w
  ·intro w
   have hw:=h.said w
   show 0≤zab b.said d.by_ d.seen w∧zab b.said d.by_ d.seen w≤((b.ds++[d]).length:Int)
   rw[List.length_append]
   show 0≤zab b.said d.by_ d.seen w∧zab b.said d.by_ d.seen w≤((b.ds.length+1:Nat):Int)
   by_cases e:w=d.by_
   ·rw[e,zaf];omega
   ·rw[za9 _ _ e];omega
 ·exact h
theorem zdq(b:Bk)(n w:Int):zal b n w≤n:=by unfold zal;split<;>omega
theorem zfh{b:Bk}{n w:Int}(h:b.here w=true):zal b n w≤b.said w:=by
 unfold zal
 split
 ·exact Int.le_refl _
 ·rename_i hc
  by_cases h2:b.said w<n
  ·exact absurd ⟨h,h2⟩ hc
  ·omega
theorem zh6{b:Bk}{n w m:Int}(h:m≤n)(hw:b.here w=true→m≤b.said w):m≤zal b n w:=by
 unfold zal
 split
 ·rename_i hc;exact hw hc.1
 ·exact h
theorem zfs(b:Bk):zao b≤b.len:=by
 unfold zao
 have h0:=zdq b b.len 0
 have h1:=zdq b (zal b b.len 0) 1
 have h2:=zdq b (zal b (zal b b.len 0) 1) 2
 have h3:=zdq b (zal b (zal b (zal b b.len 0) 1) 2) 3
 omega
theorem zej{b:Bk}{w:Int}(hw:wrB w=true)(h:b.here w=true):zao b≤b.said w:=by
 have hw':0≤w∧w≤3:=by simpa [wrB]using hw
 have h1:=zdq b (zal b b.len 0) 1
 have h2:=zdq b (zal b (zal b b.len 0) 1) 2
 have h3:=zdq b (zal b (zal b (zal b b.len 0) 1) 2) 3
 unfold zao
 rcases(show w=0∨w=1∨w=2∨w=3 by omega)with rfl|rfl|rfl|rfl
 ·have:=zfh (n:=b.len) h;omega
 ·have:=zfh (n:=zal b b.len 0) h;omega
 ·have:=zfh (n:=zal b (zal b b.len 0) 1) h;omega
 ·exact zfh h
theorem zh4{b:Bk}{m:Int}(h:m≤b.len)(hw:∀w,wrB w=true→b.here w=true→m≤b.said w):m≤zao b:=by
 unfold zao
 exact zh6 (zh6 (zh6 (zh6 h (hw 0 (by decide))) (hw 1 (by decide))) (hw 2 (by decide))) (hw 3 (by decide))
theorem qba{b:Bk}(w:Int):zao b≤zao (zbw b w):=by
 unfold zbw
 split
 ·refine zh4 (zfs b) (fun v hv hh=> ?_)
  show zao b≤zab b.said w b.len v
  by_cases e:v=w
  ·rw[e,zaf];exact zfs b
  ·rw[za9 _ _ e]
   have hh':zab b.here w true v=true:=hh
   rw[za9 _ _ e]at hh'
   exact zej hv hh'
 ·exact Int.le_refl _
theorem zx4{b:Bk}(w:Int):zao b≤zao (zcs b w):=by
 unfold zcs
 split
 ·refine zh4 (zfs b) (fun v hv hh=> ?_)
  show zao b≤b.said v
  have hh':zab b.here w false v=true:=hh
  by_cases e:v=w
  ·rw[e,zaf]at hh';cases hh'
  ·rw[za9 _ _ e]at hh'
   exact zej hv hh'
 ·exact Int.le_refl _
theorem zr1{b:Bk}(w seen:Int):zao b≤zao (zcz b w seen):=by
 unfold zcz
 split
 ·rename_i hc
  have hs:b.isHere w=true∧b.said w≤seen:=by
   unfold zd4 at hc
   cases hh:b.isHere w
   ·rw[if_pos hh]at hc;cases hc
   ·rw[if_neg (by simp[hh])]at hc
    split at hc
    ·cases hc
    ·exact⟨rfl,by omega⟩
  refine zh4 (zfs b) (fun v hv hh=> ?_)
  show zao b≤zab b.said w seen v
  by_cases e:v=w
  ·rw[e,zaf]
   have:=zej (zac hs.1).1 (zac hs.1).2
   omega
  ·rw[za9 _ _ e]
   exact zej hv hh
 ·exact Int.le_refl _
theorem zpk{b:Bk}{d:Dd}(hc:za4 b d=0):zao b≤d.seen:=by
 obtain⟨h1,_,h3,_⟩:=zkx hc
 have:=zej (zac h1).1 (zac h1).2
 omega
theorem zp4{b:Bk}(d:Dd):zao b≤zao (zat b d):=by
 unfold zat
 split
 ·rename_i hc
  have hl:=zpk hc
  refine zh4 ?_ (fun v hv hh=> ?_)
  ·have:=zfs b
   show zao b≤((b.ds++[d]).length:Int)
   rw[List.length_append]
   have e:b.len=(b.ds.length:Int):=rfl
   show zao b≤((b.ds.length+1:Nat):Int)
   omega
  ·show zao b≤zab b.said d.by_ d.seen v
   by_cases e:v=d.by_
   ·rw[e,zaf];exact hl
   ·rw[za9 _ _ e]
    exact zej hv hh
 ·exact Int.le_refl _
theorem zmh{b:Bk}{w:Int}(h:zc6 b w≠0):zbw b w=b:=by rw[zbw,if_neg h]
theorem zzk{b:Bk}{w:Int}(h:zhs b w≠0):zcs b w=b:=by rw[zcs,if_neg h]
theorem zt0{b:Bk}{d:Dd}(h:za4 b d≠0):zat b d=b:=by rw[zat,if_neg h]
theorem zos{b:Bk}{w seen:Int}(h:zd4 b w seen≠0):zcz b w seen=b:=by rw[zcz,if_neg h]
theorem zb2{b:Bk}:b.chars.length≤200:=ztx (zoi b.ds).1
theorem zb6{b:Bk}(h:zcm b)(w:Int):0≤b.last w∧b.last w≤b.len:=by
 rw[h.last w]
 have:=zr2 b.ds.length (Nat.le_refl _) h.ok w
 rw[List.take_length]at this
 exact this
end Go.Proofs.YtcbnnfeelhlapadGreatDoor
namespace Go.Proofs.YtcbnnfeelhlapadGreatDoor
def Fit(l:List Ch)(d:Dd):Prop:=za6 d=0∧d.at_+d.many≤cnt l d.seen d.by_
def zdy:List Ch→List Dd→Prop
 |_,[]=>True
 |l,e::es=>Fit l e∧zdy (doL l e za0) es
theorem zv5{l:List Ch}{d:Dd}{n:Int}(h:doC l d n=0):Fit l d:=⟨(zc2 h).1,(zc2 h).2.1⟩
theorem fit_code{l:List Ch}{d:Dd}{n:Int}(h:Fit l d)(h1:1≤n):doC l d n=if 200<l.length+d.text.size then 9 else 0:=by
 have hm:zgx l d=if 200<l.length+d.text.size then 9 else 0:=by
  rw[zgx,if_neg (fun x=>x h.1),if_neg (by have:=h.2;omega)]
 rw[doC,hm]
 by_cases c:200<l.length+d.text.size
 ·rw[if_pos c,if_pos (by decide)]
 ·rw[if_neg c,if_neg (by simp),if_neg (by omega)]
theorem zpb{l:List Ch}{d:Dd}(h:Fit l d):d.at_≤cnt l d.seen d.by_:=by
 have:=h.2
 have:=(zah h.1).2.2.2.2.2.2.2.2.1
 omega
theorem zxn{l:List Ch}{d:Dd}{n:Int}(h:Fit l d):(doL l d n).length=l.length+d.text.size:=zsx (zah h.1).2.2.2.2.2.2.2.2.2.2.2
theorem zr9{l:List Ch}{d:Dd}(h:Fit l d):wrB d.by_=true:=(zah h.1).2.1
theorem zpc:∀(es:List Dd) (l:List Ch) (e:Dd),zdy l es→Fit (zai l es) e→zdy l (es++[e])
 |[],_,_,_,h=>⟨h,trivial⟩
 |_::es,_,e,h,h'=>⟨h.1,zpc es _ e h.2 h'⟩
theorem zpd:∀(es:List Dd) (l:List Ch),zdy l es→(zai l es).length≤200→okTop l es∧l.length≤200
 |[],_,_,h=>⟨trivial,h⟩
 |e::es,l,h,hl=>by
  obtain⟨a1,a2⟩:=zpd es (doL l e za0) h.2 hl
  rw[zxn h.1]at a2
  exact⟨⟨doC_of h.1.1 h.1.2 a2 (by decide),a1⟩,by omega⟩
theorem zo8{me n:Int}{d:Dd}(hne:d.by_≠me)(sd:d.seen<n)(ho:n<za0):∀(es:List Dd) (l:List Ch),ziv me l→(∀e∈es,e.by_=me∧e.seen<n)→zdy l es→Fit l d→
 Fit (zai l es) d∧zdy (doL l d n) es∧doL (zai l es) d n=zai (doL l d n) es
 |[],l,_,_,_,h=>⟨h,trivial,rfl⟩
 |e::es,l,hm,he,hk,h=>by
  obtain⟨rfl,se⟩:=he e (by simp)
  have we:=zr9 hk.1
  have wd:=zr9 h
  have ed:cnt (doL l e za0) d.seen d.by_=cnt l d.seen d.by_:=qgh we hne (by omega)
  have ee:cnt (doL l d n) e.seen e.by_=cnt l e.seen e.by_:=qgh wd (Ne.symm hne) se
  obtain⟨a1,a2,a3⟩:=zo8 hne sd ho es (doL l e za0) (zja hm (fun _=>rfl)) (fun x hx=>he x (by simp[hx])) hk.2 ⟨h.1,by rw[ed];exact h.2⟩
  have hcomm:=qg0 wd we hne hm sd se ho (zpb h) (zpb hk.1)
  refine⟨a1,⟨⟨hk.1.1,by rw[ee];exact hk.1.2⟩,?_⟩,?_⟩
  ·rw[←hcomm];exact a2
  ·rw[zai,a3,hcomm];rfl
theorem zg1.fits{n me:Int}(ho:n<za0):∀(es:List Dd) {a b:List Ch},(∀e∈es,e.by_=me∧e.seen<n)→ziv me a→zg1 n me a b→zdy a es→zdy b es∧zg1 n me (zai a es) (zai b es)
 |[],_,_,_,_,h,_=>⟨trivial,h⟩
 |e::es,a,b,he,hm,h,hk=>by
  obtain⟨rfl,se⟩:=he e (by simp)
  obtain⟨a1,a2⟩:=zg1.fits ho es (fun x hx=>he x (by simp[hx])) (zja hm (fun _=>rfl)) (h.do_ se ho hm) hk.2
  exact⟨⟨⟨hk.1.1,by rw[h.cnt se];exact hk.1.2⟩,a1⟩,a2⟩
theorem qd3{me n:Int}{d:Dd}{es:List Dd}{l:List Ch}(ho:n<za0)(hm:ziv me l)(he:∀e∈d::es,e.by_=me∧e.seen<n)(hk:zdy l (d::es)):
 zdy (doL l d n) es∧zg1 n me (zai l (d::es)) (zai (doL l d n) es):=by
 obtain⟨rfl,sd⟩:=he d (by simp)
 exact zg1.fits ho es (fun x hx=>he x (by simp[hx])) (zja hm (fun _=>rfl)) (qgy (n:=n) (zr9 hk.1) (by omega)) hk.2
theorem zo9{me least:Int}:∀(es:List Dd) (l:List Ch),ziv me l→(∀e∈es,e.by_=me∧least≤e.seen)→zdy l es→zdy (ofL least l) es∧zai (ofL least l) es=ofL least (zai l es)
 |[],_,_,_,_=>⟨trivial,rfl⟩
 |e::es,l,hm,he,hk=>by
  obtain⟨rfl,se⟩:=he e (by simp)
  obtain⟨a1,a2⟩:=zo9 es (doL l e za0) (zja hm (fun _=>rfl)) (fun x hx=>he x (by simp[hx])) hk.2
  have ec:=do_of (number:=za0) se (.inl rfl) (by decide) hm (zpb hk.1)
  rw[ec]at a1 a2
  exact⟨⟨⟨hk.1.1,by rw[qgg _ se];exact hk.1.2⟩,a1⟩,a2⟩
def zar(ds:List Dd)(i:Nat):List Ch:=(zgv [] 0 (ds.take i)).1
theorem zo1{d:Dd}{r:List Dd}:∀(a:List Dd) (l:List Ch) (i:Nat),(zgv l i (a++d::r)).2.1=0→(zgv l i a).2.1=0∧doC (zgv l i a).1 d (((i+a.length:Nat):Int)+1)=0
 |[],l,i,h=>by
  rw[List.nil_append,zgv]at h
  by_cases hc:doC l d ((i:Int)+1)=0
  ·exact⟨rfl,hc⟩
  ·rw[if_pos hc]at h;exact absurd h hc
 |e::a,l,i,h=>by
  rw[List.cons_append,zgv]at h
  by_cases hc:doC l e ((i:Int)+1)=0
  ·rw[if_neg (fun x=>x hc)]at h
   have:=zo1 a _ (i+1) h
   have hl:i+(e::a).length=i+1+a.length:=by simp;omega
   rw[zgv,if_neg (fun x=>x hc),hl]
   exact this
  ·rw[if_pos hc]at h;exact absurd h hc
theorem zjx{b:Bk}(h:zcm b){i:Nat}(hi:i<b.ds.length):doC (zar b.ds i) b.ds[i] ((i:Int)+1)=0∧zar b.ds (i+1)=doL (zar b.ds i) b.ds[i] ((i:Int)+1):=by
 have e:b.ds=b.ds.take i++b.ds[i]::b.ds.drop (i+1):=by
  rw[←List.drop_eq_getElem_cons hi,List.take_append_drop]
 have h0:=h.all0
 rw[e]at h0
 have hlen:(b.ds.take i).length=i:=by rw[List.length_take];omega
 obtain⟨a1,a2⟩:=zo1 (b.ds.take i) [] 0 h0
 rw[hlen,Nat.zero_add]at a2
 refine⟨a2,?_⟩
 have:=zpt (d:=b.ds[i]) (b.ds.take i) [] 0 a1 (by rw[hlen,Nat.zero_add];exact a2)
 rw[hlen,Nat.zero_add]at this
 rw[zar,zjp b.ds i hi,this]
 rfl
theorem zjj(b:Bk):zar b.ds b.ds.length=b.chars:=by rw[zar,List.take_length];rfl
theorem zln{ds es:List Dd}{i:Nat}(h:i≤ds.length):zar (ds++es) i=zar ds i:=by
 rw[zar,List.take_append_of_le_length h];rfl
theorem zco{b:Bk}(h:zcm b):∀(i:Nat),i≤b.ds.length→qce (zft (b.ds.take i)) i (zar b.ds i)∧(zar b.ds i).length≤200:=by
 intro i hi
 have hz:(zgv [] 0 (b.ds.take i)).2.1=0:=by
  by_cases hl:i<b.ds.length
  ·have e:b.ds=b.ds.take i++b.ds[i]::b.ds.drop (i+1):=by
    rw[←List.drop_eq_getElem_cons hl,List.take_append_drop]
   have h0:=h.all0
   rw[e]at h0
   exact(zo1 _ [] 0 h0).1
  ·rw[List.take_of_length_le (by omega)];exact h.all0
 have hok:∀j,j<([]++b.ds.take i).length→okAt ([]++b.ds.take i) j:=by
  intro j hj d hd
  rw[List.nil_append]at hj hd⊢
  rw[List.length_take]at hj
  rw[List.getElem?_take,if_pos (by omega)]at hd
  obtain⟨o1,o2,o3⟩:=h.ok j (by omega) d hd
  refine⟨o1,?_,o3⟩
  rw[List.take_take,Nat.min_eq_left (by omega)]
  exact o2
 have hs:=h.small
 have hlen:(b.ds.take i).length=i:=by rw[List.length_take];omega
 obtain⟨m1,_,m3⟩:=zsl (b.ds.take i) [] [] hok (by rw[List.nil_append,hlen];omega) zzh rfl (Nat.zero_le _) hz
 rw[List.nil_append,hlen]at m1
 exact⟨m1,m3⟩
theorem zdc{b:Bk}(h:zcm b){i:Nat}(hi:i≤b.ds.length)(me:Int):ziv me (zar b.ds i):=fun x hx e=>by
 have h1:=((zco h i hi).1.inn x hx).2
 have h2:=h.small
 have h3:x.inn=1073741824:=e
 omega
theorem qc3{b:Bk}(h:zcm b){i:Nat}(hi:i≤b.ds.length)(me:Int):Upto me i (zar b.ds i):=fun x hx=>
 ⟨.inl ((zco h i hi).1.inn x hx).2,((zco h i hi).1.out x hx).2.1⟩
structure Wr where
 me:Int
 seen:Nat
 next:Int
 base:List Ch
 opens:List Dd
 sent:Nat
def Wr.list(w:Wr):List Ch:=zai w.base w.opens
def Wr.least(w:Wr):Int:=match w.opens[w.sent]? with
 |some e=>e.seen
 |none=>w.seen
structure WI(b:Bk)(c:Int)(w:Wr):Prop where
 wr:wrB w.me=true
 here:b.here w.me=true
 seen:w.seen≤b.ds.length
 base:w.base=ofL c (zar b.ds w.seen)
 cl:c≤zao b
 cs:c≤w.seen
 csee:∀d∈b.ds.drop w.seen,c≤d.seen
 own:∀e∈w.opens,e.by_=w.me∧e.seen≤w.seen∧c≤e.seen
 fit:zdy (zar b.ds w.seen) w.opens
 sent:w.sent≤w.opens.length
 told:(b.ds.drop w.seen).filter (fun d=>decide (d.by_=w.me))=w.opens.take w.sent
 no:∀(i:Nat) (e:Dd),w.opens[i]? =some e→e.no=w.next-w.opens.length+i
 last:b.last w.me+w.opens.length=w.next-1+w.sent
 said:b.said w.me≤w.least
 mono:w.opens.Pairwise fun x y=>x.seen≤y.seen
 full:w.list.length≤200
theorem WI.small{b:Bk}{c:Int}{w:Wr}(_h:WI b c w)(hg:zcm b):(w.seen:Int)<121:=by
 have:=hg.small
 have:=_h.seen
 omega
theorem WI.list_eq{b:Bk}{c:Int}{w:Wr}(h:WI b c w)(hg:zcm b):zdy w.base w.opens∧w.list=ofL c (zai (zar b.ds w.seen) w.opens):=by
 have:=zo9 w.opens (zar b.ds w.seen) (zdc hg h.seen w.me) (fun e he=>⟨(h.own e he).1,(h.own e he).2.2⟩) h.fit
 rw[←h.base]at this
 exact this
theorem WI.ok{b:Bk}{c:Int}{w:Wr}(h:WI b c w)(hg:zcm b):okTop w.base w.opens∧w.base.length≤200:=zpd _ _ (h.list_eq hg).1 h.full
theorem WI.least_le{b:Bk}{c:Int}{w:Wr}(h:WI b c w):w.least≤w.seen:=by
 unfold Wr.least
 split
 ·rename_i e he
  exact(h.own e (List.mem_of_getElem? he)).2.1
 ·exact Int.le_refl _
theorem WI.unsent{b:Bk}{c:Int}{w:Wr}(h:WI b c w){i:Nat}{e:Dd}(hi:w.sent≤i)(he:w.opens[i]? =some e):w.least≤e.seen:=by
 obtain⟨hl,hx⟩:=List.getElem?_eq_some_iff.1 he
 have h0:w.opens[w.sent]? =some w.opens[w.sent]:=List.getElem?_eq_getElem (by omega)
 unfold Wr.least
 rw[h0]
 show w.opens[w.sent].seen≤e.seen
 by_cases c:w.sent=i
 ·subst c;rw[hx];exact Int.le_refl _
 ·have:=List.pairwise_iff_getElem.1 h.mono w.sent i (by omega) hl (by omega)
  rw[hx]at this
  exact this
theorem WI.does{b:Bk}{c:Int}{w:Wr}(h:WI b c w)(hg:zcm b){e:Dd}(hb:e.by_=w.me)(hn:e.no=w.next)(hs:e.seen=w.seen)(hc:doC w.list e za0=0):
 WI b c ⟨w.me,w.seen,w.next+1,w.base,w.opens++[e],w.sent⟩:=by
 obtain⟨c1,c2,c3,_⟩:=zc2 hc
 have hle:=(h.list_eq hg).2
 have hcn:cnt w.list e.seen e.by_=cnt (zai (zar b.ds w.seen) w.opens) e.seen e.by_:=by
  rw[hle,qgg _ (by rw[hs];exact h.cs)]
 have hfit:Fit (zai (zar b.ds w.seen) w.opens) e:=⟨c1,by rw[←hcn];exact c2⟩
 have hl:(zai w.base (w.opens++[e])).length≤200:=by
  rw[zjs,zxn (l:=zai w.base w.opens) ⟨c1,c2⟩]
  exact c3
 refine⟨h.wr,h.here,h.seen,h.base,h.cl,h.cs,h.csee,?_,zpc _ _ _ h.fit hfit,?_,?_,?_,?_,?_,?_,hl⟩
 ·intro x hx
  rcases List.mem_append.1 hx with hx|hx
  ·exact h.own x hx
  ·obtain rfl:x=e:=by simpa using hx
   exact⟨hb,by rw[hs];exact Int.le_refl _,by rw[hs];exact h.cs⟩
 ·have:=h.sent
  simp;omega
 ·show _=List.take w.sent (w.opens++[e])
  rw[List.take_append_of_le_length h.sent]
  exact h.told
 ·intro i x hx
  show x.no=w.next+1-((w.opens++[e]).length:Nat)+i
  rw[List.length_append]
  by_cases hi:i<w.opens.length
  ·have hx':w.opens[i]? =some x:=by
    have:(w.opens++[e])[i]? =some x:=hx
    rw[List.getElem?_append_left hi]at this
    exact this
   have:=h.no i x hx'
   simp;omega
  ·have hx':(w.opens++[e])[i]? =some x:=hx
   rw[List.getElem?_append_right (by omega)]at hx'
   have hz:i-w.opens.length=0:=by
    have:=(List.getElem?_eq_some_iff.1 hx').1
    simp at this;omega
   rw[hz]at hx'
   obtain rfl:e=x:=by simpa using hx'
   simp;omega
 ·have:=h.last
  show b.last w.me+((w.opens++[e]).length:Nat)=w.next+1-1+w.sent
  rw[List.length_append];simp;omega
 ·have h1:=h.said
  have h2:=h.least_le
  refine Int.le_trans h1 ?_
  show w.least≤match (w.opens++[e])[w.sent]? with|some e=>e.seen|none=>w.seen
  by_cases hi:w.sent<w.opens.length
  ·rw[List.getElem?_append_left hi]
   exact Int.le_refl _
  ·have:w.sent=w.opens.length:=by have:=h.sent;omega
   rw[this,List.getElem?_concat_length]
   show w.least≤e.seen
   rw[hs];exact h2
 ·refine List.pairwise_append.2 ⟨h.mono,List.pairwise_singleton _ _,?_⟩
  intro x hx y hy
  obtain rfl:y=e:=by simpa using hy
  rw[hs];exact(h.own x hx).2.1
theorem zt1{b:Bk}{d:Dd}(hc:za4 b d=0):zat b d=⟨b.ds++[d],b.here,zab b.last d.by_ d.no,zab b.said d.by_ d.seen⟩:=by rw[zat,if_pos hc]
theorem WI.sent_ok{b:Bk}{c:Int}{w:Wr}(h:WI b c w){d:Dd}(hd:w.opens[w.sent]? =some d)(hc:za4 b d=0):WI (zat b d) c ⟨w.me,w.seen,w.next,w.base,w.opens,w.sent+1⟩:=by
 obtain⟨hb,hs,hcd⟩:=h.own d (List.mem_of_getElem? hd)
 have hlt:=(List.getElem?_eq_some_iff.1 hd).1
 have hno:=h.no w.sent d hd
 have hla:=h.last
 have hcl:=Int.le_trans h.cl (zp4 d)
 rw[zt1 hc]at hcl⊢
 refine⟨h.wr,h.here,?_,?_,hcl,h.cs,?_,h.own,?_,hlt,?_,h.no,?_,?_,h.mono,h.full⟩
 ·have:=h.seen
  show w.seen≤(b.ds++[d]).length
  rw[List.length_append];omega
 ·show w.base=ofL c (zar (b.ds++[d]) w.seen)
  rw[zln h.seen];exact h.base
 ·intro x hx
  have hx':x∈(b.ds++[d]).drop w.seen:=hx
  rw[List.drop_append_of_le_length h.seen]at hx'
  rcases List.mem_append.1 hx' with hx'|hx'
  ·exact h.csee x hx'
  ·obtain rfl:x=d:=by simpa using hx'
   exact hcd
 ·show zdy (zar (b.ds++[d]) w.seen) w.opens
  rw[zln h.seen];exact h.fit
 ·show((b.ds++[d]).drop w.seen).filter (fun d=>decide (d.by_=w.me))=w.opens.take (w.sent+1)
  rw[List.drop_append_of_le_length h.seen,List.filter_append,h.told,zjp w.opens w.sent hlt,(List.getElem?_eq_some_iff.1 hd).2]
  simp[hb]
 ·show zab b.last d.by_ d.no w.me+w.opens.length=w.next-1+((w.sent+1:Nat):Int)
  rw[hb,zaf];omega
 ·show zab b.said d.by_ d.seen w.me≤match w.opens[w.sent+1]? with|some e=>e.seen|none=>(w.seen:Int)
  rw[hb,zaf]
  split
  ·rename_i e he
   have h1:=(List.getElem?_eq_some_iff.1 hd).2
   have h2:=List.getElem?_eq_some_iff.1 he
   have:=List.pairwise_iff_getElem.1 h.mono w.sent (w.sent+1) hlt h2.1 (by omega)
   rw[h1,h2.2]at this
   exact this
  ·exact hs
theorem WI.other_comes{b:Bk}{c:Int}{w:Wr}(h:WI b c w){d:Dd}(hne:d.by_≠w.me)(hc:za4 b d=0):WI (zat b d) c w:=by
 have hcl:=Int.le_trans h.cl (zp4 d)
 have hdl:=zpk hc
 have hcl0:=h.cl
 rw[zt1 hc]at hcl⊢
 refine⟨h.wr,h.here,?_,?_,hcl,h.cs,?_,h.own,?_,h.sent,?_,h.no,?_,?_,h.mono,h.full⟩
 ·have:=h.seen
  show w.seen≤(b.ds++[d]).length
  rw[List.length_append];omega
 ·show w.base=ofL c (zar (b.ds++[d]) w.seen)
  rw[zln h.seen];exact h.base
 ·intro x hx
  have hx':x∈(b.ds++[d]).drop w.seen:=hx
  rw[List.drop_append_of_le_length h.seen]at hx'
  rcases List.mem_append.1 hx' with hx'|hx'
  ·exact h.csee x hx'
  ·obtain rfl:x=d:=by simpa using hx'
   omega
 ·show zdy (zar (b.ds++[d]) w.seen) w.opens
  rw[zln h.seen];exact h.fit
 ·show((b.ds++[d]).drop w.seen).filter (fun d=>decide (d.by_=w.me))=w.opens.take w.sent
  rw[List.drop_append_of_le_length h.seen,List.filter_append,h.told]
  simp[hne]
 ·show zab b.last d.by_ d.no w.me+w.opens.length=_
  rw[za9 _ _ (Ne.symm hne)];exact h.last
 ·show zab b.said d.by_ d.seen w.me≤_
  rw[za9 _ _ (Ne.symm hne)];exact h.said
theorem WI.other_says{b:Bk}{c:Int}{w:Wr}(h:WI b c w){v n:Int}(hne:v≠w.me):WI (zcz b v n) c w:=by
 have hcl:=Int.le_trans h.cl (zr1 v n)
 unfold zcz at hcl⊢
 split at hcl
 ·rename_i hc
  rw[if_pos hc]
  refine⟨h.wr,h.here,h.seen,h.base,hcl,h.cs,h.csee,h.own,h.fit,h.sent,h.told,h.no,h.last,?_,h.mono,h.full⟩
  show zab b.said v n w.me≤_
  rw[za9 _ _ (Ne.symm hne)];exact h.said
 ·rename_i hc
  rw[if_neg hc];exact h
theorem WI.other_joins{b:Bk}{c:Int}{w:Wr}(h:WI b c w){v:Int}(hne:v≠w.me):WI (zbw b v) c w:=by
 have hcl:=Int.le_trans h.cl (qba (b:=b) v)
 unfold zbw at hcl⊢
 split at hcl
 ·rename_i hc
  rw[if_pos hc]
  refine⟨h.wr,?_,h.seen,h.base,hcl,h.cs,h.csee,h.own,h.fit,h.sent,h.told,h.no,h.last,?_,h.mono,h.full⟩
  ·show zab b.here v true w.me=true
   rw[za9 _ _ (Ne.symm hne)];exact h.here
  ·show zab b.said v b.len w.me≤_
   rw[za9 _ _ (Ne.symm hne)];exact h.said
 ·rename_i hc
  rw[if_neg hc];exact h
theorem WI.other_leaves{b:Bk}{c:Int}{w:Wr}(h:WI b c w){v:Int}(hne:v≠w.me):WI (zcs b v) c w:=by
 have hcl:=Int.le_trans h.cl (zx4 (b:=b) v)
 unfold zcs at hcl⊢
 split at hcl
 ·rename_i hc
  rw[if_pos hc]
  refine⟨h.wr,?_,h.seen,h.base,hcl,h.cs,h.csee,h.own,h.fit,h.sent,h.told,h.no,h.last,h.said,h.mono,h.full⟩
  show zab b.here v false w.me=true
  rw[za9 _ _ (Ne.symm hne)];exact h.here
 ·rename_i hc
  rw[if_neg hc];exact h
theorem WI.says{b:Bk}{c:Int}{w:Wr}(h:WI b c w):zd4 b w.me w.least=0∧WI (zcz b w.me w.least) c w:=by
 have h1:=h.said
 have h2:=h.least_le
 have h3:=h.seen
 have hh:b.isHere w.me=true:=by rw[Bk.isHere,h.wr,h.here];rfl
 have hc:zd4 b w.me w.least=0:=by
  unfold zd4
  rw[if_neg (by rw[hh];simp),if_neg (by unfold Bk.len;omega)]
 have hcl:=Int.le_trans h.cl (zr1 w.me w.least)
 refine⟨hc,?_⟩
 rw[zcz,if_pos hc]at hcl⊢
 refine⟨h.wr,h.here,h.seen,h.base,hcl,h.cs,h.csee,h.own,h.fit,h.sent,h.told,h.no,h.last,?_,h.mono,h.full⟩
 show zab b.said w.me w.least w.me≤_
 rw[zaf]
 exact Int.le_refl _
theorem WI.clears{b:Bk}{c:Int}{w:Wr}(h:WI b c w)(hg:zcm b){least:Int}(h1:least≤zao b)(h2:∀d∈b.ds.drop w.seen,least≤d.seen):
 ∃c',WI b c' ⟨w.me,w.seen,w.next,ofL least w.base,w.opens,w.sent⟩∧zai (ofL least w.base) w.opens=ofL least w.list:=by
 have hsaid:=zej h.wr h.here
 have hs:=h.said
 have hle:=h.least_le
 have hopen:∀e∈w.opens,least≤e.seen:=by
  intro e he
  obtain⟨i,hi,rfl⟩:=List.mem_iff_getElem.1 he
  by_cases hs':i<w.sent
  ·have:w.opens[i]∈w.opens.take w.sent:=by
    rw[List.mem_take_iff_getElem]
    exact⟨i,by omega,rfl⟩
   rw[←h.told]at this
   exact h2 _ (List.mem_filter.1 this).1
  ·have:=h.unsent (i:=i) (by omega) (List.getElem?_eq_getElem hi)
   omega
 have hm:ziv w.me w.base:=by rw[h.base];exact(zdc hg h.seen w.me).of c
 have htop:=(zo9 w.opens w.base hm (fun e he=>⟨(h.own e he).1,hopen e he⟩) (h.list_eq hg).1).2
 have hfull:(zai (ofL least w.base) w.opens).length≤200:=by
  rw[htop]
  exact Nat.le_trans (zzc _ _) h.full
 by_cases hcl:c≤least
 ·refine⟨least,⟨h.wr,h.here,h.seen,?_,h1,by show least≤(w.seen:Int);omega,h2,fun e he=>⟨(h.own e he).1,(h.own e he).2.1,hopen e he⟩,h.fit,h.sent,h.told,h.no,h.last,h.said,h.mono,hfull⟩,htop⟩
  show ofL least w.base=ofL least (zar b.ds w.seen)
  rw[h.base,of_more hcl]
 ·refine⟨c,⟨h.wr,h.here,h.seen,?_,h.cl,h.cs,h.csee,h.own,h.fit,h.sent,h.told,h.no,h.last,h.said,h.mono,hfull⟩,htop⟩
  show ofL least w.base=ofL c (zar b.ds w.seen)
  rw[h.base,of_less (by omega)]
theorem WI.base_next{b:Bk}{c:Int}{w:Wr}(h:WI b c w)(hg:zcm b)(hi:w.seen<b.ds.length):doC w.base b.ds[w.seen] ((w.seen:Int)+1)=0∧doL w.base b.ds[w.seen] ((w.seen:Int)+1)=ofL c (zar b.ds (w.seen+1)):=by
 obtain⟨s1,s2⟩:=zjx hg hi
 have hcd:c≤b.ds[w.seen].seen:=h.csee _ (by rw[List.drop_eq_getElem_cons hi];exact List.mem_cons_self ..)
 have hcs:=h.cs
 refine⟨by rw[h.base];exact qg4 hcd s1,?_⟩
 rw[s2,do_of hcd (.inr (by omega)) (by omega) (zdc hg h.seen _) (zpb (zv5 s1)),h.base]
theorem zl9{b:Bk}(hg:zcm b){i:Nat}(hi:i<b.ds.length):b.ds[i].seen<(i:Int)+1∧(i:Int)+1<za0:=by
 have h1:=(hg.ok i hi b.ds[i] (List.getElem?_eq_getElem hi)).2.2
 have h2:=hg.small
 exact⟨by omega,by show(i:Int)+1<1073741824;omega⟩
theorem zvd{b:Bk}{i:Nat}(hi:i<b.ds.length){d:Dd}(h:d∈b.ds.drop (i+1)):d∈b.ds.drop i:=by
 rw[List.drop_eq_getElem_cons hi]
 exact List.mem_cons_of_mem _ h
theorem WI.hears_other{b:Bk}{c:Int}{w:Wr}(h:WI b c w)(hg:zcm b)(hi:w.seen<b.ds.length)(hne:b.ds[w.seen].by_≠w.me):
 (doC w.list b.ds[w.seen] ((w.seen:Int)+1)=0∨doC w.list b.ds[w.seen] ((w.seen:Int)+1)=9)∧
 (doC w.list b.ds[w.seen] ((w.seen:Int)+1)=0→doL w.list b.ds[w.seen] ((w.seen:Int)+1)=zai (doL w.base b.ds[w.seen] ((w.seen:Int)+1)) w.opens∧
  WI b c ⟨w.me,w.seen+1,w.next,doL w.base b.ds[w.seen] ((w.seen:Int)+1),w.opens,w.sent⟩):=by
 obtain⟨s1,s2⟩:=zjx hg hi
 obtain⟨n1,n2⟩:=zl9 hg hi
 obtain⟨b1,b2⟩:=h.base_next hg hi
 have hm:ziv w.me w.base:=by rw[h.base];exact(zdc hg h.seen w.me).of c
 have hes:∀e∈w.opens,e.by_=w.me∧e.seen<(w.seen:Int)+1:=fun e he=>⟨(h.own e he).1,by have:=(h.own e he).2.1;omega⟩
 obtain⟨t1,t2,t3⟩:=zo8 hne n1 n2 w.opens w.base hm hes (h.list_eq hg).1 (zv5 b1)
 obtain⟨_,u2,_⟩:=zo8 hne n1 n2 w.opens (zar b.ds w.seen) (zdc hg h.seen w.me) hes h.fit (zv5 s1)
 have hcode:=fit_code (n:=(w.seen:Int)+1) t1 (by omega)
 refine⟨?_,fun hc=>⟨t3,?_⟩⟩
 ·show doC (zai w.base w.opens) _ _=0∨doC (zai w.base w.opens) _ _=9
  rw[hcode]
  split
  ·exact .inr rfl
  ·exact .inl rfl
 ·have hl:(zai (doL w.base b.ds[w.seen] ((w.seen:Int)+1)) w.opens).length≤200:=by
   rw[←t3,zxn t1]
   exact(zc2 hc).2.2.1
  refine⟨h.wr,h.here,hi,b2,h.cl,by have:=h.cs;show c≤((w.seen+1:Nat):Int);omega,fun d hd=>h.csee d (zvd hi hd),?_,?_,h.sent,?_,h.no,h.last,?_,h.mono,hl⟩
  ·intro e he
   obtain⟨o1,o2,o3⟩:=h.own e he
   exact⟨o1,by show e.seen≤((w.seen+1:Nat):Int);omega,o3⟩
  ·show zdy (zar b.ds (w.seen+1)) w.opens
   rw[s2];exact u2
  ·have:=h.told
   rw[List.drop_eq_getElem_cons hi,List.filter_cons,if_neg (by simpa using hne)]at this
   exact this
  ·refine Int.le_trans h.said ?_
   show w.least≤match w.opens[w.sent]? with|some e=>e.seen|none=>((w.seen+1:Nat):Int)
   unfold Wr.least
   cases w.opens[w.sent]? with
   |none=>show(w.seen:Int)≤((w.seen+1:Nat):Int);omega
   |some e=>exact Int.le_refl _
theorem WI.own_first{b:Bk}{c:Int}{w:Wr}(h:WI b c w)(hi:w.seen<b.ds.length)(hb:b.ds[w.seen].by_=w.me):∃es,w.opens=b.ds[w.seen]::es∧1≤w.sent:=by
 have:=h.told
 rw[List.drop_eq_getElem_cons hi,List.filter_cons,if_pos (by simpa using hb)]at this
 cases hes:w.opens with
 |nil=>rw[hes]at this;simp at this
 |cons e es=>
  cases hs:w.sent with
  |zero=>rw[hs]at this;simp at this
  |succ j=>
   rw[hes,hs,List.take_succ_cons,List.cons.injEq]at this
   exact⟨es,by rw[this.1],by omega⟩
theorem WI.hears_own{b:Bk}{c:Int}{w:Wr}(h:WI b c w)(hg:zcm b)(hi:w.seen<b.ds.length){es:List Dd}(he:w.opens=b.ds[w.seen]::es)(h1:1≤w.sent)(hb:b.ds[w.seen].by_=w.me):
 WI b c ⟨w.me,w.seen+1,w.next,doL w.base b.ds[w.seen] ((w.seen:Int)+1),es,w.sent-1⟩∧
 zg1 ((w.seen:Int)+1) w.me w.list (zai (doL w.base b.ds[w.seen] ((w.seen:Int)+1)) es)∧
 vw (zai (doL w.base b.ds[w.seen] ((w.seen:Int)+1)) es) ((w.seen:Int)+1) w.me=vw w.list w.seen w.me:=by
 obtain⟨_,s2⟩:=zjx hg hi
 obtain⟨n1,n2⟩:=zl9 hg hi
 obtain⟨_,b2⟩:=h.base_next hg hi
 have hm:ziv w.me w.base:=by rw[h.base];exact(zdc hg h.seen w.me).of c
 have hes:∀e∈b.ds[w.seen]::es,e.by_=w.me∧e.seen<(w.seen:Int)+1:=fun e hx=>by
  rw[←he]at hx
  exact⟨(h.own e hx).1,by have:=(h.own e hx).2.1;omega⟩
 have hf:=(h.list_eq hg).1
 have hf':=h.fit
 rw[he]at hf hf'
 obtain⟨_,t2⟩:=qd3 n2 hm hes hf
 obtain⟨u1,_⟩:=qd3 n2 (zdc hg h.seen w.me) hes hf'
 rw[←s2]at u1
 have hlist:w.list=zai w.base (b.ds[w.seen]::es):=by rw[Wr.list,he]
 rw[←hlist]at t2
 have hup:Upto w.me w.seen w.list:=by
  rw[Wr.list]
  refine zyf (by omega) w.opens (fun x hx=> ?_) (fun e hx=>(h.own e hx).1)
  rw[h.base]at hx
  exact qc3 hg h.seen w.me x (List.mem_filter.1 hx).1
 refine⟨?_,t2,vw_ack t2 hup⟩
 have hsl:=h.sent
 have hll:w.opens.length=es.length+1:=by rw[he];rfl
 have hmono:=h.mono
 rw[he]at hmono
 have hl:(zai (doL w.base b.ds[w.seen] ((w.seen:Int)+1)) es).length≤200:=by
  rw[←t2.len];exact h.full
 refine⟨h.wr,h.here,hi,b2,h.cl,by have:=h.cs;show c≤((w.seen+1:Nat):Int);omega,fun d hd=>h.csee d (zvd hi hd),?_,u1,by show w.sent-1≤es.length;omega,?_,?_,?_,?_,(List.pairwise_cons.1 hmono).2,hl⟩
 ·intro e hx
  obtain⟨o1,o2,o3⟩:=h.own e (by rw[he];exact List.mem_cons_of_mem _ hx)
  exact⟨o1,by show e.seen≤((w.seen+1:Nat):Int);omega,o3⟩
 ·have:=h.told
  rw[List.drop_eq_getElem_cons hi,List.filter_cons,if_pos (by simpa using hb),he,show w.sent=(w.sent-1)+1 by omega,List.take_succ_cons,List.cons.injEq]at this
  exact this.2
 ·intro i e hx
  have:=h.no (i+1) e (by rw[he];exact hx)
  show e.no=w.next-es.length+i
  omega
 ·have:=h.last
  show b.last w.me+es.length=w.next-1+((w.sent-1:Nat):Int)
  omega
 ·refine Int.le_trans h.said ?_
  show w.least≤match es[w.sent-1]? with|some e=>e.seen|none=>((w.seen+1:Nat):Int)
  have hx:w.opens[w.sent]? =es[w.sent-1]? :=by
   rw[he,show w.sent=(w.sent-1)+1 by omega]
   rfl
  unfold Wr.least
  rw[hx]
  cases es[w.sent-1]? with
  |none=>show(w.seen:Int)≤((w.seen+1:Nat):Int);omega
  |some e=>exact Int.le_refl _
theorem of_zero{l:List Ch}(h:∀x∈l,0≤x.out):ofL 0 l=l:=by
 unfold ofL
 rw[List.filter_eq_self]
 intro x hx
 have:=h x hx
 simp[ze7]
 omega
theorem WI.comes_in{b:Bk}(hg:zcm b){v:Int}(hc:zc6 b v=0):WI (zbw b v) 0 ⟨v,b.ds.length,b.last v+1,b.chars,[],0⟩:=by
 have hgj:=zpa v hg
 have hw:wrB v=true:=by
  unfold zc6 at hc
  cases hh:wrB v
  ·rw[if_pos hh]at hc;cases hc
  ·rfl
 have hle:0≤zao (zbw b v):=zh4 (by unfold Bk.len;omega) (fun w _ _=>(hgj.said w).1)
 rw[zbw,if_pos hc]at hle⊢
 refine⟨hw,zaf _ _ _,Nat.le_refl _,?_,hle,by show(0:Int)≤(b.ds.length:Int);omega,?_,?_,trivial,Nat.le_refl _,?_,?_,?_,?_,List.Pairwise.nil,zb2⟩
 ·show b.chars=ofL 0 (zar b.ds b.ds.length)
  rw[zjj,of_zero]
  intro x hx
  rw[←zjj]at hx
  exact((zco hg _ (Nat.le_refl _)).1.out x hx).1
 ·intro d hd
  have hd':d∈b.ds.drop b.ds.length:=hd
  rw[List.drop_length]at hd'
  cases hd'
 ·intro e he
  cases he
 ·show(b.ds.drop b.ds.length).filter _=_
  rw[List.drop_length];rfl
 ·intro i e he
  simp at he
 ·show b.last v+((0:Nat):Int)=b.last v+1-1+((0:Nat):Int)
  omega
 ·show zab b.said v b.len v≤(b.ds.length:Int)
  rw[zaf]
  exact Int.le_refl _
end Go.Proofs.YtcbnnfeelhlapadGreatDoor