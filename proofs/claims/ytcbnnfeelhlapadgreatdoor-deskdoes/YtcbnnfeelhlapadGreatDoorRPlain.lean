/-
  FAll, FLiP, LPlain, WRoom, RPlain.
-/
import Derived.Test.YtcbnnfeelhlapadGreatDoorFDo
namespace Go.Proofs.YtcbnnfeelhlapadGreatDoor
open Go.RowKit
variable {l:List Ch} {d:Dd} {number c a:Int} {i B:Nat} {r all:List Dd} {w w' wr:World}
structure zyc(w:World)(b off:Nat)(ds:List Dd):Prop where
 lt:b<w.heap.size
 at_:∀i (h:i<ds.length),zdq w b (off+i*7) ds[i]
theorem zyc.below{w w':World}{b off:Nat}{ds:List Dd}(h:zyc w b off ds)(hb:Below w.heap.size w w'):zyc w' b off ds:=
 ⟨by have:=hb.size;have:=h.lt;omega,fun i hi=>(h.at_ i hi).below hb⟩
def zpw(w:World)(v:Value)(ds:List Dd):Prop:=
 ∃(a:Option Addr) (len cap:Nat),v= .slice a len cap/\ds.length=len/\len<=cap/\(len=0\/∃b off,a=some ⟨b,off,none⟩/\zyc w b off ds)
theorem zpw.below{w w':World}{v:Value}{ds:List Dd}(h:zpw w v ds)(hb:Below w.heap.size w w'):zpw w' v ds:=by
 obtain⟨a,len,cap,rfl,h1,h2,h3⟩:=h
 refine⟨a,len,cap,rfl,h1,h2,?_⟩
 rcases h3 with h3|⟨b,off,rfl,hr⟩
 ·exact .inl h3
 exact .inr ⟨b,off,rfl,hr.below hb⟩
structure Small(l:List Ch):Prop where
 len:l.length<=200
 fits:zi0 l
theorem fits_new(d:Dd)(n:Int):zi0 (zez d n):=by
 intro x hx
 obtain⟨j,b,rfl,_⟩:=zdm hx
 show-9223372036854775808<=(0:Int)/\(0:Int)<=9223372036854775807
 omega
theorem fits_do(h:zi0 l)(hc:za9 d=0):zi0 (doL l d number):=by
 obtain⟨_,hw,_⟩:=zah hc
 by_cases hk:d.kind=1
 ·rw[doL,if_pos hk]
  intro x hx
  rcases List.mem_append.1 hx with hx|hx
  ·exact h x (List.mem_of_mem_take hx)
  rcases List.mem_append.1 hx with hx|hx
  ·exact fits_new d number x hx
  exact h x (List.mem_of_mem_drop hx)
 rw[doL,if_neg hk]
 intro y hy
 obtain⟨x,hx,hyx⟩:=zfk hy
 rcases hyx with rfl|⟨hs,rfl⟩
 ·exact h _ hx
 have h1:=h x hx
 have h2:=qa2 hw (ze1 hs) h1.2
 have h3:(0:Int)<2 ^ d.by_.toNat:=Int.pow_pos (by decide)
 show-9223372036854775808<=x.gone+2 ^ d.by_.toNat/\x.gone+2 ^ d.by_.toNat<=9223372036854775807
 omega
theorem zyx(h:zi0 l)(hc:doC l d number=0):Small (doL l d number):=by
 obtain⟨h1,h2,h3,_⟩:=zc0 hc
 refine⟨?_,fits_do h h1⟩
 rw[zsy (fun hk=>(zah h1).2.2.2.2.2.2.2.2.2.2.2 hk)]
 exact h3
theorem fits_nil:zi0 []:=fun x hx=>by simp at hx
def qc9(l:List Ch)(i:Nat)(ds all:List Dd):Prop:=Small l/\zh6 [] 0 all=zh6 l i ds
theorem qas(h:qc9 l i (d::r) all)(hc:doC l d (i+1)=0):qc9 (doL l d (i+1)) (i+1) r all:=
 ⟨zyx h.1.fits hc,by rw[h.2,zh6,if_neg (fun e=>e hc)]⟩
theorem qdx(h:qc9 l i (d::r) all)(hc:doC l d (i+1)≠0):zh6 [] 0 all=([],doC l d (i+1),i):=by rw[h.2,zh6,if_pos hc]
theorem qdw(h:qc9 l i [] all):zh6 [] 0 all=(l,0,0):=by rw[h.2,zh6]
theorem zoh(all:List Dd):qc9 [] 0 all all:=⟨⟨Nat.zero_le _,fits_nil⟩,rfl⟩
abbrev ftV(c at_:Int):Value:= .agg #[.int .i64 c,.int .i64 at_]
structure zo1(w:World)(B:Nat)(c a:Int):Prop where
 c0:w.cell? ⟨B,0,none⟩=some (.int .i64 c)
 c1:w.cell? ⟨B,1,none⟩=some (.int .i64 a)
 f0:w.frozen? ⟨B,0,none⟩=false
 f1:w.frozen? ⟨B,1,none⟩=false
theorem zf3(w:World)(c a:Int):zo1 (w.alloc (.cells #[.int .i64 c,.int .i64 a] 31)) w.heap.size c a:=by
 refine⟨?_,?_,?_,?_⟩<;>simp[go_sem]
theorem zo1.below(h:zo1 w B c a)(hB:B<w.heap.size)(hb:Below w.heap.size w w'):zo1 w' B c a:=by
 obtain⟨hc,hf⟩:=zdp hb
 exact⟨by rw[hc _ _ hB];exact h.c0,by rw[hc _ _ hB];exact h.c1,by rw[hf _ _ hB];exact h.f0,by rw[hf _ _ hB];exact h.f1⟩
theorem zo1.put(h:zo1 w B c a)(c' a':Int):zo1 ((w.setCell ⟨B,0,none⟩ (.int .i64 c')).setCell ⟨B,1,none⟩ (.int .i64 a')) B c' a':=by
 obtain⟨c0,c1,f0,f1⟩:=h
 refine⟨?_,?_,?_,?_⟩
 ·simp[go_sem,c0]
 ·simp[go_sem,c1]
 ·simpa [go_sem]using f0
 simpa [go_sem]using f1
theorem zsn(h:zo1 w B c a):(loadVar 31 ⟨B,0,none⟩).run Tryz.prog w= .ok (ftV c a) w:=by
 obtain⟨c0,c1,_,_⟩:=h
 simp[go_sem,loadVar,loadCells,loadCellsFrom,Sem.run_bind,Tryz.isAgg31,Tryz.sizeOf31,c0,c1]
theorem ziq{fn:Func}{p u:Tmp}{ty:TypeId}(h:fn.results= #[.tmp u,.cell p ty])(tmps:Array Value)(P:Program)(w:World):
 (results fn tmps).run P w=((asAddr (tmps.getD p undef)).run P w).andThen fun a w₁=>((loadVar ty a).run P w₁).andThen fun v w₂=> .ok (.tuple #[tmps.getD u undef,v]) w₂:=by
 simp only[results,h]
 simp[Sem.run_bind,Result.andThen]
theorem zhz{N:Nat}(h:Below N w w')(hB:N<=B)(c a:Int):Below N w ((w'.setCell ⟨B,0,none⟩ (.int .i64 c)).setCell ⟨B,1,none⟩ (.int .i64 a)):=
 (h.setCell (p:=⟨B,0,none⟩) hB _).setCell (p:=⟨B,1,none⟩) hB _
structure AInv(w:World)(wr:World):Prop where
 below:Below (w.alloc (.cells #[.int .i64 0,.int .i64 0] 31)).heap.size (w.alloc (.cells #[.int .i64 0,.int .i64 0] 31)) wr
theorem AInv.two(h:AInv w wr):zo1 wr w.heap.size 0 0:=(zf3 w 0 0).below (by simp) h.below
theorem AInv.old(h:AInv w wr):Below w.heap.size w wr:=bla ((Below.refl _ _).alloc (Nat.le_refl _) _) h.below
theorem AInv.after(h:AInv w wr)(hb:Below wr.heap.size wr w'):AInv w w':=⟨bla h.below hb⟩
def upd(last:Int->Int)(d:Dd):Int->Int:=fun w=>if w=d.by_ then d.no else last w
def zfq(l:List Dd):Int->Int:=l.foldl upd (fun _=>0)
def nAt(l:List Dd):Nat:=l.foldl (fun n d=>n+d.text.size) 0
theorem zkp(l:List Dd)(d:Dd):zfq (l++[d])=upd (zfq l) d:=by simp[zfq]
theorem nAt_snoc(l:List Dd)(d:Dd):nAt (l++[d])=nAt l+d.text.size:=by simp[nAt]
def okAt(ds:List Dd)(i:Nat):Prop:=∀d,ds[i]? =some d->wrB d.by_=true/\d.no=zfq (ds.take i) d.by_+1/\d.seen<=i
theorem zjq(l:List Dd)(k:Nat)(h:k<l.length):l.take (k+1)=l.take k++[l[k]]:=List.take_succ_eq_append_getElem h
theorem zr4{ds:List Dd}:∀(k:Nat),k<=ds.length->(∀i,i<k->okAt ds i)->∀w,0<=zfq (ds.take k) w/\zfq (ds.take k) w<=k
 | 0,_,_,w=>by simp[zfq]
 |k+1,hk,h,w=>by
  have ih:=zr4 k (by omega) (fun i hi=>h i (by omega))
  obtain⟨_,h2,_⟩:=h k (by omega) ds[k] (List.getElem?_eq_getElem (by omega))
  rw[zjq ds k (by omega),zkp,upd]
  have i1:=ih w
  have i2:=ih ds[k].by_
  split<;>omega
theorem zsm:∀(suf pre:List Dd) (l:List Ch),(∀i,i<(pre++suf).length->okAt (pre++suf) i)->(pre++suf).length<=1000->qcf (zfq pre) pre.length l->l.length=nAt pre->l.length<=200->(zh6 l pre.length suf).2.1=0->
 qcf (zfq (pre++suf)) (pre++suf).length (zh6 l pre.length suf).1/\(zh6 l pre.length suf).1.length=nAt (pre++suf)/\(zh6 l pre.length suf).1.length<=200
 |[],pre,l,_,_,hm,hn,hl,_=>by
  rw[List.append_nil]
  exact⟨hm,hn,hl⟩
 |d::r,pre,l,hok,hlen,hm,hn,hl,hz=>by
  have e:pre++d::r=(pre++[d])++r:=by simp
  have hpl:(pre++[d]).length=pre.length+1:=by simp
  rw[zh6]at hz⊢
  by_cases hc:doC l d ((pre.length:Int)+1)=0
  ·rw[if_neg (fun h=>h hc)]at hz⊢
   obtain⟨h1,h2,h3,h4⟩:=zc0 hc
   obtain⟨_,hno,_⟩:=hok pre.length (by simp) d (by simp)
   rw[List.take_left]at hno
   have hsm:=zsy (l:=l) (d:=d) (number:=(pre.length:Int)+1) (fun hk=>(zah h1).2.2.2.2.2.2.2.2.2.2.2 hk)
   have hm':qcf (zfq (pre++[d])) (pre.length+1) (doL l d ((pre.length:Int)+1)):=by
    rw[zkp]
    by_cases hk:d.kind=1
    ·exact made_put hm h1 hk hno
    exact qew hm h1 hk hno (by simp at hlen;omega)
   have ih:=zsm r (pre++[d]) (doL l d ((pre.length:Int)+1)) (by rw[<-e];exact hok) (by rw[<-e];exact hlen) (by rw[hpl];exact hm') (by rw[nAt_snoc,hsm,hn]) (by rw[hsm];exact h3) (by rw[hpl];exact hz)
   rw[hpl]at ih
   rw[e]
   exact ih
  rw[if_pos hc]at hz
  exact absurd hz hc
theorem zzj:qcf (fun _=>0) 0 []:=by
 refine⟨?_,?_,?_,?_,?_,?_,List.Pairwise.nil⟩<;>intro x hx<;>simp at hx
theorem ztx:∀{ds:List Dd} {l:List Ch} {i:Nat},Small l->(zh6 l i ds).1.length<=200
 |[],l,i,h=>h.len
 |d::r,l,i,h=>by
  rw[zh6]
  by_cases hc:doC l d ((i:Int)+1)=0
  ·rw[if_neg (fun e=>e hc)]
   exact ztx (zyx h.fits hc)
  rw[if_pos hc]
  exact Nat.zero_le _
variable {w n m:Int} {d:Dd}
def zai{α:Type}(f:Int->α)(w:Int)(x:α):Int->α:=fun v=>if v=w then x else f v
theorem zag{α:Type}(f:Int->α)(w:Int)(x:α):zai f w x w=x:=if_pos rfl
theorem zab{α:Type}(f:Int->α){w v:Int}(x:α)(h:v≠w):zai f w x v=f v:=if_neg h
structure Bk where
 ds:List Dd
 here:Int->Bool
 last:Int->Int
 said:Int->Int
def Bk.empty:Bk:=⟨[],fun _=>false,fun _=>0,fun _=>0⟩
def Bk.len(b:Bk):Int:=b.ds.length
def Bk.isHere(b:Bk)(w:Int):Bool:=wrB w&&b.here w
def Bk.chars(b:Bk):List Ch:=(zh6 [] 0 b.ds).1
def zde(b:Bk)(w:Int):Int:=if wrB w=false then 1 else if b.here w=true then 6 else 0
def zc4(b:Bk)(w:Int):Bk:=if zde b w=0 then⟨b.ds,zai b.here w true,b.last,zai b.said w b.len⟩else b
def zey(b:Bk)(w:Int):Int:=if zde b w=0 then b.last w+1 else 0
def zlg(b:Bk)(w:Int):Int:=if b.isHere w=true then 0 else 5
def zcp(b:Bk)(w:Int):Bk:=if zlg b w=0 then⟨b.ds,zai b.here w false,b.last,b.said⟩else b
def za6(b:Bk)(d:Dd):Int:=
 if b.isHere d.by_=false then 5 else if d.no≠b.last d.by_+1 then 7 else if d.seen<b.said d.by_\/b.len<d.seen then 8 else if 120<=b.len then 9 else doC b.chars d (b.len+1)
def zb9(b:Bk)(d:Dd):Bk:=if za6 b d=0 then⟨b.ds++[d],b.here,zai b.last d.by_ d.no,zai b.said d.by_ d.seen⟩else b
def zar(b:Bk)(d:Dd):Int:=if za6 b d=0 then b.len+1 else 0
def ze2(b:Bk)(w seen:Int):Int:=if b.isHere w=false then 5 else if seen<b.said w\/b.len<seen then 8 else 0
def zd5(b:Bk)(w seen:Int):Bk:=if ze2 b w seen=0 then⟨b.ds,b.here,b.last,zai b.said w seen⟩else b
def zan(b:Bk)(n w:Int):Int:=if b.here w=true/\b.said w<n then b.said w else n
def zap(b:Bk):Int:=zan b (zan b (zan b (zan b b.len 0) 1) 2) 3
def updS(f:Int->Int)(d:Dd):Int->Int:=zai f d.by_ d.seen
def zl9(l:List Dd):Int->Int:=l.foldl updS (fun _=>0)
theorem zwm(l:List Dd)(d:Dd):zl9 (l++[d])=updS (zl9 l) d:=by simp[zl9]
structure zct(b:Bk):Prop where
 all0:(zh6 [] 0 b.ds).2.1=0
 small:b.ds.length<=120
 ok:∀i,i<b.ds.length->okAt b.ds i
 mono:∀i d,b.ds[i]? =some d->zl9 (b.ds.take i) d.by_<=d.seen
 last:∀w,b.last w=zfq b.ds w
 saw:∀w,zl9 b.ds w<=b.said w
 said:∀w,0<=b.said w/\b.said w<=b.len
theorem qbk:zct Bk.empty:=by
 refine⟨rfl,Nat.zero_le _,fun i hi=>absurd hi (Nat.not_lt_zero _),fun i d h=> ?_,fun w=>rfl,fun w=>Int.le_refl _,fun w=>⟨Int.le_refl _,Int.le_refl _⟩⟩
 simp[Bk.empty]at h
theorem zpr{d:Dd}:∀(ds:List Dd) (l:List Ch) (i:Nat),(zh6 l i ds).2.1=0->doC (zh6 l i ds).1 d (((i+ds.length:Nat):Int)+1)=0->
 zh6 l i (ds++[d])=(doL (zh6 l i ds).1 d (((i+ds.length:Nat):Int)+1),0,0)
 |[],l,i,_,hc=>by
  simp only[List.nil_append,List.length_nil,Nat.add_zero,zh6]at hc⊢
  rw[if_neg (fun h=>h hc)]
 |e::r,l,i,h,hc=>by
  rw[List.cons_append,zh6]
  rw[zh6]at h hc
  by_cases he:doC l e ((i:Int)+1)=0
  ·rw[if_neg (fun x=>x he)]at h hc⊢
   have hl:i+(e::r).length=i+1+r.length:=by simp;omega
   rw[hl]at hc⊢
   rw[zpr r _ (i+1) h hc,zh6,if_neg (fun x=>x he)]
  rw[if_pos he]at h
  exact absurd h he
theorem zad{b:Bk}(h:b.isHere w=true):wrB w=true/\b.here w=true:=by
 simpa [Bk.isHere]using h
theorem zky{b:Bk}(h:za6 b d=0):b.isHere d.by_=true/\d.no=b.last d.by_+1/\b.said d.by_<=d.seen/\d.seen<=b.len/\b.len<120/\doC b.chars d (b.len+1)=0:=by
 unfold za6 at h
 cases hh:b.isHere d.by_
 ·rw[if_pos hh]at h;cases h
 rw[if_neg (by simp[hh])]at h
 by_cases h1:d.no=b.last d.by_+1
 ·rw[if_neg (fun e=>e h1)]at h
  by_cases h2:d.seen<b.said d.by_\/b.len<d.seen
  ·rw[if_pos h2]at h;cases h
  rw[if_neg h2]at h
  by_cases h3:120<=b.len
  ·rw[if_pos h3]at h;cases h
  rw[if_neg h3]at h
  exact⟨rfl,h1,by omega,by omega,by omega,h⟩
 rw[if_pos h1]at h;cases h
theorem zp8{b:Bk}(w:Int)(h:zct b):zct (zc4 b w):=by
 unfold zc4
 split
 ·refine⟨h.all0,h.small,h.ok,h.mono,h.last,fun v=> ?_,fun v=> ?_⟩
  ·have h1:=h.saw v
   have h2:=h.said v
   show zl9 b.ds v<=zai b.said w b.len v
   by_cases e:v=w
   ·rw[e,zag];rw[e]at h1 h2;omega
   rw[zab _ _ e];exact h1
  have h2:=h.said v
  show 0<=zai b.said w b.len v/\zai b.said w b.len v<=b.len
  by_cases e:v=w
  ·rw[e,zag];rw[e]at h2;omega
  rw[zab _ _ e];exact h2
 exact h
theorem qbj{b:Bk}(w:Int)(h:zct b):zct (zcp b w):=by
 unfold zcp
 split
 ·exact⟨h.all0,h.small,h.ok,h.mono,h.last,h.saw,h.said⟩
 exact h
theorem qfr{b:Bk}(w seen:Int)(h:zct b):zct (zd5 b w seen):=by
 unfold zd5
 split
 ·rename_i hc
  have hs:b.said w<=seen/\seen<=b.len:=by
   unfold ze2 at hc
   split at hc
   ·cases hc
   split at hc
   ·cases hc
   omega
  refine⟨h.all0,h.small,h.ok,h.mono,h.last,fun v=> ?_,fun v=> ?_⟩
  ·have h1:=h.saw v
   show zl9 b.ds v<=zai b.said w seen v
   by_cases e:v=w
   ·rw[e,zag];rw[e]at h1;omega
   rw[zab _ _ e];exact h1
  have h2:=h.said v
  show 0<=zai b.said w seen v/\zai b.said w seen v<=b.len
  by_cases e:v=w
  ·rw[e,zag];rw[e]at h2;omega
  rw[zab _ _ e];exact h2
 exact h
theorem zpl{b:Bk}(h:zct b)(hc:za6 b d=0):zh6 [] 0 (b.ds++[d])=(doL b.chars d (b.len+1),0,0):=by
 obtain⟨_,_,_,_,_,h6⟩:=zky hc
 have:=zpr (d:=d) b.ds [] 0 h.all0 (by rw[Nat.zero_add];exact h6)
 rw[Nat.zero_add]at this
 exact this
theorem qbl{b:Bk}(d:Dd)(h:zct b):zct (zb9 b d):=by
 unfold zb9
 split
 ·rename_i hc
  obtain⟨h1,h2,h3,h4,h5,h6⟩:=zky hc
  have hs0:=h.said d.by_
  have hlen:b.len=(b.ds.length:Int):=rfl
  refine⟨?_,?_,?_,?_,?_,?_,?_⟩
  ·show(zh6 [] 0 (b.ds++[d])).2.1=0
   rw[zpl h hc]
  ·show(b.ds++[d]).length<=120
   rw[List.length_append]
   show b.ds.length+1<=120
   omega
  ·intro i hi e he
   have hi':i<b.ds.length+1:=by simpa using hi
   by_cases hil:i<b.ds.length
   ·have he':b.ds[i]? =some e:=by
     rw[<-he]
     exact(List.getElem?_append_left hil).symm
    have:=h.ok i hil e he'
    show wrB e.by_=true/\e.no=zfq ((b.ds++[d]).take i) e.by_+1/\e.seen<=i
    rw[List.take_append_of_le_length (by omega)]
    exact this
   obtain rfl:i=b.ds.length:=by omega
   have he':e=d:=by
    have:(b.ds++[d])[b.ds.length]? =some e:=he
    simpa using this.symm
   subst he'
   show wrB e.by_=true/\e.no=zfq ((b.ds++[e]).take b.ds.length) e.by_+1/\e.seen<=(b.ds.length:Int)
   rw[List.take_left,<-h.last]
   exact⟨(zad h1).1,h2,h4⟩
  ·intro i e he
   have he0:(b.ds++[d])[i]? =some e:=he
   have hi:i<b.ds.length+1:=by
    have:=(List.getElem?_eq_some_iff.1 he0).1
    simpa using this
   show zl9 ((b.ds++[d]).take i) e.by_<=e.seen
   by_cases hil:i<b.ds.length
   ·rw[List.take_append_of_le_length (by omega)]
    exact h.mono i e (by rw[<-he0];exact(List.getElem?_append_left hil).symm)
   obtain rfl:i=b.ds.length:=by omega
   have he':e=d:=by simpa using he0.symm
   subst he'
   rw[List.take_left]
   have:=h.saw e.by_
   omega
  ·intro w
   show zai b.last d.by_ d.no w=zfq (b.ds++[d]) w
   rw[zkp]
   show(if w=d.by_ then d.no else b.last w)=if w=d.by_ then d.no else zfq b.ds w
   rw[h.last w]
  ·intro w
   show zl9 (b.ds++[d]) w<=zai b.said d.by_ d.seen w
   rw[zwm,updS]
   by_cases e:w=d.by_
   ·rw[e,zag,zag];exact Int.le_refl _
   rw[zab _ _ e,zab _ _ e];exact h.saw w
  intro w
  have hw:=h.said w
  show 0<=zai b.said d.by_ d.seen w/\zai b.said d.by_ d.seen w<=((b.ds++[d]).length:Int)
  rw[List.length_append]
  show 0<=zai b.said d.by_ d.seen w/\zai b.said d.by_ d.seen w<=((b.ds.length+1:Nat):Int)
  by_cases e:w=d.by_
  ·rw[e,zag];omega
  rw[zab _ _ e];omega
 exact h
theorem zdn(b:Bk)(n w:Int):zan b n w<=n:=by unfold zan;split<;>omega
theorem zfd{b:Bk}(h:b.here w=true):zan b n w<=b.said w:=by
 unfold zan
 split
 ·exact Int.le_refl _
 rename_i hc
 by_cases h2:b.said w<n
 ·exact absurd ⟨h,h2⟩ hc
 omega
theorem zh1{b:Bk}(h:m<=n)(hw:b.here w=true->m<=b.said w):m<=zan b n w:=by
 unfold zan
 split
 ·rename_i hc;exact hw hc.1
 exact h
theorem zfp(b:Bk):zap b<=b.len:=by
 unfold zap
 have h0:=zdn b b.len 0
 have h1:=zdn b (zan b b.len 0) 1
 have h2:=zdn b (zan b (zan b b.len 0) 1) 2
 have h3:=zdn b (zan b (zan b (zan b b.len 0) 1) 2) 3
 omega
theorem zeg{b:Bk}(hw:wrB w=true)(h:b.here w=true):zap b<=b.said w:=by
 have hw':0<=w/\w<=3:=by simpa [wrB]using hw
 have h1:=zdn b (zan b b.len 0) 1
 have h2:=zdn b (zan b (zan b b.len 0) 1) 2
 have h3:=zdn b (zan b (zan b (zan b b.len 0) 1) 2) 3
 unfold zap
 rcases(show w=0\/w=1\/w=2\/w=3 by omega)with rfl|rfl|rfl|rfl
 ·have:=zfd (n:=b.len) h;omega
 ·have:=zfd (n:=zan b b.len 0) h;omega
 ·have:=zfd (n:=zan b (zan b b.len 0) 1) h;omega
 exact zfd h
theorem zgz{b:Bk}(h:m<=b.len)(hw:∀w,wrB w=true->b.here w=true->m<=b.said w):m<=zap b:=by
 unfold zap
 exact zh1 (zh1 (zh1 (zh1 h (hw 0 (by decide))) (hw 1 (by decide))) (hw 2 (by decide))) (hw 3 (by decide))
theorem qbb{b:Bk}(w:Int):zap b<=zap (zc4 b w):=by
 unfold zc4
 split
 ·refine zgz (zfp b) (fun v hv hh=> ?_)
  show zap b<=zai b.said w b.len v
  by_cases e:v=w
  ·rw[e,zag];exact zfp b
  rw[zab _ _ e]
  have hh':zai b.here w true v=true:=hh
  rw[zab _ _ e]at hh'
  exact zeg hv hh'
 exact Int.le_refl _
theorem zx3{b:Bk}(w:Int):zap b<=zap (zcp b w):=by
 unfold zcp
 split
 ·refine zgz (zfp b) (fun v hv hh=> ?_)
  show zap b<=b.said v
  have hh':zai b.here w false v=true:=hh
  by_cases e:v=w
  ·rw[e,zag]at hh';cases hh'
  rw[zab _ _ e]at hh'
  exact zeg hv hh'
 exact Int.le_refl _
theorem zr3{b:Bk}(w seen:Int):zap b<=zap (zd5 b w seen):=by
 unfold zd5
 split
 ·rename_i hc
  have hs:b.isHere w=true/\b.said w<=seen:=by
   unfold ze2 at hc
   cases hh:b.isHere w
   ·rw[if_pos hh]at hc;cases hc
   rw[if_neg (by simp[hh])]at hc
   split at hc
   ·cases hc
   exact⟨rfl,by omega⟩
  refine zgz (zfp b) (fun v hv hh=> ?_)
  show zap b<=zai b.said w seen v
  by_cases e:v=w
  ·rw[e,zag]
   have:=zeg (zad hs.1).1 (zad hs.1).2
   omega
  rw[zab _ _ e]
  exact zeg hv hh
 exact Int.le_refl _
theorem zpj{b:Bk}(hc:za6 b d=0):zap b<=d.seen:=by
 obtain⟨h1,_,h3,_⟩:=zky hc
 have:=zeg (zad h1).1 (zad h1).2
 omega
theorem zp2{b:Bk}(d:Dd):zap b<=zap (zb9 b d):=by
 unfold zb9
 split
 ·rename_i hc
  have hl:=zpj hc
  refine zgz ?_ (fun v hv hh=> ?_)
  ·have:=zfp b
   show zap b<=((b.ds++[d]).length:Int)
   rw[List.length_append]
   have e:b.len=(b.ds.length:Int):=rfl
   show zap b<=((b.ds.length+1:Nat):Int)
   omega
  show zap b<=zai b.said d.by_ d.seen v
  by_cases e:v=d.by_
  ·rw[e,zag];exact hl
  rw[zab _ _ e]
  exact zeg hv hh
 exact Int.le_refl _
theorem zme{b:Bk}(h:zde b w≠0):zc4 b w=b:=by rw[zc4,if_neg h]
theorem zzm{b:Bk}(h:zlg b w≠0):zcp b w=b:=by rw[zcp,if_neg h]
theorem zt1{b:Bk}(h:za6 b d≠0):zb9 b d=b:=by rw[zb9,if_neg h]
theorem zoq{b:Bk}{seen:Int}(h:ze2 b w seen≠0):zd5 b w seen=b:=by rw[zd5,if_neg h]
theorem zay{b:Bk}:b.chars.length<=200:=ztx (zoh b.ds).1
theorem zb2{b:Bk}(h:zct b)(w:Int):0<=b.last w/\b.last w<=b.len:=by
 rw[h.last w]
 have:=zr4 b.ds.length (Nat.le_refl _) h.ok w
 rw[List.take_length]at this
 exact this
variable {l:List Ch} {d:Dd} {n c:Int} {es:List Dd} {b:Bk} {i:Nat}
def Fit(l:List Ch)(d:Dd):Prop:=za9 d=0/\d.at_+d.many<=cnt l d.seen d.by_
def zdw:List Ch->List Dd->Prop
 |_,[]=>True
 |l,e::es=>Fit l e/\zdw (doL l e za3) es
theorem zv6(h:doC l d n=0):Fit l d:=⟨(zc0 h).1,(zc0 h).2.1⟩
theorem fit_code(h:Fit l d)(h1:1<=n):doC l d n=if 200<l.length+d.text.size then 9 else 0:=by
 have hm:zha l d=if 200<l.length+d.text.size then 9 else 0:=by
  rw[zha,if_neg (fun x=>x h.1),if_neg (by have:=h.2;omega)]
 rw[doC,hm]
 by_cases c:200<l.length+d.text.size
 ·rw[if_pos c,if_pos (by decide)]
 rw[if_neg c,if_neg (by simp),if_neg (by omega)]
theorem zp9(h:Fit l d):d.at_<=cnt l d.seen d.by_:=by
 have:=h.2
 have:=(zah h.1).2.2.2.2.2.2.2.2.1
 omega
theorem zxm(h:Fit l d):(doL l d n).length=l.length+d.text.size:=zsy (zah h.1).2.2.2.2.2.2.2.2.2.2.2
theorem zrb(h:Fit l d):wrB d.by_=true:=(zah h.1).2.1
theorem zpa:∀(es:List Dd) (l:List Ch) (e:Dd),zdw l es->Fit (zaj l es) e->zdw l (es++[e])
 |[],_,_,_,h=>⟨h,trivial⟩
 |_::es,_,e,h,h'=>⟨h.1,zpa es _ e h.2 h'⟩
theorem zpb:∀(es:List Dd) (l:List Ch),zdw l es->(zaj l es).length<=200->okTop l es/\l.length<=200
 |[],_,_,h=>⟨trivial,h⟩
 |e::es,l,h,hl=>by
  obtain⟨a1,a2⟩:=zpb es (doL l e za3) h.2 hl
  rw[zxm h.1]at a2
  exact⟨⟨doC_of h.1.1 h.1.2 a2 (by decide),a1⟩,by omega⟩
theorem zo7{me n:Int}{d:Dd}(hne:d.by_≠me)(sd:d.seen<n)(ho:n<za3):∀(es:List Dd) (l:List Ch),ziv me l->(∀e∈es,e.by_=me/\e.seen<n)->zdw l es->Fit l d->
 Fit (zaj l es) d/\zdw (doL l d n) es/\doL (zaj l es) d n=zaj (doL l d n) es
 |[],l,_,_,_,h=>⟨h,trivial,rfl⟩
 |e::es,l,hm,he,hk,h=>by
  obtain⟨rfl,se⟩:=he e (by simp)
  have we:=zrb hk.1
  have wd:=zrb h
  have ed:cnt (doL l e za3) d.seen d.by_=cnt l d.seen d.by_:=qgj we hne (by omega)
  have ee:cnt (doL l d n) e.seen e.by_=cnt l e.seen e.by_:=qgj wd (Ne.symm hne) se
  obtain⟨a1,a2,a3⟩:=zo7 hne sd ho es (doL l e za3) (zja hm (fun _=>rfl)) (fun x hx=>he x (by simp[hx])) hk.2 ⟨h.1,by rw[ed];exact h.2⟩
  have hcomm:=qg2 wd we hne hm sd se ho (zp9 h) (zp9 hk.1)
  refine⟨a1,⟨⟨hk.1.1,by rw[ee];exact hk.1.2⟩,?_⟩,?_⟩
  ·rw[<-hcomm];exact a2
  rw[zaj,a3,hcomm];rfl
theorem zfz.fits{n me:Int}(ho:n<za3):∀(es:List Dd) {a b:List Ch},(∀e∈es,e.by_=me/\e.seen<n)->ziv me a->zfz n me a b->zdw a es->zdw b es/\zfz n me (zaj a es) (zaj b es)
 |[],_,_,_,_,h,_=>⟨trivial,h⟩
 |e::es,a,b,he,hm,h,hk=>by
  obtain⟨rfl,se⟩:=he e (by simp)
  obtain⟨a1,a2⟩:=zfz.fits ho es (fun x hx=>he x (by simp[hx])) (zja hm (fun _=>rfl)) (h.do_ se ho hm) hk.2
  exact⟨⟨⟨hk.1.1,by rw[h.cnt se];exact hk.1.2⟩,a1⟩,a2⟩
theorem qd4{me:Int}(ho:n<za3)(hm:ziv me l)(he:∀e∈d::es,e.by_=me/\e.seen<n)(hk:zdw l (d::es)):
 zdw (doL l d n) es/\zfz n me (zaj l (d::es)) (zaj (doL l d n) es):=by
 obtain⟨rfl,sd⟩:=he d (by simp)
 exact zfz.fits ho es (fun x hx=>he x (by simp[hx])) (zja hm (fun _=>rfl)) (qh0 (n:=n) (zrb hk.1) (by omega)) hk.2
theorem zo8{me least:Int}:∀(es:List Dd) (l:List Ch),ziv me l->(∀e∈es,e.by_=me/\least<=e.seen)->zdw l es->zdw (ofL least l) es/\zaj (ofL least l) es=ofL least (zaj l es)
 |[],_,_,_,_=>⟨trivial,rfl⟩
 |e::es,l,hm,he,hk=>by
  obtain⟨rfl,se⟩:=he e (by simp)
  obtain⟨a1,a2⟩:=zo8 es (doL l e za3) (zja hm (fun _=>rfl)) (fun x hx=>he x (by simp[hx])) hk.2
  have ec:=do_of (number:=za3) se (.inl rfl) (by decide) hm (zp9 hk.1)
  rw[ec]at a1 a2
  exact⟨⟨⟨hk.1.1,by rw[qgi _ se];exact hk.1.2⟩,a1⟩,a2⟩
def zaw(ds:List Dd)(i:Nat):List Ch:=(zh6 [] 0 (ds.take i)).1
theorem zo0{d:Dd}{r:List Dd}:∀(a:List Dd) (l:List Ch) (i:Nat),(zh6 l i (a++d::r)).2.1=0->(zh6 l i a).2.1=0/\doC (zh6 l i a).1 d (((i+a.length:Nat):Int)+1)=0
 |[],l,i,h=>by
  rw[List.nil_append,zh6]at h
  by_cases hc:doC l d ((i:Int)+1)=0
  ·exact⟨rfl,hc⟩
  rw[if_pos hc]at h;exact absurd h hc
 |e::a,l,i,h=>by
  rw[List.cons_append,zh6]at h
  by_cases hc:doC l e ((i:Int)+1)=0
  ·rw[if_neg (fun x=>x hc)]at h
   have:=zo0 a _ (i+1) h
   have hl:i+(e::a).length=i+1+a.length:=by simp;omega
   rw[zh6,if_neg (fun x=>x hc),hl]
   exact this
  rw[if_pos hc]at h;exact absurd h hc
theorem zjy(h:zct b){i:Nat}(hi:i<b.ds.length):doC (zaw b.ds i) b.ds[i] ((i:Int)+1)=0/\zaw b.ds (i+1)=doL (zaw b.ds i) b.ds[i] ((i:Int)+1):=by
 have e:b.ds=b.ds.take i++b.ds[i]::b.ds.drop (i+1):=by
  rw[<-List.drop_eq_getElem_cons hi,List.take_append_drop]
 have h0:=h.all0
 rw[e]at h0
 have hlen:(b.ds.take i).length=i:=by rw[List.length_take];omega
 obtain⟨a1,a2⟩:=zo0 (b.ds.take i) [] 0 h0
 rw[hlen,Nat.zero_add]at a2
 refine⟨a2,?_⟩
 have:=zpr (d:=b.ds[i]) (b.ds.take i) [] 0 a1 (by rw[hlen,Nat.zero_add];exact a2)
 rw[hlen,Nat.zero_add]at this
 rw[zaw,zjq b.ds i hi,this]
 rfl
theorem zjj(b:Bk):zaw b.ds b.ds.length=b.chars:=by rw[zaw,List.take_length];rfl
theorem zln{ds:List Dd}(h:i<=ds.length):zaw (ds++es) i=zaw ds i:=by
 rw[zaw,List.take_append_of_le_length h];rfl
theorem zcl(h:zct b):∀(i:Nat),i<=b.ds.length->qcf (zfq (b.ds.take i)) i (zaw b.ds i)/\(zaw b.ds i).length<=200:=by
 intro i hi
 have hz:(zh6 [] 0 (b.ds.take i)).2.1=0:=by
  by_cases hl:i<b.ds.length
  ·have e:b.ds=b.ds.take i++b.ds[i]::b.ds.drop (i+1):=by
    rw[<-List.drop_eq_getElem_cons hl,List.take_append_drop]
   have h0:=h.all0
   rw[e]at h0
   exact(zo0 _ [] 0 h0).1
  rw[List.take_of_length_le (by omega)];exact h.all0
 have hok:∀j,j<([]++b.ds.take i).length->okAt ([]++b.ds.take i) j:=by
  intro j hj d hd
  rw[List.nil_append]at hj hd⊢
  rw[List.length_take]at hj
  rw[List.getElem?_take,if_pos (by omega)]at hd
  obtain⟨o1,o2,o3⟩:=h.ok j (by omega) d hd
  refine⟨o1,?_,o3⟩
  rw[List.take_take,Nat.min_eq_left (by omega)]
  exact o2
 have hs:=h.small
 have hlen:(b.ds.take i).length=i:=by rw[List.length_take];omega
 obtain⟨m1,_,m3⟩:=zsm (b.ds.take i) [] [] hok (by rw[List.nil_append,hlen];omega) zzj rfl (Nat.zero_le _) hz
 rw[List.nil_append,hlen]at m1
 exact⟨m1,m3⟩
theorem zdc(h:zct b){i:Nat}(hi:i<=b.ds.length)(me:Int):ziv me (zaw b.ds i):=fun x hx e=>by
 have h1:=((zcl h i hi).1.inn x hx).2
 have h2:=h.small
 have h3:x.inn=1073741824:=e
 omega
theorem qc4(h:zct b){i:Nat}(hi:i<=b.ds.length)(me:Int):Upto me i (zaw b.ds i):=fun x hx=>
 ⟨.inl ((zcl h i hi).1.inn x hx).2,((zcl h i hi).1.out x hx).2.1⟩
structure Wr where
 me:Int
 seen:Nat
 next:Int
 base:List Ch
 opens:List Dd
 sent:Nat
def Wr.list(w:Wr):List Ch:=zaj w.base w.opens
def Wr.least(w:Wr):Int:=match w.opens[w.sent]? with
 |some e=>e.seen
 |none=>w.seen
structure WI(b:Bk)(c:Int)(w:Wr):Prop where
 wr:wrB w.me=true
 here:b.here w.me=true
 seen:w.seen<=b.ds.length
 base:w.base=ofL c (zaw b.ds w.seen)
 cl:c<=zap b
 cs:c<=w.seen
 csee:∀d∈b.ds.drop w.seen,c<=d.seen
 own:∀e∈w.opens,e.by_=w.me/\e.seen<=w.seen/\c<=e.seen
 fit:zdw (zaw b.ds w.seen) w.opens
 sent:w.sent<=w.opens.length
 told:(b.ds.drop w.seen).filter (fun d=>decide (d.by_=w.me))=w.opens.take w.sent
 no:∀(i:Nat) (e:Dd),w.opens[i]? =some e->e.no=w.next-w.opens.length+i
 last:b.last w.me+w.opens.length=w.next-1+w.sent
 said:b.said w.me<=w.least
 mono:w.opens.Pairwise fun x y=>x.seen<=y.seen
 full:w.list.length<=200
theorem WI.small{b:Bk}{c:Int}{w:Wr}(_h:WI b c w)(hg:zct b):(w.seen:Int)<121:=by
 have:=hg.small
 have:=_h.seen
 omega
theorem WI.list_eq{w:Wr}(h:WI b c w)(hg:zct b):zdw w.base w.opens/\w.list=ofL c (zaj (zaw b.ds w.seen) w.opens):=by
 have:=zo8 w.opens (zaw b.ds w.seen) (zdc hg h.seen w.me) (fun e he=>⟨(h.own e he).1,(h.own e he).2.2⟩) h.fit
 rw[<-h.base]at this
 exact this
theorem WI.ok{w:Wr}(h:WI b c w)(hg:zct b):okTop w.base w.opens/\w.base.length<=200:=zpb _ _ (h.list_eq hg).1 h.full
theorem WI.least_le{w:Wr}(h:WI b c w):w.least<=w.seen:=by
 unfold Wr.least
 split
 ·rename_i e he
  exact(h.own e (List.mem_of_getElem? he)).2.1
 exact Int.le_refl _
theorem WI.unsent{w:Wr}(h:WI b c w){i:Nat}{e:Dd}(hi:w.sent<=i)(he:w.opens[i]? =some e):w.least<=e.seen:=by
 obtain⟨hl,hx⟩:=List.getElem?_eq_some_iff.1 he
 have h0:w.opens[w.sent]? =some w.opens[w.sent]:=List.getElem?_eq_getElem (by omega)
 unfold Wr.least
 rw[h0]
 show w.opens[w.sent].seen<=e.seen
 by_cases c:w.sent=i
 ·subst c;rw[hx];exact Int.le_refl _
 have:=List.pairwise_iff_getElem.1 h.mono w.sent i (by omega) hl (by omega)
 rw[hx]at this
 exact this
theorem WI.does{w:Wr}(h:WI b c w)(hg:zct b){e:Dd}(hb:e.by_=w.me)(hn:e.no=w.next)(hs:e.seen=w.seen)(hc:doC w.list e za3=0):
 WI b c ⟨w.me,w.seen,w.next+1,w.base,w.opens++[e],w.sent⟩:=by
 obtain⟨c1,c2,c3,_⟩:=zc0 hc
 have hle:=(h.list_eq hg).2
 have hcn:cnt w.list e.seen e.by_=cnt (zaj (zaw b.ds w.seen) w.opens) e.seen e.by_:=by
  rw[hle,qgi _ (by rw[hs];exact h.cs)]
 have hfit:Fit (zaj (zaw b.ds w.seen) w.opens) e:=⟨c1,by rw[<-hcn];exact c2⟩
 have hl:(zaj w.base (w.opens++[e])).length<=200:=by
  rw[zjt,zxm (l:=zaj w.base w.opens) ⟨c1,c2⟩]
  exact c3
 refine⟨h.wr,h.here,h.seen,h.base,h.cl,h.cs,h.csee,?_,zpa _ _ _ h.fit hfit,?_,?_,?_,?_,?_,?_,hl⟩
 ·intro x hx
  rcases List.mem_append.1 hx with hx|hx
  ·exact h.own x hx
  obtain rfl:x=e:=by simpa using hx
  exact⟨hb,by rw[hs];exact Int.le_refl _,by rw[hs];exact h.cs⟩
 ·have:=h.sent
  simp;omega
 ·show _=List.take w.sent (w.opens++[e])
  rw[List.take_append_of_le_length h.sent]
  exact h.told
 ·intro i x hx
  show x.no=w.next+1-((w.opens++[e]).length:Nat)+i
  rw[List.length_append]
  by_cases hi:i<w.opens.length
  ·have hx':w.opens[i]? =some x:=by
    have:(w.opens++[e])[i]? =some x:=hx
    rw[List.getElem?_append_left hi]at this
    exact this
   have:=h.no i x hx'
   simp;omega
  have hx':(w.opens++[e])[i]? =some x:=hx
  rw[List.getElem?_append_right (by omega)]at hx'
  have hz:i-w.opens.length=0:=by
   have:=(List.getElem?_eq_some_iff.1 hx').1
   simp at this;omega
  rw[hz]at hx'
  obtain rfl:e=x:=by simpa using hx'
  simp;omega
 ·have:=h.last
  show b.last w.me+((w.opens++[e]).length:Nat)=w.next+1-1+w.sent
  rw[List.length_append];simp;omega
 ·have h1:=h.said
  have h2:=h.least_le
  refine Int.le_trans h1 ?_
  show w.least<=match (w.opens++[e])[w.sent]? with|some e=>e.seen|none=>w.seen
  by_cases hi:w.sent<w.opens.length
  ·rw[List.getElem?_append_left hi]
   exact Int.le_refl _
  have:w.sent=w.opens.length:=by have:=h.sent;omega
  rw[this,List.getElem?_concat_length]
  show w.least<=e.seen
  rw[hs];exact h2
 refine List.pairwise_append.2 ⟨h.mono,List.pairwise_singleton _ _,?_⟩
 intro x hx y hy
 obtain rfl:y=e:=by simpa using hy
 rw[hs];exact(h.own x hx).2.1
theorem zt2(hc:za6 b d=0):zb9 b d=⟨b.ds++[d],b.here,zai b.last d.by_ d.no,zai b.said d.by_ d.seen⟩:=by rw[zb9,if_pos hc]
theorem WI.sent_ok{w:Wr}(h:WI b c w){d:Dd}(hd:w.opens[w.sent]? =some d)(hc:za6 b d=0):WI (zb9 b d) c ⟨w.me,w.seen,w.next,w.base,w.opens,w.sent+1⟩:=by
 obtain⟨hb,hs,hcd⟩:=h.own d (List.mem_of_getElem? hd)
 have hlt:=(List.getElem?_eq_some_iff.1 hd).1
 have hno:=h.no w.sent d hd
 have hla:=h.last
 have hcl:=Int.le_trans h.cl (zp2 d)
 rw[zt2 hc]at hcl⊢
 refine⟨h.wr,h.here,?_,?_,hcl,h.cs,?_,h.own,?_,hlt,?_,h.no,?_,?_,h.mono,h.full⟩
 ·have:=h.seen
  show w.seen<=(b.ds++[d]).length
  rw[List.length_append];omega
 ·show w.base=ofL c (zaw (b.ds++[d]) w.seen)
  rw[zln h.seen];exact h.base
 ·intro x hx
  have hx':x∈(b.ds++[d]).drop w.seen:=hx
  rw[List.drop_append_of_le_length h.seen]at hx'
  rcases List.mem_append.1 hx' with hx'|hx'
  ·exact h.csee x hx'
  obtain rfl:x=d:=by simpa using hx'
  exact hcd
 ·show zdw (zaw (b.ds++[d]) w.seen) w.opens
  rw[zln h.seen];exact h.fit
 ·show((b.ds++[d]).drop w.seen).filter (fun d=>decide (d.by_=w.me))=w.opens.take (w.sent+1)
  rw[List.drop_append_of_le_length h.seen,List.filter_append,h.told,zjq w.opens w.sent hlt,(List.getElem?_eq_some_iff.1 hd).2]
  simp[hb]
 ·show zai b.last d.by_ d.no w.me+w.opens.length=w.next-1+((w.sent+1:Nat):Int)
  rw[hb,zag];omega
 show zai b.said d.by_ d.seen w.me<=match w.opens[w.sent+1]? with|some e=>e.seen|none=>(w.seen:Int)
 rw[hb,zag]
 split
 ·rename_i e he
  have h1:=(List.getElem?_eq_some_iff.1 hd).2
  have h2:=List.getElem?_eq_some_iff.1 he
  have:=List.pairwise_iff_getElem.1 h.mono w.sent (w.sent+1) hlt h2.1 (by omega)
  rw[h1,h2.2]at this
  exact this
 exact hs
theorem WI.other_comes{w:Wr}(h:WI b c w){d:Dd}(hne:d.by_≠w.me)(hc:za6 b d=0):WI (zb9 b d) c w:=by
 have hcl:=Int.le_trans h.cl (zp2 d)
 have hdl:=zpj hc
 have hcl0:=h.cl
 rw[zt2 hc]at hcl⊢
 refine⟨h.wr,h.here,?_,?_,hcl,h.cs,?_,h.own,?_,h.sent,?_,h.no,?_,?_,h.mono,h.full⟩
 ·have:=h.seen
  show w.seen<=(b.ds++[d]).length
  rw[List.length_append];omega
 ·show w.base=ofL c (zaw (b.ds++[d]) w.seen)
  rw[zln h.seen];exact h.base
 ·intro x hx
  have hx':x∈(b.ds++[d]).drop w.seen:=hx
  rw[List.drop_append_of_le_length h.seen]at hx'
  rcases List.mem_append.1 hx' with hx'|hx'
  ·exact h.csee x hx'
  obtain rfl:x=d:=by simpa using hx'
  omega
 ·show zdw (zaw (b.ds++[d]) w.seen) w.opens
  rw[zln h.seen];exact h.fit
 ·show((b.ds++[d]).drop w.seen).filter (fun d=>decide (d.by_=w.me))=w.opens.take w.sent
  rw[List.drop_append_of_le_length h.seen,List.filter_append,h.told]
  simp[hne]
 ·show zai b.last d.by_ d.no w.me+w.opens.length=_
  rw[zab _ _ (Ne.symm hne)];exact h.last
 show zai b.said d.by_ d.seen w.me<=_
 rw[zab _ _ (Ne.symm hne)];exact h.said
theorem WI.other_says{w:Wr}(h:WI b c w){v n:Int}(hne:v≠w.me):WI (zd5 b v n) c w:=by
 have hcl:=Int.le_trans h.cl (zr3 v n)
 unfold zd5 at hcl⊢
 split at hcl
 ·rename_i hc
  rw[if_pos hc]
  refine⟨h.wr,h.here,h.seen,h.base,hcl,h.cs,h.csee,h.own,h.fit,h.sent,h.told,h.no,h.last,?_,h.mono,h.full⟩
  show zai b.said v n w.me<=_
  rw[zab _ _ (Ne.symm hne)];exact h.said
 rename_i hc
 rw[if_neg hc];exact h
theorem WI.other_joins{w:Wr}(h:WI b c w){v:Int}(hne:v≠w.me):WI (zc4 b v) c w:=by
 have hcl:=Int.le_trans h.cl (qbb (b:=b) v)
 unfold zc4 at hcl⊢
 split at hcl
 ·rename_i hc
  rw[if_pos hc]
  refine⟨h.wr,?_,h.seen,h.base,hcl,h.cs,h.csee,h.own,h.fit,h.sent,h.told,h.no,h.last,?_,h.mono,h.full⟩
  ·show zai b.here v true w.me=true
   rw[zab _ _ (Ne.symm hne)];exact h.here
  show zai b.said v b.len w.me<=_
  rw[zab _ _ (Ne.symm hne)];exact h.said
 rename_i hc
 rw[if_neg hc];exact h
theorem WI.other_leaves{w:Wr}(h:WI b c w){v:Int}(hne:v≠w.me):WI (zcp b v) c w:=by
 have hcl:=Int.le_trans h.cl (zx3 (b:=b) v)
 unfold zcp at hcl⊢
 split at hcl
 ·rename_i hc
  rw[if_pos hc]
  refine⟨h.wr,?_,h.seen,h.base,hcl,h.cs,h.csee,h.own,h.fit,h.sent,h.told,h.no,h.last,h.said,h.mono,h.full⟩
  show zai b.here v false w.me=true
  rw[zab _ _ (Ne.symm hne)];exact h.here
 rename_i hc
 rw[if_neg hc];exact h
theorem WI.says{w:Wr}(h:WI b c w):ze2 b w.me w.least=0/\WI (zd5 b w.me w.least) c w:=by
 have h1:=h.said
 have h2:=h.least_le
 have h3:=h.seen
 have hh:b.isHere w.me=true:=by rw[Bk.isHere,h.wr,h.here];rfl
 have hc:ze2 b w.me w.least=0:=by
  unfold ze2
  rw[if_neg (by rw[hh];simp),if_neg (by unfold Bk.len;omega)]
 have hcl:=Int.le_trans h.cl (zr3 w.me w.least)
 refine⟨hc,?_⟩
 rw[zd5,if_pos hc]at hcl⊢
 refine⟨h.wr,h.here,h.seen,h.base,hcl,h.cs,h.csee,h.own,h.fit,h.sent,h.told,h.no,h.last,?_,h.mono,h.full⟩
 show zai b.said w.me w.least w.me<=_
 rw[zag]
 exact Int.le_refl _
theorem WI.clears{w:Wr}(h:WI b c w)(hg:zct b){least:Int}(h1:least<=zap b)(h2:∀d∈b.ds.drop w.seen,least<=d.seen):
 ∃c',WI b c' ⟨w.me,w.seen,w.next,ofL least w.base,w.opens,w.sent⟩/\zaj (ofL least w.base) w.opens=ofL least w.list:=by
 have hsaid:=zeg h.wr h.here
 have hs:=h.said
 have hle:=h.least_le
 have hopen:∀e∈w.opens,least<=e.seen:=by
  intro e he
  obtain⟨i,hi,rfl⟩:=List.mem_iff_getElem.1 he
  by_cases hs':i<w.sent
  ·have:w.opens[i]∈w.opens.take w.sent:=by
    rw[List.mem_take_iff_getElem]
    exact⟨i,by omega,rfl⟩
   rw[<-h.told]at this
   exact h2 _ (List.mem_filter.1 this).1
  have:=h.unsent (i:=i) (by omega) (List.getElem?_eq_getElem hi)
  omega
 have hm:ziv w.me w.base:=by rw[h.base];exact(zdc hg h.seen w.me).of c
 have htop:=(zo8 w.opens w.base hm (fun e he=>⟨(h.own e he).1,hopen e he⟩) (h.list_eq hg).1).2
 have hfull:(zaj (ofL least w.base) w.opens).length<=200:=by
  rw[htop]
  exact Nat.le_trans (zze _ _) h.full
 by_cases hcl:c<=least
 ·refine⟨least,⟨h.wr,h.here,h.seen,?_,h1,by show least<=(w.seen:Int);omega,h2,fun e he=>⟨(h.own e he).1,(h.own e he).2.1,hopen e he⟩,h.fit,h.sent,h.told,h.no,h.last,h.said,h.mono,hfull⟩,htop⟩
  show ofL least w.base=ofL least (zaw b.ds w.seen)
  rw[h.base,of_more hcl]
 refine⟨c,⟨h.wr,h.here,h.seen,?_,h.cl,h.cs,h.csee,h.own,h.fit,h.sent,h.told,h.no,h.last,h.said,h.mono,hfull⟩,htop⟩
 show ofL least w.base=ofL c (zaw b.ds w.seen)
 rw[h.base,of_less (by omega)]
theorem WI.base_next{w:Wr}(h:WI b c w)(hg:zct b)(hi:w.seen<b.ds.length):doC w.base b.ds[w.seen] ((w.seen:Int)+1)=0/\doL w.base b.ds[w.seen] ((w.seen:Int)+1)=ofL c (zaw b.ds (w.seen+1)):=by
 obtain⟨s1,s2⟩:=zjy hg hi
 have hcd:c<=b.ds[w.seen].seen:=h.csee _ (by rw[List.drop_eq_getElem_cons hi];exact List.mem_cons_self ..)
 have hcs:=h.cs
 refine⟨by rw[h.base];exact qg6 hcd s1,?_⟩
 rw[s2,do_of hcd (.inr (by omega)) (by omega) (zdc hg h.seen _) (zp9 (zv6 s1)),h.base]
theorem zl8(hg:zct b){i:Nat}(hi:i<b.ds.length):b.ds[i].seen<(i:Int)+1/\(i:Int)+1<za3:=by
 have h1:=(hg.ok i hi b.ds[i] (List.getElem?_eq_getElem hi)).2.2
 have h2:=hg.small
 exact⟨by omega,by show(i:Int)+1<1073741824;omega⟩
theorem zve(hi:i<b.ds.length){d:Dd}(h:d∈b.ds.drop (i+1)):d∈b.ds.drop i:=by
 rw[List.drop_eq_getElem_cons hi]
 exact List.mem_cons_of_mem _ h
theorem WI.hears_other{b:Bk}{c:Int}{w:Wr}(h:WI b c w)(hg:zct b)(hi:w.seen<b.ds.length)(hne:b.ds[w.seen].by_≠w.me):
 (doC w.list b.ds[w.seen] ((w.seen:Int)+1)=0\/doC w.list b.ds[w.seen] ((w.seen:Int)+1)=9)/\
 (doC w.list b.ds[w.seen] ((w.seen:Int)+1)=0->doL w.list b.ds[w.seen] ((w.seen:Int)+1)=zaj (doL w.base b.ds[w.seen] ((w.seen:Int)+1)) w.opens/\
  WI b c ⟨w.me,w.seen+1,w.next,doL w.base b.ds[w.seen] ((w.seen:Int)+1),w.opens,w.sent⟩):=by
 obtain⟨s1,s2⟩:=zjy hg hi
 obtain⟨n1,n2⟩:=zl8 hg hi
 obtain⟨b1,b2⟩:=h.base_next hg hi
 have hm:ziv w.me w.base:=by rw[h.base];exact(zdc hg h.seen w.me).of c
 have hes:∀e∈w.opens,e.by_=w.me/\e.seen<(w.seen:Int)+1:=fun e he=>⟨(h.own e he).1,by have:=(h.own e he).2.1;omega⟩
 obtain⟨t1,t2,t3⟩:=zo7 hne n1 n2 w.opens w.base hm hes (h.list_eq hg).1 (zv6 b1)
 obtain⟨_,u2,_⟩:=zo7 hne n1 n2 w.opens (zaw b.ds w.seen) (zdc hg h.seen w.me) hes h.fit (zv6 s1)
 have hcode:=fit_code (n:=(w.seen:Int)+1) t1 (by omega)
 refine⟨?_,fun hc=>⟨t3,?_⟩⟩
 ·show doC (zaj w.base w.opens) _ _=0\/doC (zaj w.base w.opens) _ _=9
  rw[hcode]
  split
  ·exact .inr rfl
  exact .inl rfl
 have hl:(zaj (doL w.base b.ds[w.seen] ((w.seen:Int)+1)) w.opens).length<=200:=by
  rw[<-t3,zxm t1]
  exact(zc0 hc).2.2.1
 refine⟨h.wr,h.here,hi,b2,h.cl,by have:=h.cs;show c<=((w.seen+1:Nat):Int);omega,fun d hd=>h.csee d (zve hi hd),?_,?_,h.sent,?_,h.no,h.last,?_,h.mono,hl⟩
 ·intro e he
  obtain⟨o1,o2,o3⟩:=h.own e he
  exact⟨o1,by show e.seen<=((w.seen+1:Nat):Int);omega,o3⟩
 ·show zdw (zaw b.ds (w.seen+1)) w.opens
  rw[s2];exact u2
 ·have:=h.told
  rw[List.drop_eq_getElem_cons hi,List.filter_cons,if_neg (by simpa using hne)]at this
  exact this
 refine Int.le_trans h.said ?_
 show w.least<=match w.opens[w.sent]? with|some e=>e.seen|none=>((w.seen+1:Nat):Int)
 unfold Wr.least
 cases w.opens[w.sent]? with
 |none=>show(w.seen:Int)<=((w.seen+1:Nat):Int);omega
 |some e=>exact Int.le_refl _
theorem WI.own_first{b:Bk}{c:Int}{w:Wr}(h:WI b c w)(hi:w.seen<b.ds.length)(hb:b.ds[w.seen].by_=w.me):∃es,w.opens=b.ds[w.seen]::es/\1<=w.sent:=by
 have:=h.told
 rw[List.drop_eq_getElem_cons hi,List.filter_cons,if_pos (by simpa using hb)]at this
 cases hes:w.opens with
 |nil=>rw[hes]at this;simp at this
 |cons e es=>
  cases hs:w.sent with
  |zero=>rw[hs]at this;simp at this
  |succ j=>
   rw[hes,hs,List.take_succ_cons,List.cons.injEq]at this
   exact⟨es,by rw[this.1],by omega⟩
theorem WI.hears_own{b:Bk}{c:Int}{w:Wr}(h:WI b c w)(hg:zct b)(hi:w.seen<b.ds.length){es:List Dd}(he:w.opens=b.ds[w.seen]::es)(h1:1<=w.sent)(hb:b.ds[w.seen].by_=w.me):
 WI b c ⟨w.me,w.seen+1,w.next,doL w.base b.ds[w.seen] ((w.seen:Int)+1),es,w.sent-1⟩/\
 zfz ((w.seen:Int)+1) w.me w.list (zaj (doL w.base b.ds[w.seen] ((w.seen:Int)+1)) es)/\
 vw (zaj (doL w.base b.ds[w.seen] ((w.seen:Int)+1)) es) ((w.seen:Int)+1) w.me=vw w.list w.seen w.me:=by
 obtain⟨_,s2⟩:=zjy hg hi
 obtain⟨n1,n2⟩:=zl8 hg hi
 obtain⟨_,b2⟩:=h.base_next hg hi
 have hm:ziv w.me w.base:=by rw[h.base];exact(zdc hg h.seen w.me).of c
 have hes:∀e∈b.ds[w.seen]::es,e.by_=w.me/\e.seen<(w.seen:Int)+1:=fun e hx=>by
  rw[<-he]at hx
  exact⟨(h.own e hx).1,by have:=(h.own e hx).2.1;omega⟩
 have hf:=(h.list_eq hg).1
 have hf':=h.fit
 rw[he]at hf hf'
 obtain⟨_,t2⟩:=qd4 n2 hm hes hf
 obtain⟨u1,_⟩:=qd4 n2 (zdc hg h.seen w.me) hes hf'
 rw[<-s2]at u1
 have hlist:w.list=zaj w.base (b.ds[w.seen]::es):=by rw[Wr.list,he]
 rw[<-hlist]at t2
 have hup:Upto w.me w.seen w.list:=by
  rw[Wr.list]
  refine zyh (by omega) w.opens (fun x hx=> ?_) (fun e hx=>(h.own e hx).1)
  rw[h.base]at hx
  exact qc4 hg h.seen w.me x (List.mem_filter.1 hx).1
 refine⟨?_,t2,vw_ack t2 hup⟩
 have hsl:=h.sent
 have hll:w.opens.length=es.length+1:=by rw[he];rfl
 have hmono:=h.mono
 rw[he]at hmono
 have hl:(zaj (doL w.base b.ds[w.seen] ((w.seen:Int)+1)) es).length<=200:=by
  rw[<-t2.len];exact h.full
 refine⟨h.wr,h.here,hi,b2,h.cl,by have:=h.cs;show c<=((w.seen+1:Nat):Int);omega,fun d hd=>h.csee d (zve hi hd),?_,u1,by show w.sent-1<=es.length;omega,?_,?_,?_,?_,(List.pairwise_cons.1 hmono).2,hl⟩
 ·intro e hx
  obtain⟨o1,o2,o3⟩:=h.own e (by rw[he];exact List.mem_cons_of_mem _ hx)
  exact⟨o1,by show e.seen<=((w.seen+1:Nat):Int);omega,o3⟩
 ·have:=h.told
  rw[List.drop_eq_getElem_cons hi,List.filter_cons,if_pos (by simpa using hb),he,show w.sent=(w.sent-1)+1 by omega,List.take_succ_cons,List.cons.injEq]at this
  exact this.2
 ·intro i e hx
  have:=h.no (i+1) e (by rw[he];exact hx)
  show e.no=w.next-es.length+i
  omega
 ·have:=h.last
  show b.last w.me+es.length=w.next-1+((w.sent-1:Nat):Int)
  omega
 refine Int.le_trans h.said ?_
 show w.least<=match es[w.sent-1]? with|some e=>e.seen|none=>((w.seen+1:Nat):Int)
 have hx:w.opens[w.sent]? =es[w.sent-1]? :=by
  rw[he,show w.sent=(w.sent-1)+1 by omega]
  rfl
 unfold Wr.least
 rw[hx]
 cases es[w.sent-1]? with
 |none=>show(w.seen:Int)<=((w.seen+1:Nat):Int);omega
 |some e=>exact Int.le_refl _
theorem of_zero(h:∀x∈l,0<=x.out):ofL 0 l=l:=by
 unfold ofL
 rw[List.filter_eq_self]
 intro x hx
 have:=h x hx
 simp[ze4]
 omega
theorem WI.comes_in(hg:zct b){v:Int}(hc:zde b v=0):WI (zc4 b v) 0 ⟨v,b.ds.length,b.last v+1,b.chars,[],0⟩:=by
 have hgj:=zp8 v hg
 have hw:wrB v=true:=by
  unfold zde at hc
  cases hh:wrB v
  ·rw[if_pos hh]at hc;cases hc
  rfl
 have hle:0<=zap (zc4 b v):=zgz (by unfold Bk.len;omega) (fun w _ _=>(hgj.said w).1)
 rw[zc4,if_pos hc]at hle⊢
 refine⟨hw,zag _ _ _,Nat.le_refl _,?_,hle,by show(0:Int)<=(b.ds.length:Int);omega,?_,?_,trivial,Nat.le_refl _,?_,?_,?_,?_,List.Pairwise.nil,zay⟩
 ·show b.chars=ofL 0 (zaw b.ds b.ds.length)
  rw[zjj,of_zero]
  intro x hx
  rw[<-zjj]at hx
  exact((zcl hg _ (Nat.le_refl _)).1.out x hx).1
 ·intro d hd
  have hd':d∈b.ds.drop b.ds.length:=hd
  rw[List.drop_length]at hd'
  cases hd'
 ·intro e he
  cases he
 ·show(b.ds.drop b.ds.length).filter _=_
  rw[List.drop_length];rfl
 ·intro i e he
  simp at he
 ·show b.last v+((0:Nat):Int)=b.last v+1-1+((0:Nat):Int)
  omega
 show zai b.said v b.len v<=(b.ds.length:Int)
 rw[zag]
 exact Int.le_refl _
variable {l:List Ch} {i n k:Nat} {b:Bk} {number seen by_:Int} {d:Dd}
def zi2(l:List Ch):Prop:=∀x∈l,0<=x.out/\0<=x.gone/\x.gone<=15
theorem tame_nil:zi2 []:=fun x hx=>by simp at hx
theorem zjp(h:zi2 l)(k:Nat)(hk:k<l.length):0<=l[k].out/\l[k].inn=l[k].inn/\0<=l[k].gone/\l[k].gone<=15:=⟨(h _ (List.getElem_mem hk)).1,rfl,(h _ (List.getElem_mem hk)).2⟩
theorem zup{last:Int->Int}(h:qcf last i l)(_hi:i<=1000):zi2 l:=by
 intro x hx
 have h1:=h.out x hx
 have h3:=h.gone x hx
 exact⟨h1.1,h3.1,h3.2⟩
theorem zje(h:zct b):qcf (zfq b.ds) b.ds.length b.chars:=by
 have:=(zsm b.ds [] [] h.ok (by have:=h.small;simp;omega) zzj rfl (Nat.zero_le _) h.all0).1
 exact this
theorem zjd(h:zct b):zi2 b.chars:=zup (zje h) (by have:=h.small;omega)
theorem zv5(h:zi2 l):zi0 l:=fun x hx=>by
 have:=h x hx
 omega
theorem tame_new(d:Dd)(n:Int):zi2 (zez d n):=by
 intro x hx
 obtain⟨j,b,rfl,_⟩:=zdm hx
 show 0<=(0:Int)/\0<=(0:Int)/\(0:Int)<=15
 omega
theorem zx0{out:Int}(h:0<=out)(hn:1<=number):0<=zal number out:=by
 unfold zal
 split<;>omega
theorem zyr(h:zi2 l)(hc:za9 d=0)(h1:1<=number):zi2 (doL l d number):=by
 obtain⟨_,hw,_⟩:=zah hc
 by_cases hk:d.kind=1
 ·rw[doL,if_pos hk]
  intro x hx
  rcases List.mem_append.1 hx with hx|hx
  ·exact h x (List.mem_of_mem_take hx)
  rcases List.mem_append.1 hx with hx|hx
  ·exact tame_new d _ x hx
  exact h x (List.mem_of_mem_drop hx)
 rw[doL,if_neg hk]
 intro y hy
 obtain⟨x,hx,hyx⟩:=zfk hy
 obtain⟨g1,g3,g4⟩:=h x hx
 rcases hyx with rfl|⟨hs,rfl⟩
 ·exact⟨g1,g3,g4⟩
 have h3:=znv hw (ze1 hs) g3 g4
 exact⟨zx0 g1 h1,h3.1,h3.2.1⟩
theorem tame_do(h:zi2 l)(hc:za9 d=0)(h1:1<=number)(_h2:number<=1000):zi2 (doL l d number):=zyr h hc h1
theorem out_tame{o g:Int}(h:0<=o):(zce g by_||(decide (0<o)&&decide (o<=seen)))=zmz o g seen by_:=by
 unfold zmz
 rw[Bool.or_comm]
 congr 1
 rw[Bool.eq_iff_iff]
 simp
 omega
theorem zly{d:Dd}{number:Int}(x:Ch):∀(l:List Ch) (k:Int),zby d number k (l++[x])=zby d number k l++[if za7 d.seen d.by_ x=true then(if d.at_<=k+cnt l d.seen d.by_/\k+cnt l d.seen d.by_<d.at_+d.many then zex d.by_ number x else x)else x]
 |[],k=>by
  have e:cnt [] d.seen d.by_=0:=rfl
  rw[List.nil_append,zby,zby,zby,zby,e,Int.add_zero]
  split<;>rfl
 |y::r,k=>by
  rw[List.cons_append,zby,zby]
  by_cases hy:za7 d.seen d.by_ y=true
  ·have e:cnt (y::r) d.seen d.by_=cnt r d.seen d.by_+1:=by simp[cnt,hy]
   rw[if_pos hy,if_pos hy,zly x r (k+1),List.cons_append,e,show k+1+cnt r d.seen d.by_=k+(cnt r d.seen d.by_+1) by omega]
  have e:cnt (y::r) d.seen d.by_=cnt r d.seen d.by_:=by simp[cnt,hy]
  rw[if_neg hy,if_neg hy,zly x r k,List.cons_append,e]
def BTo(l:List Ch)(seen by_:Int)(n i k:Nat):Prop:=k<n/\zaa seen by_ n l=(zaa seen by_ (n-k) (l.drop i)).map (· +i)
theorem qgq(l:List Ch)(seen by_:Int){n:Nat}(h:0<n):BTo l seen by_ n 0 0:=by
 refine⟨h,?_⟩
 simp
theorem bto_miss(h:BTo l seen by_ n i k)(hi:i<l.length)(hs:za7 seen by_ l[i]=false):BTo l seen by_ n (i+1) k:=by
 refine⟨h.1,?_⟩
 rw[h.2,List.drop_eq_getElem_cons hi]
 obtain⟨m,hm⟩:∃m,n-k=m+1:=⟨n-k-1,by have:=h.1;omega⟩
 rw[hm,zaa,if_neg (by simp[hs]),Option.map_map]
 congr 1
 funext x
 show x+1+i=x+(i+1)
 omega
theorem bto_met(h:BTo l seen by_ n i k)(hi:i<l.length)(hs:za7 seen by_ l[i]=true)(hk:k+1≠n):BTo l seen by_ n (i+1) (k+1):=by
 have h1:=h.1
 refine⟨by omega,?_⟩
 rw[h.2,List.drop_eq_getElem_cons hi]
 obtain⟨m,hm⟩:∃m,n-k=m+1:=⟨n-k-1,by omega⟩
 rw[hm,zaa,if_pos hs,Option.map_map,show n-(k+1)=m by omega]
 congr 1
 funext x
 show x+1+i=x+(i+1)
 omega
theorem bto_hit(h:BTo l seen by_ n i k)(hi:i<l.length)(hs:za7 seen by_ l[i]=true)(hk:k+1=n):zaa seen by_ n l=some (i+1):=by
 have h1:=h.1
 rw[h.2,List.drop_eq_getElem_cons hi,show n-k=0+1 by omega,zaa,if_pos hs]
 have e:zaa seen by_ 0 (l.drop (i+1))=some 0:=by cases l.drop (i+1)<;>rfl
 rw[e]
 show some (0+1+i)=some (i+1)
 congr 1
 omega
theorem bto_end(h:BTo l seen by_ n l.length k):zaa seen by_ n l=none:=by
 have h1:=h.1
 rw[h.2,List.drop_eq_nil_of_le (Nat.le_refl _),show n-k=(n-k-1)+1 by omega,zaa]
 rfl
def zpq(l:List Ch)(seen by_:Int)(n:Nat):Int:=match zaa seen by_ n l with
 |some p=>p
 |none=> -1
theorem znb{p:Nat}(h:zaa seen by_ n l=some p):zpq l seen by_ n=p:=by rw[zpq,h]
theorem zvt(h:zaa seen by_ n l=none):zpq l seen by_ n= -1:=by rw[zpq,h]
theorem qdh(h:∀x∈l,0<=x.out/\x.out<=1000/\x.inn<=1000/\0<=x.by_):vw l 1073741823 (-1)=zdj l:=by
 unfold vw zdj
 congr 1
 apply List.filter_congr
 intro x hx
 obtain⟨h1,h2,h3,h4⟩:=h x hx
 have hw:wrB (-1)=false:=by decide
 show(inB x.inn x.by_ 1073741823 (-1)&& !zmz x.out x.gone 1073741823 (-1))=zgg x
 rw[zmz,zce,hw,zgg,zv2,inB]
 rw[Bool.eq_iff_iff]
 simp[za3]
 omega
theorem qfq(h:zct b):vw b.chars 1073741823 (-1)=zdj b.chars:=by
 have hm:=zje h
 have hs:=h.small
 refine qdh (fun x hx=> ?_)
 have h1:=hm.out x hx
 have h2:=hm.inn x hx
 have h3:=hm.wr x hx
 have h4:0<=x.by_/\x.by_<=3:=by simpa [wrB]using h3
 omega
theorem mayR(h:za9 d=0):zha l d=if cnt l d.seen d.by_<d.at_\/cnt l d.seen d.by_<d.at_+d.many then 1 else if 200<l.length+d.text.size then 9 else 0:=by
 have hm:=(zah h).2.2.2.2.2.2.2.2.1
 rw[zha,if_neg (fun e=>e h)]
 by_cases h1:cnt l d.seen d.by_<d.at_+d.many
 ·rw[if_pos h1,if_pos (.inr h1)]
 have h2:¬(cnt l d.seen d.by_<d.at_\/cnt l d.seen d.by_<d.at_+d.many):=by omega
 rw[if_neg h1,if_neg h2]
end Go.Proofs.YtcbnnfeelhlapadGreatDoor