/-
  A log and a book in memory: which blocks are theirs, and what a step on one of them leaves of the other one. No walk.
-/
import Derived.Test.YtcbnnfeelhlapadGreatDoorFDeeds
import Derived.Test.YtcbnnfeelhlapadGreatDoorWRoom
import Derived.Test.YtcbnnfeelhlapadGreatDoorSGrow
namespace Go.Proofs.YtcbnnfeelhlapadGreatDoor
open Go.RowKit
structure zak(S:Nat→Prop)(w w':World):Prop where
 os:w'.os=w.os
 tape:w'.tape=w.tape
 output:w'.output=w.output
 size:w.heap.size≤w'.heap.size
 block:∀k,k<w.heap.size→¬S k→w'.heap[k]? =w.heap[k]?
theorem zak.refl(S:Nat→Prop)(w:World):zak S w w:=⟨rfl,rfl,rfl,Nat.le_refl _,fun _ _ _=>rfl⟩
theorem zak.of_below{S:Nat→Prop}{w w':World}(h:Below w.heap.size w w'):zak S w w':=⟨h.os,h.tape,h.output,h.size,fun k hk _=>h.block k hk⟩
def grow(S:Nat→Prop)(w w':World):Nat→Prop:=fun k=>S k∨(w.heap.size≤k∧k<w'.heap.size)
theorem zak.trans{S:Nat→Prop}{a b c:World}(h:zak S a b)(k:zak (grow S a b) b c):zak S a c:=
 ⟨k.os.trans h.os,k.tape.trans h.tape,k.output.trans h.output,Nat.le_trans h.size k.size,fun i hi hs=>(k.block i (Nat.lt_of_lt_of_le hi h.size) (fun e=>e.elim hs (fun e=>by omega))).trans (h.block i hi hs)⟩
theorem zak.trans'{S:Nat→Prop}{a b c:World}(h:zak S a b)(k:zak S b c):zak S a c:=
 ⟨k.os.trans h.os,k.tape.trans h.tape,k.output.trans h.output,Nat.le_trans h.size k.size,fun i hi hs=>(k.block i (Nat.lt_of_lt_of_le hi h.size) hs).trans (h.block i hi hs)⟩
theorem zak.below{S:Nat→Prop}{base:Nat}{w w':World}(h:zak S w w')(hb:∀k,S k→base≤k)(hs:base≤w.heap.size):Below base w w':=
 ⟨h.os,h.tape,h.output,h.size,fun k hk=>h.block k (by omega) (fun e=>by have:=hb k e;omega)⟩
theorem zak.set{S:Nat→Prop}{w w':World}(h:zak S w w'){p:Addr}(hp:S p.block)(u:Value):zak S w (w'.setCell p u):=
 ⟨h.os,h.tape,h.output,by simpa [World.setCell]using h.size,fun k hk hs=>by
  rw[Below.heap_setCell w' p u k (fun e=>hs (by rw[e];exact hp))]
  exact h.block k hk hs⟩
theorem zak.after{S:Nat→Prop}{a b c:World}(h:zak S a b)(hb:Below b.heap.size b c):zak S a c:=h.trans' (.of_below hb)
theorem zak.grown{S:Nat→Prop}{a b c:World}{row:Option Nat}(h:zak S a b)(hg:b.grownBy c row)(hr:∀k,row=some k→S k∨a.heap.size≤k):zak S a c:=
 ⟨hg.os.trans h.os,hg.tape.trans h.tape,hg.output.trans h.output,Nat.le_trans h.size hg.size,fun k hk hs=>by
  rw[hg.block k (Nat.lt_of_lt_of_le hk h.size) (fun e=>by rcases hr k e.symm with x|x;exact hs x;omega)]
  exact h.block k hk hs⟩
structure zo2(w:World)(G:Nat)(dv lv:Value)(b:Bk):Prop where
 lt:G<w.heap.size
 here:∀j,j<4→w.cell? ⟨G,j*3,none⟩=some (.bool (b.here j))
 last:∀j,j<4→w.cell? ⟨G,j*3+1,none⟩=some (.int .i64 (b.last j))
 said:∀j,j<4→w.cell? ⟨G,j*3+2,none⟩=some (.int .i64 (b.said j))
 deeds:w.cell? ⟨G,12,none⟩=some dv
 list:w.cell? ⟨G,13,none⟩=some lv
 free:∀o,o<14→w.frozen? ⟨G,o,none⟩=false
structure zbq(w:World)(base:Nat)(S:Nat→Prop)(G:Nat)(dv lv:Value)(b:Bk):Prop where
 lo:∀k,S k→base≤k∧k<w.heap.size
 hG:S G
 cells:zo2 w G dv lv b
 ownD:zfy w base dv b.ds
 ownL:Own w base lv b.chars
 dB:∀k,dv.ownBlock=some k→S k∧k≠G
 lB:∀k,lv.ownBlock=some k→S k∧k≠G∧dv.ownBlock≠some k
theorem zo2.kept{w w':World}{G:Nat}{dv lv:Value}{b:Bk}(h:zo2 w G dv lv b)(hs:w.heap.size≤w'.heap.size)(hb:w'.heap[G]? =w.heap[G]?):zo2 w' G dv lv b:=by
 have hc:∀o,w'.cell? ⟨G,o,none⟩=w.cell? ⟨G,o,none⟩:=fun o=>World.cell?_of_block (a:=⟨G,o,none⟩) hb
 have hf:∀o,w'.frozen? ⟨G,o,none⟩=w.frozen? ⟨G,o,none⟩:=fun o=>World.frozen?_of_block (a:=⟨G,o,none⟩) hb
 exact⟨Nat.lt_of_lt_of_le h.lt hs,fun j hj=>by rw[hc];exact h.here j hj,fun j hj=>by rw[hc];exact h.last j hj,fun j hj=>by rw[hc];exact h.said j hj,by rw[hc];exact h.deeds,by rw[hc];exact h.list,fun o ho=>by rw[hf];exact h.free o ho⟩
theorem za3{w w':World}{base:Nat}{e:TypeId}{size n:Nat}{v:Value}{xs:List Value}(h:w.ownsRow base e size v n xs)(hb:∀k,v.ownBlock=some k→w'.heap[k]? =w.heap[k]?):w'.ownsRow base e size v n xs:=by
 refine⟨h.1,?_⟩
 rcases h.2 with hn|⟨g,cap,cur,rfl,hb',hgg,rest⟩
 ·exact .inl hn
 ·exact .inr ⟨g,cap,cur,rfl,hb',by rw[hb g rfl];exact hgg,rest⟩
theorem zbq.kept{w w':World}{base G:Nat}{S T:Nat→Prop}{dv lv:Value}{b:Bk}(h:zbq w base S G dv lv b)(hk:zak T w w')(hd:∀k,S k→¬T k):zbq w' base S G dv lv b:=by
 have hb:∀k,S k→w'.heap[k]? =w.heap[k]? :=fun k hs=>hk.block k (h.lo k hs).2 (hd k hs)
 exact⟨fun k hs=>⟨(h.lo k hs).1,Nat.lt_of_lt_of_le (h.lo k hs).2 hk.size⟩,h.hG,h.cells.kept hk.size (hb G h.hG),za3 h.ownD (fun k e=>hb k (h.dB k e).1),za3 h.ownL (fun k e=>hb k (h.lB k e).1),h.dB,h.lB⟩
theorem zbq.below{w w':World}{base G:Nat}{S:Nat→Prop}{dv lv:Value}{b:Bk}(h:zbq w base S G dv lv b)(hb:Below w.heap.size w w'):zbq w' base S G dv lv b:=
 h.kept (T:=fun _=>False) (.of_below hb) (fun _ _ e=>e)
theorem zbq.cells_of{w w':World}{base G:Nat}{S:Nat→Prop}{dv lv:Value}{b b':Bk}(h:zbq w base S G dv lv b)(hk:∀k,k≠G→w'.heap[k]? =w.heap[k]?)(hs:w.heap.size≤w'.heap.size)(hc:zo2 w' G dv lv b')(hd:b'.ds=b.ds):zbq w' base S G dv lv b':=by
 refine⟨fun k hs'=>⟨(h.lo k hs').1,Nat.lt_of_lt_of_le (h.lo k hs').2 hs⟩,h.hG,hc,?_,?_,h.dB,h.lB⟩
 ·rw[hd];exact za3 h.ownD (fun k e=>hk k (h.dB k e).2)
 ·rw[show b'.chars=b.chars by unfold Bk.chars;rw[hd]];exact za3 h.ownL (fun k e=>hk k (h.lB k e).2.1)
theorem zbq.grow{w w':World}{base G:Nat}{S:Nat→Prop}{dv lv:Value}{b:Bk}(h:zbq w' base S G dv lv b)(hb:base≤w.heap.size):zbq w' base (grow S w w') G dv lv b:=
 ⟨fun k hs=>hs.elim (h.lo k) (fun e=>⟨by omega,e.2⟩),.inl h.hG,h.cells,h.ownD,h.ownL,fun k e=>⟨.inl (h.dB k e).1,(h.dB k e).2⟩,fun k e=>⟨.inl (h.lB k e).1,(h.lB k e).2⟩⟩
structure zi0(w:World)(B:Nat)(dv:Value)(b:Bk):Prop where
 lt:B<w.heap.size
 deeds:w.cell? ⟨B,0,none⟩=some dv
 here:∀j,j<4→w.cell? ⟨B,1+j,none⟩=some (.bool (b.here j))
 last:∀j,j<4→w.cell? ⟨B,5+j,none⟩=some (.int .i64 (b.last j))
 said:∀j,j<4→w.cell? ⟨B,9+j,none⟩=some (.int .i64 (b.said j))
 free:∀o,o<13→w.frozen? ⟨B,o,none⟩=false
structure zas(w:World)(base:Nat)(S:Nat→Prop)(B:Nat)(dv:Value)(b:Bk):Prop where
 lo:∀k,S k→base≤k∧k<w.heap.size
 hB:S B
 cells:zi0 w B dv b
 ownD:zfy w base dv b.ds
 dB:∀k,dv.ownBlock=some k→S k∧k≠B
theorem zi0.kept{w w':World}{B:Nat}{dv:Value}{b:Bk}(h:zi0 w B dv b)(hs:w.heap.size≤w'.heap.size)(hb:w'.heap[B]? =w.heap[B]?):zi0 w' B dv b:=by
 have hc:∀o,w'.cell? ⟨B,o,none⟩=w.cell? ⟨B,o,none⟩:=fun o=>World.cell?_of_block (a:=⟨B,o,none⟩) hb
 have hf:∀o,w'.frozen? ⟨B,o,none⟩=w.frozen? ⟨B,o,none⟩:=fun o=>World.frozen?_of_block (a:=⟨B,o,none⟩) hb
 exact⟨Nat.lt_of_lt_of_le h.lt hs,by rw[hc];exact h.deeds,fun j hj=>by rw[hc];exact h.here j hj,fun j hj=>by rw[hc];exact h.last j hj,fun j hj=>by rw[hc];exact h.said j hj,fun o ho=>by rw[hf];exact h.free o ho⟩
theorem zas.kept{w w':World}{base B:Nat}{S T:Nat→Prop}{dv:Value}{b:Bk}(h:zas w base S B dv b)(hk:zak T w w')(hd:∀k,S k→¬T k):zas w' base S B dv b:=by
 have hb:∀k,S k→w'.heap[k]? =w.heap[k]? :=fun k hs=>hk.block k (h.lo k hs).2 (hd k hs)
 exact⟨fun k hs=>⟨(h.lo k hs).1,Nat.lt_of_lt_of_le (h.lo k hs).2 hk.size⟩,h.hB,h.cells.kept hk.size (hb B h.hB),za3 h.ownD (fun k e=>hb k (h.dB k e).1),h.dB⟩
theorem zas.below{w w':World}{base B:Nat}{S:Nat→Prop}{dv:Value}{b:Bk}(h:zas w base S B dv b)(hb:Below w.heap.size w w'):zas w' base S B dv b:=
 h.kept (T:=fun _=>False) (.of_below hb) (fun _ _ e=>e)
theorem zas.cells_of{w w':World}{base B:Nat}{S:Nat→Prop}{dv:Value}{b b':Bk}(h:zas w base S B dv b)(hk:∀k,k≠B→w'.heap[k]? =w.heap[k]?)(hs:w.heap.size≤w'.heap.size)(hc:zi0 w' B dv b')(hd:b'.ds=b.ds):zas w' base S B dv b':=by
 refine⟨fun k hs'=>⟨(h.lo k hs').1,Nat.lt_of_lt_of_le (h.lo k hs').2 hs⟩,h.hB,hc,?_,h.dB⟩
 rw[hd];exact za3 h.ownD (fun k e=>hk k (h.dB k e).2)
end Go.Proofs.YtcbnnfeelhlapadGreatDoor
namespace Go.Proofs.YtcbnnfeelhlapadGreatDoor
def zi1(x:Ch):Int×Int×Int×Int:=(x.inn,x.by_,x.no,x.k)
def zep(l:List Ch)(d:Dd):List Ch:=((l.filter (za5 d.seen d.by_)).drop d.at_.toNat).take d.many.toNat
def zvy(t:List Ch)(x:Ch):Bool:=t.any fun y=>decide (y.inn=x.inn)&&zk4 y x
theorem znu{t:List Ch}{x:Ch}:zvy t x=true↔zi1 x∈t.map zi1:=by
 rw[zvy,List.any_eq_true,List.mem_map]
 constructor
 ·rintro⟨y,hy,h⟩
  refine⟨y,hy,?_⟩
  simp[zk4]at h
  simp[zi1,h]
 ·rintro⟨y,hy,h⟩
  refine⟨y,hy,?_⟩
  simp[zi1]at h
  simp[zk4,h]
theorem hit_key{t:List Ch}{x y:Ch}(h:zi1 x=zi1 y):zvy t x=zvy t y:=by
 rw[Bool.eq_iff_iff,znu,znu,h]
theorem qgu{l:List Ch}(ha:zlr l){x y:Ch}(hx:x∈l)(hy:y∈l)(h:x.by_=y.by_∧x.no=y.no∧x.k=y.k):x=y:=by
 obtain⟨i,hi,rfl⟩:=List.getElem_of_mem hx
 obtain⟨j,hj,rfl⟩:=List.getElem_of_mem hy
 rcases Nat.lt_trichotomy i j with c|c|c
 ·exact absurd h (List.pairwise_iff_getElem.1 ha i j hi hj c)
 ·subst c;rfl
 ·exact absurd ⟨h.1.symm,h.2.1.symm,h.2.2.symm⟩ (List.pairwise_iff_getElem.1 ha j i hj hi c)
theorem hit_took{l t u:List Ch}(ha:zlr l)(hu:∀x∈u,x∈l)(h:t.map zi1=u.map zi1){x:Ch}(hx:x∈l):zvy t x=true↔x∈u:=by
 rw[znu,h,List.mem_map]
 constructor
 ·rintro⟨y,hy,e⟩
  simp only[zi1,Prod.mk.injEq]at e
  rw[←qgu ha (hu y hy) hx e.2];exact hy
 ·intro hx'
  exact⟨x,hx',rfl⟩
def tkB(d:Dd)(k:Int)(x:Ch):Prop:=za5 d.seen d.by_ x=true∧d.at_≤k∧k<d.at_+d.many
instance (d:Dd) (k:Int) (x:Ch):Decidable (tkB d k x):=inferInstanceAs (Decidable (_∧_))
def zgf(d:Dd):Int→List Ch→List Ch
 |_,[]=>[]
 |k,x::r=>if tkB d k x then x::zgf d (nx d k x) r else zgf d (nx d k x) r
theorem tk_eq(d:Dd)(n k:Int)(x:Ch):tk d n k x=if tkB d k x then zf1 d.by_ n x else x:=rfl
theorem zyk(d:Dd)(ha:0≤d.at_)(hm:0≤d.many):∀(l:List Ch) (k:Nat),zgf d k l=((l.filter (za5 d.seen d.by_)).drop (d.at_.toNat-k)).take (d.many.toNat-(k-d.at_.toNat))
 |[],k=>by simp[zgf]
 |x::r,k=>by
  have ih:=zyk d ha hm r
  rw[zgf]
  by_cases hx:za5 d.seen d.by_ x=true
  ·rw[List.filter_cons_of_pos hx]
   have e:nx d (k:Int) x=((k+1:Nat):Int):=by rw[nx,if_pos hx];omega
   rw[e,ih (k+1)]
   by_cases h1:d.at_≤k
   ·have z:d.at_.toNat-k=0:=by omega
    have z':d.at_.toNat-(k+1)=0:=by omega
    rw[z,z',List.drop_zero,List.drop_zero]
    by_cases h2:(k:Int)<d.at_+d.many
    ·rw[if_pos ⟨hx,h1,h2⟩]
     have:d.many.toNat-(k-d.at_.toNat)=d.many.toNat-(k+1-d.at_.toNat)+1:=by omega
     rw[this,List.take_succ_cons]
    ·rw[if_neg (fun h=>h2 h.2.2)]
     have h3:d.many.toNat-(k-d.at_.toNat)=0:=by omega
     have h4:d.many.toNat-(k+1-d.at_.toNat)=0:=by omega
     rw[h3,h4,List.take_zero,List.take_zero]
   ·rw[if_neg (fun h=>h1 h.2.1)]
    have h3:d.at_.toNat-k=d.at_.toNat-(k+1)+1:=by omega
    have h4:k-d.at_.toNat=k+1-d.at_.toNat:=by omega
    rw[h3,List.drop_succ_cons,h4]
  ·have e:nx d (k:Int) x=(k:Int):=by rw[nx,if_neg hx]
   rw[if_neg (fun h=>hx h.1),List.filter_cons_of_neg hx,e,ih k]
theorem zru{l:List Ch}{d:Dd}(ha:0≤d.at_)(hm:0≤d.many):zep l d=zgf d 0 l:=by
 have:=zyk d ha hm l 0
 simp only[Nat.sub_zero,Nat.zero_sub]at this
 exact this.symm
theorem zhm{d:Dd}:∀{l:List Ch} {k:Int} {x:Ch},x∈zgf d k l→x∈l
 |[],_,_,h=>h
 |y::r,k,x,h=>by
  rw[zgf]at h
  split at h
  ·rcases List.mem_cons.1 h with rfl|h
   ·exact List.mem_cons_self ..
   ·exact List.mem_cons_of_mem _ (zhm h)
  ·exact List.mem_cons_of_mem _ (zhm h)
theorem qac{l:List Ch}{d:Dd}(h:d.many=0):zep l d=[]:=by simp[zep,h]
theorem qd5{l t:List Ch}{d:Dd}(h:d.many=0)(ht:t.map zi1=(zep l d).map zi1):t=[]:=by
 rw[qac h]at ht
 simpa using ht
theorem tail_in{d:Dd}{k:Int}{x y:Ch}{r:List Ch}(h:y∈zgf d (nx d k x) r):y∈zgf d k (x::r):=by
 rw[zgf]
 split
 ·exact List.mem_cons_of_mem _ h
 ·exact h
theorem tail_out{d:Dd}{k:Int}{x y:Ch}{r:List Ch}(ha:zlr (x::r))(hy:y∈r)(h:y∈zgf d k (x::r)):y∈zgf d (nx d k x) r:=by
 rw[zgf]at h
 split at h
 ·rcases List.mem_cons.1 h with rfl|h
  ·exact absurd ⟨rfl,rfl,rfl⟩ ((List.pairwise_cons.1 ha).1 y hy)
  ·exact h
 ·exact h
theorem head_in{d:Dd}{k:Int}{x:Ch}{r:List Ch}(h:tkB d k x):x∈zgf d k (x::r):=by
 rw[zgf,if_pos h];exact List.mem_cons_self ..
theorem head_out{d:Dd}{k:Int}{x:Ch}{r:List Ch}(ha:zlr (x::r))(h:¬tkB d k x):x∉zgf d k (x::r):=by
 rw[zgf,if_neg h]
 intro hx
 exact absurd ⟨rfl,rfl,rfl⟩ ((List.pairwise_cons.1 ha).1 x (zhm hx))
theorem zyr{d:Dd}{n m:Int}{f:Ch→Ch}:∀(l:List Ch) (k:Int),zlr l→(∀x∈zgf d k l,f (zf1 d.by_ m x)=zf1 d.by_ n x)→(∀x∈l,x∉zgf d k l→f x=x)→(zc0 d m k l).map f=zc0 d n k l
 |[],_,_,_,_=>rfl
 |x::r,k,ha,h1,h2=>by
  rw[zax,zax,List.map_cons,zyr r (nx d k x) (List.pairwise_cons.1 ha).2 (fun y hy=>h1 y (tail_in hy)) (fun y hy hn=>h2 y (by simp[hy]) (fun e=>hn (tail_out ha hy e)))]
  congr 1
  rw[tk_eq,tk_eq]
  by_cases c:tkB d k x
  ·rw[if_pos c,if_pos c];exact h1 x (head_in c)
  ·rw[if_neg c,if_neg c];exact h2 x (by simp) (head_out ha c)
structure Nums(me:Int)(l:List Ch)(es:List Dd):Prop where
 ap:zlr l
 low:∀x∈l,x.by_=me→∀e∈es,x.no<e.no
 up:es.Pairwise fun a b=>a.no<b.no
 by_:∀e∈es,e.by_=me
theorem qgt{l:List Ch}{d:Dd}{n:Int}{p:Nat}(ha:zlr l)(hl:∀x∈l,x.by_=d.by_→x.no<d.no):zlr (ins p (zf4 d n) l):=by
 have hpart:=ha
 rw[zlr,←List.take_append_drop p l,List.pairwise_append]at hpart
 have hdiff:∀x∈l,∀y∈zf4 d n,¬(x.by_=y.by_∧x.no=y.no∧x.k=y.k):=by
  rintro x hx y hy ⟨h1,h2,_⟩
  have hp:=zcr hy
  have:=hl x hx (h1.trans hp.2.1)
  rw[hp.2.2.2.2]at h2
  omega
 rw[zlr,ins,List.pairwise_append,List.pairwise_append]
 refine⟨hpart.1,⟨zs9 d n 0 _,hpart.2.1,fun y hy x hx e=>hdiff x (List.mem_of_mem_drop hx) y hy ⟨e.1.symm,e.2.1.symm,e.2.2.symm⟩⟩,fun x hx y hy=> ?_⟩
 rcases List.mem_append.1 hy with hy|hy
 ·exact hdiff x (List.mem_of_mem_take hx) y hy
 ·exact hpart.2.2 x hx y hy
theorem zze{l:List Ch}{d:Dd}{n:Int}{y:Ch}(h:y∈doL l d n):y∈zf4 d n∨∃x∈l,y.by_=x.by_∧y.no=x.no∧y.k=x.k∧y.inn=x.inn∧(y=x∨(za5 d.seen d.by_ x=true∧y=zf1 d.by_ n x)):=by
 by_cases k:d.kind=1
 ·rw[zcg k]at h
  rcases zxc.1 h with h|h
  ·exact .inl h
  ·exact .inr ⟨y,h,rfl,rfl,rfl,rfl,.inl rfl⟩
 ·rw[zbo k]at h
  obtain⟨x,hx,hxy⟩:=zfp h
  refine .inr ⟨x,hx,?_⟩
  rcases hxy with rfl|⟨hs,rfl⟩
  ·exact⟨rfl,rfl,rfl,rfl,.inl rfl⟩
  ·exact⟨rfl,rfl,rfl,rfl,.inr ⟨hs,rfl⟩⟩
theorem Nums.next{me:Int}{l:List Ch}{e:Dd}{es:List Dd}(h:Nums me l (e::es))(n:Int):Nums me (doL l e n) es:=by
 have hup:=List.pairwise_cons.1 h.up
 refine⟨?_,?_,hup.2,fun x hx=>h.by_ x (by simp[hx])⟩
 ·by_cases k:e.kind=1
  ·rw[zcg k]
   exact qgt h.ap (fun x hx hb=>h.low x hx (hb.trans (h.by_ e (by simp))) e (by simp))
  ·rw[zbo k];exact zm3 h.ap
 ·intro y hy hb x hx
  rcases zze hy with hy|⟨z,hz,h1,h2,_⟩
  ·rw[(zcr hy).2.2.2.2];exact hup.1 x hx
  ·rw[h2];exact h.low z hz (h1.symm.trans hb) x (by simp[hx])
def znf:List Ch→List Dd→List (List Ch)→Prop
 |_,[],[]=>True
 |l,e::es,t::ts=>t.map zi1=(zep l e).map zi1∧znf (doL l e za0) es ts
 |_,_,_=>False
theorem ztk:∀{es:List Dd} {ts:List (List Ch)} {l:List Ch},znf l es ts→ts.length=es.length
 |[],[],_,_=>rfl
 |_::_,_::_,_,h=>by rw[List.length_cons,List.length_cons,ztk h.2]
 |[],_::_,_,h=>h.elim
 |_::_,[],_,h=>h.elim
theorem zqj:∀{es:List Dd} {ts:List (List Ch)} {l:List Ch} (e:Dd),znf l es ts→znf l (es++[e]) (ts++[zep (zai l es) e])
 |[],[],_,_,_=>⟨rfl,trivial⟩
 |_::_,_::_,_,e,h=>⟨h.1,zqj e h.2⟩
 |[],_::_,_,_,h=>h.elim
 |_::_,[],_,_,h=>h.elim
theorem qf7{a b:List Ch}(h:a.map zi1=b.map zi1)(i j:Nat):((a.drop i).take j).map zi1=((b.drop i).take j).map zi1:=by
 rw[List.map_take,List.map_drop,h,List.map_take,List.map_drop]
theorem sees_far{d:Dd}{n s v:Int}(hw:wrB d.by_=true)(hv:v≠d.by_)(hn:s<n)(l:List Ch):((doL l d n).filter (za5 s v)).map zi1=(l.filter (za5 s v)).map zi1:=by
 by_cases k:d.kind=1
 ·rw[zcg k,ins,List.filter_append,List.filter_append]
  have e:(zf4 d n).filter (za5 s v)=[]:=by
   rw[List.filter_eq_nil_iff]
   intro y hy
   rw[zle (Ne.symm hv) hn y hy];simp
  rw[e,List.nil_append,←List.filter_append,List.take_append_drop]
 ·rw[zbo k]
  have key:∀(l:List Ch) (k:Int),((zc0 d n k l).filter (za5 s v)).map zi1=(l.filter (za5 s v)).map zi1:=by
   intro l
   induction l with
   |nil=>intro k;rfl
   |cons x r ih=>
    intro k
    have hs:za5 s v (tk d n k x)=za5 s v x:=zyl hw hv (.inl hn)
    have hk:zi1 (tk d n k x)=zi1 x:=by
     obtain⟨p1,p2,_,p4,p5⟩:=zl3 d n k x
     simp only[zi1,p1,p2,p4,p5]
    rw[zax,List.filter_cons,List.filter_cons,hs]
    cases za5 s v x
    ·simpa using ih _
    ·simp[hk,ih]
  exact key l 0
theorem took_far{d e:Dd}{n:Int}(hw:wrB d.by_=true)(hv:e.by_≠d.by_)(hn:e.seen<n)(l:List Ch):(zep (doL l d n) e).map zi1=(zep l e).map zi1:=qf7 (sees_far hw hv hn l) _ _
theorem zoa{me n:Int}{d:Dd}(hne:d.by_≠me)(sd:d.seen<n)(ho:n<za0):∀(es:List Dd) (ts:List (List Ch)) (l:List Ch),ziv me l→(∀e∈es,e.by_=me∧e.seen<n)→zdy l es→Fit l d→znf l es ts→znf (doL l d n) es ts
 |[],[],_,_,_,_,_,_=>trivial
 |e::es,t::ts,l,hm,he,hk,h,ht=>by
  obtain⟨rfl,se⟩:=he e (by simp)
  have we:=zr9 hk.1
  have wd:=zr9 h
  have ed:cnt (doL l e za0) d.seen d.by_=cnt l d.seen d.by_:=qgh we hne (by omega)
  have:=zoa hne sd ho es ts (doL l e za0) (zja hm (fun _=>rfl)) (fun x hx=>he x (by simp[hx])) hk.2 ⟨h.1,by rw[ed];exact h.2⟩ ht.2
  rw[qg0 wd we hne hm sd se ho (zpb h) (zpb hk.1)]at this
  exact⟨by rw[took_far wd (Ne.symm hne) se];exact ht.1,this⟩
 |[],_::_,_,_,_,_,_,h=>h.elim
 |_::_,[],_,_,_,_,_,h=>h.elim
theorem zob{me least:Int}:∀(es:List Dd) (ts:List (List Ch)) (l:List Ch),ziv me l→(∀e∈es,e.by_=me∧least≤e.seen)→zdy l es→znf l es ts→znf (ofL least l) es ts
 |[],[],_,_,_,_,_=>trivial
 |e::es,t::ts,l,hm,he,hk,ht=>by
  obtain⟨rfl,se⟩:=he e (by simp)
  have:=zob es ts (doL l e za0) (zja hm (fun _=>rfl)) (fun x hx=>he x (by simp[hx])) hk.2 ht.2
  rw[do_of (number:=za0) se (.inl rfl) (by decide) hm (zpb hk.1)]at this
  refine⟨?_,this⟩
  rw[zep,qe4 se];exact ht.1
 |[],_::_,_,_,_,_,h=>h.elim
 |_::_,[],_,_,_,_,h=>h.elim
def ze2(no n:Int)(x:Ch):Ch:=if x.inn=za0∧x.no=no then⟨x.c,x.by_,x.no,x.k,n,x.out,x.gone⟩else x
def zk5(t:List Ch)(n:Int)(x:Ch):Ch:=if x.out=0∧zvy t x=true then⟨x.c,x.by_,x.no,x.k,x.inn,n,x.gone⟩else x
def zf6(no n:Int)(t:List Ch)(x:Ch):Ch:=zk5 t n (ze2 no n x)
theorem qgw(no n:Int)(t:List Ch)(x:Ch):(zf6 no n t x).c=x.c∧(zf6 no n t x).by_=x.by_∧(zf6 no n t x).no=x.no∧(zf6 no n t x).k=x.k∧(zf6 no n t x).gone=x.gone∧(zf6 no n t x).inn=(ze2 no n x).inn:=by
 unfold zf6 zk5 ze2
 split<;>split<;>exact⟨rfl,rfl,rfl,rfl,rfl,rfl⟩
theorem qa2(no n:Int)(t:List Ch)(b:Int)(x:Ch):zf6 no n t (zf1 b za0 x)=zf1 b za0 (zf6 no n t x):=by
 have e1:ze2 no n (zf1 b za0 x)=zf1 b za0 (ze2 no n x):=by
  unfold ze2
  show(if x.inn=za0∧x.no=no then _ else _)=_
  by_cases c:x.inn=za0∧x.no=no
  ·rw[if_pos c,if_pos c];rfl
  ·rw[if_neg c,if_neg c]
 have e2:∀y:Ch,zk5 t n (zf1 b za0 y)=zf1 b za0 (zk5 t n y):=by
  intro y
  unfold zk5
  have ho:(zf1 b za0 y).out=y.out:=ze6 _
  have hh:zvy t (zf1 b za0 y)=zvy t y:=hit_key rfl
  rw[ho,hh]
  by_cases c:y.out=0∧zvy t y=true
  ·rw[if_pos c,if_pos c]
   simp only[zf1,ze6]
  ·rw[if_neg c,if_neg c]
 rw[zf6,e1,e2];rfl
theorem ins_map{f:Ch→Ch}{p:Nat}{x l:List Ch}(h:x.map f=x):(ins p x l).map f=ins p x (l.map f):=by
 rw[ins,List.map_append,List.map_append,List.map_take,List.map_drop,h,ins]
theorem zmx{no n:Int}{t:List Ch}{e:Dd}(hn:e.seen<n):∀(l:List Ch) (k:Int),zg1 n e.by_ l (l.map (zf6 no n t))→zc0 e za0 k (l.map (zf6 no n t))=(zc0 e za0 k l).map (zf6 no n t)
 |[],_,_=>rfl
 |x::r,k,h=>by
  have hs:=h.1.sees hn
  have hx:nx e k (zf6 no n t x)=nx e k x:=by unfold nx;rw[hs]
  rw[List.map_cons,zax,zax,List.map_cons,hx,zmx hn r _ h.2]
  congr 1
  rw[tk_eq,tk_eq]
  have hc:tkB e k (zf6 no n t x)↔tkB e k x:=by unfold tkB;rw[hs]
  by_cases c:tkB e k x
  ·rw[if_pos c,if_pos (hc.2 c),qa2]
  ·rw[if_neg c,if_neg (fun h=>c (hc.1 h))]
theorem qbw{no n:Int}{t:List Ch}{e:Dd}{l:List Ch}(hn:e.seen<n)(ho:n<za0)(hm:ziv e.by_ l)(h:zg1 n e.by_ l (l.map (zf6 no n t)))(hf:∀y∈zf4 e za0,zf6 no n t y=y):
 doL (l.map (zf6 no n t)) e za0=(doL l e za0).map (zf6 no n t):=by
 by_cases ke:e.kind=1
 ·have hp:zbb (l.map (zf6 no n t)) e=zbb l e:=by
   unfold zbb
   rw[h.behind hn]
   cases za8 e.seen e.by_ e.at_.toNat l with
   |none=>rfl
   |some p=>
    show p+zbm e.by_ ((l.map (zf6 no n t)).drop p)=p+zbm e.by_ (l.drop p)
    rw[zfq (hm.drop p),zfq ((h.mine ho hm).drop p)]
  have hfix:(zf4 e za0).map (zf6 no n t)=zf4 e za0:=by
   rw[List.map_congr_left hf,List.map_id']
  rw[zcg ke,zcg ke,hp,ins_map hfix]
 ·rw[zbo ke,zbo ke]
  exact zmx hn l 0 h
theorem qel{no n:Int}{t:List Ch}(u:List Ch):(u.map (zf6 no n t)).map zi1=(u.map (ze2 no n)).map zi1:=by
 rw[List.map_map,List.map_map]
 apply List.map_congr_left
 intro x _
 obtain⟨_,a2,a3,a4,_,a6⟩:=qgw no n t x
 have e:(ze2 no n x).by_=x.by_∧(ze2 no n x).no=x.no∧(ze2 no n x).k=x.k:=by unfold ze2;split<;>exact⟨rfl,rfl,rfl⟩
 simp only[Function.comp,zi1,a2,a3,a4,a6,e.1,e.2.1,e.2.2]
theorem num_keys{no n:Int}{a b:List Ch}(h:a.map zi1=b.map zi1):(a.map (ze2 no n)).map zi1=(b.map (ze2 no n)).map zi1:=by
 have e:∀u:List Ch,(u.map (ze2 no n)).map zi1=(u.map zi1).map fun k=>(if k.1=za0∧k.2.2.1=no then n else k.1,k.2):=by
  intro u
  rw[List.map_map,List.map_map]
  apply List.map_congr_left
  intro x _
  unfold ze2 Function.comp zi1
  by_cases c:x.inn=za0∧x.no=no
  ·simp[c]
  ·simp[c]
 rw[e,e,h]
theorem took_ack{no n:Int}{t:List Ch}{e:Dd}{l:List Ch}(hn:e.seen<n)(h:zg1 n e.by_ l (l.map (zf6 no n t))):zep (l.map (zf6 no n t)) e=(zep l e).map (zf6 no n t):=by
 have key:∀l:List Ch,zg1 n e.by_ l (l.map (zf6 no n t))→(l.map (zf6 no n t)).filter (za5 e.seen e.by_)=(l.filter (za5 e.seen e.by_)).map (zf6 no n t):=by
  intro l
  induction l with
  |nil=>intro _;rfl
  |cons x r ih=>
   intro h
   rw[List.map_cons,List.filter_cons,List.filter_cons,h.1.sees hn,ih h.2]
   cases za5 e.seen e.by_ x<;>simp
 rw[zep,key l h,←List.map_drop,←List.map_take];rfl
theorem qd4{me no n:Int}{t:List Ch}(ho:n<za0):∀(es:List Dd) (ts:List (List Ch)) (l:List Ch),(∀e∈es,e.by_=me∧e.seen<n)→ziv me l→zg1 n me l (l.map (zf6 no n t))→(∀e∈es,∀y∈zf4 e za0,zf6 no n t y=y)→znf l es ts→
 zai (l.map (zf6 no n t)) es=(zai l es).map (zf6 no n t)∧znf (l.map (zf6 no n t)) es (ts.map fun u=>u.map (ze2 no n))
 |[],[],_,_,_,_,_,_=>⟨rfl,trivial⟩
 |e::es,u::ts,l,he,hm,h,hf,ht=>by
  obtain⟨rfl,se⟩:=he e (by simp)
  have hd:=qbw se ho hm h (hf e (by simp))
  have hA:=h.do_ se ho hm
  rw[hd]at hA
  obtain⟨a1,a2⟩:=qd4 ho es ts (doL l e za0) (fun x hx=>he x (by simp[hx])) (zja hm (fun _=>rfl)) hA (fun x hx=>hf x (by simp[hx])) ht.2
  refine⟨by rw[zai,zai,hd,a1],?_,by rw[hd];exact a2⟩
  show(u.map (ze2 no n)).map zi1=_
  rw[took_ack se h,qel,num_keys ht.1]
 |[],_::_,_,_,_,_,_,h=>h.elim
 |_::_,[],_,_,_,_,_,h=>h.elim
theorem many_put{d:Dd}(h:za6 d=0)(k:d.kind=1):d.many=0:=((zah h).2.2.2.2.2.2.2.2.2.2.1 k).2.2
theorem ack_one{me n:Int}{d:Dd}{es:List Dd}{t:List Ch}{l:List Ch}(_h1:1≤n)(ho:n<za0)(hN:Nums me l (d::es))(hin:∀x∈l,x.inn<n)(hout:∀x∈l,x.out<n)(hc:za6 d=0)(ht:t.map zi1=(zep l d).map zi1):
 doL l d n=(doL l d za0).map (zf6 d.no n t)∧zg1 n me (doL l d za0) ((doL l d za0).map (zf6 d.no n t))∧∀e∈es,∀y∈zf4 e za0,zf6 d.no n t y=y:=by
 have hb:d.by_=me:=hN.by_ d (by simp)
 obtain⟨_,hw,_,_,_,_,ha0,_,hm0,_⟩:=zah hc
 have hnum:∀x∈l,ze2 d.no n x=x:=fun x hx=>by
  unfold ze2
  rw[if_neg]
  intro c
  have:=hin x hx
  omega
 have hhit:∀x∈l,zvy t x=true↔x∈zgf d 0 l:=fun x hx=>by
  rw[←zru ha0 hm0]
  exact hit_took hN.ap (fun y hy=>by rw[zru ha0 hm0]at hy;exact zhm hy) ht hx
 have hfit:∀x∈l,x∉zgf d 0 l→zf6 d.no n t x=x:=fun x hx hn=>by
  rw[zf6,hnum x hx,zk5,if_neg]
  rintro⟨_,h⟩
  exact hn ((hhit x hx).1 h)
 have hmark:∀x∈l,x∈zgf d 0 l→zf6 d.no n t (zf1 d.by_ za0 x)=zf1 d.by_ n x:=fun x hx hy=>by
  rw[qa2,zf6,hnum x hx,zk5]
  have hh:=(hhit x hx).2 hy
  have:=hout x hx
  by_cases c:x.out=0
  ·have e2:zaj n x.out=n:=by rw[zaj,if_pos ⟨by omega,.inl c⟩]
   rw[if_pos ⟨c,hh⟩]
   show(⟨x.c,x.by_,x.no,x.k,x.inn,zaj za0 n,_⟩:Ch)=⟨x.c,x.by_,x.no,x.k,x.inn,zaj n x.out,_⟩
   rw[ze6,e2]
  ·have e2:zaj n x.out=x.out:=by
    rw[zaj,if_neg]
    rintro⟨_,h|h⟩
    ·exact c h
    ·omega
   rw[if_neg (fun h=>c h.1)]
   show(⟨x.c,x.by_,x.no,x.k,x.inn,zaj za0 x.out,_⟩:Ch)=⟨x.c,x.by_,x.no,x.k,x.inn,zaj n x.out,_⟩
   rw[ze6,e2]
 have hnew:∀e∈es,∀y∈zf4 e za0,zf6 d.no n t y=y:=fun e he y hy=>by
  have hp:=zcr hy
  have hno:d.no<e.no:=(List.pairwise_cons.1 hN.up).1 e he
  have e1:ze2 d.no n y=y:=by
   unfold ze2
   rw[if_neg]
   rintro⟨_,h⟩
   rw[hp.2.2.2.2]at h
   omega
  rw[zf6,e1,zk5,if_neg]
  rintro⟨_,h⟩
  rw[znu,ht,List.mem_map]at h
  obtain⟨z,hz,hk⟩:=h
  rw[zru ha0 hm0]at hz
  have hzl:=zhm hz
  simp only[zi1,Prod.mk.injEq]at hk
  have:=hin z hzl
  have h3:=hp.1
  omega
 by_cases k:d.kind=1
 ·have htn:t=[]:=qd5 (many_put hc k) ht
  have hnl:(zf4 d za0).map (zf6 d.no n t)=zf4 d n:=by
   subst htn
   have key:∀(u:List UInt8) (j:Nat),(zbc d za0 j u).map (zf6 d.no n [])=zbc d n j u:=by
    intro u
    induction u with
    |nil=>intro j;rfl
    |cons b r ih=>
     intro j
     rw[zbc,zbc,List.map_cons,ih]
     congr 1
     simp[zf6,ze2,zk5,zvy,zmc]
   exact key _ 0
  have hl:l.map (zf6 d.no n t)=l:=by
   rw[List.map_congr_left (g:=id) (fun x hx=> ?_),List.map_id]
   refine hfit x hx ?_
   rw[←hhit x hx,htn]
   simp[zvy]
  have e1:(doL l d za0).map (zf6 d.no n t)=doL l d n:=by
   rw[zcg k,zcg k,ins,List.map_append,List.map_append,hnl,List.map_take,List.map_drop,hl];rfl
  refine⟨e1.symm,?_,hnew⟩
  rw[e1,←hb]
  exact qgy hw (by omega)
 ·have e1:(doL l d za0).map (zf6 d.no n t)=doL l d n:=by
   rw[zbo k,zbo k]
   exact zyr l 0 hN.ap (fun x hx=>hmark x (zhm hx) hx) hfit
  refine⟨e1.symm,?_,hnew⟩
  rw[e1,←hb]
  exact qgy hw (by omega)
end Go.Proofs.YtcbnnfeelhlapadGreatDoor
namespace Go.Proofs.YtcbnnfeelhlapadGreatDoor
structure Rel(r:Wr)(ts:List (List Ch)):Prop where
 tk:znf r.base r.opens ts
 nums:Nums r.me r.base r.opens
 low:∀x∈r.base,x.by_=r.me→x.no<r.next
 up:∀e∈r.opens,e.no<r.next
 n1:1≤r.next
 n2:r.next≤121
theorem WI.no_open{b:Bk}{c:Int}{r:Wr}(h:WI b c r)(hg:zcm b):∀x∈r.base,1≤x.inn∧x.inn≤r.seen∧0≤x.out∧x.out≤r.seen∧0≤x.gone∧x.gone≤15:=by
 intro x hx
 rw[h.base]at hx
 have hx':=(List.mem_filter.1 hx).1
 have hm:=(zco hg r.seen h.seen).1
 have h1:=hm.inn x hx'
 have h2:=hm.out x hx'
 have h3:=hm.gone x hx'
 omega
theorem Rel.does{r:Wr}{ts:List (List Ch)}(h:Rel r ts){e:Dd}(hb:e.by_=r.me)(hn:e.no=r.next)(hc:doC r.list e za0=0):
 Rel ⟨r.me,r.seen,r.next+1,r.base,r.opens++[e],r.sent⟩ (ts++[zep r.list e]):=by
 have hno:=(zah (zc2 hc).1).2.2.2.1
 have h1:=h.n1
 refine⟨zqj e h.tk,⟨h.nums.ap,?_,?_,?_⟩,?_,?_,?_,?_⟩
 ·intro x hx hm y hy
  rcases List.mem_append.1 hy with hy|hy
  ·exact h.nums.low x hx hm y hy
  ·obtain rfl:y=e:=by simpa using hy
   rw[hn];exact h.low x hx hm
 ·refine List.pairwise_append.2 ⟨h.nums.up,List.pairwise_singleton _ _,?_⟩
  intro x hx y hy
  obtain rfl:y=e:=by simpa using hy
  rw[hn];exact h.up x hx
 ·intro y hy
  rcases List.mem_append.1 hy with hy|hy
  ·exact h.nums.by_ y hy
  ·obtain rfl:y=e:=by simpa using hy
   exact hb
 ·intro x hx hm
  have:=h.low x hx hm
  show x.no<r.next+1
  omega
 ·intro y hy
  show y.no<r.next+1
  rcases List.mem_append.1 hy with hy|hy
  ·have:=h.up y hy;omega
  ·obtain rfl:y=e:=by simpa using hy
   omega
 ·show 1≤r.next+1;omega
 ·show r.next+1≤121;omega
theorem Rel.sends{r:Wr}{ts:List (List Ch)}(h:Rel r ts)(s:Nat):Rel ⟨r.me,r.seen,r.next,r.base,r.opens,s⟩ ts:=⟨h.tk,h.nums,h.low,h.up,h.n1,h.n2⟩
theorem Rel.clears{b:Bk}{c:Int}{r:Wr}{ts:List (List Ch)}(h:Rel r ts)(hw:WI b c r)(hg:zcm b){least:Int}(hl:∀e∈r.opens,least≤e.seen):Rel ⟨r.me,r.seen,r.next,ofL least r.base,r.opens,r.sent⟩ ts:=by
 have hm:ziv r.me r.base:=by rw[hw.base];exact(zdc hg hw.seen r.me).of c
 have hs:∀x∈ofL least r.base,x∈r.base:=fun x hx=>(List.mem_filter.1 hx).1
 exact⟨zob r.opens ts r.base hm (fun e he=>⟨h.nums.by_ e he,hl e he⟩) (hw.list_eq hg).1 h.tk,⟨h.nums.ap.of least,fun x hx=>h.nums.low x (hs x hx),h.nums.up,h.nums.by_⟩,fun x hx=>h.low x (hs x hx),h.up,h.n1,h.n2⟩
theorem WI.opens_least{b:Bk}{c:Int}{w:Wr}(h:WI b c w){least:Int}(h1:least≤zao b)(h2:∀d∈b.ds.drop w.seen,least≤d.seen):∀e∈w.opens,least≤e.seen:=by
 have hsaid:=zej h.wr h.here
 have hs:=h.said
 intro e he
 obtain⟨i,hi,rfl⟩:=List.mem_iff_getElem.1 he
 by_cases hs':i<w.sent
 ·have:w.opens[i]∈w.opens.take w.sent:=by
   rw[List.mem_take_iff_getElem]
   exact⟨i,by omega,rfl⟩
  rw[←h.told]at this
  exact h2 _ (List.mem_filter.1 this).1
 ·have:=h.unsent (i:=i) (by omega) (List.getElem?_eq_getElem hi)
  omega
theorem Rel.hears_other{b:Bk}{c:Int}{r:Wr}{ts:List (List Ch)}(h:Rel r ts)(hw:WI b c r)(hg:zcm b)(hi:r.seen<b.ds.length)(hne:b.ds[r.seen].by_≠r.me):
 Rel ⟨r.me,r.seen+1,r.next,doL r.base b.ds[r.seen] ((r.seen:Int)+1),r.opens,r.sent⟩ ts:=by
 obtain⟨n1,n2⟩:=zl9 hg hi
 obtain⟨b1,b2⟩:=hw.base_next hg hi
 have hm:ziv r.me r.base:=by rw[hw.base];exact(zdc hg hw.seen r.me).of c
 have hes:∀e∈r.opens,e.by_=r.me∧e.seen<(r.seen:Int)+1:=fun e he=>⟨(hw.own e he).1,by have:=(hw.own e he).2.1;omega⟩
 have hold:∀y∈doL r.base b.ds[r.seen] ((r.seen:Int)+1),y.by_=r.me→∃x∈r.base,x.by_=r.me∧y.no=x.no:=by
  intro y hy hb
  rcases zze hy with hy|⟨x,hx,h1,h2,_⟩
  ·exact absurd ((zcr hy).2.1.symm.trans hb) hne
  ·exact⟨x,hx,h1.symm.trans hb,h2⟩
 refine⟨zoa hne n1 n2 r.opens ts r.base hm hes (hw.list_eq hg).1 (zv5 b1) h.tk,⟨?_,?_,h.nums.up,h.nums.by_⟩,?_,h.up,h.n1,h.n2⟩
 ·rw[b2]
  exact zlr.of (zco hg (r.seen+1) hi).1.one c
 ·intro y hy hb e he
  obtain⟨x,hx,h1,h2⟩:=hold y hy hb
  rw[h2];exact h.nums.low x hx h1 e he
 ·intro y hy hb
  obtain⟨x,hx,h1,h2⟩:=hold y hy hb
  show y.no<r.next
  rw[h2];exact h.low x hx h1
theorem Rel.hears_own{b:Bk}{c:Int}{r:Wr}{t:List Ch}{ts:List (List Ch)}(h:Rel r (t::ts))(hw:WI b c r)(hg:zcm b)(hi:r.seen<b.ds.length){es:List Dd}(he:r.opens=b.ds[r.seen]::es):
 Rel ⟨r.me,r.seen+1,r.next,doL r.base b.ds[r.seen] ((r.seen:Int)+1),es,r.sent-1⟩ (ts.map fun u=>u.map (ze2 b.ds[r.seen].no ((r.seen:Int)+1)))∧
 zai (doL r.base b.ds[r.seen] ((r.seen:Int)+1)) es=r.list.map (zf6 b.ds[r.seen].no ((r.seen:Int)+1) t):=by
 obtain⟨n1,n2⟩:=zl9 hg hi
 have hm:ziv r.me r.base:=by rw[hw.base];exact(zdc hg hw.seen r.me).of c
 have hes:∀e∈r.opens,e.by_=r.me∧e.seen<(r.seen:Int)+1:=fun e he=>⟨(hw.own e he).1,by have:=(hw.own e he).2.1;omega⟩
 have hno:=hw.no_open hg
 have hN:=h.nums
 have ht:=h.tk
 have hf:=(hw.list_eq hg).1
 rw[he]at hN ht hf hes
 have hck:=hf.1.1
 have hlist:r.list=zai (doL r.base b.ds[r.seen] za0) es:=by rw[Wr.list,he];rfl
 obtain⟨a1,a2,a3⟩:=ack_one (t:=t) (n:=(r.seen:Int)+1) (by omega) n2 hN (fun x hx=>by have:=hno x hx;omega) (fun x hx=>by have:=hno x hx;omega) hck ht.1
 have hm2:ziv r.me (doL r.base b.ds[r.seen] za0):=zja hm (fun _=>hN.by_ _ (by simp))
 obtain⟨c1,c2⟩:=qd4 n2 es ts _ (fun e hx=>hes e (by simp[hx])) hm2 a2 a3 ht.2
 rw[←a1]at c1 c2
 refine⟨⟨c2,hN.next _,?_,fun e hx=>h.up e (by rw[he];simp[hx]),h.n1,h.n2⟩,by rw[c1,hlist]⟩
 intro y hy hb
 show y.no<r.next
 rcases zze hy with hy|⟨x,hx,h1,h2,_⟩
 ·rw[(zcr hy).2.2.2.2];exact h.up _ (by rw[he];simp)
 ·rw[h2];exact h.low x hx (h1.symm.trans hb)
theorem Rel.comes_in{b:Bk}(hg:zcm b)(v:Int):Rel ⟨v,b.ds.length,b.last v+1,b.chars,[],0⟩ []:=by
 have hm:=zje hg
 have hl:=zb6 hg v
 have hsm:b.len≤120:=by have:=hg.small;show(b.ds.length:Int)≤120;omega
 refine⟨trivial,⟨hm.one,fun _ _ _ e he=>(by cases he),List.Pairwise.nil,fun e he=>(by cases he)⟩,?_,fun e he=>(by cases he),?_,?_⟩
 ·intro x hx hb
  have h1:=(hm.no x hx).2
  have hb':x.by_=v:=hb
  rw[hb',←hg.last]at h1
  show x.no<b.last v+1
  omega
 ·show 1≤b.last v+1;omega
 ·show b.last v+1≤121;omega
theorem zyo{me:Int}:∀(es:List Dd) {l:List Ch},(∀x∈l,0≤x.out∧0≤x.gone∧x.gone≤15)→zdy l es→∀x∈zai l es,0≤x.out∧0≤x.gone∧x.gone≤15
 |[],_,h,_=>h
 |e::es,l,h,hf=>by
  refine zyo (me:=me) es (fun y hy=> ?_) hf.2
  rcases zze hy with hy|⟨x,hx,_,_,_,_,rfl|⟨hs,rfl⟩⟩
  ·have:=zcr hy
   omega
  ·exact h y hx
  ·have hx':=h x hx
   have:=znv (zr9 hf.1) (ze5 hs) hx'.2.1 hx'.2.2
   refine⟨?_,this.1,this.2.1⟩
   show 0≤zaj za0 x.out
   rw[ze6];exact hx'.1
theorem WI.tame{b:Bk}{c:Int}{r:Wr}(h:WI b c r)(hg:zcm b):∀x∈r.list,0≤x.out∧0≤x.gone∧x.gone≤15:=
 zyo (me:=r.me) r.opens (fun x hx=>by have:=h.no_open hg x hx;omega) (h.list_eq hg).1
theorem WI.fits{b:Bk}{c:Int}{r:Wr}(h:WI b c r)(hg:zcm b):zg7 r.list:=fun x hx=>by
 have:=h.tame hg x hx
 omega
theorem WI.few{b:Bk}{c:Int}{r:Wr}{ts:List (List Ch)}(h:WI b c r)(hr:Rel r ts)(hg:zcm b):r.opens.length≤120:=by
 cases hes:r.opens with
 |nil=>simp
 |cons e es=>
  have h0:=h.no 0 e (by rw[hes];rfl)
  have hf:=(h.list_eq hg).1
  rw[hes]at hf
  have h1:=(zah hf.1.1).2.2.1
  have h2:=hr.n2
  rw[hes]at h0
  simp only[Int.natCast_zero]at h0
  omega
end Go.Proofs.YtcbnnfeelhlapadGreatDoor