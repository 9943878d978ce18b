/-
  A town by the document in memory: a book, scribes, and the town's own block; in the middle of a call, with boxes of the call's own. No walk.
-/
import Derived.Test.YtcbnnfeelhlapadGreatDoorDkWr
import Derived.Test.YtcbnnfeelhlapadGreatDoorHpRef
import Derived.Test.YtcbnnfeelhlapadGreatDoorTRel
import Derived.Test.YtcbnnfeelhlapadGreatDoorRAll
namespace Go.Proofs.YtcbnnfeelhlapadGreatDoor
set_option maxRecDepth 20000
set_option maxHeartbeats 800000
open Go.RowKit
def zz2(base:Nat)(pw:Nat→Nat)(t:Twn)(k:Nat):Th base:=match t.ws k with
 |none=>Th.no base
 |some r=>Th.sc base (pw k) r
def ztb(base D G:Nat)(pw:Nat→Nat)(t:Twn)(ex:Nat→Th base)(i:Nat):Th base:=
 if i=1 then Th.book base G t.b else if i=6 then Th.tw base D G pw (zbs t)else if i<6 then zz2 base pw t (i-2)else ex (i-7)
section
variable {base D G:Nat} {pw:Nat→Nat} {t:Twn} {ex:Nat→Th base} {w w0 wk w':World} {S:Nat→Prop}
theorem zge:ztb base D G pw t ex 1=Th.book base G t.b:=rfl
theorem zrq:ztb base D G pw t ex 6=Th.tw base D G pw (zbs t):=rfl
theorem zo6{k:Nat}(hk:k<4):ztb base D G pw t ex (2+k)=zz2 base pw t k:=by
 unfold ztb
 rw[if_neg (by omega),if_neg (by omega),if_pos (by omega),show 2+k-2=k by omega]
theorem zpz(j:Nat):ztb base D G pw t ex (7+j)=ex j:=by
 unfold ztb
 rw[if_neg (by omega),if_neg (by omega),if_neg (by omega),show 7+j-7=j by omega]
def zb8(base:Nat)(w0:World)(S:Nat→Prop)(D G:Nat)(pw:Nat→Nat)(t:Twn)(ex:Nat→Th base)(wk:World):Prop:=Hq base (ztb base D G pw t ex) w0 S wk
theorem zj0{cs:Nat→Th base}(h:Hq base cs w0 S wk)(h1:∀T,(cs 1).P wk T→(Th.book base G t.b).P wk T)(h6:∀T,(cs 6).P wk T→(Th.tw base D G pw (zbs t)).P wk T)(hw:∀k,k<4→∀T,(cs (2+k)).P wk T→(zz2 base pw t k).P wk T)(he:∀j T,(cs (7+j)).P wk T→(ex j).P wk T):zb8 base w0 S D G pw t ex wk:=by
 refine h.imp fun i hi T _ hp=> ?_
 by_cases e1:i=1
 ·subst e1;exact h1 T hp
 by_cases e6:i=6
 ·subst e6;exact h6 T hp
 by_cases e:i<6
 ·obtain⟨k,rfl⟩:∃k,i=2+k:=⟨i-2,by omega⟩
  rw[zo6 (by omega)]
  exact hw k (by omega) T hp
 ·obtain⟨k,rfl⟩:∃k,i=7+k:=⟨i-7,by omega⟩
  rw[zpz]
  exact he k T hp
theorem zb8.after(h:zb8 base w0 S D G pw t ex wk)(hb:Below wk.heap.size wk w'):zb8 base w0 S D G pw t ex w':=Hq.after h hb
theorem zb8.cells(h:zb8 base w0 S D G pw t ex wk):TwC wk D G pw (zbs t):=by
 obtain⟨T,h1,_⟩:=Hq.get h (i:=6) (by omega)
 rw[zrq]at h1
 exact h1.2
theorem zb8.book(h:zb8 base w0 S D G pw t ex wk):∃T dv,zas wk base T G dv t.b∧∀b' w',zf0 wk base T G b' w'→zb8 base w0 S D G pw ⟨b',t.ws⟩ ex w':=by
 obtain⟨T,h1,_,h3⟩:=Hq.turn h (i:=1) (by omega)
 rw[zge]at h1
 obtain⟨dv,hl⟩:=h1
 refine⟨T,dv,hl,fun b' w' ht=>zj0 (h3 (Th.book base G b') w' ht.kept ht.at_) (fun T hp=> ?_) (fun T hp=> ?_) (fun k hk T hp=> ?_) (fun j T hp=> ?_)⟩
 ·rw[zb4]at hp;exact hp
 ·rw[za2 _ _ (by omega),zrq]at hp;exact hp
 ·rw[za2 _ _ (by omega),zo6 hk]at hp;exact hp
 ·rw[za2 _ _ (by omega),zpz]at hp;exact hp
theorem zrz{b:Bk}{k:Nat}{r':Wr}:zz2 base pw ⟨b,zab t.ws k (some r')⟩ k=Th.sc base (pw k) r':=by
 unfold zz2
 show(match zab t.ws k (some r') k with|none=>_|some r=>Th.sc base (pw k) r)=_
 rw[zaf]
theorem zm5{b:Bk}{j k:Nat}{x:Option Wr}(h:j≠k):zz2 base pw ⟨b,zab t.ws k x⟩ j=zz2 base pw t j:=by
 unfold zz2
 show(match zab t.ws k x j with|none=>_|some r=>Th.sc base (pw j) r)=_
 rw[za9 _ _ (by omega)]
theorem zb8.wr(h:zb8 base w0 S D G pw t ex wk){k:Nat}(hk:k<4){r:Wr}(he:t.ws k=some r):
 ∃T bv ov,zes wk base T (pw k) bv ov r.base r.opens r.me r.seen r.next r.sent∧∀(r':Wr) w',zt7 wk base T (pw k) r'.base r'.opens r'.me r'.seen r'.next r'.sent w'→zb8 base w0 S D G pw ⟨t.b,zab t.ws k (some r')⟩ ex w':=by
 obtain⟨T,h1,_,h3⟩:=Hq.turn h (i:=2+k) (by omega)
 rw[zo6 hk]at h1
 unfold zz2 at h1
 rw[he]at h1
 obtain⟨bv,ov,hl⟩:=h1
 refine⟨T,bv,ov,hl,fun r' w' ht=>zj0 (h3 (Th.sc base (pw k) r') w' ht.kept ht.at_) (fun T hp=> ?_) (fun T hp=> ?_) (fun j hj T hp=> ?_) (fun j T hp=> ?_)⟩
 ·rw[za2 _ _ (by omega),zge]at hp;exact hp
 ·rw[za2 _ _ (by omega),zrq]at hp;rw[zst he];exact hp
 ·by_cases e:j=k
  ·subst e
   rw[zb4]at hp;rw[zrz];exact hp
  ·rw[za2 _ _ (by omega),zo6 hj]at hp;rw[zm5 e];exact hp
 ·rw[za2 _ _ (by omega),zpz]at hp;exact hp
theorem zb8.clear(h:zb8 base w0 S D G pw t ex wk){k:Nat}(hk:k<4):zb8 base w0 S D G pw ⟨t.b,zab t.ws k none⟩ ex (wk.setCell ⟨D,1+k,none⟩ (.pointer none)):=by
 obtain⟨T,h1,_,h3⟩:=Hq.turn h (i:=6) (by omega)
 rw[zrq]at h1
 refine zj0 (h3 (Th.tw base D G pw (clrH (zbs t) k)) _ (zak.set (zak.refl T wk) (p:=⟨D,1+k,none⟩) h1.1 _) ⟨.inl h1.1,h1.2.clear hk⟩) (fun T hp=> ?_) (fun T hp=> ?_) (fun j hj T hp=> ?_) (fun j T hp=> ?_)
 ·rw[za2 _ _ (by omega),zge]at hp;exact hp
 ·rw[zb4]at hp;rw[zzs];exact hp
 ·rw[za2 _ _ (by omega),zo6 hj]at hp
  by_cases e:j=k
  ·subst e
   unfold zz2
   show(match zab t.ws j none j with|none=>Th.no base|some r=>Th.sc base (pw j) r).P _ T
   rw[zaf];trivial
  ·unfold zz2 at hp⊢
   show(match zab t.ws k none j with|none=>Th.no base|some r=>Th.sc base (pw j) r).P _ T
   rw[za9 _ _ (by omega)];exact hp
 ·rw[za2 _ _ (by omega),zpz]at hp;exact hp
theorem zb8.newS(h:zb8 base w0 S D G pw t ex wk)(hb:Below wk.heap.size wk w'){k:Nat}(hk:k<4){P:Nat}{v1:Value}{r:Wr}(hr:r.opens=[])(hs:r.sent=0)(hat:zes w' wk.heap.size (fun k=>wk.heap.size≤k∧k<w'.heap.size) P v1 (.slice none 0 0) r.base [] r.me r.seen r.next 0):
 zb8 base w0 S D G (zom pw k P) ⟨t.b,zab t.ws k (some r)⟩ ex (w'.setCell ⟨D,1+k,none⟩ (.pointer (some ⟨P,0,none⟩))):=by
 have hbl:=Hq.base_le h
 have hat':∃bv ov,zes w' base (fun k=>wk.heap.size≤k∧k<w'.heap.size) P bv ov r.base r.opens r.me r.seen r.next r.sent:=by
  rw[hr,hs]
  exact⟨_,_,⟨fun k e=>⟨by have:=(hat.lo k e).1;omega,(hat.lo k e).2⟩,hat.hQ,hat.cells,hat.ownB.mono hbl,zzb _ _,hat.bB,hat.oB⟩⟩
 have h2:=Hq.lay h hb (i:=2+k) (by omega) (Th.sc base P r) hat'
 obtain⟨T,h1,_,h3⟩:=h2.turn (i:=6) (by omega)
 rw[za2 _ _ (by omega),zrq]at h1
 refine zj0 (h3 (Th.tw base D G (zom pw k P) (setH (zbs t) k)) _ (zak.set (zak.refl T w') (p:=⟨D,1+k,none⟩) h1.1 _) ⟨.inl h1.1,h1.2.put hk P⟩) (fun T hp=> ?_) (fun T hp=> ?_) (fun j hj T hp=> ?_) (fun j T hp=> ?_)
 ·rw[za2 _ _ (by omega),za2 _ _ (by omega),zge]at hp;exact hp
 ·rw[zb4]at hp;rw[zzr];exact hp
 ·by_cases e:j=k
  ·subst e
   rw[za2 _ _ (by omega),zb4]at hp
   rw[zrz]
   unfold zom
   rw[if_pos rfl]
   exact hp
  ·rw[za2 _ _ (by omega),za2 _ _ (by omega),zo6 hj]at hp
   rw[zm5 e]
   unfold zz2 at hp⊢
   cases he:t.ws j with
   |none=>trivial
   |some r0=>
    rw[he]at hp
    show(Th.sc base (zom pw k P j) r0).P _ T
    unfold zom
    rw[if_neg e]
    exact hp
 ·rw[za2 _ _ (by omega),za2 _ _ (by omega),zpz]at hp;exact hp
theorem zb8.lay(h:zb8 base w0 S D G pw t ex wk)(hb:Below wk.heap.size wk w')(j:Nat)(c:Th base)(hc:c.P w' (fun k=>wk.heap.size≤k∧k<w'.heap.size)):zb8 base w0 S D G pw t (zag ex j c) w':=by
 refine zj0 (Hq.lay h hb (i:=7+j) (by omega) c hc) (fun T hp=> ?_) (fun T hp=> ?_) (fun k hk T hp=> ?_) (fun i T hp=> ?_)
 ·rw[za2 _ _ (by omega),zge]at hp;exact hp
 ·rw[za2 _ _ (by omega),zrq]at hp;exact hp
 ·rw[za2 _ _ (by omega),zo6 hk]at hp;exact hp
 ·by_cases e:i=j
  ·subst e;rw[zb4]at hp⊢;exact hp
  ·rw[za2 _ _ (by omega),zpz]at hp;rw[za2 _ _ e];exact hp
theorem zb8.box(h:zb8 base w0 S D G pw t ex wk)(j:Nat):∃T,(ex j).P wk T:=by
 obtain⟨T,h1,_⟩:=Hq.get h (i:=7+j) (by omega)
 rw[zpz]at h1
 exact⟨T,h1⟩
theorem zb8.step(h:zb8 base w0 S D G pw t ex wk)(x:Tst)(j:Nat):zb8 base w0 S D G pw t (zag ex j (Th.st base wk.heap.size x)) (wk.alloc (zc8 x)):=
 h.lay (za1 _ _) j _ ⟨⟨Nat.le_refl _,by simp⟩,zhl wk x⟩
theorem zb8.deed(h:zb8 base w0 S D G pw t ex wk)(d:Dd)(j:Nat):zb8 base w0 S D G pw t (zag ex j (Th.dd base wk.heap.size d)) (wk.alloc (zcc d)):=
 h.lay (za1 _ _) j _ ⟨⟨Nat.le_refl _,by simp⟩,zb7 wk d,fun o ho=>by rcases zm4 ho with rfl|rfl|rfl|rfl|rfl|rfl|rfl<;>simp[go_sem]⟩
theorem zb8.deedAt{E j:Nat}{d:Dd}(h:zb8 base w0 S D G pw t (zag ex j (Th.dd base E d)) wk):zde wk E 0 d∧∀o,o<7→wk.frozen? ⟨E,o,none⟩=false:=by
 obtain⟨T,h1⟩:=h.box j
 rw[zb4]at h1
 exact h1.2
theorem zb8.stepAt{E j:Nat}{x:Tst}(h:zb8 base w0 S D G pw t (zag ex j (Th.st base E x)) wk):zrk wk E 0 x:=by
 obtain⟨T,h1⟩:=h.box j
 rw[zb4]at h1
 exact h1.2
structure zke(base D G:Nat)(pw:Nat→Nat)(t:Twn)(w:World)(S:Nat→Prop):Prop where
 lo:∀k,S k→base≤k∧k<w.heap.size
 own:∃ow,HpAt base (ztb base D G pw t (fun _=>Th.no base)) ow w∧∀k,ow k≠0→S k
def zkd(base:Nat)(w:World)(S:Nat→Prop)(D G:Nat)(pw:Nat→Nat)(t:Twn)(w':World):Prop:=zke base D G pw t w' (grow S w w')∧zak S w w'
theorem zke.start(h:zke base D G pw t w S):zb8 base w S D G pw t (fun _=>Th.no base) w:=by
 obtain⟨ow,h1,h2⟩:=h.own
 exact⟨ow,h1,fun k e=> .inl (h2 k e),zak.refl _ _⟩
theorem zke.base_le(h:zke base D G pw t w S):base≤w.heap.size:=by
 obtain⟨ow,h1,h2⟩:=h.own
 exact h1.bs
theorem zb8.bare(h:zb8 base w0 S D G pw t ex wk):zb8 base w0 S D G pw t (fun _=>Th.no base) wk:=by
 refine zj0 h (fun T hp=> ?_) (fun T hp=> ?_) (fun k hk T hp=> ?_) (fun i T hp=>trivial)
 ·rw[zge]at hp;exact hp
 ·rw[zrq]at hp;exact hp
 ·rw[zo6 hk]at hp;exact hp
theorem zb8.done(h:zb8 base w S D G pw t ex w')(hl:base≤w.heap.size∧∀k,S k→base≤k∧k<w.heap.size):zkd base w S D G pw t w':=by
 have hk:=Hq.kept h
 have hs:=hk.size
 obtain⟨ow,h1⟩:=h.bare
 refine⟨⟨fun k e=> ?_,ow,h1.at_,h1.old⟩,hk⟩
 rcases e with e|e
 ·have:=hl.2 k e;omega
 ·omega
theorem zke.held(h:zke base D G pw t w S):base≤w.heap.size∧∀k,S k→base≤k∧k<w.heap.size:=⟨h.base_le,h.lo⟩
end
def Th.tn(base D G:Nat)(pw:Nat→Nat)(t:Twn):Th base:=
 ⟨fun w S=>zke base D G pw t w S,fun {w w' S T} _ h hk hd=>by
  obtain⟨ow,h1,h2⟩:=h.own
  have hs:=hk.size
  refine⟨fun k e=>⟨(h.lo k e).1,Nat.lt_of_lt_of_le (h.lo k e).2 hs⟩,ow,⟨fun k e=>⟨(h1.lo k e).1,Nat.lt_of_lt_of_le (h1.lo k e).2 hs⟩,Nat.le_trans h1.bs hs,fun i hi=> ?_⟩,h2⟩
  exact(ztb base D G pw t (fun _=>Th.no base) i).kept (fun k e=>h1.lo k (by rw[e];exact hi)) (h1.at_ i hi) hk (fun k e=>hd k (h2 k (by rw[e];exact hi))),fun {w S T} h hT hl=>by
  obtain⟨ow,h1,h2⟩:=h.own
  exact⟨hl,ow,h1,fun k e=>hT k (h2 k e)⟩⟩
theorem zb8.call{base D G:Nat}{pw:Nat→Nat}{t:Twn}{ex:Nat→Th base}{w0 wk:World}{S:Nat→Prop}(h:zb8 base w0 S D G pw t ex wk):
 ∃T,zke base D G pw t wk T∧∀pw' t' w',zkd base wk T D G pw' t' w'→zb8 base w0 S D G pw' t' ex w':=by
 obtain⟨ow,h⟩:=h
 have hat:=h.at_
 refine⟨fun k=>ow k≠0∧ow k<7,⟨fun k e=>hat.lo k e.1,fun k=>if ow k<7 then ow k else 0,⟨fun k e=> ?_,hat.bs,fun i hi=> ?_⟩,fun k e=> ?_⟩,fun pw' t' w' ht=> ?_⟩
 ·by_cases h7:ow k<7
  ·rw[if_pos h7]at e;exact hat.lo k e
  ·rw[if_neg h7]at e;exact absurd rfl e
 ·by_cases h7:i<7
  ·have h1:(ztb base D G pw t (fun _=>Th.no base) i).P wk (fun k=>ow k=i):=by
    have h2:=hat.at_ i hi
    unfold ztb at h2⊢
    by_cases e1:i=1
    ·rw[if_pos e1]at h2⊢;exact h2
    rw[if_neg e1]at h2⊢
    by_cases e6:i=6
    ·rw[if_pos e6]at h2⊢;exact h2
    rw[if_neg e6]at h2⊢
    rw[if_pos (by omega)]at h2⊢
    exact h2
   refine(ztb base D G pw t (fun _=>Th.no base) i).mono h1 (fun k e=> ?_) (fun k e=> ?_)
   ·rw[if_pos (by omega)];exact e
   ·by_cases h7:ow k<7
    ·rw[if_pos h7]at e;exact hat.lo k (by omega)
    ·rw[if_neg h7]at e;omega
  ·obtain⟨j,rfl⟩:∃j,i=7+j:=⟨i-7,by omega⟩
   rw[zpz]
   trivial
 ·have e:(if ow k<7 then ow k else 0)≠0:=e
  by_cases h7:ow k<7
  ·rw[if_pos h7]at e;exact⟨e,h7⟩
  ·rw[if_neg h7]at e;exact absurd rfl e
 ·obtain⟨hd,hk⟩:=ht
  obtain⟨ow2,h2,h3⟩:=hd.own
  have hs:=hk.size
  have hs0:=h.kept.size
  have ap:∀k,7≤ow k→ow2 k=0:=fun k e=>by
   by_cases hz:ow2 k=0
   ·exact hz
   ·have hlt:=(hat.lo k (by omega)).2
    rcases h3 k hz with x|x
    ·omega
    ·omega
  have hlo:∀k,(if 7≤ow k then ow k else if ow2 k<7 then ow2 k else 0)≠0→base≤k∧k<w'.heap.size:=fun k e=>by
   by_cases h7:7≤ow k
   ·have:=hat.lo k (by omega);omega
   ·rw[if_neg h7]at e
    by_cases h8:ow2 k<7
    ·rw[if_pos h8]at e;exact h2.lo k e
    ·rw[if_neg h8]at e;exact absurd rfl e
  refine⟨fun k=>if 7≤ow k then ow k else if ow2 k<7 then ow2 k else 0,⟨hlo,h2.bs,fun i hi=> ?_⟩,fun k e=> ?_,h.kept.trans (hk.wider (fun k e=>h.old k e.1))⟩
  ·by_cases h7:i<7
   ·have h1:(ztb base D G pw' t' ex i).P w' (fun k=>ow2 k=i):=by
     have h4:=h2.at_ i hi
     unfold ztb at h4⊢
     by_cases e1:i=1
     ·rw[if_pos e1]at h4⊢;exact h4
     rw[if_neg e1]at h4⊢
     by_cases e6:i=6
     ·rw[if_pos e6]at h4⊢;exact h4
     rw[if_neg e6]at h4⊢
     rw[if_pos (by omega)]at h4⊢
     exact h4
    refine(ztb base D G pw' t' ex i).mono h1 (fun k e=> ?_) (fun k e=>hlo k (by rw[e];exact hi))
    have:¬7≤ow k:=fun x=>by have:=ap k x;omega
    rw[if_neg this,if_pos (by omega)];exact e
   ·obtain⟨j,rfl⟩:∃j,i=7+j:=⟨i-7,by omega⟩
    have h4:=hat.at_ (7+j) hi
    rw[zpz]at h4⊢
    have h5:=(ex j).kept (fun k e=>hat.lo k (by omega)) h4 hk (fun k e x=>by omega)
    refine(ex j).mono h5 (fun k e=> ?_) (fun k e=>hlo k (by omega))
    rw[if_pos (by omega)];exact e
  ·by_cases h7:7≤ow k
   ·rcases h.old k (by omega)with x|x
    ·exact .inl x
    ·exact .inr ⟨x.1,by omega⟩
   ·rw[if_neg h7]at e
    have hz:ow2 k≠0:=fun x=>by rw[x]at e;exact e rfl
    rcases h3 k hz with x|x
    ·rcases h.old k x.1 with y|y
     ·exact .inl y
     ·exact .inr ⟨y.1,by omega⟩
    ·exact .inr ⟨by omega,x.2⟩
section
variable {base D G:Nat} {pw:Nat→Nat} {t:Twn} {ex:Nat→Th base} {w w0 wk w':World} {S:Nat→Prop}
theorem zb8.ne(h:zb8 base w0 S D G pw t ex wk):D≠G:=by
 obtain⟨ow,h⟩:=h
 have h1:=h.at_.at_ 1 (by omega)
 have h6:=h.at_.at_ 6 (by omega)
 rw[zge]at h1
 rw[zrq]at h6
 obtain⟨dv,hb⟩:=h1
 have e1:ow G=1:=hb.hB
 have e6:ow D=6:=h6.1
 intro e
 rw[e,e1]at e6
 omega
theorem zb8.stepAt1{E F:Nat}{x:Tst}{d:Dd}(h:zb8 base w0 S D G pw t (zag (zag ex 0 (Th.st base E x)) 1 (Th.dd base F d)) wk):zrk wk E 0 x:=by
 obtain⟨T,h1⟩:=h.box 0
 rw[za2 _ _ (by omega),zb4]at h1
 exact h1.2
def zqd(base:Nat)(w0:World)(S:Nat→Prop)(D G:Nat)(pw:Nat→Nat)(t:Twn)(ex:Nat→Th base)(ow:Nat→Nat)(dv:Value)(wk:World):Prop:=HqAt base (ztb base D G pw t ex) w0 S ow wk∧zas wk base (fun k=>ow k=1) G dv t.b
theorem zb8.owned(h:zb8 base w0 S D G pw t ex wk):∃ow dv,zqd base w0 S D G pw t ex ow dv wk:=by
 obtain⟨ow,h⟩:=h
 have h1:=h.at_.at_ 1 (by omega)
 rw[zge]at h1
 obtain⟨dv,hb⟩:=h1
 exact⟨ow,dv,h,hb⟩
theorem zqd.tn{ow:Nat→Nat}{dv:Value}(h:zqd base w0 S D G pw t ex ow dv wk):zb8 base w0 S D G pw t ex wk:=⟨ow,h.1⟩
theorem zqd.after{ow:Nat→Nat}{dv:Value}(h:zqd base w0 S D G pw t ex ow dv wk)(hb:Below wk.heap.size wk w'):zqd base w0 S D G pw t ex ow dv w':=by
 have hs:=hb.size
 have h0:=h.1
 refine⟨⟨⟨fun k e=>⟨(h0.at_.lo k e).1,Nat.lt_of_lt_of_le (h0.at_.lo k e).2 hs⟩,Nat.le_trans h0.at_.bs hs,fun i hi=> ?_⟩,fun k e=> ?_,h0.kept.after hb⟩,h.2.below hb⟩
 ·exact(ztb base D G pw t ex i).kept (fun k e=>h0.at_.lo k (by rw[e];exact hi)) (h0.at_.at_ i hi) (zak.of_below (S:=fun _=>False) hb) (fun _ _ e=>e)
 ·rcases h0.old k e with x|x
  ·exact .inl x
  ·exact .inr ⟨x.1,by omega⟩
theorem zqd.wr{ow:Nat→Nat}{dv:Value}(h:zqd base w0 S D G pw t ex ow dv wk){k:Nat}(hk:k<4){r:Wr}(he:t.ws k=some r):
 ∃bv ov,zes wk base (fun j=>ow j=2+k) (pw k) bv ov r.base r.opens r.me r.seen r.next r.sent∧∀(r':Wr) w',zt7 wk base (fun j=>ow j=2+k) (pw k) r'.base r'.opens r'.me r'.seen r'.next r'.sent w'→zb8 base w0 S D G pw ⟨t.b,zab t.ws k (some r')⟩ ex w'∧zas w' base (fun j=>ow j=1) G dv t.b:=by
 have h1:=h.1.at_.at_ (2+k) (by omega)
 rw[zo6 hk]at h1
 unfold zz2 at h1
 rw[he]at h1
 obtain⟨bv,ov,hl⟩:=h1
 refine⟨bv,ov,hl,fun r' w' ht=>⟨?_,h.2.kept ht.kept (fun j e1 e2=>by omega)⟩⟩
 have h2:HqAt base (zag (ztb base D G pw t ex) (2+k) (Th.sc base (pw k) r')) w0 S (zsf ow (2+k) wk w') w':=by
  have hs:=ht.kept.size
  have hs0:=h.1.kept.size
  refine⟨h.1.at_.turn (by omega) ht.kept ht.at_,fun j e=> ?_,h.1.kept.trans (ht.kept.wider (fun j e=>h.1.old j (by rw[e];omega)))⟩
  unfold zsf at e
  by_cases h1:j<wk.heap.size
  ·rw[if_pos h1]at e
   rcases h.1.old j e with x|x
   ·exact .inl x
   ·exact .inr ⟨x.1,by omega⟩
  ·rw[if_neg h1]at e
   by_cases h2:j<w'.heap.size
   ·exact .inr ⟨by omega,h2⟩
   ·rw[if_neg h2]at e;exact absurd rfl e
 refine zj0 ⟨_,h2⟩ (fun T hp=> ?_) (fun T hp=> ?_) (fun j hj T hp=> ?_) (fun j T hp=> ?_)
 ·rw[za2 _ _ (by omega),zge]at hp;exact hp
 ·rw[za2 _ _ (by omega),zrq]at hp;rw[zst he];exact hp
 ·by_cases e:j=k
  ·subst e
   rw[zb4]at hp;rw[zrz];exact hp
  ·rw[za2 _ _ (by omega),zo6 hj]at hp;rw[zm5 e];exact hp
 ·rw[za2 _ _ (by omega),zpz]at hp;exact hp
end
theorem ScC.setSeen{w:World}{Q:Nat}{bv ov:Value}{me seen next sent:Int}(h:ScC w Q bv ov me seen next sent)(x:Int):ScC (w.setCell ⟨Q,1,none⟩ (.int .i64 x)) Q bv ov me x next sent:=by
 obtain⟨hlt,c0,c1,c2,c3,c4,c5,hf⟩:=h
 refine⟨by simpa using hlt,?_,?_,?_,?_,?_,?_,fun o ho=>by simpa [go_sem]using hf o ho⟩
 ·simp[go_sem,c0]
 ·simp[go_sem,c1]
 ·simp[go_sem,c2]
 ·simp[go_sem,c3]
 ·simp[go_sem,c4]
 ·simp[go_sem,c5]
theorem ScC.setNext{w:World}{Q:Nat}{bv ov:Value}{me seen next sent:Int}(h:ScC w Q bv ov me seen next sent)(x:Int):ScC (w.setCell ⟨Q,2,none⟩ (.int .i64 x)) Q bv ov me seen x sent:=by
 obtain⟨hlt,c0,c1,c2,c3,c4,c5,hf⟩:=h
 refine⟨by simpa using hlt,?_,?_,?_,?_,?_,?_,fun o ho=>by simpa [go_sem]using hf o ho⟩
 ·simp[go_sem,c0]
 ·simp[go_sem,c1]
 ·simp[go_sem,c2]
 ·simp[go_sem,c3]
 ·simp[go_sem,c4]
 ·simp[go_sem,c5]
theorem ScC.setBase{w:World}{Q:Nat}{bv ov:Value}{me seen next sent:Int}(h:ScC w Q bv ov me seen next sent)(x:Value):ScC (w.setCell ⟨Q,3,none⟩ x) Q x ov me seen next sent:=by
 obtain⟨hlt,c0,c1,c2,c3,c4,c5,hf⟩:=h
 refine⟨by simpa using hlt,?_,?_,?_,?_,?_,?_,fun o ho=>by simpa [go_sem]using hf o ho⟩
 ·simp[go_sem,c0]
 ·simp[go_sem,c1]
 ·simp[go_sem,c2]
 ·simp[go_sem,c3]
 ·simp[go_sem,c4]
 ·simp[go_sem,c5]
theorem ScC.setOpens{w:World}{Q:Nat}{bv ov:Value}{me seen next sent:Int}(h:ScC w Q bv ov me seen next sent)(x:Value):ScC (w.setCell ⟨Q,4,none⟩ x) Q bv x me seen next sent:=by
 obtain⟨hlt,c0,c1,c2,c3,c4,c5,hf⟩:=h
 refine⟨by simpa using hlt,?_,?_,?_,?_,?_,?_,fun o ho=>by simpa [go_sem]using hf o ho⟩
 ·simp[go_sem,c0]
 ·simp[go_sem,c1]
 ·simp[go_sem,c2]
 ·simp[go_sem,c3]
 ·simp[go_sem,c4]
 ·simp[go_sem,c5]
theorem ScC.setSent{w:World}{Q:Nat}{bv ov:Value}{me seen next sent:Int}(h:ScC w Q bv ov me seen next sent)(x:Int):ScC (w.setCell ⟨Q,5,none⟩ (.int .i64 x)) Q bv ov me seen next x:=by
 obtain⟨hlt,c0,c1,c2,c3,c4,c5,hf⟩:=h
 refine⟨by simpa using hlt,?_,?_,?_,?_,?_,?_,fun o ho=>by simpa [go_sem]using hf o ho⟩
 ·simp[go_sem,c0]
 ·simp[go_sem,c1]
 ·simp[go_sem,c2]
 ·simp[go_sem,c3]
 ·simp[go_sem,c4]
 ·simp[go_sem,c5]
theorem zes.wrote{w:World}{base Q:Nat}{S:Nat→Prop}{bv ov:Value}{l:List Ch}{es:List Dd}{me seen next sent:Int}(h:zes w base S Q bv ov l es me seen next sent){me' seen' next' sent':Int}{o:Nat}{u:Value}(hc:ScC (w.setCell ⟨Q,o,none⟩ u) Q bv ov me' seen' next' sent'):zes (w.setCell ⟨Q,o,none⟩ u) base S Q bv ov l es me' seen' next' sent':=by
 have hne:∀k,k≠Q→(w.setCell ⟨Q,o,none⟩ u).heap[k]? =w.heap[k]? :=fun k e=>Below.heap_setCell _ _ _ _ e
 have hsz:(w.setCell ⟨Q,o,none⟩ u).heap.size=w.heap.size:=by simp[World.setCell]
 exact⟨fun k hs=>by rw[hsz];exact h.lo k hs,h.hQ,hc,za3 h.ownB (fun k e=>hne k (h.bB k e).2),za3 h.ownO (fun k e=>hne k (h.oB k e).2.1),h.bB,h.oB⟩
theorem zes.rebase{w:World}{base Q:Nat}{S:Nat→Prop}{bv ov:Value}{l:List Ch}{es:List Dd}{me seen next sent:Int}(h:zes w base S Q bv ov l es me seen next sent){w1:World}{bv':Value}{l':List Ch}(hb:Below w.heap.size w w1)(ho:Own w1 w.heap.size bv' l'):zes (w1.setCell ⟨Q,3,none⟩ bv') base (grow S w w1) Q bv' ov l' es me seen next sent:=by
 have h1:=h.below hb
 have hQ:=(h.lo Q h.hQ).2
 have hsz:(w1.setCell ⟨Q,3,none⟩ bv').heap.size=w1.heap.size:=by simp[World.setCell]
 have hne:∀k,k≠Q→(w1.setCell ⟨Q,3,none⟩ bv').heap[k]? =w1.heap[k]? :=fun k e=>Below.heap_setCell _ _ _ _ e
 have hnew:∀k,bv'.ownBlock=some k→w.heap.size≤k∧k<w1.heap.size:=fun k e=>World.ownsRow.lt ho k e
 refine⟨fun k hs=>by rw[hsz];exact zkq h.base_le hb.size h.lo k hs,.inl h.hQ,h1.cells.setBase _,za3 (ho.mono h.base_le) (fun k e=>hne k (by have:=hnew k e;omega)),za3 h1.ownO (fun k e=>hne k (h1.oB k e).2.1),fun k e=>⟨.inr (hnew k e),by have:=hnew k e;omega⟩,fun k e=>⟨.inl (h.oB k e).1,(h.oB k e).2.1,fun e'=> ?_⟩⟩
 have:=hnew k e';have:=(h.lo k (h.oB k e).1).2;omega
theorem zt7.of{w w':World}{base Q:Nat}{S:Nat→Prop}{bv ov:Value}{l:List Ch}{es:List Dd}{me seen next sent:Int}(hat:zes w' base (grow S w w') Q bv ov l es me seen next sent)(hk:zak S w w'):zt7 w base S Q l es me seen next sent w':=⟨⟨bv,ov,hat⟩,hk⟩
theorem qau{w:World}{v:Value}{l:List Ch}(h:Lst w v l)(hl:l.length≤1000):
 Calls Tryz.prog 143 #[v] w fun e w'=>∃v',e= .returned v'∧Own w' w.heap.size v' l∧Below w.heap.size w w':=by
 have HL:Hid (Lst w v l):=h
 obtain⟨a,cap,rfl,_⟩:=h.len
 clear h
 go_enter Tryz.func143,Tryz.ntmps143
 go_wp2_with (at_builtin;refine zbe _ rfl (.tmp 4) (.tmp 5) rfl w.heap.size (v:= .slice none 0 0) (u:= .slice a l.length cap) (a:=[]) rfl rfl (zd7 _ _) HL.out ?c0 (Nat.le_refl _) ?_)
 case c0=>simp;omega
 intro v' w' ho hg
 have HO:Hid (Own w' w.heap.size v' l):=ho
 have HB:Hid (Below w.heap.size w w'):=(Below.refl _ w).grown hg (Nat.le_refl _) (by intro k hk;cases hk)
 clear ho hg
 go_wp2
 go_ret
 exact⟨_,rfl,HO.out,HB.out⟩
abbrev scObj(me seen next:Int)(bv:Value):Obj:= .cells #[.int .i64 me,.int .i64 seen,.int .i64 next,bv,.slice none 0 0,.int .i64 0] 95
theorem scAt_new{w w1:World}{v1:Value}{l:List Ch}(ho:Own w1 w.heap.size v1 l)(hb:Below w.heap.size w w1)(me seen next:Int):
 zes (w1.alloc (scObj me seen next v1)) w.heap.size (fun k=>w.heap.size≤k∧k<w1.heap.size+1) w1.heap.size v1 (.slice none 0 0) l [] me seen next 0:=by
 have hs:=hb.size
 refine⟨fun k hk=>by simpa using hk,⟨hs,by omega⟩,⟨by simp,?_,?_,?_,?_,?_,?_,fun o ho'=> ?_⟩,ho.below (za1 _ _),zzb _ _,fun k e=> ?_,fun k e=>(by cases e)⟩
 ·simp[go_sem]
 ·simp[go_sem]
 ·simp[go_sem]
 ·simp[go_sem]
 ·simp[go_sem]
 ·simp[go_sem]
 ·rcases(show o=0∨o=1∨o=2∨o=3∨o=4∨o=5 by omega)with rfl|rfl|rfl|rfl|rfl|rfl<;>simp[go_sem]
 ·have:=World.ownsRow.lt ho k e
  exact⟨⟨this.1,by omega⟩,by omega⟩
theorem new_sc{w:World}{v:Value}{l:List Ch}(h:Lst w v l)(hl:l.length≤1000)(me next seen:Int):
 Calls Tryz.prog 93 #[.int .i64 me,.int .i64 next,.int .i64 seen,v] w fun e w'=>∃Q v1,e= .returned (.pointer (some ⟨Q,0,none⟩))∧zes w' w.heap.size (fun k=>w.heap.size≤k∧k<w'.heap.size) Q v1 (.slice none 0 0) l [] me seen next 0∧Below w.heap.size w w':=by
 have HL:Hid (Lst w v l):=h
 obtain⟨a,cap,rfl,_⟩:=h.len
 clear h
 go_enter Tryz.func93,Tryz.ntmps93
 go_wp2_with fail
 refine(qau HL.out hl).mono ?_
 rintro e w3 ⟨v3,rfl,ho3,hb3⟩
 have HB3:Hid (Below w.heap.size w w3):=hb3
 have HP:Hid (zes (w3.alloc (scObj me seen next v3)) w.heap.size (fun k=>w.heap.size≤k∧k<w3.heap.size+1) w3.heap.size v3 (.slice none 0 0) l [] me seen next 0):=scAt_new ho3 hb3 me seen next
 obtain⟨va,vc,rfl,_⟩:=ho3.lst.len
 clear ho3 hb3
 go_wp2
 go_ret
 exact⟨w3.heap.size,_,rfl,by simpa using HP.out,HB3.out.trans ((za1 _ _).mono HB3.out.size)⟩
theorem qb0{l:List Ch}{es:List Dd}{k:Nat}(h:k<es.length):zai l (es.take (k+1))=doL (zai l (es.take k)) es[k] za0:=by
 rw[List.take_succ_eq_append_getElem h,zjs]
theorem zfy.nth{w:World}{base:Nat}{v:Value}{es:List Dd}(h:zfy w base v es){k:Nat}(hk:k<es.length):∃b cap,v= .slice (some ⟨b,0,none⟩) es.length cap∧zde w b (k*7) es[k]:=by
 obtain⟨h1,h2⟩:=h
 rcases h2 with⟨rfl,hn⟩|⟨g,cap,cur,rfl,hb,hg,hnc,hr⟩
 ·omega
 ·have h':zfy w base (.slice (some ⟨g,0,none⟩) es.length cap) es:=⟨h1,.inr ⟨g,cap,cur,rfl,hb,hg,hnc,hr⟩⟩
  have hlt:=(Array.getElem?_eq_some_iff.1 hg).1
  have key:∀r,r<7→w.cell? ⟨g,k*7+r,none⟩=(zfd es[k])[r]? :=fun r hr=>by
   rw[World.ownsRow.cellAt h' (k*7+r) (by omega),zjy es k r hk hr]
  exact⟨g,cap,rfl,⟨hlt,key 0 (by omega),key 1 (by omega),key 2 (by omega),key 3 (by omega),key 4 (by omega),key 5 (by omega),key 6 (by omega)⟩⟩
theorem znz{w:World}{base Q:Nat}{S:Nat→Prop}{bv ov:Value}{l:List Ch}{es:List Dd}{me seen next sent:Int}(h:zes w base S Q bv ov l es me seen next sent)(hes:es.length≤1000)(ht:zvt l es):
 Calls Tryz.prog 59 #[.pointer (some ⟨Q,0,none⟩)] w fun e w'=>∃v',e= .returned v'∧Lst w' v' (zai l es)∧Below w.heap.size w w':=by
 have HA:Hid (zes w base S Q bv ov l es me seen next sent):=h
 have HT:Hid (zvt l es):=ht
 have c3:=h.cells.base
 have hlt:=h.cells.lt
 obtain⟨oa,ocap,rfl⟩:=zfy.len h.ownO
 have HL0:Hid (Lst w bv (zai l (es.take 0))):=h.ownB.lst
 obtain⟨ba,bc,hbv,_⟩:=h.ownB.lst.len
 subst hbv
 generalize l.length=ll at*
 clear h ht
 go_enter Tryz.func59,Tryz.ntmps59
 go_wp2
 clear c3
 go_loopw [3,4] (fun u i wr=>∃k:Nat,k≤es.length∧i= .int .i64 k∧Hid (Below w.heap.size w wr)∧Hid (Lst wr u (zai l (es.take k)))) (fun _ i _=>es.length-(intOf i).toNat)
 case atStart=>exact⟨0,Nat.zero_le _,rfl,Below.refl _ _,HL0⟩
 case round=>
  obtain⟨k,hk,rfl,HB,HK⟩:=hrel
  clear HL0
  have hA:=HA.out.below HB.out
  have c4:=hA.cells.opens
  have hltr:=hA.cells.lt
  obtain⟨ua,uc,hu,_⟩:=HK.out.len
  subst hu
  have HU:Hid (∃n,(zai l (es.take k)).length=n):=⟨_,rfl⟩
  obtain⟨ul,hul⟩:=HU.out
  rw[hul]at HK⊢
  clear HU hul
  by_cases hk2:k<es.length
  ·obtain⟨b,cap,hov,hdd⟩:=hA.ownO.nth hk2
   simp only[Value.slice.injEq]at hov
   obtain⟨rfl,-, rfl⟩:=hov
   obtain⟨hbl,g0,g1,g2,g3,g4,g5,g6⟩:=hdd
   have HOK:Hid (doC (zai l (es.take k)) es[k] za0=0):=HT.out.ok k hk2
   have HSU:Hid (zai l (es.take (k+1))=doL (zai l (es.take k)) es[k] za0):=qb0 hk2
   have HTM:Hid _:=HT.out.tame k hk
   have HDO:Hid (∀d,d=es[k]→Calls Tryz.prog 103 #[.slice ua ul uc,ddV d,.int .i64 1073741824] wr fun e w'=>∃v',e= .returned (.tuple #[v',.int .i64 (doC (zai l (es.take k)) d za0)])∧Own w' wr.heap.size v' (doR (zai l (es.take k)) d za0)∧Below wr.heap.size wr w'):=fun d _=>zm8 _ d _ wr HK.out HTM.out.2 HTM.out.1
   generalize hd:es[k]=d at*
   have HDD:Hid (d=d):=rfl
   obtain⟨kind,by_,no,dseen,at_,many,text⟩:=d
   simp only at g0 g1 g2 g3 g4 g5 g6
   clear hA hd HTM
   go_wp2_with fail
   refine(HDO.out _ rfl).mono ?_
   rintro e w2 ⟨v2,rfl,ho2,hb2⟩
   rw[HOK.out]
   have HO2:Hid (Lst w2 v2 (zai l (es.take (k+1)))):=by
    show Lst _ _ _
    rw[HSU.out]
    have:=ho2.lst
    rw[doR,if_pos HOK.out]at this
    exact this
   have HB2:Hid (Below w.heap.size w w2):=bla HB.out hb2
   clear ho2 hb2 HDO HOK HSU g0 g1 g2 g3 g4 g5 g6 c4 HB HK
   go_wp2
   go_roundw
   case rel=>exact⟨k+1,by omega,by go_num,HB2,HO2⟩
   case measure=>simp[intOf];omega
  ·obtain rfl:k=es.length:=by omega
   have HE:Hid (zai l (es.take es.length)=zai l es):=by show _=_;rw[List.take_length]
   clear hA
   go_wp2
   go_ret
   exact⟨_,rfl,by rw[←HE.out];exact HK.out,HB.out⟩
theorem least_sc{w:World}{base Q:Nat}{S:Nat→Prop}{bv ov:Value}{l:List Ch}{es:List Dd}{me seen next:Int}{sent:Nat}(h:zes w base S Q bv ov l es me seen next sent):
 Calls Tryz.prog 100 #[.pointer (some ⟨Q,0,none⟩)] w fun e w'=>e= .returned (.int .i64 (zh5 es sent seen))∧Below w.heap.size w w':=by
 have c2:=h.cells.seen
 have c4:=h.cells.opens
 have c5:=h.cells.sent
 have hlt:=h.cells.lt
 by_cases hs:sent<es.length
 ·have HE:Hid (zh5 es sent seen=es[sent].seen):=by show zh5 es sent seen=_;rw[zh5,List.getElem?_eq_getElem hs]
  obtain⟨g,cap,rfl,⟨hg,_,_,_,g3,_,_,_⟩⟩:=h.ownO.nth hs
  generalize es[sent].seen=s at*
  have hs':(sent:Int)<(es.length:Int):=by omega
  clear h
  go_enter Tryz.func100,Tryz.ntmps100
  go_wp2
  go_quiet (fail)
  go_wp2
  go_quiet (fail)
  go_wp2
  go_ret
  exact⟨zad HE.out.symm,below_drewN (below_drewN (Below.refl _ _) _) _⟩
 ·have HE:Hid (zh5 es sent seen=seen):=by show zh5 es sent seen=_;rw[zh5,List.getElem?_eq_none (by omega)]
  obtain⟨a,cap,rfl⟩:=zfy.len h.ownO
  have hs':¬(sent:Int)<(es.length:Int):=by omega
  clear h
  go_enter Tryz.func100,Tryz.ntmps100
  go_wp2
  go_quiet (fail)
  go_wp2
  go_ret
  exact⟨zad HE.out.symm,below_drewN (Below.refl _ _) _⟩
theorem text_sc{w:World}{base Q:Nat}{S:Nat→Prop}{bv ov:Value}{l:List Ch}{es:List Dd}{me seen next sent:Int}(h:zes w base S Q bv ov l es me seen next sent)(hes:es.length≤1000)(ht:zvt l es):
 Calls Tryz.prog 37 #[.pointer (some ⟨Q,0,none⟩)] w fun e w'=>e= .returned (.string (strOfNums (vw (zai l es) seen me)))∧Below w.heap.size w w':=by
 have HA:Hid (zes w base S Q bv ov l es me seen next sent):=h
 have HC:Hid (∀wk,Below w.heap.size w wk→Calls Tryz.prog 59 #[.pointer (some ⟨Q,0,none⟩)] wk fun e w'=>∃v',e= .returned v'∧Lst w' v' (zai l es)∧Below wk.heap.size wk w'):=fun wk hb=>znz (h.below hb) hes ht
 have hte:zgs (zai l es)∧(zai l es).length≤1000:=by have:=ht.tame es.length (Nat.le_refl _);rw[List.take_length]at this;exact this
 have HV:Hid (∀wk v,Lst wk v (zai l es)→Calls Tryz.prog 58 #[v,.int .i64 seen,.int .i64 me] wk fun e w'=>e= .returned (.string (strOfNums (vw (zai l es) seen me)))∧Below wk.heap.size wk w'):=fun wk v hv=>zki hv hte.2 hte.1 seen me
 have hlt:=h.cells.lt
 generalize strOfNums (vw (zai l es) seen me)=T at*
 clear h hte ht
 go_enter Tryz.func37,Tryz.ntmps37
 go_wp2
 refine wrs (fun wk=>Below w.heap.size w wk) (fun i=>i==1||i==10) (fun wk=>Below w.heap.size w wk) (by kernel_rfl) (by kernel_rfl) (by kernel_rfl) (fun _ h=>h) ((Below.refl _ _).drew) ?_
 refine wss rfl (fun K hK=> ?_)
 go_simp
 refine⟨_,fun _ _=>rfl,hK _ ?_⟩
 clear hK K
 refine wsp rfl rfl (fun u=>∃a n c,u= .slice a n c) (fun u wk=>Below w.heap.size w wk∧Lst wk u (zai l es)) ⟨_,none,0,0,rfl⟩ (fun _ _ h=>h.1) (fun wk hwk=> ?_) (fun v1 hv1=> ?_)
 ·go_simp
  refine(HC.out wk hwk).mono ?_
  rintro e w6 ⟨u,rfl,hs,hb⟩
  obtain⟨ta,tc,hu,_⟩:=hs.len
  exact⟨u,rfl,⟨_,_,_,hu⟩,bla hwk hb,hs⟩
 obtain⟨va,vn,vc,rfl⟩:=hv1
 refine wss rfl (fun K hK=> ?_)
 go_simp
 refine⟨_,fun _ _=>rfl,hK _ ?_⟩
 clear hK K
 refine wss rfl (fun K hK=> ?_)
 go_simp
 refine⟨_,fun _ _=>rfl,hK _ ?_⟩
 clear hK K
 refine wss rfl (fun K hK=> ?_)
 go_simp
 refine⟨_,fun _ _=>rfl,hK _ ?_⟩
 clear hK K
 refine wss rfl (fun K hK=> ?_)
 go_simp
 refine⟨.int .i64 seen,fun wk hwk=> ?_,hK _ ?_⟩
 ·have c:=(HA.out.below hwk).cells.seen
  go_simp
 clear hK K
 refine wss rfl (fun K hK=> ?_)
 go_simp
 refine⟨_,fun _ _=>rfl,hK _ ?_⟩
 clear hK K
 refine wss rfl (fun K hK=> ?_)
 go_simp
 refine⟨_,fun _ _=>rfl,hK _ ?_⟩
 clear hK K
 refine wss rfl (fun K hK=> ?_)
 go_simp
 refine⟨_,fun _ _=>rfl,hK _ ?_⟩
 clear hK K
 refine wss rfl (fun K hK=> ?_)
 go_simp
 refine⟨.int .i64 me,fun wk hwk=> ?_,hK _ ?_⟩
 ·have c:=(HA.out.below hwk).cells.me
  go_simp
 clear hK K
 refine wsp rfl rfl (fun u=>u= .string T) (fun u wk=>Below w.heap.size w wk) ⟨_,rfl⟩ (fun _ _ h=>h) (fun wk hwk=> ?_) (fun v10 hv10=> ?_)
 ·go_simp
  refine(HV.out wk _ hwk.2).mono ?_
  rintro e w6 ⟨rfl,hb⟩
  exact⟨_,rfl,rfl,bla hwk.1 hb⟩
 subst hv10
 refine wss rfl (fun K hK=> ?_)
 go_simp
 refine⟨_,fun _ _=>rfl,hK _ ?_⟩
 clear hK K
 refine wsn (fun w9 hw9=> ?_)
 have H9:Hid _:=hw9
 clear hw9
 go_wp2
 go_ret
 exact⟨rfl,H9.out⟩
theorem zuh(least:Int)(l:List Ch){k:Nat}(h:k<l.length):ofL least (l.take (k+1))=ofL least (l.take k)++if ze7 least l[k]=true then []else [l[k]]:=zsa least l k h
theorem zy1{w:World}{v:Value}{l:List Ch}(least:Int)(h:Lst w v l)(hl:l.length≤1000)(ht:zgs l):
 Calls Tryz.prog 146 #[v,.int .i64 least] w fun e w'=>∃v',e= .returned v'∧Own w' w.heap.size v' (ofL least l)∧Below w.heap.size w w':=by
 have HL:Hid (Lst w v l):=h
 have HT:Hid (zgs l):=ht
 obtain⟨a,cap,rfl,_⟩:=h.len
 clear h ht
 generalize hn:l.length=n at*
 have HN:Hid (l.length=n):=hn
 clear hn
 go_enter Tryz.func146,Tryz.ntmps146
 go_wp2
 go_loopw [5,6] (fun u i wr=>∃k:Nat,k≤n∧i= .int .i64 k∧Hid (Below w.heap.size w wr)∧Hid (Own wr w.heap.size u (ofL least (l.take k)))) (fun _ i _=>n-(intOf i).toNat)
 case atStart=>exact⟨0,Nat.zero_le _,rfl,Below.refl _ _,zd7 _ _⟩
 case round=>
  obtain⟨k,hk,rfl,HB,HO⟩:=hrel
  obtain⟨ua,uc,hu,_⟩:=HO.out.lst.len
  subst hu
  have HZ:Hid ((ofL least (l.take k)).length≤1000):=by
   have h1:=zzc least (l.take k)
   have h2:(l.take k).length≤k:=List.length_take_le _ _
   show _≤_
   omega
  have HU:Hid (∃m,(ofL least (l.take k)).length=m):=⟨_,rfl⟩
  obtain⟨ul,hul⟩:=HU.out
  rw[hul]at HO⊢
  clear HU hul
  by_cases hlt:k<n
  ·have hkl:k<l.length:=by rw[HN.out];exact hlt
   obtain⟨b,off,rfl,_,hr⟩:=(HL.out.below HB.out).row (by omega)
   obtain⟨g0,g1,g2,g3,g4,g5,g6⟩:=hr.at_ k hkl
   have ht0:=(zjo HT.out k hkl).1
   have HS:Hid (_=_):=zuh least l hkl
   generalize l[k]=x at*
   obtain⟨xc,xb,xn,xk,xi,xo,xg⟩:=x
   simp only at g0 g1 g2 g3 g4 g5 g6 ht0
   have hsz:=HB.out.size
   clear hr
   by_cases ho0:xo=0
   ·have HS2:Hid (ofL least (l.take (k+1))=ofL least (l.take k)++[⟨xc,xb,xn,xk,xi,xo,xg⟩]):=by show _=_;rw[HS.out,if_neg (by simp[ze7,ho0])]
    have ho':(xo==0)=true:=by simp[ho0]
    clear ho0 HS
    go_wp2_with (at_builtin;refine zbe _ rfl (.tmp 36) (.tmp 41) rfl w.heap.size (v:= .slice ua ul uc) (u:= .slice (some ⟨_,0,none⟩) 1 1) (b:=[⟨xc,xb,xn,xk,xi,xo,xg⟩]) rfl rfl (HO.out.below ((Below.refl _ _).alloc (Nat.le_refl _) _)) (lst_one' _ ⟨xc,xb,xn,xk,xi,xo,xg⟩ (by simp)) ?ca ?cb ?_)
    case ca=>have:=HZ.out;first|omega|(simp;omega)
    case cb=>first|omega|(simp;omega)
    intro v8 w8 ho hg
    have HO8:Hid (Own w8 w.heap.size v8 (ofL least (l.take (k+1)))):=by show Own _ _ _ _;rw[HS2.out];exact ho
    have HB8:Hid (Below w.heap.size w w8):=(HB.out.trans ((za1 _ _).mono hsz)).grown hg (by simp;omega) (fun k' hk'=>(World.ownsRow.lt HO.out k' hk').1)
    clear ho hg g0 g1 g2 g3 g4 g5 g6
    go_wp2
    go_roundw
    case rel=>exact⟨k+1,by omega,by go_num,HB8,HO8⟩
    case measure=>simp[intOf];omega
   ·have ho':(xo==0)=false:=by simp[ho0]
    by_cases hle:xo≤least
    ·have HS2:Hid (ofL least (l.take (k+1))=ofL least (l.take k)):=by show _=_;rw[HS.out,if_pos (by simp[ze7,ho0,hle])];simp
     have hg':¬least<xo:=by omega
     have hn0:¬xo<0:=by omega
     clear HS ho0
     go_wp2
     go_roundw
     case rel=>exact⟨k+1,by omega,by go_num,HB,by rw[HS2.out];exact HO⟩
     case measure=>simp[intOf];omega
    ·have HS2:Hid (ofL least (l.take (k+1))=ofL least (l.take k)++[⟨xc,xb,xn,xk,xi,xo,xg⟩]):=by show _=_;rw[HS.out,if_neg (by simp[ze7];omega)]
     have hg':least<xo:=by omega
     clear HS ho0
     go_wp2_with (at_builtin;refine zbe _ rfl (.tmp 36) (.tmp 41) rfl w.heap.size (v:= .slice ua ul uc) (u:= .slice (some ⟨_,0,none⟩) 1 1) (b:=[⟨xc,xb,xn,xk,xi,xo,xg⟩]) rfl rfl (HO.out.below ((Below.refl _ _).alloc (Nat.le_refl _) _)) (lst_one' _ ⟨xc,xb,xn,xk,xi,xo,xg⟩ (by simp)) ?ca ?cb ?_)
     case ca=>have:=HZ.out;first|omega|(simp;omega)
     case cb=>first|omega|(simp;omega)
     intro v8 w8 ho hg
     have HO8:Hid (Own w8 w.heap.size v8 (ofL least (l.take (k+1)))):=by show Own _ _ _ _;rw[HS2.out];exact ho
     have HB8:Hid (Below w.heap.size w w8):=(HB.out.trans ((za1 _ _).mono hsz)).grown hg (by simp;omega) (fun k' hk'=>(World.ownsRow.lt HO.out k' hk').1)
     clear ho hg g0 g1 g2 g3 g4 g5 g6
     go_wp2
     go_roundw
     case rel=>exact⟨k+1,by omega,by go_num,HB8,HO8⟩
     case measure=>simp[intOf];omega
  ·obtain rfl:k=n:=by omega
   have HE:Hid (ofL least (l.take k)=ofL least l):=by show _=_;rw[←HN.out,List.take_length]
   go_wp2
   go_ret
   exact⟨_,rfl,by rw[←HE.out];exact HO.out,HB.out⟩
theorem clear_sc{w:World}{base Q:Nat}{S:Nat→Prop}{bv ov:Value}{l:List Ch}{es:List Dd}{me seen next sent:Int}(h:zes w base S Q bv ov l es me seen next sent)(hl:l.length≤1000)(ht:zgs l)(least:Int):
 Calls Tryz.prog 101 #[.pointer (some ⟨Q,0,none⟩),.int .i64 least] w fun e w'=>e= .returned (.tuple #[])∧zt7 w base S Q (ofL least l) es me seen next sent w':=by
 have HA:Hid (zes w base S Q bv ov l es me seen next sent):=h
 have HL:Hid (Lst w bv l):=h.ownB.lst
 have HT:Hid (zgs l):=ht
 have c3:=h.cells.base
 have hlt:=h.cells.lt
 obtain⟨la,lcap,hbv,_⟩:=h.ownB.lst.len
 subst hbv
 clear h ht
 go_enter Tryz.func101,Tryz.ntmps101
 go_wp2_with fail
 refine(zy1 least HL.out hl HT.out).mono ?_
 rintro e w1 ⟨v1,rfl,ho,hb⟩
 obtain⟨va,vcap,rfl,_⟩:=ho.lst.len
 have hc9:=(HA.out.below hb).cells
 have hP9:=hc9.lt
 have e3:=hc9.base
 have f3:=hc9.free 3 (by omega)
 have HR:Hid (zt7 w base S Q (ofL least l) es me seen next sent (w1.setCell ⟨Q,3,none⟩ (.slice va (ofL least l).length vcap))):=zt7.of (by rw[zh8];exact HA.out.rebase hb ho) ((zak.of_below hb).set (p:=⟨Q,3,none⟩) HA.out.hQ _)
 clear ho hb hc9
 go_wp2
 go_end0
 exact⟨rfl,HR.out⟩
end Go.Proofs.YtcbnnfeelhlapadGreatDoor