/-
  Desks in memory: a log, writers, and the desks' own block; in the middle of a call, with boxes of the call's own. No walk.
-/
import Derived.Test.YtcbnnfeelhlapadGreatDoorTRel
import Derived.Test.YtcbnnfeelhlapadGreatDoorSGrow
namespace Go.Proofs.YtcbnnfeelhlapadGreatDoor
open Go.RowKit
theorem zbj{t:Twn}{tk:Int→List (List Ch)}(h:TR t tk){v:Int}{r:Wr}(he:t.ws v=some r):WOk r (tk v):=by
 obtain⟨_,c,hw⟩:=h.ti.wi v r he
 have hr:=h.rel v r he
 have hg:=h.ti.good
 have h1:=hw.small hg
 exact⟨hw.full,hw.fits hg,hw.few hr hg,hr.n1,hr.n2,hw.topOk hg,(hw.ok hg).2,qdi hw hg,hr.took_len hw.full (hw.list_eq hg).1,by omega,ztk hr.tk⟩
structure TwC(w:World)(T B:Nat)(sc:Nat→Nat)(hs:Nat→Bool):Prop where
 lt:T<w.heap.size
 book:w.cell? ⟨T,0,none⟩=some (.pointer (some ⟨B,0,none⟩))
 ws:∀k,k<4→w.cell? ⟨T,1+k,none⟩=some (zbu (hs k) (sc k))
 free:∀o,o<5→w.frozen? ⟨T,o,none⟩=false
theorem TwC.kept{w w':World}{T B:Nat}{sc:Nat→Nat}{hs:Nat→Bool}(h:TwC w T B sc hs)(hz:w.heap.size≤w'.heap.size)(hb:w'.heap[T]? =w.heap[T]?):TwC w' T B sc hs:=by
 have hc:∀o,w'.cell? ⟨T,o,none⟩=w.cell? ⟨T,o,none⟩:=fun o=>World.cell?_of_block (a:=⟨T,o,none⟩) hb
 have hf:∀o,w'.frozen? ⟨T,o,none⟩=w.frozen? ⟨T,o,none⟩:=fun o=>World.frozen?_of_block (a:=⟨T,o,none⟩) hb
 exact⟨Nat.lt_of_lt_of_le h.lt hz,by rw[hc];exact h.book,fun k hk=>by rw[hc];exact h.ws k hk,fun o ho=>by rw[hf];exact h.free o ho⟩
theorem TwC.put{w:World}{T B:Nat}{sc:Nat→Nat}{hs:Nat→Bool}(h:TwC w T B sc hs){k:Nat}(hk:k<4)(Q:Nat):TwC (w.setCell ⟨T,1+k,none⟩ (.pointer (some ⟨Q,0,none⟩))) T B (zom sc k Q) (setH hs k):=by
 have hl:=h.book
 refine⟨by simpa using h.lt,?_,fun j hj=> ?_,fun o ho=> ?_⟩
 ·simp[go_sem,hl]
 ·have h1:=h.ws j hj
  by_cases e:j=k
  ·subst e
   simp[go_sem,h1,zom,setH,zbu]
  ·simp[go_sem,h1,zom,setH,e]
 ·simpa [go_sem]using h.free o ho
def clrH(f:Nat→Bool)(k:Nat):Nat→Bool:=fun j=>if j=k then false else f j
theorem TwC.clear{w:World}{T B:Nat}{sc:Nat→Nat}{hs:Nat→Bool}(h:TwC w T B sc hs){k:Nat}(hk:k<4):TwC (w.setCell ⟨T,1+k,none⟩ (.pointer none)) T B sc (clrH hs k):=by
 have hl:=h.book
 refine⟨by simpa using h.lt,?_,fun j hj=> ?_,fun o ho=> ?_⟩
 ·simp[go_sem,hl]
 ·have h1:=h.ws j hj
  by_cases e:j=k
  ·subst e
   simp[go_sem,h1,clrH,zbu]
  ·simp[go_sem,h1,clrH,e]
 ·simpa [go_sem]using h.free o ho
def Th.tw(base T B:Nat)(sc:Nat→Nat)(hs:Nat→Bool):Th base:=Th.blk base T (fun w=>TwC w T B sc hs) (fun _ _ hz hb h=>h.kept hz hb)
structure zrk(w:World)(B o:Nat)(x:Tst):Prop where
 lt:B<w.heap.size
 c0:w.cell? ⟨B,o,none⟩=some (.int .i64 x.kind)
 c1:w.cell? ⟨B,o+1,none⟩=some (.int .i64 x.w)
 c2:w.cell? ⟨B,o+2,none⟩=some (.int .i64 x.at_)
 c3:w.cell? ⟨B,o+3,none⟩=some (.int .i64 x.many)
 c4:w.cell? ⟨B,o+4,none⟩=some (.string x.text)
abbrev qcx(x:Tst):Array Value:= #[.int .i64 x.kind,.int .i64 x.w,.int .i64 x.at_,.int .i64 x.many,.string x.text]
abbrev tsV(x:Tst):Value:= .agg (qcx x)
abbrev zc8(x:Tst):Obj:= .cells (qcx x) 74
theorem zhl(w:World)(x:Tst):zrk (w.alloc (zc8 x)) w.heap.size 0 x:=by
 refine⟨by simp,?_,?_,?_,?_,?_⟩<;>simp[go_sem]
theorem zrk.of_block{w w':World}{B o:Nat}{x:Tst}(h:zrk w B o x)(hs:B<w'.heap.size)(hb:w'.heap[B]? =w.heap[B]?):zrk w' B o x:=by
 have hc:∀o,w'.cell? ⟨B,o,none⟩=w.cell? ⟨B,o,none⟩:=fun o=>World.cell?_of_block (a:=⟨B,o,none⟩) hb
 exact⟨hs,by rw[hc];exact h.c0,by rw[hc];exact h.c1,by rw[hc];exact h.c2,by rw[hc];exact h.c3,by rw[hc];exact h.c4⟩
theorem zrk.below{w w':World}{B o:Nat}{x:Tst}(h:zrk w B o x)(hb:Below w.heap.size w w'):zrk w' B o x:=h.of_block (Nat.lt_of_lt_of_le h.lt hb.size) (hb.block _ h.lt)
def Th.st(base B:Nat)(x:Tst):Th base:=Th.blk base B (fun w=>zrk w B 0 x) (fun _ _ hz hb h=>h.of_block (Nat.lt_of_lt_of_le h.lt hz) hb)
def Th.dd(base B:Nat)(d:Dd):Th base:=Th.blk base B (fun w=>zde w B 0 d∧∀o,o<7→w.frozen? ⟨B,o,none⟩=false) (fun _ _ hz hb h=>⟨h.1.of_block (Nat.lt_of_lt_of_le h.1.lt hz) hb,fun o ho=>by rw[World.frozen?_of_block (a:=⟨B,o,none⟩) hb];exact h.2 o ho⟩)
def zpy:Twn:=⟨Bk.empty,fun _=>none⟩
def zbs(t:Twn):Nat→Bool:=fun k=>(t.ws k).isSome
def qca(base:Nat)(pw:Nat→Nat)(t:Twn)(tk:Int→List (List Ch))(k:Nat):Th base:=match t.ws k with
 |none=>Th.no base
 |some r=>Th.pw base (pw k) r (tk k)
def zvz(base D G:Nat)(pw:Nat→Nat)(t:Twn)(tk:Int→List (List Ch))(ex:Nat→Th base)(i:Nat):Th base:=
 if i=1 then Th.log base G t.b else if i=6 then Th.tw base D G pw (zbs t)else if i<6 then qca base pw t tk (i-2)else ex (i-7)
section
variable {base D G:Nat} {pw:Nat→Nat} {t:Twn} {tk:Int→List (List Ch)} {ex:Nat→Th base} {w w0 wk w':World} {S:Nat→Prop}
theorem zn7:zvz base D G pw t tk ex 1=Th.log base G t.b:=rfl
theorem zsz:zvz base D G pw t tk ex 6=Th.tw base D G pw (zbs t):=rfl
theorem zqb{k:Nat}(hk:k<4):zvz base D G pw t tk ex (2+k)=qca base pw t tk k:=by
 unfold zvz
 rw[if_neg (by omega),if_neg (by omega),if_pos (by omega),show 2+k-2=k by omega]
theorem zni(j:Nat):zvz base D G pw t tk ex (7+j)=ex j:=by
 unfold zvz
 rw[if_neg (by omega),if_neg (by omega),if_neg (by omega),show 7+j-7=j by omega]
def zap(base:Nat)(w0:World)(S:Nat→Prop)(D G:Nat)(pw:Nat→Nat)(t:Twn)(tk:Int→List (List Ch))(ex:Nat→Th base)(wk:World):Prop:=Hq base (zvz base D G pw t tk ex) w0 S wk
theorem zie{cs:Nat→Th base}(h:Hq base cs w0 S wk)(h1:∀T,(cs 1).P wk T→(Th.log base G t.b).P wk T)(h6:∀T,(cs 6).P wk T→(Th.tw base D G pw (zbs t)).P wk T)(hw:∀k,k<4→∀T,(cs (2+k)).P wk T→(qca base pw t tk k).P wk T)(he:∀j T,(cs (7+j)).P wk T→(ex j).P wk T):zap base w0 S D G pw t tk ex wk:=by
 refine h.imp fun i hi T _ hp=> ?_
 by_cases e1:i=1
 ·subst e1;exact h1 T hp
 by_cases e6:i=6
 ·subst e6;exact h6 T hp
 by_cases e:i<6
 ·obtain⟨k,rfl⟩:∃k,i=2+k:=⟨i-2,by omega⟩
  rw[zqb (by omega)]
  exact hw k (by omega) T hp
 ·obtain⟨k,rfl⟩:∃k,i=7+k:=⟨i-7,by omega⟩
  rw[zni]
  exact he k T hp
theorem zap.after(h:zap base w0 S D G pw t tk ex wk)(hb:Below wk.heap.size wk w'):zap base w0 S D G pw t tk ex w':=Hq.after h hb
theorem zap.cells(h:zap base w0 S D G pw t tk ex wk):TwC wk D G pw (zbs t):=by
 obtain⟨T,h1,_⟩:=Hq.get h (i:=6) (by omega)
 rw[zsz]at h1
 exact h1.2
theorem zap.log(h:zap base w0 S D G pw t tk ex wk):∃T dv lv,zbq wk base T G dv lv t.b∧∀b' w',zk6 wk base T G b' w'→zap base w0 S D G pw ⟨b',t.ws⟩ tk ex w':=by
 obtain⟨T,h1,_,h3⟩:=Hq.turn h (i:=1) (by omega)
 rw[zn7]at h1
 obtain⟨dv,lv,hl⟩:=h1
 refine⟨T,dv,lv,hl,fun b' w' ht=>zie (h3 (Th.log base G b') w' ht.kept ht.at_) (fun T hp=> ?_) (fun T hp=> ?_) (fun k hk T hp=> ?_) (fun j T hp=> ?_)⟩
 ·rw[zb4]at hp;exact hp
 ·rw[za2 _ _ (by omega),zsz]at hp;exact hp
 ·rw[za2 _ _ (by omega),zqb hk]at hp;exact hp
 ·rw[za2 _ _ (by omega),zni]at hp;exact hp
theorem zst{t:Twn}{b:Bk}{k:Nat}{r r':Wr}(he:t.ws k=some r):zbs ⟨b,zab t.ws k (some r')⟩=zbs t:=by
 funext j
 unfold zbs
 show(zab t.ws k (some r') j).isSome=(t.ws j).isSome
 by_cases e:(j:Int)=k
 ·rw[e,zaf,he];rfl
 ·rw[za9 _ _ e]
theorem zzr(t:Twn)(b:Bk)(k:Nat)(r':Wr):zbs ⟨b,zab t.ws k (some r')⟩=setH (zbs t) k:=by
 funext j
 unfold zbs setH
 show(zab t.ws k (some r') j).isSome=_
 by_cases e:j=k
 ·subst e;rw[zaf,if_pos rfl];rfl
 ·rw[za9 _ _ (by omega),if_neg e]
theorem zzs(t:Twn)(b:Bk)(k:Nat):zbs ⟨b,zab t.ws k none⟩=clrH (zbs t) k:=by
 funext j
 unfold zbs clrH
 show(zab t.ws k none j).isSome=_
 by_cases e:j=k
 ·subst e;rw[zaf,if_pos rfl];rfl
 ·rw[za9 _ _ (by omega),if_neg e]
theorem zyd{b:Bk}{k:Nat}{r':Wr}{ts':List (List Ch)}:qca base pw ⟨b,zab t.ws k (some r')⟩ (zab tk k ts') k=Th.pw base (pw k) r' ts':=by
 unfold qca
 show(match zab t.ws k (some r') k with|none=>_|some r=>Th.pw base (pw k) r (zab tk k ts' k))=_
 rw[zaf,zaf]
theorem zqg{b:Bk}{j k:Nat}{x:Option Wr}{ts':List (List Ch)}(h:j≠k):qca base pw ⟨b,zab t.ws k x⟩ (zab tk k ts') j=qca base pw t tk j:=by
 unfold qca
 show(match zab t.ws k x j with|none=>_|some r=>Th.pw base (pw j) r (zab tk k ts' j))=_
 rw[za9 _ _ (by omega),za9 _ _ (by omega)]
theorem zap.wr(h:zap base w0 S D G pw t tk ex wk){k:Nat}(hk:k<4){r:Wr}(he:t.ws k=some r):
 ∃T lv ov tvs,zcn wk base T (pw k) lv ov tvs r.list r.opens (tk k) r.me r.next r.seen r.sent∧∀(r':Wr) (ts':List (List Ch)) w',znj wk base T (pw k) r'.list r'.opens ts' r'.me r'.next r'.seen r'.sent w'→zap base w0 S D G pw ⟨t.b,zab t.ws k (some r')⟩ (zab tk k ts') ex w':=by
 obtain⟨T,h1,_,h3⟩:=Hq.turn h (i:=2+k) (by omega)
 rw[zqb hk]at h1
 unfold qca at h1
 rw[he]at h1
 obtain⟨lv,ov,tvs,hl⟩:=h1
 refine⟨T,lv,ov,tvs,hl,fun r' ts' w' ht=>zie (h3 (Th.pw base (pw k) r' ts') w' ht.kept ht.at_) (fun T hp=> ?_) (fun T hp=> ?_) (fun j hj T hp=> ?_) (fun j T hp=> ?_)⟩
 ·rw[za2 _ _ (by omega),zn7]at hp;exact hp
 ·rw[za2 _ _ (by omega),zsz]at hp;rw[zst he];exact hp
 ·by_cases e:j=k
  ·subst e
   rw[zb4]at hp;rw[zyd];exact hp
  ·rw[za2 _ _ (by omega),zqb hj]at hp;rw[zqg e];exact hp
 ·rw[za2 _ _ (by omega),zni]at hp;exact hp
theorem zap.clear(h:zap base w0 S D G pw t tk ex wk){k:Nat}(hk:k<4):zap base w0 S D G pw ⟨t.b,zab t.ws k none⟩ tk ex (wk.setCell ⟨D,1+k,none⟩ (.pointer none)):=by
 obtain⟨T,h1,_,h3⟩:=Hq.turn h (i:=6) (by omega)
 rw[zsz]at h1
 refine zie (h3 (Th.tw base D G pw (clrH (zbs t) k)) _ (zak.set (zak.refl T wk) (p:=⟨D,1+k,none⟩) h1.1 _) ⟨.inl h1.1,h1.2.clear hk⟩) (fun T hp=> ?_) (fun T hp=> ?_) (fun j hj T hp=> ?_) (fun j T hp=> ?_)
 ·rw[za2 _ _ (by omega),zn7]at hp;exact hp
 ·rw[zb4]at hp;rw[zzs];exact hp
 ·rw[za2 _ _ (by omega),zqb hj]at hp
  by_cases e:j=k
  ·subst e
   unfold qca
   show(match zab t.ws j none j with|none=>Th.no base|some r=>Th.pw base (pw j) r (tk j)).P _ T
   rw[zaf];trivial
  ·unfold qca at hp⊢
   show(match zab t.ws k none j with|none=>Th.no base|some r=>Th.pw base (pw j) r (tk j)).P _ T
   rw[za9 _ _ (by omega)];exact hp
 ·rw[za2 _ _ (by omega),zni]at hp;exact hp
theorem zap.newW(h:zap base w0 S D G pw t tk ex wk)(hb:Below wk.heap.size wk w'){k:Nat}(hk:k<4){P:Nat}{v1:Value}{r:Wr}(hr:r.opens=[])(hs:r.sent=0)(hat:zcn w' wk.heap.size (fun k=>wk.heap.size≤k∧k<w'.heap.size) P v1 (.slice none 0 0) [] r.base [] [] r.me r.next r.seen 0):
 zap base w0 S D G (zom pw k P) ⟨t.b,zab t.ws k (some r)⟩ (zab tk k []) ex (w'.setCell ⟨D,1+k,none⟩ (.pointer (some ⟨P,0,none⟩))):=by
 have hrl:r.list=r.base:=by unfold Wr.list;rw[hr];rfl
 have hat':∃lv ov tvs,zcn w' base (fun k=>wk.heap.size≤k∧k<w'.heap.size) P lv ov tvs r.list r.opens [] r.me r.next r.seen r.sent:=by
  rw[hrl,hr,hs]
  exact⟨_,_,_,hat.lower rfl rfl (Hq.base_le h)⟩
 have h2:=Hq.lay h hb (i:=2+k) (by omega) (Th.pw base P r []) hat'
 obtain⟨T,h1,_,h3⟩:=h2.turn (i:=6) (by omega)
 rw[za2 _ _ (by omega),zsz]at h1
 refine zie (h3 (Th.tw base D G (zom pw k P) (setH (zbs t) k)) _ (zak.set (zak.refl T w') (p:=⟨D,1+k,none⟩) h1.1 _) ⟨.inl h1.1,h1.2.put hk P⟩) (fun T hp=> ?_) (fun T hp=> ?_) (fun j hj T hp=> ?_) (fun j T hp=> ?_)
 ·rw[za2 _ _ (by omega),za2 _ _ (by omega),zn7]at hp;exact hp
 ·rw[zb4]at hp;rw[zzr];exact hp
 ·by_cases e:j=k
  ·subst e
   rw[za2 _ _ (by omega),zb4]at hp
   rw[zyd]
   unfold zom
   rw[if_pos rfl]
   exact hp
  ·rw[za2 _ _ (by omega),za2 _ _ (by omega),zqb hj]at hp
   rw[zqg e]
   unfold qca at hp⊢
   cases he:t.ws j with
   |none=>trivial
   |some r0=>
    rw[he]at hp
    show(Th.pw base (zom pw k P j) r0 (tk j)).P _ T
    unfold zom
    rw[if_neg e]
    exact hp
 ·rw[za2 _ _ (by omega),za2 _ _ (by omega),zni]at hp;exact hp
theorem zap.lay(h:zap base w0 S D G pw t tk ex wk)(hb:Below wk.heap.size wk w')(j:Nat)(c:Th base)(hc:c.P w' (fun k=>wk.heap.size≤k∧k<w'.heap.size)):zap base w0 S D G pw t tk (zag ex j c) w':=by
 refine zie (Hq.lay h hb (i:=7+j) (by omega) c hc) (fun T hp=> ?_) (fun T hp=> ?_) (fun k hk T hp=> ?_) (fun i T hp=> ?_)
 ·rw[za2 _ _ (by omega),zn7]at hp;exact hp
 ·rw[za2 _ _ (by omega),zsz]at hp;exact hp
 ·rw[za2 _ _ (by omega),zqb hk]at hp;exact hp
 ·by_cases e:i=j
  ·subst e;rw[zb4]at hp⊢;exact hp
  ·rw[za2 _ _ (by omega),zni]at hp;rw[za2 _ _ e];exact hp
theorem zap.box(h:zap base w0 S D G pw t tk ex wk)(j:Nat):∃T,(ex j).P wk T:=by
 obtain⟨T,h1,_⟩:=Hq.get h (i:=7+j) (by omega)
 rw[zni]at h1
 exact⟨T,h1⟩
theorem zap.boxed(h:zap base w0 S D G pw t tk ex wk)(j:Nat):∃T,(ex j).P wk T∧(∀k,T k→base≤k∧k<wk.heap.size)∧∀(c:Th base) (w':World),zak T wk w'→c.P w' (grow T wk w')→zap base w0 S D G pw t tk (zag ex j c) w':=by
 obtain⟨T,h1,h2,h3⟩:=Hq.turn h (i:=7+j) (by omega)
 rw[zni]at h1
 refine⟨T,h1,h2,fun c w' hk hc=>zie (h3 c w' hk hc) (fun T hp=> ?_) (fun T hp=> ?_) (fun k hk T hp=> ?_) (fun i T hp=> ?_)⟩
 ·rw[za2 _ _ (by omega),zn7]at hp;exact hp
 ·rw[za2 _ _ (by omega),zsz]at hp;exact hp
 ·rw[za2 _ _ (by omega),zqb hk]at hp;exact hp
 ·by_cases e:i=j
  ·subst e;rw[zb4]at hp⊢;exact hp
  ·rw[za2 _ _ (by omega),zni]at hp;rw[za2 _ _ e];exact hp
theorem zap.step(h:zap base w0 S D G pw t tk ex wk)(x:Tst)(j:Nat):zap base w0 S D G pw t tk (zag ex j (Th.st base wk.heap.size x)) (wk.alloc (zc8 x)):=
 h.lay (za1 _ _) j _ ⟨⟨Nat.le_refl _,by simp⟩,zhl wk x⟩
theorem zap.deed(h:zap base w0 S D G pw t tk ex wk)(d:Dd)(j:Nat):zap base w0 S D G pw t tk (zag ex j (Th.dd base wk.heap.size d)) (wk.alloc (zcc d)):=
 h.lay (za1 _ _) j _ ⟨⟨Nat.le_refl _,by simp⟩,zb7 wk d,fun o ho=>by rcases zm4 ho with rfl|rfl|rfl|rfl|rfl|rfl|rfl<;>simp[go_sem]⟩
theorem zap.other(h:zap base w0 S D G pw t tk ex wk){ex':Nat→Th base}(he:∀j T,(ex j).P wk T→(ex' j).P wk T):zap base w0 S D G pw t tk ex' wk:=by
 refine zie h (fun T hp=> ?_) (fun T hp=> ?_) (fun k hk T hp=> ?_) (fun i T hp=> ?_)
 ·rw[zn7]at hp;exact hp
 ·rw[zsz]at hp;exact hp
 ·rw[zqb hk]at hp;exact hp
 ·rw[zni]at hp;exact he i T hp
theorem zap.deedAt{E j:Nat}{d:Dd}(h:zap base w0 S D G pw t tk (zag ex j (Th.dd base E d)) wk):zde wk E 0 d∧∀o,o<7→wk.frozen? ⟨E,o,none⟩=false:=by
 obtain⟨T,h1⟩:=h.box j
 rw[zb4]at h1
 exact h1.2
theorem zap.stepAt{E j:Nat}{x:Tst}(h:zap base w0 S D G pw t tk (zag ex j (Th.st base E x)) wk):zrk wk E 0 x:=by
 obtain⟨T,h1⟩:=h.box j
 rw[zb4]at h1
 exact h1.2
theorem zap.store{E j:Nat}{d0:Dd}(h:zap base w0 S D G pw t tk (zag ex j (Th.dd base E d0)) wk)(d:Dd):zap base w0 S D G pw t tk (zag ex j (Th.dd base E d)) (((((((wk.setCell ⟨E,0,none⟩ (.int .i64 d.kind)).setCell ⟨E,1,none⟩ (.int .i64 d.by_)).setCell ⟨E,2,none⟩ (.int .i64 d.no)).setCell ⟨E,3,none⟩ (.int .i64 d.seen)).setCell ⟨E,4,none⟩ (.int .i64 d.at_)).setCell ⟨E,5,none⟩ (.int .i64 d.many)).setCell ⟨E,6,none⟩ (.string d.text)):=by
 obtain⟨T,h1,_,h3⟩:=h.boxed j
 rw[zb4]at h1
 obtain⟨hT,⟨hlt,c0,c1,c2,c3,c4,c5,c6⟩,hf⟩:=h1
 simp only[Nat.zero_add]at c0 c1 c2 c3 c4 c5 c6
 have hk:zak T wk (((((((wk.setCell ⟨E,0,none⟩ (.int .i64 d.kind)).setCell ⟨E,1,none⟩ (.int .i64 d.by_)).setCell ⟨E,2,none⟩ (.int .i64 d.no)).setCell ⟨E,3,none⟩ (.int .i64 d.seen)).setCell ⟨E,4,none⟩ (.int .i64 d.at_)).setCell ⟨E,5,none⟩ (.int .i64 d.many)).setCell ⟨E,6,none⟩ (.string d.text)):=
  ((((((((zak.refl T wk).set (p:=⟨E,0,none⟩) hT _).set (p:=⟨E,1,none⟩) hT _).set (p:=⟨E,2,none⟩) hT _).set (p:=⟨E,3,none⟩) hT _).set (p:=⟨E,4,none⟩) hT _).set (p:=⟨E,5,none⟩) hT _).set (p:=⟨E,6,none⟩) hT _)
 refine(h3 (Th.dd base E d) _ hk ⟨.inl hT,zde.written hlt d (fun o ho=> ?_),fun o ho=> ?_⟩).other (fun i T hp=> ?_)
 ·rcases zm4 ho with rfl|rfl|rfl|rfl|rfl|rfl|rfl
  ·exact⟨_,c0⟩
  ·exact⟨_,c1⟩
  ·exact⟨_,c2⟩
  ·exact⟨_,c3⟩
  ·exact⟨_,c4⟩
  ·exact⟨_,c5⟩
  ·exact⟨_,c6⟩
 ·simpa [go_sem]using hf o ho
 ·by_cases e:i=j
  ·subst e;rw[zb4]at hp⊢;exact hp
  ·rw[za2 _ _ e]at hp⊢;rw[za2 _ _ e]at hp;exact hp
structure zik(base D G:Nat)(pw:Nat→Nat)(t:Twn)(tk:Int→List (List Ch))(w:World)(S:Nat→Prop):Prop where
 lo:∀k,S k→base≤k∧k<w.heap.size
 own:∃ow,HpAt base (zvz base D G pw t tk (fun _=>Th.no base)) ow w∧∀k,ow k≠0→S k
def zhg(base:Nat)(w:World)(S:Nat→Prop)(D G:Nat)(pw:Nat→Nat)(t:Twn)(tk:Int→List (List Ch))(w':World):Prop:=zik base D G pw t tk w' (grow S w w')∧zak S w w'
theorem zik.start(h:zik base D G pw t tk w S):zap base w S D G pw t tk (fun _=>Th.no base) w:=by
 obtain⟨ow,h1,h2⟩:=h.own
 exact⟨ow,h1,fun k e=> .inl (h2 k e),zak.refl _ _⟩
theorem zik.base_le(h:zik base D G pw t tk w S):base≤w.heap.size:=by
 obtain⟨ow,h1,h2⟩:=h.own
 exact h1.bs
theorem zap.bare(h:zap base w0 S D G pw t tk ex wk):zap base w0 S D G pw t tk (fun _=>Th.no base) wk:=by
 refine zie h (fun T hp=> ?_) (fun T hp=> ?_) (fun k hk T hp=> ?_) (fun i T hp=>trivial)
 ·rw[zn7]at hp;exact hp
 ·rw[zsz]at hp;exact hp
 ·rw[zqb hk]at hp;exact hp
theorem zap.done(h:zap base w S D G pw t tk ex w')(hl:base≤w.heap.size∧∀k,S k→base≤k∧k<w.heap.size):zhg base w S D G pw t tk w':=by
 have hk:=Hq.kept h
 have hs:=hk.size
 obtain⟨ow,h1⟩:=h.bare
 refine⟨⟨fun k e=> ?_,ow,h1.at_,h1.old⟩,hk⟩
 rcases e with e|e
 ·have:=hl.2 k e;omega
 ·omega
theorem zik.held(h:zik base D G pw t tk w S):base≤w.heap.size∧∀k,S k→base≤k∧k<w.heap.size:=⟨h.base_le,h.lo⟩
end
theorem zap.call{base D G:Nat}{pw:Nat→Nat}{t:Twn}{tk:Int→List (List Ch)}{ex:Nat→Th base}{w0 wk:World}{S:Nat→Prop}(h:zap base w0 S D G pw t tk ex wk):
 ∃T,zik base D G pw t tk wk T∧∀pw' t' tk' w',zhg base wk T D G pw' t' tk' w'→zap base w0 S D G pw' t' tk' ex w':=by
 obtain⟨ow,h⟩:=h
 have hat:=h.at_
 refine⟨fun k=>ow k≠0∧ow k<7,⟨fun k e=>hat.lo k e.1,fun k=>if ow k<7 then ow k else 0,⟨fun k e=> ?_,hat.bs,fun i hi=> ?_⟩,fun k e=> ?_⟩,fun pw' t' tk' w' ht=> ?_⟩
 ·by_cases h7:ow k<7
  ·rw[if_pos h7]at e;exact hat.lo k e
  ·rw[if_neg h7]at e;exact absurd rfl e
 ·by_cases h7:i<7
  ·have h1:(zvz base D G pw t tk (fun _=>Th.no base) i).P wk (fun k=>ow k=i):=by
    have h2:=hat.at_ i hi
    unfold zvz at h2⊢
    by_cases e1:i=1
    ·rw[if_pos e1]at h2⊢;exact h2
    rw[if_neg e1]at h2⊢
    by_cases e6:i=6
    ·rw[if_pos e6]at h2⊢;exact h2
    rw[if_neg e6]at h2⊢
    rw[if_pos (by omega)]at h2⊢
    exact h2
   refine(zvz base D G pw t tk (fun _=>Th.no base) i).mono h1 (fun k e=> ?_) (fun k e=> ?_)
   ·rw[if_pos (by omega)];exact e
   ·by_cases h7:ow k<7
    ·rw[if_pos h7]at e;exact hat.lo k (by omega)
    ·rw[if_neg h7]at e;omega
  ·obtain⟨j,rfl⟩:∃j,i=7+j:=⟨i-7,by omega⟩
   rw[zni]
   trivial
 ·have e:(if ow k<7 then ow k else 0)≠0:=e
  by_cases h7:ow k<7
  ·rw[if_pos h7]at e;exact⟨e,h7⟩
  ·rw[if_neg h7]at e;exact absurd rfl e
 ·obtain⟨hd,hk⟩:=ht
  obtain⟨ow2,h2,h3⟩:=hd.own
  have hs:=hk.size
  have hs0:=h.kept.size
  have ap:∀k,7≤ow k→ow2 k=0:=fun k e=>by
   by_cases hz:ow2 k=0
   ·exact hz
   ·have hlt:=(hat.lo k (by omega)).2
    rcases h3 k hz with x|x
    ·omega
    ·omega
  have hlo:∀k,(if 7≤ow k then ow k else if ow2 k<7 then ow2 k else 0)≠0→base≤k∧k<w'.heap.size:=fun k e=>by
   by_cases h7:7≤ow k
   ·have:=hat.lo k (by omega);omega
   ·rw[if_neg h7]at e
    by_cases h8:ow2 k<7
    ·rw[if_pos h8]at e;exact h2.lo k e
    ·rw[if_neg h8]at e;exact absurd rfl e
  refine⟨fun k=>if 7≤ow k then ow k else if ow2 k<7 then ow2 k else 0,⟨hlo,h2.bs,fun i hi=> ?_⟩,fun k e=> ?_,h.kept.trans (hk.wider (fun k e=>h.old k e.1))⟩
  ·by_cases h7:i<7
   ·have h1:(zvz base D G pw' t' tk' ex i).P w' (fun k=>ow2 k=i):=by
     have h4:=h2.at_ i hi
     unfold zvz at h4⊢
     by_cases e1:i=1
     ·rw[if_pos e1]at h4⊢;exact h4
     rw[if_neg e1]at h4⊢
     by_cases e6:i=6
     ·rw[if_pos e6]at h4⊢;exact h4
     rw[if_neg e6]at h4⊢
     rw[if_pos (by omega)]at h4⊢
     exact h4
    refine(zvz base D G pw' t' tk' ex i).mono h1 (fun k e=> ?_) (fun k e=>hlo k (by rw[e];exact hi))
    have:¬7≤ow k:=fun x=>by have:=ap k x;omega
    rw[if_neg this,if_pos (by omega)];exact e
   ·obtain⟨j,rfl⟩:∃j,i=7+j:=⟨i-7,by omega⟩
    have h4:=hat.at_ (7+j) hi
    rw[zni]at h4⊢
    have h5:=(ex j).kept (fun k e=>hat.lo k (by omega)) h4 hk (fun k e x=>by omega)
    refine(ex j).mono h5 (fun k e=> ?_) (fun k e=>hlo k (by omega))
    rw[if_pos (by omega)];exact e
  ·by_cases h7:7≤ow k
   ·rcases h.old k (by omega)with x|x
    ·exact .inl x
    ·exact .inr ⟨x.1,by omega⟩
   ·rw[if_neg h7]at e
    have hz:ow2 k≠0:=fun x=>by rw[x]at e;exact e rfl
    rcases h3 k hz with x|x
    ·rcases h.old k x.1 with y|y
     ·exact .inl y
     ·exact .inr ⟨y.1,by omega⟩
    ·exact .inr ⟨by omega,x.2⟩
end Go.Proofs.YtcbnnfeelhlapadGreatDoor
namespace Go.Proofs.YtcbnnfeelhlapadGreatDoor
open Go Go.RowKit
theorem zz1{α:Type}(f:Int→α)(v:Int)(x y:α):zab (zab f v x) v y=zab f v y:=by
 funext k
 by_cases e:k=v
 ·subst e;rw[zaf,zaf]
 ·rw[za9 _ _ e,za9 _ _ e,za9 _ _ e]
theorem zvf(r:Wr)(e:Dd):(zkv r e).list=doL r.list e za0:=by
 show zai r.base (r.opens++[e])=doL (zai r.base r.opens) e za0
 rw[zjs]
theorem qc1{t:Twn}{tk:Int→List (List Ch)}(h:TR t tk){v:Int}{r:Wr}(he:t.ws v=some r):(zfw r (zau t.b r.seen)).list=ofL (zau t.b r.seen) r.list:=by
 obtain⟨_,c,hi⟩:=h.ti.wi v r he
 obtain⟨l1,l2⟩:=zuq t.b r.seen
 obtain⟨_,_,h2⟩:=hi.clears h.ti.good l1 l2
 exact h2
def zeb(b:Bk)(seen j:Nat):Int:=((b.ds.drop seen).take j).foldl (fun n d=>if d.seen<n then d.seen else n) (zao b)
theorem zqp{b:Bk}{seen j:Nat}(h:seen+j<b.ds.length):zeb b seen (j+1)=min (zeb b seen j) b.ds[seen+j].seen:=by
 have hj:j<(b.ds.drop seen).length:=by rw[List.length_drop];omega
 unfold zeb
 rw[zjp _ _ hj,List.foldl_append,List.getElem_drop]
 show(if b.ds[seen+j].seen<_ then _ else _)=_
 generalize List.foldl (fun n (d:Dd)=>if d.seen<n then d.seen else n) (zao b) (List.take j (List.drop seen b.ds))=m
 generalize b.ds[seen+j].seen=n
 split<;>omega
theorem ztw{b:Bk}{seen j:Nat}(h:b.ds.length≤seen+j):zeb b seen j=zau b seen:=by
 unfold zeb zau
 rw[List.take_of_length_le (by rw[List.length_drop];omega)]
theorem qfn{t:Twn}{tk:Int→List (List Ch)}(h:TR t tk){v:Int}{r:Wr}(he:t.ws v=some r){d:Dd}(hd:t.b.ds[r.seen]? =some d){w:World}{base P:Nat}{S:Nat→Prop}{lv ov:Value}{tvs:List Value}(hp:zcn w base S P lv ov tvs r.list r.opens (tk v) r.me r.next r.seen r.sent):
 Calls Tryz.prog 166 #[.pointer (some ⟨P,0,none⟩),ddV d] w fun e w'=>e= .returned (.int .i64 (zbd r d))∧(zbd r d=0→znj w base S P (zav r d).list (zav r d).opens (zg3 r d (tk v)) (zav r d).me (zav r d).next (zav r d).seen (zav r d).sent w')∧(zbd r d≠0→Below w.heap.size w w'):=by
 have ho:=zbj h he
 obtain⟨hm,c,hi⟩:=h.ti.wi v r he
 have hr:=h.rel v r he
 have hg:=h.ti.good
 obtain⟨hl,rfl⟩:=List.getElem?_eq_some_iff.1 hd
 have h1:=ho.len
 have h2:=ho.few
 have h3:=ho.seen
 by_cases hb:t.b.ds[r.seen].by_=r.me
 ·obtain⟨es,hes,hsn⟩:=hi.own_first hl hb
  have hc:zbd r t.b.ds[r.seen]=0:=by
   rw[zbd,if_neg (fun x=>x hb),if_pos (by rw[hes];rfl)]
  have htl:=ho.tlen
  have hsl:=hi.sent
  cases htk:tk v with
  |nil=>rw[htk,hes]at htl;simp at htl
  |cons u us=>
   rw[htk]at hp hr
   obtain⟨s,hss⟩:∃s,r.sent=s+1:=⟨r.sent-1,by omega⟩
   obtain⟨_,r2⟩:=hr.hears_own hi hg hl hes
   have e1:(zav r t.b.ds[r.seen])=⟨r.me,r.seen+1,r.next,doL r.base t.b.ds[r.seen] ((r.seen:Int)+1),es,s⟩:=by
    rw[zav,if_neg (fun x=>x hb),hes,hss];rfl
   have e2:zg3 r t.b.ds[r.seen] (u::us)=us.map fun u=>u.map (ze2 t.b.ds[r.seen].no ((r.seen:Int)+1)):=by
    rw[zg3,if_neg (fun x=>x hb)];rfl
   have e3:Wr.list ⟨r.me,r.seen+1,r.next,doL r.base t.b.ds[r.seen] ((r.seen:Int)+1),es,s⟩=r.list.map (zf6 t.b.ds[r.seen].no ((r.seen:Int)+1) u):=r2
   rw[hes,hss]at hp
   have hes2:es.length≤1000:=by rw[hes]at h2;simp at h2;omega
   have hst:s≤1000:=by rw[hes]at h2 hsl;simp at h2 hsl;omega
   refine(qfk (sent:=s) (by simpa using hp) hb (by omega) hes2 (by rw[←htk];exact ho.took) (by omega) hst).mono ?_
   rintro e w' ⟨rfl,hto⟩
   rw[hc,e1,e2]
   refine⟨rfl,fun _=> ?_,fun x=>absurd rfl x⟩
   rw[e3]
   simpa using hto
 ·have hc:zbd r t.b.ds[r.seen]=doC r.list t.b.ds[r.seen] ((r.seen:Int)+1):=by rw[zbd,if_pos hb]
  have e1:(zav r t.b.ds[r.seen])=⟨r.me,r.seen+1,r.next,doL r.base t.b.ds[r.seen] ((r.seen:Int)+1),r.opens,r.sent⟩:=by rw[zav,if_pos hb]
  have e2:zg3 r t.b.ds[r.seen] (tk v)=tk v:=by rw[zg3,if_pos hb]
  obtain⟨_,q2⟩:=hi.hears_other hg hl hb
  refine(hears_pw hp (by omega) ho.fits (by omega) _ hb).mono ?_
  rintro e w' ⟨rfl,h0,hn⟩
  rw[hc]
  refine⟨rfl,fun hz=> ?_,hn⟩
  rw[e1,e2]
  have e3:Wr.list ⟨r.me,r.seen+1,r.next,doL r.base t.b.ds[r.seen] ((r.seen:Int)+1),r.opens,r.sent⟩=doL r.list t.b.ds[r.seen] ((r.seen:Int)+1):=(q2 hz).1.symm
  rw[e3]
  simpa using h0 hz
end Go.Proofs.YtcbnnfeelhlapadGreatDoor