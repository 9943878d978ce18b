/-
  WTop, DkBase, HpMem, TRel, DkMem, DkWr.
-/
import Derived.Deep.Cut
import Derived.Test.YtcbnnfeelhlapadGreatDoorWNew
namespace Go.Proofs.YtcbnnfeelhlapadGreatDoor
open Go.RowKit
structure zya(l:List Ch)(es:List Dd):Prop where
 ok:∀k (h:k<es.length),doC (zaj l (es.take k)) es[k] za3=0
 tame:∀k,k<=es.length->zi2 (zaj l (es.take k))/\(zaj l (es.take k)).length<=1000
theorem qdj{b:Bk}{c:Int}{r:Wr}(h:WI b c r)(hg:zct b):zi2 r.base:=fun x hx=>by have:=h.no_open hg x hx;omega
theorem WI.topOk{b:Bk}{c:Int}{r:Wr}(h:WI b c r)(hg:zct b):zya r.base r.opens:=by
 obtain⟨hok,hbl⟩:=h.ok hg
 have ht:=qdj h hg
 have key:∀(es:List Dd) (l:List Ch),okTop l es->zi2 l->l.length<=200->(∀k (hk:k<es.length),doC (zaj l (es.take k)) es[k] za3=0)/\∀k,k<=es.length->zi2 (zaj l (es.take k))/\(zaj l (es.take k)).length<=200:=by
  intro es
  induction es with
  |nil=>intro l _ ht hl;exact⟨fun k hk=>absurd hk (Nat.not_lt_zero _),fun k _=>by simpa [zaj]using⟨ht,hl⟩⟩
  |cons e es ih=>
   intro l ho ht hl
   have hz:=zc0 ho.1
   have hlen:=zsy (l:=l) (number:=za3) (zah hz.1).2.2.2.2.2.2.2.2.2.2.2
   obtain⟨i1,i2⟩:=ih (doL l e za3) ho.2 (zyr ht hz.1 (by decide)) (by omega)
   refine⟨fun k hk=> ?_,fun k hk=> ?_⟩
   ·cases k with
    |zero=>exact ho.1
    |succ k=>exact i1 k (by simpa using hk)
   cases k with
   |zero=>exact⟨ht,hl⟩
   |succ k=>exact i2 k (by simpa using hk)
 obtain⟨k1,k2⟩:=key r.opens r.base hok ht hbl
 exact⟨k1,fun k hk=>⟨(k2 k hk).1,by have:=(k2 k hk).2;omega⟩⟩
theorem Rel.took_len{r:Wr}{ts:List (List Ch)}(h:Rel r ts)(hl:r.list.length<=200)(hf:zdw r.base r.opens):∀t∈ts,t.length<=1000:=by
 have key:∀(es:List Dd) (ts:List (List Ch)) (l:List Ch),zne l es ts->zdw l es->(zaj l es).length<=200->∀t∈ts,t.length<=200:=by
  intro es
  induction es with
  |nil=>intro ts l h _ _ t ht;cases ts with
   |nil=>cases ht
   |cons _ _=>exact h.elim
  |cons e es ih=>
   intro ts l h hf hl t ht
   cases ts with
   |nil=>exact h.elim
   |cons t0 ts=>
    rcases List.mem_cons.1 ht with rfl|ht
    ·have h1:=congrArg List.length h.1
     rw[List.length_map,List.length_map]at h1
     have h2:(zel l e).length<=l.length:=by
      unfold zel
      rw[List.length_take,List.length_drop]
      have:=List.length_filter_le (za7 e.seen e.by_) l
      omega
     obtain⟨_,h3⟩:=zpb (e::es) l hf hl
     omega
    exact ih ts _ h.2 hf.2 hl t ht
 intro t ht
 have:=key r.opens ts r.base h.tk hf hl t ht
 omega
variable {Q:Act->World->Prop} {a:Act} {k i:Nat} {D:World->Prop} {b:Bk}
section
variable {P:Program} {ops:Array Oper} {U:World->Prop} {sp fin:Nat->Bool}
theorem wsb{o:Oper}{rest:List Oper}(d:Option Tmp)(w0:World)(hs:sp k=false)(v:Value)(hd:o.dst=d)(hw:Region.wanted o (yielded ops a.tmps)=true)
 (hrun:∀w,U w->(execOp a.eval o).run P w= .ok (.value v) w) (h:Oper.quiet P ⟨d,.move (.const v),0,"",#[],none⟩ a (fun _=>True) (fun a'=>zcq P ops U sp Q rest (k+1) a' D)):zcq P ops U sp Q (o::rest) k a D:=
 wss hs fun K hK=>by
  rw[if_pos hw]
  refine⟨v,hrun,hK _ ?_⟩
  rw[hd]
  exact zcm w0 h
theorem za0{o:Oper}{rest:List Oper}(d:Option Tmp)(w0:World)(v:Value)(i:Operand)(x:Value)(hrun:∀w,U w->∀r:Operand->Value,r i=x->(execOp r o).run P w= .ok (.value v) w)(h:Oper.quiet P ⟨d,.move (.const v),0,"",#[],none⟩ a (fun _=>True) (fun a'=>zcq P ops U sp Q rest (k+1) a' D))(hs:sp k=false:=by rfl)(hd:o.dst=d:=by rfl)(hw:Region.wanted o (yielded ops a.tmps)=true:=by kernel_rfl)(hx:a.eval i=x:=by kernel_rfl):zcq P ops U sp Q (o::rest) k a D:=
 wsb d w0 hs v hd hw (fun w e=>hrun w e a.eval hx) h
theorem zac{o:Oper}{rest:List Oper}(d:Option Tmp)(w0:World)(hs:sp k=true)(hg:o.guard=none)(hd:o.dst=d)(p:Value->Prop)(D':Value->World->Prop)(hp:∃v,p v)(hU:∀v w,D' v w->U w)
 (hrun:∀w,D w->zb0 P (fun v w'=>p v/\D' v w') ((execOp a.eval o).run P w)) (h:∀v,p v->Oper.quiet P ⟨d,.move (.const v),0,"",#[],none⟩ a (fun _=>True) (fun a'=>zcq P ops U sp Q rest (k+1) a' (D' v))):zcq P ops U sp Q (o::rest) k a D:=
 wsp hs hg p D' hp hU hrun fun v hv=>by
  rw[hd]
  exact zcm w0 (h v hv)
theorem zen{o:Oper}{rest:List Oper}(d:Option Tmp)(w0:World)(hs:sp k=false)(v:Value)(hd:o.dst=d)(hw:Region.wanted o (yielded ops a.tmps)=true)
 (hrun:∀w,U w->(execOp a.eval o).run P w= .ok (.value v) w) (h:Oper.quiet P ⟨d,.move (.const v),0,"",#[],none⟩ a (fun _=>True) (fun a'=>zg4 P ops U sp fin Q rest (k+1) a' D)):zg4 P ops U sp fin Q (o::rest) k a D:=
 zao hs fun K hK=>by
  rw[if_pos hw]
  refine⟨v,hrun,hK _ ?_⟩
  rw[hd]
  exact zcm w0 h
theorem zch{o:Oper}{rest:List Oper}(d:Option Tmp)(w0:World)(v:Value)(i:Operand)(x:Value)(hrun:∀w,U w->∀r:Operand->Value,r i=x->(execOp r o).run P w= .ok (.value v) w)(h:Oper.quiet P ⟨d,.move (.const v),0,"",#[],none⟩ a (fun _=>True) (fun a'=>zg4 P ops U sp fin Q rest (k+1) a' D))(hs:sp k=false:=by rfl)(hd:o.dst=d:=by rfl)(hw:Region.wanted o (yielded ops a.tmps)=true:=by kernel_rfl)(hx:a.eval i=x:=by kernel_rfl):zg4 P ops U sp fin Q (o::rest) k a D:=
 zen d w0 hs v hd hw (fun w e=>hrun w e a.eval hx) h
theorem zh8{o:Oper}{rest:List Oper}(d:Option Tmp)(w0:World)(hs:sp k=true)(hg:o.guard=none)(hd:o.dst=d)(p:Value->Prop)(D':Value->World->Prop)(hp:∃v,p v)(hU:∀v w,D' v w->U w)
 (hrun:∀w,D w->zb0 P (fun v w'=>p v/\D' v w') ((execOp a.eval o).run P w)) (h:∀v,p v->Oper.quiet P ⟨d,.move (.const v),0,"",#[],none⟩ a (fun _=>True) (fun a'=>zg4 P ops U sp fin Q rest (k+1) a' (D' v))):zg4 P ops U sp fin Q (o::rest) k a D:=
 ze5 hs hg p D' hp hU hrun fun v hv=>by
  rw[hd]
  exact zcm w0 (h v hv)
end
abbrev zObj:Obj:= .cells #[.int .i64 0,.int .i64 0,.int .i64 0,.int .i64 0,.int .i64 0,.int .i64 0,.string ⟨#[]⟩] 124
def zbq(o:Bool)(P:Nat):Value:=if o=true then .pointer (some ⟨P,0,none⟩)else .pointer none
def zq2(f:Nat->Nat)(k P:Nat):Nat->Nat:=fun j=>if j=k then P else f j
def setH(f:Nat->Bool)(k:Nat):Nat->Bool:=fun j=>if j=k then true else f j
theorem zd3.lower{w:World}{base base' P:Nat}{S:Nat->Prop}{lv ov:Value}{tvs:List Value}{l:List Ch}{ts:List (List Ch)}{me next seen sent:Int}(h:zd3 w base S P lv ov tvs l [] ts me next seen sent)(hts:ts=[])(hov:ov= .slice none 0 0)(hb:base'<=base):zd3 w base' S P lv ov tvs l [] ts me next seen sent:=by
 subst hts
 subst hov
 have htv:tvs=[]:=List.length_eq_zero_iff.1 h.len
 subst htv
 exact⟨fun k e=>⟨by have:=(h.lo k e).1;omega,(h.lo k e).2⟩,h.hP,h.cells,h.ownL.mono hb,zzc _ _,rfl,trivial,h.lB,h.oB,h.tB,h.tD⟩
structure WOk(r:Wr)(ts:List (List Ch)):Prop where
 len:r.list.length<=200
 fits:zi0 r.list
 few:r.opens.length<=120
 n1:1<=r.next
 n2:r.next<=121
 top:zya r.base r.opens
 base:r.base.length<=200
 tame:zi2 r.base
 took:∀t∈ts,t.length<=1000
 seen:r.seen<=120
 tlen:ts.length=r.opens.length
theorem qfm{w:World}{base P:Nat}{S:Nat->Prop}{lv ov:Value}{tvs:List Value}{l t:List Ch}{d:Dd}{es:List Dd}{ts:List (List Ch)}{me next:Int}{seen sent:Nat}(h:zd3 w base S P lv ov tvs l (d::es) (t::ts) me next seen ((sent:Int)+1))(hb:d.by_=me)(hl:l.length<=1000)(hes:es.length<=1000)(hts:∀u∈t::ts,u.length<=1000)(hsn:seen<=1000)(hst:sent<=1000):
 Calls Tryz.prog 166 #[.pointer (some ⟨P,0,none⟩),ddV d] w fun e w'=>e= .returned (.int .i64 0)/\zni w base S P (l.map (zf2 d.no ((seen:Int)+1) t)) es (ts.map fun u=>u.map (zef d.no ((seen:Int)+1))) me next ((seen:Int)+1) sent w':=by
 have hlo:=h.lo
 have hba:=h.base_le
 cases tvs with
 |nil=>exact absurd h.len (by simp)
 |cons tv tvs=>
  refine(zxd h d hb (fun c w'=>c=0/\zni w base S P (l.map (zf2 d.no ((seen:Int)+1) t)) es (ts.map fun u=>u.map (zef d.no ((seen:Int)+1))) me next ((seen:Int)+1) sent w') (fun wk hj=> ?_)).mono ?_
  ·refine(zxh (h.below hj.below) hl hes hts hsn hst).mono ?_
   rintro e w' ⟨rfl,⟨ov',hat⟩,hk⟩
   have hs1:=hj.below.size
   have hs2:=hk.size
   refine⟨0,rfl,rfl,zni.of (hat.mono (fun k e=> .inl e) (fun k e=> ?_)) ((zam.of_below hj.below).trans' hk)⟩
   rcases e with e|e
   ·have:=hlo k e;omega
   omega
  rintro e w' ⟨c,rfl,rfl,ht⟩
  exact⟨rfl,ht⟩
theorem zuv(hi:i<b.ds.length):isD b ((i:Int)+1)=true/\zum b ((i:Int)+1)=b.ds[i]:=by
 have hl:b.len=(b.ds.length:Int):=rfl
 refine⟨by rw[isD,hl];simp;omega,?_⟩
 rw[zum,if_pos (by rw[hl];omega),show((i:Int)+1-1).toNat=i by omega]
 simp[hi]
theorem is_no(hi:¬i<b.ds.length):isD b ((i:Int)+1)=false:=by
 have hl:b.len=(b.ds.length:Int):=rfl
 rw[isD,hl];simp;omega
theorem zsr(b:Bk)(v:Int):(zc4 b v).ds=b.ds:=by
 unfold zc4
 split<;>rfl
theorem zp6(b:Bk)(v:Int):(zc4 b v).chars=b.chars:=by
 show(zh6 [] 0 (zc4 b v).ds).1=(zh6 [] 0 b.ds).1
 rw[zsr]
theorem qbm(hg:zct b):∀r,zpt b.chars (b.ds.length:Int) r->r=0:=fun r hr=>by
 have h:=zcl hg b.ds.length (Nat.le_refl _)
 rw[zjj]at h
 exact qb6 h.1 h.2 hr
theorem qfs(hg:zct b):(b.chars.any fun x=>decide (x.inn=za3))=false:=by
 have h:=zcl hg b.ds.length (Nat.le_refl _)
 rw[zjj]at h
 have hs:=hg.small
 rw[List.any_eq_false]
 intro x hx
 have:=(h.1.inn x hx).2
 have ho:(za3:Int)=1073741824:=rfl
 simp
 omega
theorem zim{P:Program}{ops:Array Oper}{U:World->Prop}{sp:Nat->Bool}{o:Oper}{rest:List Oper}(hs:sp k=true)(hg:o.guard=none)(hd:o.dst=none)(D':World->Prop)(hU:∀w,D' w->U w)
 (hrun:∀w,D w->zb0 P (fun _ w'=>D' w') ((execOp a.eval o).run P w)) (h:zcq P ops U sp Q rest (k+1) a D'):zcq P ops U sp Q (o::rest) k a D:=
 wsp hs hg (fun _=>True) (fun _=>D') ⟨undef,trivial⟩ (fun _=>hU) (fun w hw=>by
  have:=hrun w hw
  revert this
  cases (execOp a.eval o).run P w<;>simp[zb0]) fun v _=>by
  rw[hd]
  exact h
abbrev logZ:Array Value:= #[.bool false,.int .i64 0,.int .i64 0,.bool false,.int .i64 0,.int .i64 0,.bool false,.int .i64 0,.int .i64 0,.bool false,.int .i64 0,.int .i64 0,.slice none 0 0,.slice none 0 0]
theorem zx1(w:World){base:Nat}(hb:base<=w.heap.size):zc2 (w.alloc (.cells logZ 104)) base (fun k=>k=w.heap.size) w.heap.size (.slice none 0 0) (.slice none 0 0) Bk.empty:=by
 refine⟨fun k e=>⟨by omega,by simp;omega⟩,rfl,⟨by simp,fun j hj=> ?_,fun j hj=> ?_,fun j hj=> ?_,by simp[go_sem],by simp[go_sem],fun o ho=> ?_⟩,World.ownsRow_nil _ _ _ _,World.ownsRow_nil _ _ _ _,fun k e=>by simp[Value.ownBlock]at e,fun k e=>by simp[Value.ownBlock]at e⟩
 ·rcases(show j=0\/j=1\/j=2\/j=3 by omega)with rfl|rfl|rfl|rfl<;>simp[go_sem,Bk.empty]
 ·rcases(show j=0\/j=1\/j=2\/j=3 by omega)with rfl|rfl|rfl|rfl<;>simp[go_sem,Bk.empty]
 ·rcases(show j=0\/j=1\/j=2\/j=3 by omega)with rfl|rfl|rfl|rfl<;>simp[go_sem,Bk.empty]
 rcases(show o=0\/o=1\/o=2\/o=3\/o=4\/o=5\/o=6\/o=7\/o=8\/o=9\/o=10\/o=11\/o=12\/o=13 by omega)with rfl|rfl|rfl|rfl|rfl|rfl|rfl|rfl|rfl|rfl|rfl|rfl|rfl|rfl<;>simp[go_sem]
theorem newL_lg(w:World):Calls Tryz.prog 20 #[] w fun e w'=>e= .returned (.pointer (some ⟨w.heap.size,0,none⟩))/\w'=w.alloc (.cells logZ 104):=by
 go_enter Tryz.func20,Tryz.ntmps20
 go_wp2
 go_ret
 exact⟨rfl,rfl⟩
structure Th(base:Nat) where
 P:World->(Nat->Prop)->Prop
 kept:∀{w w':World} {S T:Nat->Prop},(∀k,S k->base<=k/\k<w.heap.size)->P w S->zam T w w'->(∀k,S k->¬T k)->P w' S
 mono:∀{w:World} {S T:Nat->Prop},P w S->(∀k,S k->T k)->(∀k,T k->base<=k/\k<w.heap.size)->P w T
def Th.no(base:Nat):Th base:=⟨fun _ _=>True,fun _ _ _ _=>trivial,fun _ _ _=>trivial⟩
def Th.blk(base B:Nat)(C:World->Prop)(hC:∀w w':World,w.heap.size<=w'.heap.size->w'.heap[B]? =w.heap[B]? ->C w->C w'):Th base:=
 ⟨fun w S=>S B/\C w,fun hl h hk hd=>⟨h.1,hC _ _ hk.size (hk.block B (hl B h.1).2 (hd B h.1)) h.2⟩,fun h hT _=>⟨hT B h.1,h.2⟩⟩
def Th.log(base G:Nat)(b:Bk):Th base:=
 ⟨fun w S=>∃dv lv,zc2 w base S G dv lv b,fun _ h hk hd=>by obtain⟨dv,lv,h⟩:=h;exact⟨dv,lv,h.kept hk hd⟩,fun h hT hl=>by obtain⟨dv,lv,h⟩:=h;exact⟨dv,lv,h.mono hT hl⟩⟩
def Th.pw(base P:Nat)(r:Wr)(ts:List (List Ch)):Th base:=
 ⟨fun w S=>∃lv ov tvs,zd3 w base S P lv ov tvs r.list r.opens ts r.me r.next r.seen r.sent,fun _ h hk hd=>by obtain⟨lv,ov,tvs,h⟩:=h;exact⟨lv,ov,tvs,h.kept hk hd⟩,fun h hT hl=>by obtain⟨lv,ov,tvs,h⟩:=h;exact⟨lv,ov,tvs,h.mono hT hl⟩⟩
section
variable {base:Nat} {cs:Nat->Th base} {w w':World}
def zat(cs:Nat->Th base)(i:Nat)(c:Th base):Nat->Th base:=fun j=>if j=i then c else cs j
theorem zaz(cs:Nat->Th base)(i:Nat)(c:Th base):zat cs i c i=c:=if_pos rfl
theorem za4(cs:Nat->Th base){i j:Nat}(c:Th base)(h:j≠i):zat cs i c j=cs j:=if_neg h
structure HpAt(base:Nat)(cs:Nat->Th base)(ow:Nat->Nat)(w:World):Prop where
 lo:∀k,ow k≠0->base<=k/\k<w.heap.size
 bs:base<=w.heap.size
 at_:∀i,i≠0->(cs i).P w (fun k=>ow k=i)
def zsg(ow:Nat->Nat)(i:Nat)(w w':World):Nat->Nat:=fun k=>if k<w.heap.size then ow k else if k<w'.heap.size then i else 0
theorem HpAt.turn{ow:Nat->Nat}(h:HpAt base cs ow w){i:Nat}(hi:i≠0){c:Th base}(hk:zam (fun k=>ow k=i) w w')(hc:c.P w' (grow (fun k=>ow k=i) w w')):HpAt base (zat cs i c) (zsg ow i w w') w':=by
 have hlo:∀j,j≠0->∀k,ow k=j->base<=k/\k<w.heap.size:=fun j hj k e=>h.lo k (by rw[e];exact hj)
 have hs:=hk.size
 have hb:=h.bs
 have hl':∀k,zsg ow i w w' k≠0->base<=k/\k<w'.heap.size:=by
  intro k hk'
  unfold zsg at hk'
  by_cases h1:k<w.heap.size
  ·rw[if_pos h1]at hk'
   have:=h.lo k hk'
   omega
  rw[if_neg h1]at hk'
  by_cases h2:k<w'.heap.size
  ·omega
  rw[if_neg h2]at hk';exact absurd rfl hk'
 refine⟨hl',Nat.le_trans hb hs,fun j hj=> ?_⟩
 by_cases e:j=i
 ·subst e
  rw[zaz]
  refine c.mono hc (fun k e=> ?_) (fun k e=>hl' k (by rw[e];exact hj))
  unfold zsg
  rcases e with e|e
  ·rw[if_pos (hlo j hj k e).2];exact e
  rw[if_neg (by omega),if_pos e.2]
 rw[za4 _ _ e]
 have h1:=(cs j).kept (hlo j hj) (h.at_ j hj) hk (fun k e1 e2=>e (by rw[<-e1,e2]))
 refine(cs j).mono h1 (fun k e1=> ?_) (fun k e1=>hl' k (by rw[e1];exact hj))
 unfold zsg
 rw[if_pos (hlo j hj k e1).2]
 exact e1
structure HqAt(base:Nat)(cs:Nat->Th base)(w0:World)(S:Nat->Prop)(ow:Nat->Nat)(wk:World):Prop where
 at_:HpAt base cs ow wk
 old:∀k,ow k≠0->grow S w0 wk k
 kept:zam S w0 wk
def Hq(base:Nat)(cs:Nat->Th base)(w0:World)(S:Nat->Prop)(wk:World):Prop:=∃ow,HqAt base cs w0 S ow wk
variable {w0 wk:World} {S:Nat->Prop}
theorem zam.wider{S T:Nat->Prop}(h:zam S w w')(hT:∀k,S k->T k):zam T w w':=⟨h.os,h.tape,h.output,h.size,fun k hk hn=>h.block k hk (fun e=>hn (hT k e))⟩
theorem Hq.base_le(h:Hq base cs w0 S wk):base<=wk.heap.size:=by
 obtain⟨_,h⟩:=h
 exact h.at_.bs
theorem Hq.kept(h:Hq base cs w0 S wk):zam S w0 wk:=by
 obtain⟨_,h⟩:=h
 exact h.kept
theorem Hq.turn(h:Hq base cs w0 S wk){i:Nat}(hi:i≠0):∃T,(cs i).P wk T/\(∀k,T k->base<=k/\k<wk.heap.size)/\∀(c:Th base) (w':World),zam T wk w'->c.P w' (grow T wk w')->Hq base (zat cs i c) w0 S w':=by
 obtain⟨ow,h⟩:=h
 have hlo:∀k,ow k=i->base<=k/\k<wk.heap.size:=fun k e=>h.at_.lo k (by rw[e];exact hi)
 refine⟨fun k=>ow k=i,h.at_.at_ i hi,hlo,fun c w' hk hc=>⟨zsg ow i wk w',h.at_.turn hi hk hc,fun k e=> ?_,h.kept.trans (hk.wider (fun k e=>h.old k (by rw[e];exact hi)))⟩⟩
 have hs:=hk.size
 have hs0:=h.kept.size
 unfold zsg at e
 by_cases h1:k<wk.heap.size
 ·rw[if_pos h1]at e
  rcases h.old k e with x|x
  ·exact .inl x
  exact .inr ⟨x.1,by omega⟩
 rw[if_neg h1]at e
 by_cases h2:k<w'.heap.size
 ·exact .inr ⟨by omega,h2⟩
 rw[if_neg h2]at e;exact absurd rfl e
theorem Hq.after(h:Hq base cs w0 S wk)(hb:Below wk.heap.size wk w'):Hq base cs w0 S w':=by
 obtain⟨ow,h⟩:=h
 have hs:=hb.size
 refine⟨ow,⟨fun k e=>⟨(h.at_.lo k e).1,Nat.lt_of_lt_of_le (h.at_.lo k e).2 hs⟩,Nat.le_trans h.at_.bs hs,fun i hi=> ?_⟩,fun k e=> ?_,h.kept.after hb⟩
 ·exact(cs i).kept (fun k e=>h.at_.lo k (by rw[e];exact hi)) (h.at_.at_ i hi) (zam.of_below (S:=fun _=>False) hb) (fun _ _ e=>e)
 rcases h.old k e with x|x
 ·exact .inl x
 exact .inr ⟨x.1,by omega⟩
theorem Hq.imp{cs':Nat->Th base}(h:Hq base cs w0 S wk)(hc:∀i,i≠0->∀T,(∀k,T k->base<=k/\k<wk.heap.size)->(cs i).P wk T->(cs' i).P wk T):Hq base cs' w0 S wk:=by
 obtain⟨ow,h⟩:=h
 exact⟨ow,⟨h.at_.lo,h.at_.bs,fun i hi=>hc i hi _ (fun k e=>h.at_.lo k (by rw[e];exact hi)) (h.at_.at_ i hi)⟩,h.old,h.kept⟩
theorem Hq.get(h:Hq base cs w0 S wk){i:Nat}(hi:i≠0):∃T,(cs i).P wk T/\∀k,T k->base<=k/\k<wk.heap.size:=by
 obtain⟨T,h1,h2,_⟩:=h.turn hi
 exact⟨T,h1,h2⟩
theorem Hq.lay(h:Hq base cs w0 S wk)(hb:Below wk.heap.size wk w'){i:Nat}(hi:i≠0)(c:Th base)(hc:c.P w' (fun k=>wk.heap.size<=k/\k<w'.heap.size)):Hq base (zat cs i c) w0 S w':=by
 obtain⟨T,_,h2,h3⟩:=h.turn hi
 have hs:=hb.size
 have hbs:=h.base_le
 refine h3 c w' (.of_below hb) (c.mono hc (fun k e=> .inr e) (fun k e=> ?_))
 rcases e with e|e
 ·have:=h2 k e;omega
 omega
theorem Hq.start(w:World):Hq w.heap.size (fun _=>Th.no _) w (fun _=>False) w:=⟨fun _=>0,⟨fun _ e=>absurd rfl e,Nat.le_refl _,fun _ _=>trivial⟩,fun _ e=>absurd rfl e,zam.refl _ _⟩
end
structure TR(t:Twn)(tk:Int->List (List Ch)):Prop where
 ti:TwI t
 rel:∀k w,t.ws k=some w->Rel w (tk k)
theorem zhl{α:Type}(f:Int->α)(v:Int):zai f v (f v)=f:=by
 funext k
 by_cases e:k=v
 ·subst e;exact zag _ _ _
 exact zab _ _ e
section
variable {t t':Twn} {tk:Int->List (List Ch)} {v:Int} {w w':Wr}
theorem TR.set(h:TR t tk)(hti:TwI t')(hws:t'.ws=zai t.ws v (some w')){x:List (List Ch)}(hr:Rel w' x):TR t' (zai tk v x):=by
 refine⟨hti,fun k y hk=> ?_⟩
 rw[hws]at hk
 by_cases e:k=v
 ·subst e
  rw[zag]at hk⊢
  obtain rfl:=Option.some.inj hk
  exact hr
 rw[zab _ _ e]at hk⊢
 exact h.rel k y hk
theorem TR.same(h:TR t tk)(hti:TwI t')(hws:∀k w,t'.ws k=some w->t.ws k=some w):TR t' tk:=⟨hti,fun k w hk=>h.rel k w (hws k w hk)⟩
theorem zyj:TR ⟨Bk.empty,fun _=>none⟩ (fun _=>[]):=⟨qcs,fun _ _ e=>(by cases e)⟩
theorem qd2(h:TR t tk)(hc:zde t.b v=0):TR ⟨zc4 t.b v,zai t.ws v (some (newW t.b v))⟩ (zai tk v []):=by
 have h1:=ti_join h.ti v
 unfold zsq at h1
 simp only[hc,if_true]at h1
 exact h.set h1 rfl (Rel.comes_in h.ti.good v)
theorem qd1(h:TR t tk)(hw:t.ws v=some w)(s:Tst)(hc:doC w.list (ownD w s) za3=0):TR ⟨t.b,zai t.ws v (some (zkw w (ownD w s)))⟩ (zai tk v (tk v++[zel w.list (ownD w s)])):=by
 have h1:=ti_own h.ti hw s
 unfold qb0 at h1
 simp only[hc,if_true]at h1
 obtain⟨o1,o2,_⟩:=zue w s
 exact h.set h1 rfl ((h.rel v w hw).does o1 o2 hc)
theorem qd0(h:TR t tk)(hw:t.ws v=some w){d:Dd}(hd:w.opens[w.sent]? =some d)(hc:za6 t.b d=0):TR ⟨zb9 t.b d,zai t.ws v (some (zfm w))⟩ tk:=by
 have h1:=ti_send h.ti hw
 unfold zdx at h1
 simp only[hd,hc,if_true]at h1
 have h2:=h.set h1 rfl ((h.rel v w hw).sends (w.sent+1))
 rw[zhl]at h2
 exact h2
theorem zlx(h:TR t tk)(hw:t.ws v=some w):TR (zdu t v) tk:=by
 refine h.same (h.ti.drop (h.ti.is_here hw).1) (fun k y hk=> ?_)
 have hk':zai t.ws v none k=some y:=hk
 by_cases e:k=v
 ·subst e;rw[zag]at hk';cases hk'
 rw[zab _ _ e]at hk';exact hk'
theorem zyk(h:TR t tk)(hw:t.ws v=some w):TR ⟨t.b,zai t.ws v (some (zgt w (zba t.b w.seen)))⟩ tk:=by
 obtain⟨hm,c,hi⟩:=h.ti.wi _ w hw
 obtain⟨l1,l2⟩:=zur t.b w.seen
 obtain⟨c',hc',_⟩:=hi.clears h.ti.good l1 l2
 have h1:TwI ⟨t.b,zai t.ws v (some (zgt w (zba t.b w.seen)))⟩:=h.ti.set h.ti.good (h.ti.is_here hw).2 hm ⟨c',hc'⟩ (fun _ _ _ _ _ x=>x) (fun _ _ x=>x)
 have h2:=h.set h1 rfl ((h.rel v w hw).clears hi h.ti.good (hi.opens_least l1 l2))
 rw[zhl]at h2
 exact h2
def zh2(w:Wr)(d:Dd)(ts:List (List Ch)):List (List Ch):=if d.by_≠w.me then ts else ts.tail.map fun u=>u.map (zef d.no ((w.seen:Int)+1))
theorem qd3(h:TR t tk)(hw:t.ws v=some w){d:Dd}(hd:t.b.ds[w.seen]? =some d)(hc:zbt w d=0):TR ⟨zd5 t.b v (zb1 w d).least,zai t.ws v (some (zb1 w d))⟩ (zai tk v (zh2 w d (tk v))):=by
 have h1:=(ti_hear h.ti hw).1
 unfold zdg at h1
 simp only[hd,hc,if_true]at h1
 obtain⟨hm,c,hi⟩:=h.ti.wi _ w hw
 have hr:=h.rel v w hw
 obtain⟨hl,rfl⟩:=List.getElem?_eq_some_iff.1 hd
 refine h.set h1 rfl ?_
 unfold zb1 zh2
 by_cases hb:t.b.ds[w.seen].by_=w.me
 ·rw[if_neg (fun x=>x hb),if_neg (fun x=>x hb)]
  obtain⟨es,hes,_⟩:=hi.own_first hl hb
  have htk:=hr.tk
  rw[hes]at htk
  cases htv:tk v with
  |nil=>rw[htv]at htk;exact htk.elim
  |cons u us=>
   rw[htv]at hr
   have:=(hr.hears_own hi h.ti.good hl hes).1
   rw[hes]
   exact this
 rw[if_pos hb,if_pos hb]
 exact hr.hears_other hi h.ti.good hl hb
end
variable {t:Twn} {tk:Int->List (List Ch)} {w w':World} {T B o k j E:Nat} {sc:Nat->Nat} {hs:Nat->Bool} {x:Tst} {b:Bk} {r':Wr} {ts':List (List Ch)}
theorem zbg(h:TR t tk){v:Int}{r:Wr}(he:t.ws v=some r):WOk r (tk v):=by
 obtain⟨_,c,hw⟩:=h.ti.wi v r he
 have hr:=h.rel v r he
 have hg:=h.ti.good
 have h1:=hw.small hg
 exact⟨hw.full,hw.fits hg,hw.few hr hg,hr.n1,hr.n2,hw.topOk hg,(hw.ok hg).2,qdj hw hg,hr.took_len hw.full (hw.list_eq hg).1,by omega,ztk hr.tk⟩
structure TwC(w:World)(T B:Nat)(sc:Nat->Nat)(hs:Nat->Bool):Prop where
 lt:T<w.heap.size
 book:w.cell? ⟨T,0,none⟩=some (.pointer (some ⟨B,0,none⟩))
 ws:∀k,k<4->w.cell? ⟨T,1+k,none⟩=some (zbq (hs k) (sc k))
 free:∀o,o<5->w.frozen? ⟨T,o,none⟩=false
theorem TwC.kept(h:TwC w T B sc hs)(hz:w.heap.size<=w'.heap.size)(hb:w'.heap[T]? =w.heap[T]?):TwC w' T B sc hs:=by
 have hc:∀o,w'.cell? ⟨T,o,none⟩=w.cell? ⟨T,o,none⟩:=fun o=>World.cell?_of_block (a:=⟨T,o,none⟩) hb
 have hf:∀o,w'.frozen? ⟨T,o,none⟩=w.frozen? ⟨T,o,none⟩:=fun o=>World.frozen?_of_block (a:=⟨T,o,none⟩) hb
 exact⟨Nat.lt_of_lt_of_le h.lt hz,by rw[hc];exact h.book,fun k hk=>by rw[hc];exact h.ws k hk,fun o ho=>by rw[hf];exact h.free o ho⟩
theorem TwC.put(h:TwC w T B sc hs){k:Nat}(hk:k<4)(Q:Nat):TwC (w.setCell ⟨T,1+k,none⟩ (.pointer (some ⟨Q,0,none⟩))) T B (zq2 sc k Q) (setH hs k):=by
 have hl:=h.book
 refine⟨by simpa using h.lt,?_,fun j hj=> ?_,fun o ho=> ?_⟩
 ·simp[go_sem,hl]
 ·have h1:=h.ws j hj
  by_cases e:j=k
  ·subst e
   simp[go_sem,h1,zq2,setH,zbq]
  simp[go_sem,h1,zq2,setH,e]
 simpa [go_sem]using h.free o ho
def clrH(f:Nat->Bool)(k:Nat):Nat->Bool:=fun j=>if j=k then false else f j
theorem TwC.clear(h:TwC w T B sc hs){k:Nat}(hk:k<4):TwC (w.setCell ⟨T,1+k,none⟩ (.pointer none)) T B sc (clrH hs k):=by
 have hl:=h.book
 refine⟨by simpa using h.lt,?_,fun j hj=> ?_,fun o ho=> ?_⟩
 ·simp[go_sem,hl]
 ·have h1:=h.ws j hj
  by_cases e:j=k
  ·subst e
   simp[go_sem,h1,clrH,zbq]
  simp[go_sem,h1,clrH,e]
 simpa [go_sem]using h.free o ho
def Th.tw(base T B:Nat)(sc:Nat->Nat)(hs:Nat->Bool):Th base:=Th.blk base T (fun w=>TwC w T B sc hs) (fun _ _ hz hb h=>h.kept hz hb)
structure zt7(w:World)(B o:Nat)(x:Tst):Prop where
 lt:B<w.heap.size
 c0:w.cell? ⟨B,o,none⟩=some (.int .i64 x.kind)
 c1:w.cell? ⟨B,o+1,none⟩=some (.int .i64 x.w)
 c2:w.cell? ⟨B,o+2,none⟩=some (.int .i64 x.at_)
 c3:w.cell? ⟨B,o+3,none⟩=some (.int .i64 x.many)
 c4:w.cell? ⟨B,o+4,none⟩=some (.string x.text)
abbrev qcy(x:Tst):Array Value:= #[.int .i64 x.kind,.int .i64 x.w,.int .i64 x.at_,.int .i64 x.many,.string x.text]
abbrev tsV(x:Tst):Value:= .agg (qcy x)
abbrev ziz(x:Tst):Obj:= .cells (qcy x) 74
theorem zhj(w:World)(x:Tst):zt7 (w.alloc (ziz x)) w.heap.size 0 x:=by
 refine⟨by simp,?_,?_,?_,?_,?_⟩<;>simp[go_sem]
theorem zt7.of_block(h:zt7 w B o x)(hs:B<w'.heap.size)(hb:w'.heap[B]? =w.heap[B]?):zt7 w' B o x:=by
 have hc:∀o,w'.cell? ⟨B,o,none⟩=w.cell? ⟨B,o,none⟩:=fun o=>World.cell?_of_block (a:=⟨B,o,none⟩) hb
 exact⟨hs,by rw[hc];exact h.c0,by rw[hc];exact h.c1,by rw[hc];exact h.c2,by rw[hc];exact h.c3,by rw[hc];exact h.c4⟩
theorem zt7.below(h:zt7 w B o x)(hb:Below w.heap.size w w'):zt7 w' B o x:=h.of_block (Nat.lt_of_lt_of_le h.lt hb.size) (hb.block _ h.lt)
def Th.st(base B:Nat)(x:Tst):Th base:=Th.blk base B (fun w=>zt7 w B 0 x) (fun _ _ hz hb h=>h.of_block (Nat.lt_of_lt_of_le h.lt hz) hb)
def Th.dd(base B:Nat)(d:Dd):Th base:=Th.blk base B (fun w=>zdq w B 0 d/\∀o,o<7->w.frozen? ⟨B,o,none⟩=false) (fun _ _ hz hb h=>⟨h.1.of_block (Nat.lt_of_lt_of_le h.1.lt hz) hb,fun o ho=>by rw[World.frozen?_of_block (a:=⟨B,o,none⟩) hb];exact h.2 o ho⟩)
def zpz:Twn:=⟨Bk.empty,fun _=>none⟩
def zbo(t:Twn):Nat->Bool:=fun k=>(t.ws k).isSome
def qca(base:Nat)(pw:Nat->Nat)(t:Twn)(tk:Int->List (List Ch))(k:Nat):Th base:=match t.ws k with
 |none=>Th.no base
 |some r=>Th.pw base (pw k) r (tk k)
def zvz(base D G:Nat)(pw:Nat->Nat)(t:Twn)(tk:Int->List (List Ch))(ex:Nat->Th base)(i:Nat):Th base:=
 if i=1 then Th.log base G t.b else if i=6 then Th.tw base D G pw (zbo t)else if i<6 then qca base pw t tk (i-2)else ex (i-7)
section
variable {base D G:Nat} {pw:Nat->Nat} {t:Twn} {tk:Int->List (List Ch)} {ex:Nat->Th base} {w w0 wk w':World} {S:Nat->Prop}
theorem zn6:zvz base D G pw t tk ex 1=Th.log base G t.b:=rfl
theorem zt0:zvz base D G pw t tk ex 6=Th.tw base D G pw (zbo t):=rfl
theorem zqc(hk:k<4):zvz base D G pw t tk ex (2+k)=qca base pw t tk k:=by
 unfold zvz
 rw[if_neg (by omega),if_neg (by omega),if_pos (by omega),show 2+k-2=k by omega]
theorem znh(j:Nat):zvz base D G pw t tk ex (7+j)=ex j:=by
 unfold zvz
 rw[if_neg (by omega),if_neg (by omega),if_neg (by omega),show 7+j-7=j by omega]
def zbc(base:Nat)(w0:World)(S:Nat->Prop)(D G:Nat)(pw:Nat->Nat)(t:Twn)(tk:Int->List (List Ch))(ex:Nat->Th base)(wk:World):Prop:=Hq base (zvz base D G pw t tk ex) w0 S wk
theorem zif{cs:Nat->Th base}(h:Hq base cs w0 S wk)(h1:∀T,(cs 1).P wk T->(Th.log base G t.b).P wk T)(h6:∀T,(cs 6).P wk T->(Th.tw base D G pw (zbo t)).P wk T)(hw:∀k,k<4->∀T,(cs (2+k)).P wk T->(qca base pw t tk k).P wk T)(he:∀j T,(cs (7+j)).P wk T->(ex j).P wk T):zbc base w0 S D G pw t tk ex wk:=by
 refine h.imp fun i hi T _ hp=> ?_
 by_cases e1:i=1
 ·subst e1;exact h1 T hp
 by_cases e6:i=6
 ·subst e6;exact h6 T hp
 by_cases e:i<6
 ·obtain⟨k,rfl⟩:∃k,i=2+k:=⟨i-2,by omega⟩
  rw[zqc (by omega)]
  exact hw k (by omega) T hp
 obtain⟨k,rfl⟩:∃k,i=7+k:=⟨i-7,by omega⟩
 rw[znh]
 exact he k T hp
theorem zbc.after(h:zbc base w0 S D G pw t tk ex wk)(hb:Below wk.heap.size wk w'):zbc base w0 S D G pw t tk ex w':=Hq.after h hb
theorem zbc.cells(h:zbc base w0 S D G pw t tk ex wk):TwC wk D G pw (zbo t):=by
 obtain⟨T,h1,_⟩:=Hq.get h (i:=6) (by omega)
 rw[zt0]at h1
 exact h1.2
theorem zbc.log(h:zbc base w0 S D G pw t tk ex wk):∃T dv lv,zc2 wk base T G dv lv t.b/\∀b' w',zk6 wk base T G b' w'->zbc base w0 S D G pw ⟨b',t.ws⟩ tk ex w':=by
 obtain⟨T,h1,_,h3⟩:=Hq.turn h (i:=1) (by omega)
 rw[zn6]at h1
 obtain⟨dv,lv,hl⟩:=h1
 refine⟨T,dv,lv,hl,fun b' w' ht=>zif (h3 (Th.log base G b') w' ht.kept ht.at_) (fun T hp=> ?_) (fun T hp=> ?_) (fun k hk T hp=> ?_) (fun j T hp=> ?_)⟩
 ·rw[zaz]at hp;exact hp
 ·rw[za4 _ _ (by omega),zt0]at hp;exact hp
 ·rw[za4 _ _ (by omega),zqc hk]at hp;exact hp
 rw[za4 _ _ (by omega),znh]at hp;exact hp
theorem zsu{r:Wr}(he:t.ws k=some r):zbo ⟨b,zai t.ws k (some r')⟩=zbo t:=by
 funext j
 unfold zbo
 show(zai t.ws k (some r') j).isSome=(t.ws j).isSome
 by_cases e:(j:Int)=k
 ·rw[e,zag,he];rfl
 rw[zab _ _ e]
theorem zzt(t:Twn)(b:Bk)(k:Nat)(r':Wr):zbo ⟨b,zai t.ws k (some r')⟩=setH (zbo t) k:=by
 funext j
 unfold zbo setH
 show(zai t.ws k (some r') j).isSome=_
 by_cases e:j=k
 ·subst e;rw[zag,if_pos rfl];rfl
 rw[zab _ _ (by omega),if_neg e]
theorem zzu(t:Twn)(b:Bk)(k:Nat):zbo ⟨b,zai t.ws k none⟩=clrH (zbo t) k:=by
 funext j
 unfold zbo clrH
 show(zai t.ws k none j).isSome=_
 by_cases e:j=k
 ·subst e;rw[zag,if_pos rfl];rfl
 rw[zab _ _ (by omega),if_neg e]
theorem zyf:qca base pw ⟨b,zai t.ws k (some r')⟩ (zai tk k ts') k=Th.pw base (pw k) r' ts':=by
 unfold qca
 show(match zai t.ws k (some r') k with|none=>_|some r=>Th.pw base (pw k) r (zai tk k ts' k))=_
 rw[zag,zag]
theorem zqi{x:Option Wr}(h:j≠k):qca base pw ⟨b,zai t.ws k x⟩ (zai tk k ts') j=qca base pw t tk j:=by
 unfold qca
 show(match zai t.ws k x j with|none=>_|some r=>Th.pw base (pw j) r (zai tk k ts' j))=_
 rw[zab _ _ (by omega),zab _ _ (by omega)]
theorem zbc.wr(h:zbc base w0 S D G pw t tk ex wk){k:Nat}(hk:k<4){r:Wr}(he:t.ws k=some r):
 ∃T lv ov tvs,zd3 wk base T (pw k) lv ov tvs r.list r.opens (tk k) r.me r.next r.seen r.sent/\∀(r':Wr) (ts':List (List Ch)) w',zni wk base T (pw k) r'.list r'.opens ts' r'.me r'.next r'.seen r'.sent w'->zbc base w0 S D G pw ⟨t.b,zai t.ws k (some r')⟩ (zai tk k ts') ex w':=by
 obtain⟨T,h1,_,h3⟩:=Hq.turn h (i:=2+k) (by omega)
 rw[zqc hk]at h1
 unfold qca at h1
 rw[he]at h1
 obtain⟨lv,ov,tvs,hl⟩:=h1
 refine⟨T,lv,ov,tvs,hl,fun r' ts' w' ht=>zif (h3 (Th.pw base (pw k) r' ts') w' ht.kept ht.at_) (fun T hp=> ?_) (fun T hp=> ?_) (fun j hj T hp=> ?_) (fun j T hp=> ?_)⟩
 ·rw[za4 _ _ (by omega),zn6]at hp;exact hp
 ·rw[za4 _ _ (by omega),zt0]at hp;rw[zsu he];exact hp
 ·by_cases e:j=k
  ·subst e
   rw[zaz]at hp;rw[zyf];exact hp
  rw[za4 _ _ (by omega),zqc hj]at hp;rw[zqi e];exact hp
 rw[za4 _ _ (by omega),znh]at hp;exact hp
theorem zbc.clear(h:zbc base w0 S D G pw t tk ex wk){k:Nat}(hk:k<4):zbc base w0 S D G pw ⟨t.b,zai t.ws k none⟩ tk ex (wk.setCell ⟨D,1+k,none⟩ (.pointer none)):=by
 obtain⟨T,h1,_,h3⟩:=Hq.turn h (i:=6) (by omega)
 rw[zt0]at h1
 refine zif (h3 (Th.tw base D G pw (clrH (zbo t) k)) _ (zam.set (zam.refl T wk) (p:=⟨D,1+k,none⟩) h1.1 _) ⟨.inl h1.1,h1.2.clear hk⟩) (fun T hp=> ?_) (fun T hp=> ?_) (fun j hj T hp=> ?_) (fun j T hp=> ?_)
 ·rw[za4 _ _ (by omega),zn6]at hp;exact hp
 ·rw[zaz]at hp;rw[zzu];exact hp
 ·rw[za4 _ _ (by omega),zqc hj]at hp
  by_cases e:j=k
  ·subst e
   unfold qca
   show(match zai t.ws j none j with|none=>Th.no base|some r=>Th.pw base (pw j) r (tk j)).P _ T
   rw[zag];trivial
  unfold qca at hp⊢
  show(match zai t.ws k none j with|none=>Th.no base|some r=>Th.pw base (pw j) r (tk j)).P _ T
  rw[zab _ _ (by omega)];exact hp
 rw[za4 _ _ (by omega),znh]at hp;exact hp
theorem zbc.newW(h:zbc base w0 S D G pw t tk ex wk)(hb:Below wk.heap.size wk w'){k:Nat}(hk:k<4){P:Nat}{v1:Value}{r:Wr}(hr:r.opens=[])(hs:r.sent=0)(hat:zd3 w' wk.heap.size (fun k=>wk.heap.size<=k/\k<w'.heap.size) P v1 (.slice none 0 0) [] r.base [] [] r.me r.next r.seen 0):
 zbc base w0 S D G (zq2 pw k P) ⟨t.b,zai t.ws k (some r)⟩ (zai tk k []) ex (w'.setCell ⟨D,1+k,none⟩ (.pointer (some ⟨P,0,none⟩))):=by
 have hrl:r.list=r.base:=by unfold Wr.list;rw[hr];rfl
 have hat':∃lv ov tvs,zd3 w' base (fun k=>wk.heap.size<=k/\k<w'.heap.size) P lv ov tvs r.list r.opens [] r.me r.next r.seen r.sent:=by
  rw[hrl,hr,hs]
  exact⟨_,_,_,hat.lower rfl rfl (Hq.base_le h)⟩
 have h2:=Hq.lay h hb (i:=2+k) (by omega) (Th.pw base P r []) hat'
 obtain⟨T,h1,_,h3⟩:=h2.turn (i:=6) (by omega)
 rw[za4 _ _ (by omega),zt0]at h1
 refine zif (h3 (Th.tw base D G (zq2 pw k P) (setH (zbo t) k)) _ (zam.set (zam.refl T w') (p:=⟨D,1+k,none⟩) h1.1 _) ⟨.inl h1.1,h1.2.put hk P⟩) (fun T hp=> ?_) (fun T hp=> ?_) (fun j hj T hp=> ?_) (fun j T hp=> ?_)
 ·rw[za4 _ _ (by omega),za4 _ _ (by omega),zn6]at hp;exact hp
 ·rw[zaz]at hp;rw[zzt];exact hp
 ·by_cases e:j=k
  ·subst e
   rw[za4 _ _ (by omega),zaz]at hp
   rw[zyf]
   unfold zq2
   rw[if_pos rfl]
   exact hp
  rw[za4 _ _ (by omega),za4 _ _ (by omega),zqc hj]at hp
  rw[zqi e]
  unfold qca at hp⊢
  cases he:t.ws j with
  |none=>trivial
  |some r0=>
   rw[he]at hp
   show(Th.pw base (zq2 pw k P j) r0 (tk j)).P _ T
   unfold zq2
   rw[if_neg e]
   exact hp
 rw[za4 _ _ (by omega),za4 _ _ (by omega),znh]at hp;exact hp
theorem zbc.lay(h:zbc base w0 S D G pw t tk ex wk)(hb:Below wk.heap.size wk w')(j:Nat)(c:Th base)(hc:c.P w' (fun k=>wk.heap.size<=k/\k<w'.heap.size)):zbc base w0 S D G pw t tk (zat ex j c) w':=by
 refine zif (Hq.lay h hb (i:=7+j) (by omega) c hc) (fun T hp=> ?_) (fun T hp=> ?_) (fun k hk T hp=> ?_) (fun i T hp=> ?_)
 ·rw[za4 _ _ (by omega),zn6]at hp;exact hp
 ·rw[za4 _ _ (by omega),zt0]at hp;exact hp
 ·rw[za4 _ _ (by omega),zqc hk]at hp;exact hp
 by_cases e:i=j
 ·subst e;rw[zaz]at hp⊢;exact hp
 rw[za4 _ _ (by omega),znh]at hp;rw[za4 _ _ e];exact hp
theorem zbc.box(h:zbc base w0 S D G pw t tk ex wk)(j:Nat):∃T,(ex j).P wk T:=by
 obtain⟨T,h1,_⟩:=Hq.get h (i:=7+j) (by omega)
 rw[znh]at h1
 exact⟨T,h1⟩
theorem zbc.boxed(h:zbc base w0 S D G pw t tk ex wk)(j:Nat):∃T,(ex j).P wk T/\(∀k,T k->base<=k/\k<wk.heap.size)/\∀(c:Th base) (w':World),zam T wk w'->c.P w' (grow T wk w')->zbc base w0 S D G pw t tk (zat ex j c) w':=by
 obtain⟨T,h1,h2,h3⟩:=Hq.turn h (i:=7+j) (by omega)
 rw[znh]at h1
 refine⟨T,h1,h2,fun c w' hk hc=>zif (h3 c w' hk hc) (fun T hp=> ?_) (fun T hp=> ?_) (fun k hk T hp=> ?_) (fun i T hp=> ?_)⟩
 ·rw[za4 _ _ (by omega),zn6]at hp;exact hp
 ·rw[za4 _ _ (by omega),zt0]at hp;exact hp
 ·rw[za4 _ _ (by omega),zqc hk]at hp;exact hp
 by_cases e:i=j
 ·subst e;rw[zaz]at hp⊢;exact hp
 rw[za4 _ _ (by omega),znh]at hp;rw[za4 _ _ e];exact hp
theorem zbc.step(h:zbc base w0 S D G pw t tk ex wk)(x:Tst)(j:Nat):zbc base w0 S D G pw t tk (zat ex j (Th.st base wk.heap.size x)) (wk.alloc (ziz x)):=
 h.lay (za2 _ _) j _ ⟨⟨Nat.le_refl _,by simp⟩,zhj wk x⟩
theorem zbc.deed(h:zbc base w0 S D G pw t tk ex wk)(d:Dd)(j:Nat):zbc base w0 S D G pw t tk (zat ex j (Th.dd base wk.heap.size d)) (wk.alloc (zd9 d)):=
 h.lay (za2 _ _) j _ ⟨⟨Nat.le_refl _,by simp⟩,zb4 wk d,fun o ho=>by rcases zm0 ho with rfl|rfl|rfl|rfl|rfl|rfl|rfl<;>simp[go_sem]⟩
theorem zbc.other(h:zbc base w0 S D G pw t tk ex wk){ex':Nat->Th base}(he:∀j T,(ex j).P wk T->(ex' j).P wk T):zbc base w0 S D G pw t tk ex' wk:=by
 refine zif h (fun T hp=> ?_) (fun T hp=> ?_) (fun k hk T hp=> ?_) (fun i T hp=> ?_)
 ·rw[zn6]at hp;exact hp
 ·rw[zt0]at hp;exact hp
 ·rw[zqc hk]at hp;exact hp
 rw[znh]at hp;exact he i T hp
theorem zbc.deedAt{d:Dd}(h:zbc base w0 S D G pw t tk (zat ex j (Th.dd base E d)) wk):zdq wk E 0 d/\∀o,o<7->wk.frozen? ⟨E,o,none⟩=false:=by
 obtain⟨T,h1⟩:=h.box j
 rw[zaz]at h1
 exact h1.2
theorem zbc.stepAt(h:zbc base w0 S D G pw t tk (zat ex j (Th.st base E x)) wk):zt7 wk E 0 x:=by
 obtain⟨T,h1⟩:=h.box j
 rw[zaz]at h1
 exact h1.2
theorem zbc.store{d0:Dd}(h:zbc base w0 S D G pw t tk (zat ex j (Th.dd base E d0)) wk)(d:Dd):zbc base w0 S D G pw t tk (zat ex j (Th.dd base E d)) (((((((wk.setCell ⟨E,0,none⟩ (.int .i64 d.kind)).setCell ⟨E,1,none⟩ (.int .i64 d.by_)).setCell ⟨E,2,none⟩ (.int .i64 d.no)).setCell ⟨E,3,none⟩ (.int .i64 d.seen)).setCell ⟨E,4,none⟩ (.int .i64 d.at_)).setCell ⟨E,5,none⟩ (.int .i64 d.many)).setCell ⟨E,6,none⟩ (.string d.text)):=by
 obtain⟨T,h1,_,h3⟩:=h.boxed j
 rw[zaz]at h1
 obtain⟨hT,⟨hlt,c0,c1,c2,c3,c4,c5,c6⟩,hf⟩:=h1
 simp only[Nat.zero_add]at c0 c1 c2 c3 c4 c5 c6
 have hk:zam T wk (((((((wk.setCell ⟨E,0,none⟩ (.int .i64 d.kind)).setCell ⟨E,1,none⟩ (.int .i64 d.by_)).setCell ⟨E,2,none⟩ (.int .i64 d.no)).setCell ⟨E,3,none⟩ (.int .i64 d.seen)).setCell ⟨E,4,none⟩ (.int .i64 d.at_)).setCell ⟨E,5,none⟩ (.int .i64 d.many)).setCell ⟨E,6,none⟩ (.string d.text)):=
  ((((((((zam.refl T wk).set (p:=⟨E,0,none⟩) hT _).set (p:=⟨E,1,none⟩) hT _).set (p:=⟨E,2,none⟩) hT _).set (p:=⟨E,3,none⟩) hT _).set (p:=⟨E,4,none⟩) hT _).set (p:=⟨E,5,none⟩) hT _).set (p:=⟨E,6,none⟩) hT _)
 refine(h3 (Th.dd base E d) _ hk ⟨.inl hT,zdq.written hlt d (fun o ho=> ?_),fun o ho=> ?_⟩).other (fun i T hp=> ?_)
 ·rcases zm0 ho with rfl|rfl|rfl|rfl|rfl|rfl|rfl
  ·exact⟨_,c0⟩
  ·exact⟨_,c1⟩
  ·exact⟨_,c2⟩
  ·exact⟨_,c3⟩
  ·exact⟨_,c4⟩
  ·exact⟨_,c5⟩
  exact⟨_,c6⟩
 ·simpa [go_sem]using hf o ho
 by_cases e:i=j
 ·subst e;rw[zaz]at hp⊢;exact hp
 rw[za4 _ _ e]at hp⊢;rw[za4 _ _ e]at hp;exact hp
structure zil(base D G:Nat)(pw:Nat->Nat)(t:Twn)(tk:Int->List (List Ch))(w:World)(S:Nat->Prop):Prop where
 lo:∀k,S k->base<=k/\k<w.heap.size
 own:∃ow,HpAt base (zvz base D G pw t tk (fun _=>Th.no base)) ow w/\∀k,ow k≠0->S k
def zhe(base:Nat)(w:World)(S:Nat->Prop)(D G:Nat)(pw:Nat->Nat)(t:Twn)(tk:Int->List (List Ch))(w':World):Prop:=zil base D G pw t tk w' (grow S w w')/\zam S w w'
theorem zil.start(h:zil base D G pw t tk w S):zbc base w S D G pw t tk (fun _=>Th.no base) w:=by
 obtain⟨ow,h1,h2⟩:=h.own
 exact⟨ow,h1,fun k e=> .inl (h2 k e),zam.refl _ _⟩
theorem zil.base_le(h:zil base D G pw t tk w S):base<=w.heap.size:=by
 obtain⟨ow,h1,h2⟩:=h.own
 exact h1.bs
theorem zbc.bare(h:zbc base w0 S D G pw t tk ex wk):zbc base w0 S D G pw t tk (fun _=>Th.no base) wk:=by
 refine zif h (fun T hp=> ?_) (fun T hp=> ?_) (fun k hk T hp=> ?_) (fun i T hp=>trivial)
 ·rw[zn6]at hp;exact hp
 ·rw[zt0]at hp;exact hp
 rw[zqc hk]at hp;exact hp
theorem zbc.done(h:zbc base w S D G pw t tk ex w')(hl:base<=w.heap.size/\∀k,S k->base<=k/\k<w.heap.size):zhe base w S D G pw t tk w':=by
 have hk:=Hq.kept h
 have hs:=hk.size
 obtain⟨ow,h1⟩:=h.bare
 refine⟨⟨fun k e=> ?_,ow,h1.at_,h1.old⟩,hk⟩
 rcases e with e|e
 ·have:=hl.2 k e;omega
 omega
theorem zil.held(h:zil base D G pw t tk w S):base<=w.heap.size/\∀k,S k->base<=k/\k<w.heap.size:=⟨h.base_le,h.lo⟩
end
theorem zbc.call{base D G:Nat}{pw:Nat->Nat}{ex:Nat->Th base}{w0 wk:World}{S:Nat->Prop}(h:zbc base w0 S D G pw t tk ex wk):
 ∃T,zil base D G pw t tk wk T/\∀pw' t' tk' w',zhe base wk T D G pw' t' tk' w'->zbc base w0 S D G pw' t' tk' ex w':=by
 obtain⟨ow,h⟩:=h
 have hat:=h.at_
 refine⟨fun k=>ow k≠0/\ow k<7,⟨fun k e=>hat.lo k e.1,fun k=>if ow k<7 then ow k else 0,⟨fun k e=> ?_,hat.bs,fun i hi=> ?_⟩,fun k e=> ?_⟩,fun pw' t' tk' w' ht=> ?_⟩
 ·by_cases h7:ow k<7
  ·rw[if_pos h7]at e;exact hat.lo k e
  rw[if_neg h7]at e;exact absurd rfl e
 ·by_cases h7:i<7
  ·have h1:(zvz base D G pw t tk (fun _=>Th.no base) i).P wk (fun k=>ow k=i):=by
    have h2:=hat.at_ i hi
    unfold zvz at h2⊢
    by_cases e1:i=1
    ·rw[if_pos e1]at h2⊢;exact h2
    rw[if_neg e1]at h2⊢
    by_cases e6:i=6
    ·rw[if_pos e6]at h2⊢;exact h2
    rw[if_neg e6]at h2⊢
    rw[if_pos (by omega)]at h2⊢
    exact h2
   refine(zvz base D G pw t tk (fun _=>Th.no base) i).mono h1 (fun k e=> ?_) (fun k e=> ?_)
   ·rw[if_pos (by omega)];exact e
   by_cases h7:ow k<7
   ·rw[if_pos h7]at e;exact hat.lo k (by omega)
   rw[if_neg h7]at e;omega
  obtain⟨j,rfl⟩:∃j,i=7+j:=⟨i-7,by omega⟩
  rw[znh]
  trivial
 ·have e:(if ow k<7 then ow k else 0)≠0:=e
  by_cases h7:ow k<7
  ·rw[if_pos h7]at e;exact⟨e,h7⟩
  rw[if_neg h7]at e;exact absurd rfl e
 obtain⟨hd,hk⟩:=ht
 obtain⟨ow2,h2,h3⟩:=hd.own
 have hs:=hk.size
 have hs0:=h.kept.size
 have ap:∀k,7<=ow k->ow2 k=0:=fun k e=>by
  by_cases hz:ow2 k=0
  ·exact hz
  have hlt:=(hat.lo k (by omega)).2
  rcases h3 k hz with x|x
  ·omega
  omega
 have hlo:∀k,(if 7<=ow k then ow k else if ow2 k<7 then ow2 k else 0)≠0->base<=k/\k<w'.heap.size:=fun k e=>by
  by_cases h7:7<=ow k
  ·have:=hat.lo k (by omega);omega
  rw[if_neg h7]at e
  by_cases h8:ow2 k<7
  ·rw[if_pos h8]at e;exact h2.lo k e
  rw[if_neg h8]at e;exact absurd rfl e
 refine⟨fun k=>if 7<=ow k then ow k else if ow2 k<7 then ow2 k else 0,⟨hlo,h2.bs,fun i hi=> ?_⟩,fun k e=> ?_,h.kept.trans (hk.wider (fun k e=>h.old k e.1))⟩
 ·by_cases h7:i<7
  ·have h1:(zvz base D G pw' t' tk' ex i).P w' (fun k=>ow2 k=i):=by
    have h4:=h2.at_ i hi
    unfold zvz at h4⊢
    by_cases e1:i=1
    ·rw[if_pos e1]at h4⊢;exact h4
    rw[if_neg e1]at h4⊢
    by_cases e6:i=6
    ·rw[if_pos e6]at h4⊢;exact h4
    rw[if_neg e6]at h4⊢
    rw[if_pos (by omega)]at h4⊢
    exact h4
   refine(zvz base D G pw' t' tk' ex i).mono h1 (fun k e=> ?_) (fun k e=>hlo k (by rw[e];exact hi))
   have:¬7<=ow k:=fun x=>by have:=ap k x;omega
   rw[if_neg this,if_pos (by omega)];exact e
  obtain⟨j,rfl⟩:∃j,i=7+j:=⟨i-7,by omega⟩
  have h4:=hat.at_ (7+j) hi
  rw[znh]at h4⊢
  have h5:=(ex j).kept (fun k e=>hat.lo k (by omega)) h4 hk (fun k e x=>by omega)
  refine(ex j).mono h5 (fun k e=> ?_) (fun k e=>hlo k (by omega))
  rw[if_pos (by omega)];exact e
 by_cases h7:7<=ow k
 ·rcases h.old k (by omega)with x|x
  ·exact .inl x
  exact .inr ⟨x.1,by omega⟩
 rw[if_neg h7]at e
 have hz:ow2 k≠0:=fun x=>by rw[x]at e;exact e rfl
 rcases h3 k hz with x|x
 ·rcases h.old k x.1 with y|y
  ·exact .inl y
  exact .inr ⟨y.1,by omega⟩
 exact .inr ⟨by omega,x.2⟩
variable {b:Bk} {seen j:Nat}
theorem zz3{α:Type}(f:Int->α)(v:Int)(x y:α):zai (zai f v x) v y=zai f v y:=by
 funext k
 by_cases e:k=v
 ·subst e;rw[zag,zag]
 rw[zab _ _ e,zab _ _ e,zab _ _ e]
theorem zvg(r:Wr)(e:Dd):(zkw r e).list=doL r.list e za3:=by
 show zaj r.base (r.opens++[e])=doL (zaj r.base r.opens) e za3
 rw[zjt]
theorem qc2{t:Twn}{tk:Int->List (List Ch)}(h:TR t tk){v:Int}{r:Wr}(he:t.ws v=some r):(zgt r (zba t.b r.seen)).list=ofL (zba t.b r.seen) r.list:=by
 obtain⟨_,c,hi⟩:=h.ti.wi v r he
 obtain⟨l1,l2⟩:=zur t.b r.seen
 obtain⟨_,_,h2⟩:=hi.clears h.ti.good l1 l2
 exact h2
def zgi(b:Bk)(seen j:Nat):Int:=((b.ds.drop seen).take j).foldl (fun n d=>if d.seen<n then d.seen else n) (zap b)
theorem zqr(h:seen+j<b.ds.length):zgi b seen (j+1)=min (zgi b seen j) b.ds[seen+j].seen:=by
 have hj:j<(b.ds.drop seen).length:=by rw[List.length_drop];omega
 unfold zgi
 rw[zjq _ _ hj,List.foldl_append,List.getElem_drop]
 show(if b.ds[seen+j].seen<_ then _ else _)=_
 generalize List.foldl (fun n (d:Dd)=>if d.seen<n then d.seen else n) (zap b) (List.take j (List.drop seen b.ds))=m
 generalize b.ds[seen+j].seen=n
 split<;>omega
theorem ztw(h:b.ds.length<=seen+j):zgi b seen j=zba b seen:=by
 unfold zgi zba
 rw[List.take_of_length_le (by rw[List.length_drop];omega)]
theorem qfp{t:Twn}{tk:Int->List (List Ch)}(h:TR t tk){v:Int}{r:Wr}(he:t.ws v=some r){d:Dd}(hd:t.b.ds[r.seen]? =some d){w:World}{base P:Nat}{S:Nat->Prop}{lv ov:Value}{tvs:List Value}(hp:zd3 w base S P lv ov tvs r.list r.opens (tk v) r.me r.next r.seen r.sent):
 Calls Tryz.prog 166 #[.pointer (some ⟨P,0,none⟩),ddV d] w fun e w'=>e= .returned (.int .i64 (zbt r d))/\(zbt r d=0->zni w base S P (zb1 r d).list (zb1 r d).opens (zh2 r d (tk v)) (zb1 r d).me (zb1 r d).next (zb1 r d).seen (zb1 r d).sent w')/\(zbt r d≠0->Below w.heap.size w w'):=by
 have ho:=zbg h he
 obtain⟨hm,c,hi⟩:=h.ti.wi v r he
 have hr:=h.rel v r he
 have hg:=h.ti.good
 obtain⟨hl,rfl⟩:=List.getElem?_eq_some_iff.1 hd
 have h1:=ho.len
 have h2:=ho.few
 have h3:=ho.seen
 by_cases hb:t.b.ds[r.seen].by_=r.me
 ·obtain⟨es,hes,hsn⟩:=hi.own_first hl hb
  have hc:zbt r t.b.ds[r.seen]=0:=by
   rw[zbt,if_neg (fun x=>x hb),if_pos (by rw[hes];rfl)]
  have htl:=ho.tlen
  have hsl:=hi.sent
  cases htk:tk v with
  |nil=>rw[htk,hes]at htl;simp at htl
  |cons u us=>
   rw[htk]at hp hr
   obtain⟨s,hss⟩:∃s,r.sent=s+1:=⟨r.sent-1,by omega⟩
   obtain⟨_,r2⟩:=hr.hears_own hi hg hl hes
   have e1:(zb1 r t.b.ds[r.seen])=⟨r.me,r.seen+1,r.next,doL r.base t.b.ds[r.seen] ((r.seen:Int)+1),es,s⟩:=by
    rw[zb1,if_neg (fun x=>x hb),hes,hss];rfl
   have e2:zh2 r t.b.ds[r.seen] (u::us)=us.map fun u=>u.map (zef t.b.ds[r.seen].no ((r.seen:Int)+1)):=by
    rw[zh2,if_neg (fun x=>x hb)];rfl
   have e3:Wr.list ⟨r.me,r.seen+1,r.next,doL r.base t.b.ds[r.seen] ((r.seen:Int)+1),es,s⟩=r.list.map (zf2 t.b.ds[r.seen].no ((r.seen:Int)+1) u):=r2
   rw[hes,hss]at hp
   have hes2:es.length<=1000:=by rw[hes]at h2;simp at h2;omega
   have hst:s<=1000:=by rw[hes]at h2 hsl;simp at h2 hsl;omega
   refine(qfm (sent:=s) (by simpa using hp) hb (by omega) hes2 (by rw[<-htk];exact ho.took) (by omega) hst).mono ?_
   rintro e w' ⟨rfl,hto⟩
   rw[hc,e1,e2]
   refine⟨rfl,fun _=> ?_,fun x=>absurd rfl x⟩
   rw[e3]
   simpa using hto
 have hc:zbt r t.b.ds[r.seen]=doC r.list t.b.ds[r.seen] ((r.seen:Int)+1):=by rw[zbt,if_pos hb]
 have e1:(zb1 r t.b.ds[r.seen])=⟨r.me,r.seen+1,r.next,doL r.base t.b.ds[r.seen] ((r.seen:Int)+1),r.opens,r.sent⟩:=by rw[zb1,if_pos hb]
 have e2:zh2 r t.b.ds[r.seen] (tk v)=tk v:=by rw[zh2,if_pos hb]
 obtain⟨_,q2⟩:=hi.hears_other hg hl hb
 refine(hears_pw hp (by omega) ho.fits (by omega) _ hb).mono ?_
 rintro e w' ⟨rfl,h0,hn⟩
 rw[hc]
 refine⟨rfl,fun hz=> ?_,hn⟩
 rw[e1,e2]
 have e3:Wr.list ⟨r.me,r.seen+1,r.next,doL r.base t.b.ds[r.seen] ((r.seen:Int)+1),r.opens,r.sent⟩=doL r.list t.b.ds[r.seen] ((r.seen:Int)+1):=(q2 hz).1.symm
 rw[e3]
 simpa using h0 hz
end Go.Proofs.YtcbnnfeelhlapadGreatDoor