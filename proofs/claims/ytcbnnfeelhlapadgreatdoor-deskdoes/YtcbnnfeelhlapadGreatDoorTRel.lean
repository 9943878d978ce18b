/-
  The contract of writer.New.
-/
import Derived.Test.YtcbnnfeelhlapadGreatDoorWDoW
import Derived.Test.YtcbnnfeelhlapadGreatDoorFLists
import Derived.Test.YtcbnnfeelhlapadGreatDoorWRel
import Derived.Test.YtcbnnfeelhlapadGreatDoorFBig
import Derived.Test.YtcbnnfeelhlapadGreatDoorFDeeds
import Derived.Test.YtcbnnfeelhlapadGreatDoorWDo
import Derived.Test.YtcbnnfeelhlapadGreatDoorLgT
import Derived.Deep.QuietTactic
import Derived.Deep.Cut
import Derived.Test.YtcbnnfeelhlapadGreatDoorCDel
import Derived.Test.YtcbnnfeelhlapadGreatDoorLgS
import Derived.Test.YtcbnnfeelhlapadGreatDoorSGrow
namespace Go.Proofs.YtcbnnfeelhlapadGreatDoor
set_option maxHeartbeats 800000
set_option maxRecDepth 20000
open Go.RowKit
abbrev pwObj(me next seen:Int)(lv:Value):Obj:= .cells #[.int .i64 me,.int .i64 next,.int .i64 seen,lv,.slice none 0 0,.int .i64 0] 178
theorem pwAt_new{w w1:World}{v1:Value}{l:List Ch}(ho:Own w1 w.heap.size v1 l)(hb:Below w.heap.size w w1)(me next seen:Int):
 zcn (w1.alloc (pwObj me next seen v1)) w.heap.size (fun k=>w.heap.size≤k∧k<w1.heap.size+1) w1.heap.size v1 (.slice none 0 0) [] l [] [] me next seen 0:=by
 have hs:=hb.size
 refine⟨fun k hk=>by simpa using hk,⟨hs,by omega⟩,⟨by simp,?_,?_,?_,?_,?_,?_,fun o ho'=> ?_⟩,ho.below (za1 _ _),zza _ _,rfl,trivial,fun k e=> ?_,fun k e=>(by cases e),fun tv ht=>(by cases ht),List.Pairwise.nil⟩
 ·simp[go_sem]
 ·simp[go_sem]
 ·simp[go_sem]
 ·simp[go_sem]
 ·simp[go_sem]
 ·simp[go_sem]
 ·rcases(show o=0∨o=1∨o=2∨o=3∨o=4∨o=5 by omega)with rfl|rfl|rfl|rfl|rfl|rfl<;>simp[go_sem]
 ·have:=World.ownsRow.lt ho k e
  exact⟨⟨this.1,by omega⟩,by omega⟩
theorem new_pw{w:World}{v:Value}{l:List Ch}(h:Lst w v l)(hl:l.length≤1000)(me next seen:Int)(hw:wrB me=true)(hn:1≤next)(hs0:0≤seen)(hs:seen≤120)(hck:∀r,zl0 l seen r→r=0)(hno:(l.any fun x=>decide (x.inn=za0))=false):
 Calls Tryz.prog 114 #[.int .i64 me,.int .i64 next,.int .i64 seen,v] w fun e w'=>∃P v1,e= .returned (.pointer (some ⟨P,0,none⟩))∧zcn w' w.heap.size (fun k=>w.heap.size≤k∧k<w'.heap.size) P v1 (.slice none 0 0) [] l [] [] me next seen 0∧Below w.heap.size w w':=by
 have HL:Hid (Lst w v l):=h
 have HCK:Hid (∀r,zl0 l seen r→r=0):=hck
 have HNO:Hid ((l.any fun x=>decide (x.inn=za0))=false):=hno
 obtain⟨a,cap,rfl,_⟩:=h.len
 clear h hck hno
 go_enter Tryz.func114,Tryz.ntmps114
 go_wp2_with (go_at_call 116;refine(zbl _ _).mono ?_;rintro e wz ⟨rfl,hwz⟩;rw[hw,hwz];clear hwz wz)
 refine(qgi HL.out hl seen).mono ?_
 rintro e w1 ⟨r,rfl,hr,hb1⟩
 obtain rfl:=HCK.out r hr
 have HB1:Hid (Below w.heap.size w w1):=hb1
 clear hr hb1
 go_wp2_with fail
 refine(zn9 (zuv w1.heap.size) (HL.out.below HB1.out) (Nat.le_refl _) hl trivial).mono ?_
 rintro e w2 ⟨rfl,hb2⟩
 rw[HNO.out]
 have HB2:Hid (Below w.heap.size w w2):=bla HB1.out hb2
 clear hb2 HB1
 go_wp2_with fail
 refine(zhw (HL.out.below HB2.out) (by omega)).mono ?_
 rintro e w3 ⟨v3,rfl,ho3,hb3⟩
 have HB3:Hid (Below w.heap.size w w3):=bla HB2.out hb3
 have HP:Hid (zcn (w3.alloc (pwObj me next seen v3)) w.heap.size (fun k=>w.heap.size≤k∧k<w3.heap.size+1) w3.heap.size v3 (.slice none 0 0) [] l [] [] me next seen 0):=pwAt_new (ho3.mono HB2.out.size) HB3.out me next seen
 obtain⟨va,vc,rfl,_⟩:=ho3.lst.len
 clear ho3 hb3 HB2
 go_wp2
 go_ret
 exact⟨w3.heap.size,_,rfl,by simpa using HP.out,HB3.out.trans ((za1 _ _).mono HB3.out.size)⟩
end Go.Proofs.YtcbnnfeelhlapadGreatDoor
namespace Go.Proofs.YtcbnnfeelhlapadGreatDoor
set_option maxHeartbeats 800000
open Go.RowKit
structure zvt(l:List Ch)(es:List Dd):Prop where
 ok:∀k (h:k<es.length),doC (zai l (es.take k)) es[k] za0=0
 tame:∀k,k≤es.length→zgs (zai l (es.take k))∧(zai l (es.take k)).length≤1000
theorem qdi{b:Bk}{c:Int}{r:Wr}(h:WI b c r)(hg:zcm b):zgs r.base:=fun x hx=>by have:=h.no_open hg x hx;omega
theorem WI.topOk{b:Bk}{c:Int}{r:Wr}(h:WI b c r)(hg:zcm b):zvt r.base r.opens:=by
 obtain⟨hok,hbl⟩:=h.ok hg
 have ht:=qdi h hg
 have key:∀(es:List Dd) (l:List Ch),okTop l es→zgs l→l.length≤200→(∀k (hk:k<es.length),doC (zai l (es.take k)) es[k] za0=0)∧∀k,k≤es.length→zgs (zai l (es.take k))∧(zai l (es.take k)).length≤200:=by
  intro es
  induction es with
  |nil=>intro l _ ht hl;exact⟨fun k hk=>absurd hk (Nat.not_lt_zero _),fun k _=>by simpa [zai]using⟨ht,hl⟩⟩
  |cons e es ih=>
   intro l ho ht hl
   have hz:=zc2 ho.1
   have hlen:=zsx (l:=l) (number:=za0) (zah hz.1).2.2.2.2.2.2.2.2.2.2.2
   obtain⟨i1,i2⟩:=ih (doL l e za0) ho.2 (zyp ht hz.1 (by decide)) (by omega)
   refine⟨fun k hk=> ?_,fun k hk=> ?_⟩
   ·cases k with
    |zero=>exact ho.1
    |succ k=>exact i1 k (by simpa using hk)
   ·cases k with
    |zero=>exact⟨ht,hl⟩
    |succ k=>exact i2 k (by simpa using hk)
 obtain⟨k1,k2⟩:=key r.opens r.base hok ht hbl
 exact⟨k1,fun k hk=>⟨(k2 k hk).1,by have:=(k2 k hk).2;omega⟩⟩
theorem Rel.took_len{r:Wr}{ts:List (List Ch)}(h:Rel r ts)(hl:r.list.length≤200)(hf:zdy r.base r.opens):∀t∈ts,t.length≤1000:=by
 have key:∀(es:List Dd) (ts:List (List Ch)) (l:List Ch),znf l es ts→zdy l es→(zai l es).length≤200→∀t∈ts,t.length≤200:=by
  intro es
  induction es with
  |nil=>intro ts l h _ _ t ht;cases ts with
   |nil=>cases ht
   |cons _ _=>exact h.elim
  |cons e es ih=>
   intro ts l h hf hl t ht
   cases ts with
   |nil=>exact h.elim
   |cons t0 ts=>
    rcases List.mem_cons.1 ht with rfl|ht
    ·have h1:=congrArg List.length h.1
     rw[List.length_map,List.length_map]at h1
     have h2:(zep l e).length≤l.length:=by
      unfold zep
      rw[List.length_take,List.length_drop]
      have:=List.length_filter_le (za5 e.seen e.by_) l
      omega
     obtain⟨_,h3⟩:=zpd (e::es) l hf hl
     omega
    ·exact ih ts _ h.2 hf.2 hl t ht
 intro t ht
 have:=key r.opens ts r.base h.tk hf hl t ht
 omega
end Go.Proofs.YtcbnnfeelhlapadGreatDoor
namespace Go.Proofs.YtcbnnfeelhlapadGreatDoor
set_option maxHeartbeats 800000
open Go Go.RowKit
section
variable {P:Program} {ops:Array Oper} {U:World→Prop} {sp fin:Nat→Bool}
theorem wsb{Q:Act→World→Prop}{a:Act}{o:Oper}{rest:List Oper}{k:Nat}{D:World→Prop}(d:Option Tmp)(w0:World)(hs:sp k=false)(v:Value)(hd:o.dst=d)(hw:Region.wanted o (yielded ops a.tmps)=true)
 (hrun:∀w,U w→(execOp a.eval o).run P w= .ok (.value v) w) (h:Oper.quiet P ⟨d,.move (.const v),0,"",#[],none⟩ a (fun _=>True) (fun a'=>zd6 P ops U sp Q rest (k+1) a' D)):zd6 P ops U sp Q (o::rest) k a D:=
 wss hs fun K hK=>by
  rw[if_pos hw]
  refine⟨v,hrun,hK _ ?_⟩
  rw[hd]
  exact zcp w0 h
theorem zaa{Q:Act→World→Prop}{a:Act}{o:Oper}{rest:List Oper}{k:Nat}{D:World→Prop}(d:Option Tmp)(w0:World)(hs:sp k=true)(hg:o.guard=none)(hd:o.dst=d)(p:Value→Prop)(D':Value→World→Prop)(hp:∃v,p v)(hU:∀v w,D' v w→U w)
 (hrun:∀w,D w→zb5 P (fun v w'=>p v∧D' v w') ((execOp a.eval o).run P w)) (h:∀v,p v→Oper.quiet P ⟨d,.move (.const v),0,"",#[],none⟩ a (fun _=>True) (fun a'=>zd6 P ops U sp Q rest (k+1) a' (D' v))):zd6 P ops U sp Q (o::rest) k a D:=
 wsp hs hg p D' hp hU hrun fun v hv=>by
  rw[hd]
  exact zcp w0 (h v hv)
theorem zb1{Q:Act→World→Prop}{a:Act}{o:Oper}{rest:List Oper}{k:Nat}{D:World→Prop}(d:Option Tmp)(w0:World)(hs:sp k=false)(v:Value)(hd:o.dst=d)(hw:Region.wanted o (yielded ops a.tmps)=true)
 (hrun:∀w,U w→(execOp a.eval o).run P w= .ok (.value v) w) (h:Oper.quiet P ⟨d,.move (.const v),0,"",#[],none⟩ a (fun _=>True) (fun a'=>zgw P ops U sp fin Q rest (k+1) a' D)):zgw P ops U sp fin Q (o::rest) k a D:=
 zan hs fun K hK=>by
  rw[if_pos hw]
  refine⟨v,hrun,hK _ ?_⟩
  rw[hd]
  exact zcp w0 h
theorem zhc{Q:Act→World→Prop}{a:Act}{o:Oper}{rest:List Oper}{k:Nat}{D:World→Prop}(d:Option Tmp)(w0:World)(hs:sp k=true)(hg:o.guard=none)(hd:o.dst=d)(p:Value→Prop)(D':Value→World→Prop)(hp:∃v,p v)(hU:∀v w,D' v w→U w)
 (hrun:∀w,D w→zb5 P (fun v w'=>p v∧D' v w') ((execOp a.eval o).run P w)) (h:∀v,p v→Oper.quiet P ⟨d,.move (.const v),0,"",#[],none⟩ a (fun _=>True) (fun a'=>zgw P ops U sp fin Q rest (k+1) a' (D' v))):zgw P ops U sp fin Q (o::rest) k a D:=
 ze8 hs hg p D' hp hU hrun fun v hv=>by
  rw[hd]
  exact zcp w0 (h v hv)
end
abbrev zObj:Obj:= .cells #[.int .i64 0,.int .i64 0,.int .i64 0,.int .i64 0,.int .i64 0,.int .i64 0,.string ⟨#[]⟩] 124
def zbu(o:Bool)(P:Nat):Value:=if o=true then .pointer (some ⟨P,0,none⟩)else .pointer none
def zom(f:Nat→Nat)(k P:Nat):Nat→Nat:=fun j=>if j=k then P else f j
def setH(f:Nat→Bool)(k:Nat):Nat→Bool:=fun j=>if j=k then true else f j
theorem zcn.lower{w:World}{base base' P:Nat}{S:Nat→Prop}{lv ov:Value}{tvs:List Value}{l:List Ch}{ts:List (List Ch)}{me next seen sent:Int}(h:zcn w base S P lv ov tvs l [] ts me next seen sent)(hts:ts=[])(hov:ov= .slice none 0 0)(hb:base'≤base):zcn w base' S P lv ov tvs l [] ts me next seen sent:=by
 subst hts
 subst hov
 have htv:tvs=[]:=List.length_eq_zero_iff.1 h.len
 subst htv
 exact⟨fun k e=>⟨by have:=(h.lo k e).1;omega,(h.lo k e).2⟩,h.hP,h.cells,h.ownL.mono hb,zza _ _,rfl,trivial,h.lB,h.oB,h.tB,h.tD⟩
structure WOk(r:Wr)(ts:List (List Ch)):Prop where
 len:r.list.length≤200
 fits:zg7 r.list
 few:r.opens.length≤120
 n1:1≤r.next
 n2:r.next≤121
 top:zvt r.base r.opens
 base:r.base.length≤200
 tame:zgs r.base
 took:∀t∈ts,t.length≤1000
 seen:r.seen≤120
 tlen:ts.length=r.opens.length
theorem qfk{w:World}{base P:Nat}{S:Nat→Prop}{lv ov:Value}{tvs:List Value}{l t:List Ch}{d:Dd}{es:List Dd}{ts:List (List Ch)}{me next:Int}{seen sent:Nat}(h:zcn w base S P lv ov tvs l (d::es) (t::ts) me next seen ((sent:Int)+1))(hb:d.by_=me)(hl:l.length≤1000)(hes:es.length≤1000)(hts:∀u∈t::ts,u.length≤1000)(hsn:seen≤1000)(hst:sent≤1000):
 Calls Tryz.prog 166 #[.pointer (some ⟨P,0,none⟩),ddV d] w fun e w'=>e= .returned (.int .i64 0)∧znj w base S P (l.map (zf6 d.no ((seen:Int)+1) t)) es (ts.map fun u=>u.map (ze2 d.no ((seen:Int)+1))) me next ((seen:Int)+1) sent w':=by
 have hlo:=h.lo
 have hba:=h.base_le
 cases tvs with
 |nil=>exact absurd h.len (by simp)
 |cons tv tvs=>
  refine(zxe h d hb (fun c w'=>c=0∧znj w base S P (l.map (zf6 d.no ((seen:Int)+1) t)) es (ts.map fun u=>u.map (ze2 d.no ((seen:Int)+1))) me next ((seen:Int)+1) sent w') (fun wk hj=> ?_)).mono ?_
  ·refine(zxi (h.below hj.below) hl hes hts hsn hst).mono ?_
   rintro e w' ⟨rfl,⟨ov',hat⟩,hk⟩
   have hs1:=hj.below.size
   have hs2:=hk.size
   refine⟨0,rfl,rfl,znj.of (hat.mono (fun k e=> .inl e) (fun k e=> ?_)) ((zak.of_below hj.below).trans' hk)⟩
   rcases e with e|e
   ·have:=hlo k e;omega
   ·omega
  ·rintro e w' ⟨c,rfl,rfl,ht⟩
   exact⟨rfl,ht⟩
theorem zuu{b:Bk}{i:Nat}(hi:i<b.ds.length):isD b ((i:Int)+1)=true∧zq7 b ((i:Int)+1)=b.ds[i]:=by
 have hl:b.len=(b.ds.length:Int):=rfl
 refine⟨by rw[isD,hl];simp;omega,?_⟩
 rw[zq7,if_pos (by rw[hl];omega),show((i:Int)+1-1).toNat=i by omega]
 simp[hi]
theorem is_no{b:Bk}{i:Nat}(hi:¬i<b.ds.length):isD b ((i:Int)+1)=false:=by
 have hl:b.len=(b.ds.length:Int):=rfl
 rw[isD,hl];simp;omega
theorem zsq(b:Bk)(v:Int):(zbw b v).ds=b.ds:=by
 unfold zbw
 split<;>rfl
theorem zp8(b:Bk)(v:Int):(zbw b v).chars=b.chars:=by
 show(zgv [] 0 (zbw b v).ds).1=(zgv [] 0 b.ds).1
 rw[zsq]
theorem qbl{b:Bk}(hg:zcm b):∀r,zl0 b.chars (b.ds.length:Int) r→r=0:=fun r hr=>by
 have h:=zco hg b.ds.length (Nat.le_refl _)
 rw[zjj]at h
 exact qb5 h.1 h.2 hr
theorem qfq{b:Bk}(hg:zcm b):(b.chars.any fun x=>decide (x.inn=za0))=false:=by
 have h:=zco hg b.ds.length (Nat.le_refl _)
 rw[zjj]at h
 have hs:=hg.small
 rw[List.any_eq_false]
 intro x hx
 have:=(h.1.inn x hx).2
 have ho:(za0:Int)=1073741824:=rfl
 simp
 omega
theorem zim{P:Program}{ops:Array Oper}{U:World→Prop}{sp:Nat→Bool}{Q:Act→World→Prop}{a:Act}{o:Oper}{rest:List Oper}{k:Nat}{D:World→Prop}(hs:sp k=true)(hg:o.guard=none)(hd:o.dst=none)(D':World→Prop)(hU:∀w,D' w→U w)
 (hrun:∀w,D w→zb5 P (fun _ w'=>D' w') ((execOp a.eval o).run P w)) (h:zd6 P ops U sp Q rest (k+1) a D'):zd6 P ops U sp Q (o::rest) k a D:=
 wsp hs hg (fun _=>True) (fun _=>D') ⟨undef,trivial⟩ (fun _=>hU) (fun w hw=>by
  have:=hrun w hw
  revert this
  cases (execOp a.eval o).run P w<;>simp[zb5]) fun v _=>by
  rw[hd]
  exact h
abbrev logZ:Array Value:= #[.bool false,.int .i64 0,.int .i64 0,.bool false,.int .i64 0,.int .i64 0,.bool false,.int .i64 0,.int .i64 0,.bool false,.int .i64 0,.int .i64 0,.slice none 0 0,.slice none 0 0]
theorem zx2(w:World){base:Nat}(hb:base≤w.heap.size):zbq (w.alloc (.cells logZ 104)) base (fun k=>k=w.heap.size) w.heap.size (.slice none 0 0) (.slice none 0 0) Bk.empty:=by
 refine⟨fun k e=>⟨by omega,by simp;omega⟩,rfl,⟨by simp,fun j hj=> ?_,fun j hj=> ?_,fun j hj=> ?_,by simp[go_sem],by simp[go_sem],fun o ho=> ?_⟩,World.ownsRow_nil _ _ _ _,World.ownsRow_nil _ _ _ _,fun k e=>by simp[Value.ownBlock]at e,fun k e=>by simp[Value.ownBlock]at e⟩
 ·rcases(show j=0∨j=1∨j=2∨j=3 by omega)with rfl|rfl|rfl|rfl<;>simp[go_sem,Bk.empty]
 ·rcases(show j=0∨j=1∨j=2∨j=3 by omega)with rfl|rfl|rfl|rfl<;>simp[go_sem,Bk.empty]
 ·rcases(show j=0∨j=1∨j=2∨j=3 by omega)with rfl|rfl|rfl|rfl<;>simp[go_sem,Bk.empty]
 ·rcases(show o=0∨o=1∨o=2∨o=3∨o=4∨o=5∨o=6∨o=7∨o=8∨o=9∨o=10∨o=11∨o=12∨o=13 by omega)with rfl|rfl|rfl|rfl|rfl|rfl|rfl|rfl|rfl|rfl|rfl|rfl|rfl|rfl<;>simp[go_sem]
theorem newL_lg(w:World):Calls Tryz.prog 20 #[] w fun e w'=>e= .returned (.pointer (some ⟨w.heap.size,0,none⟩))∧w'=w.alloc (.cells logZ 104):=by
 go_enter Tryz.func20,Tryz.ntmps20
 go_wp2
 go_ret
 exact⟨rfl,rfl⟩
end Go.Proofs.YtcbnnfeelhlapadGreatDoor
namespace Go.Proofs.YtcbnnfeelhlapadGreatDoor
set_option maxHeartbeats 800000
open Go.RowKit
structure Th(base:Nat) where
 P:World→(Nat→Prop)→Prop
 kept:∀{w w':World} {S T:Nat→Prop},(∀k,S k→base≤k∧k<w.heap.size)→P w S→zak T w w'→(∀k,S k→¬T k)→P w' S
 mono:∀{w:World} {S T:Nat→Prop},P w S→(∀k,S k→T k)→(∀k,T k→base≤k∧k<w.heap.size)→P w T
def Th.no(base:Nat):Th base:=⟨fun _ _=>True,fun _ _ _ _=>trivial,fun _ _ _=>trivial⟩
def Th.blk(base B:Nat)(C:World→Prop)(hC:∀w w':World,w.heap.size≤w'.heap.size→w'.heap[B]? =w.heap[B]? →C w→C w'):Th base:=
 ⟨fun w S=>S B∧C w,fun hl h hk hd=>⟨h.1,hC _ _ hk.size (hk.block B (hl B h.1).2 (hd B h.1)) h.2⟩,fun h hT _=>⟨hT B h.1,h.2⟩⟩
def Th.log(base G:Nat)(b:Bk):Th base:=
 ⟨fun w S=>∃dv lv,zbq w base S G dv lv b,fun _ h hk hd=>by obtain⟨dv,lv,h⟩:=h;exact⟨dv,lv,h.kept hk hd⟩,fun h hT hl=>by obtain⟨dv,lv,h⟩:=h;exact⟨dv,lv,h.mono hT hl⟩⟩
def Th.pw(base P:Nat)(r:Wr)(ts:List (List Ch)):Th base:=
 ⟨fun w S=>∃lv ov tvs,zcn w base S P lv ov tvs r.list r.opens ts r.me r.next r.seen r.sent,fun _ h hk hd=>by obtain⟨lv,ov,tvs,h⟩:=h;exact⟨lv,ov,tvs,h.kept hk hd⟩,fun h hT hl=>by obtain⟨lv,ov,tvs,h⟩:=h;exact⟨lv,ov,tvs,h.mono hT hl⟩⟩
section
variable {base:Nat} {cs:Nat→Th base} {w w':World}
def zag(cs:Nat→Th base)(i:Nat)(c:Th base):Nat→Th base:=fun j=>if j=i then c else cs j
theorem zb4(cs:Nat→Th base)(i:Nat)(c:Th base):zag cs i c i=c:=if_pos rfl
theorem za2(cs:Nat→Th base){i j:Nat}(c:Th base)(h:j≠i):zag cs i c j=cs j:=if_neg h
structure HpAt(base:Nat)(cs:Nat→Th base)(ow:Nat→Nat)(w:World):Prop where
 lo:∀k,ow k≠0→base≤k∧k<w.heap.size
 bs:base≤w.heap.size
 at_:∀i,i≠0→(cs i).P w (fun k=>ow k=i)
def zsf(ow:Nat→Nat)(i:Nat)(w w':World):Nat→Nat:=fun k=>if k<w.heap.size then ow k else if k<w'.heap.size then i else 0
theorem HpAt.turn{ow:Nat→Nat}(h:HpAt base cs ow w){i:Nat}(hi:i≠0){c:Th base}(hk:zak (fun k=>ow k=i) w w')(hc:c.P w' (grow (fun k=>ow k=i) w w')):HpAt base (zag cs i c) (zsf ow i w w') w':=by
 have hlo:∀j,j≠0→∀k,ow k=j→base≤k∧k<w.heap.size:=fun j hj k e=>h.lo k (by rw[e];exact hj)
 have hs:=hk.size
 have hb:=h.bs
 have hl':∀k,zsf ow i w w' k≠0→base≤k∧k<w'.heap.size:=by
  intro k hk'
  unfold zsf at hk'
  by_cases h1:k<w.heap.size
  ·rw[if_pos h1]at hk'
   have:=h.lo k hk'
   omega
  ·rw[if_neg h1]at hk'
   by_cases h2:k<w'.heap.size
   ·omega
   ·rw[if_neg h2]at hk';exact absurd rfl hk'
 refine⟨hl',Nat.le_trans hb hs,fun j hj=> ?_⟩
 by_cases e:j=i
 ·subst e
  rw[zb4]
  refine c.mono hc (fun k e=> ?_) (fun k e=>hl' k (by rw[e];exact hj))
  unfold zsf
  rcases e with e|e
  ·rw[if_pos (hlo j hj k e).2];exact e
  ·rw[if_neg (by omega),if_pos e.2]
 ·rw[za2 _ _ e]
  have h1:=(cs j).kept (hlo j hj) (h.at_ j hj) hk (fun k e1 e2=>e (by rw[←e1,e2]))
  refine(cs j).mono h1 (fun k e1=> ?_) (fun k e1=>hl' k (by rw[e1];exact hj))
  unfold zsf
  rw[if_pos (hlo j hj k e1).2]
  exact e1
structure HqAt(base:Nat)(cs:Nat→Th base)(w0:World)(S:Nat→Prop)(ow:Nat→Nat)(wk:World):Prop where
 at_:HpAt base cs ow wk
 old:∀k,ow k≠0→grow S w0 wk k
 kept:zak S w0 wk
def Hq(base:Nat)(cs:Nat→Th base)(w0:World)(S:Nat→Prop)(wk:World):Prop:=∃ow,HqAt base cs w0 S ow wk
variable {w0 wk:World} {S:Nat→Prop}
theorem zak.wider{S T:Nat→Prop}(h:zak S w w')(hT:∀k,S k→T k):zak T w w':=⟨h.os,h.tape,h.output,h.size,fun k hk hn=>h.block k hk (fun e=>hn (hT k e))⟩
theorem Hq.base_le(h:Hq base cs w0 S wk):base≤wk.heap.size:=by
 obtain⟨_,h⟩:=h
 exact h.at_.bs
theorem Hq.kept(h:Hq base cs w0 S wk):zak S w0 wk:=by
 obtain⟨_,h⟩:=h
 exact h.kept
theorem Hq.turn(h:Hq base cs w0 S wk){i:Nat}(hi:i≠0):∃T,(cs i).P wk T∧(∀k,T k→base≤k∧k<wk.heap.size)∧∀(c:Th base) (w':World),zak T wk w'→c.P w' (grow T wk w')→Hq base (zag cs i c) w0 S w':=by
 obtain⟨ow,h⟩:=h
 have hlo:∀k,ow k=i→base≤k∧k<wk.heap.size:=fun k e=>h.at_.lo k (by rw[e];exact hi)
 refine⟨fun k=>ow k=i,h.at_.at_ i hi,hlo,fun c w' hk hc=>⟨zsf ow i wk w',h.at_.turn hi hk hc,fun k e=> ?_,h.kept.trans (hk.wider (fun k e=>h.old k (by rw[e];exact hi)))⟩⟩
 have hs:=hk.size
 have hs0:=h.kept.size
 unfold zsf at e
 by_cases h1:k<wk.heap.size
 ·rw[if_pos h1]at e
  rcases h.old k e with x|x
  ·exact .inl x
  ·exact .inr ⟨x.1,by omega⟩
 ·rw[if_neg h1]at e
  by_cases h2:k<w'.heap.size
  ·exact .inr ⟨by omega,h2⟩
  ·rw[if_neg h2]at e;exact absurd rfl e
theorem Hq.after(h:Hq base cs w0 S wk)(hb:Below wk.heap.size wk w'):Hq base cs w0 S w':=by
 obtain⟨ow,h⟩:=h
 have hs:=hb.size
 refine⟨ow,⟨fun k e=>⟨(h.at_.lo k e).1,Nat.lt_of_lt_of_le (h.at_.lo k e).2 hs⟩,Nat.le_trans h.at_.bs hs,fun i hi=> ?_⟩,fun k e=> ?_,h.kept.after hb⟩
 ·exact(cs i).kept (fun k e=>h.at_.lo k (by rw[e];exact hi)) (h.at_.at_ i hi) (zak.of_below (S:=fun _=>False) hb) (fun _ _ e=>e)
 ·rcases h.old k e with x|x
  ·exact .inl x
  ·exact .inr ⟨x.1,by omega⟩
theorem Hq.imp{cs':Nat→Th base}(h:Hq base cs w0 S wk)(hc:∀i,i≠0→∀T,(∀k,T k→base≤k∧k<wk.heap.size)→(cs i).P wk T→(cs' i).P wk T):Hq base cs' w0 S wk:=by
 obtain⟨ow,h⟩:=h
 exact⟨ow,⟨h.at_.lo,h.at_.bs,fun i hi=>hc i hi _ (fun k e=>h.at_.lo k (by rw[e];exact hi)) (h.at_.at_ i hi)⟩,h.old,h.kept⟩
theorem Hq.get(h:Hq base cs w0 S wk){i:Nat}(hi:i≠0):∃T,(cs i).P wk T∧∀k,T k→base≤k∧k<wk.heap.size:=by
 obtain⟨T,h1,h2,_⟩:=h.turn hi
 exact⟨T,h1,h2⟩
theorem Hq.lay(h:Hq base cs w0 S wk)(hb:Below wk.heap.size wk w'){i:Nat}(hi:i≠0)(c:Th base)(hc:c.P w' (fun k=>wk.heap.size≤k∧k<w'.heap.size)):Hq base (zag cs i c) w0 S w':=by
 obtain⟨T,_,h2,h3⟩:=h.turn hi
 have hs:=hb.size
 have hbs:=h.base_le
 refine h3 c w' (.of_below hb) (c.mono hc (fun k e=> .inr e) (fun k e=> ?_))
 rcases e with e|e
 ·have:=h2 k e;omega
 ·omega
theorem Hq.start(w:World):Hq w.heap.size (fun _=>Th.no _) w (fun _=>False) w:=⟨fun _=>0,⟨fun _ e=>absurd rfl e,Nat.le_refl _,fun _ _=>trivial⟩,fun _ e=>absurd rfl e,zak.refl _ _⟩
end
end Go.Proofs.YtcbnnfeelhlapadGreatDoor
namespace Go.Proofs.YtcbnnfeelhlapadGreatDoor
set_option maxHeartbeats 800000
structure TR(t:Twn)(tk:Int→List (List Ch)):Prop where
 ti:TwI t
 rel:∀k w,t.ws k=some w→Rel w (tk k)
theorem zhn{α:Type}(f:Int→α)(v:Int):zab f v (f v)=f:=by
 funext k
 by_cases e:k=v
 ·subst e;exact zaf _ _ _
 ·exact za9 _ _ e
section
variable {t t':Twn} {tk:Int→List (List Ch)} {v:Int} {w w':Wr}
theorem TR.set(h:TR t tk)(hti:TwI t')(hws:t'.ws=zab t.ws v (some w')){x:List (List Ch)}(hr:Rel w' x):TR t' (zab tk v x):=by
 refine⟨hti,fun k y hk=> ?_⟩
 rw[hws]at hk
 by_cases e:k=v
 ·subst e
  rw[zaf]at hk⊢
  obtain rfl:=Option.some.inj hk
  exact hr
 ·rw[za9 _ _ e]at hk⊢
  exact h.rel k y hk
theorem TR.same(h:TR t tk)(hti:TwI t')(hws:∀k w,t'.ws k=some w→t.ws k=some w):TR t' tk:=⟨hti,fun k w hk=>h.rel k w (hws k w hk)⟩
theorem zyh:TR ⟨Bk.empty,fun _=>none⟩ (fun _=>[]):=⟨qcr,fun _ _ e=>(by cases e)⟩
theorem qd1(h:TR t tk)(hc:zc6 t.b v=0):TR ⟨zbw t.b v,zab t.ws v (some (newW t.b v))⟩ (zab tk v []):=by
 have h1:=ti_join h.ti v
 unfold zsp at h1
 simp only[hc,if_true]at h1
 exact h.set h1 rfl (Rel.comes_in h.ti.good v)
theorem qd0(h:TR t tk)(hw:t.ws v=some w)(s:Tst)(hc:doC w.list (ownD w s) za0=0):TR ⟨t.b,zab t.ws v (some (zkv w (ownD w s)))⟩ (zab tk v (tk v++[zep w.list (ownD w s)])):=by
 have h1:=ti_own h.ti hw s
 unfold qay at h1
 simp only[hc,if_true]at h1
 obtain⟨o1,o2,_⟩:=zue w s
 exact h.set h1 rfl ((h.rel v w hw).does o1 o2 hc)
theorem qcz(h:TR t tk)(hw:t.ws v=some w){d:Dd}(hd:w.opens[w.sent]? =some d)(hc:za4 t.b d=0):TR ⟨zat t.b d,zab t.ws v (some (zdj w))⟩ tk:=by
 have h1:=ti_send h.ti hw
 unfold ze0 at h1
 simp only[hd,hc,if_true]at h1
 have h2:=h.set h1 rfl ((h.rel v w hw).sends (w.sent+1))
 rw[zhn]at h2
 exact h2
theorem zm1(h:TR t tk)(hw:t.ws v=some w):TR (zdl t v) tk:=by
 refine h.same (h.ti.drop (h.ti.is_here hw).1) (fun k y hk=> ?_)
 have hk':zab t.ws v none k=some y:=hk
 by_cases e:k=v
 ·subst e;rw[zaf]at hk';cases hk'
 ·rw[za9 _ _ e]at hk';exact hk'
theorem zyi(h:TR t tk)(hw:t.ws v=some w):TR ⟨t.b,zab t.ws v (some (zfw w (zau t.b w.seen)))⟩ tk:=by
 obtain⟨hm,c,hi⟩:=h.ti.wi _ w hw
 obtain⟨l1,l2⟩:=zuq t.b w.seen
 obtain⟨c',hc',_⟩:=hi.clears h.ti.good l1 l2
 have h1:TwI ⟨t.b,zab t.ws v (some (zfw w (zau t.b w.seen)))⟩:=h.ti.set h.ti.good (h.ti.is_here hw).2 hm ⟨c',hc'⟩ (fun _ _ _ _ _ x=>x) (fun _ _ x=>x)
 have h2:=h.set h1 rfl ((h.rel v w hw).clears hi h.ti.good (hi.opens_least l1 l2))
 rw[zhn]at h2
 exact h2
def zg3(w:Wr)(d:Dd)(ts:List (List Ch)):List (List Ch):=if d.by_≠w.me then ts else ts.tail.map fun u=>u.map (ze2 d.no ((w.seen:Int)+1))
theorem qd2(h:TR t tk)(hw:t.ws v=some w){d:Dd}(hd:t.b.ds[w.seen]? =some d)(hc:zbd w d=0):TR ⟨zcz t.b v (zav w d).least,zab t.ws v (some (zav w d))⟩ (zab tk v (zg3 w d (tk v))):=by
 have h1:=(ti_hear h.ti hw).1
 unfold zdk at h1
 simp only[hd,hc,if_true]at h1
 obtain⟨hm,c,hi⟩:=h.ti.wi _ w hw
 have hr:=h.rel v w hw
 obtain⟨hl,rfl⟩:=List.getElem?_eq_some_iff.1 hd
 refine h.set h1 rfl ?_
 unfold zav zg3
 by_cases hb:t.b.ds[w.seen].by_=w.me
 ·rw[if_neg (fun x=>x hb),if_neg (fun x=>x hb)]
  obtain⟨es,hes,_⟩:=hi.own_first hl hb
  have htk:=hr.tk
  rw[hes]at htk
  cases htv:tk v with
  |nil=>rw[htv]at htk;exact htk.elim
  |cons u us=>
   rw[htv]at hr
   have:=(hr.hears_own hi h.ti.good hl hes).1
   rw[hes]
   exact this
 ·rw[if_pos hb,if_pos hb]
  exact hr.hears_other hi h.ti.good hl hb
end
end Go.Proofs.YtcbnnfeelhlapadGreatDoor