/-
  Desks: a step, whatever it is; Do, each, Settle.
-/
import Derived.Test.YtcbnnfeelhlapadGreatDoorDkC
import Derived.Deep.LoopGhost
import Derived.Test.YtcbnnfeelhlapadGreatDoorDkWr
import Derived.Test.YtcbnnfeelhlapadGreatDoorWRead
import Derived.Test.YtcbnnfeelhlapadGreatDoorFDeeds
import Derived.BigRegion
import Derived.Test.YtcbnnfeelhlapadGreatDoorSGrow
namespace Go.Proofs.YtcbnnfeelhlapadGreatDoor
set_option maxHeartbeats 1600000
set_option maxRecDepth 20000
open Go Go.RowKit
theorem step_dk{w:World}{base D G:Nat}{pw:Nat→Nat}{t:Twn}{tk:Int→List (List Ch)}{S:Nat→Prop}(h:zik base D G pw t tk w S)(hr:TR t tk){k:Nat}(hk:k<4){r:Wr}(he:t.ws k=some r)(x:Tst)(hxw:x.w=k)(h2:2≤x.kind)(h7:x.kind≤7):
 Calls Tryz.prog 67 #[.pointer (some ⟨D,0,none⟩),tsV x] w fun e w'=>e= .returned (.int .i64 (tDo t x).1)∧∃tk',zhg base w S D G pw (tDo t x).2 tk' w'∧TR (tDo t x).2 tk':=by
 have htd:tDo t x=(if x.kind=2∨x.kind=3 then qay t k r x else if x.kind=4 then ze0 t k r else if x.kind=5 then zdk t k r
  else if x.kind=6 then(0,⟨t.b,zab t.ws k (some (zfw r (zau t.b r.seen)))⟩)else(0,zdl t k)):=by
  unfold tDo
  rw[if_neg (by omega),if_neg (by omega),hxw,he]
 rw[htd]
 by_cases k2:x.kind=2
 ·have ho:ownD r x=⟨1,r.me,r.next,r.seen,x.at_,0,x.text⟩:=by rw[ownD,if_pos k2]
  rw[if_pos (.inl k2),qay,ho]
  by_cases hz:doC r.list ⟨1,r.me,r.next,r.seen,x.at_,0,x.text⟩ za0=0
  ·have ht:=qd0 hr he x (by rw[ho];exact hz)
   rw[ho]at ht
   refine(qaw h hr hk he x hxw k2 hz).mono fun e w' ⟨e1,e2⟩=>⟨by rw[e1,hz],?_⟩
   show∃tk',zhg base w S D G pw (if _=0 then _ else _) tk' w'∧TR (if _=0 then _ else _) tk'
   rw[if_pos hz]
   exact⟨_,e2,ht⟩
  ·refine(qeb h hr hk he x hxw k2 hz).mono fun e w' ⟨e1,e2⟩=>⟨e1,tk,?_⟩
   show zhg base w S D G pw (if _=0 then _ else _) _ w'∧TR (if _=0 then _ else _) _
   rw[if_neg hz]
   exact⟨e2,hr⟩
 by_cases k3:x.kind=3
 ·have ho:ownD r x=⟨2,r.me,r.next,r.seen,x.at_,x.many,⟨#[]⟩⟩:=by rw[ownD,if_neg k2];rfl
  rw[if_pos (.inr k3),qay,ho]
  by_cases hz:doC r.list ⟨2,r.me,r.next,r.seen,x.at_,x.many,⟨#[]⟩⟩ za0=0
  ·have ht:=qd0 hr he x (by rw[ho];exact hz)
   rw[ho]at ht
   refine(zw8 h hr hk he x hxw k3 hz).mono fun e w' ⟨e1,e2⟩=>⟨by rw[e1,hz],?_⟩
   show∃tk',zhg base w S D G pw (if _=0 then _ else _) tk' w'∧TR (if _=0 then _ else _) tk'
   rw[if_pos hz]
   exact⟨_,e2,ht⟩
  ·refine(qak h hr hk he x hxw k3 hz).mono fun e w' ⟨e1,e2⟩=>⟨e1,tk,?_⟩
   show zhg base w S D G pw (if _=0 then _ else _) _ w'∧TR (if _=0 then _ else _) _
   rw[if_neg hz]
   exact⟨e2,hr⟩
 rw[if_neg (by omega)]
 by_cases k4:x.kind=4
 ·rw[if_pos k4,ze0]
  cases hn:r.opens[r.sent]? with
  |none=>exact(zwc h hr hk he x hxw k4 hn).mono fun e w' ⟨e1,e2⟩=>⟨e1,tk,e2,hr⟩
  |some d=>
   by_cases hc:za4 t.b d=0
   ·refine(ztt h hr hk he x hxw k4 hn hc).mono fun e w' ⟨e1,e2⟩=>⟨by rw[e1,←hc],tk,?_⟩
    show zhg base w S D G pw (if _=0 then _ else _) _ w'∧TR (if _=0 then _ else _) _
    rw[if_pos hc]
    exact⟨e2,qcz hr he hn hc⟩
   ·refine(ztu h hr hk he x hxw k4 hn hc).mono fun e w' ⟨e1,e2⟩=>⟨e1,tk,?_⟩
    show zhg base w S D G pw (if _=0 then _ else _) _ w'∧TR (if _=0 then _ else _) _
    rw[if_neg hc]
    exact⟨e2,zm1 hr he⟩
 rw[if_neg k4]
 by_cases k5:x.kind=5
 ·rw[if_pos k5,zdk]
  cases hn:t.b.ds[r.seen]? with
  |none=>exact(zwg h hr hk he x hxw k5 hn).mono fun e w' ⟨e1,e2⟩=>⟨e1,tk,e2,hr⟩
  |some d=>
   by_cases hc:zbd r d=0
   ·refine(zu0 h hr hk he x hxw k5 hn hc).mono fun e w' ⟨e1,e2⟩=> ?_
    show e= .returned (.int .i64 (if _=0 then(_,_)else(_,_)).1)∧∃tk',zhg base w S D G pw (if _=0 then(_,_)else(_,_)).2 tk' w'∧TR (if _=0 then(_,_)else(_,_)).2 tk'
    rw[if_pos hc]
    exact⟨e1,_,e2,qd2 hr he hn hc⟩
   ·refine(zu1 h hr hk he x hxw k5 hn hc).mono fun e w' ⟨e1,e2⟩=> ?_
    show e= .returned (.int .i64 (if _=0 then(_,_)else(_,_)).1)∧∃tk',zhg base w S D G pw (if _=0 then(_,_)else(_,_)).2 tk' w'∧TR (if _=0 then(_,_)else(_,_)).2 tk'
    rw[if_neg hc]
    exact⟨e1,_,e2,zm1 hr he⟩
 rw[if_neg k5]
 by_cases k6:x.kind=6
 ·rw[if_pos k6]
  exact(qe5 h hr hk he x hxw k6).mono fun e w' ⟨e1,e2⟩=>⟨e1,tk,e2,zyi hr he⟩
 rw[if_neg k6]
 exact(qdy h hr hk he x hxw (by omega)).mono fun e w' ⟨e1,e2⟩=>⟨e1,tk,e2,zm1 hr he⟩
theorem do_bad{w:World}{base D G:Nat}{pw:Nat→Nat}{t:Twn}{tk:Int→List (List Ch)}{S:Nat→Prop}(h:zik base D G pw t tk w S)(hr:TR t tk)(x:Tst)(hkd:x.kind<1∨7<x.kind):
 Calls Tryz.prog 47 #[.pointer (some ⟨D,0,none⟩),tsV x] w fun e w'=>e= .returned (.int .i64 2)∧zhg base w S D G pw t tk w':=by
 have HI:Hid (zap base w S D G pw t tk (zag (fun _=>Th.no base) 0 (Th.st base w.heap.size x)) (w.alloc (zc8 x))):=h.start.step x 0
 have HL:Hid (base≤w.heap.size∧∀k,S k→base≤k∧k<w.heap.size):=h.held
 have HR:Hid (TR t tk):=hr
 obtain⟨kind,w_,at_,many,text⟩:=x
 clear h hr
 rcases(show kind<1∨7<kind from hkd)with hq|hq
 ·clear hkd
  go_enter Tryz.func47,Tryz.ntmps47
  go_wp2
  go_ret
  exact⟨rfl,HI.out.done HL.out⟩
 ·have hq2:¬kind<1:=by omega
  clear hkd
  go_enter Tryz.func47,Tryz.ntmps47
  go_wp2
  go_ret
  exact⟨rfl,HI.out.done HL.out⟩
theorem qbx{w:World}{base D G:Nat}{pw:Nat→Nat}{t:Twn}{tk:Int→List (List Ch)}{S:Nat→Prop}(h:zik base D G pw t tk w S)(hr:TR t tk)(x:Tst)(hkd:x.kind=1)(hc:zc6 t.b x.w≠0):
 Calls Tryz.prog 47 #[.pointer (some ⟨D,0,none⟩),tsV x] w fun e w'=>e= .returned (.int .i64 (zc6 t.b x.w))∧zhg base w S D G pw t tk w':=by
 have HI:Hid (zap base w S D G pw t tk (zag (fun _=>Th.no base) 0 (Th.st base w.heap.size x)) (w.alloc (zc8 x))):=h.start.step x 0
 have HL:Hid (base≤w.heap.size∧∀k,S k→base≤k∧k<w.heap.size):=h.held
 have HR:Hid (TR t tk):=hr
 have HC:Hid (zc6 t.b x.w≠0):=hc
 clear hc
 obtain⟨kind,w_,at_,many,text⟩:=x
 clear h hr
 obtain rfl:kind=1:=hkd
 go_enter Tryz.func47,Tryz.ntmps47
 go_wp2_with fail
 obtain⟨T,ha,hs⟩:=HI.out.call
 refine(qbe ha HR.out w_ HC.out).mono ?_
 rintro e w7 ⟨rfl,hto⟩
 have H7:Hid (zap base w S D G pw t tk (zag (fun _=>Th.no base) 0 (Th.st base w.heap.size ⟨1,w_,at_,many,text⟩)) w7):=hs _ _ _ _ hto
 clear hto hs ha HI
 obtain⟨cq,hcq⟩:∃c,zc6 t.b w_=c:=⟨_,rfl⟩
 have HCQ:Hid (zc6 t.b w_=cq):=hcq
 rw[hcq]
 clear hcq
 go_wp2_with fail
 go_ret
 exact⟨by rw[HCQ.out];rfl,H7.out.done HL.out⟩
theorem zxv{w:World}{base D G:Nat}{pw:Nat→Nat}{t:Twn}{tk:Int→List (List Ch)}{S:Nat→Prop}(h:zik base D G pw t tk w S)(hr:TR t tk)(x:Tst)(hkd:x.kind=1){k:Nat}(hk:k<4)(hxw:x.w=k)(hc:zc6 t.b k=0):
 Calls Tryz.prog 47 #[.pointer (some ⟨D,0,none⟩),tsV x] w fun e w'=>e= .returned (.int .i64 0)∧∃P,zhg base w S D G (zom pw k P) ⟨zbw t.b k,zab t.ws k (some (newW t.b k))⟩ (zab tk k []) w':=by
 have HI:Hid (zap base w S D G pw t tk (zag (fun _=>Th.no base) 0 (Th.st base w.heap.size x)) (w.alloc (zc8 x))):=h.start.step x 0
 have HL:Hid (base≤w.heap.size∧∀k,S k→base≤k∧k<w.heap.size):=h.held
 have HR:Hid (TR t tk):=hr
 have HC:Hid (zc6 t.b k=0):=hc
 clear hc
 obtain⟨kind,w_,at_,many,text⟩:=x
 clear h hr
 obtain rfl:kind=1:=hkd
 obtain rfl:w_=(k:Int):=hxw
 go_enter Tryz.func47,Tryz.ntmps47
 go_wp2_with fail
 obtain⟨T,ha,hs⟩:=HI.out.call
 refine(zxb ha HR.out hk HC.out).mono ?_
 rintro e w7 ⟨rfl,P,hto⟩
 have H7:Hid (zap base w S D G (zom pw k P) ⟨zbw t.b k,zab t.ws k (some (newW t.b k))⟩ (zab tk k []) (zag (fun _=>Th.no base) 0 (Th.st base w.heap.size ⟨1,k,at_,many,text⟩)) w7):=hs _ _ _ _ hto
 clear hto hs ha HI
 go_wp2_with fail
 go_ret
 exact⟨rfl,P,H7.out.done HL.out⟩
theorem do_none{w:World}{base D G:Nat}{pw:Nat→Nat}{t:Twn}{tk:Int→List (List Ch)}{S:Nat→Prop}(h:zik base D G pw t tk w S)(hr:TR t tk)(x:Tst)(h2:2≤x.kind)(h7:x.kind≤7)(he:t.ws x.w=none):
 Calls Tryz.prog 47 #[.pointer (some ⟨D,0,none⟩),tsV x] w fun e w'=>e= .returned (.int .i64 5)∧zhg base w S D G pw t tk w':=by
 have HI:Hid (zap base w S D G pw t tk (zag (fun _=>Th.no base) 0 (Th.st base w.heap.size x)) (w.alloc (zc8 x))):=h.start.step x 0
 have HL:Hid (base≤w.heap.size∧∀k,S k→base≤k∧k<w.heap.size):=h.held
 have HR:Hid (TR t tk):=hr
 have HE:Hid (t.ws x.w=none):=he
 clear he
 obtain⟨kind,w_,at_,many,text⟩:=x
 clear h hr
 have q1:¬kind<1:=by have:2≤kind:=h2;omega
 have q2:¬7<kind:=by have:kind≤7:=h7;omega
 have q3:¬kind=1:=by have:2≤kind:=h2;omega
 clear h2 h7
 go_enter Tryz.func47,Tryz.ntmps47
 go_wp2_with fail
 refine(zo3 HI.out.cells _).mono ?_
 rintro e w6 ⟨rfl,rfl⟩
 rw[qga HE.out]
 go_wp2_with fail
 go_ret
 exact⟨rfl,HI.out.done HL.out⟩
theorem do_some{w:World}{base D G:Nat}{pw:Nat→Nat}{t:Twn}{tk:Int→List (List Ch)}{S:Nat→Prop}(h:zik base D G pw t tk w S)(hr:TR t tk)(x:Tst)(h2:2≤x.kind)(h7:x.kind≤7){k:Nat}(hk:k<4)(hxw:x.w=k){r:Wr}(he:t.ws k=some r):
 Calls Tryz.prog 47 #[.pointer (some ⟨D,0,none⟩),tsV x] w fun e w'=>e= .returned (.int .i64 (tDo t x).1)∧∃tk',zhg base w S D G pw (tDo t x).2 tk' w'∧TR (tDo t x).2 tk':=by
 have HI:Hid (zap base w S D G pw t tk (zag (fun _=>Th.no base) 0 (Th.st base w.heap.size x)) (w.alloc (zc8 x))):=h.start.step x 0
 have HL:Hid (base≤w.heap.size∧∀k,S k→base≤k∧k<w.heap.size):=h.held
 have HR:Hid (TR t tk):=hr
 have HE:Hid (t.ws k=some r):=he
 clear he
 have H27:Hid (2≤x.kind∧x.kind≤7):=⟨h2,h7⟩
 obtain⟨kind,w_,at_,many,text⟩:=x
 clear h hr
 have q1:¬kind<1:=by have:2≤kind:=h2;omega
 have q2:¬7<kind:=by have:kind≤7:=h7;omega
 have q3:¬kind=1:=by have:2≤kind:=h2;omega
 obtain rfl:w_=(k:Int):=hxw
 clear h2 h7
 go_enter Tryz.func47,Tryz.ntmps47
 go_wp2_with fail
 refine(zo3 HI.out.cells _).mono ?_
 rintro e w6 ⟨rfl,rfl⟩
 rw[qg9 hk HE.out]
 go_wp2_with fail
 obtain⟨T,ha,hs⟩:=HI.out.call
 refine(step_dk ha HR.out hk HE.out ⟨kind,k,at_,many,text⟩ rfl H27.out.1 H27.out.2).mono ?_
 rintro e w7 ⟨rfl,tk',hto,htr⟩
 have HTR:Hid (TR (tDo t ⟨kind,k,at_,many,text⟩).2 tk'):=htr
 have H7:Hid (zap base w S D G pw (tDo t ⟨kind,k,at_,many,text⟩).2 tk' (zag (fun _=>Th.no base) 0 (Th.st base w.heap.size ⟨kind,k,at_,many,text⟩)) w7):=hs _ _ _ _ hto
 clear hto hs ha HI htr
 obtain⟨cq,hcq⟩:∃c,(tDo t ⟨kind,k,at_,many,text⟩).1=c:=⟨_,rfl⟩
 have HCQ:Hid ((tDo t ⟨kind,k,at_,many,text⟩).1=cq):=hcq
 rw[hcq]
 clear hcq
 go_wp2_with fail
 go_ret
 exact⟨by rw[HCQ.out];rfl,tk',H7.out.done HL.out,HTR.out⟩
theorem do_dk{w:World}{base D G:Nat}{pw:Nat→Nat}{t:Twn}{tk:Int→List (List Ch)}{S:Nat→Prop}(h:zik base D G pw t tk w S)(hr:TR t tk)(x:Tst):
 Calls Tryz.prog 47 #[.pointer (some ⟨D,0,none⟩),tsV x] w fun e w'=>e= .returned (.int .i64 (tDo t x).1)∧∃pw' tk',zhg base w S D G pw' (tDo t x).2 tk' w'∧TR (tDo t x).2 tk'∧(x.kind≠1→pw'=pw):=by
 by_cases k0:x.kind<1∨7<x.kind
 ·have htd:tDo t x=(2,t):=by unfold tDo;rw[if_pos k0]
  rw[htd]
  exact(do_bad h hr x k0).mono fun e w' ⟨e1,e2⟩=>⟨e1,pw,tk,e2,hr,fun _=>rfl⟩
 by_cases k1:x.kind=1
 ·have htd:tDo t x=zsp t x.w:=by unfold tDo;rw[if_neg k0,if_pos k1]
  rw[htd,zsp]
  by_cases hc:zc6 t.b x.w=0
  ·have hw:wrB x.w=true:=by
    cases hh:wrB x.w
    ·rw[zc6,if_pos hh]at hc;cases hc
    ·rfl
   obtain⟨k,hxw,hk⟩:=zc3 hw
   rw[hxw]at hc⊢
   refine(zxv h hr x k1 hk hxw hc).mono fun e w' ⟨e1,P,e2⟩=>⟨by rw[e1,hc],?_⟩
   show∃pw' tk',zhg base w S D G pw' (if _=0 then _ else _) tk' w'∧TR (if _=0 then _ else _) tk'∧_
   rw[if_pos hc]
   exact⟨_,_,e2,qd1 hr hc,fun e=>absurd k1 e⟩
  ·refine(qbx h hr x k1 hc).mono fun e w' ⟨e1,e2⟩=>⟨e1,pw,tk,?_⟩
   show zhg base w S D G _ (if _=0 then _ else _) _ w'∧TR (if _=0 then _ else _) _∧_
   rw[if_neg hc]
   exact⟨e2,hr,fun _=>rfl⟩
 cases he:t.ws x.w with
 |none=>
  have htd:tDo t x=(5,t):=by unfold tDo;rw[if_neg k0,if_neg k1,he]
  rw[htd]
  exact(do_none h hr x (by omega) (by omega) he).mono fun e w' ⟨e1,e2⟩=>⟨e1,pw,tk,e2,hr,fun _=>rfl⟩
 |some r=>
  obtain⟨k,hxw,hk⟩:=zc3 (hr.ti.is_here he).2
  rw[hxw]at he
  exact(do_some h hr x (by omega) (by omega) hk hxw he).mono fun e w' ⟨e1,tk',e2,e3⟩=>⟨e1,pw,tk',e2,e3,fun _=>rfl⟩
def zhu(all:Twn→Int→Twn):Nat→Twn→Twn
 | 0,t=>t
 |n+1,t=>all (zhu all n t) n
theorem zvb(t:Twn):∀n,zhu zc5 n t=zdg n t
 | 0=>rfl
 |n+1=>by rw[zhu,zdg,zvb t n]
theorem zvc(t:Twn):∀n,zhu zc7 n t=zh7 n t
 | 0=>rfl
 |n+1=>by rw[zhu,zh7,zvc t n]
def zfx(base:Nat)(w:World)(S:Nat→Prop)(D G:Nat)(pw:Nat→Nat)(t:Twn)(wk:World):Prop:=∃tk,zap base w S D G pw t tk (fun _=>Th.no base) wk∧TR t tk
theorem qfz{w:World}{base D G:Nat}{pw:Nat→Nat}{t:Twn}{tk:Int→List (List Ch)}{S:Nat→Prop}(h:zik base D G pw t tk w S)(hr:TR t tk)(kind:Int)(hkd:kind≠1)(all:Twn→Int→Twn)(un:Twn→Int→Nat)(hno:∀t v,(tDo t ⟨kind,v,0,0,⟨#[]⟩⟩).1≠0→all t v=(tDo t ⟨kind,v,0,0,⟨#[]⟩⟩).2)(hyes:∀t v,(tDo t ⟨kind,v,0,0,⟨#[]⟩⟩).1=0→all t v=all (tDo t ⟨kind,v,0,0,⟨#[]⟩⟩).2 v∧un (tDo t ⟨kind,v,0,0,⟨#[]⟩⟩).2 v<un t v):
 Calls Tryz.prog 138 #[.pointer (some ⟨D,0,none⟩),.int .i64 kind] w fun e w'=>e= .returned (.tuple #[])∧∃tk',zhg base w S D G pw (zhu all 4 t) tk' w'∧TR (zhu all 4 t) tk':=by
 have HL:Hid (base≤w.heap.size∧∀k,S k→base≤k∧k<w.heap.size):=h.held
 have HI:Hid (zfx base w S D G pw t w):=⟨tk,h.start,hr⟩
 have HNO:Hid (∀t v,(tDo t ⟨kind,v,0,0,⟨#[]⟩⟩).1≠0→all t v=(tDo t ⟨kind,v,0,0,⟨#[]⟩⟩).2):=hno
 have HYES:Hid (∀t v,(tDo t ⟨kind,v,0,0,⟨#[]⟩⟩).1=0→all t v=all (tDo t ⟨kind,v,0,0,⟨#[]⟩⟩).2 v∧un (tDo t ⟨kind,v,0,0,⟨#[]⟩⟩).2 v<un t v):=hyes
 have HKD:Hid (kind≠1):=hkd
 clear h hr hno hyes hkd
 go_enter Tryz.func138,Tryz.ntmps138
 go_wp2_with fail
 go_loopw [5] (fun i wr=>∃n:Nat,n≤4∧i= .int .i64 n∧Hid (zfx base w S D G pw (zhu all n t) wr)) (fun i _=>4-(intOf i).toNat)
 case atStart=>exact⟨0,by omega,rfl,HI.out⟩
 case round=>
  obtain⟨n,hn,rfl,HW⟩:=hrel
  by_cases hlt:n<4
  ·have hlt':(n:Int)<4:=by omega
   go_wp2_with fail
   go_loopg [] (un (zhu all n t) n) (fun m wr2=>∃t2,un t2 n=m∧all t2 n=all (zhu all n t) n∧Hid (zfx base w S D G pw t2 wr2))
   case atStart=>exact⟨_,rfl,rfl,HW.out⟩
   case round=>
    obtain⟨t2,hm,hall,HW2⟩:=hrel
    have HM:Hid (un t2 n=gk∧all t2 n=all (zhu all n t) n):=⟨hm,hall⟩
    clear hm hall
    go_wp2_with fail
    obtain⟨tk2,hd2,hr2⟩:=HW2.out
    obtain⟨T,ha,hs⟩:=hd2.call
    refine(do_dk ha hr2 ⟨kind,n,0,0,⟨#[]⟩⟩).mono ?_
    rintro e w7 ⟨rfl,pw7,tk7,hto,htr,hpw⟩
    obtain rfl:=hpw HKD.out
    have H7:Hid (zfx base w S D G pw7 (tDo t2 ⟨kind,n,0,0,⟨#[]⟩⟩).2 w7):=⟨tk7,hs _ _ _ _ hto,htr⟩
    clear hto hs ha hd2 hr2 htr hpw HW2
    by_cases hz:(tDo t2 ⟨kind,n,0,0,⟨#[]⟩⟩).1=0
    ·have HY:Hid (all t2 n=all (tDo t2 ⟨kind,n,0,0,⟨#[]⟩⟩).2 n∧un (tDo t2 ⟨kind,n,0,0,⟨#[]⟩⟩).2 n<un t2 n):=HYES.out t2 n hz
     rw[hz]
     clear hz
     go_wp2_with fail
     go_roundg (un (tDo t2 ⟨kind,n,0,0,⟨#[]⟩⟩).2 n)
     case measure=>have:=HY.out.2;have:=HM.out.1;omega
     case rel=>exact⟨_,rfl,by rw[←HY.out.1,HM.out.2],H7.out⟩
    ·have HN:Hid (zhu all (n+1) t=(tDo t2 ⟨kind,n,0,0,⟨#[]⟩⟩).2):=by
      show all (zhu all n t) n=_
      rw[←HM.out.2,HNO.out t2 n hz]
     obtain⟨cq,hcq⟩:∃c,(tDo t2 ⟨kind,n,0,0,⟨#[]⟩⟩).1=c:=⟨_,rfl⟩
     have hz2:¬cq=0:=by rw[←hcq];exact hz
     rw[hcq]
     clear hz hcq
     go_wp2_with fail
     go_roundw
     case rel=>exact⟨n+1,by omega,by go_num,by rw[HN.out];exact H7.out⟩
     case measure=>simp[intOf];omega
  ·obtain rfl:n=4:=by omega
   go_wp2_with fail
   go_end0
   obtain⟨tk9,h9,hr9⟩:=HW.out
   exact⟨rfl,tk9,h9.done HL.out,hr9⟩
theorem zl5(t:Twn)(v:Int):tDo t ⟨4,v,0,0,⟨#[]⟩⟩=match t.ws v with|none=>(5,t)|some r=>ze0 t v r:=by
 unfold tDo
 rw[if_neg (by show¬((4:Int)<1∨(7:Int)<4);decide),if_neg (by show¬(4:Int)=1;decide)]
 dsimp only
 cases t.ws v with
 |none=>rfl
 |some r=>rfl
theorem zl6(t:Twn)(v:Int):tDo t ⟨5,v,0,0,⟨#[]⟩⟩=match t.ws v with|none=>(5,t)|some r=>zdk t v r:=by
 unfold tDo
 rw[if_neg (by show¬((5:Int)<1∨(7:Int)<5);decide),if_neg (by show¬(5:Int)=1;decide)]
 dsimp only
 cases t.ws v with
 |none=>rfl
 |some r=>rfl
theorem qe1{w:World}{base D G:Nat}{pw:Nat→Nat}{t:Twn}{tk:Int→List (List Ch)}{S:Nat→Prop}(h:zik base D G pw t tk w S)(hr:TR t tk):
 Calls Tryz.prog 83 #[.pointer (some ⟨D,0,none⟩)] w fun e w'=>e= .returned (.tuple #[])∧∃tk',zhg base w S D G pw (zdz t) tk' w'∧TR (zdz t) tk':=by
 have HL:Hid (base≤w.heap.size∧∀k,S k→base≤k∧k<w.heap.size):=h.held
 have HI:Hid (zfx base w S D G pw t w):=⟨tk,h.start,hr⟩
 clear h hr
 go_enter Tryz.func83,Tryz.ntmps83
 go_wp2_with fail
 obtain⟨tk2,hd2,hr2⟩:=HI.out
 obtain⟨T,ha,hs⟩:=hd2.call
 refine(qfz ha hr2 4 (by decide) zc5 unsent (fun t v hc=> ?_) (fun t v hc=> ?_)).mono ?_
 ·rw[zl5]at hc⊢
  cases hw:t.ws v with
  |none=>exact zfr hw
  |some r=>
   rw[hw]at hc
   rw[zee hw,if_neg hc]
 ·rw[zl5]at hc⊢
  cases hw:t.ws v with
  |none=>rw[hw]at hc;cases hc
  |some r=>
   rw[hw]at hc
   exact⟨by rw[zee hw,if_pos hc],zi3 hw hc⟩
 rintro e w7 ⟨rfl,tk7,hto,htr⟩
 rw[zvb]at hto htr
 have H7:Hid (zfx base w S D G pw (zdg 4 t) w7):=⟨tk7,hs _ _ _ _ hto,htr⟩
 clear hto htr hs ha hd2 hr2 HI
 go_wp2_with fail
 obtain⟨tk2,hd2,hr2⟩:=H7.out
 obtain⟨T,ha,hs⟩:=hd2.call
 refine(qfz ha hr2 5 (by decide) zc7 zev (fun t v hc=> ?_) (fun t v hc=> ?_)).mono ?_
 ·rw[zl6]at hc⊢
  cases hw:t.ws v with
  |none=>exact zfu hw
  |some r=>
   rw[hw]at hc
   rw[zel hw,if_neg hc]
 ·rw[zl6]at hc⊢
  cases hw:t.ws v with
  |none=>rw[hw]at hc;cases hc
  |some r=>
   rw[hw]at hc
   exact⟨by rw[zel hw,if_pos hc],zh1 hw hc⟩
 rintro e w8 ⟨rfl,tk8,hto,htr⟩
 rw[zvc]at hto htr
 have H8:Hid (zfx base w S D G pw (zdz t) w8):=⟨tk8,hs _ _ _ _ hto,htr⟩
 clear hto htr hs ha hd2 hr2 H7
 go_wp2_with fail
 go_end0
 obtain⟨tk9,h9,hr9⟩:=H8.out
 exact⟨rfl,tk9,h9.done HL.out,hr9⟩
end Go.Proofs.YtcbnnfeelhlapadGreatDoor
namespace Go.Proofs.YtcbnnfeelhlapadGreatDoor
set_option maxHeartbeats 1600000
open Go Go.RowKit
end Go.Proofs.YtcbnnfeelhlapadGreatDoor
namespace Go.Proofs.YtcbnnfeelhlapadGreatDoor
set_option maxHeartbeats 1600000
set_option maxRecDepth 20000
open Go.RowKit
abbrev zdf:Dd:=⟨0,0,0,0,0,0,⟨#[]⟩⟩
theorem zyz:∀(l:List Dd) (i:Nat) (y:Dd),i<l.length→
 (((((((zbx l).set (i*7) (.int .i64 y.kind)).set (i*7+1) (.int .i64 y.by_)).set (i*7+2) (.int .i64 y.no)).set (i*7+3) (.int .i64 y.seen)).set (i*7+4) (.int .i64 y.at_)).set (i*7+5) (.int .i64 y.many)).set (i*7+6) (.string y.text)=zbx (l.set i y)
 |[],i,_,hi=>absurd hi (Nat.not_lt_zero _)
 |x::l,0,y,_=>by simp[zbx,zfd]
 |x::l,i+1,y,hi=>by
  have ih:=zyz l i y (by simpa using hi)
  have e:∀(r:Nat) (a:List Value) (u:Value),(zfd x++a).set ((i+1)*7+r) u=zfd x++a.set (i*7+r) u:=fun r a u=>by
   have h7:(zfd x).length=7:=rfl
   rw[List.set_append_right (h:=by rw[h7];omega),h7,show(i+1)*7+r-7=i*7+r by omega]
  have e0:=fun a u=>e 0 a u
  simp only[Nat.add_zero]at e0
  rw[zbx,List.set_cons_succ,zbx,←ih,e0,e,e,e,e,e,e]
structure OI(w:World)(v:Value)(L:List Dd)(wk:World):Prop where
 below:Below w.heap.size w wk
 own:zfy wk w.heap.size v L
theorem OI.after{w wk w':World}{v:Value}{L:List Dd}(h:OI w v L wk)(hb:Below wk.heap.size wk w'):OI w v L w':=⟨bla h.below hb,h.own.below hb⟩
theorem OI.put{w wk:World}{g n cap:Nat}{L:List Dd}(h:OI w (.slice (some ⟨g,0,none⟩) n cap) L wk)(hn:L.length=n){i:Nat}(hi:i<L.length)(y:Dd):
 OI w (.slice (some ⟨g,0,none⟩) n cap) (L.set i y) (((((((wk.setCell ⟨g,i*7,none⟩ (.int .i64 y.kind)).setCell ⟨g,i*7+1,none⟩ (.int .i64 y.by_)).setCell ⟨g,i*7+2,none⟩ (.int .i64 y.no)).setCell ⟨g,i*7+3,none⟩ (.int .i64 y.seen)).setCell ⟨g,i*7+4,none⟩ (.int .i64 y.at_)).setCell ⟨g,i*7+5,none⟩ (.int .i64 y.many)).setCell ⟨g,i*7+6,none⟩ (.string y.text)):=by
 obtain⟨hb,ho⟩:=h
 have hg:=(World.ownsRow.lt ho g rfl).1
 refine⟨((((((hb.setCell (p:=⟨g,_,none⟩) hg _).setCell (p:=⟨g,_,none⟩) hg _).setCell (p:=⟨g,_,none⟩) hg _).setCell (p:=⟨g,_,none⟩) hg _).setCell (p:=⟨g,_,none⟩) hg _).setCell (p:=⟨g,_,none⟩) hg _).setCell (p:=⟨g,_,none⟩) hg _,?_⟩
 unfold zfy at ho⊢
 rw[List.length_set,←zyz L i y hi,hn]
 rw[hn]at ho
 exact((((((ho.stored _ _).1.stored _ _).1.stored _ _).1.stored _ _).1.stored _ _).1.stored _ _).1.stored _ _ |>.1
theorem zcq{w:World}{base g n cap:Nat}{L:List Dd}(h:zfy w base (.slice (some ⟨g,0,none⟩) n cap) L)(hn:L.length=n){j:Nat}(hj:j<n*7):(∃u,w.cell? ⟨g,j,none⟩=some u)∧w.frozen? ⟨g,j,none⟩=false:=by
 unfold zfy at h
 rw[hn]at h
 refine⟨?_,World.ownsRow.frozenAt h j⟩
 have h1:=World.ownsRow.cellAt h j hj
 have h2:=h.1
 rw[h1,List.getElem?_eq_getElem (by omega)]
 exact⟨_,rfl⟩
theorem zpp:∀n:Nat,zbx (List.replicate n zdf)=(madeCells zdm.cells (n*7)).toList:=by
 intro n
 apply List.ext_getElem?
 intro j
 have hz:(madeCells zdm.cells (n*7)).toList.length=n*7:=by rw[Array.length_toList,size_madeCells]
 by_cases hj:j<n*7
 ·have hd:j=j / 7*7+j % 7:=by omega
  have hr:j % 7<7:=Nat.mod_lt _ (by omega)
  have hi:j / 7<(List.replicate n zdf).length:=by rw[List.length_replicate];omega
  have e:(madeCells zdm.cells (n*7)).toList[j]? =some (zdm.cells.getD (j % 7) default):=by
   rw[List.getElem?_eq_getElem (by rw[hz];exact hj)]
   simp[madeCells,Value.cells]
  rw[e]
  conv=>lhs;rw[hd]
  rw[zjy _ _ _ hi hr,List.getElem_replicate]
  generalize j % 7=r at hr
  rcases(show r=0∨r=1∨r=2∨r=3∨r=4∨r=5∨r=6 by omega)with rfl|rfl|rfl|rfl|rfl|rfl|rfl<;>rfl
 ·rw[List.getElem?_eq_none (by rw[zhy,List.length_replicate];omega),List.getElem?_eq_none (by omega)]
theorem zlb(n:Nat)(hn:n≤100000)(w:World):(Instr.makeSlice 61 (.int .i64 n) (.int .i64 n)).run Tryz.prog w= .ok (.slice (some ⟨w.heap.size,0,none⟩) n n) (w.alloc (.cells (madeCells zdm.cells (n*7)) 124)):=by
 obtain⟨i0,hi,hz0,hz1,hz2⟩:=info_parts Tryz.infoDeed
 have:=run_make (P:=Tryz.prog) w 61 124 i0 zdm Tryz.underlying61 hi hz0 .i64 .i64 n n (by omega) (Int.le_refl _) (by rw[hz2];omega) (by omega)
 simp only[Int.toNat_natCast,hz1]at this
 exact this
theorem zmw(es:List Dd)(k:Nat)(h:k≤es.length):(es.take k++List.replicate (es.length-k) zdf).length=es.length:=by
 rw[List.length_append,List.length_take,List.length_replicate];omega
theorem zmv(es:List Dd){k:Nat}(h:k<es.length):(es.take k++List.replicate (es.length-k) zdf).set k es[k]=es.take (k+1)++List.replicate (es.length-(k+1)) zdf:=by
 have e:(es.take k).length=k:=by rw[List.length_take];omega
 rw[List.set_append_right (h:=by omega),e,Nat.sub_self,show es.length-k=(es.length-(k+1))+1 by omega,List.replicate_succ,List.set_cons_zero,List.take_succ_eq_append_getElem h,List.append_assoc]
 rfl
theorem open_pw{w:World}{base P:Nat}{S:Nat→Prop}{lv ov:Value}{tvs:List Value}{l:List Ch}{es:List Dd}{ts:List (List Ch)}{me next seen sent:Int}(h:zcn w base S P lv ov tvs l es ts me next seen sent)(hes:es.length≤1000):
 Calls Tryz.prog 90 #[.pointer (some ⟨P,0,none⟩)] w fun e w'=>∃v',e= .returned v'∧zfy w' w.heap.size v' es∧Below w.heap.size w w':=by
 have HA:Hid (zcn w base S P lv ov tvs l es ts me next seen sent):=h
 have c4:=h.cells.opens
 have hlt:=h.cells.lt
 obtain⟨ao,capo,rfl⟩:=h.topen.form
 clear h
 have HE:Hid (∃n,es.length=n):=⟨_,rfl⟩
 obtain⟨n,hn⟩:=HE.out
 have HN:Hid (es.length=n):=hn
 have hmk:=zlb n (by omega)
 have HO:Hid (OI w (.slice (some ⟨w.heap.size,0,none⟩) n n) (es.take 0++List.replicate (es.length-0) zdf) (w.alloc (.cells (madeCells zdm.cells (n*7)) 124))):=by
  refine⟨za1 _ _,?_⟩
  have hz:(madeCells zdm.cells (n*7)).size=n*7:=by rw[size_madeCells]
  have:=World.ownsRow_lit (base:=w.heap.size) (size:=7) (e:=124) w (madeCells zdm.cells (n*7)) n (Nat.le_refl _) (by unfold maxLen;omega) hz
  unfold zfy
  rw[List.take_zero,List.nil_append,Nat.sub_zero,List.length_replicate,zpp,hn]
  exact this
 rw[hn]at c4 hes
 clear hn HE
 go_enter Tryz.func90,Tryz.ntmps90
 go_wp2
 go_loopw [17] (fun i wr=>∃k:Nat,k≤n∧i= .int .i64 k∧Hid (OI w (.slice (some ⟨w.heap.size,0,none⟩) n n) (es.take k++List.replicate (es.length-k) zdf) wr)) (fun i _=>n-(intOf i).toNat)
 case atStart=>exact⟨0,Nat.zero_le _,rfl,HO⟩
 case round=>
  obtain⟨k,hk,rfl,HJ⟩:=hrel
  clear HO hmk
  by_cases hlt2:k<n
  ·have hkl:k<es.length:=by rw[HN.out];exact hlt2
   have hT:=HA.out.topen.below HJ.out.below
   have hkv:k<tvs.length:=by rw[hT.len];exact hkl
   obtain⟨g,cap,hov⟩:=hT.place (by omega)
   simp only[Value.slice.injEq]at hov
   obtain⟨rfl,-, rfl⟩:=hov
   obtain⟨⟨hg,h0,h1,h2,h3,h4,h5,h6⟩,h7⟩:=hT.nth rfl hkl hkv
   have hml:(es.take k++List.replicate (es.length-k) zdf).length=n:=by rw[zmw es k (by omega),HN.out]
   obtain⟨⟨u0,e0⟩,f0⟩:=zcq HJ.out.own hml (j:=k*7) (by omega)
   obtain⟨⟨u1,e1⟩,f1⟩:=zcq HJ.out.own hml (j:=k*7+1) (by omega)
   obtain⟨⟨u2,e2⟩,f2⟩:=zcq HJ.out.own hml (j:=k*7+2) (by omega)
   obtain⟨⟨u3,e3⟩,f3⟩:=zcq HJ.out.own hml (j:=k*7+3) (by omega)
   obtain⟨⟨u4,e4⟩,f4⟩:=zcq HJ.out.own hml (j:=k*7+4) (by omega)
   obtain⟨⟨u5,e5⟩,f5⟩:=zcq HJ.out.own hml (j:=k*7+5) (by omega)
   obtain⟨⟨u6,e6⟩,f6⟩:=zcq HJ.out.own hml (j:=k*7+6) (by omega)
   have hW:w.heap.size<wr.heap.size:=(World.ownsRow.lt HJ.out.own w.heap.size rfl).2
   have hNX:=OI.put HJ.out hml (i:=k) (by rw[hml];exact hlt2) es[k]
   rw[zmv es hkl]at hNX
   have HNX:Hid _:=hNX.after (za1 _ (zld es[k] tvs[k]))
   clear hNX
   generalize hd:es[k]=d at*
   have hkt:k<ts.length:=by rw[←hT.tooks.len];exact hkv
   obtain⟨ta,tcap,htf,_⟩:=(hT.tooks.nth k hkv hkt).lst.len
   generalize ts[k].length=tn at htf
   generalize htv:tvs[k]=tv at*
   subst htf
   obtain⟨kind,by_,no,seen',at_,many,text⟩:=d
   simp only at h0 h1 h2 h3 h4 h5 h6 HNX
   clear hT hml HJ hd htv
   go_wp2
   go_roundw
   case rel=>exact⟨k+1,by omega,by go_num,HNX⟩
   case measure=>simp[intOf];omega
  ·obtain rfl:k=n:=by omega
   have HE:Hid (es.take k++List.replicate (es.length-k) zdf=es):=by show _=_;rw[←HN.out,List.take_length,Nat.sub_self];simp
   go_wp2
   go_ret
   exact⟨_,rfl,by have:=HJ.out.own;rw[HE.out]at this;exact this,HJ.out.below⟩
end Go.Proofs.YtcbnnfeelhlapadGreatDoor
namespace Go.Proofs.YtcbnnfeelhlapadGreatDoor
set_option maxHeartbeats 1600000
open Go Go.RowKit
section
variable {w wk w':World} {D G:Nat} {pw:Nat→Nat} {t:Twn}
theorem zfx.cells{base:Nat}{S:Nat→Prop}(h:zfx base w S D G pw t wk):TwC wk D G pw (zbs t):=by
 obtain⟨tk,h1,h2⟩:=h
 exact h1.cells
theorem zfx.ti{base:Nat}{S:Nat→Prop}(h:zfx base w S D G pw t wk):TwI t:=by
 obtain⟨tk,h1,h2⟩:=h
 exact h2.ti
theorem zfx.text{base:Nat}{S:Nat→Prop}(h:zfx base w S D G pw t wk):
 Calls Tryz.prog 80 #[.pointer (some ⟨G,0,none⟩)] wk fun e w'=>e= .returned (.string (strOfNums (zdi t.b.chars)))∧Below wk.heap.size wk w':=by
 obtain⟨tk,h1,h2⟩:=h
 obtain⟨T,dv,lv,hl,_⟩:=h1.log
 exact text_lg hl
theorem zfx.len{base:Nat}{S:Nat→Prop}(h:zfx base w S D G pw t wk):
 Calls Tryz.prog 85 #[.pointer (some ⟨G,0,none⟩)] wk fun e w'=>e= .returned (.int .i64 t.b.ds.length)∧w'=wk:=by
 obtain⟨tk,h1,h2⟩:=h
 obtain⟨T,dv,lv,hl,_⟩:=h1.log
 exact zir hl
theorem zfx.wtext{base:Nat}{S:Nat→Prop}(h:zfx base w S D G pw t wk){k:Nat}(hk:k<4){r:Wr}(he:t.ws k=some r):
 Calls Tryz.prog 88 #[.pointer (some ⟨pw k,0,none⟩)] wk fun e w'=>e= .returned (.string (strOfNums (vw r.list r.seen r.me)))∧Below wk.heap.size wk w':=by
 obtain⟨tk,h1,h2⟩:=h
 obtain⟨T,lv,ov,tvs,hp,_⟩:=h1.wr hk he
 exact text_pw hp (by have:=(zbj h2 he).len;omega)
theorem zfx.wopen{base:Nat}{S:Nat→Prop}(h:zfx base w S D G pw t wk){k:Nat}(hk:k<4){r:Wr}(he:t.ws k=some r):
 Calls Tryz.prog 90 #[.pointer (some ⟨pw k,0,none⟩)] wk fun e w'=>∃v',e= .returned v'∧zfy w' wk.heap.size v' r.opens∧Below wk.heap.size wk w':=by
 obtain⟨tk,h1,h2⟩:=h
 obtain⟨T,lv,ov,tvs,hp,_⟩:=h1.wr hk he
 exact open_pw hp (by have:=(zbj h2 he).few;omega)
theorem zfx.writer{base:Nat}{S:Nat→Prop}(h:zfx base w S D G pw t wk)(n:Int):
 Calls Tryz.prog 66 #[.pointer (some ⟨D,0,none⟩),.int .i64 n] wk fun e w'=>e= .returned (zhv pw (zbs t) n)∧w'=wk:=zo3 h.cells n
end
end Go.Proofs.YtcbnnfeelhlapadGreatDoor
namespace Go.Proofs.YtcbnnfeelhlapadGreatDoor
set_option maxHeartbeats 1600000
open Go Go.RowKit
theorem zdn{P:Program}{ops:Array Oper}{id:Nat}{Q:Exit→Act→World→Prop}{a:Act}{w:World}(U0 D0:Cls)(sp lt:Nat→Bool)(hm:P.follows .mixedOrders=true)(hB:Region.lexB .any ops=true)(hc:qez .any ops sp lt=true)(hDU:∀w,D0 w→U0 w)
 (hD:D0 w.drew) (h:zf3 P ops U0 sp lt (fun a' w'=>Q .normal a' w') ops.toList 0 a U0 D0):(Code.region id ops true).wp P Q a w:=by
 simp only[Region.lexB,Bool.and_eq_true]at hB
 have hD':D0 {w with drawn:=w.drawn+1}:=hD
 refine wp_region_any hm (zeu (U0:=U0) (sp:=sp) (lt:=lt) (Q:=fun a' w'=>Q .normal a' w') (fun _ _ h=>h) _ _ _ U0 D0 _ (fun _ h=>h) hDU hD' ?_)
 have:=zlx (md:= .any) (hDU _ hD') hB.1 hc ops.toList 0 a U0 D0 (by simp) (by simp) (by rw[zda];simpa using hB.2) h
 rw[zda]at this
 simpa using this
section
variable {w wk w':World} {D G E F:Nat} {pw qw:Nat→Nat} {t u:Twn}
end
end Go.Proofs.YtcbnnfeelhlapadGreatDoor
namespace Go.Proofs.YtcbnnfeelhlapadGreatDoor
set_option maxHeartbeats 1600000
open Go Go.RowKit
structure StC(w:World)(P:Nat)(n:Nat)(lv:Value):Prop where
 lt:P<w.heap.size
 deeds:w.cell? ⟨P,0,none⟩=some (.int .i64 n)
 list:w.cell? ⟨P,1,none⟩=some lv
theorem StC.kept{w w':World}{P n:Nat}{lv:Value}(h:StC w P n lv)(hs:w.heap.size≤w'.heap.size)(hb:w'.heap[P]? =w.heap[P]?):StC w' P n lv:=by
 have hc:∀o,w'.cell? ⟨P,o,none⟩=w.cell? ⟨P,o,none⟩:=fun o=>World.cell?_of_block (a:=⟨P,o,none⟩) hb
 exact⟨Nat.lt_of_lt_of_le h.lt hs,by rw[hc];exact h.deeds,by rw[hc];exact h.list⟩
structure StAt(w:World)(lo P:Nat)(lv:Value)(b:Bk):Prop where
 le:lo≤P
 cells:StC w P b.ds.length lv
 own:Own w lo lv b.chars
theorem StAt.kept{w w':World}{lo P:Nat}{lv:Value}{b:Bk}{T:Nat→Prop}(h:StAt w lo P lv b)(hk:zak T w w')(hT:∀k,T k→k<lo):StAt w' lo P lv b:=
 ⟨h.le,h.cells.kept hk.size (hk.block P h.cells.lt (fun e=>by have:=hT P e;have:=h.le;omega)),za3 h.own (fun k e=>by
  obtain⟨h1,h2⟩:=World.ownsRow.lt h.own k e
  exact hk.block k h2 (fun e'=>by have:=hT k e';omega))⟩
theorem StAt.below{w w':World}{lo P:Nat}{lv:Value}{b:Bk}(h:StAt w lo P lv b)(hb:Below w.heap.size w w'):StAt w' lo P lv b:=
 h.kept (T:=fun _=>False) (.of_below hb) (fun _ e=>e.elim)
def qgz(w:World)(lo P:Nat)(b:Bk):Prop:=∃lv,StAt w lo P lv b
theorem qgz.below{w w':World}{lo P:Nat}{b:Bk}(h:qgz w lo P b)(hb:Below w.heap.size w w'):qgz w' lo P b:=by
 obtain⟨lv,h⟩:=h
 exact⟨lv,h.below hb⟩
def ziu(zs:List Int):List Value:=zs.map (Value.int .i64)
def zlq(w:World)(v:Value)(zs:List Int):Prop:=
 ∃(a:Option Addr) (len cap:Nat),v= .slice a len cap∧zs.length=len∧len≤cap∧(len=0∨∃b off,a=some ⟨b,off,none⟩∧b<w.heap.size∧∀i (h:i<zs.length),w.cell? ⟨b,off+i,none⟩=some (.int .i64 zs[i]))
theorem zlq.below{w w':World}{v:Value}{zs:List Int}(h:zlq w v zs)(hb:Below w.heap.size w w'):zlq w' v zs:=by
 obtain⟨a,len,cap,rfl,h1,h2,h3⟩:=h
 refine⟨a,len,cap,rfl,h1,h2,?_⟩
 rcases h3 with h3|⟨b,off,rfl,hl,hr⟩
 ·exact .inl h3
 ·exact .inr ⟨b,off,rfl,by have:=hb.size;omega,fun i hi=>by rw[(zds hb).1 _ _ hl];exact hr i hi⟩
theorem zlq.len{w:World}{v:Value}{zs:List Int}(h:zlq w v zs):∃a cap,v= .slice a zs.length cap:=by
 obtain⟨a,len,cap,rfl,rfl,h2,h3⟩:=h
 exact⟨a,cap,rfl⟩
theorem zlq.row{w:World}{a:Option Addr}{cap n:Nat}{zs:List Int}(h:zlq w (.slice a n cap) zs)(hp:0<n):∃b off,a=some ⟨b,off,none⟩∧b<w.heap.size∧n≤cap∧∀i (h:i<zs.length),w.cell? ⟨b,off+i,none⟩=some (.int .i64 zs[i]):=by
 obtain⟨a',len,cap',he,h1,h2,h3⟩:=h
 simp only[Value.slice.injEq]at he
 obtain⟨rfl,rfl,rfl⟩:=he
 rcases h3 with h3|⟨b,off,rfl,h3,h4⟩
 ·omega
 ·exact⟨b,off,rfl,h3,h2,h4⟩
def zpv(w:World)(base:Nat)(v:Value)(zs:List Int):Prop:=w.ownsRow base 3 1 v zs.length (ziu zs)
theorem zlc(w:World)(base:Nat):zpv w base (.slice none 0 0) []:=World.ownsRow_nil _ _ _ _
theorem zpv.ilst{w:World}{base:Nat}{v:Value}{zs:List Int}(h:zpv w base v zs):zlq w v zs:=by
 have h':=h
 obtain⟨_,h2⟩:=h
 rcases h2 with⟨rfl,hn⟩|⟨g,cap,cur,rfl,hb,hg,hnc,_⟩
 ·exact⟨none,0,0,rfl,hn,Nat.le_refl _,.inl rfl⟩
 ·refine⟨_,_,_,rfl,rfl,hnc,.inr ⟨g,0,rfl,(Array.getElem?_eq_some_iff.1 hg).1,fun i hi=> ?_⟩⟩
  rw[Nat.zero_add,World.ownsRow.cellAt h' i (by omega)]
  unfold ziu
  rw[List.getElem?_map,List.getElem?_eq_getElem hi]
  rfl
theorem zpv.below{w w':World}{base:Nat}{v:Value}{zs:List Int}(h:zpv w base v zs)(hb:Below w.heap.size w w'):zpv w' base v zs:=zeh h hb
theorem zsr:(Tryz.prog.info? 3).map (fun i=>(i.zero,i.size,i.bytes))=some (some (.int .i64 0),1,8):=by kernel_rfl
theorem zfx.chars{base:Nat}{S:Nat→Prop}{w wk:World}{D G:Nat}{pw:Nat→Nat}{t:Twn}(h:zfx base w S D G pw t wk):
 Calls Tryz.prog 115 #[.pointer (some ⟨G,0,none⟩)] wk fun e w'=>∃v',e= .returned v'∧Own w' wk.heap.size v' t.b.chars∧Below wk.heap.size wk w':=by
 obtain⟨tk,h1,h2⟩:=h
 obtain⟨T,dv,lv,hl,_⟩:=h1.log
 exact zzx hl
end Go.Proofs.YtcbnnfeelhlapadGreatDoor