/-
  Desks: spoken, step, Do.
-/
import Derived.Test.YtcbnnfeelhlapadGreatDoorDkB
import Derived.Lib.MinMax
namespace Go.Proofs.YtcbnnfeelhlapadGreatDoor
set_option maxHeartbeats 3200000
set_option maxRecDepth 20000
open Go Go.RowKit
theorem qdu{w:World}{base D G:Nat}{pw:Nat→Nat}{t:Twn}{tk:Int→List (List Ch)}{S:Nat→Prop}(h:zik base D G pw t tk w S)(hr:TR t tk){k:Nat}(hk:k<4){r:Wr}(he:t.ws k=some r):
 Calls Tryz.prog 122 #[.pointer (some ⟨D,0,none⟩),.pointer (some ⟨pw k,0,none⟩)] w fun e w'=>e= .returned (.int .i64 (zau t.b r.seen))∧Below w.heap.size w w':=by
 have HR:Hid (TR t tk):=hr
 have HE:Hid (t.ws k=some r):=he
 have hseen:=(zbj hr he).seen
 have hsml:=hr.ti.good.small
 have HSL:Hid (r.seen+0≤t.b.ds.length):=by
  obtain⟨_,c,hi⟩:=hr.ti.wi _ r he
  exact hi.seen
 have HI:Hid (zap base w S D G pw t tk (fun _=>Th.no base) w∧Below w.heap.size w w):=⟨h.start,Below.refl _ _⟩
 have g0:=HI.out.1.cells.book
 have hlt:=HI.out.1.cells.lt
 clear h hr he
 go_enter Tryz.func122,Tryz.ntmps122
 go_wp2_with fail
 obtain⟨T,dv,lv,hl,_⟩:=HI.out.1.log
 refine(zzl hl HR.out.ti.good).mono ?_
 rintro e w7 ⟨rfl,hb7⟩
 have HI7:Hid (zap base w S D G pw t tk (fun _=>Th.no base) w7∧Below w.heap.size w w7):=⟨HI.out.1.after hb7,hb7⟩
 clear hb7 hl HI g0 hlt
 go_wp2_with fail
 obtain⟨T,lv2,ov,tvs,hp,_⟩:=HI7.out.1.wr hk HE.out
 refine(zry hp).mono ?_
 rintro e w8 ⟨rfl,rfl⟩
 clear hp
 go_wp2_with fail
 go_loopw [5,6] (fun n i wr=>∃j:Nat,r.seen+j≤t.b.ds.length∧i= .int .i64 ((r.seen:Int)+1+j)∧n= .int .i64 (zeb t.b r.seen j)∧Hid (zap base w S D G pw t tk (fun _=>Th.no base) wr∧Below w.heap.size w wr)) (fun _ i _=>t.b.ds.length+1-(intOf i).toNat)
 case atStart=>exact⟨0,HSL.out,by go_num,rfl,HI7.out⟩
 case round=>
  obtain⟨j,hj,rfl,rfl,HW⟩:=hrel
  have g0:=HW.out.1.cells.book
  have hlt2:=HW.out.1.cells.lt
  go_wp2_with fail
  obtain⟨T,dv,lv,hl,_⟩:=HW.out.1.log
  refine(zir hl).mono ?_
  rintro e w9 ⟨rfl,rfl⟩
  clear hl
  by_cases hlt:r.seen+j<t.b.ds.length
  ·have HLP:Hid (zeb t.b r.seen (j+1)=min (zeb t.b r.seen j) t.b.ds[r.seen+j].seen):=zqp hlt
   have HND:Hid (zq7 t.b ((r.seen:Int)+1+j)=t.b.ds[r.seen+j]∧isD t.b ((r.seen:Int)+1+j)=true):=by
    have h1:=zuu hlt
    rw[show(((r.seen+j:Nat):Int)+1)=(r.seen:Int)+1+j by omega]at h1
    exact⟨h1.2,h1.1⟩
   generalize t.b.ds[r.seen+j]=d at*
   generalize zeb t.b r.seen j=n at*
   go_wp2_with fail
   obtain⟨T,dv,lv,hl,_⟩:=HW.out.1.log
   refine(zph hl HR.out.ti.good.small _).mono ?_
   rintro e w10 ⟨rfl,hb⟩
   rw[HND.out.1,HND.out.2]
   have HI11:Hid (zap base w S D G pw t tk (fun _=>Th.no base) (w10.alloc (zcc d))∧Below w.heap.size w (w10.alloc (zcc d))):=⟨(HW.out.1.after hb).after (za1 _ _),bla (bla HW.out.2 hb) (za1 _ _)⟩
   clear hb hl g0
   go_wp2_with fail
   go_roundw
   case rel=>exact⟨j+1,by omega,by go_num,by rw[HLP.out],HI11.out⟩
   case measure=>simp[intOf];omega
  ·have hjj:r.seen+j=t.b.ds.length:=by omega
   rw[ztw (by omega)]
   obtain⟨least,hcq⟩:∃c,zau t.b r.seen=c:=⟨_,rfl⟩
   have HCQ:Hid (zau t.b r.seen=least):=hcq
   rw[hcq]
   clear hcq
   go_wp2_with fail
   go_ret
   exact⟨by rw[HCQ.out];rfl,HW.out.2⟩
theorem qaw{w:World}{base D G:Nat}{pw:Nat→Nat}{t:Twn}{tk:Int→List (List Ch)}{S:Nat→Prop}(h:zik base D G pw t tk w S)(hr:TR t tk){k:Nat}(hk:k<4){r:Wr}(he:t.ws k=some r)(x:Tst)(hxw:x.w=k)(hkd:x.kind=2)(hz:doC r.list ⟨1,r.me,r.next,r.seen,x.at_,0,x.text⟩ za0=0):
 Calls Tryz.prog 67 #[.pointer (some ⟨D,0,none⟩),tsV x] w fun e w'=>e= .returned (.int .i64 0)∧zhg base w S D G pw ⟨t.b,zab t.ws k (some (zkv r ⟨1,r.me,r.next,r.seen,x.at_,0,x.text⟩))⟩ (zab tk k (tk k++[zep r.list ⟨1,r.me,r.next,r.seen,x.at_,0,x.text⟩])) w':=by
 have HI:Hid (zap base w S D G pw t tk (zag (fun _=>Th.no base) 0 (Th.st base w.heap.size x)) (w.alloc (zc8 x))):=h.start.step x 0
 have HL:Hid (base≤w.heap.size∧∀k,S k→base≤k∧k<w.heap.size):=h.held
 have HR:Hid (TR t tk):=hr
 have HE:Hid (t.ws k=some r):=he
 have HO:Hid (WOk r (tk k)):=zbj hr he
 have HZ:Hid (doC r.list ⟨1,r.me,r.next,r.seen,x.at_,0,x.text⟩ za0=0):=hz
 clear hz
 obtain⟨kind,w_,at_,many,text⟩:=x
 obtain rfl:w_=(k:Int):=hxw
 obtain rfl:kind=2:=hkd
 have hk4:(k:Int)<4:=by omega
 have hhs:zbs t k=true:=by unfold zbs;rw[he];rfl
 clear h hr he
 go_enter Tryz.func67,Tryz.ntmps67
 go_wp2_with fail
 generalize World.alloc _ _=w5 at*
 obtain⟨_,c0,c1,c2,c3,c4⟩:=HI.out.stepAt
 simp only[Nat.zero_add]at c0 c1 c2 c3 c4
 have g1:=HI.out.cells.ws k hk
 have hlt:=HI.out.cells.lt
 simp only[hhs,zbu,if_true]at g1
 go_quiet (fail)
 go_wp2_with fail
 have H6:Hid (zap base w S D G pw t tk (zag (fun _=>Th.no base) 0 (Th.st base w.heap.size ⟨2,k,at_,many,text⟩)) (w5.drewN nq)):=HI.out.after (below_drewN (Below.refl _ _) nq)
 generalize w5.drewN nq=w6 at*
 clear HI c0 c1 c2 c3 c4 g1 hlt hhs
 obtain⟨T,lv,ov,tvs,hp,hs⟩:=H6.out.wr hk HE.out
 refine(put_yes hp (by have:=HO.out.len;omega) HO.out.fits (by have:=HO.out.few;omega) (by have:=HO.out.n2;omega) at_ text HZ.out).mono ?_
 rintro e w7 ⟨rfl,hto⟩
 have H7:Hid (zap base w S D G pw ⟨t.b,zab t.ws k (some (zkv r ⟨1,r.me,r.next,r.seen,at_,0,text⟩))⟩ (zab tk k (tk k++[zep r.list ⟨1,r.me,r.next,r.seen,at_,0,text⟩])) (zag (fun _=>Th.no base) 0 (Th.st base w.heap.size ⟨2,k,at_,many,text⟩)) w7):=hs (zkv r ⟨1,r.me,r.next,r.seen,at_,0,text⟩) (tk k++[zep r.list ⟨1,r.me,r.next,r.seen,at_,0,text⟩]) w7 (by rw[zvf];exact hto)
 clear hto hs hp H6
 go_wp2_with fail
 go_ret
 exact⟨rfl,H7.out.done HL.out⟩
theorem qeb{w:World}{base D G:Nat}{pw:Nat→Nat}{t:Twn}{tk:Int→List (List Ch)}{S:Nat→Prop}(h:zik base D G pw t tk w S)(hr:TR t tk){k:Nat}(hk:k<4){r:Wr}(he:t.ws k=some r)(x:Tst)(hxw:x.w=k)(hkd:x.kind=2)(hz:doC r.list ⟨1,r.me,r.next,r.seen,x.at_,0,x.text⟩ za0≠0):
 Calls Tryz.prog 67 #[.pointer (some ⟨D,0,none⟩),tsV x] w fun e w'=>e= .returned (.int .i64 (doC r.list ⟨1,r.me,r.next,r.seen,x.at_,0,x.text⟩ za0))∧zhg base w S D G pw t tk w':=by
 have HI:Hid (zap base w S D G pw t tk (zag (fun _=>Th.no base) 0 (Th.st base w.heap.size x)) (w.alloc (zc8 x))):=h.start.step x 0
 have HL:Hid (base≤w.heap.size∧∀k,S k→base≤k∧k<w.heap.size):=h.held
 have HR:Hid (TR t tk):=hr
 have HE:Hid (t.ws k=some r):=he
 have HO:Hid (WOk r (tk k)):=zbj hr he
 have HZ:Hid (doC r.list ⟨1,r.me,r.next,r.seen,x.at_,0,x.text⟩ za0≠0):=hz
 clear hz
 obtain⟨kind,w_,at_,many,text⟩:=x
 obtain rfl:w_=(k:Int):=hxw
 obtain rfl:kind=2:=hkd
 have hk4:(k:Int)<4:=by omega
 have hhs:zbs t k=true:=by unfold zbs;rw[he];rfl
 clear h hr he
 go_enter Tryz.func67,Tryz.ntmps67
 go_wp2_with fail
 generalize World.alloc _ _=w5 at*
 obtain⟨_,c0,c1,c2,c3,c4⟩:=HI.out.stepAt
 simp only[Nat.zero_add]at c0 c1 c2 c3 c4
 have g1:=HI.out.cells.ws k hk
 have hlt:=HI.out.cells.lt
 simp only[hhs,zbu,if_true]at g1
 go_quiet (fail)
 go_wp2_with fail
 have H6:Hid (zap base w S D G pw t tk (zag (fun _=>Th.no base) 0 (Th.st base w.heap.size ⟨2,k,at_,many,text⟩)) (w5.drewN nq)):=HI.out.after (below_drewN (Below.refl _ _) nq)
 generalize w5.drewN nq=w6 at*
 clear HI c0 c1 c2 c3 c4 g1 hlt hhs
 obtain⟨T,lv,ov,tvs,hp,hs⟩:=H6.out.wr hk HE.out
 refine(put_no hp (by have:=HO.out.len;omega) HO.out.fits at_ text HZ.out).mono ?_
 rintro e w7 ⟨rfl,hb⟩
 have H7:Hid (zap base w S D G pw t tk (zag (fun _=>Th.no base) 0 (Th.st base w.heap.size ⟨2,k,at_,many,text⟩)) w7):=H6.out.after hb
 clear hb hs hp H6
 obtain⟨cq,hcq⟩:∃c,doC r.list ⟨1,r.me,r.next,r.seen,at_,0,text⟩ za0=c:=⟨_,rfl⟩
 have HCQ:Hid (doC r.list ⟨1,r.me,r.next,r.seen,at_,0,text⟩ za0=cq):=hcq
 rw[hcq]
 clear hcq
 go_wp2_with fail
 go_ret
 exact⟨by rw[HCQ.out];rfl,H7.out.done HL.out⟩
theorem zw8{w:World}{base D G:Nat}{pw:Nat→Nat}{t:Twn}{tk:Int→List (List Ch)}{S:Nat→Prop}(h:zik base D G pw t tk w S)(hr:TR t tk){k:Nat}(hk:k<4){r:Wr}(he:t.ws k=some r)(x:Tst)(hxw:x.w=k)(hkd:x.kind=3)(hz:doC r.list ⟨2,r.me,r.next,r.seen,x.at_,x.many,⟨#[]⟩⟩ za0=0):
 Calls Tryz.prog 67 #[.pointer (some ⟨D,0,none⟩),tsV x] w fun e w'=>e= .returned (.int .i64 0)∧zhg base w S D G pw ⟨t.b,zab t.ws k (some (zkv r ⟨2,r.me,r.next,r.seen,x.at_,x.many,⟨#[]⟩⟩))⟩ (zab tk k (tk k++[zep r.list ⟨2,r.me,r.next,r.seen,x.at_,x.many,⟨#[]⟩⟩])) w':=by
 have HI:Hid (zap base w S D G pw t tk (zag (fun _=>Th.no base) 0 (Th.st base w.heap.size x)) (w.alloc (zc8 x))):=h.start.step x 0
 have HL:Hid (base≤w.heap.size∧∀k,S k→base≤k∧k<w.heap.size):=h.held
 have HR:Hid (TR t tk):=hr
 have HE:Hid (t.ws k=some r):=he
 have HO:Hid (WOk r (tk k)):=zbj hr he
 have HZ:Hid (doC r.list ⟨2,r.me,r.next,r.seen,x.at_,x.many,⟨#[]⟩⟩ za0=0):=hz
 clear hz
 obtain⟨kind,w_,at_,many,text⟩:=x
 obtain rfl:w_=(k:Int):=hxw
 obtain rfl:kind=3:=hkd
 have hk4:(k:Int)<4:=by omega
 have hhs:zbs t k=true:=by unfold zbs;rw[he];rfl
 clear h hr he
 go_enter Tryz.func67,Tryz.ntmps67
 go_wp2_with fail
 generalize World.alloc _ _=w5 at*
 obtain⟨_,c0,c1,c2,c3,c4⟩:=HI.out.stepAt
 simp only[Nat.zero_add]at c0 c1 c2 c3 c4
 have g1:=HI.out.cells.ws k hk
 have hlt:=HI.out.cells.lt
 simp only[hhs,zbu,if_true]at g1
 go_quiet (fail)
 go_wp2_with fail
 have H6:Hid (zap base w S D G pw t tk (zag (fun _=>Th.no base) 0 (Th.st base w.heap.size ⟨3,k,at_,many,text⟩)) (w5.drewN nq)):=HI.out.after (below_drewN (Below.refl _ _) nq)
 generalize w5.drewN nq=w6 at*
 clear HI c0 c1 c2 c3 c4 g1 hlt hhs
 obtain⟨T,lv,ov,tvs,hp,hs⟩:=H6.out.wr hk HE.out
 refine(take_yes hp (by have:=HO.out.len;omega) HO.out.fits (by have:=HO.out.few;omega) (by have:=HO.out.n2;omega) at_ many HZ.out).mono ?_
 rintro e w7 ⟨rfl,hto⟩
 have H7:Hid (zap base w S D G pw ⟨t.b,zab t.ws k (some (zkv r ⟨2,r.me,r.next,r.seen,at_,many,⟨#[]⟩⟩))⟩ (zab tk k (tk k++[zep r.list ⟨2,r.me,r.next,r.seen,at_,many,⟨#[]⟩⟩])) (zag (fun _=>Th.no base) 0 (Th.st base w.heap.size ⟨3,k,at_,many,text⟩)) w7):=hs (zkv r ⟨2,r.me,r.next,r.seen,at_,many,⟨#[]⟩⟩) (tk k++[zep r.list ⟨2,r.me,r.next,r.seen,at_,many,⟨#[]⟩⟩]) w7 (by rw[zvf];exact hto)
 clear hto hs hp H6
 go_wp2_with fail
 go_ret
 exact⟨rfl,H7.out.done HL.out⟩
theorem qak{w:World}{base D G:Nat}{pw:Nat→Nat}{t:Twn}{tk:Int→List (List Ch)}{S:Nat→Prop}(h:zik base D G pw t tk w S)(hr:TR t tk){k:Nat}(hk:k<4){r:Wr}(he:t.ws k=some r)(x:Tst)(hxw:x.w=k)(hkd:x.kind=3)(hz:doC r.list ⟨2,r.me,r.next,r.seen,x.at_,x.many,⟨#[]⟩⟩ za0≠0):
 Calls Tryz.prog 67 #[.pointer (some ⟨D,0,none⟩),tsV x] w fun e w'=>e= .returned (.int .i64 (doC r.list ⟨2,r.me,r.next,r.seen,x.at_,x.many,⟨#[]⟩⟩ za0))∧zhg base w S D G pw t tk w':=by
 have HI:Hid (zap base w S D G pw t tk (zag (fun _=>Th.no base) 0 (Th.st base w.heap.size x)) (w.alloc (zc8 x))):=h.start.step x 0
 have HL:Hid (base≤w.heap.size∧∀k,S k→base≤k∧k<w.heap.size):=h.held
 have HR:Hid (TR t tk):=hr
 have HE:Hid (t.ws k=some r):=he
 have HO:Hid (WOk r (tk k)):=zbj hr he
 have HZ:Hid (doC r.list ⟨2,r.me,r.next,r.seen,x.at_,x.many,⟨#[]⟩⟩ za0≠0):=hz
 clear hz
 obtain⟨kind,w_,at_,many,text⟩:=x
 obtain rfl:w_=(k:Int):=hxw
 obtain rfl:kind=3:=hkd
 have hk4:(k:Int)<4:=by omega
 have hhs:zbs t k=true:=by unfold zbs;rw[he];rfl
 clear h hr he
 go_enter Tryz.func67,Tryz.ntmps67
 go_wp2_with fail
 generalize World.alloc _ _=w5 at*
 obtain⟨_,c0,c1,c2,c3,c4⟩:=HI.out.stepAt
 simp only[Nat.zero_add]at c0 c1 c2 c3 c4
 have g1:=HI.out.cells.ws k hk
 have hlt:=HI.out.cells.lt
 simp only[hhs,zbu,if_true]at g1
 go_quiet (fail)
 go_wp2_with fail
 have H6:Hid (zap base w S D G pw t tk (zag (fun _=>Th.no base) 0 (Th.st base w.heap.size ⟨3,k,at_,many,text⟩)) (w5.drewN nq)):=HI.out.after (below_drewN (Below.refl _ _) nq)
 generalize w5.drewN nq=w6 at*
 clear HI c0 c1 c2 c3 c4 g1 hlt hhs
 obtain⟨T,lv,ov,tvs,hp,hs⟩:=H6.out.wr hk HE.out
 refine(take_no hp (by have:=HO.out.len;omega) HO.out.fits at_ many HZ.out).mono ?_
 rintro e w7 ⟨rfl,hb⟩
 have H7:Hid (zap base w S D G pw t tk (zag (fun _=>Th.no base) 0 (Th.st base w.heap.size ⟨3,k,at_,many,text⟩)) w7):=H6.out.after hb
 clear hb hs hp H6
 obtain⟨cq,hcq⟩:∃c,doC r.list ⟨2,r.me,r.next,r.seen,at_,many,⟨#[]⟩⟩ za0=c:=⟨_,rfl⟩
 have HCQ:Hid (doC r.list ⟨2,r.me,r.next,r.seen,at_,many,⟨#[]⟩⟩ za0=cq):=hcq
 rw[hcq]
 clear hcq
 go_wp2_with fail
 go_ret
 exact⟨by rw[HCQ.out];rfl,H7.out.done HL.out⟩
theorem zwc{w:World}{base D G:Nat}{pw:Nat→Nat}{t:Twn}{tk:Int→List (List Ch)}{S:Nat→Prop}(h:zik base D G pw t tk w S)(hr:TR t tk){k:Nat}(hk:k<4){r:Wr}(he:t.ws k=some r)(x:Tst)(hxw:x.w=k)(hkd:x.kind=4)(hn:r.opens[r.sent]? =none):
 Calls Tryz.prog 67 #[.pointer (some ⟨D,0,none⟩),tsV x] w fun e w'=>e= .returned (.int .i64 5)∧zhg base w S D G pw t tk w':=by
 have HI:Hid (zap base w S D G pw t tk (zag (fun _=>Th.no base) 0 (Th.st base w.heap.size x)) (w.alloc (zc8 x))):=h.start.step x 0
 have HL:Hid (base≤w.heap.size∧∀k,S k→base≤k∧k<w.heap.size):=h.held
 have HR:Hid (TR t tk):=hr
 have HE:Hid (t.ws k=some r):=he
 have HO:Hid (WOk r (tk k)):=zbj hr he
 have HN:Hid (r.opens[r.sent]? =none):=hn
 clear hn
 obtain⟨kind,w_,at_,many,text⟩:=x
 obtain rfl:w_=(k:Int):=hxw
 obtain rfl:kind=4:=hkd
 have hk4:(k:Int)<4:=by omega
 have hhs:zbs t k=true:=by unfold zbs;rw[he];rfl
 clear h hr he
 go_enter Tryz.func67,Tryz.ntmps67
 go_wp2_with fail
 generalize World.alloc _ _=w5 at*
 obtain⟨_,c0,c1,c2,c3,c4⟩:=HI.out.stepAt
 simp only[Nat.zero_add]at c0 c1 c2 c3 c4
 have g1:=HI.out.cells.ws k hk
 have hlt:=HI.out.cells.lt
 simp only[hhs,zbu,if_true]at g1
 go_quiet (fail)
 go_wp2_with fail
 have H6:Hid (zap base w S D G pw t tk (zag (fun _=>Th.no base) 0 (Th.st base w.heap.size ⟨4,k,at_,many,text⟩)) (w5.drewN nq)):=HI.out.after (below_drewN (Below.refl _ _) nq)
 generalize w5.drewN nq=w6 at*
 clear HI c0 c1 c2 c3 c4 g1 hlt hhs
 obtain⟨T,ha,hs⟩:=H6.out.call
 refine(qas ha HR.out hk HE.out HN.out).mono ?_
 rintro e w7 ⟨rfl,hto⟩
 have H7:Hid (zap base w S D G pw t tk (zag (fun _=>Th.no base) 0 (Th.st base w.heap.size ⟨4,k,at_,many,text⟩)) w7):=hs _ _ _ _ hto
 clear hto hs ha H6
 go_wp2_with fail
 go_ret
 exact⟨rfl,H7.out.done HL.out⟩
theorem ztt{w:World}{base D G:Nat}{pw:Nat→Nat}{t:Twn}{tk:Int→List (List Ch)}{S:Nat→Prop}(h:zik base D G pw t tk w S)(hr:TR t tk){k:Nat}(hk:k<4){r:Wr}(he:t.ws k=some r)(x:Tst)(hxw:x.w=k)(hkd:x.kind=4){d:Dd}(hn:r.opens[r.sent]? =some d)(hcc:za4 t.b d=0):
 Calls Tryz.prog 67 #[.pointer (some ⟨D,0,none⟩),tsV x] w fun e w'=>e= .returned (.int .i64 0)∧zhg base w S D G pw ⟨zat t.b d,zab t.ws k (some (zdj r))⟩ tk w':=by
 have HI:Hid (zap base w S D G pw t tk (zag (fun _=>Th.no base) 0 (Th.st base w.heap.size x)) (w.alloc (zc8 x))):=h.start.step x 0
 have HL:Hid (base≤w.heap.size∧∀k,S k→base≤k∧k<w.heap.size):=h.held
 have HR:Hid (TR t tk):=hr
 have HE:Hid (t.ws k=some r):=he
 have HO:Hid (WOk r (tk k)):=zbj hr he
 have HN:Hid (r.opens[r.sent]? =some d):=hn
 have HCC:Hid (za4 t.b d=0):=hcc
 clear hn hcc
 obtain⟨kind,w_,at_,many,text⟩:=x
 obtain rfl:w_=(k:Int):=hxw
 obtain rfl:kind=4:=hkd
 have hk4:(k:Int)<4:=by omega
 have hhs:zbs t k=true:=by unfold zbs;rw[he];rfl
 clear h hr he
 go_enter Tryz.func67,Tryz.ntmps67
 go_wp2_with fail
 generalize World.alloc _ _=w5 at*
 obtain⟨_,c0,c1,c2,c3,c4⟩:=HI.out.stepAt
 simp only[Nat.zero_add]at c0 c1 c2 c3 c4
 have g1:=HI.out.cells.ws k hk
 have hlt:=HI.out.cells.lt
 simp only[hhs,zbu,if_true]at g1
 go_quiet (fail)
 go_wp2_with fail
 have H6:Hid (zap base w S D G pw t tk (zag (fun _=>Th.no base) 0 (Th.st base w.heap.size ⟨4,k,at_,many,text⟩)) (w5.drewN nq)):=HI.out.after (below_drewN (Below.refl _ _) nq)
 generalize w5.drewN nq=w6 at*
 clear HI c0 c1 c2 c3 c4 g1 hlt hhs
 obtain⟨T,ha,hs⟩:=H6.out.call
 refine(zwh ha HR.out hk HE.out HN.out HCC.out).mono ?_
 rintro e w7 ⟨rfl,hto⟩
 have H7:Hid (zap base w S D G pw ⟨zat t.b d,zab t.ws k (some (zdj r))⟩ tk (zag (fun _=>Th.no base) 0 (Th.st base w.heap.size ⟨4,k,at_,many,text⟩)) w7):=hs _ _ _ _ hto
 clear hto hs ha H6
 go_wp2_with fail
 go_ret
 exact⟨rfl,H7.out.done HL.out⟩
theorem ztu{w:World}{base D G:Nat}{pw:Nat→Nat}{t:Twn}{tk:Int→List (List Ch)}{S:Nat→Prop}(h:zik base D G pw t tk w S)(hr:TR t tk){k:Nat}(hk:k<4){r:Wr}(he:t.ws k=some r)(x:Tst)(hxw:x.w=k)(hkd:x.kind=4){d:Dd}(hn:r.opens[r.sent]? =some d)(hcc:za4 t.b d≠0):
 Calls Tryz.prog 67 #[.pointer (some ⟨D,0,none⟩),tsV x] w fun e w'=>e= .returned (.int .i64 (za4 t.b d))∧zhg base w S D G pw (zdl t k) tk w':=by
 have HI:Hid (zap base w S D G pw t tk (zag (fun _=>Th.no base) 0 (Th.st base w.heap.size x)) (w.alloc (zc8 x))):=h.start.step x 0
 have HL:Hid (base≤w.heap.size∧∀k,S k→base≤k∧k<w.heap.size):=h.held
 have HR:Hid (TR t tk):=hr
 have HE:Hid (t.ws k=some r):=he
 have HO:Hid (WOk r (tk k)):=zbj hr he
 have HN:Hid (r.opens[r.sent]? =some d):=hn
 have HCC:Hid (za4 t.b d≠0):=hcc
 clear hn hcc
 obtain⟨kind,w_,at_,many,text⟩:=x
 obtain rfl:w_=(k:Int):=hxw
 obtain rfl:kind=4:=hkd
 have hk4:(k:Int)<4:=by omega
 have hhs:zbs t k=true:=by unfold zbs;rw[he];rfl
 clear h hr he
 go_enter Tryz.func67,Tryz.ntmps67
 go_wp2_with fail
 generalize World.alloc _ _=w5 at*
 obtain⟨_,c0,c1,c2,c3,c4⟩:=HI.out.stepAt
 simp only[Nat.zero_add]at c0 c1 c2 c3 c4
 have g1:=HI.out.cells.ws k hk
 have hlt:=HI.out.cells.lt
 simp only[hhs,zbu,if_true]at g1
 go_quiet (fail)
 go_wp2_with fail
 have H6:Hid (zap base w S D G pw t tk (zag (fun _=>Th.no base) 0 (Th.st base w.heap.size ⟨4,k,at_,many,text⟩)) (w5.drewN nq)):=HI.out.after (below_drewN (Below.refl _ _) nq)
 generalize w5.drewN nq=w6 at*
 clear HI c0 c1 c2 c3 c4 g1 hlt hhs
 obtain⟨T,ha,hs⟩:=H6.out.call
 refine(zwi ha HR.out hk HE.out HN.out HCC.out).mono ?_
 rintro e w7 ⟨rfl,hto⟩
 have H7:Hid (zap base w S D G pw (zdl t k) tk (zag (fun _=>Th.no base) 0 (Th.st base w.heap.size ⟨4,k,at_,many,text⟩)) w7):=hs _ _ _ _ hto
 clear hto hs ha H6
 obtain⟨cq,hcq⟩:∃c,za4 t.b d=c:=⟨_,rfl⟩
 have HCQ:Hid (za4 t.b d=cq):=hcq
 rw[hcq]
 clear hcq
 go_wp2_with fail
 go_ret
 exact⟨by rw[HCQ.out];rfl,H7.out.done HL.out⟩
theorem zwg{w:World}{base D G:Nat}{pw:Nat→Nat}{t:Twn}{tk:Int→List (List Ch)}{S:Nat→Prop}(h:zik base D G pw t tk w S)(hr:TR t tk){k:Nat}(hk:k<4){r:Wr}(he:t.ws k=some r)(x:Tst)(hxw:x.w=k)(hkd:x.kind=5)(hn:t.b.ds[r.seen]? =none):
 Calls Tryz.prog 67 #[.pointer (some ⟨D,0,none⟩),tsV x] w fun e w'=>e= .returned (.int .i64 5)∧zhg base w S D G pw t tk w':=by
 have HI:Hid (zap base w S D G pw t tk (zag (fun _=>Th.no base) 0 (Th.st base w.heap.size x)) (w.alloc (zc8 x))):=h.start.step x 0
 have HL:Hid (base≤w.heap.size∧∀k,S k→base≤k∧k<w.heap.size):=h.held
 have HR:Hid (TR t tk):=hr
 have HE:Hid (t.ws k=some r):=he
 have HO:Hid (WOk r (tk k)):=zbj hr he
 have HN:Hid (t.b.ds[r.seen]? =none):=hn
 clear hn
 obtain⟨kind,w_,at_,many,text⟩:=x
 obtain rfl:w_=(k:Int):=hxw
 obtain rfl:kind=5:=hkd
 have hk4:(k:Int)<4:=by omega
 have hhs:zbs t k=true:=by unfold zbs;rw[he];rfl
 clear h hr he
 go_enter Tryz.func67,Tryz.ntmps67
 go_wp2_with fail
 generalize World.alloc _ _=w5 at*
 obtain⟨_,c0,c1,c2,c3,c4⟩:=HI.out.stepAt
 simp only[Nat.zero_add]at c0 c1 c2 c3 c4
 have g1:=HI.out.cells.ws k hk
 have hlt:=HI.out.cells.lt
 simp only[hhs,zbu,if_true]at g1
 go_quiet (fail)
 go_wp2_with fail
 have H6:Hid (zap base w S D G pw t tk (zag (fun _=>Th.no base) 0 (Th.st base w.heap.size ⟨5,k,at_,many,text⟩)) (w5.drewN nq)):=HI.out.after (below_drewN (Below.refl _ _) nq)
 generalize w5.drewN nq=w6 at*
 clear HI c0 c1 c2 c3 c4 g1 hlt hhs
 obtain⟨T,ha,hs⟩:=H6.out.call
 refine(qbf ha HR.out hk HE.out HN.out).mono ?_
 rintro e w7 ⟨rfl,hto⟩
 have H7:Hid (zap base w S D G pw t tk (zag (fun _=>Th.no base) 0 (Th.st base w.heap.size ⟨5,k,at_,many,text⟩)) w7):=hs _ _ _ _ hto
 clear hto hs ha H6
 go_wp2_with fail
 go_ret
 exact⟨rfl,H7.out.done HL.out⟩
theorem zu1{w:World}{base D G:Nat}{pw:Nat→Nat}{t:Twn}{tk:Int→List (List Ch)}{S:Nat→Prop}(h:zik base D G pw t tk w S)(hr:TR t tk){k:Nat}(hk:k<4){r:Wr}(he:t.ws k=some r)(x:Tst)(hxw:x.w=k)(hkd:x.kind=5){d:Dd}(hn:t.b.ds[r.seen]? =some d)(hcc:zbd r d≠0):
 Calls Tryz.prog 67 #[.pointer (some ⟨D,0,none⟩),tsV x] w fun e w'=>e= .returned (.int .i64 (zbd r d))∧zhg base w S D G pw (zdl t k) tk w':=by
 have HI:Hid (zap base w S D G pw t tk (zag (fun _=>Th.no base) 0 (Th.st base w.heap.size x)) (w.alloc (zc8 x))):=h.start.step x 0
 have HL:Hid (base≤w.heap.size∧∀k,S k→base≤k∧k<w.heap.size):=h.held
 have HR:Hid (TR t tk):=hr
 have HE:Hid (t.ws k=some r):=he
 have HO:Hid (WOk r (tk k)):=zbj hr he
 have HN:Hid (t.b.ds[r.seen]? =some d):=hn
 have HCC:Hid (zbd r d≠0):=hcc
 clear hn hcc
 obtain⟨kind,w_,at_,many,text⟩:=x
 obtain rfl:w_=(k:Int):=hxw
 obtain rfl:kind=5:=hkd
 have hk4:(k:Int)<4:=by omega
 have hhs:zbs t k=true:=by unfold zbs;rw[he];rfl
 clear h hr he
 go_enter Tryz.func67,Tryz.ntmps67
 go_wp2_with fail
 generalize World.alloc _ _=w5 at*
 obtain⟨_,c0,c1,c2,c3,c4⟩:=HI.out.stepAt
 simp only[Nat.zero_add]at c0 c1 c2 c3 c4
 have g1:=HI.out.cells.ws k hk
 have hlt:=HI.out.cells.lt
 simp only[hhs,zbu,if_true]at g1
 go_quiet (fail)
 go_wp2_with fail
 have H6:Hid (zap base w S D G pw t tk (zag (fun _=>Th.no base) 0 (Th.st base w.heap.size ⟨5,k,at_,many,text⟩)) (w5.drewN nq)):=HI.out.after (below_drewN (Below.refl _ _) nq)
 generalize w5.drewN nq=w6 at*
 clear HI c0 c1 c2 c3 c4 g1 hlt hhs
 obtain⟨T,ha,hs⟩:=H6.out.call
 refine(zxg ha HR.out hk HE.out HN.out HCC.out).mono ?_
 rintro e w7 ⟨rfl,hto⟩
 have H7:Hid (zap base w S D G pw (zdl t k) tk (zag (fun _=>Th.no base) 0 (Th.st base w.heap.size ⟨5,k,at_,many,text⟩)) w7):=hs _ _ _ _ hto
 clear hto hs ha H6
 obtain⟨cq,hcq⟩:∃c,zbd r d=c:=⟨_,rfl⟩
 have HCQ:Hid (zbd r d=cq):=hcq
 rw[hcq]
 clear hcq
 go_wp2_with fail
 go_ret
 exact⟨by rw[HCQ.out];rfl,H7.out.done HL.out⟩
theorem zu0{w:World}{base D G:Nat}{pw:Nat→Nat}{t:Twn}{tk:Int→List (List Ch)}{S:Nat→Prop}(h:zik base D G pw t tk w S)(hr:TR t tk){k:Nat}(hk:k<4){r:Wr}(he:t.ws k=some r)(x:Tst)(hxw:x.w=k)(hkd:x.kind=5){d:Dd}(hn:t.b.ds[r.seen]? =some d)(hcc:zbd r d=0):
 Calls Tryz.prog 67 #[.pointer (some ⟨D,0,none⟩),tsV x] w fun e w'=>e= .returned (.int .i64 (zd4 t.b k (zav r d).least))∧zhg base w S D G pw ⟨zcz t.b k (zav r d).least,zab t.ws k (some (zav r d))⟩ (zab tk k (zg3 r d (tk k))) w':=by
 have HI:Hid (zap base w S D G pw t tk (zag (fun _=>Th.no base) 0 (Th.st base w.heap.size x)) (w.alloc (zc8 x))):=h.start.step x 0
 have HL:Hid (base≤w.heap.size∧∀k,S k→base≤k∧k<w.heap.size):=h.held
 have HR:Hid (TR t tk):=hr
 have HE:Hid (t.ws k=some r):=he
 have HO:Hid (WOk r (tk k)):=zbj hr he
 have HN:Hid (t.b.ds[r.seen]? =some d):=hn
 have HCC:Hid (zbd r d=0):=hcc
 clear hn hcc
 obtain⟨kind,w_,at_,many,text⟩:=x
 obtain rfl:w_=(k:Int):=hxw
 obtain rfl:kind=5:=hkd
 have hk4:(k:Int)<4:=by omega
 have hhs:zbs t k=true:=by unfold zbs;rw[he];rfl
 clear h hr he
 go_enter Tryz.func67,Tryz.ntmps67
 go_wp2_with fail
 generalize World.alloc _ _=w5 at*
 obtain⟨_,c0,c1,c2,c3,c4⟩:=HI.out.stepAt
 simp only[Nat.zero_add]at c0 c1 c2 c3 c4
 have g1:=HI.out.cells.ws k hk
 have hlt:=HI.out.cells.lt
 simp only[hhs,zbu,if_true]at g1
 go_quiet (fail)
 go_wp2_with fail
 have H6:Hid (zap base w S D G pw t tk (zag (fun _=>Th.no base) 0 (Th.st base w.heap.size ⟨5,k,at_,many,text⟩)) (w5.drewN nq)):=HI.out.after (below_drewN (Below.refl _ _) nq)
 generalize w5.drewN nq=w6 at*
 clear HI c0 c1 c2 c3 c4 g1 hlt hhs
 obtain⟨T,ha,hs⟩:=H6.out.call
 refine(zxf ha HR.out hk HE.out HN.out HCC.out).mono ?_
 rintro e w7 ⟨rfl,hto⟩
 have H7:Hid (zap base w S D G pw ⟨zcz t.b k (zav r d).least,zab t.ws k (some (zav r d))⟩ (zab tk k (zg3 r d (tk k))) (zag (fun _=>Th.no base) 0 (Th.st base w.heap.size ⟨5,k,at_,many,text⟩)) w7):=hs _ _ _ _ hto
 clear hto hs ha H6
 obtain⟨cq,hcq⟩:∃c,zd4 t.b k (zav r d).least=c:=⟨_,rfl⟩
 have HCQ:Hid (zd4 t.b k (zav r d).least=cq):=hcq
 rw[hcq]
 clear hcq
 go_wp2_with fail
 go_ret
 exact⟨by rw[HCQ.out];rfl,H7.out.done HL.out⟩
theorem qdy{w:World}{base D G:Nat}{pw:Nat→Nat}{t:Twn}{tk:Int→List (List Ch)}{S:Nat→Prop}(h:zik base D G pw t tk w S)(hr:TR t tk){k:Nat}(hk:k<4){r:Wr}(he:t.ws k=some r)(x:Tst)(hxw:x.w=k)(hkd:x.kind=7):
 Calls Tryz.prog 67 #[.pointer (some ⟨D,0,none⟩),tsV x] w fun e w'=>e= .returned (.int .i64 0)∧zhg base w S D G pw (zdl t k) tk w':=by
 have HI:Hid (zap base w S D G pw t tk (zag (fun _=>Th.no base) 0 (Th.st base w.heap.size x)) (w.alloc (zc8 x))):=h.start.step x 0
 have HL:Hid (base≤w.heap.size∧∀k,S k→base≤k∧k<w.heap.size):=h.held
 have HR:Hid (TR t tk):=hr
 have HE:Hid (t.ws k=some r):=he
 have HO:Hid (WOk r (tk k)):=zbj hr he
 obtain⟨kind,w_,at_,many,text⟩:=x
 obtain rfl:w_=(k:Int):=hxw
 obtain rfl:kind=7:=hkd
 have hk4:(k:Int)<4:=by omega
 have hhs:zbs t k=true:=by unfold zbs;rw[he];rfl
 clear h hr he
 go_enter Tryz.func67,Tryz.ntmps67
 go_wp2_with fail
 generalize World.alloc _ _=w5 at*
 obtain⟨_,c0,c1,c2,c3,c4⟩:=HI.out.stepAt
 simp only[Nat.zero_add]at c0 c1 c2 c3 c4
 have g1:=HI.out.cells.ws k hk
 have hlt:=HI.out.cells.lt
 simp only[hhs,zbu,if_true]at g1
 go_quiet (fail)
 go_wp2_with fail
 have H6:Hid (zap base w S D G pw t tk (zag (fun _=>Th.no base) 0 (Th.st base w.heap.size ⟨7,k,at_,many,text⟩)) (w5.drewN nq)):=HI.out.after (below_drewN (Below.refl _ _) nq)
 generalize w5.drewN nq=w6 at*
 clear HI c0 c1 c2 c3 c4 g1 hlt hhs
 obtain⟨T,ha,hs⟩:=H6.out.call
 refine(zxm ha hk).mono ?_
 rintro e w7 ⟨rfl,hto⟩
 have H7:Hid (zap base w S D G pw (zdl t k) tk (zag (fun _=>Th.no base) 0 (Th.st base w.heap.size ⟨7,k,at_,many,text⟩)) w7):=hs _ _ _ _ hto
 clear hto hs ha H6
 go_wp2_with fail
 go_ret
 exact⟨rfl,H7.out.done HL.out⟩
theorem qe5{w:World}{base D G:Nat}{pw:Nat→Nat}{t:Twn}{tk:Int→List (List Ch)}{S:Nat→Prop}(h:zik base D G pw t tk w S)(hr:TR t tk){k:Nat}(hk:k<4){r:Wr}(he:t.ws k=some r)(x:Tst)(hxw:x.w=k)(hkd:x.kind=6):
 Calls Tryz.prog 67 #[.pointer (some ⟨D,0,none⟩),tsV x] w fun e w'=>e= .returned (.int .i64 0)∧zhg base w S D G pw ⟨t.b,zab t.ws k (some (zfw r (zau t.b r.seen)))⟩ tk w':=by
 have HI:Hid (zap base w S D G pw t tk (zag (fun _=>Th.no base) 0 (Th.st base w.heap.size x)) (w.alloc (zc8 x))):=h.start.step x 0
 have HL:Hid (base≤w.heap.size∧∀k,S k→base≤k∧k<w.heap.size):=h.held
 have HR:Hid (TR t tk):=hr
 have HE:Hid (t.ws k=some r):=he
 have HO:Hid (WOk r (tk k)):=zbj hr he
 have HTK:Hid (zab tk k (tk k)=tk):=zhn tk k
 have HCL:Hid ((zfw r (zau t.b r.seen)).list=ofL (zau t.b r.seen) r.list):=qc1 hr he
 obtain⟨kind,w_,at_,many,text⟩:=x
 obtain rfl:w_=(k:Int):=hxw
 obtain rfl:kind=6:=hkd
 have hk4:(k:Int)<4:=by omega
 have hhs:zbs t k=true:=by unfold zbs;rw[he];rfl
 clear h hr he
 go_enter Tryz.func67,Tryz.ntmps67
 go_wp2_with fail
 generalize World.alloc _ _=w5 at*
 obtain⟨_,c0,c1,c2,c3,c4⟩:=HI.out.stepAt
 simp only[Nat.zero_add]at c0 c1 c2 c3 c4
 have g1:=HI.out.cells.ws k hk
 have hlt:=HI.out.cells.lt
 simp only[hhs,zbu,if_true]at g1
 go_quiet (fail)
 go_wp2_with fail
 have H6:Hid (zap base w S D G pw t tk (zag (fun _=>Th.no base) 0 (Th.st base w.heap.size ⟨6,k,at_,many,text⟩)) (w5.drewN nq)):=HI.out.after (below_drewN (Below.refl _ _) nq)
 generalize w5.drewN nq=w6 at*
 clear HI c0 c1 c2 c3 c4 g1 hlt hhs
 obtain⟨T,ha,_⟩:=H6.out.call
 refine(qdu ha HR.out hk HE.out).mono ?_
 rintro e w7 ⟨rfl,hb⟩
 have H7:Hid (zap base w S D G pw t tk (zag (fun _=>Th.no base) 0 (Th.st base w.heap.size ⟨6,k,at_,many,text⟩)) w7):=H6.out.after hb
 clear hb ha H6
 obtain⟨least,hle⟩:∃least,zau t.b r.seen=least:=⟨_,rfl⟩
 have HLE:Hid (zau t.b r.seen=least):=hle
 rw[hle]
 clear hle
 go_wp2_with fail
 obtain⟨T,lv,ov,tvs,hp,hs⟩:=H7.out.wr hk HE.out
 refine(clear_pw hp (by have:=HO.out.len;omega) least).mono ?_
 rintro e w8 ⟨rfl,hto⟩
 have H8:Hid (zap base w S D G pw ⟨t.b,zab t.ws k (some (zfw r (zau t.b r.seen)))⟩ tk (zag (fun _=>Th.no base) 0 (Th.st base w.heap.size ⟨6,k,at_,many,text⟩)) w8):=by
  have:=hs (zfw r (zau t.b r.seen)) (tk k) w8 (by rw[HCL.out,HLE.out];exact hto)
  rw[HTK.out]at this
  exact this
 clear hto hs hp H7
 generalize (r.list.length:Int)-(ofL least r.list).length=q at*
 go_wp2_with fail
 go_ret
 exact⟨rfl,H8.out.done HL.out⟩
end Go.Proofs.YtcbnnfeelhlapadGreatDoor