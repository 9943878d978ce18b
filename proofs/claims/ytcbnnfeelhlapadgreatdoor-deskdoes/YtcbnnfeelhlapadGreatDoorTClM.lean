/-
  DkC, DkD, TBeg, WOpen, TRun, TClM.
-/
import Derived.Deep.LoopGhost
import Derived.Test.YtcbnnfeelhlapadGreatDoorDkB
namespace Go.Proofs.YtcbnnfeelhlapadGreatDoor
set_option maxHeartbeats 3200000
set_option maxRecDepth 20000
open Go.RowKit
variable {w:World} {base D G:Nat} {pw:Nat->Nat} {t:Twn} {tk:Int->List (List Ch)} {S:Nat->Prop}
theorem qdv(h:zil base D G pw t tk w S)(hr:TR t tk){k:Nat}(hk:k<4){r:Wr}(he:t.ws k=some r):
 Calls Tryz.prog 122 #[.pointer (some ⟨D,0,none⟩),.pointer (some ⟨pw k,0,none⟩)] w fun e w'=>e= .returned (.int .i64 (zba t.b r.seen))/\Below w.heap.size w w':=by
 have HR:=hid hr
 have HE:=hid he
 have hseen:=(zbg hr he).seen
 have hsml:=hr.ti.good.small
 have HSL:Hid (r.seen+0<=t.b.ds.length):=by
  obtain⟨_,c,hi⟩:=hr.ti.wi _ r he
  exact hi.seen
 have HI:Hid (zbc base w S D G pw t tk (fun _=>Th.no base) w/\Below w.heap.size w w):=⟨h.start,Below.refl _ _⟩
 have g0:=HI.out.1.cells.book
 have hlt:=HI.out.1.cells.lt
 clear h hr he
 go_enter Tryz.func122,Tryz.ntmps122
 go_wp2_with fail
 obtain⟨T,dv,lv,hl,_⟩:=HI.out.1.log
 refine(zzn hl HR.out.ti.good).mono ?_
 rintro e w7 ⟨rfl,hb7⟩
 have HI7:Hid (zbc base w S D G pw t tk (fun _=>Th.no base) w7/\Below w.heap.size w w7):=⟨HI.out.1.after hb7,hb7⟩
 clear hb7 hl HI g0 hlt
 go_wp2_with fail
 obtain⟨T,lv2,ov,tvs,hp,_⟩:=HI7.out.1.wr hk HE.out
 refine(zrz hp).mono ?_
 rintro e w8 ⟨rfl,rfl⟩
 clear hp
 go_wp2_with fail
 go_loopw [5,6] (fun n i wr=>∃j:Nat,r.seen+j<=t.b.ds.length/\i= .int .i64 ((r.seen:Int)+1+j)/\n= .int .i64 (zgi t.b r.seen j)/\Hid (zbc base w S D G pw t tk (fun _=>Th.no base) wr/\Below w.heap.size w wr)) (fun _ i _=>t.b.ds.length+1-(intOf i).toNat)
 case atStart=>exact⟨0,HSL.out,by go_num,rfl,HI7.out⟩
 obtain⟨j,hj,rfl,rfl,HW⟩:=hrel
 have g0:=HW.out.1.cells.book
 have hlt2:=HW.out.1.cells.lt
 go_wp2_with fail
 obtain⟨T,dv,lv,hl,_⟩:=HW.out.1.log
 refine(zir hl).mono ?_
 rintro e w9 ⟨rfl,rfl⟩
 clear hl
 by_cases hlt:r.seen+j<t.b.ds.length
 ·have HLP:=hid (zqr hlt)
  have HND:Hid (zum t.b ((r.seen:Int)+1+j)=t.b.ds[r.seen+j]/\isD t.b ((r.seen:Int)+1+j)=true):=by
   have h1:=zuv hlt
   rw[show(((r.seen+j:Nat):Int)+1)=(r.seen:Int)+1+j by omega]at h1
   exact⟨h1.2,h1.1⟩
  generalize t.b.ds[r.seen+j]=d at*
  generalize zgi t.b r.seen j=n at*
  go_wp2_with fail
  obtain⟨T,dv,lv,hl,_⟩:=HW.out.1.log
  refine(zpg hl HR.out.ti.good.small _).mono ?_
  rintro e w10 ⟨rfl,hb⟩
  rw[HND.out.1,HND.out.2]
  have HI11:Hid (zbc base w S D G pw t tk (fun _=>Th.no base) (w10.alloc (zd9 d))/\Below w.heap.size w (w10.alloc (zd9 d))):=⟨(HW.out.1.after hb).after (za2 _ _),bla (bla HW.out.2 hb) (za2 _ _)⟩
  clear hb hl g0
  go_wp2_with fail
  go_roundw
  case rel=>exact⟨j+1,by omega,by go_num,by rw[HLP.out],HI11.out⟩
  case measure=>simp[intOf];omega
 have hjj:r.seen+j=t.b.ds.length:=by omega
 rw[ztw (by omega)]
 obtain⟨least,hcq⟩:∃c,zba t.b r.seen=c:=⟨_,rfl⟩
 have HCQ:=hid hcq
 rw[hcq]
 clear hcq
 go_wp2_with fail
 go_ret
 exact⟨by rw[HCQ.out];rfl,HW.out.2⟩
theorem qay(h:zil base D G pw t tk w S)(hr:TR t tk){k:Nat}(hk:k<4){r:Wr}(he:t.ws k=some r)(x:Tst)(hxw:x.w=k)(hkd:x.kind=2)(hz:doC r.list ⟨1,r.me,r.next,r.seen,x.at_,0,x.text⟩ za3=0):
 Calls Tryz.prog 67 #[.pointer (some ⟨D,0,none⟩),tsV x] w fun e w'=>e= .returned (.int .i64 0)/\zhe base w S D G pw ⟨t.b,zai t.ws k (some (zkw r ⟨1,r.me,r.next,r.seen,x.at_,0,x.text⟩))⟩ (zai tk k (tk k++[zel r.list ⟨1,r.me,r.next,r.seen,x.at_,0,x.text⟩])) w':=by
 have HI:=hid (h.start.step x 0)
 have HL:=hid h.held
 have HR:=hid hr
 have HE:=hid he
 have HO:=hid (zbg hr he)
 have HZ:=hid hz
 clear hz
 obtain⟨kind,w_,at_,many,text⟩:=x
 obtain rfl:w_=(k:Int):=hxw
 obtain rfl:kind=2:=hkd
 have hk4:(k:Int)<4:=by omega
 have hhs:zbo t k=true:=by unfold zbo;rw[he];rfl
 clear h hr he
 go_enter Tryz.func67,Tryz.ntmps67
 go_wp2_with fail
 generalize World.alloc _ _=w5 at*
 obtain⟨_,c0,c1,c2,c3,c4⟩:=HI.out.stepAt
 simp only[Nat.zero_add]at c0 c1 c2 c3 c4
 have g1:=HI.out.cells.ws k hk
 have hlt:=HI.out.cells.lt
 simp only[hhs,zbq,if_true]at g1
 go_quiet (fail)
 go_wp2_with fail
 have H6:Hid (zbc base w S D G pw t tk (zat (fun _=>Th.no base) 0 (Th.st base w.heap.size ⟨2,k,at_,many,text⟩)) (w5.drewN nq)):=HI.out.after (below_drewN (Below.refl _ _) nq)
 generalize w5.drewN nq=w6 at*
 clear HI c0 c1 c2 c3 c4 g1 hlt hhs
 obtain⟨T,lv,ov,tvs,hp,hs⟩:=H6.out.wr hk HE.out
 refine(put_yes hp (by have:=HO.out.len;omega) HO.out.fits (by have:=HO.out.few;omega) (by have:=HO.out.n2;omega) at_ text HZ.out).mono ?_
 rintro e w7 ⟨rfl,hto⟩
 have H7:Hid (zbc base w S D G pw ⟨t.b,zai t.ws k (some (zkw r ⟨1,r.me,r.next,r.seen,at_,0,text⟩))⟩ (zai tk k (tk k++[zel r.list ⟨1,r.me,r.next,r.seen,at_,0,text⟩])) (zat (fun _=>Th.no base) 0 (Th.st base w.heap.size ⟨2,k,at_,many,text⟩)) w7):=hs (zkw r ⟨1,r.me,r.next,r.seen,at_,0,text⟩) (tk k++[zel r.list ⟨1,r.me,r.next,r.seen,at_,0,text⟩]) w7 (by rw[zvg];exact hto)
 clear hto hs hp H6
 go_wp2_with fail
 go_ret
 exact⟨rfl,H7.out.done HL.out⟩
theorem qec(h:zil base D G pw t tk w S)(hr:TR t tk){k:Nat}(hk:k<4){r:Wr}(he:t.ws k=some r)(x:Tst)(hxw:x.w=k)(hkd:x.kind=2)(hz:doC r.list ⟨1,r.me,r.next,r.seen,x.at_,0,x.text⟩ za3≠0):
 Calls Tryz.prog 67 #[.pointer (some ⟨D,0,none⟩),tsV x] w fun e w'=>e= .returned (.int .i64 (doC r.list ⟨1,r.me,r.next,r.seen,x.at_,0,x.text⟩ za3))/\zhe base w S D G pw t tk w':=by
 have HI:=hid (h.start.step x 0)
 have HL:=hid h.held
 have HR:=hid hr
 have HE:=hid he
 have HO:=hid (zbg hr he)
 have HZ:=hid hz
 clear hz
 obtain⟨kind,w_,at_,many,text⟩:=x
 obtain rfl:w_=(k:Int):=hxw
 obtain rfl:kind=2:=hkd
 have hk4:(k:Int)<4:=by omega
 have hhs:zbo t k=true:=by unfold zbo;rw[he];rfl
 clear h hr he
 go_enter Tryz.func67,Tryz.ntmps67
 go_wp2_with fail
 generalize World.alloc _ _=w5 at*
 obtain⟨_,c0,c1,c2,c3,c4⟩:=HI.out.stepAt
 simp only[Nat.zero_add]at c0 c1 c2 c3 c4
 have g1:=HI.out.cells.ws k hk
 have hlt:=HI.out.cells.lt
 simp only[hhs,zbq,if_true]at g1
 go_quiet (fail)
 go_wp2_with fail
 have H6:Hid (zbc base w S D G pw t tk (zat (fun _=>Th.no base) 0 (Th.st base w.heap.size ⟨2,k,at_,many,text⟩)) (w5.drewN nq)):=HI.out.after (below_drewN (Below.refl _ _) nq)
 generalize w5.drewN nq=w6 at*
 clear HI c0 c1 c2 c3 c4 g1 hlt hhs
 obtain⟨T,lv,ov,tvs,hp,hs⟩:=H6.out.wr hk HE.out
 refine(put_no hp (by have:=HO.out.len;omega) HO.out.fits at_ text HZ.out).mono ?_
 rintro e w7 ⟨rfl,hb⟩
 have H7:=hid (H6.out.after hb)
 clear hb hs hp H6
 obtain⟨cq,hcq⟩:∃c,doC r.list ⟨1,r.me,r.next,r.seen,at_,0,text⟩ za3=c:=⟨_,rfl⟩
 have HCQ:=hid hcq
 rw[hcq]
 clear hcq
 go_wp2_with fail
 go_ret
 exact⟨by rw[HCQ.out];rfl,H7.out.done HL.out⟩
theorem zw8(h:zil base D G pw t tk w S)(hr:TR t tk){k:Nat}(hk:k<4){r:Wr}(he:t.ws k=some r)(x:Tst)(hxw:x.w=k)(hkd:x.kind=3)(hz:doC r.list ⟨2,r.me,r.next,r.seen,x.at_,x.many,⟨#[]⟩⟩ za3=0):
 Calls Tryz.prog 67 #[.pointer (some ⟨D,0,none⟩),tsV x] w fun e w'=>e= .returned (.int .i64 0)/\zhe base w S D G pw ⟨t.b,zai t.ws k (some (zkw r ⟨2,r.me,r.next,r.seen,x.at_,x.many,⟨#[]⟩⟩))⟩ (zai tk k (tk k++[zel r.list ⟨2,r.me,r.next,r.seen,x.at_,x.many,⟨#[]⟩⟩])) w':=by
 have HI:=hid (h.start.step x 0)
 have HL:=hid h.held
 have HR:=hid hr
 have HE:=hid he
 have HO:=hid (zbg hr he)
 have HZ:=hid hz
 clear hz
 obtain⟨kind,w_,at_,many,text⟩:=x
 obtain rfl:w_=(k:Int):=hxw
 obtain rfl:kind=3:=hkd
 have hk4:(k:Int)<4:=by omega
 have hhs:zbo t k=true:=by unfold zbo;rw[he];rfl
 clear h hr he
 go_enter Tryz.func67,Tryz.ntmps67
 go_wp2_with fail
 generalize World.alloc _ _=w5 at*
 obtain⟨_,c0,c1,c2,c3,c4⟩:=HI.out.stepAt
 simp only[Nat.zero_add]at c0 c1 c2 c3 c4
 have g1:=HI.out.cells.ws k hk
 have hlt:=HI.out.cells.lt
 simp only[hhs,zbq,if_true]at g1
 go_quiet (fail)
 go_wp2_with fail
 have H6:Hid (zbc base w S D G pw t tk (zat (fun _=>Th.no base) 0 (Th.st base w.heap.size ⟨3,k,at_,many,text⟩)) (w5.drewN nq)):=HI.out.after (below_drewN (Below.refl _ _) nq)
 generalize w5.drewN nq=w6 at*
 clear HI c0 c1 c2 c3 c4 g1 hlt hhs
 obtain⟨T,lv,ov,tvs,hp,hs⟩:=H6.out.wr hk HE.out
 refine(take_yes hp (by have:=HO.out.len;omega) HO.out.fits (by have:=HO.out.few;omega) (by have:=HO.out.n2;omega) at_ many HZ.out).mono ?_
 rintro e w7 ⟨rfl,hto⟩
 have H7:Hid (zbc base w S D G pw ⟨t.b,zai t.ws k (some (zkw r ⟨2,r.me,r.next,r.seen,at_,many,⟨#[]⟩⟩))⟩ (zai tk k (tk k++[zel r.list ⟨2,r.me,r.next,r.seen,at_,many,⟨#[]⟩⟩])) (zat (fun _=>Th.no base) 0 (Th.st base w.heap.size ⟨3,k,at_,many,text⟩)) w7):=hs (zkw r ⟨2,r.me,r.next,r.seen,at_,many,⟨#[]⟩⟩) (tk k++[zel r.list ⟨2,r.me,r.next,r.seen,at_,many,⟨#[]⟩⟩]) w7 (by rw[zvg];exact hto)
 clear hto hs hp H6
 go_wp2_with fail
 go_ret
 exact⟨rfl,H7.out.done HL.out⟩
theorem qam(h:zil base D G pw t tk w S)(hr:TR t tk){k:Nat}(hk:k<4){r:Wr}(he:t.ws k=some r)(x:Tst)(hxw:x.w=k)(hkd:x.kind=3)(hz:doC r.list ⟨2,r.me,r.next,r.seen,x.at_,x.many,⟨#[]⟩⟩ za3≠0):
 Calls Tryz.prog 67 #[.pointer (some ⟨D,0,none⟩),tsV x] w fun e w'=>e= .returned (.int .i64 (doC r.list ⟨2,r.me,r.next,r.seen,x.at_,x.many,⟨#[]⟩⟩ za3))/\zhe base w S D G pw t tk w':=by
 have HI:=hid (h.start.step x 0)
 have HL:=hid h.held
 have HR:=hid hr
 have HE:=hid he
 have HO:=hid (zbg hr he)
 have HZ:=hid hz
 clear hz
 obtain⟨kind,w_,at_,many,text⟩:=x
 obtain rfl:w_=(k:Int):=hxw
 obtain rfl:kind=3:=hkd
 have hk4:(k:Int)<4:=by omega
 have hhs:zbo t k=true:=by unfold zbo;rw[he];rfl
 clear h hr he
 go_enter Tryz.func67,Tryz.ntmps67
 go_wp2_with fail
 generalize World.alloc _ _=w5 at*
 obtain⟨_,c0,c1,c2,c3,c4⟩:=HI.out.stepAt
 simp only[Nat.zero_add]at c0 c1 c2 c3 c4
 have g1:=HI.out.cells.ws k hk
 have hlt:=HI.out.cells.lt
 simp only[hhs,zbq,if_true]at g1
 go_quiet (fail)
 go_wp2_with fail
 have H6:Hid (zbc base w S D G pw t tk (zat (fun _=>Th.no base) 0 (Th.st base w.heap.size ⟨3,k,at_,many,text⟩)) (w5.drewN nq)):=HI.out.after (below_drewN (Below.refl _ _) nq)
 generalize w5.drewN nq=w6 at*
 clear HI c0 c1 c2 c3 c4 g1 hlt hhs
 obtain⟨T,lv,ov,tvs,hp,hs⟩:=H6.out.wr hk HE.out
 refine(take_no hp (by have:=HO.out.len;omega) HO.out.fits at_ many HZ.out).mono ?_
 rintro e w7 ⟨rfl,hb⟩
 have H7:=hid (H6.out.after hb)
 clear hb hs hp H6
 obtain⟨cq,hcq⟩:∃c,doC r.list ⟨2,r.me,r.next,r.seen,at_,many,⟨#[]⟩⟩ za3=c:=⟨_,rfl⟩
 have HCQ:=hid hcq
 rw[hcq]
 clear hcq
 go_wp2_with fail
 go_ret
 exact⟨by rw[HCQ.out];rfl,H7.out.done HL.out⟩
theorem zwc(h:zil base D G pw t tk w S)(hr:TR t tk){k:Nat}(hk:k<4){r:Wr}(he:t.ws k=some r)(x:Tst)(hxw:x.w=k)(hkd:x.kind=4)(hn:r.opens[r.sent]? =none):
 Calls Tryz.prog 67 #[.pointer (some ⟨D,0,none⟩),tsV x] w fun e w'=>e= .returned (.int .i64 5)/\zhe base w S D G pw t tk w':=by
 have HI:=hid (h.start.step x 0)
 have HL:=hid h.held
 have HR:=hid hr
 have HE:=hid he
 have HO:=hid (zbg hr he)
 have HN:=hid hn
 clear hn
 obtain⟨kind,w_,at_,many,text⟩:=x
 obtain rfl:w_=(k:Int):=hxw
 obtain rfl:kind=4:=hkd
 have hk4:(k:Int)<4:=by omega
 have hhs:zbo t k=true:=by unfold zbo;rw[he];rfl
 clear h hr he
 go_enter Tryz.func67,Tryz.ntmps67
 go_wp2_with fail
 generalize World.alloc _ _=w5 at*
 obtain⟨_,c0,c1,c2,c3,c4⟩:=HI.out.stepAt
 simp only[Nat.zero_add]at c0 c1 c2 c3 c4
 have g1:=HI.out.cells.ws k hk
 have hlt:=HI.out.cells.lt
 simp only[hhs,zbq,if_true]at g1
 go_quiet (fail)
 go_wp2_with fail
 have H6:Hid (zbc base w S D G pw t tk (zat (fun _=>Th.no base) 0 (Th.st base w.heap.size ⟨4,k,at_,many,text⟩)) (w5.drewN nq)):=HI.out.after (below_drewN (Below.refl _ _) nq)
 generalize w5.drewN nq=w6 at*
 clear HI c0 c1 c2 c3 c4 g1 hlt hhs
 obtain⟨T,ha,hs⟩:=H6.out.call
 refine(qau ha HR.out hk HE.out HN.out).mono ?_
 rintro e w7 ⟨rfl,hto⟩
 have H7:Hid (zbc base w S D G pw t tk (zat (fun _=>Th.no base) 0 (Th.st base w.heap.size ⟨4,k,at_,many,text⟩)) w7):=hs _ _ _ _ hto
 clear hto hs ha H6
 go_wp2_with fail
 go_ret
 exact⟨rfl,H7.out.done HL.out⟩
theorem ztt(h:zil base D G pw t tk w S)(hr:TR t tk){k:Nat}(hk:k<4){r:Wr}(he:t.ws k=some r)(x:Tst)(hxw:x.w=k)(hkd:x.kind=4){d:Dd}(hn:r.opens[r.sent]? =some d)(hcc:za6 t.b d=0):
 Calls Tryz.prog 67 #[.pointer (some ⟨D,0,none⟩),tsV x] w fun e w'=>e= .returned (.int .i64 0)/\zhe base w S D G pw ⟨zb9 t.b d,zai t.ws k (some (zfm r))⟩ tk w':=by
 have HI:=hid (h.start.step x 0)
 have HL:=hid h.held
 have HR:=hid hr
 have HE:=hid he
 have HO:=hid (zbg hr he)
 have HN:=hid hn
 have HCC:=hid hcc
 clear hn hcc
 obtain⟨kind,w_,at_,many,text⟩:=x
 obtain rfl:w_=(k:Int):=hxw
 obtain rfl:kind=4:=hkd
 have hk4:(k:Int)<4:=by omega
 have hhs:zbo t k=true:=by unfold zbo;rw[he];rfl
 clear h hr he
 go_enter Tryz.func67,Tryz.ntmps67
 go_wp2_with fail
 generalize World.alloc _ _=w5 at*
 obtain⟨_,c0,c1,c2,c3,c4⟩:=HI.out.stepAt
 simp only[Nat.zero_add]at c0 c1 c2 c3 c4
 have g1:=HI.out.cells.ws k hk
 have hlt:=HI.out.cells.lt
 simp only[hhs,zbq,if_true]at g1
 go_quiet (fail)
 go_wp2_with fail
 have H6:Hid (zbc base w S D G pw t tk (zat (fun _=>Th.no base) 0 (Th.st base w.heap.size ⟨4,k,at_,many,text⟩)) (w5.drewN nq)):=HI.out.after (below_drewN (Below.refl _ _) nq)
 generalize w5.drewN nq=w6 at*
 clear HI c0 c1 c2 c3 c4 g1 hlt hhs
 obtain⟨T,ha,hs⟩:=H6.out.call
 refine(zwh ha HR.out hk HE.out HN.out HCC.out).mono ?_
 rintro e w7 ⟨rfl,hto⟩
 have H7:Hid (zbc base w S D G pw ⟨zb9 t.b d,zai t.ws k (some (zfm r))⟩ tk (zat (fun _=>Th.no base) 0 (Th.st base w.heap.size ⟨4,k,at_,many,text⟩)) w7):=hs _ _ _ _ hto
 clear hto hs ha H6
 go_wp2_with fail
 go_ret
 exact⟨rfl,H7.out.done HL.out⟩
theorem ztu(h:zil base D G pw t tk w S)(hr:TR t tk){k:Nat}(hk:k<4){r:Wr}(he:t.ws k=some r)(x:Tst)(hxw:x.w=k)(hkd:x.kind=4){d:Dd}(hn:r.opens[r.sent]? =some d)(hcc:za6 t.b d≠0):
 Calls Tryz.prog 67 #[.pointer (some ⟨D,0,none⟩),tsV x] w fun e w'=>e= .returned (.int .i64 (za6 t.b d))/\zhe base w S D G pw (zdu t k) tk w':=by
 have HI:=hid (h.start.step x 0)
 have HL:=hid h.held
 have HR:=hid hr
 have HE:=hid he
 have HO:=hid (zbg hr he)
 have HN:=hid hn
 have HCC:=hid hcc
 clear hn hcc
 obtain⟨kind,w_,at_,many,text⟩:=x
 obtain rfl:w_=(k:Int):=hxw
 obtain rfl:kind=4:=hkd
 have hk4:(k:Int)<4:=by omega
 have hhs:zbo t k=true:=by unfold zbo;rw[he];rfl
 clear h hr he
 go_enter Tryz.func67,Tryz.ntmps67
 go_wp2_with fail
 generalize World.alloc _ _=w5 at*
 obtain⟨_,c0,c1,c2,c3,c4⟩:=HI.out.stepAt
 simp only[Nat.zero_add]at c0 c1 c2 c3 c4
 have g1:=HI.out.cells.ws k hk
 have hlt:=HI.out.cells.lt
 simp only[hhs,zbq,if_true]at g1
 go_quiet (fail)
 go_wp2_with fail
 have H6:Hid (zbc base w S D G pw t tk (zat (fun _=>Th.no base) 0 (Th.st base w.heap.size ⟨4,k,at_,many,text⟩)) (w5.drewN nq)):=HI.out.after (below_drewN (Below.refl _ _) nq)
 generalize w5.drewN nq=w6 at*
 clear HI c0 c1 c2 c3 c4 g1 hlt hhs
 obtain⟨T,ha,hs⟩:=H6.out.call
 refine(zwi ha HR.out hk HE.out HN.out HCC.out).mono ?_
 rintro e w7 ⟨rfl,hto⟩
 have H7:Hid (zbc base w S D G pw (zdu t k) tk (zat (fun _=>Th.no base) 0 (Th.st base w.heap.size ⟨4,k,at_,many,text⟩)) w7):=hs _ _ _ _ hto
 clear hto hs ha H6
 obtain⟨cq,hcq⟩:∃c,za6 t.b d=c:=⟨_,rfl⟩
 have HCQ:=hid hcq
 rw[hcq]
 clear hcq
 go_wp2_with fail
 go_ret
 exact⟨by rw[HCQ.out];rfl,H7.out.done HL.out⟩
theorem zwg(h:zil base D G pw t tk w S)(hr:TR t tk){k:Nat}(hk:k<4){r:Wr}(he:t.ws k=some r)(x:Tst)(hxw:x.w=k)(hkd:x.kind=5)(hn:t.b.ds[r.seen]? =none):
 Calls Tryz.prog 67 #[.pointer (some ⟨D,0,none⟩),tsV x] w fun e w'=>e= .returned (.int .i64 5)/\zhe base w S D G pw t tk w':=by
 have HI:=hid (h.start.step x 0)
 have HL:=hid h.held
 have HR:=hid hr
 have HE:=hid he
 have HO:=hid (zbg hr he)
 have HN:=hid hn
 clear hn
 obtain⟨kind,w_,at_,many,text⟩:=x
 obtain rfl:w_=(k:Int):=hxw
 obtain rfl:kind=5:=hkd
 have hk4:(k:Int)<4:=by omega
 have hhs:zbo t k=true:=by unfold zbo;rw[he];rfl
 clear h hr he
 go_enter Tryz.func67,Tryz.ntmps67
 go_wp2_with fail
 generalize World.alloc _ _=w5 at*
 obtain⟨_,c0,c1,c2,c3,c4⟩:=HI.out.stepAt
 simp only[Nat.zero_add]at c0 c1 c2 c3 c4
 have g1:=HI.out.cells.ws k hk
 have hlt:=HI.out.cells.lt
 simp only[hhs,zbq,if_true]at g1
 go_quiet (fail)
 go_wp2_with fail
 have H6:Hid (zbc base w S D G pw t tk (zat (fun _=>Th.no base) 0 (Th.st base w.heap.size ⟨5,k,at_,many,text⟩)) (w5.drewN nq)):=HI.out.after (below_drewN (Below.refl _ _) nq)
 generalize w5.drewN nq=w6 at*
 clear HI c0 c1 c2 c3 c4 g1 hlt hhs
 obtain⟨T,ha,hs⟩:=H6.out.call
 refine(qbg ha HR.out hk HE.out HN.out).mono ?_
 rintro e w7 ⟨rfl,hto⟩
 have H7:Hid (zbc base w S D G pw t tk (zat (fun _=>Th.no base) 0 (Th.st base w.heap.size ⟨5,k,at_,many,text⟩)) w7):=hs _ _ _ _ hto
 clear hto hs ha H6
 go_wp2_with fail
 go_ret
 exact⟨rfl,H7.out.done HL.out⟩
theorem zu1(h:zil base D G pw t tk w S)(hr:TR t tk){k:Nat}(hk:k<4){r:Wr}(he:t.ws k=some r)(x:Tst)(hxw:x.w=k)(hkd:x.kind=5){d:Dd}(hn:t.b.ds[r.seen]? =some d)(hcc:zbt r d≠0):
 Calls Tryz.prog 67 #[.pointer (some ⟨D,0,none⟩),tsV x] w fun e w'=>e= .returned (.int .i64 (zbt r d))/\zhe base w S D G pw (zdu t k) tk w':=by
 have HI:=hid (h.start.step x 0)
 have HL:=hid h.held
 have HR:=hid hr
 have HE:=hid he
 have HO:=hid (zbg hr he)
 have HN:=hid hn
 have HCC:=hid hcc
 clear hn hcc
 obtain⟨kind,w_,at_,many,text⟩:=x
 obtain rfl:w_=(k:Int):=hxw
 obtain rfl:kind=5:=hkd
 have hk4:(k:Int)<4:=by omega
 have hhs:zbo t k=true:=by unfold zbo;rw[he];rfl
 clear h hr he
 go_enter Tryz.func67,Tryz.ntmps67
 go_wp2_with fail
 generalize World.alloc _ _=w5 at*
 obtain⟨_,c0,c1,c2,c3,c4⟩:=HI.out.stepAt
 simp only[Nat.zero_add]at c0 c1 c2 c3 c4
 have g1:=HI.out.cells.ws k hk
 have hlt:=HI.out.cells.lt
 simp only[hhs,zbq,if_true]at g1
 go_quiet (fail)
 go_wp2_with fail
 have H6:Hid (zbc base w S D G pw t tk (zat (fun _=>Th.no base) 0 (Th.st base w.heap.size ⟨5,k,at_,many,text⟩)) (w5.drewN nq)):=HI.out.after (below_drewN (Below.refl _ _) nq)
 generalize w5.drewN nq=w6 at*
 clear HI c0 c1 c2 c3 c4 g1 hlt hhs
 obtain⟨T,ha,hs⟩:=H6.out.call
 refine(zxf ha HR.out hk HE.out HN.out HCC.out).mono ?_
 rintro e w7 ⟨rfl,hto⟩
 have H7:Hid (zbc base w S D G pw (zdu t k) tk (zat (fun _=>Th.no base) 0 (Th.st base w.heap.size ⟨5,k,at_,many,text⟩)) w7):=hs _ _ _ _ hto
 clear hto hs ha H6
 obtain⟨cq,hcq⟩:∃c,zbt r d=c:=⟨_,rfl⟩
 have HCQ:=hid hcq
 rw[hcq]
 clear hcq
 go_wp2_with fail
 go_ret
 exact⟨by rw[HCQ.out];rfl,H7.out.done HL.out⟩
theorem zu0(h:zil base D G pw t tk w S)(hr:TR t tk){k:Nat}(hk:k<4){r:Wr}(he:t.ws k=some r)(x:Tst)(hxw:x.w=k)(hkd:x.kind=5){d:Dd}(hn:t.b.ds[r.seen]? =some d)(hcc:zbt r d=0):
 Calls Tryz.prog 67 #[.pointer (some ⟨D,0,none⟩),tsV x] w fun e w'=>e= .returned (.int .i64 (ze2 t.b k (zb1 r d).least))/\zhe base w S D G pw ⟨zd5 t.b k (zb1 r d).least,zai t.ws k (some (zb1 r d))⟩ (zai tk k (zh2 r d (tk k))) w':=by
 have HI:=hid (h.start.step x 0)
 have HL:=hid h.held
 have HR:=hid hr
 have HE:=hid he
 have HO:=hid (zbg hr he)
 have HN:=hid hn
 have HCC:=hid hcc
 clear hn hcc
 obtain⟨kind,w_,at_,many,text⟩:=x
 obtain rfl:w_=(k:Int):=hxw
 obtain rfl:kind=5:=hkd
 have hk4:(k:Int)<4:=by omega
 have hhs:zbo t k=true:=by unfold zbo;rw[he];rfl
 clear h hr he
 go_enter Tryz.func67,Tryz.ntmps67
 go_wp2_with fail
 generalize World.alloc _ _=w5 at*
 obtain⟨_,c0,c1,c2,c3,c4⟩:=HI.out.stepAt
 simp only[Nat.zero_add]at c0 c1 c2 c3 c4
 have g1:=HI.out.cells.ws k hk
 have hlt:=HI.out.cells.lt
 simp only[hhs,zbq,if_true]at g1
 go_quiet (fail)
 go_wp2_with fail
 have H6:Hid (zbc base w S D G pw t tk (zat (fun _=>Th.no base) 0 (Th.st base w.heap.size ⟨5,k,at_,many,text⟩)) (w5.drewN nq)):=HI.out.after (below_drewN (Below.refl _ _) nq)
 generalize w5.drewN nq=w6 at*
 clear HI c0 c1 c2 c3 c4 g1 hlt hhs
 obtain⟨T,ha,hs⟩:=H6.out.call
 refine(zxe ha HR.out hk HE.out HN.out HCC.out).mono ?_
 rintro e w7 ⟨rfl,hto⟩
 have H7:Hid (zbc base w S D G pw ⟨zd5 t.b k (zb1 r d).least,zai t.ws k (some (zb1 r d))⟩ (zai tk k (zh2 r d (tk k))) (zat (fun _=>Th.no base) 0 (Th.st base w.heap.size ⟨5,k,at_,many,text⟩)) w7):=hs _ _ _ _ hto
 clear hto hs ha H6
 obtain⟨cq,hcq⟩:∃c,ze2 t.b k (zb1 r d).least=c:=⟨_,rfl⟩
 have HCQ:=hid hcq
 rw[hcq]
 clear hcq
 go_wp2_with fail
 go_ret
 exact⟨by rw[HCQ.out];rfl,H7.out.done HL.out⟩
theorem qdz(h:zil base D G pw t tk w S)(hr:TR t tk){k:Nat}(hk:k<4){r:Wr}(he:t.ws k=some r)(x:Tst)(hxw:x.w=k)(hkd:x.kind=7):
 Calls Tryz.prog 67 #[.pointer (some ⟨D,0,none⟩),tsV x] w fun e w'=>e= .returned (.int .i64 0)/\zhe base w S D G pw (zdu t k) tk w':=by
 have HI:=hid (h.start.step x 0)
 have HL:=hid h.held
 have HR:=hid hr
 have HE:=hid he
 have HO:=hid (zbg hr he)
 obtain⟨kind,w_,at_,many,text⟩:=x
 obtain rfl:w_=(k:Int):=hxw
 obtain rfl:kind=7:=hkd
 have hk4:(k:Int)<4:=by omega
 have hhs:zbo t k=true:=by unfold zbo;rw[he];rfl
 clear h hr he
 go_enter Tryz.func67,Tryz.ntmps67
 go_wp2_with fail
 generalize World.alloc _ _=w5 at*
 obtain⟨_,c0,c1,c2,c3,c4⟩:=HI.out.stepAt
 simp only[Nat.zero_add]at c0 c1 c2 c3 c4
 have g1:=HI.out.cells.ws k hk
 have hlt:=HI.out.cells.lt
 simp only[hhs,zbq,if_true]at g1
 go_quiet (fail)
 go_wp2_with fail
 have H6:Hid (zbc base w S D G pw t tk (zat (fun _=>Th.no base) 0 (Th.st base w.heap.size ⟨7,k,at_,many,text⟩)) (w5.drewN nq)):=HI.out.after (below_drewN (Below.refl _ _) nq)
 generalize w5.drewN nq=w6 at*
 clear HI c0 c1 c2 c3 c4 g1 hlt hhs
 obtain⟨T,ha,hs⟩:=H6.out.call
 refine(zxl ha hk).mono ?_
 rintro e w7 ⟨rfl,hto⟩
 have H7:Hid (zbc base w S D G pw (zdu t k) tk (zat (fun _=>Th.no base) 0 (Th.st base w.heap.size ⟨7,k,at_,many,text⟩)) w7):=hs _ _ _ _ hto
 clear hto hs ha H6
 go_wp2_with fail
 go_ret
 exact⟨rfl,H7.out.done HL.out⟩
theorem qe6(h:zil base D G pw t tk w S)(hr:TR t tk){k:Nat}(hk:k<4){r:Wr}(he:t.ws k=some r)(x:Tst)(hxw:x.w=k)(hkd:x.kind=6):
 Calls Tryz.prog 67 #[.pointer (some ⟨D,0,none⟩),tsV x] w fun e w'=>e= .returned (.int .i64 0)/\zhe base w S D G pw ⟨t.b,zai t.ws k (some (zgt r (zba t.b r.seen)))⟩ tk w':=by
 have HI:=hid (h.start.step x 0)
 have HL:=hid h.held
 have HR:=hid hr
 have HE:=hid he
 have HO:=hid (zbg hr he)
 have HTK:=hid (zhl tk k)
 have HCL:=hid (qc2 hr he)
 obtain⟨kind,w_,at_,many,text⟩:=x
 obtain rfl:w_=(k:Int):=hxw
 obtain rfl:kind=6:=hkd
 have hk4:(k:Int)<4:=by omega
 have hhs:zbo t k=true:=by unfold zbo;rw[he];rfl
 clear h hr he
 go_enter Tryz.func67,Tryz.ntmps67
 go_wp2_with fail
 generalize World.alloc _ _=w5 at*
 obtain⟨_,c0,c1,c2,c3,c4⟩:=HI.out.stepAt
 simp only[Nat.zero_add]at c0 c1 c2 c3 c4
 have g1:=HI.out.cells.ws k hk
 have hlt:=HI.out.cells.lt
 simp only[hhs,zbq,if_true]at g1
 go_quiet (fail)
 go_wp2_with fail
 have H6:Hid (zbc base w S D G pw t tk (zat (fun _=>Th.no base) 0 (Th.st base w.heap.size ⟨6,k,at_,many,text⟩)) (w5.drewN nq)):=HI.out.after (below_drewN (Below.refl _ _) nq)
 generalize w5.drewN nq=w6 at*
 clear HI c0 c1 c2 c3 c4 g1 hlt hhs
 obtain⟨T,ha,_⟩:=H6.out.call
 refine(qdv ha HR.out hk HE.out).mono ?_
 rintro e w7 ⟨rfl,hb⟩
 have H7:=hid (H6.out.after hb)
 clear hb ha H6
 obtain⟨least,hle⟩:∃least,zba t.b r.seen=least:=⟨_,rfl⟩
 have HLE:=hid hle
 rw[hle]
 clear hle
 go_wp2_with fail
 obtain⟨T,lv,ov,tvs,hp,hs⟩:=H7.out.wr hk HE.out
 refine(clear_pw hp (by have:=HO.out.len;omega) least).mono ?_
 rintro e w8 ⟨rfl,hto⟩
 have H8:Hid (zbc base w S D G pw ⟨t.b,zai t.ws k (some (zgt r (zba t.b r.seen)))⟩ tk (zat (fun _=>Th.no base) 0 (Th.st base w.heap.size ⟨6,k,at_,many,text⟩)) w8):=by
  have:=hs (zgt r (zba t.b r.seen)) (tk k) w8 (by rw[HCL.out,HLE.out];exact hto)
  rw[HTK.out]at this
  exact this
 clear hto hs hp H7
 generalize (r.list.length:Int)-(ofL least r.list).length=q at*
 go_wp2_with fail
 go_ret
 exact⟨rfl,H8.out.done HL.out⟩
variable {w:World} {base D G:Nat} {pw:Nat->Nat} {t:Twn} {tk:Int->List (List Ch)} {S:Nat->Prop}
theorem step_dk{w:World}{base D G:Nat}{pw:Nat->Nat}{t:Twn}{tk:Int->List (List Ch)}{S:Nat->Prop}(h:zil base D G pw t tk w S)(hr:TR t tk){k:Nat}(hk:k<4){r:Wr}(he:t.ws k=some r)(x:Tst)(hxw:x.w=k)(h2:2<=x.kind)(h7:x.kind<=7):
 Calls Tryz.prog 67 #[.pointer (some ⟨D,0,none⟩),tsV x] w fun e w'=>e= .returned (.int .i64 (tDo t x).1)/\∃tk',zhe base w S D G pw (tDo t x).2 tk' w'/\TR (tDo t x).2 tk':=by
 have htd:tDo t x=(if x.kind=2\/x.kind=3 then qb0 t k r x else if x.kind=4 then zdx t k r else if x.kind=5 then zdg t k r
  else if x.kind=6 then(0,⟨t.b,zai t.ws k (some (zgt r (zba t.b r.seen)))⟩)else(0,zdu t k)):=by
  unfold tDo
  rw[if_neg (by omega),if_neg (by omega),hxw,he]
 rw[htd]
 by_cases k2:x.kind=2
 ·have ho:ownD r x=⟨1,r.me,r.next,r.seen,x.at_,0,x.text⟩:=by rw[ownD,if_pos k2]
  rw[if_pos (.inl k2),qb0,ho]
  by_cases hz:doC r.list ⟨1,r.me,r.next,r.seen,x.at_,0,x.text⟩ za3=0
  ·have ht:=qd1 hr he x (by rw[ho];exact hz)
   rw[ho]at ht
   refine(qay h hr hk he x hxw k2 hz).mono fun e w' ⟨e1,e2⟩=>⟨by rw[e1,hz],?_⟩
   show∃tk',zhe base w S D G pw (if _=0 then _ else _) tk' w'/\TR (if _=0 then _ else _) tk'
   rw[if_pos hz]
   exact⟨_,e2,ht⟩
  refine(qec h hr hk he x hxw k2 hz).mono fun e w' ⟨e1,e2⟩=>⟨e1,tk,?_⟩
  show zhe base w S D G pw (if _=0 then _ else _) _ w'/\TR (if _=0 then _ else _) _
  rw[if_neg hz]
  exact⟨e2,hr⟩
 by_cases k3:x.kind=3
 ·have ho:ownD r x=⟨2,r.me,r.next,r.seen,x.at_,x.many,⟨#[]⟩⟩:=by rw[ownD,if_neg k2];rfl
  rw[if_pos (.inr k3),qb0,ho]
  by_cases hz:doC r.list ⟨2,r.me,r.next,r.seen,x.at_,x.many,⟨#[]⟩⟩ za3=0
  ·have ht:=qd1 hr he x (by rw[ho];exact hz)
   rw[ho]at ht
   refine(zw8 h hr hk he x hxw k3 hz).mono fun e w' ⟨e1,e2⟩=>⟨by rw[e1,hz],?_⟩
   show∃tk',zhe base w S D G pw (if _=0 then _ else _) tk' w'/\TR (if _=0 then _ else _) tk'
   rw[if_pos hz]
   exact⟨_,e2,ht⟩
  refine(qam h hr hk he x hxw k3 hz).mono fun e w' ⟨e1,e2⟩=>⟨e1,tk,?_⟩
  show zhe base w S D G pw (if _=0 then _ else _) _ w'/\TR (if _=0 then _ else _) _
  rw[if_neg hz]
  exact⟨e2,hr⟩
 rw[if_neg (by omega)]
 by_cases k4:x.kind=4
 ·rw[if_pos k4,zdx]
  cases hn:r.opens[r.sent]? with
  |none=>exact(zwc h hr hk he x hxw k4 hn).mono fun e w' ⟨e1,e2⟩=>⟨e1,tk,e2,hr⟩
  |some d=>
   by_cases hc:za6 t.b d=0
   ·refine(ztt h hr hk he x hxw k4 hn hc).mono fun e w' ⟨e1,e2⟩=>⟨by rw[e1,<-hc],tk,?_⟩
    show zhe base w S D G pw (if _=0 then _ else _) _ w'/\TR (if _=0 then _ else _) _
    rw[if_pos hc]
    exact⟨e2,qd0 hr he hn hc⟩
   refine(ztu h hr hk he x hxw k4 hn hc).mono fun e w' ⟨e1,e2⟩=>⟨e1,tk,?_⟩
   show zhe base w S D G pw (if _=0 then _ else _) _ w'/\TR (if _=0 then _ else _) _
   rw[if_neg hc]
   exact⟨e2,zlx hr he⟩
 rw[if_neg k4]
 by_cases k5:x.kind=5
 ·rw[if_pos k5,zdg]
  cases hn:t.b.ds[r.seen]? with
  |none=>exact(zwg h hr hk he x hxw k5 hn).mono fun e w' ⟨e1,e2⟩=>⟨e1,tk,e2,hr⟩
  |some d=>
   by_cases hc:zbt r d=0
   ·refine(zu0 h hr hk he x hxw k5 hn hc).mono fun e w' ⟨e1,e2⟩=> ?_
    show e= .returned (.int .i64 (if _=0 then(_,_)else(_,_)).1)/\∃tk',zhe base w S D G pw (if _=0 then(_,_)else(_,_)).2 tk' w'/\TR (if _=0 then(_,_)else(_,_)).2 tk'
    rw[if_pos hc]
    exact⟨e1,_,e2,qd3 hr he hn hc⟩
   refine(zu1 h hr hk he x hxw k5 hn hc).mono fun e w' ⟨e1,e2⟩=> ?_
   show e= .returned (.int .i64 (if _=0 then(_,_)else(_,_)).1)/\∃tk',zhe base w S D G pw (if _=0 then(_,_)else(_,_)).2 tk' w'/\TR (if _=0 then(_,_)else(_,_)).2 tk'
   rw[if_neg hc]
   exact⟨e1,_,e2,zlx hr he⟩
 rw[if_neg k5]
 by_cases k6:x.kind=6
 ·rw[if_pos k6]
  exact(qe6 h hr hk he x hxw k6).mono fun e w' ⟨e1,e2⟩=>⟨e1,tk,e2,zyk hr he⟩
 rw[if_neg k6]
 exact(qdz h hr hk he x hxw (by omega)).mono fun e w' ⟨e1,e2⟩=>⟨e1,tk,e2,zlx hr he⟩
theorem do_bad(h:zil base D G pw t tk w S)(hr:TR t tk)(x:Tst)(hkd:x.kind<1\/7<x.kind):
 Calls Tryz.prog 47 #[.pointer (some ⟨D,0,none⟩),tsV x] w fun e w'=>e= .returned (.int .i64 2)/\zhe base w S D G pw t tk w':=by
 have HI:=hid (h.start.step x 0)
 have HL:=hid h.held
 have HR:=hid hr
 obtain⟨kind,w_,at_,many,text⟩:=x
 clear h hr
 rcases(show kind<1\/7<kind from hkd)with hq|hq
 ·clear hkd
  go_enter Tryz.func47,Tryz.ntmps47
  go_wp2
  go_ret
  exact⟨rfl,HI.out.done HL.out⟩
 have hq2:¬kind<1:=by omega
 clear hkd
 go_enter Tryz.func47,Tryz.ntmps47
 go_wp2
 go_ret
 exact⟨rfl,HI.out.done HL.out⟩
theorem qby(h:zil base D G pw t tk w S)(hr:TR t tk)(x:Tst)(hkd:x.kind=1)(hc:zde t.b x.w≠0):
 Calls Tryz.prog 47 #[.pointer (some ⟨D,0,none⟩),tsV x] w fun e w'=>e= .returned (.int .i64 (zde t.b x.w))/\zhe base w S D G pw t tk w':=by
 have HI:=hid (h.start.step x 0)
 have HL:=hid h.held
 have HR:=hid hr
 have HC:=hid hc
 clear hc
 obtain⟨kind,w_,at_,many,text⟩:=x
 clear h hr
 obtain rfl:kind=1:=hkd
 go_enter Tryz.func47,Tryz.ntmps47
 go_wp2_with fail
 obtain⟨T,ha,hs⟩:=HI.out.call
 refine(qbf ha HR.out w_ HC.out).mono ?_
 rintro e w7 ⟨rfl,hto⟩
 have H7:Hid (zbc base w S D G pw t tk (zat (fun _=>Th.no base) 0 (Th.st base w.heap.size ⟨1,w_,at_,many,text⟩)) w7):=hs _ _ _ _ hto
 clear hto hs ha HI
 obtain⟨cq,hcq⟩:∃c,zde t.b w_=c:=⟨_,rfl⟩
 have HCQ:=hid hcq
 rw[hcq]
 clear hcq
 go_wp2_with fail
 go_ret
 exact⟨by rw[HCQ.out];rfl,H7.out.done HL.out⟩
theorem zxu(h:zil base D G pw t tk w S)(hr:TR t tk)(x:Tst)(hkd:x.kind=1){k:Nat}(hk:k<4)(hxw:x.w=k)(hc:zde t.b k=0):
 Calls Tryz.prog 47 #[.pointer (some ⟨D,0,none⟩),tsV x] w fun e w'=>e= .returned (.int .i64 0)/\∃P,zhe base w S D G (zq2 pw k P) ⟨zc4 t.b k,zai t.ws k (some (newW t.b k))⟩ (zai tk k []) w':=by
 have HI:=hid (h.start.step x 0)
 have HL:=hid h.held
 have HR:=hid hr
 have HC:=hid hc
 clear hc
 obtain⟨kind,w_,at_,many,text⟩:=x
 clear h hr
 obtain rfl:kind=1:=hkd
 obtain rfl:w_=(k:Int):=hxw
 go_enter Tryz.func47,Tryz.ntmps47
 go_wp2_with fail
 obtain⟨T,ha,hs⟩:=HI.out.call
 refine(zxa ha HR.out hk HC.out).mono ?_
 rintro e w7 ⟨rfl,P,hto⟩
 have H7:Hid (zbc base w S D G (zq2 pw k P) ⟨zc4 t.b k,zai t.ws k (some (newW t.b k))⟩ (zai tk k []) (zat (fun _=>Th.no base) 0 (Th.st base w.heap.size ⟨1,k,at_,many,text⟩)) w7):=hs _ _ _ _ hto
 clear hto hs ha HI
 go_wp2_with fail
 go_ret
 exact⟨rfl,P,H7.out.done HL.out⟩
theorem do_none(h:zil base D G pw t tk w S)(hr:TR t tk)(x:Tst)(h2:2<=x.kind)(h7:x.kind<=7)(he:t.ws x.w=none):
 Calls Tryz.prog 47 #[.pointer (some ⟨D,0,none⟩),tsV x] w fun e w'=>e= .returned (.int .i64 5)/\zhe base w S D G pw t tk w':=by
 have HI:=hid (h.start.step x 0)
 have HL:=hid h.held
 have HR:=hid hr
 have HE:=hid he
 clear he
 obtain⟨kind,w_,at_,many,text⟩:=x
 clear h hr
 have q1:¬kind<1:=by have:2<=kind:=h2;omega
 have q2:¬7<kind:=by have:kind<=7:=h7;omega
 have q3:¬kind=1:=by have:2<=kind:=h2;omega
 clear h2 h7
 go_enter Tryz.func47,Tryz.ntmps47
 go_wp2_with fail
 refine(zo2 HI.out.cells _).mono ?_
 rintro e w6 ⟨rfl,rfl⟩
 rw[qgc HE.out]
 go_wp2_with fail
 go_ret
 exact⟨rfl,HI.out.done HL.out⟩
theorem do_some(h:zil base D G pw t tk w S)(hr:TR t tk)(x:Tst)(h2:2<=x.kind)(h7:x.kind<=7){k:Nat}(hk:k<4)(hxw:x.w=k){r:Wr}(he:t.ws k=some r):
 Calls Tryz.prog 47 #[.pointer (some ⟨D,0,none⟩),tsV x] w fun e w'=>e= .returned (.int .i64 (tDo t x).1)/\∃tk',zhe base w S D G pw (tDo t x).2 tk' w'/\TR (tDo t x).2 tk':=by
 have HI:=hid (h.start.step x 0)
 have HL:=hid h.held
 have HR:=hid hr
 have HE:=hid he
 clear he
 have H27:Hid (2<=x.kind/\x.kind<=7):=⟨h2,h7⟩
 obtain⟨kind,w_,at_,many,text⟩:=x
 clear h hr
 have q1:¬kind<1:=by have:2<=kind:=h2;omega
 have q2:¬7<kind:=by have:kind<=7:=h7;omega
 have q3:¬kind=1:=by have:2<=kind:=h2;omega
 obtain rfl:w_=(k:Int):=hxw
 clear h2 h7
 go_enter Tryz.func47,Tryz.ntmps47
 go_wp2_with fail
 refine(zo2 HI.out.cells _).mono ?_
 rintro e w6 ⟨rfl,rfl⟩
 rw[qgb hk HE.out]
 go_wp2_with fail
 obtain⟨T,ha,hs⟩:=HI.out.call
 refine(step_dk ha HR.out hk HE.out ⟨kind,k,at_,many,text⟩ rfl H27.out.1 H27.out.2).mono ?_
 rintro e w7 ⟨rfl,tk',hto,htr⟩
 have HTR:=hid htr
 have H7:Hid (zbc base w S D G pw (tDo t ⟨kind,k,at_,many,text⟩).2 tk' (zat (fun _=>Th.no base) 0 (Th.st base w.heap.size ⟨kind,k,at_,many,text⟩)) w7):=hs _ _ _ _ hto
 clear hto hs ha HI htr
 obtain⟨cq,hcq⟩:∃c,(tDo t ⟨kind,k,at_,many,text⟩).1=c:=⟨_,rfl⟩
 have HCQ:=hid hcq
 rw[hcq]
 clear hcq
 go_wp2_with fail
 go_ret
 exact⟨by rw[HCQ.out];rfl,tk',H7.out.done HL.out,HTR.out⟩
theorem do_dk{w:World}{base D G:Nat}{pw:Nat->Nat}{t:Twn}{tk:Int->List (List Ch)}{S:Nat->Prop}(h:zil base D G pw t tk w S)(hr:TR t tk)(x:Tst):
 Calls Tryz.prog 47 #[.pointer (some ⟨D,0,none⟩),tsV x] w fun e w'=>e= .returned (.int .i64 (tDo t x).1)/\∃pw' tk',zhe base w S D G pw' (tDo t x).2 tk' w'/\TR (tDo t x).2 tk'/\(x.kind≠1->pw'=pw):=by
 by_cases k0:x.kind<1\/7<x.kind
 ·have htd:tDo t x=(2,t):=by unfold tDo;rw[if_pos k0]
  rw[htd]
  exact(do_bad h hr x k0).mono fun e w' ⟨e1,e2⟩=>⟨e1,pw,tk,e2,hr,fun _=>rfl⟩
 by_cases k1:x.kind=1
 ·have htd:tDo t x=zsq t x.w:=by unfold tDo;rw[if_neg k0,if_pos k1]
  rw[htd,zsq]
  by_cases hc:zde t.b x.w=0
  ·have hw:wrB x.w=true:=by
    cases hh:wrB x.w
    ·rw[zde,if_pos hh]at hc;cases hc
    rfl
   obtain⟨k,hxw,hk⟩:=zc1 hw
   rw[hxw]at hc⊢
   refine(zxu h hr x k1 hk hxw hc).mono fun e w' ⟨e1,P,e2⟩=>⟨by rw[e1,hc],?_⟩
   show∃pw' tk',zhe base w S D G pw' (if _=0 then _ else _) tk' w'/\TR (if _=0 then _ else _) tk'/\_
   rw[if_pos hc]
   exact⟨_,_,e2,qd2 hr hc,fun e=>absurd k1 e⟩
  refine(qby h hr x k1 hc).mono fun e w' ⟨e1,e2⟩=>⟨e1,pw,tk,?_⟩
  show zhe base w S D G _ (if _=0 then _ else _) _ w'/\TR (if _=0 then _ else _) _/\_
  rw[if_neg hc]
  exact⟨e2,hr,fun _=>rfl⟩
 cases he:t.ws x.w with
 |none=>
  have htd:tDo t x=(5,t):=by unfold tDo;rw[if_neg k0,if_neg k1,he]
  rw[htd]
  exact(do_none h hr x (by omega) (by omega) he).mono fun e w' ⟨e1,e2⟩=>⟨e1,pw,tk,e2,hr,fun _=>rfl⟩
 |some r=>
  obtain⟨k,hxw,hk⟩:=zc1 (hr.ti.is_here he).2
  rw[hxw]at he
  exact(do_some h hr x (by omega) (by omega) hk hxw he).mono fun e w' ⟨e1,tk',e2,e3⟩=>⟨e1,pw,tk',e2,e3,fun _=>rfl⟩
def zhu(all:Twn->Int->Twn):Nat->Twn->Twn
 | 0,t=>t
 |n+1,t=>all (zhu all n t) n
theorem zvc(t:Twn):∀n,zhu zc8 n t=zdl n t
 | 0=>rfl
 |n+1=>by rw[zhu,zdl,zvc t n]
theorem zvd(t:Twn):∀n,zhu zca n t=zhs n t
 | 0=>rfl
 |n+1=>by rw[zhu,zhs,zvd t n]
def zfy(base:Nat)(w:World)(S:Nat->Prop)(D G:Nat)(pw:Nat->Nat)(t:Twn)(wk:World):Prop:=∃tk,zbc base w S D G pw t tk (fun _=>Th.no base) wk/\TR t tk
theorem qg1(h:zil base D G pw t tk w S)(hr:TR t tk)(kind:Int)(hkd:kind≠1)(all:Twn->Int->Twn)(un:Twn->Int->Nat)(hno:∀t v,(tDo t ⟨kind,v,0,0,⟨#[]⟩⟩).1≠0->all t v=(tDo t ⟨kind,v,0,0,⟨#[]⟩⟩).2)(hyes:∀t v,(tDo t ⟨kind,v,0,0,⟨#[]⟩⟩).1=0->all t v=all (tDo t ⟨kind,v,0,0,⟨#[]⟩⟩).2 v/\un (tDo t ⟨kind,v,0,0,⟨#[]⟩⟩).2 v<un t v):
 Calls Tryz.prog 138 #[.pointer (some ⟨D,0,none⟩),.int .i64 kind] w fun e w'=>e= .returned (.tuple #[])/\∃tk',zhe base w S D G pw (zhu all 4 t) tk' w'/\TR (zhu all 4 t) tk':=by
 have HL:=hid h.held
 have HI:Hid (zfy base w S D G pw t w):=⟨tk,h.start,hr⟩
 have HNO:=hid hno
 have HYES:=hid hyes
 have HKD:=hid hkd
 clear h hr hno hyes hkd
 go_enter Tryz.func138,Tryz.ntmps138
 go_wp2_with fail
 go_loopw [5] (fun i wr=>∃n:Nat,n<=4/\i= .int .i64 n/\Hid (zfy base w S D G pw (zhu all n t) wr)) (fun i _=>4-(intOf i).toNat)
 case atStart=>exact⟨0,by omega,rfl,HI.out⟩
 obtain⟨n,hn,rfl,HW⟩:=hrel
 by_cases hlt:n<4
 ·have hlt':(n:Int)<4:=by omega
  go_wp2_with fail
  go_loopg [] (un (zhu all n t) n) (fun m wr2=>∃t2,un t2 n=m/\all t2 n=all (zhu all n t) n/\Hid (zfy base w S D G pw t2 wr2))
  case atStart=>exact⟨_,rfl,rfl,HW.out⟩
  obtain⟨t2,hm,hall,HW2⟩:=hrel
  have HM:Hid (un t2 n=gk/\all t2 n=all (zhu all n t) n):=⟨hm,hall⟩
  clear hm hall
  go_wp2_with fail
  obtain⟨tk2,hd2,hr2⟩:=HW2.out
  obtain⟨T,ha,hs⟩:=hd2.call
  refine(do_dk ha hr2 ⟨kind,n,0,0,⟨#[]⟩⟩).mono ?_
  rintro e w7 ⟨rfl,pw7,tk7,hto,htr,hpw⟩
  obtain rfl:=hpw HKD.out
  have H7:Hid (zfy base w S D G pw7 (tDo t2 ⟨kind,n,0,0,⟨#[]⟩⟩).2 w7):=⟨tk7,hs _ _ _ _ hto,htr⟩
  clear hto hs ha hd2 hr2 htr hpw HW2
  by_cases hz:(tDo t2 ⟨kind,n,0,0,⟨#[]⟩⟩).1=0
  ·have HY:=hid (HYES.out t2 n hz)
   rw[hz]
   clear hz
   go_wp2_with fail
   go_roundg (un (tDo t2 ⟨kind,n,0,0,⟨#[]⟩⟩).2 n)
   case measure=>have:=HY.out.2;have:=HM.out.1;omega
   case rel=>exact⟨_,rfl,by rw[<-HY.out.1,HM.out.2],H7.out⟩
  have HN:Hid (zhu all (n+1) t=(tDo t2 ⟨kind,n,0,0,⟨#[]⟩⟩).2):=by
   show all (zhu all n t) n=_
   rw[<-HM.out.2,HNO.out t2 n hz]
  obtain⟨cq,hcq⟩:∃c,(tDo t2 ⟨kind,n,0,0,⟨#[]⟩⟩).1=c:=⟨_,rfl⟩
  have hz2:¬cq=0:=by rw[<-hcq];exact hz
  rw[hcq]
  clear hz hcq
  go_wp2_with fail
  go_roundw
  case rel=>exact⟨n+1,by omega,by go_num,by rw[HN.out];exact H7.out⟩
  case measure=>simp[intOf];omega
 obtain rfl:n=4:=by omega
 go_wp2_with fail
 go_end0
 obtain⟨tk9,h9,hr9⟩:=HW.out
 exact⟨rfl,tk9,h9.done HL.out,hr9⟩
theorem zl4(t:Twn)(v:Int):tDo t ⟨4,v,0,0,⟨#[]⟩⟩=match t.ws v with|none=>(5,t)|some r=>zdx t v r:=by
 unfold tDo
 rw[if_neg (by show¬((4:Int)<1\/(7:Int)<4);decide),if_neg (by show¬(4:Int)=1;decide)]
 dsimp only
 cases t.ws v with
 |none=>rfl
 |some r=>rfl
theorem zl5(t:Twn)(v:Int):tDo t ⟨5,v,0,0,⟨#[]⟩⟩=match t.ws v with|none=>(5,t)|some r=>zdg t v r:=by
 unfold tDo
 rw[if_neg (by show¬((5:Int)<1\/(7:Int)<5);decide),if_neg (by show¬(5:Int)=1;decide)]
 dsimp only
 cases t.ws v with
 |none=>rfl
 |some r=>rfl
theorem qe2{w:World}{base D G:Nat}{pw:Nat->Nat}{t:Twn}{tk:Int->List (List Ch)}{S:Nat->Prop}(h:zil base D G pw t tk w S)(hr:TR t tk):
 Calls Tryz.prog 83 #[.pointer (some ⟨D,0,none⟩)] w fun e w'=>e= .returned (.tuple #[])/\∃tk',zhe base w S D G pw (zep t) tk' w'/\TR (zep t) tk':=by
 have HL:=hid h.held
 have HI:Hid (zfy base w S D G pw t w):=⟨tk,h.start,hr⟩
 clear h hr
 go_enter Tryz.func83,Tryz.ntmps83
 go_wp2_with fail
 obtain⟨tk2,hd2,hr2⟩:=HI.out
 obtain⟨T,ha,hs⟩:=hd2.call
 refine(qg1 ha hr2 4 (by decide) zc8 unsent (fun t v hc=> ?_) (fun t v hc=> ?_)).mono ?_
 ·rw[zl4]at hc⊢
  cases hw:t.ws v with
  |none=>exact zfn hw
  |some r=>
   rw[hw]at hc
   rw[zea hw,if_neg hc]
 ·rw[zl4]at hc⊢
  cases hw:t.ws v with
  |none=>rw[hw]at hc;cases hc
  |some r=>
   rw[hw]at hc
   exact⟨by rw[zea hw,if_pos hc],zi4 hw hc⟩
 rintro e w7 ⟨rfl,tk7,hto,htr⟩
 rw[zvc]at hto htr
 have H7:Hid (zfy base w S D G pw (zdl 4 t) w7):=⟨tk7,hs _ _ _ _ hto,htr⟩
 clear hto htr hs ha hd2 hr2 HI
 go_wp2_with fail
 obtain⟨tk2,hd2,hr2⟩:=H7.out
 obtain⟨T,ha,hs⟩:=hd2.call
 refine(qg1 ha hr2 5 (by decide) zca zft (fun t v hc=> ?_) (fun t v hc=> ?_)).mono ?_
 ·rw[zl5]at hc⊢
  cases hw:t.ws v with
  |none=>exact zfr hw
  |some r=>
   rw[hw]at hc
   rw[zei hw,if_neg hc]
 ·rw[zl5]at hc⊢
  cases hw:t.ws v with
  |none=>rw[hw]at hc;cases hc
  |some r=>
   rw[hw]at hc
   exact⟨by rw[zei hw,if_pos hc],zgw hw hc⟩
 rintro e w8 ⟨rfl,tk8,hto,htr⟩
 rw[zvd]at hto htr
 have H8:Hid (zfy base w S D G pw (zep t) w8):=⟨tk8,hs _ _ _ _ hto,htr⟩
 clear hto htr hs ha hd2 hr2 H7
 go_wp2_with fail
 go_end0
 obtain⟨tk9,h9,hr9⟩:=H8.out
 exact⟨rfl,tk9,h9.done HL.out,hr9⟩
variable {w wk:World} {L:List Dd} {g n cap base:Nat}
abbrev zdr:Dd:=⟨0,0,0,0,0,0,⟨#[]⟩⟩
theorem zz1:∀(l:List Dd) (i:Nat) (y:Dd),i<l.length->
 (((((((zbv l).set (i*7) (.int .i64 y.kind)).set (i*7+1) (.int .i64 y.by_)).set (i*7+2) (.int .i64 y.no)).set (i*7+3) (.int .i64 y.seen)).set (i*7+4) (.int .i64 y.at_)).set (i*7+5) (.int .i64 y.many)).set (i*7+6) (.string y.text)=zbv (l.set i y)
 |[],i,_,hi=>absurd hi (Nat.not_lt_zero _)
 |x::l,0,y,_=>by simp[zbv,zf9]
 |x::l,i+1,y,hi=>by
  have ih:=zz1 l i y (by simpa using hi)
  have e:∀(r:Nat) (a:List Value) (u:Value),(zf9 x++a).set ((i+1)*7+r) u=zf9 x++a.set (i*7+r) u:=fun r a u=>by
   have h7:(zf9 x).length=7:=rfl
   rw[List.set_append_right (h:=by rw[h7];omega),h7,show(i+1)*7+r-7=i*7+r by omega]
  have e0:=fun a u=>e 0 a u
  simp only[Nat.add_zero]at e0
  rw[zbv,List.set_cons_succ,zbv,<-ih,e0,e,e,e,e,e,e]
structure OI(w:World)(v:Value)(L:List Dd)(wk:World):Prop where
 below:Below w.heap.size w wk
 own:zfx wk w.heap.size v L
theorem OI.after{w':World}{v:Value}(h:OI w v L wk)(hb:Below wk.heap.size wk w'):OI w v L w':=⟨bla h.below hb,h.own.below hb⟩
theorem OI.put(h:OI w (.slice (some ⟨g,0,none⟩) n cap) L wk)(hn:L.length=n){i:Nat}(hi:i<L.length)(y:Dd):
 OI w (.slice (some ⟨g,0,none⟩) n cap) (L.set i y) (((((((wk.setCell ⟨g,i*7,none⟩ (.int .i64 y.kind)).setCell ⟨g,i*7+1,none⟩ (.int .i64 y.by_)).setCell ⟨g,i*7+2,none⟩ (.int .i64 y.no)).setCell ⟨g,i*7+3,none⟩ (.int .i64 y.seen)).setCell ⟨g,i*7+4,none⟩ (.int .i64 y.at_)).setCell ⟨g,i*7+5,none⟩ (.int .i64 y.many)).setCell ⟨g,i*7+6,none⟩ (.string y.text)):=by
 obtain⟨hb,ho⟩:=h
 have hg:=(World.ownsRow.lt ho g rfl).1
 refine⟨((((((hb.setCell (p:=⟨g,_,none⟩) hg _).setCell (p:=⟨g,_,none⟩) hg _).setCell (p:=⟨g,_,none⟩) hg _).setCell (p:=⟨g,_,none⟩) hg _).setCell (p:=⟨g,_,none⟩) hg _).setCell (p:=⟨g,_,none⟩) hg _).setCell (p:=⟨g,_,none⟩) hg _,?_⟩
 unfold zfx at ho⊢
 rw[List.length_set,<-zz1 L i y hi,hn]
 rw[hn]at ho
 exact((((((ho.stored _ _).1.stored _ _).1.stored _ _).1.stored _ _).1.stored _ _).1.stored _ _).1.stored _ _ |>.1
theorem zcn(h:zfx w base (.slice (some ⟨g,0,none⟩) n cap) L)(hn:L.length=n){j:Nat}(hj:j<n*7):(∃u,w.cell? ⟨g,j,none⟩=some u)/\w.frozen? ⟨g,j,none⟩=false:=by
 unfold zfx at h
 rw[hn]at h
 refine⟨?_,World.ownsRow.frozenAt h j⟩
 have h1:=World.ownsRow.cellAt h j hj
 have h2:=h.1
 rw[h1,List.getElem?_eq_getElem (by omega)]
 exact⟨_,rfl⟩
theorem zpn:∀n:Nat,zbv (List.replicate n zdr)=(madeCells zdh.cells (n*7)).toList:=by
 intro n
 apply List.ext_getElem?
 intro j
 have hz:(madeCells zdh.cells (n*7)).toList.length=n*7:=by rw[Array.length_toList,size_madeCells]
 by_cases hj:j<n*7
 ·have hd:j=j / 7*7+j % 7:=by omega
  have hr:j % 7<7:=Nat.mod_lt _ (by omega)
  have hi:j / 7<(List.replicate n zdr).length:=by rw[List.length_replicate];omega
  have e:(madeCells zdh.cells (n*7)).toList[j]? =some (zdh.cells.getD (j % 7) default):=by
   rw[List.getElem?_eq_getElem (by rw[hz];exact hj)]
   simp[madeCells,Value.cells]
  rw[e]
  conv=>lhs;rw[hd]
  rw[zjz _ _ _ hi hr,List.getElem_replicate]
  generalize j % 7=r at hr
  rcases(show r=0\/r=1\/r=2\/r=3\/r=4\/r=5\/r=6 by omega)with rfl|rfl|rfl|rfl|rfl|rfl|rfl<;>rfl
 rw[List.getElem?_eq_none (by rw[zhy,List.length_replicate];omega),List.getElem?_eq_none (by omega)]
theorem zla(n:Nat)(hn:n<=100000)(w:World):(Instr.makeSlice 61 (.int .i64 n) (.int .i64 n)).run Tryz.prog w= .ok (.slice (some ⟨w.heap.size,0,none⟩) n n) (w.alloc (.cells (madeCells zdh.cells (n*7)) 124)):=by
 obtain⟨i0,hi,hz0,hz1,hz2⟩:=info_parts Tryz.infoDeed
 have:=run_make (P:=Tryz.prog) w 61 124 i0 zdh Tryz.underlying61 hi hz0 .i64 .i64 n n (by omega) (Int.le_refl _) (by rw[hz2];omega) (by omega)
 simp only[Int.toNat_natCast,hz1]at this
 exact this
theorem zmt(es:List Dd)(k:Nat)(h:k<=es.length):(es.take k++List.replicate (es.length-k) zdr).length=es.length:=by
 rw[List.length_append,List.length_take,List.length_replicate];omega
theorem zms(es:List Dd){k:Nat}(h:k<es.length):(es.take k++List.replicate (es.length-k) zdr).set k es[k]=es.take (k+1)++List.replicate (es.length-(k+1)) zdr:=by
 have e:(es.take k).length=k:=by rw[List.length_take];omega
 rw[List.set_append_right (h:=by omega),e,Nat.sub_self,show es.length-k=(es.length-(k+1))+1 by omega,List.replicate_succ,List.set_cons_zero,List.take_succ_eq_append_getElem h,List.append_assoc]
 rfl
theorem open_pw{P:Nat}{S:Nat->Prop}{lv ov:Value}{tvs:List Value}{l:List Ch}{es:List Dd}{ts:List (List Ch)}{me next seen sent:Int}(h:zd3 w base S P lv ov tvs l es ts me next seen sent)(hes:es.length<=1000):
 Calls Tryz.prog 90 #[.pointer (some ⟨P,0,none⟩)] w fun e w'=>∃v',e= .returned v'/\zfx w' w.heap.size v' es/\Below w.heap.size w w':=by
 have HA:=hid h
 have c4:=h.cells.opens
 have hlt:=h.cells.lt
 obtain⟨ao,capo,rfl⟩:=h.topen.form
 clear h
 have HE:Hid (∃n,es.length=n):=⟨_,rfl⟩
 obtain⟨n,hn⟩:=HE.out
 have HN:=hid hn
 have hmk:=zla n (by omega)
 have HO:Hid (OI w (.slice (some ⟨w.heap.size,0,none⟩) n n) (es.take 0++List.replicate (es.length-0) zdr) (w.alloc (.cells (madeCells zdh.cells (n*7)) 124))):=by
  refine⟨za2 _ _,?_⟩
  have hz:(madeCells zdh.cells (n*7)).size=n*7:=by rw[size_madeCells]
  have:=World.ownsRow_lit (base:=w.heap.size) (size:=7) (e:=124) w (madeCells zdh.cells (n*7)) n (Nat.le_refl _) (by unfold maxLen;omega) hz
  unfold zfx
  rw[List.take_zero,List.nil_append,Nat.sub_zero,List.length_replicate,zpn,hn]
  exact this
 rw[hn]at c4 hes
 clear hn HE
 go_enter Tryz.func90,Tryz.ntmps90
 go_wp2
 go_loopw [17] (fun i wr=>∃k:Nat,k<=n/\i= .int .i64 k/\Hid (OI w (.slice (some ⟨w.heap.size,0,none⟩) n n) (es.take k++List.replicate (es.length-k) zdr) wr)) (fun i _=>n-(intOf i).toNat)
 case atStart=>exact⟨0,Nat.zero_le _,rfl,HO⟩
 obtain⟨k,hk,rfl,HJ⟩:=hrel
 clear HO hmk
 by_cases hlt2:k<n
 ·have hkl:k<es.length:=by rw[HN.out];exact hlt2
  have hT:=HA.out.topen.below HJ.out.below
  have hkv:k<tvs.length:=by rw[hT.len];exact hkl
  obtain⟨g,cap,hov⟩:=hT.place (by omega)
  simp only[Value.slice.injEq]at hov
  obtain⟨rfl,-, rfl⟩:=hov
  obtain⟨⟨hg,h0,h1,h2,h3,h4,h5,h6⟩,h7⟩:=hT.nth rfl hkl hkv
  have hml:(es.take k++List.replicate (es.length-k) zdr).length=n:=by rw[zmt es k (by omega),HN.out]
  obtain⟨⟨u0,e0⟩,f0⟩:=zcn HJ.out.own hml (j:=k*7) (by omega)
  obtain⟨⟨u1,e1⟩,f1⟩:=zcn HJ.out.own hml (j:=k*7+1) (by omega)
  obtain⟨⟨u2,e2⟩,f2⟩:=zcn HJ.out.own hml (j:=k*7+2) (by omega)
  obtain⟨⟨u3,e3⟩,f3⟩:=zcn HJ.out.own hml (j:=k*7+3) (by omega)
  obtain⟨⟨u4,e4⟩,f4⟩:=zcn HJ.out.own hml (j:=k*7+4) (by omega)
  obtain⟨⟨u5,e5⟩,f5⟩:=zcn HJ.out.own hml (j:=k*7+5) (by omega)
  obtain⟨⟨u6,e6⟩,f6⟩:=zcn HJ.out.own hml (j:=k*7+6) (by omega)
  have hW:w.heap.size<wr.heap.size:=(World.ownsRow.lt HJ.out.own w.heap.size rfl).2
  have hNX:=OI.put HJ.out hml (i:=k) (by rw[hml];exact hlt2) es[k]
  rw[zms es hkl]at hNX
  have HNX:Hid _:=hNX.after (za2 _ (zm7 es[k] tvs[k]))
  clear hNX
  generalize hd:es[k]=d at*
  have hkt:k<ts.length:=by rw[<-hT.tooks.len];exact hkv
  obtain⟨ta,tcap,htf,_⟩:=(hT.tooks.nth k hkv hkt).lst.len
  generalize ts[k].length=tn at htf
  generalize htv:tvs[k]=tv at*
  subst htf
  obtain⟨kind,by_,no,seen',at_,many,text⟩:=d
  simp only at h0 h1 h2 h3 h4 h5 h6 HNX
  clear hT hml HJ hd htv
  go_wp2
  go_roundw
  case rel=>exact⟨k+1,by omega,by go_num,HNX⟩
  case measure=>simp[intOf];omega
 obtain rfl:k=n:=by omega
 have HE:Hid (es.take k++List.replicate (es.length-k) zdr=es):=by show _=_;rw[<-HN.out,List.take_length,Nat.sub_self];simp
 go_wp2
 go_ret
 exact⟨_,rfl,by have:=HJ.out.own;rw[HE.out]at this;exact this,HJ.out.below⟩
variable {base:Nat} {S:Nat->Prop}
section
variable {w wk w':World} {D G:Nat} {pw:Nat->Nat} {t:Twn}
theorem zfy.cells{base:Nat}{S:Nat->Prop}(h:zfy base w S D G pw t wk):TwC wk D G pw (zbo t):=by
 obtain⟨tk,h1,h2⟩:=h
 exact h1.cells
theorem zfy.ti{base:Nat}{S:Nat->Prop}(h:zfy base w S D G pw t wk):TwI t:=by
 obtain⟨tk,h1,h2⟩:=h
 exact h2.ti
theorem zfy.text(h:zfy base w S D G pw t wk):
 Calls Tryz.prog 80 #[.pointer (some ⟨G,0,none⟩)] wk fun e w'=>e= .returned (.string (strOfNums (zdj t.b.chars)))/\Below wk.heap.size wk w':=by
 obtain⟨tk,h1,h2⟩:=h
 obtain⟨T,dv,lv,hl,_⟩:=h1.log
 exact text_lg hl
theorem zfy.len(h:zfy base w S D G pw t wk):
 Calls Tryz.prog 85 #[.pointer (some ⟨G,0,none⟩)] wk fun e w'=>e= .returned (.int .i64 t.b.ds.length)/\w'=wk:=by
 obtain⟨tk,h1,h2⟩:=h
 obtain⟨T,dv,lv,hl,_⟩:=h1.log
 exact zir hl
theorem zfy.wtext(h:zfy base w S D G pw t wk){k:Nat}(hk:k<4){r:Wr}(he:t.ws k=some r):
 Calls Tryz.prog 88 #[.pointer (some ⟨pw k,0,none⟩)] wk fun e w'=>e= .returned (.string (strOfNums (vw r.list r.seen r.me)))/\Below wk.heap.size wk w':=by
 obtain⟨tk,h1,h2⟩:=h
 obtain⟨T,lv,ov,tvs,hp,_⟩:=h1.wr hk he
 exact text_pw hp (by have:=(zbg h2 he).len;omega)
theorem zfy.wopen(h:zfy base w S D G pw t wk){k:Nat}(hk:k<4){r:Wr}(he:t.ws k=some r):
 Calls Tryz.prog 90 #[.pointer (some ⟨pw k,0,none⟩)] wk fun e w'=>∃v',e= .returned v'/\zfx w' wk.heap.size v' r.opens/\Below wk.heap.size wk w':=by
 obtain⟨tk,h1,h2⟩:=h
 obtain⟨T,lv,ov,tvs,hp,_⟩:=h1.wr hk he
 exact open_pw hp (by have:=(zbg h2 he).few;omega)
theorem zfy.writer(h:zfy base w S D G pw t wk)(n:Int):
 Calls Tryz.prog 66 #[.pointer (some ⟨D,0,none⟩),.int .i64 n] wk fun e w'=>e= .returned (zhv pw (zbo t) n)/\w'=wk:=zo2 h.cells n
end
theorem zdi{P:Program}{ops:Array Oper}{id:Nat}{Q:Exit->Act->World->Prop}{a:Act}{w:World}(U0 D0:Cls)(sp lt:Nat->Bool)(hm:P.follows .mixedOrders=true)(hB:Region.lexB .any ops=true)(hc:qf1 .any ops sp lt=true)(hDU:∀w,D0 w->U0 w)
 (hD:D0 w.drew) (h:ze9 P ops U0 sp lt (fun a' w'=>Q .normal a' w') ops.toList 0 a U0 D0):(Code.region id ops true).wp P Q a w:=by
 simp only[Region.lexB,Bool.and_eq_true]at hB
 have hD':D0 {w with drawn:=w.drawn+1}:=hD
 refine wp_region_any hm (zeo (U0:=U0) (sp:=sp) (lt:=lt) (Q:=fun a' w'=>Q .normal a' w') (fun _ _ h=>h) _ _ _ U0 D0 _ (fun _ h=>h) hDU hD' ?_)
 have:=zlt (md:= .any) (hDU _ hD') hB.1 hc ops.toList 0 a U0 D0 (by simp) (by simp) (by rw[zda];simpa using hB.2) h
 rw[zda]at this
 simpa using this
section
variable {w wk w':World} {D G E F:Nat} {pw qw:Nat->Nat} {t u:Twn}
end
end Go.Proofs.YtcbnnfeelhlapadGreatDoor