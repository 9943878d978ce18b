/-
  TnC.
-/
import Derived.Test.YtcbnnfeelhlapadGreatDoorTnB
namespace Go.Proofs.YtcbnnfeelhlapadGreatDoor
set_option maxHeartbeats 6400000
set_option maxRecDepth 20000
open Go.RowKit
variable {w:World} {base D G:Nat} {pw:Nat->Nat} {t:Twn} {S:Nat->Prop}
theorem tdo_none{w:World}{base D G:Nat}{pw:Nat->Nat}{t:Twn}{S:Nat->Prop}(h:zke base D G pw t w S){tk:Int->List (List Ch)}(hr:TR t tk)(x:Tst)(h2:2<=x.kind)(h7:x.kind<=7)(he:t.ws x.w=none):
 Calls Tryz.prog 56 #[.pointer (some ⟨D,0,none⟩),tsV x] w fun e w'=>e= .returned (.int .i64 5)/\zkd base w S D G pw t w':=by
 have HI:=hid (h.start.step x 0)
 have HL:=hid h.held
 have HR:=hid hr
 have HE:=hid he
 clear he
 obtain⟨kind,w_,at_,many,text⟩:=x
 clear h hr
 have q1:¬kind<1:=by have:2<=kind:=h2;omega
 have q2:¬7<kind:=by have:kind<=7:=h7;omega
 have q3:¬kind=1:=by have:2<=kind:=h2;omega
 clear h2 h7
 cases hw:wrB w_ with
 |false=>
  have HWR:Hid (∀w:World,Calls Tryz.prog 57 #[.int .i64 w_] w fun e w'=>e= .returned (.bool false)/\w'=w):=fun w=>by have:=za8 w_ w;rw[hw]at this;exact this
  clear hw
  go_enter Tryz.func56,Tryz.ntmps56
  go_wp2_with fail
  generalize World.alloc _ _=w5 at*
  obtain⟨_,c0,c1,c2,c3,c4⟩:=HI.out.stepAt
  simp only[Nat.zero_add]at c0 c1 c2 c3 c4
  go_quiet ((go_at_call 57;exact Calls.quiet_of_same (HWR.out _)))
  have H6:Hid (zbu base w S D G pw t (zat (fun _=>Th.no base) 0 (Th.st base w.heap.size ⟨kind,w_,at_,many,text⟩)) (w5.drewN nq)):=HI.out.after (below_drewN (Below.refl _ _) nq)
  go_wp2_with fail
  go_ret
  exact⟨rfl,H6.out.done HL.out⟩
 |true=>
  have HWR:Hid (∀w:World,Calls Tryz.prog 57 #[.int .i64 w_] w fun e w'=>e= .returned (.bool true)/\w'=w):=fun w=>by have:=za8 w_ w;rw[hw]at this;exact this
  obtain⟨k,rfl,hk⟩:=zc1 hw
  have hk4:(k:Int)<4:=by omega
  have hhs:zbo t k=false:=by unfold zbo;rw[HE.out];rfl
  clear hw
  go_enter Tryz.func56,Tryz.ntmps56
  go_wp2_with fail
  generalize World.alloc _ _=w5 at*
  obtain⟨_,c0,c1,c2,c3,c4⟩:=HI.out.stepAt
  simp only[Nat.zero_add]at c0 c1 c2 c3 c4
  have g1:=HI.out.cells.ws k hk
  have hlt:=HI.out.cells.lt
  simp only[hhs,zbq,Bool.false_eq_true,if_false]at g1
  go_quiet ((go_at_call 57;exact Calls.quiet_of_same (HWR.out _)))
  have H6:Hid (zbu base w S D G pw t (zat (fun _=>Th.no base) 0 (Th.st base w.heap.size ⟨kind,(k:Int),at_,many,text⟩)) (w5.drewN nq)):=HI.out.after (below_drewN (Below.refl _ _) nq)
  go_wp2_with fail
  go_ret
  exact⟨rfl,H6.out.done HL.out⟩
theorem tput_yes(h:zke base D G pw t w S){tk:Int->List (List Ch)}(hr:TR t tk)(x:Tst){k:Nat}(hk:k<4){r:Wr}(he:t.ws k=some r)(hxw:x.w=k)(hkd:x.kind=2)(hz:doC r.list ⟨1,r.me,r.next,r.seen,x.at_,0,x.text⟩ za3=0):
 Calls Tryz.prog 56 #[.pointer (some ⟨D,0,none⟩),tsV x] w fun e w'=>e= .returned (.int .i64 0)/\zkd base w S D G pw ⟨t.b,zai t.ws k (some (zkw r ⟨1,r.me,r.next,r.seen,x.at_,0,x.text⟩))⟩ w':=by
 have HI:=hid (h.start.step x 0)
 have HL:=hid h.held
 have HR:=hid hr
 have HZ:=hid hz
 clear hz
 have HE:=hid he
 have HO:=hid (zbg hr he)
 have hhs:zbo t k=true:=by unfold zbo;rw[he];rfl
 clear he
 obtain⟨kind,w_,at_,many,text⟩:=x
 clear h hr
 obtain rfl:w_=(k:Int):=hxw
 obtain rfl:kind=2:=hkd
 have hk4:(k:Int)<4:=by omega
 have HWR:Hid (∀w:World,Calls Tryz.prog 57 #[.int .i64 k] w fun e w'=>e= .returned (.bool true)/\w'=w):=fun w=>by have:=za8 k w;rw[show wrB (k:Int)=true by simp[wrB];omega]at this;exact this
 go_enter Tryz.func56,Tryz.ntmps56
 go_wp2_with fail
 generalize World.alloc _ _=w5 at*
 obtain⟨_,c0,c1,c2,c3,c4⟩:=HI.out.stepAt
 simp only[Nat.zero_add]at c0 c1 c2 c3 c4
 have g1:=HI.out.cells.ws k hk
 have hlt:=HI.out.cells.lt
 simp only[hhs,zbq,if_true]at g1
 go_quiet ((go_at_call 57;exact Calls.quiet_of_same (HWR.out _)))
 go_wp2_with fail
 have H6:Hid (zbu base w S D G pw t (zat (fun _=>Th.no base) 0 (Th.st base w.heap.size ⟨2,(k:Int),at_,many,text⟩)) (w5.drewN nq)):=HI.out.after (below_drewN (Below.refl _ _) nq)
 generalize w5.drewN nq=w6 at*
 clear HI c0 c1 c2 c3 c4 g1 hlt
 obtain⟨_,c0,c1,c2,c3,c4⟩:=H6.out.stepAt
 simp only[Nat.zero_add]at c0 c1 c2 c3 c4
 have g1:=H6.out.cells.ws k hk
 have hlt:=H6.out.cells.lt
 simp only[hhs,zbq,if_true]at g1
 go_quiet (fail)
 go_wp2_with fail
 have H7:Hid (zbu base w S D G pw t (zat (fun _=>Th.no base) 0 (Th.st base w.heap.size ⟨2,(k:Int),at_,many,text⟩)) (w6.drewN nq)):=H6.out.after (below_drewN (Below.refl _ _) nq)
 generalize w6.drewN nq=w7 at*
 clear H6 c0 c1 c2 c3 c4 g1 hlt hhs
 obtain⟨T,bv,ov,hq,hs⟩:=H7.out.wr hk HE.out
 refine(zzx hq (by have:=HO.out.few;omega) HO.out.top HO.out.n1 (by have:=HO.out.n2;omega) ⟨1,0,0,0,at_,0,text⟩ HZ.out).mono ?_
 rintro e w8 ⟨rfl,hto⟩
 have H8:Hid (zbu base w S D G pw ⟨t.b,zai t.ws k (some (zkw r ⟨1,r.me,r.next,r.seen,at_,0,text⟩))⟩ (zat (fun _=>Th.no base) 0 (Th.st base w.heap.size ⟨2,(k:Int),at_,many,text⟩)) w8):=hs (zkw r ⟨1,r.me,r.next,r.seen,at_,0,text⟩) w8 hto
 clear hto hs hq H7
 have H9:=H8.out.after (za2 w8 (zd9 ⟨1,r.me,r.next,r.seen,at_,0,text⟩))
 go_wp2_with fail
 go_ret
 exact⟨rfl,H9.done HL.out⟩
theorem tput_no(h:zke base D G pw t w S){tk:Int->List (List Ch)}(hr:TR t tk)(x:Tst){k:Nat}(hk:k<4){r:Wr}(he:t.ws k=some r)(hxw:x.w=k)(hkd:x.kind=2)(hz:doC r.list ⟨1,r.me,r.next,r.seen,x.at_,0,x.text⟩ za3≠0):
 Calls Tryz.prog 56 #[.pointer (some ⟨D,0,none⟩),tsV x] w fun e w'=>e= .returned (.int .i64 (doC r.list ⟨1,r.me,r.next,r.seen,x.at_,0,x.text⟩ za3))/\zkd base w S D G pw t w':=by
 have HI:Hid (zbu base w S D G pw t (zat (fun _=>Th.no base) 0 (Th.st base w.heap.size x)) (w.alloc (ziz x))):=h.start.step x 0
 have HL:Hid (base<=w.heap.size/\∀k,S k->base<=k/\k<w.heap.size):=h.held
 have HR:Hid (TR t tk):=hr
 have HZ:Hid (doC r.list ⟨1,r.me,r.next,r.seen,x.at_,0,x.text⟩ za3≠0):=hz
 clear hz
 have HE:Hid (t.ws k=some r):=he
 have HO:Hid (WOk r (tk k)):=zbg hr he
 have hhs:zbo t k=true:=by unfold zbo;rw[he];rfl
 clear he
 obtain⟨kind,w_,at_,many,text⟩:=x
 clear h hr
 obtain rfl:w_=(k:Int):=hxw
 obtain rfl:kind=2:=hkd
 have hk4:(k:Int)<4:=by omega
 have HWR:Hid (∀w:World,Calls Tryz.prog 57 #[.int .i64 k] w fun e w'=>e= .returned (.bool true)/\w'=w):=fun w=>by have:=za8 k w;rw[show wrB (k:Int)=true by simp[wrB];omega]at this;exact this
 go_enter Tryz.func56,Tryz.ntmps56
 go_wp2_with fail
 generalize World.alloc _ _=w5 at*
 obtain⟨_,c0,c1,c2,c3,c4⟩:=HI.out.stepAt
 simp only[Nat.zero_add]at c0 c1 c2 c3 c4
 have g1:=HI.out.cells.ws k hk
 have hlt:=HI.out.cells.lt
 simp only[hhs,zbq,if_true]at g1
 go_quiet ((go_at_call 57;exact Calls.quiet_of_same (HWR.out _)))
 go_wp2_with fail
 have H6:Hid (zbu base w S D G pw t (zat (fun _=>Th.no base) 0 (Th.st base w.heap.size ⟨2,(k:Int),at_,many,text⟩)) (w5.drewN nq)):=HI.out.after (below_drewN (Below.refl _ _) nq)
 generalize w5.drewN nq=w6 at*
 clear HI c0 c1 c2 c3 c4 g1 hlt
 obtain⟨_,c0,c1,c2,c3,c4⟩:=H6.out.stepAt
 simp only[Nat.zero_add]at c0 c1 c2 c3 c4
 have g1:=H6.out.cells.ws k hk
 have hlt:=H6.out.cells.lt
 simp only[hhs,zbq,if_true]at g1
 go_quiet (fail)
 go_wp2_with fail
 have H7:Hid (zbu base w S D G pw t (zat (fun _=>Th.no base) 0 (Th.st base w.heap.size ⟨2,(k:Int),at_,many,text⟩)) (w6.drewN nq)):=H6.out.after (below_drewN (Below.refl _ _) nq)
 generalize w6.drewN nq=w7 at*
 clear H6 c0 c1 c2 c3 c4 g1 hlt hhs
 obtain⟨T,bv,ov,hq,hs⟩:=H7.out.wr hk HE.out
 refine(qg3 hq (by have:=HO.out.few;omega) HO.out.top ⟨1,0,0,0,at_,0,text⟩ HZ.out).mono ?_
 rintro e w8 ⟨rfl,hb⟩
 have H9:Hid (zbu base w S D G pw t (zat (fun _=>Th.no base) 0 (Th.st base w.heap.size ⟨2,(k:Int),at_,many,text⟩)) (w8.alloc zObj)):=(H7.out.after hb).after (za2 w8 zObj)
 clear hb hs hq H7
 obtain⟨cq,hcq⟩:∃c,doC (zaj r.base r.opens) (zev ⟨1,0,0,0,at_,0,text⟩ r.me r.next r.seen) za3=c:=⟨_,rfl⟩
 have HCQ:Hid (doC r.list ⟨1,r.me,r.next,r.seen,at_,0,text⟩ za3=cq):=hcq
 rw[hcq]
 clear hcq
 go_wp2_with fail
 go_ret
 exact⟨by rw[HCQ.out];rfl,H9.out.done HL.out⟩
theorem qcv(h:zke base D G pw t w S){tk:Int->List (List Ch)}(hr:TR t tk)(x:Tst){k:Nat}(hk:k<4){r:Wr}(he:t.ws k=some r)(hxw:x.w=k)(hkd:x.kind=3)(hz:doC r.list ⟨2,r.me,r.next,r.seen,x.at_,x.many,⟨#[]⟩⟩ za3=0):
 Calls Tryz.prog 56 #[.pointer (some ⟨D,0,none⟩),tsV x] w fun e w'=>e= .returned (.int .i64 0)/\zkd base w S D G pw ⟨t.b,zai t.ws k (some (zkw r ⟨2,r.me,r.next,r.seen,x.at_,x.many,⟨#[]⟩⟩))⟩ w':=by
 have HI:=hid (h.start.step x 0)
 have HL:=hid h.held
 have HR:=hid hr
 have HZ:=hid hz
 clear hz
 have HE:=hid he
 have HO:=hid (zbg hr he)
 have hhs:zbo t k=true:=by unfold zbo;rw[he];rfl
 clear he
 obtain⟨kind,w_,at_,many,text⟩:=x
 clear h hr
 obtain rfl:w_=(k:Int):=hxw
 obtain rfl:kind=3:=hkd
 have hk4:(k:Int)<4:=by omega
 have HWR:Hid (∀w:World,Calls Tryz.prog 57 #[.int .i64 k] w fun e w'=>e= .returned (.bool true)/\w'=w):=fun w=>by have:=za8 k w;rw[show wrB (k:Int)=true by simp[wrB];omega]at this;exact this
 go_enter Tryz.func56,Tryz.ntmps56
 go_wp2_with fail
 generalize World.alloc _ _=w5 at*
 obtain⟨_,c0,c1,c2,c3,c4⟩:=HI.out.stepAt
 simp only[Nat.zero_add]at c0 c1 c2 c3 c4
 have g1:=HI.out.cells.ws k hk
 have hlt:=HI.out.cells.lt
 simp only[hhs,zbq,if_true]at g1
 go_quiet ((go_at_call 57;exact Calls.quiet_of_same (HWR.out _)))
 go_wp2_with fail
 have H6:Hid (zbu base w S D G pw t (zat (fun _=>Th.no base) 0 (Th.st base w.heap.size ⟨3,(k:Int),at_,many,text⟩)) (w5.drewN nq)):=HI.out.after (below_drewN (Below.refl _ _) nq)
 generalize w5.drewN nq=w6 at*
 clear HI c0 c1 c2 c3 c4 g1 hlt
 obtain⟨_,c0,c1,c2,c3,c4⟩:=H6.out.stepAt
 simp only[Nat.zero_add]at c0 c1 c2 c3 c4
 have g1:=H6.out.cells.ws k hk
 have hlt:=H6.out.cells.lt
 simp only[hhs,zbq,if_true]at g1
 go_quiet (fail)
 go_wp2_with fail
 have H7:Hid (zbu base w S D G pw t (zat (fun _=>Th.no base) 0 (Th.st base w.heap.size ⟨3,(k:Int),at_,many,text⟩)) (w6.drewN nq)):=H6.out.after (below_drewN (Below.refl _ _) nq)
 generalize w6.drewN nq=w7 at*
 clear H6 c0 c1 c2 c3 c4 g1 hlt hhs
 obtain⟨T,bv,ov,hq,hs⟩:=H7.out.wr hk HE.out
 refine(zzx hq (by have:=HO.out.few;omega) HO.out.top HO.out.n1 (by have:=HO.out.n2;omega) ⟨2,0,0,0,at_,many,⟨#[]⟩⟩ HZ.out).mono ?_
 rintro e w8 ⟨rfl,hto⟩
 have H8:Hid (zbu base w S D G pw ⟨t.b,zai t.ws k (some (zkw r ⟨2,r.me,r.next,r.seen,at_,many,⟨#[]⟩⟩))⟩ (zat (fun _=>Th.no base) 0 (Th.st base w.heap.size ⟨3,(k:Int),at_,many,text⟩)) w8):=hs (zkw r ⟨2,r.me,r.next,r.seen,at_,many,⟨#[]⟩⟩) w8 hto
 clear hto hs hq H7
 have H9:=H8.out.after (za2 w8 (zd9 ⟨2,r.me,r.next,r.seen,at_,many,⟨#[]⟩⟩))
 go_wp2_with fail
 go_ret
 exact⟨rfl,H9.done HL.out⟩
theorem ttake_no(h:zke base D G pw t w S){tk:Int->List (List Ch)}(hr:TR t tk)(x:Tst){k:Nat}(hk:k<4){r:Wr}(he:t.ws k=some r)(hxw:x.w=k)(hkd:x.kind=3)(hz:doC r.list ⟨2,r.me,r.next,r.seen,x.at_,x.many,⟨#[]⟩⟩ za3≠0):
 Calls Tryz.prog 56 #[.pointer (some ⟨D,0,none⟩),tsV x] w fun e w'=>e= .returned (.int .i64 (doC r.list ⟨2,r.me,r.next,r.seen,x.at_,x.many,⟨#[]⟩⟩ za3))/\zkd base w S D G pw t w':=by
 have HI:Hid (zbu base w S D G pw t (zat (fun _=>Th.no base) 0 (Th.st base w.heap.size x)) (w.alloc (ziz x))):=h.start.step x 0
 have HL:Hid (base<=w.heap.size/\∀k,S k->base<=k/\k<w.heap.size):=h.held
 have HR:Hid (TR t tk):=hr
 have HZ:Hid (doC r.list ⟨2,r.me,r.next,r.seen,x.at_,x.many,⟨#[]⟩⟩ za3≠0):=hz
 clear hz
 have HE:Hid (t.ws k=some r):=he
 have HO:Hid (WOk r (tk k)):=zbg hr he
 have hhs:zbo t k=true:=by unfold zbo;rw[he];rfl
 clear he
 obtain⟨kind,w_,at_,many,text⟩:=x
 clear h hr
 obtain rfl:w_=(k:Int):=hxw
 obtain rfl:kind=3:=hkd
 have hk4:(k:Int)<4:=by omega
 have HWR:Hid (∀w:World,Calls Tryz.prog 57 #[.int .i64 k] w fun e w'=>e= .returned (.bool true)/\w'=w):=fun w=>by have:=za8 k w;rw[show wrB (k:Int)=true by simp[wrB];omega]at this;exact this
 go_enter Tryz.func56,Tryz.ntmps56
 go_wp2_with fail
 generalize World.alloc _ _=w5 at*
 obtain⟨_,c0,c1,c2,c3,c4⟩:=HI.out.stepAt
 simp only[Nat.zero_add]at c0 c1 c2 c3 c4
 have g1:=HI.out.cells.ws k hk
 have hlt:=HI.out.cells.lt
 simp only[hhs,zbq,if_true]at g1
 go_quiet ((go_at_call 57;exact Calls.quiet_of_same (HWR.out _)))
 go_wp2_with fail
 have H6:Hid (zbu base w S D G pw t (zat (fun _=>Th.no base) 0 (Th.st base w.heap.size ⟨3,(k:Int),at_,many,text⟩)) (w5.drewN nq)):=HI.out.after (below_drewN (Below.refl _ _) nq)
 generalize w5.drewN nq=w6 at*
 clear HI c0 c1 c2 c3 c4 g1 hlt
 obtain⟨_,c0,c1,c2,c3,c4⟩:=H6.out.stepAt
 simp only[Nat.zero_add]at c0 c1 c2 c3 c4
 have g1:=H6.out.cells.ws k hk
 have hlt:=H6.out.cells.lt
 simp only[hhs,zbq,if_true]at g1
 go_quiet (fail)
 go_wp2_with fail
 have H7:Hid (zbu base w S D G pw t (zat (fun _=>Th.no base) 0 (Th.st base w.heap.size ⟨3,(k:Int),at_,many,text⟩)) (w6.drewN nq)):=H6.out.after (below_drewN (Below.refl _ _) nq)
 generalize w6.drewN nq=w7 at*
 clear H6 c0 c1 c2 c3 c4 g1 hlt hhs
 obtain⟨T,bv,ov,hq,hs⟩:=H7.out.wr hk HE.out
 refine(qg3 hq (by have:=HO.out.few;omega) HO.out.top ⟨2,0,0,0,at_,many,⟨#[]⟩⟩ HZ.out).mono ?_
 rintro e w8 ⟨rfl,hb⟩
 have H9:Hid (zbu base w S D G pw t (zat (fun _=>Th.no base) 0 (Th.st base w.heap.size ⟨3,(k:Int),at_,many,text⟩)) (w8.alloc zObj)):=(H7.out.after hb).after (za2 w8 zObj)
 clear hb hs hq H7
 obtain⟨cq,hcq⟩:∃c,doC (zaj r.base r.opens) (zev ⟨2,0,0,0,at_,many,⟨#[]⟩⟩ r.me r.next r.seen) za3=c:=⟨_,rfl⟩
 have HCQ:Hid (doC r.list ⟨2,r.me,r.next,r.seen,at_,many,⟨#[]⟩⟩ za3=cq):=hcq
 rw[hcq]
 clear hcq
 go_wp2_with fail
 go_ret
 exact⟨by rw[HCQ.out];rfl,H9.out.done HL.out⟩
theorem tsend_no(h:zke base D G pw t w S){tk:Int->List (List Ch)}(hr:TR t tk)(x:Tst){k:Nat}(hk:k<4){r:Wr}(he:t.ws k=some r)(hxw:x.w=k)(hkd:x.kind=4)(hn:r.opens[r.sent]? =none):
 Calls Tryz.prog 56 #[.pointer (some ⟨D,0,none⟩),tsV x] w fun e w'=>e= .returned (.int .i64 5)/\zkd base w S D G pw t w':=by
 have HI:=hid (h.start.step x 0)
 have HL:=hid h.held
 have HR:=hid hr
 have HN:Hid (r.sent=r.opens.length):=by
  obtain⟨_,c,hi⟩:=hr.ti.wi _ r he
  have h1:=List.getElem?_eq_none_iff.1 hn
  have h2:=hi.sent
  show r.sent=r.opens.length
  omega
 clear hn
 have HE:=hid he
 have HO:=hid (zbg hr he)
 have hhs:zbo t k=true:=by unfold zbo;rw[he];rfl
 clear he
 obtain⟨kind,w_,at_,many,text⟩:=x
 clear h hr
 obtain rfl:w_=(k:Int):=hxw
 obtain rfl:kind=4:=hkd
 have hk4:(k:Int)<4:=by omega
 have HWR:Hid (∀w:World,Calls Tryz.prog 57 #[.int .i64 k] w fun e w'=>e= .returned (.bool true)/\w'=w):=fun w=>by have:=za8 k w;rw[show wrB (k:Int)=true by simp[wrB];omega]at this;exact this
 go_enter Tryz.func56,Tryz.ntmps56
 go_wp2_with fail
 generalize World.alloc _ _=w5 at*
 obtain⟨_,c0,c1,c2,c3,c4⟩:=HI.out.stepAt
 simp only[Nat.zero_add]at c0 c1 c2 c3 c4
 have g1:=HI.out.cells.ws k hk
 have hlt:=HI.out.cells.lt
 simp only[hhs,zbq,if_true]at g1
 go_quiet ((go_at_call 57;exact Calls.quiet_of_same (HWR.out _)))
 go_wp2_with fail
 have H6:Hid (zbu base w S D G pw t (zat (fun _=>Th.no base) 0 (Th.st base w.heap.size ⟨4,(k:Int),at_,many,text⟩)) (w5.drewN nq)):=HI.out.after (below_drewN (Below.refl _ _) nq)
 generalize w5.drewN nq=w6 at*
 clear HI c0 c1 c2 c3 c4 g1 hlt
 obtain⟨_,c0,c1,c2,c3,c4⟩:=H6.out.stepAt
 simp only[Nat.zero_add]at c0 c1 c2 c3 c4
 have g1:=H6.out.cells.ws k hk
 have hlt:=H6.out.cells.lt
 simp only[hhs,zbq,if_true]at g1
 go_quiet (fail)
 go_wp2_with fail
 have H7:Hid (zbu base w S D G pw t (zat (fun _=>Th.no base) 0 (Th.st base w.heap.size ⟨4,(k:Int),at_,many,text⟩)) (w6.drewN nq)):=H6.out.after (below_drewN (Below.refl _ _) nq)
 generalize w6.drewN nq=w7 at*
 clear H6 c0 c1 c2 c3 c4 g1 hlt hhs
 obtain⟨T,bv,ov,hq,_⟩:=H7.out.wr hk HE.out
 refine(zwk hq HN.out).mono ?_
 rintro e w8 ⟨rfl,hb⟩
 have H9:=hid ((H7.out.after hb).after (za2 w8 zObj))
 clear hb hq H7
 go_wp2_with fail
 go_ret
 exact⟨rfl,H9.out.done HL.out⟩
theorem zbu.dbox{E j:Nat}{ex:Nat->Th base}{w0 wk:World}{d:Dd}(h:zbu base w0 S D G pw t (zat ex j (Th.dd base E d)) wk):DLog D G wk/\zdq wk E 0 d:=⟨h.dlog,h.deedAt.1⟩
theorem zmy{tk:Int->List (List Ch)}(h:TR t tk){k:Int}{r:Wr}(he:t.ws k=some r){n:Nat}{d:Dd}(hd:r.opens[n]? =some d): -9223372036854775808<=d.no/\d.no<=9223372036854775807:=by
 obtain⟨hl,rfl⟩:=List.getElem?_eq_some_iff.1 hd
 have h1:=(zbg h he).top.ok n hl
 have h2:=zah (zv6 h1).1
 omega
theorem qcw(h:zke base D G pw t w S){tk:Int->List (List Ch)}(hr:TR t tk)(x:Tst){k:Nat}(hk:k<4){r:Wr}(he:t.ws k=some r)(hxw:x.w=k)(hkd:x.kind=4){d:Dd}(hn:r.opens[r.sent]? =some d)(hcc:za6 t.b d=0):
 Calls Tryz.prog 56 #[.pointer (some ⟨D,0,none⟩),tsV x] w fun e w'=>e= .returned (.int .i64 0)/\zkd base w S D G pw ⟨zb9 t.b d,zai t.ws k (some (zfm r))⟩ w':=by
 have HI:=hid (h.start.step x 0)
 have HL:=hid h.held
 have HR:=hid hr
 obtain⟨hlt0,hde⟩:=List.getElem?_eq_some_iff.1 hn
 have HDE:=hid hde
 have HCC:=hid hcc
 have HNO:=hid (zmy hr he hn)
 clear hn hde hcc
 have HE:=hid he
 have HO:=hid (zbg hr he)
 have hhs:zbo t k=true:=by unfold zbo;rw[he];rfl
 clear he
 obtain⟨kind,w_,at_,many,text⟩:=x
 clear h hr
 obtain rfl:w_=(k:Int):=hxw
 obtain rfl:kind=4:=hkd
 have hk4:(k:Int)<4:=by omega
 have HWR:Hid (∀w:World,Calls Tryz.prog 57 #[.int .i64 k] w fun e w'=>e= .returned (.bool true)/\w'=w):=fun w=>by have:=za8 k w;rw[show wrB (k:Int)=true by simp[wrB];omega]at this;exact this
 go_enter Tryz.func56,Tryz.ntmps56
 go_wp2_with fail
 generalize World.alloc _ _=w5 at*
 obtain⟨_,c0,c1,c2,c3,c4⟩:=HI.out.stepAt
 simp only[Nat.zero_add]at c0 c1 c2 c3 c4
 have g1:=HI.out.cells.ws k hk
 have hlt:=HI.out.cells.lt
 simp only[hhs,zbq,if_true]at g1
 go_quiet ((go_at_call 57;exact Calls.quiet_of_same (HWR.out _)))
 go_wp2_with fail
 have H6:Hid (zbu base w S D G pw t (zat (fun _=>Th.no base) 0 (Th.st base w.heap.size ⟨4,(k:Int),at_,many,text⟩)) (w5.drewN nq)):=HI.out.after (below_drewN (Below.refl _ _) nq)
 generalize w5.drewN nq=w6 at*
 clear HI c0 c1 c2 c3 c4 g1 hlt
 obtain⟨_,c0,c1,c2,c3,c4⟩:=H6.out.stepAt
 simp only[Nat.zero_add]at c0 c1 c2 c3 c4
 have g1:=H6.out.cells.ws k hk
 have hlt:=H6.out.cells.lt
 simp only[hhs,zbq,if_true]at g1
 go_quiet (fail)
 go_wp2_with fail
 have H7:Hid (zbu base w S D G pw t (zat (fun _=>Th.no base) 0 (Th.st base w.heap.size ⟨4,(k:Int),at_,many,text⟩)) (w6.drewN nq)):=H6.out.after (below_drewN (Below.refl _ _) nq)
 generalize w6.drewN nq=w7 at*
 clear H6 c0 c1 c2 c3 c4 g1 hlt hhs
 obtain⟨T,bv,ov,hq,hs⟩:=H7.out.wr hk HE.out
 refine(zol hq hlt0 (by have:=HO.out.few;omega)).mono ?_
 rintro e w8 ⟨rfl,hto⟩
 rw[HDE.out]
 have H8:=hid (hs (zfm r) w8 hto)
 clear hto hs hq H7 HDE hlt0
 go_wp2_with fail
 have H9:=hid (H8.out.deed d 1)
 generalize World.alloc _ _=w9 at*
 generalize w8.heap.size=E at*
 clear H8
 refine wrs (fun wk=>DLog D G wk/\zdq wk E 0 d) (fun i=>i==5) (fun wk=>zbu base w S D G pw ⟨t.b,zai t.ws k (some (zfm r))⟩ (zat (zat (fun _=>Th.no base) 0 (Th.st base w.heap.size ⟨4,(k:Int),at_,many,text⟩)) 1 (Th.dd base E d)) wk) (by kernel_rfl) (by kernel_rfl) (by kernel_rfl) (fun _ h=>h.dbox) (H9.out.after (Below.refl _ _).drew) ?_
 refine za0 (some 123) w (.pointer (some ⟨D,0,none⟩)) (.tmp 0) (.pointer (some ⟨D,0,none⟩)) ?_ ?_
 ·intros;go_simp
 go_big_quiet_op
 refine za0 (some 124) w (.pointer (some ⟨D,0,none⟩)) (.tmp 123) (.pointer (some ⟨D,0,none⟩)) ?_ ?_
 ·intros;go_simp
 go_big_quiet_op
 refine za0 (some 125) w (.pointer (some ⟨D,0,none⟩)) (.tmp 124) (.pointer (some ⟨D,0,none⟩)) ?_ ?_
 ·intros;go_simp
 go_big_quiet_op
 refine za0 (some 126) w (.pointer (some ⟨G,0,none⟩)) (.tmp 125) (.pointer (some ⟨D,0,none⟩)) (fun wk hwk ρ s125=> ?_) ?_
 ·have g0:=hwk.1.2
  have hlt:=hwk.1.1
  go_simp
 go_big_quiet_op
 refine za0 (some 127) w (ddV d) (.tmp 12) (.pointer (some ⟨E,0,none⟩)) (fun wk hwk ρ s12=> ?_) ?_
 ·obtain⟨_,c0,c1,c2,c3,c4,c5,c6⟩:=hwk.2
  simp only[Nat.zero_add]at c0 c1 c2 c3 c4 c5 c6
  go_simp
 go_big_quiet_op
 refine zac (some 128) w rfl rfl rfl (fun u=>u= .tuple #[.int .i64 (zar t.b d),.int .i64 (za6 t.b d)]) (fun u wk=>zbu base w S D G pw ⟨zb9 t.b d,zai t.ws k (some (zfm r))⟩ (zat (zat (fun _=>Th.no base) 0 (Th.st base w.heap.size ⟨4,(k:Int),at_,many,text⟩)) 1 (Th.dd base E d)) wk) (⟨_,rfl⟩) (fun _ _ h=>h.dbox) (fun wk hwk=> ?_) (fun u9 hu9=> ?_)
 ·generalize hA:Act.eval _=ρ
  have s126:ρ (.tmp 126)= .pointer (some ⟨G,0,none⟩):=by rw[<-hA];kernel_rfl
  have s127:ρ (.tmp 127)=ddV d:=by rw[<-hA];kernel_rfl
  have sf:ρ (.func 96)= .func (.func 96) #[] #[]:=by rw[<-hA];kernel_rfl
  clear hA
  go_simp
  obtain⟨T,dv,hl,hs⟩:=hwk.book
  refine(qdo hl HR.out.ti.good d HNO.out.1 HNO.out.2).mono ?_
  rintro e w7 ⟨rfl,hto⟩
  exact⟨_,rfl,rfl,hs _ _ hto⟩
 subst hu9
 go_big_quiet_op
 refine za0 (some 122) w (.tuple #[.int .i64 (zar t.b d),.int .i64 (za6 t.b d)]) (.tmp 128) (.tuple #[.int .i64 (zar t.b d),.int .i64 (za6 t.b d)]) ?_ ?_
 ·intros;go_simp
 go_big_quiet_op
 refine za0 (some 129) w (.int .i64 (zar t.b d)) (.tmp 122) (.tuple #[.int .i64 (zar t.b d),.int .i64 (za6 t.b d)]) ?_ ?_
 ·intros;go_simp
 go_big_quiet_op
 refine za0 (some 130) w (.int .i64 (za6 t.b d)) (.tmp 122) (.tuple #[.int .i64 (zar t.b d),.int .i64 (za6 t.b d)]) ?_ ?_
 ·intros;go_simp
 go_big_quiet_op
 refine za0 (some 14) w (.int .i64 (zar t.b d)) (.tmp 129) (.int .i64 (zar t.b d)) ?_ ?_
 ·intros;go_simp
 go_big_quiet_op
 refine za0 (some 15) w (.int .i64 (za6 t.b d)) (.tmp 130) (.int .i64 (za6 t.b d)) ?_ ?_
 ·intros;go_simp
 go_big_quiet_op
 refine wsn (fun w10 hw10=> ?_)
 have H10:=hid hw10
 clear hw10 H9
 rw[HCC.out]
 go_wp2_with fail
 go_ret
 exact⟨rfl,H10.out.done HL.out⟩
theorem qcx(h:zke base D G pw t w S){tk:Int->List (List Ch)}(hr:TR t tk)(x:Tst){k:Nat}(hk:k<4){r:Wr}(he:t.ws k=some r)(hxw:x.w=k)(hkd:x.kind=4){d:Dd}(hn:r.opens[r.sent]? =some d)(hcc:za6 t.b d≠0):
 Calls Tryz.prog 56 #[.pointer (some ⟨D,0,none⟩),tsV x] w fun e w'=>e= .returned (.int .i64 (za6 t.b d))/\zkd base w S D G pw (zdu t k) w':=by
 have HI:=hid (h.start.step x 0)
 have HL:=hid h.held
 have HR:=hid hr
 obtain⟨hlt0,hde⟩:=List.getElem?_eq_some_iff.1 hn
 have HDE:=hid hde
 have HCC:=hid hcc
 have HNO:=hid (zmy hr he hn)
 clear hn hde hcc
 have HE:=hid he
 have HO:=hid (zbg hr he)
 have hhs:zbo t k=true:=by unfold zbo;rw[he];rfl
 clear he
 obtain⟨kind,w_,at_,many,text⟩:=x
 clear h hr
 obtain rfl:w_=(k:Int):=hxw
 obtain rfl:kind=4:=hkd
 have hk4:(k:Int)<4:=by omega
 have HWR:Hid (∀w:World,Calls Tryz.prog 57 #[.int .i64 k] w fun e w'=>e= .returned (.bool true)/\w'=w):=fun w=>by have:=za8 k w;rw[show wrB (k:Int)=true by simp[wrB];omega]at this;exact this
 go_enter Tryz.func56,Tryz.ntmps56
 go_wp2_with fail
 generalize World.alloc _ _=w5 at*
 obtain⟨_,c0,c1,c2,c3,c4⟩:=HI.out.stepAt
 simp only[Nat.zero_add]at c0 c1 c2 c3 c4
 have g1:=HI.out.cells.ws k hk
 have hlt:=HI.out.cells.lt
 simp only[hhs,zbq,if_true]at g1
 go_quiet ((go_at_call 57;exact Calls.quiet_of_same (HWR.out _)))
 go_wp2_with fail
 have H6:Hid (zbu base w S D G pw t (zat (fun _=>Th.no base) 0 (Th.st base w.heap.size ⟨4,(k:Int),at_,many,text⟩)) (w5.drewN nq)):=HI.out.after (below_drewN (Below.refl _ _) nq)
 generalize w5.drewN nq=w6 at*
 clear HI c0 c1 c2 c3 c4 g1 hlt
 obtain⟨_,c0,c1,c2,c3,c4⟩:=H6.out.stepAt
 simp only[Nat.zero_add]at c0 c1 c2 c3 c4
 have g1:=H6.out.cells.ws k hk
 have hlt:=H6.out.cells.lt
 simp only[hhs,zbq,if_true]at g1
 go_quiet (fail)
 go_wp2_with fail
 have H7:Hid (zbu base w S D G pw t (zat (fun _=>Th.no base) 0 (Th.st base w.heap.size ⟨4,(k:Int),at_,many,text⟩)) (w6.drewN nq)):=H6.out.after (below_drewN (Below.refl _ _) nq)
 generalize w6.drewN nq=w7 at*
 clear H6 c0 c1 c2 c3 c4 g1 hlt hhs
 obtain⟨T,bv,ov,hq,hs⟩:=H7.out.wr hk HE.out
 refine(zol hq hlt0 (by have:=HO.out.few;omega)).mono ?_
 rintro e w8 ⟨rfl,hto⟩
 rw[HDE.out]
 have H8:=hid (hs (zfm r) w8 hto)
 clear hto hs hq H7 HDE hlt0
 go_wp2_with fail
 have H9:=hid (H8.out.deed d 1)
 generalize World.alloc _ _=w9 at*
 generalize w8.heap.size=E at*
 clear H8
 refine wrs (fun wk=>DLog D G wk/\zdq wk E 0 d) (fun i=>i==5) (fun wk=>zbu base w S D G pw ⟨t.b,zai t.ws k (some (zfm r))⟩ (zat (zat (fun _=>Th.no base) 0 (Th.st base w.heap.size ⟨4,(k:Int),at_,many,text⟩)) 1 (Th.dd base E d)) wk) (by kernel_rfl) (by kernel_rfl) (by kernel_rfl) (fun _ h=>h.dbox) (H9.out.after (Below.refl _ _).drew) ?_
 refine za0 (some 123) w (.pointer (some ⟨D,0,none⟩)) (.tmp 0) (.pointer (some ⟨D,0,none⟩)) ?_ ?_
 ·intros;go_simp
 go_big_quiet_op
 refine za0 (some 124) w (.pointer (some ⟨D,0,none⟩)) (.tmp 123) (.pointer (some ⟨D,0,none⟩)) ?_ ?_
 ·intros;go_simp
 go_big_quiet_op
 refine za0 (some 125) w (.pointer (some ⟨D,0,none⟩)) (.tmp 124) (.pointer (some ⟨D,0,none⟩)) ?_ ?_
 ·intros;go_simp
 go_big_quiet_op
 refine za0 (some 126) w (.pointer (some ⟨G,0,none⟩)) (.tmp 125) (.pointer (some ⟨D,0,none⟩)) (fun wk hwk ρ s125=> ?_) ?_
 ·have g0:=hwk.1.2
  have hlt:=hwk.1.1
  go_simp
 go_big_quiet_op
 refine za0 (some 127) w (ddV d) (.tmp 12) (.pointer (some ⟨E,0,none⟩)) (fun wk hwk ρ s12=> ?_) ?_
 ·obtain⟨_,c0,c1,c2,c3,c4,c5,c6⟩:=hwk.2
  simp only[Nat.zero_add]at c0 c1 c2 c3 c4 c5 c6
  go_simp
 go_big_quiet_op
 refine zac (some 128) w rfl rfl rfl (fun u=>u= .tuple #[.int .i64 (zar t.b d),.int .i64 (za6 t.b d)]) (fun u wk=>zbu base w S D G pw ⟨zb9 t.b d,zai t.ws k (some (zfm r))⟩ (zat (zat (fun _=>Th.no base) 0 (Th.st base w.heap.size ⟨4,(k:Int),at_,many,text⟩)) 1 (Th.dd base E d)) wk) (⟨_,rfl⟩) (fun _ _ h=>h.dbox) (fun wk hwk=> ?_) (fun u9 hu9=> ?_)
 ·generalize hA:Act.eval _=ρ
  have s126:ρ (.tmp 126)= .pointer (some ⟨G,0,none⟩):=by rw[<-hA];kernel_rfl
  have s127:ρ (.tmp 127)=ddV d:=by rw[<-hA];kernel_rfl
  have sf:ρ (.func 96)= .func (.func 96) #[] #[]:=by rw[<-hA];kernel_rfl
  clear hA
  go_simp
  obtain⟨T,dv,hl,hs⟩:=hwk.book
  refine(qdo hl HR.out.ti.good d HNO.out.1 HNO.out.2).mono ?_
  rintro e w7 ⟨rfl,hto⟩
  exact⟨_,rfl,rfl,hs _ _ hto⟩
 subst hu9
 go_big_quiet_op
 refine za0 (some 122) w (.tuple #[.int .i64 (zar t.b d),.int .i64 (za6 t.b d)]) (.tmp 128) (.tuple #[.int .i64 (zar t.b d),.int .i64 (za6 t.b d)]) ?_ ?_
 ·intros;go_simp
 go_big_quiet_op
 refine za0 (some 129) w (.int .i64 (zar t.b d)) (.tmp 122) (.tuple #[.int .i64 (zar t.b d),.int .i64 (za6 t.b d)]) ?_ ?_
 ·intros;go_simp
 go_big_quiet_op
 refine za0 (some 130) w (.int .i64 (za6 t.b d)) (.tmp 122) (.tuple #[.int .i64 (zar t.b d),.int .i64 (za6 t.b d)]) ?_ ?_
 ·intros;go_simp
 go_big_quiet_op
 refine za0 (some 14) w (.int .i64 (zar t.b d)) (.tmp 129) (.int .i64 (zar t.b d)) ?_ ?_
 ·intros;go_simp
 go_big_quiet_op
 refine za0 (some 15) w (.int .i64 (za6 t.b d)) (.tmp 130) (.int .i64 (za6 t.b d)) ?_ ?_
 ·intros;go_simp
 go_big_quiet_op
 refine wsn (fun w10 hw10=> ?_)
 have H10:=hid hw10
 clear hw10 H9
 have HB:Hid (zdu ⟨zb9 t.b d,zai t.ws k (some (zfm r))⟩ k=zdu t k):=by
  show(⟨zcp (zb9 t.b d) k,zai (zai t.ws k (some (zfm r))) k none⟩:Twn)=⟨zcp t.b k,zai t.ws k none⟩
  rw[zt1 HCC.out,zz3]
 obtain⟨c,hcq⟩:∃c,za6 t.b d=c:=⟨_,rfl⟩
 have HCQ:=hid hcq
 have hcn:¬c=0:=by rw[<-hcq];exact HCC.out
 rw[hcq]
 clear hcq
 generalize zar t.b d=m at*
 obtain⟨_,c0,c1,c2,c3,c4⟩:=H10.out.stepAt1
 simp only[Nat.zero_add]at c0 c1 c2 c3 c4
 go_wp2_with fail
 obtain⟨T,ha,hs⟩:=H10.out.call
 refine(zxs ha hk).mono ?_
 rintro e w12 ⟨rfl,hto⟩
 have H12:Hid (zbu base w S D G pw (zdu t k) (zat (zat (fun _=>Th.no base) 0 (Th.st base w.heap.size ⟨4,(k:Int),at_,many,text⟩)) 1 (Th.dd base E d)) w12):=by
  have:=hs _ _ _ hto
  rw[HB.out]at this
  exact this
 clear hto hs ha H10 c0 c1 c2 c3 c4
 go_wp2_with fail
 go_ret
 exact⟨by rw[HCQ.out];rfl,H12.out.done HL.out⟩
theorem tleave(h:zke base D G pw t w S){tk:Int->List (List Ch)}(hr:TR t tk)(x:Tst){k:Nat}(hk:k<4){r:Wr}(he:t.ws k=some r)(hxw:x.w=k)(hkd:x.kind=7):
 Calls Tryz.prog 56 #[.pointer (some ⟨D,0,none⟩),tsV x] w fun e w'=>e= .returned (.int .i64 0)/\zkd base w S D G pw (zdu t k) w':=by
 have HI:=hid (h.start.step x 0)
 have HL:=hid h.held
 have HR:=hid hr
 have HE:=hid he
 have HO:=hid (zbg hr he)
 have hhs:zbo t k=true:=by unfold zbo;rw[he];rfl
 clear he
 obtain⟨kind,w_,at_,many,text⟩:=x
 clear h hr
 obtain rfl:w_=(k:Int):=hxw
 obtain rfl:kind=7:=hkd
 have hk4:(k:Int)<4:=by omega
 have HWR:Hid (∀w:World,Calls Tryz.prog 57 #[.int .i64 k] w fun e w'=>e= .returned (.bool true)/\w'=w):=fun w=>by have:=za8 k w;rw[show wrB (k:Int)=true by simp[wrB];omega]at this;exact this
 go_enter Tryz.func56,Tryz.ntmps56
 go_wp2_with fail
 generalize World.alloc _ _=w5 at*
 obtain⟨_,c0,c1,c2,c3,c4⟩:=HI.out.stepAt
 simp only[Nat.zero_add]at c0 c1 c2 c3 c4
 have g1:=HI.out.cells.ws k hk
 have hlt:=HI.out.cells.lt
 simp only[hhs,zbq,if_true]at g1
 go_quiet ((go_at_call 57;exact Calls.quiet_of_same (HWR.out _)))
 go_wp2_with fail
 have H6:Hid (zbu base w S D G pw t (zat (fun _=>Th.no base) 0 (Th.st base w.heap.size ⟨7,(k:Int),at_,many,text⟩)) (w5.drewN nq)):=HI.out.after (below_drewN (Below.refl _ _) nq)
 generalize w5.drewN nq=w6 at*
 clear HI c0 c1 c2 c3 c4 g1 hlt
 obtain⟨_,c0,c1,c2,c3,c4⟩:=H6.out.stepAt
 simp only[Nat.zero_add]at c0 c1 c2 c3 c4
 have g1:=H6.out.cells.ws k hk
 have hlt:=H6.out.cells.lt
 simp only[hhs,zbq,if_true]at g1
 go_quiet (fail)
 go_wp2_with fail
 have H7:Hid (zbu base w S D G pw t (zat (fun _=>Th.no base) 0 (Th.st base w.heap.size ⟨7,(k:Int),at_,many,text⟩)) (w6.drewN nq)):=H6.out.after (below_drewN (Below.refl _ _) nq)
 generalize w6.drewN nq=w7 at*
 clear H6 c0 c1 c2 c3 c4 g1 hlt hhs
 obtain⟨_,c0,c1,c2,c3,c4⟩:=H7.out.stepAt
 simp only[Nat.zero_add]at c0 c1 c2 c3 c4
 go_wp2_with fail
 obtain⟨T,ha,hs⟩:=H7.out.call
 refine(zxs ha hk).mono ?_
 rintro e w12 ⟨rfl,hto⟩
 have H12:Hid (zbu base w S D G pw (zdu t k) (zat (fun _=>Th.no base) 0 (Th.st base w.heap.size ⟨7,(k:Int),at_,many,text⟩)) w12):=hs _ _ _ hto
 clear hto hs ha H7 c0 c1 c2 c3 c4
 go_wp2_with fail
 go_ret
 exact⟨rfl,H12.out.done HL.out⟩
end Go.Proofs.YtcbnnfeelhlapadGreatDoor