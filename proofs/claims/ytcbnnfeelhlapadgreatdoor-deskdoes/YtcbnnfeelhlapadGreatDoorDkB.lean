/-
  DkA, DkB.
-/
import Derived.Test.YtcbnnfeelhlapadGreatDoorDkWr
namespace Go.Proofs.YtcbnnfeelhlapadGreatDoor
set_option maxHeartbeats 3200000
set_option maxRecDepth 20000
open Go.RowKit
variable {pw:Nat->Nat} {t:Twn} {k base D G:Nat} {w wk:World} {tk:Int->List (List Ch)} {S:Nat->Prop}
abbrev zkx(G:Nat):Array Value:= #[.pointer (some ⟨G,0,none⟩),.pointer none,.pointer none,.pointer none,.pointer none]
theorem qcu(w:World)(G:Nat):TwC (w.alloc (.cells (zkx G) 59)) w.heap.size G (fun _=>0) (zbo zpz):=by
 refine⟨by simp,by simp[go_sem],fun k hk=> ?_,fun o ho=> ?_⟩
 ·rcases(show k=0\/k=1\/k=2\/k=3 by omega)with rfl|rfl|rfl|rfl<;>simp[go_sem,zbo,zpz,zbq]
 rcases(show o=0\/o=1\/o=2\/o=3\/o=4 by omega)with rfl|rfl|rfl|rfl|rfl<;>simp[go_sem]
theorem new_dk(w:World):Calls Tryz.prog 12 #[] w fun e w'=>e= .returned (.pointer (some ⟨w.heap.size+1,0,none⟩))/\w'=(w.alloc (.cells logZ 104)).alloc (.cells (zkx w.heap.size) 59):=by
 go_enter Tryz.func12,Tryz.ntmps12
 go_wp2_with fail
 refine(newL_lg w).mono ?_
 rintro e w1 ⟨rfl,rfl⟩
 go_wp2
 go_ret
 exact⟨by simp,rfl⟩
def zhv(pw:Nat->Nat)(hs:Nat->Bool)(n:Int):Value:=if wrB n=true then zbq (hs n.toNat) (pw n.toNat)else .pointer none
theorem qgb(hk:k<4){r:Wr}(he:t.ws k=some r):zhv pw (zbo t) k= .pointer (some ⟨pw k,0,none⟩):=by
 have hw:wrB (k:Int)=true:=by simp[wrB];omega
 rw[zhv,if_pos hw]
 have:zbo t (k:Int).toNat=true:=by unfold zbo;rw[Int.toNat_natCast,he];rfl
 rw[zbq,if_pos this,Int.toNat_natCast]
theorem qgc{n:Int}(he:t.ws n=none):zhv pw (zbo t) n= .pointer none:=by
 unfold zhv
 split
 ·rename_i hw
  have hw':0<=n/\n<=3:=by simpa [wrB]using hw
  have:zbo t n.toNat=false:=by unfold zbo;rw[show((n.toNat:Nat):Int)=n by omega,he];rfl
  rw[zbq,this];rfl
 rfl
theorem zo2{w:World}{D G:Nat}{pw:Nat->Nat}{hs:Nat->Bool}(h:TwC w D G pw hs)(n:Int):
 Calls Tryz.prog 66 #[.pointer (some ⟨D,0,none⟩),.int .i64 n] w fun e w'=>e= .returned (zhv pw hs n)/\w'=w:=by
 have HA:=hid h
 cases hw:wrB n with
 |false=>
  have HP:Hid (zhv pw hs n= .pointer none):=by show zhv pw hs n=_;rw[zhv,if_neg (by rw[hw];simp)]
  clear h
  go_enter Tryz.func66,Tryz.ntmps66
  go_wp2_with (go_at_call 116;refine(zbj _ _).mono ?_;rintro e w' ⟨rfl,rfl⟩;rw[hw])
  go_ret
  exact⟨by rw[HP.out];rfl,rfl⟩
 |true=>
  obtain⟨j,rfl,hj⟩:=zc1 hw
  have HP:Hid (zhv pw hs (j:Int)=zbq (hs j) (pw j)):=by show zhv pw hs j=_;rw[zhv,if_pos hw,Int.toNat_natCast]
  have c1:=h.ws j hj
  have hlt:=h.lt
  generalize zbq (hs j) (pw j)=v at*
  clear h
  go_enter Tryz.func66,Tryz.ntmps66
  go_wp2_with (go_at_call 116;refine(zbj _ _).mono ?_;rintro e w' ⟨rfl,rfl⟩;rw[hw])
  go_ret
  exact⟨by rw[HP.out];rfl,rfl⟩
theorem zxl(h:zil base D G pw t tk w S){k:Nat}(hk:k<4):
 Calls Tryz.prog 123 #[.pointer (some ⟨D,0,none⟩),.int .i64 (k:Int)] w fun e w'=>e= .returned (.tuple #[])/\zhe base w S D G pw (zdu t k) tk w':=by
 have HI:=hid h.start
 have HL:=hid h.held
 have g0:=HI.out.cells.book
 have hlt:=HI.out.cells.lt
 have hk4:(k:Int)<4:=by omega
 clear h
 go_enter Tryz.func123,Tryz.ntmps123
 go_wp2_with fail
 obtain⟨T,dv,lv,hl,hs⟩:=HI.out.log
 refine(leave_lg hl (k:Int)).mono ?_
 rintro e w1 ⟨rfl,hto⟩
 have H1:Hid (zbc base w S D G pw ⟨zcp t.b k,t.ws⟩ tk (fun _=>Th.no base) w1):=hs _ _ hto
 clear hto hs hl HI g0 hlt
 have H2:=hid (H1.out.clear hk)
 obtain⟨u1,c1⟩:∃u,w1.cell? ⟨D,1+k,none⟩=some u:=⟨_,H1.out.cells.ws k hk⟩
 have f1:=H1.out.cells.free (1+k) (by omega)
 have hlt:=H1.out.cells.lt
 clear H1
 go_wp2_with fail
 go_end0
 exact⟨rfl,H2.out.done HL.out⟩
theorem qbf(h:zil base D G pw t tk w S)(hr:TR t tk)(n:Int)(hc:zde t.b n≠0):
 Calls Tryz.prog 65 #[.pointer (some ⟨D,0,none⟩),.int .i64 n] w fun e w'=>e= .returned (.int .i64 (zde t.b n))/\zhe base w S D G pw t tk w':=by
 have HI:=hid h.start
 have HL:=hid h.held
 have HR:=hid hr
 have HB:=hid (zme hc)
 have g0:=HI.out.cells.book
 have hlt:=HI.out.cells.lt
 have HC:=hid hc
 clear h hr hc
 go_enter Tryz.func65,Tryz.ntmps65
 go_wp2_with fail
 obtain⟨T,dv,lv,hl,hs⟩:=HI.out.log
 refine(qff hl HR.out.ti.good n).mono ?_
 rintro e w1 ⟨rfl,hto⟩
 have H1:Hid (zbc base w S D G pw t tk (fun _=>Th.no base) w1):=by have:=hs _ _ hto;rw[HB.out]at this;exact this
 clear hto hs hl HI g0 hlt
 generalize zey t.b n=m at*
 obtain⟨c,hcq⟩:∃c,zde t.b n=c:=⟨_,rfl⟩
 have HCQ:=hid hcq
 have hcn:¬c=0:=by rw[<-hcq];exact HC.out
 rw[hcq]
 clear hcq
 go_wp2_with fail
 go_ret
 exact⟨by rw[HCQ.out];rfl,H1.out.done HL.out⟩
def DLog(D G:Nat)(wk:World):Prop:=D<wk.heap.size/\wk.cell? ⟨D,0,none⟩=some (.pointer (some ⟨G,0,none⟩))
theorem zbc.dlog{ex:Nat->Th base}{w0:World}(h:zbc base w0 S D G pw t tk ex wk):DLog D G wk:=⟨h.cells.lt,h.cells.book⟩
structure JK(base:Nat)(w:World)(S:Nat->Prop)(D G:Nat)(pw:Nat->Nat)(t:Twn)(tk:Int->List (List Ch))(l:List Ch)(u:Value)(wk:World):Prop where
 di:zbc base w S D G pw t tk (fun _=>Th.no base) wk
 own:∃b0,Own wk b0 u l
structure NK(base:Nat)(w:World)(S:Nat->Prop)(D G:Nat)(pw:Nat->Nat)(t:Twn)(tk:Int->List (List Ch))(r:Wr)(u:Value)(wk:World):Prop where
 di:zbc base w S D G pw t tk (fun _=>Th.no base) wk
 new:∃P w1 v1,u= .pointer (some ⟨P,0,none⟩)/\zbc base w S D G pw t tk (fun _=>Th.no base) w1/\Below w1.heap.size w1 wk/\zd3 wk w1.heap.size (fun k=>w1.heap.size<=k/\k<wk.heap.size) P v1 (.slice none 0 0) [] r.base [] [] r.me r.next r.seen 0
theorem NK.seat{P:Nat}{r:Wr}(h:NK base w S D G pw t tk r (.pointer (some ⟨P,0,none⟩)) wk)(hk:k<4)(hr:r.opens=[])(hs:r.sent=0):
 zbc base w S D G (zq2 pw k P) ⟨t.b,zai t.ws k (some r)⟩ (zai tk k []) (fun _=>Th.no base) (wk.setCell ⟨D,1+k,none⟩ (.pointer (some ⟨P,0,none⟩))):=by
 obtain⟨P',w1,v1,he,h1,h2,h3⟩:=h.new
 obtain rfl:P=P':=by simpa using he
 exact h1.newW h2 hk hr hs h3
theorem zxa(h:zil base D G pw t tk w S)(hr:TR t tk){k:Nat}(hk:k<4)(hc:zde t.b k=0):
 Calls Tryz.prog 65 #[.pointer (some ⟨D,0,none⟩),.int .i64 (k:Int)] w fun e w'=>e= .returned (.int .i64 0)/\∃P,zhe base w S D G (zq2 pw k P) ⟨zc4 t.b k,zai t.ws k (some (newW t.b k))⟩ (zai tk k []) w':=by
 have HI:=hid h.start
 have HL:=hid h.held
 have HR:=hid hr
 have HJC:=hid hc
 have HJN:Hid (zey t.b k=t.b.last k+1):=by show zey t.b k=_;rw[zey,if_pos hc]
 have HSM:Hid ((t.b.ds.length:Int)<=120):=by have:=hr.ti.good.small;show(t.b.ds.length:Int)<=120;omega
 have HLE:Hid (t.b.chars.length<=1000):=by have:=zay (b:=t.b);show _<=_;omega
 have HN1:Hid (1<=t.b.last k+1):=by have:=(zb2 hr.ti.good k).1;show 1<=t.b.last k+1;omega
 have HCK:=hid (qbm hr.ti.good)
 have HOP:=hid (qfs hr.ti.good)
 have hk0:wrB (k:Int)=true:=by simp[wrB];omega
 have hk4:(k:Int)<4:=by omega
 have g0:=HI.out.cells.book
 have hlt:=HI.out.cells.lt
 clear h hr hc
 go_enter Tryz.func65,Tryz.ntmps65
 go_wp2_with fail
 obtain⟨T,dv,lv,hl,hs⟩:=HI.out.log
 refine(qff hl HR.out.ti.good k).mono ?_
 rintro e w1 ⟨rfl,hto⟩
 rw[HJC.out,HJN.out]
 have H1:Hid (zbc base w S D G pw ⟨zc4 t.b k,t.ws⟩ tk (fun _=>Th.no base) w1):=hs _ _ hto
 clear hto hs hl HI g0 hlt
 go_wp2_with fail
 refine wrs (fun wk=>DLog D G wk) (fun i=>i==8||i==13||i==14||i==18) (fun wk=>zbc base w S D G pw ⟨zc4 t.b k,t.ws⟩ tk (fun _=>Th.no base) wk) (by kernel_rfl) (by kernel_rfl) (by kernel_rfl) (fun _ h=>h.dlog) (H1.out.after (Below.refl _ _).drew) ?_
 refine za0 (some 19) w (.pointer (some ⟨D,0,none⟩)) (.tmp 0) (.pointer (some ⟨D,0,none⟩)) ?_ ?_
 ·intros;go_simp
 go_big_quiet_op
 refine za0 (some 20) w (.int .i64 (k:Int)) (.tmp 1) (.int .i64 (k:Int)) ?_ ?_
 ·intros;go_simp
 go_big_quiet_op
 refine za0 (some 21) w (.int .i64 (k:Int)) (.tmp 1) (.int .i64 (k:Int)) ?_ ?_
 ·intros;go_simp
 go_big_quiet_op
 refine za0 (some 22) w (.int .i64 (t.b.last k+1)) (.tmp 5) (.int .i64 (t.b.last k+1)) ?_ ?_
 ·intros;go_simp
 go_big_quiet_op
 refine za0 (some 23) w (.pointer (some ⟨D,0,none⟩)) (.tmp 0) (.pointer (some ⟨D,0,none⟩)) ?_ ?_
 ·intros;go_simp
 go_big_quiet_op
 refine za0 (some 24) w (.pointer (some ⟨D,0,none⟩)) (.tmp 23) (.pointer (some ⟨D,0,none⟩)) ?_ ?_
 ·intros;go_simp
 go_big_quiet_op
 refine za0 (some 25) w (.pointer (some ⟨D,0,none⟩)) (.tmp 24) (.pointer (some ⟨D,0,none⟩)) ?_ ?_
 ·intros;go_simp
 go_big_quiet_op
 refine za0 (some 26) w (.pointer (some ⟨G,0,none⟩)) (.tmp 25) (.pointer (some ⟨D,0,none⟩)) (fun wk hwk ρ s25=> ?_) ?_
 ·have g0:=hwk.2
  have hlt:=hwk.1
  go_simp
 go_big_quiet_op
 refine zac (some 27) w rfl rfl rfl (fun u=>u= .int .i64 ((t.b.ds.length:Int))) (fun u wk=>zbc base w S D G pw ⟨zc4 t.b k,t.ws⟩ tk (fun _=>Th.no base) wk) (⟨_,rfl⟩) (fun _ _ h=>h.dlog) (fun wk hwk=> ?_) (fun u8 hu8=> ?_)
 ·generalize hA:Act.eval _=ρ
  have s26:ρ (.tmp 26)= .pointer (some ⟨G,0,none⟩):=by rw[<-hA];kernel_rfl
  have sf:ρ (.func 85)= .func (.func 85) #[] #[]:=by rw[<-hA];kernel_rfl
  clear hA
  go_simp
  obtain⟨T,dv,lv,hl,_⟩:=hwk.log
  refine(zir hl).mono ?_
  rintro e w7 ⟨rfl,rfl⟩
  exact⟨_,rfl,by rw[show(Twn.b (⟨zc4 t.b k,t.ws⟩:Twn)).ds=t.b.ds from zsr _ _],hwk⟩
 subst hu8
 go_big_quiet_op
 refine za0 (some 28) w (.pointer (some ⟨D,0,none⟩)) (.tmp 0) (.pointer (some ⟨D,0,none⟩)) ?_ ?_
 ·intros;go_simp
 go_big_quiet_op
 refine za0 (some 29) w (.pointer (some ⟨D,0,none⟩)) (.tmp 28) (.pointer (some ⟨D,0,none⟩)) ?_ ?_
 ·intros;go_simp
 go_big_quiet_op
 refine za0 (some 30) w (.pointer (some ⟨D,0,none⟩)) (.tmp 29) (.pointer (some ⟨D,0,none⟩)) ?_ ?_
 ·intros;go_simp
 go_big_quiet_op
 refine za0 (some 31) w (.pointer (some ⟨G,0,none⟩)) (.tmp 30) (.pointer (some ⟨D,0,none⟩)) (fun wk hwk ρ s30=> ?_) ?_
 ·have g0:=hwk.2
  have hlt:=hwk.1
  go_simp
 go_big_quiet_op
 refine zac (some 32) w rfl rfl rfl (fun u=>True) (fun u wk=>JK base w S D G pw ⟨zc4 t.b k,t.ws⟩ tk t.b.chars u wk) (⟨undef,trivial⟩) (fun _ _ h=>h.di.dlog) (fun wk hwk=> ?_) (fun u13 hu13=> ?_)
 ·generalize hA:Act.eval _=ρ
  have s31:ρ (.tmp 31)= .pointer (some ⟨G,0,none⟩):=by rw[<-hA];kernel_rfl
  have sf:ρ (.func 115)= .func (.func 115) #[] #[]:=by rw[<-hA];kernel_rfl
  clear hA
  go_simp
  obtain⟨T,dv,lv,hl,_⟩:=hwk.log
  refine(zzz hl).mono ?_
  rintro e w7 ⟨v7,rfl,hown,hb⟩
  rw[show(Twn.b (⟨zc4 t.b k,t.ws⟩:Twn)).chars=t.b.chars from zp6 _ _]at hown
  exact⟨_,rfl,hwk.after hb,_,hown⟩
 clear hu13
 go_big_quiet_op
 refine zac (some 33) w rfl rfl rfl (fun u=>∃P,u= .pointer (some ⟨P,0,none⟩)) (fun u wk=>NK base w S D G pw ⟨zc4 t.b k,t.ws⟩ tk (newW t.b k) u wk) (⟨.pointer (some ⟨0,0,none⟩),0,rfl⟩) (fun _ _ h=>h.di.dlog) (fun wk hwk=> ?_) (fun u14 hu14=> ?_)
 ·generalize hA:Act.eval _=ρ
  have s21:ρ (.tmp 21)= .int .i64 (k:Int):=by rw[<-hA];kernel_rfl
  have s22:ρ (.tmp 22)= .int .i64 (t.b.last k+1):=by rw[<-hA];kernel_rfl
  have s27:ρ (.tmp 27)= .int .i64 ((t.b.ds.length:Int)):=by rw[<-hA];kernel_rfl
  have s32:ρ (.tmp 32)=u13:=by rw[<-hA];kernel_rfl
  have sf:ρ (.func 114)= .func (.func 114) #[] #[]:=by rw[<-hA];kernel_rfl
  clear hA
  go_simp
  obtain⟨b0,hown⟩:=hwk.own
  refine(new_pw hown.lst HLE.out k (t.b.last k+1) t.b.ds.length hk0 HN1.out (by omega) HSM.out HCK.out HOP.out).mono ?_
  rintro e w7 ⟨P,v1,rfl,hat,hb⟩
  exact⟨_,rfl,⟨P,rfl⟩,hwk.di.after hb,P,wk,v1,rfl,hwk.di,hb,hat⟩
 obtain⟨P,rfl⟩:=hu14
 go_big_quiet_op
 refine za0 (some 34) w (.pointer (some ⟨D,0,none⟩)) (.tmp 19) (.pointer (some ⟨D,0,none⟩)) ?_ ?_
 ·intros;go_simp
 go_big_quiet_op
 refine za0 (some 35) w (.pointer (some ⟨D,1,none⟩)) (.tmp 34) (.pointer (some ⟨D,0,none⟩)) ?_ ?_
 ·intros;go_simp
 go_big_quiet_op
 refine wsb (some 36) w rfl (.pointer (some ⟨D,1+k,none⟩)) rfl (by kernel_rfl) (fun wk hwk=> ?_) ?_
 ·generalize hA:Act.eval _=ρ
  have s35:ρ (.tmp 35)= .pointer (some ⟨D,1,none⟩):=by rw[<-hA];kernel_rfl
  have s20:ρ (.tmp 20)= .int .i64 (k:Int):=by rw[<-hA];kernel_rfl
  clear hA
  go_simp
 go_big_quiet_op
 refine zim rfl rfl rfl (fun wk=>zbc base w S D G (zq2 pw k P) ⟨zc4 t.b k,zai t.ws k (some (newW t.b k))⟩ (zai tk k []) (fun _=>Th.no base) wk) (fun _ h=>h.dlog) (fun wk hwk=> ?_) ?_
 ·generalize hA:Act.eval _=ρ
  have s36:ρ (.tmp 36)= .pointer (some ⟨D,1+k,none⟩):=by rw[<-hA];kernel_rfl
  have s33:ρ (.tmp 33)= .pointer (some ⟨P,0,none⟩):=by rw[<-hA];kernel_rfl
  clear hA
  have hq:=hwk.seat hk rfl rfl
  obtain⟨u1,cc⟩:∃u,wk.cell? ⟨D,1+k,none⟩=some u:=⟨_,hwk.di.cells.ws k hk⟩
  have ff:=hwk.di.cells.free (1+k) (by omega)
  have hlt:=hwk.di.cells.lt
  go_simp
  exact hq
 refine wsn (fun w9 hw9=> ?_)
 have H9:=hid hw9
 clear hw9 H1
 go_wp2_with fail
 go_ret
 exact⟨rfl,P,H9.out.done HL.out⟩
variable {base D G:Nat} {pw:Nat->Nat} {t:Twn} {tk:Int->List (List Ch)} {w0 w:World} {S:Nat->Prop}
def DBox(D G E:Nat)(d:Dd)(wk:World):Prop:=DLog D G wk/\zdq wk E 0 d
theorem zbc.dbox{E j:Nat}{ex:Nat->Th base}{wk:World}{d:Dd}(h:zbc base w0 S D G pw t tk (zat ex j (Th.dd base E d)) wk):DBox D G E d wk:=⟨h.dlog,h.deedAt.1⟩
theorem zbc.shut{ex:Nat->Th base}:Shut (fun wk=>zbc base w0 S D G pw t tk ex wk):=fun _ _ h hb=>h.after hb
theorem qau(h:zil base D G pw t tk w S)(hr:TR t tk){k:Nat}(hk:k<4){r:Wr}(he:t.ws k=some r)(hn:r.opens[r.sent]? =none):
 Calls Tryz.prog 119 #[.pointer (some ⟨D,0,none⟩),.int .i64 (k:Int)] w fun e w'=>e= .returned (.int .i64 5)/\zhe base w S D G pw t tk w':=by
 have HI:=hid h.start
 have HL:=hid h.held
 have HR:=hid hr
 have HE:=hid he
 have HO:=hid (zbg hr he)
 have g0:=HI.out.cells.book
 have hlt:=HI.out.cells.lt
 have g1:=HI.out.cells.ws k hk
 have hhs:zbo t k=true:=by unfold zbo;rw[he];rfl
 have hk4:(k:Int)<4:=by omega
 simp only[hhs,zbq,if_true]at g1
 have HN:Hid (r.sent=r.opens.length):=by
  obtain⟨_,c,hi⟩:=hr.ti.wi _ r he
  have h1:=List.getElem?_eq_none_iff.1 hn
  have h2:=hi.sent
  show r.sent=r.opens.length
  omega
 clear h hr he hn hhs
 go_enter Tryz.func119,Tryz.ntmps119
 go_wp2_with fail
 obtain⟨T,lv,ov,tvs,hp,_⟩:=HI.out.wr hk HE.out
 refine(qe4 hp HN.out).mono ?_
 rintro e w1 ⟨rfl,hb⟩
 have H1:Hid (zbc base w S D G pw t tk (fun _=>Th.no base) (w1.alloc zObj)):=(HI.out.after hb).after (za2 _ zObj)
 clear hb hp HI g0 g1 hlt
 go_wp2_with fail
 go_ret
 exact⟨rfl,H1.out.done HL.out⟩
theorem zwh(h:zil base D G pw t tk w S)(hr:TR t tk){k:Nat}(hk:k<4){r:Wr}(he:t.ws k=some r){d:Dd}(hn:r.opens[r.sent]? =some d)(hcc:za6 t.b d=0):
 Calls Tryz.prog 119 #[.pointer (some ⟨D,0,none⟩),.int .i64 (k:Int)] w fun e w'=>e= .returned (.int .i64 0)/\zhe base w S D G pw ⟨zb9 t.b d,zai t.ws k (some (zfm r))⟩ tk w':=by
 have HI:=hid h.start
 have HL:=hid h.held
 have HR:=hid hr
 have HE:=hid he
 have HO:=hid (zbg hr he)
 have g0:=HI.out.cells.book
 have hlt:=HI.out.cells.lt
 have g1:=HI.out.cells.ws k hk
 have hhs:zbo t k=true:=by unfold zbo;rw[he];rfl
 have hk4:(k:Int)<4:=by omega
 simp only[hhs,zbq,if_true]at g1
 obtain⟨hlt0,hde⟩:=List.getElem?_eq_some_iff.1 hn
 have HDE:=hid hde
 have HCC:=hid hcc
 have HTK:=hid (zhl tk k)
 clear h hr he hn hhs hde hcc
 go_enter Tryz.func119,Tryz.ntmps119
 go_wp2_with fail
 obtain⟨T,lv,ov,tvs,hp,hs⟩:=HI.out.wr hk HE.out
 refine(zu4 hp hlt0 (by have:=HO.out.few;omega)).mono ?_
 rintro e w1 ⟨rfl,hto⟩
 rw[HDE.out]
 have H1:Hid (zbc base w S D G pw ⟨t.b,zai t.ws k (some (zfm r))⟩ tk (fun _=>Th.no base) w1):=by
  have:=hs (zfm r) (tk k) w1 hto
  rw[HTK.out]at this
  exact this
 clear hto hs hp HI g0 g1 hlt HDE hlt0
 go_wp2_with fail
 have H2:=hid (H1.out.deed d 0)
 generalize World.alloc _ _=w2 at*
 generalize w1.heap.size=E at*
 clear H1
 refine wrs (fun wk=>DBox D G E d wk) (fun i=>i==5) (fun wk=>zbc base w S D G pw ⟨t.b,zai t.ws k (some (zfm r))⟩ tk (zat (fun _=>Th.no base) 0 (Th.dd base E d)) wk) (by kernel_rfl) (by kernel_rfl) (by kernel_rfl) (fun _ h=>h.dbox) (H2.out.after (Below.refl _ _).drew) ?_
 refine za0 (some 22) w (.pointer (some ⟨D,0,none⟩)) (.tmp 0) (.pointer (some ⟨D,0,none⟩)) ?_ ?_
 ·intros;go_simp
 go_big_quiet_op
 refine za0 (some 23) w (.pointer (some ⟨D,0,none⟩)) (.tmp 22) (.pointer (some ⟨D,0,none⟩)) ?_ ?_
 ·intros;go_simp
 go_big_quiet_op
 refine za0 (some 24) w (.pointer (some ⟨D,0,none⟩)) (.tmp 23) (.pointer (some ⟨D,0,none⟩)) ?_ ?_
 ·intros;go_simp
 go_big_quiet_op
 refine za0 (some 25) w (.pointer (some ⟨G,0,none⟩)) (.tmp 24) (.pointer (some ⟨D,0,none⟩)) (fun wk hwk ρ s24=> ?_) ?_
 ·have g0:=hwk.1.2
  have hlt:=hwk.1.1
  go_simp
 go_big_quiet_op
 refine za0 (some 26) w (ddV d) (.tmp 5) (.pointer (some ⟨E,0,none⟩)) (fun wk hwk ρ s5=> ?_) ?_
 ·obtain⟨_,c0,c1,c2,c3,c4,c5,c6⟩:=hwk.2
  simp only[Nat.zero_add]at c0 c1 c2 c3 c4 c5 c6
  go_simp
 go_big_quiet_op
 refine zac (some 27) w rfl rfl rfl (fun u=>u= .tuple #[.int .i64 (zar t.b d),.int .i64 (za6 t.b d)]) (fun u wk=>zbc base w S D G pw ⟨zb9 t.b d,zai t.ws k (some (zfm r))⟩ tk (zat (fun _=>Th.no base) 0 (Th.dd base E d)) wk) (⟨_,rfl⟩) (fun _ _ h=>h.dbox) (fun wk hwk=> ?_) (fun u9 hu9=> ?_)
 ·generalize hA:Act.eval _=ρ
  have s25:ρ (.tmp 25)= .pointer (some ⟨G,0,none⟩):=by rw[<-hA];kernel_rfl
  have s26:ρ (.tmp 26)=ddV d:=by rw[<-hA];kernel_rfl
  have sf:ρ (.func 164)= .func (.func 164) #[] #[]:=by rw[<-hA];kernel_rfl
  clear hA
  go_simp
  obtain⟨T,dv,lv,hl,hs⟩:=hwk.log
  refine(qdl hl HR.out.ti.good d).mono ?_
  rintro e w7 ⟨rfl,hto⟩
  exact⟨_,rfl,rfl,hs _ _ hto⟩
 subst hu9
 go_big_quiet_op
 refine za0 (some 21) w (.tuple #[.int .i64 (zar t.b d),.int .i64 (za6 t.b d)]) (.tmp 27) (.tuple #[.int .i64 (zar t.b d),.int .i64 (za6 t.b d)]) ?_ ?_
 ·intros;go_simp
 go_big_quiet_op
 refine za0 (some 28) w (.int .i64 (zar t.b d)) (.tmp 21) (.tuple #[.int .i64 (zar t.b d),.int .i64 (za6 t.b d)]) ?_ ?_
 ·intros;go_simp
 go_big_quiet_op
 refine za0 (some 29) w (.int .i64 (za6 t.b d)) (.tmp 21) (.tuple #[.int .i64 (zar t.b d),.int .i64 (za6 t.b d)]) ?_ ?_
 ·intros;go_simp
 go_big_quiet_op
 refine za0 (some 7) w (.int .i64 (zar t.b d)) (.tmp 28) (.int .i64 (zar t.b d)) ?_ ?_
 ·intros;go_simp
 go_big_quiet_op
 refine za0 (some 8) w (.int .i64 (za6 t.b d)) (.tmp 29) (.int .i64 (za6 t.b d)) ?_ ?_
 ·intros;go_simp
 go_big_quiet_op
 refine wsn (fun w9 hw9=> ?_)
 have H9:=hid hw9
 clear hw9 H2
 rw[HCC.out]
 go_wp2_with fail
 go_ret
 exact⟨rfl,H9.out.done HL.out⟩
theorem zwi(h:zil base D G pw t tk w S)(hr:TR t tk){k:Nat}(hk:k<4){r:Wr}(he:t.ws k=some r){d:Dd}(hn:r.opens[r.sent]? =some d)(hcc:za6 t.b d≠0):
 Calls Tryz.prog 119 #[.pointer (some ⟨D,0,none⟩),.int .i64 (k:Int)] w fun e w'=>e= .returned (.int .i64 (za6 t.b d))/\zhe base w S D G pw (zdu t k) tk w':=by
 have HI:=hid h.start
 have HL:=hid h.held
 have HR:=hid hr
 have HE:=hid he
 have HO:=hid (zbg hr he)
 have g0:=HI.out.cells.book
 have hlt:=HI.out.cells.lt
 have g1:=HI.out.cells.ws k hk
 have hhs:zbo t k=true:=by unfold zbo;rw[he];rfl
 have hk4:(k:Int)<4:=by omega
 simp only[hhs,zbq,if_true]at g1
 obtain⟨hlt0,hde⟩:=List.getElem?_eq_some_iff.1 hn
 have HDE:=hid hde
 have HCC:=hid hcc
 have HTK:=hid (zhl tk k)
 clear h hr he hn hhs hde hcc
 go_enter Tryz.func119,Tryz.ntmps119
 go_wp2_with fail
 obtain⟨T,lv,ov,tvs,hp,hs⟩:=HI.out.wr hk HE.out
 refine(zu4 hp hlt0 (by have:=HO.out.few;omega)).mono ?_
 rintro e w1 ⟨rfl,hto⟩
 rw[HDE.out]
 have H1:Hid (zbc base w S D G pw ⟨t.b,zai t.ws k (some (zfm r))⟩ tk (fun _=>Th.no base) w1):=by
  have:=hs (zfm r) (tk k) w1 hto
  rw[HTK.out]at this
  exact this
 clear hto hs hp HI g0 g1 hlt HDE hlt0
 go_wp2_with fail
 have H2:=hid (H1.out.deed d 0)
 generalize World.alloc _ _=w2 at*
 generalize w1.heap.size=E at*
 clear H1
 refine wrs (fun wk=>DBox D G E d wk) (fun i=>i==5) (fun wk=>zbc base w S D G pw ⟨t.b,zai t.ws k (some (zfm r))⟩ tk (zat (fun _=>Th.no base) 0 (Th.dd base E d)) wk) (by kernel_rfl) (by kernel_rfl) (by kernel_rfl) (fun _ h=>h.dbox) (H2.out.after (Below.refl _ _).drew) ?_
 refine za0 (some 22) w (.pointer (some ⟨D,0,none⟩)) (.tmp 0) (.pointer (some ⟨D,0,none⟩)) ?_ ?_
 ·intros;go_simp
 go_big_quiet_op
 refine za0 (some 23) w (.pointer (some ⟨D,0,none⟩)) (.tmp 22) (.pointer (some ⟨D,0,none⟩)) ?_ ?_
 ·intros;go_simp
 go_big_quiet_op
 refine za0 (some 24) w (.pointer (some ⟨D,0,none⟩)) (.tmp 23) (.pointer (some ⟨D,0,none⟩)) ?_ ?_
 ·intros;go_simp
 go_big_quiet_op
 refine za0 (some 25) w (.pointer (some ⟨G,0,none⟩)) (.tmp 24) (.pointer (some ⟨D,0,none⟩)) (fun wk hwk ρ s24=> ?_) ?_
 ·have g0:=hwk.1.2
  have hlt:=hwk.1.1
  go_simp
 go_big_quiet_op
 refine za0 (some 26) w (ddV d) (.tmp 5) (.pointer (some ⟨E,0,none⟩)) (fun wk hwk ρ s5=> ?_) ?_
 ·obtain⟨_,c0,c1,c2,c3,c4,c5,c6⟩:=hwk.2
  simp only[Nat.zero_add]at c0 c1 c2 c3 c4 c5 c6
  go_simp
 go_big_quiet_op
 refine zac (some 27) w rfl rfl rfl (fun u=>u= .tuple #[.int .i64 (zar t.b d),.int .i64 (za6 t.b d)]) (fun u wk=>zbc base w S D G pw ⟨zb9 t.b d,zai t.ws k (some (zfm r))⟩ tk (zat (fun _=>Th.no base) 0 (Th.dd base E d)) wk) (⟨_,rfl⟩) (fun _ _ h=>h.dbox) (fun wk hwk=> ?_) (fun u9 hu9=> ?_)
 ·generalize hA:Act.eval _=ρ
  have s25:ρ (.tmp 25)= .pointer (some ⟨G,0,none⟩):=by rw[<-hA];kernel_rfl
  have s26:ρ (.tmp 26)=ddV d:=by rw[<-hA];kernel_rfl
  have sf:ρ (.func 164)= .func (.func 164) #[] #[]:=by rw[<-hA];kernel_rfl
  clear hA
  go_simp
  obtain⟨T,dv,lv,hl,hs⟩:=hwk.log
  refine(qdl hl HR.out.ti.good d).mono ?_
  rintro e w7 ⟨rfl,hto⟩
  exact⟨_,rfl,rfl,hs _ _ hto⟩
 subst hu9
 go_big_quiet_op
 refine za0 (some 21) w (.tuple #[.int .i64 (zar t.b d),.int .i64 (za6 t.b d)]) (.tmp 27) (.tuple #[.int .i64 (zar t.b d),.int .i64 (za6 t.b d)]) ?_ ?_
 ·intros;go_simp
 go_big_quiet_op
 refine za0 (some 28) w (.int .i64 (zar t.b d)) (.tmp 21) (.tuple #[.int .i64 (zar t.b d),.int .i64 (za6 t.b d)]) ?_ ?_
 ·intros;go_simp
 go_big_quiet_op
 refine za0 (some 29) w (.int .i64 (za6 t.b d)) (.tmp 21) (.tuple #[.int .i64 (zar t.b d),.int .i64 (za6 t.b d)]) ?_ ?_
 ·intros;go_simp
 go_big_quiet_op
 refine za0 (some 7) w (.int .i64 (zar t.b d)) (.tmp 28) (.int .i64 (zar t.b d)) ?_ ?_
 ·intros;go_simp
 go_big_quiet_op
 refine za0 (some 8) w (.int .i64 (za6 t.b d)) (.tmp 29) (.int .i64 (za6 t.b d)) ?_ ?_
 ·intros;go_simp
 go_big_quiet_op
 refine wsn (fun w9 hw9=> ?_)
 have H9:=hid hw9
 clear hw9 H2
 have HB:Hid (zdu ⟨zb9 t.b d,zai t.ws k (some (zfm r))⟩ k=zdu t k):=by
  show(⟨zcp (zb9 t.b d) k,zai (zai t.ws k (some (zfm r))) k none⟩:Twn)=⟨zcp t.b k,zai t.ws k none⟩
  rw[zt1 HCC.out,zz3]
 obtain⟨c,hcq⟩:∃c,za6 t.b d=c:=⟨_,rfl⟩
 have HCQ:=hid hcq
 have hcn:¬c=0:=by rw[<-hcq];exact HCC.out
 rw[hcq]
 clear hcq
 generalize zar t.b d=m at*
 go_wp2_with fail
 obtain⟨T,ha,hs⟩:=H9.out.call
 refine(zxl ha hk).mono ?_
 rintro e w10 ⟨rfl,hto⟩
 have H10:Hid (zbc base w S D G pw (zdu t k) tk (zat (fun _=>Th.no base) 0 (Th.dd base E d)) w10):=by
  have:=hs _ _ _ _ hto
  rw[HB.out]at this
  exact this
 clear hto hs ha H9
 go_wp2_with fail
 go_ret
 exact⟨by rw[HCQ.out];rfl,H10.out.done HL.out⟩
theorem qbg(h:zil base D G pw t tk w S)(hr:TR t tk){k:Nat}(hk:k<4){r:Wr}(he:t.ws k=some r)(hn:t.b.ds[r.seen]? =none):
 Calls Tryz.prog 120 #[.pointer (some ⟨D,0,none⟩),.int .i64 (k:Int)] w fun e w'=>e= .returned (.int .i64 5)/\zhe base w S D G pw t tk w':=by
 have HI:=hid h.start
 have HL:=hid h.held
 have HR:=hid hr
 have HE:=hid he
 have HO:=hid (zbg hr he)
 have g0:=HI.out.cells.book
 have hlt:=HI.out.cells.lt
 have g1:=HI.out.cells.ws k hk
 have hhs:zbo t k=true:=by unfold zbo;rw[he];rfl
 have hk4:(k:Int)<4:=by omega
 simp only[hhs,zbq,if_true]at g1
 have HIS:Hid (isD t.b ((r.seen:Int)+1)=false):=is_no (by have:=List.getElem?_eq_none_iff.1 hn;omega)
 obtain⟨d,hnd⟩:∃d,zum t.b ((r.seen:Int)+1)=d:=⟨_,rfl⟩
 have HND:=hid hnd
 clear hnd hn
 clear h hr he hhs
 go_enter Tryz.func120,Tryz.ntmps120
 go_wp2_with fail
 have HIk:=hid HI.out
 clear HI g0 g1 hlt
 refine zbz (fun wk=>zbc base w S D G pw t tk (fun _=>Th.no base) wk) (fun i=>i==11||i==12) (fun wk=>zbc base w S D G pw t tk (fun _=>Th.no base) wk) (by kernel_rfl) (by kernel_rfl) (by kernel_rfl) (fun _ h=>h) (zbc.shut) (HIk.out.after (Below.refl _ _).drew) ?_
 refine za1 (some 16) w (.pointer (some ⟨D,0,none⟩)) (.tmp 0) (.pointer (some ⟨D,0,none⟩)) ?_ ?_
 ·intros;go_simp
 go_big_quiet_op
 refine za1 (some 17) w (.pointer (some ⟨D,0,none⟩)) (.tmp 16) (.pointer (some ⟨D,0,none⟩)) ?_ ?_
 ·intros;go_simp
 go_big_quiet_op
 refine za1 (some 18) w (.pointer (some ⟨D,0,none⟩)) (.tmp 17) (.pointer (some ⟨D,0,none⟩)) ?_ ?_
 ·intros;go_simp
 go_big_quiet_op
 refine za1 (some 19) w (.pointer (some ⟨G,0,none⟩)) (.tmp 18) (.pointer (some ⟨D,0,none⟩)) (fun wk hwk ρ s18=> ?_) ?_
 ·have g0:=hwk.cells.book
  go_simp
 go_big_quiet_op
 refine za1 (some 20) w (.pointer (some ⟨pw k,0,none⟩)) (.tmp 5) (.pointer (some ⟨pw k,0,none⟩)) ?_ ?_
 ·intros;go_simp
 go_big_quiet_op
 refine wgb (some 21) w rfl (.int .i64 ((r.seen:Int))) rfl (by kernel_rfl) (fun wk hwk=> ?_) ?_
 ·generalize hA:Act.eval _=ρ
  have s20:ρ (.tmp 20)= .pointer (some ⟨pw k,0,none⟩):=by rw[<-hA];kernel_rfl
  have sf:ρ (.func 165)= .func (.func 165) #[] #[]:=by rw[<-hA];kernel_rfl
  clear hA
  unfold zcb
  go_simp
  obtain⟨T,lv,ov,tvs,hp,_⟩:=hwk.wr hk HE.out
  refine(zrz hp).mono ?_
  rintro e w7 ⟨rfl,rfl⟩
  exact⟨rfl,Below.refl _ _⟩
 go_big_quiet_op
 refine wgb (some 22) w rfl (.int .i64 ((r.seen:Int)+1)) rfl (by kernel_rfl) (fun wk hwk=> ?_) ?_
 ·refine gus ?_
  generalize hA:Act.eval _=ρ
  have s21:ρ (.tmp 21)= .int .i64 ((r.seen:Int)):=by rw[<-hA];kernel_rfl
  have k1:ρ (.const (.int .i64 1))= .int .i64 1:=by rw[<-hA];kernel_rfl
  clear hA
  have hsn:=HO.out.seen
  go_simp
  rw[zye]
  unfold wrap64
  omega
 go_big_quiet_op
 refine wgb (some 23) w rfl (.tuple #[ddV d,.bool false]) rfl (by kernel_rfl) (fun wk hwk=> ?_) ?_
 ·generalize hA:Act.eval _=ρ
  have s19:ρ (.tmp 19)= .pointer (some ⟨G,0,none⟩):=by rw[<-hA];kernel_rfl
  have s22:ρ (.tmp 22)= .int .i64 ((r.seen:Int)+1):=by rw[<-hA];kernel_rfl
  have sf:ρ (.func 137)= .func (.func 137) #[] #[]:=by rw[<-hA];kernel_rfl
  clear hA
  unfold zcb
  go_simp
  obtain⟨T,dv,lv,hl,_⟩:=hwk.log
  refine(zpg hl HR.out.ti.good.small _).mono ?_
  rintro e w7 ⟨rfl,hb⟩
  exact⟨by rw[HND.out,HIS.out],hb⟩
 go_big_quiet_op
 refine za1 (some 15) w (.tuple #[ddV d,.bool false]) (.tmp 23) (.tuple #[ddV d,.bool false]) ?_ ?_
 ·intros;go_simp
 go_big_quiet_op
 refine za1 (some 24) w (ddV d) (.tmp 15) (.tuple #[ddV d,.bool false]) ?_ ?_
 ·intros;go_simp
 go_big_quiet_op
 refine za1 (some 25) w (.bool false) (.tmp 15) (.tuple #[ddV d,.bool false]) ?_ ?_
 ·intros;go_simp
 go_big_quiet_op
 refine zbe (some 6) w rfl rfl rfl (fun u=>∃E,u= .pointer (some ⟨E,0,none⟩)) (fun u wk=>∃E,u= .pointer (some ⟨E,0,none⟩)/\zbc base w S D G pw t tk (zat (fun _=>Th.no base) 0 (Th.dd base E ⟨0,0,0,0,0,0,⟨#[]⟩⟩)) wk) (⟨.pointer (some ⟨0,0,none⟩),0,rfl⟩) (fun _ _ ⟨_,_,h⟩=>h.bare) (fun _ _ _ ⟨E,e,h⟩ hb=>⟨E,e,h.after hb⟩) (fun wk hwk=> ?_) (fun u11 hu11=> ?_)
 ·generalize hA:Act.eval _=ρ
  clear hA
  have hq:=zbc.deed hwk ⟨0,0,0,0,0,0,⟨#[]⟩⟩ 0
  go_simp
  exact⟨⟨_,rfl⟩,_,rfl,hq⟩
 obtain⟨E,rfl⟩:=hu11
 go_big_quiet_op
 refine zgd rfl rfl rfl (fun wk=>zbc base w S D G pw t tk (zat (fun _=>Th.no base) 0 (Th.dd base E d)) wk) (fun _ h=>h.bare) (zbc.shut) (fun wk hwk=> ?_) ?_
 ·generalize hA:Act.eval _=ρ
  have s6:ρ (.tmp 6)= .pointer (some ⟨E,0,none⟩):=by rw[<-hA];kernel_rfl
  have s24:ρ (.tmp 24)=ddV d:=by rw[<-hA];kernel_rfl
  clear hA
  obtain⟨E',he,hq⟩:=hwk
  obtain rfl:E=E':=by simpa using he
  clear he
  have hst:=hq.store d
  obtain⟨⟨hlt,c0,c1,c2,c3,c4,c5,c6⟩,hf⟩:=hq.deedAt
  simp only[Nat.zero_add]at hlt c0 c1 c2 c3 c4 c5 c6
  have f0:=hf 0 (by omega)
  have f1:=hf 1 (by omega)
  have f2:=hf 2 (by omega)
  have f3:=hf 3 (by omega)
  have f4:=hf 4 (by omega)
  have f5:=hf 5 (by omega)
  have f6:=hf 6 (by omega)
  go_simp
  exact hst
 refine za1 (some 7) w (.bool false) (.tmp 25) (.bool false) ?_ ?_
 ·intros;go_simp
 go_big_quiet_op
 refine zds (fun w9 hw9=> ?_)
 have H9:=hid hw9
 clear hw9 HIk
 go_wp2_with fail
 go_ret
 exact⟨rfl,H9.out.done HL.out⟩
theorem zxf(h:zil base D G pw t tk w S)(hr:TR t tk){k:Nat}(hk:k<4){r:Wr}(he:t.ws k=some r){d:Dd}(hn:t.b.ds[r.seen]? =some d)(hcc:zbt r d≠0):
 Calls Tryz.prog 120 #[.pointer (some ⟨D,0,none⟩),.int .i64 (k:Int)] w fun e w'=>e= .returned (.int .i64 (zbt r d))/\zhe base w S D G pw (zdu t k) tk w':=by
 have HI:=hid h.start
 have HL:=hid h.held
 have HR:=hid hr
 have HE:=hid he
 have HO:=hid (zbg hr he)
 have g0:=HI.out.cells.book
 have hlt:=HI.out.cells.lt
 have g1:=HI.out.cells.ws k hk
 have hhs:zbo t k=true:=by unfold zbo;rw[he];rfl
 have hk4:(k:Int)<4:=by omega
 simp only[hhs,zbq,if_true]at g1
 have HIS:=hid ((zuv (List.getElem?_eq_some_iff.1 hn).1).1)
 have HND:=hid ((zuv (List.getElem?_eq_some_iff.1 hn).1).2.trans (List.getElem?_eq_some_iff.1 hn).2)
 have HDS:=hid hn
 have HCC:=hid hcc
 clear hn hcc
 clear h hr he hhs
 go_enter Tryz.func120,Tryz.ntmps120
 go_wp2_with fail
 have HIk:=hid HI.out
 clear HI g0 g1 hlt
 refine zbz (fun wk=>zbc base w S D G pw t tk (fun _=>Th.no base) wk) (fun i=>i==11||i==12) (fun wk=>zbc base w S D G pw t tk (fun _=>Th.no base) wk) (by kernel_rfl) (by kernel_rfl) (by kernel_rfl) (fun _ h=>h) (zbc.shut) (HIk.out.after (Below.refl _ _).drew) ?_
 refine za1 (some 16) w (.pointer (some ⟨D,0,none⟩)) (.tmp 0) (.pointer (some ⟨D,0,none⟩)) ?_ ?_
 ·intros;go_simp
 go_big_quiet_op
 refine za1 (some 17) w (.pointer (some ⟨D,0,none⟩)) (.tmp 16) (.pointer (some ⟨D,0,none⟩)) ?_ ?_
 ·intros;go_simp
 go_big_quiet_op
 refine za1 (some 18) w (.pointer (some ⟨D,0,none⟩)) (.tmp 17) (.pointer (some ⟨D,0,none⟩)) ?_ ?_
 ·intros;go_simp
 go_big_quiet_op
 refine za1 (some 19) w (.pointer (some ⟨G,0,none⟩)) (.tmp 18) (.pointer (some ⟨D,0,none⟩)) (fun wk hwk ρ s18=> ?_) ?_
 ·have g0:=hwk.cells.book
  go_simp
 go_big_quiet_op
 refine za1 (some 20) w (.pointer (some ⟨pw k,0,none⟩)) (.tmp 5) (.pointer (some ⟨pw k,0,none⟩)) ?_ ?_
 ·intros;go_simp
 go_big_quiet_op
 refine wgb (some 21) w rfl (.int .i64 ((r.seen:Int))) rfl (by kernel_rfl) (fun wk hwk=> ?_) ?_
 ·generalize hA:Act.eval _=ρ
  have s20:ρ (.tmp 20)= .pointer (some ⟨pw k,0,none⟩):=by rw[<-hA];kernel_rfl
  have sf:ρ (.func 165)= .func (.func 165) #[] #[]:=by rw[<-hA];kernel_rfl
  clear hA
  unfold zcb
  go_simp
  obtain⟨T,lv,ov,tvs,hp,_⟩:=hwk.wr hk HE.out
  refine(zrz hp).mono ?_
  rintro e w7 ⟨rfl,rfl⟩
  exact⟨rfl,Below.refl _ _⟩
 go_big_quiet_op
 refine wgb (some 22) w rfl (.int .i64 ((r.seen:Int)+1)) rfl (by kernel_rfl) (fun wk hwk=> ?_) ?_
 ·refine gus ?_
  generalize hA:Act.eval _=ρ
  have s21:ρ (.tmp 21)= .int .i64 ((r.seen:Int)):=by rw[<-hA];kernel_rfl
  have k1:ρ (.const (.int .i64 1))= .int .i64 1:=by rw[<-hA];kernel_rfl
  clear hA
  have hsn:=HO.out.seen
  go_simp
  rw[zye]
  unfold wrap64
  omega
 go_big_quiet_op
 refine wgb (some 23) w rfl (.tuple #[ddV d,.bool true]) rfl (by kernel_rfl) (fun wk hwk=> ?_) ?_
 ·generalize hA:Act.eval _=ρ
  have s19:ρ (.tmp 19)= .pointer (some ⟨G,0,none⟩):=by rw[<-hA];kernel_rfl
  have s22:ρ (.tmp 22)= .int .i64 ((r.seen:Int)+1):=by rw[<-hA];kernel_rfl
  have sf:ρ (.func 137)= .func (.func 137) #[] #[]:=by rw[<-hA];kernel_rfl
  clear hA
  unfold zcb
  go_simp
  obtain⟨T,dv,lv,hl,_⟩:=hwk.log
  refine(zpg hl HR.out.ti.good.small _).mono ?_
  rintro e w7 ⟨rfl,hb⟩
  exact⟨by rw[HND.out,HIS.out],hb⟩
 go_big_quiet_op
 refine za1 (some 15) w (.tuple #[ddV d,.bool true]) (.tmp 23) (.tuple #[ddV d,.bool true]) ?_ ?_
 ·intros;go_simp
 go_big_quiet_op
 refine za1 (some 24) w (ddV d) (.tmp 15) (.tuple #[ddV d,.bool true]) ?_ ?_
 ·intros;go_simp
 go_big_quiet_op
 refine za1 (some 25) w (.bool true) (.tmp 15) (.tuple #[ddV d,.bool true]) ?_ ?_
 ·intros;go_simp
 go_big_quiet_op
 refine zbe (some 6) w rfl rfl rfl (fun u=>∃E,u= .pointer (some ⟨E,0,none⟩)) (fun u wk=>∃E,u= .pointer (some ⟨E,0,none⟩)/\zbc base w S D G pw t tk (zat (fun _=>Th.no base) 0 (Th.dd base E ⟨0,0,0,0,0,0,⟨#[]⟩⟩)) wk) (⟨.pointer (some ⟨0,0,none⟩),0,rfl⟩) (fun _ _ ⟨_,_,h⟩=>h.bare) (fun _ _ _ ⟨E,e,h⟩ hb=>⟨E,e,h.after hb⟩) (fun wk hwk=> ?_) (fun u11 hu11=> ?_)
 ·generalize hA:Act.eval _=ρ
  clear hA
  have hq:=zbc.deed hwk ⟨0,0,0,0,0,0,⟨#[]⟩⟩ 0
  go_simp
  exact⟨⟨_,rfl⟩,_,rfl,hq⟩
 obtain⟨E,rfl⟩:=hu11
 go_big_quiet_op
 refine zgd rfl rfl rfl (fun wk=>zbc base w S D G pw t tk (zat (fun _=>Th.no base) 0 (Th.dd base E d)) wk) (fun _ h=>h.bare) (zbc.shut) (fun wk hwk=> ?_) ?_
 ·generalize hA:Act.eval _=ρ
  have s6:ρ (.tmp 6)= .pointer (some ⟨E,0,none⟩):=by rw[<-hA];kernel_rfl
  have s24:ρ (.tmp 24)=ddV d:=by rw[<-hA];kernel_rfl
  clear hA
  obtain⟨E',he,hq⟩:=hwk
  obtain rfl:E=E':=by simpa using he
  clear he
  have hst:=hq.store d
  obtain⟨⟨hlt,c0,c1,c2,c3,c4,c5,c6⟩,hf⟩:=hq.deedAt
  simp only[Nat.zero_add]at hlt c0 c1 c2 c3 c4 c5 c6
  have f0:=hf 0 (by omega)
  have f1:=hf 1 (by omega)
  have f2:=hf 2 (by omega)
  have f3:=hf 3 (by omega)
  have f4:=hf 4 (by omega)
  have f5:=hf 5 (by omega)
  have f6:=hf 6 (by omega)
  go_simp
  exact hst
 refine za1 (some 7) w (.bool true) (.tmp 25) (.bool true) ?_ ?_
 ·intros;go_simp
 go_big_quiet_op
 refine zds (fun w9 hw9=> ?_)
 have H9:=hid hw9
 clear hw9 HIk
 obtain⟨⟨_,c0,c1,c2,c3,c4,c5,c6⟩,_⟩:=H9.out.deedAt
 simp only[Nat.zero_add]at c0 c1 c2 c3 c4 c5 c6
 go_wp2_with fail
 obtain⟨T,lv,ov,tvs,hp,hs⟩:=H9.out.wr hk HE.out
 refine(qfp HR.out HE.out HDS.out hp).mono ?_
 rintro e w10 ⟨rfl,h0,h1⟩
 have H10:=hid (H9.out.after (h1 HCC.out))
 obtain⟨c,hcq⟩:∃c,zbt r d=c:=⟨_,rfl⟩
 have HCQ:=hid hcq
 have hcn:¬c=0:=by rw[<-hcq];exact HCC.out
 rw[hcq]
 clear hcq h0 h1 hs hp H9 c0 c1 c2 c3 c4 c5 c6
 go_wp2_with fail
 obtain⟨T,ha,hs⟩:=H10.out.call
 refine(zxl ha hk).mono ?_
 rintro e w11 ⟨rfl,hto⟩
 have H11:Hid (zbc base w S D G pw (zdu t k) tk (zat (fun _=>Th.no base) 0 (Th.dd base E d)) w11):=hs _ _ _ _ hto
 clear hto hs ha H10
 go_wp2_with fail
 go_ret
 exact⟨by rw[HCQ.out];rfl,H11.out.done HL.out⟩
def DAnyB(base:Nat)(w:World)(S:Nat->Prop)(D G:Nat)(pw:Nat->Nat)(ws:Int->Option Wr)(tk:Int->List (List Ch))(ex:Nat->Th base)(wk:World):Prop:=∃b,zbc base w S D G pw ⟨b,ws⟩ tk ex wk
theorem zxe(h:zil base D G pw t tk w S)(hr:TR t tk){k:Nat}(hk:k<4){r:Wr}(he:t.ws k=some r){d:Dd}(hn:t.b.ds[r.seen]? =some d)(hcc:zbt r d=0):
 Calls Tryz.prog 120 #[.pointer (some ⟨D,0,none⟩),.int .i64 (k:Int)] w fun e w'=>e= .returned (.int .i64 (ze2 t.b k (zb1 r d).least))/\zhe base w S D G pw ⟨zd5 t.b k (zb1 r d).least,zai t.ws k (some (zb1 r d))⟩ (zai tk k (zh2 r d (tk k))) w':=by
 have HI:=hid h.start
 have HL:=hid h.held
 have HR:=hid hr
 have HE:=hid he
 have HO:=hid (zbg hr he)
 have g0:=HI.out.cells.book
 have hlt:=HI.out.cells.lt
 have g1:=HI.out.cells.ws k hk
 have hhs:zbo t k=true:=by unfold zbo;rw[he];rfl
 have hk4:(k:Int)<4:=by omega
 simp only[hhs,zbq,if_true]at g1
 have HIS:=hid ((zuv (List.getElem?_eq_some_iff.1 hn).1).1)
 have HND:=hid ((zuv (List.getElem?_eq_some_iff.1 hn).1).2.trans (List.getElem?_eq_some_iff.1 hn).2)
 have HDS:=hid hn
 have HCC:=hid hcc
 clear hn hcc
 clear h hr he hhs
 go_enter Tryz.func120,Tryz.ntmps120
 go_wp2_with fail
 have HIk:=hid HI.out
 clear HI g0 g1 hlt
 refine zbz (fun wk=>zbc base w S D G pw t tk (fun _=>Th.no base) wk) (fun i=>i==11||i==12) (fun wk=>zbc base w S D G pw t tk (fun _=>Th.no base) wk) (by kernel_rfl) (by kernel_rfl) (by kernel_rfl) (fun _ h=>h) (zbc.shut) (HIk.out.after (Below.refl _ _).drew) ?_
 refine za1 (some 16) w (.pointer (some ⟨D,0,none⟩)) (.tmp 0) (.pointer (some ⟨D,0,none⟩)) ?_ ?_
 ·intros;go_simp
 go_big_quiet_op
 refine za1 (some 17) w (.pointer (some ⟨D,0,none⟩)) (.tmp 16) (.pointer (some ⟨D,0,none⟩)) ?_ ?_
 ·intros;go_simp
 go_big_quiet_op
 refine za1 (some 18) w (.pointer (some ⟨D,0,none⟩)) (.tmp 17) (.pointer (some ⟨D,0,none⟩)) ?_ ?_
 ·intros;go_simp
 go_big_quiet_op
 refine za1 (some 19) w (.pointer (some ⟨G,0,none⟩)) (.tmp 18) (.pointer (some ⟨D,0,none⟩)) (fun wk hwk ρ s18=> ?_) ?_
 ·have g0:=hwk.cells.book
  go_simp
 go_big_quiet_op
 refine za1 (some 20) w (.pointer (some ⟨pw k,0,none⟩)) (.tmp 5) (.pointer (some ⟨pw k,0,none⟩)) ?_ ?_
 ·intros;go_simp
 go_big_quiet_op
 refine wgb (some 21) w rfl (.int .i64 ((r.seen:Int))) rfl (by kernel_rfl) (fun wk hwk=> ?_) ?_
 ·generalize hA:Act.eval _=ρ
  have s20:ρ (.tmp 20)= .pointer (some ⟨pw k,0,none⟩):=by rw[<-hA];kernel_rfl
  have sf:ρ (.func 165)= .func (.func 165) #[] #[]:=by rw[<-hA];kernel_rfl
  clear hA
  unfold zcb
  go_simp
  obtain⟨T,lv,ov,tvs,hp,_⟩:=hwk.wr hk HE.out
  refine(zrz hp).mono ?_
  rintro e w7 ⟨rfl,rfl⟩
  exact⟨rfl,Below.refl _ _⟩
 go_big_quiet_op
 refine wgb (some 22) w rfl (.int .i64 ((r.seen:Int)+1)) rfl (by kernel_rfl) (fun wk hwk=> ?_) ?_
 ·refine gus ?_
  generalize hA:Act.eval _=ρ
  have s21:ρ (.tmp 21)= .int .i64 ((r.seen:Int)):=by rw[<-hA];kernel_rfl
  have k1:ρ (.const (.int .i64 1))= .int .i64 1:=by rw[<-hA];kernel_rfl
  clear hA
  have hsn:=HO.out.seen
  go_simp
  rw[zye]
  unfold wrap64
  omega
 go_big_quiet_op
 refine wgb (some 23) w rfl (.tuple #[ddV d,.bool true]) rfl (by kernel_rfl) (fun wk hwk=> ?_) ?_
 ·generalize hA:Act.eval _=ρ
  have s19:ρ (.tmp 19)= .pointer (some ⟨G,0,none⟩):=by rw[<-hA];kernel_rfl
  have s22:ρ (.tmp 22)= .int .i64 ((r.seen:Int)+1):=by rw[<-hA];kernel_rfl
  have sf:ρ (.func 137)= .func (.func 137) #[] #[]:=by rw[<-hA];kernel_rfl
  clear hA
  unfold zcb
  go_simp
  obtain⟨T,dv,lv,hl,_⟩:=hwk.log
  refine(zpg hl HR.out.ti.good.small _).mono ?_
  rintro e w7 ⟨rfl,hb⟩
  exact⟨by rw[HND.out,HIS.out],hb⟩
 go_big_quiet_op
 refine za1 (some 15) w (.tuple #[ddV d,.bool true]) (.tmp 23) (.tuple #[ddV d,.bool true]) ?_ ?_
 ·intros;go_simp
 go_big_quiet_op
 refine za1 (some 24) w (ddV d) (.tmp 15) (.tuple #[ddV d,.bool true]) ?_ ?_
 ·intros;go_simp
 go_big_quiet_op
 refine za1 (some 25) w (.bool true) (.tmp 15) (.tuple #[ddV d,.bool true]) ?_ ?_
 ·intros;go_simp
 go_big_quiet_op
 refine zbe (some 6) w rfl rfl rfl (fun u=>∃E,u= .pointer (some ⟨E,0,none⟩)) (fun u wk=>∃E,u= .pointer (some ⟨E,0,none⟩)/\zbc base w S D G pw t tk (zat (fun _=>Th.no base) 0 (Th.dd base E ⟨0,0,0,0,0,0,⟨#[]⟩⟩)) wk) (⟨.pointer (some ⟨0,0,none⟩),0,rfl⟩) (fun _ _ ⟨_,_,h⟩=>h.bare) (fun _ _ _ ⟨E,e,h⟩ hb=>⟨E,e,h.after hb⟩) (fun wk hwk=> ?_) (fun u11 hu11=> ?_)
 ·generalize hA:Act.eval _=ρ
  clear hA
  have hq:=zbc.deed hwk ⟨0,0,0,0,0,0,⟨#[]⟩⟩ 0
  go_simp
  exact⟨⟨_,rfl⟩,_,rfl,hq⟩
 obtain⟨E,rfl⟩:=hu11
 go_big_quiet_op
 refine zgd rfl rfl rfl (fun wk=>zbc base w S D G pw t tk (zat (fun _=>Th.no base) 0 (Th.dd base E d)) wk) (fun _ h=>h.bare) (zbc.shut) (fun wk hwk=> ?_) ?_
 ·generalize hA:Act.eval _=ρ
  have s6:ρ (.tmp 6)= .pointer (some ⟨E,0,none⟩):=by rw[<-hA];kernel_rfl
  have s24:ρ (.tmp 24)=ddV d:=by rw[<-hA];kernel_rfl
  clear hA
  obtain⟨E',he,hq⟩:=hwk
  obtain rfl:E=E':=by simpa using he
  clear he
  have hst:=hq.store d
  obtain⟨⟨hlt,c0,c1,c2,c3,c4,c5,c6⟩,hf⟩:=hq.deedAt
  simp only[Nat.zero_add]at hlt c0 c1 c2 c3 c4 c5 c6
  have f0:=hf 0 (by omega)
  have f1:=hf 1 (by omega)
  have f2:=hf 2 (by omega)
  have f3:=hf 3 (by omega)
  have f4:=hf 4 (by omega)
  have f5:=hf 5 (by omega)
  have f6:=hf 6 (by omega)
  go_simp
  exact hst
 refine za1 (some 7) w (.bool true) (.tmp 25) (.bool true) ?_ ?_
 ·intros;go_simp
 go_big_quiet_op
 refine zds (fun w9 hw9=> ?_)
 have H9:=hid hw9
 clear hw9 HIk
 obtain⟨⟨_,c0,c1,c2,c3,c4,c5,c6⟩,_⟩:=H9.out.deedAt
 simp only[Nat.zero_add]at c0 c1 c2 c3 c4 c5 c6
 go_wp2_with fail
 obtain⟨T,lv,ov,tvs,hp,hs⟩:=H9.out.wr hk HE.out
 refine(qfp HR.out HE.out HDS.out hp).mono ?_
 rintro e w10 ⟨rfl,h0,h1⟩
 have H10:=hid (hs (zb1 r d) (zh2 r d (tk k)) w10 (h0 HCC.out))
 rw[HCC.out]
 clear h0 h1 hs hp H9 c0 c1 c2 c3 c4 c5 c6
 go_wp2_with fail
 refine zbz (fun wk=>DAnyB base w S D G pw (zai t.ws k (some (zb1 r d))) (zai tk k (zh2 r d (tk k))) (zat (fun _=>Th.no base) 0 (Th.dd base E d)) wk) (fun i=>i==7) (fun wk=>zbc base w S D G pw ⟨t.b,zai t.ws k (some (zb1 r d))⟩ (zai tk k (zh2 r d (tk k))) (zat (fun _=>Th.no base) 0 (Th.dd base E d)) wk) (by kernel_rfl) (by kernel_rfl) (by kernel_rfl) (fun _ h=>⟨_,h⟩) (zbc.shut) (H10.out.after (Below.refl _ _).drew) ?_
 refine za1 (some 37) w (.pointer (some ⟨D,0,none⟩)) (.tmp 0) (.pointer (some ⟨D,0,none⟩)) ?_ ?_
 ·intros;go_simp
 go_big_quiet_op
 refine za1 (some 38) w (.pointer (some ⟨D,0,none⟩)) (.tmp 37) (.pointer (some ⟨D,0,none⟩)) ?_ ?_
 ·intros;go_simp
 go_big_quiet_op
 refine za1 (some 39) w (.pointer (some ⟨D,0,none⟩)) (.tmp 38) (.pointer (some ⟨D,0,none⟩)) ?_ ?_
 ·intros;go_simp
 go_big_quiet_op
 refine za1 (some 40) w (.pointer (some ⟨G,0,none⟩)) (.tmp 39) (.pointer (some ⟨D,0,none⟩)) (fun wk hwk ρ s39=> ?_) ?_
 ·obtain⟨b,hr⟩:=hwk
  have g0:=hr.cells.book
  go_simp
 go_big_quiet_op
 refine za1 (some 41) w (.int .i64 (k:Int)) (.tmp 1) (.int .i64 (k:Int)) ?_ ?_
 ·intros;go_simp
 go_big_quiet_op
 refine za1 (some 42) w (.pointer (some ⟨pw k,0,none⟩)) (.tmp 5) (.pointer (some ⟨pw k,0,none⟩)) ?_ ?_
 ·intros;go_simp
 go_big_quiet_op
 refine wgb (some 43) w rfl (.int .i64 (Wr.least (zb1 r d))) rfl (by kernel_rfl) (fun wk hwk=> ?_) ?_
 ·generalize hA:Act.eval _=ρ
  have s42:ρ (.tmp 42)= .pointer (some ⟨pw k,0,none⟩):=by rw[<-hA];kernel_rfl
  have sf:ρ (.func 168)= .func (.func 168) #[] #[]:=by rw[<-hA];kernel_rfl
  clear hA
  unfold zcb
  go_simp
  obtain⟨b,hr⟩:=hwk
  obtain⟨T,lv,ov,tvs,hp,_⟩:=hr.wr hk (zag _ _ _)
  refine(least_pw hp).mono ?_
  rintro e w7 ⟨rfl,hb⟩
  exact⟨rfl,hb⟩
 go_big_quiet_op
 refine zbe (some 44) w rfl rfl rfl (fun u=>u= .int .i64 (ze2 t.b k (zb1 r d).least)) (fun u wk=>zbc base w S D G pw ⟨zd5 t.b k (zb1 r d).least,zai t.ws k (some (zb1 r d))⟩ (zai tk k (zh2 r d (tk k))) (zat (fun _=>Th.no base) 0 (Th.dd base E d)) wk) (⟨_,rfl⟩) (fun _ _ h=>⟨_,h⟩) (fun _=>zbc.shut) (fun wk hwk=> ?_) (fun u8 hu8=> ?_)
 ·generalize hA:Act.eval _=ρ
  have s40:ρ (.tmp 40)= .pointer (some ⟨G,0,none⟩):=by rw[<-hA];kernel_rfl
  have s41:ρ (.tmp 41)= .int .i64 (k:Int):=by rw[<-hA];kernel_rfl
  have s43:ρ (.tmp 43)= .int .i64 (Wr.least (zb1 r d)):=by rw[<-hA];kernel_rfl
  have sf:ρ (.func 167)= .func (.func 167) #[] #[]:=by rw[<-hA];kernel_rfl
  clear hA
  go_simp
  obtain⟨T,dv,lv,hl,hs⟩:=hwk.log
  refine(says_lg hl _ _).mono ?_
  rintro e w7 ⟨rfl,hto⟩
  exact⟨_,rfl,rfl,hs _ _ hto⟩
 subst hu8
 go_big_quiet_op
 refine za1 (some 4) w (.int .i64 (ze2 t.b k (zb1 r d).least)) (.tmp 44) (.int .i64 (ze2 t.b k (zb1 r d).least)) ?_ ?_
 ·intros;go_simp
 go_big_quiet_op
 refine zds (fun w12 hw12=> ?_)
 have H12:=hid hw12
 clear hw12 H10
 go_wp2_with fail
 go_ret
 exact⟨rfl,H12.out.done HL.out⟩
end Go.Proofs.YtcbnnfeelhlapadGreatDoor