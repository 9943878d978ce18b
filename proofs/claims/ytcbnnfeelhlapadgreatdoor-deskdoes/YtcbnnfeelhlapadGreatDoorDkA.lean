/-
  Desks: New, Writer, goes, join.
-/
import Derived.Test.YtcbnnfeelhlapadGreatDoorDkWr
namespace Go.Proofs.YtcbnnfeelhlapadGreatDoor
set_option maxHeartbeats 3200000
set_option maxRecDepth 20000
open Go Go.RowKit
abbrev zkw(G:Nat):Array Value:= #[.pointer (some ⟨G,0,none⟩),.pointer none,.pointer none,.pointer none,.pointer none]
theorem qct(w:World)(G:Nat):TwC (w.alloc (.cells (zkw G) 59)) w.heap.size G (fun _=>0) (zbs zpy):=by
 refine⟨by simp,by simp[go_sem],fun k hk=> ?_,fun o ho=> ?_⟩
 ·rcases(show k=0∨k=1∨k=2∨k=3 by omega)with rfl|rfl|rfl|rfl<;>simp[go_sem,zbs,zpy,zbu]
 ·rcases(show o=0∨o=1∨o=2∨o=3∨o=4 by omega)with rfl|rfl|rfl|rfl|rfl<;>simp[go_sem]
theorem new_dk(w:World):Calls Tryz.prog 12 #[] w fun e w'=>e= .returned (.pointer (some ⟨w.heap.size+1,0,none⟩))∧w'=(w.alloc (.cells logZ 104)).alloc (.cells (zkw w.heap.size) 59):=by
 go_enter Tryz.func12,Tryz.ntmps12
 go_wp2_with fail
 refine(newL_lg w).mono ?_
 rintro e w1 ⟨rfl,rfl⟩
 go_wp2
 go_ret
 exact⟨by simp,rfl⟩
def zhv(pw:Nat→Nat)(hs:Nat→Bool)(n:Int):Value:=if wrB n=true then zbu (hs n.toNat) (pw n.toNat)else .pointer none
theorem qg9{pw:Nat→Nat}{t:Twn}{k:Nat}(hk:k<4){r:Wr}(he:t.ws k=some r):zhv pw (zbs t) k= .pointer (some ⟨pw k,0,none⟩):=by
 have hw:wrB (k:Int)=true:=by simp[wrB];omega
 rw[zhv,if_pos hw]
 have:zbs t (k:Int).toNat=true:=by unfold zbs;rw[Int.toNat_natCast,he];rfl
 rw[zbu,if_pos this,Int.toNat_natCast]
theorem qga{pw:Nat→Nat}{t:Twn}{n:Int}(he:t.ws n=none):zhv pw (zbs t) n= .pointer none:=by
 unfold zhv
 split
 ·rename_i hw
  have hw':0≤n∧n≤3:=by simpa [wrB]using hw
  have:zbs t n.toNat=false:=by unfold zbs;rw[show((n.toNat:Nat):Int)=n by omega,he];rfl
  rw[zbu,this];rfl
 ·rfl
theorem zo3{w:World}{D G:Nat}{pw:Nat→Nat}{hs:Nat→Bool}(h:TwC w D G pw hs)(n:Int):
 Calls Tryz.prog 66 #[.pointer (some ⟨D,0,none⟩),.int .i64 n] w fun e w'=>e= .returned (zhv pw hs n)∧w'=w:=by
 have HA:Hid (TwC w D G pw hs):=h
 cases hw:wrB n with
 |false=>
  have HP:Hid (zhv pw hs n= .pointer none):=by show zhv pw hs n=_;rw[zhv,if_neg (by rw[hw];simp)]
  clear h
  go_enter Tryz.func66,Tryz.ntmps66
  go_wp2_with (go_at_call 116;refine(zbl _ _).mono ?_;rintro e w' ⟨rfl,rfl⟩;rw[hw])
  go_ret
  exact⟨by rw[HP.out];rfl,rfl⟩
 |true=>
  obtain⟨j,rfl,hj⟩:=zc3 hw
  have HP:Hid (zhv pw hs (j:Int)=zbu (hs j) (pw j)):=by show zhv pw hs j=_;rw[zhv,if_pos hw,Int.toNat_natCast]
  have c1:=h.ws j hj
  have hlt:=h.lt
  generalize zbu (hs j) (pw j)=v at*
  clear h
  go_enter Tryz.func66,Tryz.ntmps66
  go_wp2_with (go_at_call 116;refine(zbl _ _).mono ?_;rintro e w' ⟨rfl,rfl⟩;rw[hw])
  go_ret
  exact⟨by rw[HP.out];rfl,rfl⟩
theorem zxm{w:World}{base D G:Nat}{pw:Nat→Nat}{t:Twn}{tk:Int→List (List Ch)}{S:Nat→Prop}(h:zik base D G pw t tk w S){k:Nat}(hk:k<4):
 Calls Tryz.prog 123 #[.pointer (some ⟨D,0,none⟩),.int .i64 (k:Int)] w fun e w'=>e= .returned (.tuple #[])∧zhg base w S D G pw (zdl t k) tk w':=by
 have HI:Hid (zap base w S D G pw t tk (fun _=>Th.no base) w):=h.start
 have HL:Hid (base≤w.heap.size∧∀k,S k→base≤k∧k<w.heap.size):=h.held
 have g0:=HI.out.cells.book
 have hlt:=HI.out.cells.lt
 have hk4:(k:Int)<4:=by omega
 clear h
 go_enter Tryz.func123,Tryz.ntmps123
 go_wp2_with fail
 obtain⟨T,dv,lv,hl,hs⟩:=HI.out.log
 refine(leave_lg hl (k:Int)).mono ?_
 rintro e w1 ⟨rfl,hto⟩
 have H1:Hid (zap base w S D G pw ⟨zcs t.b k,t.ws⟩ tk (fun _=>Th.no base) w1):=hs _ _ hto
 clear hto hs hl HI g0 hlt
 have H2:Hid (zap base w S D G pw (zdl t k) tk (fun _=>Th.no base) (w1.setCell ⟨D,1+k,none⟩ (.pointer none))):=H1.out.clear hk
 obtain⟨u1,c1⟩:∃u,w1.cell? ⟨D,1+k,none⟩=some u:=⟨_,H1.out.cells.ws k hk⟩
 have f1:=H1.out.cells.free (1+k) (by omega)
 have hlt:=H1.out.cells.lt
 clear H1
 go_wp2_with fail
 go_end0
 exact⟨rfl,H2.out.done HL.out⟩
theorem qbe{w:World}{base D G:Nat}{pw:Nat→Nat}{t:Twn}{tk:Int→List (List Ch)}{S:Nat→Prop}(h:zik base D G pw t tk w S)(hr:TR t tk)(n:Int)(hc:zc6 t.b n≠0):
 Calls Tryz.prog 65 #[.pointer (some ⟨D,0,none⟩),.int .i64 n] w fun e w'=>e= .returned (.int .i64 (zc6 t.b n))∧zhg base w S D G pw t tk w':=by
 have HI:Hid (zap base w S D G pw t tk (fun _=>Th.no base) w):=h.start
 have HL:Hid (base≤w.heap.size∧∀k,S k→base≤k∧k<w.heap.size):=h.held
 have HR:Hid (TR t tk):=hr
 have HB:Hid (zbw t.b n=t.b):=zmh hc
 have g0:=HI.out.cells.book
 have hlt:=HI.out.cells.lt
 have HC:Hid (zc6 t.b n≠0):=hc
 clear h hr hc
 go_enter Tryz.func65,Tryz.ntmps65
 go_wp2_with fail
 obtain⟨T,dv,lv,hl,hs⟩:=HI.out.log
 refine(qfd hl HR.out.ti.good n).mono ?_
 rintro e w1 ⟨rfl,hto⟩
 have H1:Hid (zap base w S D G pw t tk (fun _=>Th.no base) w1):=by have:=hs _ _ hto;rw[HB.out]at this;exact this
 clear hto hs hl HI g0 hlt
 generalize zey t.b n=m at*
 obtain⟨c,hcq⟩:∃c,zc6 t.b n=c:=⟨_,rfl⟩
 have HCQ:Hid (zc6 t.b n=c):=hcq
 have hcn:¬c=0:=by rw[←hcq];exact HC.out
 rw[hcq]
 clear hcq
 go_wp2_with fail
 go_ret
 exact⟨by rw[HCQ.out];rfl,H1.out.done HL.out⟩
def DLog(D G:Nat)(wk:World):Prop:=D<wk.heap.size∧wk.cell? ⟨D,0,none⟩=some (.pointer (some ⟨G,0,none⟩))
theorem zap.dlog{base D G:Nat}{pw:Nat→Nat}{t:Twn}{tk:Int→List (List Ch)}{ex:Nat→Th base}{w0 wk:World}{S:Nat→Prop}(h:zap base w0 S D G pw t tk ex wk):DLog D G wk:=⟨h.cells.lt,h.cells.book⟩
structure JK(base:Nat)(w:World)(S:Nat→Prop)(D G:Nat)(pw:Nat→Nat)(t:Twn)(tk:Int→List (List Ch))(l:List Ch)(u:Value)(wk:World):Prop where
 di:zap base w S D G pw t tk (fun _=>Th.no base) wk
 own:∃b0,Own wk b0 u l
structure NK(base:Nat)(w:World)(S:Nat→Prop)(D G:Nat)(pw:Nat→Nat)(t:Twn)(tk:Int→List (List Ch))(r:Wr)(u:Value)(wk:World):Prop where
 di:zap base w S D G pw t tk (fun _=>Th.no base) wk
 new:∃P w1 v1,u= .pointer (some ⟨P,0,none⟩)∧zap base w S D G pw t tk (fun _=>Th.no base) w1∧Below w1.heap.size w1 wk∧zcn wk w1.heap.size (fun k=>w1.heap.size≤k∧k<wk.heap.size) P v1 (.slice none 0 0) [] r.base [] [] r.me r.next r.seen 0
theorem NK.seat{base D G P k:Nat}{pw:Nat→Nat}{t:Twn}{tk:Int→List (List Ch)}{w wk:World}{S:Nat→Prop}{r:Wr}(h:NK base w S D G pw t tk r (.pointer (some ⟨P,0,none⟩)) wk)(hk:k<4)(hr:r.opens=[])(hs:r.sent=0):
 zap base w S D G (zom pw k P) ⟨t.b,zab t.ws k (some r)⟩ (zab tk k []) (fun _=>Th.no base) (wk.setCell ⟨D,1+k,none⟩ (.pointer (some ⟨P,0,none⟩))):=by
 obtain⟨P',w1,v1,he,h1,h2,h3⟩:=h.new
 obtain rfl:P=P':=by simpa using he
 exact h1.newW h2 hk hr hs h3
theorem zxb{w:World}{base D G:Nat}{pw:Nat→Nat}{t:Twn}{tk:Int→List (List Ch)}{S:Nat→Prop}(h:zik base D G pw t tk w S)(hr:TR t tk){k:Nat}(hk:k<4)(hc:zc6 t.b k=0):
 Calls Tryz.prog 65 #[.pointer (some ⟨D,0,none⟩),.int .i64 (k:Int)] w fun e w'=>e= .returned (.int .i64 0)∧∃P,zhg base w S D G (zom pw k P) ⟨zbw t.b k,zab t.ws k (some (newW t.b k))⟩ (zab tk k []) w':=by
 have HI:Hid (zap base w S D G pw t tk (fun _=>Th.no base) w):=h.start
 have HL:Hid (base≤w.heap.size∧∀k,S k→base≤k∧k<w.heap.size):=h.held
 have HR:Hid (TR t tk):=hr
 have HJC:Hid (zc6 t.b k=0):=hc
 have HJN:Hid (zey t.b k=t.b.last k+1):=by show zey t.b k=_;rw[zey,if_pos hc]
 have HSM:Hid ((t.b.ds.length:Int)≤120):=by have:=hr.ti.good.small;show(t.b.ds.length:Int)≤120;omega
 have HLE:Hid (t.b.chars.length≤1000):=by have:=zb2 (b:=t.b);show _≤_;omega
 have HN1:Hid (1≤t.b.last k+1):=by have:=(zb6 hr.ti.good k).1;show 1≤t.b.last k+1;omega
 have HCK:Hid (∀r,zl0 t.b.chars (t.b.ds.length:Int) r→r=0):=qbl hr.ti.good
 have HOP:Hid ((t.b.chars.any fun x=>decide (x.inn=za0))=false):=qfq hr.ti.good
 have hk0:wrB (k:Int)=true:=by simp[wrB];omega
 have hk4:(k:Int)<4:=by omega
 have g0:=HI.out.cells.book
 have hlt:=HI.out.cells.lt
 clear h hr hc
 go_enter Tryz.func65,Tryz.ntmps65
 go_wp2_with fail
 obtain⟨T,dv,lv,hl,hs⟩:=HI.out.log
 refine(qfd hl HR.out.ti.good k).mono ?_
 rintro e w1 ⟨rfl,hto⟩
 rw[HJC.out,HJN.out]
 have H1:Hid (zap base w S D G pw ⟨zbw t.b k,t.ws⟩ tk (fun _=>Th.no base) w1):=hs _ _ hto
 clear hto hs hl HI g0 hlt
 go_wp2_with fail
 refine wrs (fun wk=>DLog D G wk) (fun i=>i==8||i==13||i==14||i==18) (fun wk=>zap base w S D G pw ⟨zbw t.b k,t.ws⟩ tk (fun _=>Th.no base) wk) (by kernel_rfl) (by kernel_rfl) (by kernel_rfl) (fun _ h=>h.dlog) (H1.out.after (Below.refl _ _).drew) ?_
 refine wsb (some 19) w rfl (.pointer (some ⟨D,0,none⟩)) rfl (by kernel_rfl) (fun wk hwk=> ?_) ?_
 ·generalize hA:Act.eval _=ρ
  have s0:ρ (.tmp 0)= .pointer (some ⟨D,0,none⟩):=by rw[←hA];kernel_rfl
  clear hA
  go_simp
 go_big_quiet_op
 refine wsb (some 20) w rfl (.int .i64 (k:Int)) rfl (by kernel_rfl) (fun wk hwk=> ?_) ?_
 ·generalize hA:Act.eval _=ρ
  have s1:ρ (.tmp 1)= .int .i64 (k:Int):=by rw[←hA];kernel_rfl
  clear hA
  go_simp
 go_big_quiet_op
 refine wsb (some 21) w rfl (.int .i64 (k:Int)) rfl (by kernel_rfl) (fun wk hwk=> ?_) ?_
 ·generalize hA:Act.eval _=ρ
  have s1:ρ (.tmp 1)= .int .i64 (k:Int):=by rw[←hA];kernel_rfl
  clear hA
  go_simp
 go_big_quiet_op
 refine wsb (some 22) w rfl (.int .i64 (t.b.last k+1)) rfl (by kernel_rfl) (fun wk hwk=> ?_) ?_
 ·generalize hA:Act.eval _=ρ
  have s5:ρ (.tmp 5)= .int .i64 (t.b.last k+1):=by rw[←hA];kernel_rfl
  clear hA
  go_simp
 go_big_quiet_op
 refine wsb (some 23) w rfl (.pointer (some ⟨D,0,none⟩)) rfl (by kernel_rfl) (fun wk hwk=> ?_) ?_
 ·generalize hA:Act.eval _=ρ
  have s0:ρ (.tmp 0)= .pointer (some ⟨D,0,none⟩):=by rw[←hA];kernel_rfl
  clear hA
  go_simp
 go_big_quiet_op
 refine wsb (some 24) w rfl (.pointer (some ⟨D,0,none⟩)) rfl (by kernel_rfl) (fun wk hwk=> ?_) ?_
 ·generalize hA:Act.eval _=ρ
  have s23:ρ (.tmp 23)= .pointer (some ⟨D,0,none⟩):=by rw[←hA];kernel_rfl
  clear hA
  go_simp
 go_big_quiet_op
 refine wsb (some 25) w rfl (.pointer (some ⟨D,0,none⟩)) rfl (by kernel_rfl) (fun wk hwk=> ?_) ?_
 ·generalize hA:Act.eval _=ρ
  have s24:ρ (.tmp 24)= .pointer (some ⟨D,0,none⟩):=by rw[←hA];kernel_rfl
  clear hA
  go_simp
 go_big_quiet_op
 refine wsb (some 26) w rfl (.pointer (some ⟨G,0,none⟩)) rfl (by kernel_rfl) (fun wk hwk=> ?_) ?_
 ·generalize hA:Act.eval _=ρ
  have s25:ρ (.tmp 25)= .pointer (some ⟨D,0,none⟩):=by rw[←hA];kernel_rfl
  clear hA
  have g0:=hwk.2
  have hlt:=hwk.1
  go_simp
 go_big_quiet_op
 refine zaa (some 27) w rfl rfl rfl (fun u=>u= .int .i64 ((t.b.ds.length:Int))) (fun u wk=>zap base w S D G pw ⟨zbw t.b k,t.ws⟩ tk (fun _=>Th.no base) wk) (⟨_,rfl⟩) (fun _ _ h=>h.dlog) (fun wk hwk=> ?_) (fun u8 hu8=> ?_)
 ·generalize hA:Act.eval _=ρ
  have s26:ρ (.tmp 26)= .pointer (some ⟨G,0,none⟩):=by rw[←hA];kernel_rfl
  have sf:ρ (.func 85)= .func (.func 85) #[] #[]:=by rw[←hA];kernel_rfl
  clear hA
  go_simp
  obtain⟨T,dv,lv,hl,_⟩:=hwk.log
  refine(zir hl).mono ?_
  rintro e w7 ⟨rfl,rfl⟩
  exact⟨_,rfl,by rw[show(Twn.b (⟨zbw t.b k,t.ws⟩:Twn)).ds=t.b.ds from zsq _ _],hwk⟩
 subst hu8
 go_big_quiet_op
 refine wsb (some 28) w rfl (.pointer (some ⟨D,0,none⟩)) rfl (by kernel_rfl) (fun wk hwk=> ?_) ?_
 ·generalize hA:Act.eval _=ρ
  have s0:ρ (.tmp 0)= .pointer (some ⟨D,0,none⟩):=by rw[←hA];kernel_rfl
  clear hA
  go_simp
 go_big_quiet_op
 refine wsb (some 29) w rfl (.pointer (some ⟨D,0,none⟩)) rfl (by kernel_rfl) (fun wk hwk=> ?_) ?_
 ·generalize hA:Act.eval _=ρ
  have s28:ρ (.tmp 28)= .pointer (some ⟨D,0,none⟩):=by rw[←hA];kernel_rfl
  clear hA
  go_simp
 go_big_quiet_op
 refine wsb (some 30) w rfl (.pointer (some ⟨D,0,none⟩)) rfl (by kernel_rfl) (fun wk hwk=> ?_) ?_
 ·generalize hA:Act.eval _=ρ
  have s29:ρ (.tmp 29)= .pointer (some ⟨D,0,none⟩):=by rw[←hA];kernel_rfl
  clear hA
  go_simp
 go_big_quiet_op
 refine wsb (some 31) w rfl (.pointer (some ⟨G,0,none⟩)) rfl (by kernel_rfl) (fun wk hwk=> ?_) ?_
 ·generalize hA:Act.eval _=ρ
  have s30:ρ (.tmp 30)= .pointer (some ⟨D,0,none⟩):=by rw[←hA];kernel_rfl
  clear hA
  have g0:=hwk.2
  have hlt:=hwk.1
  go_simp
 go_big_quiet_op
 refine zaa (some 32) w rfl rfl rfl (fun u=>True) (fun u wk=>JK base w S D G pw ⟨zbw t.b k,t.ws⟩ tk t.b.chars u wk) (⟨undef,trivial⟩) (fun _ _ h=>h.di.dlog) (fun wk hwk=> ?_) (fun u13 hu13=> ?_)
 ·generalize hA:Act.eval _=ρ
  have s31:ρ (.tmp 31)= .pointer (some ⟨G,0,none⟩):=by rw[←hA];kernel_rfl
  have sf:ρ (.func 115)= .func (.func 115) #[] #[]:=by rw[←hA];kernel_rfl
  clear hA
  go_simp
  obtain⟨T,dv,lv,hl,_⟩:=hwk.log
  refine(zzx hl).mono ?_
  rintro e w7 ⟨v7,rfl,hown,hb⟩
  rw[show(Twn.b (⟨zbw t.b k,t.ws⟩:Twn)).chars=t.b.chars from zp8 _ _]at hown
  exact⟨_,rfl,hwk.after hb,_,hown⟩
 clear hu13
 go_big_quiet_op
 refine zaa (some 33) w rfl rfl rfl (fun u=>∃P,u= .pointer (some ⟨P,0,none⟩)) (fun u wk=>NK base w S D G pw ⟨zbw t.b k,t.ws⟩ tk (newW t.b k) u wk) (⟨.pointer (some ⟨0,0,none⟩),0,rfl⟩) (fun _ _ h=>h.di.dlog) (fun wk hwk=> ?_) (fun u14 hu14=> ?_)
 ·generalize hA:Act.eval _=ρ
  have s21:ρ (.tmp 21)= .int .i64 (k:Int):=by rw[←hA];kernel_rfl
  have s22:ρ (.tmp 22)= .int .i64 (t.b.last k+1):=by rw[←hA];kernel_rfl
  have s27:ρ (.tmp 27)= .int .i64 ((t.b.ds.length:Int)):=by rw[←hA];kernel_rfl
  have s32:ρ (.tmp 32)=u13:=by rw[←hA];kernel_rfl
  have sf:ρ (.func 114)= .func (.func 114) #[] #[]:=by rw[←hA];kernel_rfl
  clear hA
  go_simp
  obtain⟨b0,hown⟩:=hwk.own
  refine(new_pw hown.lst HLE.out k (t.b.last k+1) t.b.ds.length hk0 HN1.out (by omega) HSM.out HCK.out HOP.out).mono ?_
  rintro e w7 ⟨P,v1,rfl,hat,hb⟩
  exact⟨_,rfl,⟨P,rfl⟩,hwk.di.after hb,P,wk,v1,rfl,hwk.di,hb,hat⟩
 obtain⟨P,rfl⟩:=hu14
 go_big_quiet_op
 refine wsb (some 34) w rfl (.pointer (some ⟨D,0,none⟩)) rfl (by kernel_rfl) (fun wk hwk=> ?_) ?_
 ·generalize hA:Act.eval _=ρ
  have s19:ρ (.tmp 19)= .pointer (some ⟨D,0,none⟩):=by rw[←hA];kernel_rfl
  clear hA
  go_simp
 go_big_quiet_op
 refine wsb (some 35) w rfl (.pointer (some ⟨D,1,none⟩)) rfl (by kernel_rfl) (fun wk hwk=> ?_) ?_
 ·generalize hA:Act.eval _=ρ
  have s34:ρ (.tmp 34)= .pointer (some ⟨D,0,none⟩):=by rw[←hA];kernel_rfl
  clear hA
  go_simp
 go_big_quiet_op
 refine wsb (some 36) w rfl (.pointer (some ⟨D,1+k,none⟩)) rfl (by kernel_rfl) (fun wk hwk=> ?_) ?_
 ·generalize hA:Act.eval _=ρ
  have s35:ρ (.tmp 35)= .pointer (some ⟨D,1,none⟩):=by rw[←hA];kernel_rfl
  have s20:ρ (.tmp 20)= .int .i64 (k:Int):=by rw[←hA];kernel_rfl
  clear hA
  go_simp
 go_big_quiet_op
 refine zim rfl rfl rfl (fun wk=>zap base w S D G (zom pw k P) ⟨zbw t.b k,zab t.ws k (some (newW t.b k))⟩ (zab tk k []) (fun _=>Th.no base) wk) (fun _ h=>h.dlog) (fun wk hwk=> ?_) ?_
 ·generalize hA:Act.eval _=ρ
  have s36:ρ (.tmp 36)= .pointer (some ⟨D,1+k,none⟩):=by rw[←hA];kernel_rfl
  have s33:ρ (.tmp 33)= .pointer (some ⟨P,0,none⟩):=by rw[←hA];kernel_rfl
  clear hA
  have hq:=hwk.seat hk rfl rfl
  obtain⟨u1,cc⟩:∃u,wk.cell? ⟨D,1+k,none⟩=some u:=⟨_,hwk.di.cells.ws k hk⟩
  have ff:=hwk.di.cells.free (1+k) (by omega)
  have hlt:=hwk.di.cells.lt
  go_simp
  exact hq
 refine wsn (fun w9 hw9=> ?_)
 have H9:Hid (zap base w S D G (zom pw k P) ⟨zbw t.b k,zab t.ws k (some (newW t.b k))⟩ (zab tk k []) (fun _=>Th.no base) w9):=hw9
 clear hw9 H1
 go_wp2_with fail
 go_ret
 exact⟨rfl,P,H9.out.done HL.out⟩
end Go.Proofs.YtcbnnfeelhlapadGreatDoor