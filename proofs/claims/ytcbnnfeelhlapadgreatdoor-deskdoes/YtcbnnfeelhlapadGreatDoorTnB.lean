/-
  A town by the document: Do of steps that no scribe does; of one that comes.
-/
import Derived.Test.YtcbnnfeelhlapadGreatDoorTnA
import Derived.Test.YtcbnnfeelhlapadGreatDoorFDeeds
namespace Go.Proofs.YtcbnnfeelhlapadGreatDoor
set_option maxHeartbeats 6400000
set_option maxRecDepth 20000
open Go Go.RowKit
theorem tdo_bad{w:World}{base D G:Nat}{pw:Nat→Nat}{t:Twn}{S:Nat→Prop}(h:zke base D G pw t w S){tk:Int→List (List Ch)}(hr:TR t tk)(x:Tst)(hkd:x.kind<1∨7<x.kind):
 Calls Tryz.prog 56 #[.pointer (some ⟨D,0,none⟩),tsV x] w fun e w'=>e= .returned (.int .i64 2)∧zkd base w S D G pw t w':=by
 have HI:Hid (zb8 base w S D G pw t (zag (fun _=>Th.no base) 0 (Th.st base w.heap.size x)) (w.alloc (zc8 x))):=h.start.step x 0
 have HL:Hid (base≤w.heap.size∧∀k,S k→base≤k∧k<w.heap.size):=h.held
 have HR:Hid (TR t tk):=hr
 obtain⟨kind,w_,at_,many,text⟩:=x
 clear h hr
 rcases(show kind<1∨7<kind from hkd)with hq|hq
 ·clear hkd
  go_enter Tryz.func56,Tryz.ntmps56
  go_wp2
  go_ret
  exact⟨rfl,HI.out.done HL.out⟩
 ·have hq2:¬kind<1:=by omega
  clear hkd
  go_enter Tryz.func56,Tryz.ntmps56
  go_wp2
  go_ret
  exact⟨rfl,HI.out.done HL.out⟩
def TBox(D G E:Nat)(x:Tst)(wk:World):Prop:=DLog D G wk∧zrk wk E 0 x
section
variable {base D G E:Nat} {pw:Nat→Nat} {t:Twn} {ex:Nat→Th base} {w0 wk w':World} {S:Nat→Prop} {x:Tst}
theorem zb8.dlog(h:zb8 base w0 S D G pw t ex wk):DLog D G wk:=⟨h.cells.lt,h.cells.book⟩
theorem zb8.tbox(h:zb8 base w0 S D G pw t (zag ex 0 (Th.st base E x)) wk):TBox D G E x wk:=⟨h.dlog,h.stepAt⟩
theorem zb8.shut:Shut (fun wk=>zb8 base w0 S D G pw t ex wk):=fun _ _ h hb=>h.after hb
def TBk(D G E:Nat)(x:Tst)(dv:Value)(wk:World):Prop:=TBox D G E x wk∧G<wk.heap.size∧wk.cell? ⟨G,0,none⟩=some dv
structure JT(base:Nat)(w0:World)(S:Nat→Prop)(D G:Nat)(pw:Nat→Nat)(t:Twn)(E:Nat)(x:Tst)(dv:Value)(wk:World):Prop where
 di:zb8 base w0 S D G pw t (zag (fun _=>Th.no base) 0 (Th.st base E x)) wk
 bk:G<wk.heap.size∧wk.cell? ⟨G,0,none⟩=some dv
theorem JT.tbk{dv:Value}(h:JT base w0 S D G pw t E x dv wk):TBk D G E x dv wk:=⟨h.di.tbox,h.bk⟩
theorem JT.after{dv:Value}(h:JT base w0 S D G pw t E x dv wk)(hb:Below wk.heap.size wk w'):JT base w0 S D G pw t E x dv w':=
 ⟨h.di.after hb,Nat.lt_of_lt_of_le h.bk.1 hb.size,by rw[(zds hb).1 _ _ h.bk.1];exact h.bk.2⟩
structure JTL(base:Nat)(w0:World)(S:Nat→Prop)(D G:Nat)(pw:Nat→Nat)(t:Twn)(E:Nat)(x:Tst)(dv:Value)(l:List Ch)(u:Value)(wk:World):Prop where
 jt:JT base w0 S D G pw t E x dv wk
 own:Lst wk u l
structure NT(base:Nat)(w0:World)(S:Nat→Prop)(D G:Nat)(pw:Nat→Nat)(t:Twn)(E:Nat)(x:Tst)(dv:Value)(r:Wr)(u:Value)(wk:World):Prop where
 jt:JT base w0 S D G pw t E x dv wk
 new:∃P w1 v1,u= .pointer (some ⟨P,0,none⟩)∧zb8 base w0 S D G pw t (zag (fun _=>Th.no base) 0 (Th.st base E x)) w1∧Below w1.heap.size w1 wk∧zes wk w1.heap.size (fun k=>w1.heap.size≤k∧k<wk.heap.size) P v1 (.slice none 0 0) r.base [] r.me r.seen r.next 0
theorem NT.seat{P k:Nat}{dv:Value}{r:Wr}(h:NT base w0 S D G pw t E x dv r (.pointer (some ⟨P,0,none⟩)) wk)(hk:k<4)(hr:r.opens=[])(hs:r.sent=0):
 JT base w0 S D G (zom pw k P) ⟨t.b,zab t.ws k (some r)⟩ E x dv (wk.setCell ⟨D,1+k,none⟩ (.pointer (some ⟨P,0,none⟩))):=by
 obtain⟨P',w1,v1,he,h1,h2,h3⟩:=h.new
 obtain rfl:P=P':=by simpa using he
 have hne:=h.jt.di.ne
 refine⟨h1.newS h2 hk hr hs h3,by simpa [World.setCell]using h.jt.bk.1,?_⟩
 rw[World.cell?_of_block (a:=⟨G,0,none⟩) (Below.heap_setCell _ _ _ _ (fun e=>hne e.symm))]
 exact h.jt.bk.2
end
theorem zw7{w:World}{base D G:Nat}{pw:Nat→Nat}{t:Twn}{S:Nat→Prop}(h:zke base D G pw t w S){tk:Int→List (List Ch)}(hr:TR t tk)(x:Tst)(hkd:x.kind=1)(hc:zc6 t.b x.w≠0):
 Calls Tryz.prog 56 #[.pointer (some ⟨D,0,none⟩),tsV x] w fun e w'=>e= .returned (.int .i64 (zc6 t.b x.w))∧zkd base w S D G pw t w':=by
 have HI:Hid (zb8 base w S D G pw t (zag (fun _=>Th.no base) 0 (Th.st base w.heap.size x)) (w.alloc (zc8 x))):=h.start.step x 0
 have HL:Hid (base≤w.heap.size∧∀k,S k→base≤k∧k<w.heap.size):=h.held
 have HR:Hid (TR t tk):=hr
 have HC:Hid (zc6 t.b x.w≠0):=hc
 clear hc
 obtain⟨kind,w_,at_,many,text⟩:=x
 clear h hr
 obtain rfl:kind=1:=hkd
 obtain⟨nx,hnx⟩:∃c,zey t.b w_=c:=⟨_,rfl⟩
 have HNX:Hid (zey t.b w_=nx):=hnx
 obtain⟨cd,hcd⟩:∃c,zc6 t.b w_=c:=⟨_,rfl⟩
 have HCD:Hid (zc6 t.b w_=cd):=hcd
 have HB:Hid (zbw t.b w_=t.b):=zmh HC.out
 have hcn:¬cd=0:=by rw[←hcd];exact HC.out
 clear hnx hcd
 go_enter Tryz.func56,Tryz.ntmps56
 go_wp2_with fail
 generalize World.alloc _ _=w5 at*
 refine wrs (fun wk=>TBox D G w.heap.size ⟨1,w_,at_,many,text⟩ wk) (fun i=>i==6) (fun wk=>zb8 base w S D G pw t (zag (fun _=>Th.no base) 0 (Th.st base w.heap.size ⟨1,w_,at_,many,text⟩)) wk) (by kernel_rfl) (by kernel_rfl) (by kernel_rfl) (fun _ h=>h.tbox) (HI.out.after (Below.refl _ _).drew) ?_
 refine wsb (some 29) w rfl (.pointer (some ⟨D,0,none⟩)) rfl (by kernel_rfl) (fun wk hwk=> ?_) ?_
 ·generalize hA:Act.eval _=ρ
  have s0:ρ (.tmp 0)= .pointer (some ⟨D,0,none⟩):=by rw[←hA];kernel_rfl
  clear hA
  go_simp
 go_big_quiet_op
 refine wsb (some 30) w rfl (.pointer (some ⟨D,0,none⟩)) rfl (by kernel_rfl) (fun wk hwk=> ?_) ?_
 ·generalize hA:Act.eval _=ρ
  have s29:ρ (.tmp 29)= .pointer (some ⟨D,0,none⟩):=by rw[←hA];kernel_rfl
  clear hA
  go_simp
 go_big_quiet_op
 refine wsb (some 31) w rfl (.pointer (some ⟨D,0,none⟩)) rfl (by kernel_rfl) (fun wk hwk=> ?_) ?_
 ·generalize hA:Act.eval _=ρ
  have s30:ρ (.tmp 30)= .pointer (some ⟨D,0,none⟩):=by rw[←hA];kernel_rfl
  clear hA
  go_simp
 go_big_quiet_op
 refine wsb (some 32) w rfl (.pointer (some ⟨G,0,none⟩)) rfl (by kernel_rfl) (fun wk hwk=> ?_) ?_
 ·generalize hA:Act.eval _=ρ
  have s31:ρ (.tmp 31)= .pointer (some ⟨D,0,none⟩):=by rw[←hA];kernel_rfl
  clear hA
  have g0:=hwk.1.2
  have hlt:=hwk.1.1
  go_simp
 go_big_quiet_op
 refine wsb (some 33) w rfl (.pointer (some ⟨w.heap.size,1,none⟩)) rfl (by kernel_rfl) (fun wk hwk=> ?_) ?_
 ·generalize hA:Act.eval _=ρ
  have s3:ρ (.tmp 3)= .pointer (some ⟨w.heap.size,0,none⟩):=by rw[←hA];kernel_rfl
  clear hA
  go_simp
 go_big_quiet_op
 refine wsb (some 34) w rfl (.int .i64 (w_)) rfl (by kernel_rfl) (fun wk hwk=> ?_) ?_
 ·generalize hA:Act.eval _=ρ
  have s33:ρ (.tmp 33)= .pointer (some ⟨w.heap.size,1,none⟩):=by rw[←hA];kernel_rfl
  clear hA
  obtain⟨_,c0,c1,c2,c3,c4⟩:=hwk.2
  simp only[Nat.zero_add]at c1
  go_simp
 go_big_quiet_op
 refine zaa (some 35) w rfl rfl rfl (fun u=>u= .tuple #[.int .i64 (nx),.int .i64 (cd)]) (fun u wk=>zb8 base w S D G pw ⟨zbw t.b w_,t.ws⟩ (zag (fun _=>Th.no base) 0 (Th.st base w.heap.size ⟨1,w_,at_,many,text⟩)) wk) (⟨_,rfl⟩) (fun _ _ h=>h.tbox) (fun wk hwk=> ?_) (fun u9 hu9=> ?_)
 ·generalize hA:Act.eval _=ρ
  have s32:ρ (.tmp 32)= .pointer (some ⟨G,0,none⟩):=by rw[←hA];kernel_rfl
  have s34:ρ (.tmp 34)= .int .i64 (w_):=by rw[←hA];kernel_rfl
  have sf:ρ (.func 92)= .func (.func 92) #[] #[]:=by rw[←hA];kernel_rfl
  clear hA
  go_simp
  obtain⟨T,dv,hl,hs⟩:=hwk.book
  refine(qfe hl HR.out.ti.good _).mono ?_
  rintro e w7 ⟨rfl,hto⟩
  exact⟨_,rfl,by rw[HNX.out,HCD.out],hs _ _ hto⟩
 subst hu9
 go_big_quiet_op
 refine wsb (some 28) w rfl (.tuple #[.int .i64 (nx),.int .i64 (cd)]) rfl (by kernel_rfl) (fun wk hwk=> ?_) ?_
 ·generalize hA:Act.eval _=ρ
  have s35:ρ (.tmp 35)= .tuple #[.int .i64 (nx),.int .i64 (cd)]:=by rw[←hA];kernel_rfl
  clear hA
  go_simp
 go_big_quiet_op
 refine wsb (some 36) w rfl (.int .i64 (nx)) rfl (by kernel_rfl) (fun wk hwk=> ?_) ?_
 ·generalize hA:Act.eval _=ρ
  have s28:ρ (.tmp 28)= .tuple #[.int .i64 (nx),.int .i64 (cd)]:=by rw[←hA];kernel_rfl
  clear hA
  go_simp
 go_big_quiet_op
 refine wsb (some 37) w rfl (.int .i64 (cd)) rfl (by kernel_rfl) (fun wk hwk=> ?_) ?_
 ·generalize hA:Act.eval _=ρ
  have s28:ρ (.tmp 28)= .tuple #[.int .i64 (nx),.int .i64 (cd)]:=by rw[←hA];kernel_rfl
  clear hA
  go_simp
 go_big_quiet_op
 refine wsb (some 5) w rfl (.int .i64 (nx)) rfl (by kernel_rfl) (fun wk hwk=> ?_) ?_
 ·generalize hA:Act.eval _=ρ
  have s36:ρ (.tmp 36)= .int .i64 (nx):=by rw[←hA];kernel_rfl
  clear hA
  go_simp
 go_big_quiet_op
 refine wsb (some 6) w rfl (.int .i64 (cd)) rfl (by kernel_rfl) (fun wk hwk=> ?_) ?_
 ·generalize hA:Act.eval _=ρ
  have s37:ρ (.tmp 37)= .int .i64 (cd):=by rw[←hA];kernel_rfl
  clear hA
  go_simp
 go_big_quiet_op
 refine wsn (fun w9 hw9=> ?_)
 have H9:Hid (zb8 base w S D G pw ⟨zbw t.b w_,t.ws⟩ (zag (fun _=>Th.no base) 0 (Th.st base w.heap.size ⟨1,w_,at_,many,text⟩)) w9):=hw9
 clear hw9 HI
 go_wp2_with fail
 go_ret
 exact⟨by rw[HCD.out];rfl,by have:=H9.out;rw[HB.out]at this;exact this.done HL.out⟩
theorem zto{w:World}{base D G:Nat}{pw:Nat→Nat}{t:Twn}{S:Nat→Prop}(h:zke base D G pw t w S){tk:Int→List (List Ch)}(hr:TR t tk)(x:Tst)(hkd:x.kind=1){k:Nat}(hk:k<4)(hxw:x.w=k)(hc:zc6 t.b k=0):
 Calls Tryz.prog 56 #[.pointer (some ⟨D,0,none⟩),tsV x] w fun e w'=>e= .returned (.int .i64 0)∧∃P,zkd base w S D G (zom pw k P) ⟨zbw t.b k,zab t.ws k (some (newW t.b k))⟩ w':=by
 have HI:Hid (zb8 base w S D G pw t (zag (fun _=>Th.no base) 0 (Th.st base w.heap.size x)) (w.alloc (zc8 x))):=h.start.step x 0
 have HL:Hid (base≤w.heap.size∧∀k,S k→base≤k∧k<w.heap.size):=h.held
 have HR:Hid (TR t tk):=hr
 have HJC:Hid (zc6 t.b k=0):=hc
 clear hc
 obtain⟨kind,w_,at_,many,text⟩:=x
 clear h hr
 obtain rfl:kind=1:=hkd
 obtain rfl:w_=(k:Int):=hxw
 have HNX:Hid (zey t.b k=t.b.last k+1):=by show zey t.b k=_;rw[zey,if_pos HJC.out]
 have HCD:Hid (zc6 t.b k=0):=HJC.out
 have HLE:Hid (t.b.chars.length≤1000):=by have:=zb2 (b:=t.b);show _≤_;omega
 have HAL:Hid (zcm (zbw t.b k)):=zpa _ HR.out.ti.good
 have hk4:(k:Int)<4:=by omega
 go_enter Tryz.func56,Tryz.ntmps56
 go_wp2_with fail
 generalize World.alloc _ _=w5 at*
 refine wrs (fun wk=>TBox D G w.heap.size ⟨1,(k:Int),at_,many,text⟩ wk) (fun i=>i==6) (fun wk=>zb8 base w S D G pw t (zag (fun _=>Th.no base) 0 (Th.st base w.heap.size ⟨1,(k:Int),at_,many,text⟩)) wk) (by kernel_rfl) (by kernel_rfl) (by kernel_rfl) (fun _ h=>h.tbox) (HI.out.after (Below.refl _ _).drew) ?_
 refine wsb (some 29) w rfl (.pointer (some ⟨D,0,none⟩)) rfl (by kernel_rfl) (fun wk hwk=> ?_) ?_
 ·generalize hA:Act.eval _=ρ
  have s0:ρ (.tmp 0)= .pointer (some ⟨D,0,none⟩):=by rw[←hA];kernel_rfl
  clear hA
  go_simp
 go_big_quiet_op
 refine wsb (some 30) w rfl (.pointer (some ⟨D,0,none⟩)) rfl (by kernel_rfl) (fun wk hwk=> ?_) ?_
 ·generalize hA:Act.eval _=ρ
  have s29:ρ (.tmp 29)= .pointer (some ⟨D,0,none⟩):=by rw[←hA];kernel_rfl
  clear hA
  go_simp
 go_big_quiet_op
 refine wsb (some 31) w rfl (.pointer (some ⟨D,0,none⟩)) rfl (by kernel_rfl) (fun wk hwk=> ?_) ?_
 ·generalize hA:Act.eval _=ρ
  have s30:ρ (.tmp 30)= .pointer (some ⟨D,0,none⟩):=by rw[←hA];kernel_rfl
  clear hA
  go_simp
 go_big_quiet_op
 refine wsb (some 32) w rfl (.pointer (some ⟨G,0,none⟩)) rfl (by kernel_rfl) (fun wk hwk=> ?_) ?_
 ·generalize hA:Act.eval _=ρ
  have s31:ρ (.tmp 31)= .pointer (some ⟨D,0,none⟩):=by rw[←hA];kernel_rfl
  clear hA
  have g0:=hwk.1.2
  have hlt:=hwk.1.1
  go_simp
 go_big_quiet_op
 refine wsb (some 33) w rfl (.pointer (some ⟨w.heap.size,1,none⟩)) rfl (by kernel_rfl) (fun wk hwk=> ?_) ?_
 ·generalize hA:Act.eval _=ρ
  have s3:ρ (.tmp 3)= .pointer (some ⟨w.heap.size,0,none⟩):=by rw[←hA];kernel_rfl
  clear hA
  go_simp
 go_big_quiet_op
 refine wsb (some 34) w rfl (.int .i64 ((k:Int))) rfl (by kernel_rfl) (fun wk hwk=> ?_) ?_
 ·generalize hA:Act.eval _=ρ
  have s33:ρ (.tmp 33)= .pointer (some ⟨w.heap.size,1,none⟩):=by rw[←hA];kernel_rfl
  clear hA
  obtain⟨_,c0,c1,c2,c3,c4⟩:=hwk.2
  simp only[Nat.zero_add]at c1
  go_simp
 go_big_quiet_op
 refine zaa (some 35) w rfl rfl rfl (fun u=>u= .tuple #[.int .i64 (t.b.last k+1),.int .i64 (0)]) (fun u wk=>zb8 base w S D G pw ⟨zbw t.b (k:Int),t.ws⟩ (zag (fun _=>Th.no base) 0 (Th.st base w.heap.size ⟨1,(k:Int),at_,many,text⟩)) wk) (⟨_,rfl⟩) (fun _ _ h=>h.tbox) (fun wk hwk=> ?_) (fun u9 hu9=> ?_)
 ·generalize hA:Act.eval _=ρ
  have s32:ρ (.tmp 32)= .pointer (some ⟨G,0,none⟩):=by rw[←hA];kernel_rfl
  have s34:ρ (.tmp 34)= .int .i64 ((k:Int)):=by rw[←hA];kernel_rfl
  have sf:ρ (.func 92)= .func (.func 92) #[] #[]:=by rw[←hA];kernel_rfl
  clear hA
  go_simp
  obtain⟨T,dv,hl,hs⟩:=hwk.book
  refine(qfe hl HR.out.ti.good _).mono ?_
  rintro e w7 ⟨rfl,hto⟩
  exact⟨_,rfl,by rw[HNX.out,HCD.out],hs _ _ hto⟩
 subst hu9
 go_big_quiet_op
 refine wsb (some 28) w rfl (.tuple #[.int .i64 (t.b.last k+1),.int .i64 (0)]) rfl (by kernel_rfl) (fun wk hwk=> ?_) ?_
 ·generalize hA:Act.eval _=ρ
  have s35:ρ (.tmp 35)= .tuple #[.int .i64 (t.b.last k+1),.int .i64 (0)]:=by rw[←hA];kernel_rfl
  clear hA
  go_simp
 go_big_quiet_op
 refine wsb (some 36) w rfl (.int .i64 (t.b.last k+1)) rfl (by kernel_rfl) (fun wk hwk=> ?_) ?_
 ·generalize hA:Act.eval _=ρ
  have s28:ρ (.tmp 28)= .tuple #[.int .i64 (t.b.last k+1),.int .i64 (0)]:=by rw[←hA];kernel_rfl
  clear hA
  go_simp
 go_big_quiet_op
 refine wsb (some 37) w rfl (.int .i64 (0)) rfl (by kernel_rfl) (fun wk hwk=> ?_) ?_
 ·generalize hA:Act.eval _=ρ
  have s28:ρ (.tmp 28)= .tuple #[.int .i64 (t.b.last k+1),.int .i64 (0)]:=by rw[←hA];kernel_rfl
  clear hA
  go_simp
 go_big_quiet_op
 refine wsb (some 5) w rfl (.int .i64 (t.b.last k+1)) rfl (by kernel_rfl) (fun wk hwk=> ?_) ?_
 ·generalize hA:Act.eval _=ρ
  have s36:ρ (.tmp 36)= .int .i64 (t.b.last k+1):=by rw[←hA];kernel_rfl
  clear hA
  go_simp
 go_big_quiet_op
 refine wsb (some 6) w rfl (.int .i64 (0)) rfl (by kernel_rfl) (fun wk hwk=> ?_) ?_
 ·generalize hA:Act.eval _=ρ
  have s37:ρ (.tmp 37)= .int .i64 (0):=by rw[←hA];kernel_rfl
  clear hA
  go_simp
 go_big_quiet_op
 refine wsn (fun w9 hw9=> ?_)
 have H9:Hid (zb8 base w S D G pw ⟨zbw t.b (k:Int),t.ws⟩ (zag (fun _=>Th.no base) 0 (Th.st base w.heap.size ⟨1,(k:Int),at_,many,text⟩)) w9):=hw9
 clear hw9 HI
 go_wp2_with fail
 obtain⟨T,dv,hbk,_⟩:=H9.out.book
 obtain⟨a,cap,hdv⟩:=hbk.ownD.len
 rw[show(Twn.b (⟨zbw t.b k,t.ws⟩:Twn)).ds=t.b.ds from zsq _ _]at hdv
 subst hdv
 have HJ:Hid (JT base w S D G pw ⟨zbw t.b k,t.ws⟩ w.heap.size ⟨1,(k:Int),at_,many,text⟩ (.slice a t.b.ds.length cap) w9):=⟨H9.out,hbk.cells.lt,hbk.cells.deeds⟩
 clear hbk H9
 refine wrs (fun wk=>TBk D G w.heap.size ⟨1,(k:Int),at_,many,text⟩ (.slice a t.b.ds.length cap) wk) (fun i=>i==18||i==19||i==23) (fun wk=>JT base w S D G pw ⟨zbw t.b k,t.ws⟩ w.heap.size ⟨1,(k:Int),at_,many,text⟩ (.slice a t.b.ds.length cap) wk) (by kernel_rfl) (by kernel_rfl) (by kernel_rfl) (fun _ h=>h.tbk) (HJ.out.after (Below.refl _ _).drew) ?_
 refine wsb (some 40) w rfl (.pointer (some ⟨D,0,none⟩)) rfl (by kernel_rfl) (fun wk hwk=> ?_) ?_
 ·generalize hA:Act.eval _=ρ
  have s0:ρ (.tmp 0)= .pointer (some ⟨D,0,none⟩):=by rw[←hA];kernel_rfl
  clear hA
  go_simp
 go_big_quiet_op
 refine wsb (some 41) w rfl (.pointer (some ⟨w.heap.size,1,none⟩)) rfl (by kernel_rfl) (fun wk hwk=> ?_) ?_
 ·generalize hA:Act.eval _=ρ
  have s3:ρ (.tmp 3)= .pointer (some ⟨w.heap.size,0,none⟩):=by rw[←hA];kernel_rfl
  clear hA
  go_simp
 go_big_quiet_op
 refine wsb (some 42) w rfl (.int .i64 ((k:Int))) rfl (by kernel_rfl) (fun wk hwk=> ?_) ?_
 ·generalize hA:Act.eval _=ρ
  have s41:ρ (.tmp 41)= .pointer (some ⟨w.heap.size,1,none⟩):=by rw[←hA];kernel_rfl
  clear hA
  obtain⟨_,c0,c1,c2,c3,c4⟩:=hwk.1.2
  simp only[Nat.zero_add]at c1
  go_simp
 go_big_quiet_op
 refine wsb (some 43) w rfl (.pointer (some ⟨w.heap.size,1,none⟩)) rfl (by kernel_rfl) (fun wk hwk=> ?_) ?_
 ·generalize hA:Act.eval _=ρ
  have s3:ρ (.tmp 3)= .pointer (some ⟨w.heap.size,0,none⟩):=by rw[←hA];kernel_rfl
  clear hA
  go_simp
 go_big_quiet_op
 refine wsb (some 44) w rfl (.int .i64 ((k:Int))) rfl (by kernel_rfl) (fun wk hwk=> ?_) ?_
 ·generalize hA:Act.eval _=ρ
  have s43:ρ (.tmp 43)= .pointer (some ⟨w.heap.size,1,none⟩):=by rw[←hA];kernel_rfl
  clear hA
  obtain⟨_,c0,c1,c2,c3,c4⟩:=hwk.1.2
  simp only[Nat.zero_add]at c1
  go_simp
 go_big_quiet_op
 refine wsb (some 45) w rfl (.int .i64 (t.b.last k+1)) rfl (by kernel_rfl) (fun wk hwk=> ?_) ?_
 ·generalize hA:Act.eval _=ρ
  have s5:ρ (.tmp 5)= .int .i64 (t.b.last k+1):=by rw[←hA];kernel_rfl
  clear hA
  go_simp
 go_big_quiet_op
 refine wsb (some 46) w rfl (.pointer (some ⟨D,0,none⟩)) rfl (by kernel_rfl) (fun wk hwk=> ?_) ?_
 ·generalize hA:Act.eval _=ρ
  have s0:ρ (.tmp 0)= .pointer (some ⟨D,0,none⟩):=by rw[←hA];kernel_rfl
  clear hA
  go_simp
 go_big_quiet_op
 refine wsb (some 47) w rfl (.pointer (some ⟨D,0,none⟩)) rfl (by kernel_rfl) (fun wk hwk=> ?_) ?_
 ·generalize hA:Act.eval _=ρ
  have s46:ρ (.tmp 46)= .pointer (some ⟨D,0,none⟩):=by rw[←hA];kernel_rfl
  clear hA
  go_simp
 go_big_quiet_op
 refine wsb (some 48) w rfl (.pointer (some ⟨D,0,none⟩)) rfl (by kernel_rfl) (fun wk hwk=> ?_) ?_
 ·generalize hA:Act.eval _=ρ
  have s47:ρ (.tmp 47)= .pointer (some ⟨D,0,none⟩):=by rw[←hA];kernel_rfl
  clear hA
  go_simp
 go_big_quiet_op
 refine wsb (some 49) w rfl (.pointer (some ⟨G,0,none⟩)) rfl (by kernel_rfl) (fun wk hwk=> ?_) ?_
 ·generalize hA:Act.eval _=ρ
  have s48:ρ (.tmp 48)= .pointer (some ⟨D,0,none⟩):=by rw[←hA];kernel_rfl
  clear hA
  have g0:=hwk.1.1.2
  have hlt:=hwk.1.1.1
  go_simp
 go_big_quiet_op
 refine wsb (some 50) w rfl (.pointer (some ⟨G,0,none⟩)) rfl (by kernel_rfl) (fun wk hwk=> ?_) ?_
 ·generalize hA:Act.eval _=ρ
  have s49:ρ (.tmp 49)= .pointer (some ⟨G,0,none⟩):=by rw[←hA];kernel_rfl
  clear hA
  go_simp
 go_big_quiet_op
 refine wsb (some 51) w rfl (.pointer (some ⟨G,0,none⟩)) rfl (by kernel_rfl) (fun wk hwk=> ?_) ?_
 ·generalize hA:Act.eval _=ρ
  have s50:ρ (.tmp 50)= .pointer (some ⟨G,0,none⟩):=by rw[←hA];kernel_rfl
  clear hA
  go_simp
 go_big_quiet_op
 refine wsb (some 52) w rfl (.slice a t.b.ds.length cap) rfl (by kernel_rfl) (fun wk hwk=> ?_) ?_
 ·generalize hA:Act.eval _=ρ
  have s51:ρ (.tmp 51)= .pointer (some ⟨G,0,none⟩):=by rw[←hA];kernel_rfl
  clear hA
  have g1:=hwk.2.2
  have hlt:=hwk.2.1
  go_simp
 go_big_quiet_op
 refine wsb (some 53) w rfl (.int .i64 ((t.b.ds.length:Int))) rfl (by kernel_rfl) (fun wk hwk=> ?_) ?_
 ·generalize hA:Act.eval _=ρ
  have s52:ρ (.tmp 52)= .slice a t.b.ds.length cap:=by rw[←hA];kernel_rfl
  clear hA
  go_simp
 go_big_quiet_op
 refine wsb (some 54) w rfl (.pointer (some ⟨D,0,none⟩)) rfl (by kernel_rfl) (fun wk hwk=> ?_) ?_
 ·generalize hA:Act.eval _=ρ
  have s0:ρ (.tmp 0)= .pointer (some ⟨D,0,none⟩):=by rw[←hA];kernel_rfl
  clear hA
  go_simp
 go_big_quiet_op
 refine wsb (some 55) w rfl (.pointer (some ⟨D,0,none⟩)) rfl (by kernel_rfl) (fun wk hwk=> ?_) ?_
 ·generalize hA:Act.eval _=ρ
  have s54:ρ (.tmp 54)= .pointer (some ⟨D,0,none⟩):=by rw[←hA];kernel_rfl
  clear hA
  go_simp
 go_big_quiet_op
 refine wsb (some 56) w rfl (.pointer (some ⟨D,0,none⟩)) rfl (by kernel_rfl) (fun wk hwk=> ?_) ?_
 ·generalize hA:Act.eval _=ρ
  have s55:ρ (.tmp 55)= .pointer (some ⟨D,0,none⟩):=by rw[←hA];kernel_rfl
  clear hA
  go_simp
 go_big_quiet_op
 refine wsb (some 57) w rfl (.pointer (some ⟨G,0,none⟩)) rfl (by kernel_rfl) (fun wk hwk=> ?_) ?_
 ·generalize hA:Act.eval _=ρ
  have s56:ρ (.tmp 56)= .pointer (some ⟨D,0,none⟩):=by rw[←hA];kernel_rfl
  clear hA
  have g0:=hwk.1.1.2
  have hlt:=hwk.1.1.1
  go_simp
 go_big_quiet_op
 refine zaa (some 58) w rfl rfl rfl (fun u=>True) (fun u wk=>JTL base w S D G pw ⟨zbw t.b k,t.ws⟩ w.heap.size ⟨1,(k:Int),at_,many,text⟩ (.slice a t.b.ds.length cap) t.b.chars u wk) (⟨undef,trivial⟩) (fun _ _ h=>h.jt.tbk) (fun wk hwk=> ?_) (fun u18 hu18=> ?_)
 ·generalize hA:Act.eval _=ρ
  have s57:ρ (.tmp 57)= .pointer (some ⟨G,0,none⟩):=by rw[←hA];kernel_rfl
  have sf:ρ (.func 39)= .func (.func 39) #[] #[]:=by rw[←hA];kernel_rfl
  clear hA
  go_simp
  obtain⟨T,dv,hl,_⟩:=hwk.di.book
  refine(zk2 hl HAL.out).mono ?_
  rintro e w7 ⟨v7,rfl,hown,hb⟩
  rw[show(Twn.b (⟨zbw t.b k,t.ws⟩:Twn)).chars=t.b.chars from zp8 _ _]at hown
  exact⟨_,rfl,hwk.after hb,hown.lst⟩
 clear hu18
 go_big_quiet_op
 refine zaa (some 59) w rfl rfl rfl (fun u=>∃P,u= .pointer (some ⟨P,0,none⟩)) (fun u wk=>NT base w S D G pw ⟨zbw t.b k,t.ws⟩ w.heap.size ⟨1,(k:Int),at_,many,text⟩ (.slice a t.b.ds.length cap) (newW t.b k) u wk) (⟨.pointer (some ⟨0,0,none⟩),0,rfl⟩) (fun _ _ h=>h.jt.tbk) (fun wk hwk=> ?_) (fun u19 hu19=> ?_)
 ·generalize hA:Act.eval _=ρ
  have s44:ρ (.tmp 44)= .int .i64 ((k:Int)):=by rw[←hA];kernel_rfl
  have s45:ρ (.tmp 45)= .int .i64 (t.b.last k+1):=by rw[←hA];kernel_rfl
  have s53:ρ (.tmp 53)= .int .i64 ((t.b.ds.length:Int)):=by rw[←hA];kernel_rfl
  have s58:ρ (.tmp 58)=u18:=by rw[←hA];kernel_rfl
  have sf:ρ (.func 93)= .func (.func 93) #[] #[]:=by rw[←hA];kernel_rfl
  clear hA
  go_simp
  refine(new_sc hwk.own HLE.out k (t.b.last k+1) t.b.ds.length).mono ?_
  rintro e w7 ⟨P,v1,rfl,hat,hb⟩
  exact⟨_,rfl,⟨P,rfl⟩,hwk.jt.after hb,P,wk,v1,rfl,hwk.jt.di,hb,hat⟩
 obtain⟨P,rfl⟩:=hu19
 go_big_quiet_op
 refine wsb (some 60) w rfl (.pointer (some ⟨D,0,none⟩)) rfl (by kernel_rfl) (fun wk hwk=> ?_) ?_
 ·generalize hA:Act.eval _=ρ
  have s40:ρ (.tmp 40)= .pointer (some ⟨D,0,none⟩):=by rw[←hA];kernel_rfl
  clear hA
  go_simp
 go_big_quiet_op
 refine wsb (some 61) w rfl (.pointer (some ⟨D,1,none⟩)) rfl (by kernel_rfl) (fun wk hwk=> ?_) ?_
 ·generalize hA:Act.eval _=ρ
  have s60:ρ (.tmp 60)= .pointer (some ⟨D,0,none⟩):=by rw[←hA];kernel_rfl
  clear hA
  go_simp
 go_big_quiet_op
 refine wsb (some 62) w rfl (.pointer (some ⟨D,1+k,none⟩)) rfl (by kernel_rfl) (fun wk hwk=> ?_) ?_
 ·generalize hA:Act.eval _=ρ
  have s61:ρ (.tmp 61)= .pointer (some ⟨D,1,none⟩):=by rw[←hA];kernel_rfl
  have s42:ρ (.tmp 42)= .int .i64 ((k:Int)):=by rw[←hA];kernel_rfl
  clear hA
  go_simp
 go_big_quiet_op
 refine zim rfl rfl rfl (fun wk=>JT base w S D G (zom pw k P) ⟨zbw t.b k,zab t.ws k (some (newW t.b k))⟩ w.heap.size ⟨1,(k:Int),at_,many,text⟩ (.slice a t.b.ds.length cap) wk) (fun _ h=>h.tbk) (fun wk hwk=> ?_) ?_
 ·generalize hA:Act.eval _=ρ
  have s62:ρ (.tmp 62)= .pointer (some ⟨D,1+k,none⟩):=by rw[←hA];kernel_rfl
  have s59:ρ (.tmp 59)= .pointer (some ⟨P,0,none⟩):=by rw[←hA];kernel_rfl
  clear hA
  have hq:=hwk.seat hk rfl rfl
  obtain⟨u1,cc⟩:∃u,wk.cell? ⟨D,1+k,none⟩=some u:=⟨_,hwk.jt.di.cells.ws k hk⟩
  have ff:=hwk.jt.di.cells.free (1+k) (by omega)
  have hlt:=hwk.jt.di.cells.lt
  go_simp
  exact hq
 refine wsn (fun w12 hw12=> ?_)
 have H12:Hid (JT base w S D G (zom pw k P) ⟨zbw t.b k,zab t.ws k (some (newW t.b k))⟩ w.heap.size ⟨1,(k:Int),at_,many,text⟩ (.slice a t.b.ds.length cap) w12):=hw12
 clear hw12 HJ
 go_wp2_with fail
 go_ret
 exact⟨rfl,P,H12.out.di.done HL.out⟩
end Go.Proofs.YtcbnnfeelhlapadGreatDoor