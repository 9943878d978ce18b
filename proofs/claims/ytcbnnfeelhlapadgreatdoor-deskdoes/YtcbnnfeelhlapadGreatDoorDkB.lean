/-
  Desks: send, hear.
-/
import Derived.Test.YtcbnnfeelhlapadGreatDoorDkA
namespace Go.Proofs.YtcbnnfeelhlapadGreatDoor
set_option maxHeartbeats 3200000
set_option maxRecDepth 20000
open Go Go.RowKit
def DBox(D G E:Nat)(d:Dd)(wk:World):Prop:=DLog D G wk∧zde wk E 0 d
theorem zap.dbox{base D G E j:Nat}{pw:Nat→Nat}{t:Twn}{tk:Int→List (List Ch)}{ex:Nat→Th base}{w0 wk:World}{S:Nat→Prop}{d:Dd}(h:zap base w0 S D G pw t tk (zag ex j (Th.dd base E d)) wk):DBox D G E d wk:=⟨h.dlog,h.deedAt.1⟩
theorem zap.shut{base D G:Nat}{pw:Nat→Nat}{t:Twn}{tk:Int→List (List Ch)}{ex:Nat→Th base}{w0:World}{S:Nat→Prop}:Shut (fun wk=>zap base w0 S D G pw t tk ex wk):=fun _ _ h hb=>h.after hb
theorem qas{w:World}{base D G:Nat}{pw:Nat→Nat}{t:Twn}{tk:Int→List (List Ch)}{S:Nat→Prop}(h:zik base D G pw t tk w S)(hr:TR t tk){k:Nat}(hk:k<4){r:Wr}(he:t.ws k=some r)(hn:r.opens[r.sent]? =none):
 Calls Tryz.prog 119 #[.pointer (some ⟨D,0,none⟩),.int .i64 (k:Int)] w fun e w'=>e= .returned (.int .i64 5)∧zhg base w S D G pw t tk w':=by
 have HI:Hid (zap base w S D G pw t tk (fun _=>Th.no base) w):=h.start
 have HL:Hid (base≤w.heap.size∧∀k,S k→base≤k∧k<w.heap.size):=h.held
 have HR:Hid (TR t tk):=hr
 have HE:Hid (t.ws k=some r):=he
 have HO:Hid (WOk r (tk k)):=zbj hr he
 have g0:=HI.out.cells.book
 have hlt:=HI.out.cells.lt
 have g1:=HI.out.cells.ws k hk
 have hhs:zbs t k=true:=by unfold zbs;rw[he];rfl
 have hk4:(k:Int)<4:=by omega
 simp only[hhs,zbu,if_true]at g1
 have HN:Hid (r.sent=r.opens.length):=by
  obtain⟨_,c,hi⟩:=hr.ti.wi _ r he
  have h1:=List.getElem?_eq_none_iff.1 hn
  have h2:=hi.sent
  show r.sent=r.opens.length
  omega
 clear h hr he hn hhs
 go_enter Tryz.func119,Tryz.ntmps119
 go_wp2_with fail
 obtain⟨T,lv,ov,tvs,hp,_⟩:=HI.out.wr hk HE.out
 refine(qe3 hp HN.out).mono ?_
 rintro e w1 ⟨rfl,hb⟩
 have H1:Hid (zap base w S D G pw t tk (fun _=>Th.no base) (w1.alloc zObj)):=(HI.out.after hb).after (za1 _ zObj)
 clear hb hp HI g0 g1 hlt
 go_wp2_with fail
 go_ret
 exact⟨rfl,H1.out.done HL.out⟩
theorem zwh{w:World}{base D G:Nat}{pw:Nat→Nat}{t:Twn}{tk:Int→List (List Ch)}{S:Nat→Prop}(h:zik base D G pw t tk w S)(hr:TR t tk){k:Nat}(hk:k<4){r:Wr}(he:t.ws k=some r){d:Dd}(hn:r.opens[r.sent]? =some d)(hcc:za4 t.b d=0):
 Calls Tryz.prog 119 #[.pointer (some ⟨D,0,none⟩),.int .i64 (k:Int)] w fun e w'=>e= .returned (.int .i64 0)∧zhg base w S D G pw ⟨zat t.b d,zab t.ws k (some (zdj r))⟩ tk w':=by
 have HI:Hid (zap base w S D G pw t tk (fun _=>Th.no base) w):=h.start
 have HL:Hid (base≤w.heap.size∧∀k,S k→base≤k∧k<w.heap.size):=h.held
 have HR:Hid (TR t tk):=hr
 have HE:Hid (t.ws k=some r):=he
 have HO:Hid (WOk r (tk k)):=zbj hr he
 have g0:=HI.out.cells.book
 have hlt:=HI.out.cells.lt
 have g1:=HI.out.cells.ws k hk
 have hhs:zbs t k=true:=by unfold zbs;rw[he];rfl
 have hk4:(k:Int)<4:=by omega
 simp only[hhs,zbu,if_true]at g1
 obtain⟨hlt0,hde⟩:=List.getElem?_eq_some_iff.1 hn
 have HDE:Hid (r.opens[r.sent]=d):=hde
 have HCC:Hid (za4 t.b d=0):=hcc
 have HTK:Hid (zab tk k (tk k)=tk):=zhn tk k
 clear h hr he hn hhs hde hcc
 go_enter Tryz.func119,Tryz.ntmps119
 go_wp2_with fail
 obtain⟨T,lv,ov,tvs,hp,hs⟩:=HI.out.wr hk HE.out
 refine(zu4 hp hlt0 (by have:=HO.out.few;omega)).mono ?_
 rintro e w1 ⟨rfl,hto⟩
 rw[HDE.out]
 have H1:Hid (zap base w S D G pw ⟨t.b,zab t.ws k (some (zdj r))⟩ tk (fun _=>Th.no base) w1):=by
  have:=hs (zdj r) (tk k) w1 hto
  rw[HTK.out]at this
  exact this
 clear hto hs hp HI g0 g1 hlt HDE hlt0
 go_wp2_with fail
 have H2:Hid (zap base w S D G pw ⟨t.b,zab t.ws k (some (zdj r))⟩ tk (zag (fun _=>Th.no base) 0 (Th.dd base w1.heap.size d)) (w1.alloc (zcc d))):=H1.out.deed d 0
 generalize World.alloc _ _=w2 at*
 generalize w1.heap.size=E at*
 clear H1
 refine wrs (fun wk=>DBox D G E d wk) (fun i=>i==5) (fun wk=>zap base w S D G pw ⟨t.b,zab t.ws k (some (zdj r))⟩ tk (zag (fun _=>Th.no base) 0 (Th.dd base E d)) wk) (by kernel_rfl) (by kernel_rfl) (by kernel_rfl) (fun _ h=>h.dbox) (H2.out.after (Below.refl _ _).drew) ?_
 refine wsb (some 22) w rfl (.pointer (some ⟨D,0,none⟩)) rfl (by kernel_rfl) (fun wk hwk=> ?_) ?_
 ·generalize hA:Act.eval _=ρ
  have s0:ρ (.tmp 0)= .pointer (some ⟨D,0,none⟩):=by rw[←hA];kernel_rfl
  clear hA
  go_simp
 go_big_quiet_op
 refine wsb (some 23) w rfl (.pointer (some ⟨D,0,none⟩)) rfl (by kernel_rfl) (fun wk hwk=> ?_) ?_
 ·generalize hA:Act.eval _=ρ
  have s22:ρ (.tmp 22)= .pointer (some ⟨D,0,none⟩):=by rw[←hA];kernel_rfl
  clear hA
  go_simp
 go_big_quiet_op
 refine wsb (some 24) w rfl (.pointer (some ⟨D,0,none⟩)) rfl (by kernel_rfl) (fun wk hwk=> ?_) ?_
 ·generalize hA:Act.eval _=ρ
  have s23:ρ (.tmp 23)= .pointer (some ⟨D,0,none⟩):=by rw[←hA];kernel_rfl
  clear hA
  go_simp
 go_big_quiet_op
 refine wsb (some 25) w rfl (.pointer (some ⟨G,0,none⟩)) rfl (by kernel_rfl) (fun wk hwk=> ?_) ?_
 ·generalize hA:Act.eval _=ρ
  have s24:ρ (.tmp 24)= .pointer (some ⟨D,0,none⟩):=by rw[←hA];kernel_rfl
  clear hA
  have g0:=hwk.1.2
  have hlt:=hwk.1.1
  go_simp
 go_big_quiet_op
 refine wsb (some 26) w rfl (ddV d) rfl (by kernel_rfl) (fun wk hwk=> ?_) ?_
 ·generalize hA:Act.eval _=ρ
  have s5:ρ (.tmp 5)= .pointer (some ⟨E,0,none⟩):=by rw[←hA];kernel_rfl
  clear hA
  obtain⟨_,c0,c1,c2,c3,c4,c5,c6⟩:=hwk.2
  simp only[Nat.zero_add]at c0 c1 c2 c3 c4 c5 c6
  go_simp
 go_big_quiet_op
 refine zaa (some 27) w rfl rfl rfl (fun u=>u= .tuple #[.int .i64 (zam t.b d),.int .i64 (za4 t.b d)]) (fun u wk=>zap base w S D G pw ⟨zat t.b d,zab t.ws k (some (zdj r))⟩ tk (zag (fun _=>Th.no base) 0 (Th.dd base E d)) wk) (⟨_,rfl⟩) (fun _ _ h=>h.dbox) (fun wk hwk=> ?_) (fun u9 hu9=> ?_)
 ·generalize hA:Act.eval _=ρ
  have s25:ρ (.tmp 25)= .pointer (some ⟨G,0,none⟩):=by rw[←hA];kernel_rfl
  have s26:ρ (.tmp 26)=ddV d:=by rw[←hA];kernel_rfl
  have sf:ρ (.func 164)= .func (.func 164) #[] #[]:=by rw[←hA];kernel_rfl
  clear hA
  go_simp
  obtain⟨T,dv,lv,hl,hs⟩:=hwk.log
  refine(qdk hl HR.out.ti.good d).mono ?_
  rintro e w7 ⟨rfl,hto⟩
  exact⟨_,rfl,rfl,hs _ _ hto⟩
 subst hu9
 go_big_quiet_op
 refine wsb (some 21) w rfl (.tuple #[.int .i64 (zam t.b d),.int .i64 (za4 t.b d)]) rfl (by kernel_rfl) (fun wk hwk=> ?_) ?_
 ·generalize hA:Act.eval _=ρ
  have s27:ρ (.tmp 27)= .tuple #[.int .i64 (zam t.b d),.int .i64 (za4 t.b d)]:=by rw[←hA];kernel_rfl
  clear hA
  go_simp
 go_big_quiet_op
 refine wsb (some 28) w rfl (.int .i64 (zam t.b d)) rfl (by kernel_rfl) (fun wk hwk=> ?_) ?_
 ·generalize hA:Act.eval _=ρ
  have s21:ρ (.tmp 21)= .tuple #[.int .i64 (zam t.b d),.int .i64 (za4 t.b d)]:=by rw[←hA];kernel_rfl
  clear hA
  go_simp
 go_big_quiet_op
 refine wsb (some 29) w rfl (.int .i64 (za4 t.b d)) rfl (by kernel_rfl) (fun wk hwk=> ?_) ?_
 ·generalize hA:Act.eval _=ρ
  have s21:ρ (.tmp 21)= .tuple #[.int .i64 (zam t.b d),.int .i64 (za4 t.b d)]:=by rw[←hA];kernel_rfl
  clear hA
  go_simp
 go_big_quiet_op
 refine wsb (some 7) w rfl (.int .i64 (zam t.b d)) rfl (by kernel_rfl) (fun wk hwk=> ?_) ?_
 ·generalize hA:Act.eval _=ρ
  have s28:ρ (.tmp 28)= .int .i64 (zam t.b d):=by rw[←hA];kernel_rfl
  clear hA
  go_simp
 go_big_quiet_op
 refine wsb (some 8) w rfl (.int .i64 (za4 t.b d)) rfl (by kernel_rfl) (fun wk hwk=> ?_) ?_
 ·generalize hA:Act.eval _=ρ
  have s29:ρ (.tmp 29)= .int .i64 (za4 t.b d):=by rw[←hA];kernel_rfl
  clear hA
  go_simp
 go_big_quiet_op
 refine wsn (fun w9 hw9=> ?_)
 have H9:Hid (zap base w S D G pw ⟨zat t.b d,zab t.ws k (some (zdj r))⟩ tk (zag (fun _=>Th.no base) 0 (Th.dd base E d)) w9):=hw9
 clear hw9 H2
 rw[HCC.out]
 go_wp2_with fail
 go_ret
 exact⟨rfl,H9.out.done HL.out⟩
theorem zwi{w:World}{base D G:Nat}{pw:Nat→Nat}{t:Twn}{tk:Int→List (List Ch)}{S:Nat→Prop}(h:zik base D G pw t tk w S)(hr:TR t tk){k:Nat}(hk:k<4){r:Wr}(he:t.ws k=some r){d:Dd}(hn:r.opens[r.sent]? =some d)(hcc:za4 t.b d≠0):
 Calls Tryz.prog 119 #[.pointer (some ⟨D,0,none⟩),.int .i64 (k:Int)] w fun e w'=>e= .returned (.int .i64 (za4 t.b d))∧zhg base w S D G pw (zdl t k) tk w':=by
 have HI:Hid (zap base w S D G pw t tk (fun _=>Th.no base) w):=h.start
 have HL:Hid (base≤w.heap.size∧∀k,S k→base≤k∧k<w.heap.size):=h.held
 have HR:Hid (TR t tk):=hr
 have HE:Hid (t.ws k=some r):=he
 have HO:Hid (WOk r (tk k)):=zbj hr he
 have g0:=HI.out.cells.book
 have hlt:=HI.out.cells.lt
 have g1:=HI.out.cells.ws k hk
 have hhs:zbs t k=true:=by unfold zbs;rw[he];rfl
 have hk4:(k:Int)<4:=by omega
 simp only[hhs,zbu,if_true]at g1
 obtain⟨hlt0,hde⟩:=List.getElem?_eq_some_iff.1 hn
 have HDE:Hid (r.opens[r.sent]=d):=hde
 have HCC:Hid (za4 t.b d≠0):=hcc
 have HTK:Hid (zab tk k (tk k)=tk):=zhn tk k
 clear h hr he hn hhs hde hcc
 go_enter Tryz.func119,Tryz.ntmps119
 go_wp2_with fail
 obtain⟨T,lv,ov,tvs,hp,hs⟩:=HI.out.wr hk HE.out
 refine(zu4 hp hlt0 (by have:=HO.out.few;omega)).mono ?_
 rintro e w1 ⟨rfl,hto⟩
 rw[HDE.out]
 have H1:Hid (zap base w S D G pw ⟨t.b,zab t.ws k (some (zdj r))⟩ tk (fun _=>Th.no base) w1):=by
  have:=hs (zdj r) (tk k) w1 hto
  rw[HTK.out]at this
  exact this
 clear hto hs hp HI g0 g1 hlt HDE hlt0
 go_wp2_with fail
 have H2:Hid (zap base w S D G pw ⟨t.b,zab t.ws k (some (zdj r))⟩ tk (zag (fun _=>Th.no base) 0 (Th.dd base w1.heap.size d)) (w1.alloc (zcc d))):=H1.out.deed d 0
 generalize World.alloc _ _=w2 at*
 generalize w1.heap.size=E at*
 clear H1
 refine wrs (fun wk=>DBox D G E d wk) (fun i=>i==5) (fun wk=>zap base w S D G pw ⟨t.b,zab t.ws k (some (zdj r))⟩ tk (zag (fun _=>Th.no base) 0 (Th.dd base E d)) wk) (by kernel_rfl) (by kernel_rfl) (by kernel_rfl) (fun _ h=>h.dbox) (H2.out.after (Below.refl _ _).drew) ?_
 refine wsb (some 22) w rfl (.pointer (some ⟨D,0,none⟩)) rfl (by kernel_rfl) (fun wk hwk=> ?_) ?_
 ·generalize hA:Act.eval _=ρ
  have s0:ρ (.tmp 0)= .pointer (some ⟨D,0,none⟩):=by rw[←hA];kernel_rfl
  clear hA
  go_simp
 go_big_quiet_op
 refine wsb (some 23) w rfl (.pointer (some ⟨D,0,none⟩)) rfl (by kernel_rfl) (fun wk hwk=> ?_) ?_
 ·generalize hA:Act.eval _=ρ
  have s22:ρ (.tmp 22)= .pointer (some ⟨D,0,none⟩):=by rw[←hA];kernel_rfl
  clear hA
  go_simp
 go_big_quiet_op
 refine wsb (some 24) w rfl (.pointer (some ⟨D,0,none⟩)) rfl (by kernel_rfl) (fun wk hwk=> ?_) ?_
 ·generalize hA:Act.eval _=ρ
  have s23:ρ (.tmp 23)= .pointer (some ⟨D,0,none⟩):=by rw[←hA];kernel_rfl
  clear hA
  go_simp
 go_big_quiet_op
 refine wsb (some 25) w rfl (.pointer (some ⟨G,0,none⟩)) rfl (by kernel_rfl) (fun wk hwk=> ?_) ?_
 ·generalize hA:Act.eval _=ρ
  have s24:ρ (.tmp 24)= .pointer (some ⟨D,0,none⟩):=by rw[←hA];kernel_rfl
  clear hA
  have g0:=hwk.1.2
  have hlt:=hwk.1.1
  go_simp
 go_big_quiet_op
 refine wsb (some 26) w rfl (ddV d) rfl (by kernel_rfl) (fun wk hwk=> ?_) ?_
 ·generalize hA:Act.eval _=ρ
  have s5:ρ (.tmp 5)= .pointer (some ⟨E,0,none⟩):=by rw[←hA];kernel_rfl
  clear hA
  obtain⟨_,c0,c1,c2,c3,c4,c5,c6⟩:=hwk.2
  simp only[Nat.zero_add]at c0 c1 c2 c3 c4 c5 c6
  go_simp
 go_big_quiet_op
 refine zaa (some 27) w rfl rfl rfl (fun u=>u= .tuple #[.int .i64 (zam t.b d),.int .i64 (za4 t.b d)]) (fun u wk=>zap base w S D G pw ⟨zat t.b d,zab t.ws k (some (zdj r))⟩ tk (zag (fun _=>Th.no base) 0 (Th.dd base E d)) wk) (⟨_,rfl⟩) (fun _ _ h=>h.dbox) (fun wk hwk=> ?_) (fun u9 hu9=> ?_)
 ·generalize hA:Act.eval _=ρ
  have s25:ρ (.tmp 25)= .pointer (some ⟨G,0,none⟩):=by rw[←hA];kernel_rfl
  have s26:ρ (.tmp 26)=ddV d:=by rw[←hA];kernel_rfl
  have sf:ρ (.func 164)= .func (.func 164) #[] #[]:=by rw[←hA];kernel_rfl
  clear hA
  go_simp
  obtain⟨T,dv,lv,hl,hs⟩:=hwk.log
  refine(qdk hl HR.out.ti.good d).mono ?_
  rintro e w7 ⟨rfl,hto⟩
  exact⟨_,rfl,rfl,hs _ _ hto⟩
 subst hu9
 go_big_quiet_op
 refine wsb (some 21) w rfl (.tuple #[.int .i64 (zam t.b d),.int .i64 (za4 t.b d)]) rfl (by kernel_rfl) (fun wk hwk=> ?_) ?_
 ·generalize hA:Act.eval _=ρ
  have s27:ρ (.tmp 27)= .tuple #[.int .i64 (zam t.b d),.int .i64 (za4 t.b d)]:=by rw[←hA];kernel_rfl
  clear hA
  go_simp
 go_big_quiet_op
 refine wsb (some 28) w rfl (.int .i64 (zam t.b d)) rfl (by kernel_rfl) (fun wk hwk=> ?_) ?_
 ·generalize hA:Act.eval _=ρ
  have s21:ρ (.tmp 21)= .tuple #[.int .i64 (zam t.b d),.int .i64 (za4 t.b d)]:=by rw[←hA];kernel_rfl
  clear hA
  go_simp
 go_big_quiet_op
 refine wsb (some 29) w rfl (.int .i64 (za4 t.b d)) rfl (by kernel_rfl) (fun wk hwk=> ?_) ?_
 ·generalize hA:Act.eval _=ρ
  have s21:ρ (.tmp 21)= .tuple #[.int .i64 (zam t.b d),.int .i64 (za4 t.b d)]:=by rw[←hA];kernel_rfl
  clear hA
  go_simp
 go_big_quiet_op
 refine wsb (some 7) w rfl (.int .i64 (zam t.b d)) rfl (by kernel_rfl) (fun wk hwk=> ?_) ?_
 ·generalize hA:Act.eval _=ρ
  have s28:ρ (.tmp 28)= .int .i64 (zam t.b d):=by rw[←hA];kernel_rfl
  clear hA
  go_simp
 go_big_quiet_op
 refine wsb (some 8) w rfl (.int .i64 (za4 t.b d)) rfl (by kernel_rfl) (fun wk hwk=> ?_) ?_
 ·generalize hA:Act.eval _=ρ
  have s29:ρ (.tmp 29)= .int .i64 (za4 t.b d):=by rw[←hA];kernel_rfl
  clear hA
  go_simp
 go_big_quiet_op
 refine wsn (fun w9 hw9=> ?_)
 have H9:Hid (zap base w S D G pw ⟨zat t.b d,zab t.ws k (some (zdj r))⟩ tk (zag (fun _=>Th.no base) 0 (Th.dd base E d)) w9):=hw9
 clear hw9 H2
 have HB:Hid (zdl ⟨zat t.b d,zab t.ws k (some (zdj r))⟩ k=zdl t k):=by
  show(⟨zcs (zat t.b d) k,zab (zab t.ws k (some (zdj r))) k none⟩:Twn)=⟨zcs t.b k,zab t.ws k none⟩
  rw[zt0 HCC.out,zz1]
 obtain⟨c,hcq⟩:∃c,za4 t.b d=c:=⟨_,rfl⟩
 have HCQ:Hid (za4 t.b d=c):=hcq
 have hcn:¬c=0:=by rw[←hcq];exact HCC.out
 rw[hcq]
 clear hcq
 generalize zam t.b d=m at*
 go_wp2_with fail
 obtain⟨T,ha,hs⟩:=H9.out.call
 refine(zxm ha hk).mono ?_
 rintro e w10 ⟨rfl,hto⟩
 have H10:Hid (zap base w S D G pw (zdl t k) tk (zag (fun _=>Th.no base) 0 (Th.dd base E d)) w10):=by
  have:=hs _ _ _ _ hto
  rw[HB.out]at this
  exact this
 clear hto hs ha H9
 go_wp2_with fail
 go_ret
 exact⟨by rw[HCQ.out];rfl,H10.out.done HL.out⟩
theorem qbf{w:World}{base D G:Nat}{pw:Nat→Nat}{t:Twn}{tk:Int→List (List Ch)}{S:Nat→Prop}(h:zik base D G pw t tk w S)(hr:TR t tk){k:Nat}(hk:k<4){r:Wr}(he:t.ws k=some r)(hn:t.b.ds[r.seen]? =none):
 Calls Tryz.prog 120 #[.pointer (some ⟨D,0,none⟩),.int .i64 (k:Int)] w fun e w'=>e= .returned (.int .i64 5)∧zhg base w S D G pw t tk w':=by
 have HI:Hid (zap base w S D G pw t tk (fun _=>Th.no base) w):=h.start
 have HL:Hid (base≤w.heap.size∧∀k,S k→base≤k∧k<w.heap.size):=h.held
 have HR:Hid (TR t tk):=hr
 have HE:Hid (t.ws k=some r):=he
 have HO:Hid (WOk r (tk k)):=zbj hr he
 have g0:=HI.out.cells.book
 have hlt:=HI.out.cells.lt
 have g1:=HI.out.cells.ws k hk
 have hhs:zbs t k=true:=by unfold zbs;rw[he];rfl
 have hk4:(k:Int)<4:=by omega
 simp only[hhs,zbu,if_true]at g1
 have HIS:Hid (isD t.b ((r.seen:Int)+1)=false):=is_no (by have:=List.getElem?_eq_none_iff.1 hn;omega)
 obtain⟨d,hnd⟩:∃d,zq7 t.b ((r.seen:Int)+1)=d:=⟨_,rfl⟩
 have HND:Hid (zq7 t.b ((r.seen:Int)+1)=d):=hnd
 clear hnd hn
 clear h hr he hhs
 go_enter Tryz.func120,Tryz.ntmps120
 go_wp2_with fail
 have HIk:Hid (zap base w S D G pw t tk (fun _=>Th.no base) w):=HI.out
 clear HI g0 g1 hlt
 refine zc1 (fun wk=>zap base w S D G pw t tk (fun _=>Th.no base) wk) (fun i=>i==11||i==12) (fun wk=>zap base w S D G pw t tk (fun _=>Th.no base) wk) (by kernel_rfl) (by kernel_rfl) (by kernel_rfl) (fun _ h=>h) (zap.shut) (HIk.out.after (Below.refl _ _).drew) ?_
 refine wgb (some 16) w rfl (.pointer (some ⟨D,0,none⟩)) rfl (by kernel_rfl) (fun wk hwk=> ?_) ?_
 ·refine gus ?_
  generalize hA:Act.eval _=ρ
  have s0:ρ (.tmp 0)= .pointer (some ⟨D,0,none⟩):=by rw[←hA];kernel_rfl
  clear hA
  go_simp
 go_big_quiet_op
 refine wgb (some 17) w rfl (.pointer (some ⟨D,0,none⟩)) rfl (by kernel_rfl) (fun wk hwk=> ?_) ?_
 ·refine gus ?_
  generalize hA:Act.eval _=ρ
  have s16:ρ (.tmp 16)= .pointer (some ⟨D,0,none⟩):=by rw[←hA];kernel_rfl
  clear hA
  go_simp
 go_big_quiet_op
 refine wgb (some 18) w rfl (.pointer (some ⟨D,0,none⟩)) rfl (by kernel_rfl) (fun wk hwk=> ?_) ?_
 ·refine gus ?_
  generalize hA:Act.eval _=ρ
  have s17:ρ (.tmp 17)= .pointer (some ⟨D,0,none⟩):=by rw[←hA];kernel_rfl
  clear hA
  go_simp
 go_big_quiet_op
 refine wgb (some 19) w rfl (.pointer (some ⟨G,0,none⟩)) rfl (by kernel_rfl) (fun wk hwk=> ?_) ?_
 ·refine gus ?_
  generalize hA:Act.eval _=ρ
  have s18:ρ (.tmp 18)= .pointer (some ⟨D,0,none⟩):=by rw[←hA];kernel_rfl
  clear hA
  have g0:=hwk.cells.book
  go_simp
 go_big_quiet_op
 refine wgb (some 20) w rfl (.pointer (some ⟨pw k,0,none⟩)) rfl (by kernel_rfl) (fun wk hwk=> ?_) ?_
 ·refine gus ?_
  generalize hA:Act.eval _=ρ
  have s5:ρ (.tmp 5)= .pointer (some ⟨pw k,0,none⟩):=by rw[←hA];kernel_rfl
  clear hA
  go_simp
 go_big_quiet_op
 refine wgb (some 21) w rfl (.int .i64 ((r.seen:Int))) rfl (by kernel_rfl) (fun wk hwk=> ?_) ?_
 ·generalize hA:Act.eval _=ρ
  have s20:ρ (.tmp 20)= .pointer (some ⟨pw k,0,none⟩):=by rw[←hA];kernel_rfl
  have sf:ρ (.func 165)= .func (.func 165) #[] #[]:=by rw[←hA];kernel_rfl
  clear hA
  unfold zcf
  go_simp
  obtain⟨T,lv,ov,tvs,hp,_⟩:=hwk.wr hk HE.out
  refine(zry hp).mono ?_
  rintro e w7 ⟨rfl,rfl⟩
  exact⟨rfl,Below.refl _ _⟩
 go_big_quiet_op
 refine wgb (some 22) w rfl (.int .i64 ((r.seen:Int)+1)) rfl (by kernel_rfl) (fun wk hwk=> ?_) ?_
 ·refine gus ?_
  generalize hA:Act.eval _=ρ
  have s21:ρ (.tmp 21)= .int .i64 ((r.seen:Int)):=by rw[←hA];kernel_rfl
  have k1:ρ (.const (.int .i64 1))= .int .i64 1:=by rw[←hA];kernel_rfl
  clear hA
  have hsn:=HO.out.seen
  go_simp
  rw[zyc]
  unfold wrap64
  omega
 go_big_quiet_op
 refine wgb (some 23) w rfl (.tuple #[ddV d,.bool false]) rfl (by kernel_rfl) (fun wk hwk=> ?_) ?_
 ·generalize hA:Act.eval _=ρ
  have s19:ρ (.tmp 19)= .pointer (some ⟨G,0,none⟩):=by rw[←hA];kernel_rfl
  have s22:ρ (.tmp 22)= .int .i64 ((r.seen:Int)+1):=by rw[←hA];kernel_rfl
  have sf:ρ (.func 137)= .func (.func 137) #[] #[]:=by rw[←hA];kernel_rfl
  clear hA
  unfold zcf
  go_simp
  obtain⟨T,dv,lv,hl,_⟩:=hwk.log
  refine(zph hl HR.out.ti.good.small _).mono ?_
  rintro e w7 ⟨rfl,hb⟩
  exact⟨by rw[HND.out,HIS.out],hb⟩
 go_big_quiet_op
 refine wgb (some 15) w rfl (.tuple #[ddV d,.bool false]) rfl (by kernel_rfl) (fun wk hwk=> ?_) ?_
 ·refine gus ?_
  generalize hA:Act.eval _=ρ
  have s23:ρ (.tmp 23)= .tuple #[ddV d,.bool false]:=by rw[←hA];kernel_rfl
  clear hA
  go_simp
 go_big_quiet_op
 refine wgb (some 24) w rfl (ddV d) rfl (by kernel_rfl) (fun wk hwk=> ?_) ?_
 ·refine gus ?_
  generalize hA:Act.eval _=ρ
  have s15:ρ (.tmp 15)= .tuple #[ddV d,.bool false]:=by rw[←hA];kernel_rfl
  clear hA
  go_simp
 go_big_quiet_op
 refine wgb (some 25) w rfl (.bool false) rfl (by kernel_rfl) (fun wk hwk=> ?_) ?_
 ·refine gus ?_
  generalize hA:Act.eval _=ρ
  have s15:ρ (.tmp 15)= .tuple #[ddV d,.bool false]:=by rw[←hA];kernel_rfl
  clear hA
  go_simp
 go_big_quiet_op
 refine zbf (some 6) w rfl rfl rfl (fun u=>∃E,u= .pointer (some ⟨E,0,none⟩)) (fun u wk=>∃E,u= .pointer (some ⟨E,0,none⟩)∧zap base w S D G pw t tk (zag (fun _=>Th.no base) 0 (Th.dd base E ⟨0,0,0,0,0,0,⟨#[]⟩⟩)) wk) (⟨.pointer (some ⟨0,0,none⟩),0,rfl⟩) (fun _ _ ⟨_,_,h⟩=>h.bare) (fun _ _ _ ⟨E,e,h⟩ hb=>⟨E,e,h.after hb⟩) (fun wk hwk=> ?_) (fun u11 hu11=> ?_)
 ·generalize hA:Act.eval _=ρ
  clear hA
  have hq:=zap.deed hwk ⟨0,0,0,0,0,0,⟨#[]⟩⟩ 0
  go_simp
  exact⟨⟨_,rfl⟩,_,rfl,hq⟩
 obtain⟨E,rfl⟩:=hu11
 go_big_quiet_op
 refine zgd rfl rfl rfl (fun wk=>zap base w S D G pw t tk (zag (fun _=>Th.no base) 0 (Th.dd base E d)) wk) (fun _ h=>h.bare) (zap.shut) (fun wk hwk=> ?_) ?_
 ·generalize hA:Act.eval _=ρ
  have s6:ρ (.tmp 6)= .pointer (some ⟨E,0,none⟩):=by rw[←hA];kernel_rfl
  have s24:ρ (.tmp 24)=ddV d:=by rw[←hA];kernel_rfl
  clear hA
  obtain⟨E',he,hq⟩:=hwk
  obtain rfl:E=E':=by simpa using he
  clear he
  have hst:=hq.store d
  obtain⟨⟨hlt,c0,c1,c2,c3,c4,c5,c6⟩,hf⟩:=hq.deedAt
  simp only[Nat.zero_add]at hlt c0 c1 c2 c3 c4 c5 c6
  have f0:=hf 0 (by omega)
  have f1:=hf 1 (by omega)
  have f2:=hf 2 (by omega)
  have f3:=hf 3 (by omega)
  have f4:=hf 4 (by omega)
  have f5:=hf 5 (by omega)
  have f6:=hf 6 (by omega)
  go_simp
  exact hst
 refine wgb (some 7) w rfl (.bool false) rfl (by kernel_rfl) (fun wk hwk=> ?_) ?_
 ·refine gus ?_
  generalize hA:Act.eval _=ρ
  have s25:ρ (.tmp 25)= .bool false:=by rw[←hA];kernel_rfl
  clear hA
  go_simp
 go_big_quiet_op
 refine zdt (fun w9 hw9=> ?_)
 have H9:Hid (zap base w S D G pw t tk (zag (fun _=>Th.no base) 0 (Th.dd base E d)) w9):=hw9
 clear hw9 HIk
 go_wp2_with fail
 go_ret
 exact⟨rfl,H9.out.done HL.out⟩
theorem zxg{w:World}{base D G:Nat}{pw:Nat→Nat}{t:Twn}{tk:Int→List (List Ch)}{S:Nat→Prop}(h:zik base D G pw t tk w S)(hr:TR t tk){k:Nat}(hk:k<4){r:Wr}(he:t.ws k=some r){d:Dd}(hn:t.b.ds[r.seen]? =some d)(hcc:zbd r d≠0):
 Calls Tryz.prog 120 #[.pointer (some ⟨D,0,none⟩),.int .i64 (k:Int)] w fun e w'=>e= .returned (.int .i64 (zbd r d))∧zhg base w S D G pw (zdl t k) tk w':=by
 have HI:Hid (zap base w S D G pw t tk (fun _=>Th.no base) w):=h.start
 have HL:Hid (base≤w.heap.size∧∀k,S k→base≤k∧k<w.heap.size):=h.held
 have HR:Hid (TR t tk):=hr
 have HE:Hid (t.ws k=some r):=he
 have HO:Hid (WOk r (tk k)):=zbj hr he
 have g0:=HI.out.cells.book
 have hlt:=HI.out.cells.lt
 have g1:=HI.out.cells.ws k hk
 have hhs:zbs t k=true:=by unfold zbs;rw[he];rfl
 have hk4:(k:Int)<4:=by omega
 simp only[hhs,zbu,if_true]at g1
 have HIS:Hid (isD t.b ((r.seen:Int)+1)=true):=(zuu (List.getElem?_eq_some_iff.1 hn).1).1
 have HND:Hid (zq7 t.b ((r.seen:Int)+1)=d):=(zuu (List.getElem?_eq_some_iff.1 hn).1).2.trans (List.getElem?_eq_some_iff.1 hn).2
 have HDS:Hid (t.b.ds[r.seen]? =some d):=hn
 have HCC:Hid (zbd r d≠0):=hcc
 clear hn hcc
 clear h hr he hhs
 go_enter Tryz.func120,Tryz.ntmps120
 go_wp2_with fail
 have HIk:Hid (zap base w S D G pw t tk (fun _=>Th.no base) w):=HI.out
 clear HI g0 g1 hlt
 refine zc1 (fun wk=>zap base w S D G pw t tk (fun _=>Th.no base) wk) (fun i=>i==11||i==12) (fun wk=>zap base w S D G pw t tk (fun _=>Th.no base) wk) (by kernel_rfl) (by kernel_rfl) (by kernel_rfl) (fun _ h=>h) (zap.shut) (HIk.out.after (Below.refl _ _).drew) ?_
 refine wgb (some 16) w rfl (.pointer (some ⟨D,0,none⟩)) rfl (by kernel_rfl) (fun wk hwk=> ?_) ?_
 ·refine gus ?_
  generalize hA:Act.eval _=ρ
  have s0:ρ (.tmp 0)= .pointer (some ⟨D,0,none⟩):=by rw[←hA];kernel_rfl
  clear hA
  go_simp
 go_big_quiet_op
 refine wgb (some 17) w rfl (.pointer (some ⟨D,0,none⟩)) rfl (by kernel_rfl) (fun wk hwk=> ?_) ?_
 ·refine gus ?_
  generalize hA:Act.eval _=ρ
  have s16:ρ (.tmp 16)= .pointer (some ⟨D,0,none⟩):=by rw[←hA];kernel_rfl
  clear hA
  go_simp
 go_big_quiet_op
 refine wgb (some 18) w rfl (.pointer (some ⟨D,0,none⟩)) rfl (by kernel_rfl) (fun wk hwk=> ?_) ?_
 ·refine gus ?_
  generalize hA:Act.eval _=ρ
  have s17:ρ (.tmp 17)= .pointer (some ⟨D,0,none⟩):=by rw[←hA];kernel_rfl
  clear hA
  go_simp
 go_big_quiet_op
 refine wgb (some 19) w rfl (.pointer (some ⟨G,0,none⟩)) rfl (by kernel_rfl) (fun wk hwk=> ?_) ?_
 ·refine gus ?_
  generalize hA:Act.eval _=ρ
  have s18:ρ (.tmp 18)= .pointer (some ⟨D,0,none⟩):=by rw[←hA];kernel_rfl
  clear hA
  have g0:=hwk.cells.book
  go_simp
 go_big_quiet_op
 refine wgb (some 20) w rfl (.pointer (some ⟨pw k,0,none⟩)) rfl (by kernel_rfl) (fun wk hwk=> ?_) ?_
 ·refine gus ?_
  generalize hA:Act.eval _=ρ
  have s5:ρ (.tmp 5)= .pointer (some ⟨pw k,0,none⟩):=by rw[←hA];kernel_rfl
  clear hA
  go_simp
 go_big_quiet_op
 refine wgb (some 21) w rfl (.int .i64 ((r.seen:Int))) rfl (by kernel_rfl) (fun wk hwk=> ?_) ?_
 ·generalize hA:Act.eval _=ρ
  have s20:ρ (.tmp 20)= .pointer (some ⟨pw k,0,none⟩):=by rw[←hA];kernel_rfl
  have sf:ρ (.func 165)= .func (.func 165) #[] #[]:=by rw[←hA];kernel_rfl
  clear hA
  unfold zcf
  go_simp
  obtain⟨T,lv,ov,tvs,hp,_⟩:=hwk.wr hk HE.out
  refine(zry hp).mono ?_
  rintro e w7 ⟨rfl,rfl⟩
  exact⟨rfl,Below.refl _ _⟩
 go_big_quiet_op
 refine wgb (some 22) w rfl (.int .i64 ((r.seen:Int)+1)) rfl (by kernel_rfl) (fun wk hwk=> ?_) ?_
 ·refine gus ?_
  generalize hA:Act.eval _=ρ
  have s21:ρ (.tmp 21)= .int .i64 ((r.seen:Int)):=by rw[←hA];kernel_rfl
  have k1:ρ (.const (.int .i64 1))= .int .i64 1:=by rw[←hA];kernel_rfl
  clear hA
  have hsn:=HO.out.seen
  go_simp
  rw[zyc]
  unfold wrap64
  omega
 go_big_quiet_op
 refine wgb (some 23) w rfl (.tuple #[ddV d,.bool true]) rfl (by kernel_rfl) (fun wk hwk=> ?_) ?_
 ·generalize hA:Act.eval _=ρ
  have s19:ρ (.tmp 19)= .pointer (some ⟨G,0,none⟩):=by rw[←hA];kernel_rfl
  have s22:ρ (.tmp 22)= .int .i64 ((r.seen:Int)+1):=by rw[←hA];kernel_rfl
  have sf:ρ (.func 137)= .func (.func 137) #[] #[]:=by rw[←hA];kernel_rfl
  clear hA
  unfold zcf
  go_simp
  obtain⟨T,dv,lv,hl,_⟩:=hwk.log
  refine(zph hl HR.out.ti.good.small _).mono ?_
  rintro e w7 ⟨rfl,hb⟩
  exact⟨by rw[HND.out,HIS.out],hb⟩
 go_big_quiet_op
 refine wgb (some 15) w rfl (.tuple #[ddV d,.bool true]) rfl (by kernel_rfl) (fun wk hwk=> ?_) ?_
 ·refine gus ?_
  generalize hA:Act.eval _=ρ
  have s23:ρ (.tmp 23)= .tuple #[ddV d,.bool true]:=by rw[←hA];kernel_rfl
  clear hA
  go_simp
 go_big_quiet_op
 refine wgb (some 24) w rfl (ddV d) rfl (by kernel_rfl) (fun wk hwk=> ?_) ?_
 ·refine gus ?_
  generalize hA:Act.eval _=ρ
  have s15:ρ (.tmp 15)= .tuple #[ddV d,.bool true]:=by rw[←hA];kernel_rfl
  clear hA
  go_simp
 go_big_quiet_op
 refine wgb (some 25) w rfl (.bool true) rfl (by kernel_rfl) (fun wk hwk=> ?_) ?_
 ·refine gus ?_
  generalize hA:Act.eval _=ρ
  have s15:ρ (.tmp 15)= .tuple #[ddV d,.bool true]:=by rw[←hA];kernel_rfl
  clear hA
  go_simp
 go_big_quiet_op
 refine zbf (some 6) w rfl rfl rfl (fun u=>∃E,u= .pointer (some ⟨E,0,none⟩)) (fun u wk=>∃E,u= .pointer (some ⟨E,0,none⟩)∧zap base w S D G pw t tk (zag (fun _=>Th.no base) 0 (Th.dd base E ⟨0,0,0,0,0,0,⟨#[]⟩⟩)) wk) (⟨.pointer (some ⟨0,0,none⟩),0,rfl⟩) (fun _ _ ⟨_,_,h⟩=>h.bare) (fun _ _ _ ⟨E,e,h⟩ hb=>⟨E,e,h.after hb⟩) (fun wk hwk=> ?_) (fun u11 hu11=> ?_)
 ·generalize hA:Act.eval _=ρ
  clear hA
  have hq:=zap.deed hwk ⟨0,0,0,0,0,0,⟨#[]⟩⟩ 0
  go_simp
  exact⟨⟨_,rfl⟩,_,rfl,hq⟩
 obtain⟨E,rfl⟩:=hu11
 go_big_quiet_op
 refine zgd rfl rfl rfl (fun wk=>zap base w S D G pw t tk (zag (fun _=>Th.no base) 0 (Th.dd base E d)) wk) (fun _ h=>h.bare) (zap.shut) (fun wk hwk=> ?_) ?_
 ·generalize hA:Act.eval _=ρ
  have s6:ρ (.tmp 6)= .pointer (some ⟨E,0,none⟩):=by rw[←hA];kernel_rfl
  have s24:ρ (.tmp 24)=ddV d:=by rw[←hA];kernel_rfl
  clear hA
  obtain⟨E',he,hq⟩:=hwk
  obtain rfl:E=E':=by simpa using he
  clear he
  have hst:=hq.store d
  obtain⟨⟨hlt,c0,c1,c2,c3,c4,c5,c6⟩,hf⟩:=hq.deedAt
  simp only[Nat.zero_add]at hlt c0 c1 c2 c3 c4 c5 c6
  have f0:=hf 0 (by omega)
  have f1:=hf 1 (by omega)
  have f2:=hf 2 (by omega)
  have f3:=hf 3 (by omega)
  have f4:=hf 4 (by omega)
  have f5:=hf 5 (by omega)
  have f6:=hf 6 (by omega)
  go_simp
  exact hst
 refine wgb (some 7) w rfl (.bool true) rfl (by kernel_rfl) (fun wk hwk=> ?_) ?_
 ·refine gus ?_
  generalize hA:Act.eval _=ρ
  have s25:ρ (.tmp 25)= .bool true:=by rw[←hA];kernel_rfl
  clear hA
  go_simp
 go_big_quiet_op
 refine zdt (fun w9 hw9=> ?_)
 have H9:Hid (zap base w S D G pw t tk (zag (fun _=>Th.no base) 0 (Th.dd base E d)) w9):=hw9
 clear hw9 HIk
 obtain⟨⟨_,c0,c1,c2,c3,c4,c5,c6⟩,_⟩:=H9.out.deedAt
 simp only[Nat.zero_add]at c0 c1 c2 c3 c4 c5 c6
 go_wp2_with fail
 obtain⟨T,lv,ov,tvs,hp,hs⟩:=H9.out.wr hk HE.out
 refine(qfn HR.out HE.out HDS.out hp).mono ?_
 rintro e w10 ⟨rfl,h0,h1⟩
 have H10:Hid (zap base w S D G pw t tk (zag (fun _=>Th.no base) 0 (Th.dd base E d)) w10):=H9.out.after (h1 HCC.out)
 obtain⟨c,hcq⟩:∃c,zbd r d=c:=⟨_,rfl⟩
 have HCQ:Hid (zbd r d=c):=hcq
 have hcn:¬c=0:=by rw[←hcq];exact HCC.out
 rw[hcq]
 clear hcq h0 h1 hs hp H9 c0 c1 c2 c3 c4 c5 c6
 go_wp2_with fail
 obtain⟨T,ha,hs⟩:=H10.out.call
 refine(zxm ha hk).mono ?_
 rintro e w11 ⟨rfl,hto⟩
 have H11:Hid (zap base w S D G pw (zdl t k) tk (zag (fun _=>Th.no base) 0 (Th.dd base E d)) w11):=hs _ _ _ _ hto
 clear hto hs ha H10
 go_wp2_with fail
 go_ret
 exact⟨by rw[HCQ.out];rfl,H11.out.done HL.out⟩
def DAnyB(base:Nat)(w:World)(S:Nat→Prop)(D G:Nat)(pw:Nat→Nat)(ws:Int→Option Wr)(tk:Int→List (List Ch))(ex:Nat→Th base)(wk:World):Prop:=∃b,zap base w S D G pw ⟨b,ws⟩ tk ex wk
theorem zxf{w:World}{base D G:Nat}{pw:Nat→Nat}{t:Twn}{tk:Int→List (List Ch)}{S:Nat→Prop}(h:zik base D G pw t tk w S)(hr:TR t tk){k:Nat}(hk:k<4){r:Wr}(he:t.ws k=some r){d:Dd}(hn:t.b.ds[r.seen]? =some d)(hcc:zbd r d=0):
 Calls Tryz.prog 120 #[.pointer (some ⟨D,0,none⟩),.int .i64 (k:Int)] w fun e w'=>e= .returned (.int .i64 (zd4 t.b k (zav r d).least))∧zhg base w S D G pw ⟨zcz t.b k (zav r d).least,zab t.ws k (some (zav r d))⟩ (zab tk k (zg3 r d (tk k))) w':=by
 have HI:Hid (zap base w S D G pw t tk (fun _=>Th.no base) w):=h.start
 have HL:Hid (base≤w.heap.size∧∀k,S k→base≤k∧k<w.heap.size):=h.held
 have HR:Hid (TR t tk):=hr
 have HE:Hid (t.ws k=some r):=he
 have HO:Hid (WOk r (tk k)):=zbj hr he
 have g0:=HI.out.cells.book
 have hlt:=HI.out.cells.lt
 have g1:=HI.out.cells.ws k hk
 have hhs:zbs t k=true:=by unfold zbs;rw[he];rfl
 have hk4:(k:Int)<4:=by omega
 simp only[hhs,zbu,if_true]at g1
 have HIS:Hid (isD t.b ((r.seen:Int)+1)=true):=(zuu (List.getElem?_eq_some_iff.1 hn).1).1
 have HND:Hid (zq7 t.b ((r.seen:Int)+1)=d):=(zuu (List.getElem?_eq_some_iff.1 hn).1).2.trans (List.getElem?_eq_some_iff.1 hn).2
 have HDS:Hid (t.b.ds[r.seen]? =some d):=hn
 have HCC:Hid (zbd r d=0):=hcc
 clear hn hcc
 clear h hr he hhs
 go_enter Tryz.func120,Tryz.ntmps120
 go_wp2_with fail
 have HIk:Hid (zap base w S D G pw t tk (fun _=>Th.no base) w):=HI.out
 clear HI g0 g1 hlt
 refine zc1 (fun wk=>zap base w S D G pw t tk (fun _=>Th.no base) wk) (fun i=>i==11||i==12) (fun wk=>zap base w S D G pw t tk (fun _=>Th.no base) wk) (by kernel_rfl) (by kernel_rfl) (by kernel_rfl) (fun _ h=>h) (zap.shut) (HIk.out.after (Below.refl _ _).drew) ?_
 refine wgb (some 16) w rfl (.pointer (some ⟨D,0,none⟩)) rfl (by kernel_rfl) (fun wk hwk=> ?_) ?_
 ·refine gus ?_
  generalize hA:Act.eval _=ρ
  have s0:ρ (.tmp 0)= .pointer (some ⟨D,0,none⟩):=by rw[←hA];kernel_rfl
  clear hA
  go_simp
 go_big_quiet_op
 refine wgb (some 17) w rfl (.pointer (some ⟨D,0,none⟩)) rfl (by kernel_rfl) (fun wk hwk=> ?_) ?_
 ·refine gus ?_
  generalize hA:Act.eval _=ρ
  have s16:ρ (.tmp 16)= .pointer (some ⟨D,0,none⟩):=by rw[←hA];kernel_rfl
  clear hA
  go_simp
 go_big_quiet_op
 refine wgb (some 18) w rfl (.pointer (some ⟨D,0,none⟩)) rfl (by kernel_rfl) (fun wk hwk=> ?_) ?_
 ·refine gus ?_
  generalize hA:Act.eval _=ρ
  have s17:ρ (.tmp 17)= .pointer (some ⟨D,0,none⟩):=by rw[←hA];kernel_rfl
  clear hA
  go_simp
 go_big_quiet_op
 refine wgb (some 19) w rfl (.pointer (some ⟨G,0,none⟩)) rfl (by kernel_rfl) (fun wk hwk=> ?_) ?_
 ·refine gus ?_
  generalize hA:Act.eval _=ρ
  have s18:ρ (.tmp 18)= .pointer (some ⟨D,0,none⟩):=by rw[←hA];kernel_rfl
  clear hA
  have g0:=hwk.cells.book
  go_simp
 go_big_quiet_op
 refine wgb (some 20) w rfl (.pointer (some ⟨pw k,0,none⟩)) rfl (by kernel_rfl) (fun wk hwk=> ?_) ?_
 ·refine gus ?_
  generalize hA:Act.eval _=ρ
  have s5:ρ (.tmp 5)= .pointer (some ⟨pw k,0,none⟩):=by rw[←hA];kernel_rfl
  clear hA
  go_simp
 go_big_quiet_op
 refine wgb (some 21) w rfl (.int .i64 ((r.seen:Int))) rfl (by kernel_rfl) (fun wk hwk=> ?_) ?_
 ·generalize hA:Act.eval _=ρ
  have s20:ρ (.tmp 20)= .pointer (some ⟨pw k,0,none⟩):=by rw[←hA];kernel_rfl
  have sf:ρ (.func 165)= .func (.func 165) #[] #[]:=by rw[←hA];kernel_rfl
  clear hA
  unfold zcf
  go_simp
  obtain⟨T,lv,ov,tvs,hp,_⟩:=hwk.wr hk HE.out
  refine(zry hp).mono ?_
  rintro e w7 ⟨rfl,rfl⟩
  exact⟨rfl,Below.refl _ _⟩
 go_big_quiet_op
 refine wgb (some 22) w rfl (.int .i64 ((r.seen:Int)+1)) rfl (by kernel_rfl) (fun wk hwk=> ?_) ?_
 ·refine gus ?_
  generalize hA:Act.eval _=ρ
  have s21:ρ (.tmp 21)= .int .i64 ((r.seen:Int)):=by rw[←hA];kernel_rfl
  have k1:ρ (.const (.int .i64 1))= .int .i64 1:=by rw[←hA];kernel_rfl
  clear hA
  have hsn:=HO.out.seen
  go_simp
  rw[zyc]
  unfold wrap64
  omega
 go_big_quiet_op
 refine wgb (some 23) w rfl (.tuple #[ddV d,.bool true]) rfl (by kernel_rfl) (fun wk hwk=> ?_) ?_
 ·generalize hA:Act.eval _=ρ
  have s19:ρ (.tmp 19)= .pointer (some ⟨G,0,none⟩):=by rw[←hA];kernel_rfl
  have s22:ρ (.tmp 22)= .int .i64 ((r.seen:Int)+1):=by rw[←hA];kernel_rfl
  have sf:ρ (.func 137)= .func (.func 137) #[] #[]:=by rw[←hA];kernel_rfl
  clear hA
  unfold zcf
  go_simp
  obtain⟨T,dv,lv,hl,_⟩:=hwk.log
  refine(zph hl HR.out.ti.good.small _).mono ?_
  rintro e w7 ⟨rfl,hb⟩
  exact⟨by rw[HND.out,HIS.out],hb⟩
 go_big_quiet_op
 refine wgb (some 15) w rfl (.tuple #[ddV d,.bool true]) rfl (by kernel_rfl) (fun wk hwk=> ?_) ?_
 ·refine gus ?_
  generalize hA:Act.eval _=ρ
  have s23:ρ (.tmp 23)= .tuple #[ddV d,.bool true]:=by rw[←hA];kernel_rfl
  clear hA
  go_simp
 go_big_quiet_op
 refine wgb (some 24) w rfl (ddV d) rfl (by kernel_rfl) (fun wk hwk=> ?_) ?_
 ·refine gus ?_
  generalize hA:Act.eval _=ρ
  have s15:ρ (.tmp 15)= .tuple #[ddV d,.bool true]:=by rw[←hA];kernel_rfl
  clear hA
  go_simp
 go_big_quiet_op
 refine wgb (some 25) w rfl (.bool true) rfl (by kernel_rfl) (fun wk hwk=> ?_) ?_
 ·refine gus ?_
  generalize hA:Act.eval _=ρ
  have s15:ρ (.tmp 15)= .tuple #[ddV d,.bool true]:=by rw[←hA];kernel_rfl
  clear hA
  go_simp
 go_big_quiet_op
 refine zbf (some 6) w rfl rfl rfl (fun u=>∃E,u= .pointer (some ⟨E,0,none⟩)) (fun u wk=>∃E,u= .pointer (some ⟨E,0,none⟩)∧zap base w S D G pw t tk (zag (fun _=>Th.no base) 0 (Th.dd base E ⟨0,0,0,0,0,0,⟨#[]⟩⟩)) wk) (⟨.pointer (some ⟨0,0,none⟩),0,rfl⟩) (fun _ _ ⟨_,_,h⟩=>h.bare) (fun _ _ _ ⟨E,e,h⟩ hb=>⟨E,e,h.after hb⟩) (fun wk hwk=> ?_) (fun u11 hu11=> ?_)
 ·generalize hA:Act.eval _=ρ
  clear hA
  have hq:=zap.deed hwk ⟨0,0,0,0,0,0,⟨#[]⟩⟩ 0
  go_simp
  exact⟨⟨_,rfl⟩,_,rfl,hq⟩
 obtain⟨E,rfl⟩:=hu11
 go_big_quiet_op
 refine zgd rfl rfl rfl (fun wk=>zap base w S D G pw t tk (zag (fun _=>Th.no base) 0 (Th.dd base E d)) wk) (fun _ h=>h.bare) (zap.shut) (fun wk hwk=> ?_) ?_
 ·generalize hA:Act.eval _=ρ
  have s6:ρ (.tmp 6)= .pointer (some ⟨E,0,none⟩):=by rw[←hA];kernel_rfl
  have s24:ρ (.tmp 24)=ddV d:=by rw[←hA];kernel_rfl
  clear hA
  obtain⟨E',he,hq⟩:=hwk
  obtain rfl:E=E':=by simpa using he
  clear he
  have hst:=hq.store d
  obtain⟨⟨hlt,c0,c1,c2,c3,c4,c5,c6⟩,hf⟩:=hq.deedAt
  simp only[Nat.zero_add]at hlt c0 c1 c2 c3 c4 c5 c6
  have f0:=hf 0 (by omega)
  have f1:=hf 1 (by omega)
  have f2:=hf 2 (by omega)
  have f3:=hf 3 (by omega)
  have f4:=hf 4 (by omega)
  have f5:=hf 5 (by omega)
  have f6:=hf 6 (by omega)
  go_simp
  exact hst
 refine wgb (some 7) w rfl (.bool true) rfl (by kernel_rfl) (fun wk hwk=> ?_) ?_
 ·refine gus ?_
  generalize hA:Act.eval _=ρ
  have s25:ρ (.tmp 25)= .bool true:=by rw[←hA];kernel_rfl
  clear hA
  go_simp
 go_big_quiet_op
 refine zdt (fun w9 hw9=> ?_)
 have H9:Hid (zap base w S D G pw t tk (zag (fun _=>Th.no base) 0 (Th.dd base E d)) w9):=hw9
 clear hw9 HIk
 obtain⟨⟨_,c0,c1,c2,c3,c4,c5,c6⟩,_⟩:=H9.out.deedAt
 simp only[Nat.zero_add]at c0 c1 c2 c3 c4 c5 c6
 go_wp2_with fail
 obtain⟨T,lv,ov,tvs,hp,hs⟩:=H9.out.wr hk HE.out
 refine(qfn HR.out HE.out HDS.out hp).mono ?_
 rintro e w10 ⟨rfl,h0,h1⟩
 have H10:Hid (zap base w S D G pw ⟨t.b,zab t.ws k (some (zav r d))⟩ (zab tk k (zg3 r d (tk k))) (zag (fun _=>Th.no base) 0 (Th.dd base E d)) w10):=hs (zav r d) (zg3 r d (tk k)) w10 (h0 HCC.out)
 rw[HCC.out]
 clear h0 h1 hs hp H9 c0 c1 c2 c3 c4 c5 c6
 go_wp2_with fail
 refine zc1 (fun wk=>DAnyB base w S D G pw (zab t.ws k (some (zav r d))) (zab tk k (zg3 r d (tk k))) (zag (fun _=>Th.no base) 0 (Th.dd base E d)) wk) (fun i=>i==7) (fun wk=>zap base w S D G pw ⟨t.b,zab t.ws k (some (zav r d))⟩ (zab tk k (zg3 r d (tk k))) (zag (fun _=>Th.no base) 0 (Th.dd base E d)) wk) (by kernel_rfl) (by kernel_rfl) (by kernel_rfl) (fun _ h=>⟨_,h⟩) (zap.shut) (H10.out.after (Below.refl _ _).drew) ?_
 refine wgb (some 37) w rfl (.pointer (some ⟨D,0,none⟩)) rfl (by kernel_rfl) (fun wk hwk=> ?_) ?_
 ·refine gus ?_
  generalize hA:Act.eval _=ρ
  have s0:ρ (.tmp 0)= .pointer (some ⟨D,0,none⟩):=by rw[←hA];kernel_rfl
  clear hA
  go_simp
 go_big_quiet_op
 refine wgb (some 38) w rfl (.pointer (some ⟨D,0,none⟩)) rfl (by kernel_rfl) (fun wk hwk=> ?_) ?_
 ·refine gus ?_
  generalize hA:Act.eval _=ρ
  have s37:ρ (.tmp 37)= .pointer (some ⟨D,0,none⟩):=by rw[←hA];kernel_rfl
  clear hA
  go_simp
 go_big_quiet_op
 refine wgb (some 39) w rfl (.pointer (some ⟨D,0,none⟩)) rfl (by kernel_rfl) (fun wk hwk=> ?_) ?_
 ·refine gus ?_
  generalize hA:Act.eval _=ρ
  have s38:ρ (.tmp 38)= .pointer (some ⟨D,0,none⟩):=by rw[←hA];kernel_rfl
  clear hA
  go_simp
 go_big_quiet_op
 refine wgb (some 40) w rfl (.pointer (some ⟨G,0,none⟩)) rfl (by kernel_rfl) (fun wk hwk=> ?_) ?_
 ·refine gus ?_
  generalize hA:Act.eval _=ρ
  have s39:ρ (.tmp 39)= .pointer (some ⟨D,0,none⟩):=by rw[←hA];kernel_rfl
  clear hA
  obtain⟨b,hr⟩:=hwk
  have g0:=hr.cells.book
  go_simp
 go_big_quiet_op
 refine wgb (some 41) w rfl (.int .i64 (k:Int)) rfl (by kernel_rfl) (fun wk hwk=> ?_) ?_
 ·refine gus ?_
  generalize hA:Act.eval _=ρ
  have s1:ρ (.tmp 1)= .int .i64 (k:Int):=by rw[←hA];kernel_rfl
  clear hA
  go_simp
 go_big_quiet_op
 refine wgb (some 42) w rfl (.pointer (some ⟨pw k,0,none⟩)) rfl (by kernel_rfl) (fun wk hwk=> ?_) ?_
 ·refine gus ?_
  generalize hA:Act.eval _=ρ
  have s5:ρ (.tmp 5)= .pointer (some ⟨pw k,0,none⟩):=by rw[←hA];kernel_rfl
  clear hA
  go_simp
 go_big_quiet_op
 refine wgb (some 43) w rfl (.int .i64 (Wr.least (zav r d))) rfl (by kernel_rfl) (fun wk hwk=> ?_) ?_
 ·generalize hA:Act.eval _=ρ
  have s42:ρ (.tmp 42)= .pointer (some ⟨pw k,0,none⟩):=by rw[←hA];kernel_rfl
  have sf:ρ (.func 168)= .func (.func 168) #[] #[]:=by rw[←hA];kernel_rfl
  clear hA
  unfold zcf
  go_simp
  obtain⟨b,hr⟩:=hwk
  obtain⟨T,lv,ov,tvs,hp,_⟩:=hr.wr hk (zaf _ _ _)
  refine(least_pw hp).mono ?_
  rintro e w7 ⟨rfl,hb⟩
  exact⟨rfl,hb⟩
 go_big_quiet_op
 refine zbf (some 44) w rfl rfl rfl (fun u=>u= .int .i64 (zd4 t.b k (zav r d).least)) (fun u wk=>zap base w S D G pw ⟨zcz t.b k (zav r d).least,zab t.ws k (some (zav r d))⟩ (zab tk k (zg3 r d (tk k))) (zag (fun _=>Th.no base) 0 (Th.dd base E d)) wk) (⟨_,rfl⟩) (fun _ _ h=>⟨_,h⟩) (fun _=>zap.shut) (fun wk hwk=> ?_) (fun u8 hu8=> ?_)
 ·generalize hA:Act.eval _=ρ
  have s40:ρ (.tmp 40)= .pointer (some ⟨G,0,none⟩):=by rw[←hA];kernel_rfl
  have s41:ρ (.tmp 41)= .int .i64 (k:Int):=by rw[←hA];kernel_rfl
  have s43:ρ (.tmp 43)= .int .i64 (Wr.least (zav r d)):=by rw[←hA];kernel_rfl
  have sf:ρ (.func 167)= .func (.func 167) #[] #[]:=by rw[←hA];kernel_rfl
  clear hA
  go_simp
  obtain⟨T,dv,lv,hl,hs⟩:=hwk.log
  refine(says_lg hl _ _).mono ?_
  rintro e w7 ⟨rfl,hto⟩
  exact⟨_,rfl,rfl,hs _ _ hto⟩
 subst hu8
 go_big_quiet_op
 refine wgb (some 4) w rfl (.int .i64 (zd4 t.b k (zav r d).least)) rfl (by kernel_rfl) (fun wk hwk=> ?_) ?_
 ·refine gus ?_
  generalize hA:Act.eval _=ρ
  have s44:ρ (.tmp 44)= .int .i64 (zd4 t.b k (zav r d).least):=by rw[←hA];kernel_rfl
  clear hA
  go_simp
 go_big_quiet_op
 refine zdt (fun w12 hw12=> ?_)
 have H12:Hid (zap base w S D G pw ⟨zcz t.b k (zav r d).least,zab t.ws k (some (zav r d))⟩ (zab tk k (zg3 r d (tk k))) (zag (fun _=>Th.no base) 0 (Th.dd base E d)) w12):=hw12
 clear hw12 H10
 go_wp2_with fail
 go_ret
 exact⟨rfl,H12.out.done HL.out⟩
end Go.Proofs.YtcbnnfeelhlapadGreatDoor