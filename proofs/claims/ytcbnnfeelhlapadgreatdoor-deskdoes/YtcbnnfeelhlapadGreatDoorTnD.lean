/-
  A town by the document: Do of one that hears, of one that clears; a step, whole.
-/
import Derived.Test.YtcbnnfeelhlapadGreatDoorTnC
namespace Go.Proofs.YtcbnnfeelhlapadGreatDoor
set_option maxHeartbeats 6400000
set_option maxRecDepth 20000
open Go Go.RowKit
theorem thear_no{w:World}{base D G:Nat}{pw:Nat→Nat}{t:Twn}{S:Nat→Prop}(h:zke base D G pw t w S){tk:Int→List (List Ch)}(hr:TR t tk)(x:Tst){k:Nat}(hk:k<4){r:Wr}(he:t.ws k=some r)(hxw:x.w=k)(hkd:x.kind=5)(hn:t.b.ds[r.seen]? =none):
 Calls Tryz.prog 56 #[.pointer (some ⟨D,0,none⟩),tsV x] w fun e w'=>e= .returned (.int .i64 5)∧zkd base w S D G pw t w':=by
 have HI:Hid (zb8 base w S D G pw t (zag (fun _=>Th.no base) 0 (Th.st base w.heap.size x)) (w.alloc (zc8 x))):=h.start.step x 0
 have HL:Hid (base≤w.heap.size∧∀k,S k→base≤k∧k<w.heap.size):=h.held
 have HR:Hid (TR t tk):=hr
 have hle:(t.b.ds.length:Int)≤(r.seen:Int):=by have:=List.getElem?_eq_none_iff.1 hn;omega
 clear hn
 have HE:Hid (t.ws k=some r):=he
 have HO:Hid (WOk r (tk k)):=zbj hr he
 have hhs:zbs t k=true:=by unfold zbs;rw[he];rfl
 clear he
 obtain⟨kind,w_,at_,many,text⟩:=x
 clear h hr
 obtain rfl:w_=(k:Int):=hxw
 obtain rfl:kind=5:=hkd
 have hk4:(k:Int)<4:=by omega
 have HWR:Hid (∀w:World,Calls Tryz.prog 57 #[.int .i64 k] w fun e w'=>e= .returned (.bool true)∧w'=w):=fun w=>by have:=za7 k w;rw[show wrB (k:Int)=true by simp[wrB];omega]at this;exact this
 go_enter Tryz.func56,Tryz.ntmps56
 go_wp2_with fail
 generalize World.alloc _ _=w5 at*
 obtain⟨_,c0,c1,c2,c3,c4⟩:=HI.out.stepAt
 simp only[Nat.zero_add]at c0 c1 c2 c3 c4
 have g1:=HI.out.cells.ws k hk
 have hlt:=HI.out.cells.lt
 simp only[hhs,zbu,if_true]at g1
 go_quiet ((go_at_call 57;exact Calls.quiet_of_same (HWR.out _)))
 go_wp2_with fail
 have H6:Hid (zb8 base w S D G pw t (zag (fun _=>Th.no base) 0 (Th.st base w.heap.size ⟨5,(k:Int),at_,many,text⟩)) (w5.drewN nq)):=HI.out.after (below_drewN (Below.refl _ _) nq)
 generalize w5.drewN nq=w6 at*
 clear HI c0 c1 c2 c3 c4 g1 hlt
 obtain⟨_,c0,c1,c2,c3,c4⟩:=H6.out.stepAt
 simp only[Nat.zero_add]at c0 c1 c2 c3 c4
 have g1:=H6.out.cells.ws k hk
 have hlt:=H6.out.cells.lt
 simp only[hhs,zbu,if_true]at g1
 go_quiet (fail)
 go_wp2_with fail
 have H7:Hid (zb8 base w S D G pw t (zag (fun _=>Th.no base) 0 (Th.st base w.heap.size ⟨5,(k:Int),at_,many,text⟩)) (w6.drewN nq)):=H6.out.after (below_drewN (Below.refl _ _) nq)
 generalize w6.drewN nq=w7 at*
 clear H6 c0 c1 c2 c3 c4 g1 hlt hhs
 obtain⟨ow,dv,hown⟩:=H7.out.owned
 obtain⟨bv,ov,hq,_⟩:=hown.wr hk HE.out
 obtain⟨a,cap,hdv⟩:=hown.2.ownD.len
 subst hdv
 have gs:=hq.cells.seen
 have gql:=hq.cells.lt
 have gb:=hown.2.cells.deeds
 have gbl:=hown.2.cells.lt
 have g0:=H7.out.cells.book
 have hlt:=H7.out.cells.lt
 go_quiet (fail)
 have HO8:Hid (zqd base w S D G pw t (zag (fun _=>Th.no base) 0 (Th.st base w.heap.size ⟨5,(k:Int),at_,many,text⟩)) ow (.slice a t.b.ds.length cap) (w7.drewN nq)):=hown.after (below_drewN (Below.refl _ _) nq)
 generalize w7.drewN nq=w8 at*
 clear H7 hown hq gs gql gb gbl g0 hlt
 go_wp2_with fail
 go_ret
 exact⟨rfl,HO8.out.tn.done HL.out⟩
theorem qfm{t:Twn}{tk:Int→List (List Ch)}(h:TR t tk){v:Int}{r:Wr}(he:t.ws v=some r){d:Dd}(hd:t.b.ds[r.seen]? =some d){w:World}{base Q:Nat}{S:Nat→Prop}{bv ov:Value}(hq:zes w base S Q bv ov r.base r.opens r.me r.seen r.next r.sent):
 Calls Tryz.prog 98 #[.pointer (some ⟨Q,0,none⟩),ddV d] w fun e w'=>e= .returned (.int .i64 (zbd r d))∧(zbd r d=0→zt7 w base S Q (zav r d).base (zav r d).opens (zav r d).me (zav r d).seen (zav r d).next (zav r d).sent w')∧(zbd r d≠0→Below w.heap.size w w'):=by
 have ho:=zbj h he
 obtain⟨hm,c,hi⟩:=h.ti.wi v r he
 have hg:=h.ti.good
 obtain⟨hl,rfl⟩:=List.getElem?_eq_some_iff.1 hd
 have h2:=ho.few
 have h3:=ho.seen
 have h4:=ho.base
 have hb0:=(hi.base_next hg hl).1
 by_cases hb:t.b.ds[r.seen].by_=r.me
 ·obtain⟨es,hes,hsn⟩:=hi.own_first hl hb
  have hc:zbd r t.b.ds[r.seen]=0:=by
   rw[zbd,if_neg (fun x=>x hb),if_pos (by rw[hes];rfl)]
  have hsl:=hi.sent
  obtain⟨s,hss⟩:∃s,r.sent=s+1:=⟨r.sent-1,by omega⟩
  have e1:(zav r t.b.ds[r.seen])=⟨r.me,r.seen+1,r.next,doL r.base t.b.ds[r.seen] ((r.seen:Int)+1),es,s⟩:=by
   rw[zav,if_neg (fun x=>x hb),hes,hss];rfl
  rw[hes,hss]at hq
  have hes2:es.length≤1000:=by rw[hes]at h2;simp at h2;omega
  have hst:s≤1000:=by rw[hes]at h2 hsl;simp at h2 hsl;omega
  refine(qbg (sent:=s) (by simpa using hq) hes2 (by omega) hst (by omega) ho.tame hb hb0).mono ?_
  rintro e w' ⟨rfl,hto⟩
  rw[hc,e1]
  exact⟨rfl,fun _=>by simpa using hto,fun x=>absurd rfl x⟩
 ·have hc:zbd r t.b.ds[r.seen]=doC r.list t.b.ds[r.seen] ((r.seen:Int)+1):=by rw[zbd,if_pos hb]
  have e1:(zav r t.b.ds[r.seen])=⟨r.me,r.seen+1,r.next,doL r.base t.b.ds[r.seen] ((r.seen:Int)+1),r.opens,r.sent⟩:=by rw[zav,if_pos hb]
  refine(zv0 hq (by omega) ho.top (by omega) (by omega) ho.tame _ hb hb0).mono ?_
  rintro e w' ⟨rfl,h0,hn⟩
  rw[hc,e1]
  exact⟨rfl,fun hz=>by simpa using h0 hz,hn⟩
structure TH(base:Nat)(w0:World)(S:Nat→Prop)(D G:Nat)(pw:Nat→Nat)(t:Twn)(ex:Nat→Th base)(ow:Nat→Nat)(dv:Value)(b:Bk)(wk:World):Prop where
 tn:zb8 base w0 S D G pw t ex wk
 bk:zas wk base (fun j=>ow j=1) G dv b
theorem zqd.th{base D G:Nat}{pw:Nat→Nat}{t:Twn}{ex:Nat→Th base}{w0 wk:World}{S:Nat→Prop}{ow:Nat→Nat}{dv:Value}(h:zqd base w0 S D G pw t ex ow dv wk):TH base w0 S D G pw t ex ow dv t.b wk:=⟨h.tn,h.2⟩
theorem qdf{w:World}{base D G:Nat}{pw:Nat→Nat}{t:Twn}{S:Nat→Prop}(h:zke base D G pw t w S){tk:Int→List (List Ch)}(hr:TR t tk)(x:Tst){k:Nat}(hk:k<4){r:Wr}(he:t.ws k=some r)(hxw:x.w=k)(hkd:x.kind=5){d:Dd}(hn:t.b.ds[r.seen]? =some d)(hcc:zbd r d≠0):
 Calls Tryz.prog 56 #[.pointer (some ⟨D,0,none⟩),tsV x] w fun e w'=>e= .returned (.int .i64 (zbd r d))∧zkd base w S D G pw (zdl t k) w':=by
 have HI:Hid (zb8 base w S D G pw t (zag (fun _=>Th.no base) 0 (Th.st base w.heap.size x)) (w.alloc (zc8 x))):=h.start.step x 0
 have HL:Hid (base≤w.heap.size∧∀k,S k→base≤k∧k<w.heap.size):=h.held
 have HR:Hid (TR t tk):=hr
 obtain⟨hsl0,hde⟩:=List.getElem?_eq_some_iff.1 hn
 have HSL:Hid (r.seen<t.b.ds.length):=hsl0
 have HDX:Hid (t.b.ds[r.seen]=d):=hde
 have HDS:Hid (t.b.ds[r.seen]? =some d):=hn
 have HCC:Hid (zbd r d≠0):=hcc
 have hlt9:¬(t.b.ds.length:Int)≤(r.seen:Int):=by omega
 clear hn hde hcc
 have HE:Hid (t.ws k=some r):=he
 have HO:Hid (WOk r (tk k)):=zbj hr he
 have hhs:zbs t k=true:=by unfold zbs;rw[he];rfl
 clear he
 obtain⟨kind,w_,at_,many,text⟩:=x
 clear h hr
 obtain rfl:w_=(k:Int):=hxw
 obtain rfl:kind=5:=hkd
 have hk4:(k:Int)<4:=by omega
 have HWR:Hid (∀w:World,Calls Tryz.prog 57 #[.int .i64 k] w fun e w'=>e= .returned (.bool true)∧w'=w):=fun w=>by have:=za7 k w;rw[show wrB (k:Int)=true by simp[wrB];omega]at this;exact this
 go_enter Tryz.func56,Tryz.ntmps56
 go_wp2_with fail
 generalize World.alloc _ _=w5 at*
 obtain⟨_,c0,c1,c2,c3,c4⟩:=HI.out.stepAt
 simp only[Nat.zero_add]at c0 c1 c2 c3 c4
 have g1:=HI.out.cells.ws k hk
 have hlt:=HI.out.cells.lt
 simp only[hhs,zbu,if_true]at g1
 go_quiet ((go_at_call 57;exact Calls.quiet_of_same (HWR.out _)))
 go_wp2_with fail
 have H6:Hid (zb8 base w S D G pw t (zag (fun _=>Th.no base) 0 (Th.st base w.heap.size ⟨5,(k:Int),at_,many,text⟩)) (w5.drewN nq)):=HI.out.after (below_drewN (Below.refl _ _) nq)
 generalize w5.drewN nq=w6 at*
 clear HI c0 c1 c2 c3 c4 g1 hlt
 obtain⟨_,c0,c1,c2,c3,c4⟩:=H6.out.stepAt
 simp only[Nat.zero_add]at c0 c1 c2 c3 c4
 have g1:=H6.out.cells.ws k hk
 have hlt:=H6.out.cells.lt
 simp only[hhs,zbu,if_true]at g1
 go_quiet (fail)
 go_wp2_with fail
 have H7:Hid (zb8 base w S D G pw t (zag (fun _=>Th.no base) 0 (Th.st base w.heap.size ⟨5,(k:Int),at_,many,text⟩)) (w6.drewN nq)):=H6.out.after (below_drewN (Below.refl _ _) nq)
 generalize w6.drewN nq=w7 at*
 clear H6 c0 c1 c2 c3 c4 g1 hlt hhs
 obtain⟨ow,dv,hown⟩:=H7.out.owned
 obtain⟨bv,ov,hq,_⟩:=hown.wr hk HE.out
 obtain⟨a,cap,hdv⟩:=hown.2.ownD.len
 subst hdv
 obtain⟨bb,off,rfl⟩:∃bb off,a=some ⟨bb,off,none⟩:=by
  obtain⟨a9,l9,c9,he9,e1,e2,e3⟩:=hown.2.ownD.dlst
  simp only[Value.slice.injEq]at he9
  obtain⟨rfl,rfl,rfl⟩:=he9
  rcases e3 with e3|⟨b9,o9,he2,hr9⟩
  ·omega
  ·exact⟨b9,o9,he2⟩
 have gs:=hq.cells.seen
 have gql:=hq.cells.lt
 have gb:=hown.2.cells.deeds
 have gbl:=hown.2.cells.lt
 have g0:=H7.out.cells.book
 have hlt:=H7.out.cells.lt
 go_quiet (fail)
 have HO8:Hid (zqd base w S D G pw t (zag (fun _=>Th.no base) 0 (Th.st base w.heap.size ⟨5,(k:Int),at_,many,text⟩)) ow (.slice (some ⟨bb,off,none⟩) t.b.ds.length cap) (w7.drewN nq)):=hown.after (below_drewN (Below.refl _ _) nq)
 generalize w7.drewN nq=w8 at*
 clear H7 hown hq gs gql gb gbl g0 hlt
 go_wp2_with fail
 refine wrs (fun wk=>∃t9,TH base w S D G pw t9 (zag (fun _=>Th.no base) 0 (Th.st base w.heap.size ⟨5,(k:Int),at_,many,text⟩)) ow (.slice (some ⟨bb,off,none⟩) t.b.ds.length cap) t.b wk) (fun i=>i==11||i==12||i==13||i==14) (fun wk=>zqd base w S D G pw t (zag (fun _=>Th.no base) 0 (Th.st base w.heap.size ⟨5,(k:Int),at_,many,text⟩)) ow (.slice (some ⟨bb,off,none⟩) t.b.ds.length cap) wk) (by kernel_rfl) (by kernel_rfl) (by kernel_rfl) (fun _ h=>⟨_,h.th⟩) (HO8.out.after (Below.refl _ _).drew) ?_
 refine wsb (some 153) w rfl (.pointer (some ⟨pw k,0,none⟩)) rfl (by kernel_rfl) (fun wk hwk=> ?_) ?_
 ·generalize hA:Act.eval _=ρ
  have s7:ρ (.tmp 7)= .pointer (some ⟨pw k,0,none⟩):=by rw[←hA];kernel_rfl
  clear hA
  go_simp
 go_big_quiet_op
 refine wsb (some 154) w rfl (.pointer (some ⟨D,0,none⟩)) rfl (by kernel_rfl) (fun wk hwk=> ?_) ?_
 ·generalize hA:Act.eval _=ρ
  have s0:ρ (.tmp 0)= .pointer (some ⟨D,0,none⟩):=by rw[←hA];kernel_rfl
  clear hA
  go_simp
 go_big_quiet_op
 refine wsb (some 155) w rfl (.pointer (some ⟨D,0,none⟩)) rfl (by kernel_rfl) (fun wk hwk=> ?_) ?_
 ·generalize hA:Act.eval _=ρ
  have s154:ρ (.tmp 154)= .pointer (some ⟨D,0,none⟩):=by rw[←hA];kernel_rfl
  clear hA
  go_simp
 go_big_quiet_op
 refine wsb (some 156) w rfl (.pointer (some ⟨D,0,none⟩)) rfl (by kernel_rfl) (fun wk hwk=> ?_) ?_
 ·generalize hA:Act.eval _=ρ
  have s155:ρ (.tmp 155)= .pointer (some ⟨D,0,none⟩):=by rw[←hA];kernel_rfl
  clear hA
  go_simp
 go_big_quiet_op
 refine wsb (some 157) w rfl (.pointer (some ⟨G,0,none⟩)) rfl (by kernel_rfl) (fun wk hwk=> ?_) ?_
 ·generalize hA:Act.eval _=ρ
  have s156:ρ (.tmp 156)= .pointer (some ⟨D,0,none⟩):=by rw[←hA];kernel_rfl
  clear hA
  obtain⟨t9,hq9⟩:=hwk
  have g0:=hq9.tn.cells.book
  have hlt:=hq9.tn.cells.lt
  go_simp
 go_big_quiet_op
 refine wsb (some 158) w rfl (.pointer (some ⟨G,0,none⟩)) rfl (by kernel_rfl) (fun wk hwk=> ?_) ?_
 ·generalize hA:Act.eval _=ρ
  have s157:ρ (.tmp 157)= .pointer (some ⟨G,0,none⟩):=by rw[←hA];kernel_rfl
  clear hA
  go_simp
 go_big_quiet_op
 refine wsb (some 159) w rfl (.pointer (some ⟨G,0,none⟩)) rfl (by kernel_rfl) (fun wk hwk=> ?_) ?_
 ·generalize hA:Act.eval _=ρ
  have s158:ρ (.tmp 158)= .pointer (some ⟨G,0,none⟩):=by rw[←hA];kernel_rfl
  clear hA
  go_simp
 go_big_quiet_op
 refine wsb (some 160) w rfl (.slice (some ⟨bb,off,none⟩) t.b.ds.length cap) rfl (by kernel_rfl) (fun wk hwk=> ?_) ?_
 ·generalize hA:Act.eval _=ρ
  have s159:ρ (.tmp 159)= .pointer (some ⟨G,0,none⟩):=by rw[←hA];kernel_rfl
  clear hA
  obtain⟨t9,hq9⟩:=hwk
  have g0:=hq9.bk.cells.deeds
  have hlt:=hq9.bk.cells.lt
  go_simp
 go_big_quiet_op
 refine wsb (some 161) w rfl (.pointer (some ⟨pw k,0,none⟩)) rfl (by kernel_rfl) (fun wk hwk=> ?_) ?_
 ·generalize hA:Act.eval _=ρ
  have s7:ρ (.tmp 7)= .pointer (some ⟨pw k,0,none⟩):=by rw[←hA];kernel_rfl
  clear hA
  go_simp
 go_big_quiet_op
 refine wsb (some 162) w rfl (.pointer (some ⟨pw k,0,none⟩)) rfl (by kernel_rfl) (fun wk hwk=> ?_) ?_
 ·generalize hA:Act.eval _=ρ
  have s161:ρ (.tmp 161)= .pointer (some ⟨pw k,0,none⟩):=by rw[←hA];kernel_rfl
  clear hA
  go_simp
 go_big_quiet_op
 refine wsb (some 163) w rfl (.pointer (some ⟨pw k,1,none⟩)) rfl (by kernel_rfl) (fun wk hwk=> ?_) ?_
 ·generalize hA:Act.eval _=ρ
  have s162:ρ (.tmp 162)= .pointer (some ⟨pw k,0,none⟩):=by rw[←hA];kernel_rfl
  clear hA
  go_simp
 go_big_quiet_op
 refine zaa (some 164) w rfl rfl rfl (fun u=>u= .int .i64 ((r.seen:Int))) (fun u wk=>zqd base w S D G pw t (zag (fun _=>Th.no base) 0 (Th.st base w.heap.size ⟨5,(k:Int),at_,many,text⟩)) ow (.slice (some ⟨bb,off,none⟩) t.b.ds.length cap) wk) (⟨_,rfl⟩) (fun _ _ h=>⟨_,h.th⟩) (fun wk hwk=> ?_) (fun u9 hu9=> ?_)
 ·generalize hA:Act.eval _=ρ
  have s163:ρ (.tmp 163)= .pointer (some ⟨pw k,1,none⟩):=by rw[←hA];kernel_rfl
  clear hA
  obtain⟨bv,ov,hq,_⟩:=hwk.wr hk HE.out
  have gs:=hq.cells.seen
  have gql:=hq.cells.lt
  go_simp
  exact⟨rfl,hwk⟩
 subst hu9
 go_big_quiet_op
 refine zaa (some 165) w rfl rfl rfl (fun u=>u= .pointer (some ⟨bb,off+r.seen*7,none⟩)) (fun u wk=>zqd base w S D G pw t (zag (fun _=>Th.no base) 0 (Th.st base w.heap.size ⟨5,(k:Int),at_,many,text⟩)) ow (.slice (some ⟨bb,off,none⟩) t.b.ds.length cap) wk) (⟨_,rfl⟩) (fun _ _ h=>⟨_,h.th⟩) (fun wk hwk=> ?_) (fun u9 hu9=> ?_)
 ·generalize hA:Act.eval _=ρ
  have s160:ρ (.tmp 160)= .slice (some ⟨bb,off,none⟩) t.b.ds.length cap:=by rw[←hA];kernel_rfl
  have s164:ρ (.tmp 164)= .int .i64 ((r.seen:Int)):=by rw[←hA];kernel_rfl
  clear hA
  have hsl2:=HSL.out
  go_simp
  exact⟨rfl,hwk⟩
 subst hu9
 go_big_quiet_op
 refine zaa (some 166) w rfl rfl rfl (fun u=>u=ddV d) (fun u wk=>zqd base w S D G pw t (zag (fun _=>Th.no base) 0 (Th.st base w.heap.size ⟨5,(k:Int),at_,many,text⟩)) ow (.slice (some ⟨bb,off,none⟩) t.b.ds.length cap) wk) (⟨_,rfl⟩) (fun _ _ h=>⟨_,h.th⟩) (fun wk hwk=> ?_) (fun u9 hu9=> ?_)
 ·generalize hA:Act.eval _=ρ
  have s165:ρ (.tmp 165)= .pointer (some ⟨bb,off+r.seen*7,none⟩):=by rw[←hA];kernel_rfl
  clear hA
  have hdl:=hwk.2.ownD.dlst
  obtain⟨a9,l9,c9,he9,e1,e2,e3⟩:=hdl
  simp only[Value.slice.injEq]at he9
  obtain⟨hea,hel,hec⟩:=he9
  rcases e3 with e3|⟨b9,o9,he2,hr9⟩
  ·have:=HSL.out;omega
  rw[he2]at hea
  simp only[Option.some.injEq,Addr.mk.injEq]at hea
  obtain⟨rfl,rfl,_⟩:=hea
  obtain⟨hbb,g0,g1,g2,g3,g4,g5,g6⟩:=hr9.at_ r.seen (by have:=HSL.out;omega)
  have e9:∀h9:r.seen<t.b.ds.length,t.b.ds[r.seen]'h9=d:=fun _=>HDX.out
  simp only[e9]at g0 g1 g2 g3 g4 g5 g6
  clear hel hec e1 e2 he2
  go_simp
  exact⟨rfl,hwk⟩
 subst hu9
 go_big_quiet_op
 refine zaa (some 167) w rfl rfl rfl (fun u=>u= .int .i64 (zbd r d)) (fun u wk=>TH base w S D G pw t (zag (fun _=>Th.no base) 0 (Th.st base w.heap.size ⟨5,(k:Int),at_,many,text⟩)) ow (.slice (some ⟨bb,off,none⟩) t.b.ds.length cap) t.b wk) (⟨_,rfl⟩) (fun _ _ h=>⟨_,h⟩) (fun wk hwk=> ?_) (fun u9 hu9=> ?_)
 ·generalize hA:Act.eval _=ρ
  have s153:ρ (.tmp 153)= .pointer (some ⟨pw k,0,none⟩):=by rw[←hA];kernel_rfl
  have s166:ρ (.tmp 166)=ddV d:=by rw[←hA];kernel_rfl
  have sf:ρ (.func 98)= .func (.func 98) #[] #[]:=by rw[←hA];kernel_rfl
  clear hA
  go_simp
  obtain⟨bv,ov,hq,hs⟩:=hwk.wr hk HE.out
  refine(qfm HR.out HE.out HDS.out hq).mono ?_
  rintro e w7 ⟨rfl,h0,h1⟩
  exact⟨_,rfl,rfl,(hwk.after (h1 HCC.out)).th⟩
 subst hu9
 go_big_quiet_op
 refine wsb (some 16) w rfl (.int .i64 (zbd r d)) rfl (by kernel_rfl) (fun wk hwk=> ?_) ?_
 ·generalize hA:Act.eval _=ρ
  have s167:ρ (.tmp 167)= .int .i64 (zbd r d):=by rw[←hA];kernel_rfl
  clear hA
  go_simp
 go_big_quiet_op
 refine wsn (fun w10 hw10=> ?_)
 have H10:Hid (zb8 base w S D G pw t (zag (fun _=>Th.no base) 0 (Th.st base w.heap.size ⟨5,(k:Int),at_,many,text⟩)) w10):=hw10.tn
 clear hw10 HO8
 obtain⟨c,hcq⟩:∃c,zbd r d=c:=⟨_,rfl⟩
 have HCQ:Hid (zbd r d=c):=hcq
 have hcn:¬c=0:=by rw[←hcq];exact HCC.out
 rw[hcq]
 clear hcq
 obtain⟨_,c0,c1,c2,c3,c4⟩:=H10.out.stepAt
 simp only[Nat.zero_add]at c0 c1 c2 c3 c4
 go_wp2_with fail
 obtain⟨T,ha,hs⟩:=H10.out.call
 refine(zxt ha hk).mono ?_
 rintro e w12 ⟨rfl,hto⟩
 have H12:Hid (zb8 base w S D G pw (zdl t k) (zag (fun _=>Th.no base) 0 (Th.st base w.heap.size ⟨5,(k:Int),at_,many,text⟩)) w12):=hs _ _ _ hto
 clear hto hs ha H10 c0 c1 c2 c3 c4
 go_wp2_with fail
 go_ret
 exact⟨by rw[HCQ.out];rfl,H12.out.done HL.out⟩
theorem qde{w:World}{base D G:Nat}{pw:Nat→Nat}{t:Twn}{S:Nat→Prop}(h:zke base D G pw t w S){tk:Int→List (List Ch)}(hr:TR t tk)(x:Tst){k:Nat}(hk:k<4){r:Wr}(he:t.ws k=some r)(hxw:x.w=k)(hkd:x.kind=5){d:Dd}(hn:t.b.ds[r.seen]? =some d)(hcc:zbd r d=0):
 Calls Tryz.prog 56 #[.pointer (some ⟨D,0,none⟩),tsV x] w fun e w'=>e= .returned (.int .i64 (zd4 t.b k (zav r d).least))∧zkd base w S D G pw ⟨zcz t.b k (zav r d).least,zab t.ws k (some (zav r d))⟩ w':=by
 have HI:Hid (zb8 base w S D G pw t (zag (fun _=>Th.no base) 0 (Th.st base w.heap.size x)) (w.alloc (zc8 x))):=h.start.step x 0
 have HL:Hid (base≤w.heap.size∧∀k,S k→base≤k∧k<w.heap.size):=h.held
 have HR:Hid (TR t tk):=hr
 obtain⟨hsl0,hde⟩:=List.getElem?_eq_some_iff.1 hn
 have HSL:Hid (r.seen<t.b.ds.length):=hsl0
 have HDX:Hid (t.b.ds[r.seen]=d):=hde
 have HDS:Hid (t.b.ds[r.seen]? =some d):=hn
 have HCC:Hid (zbd r d=0):=hcc
 have hlt9:¬(t.b.ds.length:Int)≤(r.seen:Int):=by omega
 clear hn hde hcc
 have HE:Hid (t.ws k=some r):=he
 have HO:Hid (WOk r (tk k)):=zbj hr he
 have hhs:zbs t k=true:=by unfold zbs;rw[he];rfl
 clear he
 obtain⟨kind,w_,at_,many,text⟩:=x
 clear h hr
 obtain rfl:w_=(k:Int):=hxw
 obtain rfl:kind=5:=hkd
 have hk4:(k:Int)<4:=by omega
 have HWR:Hid (∀w:World,Calls Tryz.prog 57 #[.int .i64 k] w fun e w'=>e= .returned (.bool true)∧w'=w):=fun w=>by have:=za7 k w;rw[show wrB (k:Int)=true by simp[wrB];omega]at this;exact this
 go_enter Tryz.func56,Tryz.ntmps56
 go_wp2_with fail
 generalize World.alloc _ _=w5 at*
 obtain⟨_,c0,c1,c2,c3,c4⟩:=HI.out.stepAt
 simp only[Nat.zero_add]at c0 c1 c2 c3 c4
 have g1:=HI.out.cells.ws k hk
 have hlt:=HI.out.cells.lt
 simp only[hhs,zbu,if_true]at g1
 go_quiet ((go_at_call 57;exact Calls.quiet_of_same (HWR.out _)))
 go_wp2_with fail
 have H6:Hid (zb8 base w S D G pw t (zag (fun _=>Th.no base) 0 (Th.st base w.heap.size ⟨5,(k:Int),at_,many,text⟩)) (w5.drewN nq)):=HI.out.after (below_drewN (Below.refl _ _) nq)
 generalize w5.drewN nq=w6 at*
 clear HI c0 c1 c2 c3 c4 g1 hlt
 obtain⟨_,c0,c1,c2,c3,c4⟩:=H6.out.stepAt
 simp only[Nat.zero_add]at c0 c1 c2 c3 c4
 have g1:=H6.out.cells.ws k hk
 have hlt:=H6.out.cells.lt
 simp only[hhs,zbu,if_true]at g1
 go_quiet (fail)
 go_wp2_with fail
 have H7:Hid (zb8 base w S D G pw t (zag (fun _=>Th.no base) 0 (Th.st base w.heap.size ⟨5,(k:Int),at_,many,text⟩)) (w6.drewN nq)):=H6.out.after (below_drewN (Below.refl _ _) nq)
 generalize w6.drewN nq=w7 at*
 clear H6 c0 c1 c2 c3 c4 g1 hlt hhs
 obtain⟨ow,dv,hown⟩:=H7.out.owned
 obtain⟨bv,ov,hq,_⟩:=hown.wr hk HE.out
 obtain⟨a,cap,hdv⟩:=hown.2.ownD.len
 subst hdv
 obtain⟨bb,off,rfl⟩:∃bb off,a=some ⟨bb,off,none⟩:=by
  obtain⟨a9,l9,c9,he9,e1,e2,e3⟩:=hown.2.ownD.dlst
  simp only[Value.slice.injEq]at he9
  obtain⟨rfl,rfl,rfl⟩:=he9
  rcases e3 with e3|⟨b9,o9,he2,hr9⟩
  ·omega
  ·exact⟨b9,o9,he2⟩
 have gs:=hq.cells.seen
 have gql:=hq.cells.lt
 have gb:=hown.2.cells.deeds
 have gbl:=hown.2.cells.lt
 have g0:=H7.out.cells.book
 have hlt:=H7.out.cells.lt
 go_quiet (fail)
 have HO8:Hid (zqd base w S D G pw t (zag (fun _=>Th.no base) 0 (Th.st base w.heap.size ⟨5,(k:Int),at_,many,text⟩)) ow (.slice (some ⟨bb,off,none⟩) t.b.ds.length cap) (w7.drewN nq)):=hown.after (below_drewN (Below.refl _ _) nq)
 generalize w7.drewN nq=w8 at*
 clear H7 hown hq gs gql gb gbl g0 hlt
 go_wp2_with fail
 refine wrs (fun wk=>∃t9,TH base w S D G pw t9 (zag (fun _=>Th.no base) 0 (Th.st base w.heap.size ⟨5,(k:Int),at_,many,text⟩)) ow (.slice (some ⟨bb,off,none⟩) t.b.ds.length cap) t.b wk) (fun i=>i==11||i==12||i==13||i==14) (fun wk=>zqd base w S D G pw t (zag (fun _=>Th.no base) 0 (Th.st base w.heap.size ⟨5,(k:Int),at_,many,text⟩)) ow (.slice (some ⟨bb,off,none⟩) t.b.ds.length cap) wk) (by kernel_rfl) (by kernel_rfl) (by kernel_rfl) (fun _ h=>⟨_,h.th⟩) (HO8.out.after (Below.refl _ _).drew) ?_
 refine wsb (some 153) w rfl (.pointer (some ⟨pw k,0,none⟩)) rfl (by kernel_rfl) (fun wk hwk=> ?_) ?_
 ·generalize hA:Act.eval _=ρ
  have s7:ρ (.tmp 7)= .pointer (some ⟨pw k,0,none⟩):=by rw[←hA];kernel_rfl
  clear hA
  go_simp
 go_big_quiet_op
 refine wsb (some 154) w rfl (.pointer (some ⟨D,0,none⟩)) rfl (by kernel_rfl) (fun wk hwk=> ?_) ?_
 ·generalize hA:Act.eval _=ρ
  have s0:ρ (.tmp 0)= .pointer (some ⟨D,0,none⟩):=by rw[←hA];kernel_rfl
  clear hA
  go_simp
 go_big_quiet_op
 refine wsb (some 155) w rfl (.pointer (some ⟨D,0,none⟩)) rfl (by kernel_rfl) (fun wk hwk=> ?_) ?_
 ·generalize hA:Act.eval _=ρ
  have s154:ρ (.tmp 154)= .pointer (some ⟨D,0,none⟩):=by rw[←hA];kernel_rfl
  clear hA
  go_simp
 go_big_quiet_op
 refine wsb (some 156) w rfl (.pointer (some ⟨D,0,none⟩)) rfl (by kernel_rfl) (fun wk hwk=> ?_) ?_
 ·generalize hA:Act.eval _=ρ
  have s155:ρ (.tmp 155)= .pointer (some ⟨D,0,none⟩):=by rw[←hA];kernel_rfl
  clear hA
  go_simp
 go_big_quiet_op
 refine wsb (some 157) w rfl (.pointer (some ⟨G,0,none⟩)) rfl (by kernel_rfl) (fun wk hwk=> ?_) ?_
 ·generalize hA:Act.eval _=ρ
  have s156:ρ (.tmp 156)= .pointer (some ⟨D,0,none⟩):=by rw[←hA];kernel_rfl
  clear hA
  obtain⟨t9,hq9⟩:=hwk
  have g0:=hq9.tn.cells.book
  have hlt:=hq9.tn.cells.lt
  go_simp
 go_big_quiet_op
 refine wsb (some 158) w rfl (.pointer (some ⟨G,0,none⟩)) rfl (by kernel_rfl) (fun wk hwk=> ?_) ?_
 ·generalize hA:Act.eval _=ρ
  have s157:ρ (.tmp 157)= .pointer (some ⟨G,0,none⟩):=by rw[←hA];kernel_rfl
  clear hA
  go_simp
 go_big_quiet_op
 refine wsb (some 159) w rfl (.pointer (some ⟨G,0,none⟩)) rfl (by kernel_rfl) (fun wk hwk=> ?_) ?_
 ·generalize hA:Act.eval _=ρ
  have s158:ρ (.tmp 158)= .pointer (some ⟨G,0,none⟩):=by rw[←hA];kernel_rfl
  clear hA
  go_simp
 go_big_quiet_op
 refine wsb (some 160) w rfl (.slice (some ⟨bb,off,none⟩) t.b.ds.length cap) rfl (by kernel_rfl) (fun wk hwk=> ?_) ?_
 ·generalize hA:Act.eval _=ρ
  have s159:ρ (.tmp 159)= .pointer (some ⟨G,0,none⟩):=by rw[←hA];kernel_rfl
  clear hA
  obtain⟨t9,hq9⟩:=hwk
  have g0:=hq9.bk.cells.deeds
  have hlt:=hq9.bk.cells.lt
  go_simp
 go_big_quiet_op
 refine wsb (some 161) w rfl (.pointer (some ⟨pw k,0,none⟩)) rfl (by kernel_rfl) (fun wk hwk=> ?_) ?_
 ·generalize hA:Act.eval _=ρ
  have s7:ρ (.tmp 7)= .pointer (some ⟨pw k,0,none⟩):=by rw[←hA];kernel_rfl
  clear hA
  go_simp
 go_big_quiet_op
 refine wsb (some 162) w rfl (.pointer (some ⟨pw k,0,none⟩)) rfl (by kernel_rfl) (fun wk hwk=> ?_) ?_
 ·generalize hA:Act.eval _=ρ
  have s161:ρ (.tmp 161)= .pointer (some ⟨pw k,0,none⟩):=by rw[←hA];kernel_rfl
  clear hA
  go_simp
 go_big_quiet_op
 refine wsb (some 163) w rfl (.pointer (some ⟨pw k,1,none⟩)) rfl (by kernel_rfl) (fun wk hwk=> ?_) ?_
 ·generalize hA:Act.eval _=ρ
  have s162:ρ (.tmp 162)= .pointer (some ⟨pw k,0,none⟩):=by rw[←hA];kernel_rfl
  clear hA
  go_simp
 go_big_quiet_op
 refine zaa (some 164) w rfl rfl rfl (fun u=>u= .int .i64 ((r.seen:Int))) (fun u wk=>zqd base w S D G pw t (zag (fun _=>Th.no base) 0 (Th.st base w.heap.size ⟨5,(k:Int),at_,many,text⟩)) ow (.slice (some ⟨bb,off,none⟩) t.b.ds.length cap) wk) (⟨_,rfl⟩) (fun _ _ h=>⟨_,h.th⟩) (fun wk hwk=> ?_) (fun u9 hu9=> ?_)
 ·generalize hA:Act.eval _=ρ
  have s163:ρ (.tmp 163)= .pointer (some ⟨pw k,1,none⟩):=by rw[←hA];kernel_rfl
  clear hA
  obtain⟨bv,ov,hq,_⟩:=hwk.wr hk HE.out
  have gs:=hq.cells.seen
  have gql:=hq.cells.lt
  go_simp
  exact⟨rfl,hwk⟩
 subst hu9
 go_big_quiet_op
 refine zaa (some 165) w rfl rfl rfl (fun u=>u= .pointer (some ⟨bb,off+r.seen*7,none⟩)) (fun u wk=>zqd base w S D G pw t (zag (fun _=>Th.no base) 0 (Th.st base w.heap.size ⟨5,(k:Int),at_,many,text⟩)) ow (.slice (some ⟨bb,off,none⟩) t.b.ds.length cap) wk) (⟨_,rfl⟩) (fun _ _ h=>⟨_,h.th⟩) (fun wk hwk=> ?_) (fun u9 hu9=> ?_)
 ·generalize hA:Act.eval _=ρ
  have s160:ρ (.tmp 160)= .slice (some ⟨bb,off,none⟩) t.b.ds.length cap:=by rw[←hA];kernel_rfl
  have s164:ρ (.tmp 164)= .int .i64 ((r.seen:Int)):=by rw[←hA];kernel_rfl
  clear hA
  have hsl2:=HSL.out
  go_simp
  exact⟨rfl,hwk⟩
 subst hu9
 go_big_quiet_op
 refine zaa (some 166) w rfl rfl rfl (fun u=>u=ddV d) (fun u wk=>zqd base w S D G pw t (zag (fun _=>Th.no base) 0 (Th.st base w.heap.size ⟨5,(k:Int),at_,many,text⟩)) ow (.slice (some ⟨bb,off,none⟩) t.b.ds.length cap) wk) (⟨_,rfl⟩) (fun _ _ h=>⟨_,h.th⟩) (fun wk hwk=> ?_) (fun u9 hu9=> ?_)
 ·generalize hA:Act.eval _=ρ
  have s165:ρ (.tmp 165)= .pointer (some ⟨bb,off+r.seen*7,none⟩):=by rw[←hA];kernel_rfl
  clear hA
  have hdl:=hwk.2.ownD.dlst
  obtain⟨a9,l9,c9,he9,e1,e2,e3⟩:=hdl
  simp only[Value.slice.injEq]at he9
  obtain⟨hea,hel,hec⟩:=he9
  rcases e3 with e3|⟨b9,o9,he2,hr9⟩
  ·have:=HSL.out;omega
  rw[he2]at hea
  simp only[Option.some.injEq,Addr.mk.injEq]at hea
  obtain⟨rfl,rfl,_⟩:=hea
  obtain⟨hbb,g0,g1,g2,g3,g4,g5,g6⟩:=hr9.at_ r.seen (by have:=HSL.out;omega)
  have e9:∀h9:r.seen<t.b.ds.length,t.b.ds[r.seen]'h9=d:=fun _=>HDX.out
  simp only[e9]at g0 g1 g2 g3 g4 g5 g6
  clear hel hec e1 e2 he2
  go_simp
  exact⟨rfl,hwk⟩
 subst hu9
 go_big_quiet_op
 refine zaa (some 167) w rfl rfl rfl (fun u=>u= .int .i64 (zbd r d)) (fun u wk=>TH base w S D G pw ⟨t.b,zab t.ws k (some (zav r d))⟩ (zag (fun _=>Th.no base) 0 (Th.st base w.heap.size ⟨5,(k:Int),at_,many,text⟩)) ow (.slice (some ⟨bb,off,none⟩) t.b.ds.length cap) t.b wk) (⟨_,rfl⟩) (fun _ _ h=>⟨_,h⟩) (fun wk hwk=> ?_) (fun u9 hu9=> ?_)
 ·generalize hA:Act.eval _=ρ
  have s153:ρ (.tmp 153)= .pointer (some ⟨pw k,0,none⟩):=by rw[←hA];kernel_rfl
  have s166:ρ (.tmp 166)=ddV d:=by rw[←hA];kernel_rfl
  have sf:ρ (.func 98)= .func (.func 98) #[] #[]:=by rw[←hA];kernel_rfl
  clear hA
  go_simp
  obtain⟨bv,ov,hq,hs⟩:=hwk.wr hk HE.out
  refine(qfm HR.out HE.out HDS.out hq).mono ?_
  rintro e w7 ⟨rfl,h0,h1⟩
  exact⟨_,rfl,rfl,by obtain⟨q1,q2⟩:=hs (zav r d) w7 (h0 HCC.out);exact⟨q1,q2⟩⟩
 subst hu9
 go_big_quiet_op
 refine wsb (some 16) w rfl (.int .i64 (zbd r d)) rfl (by kernel_rfl) (fun wk hwk=> ?_) ?_
 ·generalize hA:Act.eval _=ρ
  have s167:ρ (.tmp 167)= .int .i64 (zbd r d):=by rw[←hA];kernel_rfl
  clear hA
  go_simp
 go_big_quiet_op
 refine wsn (fun w10 hw10=> ?_)
 have H10:Hid (zb8 base w S D G pw ⟨t.b,zab t.ws k (some (zav r d))⟩ (zag (fun _=>Th.no base) 0 (Th.st base w.heap.size ⟨5,(k:Int),at_,many,text⟩)) w10):=hw10.tn
 clear hw10 HO8
 rw[HCC.out]
 go_wp2_with fail
 refine zc1 (fun wk=>∃b,zb8 base w S D G pw ⟨b,zab t.ws k (some (zav r d))⟩ (zag (fun _=>Th.no base) 0 (Th.st base w.heap.size ⟨5,(k:Int),at_,many,text⟩)) wk) (fun i=>i==8) (fun wk=>zb8 base w S D G pw ⟨t.b,zab t.ws k (some (zav r d))⟩ (zag (fun _=>Th.no base) 0 (Th.st base w.heap.size ⟨5,(k:Int),at_,many,text⟩)) wk) (by kernel_rfl) (by kernel_rfl) (by kernel_rfl) (fun _ h=>⟨_,h⟩) (zb8.shut) (H10.out.after (Below.refl _ _).drew) ?_
 refine wgb (some 175) w rfl (.pointer (some ⟨D,0,none⟩)) rfl (by kernel_rfl) (fun wk hwk=> ?_) ?_
 ·refine gus ?_
  generalize hA:Act.eval _=ρ
  have s0:ρ (.tmp 0)= .pointer (some ⟨D,0,none⟩):=by rw[←hA];kernel_rfl
  clear hA
  go_simp
 go_big_quiet_op
 refine wgb (some 176) w rfl (.pointer (some ⟨D,0,none⟩)) rfl (by kernel_rfl) (fun wk hwk=> ?_) ?_
 ·refine gus ?_
  generalize hA:Act.eval _=ρ
  have s175:ρ (.tmp 175)= .pointer (some ⟨D,0,none⟩):=by rw[←hA];kernel_rfl
  clear hA
  go_simp
 go_big_quiet_op
 refine wgb (some 177) w rfl (.pointer (some ⟨D,0,none⟩)) rfl (by kernel_rfl) (fun wk hwk=> ?_) ?_
 ·refine gus ?_
  generalize hA:Act.eval _=ρ
  have s176:ρ (.tmp 176)= .pointer (some ⟨D,0,none⟩):=by rw[←hA];kernel_rfl
  clear hA
  go_simp
 go_big_quiet_op
 refine wgb (some 178) w rfl (.pointer (some ⟨G,0,none⟩)) rfl (by kernel_rfl) (fun wk hwk=> ?_) ?_
 ·refine gus ?_
  generalize hA:Act.eval _=ρ
  have s177:ρ (.tmp 177)= .pointer (some ⟨D,0,none⟩):=by rw[←hA];kernel_rfl
  clear hA
  obtain⟨b,hr⟩:=hwk
  have g0:=hr.cells.book
  have hlt:=hr.cells.lt
  go_simp
 go_big_quiet_op
 refine wgb (some 179) w rfl (.pointer (some ⟨w.heap.size,1,none⟩)) rfl (by kernel_rfl) (fun wk hwk=> ?_) ?_
 ·refine gus ?_
  generalize hA:Act.eval _=ρ
  have s3:ρ (.tmp 3)= .pointer (some ⟨w.heap.size,0,none⟩):=by rw[←hA];kernel_rfl
  clear hA
  go_simp
 go_big_quiet_op
 refine wgb (some 180) w rfl (.int .i64 ((k:Int))) rfl (by kernel_rfl) (fun wk hwk=> ?_) ?_
 ·refine gus ?_
  generalize hA:Act.eval _=ρ
  have s179:ρ (.tmp 179)= .pointer (some ⟨w.heap.size,1,none⟩):=by rw[←hA];kernel_rfl
  clear hA
  obtain⟨b,hr⟩:=hwk
  obtain⟨_,c0,c1,c2,c3,c4⟩:=hr.stepAt
  simp only[Nat.zero_add]at c1
  go_simp
 go_big_quiet_op
 refine wgb (some 181) w rfl (.pointer (some ⟨pw k,0,none⟩)) rfl (by kernel_rfl) (fun wk hwk=> ?_) ?_
 ·refine gus ?_
  generalize hA:Act.eval _=ρ
  have s7:ρ (.tmp 7)= .pointer (some ⟨pw k,0,none⟩):=by rw[←hA];kernel_rfl
  clear hA
  go_simp
 go_big_quiet_op
 refine wgb (some 182) w rfl (.int .i64 (Wr.least (zav r d))) rfl (by kernel_rfl) (fun wk hwk=> ?_) ?_
 ·generalize hA:Act.eval _=ρ
  have s181:ρ (.tmp 181)= .pointer (some ⟨pw k,0,none⟩):=by rw[←hA];kernel_rfl
  have sf:ρ (.func 100)= .func (.func 100) #[] #[]:=by rw[←hA];kernel_rfl
  clear hA
  unfold zcf
  go_simp
  obtain⟨b,hr⟩:=hwk
  obtain⟨T,bv,ov,hq,_⟩:=hr.wr hk (zaf _ _ _)
  refine(least_sc hq).mono ?_
  rintro e w7 ⟨rfl,hb⟩
  exact⟨rfl,hb⟩
 go_big_quiet_op
 refine zbf (some 183) w rfl rfl rfl (fun u=>u= .int .i64 (zd4 t.b k (zav r d).least)) (fun u wk=>zb8 base w S D G pw ⟨zcz t.b k (zav r d).least,zab t.ws k (some (zav r d))⟩ (zag (fun _=>Th.no base) 0 (Th.st base w.heap.size ⟨5,(k:Int),at_,many,text⟩)) wk) (⟨_,rfl⟩) (fun _ _ h=>⟨_,h⟩) (fun _=>zb8.shut) (fun wk hwk=> ?_) (fun u8 hu8=> ?_)
 ·generalize hA:Act.eval _=ρ
  have s178:ρ (.tmp 178)= .pointer (some ⟨G,0,none⟩):=by rw[←hA];kernel_rfl
  have s180:ρ (.tmp 180)= .int .i64 ((k:Int)):=by rw[←hA];kernel_rfl
  have s182:ρ (.tmp 182)= .int .i64 (Wr.least (zav r d)):=by rw[←hA];kernel_rfl
  have sf:ρ (.func 99)= .func (.func 99) #[] #[]:=by rw[←hA];kernel_rfl
  clear hA
  go_simp
  obtain⟨T,dv,hl,hs⟩:=hwk.book
  refine(says_bk hl _ _).mono ?_
  rintro e w7 ⟨rfl,hto⟩
  exact⟨_,rfl,rfl,hs _ _ hto⟩
 subst hu8
 go_big_quiet_op
 refine wgb (some 4) w rfl (.int .i64 (zd4 t.b k (zav r d).least)) rfl (by kernel_rfl) (fun wk hwk=> ?_) ?_
 ·refine gus ?_
  generalize hA:Act.eval _=ρ
  have s183:ρ (.tmp 183)= .int .i64 (zd4 t.b k (zav r d).least):=by rw[←hA];kernel_rfl
  clear hA
  go_simp
 go_big_quiet_op
 refine zdt (fun w12 hw12=> ?_)
 have H12:Hid (zb8 base w S D G pw ⟨zcz t.b k (zav r d).least,zab t.ws k (some (zav r d))⟩ (zag (fun _=>Th.no base) 0 (Th.st base w.heap.size ⟨5,(k:Int),at_,many,text⟩)) w12):=hw12
 clear hw12 H10
 go_wp2_with fail
 go_ret
 exact⟨rfl,H12.out.done HL.out⟩
theorem setF_of{α:Type}{f:Int→Option α}{v:Int}{x:α}(h:f v=some x):zab f v (some x)=f:=by rw[←h];exact zhn f v
theorem tclear{w:World}{base D G:Nat}{pw:Nat→Nat}{t:Twn}{S:Nat→Prop}(h:zke base D G pw t w S){tk:Int→List (List Ch)}(hr:TR t tk)(x:Tst){k:Nat}(hk:k<4){r:Wr}(he:t.ws k=some r)(hxw:x.w=k)(hkd:x.kind=6):
 Calls Tryz.prog 56 #[.pointer (some ⟨D,0,none⟩),tsV x] w fun e w'=>e= .returned (.int .i64 0)∧zkd base w S D G pw ⟨t.b,zab t.ws k (some (zfw r (zau t.b r.seen)))⟩ w':=by
 have HI:Hid (zb8 base w S D G pw t (zag (fun _=>Th.no base) 0 (Th.st base w.heap.size x)) (w.alloc (zc8 x))):=h.start.step x 0
 have HL:Hid (base≤w.heap.size∧∀k,S k→base≤k∧k<w.heap.size):=h.held
 have HR:Hid (TR t tk):=hr
 have HSL:Hid (r.seen≤t.b.ds.length):=by
  obtain⟨_,c,hi⟩:=hr.ti.wi _ r he
  exact hi.seen
 have HE:Hid (t.ws k=some r):=he
 have HO:Hid (WOk r (tk k)):=zbj hr he
 have hhs:zbs t k=true:=by unfold zbs;rw[he];rfl
 clear he
 obtain⟨kind,w_,at_,many,text⟩:=x
 clear h hr
 obtain rfl:w_=(k:Int):=hxw
 obtain rfl:kind=6:=hkd
 have hk4:(k:Int)<4:=by omega
 have HWR:Hid (∀w:World,Calls Tryz.prog 57 #[.int .i64 k] w fun e w'=>e= .returned (.bool true)∧w'=w):=fun w=>by have:=za7 k w;rw[show wrB (k:Int)=true by simp[wrB];omega]at this;exact this
 go_enter Tryz.func56,Tryz.ntmps56
 go_wp2_with fail
 generalize World.alloc _ _=w5 at*
 obtain⟨_,c0,c1,c2,c3,c4⟩:=HI.out.stepAt
 simp only[Nat.zero_add]at c0 c1 c2 c3 c4
 have g1:=HI.out.cells.ws k hk
 have hlt:=HI.out.cells.lt
 simp only[hhs,zbu,if_true]at g1
 go_quiet ((go_at_call 57;exact Calls.quiet_of_same (HWR.out _)))
 go_wp2_with fail
 have H6:Hid (zb8 base w S D G pw t (zag (fun _=>Th.no base) 0 (Th.st base w.heap.size ⟨6,(k:Int),at_,many,text⟩)) (w5.drewN nq)):=HI.out.after (below_drewN (Below.refl _ _) nq)
 generalize w5.drewN nq=w6 at*
 clear HI c0 c1 c2 c3 c4 g1 hlt
 obtain⟨_,c0,c1,c2,c3,c4⟩:=H6.out.stepAt
 simp only[Nat.zero_add]at c0 c1 c2 c3 c4
 have g1:=H6.out.cells.ws k hk
 have hlt:=H6.out.cells.lt
 simp only[hhs,zbu,if_true]at g1
 go_quiet (fail)
 go_wp2_with fail
 have H7:Hid (zb8 base w S D G pw t (zag (fun _=>Th.no base) 0 (Th.st base w.heap.size ⟨6,(k:Int),at_,many,text⟩)) (w6.drewN nq)):=H6.out.after (below_drewN (Below.refl _ _) nq)
 generalize w6.drewN nq=w7 at*
 clear H6 c0 c1 c2 c3 c4 g1 hlt hhs
 refine zc1 (fun wk=>∃r9:Wr,r9.seen=r.seen∧zb8 base w S D G pw ⟨t.b,zab t.ws k (some r9)⟩ (zag (fun _=>Th.no base) 0 (Th.st base w.heap.size ⟨6,(k:Int),at_,many,text⟩)) wk) (fun i=>i==10) (fun wk=>zb8 base w S D G pw t (zag (fun _=>Th.no base) 0 (Th.st base w.heap.size ⟨6,(k:Int),at_,many,text⟩)) wk) (by kernel_rfl) (by kernel_rfl) (by kernel_rfl) (fun _ h=>⟨r,rfl,by rw[setF_of HE.out];exact h⟩) (zb8.shut) (H7.out.after (Below.refl _ _).drew) ?_
 refine wgb (some 186) w rfl (.pointer (some ⟨pw k,0,none⟩)) rfl (by kernel_rfl) (fun wk hwk=> ?_) ?_
 ·refine gus ?_
  generalize hA:Act.eval _=ρ
  have s7:ρ (.tmp 7)= .pointer (some ⟨pw k,0,none⟩):=by rw[←hA];kernel_rfl
  clear hA
  go_simp
 go_big_quiet_op
 refine wgb (some 187) w rfl (.pointer (some ⟨D,0,none⟩)) rfl (by kernel_rfl) (fun wk hwk=> ?_) ?_
 ·refine gus ?_
  generalize hA:Act.eval _=ρ
  have s0:ρ (.tmp 0)= .pointer (some ⟨D,0,none⟩):=by rw[←hA];kernel_rfl
  clear hA
  go_simp
 go_big_quiet_op
 refine wgb (some 188) w rfl (.pointer (some ⟨D,0,none⟩)) rfl (by kernel_rfl) (fun wk hwk=> ?_) ?_
 ·refine gus ?_
  generalize hA:Act.eval _=ρ
  have s187:ρ (.tmp 187)= .pointer (some ⟨D,0,none⟩):=by rw[←hA];kernel_rfl
  clear hA
  go_simp
 go_big_quiet_op
 refine wgb (some 189) w rfl (.pointer (some ⟨D,0,none⟩)) rfl (by kernel_rfl) (fun wk hwk=> ?_) ?_
 ·refine gus ?_
  generalize hA:Act.eval _=ρ
  have s188:ρ (.tmp 188)= .pointer (some ⟨D,0,none⟩):=by rw[←hA];kernel_rfl
  clear hA
  go_simp
 go_big_quiet_op
 refine wgb (some 190) w rfl (.pointer (some ⟨G,0,none⟩)) rfl (by kernel_rfl) (fun wk hwk=> ?_) ?_
 ·refine gus ?_
  generalize hA:Act.eval _=ρ
  have s189:ρ (.tmp 189)= .pointer (some ⟨D,0,none⟩):=by rw[←hA];kernel_rfl
  clear hA
  obtain⟨r9,hr9,hq9⟩:=hwk
  have g0:=hq9.cells.book
  have hlt:=hq9.cells.lt
  go_simp
 go_big_quiet_op
 refine wgb (some 191) w rfl (.pointer (some ⟨pw k,0,none⟩)) rfl (by kernel_rfl) (fun wk hwk=> ?_) ?_
 ·refine gus ?_
  generalize hA:Act.eval _=ρ
  have s7:ρ (.tmp 7)= .pointer (some ⟨pw k,0,none⟩):=by rw[←hA];kernel_rfl
  clear hA
  go_simp
 go_big_quiet_op
 refine wgb (some 192) w rfl (.pointer (some ⟨pw k,0,none⟩)) rfl (by kernel_rfl) (fun wk hwk=> ?_) ?_
 ·refine gus ?_
  generalize hA:Act.eval _=ρ
  have s191:ρ (.tmp 191)= .pointer (some ⟨pw k,0,none⟩):=by rw[←hA];kernel_rfl
  clear hA
  go_simp
 go_big_quiet_op
 refine wgb (some 193) w rfl (.pointer (some ⟨pw k,1,none⟩)) rfl (by kernel_rfl) (fun wk hwk=> ?_) ?_
 ·refine gus ?_
  generalize hA:Act.eval _=ρ
  have s192:ρ (.tmp 192)= .pointer (some ⟨pw k,0,none⟩):=by rw[←hA];kernel_rfl
  clear hA
  go_simp
 go_big_quiet_op
 refine wgb (some 194) w rfl (.int .i64 ((r.seen:Int))) rfl (by kernel_rfl) (fun wk hwk=> ?_) ?_
 ·refine gus ?_
  generalize hA:Act.eval _=ρ
  have s193:ρ (.tmp 193)= .pointer (some ⟨pw k,1,none⟩):=by rw[←hA];kernel_rfl
  clear hA
  obtain⟨r9,hr9,hq9⟩:=hwk
  obtain⟨T,bv,ov,hq,_⟩:=hq9.wr hk (zaf _ _ _)
  have gs:=hq.cells.seen
  have gql:=hq.cells.lt
  rw[hr9]at gs
  go_simp
 go_big_quiet_op
 refine wgb (some 195) w rfl (.int .i64 (zau t.b r.seen)) rfl (by kernel_rfl) (fun wk hwk=> ?_) ?_
 ·generalize hA:Act.eval _=ρ
  have s190:ρ (.tmp 190)= .pointer (some ⟨G,0,none⟩):=by rw[←hA];kernel_rfl
  have s194:ρ (.tmp 194)= .int .i64 ((r.seen:Int)):=by rw[←hA];kernel_rfl
  have sf:ρ (.func 102)= .func (.func 102) #[] #[]:=by rw[←hA];kernel_rfl
  clear hA
  unfold zcf
  go_simp
  obtain⟨r9,hr9,hq9⟩:=hwk
  obtain⟨T,dv,hl,_⟩:=hq9.book
  refine(zx8 hl HR.out.ti.good r.seen HSL.out).mono ?_
  rintro e w7 ⟨rfl,rfl⟩
  exact⟨rfl,Below.refl _ _⟩
 go_big_quiet_op
 refine zbf (some 196) w rfl rfl rfl (fun u=>True) (fun u wk=>zb8 base w S D G pw ⟨t.b,zab t.ws k (some (zfw r (zau t.b r.seen)))⟩ (zag (fun _=>Th.no base) 0 (Th.st base w.heap.size ⟨6,(k:Int),at_,many,text⟩)) wk) (⟨undef,trivial⟩) (fun _ _ h=>⟨zfw r (zau t.b r.seen),rfl,h⟩) (fun _=>zb8.shut) (fun wk hwk=> ?_) (fun u10 hu10=> ?_)
 ·generalize hA:Act.eval _=ρ
  have s186:ρ (.tmp 186)= .pointer (some ⟨pw k,0,none⟩):=by rw[←hA];kernel_rfl
  have s195:ρ (.tmp 195)= .int .i64 (zau t.b r.seen):=by rw[←hA];kernel_rfl
  have sf:ρ (.func 101)= .func (.func 101) #[] #[]:=by rw[←hA];kernel_rfl
  clear hA
  go_simp
  obtain⟨T,bv,ov,hq,hs⟩:=hwk.wr hk HE.out
  refine(clear_sc hq (by have:=HO.out.base;omega) HO.out.tame _).mono ?_
  rintro e w7 ⟨rfl,hto⟩
  exact⟨_,rfl,hs (zfw r (zau t.b r.seen)) w7 hto⟩
 clear hu10
 go_big_quiet_op
 refine zdt (fun w12 hw12=> ?_)
 have H12:Hid (zb8 base w S D G pw ⟨t.b,zab t.ws k (some (zfw r (zau t.b r.seen)))⟩ (zag (fun _=>Th.no base) 0 (Th.st base w.heap.size ⟨6,(k:Int),at_,many,text⟩)) w12):=hw12
 clear hw12 H7
 go_wp2_with fail
 go_ret
 exact⟨rfl,H12.out.done HL.out⟩
theorem do_tn{w:World}{base D G:Nat}{pw:Nat→Nat}{t:Twn}{S:Nat→Prop}(h:zke base D G pw t w S){tk:Int→List (List Ch)}(hr:TR t tk)(x:Tst):
 Calls Tryz.prog 56 #[.pointer (some ⟨D,0,none⟩),tsV x] w fun e w'=>e= .returned (.int .i64 (tDo t x).1)∧∃pw',zkd base w S D G pw' (tDo t x).2 w':=by
 by_cases k0:x.kind<1∨7<x.kind
 ·have htd:tDo t x=(2,t):=by unfold tDo;rw[if_pos k0]
  rw[htd]
  exact(tdo_bad h hr x k0).mono fun e w' ⟨e1,e2⟩=>⟨e1,pw,e2⟩
 by_cases k1:x.kind=1
 ·have htd:tDo t x=zsp t x.w:=by unfold tDo;rw[if_neg k0,if_pos k1]
  rw[htd,zsp]
  by_cases hc:zc6 t.b x.w=0
  ·have hw:wrB x.w=true:=by
    cases hh:wrB x.w
    ·rw[zc6,if_pos hh]at hc;cases hc
    ·rfl
   obtain⟨k,hxw,hk⟩:=zc3 hw
   rw[hxw]at hc⊢
   refine(zto h hr x k1 hk hxw hc).mono fun e w' ⟨e1,P,e2⟩=>⟨by rw[e1,hc],?_⟩
   show∃pw',zkd base w S D G pw' (if _=0 then _ else _) w'
   rw[if_pos hc]
   exact⟨_,e2⟩
  ·refine(zw7 h hr x k1 hc).mono fun e w' ⟨e1,e2⟩=>⟨e1,pw,?_⟩
   show zkd base w S D G _ (if _=0 then _ else _) w'
   rw[if_neg hc]
   exact e2
 cases he:t.ws x.w with
 |none=>
  have htd:tDo t x=(5,t):=by unfold tDo;rw[if_neg k0,if_neg k1,he]
  rw[htd]
  exact(tdo_none h hr x (by omega) (by omega) he).mono fun e w' ⟨e1,e2⟩=>⟨e1,pw,e2⟩
 |some r=>
  obtain⟨k,hxw,hk⟩:=zc3 (hr.ti.is_here he).2
  rw[hxw]at he
  have htd:tDo t x=(if x.kind=2∨x.kind=3 then qay t k r x else if x.kind=4 then ze0 t k r else if x.kind=5 then zdk t k r
   else if x.kind=6 then(0,⟨t.b,zab t.ws k (some (zfw r (zau t.b r.seen)))⟩)else(0,zdl t k)):=by
   unfold tDo
   rw[if_neg k0,if_neg k1,hxw,he]
  rw[htd]
  by_cases k2:x.kind=2
  ·have ho:ownD r x=⟨1,r.me,r.next,r.seen,x.at_,0,x.text⟩:=by rw[ownD,if_pos k2]
   rw[if_pos (.inl k2),qay,ho]
   by_cases hz:doC r.list ⟨1,r.me,r.next,r.seen,x.at_,0,x.text⟩ za0=0
   ·refine(tput_yes h hr x hk he hxw k2 hz).mono fun e w' ⟨e1,e2⟩=>⟨by rw[e1,hz],pw,?_⟩
    show zkd base w S D G _ (if _=0 then _ else _) w'
    rw[if_pos hz]
    exact e2
   ·refine(tput_no h hr x hk he hxw k2 hz).mono fun e w' ⟨e1,e2⟩=>⟨e1,pw,?_⟩
    show zkd base w S D G _ (if _=0 then _ else _) w'
    rw[if_neg hz]
    exact e2
  by_cases k3:x.kind=3
  ·have ho:ownD r x=⟨2,r.me,r.next,r.seen,x.at_,x.many,⟨#[]⟩⟩:=by rw[ownD,if_neg k2];rfl
   rw[if_pos (.inr k3),qay,ho]
   by_cases hz:doC r.list ⟨2,r.me,r.next,r.seen,x.at_,x.many,⟨#[]⟩⟩ za0=0
   ·refine(qcu h hr x hk he hxw k3 hz).mono fun e w' ⟨e1,e2⟩=>⟨by rw[e1,hz],pw,?_⟩
    show zkd base w S D G _ (if _=0 then _ else _) w'
    rw[if_pos hz]
    exact e2
   ·refine(ttake_no h hr x hk he hxw k3 hz).mono fun e w' ⟨e1,e2⟩=>⟨e1,pw,?_⟩
    show zkd base w S D G _ (if _=0 then _ else _) w'
    rw[if_neg hz]
    exact e2
  rw[if_neg (by omega)]
  by_cases k4:x.kind=4
  ·rw[if_pos k4,ze0]
   cases hn:r.opens[r.sent]? with
   |none=>exact(tsend_no h hr x hk he hxw k4 hn).mono fun e w' ⟨e1,e2⟩=>⟨e1,pw,e2⟩
   |some d=>
    by_cases hc:za4 t.b d=0
    ·refine(qcv h hr x hk he hxw k4 hn hc).mono fun e w' ⟨e1,e2⟩=>⟨by rw[e1,←hc],pw,?_⟩
     show zkd base w S D G _ (if _=0 then _ else _) w'
     rw[if_pos hc]
     exact e2
    ·refine(qcw h hr x hk he hxw k4 hn hc).mono fun e w' ⟨e1,e2⟩=>⟨e1,pw,?_⟩
     show zkd base w S D G _ (if _=0 then _ else _) w'
     rw[if_neg hc]
     exact e2
  rw[if_neg k4]
  by_cases k5:x.kind=5
  ·rw[if_pos k5,zdk]
   cases hn:t.b.ds[r.seen]? with
   |none=>exact(thear_no h hr x hk he hxw k5 hn).mono fun e w' ⟨e1,e2⟩=>⟨e1,pw,e2⟩
   |some d=>
    by_cases hc:zbd r d=0
    ·refine(qde h hr x hk he hxw k5 hn hc).mono fun e w' ⟨e1,e2⟩=> ?_
     show e= .returned (.int .i64 (if _=0 then(_,_)else(_,_)).1)∧∃pw',zkd base w S D G pw' (if _=0 then(_,_)else(_,_)).2 w'
     rw[if_pos hc]
     exact⟨e1,_,e2⟩
    ·refine(qdf h hr x hk he hxw k5 hn hc).mono fun e w' ⟨e1,e2⟩=> ?_
     show e= .returned (.int .i64 (if _=0 then(_,_)else(_,_)).1)∧∃pw',zkd base w S D G pw' (if _=0 then(_,_)else(_,_)).2 w'
     rw[if_neg hc]
     exact⟨e1,_,e2⟩
  rw[if_neg k5]
  by_cases k6:x.kind=6
  ·rw[if_pos k6]
   exact(tclear h hr x hk he hxw k6).mono fun e w' ⟨e1,e2⟩=>⟨e1,pw,e2⟩
  rw[if_neg k6]
  exact(tleave h hr x hk he hxw (by omega)).mono fun e w' ⟨e1,e2⟩=>⟨e1,pw,e2⟩
end Go.Proofs.YtcbnnfeelhlapadGreatDoor