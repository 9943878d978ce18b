/-
  TnD, TnS, KRM.
-/
import Derived.Test.YtcbnnfeelhlapadGreatDoorTnC
namespace Go.Proofs.YtcbnnfeelhlapadGreatDoor
set_option maxHeartbeats 6400000
set_option maxRecDepth 20000
open Go.RowKit
variable {w:World} {base D G:Nat} {pw:Nat->Nat} {t:Twn} {S:Nat->Prop}
theorem thear_no(h:zke base D G pw t w S){tk:Int->List (List Ch)}(hr:TR t tk)(x:Tst){k:Nat}(hk:k<4){r:Wr}(he:t.ws k=some r)(hxw:x.w=k)(hkd:x.kind=5)(hn:t.b.ds[r.seen]? =none):
 Calls Tryz.prog 56 #[.pointer (some ⟨D,0,none⟩),tsV x] w fun e w'=>e= .returned (.int .i64 5)/\zkd base w S D G pw t w':=by
 have HI:=hid (h.start.step x 0)
 have HL:=hid h.held
 have HR:=hid hr
 have hle:(t.b.ds.length:Int)<=(r.seen:Int):=by have:=List.getElem?_eq_none_iff.1 hn;omega
 clear hn
 have HE:=hid he
 have HO:=hid (zbg hr he)
 have hhs:zbo t k=true:=by unfold zbo;rw[he];rfl
 clear he
 obtain⟨kind,w_,at_,many,text⟩:=x
 clear h hr
 obtain rfl:w_=(k:Int):=hxw
 obtain rfl:kind=5:=hkd
 have hk4:(k:Int)<4:=by omega
 have HWR:Hid (∀w:World,Calls Tryz.prog 57 #[.int .i64 k] w fun e w'=>e= .returned (.bool true)/\w'=w):=fun w=>by have:=za8 k w;rw[show wrB (k:Int)=true by simp[wrB];omega]at this;exact this
 go_enter Tryz.func56,Tryz.ntmps56
 go_wp2_with fail
 generalize World.alloc _ _=w5 at*
 obtain⟨_,c0,c1,c2,c3,c4⟩:=HI.out.stepAt
 simp only[Nat.zero_add]at c0 c1 c2 c3 c4
 have g1:=HI.out.cells.ws k hk
 have hlt:=HI.out.cells.lt
 simp only[hhs,zbq,if_true]at g1
 go_quiet ((go_at_call 57;exact Calls.quiet_of_same (HWR.out _)))
 go_wp2_with fail
 have H6:Hid (zbu base w S D G pw t (zat (fun _=>Th.no base) 0 (Th.st base w.heap.size ⟨5,(k:Int),at_,many,text⟩)) (w5.drewN nq)):=HI.out.after (below_drewN (Below.refl _ _) nq)
 generalize w5.drewN nq=w6 at*
 clear HI c0 c1 c2 c3 c4 g1 hlt
 obtain⟨_,c0,c1,c2,c3,c4⟩:=H6.out.stepAt
 simp only[Nat.zero_add]at c0 c1 c2 c3 c4
 have g1:=H6.out.cells.ws k hk
 have hlt:=H6.out.cells.lt
 simp only[hhs,zbq,if_true]at g1
 go_quiet (fail)
 go_wp2_with fail
 have H7:Hid (zbu base w S D G pw t (zat (fun _=>Th.no base) 0 (Th.st base w.heap.size ⟨5,(k:Int),at_,many,text⟩)) (w6.drewN nq)):=H6.out.after (below_drewN (Below.refl _ _) nq)
 generalize w6.drewN nq=w7 at*
 clear H6 c0 c1 c2 c3 c4 g1 hlt hhs
 obtain⟨ow,dv,hown⟩:=H7.out.owned
 obtain⟨bv,ov,hq,_⟩:=hown.wr hk HE.out
 obtain⟨a,cap,hdv⟩:=hown.2.ownD.len
 subst hdv
 have gs:=hq.cells.seen
 have gql:=hq.cells.lt
 have gb:=hown.2.cells.deeds
 have gbl:=hown.2.cells.lt
 have g0:=H7.out.cells.book
 have hlt:=H7.out.cells.lt
 go_quiet (fail)
 have HO8:Hid (zqf base w S D G pw t (zat (fun _=>Th.no base) 0 (Th.st base w.heap.size ⟨5,(k:Int),at_,many,text⟩)) ow (.slice a t.b.ds.length cap) (w7.drewN nq)):=hown.after (below_drewN (Below.refl _ _) nq)
 generalize w7.drewN nq=w8 at*
 clear H7 hown hq gs gql gb gbl g0 hlt
 go_wp2_with fail
 go_ret
 exact⟨rfl,HO8.out.tn.done HL.out⟩
theorem qfo{tk:Int->List (List Ch)}(h:TR t tk){v:Int}{r:Wr}(he:t.ws v=some r){d:Dd}(hd:t.b.ds[r.seen]? =some d){w:World}{base Q:Nat}{S:Nat->Prop}{bv ov:Value}(hq:zfw w base S Q bv ov r.base r.opens r.me r.seen r.next r.sent):
 Calls Tryz.prog 98 #[.pointer (some ⟨Q,0,none⟩),ddV d] w fun e w'=>e= .returned (.int .i64 (zbt r d))/\(zbt r d=0->zt9 w base S Q (zb1 r d).base (zb1 r d).opens (zb1 r d).me (zb1 r d).seen (zb1 r d).next (zb1 r d).sent w')/\(zbt r d≠0->Below w.heap.size w w'):=by
 have ho:=zbg h he
 obtain⟨hm,c,hi⟩:=h.ti.wi v r he
 have hg:=h.ti.good
 obtain⟨hl,rfl⟩:=List.getElem?_eq_some_iff.1 hd
 have h2:=ho.few
 have h3:=ho.seen
 have h4:=ho.base
 have hb0:=(hi.base_next hg hl).1
 by_cases hb:t.b.ds[r.seen].by_=r.me
 ·obtain⟨es,hes,hsn⟩:=hi.own_first hl hb
  have hc:zbt r t.b.ds[r.seen]=0:=by
   rw[zbt,if_neg (fun x=>x hb),if_pos (by rw[hes];rfl)]
  have hsl:=hi.sent
  obtain⟨s,hss⟩:∃s,r.sent=s+1:=⟨r.sent-1,by omega⟩
  have e1:(zb1 r t.b.ds[r.seen])=⟨r.me,r.seen+1,r.next,doL r.base t.b.ds[r.seen] ((r.seen:Int)+1),es,s⟩:=by
   rw[zb1,if_neg (fun x=>x hb),hes,hss];rfl
  rw[hes,hss]at hq
  have hes2:es.length<=1000:=by rw[hes]at h2;simp at h2;omega
  have hst:s<=1000:=by rw[hes]at h2 hsl;simp at h2 hsl;omega
  refine(qbh (sent:=s) (by simpa using hq) hes2 (by omega) hst (by omega) ho.tame hb hb0).mono ?_
  rintro e w' ⟨rfl,hto⟩
  rw[hc,e1]
  exact⟨rfl,fun _=>by simpa using hto,fun x=>absurd rfl x⟩
 have hc:zbt r t.b.ds[r.seen]=doC r.list t.b.ds[r.seen] ((r.seen:Int)+1):=by rw[zbt,if_pos hb]
 have e1:(zb1 r t.b.ds[r.seen])=⟨r.me,r.seen+1,r.next,doL r.base t.b.ds[r.seen] ((r.seen:Int)+1),r.opens,r.sent⟩:=by rw[zb1,if_pos hb]
 refine(zv1 hq (by omega) ho.top (by omega) (by omega) ho.tame _ hb hb0).mono ?_
 rintro e w' ⟨rfl,h0,hn⟩
 rw[hc,e1]
 exact⟨rfl,fun hz=>by simpa using h0 hz,hn⟩
structure TH(base:Nat)(w0:World)(S:Nat->Prop)(D G:Nat)(pw:Nat->Nat)(t:Twn)(ex:Nat->Th base)(ow:Nat->Nat)(dv:Value)(b:Bk)(wk:World):Prop where
 tn:zbu base w0 S D G pw t ex wk
 bk:zb5 wk base (fun j=>ow j=1) G dv b
theorem zqf.th{ex:Nat->Th base}{w0 wk:World}{ow:Nat->Nat}{dv:Value}(h:zqf base w0 S D G pw t ex ow dv wk):TH base w0 S D G pw t ex ow dv t.b wk:=⟨h.tn,h.2⟩
theorem qdg(h:zke base D G pw t w S){tk:Int->List (List Ch)}(hr:TR t tk)(x:Tst){k:Nat}(hk:k<4){r:Wr}(he:t.ws k=some r)(hxw:x.w=k)(hkd:x.kind=5){d:Dd}(hn:t.b.ds[r.seen]? =some d)(hcc:zbt r d≠0):
 Calls Tryz.prog 56 #[.pointer (some ⟨D,0,none⟩),tsV x] w fun e w'=>e= .returned (.int .i64 (zbt r d))/\zkd base w S D G pw (zdu t k) w':=by
 have HI:=hid (h.start.step x 0)
 have HL:=hid h.held
 have HR:=hid hr
 obtain⟨hsl0,hde⟩:=List.getElem?_eq_some_iff.1 hn
 have HSL:=hid hsl0
 have HDX:=hid hde
 have HDS:=hid hn
 have HCC:=hid hcc
 have hlt9:¬(t.b.ds.length:Int)<=(r.seen:Int):=by omega
 clear hn hde hcc
 have HE:=hid he
 have HO:=hid (zbg hr he)
 have hhs:zbo t k=true:=by unfold zbo;rw[he];rfl
 clear he
 obtain⟨kind,w_,at_,many,text⟩:=x
 clear h hr
 obtain rfl:w_=(k:Int):=hxw
 obtain rfl:kind=5:=hkd
 have hk4:(k:Int)<4:=by omega
 have HWR:Hid (∀w:World,Calls Tryz.prog 57 #[.int .i64 k] w fun e w'=>e= .returned (.bool true)/\w'=w):=fun w=>by have:=za8 k w;rw[show wrB (k:Int)=true by simp[wrB];omega]at this;exact this
 go_enter Tryz.func56,Tryz.ntmps56
 go_wp2_with fail
 generalize World.alloc _ _=w5 at*
 obtain⟨_,c0,c1,c2,c3,c4⟩:=HI.out.stepAt
 simp only[Nat.zero_add]at c0 c1 c2 c3 c4
 have g1:=HI.out.cells.ws k hk
 have hlt:=HI.out.cells.lt
 simp only[hhs,zbq,if_true]at g1
 go_quiet ((go_at_call 57;exact Calls.quiet_of_same (HWR.out _)))
 go_wp2_with fail
 have H6:Hid (zbu base w S D G pw t (zat (fun _=>Th.no base) 0 (Th.st base w.heap.size ⟨5,(k:Int),at_,many,text⟩)) (w5.drewN nq)):=HI.out.after (below_drewN (Below.refl _ _) nq)
 generalize w5.drewN nq=w6 at*
 clear HI c0 c1 c2 c3 c4 g1 hlt
 obtain⟨_,c0,c1,c2,c3,c4⟩:=H6.out.stepAt
 simp only[Nat.zero_add]at c0 c1 c2 c3 c4
 have g1:=H6.out.cells.ws k hk
 have hlt:=H6.out.cells.lt
 simp only[hhs,zbq,if_true]at g1
 go_quiet (fail)
 go_wp2_with fail
 have H7:Hid (zbu base w S D G pw t (zat (fun _=>Th.no base) 0 (Th.st base w.heap.size ⟨5,(k:Int),at_,many,text⟩)) (w6.drewN nq)):=H6.out.after (below_drewN (Below.refl _ _) nq)
 generalize w6.drewN nq=w7 at*
 clear H6 c0 c1 c2 c3 c4 g1 hlt hhs
 obtain⟨ow,dv,hown⟩:=H7.out.owned
 obtain⟨bv,ov,hq,_⟩:=hown.wr hk HE.out
 obtain⟨a,cap,hdv⟩:=hown.2.ownD.len
 subst hdv
 obtain⟨bb,off,rfl⟩:∃bb off,a=some ⟨bb,off,none⟩:=by
  obtain⟨a9,l9,c9,he9,e1,e2,e3⟩:=hown.2.ownD.dlst
  simp only[Value.slice.injEq]at he9
  obtain⟨rfl,rfl,rfl⟩:=he9
  rcases e3 with e3|⟨b9,o9,he2,hr9⟩
  ·omega
  exact⟨b9,o9,he2⟩
 have gs:=hq.cells.seen
 have gql:=hq.cells.lt
 have gb:=hown.2.cells.deeds
 have gbl:=hown.2.cells.lt
 have g0:=H7.out.cells.book
 have hlt:=H7.out.cells.lt
 go_quiet (fail)
 have HO8:Hid (zqf base w S D G pw t (zat (fun _=>Th.no base) 0 (Th.st base w.heap.size ⟨5,(k:Int),at_,many,text⟩)) ow (.slice (some ⟨bb,off,none⟩) t.b.ds.length cap) (w7.drewN nq)):=hown.after (below_drewN (Below.refl _ _) nq)
 generalize w7.drewN nq=w8 at*
 clear H7 hown hq gs gql gb gbl g0 hlt
 go_wp2_with fail
 refine wrs (fun wk=>∃t9,TH base w S D G pw t9 (zat (fun _=>Th.no base) 0 (Th.st base w.heap.size ⟨5,(k:Int),at_,many,text⟩)) ow (.slice (some ⟨bb,off,none⟩) t.b.ds.length cap) t.b wk) (fun i=>i==11||i==12||i==13||i==14) (fun wk=>zqf base w S D G pw t (zat (fun _=>Th.no base) 0 (Th.st base w.heap.size ⟨5,(k:Int),at_,many,text⟩)) ow (.slice (some ⟨bb,off,none⟩) t.b.ds.length cap) wk) (by kernel_rfl) (by kernel_rfl) (by kernel_rfl) (fun _ h=>⟨_,h.th⟩) (HO8.out.after (Below.refl _ _).drew) ?_
 refine za0 (some 153) w (.pointer (some ⟨pw k,0,none⟩)) (.tmp 7) (.pointer (some ⟨pw k,0,none⟩)) ?_ ?_
 ·intros;go_simp
 go_big_quiet_op
 refine za0 (some 154) w (.pointer (some ⟨D,0,none⟩)) (.tmp 0) (.pointer (some ⟨D,0,none⟩)) ?_ ?_
 ·intros;go_simp
 go_big_quiet_op
 refine za0 (some 155) w (.pointer (some ⟨D,0,none⟩)) (.tmp 154) (.pointer (some ⟨D,0,none⟩)) ?_ ?_
 ·intros;go_simp
 go_big_quiet_op
 refine za0 (some 156) w (.pointer (some ⟨D,0,none⟩)) (.tmp 155) (.pointer (some ⟨D,0,none⟩)) ?_ ?_
 ·intros;go_simp
 go_big_quiet_op
 refine za0 (some 157) w (.pointer (some ⟨G,0,none⟩)) (.tmp 156) (.pointer (some ⟨D,0,none⟩)) (fun wk hwk ρ s156=> ?_) ?_
 ·obtain⟨t9,hq9⟩:=hwk
  have g0:=hq9.tn.cells.book
  have hlt:=hq9.tn.cells.lt
  go_simp
 go_big_quiet_op
 refine za0 (some 158) w (.pointer (some ⟨G,0,none⟩)) (.tmp 157) (.pointer (some ⟨G,0,none⟩)) ?_ ?_
 ·intros;go_simp
 go_big_quiet_op
 refine za0 (some 159) w (.pointer (some ⟨G,0,none⟩)) (.tmp 158) (.pointer (some ⟨G,0,none⟩)) ?_ ?_
 ·intros;go_simp
 go_big_quiet_op
 refine za0 (some 160) w (.slice (some ⟨bb,off,none⟩) t.b.ds.length cap) (.tmp 159) (.pointer (some ⟨G,0,none⟩)) (fun wk hwk ρ s159=> ?_) ?_
 ·obtain⟨t9,hq9⟩:=hwk
  have g0:=hq9.bk.cells.deeds
  have hlt:=hq9.bk.cells.lt
  go_simp
 go_big_quiet_op
 refine za0 (some 161) w (.pointer (some ⟨pw k,0,none⟩)) (.tmp 7) (.pointer (some ⟨pw k,0,none⟩)) ?_ ?_
 ·intros;go_simp
 go_big_quiet_op
 refine za0 (some 162) w (.pointer (some ⟨pw k,0,none⟩)) (.tmp 161) (.pointer (some ⟨pw k,0,none⟩)) ?_ ?_
 ·intros;go_simp
 go_big_quiet_op
 refine za0 (some 163) w (.pointer (some ⟨pw k,1,none⟩)) (.tmp 162) (.pointer (some ⟨pw k,0,none⟩)) ?_ ?_
 ·intros;go_simp
 go_big_quiet_op
 refine zac (some 164) w rfl rfl rfl (fun u=>u= .int .i64 ((r.seen:Int))) (fun u wk=>zqf base w S D G pw t (zat (fun _=>Th.no base) 0 (Th.st base w.heap.size ⟨5,(k:Int),at_,many,text⟩)) ow (.slice (some ⟨bb,off,none⟩) t.b.ds.length cap) wk) (⟨_,rfl⟩) (fun _ _ h=>⟨_,h.th⟩) (fun wk hwk=> ?_) (fun u9 hu9=> ?_)
 ·generalize hA:Act.eval _=ρ
  have s163:ρ (.tmp 163)= .pointer (some ⟨pw k,1,none⟩):=by rw[<-hA];kernel_rfl
  clear hA
  obtain⟨bv,ov,hq,_⟩:=hwk.wr hk HE.out
  have gs:=hq.cells.seen
  have gql:=hq.cells.lt
  go_simp
  exact⟨rfl,hwk⟩
 subst hu9
 go_big_quiet_op
 refine zac (some 165) w rfl rfl rfl (fun u=>u= .pointer (some ⟨bb,off+r.seen*7,none⟩)) (fun u wk=>zqf base w S D G pw t (zat (fun _=>Th.no base) 0 (Th.st base w.heap.size ⟨5,(k:Int),at_,many,text⟩)) ow (.slice (some ⟨bb,off,none⟩) t.b.ds.length cap) wk) (⟨_,rfl⟩) (fun _ _ h=>⟨_,h.th⟩) (fun wk hwk=> ?_) (fun u9 hu9=> ?_)
 ·generalize hA:Act.eval _=ρ
  have s160:ρ (.tmp 160)= .slice (some ⟨bb,off,none⟩) t.b.ds.length cap:=by rw[<-hA];kernel_rfl
  have s164:ρ (.tmp 164)= .int .i64 ((r.seen:Int)):=by rw[<-hA];kernel_rfl
  clear hA
  have hsl2:=HSL.out
  go_simp
  exact⟨rfl,hwk⟩
 subst hu9
 go_big_quiet_op
 refine zac (some 166) w rfl rfl rfl (fun u=>u=ddV d) (fun u wk=>zqf base w S D G pw t (zat (fun _=>Th.no base) 0 (Th.st base w.heap.size ⟨5,(k:Int),at_,many,text⟩)) ow (.slice (some ⟨bb,off,none⟩) t.b.ds.length cap) wk) (⟨_,rfl⟩) (fun _ _ h=>⟨_,h.th⟩) (fun wk hwk=> ?_) (fun u9 hu9=> ?_)
 ·generalize hA:Act.eval _=ρ
  have s165:ρ (.tmp 165)= .pointer (some ⟨bb,off+r.seen*7,none⟩):=by rw[<-hA];kernel_rfl
  clear hA
  have hdl:=hwk.2.ownD.dlst
  obtain⟨a9,l9,c9,he9,e1,e2,e3⟩:=hdl
  simp only[Value.slice.injEq]at he9
  obtain⟨hea,hel,hec⟩:=he9
  rcases e3 with e3|⟨b9,o9,he2,hr9⟩
  ·have:=HSL.out;omega
  rw[he2]at hea
  simp only[Option.some.injEq,Addr.mk.injEq]at hea
  obtain⟨rfl,rfl,_⟩:=hea
  obtain⟨hbb,g0,g1,g2,g3,g4,g5,g6⟩:=hr9.at_ r.seen (by have:=HSL.out;omega)
  have e9:∀h9:r.seen<t.b.ds.length,t.b.ds[r.seen]'h9=d:=fun _=>HDX.out
  simp only[e9]at g0 g1 g2 g3 g4 g5 g6
  clear hel hec e1 e2 he2
  go_simp
  exact⟨rfl,hwk⟩
 subst hu9
 go_big_quiet_op
 refine zac (some 167) w rfl rfl rfl (fun u=>u= .int .i64 (zbt r d)) (fun u wk=>TH base w S D G pw t (zat (fun _=>Th.no base) 0 (Th.st base w.heap.size ⟨5,(k:Int),at_,many,text⟩)) ow (.slice (some ⟨bb,off,none⟩) t.b.ds.length cap) t.b wk) (⟨_,rfl⟩) (fun _ _ h=>⟨_,h⟩) (fun wk hwk=> ?_) (fun u9 hu9=> ?_)
 ·generalize hA:Act.eval _=ρ
  have s153:ρ (.tmp 153)= .pointer (some ⟨pw k,0,none⟩):=by rw[<-hA];kernel_rfl
  have s166:ρ (.tmp 166)=ddV d:=by rw[<-hA];kernel_rfl
  have sf:ρ (.func 98)= .func (.func 98) #[] #[]:=by rw[<-hA];kernel_rfl
  clear hA
  go_simp
  obtain⟨bv,ov,hq,hs⟩:=hwk.wr hk HE.out
  refine(qfo HR.out HE.out HDS.out hq).mono ?_
  rintro e w7 ⟨rfl,h0,h1⟩
  exact⟨_,rfl,rfl,(hwk.after (h1 HCC.out)).th⟩
 subst hu9
 go_big_quiet_op
 refine za0 (some 16) w (.int .i64 (zbt r d)) (.tmp 167) (.int .i64 (zbt r d)) ?_ ?_
 ·intros;go_simp
 go_big_quiet_op
 refine wsn (fun w10 hw10=> ?_)
 have H10:=hid hw10.tn
 clear hw10 HO8
 obtain⟨c,hcq⟩:∃c,zbt r d=c:=⟨_,rfl⟩
 have HCQ:=hid hcq
 have hcn:¬c=0:=by rw[<-hcq];exact HCC.out
 rw[hcq]
 clear hcq
 obtain⟨_,c0,c1,c2,c3,c4⟩:=H10.out.stepAt
 simp only[Nat.zero_add]at c0 c1 c2 c3 c4
 go_wp2_with fail
 obtain⟨T,ha,hs⟩:=H10.out.call
 refine(zxs ha hk).mono ?_
 rintro e w12 ⟨rfl,hto⟩
 have H12:Hid (zbu base w S D G pw (zdu t k) (zat (fun _=>Th.no base) 0 (Th.st base w.heap.size ⟨5,(k:Int),at_,many,text⟩)) w12):=hs _ _ _ hto
 clear hto hs ha H10 c0 c1 c2 c3 c4
 go_wp2_with fail
 go_ret
 exact⟨by rw[HCQ.out];rfl,H12.out.done HL.out⟩
theorem qdf(h:zke base D G pw t w S){tk:Int->List (List Ch)}(hr:TR t tk)(x:Tst){k:Nat}(hk:k<4){r:Wr}(he:t.ws k=some r)(hxw:x.w=k)(hkd:x.kind=5){d:Dd}(hn:t.b.ds[r.seen]? =some d)(hcc:zbt r d=0):
 Calls Tryz.prog 56 #[.pointer (some ⟨D,0,none⟩),tsV x] w fun e w'=>e= .returned (.int .i64 (ze2 t.b k (zb1 r d).least))/\zkd base w S D G pw ⟨zd5 t.b k (zb1 r d).least,zai t.ws k (some (zb1 r d))⟩ w':=by
 have HI:=hid (h.start.step x 0)
 have HL:=hid h.held
 have HR:=hid hr
 obtain⟨hsl0,hde⟩:=List.getElem?_eq_some_iff.1 hn
 have HSL:=hid hsl0
 have HDX:=hid hde
 have HDS:=hid hn
 have HCC:=hid hcc
 have hlt9:¬(t.b.ds.length:Int)<=(r.seen:Int):=by omega
 clear hn hde hcc
 have HE:=hid he
 have HO:=hid (zbg hr he)
 have hhs:zbo t k=true:=by unfold zbo;rw[he];rfl
 clear he
 obtain⟨kind,w_,at_,many,text⟩:=x
 clear h hr
 obtain rfl:w_=(k:Int):=hxw
 obtain rfl:kind=5:=hkd
 have hk4:(k:Int)<4:=by omega
 have HWR:Hid (∀w:World,Calls Tryz.prog 57 #[.int .i64 k] w fun e w'=>e= .returned (.bool true)/\w'=w):=fun w=>by have:=za8 k w;rw[show wrB (k:Int)=true by simp[wrB];omega]at this;exact this
 go_enter Tryz.func56,Tryz.ntmps56
 go_wp2_with fail
 generalize World.alloc _ _=w5 at*
 obtain⟨_,c0,c1,c2,c3,c4⟩:=HI.out.stepAt
 simp only[Nat.zero_add]at c0 c1 c2 c3 c4
 have g1:=HI.out.cells.ws k hk
 have hlt:=HI.out.cells.lt
 simp only[hhs,zbq,if_true]at g1
 go_quiet ((go_at_call 57;exact Calls.quiet_of_same (HWR.out _)))
 go_wp2_with fail
 have H6:Hid (zbu base w S D G pw t (zat (fun _=>Th.no base) 0 (Th.st base w.heap.size ⟨5,(k:Int),at_,many,text⟩)) (w5.drewN nq)):=HI.out.after (below_drewN (Below.refl _ _) nq)
 generalize w5.drewN nq=w6 at*
 clear HI c0 c1 c2 c3 c4 g1 hlt
 obtain⟨_,c0,c1,c2,c3,c4⟩:=H6.out.stepAt
 simp only[Nat.zero_add]at c0 c1 c2 c3 c4
 have g1:=H6.out.cells.ws k hk
 have hlt:=H6.out.cells.lt
 simp only[hhs,zbq,if_true]at g1
 go_quiet (fail)
 go_wp2_with fail
 have H7:Hid (zbu base w S D G pw t (zat (fun _=>Th.no base) 0 (Th.st base w.heap.size ⟨5,(k:Int),at_,many,text⟩)) (w6.drewN nq)):=H6.out.after (below_drewN (Below.refl _ _) nq)
 generalize w6.drewN nq=w7 at*
 clear H6 c0 c1 c2 c3 c4 g1 hlt hhs
 obtain⟨ow,dv,hown⟩:=H7.out.owned
 obtain⟨bv,ov,hq,_⟩:=hown.wr hk HE.out
 obtain⟨a,cap,hdv⟩:=hown.2.ownD.len
 subst hdv
 obtain⟨bb,off,rfl⟩:∃bb off,a=some ⟨bb,off,none⟩:=by
  obtain⟨a9,l9,c9,he9,e1,e2,e3⟩:=hown.2.ownD.dlst
  simp only[Value.slice.injEq]at he9
  obtain⟨rfl,rfl,rfl⟩:=he9
  rcases e3 with e3|⟨b9,o9,he2,hr9⟩
  ·omega
  exact⟨b9,o9,he2⟩
 have gs:=hq.cells.seen
 have gql:=hq.cells.lt
 have gb:=hown.2.cells.deeds
 have gbl:=hown.2.cells.lt
 have g0:=H7.out.cells.book
 have hlt:=H7.out.cells.lt
 go_quiet (fail)
 have HO8:Hid (zqf base w S D G pw t (zat (fun _=>Th.no base) 0 (Th.st base w.heap.size ⟨5,(k:Int),at_,many,text⟩)) ow (.slice (some ⟨bb,off,none⟩) t.b.ds.length cap) (w7.drewN nq)):=hown.after (below_drewN (Below.refl _ _) nq)
 generalize w7.drewN nq=w8 at*
 clear H7 hown hq gs gql gb gbl g0 hlt
 go_wp2_with fail
 refine wrs (fun wk=>∃t9,TH base w S D G pw t9 (zat (fun _=>Th.no base) 0 (Th.st base w.heap.size ⟨5,(k:Int),at_,many,text⟩)) ow (.slice (some ⟨bb,off,none⟩) t.b.ds.length cap) t.b wk) (fun i=>i==11||i==12||i==13||i==14) (fun wk=>zqf base w S D G pw t (zat (fun _=>Th.no base) 0 (Th.st base w.heap.size ⟨5,(k:Int),at_,many,text⟩)) ow (.slice (some ⟨bb,off,none⟩) t.b.ds.length cap) wk) (by kernel_rfl) (by kernel_rfl) (by kernel_rfl) (fun _ h=>⟨_,h.th⟩) (HO8.out.after (Below.refl _ _).drew) ?_
 refine za0 (some 153) w (.pointer (some ⟨pw k,0,none⟩)) (.tmp 7) (.pointer (some ⟨pw k,0,none⟩)) ?_ ?_
 ·intros;go_simp
 go_big_quiet_op
 refine za0 (some 154) w (.pointer (some ⟨D,0,none⟩)) (.tmp 0) (.pointer (some ⟨D,0,none⟩)) ?_ ?_
 ·intros;go_simp
 go_big_quiet_op
 refine za0 (some 155) w (.pointer (some ⟨D,0,none⟩)) (.tmp 154) (.pointer (some ⟨D,0,none⟩)) ?_ ?_
 ·intros;go_simp
 go_big_quiet_op
 refine za0 (some 156) w (.pointer (some ⟨D,0,none⟩)) (.tmp 155) (.pointer (some ⟨D,0,none⟩)) ?_ ?_
 ·intros;go_simp
 go_big_quiet_op
 refine za0 (some 157) w (.pointer (some ⟨G,0,none⟩)) (.tmp 156) (.pointer (some ⟨D,0,none⟩)) (fun wk hwk ρ s156=> ?_) ?_
 ·obtain⟨t9,hq9⟩:=hwk
  have g0:=hq9.tn.cells.book
  have hlt:=hq9.tn.cells.lt
  go_simp
 go_big_quiet_op
 refine za0 (some 158) w (.pointer (some ⟨G,0,none⟩)) (.tmp 157) (.pointer (some ⟨G,0,none⟩)) ?_ ?_
 ·intros;go_simp
 go_big_quiet_op
 refine za0 (some 159) w (.pointer (some ⟨G,0,none⟩)) (.tmp 158) (.pointer (some ⟨G,0,none⟩)) ?_ ?_
 ·intros;go_simp
 go_big_quiet_op
 refine za0 (some 160) w (.slice (some ⟨bb,off,none⟩) t.b.ds.length cap) (.tmp 159) (.pointer (some ⟨G,0,none⟩)) (fun wk hwk ρ s159=> ?_) ?_
 ·obtain⟨t9,hq9⟩:=hwk
  have g0:=hq9.bk.cells.deeds
  have hlt:=hq9.bk.cells.lt
  go_simp
 go_big_quiet_op
 refine za0 (some 161) w (.pointer (some ⟨pw k,0,none⟩)) (.tmp 7) (.pointer (some ⟨pw k,0,none⟩)) ?_ ?_
 ·intros;go_simp
 go_big_quiet_op
 refine za0 (some 162) w (.pointer (some ⟨pw k,0,none⟩)) (.tmp 161) (.pointer (some ⟨pw k,0,none⟩)) ?_ ?_
 ·intros;go_simp
 go_big_quiet_op
 refine za0 (some 163) w (.pointer (some ⟨pw k,1,none⟩)) (.tmp 162) (.pointer (some ⟨pw k,0,none⟩)) ?_ ?_
 ·intros;go_simp
 go_big_quiet_op
 refine zac (some 164) w rfl rfl rfl (fun u=>u= .int .i64 ((r.seen:Int))) (fun u wk=>zqf base w S D G pw t (zat (fun _=>Th.no base) 0 (Th.st base w.heap.size ⟨5,(k:Int),at_,many,text⟩)) ow (.slice (some ⟨bb,off,none⟩) t.b.ds.length cap) wk) (⟨_,rfl⟩) (fun _ _ h=>⟨_,h.th⟩) (fun wk hwk=> ?_) (fun u9 hu9=> ?_)
 ·generalize hA:Act.eval _=ρ
  have s163:ρ (.tmp 163)= .pointer (some ⟨pw k,1,none⟩):=by rw[<-hA];kernel_rfl
  clear hA
  obtain⟨bv,ov,hq,_⟩:=hwk.wr hk HE.out
  have gs:=hq.cells.seen
  have gql:=hq.cells.lt
  go_simp
  exact⟨rfl,hwk⟩
 subst hu9
 go_big_quiet_op
 refine zac (some 165) w rfl rfl rfl (fun u=>u= .pointer (some ⟨bb,off+r.seen*7,none⟩)) (fun u wk=>zqf base w S D G pw t (zat (fun _=>Th.no base) 0 (Th.st base w.heap.size ⟨5,(k:Int),at_,many,text⟩)) ow (.slice (some ⟨bb,off,none⟩) t.b.ds.length cap) wk) (⟨_,rfl⟩) (fun _ _ h=>⟨_,h.th⟩) (fun wk hwk=> ?_) (fun u9 hu9=> ?_)
 ·generalize hA:Act.eval _=ρ
  have s160:ρ (.tmp 160)= .slice (some ⟨bb,off,none⟩) t.b.ds.length cap:=by rw[<-hA];kernel_rfl
  have s164:ρ (.tmp 164)= .int .i64 ((r.seen:Int)):=by rw[<-hA];kernel_rfl
  clear hA
  have hsl2:=HSL.out
  go_simp
  exact⟨rfl,hwk⟩
 subst hu9
 go_big_quiet_op
 refine zac (some 166) w rfl rfl rfl (fun u=>u=ddV d) (fun u wk=>zqf base w S D G pw t (zat (fun _=>Th.no base) 0 (Th.st base w.heap.size ⟨5,(k:Int),at_,many,text⟩)) ow (.slice (some ⟨bb,off,none⟩) t.b.ds.length cap) wk) (⟨_,rfl⟩) (fun _ _ h=>⟨_,h.th⟩) (fun wk hwk=> ?_) (fun u9 hu9=> ?_)
 ·generalize hA:Act.eval _=ρ
  have s165:ρ (.tmp 165)= .pointer (some ⟨bb,off+r.seen*7,none⟩):=by rw[<-hA];kernel_rfl
  clear hA
  have hdl:=hwk.2.ownD.dlst
  obtain⟨a9,l9,c9,he9,e1,e2,e3⟩:=hdl
  simp only[Value.slice.injEq]at he9
  obtain⟨hea,hel,hec⟩:=he9
  rcases e3 with e3|⟨b9,o9,he2,hr9⟩
  ·have:=HSL.out;omega
  rw[he2]at hea
  simp only[Option.some.injEq,Addr.mk.injEq]at hea
  obtain⟨rfl,rfl,_⟩:=hea
  obtain⟨hbb,g0,g1,g2,g3,g4,g5,g6⟩:=hr9.at_ r.seen (by have:=HSL.out;omega)
  have e9:∀h9:r.seen<t.b.ds.length,t.b.ds[r.seen]'h9=d:=fun _=>HDX.out
  simp only[e9]at g0 g1 g2 g3 g4 g5 g6
  clear hel hec e1 e2 he2
  go_simp
  exact⟨rfl,hwk⟩
 subst hu9
 go_big_quiet_op
 refine zac (some 167) w rfl rfl rfl (fun u=>u= .int .i64 (zbt r d)) (fun u wk=>TH base w S D G pw ⟨t.b,zai t.ws k (some (zb1 r d))⟩ (zat (fun _=>Th.no base) 0 (Th.st base w.heap.size ⟨5,(k:Int),at_,many,text⟩)) ow (.slice (some ⟨bb,off,none⟩) t.b.ds.length cap) t.b wk) (⟨_,rfl⟩) (fun _ _ h=>⟨_,h⟩) (fun wk hwk=> ?_) (fun u9 hu9=> ?_)
 ·generalize hA:Act.eval _=ρ
  have s153:ρ (.tmp 153)= .pointer (some ⟨pw k,0,none⟩):=by rw[<-hA];kernel_rfl
  have s166:ρ (.tmp 166)=ddV d:=by rw[<-hA];kernel_rfl
  have sf:ρ (.func 98)= .func (.func 98) #[] #[]:=by rw[<-hA];kernel_rfl
  clear hA
  go_simp
  obtain⟨bv,ov,hq,hs⟩:=hwk.wr hk HE.out
  refine(qfo HR.out HE.out HDS.out hq).mono ?_
  rintro e w7 ⟨rfl,h0,h1⟩
  exact⟨_,rfl,rfl,by obtain⟨q1,q2⟩:=hs (zb1 r d) w7 (h0 HCC.out);exact⟨q1,q2⟩⟩
 subst hu9
 go_big_quiet_op
 refine za0 (some 16) w (.int .i64 (zbt r d)) (.tmp 167) (.int .i64 (zbt r d)) ?_ ?_
 ·intros;go_simp
 go_big_quiet_op
 refine wsn (fun w10 hw10=> ?_)
 have H10:=hid hw10.tn
 clear hw10 HO8
 rw[HCC.out]
 go_wp2_with fail
 refine zbz (fun wk=>∃b,zbu base w S D G pw ⟨b,zai t.ws k (some (zb1 r d))⟩ (zat (fun _=>Th.no base) 0 (Th.st base w.heap.size ⟨5,(k:Int),at_,many,text⟩)) wk) (fun i=>i==8) (fun wk=>zbu base w S D G pw ⟨t.b,zai t.ws k (some (zb1 r d))⟩ (zat (fun _=>Th.no base) 0 (Th.st base w.heap.size ⟨5,(k:Int),at_,many,text⟩)) wk) (by kernel_rfl) (by kernel_rfl) (by kernel_rfl) (fun _ h=>⟨_,h⟩) (zbu.shut) (H10.out.after (Below.refl _ _).drew) ?_
 refine za1 (some 175) w (.pointer (some ⟨D,0,none⟩)) (.tmp 0) (.pointer (some ⟨D,0,none⟩)) ?_ ?_
 ·intros;go_simp
 go_big_quiet_op
 refine za1 (some 176) w (.pointer (some ⟨D,0,none⟩)) (.tmp 175) (.pointer (some ⟨D,0,none⟩)) ?_ ?_
 ·intros;go_simp
 go_big_quiet_op
 refine za1 (some 177) w (.pointer (some ⟨D,0,none⟩)) (.tmp 176) (.pointer (some ⟨D,0,none⟩)) ?_ ?_
 ·intros;go_simp
 go_big_quiet_op
 refine za1 (some 178) w (.pointer (some ⟨G,0,none⟩)) (.tmp 177) (.pointer (some ⟨D,0,none⟩)) (fun wk hwk ρ s177=> ?_) ?_
 ·obtain⟨b,hr⟩:=hwk
  have g0:=hr.cells.book
  have hlt:=hr.cells.lt
  go_simp
 go_big_quiet_op
 refine za1 (some 179) w (.pointer (some ⟨w.heap.size,1,none⟩)) (.tmp 3) (.pointer (some ⟨w.heap.size,0,none⟩)) ?_ ?_
 ·intros;go_simp
 go_big_quiet_op
 refine za1 (some 180) w (.int .i64 ((k:Int))) (.tmp 179) (.pointer (some ⟨w.heap.size,1,none⟩)) (fun wk hwk ρ s179=> ?_) ?_
 ·obtain⟨b,hr⟩:=hwk
  obtain⟨_,c0,c1,c2,c3,c4⟩:=hr.stepAt
  simp only[Nat.zero_add]at c1
  go_simp
 go_big_quiet_op
 refine za1 (some 181) w (.pointer (some ⟨pw k,0,none⟩)) (.tmp 7) (.pointer (some ⟨pw k,0,none⟩)) ?_ ?_
 ·intros;go_simp
 go_big_quiet_op
 refine wgb (some 182) w rfl (.int .i64 (Wr.least (zb1 r d))) rfl (by kernel_rfl) (fun wk hwk=> ?_) ?_
 ·generalize hA:Act.eval _=ρ
  have s181:ρ (.tmp 181)= .pointer (some ⟨pw k,0,none⟩):=by rw[<-hA];kernel_rfl
  have sf:ρ (.func 100)= .func (.func 100) #[] #[]:=by rw[<-hA];kernel_rfl
  clear hA
  unfold zcb
  go_simp
  obtain⟨b,hr⟩:=hwk
  obtain⟨T,bv,ov,hq,_⟩:=hr.wr hk (zag _ _ _)
  refine(least_sc hq).mono ?_
  rintro e w7 ⟨rfl,hb⟩
  exact⟨rfl,hb⟩
 go_big_quiet_op
 refine zbe (some 183) w rfl rfl rfl (fun u=>u= .int .i64 (ze2 t.b k (zb1 r d).least)) (fun u wk=>zbu base w S D G pw ⟨zd5 t.b k (zb1 r d).least,zai t.ws k (some (zb1 r d))⟩ (zat (fun _=>Th.no base) 0 (Th.st base w.heap.size ⟨5,(k:Int),at_,many,text⟩)) wk) (⟨_,rfl⟩) (fun _ _ h=>⟨_,h⟩) (fun _=>zbu.shut) (fun wk hwk=> ?_) (fun u8 hu8=> ?_)
 ·generalize hA:Act.eval _=ρ
  have s178:ρ (.tmp 178)= .pointer (some ⟨G,0,none⟩):=by rw[<-hA];kernel_rfl
  have s180:ρ (.tmp 180)= .int .i64 ((k:Int)):=by rw[<-hA];kernel_rfl
  have s182:ρ (.tmp 182)= .int .i64 (Wr.least (zb1 r d)):=by rw[<-hA];kernel_rfl
  have sf:ρ (.func 99)= .func (.func 99) #[] #[]:=by rw[<-hA];kernel_rfl
  clear hA
  go_simp
  obtain⟨T,dv,hl,hs⟩:=hwk.book
  refine(says_bk hl _ _).mono ?_
  rintro e w7 ⟨rfl,hto⟩
  exact⟨_,rfl,rfl,hs _ _ hto⟩
 subst hu8
 go_big_quiet_op
 refine za1 (some 4) w (.int .i64 (ze2 t.b k (zb1 r d).least)) (.tmp 183) (.int .i64 (ze2 t.b k (zb1 r d).least)) ?_ ?_
 ·intros;go_simp
 go_big_quiet_op
 refine zds (fun w12 hw12=> ?_)
 have H12:=hid hw12
 clear hw12 H10
 go_wp2_with fail
 go_ret
 exact⟨rfl,H12.out.done HL.out⟩
theorem setF_of{α:Type}{f:Int->Option α}{v:Int}{x:α}(h:f v=some x):zai f v (some x)=f:=by rw[<-h];exact zhl f v
theorem tclear(h:zke base D G pw t w S){tk:Int->List (List Ch)}(hr:TR t tk)(x:Tst){k:Nat}(hk:k<4){r:Wr}(he:t.ws k=some r)(hxw:x.w=k)(hkd:x.kind=6):
 Calls Tryz.prog 56 #[.pointer (some ⟨D,0,none⟩),tsV x] w fun e w'=>e= .returned (.int .i64 0)/\zkd base w S D G pw ⟨t.b,zai t.ws k (some (zgt r (zba t.b r.seen)))⟩ w':=by
 have HI:=hid (h.start.step x 0)
 have HL:=hid h.held
 have HR:=hid hr
 have HSL:Hid (r.seen<=t.b.ds.length):=by
  obtain⟨_,c,hi⟩:=hr.ti.wi _ r he
  exact hi.seen
 have HE:=hid he
 have HO:=hid (zbg hr he)
 have hhs:zbo t k=true:=by unfold zbo;rw[he];rfl
 clear he
 obtain⟨kind,w_,at_,many,text⟩:=x
 clear h hr
 obtain rfl:w_=(k:Int):=hxw
 obtain rfl:kind=6:=hkd
 have hk4:(k:Int)<4:=by omega
 have HWR:Hid (∀w:World,Calls Tryz.prog 57 #[.int .i64 k] w fun e w'=>e= .returned (.bool true)/\w'=w):=fun w=>by have:=za8 k w;rw[show wrB (k:Int)=true by simp[wrB];omega]at this;exact this
 go_enter Tryz.func56,Tryz.ntmps56
 go_wp2_with fail
 generalize World.alloc _ _=w5 at*
 obtain⟨_,c0,c1,c2,c3,c4⟩:=HI.out.stepAt
 simp only[Nat.zero_add]at c0 c1 c2 c3 c4
 have g1:=HI.out.cells.ws k hk
 have hlt:=HI.out.cells.lt
 simp only[hhs,zbq,if_true]at g1
 go_quiet ((go_at_call 57;exact Calls.quiet_of_same (HWR.out _)))
 go_wp2_with fail
 have H6:Hid (zbu base w S D G pw t (zat (fun _=>Th.no base) 0 (Th.st base w.heap.size ⟨6,(k:Int),at_,many,text⟩)) (w5.drewN nq)):=HI.out.after (below_drewN (Below.refl _ _) nq)
 generalize w5.drewN nq=w6 at*
 clear HI c0 c1 c2 c3 c4 g1 hlt
 obtain⟨_,c0,c1,c2,c3,c4⟩:=H6.out.stepAt
 simp only[Nat.zero_add]at c0 c1 c2 c3 c4
 have g1:=H6.out.cells.ws k hk
 have hlt:=H6.out.cells.lt
 simp only[hhs,zbq,if_true]at g1
 go_quiet (fail)
 go_wp2_with fail
 have H7:Hid (zbu base w S D G pw t (zat (fun _=>Th.no base) 0 (Th.st base w.heap.size ⟨6,(k:Int),at_,many,text⟩)) (w6.drewN nq)):=H6.out.after (below_drewN (Below.refl _ _) nq)
 generalize w6.drewN nq=w7 at*
 clear H6 c0 c1 c2 c3 c4 g1 hlt hhs
 refine zbz (fun wk=>∃r9:Wr,r9.seen=r.seen/\zbu base w S D G pw ⟨t.b,zai t.ws k (some r9)⟩ (zat (fun _=>Th.no base) 0 (Th.st base w.heap.size ⟨6,(k:Int),at_,many,text⟩)) wk) (fun i=>i==10) (fun wk=>zbu base w S D G pw t (zat (fun _=>Th.no base) 0 (Th.st base w.heap.size ⟨6,(k:Int),at_,many,text⟩)) wk) (by kernel_rfl) (by kernel_rfl) (by kernel_rfl) (fun _ h=>⟨r,rfl,by rw[setF_of HE.out];exact h⟩) (zbu.shut) (H7.out.after (Below.refl _ _).drew) ?_
 refine za1 (some 186) w (.pointer (some ⟨pw k,0,none⟩)) (.tmp 7) (.pointer (some ⟨pw k,0,none⟩)) ?_ ?_
 ·intros;go_simp
 go_big_quiet_op
 refine za1 (some 187) w (.pointer (some ⟨D,0,none⟩)) (.tmp 0) (.pointer (some ⟨D,0,none⟩)) ?_ ?_
 ·intros;go_simp
 go_big_quiet_op
 refine za1 (some 188) w (.pointer (some ⟨D,0,none⟩)) (.tmp 187) (.pointer (some ⟨D,0,none⟩)) ?_ ?_
 ·intros;go_simp
 go_big_quiet_op
 refine za1 (some 189) w (.pointer (some ⟨D,0,none⟩)) (.tmp 188) (.pointer (some ⟨D,0,none⟩)) ?_ ?_
 ·intros;go_simp
 go_big_quiet_op
 refine za1 (some 190) w (.pointer (some ⟨G,0,none⟩)) (.tmp 189) (.pointer (some ⟨D,0,none⟩)) (fun wk hwk ρ s189=> ?_) ?_
 ·obtain⟨r9,hr9,hq9⟩:=hwk
  have g0:=hq9.cells.book
  have hlt:=hq9.cells.lt
  go_simp
 go_big_quiet_op
 refine za1 (some 191) w (.pointer (some ⟨pw k,0,none⟩)) (.tmp 7) (.pointer (some ⟨pw k,0,none⟩)) ?_ ?_
 ·intros;go_simp
 go_big_quiet_op
 refine za1 (some 192) w (.pointer (some ⟨pw k,0,none⟩)) (.tmp 191) (.pointer (some ⟨pw k,0,none⟩)) ?_ ?_
 ·intros;go_simp
 go_big_quiet_op
 refine za1 (some 193) w (.pointer (some ⟨pw k,1,none⟩)) (.tmp 192) (.pointer (some ⟨pw k,0,none⟩)) ?_ ?_
 ·intros;go_simp
 go_big_quiet_op
 refine za1 (some 194) w (.int .i64 ((r.seen:Int))) (.tmp 193) (.pointer (some ⟨pw k,1,none⟩)) (fun wk hwk ρ s193=> ?_) ?_
 ·obtain⟨r9,hr9,hq9⟩:=hwk
  obtain⟨T,bv,ov,hq,_⟩:=hq9.wr hk (zag _ _ _)
  have gs:=hq.cells.seen
  have gql:=hq.cells.lt
  rw[hr9]at gs
  go_simp
 go_big_quiet_op
 refine wgb (some 195) w rfl (.int .i64 (zba t.b r.seen)) rfl (by kernel_rfl) (fun wk hwk=> ?_) ?_
 ·generalize hA:Act.eval _=ρ
  have s190:ρ (.tmp 190)= .pointer (some ⟨G,0,none⟩):=by rw[<-hA];kernel_rfl
  have s194:ρ (.tmp 194)= .int .i64 ((r.seen:Int)):=by rw[<-hA];kernel_rfl
  have sf:ρ (.func 102)= .func (.func 102) #[] #[]:=by rw[<-hA];kernel_rfl
  clear hA
  unfold zcb
  go_simp
  obtain⟨r9,hr9,hq9⟩:=hwk
  obtain⟨T,dv,hl,_⟩:=hq9.book
  refine(zx7 hl HR.out.ti.good r.seen HSL.out).mono ?_
  rintro e w7 ⟨rfl,rfl⟩
  exact⟨rfl,Below.refl _ _⟩
 go_big_quiet_op
 refine zbe (some 196) w rfl rfl rfl (fun u=>True) (fun u wk=>zbu base w S D G pw ⟨t.b,zai t.ws k (some (zgt r (zba t.b r.seen)))⟩ (zat (fun _=>Th.no base) 0 (Th.st base w.heap.size ⟨6,(k:Int),at_,many,text⟩)) wk) (⟨undef,trivial⟩) (fun _ _ h=>⟨zgt r (zba t.b r.seen),rfl,h⟩) (fun _=>zbu.shut) (fun wk hwk=> ?_) (fun u10 hu10=> ?_)
 ·generalize hA:Act.eval _=ρ
  have s186:ρ (.tmp 186)= .pointer (some ⟨pw k,0,none⟩):=by rw[<-hA];kernel_rfl
  have s195:ρ (.tmp 195)= .int .i64 (zba t.b r.seen):=by rw[<-hA];kernel_rfl
  have sf:ρ (.func 101)= .func (.func 101) #[] #[]:=by rw[<-hA];kernel_rfl
  clear hA
  go_simp
  obtain⟨T,bv,ov,hq,hs⟩:=hwk.wr hk HE.out
  refine(clear_sc hq (by have:=HO.out.base;omega) HO.out.tame _).mono ?_
  rintro e w7 ⟨rfl,hto⟩
  exact⟨_,rfl,hs (zgt r (zba t.b r.seen)) w7 hto⟩
 clear hu10
 go_big_quiet_op
 refine zds (fun w12 hw12=> ?_)
 have H12:=hid hw12
 clear hw12 H7
 go_wp2_with fail
 go_ret
 exact⟨rfl,H12.out.done HL.out⟩
theorem do_tn{w:World}{base D G:Nat}{pw:Nat->Nat}{t:Twn}{S:Nat->Prop}(h:zke base D G pw t w S){tk:Int->List (List Ch)}(hr:TR t tk)(x:Tst):
 Calls Tryz.prog 56 #[.pointer (some ⟨D,0,none⟩),tsV x] w fun e w'=>e= .returned (.int .i64 (tDo t x).1)/\∃pw',zkd base w S D G pw' (tDo t x).2 w':=by
 by_cases k0:x.kind<1\/7<x.kind
 ·have htd:tDo t x=(2,t):=by unfold tDo;rw[if_pos k0]
  rw[htd]
  exact(tdo_bad h hr x k0).mono fun e w' ⟨e1,e2⟩=>⟨e1,pw,e2⟩
 by_cases k1:x.kind=1
 ·have htd:tDo t x=zsq t x.w:=by unfold tDo;rw[if_neg k0,if_pos k1]
  rw[htd,zsq]
  by_cases hc:zde t.b x.w=0
  ·have hw:wrB x.w=true:=by
    cases hh:wrB x.w
    ·rw[zde,if_pos hh]at hc;cases hc
    rfl
   obtain⟨k,hxw,hk⟩:=zc1 hw
   rw[hxw]at hc⊢
   refine(zto h hr x k1 hk hxw hc).mono fun e w' ⟨e1,P,e2⟩=>⟨by rw[e1,hc],?_⟩
   show∃pw',zkd base w S D G pw' (if _=0 then _ else _) w'
   rw[if_pos hc]
   exact⟨_,e2⟩
  refine(zw7 h hr x k1 hc).mono fun e w' ⟨e1,e2⟩=>⟨e1,pw,?_⟩
  show zkd base w S D G _ (if _=0 then _ else _) w'
  rw[if_neg hc]
  exact e2
 cases he:t.ws x.w with
 |none=>
  have htd:tDo t x=(5,t):=by unfold tDo;rw[if_neg k0,if_neg k1,he]
  rw[htd]
  exact(tdo_none h hr x (by omega) (by omega) he).mono fun e w' ⟨e1,e2⟩=>⟨e1,pw,e2⟩
 |some r=>
  obtain⟨k,hxw,hk⟩:=zc1 (hr.ti.is_here he).2
  rw[hxw]at he
  have htd:tDo t x=(if x.kind=2\/x.kind=3 then qb0 t k r x else if x.kind=4 then zdx t k r else if x.kind=5 then zdg t k r
   else if x.kind=6 then(0,⟨t.b,zai t.ws k (some (zgt r (zba t.b r.seen)))⟩)else(0,zdu t k)):=by
   unfold tDo
   rw[if_neg k0,if_neg k1,hxw,he]
  rw[htd]
  by_cases k2:x.kind=2
  ·have ho:ownD r x=⟨1,r.me,r.next,r.seen,x.at_,0,x.text⟩:=by rw[ownD,if_pos k2]
   rw[if_pos (.inl k2),qb0,ho]
   by_cases hz:doC r.list ⟨1,r.me,r.next,r.seen,x.at_,0,x.text⟩ za3=0
   ·refine(tput_yes h hr x hk he hxw k2 hz).mono fun e w' ⟨e1,e2⟩=>⟨by rw[e1,hz],pw,?_⟩
    show zkd base w S D G _ (if _=0 then _ else _) w'
    rw[if_pos hz]
    exact e2
   refine(tput_no h hr x hk he hxw k2 hz).mono fun e w' ⟨e1,e2⟩=>⟨e1,pw,?_⟩
   show zkd base w S D G _ (if _=0 then _ else _) w'
   rw[if_neg hz]
   exact e2
  by_cases k3:x.kind=3
  ·have ho:ownD r x=⟨2,r.me,r.next,r.seen,x.at_,x.many,⟨#[]⟩⟩:=by rw[ownD,if_neg k2];rfl
   rw[if_pos (.inr k3),qb0,ho]
   by_cases hz:doC r.list ⟨2,r.me,r.next,r.seen,x.at_,x.many,⟨#[]⟩⟩ za3=0
   ·refine(qcv h hr x hk he hxw k3 hz).mono fun e w' ⟨e1,e2⟩=>⟨by rw[e1,hz],pw,?_⟩
    show zkd base w S D G _ (if _=0 then _ else _) w'
    rw[if_pos hz]
    exact e2
   refine(ttake_no h hr x hk he hxw k3 hz).mono fun e w' ⟨e1,e2⟩=>⟨e1,pw,?_⟩
   show zkd base w S D G _ (if _=0 then _ else _) w'
   rw[if_neg hz]
   exact e2
  rw[if_neg (by omega)]
  by_cases k4:x.kind=4
  ·rw[if_pos k4,zdx]
   cases hn:r.opens[r.sent]? with
   |none=>exact(tsend_no h hr x hk he hxw k4 hn).mono fun e w' ⟨e1,e2⟩=>⟨e1,pw,e2⟩
   |some d=>
    by_cases hc:za6 t.b d=0
    ·refine(qcw h hr x hk he hxw k4 hn hc).mono fun e w' ⟨e1,e2⟩=>⟨by rw[e1,<-hc],pw,?_⟩
     show zkd base w S D G _ (if _=0 then _ else _) w'
     rw[if_pos hc]
     exact e2
    refine(qcx h hr x hk he hxw k4 hn hc).mono fun e w' ⟨e1,e2⟩=>⟨e1,pw,?_⟩
    show zkd base w S D G _ (if _=0 then _ else _) w'
    rw[if_neg hc]
    exact e2
  rw[if_neg k4]
  by_cases k5:x.kind=5
  ·rw[if_pos k5,zdg]
   cases hn:t.b.ds[r.seen]? with
   |none=>exact(thear_no h hr x hk he hxw k5 hn).mono fun e w' ⟨e1,e2⟩=>⟨e1,pw,e2⟩
   |some d=>
    by_cases hc:zbt r d=0
    ·refine(qdf h hr x hk he hxw k5 hn hc).mono fun e w' ⟨e1,e2⟩=> ?_
     show e= .returned (.int .i64 (if _=0 then(_,_)else(_,_)).1)/\∃pw',zkd base w S D G pw' (if _=0 then(_,_)else(_,_)).2 w'
     rw[if_pos hc]
     exact⟨e1,_,e2⟩
    refine(qdg h hr x hk he hxw k5 hn hc).mono fun e w' ⟨e1,e2⟩=> ?_
    show e= .returned (.int .i64 (if _=0 then(_,_)else(_,_)).1)/\∃pw',zkd base w S D G pw' (if _=0 then(_,_)else(_,_)).2 w'
    rw[if_neg hc]
    exact⟨e1,_,e2⟩
  rw[if_neg k5]
  by_cases k6:x.kind=6
  ·rw[if_pos k6]
   exact(tclear h hr x hk he hxw k6).mono fun e w' ⟨e1,e2⟩=>⟨e1,pw,e2⟩
  rw[if_neg k6]
  exact(tleave h hr x hk he hxw (by omega)).mono fun e w' ⟨e1,e2⟩=>⟨e1,pw,e2⟩
def zvu(base:Nat)(w:World)(S:Nat->Prop)(D G:Nat)(t:Twn)(wk:World):Prop:=(∃pw,zbu base w S D G pw t (fun _=>Th.no base) wk)/\∃tk,TR t tk
theorem zrt{t:Twn}{tk:Int->List (List Ch)}(h:TR t tk)(x:Tst)(hk:x.kind=4\/x.kind=5):∃tk',TR (tDo t x).2 tk':=by
 have htd:tDo t x=match t.ws x.w with|none=>(5,t)|some r=>if x.kind=4 then zdx t x.w r else zdg t x.w r:=by
  unfold tDo
  rw[if_neg (by omega),if_neg (by omega)]
  cases he:t.ws x.w with
  |none=>rfl
  |some r=>
   show(if x.kind=2\/x.kind=3 then _ else _)=_
   rw[if_neg (by omega)]
   by_cases h4:x.kind=4
   ·rw[if_pos h4];exact(if_pos h4).symm
   rw[if_neg h4,if_pos (by omega)];exact(if_neg h4).symm
 rw[htd]
 cases he:t.ws x.w with
 |none=>exact⟨tk,h⟩
 |some r=>
  by_cases h4:x.kind=4
  ·show∃tk',TR (if x.kind=4 then zdx t x.w r else zdg t x.w r).2 tk'
   rw[if_pos h4,zdx]
   cases hn:r.opens[r.sent]? with
   |none=>exact⟨tk,h⟩
   |some d=>
    by_cases hc:za6 t.b d=0
    ·refine⟨tk,?_⟩
     show TR (if _=0 then _ else _) _
     rw[if_pos hc]
     exact qd0 h he hn hc
    refine⟨tk,?_⟩
    show TR (if _=0 then _ else _) _
    rw[if_neg hc]
    exact zlx h he
  show∃tk',TR (if x.kind=4 then zdx t x.w r else zdg t x.w r).2 tk'
  rw[if_neg h4,zdg]
  cases hn:t.b.ds[r.seen]? with
  |none=>exact⟨tk,h⟩
  |some d=>
   by_cases hc:zbt r d=0
   ·show∃tk',TR (if _=0 then(_,_)else(_,_)).2 tk'
    rw[if_pos hc]
    exact⟨_,qd3 h he hn hc⟩
   show∃tk',TR (if _=0 then(_,_)else(_,_)).2 tk'
   rw[if_neg hc]
   exact⟨_,zlx h he⟩
theorem zvu.does{base D G:Nat}{S:Nat->Prop}{t:Twn}{w wk:World}(h:zvu base w S D G t wk)(x:Tst)(hk:x.kind=4\/x.kind=5):
 Calls Tryz.prog 56 #[.pointer (some ⟨D,0,none⟩),tsV x] wk fun e w'=>e= .returned (.int .i64 (tDo t x).1)/\zvu base w S D G (tDo t x).2 w':=by
 obtain⟨⟨pw,h1⟩,tk,h2⟩:=h
 obtain⟨T,ha,hs⟩:=h1.call
 exact(do_tn ha h2 x).mono fun e w' ⟨e1,pw',e2⟩=>⟨e1,⟨pw',hs _ _ _ e2⟩,zrt h2 x hk⟩
theorem zwj(t:Twn)(v:Int)(hc:(tDo t ⟨4,v,0,0,⟨#[]⟩⟩).1≠0):zc8 t v=(tDo t ⟨4,v,0,0,⟨#[]⟩⟩).2:=by
 rw[zl4]at hc⊢
 cases hw:t.ws v with
 |none=>exact zfn hw
 |some r=>
  rw[hw]at hc
  rw[zea hw,if_neg hc]
theorem zu5(t:Twn)(v:Int)(hc:(tDo t ⟨4,v,0,0,⟨#[]⟩⟩).1=0):zc8 t v=zc8 (tDo t ⟨4,v,0,0,⟨#[]⟩⟩).2 v/\unsent (tDo t ⟨4,v,0,0,⟨#[]⟩⟩).2 v<unsent t v:=by
 rw[zl4]at hc⊢
 cases hw:t.ws v with
 |none=>rw[hw]at hc;cases hc
 |some r=>
  rw[hw]at hc
  exact⟨by rw[zea hw,if_pos hc],zi4 hw hc⟩
theorem zxg(t:Twn)(v:Int)(hc:(tDo t ⟨5,v,0,0,⟨#[]⟩⟩).1≠0):zca t v=(tDo t ⟨5,v,0,0,⟨#[]⟩⟩).2:=by
 rw[zl5]at hc⊢
 cases hw:t.ws v with
 |none=>exact zfr hw
 |some r=>
  rw[hw]at hc
  rw[zei hw,if_neg hc]
theorem zv0(t:Twn)(v:Int)(hc:(tDo t ⟨5,v,0,0,⟨#[]⟩⟩).1=0):zca t v=zca (tDo t ⟨5,v,0,0,⟨#[]⟩⟩).2 v/\zft (tDo t ⟨5,v,0,0,⟨#[]⟩⟩).2 v<zft t v:=by
 rw[zl5]at hc⊢
 cases hw:t.ws v with
 |none=>rw[hw]at hc;cases hc
 |some r=>
  rw[hw]at hc
  exact⟨by rw[zei hw,if_pos hc],zgw hw hc⟩
theorem qe1{w:World}{base D G:Nat}{pw:Nat->Nat}{t:Twn}{S:Nat->Prop}(h:zke base D G pw t w S){tk:Int->List (List Ch)}(hr:TR t tk):
 Calls Tryz.prog 43 #[.pointer (some ⟨D,0,none⟩)] w fun e w'=>e= .returned (.tuple #[])/\∃pw',zkd base w S D G pw' (zep t) w':=by
 have HL:=hid h.held
 have HI:Hid (zvu base w S D G t w):=⟨⟨pw,h.start⟩,tk,hr⟩
 clear h hr
 go_enter Tryz.func43,Tryz.ntmps43
 go_wp2_with fail
 go_loopw [2] (fun i wr=>∃n:Nat,n<=4/\i= .int .i64 n/\Hid (zvu base w S D G (zdl n t) wr)) (fun i _=>4-(intOf i).toNat)
 case atStart=>exact⟨0,by omega,rfl,HI.out⟩
 obtain⟨n,hn,rfl,HW⟩:=hrel
 by_cases hlt:n<4
 ·have hlt':(n:Int)<4:=by omega
  go_wp2_with fail
  go_loopg [] (unsent (zdl n t) n) (fun m wr2=>∃t2,unsent t2 n=m/\zc8 t2 n=zc8 (zdl n t) n/\Hid (zvu base w S D G t2 wr2))
  case atStart=>exact⟨_,rfl,rfl,HW.out⟩
  obtain⟨t2,hm,hall,HW2⟩:=hrel
  have HM:Hid (unsent t2 n=gk/\zc8 t2 n=zc8 (zdl n t) n):=⟨hm,hall⟩
  clear hm hall
  obtain⟨⟨pw2,hd2⟩,_⟩:=HW2.out
  have g1:=hd2.cells.ws n hlt
  have hlt0:=hd2.cells.lt
  cases he:t2.ws n with
  |none=>
   have hhs:zbo t2 n=false:=by unfold zbo;rw[he];rfl
   simp only[hhs,zbq,Bool.false_eq_true,if_false]at g1
   have HN:Hid (zdl (n+1) t=t2):=by
    show zc8 (zdl n t) n=t2
    rw[<-HM.out.2]
    exact zfn he
   clear he hhs hd2
   go_wp2_with fail
   go_roundw
   case rel=>exact⟨n+1,by omega,by go_num,by rw[HN.out];exact HW2.out⟩
   case measure=>simp[intOf];omega
  |some r2=>
   have hhs:zbo t2 n=true:=by unfold zbo;rw[he];rfl
   simp only[hhs,zbq,if_true]at g1
   clear he hhs hd2
   go_wp2_with fail
   clear g1 hlt0
   refine(HW2.out.does ⟨4,n,0,0,⟨#[]⟩⟩ (.inl rfl)).mono ?_
   rintro e w7 ⟨rfl,h7⟩
   have H7:=hid h7
   clear h7 HW2
   by_cases hz:(tDo t2 ⟨4,n,0,0,⟨#[]⟩⟩).1=0
   ·have HY:=hid (zu5 t2 n hz)
    rw[hz]
    clear hz
    go_wp2_with fail
    go_roundg (unsent (tDo t2 ⟨4,n,0,0,⟨#[]⟩⟩).2 n)
    case measure=>have:=HY.out.2;have:=HM.out.1;omega
    case rel=>exact⟨_,rfl,by rw[<-HY.out.1,HM.out.2],H7.out⟩
   have HN:Hid (zdl (n+1) t=(tDo t2 ⟨4,n,0,0,⟨#[]⟩⟩).2):=by
    show zc8 (zdl n t) n=_
    rw[<-HM.out.2,zwj t2 n hz]
   obtain⟨cq,hcq⟩:∃c,(tDo t2 ⟨4,n,0,0,⟨#[]⟩⟩).1=c:=⟨_,rfl⟩
   have hz2:¬cq=0:=by rw[<-hcq];exact hz
   rw[hcq]
   clear hz hcq
   go_wp2_with fail
   go_roundw
   case rel=>exact⟨n+1,by omega,by go_num,by rw[HN.out];exact H7.out⟩
   case measure=>simp[intOf];omega
 have hne:n=4:=by omega
 have hn4:(n:Int)=4:=by omega
 rw[hn4]
 rw[hne]at HW
 clear hn4 hne hn hlt
 go_wp2_with fail
 have HA:=hid HW.out
 clear HW HI
 go_loopw [3] (fun i wr=>∃n:Nat,n<=4/\i= .int .i64 n/\Hid (zvu base w S D G (zhs n (zdl 4 t)) wr)) (fun i _=>4-(intOf i).toNat)
 case atStart=>exact⟨0,by omega,rfl,HA.out⟩
 obtain⟨n,hn,rfl,HW⟩:=hrel
 by_cases hlt:n<4
 ·have hlt':(n:Int)<4:=by omega
  go_wp2_with fail
  go_loopg [] (zft (zhs n (zdl 4 t)) n) (fun m wr2=>∃t2,zft t2 n=m/\zca t2 n=zca (zhs n (zdl 4 t)) n/\Hid (zvu base w S D G t2 wr2))
  case atStart=>exact⟨_,rfl,rfl,HW.out⟩
  obtain⟨t2,hm,hall,HW2⟩:=hrel
  have HM:Hid (zft t2 n=gk/\zca t2 n=zca (zhs n (zdl 4 t)) n):=⟨hm,hall⟩
  clear hm hall
  obtain⟨⟨pw2,hd2⟩,_⟩:=HW2.out
  have g1:=hd2.cells.ws n hlt
  have hlt0:=hd2.cells.lt
  cases he:t2.ws n with
  |none=>
   have hhs:zbo t2 n=false:=by unfold zbo;rw[he];rfl
   simp only[hhs,zbq,Bool.false_eq_true,if_false]at g1
   have HN:Hid (zhs (n+1) (zdl 4 t)=t2):=by
    show zca (zhs n (zdl 4 t)) n=t2
    rw[<-HM.out.2]
    exact zfr he
   clear he hhs hd2
   go_wp2_with fail
   go_roundw
   case rel=>exact⟨n+1,by omega,by go_num,by rw[HN.out];exact HW2.out⟩
   case measure=>simp[intOf];omega
  |some r2=>
   have hhs:zbo t2 n=true:=by unfold zbo;rw[he];rfl
   simp only[hhs,zbq,if_true]at g1
   clear he hhs hd2
   go_wp2_with fail
   clear g1 hlt0
   refine(HW2.out.does ⟨5,n,0,0,⟨#[]⟩⟩ (.inr rfl)).mono ?_
   rintro e w7 ⟨rfl,h7⟩
   have H7:=hid h7
   clear h7 HW2
   by_cases hz:(tDo t2 ⟨5,n,0,0,⟨#[]⟩⟩).1=0
   ·have HY:=hid (zv0 t2 n hz)
    rw[hz]
    clear hz
    go_wp2_with fail
    go_roundg (zft (tDo t2 ⟨5,n,0,0,⟨#[]⟩⟩).2 n)
    case measure=>have:=HY.out.2;have:=HM.out.1;omega
    case rel=>exact⟨_,rfl,by rw[<-HY.out.1,HM.out.2],H7.out⟩
   have HN:Hid (zhs (n+1) (zdl 4 t)=(tDo t2 ⟨5,n,0,0,⟨#[]⟩⟩).2):=by
    show zca (zhs n (zdl 4 t)) n=_
    rw[<-HM.out.2,zxg t2 n hz]
   obtain⟨cq,hcq⟩:∃c,(tDo t2 ⟨5,n,0,0,⟨#[]⟩⟩).1=c:=⟨_,rfl⟩
   have hz2:¬cq=0:=by rw[<-hcq];exact hz
   rw[hcq]
   clear hz hcq
   go_wp2_with fail
   go_roundw
   case rel=>exact⟨n+1,by omega,by go_num,by rw[HN.out];exact H7.out⟩
   case measure=>simp[intOf];omega
 have hne:n=4:=by omega
 have hn4:(n:Int)=4:=by omega
 rw[hn4]
 rw[hne]at HW
 clear hn4 hne hn hlt
 go_wp2_with fail
 go_end0
 obtain⟨⟨pw9,h9⟩,_⟩:=HW.out
 exact⟨rfl,pw9,h9.done HL.out⟩
variable {w:World} {R E:Nat} {told:ByteArray}
theorem tr_do{t:Twn}{tk:Int->List (List Ch)}(h:TR t tk)(x:Tst):∃tk',TR (tDo t x).2 tk':=by
 by_cases k0:x.kind<1\/7<x.kind
 ·exact⟨tk,by unfold tDo;rw[if_pos k0];exact h⟩
 by_cases k45:x.kind=4\/x.kind=5
 ·exact zrt h x k45
 by_cases k1:x.kind=1
 ·unfold tDo
  rw[if_neg k0,if_pos k1,zsq]
  by_cases hc:zde t.b x.w=0
  ·refine⟨zai tk x.w [],?_⟩
   show TR (if _=0 then _ else _) _
   rw[if_pos hc]
   exact qd2 h hc
  refine⟨tk,?_⟩
  show TR (if _=0 then _ else _) _
  rw[if_neg hc]
  exact h
 unfold tDo
 rw[if_neg k0,if_neg k1]
 cases he:t.ws x.w with
 |none=>exact⟨tk,h⟩
 |some r=>
  show∃tk',TR (if x.kind=2\/x.kind=3 then qb0 t x.w r x else if x.kind=4 then zdx t x.w r else if x.kind=5 then zdg t x.w r
   else if x.kind=6 then(0,⟨t.b,zai t.ws x.w (some (zgt r (zba t.b r.seen)))⟩)else(0,zdu t x.w)).2 tk'
  by_cases k23:x.kind=2\/x.kind=3
  ·rw[if_pos k23,qb0]
   by_cases hc:doC r.list (ownD r x) za3=0
   ·refine⟨zai tk x.w (tk x.w++[zel r.list (ownD r x)]),?_⟩
    show TR (if _=0 then _ else _) _
    rw[if_pos hc]
    exact qd1 h he x hc
   refine⟨tk,?_⟩
   show TR (if _=0 then _ else _) _
   rw[if_neg hc]
   exact h
  rw[if_neg k23,if_neg (by omega),if_neg (by omega)]
  by_cases k6:x.kind=6
  ·rw[if_pos k6]
   exact⟨_,zyk h he⟩
  rw[if_neg k6]
  exact⟨_,zlx h he⟩
theorem ztg{t:Twn}(h:∃tk,TR t tk):∀n,∃tk,TR (zdl n t) tk
 | 0=>h
 |n+1=>zwl (fun t=>∃tk,TR t tk) (fun t r ⟨tk,ht⟩ hw=>by
  have:=zrt ht ⟨4,n,0,0,⟨#[]⟩⟩ (.inl rfl)
  rw[zl4,hw]at this
  exact this) _ _ rfl (ztg h n)
theorem zth{t:Twn}(h:∃tk,TR t tk):∀n,∃tk,TR (zhs n t) tk
 | 0=>h
 |n+1=>zxi (fun t=>∃tk,TR t tk) (fun t r ⟨tk,ht⟩ hw=>by
  have:=zrt ht ⟨5,n,0,0,⟨#[]⟩⟩ (.inr rfl)
  rw[zl5,hw]at this
  exact this) _ _ rfl (zth h n)
theorem qcz{t:Twn}{tk:Int->List (List Ch)}(h:TR t tk):∃tk',TR (zep t) tk':=zth (ztg ⟨tk,h⟩ 4) 4
structure RkC(w:World)(R:Nat)(told:ByteArray)(E:Nat):Prop where
 lt:R<w.heap.size
 told:w.cell? ⟨R,0,none⟩=some (.string told)
 town:w.cell? ⟨R,1,none⟩=some (.pointer (some ⟨E,0,none⟩))
 free:∀o,o<2->w.frozen? ⟨R,o,none⟩=false
theorem RkC.kept{w':World}(h:RkC w R told E)(hs:w.heap.size<=w'.heap.size)(hb:w'.heap[R]? =w.heap[R]?):RkC w' R told E:=by
 have hc:∀o,w'.cell? ⟨R,o,none⟩=w.cell? ⟨R,o,none⟩:=fun o=>World.cell?_of_block (a:=⟨R,o,none⟩) hb
 have hf:∀o,w'.frozen? ⟨R,o,none⟩=w.frozen? ⟨R,o,none⟩:=fun o=>World.frozen?_of_block (a:=⟨R,o,none⟩) hb
 exact⟨Nat.lt_of_lt_of_le h.lt hs,by rw[hc];exact h.told,by rw[hc];exact h.town,fun o ho=>by rw[hf];exact h.free o ho⟩
theorem RkC.set(h:RkC w R told E)(s:ByteArray):RkC (w.setCell ⟨R,0,none⟩ (.string s)) R s E:=by
 have h0:=h.told
 have h1:=h.town
 refine⟨by simpa [World.setCell]using h.lt,?_,?_,fun o ho=> ?_⟩
 ·simp[go_sem,h0]
 ·simp[go_sem,h1]
 simpa [go_sem]using h.free o ho
def Th.rk(base R:Nat)(told:ByteArray)(E:Nat):Th base:=Th.blk base R (fun w=>RkC w R told E) (fun _ _ hz hb h=>h.kept hz hb)
def zvx(base R E F:Nat)(qw:Nat->Nat)(told:ByteArray)(u:Twn)(ex:Th base):Nat->Th base:=zat (zat (zat (fun _=>Th.no base) 1 (Th.tn base E F qw u)) 2 (Th.rk base R told E)) 3 ex
section
variable {base R E F:Nat} {qw:Nat->Nat} {w0 wk w':World} {S:Nat->Prop} {told:ByteArray} {u:Twn} {ex:Th base}
theorem rk_1:zvx base R E F qw told u ex 1=Th.tn base E F qw u:=rfl
theorem rk_2:zvx base R E F qw told u ex 2=Th.rk base R told E:=rfl
theorem rk_put1{qw':Nat->Nat}{u':Twn}:∀i,zat (zvx base R E F qw told u ex) 1 (Th.tn base E F qw' u') i=zvx base R E F qw' told u' ex i:=fun i=>by
 unfold zvx zat
 by_cases e1:i=1
 ·subst e1;rfl
 rw[if_neg e1]
 by_cases e3:i=3
 ·rw[if_pos e3,if_pos e3]
 rw[if_neg e3,if_neg e3]
 by_cases e2:i=2
 ·rw[if_pos e2,if_pos e2]
 rw[if_neg e2,if_neg e2,if_neg e1,if_neg e1]
theorem rk_put2{told':ByteArray}:∀i,zat (zvx base R E F qw told u ex) 2 (Th.rk base R told' E) i=zvx base R E F qw told' u ex i:=fun i=>by
 unfold zvx zat
 by_cases e2:i=2
 ·subst e2;rfl
 rw[if_neg e2]
 by_cases e3:i=3
 ·rw[if_pos e3,if_pos e3]
 rw[if_neg e3,if_neg e3,if_neg e2,if_neg e2]
theorem rk_put3{ex':Th base}:∀i,zat (zvx base R E F qw told u ex) 3 ex' i=zvx base R E F qw told u ex' i:=fun i=>by
 unfold zvx zat
 by_cases e3:i=3
 ·rw[if_pos e3,if_pos e3]
 rw[if_neg e3,if_neg e3,if_neg e3]
end
structure zcg(base:Nat)(w0:World)(S:Nat->Prop)(R E F:Nat)(qw:Nat->Nat)(told:ByteArray)(u:Twn)(ex:Th base)(wk:World):Prop where
 hq:Hq base (zvx base R E F qw told u ex) w0 S wk
 tr:∃tk,TR u tk
 rdy:Rdy base wk
section
variable {base R E F:Nat} {qw:Nat->Nat} {w0 wk w':World} {S:Nat->Prop} {told:ByteArray} {u:Twn} {ex:Th base}
theorem zcg.after(h:zcg base w0 S R E F qw told u ex wk)(hb:Below wk.heap.size wk w'):zcg base w0 S R E F qw told u ex w':=⟨h.hq.after hb,h.tr,h.rdy.after hb⟩
theorem zcg.cells(h:zcg base w0 S R E F qw told u ex wk):RkC wk R told E:=by
 obtain⟨T,hp,_⟩:=h.hq.get (i:=2) (by omega)
 rw[rk_2]at hp
 exact hp.2
theorem zcg.box(h:zcg base w0 S R E F qw told u ex wk):∃T,ex.P wk T:=by
 obtain⟨T,hp,_⟩:=h.hq.get (i:=3) (by omega)
 exact⟨T,hp⟩
theorem zcg.lay(h:zcg base w0 S R E F qw told u ex wk)(hb:Below wk.heap.size wk w')(c:Th base)(hc:c.P w' (fun k=>wk.heap.size<=k/\k<w'.heap.size)):zcg base w0 S R E F qw told u c w':=
 ⟨(h.hq.lay hb (i:=3) (by omega) c hc).imp (fun i _ T' _ hp=>by rw[rk_put3]at hp;exact hp),h.tr,h.rdy.after hb⟩
theorem zcg.bare(h:zcg base w0 S R E F qw told u ex wk):zcg base w0 S R E F qw told u (Th.no base) wk:=
 ⟨h.hq.imp (fun i _ T' _ hp=>by
  by_cases e3:i=3
  ·subst e3;trivial
  unfold zvx at hp⊢
  rw[za4 _ _ e3]at hp⊢
  exact hp),h.tr,h.rdy⟩
theorem zcg.set(h:zcg base w0 S R E F qw told u ex wk)(s:ByteArray):zcg base w0 S R E F qw s u ex (wk.setCell ⟨R,0,none⟩ (.string s)):=by
 obtain⟨T,hp,hl,ht⟩:=h.hq.turn (i:=2) (by omega)
 rw[rk_2]at hp
 obtain⟨p1,p2⟩:=hp
 have hk:zam T wk (wk.setCell ⟨R,0,none⟩ (.string s)):=(zam.refl T wk).set (p:=⟨R,0,none⟩) p1 _
 exact⟨(ht (Th.rk base R s E) _ hk ⟨.inl p1,p2.set s⟩).imp (fun i _ T' _ hp=>by rw[rk_put2]at hp;exact hp),h.tr,h.rdy.kept hk (fun k e=>(hl k e).1)⟩
theorem zcg.town(h:zcg base w0 S R E F qw told u ex wk):∃T,zke base E F qw u wk T/\∀qw' u' w',zkd base wk T E F qw' u' w'->(∃tk,TR u' tk)->zcg base w0 S R E F qw' told u' ex w':=by
 obtain⟨T,hp,hl,ht⟩:=h.hq.turn (i:=1) (by omega)
 rw[rk_1]at hp
 have hp':zke base E F qw u wk T:=hp
 exact⟨T,hp',fun qw' u' w' ⟨c1,c2⟩ c3=>⟨(ht (Th.tn base E F qw' u') w' c2 c1).imp (fun i _ T' _ hp=>by rw[rk_put1]at hp;exact hp),c3,h.rdy.kept c2 (fun k e=>(hl k e).1)⟩⟩
theorem zcg.ti(h:zcg base w0 S R E F qw told u ex wk):TwI u:=by
 obtain⟨tk,h⟩:=h.tr
 exact h.ti
theorem zcg.does(h:zcg base w0 S R E F qw told u ex wk)(x:Tst):
 Calls Tryz.prog 56 #[.pointer (some ⟨E,0,none⟩),tsV x] wk fun e w'=>e= .returned (.int .i64 (tDo u x).1)/\∃qw',zcg base w0 S R E F qw' told (tDo u x).2 ex w':=by
 obtain⟨T,h1,h2⟩:=h.town
 obtain⟨tk,hr⟩:=h.tr
 exact(do_tn h1 hr x).mono fun e w' ⟨e1,qw',e2⟩=>⟨e1,qw',h2 _ _ _ e2 (tr_do hr x)⟩
theorem zcg.settles(h:zcg base w0 S R E F qw told u ex wk):
 Calls Tryz.prog 43 #[.pointer (some ⟨E,0,none⟩)] wk fun e w'=>e= .returned (.tuple #[])/\∃qw',zcg base w0 S R E F qw' told (zep u) ex w':=by
 obtain⟨T,h1,h2⟩:=h.town
 obtain⟨tk,hr⟩:=h.tr
 exact(qe1 h1 hr).mono fun e w' ⟨e1,qw',e2⟩=>⟨e1,qw',h2 _ _ _ e2 (qcz hr)⟩
theorem zcg.apart(h:zcg base w0 S R E F qw told u ex wk):∃T,zke base E F qw u wk T/\¬T R:=by
 obtain⟨ow,h1⟩:=h.hq
 have a1:=h1.at_.at_ 1 (by omega)
 have a2:=h1.at_.at_ 2 (by omega)
 rw[rk_1]at a1
 rw[rk_2]at a2
 refine⟨_,a1,fun e=> ?_⟩
 have e2:ow R=2:=a2.1
 omega
theorem zcg.tw(h:zcg base w0 S R E F qw told u ex wk):TwC wk E F qw (zbo u):=by
 obtain⟨T,h1,_⟩:=h.apart
 exact h1.start.cells
theorem zgk(h:zcg base w0 S R E F qw told u ex wk)(s:ByteArray)(hs:told.size+s.size<=1000000000):
 Calls Tryz.prog 34 #[.pointer (some ⟨R,0,none⟩),.string s] wk fun e w'=>e= .returned (.tuple #[])/\zcg base w0 S R E F qw (told++(s++nlS)) u ex w'/\zam (fun k=>k=R) wk w':=by
 have HN:Hid (zcg base w0 S R E F qw (told++(s++nlS)) u ex (wk.setCell ⟨R,0,none⟩ (.string (told++(s++nlS))))):=h.set _
 have c0:=h.cells.told
 have f0:=h.cells.free 0 (by omega)
 have hlt:=h.cells.lt
 have h1:told.size<=1000000000:=by omega
 have h2:s.size<=1000000000:=by omega
 clear h hs
 go_enter Tryz.func34,Tryz.ntmps34
 go_wp2
 go_end0
 exact⟨rfl,HN.out,(zam.refl (fun k=>k=R) wk).set (p:=⟨R,0,none⟩) rfl _⟩
end
end Go.Proofs.YtcbnnfeelhlapadGreatDoor