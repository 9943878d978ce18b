/-
  KDoL.
-/
import Derived.Test.YtcbnnfeelhlapadGreatDoorKRX
namespace Go.Proofs.YtcbnnfeelhlapadGreatDoor
set_option maxHeartbeats 6400000
set_option maxRecDepth 20000
open Go.RowKit
variable {B i:Nat}
def qeg(x y:Value)(k:Nat):Value:=if k=0 then x else y
def Th.two(base B:Nat)(x y:Value):Th base:=Th.blk base B (fun w=>B<w.heap.size/\∀k,k<2->w.cell? ⟨B,k,none⟩=some (qeg x y k)) (fun w w' hz hb h=>
 ⟨Nat.lt_of_lt_of_le h.1 hz,fun k hk=>by rw[World.cell?_of_block (a:=⟨B,k,none⟩) hb];exact h.2 k hk⟩)
section
variable {W wk w':World} {cs:Nat->Th W.heap.size}
theorem Jn.two(h:Jn W cs wk)(i:Nat)(hi:i≠0)(x y:Value):Jn W (zat cs i (Th.two W.heap.size wk.heap.size x y)) (wk.alloc (.cells #[x,y] 22)):=
 Hq.lay h (za2 _ _) hi _ ⟨⟨Nat.le_refl _,by simp⟩,by simp,fun k hk=>by
  rcases(show k=0\/k=1 by omega)with rfl|rfl<;>simp[go_sem,qeg]⟩
theorem Jn.at2{x y:Value}(h:Jn W cs wk)(hi:i≠0)(hc:cs i=Th.two W.heap.size B x y):B<wk.heap.size/\∀k,k<2->wk.cell? ⟨B,k,none⟩=some (qeg x y k):=by
 obtain⟨T,h1,_⟩:=Hq.get h hi
 rw[hc]at h1
 exact h1.2
theorem Jn.box{c a:Int}(h:Jn W cs wk)(hi:i≠0)(hc:cs i=Th.ft W.heap.size B c a):zo1 wk B c a/\B<wk.heap.size:=by
 obtain⟨T,h1,_⟩:=Hq.get h hi
 rw[hc]at h1
 exact h1.2
theorem Jn.back{a b c:Th W.heap.size}(h:Jn W cs wk)(h1:cs 1=a)(h2:cs 2=b)(h3:cs 3=c):Jn W (zat (zat (zat (fun _=>Th.no _) 1 a) 2 b) 3 c) wk:=
 Hq.imp h (fun j _ T _ hp=>by
  unfold zat
  by_cases e3:j=3
  ·subst e3;rw[if_pos rfl,<-h3];exact hp
  rw[if_neg e3]
  by_cases e2:j=2
  ·subst e2;rw[if_pos rfl,<-h2];exact hp
  rw[if_neg e2]
  by_cases e1:j=1
  ·subst e1;rw[if_pos rfl,<-h1];exact hp
  rw[if_neg e1];trivial)
end
def qh1(W:World)(v:Value)(ls:List ByteArray):Prop:=zbs W v ls/\∀s∈ls,s.size<=10000
theorem out_some(t:Twn){L:List (List UInt8)}(h:(zcs L).1=0):qcb t L=doK t L:=if_pos h
theorem out_none(t:Twn){L:List (List UInt8)}(h:(zcs L).1≠0):qcb t L=([],t):=if_neg h
theorem zus(W:World)(hR:zck W){x:Value}{xs:List ByteArray}(hx:zbs W x xs)(hxz:∀s∈xs,s.size<=140737488355328){y:Value}{ys:List ByteArray}(hy:zbs W y ys)(hyz:∀s∈ys,s.size<=140737488355328):
 Calls Tryz.prog 3 #[x,y] W fun e w'=>e= .returned (.bool true)/\Below W.heap.size W w':=by
 have HX:=hid hx
 have HXZ:=hid hxz
 have HY:=hid hy
 have HYZ:=hid hyz
 have HR:=hid hR
 obtain⟨xa,xc,rfl,_⟩:=hx.len
 obtain⟨ya,yc,rfl,_⟩:=hy.len
 clear hx hxz hy hyz hR
 go_enter Tryz.func3,Tryz.ntmps3
 go_wp2_with fail
 refine(qbd W HR.out).mono ?_
 rintro e w1 ⟨rfl,hb⟩
 have H1:=hid ((jn_start W).after hb)
 clear hb
 by_cases hn:200<xs.length
 ·have hni:(200:Int)<(xs.length:Int):=by omega
  go_wp2_with fail
  go_ret
  exact⟨rfl,H1.out.below⟩
 have hni:¬(200:Int)<(xs.length:Int):=by omega
 by_cases hm:200<ys.length
 ·have hmi:(200:Int)<(ys.length:Int):=by omega
  go_wp2_with fail
  go_ret
  exact⟨rfl,H1.out.below⟩
 have hmi:¬(200:Int)<(ys.length:Int):=by omega
 go_wp2_with fail
 refine(zyy (HX.out.below H1.out.below) (by omega) HXZ.out).mono ?_
 rintro e w2 ⟨g,rfl,hg,rfl⟩
 cases g
 case true=>
  go_wp2_with fail
  go_ret
  exact⟨rfl,H1.out.below⟩
 have HLX:Hid (qh1 W (.slice xa xs.length xc) xs):=⟨HX.out,hg rfl⟩
 clear hg
 go_wp2_with fail
 refine(zyy (HY.out.below H1.out.below) (by omega) HYZ.out).mono ?_
 rintro e w3 ⟨g,rfl,hg,rfl⟩
 cases g
 case true=>
  go_wp2_with fail
  go_ret
  exact⟨rfl,H1.out.below⟩
 have HLY:Hid (qh1 W (.slice ya ys.length yc) ys):=⟨HY.out,hg rfl⟩
 clear hg HX HY HXZ HYZ
 go_wp2_with fail
 refine(H1.out.new 1 (by decide)).mono ?_
 rintro e w4 ⟨R1,rfl,D1,G1,p1,h4⟩
 have H4:=hid h4
 clear h4 H1
 go_wp2_with fail
 refine(H4.out.newR 2 (by decide)).mono ?_
 rintro e w5 ⟨R2,E2,F2,rfl,h5⟩
 have H5:Hid (Jn W _ (w5.alloc (.cells #[.slice xa xs.length xc,.slice ya ys.length yc] 22))):=h5.two 3 (by decide) (.slice xa xs.length xc) (.slice ya ys.length yc)
 clear h5 H4
 have HPK:Hid (∀k,k<2->∃ls,qh1 W (qeg (.slice xa xs.length xc) (.slice ya ys.length yc) k) ls):=fun k hk=>by
  rcases(show k=0\/k=1 by omega)with rfl|rfl
  ·exact⟨xs,HLX.out⟩
  exact⟨ys,HLY.out⟩
 clear HLX HLY
 go_upto_region 8 with fail
 obtain⟨x,hxe⟩:∃x,Value.slice xa xs.length xc=x:=⟨_,rfl⟩
 obtain⟨y,hye⟩:∃y,Value.slice ya ys.length yc=y:=⟨_,rfl⟩
 rw[hxe,hye]at HPK H5⊢
 clear hxe hye
 generalize w5.heap.size=B3 at*
 generalize World.alloc _ _=w6 at*
 go_wp2_with fail
 go_loopw [8] (fun i wx=>∃k:Nat,k<=2/\i= .int .i64 k/\Hid (∃t pw,Jn W (zat (zat (zat (fun _=>Th.no _) 1 (Th.kd W.heap.size R1 D1 G1 pw t)) 2 (Th.rd W.heap.size R2 E2 F2 t)) 3 (Th.two W.heap.size B3 x y)) wx)) (fun i _=>2-(intOf i).toNat)
 case atStart=>exact⟨0,by omega,rfl,_,_,H5.out⟩
 obtain⟨k,hk,rfl,HW⟩:=hrel
 clear H5
 obtain⟨t,pw,hJ⟩:=HW.out
 by_cases hlt:k<2
 ·have hki:(k:Int)<2:=by omega
  obtain⟨hB3,hc3⟩:=hJ.at2 (i:=3) (by decide) rfl
  have c3:=hc3 k hlt
  obtain⟨ls,hls⟩:=HPK.out k hlt
  have HLS:=hid hls
  have HJ:=hid hJ
  obtain⟨v,hv⟩:∃v,qeg x y k=v:=⟨_,rfl⟩
  have HPE:=hid hv
  rw[hv]at c3 hls HLS
  clear hv
  clear hls hJ hc3 HW
  go_wp2_with fail
  clear c3 hB3
  refine(HJ.out.done (i:=1) (by decide) rfl HR.out HLS.out.1 HLS.out.2).mono ?_
  rintro e w7 ⟨rfl,_,p7,h7⟩
  generalize hL:ls.map (·.data.toList)=L at*
  have HL:=hid hL
  obtain⟨c,hc⟩:∃c,(zcs L).1=c:=⟨_,rfl⟩
  obtain⟨f,hf⟩:∃f,(zcs L).2=f:=⟨_,rfl⟩
  obtain⟨so,hso⟩:∃so,bl (qcb t L).1=so:=⟨_,rfl⟩
  have HF:Hid (zcs L=(c,f)):=by show _=_;rw[<-hc,<-hf]
  have HSO:=hid hso
  have h7':=h7.fault 4 (by decide) c f
  rw[hc,hf,hso]
  clear hc hf hso h7 hL
  have H7:=hid h7'
  clear h7' HJ
  go_upto_region 12 with fail
  generalize w7.heap.size=B4 at*
  generalize World.alloc _ _=w8 at*
  obtain⟨hB3,hc3⟩:=H7.out.at2 (i:=3) (by decide) rfl
  have c3:=hc3 k hlt
  rw[HPE.out]at c3
  clear hc3
  go_wp2_with fail
  clear c3 hB3
  refine(zqa (HLS.out.1.below H7.out.below) HLS.out.2).mono ?_
  rintro e w9 ⟨rfl,hb⟩
  rw[HL.out,HF.out]
  have h9:=(H7.out.after hb).fault 5 (by decide) c f
  clear hb H7
  have H9:=hid h9
  clear h9
  go_upto_region 13 with fail
  generalize w9.heap.size=B5 at*
  generalize World.alloc _ _=wa at*
  obtain⟨⟨p0,p1,_,_⟩,l4⟩:=H9.out.box (i:=4) (by decide) rfl
  obtain⟨⟨q0,q1,_,_⟩,l5⟩:=H9.out.box (i:=5) (by decide) rfl
  obtain⟨hB3,hc3⟩:=H9.out.at2 (i:=3) (by decide) rfl
  have c3:=hc3 k hlt
  rw[HPE.out]at c3
  clear hc3
  by_cases hc0:c=0
  ·subst hc0
   have HO:Hid (qcb t L=doK t L):=out_some t (by rw[HF.out])
   have HLE:Hid (ls.length<=150):=by show _<=_;have:=zrd (zrc L (by rw[HF.out]));rw[<-HL.out,List.length_map]at this;exact this
   go_wp2_with fail
   refine(H9.out.doneR (i:=2) (by decide) rfl HR.out HLS.out.1 HLS.out.2 HLE.out).mono ?_
   rintro e wb ⟨rfl,hb⟩
   rw[HL.out]at hb⊢
   rw[<-HO.out]at hb⊢
   rw[HSO.out]
   have HB:Hid (∃t pw,Jn W (zat (zat (zat (fun _=>Th.no _) 1 (Th.kd W.heap.size R1 D1 G1 pw t)) 2 (Th.rd W.heap.size R2 E2 F2 t)) 3 (Th.two W.heap.size B3 x y)) wb):=⟨(qcb t L).2,p7,hb.back rfl rfl rfl⟩
   clear hb H9 p0 p1 q0 q1 l4 l5 c3 hB3
   go_wp2_with fail
   go_roundw
   case rel=>exact⟨k+1,by omega,by go_num,HB.out⟩
   case measure=>simp[intOf];omega
  have HO:Hid (qcb t L=([],t)):=out_none t (by rw[HF.out];exact hc0)
  have hse:so=⟨#[]⟩:=by rw[<-HSO.out,HO.out]
  subst hse
  have HB:Hid (∃t pw,Jn W (zat (zat (zat (fun _=>Th.no _) 1 (Th.kd W.heap.size R1 D1 G1 pw t)) 2 (Th.rd W.heap.size R2 E2 F2 t)) 3 (Th.two W.heap.size B3 x y)) wa):=⟨t,p7,H9.out.back (by show Th.kd _ _ _ _ _ (qcb t L).2=_;rw[HO.out]) rfl rfl⟩
  clear H9
  go_wp2_with fail
  go_roundw
  case rel=>exact⟨k+1,by omega,by go_num,HB.out⟩
  case measure=>simp[intOf];omega
 obtain rfl:k=2:=by omega
 have hb:=hJ.below
 go_wp2_with fail
 go_ret
 exact⟨rfl,hb⟩
end Go.Proofs.YtcbnnfeelhlapadGreatDoor