/-
  KLO, KLQ.
-/
import Derived.Test.YtcbnnfeelhlapadGreatDoorKLI
namespace Go.Proofs.YtcbnnfeelhlapadGreatDoor
set_option maxHeartbeats 6400000
set_option maxRecDepth 20000
open Go.RowKit
variable {B k:Nat} {r:Wr}
section
variable {base R D G:Nat} {pw:Nat->Nat} {w0 wk w':World} {S:Nat->Prop} {told:List UInt8} {t:Twn}
theorem zb8.saysL(h:zb8 base w0 S R D G pw told t wk){v:Value}{ws:List ByteArray}(hs:zbs wk v ws)(hne:ws≠[])(hN:ws.length<=100000)(hz:told.length+(jnB (ws.map (·.data.toList))).length<=900000000):
 Calls Tryz.prog 49 #[.pointer (some ⟨R,0,none⟩),v] wk fun e w'=>e= .returned (.tuple #[])/\zb8 base w0 S R D G pw (told++(jnB (ws.map (·.data.toList))++[10])) t w':=by
 obtain⟨T,a1,a2,a3⟩:=h.turn
 exact(zz5 a1 a2 hs hne hN hz).mono fun _ _ ⟨e1,e2⟩=>⟨e1,a3 _ _ e2⟩
def zyd(R B:Nat)(wk:World):Prop:=wk.cell? ⟨B,0,none⟩=some (.pointer (some ⟨R,0,none⟩))/\B<wk.heap.size
theorem zyd.after(h:zyd R B wk)(hb:Below wk.heap.size wk w'):zyd R B w':=⟨zd7 h.1 hb,Nat.lt_of_lt_of_le h.2 hb.size⟩
theorem sawText(h:zb8 base w0 S R D G pw told t wk)(hB:zyd R B wk)(hk:k<4)(he:t.ws k=some r)(hz:told.length<=600000000):
 Calls Tryz.prog 87 (#[.pointer (some ⟨pw k,0,none⟩)]++ #[.pointer (some ⟨B,0,none⟩)]) wk fun e w'=>e= .returned (.tuple #[])/\zb8 base w0 S R D G pw (told++zfj (vw r.list r.seen r.me)) t w':=by
 have HI:=hid h
 have HB:=hid hB
 have HE:=hid he
 have HSZ:Hid ((strOfNums (vw r.list r.seen r.me)).size<=200):=by
  show _<=_
  rw[zbn]
  have:=qco r.list r.seen r.me
  obtain⟨tk,_,hr⟩:=h.any
  have:=(zbg hr he).len
  omega
 have HTX:Hid (∀wk,zb8 base w0 S R D G pw told t wk->Calls Tryz.prog 88 #[.pointer (some ⟨pw k,0,none⟩)] wk fun e w'=>e= .returned (.string (strOfNums (vw r.list r.seen r.me)))/\Below wk.heap.size wk w'):=fun wk hwk=>hwk.any.wtext hk HE.out
 have HTW:Hid (zfj (vw r.list r.seen r.me)=jnB [[116,101,120,116],(strOfNums (vw r.list r.seen r.me)).data.toList]++[10]):=zoc _
 obtain⟨st,hst⟩:∃st,strOfNums (vw r.list r.seen r.me)=st:=⟨_,rfl⟩
 rw[hst]at HSZ HTX HTW
 rw[HTW.out]
 clear h hB he hst HTW
 go_enter Tryz.func87,Tryz.ntmps87
 go_wp2_with fail
 refine zfb (fun wk=>zyd R B wk) (fun i=>i==2||i==3||i==4) (fun i=>i==4) (fun wk=>zb8 base w0 S R D G pw told t wk/\zyd R B wk) (by kernel_rfl) (by kernel_rfl) (by kernel_rfl) (by kernel_rfl) (fun _ h=>h.2) ⟨HI.out.after (Below.refl _ _).drew,HB.out.after (Below.refl _ _).drew⟩ ?_
 refine zch (some 3) w0 (.pointer (some ⟨R,0,none⟩)) (.tmp 1) (.pointer (some ⟨B,0,none⟩)) (fun wk hwk ρ s1=> ?_) ?_
 ·obtain⟨c0,hlB⟩:=hwk
  go_simp
 go_big_quiet_op
 refine zch (some 4) w0 (.pointer (some ⟨pw k,0,none⟩)) (.tmp 0) (.pointer (some ⟨pw k,0,none⟩)) ?_ ?_
 ·intros;go_simp
 go_big_quiet_op
 refine zh8 (some 5) w0 rfl rfl rfl (fun uu=>uu= .string st) (fun _ wk=>zb8 base w0 S R D G pw told t wk/\zyd R B wk) (⟨_,rfl⟩) (fun _ _ h=>h.2) (fun wk hwk=> ?_) (fun u9 hu9=> ?_)
 ·generalize hA:Act.eval _=ρ
  have s4:ρ (.tmp 4)= .pointer (some ⟨pw k,0,none⟩):=by rw[<-hA];kernel_rfl
  have sf:ρ (.func 88)= .func (.func 88) #[] #[]:=by rw[<-hA];kernel_rfl
  clear hA
  go_simp
  refine(HTX.out wk hwk.1).mono ?_
  rintro e w7 ⟨rfl,hb⟩
  exact⟨_,rfl,rfl,hwk.1.after hb,hwk.2.after hb⟩
 subst hu9
 go_big_quiet_op
 refine zh8 (some 6) w0 rfl rfl rfl (fun uu=>∃E,uu= .slice (some ⟨E,0,none⟩) 2 2) (fun uu wk=>(zb8 base w0 S R D G pw told t wk/\zyd R B wk)/\zbs wk uu [⟨#[116,101,120,116]⟩,st]) (⟨.slice (some ⟨0,0,none⟩) 2 2,0,rfl⟩) (fun _ _ h=>h.1.2) (fun wk hwk=> ?_) (fun u9 hu9=> ?_)
 ·generalize hA:Act.eval _=ρ
  have s5:ρ (.tmp 5)= .string st:=by rw[<-hA];kernel_rfl
  have k1:ρ (.const (.string ⟨#[116,101,120,116]⟩))= .string ⟨#[116,101,120,116]⟩:=by rw[<-hA];kernel_rfl
  clear hA
  have hq1:=zqp wk ⟨#[116,101,120,116]⟩ st
  have hq2:=hwk.1.after (za2 wk (.cells #[.string ⟨#[116,101,120,116]⟩,.string st] 9))
  have hq3:=hwk.2.after (za2 wk (.cells #[.string ⟨#[116,101,120,116]⟩,.string st] 9))
  go_simp
  exact⟨⟨_,rfl⟩,⟨hq2,hq3⟩,hq1⟩
 obtain⟨E,rfl⟩:=hu9
 go_big_quiet_op
 refine zgv (some 7) w0 rfl rfl rfl rfl (fun uu=>uu= .tuple #[]) (fun _ wk=>zb8 base w0 S R D G pw (told++(jnB [[116,101,120,116],st.data.toList]++[10])) t wk) (⟨_,rfl⟩) (fun wk hwk=> ?_) (fun u9 hu9=> ?_)
 ·generalize hA:Act.eval _=ρ
  have s3:ρ (.tmp 3)= .pointer (some ⟨R,0,none⟩):=by rw[<-hA];kernel_rfl
  have s6:ρ (.tmp 6)= .slice (some ⟨E,0,none⟩) 2 2:=by rw[<-hA];kernel_rfl
  have sf:ρ (.func 49)= .func (.func 49) #[] #[]:=by rw[<-hA];kernel_rfl
  clear hA
  go_simp
  refine(hwk.1.1.saysL hwk.2 (by simp) (by simp) (by
   show _+(jnB [[116,101,120,116],st.data.toList]).length<=_
   rw[znr]
   have:=HSZ.out
   simp only[List.length_append,List.length_cons,List.length_nil,zav]
   omega)).mono ?_
  rintro e w7 ⟨rfl,h7⟩
  exact⟨_,rfl,rfl,h7⟩
 subst hu9
 go_big_quiet_op
 refine zhg (fun w6 h6=> ?_)
 have H6:=hid h6
 clear h6 HI HB
 go_wp2_with fail
 go_end0
 exact⟨rfl,H6.out⟩
theorem sawOpen(h:zb8 base w0 S R D G pw told t wk)(hB:zyd R B wk)(hk:k<4)(he:t.ws k=some r)(hz:told.length<=600000000):
 Calls Tryz.prog 89 (#[.pointer (some ⟨pw k,0,none⟩)]++ #[.pointer (some ⟨B,0,none⟩)]) wk fun e w'=>e= .returned (.tuple #[])/\zb8 base w0 S R D G pw (told++(zb3 r.opens++zpe)) t w':=by
 have HI:=hid h
 have HB:=hid hB
 have HE:=hid he
 have HOL:Hid (r.opens.length<=1000):=by
  show _<=_
  obtain⟨tk,_,hr⟩:=h.any
  have:=(zbg hr he).few
  omega
 have HOP:Hid (∀wk,zb8 base w0 S R D G pw told t wk->Calls Tryz.prog 90 #[.pointer (some ⟨pw k,0,none⟩)] wk fun e w'=>∃v',e= .returned v'/\zfx w' wk.heap.size v' r.opens/\Below wk.heap.size wk w'):=fun wk hwk=>hwk.any.wopen hk HE.out
 clear h hB he
 go_enter Tryz.func89,Tryz.ntmps89
 go_wp2_with fail
 refine zfb (fun wk=>zyd R B wk) (fun i=>i==2||i==3) (fun i=>i==3) (fun wk=>zb8 base w0 S R D G pw told t wk/\zyd R B wk) (by kernel_rfl) (by kernel_rfl) (by kernel_rfl) (by kernel_rfl) (fun _ h=>h.2) ⟨HI.out.after (Below.refl _ _).drew,HB.out.after (Below.refl _ _).drew⟩ ?_
 refine zch (some 3) w0 (.pointer (some ⟨R,0,none⟩)) (.tmp 1) (.pointer (some ⟨B,0,none⟩)) (fun wk hwk ρ s1=> ?_) ?_
 ·obtain⟨c0,hlB⟩:=hwk
  go_simp
 go_big_quiet_op
 refine zch (some 4) w0 (.pointer (some ⟨pw k,0,none⟩)) (.tmp 0) (.pointer (some ⟨pw k,0,none⟩)) ?_ ?_
 ·intros;go_simp
 go_big_quiet_op
 refine zh8 (some 5) w0 rfl rfl rfl (fun uu=>∃va vc,uu= .slice va r.opens.length vc) (fun uu wk=>zyd R B wk/\∃w1,zb8 base w0 S R D G pw told t w1/\Below w1.heap.size w1 wk/\zfx wk w1.heap.size uu r.opens) (⟨.slice none r.opens.length 0,_,_,rfl⟩) (fun _ _ h=>h.1) (fun wk hwk=> ?_) (fun u9 hu9=> ?_)
 ·generalize hA:Act.eval _=ρ
  have s4:ρ (.tmp 4)= .pointer (some ⟨pw k,0,none⟩):=by rw[<-hA];kernel_rfl
  have sf:ρ (.func 90)= .func (.func 90) #[] #[]:=by rw[<-hA];kernel_rfl
  clear hA
  go_simp
  refine(HOP.out wk hwk.1).mono ?_
  rintro e w7 ⟨v7,rfl,ho,hb⟩
  obtain⟨va,vc,hv⟩:=qg8 ho.dlst
  exact⟨_,rfl,⟨va,vc,hv⟩,hwk.2.after hb,wk,hwk.1,hb,ho⟩
 obtain⟨va,vc,rfl⟩:=hu9
 go_big_quiet_op
 refine zgv (some 6) w0 rfl rfl rfl rfl (fun uu=>uu= .tuple #[]) (fun _ wk=>zb8 base w0 S R D G pw (told++(zb3 r.opens++zpe)) t wk) (⟨_,rfl⟩) (fun wk hwk=> ?_) (fun u9 hu9=> ?_)
 ·generalize hA:Act.eval _=ρ
  have s3:ρ (.tmp 3)= .pointer (some ⟨R,0,none⟩):=by rw[<-hA];kernel_rfl
  have s5:ρ (.tmp 5)= .slice va r.opens.length vc:=by rw[<-hA];kernel_rfl
  have sf:ρ (.func 81)= .func (.func 81) #[] #[]:=by rw[<-hA];kernel_rfl
  clear hA
  go_simp
  obtain⟨_,w1,h1,hb1,ho1⟩:=hwk
  refine(h1.lists hb1 ho1 HOL.out (by omega)).mono ?_
  rintro e w7 ⟨rfl,h7⟩
  exact⟨_,rfl,rfl,h7⟩
 subst hu9
 go_big_quiet_op
 refine zhg (fun w6 h6=> ?_)
 have H6:=hid h6
 clear h6 HI HB
 go_wp2_with fail
 go_end0
 exact⟨rfl,H6.out⟩
theorem zrf{n:Int}(he:t.ws n=none):zhv pw (zbo t) n= .pointer none:=by
 unfold zhv
 by_cases hw:wrB n=true
 ·rw[if_pos hw]
  obtain⟨k,rfl,hk⟩:=zc1 hw
  have:zbo t ((k:Int).toNat)=false:=by unfold zbo;simp[he]
  rw[this]
  rfl
 rw[if_neg hw]
theorem zre(hk:k<4)(he:t.ws k=some r):zhv pw (zbo t) k= .pointer (some ⟨pw k,0,none⟩):=by
 unfold zhv
 have hw:wrB (k:Int)=true:=by simp[wrB];omega
 rw[if_pos hw]
 have:zbo t ((k:Int).toNat)=true:=by unfold zbo;simp[he]
 rw[this]
 rfl
theorem qej{B:Nat}(h:zb8 base w0 S R D G pw told t wk)(hB:zyd R B wk)(n:Int)(hz:told.length<=600000000):
 Calls Tryz.prog 86 #[.pointer (some ⟨R,0,none⟩),.int .i64 n,.func (.func 87) #[] #[.pointer (some ⟨B,0,none⟩)]] wk fun e w'=>e= .returned (.tuple #[])/\zb8 base w0 S R D G pw (told++zi8 t n) t w':=by
 have HI:=hid h
 have HB:=hid hB
 obtain⟨c2,hR⟩:=h.cell
 cases he:t.ws n with
 |none=>
  have HE:Hid (zi8 t n=noW 5):=by show _=_;unfold zi8;rw[he]
  have HP:Hid (zhv pw (zbo t) n= .pointer none):=zrf he
  clear h hB he
  go_enter Tryz.func86,Tryz.ntmps86
  go_wp2_with fail
  refine(HI.out.any.writer n).mono ?_
  rintro e w5 ⟨rfl,hw5⟩
  rw[hw5,HP.out]
  clear hw5 w5 c2 hR
  go_wp2_with fail
  refine(HI.out.nos 5 (no_in zgj) (by omega)).mono ?_
  rintro e w6 ⟨rfl,h6⟩
  have H6:Hid (zb8 base w0 S R D G pw (told++zi8 t n) t w6):=by show zb8 _ _ _ _ _ _ _ _ _ _;rw[HE.out];exact h6
  clear h6 HI
  go_wp2_with fail
  (try simp only[Exit.inBlock,Exit.then]);refine bodyPost_ret (results_none rfl _ _ _) rfl ?_
  exact⟨rfl,H6.out⟩
 |some r=>
  obtain⟨k,rfl,hk⟩:∃k:Nat,n=k/\k<4:=zc1 (h.ti.is_here he).2
  have HE:Hid (zi8 t k=zfj (vw r.list r.seen r.me)):=by show _=_;unfold zi8;rw[he]
  have HS:=hid he
  have HP:Hid (zhv pw (zbo t) k= .pointer (some ⟨pw k,0,none⟩)):=zre hk he
  clear h hB he
  go_enter Tryz.func86,Tryz.ntmps86
  go_wp2_with fail
  refine(HI.out.any.writer k).mono ?_
  rintro e w5 ⟨rfl,hw5⟩
  rw[hw5,HP.out]
  clear hw5 w5 c2 hR
  go_wp2_with fail
  refine(sawText HI.out HB.out hk HS.out (by omega)).mono ?_
  rintro e w6 ⟨rfl,h6⟩
  have H6:Hid (zb8 base w0 S R D G pw (told++zi8 t k) t w6):=by show zb8 _ _ _ _ _ _ _ _ _ _;rw[HE.out];exact h6
  clear h6 HI
  go_wp2_with fail
  go_end0
  exact⟨rfl,H6.out⟩
theorem qek{B:Nat}(h:zb8 base w0 S R D G pw told t wk)(hB:zyd R B wk)(n:Int)(hz:told.length<=600000000):
 Calls Tryz.prog 86 #[.pointer (some ⟨R,0,none⟩),.int .i64 n,.func (.func 89) #[] #[.pointer (some ⟨B,0,none⟩)]] wk fun e w'=>e= .returned (.tuple #[])/\zb8 base w0 S R D G pw (told++zho t n) t w':=by
 have HI:=hid h
 have HB:=hid hB
 obtain⟨c2,hR⟩:=h.cell
 cases he:t.ws n with
 |none=>
  have HE:Hid (zho t n=noW 5):=by show _=_;unfold zho;rw[he]
  have HP:Hid (zhv pw (zbo t) n= .pointer none):=zrf he
  clear h hB he
  go_enter Tryz.func86,Tryz.ntmps86
  go_wp2_with fail
  refine(HI.out.any.writer n).mono ?_
  rintro e w5 ⟨rfl,hw5⟩
  rw[hw5,HP.out]
  clear hw5 w5 c2 hR
  go_wp2_with fail
  refine(HI.out.nos 5 (no_in zgj) (by omega)).mono ?_
  rintro e w6 ⟨rfl,h6⟩
  have H6:Hid (zb8 base w0 S R D G pw (told++zho t n) t w6):=by show zb8 _ _ _ _ _ _ _ _ _ _;rw[HE.out];exact h6
  clear h6 HI
  go_wp2_with fail
  (try simp only[Exit.inBlock,Exit.then]);refine bodyPost_ret (results_none rfl _ _ _) rfl ?_
  exact⟨rfl,H6.out⟩
 |some r=>
  obtain⟨k,rfl,hk⟩:∃k:Nat,n=k/\k<4:=zc1 (h.ti.is_here he).2
  have HE:Hid (zho t k=zb3 r.opens++zpe):=by show _=_;unfold zho;rw[he]
  have HS:=hid he
  have HP:Hid (zhv pw (zbo t) k= .pointer (some ⟨pw k,0,none⟩)):=zre hk he
  clear h hB he
  go_enter Tryz.func86,Tryz.ntmps86
  go_wp2_with fail
  refine(HI.out.any.writer k).mono ?_
  rintro e w5 ⟨rfl,hw5⟩
  rw[hw5,HP.out]
  clear hw5 w5 c2 hR
  go_wp2_with fail
  refine(sawOpen HI.out HB.out hk HS.out (by omega)).mono ?_
  rintro e w6 ⟨rfl,h6⟩
  have H6:Hid (zb8 base w0 S R D G pw (told++zho t k) t w6):=by show zb8 _ _ _ _ _ _ _ _ _ _;rw[HE.out];exact h6
  clear h6 HI
  go_wp2_with fail
  go_end0
  exact⟨rfl,H6.out⟩
def qei(t:Twn)(k:List UInt8)(n:Int):List UInt8×Twn:=
 if k=[116,101,120,116]then(zi8 t n,t)
 else if k=[111,112,101,110]then(zho t n,t)
 else if k=[116,104,101,110]then(zh9 t n,t)
 else if k=[106,111,105,110]then zc6 t ⟨1,n,0,0,⟨#[]⟩⟩
 else if k=[115,101,110,100]then zc6 t ⟨4,n,0,0,⟨#[]⟩⟩
 else if k=[104,101,97,114]then zc6 t ⟨5,n,0,0,⟨#[]⟩⟩
 else if k=[99,108,101,97,114]then zc6 t ⟨6,n,0,0,⟨#[]⟩⟩
 else if k=[108,101,97,118,101]then zc6 t ⟨7,n,0,0,⟨#[]⟩⟩
 else(zg6,t)
theorem zii(t:Twn)(k:List UInt8)(n:Int):zcj t k [n]=qei t k n:=by
 unfold zcj qei
 by_cases h0:k=[116,101,120,116]
 ·subst h0;simp
 by_cases h1:k=[111,112,101,110]
 ·subst h1;simp
 by_cases h2:k=[116,104,101,110]
 ·subst h2;simp
 by_cases h3:k=[106,111,105,110]
 ·subst h3;simp
 by_cases h4:k=[115,101,110,100]
 ·subst h4;simp
 by_cases h5:k=[104,101,97,114]
 ·subst h5;simp
 by_cases h6:k=[99,108,101,97,114]
 ·subst h6;simp
 by_cases h7:k=[108,101,97,118,101]
 ·subst h7;simp
 simp[h0,h1,h2,h3,h4,h5,h6,h7]
theorem zy8(h:zb8 base w0 S R D G pw told t wk)(k:List UInt8)(n:Int)(hz:told.length<=500000000):
 Calls Tryz.prog 55 #[.pointer (some ⟨R,0,none⟩),.string (bl k),.int .i64 n] wk fun e w'=>e= .returned (.tuple #[])/\∃pw',zb8 base w0 S R D G pw' (told++(zcj t k [n]).1) (zcj t k [n]).2 w':=by
 have HI:Hid (zb8 base w0 S R D G pw told t (wk.alloc (.cells #[.pointer (some ⟨R,0,none⟩)] 25))):=h.after (za2 _ _)
 have HB:Hid (zyd R wk.heap.size (wk.alloc (.cells #[.pointer (some ⟨R,0,none⟩)] 25))):=⟨by simp[go_sem],by simp⟩
 have HEQ:Hid (∀wd:List UInt8,k=wd->((bl k).toList==wd)=true):=fun wd e=>by rw[zbi,e];simp
 have HNE:Hid (∀wd:List UInt8,k≠wd->((bl k).toList==wd)=false):=fun wd e=>by rw[zbi];simp only[decide_eq_false_iff_not];exact fun e'=>e (zpo e')
 have hmf:∀(fn:Fn) (first cap:Array Value) (w:World),(Instr.makeFunc fn first cap).run Tryz.prog w= .ok (.func fn first cap) w:=fun _ _ _ _=>rfl
 obtain⟨sk,hsk⟩:∃sk,bl k=sk:=⟨_,rfl⟩
 rw[hsk]at HEQ HNE⊢
 clear h hsk
 by_cases hc:k=[116,101,120,116]
 ·have hb0:(sk.toList==([116,101,120,116]:List UInt8))=true:=HEQ.out _ hc
  have HV:Hid (zcj t k [n]=(zi8 t n,t)):=by
   show _=_
   rw[zii]
   unfold qei
   rw[if_pos hc]
  clear hc
  go_enter Tryz.func55,Tryz.ntmps55
  go_wp2_with fail
  refine(qej HI.out HB.out n (by omega)).mono ?_
  rintro e w6 ⟨rfl,h6⟩
  have H6:Hid (∃pw',zb8 base w0 S R D G pw' (told++(zcj t k [n]).1) (zcj t k [n]).2 w6):=by rw[HV.out];exact⟨pw,h6⟩
  clear h6 HI HB
  go_wp2_with fail
  go_end0
  exact⟨rfl,H6.out⟩
 have hn0:k≠[116,101,120,116]:=hc
 clear hc
 by_cases hc:k=[111,112,101,110]
 ·have hb0:(sk.toList==([116,101,120,116]:List UInt8))=false:=HNE.out _ hn0
  have hb1:(sk.toList==([111,112,101,110]:List UInt8))=true:=HEQ.out _ hc
  have HV:Hid (zcj t k [n]=(zho t n,t)):=by
   show _=_
   rw[zii]
   unfold qei
   rw[if_neg hn0,if_pos hc]
  clear hn0 hc
  go_enter Tryz.func55,Tryz.ntmps55
  go_wp2_with fail
  refine(qek HI.out HB.out n (by omega)).mono ?_
  rintro e w6 ⟨rfl,h6⟩
  have H6:Hid (∃pw',zb8 base w0 S R D G pw' (told++(zcj t k [n]).1) (zcj t k [n]).2 w6):=by rw[HV.out];exact⟨pw,h6⟩
  clear h6 HI HB
  go_wp2_with fail
  go_end0
  exact⟨rfl,H6.out⟩
 have hn1:k≠[111,112,101,110]:=hc
 clear hc
 by_cases hc:k=[116,104,101,110]
 ·have hb0:(sk.toList==([116,101,120,116]:List UInt8))=false:=HNE.out _ hn0
  have hb1:(sk.toList==([111,112,101,110]:List UInt8))=false:=HNE.out _ hn1
  have hb2:(sk.toList==([116,104,101,110]:List UInt8))=true:=HEQ.out _ hc
  have HV:Hid (zcj t k [n]=(zh9 t n,t)):=by
   show _=_
   rw[zii]
   unfold qei
   rw[if_neg hn0,if_neg hn1,if_pos hc]
  clear hn0 hn1 hc
  go_enter Tryz.func55,Tryz.ntmps55
  go_wp2_with fail
  refine(then_lk HI.out n (by omega)).mono ?_
  rintro e w6 ⟨rfl,h6⟩
  have H6:Hid (∃pw',zb8 base w0 S R D G pw' (told++(zcj t k [n]).1) (zcj t k [n]).2 w6):=by rw[HV.out];exact⟨pw,h6⟩
  clear h6 HI HB
  go_wp2_with fail
  go_end0
  exact⟨rfl,H6.out⟩
 have hn2:k≠[116,104,101,110]:=hc
 clear hc
 by_cases hc:k=[106,111,105,110]
 ·have hb0:(sk.toList==([116,101,120,116]:List UInt8))=false:=HNE.out _ hn0
  have hb1:(sk.toList==([111,112,101,110]:List UInt8))=false:=HNE.out _ hn1
  have hb2:(sk.toList==([116,104,101,110]:List UInt8))=false:=HNE.out _ hn2
  have hb3:(sk.toList==([106,111,105,110]:List UInt8))=true:=HEQ.out _ hc
  have HV:Hid (zcj t k [n]=zc6 t ⟨1,n,0,0,⟨#[]⟩⟩):=by
   show _=_
   rw[zii]
   unfold qei
   rw[if_neg hn0,if_neg hn1,if_neg hn2,if_pos hc]
  clear hn0 hn1 hn2 hc
  go_enter Tryz.func55,Tryz.ntmps55
  go_wp2_with fail
  refine(zkh HI.out ⟨1,n,0,0,⟨#[]⟩⟩ (by omega)).mono ?_
  rintro e w6 ⟨rfl,h6⟩
  have H6:Hid (∃pw',zb8 base w0 S R D G pw' (told++(zcj t k [n]).1) (zcj t k [n]).2 w6):=by rw[HV.out];exact h6
  clear h6 HI HB
  go_wp2_with fail
  go_end0
  exact⟨rfl,H6.out⟩
 have hn3:k≠[106,111,105,110]:=hc
 clear hc
 by_cases hc:k=[115,101,110,100]
 ·have hb0:(sk.toList==([116,101,120,116]:List UInt8))=false:=HNE.out _ hn0
  have hb1:(sk.toList==([111,112,101,110]:List UInt8))=false:=HNE.out _ hn1
  have hb2:(sk.toList==([116,104,101,110]:List UInt8))=false:=HNE.out _ hn2
  have hb3:(sk.toList==([106,111,105,110]:List UInt8))=false:=HNE.out _ hn3
  have hb4:(sk.toList==([115,101,110,100]:List UInt8))=true:=HEQ.out _ hc
  have HV:Hid (zcj t k [n]=zc6 t ⟨4,n,0,0,⟨#[]⟩⟩):=by
   show _=_
   rw[zii]
   unfold qei
   rw[if_neg hn0,if_neg hn1,if_neg hn2,if_neg hn3,if_pos hc]
  clear hn0 hn1 hn2 hn3 hc
  go_enter Tryz.func55,Tryz.ntmps55
  go_wp2_with fail
  refine(zkh HI.out ⟨4,n,0,0,⟨#[]⟩⟩ (by omega)).mono ?_
  rintro e w6 ⟨rfl,h6⟩
  have H6:Hid (∃pw',zb8 base w0 S R D G pw' (told++(zcj t k [n]).1) (zcj t k [n]).2 w6):=by rw[HV.out];exact h6
  clear h6 HI HB
  go_wp2_with fail
  go_end0
  exact⟨rfl,H6.out⟩
 have hn4:k≠[115,101,110,100]:=hc
 clear hc
 by_cases hc:k=[104,101,97,114]
 ·have hb0:(sk.toList==([116,101,120,116]:List UInt8))=false:=HNE.out _ hn0
  have hb1:(sk.toList==([111,112,101,110]:List UInt8))=false:=HNE.out _ hn1
  have hb2:(sk.toList==([116,104,101,110]:List UInt8))=false:=HNE.out _ hn2
  have hb3:(sk.toList==([106,111,105,110]:List UInt8))=false:=HNE.out _ hn3
  have hb4:(sk.toList==([115,101,110,100]:List UInt8))=false:=HNE.out _ hn4
  have hb5:(sk.toList==([104,101,97,114]:List UInt8))=true:=HEQ.out _ hc
  have HV:Hid (zcj t k [n]=zc6 t ⟨5,n,0,0,⟨#[]⟩⟩):=by
   show _=_
   rw[zii]
   unfold qei
   rw[if_neg hn0,if_neg hn1,if_neg hn2,if_neg hn3,if_neg hn4,if_pos hc]
  clear hn0 hn1 hn2 hn3 hn4 hc
  go_enter Tryz.func55,Tryz.ntmps55
  go_wp2_with fail
  refine(zkh HI.out ⟨5,n,0,0,⟨#[]⟩⟩ (by omega)).mono ?_
  rintro e w6 ⟨rfl,h6⟩
  have H6:Hid (∃pw',zb8 base w0 S R D G pw' (told++(zcj t k [n]).1) (zcj t k [n]).2 w6):=by rw[HV.out];exact h6
  clear h6 HI HB
  go_wp2_with fail
  go_end0
  exact⟨rfl,H6.out⟩
 have hn5:k≠[104,101,97,114]:=hc
 clear hc
 by_cases hc:k=[99,108,101,97,114]
 ·have hb0:(sk.toList==([116,101,120,116]:List UInt8))=false:=HNE.out _ hn0
  have hb1:(sk.toList==([111,112,101,110]:List UInt8))=false:=HNE.out _ hn1
  have hb2:(sk.toList==([116,104,101,110]:List UInt8))=false:=HNE.out _ hn2
  have hb3:(sk.toList==([106,111,105,110]:List UInt8))=false:=HNE.out _ hn3
  have hb4:(sk.toList==([115,101,110,100]:List UInt8))=false:=HNE.out _ hn4
  have hb5:(sk.toList==([104,101,97,114]:List UInt8))=false:=HNE.out _ hn5
  have hb6:(sk.toList==([99,108,101,97,114]:List UInt8))=true:=HEQ.out _ hc
  have HV:Hid (zcj t k [n]=zc6 t ⟨6,n,0,0,⟨#[]⟩⟩):=by
   show _=_
   rw[zii]
   unfold qei
   rw[if_neg hn0,if_neg hn1,if_neg hn2,if_neg hn3,if_neg hn4,if_neg hn5,if_pos hc]
  clear hn0 hn1 hn2 hn3 hn4 hn5 hc
  go_enter Tryz.func55,Tryz.ntmps55
  go_wp2_with fail
  refine(zkh HI.out ⟨6,n,0,0,⟨#[]⟩⟩ (by omega)).mono ?_
  rintro e w6 ⟨rfl,h6⟩
  have H6:Hid (∃pw',zb8 base w0 S R D G pw' (told++(zcj t k [n]).1) (zcj t k [n]).2 w6):=by rw[HV.out];exact h6
  clear h6 HI HB
  go_wp2_with fail
  go_end0
  exact⟨rfl,H6.out⟩
 have hn6:k≠[99,108,101,97,114]:=hc
 clear hc
 by_cases hc:k=[108,101,97,118,101]
 ·have hb0:(sk.toList==([116,101,120,116]:List UInt8))=false:=HNE.out _ hn0
  have hb1:(sk.toList==([111,112,101,110]:List UInt8))=false:=HNE.out _ hn1
  have hb2:(sk.toList==([116,104,101,110]:List UInt8))=false:=HNE.out _ hn2
  have hb3:(sk.toList==([106,111,105,110]:List UInt8))=false:=HNE.out _ hn3
  have hb4:(sk.toList==([115,101,110,100]:List UInt8))=false:=HNE.out _ hn4
  have hb5:(sk.toList==([104,101,97,114]:List UInt8))=false:=HNE.out _ hn5
  have hb6:(sk.toList==([99,108,101,97,114]:List UInt8))=false:=HNE.out _ hn6
  have hb7:(sk.toList==([108,101,97,118,101]:List UInt8))=true:=HEQ.out _ hc
  have HV:Hid (zcj t k [n]=zc6 t ⟨7,n,0,0,⟨#[]⟩⟩):=by
   show _=_
   rw[zii]
   unfold qei
   rw[if_neg hn0,if_neg hn1,if_neg hn2,if_neg hn3,if_neg hn4,if_neg hn5,if_neg hn6,if_pos hc]
  clear hn0 hn1 hn2 hn3 hn4 hn5 hn6 hc
  go_enter Tryz.func55,Tryz.ntmps55
  go_wp2_with fail
  refine(zkh HI.out ⟨7,n,0,0,⟨#[]⟩⟩ (by omega)).mono ?_
  rintro e w6 ⟨rfl,h6⟩
  have H6:Hid (∃pw',zb8 base w0 S R D G pw' (told++(zcj t k [n]).1) (zcj t k [n]).2 w6):=by rw[HV.out];exact h6
  clear h6 HI HB
  go_wp2_with fail
  go_end0
  exact⟨rfl,H6.out⟩
 have hn7:k≠[108,101,97,118,101]:=hc
 clear hc
 have hb0:(sk.toList==([116,101,120,116]:List UInt8))=false:=HNE.out _ hn0
 have hb1:(sk.toList==([111,112,101,110]:List UInt8))=false:=HNE.out _ hn1
 have hb2:(sk.toList==([116,104,101,110]:List UInt8))=false:=HNE.out _ hn2
 have hb3:(sk.toList==([106,111,105,110]:List UInt8))=false:=HNE.out _ hn3
 have hb4:(sk.toList==([115,101,110,100]:List UInt8))=false:=HNE.out _ hn4
 have hb5:(sk.toList==([104,101,97,114]:List UInt8))=false:=HNE.out _ hn5
 have hb6:(sk.toList==([99,108,101,97,114]:List UInt8))=false:=HNE.out _ hn6
 have hb7:(sk.toList==([108,101,97,118,101]:List UInt8))=false:=HNE.out _ hn7
 have HV:Hid (zcj t k [n]=(zg6,t)):=by
  show _=_
  rw[zii]
  unfold qei
  rw[if_neg hn0,if_neg hn1,if_neg hn2,if_neg hn3,if_neg hn4,if_neg hn5,if_neg hn6,if_neg hn7]
 clear hn0 hn1 hn2 hn3 hn4 hn5 hn6 hn7
 go_enter Tryz.func55,Tryz.ntmps55
 go_wp2_with fail
 refine(HI.out.whats (by omega)).mono ?_
 rintro e w6 ⟨rfl,h6⟩
 have H6:Hid (∃pw',zb8 base w0 S R D G pw' (told++(zcj t k [n]).1) (zcj t k [n]).2 w6):=by rw[HV.out];exact⟨pw,h6⟩
 clear h6 HI HB
 go_wp2_with fail
 go_end0
 exact⟨rfl,H6.out⟩
end
section
variable {base R D G:Nat} {pw:Nat->Nat} {w0 wk w':World} {S:Nat->Prop} {told:List UInt8} {t:Twn}
theorem zb8.leasts(h:zb8 base w0 S R D G pw told t wk):Calls Tryz.prog 84 #[.pointer (some ⟨G,0,none⟩)] wk fun e w'=>e= .returned (.int .i64 (zap t.b))/\Below wk.heap.size wk w':=by
 obtain⟨tk,h1,h2⟩:=h.any
 obtain⟨T,dv,lv,hl,_⟩:=h1.log
 exact zzn hl h2.ti.good
theorem zb8.numbersSaid(h:zb8 base w0 S R D G pw told t wk)(wd:ByteArray){v:Value}{zs:List Int}(hv:znj wk v zs)(hi:∀z∈zs,inI z)(hn:zs.length<=1000)(hw:wd.size<=100)(hz:told.length<=800000000):
 Calls Tryz.prog 68 #[.pointer (some ⟨R,0,none⟩),.string wd,v] wk fun e w'=>e= .returned (.tuple #[])/\zb8 base w0 S R D G pw (told++((wd.data.toList++zdz zs)++[10])) t w':=
 h.tells (Below.refl _ _) fun _ a1 a2 _ a4=>zi9 a1 a2 a4 wd hv hi hn hw hz
theorem ilst_two(w:World)(y z:Int):znj (w.alloc (.cells #[.int .i64 y,.int .i64 z] 3)) (.slice (some ⟨w.heap.size,0,none⟩) 2 2) [y,z]:=
 ⟨_,2,2,rfl,rfl,Nat.le_refl _,.inr ⟨_,0,rfl,by simp,fun i hi=>by
  have h2:i<2:=hi
  rcases(show i=0\/i=1 by omega)with rfl|rfl<;>simp[go_sem]⟩⟩
def all0(t:Twn)(k:List UInt8):List UInt8×Twn:=
 if k=[116,101,120,116]then(zfj (zdj t.b.chars),t)
 else if k=[108,111,103]then(zb3 t.b.ds++zpe,t)
 else if k=[115,101,116,116,108,101]then(okW,zep t)
 else if k=[108,101,97,115,116]then(ze0 (zap t.b) t.b.len,t)
 else(zg6,t)
theorem zpk(t:Twn)(k:List UInt8):zcj t k []=all0 t k:=by
 unfold zcj all0
 by_cases h0:k=[116,101,120,116]
 ·subst h0;simp
 by_cases h1:k=[108,111,103]
 ·subst h1;simp
 by_cases h2:k=[115,101,116,116,108,101]
 ·subst h2;simp
 by_cases h3:k=[108,101,97,115,116]
 ·subst h3;simp
 simp[h0,h1,h2,h3]
theorem zvl(t:Twn)(k:List UInt8)(a b c:Int):zcj t k [a,b,c]=if k=[116,97,107,101]then zc6 t ⟨3,a,b,c,⟨#[]⟩⟩else(zg6,t):=by
 unfold zcj
 by_cases h:k=[116,97,107,101]
 ·subst h;simp
 simp[h]
theorem zy9(h:zb8 base w0 S R D G pw told t wk)(k:List UInt8)(hz:told.length<=500000000):
 Calls Tryz.prog 54 #[.pointer (some ⟨R,0,none⟩),.string (bl k)] wk fun e w'=>e= .returned (.tuple #[])/\∃pw',zb8 base w0 S R D G pw' (told++(zcj t k []).1) (zcj t k []).2 w':=by
 have HI:=hid h
 have HEQ:Hid (∀wd:List UInt8,k=wd->((bl k).toList==wd)=true):=fun wd e=>by rw[zbi,e];simp
 have HNE:Hid (∀wd:List UInt8,k≠wd->((bl k).toList==wd)=false):=fun wd e=>by rw[zbi];simp only[decide_eq_false_iff_not];exact fun e'=>e (zpo e')
 obtain⟨sk,hsk⟩:∃sk,bl k=sk:=⟨_,rfl⟩
 obtain⟨c2,hR⟩:=h.cell
 obtain⟨c3,hD⟩:=h.log
 rw[hsk]at HEQ HNE⊢
 clear h hsk
 by_cases hc:k=[116,101,120,116]
 ·have hb0:(sk.toList==([116,101,120,116]:List UInt8))=true:=HEQ.out _ hc
  have HV:Hid (zcj t k []=(zfj (zdj t.b.chars),t)):=by
   show _=_
   rw[zpk]
   unfold all0
   rw[if_pos hc]
  clear hc
  have HSZ:Hid ((strOfNums (zdj t.b.chars)).size<=200):=by
   show _<=_
   rw[zbn]
   unfold zdj
   rw[List.length_map]
   have:=List.length_filter_le zgg t.b.chars
   have:=zay (b:=t.b)
   omega
  have HTX:=hid HI.out.any.text
  have HTW:Hid (zfj (zdj t.b.chars)=jnB [[116,101,120,116],(strOfNums (zdj t.b.chars)).data.toList]++[10]):=zoc _
  rw[HTW.out]at HV
  obtain⟨st,hst⟩:∃st,strOfNums (zdj t.b.chars)=st:=⟨_,rfl⟩
  rw[hst]at HSZ HTX HV
  clear hst HTW
  go_enter Tryz.func54,Tryz.ntmps54
  go_wp2_with fail
  clear c2 hR c3 hD
  refine HTX.out.mono ?_
  rintro e w5 ⟨rfl,hb⟩
  have H5:=hid (HI.out.after hb)
  clear hb HI HTX
  go_wp2_with fail
  refine(H5.out.says2 ⟨#[116,101,120,116]⟩ st (by have:=HSZ.out;show _+(4+_)<=_;omega)).mono ?_
  rintro e w6 ⟨rfl,h6⟩
  have H6:Hid (∃pw',zb8 base w0 S R D G pw' (told++(zcj t k []).1) (zcj t k []).2 w6):=by rw[HV.out];exact⟨pw,h6⟩
  clear h6 H5
  go_wp2_with fail
  go_end0
  exact⟨rfl,H6.out⟩
 have hn0:k≠[116,101,120,116]:=hc
 clear hc
 by_cases hc:k=[108,111,103]
 ·have hb0:(sk.toList==([116,101,120,116]:List UInt8))=false:=HNE.out _ hn0
  have hb1:(sk.toList==([108,111,103]:List UInt8))=true:=HEQ.out _ hc
  have HV:Hid (zcj t k []=(zb3 t.b.ds++zpe,t)):=by
   show _=_
   rw[zpk]
   unfold all0
   rw[if_neg hn0,if_pos hc]
  clear hn0 hc
  have HSM:Hid (t.b.ds.length<=1000):=by show _<=_;have:=HI.out.ti.good.small;omega
  go_enter Tryz.func54,Tryz.ntmps54
  go_wp2_with fail
  clear c2 hR c3 hD
  refine(qf2 HI.out).mono ?_
  rintro e w5 ⟨lv,rfl,ho,hb⟩
  have HO:=hid ho
  have HB:=hid hb
  obtain⟨la,lc,rfl⟩:=qg8 ho.dlst
  clear ho hb
  go_wp2_with fail
  refine(HI.out.lists HB.out HO.out HSM.out (by omega)).mono ?_
  rintro e w6 ⟨rfl,h6⟩
  have H6:Hid (∃pw',zb8 base w0 S R D G pw' (told++(zcj t k []).1) (zcj t k []).2 w6):=by rw[HV.out];exact⟨pw,h6⟩
  clear h6 HI
  go_wp2_with fail
  go_end0
  exact⟨rfl,H6.out⟩
 have hn1:k≠[108,111,103]:=hc
 clear hc
 by_cases hc:k=[115,101,116,116,108,101]
 ·have hb0:(sk.toList==([116,101,120,116]:List UInt8))=false:=HNE.out _ hn0
  have hb1:(sk.toList==([108,111,103]:List UInt8))=false:=HNE.out _ hn1
  have hb2:(sk.toList==([115,101,116,116,108,101]:List UInt8))=true:=HEQ.out _ hc
  have HV:Hid (zcj t k []=(okW,zep t)):=by
   show _=_
   rw[zpk]
   unfold all0
   rw[if_neg hn0,if_neg hn1,if_pos hc]
  clear hn0 hn1 hc
  go_enter Tryz.func54,Tryz.ntmps54
  go_wp2_with fail
  clear c2 hR c3 hD
  refine HI.out.settles.mono ?_
  rintro e w5 ⟨rfl,h5⟩
  have H5:=hid h5
  clear h5 HI
  go_wp2_with fail
  refine(H5.out.says ⟨#[111,107]⟩ (by show _+2<=_;omega)).mono ?_
  rintro e w6 ⟨rfl,h6⟩
  have H6:Hid (∃pw',zb8 base w0 S R D G pw' (told++(zcj t k []).1) (zcj t k []).2 w6):=by rw[HV.out];exact⟨pw,h6⟩
  clear h6 H5
  go_wp2_with fail
  go_end0
  exact⟨rfl,H6.out⟩
 have hn2:k≠[115,101,116,116,108,101]:=hc
 clear hc
 by_cases hc:k=[108,101,97,115,116]
 ·have hb0:(sk.toList==([116,101,120,116]:List UInt8))=false:=HNE.out _ hn0
  have hb1:(sk.toList==([108,111,103]:List UInt8))=false:=HNE.out _ hn1
  have hb2:(sk.toList==([115,101,116,116,108,101]:List UInt8))=false:=HNE.out _ hn2
  have hb3:(sk.toList==([108,101,97,115,116]:List UInt8))=true:=HEQ.out _ hc
  have HV:Hid (zcj t k []=(ze0 (zap t.b) t.b.len,t)):=by
   show _=_
   rw[zpk]
   unfold all0
   rw[if_neg hn0,if_neg hn1,if_neg hn2,if_pos hc]
  clear hn0 hn1 hn2 hc
  clear c2 hR c3 hD
  have hG:=HI.out.ti.good
  have hle:=zfp t.b
  have hsm:=hG.small
  have hge:0<=zap t.b:=zgz (by show(0:Int)<=(t.b.ds.length:Int);omega) (fun w _ _=>(hG.said w).1)
  have hlen:t.b.len=(t.b.ds.length:Int):=rfl
  have HLS:Hid (∀wk,(∃tx,zb8 base w0 S R D G pw tx t wk)->Calls Tryz.prog 84 #[.pointer (some ⟨G,0,none⟩)] wk fun e w'=>e= .returned (.int .i64 (zap t.b))/\Below wk.heap.size wk w'):=fun wk ⟨_,h⟩=>h.leasts
  have HLE:Hid (∀wk,(∃tx,zb8 base w0 S R D G pw tx t wk)->Calls Tryz.prog 85 #[.pointer (some ⟨G,0,none⟩)] wk fun e w'=>e= .returned (.int .i64 t.b.ds.length)/\w'=wk):=fun wk ⟨_,h⟩=>h.any.len
  have HIN:Hid (∀z∈[zap t.b,(t.b.ds.length:Int)],inI z):=fun z hz=>by
   simp only[List.mem_cons,List.not_mem_nil,or_false]at hz
   unfold inI
   rcases hz with rfl|rfl<;>omega
  have HLW:Hid (ze0 (zap t.b) t.b.len=([108,101,97,115,116]++zdz [zap t.b,(t.b.ds.length:Int)])++[10]):=zx5 _ _
  rw[HLW.out]at HV
  obtain⟨lN,hlN⟩:∃lN:Int,(t.b.ds.length:Int)=lN:=⟨_,rfl⟩
  obtain⟨lL,hlL⟩:∃lL,zap t.b=lL:=⟨_,rfl⟩
  rw[hlN]at HLE HIN HV
  rw[hlL]at HLS HIN HV
  clear hG hle hsm hge hlen hlN hlL HLW
  go_enter Tryz.func54,Tryz.ntmps54
  go_wp2_with fail
  refine zbz (fun wk=>∃tx,zb8 base w0 S R D G pw tx t wk) (fun i=>i==17||i==18) (fun wk=>zb8 base w0 S R D G pw told t wk) (by kernel_rfl) (by kernel_rfl) (by kernel_rfl) (fun _ h=>⟨_,h⟩) (fun _ _ h hb=>h.after hb) (HI.out.after (Below.refl _ _).drew) ?_
  refine za1 (some 38) w0 (.pointer (some ⟨R,0,none⟩)) (.tmp 0) (.pointer (some ⟨R,0,none⟩)) ?_ ?_
  ·intros;go_simp
  go_big_quiet_op
  refine za1 (some 39) w0 (.pointer (some ⟨R,0,none⟩)) (.tmp 0) (.pointer (some ⟨R,0,none⟩)) ?_ ?_
  ·intros;go_simp
  go_big_quiet_op
  refine za1 (some 40) w0 (.pointer (some ⟨R,0,none⟩)) (.tmp 39) (.pointer (some ⟨R,0,none⟩)) ?_ ?_
  ·intros;go_simp
  go_big_quiet_op
  refine za1 (some 41) w0 (.pointer (some ⟨R,2,none⟩)) (.tmp 40) (.pointer (some ⟨R,0,none⟩)) ?_ ?_
  ·intros;go_simp
  go_big_quiet_op
  refine za1 (some 42) w0 (.pointer (some ⟨D,0,none⟩)) (.tmp 41) (.pointer (some ⟨R,2,none⟩)) (fun wk hwk ρ s41=> ?_) ?_
  ·obtain⟨tx,hx⟩:=hwk
   obtain⟨c2,hR⟩:=hx.cell
   go_simp
  go_big_quiet_op
  refine za1 (some 43) w0 (.pointer (some ⟨D,0,none⟩)) (.tmp 42) (.pointer (some ⟨D,0,none⟩)) ?_ ?_
  ·intros;go_simp
  go_big_quiet_op
  refine za1 (some 44) w0 (.pointer (some ⟨D,0,none⟩)) (.tmp 43) (.pointer (some ⟨D,0,none⟩)) ?_ ?_
  ·intros;go_simp
  go_big_quiet_op
  refine za1 (some 45) w0 (.pointer (some ⟨G,0,none⟩)) (.tmp 44) (.pointer (some ⟨D,0,none⟩)) (fun wk hwk ρ s44=> ?_) ?_
  ·obtain⟨tx,hx⟩:=hwk
   obtain⟨c3,hD⟩:=hx.log
   go_simp
  go_big_quiet_op
  refine wgb (some 46) w0 rfl (.int .i64 (lL)) rfl (by kernel_rfl) (fun wk hwk=> ?_) ?_
  ·generalize hA:Act.eval _=ρ
   have s45:ρ (.tmp 45)= .pointer (some ⟨G,0,none⟩):=by rw[<-hA];kernel_rfl
   have sf:ρ (.func 84)= .func (.func 84) #[] #[]:=by rw[<-hA];kernel_rfl
   clear hA
   unfold zcb
   go_simp
   exact HLS.out wk hwk
  go_big_quiet_op
  refine za1 (some 47) w0 (.pointer (some ⟨R,0,none⟩)) (.tmp 0) (.pointer (some ⟨R,0,none⟩)) ?_ ?_
  ·intros;go_simp
  go_big_quiet_op
  refine za1 (some 48) w0 (.pointer (some ⟨R,0,none⟩)) (.tmp 47) (.pointer (some ⟨R,0,none⟩)) ?_ ?_
  ·intros;go_simp
  go_big_quiet_op
  refine za1 (some 49) w0 (.pointer (some ⟨R,2,none⟩)) (.tmp 48) (.pointer (some ⟨R,0,none⟩)) ?_ ?_
  ·intros;go_simp
  go_big_quiet_op
  refine za1 (some 50) w0 (.pointer (some ⟨D,0,none⟩)) (.tmp 49) (.pointer (some ⟨R,2,none⟩)) (fun wk hwk ρ s49=> ?_) ?_
  ·obtain⟨tx,hx⟩:=hwk
   obtain⟨c2,hR⟩:=hx.cell
   go_simp
  go_big_quiet_op
  refine za1 (some 51) w0 (.pointer (some ⟨D,0,none⟩)) (.tmp 50) (.pointer (some ⟨D,0,none⟩)) ?_ ?_
  ·intros;go_simp
  go_big_quiet_op
  refine za1 (some 52) w0 (.pointer (some ⟨D,0,none⟩)) (.tmp 51) (.pointer (some ⟨D,0,none⟩)) ?_ ?_
  ·intros;go_simp
  go_big_quiet_op
  refine za1 (some 53) w0 (.pointer (some ⟨G,0,none⟩)) (.tmp 52) (.pointer (some ⟨D,0,none⟩)) (fun wk hwk ρ s52=> ?_) ?_
  ·obtain⟨tx,hx⟩:=hwk
   obtain⟨c3,hD⟩:=hx.log
   go_simp
  go_big_quiet_op
  refine wgb (some 54) w0 rfl (.int .i64 (lN)) rfl (by kernel_rfl) (fun wk hwk=> ?_) ?_
  ·generalize hA:Act.eval _=ρ
   have s53:ρ (.tmp 53)= .pointer (some ⟨G,0,none⟩):=by rw[<-hA];kernel_rfl
   have sf:ρ (.func 85)= .func (.func 85) #[] #[]:=by rw[<-hA];kernel_rfl
   clear hA
   unfold zcb
   go_simp
   exact(HLE.out wk hwk).mono (fun _ _ ⟨he,hw⟩=>⟨he,by rw[hw];exact Below.refl _ _⟩)
  go_big_quiet_op
  refine zbe (some 55) w0 rfl rfl rfl (fun u=>∃E,u= .slice (some ⟨E,0,none⟩) 2 2) (fun u wk=>zb8 base w0 S R D G pw told t wk/\znj wk u [lL,lN]) (⟨.slice (some ⟨0,0,none⟩) 2 2,0,rfl⟩) (fun _ _ h=>⟨_,h.1⟩) (fun _ _ _ h hb=>⟨h.1.after hb,h.2.below hb⟩) (fun wk hwk=> ?_) (fun u9 hu9=> ?_)
  ·generalize hA:Act.eval _=ρ
   have s46:ρ (.tmp 46)= .int .i64 (lL):=by rw[<-hA];kernel_rfl
   have s54:ρ (.tmp 54)= .int .i64 (lN):=by rw[<-hA];kernel_rfl
   clear hA
   have hq1:=ilst_two wk lL lN
   have hq2:=hwk.after (za2 wk (.cells #[.int .i64 lL,.int .i64 lN] 3))
   go_simp
   exact⟨⟨_,rfl⟩,hq2,hq1⟩
  obtain⟨E,rfl⟩:=hu9
  go_big_quiet_op
  refine zbe (some 56) w0 rfl rfl rfl (fun u=>u= .tuple #[]) (fun _ wk=>zb8 base w0 S R D G pw (told++(([108,101,97,115,116]++zdz [lL,lN])++[10])) t wk) (⟨_,rfl⟩) (fun _ _ h=>⟨_,h⟩) (fun _ _ _ h hb=>h.after hb) (fun wk hwk=> ?_) (fun u9 hu9=> ?_)
  ·generalize hA:Act.eval _=ρ
   have s38:ρ (.tmp 38)= .pointer (some ⟨R,0,none⟩):=by rw[<-hA];kernel_rfl
   have s55:ρ (.tmp 55)= .slice (some ⟨E,0,none⟩) 2 2:=by rw[<-hA];kernel_rfl
   have k2:ρ (.const (.string ⟨#[108,101,97,115,116]⟩))= .string ⟨#[108,101,97,115,116]⟩:=by rw[<-hA];kernel_rfl
   have sf:ρ (.func 68)= .func (.func 68) #[] #[]:=by rw[<-hA];kernel_rfl
   clear hA
   go_simp
   refine(hwk.1.numbersSaid ⟨#[108,101,97,115,116]⟩ hwk.2 HIN.out (by simp) (by decide) (by omega)).mono ?_
   rintro e w7 ⟨rfl,h7⟩
   exact⟨_,rfl,rfl,h7⟩
  subst hu9
  go_big_quiet_op
  refine zds (fun w6 h6=> ?_)
  have H6:Hid (∃pw',zb8 base w0 S R D G pw' (told++(zcj t k []).1) (zcj t k []).2 w6):=by rw[HV.out];exact⟨pw,h6⟩
  clear h6 HI
  go_wp2_with fail
  go_end0
  exact⟨rfl,H6.out⟩
 have hn3:k≠[108,101,97,115,116]:=hc
 clear hc
 have hb0:(sk.toList==([116,101,120,116]:List UInt8))=false:=HNE.out _ hn0
 have hb1:(sk.toList==([108,111,103]:List UInt8))=false:=HNE.out _ hn1
 have hb2:(sk.toList==([115,101,116,116,108,101]:List UInt8))=false:=HNE.out _ hn2
 have hb3:(sk.toList==([108,101,97,115,116]:List UInt8))=false:=HNE.out _ hn3
 have HV:Hid (zcj t k []=(zg6,t)):=by
  show _=_
  rw[zpk]
  unfold all0
  rw[if_neg hn0,if_neg hn1,if_neg hn2,if_neg hn3]
 clear hn0 hn1 hn2 hn3
 go_enter Tryz.func54,Tryz.ntmps54
 go_wp2_with fail
 clear c2 hR c3 hD
 refine(HI.out.whats (by omega)).mono ?_
 rintro e w6 ⟨rfl,h6⟩
 have H6:Hid (∃pw',zb8 base w0 S R D G pw' (told++(zcj t k []).1) (zcj t k []).2 w6):=by rw[HV.out];exact⟨pw,h6⟩
 clear h6 HI
 go_wp2_with fail
 go_end0
 exact⟨rfl,H6.out⟩
theorem ask_lk(h:zb8 base w0 S R D G pw told t wk)(k:List UInt8){v:Value}{zs:List Int}(hv:znj wk v zs)(hz:told.length<=400000000):
 Calls Tryz.prog 29 #[.pointer (some ⟨R,0,none⟩),.string (bl k),v] wk fun e w'=>e= .returned (.tuple #[])/\∃pw',zb8 base w0 S R D G pw' (told++(zcj t k zs).1) (zcj t k zs).2 w':=by
 have HI:=hid h
 obtain⟨va,vc,rfl⟩:=hv.len
 by_cases h0:zs.length=0
 ·obtain rfl:=List.length_eq_zero_iff.1 h0
  have HC:Hid (Calls Tryz.prog 54 #[.pointer (some ⟨R,0,none⟩),.string (bl k)] wk fun e w'=>e= .returned (.tuple #[])/\∃pw',zb8 base w0 S R D G pw' (told++(zcj t k []).1) (zcj t k []).2 w'):=zy9 h k (by omega)
  clear h hv h0
  simp only[List.length_nil]
  generalize bl k=sk at*
  go_enter Tryz.func29,Tryz.ntmps29
  go_wp2_with fail
  refine HC.out.mono ?_
  rintro e w6 ⟨rfl,h6⟩
  have H6:=hid h6
  clear h6 HC HI
  go_wp2_with fail
  go_end0
  exact⟨rfl,H6.out⟩
 by_cases h1:zs.length=1
 ·obtain⟨z,rfl⟩:=List.length_eq_one_iff.1 h1
  obtain⟨nb,no,rfl,hnb,hrow⟩:=znt hv (by simp)
  have c0:=hrow 0 (by simp)
  simp only[List.getElem_cons_zero,Nat.add_zero]at c0
  have HC:Hid (Calls Tryz.prog 55 #[.pointer (some ⟨R,0,none⟩),.string (bl k),.int .i64 z] wk fun e w'=>e= .returned (.tuple #[])/\∃pw',zb8 base w0 S R D G pw' (told++(zcj t k [z]).1) (zcj t k [z]).2 w'):=zy8 h k z (by omega)
  clear h hv h0 h1 hrow
  simp only[List.length_cons,List.length_nil,Nat.zero_add]
  generalize bl k=sk at*
  go_enter Tryz.func29,Tryz.ntmps29
  go_wp2_with fail
  clear c0 hnb
  refine HC.out.mono ?_
  rintro e w6 ⟨rfl,h6⟩
  have H6:=hid h6
  clear h6 HC HI
  go_wp2_with fail
  go_end0
  exact⟨rfl,H6.out⟩
 have HEQ:Hid (∀wd:List UInt8,k=wd->((bl k).toList==wd)=true):=fun wd e=>by rw[zbi,e];simp
 have HNE:Hid (∀wd:List UInt8,k≠wd->((bl k).toList==wd)=false):=fun wd e=>by rw[zbi];simp only[decide_eq_false_iff_not];exact fun e'=>e (zpo e')
 obtain⟨sk,hsk⟩:∃sk,bl k=sk:=⟨_,rfl⟩
 rw[hsk]at HEQ HNE⊢
 clear hsk
 by_cases h3:zs.length=3
 ·obtain⟨z0,z1,z2,rfl⟩:∃z0 z1 z2,zs=[z0,z1,z2]:=by
   match zs,h3 with
   |[a,b,c],_=>exact⟨a,b,c,rfl⟩
  obtain⟨nb,no,rfl,_,_⟩:=znt hv (by simp)
  simp only[List.length_cons,List.length_nil,Nat.zero_add]
  have HL:=hid hv
  by_cases hc:k=[116,97,107,101]
  ·have hb0:(sk.toList==([116,97,107,101]:List UInt8))=true:=HEQ.out _ hc
   have HV:Hid (zcj t k [z0,z1,z2]=zc6 t ⟨3,z0,z1,z2,⟨#[]⟩⟩):=by show _=_;rw[zvl,if_pos hc]
   clear h hv h0 h1 h3 hc
   have HCE:Hid (∀wk,(zb8 base w0 S R D G pw told t wk/\znj wk (.slice (some ⟨nb,no,none⟩) 3 vc) [z0,z1,z2])->(∀i (h:i<[z0,z1,z2].length),wk.cell? ⟨nb,no+i,none⟩=some (.int .i64 [z0,z1,z2][i]))/\nb<wk.heap.size):=fun wk hwk=>by
    obtain⟨b3,o3,e3,l3,r3⟩:=znt hwk.2 (by decide)
    cases e3
    exact⟨r3,l3⟩
   go_enter Tryz.func29,Tryz.ntmps29
   go_wp2_with fail
   refine zfb (fun wk=>zb8 base w0 S R D G pw told t wk/\znj wk (.slice (some ⟨nb,no,none⟩) 3 vc) [z0,z1,z2]) (fun i=>i==11) (fun i=>i==11) (fun wk=>zb8 base w0 S R D G pw told t wk/\znj wk (.slice (some ⟨nb,no,none⟩) 3 vc) [z0,z1,z2]) (by kernel_rfl) (by kernel_rfl) (by kernel_rfl) (by kernel_rfl) (fun _ h=>h) ⟨HI.out.after (Below.refl _ _).drew,HL.out.below (Below.refl _ _).drew⟩ ?_
   refine zch (some 33) w0 (.pointer (some ⟨R,0,none⟩)) (.tmp 0) (.pointer (some ⟨R,0,none⟩)) ?_ ?_
   ·intros;go_simp
   go_big_quiet_op
   refine zch (some 34) w0 (.slice (some ⟨nb,no,none⟩) 3 vc) (.tmp 2) (.slice (some ⟨nb,no,none⟩) 3 vc) ?_ ?_
   ·intros;go_simp
   go_big_quiet_op
   refine zen (some 35) w0 rfl (.pointer (some ⟨nb,no+0,none⟩)) rfl (by kernel_rfl) (fun wk hwk=> ?_) ?_
   ·generalize hA:Act.eval _=ρ
    have s34:ρ (.tmp 34)= .slice (some ⟨nb,no,none⟩) 3 vc:=by rw[<-hA];kernel_rfl
    have k1:ρ (.const (.int .i64 (0)))= .int .i64 (0):=by rw[<-hA];kernel_rfl
    clear hA
    go_simp
   go_big_quiet_op
   refine zch (some 36) w0 (.int .i64 (z0)) (.tmp 35) (.pointer (some ⟨nb,no+0,none⟩)) (fun wk hwk ρ s35=> ?_) ?_
   ·have c1:=(HCE.out wk hwk).1 0 (by simp)
    have hb1:=(HCE.out wk hwk).2
    simp only[List.getElem_cons_zero,Nat.add_zero]at c1
    go_simp
   go_big_quiet_op
   refine zch (some 37) w0 (.slice (some ⟨nb,no,none⟩) 3 vc) (.tmp 2) (.slice (some ⟨nb,no,none⟩) 3 vc) ?_ ?_
   ·intros;go_simp
   go_big_quiet_op
   refine zen (some 38) w0 rfl (.pointer (some ⟨nb,no+1,none⟩)) rfl (by kernel_rfl) (fun wk hwk=> ?_) ?_
   ·generalize hA:Act.eval _=ρ
    have s37:ρ (.tmp 37)= .slice (some ⟨nb,no,none⟩) 3 vc:=by rw[<-hA];kernel_rfl
    have k1:ρ (.const (.int .i64 (1)))= .int .i64 (1):=by rw[<-hA];kernel_rfl
    clear hA
    go_simp
   go_big_quiet_op
   refine zch (some 39) w0 (.int .i64 (z1)) (.tmp 38) (.pointer (some ⟨nb,no+1,none⟩)) (fun wk hwk ρ s38=> ?_) ?_
   ·have c1:=(HCE.out wk hwk).1 1 (by simp)
    have hb1:=(HCE.out wk hwk).2
    simp only[List.getElem_cons_zero,List.getElem_cons_succ]at c1
    go_simp
   go_big_quiet_op
   refine zch (some 40) w0 (.slice (some ⟨nb,no,none⟩) 3 vc) (.tmp 2) (.slice (some ⟨nb,no,none⟩) 3 vc) ?_ ?_
   ·intros;go_simp
   go_big_quiet_op
   refine zen (some 41) w0 rfl (.pointer (some ⟨nb,no+2,none⟩)) rfl (by kernel_rfl) (fun wk hwk=> ?_) ?_
   ·generalize hA:Act.eval _=ρ
    have s40:ρ (.tmp 40)= .slice (some ⟨nb,no,none⟩) 3 vc:=by rw[<-hA];kernel_rfl
    have k1:ρ (.const (.int .i64 (2)))= .int .i64 (2):=by rw[<-hA];kernel_rfl
    clear hA
    go_simp
   go_big_quiet_op
   refine zch (some 42) w0 (.int .i64 (z2)) (.tmp 41) (.pointer (some ⟨nb,no+2,none⟩)) (fun wk hwk ρ s41=> ?_) ?_
   ·have c1:=(HCE.out wk hwk).1 2 (by simp)
    have hb1:=(HCE.out wk hwk).2
    simp only[List.getElem_cons_zero,List.getElem_cons_succ]at c1
    go_simp
   go_big_quiet_op
   refine zen (some 43) w0 rfl (tsV ⟨3,z0,z1,z2,⟨#[]⟩⟩) rfl (by kernel_rfl) (fun wk hwk=> ?_) ?_
   ·generalize hA:Act.eval _=ρ
    have s36:ρ (.tmp 36)= .int .i64 (z0):=by rw[<-hA];kernel_rfl
    have s39:ρ (.tmp 39)= .int .i64 (z1):=by rw[<-hA];kernel_rfl
    have s42:ρ (.tmp 42)= .int .i64 (z2):=by rw[<-hA];kernel_rfl
    have k3:ρ (.const (.int .i64 (3)))= .int .i64 (3):=by rw[<-hA];kernel_rfl
    clear hA
    go_simp
   go_big_quiet_op
   refine zgv (some 44) w0 rfl rfl rfl rfl (fun uu=>uu= .tuple #[]) (fun _ wk=>∃pw',zb8 base w0 S R D G pw' (told++(zc6 t ⟨3,z0,z1,z2,⟨#[]⟩⟩).1) (zc6 t ⟨3,z0,z1,z2,⟨#[]⟩⟩).2 wk) (⟨_,rfl⟩) (fun wk hwk=> ?_) (fun u9 hu9=> ?_)
   ·generalize hA:Act.eval _=ρ
    have s33:ρ (.tmp 33)= .pointer (some ⟨R,0,none⟩):=by rw[<-hA];kernel_rfl
    have s43:ρ (.tmp 43)=tsV ⟨3,z0,z1,z2,⟨#[]⟩⟩:=by rw[<-hA];kernel_rfl
    have sf:ρ (.func 25)= .func (.func 25) #[] #[]:=by rw[<-hA];kernel_rfl
    clear hA
    go_simp
    refine(zkh hwk.1 ⟨3,z0,z1,z2,⟨#[]⟩⟩ (by omega)).mono ?_
    rintro e w7 ⟨rfl,h7⟩
    exact⟨_,rfl,rfl,h7⟩
   subst hu9
   go_big_quiet_op
   refine zhg (fun w6 h6=> ?_)
   have H6:Hid (∃pw',zb8 base w0 S R D G pw' (told++(zcj t k [z0,z1,z2]).1) (zcj t k [z0,z1,z2]).2 w6):=by rw[HV.out];exact h6
   clear h6 HI HL
   go_wp2_with fail
   go_end0
   exact⟨rfl,H6.out⟩
  have hb0:(sk.toList==([116,97,107,101]:List UInt8))=false:=HNE.out _ hc
  have HV:Hid (zcj t k [z0,z1,z2]=(zg6,t)):=by show _=_;rw[zvl,if_neg hc]
  clear h hv h0 h1 h3 hc HL
  go_enter Tryz.func29,Tryz.ntmps29
  go_wp2_with fail
  refine(HI.out.whats (by omega)).mono ?_
  rintro e w6 ⟨rfl,h6⟩
  have H6:Hid (∃pw',zb8 base w0 S R D G pw' (told++(zcj t k [z0,z1,z2]).1) (zcj t k [z0,z1,z2]).2 w6):=by rw[HV.out];exact⟨pw,h6⟩
  clear h6 HI
  go_wp2_with fail
  go_end0
  exact⟨rfl,H6.out⟩
 have HV:=hid (zvm t k h0 h1 h3)
 obtain⟨zn,hzn⟩:∃zn,zs.length=zn:=⟨_,rfl⟩
 rw[hzn]at h0 h1 h3⊢
 have hb0:((zn:Int)==0)=false:=by rw[beq_eq_false_iff_ne];omega
 have hb1:((zn:Int)==1)=false:=by rw[beq_eq_false_iff_ne];omega
 have hb3:((zn:Int)==3)=false:=by rw[beq_eq_false_iff_ne];omega
 clear h hv hzn
 go_enter Tryz.func29,Tryz.ntmps29
 go_wp2_with fail
 refine(HI.out.whats (by omega)).mono ?_
 rintro e w6 ⟨rfl,h6⟩
 have H6:Hid (∃pw',zb8 base w0 S R D G pw' (told++(zcj t k zs).1) (zcj t k zs).2 w6):=by rw[HV.out];exact⟨pw,h6⟩
 clear h6 HI
 go_wp2_with fail
 go_end0
 exact⟨rfl,H6.out⟩
end
end Go.Proofs.YtcbnnfeelhlapadGreatDoor