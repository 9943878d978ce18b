/-
  What is asked of one: ofWriter and its closures, askOfOne.
-/
import Derived.Test.YtcbnnfeelhlapadGreatDoorKLI
import Derived.Test.YtcbnnfeelhlapadGreatDoorKMath
namespace Go.Proofs.YtcbnnfeelhlapadGreatDoor
set_option maxHeartbeats 3200000
set_option maxRecDepth 20000
open Go Go.RowKit
section
variable {base R D G:Nat} {pw:Nat→Nat} {w0 wk w':World} {S:Nat→Prop} {told:List UInt8} {t:Twn}
theorem zaz.saysL(h:zaz base w0 S R D G pw told t wk){v:Value}{ws:List ByteArray}(hs:zb9 wk v ws)(hne:ws≠[])(hN:ws.length≤100000)(hz:told.length+(jnB (ws.map (·.data.toList))).length≤900000000):
 Calls Tryz.prog 49 #[.pointer (some ⟨R,0,none⟩),v] wk fun e w'=>e= .returned (.tuple #[])∧zaz base w0 S R D G pw (told++(jnB (ws.map (·.data.toList))++[10])) t w':=by
 obtain⟨T,a1,a2,a3⟩:=h.turn
 exact(zz3 a1 a2 hs hne hN hz).mono fun _ _ ⟨e1,e2⟩=>⟨e1,a3 _ _ e2⟩
def zt9(R B:Nat)(wk:World):Prop:=wk.cell? ⟨B,0,none⟩=some (.pointer (some ⟨R,0,none⟩))∧B<wk.heap.size
theorem zt9.after{B:Nat}(h:zt9 R B wk)(hb:Below wk.heap.size wk w'):zt9 R B w':=⟨zd8 h.1 hb,Nat.lt_of_lt_of_le h.2 hb.size⟩
theorem sawText{k B:Nat}{r:Wr}(h:zaz base w0 S R D G pw told t wk)(hB:zt9 R B wk)(hk:k<4)(he:t.ws k=some r)(hz:told.length≤600000000):
 Calls Tryz.prog 87 (#[.pointer (some ⟨pw k,0,none⟩)]++ #[.pointer (some ⟨B,0,none⟩)]) wk fun e w'=>e= .returned (.tuple #[])∧zaz base w0 S R D G pw (told++zfo (vw r.list r.seen r.me)) t w':=by
 have HI:Hid (zaz base w0 S R D G pw told t wk):=h
 have HB:Hid (zt9 R B wk):=hB
 have HE:Hid (t.ws k=some r):=he
 have HSZ:Hid ((strOfNums (vw r.list r.seen r.me)).size≤200):=by
  show _≤_
  rw[zbr]
  have:=qcn r.list r.seen r.me
  obtain⟨tk,_,hr⟩:=h.any
  have:=(zbj hr he).len
  omega
 have HTX:Hid (∀wk,zaz base w0 S R D G pw told t wk→Calls Tryz.prog 88 #[.pointer (some ⟨pw k,0,none⟩)] wk fun e w'=>e= .returned (.string (strOfNums (vw r.list r.seen r.me)))∧Below wk.heap.size wk w'):=fun wk hwk=>hwk.any.wtext hk HE.out
 have HTW:Hid (zfo (vw r.list r.seen r.me)=jnB [[116,101,120,116],(strOfNums (vw r.list r.seen r.me)).data.toList]++[10]):=zod _
 obtain⟨st,hst⟩:∃st,strOfNums (vw r.list r.seen r.me)=st:=⟨_,rfl⟩
 rw[hst]at HSZ HTX HTW
 rw[HTW.out]
 clear h hB he hst HTW
 go_enter Tryz.func87,Tryz.ntmps87
 go_wp2_with fail
 refine zff (fun wk=>zt9 R B wk) (fun i=>i==2||i==3||i==4) (fun i=>i==4) (fun wk=>zaz base w0 S R D G pw told t wk∧zt9 R B wk) (by kernel_rfl) (by kernel_rfl) (by kernel_rfl) (by kernel_rfl) (fun _ h=>h.2) ⟨HI.out.after (Below.refl _ _).drew,HB.out.after (Below.refl _ _).drew⟩ ?_
 refine zb1 (some 3) w0 rfl (.pointer (some ⟨R,0,none⟩)) rfl (by kernel_rfl) (fun wk hwk=> ?_) ?_
 ·generalize hA:Act.eval _=ρ
  have s1:ρ (.tmp 1)= .pointer (some ⟨B,0,none⟩):=by rw[←hA];kernel_rfl
  clear hA
  obtain⟨c0,hlB⟩:=hwk
  go_simp
 go_big_quiet_op
 refine zb1 (some 4) w0 rfl (.pointer (some ⟨pw k,0,none⟩)) rfl (by kernel_rfl) (fun wk hwk=> ?_) ?_
 ·generalize hA:Act.eval _=ρ
  have s0:ρ (.tmp 0)= .pointer (some ⟨pw k,0,none⟩):=by rw[←hA];kernel_rfl
  clear hA
  go_simp
 go_big_quiet_op
 refine zhc (some 5) w0 rfl rfl rfl (fun uu=>uu= .string st) (fun _ wk=>zaz base w0 S R D G pw told t wk∧zt9 R B wk) (⟨_,rfl⟩) (fun _ _ h=>h.2) (fun wk hwk=> ?_) (fun u9 hu9=> ?_)
 ·generalize hA:Act.eval _=ρ
  have s4:ρ (.tmp 4)= .pointer (some ⟨pw k,0,none⟩):=by rw[←hA];kernel_rfl
  have sf:ρ (.func 88)= .func (.func 88) #[] #[]:=by rw[←hA];kernel_rfl
  clear hA
  go_simp
  refine(HTX.out wk hwk.1).mono ?_
  rintro e w7 ⟨rfl,hb⟩
  exact⟨_,rfl,rfl,hwk.1.after hb,hwk.2.after hb⟩
 subst hu9
 go_big_quiet_op
 refine zhc (some 6) w0 rfl rfl rfl (fun uu=>∃E,uu= .slice (some ⟨E,0,none⟩) 2 2) (fun uu wk=>(zaz base w0 S R D G pw told t wk∧zt9 R B wk)∧zb9 wk uu [⟨#[116,101,120,116]⟩,st]) (⟨.slice (some ⟨0,0,none⟩) 2 2,0,rfl⟩) (fun _ _ h=>h.1.2) (fun wk hwk=> ?_) (fun u9 hu9=> ?_)
 ·generalize hA:Act.eval _=ρ
  have s5:ρ (.tmp 5)= .string st:=by rw[←hA];kernel_rfl
  have k1:ρ (.const (.string ⟨#[116,101,120,116]⟩))= .string ⟨#[116,101,120,116]⟩:=by rw[←hA];kernel_rfl
  clear hA
  have hq1:=zqn wk ⟨#[116,101,120,116]⟩ st
  have hq2:=hwk.1.after (za1 wk (.cells #[.string ⟨#[116,101,120,116]⟩,.string st] 9))
  have hq3:=hwk.2.after (za1 wk (.cells #[.string ⟨#[116,101,120,116]⟩,.string st] 9))
  go_simp
  exact⟨⟨_,rfl⟩,⟨hq2,hq3⟩,hq1⟩
 obtain⟨E,rfl⟩:=hu9
 go_big_quiet_op
 refine zh0 (some 7) w0 rfl rfl rfl rfl (fun uu=>uu= .tuple #[]) (fun _ wk=>zaz base w0 S R D G pw (told++(jnB [[116,101,120,116],st.data.toList]++[10])) t wk) (⟨_,rfl⟩) (fun wk hwk=> ?_) (fun u9 hu9=> ?_)
 ·generalize hA:Act.eval _=ρ
  have s3:ρ (.tmp 3)= .pointer (some ⟨R,0,none⟩):=by rw[←hA];kernel_rfl
  have s6:ρ (.tmp 6)= .slice (some ⟨E,0,none⟩) 2 2:=by rw[←hA];kernel_rfl
  have sf:ρ (.func 49)= .func (.func 49) #[] #[]:=by rw[←hA];kernel_rfl
  clear hA
  go_simp
  refine(hwk.1.1.saysL hwk.2 (by simp) (by simp) (by
   show _+(jnB [[116,101,120,116],st.data.toList]).length≤_
   rw[znr]
   have:=HSZ.out
   simp only[List.length_append,List.length_cons,List.length_nil,zay]
   omega)).mono ?_
  rintro e w7 ⟨rfl,h7⟩
  exact⟨_,rfl,rfl,h7⟩
 subst hu9
 go_big_quiet_op
 refine zhi (fun w6 h6=> ?_)
 have H6:Hid (zaz base w0 S R D G pw (told++(jnB [[116,101,120,116],st.data.toList]++[10])) t w6):=h6
 clear h6 HI HB
 go_wp2_with fail
 go_end0
 exact⟨rfl,H6.out⟩
theorem sawOpen{k B:Nat}{r:Wr}(h:zaz base w0 S R D G pw told t wk)(hB:zt9 R B wk)(hk:k<4)(he:t.ws k=some r)(hz:told.length≤600000000):
 Calls Tryz.prog 89 (#[.pointer (some ⟨pw k,0,none⟩)]++ #[.pointer (some ⟨B,0,none⟩)]) wk fun e w'=>e= .returned (.tuple #[])∧zaz base w0 S R D G pw (told++(zb3 r.opens++znw)) t w':=by
 have HI:Hid (zaz base w0 S R D G pw told t wk):=h
 have HB:Hid (zt9 R B wk):=hB
 have HE:Hid (t.ws k=some r):=he
 have HOL:Hid (r.opens.length≤1000):=by
  show _≤_
  obtain⟨tk,_,hr⟩:=h.any
  have:=(zbj hr he).few
  omega
 have HOP:Hid (∀wk,zaz base w0 S R D G pw told t wk→Calls Tryz.prog 90 #[.pointer (some ⟨pw k,0,none⟩)] wk fun e w'=>∃v',e= .returned v'∧zfy w' wk.heap.size v' r.opens∧Below wk.heap.size wk w'):=fun wk hwk=>hwk.any.wopen hk HE.out
 clear h hB he
 go_enter Tryz.func89,Tryz.ntmps89
 go_wp2_with fail
 refine zff (fun wk=>zt9 R B wk) (fun i=>i==2||i==3) (fun i=>i==3) (fun wk=>zaz base w0 S R D G pw told t wk∧zt9 R B wk) (by kernel_rfl) (by kernel_rfl) (by kernel_rfl) (by kernel_rfl) (fun _ h=>h.2) ⟨HI.out.after (Below.refl _ _).drew,HB.out.after (Below.refl _ _).drew⟩ ?_
 refine zb1 (some 3) w0 rfl (.pointer (some ⟨R,0,none⟩)) rfl (by kernel_rfl) (fun wk hwk=> ?_) ?_
 ·generalize hA:Act.eval _=ρ
  have s1:ρ (.tmp 1)= .pointer (some ⟨B,0,none⟩):=by rw[←hA];kernel_rfl
  clear hA
  obtain⟨c0,hlB⟩:=hwk
  go_simp
 go_big_quiet_op
 refine zb1 (some 4) w0 rfl (.pointer (some ⟨pw k,0,none⟩)) rfl (by kernel_rfl) (fun wk hwk=> ?_) ?_
 ·generalize hA:Act.eval _=ρ
  have s0:ρ (.tmp 0)= .pointer (some ⟨pw k,0,none⟩):=by rw[←hA];kernel_rfl
  clear hA
  go_simp
 go_big_quiet_op
 refine zhc (some 5) w0 rfl rfl rfl (fun uu=>∃va vc,uu= .slice va r.opens.length vc) (fun uu wk=>zt9 R B wk∧∃w1,zaz base w0 S R D G pw told t w1∧Below w1.heap.size w1 wk∧zfy wk w1.heap.size uu r.opens) (⟨.slice none r.opens.length 0,_,_,rfl⟩) (fun _ _ h=>h.1) (fun wk hwk=> ?_) (fun u9 hu9=> ?_)
 ·generalize hA:Act.eval _=ρ
  have s4:ρ (.tmp 4)= .pointer (some ⟨pw k,0,none⟩):=by rw[←hA];kernel_rfl
  have sf:ρ (.func 90)= .func (.func 90) #[] #[]:=by rw[←hA];kernel_rfl
  clear hA
  go_simp
  refine(HOP.out wk hwk.1).mono ?_
  rintro e w7 ⟨v7,rfl,ho,hb⟩
  obtain⟨va,vc,hv⟩:=qg6 ho.dlst
  exact⟨_,rfl,⟨va,vc,hv⟩,hwk.2.after hb,wk,hwk.1,hb,ho⟩
 obtain⟨va,vc,rfl⟩:=hu9
 go_big_quiet_op
 refine zh0 (some 6) w0 rfl rfl rfl rfl (fun uu=>uu= .tuple #[]) (fun _ wk=>zaz base w0 S R D G pw (told++(zb3 r.opens++znw)) t wk) (⟨_,rfl⟩) (fun wk hwk=> ?_) (fun u9 hu9=> ?_)
 ·generalize hA:Act.eval _=ρ
  have s3:ρ (.tmp 3)= .pointer (some ⟨R,0,none⟩):=by rw[←hA];kernel_rfl
  have s5:ρ (.tmp 5)= .slice va r.opens.length vc:=by rw[←hA];kernel_rfl
  have sf:ρ (.func 81)= .func (.func 81) #[] #[]:=by rw[←hA];kernel_rfl
  clear hA
  go_simp
  obtain⟨_,w1,h1,hb1,ho1⟩:=hwk
  refine(h1.lists hb1 ho1 HOL.out (by omega)).mono ?_
  rintro e w7 ⟨rfl,h7⟩
  exact⟨_,rfl,rfl,h7⟩
 subst hu9
 go_big_quiet_op
 refine zhi (fun w6 h6=> ?_)
 have H6:Hid (zaz base w0 S R D G pw (told++(zb3 r.opens++znw)) t w6):=h6
 clear h6 HI HB
 go_wp2_with fail
 go_end0
 exact⟨rfl,H6.out⟩
theorem zrd{n:Int}(he:t.ws n=none):zhv pw (zbs t) n= .pointer none:=by
 unfold zhv
 by_cases hw:wrB n=true
 ·rw[if_pos hw]
  obtain⟨k,rfl,hk⟩:=zc3 hw
  have:zbs t ((k:Int).toNat)=false:=by unfold zbs;simp[he]
  rw[this]
  rfl
 ·rw[if_neg hw]
theorem zrc{k:Nat}{r:Wr}(hk:k<4)(he:t.ws k=some r):zhv pw (zbs t) k= .pointer (some ⟨pw k,0,none⟩):=by
 unfold zhv
 have hw:wrB (k:Int)=true:=by simp[wrB];omega
 rw[if_pos hw]
 have:zbs t ((k:Int).toNat)=true:=by unfold zbs;simp[he]
 rw[this]
 rfl
theorem qeh{B:Nat}(h:zaz base w0 S R D G pw told t wk)(hB:zt9 R B wk)(n:Int)(hz:told.length≤600000000):
 Calls Tryz.prog 86 #[.pointer (some ⟨R,0,none⟩),.int .i64 n,.func (.func 87) #[] #[.pointer (some ⟨B,0,none⟩)]] wk fun e w'=>e= .returned (.tuple #[])∧zaz base w0 S R D G pw (told++zi7 t n) t w':=by
 have HI:Hid (zaz base w0 S R D G pw told t wk):=h
 have HB:Hid (zt9 R B wk):=hB
 obtain⟨c2,hR⟩:=h.cell
 cases he:t.ws n with
 |none=>
  have HE:Hid (zi7 t n=noW 5):=by show _=_;unfold zi7;rw[he]
  have HP:Hid (zhv pw (zbs t) n= .pointer none):=zrd he
  clear h hB he
  go_enter Tryz.func86,Tryz.ntmps86
  go_wp2_with fail
  refine(HI.out.any.writer n).mono ?_
  rintro e w5 ⟨rfl,hw5⟩
  rw[hw5,HP.out]
  clear hw5 w5 c2 hR
  go_wp2_with fail
  refine(HI.out.nos 5 (no_in zgi) (by omega)).mono ?_
  rintro e w6 ⟨rfl,h6⟩
  have H6:Hid (zaz base w0 S R D G pw (told++zi7 t n) t w6):=by show zaz _ _ _ _ _ _ _ _ _ _;rw[HE.out];exact h6
  clear h6 HI
  go_wp2_with fail
  (try simp only[Exit.inBlock,Exit.then]);refine bodyPost_ret (results_none rfl _ _ _) rfl ?_
  exact⟨rfl,H6.out⟩
 |some r=>
  obtain⟨k,rfl,hk⟩:∃k:Nat,n=k∧k<4:=zc3 (h.ti.is_here he).2
  have HE:Hid (zi7 t k=zfo (vw r.list r.seen r.me)):=by show _=_;unfold zi7;rw[he]
  have HS:Hid (t.ws k=some r):=he
  have HP:Hid (zhv pw (zbs t) k= .pointer (some ⟨pw k,0,none⟩)):=zrc hk he
  clear h hB he
  go_enter Tryz.func86,Tryz.ntmps86
  go_wp2_with fail
  refine(HI.out.any.writer k).mono ?_
  rintro e w5 ⟨rfl,hw5⟩
  rw[hw5,HP.out]
  clear hw5 w5 c2 hR
  go_wp2_with fail
  refine(sawText HI.out HB.out hk HS.out (by omega)).mono ?_
  rintro e w6 ⟨rfl,h6⟩
  have H6:Hid (zaz base w0 S R D G pw (told++zi7 t k) t w6):=by show zaz _ _ _ _ _ _ _ _ _ _;rw[HE.out];exact h6
  clear h6 HI
  go_wp2_with fail
  go_end0
  exact⟨rfl,H6.out⟩
theorem qei{B:Nat}(h:zaz base w0 S R D G pw told t wk)(hB:zt9 R B wk)(n:Int)(hz:told.length≤600000000):
 Calls Tryz.prog 86 #[.pointer (some ⟨R,0,none⟩),.int .i64 n,.func (.func 89) #[] #[.pointer (some ⟨B,0,none⟩)]] wk fun e w'=>e= .returned (.tuple #[])∧zaz base w0 S R D G pw (told++zhq t n) t w':=by
 have HI:Hid (zaz base w0 S R D G pw told t wk):=h
 have HB:Hid (zt9 R B wk):=hB
 obtain⟨c2,hR⟩:=h.cell
 cases he:t.ws n with
 |none=>
  have HE:Hid (zhq t n=noW 5):=by show _=_;unfold zhq;rw[he]
  have HP:Hid (zhv pw (zbs t) n= .pointer none):=zrd he
  clear h hB he
  go_enter Tryz.func86,Tryz.ntmps86
  go_wp2_with fail
  refine(HI.out.any.writer n).mono ?_
  rintro e w5 ⟨rfl,hw5⟩
  rw[hw5,HP.out]
  clear hw5 w5 c2 hR
  go_wp2_with fail
  refine(HI.out.nos 5 (no_in zgi) (by omega)).mono ?_
  rintro e w6 ⟨rfl,h6⟩
  have H6:Hid (zaz base w0 S R D G pw (told++zhq t n) t w6):=by show zaz _ _ _ _ _ _ _ _ _ _;rw[HE.out];exact h6
  clear h6 HI
  go_wp2_with fail
  (try simp only[Exit.inBlock,Exit.then]);refine bodyPost_ret (results_none rfl _ _ _) rfl ?_
  exact⟨rfl,H6.out⟩
 |some r=>
  obtain⟨k,rfl,hk⟩:∃k:Nat,n=k∧k<4:=zc3 (h.ti.is_here he).2
  have HE:Hid (zhq t k=zb3 r.opens++znw):=by show _=_;unfold zhq;rw[he]
  have HS:Hid (t.ws k=some r):=he
  have HP:Hid (zhv pw (zbs t) k= .pointer (some ⟨pw k,0,none⟩)):=zrc hk he
  clear h hB he
  go_enter Tryz.func86,Tryz.ntmps86
  go_wp2_with fail
  refine(HI.out.any.writer k).mono ?_
  rintro e w5 ⟨rfl,hw5⟩
  rw[hw5,HP.out]
  clear hw5 w5 c2 hR
  go_wp2_with fail
  refine(sawOpen HI.out HB.out hk HS.out (by omega)).mono ?_
  rintro e w6 ⟨rfl,h6⟩
  have H6:Hid (zaz base w0 S R D G pw (told++zhq t k) t w6):=by show zaz _ _ _ _ _ _ _ _ _ _;rw[HE.out];exact h6
  clear h6 HI
  go_wp2_with fail
  go_end0
  exact⟨rfl,H6.out⟩
def qeg(t:Twn)(k:List UInt8)(n:Int):List UInt8×Twn:=
 if k=[116,101,120,116]then(zi7 t n,t)
 else if k=[111,112,101,110]then(zhq t n,t)
 else if k=[116,104,101,110]then(zhd t n,t)
 else if k=[106,111,105,110]then zca t ⟨1,n,0,0,⟨#[]⟩⟩
 else if k=[115,101,110,100]then zca t ⟨4,n,0,0,⟨#[]⟩⟩
 else if k=[104,101,97,114]then zca t ⟨5,n,0,0,⟨#[]⟩⟩
 else if k=[99,108,101,97,114]then zca t ⟨6,n,0,0,⟨#[]⟩⟩
 else if k=[108,101,97,118,101]then zca t ⟨7,n,0,0,⟨#[]⟩⟩
 else(zfl,t)
theorem zih(t:Twn)(k:List UInt8)(n:Int):zci t k [n]=qeg t k n:=by
 unfold zci qeg
 by_cases h0:k=[116,101,120,116]
 ·subst h0;simp
 by_cases h1:k=[111,112,101,110]
 ·subst h1;simp
 by_cases h2:k=[116,104,101,110]
 ·subst h2;simp
 by_cases h3:k=[106,111,105,110]
 ·subst h3;simp
 by_cases h4:k=[115,101,110,100]
 ·subst h4;simp
 by_cases h5:k=[104,101,97,114]
 ·subst h5;simp
 by_cases h6:k=[99,108,101,97,114]
 ·subst h6;simp
 by_cases h7:k=[108,101,97,118,101]
 ·subst h7;simp
 simp[h0,h1,h2,h3,h4,h5,h6,h7]
theorem zy9(h:zaz base w0 S R D G pw told t wk)(k:List UInt8)(n:Int)(hz:told.length≤500000000):
 Calls Tryz.prog 55 #[.pointer (some ⟨R,0,none⟩),.string (bl k),.int .i64 n] wk fun e w'=>e= .returned (.tuple #[])∧∃pw',zaz base w0 S R D G pw' (told++(zci t k [n]).1) (zci t k [n]).2 w':=by
 have HI:Hid (zaz base w0 S R D G pw told t (wk.alloc (.cells #[.pointer (some ⟨R,0,none⟩)] 25))):=h.after (za1 _ _)
 have HB:Hid (zt9 R wk.heap.size (wk.alloc (.cells #[.pointer (some ⟨R,0,none⟩)] 25))):=⟨by simp[go_sem],by simp⟩
 have HEQ:Hid (∀wd:List UInt8,k=wd→((bl k).toList==wd)=true):=fun wd e=>by rw[zbk,e];simp
 have HNE:Hid (∀wd:List UInt8,k≠wd→((bl k).toList==wd)=false):=fun wd e=>by rw[zbk];simp only[decide_eq_false_iff_not];exact fun e'=>e (zpq e')
 have hmf:∀(fn:Fn) (first cap:Array Value) (w:World),(Instr.makeFunc fn first cap).run Tryz.prog w= .ok (.func fn first cap) w:=fun _ _ _ _=>rfl
 obtain⟨sk,hsk⟩:∃sk,bl k=sk:=⟨_,rfl⟩
 rw[hsk]at HEQ HNE⊢
 clear h hsk
 by_cases hc:k=[116,101,120,116]
 ·have hb0:(sk.toList==([116,101,120,116]:List UInt8))=true:=HEQ.out _ hc
  have HV:Hid (zci t k [n]=(zi7 t n,t)):=by
   show _=_
   rw[zih]
   unfold qeg
   rw[if_pos hc]
  clear hc
  go_enter Tryz.func55,Tryz.ntmps55
  go_wp2_with fail
  refine(qeh HI.out HB.out n (by omega)).mono ?_
  rintro e w6 ⟨rfl,h6⟩
  have H6:Hid (∃pw',zaz base w0 S R D G pw' (told++(zci t k [n]).1) (zci t k [n]).2 w6):=by rw[HV.out];exact⟨pw,h6⟩
  clear h6 HI HB
  go_wp2_with fail
  go_end0
  exact⟨rfl,H6.out⟩
 have hn0:k≠[116,101,120,116]:=hc
 clear hc
 by_cases hc:k=[111,112,101,110]
 ·have hb0:(sk.toList==([116,101,120,116]:List UInt8))=false:=HNE.out _ hn0
  have hb1:(sk.toList==([111,112,101,110]:List UInt8))=true:=HEQ.out _ hc
  have HV:Hid (zci t k [n]=(zhq t n,t)):=by
   show _=_
   rw[zih]
   unfold qeg
   rw[if_neg hn0,if_pos hc]
  clear hn0 hc
  go_enter Tryz.func55,Tryz.ntmps55
  go_wp2_with fail
  refine(qei HI.out HB.out n (by omega)).mono ?_
  rintro e w6 ⟨rfl,h6⟩
  have H6:Hid (∃pw',zaz base w0 S R D G pw' (told++(zci t k [n]).1) (zci t k [n]).2 w6):=by rw[HV.out];exact⟨pw,h6⟩
  clear h6 HI HB
  go_wp2_with fail
  go_end0
  exact⟨rfl,H6.out⟩
 have hn1:k≠[111,112,101,110]:=hc
 clear hc
 by_cases hc:k=[116,104,101,110]
 ·have hb0:(sk.toList==([116,101,120,116]:List UInt8))=false:=HNE.out _ hn0
  have hb1:(sk.toList==([111,112,101,110]:List UInt8))=false:=HNE.out _ hn1
  have hb2:(sk.toList==([116,104,101,110]:List UInt8))=true:=HEQ.out _ hc
  have HV:Hid (zci t k [n]=(zhd t n,t)):=by
   show _=_
   rw[zih]
   unfold qeg
   rw[if_neg hn0,if_neg hn1,if_pos hc]
  clear hn0 hn1 hc
  go_enter Tryz.func55,Tryz.ntmps55
  go_wp2_with fail
  refine(then_lk HI.out n (by omega)).mono ?_
  rintro e w6 ⟨rfl,h6⟩
  have H6:Hid (∃pw',zaz base w0 S R D G pw' (told++(zci t k [n]).1) (zci t k [n]).2 w6):=by rw[HV.out];exact⟨pw,h6⟩
  clear h6 HI HB
  go_wp2_with fail
  go_end0
  exact⟨rfl,H6.out⟩
 have hn2:k≠[116,104,101,110]:=hc
 clear hc
 by_cases hc:k=[106,111,105,110]
 ·have hb0:(sk.toList==([116,101,120,116]:List UInt8))=false:=HNE.out _ hn0
  have hb1:(sk.toList==([111,112,101,110]:List UInt8))=false:=HNE.out _ hn1
  have hb2:(sk.toList==([116,104,101,110]:List UInt8))=false:=HNE.out _ hn2
  have hb3:(sk.toList==([106,111,105,110]:List UInt8))=true:=HEQ.out _ hc
  have HV:Hid (zci t k [n]=zca t ⟨1,n,0,0,⟨#[]⟩⟩):=by
   show _=_
   rw[zih]
   unfold qeg
   rw[if_neg hn0,if_neg hn1,if_neg hn2,if_pos hc]
  clear hn0 hn1 hn2 hc
  go_enter Tryz.func55,Tryz.ntmps55
  go_wp2_with fail
  refine(zkh HI.out ⟨1,n,0,0,⟨#[]⟩⟩ (by omega)).mono ?_
  rintro e w6 ⟨rfl,h6⟩
  have H6:Hid (∃pw',zaz base w0 S R D G pw' (told++(zci t k [n]).1) (zci t k [n]).2 w6):=by rw[HV.out];exact h6
  clear h6 HI HB
  go_wp2_with fail
  go_end0
  exact⟨rfl,H6.out⟩
 have hn3:k≠[106,111,105,110]:=hc
 clear hc
 by_cases hc:k=[115,101,110,100]
 ·have hb0:(sk.toList==([116,101,120,116]:List UInt8))=false:=HNE.out _ hn0
  have hb1:(sk.toList==([111,112,101,110]:List UInt8))=false:=HNE.out _ hn1
  have hb2:(sk.toList==([116,104,101,110]:List UInt8))=false:=HNE.out _ hn2
  have hb3:(sk.toList==([106,111,105,110]:List UInt8))=false:=HNE.out _ hn3
  have hb4:(sk.toList==([115,101,110,100]:List UInt8))=true:=HEQ.out _ hc
  have HV:Hid (zci t k [n]=zca t ⟨4,n,0,0,⟨#[]⟩⟩):=by
   show _=_
   rw[zih]
   unfold qeg
   rw[if_neg hn0,if_neg hn1,if_neg hn2,if_neg hn3,if_pos hc]
  clear hn0 hn1 hn2 hn3 hc
  go_enter Tryz.func55,Tryz.ntmps55
  go_wp2_with fail
  refine(zkh HI.out ⟨4,n,0,0,⟨#[]⟩⟩ (by omega)).mono ?_
  rintro e w6 ⟨rfl,h6⟩
  have H6:Hid (∃pw',zaz base w0 S R D G pw' (told++(zci t k [n]).1) (zci t k [n]).2 w6):=by rw[HV.out];exact h6
  clear h6 HI HB
  go_wp2_with fail
  go_end0
  exact⟨rfl,H6.out⟩
 have hn4:k≠[115,101,110,100]:=hc
 clear hc
 by_cases hc:k=[104,101,97,114]
 ·have hb0:(sk.toList==([116,101,120,116]:List UInt8))=false:=HNE.out _ hn0
  have hb1:(sk.toList==([111,112,101,110]:List UInt8))=false:=HNE.out _ hn1
  have hb2:(sk.toList==([116,104,101,110]:List UInt8))=false:=HNE.out _ hn2
  have hb3:(sk.toList==([106,111,105,110]:List UInt8))=false:=HNE.out _ hn3
  have hb4:(sk.toList==([115,101,110,100]:List UInt8))=false:=HNE.out _ hn4
  have hb5:(sk.toList==([104,101,97,114]:List UInt8))=true:=HEQ.out _ hc
  have HV:Hid (zci t k [n]=zca t ⟨5,n,0,0,⟨#[]⟩⟩):=by
   show _=_
   rw[zih]
   unfold qeg
   rw[if_neg hn0,if_neg hn1,if_neg hn2,if_neg hn3,if_neg hn4,if_pos hc]
  clear hn0 hn1 hn2 hn3 hn4 hc
  go_enter Tryz.func55,Tryz.ntmps55
  go_wp2_with fail
  refine(zkh HI.out ⟨5,n,0,0,⟨#[]⟩⟩ (by omega)).mono ?_
  rintro e w6 ⟨rfl,h6⟩
  have H6:Hid (∃pw',zaz base w0 S R D G pw' (told++(zci t k [n]).1) (zci t k [n]).2 w6):=by rw[HV.out];exact h6
  clear h6 HI HB
  go_wp2_with fail
  go_end0
  exact⟨rfl,H6.out⟩
 have hn5:k≠[104,101,97,114]:=hc
 clear hc
 by_cases hc:k=[99,108,101,97,114]
 ·have hb0:(sk.toList==([116,101,120,116]:List UInt8))=false:=HNE.out _ hn0
  have hb1:(sk.toList==([111,112,101,110]:List UInt8))=false:=HNE.out _ hn1
  have hb2:(sk.toList==([116,104,101,110]:List UInt8))=false:=HNE.out _ hn2
  have hb3:(sk.toList==([106,111,105,110]:List UInt8))=false:=HNE.out _ hn3
  have hb4:(sk.toList==([115,101,110,100]:List UInt8))=false:=HNE.out _ hn4
  have hb5:(sk.toList==([104,101,97,114]:List UInt8))=false:=HNE.out _ hn5
  have hb6:(sk.toList==([99,108,101,97,114]:List UInt8))=true:=HEQ.out _ hc
  have HV:Hid (zci t k [n]=zca t ⟨6,n,0,0,⟨#[]⟩⟩):=by
   show _=_
   rw[zih]
   unfold qeg
   rw[if_neg hn0,if_neg hn1,if_neg hn2,if_neg hn3,if_neg hn4,if_neg hn5,if_pos hc]
  clear hn0 hn1 hn2 hn3 hn4 hn5 hc
  go_enter Tryz.func55,Tryz.ntmps55
  go_wp2_with fail
  refine(zkh HI.out ⟨6,n,0,0,⟨#[]⟩⟩ (by omega)).mono ?_
  rintro e w6 ⟨rfl,h6⟩
  have H6:Hid (∃pw',zaz base w0 S R D G pw' (told++(zci t k [n]).1) (zci t k [n]).2 w6):=by rw[HV.out];exact h6
  clear h6 HI HB
  go_wp2_with fail
  go_end0
  exact⟨rfl,H6.out⟩
 have hn6:k≠[99,108,101,97,114]:=hc
 clear hc
 by_cases hc:k=[108,101,97,118,101]
 ·have hb0:(sk.toList==([116,101,120,116]:List UInt8))=false:=HNE.out _ hn0
  have hb1:(sk.toList==([111,112,101,110]:List UInt8))=false:=HNE.out _ hn1
  have hb2:(sk.toList==([116,104,101,110]:List UInt8))=false:=HNE.out _ hn2
  have hb3:(sk.toList==([106,111,105,110]:List UInt8))=false:=HNE.out _ hn3
  have hb4:(sk.toList==([115,101,110,100]:List UInt8))=false:=HNE.out _ hn4
  have hb5:(sk.toList==([104,101,97,114]:List UInt8))=false:=HNE.out _ hn5
  have hb6:(sk.toList==([99,108,101,97,114]:List UInt8))=false:=HNE.out _ hn6
  have hb7:(sk.toList==([108,101,97,118,101]:List UInt8))=true:=HEQ.out _ hc
  have HV:Hid (zci t k [n]=zca t ⟨7,n,0,0,⟨#[]⟩⟩):=by
   show _=_
   rw[zih]
   unfold qeg
   rw[if_neg hn0,if_neg hn1,if_neg hn2,if_neg hn3,if_neg hn4,if_neg hn5,if_neg hn6,if_pos hc]
  clear hn0 hn1 hn2 hn3 hn4 hn5 hn6 hc
  go_enter Tryz.func55,Tryz.ntmps55
  go_wp2_with fail
  refine(zkh HI.out ⟨7,n,0,0,⟨#[]⟩⟩ (by omega)).mono ?_
  rintro e w6 ⟨rfl,h6⟩
  have H6:Hid (∃pw',zaz base w0 S R D G pw' (told++(zci t k [n]).1) (zci t k [n]).2 w6):=by rw[HV.out];exact h6
  clear h6 HI HB
  go_wp2_with fail
  go_end0
  exact⟨rfl,H6.out⟩
 have hn7:k≠[108,101,97,118,101]:=hc
 clear hc
 have hb0:(sk.toList==([116,101,120,116]:List UInt8))=false:=HNE.out _ hn0
 have hb1:(sk.toList==([111,112,101,110]:List UInt8))=false:=HNE.out _ hn1
 have hb2:(sk.toList==([116,104,101,110]:List UInt8))=false:=HNE.out _ hn2
 have hb3:(sk.toList==([106,111,105,110]:List UInt8))=false:=HNE.out _ hn3
 have hb4:(sk.toList==([115,101,110,100]:List UInt8))=false:=HNE.out _ hn4
 have hb5:(sk.toList==([104,101,97,114]:List UInt8))=false:=HNE.out _ hn5
 have hb6:(sk.toList==([99,108,101,97,114]:List UInt8))=false:=HNE.out _ hn6
 have hb7:(sk.toList==([108,101,97,118,101]:List UInt8))=false:=HNE.out _ hn7
 have HV:Hid (zci t k [n]=(zfl,t)):=by
  show _=_
  rw[zih]
  unfold qeg
  rw[if_neg hn0,if_neg hn1,if_neg hn2,if_neg hn3,if_neg hn4,if_neg hn5,if_neg hn6,if_neg hn7]
 clear hn0 hn1 hn2 hn3 hn4 hn5 hn6 hn7
 go_enter Tryz.func55,Tryz.ntmps55
 go_wp2_with fail
 refine(HI.out.whats (by omega)).mono ?_
 rintro e w6 ⟨rfl,h6⟩
 have H6:Hid (∃pw',zaz base w0 S R D G pw' (told++(zci t k [n]).1) (zci t k [n]).2 w6):=by rw[HV.out];exact⟨pw,h6⟩
 clear h6 HI HB
 go_wp2_with fail
 go_end0
 exact⟨rfl,H6.out⟩
end
end Go.Proofs.YtcbnnfeelhlapadGreatDoor