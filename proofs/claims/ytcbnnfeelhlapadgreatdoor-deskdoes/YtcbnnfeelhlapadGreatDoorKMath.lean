/-
  The reference's desk: do, deeds, scribe.
-/
import Derived.Test.YtcbnnfeelhlapadGreatDoorStR
import Derived.Test.YtcbnnfeelhlapadGreatDoorFBig
import Derived.Test.YtcbnnfeelhlapadGreatDoorFDeeds
import Derived.Test.YtcbnnfeelhlapadGreatDoorTRel
import Derived.Test.YtcbnnfeelhlapadGreatDoorHpRef
import Derived.Lib.Join
import Derived.Lib.TrimByte
import Derived.Lib.IndexMore
import Derived.Lib.IndexBytes
namespace Go.Proofs.YtcbnnfeelhlapadGreatDoor
set_option maxHeartbeats 3200000
set_option maxRecDepth 20000
open Go Go.RowKit
section
variable {base R E F:Nat} {qw:Nat→Nat} {w0 wk w':World} {S:Nat→Prop} {told:ByteArray} {u:Twn} {ex:Th base}
theorem zkz.rowK{w:World}{a:Option Addr}{cap:Nat}{ds:List Dd}(h:zkz w (.slice a ds.length cap) ds)(hp:0<ds.length):∃b off,a=some ⟨b,off,none⟩∧zvv w b off ds:=by
 obtain⟨a',len,cap',he,h1,h2,h3⟩:=h
 simp only[Value.slice.injEq]at he
 obtain⟨rfl,rfl,rfl⟩:=he
 rcases h3 with h3|h3
 ·omega
 ·exact h3
theorem qgq(s:ByteArray)(l:List UInt8):s++bl l=bl (s.data.toList++l):=by
 conv=>lhs;rw[←zjk s]
 exact zf5 _ _
theorem sm_in{c:Int}(h:Sm c):inI c:=by
 unfold Sm at h
 unfold inI
 omega
theorem qem(c:Int):(⟨#[110,111,32]⟩++zc4 c)++nlS=bl (noW c):=by
 have e1:bl [110,111,32]++bl (Lib.itoa c)=bl ([110,111,32]++Lib.itoa c):=zf5 _ _
 have e2:bl ([110,111,32]++Lib.itoa c)++bl [10]=bl (([110,111,32]++Lib.itoa c)++[10]):=zf5 _ _
 have e3:noW c=([110,111,32]++Lib.itoa c)++[10]:=by rw[noW,List.append_assoc]
 rw[e3,←e2,←e1]
 rfl
theorem zzd:∃sc:ByteArray,sc.size≤21∧(⟨#[110,111,32]⟩++sc)++nlS=bl (noW 5)∧∀w,zbz w→Calls Tryz.prog 42 #[.int .i64 5] w fun e w'=>e= .returned (.string sc)∧Below w.heap.size w w':=
 ⟨zc4 5,zby (sm_in zgi),qem 5,fun w hw=>zj7 5 (sm_in zgi) w hw⟩
def RkU(base:Nat)(w0:World)(S:Nat→Prop)(R E F:Nat)(told:ByteArray)(B:Nat)(x:Tst)(wk:World):Prop:=∃qw u,zbi base w0 S R E F qw told u (Th.st base B x) wk
theorem zbi.stepAt{B:Nat}{x:Tst}(h:zbi base w0 S R E F qw told u (Th.st base B x) wk):zrk wk B 0 x:=by
 obtain⟨T,h1⟩:=h.box
 exact h1.2
theorem zbi.boxed(h:zbi base w0 S R E F qw told u ex wk)(x:Tst):zbi base w0 S R E F qw told u (Th.st base wk.heap.size x) (wk.alloc (zc8 x)):=
 h.lay (za1 _ _) _ ⟨⟨Nat.le_refl _,by simp⟩,zhl wk x⟩
theorem zxu(h:zbi base w0 S R E F qw told u ex wk)(x:Tst)(hs:told.size≤900000000):
 Calls Tryz.prog 32 #[.pointer (some ⟨R,0,none⟩),tsV x] wk fun e w'=>e= .returned (.tuple #[])∧∃qw',zbi base w0 S R E F qw' (told++bl (zca u x).1) (zca u x).2 (Th.no base) w':=by
 have HC:Hid (inI (tDo u x).1):=sm_in (zrw u x)
 have HI:Hid (zbi base w0 S R E F qw told u (Th.st base wk.heap.size x) (wk.alloc (zc8 x))):=h.boxed x
 have HK:Hid ((zca u x).1=(if(tDo u x).1=0 then okW else noW (tDo u x).1)∧(zca u x).2=(tDo u x).2):=⟨rfl,rfl⟩
 generalize wk.heap.size=B at*
 clear h
 obtain⟨kind,w_,at_,many,text⟩:=x
 unfold zc8 at HI
 try dsimp only at HI
 go_enter Tryz.func32,Tryz.ntmps32
 go_wp2_with fail
 refine zdn (fun wk=>RkU base w0 S R E F told B ⟨kind,w_,at_,many,text⟩ wk) (fun wk=>zbi base w0 S R E F qw told u (Th.st base B ⟨kind,w_,at_,many,text⟩) wk) (fun i=>i==5) (fun _=>false) (by kernel_rfl) (by kernel_rfl) (by kernel_rfl) (fun _ h=>⟨_,_,h⟩) (HI.out.after (Below.refl _ _).drew) ?_
 refine wlb (some 5) w0 rfl (.pointer (some ⟨R,0,none⟩)) rfl (by kernel_rfl) (fun wk hwk=> ?_) ?_
 ·generalize hA:Act.eval _=ρ
  have s0:ρ (.tmp 0)= .pointer (some ⟨R,0,none⟩):=by rw[←hA];kernel_rfl
  clear hA
  go_simp
 go_big_quiet_op
 refine wlb (some 6) w0 rfl (.pointer (some ⟨R,0,none⟩)) rfl (by kernel_rfl) (fun wk hwk=> ?_) ?_
 ·generalize hA:Act.eval _=ρ
  have s5:ρ (.tmp 5)= .pointer (some ⟨R,0,none⟩):=by rw[←hA];kernel_rfl
  clear hA
  go_simp
 go_big_quiet_op
 refine wlb (some 7) w0 rfl (.pointer (some ⟨R,1,none⟩)) rfl (by kernel_rfl) (fun wk hwk=> ?_) ?_
 ·generalize hA:Act.eval _=ρ
  have s6:ρ (.tmp 6)= .pointer (some ⟨R,0,none⟩):=by rw[←hA];kernel_rfl
  clear hA
  go_simp
 go_big_quiet_op
 refine wlb (some 8) w0 rfl (.pointer (some ⟨E,0,none⟩)) rfl (by kernel_rfl) (fun wk hwk=> ?_) ?_
 ·generalize hA:Act.eval _=ρ
  have s7:ρ (.tmp 7)= .pointer (some ⟨R,1,none⟩):=by rw[←hA];kernel_rfl
  clear hA
  obtain⟨qx,ux,hx⟩:=hwk
  have g1:=hx.cells.town
  have hlt:=hx.cells.lt
  go_simp
 go_big_quiet_op
 refine wlb (some 9) w0 rfl (tsV ⟨kind,w_,at_,many,text⟩) rfl (by kernel_rfl) (fun wk hwk=> ?_) ?_
 ·generalize hA:Act.eval _=ρ
  have s3:ρ (.tmp 3)= .pointer (some ⟨B,0,none⟩):=by rw[←hA];kernel_rfl
  clear hA
  obtain⟨qx,ux,hx⟩:=hwk
  obtain⟨_,c0,c1,c2,c3,c4⟩:=hx.stepAt
  simp only[Nat.zero_add]at c0 c1 c2 c3 c4
  go_simp
 go_big_quiet_op
 refine wls (some 10) w0 rfl rfl (by kernel_rfl) (fun uu=>uu= .int .i64 (tDo u ⟨kind,w_,at_,many,text⟩).1) (fun _ wk=>RkU base w0 S R E F told B ⟨kind,w_,at_,many,text⟩ wk) (fun _ wk=>∃qw2,zbi base w0 S R E F qw2 told (tDo u ⟨kind,w_,at_,many,text⟩).2 (Th.st base B ⟨kind,w_,at_,many,text⟩) wk) (⟨_,rfl⟩) (fun _ _ h=>h) (fun _ _ h=>by obtain⟨p2,h⟩:=h;exact⟨_,_,h⟩) (fun wk hwk=> ?_) (fun u9 hu9=> ?_)
 ·generalize hA:Act.eval _=ρ
  have s8:ρ (.tmp 8)= .pointer (some ⟨E,0,none⟩):=by rw[←hA];kernel_rfl
  have s9:ρ (.tmp 9)=tsV ⟨kind,w_,at_,many,text⟩:=by rw[←hA];kernel_rfl
  have sf:ρ (.func 56)= .func (.func 56) #[] #[]:=by rw[←hA];kernel_rfl
  clear hA
  go_simp
  refine(hwk.does ⟨kind,w_,at_,many,text⟩).mono ?_
  rintro e w7 ⟨rfl,h7⟩
  exact⟨_,rfl,rfl,h7⟩
 subst hu9
 go_big_quiet_op
 refine wlb (some 4) w0 rfl (.int .i64 (tDo u ⟨kind,w_,at_,many,text⟩).1) rfl (by kernel_rfl) (fun wk hwk=> ?_) ?_
 ·generalize hA:Act.eval _=ρ
  have s10:ρ (.tmp 10)= .int .i64 (tDo u ⟨kind,w_,at_,many,text⟩).1:=by rw[←hA];kernel_rfl
  clear hA
  go_simp
 go_big_quiet_op
 refine zhh (fun w9 hw9=> ?_)
 have H9:Hid (∃qw2,zbi base w0 S R E F qw2 told (tDo u ⟨kind,w_,at_,many,text⟩).2 (Th.st base B ⟨kind,w_,at_,many,text⟩) w9):=hw9
 clear hw9 HI
 obtain⟨c,hc⟩:∃c,(tDo u ⟨kind,w_,at_,many,text⟩).1=c:=⟨_,rfl⟩
 have HCC:Hid ((tDo u ⟨kind,w_,at_,many,text⟩).1=c):=hc
 rw[hc]
 clear hc
 by_cases h0:c=0
 ·subst h0
  go_wp2_with fail
  obtain⟨qw9,h9⟩:=H9.out
  refine(zgj h9 _ (by show _+2≤_;omega)).mono ?_
  rintro e w5 ⟨rfl,h5,-⟩
  have H5:Hid (zbi base w0 S R E F qw9 (told++bl (zca u ⟨kind,w_,at_,many,text⟩).1) (zca u ⟨kind,w_,at_,many,text⟩).2 (Th.no base) w5):=by
   show zbi _ _ _ _ _ _ _ _ _ _ _
   rw[HK.out.1,HK.out.2,if_pos HCC.out]
   exact h5.bare
  clear h5 h9 H9
  go_wp2_with fail
  go_end0
  exact⟨rfl,qw9,H5.out⟩
 ·have h0b:(c==0)=false:=by simpa using h0
  have HCI:Hid (inI c):=by have:=HC.out;rw[HCC.out]at this;exact this
  go_wp2_with fail
  obtain⟨qw9,h9⟩:=H9.out
  refine(zj7 c HCI.out _ h9.rdy.ready).mono ?_
  rintro e w5 ⟨rfl,hb⟩
  have H5:Hid (zbi base w0 S R E F qw9 told (tDo u ⟨kind,w_,at_,many,text⟩).2 (Th.st base B ⟨kind,w_,at_,many,text⟩) w5):=h9.after hb
  have hsz:(zc4 c).size≤21:=zby HCI.out
  clear hb h9 H9
  obtain⟨sc,hsc⟩:∃sc,zc4 c=sc:=⟨_,rfl⟩
  have HSC:Hid (zc4 c=sc):=hsc
  rw[hsc]at hsz⊢
  clear hsc
  go_wp2_with fail
  refine(zgj H5.out _ (by rw[ByteArray.size_append];show _+(3+_)≤_;omega)).mono ?_
  rintro e w6 ⟨rfl,h6,-⟩
  have H6:Hid (zbi base w0 S R E F qw9 (told++bl (zca u ⟨kind,w_,at_,many,text⟩).1) (zca u ⟨kind,w_,at_,many,text⟩).2 (Th.no base) w6):=by
   show zbi _ _ _ _ _ _ _ _ _ _ _
   rw[HK.out.1,HK.out.2,if_neg (by rw[HCC.out];exact h0),HCC.out]
   rw[←qem c,HSC.out]
   exact h6.bare
  clear h6 H5
  go_wp2_with fail
  go_end0
  exact⟨rfl,qw9,H6.out⟩
theorem zzw(h:zbi base w0 S R E F qw told u ex wk){v:Value}{ds:List Dd}(hd:∀wk',zak (fun k=>k=R) wk wk'→zkz wk' v ds)(hl:ds.length≤1000)(hs:told.size≤900000000):
 Calls Tryz.prog 40 #[.pointer (some ⟨R,0,none⟩),v] wk fun e w'=>e= .returned (.tuple #[])∧zbi base w0 S R E F qw (told++bl (zb3 ds++znw)) u ex w':=by
 have HD:Hid (∀wk',zak (fun k=>k=R) wk wk'→zkz wk' v ds):=hd
 have HI:Hid (zbi base w0 S R E F qw told u ex wk):=h
 obtain⟨a,cap,rfl,_⟩:=zny (hd wk (zak.refl _ _))
 clear h hd
 go_enter Tryz.func40,Tryz.ntmps40
 go_wp2_with fail
 go_loopw [4] (fun i wr=>∃k:Nat,k≤ds.length∧i= .int .i64 k∧Hid (zbi base w0 S R E F qw (told++bl (zb3 (ds.take k))) u ex wr∧zak (fun k=>k=R) wk wr∧(zb3 (ds.take k)).length≤201*k)) (fun i _=>ds.length-(intOf i).toNat)
 case atStart=>exact⟨0,Nat.zero_le _,rfl,by rw[List.take_zero];show zbi _ _ _ _ _ _ _ (told++bl []) _ _ _;rw[qgq,List.append_nil,zjk];exact HI.out,zak.refl _ _,by rw[List.take_zero];exact Nat.zero_le _⟩
 case round=>
  obtain⟨k,hk,rfl,HW⟩:=hrel
  clear HI
  by_cases hlt:k<ds.length
  ·have hki:(k:Int)<(ds.length:Int):=by omega
   obtain⟨bb,off,rfl,hr⟩:=zkz.rowK (HD.out wr HW.out.2.1) (by omega)
   obtain⟨hbl,g0,g1,g2,g3,g4,g5,g6⟩:=hr.at_ k hlt
   have HN:Hid (zb3 (ds.take (k+1))=zb3 (ds.take k)++zhe ds[k]):=by show _=_;rw[List.take_succ_eq_append_getElem hlt,zkn]
   generalize ds[k]=d at*
   have hlz:(zcw d).size≤200:=zme d
   obtain⟨s,hsl⟩:∃s,zcw d=s:=⟨_,rfl⟩
   have HSL:Hid (zcw d=s):=hsl
   have HLZ:Hid (s.size≤200):=by show _≤_;rw[←hsl];exact hlz
   clear hsl hlz hr
   obtain⟨kind,by_,no,seen,at_,many,text⟩:=d
   simp only at g0 g1 g2 g3 g4 g5 g6
   go_wp2_with fail
   clear g0 g1 g2 g3 g4 g5 g6
   refine(qb8 ⟨kind,by_,no,seen,at_,many,text⟩ _ HW.out.1.rdy.ready).mono ?_
   rintro e w5 ⟨rfl,hb⟩
   rw[HSL.out]
   have H5:Hid (zbi base w0 S R E F qw (told++bl (zb3 (ds.take k))) u ex w5∧zak (fun k=>k=R) wk w5):=⟨HW.out.1.after hb,HW.out.2.1.after hb⟩
   have HZ:Hid ((zb3 (ds.take k)).length≤201*k):=HW.out.2.2
   clear hb HW
   generalize za6 _=cc at*
   go_wp2_with fail
   refine(zgj H5.out.1 _ (by rw[ByteArray.size_append,zd9 (zb3 (ds.take k))];have:=HZ.out;have:=HLZ.out;omega)).mono ?_
   rintro e w6 ⟨rfl,h6,hk6⟩
   have H6:Hid (zbi base w0 S R E F qw (told++bl (zb3 (ds.take (k+1)))) u ex w6∧zak (fun k=>k=R) wk w6∧(zb3 (ds.take (k+1))).length≤201*(k+1)):=by
    have e:told++bl (zb3 (ds.take k))++(s++nlS)=told++bl (zb3 (ds.take (k+1))):=by
     rw[HN.out,zhe,HSL.out,ByteArray.append_assoc,←zf5,←zf5,zjk]
    rw[e]at h6
    refine⟨h6,H5.out.2.trans' hk6,?_⟩
    rw[HN.out,List.length_append,zhe,HSL.out,List.length_append]
    have:=HZ.out
    have:=HLZ.out
    show _+(s.size+1)≤_
    omega
   clear h6 hk6 H5
   go_wp2_with fail
   go_roundw
   case rel=>exact⟨k+1,by omega,by go_num,H6.out⟩
   case measure=>simp[intOf];omega
  ·obtain rfl:k=ds.length:=by omega
   have HE:Hid (ds.take ds.length=ds):=List.take_length
   rw[HE.out]at HW
   go_wp2_with fail
   refine(zgj HW.out.1 _ (by rw[ByteArray.size_append,zd9 (zb3 ds)];have:=HW.out.2.2;show _+3≤_;omega)).mono ?_
   rintro e w6 ⟨rfl,h6,-⟩
   have H6:Hid (zbi base w0 S R E F qw (told++bl (zb3 ds++znw)) u ex w6):=by
    have e:told++bl (zb3 ds)++(⟨#[101,110,100]⟩++nlS)=told++bl (zb3 ds++znw):=by
     rw[ByteArray.append_assoc,←zf5]
     rfl
    rw[e]at h6
    exact h6
   clear h6 HW
   go_wp2_with fail
   go_end0
   exact⟨rfl,H6.out⟩
theorem zoq(h:zbi base w0 S R E F qw told u ex wk){k:Nat}(hk:k<4){r:Wr}(he:u.ws k=some r):
 Calls Tryz.prog 36 #[.pointer (some ⟨R,0,none⟩),.int .i64 k] wk fun e w'=>e= .returned (.pointer (some ⟨qw k,0,none⟩))∧w'=wk:=by
 have g1:=h.tw.ws k hk
 have hE:=h.tw.lt
 have c1:=h.cells.town
 have hlt:=h.cells.lt
 have hhs:zbs u k=true:=by unfold zbs;rw[he];rfl
 simp only[hhs,zbu,if_true]at g1
 have hw:wrB (k:Int)=true:=by simp[wrB];omega
 have hk4:(k:Int)<4:=by omega
 clear h hhs he
 go_enter Tryz.func36,Tryz.ntmps36
 go_wp2_with (go_at_call 57;refine(za7 _ _).mono ?_;rintro e w' ⟨rfl,rfl⟩;rw[hw])
 go_ret
 exact⟨rfl,rfl⟩
theorem zor(h:zbi base w0 S R E F qw told u ex wk){n:Int}(he:u.ws n=none)(hs:told.size≤900000000):
 Calls Tryz.prog 36 #[.pointer (some ⟨R,0,none⟩),.int .i64 n] wk fun e w'=>e= .returned (.pointer none)∧zbi base w0 S R E F qw (told++bl (noW 5)) u ex w':=by
 have HI:Hid (zbi base w0 S R E F qw told u ex wk):=h
 have c1:=h.cells.town
 have hlt:=h.cells.lt
 obtain⟨sc,hsz,hE,hC⟩:=zzd
 have HE:Hid ((⟨#[110,111,32]⟩++sc)++nlS=bl (noW 5)):=hE
 have HC5:Hid (∀w,zbz w→Calls Tryz.prog 42 #[.int .i64 5] w fun e w'=>e= .returned (.string sc)∧Below w.heap.size w w'):=hC
 clear hE hC
 cases hw:wrB n
 ·clear h he
  go_enter Tryz.func36,Tryz.ntmps36
  go_wp2_with (go_at_call 57;refine(za7 _ _).mono ?_;rintro e w' ⟨rfl,rfl⟩;rw[hw])
  refine(HC5.out _ HI.out.rdy.ready).mono ?_
  rintro e w5 ⟨rfl,hb⟩
  have H5:Hid (zbi base w0 S R E F qw told u ex w5):=HI.out.after hb
  clear hb HI
  go_wp2_with fail
  refine(zgj H5.out _ (by rw[ByteArray.size_append];show _+(3+_)≤_;omega)).mono ?_
  rintro e w6 ⟨rfl,h6,-⟩
  rw[HE.out]at h6
  have H6:Hid (zbi base w0 S R E F qw (told++bl (noW 5)) u ex w6):=h6
  clear h6 H5
  go_wp2_with fail
  go_ret
  exact⟨rfl,H6.out⟩
 ·obtain⟨k,rfl,hk⟩:=zc3 hw
  have g1:=h.tw.ws k hk
  have hE:=h.tw.lt
  have hhs:zbs u k=false:=by unfold zbs;rw[he];rfl
  simp only[hhs,zbu,Bool.false_eq_true,if_false]at g1
  have hk4:(k:Int)<4:=by omega
  clear h hhs he
  go_enter Tryz.func36,Tryz.ntmps36
  go_wp2_with (go_at_call 57;refine(za7 _ _).mono ?_;rintro e w' ⟨rfl,rfl⟩;rw[hw])
  refine(HC5.out _ HI.out.rdy.ready).mono ?_
  rintro e w5 ⟨rfl,hb⟩
  have H5:Hid (zbi base w0 S R E F qw told u ex w5):=HI.out.after hb
  clear hb HI g1
  go_wp2_with fail
  refine(zgj H5.out _ (by rw[ByteArray.size_append];show _+(3+_)≤_;omega)).mono ?_
  rintro e w6 ⟨rfl,h6,-⟩
  rw[HE.out]at h6
  have H6:Hid (zbi base w0 S R E F qw (told++bl (noW 5)) u ex w6):=h6
  clear h6 H5
  go_wp2_with fail
  go_ret
  exact⟨rfl,H6.out⟩
end
end Go.Proofs.YtcbnnfeelhlapadGreatDoor
namespace Go.Proofs.YtcbnnfeelhlapadGreatDoor
set_option maxHeartbeats 3200000
open Go
section
variable {P:Program} {ops:Array Oper} {md:Region.Mode} {fin:Nat→Bool}
def zuc(md:Region.Mode)(ops:Array Oper):Nat→Nat→Nat→Bool
 | 0,_,_=>false
 |f+1,i,j=>match ops[i]? with
  |some o=>o.after.any fun e=>Region.binds md e&&(decide (e.on=j)||zuc md ops f e.on j)
  |none=>false
def finBx(md:Region.Mode)(ops:Array Oper)(fin:Nat→Bool):Bool:=
 (List.range ops.size).all fun i=> !fin i||(List.range ops.size).all fun j=>decide (j=i)||zuc md ops ops.size i j
theorem zmz{listed:Array Bool}(hcl:zrl md ops listed){j:Nat}:∀(f i:Nat),listed.getD i false=true→zuc md ops f i j=true→listed.getD j false=true
 | 0,_,_,h=>by cases h
 |f+1,i,hi,h=>by
  unfold zuc at h
  cases ho:ops[i]? with
  |none=>rw[ho]at h;cases h
  |some o=>
   rw[ho]at h
   obtain⟨e,he,hb⟩:=Array.any_eq_true'.1 h
   simp only[Bool.and_eq_true,Bool.or_eq_true,decide_eq_true_eq]at hb
   have h3:=hcl i o ho hi e he hb.1
   rcases hb.2 with hb2|hb2
   ·rw[hb2]at h3;exact h3
   ·exact zmz hcl f e.on h3 hb2
theorem finBx_ok(h:finBx md ops fin=true):FinOk md ops fin:=by
 intro i listed hcl hf hi
 obtain⟨hun,oi,hoi,hall⟩:=mem_ready.1 hi
 have his:i<ops.size:=(Array.getElem?_eq_some_iff.1 hoi).1
 unfold finBx at h
 rw[List.all_eq_true]at h
 have h1:=h i (List.mem_range.2 his)
 simp only[hf,Bool.not_true,Bool.false_or,List.all_eq_true,List.mem_range,Bool.or_eq_true,decide_eq_true_eq]at h1
 rw[List.eq_nil_iff_forall_not_mem]
 intro j hj
 obtain⟨hjun,oj,hoj,_⟩:=mem_ready.1 hj
 have hjs:j<ops.size:=(Array.getElem?_eq_some_iff.1 hoj).1
 by_cases hji:j=i
 ·subst hji
  rcases Nat.lt_or_ge j listed.size with h'|h'
  ·simp[h']at hjun
  ·simp[Array.getElem?_eq_none h']at hun
 ·rcases h1 j hjs with h2|h2
  ·exact hji h2
  ·have h3:listed.getD j false=true:=by
    obtain⟨f,hf'⟩:∃f,ops.size=f+1:=⟨ops.size-1,by omega⟩
    rw[hf']at h2
    unfold zuc at h2
    rw[hoi]at h2
    obtain⟨e,he,hb⟩:=Array.any_eq_true'.1 h2
    simp only[Bool.and_eq_true,Bool.or_eq_true,decide_eq_true_eq]at hb
    have h3':=hall e he hb.1
    rcases hb.2 with hb2|hb2
    ·rw[hb2]at h3';exact h3'
    ·exact zmz hcl f e.on h3' hb2
   rw[getD_set_ne true (Ne.symm hji)]at hjun
   rcases Nat.lt_or_ge j listed.size with h'|h'
   ·simp[h']at h3 hjun;rw[h3]at hjun;cases hjun
   ·simp[Array.getElem?_eq_none h']at h3
theorem zff{id:Nat}{Q:Exit→Act→World→Prop}{a:Act}{w:World}(U:World→Prop)(sp fin:Nat→Bool)(D:World→Prop)(hok:finBx .any ops fin=true)(hm:P.follows .mixedOrders=true)(hB:Region.lexB .any ops=true)(hc:zpn .any ops sp=true)
 (hU:∀w,D w→U w) (hD:D w.drew) (h:zgw P ops U sp fin (fun a' w'=>Q .normal a' w') ops.toList 0 a D):(Code.region id ops true).wp P Q a w:=by
 simp only[Region.lexB,Bool.and_eq_true]at hB
 have hD':D {w with drawn:=w.drawn+1}:=hD
 refine wp_region_any hm (zfk (U:=U) (sp:=sp) (fin:=fin) (finBx_ok hok) (Q:=fun a' w'=>Q .normal a' w') (fun _ _ h=>h) _ _ _ D _ (fun j oj hoj hl=>by rcases Nat.lt_or_ge j ops.size with h'|h'<;>simp[h']at hl) hU hD' ?_)
 have:=zly (md:= .any) (hU _ hD') hB.1 hc ops.toList 0 a D (by simp) (by simp) (by rw[zda];simpa using hB.2) h
 rw[zda]at this
 simpa using this
end
section
variable {P:Program} {ops:Array Oper} {U:World→Prop} {sp fin:Nat→Bool}
theorem zh0{Q:Act→World→Prop}{a:Act}{o:Oper}{rest:List Oper}{k:Nat}{D:World→Prop}(d:Option Tmp)(w0:World)(hs:sp k=true)(hf:fin k=true)(hg:o.guard=none)(hd:o.dst=d)(p:Value→Prop)(D':Value→World→Prop)(hp:∃v,p v)
 (hrun:∀w,D w→zb5 P (fun v w'=>p v∧D' v w') ((execOp a.eval o).run P w)) (h:∀v,p v→Oper.quiet P ⟨d,.move (.const v),0,"",#[],none⟩ a (fun _=>True) (fun a'=>zgw P ops U sp fin Q rest (k+1) a' (D' v))):zgw P ops U sp fin Q (o::rest) k a D:=
 zlw hs hf hg p D' hp hrun fun v hv=>by
  rw[hd]
  exact zcp w0 (h v hv)
end
end Go.Proofs.YtcbnnfeelhlapadGreatDoor
namespace Go.Proofs.YtcbnnfeelhlapadGreatDoor
set_option maxHeartbeats 3200000
set_option maxRecDepth 20000
open Go Go.RowKit
section
variable {base R E F:Nat} {qw:Nat→Nat} {w0 wk w':World} {S:Nat→Prop} {told:ByteArray} {u:Twn} {ex:Th base}
theorem zbi.logK(h:zbi base w0 S R E F qw told u ex wk):∃dv,wk.cell? ⟨F,0,none⟩=some dv∧F<wk.heap.size∧∀wk',zak (fun k=>k=R) wk wk'→zkz wk' dv u.b.ds:=by
 obtain⟨T,h1,h2⟩:=h.apart
 obtain⟨ow,h3,h4⟩:=h1.own
 have a1:=h3.at_ 1 (by omega)
 rw[zge]at a1
 obtain⟨dv,hb⟩:=a1
 refine⟨dv,hb.cells.deeds,hb.cells.lt,fun wk' hk=> ?_⟩
 have:=hb.kept hk (fun k e e'=>h2 (by rw[←e'];exact h4 k (by have e2:ow k=1:=e;omega)))
 exact this.ownD.dlst
theorem zbi.openK(h:zbi base w0 S R E F qw told u ex wk){k:Nat}(hk:k<4){r:Wr}(he:u.ws k=some r):∃ov,wk.cell? ⟨qw k,4,none⟩=some ov∧qw k<wk.heap.size∧∀wk',zak (fun k=>k=R) wk wk'→zkz wk' ov r.opens:=by
 obtain⟨T,h1,h2⟩:=h.apart
 obtain⟨ow,h3,h4⟩:=h1.own
 have a1:=h3.at_ (2+k) (by omega)
 rw[zo6 hk]at a1
 unfold zz2 at a1
 rw[he]at a1
 obtain⟨bv,ov,hb⟩:=a1
 refine⟨ov,hb.cells.opens,hb.cells.lt,fun wk' hkk=> ?_⟩
 have:=hb.kept hkk (fun j e e'=>h2 (by rw[←e'];exact h4 j (by have e2:ow j=2+k:=e;omega)))
 exact this.ownO.dlst
theorem zbi.bookNe(h:zbi base w0 S R E F qw told u ex wk):F≠R:=by
 obtain⟨T,h1,h2⟩:=h.apart
 obtain⟨ow,h3,h4⟩:=h1.own
 have a1:=h3.at_ 1 (by omega)
 rw[zge]at a1
 obtain⟨dv,hb⟩:=a1
 have e2:ow F=1:=hb.hB
 intro e
 exact h2 (by rw[←e];exact h4 F (by omega))
theorem zbi.leastK(h:zbi base w0 S R E F qw told u ex wk):
 Calls Tryz.prog 44 #[.pointer (some ⟨F,0,none⟩)] wk fun e w'=>e= .returned (.int .i64 (zao u.b))∧w'=wk:=by
 obtain⟨T,h1,_⟩:=h.apart
 obtain⟨T2,dv,hb,_⟩:=h1.start.book
 exact zzm hb h.ti.good
theorem zbi.textK(h:zbi base w0 S R E F qw told u ex wk){k:Nat}(hk:k<4){r:Wr}(he:u.ws k=some r):
 Calls Tryz.prog 37 #[.pointer (some ⟨qw k,0,none⟩)] wk fun e w'=>e= .returned (.string (strOfNums (vw r.list r.seen r.me)))∧Below wk.heap.size wk w':=by
 obtain⟨T,h1,_⟩:=h.apart
 obtain⟨T2,bv,ov,hs,_⟩:=h1.start.wr hk he
 obtain⟨tk,hr⟩:=h.tr
 have hok:=zbj hr he
 exact text_sc hs (by have:=hok.few;omega) hok.top
theorem zbi.charsK(h:zbi base w0 S R E F qw told u ex wk):
 Calls Tryz.prog 39 #[.pointer (some ⟨F,0,none⟩)] wk fun e w'=>∃v',e= .returned v'∧Own w' wk.heap.size v' u.b.chars∧Below wk.heap.size wk w':=by
 obtain⟨T,h1,_⟩:=h.apart
 obtain⟨T2,dv,hb,_⟩:=h1.start.book
 exact zk2 hb h.ti.good
theorem zbi.here(h:zbi base w0 S R E F qw told u ex wk){n:Int}{r:Wr}(he:u.ws n=some r):∃k:Nat,n=k∧k<4:=zc3 (h.ti.is_here he).2
theorem zbi.wlen(h:zbi base w0 S R E F qw told u ex wk){n:Int}{r:Wr}(he:u.ws n=some r):(strOfNums (vw r.list r.seen r.me)).size≤200∧r.opens.length≤1000:=by
 obtain⟨tk,hr⟩:=h.tr
 have hok:=zbj hr he
 rw[zbr]
 have:=qcn r.list r.seen r.me
 have:=hok.len
 have:=hok.few
 exact⟨by omega,by omega⟩
end
theorem zoc(l:List Int):(⟨#[116,101,120,116,32]⟩++strOfNums l)++nlS=bl (zfo l):=by
 have e0:strOfNums l=bl (zkb l):=(zjk _).symm
 have e1:bl [116,101,120,116,32]++bl (zkb l)=bl ([116,101,120,116,32]++zkb l):=zf5 _ _
 have e2:bl ([116,101,120,116,32]++zkb l)++bl [10]=bl (([116,101,120,116,32]++zkb l)++[10]):=zf5 _ _
 have e3:zfo l=([116,101,120,116,32]++zkb l)++[10]:=by rw[zfo,List.append_assoc]
 rw[e3,←e2,←e1,←e0]
structure LsU(base:Nat)(w0:World)(S:Nat→Prop)(R E F:Nat)(qw:Nat→Nat)(u:Twn)(dv:Value)(wk:World):Prop where
 rk:∃told,zbi base w0 S R E F qw told u (Th.no base) wk
 cell:wk.cell? ⟨F,0,none⟩=some dv
 lt:F<wk.heap.size
theorem qb9(a b:Int):((⟨#[108,101,97,115,116,32]⟩++zc4 a++⟨#[32]⟩)++zc4 b)++nlS=bl (ze4 a b):=by
 have e1:bl [108,101,97,115,116,32]++bl (Lib.itoa a)=bl ([108,101,97,115,116,32]++Lib.itoa a):=zf5 _ _
 have e2:bl ([108,101,97,115,116,32]++Lib.itoa a)++bl [32]=bl (([108,101,97,115,116,32]++Lib.itoa a)++[32]):=zf5 _ _
 have e3:bl (([108,101,97,115,116,32]++Lib.itoa a)++[32])++bl (Lib.itoa b)=bl ((([108,101,97,115,116,32]++Lib.itoa a)++[32])++Lib.itoa b):=zf5 _ _
 have e4:bl ((([108,101,97,115,116,32]++Lib.itoa a)++[32])++Lib.itoa b)++bl [10]=bl (((([108,101,97,115,116,32]++Lib.itoa a)++[32])++Lib.itoa b)++[10]):=zf5 _ _
 have e5:ze4 a b=((([108,101,97,115,116,32]++Lib.itoa a)++[32])++Lib.itoa b)++[10]:=by rw[ze4];simp only[List.append_assoc]
 rw[e5,←e4,←e3,←e2,←e1]
 rfl
theorem qb6{l:List Int}(h:l.length=3):∃a b c,l=[a,b,c]:=by
 match l,h with
 |[a,b,c],_=>exact⟨a,b,c,rfl⟩
def isB(k:List UInt8)(zs:List Int)(wd:List UInt8)(many:Nat):Bool:=decide (k=wd∧zs.length=many)
structure LnB(BL BN:Nat)(lv nv:Value)(ws:List ByteArray)(zs:List Int)(wk:World):Prop where
 bl:wk.cell? ⟨BL,0,none⟩=some lv
 ll:BL<wk.heap.size
 bn:wk.cell? ⟨BN,0,none⟩=some nv
 ln:BN<wk.heap.size
 ls:zb9 wk lv ws
 ns:zlq wk nv zs
structure LnI(base:Nat)(w0:World)(S:Nat→Prop)(R E F:Nat)(qw:Nat→Nat)(told:ByteArray)(u:Twn)(BL BN:Nat)(lv nv:Value)(ws:List ByteArray)(zs:List Int)(wk:World):Prop where
 rk:zbi base w0 S R E F qw told u (Th.no base) wk
 ln:LnB BL BN lv nv ws zs wk
theorem LnB.after{BL BN:Nat}{lv nv:Value}{ws:List ByteArray}{zs:List Int}{wk w':World}(h:LnB BL BN lv nv ws zs wk)(hb:Below wk.heap.size wk w'):LnB BL BN lv nv ws zs w':=by
 have hs:=hb.size
 have h1:=h.ll
 have h2:=h.ln
 exact⟨zd8 h.bl hb,by omega,zd8 h.bn hb,by omega,h.ls.below hb,h.ns.below hb⟩
theorem LnI.after{base:Nat}{w0:World}{S:Nat→Prop}{R E F:Nat}{qw:Nat→Nat}{told:ByteArray}{u:Twn}{BL BN:Nat}{lv nv:Value}{ws:List ByteArray}{zs:List Int}{wk w':World}(h:LnI base w0 S R E F qw told u BL BN lv nv ws zs wk)(hb:Below wk.heap.size wk w'):LnI base w0 S R E F qw told u BL BN lv nv ws zs w':=⟨h.rk.after hb,h.ln.after hb⟩
theorem zmi{BL BN:Nat}{lv nv:Value}{k:List UInt8}{r:List (List UInt8)}{zs:List Int}{wk:World}(h:LnB BL BN lv nv ((k::r).map bl) zs wk)(wd:List UInt8)(many:Nat):
 Calls Tryz.prog 35 (#[.string (bl wd),.int .i64 many]++ #[.pointer (some ⟨BL,0,none⟩),.pointer (some ⟨BN,0,none⟩)]) wk fun e w'=>e= .returned (.bool (isB k zs wd many))∧w'=wk:=by
 obtain⟨b1,l1,b2,l2,hls,hns⟩:=h
 obtain⟨a,cap,rfl,hcap⟩:=hls.len
 obtain⟨a2,cap2,rfl⟩:=hns.len
 have hl0:0<((k::r).map bl).length:=by simp
 obtain⟨bb,off,rfl,hst⟩:=hls.row hl0
 have c0:=hst.cell 0 hl0
 have hbl:=hst.lt
 simp only[Nat.add_zero,List.map_cons,List.getElem_cons_zero]at c0
 have hl1:(0:Int)<(((k::r).map bl).length:Int):=by omega
 generalize ((k::r).map bl).length=L at*
 clear hls hns hst
 have HE:Hid ((k=wd)↔(bl k=bl wd)):=⟨fun e=>by rw[e],fun e=>zpq e⟩
 obtain⟨sk,hsk⟩:∃sk,bl k=sk:=⟨_,rfl⟩
 obtain⟨sw,hsw⟩:∃sw,bl wd=sw:=⟨_,rfl⟩
 rw[hsk,hsw]at HE
 rw[hsk]at c0
 rw[hsw]
 clear hsk hsw
 by_cases h1:sk=sw
 ·subst h1
  have HK:Hid (k=wd):=HE.out.2 rfl
  by_cases h2:zs.length=many
  ·have h2b:((zs.length:Int)==(many:Int))=true:=by rw[h2];simp
   have HR:Hid (isB k zs wd many=true):=by show isB _ _ _ _=true;unfold isB;exact decide_eq_true ⟨HK.out,h2⟩
   clear h2
   go_enter Tryz.func35,Tryz.ntmps35
   go_wp2
   go_ret
   exact⟨zbh HR.out.symm,rfl⟩
  ·have h2b:((zs.length:Int)==(many:Int))=false:=by simp;omega
   have HR:Hid (isB k zs wd many=false):=by show isB _ _ _ _=false;unfold isB;exact decide_eq_false (fun e=>h2 e.2)
   go_enter Tryz.func35,Tryz.ntmps35
   go_wp2
   go_ret
   exact⟨zbh HR.out.symm,rfl⟩
 ·have h1b:(sk.toList==sw.toList)=false:=by rw[qgr];simpa using h1
  have HR:Hid (isB k zs wd many=false):=by show isB _ _ _ _=false;unfold isB;exact decide_eq_false (fun e=>h1 (HE.out.1 e.1))
  go_enter Tryz.func35,Tryz.ntmps35
  go_wp2
  go_ret
  exact⟨zbh HR.out.symm,rfl⟩
theorem qck{t:Twn}{k:List UInt8}{r:List (List UInt8)}(h:zbp (r.map bl)=none):zg2 t (k::r)=(zfl,t):=by
 show(match zbp (r.map bl)with|none=>(zfl,t)|some n=>zci t k n)=_
 rw[h]
theorem qa9{t:Twn}{k:List UInt8}{r:List (List UInt8)}{n:List Int}(h:zbp (r.map bl)=some n):zg2 t (k::r)=zci t k n:=by
 show(match zbp (r.map bl)with|none=>(zfl,t)|some n=>zci t k n)=_
 rw[h]
theorem zi2:∀(l acc:List UInt8),(∀w∈zba acc l,w.length≤acc.length+l.length)∧(zba acc l).length≤l.length+1
 |[],acc=>by
  unfold zba
  split
  ·exact⟨fun w h=>(by cases h),Nat.zero_le _⟩
  ·refine⟨fun w h=> ?_,Nat.le_refl _⟩
   rw[List.mem_singleton]at h
   rw[h]
   exact Nat.le_refl _
 |b::l,acc=>by
  have h0:=zi2 l []
  have h1:=zi2 l (acc++[b])
  unfold zba
  split
  ·split
   ·exact⟨fun w h=>by have:=h0.1 w h;simp at this⊢;omega,by have:=h0.2;simp;omega⟩
   ·refine⟨fun w h=> ?_,by have:=h0.2;simp;omega⟩
    rcases List.mem_cons.1 h with e|e
    ·rw[e];simp
    ·have:=h0.1 w e;simp at this⊢;omega
  ·exact⟨fun w h=>by have:=h1.1 w h;simp at this⊢;omega,by have:=h1.2;simp at this⊢;omega⟩
theorem qci(l:List UInt8):(∀w∈zb0 l,w.length≤l.length)∧(zb0 l).length≤l.length+1:=by
 have:=zi2 l []
 simpa [zb0]using this
structure NbI(wA:World)(nv:Value)(zs:List Int)(wk:World):Prop where
 below:Below wA.heap.size wA wk
 lt:wA.heap.size<wk.heap.size
 cell:wk.cell? ⟨wA.heap.size,0,none⟩=some nv
 free:wk.frozen? ⟨wA.heap.size,0,none⟩=false
 own:zpv wk (wA.heap.size+1) nv zs
theorem NbI.after{wA wk w':World}{nv:Value}{zs:List Int}(h:NbI wA nv zs wk)(hb:Below wk.heap.size wk w'):NbI wA nv zs w':=by
 obtain⟨hc,hf⟩:=zds hb
 have h1:=h.lt
 exact⟨bla h.below hb,by have:=hb.size;omega,by rw[hc _ _ h1];exact h.cell,by rw[hf _ _ h1];exact h.free,h.own.below hb⟩
theorem qeo(wA:World):NbI wA (.slice none 0 0) [] (wA.alloc (.cells #[.slice none 0 0] 79)):=by
 refine⟨za1 _ _,by simp,?_,?_,zlc _ _⟩
 ·simp[go_sem]
 ·simp[go_sem]
theorem NbI.grown2{wA wr w2:World}{nv:Value}{zs:List Int}(h:NbI wA nv zs wr)(hg:wr.grownBy w2 nv.ownBlock):w2.cell? ⟨wA.heap.size,0,none⟩=some nv∧w2.frozen? ⟨wA.heap.size,0,none⟩=false∧wA.heap.size<w2.heap.size:=by
 have hlt:=h.lt
 have hne:∀k,nv.ownBlock=some k→wA.heap.size+1≤k:=fun k e=>(World.ownsRow.lt h.own k e).1
 have hblk:w2.heap[wA.heap.size]? =wr.heap[wA.heap.size]? :=hg.block _ hlt (fun e=>by have:=hne _ e.symm;omega)
 exact⟨by rw[World.cell?_of_block (a:=⟨wA.heap.size,0,none⟩) hblk];exact h.cell,by rw[World.frozen?_of_block (a:=⟨wA.heap.size,0,none⟩) hblk];exact h.free,Nat.lt_of_lt_of_le hlt hg.size⟩
theorem NbI.put{wA wr w2:World}{nv v':Value}{zs:List Int}{z:Int}(h:NbI wA nv zs wr)(ho:w2.ownsRow (wA.heap.size+1) 3 1 v' (zs.length+1) (ziu zs++[.int .i64 z]))(hg:wr.grownBy w2 nv.ownBlock):NbI wA v' (zs++[z]) (w2.setCell ⟨wA.heap.size,0,none⟩ v'):=by
 have hlt:=h.lt
 have hbs:=h.below.size
 have hne:∀k,nv.ownBlock=some k→wA.heap.size+1≤k:=fun k e=>(World.ownsRow.lt h.own k e).1
 have hb2:Below wA.heap.size wA w2:=h.below.grown hg (by omega) (fun k e=>by have:=hne k e;omega)
 have hblk:w2.heap[wA.heap.size]? =wr.heap[wA.heap.size]? :=hg.block _ hlt (fun e=>by have:=hne _ e.symm;omega)
 have hc2:w2.cell? ⟨wA.heap.size,0,none⟩=some nv:=by rw[World.cell?_of_block (a:=⟨wA.heap.size,0,none⟩) hblk];exact h.cell
 have hf2:w2.frozen? ⟨wA.heap.size,0,none⟩=false:=by rw[World.frozen?_of_block (a:=⟨wA.heap.size,0,none⟩) hblk];exact h.free
 have hz2:wA.heap.size<w2.heap.size:=Nat.lt_of_lt_of_le hlt hg.size
 refine⟨hb2.setCell (p:=⟨wA.heap.size,0,none⟩) (Nat.le_refl _) _,by simpa [World.setCell]using hz2,?_,?_,?_⟩
 ·simp[go_sem,hc2]
 ·simpa [go_sem]using hf2
 ·unfold zpv
  rw[zmq,List.length_append]
  exact ownsRow_setCell_below ho (a:=⟨wA.heap.size,0,none⟩) (Nat.lt_succ_self _) _
end Go.Proofs.YtcbnnfeelhlapadGreatDoor
namespace Go.Proofs.YtcbnnfeelhlapadGreatDoor
set_option maxHeartbeats 3200000
open Go Go.RowKit
theorem zw0(r:List UInt8):zb0 (32::r)=zb0 r:=by
 unfold zb0
 rw[zba,if_pos rfl,if_pos rfl]
theorem zlz:∀s:List UInt8,zb0 (Lib.trimLeftB s 32)=zb0 s
 |[]=>rfl
 |b::r=>by
  unfold Lib.trimLeftB
  rw[List.dropWhile_cons]
  by_cases hb:b=32
  ·subst hb
   rw[if_pos (by rfl),zw0]
   exact zlz r
  ·rw[if_neg (by simpa using hb)]
theorem zo7:∀s:List UInt8,Lib.trimLeftB s 32=[]∨∃b r,Lib.trimLeftB s 32=b::r∧b≠32
 |[]=> .inl rfl
 |b::r=>by
  unfold Lib.trimLeftB
  rw[List.dropWhile_cons]
  by_cases hb:b=32
  ·rw[if_pos (by simpa using hb)]
   exact zo7 r
  ·rw[if_neg (by simpa using hb)]
   exact .inr ⟨b,r,rfl,hb⟩
theorem zrr:∀s:List UInt8,(Lib.trimLeftB s 32).length≤s.length
 |[]=>Nat.le_refl _
 |b::r=>by
  unfold Lib.trimLeftB
  rw[List.dropWhile_cons]
  have:=zrr r
  unfold Lib.trimLeftB at this
  split
  ·simp;omega
  ·exact Nat.le_refl _
theorem zk8:∀(s acc:List UInt8),zf2 s=none→acc++s≠[]→zba acc s=[acc++s]
 |[],acc,_,h=>by
  rw[List.append_nil]at h⊢
  rw[zba,if_neg h]
 |b::r,acc,hc,h=>by
  have hb:b≠32:=zpi hc b (by simp)
  have hc':zf2 r=none:=zpj (fun c hc2=>zpi hc c (by simp[hc2]))
  rw[zba,if_neg hb,zk8 r (acc++[b]) hc' (by simp)]
  simp
theorem zk7:∀(s acc x y:List UInt8),zf2 s=some (x,y)→acc++x≠[]→zba acc s=(acc++x)::zb0 y
 |[],_,_,_,h,_=>by cases h
 |b::r,acc,x,y,hc,h=>by
  rw[zf2]at hc
  by_cases hb:b=32
  ·rw[if_pos hb]at hc
   obtain⟨rfl,rfl⟩:=Prod.mk.inj (Option.some.inj hc)
   rw[List.append_nil]at h⊢
   rw[zba,if_pos hb,if_neg h]
   rfl
  ·rw[if_neg hb]at hc
   cases hr:zf2 r with
   |none=>rw[hr]at hc;cases hc
   |some p=>
    rw[hr]at hc
    obtain⟨rfl,rfl⟩:=Prod.mk.inj (Option.some.inj hc)
    rw[zba,if_neg hb,zk7 r (acc++[b]) p.1 p.2 hr (by simp)]
    simp
theorem qgd(s:List UInt8):Lib.cut s [32]=match zf2 s with|some p=>(p.1,p.2,true)|none=>(s,[],false):=by
 unfold Lib.cut
 rcases zp9 s with⟨h1,h2⟩|⟨x,y,h1,h2⟩
 ·rw[h1,h2,if_neg (by decide)]
 ·have hj:=zez h1
  rw[h1,h2,if_pos (by omega)]
  have e1:s.take (x.length:Int).toNat=x:=by rw[hj];simp
  have e2:s.drop ((x.length:Int).toNat+[(32:UInt8)].length)=y:=by rw[hj];simp
  rw[e1,e2]
structure LwI(L:List UInt8)(done:List (List UInt8))(rest:List UInt8):Prop where
 go:done++zb0 rest=zb0 L
 hd:rest=[]∨∃b r,rest=b::r∧b≠32
 ld:done.length≤5
 lr:rest.length≤L.length
theorem qev(L:List UInt8):LwI L [] (Lib.trimLeftB L 32):=⟨zlz L,zo7 L,Nat.zero_le _,zrr L⟩
theorem LwI.next{L:List UInt8}{done:List (List UInt8)}{rest:List UInt8}(h:LwI L done rest)(hr:rest≠[])(hd:done.length≤4):
 LwI L (done++[(Lib.cut rest [32]).1]) (Lib.trimLeftB (Lib.cut rest [32]).2.1 32)∧(Lib.trimLeftB (Lib.cut rest [32]).2.1 32).length<rest.length∧(Lib.cut rest [32]).2.1.length≤rest.length∧(Lib.cut rest [32]).1.length≤rest.length:=by
 obtain⟨b,r,rfl,hb⟩:=h.hd.resolve_left hr
 have hgo:=h.go
 have hlr:=h.lr
 rw[qgd]
 cases hc:zf2 (b::r)with
 |none=>
  have hw:zb0 (b::r)=[b::r]:=zk8 _ [] hc (by simp)
  refine⟨⟨?_,.inl rfl,by simp;omega,by simp[Lib.trimLeftB]⟩,by simp[Lib.trimLeftB],by simp,by simp⟩
  rw[hw]at hgo
  show(done++[b::r])++zb0 []=_
  rw[←hgo]
  simp[zb0,zba]
 |some p=>
  have hx:p.1≠[]:=fun e=>by
   have:=zez (x:=p.1) (y:=p.2) hc
   rw[e]at this
   exact hb (List.cons.inj this).1
  have hw:zb0 (b::r)=p.1::zb0 p.2:=zk7 _ [] p.1 p.2 hc (by simpa using hx)
  have hl:p.1.length+p.2.length+1=(b::r).length:=by
   have:=congrArg List.length (zez (x:=p.1) (y:=p.2) hc)
   simp only[List.length_append,List.length_cons]at this⊢
   omega
  have ht:=zrr p.2
  refine⟨⟨?_,zo7 _,by simp;omega,?_⟩,?_,?_,?_⟩
  ·rw[hw]at hgo
   show(done++[p.1])++zb0 (Lib.trimLeftB p.2 32)=_
   rw[zlz,List.append_assoc]
   exact hgo
  ·show(Lib.trimLeftB p.2 32).length≤_;omega
  ·show(Lib.trimLeftB p.2 32).length<_;omega
  ·show p.2.length≤_;omega
  ·show p.1.length≤_;omega
theorem LwI.ended{L:List UInt8}{done:List (List UInt8)}{rest:List UInt8}(h:LwI L done rest)(he:rest=[]∨4<done.length):done=(zb0 L).take 5:=by
 have hld:=h.ld
 rcases he with rfl|he
 ·have:=h.go
  rw[show zb0 []=[] from rfl,List.append_nil]at this
  rw[←this,List.take_of_length_le hld]
 ·rw[←h.go,List.take_append_of_le_length (by omega),List.take_of_length_le hld]
theorem zl2:∀(s acc:List UInt8),∀x∈zba acc s,x.length≤acc.length+s.length
 |[],acc,x,h=>by
  rw[zba]at h
  split at h
  ·cases h
  ·rw[List.mem_singleton]at h;rw[h];simp
 |b::r,acc,x,h=>by
  rw[zba]at h
  split at h
  ·split at h
   ·have:=zl2 r [] x h;simp at this⊢;omega
   ·rcases List.mem_cons.1 h with rfl|h
    ·simp
    ·have:=zl2 r [] x h;simp at this⊢;omega
  ·have:=zl2 r (acc++[b]) x h;simp at this⊢;omega
theorem zvl(t:Twn)(k:List UInt8){n:List Int}(h0:n.length≠0)(h1:n.length≠1)(h3:n.length≠3):zci t k n=(zfl,t):=by
 unfold zci
 rw[if_neg (fun e=>h3 e.2),if_neg (fun e=>h1 e.2),if_neg (fun e=>h1 e.2),if_neg (fun e=>h1 e.2),if_neg (fun e=>h1 e.2),if_neg (fun e=>h1 e.2),if_neg (fun e=>h1 e.2),if_neg (fun e=>h0 e.2),if_neg (fun e=>h1 e.2),if_neg (fun e=>h0 e.2),if_neg (fun e=>h1 e.2),if_neg (fun e=>h0 e.2),if_neg (fun e=>h0 e.2)]
theorem zo4(t:Twn)(k:List UInt8)(r:List (List UInt8))(h:4≤r.length):zg2 t (k::r)=(zfl,t):=by
 rw[zg2]
 cases hr:zbp (r.map bl)with
 |none=>rfl
 |some n=>
  have:=zhp _ _ hr
  rw[List.length_map]at this
  exact zvl t k (by omega) (by omega) (by omega)
theorem zw2(t:Twn):∀l:List (List UInt8),zg2 t (l.take 5)=zg2 t l
 |[]=>rfl
 |k::r=>by
  rw[List.take_succ_cons]
  by_cases h:r.length≤4
  ·rw[List.take_of_length_le h]
  ·rw[zo4 t k r (by omega),zo4 t k (r.take 4) (by rw[List.length_take];omega)]
def zkl(l:List (List UInt8)):Option (Int×Int×List UInt8):=match l with
 |[a,b,c,text]=>if a=[112,117,116]then(match zbp [bl b,bl c]with|some [w,at_]=>some (w,at_,text)|_=>none)else none
 |_=>none
theorem zoz(x y:ByteArray):zbp [x,y]=match ze3 x with|none=>none|some a=>(match ze3 y with|none=>none|some b=>some [a,b]):=by
 cases h1:ze3 x with
 |none=>simp[zbp,h1]
 |some a=>
  cases h2:ze3 y with
  |none=>simp[zbp,h1,h2]
  |some b=>simp[zbp,h1,h2]
theorem zp0(s:List UInt8):zeq s=zkl (zmn 3 s):=by
 unfold zeq
 simp only[zmn]
 cases h1:zf2 s with
 |none=>rfl
 |some p=>
  obtain⟨a,rest⟩:=p
  dsimp only
  cases h2:zf2 rest with
  |none=>
   dsimp only
   split<;>rfl
  |some q=>
   obtain⟨b,more⟩:=q
   dsimp only
   cases h3:zf2 more with
   |none=>
    dsimp only
    split<;>rfl
   |some z=>
    obtain⟨c,text⟩:=z
    dsimp only[zkl]
    rw[zoz]
    by_cases ha:a=[112,117,116]
    ·rw[if_pos ha,if_pos ha]
     cases ze3 (bl b)with
     |none=>rfl
     |some w=>
      cases ze3 (bl c)with
      |none=>rfl
      |some at_=>rfl
    ·rw[if_neg ha,if_neg ha]
def zfv(s:ByteArray):List ByteArray:=Lib.splitB spS 0 (min 4 (s.size+1)-1) s
theorem qbo(s:ByteArray):zfv s=(zmn 3 s.data.toList).map bl:=by
 have h:=Lib.splitB_data spS 0 (min 4 (s.size+1)-1) s
 have e:zmn (min 4 (s.size+1)-1) s.data.toList=zmn 3 s.data.toList:=by
  by_cases h5:3≤s.size
  ·rw[show min 4 (s.size+1)-1=3 by omega]
  ·have:=zvi s.size (3-s.size) s.data.toList (by rw[zay];exact Nat.le_refl _)
   rw[show s.size+(3-s.size)=3 by omega]at this
   rw[show min 4 (s.size+1)-1=s.size by omega,this]
 rw[show spS.data.toList=[32] from rfl,zqq,e]at h
 have h2:(zfv s).map (fun x=>bl x.data.toList)=(zmn 3 s.data.toList).map bl:=by
  rw[←h,List.map_map];rfl
 rw[←h2]
 have h3:(zfv s).map (fun x=>bl x.data.toList)=(zfv s).map id:=List.map_congr_left (fun x _=>zjk x)
 rw[h3,List.map_id]
def jnB(ws:List (List UInt8)):List UInt8:=Lib.join ws [32]
theorem ztq:∀zs:List Int,Lib.joinTail [32] (zs.map Lib.itoa)=zdv zs
 |[]=>rfl
 |z::zs=>by
  have:=ztq zs
  unfold Lib.joinTail at this⊢
  rw[List.map_cons,List.map_cons,List.flatten_cons,this,zdv]
  simp
theorem qfc(w:List UInt8)(zs:List Int):jnB (w::zs.map Lib.itoa)=w++zdv zs:=by
 unfold jnB
 rw[Lib.join_cons,ztq]
theorem znr(a b:List UInt8):jnB [a,b]=a++32::b:=by
 unfold jnB
 rw[Lib.join_cons]
 simp[Lib.joinTail]
theorem zod(l:List Int):zfo l=jnB [[116,101,120,116],zkb l]++[10]:=by
 rw[znr,zfo]
 simp
theorem no_join(c:Int):noW c=([110,111]++zdv [c])++[10]:=by
 simp[noW,zdv]
theorem zx6(a b:Int):ze4 a b=([108,101,97,115,116]++zdv [a,b])++[10]:=by
 simp[ze4,zdv]
theorem by_join(zs:List Int):byW zs=([98,121]++zdv zs)++[10]:=by
 rw[byW,List.append_assoc]
theorem zxk(s:List UInt8):decide (0≤Lib.indexByte s 10)=zgy s:=by
 induction s with
 |nil=>rfl
 |cons b r ih=>
  rw[Lib.indexByte,zgy,List.any_cons]
  by_cases hb:b=10
  ·subst hb;rfl
  ·have h1:(b==10)=false:=beq_eq_false_iff_ne.2 hb
   rw[h1,Bool.false_or]
   have h2:∀l:List UInt8,-1≤Lib.indexByte l 10:=by
    intro l
    induction l with
    |nil=>decide
    |cons c l ih2=>rw[Lib.indexByte];split;omega;split;omega;omega
   have h3:=h2 r
   rw[zgy]at ih
   rw[←ih]
   simp only[Bool.false_eq_true,↓reduceIte]
   by_cases h4:Lib.indexByte r 10= -1
   ·rw[h4];rfl
   ·have:(Lib.indexByte r 10== -1)=false:=beq_eq_false_iff_ne.2 h4
    rw[this]
    simp only[Bool.false_eq_true,↓reduceIte]
    congr 1
    apply propext
    omega
theorem zsv:∀(l:List (List UInt8)) (i k:Nat) (h:k<l.length),(∀(j:Nat) (hj:j<k),zgy (l[j]'(by omega))=false)→zgy l[k]=true→zbv i l=(11,((i+k:Nat):Int))
 |s::r,i,0,_,_,h=>by
  rw[zbv,if_pos (by simpa using h)]
  rfl
 |s::r,i,k+1,hk,hb,h=>by
  have h0:=hb 0 (by omega)
  rw[zbv,if_neg (by simp at h0;simp[h0]),zsv r (i+1) k (by simpa using hk) (fun j hj=>by have:=hb (j+1) (by omega);simpa using this) (by simpa using h)]
  congr 2
  omega
theorem zmk:∀(l:List (List UInt8)) (i:Nat),(∀s∈l,zgy s=false)→zbv i l=(0,0)
 |[],_,_=>rfl
 |s::r,i,h=>by
  rw[zbv,if_neg (by simp[h s (by simp)]),zmk r (i+1) (fun x hx=>h x (by simp[hx]))]
end Go.Proofs.YtcbnnfeelhlapadGreatDoor