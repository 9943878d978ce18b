/-
  What is asked of all: askOfAll; and ask.
-/
import Derived.Test.YtcbnnfeelhlapadGreatDoorKLO
import Derived.Test.YtcbnnfeelhlapadGreatDoorFDeeds
import Derived.Test.YtcbnnfeelhlapadGreatDoorHpRef
import Derived.Test.YtcbnnfeelhlapadGreatDoorKMath
import Derived.Test.YtcbnnfeelhlapadGreatDoorStR
import Derived.Test.YtcbnnfeelhlapadGreatDoorTRel
import Derived.BigRegion
import Derived.RegionTactic
namespace Go.Proofs.YtcbnnfeelhlapadGreatDoor
set_option maxHeartbeats 6400000
set_option maxRecDepth 20000
open Go Go.RowKit
section
variable {base R D G:Nat} {pw:Nat→Nat} {w0 wk w':World} {S:Nat→Prop} {told:List UInt8} {t:Twn}
theorem zaz.leasts(h:zaz base w0 S R D G pw told t wk):Calls Tryz.prog 84 #[.pointer (some ⟨G,0,none⟩)] wk fun e w'=>e= .returned (.int .i64 (zao t.b))∧Below wk.heap.size wk w':=by
 obtain⟨tk,h1,h2⟩:=h.any
 obtain⟨T,dv,lv,hl,_⟩:=h1.log
 exact zzl hl h2.ti.good
theorem zaz.numbersSaid(h:zaz base w0 S R D G pw told t wk)(wd:ByteArray){v:Value}{zs:List Int}(hv:zlq wk v zs)(hi:∀z∈zs,inI z)(hn:zs.length≤1000)(hw:wd.size≤100)(hz:told.length≤800000000):
 Calls Tryz.prog 68 #[.pointer (some ⟨R,0,none⟩),.string wd,v] wk fun e w'=>e= .returned (.tuple #[])∧zaz base w0 S R D G pw (told++((wd.data.toList++zdv zs)++[10])) t w':=
 h.tells (Below.refl _ _) fun _ a1 a2 _ a4=>zi8 a1 a2 a4 wd hv hi hn hw hz
theorem ilst_two(w:World)(y z:Int):zlq (w.alloc (.cells #[.int .i64 y,.int .i64 z] 3)) (.slice (some ⟨w.heap.size,0,none⟩) 2 2) [y,z]:=
 ⟨_,2,2,rfl,rfl,Nat.le_refl _,.inr ⟨_,0,rfl,by simp,fun i hi=>by
  have h2:i<2:=hi
  rcases(show i=0∨i=1 by omega)with rfl|rfl<;>simp[go_sem]⟩⟩
def all0(t:Twn)(k:List UInt8):List UInt8×Twn:=
 if k=[116,101,120,116]then(zfo (zdi t.b.chars),t)
 else if k=[108,111,103]then(zb3 t.b.ds++znw,t)
 else if k=[115,101,116,116,108,101]then(okW,zdz t)
 else if k=[108,101,97,115,116]then(ze4 (zao t.b) t.b.len,t)
 else(zfl,t)
theorem zpl(t:Twn)(k:List UInt8):zci t k []=all0 t k:=by
 unfold zci all0
 by_cases h0:k=[116,101,120,116]
 ·subst h0;simp
 by_cases h1:k=[108,111,103]
 ·subst h1;simp
 by_cases h2:k=[115,101,116,116,108,101]
 ·subst h2;simp
 by_cases h3:k=[108,101,97,115,116]
 ·subst h3;simp
 simp[h0,h1,h2,h3]
theorem zvk(t:Twn)(k:List UInt8)(a b c:Int):zci t k [a,b,c]=if k=[116,97,107,101]then zca t ⟨3,a,b,c,⟨#[]⟩⟩else(zfl,t):=by
 unfold zci
 by_cases h:k=[116,97,107,101]
 ·subst h;simp
 ·simp[h]
theorem zya(h:zaz base w0 S R D G pw told t wk)(k:List UInt8)(hz:told.length≤500000000):
 Calls Tryz.prog 54 #[.pointer (some ⟨R,0,none⟩),.string (bl k)] wk fun e w'=>e= .returned (.tuple #[])∧∃pw',zaz base w0 S R D G pw' (told++(zci t k []).1) (zci t k []).2 w':=by
 have HI:Hid (zaz base w0 S R D G pw told t wk):=h
 have HEQ:Hid (∀wd:List UInt8,k=wd→((bl k).toList==wd)=true):=fun wd e=>by rw[zbk,e];simp
 have HNE:Hid (∀wd:List UInt8,k≠wd→((bl k).toList==wd)=false):=fun wd e=>by rw[zbk];simp only[decide_eq_false_iff_not];exact fun e'=>e (zpq e')
 obtain⟨sk,hsk⟩:∃sk,bl k=sk:=⟨_,rfl⟩
 obtain⟨c2,hR⟩:=h.cell
 obtain⟨c3,hD⟩:=h.log
 rw[hsk]at HEQ HNE⊢
 clear h hsk
 by_cases hc:k=[116,101,120,116]
 ·have hb0:(sk.toList==([116,101,120,116]:List UInt8))=true:=HEQ.out _ hc
  have HV:Hid (zci t k []=(zfo (zdi t.b.chars),t)):=by
   show _=_
   rw[zpl]
   unfold all0
   rw[if_pos hc]
  clear hc
  have HSZ:Hid ((strOfNums (zdi t.b.chars)).size≤200):=by
   show _≤_
   rw[zbr]
   unfold zdi
   rw[List.length_map]
   have:=List.length_filter_le zgg t.b.chars
   have:=zb2 (b:=t.b)
   omega
  have HTX:Hid (Calls Tryz.prog 80 #[.pointer (some ⟨G,0,none⟩)] wk fun e w'=>e= .returned (.string (strOfNums (zdi t.b.chars)))∧Below wk.heap.size wk w'):=HI.out.any.text
  have HTW:Hid (zfo (zdi t.b.chars)=jnB [[116,101,120,116],(strOfNums (zdi t.b.chars)).data.toList]++[10]):=zod _
  rw[HTW.out]at HV
  obtain⟨st,hst⟩:∃st,strOfNums (zdi t.b.chars)=st:=⟨_,rfl⟩
  rw[hst]at HSZ HTX HV
  clear hst HTW
  go_enter Tryz.func54,Tryz.ntmps54
  go_wp2_with fail
  clear c2 hR c3 hD
  refine HTX.out.mono ?_
  rintro e w5 ⟨rfl,hb⟩
  have H5:Hid (zaz base w0 S R D G pw told t w5):=HI.out.after hb
  clear hb HI HTX
  go_wp2_with fail
  refine(H5.out.says2 ⟨#[116,101,120,116]⟩ st (by have:=HSZ.out;show _+(4+_)≤_;omega)).mono ?_
  rintro e w6 ⟨rfl,h6⟩
  have H6:Hid (∃pw',zaz base w0 S R D G pw' (told++(zci t k []).1) (zci t k []).2 w6):=by rw[HV.out];exact⟨pw,h6⟩
  clear h6 H5
  go_wp2_with fail
  go_end0
  exact⟨rfl,H6.out⟩
 have hn0:k≠[116,101,120,116]:=hc
 clear hc
 by_cases hc:k=[108,111,103]
 ·have hb0:(sk.toList==([116,101,120,116]:List UInt8))=false:=HNE.out _ hn0
  have hb1:(sk.toList==([108,111,103]:List UInt8))=true:=HEQ.out _ hc
  have HV:Hid (zci t k []=(zb3 t.b.ds++znw,t)):=by
   show _=_
   rw[zpl]
   unfold all0
   rw[if_neg hn0,if_pos hc]
  clear hn0 hc
  have HSM:Hid (t.b.ds.length≤1000):=by show _≤_;have:=HI.out.ti.good.small;omega
  go_enter Tryz.func54,Tryz.ntmps54
  go_wp2_with fail
  clear c2 hR c3 hD
  refine(qf0 HI.out).mono ?_
  rintro e w5 ⟨lv,rfl,ho,hb⟩
  have HO:Hid (zfy w5 wk.heap.size lv t.b.ds):=ho
  have HB:Hid (Below wk.heap.size wk w5):=hb
  obtain⟨la,lc,rfl⟩:=qg6 ho.dlst
  clear ho hb
  go_wp2_with fail
  refine(HI.out.lists HB.out HO.out HSM.out (by omega)).mono ?_
  rintro e w6 ⟨rfl,h6⟩
  have H6:Hid (∃pw',zaz base w0 S R D G pw' (told++(zci t k []).1) (zci t k []).2 w6):=by rw[HV.out];exact⟨pw,h6⟩
  clear h6 HI
  go_wp2_with fail
  go_end0
  exact⟨rfl,H6.out⟩
 have hn1:k≠[108,111,103]:=hc
 clear hc
 by_cases hc:k=[115,101,116,116,108,101]
 ·have hb0:(sk.toList==([116,101,120,116]:List UInt8))=false:=HNE.out _ hn0
  have hb1:(sk.toList==([108,111,103]:List UInt8))=false:=HNE.out _ hn1
  have hb2:(sk.toList==([115,101,116,116,108,101]:List UInt8))=true:=HEQ.out _ hc
  have HV:Hid (zci t k []=(okW,zdz t)):=by
   show _=_
   rw[zpl]
   unfold all0
   rw[if_neg hn0,if_neg hn1,if_pos hc]
  clear hn0 hn1 hc
  go_enter Tryz.func54,Tryz.ntmps54
  go_wp2_with fail
  clear c2 hR c3 hD
  refine HI.out.settles.mono ?_
  rintro e w5 ⟨rfl,h5⟩
  have H5:Hid (zaz base w0 S R D G pw told (zdz t) w5):=h5
  clear h5 HI
  go_wp2_with fail
  refine(H5.out.says ⟨#[111,107]⟩ (by show _+2≤_;omega)).mono ?_
  rintro e w6 ⟨rfl,h6⟩
  have H6:Hid (∃pw',zaz base w0 S R D G pw' (told++(zci t k []).1) (zci t k []).2 w6):=by rw[HV.out];exact⟨pw,h6⟩
  clear h6 H5
  go_wp2_with fail
  go_end0
  exact⟨rfl,H6.out⟩
 have hn2:k≠[115,101,116,116,108,101]:=hc
 clear hc
 by_cases hc:k=[108,101,97,115,116]
 ·have hb0:(sk.toList==([116,101,120,116]:List UInt8))=false:=HNE.out _ hn0
  have hb1:(sk.toList==([108,111,103]:List UInt8))=false:=HNE.out _ hn1
  have hb2:(sk.toList==([115,101,116,116,108,101]:List UInt8))=false:=HNE.out _ hn2
  have hb3:(sk.toList==([108,101,97,115,116]:List UInt8))=true:=HEQ.out _ hc
  have HV:Hid (zci t k []=(ze4 (zao t.b) t.b.len,t)):=by
   show _=_
   rw[zpl]
   unfold all0
   rw[if_neg hn0,if_neg hn1,if_neg hn2,if_pos hc]
  clear hn0 hn1 hn2 hc
  clear c2 hR c3 hD
  have hG:=HI.out.ti.good
  have hle:=zfs t.b
  have hsm:=hG.small
  have hge:0≤zao t.b:=zh4 (by show(0:Int)≤(t.b.ds.length:Int);omega) (fun w _ _=>(hG.said w).1)
  have hlen:t.b.len=(t.b.ds.length:Int):=rfl
  have HLS:Hid (∀wk,(∃tx,zaz base w0 S R D G pw tx t wk)→Calls Tryz.prog 84 #[.pointer (some ⟨G,0,none⟩)] wk fun e w'=>e= .returned (.int .i64 (zao t.b))∧Below wk.heap.size wk w'):=fun wk ⟨_,h⟩=>h.leasts
  have HLE:Hid (∀wk,(∃tx,zaz base w0 S R D G pw tx t wk)→Calls Tryz.prog 85 #[.pointer (some ⟨G,0,none⟩)] wk fun e w'=>e= .returned (.int .i64 t.b.ds.length)∧w'=wk):=fun wk ⟨_,h⟩=>h.any.len
  have HIN:Hid (∀z∈[zao t.b,(t.b.ds.length:Int)],inI z):=fun z hz=>by
   simp only[List.mem_cons,List.not_mem_nil,or_false]at hz
   unfold inI
   rcases hz with rfl|rfl<;>omega
  have HLW:Hid (ze4 (zao t.b) t.b.len=([108,101,97,115,116]++zdv [zao t.b,(t.b.ds.length:Int)])++[10]):=zx6 _ _
  rw[HLW.out]at HV
  obtain⟨lN,hlN⟩:∃lN:Int,(t.b.ds.length:Int)=lN:=⟨_,rfl⟩
  obtain⟨lL,hlL⟩:∃lL,zao t.b=lL:=⟨_,rfl⟩
  rw[hlN]at HLE HIN HV
  rw[hlL]at HLS HIN HV
  clear hG hle hsm hge hlen hlN hlL HLW
  go_enter Tryz.func54,Tryz.ntmps54
  go_wp2_with fail
  refine zc1 (fun wk=>∃tx,zaz base w0 S R D G pw tx t wk) (fun i=>i==17||i==18) (fun wk=>zaz base w0 S R D G pw told t wk) (by kernel_rfl) (by kernel_rfl) (by kernel_rfl) (fun _ h=>⟨_,h⟩) (fun _ _ h hb=>h.after hb) (HI.out.after (Below.refl _ _).drew) ?_
  refine wgb (some 38) w0 rfl (.pointer (some ⟨R,0,none⟩)) rfl (by kernel_rfl) (fun wk hwk=> ?_) ?_
  ·refine gus ?_
   generalize hA:Act.eval _=ρ
   have s0:ρ (.tmp 0)= .pointer (some ⟨R,0,none⟩):=by rw[←hA];kernel_rfl
   clear hA
   go_simp
  go_big_quiet_op
  refine wgb (some 39) w0 rfl (.pointer (some ⟨R,0,none⟩)) rfl (by kernel_rfl) (fun wk hwk=> ?_) ?_
  ·refine gus ?_
   generalize hA:Act.eval _=ρ
   have s0:ρ (.tmp 0)= .pointer (some ⟨R,0,none⟩):=by rw[←hA];kernel_rfl
   clear hA
   go_simp
  go_big_quiet_op
  refine wgb (some 40) w0 rfl (.pointer (some ⟨R,0,none⟩)) rfl (by kernel_rfl) (fun wk hwk=> ?_) ?_
  ·refine gus ?_
   generalize hA:Act.eval _=ρ
   have s39:ρ (.tmp 39)= .pointer (some ⟨R,0,none⟩):=by rw[←hA];kernel_rfl
   clear hA
   go_simp
  go_big_quiet_op
  refine wgb (some 41) w0 rfl (.pointer (some ⟨R,2,none⟩)) rfl (by kernel_rfl) (fun wk hwk=> ?_) ?_
  ·refine gus ?_
   generalize hA:Act.eval _=ρ
   have s40:ρ (.tmp 40)= .pointer (some ⟨R,0,none⟩):=by rw[←hA];kernel_rfl
   clear hA
   go_simp
  go_big_quiet_op
  refine wgb (some 42) w0 rfl (.pointer (some ⟨D,0,none⟩)) rfl (by kernel_rfl) (fun wk hwk=> ?_) ?_
  ·refine gus ?_
   generalize hA:Act.eval _=ρ
   have s41:ρ (.tmp 41)= .pointer (some ⟨R,2,none⟩):=by rw[←hA];kernel_rfl
   clear hA
   obtain⟨tx,hx⟩:=hwk
   obtain⟨c2,hR⟩:=hx.cell
   go_simp
  go_big_quiet_op
  refine wgb (some 43) w0 rfl (.pointer (some ⟨D,0,none⟩)) rfl (by kernel_rfl) (fun wk hwk=> ?_) ?_
  ·refine gus ?_
   generalize hA:Act.eval _=ρ
   have s42:ρ (.tmp 42)= .pointer (some ⟨D,0,none⟩):=by rw[←hA];kernel_rfl
   clear hA
   go_simp
  go_big_quiet_op
  refine wgb (some 44) w0 rfl (.pointer (some ⟨D,0,none⟩)) rfl (by kernel_rfl) (fun wk hwk=> ?_) ?_
  ·refine gus ?_
   generalize hA:Act.eval _=ρ
   have s43:ρ (.tmp 43)= .pointer (some ⟨D,0,none⟩):=by rw[←hA];kernel_rfl
   clear hA
   go_simp
  go_big_quiet_op
  refine wgb (some 45) w0 rfl (.pointer (some ⟨G,0,none⟩)) rfl (by kernel_rfl) (fun wk hwk=> ?_) ?_
  ·refine gus ?_
   generalize hA:Act.eval _=ρ
   have s44:ρ (.tmp 44)= .pointer (some ⟨D,0,none⟩):=by rw[←hA];kernel_rfl
   clear hA
   obtain⟨tx,hx⟩:=hwk
   obtain⟨c3,hD⟩:=hx.log
   go_simp
  go_big_quiet_op
  refine wgb (some 46) w0 rfl (.int .i64 (lL)) rfl (by kernel_rfl) (fun wk hwk=> ?_) ?_
  ·generalize hA:Act.eval _=ρ
   have s45:ρ (.tmp 45)= .pointer (some ⟨G,0,none⟩):=by rw[←hA];kernel_rfl
   have sf:ρ (.func 84)= .func (.func 84) #[] #[]:=by rw[←hA];kernel_rfl
   clear hA
   unfold zcf
   go_simp
   exact HLS.out wk hwk
  go_big_quiet_op
  refine wgb (some 47) w0 rfl (.pointer (some ⟨R,0,none⟩)) rfl (by kernel_rfl) (fun wk hwk=> ?_) ?_
  ·refine gus ?_
   generalize hA:Act.eval _=ρ
   have s0:ρ (.tmp 0)= .pointer (some ⟨R,0,none⟩):=by rw[←hA];kernel_rfl
   clear hA
   go_simp
  go_big_quiet_op
  refine wgb (some 48) w0 rfl (.pointer (some ⟨R,0,none⟩)) rfl (by kernel_rfl) (fun wk hwk=> ?_) ?_
  ·refine gus ?_
   generalize hA:Act.eval _=ρ
   have s47:ρ (.tmp 47)= .pointer (some ⟨R,0,none⟩):=by rw[←hA];kernel_rfl
   clear hA
   go_simp
  go_big_quiet_op
  refine wgb (some 49) w0 rfl (.pointer (some ⟨R,2,none⟩)) rfl (by kernel_rfl) (fun wk hwk=> ?_) ?_
  ·refine gus ?_
   generalize hA:Act.eval _=ρ
   have s48:ρ (.tmp 48)= .pointer (some ⟨R,0,none⟩):=by rw[←hA];kernel_rfl
   clear hA
   go_simp
  go_big_quiet_op
  refine wgb (some 50) w0 rfl (.pointer (some ⟨D,0,none⟩)) rfl (by kernel_rfl) (fun wk hwk=> ?_) ?_
  ·refine gus ?_
   generalize hA:Act.eval _=ρ
   have s49:ρ (.tmp 49)= .pointer (some ⟨R,2,none⟩):=by rw[←hA];kernel_rfl
   clear hA
   obtain⟨tx,hx⟩:=hwk
   obtain⟨c2,hR⟩:=hx.cell
   go_simp
  go_big_quiet_op
  refine wgb (some 51) w0 rfl (.pointer (some ⟨D,0,none⟩)) rfl (by kernel_rfl) (fun wk hwk=> ?_) ?_
  ·refine gus ?_
   generalize hA:Act.eval _=ρ
   have s50:ρ (.tmp 50)= .pointer (some ⟨D,0,none⟩):=by rw[←hA];kernel_rfl
   clear hA
   go_simp
  go_big_quiet_op
  refine wgb (some 52) w0 rfl (.pointer (some ⟨D,0,none⟩)) rfl (by kernel_rfl) (fun wk hwk=> ?_) ?_
  ·refine gus ?_
   generalize hA:Act.eval _=ρ
   have s51:ρ (.tmp 51)= .pointer (some ⟨D,0,none⟩):=by rw[←hA];kernel_rfl
   clear hA
   go_simp
  go_big_quiet_op
  refine wgb (some 53) w0 rfl (.pointer (some ⟨G,0,none⟩)) rfl (by kernel_rfl) (fun wk hwk=> ?_) ?_
  ·refine gus ?_
   generalize hA:Act.eval _=ρ
   have s52:ρ (.tmp 52)= .pointer (some ⟨D,0,none⟩):=by rw[←hA];kernel_rfl
   clear hA
   obtain⟨tx,hx⟩:=hwk
   obtain⟨c3,hD⟩:=hx.log
   go_simp
  go_big_quiet_op
  refine wgb (some 54) w0 rfl (.int .i64 (lN)) rfl (by kernel_rfl) (fun wk hwk=> ?_) ?_
  ·generalize hA:Act.eval _=ρ
   have s53:ρ (.tmp 53)= .pointer (some ⟨G,0,none⟩):=by rw[←hA];kernel_rfl
   have sf:ρ (.func 85)= .func (.func 85) #[] #[]:=by rw[←hA];kernel_rfl
   clear hA
   unfold zcf
   go_simp
   exact(HLE.out wk hwk).mono (fun _ _ ⟨he,hw⟩=>⟨he,by rw[hw];exact Below.refl _ _⟩)
  go_big_quiet_op
  refine zbf (some 55) w0 rfl rfl rfl (fun u=>∃E,u= .slice (some ⟨E,0,none⟩) 2 2) (fun u wk=>zaz base w0 S R D G pw told t wk∧zlq wk u [lL,lN]) (⟨.slice (some ⟨0,0,none⟩) 2 2,0,rfl⟩) (fun _ _ h=>⟨_,h.1⟩) (fun _ _ _ h hb=>⟨h.1.after hb,h.2.below hb⟩) (fun wk hwk=> ?_) (fun u9 hu9=> ?_)
  ·generalize hA:Act.eval _=ρ
   have s46:ρ (.tmp 46)= .int .i64 (lL):=by rw[←hA];kernel_rfl
   have s54:ρ (.tmp 54)= .int .i64 (lN):=by rw[←hA];kernel_rfl
   clear hA
   have hq1:=ilst_two wk lL lN
   have hq2:=hwk.after (za1 wk (.cells #[.int .i64 lL,.int .i64 lN] 3))
   go_simp
   exact⟨⟨_,rfl⟩,hq2,hq1⟩
  obtain⟨E,rfl⟩:=hu9
  go_big_quiet_op
  refine zbf (some 56) w0 rfl rfl rfl (fun u=>u= .tuple #[]) (fun _ wk=>zaz base w0 S R D G pw (told++(([108,101,97,115,116]++zdv [lL,lN])++[10])) t wk) (⟨_,rfl⟩) (fun _ _ h=>⟨_,h⟩) (fun _ _ _ h hb=>h.after hb) (fun wk hwk=> ?_) (fun u9 hu9=> ?_)
  ·generalize hA:Act.eval _=ρ
   have s38:ρ (.tmp 38)= .pointer (some ⟨R,0,none⟩):=by rw[←hA];kernel_rfl
   have s55:ρ (.tmp 55)= .slice (some ⟨E,0,none⟩) 2 2:=by rw[←hA];kernel_rfl
   have k2:ρ (.const (.string ⟨#[108,101,97,115,116]⟩))= .string ⟨#[108,101,97,115,116]⟩:=by rw[←hA];kernel_rfl
   have sf:ρ (.func 68)= .func (.func 68) #[] #[]:=by rw[←hA];kernel_rfl
   clear hA
   go_simp
   refine(hwk.1.numbersSaid ⟨#[108,101,97,115,116]⟩ hwk.2 HIN.out (by simp) (by decide) (by omega)).mono ?_
   rintro e w7 ⟨rfl,h7⟩
   exact⟨_,rfl,rfl,h7⟩
  subst hu9
  go_big_quiet_op
  refine zdt (fun w6 h6=> ?_)
  have H6:Hid (∃pw',zaz base w0 S R D G pw' (told++(zci t k []).1) (zci t k []).2 w6):=by rw[HV.out];exact⟨pw,h6⟩
  clear h6 HI
  go_wp2_with fail
  go_end0
  exact⟨rfl,H6.out⟩
 have hn3:k≠[108,101,97,115,116]:=hc
 clear hc
 have hb0:(sk.toList==([116,101,120,116]:List UInt8))=false:=HNE.out _ hn0
 have hb1:(sk.toList==([108,111,103]:List UInt8))=false:=HNE.out _ hn1
 have hb2:(sk.toList==([115,101,116,116,108,101]:List UInt8))=false:=HNE.out _ hn2
 have hb3:(sk.toList==([108,101,97,115,116]:List UInt8))=false:=HNE.out _ hn3
 have HV:Hid (zci t k []=(zfl,t)):=by
  show _=_
  rw[zpl]
  unfold all0
  rw[if_neg hn0,if_neg hn1,if_neg hn2,if_neg hn3]
 clear hn0 hn1 hn2 hn3
 go_enter Tryz.func54,Tryz.ntmps54
 go_wp2_with fail
 clear c2 hR c3 hD
 refine(HI.out.whats (by omega)).mono ?_
 rintro e w6 ⟨rfl,h6⟩
 have H6:Hid (∃pw',zaz base w0 S R D G pw' (told++(zci t k []).1) (zci t k []).2 w6):=by rw[HV.out];exact⟨pw,h6⟩
 clear h6 HI
 go_wp2_with fail
 go_end0
 exact⟨rfl,H6.out⟩
theorem ask_lk(h:zaz base w0 S R D G pw told t wk)(k:List UInt8){v:Value}{zs:List Int}(hv:zlq wk v zs)(hz:told.length≤400000000):
 Calls Tryz.prog 29 #[.pointer (some ⟨R,0,none⟩),.string (bl k),v] wk fun e w'=>e= .returned (.tuple #[])∧∃pw',zaz base w0 S R D G pw' (told++(zci t k zs).1) (zci t k zs).2 w':=by
 have HI:Hid (zaz base w0 S R D G pw told t wk):=h
 obtain⟨va,vc,rfl⟩:=hv.len
 by_cases h0:zs.length=0
 ·obtain rfl:=List.length_eq_zero_iff.1 h0
  have HC:Hid (Calls Tryz.prog 54 #[.pointer (some ⟨R,0,none⟩),.string (bl k)] wk fun e w'=>e= .returned (.tuple #[])∧∃pw',zaz base w0 S R D G pw' (told++(zci t k []).1) (zci t k []).2 w'):=zya h k (by omega)
  clear h hv h0
  simp only[List.length_nil]
  generalize bl k=sk at*
  go_enter Tryz.func29,Tryz.ntmps29
  go_wp2_with fail
  refine HC.out.mono ?_
  rintro e w6 ⟨rfl,h6⟩
  have H6:Hid (∃pw',zaz base w0 S R D G pw' (told++(zci t k []).1) (zci t k []).2 w6):=h6
  clear h6 HC HI
  go_wp2_with fail
  go_end0
  exact⟨rfl,H6.out⟩
 by_cases h1:zs.length=1
 ·obtain⟨z,rfl⟩:=List.length_eq_one_iff.1 h1
  obtain⟨nb,no,rfl,hnb,hrow⟩:=znt hv (by simp)
  have c0:=hrow 0 (by simp)
  simp only[List.getElem_cons_zero,Nat.add_zero]at c0
  have HC:Hid (Calls Tryz.prog 55 #[.pointer (some ⟨R,0,none⟩),.string (bl k),.int .i64 z] wk fun e w'=>e= .returned (.tuple #[])∧∃pw',zaz base w0 S R D G pw' (told++(zci t k [z]).1) (zci t k [z]).2 w'):=zy9 h k z (by omega)
  clear h hv h0 h1 hrow
  simp only[List.length_cons,List.length_nil,Nat.zero_add]
  generalize bl k=sk at*
  go_enter Tryz.func29,Tryz.ntmps29
  go_wp2_with fail
  clear c0 hnb
  refine HC.out.mono ?_
  rintro e w6 ⟨rfl,h6⟩
  have H6:Hid (∃pw',zaz base w0 S R D G pw' (told++(zci t k [z]).1) (zci t k [z]).2 w6):=h6
  clear h6 HC HI
  go_wp2_with fail
  go_end0
  exact⟨rfl,H6.out⟩
 have HEQ:Hid (∀wd:List UInt8,k=wd→((bl k).toList==wd)=true):=fun wd e=>by rw[zbk,e];simp
 have HNE:Hid (∀wd:List UInt8,k≠wd→((bl k).toList==wd)=false):=fun wd e=>by rw[zbk];simp only[decide_eq_false_iff_not];exact fun e'=>e (zpq e')
 obtain⟨sk,hsk⟩:∃sk,bl k=sk:=⟨_,rfl⟩
 rw[hsk]at HEQ HNE⊢
 clear hsk
 by_cases h3:zs.length=3
 ·obtain⟨z0,z1,z2,rfl⟩:∃z0 z1 z2,zs=[z0,z1,z2]:=by
   match zs,h3 with
   |[a,b,c],_=>exact⟨a,b,c,rfl⟩
  obtain⟨nb,no,rfl,_,_⟩:=znt hv (by simp)
  simp only[List.length_cons,List.length_nil,Nat.zero_add]
  have HL:Hid (zlq wk (.slice (some ⟨nb,no,none⟩) 3 vc) [z0,z1,z2]):=hv
  by_cases hc:k=[116,97,107,101]
  ·have hb0:(sk.toList==([116,97,107,101]:List UInt8))=true:=HEQ.out _ hc
   have HV:Hid (zci t k [z0,z1,z2]=zca t ⟨3,z0,z1,z2,⟨#[]⟩⟩):=by show _=_;rw[zvk,if_pos hc]
   clear h hv h0 h1 h3 hc
   have HCE:Hid (∀wk,(zaz base w0 S R D G pw told t wk∧zlq wk (.slice (some ⟨nb,no,none⟩) 3 vc) [z0,z1,z2])→(∀i (h:i<[z0,z1,z2].length),wk.cell? ⟨nb,no+i,none⟩=some (.int .i64 [z0,z1,z2][i]))∧nb<wk.heap.size):=fun wk hwk=>by
    obtain⟨b3,o3,e3,l3,r3⟩:=znt hwk.2 (by decide)
    cases e3
    exact⟨r3,l3⟩
   go_enter Tryz.func29,Tryz.ntmps29
   go_wp2_with fail
   refine zff (fun wk=>zaz base w0 S R D G pw told t wk∧zlq wk (.slice (some ⟨nb,no,none⟩) 3 vc) [z0,z1,z2]) (fun i=>i==11) (fun i=>i==11) (fun wk=>zaz base w0 S R D G pw told t wk∧zlq wk (.slice (some ⟨nb,no,none⟩) 3 vc) [z0,z1,z2]) (by kernel_rfl) (by kernel_rfl) (by kernel_rfl) (by kernel_rfl) (fun _ h=>h) ⟨HI.out.after (Below.refl _ _).drew,HL.out.below (Below.refl _ _).drew⟩ ?_
   refine zb1 (some 33) w0 rfl (.pointer (some ⟨R,0,none⟩)) rfl (by kernel_rfl) (fun wk hwk=> ?_) ?_
   ·generalize hA:Act.eval _=ρ
    have s0:ρ (.tmp 0)= .pointer (some ⟨R,0,none⟩):=by rw[←hA];kernel_rfl
    clear hA
    go_simp
   go_big_quiet_op
   refine zb1 (some 34) w0 rfl (.slice (some ⟨nb,no,none⟩) 3 vc) rfl (by kernel_rfl) (fun wk hwk=> ?_) ?_
   ·generalize hA:Act.eval _=ρ
    have s2:ρ (.tmp 2)= .slice (some ⟨nb,no,none⟩) 3 vc:=by rw[←hA];kernel_rfl
    clear hA
    go_simp
   go_big_quiet_op
   refine zb1 (some 35) w0 rfl (.pointer (some ⟨nb,no+0,none⟩)) rfl (by kernel_rfl) (fun wk hwk=> ?_) ?_
   ·generalize hA:Act.eval _=ρ
    have s34:ρ (.tmp 34)= .slice (some ⟨nb,no,none⟩) 3 vc:=by rw[←hA];kernel_rfl
    have k1:ρ (.const (.int .i64 (0)))= .int .i64 (0):=by rw[←hA];kernel_rfl
    clear hA
    go_simp
   go_big_quiet_op
   refine zb1 (some 36) w0 rfl (.int .i64 (z0)) rfl (by kernel_rfl) (fun wk hwk=> ?_) ?_
   ·generalize hA:Act.eval _=ρ
    have s35:ρ (.tmp 35)= .pointer (some ⟨nb,no+0,none⟩):=by rw[←hA];kernel_rfl
    clear hA
    have c1:=(HCE.out wk hwk).1 0 (by simp)
    have hb1:=(HCE.out wk hwk).2
    simp only[List.getElem_cons_zero,Nat.add_zero]at c1
    go_simp
   go_big_quiet_op
   refine zb1 (some 37) w0 rfl (.slice (some ⟨nb,no,none⟩) 3 vc) rfl (by kernel_rfl) (fun wk hwk=> ?_) ?_
   ·generalize hA:Act.eval _=ρ
    have s2:ρ (.tmp 2)= .slice (some ⟨nb,no,none⟩) 3 vc:=by rw[←hA];kernel_rfl
    clear hA
    go_simp
   go_big_quiet_op
   refine zb1 (some 38) w0 rfl (.pointer (some ⟨nb,no+1,none⟩)) rfl (by kernel_rfl) (fun wk hwk=> ?_) ?_
   ·generalize hA:Act.eval _=ρ
    have s37:ρ (.tmp 37)= .slice (some ⟨nb,no,none⟩) 3 vc:=by rw[←hA];kernel_rfl
    have k1:ρ (.const (.int .i64 (1)))= .int .i64 (1):=by rw[←hA];kernel_rfl
    clear hA
    go_simp
   go_big_quiet_op
   refine zb1 (some 39) w0 rfl (.int .i64 (z1)) rfl (by kernel_rfl) (fun wk hwk=> ?_) ?_
   ·generalize hA:Act.eval _=ρ
    have s38:ρ (.tmp 38)= .pointer (some ⟨nb,no+1,none⟩):=by rw[←hA];kernel_rfl
    clear hA
    have c1:=(HCE.out wk hwk).1 1 (by simp)
    have hb1:=(HCE.out wk hwk).2
    simp only[List.getElem_cons_zero,List.getElem_cons_succ]at c1
    go_simp
   go_big_quiet_op
   refine zb1 (some 40) w0 rfl (.slice (some ⟨nb,no,none⟩) 3 vc) rfl (by kernel_rfl) (fun wk hwk=> ?_) ?_
   ·generalize hA:Act.eval _=ρ
    have s2:ρ (.tmp 2)= .slice (some ⟨nb,no,none⟩) 3 vc:=by rw[←hA];kernel_rfl
    clear hA
    go_simp
   go_big_quiet_op
   refine zb1 (some 41) w0 rfl (.pointer (some ⟨nb,no+2,none⟩)) rfl (by kernel_rfl) (fun wk hwk=> ?_) ?_
   ·generalize hA:Act.eval _=ρ
    have s40:ρ (.tmp 40)= .slice (some ⟨nb,no,none⟩) 3 vc:=by rw[←hA];kernel_rfl
    have k1:ρ (.const (.int .i64 (2)))= .int .i64 (2):=by rw[←hA];kernel_rfl
    clear hA
    go_simp
   go_big_quiet_op
   refine zb1 (some 42) w0 rfl (.int .i64 (z2)) rfl (by kernel_rfl) (fun wk hwk=> ?_) ?_
   ·generalize hA:Act.eval _=ρ
    have s41:ρ (.tmp 41)= .pointer (some ⟨nb,no+2,none⟩):=by rw[←hA];kernel_rfl
    clear hA
    have c1:=(HCE.out wk hwk).1 2 (by simp)
    have hb1:=(HCE.out wk hwk).2
    simp only[List.getElem_cons_zero,List.getElem_cons_succ]at c1
    go_simp
   go_big_quiet_op
   refine zb1 (some 43) w0 rfl (tsV ⟨3,z0,z1,z2,⟨#[]⟩⟩) rfl (by kernel_rfl) (fun wk hwk=> ?_) ?_
   ·generalize hA:Act.eval _=ρ
    have s36:ρ (.tmp 36)= .int .i64 (z0):=by rw[←hA];kernel_rfl
    have s39:ρ (.tmp 39)= .int .i64 (z1):=by rw[←hA];kernel_rfl
    have s42:ρ (.tmp 42)= .int .i64 (z2):=by rw[←hA];kernel_rfl
    have k3:ρ (.const (.int .i64 (3)))= .int .i64 (3):=by rw[←hA];kernel_rfl
    clear hA
    go_simp
   go_big_quiet_op
   refine zh0 (some 44) w0 rfl rfl rfl rfl (fun uu=>uu= .tuple #[]) (fun _ wk=>∃pw',zaz base w0 S R D G pw' (told++(zca t ⟨3,z0,z1,z2,⟨#[]⟩⟩).1) (zca t ⟨3,z0,z1,z2,⟨#[]⟩⟩).2 wk) (⟨_,rfl⟩) (fun wk hwk=> ?_) (fun u9 hu9=> ?_)
   ·generalize hA:Act.eval _=ρ
    have s33:ρ (.tmp 33)= .pointer (some ⟨R,0,none⟩):=by rw[←hA];kernel_rfl
    have s43:ρ (.tmp 43)=tsV ⟨3,z0,z1,z2,⟨#[]⟩⟩:=by rw[←hA];kernel_rfl
    have sf:ρ (.func 25)= .func (.func 25) #[] #[]:=by rw[←hA];kernel_rfl
    clear hA
    go_simp
    refine(zkh hwk.1 ⟨3,z0,z1,z2,⟨#[]⟩⟩ (by omega)).mono ?_
    rintro e w7 ⟨rfl,h7⟩
    exact⟨_,rfl,rfl,h7⟩
   subst hu9
   go_big_quiet_op
   refine zhi (fun w6 h6=> ?_)
   have H6:Hid (∃pw',zaz base w0 S R D G pw' (told++(zci t k [z0,z1,z2]).1) (zci t k [z0,z1,z2]).2 w6):=by rw[HV.out];exact h6
   clear h6 HI HL
   go_wp2_with fail
   go_end0
   exact⟨rfl,H6.out⟩
  ·have hb0:(sk.toList==([116,97,107,101]:List UInt8))=false:=HNE.out _ hc
   have HV:Hid (zci t k [z0,z1,z2]=(zfl,t)):=by show _=_;rw[zvk,if_neg hc]
   clear h hv h0 h1 h3 hc HL
   go_enter Tryz.func29,Tryz.ntmps29
   go_wp2_with fail
   refine(HI.out.whats (by omega)).mono ?_
   rintro e w6 ⟨rfl,h6⟩
   have H6:Hid (∃pw',zaz base w0 S R D G pw' (told++(zci t k [z0,z1,z2]).1) (zci t k [z0,z1,z2]).2 w6):=by rw[HV.out];exact⟨pw,h6⟩
   clear h6 HI
   go_wp2_with fail
   go_end0
   exact⟨rfl,H6.out⟩
 ·have HV:Hid (zci t k zs=(zfl,t)):=zvl t k h0 h1 h3
  obtain⟨zn,hzn⟩:∃zn,zs.length=zn:=⟨_,rfl⟩
  rw[hzn]at h0 h1 h3⊢
  have hb0:((zn:Int)==0)=false:=by rw[beq_eq_false_iff_ne];omega
  have hb1:((zn:Int)==1)=false:=by rw[beq_eq_false_iff_ne];omega
  have hb3:((zn:Int)==3)=false:=by rw[beq_eq_false_iff_ne];omega
  clear h hv hzn
  go_enter Tryz.func29,Tryz.ntmps29
  go_wp2_with fail
  refine(HI.out.whats (by omega)).mono ?_
  rintro e w6 ⟨rfl,h6⟩
  have H6:Hid (∃pw',zaz base w0 S R D G pw' (told++(zci t k zs).1) (zci t k zs).2 w6):=by rw[HV.out];exact⟨pw,h6⟩
  clear h6 HI
  go_wp2_with fail
  go_end0
  exact⟨rfl,H6.out⟩
end
def NumsIs(w:World)(ws:List ByteArray)(e:Ending)(w':World):Prop:=
 ((∃zs v,zbp ws=some zs∧e= .returned (.tuple #[v,.bool true])∧zlq w' v zs)∨(zbp ws=none∧e= .returned (.tuple #[.slice none 0 0,.bool false])))∧Below w.heap.size w w'
structure NuI(w:World)(v:Value)(zs:List Int)(wk:World):Prop where
 below:Below w.heap.size w wk
 own:zpv wk w.heap.size v zs
theorem NuI.after{w wk w':World}{v:Value}{zs:List Int}(h:NuI w v zs wk)(hb:Below wk.heap.size wk w'):NuI w v zs w':=⟨bla h.below hb,h.own.below hb⟩
theorem NuI.grown{w wr w2:World}{v v':Value}{zs:List Int}{z:Int}(h:NuI w v zs wr)(ho:w2.ownsRow w.heap.size 3 1 v' (zs.length+1) (ziu zs++[.int .i64 z]))(hg:wr.grownBy w2 v.ownBlock):NuI w v' (zs++[z]) w2:=by
 refine⟨h.below.grown hg (by have:=h.below.size;omega) (fun j hj=>(World.ownsRow.lt h.own j hj).1),?_⟩
 unfold zpv
 rw[zmq,List.length_append]
 exact ho
theorem zkm{w:World}{v:Value}{ws:List ByteArray}(h:zb9 w v ws)(hw:zbz w)(hn:ws.length≤1000)(hz:∀s∈ws,s.size≤100000):
 Calls Tryz.prog 27 #[v] w fun e w'=>NumsIs w ws e w':=by
 have HV:Hid (zb9 w v ws):=h
 have HZ:Hid (∀s∈ws,s.size≤100000):=hz
 have HR:Hid (zbz w):=hw
 have H0:Hid (NuI w (.slice none 0 0) [] w):=⟨Below.refl _ _,World.ownsRow_nil _ _ _ _⟩
 obtain⟨i0,hi0,hz0,hz1,hz2⟩:=info_parts zsr
 obtain⟨a,cap,rfl,_⟩:=h.len
 clear h hw hz
 go_enter Tryz.func27,Tryz.ntmps27
 go_wp2_with fail
 go_loopw [4,11] (fun v i wr=>∃(k:Nat) (zs:List Int),k≤ws.length∧i= .int .i64 k∧Hid (zbp (ws.take k)=some zs)∧Hid (NuI w v zs wr)) (fun _ i _=>ws.length-(intOf i).toNat)
 case atStart=>exact⟨0,[],Nat.zero_le _,rfl,rfl,H0.out⟩
 case round=>
  obtain⟨k,zs,hk,rfl,HT,HW⟩:=hrel
  clear H0
  by_cases hlt:k<ws.length
  ·have hki:(k:Int)<(ws.length:Int):=by omega
   obtain⟨bb,off,rfl,hst⟩:=(HV.out.below HW.out.below).row (by omega)
   have c0:=hst.cell k hlt
   have hbl:=hst.lt
   have HSZ:Hid (ws[k].size≤100000):=HZ.out _ (List.getElem_mem hlt)
   have HNO:Hid (ze3 ws[k]=none→zbp ws=none):=zs8 ws k hlt
   have HYS:Hid (∀z,ze3 ws[k]=some z→zbp (ws.take (k+1))=some (zs++[z])):=fun z hz=>by
    rw[qaj ws k hlt]
    exact zm9 _ _ _ _ HT.out hz
   have HZL:Hid (zs.length=k):=by show _=_;rw[zhp _ _ HT.out,List.length_take];omega
   generalize ws[k]=s at*
   clear hst
   cases hnum:zhr s with
   |none=>
    have HE:Hid (zbp ws=none):=HNO.out (by simp[ze3,hnum])
    go_wp2_with fail
    refine(qgs s (by have:=HSZ.out;omega) hnum _ (HR.out.below HW.out.below)).mono ?_
    rintro e w5 ⟨v5,t5,q5,rfl,_,hb⟩
    have H5:Hid (Below w.heap.size w w5):=bla HW.out.below hb
    clear hb HW c0 hbl hnum
    go_wp2
    go_ret2
    exact⟨.inr ⟨HE.out,rfl⟩,H5.out⟩
   |some z=>
    have HIN:Hid (inI z):=zul hnum
    by_cases hs:zc4 z=s
    ·have HE:Hid (zbp (ws.take (k+1))=some (zs++[z])):=HYS.out z (by simp[ze3,hnum,hs])
     go_wp2_with fail
     refine(zt5 s z (by have:=HSZ.out;omega) hnum _).mono ?_
     rintro e w5 ⟨rfl,hb⟩
     have H5:Hid (NuI w u4 zs w5):=HW.out.after hb
     clear hb HW c0 hbl
     go_wp2_with fail
     refine(zli z HIN.out _ (HR.out.below H5.out.below)).mono ?_
     rintro e w6 ⟨rfl,hb⟩
     have H6:Hid (NuI w u4 zs (w6.alloc (.cells #[.int .i64 z] 3))):=(H5.out.after hb).after (za1 _ _)
     rw[hs]
     have hse:(s.toList==s.toList)=true:=by simp
     clear hb H5 hs hnum
     go_wp2_with (at_builtin;refine wpList_append_own _ rfl (.tmp 28) (.tmp 30) 79 rfl w.heap.size 3 i0 (.int .i64 0) 1 8 Tryz.underlying79 hi0 hz0 hz1 hz2 rfl (by decide) u4 zs.length (ziu zs) rfl H6.out.own ⟨w6.heap.size,0,none⟩ 1 1 [.int .i64 z] (by simp[go_sem]) rfl (zno _ _) ?c2 ?c3 ?c4 ?c5 ?_)
     case c2=>intro u hu;simp at hu;subst hu;rfl
     case c3=>have:=HZL.out;unfold maxLen;omega
     case c4=>have:=HZL.out;omega
     case c5=>exact H6.out.below.size
     intro v' w7 hown' hgrow _
     have H7:Hid (NuI w v' (zs++[z]) w7):=H6.out.grown hown' hgrow
     clear hown' hgrow H6
     go_wp2_with fail
     go_roundw
     case rel=>exact⟨k+1,zs++[z],by omega,by go_num,HE.out,H7.out⟩
     case measure=>simp[intOf];omega
    ·have HE:Hid (zbp ws=none):=HNO.out (by simp[ze3,hnum,hs])
     go_wp2_with fail
     refine(zt5 s z (by have:=HSZ.out;omega) hnum _).mono ?_
     rintro e w5 ⟨rfl,hb⟩
     have H5:Hid (NuI w u4 zs w5):=HW.out.after hb
     clear hb HW c0 hbl
     go_wp2_with fail
     refine(zli z HIN.out _ (HR.out.below H5.out.below)).mono ?_
     rintro e w6 ⟨rfl,hb⟩
     have H6:Hid (Below w.heap.size w w6):=bla H5.out.below hb
     have hne:((zc4 z).toList==s.toList)=false:=by rw[qgr];simpa using hs
     generalize zc4 z=sz at*
     clear hb H5 hnum
     go_wp2
     go_ret2
     exact⟨.inr ⟨HE.out,rfl⟩,H6.out⟩
  ·obtain rfl:k=ws.length:=by omega
   have HE:Hid (zbp ws=some zs):=by have:=HT.out;rw[List.take_length]at this;exact this
   go_wp2_with fail
   go_ret2
   exact⟨.inl ⟨zs,u4,HE.out,rfl,HW.out.own.ilst⟩,HW.out.below⟩
def strN(v:Value):Nat:=match v with| .string s=>s.size|_=>0
theorem zyg(s:ByteArray)(w:World):Calls Tryz.prog 50 #[.string s,.string ⟨#[32]⟩] w fun e w'=>e= .returned (.string (bl (Lib.trimLeftB s.data.toList 32)))∧w'=w:=
 Tryz.strings_TrimLeft_one s 32 (by decide) w
theorem cut_any(s:ByteArray)(w:World)(hw:zbz w)(hs:s.size≤100000):Calls Tryz.prog 51 #[.string s,.string ⟨#[32]⟩] w fun e w'=>e= .returned (.tuple #[.string (bl (Lib.cut s.data.toList [32]).1),.string (bl (Lib.cut s.data.toList [32]).2.1),.bool (Lib.cut s.data.toList [32]).2.2])∧Below w.heap.size w w':=by
 obtain⟨m,hm⟩:=hw.mx
 exact(Tryz.strings_Cut s ⟨#[32]⟩ m w (by omega) hm).mono fun e w' ⟨e1,n,e2⟩=>⟨e1,by rw[e2];exact below_drewN (Below.refl _ _) n⟩
theorem zw1(s:ByteArray)(w:World)(hw:zbz w)(hs:s.size≤100000):
 Calls Tryz.prog 26 #[.string s] w fun e w'=>∃v,e= .returned v∧qcd w' w.heap.size v (((zb0 s.data.toList).take 5).map bl)∧Below w.heap.size w w':=by
 have HR:Hid (zbz w):=hw
 have HSZ:Hid (s.data.toList.length≤100000):=hs
 have H0:Hid (LwI s.data.toList [] (Lib.trimLeftB s.data.toList 32)):=qev _
 have HO0:Hid (WoI w (.slice none 0 0) ([].map bl) w):=⟨Below.refl _ _,zz9 _ _⟩
 obtain⟨i0,hi0,hz0,hz1,hz2⟩:=info_parts zxd
 clear hw hs
 go_enter Tryz.func26,Tryz.ntmps26
 go_wp2_with fail
 refine(zyg s w).mono ?_
 rintro e w1 ⟨rfl,rfl⟩
 generalize Lib.trimLeftB s.data.toList 32=rest0 at*
 go_wp2_with fail
 go_loopw [3,4] (fun v u wr=>∃(done:List (List UInt8)) (rest:List UInt8),u= .string (bl rest)∧Hid (LwI s.data.toList done rest)∧Hid (WoI w1 v (done.map bl) wr)) (fun _ u _=>strN u)
 case atStart=>exact⟨[],rest0,rfl,H0.out,HO0.out⟩
 case round=>
  obtain⟨done,rest,rfl,HT,HW⟩:=hrel
  clear H0 HO0
  obtain⟨va,vc,hvf,_⟩:=HW.out.own.lst.len
  have HDL:Hid ((done.map bl).length=done.length):=List.length_map ..
  by_cases hr:rest=[]
  ·have HE:Hid (done=(zb0 s.data.toList).take 5):=HT.out.ended (.inl hr)
   subst hr
   have hneb:((bl []).toList==([]:List UInt8))=true:=by rw[zbk];simp
   obtain⟨sr,hsr⟩:∃sr,bl []=sr:=⟨_,rfl⟩
   rw[hsr]at hneb
   rw[hsr]
   clear hsr
   go_wp2
   go_ret
   exact⟨u3,rfl,by rw[←HE.out];exact HW.out.own,HW.out.below⟩
  ·have hneb:((bl rest).toList==([]:List UInt8))=false:=by rw[zbk];simpa using bl_ne hr
   by_cases hd:done.length≤4
   ·obtain⟨hn1,hn2,hn3,hn4⟩:=HT.out.next hr hd
    have HN1:Hid (LwI s.data.toList (done++[(Lib.cut rest [32]).1]) (Lib.trimLeftB (Lib.cut rest [32]).2.1 32)):=hn1
    have HRL:Hid (rest.length≤100000):=by show _≤_;have:=HT.out.lr;have:=HSZ.out;omega
    have HC:=fun wk (hwk:zbz wk)=>cut_any (bl rest) wk hwk (by rw[zd9];exact HRL.out)
    rw[zhf]at HC
    have HCC:Hid (∀wk,zbz wk→Calls Tryz.prog 51 #[.string (bl rest),.string ⟨#[32]⟩] wk fun e w'=>e= .returned (.tuple #[.string (bl (Lib.cut rest [32]).1),.string (bl (Lib.cut rest [32]).2.1),.bool (Lib.cut rest [32]).2.2])∧Below wk.heap.size wk w'):=HC
    have HM:Hid ((Lib.trimLeftB (Lib.cut rest [32]).2.1 32).length<(bl rest).size):=by show _<_;rw[zd9];exact hn2
    clear HC hn1 hn2 hn3 hn4 hr
    generalize Lib.cut rest [32]=c at*
    obtain⟨c1,c2,c3⟩:=c
    simp only at HCC HN1 HM
    obtain⟨sr,hsr⟩:∃sr,bl rest=sr:=⟨_,rfl⟩
    rw[hsr]at HCC hneb HM
    rw[hsr]
    have HTM:Hid (∀wk,Calls Tryz.prog 50 #[.string (bl c2),.string ⟨#[32]⟩] wk fun e w'=>e= .returned (.string (bl (Lib.trimLeftB c2 32)))∧w'=wk):=fun wk=>by have:=zyg (bl c2) wk;rw[zhf]at this;exact this
    obtain⟨s1,hs1⟩:∃s1,bl c1=s1:=⟨_,rfl⟩
    obtain⟨s2,hs2⟩:∃s2,bl c2=s2:=⟨_,rfl⟩
    rw[hs1,hs2]at HCC
    rw[hs2]at HTM
    have HS1:Hid (bl c1=s1):=hs1
    clear hs1 hs2 hsr
    have hd4:((done.map bl).length:Int)≤4:=by rw[HDL.out];omega
    have hd4n:(done.map bl).length≤4:=by rw[HDL.out];exact hd
    have HLN:Hid ((done.map bl).length≤4):=hd4n
    obtain⟨ws,hws⟩:∃ws,done.map bl=ws:=⟨_,rfl⟩
    rw[hws]at HW hvf hd4 HLN hd4n
    have HWS:Hid (done.map bl=ws):=hws
    clear hws HDL hd
    have HV3:Hid (u3= .slice va ws.length vc):=hvf
    subst hvf
    go_wp2_with fail
    refine(HCC.out _ (HR.out.below HW.out.below)).mono ?_
    rintro e w5 ⟨rfl,hb⟩
    have H5:Hid (WoI w1 (.slice va ws.length vc) ws (w5.alloc (.cells #[.string s1] 9))):=(HW.out.after hb).after (za1 _ _)
    clear hb HW HCC
    go_wp2_with (at_builtin;refine wpList_append_own _ rfl (.tmp 23) (.tmp 25) 22 rfl w1.heap.size 9 i0 (.string ⟨#[]⟩) 1 16 Tryz.underlying22 hi0 hz0 hz1 hz2 rfl (by decide) (.slice va ws.length vc) ws.length (znb ws) rfl H5.out.own ⟨w5.heap.size,0,none⟩ 1 1 [.string s1] (by simp[go_sem]) rfl (znn _ _) ?c2 ?c3 ?c4 ?c5 ?_)
    case c2=>intro u hu;simp at hu;subst hu;rfl
    case c3=>have:=HLN.out;unfold maxLen;omega
    case c4=>have:=HLN.out;omega
    case c5=>exact H5.out.below.size
    intro v' w6 hown' hgrow _
    have H6:Hid (WoI w1 v' ((done++[c1]).map bl) w6):=by
     show WoI _ _ _ _
     rw[List.map_append,HWS.out,List.map_cons,List.map_nil,HS1.out]
     exact H5.out.grown hown' hgrow
    clear hown' hgrow H5
    go_wp2_with fail
    refine(HTM.out _).mono ?_
    rintro e w7 ⟨rfl,rfl⟩
    go_wp2_with fail
    go_roundw
    case rel=>exact⟨done++[c1],Lib.trimLeftB c2 32,rfl,HN1.out,H6.out⟩
    case measure=>
     show strN (.string (bl (Lib.trimLeftB c2 32)))<strN (.string sr)
     show(bl (Lib.trimLeftB c2 32)).size<sr.size
     rw[zd9]
     exact HM.out
   ·have HE:Hid (done=(zb0 s.data.toList).take 5):=HT.out.ended (.inr (by omega))
    have hd4:¬((done.map bl).length:Int)≤4:=by rw[HDL.out];omega
    have hd4b:decide (((done.map bl).length:Int)≤4)=false:=decide_eq_false hd4
    have hd4c:¬(done.map bl).length≤4:=by omega
    have HOW:Hid (qcd wr w1.heap.size u3 (((zb0 s.data.toList).take 5).map bl)∧Below w1.heap.size w1 wr):=⟨by rw[←HE.out];exact HW.out.own,HW.out.below⟩
    obtain⟨sr,hsr⟩:∃sr,bl rest=sr:=⟨_,rfl⟩
    rw[hsr]at hneb
    rw[hsr]
    obtain⟨dn,hdn⟩:∃dn,(done.map bl).length=dn:=⟨_,rfl⟩
    rw[hdn]at hvf hd4 hd4b hd4c
    subst hvf
    clear hsr HW HDL hdn hd
    go_wp2
    go_ret
    exact⟨_,rfl,by have:=HOW.out.1;simpa using this,HOW.out.2⟩
end Go.Proofs.YtcbnnfeelhlapadGreatDoor