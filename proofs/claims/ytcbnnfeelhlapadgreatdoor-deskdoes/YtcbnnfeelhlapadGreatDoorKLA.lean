/-
  The desk's sayings: say, what, sayNumbers, no, sayDeeds.
-/
import Derived.Test.YtcbnnfeelhlapadGreatDoorKLM
import Derived.Test.YtcbnnfeelhlapadGreatDoorStR
import Derived.Test.YtcbnnfeelhlapadGreatDoorTRel
namespace Go.Proofs.YtcbnnfeelhlapadGreatDoor
set_option maxHeartbeats 3200000
set_option maxRecDepth 20000
open Go Go.RowKit
section
variable {w w1 w2:World} {base R D:Nat} {S:Nat→Prop} {told t2:List UInt8}
theorem znd.below(h:znd w base S R D told)(hl:base≤w.heap.size∧∀k,S k→base≤k∧k<w.heap.size)(hb:Below w.heap.size w w1):znd w1 base S R D told:=
 (Th.lk base R D told).kept hl.2 h (zak.of_below (S:=fun _=>False) hb) (fun _ _ e=>e)
theorem zek(hl:base≤w.heap.size∧∀k,S k→base≤k∧k<w.heap.size)(hb:Below w.heap.size w w1):base≤w1.heap.size∧∀k,S k→base≤k∧k<w1.heap.size:=by
 have:=hb.size
 exact⟨by omega,fun k e=>by have:=hl.2 k e;omega⟩
theorem zet.held(h:zet w base S R D told w1)(hl:base≤w.heap.size∧∀k,S k→base≤k∧k<w.heap.size):base≤w1.heap.size∧∀k,grow S w w1 k→base≤k∧k<w1.heap.size:=by
 have:=h.2.size
 refine⟨by omega,fun k e=> ?_⟩
 rcases e with e|e
 ·have:=hl.2 k e;omega
 ·omega
theorem zet.trans(h:zet w base S R D told w1)(h2:zet w1 base (grow S w w1) R D t2 w2)(hl:base≤w.heap.size∧∀k,S k→base≤k∧k<w.heap.size):zet w base S R D t2 w2:=by
 have s1:=h.2.size
 have s2:=h2.2.size
 refine⟨(Th.lk base R D t2).mono h2.1 (fun k e=> ?_) (fun k e=> ?_),h.2.trans h2.2⟩
 ·rcases e with e|e
  ·rcases e with e|e
   ·exact .inl e
   ·exact .inr ⟨e.1,by omega⟩
  ·exact .inr ⟨by omega,e.2⟩
 ·rcases e with e|e
  ·have:=hl.2 k e;omega
  ·omega
theorem zet.since(hb:Below w.heap.size w w1)(h:zet w1 base S R D told w2)(hl:base≤w.heap.size∧∀k,S k→base≤k∧k<w.heap.size):zet w base S R D told w2:=by
 have s1:=hb.size
 have s2:=h.2.size
 refine⟨(Th.lk base R D told).mono h.1 (fun k e=> ?_) (fun k e=> ?_),(zak.of_below hb).trans' h.2⟩
 ·rcases e with e|e
  ·exact .inl e
  ·exact .inr ⟨by omega,e.2⟩
 ·rcases e with e|e
  ·have:=hl.2 k e;omega
  ·omega
theorem znd.to(h:znd w base S R D told)(hl:base≤w.heap.size∧∀k,S k→base≤k∧k<w.heap.size)(hb:Below w.heap.size w w1):zet w base S R D told w1:=
 ⟨(Th.lk base R D told).mono (h.below hl hb) (fun _ e=> .inl e) (fun k e=>by
  have:=hb.size
  rcases e with e|e
  ·have:=hl.2 k e;omega
  ·omega),.of_below hb⟩
theorem zet.after(h:zet w base S R D told w1)(hl:base≤w.heap.size∧∀k,S k→base≤k∧k<w.heap.size)(hb:Below w1.heap.size w1 w2):zet w base S R D told w2:=h.trans (h.1.to (h.held hl) hb) hl
theorem Rdy.lk(h:Rdy base w)(hl:base≤w.heap.size∧∀k,S k→base≤k∧k<w.heap.size)(ht:zet w base S R D told w1):Rdy base w1:=h.kept ht.2 (fun k e=>(hl.2 k e).1)
theorem qan(w:World)(s:ByteArray):zb9 (w.alloc (.cells #[.string s] 9)) (.slice (some ⟨w.heap.size,0,none⟩) 1 1) [s]:=
 ⟨_,1,1,rfl,rfl,Nat.le_refl _,.inr ⟨_,0,rfl,by simp,fun i hi=>by
  obtain rfl:i=0:=by simpa using hi
  simp[go_sem]⟩⟩
theorem zqn(w:World)(s t:ByteArray):zb9 (w.alloc (.cells #[.string s,.string t] 9)) (.slice (some ⟨w.heap.size,0,none⟩) 2 2) [s,t]:=
 ⟨_,2,2,rfl,rfl,Nat.le_refl _,.inr ⟨_,0,rfl,by simp,fun i hi=>by
  have h2:i<2:=hi
  rcases(show i=0∨i=1 by omega)with rfl|rfl<;>simp[go_sem]⟩⟩
theorem join_any{v:Value}{ws:List ByteArray}(h:zb9 w v ws)(hne:ws≠[])(hN:ws.length≤100000)(hlen:(jnB (ws.map (·.data.toList))).length≤1000000000):
 Calls Tryz.prog 70 #[v,.string ⟨#[32]⟩] w fun e w'=>e= .returned (.string (bl (jnB (ws.map (·.data.toList)))))∧Below w.heap.size w w':=by
 obtain⟨a,cap,rfl,hcap⟩:=h.len
 have hp:0<ws.length:=List.length_pos_iff.2 hne
 obtain⟨b,off,rfl,hr⟩:=h.row hp
 refine Tryz.strings_Join b off cap ws ⟨#[32]⟩ w (fun j x hx=> ?_) hr.lt (by omega) hcap (by unfold jnB at hlen;exact Nat.le_trans hlen (by decide))
 obtain⟨hj,rfl⟩:=List.getElem?_eq_some_iff.1 hx
 exact hr.cell j hj
theorem zz3(h:znd w base S R D told)(hl:base≤w.heap.size∧∀k,S k→base≤k∧k<w.heap.size){v:Value}{ws:List ByteArray}(hs:zb9 w v ws)(hne:ws≠[])(hN:ws.length≤100000)(hz:told.length+(jnB (ws.map (·.data.toList))).length≤900000000):
 Calls Tryz.prog 49 #[.pointer (some ⟨R,0,none⟩),v] w fun e w'=>e= .returned (.tuple #[])∧zet w base S R D (told++(jnB (ws.map (·.data.toList))++[10])) w':=by
 have HA:Hid (znd w base S R D told):=h
 have HL:Hid (base≤w.heap.size∧∀k,S k→base≤k∧k<w.heap.size):=hl
 have HJ:Hid (∀wk,Below w.heap.size w wk→Calls Tryz.prog 70 #[v,.string ⟨#[32]⟩] wk fun e w'=>e= .returned (.string (bl (jnB (ws.map (·.data.toList)))))∧Below wk.heap.size wk w'):=fun wk hb=>join_any (hs.below hb) hne hN (by omega)
 obtain⟨J,hJ⟩:∃J,jnB (ws.map (·.data.toList))=J:=⟨_,rfl⟩
 rw[hJ]at HJ hz⊢
 have HZ:Hid (told.length+J.length≤900000000):=hz
 obtain⟨sj,hsj⟩:∃sj,bl J=sj:=⟨_,rfl⟩
 have HSJ:Hid (bl J=sj):=hsj
 rw[hsj]at HJ
 obtain⟨a,cap,rfl,_⟩:=hs.len
 clear h hl hs hne hz hJ hsj
 go_enter Tryz.func49,Tryz.ntmps49
 go_wp2_with fail
 refine zdn (fun _=>True) (fun wk=>Below w.heap.size w wk) (fun i=>i==4||i==5) (fun _=>false) (by kernel_rfl) (by kernel_rfl) (by kernel_rfl) (fun _ _=>trivial) (Below.refl _ _).drew ?_
 refine wlb (some 4) w rfl (.pointer (some ⟨R,0,none⟩)) rfl (by kernel_rfl) (fun wk hwk=> ?_) ?_
 ·generalize hA:Act.eval _=ρ
  have s0:ρ (.tmp 0)= .pointer (some ⟨R,0,none⟩):=by rw[←hA];kernel_rfl
  clear hA
  go_simp
 go_big_quiet_op
 refine wlb (some 5) w rfl (.pointer (some ⟨R,0,none⟩)) rfl (by kernel_rfl) (fun wk hwk=> ?_) ?_
 ·generalize hA:Act.eval _=ρ
  have s4:ρ (.tmp 4)= .pointer (some ⟨R,0,none⟩):=by rw[←hA];kernel_rfl
  clear hA
  go_simp
 go_big_quiet_op
 refine wlb (some 6) w rfl (.pointer (some ⟨R,0,none⟩)) rfl (by kernel_rfl) (fun wk hwk=> ?_) ?_
 ·generalize hA:Act.eval _=ρ
  have s5:ρ (.tmp 5)= .pointer (some ⟨R,0,none⟩):=by rw[←hA];kernel_rfl
  clear hA
  go_simp
 go_big_quiet_op
 refine wlb (some 7) w rfl (.slice a ws.length cap) rfl (by kernel_rfl) (fun wk hwk=> ?_) ?_
 ·generalize hA:Act.eval _=ρ
  have s1:ρ (.tmp 1)= .slice a ws.length cap:=by rw[←hA];kernel_rfl
  clear hA
  go_simp
 go_big_quiet_op
 refine wls (some 8) w rfl rfl (by kernel_rfl) (fun u=>u= .string sj) (fun u wk=>True) (fun u wk=>Below w.heap.size w wk) (⟨_,rfl⟩) (fun _ _ h=>h) (fun _ _ h=>trivial) (fun wk hwk=> ?_) (fun u9 hu9=> ?_)
 ·generalize hA:Act.eval _=ρ
  have s7:ρ (.tmp 7)= .slice a ws.length cap:=by rw[←hA];kernel_rfl
  have k1:ρ (.const (.string ⟨#[32]⟩))= .string ⟨#[32]⟩:=by rw[←hA];kernel_rfl
  have sf:ρ (.func 70)= .func (.func 70) #[] #[]:=by rw[←hA];kernel_rfl
  clear hA
  go_simp
  refine(HJ.out wk hwk).mono ?_
  rintro e w7 ⟨rfl,hb⟩
  exact⟨_,rfl,rfl,bla hwk hb⟩
 subst hu9
 go_big_quiet_op
 refine wls (some 9) w rfl rfl (by kernel_rfl) (fun u=>u= .tuple #[.int .i64 sj.size,.nilIface]) (fun u wk=>True) (fun u wk=>zet w base S R D (told++J) wk) (⟨_,rfl⟩) (fun _ _ h=>h) (fun _ _ h=>trivial) (fun wk hwk=> ?_) (fun u9 hu9=> ?_)
 ·generalize hA:Act.eval _=ρ
  have s6:ρ (.tmp 6)= .pointer (some ⟨R,0,none⟩):=by rw[←hA];kernel_rfl
  have s8:ρ (.tmp 8)= .string sj:=by rw[←hA];kernel_rfl
  have sf:ρ (.func 69)= .func (.func 69) #[] #[]:=by rw[←hA];kernel_rfl
  clear hA
  go_simp
  have hsz:sj.size=J.length:=by rw[←HSJ.out];exact zd9 J
  have hws:=zpx (HA.out.below HL.out hwk) (zek HL.out hwk) sj (by have:=HZ.out;omega)
  rw[show sj.data.toList=J by rw[←HSJ.out]]at hws
  refine hws.mono ?_
  rintro e w7 ⟨rfl,h7⟩
  exact⟨_,rfl,rfl,zet.since hwk h7 HL.out⟩
 subst hu9
 go_big_quiet_op
 refine zhh (fun w9 hw9=> ?_)
 have H9:Hid (zet w base S R D (told++J) w9):=hw9
 clear hw9 HA HJ
 go_wp2_with fail
 have hwb:=ztc H9.out.1 (H9.out.held HL.out) 10 (by rw[List.length_append];have:=HZ.out;omega)
 rw[show(((10:UInt8).toNat:Nat):Int)=10 from rfl]at hwb
 refine hwb.mono ?_
 rintro e w5 ⟨rfl,h5⟩
 have H5:Hid (zet w base S R D (told++(J++[10])) w5):=by
  show zet _ _ _ _ _ _ _
  rw[←List.append_assoc]
  exact H9.out.trans h5 HL.out
 clear h5 hwb H9
 go_wp2_with fail
 go_end0
 exact⟨rfl,H5.out⟩
theorem zs0(h:znd w base S R D told)(hl:base≤w.heap.size∧∀k,S k→base≤k∧k<w.heap.size)(s:ByteArray)(hz:told.length+s.size≤900000000){v:Value}(hv:v= .slice (some ⟨w.heap.size,0,none⟩) 1 1):
 Calls Tryz.prog 49 #[.pointer (some ⟨R,0,none⟩),v] (w.alloc (.cells #[.string s] 9)) fun e w'=>e= .returned (.tuple #[])∧zet w base S R D (told++(s.data.toList++[10])) w':=by
 subst hv
 have hj:jnB ([s].map (·.data.toList))=s.data.toList:=by unfold jnB;exact Lib.join_one _ _
 have:=zz3 (h.below hl (za1 w (.cells #[.string s] 9))) (zek hl (za1 _ _)) (qan w s) (by simp) (by simp) (by rw[hj,zay];exact hz)
 rw[hj]at this
 exact this.mono fun e w' ⟨e1,e2⟩=>⟨e1,zet.since (za1 _ _) e2 hl⟩
theorem qe6(h:znd w base S R D told)(hl:base≤w.heap.size∧∀k,S k→base≤k∧k<w.heap.size)(s t:ByteArray)(hz:told.length+(s.size+t.size)≤800000000){v:Value}(hv:v= .slice (some ⟨w.heap.size,0,none⟩) 2 2):
 Calls Tryz.prog 49 #[.pointer (some ⟨R,0,none⟩),v] (w.alloc (.cells #[.string s,.string t] 9)) fun e w'=>e= .returned (.tuple #[])∧zet w base S R D (told++(jnB [s.data.toList,t.data.toList]++[10])) w':=by
 subst hv
 have:=zz3 (h.below hl (za1 w (.cells #[.string s,.string t] 9))) (zek hl (za1 _ _)) (zqn w s t) (by simp) (by simp) (by
  show _+(jnB [s.data.toList,t.data.toList]).length≤_
  rw[znr,List.length_append,List.length_cons,zay,zay]
  omega)
 exact this.mono fun e w' ⟨e1,e2⟩=>⟨e1,zet.since (za1 _ _) e2 hl⟩
theorem what_lk(h:znd w base S R D told)(hl:base≤w.heap.size∧∀k,S k→base≤k∧k<w.heap.size)(hz:told.length≤800000000):
 Calls Tryz.prog 28 #[.pointer (some ⟨R,0,none⟩)] w fun e w'=>e= .returned (.tuple #[])∧zet w base S R D (told++zfl) w':=by
 have HS:Hid (Calls Tryz.prog 49 #[.pointer (some ⟨R,0,none⟩),.slice (some ⟨w.heap.size,0,none⟩) 1 1] (w.alloc (.cells #[.string ⟨#[119,104,97,116]⟩] 9)) fun e w'=>e= .returned (.tuple #[])∧zet w base S R D (told++zfl) w'):=zs0 h hl ⟨#[119,104,97,116]⟩ (by show _+4≤_;omega) rfl
 clear h hl
 go_enter Tryz.func28,Tryz.ntmps28
 go_wp2_with fail
 refine HS.out.mono ?_
 rintro e w5 ⟨rfl,h5⟩
 have H5:Hid (zet w base S R D (told++zfl) w5):=h5
 clear h5 HS
 go_wp2_with fail
 go_end0
 exact⟨rfl,H5.out⟩
theorem ownS_one(w:World)(s:ByteArray):qcd (w.alloc (.cells #[.string s] 9)) w.heap.size (.slice (some ⟨w.heap.size,0,none⟩) 1 1) [s]:=
 ⟨rfl,.inr ⟨w.heap.size,1,#[.string s],rfl,Nat.le_refl _,heap_alloc_new w _,Nat.le_refl _,by decide,rfl,rfl⟩⟩
theorem znt{w:World}{a:Option Addr}{cap n:Nat}{zs:List Int}(h:zlq w (.slice a n cap) zs)(hp:0<n):∃b off,a=some ⟨b,off,none⟩∧b<w.heap.size∧∀i (h:i<zs.length),w.cell? ⟨b,off+i,none⟩=some (.int .i64 zs[i]):=by
 obtain⟨a',len,cap',he,h1,h2,h3⟩:=h
 simp only[Value.slice.injEq]at he
 obtain⟨rfl,rfl,rfl⟩:=he
 rcases h3 with h3|h3
 ·omega
 ·exact h3
theorem itoaB(z:Int):(zc4 z).data.toList=Lib.itoa z:=by simp[zc4]
theorem zsc:∀zs:List Int,(∀z∈zs,inI z)→(zdv zs).length≤22*zs.length
 |[],_=>Nat.le_refl _
 |z::zs,h=>by
  have h1:=zsc zs (fun y hy=>h y (by simp[hy]))
  have h2:=zby (h z (by simp))
  rw[←zay,itoaB]at h2
  rw[zdv,List.length_cons,List.length_append,List.length_cons]
  omega
theorem zi8(h:znd w base S R D told)(hl:base≤w.heap.size∧∀k,S k→base≤k∧k<w.heap.size)(hr:Rdy base w)(wd:ByteArray){v:Value}{zs:List Int}(hv:zlq w v zs)(hi:∀z∈zs,inI z)(hn:zs.length≤1000)(hw:wd.size≤100)(hz:told.length≤800000000):
 Calls Tryz.prog 68 #[.pointer (some ⟨R,0,none⟩),.string wd,v] w fun e w'=>e= .returned (.tuple #[])∧zet w base S R D (told++((wd.data.toList++zdv zs)++[10])) w':=by
 have HA:Hid (znd w base S R D told):=h
 have HL:Hid (base≤w.heap.size∧∀k,S k→base≤k∧k<w.heap.size):=hl
 have HR:Hid (Rdy base w):=hr
 have HV:Hid (zlq w v zs):=hv
 have HI:Hid (∀z∈zs,inI z):=hi
 have HS:Hid (told.length+(wd.data.toList++zdv zs).length≤900000000):=by
  show _≤_
  have:=zsc zs hi
  rw[List.length_append,zay]
  omega
 have HJ:Hid (jnB ((wd::zs.map zc4).map (·.data.toList))=wd.data.toList++zdv zs):=by
  show _=_
  rw[List.map_cons,List.map_map,←qfc]
  congr 2
 obtain⟨i0,hi0,hz0,hz1,hz2⟩:=info_parts zxd
 obtain⟨a,cap,rfl⟩:=hv.len
 have HW0:Hid (WoI w (.slice (some ⟨w.heap.size,0,none⟩) 1 1) [wd] (w.alloc (.cells #[.string wd] 9))):=⟨za1 _ _,ownS_one w wd⟩
 clear h hl hr hv hi
 go_enter Tryz.func68,Tryz.ntmps68
 go_wp2_with fail
 go_loopw [6,13] (fun v i wr=>∃k:Nat,k≤zs.length∧i= .int .i64 k∧Hid (WoI w v (wd::(zs.take k).map zc4) wr)) (fun _ i _=>zs.length-(intOf i).toNat)
 case atStart=>exact⟨0,Nat.zero_le _,rfl,HW0.out⟩
 case round=>
  obtain⟨k,hk,rfl,HW⟩:=hrel
  clear HW0
  by_cases hlt:k<zs.length
  ·have hki:(k:Int)<(zs.length:Int):=by omega
   obtain⟨bb,off,rfl,hbl,hrow⟩:=znt (HV.out.below HW.out.below) (by omega)
   have c0:=hrow k hlt
   have HX:Hid (wd::(zs.take (k+1)).map zc4=(wd::(zs.take k).map zc4)++[zc4 zs[k]]):=by
    show _=_
    rw[List.take_succ_eq_append_getElem hlt,List.map_append]
    rfl
   have HIN:Hid (inI zs[k]):=HI.out _ (List.getElem_mem hlt)
   have HLN:Hid ((wd::(zs.take k).map zc4).length≤1001):=by show _≤_;rw[List.length_cons,List.length_map,List.length_take];omega
   generalize zs[k]=z at*
   obtain⟨ws,hws⟩:∃ws,wd::(zs.take k).map zc4=ws:=⟨_,rfl⟩
   rw[hws]at HX HW HLN
   clear hrow hws
   go_wp2_with fail
   refine(zli z HIN.out _ (HR.out.after HW.out.below).ready).mono ?_
   rintro e w5 ⟨rfl,hb⟩
   have H5:Hid (WoI w u6 ws (w5.alloc (.cells #[.string (zc4 z)] 9))):=(HW.out.after hb).after (za1 _ _)
   obtain⟨sz,hsz⟩:∃sz,zc4 z=sz:=⟨_,rfl⟩
   rw[hsz]at H5 HX⊢
   clear hb HW c0 hbl hsz
   go_wp2_with (at_builtin;refine wpList_append_own _ rfl (.tmp 17) (.tmp 20) 22 rfl w.heap.size 9 i0 (.string ⟨#[]⟩) 1 16 Tryz.underlying22 hi0 hz0 hz1 hz2 rfl (by decide) u6 ws.length (znb ws) rfl H5.out.own ⟨w5.heap.size,0,none⟩ 1 1 [.string sz] (by simp[go_sem]) rfl (znn _ _) ?c2 ?c3 ?c4 ?c5 ?_)
   case c2=>intro u hu;simp at hu;subst hu;rfl
   case c3=>have:=HLN.out;unfold maxLen;omega
   case c4=>have:=HLN.out;omega
   case c5=>exact H5.out.below.size
   intro v' w6 hown' hgrow _
   have H6:Hid (WoI w v' (wd::(zs.take (k+1)).map zc4) w6):=by
    show WoI _ _ _ _
    rw[HX.out]
    exact H5.out.grown hown' hgrow
   clear hown' hgrow H5
   go_wp2_with fail
   go_roundw
   case rel=>exact⟨k+1,by omega,by go_num,H6.out⟩
   case measure=>simp[intOf];omega
  ·obtain rfl:k=zs.length:=by omega
   have HE:Hid (zs.take zs.length=zs):=List.take_length
   rw[HE.out]at HW
   go_wp2_with fail
   have hsay:=zz3 (HA.out.below HL.out HW.out.below) (zek HL.out HW.out.below) HW.out.own.lst (by simp) (by rw[List.length_cons,List.length_map];omega) (by rw[HJ.out];exact HS.out)
   rw[HJ.out]at hsay
   refine hsay.mono ?_
   rintro e w5 ⟨rfl,h5⟩
   have H5:Hid (zet w base S R D (told++((wd.data.toList++zdv zs)++[10])) w5):=zet.since HW.out.below h5 HL.out
   clear h5 hsay HW
   go_wp2_with fail
   go_end0
   exact⟨rfl,H5.out⟩
theorem ilst_one(w:World)(z:Int):zlq (w.alloc (.cells #[.int .i64 z] 3)) (.slice (some ⟨w.heap.size,0,none⟩) 1 1) [z]:=
 ⟨_,1,1,rfl,rfl,Nat.le_refl _,.inr ⟨_,0,rfl,by simp,fun i hi=>by
  obtain rfl:i=0:=by simpa using hi
  simp[go_sem]⟩⟩
theorem no_lk(h:znd w base S R D told)(hl:base≤w.heap.size∧∀k,S k→base≤k∧k<w.heap.size)(hr:Rdy base w)(c:Int)(hc:inI c)(hz:told.length≤700000000):
 Calls Tryz.prog 48 #[.pointer (some ⟨R,0,none⟩),.int .i64 c] w fun e w'=>e= .returned (.tuple #[])∧zet w base S R D (told++noW c) w':=by
 have HS:Hid (Calls Tryz.prog 68 #[.pointer (some ⟨R,0,none⟩),.string ⟨#[110,111]⟩,.slice (some ⟨w.heap.size,0,none⟩) 1 1] (w.alloc (.cells #[.int .i64 c] 3)) fun e w'=>e= .returned (.tuple #[])∧zet w base S R D (told++noW c) w'):=by
  rw[no_join]
  exact(zi8 (h.below hl (za1 _ _)) (zek hl (za1 _ _)) (hr.after (za1 _ _)) ⟨#[110,111]⟩ (ilst_one w c) (by simpa using hc) (by simp) (by decide) (by omega)).mono fun e w' ⟨e1,e2⟩=>⟨e1,zet.since (za1 _ _) e2 hl⟩
 clear h hl hr
 go_enter Tryz.func48,Tryz.ntmps48
 go_wp2_with fail
 refine HS.out.mono ?_
 rintro e w5 ⟨rfl,h5⟩
 have H5:Hid (zet w base S R D (told++noW c) w5):=h5
 clear h5 HS
 go_wp2_with fail
 go_end0
 exact⟨rfl,H5.out⟩
theorem dl_row{w:World}{a:Option Addr}{cap n:Nat}{ds:List Dd}(h:zkz w (.slice a n cap) ds)(hp:0<n):∃b off,a=some ⟨b,off,none⟩∧zvv w b off ds:=by
 obtain⟨a',len,cap',he,h1,h2,h3⟩:=h
 simp only[Value.slice.injEq]at he
 obtain⟨rfl,rfl,rfl⟩:=he
 rcases h3 with h3|h3
 ·omega
 ·exact h3
theorem qg6{w:World}{v:Value}{ds:List Dd}(h:zkz w v ds):∃a cap,v= .slice a ds.length cap:=by
 obtain⟨a,len,cap,rfl,rfl,h2,_⟩:=h
 exact⟨a,cap,rfl⟩
theorem qf4(d:Dd):(zhe d).length≤201:=by
 unfold zhe
 rw[List.length_append,zay]
 have:=zme d
 simp
 omega
theorem zwo(h:znd w base S R D told)(hl:base≤w.heap.size∧∀k,S k→base≤k∧k<w.heap.size)(hr:Rdy base w){v:Value}{ds:List Dd}(hd:∀w',zak S w w'→zkz w' v ds)(hn:ds.length≤1000)(hz:told.length≤700000000):
 Calls Tryz.prog 81 #[.pointer (some ⟨R,0,none⟩),v] w fun e w'=>e= .returned (.tuple #[])∧zet w base S R D (told++(zb3 ds++znw)) w':=by
 have HL:Hid (base≤w.heap.size∧∀k,S k→base≤k∧k<w.heap.size):=hl
 have HR:Hid (Rdy base w):=hr
 have HD:Hid (∀w',zak S w w'→zkz w' v ds):=hd
 have H0:Hid (zet w base S R D (told++zb3 (ds.take 0)) w):=by
  show zet _ _ _ _ _ _ _
  rw[List.take_zero,zb3,List.append_nil]
  exact h.to hl (Below.refl _ _)
 obtain⟨a,cap,rfl⟩:=qg6 (hd w (zak.refl _ _))
 clear h hl hr hd
 go_enter Tryz.func81,Tryz.ntmps81
 go_wp2_with fail
 go_loopw [10] (fun i wr=>∃k:Nat,k≤ds.length∧i= .int .i64 k∧Hid (zet w base S R D (told++zb3 (ds.take k)) wr)∧Hid ((zb3 (ds.take k)).length≤201*k)) (fun i _=>ds.length-(intOf i).toNat)
 case atStart=>exact⟨0,Nat.zero_le _,rfl,H0.out,Nat.le_refl _⟩
 case round=>
  obtain⟨k,hk,rfl,HW,HK⟩:=hrel
  clear H0
  by_cases hlt:k<ds.length
  ·have hki:(k:Int)<(ds.length:Int):=by omega
   obtain⟨bb,off,rfl,hrow⟩:=dl_row (HD.out wr HW.out.2) (by omega)
   obtain⟨hbl,g0,g1,g2,g3,g4,g5,g6⟩:=hrow.at_ k hlt
   have HN:Hid (zb3 (ds.take (k+1))=zb3 (ds.take k)++zhe ds[k]):=by show _=_;rw[List.take_succ_eq_append_getElem hlt,zkn]
   generalize ds[k]=d at*
   have HLZ:Hid ((zhe d).length≤201):=qf4 d
   have HLW:Hid (zhe d=(zcw d).data.toList++[10]):=rfl
   obtain⟨kind,by_,no,seen,at_,many,text⟩:=d
   simp only at g0 g1 g2 g3 g4 g5 g6
   clear hrow
   go_upto_region 3 with fail
   have HB:Hid (Below wr.heap.size wr (wr.alloc (.cells #[.int .i64 kind,.int .i64 by_,.int .i64 no,.int .i64 seen,.int .i64 at_,.int .i64 many,.string text] 124))):=za1 _ _
   go_wp2_with fail
   clear g0 g1 g2 g3 g4 g5 g6
   refine(line_any ⟨kind,by_,no,seen,at_,many,text⟩ _ ((HR.out.lk HL.out HW.out).after HB.out).ready).mono ?_
   rintro e w5 ⟨rfl,hb⟩
   have H5:Hid (zet w base S R D (told++zb3 (ds.take k)) w5):=HW.out.after HL.out (bla HB.out hb)
   clear hb HW HB
   generalize za6 _=cc at*
   obtain⟨s,hs⟩:∃s,zcw ⟨kind,by_,no,seen,at_,many,text⟩=s:=⟨_,rfl⟩
   rw[hs]at HLW⊢
   clear hs
   go_wp2_with fail
   have hsay:=zs0 H5.out.1 (H5.out.held HL.out) s (by have:=HLZ.out;rw[HLW.out,List.length_append,zay]at this;rw[List.length_append];have:=HK.out;simp at *; omega) (v:= .slice (some ⟨w5.heap.size,0,none⟩) 1 1) rfl
   refine hsay.mono ?_
   rintro e w6 ⟨rfl,h6⟩
   have H6:Hid (zet w base S R D (told++zb3 (ds.take (k+1))) w6):=by
    show zet _ _ _ _ _ _ _
    rw[HN.out,HLW.out,←List.append_assoc]
    exact H5.out.trans h6 HL.out
   have HK6:Hid ((zb3 (ds.take (k+1))).length≤201*(k+1)):=by
    show _≤_
    rw[HN.out,List.length_append]
    have:=HK.out
    have:=HLZ.out
    omega
   clear h6 hsay H5
   go_wp2_with fail
   go_roundw
   case rel=>exact⟨k+1,by omega,by go_num,H6.out,HK6.out⟩
   case measure=>simp[intOf];omega
  ·obtain rfl:k=ds.length:=by omega
   have HE:Hid (ds.take ds.length=ds):=List.take_length
   rw[HE.out]at HW HK
   go_wp2_with fail
   have hsay:=zs0 HW.out.1 (HW.out.held HL.out) ⟨#[101,110,100]⟩ (by rw[List.length_append];have:=HK.out;show _+3≤_;omega) (v:= .slice (some ⟨wr.heap.size,0,none⟩) 1 1) rfl
   refine hsay.mono ?_
   rintro e w6 ⟨rfl,h6⟩
   have H6:Hid (zet w base S R D (told++(zb3 ds++znw)) w6):=by
    show zet _ _ _ _ _ _ _
    rw[←List.append_assoc]
    exact HW.out.trans h6 HL.out
   clear h6 hsay HW
   go_wp2_with fail
   go_end0
   exact⟨rfl,H6.out⟩
end
end Go.Proofs.YtcbnnfeelhlapadGreatDoor