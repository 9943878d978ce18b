/-
  The desk in the middle of a call: its desks, and its builder; step, logged, then.
-/
import Derived.Test.YtcbnnfeelhlapadGreatDoorKLA
import Derived.Test.YtcbnnfeelhlapadGreatDoorFDeeds
import Derived.Test.YtcbnnfeelhlapadGreatDoorSGrow
namespace Go.Proofs.YtcbnnfeelhlapadGreatDoor
set_option maxHeartbeats 3200000
set_option maxRecDepth 20000
open Go Go.RowKit
structure zaz(base:Nat)(w0:World)(S:Nat→Prop)(R D G:Nat)(pw:Nat→Nat)(told:List UInt8)(t:Twn)(wk:World):Prop where
 dk:∃tk,zap base w0 S D G pw t tk (zag (fun _=>Th.no base) 0 (Th.lk base R D told)) wk∧TR t tk
 rdy:Rdy base wk
theorem no_in{c:Int}(h:Sm c):inI c:=by
 unfold Sm at h
 unfold inI
 omega
section
variable {base R D G:Nat} {pw:Nat→Nat} {w0 wk w':World} {S:Nat→Prop} {told:List UInt8} {t:Twn}
theorem zaz.after(h:zaz base w0 S R D G pw told t wk)(hb:Below wk.heap.size wk w'):zaz base w0 S R D G pw told t w':=by
 obtain⟨⟨tk,h1,h2⟩,h3⟩:=h
 exact⟨⟨tk,h1.after hb,h2⟩,h3.after hb⟩
theorem zaz.any(h:zaz base w0 S R D G pw told t wk):zfx base w0 S D G pw t wk:=by
 obtain⟨⟨tk,h1,h2⟩,_⟩:=h
 exact⟨tk,h1.bare,h2⟩
theorem zaz.turn(h:zaz base w0 S R D G pw told t wk):∃T,znd wk base T R D told∧(base≤wk.heap.size∧∀k,T k→base≤k∧k<wk.heap.size)∧∀told' w',zet wk base T R D told' w'→zaz base w0 S R D G pw told' t w':=by
 obtain⟨⟨tk,h1,h2⟩,h3⟩:=h
 obtain⟨T,a1,a2,a3⟩:=h1.boxed 0
 rw[zb4]at a1
 refine⟨T,a1,⟨Hq.base_le h1,a2⟩,fun told' w' ht=>⟨⟨tk,(a3 (Th.lk base R D told') w' ht.2 ht.1).other (fun j T hp=> ?_),h2⟩,h3.kept ht.2 (fun k e=>(a2 k e).1)⟩⟩
 by_cases e:j=0
 ·subst e;rw[zb4]at hp⊢;exact hp
 ·rw[za2 _ _ e]at hp⊢;rw[za2 _ _ e]at hp;exact hp
theorem zaz.cell(h:zaz base w0 S R D G pw told t wk):wk.cell? ⟨R,2,none⟩=some (.pointer (some ⟨D,0,none⟩))∧R<wk.heap.size:=by
 obtain⟨T,h1,_⟩:=h.turn
 exact h1.block
theorem zaz.log(h:zaz base w0 S R D G pw told t wk):wk.cell? ⟨D,0,none⟩=some (.pointer (some ⟨G,0,none⟩))∧D<wk.heap.size:=⟨h.any.cells.book,h.any.cells.lt⟩
theorem zaz.ti(h:zaz base w0 S R D G pw told t wk):TwI t:=h.any.ti
theorem zaz.does(h:zaz base w0 S R D G pw told t wk)(x:Tst):
 Calls Tryz.prog 47 #[.pointer (some ⟨D,0,none⟩),tsV x] wk fun e w'=>e= .returned (.int .i64 (tDo t x).1)∧∃pw',zaz base w0 S R D G pw' told (tDo t x).2 w':=by
 obtain⟨⟨tk,h1,h2⟩,h3⟩:=h
 obtain⟨T,ha,hs⟩:=h1.call
 exact(do_dk ha h2 x).mono fun e w' ⟨e1,pw',tk',e2,e3,_⟩=>⟨e1,pw',⟨tk',hs _ _ _ _ e2,e3⟩,h3.kept e2.2 (fun k e=>(ha.lo k e).1)⟩
theorem zaz.settles(h:zaz base w0 S R D G pw told t wk):
 Calls Tryz.prog 83 #[.pointer (some ⟨D,0,none⟩)] wk fun e w'=>e= .returned (.tuple #[])∧zaz base w0 S R D G pw told (zdz t) w':=by
 obtain⟨⟨tk,h1,h2⟩,h3⟩:=h
 obtain⟨T,ha,hs⟩:=h1.call
 exact(qe1 ha h2).mono fun e w' ⟨e1,tk',e2,e3⟩=>⟨e1,⟨tk',hs _ _ _ _ e2,e3⟩,h3.kept e2.2 (fun k e=>(ha.lo k e).1)⟩
theorem zaz.tells(h:zaz base w0 S R D G pw told t wk){fn:FuncId}{args:Array Value}{told':List UInt8}{w1:World}(hb:Below wk.heap.size wk w1)
 (hc:∀T,znd w1 base T R D told→(base≤w1.heap.size∧∀k,T k→base≤k∧k<w1.heap.size)→(∀k,T k→k<wk.heap.size)→Rdy base w1→Calls Tryz.prog fn args w1 fun e w'=>e= .returned (.tuple #[])∧zet w1 base T R D told' w'):
 Calls Tryz.prog fn args w1 fun e w'=>e= .returned (.tuple #[])∧zaz base w0 S R D G pw told' t w':=by
 obtain⟨T,a1,a2,a3⟩:=h.turn
 exact(hc T (a1.below a2 hb) (zek a2 hb) (fun k e=>(a2.2 k e).2) (h.rdy.after hb)).mono fun e w' ⟨e1,e2⟩=>⟨e1,a3 _ _ (zet.since hb e2 a2)⟩
theorem zaz.says(h:zaz base w0 S R D G pw told t wk)(s:ByteArray)(hz:told.length+s.size≤900000000):
 Calls Tryz.prog 49 #[.pointer (some ⟨R,0,none⟩),.slice (some ⟨wk.heap.size,0,none⟩) 1 1] (wk.alloc (.cells #[.string s] 9)) fun e w'=>e= .returned (.tuple #[])∧zaz base w0 S R D G pw (told++(s.data.toList++[10])) t w':=by
 obtain⟨T,a1,a2,a3⟩:=h.turn
 exact(zs0 a1 a2 s hz rfl).mono fun e w' ⟨e1,e2⟩=>⟨e1,a3 _ _ e2⟩
theorem zaz.says2(h:zaz base w0 S R D G pw told t wk)(s x:ByteArray)(hz:told.length+(s.size+x.size)≤800000000):
 Calls Tryz.prog 49 #[.pointer (some ⟨R,0,none⟩),.slice (some ⟨wk.heap.size,0,none⟩) 2 2] (wk.alloc (.cells #[.string s,.string x] 9)) fun e w'=>e= .returned (.tuple #[])∧zaz base w0 S R D G pw (told++(jnB [s.data.toList,x.data.toList]++[10])) t w':=by
 obtain⟨T,a1,a2,a3⟩:=h.turn
 exact(qe6 a1 a2 s x hz rfl).mono fun e w' ⟨e1,e2⟩=>⟨e1,a3 _ _ e2⟩
theorem zaz.whats(h:zaz base w0 S R D G pw told t wk)(hz:told.length≤800000000):
 Calls Tryz.prog 28 #[.pointer (some ⟨R,0,none⟩)] wk fun e w'=>e= .returned (.tuple #[])∧zaz base w0 S R D G pw (told++zfl) t w':=
 h.tells (Below.refl _ _) fun _ a1 a2 _ _=>what_lk a1 a2 hz
theorem zaz.nos(h:zaz base w0 S R D G pw told t wk)(c:Int)(hc:inI c)(hz:told.length≤700000000):
 Calls Tryz.prog 48 #[.pointer (some ⟨R,0,none⟩),.int .i64 c] wk fun e w'=>e= .returned (.tuple #[])∧zaz base w0 S R D G pw (told++noW c) t w':=
 h.tells (Below.refl _ _) fun _ a1 a2 _ a4=>no_lk a1 a2 a4 c hc hz
theorem qgc{w1:World}{v:Value}{ds:List Dd}{T:Nat→Prop}(ho:zfy w1 wk.heap.size v ds)(hT:∀k,T k→k<wk.heap.size):∀w2,zak T w1 w2→zkz w2 v ds:=fun w2 hk=>by
 have:zfy w2 wk.heap.size v ds:=za3 ho (fun k e=>by
  obtain⟨h1,h2⟩:=World.ownsRow.lt ho k e
  exact hk.block k h2 (fun e'=>by have:=hT k e';omega))
 exact this.dlst
theorem zaz.lists(h:zaz base w0 S R D G pw told t wk){w1:World}{v:Value}{ds:List Dd}(hb:Below wk.heap.size wk w1)(ho:zfy w1 wk.heap.size v ds)(hn:ds.length≤1000)(hz:told.length≤700000000):
 Calls Tryz.prog 81 #[.pointer (some ⟨R,0,none⟩),v] w1 fun e w'=>e= .returned (.tuple #[])∧zaz base w0 S R D G pw (told++(zb3 ds++znw)) t w':=
 h.tells hb fun _ a1 a2 a3 a4=>zwo a1 a2 a4 (qgc ho a3) hn hz
theorem zkh(h:zaz base w0 S R D G pw told t wk)(x:Tst)(hz:told.length≤600000000):
 Calls Tryz.prog 25 #[.pointer (some ⟨R,0,none⟩),tsV x] wk fun e w'=>e= .returned (.tuple #[])∧∃pw',zaz base w0 S R D G pw' (told++(zca t x).1) (zca t x).2 w':=by
 have HC:Hid (inI (tDo t x).1):=no_in (zrw t x)
 have HI:Hid (zaz base w0 S R D G pw told t (wk.alloc (zc8 x))):=h.after (za1 _ _)
 have HX:Hid (zrk (wk.alloc (zc8 x)) wk.heap.size 0 x):=zhl wk x
 have HK:Hid ((zca t x).1=(if(tDo t x).1=0 then okW else noW (tDo t x).1)∧(zca t x).2=(tDo t x).2):=⟨rfl,rfl⟩
 generalize wk.heap.size=B at*
 clear h
 obtain⟨kind,w_,at_,many,text⟩:=x
 unfold zc8 at HI HX
 try dsimp only at HI HX
 go_enter Tryz.func25,Tryz.ntmps25
 go_wp2_with fail
 refine zdn (fun wk=>(wk.cell? ⟨R,2,none⟩=some (.pointer (some ⟨D,0,none⟩))∧R<wk.heap.size)) (fun wk=>zaz base w0 S R D G pw told t wk∧zrk wk B 0 ⟨kind,w_,at_,many,text⟩) (fun i=>i==4||i==5) (fun _=>false) (by kernel_rfl) (by kernel_rfl) (by kernel_rfl) (fun _ h=>h.1.cell) ⟨HI.out.after (Below.refl _ _).drew,HX.out.below (Below.refl _ _).drew⟩ ?_
 refine wlb (some 5) w0 rfl (.pointer (some ⟨R,0,none⟩)) rfl (by kernel_rfl) (fun wk hwk=> ?_) ?_
 ·generalize hA:Act.eval _=ρ
  have s0:ρ (.tmp 0)= .pointer (some ⟨R,0,none⟩):=by rw[←hA];kernel_rfl
  clear hA
  go_simp
 go_big_quiet_op
 refine wlb (some 6) w0 rfl (.pointer (some ⟨R,0,none⟩)) rfl (by kernel_rfl) (fun wk hwk=> ?_) ?_
 ·generalize hA:Act.eval _=ρ
  have s5:ρ (.tmp 5)= .pointer (some ⟨R,0,none⟩):=by rw[←hA];kernel_rfl
  clear hA
  go_simp
 go_big_quiet_op
 refine wlb (some 7) w0 rfl (.pointer (some ⟨R,2,none⟩)) rfl (by kernel_rfl) (fun wk hwk=> ?_) ?_
 ·generalize hA:Act.eval _=ρ
  have s6:ρ (.tmp 6)= .pointer (some ⟨R,0,none⟩):=by rw[←hA];kernel_rfl
  clear hA
  go_simp
 go_big_quiet_op
 refine wlb (some 8) w0 rfl (.pointer (some ⟨D,0,none⟩)) rfl (by kernel_rfl) (fun wk hwk=> ?_) ?_
 ·generalize hA:Act.eval _=ρ
  have s7:ρ (.tmp 7)= .pointer (some ⟨R,2,none⟩):=by rw[←hA];kernel_rfl
  clear hA
  obtain⟨g1,hlt⟩:=hwk
  go_simp
 go_big_quiet_op
 refine wls (some 9) w0 rfl rfl (by kernel_rfl) (fun uu=>uu=tsV ⟨kind,w_,at_,many,text⟩) (fun _ wk=>(wk.cell? ⟨R,2,none⟩=some (.pointer (some ⟨D,0,none⟩))∧R<wk.heap.size)) (fun _ wk=>zaz base w0 S R D G pw told t wk) (⟨_,rfl⟩) (fun _ _ h=>h) (fun _ _ h=>h.cell) (fun wk hwk=> ?_) (fun u9 hu9=> ?_)
 ·generalize hA:Act.eval _=ρ
  have s3:ρ (.tmp 3)= .pointer (some ⟨B,0,none⟩):=by rw[←hA];kernel_rfl
  clear hA
  go_simp
  obtain⟨hwk,_,c0,c1,c2,c3,c4⟩:=hwk
  simp only[Nat.zero_add]at c0 c1 c2 c3 c4
  go_simp
  exact⟨rfl,hwk⟩
 subst hu9
 go_big_quiet_op
 refine wls (some 10) w0 rfl rfl (by kernel_rfl) (fun uu=>uu= .int .i64 (tDo t ⟨kind,w_,at_,many,text⟩).1) (fun _ wk=>(wk.cell? ⟨R,2,none⟩=some (.pointer (some ⟨D,0,none⟩))∧R<wk.heap.size)) (fun _ wk=>∃pw2,zaz base w0 S R D G pw2 told (tDo t ⟨kind,w_,at_,many,text⟩).2 wk) (⟨_,rfl⟩) (fun _ _ h=>h) (fun _ _ h=>by obtain⟨p2,h⟩:=h;exact h.cell) (fun wk hwk=> ?_) (fun u9 hu9=> ?_)
 ·generalize hA:Act.eval _=ρ
  have s8:ρ (.tmp 8)= .pointer (some ⟨D,0,none⟩):=by rw[←hA];kernel_rfl
  have s9:ρ (.tmp 9)=tsV ⟨kind,w_,at_,many,text⟩:=by rw[←hA];kernel_rfl
  have sf:ρ (.func 47)= .func (.func 47) #[] #[]:=by rw[←hA];kernel_rfl
  clear hA
  go_simp
  refine(hwk.does ⟨kind,w_,at_,many,text⟩).mono ?_
  rintro e w7 ⟨rfl,h7⟩
  exact⟨_,rfl,rfl,h7⟩
 subst hu9
 go_big_quiet_op
 refine wlb (some 4) w0 rfl (.int .i64 (tDo t ⟨kind,w_,at_,many,text⟩).1) rfl (by kernel_rfl) (fun wk hwk=> ?_) ?_
 ·generalize hA:Act.eval _=ρ
  have s10:ρ (.tmp 10)= .int .i64 (tDo t ⟨kind,w_,at_,many,text⟩).1:=by rw[←hA];kernel_rfl
  clear hA
  go_simp
 go_big_quiet_op
 refine zhh (fun w9 hw9=> ?_)
 have H9:Hid (∃pw2,zaz base w0 S R D G pw2 told (tDo t ⟨kind,w_,at_,many,text⟩).2 w9):=hw9
 clear hw9 HI HX
 obtain⟨c,hc⟩:∃c,(tDo t ⟨kind,w_,at_,many,text⟩).1=c:=⟨_,rfl⟩
 have HCC:Hid ((tDo t ⟨kind,w_,at_,many,text⟩).1=c):=hc
 rw[hc]
 clear hc
 by_cases h0:c=0
 ·subst h0
  go_wp2_with fail
  obtain⟨pw9,h9⟩:=H9.out
  refine(h9.says ⟨#[111,107]⟩ (by show _+2≤_;omega)).mono ?_
  rintro e w5 ⟨rfl,h5⟩
  have H5:Hid (∃pw',zaz base w0 S R D G pw' (told++(zca t ⟨kind,w_,at_,many,text⟩).1) (zca t ⟨kind,w_,at_,many,text⟩).2 w5):=by
   refine⟨pw9,?_⟩
   rw[HK.out.1,HK.out.2,if_pos HCC.out]
   exact h5
  clear h5 h9 H9
  go_wp2_with fail
  go_end0
  exact⟨rfl,H5.out⟩
 ·have h0b:(c==0)=false:=by simpa using h0
  have HCI:Hid (inI c):=by have:=HC.out;rw[HCC.out]at this;exact this
  go_wp2_with fail
  obtain⟨pw9,h9⟩:=H9.out
  refine(h9.nos c HCI.out (by omega)).mono ?_
  rintro e w5 ⟨rfl,h5⟩
  have H5:Hid (∃pw',zaz base w0 S R D G pw' (told++(zca t ⟨kind,w_,at_,many,text⟩).1) (zca t ⟨kind,w_,at_,many,text⟩).2 w5):=by
   refine⟨pw9,?_⟩
   rw[HK.out.1,HK.out.2,if_neg (by rw[HCC.out];exact h0),HCC.out]
   exact h5
  clear h5 h9 H9
  go_wp2_with fail
  (try simp only[Exit.inBlock,Exit.then]);refine bodyPost_ret (results_none rfl _ _ _) rfl ?_
  exact⟨rfl,H5.out⟩
theorem zaz.deed(h:zaz base w0 S R D G pw told t wk)(n:Int):Calls Tryz.prog 137 #[.pointer (some ⟨G,0,none⟩),.int .i64 n] wk fun e w'=>e= .returned (.tuple #[ddV (zq7 t.b n),.bool (isD t.b n)])∧Below wk.heap.size wk w':=by
 obtain⟨tk,h1,h2⟩:=h.any
 obtain⟨T,dv,lv,hl,_⟩:=h1.log
 exact zph hl h2.ti.good.small n
theorem nth_deed{b:Bk}{k:Nat}(hk:k<b.ds.length):zq7 b ((k:Int)+1)=b.ds[k]:=by
 have hlen:b.len=(b.ds.length:Int):=rfl
 rw[zq7,if_pos (by omega),show((k:Int)+1-1).toNat=k by omega,List.getD_eq_getElem?_getD,List.getElem?_eq_getElem hk]
 rfl
theorem qf0(h:zaz base w0 S R D G pw told t wk):
 Calls Tryz.prog 82 #[.pointer (some ⟨R,0,none⟩)] wk fun e w'=>∃v,e= .returned v∧zfy w' wk.heap.size v t.b.ds∧Below wk.heap.size wk w':=by
 have HA:Hid (zaz base w0 S R D G pw told t wk):=h
 have hes:t.b.ds.length≤1000:=by have:=h.ti.good.small;omega
 obtain⟨c2,hR⟩:=h.cell
 obtain⟨c3,hD⟩:=h.log
 obtain⟨n,hn⟩:∃n,t.b.ds.length=n:=⟨_,rfl⟩
 have HN:Hid (t.b.ds.length=n):=hn
 rw[hn]at hes
 have hmk:=zlb n (by omega)
 have HO:Hid (OI wk (.slice (some ⟨wk.heap.size,0,none⟩) n n) (t.b.ds.take 0++List.replicate (t.b.ds.length-0) zdf) (wk.alloc (.cells (madeCells zdm.cells (n*7)) 124))):=by
  refine⟨za1 _ _,?_⟩
  have hz:(madeCells zdm.cells (n*7)).size=n*7:=by rw[size_madeCells]
  have:=World.ownsRow_lit (base:=wk.heap.size) (size:=7) (e:=124) wk (madeCells zdm.cells (n*7)) n (Nat.le_refl _) (by unfold maxLen;omega) hz
  unfold zfy
  rw[List.take_zero,List.nil_append,Nat.sub_zero,List.length_replicate,zpp,hn]
  exact this
 clear hn h
 go_enter Tryz.func82,Tryz.ntmps82
 go_wp2_with (go_at_call 85;refine HA.out.any.len.mono ?_;rintro e w1 ⟨rfl,hw1⟩;rw[hw1,HN.out];clear hw1 w1)
 go_loopw [16] (fun i wr=>∃k:Nat,k≤n∧i= .int .i64 k∧Hid (OI wk (.slice (some ⟨wk.heap.size,0,none⟩) n n) (t.b.ds.take k++List.replicate (t.b.ds.length-k) zdf) wr)) (fun i _=>n-(intOf i).toNat)
 case atStart=>exact⟨0,Nat.zero_le _,rfl,HO⟩
 case round=>
  obtain⟨k,hk,rfl,HJ⟩:=hrel
  clear HO hmk c2 hR c3 hD
  by_cases hlt2:k<n
  ·have hkl:k<t.b.ds.length:=by rw[HN.out];exact hlt2
   have HB:Hid (zaz base w0 S R D G pw told t wr):=HA.out.after HJ.out.below
   obtain⟨c2,hR⟩:=HB.out.cell
   obtain⟨c3,hD⟩:=HB.out.log
   have HND:Hid (zq7 t.b ((k:Int)+1)=t.b.ds[k]):=nth_deed hkl
   have hki:(k:Int)<(n:Int):=by omega
   go_wp2_with fail
   refine(HB.out.deed _).mono ?_
   rintro e w5 ⟨rfl,hb⟩
   rw[HND.out]
   have H5:Hid (OI wk (.slice (some ⟨wk.heap.size,0,none⟩) n n) (t.b.ds.take k++List.replicate (t.b.ds.length-k) zdf) w5):=HJ.out.after hb
   clear hb HJ HB c2 hR c3 hD
   have hml:(t.b.ds.take k++List.replicate (t.b.ds.length-k) zdf).length=n:=by rw[zmw t.b.ds k (by omega),HN.out]
   obtain⟨⟨u0,e0⟩,f0⟩:=zcq H5.out.own hml (j:=k*7) (by omega)
   obtain⟨⟨u1,e1⟩,f1⟩:=zcq H5.out.own hml (j:=k*7+1) (by omega)
   obtain⟨⟨u2,e2⟩,f2⟩:=zcq H5.out.own hml (j:=k*7+2) (by omega)
   obtain⟨⟨u3,e3⟩,f3⟩:=zcq H5.out.own hml (j:=k*7+3) (by omega)
   obtain⟨⟨u4,e4⟩,f4⟩:=zcq H5.out.own hml (j:=k*7+4) (by omega)
   obtain⟨⟨u5,e5⟩,f5⟩:=zcq H5.out.own hml (j:=k*7+5) (by omega)
   obtain⟨⟨u6,e6⟩,f6⟩:=zcq H5.out.own hml (j:=k*7+6) (by omega)
   have hW:wk.heap.size<w5.heap.size:=(World.ownsRow.lt H5.out.own wk.heap.size rfl).2
   have hNX:=OI.put H5.out hml (i:=k) (by rw[hml];exact hlt2) t.b.ds[k]
   rw[zmv t.b.ds hkl]at hNX
   have HNX:Hid _:=hNX
   clear hNX hml H5 HND
   generalize isD _ _=ib at*
   generalize t.b.ds[k]=d at*
   obtain⟨kind,by_,no,seen',at_,many,text⟩:=d
   simp only at HNX
   go_wp2
   go_roundw
   case rel=>exact⟨k+1,by omega,by go_num,HNX⟩
   case measure=>simp[intOf];omega
  ·obtain rfl:k=n:=by omega
   have HE:Hid (t.b.ds.take k++List.replicate (t.b.ds.length-k) zdf=t.b.ds):=by show _=_;rw[←HN.out,List.take_length,Nat.sub_self];simp
   go_wp2
   go_ret
   exact⟨_,rfl,by have:=HJ.out.own;rw[HE.out]at this;exact this,HJ.out.below⟩
theorem by_in{b:Bk}(hg:zcm b)(n:Int):∀z∈(thS b n).map (·.by_),inI z:=by
 intro z hz
 obtain⟨x,hx,rfl⟩:=List.mem_map.1 hz
 have hm:x∈b.chars:=by
  unfold thS at hx
  split at hx
  ·exact(List.mem_filter.1 hx).1
  ·cases hx
 have:=(zje hg).wr x hm
 unfold wrB at this
 rw[decide_eq_true_eq]at this
 unfold inI
 omega
theorem then_lk(h:zaz base w0 S R D G pw told t wk)(n:Int)(hz:told.length≤600000000):
 Calls Tryz.prog 91 #[.pointer (some ⟨R,0,none⟩),.int .i64 n] wk fun e w'=>e= .returned (.tuple #[])∧zaz base w0 S R D G pw (told++zhd t n) t w':=by
 have HA:Hid (zaz base w0 S R D G pw told t wk):=h
 have HBY:Hid (∀z∈(thS t.b n).map (·.by_),inI z):=by_in h.ti.good n
 have HTL:Hid ((thS t.b n).length≤200):=by show _≤_;have:=ztn t.b n;have:=zb2 (b:=t.b);omega
 obtain⟨c2,hR⟩:=h.cell
 obtain⟨c3,hD⟩:=h.log
 clear h
 go_enter Tryz.func91,Tryz.ntmps91
 go_wp2_with fail
 clear c2 hR c3 hD
 refine(of_dk HA.out.any).mono ?_
 rintro e w1 ⟨P,rfl,hst,hb⟩
 have H1:Hid (zaz base w0 S R D G pw told t w1):=HA.out.after hb
 have HST:Hid (qgz w1 wk.heap.size P t.b):=hst
 clear hb hst HA
 go_wp2_with fail
 refine(text_st HST.out n).mono ?_
 rintro e w2 ⟨rfl,hb⟩
 have H2:Hid (zaz base w0 S R D G pw told t w2):=H1.out.after hb
 have HS2:Hid (qgz w2 wk.heap.size P t.b):=HST.out.below hb
 clear hb HST H1
 cases hin:inS t.b n
 ·have HE:Hid (zhd t n=noW 5):=by show _=_;unfold zhd;rw[hin];rfl
  generalize strOfNums _=sx at*
  go_wp2_with fail
  refine(H2.out.nos 5 (no_in zgi) (by omega)).mono ?_
  rintro e w5 ⟨rfl,h5⟩
  have H5:Hid (zaz base w0 S R D G pw (told++zhd t n) t w5):=by show zaz _ _ _ _ _ _ _ _ _ _;rw[HE.out];exact h5
  clear h5 H2
  go_wp2_with fail
  (try simp only[Exit.inBlock,Exit.then]);refine bodyPost_ret (results_none rfl _ _ _) rfl ?_
  exact⟨rfl,H5.out⟩
 ·have HE:Hid (zhd t n=zfo ((thS t.b n).map (·.c))++byW ((thS t.b n).map (·.by_))):=by show _=_;unfold zhd;rw[hin];rfl
  have HIN:Hid (inS t.b n=true):=hin
  clear hin
  have HSX:Hid (zkb ((thS t.b n).map (·.c))=(strOfNums ((thS t.b n).map (·.c))).data.toList):=rfl
  have HSZ:Hid ((strOfNums ((thS t.b n).map (·.c))).size≤200):=by show _≤_;rw[zbr,List.length_map];exact HTL.out
  obtain⟨sx,hsx⟩:∃sx,strOfNums ((thS t.b n).map (·.c))=sx:=⟨_,rfl⟩
  rw[hsx]at HSX HSZ⊢
  clear hsx
  go_wp2_with fail
  obtain⟨T,a1,a2,a3⟩:=H2.out.turn
  refine(by_own HS2.out n).mono ?_
  rintro e w3 ⟨bv,rfl,⟨m,hm,hbv⟩,hb⟩
  rw[HIN.out]
  have HA1:Hid (znd w3 base T R D told):=a1.below a2 hb
  have HA2:Hid (base≤w3.heap.size∧∀k,T k→base≤k∧k<w3.heap.size):=zek a2 hb
  have HA3:Hid (∀told' w',zet w3 base T R D told' w'→zaz base w0 S R D G pw told' t w'):=fun told' w' ht=>a3 _ _ (zet.since hb ht a2)
  have HFR:Hid (∀w',zak T w3 w'→zlq w' bv ((thS t.b n).map (·.by_))):=fun w' hk=>by
   have:zpv w' m bv ((thS t.b n).map (·.by_)):=za3 hbv (fun k e=>by
    obtain⟨h1,h2⟩:=World.ownsRow.lt hbv k e
    exact hk.block k h2 (fun e'=>by have:=(a2.2 k e').2;omega))
   exact this.ilst
  have HRD:Hid (Rdy base w3):=H2.out.rdy.after hb
  obtain⟨ba,bc,rfl⟩:=hbv.ilst.len
  have HJN:Hid (told++(jnB [[116,101,120,116],sx.data.toList]++[10])++(([98,121]++zdv ((thS t.b n).map (·.by_)))++[10])=told++zhd t n):=by
   show _=_
   rw[HE.out,zod,HSX.out,by_join,List.append_assoc,List.append_assoc]
  have HLN:Hid (((thS t.b n).map (·.by_)).length≤1000):=by show _≤_;rw[List.length_map];have:=HTL.out;omega
  clear hb hbv hm a1 a2 a3 HS2 H2 HTL HSX HE
  generalize (thS t.b n).map (·.by_)=zs at*
  go_wp2_with fail
  refine(qe6 HA1.out HA2.out ⟨#[116,101,120,116]⟩ sx (by have:=HSZ.out;show _+(4+_)≤_;omega) rfl).mono ?_
  rintro e w4 ⟨rfl,h4⟩
  have H4:Hid (zet w3 base T R D (told++(jnB [[116,101,120,116],sx.data.toList]++[10])) w4):=h4
  clear h4 HA1
  go_wp2_with fail
  refine(zi8 H4.out.1 (H4.out.held HA2.out) (HRD.out.lk HA2.out H4.out) ⟨#[98,121]⟩ (HFR.out w4 H4.out.2) HBY.out HLN.out (by decide) (by
   rw[znr]
   have:=HSZ.out
   simp only[List.length_append,List.length_cons,List.length_nil,zay]
   omega)).mono ?_
  rintro e w5 ⟨rfl,h5⟩
  have H5:Hid (zaz base w0 S R D G pw (told++zhd t n) t w5):=by
   show zaz _ _ _ _ _ _ _ _ _ _
   rw[←HJN.out]
   exact HA3.out _ _ (H4.out.trans h5 HA2.out)
  clear h5 H4
  go_wp2_with fail
  go_end0
  exact⟨rfl,H5.out⟩
end
end Go.Proofs.YtcbnnfeelhlapadGreatDoor