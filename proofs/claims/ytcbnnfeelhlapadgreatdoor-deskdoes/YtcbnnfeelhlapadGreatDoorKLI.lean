/-
  KLI.
-/
import Derived.Test.YtcbnnfeelhlapadGreatDoorKLA
namespace Go.Proofs.YtcbnnfeelhlapadGreatDoor
set_option maxHeartbeats 3200000
set_option maxRecDepth 20000
open Go.RowKit
structure zb8(base:Nat)(w0:World)(S:Nat->Prop)(R D G:Nat)(pw:Nat->Nat)(told:List UInt8)(t:Twn)(wk:World):Prop where
 dk:∃tk,zbc base w0 S D G pw t tk (zat (fun _=>Th.no base) 0 (Th.lk base R D told)) wk/\TR t tk
 rdy:Rdy base wk
theorem no_in{c:Int}(h:Sm c):inI c:=by
 unfold Sm at h
 unfold inI
 omega
section
variable {base R D G:Nat} {pw:Nat->Nat} {w0 wk w':World} {S:Nat->Prop} {told:List UInt8} {t:Twn}
theorem zb8.after(h:zb8 base w0 S R D G pw told t wk)(hb:Below wk.heap.size wk w'):zb8 base w0 S R D G pw told t w':=by
 obtain⟨⟨tk,h1,h2⟩,h3⟩:=h
 exact⟨⟨tk,h1.after hb,h2⟩,h3.after hb⟩
theorem zb8.any(h:zb8 base w0 S R D G pw told t wk):zfy base w0 S D G pw t wk:=by
 obtain⟨⟨tk,h1,h2⟩,_⟩:=h
 exact⟨tk,h1.bare,h2⟩
theorem zb8.turn(h:zb8 base w0 S R D G pw told t wk):∃T,zpv wk base T R D told/\(base<=wk.heap.size/\∀k,T k->base<=k/\k<wk.heap.size)/\∀told' w',zfs wk base T R D told' w'->zb8 base w0 S R D G pw told' t w':=by
 obtain⟨⟨tk,h1,h2⟩,h3⟩:=h
 obtain⟨T,a1,a2,a3⟩:=h1.boxed 0
 rw[zaz]at a1
 refine⟨T,a1,⟨Hq.base_le h1,a2⟩,fun told' w' ht=>⟨⟨tk,(a3 (Th.lk base R D told') w' ht.2 ht.1).other (fun j T hp=> ?_),h2⟩,h3.kept ht.2 (fun k e=>(a2 k e).1)⟩⟩
 by_cases e:j=0
 ·subst e;rw[zaz]at hp⊢;exact hp
 rw[za4 _ _ e]at hp⊢;rw[za4 _ _ e]at hp;exact hp
theorem zb8.cell(h:zb8 base w0 S R D G pw told t wk):wk.cell? ⟨R,2,none⟩=some (.pointer (some ⟨D,0,none⟩))/\R<wk.heap.size:=by
 obtain⟨T,h1,_⟩:=h.turn
 exact h1.block
theorem zb8.log(h:zb8 base w0 S R D G pw told t wk):wk.cell? ⟨D,0,none⟩=some (.pointer (some ⟨G,0,none⟩))/\D<wk.heap.size:=⟨h.any.cells.book,h.any.cells.lt⟩
theorem zb8.ti(h:zb8 base w0 S R D G pw told t wk):TwI t:=h.any.ti
theorem zb8.does(h:zb8 base w0 S R D G pw told t wk)(x:Tst):
 Calls Tryz.prog 47 #[.pointer (some ⟨D,0,none⟩),tsV x] wk fun e w'=>e= .returned (.int .i64 (tDo t x).1)/\∃pw',zb8 base w0 S R D G pw' told (tDo t x).2 w':=by
 obtain⟨⟨tk,h1,h2⟩,h3⟩:=h
 obtain⟨T,ha,hs⟩:=h1.call
 exact(do_dk ha h2 x).mono fun e w' ⟨e1,pw',tk',e2,e3,_⟩=>⟨e1,pw',⟨tk',hs _ _ _ _ e2,e3⟩,h3.kept e2.2 (fun k e=>(ha.lo k e).1)⟩
theorem zb8.settles(h:zb8 base w0 S R D G pw told t wk):
 Calls Tryz.prog 83 #[.pointer (some ⟨D,0,none⟩)] wk fun e w'=>e= .returned (.tuple #[])/\zb8 base w0 S R D G pw told (zep t) w':=by
 obtain⟨⟨tk,h1,h2⟩,h3⟩:=h
 obtain⟨T,ha,hs⟩:=h1.call
 exact(qe2 ha h2).mono fun e w' ⟨e1,tk',e2,e3⟩=>⟨e1,⟨tk',hs _ _ _ _ e2,e3⟩,h3.kept e2.2 (fun k e=>(ha.lo k e).1)⟩
theorem zb8.tells(h:zb8 base w0 S R D G pw told t wk){fn:FuncId}{args:Array Value}{told':List UInt8}{w1:World}(hb:Below wk.heap.size wk w1)
 (hc:∀T,zpv w1 base T R D told->(base<=w1.heap.size/\∀k,T k->base<=k/\k<w1.heap.size)->(∀k,T k->k<wk.heap.size)->Rdy base w1->Calls Tryz.prog fn args w1 fun e w'=>e= .returned (.tuple #[])/\zfs w1 base T R D told' w'):
 Calls Tryz.prog fn args w1 fun e w'=>e= .returned (.tuple #[])/\zb8 base w0 S R D G pw told' t w':=by
 obtain⟨T,a1,a2,a3⟩:=h.turn
 exact(hc T (a1.below a2 hb) (zeh a2 hb) (fun k e=>(a2.2 k e).2) (h.rdy.after hb)).mono fun e w' ⟨e1,e2⟩=>⟨e1,a3 _ _ (zfs.since hb e2 a2)⟩
theorem zb8.says(h:zb8 base w0 S R D G pw told t wk)(s:ByteArray)(hz:told.length+s.size<=900000000):
 Calls Tryz.prog 49 #[.pointer (some ⟨R,0,none⟩),.slice (some ⟨wk.heap.size,0,none⟩) 1 1] (wk.alloc (.cells #[.string s] 9)) fun e w'=>e= .returned (.tuple #[])/\zb8 base w0 S R D G pw (told++(s.data.toList++[10])) t w':=by
 obtain⟨T,a1,a2,a3⟩:=h.turn
 exact(zs1 a1 a2 s hz rfl).mono fun e w' ⟨e1,e2⟩=>⟨e1,a3 _ _ e2⟩
theorem zb8.says2(h:zb8 base w0 S R D G pw told t wk)(s x:ByteArray)(hz:told.length+(s.size+x.size)<=800000000):
 Calls Tryz.prog 49 #[.pointer (some ⟨R,0,none⟩),.slice (some ⟨wk.heap.size,0,none⟩) 2 2] (wk.alloc (.cells #[.string s,.string x] 9)) fun e w'=>e= .returned (.tuple #[])/\zb8 base w0 S R D G pw (told++(jnB [s.data.toList,x.data.toList]++[10])) t w':=by
 obtain⟨T,a1,a2,a3⟩:=h.turn
 exact(qe7 a1 a2 s x hz rfl).mono fun e w' ⟨e1,e2⟩=>⟨e1,a3 _ _ e2⟩
theorem zb8.whats(h:zb8 base w0 S R D G pw told t wk)(hz:told.length<=800000000):
 Calls Tryz.prog 28 #[.pointer (some ⟨R,0,none⟩)] wk fun e w'=>e= .returned (.tuple #[])/\zb8 base w0 S R D G pw (told++zg6) t w':=
 h.tells (Below.refl _ _) fun _ a1 a2 _ _=>what_lk a1 a2 hz
theorem zb8.nos(h:zb8 base w0 S R D G pw told t wk)(c:Int)(hc:inI c)(hz:told.length<=700000000):
 Calls Tryz.prog 48 #[.pointer (some ⟨R,0,none⟩),.int .i64 c] wk fun e w'=>e= .returned (.tuple #[])/\zb8 base w0 S R D G pw (told++noW c) t w':=
 h.tells (Below.refl _ _) fun _ a1 a2 _ a4=>no_lk a1 a2 a4 c hc hz
theorem qge{w1:World}{v:Value}{ds:List Dd}{T:Nat->Prop}(ho:zfx w1 wk.heap.size v ds)(hT:∀k,T k->k<wk.heap.size):∀w2,zam T w1 w2->zpw w2 v ds:=fun w2 hk=>by
 have:zfx w2 wk.heap.size v ds:=za5 ho (fun k e=>by
  obtain⟨h1,h2⟩:=World.ownsRow.lt ho k e
  exact hk.block k h2 (fun e'=>by have:=hT k e';omega))
 exact this.dlst
theorem zb8.lists(h:zb8 base w0 S R D G pw told t wk){w1:World}{v:Value}{ds:List Dd}(hb:Below wk.heap.size wk w1)(ho:zfx w1 wk.heap.size v ds)(hn:ds.length<=1000)(hz:told.length<=700000000):
 Calls Tryz.prog 81 #[.pointer (some ⟨R,0,none⟩),v] w1 fun e w'=>e= .returned (.tuple #[])/\zb8 base w0 S R D G pw (told++(zb3 ds++zpe)) t w':=
 h.tells hb fun _ a1 a2 a3 a4=>zwo a1 a2 a4 (qge ho a3) hn hz
theorem zkh(h:zb8 base w0 S R D G pw told t wk)(x:Tst)(hz:told.length<=600000000):
 Calls Tryz.prog 25 #[.pointer (some ⟨R,0,none⟩),tsV x] wk fun e w'=>e= .returned (.tuple #[])/\∃pw',zb8 base w0 S R D G pw' (told++(zc6 t x).1) (zc6 t x).2 w':=by
 have HC:=hid (no_in (zrx t x))
 have HI:Hid (zb8 base w0 S R D G pw told t (wk.alloc (ziz x))):=h.after (za2 _ _)
 have HX:=hid (zhj wk x)
 have HK:Hid ((zc6 t x).1=(if(tDo t x).1=0 then okW else noW (tDo t x).1)/\(zc6 t x).2=(tDo t x).2):=⟨rfl,rfl⟩
 generalize wk.heap.size=B at*
 clear h
 obtain⟨kind,w_,at_,many,text⟩:=x
 unfold ziz at HI HX
 try dsimp only at HI HX
 go_enter Tryz.func25,Tryz.ntmps25
 go_wp2_with fail
 refine zdi (fun wk=>(wk.cell? ⟨R,2,none⟩=some (.pointer (some ⟨D,0,none⟩))/\R<wk.heap.size)) (fun wk=>zb8 base w0 S R D G pw told t wk/\zt7 wk B 0 ⟨kind,w_,at_,many,text⟩) (fun i=>i==4||i==5) (fun _=>false) (by kernel_rfl) (by kernel_rfl) (by kernel_rfl) (fun _ h=>h.1.cell) ⟨HI.out.after (Below.refl _ _).drew,HX.out.below (Below.refl _ _).drew⟩ ?_
 refine zak (some 5) w0 (.pointer (some ⟨R,0,none⟩)) (.tmp 0) (.pointer (some ⟨R,0,none⟩)) ?_ ?_
 ·intros;go_simp
 go_big_quiet_op
 refine zak (some 6) w0 (.pointer (some ⟨R,0,none⟩)) (.tmp 5) (.pointer (some ⟨R,0,none⟩)) ?_ ?_
 ·intros;go_simp
 go_big_quiet_op
 refine zak (some 7) w0 (.pointer (some ⟨R,2,none⟩)) (.tmp 6) (.pointer (some ⟨R,0,none⟩)) ?_ ?_
 ·intros;go_simp
 go_big_quiet_op
 refine zak (some 8) w0 (.pointer (some ⟨D,0,none⟩)) (.tmp 7) (.pointer (some ⟨R,2,none⟩)) (fun wk hwk ρ s7=> ?_) ?_
 ·obtain⟨g1,hlt⟩:=hwk
  go_simp
 go_big_quiet_op
 refine wls (some 9) w0 rfl rfl (by kernel_rfl) (fun uu=>uu=tsV ⟨kind,w_,at_,many,text⟩) (fun _ wk=>(wk.cell? ⟨R,2,none⟩=some (.pointer (some ⟨D,0,none⟩))/\R<wk.heap.size)) (fun _ wk=>zb8 base w0 S R D G pw told t wk) (⟨_,rfl⟩) (fun _ _ h=>h) (fun _ _ h=>h.cell) (fun wk hwk=> ?_) (fun u9 hu9=> ?_)
 ·generalize hA:Act.eval _=ρ
  have s3:ρ (.tmp 3)= .pointer (some ⟨B,0,none⟩):=by rw[<-hA];kernel_rfl
  clear hA
  go_simp
  obtain⟨hwk,_,c0,c1,c2,c3,c4⟩:=hwk
  simp only[Nat.zero_add]at c0 c1 c2 c3 c4
  go_simp
  exact⟨rfl,hwk⟩
 subst hu9
 go_big_quiet_op
 refine wls (some 10) w0 rfl rfl (by kernel_rfl) (fun uu=>uu= .int .i64 (tDo t ⟨kind,w_,at_,many,text⟩).1) (fun _ wk=>(wk.cell? ⟨R,2,none⟩=some (.pointer (some ⟨D,0,none⟩))/\R<wk.heap.size)) (fun _ wk=>∃pw2,zb8 base w0 S R D G pw2 told (tDo t ⟨kind,w_,at_,many,text⟩).2 wk) (⟨_,rfl⟩) (fun _ _ h=>h) (fun _ _ h=>by obtain⟨p2,h⟩:=h;exact h.cell) (fun wk hwk=> ?_) (fun u9 hu9=> ?_)
 ·generalize hA:Act.eval _=ρ
  have s8:ρ (.tmp 8)= .pointer (some ⟨D,0,none⟩):=by rw[<-hA];kernel_rfl
  have s9:ρ (.tmp 9)=tsV ⟨kind,w_,at_,many,text⟩:=by rw[<-hA];kernel_rfl
  have sf:ρ (.func 47)= .func (.func 47) #[] #[]:=by rw[<-hA];kernel_rfl
  clear hA
  go_simp
  refine(hwk.does ⟨kind,w_,at_,many,text⟩).mono ?_
  rintro e w7 ⟨rfl,h7⟩
  exact⟨_,rfl,rfl,h7⟩
 subst hu9
 go_big_quiet_op
 refine zak (some 4) w0 (.int .i64 (tDo t ⟨kind,w_,at_,many,text⟩).1) (.tmp 10) (.int .i64 (tDo t ⟨kind,w_,at_,many,text⟩).1) ?_ ?_
 ·intros;go_simp
 go_big_quiet_op
 refine zhf (fun w9 hw9=> ?_)
 have H9:=hid hw9
 clear hw9 HI HX
 obtain⟨c,hc⟩:∃c,(tDo t ⟨kind,w_,at_,many,text⟩).1=c:=⟨_,rfl⟩
 have HCC:=hid hc
 rw[hc]
 clear hc
 by_cases h0:c=0
 ·subst h0
  go_wp2_with fail
  obtain⟨pw9,h9⟩:=H9.out
  refine(h9.says ⟨#[111,107]⟩ (by show _+2<=_;omega)).mono ?_
  rintro e w5 ⟨rfl,h5⟩
  have H5:Hid (∃pw',zb8 base w0 S R D G pw' (told++(zc6 t ⟨kind,w_,at_,many,text⟩).1) (zc6 t ⟨kind,w_,at_,many,text⟩).2 w5):=by
   refine⟨pw9,?_⟩
   rw[HK.out.1,HK.out.2,if_pos HCC.out]
   exact h5
  clear h5 h9 H9
  go_wp2_with fail
  go_end0
  exact⟨rfl,H5.out⟩
 have h0b:(c==0)=false:=by simpa using h0
 have HCI:Hid (inI c):=by have:=HC.out;rw[HCC.out]at this;exact this
 go_wp2_with fail
 obtain⟨pw9,h9⟩:=H9.out
 refine(h9.nos c HCI.out (by omega)).mono ?_
 rintro e w5 ⟨rfl,h5⟩
 have H5:Hid (∃pw',zb8 base w0 S R D G pw' (told++(zc6 t ⟨kind,w_,at_,many,text⟩).1) (zc6 t ⟨kind,w_,at_,many,text⟩).2 w5):=by
  refine⟨pw9,?_⟩
  rw[HK.out.1,HK.out.2,if_neg (by rw[HCC.out];exact h0),HCC.out]
  exact h5
 clear h5 h9 H9
 go_wp2_with fail
 (try simp only[Exit.inBlock,Exit.then]);refine bodyPost_ret (results_none rfl _ _ _) rfl ?_
 exact⟨rfl,H5.out⟩
theorem zb8.deed(h:zb8 base w0 S R D G pw told t wk)(n:Int):Calls Tryz.prog 137 #[.pointer (some ⟨G,0,none⟩),.int .i64 n] wk fun e w'=>e= .returned (.tuple #[ddV (zum t.b n),.bool (isD t.b n)])/\Below wk.heap.size wk w':=by
 obtain⟨tk,h1,h2⟩:=h.any
 obtain⟨T,dv,lv,hl,_⟩:=h1.log
 exact zpg hl h2.ti.good.small n
theorem nth_deed{b:Bk}{k:Nat}(hk:k<b.ds.length):zum b ((k:Int)+1)=b.ds[k]:=by
 have hlen:b.len=(b.ds.length:Int):=rfl
 rw[zum,if_pos (by omega),show((k:Int)+1-1).toNat=k by omega,List.getD_eq_getElem?_getD,List.getElem?_eq_getElem hk]
 rfl
theorem qf2(h:zb8 base w0 S R D G pw told t wk):
 Calls Tryz.prog 82 #[.pointer (some ⟨R,0,none⟩)] wk fun e w'=>∃v,e= .returned v/\zfx w' wk.heap.size v t.b.ds/\Below wk.heap.size wk w':=by
 have HA:=hid h
 have hes:t.b.ds.length<=1000:=by have:=h.ti.good.small;omega
 obtain⟨c2,hR⟩:=h.cell
 obtain⟨c3,hD⟩:=h.log
 obtain⟨n,hn⟩:∃n,t.b.ds.length=n:=⟨_,rfl⟩
 have HN:=hid hn
 rw[hn]at hes
 have hmk:=zla n (by omega)
 have HO:Hid (OI wk (.slice (some ⟨wk.heap.size,0,none⟩) n n) (t.b.ds.take 0++List.replicate (t.b.ds.length-0) zdr) (wk.alloc (.cells (madeCells zdh.cells (n*7)) 124))):=by
  refine⟨za2 _ _,?_⟩
  have hz:(madeCells zdh.cells (n*7)).size=n*7:=by rw[size_madeCells]
  have:=World.ownsRow_lit (base:=wk.heap.size) (size:=7) (e:=124) wk (madeCells zdh.cells (n*7)) n (Nat.le_refl _) (by unfold maxLen;omega) hz
  unfold zfx
  rw[List.take_zero,List.nil_append,Nat.sub_zero,List.length_replicate,zpn,hn]
  exact this
 clear hn h
 go_enter Tryz.func82,Tryz.ntmps82
 go_wp2_with (go_at_call 85;refine HA.out.any.len.mono ?_;rintro e w1 ⟨rfl,hw1⟩;rw[hw1,HN.out];clear hw1 w1)
 go_loopw [16] (fun i wr=>∃k:Nat,k<=n/\i= .int .i64 k/\Hid (OI wk (.slice (some ⟨wk.heap.size,0,none⟩) n n) (t.b.ds.take k++List.replicate (t.b.ds.length-k) zdr) wr)) (fun i _=>n-(intOf i).toNat)
 case atStart=>exact⟨0,Nat.zero_le _,rfl,HO⟩
 obtain⟨k,hk,rfl,HJ⟩:=hrel
 clear HO hmk c2 hR c3 hD
 by_cases hlt2:k<n
 ·have hkl:k<t.b.ds.length:=by rw[HN.out];exact hlt2
  have HB:=hid (HA.out.after HJ.out.below)
  obtain⟨c2,hR⟩:=HB.out.cell
  obtain⟨c3,hD⟩:=HB.out.log
  have HND:=hid (nth_deed hkl)
  have hki:(k:Int)<(n:Int):=by omega
  go_wp2_with fail
  refine(HB.out.deed _).mono ?_
  rintro e w5 ⟨rfl,hb⟩
  rw[HND.out]
  have H5:=hid (HJ.out.after hb)
  clear hb HJ HB c2 hR c3 hD
  have hml:(t.b.ds.take k++List.replicate (t.b.ds.length-k) zdr).length=n:=by rw[zmt t.b.ds k (by omega),HN.out]
  obtain⟨⟨u0,e0⟩,f0⟩:=zcn H5.out.own hml (j:=k*7) (by omega)
  obtain⟨⟨u1,e1⟩,f1⟩:=zcn H5.out.own hml (j:=k*7+1) (by omega)
  obtain⟨⟨u2,e2⟩,f2⟩:=zcn H5.out.own hml (j:=k*7+2) (by omega)
  obtain⟨⟨u3,e3⟩,f3⟩:=zcn H5.out.own hml (j:=k*7+3) (by omega)
  obtain⟨⟨u4,e4⟩,f4⟩:=zcn H5.out.own hml (j:=k*7+4) (by omega)
  obtain⟨⟨u5,e5⟩,f5⟩:=zcn H5.out.own hml (j:=k*7+5) (by omega)
  obtain⟨⟨u6,e6⟩,f6⟩:=zcn H5.out.own hml (j:=k*7+6) (by omega)
  have hW:wk.heap.size<w5.heap.size:=(World.ownsRow.lt H5.out.own wk.heap.size rfl).2
  have hNX:=OI.put H5.out hml (i:=k) (by rw[hml];exact hlt2) t.b.ds[k]
  rw[zms t.b.ds hkl]at hNX
  have HNX:Hid _:=hNX
  clear hNX hml H5 HND
  generalize isD _ _=ib at*
  generalize t.b.ds[k]=d at*
  obtain⟨kind,by_,no,seen',at_,many,text⟩:=d
  simp only at HNX
  go_wp2
  go_roundw
  case rel=>exact⟨k+1,by omega,by go_num,HNX⟩
  case measure=>simp[intOf];omega
 obtain rfl:k=n:=by omega
 have HE:Hid (t.b.ds.take k++List.replicate (t.b.ds.length-k) zdr=t.b.ds):=by show _=_;rw[<-HN.out,List.take_length,Nat.sub_self];simp
 go_wp2
 go_ret
 exact⟨_,rfl,by have:=HJ.out.own;rw[HE.out]at this;exact this,HJ.out.below⟩
theorem by_in{b:Bk}(hg:zct b)(n:Int):∀z∈(thS b n).map (·.by_),inI z:=by
 intro z hz
 obtain⟨x,hx,rfl⟩:=List.mem_map.1 hz
 have hm:x∈b.chars:=by
  unfold thS at hx
  split at hx
  ·exact(List.mem_filter.1 hx).1
  cases hx
 have:=(zje hg).wr x hm
 unfold wrB at this
 rw[decide_eq_true_eq]at this
 unfold inI
 omega
theorem then_lk(h:zb8 base w0 S R D G pw told t wk)(n:Int)(hz:told.length<=600000000):
 Calls Tryz.prog 91 #[.pointer (some ⟨R,0,none⟩),.int .i64 n] wk fun e w'=>e= .returned (.tuple #[])/\zb8 base w0 S R D G pw (told++zh9 t n) t w':=by
 have HA:=hid h
 have HBY:Hid (∀z∈(thS t.b n).map (·.by_),inI z):=by_in h.ti.good n
 have HTL:Hid ((thS t.b n).length<=200):=by show _<=_;have:=ztn t.b n;have:=zay (b:=t.b);omega
 obtain⟨c2,hR⟩:=h.cell
 obtain⟨c3,hD⟩:=h.log
 clear h
 go_enter Tryz.func91,Tryz.ntmps91
 go_wp2_with fail
 clear c2 hR c3 hD
 refine(of_dk HA.out.any).mono ?_
 rintro e w1 ⟨P,rfl,hst,hb⟩
 have H1:=hid (HA.out.after hb)
 have HST:=hid hst
 clear hb hst HA
 go_wp2_with fail
 refine(text_st HST.out n).mono ?_
 rintro e w2 ⟨rfl,hb⟩
 have H2:=hid (H1.out.after hb)
 have HS2:=hid (HST.out.below hb)
 clear hb HST H1
 cases hin:inS t.b n
 ·have HE:Hid (zh9 t n=noW 5):=by show _=_;unfold zh9;rw[hin];rfl
  generalize strOfNums _=sx at*
  go_wp2_with fail
  refine(H2.out.nos 5 (no_in zgj) (by omega)).mono ?_
  rintro e w5 ⟨rfl,h5⟩
  have H5:Hid (zb8 base w0 S R D G pw (told++zh9 t n) t w5):=by show zb8 _ _ _ _ _ _ _ _ _ _;rw[HE.out];exact h5
  clear h5 H2
  go_wp2_with fail
  (try simp only[Exit.inBlock,Exit.then]);refine bodyPost_ret (results_none rfl _ _ _) rfl ?_
  exact⟨rfl,H5.out⟩
 have HE:Hid (zh9 t n=zfj ((thS t.b n).map (·.c))++byW ((thS t.b n).map (·.by_))):=by show _=_;unfold zh9;rw[hin];rfl
 have HIN:=hid hin
 clear hin
 have HSX:Hid (zkb ((thS t.b n).map (·.c))=(strOfNums ((thS t.b n).map (·.c))).data.toList):=rfl
 have HSZ:Hid ((strOfNums ((thS t.b n).map (·.c))).size<=200):=by show _<=_;rw[zbn,List.length_map];exact HTL.out
 obtain⟨sx,hsx⟩:∃sx,strOfNums ((thS t.b n).map (·.c))=sx:=⟨_,rfl⟩
 rw[hsx]at HSX HSZ⊢
 clear hsx
 go_wp2_with fail
 obtain⟨T,a1,a2,a3⟩:=H2.out.turn
 refine(by_own HS2.out n).mono ?_
 rintro e w3 ⟨bv,rfl,⟨m,hm,hbv⟩,hb⟩
 rw[HIN.out]
 have HA1:=hid (a1.below a2 hb)
 have HA2:=hid (zeh a2 hb)
 have HA3:Hid (∀told' w',zfs w3 base T R D told' w'->zb8 base w0 S R D G pw told' t w'):=fun told' w' ht=>a3 _ _ (zfs.since hb ht a2)
 have HFR:Hid (∀w',zam T w3 w'->znj w' bv ((thS t.b n).map (·.by_))):=fun w' hk=>by
  have:zps w' m bv ((thS t.b n).map (·.by_)):=za5 hbv (fun k e=>by
   obtain⟨h1,h2⟩:=World.ownsRow.lt hbv k e
   exact hk.block k h2 (fun e'=>by have:=(a2.2 k e').2;omega))
  exact this.ilst
 have HRD:=hid (H2.out.rdy.after hb)
 obtain⟨ba,bc,rfl⟩:=hbv.ilst.len
 have HJN:Hid (told++(jnB [[116,101,120,116],sx.data.toList]++[10])++(([98,121]++zdz ((thS t.b n).map (·.by_)))++[10])=told++zh9 t n):=by
  show _=_
  rw[HE.out,zoc,HSX.out,by_join,List.append_assoc,List.append_assoc]
 have HLN:Hid (((thS t.b n).map (·.by_)).length<=1000):=by show _<=_;rw[List.length_map];have:=HTL.out;omega
 clear hb hbv hm a1 a2 a3 HS2 H2 HTL HSX HE
 generalize (thS t.b n).map (·.by_)=zs at*
 go_wp2_with fail
 refine(qe7 HA1.out HA2.out ⟨#[116,101,120,116]⟩ sx (by have:=HSZ.out;show _+(4+_)<=_;omega) rfl).mono ?_
 rintro e w4 ⟨rfl,h4⟩
 have H4:=hid h4
 clear h4 HA1
 go_wp2_with fail
 refine(zi9 H4.out.1 (H4.out.held HA2.out) (HRD.out.lk HA2.out H4.out) ⟨#[98,121]⟩ (HFR.out w4 H4.out.2) HBY.out HLN.out (by decide) (by
  rw[znr]
  have:=HSZ.out
  simp only[List.length_append,List.length_cons,List.length_nil,zav]
  omega)).mono ?_
 rintro e w5 ⟨rfl,h5⟩
 have H5:Hid (zb8 base w0 S R D G pw (told++zh9 t n) t w5):=by
  show zb8 _ _ _ _ _ _ _ _ _ _
  rw[<-HJN.out]
  exact HA3.out _ _ (H4.out.trans h5 HA2.out)
 clear h5 H4
 go_wp2_with fail
 go_end0
 exact⟨rfl,H5.out⟩
end
end Go.Proofs.YtcbnnfeelhlapadGreatDoor