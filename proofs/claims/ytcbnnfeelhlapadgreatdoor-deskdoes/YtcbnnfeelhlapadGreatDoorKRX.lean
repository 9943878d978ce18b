/-
  KLX, KRF, KBeg, KJh, KRX.
-/
import Derived.Test.YtcbnnfeelhlapadGreatDoorKLD
import Derived.Test.YtcbnnfeelhlapadGreatDoorKRL
namespace Go.Proofs.YtcbnnfeelhlapadGreatDoor
set_option maxHeartbeats 3200000
set_option maxRecDepth 20000
open Go.RowKit
variable {v:Value}
structure qa6(base R D G:Nat)(pw:Nat->Nat)(told:List UInt8)(t:Twn)(w:World)(S:Nat->Prop):Prop where
 lo:∀k,S k->base<=k/\k<w.heap.size
 own:∃tk,TR t tk/\∃ow,HpAt base (zvz base D G pw t tk (zat (fun _=>Th.no base) 0 (Th.lk base R D told))) ow w/\∀k,ow k≠0->S k
def KdTo(base:Nat)(w:World)(S:Nat->Prop)(R D G:Nat)(pw:Nat->Nat)(told:List UInt8)(t:Twn)(w':World):Prop:=qa6 base R D G pw told t w' (grow S w w')/\zam S w w'
def Th.kd(base R D G:Nat)(pw:Nat->Nat)(t:Twn):Th base:=
 ⟨fun w S=>qa6 base R D G pw [] t w S,fun {w w' S T} _ h hk hd=>by
  obtain⟨tk,htr,ow,h1,h2⟩:=h.own
  have hs:=hk.size
  refine⟨fun k e=>⟨(h.lo k e).1,Nat.lt_of_lt_of_le (h.lo k e).2 hs⟩,tk,htr,ow,⟨fun k e=>⟨(h1.lo k e).1,Nat.lt_of_lt_of_le (h1.lo k e).2 hs⟩,Nat.le_trans h1.bs hs,fun i hi=> ?_⟩,h2⟩
  exact(zvz base D G pw t tk (zat (fun _=>Th.no base) 0 (Th.lk base R D [])) i).kept (fun k e=>h1.lo k (by rw[e];exact hi)) (h1.at_ i hi) hk (fun k e=>hd k (h2 k (by rw[e];exact hi))),fun {w S T} h hT hl=>by
  obtain⟨tk,htr,ow,h1,h2⟩:=h.own
  exact⟨hl,tk,htr,ow,h1,fun k e=>hT k (h2 k e)⟩⟩
section
variable {base R D G:Nat} {pw:Nat->Nat} {w w0 wk w':World} {S:Nat->Prop} {told:List UInt8} {t:Twn}
theorem qa6.held(h:qa6 base R D G pw told t w S):base<=w.heap.size/\∀k,S k->base<=k/\k<w.heap.size:=by
 obtain⟨tk,htr,ow,h1,h2⟩:=h.own
 exact⟨h1.bs,h.lo⟩
theorem qa6.start(h:qa6 base R D G pw told t w S)(hr:Rdy base w):zb8 base w S R D G pw told t w:=by
 obtain⟨tk,htr,ow,h1,h2⟩:=h.own
 exact⟨⟨tk,⟨ow,h1,fun k e=> .inl (h2 k e),zam.refl _ _⟩,htr⟩,hr⟩
theorem zb8.kept(h:zb8 base w0 S R D G pw told t wk):zam S w0 wk:=by
 obtain⟨⟨tk,h1,_⟩,_⟩:=h
 exact Hq.kept h1
theorem zb8.done(h:zb8 base w S R D G pw told t w')(hl:base<=w.heap.size/\∀k,S k->base<=k/\k<w.heap.size):KdTo base w S R D G pw told t w':=by
 have hk:=h.kept
 have hs:=hk.size
 obtain⟨⟨tk,⟨ow,h1⟩,h2⟩,_⟩:=h
 refine⟨⟨fun k e=> ?_,tk,h2,ow,h1.at_,h1.old⟩,hk⟩
 rcases e with e|e
 ·have:=hl.2 k e;omega
 omega
theorem qa6.below(h:qa6 base R D G pw [] t w S)(hb:Below w.heap.size w w'):qa6 base R D G pw [] t w' S:=
 (Th.kd base R D G pw t).kept h.held.2 h (zam.of_below (S:=fun _=>False) hb) (fun _ _ e=>e)
theorem KdTo.since(hb:Below w.heap.size w wk)(h:KdTo base wk S R D G pw [] t w')(hl:base<=w.heap.size/\∀k,S k->base<=k/\k<w.heap.size):KdTo base w S R D G pw [] t w':=by
 have s1:=hb.size
 have s2:=h.2.size
 refine⟨(Th.kd base R D G pw t).mono h.1 (fun k e=> ?_) (fun k e=> ?_),(zam.of_below hb).trans' h.2⟩
 ·rcases e with e|e
  ·exact .inl e
  exact .inr ⟨by omega,e.2⟩
 rcases e with e|e
 ·have:=hl.2 k e;omega
 omega
theorem KdTo.out(h:KdTo base wk S R D G pw [] t w0)(hw:zam S w w0){B:Nat}(hB:w.heap.size<=B)(hB2:B<wk.heap.size)(hS:∀k,S k->k<w.heap.size)(hk:zam (fun k=>k=B) w0 w'):qa6 base R D G pw [] t w' (grow S wk w0)/\zam S w w':=by
 refine⟨(Th.kd base R D G pw t).kept h.1.lo h.1 hk (fun k e e'=> ?_),hk.os.trans hw.os,hk.tape.trans hw.tape,hk.output.trans hw.output,Nat.le_trans hw.size hk.size,fun k hk1 hs=> ?_⟩
 ·rcases e with e|e
  ·have:=hS k e;omega
  omega
 rw[hk.block k (Nat.lt_of_lt_of_le hk1 hw.size) (by omega)]
 exact hw.block k hk1 hs
abbrev kdZ(D:Nat):Array Value:= #[.pointer none,.slice none 0 0,.pointer (some ⟨D,0,none⟩)]
abbrev kdW(w:World):World:=((w.alloc (.cells logZ 104)).alloc (.cells (zkx w.heap.size) 59)).alloc (.cells (kdZ (w.heap.size+1)) 46)
theorem new_kd(w:World):Calls Tryz.prog 7 #[] w fun e w'=>e= .returned (.pointer (some ⟨w.heap.size+2,0,none⟩))/\w'=kdW w:=by
 go_enter Tryz.func7,Tryz.ntmps7
 go_wp2_with fail
 refine(new_dk w).mono ?_
 rintro e w1 ⟨rfl,rfl⟩
 go_wp2
 go_ret
 exact⟨by simp,rfl⟩
theorem zzq(w:World)(hb:base<=w.heap.size):qa6 base (w.heap.size+2) (w.heap.size+1) w.heap.size (fun _=>0) [] zpz (kdW w) (fun k=>w.heap.size<=k/\k<(kdW w).heap.size):=by
 have hsz:(kdW w).heap.size=w.heap.size+3:=by simp
 have h0:Hq base (fun _=>Th.no base) w (fun _=>False) w:=⟨fun _=>0,⟨fun _ e=>absurd rfl e,hb,fun _ _=>trivial⟩,fun _ e=>absurd rfl e,zam.refl _ _⟩
 have h1:=Hq.lay h0 (za2 w (.cells logZ 104)) (i:=1) (by omega) (Th.log base w.heap.size Bk.empty) ⟨_,_,(zx1 w hb).mono (fun k e=>⟨by omega,by simp;omega⟩) (fun k e=>⟨by omega,e.2⟩)⟩
 have h2:=Hq.lay h1 (za2 _ (.cells (zkx w.heap.size) 59)) (i:=6) (by omega) (Th.tw base (w.heap.size+1) w.heap.size (fun _=>0) (zbo zpz)) ⟨⟨by simp,by simp⟩,by have:=qcu (w.alloc (.cells logZ 104)) w.heap.size;simpa using this⟩
 have hlk:zpv (kdW w) base (fun k=>((w.alloc (.cells logZ 104)).alloc (.cells (zkx w.heap.size) 59)).heap.size<=k/\k<(kdW w).heap.size) (w.heap.size+2) (w.heap.size+1) []:=by
  refine⟨⟨by simp,by simp⟩,.pointer none,.slice none 0 0,.inl rfl,?_,World.ownsRow_nil _ _ _ _,fun _ e=>(by cases e),fun _=>rfl⟩
  have:=heap_alloc_new ((w.alloc (.cells logZ 104)).alloc (.cells (zkx w.heap.size) 59)) (.cells (kdZ (w.heap.size+1)) 46)
  simpa using this
 have h3:=Hq.lay h2 (za2 _ (.cells (kdZ (w.heap.size+1)) 46)) (i:=7) (by omega) (Th.lk base (w.heap.size+2) (w.heap.size+1) []) hlk
 have h4:zbc base w (fun _=>False) (w.heap.size+1) w.heap.size (fun _=>0) zpz (fun _=>[]) (zat (fun _=>Th.no base) 0 (Th.lk base (w.heap.size+2) (w.heap.size+1) [])) (kdW w):=zif h3 (fun T hp=>hp) (fun T hp=>hp) (fun k hk T hp=>by show(Th.no _).P _ T;trivial) (fun j T hp=>by
  by_cases e:j=0
  ·subst e;exact hp
  rw[za4 _ _ e];trivial)
 obtain⟨ow,h5⟩:=h4
 refine⟨fun k e=>⟨by omega,e.2⟩,fun _=>[],zyj,ow,h5.at_,fun k e=> ?_⟩
 rcases h5.old k e with x|x
 ·exact x.elim
 exact x
theorem qfb{Q:Ending->World->Prop}{a:Act}{w:World}{B:Nat}{c f:Int}(h:zo1 w B c f)(h2:a.tmps.getD 4 undef=v)(h3:a.tmps.getD 5 undef= .pointer (some ⟨B,0,none⟩))(hd:a.defers=[])
 (hR:Q (.returned (.tuple #[v,ftV c f])) w):bodyPost Tryz.prog Tryz.f9 Q Exit.ret a w:=by
 refine bodyPost_ret ?_ hd hR
 rw[ziq rfl,h2,h3]
 simp[asAddr,zsn h]
theorem zfs.reset{T:Nat->Prop}{w1 w2:World}(hl:base<=wk.heap.size/\∀k,T k->base<=k/\k<wk.heap.size)(h1:zam T wk w1)(h2:zfs w1 base T R D [] w2):zfs wk base T R D [] w2:=by
 have s1:=h1.size
 have s2:=h2.2.size
 refine⟨(Th.lk base R D []).mono h2.1 (fun k e=> ?_) (fun k e=> ?_),h1.trans' h2.2⟩
 ·rcases e with e|e
  ·exact .inl e
  exact .inr ⟨by omega,e.2⟩
 rcases e with e|e
 ·have:=hl.2 k e;omega
 omega
theorem zrd{l:List (List UInt8)}(h:zcs l=(0,0)):l.length<=150:=by
 rcases Nat.lt_or_ge 150 l.length with h'|h'
 ·rw[zpd h']at h;cases h
 exact h'
theorem do_kd(h:qa6 base R D G pw [] t w S)(hr:Rdy base w){v:Value}{ls:List ByteArray}(hv:∀wk,zam S w wk->zbs wk v ls)(hz:∀s∈ls,s.size<=10000)(hf:zcs (ls.map (·.data.toList))=(0,0)):
 Calls Tryz.prog 9 #[.pointer (some ⟨R,0,none⟩),v] w fun e w'=>e= .returned (.tuple #[.string (bl (doK t (ls.map (·.data.toList))).1),ftV 0 0])/\(doK t (ls.map (·.data.toList))).1.length<=30000*ls.length/\∃pw',KdTo base w S R D G pw' [] (doK t (ls.map (·.data.toList))).2 w':=by
 have hn:ls.length<=150:=by have:=zrd hf;rw[List.length_map]at this;exact this
 have HV:=hid hv
 have HZ:=hid hz
 have HK:=hid h
 have HRD:=hid hr
 have HF:=hid hf
 have HRF:Hid (Calls Tryz.prog 14 #[v] (w.alloc (.cells #[.int .i64 0,.int .i64 0] 31)) fun e w'=>e= .returned (fkV (zcs (ls.map (·.data.toList))))/\Below (w.alloc (.cells #[.int .i64 0,.int .i64 0] 31)).heap.size (w.alloc (.cells #[.int .i64 0,.int .i64 0] 31)) w'):=zot (hv _ (.of_below (za2 _ _)))
 have HT0:=hid (zf3 w 0 0)
 obtain⟨a,cap,rfl,_⟩:=(hv w (zam.refl _ _)).len
 rw[hf]at HRF
 clear h hr hv hz hf
 go_enter Tryz.func9,Tryz.ntmps9
 go_wp2_with fail
 refine HRF.out.mono ?_
 rintro e w1 ⟨rfl,hb⟩
 have hB1:Below w.heap.size w w1:=bla (za2 _ _) hb
 have HB2:Hid (Below w.heap.size w (w1.alloc (.cells #[.int .i64 0,.int .i64 0] 31))):=bla hB1 (za2 _ _)
 have HT2:Hid (zo1 (w1.alloc (.cells #[.int .i64 0,.int .i64 0] 31)) w.heap.size 0 0):=HT0.out.below (by simp) (bla hb (za2 _ _))
 have HLT:Hid (w.heap.size<(w1.alloc (.cells #[.int .i64 0,.int .i64 0] 31)).heap.size):=by show _<_;have:=hb.size;simp at this⊢;omega
 clear hb hB1 HT0 HRF
 go_upto_region 4 with fail
 have HI2:=hid ((HK.out.below HB2.out).start (HRD.out.after HB2.out))
 generalize World.alloc _ _=w2 at*
 go_wp2_with fail
 go_loopw [18] (fun i wr=>∃k:Nat,k<=ls.length/\i= .int .i64 k/\Hid (∃pw',zb8 base w2 S R D G pw' (doK t ((ls.map (·.data.toList)).take k)).1 (doK t ((ls.map (·.data.toList)).take k)).2 wr)/\Hid ((doK t ((ls.map (·.data.toList)).take k)).1.length<=30000*k)) (fun i _=>ls.length-(intOf i).toNat)
 case atStart=>exact⟨0,Nat.zero_le _,rfl,⟨pw,HI2.out⟩,Nat.le_refl _⟩
 obtain⟨k,hk,rfl,HW,HLN⟩:=hrel
 clear HI2
 obtain⟨pw3,h3⟩:=HW.out
 have HKW:=hid ((zam.of_below HB2.out).trans' h3.kept)
 by_cases hlt:k<ls.length
 ·have hki:(k:Int)<(ls.length:Int):=by omega
  obtain⟨bb,off,rfl,hst⟩:=(HV.out wr HKW.out).row (by omega)
  have c0:=hst.cell k hlt
  have hbl:=hst.lt
  have HX:Hid ((ls.map (·.data.toList)).take (k+1)=(ls.map (·.data.toList)).take k++[ls[k].data.toList]):=by
   show _=_
   rw[List.take_succ_eq_append_getElem (by rw[List.length_map];exact hlt),List.getElem_map]
  have HSZ:Hid (ls[k].size<=10000):=HZ.out _ (List.getElem_mem hlt)
  generalize ls[k]=s at*
  have HH3:=hid h3
  clear hst h3 HW
  go_wp2_with fail
  refine(qg4 HH3.out s HSZ.out (by have:=HLN.out;omega)).mono ?_
  rintro e w4 ⟨rfl,h4⟩
  have H4:Hid (∃pw',zb8 base w2 S R D G pw' (doK t ((ls.map (·.data.toList)).take (k+1))).1 (doK t ((ls.map (·.data.toList)).take (k+1))).2 w4):=by rw[HX.out,znw];exact h4
  have HL4:Hid ((doK t ((ls.map (·.data.toList)).take (k+1))).1.length<=30000*(k+1)):=by
   show _<=_
   rw[HX.out,znw]
   obtain⟨tk,_,htr⟩:=HH3.out.any
   have:=zzl htr s.data.toList
   have:=HLN.out
   show((doK t _).1++_).length<=_
   rw[List.length_append]
   omega
  clear h4 HH3 c0 hbl
  go_wp2_with fail
  go_roundw
  case rel=>exact⟨k+1,by omega,by go_num,H4.out,HL4.out⟩
  case measure=>simp[intOf];omega
 obtain rfl:k=ls.length:=by omega
 have HE:Hid ((ls.map (·.data.toList)).take ls.length=ls.map (·.data.toList)):=by show _=_;rw[<-List.length_map (f:=fun s:ByteArray=>s.data.toList)];exact List.take_length
 rw[HE.out]at h3 HLN
 obtain⟨T,a1,a2,a3⟩:=h3.turn
 have HA1:=hid a1
 have HA2:=hid a2
 have HA3:=hid a3
 clear a1 a2 a3 h3 HW
 have hlz:(doK t (ls.map (·.data.toList))).1.length<=2000000000:=by have:=HLN.out;omega
 go_wp2_with fail
 refine(qdr HA1.out hlz).mono ?_
 rintro e w4 ⟨rfl,hk4,hb4⟩
 have HK4:=hid hk4
 have HB4:=hid hb4
 clear hk4 hb4
 go_wp2_with fail
 refine(reset_lk (S:=T) (base:=base) HA1.out.hR HB4.out).mono ?_
 rintro e w5 ⟨rfl,h5⟩
 have h6:zb8 base w2 S R D G pw3 [] (doK t (ls.map (·.data.toList))).2 w5:=HA3.out _ _ (zfs.reset HA2.out HK4.out h5)
 have h7:=h6.done (zeh HK.out.held HB2.out)
 have HK5:=hid ((zam.of_below HB2.out).trans' h6.kept)
 have HT5:Hid (zo1 w5 w.heap.size 0 0/\w.heap.size<w5.heap.size):=by
  have hbk:=h6.kept.block w.heap.size HLT.out (fun e=>by have:=(HK.out.lo _ e).2;omega)
  have hc:∀o,w5.cell? ⟨w.heap.size,o,none⟩=w2.cell? ⟨w.heap.size,o,none⟩:=fun o=>World.cell?_of_block (a:=⟨w.heap.size,o,none⟩) hbk
  have hf:∀o,w5.frozen? ⟨w.heap.size,o,none⟩=w2.frozen? ⟨w.heap.size,o,none⟩:=fun o=>World.frozen?_of_block (a:=⟨w.heap.size,o,none⟩) hbk
  exact⟨⟨by rw[hc];exact HT2.out.c0,by rw[hc];exact HT2.out.c1,by rw[hf];exact HT2.out.f0,by rw[hf];exact HT2.out.f1⟩,Nat.lt_of_lt_of_le HLT.out h6.kept.size⟩
 have HOUT:Hid (∃pw',KdTo base w S R D G pw' [] (doK t (ls.map (·.data.toList))).2 ((w5.setCell ⟨w.heap.size,0,none⟩ (.int .i64 0)).setCell ⟨w.heap.size,1,none⟩ (.int .i64 0))):=by
  have hkk:zam (fun k=>k=w.heap.size) w5 ((w5.setCell ⟨w.heap.size,0,none⟩ (.int .i64 0)).setCell ⟨w.heap.size,1,none⟩ (.int .i64 0)):=((zam.refl (fun k=>k=w.heap.size) w5).set (p:=⟨w.heap.size,0,none⟩) rfl _).set (p:=⟨w.heap.size,1,none⟩) rfl _
  obtain⟨q1,q2⟩:=h7.out HK5.out (Nat.le_refl _) HLT.out (fun k e=>(HK.out.lo k e).2) hkk
  refine⟨pw3,(Th.kd base R D G pw3 _).mono q1 (fun k e=> ?_) (fun k e=> ?_),q2⟩
  ·have s1:=HB2.out.size
   have s2:=hkk.size
   rcases e with e|e
   ·exact .inl e
   exact .inr ⟨by omega,by omega⟩
  have s1:=q2.size
  rcases e with e|e
  ·have:=HK.out.lo k e;omega
  have:=HK.out.held.1;omega
 obtain⟨⟨c0,c1,f0,f1⟩,hlt5⟩:=HT5.out
 have HT6:=hid (HT5.out.1.put 0 0)
 clear h5 h6 h7 HA1 HA2 HA3
 go_wp2
 refine qfb HT6.out rfl rfl rfl ?_
 exact⟨rfl,HLN.out,HOUT.out⟩
theorem do_kd_no{ls:List ByteArray}(hv:zbs w v ls){c i:Int}(hf:zcs (ls.map (·.data.toList))=(c,i))(hc:c≠0):
 Calls Tryz.prog 9 #[.pointer (some ⟨R,0,none⟩),v] w fun e w'=>e= .returned (.tuple #[.string ⟨#[]⟩,ftV c i])/\Below w.heap.size w w':=by
 have HRF:Hid (Calls Tryz.prog 14 #[v] (w.alloc (.cells #[.int .i64 0,.int .i64 0] 31)) fun e w'=>e= .returned (fkV (zcs (ls.map (·.data.toList))))/\Below (w.alloc (.cells #[.int .i64 0,.int .i64 0] 31)).heap.size (w.alloc (.cells #[.int .i64 0,.int .i64 0] 31)) w'):=zot (hv.below (za2 _ _))
 have HT0:=hid (zf3 w 0 0)
 obtain⟨a,cap,rfl,_⟩:=hv.len
 rw[hf]at HRF
 have hcb:(c==0)=false:=by simpa using hc
 clear hv hf
 go_enter Tryz.func9,Tryz.ntmps9
 go_wp2_with fail
 refine HRF.out.mono ?_
 rintro e w1 ⟨rfl,hb⟩
 have hB1:Below w.heap.size w w1:=bla (za2 _ _) hb
 have HB2:Hid (Below w.heap.size w (w1.alloc (.cells #[.int .i64 c,.int .i64 i] 31))):=bla hB1 (za2 _ _)
 have HT2:Hid (zo1 (w1.alloc (.cells #[.int .i64 c,.int .i64 i] 31)) w.heap.size 0 0):=HT0.out.below (by simp) (bla hb (za2 _ _))
 have HN2:=hid (zf3 w1 c i)
 have HLT:Hid (w.heap.size<w1.heap.size/\w1.heap.size<(w1.alloc (.cells #[.int .i64 c,.int .i64 i] 31)).heap.size):=by
  have:=hb.size
  simp at this
  exact⟨by omega,by simp⟩
 clear hb hB1 HT0 HRF
 go_upto_region 3 with fail
 generalize World.alloc _ _=w2 at*
 generalize hBF:w1.heap.size=BF at*
 obtain⟨c0,c1,f0,f1⟩:=HT2.out
 obtain⟨d0,d1,_,_⟩:=HN2.out
 obtain⟨l1,l2⟩:=HLT.out
 have l3:w.heap.size<w2.heap.size:=by omega
 have HT6:Hid (zo1 ((w2.setCell ⟨w.heap.size,0,none⟩ (.int .i64 c)).setCell ⟨w.heap.size,1,none⟩ (.int .i64 i)).drew w.heap.size c i):=(HT2.out.put c i).below (by simpa [World.setCell]using l3) (Below.refl _ _).drew
 have HB6:Hid (Below w.heap.size w ((w2.setCell ⟨w.heap.size,0,none⟩ (.int .i64 c)).setCell ⟨w.heap.size,1,none⟩ (.int .i64 i)).drew):=(zhz HB2.out (Nat.le_refl _) c i).drew
 clear HT2 HN2 HLT HB2
 go_region
 all_goals
  go_wp2
  refine qfb HT6.out rfl rfl rfl ?_
  exact⟨rfl,HB6.out⟩
end
variable {w:World} {s:ByteArray}
theorem zw5{fn:Func}{p:Tmp}{Q:Ending->World->Prop}{a:Act}{B:Nat}{c f:Int}(hf:fn.results= #[.cell p 31])(h:zo1 w B c f)(h2:a.tmps.getD p undef= .pointer (some ⟨B,0,none⟩))(hd:a.defers=[])
 (hR:Q (.returned (ftV c f)) w):bodyPost Tryz.prog fn Q Exit.ret a w:=by
 refine bodyPost_ret ?_ hd hR
 have e:(results fn a.tmps).run Tryz.prog w=((asAddr (a.tmps.getD p undef)).run Tryz.prog w).andThen fun b w₁=>(loadVar 31 b).run Tryz.prog w₁:=by
  simp only[results,hf]
  simp[Sem.run_bind,Result.andThen]
 rw[e,h2]
 simp[asAddr,zsn h]
theorem refF(c i:Int)(w:World):Calls Tryz.prog 18 #[.int .i64 c,.int .i64 i] w fun e w'=>e= .returned (ftV c i)/\Below w.heap.size w w':=by
 go_enter Tryz.func18,Tryz.ntmps18
 go_wp2
 refine zll (B:=w.heap.size) (c:=c) (i:=i) rfl (heap_alloc_new w _) rfl rfl ?_
 exact⟨rfl,za2 _ _⟩
theorem nl_at{m:Nat}(hm:m<s.size)(h:s[m]=10):zhb s.data.toList=true:=by
 unfold zhb
 rw[List.any_eq_true]
 have hd:m<s.data.toList.length:=hm
 exact⟨s.data.toList[m],List.getElem_mem hd,by rw[qft s m hm,h];rfl⟩
theorem nl_no(h:∀(m:Nat) (hm:m<s.size),s[m]≠10):zhb s.data.toList=false:=by
 unfold zhb
 rw[List.any_eq_false]
 intro x hx
 obtain⟨m,hm,rfl⟩:=List.mem_iff_getElem.1 hx
 have hm':m<s.size:=hm
 rw[qft s m hm']
 have:=h m hm'
 simpa using this
theorem zqa{v:Value}{ls:List ByteArray}(h:zbs w v ls)(hz:∀s∈ls,s.size<=10000):
 Calls Tryz.prog 10 #[v] w fun e w'=>e= .returned (fkV (zcs (ls.map (·.data.toList))))/\Below w.heap.size w w':=by
 have HV:Hid (zbs (w.alloc (.cells #[.int .i64 0,.int .i64 0] 31)) v ls):=h.below (za2 _ _)
 have HZ:Hid (∀s∈ls,s.size<=10000):=hz
 have HB1:Hid (Below w.heap.size w (w.alloc (.cells #[.int .i64 0,.int .i64 0] 31))):=za2 _ _
 have HT1:Hid (zo1 (w.alloc (.cells #[.int .i64 0,.int .i64 0] 31)) w.heap.size 0 0/\w.heap.size<(w.alloc (.cells #[.int .i64 0,.int .i64 0] 31)).heap.size):=⟨zf3 w 0 0,by simp⟩
 have HL:Hid ((ls.map (·.data.toList)).length=ls.length):=List.length_map ..
 obtain⟨a,cap,rfl,_⟩:=h.len
 clear h hz
 go_enter Tryz.func10,Tryz.ntmps10
 go_upto_region 1 with fail
 generalize World.alloc _ _=w1 at*
 by_cases hb:150<ls.length
 ·have HE:Hid (zcs (ls.map (·.data.toList))=(10,-1)):=zpd (by rw[HL.out];exact hb)
  have hbi:(150:Int)<(ls.length:Int):=by omega
  go_wp2_with fail
  refine(refF 10 (-1) w1).mono ?_
  rintro e w2 ⟨rfl,hb2⟩
  have ht2:zo1 w2 w.heap.size 0 0:=HT1.out.1.below HT1.out.2 hb2
  have HT6:Hid (zo1 ((w2.setCell ⟨w.heap.size,0,none⟩ (.int .i64 10)).setCell ⟨w.heap.size,1,none⟩ (.int .i64 (-1))) w.heap.size 10 (-1)):=ht2.put 10 (-1)
  have HB6:Hid (Below w.heap.size w ((w2.setCell ⟨w.heap.size,0,none⟩ (.int .i64 10)).setCell ⟨w.heap.size,1,none⟩ (.int .i64 (-1)))):=zhz (bla HB1.out hb2) (Nat.le_refl _) 10 (-1)
  have hlt2:w.heap.size<w2.heap.size:=Nat.lt_of_lt_of_le HT1.out.2 hb2.size
  obtain⟨c0,c1,f0,f1⟩:=ht2
  clear hb2 HT1 HB1 HV
  go_wp2
  refine zw5 rfl HT6.out rfl rfl ?_
  rw[HE.out]
  exact⟨rfl,HB6.out⟩
 have hbi:¬(150:Int)<(ls.length:Int):=by omega
 have HE:Hid (zcs (ls.map (·.data.toList))=zbr 0 (ls.map (·.data.toList))):=zv9 (by rw[HL.out];exact hb)
 go_wp2_with fail
 go_loop [3] (fun i=>∃k:Nat,k<=ls.length/\i= .int .i64 k/\Hid (∀(j:Nat) (h:j<ls.length),j<k->zhb ls[j].data.toList=false)) (fun i=>ls.length-(intOf i).toNat)
 case atStart=>exact⟨0,Nat.zero_le _,rfl,fun j _ h=>absurd h (Nat.not_lt_zero _)⟩
 obtain⟨k,hk,rfl,HW⟩:=hrel
 by_cases hlt:k<ls.length
 ·have hki:(k:Int)<(ls.length:Int):=by omega
  obtain⟨bb,off,rfl,hst⟩:=HV.out.row (by omega)
  have c9:=hst.cell k hlt
  have hbl:=hst.lt
  obtain⟨s,hs⟩:∃s,ls[k]=s:=⟨_,rfl⟩
  have HS:Hid (ls[k]=s):=hs
  have hsz:s.size<=10000:=by rw[<-hs];exact HZ.out _ (List.getElem_mem hlt)
  rw[hs]at c9
  clear hst hs
  go_wp2_with fail
  go_loop [4] (fun j=>∃m:Nat,m<=s.size/\j= .int .i64 m/\Hid (∀(q:Nat) (h:q<s.size),q<m->s[q]≠10)) (fun j=>s.size-(intOf j).toNat)
  case atStart=>exact⟨0,Nat.zero_le _,rfl,fun j _ h=>absurd h (Nat.not_lt_zero _)⟩
  obtain⟨m,hm,rfl,HM⟩:=hrel
  by_cases hmt:m<s.size
  ·have hmi:(m:Int)<(s.size:Int):=by omega
   by_cases h10:s[m]=10
   ·have hbb:((s[m].toNat:Int)==10)=true:=by rw[h10];rfl
    have hbn:(s[m].toNat:Int)=10:=by rw[h10];rfl
    have HF:Hid (zbr 0 (ls.map (·.data.toList))=(11,(k:Int))):=by
     have:=zsw (ls.map (·.data.toList)) 0 k (by rw[HL.out];exact hlt) (fun j hj=>by rw[List.getElem_map];exact HW.out j (by omega) hj) (by rw[List.getElem_map,HS.out];exact nl_at hmt h10)
     rw[Nat.zero_add]at this
     exact this
    clear HM HW
    go_wp2_with fail
    refine(refF 11 (k:Int) w1).mono ?_
    rintro e w2 ⟨rfl,hb2⟩
    have ht2:zo1 w2 w.heap.size 0 0:=HT1.out.1.below HT1.out.2 hb2
    have HT6:Hid (zo1 ((w2.setCell ⟨w.heap.size,0,none⟩ (.int .i64 11)).setCell ⟨w.heap.size,1,none⟩ (.int .i64 k)) w.heap.size 11 k):=ht2.put 11 k
    have HB6:Hid (Below w.heap.size w ((w2.setCell ⟨w.heap.size,0,none⟩ (.int .i64 11)).setCell ⟨w.heap.size,1,none⟩ (.int .i64 k))):=zhz (bla HB1.out hb2) (Nat.le_refl _) 11 k
    have hlt2:w.heap.size<w2.heap.size:=Nat.lt_of_lt_of_le HT1.out.2 hb2.size
    obtain⟨c0,c1,f0,f1⟩:=ht2
    clear hb2 HT1 HB1 HV c9 hbl
    go_wp2
    refine zw5 rfl HT6.out rfl rfl ?_
    rw[HE.out,HF.out]
    exact⟨rfl,HB6.out⟩
   have hbb:((s[m].toNat:Int)==10)=false:=by
    simp
    intro e
    exact h10 (UInt8.toNat_inj.1 (by simpa using(by omega:s[m].toNat=10)))
   go_wp2_with fail
   go_round
   case rel=>exact⟨m+1,by omega,by go_num,fun q h hq=>by
    rcases Nat.lt_or_ge q m with h'|h'
    ·exact HM.out q h h'
    obtain rfl:q=m:=by omega
    exact h10⟩
   case measure=>simp[intOf];omega
  obtain rfl:m=s.size:=by omega
  have HNN:Hid (zhb s.data.toList=false):=nl_no (fun q h=>HM.out q h h)
  clear HM
  go_wp2_with fail
  go_round
  case rel=>exact⟨k+1,by omega,by go_num,fun j h hj=>by
   rcases Nat.lt_or_ge j k with h'|h'
   ·exact HW.out j h h'
   obtain rfl:j=k:=by omega
   rw[HS.out]
   exact HNN.out⟩
  case measure=>simp[intOf];omega
 obtain rfl:k=ls.length:=by omega
 have HF:Hid (zbr 0 (ls.map (·.data.toList))=(0,0)):=zmh _ 0 (fun x hx=>by
  obtain⟨y,hy,rfl⟩:=List.mem_map.1 hx
  obtain⟨j,hj,rfl⟩:=List.mem_iff_getElem.1 hy
  exact HW.out j hj hj)
 have HT6:Hid (zo1 ((w1.setCell ⟨w.heap.size,0,none⟩ (.int .i64 0)).setCell ⟨w.heap.size,1,none⟩ (.int .i64 0)) w.heap.size 0 0):=HT1.out.1.put 0 0
 have HB6:Hid (Below w.heap.size w ((w1.setCell ⟨w.heap.size,0,none⟩ (.int .i64 0)).setCell ⟨w.heap.size,1,none⟩ (.int .i64 0))):=zhz HB1.out (Nat.le_refl _) 0 0
 obtain⟨⟨c0,c1,f0,f1⟩,hlt2⟩:=HT1.out
 clear HT1 HB1 HV HW
 go_wp2
 refine zw5 rfl HT6.out rfl rfl ?_
 rw[HE.out,HF.out]
 exact⟨rfl,HB6.out⟩
variable {t:Twn} {s:List UInt8} {r:List (List UInt8)}
def zi6:Nat->Twn->Int->Twn×Bool
 | 0,t,_=>(t,false)
 |n+1,t,v=>match t.ws v with
  |none=>(t,true)
  |some w=>if(zdx t v w).1=0 then zi6 n (zdx t v w).2 v else((zdx t v w).2,true)
def zid:Nat->Twn->Int->Twn×Bool
 | 0,t,_=>(t,false)
 |n+1,t,v=>match t.ws v with
  |none=>(t,true)
  |some w=>if(zdg t v w).1=0 then zid n (zdg t v w).2 v else((zdg t v w).2,true)
theorem zl7:∀(n:Nat) (t:Twn) (v:Int),(zi6 n t v).2=true->zc8 t v=(zi6 n t v).1
 | 0,_,_,h=>by cases h
 |n+1,t,v,h=>by
  cases hw:t.ws v with
  |none=>rw[zfn hw];simp only[zi6,hw]
  |some w=>
   rw[zea hw]
   simp only[zi6,hw]at h⊢
   by_cases hc:(zdx t v w).1=0
   ·rw[if_pos hc]at h⊢
    rw[if_pos hc]
    exact zl7 n _ v h
   rw[if_neg hc,if_neg hc]
theorem zlj:∀(n:Nat) (t:Twn) (v:Int),(zid n t v).2=true->zca t v=(zid n t v).1
 | 0,_,_,h=>by cases h
 |n+1,t,v,h=>by
  cases hw:t.ws v with
  |none=>rw[zfr hw];simp only[zid,hw]
  |some w=>
   rw[zei hw]
   simp only[zid,hw]at h⊢
   by_cases hc:(zdg t v w).1=0
   ·rw[if_pos hc]at h⊢
    rw[if_pos hc]
    exact zlj n _ v h
   rw[if_neg hc,if_neg hc]
def kbS(t:Twn):Twn:=(zi6 4 (zi6 4 (zi6 4 (zi6 4 t 0).1 1).1 2).1 3).1
def kbH(t:Twn):Twn:=(zid 6 (zid 6 (zid 6 (zid 6 t 0).1 1).1 2).1 3).1
theorem qfc(h0:(zi6 4 t 0).2=true)(h1:(zi6 4 (zi6 4 t 0).1 1).2=true)(h2:(zi6 4 (zi6 4 (zi6 4 t 0).1 1).1 2).2=true)(h3:(zi6 4 (zi6 4 (zi6 4 (zi6 4 t 0).1 1).1 2).1 3).2=true)
 (g0:(zid 6 (kbS t) 0).2=true) (g1:(zid 6 (zid 6 (kbS t) 0).1 1).2=true) (g2:(zid 6 (zid 6 (zid 6 (kbS t) 0).1 1).1 2).2=true) (g3:(zid 6 (zid 6 (zid 6 (zid 6 (kbS t) 0).1 1).1 2).1 3).2=true):zep t=kbH (kbS t):=by
 have e1:zdl 4 t=kbS t:=by
  show zc8 (zc8 (zc8 (zc8 t 0) 1) 2) 3=_
  rw[zl7 4 t 0 h0,zl7 4 _ 1 h1,zl7 4 _ 2 h2,zl7 4 _ 3 h3]
  rfl
 rw[zep,e1]
 show zca (zca (zca (zca (kbS t) 0) 1) 2) 3=_
 rw[zlj 6 _ 0 g0,zlj 6 _ 1 g1,zlj 6 _ 2 g2,zlj 6 _ 3 g3]
 rfl
theorem kbD(u:Nat)(h:u<10):Lib.itoa (u:Int)=[UInt8.ofNat (48+u)]:=by
 rw[Lib.itoa,if_neg (by omega),Int.toNat_natCast,Lib.decDigits,dif_pos h]
theorem kb0:Lib.itoa 0=[48]:=kbD 0 (by decide)
theorem kb1:Lib.itoa 1=[49]:=kbD 1 (by decide)
theorem kb2:Lib.itoa 2=[50]:=kbD 2 (by decide)
theorem kb3:Lib.itoa 3=[51]:=kbD 3 (by decide)
theorem kbN(n:Int)(h0:0<=n)(h1:n<=1000){l:List UInt8}(h:Lib.itoa n=l):zfo (bl l)=some n:=by
 have:=num_back n h0 h1
 unfold zc3 at this
 rw[h]at this
 exact this
theorem kbn0:zfo (bl [48])=some 0:=kbN 0 (by decide) (by decide) kb0
theorem kbn1:zfo (bl [49])=some 1:=kbN 1 (by decide) (by decide) kb1
theorem kbn3:zfo (bl [51])=some 3:=kbN 3 (by decide) (by decide) kb3
theorem zgr{k:List UInt8}{zs:List Int}(hp:zew s=none)(hw:zax s=k::r)(hr:zbw (r.map bl)=some zs):zaf t s=zcj t k zs:=by
 unfold zaf
 rw[hp,hw]
 show zg1 t (k::r)=_
 rw[zg1,hr]
theorem zmd{x:Tst}(h:(tDo t x).1=0):zc6 t x=(okW,(tDo t x).2):=by
 unfold zc6
 rw[if_pos h]
def kbL:List (List UInt8):=[[106,111,105,110,32,48],[106,111,105,110,32,49],[112,117,116,32,48,32,48,32,97,32,98],[112,117,116,32,49,32,48,32,99],[115,101,116,116,108,101],[116,101,120,116,32,49],[116,97,107,101,32,48,32,48,32,49],[111,112,101,110,32,48],[115,101,110,100,32,48],[108,111,103],[116,104,101,110,32,51],[108,101,97,115,116],[120]]
def kbT1:Twn:=(tDo zpz ⟨1,0,0,0,⟨#[]⟩⟩).2
theorem kbC1:(tDo zpz ⟨1,0,0,0,⟨#[]⟩⟩).1=0:=by decide+kernel
theorem kbR1:zaf zpz [106,111,105,110,32,48]=(okW,kbT1):=by
 rw[zgr (k:=[106,111,105,110]) (r:=[[48]]) (zs:=[0]) (by rfl) (by rfl) (by
  show zbw [bl [48]]=some [0]
  simp[zbw,kbn0])]
 exact zmd kbC1
def kbT2:Twn:=(tDo kbT1 ⟨1,1,0,0,⟨#[]⟩⟩).2
theorem kbC2:(tDo kbT1 ⟨1,1,0,0,⟨#[]⟩⟩).1=0:=by decide+kernel
theorem kbR2:zaf kbT1 [106,111,105,110,32,49]=(okW,kbT2):=by
 rw[zgr (k:=[106,111,105,110]) (r:=[[49]]) (zs:=[1]) (by rfl) (by rfl) (by
  show zbw [bl [49]]=some [1]
  simp[zbw,kbn1])]
 exact zmd kbC2
def kbT3:Twn:=(tDo kbT2 ⟨2,0,0,0,bl [97,32,98]⟩).2
theorem kbC3:(tDo kbT2 ⟨2,0,0,0,bl [97,32,98]⟩).1=0:=by decide+kernel
theorem kbR3:zaf kbT2 [112,117,116,32,48,32,48,32,97,32,98]=(okW,kbT3):=by
 have hp:zew [112,117,116,32,48,32,48,32,97,32,98]=some (0,0,[97,32,98]):=by
  have hc:zn5 3 [112,117,116,32,48,32,48,32,97,32,98]=[[112,117,116],[48],[48],[97,32,98]]:=by decide+kernel
  rw[zoy,hc]
  unfold zkl
  dsimp only
  rw[if_pos rfl,zox,kbn0]
 unfold zaf
 rw[hp]
 exact zmd kbC3
def kbT4:Twn:=(tDo kbT3 ⟨2,1,0,0,bl [99]⟩).2
theorem kbC4:(tDo kbT3 ⟨2,1,0,0,bl [99]⟩).1=0:=by decide+kernel
theorem kbR4:zaf kbT3 [112,117,116,32,49,32,48,32,99]=(okW,kbT4):=by
 have hp:zew [112,117,116,32,49,32,48,32,99]=some (1,0,[99]):=by
  have hc:zn5 3 [112,117,116,32,49,32,48,32,99]=[[112,117,116],[49],[48],[99]]:=by decide+kernel
  rw[zoy,hc]
  unfold zkl
  dsimp only
  rw[if_pos rfl,zox,kbn0,kbn1]
 unfold zaf
 rw[hp]
 exact zmd kbC4
def qfd:Twn:=kbH (kbS kbT4)
theorem kbE5:zep kbT4=qfd:=qfc (by decide+kernel) (by decide+kernel) (by decide+kernel) (by decide+kernel) (by decide+kernel) (by decide+kernel) (by decide+kernel) (by decide+kernel)
theorem kbR5:zaf kbT4 [115,101,116,116,108,101]=(okW,qfd):=by
 rw[zgr (k:=[115,101,116,116,108,101]) (r:=[]) (zs:=[]) (by rfl) (by rfl) (by rfl),<-kbE5]
 rfl
theorem kbQ6:zaf qfd [116,101,120,116,32,49]=(zi8 qfd 1,qfd):=by
 rw[zgr (k:=[116,101,120,116]) (r:=[[49]]) (zs:=[1]) (by rfl) (by rfl) (by
  show zbw [bl [49]]=some [1]
  simp[zbw,kbn1])]
 rfl
theorem kbV6:zi8 qfd 1=[116,101,120,116,32,99,97,32,98,10]:=by decide+kernel
theorem kbR6:zaf qfd [116,101,120,116,32,49]=([116,101,120,116,32,99,97,32,98,10],qfd):=by rw[kbQ6,kbV6]
def qbe:Twn:=(tDo qfd ⟨3,0,0,1,⟨#[]⟩⟩).2
theorem kbC7:(tDo qfd ⟨3,0,0,1,⟨#[]⟩⟩).1=0:=by decide+kernel
theorem kbR7:zaf qfd [116,97,107,101,32,48,32,48,32,49]=(okW,qbe):=by
 rw[zgr (k:=[116,97,107,101]) (r:=[[48],[48],[49]]) (zs:=[0,0,1]) (by rfl) (by rfl) (by
  show zbw [bl [48],bl [48],bl [49]]=some [0,0,1]
  simp[zbw,kbn0,kbn1])]
 exact zmd kbC7
theorem kbQ8:zaf qbe [111,112,101,110,32,48]=(zho qbe 0,qbe):=by
 rw[zgr (k:=[111,112,101,110]) (r:=[[48]]) (zs:=[0]) (by rfl) (by rfl) (by
  show zbw [bl [48]]=some [0]
  simp[zbw,kbn0])]
 rfl
theorem kbw1:zhr ⟨1,0,1,0,0,0,⟨#[97,32,98]⟩⟩=[112,117,116,32,48,32,49,32,48,32,48,32,97,32,98,10]:=by
 have hc:za9 ⟨1,0,1,0,0,0,⟨#[97,32,98]⟩⟩=0:=by decide+kernel
 rw[zhr,zcy,if_pos hc,zic (by rfl)]
 simp only[putL,kb0,kb1]
 rfl
theorem kbw2:zhr ⟨1,1,1,0,0,0,⟨#[99]⟩⟩=[112,117,116,32,49,32,49,32,48,32,48,32,99,10]:=by
 have hc:za9 ⟨1,1,1,0,0,0,⟨#[99]⟩⟩=0:=by decide+kernel
 rw[zhr,zcy,if_pos hc,zic (by rfl)]
 simp only[putL,kb0,kb1]
 rfl
theorem kbw3':zhr ⟨2,0,2,2,0,1,⟨#[]⟩⟩=[116,97,107,101,32,48,32,50,32,50,32,48,32,49,10]:=by
 have hc:za9 ⟨2,0,2,2,0,1,⟨#[]⟩⟩=0:=by decide+kernel
 rw[zhr,zcy,if_pos hc,zk9 (by decide)]
 simp only[zyv,kb0,kb1,kb2]
 rfl
theorem kbw3:zb3 [⟨2,0,2,2,0,1,⟨#[]⟩⟩]++zpe=[116,97,107,101,32,48,32,50,32,50,32,48,32,49,10,101,110,100,10]:=by
 show(zhr _++[])++zpe=_
 rw[kbw3']
 rfl
theorem kbV8:zho qbe 0=[116,97,107,101,32,48,32,50,32,50,32,48,32,49,10,101,110,100,10]:=by
 have h:qbe.ws 0=some ((qbe.ws 0).getD ⟨0,0,0,[],[],0⟩):=by kernel_rfl
 have ho:((qbe.ws 0).getD ⟨0,0,0,[],[],0⟩).opens=[⟨2,0,2,2,0,1,⟨#[]⟩⟩]:=by kernel_rfl
 unfold zho
 rw[h]
 show zb3 _++zpe=_
 rw[ho]
 exact kbw3
theorem kbR8:zaf qbe [111,112,101,110,32,48]=([116,97,107,101,32,48,32,50,32,50,32,48,32,49,10,101,110,100,10],qbe):=by rw[kbQ8,kbV8]
def zkq:Twn:=(tDo qbe ⟨4,0,0,0,⟨#[]⟩⟩).2
theorem kbC9:(tDo qbe ⟨4,0,0,0,⟨#[]⟩⟩).1=0:=by decide+kernel
theorem kbR9:zaf qbe [115,101,110,100,32,48]=(okW,zkq):=by
 rw[zgr (k:=[115,101,110,100]) (r:=[[48]]) (zs:=[0]) (by rfl) (by rfl) (by
  show zbw [bl [48]]=some [0]
  simp[zbw,kbn0])]
 exact zmd kbC9
theorem kbQ10:zaf zkq [108,111,103]=(zb3 zkq.b.ds++zpe,zkq):=by
 rw[zgr (k:=[108,111,103]) (r:=[]) (zs:=[]) (by rfl) (by rfl) (by rfl)]
 rfl
theorem kbV10:zb3 zkq.b.ds++zpe=[112,117,116,32,48,32,49,32,48,32,48,32,97,32,98,10,112,117,116,32,49,32,49,32,48,32,48,32,99,10,116,97,107,101,32,48,32,50,32,50,32,48,32,49,10,101,110,100,10]:=by
 have ho:zkq.b.ds=[⟨1,0,1,0,0,0,⟨#[97,32,98]⟩⟩,⟨1,1,1,0,0,0,⟨#[99]⟩⟩,⟨2,0,2,2,0,1,⟨#[]⟩⟩]:=by kernel_rfl
 rw[ho]
 show zhr _++(zhr _++(zhr _++[]))++zpe=_
 rw[kbw1,kbw2,kbw3']
 rfl
theorem kbR10:zaf zkq [108,111,103]=([112,117,116,32,48,32,49,32,48,32,48,32,97,32,98,10,112,117,116,32,49,32,49,32,48,32,48,32,99,10,116,97,107,101,32,48,32,50,32,50,32,48,32,49,10,101,110,100,10],zkq):=by rw[kbQ10,kbV10]
theorem kbQ11:zaf zkq [116,104,101,110,32,51]=(zh9 zkq 3,zkq):=by
 rw[zgr (k:=[116,104,101,110]) (r:=[[51]]) (zs:=[3]) (by rfl) (by rfl) (by
  show zbw [bl [51]]=some [3]
  simp[zbw,kbn3])]
 rfl
theorem kbV11:zh9 zkq 3=[116,101,120,116,32,97,32,98,10,98,121,32,48,32,48,32,48,10]:=by
 have h1:inS zkq.b 3=true:=by decide+kernel
 have h2:(thS zkq.b 3).map (·.c)=[97,32,98]:=by decide+kernel
 have h3:(thS zkq.b 3).map (·.by_)=[0,0,0]:=by decide+kernel
 unfold zh9
 rw[if_pos h1,h2,h3,byW,zdz,zdz,zdz,zdz,kb0]
 rfl
theorem kbR11:zaf zkq [116,104,101,110,32,51]=([116,101,120,116,32,97,32,98,10,98,121,32,48,32,48,32,48,10],zkq):=by rw[kbQ11,kbV11]
theorem kbQ12:zaf zkq [108,101,97,115,116]=(ze0 (zap zkq.b) zkq.b.len,zkq):=by
 rw[zgr (k:=[108,101,97,115,116]) (r:=[]) (zs:=[]) (by rfl) (by rfl) (by rfl)]
 rfl
theorem kbV12:ze0 (zap zkq.b) zkq.b.len=[108,101,97,115,116,32,50,32,51,10]:=by
 have h1:zap zkq.b=2:=by decide+kernel
 have h2:zkq.b.len=3:=by decide+kernel
 rw[h1,h2,ze0,kb2,kb3]
 rfl
theorem kbR12:zaf zkq [108,101,97,115,116]=([108,101,97,115,116,32,50,32,51,10],zkq):=by rw[kbQ12,kbV12]
theorem kbQ13:zaf zkq [120]=(zg6,zkq):=by
 rw[zgr (k:=[120]) (r:=[]) (zs:=[]) (by rfl) (by rfl) (by rfl)]
 rfl
theorem kbV13:zg6=[119,104,97,116,10]:=rfl
theorem kbR13:zaf zkq [120]=([119,104,97,116,10],zkq):=by rw[kbQ13,kbV13]
theorem zf8{u:Twn}{o:List UInt8}(h:zaf t s=(o,u)):doK t (s::r)=(o++(doK u r).1,(doK u r).2):=by
 show((zaf t s).1++(doK (zaf t s).2 r).1,(doK (zaf t s).2 r).2)=_
 rw[h]
def kbO:List UInt8:=[111,107,10,111,107,10,111,107,10,111,107,10,111,107,10,116,101,120,116,32,99,97,32,98,10,111,107,10,116,97,107,101,32,48,32,50,32,50,32,48,32,49,10,101,110,100,10,111,107,10,112,117,116,32,48,32,49,32,48,32,48,32,97,32,98,10,112,117,116,32,49,32,49,32,48,32,48,32,99,10,116,97,107,101,32,48,32,50,32,50,32,48,32,49,10,101,110,100,10,116,101,120,116,32,97,32,98,10,98,121,32,48,32,48,32,48,10,108,101,97,115,116,32,50,32,51,10,119,104,97,116,10]
theorem kb_told:(doK zpz kbL).1=kbO:=by
 unfold kbL
 rw[zf8 kbR1,zf8 kbR2,zf8 kbR3,zf8 kbR4,zf8 kbR5,zf8 kbR6,zf8 kbR7,zf8 kbR8,zf8 kbR9,zf8 kbR10,zf8 kbR11,zf8 kbR12,zf8 kbR13]
 rfl
theorem kb_fault:zcs kbL=(0,0):=by decide+kernel
def qcb(t:Twn)(L:List (List UInt8)):List UInt8×Twn:=if(zcs L).1=0 then doK t L else([],t)
theorem zrc(L:List (List UInt8)):(zcs L).1=0->zcs L=(0,0):=by
 intro h
 unfold zcs at h⊢
 by_cases hb:150<L.length
 ·rw[if_pos hb]at h;cases h
 rw[if_neg hb]at h⊢
 have:∀(l:List (List UInt8)) (i:Nat),(zbr i l).1=0->zbr i l=(0,0):=by
  intro l
  induction l with
  |nil=>intro i _;rfl
  |cons s r ih=>
   intro i h
   rw[zbr]at h⊢
   by_cases hs:zhb s=true
   ·rw[if_pos hs]at h;cases h
   rw[if_neg hs]at h⊢;exact ih _ h
 exact this L 0 h
def Th.ft(base B:Nat)(c i:Int):Th base:=Th.blk base B (fun w=>zo1 w B c i/\B<w.heap.size) (fun w w' hz hb h=>by
 have hc:∀o,w'.cell? ⟨B,o,none⟩=w.cell? ⟨B,o,none⟩:=fun o=>World.cell?_of_block (a:=⟨B,o,none⟩) hb
 have hf:∀o,w'.frozen? ⟨B,o,none⟩=w.frozen? ⟨B,o,none⟩:=fun o=>World.frozen?_of_block (a:=⟨B,o,none⟩) hb
 exact⟨⟨by rw[hc];exact h.1.c0,by rw[hc];exact h.1.c1,by rw[hf];exact h.1.f0,by rw[hf];exact h.1.f1⟩,Nat.lt_of_lt_of_le h.2 hz⟩)
section
variable {W wk w':World} {cs:Nat->Th W.heap.size}
def Jn(W:World)(cs:Nat->Th W.heap.size)(wk:World):Prop:=Hq W.heap.size cs W (fun _=>False) wk
theorem Jn.below(h:Jn W cs wk):Below W.heap.size W wk:=(Hq.kept h).below (fun _ e=>e.elim) (Nat.le_refl _)
theorem Jn.after(h:Jn W cs wk)(hb:Below wk.heap.size wk w'):Jn W cs w':=Hq.after h hb
theorem jn_start(W:World):Jn W (fun _=>Th.no _) W:=Hq.start W
theorem Jn.new(h:Jn W cs wk)(i:Nat)(hi:i≠0):
 Calls Tryz.prog 7 #[] wk fun e w'=>∃R,e= .returned (.pointer (some ⟨R,0,none⟩))/\∃D G pw,Jn W (zat cs i (Th.kd W.heap.size R D G pw zpz)) w':=by
 refine(new_kd wk).mono ?_
 rintro e w1 ⟨rfl,rfl⟩
 have hb:Below wk.heap.size wk (kdW wk):=bla (bla (za2 _ _) (za2 _ _)) (za2 _ _)
 exact⟨_,rfl,_,_,_,Hq.lay h hb hi _ (zzq wk h.below.size)⟩
theorem Jn.fault(h:Jn W cs wk)(i:Nat)(hi:i≠0)(c a:Int):Jn W (zat cs i (Th.ft W.heap.size wk.heap.size c a)) (wk.alloc (.cells #[.int .i64 c,.int .i64 a] 31)):=
 Hq.lay h (za2 _ _) hi _ ⟨⟨Nat.le_refl _,by simp⟩,zf3 wk c a,by simp⟩
theorem Jn.done{R D G:Nat}{pw:Nat->Nat}{t:Twn}{i:Nat}(h:Jn W cs wk)(hi:i≠0)(hc:cs i=Th.kd W.heap.size R D G pw t)(hR:zck W){v:Value}{ls:List ByteArray}(hl:zbs W v ls)(hz:∀s∈ls,s.size<=10000):
 Calls Tryz.prog 9 #[.pointer (some ⟨R,0,none⟩),v] wk fun e w'=>e= .returned (.tuple #[.string (bl (qcb t (ls.map (·.data.toList))).1),ftV (zcs (ls.map (·.data.toList))).1 (zcs (ls.map (·.data.toList))).2])/\(qcb t (ls.map (·.data.toList))).1.length<=30000*ls.length/\∃pw',Jn W (zat cs i (Th.kd W.heap.size R D G pw' (qcb t (ls.map (·.data.toList))).2)) w':=by
 by_cases hf:(zcs (ls.map (·.data.toList))).1=0
 ·have hf2:=zrc _ hf
  unfold qcb
  rw[if_pos hf,hf2]
  obtain⟨T,h1,h2,h3⟩:=Hq.turn h hi
  rw[hc]at h1
  have hb:=h.below
  have hrdy:Rdy W.heap.size wk:=⟨W,rfl,hR,hb⟩
  refine(do_kd h1 hrdy (fun wk' hk=>hl.below ?_) hz hf2).mono ?_
  ·exact hb.trans (hk.below (fun k e=>(h2 k e).1) hb.size)
  rintro e w1 ⟨e1,e2,pw',e3⟩
  exact⟨e1,e2,pw',h3 _ _ e3.2 e3.1⟩
 unfold qcb
 rw[if_neg hf]
 refine(do_kd_no (hl.below h.below) (c:=(zcs (ls.map (·.data.toList))).1) (i:=(zcs (ls.map (·.data.toList))).2) rfl hf).mono ?_
 rintro e w1 ⟨e1,e2⟩
 refine⟨e1,Nat.zero_le _,pw,Hq.imp (Hq.after h e2) (fun j _ T _ hp=> ?_)⟩
 by_cases e:j=i
 ·subst e;rw[zaz,<-hc];exact hp
 rw[za4 _ _ e];exact hp
end
def SlowIs(ls:List ByteArray)(w:World)(e:Ending)(w':World):Prop:=∃g,e= .returned (.bool g)/\(g=false->∀s∈ls,s.size<=10000)/\w'=w
def qao:List ByteArray->Nat
 |[]=>0
 |s::r=>s.size+qao r
theorem zyw:∀a b:List ByteArray,qao (a++b)=qao a+qao b
 |[],b=>by simp[qao]
 |s::a,b=>by rw[List.cons_append,qao,zyw a b,qao];omega
theorem qdp:∀(l:List ByteArray) (s:ByteArray),s∈l->s.size<=qao l
 |x::r,s,h=>by
  rcases List.mem_cons.1 h with rfl|h
  ·rw[qao];omega
  have:=qdp r s h;rw[qao];omega
theorem zyy{w:World}{v:Value}{ls:List ByteArray}(h:zbs w v ls)(hn:ls.length<=1000)(hz:∀s∈ls,s.size<=140737488355328):
 Calls Tryz.prog 6 #[v] w fun e w'=>SlowIs ls w e w':=by
 have HV:=hid h
 have HZ:=hid hz
 obtain⟨a,cap,rfl,_⟩:=h.len
 clear h hz
 go_enter Tryz.func6,Tryz.ntmps6
 go_wp2_with fail
 go_loop [3,4] (fun n i=>∃k m:Nat,k<=ls.length/\m<=9000/\n= .int .i64 m/\i= .int .i64 k/\Hid (m=qao (ls.take k))) (fun _ i=>ls.length-(intOf i).toNat)
 case atStart=>exact⟨0,0,Nat.zero_le _,Nat.zero_le _,rfl,rfl,rfl⟩
 obtain⟨k,m,hk,hm,rfl,rfl,HM⟩:=hrel
 by_cases hlt:k<ls.length
 ·have hki:(k:Int)<(ls.length:Int):=by omega
  obtain⟨bb,off,rfl,hst⟩:=HV.out.row (by omega)
  have c0:=hst.cell k hlt
  have hbl:=hst.lt
  have hsz:ls[k].size<=140737488355328:=HZ.out _ (List.getElem_mem hlt)
  have HX:Hid (m+ls[k].size=qao (ls.take (k+1))):=by
   show _=_
   rw[List.take_succ_eq_append_getElem hlt,zyw,<-HM.out]
   simp[qao]
  generalize ls[k]=s at*
  clear hst
  by_cases hg:9000<m+s.size
  ·have hgi:(9000:Int)<(m:Int)+(s.size:Int):=by omega
   go_wp2
   go_ret
   exact⟨true,rfl,fun e=>(by cases e),rfl⟩
  have hgi:¬(9000:Int)<(m:Int)+(s.size:Int):=by omega
  go_wp2
  go_round
  case rel=>exact⟨k+1,m+s.size,by omega,by omega,by go_num,by go_num,HX.out⟩
  case measure=>simp[intOf];omega
 obtain rfl:k=ls.length:=by omega
 go_wp2
 go_ret
 refine⟨false,rfl,fun _ s hs=> ?_,rfl⟩
 have h1:=HM.out
 rw[List.take_length]at h1
 have:=qdp ls s hs
 omega
theorem strs_new(w:World)(ws:List ByteArray){n:Nat}(hn:ws.length=n):zbs (w.alloc (.cells (ws.map Value.string).toArray 9)) (.slice (some ⟨w.heap.size,0,none⟩) n n) ws:=by
 refine⟨_,n,n,rfl,hn,Nat.le_refl _,.inr ⟨_,0,rfl,by simp,fun i hi=> ?_⟩⟩
 rw[Lib.cell_of_heap (heap_alloc_new w (.cells (ws.map Value.string).toArray 9))]
 simp[hi]
def zx9:List ByteArray:=kbL.map bl
theorem zzr:zx9.map (·.data.toList)=kbL:=by rfl
theorem qbd(w:World)(hw:zck w):Calls Tryz.prog 5 #[] w fun e w'=>e= .returned (.bool true)/\Below w.heap.size w w':=by
 have HW:=hid hw
 have HN:=hid (new_kd w)
 have HB:Hid (Below w.heap.size w (kdW w)):=bla (bla (za2 _ _) (za2 _ _)) (za2 _ _)
 have HK:Hid (qa6 w.heap.size (w.heap.size+2) (w.heap.size+1) w.heap.size (fun _=>0) [] zpz (kdW w) (fun k=>w.heap.size<=k/\k<(kdW w).heap.size)):=zzq w (Nat.le_refl _)
 clear hw
 go_enter Tryz.func5,Tryz.ntmps5
 go_wp2_with fail
 refine HN.out.mono ?_
 rintro e w1 ⟨rfl,rfl⟩
 have HS:Hid (zbs ((kdW w).alloc (.cells (zx9.map Value.string).toArray 9)) (.slice (some ⟨(kdW w).heap.size,0,none⟩) 13 13) zx9):=strs_new _ _ rfl
 generalize kdW w=w1 at*
 clear HN
 have hb1:=HB.out
 have HK2:Hid (qa6 w.heap.size (w.heap.size+2) (w.heap.size+1) w.heap.size (fun _=>0) [] zpz (w1.alloc (.cells (zx9.map Value.string).toArray 9)) (fun k=>w.heap.size<=k/\k<w1.heap.size)):=HK.out.below (za2 _ _)
 have HB2:Hid (Below w.heap.size w (w1.alloc (.cells (zx9.map Value.string).toArray 9))):=bla HB.out (za2 _ _)
 clear HK hb1
 have HD:Hid (Calls Tryz.prog 9 #[.pointer (some ⟨w.heap.size+2,0,none⟩),.slice (some ⟨w1.heap.size,0,none⟩) 13 13] (w1.alloc (.cells (zx9.map Value.string).toArray 9)) fun e w'=>e= .returned (.tuple #[.string (bl kbO),ftV 0 0])/\Below w.heap.size w w'):=by
  have:=do_kd HK2.out ⟨w,rfl,HW.out,HB2.out⟩ (v:= .slice (some ⟨w1.heap.size,0,none⟩) 13 13) (ls:=zx9) (fun wk hk=> ?_) (by decide+kernel) (by rw[zzr];exact kb_fault)
  ·rw[zzr,kb_told]at this
   exact this.mono fun e w' ⟨e1,_,_,_,e2⟩=>⟨e1,HB2.out.trans (e2.below (fun k e=>e.1) HB2.out.size)⟩
  obtain⟨a,len,cap,hv,h1,h2,h3⟩:=HS.out
  refine⟨a,len,cap,hv,h1,h2,?_⟩
  rcases h3 with h3|⟨b,off,rfl,hr⟩
  ·exact .inl h3
  refine .inr ⟨b,off,rfl,Nat.lt_of_lt_of_le hr.lt hk.size,fun i hi=> ?_⟩
  simp only[Value.slice.injEq,Option.some.injEq,Addr.mk.injEq]at hv
  obtain⟨⟨rfl,_⟩,_⟩:=hv
  rw[World.cell?_of_block (a:=⟨w1.heap.size,off+i,none⟩) (hk.block _ hr.lt (fun e=>by have e2:w1.heap.size<w1.heap.size:=e.2;omega))]
  exact hr.cell i hi
 clear HK2 HS HB2
 go_wp2_with fail
 refine HD.out.mono ?_
 rintro e w2 ⟨rfl,hb⟩
 have HB3:Hid (Below w.heap.size w (w2.alloc (.cells #[.int .i64 0,.int .i64 0] 31))):=bla hb (za2 _ _)
 obtain⟨so,hso⟩:∃so,bl kbO=so:=⟨_,rfl⟩
 have HBQ:Hid ((so.toList==kbO)=true):=by show _=_;rw[zbi,<-hso];exact decide_eq_true rfl
 rw[hso]
 clear hb HD hso
 go_wp2
 go_ret
 refine⟨?_,HB3.out⟩
 show Ending.returned (.bool (so.toList==kbO))=_
 rw[HBQ.out]
structure RdAt(base R E F:Nat)(qw:Nat->Nat)(told:ByteArray)(u:Twn)(w:World)(S:Nat->Prop):Prop where
 lo:∀k,S k->base<=k/\k<w.heap.size
 tr:∃tk,TR u tk
 own:∃ow,HpAt base (zvx base R E F qw told u (Th.no base)) ow w/\∀k,ow k≠0->S k
def Th.rd(base R E F:Nat)(u:Twn):Th base:=
 ⟨fun w S=>∃qw told,RdAt base R E F qw told u w S,fun {w w' S T} _ h hk hd=>by
  obtain⟨qw,told,h⟩:=h
  obtain⟨ow,h1,h2⟩:=h.own
  have hs:=hk.size
  refine⟨qw,told,fun k e=>⟨(h.lo k e).1,Nat.lt_of_lt_of_le (h.lo k e).2 hs⟩,h.tr,ow,⟨fun k e=>⟨(h1.lo k e).1,Nat.lt_of_lt_of_le (h1.lo k e).2 hs⟩,Nat.le_trans h1.bs hs,fun i hi=> ?_⟩,h2⟩
  exact(zvx base R E F qw told u (Th.no base) i).kept (fun k e=>h1.lo k (by rw[e];exact hi)) (h1.at_ i hi) hk (fun k e=>hd k (h2 k (by rw[e];exact hi))),fun {w S T} h hT hl=>by
  obtain⟨qw,told,h⟩:=h
  obtain⟨ow,h1,h2⟩:=h.own
  exact⟨qw,told,hl,h.tr,ow,h1,fun k e=>hT k (h2 k e)⟩⟩
section
variable {base R E F:Nat} {qw:Nat->Nat} {w w0 wk w':World} {S:Nat->Prop} {told:ByteArray} {u:Twn}
theorem RdAt.held(h:RdAt base R E F qw told u w S):base<=w.heap.size/\∀k,S k->base<=k/\k<w.heap.size:=by
 obtain⟨ow,h1,h2⟩:=h.own
 exact⟨h1.bs,h.lo⟩
theorem RdAt.start(h:RdAt base R E F qw told u w S)(hr:Rdy base w):zcg base w S R E F qw told u (Th.no base) w:=by
 obtain⟨ow,h1,h2⟩:=h.own
 exact⟨⟨ow,h1,fun k e=> .inl (h2 k e),zam.refl _ _⟩,h.tr,hr⟩
theorem zcg.done(h:zcg base w S R E F qw told u (Th.no base) w')(hl:base<=w.heap.size/\∀k,S k->base<=k/\k<w.heap.size):RdAt base R E F qw told u w' (grow S w w')/\zam S w w':=by
 have hk:=Hq.kept h.hq
 have hs:=hk.size
 obtain⟨⟨ow,h1⟩,h2,_⟩:=h
 refine⟨⟨fun k e=> ?_,h2,ow,h1.at_,h1.old⟩,hk⟩
 rcases e with e|e
 ·have:=hl.2 k e;omega
 omega
abbrev rdW(w:World):World:=((w.alloc (.cells zqe 65)).alloc (.cells (zkx w.heap.size) 69)).alloc (.cells #[.string ⟨#[]⟩,.pointer (some ⟨w.heap.size+1,0,none⟩)] 50)
theorem new_rd(w:World):Calls Tryz.prog 8 #[] w fun e w'=>e= .returned (.pointer (some ⟨w.heap.size+2,0,none⟩))/\w'=rdW w:=by
 go_enter Tryz.func8,Tryz.ntmps8
 go_wp2_with fail
 refine(new_tn w).mono ?_
 rintro e w1 ⟨rfl,rfl⟩
 go_wp2
 go_ret
 exact⟨by simp,rfl⟩
theorem rd_start(w:World)(hb:base<=w.heap.size):RdAt base (w.heap.size+2) (w.heap.size+1) w.heap.size (fun _=>0) ⟨#[]⟩ zpz (rdW w) (fun k=>w.heap.size<=k/\k<(rdW w).heap.size):=by
 have h0:Hq base (fun _=>Th.no base) w (fun _=>False) w:=⟨fun _=>0,⟨fun _ e=>absurd rfl e,hb,fun _ _=>trivial⟩,fun _ e=>absurd rfl e,zam.refl _ _⟩
 have hb2:Below w.heap.size w ((w.alloc (.cells zqe 65)).alloc (.cells (zkx w.heap.size) 69)):=bla (za2 _ _) (za2 _ _)
 have hz2:((w.alloc (.cells zqe 65)).alloc (.cells (zkx w.heap.size) 69)).heap.size=w.heap.size+2:=by simp
 have ht:=tnAt_any w hb
 generalize hw2:(w.alloc (.cells zqe 65)).alloc (.cells (zkx w.heap.size) 69)=w2 at*
 have h1:=Hq.lay h0 hb2 (i:=1) (by omega) (Th.tn base (w.heap.size+1) w.heap.size (fun _=>0) zpz) ((Th.tn base (w.heap.size+1) w.heap.size (fun _=>0) zpz).mono ht (fun k e=>by omega) (fun k e=>by omega))
 have h2:=Hq.lay h1 (za2 w2 (.cells #[.string ⟨#[]⟩,.pointer (some ⟨w.heap.size+1,0,none⟩)] 50)) (i:=2) (by omega) (Th.rk base (w.heap.size+2) ⟨#[]⟩ (w.heap.size+1)) (by
  rw[<-hz2]
  refine⟨⟨Nat.le_refl _,by simp⟩,by simp,by simp[go_sem],by simp[go_sem],fun o ho=> ?_⟩
  rcases(show o=0\/o=1 by omega)with rfl|rfl<;>simp[go_sem])
 obtain⟨ow,h5⟩:=h2
 have e3:rdW w=w2.alloc (.cells #[.string ⟨#[]⟩,.pointer (some ⟨w.heap.size+1,0,none⟩)] 50):=by rw[<-hw2]
 rw[e3]
 refine⟨fun k e=>⟨by omega,e.2⟩,⟨_,zyj⟩,ow,⟨h5.at_.lo,h5.at_.bs,fun i hi=> ?_⟩,fun k e=> ?_⟩
 ·have:=h5.at_.at_ i hi
  unfold zvx
  by_cases e:i=3
  ·subst e;trivial
  rw[za4 _ _ e];exact this
 rcases h5.old k e with x|x
 ·exact x.elim
 exact x
theorem do_rd(h:RdAt base R E F qw told u w S)(hr:Rdy base w){v:Value}{ls:List ByteArray}(hv:∀wk,zam S w wk->zbs wk v ls)(hz:∀s∈ls,s.size<=10000)(hn:ls.length<=150):
 Calls Tryz.prog 11 #[.pointer (some ⟨R,0,none⟩),v] w fun e w'=>e= .returned (.string (bl (doK u (ls.map (·.data.toList))).1))/\(∃qw' told',RdAt base R E F qw' told' (doK u (ls.map (·.data.toList))).2 w' (grow S w w'))/\zam S w w':=by
 have HV:=hid hv
 have HZ:=hid hz
 have HH:=hid h.held
 have hs:=h.start hr
 have HI:Hid (zcg base w S R E F qw ⟨#[]⟩ u (Th.no base) (w.setCell ⟨R,0,none⟩ (.string ⟨#[]⟩))):=hs.set _
 have g0:=hs.cells.told
 have hlt:=hs.cells.lt
 have f0:=hs.cells.free 0 (by omega)
 obtain⟨a,cap,rfl,_⟩:=(hv w (zam.refl _ _)).len
 clear h hr hv hz hs
 go_enter Tryz.func11,Tryz.ntmps11
 go_wp2_with fail
 clear g0 hlt f0
 generalize World.setCell _ _ _=w1 at*
 go_loopw [5] (fun i wr=>∃k:Nat,k<=ls.length/\i= .int .i64 k/\Hid (∃qw',zcg base w S R E F qw' (bl (doK u ((ls.map (·.data.toList)).take k)).1) (doK u ((ls.map (·.data.toList)).take k)).2 (Th.no base) wr)/\Hid ((doK u ((ls.map (·.data.toList)).take k)).1.length<=30000*k)) (fun i _=>ls.length-(intOf i).toNat)
 case atStart=>exact⟨0,Nat.zero_le _,rfl,⟨qw,HI.out⟩,Nat.le_refl _⟩
 obtain⟨k,hk,rfl,HW,HLN⟩:=hrel
 clear HI
 obtain⟨qw3,h3⟩:=HW.out
 have HKW:=hid (Hq.kept h3.hq)
 by_cases hlt:k<ls.length
 ·have hki:(k:Int)<(ls.length:Int):=by omega
  obtain⟨bb,off,rfl,hst⟩:=(HV.out wr HKW.out).row (by omega)
  have c0:=hst.cell k hlt
  have hbl:=hst.lt
  have HX:Hid ((ls.map (·.data.toList)).take (k+1)=(ls.map (·.data.toList)).take k++[ls[k].data.toList]):=by
   show _=_
   rw[List.take_succ_eq_append_getElem (by rw[List.length_map];exact hlt),List.getElem_map]
  have HSZ:Hid (ls[k].size<=10000):=HZ.out _ (List.getElem_mem hlt)
  generalize ls[k]=s at*
  have HH3:=hid h3
  clear hst h3 HW
  go_wp2_with fail
  refine(line_rk HH3.out s HSZ.out (by rw[zd8];have:=HLN.out;omega)).mono ?_
  rintro e w4 ⟨rfl,qw4,h4⟩
  have H4:Hid (∃qw',zcg base w S R E F qw' (bl (doK u ((ls.map (·.data.toList)).take (k+1))).1) (doK u ((ls.map (·.data.toList)).take (k+1))).2 (Th.no base) w4):=by
   rw[zf1]at h4
   rw[HX.out,znw]
   exact⟨qw4,h4⟩
  have HL4:Hid ((doK u ((ls.map (·.data.toList)).take (k+1))).1.length<=30000*(k+1)):=by
   show _<=_
   rw[HX.out,znw]
   obtain⟨tk,htr⟩:=HH3.out.tr
   have:=zzl htr s.data.toList
   have:=HLN.out
   show((doK u _).1++_).length<=_
   rw[List.length_append]
   omega
  clear h4 HH3 c0 hbl
  go_wp2_with fail
  go_roundw
  case rel=>exact⟨k+1,by omega,by go_num,H4.out,HL4.out⟩
  case measure=>simp[intOf];omega
 obtain rfl:k=ls.length:=by omega
 have HE:Hid ((ls.map (·.data.toList)).take ls.length=ls.map (·.data.toList)):=by show _=_;rw[<-List.length_map (f:=fun s:ByteArray=>s.data.toList)];exact List.take_length
 rw[HE.out]at h3
 have HD:Hid ((∃qw' told',RdAt base R E F qw' told' (doK u (ls.map (·.data.toList))).2 wr (grow S w wr))/\zam S w wr):=⟨⟨_,_,(h3.done HH.out).1⟩,(h3.done HH.out).2⟩
 have g0:=h3.cells.told
 have hlt3:=h3.cells.lt
 clear h3 HW HLN
 go_wp2_with fail
 go_ret
 exact⟨rfl,HD.out⟩
end
section
variable {W wk w':World} {cs:Nat->Th W.heap.size}
theorem Jn.newR(h:Jn W cs wk)(i:Nat)(hi:i≠0):
 Calls Tryz.prog 8 #[] wk fun e w'=>∃R E F,e= .returned (.pointer (some ⟨R,0,none⟩))/\Jn W (zat cs i (Th.rd W.heap.size R E F zpz)) w':=by
 refine(new_rd wk).mono ?_
 rintro e w1 ⟨rfl,rfl⟩
 have hb:Below wk.heap.size wk (rdW wk):=bla (bla (za2 _ _) (za2 _ _)) (za2 _ _)
 exact⟨_,_,_,rfl,Hq.lay h hb hi _ ⟨_,_,rd_start wk h.below.size⟩⟩
theorem Jn.doneR{R E F:Nat}{t:Twn}{i:Nat}(h:Jn W cs wk)(hi:i≠0)(hc:cs i=Th.rd W.heap.size R E F t)(hR:zck W){v:Value}{ls:List ByteArray}(hl:zbs W v ls)(hz:∀s∈ls,s.size<=10000)(hn:ls.length<=150):
 Calls Tryz.prog 11 #[.pointer (some ⟨R,0,none⟩),v] wk fun e w'=>e= .returned (.string (bl (doK t (ls.map (·.data.toList))).1))/\Jn W (zat cs i (Th.rd W.heap.size R E F (doK t (ls.map (·.data.toList))).2)) w':=by
 obtain⟨T,h1,h2,h3⟩:=Hq.turn h hi
 rw[hc]at h1
 obtain⟨qw,told,h1⟩:=h1
 have hb:=h.below
 refine(do_rd h1 ⟨W,rfl,hR,hb⟩ (fun wk' hk=>hl.below (hb.trans (hk.below (fun k e=>(h2 k e).1) hb.size))) hz hn).mono ?_
 rintro e w1 ⟨e1,e2,e3⟩
 exact⟨e1,h3 _ _ e3 e2⟩
end
end Go.Proofs.YtcbnnfeelhlapadGreatDoor