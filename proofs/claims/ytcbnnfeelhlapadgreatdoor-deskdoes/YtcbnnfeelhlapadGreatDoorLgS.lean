/-
  LgS.
-/
import Derived.Test.YtcbnnfeelhlapadGreatDoorBkD
namespace Go.Proofs.YtcbnnfeelhlapadGreatDoor
set_option maxHeartbeats 1600000
set_option maxRecDepth 20000
open Go.RowKit
variable {w w':World} {base G B:Nat} {S:Nat->Prop} {dv lv:Value} {b:Bk} {n seen:Int} {d:Dd}
theorem zir(h:zc2 w base S G dv lv b):
 Calls Tryz.prog 85 #[.pointer (some ⟨G,0,none⟩)] w fun e w'=>e= .returned (.int .i64 b.ds.length)/\w'=w:=by
 obtain⟨a,cap,rfl⟩:=h.ownD.len
 have c0:=h.cells.deeds
 have hlt:=h.cells.lt
 clear h
 go_enter Tryz.func85,Tryz.ntmps85
 go_wp2
 go_ret
 exact⟨rfl,rfl⟩
theorem zfv(h:zpu w G dv lv b)(n:Int):
 Calls Tryz.prog 155 #[.pointer (some ⟨G,0,none⟩),.int .i64 n] w fun e w'=>e= .returned (.bool (b.isHere n))/\w'=w:=by
 cases hw:wrB n
 ·have HE:Hid (b.isHere n=false):=zux hw
  clear h
  go_enter Tryz.func155,Tryz.ntmps155
  go_wp2_with (go_at_call 116;refine(zbj _ _).mono ?_;rintro e w' ⟨rfl,rfl⟩;rw[hw])
  go_ret
  exact⟨zbf HE.out.symm,rfl⟩
 have HE:Hid (b.isHere n=b.here n):=zjx hw
 obtain⟨j,rfl,hj⟩:=zc1 hw
 have c1:=h.here j hj
 have hlt:=h.lt
 clear h
 go_enter Tryz.func155,Tryz.ntmps155
 go_wp2_with (go_at_call 116;refine(zbj _ _).mono ?_;rintro e w' ⟨rfl,rfl⟩;rw[hw])
 go_ret
 exact⟨zbf HE.out.symm,rfl⟩
theorem zp0(h:Bool)(last said:Int)(w:World)(h0:0<=last)(h1:last<=1000):
 Calls Tryz.prog 156 #[.agg #[.bool h,.int .i64 last,.int .i64 said]] w fun e w'=>e= .returned (.int .i64 (last+1))/\Below w.heap.size w w':=by
 go_enter Tryz.func156,Tryz.ntmps156
 go_wp2
 go_ret
 exact⟨rfl,(Below.refl _ _).alloc (Nat.le_refl _) _⟩
def zr0(b:Bk)(n seen:Int):Bool:=decide (b.said n<=seen)&&decide (seen<=b.len)
theorem zjb(h:zc2 w base S G dv lv b)(j:Nat)(hj:j<4)(seen:Int):
 Calls Tryz.prog 195 #[.pointer (some ⟨G,0,none⟩),.int .i64 j,.int .i64 seen] w fun e w'=>e= .returned (.bool (zr0 b j seen))/\w'=w:=by
 have HA:=hid h
 have c3:=h.cells.said j hj
 have hlt:=h.cells.lt
 clear h
 by_cases hs:b.said j<=seen
 ·have HE:Hid (zr0 b j seen=decide (seen<=(b.ds.length:Int))):=by show zr0 b j seen=_;rw[zr0,decide_eq_true hs];rfl
  generalize b.said j=sd at*
  go_enter Tryz.func195,Tryz.ntmps195
  go_wp2_with (go_at_call 85;refine(zir HA.out).mono ?_;rintro e w' ⟨rfl,rfl⟩)
  go_ret
  exact⟨zbf HE.out.symm,rfl⟩
 have HE:Hid (zr0 b j seen=false):=by show zr0 b j seen=_;rw[zr0,decide_eq_false hs];rfl
 generalize b.said j=sd at*
 go_enter Tryz.func195,Tryz.ntmps195
 go_wp2
 go_ret
 exact⟨zbf HE.out.symm,rfl⟩
theorem zzz(h:zc2 w base S G dv lv b):
 Calls Tryz.prog 115 #[.pointer (some ⟨G,0,none⟩)] w fun e w'=>∃v',e= .returned v'/\Own w' w.heap.size v' b.chars/\Below w.heap.size w w':=by
 have c0:=h.cells.list
 have hlt:=h.cells.lt
 have HL:=hid h.ownL.lst
 have HS:Hid (b.chars.length<=100000):=by have:=zay (b:=b);show _<=_;omega
 clear h
 go_enter Tryz.func115,Tryz.ntmps115
 go_wp2_with (go_at_call 160;refine(zhw HL.out HS.out).mono ?_;rintro e w' ⟨v',rfl,ho,hb⟩)
 go_ret
 exact⟨_,rfl,ho,hb⟩
theorem text_lg(h:zc2 w base S G dv lv b):
 Calls Tryz.prog 80 #[.pointer (some ⟨G,0,none⟩)] w fun e w'=>e= .returned (.string (strOfNums (zdj b.chars)))/\Below w.heap.size w w':=by
 have c0:=h.cells.list
 have hlt:=h.cells.lt
 have HL:=hid h.ownL.lst
 have HS:Hid (b.chars.length<=1000):=by have:=zay (b:=b);show _<=_;omega
 clear h
 go_enter Tryz.func80,Tryz.ntmps80
 go_wp2_with (go_at_call 135;refine(text_lst HL.out HS.out).mono ?_;rintro e w' ⟨rfl,hb⟩)
 go_ret
 exact⟨rfl,hb⟩
theorem zx6(b:Bk)(k:Nat):zbh b (k+1)=if b.here k=true then min (zbh b k) (b.said k)else zbh b k:=by
 show zan b (zbh b k) k=_
 unfold zan
 cases h:b.here k
 ·simp
 simp
 omega
theorem seat_at0(w:World)(a0 a1 a2 a3 a4 a5 a6 a7 a8 a9 a10 a11:Value):(Instr.index 102 (.agg #[a0,a1,a2,a3,a4,a5,a6,a7,a8,a9,a10,a11]) (.int .i64 0)).run Tryz.prog w= .ok (.agg #[a0,a1,a2]) w:=by
 simp[Instr.index,go_sem]
theorem seat_at1(w:World)(a0 a1 a2 a3 a4 a5 a6 a7 a8 a9 a10 a11:Value):(Instr.index 102 (.agg #[a0,a1,a2,a3,a4,a5,a6,a7,a8,a9,a10,a11]) (.int .i64 1)).run Tryz.prog w= .ok (.agg #[a3,a4,a5]) w:=by
 simp[Instr.index,go_sem]
theorem seat_at2(w:World)(a0 a1 a2 a3 a4 a5 a6 a7 a8 a9 a10 a11:Value):(Instr.index 102 (.agg #[a0,a1,a2,a3,a4,a5,a6,a7,a8,a9,a10,a11]) (.int .i64 2)).run Tryz.prog w= .ok (.agg #[a6,a7,a8]) w:=by
 simp[Instr.index,go_sem]
theorem seat_at3(w:World)(a0 a1 a2 a3 a4 a5 a6 a7 a8 a9 a10 a11:Value):(Instr.index 102 (.agg #[a0,a1,a2,a3,a4,a5,a6,a7,a8,a9,a10,a11]) (.int .i64 3)).run Tryz.prog w= .ok (.agg #[a9,a10,a11]) w:=by
 simp[Instr.index,go_sem]
theorem zzn(h:zc2 w base S G dv lv b)(hg:zct b):
 Calls Tryz.prog 84 #[.pointer (some ⟨G,0,none⟩)] w fun e w'=>e= .returned (.int .i64 (zap b))/\Below w.heap.size w w':=by
 have HA:=hid h
 have HG:=hid hg
 have hlt:=h.cells.lt
 have h0:=h.cells.here 0 (by omega)
 have h1:=h.cells.here 1 (by omega)
 have h2:=h.cells.here 2 (by omega)
 have h3:=h.cells.here 3 (by omega)
 have l0:=h.cells.last 0 (by omega)
 have l1:=h.cells.last 1 (by omega)
 have l2:=h.cells.last 2 (by omega)
 have l3:=h.cells.last 3 (by omega)
 have s0:=h.cells.said 0 (by omega)
 have s1:=h.cells.said 1 (by omega)
 have s2:=h.cells.said 2 (by omega)
 have s3:=h.cells.said 3 (by omega)
 simp only[Nat.zero_mul,Nat.reduceMul,Nat.reduceAdd]at h0 h1 h2 h3 l0 l1 l2 l3 s0 s1 s2 s3
 generalize hy0:b.here ((0:Nat):Int)=y0 at h0
 generalize hx0:b.last ((0:Nat):Int)=x0 at l0
 generalize hz0:b.said ((0:Nat):Int)=z0 at s0
 have HY0:=hid hy0
 have HZ0:=hid hz0
 generalize hy1:b.here ((1:Nat):Int)=y1 at h1
 generalize hx1:b.last ((1:Nat):Int)=x1 at l1
 generalize hz1:b.said ((1:Nat):Int)=z1 at s1
 have HY1:=hid hy1
 have HZ1:=hid hz1
 generalize hy2:b.here ((2:Nat):Int)=y2 at h2
 generalize hx2:b.last ((2:Nat):Int)=x2 at l2
 generalize hz2:b.said ((2:Nat):Int)=z2 at s2
 have HY2:=hid hy2
 have HZ2:=hid hz2
 generalize hy3:b.here ((3:Nat):Int)=y3 at h3
 generalize hx3:b.last ((3:Nat):Int)=x3 at l3
 generalize hz3:b.said ((3:Nat):Int)=z3 at s3
 have HY3:=hid hy3
 have HZ3:=hid hz3
 clear hy0 hx0 hz0 hy1 hx1 hz1 hy2 hx2 hz2 hy3 hx3 hz3
 clear h hg
 go_enter Tryz.func84,Tryz.ntmps84
 go_wp2_with (go_at_call 85;refine(zir HA.out).mono ?_;rintro e w' ⟨rfl,rfl⟩)
 clear h0 h1 h2 h3 l0 l1 l2 l3 s0 s1 s2 s3
 go_loopw [3,12] (fun n i wr=>∃k:Nat,k<=4/\i= .int .i64 k/\n= .int .i64 (zbh b k)/\Hid (Below w'.heap.size w' wr)) (fun _ i _=>4-(intOf i).toNat)
 case atStart=>exact⟨0,by omega,rfl,rfl,Below.refl _ _⟩
 obtain⟨k,hk,rfl,rfl,HB⟩:=hrel
 have hb:=zmc HG.out k
 obtain⟨hb0,hb1⟩:=hb
 by_cases hlt4:k<4
 ·have HN:=hid (zx6 b k)
  have HBa:Hid (∀o,Below w'.heap.size w' (wr.alloc o)):=fun o=>HB.out.alloc HB.out.size _
  rcases(show k=0\/k=1\/k=2\/k=3 by omega)with rfl|rfl|rfl|rfl
  ·generalize zbh b 0=n at*
   have hq:=seat_at0
   rw[HY0.out,HZ0.out]at HN
   cases y0
   ·have HN2:Hid (zbh b (0+1)=n):=by show _=_;rw[HN.out];simp
    clear HN
    go_wp2
    go_roundw
    case rel=>exact⟨1,by omega,by go_num,by rw[<-HN2.out],HBa.out _⟩
    case measure=>simp[intOf]
   have HN2:Hid (zbh b (0+1)=min n z0):=by show _=_;rw[HN.out];simp
   clear HN
   go_wp2
   go_roundw
   case rel=>exact⟨1,by omega,by go_num,by rw[<-HN2.out],HBa.out _⟩
   case measure=>simp[intOf]
  ·generalize zbh b 1=n at*
   have hq:=seat_at1
   rw[HY1.out,HZ1.out]at HN
   cases y1
   ·have HN2:Hid (zbh b (1+1)=n):=by show _=_;rw[HN.out];simp
    clear HN
    go_wp2
    go_roundw
    case rel=>exact⟨2,by omega,by go_num,by rw[<-HN2.out],HBa.out _⟩
    case measure=>simp[intOf]
   have HN2:Hid (zbh b (1+1)=min n z1):=by show _=_;rw[HN.out];simp
   clear HN
   go_wp2
   go_roundw
   case rel=>exact⟨2,by omega,by go_num,by rw[<-HN2.out],HBa.out _⟩
   case measure=>simp[intOf]
  ·generalize zbh b 2=n at*
   have hq:=seat_at2
   rw[HY2.out,HZ2.out]at HN
   cases y2
   ·have HN2:Hid (zbh b (2+1)=n):=by show _=_;rw[HN.out];simp
    clear HN
    go_wp2
    go_roundw
    case rel=>exact⟨3,by omega,by go_num,by rw[<-HN2.out],HBa.out _⟩
    case measure=>simp[intOf]
   have HN2:Hid (zbh b (2+1)=min n z2):=by show _=_;rw[HN.out];simp
   clear HN
   go_wp2
   go_roundw
   case rel=>exact⟨3,by omega,by go_num,by rw[<-HN2.out],HBa.out _⟩
   case measure=>simp[intOf]
  generalize zbh b 3=n at*
  have hq:=seat_at3
  rw[HY3.out,HZ3.out]at HN
  cases y3
  ·have HN2:Hid (zbh b (3+1)=n):=by show _=_;rw[HN.out];simp
   clear HN
   go_wp2
   go_roundw
   case rel=>exact⟨4,by omega,by go_num,by rw[<-HN2.out],HBa.out _⟩
   case measure=>simp[intOf]
  have HN2:Hid (zbh b (3+1)=min n z3):=by show _=_;rw[HN.out];simp
  clear HN
  go_wp2
  go_roundw
  case rel=>exact⟨4,by omega,by go_num,by rw[<-HN2.out],HBa.out _⟩
  case measure=>simp[intOf]
 obtain rfl:k=4:=by omega
 go_wp2
 go_ret
 exact⟨zae (zn1 b),HB.out⟩
end Go.Proofs.YtcbnnfeelhlapadGreatDoor
namespace Go.Proofs.YtcbnnfeelhlapadGreatDoor
set_option maxHeartbeats 1600000
set_option maxRecDepth 20000
open Go.RowKit
variable {w w':World} {base G B:Nat} {S:Nat->Prop} {dv lv:Value} {b:Bk} {n seen:Int} {d:Dd}
theorem zpu.setHere(h:zpu w G dv lv b){j:Nat}(hj:j<4)(x:Bool):zpu (w.setCell ⟨G,j*3,none⟩ (.bool x)) G dv lv ⟨b.ds,zai b.here j x,b.last,b.said⟩:=by
 have hd:=h.deeds
 have hl:=h.list
 refine⟨by simpa using h.lt,fun i hi=> ?_,fun i hi=> ?_,fun i hi=> ?_,?_,?_,fun o ho=> ?_⟩
 ·have h1:=h.here i hi
  by_cases e:i=j
  ·subst e
   simp[go_sem,h1,zai]
  have e1:¬(i:Int)=(j:Int):=by omega
  simp[go_sem,h1,zai,e1]
 ·have h1:=h.last i hi
  simp[go_sem,h1]
 ·have h1:=h.said i hi
  simp[go_sem,h1]
 ·simp[go_sem,hd]
 ·simp[go_sem,hl]
 simpa [go_sem]using h.free o ho
theorem zpu.setLast(h:zpu w G dv lv b){j:Nat}(hj:j<4)(x:Int):zpu (w.setCell ⟨G,j*3+1,none⟩ (.int .i64 x)) G dv lv ⟨b.ds,b.here,zai b.last j x,b.said⟩:=by
 have hd:=h.deeds
 have hl:=h.list
 refine⟨by simpa using h.lt,fun i hi=> ?_,fun i hi=> ?_,fun i hi=> ?_,?_,?_,fun o ho=> ?_⟩
 ·have h1:=h.here i hi
  simp[go_sem,h1]
 ·have h1:=h.last i hi
  by_cases e:i=j
  ·subst e
   simp[go_sem,h1,zai]
  have e1:¬(i:Int)=(j:Int):=by omega
  simp[go_sem,h1,zai,e1]
 ·have h1:=h.said i hi
  simp[go_sem,h1]
 ·simp[go_sem,hd]
 ·simp[go_sem,hl]
 simpa [go_sem]using h.free o ho
theorem zpu.setSaid(h:zpu w G dv lv b){j:Nat}(hj:j<4)(x:Int):zpu (w.setCell ⟨G,j*3+2,none⟩ (.int .i64 x)) G dv lv ⟨b.ds,b.here,b.last,zai b.said j x⟩:=by
 have hd:=h.deeds
 have hl:=h.list
 refine⟨by simpa using h.lt,fun i hi=> ?_,fun i hi=> ?_,fun i hi=> ?_,?_,?_,fun o ho=> ?_⟩
 ·have h1:=h.here i hi
  simp[go_sem,h1]
 ·have h1:=h.last i hi
  simp[go_sem,h1]
 ·have h1:=h.said i hi
  by_cases e:i=j
  ·subst e
   simp[go_sem,h1,zai]
  have e1:¬(i:Int)=(j:Int):=by omega
  simp[go_sem,h1,zai,e1]
 ·simp[go_sem,hd]
 ·simp[go_sem,hl]
 simpa [go_sem]using h.free o ho
structure zk6(w:World)(base:Nat)(S:Nat->Prop)(G:Nat)(b':Bk)(w':World):Prop where
 at_:∃dv lv,zc2 w' base (grow S w w') G dv lv b'
 kept:zam S w w'
theorem zc2.base_le(h:zc2 w base S G dv lv b):base<=w.heap.size:=by
 have:=h.lo G h.hG
 omega
theorem zc2.stay(h:zc2 w base S G dv lv b)(hb:Below w.heap.size w w'):zk6 w base S G b w':=
 ⟨⟨dv,lv,(h.below hb).grow h.base_le⟩,.of_below hb⟩
theorem zc2.wrote{b':Bk}(h:zc2 w base S G dv lv b)(hk:zam (fun k=>k=G) w w')(hs:w'.heap.size=w.heap.size)(hc:zpu w' G dv lv b')(hd:b'.ds=b.ds):zk6 w base S G b' w':=by
 have hblk:∀k,k≠G->w'.heap[k]? =w.heap[k]? :=fun k hkB=>by
  by_cases hlt:k<w.heap.size
  ·exact hk.block k hlt hkB
  rw[Array.getElem?_eq_none (by omega),Array.getElem?_eq_none (by omega)]
 exact⟨⟨dv,lv,(h.cells_of hblk hk.size hc hd).grow h.base_le⟩,⟨hk.os,hk.tape,hk.output,hk.size,fun k hk' hS=>hblk k (fun e=>hS (by rw[e];exact h.hG))⟩⟩
theorem zc2.mono{T:Nat->Prop}(h:zc2 w base S G dv lv b)(hT:∀k,S k->T k)(hl:∀k,T k->base<=k/\k<w.heap.size):zc2 w base T G dv lv b:=
 ⟨hl,hT _ h.hG,h.cells,h.ownD,h.ownL,fun k e=>⟨hT k (h.dB k e).1,(h.dB k e).2⟩,fun k e=>⟨hT k (h.lB k e).1,(h.lB k e).2⟩⟩
theorem zk6.after{w w' w'':World}{base G:Nat}{S:Nat->Prop}{b:Bk}(h:zk6 w base S G b w')(hb:Below w'.heap.size w' w''):zk6 w base S G b w'':=by
 obtain⟨⟨dv,lv,hat⟩,hk⟩:=h
 have hlo:=hat.lo
 refine⟨⟨dv,lv,(hat.below hb).mono (fun k hk=>hk.elim .inl (fun e=> .inr ⟨e.1,Nat.lt_of_lt_of_le e.2 hb.size⟩)) (fun k hk'=> ?_)⟩,hk.after hb⟩
 rcases hk' with e|e
 ·have:=hlo k (.inl e)
  have:=hb.size
  omega
 have:=hat.base_le
 have h1:=hk.size
 have h2:base<=w.heap.size\/w.heap.size<base:=by omega
 rcases h2 with h2|h2
 ·omega
 by_cases h3:k<w'.heap.size
 ·have:=hlo k (.inr ⟨e.1,h3⟩)
  omega
 omega
theorem leave_lg(h:zc2 w base S G dv lv b)(n:Int):
 Calls Tryz.prog 170 #[.pointer (some ⟨G,0,none⟩),.int .i64 n] w fun e w'=>e= .returned (.int .i64 (zlg b n))/\zk6 w base S G (zcp b n) w':=by
 have HA:=hid h
 rcases zp1 b n with⟨hh,hcd⟩|⟨hh,hcd⟩
 ·have HCD:=hid hcd
  have HB:Hid (zcp b n=⟨b.ds,zai b.here n false,b.last,b.said⟩):=by show zcp b n=_;rw[zcp,if_pos hcd]
  obtain⟨hw,_⟩:=zad hh
  obtain⟨j,rfl,hj⟩:=zc1 hw
  have c1:=h.cells.here j hj
  have f1:=h.cells.free (j*3) (by omega)
  have hlt:=h.cells.lt
  have HC:=hid (h.cells.setHere hj false)
  clear h hcd
  go_enter Tryz.func170,Tryz.ntmps170
  go_wp2_with (go_at_call 155;refine(zfv HA.out.cells _).mono ?_;rintro e w' ⟨rfl,rfl⟩;rw[hh])
  go_ret
  exact⟨zae HCD.out.symm,by rw[HB.out];exact HA.out.wrote (zjw _ _ _ _) (by simp[World.setCell]) HC.out rfl⟩
 have HCD:=hid hcd
 have HB:Hid (zcp b n=b):=zzm (by rw[hcd];decide)
 clear h hcd
 go_enter Tryz.func170,Tryz.ntmps170
 go_wp2_with (go_at_call 155;refine(zfv HA.out.cells _).mono ?_;rintro e w' ⟨rfl,rfl⟩;rw[hh])
 go_ret
 exact⟨zae HCD.out.symm,by rw[HB.out];exact HA.out.stay (Below.refl _ _)⟩
theorem qev(h:seen<b.said n):zr0 b n seen=false:=by
 rw[zr0,decide_eq_false (by omega)];rfl
theorem qeu(h:b.len<seen):zr0 b n seen=false:=by
 rw[zr0,decide_eq_false (p:=seen<=b.len) (by omega),Bool.and_false]
theorem qet(h:b.said n<=seen)(h2:seen<=b.len):zr0 b n seen=true:=by
 rw[zr0,decide_eq_true h,decide_eq_true h2];rfl
theorem says_lg(h:zc2 w base S G dv lv b)(n seen:Int):
 Calls Tryz.prog 167 #[.pointer (some ⟨G,0,none⟩),.int .i64 n,.int .i64 seen] w fun e w'=>e= .returned (.int .i64 (ze2 b n seen))/\zk6 w base S G (zd5 b n seen) w':=by
 have HA:=hid h
 have no8:b.isHere n=true->zr0 b n seen=false->ze2 b n seen=8->
  Calls Tryz.prog 167 #[.pointer (some ⟨G,0,none⟩),.int .i64 n,.int .i64 seen] w fun e w'=>e= .returned (.int .i64 (ze2 b n seen))/\zk6 w base S G (zd5 b n seen) w':=by
  intro hh hm hcd
  have HCD:=hid hcd
  have HB:Hid (zd5 b n seen=b):=zoq (by rw[hcd];decide)
  obtain⟨hw,_⟩:=zad hh
  obtain⟨j,rfl,hj⟩:=zc1 hw
  clear h hcd
  go_enter Tryz.func167,Tryz.ntmps167
  go_wp2_with (first|(go_at_call 155;refine(zfv HA.out.cells _).mono ?_;rintro e w' ⟨rfl,rfl⟩;rw[hh])|(go_at_call 195;refine(zjb HA.out j hj _).mono ?_;rintro e w' ⟨rfl,rfl⟩;rw[hm]))
  go_ret
  exact⟨zae HCD.out.symm,by rw[HB.out];exact HA.out.stay (Below.refl _ _)⟩
 rcases zqv b n seen with⟨hh,hcd⟩|⟨hh,h1,hcd⟩|⟨hh,h1,h2,hcd⟩|⟨hh,h1,h2,hcd⟩
 ·have HCD:=hid hcd
  have HB:Hid (zd5 b n seen=b):=zoq (by rw[hcd];decide)
  clear h hcd no8
  go_enter Tryz.func167,Tryz.ntmps167
  go_wp2_with (go_at_call 155;refine(zfv HA.out.cells _).mono ?_;rintro e w' ⟨rfl,rfl⟩;rw[hh])
  go_ret
  exact⟨zae HCD.out.symm,by rw[HB.out];exact HA.out.stay (Below.refl _ _)⟩
 ·exact no8 hh (qev h1) hcd
 ·exact no8 hh (qeu h2) hcd
 have HCD:=hid hcd
 have HB:Hid (zd5 b n seen=⟨b.ds,b.here,b.last,zai b.said n seen⟩):=by show zd5 b n seen=_;rw[zd5,if_pos hcd]
 have hm:=qet h1 h2
 obtain⟨hw,_⟩:=zad hh
 obtain⟨j,rfl,hj⟩:=zc1 hw
 have c3:=h.cells.said j hj
 have f3:=h.cells.free (j*3+2) (by omega)
 have hlt:=h.cells.lt
 have HC:=hid (h.cells.setSaid hj seen)
 clear h hcd no8 h1 h2
 go_enter Tryz.func167,Tryz.ntmps167
 go_wp2_with (first|(go_at_call 155;refine(zfv HA.out.cells _).mono ?_;rintro e w' ⟨rfl,rfl⟩;rw[hh])|(go_at_call 195;refine(zjb HA.out j hj _).mono ?_;rintro e w' ⟨rfl,rfl⟩;rw[hm]))
 go_ret
 exact⟨zae HCD.out.symm,by rw[HB.out];exact HA.out.wrote (zjw _ _ _ _) (by simp[World.setCell]) HC.out rfl⟩
theorem qff(h:zc2 w base S G dv lv b)(hg:zct b)(n:Int):
 Calls Tryz.prog 113 #[.pointer (some ⟨G,0,none⟩),.int .i64 n] w fun e w'=>e= .returned (.tuple #[.int .i64 (zey b n),.int .i64 (zde b n)])/\zk6 w base S G (zc4 b n) w':=by
 have HA:=hid h
 rcases zr6 b n with⟨hw,hcd⟩|⟨hw,hh,hcd⟩|⟨hw,hh,hcd⟩
 ·have HCD:=hid hcd
  have HN:Hid (zey b n=0):=by show zey b n=0;rw[zey,if_neg (by rw[hcd];decide)]
  have HB:Hid (zc4 b n=b):=zme (by rw[hcd];decide)
  clear h hcd
  go_enter Tryz.func113,Tryz.ntmps113
  go_wp2_with (go_at_call 116;refine(zbj _ _).mono ?_;rintro e w' ⟨rfl,rfl⟩;rw[hw])
  go_ret2
  exact⟨zdy HN.out.symm HCD.out.symm,by rw[HB.out];exact HA.out.stay (Below.refl _ _)⟩
 ·have HCD:=hid hcd
  have HN:Hid (zey b n=0):=by show zey b n=0;rw[zey,if_neg (by rw[hcd];decide)]
  have HB:Hid (zc4 b n=b):=zme (by rw[hcd];decide)
  have hh':b.isHere n=true:=by rw[zjx hw];exact hh
  clear h hcd
  go_enter Tryz.func113,Tryz.ntmps113
  go_wp2_with (first|(go_at_call 116;refine(zbj _ _).mono ?_;rintro e w' ⟨rfl,rfl⟩;rw[hw])|(go_at_call 155;refine(zfv HA.out.cells _).mono ?_;rintro e w' ⟨rfl,rfl⟩;rw[hh']))
  go_ret2
  exact⟨zdy HN.out.symm HCD.out.symm,by rw[HB.out];exact HA.out.stay (Below.refl _ _)⟩
 have HCD:=hid hcd
 have HN:Hid (zey b n=b.last n+1):=by show zey b n=_;rw[zey,if_pos hcd]
 have HB:Hid (zc4 b n=⟨b.ds,zai b.here n true,b.last,zai b.said n b.len⟩):=by show zc4 b n=_;rw[zc4,if_pos hcd]
 have hh':b.isHere n=false:=by rw[zjx hw];exact hh
 obtain⟨hl0,hl1⟩:=zb2 hg n
 have hl2:b.len<=120:=by have:=hg.small;show(b.ds.length:Int)<=120;omega
 obtain⟨j,rfl,hj⟩:=zc1 hw
 have c1:=h.cells.here j hj
 have c2:=h.cells.last j hj
 have c3:=h.cells.said j hj
 have f1:=h.cells.free (j*3) (by omega)
 have f3:=h.cells.free (j*3+2) (by omega)
 have hlt:=h.cells.lt
 have HC:Hid (zpu ((w.setCell ⟨G,j*3,none⟩ (.bool true)).setCell ⟨G,j*3+2,none⟩ (.int .i64 b.ds.length)) G dv lv ⟨b.ds,zai b.here j true,b.last,zai b.said j b.len⟩):=(h.cells.setHere hj true).setSaid hj _
 have HT:Hid (zk6 w base S G ⟨b.ds,zai b.here j true,b.last,zai b.said j b.len⟩ ((w.setCell ⟨G,j*3,none⟩ (.bool true)).setCell ⟨G,j*3+2,none⟩ (.int .i64 b.ds.length))):=HA.out.wrote (zuu (zjw _ _ _ _) _ _) (by simp[World.setCell]) HC.out rfl
 generalize b.last j=m at*
 clear h hcd hg HC
 go_enter Tryz.func113,Tryz.ntmps113
 go_wp2_with (first|(go_at_call 116;refine(zbj _ _).mono ?_;rintro e w' ⟨rfl,rfl⟩;rw[hw])|(go_at_call 155;refine(zfv HA.out.cells _).mono ?_;rintro e w' ⟨rfl,rfl⟩;rw[hh'])|(go_at_call 85;refine(zir HA.out).mono ?_;rintro e w' ⟨rfl,rfl⟩)|(go_at_call 156;refine(zp0 _ m _ _ hl0 (by omega)).mono ?_;rintro e w' ⟨rfl,hb⟩))
 go_ret2
 exact⟨zdy HN.out.symm HCD.out.symm,by rw[HB.out];exact HT.out.after hb⟩
theorem zm2{fn:Func}{p u:Tmp}{ty:TypeId}(h:fn.results= #[.cell p ty,.tmp u])(tmps:Array Value)(P:Program)(w:World):
 (results fn tmps).run P w=((asAddr (tmps.getD p undef)).run P w).andThen fun a w₁=>((loadVar ty a).run P w₁).andThen fun v w₂=> .ok (.tuple #[v,tmps.getD u undef]) w₂:=by
 simp only[results,h]
 simp[Sem.run_bind,Result.andThen]
theorem qf4(h:zdq w B 0 d):(loadVar 124 ⟨B,0,none⟩).run Tryz.prog w= .ok (ddV d) w:=by
 obtain⟨_,c0,c1,c2,c3,c4,c5,c6⟩:=h
 simp only[Nat.zero_add]at c0 c1 c2 c3 c4 c5 c6
 simp[go_sem,loadVar,loadCells,loadCellsFrom,Sem.run_bind,Tryz.isAgg124,Tryz.sizeOf124,c0,c1,c2,c3,c4,c5,c6]
theorem zsz{R:Ending->World->Prop}{a:Act}{x:Value}(h:zdq w B 0 d)(h2:a.tmps.getD 5 undef=x)(h3:a.tmps.getD 4 undef= .pointer (some ⟨B,0,none⟩))(hd:a.defers=[])
 (hR:R (.returned (.tuple #[ddV d,x])) w):bodyPost Tryz.prog Tryz.f137 R Exit.ret a w:=by
 refine bodyPost_ret ?_ hd hR
 rw[zm2 rfl,h2,h3]
 simp[asAddr,qf4 h]
abbrev zmp:Dd:=⟨0,0,0,0,0,0,⟨#[]⟩⟩
def zum(b:Bk)(n:Int):Dd:=if 1<=n/\n<=b.len then b.ds.getD (n-1).toNat zmp else zmp
def isD(b:Bk)(n:Int):Bool:=decide (1<=n/\n<=b.len)
theorem zpg(h:zc2 w base S G dv lv b)(hl:b.ds.length<=120)(n:Int):
 Calls Tryz.prog 137 #[.pointer (some ⟨G,0,none⟩),.int .i64 n] w fun e w'=>e= .returned (.tuple #[ddV (zum b n),.bool (isD b n)])/\Below w.heap.size w w':=by
 have HA:=hid h
 have hlen:b.len=(b.ds.length:Int):=rfl
 by_cases h1:n<1
 ·have HD:Hid (zum b n=zmp):=by show zum b n=_;rw[zum,if_neg (by omega)]
  have HI:Hid (isD b n=false):=by show isD b n=_;rw[isD,decide_eq_false (by omega)]
  have HZ:=hid (zb4 w zmp)
  clear h hlen
  go_enter Tryz.func137,Tryz.ntmps137
  go_wp2
  refine zsz HZ.out rfl rfl rfl ?_
  rw[HD.out,HI.out]
  exact⟨rfl,(Below.refl _ _).alloc (Nat.le_refl _) _⟩
 by_cases h2:n<=b.len
 ·obtain⟨k,rfl⟩:∃k:Nat,n=(k:Int)+1:=⟨(n-1).toNat,by omega⟩
  have hk:k<b.ds.length:=by omega
  have hx:∃d,d=b.ds[k]:=⟨_,rfl⟩
  obtain⟨d,hd⟩:=hx
  have HD:Hid (zum b ((k:Int)+1)=d):=by
   show zum b _=_
   rw[zum,if_pos (by omega),show((k:Int)+1-1).toNat=k by omega,List.getD_eq_getElem?_getD,List.getElem?_eq_getElem hk,hd]
   rfl
  have HI:Hid (isD b ((k:Int)+1)=true):=by show isD b _=_;rw[isD,decide_eq_true (by omega)]
  have hL:=h.ownD.dlst
  obtain⟨a,cap,rfl⟩:=h.ownD.len
  obtain⟨a',len',cap',he,e1,e2,e3⟩:=hL
  simp only[Value.slice.injEq]at he
  obtain⟨rfl,rfl,rfl⟩:=he
  rcases e3 with e3|⟨bb,off,rfl,hr⟩
  ·omega
  obtain⟨hbb,g0,g1,g2,g3,g4,g5,g6⟩:=hr.at_ k hk
  rw[<-hd]at g0 g1 g2 g3 g4 g5 g6
  have c0:=h.cells.deeds
  have hlt:=h.cells.lt
  have HZ:=hid (zb4 w d)
  have HA2:Hid (zc2 (w.alloc (zd9 zmp)) base S G _ lv b):=h.below ((Below.refl _ _).alloc (Nat.le_refl _) _)
  have hkk:(k:Int)+1<=(b.ds.length:Int):=by omega
  clear h hr hd e1 e2 h2 hlen
  obtain⟨kind,by_,no,seen,at_,many,text⟩:=d
  simp only at g0 g1 g2 g3 g4 g5 g6
  go_enter Tryz.func137,Tryz.ntmps137
  go_wp2_with (go_at_call 85;refine(zir HA2.out).mono ?_;rintro e w' ⟨rfl,rfl⟩)
  refine zsz (d:=⟨kind,by_,no,seen,at_,many,text⟩) HZ.out rfl rfl rfl ?_
  rw[HD.out,HI.out]
  exact⟨rfl,(Below.refl _ _).alloc (Nat.le_refl _) _⟩
 have HD:Hid (zum b n=zmp):=by show zum b n=_;rw[zum,if_neg (by omega)]
 have HI:Hid (isD b n=false):=by show isD b n=_;rw[isD,decide_eq_false (by omega)]
 have HZ:=hid (zb4 w zmp)
 have HA2:Hid (zc2 (w.alloc (zd9 zmp)) base S G dv lv b):=h.below ((Below.refl _ _).alloc (Nat.le_refl _) _)
 have h2':(b.ds.length:Int)<n:=by omega
 clear h h2 hlen
 go_enter Tryz.func137,Tryz.ntmps137
 go_wp2_with (go_at_call 85;refine(zir HA2.out).mono ?_;rintro e w' ⟨rfl,rfl⟩)
 refine zsz HZ.out rfl rfl rfl ?_
 rw[HD.out,HI.out]
 exact⟨rfl,(Below.refl _ _).alloc (Nat.le_refl _) _⟩
end Go.Proofs.YtcbnnfeelhlapadGreatDoor