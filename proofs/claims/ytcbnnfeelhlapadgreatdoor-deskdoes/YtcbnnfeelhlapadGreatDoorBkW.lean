/-
  The document's own Book: IsHere, Least, Join, Leave, Says: their contracts.
-/
import Derived.Test.YtcbnnfeelhlapadGreatDoorRAll
import Derived.BigRegion
namespace Go.Proofs.YtcbnnfeelhlapadGreatDoor
set_option maxHeartbeats 800000
set_option maxRecDepth 20000
open Go.RowKit
theorem zc3{n:Int}(h:wrB n=true):∃j:Nat,n=j∧j<4:=by
 have hn:0≤n∧n≤3:=by simpa [wrB]using h
 obtain⟨j,rfl⟩:=Int.eq_ofNat_of_zero_le hn.1
 exact⟨j,rfl,by omega⟩
theorem zuw{b:Bk}{n:Int}(h:wrB n=false):b.isHere n=false:=by rw[Bk.isHere,h];rfl
theorem zjw{b:Bk}{n:Int}(h:wrB n=true):b.isHere n=b.here n:=by rw[Bk.isHere,h];rfl
theorem zd0{w:World}{B:Nat}{dv:Value}{b:Bk}(h:zi0 w B dv b)(n:Int):
 Calls Tryz.prog 144 #[.pointer (some ⟨B,0,none⟩),.int .i64 n] w fun e w'=>e= .returned (.bool (b.isHere n))∧w'=w:=by
 cases hw:wrB n
 ·have HE:Hid (b.isHere n=false):=zuw hw
  clear h
  go_enter Tryz.func144,Tryz.ntmps144
  go_wp2_with (go_at_call 57;refine(za7 _ _).mono ?_;rintro e w' ⟨rfl,rfl⟩;rw[hw])
  go_ret
  exact⟨zbh HE.out.symm,rfl⟩
 ·have HE:Hid (b.isHere n=b.here n):=zjw hw
  obtain⟨j,rfl,hj⟩:=zc3 hw
  have c1:=h.here j hj
  have hlt:=h.lt
  clear h
  go_enter Tryz.func144,Tryz.ntmps144
  go_wp2_with (go_at_call 57;refine(za7 _ _).mono ?_;rintro e w' ⟨rfl,rfl⟩;rw[hw])
  go_ret
  exact⟨zbh HE.out.symm,rfl⟩
def zbg(b:Bk):Nat→Int
 | 0=>b.len
 |k+1=>zal b (zbg b k) k
theorem zn3(b:Bk):zbg b 4=zao b:=rfl
theorem zmf{b:Bk}(h:zcm b):∀k,0≤zbg b k∧zbg b k≤120
 | 0=>by
  have:=h.small
  show 0≤b.len∧b.len≤120
  have e:b.len=(b.ds.length:Int):=rfl
  omega
 |k+1=>by
  have h1:=zmf h k
  have h2:=h.said k
  show 0≤zal b (zbg b k) k∧zal b (zbg b k) k≤120
  unfold zal
  split<;>omega
theorem zfy.len{w:World}{base:Nat}{v:Value}{l:List Dd}(h:zfy w base v l):∃a cap,v= .slice a l.length cap:=by
 rcases h.2 with⟨rfl,hn⟩|⟨g,cap,cur,rfl,_⟩
 ·exact⟨none,0,by rw[hn]⟩
 ·exact⟨_,cap,rfl⟩
theorem zzm{w:World}{base B:Nat}{S:Nat→Prop}{dv:Value}{b:Bk}(h:zas w base S B dv b)(hg:zcm b):
 Calls Tryz.prog 44 #[.pointer (some ⟨B,0,none⟩)] w fun e w'=>e= .returned (.int .i64 (zao b))∧w'=w:=by
 have HC:Hid (zi0 w B dv b):=h.cells
 have c0:=h.cells.deeds
 have hlt:=h.cells.lt
 have HG:Hid (zcm b):=hg
 obtain⟨a,cap,rfl⟩:=h.ownD.len
 clear h hg
 go_enter Tryz.func44,Tryz.ntmps44
 go_wp2
 clear c0
 go_loop [3,4] (fun n i=>∃k:Nat,k≤4∧i= .int .i64 k∧n= .int .i64 (zbg b k)) (fun _ i=>4-(intOf i).toNat)
 case atStart=>exact⟨0,by omega,rfl,rfl⟩
 case round=>
  obtain⟨k,hk,rfl,rfl⟩:=hrel
  have hb:=zmf HG.out k
  obtain⟨hb0,hb1⟩:=hb
  by_cases hlt4:k<4
  ·have c1:=HC.out.here k hlt4
   have c3:=HC.out.said k hlt4
   have HN:Hid (zbg b (k+1)=if b.here k=true∧b.said k<zbg b k then b.said k else zbg b k):=rfl
   generalize zbg b k=n at*
   cases hh:b.here k
   ·rw[hh]at c1
    have HN2:Hid (zbg b (k+1)=n):=by show _=_;rw[HN.out,if_neg (by simp[hh])]
    clear hh HN
    go_wp2
    go_round
    case rel=>exact⟨k+1,by omega,by go_num,by rw[HN2.out]⟩
    case measure=>simp[intOf];omega
   ·rw[hh]at c1
    by_cases hs:b.said k<n
    ·have HN2:Hid (zbg b (k+1)=b.said k):=by show _=_;rw[HN.out,if_pos ⟨hh,hs⟩]
     clear hh HN
     go_wp2
     go_round
     case rel=>exact⟨k+1,by omega,by go_num,by rw[HN2.out]⟩
     case measure=>simp[intOf];omega
    ·have HN2:Hid (zbg b (k+1)=n):=by show _=_;rw[HN.out,if_neg (fun e=>hs e.2)]
     clear hh HN
     go_wp2
     go_round
     case rel=>exact⟨k+1,by omega,by go_num,by rw[HN2.out]⟩
     case measure=>simp[intOf];omega
  ·obtain rfl:k=4:=by omega
   go_wp2
   go_ret
   exact⟨zad (zn3 b),rfl⟩
theorem zi0.setHere{w:World}{B:Nat}{dv:Value}{b:Bk}(h:zi0 w B dv b){j:Nat}(hj:j<4)(x:Bool):zi0 (w.setCell ⟨B,1+j,none⟩ (.bool x)) B dv ⟨b.ds,zab b.here j x,b.last,b.said⟩:=by
 have h0:=h.deeds
 refine⟨by simpa using h.lt,by simp[go_sem,h0],fun i hi=> ?_,fun i hi=> ?_,fun i hi=> ?_,fun o ho=> ?_⟩
 ·have h1:=h.here i hi
  by_cases e:i=j
  ·subst e
   simp[go_sem,h1,zab]
  ·have e1:¬(i:Int)=(j:Int):=by omega
   simp[go_sem,h1,zab,e1]
 ·have h1:=h.last i hi
  simp[go_sem,h1]
 ·have h1:=h.said i hi
  simp[go_sem,h1]
 ·simpa [go_sem]using h.free o ho
theorem zi0.setLast{w:World}{B:Nat}{dv:Value}{b:Bk}(h:zi0 w B dv b){j:Nat}(hj:j<4)(x:Int):zi0 (w.setCell ⟨B,5+j,none⟩ (.int .i64 x)) B dv ⟨b.ds,b.here,zab b.last j x,b.said⟩:=by
 have h0:=h.deeds
 refine⟨by simpa using h.lt,by simp[go_sem,h0],fun i hi=> ?_,fun i hi=> ?_,fun i hi=> ?_,fun o ho=> ?_⟩
 ·have h1:=h.here i hi
  simp[go_sem,h1]
 ·have h1:=h.last i hi
  by_cases e:i=j
  ·subst e
   simp[go_sem,h1,zab]
  ·have e1:¬(i:Int)=(j:Int):=by omega
   simp[go_sem,h1,zab,e1]
 ·have h1:=h.said i hi
  simp[go_sem,h1]
 ·simpa [go_sem]using h.free o ho
theorem zi0.setSaid{w:World}{B:Nat}{dv:Value}{b:Bk}(h:zi0 w B dv b){j:Nat}(hj:j<4)(x:Int):zi0 (w.setCell ⟨B,9+j,none⟩ (.int .i64 x)) B dv ⟨b.ds,b.here,b.last,zab b.said j x⟩:=by
 have h0:=h.deeds
 refine⟨by simpa using h.lt,by simp[go_sem,h0],fun i hi=> ?_,fun i hi=> ?_,fun i hi=> ?_,fun o ho=> ?_⟩
 ·have h1:=h.here i hi
  simp[go_sem,h1]
 ·have h1:=h.last i hi
  simp[go_sem,h1]
 ·have h1:=h.said i hi
  by_cases e:i=j
  ·subst e
   simp[go_sem,h1,zab]
  ·have e1:¬(i:Int)=(j:Int):=by omega
   simp[go_sem,h1,zab,e1]
 ·simpa [go_sem]using h.free o ho
structure zf0(w:World)(base:Nat)(S:Nat→Prop)(B:Nat)(b':Bk)(w':World):Prop where
 at_:∃dv,zas w' base (grow S w w') B dv b'
 kept:zak S w w'
theorem zas.grow{w w':World}{base B:Nat}{S:Nat→Prop}{dv:Value}{b:Bk}(h:zas w' base S B dv b)(hb:base≤w.heap.size):zas w' base (grow S w w') B dv b:=
 ⟨fun k hs=>hs.elim (h.lo k) (fun e=>⟨by omega,e.2⟩),.inl h.hB,h.cells,h.ownD,fun k e=>⟨.inl (h.dB k e).1,(h.dB k e).2⟩⟩
theorem zas.base_le{w:World}{base B:Nat}{S:Nat→Prop}{dv:Value}{b:Bk}(h:zas w base S B dv b):base≤w.heap.size:=by
 have:=h.lo B h.hB
 omega
theorem zas.stay{w w':World}{base B:Nat}{S:Nat→Prop}{dv:Value}{b:Bk}(h:zas w base S B dv b)(hb:Below w.heap.size w w'):zf0 w base S B b w':=
 ⟨⟨dv,(h.below hb).grow h.base_le⟩,.of_below hb⟩
theorem zas.wrote{w w':World}{base B:Nat}{S:Nat→Prop}{dv:Value}{b b':Bk}(h:zas w base S B dv b)(hk:zak (fun k=>k=B) w w')(hs:w'.heap.size=w.heap.size)(hc:zi0 w' B dv b')(hd:b'.ds=b.ds):zf0 w base S B b' w':=by
 have hblk:∀k,k≠B→w'.heap[k]? =w.heap[k]? :=fun k hkB=>by
  by_cases hlt:k<w.heap.size
  ·exact hk.block k hlt hkB
  ·rw[Array.getElem?_eq_none (by omega),Array.getElem?_eq_none (by omega)]
 refine⟨⟨dv,(h.cells_of hblk hk.size hc hd).grow h.base_le⟩,⟨hk.os,hk.tape,hk.output,hk.size,fun k hk' hS=>hblk k (fun e=>hS (by rw[e];exact h.hB))⟩⟩
theorem zjv(w:World)(B o:Nat)(u:Value):zak (fun k=>k=B) w (w.setCell ⟨B,o,none⟩ u):=zak.set (S:=fun k=>k=B) (zak.refl _ w) (p:=⟨B,o,none⟩) rfl u
theorem zut{w w':World}{B:Nat}(h:zak (fun k=>k=B) w w')(o:Nat)(u:Value):zak (fun k=>k=B) w (w'.setCell ⟨B,o,none⟩ u):=zak.set (S:=fun k=>k=B) h (p:=⟨B,o,none⟩) rfl u
theorem zas.mono{w:World}{base B:Nat}{S T:Nat→Prop}{dv:Value}{b:Bk}(h:zas w base S B dv b)(hT:∀k,S k→T k)(hl:∀k,T k→base≤k∧k<w.heap.size):zas w base T B dv b:=
 ⟨hl,hT _ h.hB,h.cells,h.ownD,fun k e=>⟨hT k (h.dB k e).1,(h.dB k e).2⟩⟩
theorem zf0.after{w w' w'':World}{base B:Nat}{S:Nat→Prop}{b:Bk}(h:zf0 w base S B b w')(hb:Below w'.heap.size w' w''):zf0 w base S B b w'':=by
 obtain⟨⟨dv,hat⟩,hk⟩:=h
 have hlo:=hat.lo
 refine⟨⟨dv,(hat.below hb).mono (fun k hk=>hk.elim .inl (fun e=> .inr ⟨e.1,Nat.lt_of_lt_of_le e.2 hb.size⟩)) (fun k hk'=> ?_)⟩,hk.after hb⟩
 rcases hk' with e|e
 ·have:=hlo k (.inl e)
  have:=hb.size
  omega
 ·have:=hat.base_le
  have h1:=hk.size
  have h2:base≤w.heap.size∨w.heap.size<base:=by omega
  rcases h2 with h2|h2
  ·omega
  ·by_cases h3:k<w'.heap.size
   ·have:=hlo k (.inr ⟨e.1,h3⟩)
    omega
   ·omega
theorem ze1{a b a' b':Int}(h:a=a')(h2:b=b'):Ending.returned (.tuple #[.int .i64 a,.int .i64 b])= .returned (.tuple #[.int .i64 a',.int .i64 b']):=by rw[h,h2]
theorem zp3(b:Bk)(n:Int):(b.isHere n=true∧zhs b n=0)∨(b.isHere n=false∧zhs b n=5):=by
 unfold zhs
 cases h:b.isHere n
 ·exact .inr ⟨rfl,if_neg (by simp)⟩
 ·exact .inl ⟨rfl,if_pos rfl⟩
theorem leave_bk{w:World}{base B:Nat}{S:Nat→Prop}{dv:Value}{b:Bk}(h:zas w base S B dv b)(n:Int):
 Calls Tryz.prog 145 #[.pointer (some ⟨B,0,none⟩),.int .i64 n] w fun e w'=>e= .returned (.int .i64 (zhs b n))∧zf0 w base S B (zcs b n) w':=by
 have HA:Hid (zas w base S B dv b):=h
 rcases zp3 b n with⟨hh,hcd⟩|⟨hh,hcd⟩
 ·have HCD:Hid (zhs b n=0):=hcd
  have HB:Hid (zcs b n=⟨b.ds,zab b.here n false,b.last,b.said⟩):=by show zcs b n=_;rw[zcs,if_pos hcd]
  obtain⟨hw,_⟩:=zac hh
  obtain⟨j,rfl,hj⟩:=zc3 hw
  have c1:=h.cells.here j hj
  have f1:=h.cells.free (1+j) (by omega)
  have hlt:=h.cells.lt
  have HC:Hid (zi0 (w.setCell ⟨B,1+j,none⟩ (.bool false)) B dv ⟨b.ds,zab b.here j false,b.last,b.said⟩):=h.cells.setHere hj false
  clear h hcd
  go_enter Tryz.func145,Tryz.ntmps145
  go_wp2_with (go_at_call 144;refine(zd0 HA.out.cells _).mono ?_;rintro e w' ⟨rfl,rfl⟩;rw[hh])
  go_ret
  exact⟨zad HCD.out.symm,by rw[HB.out];exact HA.out.wrote (zjv _ _ _ _) (by simp[World.setCell]) HC.out rfl⟩
 ·have HCD:Hid (zhs b n=5):=hcd
  have HB:Hid (zcs b n=b):=zzk (by rw[hcd];decide)
  clear h hcd
  go_enter Tryz.func145,Tryz.ntmps145
  go_wp2_with (go_at_call 144;refine(zd0 HA.out.cells _).mono ?_;rintro e w' ⟨rfl,rfl⟩;rw[hh])
  go_ret
  exact⟨zad HCD.out.symm,by rw[HB.out];exact HA.out.stay (Below.refl _ _)⟩
theorem zqt(b:Bk)(n seen:Int):(b.isHere n=false∧zd4 b n seen=5)∨(b.isHere n=true∧seen<b.said n∧zd4 b n seen=8)∨(b.isHere n=true∧b.said n≤seen∧b.len<seen∧zd4 b n seen=8)∨(b.isHere n=true∧b.said n≤seen∧seen≤b.len∧zd4 b n seen=0):=by
 unfold zd4
 cases h:b.isHere n
 ·exact .inl ⟨rfl,if_pos rfl⟩
 ·rw[if_neg (by simp)]
  by_cases h1:seen<b.said n
  ·exact .inr (.inl ⟨rfl,h1,if_pos (.inl h1)⟩)
  ·by_cases h2:b.len<seen
   ·exact .inr (.inr (.inl ⟨rfl,by omega,h2,if_pos (.inr h2)⟩))
   ·exact .inr (.inr (.inr ⟨rfl,by omega,by omega,if_neg (by omega)⟩))
theorem says_bk{w:World}{base B:Nat}{S:Nat→Prop}{dv:Value}{b:Bk}(h:zas w base S B dv b)(n seen:Int):
 Calls Tryz.prog 99 #[.pointer (some ⟨B,0,none⟩),.int .i64 n,.int .i64 seen] w fun e w'=>e= .returned (.int .i64 (zd4 b n seen))∧zf0 w base S B (zcz b n seen) w':=by
 have HA:Hid (zas w base S B dv b):=h
 obtain⟨a,cap,rfl⟩:=h.ownD.len
 have hlen:b.len=(b.ds.length:Int):=rfl
 rcases zqt b n seen with⟨hh,hcd⟩|⟨hh,h1,hcd⟩|⟨hh,h1,h2,hcd⟩|⟨hh,h1,h2,hcd⟩
 ·have HCD:Hid (zd4 b n seen=5):=hcd
  have HB:Hid (zcz b n seen=b):=zos (by rw[hcd];decide)
  clear h hcd
  go_enter Tryz.func99,Tryz.ntmps99
  go_wp2_with (go_at_call 144;refine(zd0 HA.out.cells _).mono ?_;rintro e w' ⟨rfl,rfl⟩;rw[hh])
  go_ret
  exact⟨zad HCD.out.symm,by rw[HB.out];exact HA.out.stay (Below.refl _ _)⟩
 ·have HCD:Hid (zd4 b n seen=8):=hcd
  have HB:Hid (zcz b n seen=b):=zos (by rw[hcd];decide)
  obtain⟨hw,_⟩:=zac hh
  obtain⟨j,rfl,hj⟩:=zc3 hw
  have c0:=h.cells.deeds
  have c3:=h.cells.said j hj
  have hlt:=h.cells.lt
  clear h hcd
  go_enter Tryz.func99,Tryz.ntmps99
  go_wp2_with (go_at_call 144;refine(zd0 HA.out.cells _).mono ?_;rintro e w' ⟨rfl,rfl⟩;rw[hh])
  go_ret
  exact⟨zad HCD.out.symm,by rw[HB.out];exact HA.out.stay (Below.refl _ _)⟩
 ·have HCD:Hid (zd4 b n seen=8):=hcd
  have HB:Hid (zcz b n seen=b):=zos (by rw[hcd];decide)
  obtain⟨hw,_⟩:=zac hh
  obtain⟨j,rfl,hj⟩:=zc3 hw
  have c0:=h.cells.deeds
  have c3:=h.cells.said j hj
  have hlt:=h.cells.lt
  rw[hlen]at h2
  clear h hcd hlen
  go_enter Tryz.func99,Tryz.ntmps99
  go_wp2_with (go_at_call 144;refine(zd0 HA.out.cells _).mono ?_;rintro e w' ⟨rfl,rfl⟩;rw[hh])
  go_ret
  exact⟨zad HCD.out.symm,by rw[HB.out];exact HA.out.stay (Below.refl _ _)⟩
 ·have HCD:Hid (zd4 b n seen=0):=hcd
  have HB:Hid (zcz b n seen=⟨b.ds,b.here,b.last,zab b.said n seen⟩):=by show zcz b n seen=_;rw[zcz,if_pos hcd]
  obtain⟨hw,_⟩:=zac hh
  obtain⟨j,rfl,hj⟩:=zc3 hw
  have c0:=h.cells.deeds
  have c3:=h.cells.said j hj
  have f3:=h.cells.free (9+j) (by omega)
  have hlt:=h.cells.lt
  have HC:Hid (zi0 (w.setCell ⟨B,9+j,none⟩ (.int .i64 seen)) B (.slice a b.ds.length cap) ⟨b.ds,b.here,b.last,zab b.said j seen⟩):=h.cells.setSaid hj seen
  rw[hlen]at h2
  clear h hcd hlen
  go_enter Tryz.func99,Tryz.ntmps99
  go_wp2_with (go_at_call 144;refine(zd0 HA.out.cells _).mono ?_;rintro e w' ⟨rfl,rfl⟩;rw[hh])
  go_ret
  exact⟨zad HCD.out.symm,by rw[HB.out];exact HA.out.wrote (zjv _ _ _ _) (by simp[World.setCell]) HC.out rfl⟩
theorem zr4(b:Bk)(n:Int):(wrB n=false∧zc6 b n=1)∨(wrB n=true∧b.here n=true∧zc6 b n=6)∨(wrB n=true∧b.here n=false∧zc6 b n=0):=by
 unfold zc6
 cases h:wrB n
 ·exact .inl ⟨rfl,if_pos rfl⟩
 ·rw[if_neg (by simp)]
  cases h2:b.here n
  ·exact .inr (.inr ⟨rfl,rfl,if_neg (by simp)⟩)
  ·exact .inr (.inl ⟨rfl,rfl,if_pos rfl⟩)
theorem qfe{w:World}{base B:Nat}{S:Nat→Prop}{dv:Value}{b:Bk}(h:zas w base S B dv b)(hg:zcm b)(n:Int):
 Calls Tryz.prog 92 #[.pointer (some ⟨B,0,none⟩),.int .i64 n] w fun e w'=>e= .returned (.tuple #[.int .i64 (zey b n),.int .i64 (zc6 b n)])∧zf0 w base S B (zbw b n) w':=by
 have HA:Hid (zas w base S B dv b):=h
 obtain⟨a,cap,rfl⟩:=h.ownD.len
 rcases zr4 b n with⟨hw,hcd⟩|⟨hw,hh,hcd⟩|⟨hw,hh,hcd⟩
 ·have HCD:Hid (zc6 b n=1):=hcd
  have HN:Hid (zey b n=0):=by show zey b n=0;rw[zey,if_neg (by rw[hcd];decide)]
  have HB:Hid (zbw b n=b):=zmh (by rw[hcd];decide)
  clear h hcd
  go_enter Tryz.func92,Tryz.ntmps92
  go_wp2_with (go_at_call 57;refine(za7 _ _).mono ?_;rintro e w' ⟨rfl,rfl⟩;rw[hw])
  go_ret2
  exact⟨ze1 HN.out.symm HCD.out.symm,by rw[HB.out];exact HA.out.stay (Below.refl _ _)⟩
 ·have HCD:Hid (zc6 b n=6):=hcd
  have HN:Hid (zey b n=0):=by show zey b n=0;rw[zey,if_neg (by rw[hcd];decide)]
  have HB:Hid (zbw b n=b):=zmh (by rw[hcd];decide)
  obtain⟨j,rfl,hj⟩:=zc3 hw
  have c1:=h.cells.here j hj
  have hlt:=h.cells.lt
  rw[hh]at c1
  clear h hcd
  go_enter Tryz.func92,Tryz.ntmps92
  go_wp2_with (go_at_call 57;refine(za7 _ _).mono ?_;rintro e w' ⟨rfl,rfl⟩;rw[hw])
  go_ret2
  exact⟨ze1 HN.out.symm HCD.out.symm,by rw[HB.out];exact HA.out.stay (Below.refl _ _)⟩
 ·have HCD:Hid (zc6 b n=0):=hcd
  have HN:Hid (zey b n=b.last n+1):=by show zey b n=_;rw[zey,if_pos hcd]
  have HB:Hid (zbw b n=⟨b.ds,zab b.here n true,b.last,zab b.said n b.len⟩):=by show zbw b n=_;rw[zbw,if_pos hcd]
  obtain⟨hl0,hl1⟩:=zb6 hg n
  have hl2:b.len≤120:=by have:=hg.small;show(b.ds.length:Int)≤120;omega
  obtain⟨j,rfl,hj⟩:=zc3 hw
  have c0:=h.cells.deeds
  have c1:=h.cells.here j hj
  have c2:=h.cells.last j hj
  have c3:=h.cells.said j hj
  have f1:=h.cells.free (1+j) (by omega)
  have f3:=h.cells.free (9+j) (by omega)
  have hlt:=h.cells.lt
  have HC:Hid (zi0 ((w.setCell ⟨B,1+j,none⟩ (.bool true)).setCell ⟨B,9+j,none⟩ (.int .i64 b.ds.length)) B (.slice a b.ds.length cap) ⟨b.ds,zab b.here j true,b.last,zab b.said j b.len⟩):=(h.cells.setHere hj true).setSaid hj _
  rw[hh]at c1
  generalize b.last j=m at*
  clear h hcd hg
  go_enter Tryz.func92,Tryz.ntmps92
  go_wp2_with (go_at_call 57;refine(za7 _ _).mono ?_;rintro e w' ⟨rfl,rfl⟩;rw[hw])
  go_region
  all_goals
   go_wp2
   go_ret2
   exact⟨ze1 HN.out.symm HCD.out.symm,by rw[HB.out];exact(HA.out.wrote (zut (zjv _ _ _ _) _ _) (by simp[World.setCell]) HC.out rfl).after (Below.refl _ _).drew⟩
end Go.Proofs.YtcbnnfeelhlapadGreatDoor