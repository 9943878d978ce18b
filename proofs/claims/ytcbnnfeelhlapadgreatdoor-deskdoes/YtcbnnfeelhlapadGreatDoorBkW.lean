/-
  RAll, BkW.
-/
import Derived.Test.YtcbnnfeelhlapadGreatDoorRDoT
namespace Go.Proofs.YtcbnnfeelhlapadGreatDoor
set_option maxHeartbeats 800000
set_option maxRecDepth 20000
open Go.RowKit
variable {d:Dd} {w:World} {B i:Nat} {v:Value} {l:List Ch} {r all:List Dd}
theorem zzi(h:za9 d=0)(hk:d.kind≠1):1<=d.many:=by
 unfold za9 at h
 by_cases hk2:d.kind≠1/\d.kind≠2
 ·rw[if_pos hk2]at h;cases h
 rw[if_neg hk2]at h
 cases hp:zcr d
 ·rw[if_pos hp]at h;cases h
 rw[if_neg (by simp[hp]),if_neg hk,zl3]at h
 by_cases ht:d.text.size≠0
 ·rw[if_pos ht]at h;cases h
 rw[if_neg ht]at h
 cases hw:zas d.many 1 200
 ·rw[if_neg (by simp[hw])]at h;cases h
 have:1<=d.many/\d.many<=200:=by simpa [zas]using hw
 exact this.1
theorem qax(l:List Ch)(d:Dd)(number:Int)(v:Value)(w:World)(h:Lst w v l)(hl:l.length<=1000)(ht:zi2 l)(hk:d.kind≠1)(hc:doC l d number=0)(hnum:number<=1000):
 Calls Tryz.prog 103 #[v,ddV d,.int .i64 number] w fun e w'=>∃v',e= .returned (.tuple #[v',.int .i64 0])/\Own w' w.heap.size v' (doL l d number)/\Below w.heap.size w w':=by
 obtain⟨a,len,cap,rfl,h1,h2,h3⟩:=h
 rcases h3 with rfl|⟨b,off,rfl,hr⟩
 ·exfalso
  obtain rfl:l=[]:=List.length_eq_zero_iff.1 h1
  obtain⟨q1,q2,_⟩:=zc0 hc
  have p:=zzi q1 hk
  have q:=(zah q1).2.2.2.2.2.2.1
  have:cnt [] d.seen d.by_=0:=rfl
  omega
 exact zov b off len cap l d number w h1 (by omega) hr h2 ht hk hc hnum
theorem zz8(l:List Ch)(d:Dd)(number:Int)(v:Value)(w:World)(h:Lst w v l)(hl:l.length<=1000)(ht:zi2 l)(hm:zha l d≠0):
 Calls Tryz.prog 103 #[v,ddV d,.int .i64 number] w fun e w'=>e= .returned (.tuple #[.slice none 0 0,.int .i64 (zha l d)])/\Below w.heap.size w w':=by
 have HI:=hid (zdb (d:=d) h)
 have hne:(zha l d != 0)=true:=by simp[hm]
 obtain⟨kind,by_,no,seen,at_,many,text⟩:=d
 clear h hm
 go_enter Tryz.func103,Tryz.ntmps103
 go_wp2_with fail
 refine(zlf l ⟨kind,by_,no,seen,at_,many,text⟩ v _ HI.out.lst hl ht).mono ?_
 rintro e w1 ⟨rfl,hb⟩
 have HI1:Hid _:=HI.out.after hb
 clear hb HI
 generalize hc:zha l ⟨kind,by_,no,seen,at_,many,text⟩=c at*
 have HC:=hid hc
 clear hc
 go_wp2
 go_ret2
 exact⟨zos HC.out.symm,HI1.out.below⟩
theorem zhm(l:List Ch)(d:Dd)(number:Int)(v:Value)(w:World)(h:Lst w v l)(hl:l.length<=1000)(ht:zi2 l)(h1:1<=number)(hnum:number<=1000):
 Calls Tryz.prog 103 #[v,ddV d,.int .i64 number] w fun e w'=>∃v',e= .returned (.tuple #[v',.int .i64 (doC l d number)])/\Own w' w.heap.size v' (doR l d number)/\Below w.heap.size w w':=by
 by_cases hc:doC l d number=0
 ·have hR:doR l d number=doL l d number:=by rw[doR,if_pos hc]
  rw[hR,hc]
  by_cases hk:d.kind=1
  ·exact zua l d number v w h hl ht hk hc
  exact qax l d number v w h hl ht hk hc hnum
 have hm:zha l d≠0:=fun e=>hc (by rw[doC,if_neg (fun x=>x e),if_neg (by omega)])
 refine(zz8 l d number v w h hl ht hm).mono ?_
 rintro e w' ⟨rfl,hb⟩
 exact⟨_,zos (zxv hm).symm,by rw[doR,if_neg hc];exact zd6 _ _,hb⟩
theorem zm4(l:List Ch)(d:Dd)(v:Value)(w:World)(h:Lst w v l)(hl:l.length<=1000)(ht:zi2 l):
 Calls Tryz.prog 103 #[v,ddV d,.int .i64 1073741824] w fun e w'=>∃v',e= .returned (.tuple #[v',.int .i64 (doC l d za3)])/\Own w' w.heap.size v' (doR l d za3)/\Below w.heap.size w w':=by
 by_cases hc:doC l d za3=0
 ·have hR:doR l d za3=doL l d za3:=by rw[doR,if_pos hc]
  rw[hR,hc]
  by_cases hk:d.kind=1
  ·exact zua l d za3 v w h hl ht hk hc
  obtain⟨a,len,cap,rfl,h1,h2,h3⟩:=h
  rcases h3 with rfl|⟨b,off,rfl,hr⟩
  ·exfalso
   obtain rfl:l=[]:=List.length_eq_zero_iff.1 h1
   obtain⟨q1,q2,_⟩:=zc0 hc
   have p:=zzi q1 hk
   have q:=(zah q1).2.2.2.2.2.2.1
   have:cnt [] d.seen d.by_=0:=rfl
   omega
  exact zow b off len cap l d w h1 (by omega) hr h2 ht hk hc
 have hm:zha l d≠0:=fun e=>hc (by rw[doC,if_neg (fun x=>x e),if_neg (by decide)])
 refine(zz8 l d za3 v w h hl ht hm).mono ?_
 rintro e w' ⟨rfl,hb⟩
 exact⟨_,zos (zxv hm).symm,by rw[doR,if_neg hc];exact zd6 _ _,hb⟩
theorem qa1{R:Ending->World->Prop}{a:Act}{c f:Int}(h:zo1 w B c f)(h2:a.tmps.getD 2 undef=v)(h3:a.tmps.getD 3 undef= .pointer (some ⟨B,0,none⟩))(hd:a.defers=[])
 (hR:R (.returned (.tuple #[v,ftV c f])) w):bodyPost Tryz.prog Tryz.f60 R Exit.ret a w:=by
 refine bodyPost_ret ?_ hd hR
 rw[ziq rfl,h2,h3]
 simp[asAddr,zsn h]
theorem zub(a:Option Addr)(cap:Nat)(w:World):
 Calls Tryz.prog 60 #[.slice a 0 cap] w fun e w'=>e= .returned (.tuple #[.slice none 0 0,ftV 0 0])/\Below w.heap.size w w':=by
 go_enter Tryz.func60,Tryz.ntmps60
 go_wp2
 refine wp_loop_rounds 1 ?_
 rw[rounds_succ]
 go_wp2
 exact qa1 (zf3 w 0 0) rfl rfl rfl ⟨rfl,(Below.refl _ _).alloc (Nat.le_refl _) _⟩
def zvv(l:List Ch)(i:Nat)(ds all:List Dd):Prop:=qc9 l i ds all/\zi2 l
theorem zwf(h:zvv l i (d::r) all)(h0:(zh6 [] 0 all).2.1=0):doC l d (i+1)=0:=by
 by_cases hc:doC l d ((i:Int)+1)=0
 ·exact hc
 rw[qdx h.1 hc]at h0
 exact absurd h0 hc
theorem zwe(h:zvv l i (d::r) all)(hc:doC l d (i+1)=0)(hi:i<1000):zvv (doL l d (i+1)) (i+1) r all:=
 ⟨qas h.1 hc,tame_do h.2 (zc0 hc).1 (by omega) (by omega)⟩
theorem zwr(b off len cap:Nat)(ds:List Dd)(w:World)(hl:ds.length=len)(hm:len<=1000)(hr:zyc w b off ds)(h0:(zh6 [] 0 ds).2.1=0):
 Calls Tryz.prog 60 #[.slice (some ⟨b,off,none⟩) len cap] w fun e w'=>
  ∃v',e= .returned (.tuple #[v',ftV 0 0])/\Own w' w.heap.size v' (zh6 [] 0 ds).1/\Below w.heap.size w w':=by
 have HR:=hid hr
 have HL:=hid hl
 have HZ:=hid h0
 have hb:=hr.lt
 clear hr hl h0
 go_enter Tryz.func60,Tryz.ntmps60
 go_wp2
 go_loopw [4,5] (fun v i wr=>∃(k:Nat) (l:List Ch),k<=len/\i= .int .i64 k/\Hid (zvv l k (ds.drop k) ds)/\Hid (Own wr (w.heap.size+1) v l)/\Hid (AInv w wr)) (fun _ i _=>len-(intOf i).toNat)
 case atStart=>exact⟨0,[],Nat.zero_le _,rfl,⟨zoh ds,tame_nil⟩,zd6 _ _,⟨Below.refl _ _⟩⟩
 obtain⟨k,l,hk,rfl,HS,HV,HA⟩:=hrel
 by_cases hlt:k<len
 ·have hkl:k<ds.length:=by rw[HL.out];exact hlt
  obtain⟨_,g0,g1,g2,g3,g4,g5,g6⟩:=(HR.out.below HA.out.old).at_ k hkl
  have HX:=hid (List.drop_eq_getElem_cons hkl)
  generalize ds[k]=d at g0 g1 g2 g3 g4 g5 g6 HX
  rw[HX.out]at HS
  have HC:=hid (zwf HS.out HZ.out)
  have HN:Hid (zvv (doL l d ((k:Int)+1)) (k+1) (ds.drop (k+1)) ds):=zwe HS.out HC.out (by omega)
  obtain⟨kind,by_,no,seen,at_,many,text⟩:=d
  simp only at g0 g1 g2 g3 g4 g5 g6
  go_wp2_with fail
  clear g0 g1 g2 g3 g4 g5 g6
  refine(zhm l ⟨kind,by_,no,seen,at_,many,text⟩ ((k:Int)+1) _ _ HV.out.lst (by have:=HS.out.1.1.len;omega) HS.out.2 (by omega) (by omega)).mono ?_
  rintro e w1 ⟨v1,rfl,hL,hb1⟩
  rw[doR,if_pos HC.out]at hL
  rw[HC.out]
  have HV1:Hid (Own w1 (w.heap.size+1) v1 _):=hL.mono (by have:=HA.out.below.size;simp at this⊢;omega)
  have HA1:=hid (HA.out.after hb1)
  clear hL hb1 HA HV
  go_wp2
  go_roundw
  case rel=>exact⟨k+1,_,by omega,by go_num,HN,HV1,HA1⟩
  case measure=>simp[intOf];omega
 obtain rfl:k=len:=by omega
 have HE:Hid (ds.drop k=[]):=List.drop_eq_nil_of_le (by rw[HL.out];exact Nat.le_refl _)
 rw[HE.out]at HS
 have HN:=hid (qdw HS.out.1)
 obtain⟨c0,c1,f0,f1⟩:=HA.out.two
 go_wp2
 refine qa1 (v:=_) (HA.out.two.put 0 0) rfl rfl rfl ?_
 rw[HN.out]
 have HB2:Hid _:=zhz HA.out.old (Nat.le_refl _) 0 0
 refine⟨_,rfl,?_,HB2.out⟩
 exact Own.mono (ownsRow_setCell_below (ownsRow_setCell_below HV.out (a:=⟨w.heap.size,0,none⟩) (Nat.lt_succ_self _) _) (a:=⟨w.heap.size,1,none⟩) (Nat.lt_succ_self _) _) (by omega)
theorem zqw{ds:List Dd}(h:zpw w v ds)(hm:ds.length<=1000)(h0:(zh6 [] 0 ds).2.1=0):
 Calls Tryz.prog 60 #[v] w fun e w'=>∃v',e= .returned (.tuple #[v',ftV 0 0])/\Own w' w.heap.size v' (zh6 [] 0 ds).1/\Below w.heap.size w w':=by
 obtain⟨a,len,cap,rfl,h1,h2,h3⟩:=h
 rcases h3 with rfl|⟨b,off,rfl,hr⟩
 ·obtain rfl:ds=[]:=List.length_eq_zero_iff.1 h1
  refine(zub a cap w).mono ?_
  rintro e w' ⟨rfl,hb⟩
  exact⟨_,rfl,zd6 _ _,hb⟩
 exact zwr b off len cap ds w h1 (by omega) hr h0
theorem zk3{base:Nat}{S:Nat->Prop}{dv:Value}{b:Bk}(h:zb5 w base S B dv b)(hg:zct b):
 Calls Tryz.prog 39 #[.pointer (some ⟨B,0,none⟩)] w fun e w'=>∃v',e= .returned v'/\Own w' w.heap.size v' b.chars/\Below w.heap.size w w':=by
 have c0:=h.cells.deeds
 have hlt:=h.cells.lt
 have HD:=hid h.ownD.dlst
 have HS:Hid (b.ds.length<=1000):=by have:=hg.small;show _<=_;omega
 clear h
 go_enter Tryz.func39,Tryz.ntmps39
 go_wp2_with fail
 refine(zqw HD.out HS.out hg.all0).mono ?_
 rintro e w1 ⟨v1,rfl,ho,hb⟩
 have HO:=hid ho
 have HB:=hid hb
 clear ho hb c0
 go_wp2
 go_ret
 exact⟨v1,rfl,HO.out.below ((Below.refl _ _).alloc (Nat.le_refl _) _),HB.out.alloc HB.out.size _⟩
theorem zqn(h:Lst w v l)(hl:l.length<=1000)(ht:zi2 l):
 Calls Tryz.prog 38 #[v] w fun e w'=>e= .returned (.string (strOfNums (vw l 1073741823 (-1))))/\Below w.heap.size w w':=by
 go_enter Tryz.func38,Tryz.ntmps38
 go_wp2_with (go_at_call 58;refine(zki h hl ht _ _).mono ?_;rintro e w' ⟨rfl,hb⟩)
 go_ret
 exact⟨rfl,hb⟩
variable {n:Int} {b:Bk} {w w':World} {B base:Nat} {dv:Value} {S:Nat->Prop}
theorem zc1(h:wrB n=true):∃j:Nat,n=j/\j<4:=by
 have hn:0<=n/\n<=3:=by simpa [wrB]using h
 obtain⟨j,rfl⟩:=Int.eq_ofNat_of_zero_le hn.1
 exact⟨j,rfl,by omega⟩
theorem zux(h:wrB n=false):b.isHere n=false:=by rw[Bk.isHere,h];rfl
theorem zjx(h:wrB n=true):b.isHere n=b.here n:=by rw[Bk.isHere,h];rfl
theorem zcz(h:zjo w B dv b)(n:Int):
 Calls Tryz.prog 144 #[.pointer (some ⟨B,0,none⟩),.int .i64 n] w fun e w'=>e= .returned (.bool (b.isHere n))/\w'=w:=by
 cases hw:wrB n
 ·have HE:Hid (b.isHere n=false):=zux hw
  clear h
  go_enter Tryz.func144,Tryz.ntmps144
  go_wp2_with (go_at_call 57;refine(za8 _ _).mono ?_;rintro e w' ⟨rfl,rfl⟩;rw[hw])
  go_ret
  exact⟨zbf HE.out.symm,rfl⟩
 have HE:Hid (b.isHere n=b.here n):=zjx hw
 obtain⟨j,rfl,hj⟩:=zc1 hw
 have c1:=h.here j hj
 have hlt:=h.lt
 clear h
 go_enter Tryz.func144,Tryz.ntmps144
 go_wp2_with (go_at_call 57;refine(za8 _ _).mono ?_;rintro e w' ⟨rfl,rfl⟩;rw[hw])
 go_ret
 exact⟨zbf HE.out.symm,rfl⟩
def zbh(b:Bk):Nat->Int
 | 0=>b.len
 |k+1=>zan b (zbh b k) k
theorem zn1(b:Bk):zbh b 4=zap b:=rfl
theorem zmc{b:Bk}(h:zct b):∀k,0<=zbh b k/\zbh b k<=120
 | 0=>by
  have:=h.small
  show 0<=b.len/\b.len<=120
  have e:b.len=(b.ds.length:Int):=rfl
  omega
 |k+1=>by
  have h1:=zmc h k
  have h2:=h.said k
  show 0<=zan b (zbh b k) k/\zan b (zbh b k) k<=120
  unfold zan
  split<;>omega
theorem zfx.len{v:Value}{l:List Dd}(h:zfx w base v l):∃a cap,v= .slice a l.length cap:=by
 rcases h.2 with⟨rfl,hn⟩|⟨g,cap,cur,rfl,_⟩
 ·exact⟨none,0,by rw[hn]⟩
 exact⟨_,cap,rfl⟩
theorem zzo(h:zb5 w base S B dv b)(hg:zct b):
 Calls Tryz.prog 44 #[.pointer (some ⟨B,0,none⟩)] w fun e w'=>e= .returned (.int .i64 (zap b))/\w'=w:=by
 have HC:=hid h.cells
 have c0:=h.cells.deeds
 have hlt:=h.cells.lt
 have HG:=hid hg
 obtain⟨a,cap,rfl⟩:=h.ownD.len
 clear h hg
 go_enter Tryz.func44,Tryz.ntmps44
 go_wp2
 clear c0
 go_loop [3,4] (fun n i=>∃k:Nat,k<=4/\i= .int .i64 k/\n= .int .i64 (zbh b k)) (fun _ i=>4-(intOf i).toNat)
 case atStart=>exact⟨0,by omega,rfl,rfl⟩
 obtain⟨k,hk,rfl,rfl⟩:=hrel
 have hb:=zmc HG.out k
 obtain⟨hb0,hb1⟩:=hb
 by_cases hlt4:k<4
 ·have c1:=HC.out.here k hlt4
  have c3:=HC.out.said k hlt4
  have HN:Hid (zbh b (k+1)=if b.here k=true/\b.said k<zbh b k then b.said k else zbh b k):=rfl
  generalize zbh b k=n at*
  cases hh:b.here k
  ·rw[hh]at c1
   have HN2:Hid (zbh b (k+1)=n):=by show _=_;rw[HN.out,if_neg (by simp[hh])]
   clear hh HN
   go_wp2
   go_round
   case rel=>exact⟨k+1,by omega,by go_num,by rw[HN2.out]⟩
   case measure=>simp[intOf];omega
  rw[hh]at c1
  by_cases hs:b.said k<n
  ·have HN2:Hid (zbh b (k+1)=b.said k):=by show _=_;rw[HN.out,if_pos ⟨hh,hs⟩]
   clear hh HN
   go_wp2
   go_round
   case rel=>exact⟨k+1,by omega,by go_num,by rw[HN2.out]⟩
   case measure=>simp[intOf];omega
  have HN2:Hid (zbh b (k+1)=n):=by show _=_;rw[HN.out,if_neg (fun e=>hs e.2)]
  clear hh HN
  go_wp2
  go_round
  case rel=>exact⟨k+1,by omega,by go_num,by rw[HN2.out]⟩
  case measure=>simp[intOf];omega
 obtain rfl:k=4:=by omega
 go_wp2
 go_ret
 exact⟨zae (zn1 b),rfl⟩
theorem zjo.setHere(h:zjo w B dv b){j:Nat}(hj:j<4)(x:Bool):zjo (w.setCell ⟨B,1+j,none⟩ (.bool x)) B dv ⟨b.ds,zai b.here j x,b.last,b.said⟩:=by
 have h0:=h.deeds
 refine⟨by simpa using h.lt,by simp[go_sem,h0],fun i hi=> ?_,fun i hi=> ?_,fun i hi=> ?_,fun o ho=> ?_⟩
 ·have h1:=h.here i hi
  by_cases e:i=j
  ·subst e
   simp[go_sem,h1,zai]
  have e1:¬(i:Int)=(j:Int):=by omega
  simp[go_sem,h1,zai,e1]
 ·have h1:=h.last i hi
  simp[go_sem,h1]
 ·have h1:=h.said i hi
  simp[go_sem,h1]
 simpa [go_sem]using h.free o ho
theorem zjo.setLast(h:zjo w B dv b){j:Nat}(hj:j<4)(x:Int):zjo (w.setCell ⟨B,5+j,none⟩ (.int .i64 x)) B dv ⟨b.ds,b.here,zai b.last j x,b.said⟩:=by
 have h0:=h.deeds
 refine⟨by simpa using h.lt,by simp[go_sem,h0],fun i hi=> ?_,fun i hi=> ?_,fun i hi=> ?_,fun o ho=> ?_⟩
 ·have h1:=h.here i hi
  simp[go_sem,h1]
 ·have h1:=h.last i hi
  by_cases e:i=j
  ·subst e
   simp[go_sem,h1,zai]
  have e1:¬(i:Int)=(j:Int):=by omega
  simp[go_sem,h1,zai,e1]
 ·have h1:=h.said i hi
  simp[go_sem,h1]
 simpa [go_sem]using h.free o ho
theorem zjo.setSaid(h:zjo w B dv b){j:Nat}(hj:j<4)(x:Int):zjo (w.setCell ⟨B,9+j,none⟩ (.int .i64 x)) B dv ⟨b.ds,b.here,b.last,zai b.said j x⟩:=by
 have h0:=h.deeds
 refine⟨by simpa using h.lt,by simp[go_sem,h0],fun i hi=> ?_,fun i hi=> ?_,fun i hi=> ?_,fun o ho=> ?_⟩
 ·have h1:=h.here i hi
  simp[go_sem,h1]
 ·have h1:=h.last i hi
  simp[go_sem,h1]
 ·have h1:=h.said i hi
  by_cases e:i=j
  ·subst e
   simp[go_sem,h1,zai]
  have e1:¬(i:Int)=(j:Int):=by omega
  simp[go_sem,h1,zai,e1]
 simpa [go_sem]using h.free o ho
structure zeu(w:World)(base:Nat)(S:Nat->Prop)(B:Nat)(b':Bk)(w':World):Prop where
 at_:∃dv,zb5 w' base (grow S w w') B dv b'
 kept:zam S w w'
theorem zb5.grow{w w':World}{base B:Nat}{S:Nat->Prop}{dv:Value}{b:Bk}(h:zb5 w' base S B dv b)(hb:base<=w.heap.size):zb5 w' base (grow S w w') B dv b:=
 ⟨fun k hs=>hs.elim (h.lo k) (fun e=>⟨by omega,e.2⟩),.inl h.hB,h.cells,h.ownD,fun k e=>⟨.inl (h.dB k e).1,(h.dB k e).2⟩⟩
theorem zb5.base_le(h:zb5 w base S B dv b):base<=w.heap.size:=by
 have:=h.lo B h.hB
 omega
theorem zb5.stay(h:zb5 w base S B dv b)(hb:Below w.heap.size w w'):zeu w base S B b w':=
 ⟨⟨dv,(h.below hb).grow h.base_le⟩,.of_below hb⟩
theorem zb5.wrote{b':Bk}(h:zb5 w base S B dv b)(hk:zam (fun k=>k=B) w w')(hs:w'.heap.size=w.heap.size)(hc:zjo w' B dv b')(hd:b'.ds=b.ds):zeu w base S B b' w':=by
 have hblk:∀k,k≠B->w'.heap[k]? =w.heap[k]? :=fun k hkB=>by
  by_cases hlt:k<w.heap.size
  ·exact hk.block k hlt hkB
  rw[Array.getElem?_eq_none (by omega),Array.getElem?_eq_none (by omega)]
 refine⟨⟨dv,(h.cells_of hblk hk.size hc hd).grow h.base_le⟩,⟨hk.os,hk.tape,hk.output,hk.size,fun k hk' hS=>hblk k (fun e=>hS (by rw[e];exact h.hB))⟩⟩
theorem zjw(w:World)(B o:Nat)(u:Value):zam (fun k=>k=B) w (w.setCell ⟨B,o,none⟩ u):=zam.set (S:=fun k=>k=B) (zam.refl _ w) (p:=⟨B,o,none⟩) rfl u
theorem zuu(h:zam (fun k=>k=B) w w')(o:Nat)(u:Value):zam (fun k=>k=B) w (w'.setCell ⟨B,o,none⟩ u):=zam.set (S:=fun k=>k=B) h (p:=⟨B,o,none⟩) rfl u
theorem zb5.mono{T:Nat->Prop}(h:zb5 w base S B dv b)(hT:∀k,S k->T k)(hl:∀k,T k->base<=k/\k<w.heap.size):zb5 w base T B dv b:=
 ⟨hl,hT _ h.hB,h.cells,h.ownD,fun k e=>⟨hT k (h.dB k e).1,(h.dB k e).2⟩⟩
theorem zeu.after{w w' w'':World}{base B:Nat}{S:Nat->Prop}{b:Bk}(h:zeu w base S B b w')(hb:Below w'.heap.size w' w''):zeu w base S B b w'':=by
 obtain⟨⟨dv,hat⟩,hk⟩:=h
 have hlo:=hat.lo
 refine⟨⟨dv,(hat.below hb).mono (fun k hk=>hk.elim .inl (fun e=> .inr ⟨e.1,Nat.lt_of_lt_of_le e.2 hb.size⟩)) (fun k hk'=> ?_)⟩,hk.after hb⟩
 rcases hk' with e|e
 ·have:=hlo k (.inl e)
  have:=hb.size
  omega
 have:=hat.base_le
 have h1:=hk.size
 have h2:base<=w.heap.size\/w.heap.size<base:=by omega
 rcases h2 with h2|h2
 ·omega
 by_cases h3:k<w'.heap.size
 ·have:=hlo k (.inr ⟨e.1,h3⟩)
  omega
 omega
theorem zdy{a b a' b':Int}(h:a=a')(h2:b=b'):Ending.returned (.tuple #[.int .i64 a,.int .i64 b])= .returned (.tuple #[.int .i64 a',.int .i64 b']):=by rw[h,h2]
theorem zp1(b:Bk)(n:Int):(b.isHere n=true/\zlg b n=0)\/(b.isHere n=false/\zlg b n=5):=by
 unfold zlg
 cases h:b.isHere n
 ·exact .inr ⟨rfl,if_neg (by simp)⟩
 exact .inl ⟨rfl,if_pos rfl⟩
theorem leave_bk(h:zb5 w base S B dv b)(n:Int):
 Calls Tryz.prog 145 #[.pointer (some ⟨B,0,none⟩),.int .i64 n] w fun e w'=>e= .returned (.int .i64 (zlg b n))/\zeu w base S B (zcp b n) w':=by
 have HA:=hid h
 rcases zp1 b n with⟨hh,hcd⟩|⟨hh,hcd⟩
 ·have HCD:=hid hcd
  have HB:Hid (zcp b n=⟨b.ds,zai b.here n false,b.last,b.said⟩):=by show zcp b n=_;rw[zcp,if_pos hcd]
  obtain⟨hw,_⟩:=zad hh
  obtain⟨j,rfl,hj⟩:=zc1 hw
  have c1:=h.cells.here j hj
  have f1:=h.cells.free (1+j) (by omega)
  have hlt:=h.cells.lt
  have HC:=hid (h.cells.setHere hj false)
  clear h hcd
  go_enter Tryz.func145,Tryz.ntmps145
  go_wp2_with (go_at_call 144;refine(zcz HA.out.cells _).mono ?_;rintro e w' ⟨rfl,rfl⟩;rw[hh])
  go_ret
  exact⟨zae HCD.out.symm,by rw[HB.out];exact HA.out.wrote (zjw _ _ _ _) (by simp[World.setCell]) HC.out rfl⟩
 have HCD:=hid hcd
 have HB:Hid (zcp b n=b):=zzm (by rw[hcd];decide)
 clear h hcd
 go_enter Tryz.func145,Tryz.ntmps145
 go_wp2_with (go_at_call 144;refine(zcz HA.out.cells _).mono ?_;rintro e w' ⟨rfl,rfl⟩;rw[hh])
 go_ret
 exact⟨zae HCD.out.symm,by rw[HB.out];exact HA.out.stay (Below.refl _ _)⟩
theorem zqv(b:Bk)(n seen:Int):(b.isHere n=false/\ze2 b n seen=5)\/(b.isHere n=true/\seen<b.said n/\ze2 b n seen=8)\/(b.isHere n=true/\b.said n<=seen/\b.len<seen/\ze2 b n seen=8)\/(b.isHere n=true/\b.said n<=seen/\seen<=b.len/\ze2 b n seen=0):=by
 unfold ze2
 cases h:b.isHere n
 ·exact .inl ⟨rfl,if_pos rfl⟩
 rw[if_neg (by simp)]
 by_cases h1:seen<b.said n
 ·exact .inr (.inl ⟨rfl,h1,if_pos (.inl h1)⟩)
 by_cases h2:b.len<seen
 ·exact .inr (.inr (.inl ⟨rfl,by omega,h2,if_pos (.inr h2)⟩))
 exact .inr (.inr (.inr ⟨rfl,by omega,by omega,if_neg (by omega)⟩))
theorem says_bk(h:zb5 w base S B dv b)(n seen:Int):
 Calls Tryz.prog 99 #[.pointer (some ⟨B,0,none⟩),.int .i64 n,.int .i64 seen] w fun e w'=>e= .returned (.int .i64 (ze2 b n seen))/\zeu w base S B (zd5 b n seen) w':=by
 have HA:=hid h
 obtain⟨a,cap,rfl⟩:=h.ownD.len
 have hlen:b.len=(b.ds.length:Int):=rfl
 rcases zqv b n seen with⟨hh,hcd⟩|⟨hh,h1,hcd⟩|⟨hh,h1,h2,hcd⟩|⟨hh,h1,h2,hcd⟩
 ·have HCD:=hid hcd
  have HB:Hid (zd5 b n seen=b):=zoq (by rw[hcd];decide)
  clear h hcd
  go_enter Tryz.func99,Tryz.ntmps99
  go_wp2_with (go_at_call 144;refine(zcz HA.out.cells _).mono ?_;rintro e w' ⟨rfl,rfl⟩;rw[hh])
  go_ret
  exact⟨zae HCD.out.symm,by rw[HB.out];exact HA.out.stay (Below.refl _ _)⟩
 ·have HCD:=hid hcd
  have HB:Hid (zd5 b n seen=b):=zoq (by rw[hcd];decide)
  obtain⟨hw,_⟩:=zad hh
  obtain⟨j,rfl,hj⟩:=zc1 hw
  have c0:=h.cells.deeds
  have c3:=h.cells.said j hj
  have hlt:=h.cells.lt
  clear h hcd
  go_enter Tryz.func99,Tryz.ntmps99
  go_wp2_with (go_at_call 144;refine(zcz HA.out.cells _).mono ?_;rintro e w' ⟨rfl,rfl⟩;rw[hh])
  go_ret
  exact⟨zae HCD.out.symm,by rw[HB.out];exact HA.out.stay (Below.refl _ _)⟩
 ·have HCD:=hid hcd
  have HB:Hid (zd5 b n seen=b):=zoq (by rw[hcd];decide)
  obtain⟨hw,_⟩:=zad hh
  obtain⟨j,rfl,hj⟩:=zc1 hw
  have c0:=h.cells.deeds
  have c3:=h.cells.said j hj
  have hlt:=h.cells.lt
  rw[hlen]at h2
  clear h hcd hlen
  go_enter Tryz.func99,Tryz.ntmps99
  go_wp2_with (go_at_call 144;refine(zcz HA.out.cells _).mono ?_;rintro e w' ⟨rfl,rfl⟩;rw[hh])
  go_ret
  exact⟨zae HCD.out.symm,by rw[HB.out];exact HA.out.stay (Below.refl _ _)⟩
 have HCD:=hid hcd
 have HB:Hid (zd5 b n seen=⟨b.ds,b.here,b.last,zai b.said n seen⟩):=by show zd5 b n seen=_;rw[zd5,if_pos hcd]
 obtain⟨hw,_⟩:=zad hh
 obtain⟨j,rfl,hj⟩:=zc1 hw
 have c0:=h.cells.deeds
 have c3:=h.cells.said j hj
 have f3:=h.cells.free (9+j) (by omega)
 have hlt:=h.cells.lt
 have HC:=hid (h.cells.setSaid hj seen)
 rw[hlen]at h2
 clear h hcd hlen
 go_enter Tryz.func99,Tryz.ntmps99
 go_wp2_with (go_at_call 144;refine(zcz HA.out.cells _).mono ?_;rintro e w' ⟨rfl,rfl⟩;rw[hh])
 go_ret
 exact⟨zae HCD.out.symm,by rw[HB.out];exact HA.out.wrote (zjw _ _ _ _) (by simp[World.setCell]) HC.out rfl⟩
theorem zr6(b:Bk)(n:Int):(wrB n=false/\zde b n=1)\/(wrB n=true/\b.here n=true/\zde b n=6)\/(wrB n=true/\b.here n=false/\zde b n=0):=by
 unfold zde
 cases h:wrB n
 ·exact .inl ⟨rfl,if_pos rfl⟩
 rw[if_neg (by simp)]
 cases h2:b.here n
 ·exact .inr (.inr ⟨rfl,rfl,if_neg (by simp)⟩)
 exact .inr (.inl ⟨rfl,rfl,if_pos rfl⟩)
theorem qfg(h:zb5 w base S B dv b)(hg:zct b)(n:Int):
 Calls Tryz.prog 92 #[.pointer (some ⟨B,0,none⟩),.int .i64 n] w fun e w'=>e= .returned (.tuple #[.int .i64 (zey b n),.int .i64 (zde b n)])/\zeu w base S B (zc4 b n) w':=by
 have HA:=hid h
 obtain⟨a,cap,rfl⟩:=h.ownD.len
 rcases zr6 b n with⟨hw,hcd⟩|⟨hw,hh,hcd⟩|⟨hw,hh,hcd⟩
 ·have HCD:=hid hcd
  have HN:Hid (zey b n=0):=by show zey b n=0;rw[zey,if_neg (by rw[hcd];decide)]
  have HB:Hid (zc4 b n=b):=zme (by rw[hcd];decide)
  clear h hcd
  go_enter Tryz.func92,Tryz.ntmps92
  go_wp2_with (go_at_call 57;refine(za8 _ _).mono ?_;rintro e w' ⟨rfl,rfl⟩;rw[hw])
  go_ret2
  exact⟨zdy HN.out.symm HCD.out.symm,by rw[HB.out];exact HA.out.stay (Below.refl _ _)⟩
 ·have HCD:=hid hcd
  have HN:Hid (zey b n=0):=by show zey b n=0;rw[zey,if_neg (by rw[hcd];decide)]
  have HB:Hid (zc4 b n=b):=zme (by rw[hcd];decide)
  obtain⟨j,rfl,hj⟩:=zc1 hw
  have c1:=h.cells.here j hj
  have hlt:=h.cells.lt
  rw[hh]at c1
  clear h hcd
  go_enter Tryz.func92,Tryz.ntmps92
  go_wp2_with (go_at_call 57;refine(za8 _ _).mono ?_;rintro e w' ⟨rfl,rfl⟩;rw[hw])
  go_ret2
  exact⟨zdy HN.out.symm HCD.out.symm,by rw[HB.out];exact HA.out.stay (Below.refl _ _)⟩
 have HCD:=hid hcd
 have HN:Hid (zey b n=b.last n+1):=by show zey b n=_;rw[zey,if_pos hcd]
 have HB:Hid (zc4 b n=⟨b.ds,zai b.here n true,b.last,zai b.said n b.len⟩):=by show zc4 b n=_;rw[zc4,if_pos hcd]
 obtain⟨hl0,hl1⟩:=zb2 hg n
 have hl2:b.len<=120:=by have:=hg.small;show(b.ds.length:Int)<=120;omega
 obtain⟨j,rfl,hj⟩:=zc1 hw
 have c0:=h.cells.deeds
 have c1:=h.cells.here j hj
 have c2:=h.cells.last j hj
 have c3:=h.cells.said j hj
 have f1:=h.cells.free (1+j) (by omega)
 have f3:=h.cells.free (9+j) (by omega)
 have hlt:=h.cells.lt
 have HC:Hid (zjo ((w.setCell ⟨B,1+j,none⟩ (.bool true)).setCell ⟨B,9+j,none⟩ (.int .i64 b.ds.length)) B (.slice a b.ds.length cap) ⟨b.ds,zai b.here j true,b.last,zai b.said j b.len⟩):=(h.cells.setHere hj true).setSaid hj _
 rw[hh]at c1
 generalize b.last j=m at*
 clear h hcd hg
 go_enter Tryz.func92,Tryz.ntmps92
 go_wp2_with (go_at_call 57;refine(za8 _ _).mono ?_;rintro e w' ⟨rfl,rfl⟩;rw[hw])
 go_region
 all_goals
  go_wp2
  go_ret2
  exact⟨zdy HN.out.symm HCD.out.symm,by rw[HB.out];exact(HA.out.wrote (zuu (zjw _ _ _ _) _ _) (by simp[World.setCell]) HC.out rfl).after (Below.refl _ _).drew⟩
end Go.Proofs.YtcbnnfeelhlapadGreatDoor