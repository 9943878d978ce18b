/-
  The contract of fold.take.
-/
import Derived.Test.YtcbnnfeelhlapadGreatDoorFPut
import Derived.Test.YtcbnnfeelhlapadGreatDoorFTakeP
namespace Go.Proofs.YtcbnnfeelhlapadGreatDoor
set_option maxHeartbeats 800000
set_option maxRecDepth 20000
open Go.RowKit
structure zt6(w:World)(d:Dd)(lv:Value)(L:List Ch)(wk:World):Prop where
 below:Below (w.alloc (zcc d)).heap.size (w.alloc (zcc d)) wk
 own:Own wk (w.alloc (zcc d)).heap.size lv L
theorem zt6.minv{w wk:World}{d:Dd}{v lv:Value}{l L:List Ch}(h:zt6 w d lv L wk)(h0:Lst w v l):zgc w w.heap.size d v l wk:=(zdb h0).after h.below
theorem zt6.after{w wk w':World}{d:Dd}{lv:Value}{L:List Ch}(h:zt6 w d lv L wk)(hb:Below wk.heap.size wk w'):zt6 w d lv L w':=
 ⟨bla h.below hb,h.own.below hb⟩
theorem zt6.drew{w wk:World}{d:Dd}{lv:Value}{L:List Ch}(h:zt6 w d lv L wk):zt6 w d lv L wk.drew:=h.after (Below.refl _ _).drew
theorem sees_t{w wk:World}{d:Dd}{lv:Value}{L:List Ch}(h:zt6 w d lv L wk)(x:Ch)(seen by_:Int):
 Calls Tryz.prog 185 #[chV x,.int .i64 seen,.int .i64 by_] wk fun e w'=>e= .returned (.bool (za5 seen by_ x))∧zt6 w d lv L w':=
 (zjq x seen by_ wk).mono fun _ _ ⟨he,hb⟩=>⟨he,h.after hb⟩
theorem Lst.nth{wk:World}{b off cap n:Nat}{l:List Ch}(h:Lst wk (.slice (some ⟨b,off,none⟩) n cap) l){k:Nat}(hk:k<l.length):At wk b (off+k*7) l[k]:=by
 obtain⟨a',len',cap',he,h1,h2,h3⟩:=h
 simp only[Value.slice.injEq]at he
 obtain⟨rfl,rfl,rfl⟩:=he
 rcases h3 with h3|⟨b',off',h3,hr⟩
 ·omega
 ·cases h3
  exact hr.at_ k hk
theorem Lst.place{wk:World}{v:Value}{l:List Ch}(h:Lst wk v l)(hk:0<l.length):∃b off cap,v= .slice (some ⟨b,off,none⟩) l.length cap:=by
 obtain⟨a',len',cap',rfl,rfl,h2,h3⟩:=h
 rcases h3 with h3|⟨b',off',rfl,hr⟩
 ·omega
 ·exact⟨b',off',cap',rfl⟩
theorem Own.place{wk:World}{base:Nat}{v:Value}{l:List Ch}(h:Own wk base v l)(hk:0<l.length):∃g cap,v= .slice (some ⟨g,0,none⟩) l.length cap:=by
 obtain⟨_,h2⟩:=h
 rcases h2 with⟨_,hn⟩|⟨g,cap,cur,rfl,_⟩
 ·omega
 ·exact⟨g,cap,rfl⟩
theorem zt6.set{w wk:World}{g n cap:Nat}{d:Dd}{L:List Ch}(h:zt6 w d (.slice (some ⟨g,0,none⟩) n cap) L wk){k:Nat}(hk:k<L.length)(hn:L.length=n)(y:Ch):
 zt6 w d (.slice (some ⟨g,0,none⟩) n cap) (L.set k y) (((((((wk.setCell ⟨g,k*7,none⟩ (.int .u8 y.c)).setCell ⟨g,k*7+1,none⟩ (.int .i64 y.by_)).setCell ⟨g,k*7+2,none⟩ (.int .i64 y.no)).setCell ⟨g,k*7+3,none⟩ (.int .i64 y.k)).setCell ⟨g,k*7+4,none⟩ (.int .i64 y.inn)).setCell ⟨g,k*7+5,none⟩ (.int .i64 y.out)).setCell ⟨g,k*7+6,none⟩ (.int .i64 y.gone)):=by
 obtain⟨hb,ho⟩:=h
 have hg:=(World.ownsRow.lt ho g rfl).1
 refine⟨?_,?_⟩
 ·exact((((((hb.setCell (p:=⟨g,_,none⟩) hg _).setCell (p:=⟨g,_,none⟩) hg _).setCell (p:=⟨g,_,none⟩) hg _).setCell (p:=⟨g,_,none⟩) hg _).setCell (p:=⟨g,_,none⟩) hg _).setCell (p:=⟨g,_,none⟩) hg _).setCell (p:=⟨g,_,none⟩) hg _
 ·unfold Own at ho⊢
  rw[List.length_set,←zz0 L k y hk,hn]
  rw[hn]at ho
  exact((((((ho.stored _ _).1.stored _ _).1.stored _ _).1.stored _ _).1.stored _ _).1.stored _ _).1.stored _ _ |>.1
theorem zgl{w:World}{base g n cap:Nat}{L:List Ch}(h:Own w base (.slice (some ⟨g,0,none⟩) n cap) L)(hn:L.length=n){j:Nat}(hj:j<n*7):(∃u,w.cell? ⟨g,j,none⟩=some u)∧w.frozen? ⟨g,j,none⟩=false:=by
 unfold Own at h
 rw[hn]at h
 exact zex h hj
theorem take_any(l:List Ch)(d:Dd)(number:Int)(v:Value)(w:World)(h:Lst w v l)(hl:l.length≤1000)(hc:za6 d=0)(hk:d.kind≠1)(hn:d.at_+d.many≤cnt l d.seen d.by_)(hf:zg7 l):
 Calls Tryz.prog 220 #[v,ddV d,.int .i64 number] w fun e w'=>∃v',e= .returned v'∧Own w' w.heap.size v' (doL l d number)∧Below w.heap.size w w':=by
 have HI:Hid _:=zdb (d:=d) h
 have H0:Hid (Lst w v l):=h
 obtain⟨ad,cap,rfl,hcap⟩:=h.len
 obtain⟨_,hwr,_,_,_,_,p1,p2,p3,p4,_,p6⟩:=zah hc
 have HD:Hid (∀p q,za8 d.seen d.by_ d.at_.toNat l=some p→za8 d.seen d.by_ (d.at_+d.many).toNat l=some q→doL l d number=zq8 d number p q 0 l):=by
  intro p q hp hq
  rw[doL,if_neg hk,zw9 p1 p3 hp hq]
 have HB0:Hid (Below w.heap.size w (w.alloc (zcc d))):=(Below.refl _ _).alloc (Nat.le_refl _) _
 obtain⟨kind,by_,no,seen,at_,many,text⟩:=d
 simp only at hn p1 p2 p3 p4 HD
 unfold zcc at HB0
 clear h hc p6
 go_enter Tryz.func220,Tryz.ntmps220
 go_wp2_with fail
 refine(zhw HI.out.lst (by omega)).mono ?_
 rintro e w1 ⟨lv,rfl,hown,hb⟩
 have HT1:Hid (zt6 w ⟨kind,by_,no,seen,at_,many,text⟩ lv l w1):=⟨hb,hown⟩
 clear hb hown HI
 obtain⟨_,c0,c1,c2,c3,c4,c5,c6⟩:=(HT1.out.minv H0.out).at_
 simp only[Nat.zero_add]at c0 c1 c2 c3 c4 c5 c6
 go_wp2_with fail
 refine(zmr (HT1.out.minv H0.out).lst hl seen by_ at_ p1 (by omega)).mono ?_
 rintro e w2 ⟨p,rfl,hp,hpl,hb⟩
 have HP:Hid _:=hp
 have HT2:Hid _:=HT1.out.after hb
 clear hb HT1 hp c0 c1 c2 c3 c4 c5 c6
 obtain⟨_,c0,c1,c2,c3,c4,c5,c6⟩:=(HT2.out.minv H0.out).at_
 simp only[Nat.zero_add]at c0 c1 c2 c3 c4 c5 c6
 go_wp2_with fail
 refine(zmr (HT2.out.minv H0.out).lst hl seen by_ (at_+many) (by omega) (by omega)).mono ?_
 rintro e w3 ⟨q,rfl,hq,hql,hb⟩
 have HF:Hid _:=HD.out p q HP.out hq
 have hpq:p≤q:=by
  rcases qed (d:=⟨kind,by_,no,seen,at_,many,text⟩) p1 p3 HP.out hq with hm|hm
  ·have hm':many=0:=hm
   rw[hm',Int.add_zero,HP.out]at hq
   exact Nat.le_of_eq (Option.some.inj hq)
  ·exact hm
 have HT3:Hid _:=HT2.out.after hb
 clear hb HT2 hq c0 c1 c2 c3 c4 c5 c6 HD
 go_wp2
 go_loopw [10] (fun i wr=>∃k:Nat,p≤k∧k≤q∧i= .int .i64 k∧Hid (zt6 w ⟨kind,by_,no,seen,at_,many,text⟩ lv (zq8 ⟨kind,by_,no,seen,at_,many,text⟩ number p k 0 l) wr)) (fun i _=>q-(intOf i).toNat)
 case atStart=>exact⟨p,Nat.le_refl _,hpq,rfl,by rw[qeq];exact HT3⟩
 case round=>
  obtain⟨k,hpk,hkq,rfl,HK⟩:=hrel
  clear HT3
  by_cases hlt:k<q
  ·have hkl:k<l.length:=by omega
   have hkI:(k:Int)<(l.length:Int):=by omega
   obtain⟨b,off,cap',hv⟩:=H0.out.place (by omega)
   simp only[Value.slice.injEq]at hv
   obtain⟨rfl,_,rfl⟩:=hv
   obtain⟨g,capL,rfl⟩:=HK.out.own.place (by rw[zdw];omega)
   rw[zdw]at*
   obtain⟨x,hx⟩:∃x,x=l[k]:=⟨_,rfl⟩
   have HX:Hid _:=hx
   have HL:Hid (∀wk,Lst wk (.slice (some ⟨b,off,none⟩) l.length cap) l→At wk b (off+k*7) x):=fun wk hh=>by rw[hx];exact hh.nth hkl
   clear hx
   go_wp2
   refine wp_region_quiet (C:=fun wk=>zt6 w ⟨kind,by_,no,seen,at_,many,text⟩ (.slice (some ⟨g,0,none⟩) l.length capL) (zq8 ⟨kind,by_,no,seen,at_,many,text⟩ number p k 0 l) wk) (by kernel_rfl) (by kernel_rfl) (HK.out.drew) ?_
   refine wpQuiet_step (fun K hK=> ?_)
   go_simp
   refine⟨_,fun _ _=>rfl,hK _ ?_⟩
   clear hK K
   refine wpQuiet_step (fun K hK=> ?_)
   go_simp
   refine⟨_,fun _ _=>rfl,hK _ ?_⟩
   clear hK K
   refine wpQuiet_step (fun K hK=> ?_)
   go_simp
   refine⟨.pointer (some ⟨b,off+k*7,none⟩),fun wk hwk=> ?_,hK _ ?_⟩
   ·go_simp
   clear hK K
   refine wpQuiet_step (fun K hK=> ?_)
   go_simp
   refine⟨chV x,fun wk hwk=> ?_,hK _ ?_⟩
   ·have hat:=HL.out wk (hwk.minv H0.out).lst
    obtain⟨g0,g1,g2,g3,g4,g5,g6⟩:=hat
    go_simp
   clear hK K
   refine wpQuiet_step (fun K hK=> ?_)
   go_simp
   refine⟨_,fun _ _=>rfl,hK _ ?_⟩
   clear hK K
   refine wpQuiet_step (fun K hK=> ?_)
   go_simp
   refine⟨.int .i64 seen,fun wk hwk=> ?_,hK _ ?_⟩
   ·obtain⟨_,c0,c1,c2,c3,c4,c5,c6⟩:=(hwk.minv H0.out).at_
    simp only[Nat.zero_add]at c0 c1 c2 c3 c4 c5 c6
    go_simp
   clear hK K
   refine wpQuiet_step (fun K hK=> ?_)
   go_simp
   refine⟨_,fun _ _=>rfl,hK _ ?_⟩
   clear hK K
   refine wpQuiet_step (fun K hK=> ?_)
   go_simp
   refine⟨.int .i64 by_,fun wk hwk=> ?_,hK _ ?_⟩
   ·obtain⟨_,c0,c1,c2,c3,c4,c5,c6⟩:=(hwk.minv H0.out).at_
    simp only[Nat.zero_add]at c0 c1 c2 c3 c4 c5 c6
    go_simp
   clear hK K
   refine wpQuiet_step (fun K hK=> ?_)
   go_simp
   refine⟨_,fun wk hwk=>sees_t hwk x _ _,hK _ ?_⟩
   clear hK K
   refine wpQuiet_nil ?_
   intro w4 hw4
   have HK4:Hid _:=hw4
   clear hw4 HK
   cases hs:za5 seen by_ x
   ·have HN:Hid _:=qep ⟨kind,by_,no,seen,at_,many,text⟩ number p k l hkl (by rw[←HX.out];exact hs)
    go_wp2
    go_roundw
    case rel=>exact⟨k+1,by omega,by omega,by go_num,by rw[←HN.out];exact HK4⟩
    case measure=>simp[intOf];omega
   ·have HN:Hid (_=_):=mixL_set ⟨kind,by_,no,seen,at_,many,text⟩ number p k l hpk hkl (by rw[←HX.out];exact hs)
    have HM:Hid (zcd x.gone by_=false):=ze5 hs
    have HG:Hid _:=hf l[k] (List.getElem_mem hkl)
    rw[←HX.out]at HG HN
    go_wp2
    refine wrs (fun wk=>zgc w w.heap.size ⟨kind,by_,no,seen,at_,many,text⟩ (.slice (some ⟨b,off,none⟩) l.length cap) l wk) (fun i=>i==9||i==11) (fun wk=>zt6 w ⟨kind,by_,no,seen,at_,many,text⟩ (.slice (some ⟨g,0,none⟩) l.length capL) (zq8 ⟨kind,by_,no,seen,at_,many,text⟩ number p k 0 l) wk) (by kernel_rfl) (by kernel_rfl) (by kernel_rfl) (fun _ h=>h.minv H0.out) HK4.out.drew ?_
    refine wss rfl (fun K hK=> ?_)
    go_simp
    refine⟨_,fun _ _=>rfl,hK _ ?_⟩
    clear hK K
    refine wss rfl (fun K hK=> ?_)
    go_simp
    refine⟨_,fun _ _=>rfl,hK _ ?_⟩
    clear hK K
    refine wss rfl (fun K hK=> ?_)
    go_simp
    refine⟨_,fun _ _=>rfl,hK _ ?_⟩
    clear hK K
    refine wss rfl (fun K hK=> ?_)
    go_simp
    refine⟨_,fun _ _=>rfl,hK _ ?_⟩
    clear hK K
    refine wss rfl (fun K hK=> ?_)
    go_simp
    refine⟨.pointer (some ⟨b,off+k*7,none⟩),fun wk hwk=> ?_,hK _ ?_⟩
    ·go_simp
    clear hK K
    refine wss rfl (fun K hK=> ?_)
    go_simp
    refine⟨chV x,fun wk hwk=> ?_,hK _ ?_⟩
    ·have hat:=HL.out wk hwk.lst
     obtain⟨g0,g1,g2,g3,g4,g5,g6⟩:=hat
     go_simp
    clear hK K
    refine wss rfl (fun K hK=> ?_)
    go_simp
    refine⟨_,fun _ _=>rfl,hK _ ?_⟩
    clear hK K
    refine wss rfl (fun K hK=> ?_)
    go_simp
    refine⟨.int .i64 by_,fun wk hwk=> ?_,hK _ ?_⟩
    ·obtain⟨_,c0,c1,c2,c3,c4,c5,c6⟩:=hwk.at_
     simp only[Nat.zero_add]at c0 c1 c2 c3 c4 c5 c6
     go_simp
    clear hK K
    refine wss rfl (fun K hK=> ?_)
    go_simp
    refine⟨_,fun _ _=>rfl,hK _ ?_⟩
    clear hK K
    refine wsp rfl rfl (fun u=>u=chV (zf1 by_ number x)) (fun u wk=>zt6 w ⟨kind,by_,no,seen,at_,many,text⟩ (.slice (some ⟨g,0,none⟩) l.length capL) (zq8 ⟨kind,by_,no,seen,at_,many,text⟩ number p k 0 l) wk) ⟨_,rfl⟩ (fun _ _ h=>h.minv H0.out) (fun wk hwk=> ?_) (fun u hu=> ?_)
    ·go_simp
     refine(qdj x by_ number wk hwr HM.out HG.out.1 HG.out.2).mono ?_
     rintro e w5 ⟨rfl,hb⟩
     exact⟨_,rfl,rfl,hwk.after hb⟩
    subst hu
    refine wss rfl (fun K hK=> ?_)
    go_simp
    refine⟨.pointer (some ⟨g,k*7,none⟩),fun wk hwk=> ?_,hK _ ?_⟩
    ·go_simp
    clear hK K
    refine wsp rfl rfl (fun _=>True) (fun _ wk=>zt6 w ⟨kind,by_,no,seen,at_,many,text⟩ (.slice (some ⟨g,0,none⟩) l.length capL) (zq8 ⟨kind,by_,no,seen,at_,many,text⟩ number p (k+1) 0 l) wk) ⟨.int .i64 0,trivial⟩ (fun _ _ h=>h.minv H0.out) (fun wk hwk=> ?_) (fun u _=> ?_)
    ·have hN:=hwk.set (k:=k) (by rw[zdw];exact hkl) (zdw _ _ _ _ _ _) (zf1 by_ number x)
     rw[HN.out]at hN
     have hown:=hwk.own
     obtain⟨⟨u0,e0⟩,f0⟩:=zgl hown (zdw _ _ _ _ _ _) (j:=k*7) (by omega)
     obtain⟨⟨u1,e1⟩,f1⟩:=zgl hown (zdw _ _ _ _ _ _) (j:=k*7+1) (by omega)
     obtain⟨⟨u2,e2⟩,f2⟩:=zgl hown (zdw _ _ _ _ _ _) (j:=k*7+2) (by omega)
     obtain⟨⟨u3,e3⟩,f3⟩:=zgl hown (zdw _ _ _ _ _ _) (j:=k*7+3) (by omega)
     obtain⟨⟨u4,e4⟩,f4⟩:=zgl hown (zdw _ _ _ _ _ _) (j:=k*7+4) (by omega)
     obtain⟨⟨u5,e5⟩,f5⟩:=zgl hown (zdw _ _ _ _ _ _) (j:=k*7+5) (by omega)
     obtain⟨⟨u6,e6⟩,f6⟩:=zgl hown (zdw _ _ _ _ _ _) (j:=k*7+6) (by omega)
     generalize zf1 by_ number x=y at*
     obtain⟨yc,yb,yn,yk,yi,yo,yg⟩:=y
     go_simp
     exact hN
    refine wsn (fun w6 hw6=> ?_)
    have H6:Hid _:=hw6
    clear hw6
    go_wp2
    go_roundw
    case rel=>exact⟨k+1,by omega,by omega,by go_num,H6⟩
    case measure=>simp[intOf];omega
  ·obtain rfl:k=q:=by omega
   go_wp2
   go_ret
   exact⟨_,rfl,by rw[HF.out];exact HK.out.own.mono (by simp),bla HB0.out HK.out.below⟩
def doR(l:List Ch)(d:Dd)(number:Int):List Ch:=if doC l d number=0 then doL l d number else []
theorem zxw{l:List Ch}{d:Dd}{number:Int}(h:zgx l d≠0):doC l d number=zgx l d:=by rw[doC,if_pos h]
theorem zou{v:Value}{c c':Int}(h:c=c'):Ending.returned (.tuple #[v,.int .i64 c])= .returned (.tuple #[v,.int .i64 c']):=by rw[h]
theorem zvg(l:List Ch)(d:Dd)(number:Int)(v:Value)(w:World)(h:Lst w v l)(hl:l.length≤1000)(hf:zg7 l):
 Calls Tryz.prog 190 #[v,ddV d,.int .i64 number] w fun e w'=>∃v',e= .returned (.tuple #[v',.int .i64 (doC l d number)])∧Own w' w.heap.size v' (doR l d number)∧Below w.heap.size w w':=by
 have HI:Hid (zgc w w.heap.size d v l (w.alloc (zcc d))):=zdb (d:=d) h
 by_cases hm:zgx l d=0
 ·by_cases hn:number<1
  ·have HC:Hid (doC l d number=1):=by show doC l d number=1;rw[doC,if_neg (fun e=>e hm),if_pos hn]
   have HR:Hid (doR l d number=[]):=by show doR l d number=[];rw[doR,if_neg (by rw[HC.out];decide)]
   obtain⟨kind,by_,no,seen,at_,many,text⟩:=d
   clear h
   go_enter Tryz.func190,Tryz.ntmps190
   go_wp2_with fail
   refine(zsk l ⟨kind,by_,no,seen,at_,many,text⟩ v _ HI.out.lst hl).mono ?_
   rintro e w1 ⟨rfl,hb⟩
   rw[hm]
   have HI1:Hid _:=HI.out.after hb
   clear hb HI
   go_wp2
   go_ret2
   exact⟨.slice none 0 0,zou HC.out.symm,by rw[HR.out];exact zd7 _ _,HI1.out.below⟩
  ·have HC:Hid (doC l d number=0):=by show doC l d number=0;rw[doC,if_neg (fun e=>e hm),if_neg hn]
   have HR:Hid (doR l d number=doL l d number):=by show doR l d number=_;rw[doR,if_pos HC.out]
   obtain⟨q1,q2,q3,_⟩:=zc2 HC.out
   have p3:=(zah q1).2.2.2.2.2.2.2.2.1
   by_cases hk:d.kind=1
   ·obtain⟨kind,by_,no,seen,at_,many,text⟩:=d
    obtain rfl:kind=1:=hk
    simp only at q2 q3 p3
    clear h
    go_enter Tryz.func190,Tryz.ntmps190
    go_wp2_with fail
    refine(zsk l ⟨1,by_,no,seen,at_,many,text⟩ v _ HI.out.lst hl).mono ?_
    rintro e w1 ⟨rfl,hb⟩
    rw[hm]
    have HI1:Hid _:=HI.out.after hb
    clear hb HI
    obtain⟨_,c0,c1,c2,c3,c4,c5,c6⟩:=HI1.out.at_
    simp only[Nat.zero_add]at c0 c1 c2 c3 c4 c5 c6
    go_wp2_with fail
    clear c0 c1 c2 c3 c4 c5 c6
    refine(put_any l ⟨1,by_,no,seen,at_,many,text⟩ number v _ HI1.out.lst hl q1 rfl (by simp only;omega)).mono ?_
    rintro e w2 ⟨v',rfl,hL,hb⟩
    have HL:Hid (Own w2 w.heap.size v' _):=hL.mono HI1.out.below.size
    have HB:Hid (Below w.heap.size w w2):=bla HI1.out.below hb
    clear hL hb HI1
    go_wp2
    go_ret2
    exact⟨v',zou HC.out.symm,by rw[HR.out];exact HL.out,HB.out⟩
   ·have hk':(d.kind==1)=false:=by simp[hk]
    obtain⟨kind,by_,no,seen,at_,many,text⟩:=d
    simp only at q2 q3 p3 hk'
    have HK:Hid (kind≠1):=hk
    clear h hk
    go_enter Tryz.func190,Tryz.ntmps190
    go_wp2_with fail
    refine(zsk l ⟨kind,by_,no,seen,at_,many,text⟩ v _ HI.out.lst hl).mono ?_
    rintro e w1 ⟨rfl,hb⟩
    rw[hm]
    have HI1:Hid _:=HI.out.after hb
    clear hb HI
    obtain⟨_,c0,c1,c2,c3,c4,c5,c6⟩:=HI1.out.at_
    simp only[Nat.zero_add]at c0 c1 c2 c3 c4 c5 c6
    go_wp2_with fail
    clear c0 c1 c2 c3 c4 c5 c6
    refine(take_any l ⟨kind,by_,no,seen,at_,many,text⟩ number v _ HI1.out.lst hl q1 HK.out q2 hf).mono ?_
    rintro e w2 ⟨v',rfl,hL,hb⟩
    have HL:Hid (Own w2 w.heap.size v' _):=hL.mono HI1.out.below.size
    have HB:Hid (Below w.heap.size w w2):=bla HI1.out.below hb
    clear hL hb HI1
    go_wp2
    go_ret2
    exact⟨v',zou HC.out.symm,by rw[HR.out];exact HL.out,HB.out⟩
 ·have HC:Hid (doC l d number=zgx l d):=zxw hm
  have HR:Hid (doR l d number=[]):=by show doR l d number=[];rw[doR,if_neg (by rw[HC.out];exact hm)]
  have hne:(zgx l d != 0)=true:=by simp[hm]
  obtain⟨kind,by_,no,seen,at_,many,text⟩:=d
  clear h hm
  go_enter Tryz.func190,Tryz.ntmps190
  go_wp2_with fail
  refine(zsk l ⟨kind,by_,no,seen,at_,many,text⟩ v _ HI.out.lst hl).mono ?_
  rintro e w1 ⟨rfl,hb⟩
  have HI1:Hid _:=HI.out.after hb
  clear hb HI
  generalize zgx l ⟨kind,by_,no,seen,at_,many,text⟩=c at*
  go_wp2
  go_ret2
  exact⟨.slice none 0 0,zou HC.out.symm,by rw[HR.out];exact zd7 _ _,HI1.out.below⟩
def zv1(x:Ch):Bool:=decide (x.out≠0)&&decide (x.out≠za0)
def zgg(x:Ch):Bool:=decide (x.inn≠za0)&& !zv1 x
def zdi(l:List Ch):List Int:=(l.filter zgg).map (·.c)
theorem qag(l:List Ch)(x:Ch):zdi (l++[x])=zdi l++if zgg x=true then [x.c]else []:=by
 unfold zdi
 rw[List.filter_append]
 by_cases h:zgg x=true<;>simp[h]
theorem textL_le(l:List Ch):(zdi l).length≤l.length:=by
 unfold zdi
 have:=List.length_filter_le zgg l
 simpa using this
theorem ret_str{a b:ByteArray}(h:a=b):Ending.returned (.string a)= .returned (.string b):=by rw[h]
theorem qaf(a:Option Addr)(cap:Nat)(w:World):
 Calls Tryz.prog 135 #[.slice a 0 cap] w fun e w'=>e= .returned (.string ⟨#[]⟩)∧Below w.heap.size w w':=by
 have hs:(convert 42 9 (.slice none 0 0)).run Tryz.prog w= .ok (.string (strOfNums [])) w:=zg9 (base:=w.heap.size) (zs:=[]) (World.ownsRow_nil _ _ _ _)
 go_enter Tryz.func135,Tryz.ntmps135
 go_wp2
 refine wp_loop_rounds 1 ?_
 rw[rounds_succ]
 go_wp2
 go_ret
 exact⟨rfl,Below.refl _ _⟩
theorem qbm(x:Ch)(w:World):
 Calls Tryz.prog 182 #[chV x] w fun e w'=>e= .returned (.bool (zv1 x))∧Below w.heap.size w w':=by
 obtain⟨c,b,no,k,i,o,g⟩:=x
 by_cases h1:o=0
 ·have h1':(o != 0)=false:=by simp[h1]
  have H1:Hid (o=0):=h1
  clear h1
  go_enter Tryz.func182,Tryz.ntmps182
  go_wp2
  go_ret
  exact⟨zbh (by simp[zv1,H1.out]),(Below.refl _ _).alloc (Nat.le_refl _) _⟩
 ·have h1':(o != 0)=true:=by simp[h1]
  have H1:Hid (o≠0):=h1
  clear h1
  by_cases h2:o=za0
  ·have h2':(o != 1073741824)=false:=by simp[h2]
   have H2:Hid (o=za0):=h2
   clear h2
   go_enter Tryz.func182,Tryz.ntmps182
   go_wp2
   go_ret
   exact⟨zbh (by simp[zv1,H2.out]),(Below.refl _ _).alloc (Nat.le_refl _) _⟩
  ·have h2':(o != 1073741824)=true:=by simpa using h2
   have H2:Hid (o≠za0):=h2
   clear h2
   go_enter Tryz.func182,Tryz.ntmps182
   go_wp2
   go_ret
   exact⟨zbh (by have h1:=H1.out;have h2:=H2.out;simp[zv1,h1,h2]),(Below.refl _ _).alloc (Nat.le_refl _) _⟩
theorem qdh(b off len cap:Nat)(l:List Ch)(w:World)(hl:l.length=len)(hm:len≤100000)(hr:Row w b off l):
 Calls Tryz.prog 135 #[.slice (some ⟨b,off,none⟩) len cap] w fun e w'=>e= .returned (.string (strOfNums (zdi l)))∧Below w.heap.size w w':=by
 have HR:Hid (Row w b off l):=hr
 have HL:Hid (l.length=len):=hl
 have hb:=hr.lt
 clear hr hl
 obtain⟨i0,hi,hz0,hz1,hz2⟩:=info_parts Tryz.infoByte
 go_enter Tryz.func135,Tryz.ntmps135
 go_wp2
 go_loopw [3,8] (fun v i wr=>∃k:Nat,k≤len∧i= .int .i64 k∧Hid (wr.ownsRow w.heap.size 5 1 v (zdi (l.take k)).length (zen (zdi (l.take k))))∧Hid (Below w.heap.size w wr)) (fun _ i _=>len-(intOf i).toNat)
 case atStart=>exact⟨0,Nat.zero_le _,rfl,World.ownsRow_nil _ _ _ _,Below.refl _ _⟩
 case round=>
  obtain⟨k,hk,rfl,HO,HB⟩:=hrel
  by_cases hlt:k<len
  ·have hkl:k<l.length:=by rw[HL.out];exact hlt
   have hd:=textL_le (l.take k)
   have hle:(l.take k).length≤k:=List.length_take_le _ _
   have HN:Hid (zdi (l.take (k+1))=zdi (l.take k)++if zgg l[k]=true then [l[k].c]else []):=by show _=_;rw[zcj l k hkl];exact qag _ _
   obtain⟨h0,h1,h2,h3,h4,h5,h6⟩:=(HR.out.below HB.out).at_ k hkl
   generalize l[k]=x at h0 h1 h2 h3 h4 h5 h6 HN
   generalize zdi (l.take k)=zs at*
   have hzs:zs.length≤100000:=by omega
   have HB':Hid (∀o,Below w.heap.size w (wr.alloc o)):=fun o=>HB.out.alloc HB.out.size _
   clear hd hle
   by_cases hin:x.inn=za0
   ·have hin':(x.inn != 1073741824)=false:=by simp[hin]
    have HT:Hid (zgg x=false):=by show zgg x=false;simp[zgg,hin]
    rw[HT.out]at HN
    clear hin
    go_wp2
    go_roundw
    case rel=>exact⟨k+1,by omega,by go_num,by show World.ownsRow _ _ _ _ _ _ _;rw[HN.out,if_neg (by simp),List.append_nil];exact HO.out.alloc _,HB'.out _⟩
    case measure=>simp[intOf];omega
   ·have hin':(x.inn != 1073741824)=true:=by simp;exact hin
    have HIN:Hid (x.inn≠za0):=hin
    clear hin
    go_wp2_with fail
    refine(qbm x _).mono ?_
    rintro e w1 ⟨rfl,hb1⟩
    have HB1:Hid (Below w.heap.size w w1):=bla (HB'.out _) hb1
    have HO1:Hid (w1.ownsRow w.heap.size 5 1 _ zs.length (zen zs)):=zeh (HO.out.alloc (.cells #[.int .u8 x.c,.int .i64 x.by_,.int .i64 x.no,.int .i64 x.k,.int .i64 x.inn,.int .i64 x.out,.int .i64 x.gone] 127)) hb1
    cases hg:zv1 x
    ·have HT:Hid (zgg x=true):=by show zgg x=true;simp[zgg,HIN.out,hg]
     rw[HT.out]at HN
     obtain⟨hc,hf⟩:=zds hb1
     clear hg h0 h1 h2 h3 h4 h5 h6
     go_wp2_with (at_builtin;refine wpList_append_own _ rfl (.tmp 20) (.tmp 23) 42 rfl w.heap.size 5 i0 (.int .u8 0) 1 1 Tryz.underlying42 hi hz0 hz1 hz2 rfl (by decide) _ _ _ rfl (HO1.out.alloc _) ⟨w1.heap.size,0,none⟩ 1 1 [.int .u8 x.c] rfl rfl ?c1 ?c2 ?c3 ?c4 ?c5 ?_)
     case c1=>
      intro j u hj
      match j,hj with
      | 0,hj=>simp at hj;subst hj;simp[Addr.add]
     case c2=>intro u hu;simp at hu;subst hu;rfl
     case c3=>unfold maxLen;omega
     case c4=>omega
     case c5=>have:=HB1.out.size;simp;omega
     ·intro v' w2 hown' hgrow _
      have HO2:Hid (w2.ownsRow w.heap.size 5 1 v' (zs.length+1) (zen zs++[.int .u8 x.c])):=hown'
      have HB2:Hid (Below w.heap.size w w2):=(HB1.out.alloc HB1.out.size _).grown hgrow (by have:=HB1.out.size;simp;omega) (fun j hj=>(World.ownsRow.lt HO1.out j hj).1)
      clear hown' hgrow hc hf hb1
      go_wp2
      go_roundw
      case rel=>exact⟨k+1,by omega,by go_num,by
       have e:=HO2.out
       show World.ownsRow _ _ _ _ _ _ _
       rw[HN.out,if_pos trivial,List.length_append,zen,List.map_append]
       exact e,HB2⟩
      case measure=>simp[intOf];omega
    ·have HT:Hid (zgg x=false):=by show zgg x=false;simp[zgg,hg]
     rw[HT.out]at HN
     clear hg h0 h1 h2 h3 h4 h5 h6 hb1
     go_wp2
     go_roundw
     case rel=>exact⟨k+1,by omega,by go_num,by show World.ownsRow _ _ _ _ _ _ _;rw[HN.out,if_neg (by simp),List.append_nil];exact HO1.out,HB1⟩
     case measure=>simp[intOf];omega
  ·obtain rfl:k=len:=by omega
   have HE:Hid (l.take k=l):=by show _=_;rw[←HL.out,List.take_length]
   have hs:=zg9 HO.out
   go_wp2
   go_ret
   exact⟨ret_str (by rw[HE.out]),HB.out⟩
theorem text_lst{w:World}{v:Value}{l:List Ch}(h:Lst w v l)(hl:l.length≤1000):
 Calls Tryz.prog 135 #[v] w fun e w'=>e= .returned (.string (strOfNums (zdi l)))∧Below w.heap.size w w':=by
 obtain⟨a,len,cap,rfl,h1,h2,h3⟩:=h
 rcases h3 with rfl|⟨b,off,rfl,hr⟩
 ·obtain rfl:l=[]:=List.length_eq_zero_iff.1 h1
  exact qaf a cap w
 ·exact qdh b off len cap l w h1 (by omega) hr
structure zvv(w:World)(b off:Nat)(ds:List Dd):Prop where
 lt:b<w.heap.size
 at_:∀i (h:i<ds.length),zde w b (off+i*7) ds[i]
theorem zvv.below{w w':World}{b off:Nat}{ds:List Dd}(h:zvv w b off ds)(hb:Below w.heap.size w w'):zvv w' b off ds:=
 ⟨by have:=hb.size;have:=h.lt;omega,fun i hi=>(h.at_ i hi).below hb⟩
def zkz(w:World)(v:Value)(ds:List Dd):Prop:=
 ∃(a:Option Addr) (len cap:Nat),v= .slice a len cap∧ds.length=len∧len≤cap∧(len=0∨∃b off,a=some ⟨b,off,none⟩∧zvv w b off ds)
theorem zkz.below{w w':World}{v:Value}{ds:List Dd}(h:zkz w v ds)(hb:Below w.heap.size w w'):zkz w' v ds:=by
 obtain⟨a,len,cap,rfl,h1,h2,h3⟩:=h
 refine⟨a,len,cap,rfl,h1,h2,?_⟩
 rcases h3 with h3|⟨b,off,rfl,hr⟩
 ·exact .inl h3
 ·exact .inr ⟨b,off,rfl,hr.below hb⟩
structure Small(l:List Ch):Prop where
 len:l.length≤200
 fits:zg7 l
theorem fits_new(d:Dd)(n:Int):zg7 (zf4 d n):=by
 intro x hx
 obtain⟨j,b,rfl,_⟩:=zdp hx
 show-9223372036854775808≤(0:Int)∧(0:Int)≤9223372036854775807
 omega
theorem fits_do{l:List Ch}{d:Dd}{number:Int}(h:zg7 l)(hc:za6 d=0):zg7 (doL l d number):=by
 obtain⟨_,hw,_⟩:=zah hc
 by_cases hk:d.kind=1
 ·rw[doL,if_pos hk]
  intro x hx
  rcases List.mem_append.1 hx with hx|hx
  ·exact h x (List.mem_of_mem_take hx)
  ·rcases List.mem_append.1 hx with hx|hx
   ·exact fits_new d number x hx
   ·exact h x (List.mem_of_mem_drop hx)
 ·rw[doL,if_neg hk]
  intro y hy
  obtain⟨x,hx,hyx⟩:=zfp hy
  rcases hyx with rfl|⟨hs,rfl⟩
  ·exact h _ hx
  ·have h1:=h x hx
   have h2:=qa0 hw (ze5 hs) h1.2
   have h3:(0:Int)<2 ^ d.by_.toNat:=Int.pow_pos (by decide)
   show-9223372036854775808≤x.gone+2 ^ d.by_.toNat∧x.gone+2 ^ d.by_.toNat≤9223372036854775807
   omega
theorem zyv{l:List Ch}{d:Dd}{number:Int}(h:zg7 l)(hc:doC l d number=0):Small (doL l d number):=by
 obtain⟨h1,h2,h3,_⟩:=zc2 hc
 refine⟨?_,fits_do h h1⟩
 rw[zsx (fun hk=>(zah h1).2.2.2.2.2.2.2.2.2.2.2 hk)]
 exact h3
theorem fits_nil:zg7 []:=fun x hx=>by simp at hx
def qc8(l:List Ch)(i:Nat)(ds all:List Dd):Prop:=Small l∧zgv [] 0 all=zgv l i ds
theorem qaq{l:List Ch}{i:Nat}{d:Dd}{r all:List Dd}(h:qc8 l i (d::r) all)(hc:doC l d (i+1)=0):qc8 (doL l d (i+1)) (i+1) r all:=
 ⟨zyv h.1.fits hc,by rw[h.2,zgv,if_neg (fun e=>e hc)]⟩
theorem qdw{l:List Ch}{i:Nat}{d:Dd}{r all:List Dd}(h:qc8 l i (d::r) all)(hc:doC l d (i+1)≠0):zgv [] 0 all=([],doC l d (i+1),i):=by rw[h.2,zgv,if_pos hc]
theorem qdv{l:List Ch}{i:Nat}{all:List Dd}(h:qc8 l i [] all):zgv [] 0 all=(l,0,0):=by rw[h.2,zgv]
theorem zoi(all:List Dd):qc8 [] 0 all all:=⟨⟨Nat.zero_le _,fits_nil⟩,rfl⟩
abbrev ftV(c at_:Int):Value:= .agg #[.int .i64 c,.int .i64 at_]
structure zlt(w:World)(B:Nat)(c a:Int):Prop where
 c0:w.cell? ⟨B,0,none⟩=some (.int .i64 c)
 c1:w.cell? ⟨B,1,none⟩=some (.int .i64 a)
 f0:w.frozen? ⟨B,0,none⟩=false
 f1:w.frozen? ⟨B,1,none⟩=false
theorem zf7(w:World)(c a:Int):zlt (w.alloc (.cells #[.int .i64 c,.int .i64 a] 31)) w.heap.size c a:=by
 refine⟨?_,?_,?_,?_⟩<;>simp[go_sem]
theorem zlt.below{w w':World}{B:Nat}{c a:Int}(h:zlt w B c a)(hB:B<w.heap.size)(hb:Below w.heap.size w w'):zlt w' B c a:=by
 obtain⟨hc,hf⟩:=zds hb
 exact⟨by rw[hc _ _ hB];exact h.c0,by rw[hc _ _ hB];exact h.c1,by rw[hf _ _ hB];exact h.f0,by rw[hf _ _ hB];exact h.f1⟩
theorem zlt.put{w:World}{B:Nat}{c a:Int}(h:zlt w B c a)(c' a':Int):zlt ((w.setCell ⟨B,0,none⟩ (.int .i64 c')).setCell ⟨B,1,none⟩ (.int .i64 a')) B c' a':=by
 obtain⟨c0,c1,f0,f1⟩:=h
 refine⟨?_,?_,?_,?_⟩
 ·simp[go_sem,c0]
 ·simp[go_sem,c1]
 ·simpa [go_sem]using f0
 ·simpa [go_sem]using f1
theorem zsm{w:World}{B:Nat}{c a:Int}(h:zlt w B c a):(loadVar 31 ⟨B,0,none⟩).run Tryz.prog w= .ok (ftV c a) w:=by
 obtain⟨c0,c1,_,_⟩:=h
 simp[go_sem,loadVar,loadCells,loadCellsFrom,Sem.run_bind,Tryz.isAgg31,Tryz.sizeOf31,c0,c1]
theorem ziq{fn:Func}{p u:Tmp}{ty:TypeId}(h:fn.results= #[.tmp u,.cell p ty])(tmps:Array Value)(P:Program)(w:World):
 (results fn tmps).run P w=((asAddr (tmps.getD p undef)).run P w).andThen fun a w₁=>((loadVar ty a).run P w₁).andThen fun v w₂=> .ok (.tuple #[tmps.getD u undef,v]) w₂:=by
 simp only[results,h]
 simp[Sem.run_bind,Result.andThen]
theorem zhz{N B:Nat}{w w':World}(h:Below N w w')(hB:N≤B)(c a:Int):Below N w ((w'.setCell ⟨B,0,none⟩ (.int .i64 c)).setCell ⟨B,1,none⟩ (.int .i64 a)):=
 (h.setCell (p:=⟨B,0,none⟩) hB _).setCell (p:=⟨B,1,none⟩) hB _
structure AInv(w:World)(wr:World):Prop where
 below:Below (w.alloc (.cells #[.int .i64 0,.int .i64 0] 31)).heap.size (w.alloc (.cells #[.int .i64 0,.int .i64 0] 31)) wr
theorem AInv.two{w wr:World}(h:AInv w wr):zlt wr w.heap.size 0 0:=(zf7 w 0 0).below (by simp) h.below
theorem AInv.old{w wr:World}(h:AInv w wr):Below w.heap.size w wr:=bla ((Below.refl _ _).alloc (Nat.le_refl _) _) h.below
theorem AInv.after{w wr w':World}(h:AInv w wr)(hb:Below wr.heap.size wr w'):AInv w w':=⟨bla h.below hb⟩
def upd(last:Int→Int)(d:Dd):Int→Int:=fun w=>if w=d.by_ then d.no else last w
def zft(l:List Dd):Int→Int:=l.foldl upd (fun _=>0)
def nAt(l:List Dd):Nat:=l.foldl (fun n d=>n+d.text.size) 0
theorem zko(l:List Dd)(d:Dd):zft (l++[d])=upd (zft l) d:=by simp[zft]
theorem nAt_snoc(l:List Dd)(d:Dd):nAt (l++[d])=nAt l+d.text.size:=by simp[nAt]
def okAt(ds:List Dd)(i:Nat):Prop:=∀d,ds[i]? =some d→wrB d.by_=true∧d.no=zft (ds.take i) d.by_+1∧d.seen≤i
theorem zjp(l:List Dd)(k:Nat)(h:k<l.length):l.take (k+1)=l.take k++[l[k]]:=List.take_succ_eq_append_getElem h
theorem zr2{ds:List Dd}:∀(k:Nat),k≤ds.length→(∀i,i<k→okAt ds i)→∀w,0≤zft (ds.take k) w∧zft (ds.take k) w≤k
 | 0,_,_,w=>by simp[zft]
 |k+1,hk,h,w=>by
  have ih:=zr2 k (by omega) (fun i hi=>h i (by omega))
  obtain⟨_,h2,_⟩:=h k (by omega) ds[k] (List.getElem?_eq_getElem (by omega))
  rw[zjp ds k (by omega),zko,upd]
  have i1:=ih w
  have i2:=ih ds[k].by_
  split<;>omega
theorem zsl:∀(suf pre:List Dd) (l:List Ch),(∀i,i<(pre++suf).length→okAt (pre++suf) i)→(pre++suf).length≤1000→qce (zft pre) pre.length l→l.length=nAt pre→l.length≤200→(zgv l pre.length suf).2.1=0→
 qce (zft (pre++suf)) (pre++suf).length (zgv l pre.length suf).1∧(zgv l pre.length suf).1.length=nAt (pre++suf)∧(zgv l pre.length suf).1.length≤200
 |[],pre,l,_,_,hm,hn,hl,_=>by
  rw[List.append_nil]
  exact⟨hm,hn,hl⟩
 |d::r,pre,l,hok,hlen,hm,hn,hl,hz=>by
  have e:pre++d::r=(pre++[d])++r:=by simp
  have hpl:(pre++[d]).length=pre.length+1:=by simp
  rw[zgv]at hz⊢
  by_cases hc:doC l d ((pre.length:Int)+1)=0
  ·rw[if_neg (fun h=>h hc)]at hz⊢
   obtain⟨h1,h2,h3,h4⟩:=zc2 hc
   obtain⟨_,hno,_⟩:=hok pre.length (by simp) d (by simp)
   rw[List.take_left]at hno
   have hsm:=zsx (l:=l) (d:=d) (number:=(pre.length:Int)+1) (fun hk=>(zah h1).2.2.2.2.2.2.2.2.2.2.2 hk)
   have hm':qce (zft (pre++[d])) (pre.length+1) (doL l d ((pre.length:Int)+1)):=by
    rw[zko]
    by_cases hk:d.kind=1
    ·exact made_put hm h1 hk hno
    ·exact qeu hm h1 hk hno (by simp at hlen;omega)
   have ih:=zsl r (pre++[d]) (doL l d ((pre.length:Int)+1)) (by rw[←e];exact hok) (by rw[←e];exact hlen) (by rw[hpl];exact hm') (by rw[nAt_snoc,hsm,hn]) (by rw[hsm];exact h3) (by rw[hpl];exact hz)
   rw[hpl]at ih
   rw[e]
   exact ih
  ·rw[if_pos hc]at hz
   exact absurd hz hc
theorem zzh:qce (fun _=>0) 0 []:=by
 refine⟨?_,?_,?_,?_,?_,?_,List.Pairwise.nil⟩<;>intro x hx<;>simp at hx
theorem ztx:∀{ds:List Dd} {l:List Ch} {i:Nat},Small l→(zgv l i ds).1.length≤200
 |[],l,i,h=>h.len
 |d::r,l,i,h=>by
  rw[zgv]
  by_cases hc:doC l d ((i:Int)+1)=0
  ·rw[if_neg (fun e=>e hc)]
   exact ztx (zyv h.fits hc)
  ·rw[if_pos hc]
   exact Nat.zero_le _
end Go.Proofs.YtcbnnfeelhlapadGreatDoor