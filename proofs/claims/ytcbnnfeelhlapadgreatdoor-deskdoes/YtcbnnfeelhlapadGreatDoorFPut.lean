/-
  The contract of fold.New.
-/
import Derived.Test.YtcbnnfeelhlapadGreatDoorFStage
import Derived.BigRegion
import Derived.Test.YtcbnnfeelhlapadGreatDoorDPlain
import Derived.Deep.QuietTactic
import Derived.BigQuiet
namespace Go.Proofs.YtcbnnfeelhlapadGreatDoor
set_option maxHeartbeats 800000
set_option maxRecDepth 20000
open Go.RowKit
theorem zs1(n:Nat)(hn:n≤100000)(w:World):(Instr.makeSlice 91 (.int .i64 n) (.int .i64 n)).run Tryz.prog w= .ok (.slice (some ⟨w.heap.size,0,none⟩) n n) (w.alloc (.cells (madeCells zfj.cells (n*7)) 127)):=by
 obtain⟨i0,hi,hz0,hz1,hz2⟩:=info_parts Tryz.infoChar
 have:=run_make (P:=Tryz.prog) w 91 127 i0 zfj Tryz.underlying91 hi hz0 .i64 .i64 n n (by omega) (Int.le_refl _) (by rw[hz2];omega) (by omega)
 simp only[Int.toNat_natCast,hz1]at this
 exact this
theorem zu2(p r:List Value)(x:Ch)(m:Nat)(hm:p.length=m)(hr:7≤r.length):
 (((((((p++r).set m (.int .u8 x.c)).set (m+1) (.int .i64 x.by_)).set (m+2) (.int .i64 x.no)).set (m+3) (.int .i64 x.k)).set (m+4) (.int .i64 x.inn)).set (m+5) (.int .i64 x.out)).set (m+6) (.int .i64 x.gone)=p++zch x++r.drop 7:=by
 subst hm
 match r,hr with
 |r0::r1::r2::r3::r4::r5::r6::r,_=>
  simp[zch]
theorem zum(d:Dd)(n:Int)(k:Nat)(h:k<d.text.size):zbc d n 0 (d.text.data.toList.take (k+1))=zbc d n 0 (d.text.data.toList.take k)++[zmc d n k d.text[k]]:=by
 have hk:k<d.text.data.toList.length:=h
 rw[List.take_add_one,List.getElem?_eq_getElem hk,Option.toList_some,qfr d.text k h,zj8,Nat.zero_add,List.length_take]
 congr 3
 omega
structure NInv(w:World)(d:Dd)(n:Int)(k:Nat)(wr:World):Prop where
 below:Below (w.heap.size+1) (w.alloc (zcc d)) wr
 own:∃r,wr.ownsRow w.heap.size 127 7 (.slice (some ⟨w.heap.size+1,0,none⟩) d.text.size d.text.size) d.text.size (zaq (zbc d n 0 (d.text.data.toList.take k))++r)
theorem qb2(w:World)(d:Dd)(n:Int)(hs:d.text.size≤100000):NInv w d n 0 ((w.alloc (zcc d)).alloc (.cells (madeCells zfj.cells (d.text.size*7)) 127)):=by
 refine⟨(Below.refl _ _).alloc (by simp) _,(madeCells zfj.cells (d.text.size*7)).toList,?_⟩
 rw[List.take_zero]
 have:=World.ownsRow_lit (base:=w.heap.size) (e:=127) (size:=7) (w.alloc (zcc d)) (madeCells zfj.cells (d.text.size*7)) d.text.size (by simp) (by unfold maxLen;omega) (size_madeCells _ _)
 simpa [zbc,zaq]using this
theorem NInv.at_{w wr:World}{d:Dd}{n:Int}{k:Nat}(h:NInv w d n k wr):zde wr w.heap.size 0 d:=(zb7 w d).below (by simpa using h.below)
theorem NInv.step{w wr:World}{d:Dd}{n:Int}{k:Nat}(h:NInv w d n k wr)(hk:k<d.text.size)(x:Ch)(hx:x=zmc d n k d.text[k]):
 NInv w d n (k+1) (((((((wr.setCell ⟨w.heap.size+1,k*7,none⟩ (.int .u8 x.c)).setCell ⟨w.heap.size+1,k*7+1,none⟩ (.int .i64 x.by_)).setCell ⟨w.heap.size+1,k*7+2,none⟩ (.int .i64 x.no)).setCell ⟨w.heap.size+1,k*7+3,none⟩ (.int .i64 x.k)).setCell ⟨w.heap.size+1,k*7+4,none⟩ (.int .i64 x.inn)).setCell ⟨w.heap.size+1,k*7+5,none⟩ (.int .i64 x.out)).setCell ⟨w.heap.size+1,k*7+6,none⟩ (.int .i64 x.gone)):=by
 obtain⟨hb,r,ho⟩:=h
 refine⟨?_,r.drop 7,?_⟩
 ·exact((((((hb.setCell (by simp) _).setCell (by simp) _).setCell (by simp) _).setCell (by simp) _).setCell (by simp) _).setCell (by simp) _).setCell (by simp) _
 ·have hl:=ho.1
  rw[List.length_append,zdd,zgo,List.length_take,zay]at hl
  have e:=zu2 (zaq (zbc d n 0 (d.text.data.toList.take k))) r x (k*7) (by rw[zdd,zgo,List.length_take,zay];omega) (by omega)
  rw[zum d n k hk,zfe]
  have e2:zaq [zmc d n k d.text[k]]=zch x:=by rw[hx];simp[zaq]
  rw[e2,←e]
  exact((((((ho.stored _ _).1.stored _ _).1.stored _ _).1.stored _ _).1.stored _ _).1.stored _ _).1.stored _ _ |>.1
theorem zex{w:World}{base g n cap:Nat}{xs:List Value}(h:w.ownsRow base 127 7 (.slice (some ⟨g,0,none⟩) n cap) n xs){j:Nat}(hj:j<n*7):(∃u,w.cell? ⟨g,j,none⟩=some u)∧w.frozen? ⟨g,j,none⟩=false:=by
 refine⟨?_,h.frozenAt j⟩
 rw[h.cellAt j hj]
 exact⟨_,List.getElem?_eq_getElem (by rw[h.1];exact hj)⟩
theorem NInv.drew{w wr:World}{d:Dd}{n:Int}{k:Nat}(h:NInv w d n k wr):NInv w d n k wr.drew:=⟨h.below.drew,h.own⟩
theorem zwy(d:Dd)(n:Int)(w:World)(hs:d.text.size≤100000):
 Calls Tryz.prog 234 #[ddV d,.int .i64 n] w fun e w'=>∃v,e= .returned v∧Own w' w.heap.size v (zf4 d n)∧Below w.heap.size w w':=by
 have HI:Hid _:=qb2 w d n hs
 have HE:Hid (zbc d n 0 (d.text.data.toList.take d.text.size)=zf4 d n):=by show zbc _ _ _ _=_;rw[zf4,List.take_of_length_le (Nat.le_of_eq (zay _))]
 obtain⟨kind,by_,no,seen,at_,many,text⟩:=d
 unfold zcc at HI
 simp only at HI HE hs
 have hmk:=zs1 text.size hs
 go_enter Tryz.func234,Tryz.ntmps234
 go_wp2
 go_loopw [13] (fun i wr=>∃k:Nat,k≤text.size∧i= .int .i64 k∧Hid (NInv w ⟨kind,by_,no,seen,at_,many,text⟩ n k wr)) (fun i _=>text.size-(intOf i).toNat)
 case atStart=>exact⟨0,Nat.zero_le _,rfl,HI⟩
 case round=>
  obtain⟨k,hk,rfl,HK⟩:=hrel
  clear HI hmk
  by_cases hlt:k<text.size
  ·obtain⟨_,c0,c1,c2,c3,c4,c5,c6⟩:=HK.out.at_
   obtain⟨r,ho⟩:=HK.out.own
   simp only at ho
   obtain⟨⟨u0,e0⟩,f0⟩:=zex ho (j:=k*7) (by omega)
   obtain⟨⟨u1,e1⟩,f1⟩:=zex ho (j:=k*7+1) (by omega)
   obtain⟨⟨u2,e2⟩,f2⟩:=zex ho (j:=k*7+2) (by omega)
   obtain⟨⟨u3,e3⟩,f3⟩:=zex ho (j:=k*7+3) (by omega)
   obtain⟨⟨u4,e4⟩,f4⟩:=zex ho (j:=k*7+4) (by omega)
   obtain⟨⟨u5,e5⟩,f5⟩:=zex ho (j:=k*7+5) (by omega)
   obtain⟨⟨u6,e6⟩,f6⟩:=zex ho (j:=k*7+6) (by omega)
   clear ho
   simp only[Nat.zero_add]at c0 c1 c2 c3 c4 c5 c6
   go_wp2
   go_region
   have HN:Hid _:=(HK.out.step hlt ⟨text[k].toNat,by_,no,k,n,0,0⟩ rfl).drew
   dsimp only at HN
   go_wp2
   go_roundw
   case rel=>
    exact⟨k+1,by omega,by go_num,HN⟩
   case measure=>simp[intOf];omega
  ·obtain rfl:k=text.size:=by omega
   go_wp2
   go_ret
   obtain⟨hb,r,ho⟩:=HK.out
   simp only at ho
   rw[HE.out]at ho
   have hr:r=[]:=by
    have:=ho.1
    rw[List.length_append,zdd,zg5]at this
    exact List.length_eq_zero_iff.1 (by simp only at this;omega)
   rw[hr,List.append_nil]at ho
   refine⟨_,rfl,?_,(Below.refl _ _).alloc (Nat.le_refl _) _ |>.trans (hb.mono (by omega))⟩
   unfold Own
   rw[zg5]
   exact ho
theorem zdr(n lo hi:Int)(w:World):
 Calls Tryz.prog 228 #[.int .i64 n,.int .i64 lo,.int .i64 hi] w fun e w'=>e= .returned (.bool (zaw n lo hi))∧w'=w:=by
 by_cases h1:lo≤n
 ·by_cases h2:n≤hi
  ·go_enter Tryz.func228,Tryz.ntmps228
   go_wp2
   go_ret
   exact⟨by simp[zaw,h1,h2],rfl⟩
  ·go_enter Tryz.func228,Tryz.ntmps228
   go_wp2
   go_ret
   exact⟨by simp[zaw,h2],rfl⟩
 ·go_enter Tryz.func228,Tryz.ntmps228
  go_wp2
  go_ret
  exact⟨zbh (by simp[zaw];omega),rfl⟩
theorem ok_wrap(b:UInt8):zei b=zaw (wrap64 b.toNat) 32 126:=by
 have h:b.toNat<256:=b.toNat_lt
 have e:wrap64 (b.toNat:Int)=b.toNat:=by unfold wrap64;omega
 rw[e,zei,zaw,Bool.eq_iff_iff]
 simp
 omega
theorem zwu(s:ByteArray)(w:World):
 Calls Tryz.prog 229 #[.string s] w fun e w'=>e= .returned (.bool (zck s))∧w'=w:=by
 by_cases hs:1≤s.size∧s.size≤20
 ·obtain⟨hs1,hs2⟩:=hs
  have hw:zaw s.size 1 20=true:=by simp[zaw];omega
  go_enter Tryz.func229,Tryz.ntmps229
  go_wp2_with (go_at_call 228;refine(zdr _ _ _ _).mono ?_;rintro e w' ⟨rfl,rfl⟩)
  go_loop [10] (fun i=>∃k:Nat,k≤s.size∧i= .int .i64 k∧(s.data.toList.take k).all zei=true) (fun i=>s.size-(intOf i).toNat)
  case atStart=>exact⟨0,Nat.zero_le _,rfl,rfl⟩
  case round=>
   obtain⟨k,hk,rfl,hok⟩:=hrel
   by_cases hlt:k<s.size
   ·have HN:Hid _:=zlp s k hlt
    have HZ:Hid _:=all_no s k hlt
    have HE:Hid _:=ok_wrap s[k]
    go_wp2_with fail
    refine(zdr _ _ _ _).mono ?_
    rintro e w1 ⟨rfl,rfl⟩
    cases hc:zaw (wrap64 s[k].toNat) 32 126
    ·go_wp2
     go_ret
     exact⟨zbh (by rw[zck,HZ.out (by rw[HE.out,hc]),Bool.and_false]),rfl⟩
    ·go_wp2
     go_round
     case rel=>exact⟨k+1,by omega,by go_num,by rw[HN.out,hok,HE.out,hc];rfl⟩
     case measure=>simp[intOf];omega
   ·go_wp2
    go_ret
    obtain rfl:k=s.size:=by omega
    exact⟨zbh (by rw[←zay,List.take_length]at hok;simp[zck,hok,hs1,hs2]),rfl⟩
 ·have hw:zaw s.size 1 20=false:=by simp[zaw];omega
  go_enter Tryz.func229,Tryz.ntmps229
  go_wp2_with (go_at_call 228;refine(zdr _ _ _ _).mono ?_;rintro e w' ⟨rfl,rfl⟩)
  go_ret
  exact⟨zbh (by simp[zck,hs]),rfl⟩
theorem zma(d:Dd)(w:World):
 Calls Tryz.prog 209 #[ddV d] w fun e w'=>e= .returned (.bool (zcv d))∧Below w.heap.size w w':=by
 obtain⟨kind,by_,no,seen,at_,many,text⟩:=d
 cases h1:wrB by_
 ·go_enter Tryz.func209,Tryz.ntmps209
  go_wp2_with (first|(go_at_call 116;refine(zbl _ _).mono ?_;rintro e w' ⟨rfl,rfl⟩)|(go_at_call 228;refine(zdr _ _ _ _).mono ?_;rintro e w' ⟨rfl,rfl⟩))
  go_ret
  exact⟨zbh (by simp[zcv,h1]),(Below.refl _ _).alloc (Nat.le_refl _) _⟩
 ·cases h2:zaw no 1 120
  ·go_enter Tryz.func209,Tryz.ntmps209
   go_wp2_with (first|(go_at_call 116;refine(zbl _ _).mono ?_;rintro e w' ⟨rfl,rfl⟩)|(go_at_call 228;refine(zdr _ _ _ _).mono ?_;rintro e w' ⟨rfl,rfl⟩))
   go_ret
   exact⟨zbh (by simp[zcv,h1,h2]),(Below.refl _ _).alloc (Nat.le_refl _) _⟩
  ·cases h3:zaw seen 0 120
   ·go_enter Tryz.func209,Tryz.ntmps209
    go_wp2_with (first|(go_at_call 116;refine(zbl _ _).mono ?_;rintro e w' ⟨rfl,rfl⟩)|(go_at_call 228;refine(zdr _ _ _ _).mono ?_;rintro e w' ⟨rfl,rfl⟩))
    go_ret
    exact⟨zbh (by simp[zcv,h1,h2,h3]),(Below.refl _ _).alloc (Nat.le_refl _) _⟩
   ·go_enter Tryz.func209,Tryz.ntmps209
    go_wp2_with (first|(go_at_call 116;refine(zbl _ _).mono ?_;rintro e w' ⟨rfl,rfl⟩)|(go_at_call 228;refine(zdr _ _ _ _).mono ?_;rintro e w' ⟨rfl,rfl⟩))
    go_ret
    exact⟨zbh (by simp[zcv,h1,h2,h3]),(Below.refl _ _).alloc (Nat.le_refl _) _⟩
theorem zvm(d:Dd)(w:World):
 Calls Tryz.prog 210 #[ddV d] w fun e w'=>e= .returned (.int .i64 (zwt d))∧Below w.heap.size w w':=by
 obtain⟨kind,by_,no,seen,at_,many,text⟩:=d
 by_cases h1:many=0
 ·have h1':(many != 0)=false:=by simp[h1]
  have H1:Hid (many=0):=h1
  clear h1
  cases h2:zck text
  all_goals
   go_enter Tryz.func210,Tryz.ntmps210
   go_wp2_with (go_at_call 229;refine(zwu _ _).mono ?_;rintro e w' ⟨rfl,rfl⟩)
   go_ret
   exact⟨zad (by simp[zwt,H1.out,h2]),(Below.refl _ _).alloc (Nat.le_refl _) _⟩
 ·have h1':(many != 0)=true:=by simp[h1]
  have H1:Hid (many≠0):=h1
  clear h1
  go_enter Tryz.func210,Tryz.ntmps210
  go_wp2
  go_ret
  exact⟨zad (by simp[zwt,H1.out]),(Below.refl _ _).alloc (Nat.le_refl _) _⟩
theorem zk3(s:ByteArray):s.toList.isEmpty=decide (s.size=0):=by
 by_cases h:s.size=0
 ·rw[ByteArray.toList_eq,ba_empty h];rfl
 ·rw[ByteArray.toList_eq]
  have:s.data≠ #[]:=fun e=>h (by show s.data.size=0;rw[e];rfl)
  simp[h,this]
theorem zt4(d:Dd)(w:World):
 Calls Tryz.prog 211 #[ddV d] w fun e w'=>e= .returned (.int .i64 (zl4 d))∧Below w.heap.size w w':=by
 obtain⟨kind,by_,no,seen,at_,many,text⟩:=d
 by_cases h1:text.size=0
 ·have h1':text.toList.isEmpty=true:=by simp[zk3,h1]
  have H1:Hid (text.size=0):=h1
  clear h1
  cases h2:zaw many 1 200
  all_goals
   go_enter Tryz.func211,Tryz.ntmps211
   go_wp2_with (go_at_call 228;refine(zdr _ _ _ _).mono ?_;rintro e w' ⟨rfl,rfl⟩)
   go_ret
   exact⟨zad (by simp[zl4,H1.out,h2]),(Below.refl _ _).alloc (Nat.le_refl _) _⟩
 ·have h1':text.toList.isEmpty=false:=by simp[zk3,h1]
  have H1:Hid (text.size≠0):=h1
  clear h1
  go_enter Tryz.func211,Tryz.ntmps211
  go_wp2
  go_ret
  exact⟨zad (by simp[zl4,H1.out]),(Below.refl _ _).alloc (Nat.le_refl _) _⟩
theorem zji(d:Dd)(w:World):
 Calls Tryz.prog 183 #[ddV d] w fun e w'=>e= .returned (.int .i64 (za6 d))∧Below w.heap.size w w':=by
 by_cases hk:d.kind=1∨d.kind=2
 ·cases hp:zcv d
  ·have HC:Hid (za6 d=1):=by
    show za6 d=1
    rw[za6,if_neg (by omega),if_pos hp]
   obtain⟨kind,by_,no,seen,at_,many,text⟩:=d
   rcases hk with rfl|rfl
   all_goals
    go_enter Tryz.func183,Tryz.ntmps183
    go_wp2_with fail
    refine(zma ⟨_,by_,no,seen,at_,many,text⟩ _).mono ?_
    rintro e w1 ⟨rfl,hb⟩
    rw[hp]
    go_wp2
    go_ret
    exact⟨zad HC.out.symm,bla ((Below.refl _ _).alloc (Nat.le_refl _) _) hb⟩
  ·by_cases h1:d.kind=1
   ·have HC:Hid (za6 d=zwt d):=by
     show za6 d=zwt d
     rw[za6,if_neg (by omega),if_neg (by simp[hp]),if_pos h1]
    obtain⟨kind,by_,no,seen,at_,many,text⟩:=d
    obtain rfl:kind=1:=h1
    clear hk
    go_enter Tryz.func183,Tryz.ntmps183
    go_wp2_with fail
    refine(zma ⟨_,by_,no,seen,at_,many,text⟩ _).mono ?_
    rintro e w1 ⟨rfl,hb⟩
    rw[hp]
    obtain⟨hc,hf⟩:=zds hb
    go_wp2_with fail
    refine(zvm ⟨_,by_,no,seen,at_,many,text⟩ _).mono ?_
    rintro e w2 ⟨rfl,hb2⟩
    clear hc hf
    go_wp2
    go_ret
    exact⟨zad HC.out.symm,bla (bla ((Below.refl _ _).alloc (Nat.le_refl _) _) hb) hb2⟩
   ·have HC:Hid (za6 d=zl4 d):=by
     show za6 d=zl4 d
     rw[za6,if_neg (by omega),if_neg (by simp[hp]),if_neg h1]
    obtain⟨kind,by_,no,seen,at_,many,text⟩:=d
    obtain rfl:kind=2:=by rcases hk with h|h;exact absurd h h1;exact h
    clear hk h1
    go_enter Tryz.func183,Tryz.ntmps183
    go_wp2_with fail
    refine(zma ⟨_,by_,no,seen,at_,many,text⟩ _).mono ?_
    rintro e w1 ⟨rfl,hb⟩
    rw[hp]
    obtain⟨hc,hf⟩:=zds hb
    go_wp2_with fail
    refine(zt4 ⟨_,by_,no,seen,at_,many,text⟩ _).mono ?_
    rintro e w2 ⟨rfl,hb2⟩
    clear hc hf
    go_wp2
    go_ret
    exact⟨zad HC.out.symm,bla (bla ((Below.refl _ _).alloc (Nat.le_refl _) _) hb) hb2⟩
 ·have HC:Hid (za6 d=2):=by
   show za6 d=2
   rw[za6,if_pos (by omega)]
  obtain⟨kind,by_,no,seen,at_,many,text⟩:=d
  have h1:(kind != 1)=true:=by simp;intro e;exact hk (.inl e)
  have h2:(kind != 2)=true:=by simp;intro e;exact hk (.inr e)
  clear hk
  go_enter Tryz.func183,Tryz.ntmps183
  go_wp2
  go_ret
  exact⟨zad HC.out.symm,(Below.refl _ _).alloc (Nat.le_refl _) _⟩
structure zgc(w:World)(B:Nat)(d:Dd)(v:Value)(l:List Ch)(wk:World):Prop where
 below:Below w.heap.size w wk
 at_:zde wk B 0 d
 lst:Lst wk v l
theorem zgc.after{w wk w':World}{B:Nat}{d:Dd}{v:Value}{l:List Ch}(h:zgc w B d v l wk)(hb:Below wk.heap.size wk w'):zgc w B d v l w':=
 ⟨bla h.below hb,h.at_.below hb,h.lst.below hb⟩
theorem zgc.drew{w wk:World}{B:Nat}{d:Dd}{v:Value}{l:List Ch}(h:zgc w B d v l wk):zgc w B d v l wk.drew:=h.after (Below.refl _ _).drew
theorem zdb{w:World}{d:Dd}{v:Value}{l:List Ch}(h:Lst w v l):zgc w w.heap.size d v l (w.alloc (zcc d)):=
 have hb:Below w.heap.size w (w.alloc (zcc d)):=(Below.refl _ _).alloc (Nat.le_refl _) _
 ⟨hb,zb7 w d,h.below hb⟩
theorem count_q{w wk:World}{B:Nat}{d:Dd}{v:Value}{l:List Ch}(h:zgc w B d v l wk)(hl:l.length≤1000)(seen by_:Int):
 Calls Tryz.prog 231 #[v,.int .i64 seen,.int .i64 by_] wk fun e w'=>e= .returned (.int .i64 (cnt l seen by_))∧zgc w B d v l w':=
 (qgf h.lst hl seen by_).mono fun _ _ ⟨he,hb⟩=>⟨he,h.after hb⟩
theorem mayC_of(l:List Ch)(d:Dd)(h:za6 d=0):zgx l d=if cnt l d.seen d.by_<d.at_+d.many then 1 else if 200<l.length+d.text.size then 9 else 0:=by
 rw[zgx,if_neg (fun e=>e h)]
theorem zsk(l:List Ch)(d:Dd)(v:Value)(w:World)(h:Lst w v l)(hl:l.length≤1000):
 Calls Tryz.prog 218 #[v,ddV d] w fun e w'=>e= .returned (.int .i64 (zgx l d))∧Below w.heap.size w w':=by
 have HI:Hid _:=zdb (d:=d) h
 obtain⟨ad,cap,rfl,hcap⟩:=h.len
 by_cases hc:za6 d=0
 ·have HM:Hid _:=mayC_of l d hc
  have hp:=zah hc
  obtain⟨kind,by_,no,seen,at_,many,text⟩:=d
  have HC:Hid (za6 ⟨kind,by_,no,seen,at_,many,text⟩=0):=hc
  have hcn:=zna l seen by_
  obtain⟨_,_,_,_,_,_,p1,p2,p3,p4,p5,p6⟩:=hp
  have ht:text.size≤20:=by
   by_cases hk:kind=1
   ·exact(p5 hk).2.1
   ·have:=p6 hk;simp only at this;omega
  simp only at p1 p2 p3 p4 HM
  clear h hc p5 p6
  go_enter Tryz.func218,Tryz.ntmps218
  go_wp2_with fail
  refine(zji ⟨kind,by_,no,seen,at_,many,text⟩ _).mono ?_
  rintro e w1 ⟨rfl,hb⟩
  rw[HC.out]
  have HI1:Hid _:=HI.out.after hb
  clear hb HI
  go_wp2
  refine wp_region_quiet (C:=fun wk=>zgc w w.heap.size ⟨kind,by_,no,seen,at_,many,text⟩ (.slice ad l.length cap) l wk) (by kernel_rfl) (by kernel_rfl) (HI1.out.drew) ?_
  refine wpQuiet_step (fun K hK=> ?_)
  go_simp
  refine⟨_,fun _ _=>rfl,hK _ ?_⟩
  clear hK K
  refine wpQuiet_step (fun K hK=> ?_)
  go_simp
  refine⟨_,fun _ _=>rfl,hK _ ?_⟩
  clear hK K
  refine wpQuiet_step (fun K hK=> ?_)
  go_simp
  refine⟨.int .i64 seen,fun wk hwk=> ?_,hK _ ?_⟩
  ·obtain⟨_,c0,c1,c2,c3,c4,c5,c6⟩:=hwk.at_
   simp only[Nat.zero_add]at c0 c1 c2 c3 c4 c5 c6
   go_simp
  clear hK K
  refine wpQuiet_step (fun K hK=> ?_)
  go_simp
  refine⟨_,fun _ _=>rfl,hK _ ?_⟩
  clear hK K
  refine wpQuiet_step (fun K hK=> ?_)
  go_simp
  refine⟨.int .i64 by_,fun wk hwk=> ?_,hK _ ?_⟩
  ·obtain⟨_,c0,c1,c2,c3,c4,c5,c6⟩:=hwk.at_
   simp only[Nat.zero_add]at c0 c1 c2 c3 c4 c5 c6
   go_simp
  clear hK K
  refine wpQuiet_step (fun K hK=> ?_)
  go_simp
  refine⟨_,fun wk hwk=>count_q hwk hl _ _,hK _ ?_⟩
  clear hK K
  refine wpQuiet_step (fun K hK=> ?_)
  go_simp
  refine⟨_,fun _ _=>rfl,hK _ ?_⟩
  clear hK K
  refine wpQuiet_step (fun K hK=> ?_)
  go_simp
  refine⟨.int .i64 at_,fun wk hwk=> ?_,hK _ ?_⟩
  ·obtain⟨_,c0,c1,c2,c3,c4,c5,c6⟩:=hwk.at_
   simp only[Nat.zero_add]at c0 c1 c2 c3 c4 c5 c6
   go_simp
  clear hK K
  refine wpQuiet_step (fun K hK=> ?_)
  go_simp
  refine⟨_,fun _ _=>rfl,hK _ ?_⟩
  clear hK K
  refine wpQuiet_step (fun K hK=> ?_)
  go_simp
  refine⟨.int .i64 many,fun wk hwk=> ?_,hK _ ?_⟩
  ·obtain⟨_,c0,c1,c2,c3,c4,c5,c6⟩:=hwk.at_
   simp only[Nat.zero_add]at c0 c1 c2 c3 c4 c5 c6
   go_simp
  clear hK K
  refine wpQuiet_step (fun K hK=> ?_)
  go_simp
  refine⟨.int .i64 (at_+many),fun wk hwk=> ?_,hK _ ?_⟩
  ·have e:IntKind.i64.wrap (at_+many)=at_+many:=by rw[IntKind.wrap_i64];omega
   rw[e]
  clear hK K
  refine wpQuiet_step (fun K hK=> ?_)
  go_simp
  refine⟨_,fun _ _=>rfl,hK _ ?_⟩
  clear hK K
  refine wpQuiet_step (fun K hK=> ?_)
  go_simp
  refine⟨_,fun _ _=>rfl,hK _ ?_⟩
  clear hK K
  refine wpQuiet_nil ?_
  intro w2 hw2
  have HI2:Hid _:=hw2
  obtain⟨_,c0,c1,c2,c3,c4,c5,c6⟩:=hw2.at_
  simp only[Nat.zero_add]at c0 c1 c2 c3 c4 c5 c6
  clear hw2
  by_cases h1:cnt l seen by_<at_+many
  ·go_wp2
   go_ret
   exact⟨zad (by rw[HM.out,if_pos (by omega)]),HI2.out.below⟩
  ·by_cases h2:200<l.length+text.size
   ·go_wp2
    go_ret
    exact⟨zad (by rw[HM.out,if_neg (by omega),if_pos (by omega)]),HI2.out.below⟩
   ·go_wp2
    go_ret
    exact⟨zad (by rw[HM.out,if_neg (by omega),if_neg (by omega)]),HI2.out.below⟩
 ·have HM:Hid (zgx l d=za6 d):=by show zgx l d=za6 d;rw[zgx,if_pos hc]
  have hne:(za6 d != 0)=true:=by simp[hc]
  obtain⟨kind,by_,no,seen,at_,many,text⟩:=d
  clear h hc
  go_enter Tryz.func218,Tryz.ntmps218
  go_wp2_with fail
  refine(zji ⟨kind,by_,no,seen,at_,many,text⟩ _).mono ?_
  rintro e w1 ⟨rfl,hb⟩
  have HI1:Hid _:=HI.out.after hb
  clear hb HI
  generalize za6 ⟨kind,by_,no,seen,at_,many,text⟩=c at*
  go_wp2
  go_ret
  exact⟨zad HM.out.symm,HI1.out.below⟩
theorem zjl{seen by_:Int}:∀(l:List Ch) (m n:Nat) (hm:m<l.length),za5 seen by_ l[m]=true→(vw (l.take (m+1)) seen by_).length=n→za8 seen by_ n l=some (m+1)
 |[],m,n,hm,_,_=>absurd hm (Nat.not_lt_zero _)
 |x::r,0,n,_,hs,hn=>by
  have hs':za5 seen by_ x=true:=hs
  rw[List.take_succ_cons,List.take_zero,zc9 _ hs']at hn
  obtain rfl:n=1:=by simpa [vw]using hn.symm
  rw[za8,if_pos hs']
  cases r<;>rfl
 |x::r,m+1,n,hm,hs,hn=>by
  have hm':m<r.length:=by simpa using hm
  have hs':za5 seen by_ r[m]=true:=hs
  rw[List.take_succ_cons]at hn
  by_cases hx:za5 seen by_ x=true
  ·rw[zc9 _ hx,List.length_cons]at hn
   obtain⟨n',rfl⟩:∃n',n=n'+1:=⟨_,hn.symm⟩
   rw[za8,if_pos hx,zjl r m n' hm' hs' (by omega)]
   rfl
  ·rw[zcy _ (by simpa using hx)]at hn
   have hpos:0<n:=by
    rw[zcj r m hm',zye,zc9 _ hs',List.length_append,List.length_cons]at hn
    omega
   obtain⟨n',rfl⟩:∃n',n=n'+1:=⟨n-1,by omega⟩
   rw[za8,if_neg hx,zjl r m (n'+1) hm' hs' hn]
   rfl
theorem zmr{w:World}{v:Value}{l:List Ch}(h:Lst w v l)(hl:l.length≤1000)(seen by_ n:Int)(h0:0≤n)(hn:n≤cnt l seen by_):
 Calls Tryz.prog 232 #[v,.int .i64 seen,.int .i64 by_,.int .i64 n] w fun e w'=>∃p:Nat,e= .returned (.int .i64 p)∧za8 seen by_ n.toNat l=some p∧p≤l.length∧Below w.heap.size w w':=by
 obtain⟨a,len,cap,rfl,h1,h2,h3⟩:=h
 rcases h3 with rfl|⟨b,off,rfl,hr⟩
 ·obtain rfl:l=[]:=List.length_eq_zero_iff.1 h1
  have hz:n=0:=by simp[cnt]at hn;omega
  subst hz
  refine(zvr a cap seen by_ 0 w).mono ?_
  rintro e w' ⟨rfl,hb⟩
  exact⟨0,rfl,rfl,Nat.le_refl _,hb⟩
 ·refine(zy6 b off len cap l seen by_ n w h1 (by omega) hr).mono ?_
  rintro e w' ⟨r,rfl,hbi,hb⟩
  by_cases hz:n=0
  ·subst hz
   rw[zy4 hbi]
   exact⟨0,rfl,by cases l<;>rfl,Nat.zero_le _,hb⟩
  ·obtain⟨m,hm,rfl,hc,hs⟩:=qc6 hbi (by omega) hn
   refine⟨m+1,rfl,zjl l m n.toNat hm hs ?_,hm,hb⟩
   have:=zix (l.take (m+1)) seen by_
   omega
theorem zd2{P:Program}{ρ:Operand→Value}{o:Oper}{t:TypeId}{x:Operand}{lo hi mx:Option Operand}{u:Value}{w:World}(h:o.op= .slice t x lo hi mx)
 (hr:(Instr.sliceAt t (ρ x) (lo.map ρ) (hi.map ρ) (mx.map ρ)).run P w= .ok u w):(execOp ρ o).run P w= .ok (.value u) w:=by
 unfold execOp
 rw[h]
 simp[hr]
theorem zmm:Tryz.prog.elem 91=127:=by kernel_rfl
theorem zhk:Tryz.prog.underlying 91=some (.slice (Tryz.prog.elem 91)):=by kernel_rfl
theorem zol(w:World):(sizeOf 127).run Tryz.prog w= .ok 7 w:=by
 obtain⟨i0,hi,_,hz1,_⟩:=info_parts Tryz.infoChar
 simp[sizeOf,typeInfo,hi,hz1]
theorem zef(a:Option Addr)(len cap k:Nat)(hk:k≤cap)(w:World):(Instr.sliceAt 91 (.slice a len cap) none (some (.int .i64 k)) none).run Tryz.prog w= .ok (sliced a 0 k cap 7) w:=by
 rw[run_sliceAt_slice _ _ _ _ _ _ zhk,run_slice_h _ _ _ _ _ zhk _ _ (by omega) (by omega),zmm,zol]
 rfl
theorem zeg(a:Option Addr)(len cap k:Nat)(hk:k≤len)(w:World):(Instr.sliceAt 91 (.slice a len cap) (some (.int .i64 k)) none none).run Tryz.prog w= .ok (sliced a k len cap 7) w:=by
 rw[run_sliceAt_slice _ _ _ _ _ _ zhk,run_slice_l _ _ _ _ _ zhk _ _ (by omega) (by omega),zmm,zol]
 rfl
theorem zi9{w:World}{a:Option Addr}{cap:Nat}{l:List Ch}(h:Lst w (.slice a l.length cap) l){k:Nat}(hk:k≤l.length):Lst w (sliced a 0 k cap 7) (l.take k):=by
 obtain⟨a',len,cap',he,h1,h2,h3⟩:=h
 simp only[Value.slice.injEq]at he
 obtain⟨rfl,rfl,rfl⟩:=he
 have e:(if cap=0 then a else a.map (·.add (0*7)))=a:=by
  split
  ·rfl
  ·cases a with
   |none=>rfl
   |some ad=>
    rcases h3 with h3|⟨b,off,h3,_⟩
    ·obtain⟨b,off,spot⟩:=ad
     cases spot<;>simp[Addr.add]
    ·cases h3
     simp[zdx]
 refine⟨a,k,cap,?_,by rw[List.length_take];omega,by omega,?_⟩
 ·unfold sliced
  rw[e]
  rfl
 ·rcases h3 with h3|⟨b,off,rfl,hr⟩
  ·exact .inl (by omega)
  ·exact .inr ⟨b,off,rfl,hr.take k⟩
theorem zia{w:World}{a:Option Addr}{cap:Nat}{l:List Ch}(h:Lst w (.slice a l.length cap) l){k:Nat}(hk:k≤l.length):Lst w (sliced a k l.length cap 7) (l.drop k):=by
 obtain⟨a',len,cap',he,h1,h2,h3⟩:=h
 simp only[Value.slice.injEq]at he
 obtain⟨rfl,rfl,rfl⟩:=he
 refine⟨_,l.length-k,cap-k,rfl,by rw[List.length_drop],by omega,?_⟩
 rcases h3 with h3|⟨b,off,rfl,hr⟩
 ·exact .inl (by omega)
 ·by_cases hc:cap=k
  ·exact .inl (by omega)
  ·rw[if_neg hc]
   exact .inr ⟨b,off+k*7,by simp[zdx],hr.drop' k⟩
end Go.Proofs.YtcbnnfeelhlapadGreatDoor