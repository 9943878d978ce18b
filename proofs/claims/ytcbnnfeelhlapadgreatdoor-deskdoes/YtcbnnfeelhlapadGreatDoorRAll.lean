/-
  The document's own Do of bytes that are taken away: its contract.
-/
import Derived.Test.YtcbnnfeelhlapadGreatDoorRDoP
import Derived.Test.YtcbnnfeelhlapadGreatDoorFLiP
import Derived.Test.YtcbnnfeelhlapadGreatDoorWRel
namespace Go.Proofs.YtcbnnfeelhlapadGreatDoor
set_option maxHeartbeats 3200000
set_option maxRecDepth 20000
open Go.RowKit
structure TI(w:World)(d:Dd)(v:Value)(l:List Ch)(u:Value)(z:List Ch)(C:Nat)(x:Ch)(wk:World):Prop where
 p:PI w d v l u z wk
 lo:w.heap.size+1≤C
 lt:C<wk.heap.size
 ne:u.ownBlock≠some C
 at_:At wk C 0 x
 free:∀o,o<7→wk.frozen? ⟨C,o,none⟩=false
theorem TI.after{w wk w':World}{d:Dd}{v u:Value}{l z:List Ch}{C:Nat}{x:Ch}(h:TI w d v l u z C x wk)(hb:Below wk.heap.size wk w'):TI w d v l u z C x w':=by
 obtain⟨hc,hf⟩:=zds hb
 refine⟨h.p.after hb,h.lo,Nat.lt_of_lt_of_le h.lt hb.size,h.ne,?_,fun o ho=>by rw[hf _ _ h.lt];exact h.free o ho⟩
 have:=h.at_
 unfold At at this⊢
 simp only[hc _ _ h.lt]
 exact this
theorem zyn{w wk:World}{d:Dd}{v u:Value}{l z:List Ch}(x:Ch)(h:PI w d v l u z wk):TI w d v l u z wk.heap.size x (wk.alloc (.cells #[.int .u8 x.c,.int .i64 x.by_,.int .i64 x.no,.int .i64 x.k,.int .i64 x.inn,.int .i64 x.out,.int .i64 x.gone] 127)):=by
 refine⟨h.after ((Below.refl _ _).alloc (Nat.le_refl _) _),h.size,by simp,fun e=> ?_,?_,fun o ho=> ?_⟩
 ·have:=(World.ownsRow.lt h.own _ e).2
  omega
 ·refine⟨?_,?_,?_,?_,?_,?_,?_⟩<;>simp[go_sem]
 ·rcases(show o=0∨o=1∨o=2∨o=3∨o=4∨o=5∨o=6 by omega)with rfl|rfl|rfl|rfl|rfl|rfl|rfl<;>simp[go_sem]
theorem PI.set{w wk:World}{d:Dd}{v u:Value}{l z:List Ch}{C o:Nat}(h:PI w d v l u z wk)(h0:Lst w v l)(hC:w.heap.size+1≤C)(hne:u.ownBlock≠some C)(y:Value):PI w d v l u z (wk.setCell ⟨C,o,none⟩ y):=by
 have hb:Below (w.heap.size+1) wk (wk.setCell ⟨C,o,none⟩ y):=(Below.refl _ _).setCell (p:=⟨C,o,none⟩) hC _
 have hc:∀o',(wk.setCell ⟨C,o,none⟩ y).cell? ⟨w.heap.size,o',none⟩=wk.cell? ⟨w.heap.size,o',none⟩:=fun o'=>hb.cell (p:=⟨w.heap.size,o',none⟩) (Nat.lt_succ_self _)
 have hbl:Below w.heap.size w (wk.setCell ⟨C,o,none⟩ y):=h.m.below.trans (hb.mono (by omega))
 obtain⟨c,c0,c1,c2,c3,c4,c5,c6⟩:=h.m.at_
 refine⟨⟨hbl,⟨by have:=hb.size;omega,?_,?_,?_,?_,?_,?_,?_⟩,h0.below hbl⟩,?_⟩
 ·rw[hc];exact c0
 ·rw[hc];exact c1
 ·rw[hc];exact c2
 ·rw[hc];exact c3
 ·rw[hc];exact c4
 ·rw[hc];exact c5
 ·rw[hc];exact c6
 ·exact World.ownsRow.kept (row:=some C) h.own ⟨rfl,rfl,rfl,by simp[World.setCell],fun k _ hk=>Below.heap_setCell _ _ _ _ (fun e=>hk (by rw[e]))⟩ (.inr hne)
theorem TI.gone{w wk:World}{d:Dd}{v u:Value}{l z:List Ch}{C:Nat}{c b no k i o g:Int}(h:TI w d v l u z C ⟨c,b,no,k,i,o,g⟩ wk)(h0:Lst w v l)(n:Int):TI w d v l u z C ⟨c,b,no,k,i,o,n⟩ (wk.setCell ⟨C,6,none⟩ (.int .i64 n)):=by
 obtain⟨a0,a1,a2,a3,a4,a5,a6⟩:=h.at_
 simp only[Nat.zero_add]at a0 a1 a2 a3 a4 a5 a6
 refine⟨h.p.set h0 h.lo h.ne _,h.lo,by simpa [World.setCell]using h.lt,h.ne,?_,fun o ho=> ?_⟩
 ·refine⟨?_,?_,?_,?_,?_,?_,?_⟩<;>simp[go_sem,a0,a1,a2,a3,a4,a5,a6]
 ·have:=h.free o ho
  simpa [go_sem]using this
theorem TI.out{w wk:World}{d:Dd}{v u:Value}{l z:List Ch}{C:Nat}{c b no k i o g:Int}(h:TI w d v l u z C ⟨c,b,no,k,i,o,g⟩ wk)(h0:Lst w v l)(n:Int):TI w d v l u z C ⟨c,b,no,k,i,n,g⟩ (wk.setCell ⟨C,5,none⟩ (.int .i64 n)):=by
 obtain⟨a0,a1,a2,a3,a4,a5,a6⟩:=h.at_
 simp only[Nat.zero_add]at a0 a1 a2 a3 a4 a5 a6
 refine⟨h.p.set h0 h.lo h.ne _,h.lo,by simpa [World.setCell]using h.lt,h.ne,?_,fun o ho=> ?_⟩
 ·refine⟨?_,?_,?_,?_,?_,?_,?_⟩<;>simp[go_sem,a0,a1,a2,a3,a4,a5,a6]
 ·have:=h.free o ho
  simpa [go_sem]using this
theorem lst_one'(w:World)(x:Ch){n:Nat}(hn:n=w.heap.size):Lst (w.alloc (.cells #[.int .u8 x.c,.int .i64 x.by_,.int .i64 x.no,.int .i64 x.k,.int .i64 x.inn,.int .i64 x.out,.int .i64 x.gone] 127)) (.slice (some ⟨n,0,none⟩) 1 1) [x]:=by
 subst hn
 exact qex w x
def tkL(d:Dd)(number:Int)(l:List Ch)(k:Nat):List Ch:=zc0 d number 0 (l.take k)
theorem qdb(d:Dd)(number:Int)(l:List Ch)(k:Nat):(tkL d number l k).length≤l.length:=by
 rw[tkL,zgh,List.length_take]
 omega
theorem zym(d:Dd)(number:Int){l:List Ch}{k:Nat}(hk:k<l.length):tkL d number l (k+1)=tkL d number l k++[if za5 d.seen d.by_ l[k]=true then(if d.at_≤cnt (l.take k) d.seen d.by_∧cnt (l.take k) d.seen d.by_<d.at_+d.many then zf1 d.by_ number l[k]else l[k])else l[k]]:=by
 rw[tkL,zcj l k hk,zm2,Int.zero_add]
 rfl
theorem mark_num{by_ number:Int}{x:Ch}(hn:number≤1000)(t:Int)(ht:t=2 ^ by_.toNat):zf1 by_ number x=⟨x.c,x.by_,x.no,x.k,x.inn,if x.out=0∨number<x.out then number else x.out,x.gone+t⟩:=by
 have h:number≠za0:=by show number≠1073741824;omega
 rw[zf1,zaj,ht]
 simp only[h,ne_eq,not_false_eq_true,true_and]
theorem zz7(m:Nat):(2:Int) ^ (m+1)=2 ^ m*2:=Int.pow_succ 2 m
theorem zud{m:Nat}(h:m≤3):1≤(2:Int) ^ m∧(2:Int) ^ m≤8:=by
 rcases(show m=0∨m=1∨m=2∨m=3 by omega)with rfl|rfl|rfl|rfl<;>decide
theorem zox(b off len cap:Nat)(l:List Ch)(d:Dd)(number:Int)(w:World)(hl:l.length=len)(hm:len≤1000)(hr:Row w b off l)(hcap:len≤cap)(ht:zgs l)(hk:d.kind≠1)(hc:doC l d number=0)(hnum:number≤1000):
 Calls Tryz.prog 103 #[.slice (some ⟨b,off,none⟩) len cap,ddV d,.int .i64 number] w fun e w'=>∃v',e= .returned (.tuple #[v',.int .i64 0])∧Own w' w.heap.size v' (doL l d number)∧Below w.heap.size w w':=by
 have H0:Hid (Lst w (.slice (some ⟨b,off,none⟩) len cap) l):=⟨_,_,_,rfl,hl,hcap,.inr ⟨b,off,rfl,hr⟩⟩
 have HI:Hid (zgc w w.heap.size d (.slice (some ⟨b,off,none⟩) len cap) l (w.alloc (zcc d))):=zdb (d:=d) H0.out
 have HR:Hid (Row w b off l):=hr
 have HL:Hid (l.length=len):=hl
 have HT:Hid (zgs l):=ht
 obtain⟨q1,q2,q3,q4⟩:=zc2 hc
 have HM:Hid (zgx l d=0):=by
  show zgx l d=0
  unfold doC at hc
  by_cases hm:zgx l d=0
  ·exact hm
  ·rw[if_pos hm]at hc;exact hc
 obtain⟨_,hw,_,_,_,_,p1,p2,p3,p4,_,_⟩:=zah q1
 have HD:Hid (doL l d number=tkL d number l len):=by
  show doL l d number=_
  rw[doL,if_neg hk,tkL,←hl,List.take_length]
 have hwb:0≤d.by_∧d.by_≤3:=by simpa [wrB]using hw
 have hk':(d.kind==1)=false:=by simp[hk]
 have hno':(number != 1073741824)=true:=by simp;omega
 obtain⟨kind,by_,no,seen,at_,many,text⟩:=d
 simp only at q2 q3 p1 p2 p3 p4 HD hwb hk'
 obtain⟨hb0,hb3⟩:=hwb
 obtain⟨q,rfl⟩:=Int.eq_ofNat_of_zero_le hb0
 clear hr hl ht hc hk hw
 go_enter Tryz.func103,Tryz.ntmps103
 go_wp2_with fail
 refine(zlg l ⟨kind,(q:Int),no,seen,at_,many,text⟩ _ _ HI.out.lst (by rw[HL.out];exact hm) HT.out).mono ?_
 rintro e w1 ⟨rfl,hb1⟩
 rw[HM.out]
 have HI1:Hid (PI w ⟨kind,(q:Int),no,seen,at_,many,text⟩ (.slice (some ⟨b,off,none⟩) len cap) l (.slice none 0 0) [] w1):=⟨HI.out.after hb1,zd7 _ _⟩
 clear hb1 HI HM
 obtain⟨_,c0,c1,c2,c3,c4,c5,c6⟩:=HI1.out.m.at_
 simp only[Nat.zero_add]at c0 c1 c2 c3 c4 c5 c6
 go_wp2
 clear c0 c1 c2 c3 c4 c5 c6
 go_loopw [9,11,12] (fun u n i wr=>∃k:Nat,k≤len∧i= .int .i64 k∧n= .int .i64 (cnt (l.take k) seen q)∧Hid (PI w ⟨kind,(q:Int),no,seen,at_,many,text⟩ (.slice (some ⟨b,off,none⟩) len cap) l u (tkL ⟨kind,(q:Int),no,seen,at_,many,text⟩ number l k) wr)) (fun _ _ i _=>len-(intOf i).toNat)
 case atStart=>exact⟨0,Nat.zero_le _,rfl,rfl,HI1⟩
 case round=>
  obtain⟨k,hk,rfl,rfl,HP⟩:=hrel
  clear HI1
  by_cases hlt:k<len
  ·have hkl:k<l.length:=by rw[HL.out];exact hlt
   obtain⟨t1,t2,t3,t4⟩:=zjo HT.out k hkl
   have hcb:=zna (l.take k) seen q
   have hle:(l.take k).length≤k:=List.length_take_le _ _
   have HCN:Hid (cnt (l.take (k+1)) seen q=cnt (l.take k) seen q+if za5 seen q l[k]=true then 1 else 0):=by show _=_;rw[zcj l k hkl];exact zig _ _ _ _
   have HN:Hid (_=_):=zym ⟨kind,(q:Int),no,seen,at_,many,text⟩ number hkl
   have HZ:Hid ((tkL ⟨kind,(q:Int),no,seen,at_,many,text⟩ number l k).length≤1000):=by have:=qdb ⟨kind,(q:Int),no,seen,at_,many,text⟩ number l k;rw[HL.out]at this;show _≤_;omega
   have HMK:Hid (∀t:Int,t=2 ^ (q:Int).toNat→zf1 q number l[k]=_):=fun t=>mark_num (x:=l[k]) hnum t
   obtain⟨h0,h1,h2,h3,h4,h5,h6⟩:=(HR.out.below HP.out.m.below).at_ k hkl
   obtain⟨_,c0,c1,c2,c3,c4,c5,c6⟩:=HP.out.m.at_
   simp only[Nat.zero_add]at c0 c1 c2 c3 c4 c5 c6
   simp only at HN
   generalize l[k]=x at h0 h1 h2 h3 h4 h5 h6 HN HCN HMK t1 t2 t3 t4
   generalize cnt (l.take k) seen q=n at*
   generalize tkL ⟨kind,(q:Int),no,seen,at_,many,text⟩ number l k=zs at*
   obtain⟨xc,xb,xn,xk,xi,xo,xg⟩:=x
   simp only at h0 h1 h2 h3 h4 h5 h6 t1 t3 t4 HMK
   have HS:Hid (TI w ⟨kind,(q:Int),no,seen,at_,many,text⟩ (.slice (some ⟨b,off,none⟩) len cap) l u9 zs wr.heap.size ⟨xc,xb,xn,xk,xi,xo,xg⟩ (wr.alloc (.cells #[.int .u8 xc,.int .i64 xb,.int .i64 xn,.int .i64 xk,.int .i64 xi,.int .i64 xo,.int .i64 xg] 127))):=zyn ⟨xc,xb,xn,xk,xi,xo,xg⟩ HP.out
   obtain⟨hcb0,hcb1⟩:=hcb
   have hnk:n≤1000:=by omega
   clear hle hcb1
   go_wp2_with fail
   refine(zgk ⟨xc,xb,xn,xk,xi,xo,xg⟩ _ _ _ t1 (by simp only;omega) (by simp only;omega)).mono ?_
   rintro e w2 ⟨rfl,hb2⟩
   have HS2:Hid (TI w ⟨kind,(q:Int),no,seen,at_,many,text⟩ (.slice (some ⟨b,off,none⟩) len cap) l u9 zs wr.heap.size ⟨xc,xb,xn,xk,xi,xo,xg⟩ w2):=HS.out.after hb2
   generalize wr.heap.size=C at*
   clear h0 h1 h2 h3 h4 h5 h6 c0 c1 c2 c3 c4 c5 c6 hb2 HS
   obtain⟨_,c0,c1,c2,c3,c4,c5,c6⟩:=HS2.out.p.m.at_
   obtain⟨a0,a1,a2,a3,a4,a5,a6⟩:=HS2.out.at_
   have f5:=HS2.out.free 5 (by omega)
   have f6:=HS2.out.free 6 (by omega)
   simp only[Nat.zero_add]at c0 c1 c2 c3 c4 c5 c6 a0 a1 a2 a3 a4 a5 a6
   have hCw:¬C=w.heap.size:=by have:=HS2.out.lo;omega
   have hCw':¬w.heap.size=C:=by have:=HS2.out.lo;omega
   cases hs:za5 seen q ⟨xc,xb,xn,xk,xi,xo,xg⟩
   ·rw[hs]at HN HCN
    go_wp2_with (at_builtin;refine zbe _ rfl (.tmp 132) (.tmp 134) rfl (w.heap.size+1) (v:=u9) (u:= .slice (some ⟨_,0,none⟩) 1 1) (b:=[⟨xc,xb,xn,xk,xi,xo,xg⟩]) rfl rfl (HS2.out.p.own.below ((Below.refl _ _).alloc (Nat.le_refl _) _)) (lst_one' _ ⟨xc,xb,xn,xk,xi,xo,xg⟩ (by simp)) ?ca1 ?cb1 ?_)
    case ca1=>have:=HZ.out;simp;omega
    case cb1=>have:=HS2.out.p.size;simp at this⊢;omega
    intro v8 w8 ho hg
    have H8:Hid (PI w ⟨kind,(q:Int),no,seen,at_,many,text⟩ (.slice (some ⟨b,off,none⟩) len cap) l v8 (zs++[⟨xc,xb,xn,xk,xi,xo,xg⟩]) w8):=(HS2.out.p.after ((Below.refl _ _).alloc (Nat.le_refl _) _)).grown H0.out hg ho
    clear ho hg c0 c1 c2 c3 c4 c5 c6 a0 a1 a2 a3 a4 a5 a6 f5 f6 hCw hCw'
    go_wp2
    go_roundw
    case rel=>exact⟨k+1,by omega,by go_num,by rw[HCN.out];simp,by rw[HN.out];exact H8⟩
    case measure=>simp[intOf];omega
   ·rw[hs]at HN HCN
    by_cases hA:at_≤n
    ·by_cases hB:n<at_+many
     ·have HY:Hid (∀t:Int,t=2 ^ (q:Int).toNat→(if true=true then(if at_≤n∧n<at_+many then zf1 q number ⟨xc,xb,xn,xk,xi,xo,xg⟩else⟨xc,xb,xn,xk,xi,xo,xg⟩)else⟨xc,xb,xn,xk,xi,xo,xg⟩)=⟨xc,xb,xn,xk,xi,if xo=0∨number<xo then number else xo,xg+t⟩):=fun t e=>by rw[if_pos rfl,if_pos ⟨hA,hB⟩];exact HMK.out t e
      go_wp2
      go_loop [14,15] (fun bit j=>∃(m:Nat) (t:Int),m≤q∧j= .int .i64 m∧bit= .int .i64 t∧Hid (t=2 ^ m)) (fun _ j=>q-(intOf j).toNat)
      case atStart=>exact⟨0,1,Nat.zero_le _,rfl,rfl,rfl⟩
      case round=>
       obtain⟨m,t,hmq,rfl,rfl,HTM⟩:=hrel
       have htb:1≤t∧t≤8:=by rw[HTM.out];exact zud (by omega)
       obtain⟨ht1,ht8⟩:=htb
       by_cases hmlt:m<q
       ·go_wp2
        go_round
        case rel=>exact⟨m+1,t*2,by omega,by go_num,rfl,by show _=_;rw[zz7,HTM.out]⟩
        case measure=>simp[intOf];omega
       ·obtain rfl:m=q:=by omega
        have HYT:Hid _:=HY.out t (by rw[HTM.out];rfl)
        have HS3:Hid (TI w ⟨kind,(m:Int),no,seen,at_,many,text⟩ (.slice (some ⟨b,off,none⟩) len cap) l u9 zs C ⟨xc,xb,xn,xk,xi,xo,xg+t⟩ (w2.setCell ⟨C,6,none⟩ (.int .i64 (xg+t)))):=HS2.out.gone H0.out _
        clear HY HMK
        by_cases ho0:xo=0
        ·have ho0':(xo==0)=true:=by simp[ho0]
         have HYE:=HYT
         rw[if_pos (show xo=0∨number<xo from .inl ho0)]at HYE
         have HS4:Hid (TI w ⟨kind,(m:Int),no,seen,at_,many,text⟩ (.slice (some ⟨b,off,none⟩) len cap) l u9 zs C ⟨xc,xb,xn,xk,xi,number,xg+t⟩ ((w2.setCell ⟨C,6,none⟩ (.int .i64 (xg+t))).setCell ⟨C,5,none⟩ (.int .i64 number))):=HS3.out.out H0.out _
         clear ho0
         go_wp2_with (at_builtin;refine zbe _ rfl (.tmp 132) (.tmp 134) rfl (w.heap.size+1) (v:=u9) (u:= .slice (some ⟨_,0,none⟩) 1 1) (b:=[⟨xc,xb,xn,xk,xi,number,xg+t⟩]) rfl rfl (HS4.out.p.own.below ((Below.refl _ _).alloc (Nat.le_refl _) _)) (lst_one' _ ⟨xc,xb,xn,xk,xi,number,xg+t⟩ (by simp)) ?ca2 ?cb2 ?_)
         case ca2=>have:=HZ.out;simp;omega
         case cb2=>have:=HS4.out.p.size;simp at this⊢;omega
         intro v8 w8 ho hg
         have H8:Hid (PI w ⟨kind,(m:Int),no,seen,at_,many,text⟩ (.slice (some ⟨b,off,none⟩) len cap) l v8 (zs++[⟨xc,xb,xn,xk,xi,number,xg+t⟩]) w8):=(HS4.out.p.after ((Below.refl _ _).alloc (Nat.le_refl _) _)).grown H0.out hg ho
         clear ho hg c0 c1 c2 c3 c4 c5 c6 a0 a1 a2 a3 a4 a5 a6 f5 f6 hCw hCw'
         go_wp2
         go_roundw
         case rel=>exact⟨k+1,by omega,by go_num,by rw[HCN.out];simp,by rw[HN.out];rw[HYE.out];exact H8⟩
         case measure=>simp[intOf];omega
        ·have ho0':(xo==0)=false:=by simp[ho0]
         by_cases hog:number<xo
         ·have HYE:=HYT
          rw[if_pos (show xo=0∨number<xo from .inr hog)]at HYE
          have HS4:Hid (TI w ⟨kind,(m:Int),no,seen,at_,many,text⟩ (.slice (some ⟨b,off,none⟩) len cap) l u9 zs C ⟨xc,xb,xn,xk,xi,number,xg+t⟩ ((w2.setCell ⟨C,6,none⟩ (.int .i64 (xg+t))).setCell ⟨C,5,none⟩ (.int .i64 number))):=HS3.out.out H0.out _
          clear ho0
          go_wp2_with (at_builtin;refine zbe _ rfl (.tmp 132) (.tmp 134) rfl (w.heap.size+1) (v:=u9) (u:= .slice (some ⟨_,0,none⟩) 1 1) (b:=[⟨xc,xb,xn,xk,xi,number,xg+t⟩]) rfl rfl (HS4.out.p.own.below ((Below.refl _ _).alloc (Nat.le_refl _) _)) (lst_one' _ ⟨xc,xb,xn,xk,xi,number,xg+t⟩ (by simp)) ?ca3 ?cb3 ?_)
          case ca3=>have:=HZ.out;simp;omega
          case cb3=>have:=HS4.out.p.size;simp at this⊢;omega
          intro v8 w8 ho hg
          have H8:Hid (PI w ⟨kind,(m:Int),no,seen,at_,many,text⟩ (.slice (some ⟨b,off,none⟩) len cap) l v8 (zs++[⟨xc,xb,xn,xk,xi,number,xg+t⟩]) w8):=(HS4.out.p.after ((Below.refl _ _).alloc (Nat.le_refl _) _)).grown H0.out hg ho
          clear ho hg c0 c1 c2 c3 c4 c5 c6 a0 a1 a2 a3 a4 a5 a6 f5 f6 hCw hCw'
          go_wp2
          go_roundw
          case rel=>exact⟨k+1,by omega,by go_num,by rw[HCN.out];simp,by rw[HN.out];rw[HYE.out];exact H8⟩
          case measure=>simp[intOf];omega
         ·have HYE:=HYT
          rw[if_neg (show¬(xo=0∨number<xo) from fun e=>e.elim ho0 hog)]at HYE
          clear ho0
          go_wp2_with (at_builtin;refine zbe _ rfl (.tmp 132) (.tmp 134) rfl (w.heap.size+1) (v:=u9) (u:= .slice (some ⟨_,0,none⟩) 1 1) (b:=[⟨xc,xb,xn,xk,xi,xo,xg+t⟩]) rfl rfl (HS3.out.p.own.below ((Below.refl _ _).alloc (Nat.le_refl _) _)) (lst_one' _ ⟨xc,xb,xn,xk,xi,xo,xg+t⟩ (by simp)) ?ca4 ?cb4 ?_)
          case ca4=>have:=HZ.out;simp;omega
          case cb4=>have:=HS3.out.p.size;simp at this⊢;omega
          intro v8 w8 ho hg
          have H8:Hid (PI w ⟨kind,(m:Int),no,seen,at_,many,text⟩ (.slice (some ⟨b,off,none⟩) len cap) l v8 (zs++[⟨xc,xb,xn,xk,xi,xo,xg+t⟩]) w8):=(HS3.out.p.after ((Below.refl _ _).alloc (Nat.le_refl _) _)).grown H0.out hg ho
          clear ho hg c0 c1 c2 c3 c4 c5 c6 a0 a1 a2 a3 a4 a5 a6 f5 f6 hCw hCw'
          go_wp2
          go_roundw
          case rel=>exact⟨k+1,by omega,by go_num,by rw[HCN.out];simp,by rw[HN.out];rw[HYE.out];exact H8⟩
          case measure=>simp[intOf];omega
     ·have HYE:Hid ((if true=true then(if at_≤n∧n<at_+many then zf1 q number ⟨xc,xb,xn,xk,xi,xo,xg⟩else⟨xc,xb,xn,xk,xi,xo,xg⟩)else⟨xc,xb,xn,xk,xi,xo,xg⟩)=⟨xc,xb,xn,xk,xi,xo,xg⟩):=by show _=_;rw[if_pos rfl,if_neg (by omega)]
      go_wp2_with (at_builtin;refine zbe _ rfl (.tmp 132) (.tmp 134) rfl (w.heap.size+1) (v:=u9) (u:= .slice (some ⟨_,0,none⟩) 1 1) (b:=[⟨xc,xb,xn,xk,xi,xo,xg⟩]) rfl rfl (HS2.out.p.own.below ((Below.refl _ _).alloc (Nat.le_refl _) _)) (lst_one' _ ⟨xc,xb,xn,xk,xi,xo,xg⟩ (by simp)) ?ca5 ?cb5 ?_)
      case ca5=>have:=HZ.out;simp;omega
      case cb5=>have:=HS2.out.p.size;simp at this⊢;omega
      intro v8 w8 ho hg
      have H8:Hid (PI w ⟨kind,(q:Int),no,seen,at_,many,text⟩ (.slice (some ⟨b,off,none⟩) len cap) l v8 (zs++[⟨xc,xb,xn,xk,xi,xo,xg⟩]) w8):=(HS2.out.p.after ((Below.refl _ _).alloc (Nat.le_refl _) _)).grown H0.out hg ho
      clear ho hg c0 c1 c2 c3 c4 c5 c6 a0 a1 a2 a3 a4 a5 a6 f5 f6 hCw hCw'
      go_wp2
      go_roundw
      case rel=>exact⟨k+1,by omega,by go_num,by rw[HCN.out];simp,by rw[HN.out];rw[HYE.out];exact H8⟩
      case measure=>simp[intOf];omega
    ·have HYE:Hid ((if true=true then(if at_≤n∧n<at_+many then zf1 q number ⟨xc,xb,xn,xk,xi,xo,xg⟩else⟨xc,xb,xn,xk,xi,xo,xg⟩)else⟨xc,xb,xn,xk,xi,xo,xg⟩)=⟨xc,xb,xn,xk,xi,xo,xg⟩):=by show _=_;rw[if_pos rfl,if_neg (by omega)]
     go_wp2_with (at_builtin;refine zbe _ rfl (.tmp 132) (.tmp 134) rfl (w.heap.size+1) (v:=u9) (u:= .slice (some ⟨_,0,none⟩) 1 1) (b:=[⟨xc,xb,xn,xk,xi,xo,xg⟩]) rfl rfl (HS2.out.p.own.below ((Below.refl _ _).alloc (Nat.le_refl _) _)) (lst_one' _ ⟨xc,xb,xn,xk,xi,xo,xg⟩ (by simp)) ?ca6 ?cb6 ?_)
     case ca6=>have:=HZ.out;simp;omega
     case cb6=>have:=HS2.out.p.size;simp at this⊢;omega
     intro v8 w8 ho hg
     have H8:Hid (PI w ⟨kind,(q:Int),no,seen,at_,many,text⟩ (.slice (some ⟨b,off,none⟩) len cap) l v8 (zs++[⟨xc,xb,xn,xk,xi,xo,xg⟩]) w8):=(HS2.out.p.after ((Below.refl _ _).alloc (Nat.le_refl _) _)).grown H0.out hg ho
     clear ho hg c0 c1 c2 c3 c4 c5 c6 a0 a1 a2 a3 a4 a5 a6 f5 f6 hCw hCw'
     go_wp2
     go_roundw
     case rel=>exact⟨k+1,by omega,by go_num,by rw[HCN.out];simp,by rw[HN.out];rw[HYE.out];exact H8⟩
     case measure=>simp[intOf];omega
  ·obtain rfl:k=len:=by omega
   go_wp2
   go_ret2
   exact⟨_,rfl,by rw[HD.out];exact HP.out.own.mono (by omega),HP.out.m.below⟩
theorem mark_non{by_:Int}{x:Ch}(t:Int)(ht:t=2 ^ by_.toNat):zf1 by_ za0 x=⟨x.c,x.by_,x.no,x.k,x.inn,x.out,x.gone+t⟩:=by
 rw[zf1,zaj,ht,if_neg (fun e=>e.1 rfl)]
theorem zoy(b off len cap:Nat)(l:List Ch)(d:Dd)(w:World)(hl:l.length=len)(hm:len≤1000)(hr:Row w b off l)(hcap:len≤cap)(ht:zgs l)(hk:d.kind≠1)(hc:doC l d za0=0):
 Calls Tryz.prog 103 #[.slice (some ⟨b,off,none⟩) len cap,ddV d,.int .i64 1073741824] w fun e w'=>∃v',e= .returned (.tuple #[v',.int .i64 0])∧Own w' w.heap.size v' (doL l d za0)∧Below w.heap.size w w':=by
 have H0:Hid (Lst w (.slice (some ⟨b,off,none⟩) len cap) l):=⟨_,_,_,rfl,hl,hcap,.inr ⟨b,off,rfl,hr⟩⟩
 have HI:Hid (zgc w w.heap.size d (.slice (some ⟨b,off,none⟩) len cap) l (w.alloc (zcc d))):=zdb (d:=d) H0.out
 have HR:Hid (Row w b off l):=hr
 have HL:Hid (l.length=len):=hl
 have HT:Hid (zgs l):=ht
 obtain⟨q1,q2,q3,q4⟩:=zc2 hc
 have HM:Hid (zgx l d=0):=by
  show zgx l d=0
  unfold doC at hc
  by_cases hm:zgx l d=0
  ·exact hm
  ·rw[if_pos hm]at hc;exact hc
 obtain⟨_,hw,_,_,_,_,p1,p2,p3,p4,_,_⟩:=zah q1
 have HD:Hid (doL l d za0=tkL d za0 l len):=by
  show doL l d za0=_
  rw[doL,if_neg hk,tkL,←hl,List.take_length]
 have hwb:0≤d.by_∧d.by_≤3:=by simpa [wrB]using hw
 have hk':(d.kind==1)=false:=by simp[hk]
 obtain⟨kind,by_,no,seen,at_,many,text⟩:=d
 simp only at q2 q3 p1 p2 p3 p4 HD hwb hk'
 obtain⟨hb0,hb3⟩:=hwb
 obtain⟨q,rfl⟩:=Int.eq_ofNat_of_zero_le hb0
 clear hr hl ht hc hk hw
 go_enter Tryz.func103,Tryz.ntmps103
 go_wp2_with fail
 refine(zlg l ⟨kind,(q:Int),no,seen,at_,many,text⟩ _ _ HI.out.lst (by rw[HL.out];exact hm) HT.out).mono ?_
 rintro e w1 ⟨rfl,hb1⟩
 rw[HM.out]
 have HI1:Hid (PI w ⟨kind,(q:Int),no,seen,at_,many,text⟩ (.slice (some ⟨b,off,none⟩) len cap) l (.slice none 0 0) [] w1):=⟨HI.out.after hb1,zd7 _ _⟩
 clear hb1 HI HM
 obtain⟨_,c0,c1,c2,c3,c4,c5,c6⟩:=HI1.out.m.at_
 simp only[Nat.zero_add]at c0 c1 c2 c3 c4 c5 c6
 go_wp2
 clear c0 c1 c2 c3 c4 c5 c6
 go_loopw [9,11,12] (fun u n i wr=>∃k:Nat,k≤len∧i= .int .i64 k∧n= .int .i64 (cnt (l.take k) seen q)∧Hid (PI w ⟨kind,(q:Int),no,seen,at_,many,text⟩ (.slice (some ⟨b,off,none⟩) len cap) l u (tkL ⟨kind,(q:Int),no,seen,at_,many,text⟩ za0 l k) wr)) (fun _ _ i _=>len-(intOf i).toNat)
 case atStart=>exact⟨0,Nat.zero_le _,rfl,rfl,HI1⟩
 case round=>
  obtain⟨k,hk,rfl,rfl,HP⟩:=hrel
  clear HI1
  by_cases hlt:k<len
  ·have hkl:k<l.length:=by rw[HL.out];exact hlt
   obtain⟨t1,t2,t3,t4⟩:=zjo HT.out k hkl
   have hcb:=zna (l.take k) seen q
   have hle:(l.take k).length≤k:=List.length_take_le _ _
   have HCN:Hid (cnt (l.take (k+1)) seen q=cnt (l.take k) seen q+if za5 seen q l[k]=true then 1 else 0):=by show _=_;rw[zcj l k hkl];exact zig _ _ _ _
   have HN:Hid (_=_):=zym ⟨kind,(q:Int),no,seen,at_,many,text⟩ za0 hkl
   have HZ:Hid ((tkL ⟨kind,(q:Int),no,seen,at_,many,text⟩ za0 l k).length≤1000):=by have:=qdb ⟨kind,(q:Int),no,seen,at_,many,text⟩ za0 l k;rw[HL.out]at this;show _≤_;omega
   have HMK:Hid (∀t:Int,t=2 ^ (q:Int).toNat→zf1 q za0 l[k]=_):=fun t=>mark_non (x:=l[k]) t
   obtain⟨h0,h1,h2,h3,h4,h5,h6⟩:=(HR.out.below HP.out.m.below).at_ k hkl
   obtain⟨_,c0,c1,c2,c3,c4,c5,c6⟩:=HP.out.m.at_
   simp only[Nat.zero_add]at c0 c1 c2 c3 c4 c5 c6
   simp only at HN
   generalize l[k]=x at h0 h1 h2 h3 h4 h5 h6 HN HCN HMK t1 t2 t3 t4
   generalize cnt (l.take k) seen q=n at*
   generalize tkL ⟨kind,(q:Int),no,seen,at_,many,text⟩ za0 l k=zs at*
   obtain⟨xc,xb,xn,xk,xi,xo,xg⟩:=x
   simp only at h0 h1 h2 h3 h4 h5 h6 t1 t3 t4 HMK
   have HS:Hid (TI w ⟨kind,(q:Int),no,seen,at_,many,text⟩ (.slice (some ⟨b,off,none⟩) len cap) l u9 zs wr.heap.size ⟨xc,xb,xn,xk,xi,xo,xg⟩ (wr.alloc (.cells #[.int .u8 xc,.int .i64 xb,.int .i64 xn,.int .i64 xk,.int .i64 xi,.int .i64 xo,.int .i64 xg] 127))):=zyn ⟨xc,xb,xn,xk,xi,xo,xg⟩ HP.out
   obtain⟨hcb0,hcb1⟩:=hcb
   have hnk:n≤1000:=by omega
   clear hle hcb1
   go_wp2_with fail
   refine(zgk ⟨xc,xb,xn,xk,xi,xo,xg⟩ _ _ _ t1 (by simp only;omega) (by simp only;omega)).mono ?_
   rintro e w2 ⟨rfl,hb2⟩
   have HS2:Hid (TI w ⟨kind,(q:Int),no,seen,at_,many,text⟩ (.slice (some ⟨b,off,none⟩) len cap) l u9 zs wr.heap.size ⟨xc,xb,xn,xk,xi,xo,xg⟩ w2):=HS.out.after hb2
   generalize wr.heap.size=C at*
   clear h0 h1 h2 h3 h4 h5 h6 c0 c1 c2 c3 c4 c5 c6 hb2 HS
   obtain⟨_,c0,c1,c2,c3,c4,c5,c6⟩:=HS2.out.p.m.at_
   obtain⟨a0,a1,a2,a3,a4,a5,a6⟩:=HS2.out.at_
   have f5:=HS2.out.free 5 (by omega)
   have f6:=HS2.out.free 6 (by omega)
   simp only[Nat.zero_add]at c0 c1 c2 c3 c4 c5 c6 a0 a1 a2 a3 a4 a5 a6
   have hCw:¬C=w.heap.size:=by have:=HS2.out.lo;omega
   have hCw':¬w.heap.size=C:=by have:=HS2.out.lo;omega
   cases hs:za5 seen q ⟨xc,xb,xn,xk,xi,xo,xg⟩
   ·rw[hs]at HN HCN
    go_wp2_with (at_builtin;refine zbe _ rfl (.tmp 132) (.tmp 134) rfl (w.heap.size+1) (v:=u9) (u:= .slice (some ⟨_,0,none⟩) 1 1) (b:=[⟨xc,xb,xn,xk,xi,xo,xg⟩]) rfl rfl (HS2.out.p.own.below ((Below.refl _ _).alloc (Nat.le_refl _) _)) (lst_one' _ ⟨xc,xb,xn,xk,xi,xo,xg⟩ (by simp)) ?ca1 ?cb1 ?_)
    case ca1=>have:=HZ.out;simp;omega
    case cb1=>have:=HS2.out.p.size;simp at this⊢;omega
    intro v8 w8 ho hg
    have H8:Hid (PI w ⟨kind,(q:Int),no,seen,at_,many,text⟩ (.slice (some ⟨b,off,none⟩) len cap) l v8 (zs++[⟨xc,xb,xn,xk,xi,xo,xg⟩]) w8):=(HS2.out.p.after ((Below.refl _ _).alloc (Nat.le_refl _) _)).grown H0.out hg ho
    clear ho hg c0 c1 c2 c3 c4 c5 c6 a0 a1 a2 a3 a4 a5 a6 f5 f6 hCw hCw'
    go_wp2
    go_roundw
    case rel=>exact⟨k+1,by omega,by go_num,by rw[HCN.out];simp,by rw[HN.out];exact H8⟩
    case measure=>simp[intOf];omega
   ·rw[hs]at HN HCN
    by_cases hA:at_≤n
    ·by_cases hB:n<at_+many
     ·have HY:Hid (∀t:Int,t=2 ^ (q:Int).toNat→(if true=true then(if at_≤n∧n<at_+many then zf1 q za0 ⟨xc,xb,xn,xk,xi,xo,xg⟩else⟨xc,xb,xn,xk,xi,xo,xg⟩)else⟨xc,xb,xn,xk,xi,xo,xg⟩)=⟨xc,xb,xn,xk,xi,xo,xg+t⟩):=fun t e=>by rw[if_pos rfl,if_pos ⟨hA,hB⟩];exact HMK.out t e
      go_wp2
      go_loop [14,15] (fun bit j=>∃(m:Nat) (t:Int),m≤q∧j= .int .i64 m∧bit= .int .i64 t∧Hid (t=2 ^ m)) (fun _ j=>q-(intOf j).toNat)
      case atStart=>exact⟨0,1,Nat.zero_le _,rfl,rfl,rfl⟩
      case round=>
       obtain⟨m,t,hmq,rfl,rfl,HTM⟩:=hrel
       have htb:1≤t∧t≤8:=by rw[HTM.out];exact zud (by omega)
       obtain⟨ht1,ht8⟩:=htb
       by_cases hmlt:m<q
       ·go_wp2
        go_round
        case rel=>exact⟨m+1,t*2,by omega,by go_num,rfl,by show _=_;rw[zz7,HTM.out]⟩
        case measure=>simp[intOf];omega
       ·obtain rfl:m=q:=by omega
        have HYT:Hid _:=HY.out t (by rw[HTM.out];rfl)
        have HS3:Hid (TI w ⟨kind,(m:Int),no,seen,at_,many,text⟩ (.slice (some ⟨b,off,none⟩) len cap) l u9 zs C ⟨xc,xb,xn,xk,xi,xo,xg+t⟩ (w2.setCell ⟨C,6,none⟩ (.int .i64 (xg+t)))):=HS2.out.gone H0.out _
        clear HY HMK
        have HYE:=HYT
        go_wp2_with (at_builtin;refine zbe _ rfl (.tmp 132) (.tmp 134) rfl (w.heap.size+1) (v:=u9) (u:= .slice (some ⟨_,0,none⟩) 1 1) (b:=[⟨xc,xb,xn,xk,xi,xo,xg+t⟩]) rfl rfl (HS3.out.p.own.below ((Below.refl _ _).alloc (Nat.le_refl _) _)) (lst_one' _ ⟨xc,xb,xn,xk,xi,xo,xg+t⟩ (by simp)) ?ca4 ?cb4 ?_)
        case ca4=>have:=HZ.out;simp;omega
        case cb4=>have:=HS3.out.p.size;simp at this⊢;omega
        intro v8 w8 ho hg
        have H8:Hid (PI w ⟨kind,(m:Int),no,seen,at_,many,text⟩ (.slice (some ⟨b,off,none⟩) len cap) l v8 (zs++[⟨xc,xb,xn,xk,xi,xo,xg+t⟩]) w8):=(HS3.out.p.after ((Below.refl _ _).alloc (Nat.le_refl _) _)).grown H0.out hg ho
        clear ho hg c0 c1 c2 c3 c4 c5 c6 a0 a1 a2 a3 a4 a5 a6 f5 f6 hCw hCw'
        go_wp2
        go_roundw
        case rel=>exact⟨k+1,by omega,by go_num,by rw[HCN.out];simp,by rw[HN.out];rw[HYE.out];exact H8⟩
        case measure=>simp[intOf];omega
     ·have HYE:Hid ((if true=true then(if at_≤n∧n<at_+many then zf1 q za0 ⟨xc,xb,xn,xk,xi,xo,xg⟩else⟨xc,xb,xn,xk,xi,xo,xg⟩)else⟨xc,xb,xn,xk,xi,xo,xg⟩)=⟨xc,xb,xn,xk,xi,xo,xg⟩):=by show _=_;rw[if_pos rfl,if_neg (by omega)]
      go_wp2_with (at_builtin;refine zbe _ rfl (.tmp 132) (.tmp 134) rfl (w.heap.size+1) (v:=u9) (u:= .slice (some ⟨_,0,none⟩) 1 1) (b:=[⟨xc,xb,xn,xk,xi,xo,xg⟩]) rfl rfl (HS2.out.p.own.below ((Below.refl _ _).alloc (Nat.le_refl _) _)) (lst_one' _ ⟨xc,xb,xn,xk,xi,xo,xg⟩ (by simp)) ?ca5 ?cb5 ?_)
      case ca5=>have:=HZ.out;simp;omega
      case cb5=>have:=HS2.out.p.size;simp at this⊢;omega
      intro v8 w8 ho hg
      have H8:Hid (PI w ⟨kind,(q:Int),no,seen,at_,many,text⟩ (.slice (some ⟨b,off,none⟩) len cap) l v8 (zs++[⟨xc,xb,xn,xk,xi,xo,xg⟩]) w8):=(HS2.out.p.after ((Below.refl _ _).alloc (Nat.le_refl _) _)).grown H0.out hg ho
      clear ho hg c0 c1 c2 c3 c4 c5 c6 a0 a1 a2 a3 a4 a5 a6 f5 f6 hCw hCw'
      go_wp2
      go_roundw
      case rel=>exact⟨k+1,by omega,by go_num,by rw[HCN.out];simp,by rw[HN.out];rw[HYE.out];exact H8⟩
      case measure=>simp[intOf];omega
    ·have HYE:Hid ((if true=true then(if at_≤n∧n<at_+many then zf1 q za0 ⟨xc,xb,xn,xk,xi,xo,xg⟩else⟨xc,xb,xn,xk,xi,xo,xg⟩)else⟨xc,xb,xn,xk,xi,xo,xg⟩)=⟨xc,xb,xn,xk,xi,xo,xg⟩):=by show _=_;rw[if_pos rfl,if_neg (by omega)]
     go_wp2_with (at_builtin;refine zbe _ rfl (.tmp 132) (.tmp 134) rfl (w.heap.size+1) (v:=u9) (u:= .slice (some ⟨_,0,none⟩) 1 1) (b:=[⟨xc,xb,xn,xk,xi,xo,xg⟩]) rfl rfl (HS2.out.p.own.below ((Below.refl _ _).alloc (Nat.le_refl _) _)) (lst_one' _ ⟨xc,xb,xn,xk,xi,xo,xg⟩ (by simp)) ?ca6 ?cb6 ?_)
     case ca6=>have:=HZ.out;simp;omega
     case cb6=>have:=HS2.out.p.size;simp at this⊢;omega
     intro v8 w8 ho hg
     have H8:Hid (PI w ⟨kind,(q:Int),no,seen,at_,many,text⟩ (.slice (some ⟨b,off,none⟩) len cap) l v8 (zs++[⟨xc,xb,xn,xk,xi,xo,xg⟩]) w8):=(HS2.out.p.after ((Below.refl _ _).alloc (Nat.le_refl _) _)).grown H0.out hg ho
     clear ho hg c0 c1 c2 c3 c4 c5 c6 a0 a1 a2 a3 a4 a5 a6 f5 f6 hCw hCw'
     go_wp2
     go_roundw
     case rel=>exact⟨k+1,by omega,by go_num,by rw[HCN.out];simp,by rw[HN.out];rw[HYE.out];exact H8⟩
     case measure=>simp[intOf];omega
  ·obtain rfl:k=len:=by omega
   go_wp2
   go_ret2
   exact⟨_,rfl,by rw[HD.out];exact HP.out.own.mono (by omega),HP.out.m.below⟩
theorem zzg{d:Dd}(h:za6 d=0)(hk:d.kind≠1):1≤d.many:=by
 unfold za6 at h
 by_cases hk2:d.kind≠1∧d.kind≠2
 ·rw[if_pos hk2]at h;cases h
 ·rw[if_neg hk2]at h
  cases hp:zcv d
  ·rw[if_pos hp]at h;cases h
  ·rw[if_neg (by simp[hp]),if_neg hk,zl4]at h
   by_cases ht:d.text.size≠0
   ·rw[if_pos ht]at h;cases h
   ·rw[if_neg ht]at h
    cases hw:zaw d.many 1 200
    ·rw[if_neg (by simp[hw])]at h;cases h
    ·have:1≤d.many∧d.many≤200:=by simpa [zaw]using hw
     exact this.1
theorem qav(l:List Ch)(d:Dd)(number:Int)(v:Value)(w:World)(h:Lst w v l)(hl:l.length≤1000)(ht:zgs l)(hk:d.kind≠1)(hc:doC l d number=0)(hnum:number≤1000):
 Calls Tryz.prog 103 #[v,ddV d,.int .i64 number] w fun e w'=>∃v',e= .returned (.tuple #[v',.int .i64 0])∧Own w' w.heap.size v' (doL l d number)∧Below w.heap.size w w':=by
 obtain⟨a,len,cap,rfl,h1,h2,h3⟩:=h
 rcases h3 with rfl|⟨b,off,rfl,hr⟩
 ·exfalso
  obtain rfl:l=[]:=List.length_eq_zero_iff.1 h1
  obtain⟨q1,q2,_⟩:=zc2 hc
  have p:=zzg q1 hk
  have q:=(zah q1).2.2.2.2.2.2.1
  have:cnt [] d.seen d.by_=0:=rfl
  omega
 ·exact zox b off len cap l d number w h1 (by omega) hr h2 ht hk hc hnum
theorem zz6(l:List Ch)(d:Dd)(number:Int)(v:Value)(w:World)(h:Lst w v l)(hl:l.length≤1000)(ht:zgs l)(hm:zgx l d≠0):
 Calls Tryz.prog 103 #[v,ddV d,.int .i64 number] w fun e w'=>e= .returned (.tuple #[.slice none 0 0,.int .i64 (zgx l d)])∧Below w.heap.size w w':=by
 have HI:Hid (zgc w w.heap.size d v l (w.alloc (zcc d))):=zdb (d:=d) h
 have hne:(zgx l d != 0)=true:=by simp[hm]
 obtain⟨kind,by_,no,seen,at_,many,text⟩:=d
 clear h hm
 go_enter Tryz.func103,Tryz.ntmps103
 go_wp2_with fail
 refine(zlg l ⟨kind,by_,no,seen,at_,many,text⟩ v _ HI.out.lst hl ht).mono ?_
 rintro e w1 ⟨rfl,hb⟩
 have HI1:Hid _:=HI.out.after hb
 clear hb HI
 generalize hc:zgx l ⟨kind,by_,no,seen,at_,many,text⟩=c at*
 have HC:Hid (zgx l ⟨kind,by_,no,seen,at_,many,text⟩=c):=hc
 clear hc
 go_wp2
 go_ret2
 exact⟨zou HC.out.symm,HI1.out.below⟩
theorem zho(l:List Ch)(d:Dd)(number:Int)(v:Value)(w:World)(h:Lst w v l)(hl:l.length≤1000)(ht:zgs l)(h1:1≤number)(hnum:number≤1000):
 Calls Tryz.prog 103 #[v,ddV d,.int .i64 number] w fun e w'=>∃v',e= .returned (.tuple #[v',.int .i64 (doC l d number)])∧Own w' w.heap.size v' (doR l d number)∧Below w.heap.size w w':=by
 by_cases hc:doC l d number=0
 ·have hR:doR l d number=doL l d number:=by rw[doR,if_pos hc]
  rw[hR,hc]
  by_cases hk:d.kind=1
  ·exact zua l d number v w h hl ht hk hc
  ·exact qav l d number v w h hl ht hk hc hnum
 ·have hm:zgx l d≠0:=fun e=>hc (by rw[doC,if_neg (fun x=>x e),if_neg (by omega)])
  refine(zz6 l d number v w h hl ht hm).mono ?_
  rintro e w' ⟨rfl,hb⟩
  exact⟨_,zou (zxw hm).symm,by rw[doR,if_neg hc];exact zd7 _ _,hb⟩
theorem zm8(l:List Ch)(d:Dd)(v:Value)(w:World)(h:Lst w v l)(hl:l.length≤1000)(ht:zgs l):
 Calls Tryz.prog 103 #[v,ddV d,.int .i64 1073741824] w fun e w'=>∃v',e= .returned (.tuple #[v',.int .i64 (doC l d za0)])∧Own w' w.heap.size v' (doR l d za0)∧Below w.heap.size w w':=by
 by_cases hc:doC l d za0=0
 ·have hR:doR l d za0=doL l d za0:=by rw[doR,if_pos hc]
  rw[hR,hc]
  by_cases hk:d.kind=1
  ·exact zua l d za0 v w h hl ht hk hc
  ·obtain⟨a,len,cap,rfl,h1,h2,h3⟩:=h
   rcases h3 with rfl|⟨b,off,rfl,hr⟩
   ·exfalso
    obtain rfl:l=[]:=List.length_eq_zero_iff.1 h1
    obtain⟨q1,q2,_⟩:=zc2 hc
    have p:=zzg q1 hk
    have q:=(zah q1).2.2.2.2.2.2.1
    have:cnt [] d.seen d.by_=0:=rfl
    omega
   ·exact zoy b off len cap l d w h1 (by omega) hr h2 ht hk hc
 ·have hm:zgx l d≠0:=fun e=>hc (by rw[doC,if_neg (fun x=>x e),if_neg (by decide)])
  refine(zz6 l d za0 v w h hl ht hm).mono ?_
  rintro e w' ⟨rfl,hb⟩
  exact⟨_,zou (zxw hm).symm,by rw[doR,if_neg hc];exact zd7 _ _,hb⟩
theorem zzz{R:Ending→World→Prop}{a:Act}{w:World}{B:Nat}{c f:Int}{v:Value}(h:zlt w B c f)(h2:a.tmps.getD 2 undef=v)(h3:a.tmps.getD 3 undef= .pointer (some ⟨B,0,none⟩))(hd:a.defers=[])
 (hR:R (.returned (.tuple #[v,ftV c f])) w):bodyPost Tryz.prog Tryz.f60 R Exit.ret a w:=by
 refine bodyPost_ret ?_ hd hR
 rw[ziq rfl,h2,h3]
 simp[asAddr,zsm h]
theorem zub(a:Option Addr)(cap:Nat)(w:World):
 Calls Tryz.prog 60 #[.slice a 0 cap] w fun e w'=>e= .returned (.tuple #[.slice none 0 0,ftV 0 0])∧Below w.heap.size w w':=by
 go_enter Tryz.func60,Tryz.ntmps60
 go_wp2
 refine wp_loop_rounds 1 ?_
 rw[rounds_succ]
 go_wp2
 exact zzz (zf7 w 0 0) rfl rfl rfl ⟨rfl,(Below.refl _ _).alloc (Nat.le_refl _) _⟩
def zvu(l:List Ch)(i:Nat)(ds all:List Dd):Prop:=qc8 l i ds all∧zgs l
theorem zwf{l:List Ch}{i:Nat}{d:Dd}{r all:List Dd}(h:zvu l i (d::r) all)(h0:(zgv [] 0 all).2.1=0):doC l d (i+1)=0:=by
 by_cases hc:doC l d ((i:Int)+1)=0
 ·exact hc
 ·rw[qdw h.1 hc]at h0
  exact absurd h0 hc
theorem zwe{l:List Ch}{i:Nat}{d:Dd}{r all:List Dd}(h:zvu l i (d::r) all)(hc:doC l d (i+1)=0)(hi:i<1000):zvu (doL l d (i+1)) (i+1) r all:=
 ⟨qaq h.1 hc,tame_do h.2 (zc2 hc).1 (by omega) (by omega)⟩
theorem zwr(b off len cap:Nat)(ds:List Dd)(w:World)(hl:ds.length=len)(hm:len≤1000)(hr:zvv w b off ds)(h0:(zgv [] 0 ds).2.1=0):
 Calls Tryz.prog 60 #[.slice (some ⟨b,off,none⟩) len cap] w fun e w'=>
  ∃v',e= .returned (.tuple #[v',ftV 0 0])∧Own w' w.heap.size v' (zgv [] 0 ds).1∧Below w.heap.size w w':=by
 have HR:Hid (zvv w b off ds):=hr
 have HL:Hid (ds.length=len):=hl
 have HZ:Hid ((zgv [] 0 ds).2.1=0):=h0
 have hb:=hr.lt
 clear hr hl h0
 go_enter Tryz.func60,Tryz.ntmps60
 go_wp2
 go_loopw [4,5] (fun v i wr=>∃(k:Nat) (l:List Ch),k≤len∧i= .int .i64 k∧Hid (zvu l k (ds.drop k) ds)∧Hid (Own wr (w.heap.size+1) v l)∧Hid (AInv w wr)) (fun _ i _=>len-(intOf i).toNat)
 case atStart=>exact⟨0,[],Nat.zero_le _,rfl,⟨zoi ds,tame_nil⟩,zd7 _ _,⟨Below.refl _ _⟩⟩
 case round=>
  obtain⟨k,l,hk,rfl,HS,HV,HA⟩:=hrel
  by_cases hlt:k<len
  ·have hkl:k<ds.length:=by rw[HL.out];exact hlt
   obtain⟨_,g0,g1,g2,g3,g4,g5,g6⟩:=(HR.out.below HA.out.old).at_ k hkl
   have HX:Hid (ds.drop k=ds[k]::ds.drop (k+1)):=List.drop_eq_getElem_cons hkl
   generalize ds[k]=d at g0 g1 g2 g3 g4 g5 g6 HX
   rw[HX.out]at HS
   have HC:Hid (doC l d ((k:Int)+1)=0):=zwf HS.out HZ.out
   have HN:Hid (zvu (doL l d ((k:Int)+1)) (k+1) (ds.drop (k+1)) ds):=zwe HS.out HC.out (by omega)
   obtain⟨kind,by_,no,seen,at_,many,text⟩:=d
   simp only at g0 g1 g2 g3 g4 g5 g6
   go_wp2_with fail
   clear g0 g1 g2 g3 g4 g5 g6
   refine(zho l ⟨kind,by_,no,seen,at_,many,text⟩ ((k:Int)+1) _ _ HV.out.lst (by have:=HS.out.1.1.len;omega) HS.out.2 (by omega) (by omega)).mono ?_
   rintro e w1 ⟨v1,rfl,hL,hb1⟩
   rw[doR,if_pos HC.out]at hL
   rw[HC.out]
   have HV1:Hid (Own w1 (w.heap.size+1) v1 _):=hL.mono (by have:=HA.out.below.size;simp at this⊢;omega)
   have HA1:Hid (AInv w w1):=HA.out.after hb1
   clear hL hb1 HA HV
   go_wp2
   go_roundw
   case rel=>exact⟨k+1,_,by omega,by go_num,HN,HV1,HA1⟩
   case measure=>simp[intOf];omega
  ·obtain rfl:k=len:=by omega
   have HE:Hid (ds.drop k=[]):=List.drop_eq_nil_of_le (by rw[HL.out];exact Nat.le_refl _)
   rw[HE.out]at HS
   have HN:Hid (_=_):=qdv HS.out.1
   obtain⟨c0,c1,f0,f1⟩:=HA.out.two
   go_wp2
   refine zzz (v:=_) (HA.out.two.put 0 0) rfl rfl rfl ?_
   rw[HN.out]
   have HB2:Hid _:=zhz HA.out.old (Nat.le_refl _) 0 0
   refine⟨_,rfl,?_,HB2.out⟩
   exact Own.mono (ownsRow_setCell_below (ownsRow_setCell_below HV.out (a:=⟨w.heap.size,0,none⟩) (Nat.lt_succ_self _) _) (a:=⟨w.heap.size,1,none⟩) (Nat.lt_succ_self _) _) (by omega)
theorem zqu{w:World}{v:Value}{ds:List Dd}(h:zkz w v ds)(hm:ds.length≤1000)(h0:(zgv [] 0 ds).2.1=0):
 Calls Tryz.prog 60 #[v] w fun e w'=>∃v',e= .returned (.tuple #[v',ftV 0 0])∧Own w' w.heap.size v' (zgv [] 0 ds).1∧Below w.heap.size w w':=by
 obtain⟨a,len,cap,rfl,h1,h2,h3⟩:=h
 rcases h3 with rfl|⟨b,off,rfl,hr⟩
 ·obtain rfl:ds=[]:=List.length_eq_zero_iff.1 h1
  refine(zub a cap w).mono ?_
  rintro e w' ⟨rfl,hb⟩
  exact⟨_,rfl,zd7 _ _,hb⟩
 ·exact zwr b off len cap ds w h1 (by omega) hr h0
theorem zk2{w:World}{base B:Nat}{S:Nat→Prop}{dv:Value}{b:Bk}(h:zas w base S B dv b)(hg:zcm b):
 Calls Tryz.prog 39 #[.pointer (some ⟨B,0,none⟩)] w fun e w'=>∃v',e= .returned v'∧Own w' w.heap.size v' b.chars∧Below w.heap.size w w':=by
 have c0:=h.cells.deeds
 have hlt:=h.cells.lt
 have HD:Hid (zkz w dv b.ds):=h.ownD.dlst
 have HS:Hid (b.ds.length≤1000):=by have:=hg.small;show _≤_;omega
 clear h
 go_enter Tryz.func39,Tryz.ntmps39
 go_wp2_with fail
 refine(zqu HD.out HS.out hg.all0).mono ?_
 rintro e w1 ⟨v1,rfl,ho,hb⟩
 have HO:Hid (Own w1 w.heap.size v1 b.chars):=ho
 have HB:Hid (Below w.heap.size w w1):=hb
 clear ho hb c0
 go_wp2
 go_ret
 exact⟨v1,rfl,HO.out.below ((Below.refl _ _).alloc (Nat.le_refl _) _),HB.out.alloc HB.out.size _⟩
theorem zql{w:World}{v:Value}{l:List Ch}(h:Lst w v l)(hl:l.length≤1000)(ht:zgs l):
 Calls Tryz.prog 38 #[v] w fun e w'=>e= .returned (.string (strOfNums (vw l 1073741823 (-1))))∧Below w.heap.size w w':=by
 go_enter Tryz.func38,Tryz.ntmps38
 go_wp2_with (go_at_call 58;refine(zki h hl ht _ _).mono ?_;rintro e w' ⟨rfl,hb⟩)
 go_ret
 exact⟨rfl,hb⟩
end Go.Proofs.YtcbnnfeelhlapadGreatDoor