/-
  StMem, StA, DReady, DLine, DRead, DWord, DParse, DCut, DBack, DRef.
-/
import Derived.Lib.AtoiAllCases
import Derived.Lib.AtoiErrMem
import Derived.Lib.ItoaLen
import Derived.Laws.ResultCell
import Derived.RegionTactic
import Derived.ChangeAlike
import Derived.Lib.AtoiTie
import Derived.Test.YtcbnnfeelhlapadGreatDoorTClM
namespace Go.Proofs.YtcbnnfeelhlapadGreatDoor
open Go.RowKit
set_option maxRecDepth 20000
set_option maxHeartbeats 3200000
variable {w w':World} {P n base:Nat} {lv v:Value} {zs:List Int}
structure StC(w:World)(P:Nat)(n:Nat)(lv:Value):Prop where
 lt:P<w.heap.size
 deeds:w.cell? ⟨P,0,none⟩=some (.int .i64 n)
 list:w.cell? ⟨P,1,none⟩=some lv
theorem StC.kept(h:StC w P n lv)(hs:w.heap.size<=w'.heap.size)(hb:w'.heap[P]? =w.heap[P]?):StC w' P n lv:=by
 have hc:∀o,w'.cell? ⟨P,o,none⟩=w.cell? ⟨P,o,none⟩:=fun o=>World.cell?_of_block (a:=⟨P,o,none⟩) hb
 exact⟨Nat.lt_of_lt_of_le h.lt hs,by rw[hc];exact h.deeds,by rw[hc];exact h.list⟩
structure StAt(w:World)(lo P:Nat)(lv:Value)(b:Bk):Prop where
 le:lo<=P
 cells:StC w P b.ds.length lv
 own:Own w lo lv b.chars
theorem StAt.kept{w w':World}{lo P:Nat}{lv:Value}{b:Bk}{T:Nat->Prop}(h:StAt w lo P lv b)(hk:zam T w w')(hT:∀k,T k->k<lo):StAt w' lo P lv b:=
 ⟨h.le,h.cells.kept hk.size (hk.block P h.cells.lt (fun e=>by have:=hT P e;have:=h.le;omega)),za5 h.own (fun k e=>by
  obtain⟨h1,h2⟩:=World.ownsRow.lt h.own k e
  exact hk.block k h2 (fun e'=>by have:=hT k e';omega))⟩
theorem StAt.below{lo:Nat}{b:Bk}(h:StAt w lo P lv b)(hb:Below w.heap.size w w'):StAt w' lo P lv b:=
 h.kept (T:=fun _=>False) (.of_below hb) (fun _ e=>e.elim)
def StTo(w:World)(lo P:Nat)(b:Bk):Prop:=∃lv,StAt w lo P lv b
theorem StTo.below{w w':World}{lo P:Nat}{b:Bk}(h:StTo w lo P b)(hb:Below w.heap.size w w'):StTo w' lo P b:=by
 obtain⟨lv,h⟩:=h
 exact⟨lv,h.below hb⟩
def ziu(zs:List Int):List Value:=zs.map (Value.int .i64)
def znj(w:World)(v:Value)(zs:List Int):Prop:=
 ∃(a:Option Addr) (len cap:Nat),v= .slice a len cap/\zs.length=len/\len<=cap/\(len=0\/∃b off,a=some ⟨b,off,none⟩/\b<w.heap.size/\∀i (h:i<zs.length),w.cell? ⟨b,off+i,none⟩=some (.int .i64 zs[i]))
theorem znj.below(h:znj w v zs)(hb:Below w.heap.size w w'):znj w' v zs:=by
 obtain⟨a,len,cap,rfl,h1,h2,h3⟩:=h
 refine⟨a,len,cap,rfl,h1,h2,?_⟩
 rcases h3 with h3|⟨b,off,rfl,hl,hr⟩
 ·exact .inl h3
 exact .inr ⟨b,off,rfl,by have:=hb.size;omega,fun i hi=>by rw[(zdp hb).1 _ _ hl];exact hr i hi⟩
theorem znj.len{w:World}{v:Value}{zs:List Int}(h:znj w v zs):∃a cap,v= .slice a zs.length cap:=by
 obtain⟨a,len,cap,rfl,rfl,h2,h3⟩:=h
 exact⟨a,cap,rfl⟩
theorem znj.row{a:Option Addr}{cap:Nat}(h:znj w (.slice a n cap) zs)(hp:0<n):∃b off,a=some ⟨b,off,none⟩/\b<w.heap.size/\n<=cap/\∀i (h:i<zs.length),w.cell? ⟨b,off+i,none⟩=some (.int .i64 zs[i]):=by
 obtain⟨a',len,cap',he,h1,h2,h3⟩:=h
 simp only[Value.slice.injEq]at he
 obtain⟨rfl,rfl,rfl⟩:=he
 rcases h3 with h3|⟨b,off,rfl,h3,h4⟩
 ·omega
 exact⟨b,off,rfl,h3,h2,h4⟩
def zps(w:World)(base:Nat)(v:Value)(zs:List Int):Prop:=w.ownsRow base 3 1 v zs.length (ziu zs)
theorem zlc(w:World)(base:Nat):zps w base (.slice none 0 0) []:=World.ownsRow_nil _ _ _ _
theorem zps.ilst(h:zps w base v zs):znj w v zs:=by
 have h':=h
 obtain⟨_,h2⟩:=h
 rcases h2 with⟨rfl,hn⟩|⟨g,cap,cur,rfl,hb,hg,hnc,_⟩
 ·exact⟨none,0,0,rfl,hn,Nat.le_refl _,.inl rfl⟩
 refine⟨_,_,_,rfl,rfl,hnc,.inr ⟨g,0,rfl,(Array.getElem?_eq_some_iff.1 hg).1,fun i hi=> ?_⟩⟩
 rw[Nat.zero_add,World.ownsRow.cellAt h' i (by omega)]
 unfold ziu
 rw[List.getElem?_map,List.getElem?_eq_getElem hi]
 rfl
theorem zps.below(h:zps w base v zs)(hb:Below w.heap.size w w'):zps w' base v zs:=zed h hb
theorem zss:(Tryz.prog.info? 3).map (fun i=>(i.zero,i.size,i.bytes))=some (some (.int .i64 0),1,8):=by kernel_rfl
theorem zfy.chars{base:Nat}{S:Nat->Prop}{w wk:World}{D G:Nat}{pw:Nat->Nat}{t:Twn}(h:zfy base w S D G pw t wk):
 Calls Tryz.prog 115 #[.pointer (some ⟨G,0,none⟩)] wk fun e w'=>∃v',e= .returned v'/\Own w' wk.heap.size v' t.b.chars/\Below wk.heap.size wk w':=by
 obtain⟨tk,h1,h2⟩:=h
 obtain⟨T,dv,lv,hl,_⟩:=h1.log
 exact zzz hl
variable {b:Bk} {n:Nat} {w:World} {v:Value} {l:List Ch}
def inS(b:Bk)(n:Int):Bool:=decide (0<=n/\n<=b.ds.length)
def thS(b:Bk)(n:Int):List Ch:=if 0<=n/\n<=b.ds.length then zcx b.chars n else []
theorem ztn(b:Bk)(n:Int):(thS b n).length<=b.chars.length:=by
 unfold thS
 split
 ·exact zrw _ _
 exact Nat.zero_le _
theorem thS_in(h:n<=b.ds.length):thS b n=zcx b.chars n:=by
 unfold thS
 rw[if_pos ⟨by omega,by omega⟩]
theorem inS_in(h:n<=b.ds.length):inS b n=true:=by
 unfold inS
 rw[decide_eq_true_eq]
 exact⟨by omega,by omega⟩
theorem qdu(w:World)(n:Nat)(lv:Value):StC (w.alloc (.cells #[.int .i64 n,lv] 220)) w.heap.size n lv:=by
 refine⟨by simp,?_,?_⟩<;>simp[go_sem]
theorem of_dk{base:Nat}{S:Nat->Prop}{w0:World}{D G:Nat}{pw:Nat->Nat}{t:Twn}(h:zfy base w0 S D G pw t w):
 Calls Tryz.prog 140 #[.pointer (some ⟨G,0,none⟩)] w fun e w'=>∃P,e= .returned (.pointer (some ⟨P,0,none⟩))/\StTo w' w.heap.size P t.b/\Below w.heap.size w w':=by
 have HA:=hid h
 clear h
 go_enter Tryz.func140,Tryz.ntmps140
 go_wp2_with fail
 refine HA.out.len.mono ?_
 rintro e w1 ⟨rfl,hw1⟩
 rw[hw1]
 clear hw1 w1
 go_wp2_with fail
 refine HA.out.chars.mono ?_
 rintro e w2 ⟨v2,rfl,ho,hb⟩
 have HO:=hid ho
 have HB:=hid hb
 obtain⟨a2,c2,rfl,-⟩:=ho.lst.len
 clear ho hb
 go_wp2
 go_ret
 refine⟨w2.heap.size,rfl,⟨_,HB.out.size,qdu w2 _ _,HO.out.below (za2 _ _)⟩,HB.out.alloc HB.out.size _⟩
theorem qe9{x y:Bool}(h:x=y):Ending.returned (.tuple #[v,.bool x])= .returned (.tuple #[v,.bool y]):=by rw[h]
section
variable {w:World} {lo P:Nat} {b:Bk}
theorem lst_newC(w:World)(x:Ch):Lst (w.alloc (.cells #[.int .u8 x.c,.int .i64 x.by_,.int .i64 x.no,.int .i64 x.k,.int .i64 x.inn,.int .i64 x.out,.int .i64 x.gone] 127)) (.slice (some ⟨w.heap.size,0,none⟩) 1 1) [x]:=by
 refine⟨_,1,1,rfl,rfl,Nat.le_refl _,.inr ⟨_,0,rfl,by simp,?_⟩⟩
 intro i hi
 obtain rfl:i=0:=by simpa using hi
 unfold At
 simp[go_sem]
theorem zvr{wr w2:World}(hb:Below w.heap.size w wr)(ho:Own wr w.heap.size v l)(hg:wr.grownBy w2 v.ownBlock):Below w.heap.size w w2:=
 hb.grown hg (by have:=hb.size;omega) (fun j hj=>(World.ownsRow.lt ho j hj).1)
structure ThI(w:World)(v:Value)(l:List Ch)(wk:World):Prop where
 below:Below w.heap.size w wk
 own:Own wk w.heap.size v l
theorem ThI.after{wk w':World}(h:ThI w v l wk)(hb:Below wk.heap.size wk w'):ThI w v l w':=⟨bla h.below hb,h.own.below hb⟩
theorem qdd(h:StTo w lo P b)(n:Int):
 Calls Tryz.prog 186 #[.pointer (some ⟨P,0,none⟩),.int .i64 n] w fun e w'=>∃v,e= .returned (.tuple #[v,.bool (inS b n)])/\Own w' w.heap.size v (thS b n)/\Below w.heap.size w w':=by
 obtain⟨lv,h⟩:=h
 have c0:=h.cells.deeds
 have c1:=h.cells.list
 have hlt:=h.cells.lt
 have HL:=hid h.own.lst
 have hcl:=zay (b:=b)
 obtain⟨a,cap,rfl,hcap⟩:=h.own.lst.len
 by_cases hn:0<=n/\n<=b.ds.length
 ·have HIN:Hid (inS b n=true):=by show inS b n=true;unfold inS;exact decide_eq_true hn
  have HTH:Hid (thS b n=zcx b.chars n):=by show thS b n=_;unfold thS;rw[if_pos hn]
  obtain⟨hn0,hn1⟩:=hn
  clear h
  generalize b.chars=l at*
  go_enter Tryz.func186,Tryz.ntmps186
  go_wp2
  go_loopw [6,24] (fun v i wr=>∃k:Nat,k<=l.length/\i= .int .i64 k/\Hid (ThI w v (zcx (l.take k) n) wr)) (fun _ i _=>l.length-(intOf i).toNat)
  case atStart=>exact⟨0,Nat.zero_le _,rfl,Below.refl _ _,zd6 _ _⟩
  obtain⟨k,hk,rfl,HI⟩:=hrel
  clear c0 c1
  by_cases hkl:k<l.length
  ·have hki:(k:Int)<(l.length:Int):=by omega
   have HN:Hid (zcx (l.take (k+1)) n=zcx (l.take k) n++if za7 n (-1) l[k]=true then [l[k]]else []):=by
    show zcx _ _=_
    rw[zcf l k hkl]
    exact zqm _ _ _
   have HZ:Hid ((zcx (l.take k) n).length<=200):=by
    show _<=_
    have:=zrw (l.take k) n
    rw[List.length_take]at this
    omega
   obtain⟨bb,off,rfl,hr⟩:∃b off,a=some ⟨b,off,none⟩/\Row wr b off l:=by
    obtain⟨b1,o1,e1,_,r1⟩:=(HL.out.below HI.out.below).row (by omega)
    exact⟨b1,o1,e1,r1⟩
   have hbl:=hr.lt
   obtain⟨h0,h1,h2,h3,h4,h5,h6⟩:=hr.at_ k hkl
   generalize l[k]=x at*
   generalize zcx (l.take k) n=zs at*
   clear hr
   go_wp2_with fail
   refine(zjr x _ _ _).mono ?_
   rintro e w1 ⟨rfl,hb1⟩
   have HI0:Hid (ThI w u6 zs (wr.alloc (.cells #[.int .u8 x.c,.int .i64 x.by_,.int .i64 x.no,.int .i64 x.k,.int .i64 x.inn,.int .i64 x.out,.int .i64 x.gone] 127))):=HI.out.after (za2 _ _)
   have HI1:=hid (HI0.out.after hb1)
   have HN':Hid (zcx (l.take (k+1)) n=zs++if zi7 x.by_ x.inn x.out x.gone n (-1)=true then [x]else []):=HN
   have HA1:Hid (At w1 wr.heap.size 0 x):=by
    obtain⟨hc,hf⟩:=zdp hb1
    show At _ _ _ _
    unfold At
    simp only[hc _ _ (show wr.heap.size<(wr.alloc _).heap.size by simp)]
    simp[go_sem]
   have hs1:wr.heap.size<w1.heap.size:=by have:=hb1.size;simp at this;omega
   clear h0 h1 h2 h3 h4 h5 h6 HN HI HI0 hb1
   cases hs:zi7 x.by_ x.inn x.out x.gone n (-1)
   ·rw[hs]at HN'
    clear HA1 hs1
    go_wp2
    go_roundw
    case rel=>exact⟨k+1,by omega,by go_num,by show ThI _ _ _ _;rw[HN'.out];simpa using HI1.out⟩
    case measure=>simp[intOf];omega
   rw[hs]at HN'
   obtain⟨h0,h1,h2,h3,h4,h5,h6⟩:=HA1.out
   simp only[Nat.zero_add]at h1 h2 h3 h4 h5 h6
   go_wp2_with (at_builtin;refine zbd _ (by rfl) (.tmp 31) (.tmp 33) (by rfl) w.heap.size (v:=u6) (u:= .slice (some ⟨w1.heap.size,0,none⟩) 1 1) (a:=zs) (b:=[x]) (by rfl) (by rfl) (HI1.out.after (za2 _ _)).own (lst_newC w1 x) (by have:=HZ.out;show _+1<=100000;omega) (HI1.out.after (za2 _ _)).below.size ?_)
   intro v' w2 ho hg
   have H2:Hid (ThI w v' (zcx (l.take (k+1)) n) w2):=by
    show ThI _ _ _ _
    rw[HN'.out]
    exact⟨zvr (HI1.out.after (za2 _ _)).below (HI1.out.after (za2 _ _)).own hg,by simpa using ho⟩
   clear ho hg h0 h1 h2 h3 h4 h5 h6 hs1 HA1 HI1
   go_wp2
   go_roundw
   case rel=>exact⟨k+1,by omega,by go_num,H2.out⟩
   case measure=>simp[intOf];omega
  obtain rfl:k=l.length:=by omega
  have HE:Hid (zcx (l.take l.length) n=zcx l n):=by show zcx _ _=_;rw[List.take_length]
  go_wp2
  go_ret2
  refine⟨_,qe9 HIN.out.symm,?_,HI.out.below⟩
  rw[HTH.out,<-HE.out]
  exact HI.out.own
 have HIN:Hid (inS b n=false):=by show inS b n=false;unfold inS;exact decide_eq_false hn
 have HTH:Hid (thS b n=[]):=by show thS b n=_;unfold thS;rw[if_neg hn]
 clear h
 by_cases h0:n<0
 ·go_enter Tryz.func186,Tryz.ntmps186
  go_wp2
  go_ret2
  refine⟨.slice none 0 0,qe9 HIN.out.symm,?_,Below.refl _ _⟩
  rw[HTH.out]
  exact zd6 _ _
 have h1:(b.ds.length:Int)<n:=by
  have:¬n<=(b.ds.length:Int):=fun e=>hn ⟨by omega,e⟩
  omega
 go_enter Tryz.func186,Tryz.ntmps186
 go_wp2
 go_ret2
 refine⟨.slice none 0 0,qe9 HIN.out.symm,?_,Below.refl _ _⟩
 rw[HTH.out]
 exact zd6 _ _
end
variable {w w':World}
theorem qcq{W W':World}{g:Nat}{n:String}{cs:Array Value}(hg:Tryz.prog.globalNamed n=some g)(h:W.var? Tryz.prog n=some cs)(hb:Below W.heap.size W W'):W'.var? Tryz.prog n=some cs:=by
 unfold World.var? at h⊢
 rw[hg]at h⊢
 simp only[Option.bind_some]at h⊢
 have hlt:g<W.heap.size:=by
  rcases Nat.lt_or_ge g W.heap.size with h'|h'
  ·exact h'
  rw[Array.getElem?_eq_none h']at h;cases h
 rw[hb.block g (by omega)]
 exact h
theorem zd7{a:Nat}{o:Nat}{v:Value}(h:w.cell? ⟨a,o,none⟩=some v)(hb:Below w.heap.size w w'):w'.cell? ⟨a,o,none⟩=some v:=by
 have hlt:a<w.heap.size:=by
  rcases Nat.lt_or_ge a w.heap.size with h'|h'
  ·exact h'
  simp[World.cell?,Array.getElem?_eq_none h']at h
 rw[hb.cell (p:=⟨a,o,none⟩) hlt]
 exact h
structure zck(w:World):Prop where
 tab:Lib.TabIs Tryz.prog w "internal/strconv.uint64pow10" .u64 Lib.pow10Tab
 syn:∃t p,w.var? Tryz.prog "strconv.ErrSyntax"=some #[.iface t p]
 rng:∃t p,w.var? Tryz.prog "strconv.ErrRange"=some #[.iface t p]
 mx:∃m,w.cell? ⟨0,0,none⟩=some (.int .i64 m)
theorem zck.below(h:zck w)(hb:Below w.heap.size w w'):zck w' where
 tab:=qcq (g:=5) (by kernel_rfl) h.tab hb
 syn:=let ⟨t,p,e⟩:=h.syn;⟨t,p,qcq (g:=1) (by kernel_rfl) e hb⟩
 rng:=let ⟨t,p,e⟩:=h.rng;⟨t,p,qcq (g:=2) (by kernel_rfl) e hb⟩
 mx:=let ⟨m,e⟩:=h.mx;⟨m,zd7 e hb⟩
def inI(n:Int):Prop:= -9223372036854775808<=n/\n<=9223372036854775807
def zc3(n:Int):ByteArray:=⟨(Lib.itoa n).toArray⟩
theorem zli(n:Int)(hn:inI n)(w:World)(hw:zck w):
 Calls Tryz.prog 53 #[.int .i64 n] w fun e w'=>e= .returned (.string (zc3 n))/\Below w.heap.size w w':=by
 refine(Tryz.strconv_Itoa n hn.1 hn.2 w hw.tab).mono ?_
 rintro e w' ⟨rfl,k,os,rfl⟩
 refine⟨rfl,rfl,rfl,rfl,?_,fun j hj=> ?_⟩
 ·show w.heap.size<=(w.heap++os).size
  rw[Array.size_append];omega
 show(w.heap++os)[j]? =w.heap[j]?
 exact Array.getElem?_append_left hj
def zhp(s:ByteArray):Option Int:=match Lib.atoiAll s.data.toList with| .ok v=>some v|_=>none
theorem zul{s:ByteArray}{v:Int}(h:zhp s=some v):inI v:=by
 unfold zhp at h
 cases ha:Lib.atoiAll s.data.toList with
 |ok u=>rw[ha]at h;obtain rfl:=Option.some.inj h;exact Lib.atoiAll_bounds ha
 |«syntax»=>rw[ha]at h;cases h
 |range=>rw[ha]at h;cases h
theorem zt6(s:ByteArray)(v:Int)(hs:s.size<=281474976710656)(h:zhp s=some v)(w:World):
 Calls Tryz.prog 52 #[.string s] w fun e w'=>e= .returned (.tuple #[.int .i64 v,.nilIface])/\Below w.heap.size w w':=by
 unfold zhp at h
 cases ha:Lib.atoiAll s.data.toList with
 |ok u=>
  rw[ha]at h;obtain rfl:=Option.some.inj h
  refine(Tryz.strconv_Atoi_ok s (by omega) u ha w).mono ?_
  rintro e w' ⟨rfl,rfl|⟨t,rfl⟩⟩
  ·exact⟨rfl,Below.refl _ _⟩
  exact⟨rfl,Lib.bytesWorld_below _ _ _⟩
 |«syntax»=>rw[ha]at h;cases h
 |range=>rw[ha]at h;cases h
theorem qgu(s:ByteArray)(hs:s.size<=281474976710656)(h:zhp s=none)(w:World)(hw:zck w):
 Calls Tryz.prog 52 #[.string s] w fun e w'=>∃v t q,e= .returned (.tuple #[.int .i64 v,.iface t q])/\inI v/\Below w.heap.size w w':=by
 unfold zhp at h
 cases ha:Lib.atoiAll s.data.toList with
 |ok u=>rw[ha]at h;cases h
 |«syntax»=>
  obtain⟨t,p,e⟩:=hw.syn
  refine(Tryz.strconv_Atoi_syntax_var s hs ha t p w e).mono ?_
  rintro e w' ⟨N,rfl,_,_,hb⟩
  exact⟨_,_,_,rfl,by unfold inI;omega,hb⟩
 |range=>
  obtain⟨t,p,e⟩:=hw.rng
  refine(Tryz.strconv_Atoi_range_var s hs ha t p w e).mono ?_
  rintro e w' ⟨N,rfl,_,_,hb⟩
  exact⟨_,_,_,rfl,Lib.atoiSat_bounds _,hb⟩
variable {a:ByteArray} {b c:Int} {w w' wk:World} {zs:List Int} {d:Dd} {B1 B2:Nat}
def zfi(zs:List Int):ByteArray:=zs.foldl (fun acc z=>acc++(⟨#[32]⟩++zc3 z)) ⟨#[]⟩
theorem qda(zs:List Int)(z:Int):zfi (zs++[z])=zfi zs++(⟨#[32]⟩++zc3 z):=by
 unfold zfi
 rw[List.foldl_append]
 rfl
theorem ret_strD{b:ByteArray}(h:a=b):Ending.returned (.string a)= .returned (.string b):=by rw[h]
theorem zbx{n:Int}(h:inI n):(zc3 n).size<=21:=by
 show((Lib.itoa n).toArray).size<=21
 rw[List.size_toArray]
 exact Lib.itoa_length_le n h.1 h.2
theorem ztj:∀(zs:List Int) (acc:ByteArray),(∀z∈zs,inI z)->(zs.foldl (fun acc z=>acc++(⟨#[32]⟩++zc3 z)) acc).size<=acc.size+22*zs.length
 |[],acc,_=>by simp
 |z::l,acc,h=>by
  have h1:=ztj l (acc++(⟨#[32]⟩++zc3 z)) (fun x hx=>h x (by simp[hx]))
  have h2:=zbx (h z (by simp))
  rw[ByteArray.size_append,ByteArray.size_append]at h1
  have:(⟨#[32]⟩:ByteArray).size=1:=rfl
  rw[List.foldl_cons,List.length_cons]
  omega
theorem zj0(zs:List Int)(h:∀z∈zs,inI z):(zfi zs).size<=22*zs.length:=by
 have:=ztj zs ⟨#[]⟩ h
 have e:(⟨#[]⟩:ByteArray).size=0:=rfl
 unfold zfi
 omega
structure Ints(w:World)(b off:Nat)(zs:List Int):Prop where
 lt:b<w.heap.size
 cell:∀(i:Nat) (h:i<zs.length),w.cell? ⟨b,off+i,none⟩=some (.int .i64 (zs[i]'h))
theorem Ints.below{b off:Nat}(h:Ints w b off zs)(hb:Below w.heap.size w w'):Ints w' b off zs:=
 ⟨by have:=hb.size;have:=h.lt;omega,fun i hi=>zd7 (h.cell i hi) hb⟩
theorem qak(l:List Int)(k:Nat)(h:k<l.length):l.take (k+1)=l.take k++[l[k]]:=by
 rw[List.take_add_one,List.getElem?_eq_getElem h];rfl
theorem qdb(b off n cap:Nat)(zs:List Int)(w:World)(hw:zck w)(hn:zs.length=n)(hm:n<=5)(hz:∀z∈zs,inI z)(hr:Ints w b off zs):
 Calls Tryz.prog 184 #[.slice (some ⟨b,off,none⟩) n cap] w fun e w'=>e= .returned (.string (zfi zs))/\Below w.heap.size w w':=by
 have HR:=hid hr
 have HL:=hid hn
 have HZ:Hid _:=hz
 have HW:Hid _:=hw
 have hb:=hr.lt
 have HT:Hid (zfi (zs.take n)=zfi zs):=by show zfi (zs.take n)=zfi zs;rw[<-hn,List.take_length]
 clear hr hn hz hw
 go_enter Tryz.func184,Tryz.ntmps184
 go_wp2
 go_loopw [3,8] (fun t i wr=>∃k:Nat,k<=n/\i= .int .i64 k/\t= .string (zfi (zs.take k))/\Below w.heap.size w wr) (fun _ i _=>n-(intOf i).toNat)
 case atStart=>exact⟨0,Nat.zero_le _,rfl,rfl,Below.refl _ _⟩
 obtain⟨k,hk,rfl,rfl,hbel⟩:=hrel
 by_cases hlt:k<n
 ·have hkl:k<zs.length:=by rw[HL.out];exact hlt
  have HN:Hid (zfi (zs.take (k+1))=zfi (zs.take k)++(⟨#[32]⟩++zc3 zs[k])):=by rw[qak zs k hkl];exact qda _ _
  have HI:Hid (inI zs[k]):=HZ.out _ (List.getElem_mem _)
  have hs1:(zc3 zs[k]).size<=21:=zbx HI.out
  have hs2:(zfi (zs.take k)).size<=22*5:=by
   have h:=zj0 (zs.take k) (fun z hz=>HZ.out z (List.mem_of_mem_take hz))
   have:=List.length_take_le k zs
   omega
  have h0:=(HR.out.below hbel).cell k hkl
  generalize zs[k]=z at h0 HN HI hs1
  go_wp2_with fail
  refine(zli z HI.out _ (HW.out.below hbel)).mono ?_
  rintro e w1 ⟨rfl,hb1⟩
  have hb2:Below w.heap.size w w1:=bla hbel hb1
  clear h0 hb1 hbel
  go_wp2
  go_roundw
  case rel=>exact⟨k+1,by omega,by go_num,by rw[HN.out],hb2⟩
  case measure=>simp[intOf];omega
 go_wp2
 go_ret
 obtain rfl:k=n:=by omega
 exact⟨ret_strD HT.out,hbel⟩
structure At7(w:World)(B:Nat)(d:Dd):Prop where
 lt:B<w.heap.size
 c0:w.cell? ⟨B,0,none⟩=some (.int .i64 d.kind)
 c1:w.cell? ⟨B,1,none⟩=some (.int .i64 d.by_)
 c2:w.cell? ⟨B,2,none⟩=some (.int .i64 d.no)
 c3:w.cell? ⟨B,3,none⟩=some (.int .i64 d.seen)
 c4:w.cell? ⟨B,4,none⟩=some (.int .i64 d.at_)
 c5:w.cell? ⟨B,5,none⟩=some (.int .i64 d.many)
 c6:w.cell? ⟨B,6,none⟩=some (.string d.text)
abbrev ddObj(d:Dd):Obj:= .cells #[.int .i64 d.kind,.int .i64 d.by_,.int .i64 d.no,.int .i64 d.seen,.int .i64 d.at_,.int .i64 d.many,.string d.text] 124
theorem zjm(w:World)(d:Dd):At7 (w.alloc (ddObj d)) w.heap.size d:=by
 refine⟨by simp,?_,?_,?_,?_,?_,?_,?_⟩<;>simp[go_sem]
theorem At7.below{B:Nat}(h:At7 w B d)(hb:Below w.heap.size w w'):At7 w' B d:=
 ⟨by have:=hb.size;have:=h.lt;omega,zd7 h.c0 hb,zd7 h.c1 hb,zd7 h.c2 hb,zd7 h.c3 hb,zd7 h.c4 hb,zd7 h.c5 hb,zd7 h.c6 hb⟩
theorem At7.alloc{w:World}{B:Nat}{d:Dd}(h:At7 w B d)(o:Obj):At7 (w.alloc o) B d:=h.below ((Below.refl _ _).alloc (Nat.le_refl _) _)
structure LInv(w:World)(B1 B2:Nat)(d:Dd)(zs:List Int)(wk:World):Prop where
 below:Below w.heap.size w wk
 ready:zck wk
 at_:At7 wk B1 d
 ints:Ints wk B2 0 zs
theorem LInv.after(h:LInv w B1 B2 d zs wk)(hb:Below wk.heap.size wk w'):LInv w B1 B2 d zs w':=
 ⟨bla h.below hb,h.ready.below hb,h.at_.below hb,h.ints.below hb⟩
theorem LInv.drew{w wk:World}{B1 B2:Nat}{d:Dd}{zs:List Int}(h:LInv w B1 B2 d zs wk):LInv w B1 B2 d zs wk.drew:=h.after (Below.refl _ _).drew
theorem told_q(h:LInv w B1 B2 d zs wk)(n cap:Nat)(hn:zs.length=n)(hm:n<=5)(hz:∀z∈zs,inI z):
 Calls Tryz.prog 184 #[.slice (some ⟨B2,0,none⟩) n cap] wk fun e w'=>e= .returned (.string (zfi zs))/\LInv w B1 B2 d zs w':=
 (qdb B2 0 n cap zs wk h.ready hn hm hz h.ints).mono fun _ _ ⟨he,hb⟩=>⟨he,h.after hb⟩
theorem qfh(w:World)(a b c d e:Int):Ints (w.alloc (.cells #[.int .i64 a,.int .i64 b,.int .i64 c,.int .i64 d,.int .i64 e] 217)) w.heap.size 0 [a,b,c,d]:=by
 refine⟨by simp,fun i hi=> ?_⟩
 have h4:i<4:=hi
 rcases(show i=0\/i=1\/i=2\/i=3 by omega)with rfl|rfl|rfl|rfl<;>simp[go_sem]
theorem qfi(w:World)(a b c d e:Int):Ints (w.alloc (.cells #[.int .i64 a,.int .i64 b,.int .i64 c,.int .i64 d,.int .i64 e] 217)) w.heap.size 0 [a,b,c,d,e]:=by
 refine⟨by simp,fun i hi=> ?_⟩
 have h4:i<5:=hi
 rcases(show i=0\/i=1\/i=2\/i=3\/i=4 by omega)with rfl|rfl|rfl|rfl|rfl<;>simp[go_sem]
theorem zr2{w1:World}(hw:zck w)(hb:Below (w.alloc (ddObj d)).heap.size (w.alloc (ddObj d)) w1)(o:Obj)(hi:Ints (w1.alloc o) w1.heap.size 0 zs):LInv w w.heap.size w1.heap.size d zs (w1.alloc o):=
 have h1:Below w.heap.size w w1:=bla ((Below.refl _ _).alloc (Nat.le_refl _) _) hb
 have h2:Below w1.heap.size w1 (w1.alloc o):=(Below.refl _ _).alloc (Nat.le_refl _) _
 ⟨bla h1 h2,(hw.below h1).below h2,((zjm w d).below hb).below h2,hi⟩
theorem zt4(h:za9 d=0):(d.kind=1\/d.kind=2)/\zcr d=true:=by
 by_cases hk:d.kind=1\/d.kind=2
 ·cases hp:zcr d
  ·rw[za9,if_neg (by omega),if_pos hp]at h;cases h
  exact⟨hk,rfl⟩
 rw[za9,if_pos (by omega)]at h;cases h
theorem zuy(h:za9 d=0):inI d.by_/\inI d.no/\inI d.seen/\inI d.at_:=by
 have hp:=(zt4 h).2
 simp[zcr,zas,wrB]at hp
 unfold inI
 omega
theorem qeb(h:za9 d=0)(hk:d.kind=1):d.many=0/\zci d.text=true:=by
 have hp:=(zt4 h).2
 rw[za9,if_neg (by omega),if_neg (by simp[hp]),if_pos hk,zwt]at h
 by_cases hm:d.many=0
 ·rw[if_neg (by omega)]at h
  cases hs:zci d.text
  ·rw[hs]at h;cases h
  exact⟨hm,rfl⟩
 rw[if_pos hm]at h;cases h
theorem zwa(h:za9 d=0)(hk:d.kind≠1):d.kind=2/\d.text.size=0/\1<=d.many/\d.many<=200:=by
 obtain⟨hk',hp⟩:=zt4 h
 rw[za9,if_neg (by omega),if_neg (by simp[hp]),if_neg hk,zl3]at h
 by_cases hm:d.text.size=0
 ·rw[if_neg (by omega)]at h
  cases hs:zas d.many 1 200
  ·rw[hs]at h;cases h
  simp[zas]at hs;exact⟨by omega,hm,hs⟩
 rw[if_pos hm]at h;cases h
theorem zj5{s:ByteArray}(h:zci s=true):1<=s.size/\s.size<=20:=by
 simp[zci]at h;exact h.1
theorem qfu{a d:Int}(h:inI a/\inI b/\inI c/\inI d):∀z∈[a,b,c,d],inI z:=by
 intro z hz
 simp at hz
 rcases hz with rfl|rfl|rfl|rfl
 ·exact h.1
 ·exact h.2.1
 ·exact h.2.2.1
 exact h.2.2.2
theorem qfv{a d e:Int}(h:inI a/\inI b/\inI c/\inI d)(h':inI e):∀z∈[a,b,c,d,e],inI z:=by
 intro z hz
 simp at hz
 rcases hz with rfl|rfl|rfl|rfl|rfl
 ·exact h.1
 ·exact h.2.1
 ·exact h.2.2.1
 ·exact h.2.2.2
 exact h'
def zso(d:Dd):ByteArray:=if d.kind=1 then(⟨#[112,117,116]⟩++zfi [d.by_,d.no,d.seen,d.at_])++⟨#[32]⟩++d.text else⟨#[116,97,107,101]⟩++zfi [d.by_,d.no,d.seen,d.at_,d.many]
def zcy(d:Dd):ByteArray:=if za9 d=0 then zso d else⟨#[]⟩
theorem zjs(h1:a=zcy d)(h2:c=za9 d):Ending.returned (.tuple #[.string a,.int .i64 c])= .returned (.tuple #[.string (zcy d),.int .i64 (za9 d)]):=by rw[h1,h2]
theorem line_no(d:Dd)(w:World)(h:za9 d≠0):
 Calls Tryz.prog 136 #[ddV d] w fun e w'=>e= .returned (.tuple #[.string (zcy d),.int .i64 (za9 d)])/\Below w.heap.size w w':=by
 have HS:Hid (zcy d=⟨#[]⟩):=by show zcy d=_;rw[zcy,if_neg h]
 have hne:(za9 d != 0)=true:=by simp[h]
 clear h
 obtain⟨kind,by_,no,seen,at_,many,text⟩:=d
 go_enter Tryz.func136,Tryz.ntmps136
 go_wp2_with fail
 refine(zji ⟨kind,by_,no,seen,at_,many,text⟩ _).mono ?_
 rintro e w1 ⟨rfl,hb⟩
 go_wp2
 go_ret2
 exact⟨zjs HS.out.symm rfl,bla ((Below.refl _ _).alloc (Nat.le_refl _) _) hb⟩
theorem line_put(d:Dd)(w:World)(hw:zck w)(h:za9 d=0)(hk:d.kind=1):
 Calls Tryz.prog 136 #[ddV d] w fun e w'=>e= .returned (.tuple #[.string (zcy d),.int .i64 (za9 d)])/\Below w.heap.size w w':=by
 have HS:Hid (zcy d=(⟨#[112,117,116]⟩++zfi [d.by_,d.no,d.seen,d.at_])++⟨#[32]⟩++d.text):=by show zcy d=_;rw[zcy,if_pos h,zso,if_pos hk]
 have HC:=hid h
 have HW:=hid hw
 obtain⟨kind,by_,no,seen,at_,many,text⟩:=d
 obtain rfl:kind=1:=hk
 have hI:=zuy h
 have HI:Hid _:=qfu hI
 have hts:=(zj5 (qeb h rfl).2).2
 have hto:=zj0 [by_,no,seen,at_] HI.out
 simp only[List.length_cons,List.length_nil,Nat.reduceAdd,Nat.reduceMul]at hto hts
 clear h hw hI
 go_enter Tryz.func136,Tryz.ntmps136
 go_wp2_with fail
 refine(zji ⟨_,by_,no,seen,at_,many,text⟩ _).mono ?_
 rintro e w1 ⟨rfl,hb⟩
 rw[HC.out]
 have HA:Hid (At7 w1 w.heap.size ⟨1,by_,no,seen,at_,many,text⟩):=(zjm w ⟨1,by_,no,seen,at_,many,text⟩).below hb
 obtain⟨hlt,a0,a1,a2,a3,a4,a5,a6⟩:=HA.out
 have b0:∀o,(w1.alloc o).cell? ⟨w.heap.size,0,none⟩=some (.int .i64 1):=fun o=>(HA.out.alloc o).c0
 have HL:Hid _:=zr2 (d:=⟨1,by_,no,seen,at_,many,text⟩) HW.out hb (.cells #[.int .i64 by_,.int .i64 no,.int .i64 seen,.int .i64 at_,.int .i64 many] 217) (qfh w1 by_ no seen at_ many)
 go_wp2
 clear a0 a1 a2 a3 a4 a5 a6 b0 hb hlt HA
 refine wp_region_quiet (C:=fun wk=>LInv w w.heap.size w1.heap.size ⟨1,by_,no,seen,at_,many,text⟩ [by_,no,seen,at_] wk) (by kernel_rfl) (by kernel_rfl) (HL.out.drew) ?_
 refine wpQuiet_step (fun K hK=> ?_)
 go_simp
 refine⟨_,fun _ _=>rfl,hK _ ?_⟩
 clear hK K
 refine wpQuiet_step (fun K hK=> ?_)
 go_simp
 refine⟨_,fun wk hwk=>told_q hwk 4 5 rfl (by decide) HI.out,hK _ ?_⟩
 clear hK K
 refine wpQuiet_step (fun K hK=> ?_)
 go_simp
 refine⟨.string (⟨#[112,117,116]⟩++zfi [by_,no,seen,at_]),fun wk _=> ?_,hK _ ?_⟩
 ·rw[if_neg (by omega)]
  exact⟨rfl,rfl⟩
 clear hK K
 refine wpQuiet_step (fun K hK=> ?_)
 go_simp
 refine⟨.string (⟨#[112,117,116]⟩++zfi [by_,no,seen,at_]++⟨#[32]⟩),fun wk _=> ?_,hK _ ?_⟩
 ·rw[if_neg (by omega)]
  exact⟨rfl,rfl⟩
 clear hK K
 refine wpQuiet_step (fun K hK=> ?_)
 go_simp
 refine⟨_,fun _ _=>rfl,hK _ ?_⟩
 clear hK K
 refine wpQuiet_step (fun K hK=> ?_)
 go_simp
 refine⟨.string text,fun wk hwk=> ?_,hK _ ?_⟩
 ·obtain⟨_,c0,c1,c2,c3,c4,c5,c6⟩:=hwk.at_
  go_simp
 clear hK K
 refine wpQuiet_step (fun K hK=> ?_)
 go_simp
 refine⟨.string (⟨#[112,117,116]⟩++zfi [by_,no,seen,at_]++⟨#[32]⟩++text),fun wk _=> ?_,hK _ ?_⟩
 ·rw[if_neg (by omega)]
  exact⟨rfl,rfl⟩
 iterate 2 (clear hK K;refine wpQuiet_step (fun K hK=> ?_);go_simp;refine⟨_,fun _ _=>rfl,hK _ ?_⟩)
 clear hK K
 refine wpQuiet_nil ?_
 intro w2 hw2
 have HB2:=hid hw2.below
 clear hw2
 go_wp2
 go_ret2
 exact⟨zjs HS.out.symm HC.out.symm,HB2.out⟩
theorem qf5(d:Dd)(w:World)(hw:zck w)(h:za9 d=0)(hk:d.kind≠1):
 Calls Tryz.prog 136 #[ddV d] w fun e w'=>e= .returned (.tuple #[.string (zcy d),.int .i64 (za9 d)])/\Below w.heap.size w w':=by
 have HS:Hid (zcy d=⟨#[116,97,107,101]⟩++zfi [d.by_,d.no,d.seen,d.at_,d.many]):=by show zcy d=_;rw[zcy,if_pos h,zso,if_neg hk]
 have HC:=hid h
 have HW:=hid hw
 obtain⟨hk2,_,hm1,hm2⟩:=zwa h hk
 obtain⟨kind,by_,no,seen,at_,many,text⟩:=d
 obtain rfl:kind=2:=hk2
 have hI:=zuy h
 have HI:Hid _:=qfv hI (e:=many) (by unfold inI;simp only at hm1 hm2;omega)
 have hto:=zj0 [by_,no,seen,at_,many] HI.out
 simp only[List.length_cons,List.length_nil,Nat.reduceAdd,Nat.reduceMul]at hto
 clear h hw hI hk hm1 hm2
 go_enter Tryz.func136,Tryz.ntmps136
 go_wp2_with fail
 refine(zji ⟨_,by_,no,seen,at_,many,text⟩ _).mono ?_
 rintro e w1 ⟨rfl,hb⟩
 rw[HC.out]
 have HA:Hid (At7 w1 w.heap.size ⟨2,by_,no,seen,at_,many,text⟩):=(zjm w ⟨2,by_,no,seen,at_,many,text⟩).below hb
 obtain⟨hlt,a0,a1,a2,a3,a4,a5,a6⟩:=HA.out
 have b0:∀o,(w1.alloc o).cell? ⟨w.heap.size,0,none⟩=some (.int .i64 2):=fun o=>(HA.out.alloc o).c0
 have HL:Hid _:=zr2 (d:=⟨2,by_,no,seen,at_,many,text⟩) HW.out hb (.cells #[.int .i64 by_,.int .i64 no,.int .i64 seen,.int .i64 at_,.int .i64 many] 217) (qfi w1 by_ no seen at_ many)
 go_wp2_with fail
 clear a0 a1 a2 a3 a4 a5 a6 b0 hb hlt HA
 refine(told_q HL.out 5 5 rfl (by decide) HI.out).mono ?_
 rintro e w2 ⟨rfl,hl2⟩
 have HB2:=hid hl2.below
 clear HL hl2
 go_wp2
 go_ret2
 exact⟨zjs HS.out.symm HC.out.symm,HB2.out⟩
theorem line_any(d:Dd)(w:World)(hw:zck w):
 Calls Tryz.prog 136 #[ddV d] w fun e w'=>e= .returned (.tuple #[.string (zcy d),.int .i64 (za9 d)])/\Below w.heap.size w w':=by
 by_cases h:za9 d=0
 ·by_cases hk:d.kind=1
  ·exact line_put d w hw h hk
  exact qf5 d w hw h hk
 exact line_no d w h
theorem zj7(n:Int)(hn:inI n)(w:World)(hw:zck w):
 Calls Tryz.prog 42 #[.int .i64 n] w fun e w'=>e= .returned (.string (zc3 n))/\Below w.heap.size w w':=by
 have HW:Hid _:=hw
 have HN:Hid _:=hn
 clear hw hn
 go_enter Tryz.func42,Tryz.ntmps42
 go_wp2_with (go_at_call 53;refine(zli _ HN.out _ HW.out).mono ?_;rintro e w' ⟨rfl,hb⟩)
 go_ret
 exact⟨rfl,hb⟩
variable {w w':World}
def zfo(s:ByteArray):Option Int:=match zhp s with|some v=>if zc3 v=s then some v else none|none=>none
def zbw:List ByteArray->Option (List Int)
 |[]=>some []
 |s::r=>match zfo s with|none=>none|some z=>(zbw r).map (z:: ·)
theorem zm5:∀(l:List ByteArray) (s:ByteArray) (zs:List Int) (z:Int),zbw l=some zs->zfo s=some z->zbw (l++[s])=some (zs++[z])
 |[],s,zs,z,h,hz=>by cases h;simp[zbw,hz]
 |x::r,s,zs,z,h,hz=>by
  rw[zbw]at h
  cases hx:zfo x with
  |none=>rw[hx]at h;cases h
  |some u=>
   rw[hx]at h
   cases hr:zbw r with
   |none=>rw[hr]at h;cases h
   |some us=>
    rw[hr]at h
    obtain rfl:=Option.some.inj h
    have:=zm5 r s us z hr hz
    simp[zbw,hx,this]
theorem zs9:∀(l:List ByteArray) (k:Nat) (h:k<l.length),zfo l[k]=none->zbw l=none
 |x::r,0,_,h=>by simp[zbw,show zfo x=none from h]
 |x::r,k+1,hk,h=>by
  have:=zs9 r k (by simpa using hk) h
  rw[zbw]
  cases zfo x with
  |none=>rfl
  |some u=>simp[this]
theorem zhn:∀(l:List ByteArray) (zs:List Int),zbw l=some zs->zs.length=l.length
 |[],zs,h=>by cases h;rfl
 |x::r,zs,h=>by
  rw[zbw]at h
  cases hx:zfo x with
  |none=>rw[hx]at h;cases h
  |some u=>
   rw[hx]at h
   cases hr:zbw r with
   |none=>rw[hr]at h;cases h
   |some us=>
    rw[hr]at h
    obtain rfl:=Option.some.inj h
    simp[zhn r us hr]
structure Five(w:World)(B:Nat)(zs:List Int):Prop where
 lt:B<w.heap.size
 c:∀i,i<5->w.cell? ⟨B,i,none⟩=some (.int .i64 (zs.getD i 0))
 f:∀i,w.frozen? ⟨B,i,none⟩=false
theorem zv4{a o:Nat}(h:a<w.heap.size)(hb:Below w.heap.size w w'):w'.frozen? ⟨a,o,none⟩=w.frozen? ⟨a,o,none⟩:=hb.frozen (p:=⟨a,o,none⟩) h
theorem Five.below{B:Nat}{zs:List Int}(h:Five w B zs)(hb:Below w.heap.size w w'):Five w' B zs:=
 ⟨by have:=hb.size;have:=h.lt;omega,fun i hi=>zd7 (h.c i hi) hb,fun i=>(zv4 h.lt hb).trans (h.f i)⟩
structure Strs(w:World)(b off:Nat)(ws:List ByteArray):Prop where
 lt:b<w.heap.size
 cell:∀(i:Nat) (h:i<ws.length),w.cell? ⟨b,off+i,none⟩=some (.string (ws[i]'h))
theorem Strs.below{b off:Nat}{zs:List ByteArray}(h:Strs w b off zs)(hb:Below w.heap.size w w'):Strs w' b off zs:=
 ⟨by have:=hb.size;have:=h.lt;omega,fun i hi=>zd7 (h.cell i hi) hb⟩
theorem qal(l:List ByteArray)(k:Nat)(h:k<l.length):l.take (k+1)=l.take k++[l[k]]:=by
 rw[List.take_add_one,List.getElem?_eq_getElem h];rfl
abbrev spS:ByteArray:=⟨#[32]⟩
abbrev bl(l:List UInt8):ByteArray:=⟨l.toArray⟩
theorem zjk(s:ByteArray):bl s.data.toList=s:=by cases s;simp
theorem zhc(l:List UInt8):(bl l).data.toList=l:=by simp
theorem zpo{a b:List UInt8}(h:bl a=bl b):a=b:=by
 have:=congrArg (fun s:ByteArray=>s.data.toList) h
 simpa using this
def zg3:List UInt8->Option (List UInt8×List UInt8)
 |[]=>none
 |b::r=>if b=32 then some ([],r)else(zg3 r).map fun p=>(b::p.1,p.2)
def zn5:Nat->List UInt8->List (List UInt8)
 | 0,s=>[s]
 |k+1,s=>match zg3 s with|none=>[s]|some p=>p.1::zn5 k p.2
theorem zes:∀{s x y:List UInt8},zg3 s=some (x,y)->s=x++32::y
 |[],x,y,h=>by cases h
 |b::r,x,y,h=>by
  rw[zg3]at h
  by_cases hb:b=32
  ·rw[if_pos hb]at h
   obtain⟨rfl,rfl⟩:=Prod.mk.inj (Option.some.inj h)
   rw[hb];rfl
  rw[if_neg hb]at h
  cases hc:zg3 r with
  |none=>rw[hc]at h;cases h
  |some p=>
   rw[hc]at h
   obtain⟨rfl,rfl⟩:=Prod.mk.inj (Option.some.inj h)
   have:=zes (x:=p.1) (y:=p.2) hc
   rw[this];rfl
theorem qgg:∀(x y:List UInt8),(∀b∈x,b≠32)->zg3 (x++32::y)=some (x,y)
 |[],y,_=>by simp[zg3]
 |b::x,y,h=>by
  have hb:b≠32:=h b (by simp)
  have:=qgg x y (fun c hc=>h c (by simp[hc]))
  rw[List.cons_append,zg3,if_neg hb,this]
  rfl
theorem zph:∀{s:List UInt8},zg3 s=none->∀b∈s,b≠32
 |[],_=>by simp
 |b::r,h=>by
  rw[zg3]at h
  by_cases hb:b=32
  ·rw[if_pos hb]at h;cases h
  rw[if_neg hb]at h
  cases hc:zg3 r with
  |none=>
   intro c hc'
   rcases List.mem_cons.1 hc' with rfl|hm
   ·exact hb
   exact zph hc c hm
  |some p=>rw[hc]at h;cases h
theorem zpi:∀{s:List UInt8},(∀b∈s,b≠32)->zg3 s=none
 |[],_=>rfl
 |b::r,h=>by
  rw[zg3,if_neg (h b (by simp)),zpi (fun c hc=>h c (by simp[hc]))]
  rfl
theorem zp7:∀(s:List UInt8),(zg3 s=none/\Lib.index s [32]= -1)\/(∃x y,zg3 s=some (x,y)/\Lib.index s [32]=(x.length:Int))
 |[]=> .inl ⟨rfl,by decide⟩
 |b::r=>by
  by_cases hb:b=32
  ·refine .inr ⟨[],r,by rw[zg3,if_pos hb],?_⟩
   rw[hb]
   exact Lib.index_first (i:=0) (Nat.zero_le _) (by simp[Lib.occAt]) (fun _ h=>absurd h (Nat.not_lt_zero _))
  have hn:Lib.NoOcc (b::r) [32] 1:=by
   intro j hj
   obtain rfl:j=0:=by omega
   have:((32:UInt8)==b)=false:=beq_eq_false_iff_ne.2 (fun e=>hb e.symm)
   simp only[Lib.occAt,List.drop_zero,List.isPrefixOf,this,Bool.false_and]
  have hd:=Lib.index_drop hn (by simp)
  rw[List.drop_one,List.tail_cons]at hd
  rcases zp7 r with⟨h1,h2⟩|⟨x,y,h1,h2⟩
  ·refine .inl ⟨by rw[zg3,if_neg hb,h1];rfl,?_⟩
   rw[hd,h2];rfl
  refine .inr ⟨b::x,y,by rw[zg3,if_neg hb,h1];rfl,?_⟩
  rw[hd,h2,if_neg (by simp)]
  simp
theorem zqs:∀(k:Nat) (s:List UInt8),Lib.splitK [32] 0 k s=zn5 k s
 | 0,s=>rfl
 |k+1,s=>by
  rw[Lib.splitK,zn5]
  rcases zp7 s with⟨h1,h2⟩|⟨x,y,h1,h2⟩
  ·rw[h1,h2];rfl
  have hj:=zes h1
  rw[h1,h2,if_neg (by simp)]
  show _=x::zn5 k y
  have e1:s.take ((x.length:Int).toNat+0)=x:=by rw[hj];simp
  have e2:s.drop ((x.length:Int).toNat+[(32:UInt8)].length)=y:=by
   rw[hj]
   simp
  rw[e1,e2,zqs k y]
theorem zvj:∀(k j:Nat) (s:List UInt8),s.length<=k->zn5 (k+j) s=zn5 k s
 | 0,j,s,h=>by
  have:s=[]:=List.length_eq_zero_iff.1 (by omega)
  subst this
  cases j with
  |zero=>rfl
  |succ j=>rw[Nat.zero_add,zn5];rfl
 |k+1,j,s,h=>by
  rw[show k+1+j=(k+j)+1 by omega,zn5,zn5]
  cases hc:zg3 s with
  |none=>rfl
  |some p=>
   have hj:=zes (x:=p.1) (y:=p.2) hc
   have:p.2.length<=k:=by
    have:=congrArg List.length hj
    simp at this
    omega
   simp only[zvj k j p.2 this]
def zng:List (List UInt8)->List UInt8
 |[]=>[]
 |[x]=>x
 |x::y::r=>x++32::zng (y::r)
theorem cutK_ne:∀(k:Nat) (s:List UInt8),∃x r,zn5 k s=x::r
 | 0,s=>⟨s,[],rfl⟩
 |k+1,s=>by
  rw[zn5]
  cases zg3 s with
  |none=>exact⟨s,[],rfl⟩
  |some p=>exact⟨p.1,_,rfl⟩
theorem zvk:∀(k:Nat) (s:List UInt8),zng (zn5 k s)=s
 | 0,s=>rfl
 |k+1,s=>by
  rw[zn5]
  cases hc:zg3 s with
  |none=>rfl
  |some p=>
   obtain⟨x,r,hx⟩:=cutK_ne k p.2
   have:=zvk k p.2
   show zng (p.1::zn5 k p.2)=s
   rw[hx]at this⊢
   rw[zng,this,<-zes (x:=p.1) (y:=p.2) hc]
theorem qg9:∀(u:Nat),∀b∈Lib.decDigits u,48<=b.toNat/\b.toNat<=57:=by
 intro u
 induction u using Nat.strongRecOn with
 |ind u ih=>
  intro b hb
  rw[Lib.decDigits]at hb
  split at hb
  ·rename_i h
   rw[List.mem_singleton]at hb
   rw[hb,UInt8.toNat_ofNat']
   omega
  rename_i h
  rw[List.mem_append]at hb
  rcases hb with hb|hb
  ·exact ih (u / 10) (by omega) b hb
  rw[List.mem_singleton]at hb
  rw[hb,UInt8.toNat_ofNat']
  omega
theorem zjg:∀(l:List UInt8) (acc m d:Nat) (b:UInt8),Lib.decFrom acc l=some m->Lib.digitVal b=some d->Lib.decFrom acc (l++[b])=some (m*10+d)
 |[],acc,m,d,b,h,hb=>by
  cases h
  simp[Lib.decFrom,hb]
 |c::l,acc,m,d,b,h,hb=>by
  rw[Lib.decFrom]at h
  cases hc:Lib.digitVal c with
  |none=>rw[hc]at h;cases h
  |some e=>
   rw[hc]at h
   have:=zjg l _ m d b h hb
   rw[List.cons_append,Lib.decFrom,hc]
   exact this
theorem zpf(k:Nat)(h:k<10):Lib.digitVal (UInt8.ofNat (48+k))=some k:=by
 have e:(UInt8.ofNat (48+k)).toNat=48+k:=by rw[UInt8.toNat_ofNat'];omega
 rw[Lib.digitVal,e,if_pos (by omega)]
 congr 1
 omega
theorem zqb:∀(u:Nat),Lib.decFrom 0 (Lib.decDigits u)=some u:=by
 intro u
 induction u using Nat.strongRecOn with
 |ind u ih=>
  rw[Lib.decDigits]
  split
  ·rename_i h
   have:=zjg [] 0 0 u _ rfl (zpf u h)
   simpa using this
  rename_i h
  have:=zjg _ 0 _ (u % 10) _ (ih (u / 10) (by omega)) (zpf (u % 10) (by omega))
  rw[this]
  congr 1
  omega
theorem qga(u:Nat):Lib.decDigits u≠[]:=by
 rw[Lib.decDigits]
 split<;>simp
theorem zy7(u:Nat):Lib.atoi (Lib.decDigits u)=some (u:Int):=by
 cases hd:Lib.decDigits u with
 |nil=>exact absurd hd (qga u)
 |cons b r=>
  have hb:=qg9 u b (by rw[hd];simp)
  have h45:(b==45)=false:=beq_eq_false_iff_ne.2 (fun e=>by rw[e]at hb;exact absurd hb.1 (by decide))
  have h43:(b==43)=false:=beq_eq_false_iff_ne.2 (fun e=>by rw[e]at hb;exact absurd hb.1 (by decide))
  have:=zqb u
  rw[hd]at this
  simp[Lib.atoi,h45,h43,Lib.decNat,this]
theorem num_back(n:Int)(h0:0<=n)(h1:n<=1000):zfo (zc3 n)=some n:=by
 have hi:inI n:=by unfold inI;omega
 have hl:(Lib.itoa n).length<=18:=by
  rw[Lib.itoa,if_neg (by omega),Lib.decDigits_length]
  have:=Lib.nDigits_unique
  rcases(show n.toNat<10\/(10<=n.toNat/\n.toNat<100)\/(100<=n.toNat/\n.toNat<1000)\/n.toNat=1000 by omega)with h|h|h|h
  ·rw[Lib.nDigits_small h];omega
  ·rw[this 1 _ h.1 h.2];omega
  ·rw[this 2 _ h.1 h.2];omega
  rw[this 3 _ (by omega) (by omega)];omega
 have ha:Lib.atoiAll (zc3 n).data.toList= .ok n:=by
  rw[show(zc3 n).data.toList=Lib.itoa n by simp[zc3],Lib.atoiAll_short _ hl,Lib.itoa,if_neg (by omega),zy7]
  show Lib.NumEnd.ok _=_
  rw[Int.toNat_of_nonneg h0]
 have hn:zhp (zc3 n)=some n:=by rw[zhp,ha]
 simp[zfo,hn]
variable {d:Dd}
theorem zig(a b:ByteArray):(a++b).data.toList=a.data.toList++b.data.toList:=by simp
theorem zl6(n:Int):(zc3 n).data.toList=Lib.itoa n:=by simp[zc3]
theorem qag(a b c d:Int):(zfi [a,b,c,d]).data.toList=32::(Lib.itoa a++32::(Lib.itoa b++32::(Lib.itoa c++32::Lib.itoa d))):=by
 simp only[zfi,List.foldl_cons,List.foldl_nil,zig,zl6]
 simp
theorem qaf(a b c d e:Int):(zfi [a,b,c,d,e]).data.toList=32::(Lib.itoa a++32::(Lib.itoa b++32::(Lib.itoa c++32::(Lib.itoa d++32::Lib.itoa e)))):=by
 simp only[zfi,List.foldl_cons,List.foldl_nil,zig,zl6]
 simp
def putL(d:Dd):List (List UInt8):=[[112,117,116],Lib.itoa d.by_,Lib.itoa d.no,Lib.itoa d.seen,Lib.itoa d.at_,d.text.data.toList]
def zyv(d:Dd):List (List UInt8):=[[116,97,107,101],Lib.itoa d.by_,Lib.itoa d.no,Lib.itoa d.seen,Lib.itoa d.at_,Lib.itoa d.many]
theorem zic(h:d.kind=1):(zso d).data.toList=zng (putL d):=by
 rw[zso,if_pos h]
 simp only[zig,qag,putL,zng]
 simp
theorem zk9(h:d.kind≠1):(zso d).data.toList=zng (zyv d):=by
 rw[zso,if_neg h]
 simp only[zig,qaf,zyv,zng]
theorem zuq(h:za9 d=0):(zcy d).size<=200:=by
 have hI:=zuy h
 have hl:zcy d=zso d:=by rw[zcy,if_pos h]
 rw[hl,zso]
 by_cases hk:d.kind=1
 ·rw[if_pos hk,ByteArray.size_append,ByteArray.size_append,ByteArray.size_append]
  have h1:=zj0 [d.by_,d.no,d.seen,d.at_] (qfu hI)
  have h2:=(zj5 (qeb h hk).2).2
  have e1:(⟨#[112,117,116]⟩:ByteArray).size=3:=rfl
  have e2:(⟨#[32]⟩:ByteArray).size=1:=rfl
  simp only[List.length_cons,List.length_nil]at h1
  omega
 rw[if_neg hk,ByteArray.size_append]
 obtain⟨_,_,m0,m1⟩:=zwa h hk
 have h1:=zj0 [d.by_,d.no,d.seen,d.at_,d.many] (qfv hI (by unfold inI;omega))
 have e1:(⟨#[116,97,107,101]⟩:ByteArray).size=4:=rfl
 simp only[List.length_cons,List.length_nil]at h1
 omega
theorem zmb(d:Dd):(zcy d).size<=200:=by
 by_cases h:za9 d=0
 ·exact zuq h
 rw[zcy,if_neg h]
 exact Nat.zero_le _
variable {w wk:World} {B:Nat} {d:Dd}
structure qcd(w:World)(B:Nat)(d:Dd)(wk:World):Prop where
 below:Below w.heap.size w wk
 ready:zck wk
 at_:At7 wk B d
theorem qcd.after{w':World}(h:qcd w B d wk)(hb:Below wk.heap.size wk w'):qcd w B d w':=
 ⟨bla h.below hb,h.ready.below hb,h.at_.below hb⟩
theorem qcd.drew{w wk:World}{B:Nat}{d:Dd}(h:qcd w B d wk):qcd w B d wk.drew:=h.after (Below.refl _ _).drew
theorem zse(h:qcd w B d wk)(n:Int)(hn:inI n):
 Calls Tryz.prog 42 #[.int .i64 n] wk fun e w'=>e= .returned (.string (zc3 n))/\qcd w B d w':=
 (zj7 n hn wk h.ready).mono fun _ _ ⟨he,hb⟩=>⟨he,h.after hb⟩
theorem qf7(d:Dd)(w:World)(h:za9 d≠0):
 Calls Tryz.prog 61 #[ddV d] w fun e w'=>e= .returned (.tuple #[.string (zcy d),.int .i64 (za9 d)])/\Below w.heap.size w w':=by
 have HS:Hid (zcy d=⟨#[]⟩):=by show zcy d=_;rw[zcy,if_neg h]
 have hne:(za9 d != 0)=true:=by simp[h]
 clear h
 obtain⟨kind,by_,no,seen,at_,many,text⟩:=d
 go_enter Tryz.func61,Tryz.ntmps61
 go_wp2_with fail
 refine(zjf ⟨kind,by_,no,seen,at_,many,text⟩ _).mono ?_
 rintro e w1 ⟨rfl,hb⟩
 go_wp2
 go_ret2
 exact⟨zjs HS.out.symm rfl,bla ((Below.refl _ _).alloc (Nat.le_refl _) _) hb⟩
theorem qb8(d:Dd)(w:World)(hw:zck w)(h:za9 d=0)(hk:d.kind=1):
 Calls Tryz.prog 61 #[ddV d] w fun e w'=>e= .returned (.tuple #[.string (zcy d),.int .i64 (za9 d)])/\Below w.heap.size w w':=by
 have HC:=hid h
 have HW:=hid hw
 have HI:Hid _:=zuy h
 have g1:=zbx HI.out.1
 have g2:=zbx HI.out.2.1
 have g3:=zbx HI.out.2.2.1
 have g4:=zbx HI.out.2.2.2
 have HS:Hid (zcy d=⟨#[112,117,116]⟩++(⟨#[32]⟩++zc3 d.by_++⟨#[32]⟩++zc3 d.no++⟨#[32]⟩++zc3 d.seen++⟨#[32]⟩++zc3 d.at_++⟨#[32]⟩)++d.text):=by
  show zcy d=_
  rw[zcy,if_pos h]
  refine zrk ?_
  rw[zic hk]
  simp only[zig,zl6,putL,zng]
  simp
 have hts:=(zj5 (qeb h hk).2).2
 obtain⟨kind,by_,no,seen,at_,many,text⟩:=d
 obtain rfl:kind=1:=hk
 simp only at g1 g2 g3 g4 hts
 clear hw h
 go_enter Tryz.func61,Tryz.ntmps61
 go_wp2_with fail
 refine(zjf ⟨_,by_,no,seen,at_,many,text⟩ _).mono ?_
 rintro e w1 ⟨rfl,hb⟩
 rw[HC.out]
 have HL:Hid (qcd w w.heap.size ⟨1,by_,no,seen,at_,many,text⟩ w1):=⟨bla ((Below.refl _ _).alloc (Nat.le_refl _) _) hb,HW.out.below (bla ((Below.refl _ _).alloc (Nat.le_refl _) _) hb),(zjm w ⟨1,by_,no,seen,at_,many,text⟩).below hb⟩
 clear hb
 go_wp2
 refine wp_region_quiet (C:=fun wk=>qcd w w.heap.size ⟨1,by_,no,seen,at_,many,text⟩ wk) (by kernel_rfl) (by kernel_rfl) (HL.out.drew) ?_
 refine wpQuiet_step (fun K hK=> ?_)
 go_simp
 refine⟨_,fun _ _=>rfl,hK _ ?_⟩
 clear hK K
 refine wpQuiet_step (fun K hK=> ?_)
 go_simp
 refine⟨.int .i64 by_,fun wk hwk=> ?_,hK _ ?_⟩
 ·obtain⟨_,c0,c1,c2,c3,c4,c5,c6⟩:=hwk.at_
  go_simp
 clear hK K
 refine wpQuiet_step (fun K hK=> ?_)
 go_simp
 refine⟨_,fun wk hwk=>zse hwk by_ HI.out.1,hK _ ?_⟩
 clear hK K
 refine wpQuiet_step (fun K hK=> ?_)
 go_simp
 refine⟨.string (⟨#[32]⟩++zc3 by_),fun wk _=> ?_,hK _ ?_⟩
 ·rw[if_neg (by omega)]
  exact⟨rfl,rfl⟩
 clear hK K
 refine wpQuiet_step (fun K hK=> ?_)
 go_simp
 refine⟨.string (⟨#[32]⟩++zc3 by_++⟨#[32]⟩),fun wk _=> ?_,hK _ ?_⟩
 ·rw[if_neg (by omega)]
  exact⟨rfl,rfl⟩
 clear hK K
 refine wpQuiet_step (fun K hK=> ?_)
 go_simp
 refine⟨_,fun _ _=>rfl,hK _ ?_⟩
 clear hK K
 refine wpQuiet_step (fun K hK=> ?_)
 go_simp
 refine⟨.int .i64 no,fun wk hwk=> ?_,hK _ ?_⟩
 ·obtain⟨_,c0,c1,c2,c3,c4,c5,c6⟩:=hwk.at_
  go_simp
 clear hK K
 refine wpQuiet_step (fun K hK=> ?_)
 go_simp
 refine⟨_,fun wk hwk=>zse hwk no HI.out.2.1,hK _ ?_⟩
 clear hK K
 refine wpQuiet_step (fun K hK=> ?_)
 go_simp
 refine⟨.string (⟨#[32]⟩++zc3 by_++⟨#[32]⟩++zc3 no),fun wk _=> ?_,hK _ ?_⟩
 ·rw[if_neg (by omega)]
  exact⟨rfl,rfl⟩
 clear hK K
 refine wpQuiet_step (fun K hK=> ?_)
 go_simp
 refine⟨.string (⟨#[32]⟩++zc3 by_++⟨#[32]⟩++zc3 no++⟨#[32]⟩),fun wk _=> ?_,hK _ ?_⟩
 ·rw[if_neg (by omega)]
  exact⟨rfl,rfl⟩
 clear hK K
 refine wpQuiet_step (fun K hK=> ?_)
 go_simp
 refine⟨_,fun _ _=>rfl,hK _ ?_⟩
 clear hK K
 refine wpQuiet_step (fun K hK=> ?_)
 go_simp
 refine⟨.int .i64 seen,fun wk hwk=> ?_,hK _ ?_⟩
 ·obtain⟨_,c0,c1,c2,c3,c4,c5,c6⟩:=hwk.at_
  go_simp
 clear hK K
 refine wpQuiet_step (fun K hK=> ?_)
 go_simp
 refine⟨_,fun wk hwk=>zse hwk seen HI.out.2.2.1,hK _ ?_⟩
 clear hK K
 refine wpQuiet_step (fun K hK=> ?_)
 go_simp
 refine⟨.string (⟨#[32]⟩++zc3 by_++⟨#[32]⟩++zc3 no++⟨#[32]⟩++zc3 seen),fun wk _=> ?_,hK _ ?_⟩
 ·rw[if_neg (by omega)]
  exact⟨rfl,rfl⟩
 clear hK K
 refine wpQuiet_step (fun K hK=> ?_)
 go_simp
 refine⟨.string (⟨#[32]⟩++zc3 by_++⟨#[32]⟩++zc3 no++⟨#[32]⟩++zc3 seen++⟨#[32]⟩),fun wk _=> ?_,hK _ ?_⟩
 ·rw[if_neg (by omega)]
  exact⟨rfl,rfl⟩
 clear hK K
 refine wpQuiet_step (fun K hK=> ?_)
 go_simp
 refine⟨_,fun _ _=>rfl,hK _ ?_⟩
 clear hK K
 refine wpQuiet_step (fun K hK=> ?_)
 go_simp
 refine⟨.int .i64 at_,fun wk hwk=> ?_,hK _ ?_⟩
 ·obtain⟨_,c0,c1,c2,c3,c4,c5,c6⟩:=hwk.at_
  go_simp
 clear hK K
 refine wpQuiet_step (fun K hK=> ?_)
 go_simp
 refine⟨_,fun wk hwk=>zse hwk at_ HI.out.2.2.2,hK _ ?_⟩
 clear hK K
 refine wpQuiet_step (fun K hK=> ?_)
 go_simp
 refine⟨.string (⟨#[32]⟩++zc3 by_++⟨#[32]⟩++zc3 no++⟨#[32]⟩++zc3 seen++⟨#[32]⟩++zc3 at_),fun wk _=> ?_,hK _ ?_⟩
 ·rw[if_neg (by omega)]
  exact⟨rfl,rfl⟩
 clear hK K
 refine wpQuiet_step (fun K hK=> ?_)
 go_simp
 refine⟨.string (⟨#[32]⟩++zc3 by_++⟨#[32]⟩++zc3 no++⟨#[32]⟩++zc3 seen++⟨#[32]⟩++zc3 at_++⟨#[32]⟩),fun wk _=> ?_,hK _ ?_⟩
 ·rw[if_neg (by omega)]
  exact⟨rfl,rfl⟩
 clear hK K
 refine wpQuiet_step (fun K hK=> ?_)
 go_simp
 refine⟨_,fun _ _=>rfl,hK _ ?_⟩
 clear hK K
 refine wpQuiet_nil ?_
 intro w2 hw2
 have HB2:=hid hw2.below
 obtain⟨_,c0,c1,c2,c3,c4,c5,c6⟩:=hw2.at_
 clear hw2
 go_wp2
 go_ret2
 exact⟨zjs HS.out.symm HC.out.symm,HB2.out⟩
theorem zx2(d:Dd)(w:World)(hw:zck w)(h:za9 d=0)(hk:d.kind≠1):
 Calls Tryz.prog 61 #[ddV d] w fun e w'=>e= .returned (.tuple #[.string (zcy d),.int .i64 (za9 d)])/\Below w.heap.size w w':=by
 have HC:=hid h
 have HW:=hid hw
 have HI:Hid _:=zuy h
 have g1:=zbx HI.out.1
 have g2:=zbx HI.out.2.1
 have g3:=zbx HI.out.2.2.1
 have g4:=zbx HI.out.2.2.2
 have HS:Hid (zcy d=⟨#[116,97,107,101]⟩++(⟨#[32]⟩++zc3 d.by_++⟨#[32]⟩++zc3 d.no++⟨#[32]⟩++zc3 d.seen++⟨#[32]⟩++zc3 d.at_++⟨#[32]⟩)++zc3 d.many):=by
  show zcy d=_
  rw[zcy,if_pos h]
  refine zrk ?_
  rw[zk9 hk]
  simp only[zig,zl6,zyv,zng]
  simp
 obtain⟨hk2,_,hm1,hm2⟩:=zwa h hk
 have HM:Hid (inI d.many):=by show inI d.many;unfold inI;omega
 have g5:=zbx HM.out
 obtain⟨kind,by_,no,seen,at_,many,text⟩:=d
 obtain rfl:kind=2:=hk2
 simp only at g1 g2 g3 g4 g5
 clear hk hm1 hm2
 clear hw h
 go_enter Tryz.func61,Tryz.ntmps61
 go_wp2_with fail
 refine(zjf ⟨_,by_,no,seen,at_,many,text⟩ _).mono ?_
 rintro e w1 ⟨rfl,hb⟩
 rw[HC.out]
 have HL:Hid (qcd w w.heap.size ⟨2,by_,no,seen,at_,many,text⟩ w1):=⟨bla ((Below.refl _ _).alloc (Nat.le_refl _) _) hb,HW.out.below (bla ((Below.refl _ _).alloc (Nat.le_refl _) _) hb),(zjm w ⟨2,by_,no,seen,at_,many,text⟩).below hb⟩
 clear hb
 go_wp2
 refine wp_region_quiet (C:=fun wk=>qcd w w.heap.size ⟨2,by_,no,seen,at_,many,text⟩ wk) (by kernel_rfl) (by kernel_rfl) (HL.out.drew) ?_
 refine wpQuiet_step (fun K hK=> ?_)
 go_simp
 refine⟨_,fun _ _=>rfl,hK _ ?_⟩
 clear hK K
 refine wpQuiet_step (fun K hK=> ?_)
 go_simp
 refine⟨.int .i64 by_,fun wk hwk=> ?_,hK _ ?_⟩
 ·obtain⟨_,c0,c1,c2,c3,c4,c5,c6⟩:=hwk.at_
  go_simp
 clear hK K
 refine wpQuiet_step (fun K hK=> ?_)
 go_simp
 refine⟨_,fun wk hwk=>zse hwk by_ HI.out.1,hK _ ?_⟩
 clear hK K
 refine wpQuiet_step (fun K hK=> ?_)
 go_simp
 refine⟨.string (⟨#[32]⟩++zc3 by_),fun wk _=> ?_,hK _ ?_⟩
 ·rw[if_neg (by omega)]
  exact⟨rfl,rfl⟩
 clear hK K
 refine wpQuiet_step (fun K hK=> ?_)
 go_simp
 refine⟨.string (⟨#[32]⟩++zc3 by_++⟨#[32]⟩),fun wk _=> ?_,hK _ ?_⟩
 ·rw[if_neg (by omega)]
  exact⟨rfl,rfl⟩
 clear hK K
 refine wpQuiet_step (fun K hK=> ?_)
 go_simp
 refine⟨_,fun _ _=>rfl,hK _ ?_⟩
 clear hK K
 refine wpQuiet_step (fun K hK=> ?_)
 go_simp
 refine⟨.int .i64 no,fun wk hwk=> ?_,hK _ ?_⟩
 ·obtain⟨_,c0,c1,c2,c3,c4,c5,c6⟩:=hwk.at_
  go_simp
 clear hK K
 refine wpQuiet_step (fun K hK=> ?_)
 go_simp
 refine⟨_,fun wk hwk=>zse hwk no HI.out.2.1,hK _ ?_⟩
 clear hK K
 refine wpQuiet_step (fun K hK=> ?_)
 go_simp
 refine⟨.string (⟨#[32]⟩++zc3 by_++⟨#[32]⟩++zc3 no),fun wk _=> ?_,hK _ ?_⟩
 ·rw[if_neg (by omega)]
  exact⟨rfl,rfl⟩
 clear hK K
 refine wpQuiet_step (fun K hK=> ?_)
 go_simp
 refine⟨.string (⟨#[32]⟩++zc3 by_++⟨#[32]⟩++zc3 no++⟨#[32]⟩),fun wk _=> ?_,hK _ ?_⟩
 ·rw[if_neg (by omega)]
  exact⟨rfl,rfl⟩
 clear hK K
 refine wpQuiet_step (fun K hK=> ?_)
 go_simp
 refine⟨_,fun _ _=>rfl,hK _ ?_⟩
 clear hK K
 refine wpQuiet_step (fun K hK=> ?_)
 go_simp
 refine⟨.int .i64 seen,fun wk hwk=> ?_,hK _ ?_⟩
 ·obtain⟨_,c0,c1,c2,c3,c4,c5,c6⟩:=hwk.at_
  go_simp
 clear hK K
 refine wpQuiet_step (fun K hK=> ?_)
 go_simp
 refine⟨_,fun wk hwk=>zse hwk seen HI.out.2.2.1,hK _ ?_⟩
 clear hK K
 refine wpQuiet_step (fun K hK=> ?_)
 go_simp
 refine⟨.string (⟨#[32]⟩++zc3 by_++⟨#[32]⟩++zc3 no++⟨#[32]⟩++zc3 seen),fun wk _=> ?_,hK _ ?_⟩
 ·rw[if_neg (by omega)]
  exact⟨rfl,rfl⟩
 clear hK K
 refine wpQuiet_step (fun K hK=> ?_)
 go_simp
 refine⟨.string (⟨#[32]⟩++zc3 by_++⟨#[32]⟩++zc3 no++⟨#[32]⟩++zc3 seen++⟨#[32]⟩),fun wk _=> ?_,hK _ ?_⟩
 ·rw[if_neg (by omega)]
  exact⟨rfl,rfl⟩
 clear hK K
 refine wpQuiet_step (fun K hK=> ?_)
 go_simp
 refine⟨_,fun _ _=>rfl,hK _ ?_⟩
 clear hK K
 refine wpQuiet_step (fun K hK=> ?_)
 go_simp
 refine⟨.int .i64 at_,fun wk hwk=> ?_,hK _ ?_⟩
 ·obtain⟨_,c0,c1,c2,c3,c4,c5,c6⟩:=hwk.at_
  go_simp
 clear hK K
 refine wpQuiet_step (fun K hK=> ?_)
 go_simp
 refine⟨_,fun wk hwk=>zse hwk at_ HI.out.2.2.2,hK _ ?_⟩
 clear hK K
 refine wpQuiet_step (fun K hK=> ?_)
 go_simp
 refine⟨.string (⟨#[32]⟩++zc3 by_++⟨#[32]⟩++zc3 no++⟨#[32]⟩++zc3 seen++⟨#[32]⟩++zc3 at_),fun wk _=> ?_,hK _ ?_⟩
 ·rw[if_neg (by omega)]
  exact⟨rfl,rfl⟩
 clear hK K
 refine wpQuiet_step (fun K hK=> ?_)
 go_simp
 refine⟨.string (⟨#[32]⟩++zc3 by_++⟨#[32]⟩++zc3 no++⟨#[32]⟩++zc3 seen++⟨#[32]⟩++zc3 at_++⟨#[32]⟩),fun wk _=> ?_,hK _ ?_⟩
 ·rw[if_neg (by omega)]
  exact⟨rfl,rfl⟩
 clear hK K
 refine wpQuiet_step (fun K hK=> ?_)
 go_simp
 refine⟨_,fun _ _=>rfl,hK _ ?_⟩
 clear hK K
 refine wpQuiet_nil ?_
 intro w2 hw2
 obtain⟨_,c0,c1,c2,c3,c4,c5,c6⟩:=hw2.at_
 have HW2:Hid _:=hw2
 clear hw2
 go_wp2_with fail
 clear c0 c1 c2 c3 c4 c5 c6
 refine(zse HW2.out many HM.out).mono ?_
 rintro e w3 ⟨rfl,hw3⟩
 have HB3:=hid hw3.below
 clear hw3
 go_wp2
 go_ret2
 exact⟨zjs HS.out.symm HC.out.symm,HB3.out⟩
theorem qb9(d:Dd)(w:World)(hw:zck w):
 Calls Tryz.prog 61 #[ddV d] w fun e w'=>e= .returned (.tuple #[.string (zcy d),.int .i64 (za9 d)])/\Below w.heap.size w w':=by
 by_cases h:za9 d=0
 ·by_cases hk:d.kind=1
  ·exact qb8 d w hw h hk
  exact zx2 d w hw h hk
 exact qf7 d w h
end Go.Proofs.YtcbnnfeelhlapadGreatDoor