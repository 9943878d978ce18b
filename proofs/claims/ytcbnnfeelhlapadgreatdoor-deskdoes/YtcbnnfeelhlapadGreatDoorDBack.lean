/-
  The contracts of package story: Of, Len, then, Text, By, Where; SameInts of two that are the same.
-/
import Derived.Test.YtcbnnfeelhlapadGreatDoorStMem
import Derived.Test.YtcbnnfeelhlapadGreatDoorShelf
import Derived.Test.YtcbnnfeelhlapadGreatDoorDPlain
import Derived.Lib.AtoiAllCases
import Derived.Lib.AtoiErrMem
import Derived.Test.YtcbnnfeelhlapadGreatDoorFPut
import Derived.Lib.ItoaLen
import Derived.Deep.RegionWith
import Derived.Laws.ResultCell
import Derived.BigRegion
import Derived.RegionTactic
import Derived.ChangeAlike
import Derived.Lib.AtoiTie
namespace Go.Proofs.YtcbnnfeelhlapadGreatDoor
set_option maxHeartbeats 3200000
set_option maxRecDepth 20000
open Go Go.RowKit
def inS(b:Bk)(n:Int):Bool:=decide (0≤n∧n≤b.ds.length)
def thS(b:Bk)(n:Int):List Ch:=if 0≤n∧n≤b.ds.length then zcu b.chars n else []
theorem ztn(b:Bk)(n:Int):(thS b n).length≤b.chars.length:=by
 unfold thS
 split
 ·exact zrv _ _
 ·exact Nat.zero_le _
theorem thS_in{b:Bk}{n:Nat}(h:n≤b.ds.length):thS b n=zcu b.chars n:=by
 unfold thS
 rw[if_pos ⟨by omega,by omega⟩]
theorem inS_in{b:Bk}{n:Nat}(h:n≤b.ds.length):inS b n=true:=by
 unfold inS
 rw[decide_eq_true_eq]
 exact⟨by omega,by omega⟩
theorem qdt(w:World)(n:Nat)(lv:Value):StC (w.alloc (.cells #[.int .i64 n,lv] 220)) w.heap.size n lv:=by
 refine⟨by simp,?_,?_⟩<;>simp[go_sem]
theorem of_dk{base:Nat}{S:Nat→Prop}{w0 w:World}{D G:Nat}{pw:Nat→Nat}{t:Twn}(h:zfx base w0 S D G pw t w):
 Calls Tryz.prog 140 #[.pointer (some ⟨G,0,none⟩)] w fun e w'=>∃P,e= .returned (.pointer (some ⟨P,0,none⟩))∧qgz w' w.heap.size P t.b∧Below w.heap.size w w':=by
 have HA:Hid (zfx base w0 S D G pw t w):=h
 clear h
 go_enter Tryz.func140,Tryz.ntmps140
 go_wp2_with fail
 refine HA.out.len.mono ?_
 rintro e w1 ⟨rfl,hw1⟩
 rw[hw1]
 clear hw1 w1
 go_wp2_with fail
 refine HA.out.chars.mono ?_
 rintro e w2 ⟨v2,rfl,ho,hb⟩
 have HO:Hid (Own w2 w.heap.size v2 t.b.chars):=ho
 have HB:Hid (Below w.heap.size w w2):=hb
 obtain⟨a2,c2,rfl,-⟩:=ho.lst.len
 clear ho hb
 go_wp2
 go_ret
 refine⟨w2.heap.size,rfl,⟨_,HB.out.size,qdt w2 _ _,HO.out.below (za1 _ _)⟩,HB.out.alloc HB.out.size _⟩
theorem qe8{v:Value}{x y:Bool}(h:x=y):Ending.returned (.tuple #[v,.bool x])= .returned (.tuple #[v,.bool y]):=by rw[h]
section
variable {w:World} {lo P:Nat} {b:Bk}
theorem lst_newC(w:World)(x:Ch):Lst (w.alloc (.cells #[.int .u8 x.c,.int .i64 x.by_,.int .i64 x.no,.int .i64 x.k,.int .i64 x.inn,.int .i64 x.out,.int .i64 x.gone] 127)) (.slice (some ⟨w.heap.size,0,none⟩) 1 1) [x]:=by
 refine⟨_,1,1,rfl,rfl,Nat.le_refl _,.inr ⟨_,0,rfl,by simp,?_⟩⟩
 intro i hi
 obtain rfl:i=0:=by simpa using hi
 unfold At
 simp[go_sem]
theorem zvq{w wr w2:World}{v:Value}{l:List Ch}(hb:Below w.heap.size w wr)(ho:Own wr w.heap.size v l)(hg:wr.grownBy w2 v.ownBlock):Below w.heap.size w w2:=
 hb.grown hg (by have:=hb.size;omega) (fun j hj=>(World.ownsRow.lt ho j hj).1)
structure ThI(w:World)(v:Value)(l:List Ch)(wk:World):Prop where
 below:Below w.heap.size w wk
 own:Own wk w.heap.size v l
theorem ThI.after{w wk w':World}{v:Value}{l:List Ch}(h:ThI w v l wk)(hb:Below wk.heap.size wk w'):ThI w v l w':=⟨bla h.below hb,h.own.below hb⟩
theorem qdc(h:qgz w lo P b)(n:Int):
 Calls Tryz.prog 186 #[.pointer (some ⟨P,0,none⟩),.int .i64 n] w fun e w'=>∃v,e= .returned (.tuple #[v,.bool (inS b n)])∧Own w' w.heap.size v (thS b n)∧Below w.heap.size w w':=by
 obtain⟨lv,h⟩:=h
 have c0:=h.cells.deeds
 have c1:=h.cells.list
 have hlt:=h.cells.lt
 have HL:Hid (Lst w lv b.chars):=h.own.lst
 have hcl:=zb2 (b:=b)
 obtain⟨a,cap,rfl,hcap⟩:=h.own.lst.len
 by_cases hn:0≤n∧n≤b.ds.length
 ·have HIN:Hid (inS b n=true):=by show inS b n=true;unfold inS;exact decide_eq_true hn
  have HTH:Hid (thS b n=zcu b.chars n):=by show thS b n=_;unfold thS;rw[if_pos hn]
  obtain⟨hn0,hn1⟩:=hn
  clear h
  generalize b.chars=l at*
  go_enter Tryz.func186,Tryz.ntmps186
  go_wp2
  go_loopw [6,24] (fun v i wr=>∃k:Nat,k≤l.length∧i= .int .i64 k∧Hid (ThI w v (zcu (l.take k) n) wr)) (fun _ i _=>l.length-(intOf i).toNat)
  case atStart=>exact⟨0,Nat.zero_le _,rfl,Below.refl _ _,zd7 _ _⟩
  case round=>
   obtain⟨k,hk,rfl,HI⟩:=hrel
   clear c0 c1
   by_cases hkl:k<l.length
   ·have hki:(k:Int)<(l.length:Int):=by omega
    have HN:Hid (zcu (l.take (k+1)) n=zcu (l.take k) n++if za5 n (-1) l[k]=true then [l[k]]else []):=by
     show zcu _ _=_
     rw[zcj l k hkl]
     exact zqk _ _ _
    have HZ:Hid ((zcu (l.take k) n).length≤200):=by
     show _≤_
     have:=zrv (l.take k) n
     rw[List.length_take]at this
     omega
    obtain⟨bb,off,rfl,hr⟩:∃b off,a=some ⟨b,off,none⟩∧Row wr b off l:=by
     obtain⟨b1,o1,e1,_,r1⟩:=(HL.out.below HI.out.below).row (by omega)
     exact⟨b1,o1,e1,r1⟩
    have hbl:=hr.lt
    obtain⟨h0,h1,h2,h3,h4,h5,h6⟩:=hr.at_ k hkl
    generalize l[k]=x at*
    generalize zcu (l.take k) n=zs at*
    clear hr
    go_wp2_with fail
    refine(zjq x _ _ _).mono ?_
    rintro e w1 ⟨rfl,hb1⟩
    have HI0:Hid (ThI w u6 zs (wr.alloc (.cells #[.int .u8 x.c,.int .i64 x.by_,.int .i64 x.no,.int .i64 x.k,.int .i64 x.inn,.int .i64 x.out,.int .i64 x.gone] 127))):=HI.out.after (za1 _ _)
    have HI1:Hid (ThI w u6 zs w1):=HI0.out.after hb1
    have HN':Hid (zcu (l.take (k+1)) n=zs++if zi6 x.by_ x.inn x.out x.gone n (-1)=true then [x]else []):=HN
    have HA1:Hid (At w1 wr.heap.size 0 x):=by
     obtain⟨hc,hf⟩:=zds hb1
     show At _ _ _ _
     unfold At
     simp only[hc _ _ (show wr.heap.size<(wr.alloc _).heap.size by simp)]
     simp[go_sem]
    have hs1:wr.heap.size<w1.heap.size:=by have:=hb1.size;simp at this;omega
    clear h0 h1 h2 h3 h4 h5 h6 HN HI HI0 hb1
    cases hs:zi6 x.by_ x.inn x.out x.gone n (-1)
    ·rw[hs]at HN'
     clear HA1 hs1
     go_wp2
     go_roundw
     case rel=>exact⟨k+1,by omega,by go_num,by show ThI _ _ _ _;rw[HN'.out];simpa using HI1.out⟩
     case measure=>simp[intOf];omega
    ·rw[hs]at HN'
     obtain⟨h0,h1,h2,h3,h4,h5,h6⟩:=HA1.out
     simp only[Nat.zero_add]at h1 h2 h3 h4 h5 h6
     go_wp2_with (at_builtin;refine zbe _ (by rfl) (.tmp 31) (.tmp 33) (by rfl) w.heap.size (v:=u6) (u:= .slice (some ⟨w1.heap.size,0,none⟩) 1 1) (a:=zs) (b:=[x]) (by rfl) (by rfl) (HI1.out.after (za1 _ _)).own (lst_newC w1 x) (by have:=HZ.out;show _+1≤100000;omega) (HI1.out.after (za1 _ _)).below.size ?_)
     intro v' w2 ho hg
     have H2:Hid (ThI w v' (zcu (l.take (k+1)) n) w2):=by
      show ThI _ _ _ _
      rw[HN'.out]
      exact⟨zvq (HI1.out.after (za1 _ _)).below (HI1.out.after (za1 _ _)).own hg,by simpa using ho⟩
     clear ho hg h0 h1 h2 h3 h4 h5 h6 hs1 HA1 HI1
     go_wp2
     go_roundw
     case rel=>exact⟨k+1,by omega,by go_num,H2.out⟩
     case measure=>simp[intOf];omega
   ·obtain rfl:k=l.length:=by omega
    have HE:Hid (zcu (l.take l.length) n=zcu l n):=by show zcu _ _=_;rw[List.take_length]
    go_wp2
    go_ret2
    refine⟨_,qe8 HIN.out.symm,?_,HI.out.below⟩
    rw[HTH.out,←HE.out]
    exact HI.out.own
 ·have HIN:Hid (inS b n=false):=by show inS b n=false;unfold inS;exact decide_eq_false hn
  have HTH:Hid (thS b n=[]):=by show thS b n=_;unfold thS;rw[if_neg hn]
  clear h
  by_cases h0:n<0
  ·go_enter Tryz.func186,Tryz.ntmps186
   go_wp2
   go_ret2
   refine⟨.slice none 0 0,qe8 HIN.out.symm,?_,Below.refl _ _⟩
   rw[HTH.out]
   exact zd7 _ _
  ·have h1:(b.ds.length:Int)<n:=by
    have:¬n≤(b.ds.length:Int):=fun e=>hn ⟨by omega,e⟩
    omega
   go_enter Tryz.func186,Tryz.ntmps186
   go_wp2
   go_ret2
   refine⟨.slice none 0 0,qe8 HIN.out.symm,?_,Below.refl _ _⟩
   rw[HTH.out]
   exact zd7 _ _
end
end Go.Proofs.YtcbnnfeelhlapadGreatDoor
namespace Go.Proofs.YtcbnnfeelhlapadGreatDoor
set_option maxHeartbeats 3200000
open Go.RowKit
theorem qcp{W W':World}{g:Nat}{n:String}{cs:Array Value}(hg:Tryz.prog.globalNamed n=some g)(h:W.var? Tryz.prog n=some cs)(hb:Below W.heap.size W W'):W'.var? Tryz.prog n=some cs:=by
 unfold World.var? at h⊢
 rw[hg]at h⊢
 simp only[Option.bind_some]at h⊢
 have hlt:g<W.heap.size:=by
  rcases Nat.lt_or_ge g W.heap.size with h'|h'
  ·exact h'
  ·rw[Array.getElem?_eq_none h']at h;cases h
 rw[hb.block g (by omega)]
 exact h
theorem zd8{w w':World}{a:Nat}{o:Nat}{v:Value}(h:w.cell? ⟨a,o,none⟩=some v)(hb:Below w.heap.size w w'):w'.cell? ⟨a,o,none⟩=some v:=by
 have hlt:a<w.heap.size:=by
  rcases Nat.lt_or_ge a w.heap.size with h'|h'
  ·exact h'
  ·simp[World.cell?,Array.getElem?_eq_none h']at h
 rw[hb.cell (p:=⟨a,o,none⟩) hlt]
 exact h
structure zbz(w:World):Prop where
 tab:Lib.TabIs Tryz.prog w "internal/strconv.uint64pow10" .u64 Lib.pow10Tab
 syn:∃t p,w.var? Tryz.prog "strconv.ErrSyntax"=some #[.iface t p]
 rng:∃t p,w.var? Tryz.prog "strconv.ErrRange"=some #[.iface t p]
 mx:∃m,w.cell? ⟨0,0,none⟩=some (.int .i64 m)
theorem zbz.below{w w':World}(h:zbz w)(hb:Below w.heap.size w w'):zbz w' where
 tab:=qcp (g:=5) (by kernel_rfl) h.tab hb
 syn:=let ⟨t,p,e⟩:=h.syn;⟨t,p,qcp (g:=1) (by kernel_rfl) e hb⟩
 rng:=let ⟨t,p,e⟩:=h.rng;⟨t,p,qcp (g:=2) (by kernel_rfl) e hb⟩
 mx:=let ⟨m,e⟩:=h.mx;⟨m,zd8 e hb⟩
def inI(n:Int):Prop:= -9223372036854775808≤n∧n≤9223372036854775807
def zc4(n:Int):ByteArray:=⟨(Lib.itoa n).toArray⟩
theorem zli(n:Int)(hn:inI n)(w:World)(hw:zbz w):
 Calls Tryz.prog 53 #[.int .i64 n] w fun e w'=>e= .returned (.string (zc4 n))∧Below w.heap.size w w':=by
 refine(Tryz.strconv_Itoa n hn.1 hn.2 w hw.tab).mono ?_
 rintro e w' ⟨rfl,k,os,rfl⟩
 refine⟨rfl,rfl,rfl,rfl,?_,fun j hj=> ?_⟩
 ·show w.heap.size≤(w.heap++os).size
  rw[Array.size_append];omega
 ·show(w.heap++os)[j]? =w.heap[j]?
  exact Array.getElem?_append_left hj
def zhr(s:ByteArray):Option Int:=match Lib.atoiAll s.data.toList with| .ok v=>some v|_=>none
theorem zul{s:ByteArray}{v:Int}(h:zhr s=some v):inI v:=by
 unfold zhr at h
 cases ha:Lib.atoiAll s.data.toList with
 |ok u=>rw[ha]at h;obtain rfl:=Option.some.inj h;exact Lib.atoiAll_bounds ha
 |«syntax»=>rw[ha]at h;cases h
 |range=>rw[ha]at h;cases h
theorem zt5(s:ByteArray)(v:Int)(hs:s.size≤281474976710656)(h:zhr s=some v)(w:World):
 Calls Tryz.prog 52 #[.string s] w fun e w'=>e= .returned (.tuple #[.int .i64 v,.nilIface])∧Below w.heap.size w w':=by
 unfold zhr at h
 cases ha:Lib.atoiAll s.data.toList with
 |ok u=>
  rw[ha]at h;obtain rfl:=Option.some.inj h
  refine(Tryz.strconv_Atoi_ok s (by omega) u ha w).mono ?_
  rintro e w' ⟨rfl,rfl|⟨t,rfl⟩⟩
  ·exact⟨rfl,Below.refl _ _⟩
  ·exact⟨rfl,Lib.bytesWorld_below _ _ _⟩
 |«syntax»=>rw[ha]at h;cases h
 |range=>rw[ha]at h;cases h
theorem qgs(s:ByteArray)(hs:s.size≤281474976710656)(h:zhr s=none)(w:World)(hw:zbz w):
 Calls Tryz.prog 52 #[.string s] w fun e w'=>∃v t q,e= .returned (.tuple #[.int .i64 v,.iface t q])∧inI v∧Below w.heap.size w w':=by
 unfold zhr at h
 cases ha:Lib.atoiAll s.data.toList with
 |ok u=>rw[ha]at h;cases h
 |«syntax»=>
  obtain⟨t,p,e⟩:=hw.syn
  refine(Tryz.strconv_Atoi_syntax_var s hs ha t p w e).mono ?_
  rintro e w' ⟨N,rfl,_,_,hb⟩
  exact⟨_,_,_,rfl,by unfold inI;omega,hb⟩
 |range=>
  obtain⟨t,p,e⟩:=hw.rng
  refine(Tryz.strconv_Atoi_range_var s hs ha t p w e).mono ?_
  rintro e w' ⟨N,rfl,_,_,hb⟩
  exact⟨_,_,_,rfl,Lib.atoiSat_bounds _,hb⟩
end Go.Proofs.YtcbnnfeelhlapadGreatDoor
namespace Go.Proofs.YtcbnnfeelhlapadGreatDoor
set_option maxHeartbeats 3200000
set_option maxRecDepth 20000
open Go.RowKit
def zfn(zs:List Int):ByteArray:=zs.foldl (fun acc z=>acc++(⟨#[32]⟩++zc4 z)) ⟨#[]⟩
theorem qd9(zs:List Int)(z:Int):zfn (zs++[z])=zfn zs++(⟨#[32]⟩++zc4 z):=by
 unfold zfn
 rw[List.foldl_append]
 rfl
theorem ret_strD{a b:ByteArray}(h:a=b):Ending.returned (.string a)= .returned (.string b):=by rw[h]
theorem zby{n:Int}(h:inI n):(zc4 n).size≤21:=by
 show((Lib.itoa n).toArray).size≤21
 rw[List.size_toArray]
 exact Lib.itoa_length_le n h.1 h.2
theorem ztj:∀(zs:List Int) (acc:ByteArray),(∀z∈zs,inI z)→(zs.foldl (fun acc z=>acc++(⟨#[32]⟩++zc4 z)) acc).size≤acc.size+22*zs.length
 |[],acc,_=>by simp
 |z::l,acc,h=>by
  have h1:=ztj l (acc++(⟨#[32]⟩++zc4 z)) (fun x hx=>h x (by simp[hx]))
  have h2:=zby (h z (by simp))
  rw[ByteArray.size_append,ByteArray.size_append]at h1
  have:(⟨#[32]⟩:ByteArray).size=1:=rfl
  rw[List.foldl_cons,List.length_cons]
  omega
theorem ziz(zs:List Int)(h:∀z∈zs,inI z):(zfn zs).size≤22*zs.length:=by
 have:=ztj zs ⟨#[]⟩ h
 have e:(⟨#[]⟩:ByteArray).size=0:=rfl
 unfold zfn
 omega
structure Ints(w:World)(b off:Nat)(zs:List Int):Prop where
 lt:b<w.heap.size
 cell:∀(i:Nat) (h:i<zs.length),w.cell? ⟨b,off+i,none⟩=some (.int .i64 (zs[i]'h))
theorem Ints.below{w w':World}{b off:Nat}{zs:List Int}(h:Ints w b off zs)(hb:Below w.heap.size w w'):Ints w' b off zs:=
 ⟨by have:=hb.size;have:=h.lt;omega,fun i hi=>zd8 (h.cell i hi) hb⟩
theorem qai(l:List Int)(k:Nat)(h:k<l.length):l.take (k+1)=l.take k++[l[k]]:=by
 rw[List.take_add_one,List.getElem?_eq_getElem h];rfl
theorem qda(b off n cap:Nat)(zs:List Int)(w:World)(hw:zbz w)(hn:zs.length=n)(hm:n≤5)(hz:∀z∈zs,inI z)(hr:Ints w b off zs):
 Calls Tryz.prog 184 #[.slice (some ⟨b,off,none⟩) n cap] w fun e w'=>e= .returned (.string (zfn zs))∧Below w.heap.size w w':=by
 have HR:Hid (Ints w b off zs):=hr
 have HL:Hid (zs.length=n):=hn
 have HZ:Hid _:=hz
 have HW:Hid _:=hw
 have hb:=hr.lt
 have HT:Hid (zfn (zs.take n)=zfn zs):=by show zfn (zs.take n)=zfn zs;rw[←hn,List.take_length]
 clear hr hn hz hw
 go_enter Tryz.func184,Tryz.ntmps184
 go_wp2
 go_loopw [3,8] (fun t i wr=>∃k:Nat,k≤n∧i= .int .i64 k∧t= .string (zfn (zs.take k))∧Below w.heap.size w wr) (fun _ i _=>n-(intOf i).toNat)
 case atStart=>exact⟨0,Nat.zero_le _,rfl,rfl,Below.refl _ _⟩
 case round=>
  obtain⟨k,hk,rfl,rfl,hbel⟩:=hrel
  by_cases hlt:k<n
  ·have hkl:k<zs.length:=by rw[HL.out];exact hlt
   have HN:Hid (zfn (zs.take (k+1))=zfn (zs.take k)++(⟨#[32]⟩++zc4 zs[k])):=by rw[qai zs k hkl];exact qd9 _ _
   have HI:Hid (inI zs[k]):=HZ.out _ (List.getElem_mem _)
   have hs1:(zc4 zs[k]).size≤21:=zby HI.out
   have hs2:(zfn (zs.take k)).size≤22*5:=by
    have h:=ziz (zs.take k) (fun z hz=>HZ.out z (List.mem_of_mem_take hz))
    have:=List.length_take_le k zs
    omega
   have h0:=(HR.out.below hbel).cell k hkl
   generalize zs[k]=z at h0 HN HI hs1
   go_wp2_with fail
   refine(zli z HI.out _ (HW.out.below hbel)).mono ?_
   rintro e w1 ⟨rfl,hb1⟩
   have hb2:Below w.heap.size w w1:=bla hbel hb1
   clear h0 hb1 hbel
   go_wp2
   go_roundw
   case rel=>exact⟨k+1,by omega,by go_num,by rw[HN.out],hb2⟩
   case measure=>simp[intOf];omega
  ·go_wp2
   go_ret
   obtain rfl:k=n:=by omega
   exact⟨ret_strD HT.out,hbel⟩
structure At7(w:World)(B:Nat)(d:Dd):Prop where
 lt:B<w.heap.size
 c0:w.cell? ⟨B,0,none⟩=some (.int .i64 d.kind)
 c1:w.cell? ⟨B,1,none⟩=some (.int .i64 d.by_)
 c2:w.cell? ⟨B,2,none⟩=some (.int .i64 d.no)
 c3:w.cell? ⟨B,3,none⟩=some (.int .i64 d.seen)
 c4:w.cell? ⟨B,4,none⟩=some (.int .i64 d.at_)
 c5:w.cell? ⟨B,5,none⟩=some (.int .i64 d.many)
 c6:w.cell? ⟨B,6,none⟩=some (.string d.text)
abbrev ddObj(d:Dd):Obj:= .cells #[.int .i64 d.kind,.int .i64 d.by_,.int .i64 d.no,.int .i64 d.seen,.int .i64 d.at_,.int .i64 d.many,.string d.text] 124
theorem zjm(w:World)(d:Dd):At7 (w.alloc (ddObj d)) w.heap.size d:=by
 refine⟨by simp,?_,?_,?_,?_,?_,?_,?_⟩<;>simp[go_sem]
theorem At7.below{w w':World}{B:Nat}{d:Dd}(h:At7 w B d)(hb:Below w.heap.size w w'):At7 w' B d:=
 ⟨by have:=hb.size;have:=h.lt;omega,zd8 h.c0 hb,zd8 h.c1 hb,zd8 h.c2 hb,zd8 h.c3 hb,zd8 h.c4 hb,zd8 h.c5 hb,zd8 h.c6 hb⟩
theorem At7.alloc{w:World}{B:Nat}{d:Dd}(h:At7 w B d)(o:Obj):At7 (w.alloc o) B d:=h.below ((Below.refl _ _).alloc (Nat.le_refl _) _)
structure LInv(w:World)(B1 B2:Nat)(d:Dd)(zs:List Int)(wk:World):Prop where
 below:Below w.heap.size w wk
 ready:zbz wk
 at_:At7 wk B1 d
 ints:Ints wk B2 0 zs
theorem LInv.after{w wk w':World}{B1 B2:Nat}{d:Dd}{zs:List Int}(h:LInv w B1 B2 d zs wk)(hb:Below wk.heap.size wk w'):LInv w B1 B2 d zs w':=
 ⟨bla h.below hb,h.ready.below hb,h.at_.below hb,h.ints.below hb⟩
theorem LInv.drew{w wk:World}{B1 B2:Nat}{d:Dd}{zs:List Int}(h:LInv w B1 B2 d zs wk):LInv w B1 B2 d zs wk.drew:=h.after (Below.refl _ _).drew
theorem told_q{w wk:World}{B1 B2:Nat}{d:Dd}{zs:List Int}(h:LInv w B1 B2 d zs wk)(n cap:Nat)(hn:zs.length=n)(hm:n≤5)(hz:∀z∈zs,inI z):
 Calls Tryz.prog 184 #[.slice (some ⟨B2,0,none⟩) n cap] wk fun e w'=>e= .returned (.string (zfn zs))∧LInv w B1 B2 d zs w':=
 (qda B2 0 n cap zs wk h.ready hn hm hz h.ints).mono fun _ _ ⟨he,hb⟩=>⟨he,h.after hb⟩
theorem qff(w:World)(a b c d e:Int):Ints (w.alloc (.cells #[.int .i64 a,.int .i64 b,.int .i64 c,.int .i64 d,.int .i64 e] 217)) w.heap.size 0 [a,b,c,d]:=by
 refine⟨by simp,fun i hi=> ?_⟩
 have h4:i<4:=hi
 rcases(show i=0∨i=1∨i=2∨i=3 by omega)with rfl|rfl|rfl|rfl<;>simp[go_sem]
theorem qfg(w:World)(a b c d e:Int):Ints (w.alloc (.cells #[.int .i64 a,.int .i64 b,.int .i64 c,.int .i64 d,.int .i64 e] 217)) w.heap.size 0 [a,b,c,d,e]:=by
 refine⟨by simp,fun i hi=> ?_⟩
 have h4:i<5:=hi
 rcases(show i=0∨i=1∨i=2∨i=3∨i=4 by omega)with rfl|rfl|rfl|rfl|rfl<;>simp[go_sem]
theorem zr0{w w1:World}{d:Dd}{zs:List Int}(hw:zbz w)(hb:Below (w.alloc (ddObj d)).heap.size (w.alloc (ddObj d)) w1)(o:Obj)(hi:Ints (w1.alloc o) w1.heap.size 0 zs):LInv w w.heap.size w1.heap.size d zs (w1.alloc o):=
 have h1:Below w.heap.size w w1:=bla ((Below.refl _ _).alloc (Nat.le_refl _) _) hb
 have h2:Below w1.heap.size w1 (w1.alloc o):=(Below.refl _ _).alloc (Nat.le_refl _) _
 ⟨bla h1 h2,(hw.below h1).below h2,((zjm w d).below hb).below h2,hi⟩
theorem zt3{d:Dd}(h:za6 d=0):(d.kind=1∨d.kind=2)∧zcv d=true:=by
 by_cases hk:d.kind=1∨d.kind=2
 ·cases hp:zcv d
  ·rw[za6,if_neg (by omega),if_pos hp]at h;cases h
  ·exact⟨hk,rfl⟩
 ·rw[za6,if_pos (by omega)]at h;cases h
theorem zux{d:Dd}(h:za6 d=0):inI d.by_∧inI d.no∧inI d.seen∧inI d.at_:=by
 have hp:=(zt3 h).2
 simp[zcv,zaw,wrB]at hp
 unfold inI
 omega
theorem qea{d:Dd}(h:za6 d=0)(hk:d.kind=1):d.many=0∧zck d.text=true:=by
 have hp:=(zt3 h).2
 rw[za6,if_neg (by omega),if_neg (by simp[hp]),if_pos hk,zwt]at h
 by_cases hm:d.many=0
 ·rw[if_neg (by omega)]at h
  cases hs:zck d.text
  ·rw[hs]at h;cases h
  ·exact⟨hm,rfl⟩
 ·rw[if_pos hm]at h;cases h
theorem zwa{d:Dd}(h:za6 d=0)(hk:d.kind≠1):d.kind=2∧d.text.size=0∧1≤d.many∧d.many≤200:=by
 obtain⟨hk',hp⟩:=zt3 h
 rw[za6,if_neg (by omega),if_neg (by simp[hp]),if_neg hk,zl4]at h
 by_cases hm:d.text.size=0
 ·rw[if_neg (by omega)]at h
  cases hs:zaw d.many 1 200
  ·rw[hs]at h;cases h
  ·simp[zaw]at hs;exact⟨by omega,hm,hs⟩
 ·rw[if_pos hm]at h;cases h
theorem zj5{s:ByteArray}(h:zck s=true):1≤s.size∧s.size≤20:=by
 simp[zck]at h;exact h.1
theorem qfs{a b c d:Int}(h:inI a∧inI b∧inI c∧inI d):∀z∈[a,b,c,d],inI z:=by
 intro z hz
 simp at hz
 rcases hz with rfl|rfl|rfl|rfl
 ·exact h.1
 ·exact h.2.1
 ·exact h.2.2.1
 ·exact h.2.2.2
theorem qft{a b c d e:Int}(h:inI a∧inI b∧inI c∧inI d)(h':inI e):∀z∈[a,b,c,d,e],inI z:=by
 intro z hz
 simp at hz
 rcases hz with rfl|rfl|rfl|rfl|rfl
 ·exact h.1
 ·exact h.2.1
 ·exact h.2.2.1
 ·exact h.2.2.2
 ·exact h'
def zsn(d:Dd):ByteArray:=if d.kind=1 then(⟨#[112,117,116]⟩++zfn [d.by_,d.no,d.seen,d.at_])++⟨#[32]⟩++d.text else⟨#[116,97,107,101]⟩++zfn [d.by_,d.no,d.seen,d.at_,d.many]
def zcw(d:Dd):ByteArray:=if za6 d=0 then zsn d else⟨#[]⟩
theorem zjr{d:Dd}{a:ByteArray}{c:Int}(h1:a=zcw d)(h2:c=za6 d):Ending.returned (.tuple #[.string a,.int .i64 c])= .returned (.tuple #[.string (zcw d),.int .i64 (za6 d)]):=by rw[h1,h2]
theorem line_no(d:Dd)(w:World)(h:za6 d≠0):
 Calls Tryz.prog 136 #[ddV d] w fun e w'=>e= .returned (.tuple #[.string (zcw d),.int .i64 (za6 d)])∧Below w.heap.size w w':=by
 have HS:Hid (zcw d=⟨#[]⟩):=by show zcw d=_;rw[zcw,if_neg h]
 have hne:(za6 d != 0)=true:=by simp[h]
 clear h
 obtain⟨kind,by_,no,seen,at_,many,text⟩:=d
 go_enter Tryz.func136,Tryz.ntmps136
 go_wp2_with fail
 refine(zji ⟨kind,by_,no,seen,at_,many,text⟩ _).mono ?_
 rintro e w1 ⟨rfl,hb⟩
 go_wp2
 go_ret2
 exact⟨zjr HS.out.symm rfl,bla ((Below.refl _ _).alloc (Nat.le_refl _) _) hb⟩
theorem line_put(d:Dd)(w:World)(hw:zbz w)(h:za6 d=0)(hk:d.kind=1):
 Calls Tryz.prog 136 #[ddV d] w fun e w'=>e= .returned (.tuple #[.string (zcw d),.int .i64 (za6 d)])∧Below w.heap.size w w':=by
 have HS:Hid (zcw d=(⟨#[112,117,116]⟩++zfn [d.by_,d.no,d.seen,d.at_])++⟨#[32]⟩++d.text):=by show zcw d=_;rw[zcw,if_pos h,zsn,if_pos hk]
 have HC:Hid (za6 d=0):=h
 have HW:Hid (zbz w):=hw
 obtain⟨kind,by_,no,seen,at_,many,text⟩:=d
 obtain rfl:kind=1:=hk
 have hI:=zux h
 have HI:Hid _:=qfs hI
 have hts:=(zj5 (qea h rfl).2).2
 have hto:=ziz [by_,no,seen,at_] HI.out
 simp only[List.length_cons,List.length_nil,Nat.reduceAdd,Nat.reduceMul]at hto hts
 clear h hw hI
 go_enter Tryz.func136,Tryz.ntmps136
 go_wp2_with fail
 refine(zji ⟨_,by_,no,seen,at_,many,text⟩ _).mono ?_
 rintro e w1 ⟨rfl,hb⟩
 rw[HC.out]
 have HA:Hid (At7 w1 w.heap.size ⟨1,by_,no,seen,at_,many,text⟩):=(zjm w ⟨1,by_,no,seen,at_,many,text⟩).below hb
 obtain⟨hlt,a0,a1,a2,a3,a4,a5,a6⟩:=HA.out
 have b0:∀o,(w1.alloc o).cell? ⟨w.heap.size,0,none⟩=some (.int .i64 1):=fun o=>(HA.out.alloc o).c0
 have HL:Hid _:=zr0 (d:=⟨1,by_,no,seen,at_,many,text⟩) HW.out hb (.cells #[.int .i64 by_,.int .i64 no,.int .i64 seen,.int .i64 at_,.int .i64 many] 217) (qff w1 by_ no seen at_ many)
 go_wp2
 clear a0 a1 a2 a3 a4 a5 a6 b0 hb hlt HA
 refine wp_region_quiet (C:=fun wk=>LInv w w.heap.size w1.heap.size ⟨1,by_,no,seen,at_,many,text⟩ [by_,no,seen,at_] wk) (by kernel_rfl) (by kernel_rfl) (HL.out.drew) ?_
 refine wpQuiet_step (fun K hK=> ?_)
 go_simp
 refine⟨_,fun _ _=>rfl,hK _ ?_⟩
 clear hK K
 refine wpQuiet_step (fun K hK=> ?_)
 go_simp
 refine⟨_,fun wk hwk=>told_q hwk 4 5 rfl (by decide) HI.out,hK _ ?_⟩
 clear hK K
 refine wpQuiet_step (fun K hK=> ?_)
 go_simp
 refine⟨.string (⟨#[112,117,116]⟩++zfn [by_,no,seen,at_]),fun wk _=> ?_,hK _ ?_⟩
 ·rw[if_neg (by omega)]
  exact⟨rfl,rfl⟩
 clear hK K
 refine wpQuiet_step (fun K hK=> ?_)
 go_simp
 refine⟨.string (⟨#[112,117,116]⟩++zfn [by_,no,seen,at_]++⟨#[32]⟩),fun wk _=> ?_,hK _ ?_⟩
 ·rw[if_neg (by omega)]
  exact⟨rfl,rfl⟩
 clear hK K
 refine wpQuiet_step (fun K hK=> ?_)
 go_simp
 refine⟨_,fun _ _=>rfl,hK _ ?_⟩
 clear hK K
 refine wpQuiet_step (fun K hK=> ?_)
 go_simp
 refine⟨.string text,fun wk hwk=> ?_,hK _ ?_⟩
 ·obtain⟨_,c0,c1,c2,c3,c4,c5,c6⟩:=hwk.at_
  go_simp
 clear hK K
 refine wpQuiet_step (fun K hK=> ?_)
 go_simp
 refine⟨.string (⟨#[112,117,116]⟩++zfn [by_,no,seen,at_]++⟨#[32]⟩++text),fun wk _=> ?_,hK _ ?_⟩
 ·rw[if_neg (by omega)]
  exact⟨rfl,rfl⟩
 clear hK K
 refine wpQuiet_step (fun K hK=> ?_)
 go_simp
 refine⟨_,fun _ _=>rfl,hK _ ?_⟩
 clear hK K
 refine wpQuiet_step (fun K hK=> ?_)
 go_simp
 refine⟨_,fun _ _=>rfl,hK _ ?_⟩
 clear hK K
 refine wpQuiet_nil ?_
 intro w2 hw2
 have HB2:Hid (Below w.heap.size w w2):=hw2.below
 clear hw2
 go_wp2
 go_ret2
 exact⟨zjr HS.out.symm HC.out.symm,HB2.out⟩
theorem qf3(d:Dd)(w:World)(hw:zbz w)(h:za6 d=0)(hk:d.kind≠1):
 Calls Tryz.prog 136 #[ddV d] w fun e w'=>e= .returned (.tuple #[.string (zcw d),.int .i64 (za6 d)])∧Below w.heap.size w w':=by
 have HS:Hid (zcw d=⟨#[116,97,107,101]⟩++zfn [d.by_,d.no,d.seen,d.at_,d.many]):=by show zcw d=_;rw[zcw,if_pos h,zsn,if_neg hk]
 have HC:Hid (za6 d=0):=h
 have HW:Hid (zbz w):=hw
 obtain⟨hk2,_,hm1,hm2⟩:=zwa h hk
 obtain⟨kind,by_,no,seen,at_,many,text⟩:=d
 obtain rfl:kind=2:=hk2
 have hI:=zux h
 have HI:Hid _:=qft hI (e:=many) (by unfold inI;simp only at hm1 hm2;omega)
 have hto:=ziz [by_,no,seen,at_,many] HI.out
 simp only[List.length_cons,List.length_nil,Nat.reduceAdd,Nat.reduceMul]at hto
 clear h hw hI hk hm1 hm2
 go_enter Tryz.func136,Tryz.ntmps136
 go_wp2_with fail
 refine(zji ⟨_,by_,no,seen,at_,many,text⟩ _).mono ?_
 rintro e w1 ⟨rfl,hb⟩
 rw[HC.out]
 have HA:Hid (At7 w1 w.heap.size ⟨2,by_,no,seen,at_,many,text⟩):=(zjm w ⟨2,by_,no,seen,at_,many,text⟩).below hb
 obtain⟨hlt,a0,a1,a2,a3,a4,a5,a6⟩:=HA.out
 have b0:∀o,(w1.alloc o).cell? ⟨w.heap.size,0,none⟩=some (.int .i64 2):=fun o=>(HA.out.alloc o).c0
 have HL:Hid _:=zr0 (d:=⟨2,by_,no,seen,at_,many,text⟩) HW.out hb (.cells #[.int .i64 by_,.int .i64 no,.int .i64 seen,.int .i64 at_,.int .i64 many] 217) (qfg w1 by_ no seen at_ many)
 go_wp2_with fail
 clear a0 a1 a2 a3 a4 a5 a6 b0 hb hlt HA
 refine(told_q HL.out 5 5 rfl (by decide) HI.out).mono ?_
 rintro e w2 ⟨rfl,hl2⟩
 have HB2:Hid (Below w.heap.size w w2):=hl2.below
 clear HL hl2
 go_wp2
 go_ret2
 exact⟨zjr HS.out.symm HC.out.symm,HB2.out⟩
theorem line_any(d:Dd)(w:World)(hw:zbz w):
 Calls Tryz.prog 136 #[ddV d] w fun e w'=>e= .returned (.tuple #[.string (zcw d),.int .i64 (za6 d)])∧Below w.heap.size w w':=by
 by_cases h:za6 d=0
 ·by_cases hk:d.kind=1
  ·exact line_put d w hw h hk
  ·exact qf3 d w hw h hk
 ·exact line_no d w h
theorem zj7(n:Int)(hn:inI n)(w:World)(hw:zbz w):
 Calls Tryz.prog 42 #[.int .i64 n] w fun e w'=>e= .returned (.string (zc4 n))∧Below w.heap.size w w':=by
 have HW:Hid _:=hw
 have HN:Hid _:=hn
 clear hw hn
 go_enter Tryz.func42,Tryz.ntmps42
 go_wp2_with (go_at_call 53;refine(zli _ HN.out _ HW.out).mono ?_;rintro e w' ⟨rfl,hb⟩)
 go_ret
 exact⟨rfl,hb⟩
end Go.Proofs.YtcbnnfeelhlapadGreatDoor
namespace Go.Proofs.YtcbnnfeelhlapadGreatDoor
set_option maxHeartbeats 3200000
open Go.RowKit
def ze3(s:ByteArray):Option Int:=match zhr s with|some v=>if zc4 v=s then some v else none|none=>none
def zbp:List ByteArray→Option (List Int)
 |[]=>some []
 |s::r=>match ze3 s with|none=>none|some z=>(zbp r).map (z:: ·)
theorem zm9:∀(l:List ByteArray) (s:ByteArray) (zs:List Int) (z:Int),zbp l=some zs→ze3 s=some z→zbp (l++[s])=some (zs++[z])
 |[],s,zs,z,h,hz=>by cases h;simp[zbp,hz]
 |x::r,s,zs,z,h,hz=>by
  rw[zbp]at h
  cases hx:ze3 x with
  |none=>rw[hx]at h;cases h
  |some u=>
   rw[hx]at h
   cases hr:zbp r with
   |none=>rw[hr]at h;cases h
   |some us=>
    rw[hr]at h
    obtain rfl:=Option.some.inj h
    have:=zm9 r s us z hr hz
    simp[zbp,hx,this]
theorem zs8:∀(l:List ByteArray) (k:Nat) (h:k<l.length),ze3 l[k]=none→zbp l=none
 |x::r,0,_,h=>by simp[zbp,show ze3 x=none from h]
 |x::r,k+1,hk,h=>by
  have:=zs8 r k (by simpa using hk) h
  rw[zbp]
  cases ze3 x with
  |none=>rfl
  |some u=>simp[this]
theorem zhp:∀(l:List ByteArray) (zs:List Int),zbp l=some zs→zs.length=l.length
 |[],zs,h=>by cases h;rfl
 |x::r,zs,h=>by
  rw[zbp]at h
  cases hx:ze3 x with
  |none=>rw[hx]at h;cases h
  |some u=>
   rw[hx]at h
   cases hr:zbp r with
   |none=>rw[hr]at h;cases h
   |some us=>
    rw[hr]at h
    obtain rfl:=Option.some.inj h
    simp[zhp r us hr]
structure Five(w:World)(B:Nat)(zs:List Int):Prop where
 lt:B<w.heap.size
 c:∀i,i<5→w.cell? ⟨B,i,none⟩=some (.int .i64 (zs.getD i 0))
 f:∀i,w.frozen? ⟨B,i,none⟩=false
theorem zv3{w w':World}{a o:Nat}(h:a<w.heap.size)(hb:Below w.heap.size w w'):w'.frozen? ⟨a,o,none⟩=w.frozen? ⟨a,o,none⟩:=hb.frozen (p:=⟨a,o,none⟩) h
theorem Five.below{w w':World}{B:Nat}{zs:List Int}(h:Five w B zs)(hb:Below w.heap.size w w'):Five w' B zs:=
 ⟨by have:=hb.size;have:=h.lt;omega,fun i hi=>zd8 (h.c i hi) hb,fun i=>(zv3 h.lt hb).trans (h.f i)⟩
structure Strs(w:World)(b off:Nat)(ws:List ByteArray):Prop where
 lt:b<w.heap.size
 cell:∀(i:Nat) (h:i<ws.length),w.cell? ⟨b,off+i,none⟩=some (.string (ws[i]'h))
theorem Strs.below{w w':World}{b off:Nat}{zs:List ByteArray}(h:Strs w b off zs)(hb:Below w.heap.size w w'):Strs w' b off zs:=
 ⟨by have:=hb.size;have:=h.lt;omega,fun i hi=>zd8 (h.cell i hi) hb⟩
theorem qaj(l:List ByteArray)(k:Nat)(h:k<l.length):l.take (k+1)=l.take k++[l[k]]:=by
 rw[List.take_add_one,List.getElem?_eq_getElem h];rfl
end Go.Proofs.YtcbnnfeelhlapadGreatDoor
namespace Go.Proofs.YtcbnnfeelhlapadGreatDoor
set_option maxHeartbeats 3200000
open Go.RowKit
end Go.Proofs.YtcbnnfeelhlapadGreatDoor
namespace Go.Proofs.YtcbnnfeelhlapadGreatDoor
set_option maxHeartbeats 3200000
open Go.RowKit
abbrev spS:ByteArray:=⟨#[32]⟩
end Go.Proofs.YtcbnnfeelhlapadGreatDoor
namespace Go.Proofs.YtcbnnfeelhlapadGreatDoor
set_option maxHeartbeats 3200000
abbrev bl(l:List UInt8):ByteArray:=⟨l.toArray⟩
theorem zjk(s:ByteArray):bl s.data.toList=s:=by cases s;simp
theorem zhf(l:List UInt8):(bl l).data.toList=l:=by simp
theorem zpq{a b:List UInt8}(h:bl a=bl b):a=b:=by
 have:=congrArg (fun s:ByteArray=>s.data.toList) h
 simpa using this
def zf2:List UInt8→Option (List UInt8×List UInt8)
 |[]=>none
 |b::r=>if b=32 then some ([],r)else(zf2 r).map fun p=>(b::p.1,p.2)
def zmn:Nat→List UInt8→List (List UInt8)
 | 0,s=>[s]
 |k+1,s=>match zf2 s with|none=>[s]|some p=>p.1::zmn k p.2
theorem zez:∀{s x y:List UInt8},zf2 s=some (x,y)→s=x++32::y
 |[],x,y,h=>by cases h
 |b::r,x,y,h=>by
  rw[zf2]at h
  by_cases hb:b=32
  ·rw[if_pos hb]at h
   obtain⟨rfl,rfl⟩:=Prod.mk.inj (Option.some.inj h)
   rw[hb];rfl
  ·rw[if_neg hb]at h
   cases hc:zf2 r with
   |none=>rw[hc]at h;cases h
   |some p=>
    rw[hc]at h
    obtain⟨rfl,rfl⟩:=Prod.mk.inj (Option.some.inj h)
    have:=zez (x:=p.1) (y:=p.2) hc
    rw[this];rfl
theorem qge:∀(x y:List UInt8),(∀b∈x,b≠32)→zf2 (x++32::y)=some (x,y)
 |[],y,_=>by simp[zf2]
 |b::x,y,h=>by
  have hb:b≠32:=h b (by simp)
  have:=qge x y (fun c hc=>h c (by simp[hc]))
  rw[List.cons_append,zf2,if_neg hb,this]
  rfl
theorem zpi:∀{s:List UInt8},zf2 s=none→∀b∈s,b≠32
 |[],_=>by simp
 |b::r,h=>by
  rw[zf2]at h
  by_cases hb:b=32
  ·rw[if_pos hb]at h;cases h
  ·rw[if_neg hb]at h
   cases hc:zf2 r with
   |none=>
    intro c hc'
    rcases List.mem_cons.1 hc' with rfl|hm
    ·exact hb
    ·exact zpi hc c hm
   |some p=>rw[hc]at h;cases h
theorem zpj:∀{s:List UInt8},(∀b∈s,b≠32)→zf2 s=none
 |[],_=>rfl
 |b::r,h=>by
  rw[zf2,if_neg (h b (by simp)),zpj (fun c hc=>h c (by simp[hc]))]
  rfl
theorem zp9:∀(s:List UInt8),(zf2 s=none∧Lib.index s [32]= -1)∨(∃x y,zf2 s=some (x,y)∧Lib.index s [32]=(x.length:Int))
 |[]=> .inl ⟨rfl,by decide⟩
 |b::r=>by
  by_cases hb:b=32
  ·refine .inr ⟨[],r,by rw[zf2,if_pos hb],?_⟩
   rw[hb]
   exact Lib.index_first (i:=0) (Nat.zero_le _) (by simp[Lib.occAt]) (fun _ h=>absurd h (Nat.not_lt_zero _))
  ·have hn:Lib.NoOcc (b::r) [32] 1:=by
    intro j hj
    obtain rfl:j=0:=by omega
    have:((32:UInt8)==b)=false:=beq_eq_false_iff_ne.2 (fun e=>hb e.symm)
    simp only[Lib.occAt,List.drop_zero,List.isPrefixOf,this,Bool.false_and]
   have hd:=Lib.index_drop hn (by simp)
   rw[List.drop_one,List.tail_cons]at hd
   rcases zp9 r with⟨h1,h2⟩|⟨x,y,h1,h2⟩
   ·refine .inl ⟨by rw[zf2,if_neg hb,h1];rfl,?_⟩
    rw[hd,h2];rfl
   ·refine .inr ⟨b::x,y,by rw[zf2,if_neg hb,h1];rfl,?_⟩
    rw[hd,h2,if_neg (by simp)]
    simp
theorem zqq:∀(k:Nat) (s:List UInt8),Lib.splitK [32] 0 k s=zmn k s
 | 0,s=>rfl
 |k+1,s=>by
  rw[Lib.splitK,zmn]
  rcases zp9 s with⟨h1,h2⟩|⟨x,y,h1,h2⟩
  ·rw[h1,h2];rfl
  ·have hj:=zez h1
   rw[h1,h2,if_neg (by simp)]
   show _=x::zmn k y
   have e1:s.take ((x.length:Int).toNat+0)=x:=by rw[hj];simp
   have e2:s.drop ((x.length:Int).toNat+[(32:UInt8)].length)=y:=by
    rw[hj]
    simp
   rw[e1,e2,zqq k y]
theorem zvi:∀(k j:Nat) (s:List UInt8),s.length≤k→zmn (k+j) s=zmn k s
 | 0,j,s,h=>by
  have:s=[]:=List.length_eq_zero_iff.1 (by omega)
  subst this
  cases j with
  |zero=>rfl
  |succ j=>rw[Nat.zero_add,zmn];rfl
 |k+1,j,s,h=>by
  rw[show k+1+j=(k+j)+1 by omega,zmn,zmn]
  cases hc:zf2 s with
  |none=>rfl
  |some p=>
   have hj:=zez (x:=p.1) (y:=p.2) hc
   have:p.2.length≤k:=by
    have:=congrArg List.length hj
    simp at this
    omega
   simp only[zvi k j p.2 this]
def znh:List (List UInt8)→List UInt8
 |[]=>[]
 |[x]=>x
 |x::y::r=>x++32::znh (y::r)
theorem cutK_ne:∀(k:Nat) (s:List UInt8),∃x r,zmn k s=x::r
 | 0,s=>⟨s,[],rfl⟩
 |k+1,s=>by
  rw[zmn]
  cases zf2 s with
  |none=>exact⟨s,[],rfl⟩
  |some p=>exact⟨p.1,_,rfl⟩
theorem zvj:∀(k:Nat) (s:List UInt8),znh (zmn k s)=s
 | 0,s=>rfl
 |k+1,s=>by
  rw[zmn]
  cases hc:zf2 s with
  |none=>rfl
  |some p=>
   obtain⟨x,r,hx⟩:=cutK_ne k p.2
   have:=zvj k p.2
   show znh (p.1::zmn k p.2)=s
   rw[hx]at this⊢
   rw[znh,this,←zez (x:=p.1) (y:=p.2) hc]
theorem qg7:∀(u:Nat),∀b∈Lib.decDigits u,48≤b.toNat∧b.toNat≤57:=by
 intro u
 induction u using Nat.strongRecOn with
 |ind u ih=>
  intro b hb
  rw[Lib.decDigits]at hb
  split at hb
  ·rename_i h
   rw[List.mem_singleton]at hb
   rw[hb,UInt8.toNat_ofNat']
   omega
  ·rename_i h
   rw[List.mem_append]at hb
   rcases hb with hb|hb
   ·exact ih (u / 10) (by omega) b hb
   ·rw[List.mem_singleton]at hb
    rw[hb,UInt8.toNat_ofNat']
    omega
theorem zjg:∀(l:List UInt8) (acc m d:Nat) (b:UInt8),Lib.decFrom acc l=some m→Lib.digitVal b=some d→Lib.decFrom acc (l++[b])=some (m*10+d)
 |[],acc,m,d,b,h,hb=>by
  cases h
  simp[Lib.decFrom,hb]
 |c::l,acc,m,d,b,h,hb=>by
  rw[Lib.decFrom]at h
  cases hc:Lib.digitVal c with
  |none=>rw[hc]at h;cases h
  |some e=>
   rw[hc]at h
   have:=zjg l _ m d b h hb
   rw[List.cons_append,Lib.decFrom,hc]
   exact this
theorem zpg(k:Nat)(h:k<10):Lib.digitVal (UInt8.ofNat (48+k))=some k:=by
 have e:(UInt8.ofNat (48+k)).toNat=48+k:=by rw[UInt8.toNat_ofNat'];omega
 rw[Lib.digitVal,e,if_pos (by omega)]
 congr 1
 omega
theorem zqa:∀(u:Nat),Lib.decFrom 0 (Lib.decDigits u)=some u:=by
 intro u
 induction u using Nat.strongRecOn with
 |ind u ih=>
  rw[Lib.decDigits]
  split
  ·rename_i h
   have:=zjg [] 0 0 u _ rfl (zpg u h)
   simpa using this
  ·rename_i h
   have:=zjg _ 0 _ (u % 10) _ (ih (u / 10) (by omega)) (zpg (u % 10) (by omega))
   rw[this]
   congr 1
   omega
theorem qg8(u:Nat):Lib.decDigits u≠[]:=by
 rw[Lib.decDigits]
 split<;>simp
theorem zy8(u:Nat):Lib.atoi (Lib.decDigits u)=some (u:Int):=by
 cases hd:Lib.decDigits u with
 |nil=>exact absurd hd (qg8 u)
 |cons b r=>
  have hb:=qg7 u b (by rw[hd];simp)
  have h45:(b==45)=false:=beq_eq_false_iff_ne.2 (fun e=>by rw[e]at hb;exact absurd hb.1 (by decide))
  have h43:(b==43)=false:=beq_eq_false_iff_ne.2 (fun e=>by rw[e]at hb;exact absurd hb.1 (by decide))
  have:=zqa u
  rw[hd]at this
  simp[Lib.atoi,h45,h43,Lib.decNat,this]
theorem num_back(n:Int)(h0:0≤n)(h1:n≤1000):ze3 (zc4 n)=some n:=by
 have hi:inI n:=by unfold inI;omega
 have hl:(Lib.itoa n).length≤18:=by
  rw[Lib.itoa,if_neg (by omega),Lib.decDigits_length]
  have:=Lib.nDigits_unique
  rcases(show n.toNat<10∨(10≤n.toNat∧n.toNat<100)∨(100≤n.toNat∧n.toNat<1000)∨n.toNat=1000 by omega)with h|h|h|h
  ·rw[Lib.nDigits_small h];omega
  ·rw[this 1 _ h.1 h.2];omega
  ·rw[this 2 _ h.1 h.2];omega
  ·rw[this 3 _ (by omega) (by omega)];omega
 have ha:Lib.atoiAll (zc4 n).data.toList= .ok n:=by
  rw[show(zc4 n).data.toList=Lib.itoa n by simp[zc4],Lib.atoiAll_short _ hl,Lib.itoa,if_neg (by omega),zy8]
  show Lib.NumEnd.ok _=_
  rw[Int.toNat_of_nonneg h0]
 have hn:zhr (zc4 n)=some n:=by rw[zhr,ha]
 simp[ze3,hn]
end Go.Proofs.YtcbnnfeelhlapadGreatDoor
namespace Go.Proofs.YtcbnnfeelhlapadGreatDoor
set_option maxHeartbeats 3200000
theorem zif(a b:ByteArray):(a++b).data.toList=a.data.toList++b.data.toList:=by simp
theorem zl7(n:Int):(zc4 n).data.toList=Lib.itoa n:=by simp[zc4]
theorem qae(a b c d:Int):(zfn [a,b,c,d]).data.toList=32::(Lib.itoa a++32::(Lib.itoa b++32::(Lib.itoa c++32::Lib.itoa d))):=by
 simp only[zfn,List.foldl_cons,List.foldl_nil,zif,zl7]
 simp
theorem qad(a b c d e:Int):(zfn [a,b,c,d,e]).data.toList=32::(Lib.itoa a++32::(Lib.itoa b++32::(Lib.itoa c++32::(Lib.itoa d++32::Lib.itoa e)))):=by
 simp only[zfn,List.foldl_cons,List.foldl_nil,zif,zl7]
 simp
def putL(d:Dd):List (List UInt8):=[[112,117,116],Lib.itoa d.by_,Lib.itoa d.no,Lib.itoa d.seen,Lib.itoa d.at_,d.text.data.toList]
def zyt(d:Dd):List (List UInt8):=[[116,97,107,101],Lib.itoa d.by_,Lib.itoa d.no,Lib.itoa d.seen,Lib.itoa d.at_,Lib.itoa d.many]
theorem zib{d:Dd}(h:d.kind=1):(zsn d).data.toList=znh (putL d):=by
 rw[zsn,if_pos h]
 simp only[zif,qae,putL,znh]
 simp
theorem zk9{d:Dd}(h:d.kind≠1):(zsn d).data.toList=znh (zyt d):=by
 rw[zsn,if_neg h]
 simp only[zif,qad,zyt,znh]
theorem zup{d:Dd}(h:za6 d=0):(zcw d).size≤200:=by
 have hI:=zux h
 have hl:zcw d=zsn d:=by rw[zcw,if_pos h]
 rw[hl,zsn]
 by_cases hk:d.kind=1
 ·rw[if_pos hk,ByteArray.size_append,ByteArray.size_append,ByteArray.size_append]
  have h1:=ziz [d.by_,d.no,d.seen,d.at_] (qfs hI)
  have h2:=(zj5 (qea h hk).2).2
  have e1:(⟨#[112,117,116]⟩:ByteArray).size=3:=rfl
  have e2:(⟨#[32]⟩:ByteArray).size=1:=rfl
  simp only[List.length_cons,List.length_nil]at h1
  omega
 ·rw[if_neg hk,ByteArray.size_append]
  obtain⟨_,_,m0,m1⟩:=zwa h hk
  have h1:=ziz [d.by_,d.no,d.seen,d.at_,d.many] (qft hI (by unfold inI;omega))
  have e1:(⟨#[116,97,107,101]⟩:ByteArray).size=4:=rfl
  simp only[List.length_cons,List.length_nil]at h1
  omega
theorem zme(d:Dd):(zcw d).size≤200:=by
 by_cases h:za6 d=0
 ·exact zup h
 ·rw[zcw,if_neg h]
  exact Nat.zero_le _
end Go.Proofs.YtcbnnfeelhlapadGreatDoor