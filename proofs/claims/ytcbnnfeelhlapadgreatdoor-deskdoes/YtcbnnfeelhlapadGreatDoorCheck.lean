/-
  Plain, Leaf0, Leaf, Lists, Search, Find, DPlain, FPlain, CPlain, Check.
-/
import Derived.WalkKit
import Derived.WalkSpells
import Derived.WalkLawsBesides
import Derived.Deep.QuietTactic
import Derived.BigQuiet
import Derived.Deep.RegionWith
import Derived.Test.YtcbnnfeelhlapadGreatDoorRows
namespace Go.Proofs.YtcbnnfeelhlapadGreatDoor
open Go.RowKit
set_option maxRecDepth 20000
set_option maxHeartbeats 1000000
theorem hid{p:Prop}(h:p):Go.RowKit.Hid p:=h
structure Ch where
 c:Int
 by_:Int
 no:Int
 k:Int
 inn:Int
 out:Int
 gone:Int
def wrB(w:Int):Bool:=decide (0<=w/\w<=3)
def zas(n lo hi:Int):Bool:=decide (lo<=n/\n<=hi)
def qcc(g w:Int):Bool:=decide (g / 2 ^ w.toNat % 2=1)
def zce(g w:Int):Bool:=wrB w&&qcc g w
def inB(i b seen by_:Int):Bool:=decide (i<=seen\/b=by_)
def zmz(o g seen by_:Int):Bool:=decide (o≠0/\o<=seen)||zce g by_
def zi7(b i o g seen by_:Int):Bool:=inB i b seen by_&& !zmz o g seen by_
theorem and_bit(n:Int)(k:Nat)(hk:k<=3):bits .and .i64 n (2 ^ k)=n / 2 ^ k % 2*2 ^ k:=by
 have h2:(BitVec.ofInt 64 (2 ^ k)).toNat=2 ^ k:=by
  rcases(show k=0\/k=1\/k=2\/k=3 by omega)with rfl|rfl|rfl|rfl<;>decide
 have key:(BitVec.ofInt 64 n &&& BitVec.ofInt 64 (2 ^ k)).toNat=(n % ((2 ^ 64:Nat):Int)).toNat / 2 ^ k % 2*2 ^ k:=by
  rw[BitVec.toNat_and,BitVec.toNat_ofInt,h2,nat_bit]
 show IntKind.i64.wrap ((BitVec.ofInt 64 n &&& BitVec.ofInt 64 (2 ^ k)).toNat:Nat)=_
 rw[key,IntKind.wrap_i64]
 rcases(show k=0\/k=1\/k=2\/k=3 by omega)with rfl|rfl|rfl|rfl<;>simp<;>omega
theorem qd7(g w:Int)(h0:0<=w)(h3:w<=3):(bits BinOp.and IntKind.i64 g (IntKind.i64.wrap (2 ^ w.toNat)) != 0)=zce g w:=by
 obtain⟨k,rfl⟩:=Int.eq_ofNat_of_zero_le h0
 have hk:k<=3:=by omega
 have e:IntKind.i64.wrap ((2:Int) ^ (k:Int).toNat)=2 ^ k:=by
  rcases(show k=0\/k=1\/k=2\/k=3 by omega)with rfl|rfl|rfl|rfl<;>decide
 rw[e,and_bit g k hk]
 have hw:wrB (k:Int)=true:=by simp[wrB];omega
 simp only[zce,qcc,hw,Bool.true_and,Int.toNat_natCast]
 rw[Bool.eq_iff_iff,bne_iff_ne,decide_eq_true_iff]
 rcases(show k=0\/k=1\/k=2\/k=3 by omega)with rfl|rfl|rfl|rfl<;>simp<;>omega
theorem zq8(g:Int)(k:Nat)(h:0<=g)(h':g<=9223372036854775807):0<=g / 2 ^ k/\g / 2 ^ k<=9223372036854775807:=by
 have hp:(0:Int)<2 ^ k:=Int.pow_pos (by decide)
 refine⟨Int.ediv_nonneg h (by omega),?_⟩
 have:=Int.ediv_le_self (2 ^ k) h
 omega
theorem half_pow(g:Int)(k:Nat):g / 2 ^ (k+1)=g / 2 ^ k / 2:=by
 rw[Int.pow_succ,Int.ediv_ediv_of_nonneg (Int.pow_nonneg (by decide))]
theorem took_end(g:Int)(m:Nat)(h:wrB (m:Int)=true):(g / 2 ^ m % 2==1)=zce g m:=by
 rw[zce,h,Bool.true_and,qcc,Int.toNat_natCast,Bool.eq_iff_iff]
 simp
theorem zti(g n:Int)(h:wrB n=true):(!zce (-g-1) n)=zce g n:=by
 have hn:0<=n/\n<=3:=by simpa [wrB]using h
 rw[zce,zce,h,Bool.true_and,Bool.true_and,qcc,qcc]
 rcases(show n=0\/n=1\/n=2\/n=3 by omega)with rfl|rfl|rfl|rfl<;>rw[Bool.eq_iff_iff]<;>simp<;>omega
theorem zru(n:Int)(h:wrB n=true):(!zce 9223372036854775807 n)=zce (-9223372036854775808) n:=by
 have e:(9223372036854775807:Int)= - -9223372036854775808-1:=by omega
 rw[e]
 exact zti (-9223372036854775808) n h
theorem min_wrap:wrap64 (wrap64 9223372036854775808-1)=9223372036854775807:=by decide+kernel
theorem zdp{W w1:World}(hb:Below W.heap.size W w1):(∀b o,b<W.heap.size->w1.cell? ⟨b,o,none⟩=W.cell? ⟨b,o,none⟩)/\(∀b o,b<W.heap.size->w1.frozen? ⟨b,o,none⟩=W.frozen? ⟨b,o,none⟩):=
 ⟨fun b o h=>hb.cell (p:=⟨b,o,none⟩) h,fun b o h=>hb.frozen (p:=⟨b,o,none⟩) h⟩
theorem bla{w W w1:World}(h:Below w.heap.size w W)(hb:Below W.heap.size W w1):Below w.heap.size w w1:=
 h.trans (hb.mono h.size)
theorem zbf{a b:Bool}(h:a=b):Ending.returned (.bool a)= .returned (.bool b):=by rw[h]
theorem zae{k:IntKind}{a b:Int}(h:a=b):Ending.returned (.int k a)= .returned (.int k b):=by rw[h]
theorem zg9(n lo hi:Int)(w:World):
 Calls Tryz.prog 161 #[.int .i64 n,.int .i64 lo,.int .i64 hi] w fun e w'=>e= .returned (.bool (zas n lo hi))/\w'=w:=by
 by_cases h1:lo<=n
 ·by_cases h2:n<=hi
  ·go_enter Tryz.func161,Tryz.ntmps161
   go_wp2
   go_ret
   exact⟨by simp[zas,h1,h2],rfl⟩
  go_enter Tryz.func161,Tryz.ntmps161
  go_wp2
  go_ret
  exact⟨by simp[zas,h2],rfl⟩
 go_enter Tryz.func161,Tryz.ntmps161
 go_wp2
 go_ret
 exact⟨zbf (by simp[zas];omega),rfl⟩
theorem zbj(n:Int)(w:World):
 Calls Tryz.prog 116 #[.int .i64 n] w fun e w'=>e= .returned (.bool (wrB n))/\w'=w:=by
 go_enter Tryz.func116,Tryz.ntmps116
 go_wp2_with (go_at_call 161;refine(zg9 _ _ _ _).mono ?_;rintro e w' ⟨rfl,rfl⟩)
 go_ret
 exact⟨rfl,rfl⟩
theorem za8(n:Int)(w:World):
 Calls Tryz.prog 57 #[.int .i64 n] w fun e w'=>e= .returned (.bool (wrB n))/\w'=w:=by
 by_cases h1:0<=n
 ·by_cases h2:n<4
  ·go_enter Tryz.func57,Tryz.ntmps57
   go_wp2
   go_ret
   exact⟨zbf (by simp[wrB];omega),rfl⟩
  go_enter Tryz.func57,Tryz.ntmps57
  go_wp2
  go_ret
  exact⟨zbf (by simp[wrB];omega),rfl⟩
 go_enter Tryz.func57,Tryz.ntmps57
 go_wp2
 go_ret
 exact⟨zbf (by simp[wrB];omega),rfl⟩
abbrev chV(x:Ch):Value:= .agg #[.int .u8 x.c,.int .i64 x.by_,.int .i64 x.no,.int .i64 x.k,.int .i64 x.inn,.int .i64 x.out,.int .i64 x.gone]
theorem in_any(x:Ch)(seen by_:Int)(w:World):
 Calls Tryz.prog 212 #[chV x,.int .i64 seen,.int .i64 by_] w fun e w'=>e= .returned (.bool (inB x.inn x.by_ seen by_))/\Below w.heap.size w w':=by
 obtain⟨c,b,no,k,i,o,g⟩:=x
 by_cases h1:i<=seen
 ·go_enter Tryz.func212,Tryz.ntmps212
  go_wp2
  go_ret
  exact⟨by simp[inB,h1],(Below.refl _ _).alloc (Nat.le_refl _) _⟩
 by_cases h2:b=by_
 ·have h2':(b==by_)=true:=by simp[h2]
  clear h2
  go_enter Tryz.func212,Tryz.ntmps212
  go_wp2
  go_ret
  exact⟨zbf (by simp[inB];exact .inr (by simpa using h2')),(Below.refl _ _).alloc (Nat.le_refl _) _⟩
 have h2':(b==by_)=false:=by simp[h2]
 go_enter Tryz.func212,Tryz.ntmps212
 go_wp2
 go_ret
 exact⟨by simp[inB,h1,h2],(Below.refl _ _).alloc (Nat.le_refl _) _⟩
theorem took_yes(x:Ch)(by_:Int)(w:World)(h:wrB by_=true):
 Calls Tryz.prog 230 #[chV x,.int .i64 by_] w fun e w'=>e= .returned (.bool (zce x.gone by_))/\Below w.heap.size w w':=by
 obtain⟨c,b,no,k,i,o,g⟩:=x
 have hb:0<=by_/\by_<=3:=by simpa [wrB]using h
 obtain⟨h0,h3⟩:=hb
 go_enter Tryz.func230,Tryz.ntmps230
 go_wp2
 go_quiet ((go_at_call 116;exact Calls.quiet_of_same (zbj _ _)))
 go_wp2
 go_ret
 exact⟨zbf (qd7 _ _ h0 h3),below_drewN ((Below.refl _ _).alloc (Nat.le_refl _) _) _⟩
theorem took_no(x:Ch)(by_:Int)(w:World)(h:wrB by_=false):
 Calls Tryz.prog 230 #[chV x,.int .i64 by_] w fun e w'=>e= .returned (.bool (zce x.gone by_))/\Below w.heap.size w w':=by
 obtain⟨c,b,no,k,i,o,g⟩:=x
 go_enter Tryz.func230,Tryz.ntmps230
 go_wp2
 go_quiet ((go_at_call 116;exact Calls.quiet_of_same (zbj _ _)))
 go_wp2
 go_ret
 exact⟨zbf (by simp[zce,h]),below_drewN ((Below.refl _ _).alloc (Nat.le_refl _) _) _⟩
theorem zmr(x:Ch)(by_:Int)(w:World):
 Calls Tryz.prog 230 #[chV x,.int .i64 by_] w fun e w'=>e= .returned (.bool (zce x.gone by_))/\Below w.heap.size w w':=by
 cases h:wrB by_
 ·exact took_no x by_ w h
 exact took_yes x by_ w h
theorem out_any(x:Ch)(seen by_:Int)(w:World):
 Calls Tryz.prog 213 #[chV x,.int .i64 seen,.int .i64 by_] w fun e w'=>e= .returned (.bool (zmz x.out x.gone seen by_))/\Below w.heap.size w w':=by
 obtain⟨c,b,no,k,i,o,g⟩:=x
 by_cases h1:o=0
 ·have h1':(o != 0)=false:=by simp[h1]
  have H1:=hid h1
  clear h1
  go_enter Tryz.func213,Tryz.ntmps213
  go_wp2_with (go_at_call 230;refine(zmr ⟨c,b,no,k,i,o,g⟩ _ _).mono ?_;rintro e w' ⟨rfl,hb⟩)
  go_ret
  exact⟨zbf (by simp[zmz,H1.out]),bla ((Below.refl _ _).alloc (Nat.le_refl _) _) hb⟩
 have h1':(o != 0)=true:=by simp[h1]
 have H1:=hid h1
 clear h1
 by_cases h2:o<=seen
 ·go_enter Tryz.func213,Tryz.ntmps213
  go_wp2
  go_ret
  exact⟨zbf (by simp[zmz,H1.out,h2]),(Below.refl _ _).alloc (Nat.le_refl _) _⟩
 go_enter Tryz.func213,Tryz.ntmps213
 go_wp2_with (go_at_call 230;refine(zmr ⟨c,b,no,k,i,o,g⟩ _ _).mono ?_;rintro e w' ⟨rfl,hb⟩)
 go_ret
 exact⟨zbf (by
  have:¬o<=seen:=by omega
  simp[zmz,this]),bla ((Below.refl _ _).alloc (Nat.le_refl _) _) hb⟩
theorem zjr(x:Ch)(seen by_:Int)(w:World):
 Calls Tryz.prog 185 #[chV x,.int .i64 seen,.int .i64 by_] w fun e w'=>e= .returned (.bool (zi7 x.by_ x.inn x.out x.gone seen by_))/\Below w.heap.size w w':=by
 obtain⟨c,b,no,k,i,o,g⟩:=x
 cases hi:inB i b seen by_
 ·go_enter Tryz.func185,Tryz.ntmps185
  go_wp2_with (go_at_call 212;refine(in_any ⟨c,b,no,k,i,o,g⟩ _ _ _).mono ?_;rintro e w' ⟨rfl,hb⟩)
  go_ret
  exact⟨zbf (by simp[zi7,hi]),bla ((Below.refl _ _).alloc (Nat.le_refl _) _) hb⟩
 go_enter Tryz.func185,Tryz.ntmps185
 go_wp2_with fail
 refine(in_any ⟨c,b,no,k,i,o,g⟩ _ _ _).mono ?_
 rintro e w1 ⟨rfl,hb⟩
 obtain⟨hc,hf⟩:=zdp hb
 go_wp2_with fail
 refine(out_any ⟨c,b,no,k,i,o,g⟩ _ _ _).mono ?_
 rintro e w2 ⟨rfl,hb2⟩
 clear hc hf
 go_wp2
 go_ret
 exact⟨zbf (by simp[zi7,hi]),bla (bla ((Below.refl _ _).alloc (Nat.le_refl _) _) hb) hb2⟩
theorem qav(g n:Int)(w:World)(h:wrB n=false):
 Calls Tryz.prog 150 #[.int .i64 g,.int .i64 n] w fun e w'=>e= .returned (.bool (zce g n))/\w'=w:=by
 go_enter Tryz.func150,Tryz.ntmps150
 go_wp2_with (go_at_call 57;refine(za8 _ _).mono ?_;rintro e w' ⟨rfl,rfl⟩)
 go_ret
 exact⟨zbf (by simp[zce,h]),rfl⟩
theorem zkj(g n:Int)(w:World)(h:wrB n=true)(hg:0<=g)(hg':g<=9223372036854775807):
 Calls Tryz.prog 150 #[.int .i64 g,.int .i64 n] w fun e w'=>e= .returned (.bool (zce g n))/\w'=w:=by
 have hn:0<=n/\n<=3:=by simpa [wrB]using h
 obtain⟨n0,n3⟩:=hn
 obtain⟨m,rfl⟩:=Int.eq_ofNat_of_zero_le n0
 go_enter Tryz.func150,Tryz.ntmps150
 go_wp2_with (go_at_call 57;refine(za8 _ _).mono ?_;rintro e w' ⟨rfl,rfl⟩)
 go_loop [0,5] (fun t i=>∃k:Nat,k<=m/\i= .int .i64 k/\t= .int .i64 (g / 2 ^ k)) (fun _ i=>m-(intOf i).toNat)
 case atStart=>exact⟨0,Nat.zero_le _,rfl,by simp⟩
 obtain⟨k,hk,rfl,rfl⟩:=hrel
 have hd:=zq8 g k hg hg'
 obtain⟨hd0,hd1⟩:=hd
 by_cases hlt:k<m
 ·go_wp2
  go_round
  case rel=>exact⟨k+1,by omega,by go_num,by rw[half_pow]⟩
  case measure=>simp[intOf];omega
 go_wp2
 go_ret
 obtain rfl:k=m:=by omega
 exact⟨zbf (took_end g k h),rfl⟩
theorem zwq(g n:Int)(w:World)(h:wrB n=true)(hg:g<0)(hg': -9223372036854775808<=g):
 Calls Tryz.prog 150 #[.int .i64 g,.int .i64 n] w fun e w'=>e= .returned (.bool (zce g n))/\w'=w:=by
 by_cases hm:g= -9223372036854775808
 ·subst hm
  go_enter Tryz.func150,Tryz.ntmps150
  go_wp2_with fail
  refine(za8 _ _).mono ?_
  rintro e w' ⟨rfl,rfl⟩
  go_wp2_with fail
  rw[min_wrap]
  refine(zkj 9223372036854775807 _ _ h (by omega) (by omega)).mono ?_
  rintro e w' ⟨rfl,rfl⟩
  go_wp2
  go_ret
  exact⟨zbf (zru n h),rfl⟩
 go_enter Tryz.func150,Tryz.ntmps150
 go_wp2_with fail
 refine(za8 _ _).mono ?_
 rintro e w' ⟨rfl,rfl⟩
 go_wp2_with fail
 refine(zkj _ _ _ h (by omega) (by omega)).mono ?_
 rintro e w' ⟨rfl,rfl⟩
 go_wp2
 go_ret
 exact⟨zbf (zti g n h),rfl⟩
theorem zkk(g n:Int)(w:World)(hg: -9223372036854775808<=g)(hg':g<=9223372036854775807):
 Calls Tryz.prog 150 #[.int .i64 g,.int .i64 n] w fun e w'=>e= .returned (.bool (zce g n))/\w'=w:=by
 cases h:wrB n
 ·exact qav g n w h
 by_cases h0:0<=g
 ·exact zkj g n w h h0 hg'
 exact zwq g n w h (by omega) hg
variable {w wr:World} {v:Value} {n:Nat} {xs:List Value}
def za7(seen by_:Int)(x:Ch):Bool:=zi7 x.by_ x.inn x.out x.gone seen by_
def cnt(l:List Ch)(seen by_:Int):Int:=((l.filter (za7 seen by_)).length:Int)
def At(w:World)(b o:Nat)(x:Ch):Prop:=
 w.cell? ⟨b,o,none⟩=some (.int .u8 x.c)/\w.cell? ⟨b,o+1,none⟩=some (.int .i64 x.by_)/\w.cell? ⟨b,o+2,none⟩=some (.int .i64 x.no)/\
 w.cell? ⟨b,o+3,none⟩=some (.int .i64 x.k)/\w.cell? ⟨b,o+4,none⟩=some (.int .i64 x.inn)/\w.cell? ⟨b,o+5,none⟩=some (.int .i64 x.out)/\
 w.cell? ⟨b,o+6,none⟩=some (.int .i64 x.gone)
structure Row(w:World)(b off:Nat)(l:List Ch):Prop where
 lt:b<w.heap.size
 at_:∀i (h:i<l.length),At w b (off+i*7) l[i]
theorem Row.below{b off:Nat}{l:List Ch}(h:Row w b off l)(hb:Below w.heap.size w wr):Row wr b off l:=by
 refine⟨Nat.lt_of_lt_of_le h.lt hb.size,fun i hi=> ?_⟩
 have hc:=(zdp hb).1
 have hx:=h.at_ i hi
 unfold At at hx⊢
 simp only[hc _ _ h.lt]
 exact hx
theorem zcf{α:Type}(l:List α)(k:Nat)(h:k<l.length):l.take (k+1)=l.take k++[l[k]]:=
 List.take_succ_eq_append_getElem h
theorem zih(l:List Ch)(x:Ch)(seen by_:Int):cnt (l++[x]) seen by_=cnt l seen by_+if za7 seen by_ x=true then 1 else 0:=by
 unfold cnt
 rw[List.filter_append]
 by_cases h:za7 seen by_ x=true<;>simp[h]
theorem zn9(l:List Ch)(seen by_:Int):0<=cnt l seen by_/\cnt l seen by_<=l.length:=by
 unfold cnt
 have:=List.length_filter_le (za7 seen by_) l
 omega
theorem qbz(b off len cap:Nat)(l:List Ch)(seen by_:Int)(w:World)(hl:l.length=len)(hm:len<=281474976710656)(hr:Row w b off l):
 Calls Tryz.prog 231 #[.slice (some ⟨b,off,none⟩) len cap,.int .i64 seen,.int .i64 by_] w fun e w'=>e= .returned (.int .i64 (cnt l seen by_))/\Below w.heap.size w w':=by
 have HR:=hid hr
 have HL:=hid hl
 have hb:=hr.lt
 clear hr hl
 go_enter Tryz.func231,Tryz.ntmps231
 go_wp2
 go_loopw [7,12] (fun n i wr=>∃k:Nat,k<=len/\i= .int .i64 k/\n= .int .i64 (cnt (l.take k) seen by_)/\Below w.heap.size w wr) (fun _ i _=>len-(intOf i).toNat)
 case atStart=>exact⟨0,Nat.zero_le _,rfl,rfl,Below.refl _ _⟩
 obtain⟨k,hk,rfl,rfl,hbel⟩:=hrel
 by_cases hlt:k<len
 ·have hkl:k<l.length:=by rw[HL.out];exact hlt
  have hd:=zn9 (l.take k) seen by_
  have hle:(l.take k).length<=k:=List.length_take_le _ _
  have HN:Hid (cnt (l.take (k+1)) seen by_=cnt (l.take k) seen by_+if za7 seen by_ l[k]=true then 1 else 0):=by rw[zcf l k hkl];exact zih _ _ _ _
  obtain⟨h0,h1,h2,h3,h4,h5,h6⟩:=(HR.out.below hbel).at_ k hkl
  generalize l[k]=x at h0 h1 h2 h3 h4 h5 h6 HN
  generalize cnt (l.take k) seen by_=n at*
  go_wp2_with fail
  refine(zjr x _ _ _).mono ?_
  rintro e w1 ⟨rfl,hb1⟩
  have hb2:Below w.heap.size w w1:=bla (hbel.alloc (by have:=hbel.size;omega) _) hb1
  have HN':Hid (cnt (l.take (k+1)) seen by_=n+if zi7 x.by_ x.inn x.out x.gone seen by_=true then 1 else 0):=HN
  clear h0 h1 h2 h3 h4 h5 h6 hb1 HN
  cases hs:zi7 x.by_ x.inn x.out x.gone seen by_
  all_goals
   rw[hs]at HN'
   go_wp2
   go_roundw
   case rel=>exact⟨k+1,by omega,by go_num,by rw[HN'.out];simp,hb2⟩
   case measure=>simp[intOf];omega
 go_wp2
 go_ret
 obtain rfl:k=len:=by omega
 exact⟨zae (by rw[<-HL.out,List.take_length]),hbel⟩
theorem Tryz.infoByte:(Tryz.prog.info? 5).map (fun i=>(i.zero,i.size,i.bytes))=some (some (.int .u8 0),1,1):=by kernel_rfl
def vw(l:List Ch)(seen by_:Int):List Int:=(l.filter (za7 seen by_)).map (·.c)
def zf0(zs:List Int):List Value:=zs.map (Value.int .u8)
theorem qcm(l:List Ch)(x:Ch)(seen by_:Int):vw (l++[x]) seen by_=vw l seen by_++if za7 seen by_ x=true then [x.c]else []:=by
 unfold vw
 rw[List.filter_append]
 by_cases h:za7 seen by_ x=true<;>simp[h]
theorem qco(l:List Ch)(seen by_:Int):(vw l seen by_).length<=l.length:=by
 unfold vw
 have:=List.length_filter_le (za7 seen by_) l
 simpa using this
theorem zed{w':World}{base:Nat}{e:TypeId}{size:Nat}(h:w.ownsRow base e size v n xs)(hb:Below w.heap.size w w'):w'.ownsRow base e size v n xs:=
 h.kept (row:=none) ⟨hb.os,hb.tape,hb.output,hb.size,fun k hk _=>hb.block k hk⟩ (by cases h':v.ownBlock<;>simp)
theorem rel_view{w1 w2:World}{o o':Obj}(hbel:Below w.heap.size w wr)(hb1:Below (wr.alloc o).heap.size (wr.alloc o) w1)
 (hown:w1.ownsRow w.heap.size 5 1 v n xs) (hg:(w1.alloc o').grownBy w2 v.ownBlock):Below w.heap.size w w2:=by
 have h1:Below w.heap.size w w1:=bla (hbel.alloc (by have:=hbel.size;omega) _) hb1
 have h2:Below w.heap.size w (w1.alloc o'):=h1.alloc (by have:=h1.size;omega) _
 exact h2.grown hg (by have:=h2.size;omega) (fun k hk=>(hown.lt k hk).1)
theorem qcp(b off len cap:Nat)(l:List Ch)(seen by_:Int)(w:World)(hl:l.length=len)(hm:len<=1099511627776)(hr:Row w b off l):
 Calls Tryz.prog 139 #[.slice (some ⟨b,off,none⟩) len cap,.int .i64 seen,.int .i64 by_] w fun e w'=>
  ∃v,e= .returned v/\w'.ownsRow w.heap.size 5 1 v (vw l seen by_).length (zf0 (vw l seen by_))/\Below w.heap.size w w':=by
 have HR:=hid hr
 have HL:=hid hl
 have hb:=hr.lt
 clear hr hl
 obtain⟨i0,hi,hz0,hz1,hz2⟩:=info_parts Tryz.infoByte
 go_enter Tryz.func139,Tryz.ntmps139
 go_wp2
 go_loopw [7,12] (fun v i wr=>∃k:Nat,k<=len/\i= .int .i64 k/\wr.ownsRow w.heap.size 5 1 v (vw (l.take k) seen by_).length (zf0 (vw (l.take k) seen by_))/\Below w.heap.size w wr) (fun _ i _=>len-(intOf i).toNat)
 case atStart=>exact⟨0,Nat.zero_le _,rfl,World.ownsRow_nil _ _ _ _,Below.refl _ _⟩
 obtain⟨k,hk,rfl,hown,hbel⟩:=hrel
 by_cases hlt:k<len
 ·have hkl:k<l.length:=by rw[HL.out];exact hlt
  have hd:=qco (l.take k) seen by_
  have hle:(l.take k).length<=k:=List.length_take_le _ _
  have HN:Hid (vw (l.take (k+1)) seen by_=vw (l.take k) seen by_++if za7 seen by_ l[k]=true then [l[k].c]else []):=by rw[zcf l k hkl];exact qcm _ _ _ _
  obtain⟨h0,h1,h2,h3,h4,h5,h6⟩:=(HR.out.below hbel).at_ k hkl
  generalize l[k]=x at h0 h1 h2 h3 h4 h5 h6 HN
  generalize vw (l.take k) seen by_=zs at*
  have hzs:zs.length<=1099511627775:=by omega
  clear hd hle
  go_wp2_with fail
  refine(zjr x _ _ _).mono ?_
  rintro e w1 ⟨rfl,hb1⟩
  have HN':Hid (vw (l.take (k+1)) seen by_=zs++if zi7 x.by_ x.inn x.out x.gone seen by_=true then [x.c]else []):=HN
  have hown1:=zed (hown.alloc (.cells #[.int .u8 x.c,.int .i64 x.by_,.int .i64 x.no,.int .i64 x.k,.int .i64 x.inn,.int .i64 x.out,.int .i64 x.gone] 127)) hb1
  clear h0 h1 h2 h3 h4 h5 h6 HN hown
  cases hs:zi7 x.by_ x.inn x.out x.gone seen by_
  ·rw[hs]at HN'
   have hb2:Below w.heap.size w w1:=bla (hbel.alloc (by have:=hbel.size;omega) _) hb1
   clear hb1 hbel
   go_wp2
   go_roundw
   case rel=>exact⟨k+1,by omega,by go_num,by rw[HN'.out];simpa using hown1,hb2⟩
   case measure=>simp[intOf];omega
  rw[hs]at HN'
  obtain⟨hc,hf⟩:=zdp hb1
  go_wp2_with (at_builtin;refine wpList_append_own _ rfl (.tmp 20) (.tmp 23) 42 rfl w.heap.size 5 i0 (.int .u8 0) 1 1 Tryz.underlying42 hi hz0 hz1 hz2 rfl (by decide) _ _ _ rfl (hown1.alloc _) ⟨w1.heap.size,0,none⟩ 1 1 [.int .u8 x.c] rfl rfl ?c1 ?c2 ?c3 ?c4 ?c5 ?_)
  case c1=>
   intro j u hj
   match j,hj with
   | 0,hj=>simp at hj;subst hj;simp[Addr.add]
  case c2=>intro u hu;simp at hu;subst hu;rfl
  case c3=>unfold maxLen;omega
  case c4=>omega
  case c5=>have:=hb1.size;have:=hbel.size;simp at *; omega
  intro v' w2 hown' hgrow _
  have hb2:=rel_view hbel hb1 hown1 hgrow
  clear hgrow hown1 hbel hb1 hc hf
  go_wp2
  go_roundw
  case rel=>exact⟨k+1,by omega,by go_num,by rw[HN'.out];simpa [zf0]using hown',hb2⟩
  case measure=>simp[intOf];omega
 go_wp2
 go_ret
 obtain rfl:k=len:=by omega
 exact⟨_,rfl,by rw[<-HL.out,List.take_length]at hown;exact hown,hbel⟩
structure Step(F:Nat)(caps:Array Value)(b off:Nat)(l:List Ch)(I:Nat->World->Prop)(hit:Nat->Bool):Prop where
 row:∀k w,I k w->Row w b off l
 step:∀k (h:k<l.length) w,I k w->Calls Tryz.prog F (#[chV l[k]]++caps) w fun e w'=>e= .returned (.bool (hit k))/\I (k+1) w'
theorem no_step(hit:Nat->Bool)(k:Nat)(h:∀j,j<k->hit j=false)(hk:hit k=false):∀j,j<k+1->hit j=false:=by
 intro j hj
 by_cases e:j=k
 ·rw[e];exact hk
 exact h j (by omega)
theorem zfe(F:Nat)(caps:Array Value)(b off len cap:Nat)(l:List Ch)(I:Nat->World->Prop)(hit:Nat->Bool)(w:World)(hl:l.length=len)(hm:len<=281474976710656)
 (hcall:∀args w,Sem.run Tryz.prog (callFunc F args) w= .ok (.enter F args) w) (hS:Step F caps b off l I hit) (h0:I 0 w):
 Calls Tryz.prog 189 #[.slice (some ⟨b,off,none⟩) len cap,.func (Fn.func F) #[] caps] w fun e w'=>
  (∃k,k<len/\(∀j,j<k->hit j=false)/\hit k=true/\e= .returned (.int .i64 k)/\I (k+1) w')\/((∀j,j<len->hit j=false)/\e= .returned (.int .i64 (-1))/\I len w'):=by
 have HL:=hid hl
 have HI:=hid h0
 clear hl h0
 go_enter Tryz.func189,Tryz.ntmps189
 go_wp2
 go_loopw [8] (fun i wr=>∃k:Nat,k<=len/\i= .int .i64 k/\(∀j,j<k->hit j=false)/\Hid (I k wr)) (fun i _=>len-(intOf i).toNat)
 case atStart=>exact⟨0,Nat.zero_le _,rfl,fun j hj=>absurd hj (Nat.not_lt_zero _),HI⟩
 obtain⟨k,hk,rfl,hno,hik⟩:=hrel
 have HNO:=hid hno
 clear hno
 by_cases hlt:k<len
 ·have hkl:k<l.length:=by rw[HL.out];exact hlt
  obtain⟨h0,h1,h2,h3,h4,h5,h6⟩:=(hS.row k wr hik.out).at_ k hkl
  have HST:=hS.step k hkl wr hik.out
  have HST':Hid (Calls Tryz.prog F (#[chV l[k]]++caps) wr fun e w'=>e= .returned (.bool (hit k))/\I (k+1) w'):=HST
  clear HST
  generalize l[k]=x at h0 h1 h2 h3 h4 h5 h6 HST'
  go_wp2_with fail
  refine HST'.out.mono ?_
  rintro e w1 ⟨rfl,hi1⟩
  have HI1:=hid hi1
  clear hi1 hik h0 h1 h2 h3 h4 h5 h6 HST' hcall hS
  cases hh:hit k
  ·go_wp2
   go_roundw
   case rel=>exact⟨k+1,by omega,by go_num,no_step hit k HNO.out hh,HI1⟩
   case measure=>simp[intOf];omega
  go_wp2
  go_ret
  exact .inl ⟨k,hlt,HNO.out,hh,rfl,HI1.out⟩
 obtain rfl:k=len:=by omega
 clear hS hcall
 go_wp2
 go_ret
 exact .inr ⟨HNO.out,rfl,hik.out⟩
def zk5(a b:Ch):Bool:=decide (a.by_=b.by_/\a.no=b.no/\a.k=b.k)
theorem zz6(x y:Ch)(w:World):
 Calls Tryz.prog 217 #[chV x,chV y] w fun e w'=>e= .returned (.bool (zk5 x y))/\Below w.heap.size w w':=by
 obtain⟨c,b,no,k,i,o,g⟩:=x
 obtain⟨c',b',no',k',i',o',g'⟩:=y
 cases h1:(b==b')
 ·go_enter Tryz.func217,Tryz.ntmps217
  go_wp2
  go_ret
  refine⟨zbf ?_,((Below.refl _ _).alloc (Nat.le_refl _) _).alloc (by simp) _⟩
  simp only[beq_eq_false_iff_ne]at h1
  simp[zk5,h1]
 cases h2:(no==no')
 ·go_enter Tryz.func217,Tryz.ntmps217
  go_wp2
  go_ret
  refine⟨zbf ?_,((Below.refl _ _).alloc (Nat.le_refl _) _).alloc (by simp) _⟩
  simp only[beq_eq_false_iff_ne]at h2
  simp[zk5,h2]
 cases h3:(k==k')
 all_goals
  go_enter Tryz.func217,Tryz.ntmps217
  go_wp2
  go_ret
  refine⟨zbf ?_,((Below.refl _ _).alloc (Nat.le_refl _) _).alloc (by simp) _⟩
  simp only[beq_eq_false_iff_ne,beq_iff_eq]at h1 h2 h3
  simp[zk5,h1,h2,h3]
structure FInv(W:World)(y:Ch)(w:World):Prop where
 below:Below W.heap.size W w
 size:W.heap.size+1<=w.heap.size
 at_:At w W.heap.size 0 y
theorem FInv.after{W w w':World}{y:Ch}(h:FInv W y w)(hb:Below w.heap.size w w'):FInv W y w':=by
 have hs:=h.size
 obtain⟨hc,hf⟩:=zdp hb
 refine⟨h.below.trans (hb.mono (by omega)),Nat.le_trans hs hb.size,?_⟩
 have hx:=h.at_
 unfold At at hx⊢
 simp only[hc _ _ (show W.heap.size<w.heap.size by omega)]
 exact hx
theorem qfy(x y:Ch)(W w:World)(h:FInv W y w):
 Calls Tryz.prog 216 (#[chV x]++ #[.pointer (some ⟨W.heap.size,0,none⟩)]) w
  fun e w'=>e= .returned (.bool (zk5 x y))/\FInv W y w':=by
 have H:=hid h
 have hs:=h.size
 have ha:∀o j v,w.cell? ⟨W.heap.size,j,none⟩=some v->(w.alloc o).cell? ⟨W.heap.size,j,none⟩=some v:=fun o j v hv=>by
  rw[World.cell?_alloc_past _ _ _ (show W.heap.size<w.heap.size by omega)];exact hv
 obtain⟨a0,a1,a2,a3,a4,a5,a6⟩:=h.at_
 have c0:=fun o=>ha o _ _ a0
 have c1:=fun o=>ha o _ _ a1
 have c2:=fun o=>ha o _ _ a2
 have c3:=fun o=>ha o _ _ a3
 have c4:=fun o=>ha o _ _ a4
 have c5:=fun o=>ha o _ _ a5
 have c6:=fun o=>ha o _ _ a6
 simp only[Nat.zero_add]at c1 c2 c3 c4 c5 c6
 clear h ha a0 a1 a2 a3 a4 a5 a6
 go_enter Tryz.func216,Tryz.ntmps216
 go_wp2_with fail
 refine(zz6 x y _).mono ?_
 rintro e w1 ⟨rfl,hb1⟩
 have hb2:Below w.heap.size w w1:=bla ((Below.refl _ _).alloc (Nat.le_refl _) _) hb1
 have H1:=hid (H.out.after hb2)
 clear c0 c1 c2 c3 c4 c5 c6 hb1 hb2 H
 go_wp2
 go_ret
 exact⟨rfl,H1.out⟩
def zor(l:List Ch)(y:Ch)(k:Nat):Bool:=
 match l[k]? with
 |some x=>zk5 x y
 |none=>false
def qh2(l:List Ch)(y:Ch)(r:Int):Prop:=
 (∃k:Nat,k<l.length/\(∀j,j<k->zor l y j=false)/\zor l y k=true/\r=k)\/((∀j,j<l.length->zor l y j=false)/\r= -1)
theorem qfw(W:World)(b off:Nat)(l:List Ch)(y:Ch)(hr:Row W b off l):
 Step 216 #[.pointer (some ⟨W.heap.size,0,none⟩)] b off l (fun _ w=>FInv W y w) (zor l y):=by
 refine⟨fun k w h=>hr.below h.below,fun k hk w h=> ?_⟩
 refine(qfy l[k] y W w h).mono ?_
 rintro e w' ⟨rfl,h'⟩
 refine⟨zbf ?_,h'⟩
 unfold zor
 rw[List.getElem?_eq_getElem hk]
theorem qbr(w:World)(y:Ch):FInv w y (w.alloc (.cells #[.int .u8 y.c,.int .i64 y.by_,.int .i64 y.no,.int .i64 y.k,.int .i64 y.inn,.int .i64 y.out,.int .i64 y.gone] 127)):=by
 refine⟨(Below.refl _ _).alloc (Nat.le_refl _) _,by simp,?_⟩
 unfold At
 simp[go_sem]
theorem qgp:∀args w,Sem.run Tryz.prog (callFunc 216 args) w= .ok (.enter 216 args) w:=fun _ _=>by kernel_rfl
theorem qfx(b off len cap:Nat)(l:List Ch)(y:Ch)(w:World)(hl:l.length=len)(hm:len<=281474976710656)(hr:Row w b off l):
 Calls Tryz.prog 188 #[.slice (some ⟨b,off,none⟩) len cap,chV y] w fun e w'=>
  ∃r,e= .returned (.int .i64 r)/\qh2 l y r/\Below w.heap.size w w':=by
 have HL:=hid hl
 have HS:Hid _:=qbr w y
 have HT:Hid _:=qfw w b off l y hr
 clear hl hr
 have hmf:∀(fn:Fn) (first cap:Array Value) (w:World),(Instr.makeFunc fn first cap).run Tryz.prog w= .ok (.func fn first cap) w:=fun _ _ _ _=>rfl
 go_enter Tryz.func188,Tryz.ntmps188
 go_wp2_with fail
 refine(zfe 216 #[.pointer (some ⟨w.heap.size,0,none⟩)] b off len cap l _ _ _ HL.out hm qgp HT.out HS.out).mono ?_
 intro e w1 hres
 have H1:Hid _:=hres
 clear hres HT HS
 rcases H1.out with⟨k,hk,hno,hyes,rfl,hI⟩|⟨hno,rfl,hI⟩
 ·have H2:Hid _:=hno
  have H3:Hid _:=hyes
  have H4:Hid _:=hI
  clear H1 hno hyes hI
  go_wp2
  go_ret
  exact⟨(k:Int),rfl,.inl ⟨k,by rw[HL.out];exact hk,H2.out,H3.out,rfl⟩,H4.out.below⟩
 have H2:Hid _:=hno
 have H4:Hid _:=hI
 clear H1 hno hI
 go_wp2
 go_ret
 exact⟨-1,rfl,.inr ⟨by rw[HL.out];exact H2.out,rfl⟩,H4.out.below⟩
structure Dd where
 kind:Int
 by_:Int
 no:Int
 seen:Int
 at_:Int
 many:Int
 text:ByteArray
abbrev ddV(d:Dd):Value:= .agg #[.int .i64 d.kind,.int .i64 d.by_,.int .i64 d.no,.int .i64 d.seen,.int .i64 d.at_,.int .i64 d.many,.string d.text]
def zee(b:UInt8):Bool:=decide (32<=b.toNat/\b.toNat<=126)
def zci(s:ByteArray):Bool:=decide (1<=s.size/\s.size<=20)&&s.data.toList.all zee
def zcr(d:Dd):Bool:=wrB d.by_&&(zas d.no 1 120&&(zas d.seen 0 120&&zas d.at_ 0 200))
def zwt(d:Dd):Int:=if d.many≠0 then 3 else if zci d.text=true then 0 else 4
def zl3(d:Dd):Int:=if d.text.size≠0 then 3 else if zas d.many 1 200=true then 0 else 1
def za9(d:Dd):Int:=if d.kind≠1/\d.kind≠2 then 2 else if zcr d=false then 1 else if d.kind=1 then zwt d else zl3 d
theorem zav(s:ByteArray):s.data.toList.length=s.size:=rfl
theorem qft(s:ByteArray)(k:Nat)(h:k<s.size):s.data.toList[k]'h=s[k]:=rfl
theorem zlp(s:ByteArray)(k:Nat)(h:k<s.size):(s.data.toList.take (k+1)).all zee=((s.data.toList.take k).all zee&&zee s[k]):=by
 rw[List.take_add_one,List.getElem?_eq_getElem h,Option.toList_some,List.all_append,qft s k h,List.all_cons,List.all_nil,Bool.and_true]
theorem all_no(s:ByteArray)(k:Nat)(h:k<s.size)(hk:zee s[k]=false):s.data.toList.all zee=false:=by
 rw[List.all_eq_false]
 exact⟨s[k],by rw[<-qft s k h];exact List.getElem_mem _,by simp[hk]⟩
theorem ba_empty{s:ByteArray}(h:s.size=0):s=⟨#[]⟩:=by
 cases s with
 |mk d=>
  have:d.size=0:=h
  have:d= #[]:=Array.eq_empty_of_size_eq_zero this
  rw[this]
theorem zrk{a b:ByteArray}(h:a.data.toList=b.data.toList):a=b:=by
 cases a;cases b;simp at h;rw[h]
theorem zbi(a:ByteArray)(l:List UInt8):(a.toList==l)=decide (a=⟨l.toArray⟩):=by
 rw[ByteArray.toList_eq]
 by_cases h:a=⟨l.toArray⟩
 ·simp[h]
 have:a.data.toList≠l:=fun e=>h (zrk (by simpa using e))
 simp only[h,decide_false]
 exact beq_eq_false_iff_ne.2 this
theorem qgt(a b:ByteArray):(a.toList==b.toList)=decide (a=b):=by
 rw[ByteArray.toList_eq,ByteArray.toList_eq]
 by_cases h:a=b
 ·simp[h]
 have:a.data.toList≠b.data.toList:=fun e=>h (zrk e)
 simp only[h,decide_false]
 exact beq_eq_false_iff_ne.2 this
variable {x:Ch} {seen by_ g w v number out:Int} {l:List Ch} {d:Dd}
abbrev za3:Int:=1073741824
def zm9(d:Dd)(number:Int)(k:Nat)(b:UInt8):Ch:=⟨b.toNat,d.by_,d.no,k,number,0,0⟩
def zbb(d:Dd)(number:Int):Nat->List UInt8->List Ch
 |_,[]=>[]
 |k,b::r=>zm9 d number k b::zbb d number (k+1) r
def zez(d:Dd)(number:Int):List Ch:=zbb d number 0 d.text.data.toList
def zal(number out:Int):Int:=if number≠za3/\(out=0\/number<out)then number else out
def zex(by_ number:Int)(x:Ch):Ch:=⟨x.c,x.by_,x.no,x.k,x.inn,zal number x.out,x.gone+2 ^ by_.toNat⟩
def zaa(seen by_:Int):Nat->List Ch->Option Nat
 | 0,_=>some 0
 |_+1,[]=>none
 |n+1,x::r=>if za7 seen by_ x=true then(zaa seen by_ n r).map (· +1)else(zaa seen by_ (n+1) r).map (· +1)
def zbm(by_:Int):List Ch->Nat
 |[]=>0
 |x::r=>if x.inn=za3/\x.by_≠by_ then zbm by_ r+1 else 0
def zb7(l:List Ch)(d:Dd):Nat:=
 match zaa d.seen d.by_ d.at_.toNat l with
 |some p=>p+zbm d.by_ (l.drop p)
 |none=>0
def zby(d:Dd)(number:Int):Int->List Ch->List Ch
 |_,[]=>[]
 |k,x::r=>if za7 d.seen d.by_ x=true then(if d.at_<=k/\k<d.at_+d.many then zex d.by_ number x else x)::zby d number (k+1) r else x::zby d number k r
def doL(l:List Ch)(d:Dd)(number:Int):List Ch:=
 if d.kind=1 then l.take (zb7 l d)++(zez d number++l.drop (zb7 l d))else zby d number 0 l
theorem zyg(a b:List Ch)(seen by_:Int):vw (a++b) seen by_=vw a seen by_++vw b seen by_:=by
 simp[vw,List.filter_append]
theorem zc5(l:List Ch)(h:za7 seen by_ x=true):vw (x::l) seen by_=x.c::vw l seen by_:=by
 simp[vw,h]
theorem zcw(l:List Ch)(h:za7 seen by_ x=false):vw (x::l) seen by_=vw l seen by_:=by
 simp[vw,h]
theorem zix(l:List Ch)(seen by_:Int):((vw l seen by_).length:Int)=cnt l seen by_:=by
 simp[vw,cnt]
theorem qcn{l:List Ch}{seen by_:Int}(h:∀x∈l,za7 seen by_ x=false):vw l seen by_=[]:=by
 induction l with
 |nil=>rfl
 |cons x r ih=>rw[zcw r (h x (by simp)),ih (fun y hy=>h y (by simp[hy]))]
theorem zqz(d:Dd)(number seen by_:Int)(k:Nat)(b:UInt8)(h:d.by_≠by_)(hn:seen<number):za7 seen by_ (zm9 d number k b)=false:=by
 have h1:inB number d.by_ seen by_=false:=by
  rw[inB]
  refine decide_eq_false (fun e=> ?_)
  rcases e with e|e
  ·omega
  exact h e
 show(inB number d.by_ seen by_&& !zmz 0 0 seen by_)=false
 rw[h1]
 rfl
def nums(s:ByteArray):List Int:=s.data.toList.map fun b=>(b.toNat:Int)
theorem zdm{d:Dd}{number:Int}{x:Ch}:∀{k:Nat} {l:List UInt8},x∈zbb d number k l->∃j b,x=zm9 d number j b/\k<=j/\j<k+l.length/\b∈l
 |_,[],h=>by simp[zbb]at h
 |k,b::r,h=>by
  rw[zbb,List.mem_cons]at h
  rcases h with rfl|h
  ·exact⟨k,b,rfl,Nat.le_refl _,by simp,by simp⟩
  obtain⟨j,c,rfl,h1,h2,h3⟩:=zdm h
  exact⟨j,c,rfl,by omega,by simp;omega,by simp[h3]⟩
theorem qep(d:Dd)(number:Int):∀(k:Nat) (l:List UInt8),(zbb d number k l).map (·.c)=l.map fun b=>(b.toNat:Int)
 |_,[]=>rfl
 |k,b::r=>by rw[zbb,List.map_cons,qep d number (k+1) r,List.map_cons];rfl
theorem zgp(d:Dd)(number:Int):∀(k:Nat) (l:List UInt8),(zbb d number k l).length=l.length
 |_,[]=>rfl
 |k,b::r=>by rw[zbb,List.length_cons,zgp d number (k+1) r,List.length_cons]
theorem zj8(d:Dd)(number:Int)(b:UInt8):∀(k:Nat) (l:List UInt8),zbb d number k (l++[b])=zbb d number k l++[zm9 d number (k+l.length) b]
 |k,[]=>rfl
 |k,c::r=>by
  rw[List.cons_append,zbb,zj8 d number b (k+1) r,zbb,List.cons_append,List.length_cons,show k+1+r.length=k+(r.length+1) by omega]
theorem zg7(d:Dd)(number:Int):(zez d number).length=d.text.size:=by rw[zez,zgp,zav]
theorem zwy(d:Dd)(number seen by_:Int)(h:d.by_≠by_)(hn:seen<number):vw (zez d number) seen by_=[]:=by
 refine qcn (fun x hx=> ?_)
 obtain⟨j,b,rfl,_⟩:=zdm hx
 exact zqz d number seen by_ j b h hn
theorem zh4{seen by_:Int}:∀{n:Nat} {l:List Ch},n<=(vw l seen by_).length->∃p,zaa seen by_ n l=some p
 | 0,l,_=>⟨0,by cases l<;>rfl⟩
 |n+1,[],h=>by simp[vw]at h
 |n+1,x::r,h=>by
  rw[zaa]
  by_cases hx:za7 seen by_ x=true
  ·rw[zc5 r hx]at h
   obtain⟨p,hp⟩:=zh4 (n:=n) (l:=r) (by simpa using h)
   exact⟨p+1,by rw[if_pos hx,hp];rfl⟩
  rw[zcw r (by simpa using hx)]at h
  obtain⟨p,hp⟩:=zh4 (n:=n+1) (l:=r) h
  exact⟨p+1,by rw[if_neg hx,hp];rfl⟩
theorem zd4{seen by_:Int}:∀{n:Nat} {l:List Ch} {p:Nat},zaa seen by_ n l=some p->p<=l.length/\vw (l.take p) seen by_=(vw l seen by_).take n/\(vw l seen by_).take n=(vw (l.take p) seen by_)/\(vw (l.take p) seen by_).length=n
 | 0,l,p,h=>by
  obtain rfl:p=0:=by cases l<;>exact(Option.some.inj h).symm
  simp[vw]
 |n+1,[],p,h=>by cases h
 |n+1,x::r,p,h=>by
  rw[zaa]at h
  by_cases hx:za7 seen by_ x=true
  ·rw[if_pos hx]at h
   cases hb:zaa seen by_ n r with
   |none=>rw[hb]at h;cases h
   |some q=>
    rw[hb]at h
    obtain rfl:=Option.some.inj h
    obtain⟨h1,h2,_,h4⟩:=zd4 hb
    rw[List.take_succ_cons,zc5 _ hx,zc5 _ hx,h2]
    rw[h2]at h4
    refine⟨by simpa using h1,rfl,rfl,by simpa using h4⟩
  have hx':za7 seen by_ x=false:=by simpa using hx
  rw[if_neg hx]at h
  cases hb:zaa seen by_ (n+1) r with
  |none=>rw[hb]at h;cases h
  |some q=>
   rw[hb]at h
   obtain rfl:=Option.some.inj h
   obtain⟨h1,h2,_,h4⟩:=zd4 hb
   rw[List.take_succ_cons,zcw _ hx',zcw _ hx',h2]
   rw[h2]at h4
   exact⟨by simpa using h1,rfl,rfl,h4⟩
theorem znp(by_:Int):∀(l:List Ch),zbm by_ l<=l.length
 |[]=>Nat.le_refl _
 |x::r=>by
  rw[zbm]
  split
  ·have:=znp by_ r;simp;omega
  simp
theorem bit_add(hw:wrB w=true)(h:qcc g w=false)(v:Int)(hv:wrB v=true):qcc (g+2 ^ w.toNat) v=(decide (v=w)||qcc g v):=by
 have hw':0<=w/\w<=3:=by simpa [wrB]using hw
 have hv':0<=v/\v<=3:=by simpa [wrB]using hv
 unfold qcc at h⊢
 have h':¬g / 2 ^ w.toNat % 2=1:=by simpa using h
 rcases(show w=0\/w=1\/w=2\/w=3 by omega)with rfl|rfl|rfl|rfl<;>rcases(show v=0\/v=1\/v=2\/v=3 by omega)with rfl|rfl|rfl|rfl<;>
  (rw[Bool.eq_iff_iff];simp at h'⊢;try omega)
theorem zyl(hw:wrB w=true)(h:zce g w=false)(v:Int):zce (g+2 ^ w.toNat) v=(decide (v=w)||zce g v):=by
 rw[zce,hw,Bool.true_and]at h
 by_cases hv:wrB v=true
 ·rw[zce,zce,hv,Bool.true_and,Bool.true_and,bit_add hw h v hv]
 have hv':wrB v=false:=by simpa using hv
 have hne:v≠w:=fun e=>by rw[e,hw]at hv';cases hv'
 rw[zce,zce,hv',decide_eq_false hne]
 rfl
theorem qa2(hw:wrB w=true)(h:zce g w=false)(hg:g<=9223372036854775807):g+2 ^ w.toNat<=9223372036854775807:=by
 have hw':0<=w/\w<=3:=by simpa [wrB]using hw
 rw[zce,hw,Bool.true_and,qcc]at h
 have h':¬g / 2 ^ w.toNat % 2=1:=by simpa using h
 rcases(show w=0\/w=1\/w=2\/w=3 by omega)with rfl|rfl|rfl|rfl<;>(simp at h'⊢;omega)
theorem ze1(h:za7 seen by_ x=true):zce x.gone by_=false:=by
 simp only[za7,zi7,zmz,Bool.and_eq_true,Bool.not_eq_true',Bool.or_eq_false_iff]at h
 exact h.2.2
theorem qb5(hw:wrB by_=true)(h:zce x.gone by_=false)(hv:v≠by_):
 za7 seen v (zex by_ number x)=(inB x.inn x.by_ seen v&& !(decide (zal number x.out≠0/\zal number x.out<=seen)||zce x.gone v)):=by
 show(inB x.inn x.by_ seen v&& !(decide (zal number x.out≠0/\zal number x.out<=seen)||zce (x.gone+2 ^ by_.toNat) v))=_
 rw[zyl hw h,decide_eq_false hv,Bool.false_or]
theorem out_far(h:seen<number):decide (zal number out≠0/\zal number out<=seen)=decide (out≠0/\out<=seen):=by
 unfold zal
 by_cases hc:number≠za3/\(out=0\/number<out)
 ·rw[if_pos hc,decide_eq_false (by omega),decide_eq_false (by omega)]
 rw[if_neg hc]
theorem out_open:decide (zal za3 out≠0/\zal za3 out<=seen)=decide (out≠0/\out<=seen):=by
 unfold zal
 rw[if_neg (by simp)]
theorem zzh(hw:wrB by_=true)(h:zce x.gone by_=false)(hv:v≠by_)(hn:seen<number\/number=za3):za7 seen v (zex by_ number x)=za7 seen v x:=by
 rw[qb5 hw h hv]
 rcases hn with hn|rfl
 ·rw[out_far hn];rfl
 rw[out_open];rfl
theorem zgh(d:Dd)(number:Int):∀(l:List Ch) (k:Int),(zby d number k l).length=l.length
 |[],k=>rfl
 |x::r,k=>by
  rw[zby]
  split
  ·rw[List.length_cons,zgh d number r (k+1),List.length_cons]
  rw[List.length_cons,zgh d number r k,List.length_cons]
theorem zoe{d:Dd}{number seen v:Int}(hw:wrB d.by_=true)(hv:v≠d.by_)(hn:seen<number\/number=za3):∀(l:List Ch) (k:Int),vw (zby d number k l) seen v=vw l seen v
 |[],k=>rfl
 |x::r,k=>by
  rw[zby]
  by_cases hx:za7 d.seen d.by_ x=true
  ·rw[if_pos hx]
   have ih:=zoe hw hv hn r (k+1)
   have hy:∀y:Ch,za7 seen v y=za7 seen v x->y.c=x.c->vw (y::zby d number (k+1) r) seen v=vw (x::r) seen v:=by
    intro y h1 h2
    by_cases hs:za7 seen v x=true
    ·rw[zc5 _ (h1.trans hs),zc5 _ hs,ih,h2]
    have hs':za7 seen v x=false:=by simpa using hs
    rw[zcw _ (h1.trans hs'),zcw _ hs',ih]
   split
   ·exact hy _ (zzh hw (ze1 hx) hv hn) rfl
   exact hy _ rfl rfl
  rw[if_neg hx]
  have ih:=zoe hw hv hn r k
  by_cases hs:za7 seen v x=true
  ·rw[zc5 _ hs,zc5 _ hs,ih]
  have hs':za7 seen v x=false:=by simpa using hs
  rw[zcw _ hs',zcw _ hs',ih]
theorem zt3(x:Ch)(l:List Ch)(seen v:Int):cnt (x::l) seen v=(if za7 seen v x=true then 1 else 0)+cnt l seen v:=by
 unfold cnt
 by_cases h:za7 seen v x=true
 ·simp[h];omega
 simp[h]
def room(d:Dd)(k:Int):Int:=if k<d.at_ then d.many else if k<d.at_+d.many then d.at_+d.many-k else 0
theorem doL_far(hw:wrB d.by_=true)(hv:v≠d.by_)(hn:seen<number):vw (doL l d number) seen v=vw l seen v:=by
 by_cases hk:d.kind=1
 ·rw[doL,if_pos hk,zyg,zyg,zwy d number seen v (fun e=>hv e.symm) hn,List.nil_append,<-zyg,List.take_append_drop]
 rw[doL,if_neg hk]
 exact zoe hw hv (.inl hn) l 0
def tk(d:Dd)(number k:Int)(x:Ch):Ch:=if za7 d.seen d.by_ x=true/\d.at_<=k/\k<d.at_+d.many then zex d.by_ number x else x
def nx(d:Dd)(k:Int)(x:Ch):Int:=if za7 d.seen d.by_ x=true then k+1 else k
theorem zau(d:Dd)(number k:Int)(x:Ch)(r:List Ch):zby d number k (x::r)=tk d number k x::zby d number (nx d k x) r:=by
 rw[zby,tk,nx]
 by_cases hx:za7 d.seen d.by_ x=true
 ·rw[if_pos hx,if_pos hx]
  by_cases hc:d.at_<=k/\k<d.at_+d.many
  ·rw[if_pos hc,if_pos ⟨hx,hc⟩]
  rw[if_neg hc,if_neg (fun e=>hc e.2)]
 rw[if_neg hx,if_neg hx,if_neg (fun e=>hx e.1)]
theorem zyn{k:Int}(hw:wrB d.by_=true)(hv:v≠d.by_)(hn:seen<number\/number=za3):za7 seen v (tk d number k x)=za7 seen v x:=by
 unfold tk
 split
 ·rename_i h
  exact zzh hw (ze1 h.1) hv hn
 rfl
theorem zsy(ht:d.kind≠1->d.text.size=0):(doL l d number).length=l.length+d.text.size:=by
 by_cases hk:d.kind=1
 ·rw[doL,if_pos hk,List.length_append,List.length_append,zg7]
  have:=congrArg List.length (List.take_append_drop (zb7 l d) l)
  rw[List.length_append]at this
  omega
 rw[doL,if_neg hk,zgh,ht hk,Nat.add_zero]
variable {least seen by_:Int}
def ze4(least:Int)(x:Ch):Bool:=decide (x.out≠0/\x.out<=least)
def ofL(least:Int)(l:List Ch):List Ch:=l.filter fun x=> !ze4 least x
theorem zsc(least:Int)(a b:List Ch):ofL least (a++b)=ofL least a++ofL least b:=List.filter_append ..
theorem ofL_one(least:Int)(x:Ch):ofL least [x]=if ze4 least x=true then []else [x]:=by
 cases h:ze4 least x<;>simp[ofL,h]
theorem ofL_snoc(least:Int)(l:List Ch)(x:Ch):ofL least (l++[x])=ofL least l++if ze4 least x=true then []else [x]:=by
 rw[zsc,ofL_one]
theorem zze(least:Int)(l:List Ch):(ofL least l).length<=l.length:=List.length_filter_le ..
theorem zsb(least:Int)(l:List Ch)(k:Nat)(h:k<l.length):ofL least (l.take (k+1))=ofL least (l.take k)++if ze4 least l[k]=true then []else [l[k]]:=by
 rw[zcf l k h,ofL_snoc]
theorem of_more{less more:Int}(h:less<=more)(l:List Ch):ofL more (ofL less l)=ofL more l:=by
 unfold ofL
 rw[List.filter_filter]
 congr 1
 funext x
 by_cases h1:x.out≠0/\x.out<=less
 ·have h2:x.out≠0/\x.out<=more:=⟨h1.1,by omega⟩
  simp[ze4,h1,h2]
 simp only[ze4,h1,decide_false,Bool.not_false,Bool.and_true]
theorem zkv{x:Ch}(hs:least<=seen)(h:ze4 least x=true):za7 seen by_ x=false:=by
 rw[ze4,decide_eq_true_eq]at h
 have h2:x.out≠0/\x.out<=seen:=⟨h.1,by omega⟩
 simp[za7,zi7,zmz,h2]
theorem qe5(hs:least<=seen)(l:List Ch):(ofL least l).filter (za7 seen by_)=l.filter (za7 seen by_):=by
 unfold ofL
 rw[List.filter_filter]
 congr 1
 funext x
 cases h:ze4 least x
 ·simp
 simp[zkv hs h]
theorem qgi(by_:Int)(hs:least<=seen)(l:List Ch):cnt (ofL least l) seen by_=cnt l seen by_:=by
 unfold cnt;rw[qe5 hs]
theorem of_split(least:Int)(l:List Ch)(k:Nat):ofL least l=ofL least (l.take k)++ofL least (l.drop k):=by
 rw[<-zsc,List.take_append_drop]
def zlq(l:List Ch):Prop:=l.Pairwise fun x y=>¬(x.by_=y.by_/\x.no=y.no/\x.k=y.k)
theorem zlq.of{l:List Ch}(h:zlq l)(least:Int):zlq (ofL least l):=List.Pairwise.filter _ h
def zn0(x:Ch):Bool:=wrB x.by_&&decide (1<=x.no)&&zas x.k 0 19&&zas x.gone 0 15
def zgn(x:Ch)(log:Int):Bool:=((x.inn==1073741824)||zas x.inn 1 log)&&zas x.out 0 log
def qbq(x:Ch):Bool:=(x.out != 0)&&(decide (x.out<=x.inn)||(x.gone==0))
def zcu(x:Ch)(log:Int):Int:=if(zn0 x&&zgn x log)=true then(if qbq x=true then 3 else 0)else 1
theorem zj9(x:Ch)(w:World):
 Calls Tryz.prog 214 #[chV x] w fun e w'=>e= .returned (.bool (zn0 x))/\Below w.heap.size w w':=by
 obtain⟨c,b,no,k,i,o,g⟩:=x
 cases h1:wrB b
 ·go_enter Tryz.func214,Tryz.ntmps214
  go_wp2_with (first|(go_at_call 116;refine(zbj _ _).mono ?_;rintro e w' ⟨rfl,rfl⟩)|(go_at_call 161;refine(zg9 _ _ _ _).mono ?_;rintro e w' ⟨rfl,rfl⟩))
  go_ret
  exact⟨zbf (by simp[zn0,h1]),(Below.refl _ _).alloc (Nat.le_refl _) _⟩
 by_cases h2:1<=no
 ·cases h3:zas k 0 19
  all_goals
   go_enter Tryz.func214,Tryz.ntmps214
   go_wp2_with (first|(go_at_call 116;refine(zbj _ _).mono ?_;rintro e w' ⟨rfl,rfl⟩)|(go_at_call 161;refine(zg9 _ _ _ _).mono ?_;rintro e w' ⟨rfl,rfl⟩))
   go_ret
   exact⟨zbf (by simp[zn0,h1,h2,h3]),(Below.refl _ _).alloc (Nat.le_refl _) _⟩
 go_enter Tryz.func214,Tryz.ntmps214
 go_wp2_with (first|(go_at_call 116;refine(zbj _ _).mono ?_;rintro e w' ⟨rfl,rfl⟩)|(go_at_call 161;refine(zg9 _ _ _ _).mono ?_;rintro e w' ⟨rfl,rfl⟩))
 go_ret
 exact⟨zbf (by simp[zn0];intro _ h;omega),(Below.refl _ _).alloc (Nat.le_refl _) _⟩
theorem zgy(x:Ch)(log:Int)(w:World):
 Calls Tryz.prog 215 #[chV x,.int .i64 log] w fun e w'=>e= .returned (.bool (zgn x log))/\Below w.heap.size w w':=by
 obtain⟨c,b,no,k,i,o,g⟩:=x
 cases h1:(i==1073741824)
 ·cases h2:zas i 1 log
  all_goals
   go_enter Tryz.func215,Tryz.ntmps215
   go_wp2_with (go_at_call 161;refine(zg9 _ _ _ _).mono ?_;rintro e w' ⟨rfl,rfl⟩)
   go_ret
   exact⟨zbf (by simp[zgn,h1,h2]),(Below.refl _ _).alloc (Nat.le_refl _) _⟩
 go_enter Tryz.func215,Tryz.ntmps215
 go_wp2_with (go_at_call 161;refine(zg9 _ _ _ _).mono ?_;rintro e w' ⟨rfl,rfl⟩)
 go_ret
 exact⟨zbf (by simp[zgn,h1]),(Below.refl _ _).alloc (Nat.le_refl _) _⟩
theorem zvo(x:Ch)(log:Int)(w:World):
 Calls Tryz.prog 187 #[chV x,.int .i64 log] w fun e w'=>e= .returned (.int .i64 (zcu x log))/\Below w.heap.size w w':=by
 cases h1:zn0 x
 ·go_enter Tryz.func187,Tryz.ntmps187
  go_wp2_with fail
  refine(zj9 x _).mono ?_
  rintro e w1 ⟨rfl,hb⟩
  have HB:Hid (Below w.heap.size w w1):=bla ((Below.refl _ _).alloc (Nat.le_refl _) _) hb
  clear hb
  go_wp2
  go_ret
  exact⟨zae (by simp[zcu,h1]),HB.out⟩
 cases h2:zgn x log
 ·go_enter Tryz.func187,Tryz.ntmps187
  go_wp2_with fail
  refine(zj9 x _).mono ?_
  rintro e w1 ⟨rfl,hb⟩
  obtain⟨hc,hf⟩:=zdp hb
  go_wp2_with fail
  refine(zgy x _ _).mono ?_
  rintro e w2 ⟨rfl,hb2⟩
  have HB:Hid (Below w.heap.size w w2):=bla (bla ((Below.refl _ _).alloc (Nat.le_refl _) _) hb) hb2
  clear hb hb2 hc hf
  go_wp2
  go_ret
  exact⟨zae (by simp[zcu,h1,h2]),HB.out⟩
 cases h3:(x.out != 0)
 ·go_enter Tryz.func187,Tryz.ntmps187
  go_wp2_with fail
  refine(zj9 x _).mono ?_
  rintro e w1 ⟨rfl,hb⟩
  obtain⟨hc,hf⟩:=zdp hb
  go_wp2_with fail
  refine(zgy x _ _).mono ?_
  rintro e w2 ⟨rfl,hb2⟩
  have hz:w.heap.size<w1.heap.size:=by have:=hb.size;simp at this;omega
  obtain⟨hc2,hf2⟩:=zdp hb2
  have HB:Hid (Below w.heap.size w w2):=bla (bla ((Below.refl _ _).alloc (Nat.le_refl _) _) hb) hb2
  clear hb hb2 hf hf2
  go_wp2
  go_ret
  exact⟨zae (by simp[zcu,h1,h2,qbq,h3]),HB.out⟩
 by_cases h4:x.out<=x.inn
 ·go_enter Tryz.func187,Tryz.ntmps187
  go_wp2_with fail
  refine(zj9 x _).mono ?_
  rintro e w1 ⟨rfl,hb⟩
  obtain⟨hc,hf⟩:=zdp hb
  go_wp2_with fail
  refine(zgy x _ _).mono ?_
  rintro e w2 ⟨rfl,hb2⟩
  have hz:w.heap.size<w1.heap.size:=by have:=hb.size;simp at this;omega
  obtain⟨hc2,hf2⟩:=zdp hb2
  have HB:Hid (Below w.heap.size w w2):=bla (bla ((Below.refl _ _).alloc (Nat.le_refl _) _) hb) hb2
  clear hb hb2 hf hf2
  go_wp2
  go_ret
  exact⟨zae (by simp[zcu,h1,h2,qbq,h3,h4]),HB.out⟩
 cases h5:(x.gone==0)
 all_goals
  go_enter Tryz.func187,Tryz.ntmps187
  go_wp2_with fail
  refine(zj9 x _).mono ?_
  rintro e w1 ⟨rfl,hb⟩
  obtain⟨hc,hf⟩:=zdp hb
  go_wp2_with fail
  refine(zgy x _ _).mono ?_
  rintro e w2 ⟨rfl,hb2⟩
  have hz:w.heap.size<w1.heap.size:=by have:=hb.size;simp at this;omega
  obtain⟨hc2,hf2⟩:=zdp hb2
  have HB:Hid (Below w.heap.size w w2):=bla (bla ((Below.refl _ _).alloc (Nat.le_refl _) _) hb) hb2
  clear hb hb2 hf hf2
  go_wp2
  go_ret
  have h4':¬x.out<=x.inn:=by omega
  exact⟨zae (by simp[zcu,h1,h2,qbq,h3,h4',h5]),HB.out⟩
def zf4(l:List Ch)(k:Nat):Bool:=
 match l[k]? with
 |some x=>(l.take k).any (fun y=>zk5 y x)
 |none=>false
def zf7(l:List Ch)(log:Int)(k:Nat):Int:=
 match l[k]? with
 |some x=>if zcu x log≠0 then zcu x log else if zf4 l k=true then 6 else 0
 |none=>0
def zpt(l:List Ch)(log r:Int):Prop:=
 (200<l.length/\r=10)\/(l.length<=200/\((∃k:Nat,k<l.length/\(∀j,j<k->zf7 l log j=0)/\zf7 l log k=r/\r≠0)\/((∀j,j<l.length->zf7 l log j=0)/\r=0)))
theorem zxo{l:List Ch}{k:Nat}(hk:k<l.length){r:Int}(h:qh2 (l.take k) l[k] r):(0<=r↔zf4 l k=true)/\(r<0↔zf4 l k=false)/\ -1<=r/\r<=k:=by
 have hlen:(l.take k).length=k:=by simp;omega
 unfold zf4
 rw[List.getElem?_eq_getElem hk]
 rcases h with⟨j,hj,_,hs,rfl⟩|⟨hno,rfl⟩
 ·have ha:(l.take k).any (fun y=>zk5 y l[k])=true:=by
   rw[List.any_eq_true]
   unfold zor at hs
   rw[List.getElem?_eq_getElem hj]at hs
   exact⟨(l.take k)[j],List.getElem_mem hj,hs⟩
  rw[hlen]at hj
  exact⟨⟨fun _=>ha,fun _=>by omega⟩,⟨fun h=>by omega,fun h=>(Bool.noConfusion (ha.symm.trans h))⟩,by omega,by omega⟩
 have ha:(l.take k).any (fun y=>zk5 y l[k])=false:=by
  rw[List.any_eq_false]
  intro y hy
  obtain⟨j,hj,rfl⟩:=List.mem_iff_getElem.1 hy
  have:=hno j hj
  unfold zor at this
  rw[List.getElem?_eq_getElem hj]at this
  exact fun h=>Bool.noConfusion (this.symm.trans h)
 exact⟨⟨fun h=>by omega,fun h=>(Bool.noConfusion (ha.symm.trans h))⟩,⟨fun _=>ha,fun _=>by omega⟩,by omega,by omega⟩
theorem Row.take{w:World}{b off:Nat}{l:List Ch}(h:Row w b off l)(k:Nat):Row w b off (l.take k):=by
 refine⟨h.lt,fun i hi=> ?_⟩
 have hi':i<l.length:=by simp at hi;omega
 rw[List.getElem_take]
 exact h.at_ i hi'
theorem qbu(l:List Ch)(log:Int)(k:Nat)(h:∀j,j<k->zf7 l log j=0)(hk:zf7 l log k=0):∀j,j<k+1->zf7 l log j=0:=by
 intro j hj
 by_cases e:j=k
 ·rw[e];exact hk
 exact h j (by omega)
theorem qc3(b off len cap:Nat)(l:List Ch)(log:Int)(w:World)(hl:l.length=len)(hc:len<=cap)(hm:len<=281474976710656)(hr:Row w b off l):
 Calls Tryz.prog 157 #[.slice (some ⟨b,off,none⟩) len cap,.int .i64 log] w fun e w'=>∃r,e= .returned (.int .i64 r)/\zpt l log r/\Below w.heap.size w w':=by
 have HR:=hid hr
 have HL:=hid hl
 have hb:=hr.lt
 clear hr hl
 by_cases h200:200<len
 ·go_enter Tryz.func157,Tryz.ntmps157
  go_wp2
  go_ret
  exact⟨10,rfl,.inl ⟨by rw[HL.out];exact h200,rfl⟩,Below.refl _ _⟩
 have h200':decide (200<(len:Int))=false:=by simp;omega
 go_enter Tryz.func157,Tryz.ntmps157
 go_wp2
 go_loopw [13] (fun i wr=>∃k:Nat,k<=len/\i= .int .i64 k/\Hid (∀j,j<k->zf7 l log j=0)/\Below w.heap.size w wr) (fun i _=>len-(intOf i).toNat)
 case atStart=>exact⟨0,Nat.zero_le _,rfl,fun j hj=>absurd hj (Nat.not_lt_zero _),Below.refl _ _⟩
 obtain⟨k,hk,rfl,hno,hbel⟩:=hrel
 by_cases hlt:k<len
 ·have hkl:k<l.length:=by rw[HL.out];exact hlt
  have HF:Hid _:=fun r=> @zxo l k hkl r
  have HX:Hid (zf7 l log k=if zcu l[k] log≠0 then zcu l[k] log else if zf4 l k=true then 6 else 0):=by
   unfold Hid zf7
   rw[List.getElem?_eq_getElem hkl]
  have HRr:=hid (HR.out.below hbel)
  obtain⟨h0,h1,h2,h3,h4,h5,h6⟩:=HRr.out.at_ k hkl
  generalize l[k]=x at h0 h1 h2 h3 h4 h5 h6 HX HF
  go_wp2_with fail
  refine(zvo x _ _).mono ?_
  rintro e w1 ⟨rfl,hb1⟩
  by_cases hz:zcu x log=0
  ·have hz':(zcu x log != 0)=false:=by simp[hz]
   have HZ:=hid hz
   obtain⟨hc1,hf1⟩:=zdp hb1
   have hk0:(0:Int)<=(k:Int):=by omega
   have hkc:(k:Int)<=(cap:Int):=by omega
   have hb2:Below w.heap.size w w1:=bla (hbel.alloc (by have:=hbel.size;omega) _) hb1
   have HC:Hid (Calls Tryz.prog 188 #[.slice (some ⟨b,off,none⟩) k cap,chV x] w1.drew fun e w'=>∃r,e= .returned (.int .i64 r)/\qh2 (l.take k) x r/\Below w1.drew.heap.size w1.drew w'):=
    qfx b off k cap (l.take k) x w1.drew (by simp;omega) (by omega) ((HR.out.below hb2.drew).take k)
   clear h0 h1 h2 h3 h4 h5 h6 hz
   go_wp2_with fail
   go_region_with (go_at_call 188;refine HC.out.mono ?_;rintro e w2 ⟨r,rfl,hfi,hb3⟩)
   have HFI:=HF.out r hfi
   have HB4:=hid (bla hb2.drew hb3)
   clear hfi hb3 hb2 hb1 hc1 hf1 HC HF hbel hk0 hkc
   by_cases hr:0<=r
   ·have hs:=HFI.1.1 hr
    have HV:Hid (zf7 l log k=6):=by unfold Hid;rw[HX.out,if_neg (by rw[HZ.out];simp),if_pos hs]
    clear HFI hs
    go_wp2
    go_ret
    exact⟨6,rfl,.inr ⟨by rw[HL.out];omega,.inl ⟨k,by rw[HL.out];exact hlt,hno.out,HV.out,by decide⟩⟩,HB4.out⟩
   have hs:=HFI.2.1.1 (by omega)
   have HV:Hid (zf7 l log k=0):=by unfold Hid;rw[HX.out,if_neg (by rw[HZ.out];simp),if_neg (by rw[hs];simp)]
   clear HFI hs
   go_wp2
   go_roundw
   case rel=>exact⟨k+1,by omega,by go_num,qbu l log k hno.out HV.out,HB4.out⟩
   case measure=>simp[intOf];omega
  have hz':(zcu x log != 0)=true:=by simp[hz]
  have HZ:=hid hz
  have hb2:Below w.heap.size w w1:=bla (hbel.alloc (by have:=hbel.size;omega) _) hb1
  clear h0 h1 h2 h3 h4 h5 h6 hb1 hz HF
  go_wp2
  go_ret
  refine⟨zcu x log,rfl,.inr ⟨by rw[HL.out];omega,.inl ⟨k,by rw[HL.out];exact hlt,hno.out,?_,HZ.out⟩⟩,hb2⟩
  rw[HX.out,if_pos HZ.out]
 obtain rfl:k=len:=by omega
 go_wp2
 go_ret
 exact⟨0,rfl,.inr ⟨by rw[HL.out];omega,.inr ⟨by rw[HL.out];exact hno.out,rfl⟩⟩,hbel⟩
end Go.Proofs.YtcbnnfeelhlapadGreatDoor