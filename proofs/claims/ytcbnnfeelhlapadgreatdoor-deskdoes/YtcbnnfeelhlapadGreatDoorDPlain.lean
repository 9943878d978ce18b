/-
  zg6 mathematics of a byte's fate: which bit is in Gone, who knows what, who sees what. No walk.
-/
import Derived.WalkKit
import Derived.WalkSpells
import Derived.WalkLawsBesides
import Derived.Test.YtcbnnfeelhlapadGreatDoorRows
import Derived.Deep.QuietTactic
import Derived.BigQuiet
namespace Go.Proofs.YtcbnnfeelhlapadGreatDoor
set_option maxRecDepth 20000
set_option maxHeartbeats 400000
open Go.RowKit
structure Ch where
 c:Int
 by_:Int
 no:Int
 k:Int
 inn:Int
 out:Int
 gone:Int
def wrB(w:Int):Bool:=decide (0≤w∧w≤3)
def zaw(n lo hi:Int):Bool:=decide (lo≤n∧n≤hi)
def qcb(g w:Int):Bool:=decide (g / 2 ^ w.toNat % 2=1)
def zcd(g w:Int):Bool:=wrB w&&qcb g w
def inB(i b seen by_:Int):Bool:=decide (i≤seen∨b=by_)
def zls(o g seen by_:Int):Bool:=decide (o≠0∧o≤seen)||zcd g by_
def zi6(b i o g seen by_:Int):Bool:=inB i b seen by_&& !zls o g seen by_
theorem and_bit(n:Int)(k:Nat)(hk:k≤3):bits .and .i64 n (2 ^ k)=n / 2 ^ k % 2*2 ^ k:=by
 have h2:(BitVec.ofInt 64 (2 ^ k)).toNat=2 ^ k:=by
  rcases(show k=0∨k=1∨k=2∨k=3 by omega)with rfl|rfl|rfl|rfl<;>decide
 have key:(BitVec.ofInt 64 n &&& BitVec.ofInt 64 (2 ^ k)).toNat=(n % ((2 ^ 64:Nat):Int)).toNat / 2 ^ k % 2*2 ^ k:=by
  rw[BitVec.toNat_and,BitVec.toNat_ofInt,h2,nat_bit]
 show IntKind.i64.wrap ((BitVec.ofInt 64 n &&& BitVec.ofInt 64 (2 ^ k)).toNat:Nat)=_
 rw[key,IntKind.wrap_i64]
 rcases(show k=0∨k=1∨k=2∨k=3 by omega)with rfl|rfl|rfl|rfl<;>simp<;>omega
theorem qd6(g w:Int)(h0:0≤w)(h3:w≤3):(bits BinOp.and IntKind.i64 g (IntKind.i64.wrap (2 ^ w.toNat)) != 0)=zcd g w:=by
 obtain⟨k,rfl⟩:=Int.eq_ofNat_of_zero_le h0
 have hk:k≤3:=by omega
 have e:IntKind.i64.wrap ((2:Int) ^ (k:Int).toNat)=2 ^ k:=by
  rcases(show k=0∨k=1∨k=2∨k=3 by omega)with rfl|rfl|rfl|rfl<;>decide
 rw[e,and_bit g k hk]
 have hw:wrB (k:Int)=true:=by simp[wrB];omega
 simp only[zcd,qcb,hw,Bool.true_and,Int.toNat_natCast]
 rw[Bool.eq_iff_iff,bne_iff_ne,decide_eq_true_iff]
 rcases(show k=0∨k=1∨k=2∨k=3 by omega)with rfl|rfl|rfl|rfl<;>simp<;>omega
theorem zq6(g:Int)(k:Nat)(h:0≤g)(h':g≤9223372036854775807):0≤g / 2 ^ k∧g / 2 ^ k≤9223372036854775807:=by
 have hp:(0:Int)<2 ^ k:=Int.pow_pos (by decide)
 refine⟨Int.ediv_nonneg h (by omega),?_⟩
 have:=Int.ediv_le_self (2 ^ k) h
 omega
theorem half_pow(g:Int)(k:Nat):g / 2 ^ (k+1)=g / 2 ^ k / 2:=by
 rw[Int.pow_succ,Int.ediv_ediv_of_nonneg (Int.pow_nonneg (by decide))]
theorem took_end(g:Int)(m:Nat)(h:wrB (m:Int)=true):(g / 2 ^ m % 2==1)=zcd g m:=by
 rw[zcd,h,Bool.true_and,qcb,Int.toNat_natCast,Bool.eq_iff_iff]
 simp
theorem zti(g n:Int)(h:wrB n=true):(!zcd (-g-1) n)=zcd g n:=by
 have hn:0≤n∧n≤3:=by simpa [wrB]using h
 rw[zcd,zcd,h,Bool.true_and,Bool.true_and,qcb,qcb]
 rcases(show n=0∨n=1∨n=2∨n=3 by omega)with rfl|rfl|rfl|rfl<;>rw[Bool.eq_iff_iff]<;>simp<;>omega
theorem zrt(n:Int)(h:wrB n=true):(!zcd 9223372036854775807 n)=zcd (-9223372036854775808) n:=by
 have e:(9223372036854775807:Int)= - -9223372036854775808-1:=by omega
 rw[e]
 exact zti (-9223372036854775808) n h
theorem min_wrap:wrap64 (wrap64 9223372036854775808-1)=9223372036854775807:=by decide+kernel
theorem zds{W w1:World}(hb:Below W.heap.size W w1):(∀b o,b<W.heap.size→w1.cell? ⟨b,o,none⟩=W.cell? ⟨b,o,none⟩)∧(∀b o,b<W.heap.size→w1.frozen? ⟨b,o,none⟩=W.frozen? ⟨b,o,none⟩):=
 ⟨fun b o h=>hb.cell (p:=⟨b,o,none⟩) h,fun b o h=>hb.frozen (p:=⟨b,o,none⟩) h⟩
theorem bla{w W w1:World}(h:Below w.heap.size w W)(hb:Below W.heap.size W w1):Below w.heap.size w w1:=
 h.trans (hb.mono h.size)
theorem zbh{a b:Bool}(h:a=b):Ending.returned (.bool a)= .returned (.bool b):=by rw[h]
theorem zad{k:IntKind}{a b:Int}(h:a=b):Ending.returned (.int k a)= .returned (.int k b):=by rw[h]
theorem zg8(n lo hi:Int)(w:World):
 Calls Tryz.prog 161 #[.int .i64 n,.int .i64 lo,.int .i64 hi] w fun e w'=>e= .returned (.bool (zaw n lo hi))∧w'=w:=by
 by_cases h1:lo≤n
 ·by_cases h2:n≤hi
  ·go_enter Tryz.func161,Tryz.ntmps161
   go_wp2
   go_ret
   exact⟨by simp[zaw,h1,h2],rfl⟩
  ·go_enter Tryz.func161,Tryz.ntmps161
   go_wp2
   go_ret
   exact⟨by simp[zaw,h2],rfl⟩
 ·go_enter Tryz.func161,Tryz.ntmps161
  go_wp2
  go_ret
  exact⟨zbh (by simp[zaw];omega),rfl⟩
theorem zbl(n:Int)(w:World):
 Calls Tryz.prog 116 #[.int .i64 n] w fun e w'=>e= .returned (.bool (wrB n))∧w'=w:=by
 go_enter Tryz.func116,Tryz.ntmps116
 go_wp2_with (go_at_call 161;refine(zg8 _ _ _ _).mono ?_;rintro e w' ⟨rfl,rfl⟩)
 go_ret
 exact⟨rfl,rfl⟩
theorem za7(n:Int)(w:World):
 Calls Tryz.prog 57 #[.int .i64 n] w fun e w'=>e= .returned (.bool (wrB n))∧w'=w:=by
 by_cases h1:0≤n
 ·by_cases h2:n<4
  ·go_enter Tryz.func57,Tryz.ntmps57
   go_wp2
   go_ret
   exact⟨zbh (by simp[wrB];omega),rfl⟩
  ·go_enter Tryz.func57,Tryz.ntmps57
   go_wp2
   go_ret
   exact⟨zbh (by simp[wrB];omega),rfl⟩
 ·go_enter Tryz.func57,Tryz.ntmps57
  go_wp2
  go_ret
  exact⟨zbh (by simp[wrB];omega),rfl⟩
abbrev chV(x:Ch):Value:= .agg #[.int .u8 x.c,.int .i64 x.by_,.int .i64 x.no,.int .i64 x.k,.int .i64 x.inn,.int .i64 x.out,.int .i64 x.gone]
theorem in_any(x:Ch)(seen by_:Int)(w:World):
 Calls Tryz.prog 212 #[chV x,.int .i64 seen,.int .i64 by_] w fun e w'=>e= .returned (.bool (inB x.inn x.by_ seen by_))∧Below w.heap.size w w':=by
 obtain⟨c,b,no,k,i,o,g⟩:=x
 by_cases h1:i≤seen
 ·go_enter Tryz.func212,Tryz.ntmps212
  go_wp2
  go_ret
  exact⟨by simp[inB,h1],(Below.refl _ _).alloc (Nat.le_refl _) _⟩
 ·by_cases h2:b=by_
  ·have h2':(b==by_)=true:=by simp[h2]
   clear h2
   go_enter Tryz.func212,Tryz.ntmps212
   go_wp2
   go_ret
   exact⟨zbh (by simp[inB];exact .inr (by simpa using h2')),(Below.refl _ _).alloc (Nat.le_refl _) _⟩
  ·have h2':(b==by_)=false:=by simp[h2]
   go_enter Tryz.func212,Tryz.ntmps212
   go_wp2
   go_ret
   exact⟨by simp[inB,h1,h2],(Below.refl _ _).alloc (Nat.le_refl _) _⟩
theorem took_yes(x:Ch)(by_:Int)(w:World)(h:wrB by_=true):
 Calls Tryz.prog 230 #[chV x,.int .i64 by_] w fun e w'=>e= .returned (.bool (zcd x.gone by_))∧Below w.heap.size w w':=by
 obtain⟨c,b,no,k,i,o,g⟩:=x
 have hb:0≤by_∧by_≤3:=by simpa [wrB]using h
 obtain⟨h0,h3⟩:=hb
 go_enter Tryz.func230,Tryz.ntmps230
 go_wp2
 go_quiet ((go_at_call 116;exact Calls.quiet_of_same (zbl _ _)))
 go_wp2
 go_ret
 exact⟨zbh (qd6 _ _ h0 h3),below_drewN ((Below.refl _ _).alloc (Nat.le_refl _) _) _⟩
theorem took_no(x:Ch)(by_:Int)(w:World)(h:wrB by_=false):
 Calls Tryz.prog 230 #[chV x,.int .i64 by_] w fun e w'=>e= .returned (.bool (zcd x.gone by_))∧Below w.heap.size w w':=by
 obtain⟨c,b,no,k,i,o,g⟩:=x
 go_enter Tryz.func230,Tryz.ntmps230
 go_wp2
 go_quiet ((go_at_call 116;exact Calls.quiet_of_same (zbl _ _)))
 go_wp2
 go_ret
 exact⟨zbh (by simp[zcd,h]),below_drewN ((Below.refl _ _).alloc (Nat.le_refl _) _) _⟩
theorem zmu(x:Ch)(by_:Int)(w:World):
 Calls Tryz.prog 230 #[chV x,.int .i64 by_] w fun e w'=>e= .returned (.bool (zcd x.gone by_))∧Below w.heap.size w w':=by
 cases h:wrB by_
 ·exact took_no x by_ w h
 ·exact took_yes x by_ w h
theorem out_any(x:Ch)(seen by_:Int)(w:World):
 Calls Tryz.prog 213 #[chV x,.int .i64 seen,.int .i64 by_] w fun e w'=>e= .returned (.bool (zls x.out x.gone seen by_))∧Below w.heap.size w w':=by
 obtain⟨c,b,no,k,i,o,g⟩:=x
 by_cases h1:o=0
 ·have h1':(o != 0)=false:=by simp[h1]
  have H1:Hid (o=0):=h1
  clear h1
  go_enter Tryz.func213,Tryz.ntmps213
  go_wp2_with (go_at_call 230;refine(zmu ⟨c,b,no,k,i,o,g⟩ _ _).mono ?_;rintro e w' ⟨rfl,hb⟩)
  go_ret
  exact⟨zbh (by simp[zls,H1.out]),bla ((Below.refl _ _).alloc (Nat.le_refl _) _) hb⟩
 ·have h1':(o != 0)=true:=by simp[h1]
  have H1:Hid (o≠0):=h1
  clear h1
  by_cases h2:o≤seen
  ·go_enter Tryz.func213,Tryz.ntmps213
   go_wp2
   go_ret
   exact⟨zbh (by simp[zls,H1.out,h2]),(Below.refl _ _).alloc (Nat.le_refl _) _⟩
  ·go_enter Tryz.func213,Tryz.ntmps213
   go_wp2_with (go_at_call 230;refine(zmu ⟨c,b,no,k,i,o,g⟩ _ _).mono ?_;rintro e w' ⟨rfl,hb⟩)
   go_ret
   exact⟨zbh (by
    have:¬o≤seen:=by omega
    simp[zls,this]),bla ((Below.refl _ _).alloc (Nat.le_refl _) _) hb⟩
theorem zjq(x:Ch)(seen by_:Int)(w:World):
 Calls Tryz.prog 185 #[chV x,.int .i64 seen,.int .i64 by_] w fun e w'=>e= .returned (.bool (zi6 x.by_ x.inn x.out x.gone seen by_))∧Below w.heap.size w w':=by
 obtain⟨c,b,no,k,i,o,g⟩:=x
 cases hi:inB i b seen by_
 ·go_enter Tryz.func185,Tryz.ntmps185
  go_wp2_with (go_at_call 212;refine(in_any ⟨c,b,no,k,i,o,g⟩ _ _ _).mono ?_;rintro e w' ⟨rfl,hb⟩)
  go_ret
  exact⟨zbh (by simp[zi6,hi]),bla ((Below.refl _ _).alloc (Nat.le_refl _) _) hb⟩
 ·go_enter Tryz.func185,Tryz.ntmps185
  go_wp2_with fail
  refine(in_any ⟨c,b,no,k,i,o,g⟩ _ _ _).mono ?_
  rintro e w1 ⟨rfl,hb⟩
  obtain⟨hc,hf⟩:=zds hb
  go_wp2_with fail
  refine(out_any ⟨c,b,no,k,i,o,g⟩ _ _ _).mono ?_
  rintro e w2 ⟨rfl,hb2⟩
  clear hc hf
  go_wp2
  go_ret
  exact⟨zbh (by simp[zi6,hi]),bla (bla ((Below.refl _ _).alloc (Nat.le_refl _) _) hb) hb2⟩
theorem qat(g n:Int)(w:World)(h:wrB n=false):
 Calls Tryz.prog 150 #[.int .i64 g,.int .i64 n] w fun e w'=>e= .returned (.bool (zcd g n))∧w'=w:=by
 go_enter Tryz.func150,Tryz.ntmps150
 go_wp2_with (go_at_call 57;refine(za7 _ _).mono ?_;rintro e w' ⟨rfl,rfl⟩)
 go_ret
 exact⟨zbh (by simp[zcd,h]),rfl⟩
theorem zkj(g n:Int)(w:World)(h:wrB n=true)(hg:0≤g)(hg':g≤9223372036854775807):
 Calls Tryz.prog 150 #[.int .i64 g,.int .i64 n] w fun e w'=>e= .returned (.bool (zcd g n))∧w'=w:=by
 have hn:0≤n∧n≤3:=by simpa [wrB]using h
 obtain⟨n0,n3⟩:=hn
 obtain⟨m,rfl⟩:=Int.eq_ofNat_of_zero_le n0
 go_enter Tryz.func150,Tryz.ntmps150
 go_wp2_with (go_at_call 57;refine(za7 _ _).mono ?_;rintro e w' ⟨rfl,rfl⟩)
 go_loop [0,5] (fun t i=>∃k:Nat,k≤m∧i= .int .i64 k∧t= .int .i64 (g / 2 ^ k)) (fun _ i=>m-(intOf i).toNat)
 case atStart=>exact⟨0,Nat.zero_le _,rfl,by simp⟩
 case round=>
  obtain⟨k,hk,rfl,rfl⟩:=hrel
  have hd:=zq6 g k hg hg'
  obtain⟨hd0,hd1⟩:=hd
  by_cases hlt:k<m
  ·go_wp2
   go_round
   case rel=>exact⟨k+1,by omega,by go_num,by rw[half_pow]⟩
   case measure=>simp[intOf];omega
  ·go_wp2
   go_ret
   obtain rfl:k=m:=by omega
   exact⟨zbh (took_end g k h),rfl⟩
theorem zwq(g n:Int)(w:World)(h:wrB n=true)(hg:g<0)(hg': -9223372036854775808≤g):
 Calls Tryz.prog 150 #[.int .i64 g,.int .i64 n] w fun e w'=>e= .returned (.bool (zcd g n))∧w'=w:=by
 by_cases hm:g= -9223372036854775808
 ·subst hm
  go_enter Tryz.func150,Tryz.ntmps150
  go_wp2_with fail
  refine(za7 _ _).mono ?_
  rintro e w' ⟨rfl,rfl⟩
  go_wp2_with fail
  rw[min_wrap]
  refine(zkj 9223372036854775807 _ _ h (by omega) (by omega)).mono ?_
  rintro e w' ⟨rfl,rfl⟩
  go_wp2
  go_ret
  exact⟨zbh (zrt n h),rfl⟩
 ·go_enter Tryz.func150,Tryz.ntmps150
  go_wp2_with fail
  refine(za7 _ _).mono ?_
  rintro e w' ⟨rfl,rfl⟩
  go_wp2_with fail
  refine(zkj _ _ _ h (by omega) (by omega)).mono ?_
  rintro e w' ⟨rfl,rfl⟩
  go_wp2
  go_ret
  exact⟨zbh (zti g n h),rfl⟩
theorem zkk(g n:Int)(w:World)(hg: -9223372036854775808≤g)(hg':g≤9223372036854775807):
 Calls Tryz.prog 150 #[.int .i64 g,.int .i64 n] w fun e w'=>e= .returned (.bool (zcd g n))∧w'=w:=by
 cases h:wrB n
 ·exact qat g n w h
 ·by_cases h0:0≤g
  ·exact zkj g n w h h0 hg'
  ·exact zwq g n w h (by omega) hg
def za5(seen by_:Int)(x:Ch):Bool:=zi6 x.by_ x.inn x.out x.gone seen by_
def cnt(l:List Ch)(seen by_:Int):Int:=((l.filter (za5 seen by_)).length:Int)
def At(w:World)(b o:Nat)(x:Ch):Prop:=
 w.cell? ⟨b,o,none⟩=some (.int .u8 x.c)∧w.cell? ⟨b,o+1,none⟩=some (.int .i64 x.by_)∧w.cell? ⟨b,o+2,none⟩=some (.int .i64 x.no)∧
 w.cell? ⟨b,o+3,none⟩=some (.int .i64 x.k)∧w.cell? ⟨b,o+4,none⟩=some (.int .i64 x.inn)∧w.cell? ⟨b,o+5,none⟩=some (.int .i64 x.out)∧
 w.cell? ⟨b,o+6,none⟩=some (.int .i64 x.gone)
structure Row(w:World)(b off:Nat)(l:List Ch):Prop where
 lt:b<w.heap.size
 at_:∀i (h:i<l.length),At w b (off+i*7) l[i]
theorem Row.below{w wr:World}{b off:Nat}{l:List Ch}(h:Row w b off l)(hb:Below w.heap.size w wr):Row wr b off l:=by
 refine⟨Nat.lt_of_lt_of_le h.lt hb.size,fun i hi=> ?_⟩
 have hc:=(zds hb).1
 have hx:=h.at_ i hi
 unfold At at hx⊢
 simp only[hc _ _ h.lt]
 exact hx
theorem zcj{α:Type}(l:List α)(k:Nat)(h:k<l.length):l.take (k+1)=l.take k++[l[k]]:=
 List.take_succ_eq_append_getElem h
theorem zig(l:List Ch)(x:Ch)(seen by_:Int):cnt (l++[x]) seen by_=cnt l seen by_+if za5 seen by_ x=true then 1 else 0:=by
 unfold cnt
 rw[List.filter_append]
 by_cases h:za5 seen by_ x=true<;>simp[h]
theorem zna(l:List Ch)(seen by_:Int):0≤cnt l seen by_∧cnt l seen by_≤l.length:=by
 unfold cnt
 have:=List.length_filter_le (za5 seen by_) l
 omega
theorem qby(b off len cap:Nat)(l:List Ch)(seen by_:Int)(w:World)(hl:l.length=len)(hm:len≤281474976710656)(hr:Row w b off l):
 Calls Tryz.prog 231 #[.slice (some ⟨b,off,none⟩) len cap,.int .i64 seen,.int .i64 by_] w fun e w'=>e= .returned (.int .i64 (cnt l seen by_))∧Below w.heap.size w w':=by
 have HR:Hid (Row w b off l):=hr
 have HL:Hid (l.length=len):=hl
 have hb:=hr.lt
 clear hr hl
 go_enter Tryz.func231,Tryz.ntmps231
 go_wp2
 go_loopw [7,12] (fun n i wr=>∃k:Nat,k≤len∧i= .int .i64 k∧n= .int .i64 (cnt (l.take k) seen by_)∧Below w.heap.size w wr) (fun _ i _=>len-(intOf i).toNat)
 case atStart=>exact⟨0,Nat.zero_le _,rfl,rfl,Below.refl _ _⟩
 case round=>
  obtain⟨k,hk,rfl,rfl,hbel⟩:=hrel
  by_cases hlt:k<len
  ·have hkl:k<l.length:=by rw[HL.out];exact hlt
   have hd:=zna (l.take k) seen by_
   have hle:(l.take k).length≤k:=List.length_take_le _ _
   have HN:Hid (cnt (l.take (k+1)) seen by_=cnt (l.take k) seen by_+if za5 seen by_ l[k]=true then 1 else 0):=by rw[zcj l k hkl];exact zig _ _ _ _
   obtain⟨h0,h1,h2,h3,h4,h5,h6⟩:=(HR.out.below hbel).at_ k hkl
   generalize l[k]=x at h0 h1 h2 h3 h4 h5 h6 HN
   generalize cnt (l.take k) seen by_=n at*
   go_wp2_with fail
   refine(zjq x _ _ _).mono ?_
   rintro e w1 ⟨rfl,hb1⟩
   have hb2:Below w.heap.size w w1:=bla (hbel.alloc (by have:=hbel.size;omega) _) hb1
   have HN':Hid (cnt (l.take (k+1)) seen by_=n+if zi6 x.by_ x.inn x.out x.gone seen by_=true then 1 else 0):=HN
   clear h0 h1 h2 h3 h4 h5 h6 hb1 HN
   cases hs:zi6 x.by_ x.inn x.out x.gone seen by_
   all_goals
    rw[hs]at HN'
    go_wp2
    go_roundw
    case rel=>exact⟨k+1,by omega,by go_num,by rw[HN'.out];simp,hb2⟩
    case measure=>simp[intOf];omega
  ·go_wp2
   go_ret
   obtain rfl:k=len:=by omega
   exact⟨zad (by rw[←HL.out,List.take_length]),hbel⟩
theorem Tryz.infoByte:(Tryz.prog.info? 5).map (fun i=>(i.zero,i.size,i.bytes))=some (some (.int .u8 0),1,1):=by kernel_rfl
def vw(l:List Ch)(seen by_:Int):List Int:=(l.filter (za5 seen by_)).map (·.c)
def zen(zs:List Int):List Value:=zs.map (Value.int .u8)
theorem qcl(l:List Ch)(x:Ch)(seen by_:Int):vw (l++[x]) seen by_=vw l seen by_++if za5 seen by_ x=true then [x.c]else []:=by
 unfold vw
 rw[List.filter_append]
 by_cases h:za5 seen by_ x=true<;>simp[h]
theorem qcn(l:List Ch)(seen by_:Int):(vw l seen by_).length≤l.length:=by
 unfold vw
 have:=List.length_filter_le (za5 seen by_) l
 simpa using this
theorem zeh{w w':World}{base:Nat}{e:TypeId}{size:Nat}{v:Value}{n:Nat}{xs:List Value}(h:w.ownsRow base e size v n xs)(hb:Below w.heap.size w w'):w'.ownsRow base e size v n xs:=
 h.kept (row:=none) ⟨hb.os,hb.tape,hb.output,hb.size,fun k hk _=>hb.block k hk⟩ (by cases h':v.ownBlock<;>simp)
theorem rel_view{w wr w1 w2:World}{o o':Obj}{v:Value}{n:Nat}{xs:List Value}(hbel:Below w.heap.size w wr)(hb1:Below (wr.alloc o).heap.size (wr.alloc o) w1)
 (hown:w1.ownsRow w.heap.size 5 1 v n xs) (hg:(w1.alloc o').grownBy w2 v.ownBlock):Below w.heap.size w w2:=by
 have h1:Below w.heap.size w w1:=bla (hbel.alloc (by have:=hbel.size;omega) _) hb1
 have h2:Below w.heap.size w (w1.alloc o'):=h1.alloc (by have:=h1.size;omega) _
 exact h2.grown hg (by have:=h2.size;omega) (fun k hk=>(hown.lt k hk).1)
theorem qco(b off len cap:Nat)(l:List Ch)(seen by_:Int)(w:World)(hl:l.length=len)(hm:len≤1099511627776)(hr:Row w b off l):
 Calls Tryz.prog 139 #[.slice (some ⟨b,off,none⟩) len cap,.int .i64 seen,.int .i64 by_] w fun e w'=>
  ∃v,e= .returned v∧w'.ownsRow w.heap.size 5 1 v (vw l seen by_).length (zen (vw l seen by_))∧Below w.heap.size w w':=by
 have HR:Hid (Row w b off l):=hr
 have HL:Hid (l.length=len):=hl
 have hb:=hr.lt
 clear hr hl
 obtain⟨i0,hi,hz0,hz1,hz2⟩:=info_parts Tryz.infoByte
 go_enter Tryz.func139,Tryz.ntmps139
 go_wp2
 go_loopw [7,12] (fun v i wr=>∃k:Nat,k≤len∧i= .int .i64 k∧wr.ownsRow w.heap.size 5 1 v (vw (l.take k) seen by_).length (zen (vw (l.take k) seen by_))∧Below w.heap.size w wr) (fun _ i _=>len-(intOf i).toNat)
 case atStart=>exact⟨0,Nat.zero_le _,rfl,World.ownsRow_nil _ _ _ _,Below.refl _ _⟩
 case round=>
  obtain⟨k,hk,rfl,hown,hbel⟩:=hrel
  by_cases hlt:k<len
  ·have hkl:k<l.length:=by rw[HL.out];exact hlt
   have hd:=qcn (l.take k) seen by_
   have hle:(l.take k).length≤k:=List.length_take_le _ _
   have HN:Hid (vw (l.take (k+1)) seen by_=vw (l.take k) seen by_++if za5 seen by_ l[k]=true then [l[k].c]else []):=by rw[zcj l k hkl];exact qcl _ _ _ _
   obtain⟨h0,h1,h2,h3,h4,h5,h6⟩:=(HR.out.below hbel).at_ k hkl
   generalize l[k]=x at h0 h1 h2 h3 h4 h5 h6 HN
   generalize vw (l.take k) seen by_=zs at*
   have hzs:zs.length≤1099511627775:=by omega
   clear hd hle
   go_wp2_with fail
   refine(zjq x _ _ _).mono ?_
   rintro e w1 ⟨rfl,hb1⟩
   have HN':Hid (vw (l.take (k+1)) seen by_=zs++if zi6 x.by_ x.inn x.out x.gone seen by_=true then [x.c]else []):=HN
   have hown1:=zeh (hown.alloc (.cells #[.int .u8 x.c,.int .i64 x.by_,.int .i64 x.no,.int .i64 x.k,.int .i64 x.inn,.int .i64 x.out,.int .i64 x.gone] 127)) hb1
   clear h0 h1 h2 h3 h4 h5 h6 HN hown
   cases hs:zi6 x.by_ x.inn x.out x.gone seen by_
   ·rw[hs]at HN'
    have hb2:Below w.heap.size w w1:=bla (hbel.alloc (by have:=hbel.size;omega) _) hb1
    clear hb1 hbel
    go_wp2
    go_roundw
    case rel=>exact⟨k+1,by omega,by go_num,by rw[HN'.out];simpa using hown1,hb2⟩
    case measure=>simp[intOf];omega
   ·rw[hs]at HN'
    obtain⟨hc,hf⟩:=zds hb1
    go_wp2_with (at_builtin;refine wpList_append_own _ rfl (.tmp 20) (.tmp 23) 42 rfl w.heap.size 5 i0 (.int .u8 0) 1 1 Tryz.underlying42 hi hz0 hz1 hz2 rfl (by decide) _ _ _ rfl (hown1.alloc _) ⟨w1.heap.size,0,none⟩ 1 1 [.int .u8 x.c] rfl rfl ?c1 ?c2 ?c3 ?c4 ?c5 ?_)
    case c1=>
     intro j u hj
     match j,hj with
     | 0,hj=>simp at hj;subst hj;simp[Addr.add]
    case c2=>intro u hu;simp at hu;subst hu;rfl
    case c3=>unfold maxLen;omega
    case c4=>omega
    case c5=>have:=hb1.size;have:=hbel.size;simp at *; omega
    ·intro v' w2 hown' hgrow _
     have hb2:=rel_view hbel hb1 hown1 hgrow
     clear hgrow hown1 hbel hb1 hc hf
     go_wp2
     go_roundw
     case rel=>exact⟨k+1,by omega,by go_num,by rw[HN'.out];simpa [zen]using hown',hb2⟩
     case measure=>simp[intOf];omega
  ·go_wp2
   go_ret
   obtain rfl:k=len:=by omega
   exact⟨_,rfl,by rw[←HL.out,List.take_length]at hown;exact hown,hbel⟩
structure Step(F:Nat)(caps:Array Value)(b off:Nat)(l:List Ch)(I:Nat→World→Prop)(hit:Nat→Bool):Prop where
 row:∀k w,I k w→Row w b off l
 step:∀k (h:k<l.length) w,I k w→Calls Tryz.prog F (#[chV l[k]]++caps) w fun e w'=>e= .returned (.bool (hit k))∧I (k+1) w'
theorem no_step(hit:Nat→Bool)(k:Nat)(h:∀j,j<k→hit j=false)(hk:hit k=false):∀j,j<k+1→hit j=false:=by
 intro j hj
 by_cases e:j=k
 ·rw[e];exact hk
 ·exact h j (by omega)
theorem zfi(F:Nat)(caps:Array Value)(b off len cap:Nat)(l:List Ch)(I:Nat→World→Prop)(hit:Nat→Bool)(w:World)(hl:l.length=len)(hm:len≤281474976710656)
 (hcall:∀args w,Sem.run Tryz.prog (callFunc F args) w= .ok (.enter F args) w) (hS:Step F caps b off l I hit) (h0:I 0 w):
 Calls Tryz.prog 189 #[.slice (some ⟨b,off,none⟩) len cap,.func (Fn.func F) #[] caps] w fun e w'=>
  (∃k,k<len∧(∀j,j<k→hit j=false)∧hit k=true∧e= .returned (.int .i64 k)∧I (k+1) w')∨((∀j,j<len→hit j=false)∧e= .returned (.int .i64 (-1))∧I len w'):=by
 have HL:Hid (l.length=len):=hl
 have HI:Hid (I 0 w):=h0
 clear hl h0
 go_enter Tryz.func189,Tryz.ntmps189
 go_wp2
 go_loopw [8] (fun i wr=>∃k:Nat,k≤len∧i= .int .i64 k∧(∀j,j<k→hit j=false)∧Hid (I k wr)) (fun i _=>len-(intOf i).toNat)
 case atStart=>exact⟨0,Nat.zero_le _,rfl,fun j hj=>absurd hj (Nat.not_lt_zero _),HI⟩
 case round=>
  obtain⟨k,hk,rfl,hno,hik⟩:=hrel
  have HNO:Hid (∀j,j<k→hit j=false):=hno
  clear hno
  by_cases hlt:k<len
  ·have hkl:k<l.length:=by rw[HL.out];exact hlt
   obtain⟨h0,h1,h2,h3,h4,h5,h6⟩:=(hS.row k wr hik.out).at_ k hkl
   have HST:=hS.step k hkl wr hik.out
   have HST':Hid (Calls Tryz.prog F (#[chV l[k]]++caps) wr fun e w'=>e= .returned (.bool (hit k))∧I (k+1) w'):=HST
   clear HST
   generalize l[k]=x at h0 h1 h2 h3 h4 h5 h6 HST'
   go_wp2_with fail
   refine HST'.out.mono ?_
   rintro e w1 ⟨rfl,hi1⟩
   have HI1:Hid (I (k+1) w1):=hi1
   clear hi1 hik h0 h1 h2 h3 h4 h5 h6 HST' hcall hS
   cases hh:hit k
   ·go_wp2
    go_roundw
    case rel=>exact⟨k+1,by omega,by go_num,no_step hit k HNO.out hh,HI1⟩
    case measure=>simp[intOf];omega
   ·go_wp2
    go_ret
    exact .inl ⟨k,hlt,HNO.out,hh,rfl,HI1.out⟩
  ·obtain rfl:k=len:=by omega
   clear hS hcall
   go_wp2
   go_ret
   exact .inr ⟨HNO.out,rfl,hik.out⟩
def zk4(a b:Ch):Bool:=decide (a.by_=b.by_∧a.no=b.no∧a.k=b.k)
theorem zz4(x y:Ch)(w:World):
 Calls Tryz.prog 217 #[chV x,chV y] w fun e w'=>e= .returned (.bool (zk4 x y))∧Below w.heap.size w w':=by
 obtain⟨c,b,no,k,i,o,g⟩:=x
 obtain⟨c',b',no',k',i',o',g'⟩:=y
 cases h1:(b==b')
 ·go_enter Tryz.func217,Tryz.ntmps217
  go_wp2
  go_ret
  refine⟨zbh ?_,((Below.refl _ _).alloc (Nat.le_refl _) _).alloc (by simp) _⟩
  simp only[beq_eq_false_iff_ne]at h1
  simp[zk4,h1]
 ·cases h2:(no==no')
  ·go_enter Tryz.func217,Tryz.ntmps217
   go_wp2
   go_ret
   refine⟨zbh ?_,((Below.refl _ _).alloc (Nat.le_refl _) _).alloc (by simp) _⟩
   simp only[beq_eq_false_iff_ne]at h2
   simp[zk4,h2]
  ·cases h3:(k==k')
   all_goals
    go_enter Tryz.func217,Tryz.ntmps217
    go_wp2
    go_ret
    refine⟨zbh ?_,((Below.refl _ _).alloc (Nat.le_refl _) _).alloc (by simp) _⟩
    simp only[beq_eq_false_iff_ne,beq_iff_eq]at h1 h2 h3
    simp[zk4,h1,h2,h3]
structure FInv(W:World)(y:Ch)(w:World):Prop where
 below:Below W.heap.size W w
 size:W.heap.size+1≤w.heap.size
 at_:At w W.heap.size 0 y
theorem FInv.after{W w w':World}{y:Ch}(h:FInv W y w)(hb:Below w.heap.size w w'):FInv W y w':=by
 have hs:=h.size
 obtain⟨hc,hf⟩:=zds hb
 refine⟨h.below.trans (hb.mono (by omega)),Nat.le_trans hs hb.size,?_⟩
 have hx:=h.at_
 unfold At at hx⊢
 simp only[hc _ _ (show W.heap.size<w.heap.size by omega)]
 exact hx
theorem qfw(x y:Ch)(W w:World)(h:FInv W y w):
 Calls Tryz.prog 216 (#[chV x]++ #[.pointer (some ⟨W.heap.size,0,none⟩)]) w
  fun e w'=>e= .returned (.bool (zk4 x y))∧FInv W y w':=by
 have H:Hid (FInv W y w):=h
 have hs:=h.size
 have ha:∀o j v,w.cell? ⟨W.heap.size,j,none⟩=some v→(w.alloc o).cell? ⟨W.heap.size,j,none⟩=some v:=fun o j v hv=>by
  rw[World.cell?_alloc_past _ _ _ (show W.heap.size<w.heap.size by omega)];exact hv
 obtain⟨a0,a1,a2,a3,a4,a5,a6⟩:=h.at_
 have c0:=fun o=>ha o _ _ a0
 have c1:=fun o=>ha o _ _ a1
 have c2:=fun o=>ha o _ _ a2
 have c3:=fun o=>ha o _ _ a3
 have c4:=fun o=>ha o _ _ a4
 have c5:=fun o=>ha o _ _ a5
 have c6:=fun o=>ha o _ _ a6
 simp only[Nat.zero_add]at c1 c2 c3 c4 c5 c6
 clear h ha a0 a1 a2 a3 a4 a5 a6
 go_enter Tryz.func216,Tryz.ntmps216
 go_wp2_with fail
 refine(zz4 x y _).mono ?_
 rintro e w1 ⟨rfl,hb1⟩
 have hb2:Below w.heap.size w w1:=bla ((Below.refl _ _).alloc (Nat.le_refl _) _) hb1
 have H1:Hid (FInv W y w1):=H.out.after hb2
 clear c0 c1 c2 c3 c4 c5 c6 hb1 hb2 H
 go_wp2
 go_ret
 exact⟨rfl,H1.out⟩
def zot(l:List Ch)(y:Ch)(k:Nat):Bool:=
 match l[k]? with
 |some x=>zk4 x y
 |none=>false
def qh0(l:List Ch)(y:Ch)(r:Int):Prop:=
 (∃k:Nat,k<l.length∧(∀j,j<k→zot l y j=false)∧zot l y k=true∧r=k)∨((∀j,j<l.length→zot l y j=false)∧r= -1)
theorem qfu(W:World)(b off:Nat)(l:List Ch)(y:Ch)(hr:Row W b off l):
 Step 216 #[.pointer (some ⟨W.heap.size,0,none⟩)] b off l (fun _ w=>FInv W y w) (zot l y):=by
 refine⟨fun k w h=>hr.below h.below,fun k hk w h=> ?_⟩
 refine(qfw l[k] y W w h).mono ?_
 rintro e w' ⟨rfl,h'⟩
 refine⟨zbh ?_,h'⟩
 unfold zot
 rw[List.getElem?_eq_getElem hk]
theorem qbq(w:World)(y:Ch):FInv w y (w.alloc (.cells #[.int .u8 y.c,.int .i64 y.by_,.int .i64 y.no,.int .i64 y.k,.int .i64 y.inn,.int .i64 y.out,.int .i64 y.gone] 127)):=by
 refine⟨(Below.refl _ _).alloc (Nat.le_refl _) _,by simp,?_⟩
 unfold At
 simp[go_sem]
theorem qgn:∀args w,Sem.run Tryz.prog (callFunc 216 args) w= .ok (.enter 216 args) w:=fun _ _=>by kernel_rfl
theorem qfv(b off len cap:Nat)(l:List Ch)(y:Ch)(w:World)(hl:l.length=len)(hm:len≤281474976710656)(hr:Row w b off l):
 Calls Tryz.prog 188 #[.slice (some ⟨b,off,none⟩) len cap,chV y] w fun e w'=>
  ∃r,e= .returned (.int .i64 r)∧qh0 l y r∧Below w.heap.size w w':=by
 have HL:Hid (l.length=len):=hl
 have HS:Hid _:=qbq w y
 have HT:Hid _:=qfu w b off l y hr
 clear hl hr
 have hmf:∀(fn:Fn) (first cap:Array Value) (w:World),(Instr.makeFunc fn first cap).run Tryz.prog w= .ok (.func fn first cap) w:=fun _ _ _ _=>rfl
 go_enter Tryz.func188,Tryz.ntmps188
 go_wp2_with fail
 refine(zfi 216 #[.pointer (some ⟨w.heap.size,0,none⟩)] b off len cap l _ _ _ HL.out hm qgn HT.out HS.out).mono ?_
 intro e w1 hres
 have H1:Hid _:=hres
 clear hres HT HS
 rcases H1.out with⟨k,hk,hno,hyes,rfl,hI⟩|⟨hno,rfl,hI⟩
 ·have H2:Hid _:=hno
  have H3:Hid _:=hyes
  have H4:Hid _:=hI
  clear H1 hno hyes hI
  go_wp2
  go_ret
  exact⟨(k:Int),rfl,.inl ⟨k,by rw[HL.out];exact hk,H2.out,H3.out,rfl⟩,H4.out.below⟩
 ·have H2:Hid _:=hno
  have H4:Hid _:=hI
  clear H1 hno hI
  go_wp2
  go_ret
  exact⟨-1,rfl,.inr ⟨by rw[HL.out];exact H2.out,rfl⟩,H4.out.below⟩
structure Dd where
 kind:Int
 by_:Int
 no:Int
 seen:Int
 at_:Int
 many:Int
 text:ByteArray
abbrev ddV(d:Dd):Value:= .agg #[.int .i64 d.kind,.int .i64 d.by_,.int .i64 d.no,.int .i64 d.seen,.int .i64 d.at_,.int .i64 d.many,.string d.text]
def zei(b:UInt8):Bool:=decide (32≤b.toNat∧b.toNat≤126)
def zck(s:ByteArray):Bool:=decide (1≤s.size∧s.size≤20)&&s.data.toList.all zei
def zcv(d:Dd):Bool:=wrB d.by_&&(zaw d.no 1 120&&(zaw d.seen 0 120&&zaw d.at_ 0 200))
def zwt(d:Dd):Int:=if d.many≠0 then 3 else if zck d.text=true then 0 else 4
def zl4(d:Dd):Int:=if d.text.size≠0 then 3 else if zaw d.many 1 200=true then 0 else 1
def za6(d:Dd):Int:=if d.kind≠1∧d.kind≠2 then 2 else if zcv d=false then 1 else if d.kind=1 then zwt d else zl4 d
theorem zay(s:ByteArray):s.data.toList.length=s.size:=rfl
theorem qfr(s:ByteArray)(k:Nat)(h:k<s.size):s.data.toList[k]'h=s[k]:=rfl
theorem zlp(s:ByteArray)(k:Nat)(h:k<s.size):(s.data.toList.take (k+1)).all zei=((s.data.toList.take k).all zei&&zei s[k]):=by
 rw[List.take_add_one,List.getElem?_eq_getElem h,Option.toList_some,List.all_append,qfr s k h,List.all_cons,List.all_nil,Bool.and_true]
theorem all_no(s:ByteArray)(k:Nat)(h:k<s.size)(hk:zei s[k]=false):s.data.toList.all zei=false:=by
 rw[List.all_eq_false]
 exact⟨s[k],by rw[←qfr s k h];exact List.getElem_mem _,by simp[hk]⟩
theorem ba_empty{s:ByteArray}(h:s.size=0):s=⟨#[]⟩:=by
 cases s with
 |mk d=>
  have:d.size=0:=h
  have:d= #[]:=Array.eq_empty_of_size_eq_zero this
  rw[this]
theorem zri{a b:ByteArray}(h:a.data.toList=b.data.toList):a=b:=by
 cases a;cases b;simp at h;rw[h]
theorem zbk(a:ByteArray)(l:List UInt8):(a.toList==l)=decide (a=⟨l.toArray⟩):=by
 rw[ByteArray.toList_eq]
 by_cases h:a=⟨l.toArray⟩
 ·simp[h]
 ·have:a.data.toList≠l:=fun e=>h (zri (by simpa using e))
  simp only[h,decide_false]
  exact beq_eq_false_iff_ne.2 this
theorem qgr(a b:ByteArray):(a.toList==b.toList)=decide (a=b):=by
 rw[ByteArray.toList_eq,ByteArray.toList_eq]
 by_cases h:a=b
 ·simp[h]
 ·have:a.data.toList≠b.data.toList:=fun e=>h (zri e)
  simp only[h,decide_false]
  exact beq_eq_false_iff_ne.2 this
end Go.Proofs.YtcbnnfeelhlapadGreatDoor