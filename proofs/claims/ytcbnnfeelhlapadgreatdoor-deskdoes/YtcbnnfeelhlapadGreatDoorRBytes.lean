/-
  WDo, RSees, DRange, DFault, RBytes.
-/
import Derived.Test.YtcbnnfeelhlapadGreatDoorWSteps
namespace Go.Proofs.YtcbnnfeelhlapadGreatDoor
set_option maxHeartbeats 4000000
set_option maxRecDepth 20000
open Go.RowKit
variable {w:World} {P base:Nat} {me seen:Int}
structure WBox(P:Nat)(me seen:Int)(B:Nat)(w:World):Prop where
 lt:B<w.heap.size
 at_:w.cell? ⟨B,0,none⟩=some (.pointer (some ⟨P,0,none⟩))
 pl:P<w.heap.size
 me:w.cell? ⟨P,0,none⟩=some (.int .i64 me)
 seen:w.cell? ⟨P,2,none⟩=some (.int .i64 seen)
theorem WBox.low{w':World}{B:Nat}(h:WBox P me seen B w)(hB:B<base)(hP:P<base)(hb:Below base w w'):WBox P me seen B w':=
 ⟨Nat.lt_of_lt_of_le h.lt hb.size,by rw[hb.cell (p:=⟨B,0,none⟩) hB];exact h.at_,Nat.lt_of_lt_of_le h.pl hb.size,by rw[hb.cell (p:=⟨P,0,none⟩) hP];exact h.me,by rw[hb.cell (p:=⟨P,2,none⟩) hP];exact h.seen⟩
theorem zq3(x:Ch)(P B:Nat)(me seen:Int)(w:World)(h:WBox P me seen B w):
 Calls Tryz.prog 222 (#[chV x]++ #[.pointer (some ⟨B,0,none⟩)]) w fun e w'=>e= .returned (.bool (!za7 seen me x))/\Below w.heap.size w w':=by
 have HW:=hid h
 have HI:Hid (Below w.heap.size w (w.alloc (zqd x))):=za2 _ _
 have HX:Hid (At (w.alloc (zqd x)) w.heap.size 0 x):=by refine⟨?_,?_,?_,?_,?_,?_,?_⟩<;>simp[go_sem]
 obtain⟨xc,xb,xn,xk,xi,xo,xg⟩:=x
 clear h
 go_enter Tryz.func222,Tryz.ntmps222
 go_wp2
 refine wrs (fun wk=>Below (w.heap.size+1) (w.alloc (zqd ⟨xc,xb,xn,xk,xi,xo,xg⟩)) wk) (fun i=>i==9) (fun wk=>Below (w.heap.size+1) (w.alloc (zqd ⟨xc,xb,xn,xk,xi,xo,xg⟩)) wk) (by kernel_rfl) (by kernel_rfl) (by kernel_rfl) (fun _ h=>h) (((Below.refl _ _).drew)) ?_
 refine wss rfl (fun K hK=> ?_)
 go_simp
 refine⟨chV ⟨xc,xb,xn,xk,xi,xo,xg⟩,fun wk hwk=> ?_,hK _ ?_⟩
 ·have hx:=(CBox.low (B:=w.heap.size) (base:=w.heap.size+1) ⟨by simp,HX.out⟩ (Nat.lt_succ_self _) hwk).at_
  obtain⟨c0,c1,c2,c3,c4,c5,c6⟩:=hx
  simp only[Nat.zero_add]at c0 c1 c2 c3 c4 c5 c6
  go_simp
 clear hK K
 refine wss rfl (fun K hK=> ?_)
 go_simp
 refine⟨.pointer (some ⟨P,0,none⟩),fun wk hwk=> ?_,hK _ ?_⟩
 ·have hb:=(HW.out.low (base:=w.heap.size) HW.out.lt HW.out.pl (HI.out.trans (hwk.mono (by omega))))
  have c:=hb.at_
  go_simp
 iterate 2 (clear hK K;refine wss rfl (fun K hK=> ?_);go_simp;refine⟨_,fun _ _=>rfl,hK _ ?_⟩)
 clear hK K
 refine wss rfl (fun K hK=> ?_)
 go_simp
 refine⟨.int .i64 seen,fun wk hwk=> ?_,hK _ ?_⟩
 ·have hb:=(HW.out.low (base:=w.heap.size) HW.out.lt HW.out.pl (HI.out.trans (hwk.mono (by omega))))
  have c:=hb.seen
  go_simp
 clear hK K
 refine wss rfl (fun K hK=> ?_)
 go_simp
 refine⟨.pointer (some ⟨P,0,none⟩),fun wk hwk=> ?_,hK _ ?_⟩
 ·have hb:=(HW.out.low (base:=w.heap.size) HW.out.lt HW.out.pl (HI.out.trans (hwk.mono (by omega))))
  have c:=hb.at_
  go_simp
 iterate 2 (clear hK K;refine wss rfl (fun K hK=> ?_);go_simp;refine⟨_,fun _ _=>rfl,hK _ ?_⟩)
 clear hK K
 refine wss rfl (fun K hK=> ?_)
 go_simp
 refine⟨.int .i64 me,fun wk hwk=> ?_,hK _ ?_⟩
 ·have hb:=(HW.out.low (base:=w.heap.size) HW.out.lt HW.out.pl (HI.out.trans (hwk.mono (by omega))))
  have c:=hb.me
  go_simp
 clear hK K
 refine wsp rfl rfl (fun u=>u= .bool (za7 seen me ⟨xc,xb,xn,xk,xi,xo,xg⟩)) (fun u wk=>Below w.heap.size w wk/\Below (w.heap.size+1) (w.alloc (zqd ⟨xc,xb,xn,xk,xi,xo,xg⟩)) wk) ⟨_,rfl⟩ (fun _ _ h=>h.2) (fun wk hwk=> ?_) (fun v9 hv9=> ?_)
 ·go_simp
  refine(zjr ⟨xc,xb,xn,xk,xi,xo,xg⟩ seen me wk).mono ?_
  rintro e w5 ⟨rfl,hb⟩
  exact⟨_,rfl,rfl,bla (HI.out.trans (hwk.mono (by omega))) hb,hwk.trans (hb.mono (by have:=hwk.size;simp at this;omega))⟩
 subst hv9
 iterate 2 (refine wss rfl (fun K hK=> ?_);go_simp;refine⟨_,fun _ _=>rfl,hK _ ?_⟩;clear hK K)
 refine wsn (fun w9 hw9=> ?_)
 have H9:Hid _:=hw9
 clear hw9
 go_wp2
 go_ret
 exact⟨rfl,H9.out.1⟩
theorem qgo:∀args w,Sem.run Tryz.prog (callFunc 222 args) w= .ok (.enter 222 args) w:=fun _ _=>by kernel_rfl
theorem zwn(P B base:Nat)(me seen:Int)(hB:B<base)(hP:P<base):zyb 222 #[.pointer (some ⟨B,0,none⟩)] (fun x=> !za7 seen me x) base (WBox P me seen B):=
 ⟨qgo,fun x w h=>zq3 x P B me seen w h,fun _ _ h hb=>h.low hB hP hb⟩
theorem zwp(a:Option Addr)(len cap i j:Nat)(hij:i<=j)(hj:j<=cap)(w:World):(Instr.sliceAt 91 (.slice a len cap) (some (.int .i64 i)) (some (.int .i64 j)) none).run Tryz.prog w= .ok (sliced a i j cap 7) w:=by
 rw[run_sliceAt_slice _ _ _ _ _ _ zhi,run_slice_lh _ _ _ _ _ zhi _ _ _ _ (by omega) (by omega) (by omega),zmj,zok]
 rfl
theorem lst_mid{w:World}{a:Option Addr}{cap:Nat}{l:List Ch}(h:Lst w (.slice a l.length cap) l){i j:Nat}(hij:i<=j)(hj:j<=l.length):Lst w (sliced a i j cap 7) ((l.drop i).take (j-i)):=by
 have h1:=zia h hj
 have e:(l.take j).length=j:=by rw[List.length_take];omega
 have e1:sliced a 0 j cap 7= .slice (if cap=0 then a else a.map (·.add (0*7))) (l.take j).length cap:=by
  unfold sliced
  rw[e,Nat.sub_zero,Nat.sub_zero]
 rw[e1]at h1
 have h2:=zib h1 (k:=i) (by rw[e];exact hij)
 have e2:sliced (if cap=0 then a else a.map (·.add (0*7))) i (l.take j).length cap 7=sliced a i j cap 7:=by
  unfold sliced
  rw[e]
  by_cases hc:cap=i
  ·rw[if_pos hc,if_pos hc]
   by_cases h0:cap=0
   ·rw[if_pos h0]
   rw[if_neg h0]
   cases a with
   |none=>rfl
   |some ad=>simp[Addr.add_zero']
  rw[if_neg hc,if_neg hc]
  by_cases h0:cap=0
  ·rw[if_pos h0]
  rw[if_neg h0]
  cases a with
  |none=>rfl
  |some ad=>simp[Addr.add_zero']
 rw[e2,List.drop_take]at h2
 exact h2
theorem zxp(seen me:Int)(l:List Ch):(l.filter fun x=> !(!za7 seen me x))=l.filter (za7 seen me):=by
 apply List.filter_congr
 intro x _
 simp
theorem zu6{S:Nat->Prop}{lv ov:Value}{tvs:List Value}{l:List Ch}{es:List Dd}{ts:List (List Ch)}{next sent:Int}(h:zd3 w base S P lv ov tvs l es ts me next seen sent)(hl:l.length<=1000)(i m:Nat)(him:i+m<=(l.filter (za7 seen me)).length):
 Calls Tryz.prog 192 #[.pointer (some ⟨P,0,none⟩),.int .i64 i,.int .i64 m] w fun e w'=>∃v',e= .returned v'/\Own w' w.heap.size v' (((l.filter (za7 seen me)).drop i).take m)/\Below w.heap.size w w':=by
 have HB0:Hid (Below w.heap.size w (w.alloc (.cells #[.pointer (some ⟨P,0,none⟩)] 56))):=za2 _ _
 have HA1:=hid (h.below HB0.out)
 have hPlt:=h.cells.lt
 have HWB:Hid (WBox P me seen w.heap.size (w.alloc (.cells #[.pointer (some ⟨P,0,none⟩)] 56))):=⟨by simp,by simp[go_sem],by simp;omega,HA1.out.cells.me,HA1.out.cells.seen⟩
 have hfl:(l.filter (za7 seen me)).length<=1000:=Nat.le_trans (List.length_filter_le _ _) hl
 have hmf:∀(fn:Fn) (first cap:Array Value) (w:World),(Instr.makeFunc fn first cap).run Tryz.prog w= .ok (.func fn first cap) w:=fun _ _ _ _=>rfl
 have HPL:=hid hPlt
 clear h
 go_enter Tryz.func192,Tryz.ntmps192
 go_wp2_with fail
 refine(chars_pw HA1.out hl).mono ?_
 rintro e w1 ⟨v1,rfl,ho1,hb1⟩
 have HO1:Hid (Own w1 (w.heap.size+1) v1 l):=by
  have e1:(w.alloc (.cells #[.pointer (some ⟨P,0,none⟩)] 56)).heap.size=w.heap.size+1:=by simp
  rw[<-e1];exact ho1
 have HW1:Hid (WBox P me seen w.heap.size w1):=HWB.out.low (base:=(w.alloc (.cells #[.pointer (some ⟨P,0,none⟩)] 56)).heap.size) HWB.out.lt HWB.out.pl hb1
 have HB1:=hid (bla HB0.out hb1)
 have hs1:w.heap.size+1<=w1.heap.size:=by have:=hb1.size;simpa using this
 have c0:=HW1.out.at_
 clear ho1 hb1 HWB HA1 HB0
 go_wp2_with fail
 refine(zka (zwn P w.heap.size (w.heap.size+1) me seen (Nat.lt_succ_self _) (by have:=HPL.out;omega)) HO1.out hs1 hl HW1.out).mono ?_
 rintro e w2 ⟨v2,rfl,ho2,hb2⟩
 rw[zxp]at ho2
 have HB2:Hid (Below w.heap.size w w2):=HB1.out.trans (hb2.mono (by omega))
 obtain⟨va,vcap,rfl,hvc⟩:=ho2.lst.len
 have HL2:=hid ho2.lst
 have HMV:Hid (∀w,(Instr.sliceAt 91 (.slice va (l.filter (za7 seen me)).length vcap) (some (.int .i64 i)) (some (.int .i64 ((i:Int)+m))) none).run Tryz.prog w= .ok (sliced va i (i+m) vcap 7) w):=fun w=>by
  have:=zwp va (l.filter (za7 seen me)).length vcap i (i+m) (by omega) (by omega) w
  simpa using this
 have HLM:Hid (Lst w2 (sliced va i (i+m) vcap 7) (((l.filter (za7 seen me)).drop i).take m)):=by
  have:=lst_mid HL2.out (i:=i) (j:=i+m) (by omega) him
  rw[show i+m-i=m by omega]at this
  exact this
 have HLN:Hid ((((l.filter (za7 seen me)).drop i).take m).length<=100000):=by show _<=_;rw[List.length_take,List.length_drop];omega
 have hsv:=HMV.out
 obtain⟨sa,sl,sc,hsl⟩:∃sa sl sc,sliced va i (i+m) vcap 7= .slice sa sl sc:=⟨_,_,_,rfl⟩
 rw[hsl]at hsv
 rw[hsl]at HLM
 clear ho2 hb2 HO1 HW1 HB1 hmf c0 HMV hsl
 generalize (l.filter (za7 seen me)).length=fl at*
 go_wp2_with fail
 refine(zhw HLM.out HLN.out).mono ?_
 rintro e w3 ⟨v3,rfl,ho3,hb3⟩
 have HR:Hid (Own w3 w.heap.size v3 (((l.filter (za7 seen me)).drop i).take m)/\Below w.heap.size w w3):=⟨ho3.mono HB2.out.size,bla HB2.out hb3⟩
 clear ho3 hb3 HLM HLN hsv HL2
 go_wp2
 go_ret
 exact⟨_,rfl,HR.out⟩
theorem zp3(x:Ch)(seen by_:Int)(w:World):
 Calls Tryz.prog 105 #[chV x,.int .i64 seen,.int .i64 by_] w fun e w'=>e= .returned (.bool (inB x.inn x.by_ seen by_))/\Below w.heap.size w w':=by
 obtain⟨c,b,no,k,i,o,g⟩:=x
 by_cases h2:b=by_
 ·have h2':(b==by_)=true:=by simp[h2]
  have H2:=hid h2
  clear h2
  go_enter Tryz.func105,Tryz.ntmps105
  go_wp2
  go_ret
  exact⟨zbf (by simp[inB,H2.out]),(Below.refl _ _).alloc (Nat.le_refl _) _⟩
 have h2':(b==by_)=false:=by simp[h2]
 have H2:=hid h2
 clear h2
 go_enter Tryz.func105,Tryz.ntmps105
 go_wp2
 go_ret
 exact⟨zbf (by have:=H2.out;simp[inB,this]),(Below.refl _ _).alloc (Nat.le_refl _) _⟩
theorem zut(x:Ch)(seen by_:Int)(w:World)(h0:0<=x.out)(hg: -9223372036854775808<=x.gone)(hg':x.gone<=9223372036854775807):
 Calls Tryz.prog 106 #[chV x,.int .i64 seen,.int .i64 by_] w fun e w'=>e= .returned (.bool (zmz x.out x.gone seen by_))/\Below w.heap.size w w':=by
 obtain⟨c,b,no,k,i,o,g⟩:=x
 have HE:Hid (∀t,t=zce g by_->(t||(decide (0<o)&&decide (o<=seen)))=zmz o g seen by_):=fun t e=>by rw[e];exact out_tame h0
 cases ht:zce g by_
 ·have HT:=hid (HE.out false ht.symm)
  by_cases h1:0<o
  ·have HT1:Hid (decide (o<=seen)=zmz o g seen by_):=by show _=_;rw[<-HT.out];simp[h1]
   clear HE HT
   go_enter Tryz.func106,Tryz.ntmps106
   go_wp2_with (go_at_call 150;refine(zkk g by_ _ hg hg').mono ?_;rintro e w' ⟨rfl,rfl⟩;rw[ht])
   go_ret
   exact⟨zbf HT1.out,(Below.refl _ _).alloc (Nat.le_refl _) _⟩
  have HT1:Hid (false=zmz o g seen by_):=by show _=_;rw[<-HT.out];simp[h1]
  clear HE HT
  go_enter Tryz.func106,Tryz.ntmps106
  go_wp2_with (go_at_call 150;refine(zkk g by_ _ hg hg').mono ?_;rintro e w' ⟨rfl,rfl⟩;rw[ht])
  go_ret
  exact⟨zbf HT1.out,(Below.refl _ _).alloc (Nat.le_refl _) _⟩
 have HT1:=hid (HE.out true ht.symm)
 clear HE
 go_enter Tryz.func106,Tryz.ntmps106
 go_wp2_with (go_at_call 150;refine(zkk g by_ _ hg hg').mono ?_;rintro e w' ⟨rfl,rfl⟩;rw[ht])
 go_ret
 exact⟨zbf HT1.out,(Below.refl _ _).alloc (Nat.le_refl _) _⟩
theorem zgl(x:Ch)(seen by_:Int)(w:World)(h0:0<=x.out)(hg: -9223372036854775808<=x.gone)(hg':x.gone<=9223372036854775807):
 Calls Tryz.prog 62 #[chV x,.int .i64 seen,.int .i64 by_] w fun e w'=>e= .returned (.bool (za7 seen by_ x))/\Below w.heap.size w w':=by
 obtain⟨c,b,no,k,i,o,g⟩:=x
 cases hi:inB i b seen by_
 ·go_enter Tryz.func62,Tryz.ntmps62
  go_wp2_with (go_at_call 105;refine(zp3 ⟨c,b,no,k,i,o,g⟩ _ _ _).mono ?_;rintro e w' ⟨rfl,hb⟩;rw[hi])
  go_ret
  exact⟨zbf (by simp[za7,zi7,hi]),bla ((Below.refl _ _).alloc (Nat.le_refl _) _) hb⟩
 go_enter Tryz.func62,Tryz.ntmps62
 go_wp2_with fail
 refine(zp3 ⟨c,b,no,k,i,o,g⟩ _ _ _).mono ?_
 rintro e w1 ⟨rfl,hb⟩
 rw[hi]
 obtain⟨hc,hf⟩:=zdp hb
 go_wp2_with fail
 refine(zut ⟨c,b,no,k,i,o,g⟩ _ _ _ h0 hg hg').mono ?_
 rintro e w2 ⟨rfl,hb2⟩
 clear hc hf
 go_wp2
 go_ret
 exact⟨zbf (by simp[za7,zi7,hi]),bla (bla ((Below.refl _ _).alloc (Nat.le_refl _) _) hb) hb2⟩
theorem zu9(b off len cap:Nat)(l:List Ch)(seen by_:Int)(w:World)(hl:l.length=len)(hm:len<=1000)(hr:Row w b off l)(ht:zi2 l):
 Calls Tryz.prog 58 #[.slice (some ⟨b,off,none⟩) len cap,.int .i64 seen,.int .i64 by_] w fun e w'=>e= .returned (.string (strOfNums (vw l seen by_)))/\Below w.heap.size w w':=by
 have HR:=hid hr
 have HL:=hid hl
 have HT:=hid ht
 have hb:=hr.lt
 clear hr hl ht
 go_enter Tryz.func58,Tryz.ntmps58
 go_wp2
 go_loopw [7,8] (fun s i wr=>∃k:Nat,k<=len/\i= .int .i64 k/\s= .string (strOfNums (vw (l.take k) seen by_))/\Hid (Below w.heap.size w wr)) (fun _ i _=>len-(intOf i).toNat)
 case atStart=>exact⟨0,Nat.zero_le _,rfl,rfl,Below.refl _ _⟩
 obtain⟨k,hk,rfl,rfl,HB⟩:=hrel
 by_cases hlt:k<len
 ·have hkl:k<l.length:=by rw[HL.out];exact hlt
  obtain⟨t1,t2,t3,t4⟩:=zjp HT.out k hkl
  have hd:=qco (l.take k) seen by_
  have hle:(l.take k).length<=k:=List.length_take_le _ _
  have HN:Hid (vw (l.take (k+1)) seen by_=vw (l.take k) seen by_++if za7 seen by_ l[k]=true then [l[k].c]else []):=by rw[zcf l k hkl];exact qcm _ _ _ _
  obtain⟨h0,h1,h2,h3,h4,h5,h6⟩:=(HR.out.below HB.out).at_ k hkl
  have HF:Hid (Row w b off l->∀w1,Below w.heap.size w w1->w1.cell? ⟨b,off+k*7,none⟩=some (.int .u8 l[k].c)):=fun hr w1 hb1=>((hr.below hb1).at_ k hkl).1
  generalize l[k]=x at h0 h1 h2 h3 h4 h5 h6 HN t1 t2 t3 t4 HF
  generalize vw (l.take k) seen by_=zs at*
  have hz:(strOfNums zs).size<=1000:=by rw[zbn];omega
  clear hd hle t2
  go_wp2_with fail
  refine(zgl x _ _ _ t1 (by omega) (by omega)).mono ?_
  rintro e w1 ⟨rfl,hb1⟩
  have HB1:=hid (bla HB.out hb1)
  have g0:=HF.out HR.out w1 HB1.out
  clear h0 h1 h2 h3 h4 h5 h6 hb1 HF
  cases hs:za7 seen by_ x
  ·rw[hs]at HN
   clear g0
   go_wp2
   go_roundw
   case rel=>exact⟨k+1,by omega,by go_num,by rw[HN.out];simp,HB1⟩
   case measure=>simp[intOf];omega
  rw[hs]at HN
  have hown:(w1.alloc (.cells #[.int .u8 x.c] 5)).ownsRow w.heap.size 5 1 (.slice (some ⟨w1.heap.size,0,none⟩) 1 1) [x.c].length (zf0 [x.c]):=
   ⟨rfl,.inr ⟨w1.heap.size,1,#[.int .u8 x.c],rfl,HB1.out.size,heap_alloc_new w1 _,Nat.le_refl _,by unfold maxLen;omega,rfl,rfl⟩⟩
  have hs1:=zga hown
  have HC:Hid (Below w.heap.size w (w1.alloc (.cells #[.int .u8 x.c] 5))):=HB1.out.alloc HB1.out.size _
  have hsz:(strOfNums [x.c]).size=1:=zbn [x.c]
  clear hown
  go_wp2
  go_roundw
  case rel=>exact⟨k+1,by omega,by go_num,by rw[HN.out,if_pos trivial,zry],HC⟩
  case measure=>simp[intOf];omega
 obtain rfl:k=len:=by omega
 have HE:Hid (l.take k=l):=by show _=_;rw[<-HL.out,List.take_length]
 rw[HE.out]
 go_wp2
 go_ret
 exact⟨rfl,HB.out⟩
theorem zs7(a:Option Addr)(cap:Nat)(seen by_:Int)(w:World):
 Calls Tryz.prog 58 #[.slice a 0 cap,.int .i64 seen,.int .i64 by_] w fun e w'=>e= .returned (.string (strOfNums []))/\Below w.heap.size w w':=by
 go_enter Tryz.func58,Tryz.ntmps58
 go_wp2
 refine wp_loop_rounds 1 ?_
 rw[rounds_succ]
 go_wp2
 go_ret
 exact⟨rfl,Below.refl _ _⟩
theorem zki{w:World}{v:Value}{l:List Ch}(h:Lst w v l)(hl:l.length<=1000)(ht:zi2 l)(seen by_:Int):
 Calls Tryz.prog 58 #[v,.int .i64 seen,.int .i64 by_] w fun e w'=>e= .returned (.string (strOfNums (vw l seen by_)))/\Below w.heap.size w w':=by
 obtain⟨a,len,cap,rfl,h1,h2,h3⟩:=h
 rcases h3 with rfl|⟨b,off,rfl,hr⟩
 ·obtain rfl:l=[]:=List.length_eq_zero_iff.1 h1
  exact zs7 a cap seen by_ w
 exact zu9 b off len cap l seen by_ w h1 (by omega) hr ht
theorem unplaced{d:Dd}(h:zcr d=false):wrB d.by_=false\/(wrB d.by_=true/\d.no<1)\/(wrB d.by_=true/\1<=d.no/\120<d.no)\/(wrB d.by_=true/\1<=d.no/\d.no<=120/\d.seen<0)\/(wrB d.by_=true/\1<=d.no/\d.no<=120/\0<=d.seen/\120<d.seen)
 \/(wrB d.by_=true/\1<=d.no/\d.no<=120/\0<=d.seen/\d.seen<=120/\d.at_<0)\/(wrB d.by_=true/\1<=d.no/\d.no<=120/\0<=d.seen/\d.seen<=120/\0<=d.at_/\200<d.at_):=by
 cases hw:wrB d.by_
 ·exact .inl rfl
 simp[zcr,hw,zas]at h
 simp
 omega
theorem zmx{d:Dd}(h:zcr d=true):wrB d.by_=true/\1<=d.no/\d.no<=120/\0<=d.seen/\d.seen<=120/\0<=d.at_/\d.at_<=200:=by
 simp[zcr,zas]at h
 obtain⟨h1,⟨h2,h3⟩,⟨h4,h5⟩,h6,h7⟩:=h
 exact⟨h1,h2,h3,h4,h5,h6,h7⟩
theorem zxq(d:Dd)(w:World)(hk:d.kind=1\/d.kind=2)(hp:zcr d=false):
 Calls Tryz.prog 104 #[ddV d] w fun e w'=>e= .returned (.int .i64 (za9 d))/\Below w.heap.size w w':=by
 have HC:Hid (za9 d=1):=by
  show za9 d=1
  rw[za9,if_neg (by omega),if_pos hp]
 have hu:=unplaced hp
 obtain⟨kind,by_,no,seen,at_,many,text⟩:=d
 clear hp
 rcases hu with hu|⟨hu,h1⟩|⟨hu,h1,h2⟩|⟨hu,h1,h2,h3⟩|⟨hu,h1,h2,h3,h4⟩|⟨hu,h1,h2,h3,h4,h5⟩|⟨hu,h1,h2,h3,h4,h5,h6⟩
 all_goals
  rcases hk with rfl|rfl
  all_goals
   go_enter Tryz.func104,Tryz.ntmps104
   go_wp2_with (go_at_call 57;refine(za8 _ _).mono ?_;rintro e w' ⟨rfl,rfl⟩)
   go_ret
   exact⟨zae HC.out.symm,(Below.refl _ _).alloc (Nat.le_refl _) _⟩
theorem zj4{s:ByteArray}{k:Nat}(h:(decide (1<=s.size/\s.size<=20)&&(s.data.toList.take k).all zee)=false):zci s=false:=by
 rw[zci]
 by_cases h0:1<=s.size/\s.size<=20
 ·simp only[h0,and_self,decide_true,Bool.true_and]at h⊢
  rw[List.all_eq_false]at h⊢
  obtain⟨x,hx,hn⟩:=h
  exact⟨x,List.mem_of_mem_take hx,hn⟩
 simp only[h0,decide_false,Bool.false_and]
theorem ok_bytes(b:UInt8):zee b= !(decide ((b.toNat:Int)<32)||decide (126<(b.toNat:Int))):=by
 rw[zee,Bool.eq_iff_iff]
 simp
 omega
theorem qg0(d:Dd)(w:World)(hk:d.kind=1)(hp:zcr d=true):
 Calls Tryz.prog 104 #[ddV d] w fun e w'=>e= .returned (.int .i64 (za9 d))/\Below w.heap.size w w':=by
 have HC:Hid (za9 d=zwt d):=by
  show za9 d=zwt d
  rw[za9,if_neg (by omega),if_neg (by simp[hp]),if_pos hk]
 have hu:=zmx hp
 obtain⟨kind,by_,no,seen,at_,many,text⟩:=d
 obtain rfl:kind=1:=hk
 clear hp
 obtain⟨hu,h1,h2,h3,h4,h5,h6⟩:=hu
 by_cases hm:many=0
 ·subst hm
  have HP:Hid (zwt ⟨1,by_,no,seen,at_,0,text⟩=if zci text=true then 0 else 4):=by
   show zwt _=_
   simp[zwt]
  rcases(show text.size<1\/20<text.size\/(1<=text.size/\text.size<=20) by omega)with hs|hs|⟨hs,hs'⟩
  ·have HD:Hid (decide (1<=text.size/\text.size<=20)=false):=decide_eq_false (by omega)
   go_enter Tryz.func104,Tryz.ntmps104
   go_wp2_with (go_at_call 57;refine(za8 _ _).mono ?_;rintro e w' ⟨rfl,rfl⟩)
   go_loop [3,4] (fun b i=>∃k:Nat,k<=text.size/\i= .int .i64 k/\b= .bool (!(decide (1<=text.size/\text.size<=20)&&(text.data.toList.take k).all zee))) (fun _ i=>text.size-(intOf i).toNat)
   case atStart=>exact⟨0,Nat.zero_le _,rfl,by rw[HD.out];rfl⟩
   obtain⟨k,hk,rfl,rfl⟩:=hrel
   cases hb:(decide (1<=text.size/\text.size<=20)&&(text.data.toList.take k).all zee)
   ·have HF:Hid _:=zj4 hb
    simp only[Bool.not_false]
    by_cases hlt:k<text.size
    all_goals
     first
     |(exfalso;omega)
     |(go_wp2;go_ret;exact⟨zae (by rw[HC.out,HP.out,HF.out];rfl),(Below.refl _ _).alloc (Nat.le_refl _) _⟩)
   exact absurd hb (by rw[HD.out];simp)
  ·have HD:Hid (decide (1<=text.size/\text.size<=20)=false):=decide_eq_false (by omega)
   go_enter Tryz.func104,Tryz.ntmps104
   go_wp2_with (go_at_call 57;refine(za8 _ _).mono ?_;rintro e w' ⟨rfl,rfl⟩)
   go_loop [3,4] (fun b i=>∃k:Nat,k<=text.size/\i= .int .i64 k/\b= .bool (!(decide (1<=text.size/\text.size<=20)&&(text.data.toList.take k).all zee))) (fun _ i=>text.size-(intOf i).toNat)
   case atStart=>exact⟨0,Nat.zero_le _,rfl,by rw[HD.out];simp;omega⟩
   obtain⟨k,hk,rfl,rfl⟩:=hrel
   cases hb:(decide (1<=text.size/\text.size<=20)&&(text.data.toList.take k).all zee)
   ·have HF:Hid _:=zj4 hb
    simp only[Bool.not_false]
    by_cases hlt:k<text.size
    all_goals
     first
     |(exfalso;omega)
     |(go_wp2;go_ret;exact⟨zae (by rw[HC.out,HP.out,HF.out];rfl),(Below.refl _ _).alloc (Nat.le_refl _) _⟩)
   exact absurd hb (by rw[HD.out];simp)
  have HD:Hid (decide (1<=text.size/\text.size<=20)=true):=decide_eq_true (by omega)
  go_enter Tryz.func104,Tryz.ntmps104
  go_wp2_with (go_at_call 57;refine(za8 _ _).mono ?_;rintro e w' ⟨rfl,rfl⟩)
  go_loop [3,4] (fun b i=>∃k:Nat,k<=text.size/\i= .int .i64 k/\b= .bool (!(decide (1<=text.size/\text.size<=20)&&(text.data.toList.take k).all zee))) (fun _ i=>text.size-(intOf i).toNat)
  case atStart=>exact⟨0,Nat.zero_le _,rfl,by rw[HD.out];simp;omega⟩
  obtain⟨k,hk,rfl,rfl⟩:=hrel
  cases hb:(decide (1<=text.size/\text.size<=20)&&(text.data.toList.take k).all zee)
  ·have HF:Hid _:=zj4 hb
   simp only[Bool.not_false]
   by_cases hlt:k<text.size
   all_goals
    first
    |(exfalso;omega)
    |(go_wp2;go_ret;exact⟨zae (by rw[HC.out,HP.out,HF.out];rfl),(Below.refl _ _).alloc (Nat.le_refl _) _⟩)
  simp only[Bool.not_true]
  have HB:Hid ((text.data.toList.take k).all zee=true):=by
   show(text.data.toList.take k).all zee=true
   simp only[Bool.and_eq_true]at hb
   exact hb.2
  clear hb
  by_cases hlt:k<text.size
  ·have HN:Hid _:=zlp text k hlt
   have HE:Hid _:=ok_bytes text[k]
   by_cases c1:(text[k].toNat:Int)<32
   ·go_wp2
    go_round
    case rel=>exact⟨k+1,by omega,by go_num,by rw[HN.out,HB.out,HD.out,HE.out];simp[c1]⟩
    case measure=>simp[intOf];omega
   by_cases c2:126<(text[k].toNat:Int)
   all_goals
    go_wp2
    go_round
    case rel=>exact⟨k+1,by omega,by go_num,by rw[HN.out,HB.out,HD.out,HE.out];simp[c1,c2]⟩
    case measure=>simp[intOf];omega
  have HF:Hid (zci text=true):=by
   show zci text=true
   have hk':k=text.size:=by omega
   have:=HB.out
   rw[hk',<-zav,List.take_length]at this
   rw[zci,HD.out,this]
   rfl
  go_wp2
  go_ret
  exact⟨zae (by rw[HC.out,HP.out,HF.out];rfl),(Below.refl _ _).alloc (Nat.le_refl _) _⟩
 have h1':(many != 0)=true:=by simp[hm]
 have H1:=hid hm
 clear hm
 go_enter Tryz.func104,Tryz.ntmps104
 go_wp2_with (go_at_call 57;refine(za8 _ _).mono ?_;rintro e w' ⟨rfl,rfl⟩)
 go_ret
 exact⟨zae (by rw[HC.out];simp[zwt,H1.out]),(Below.refl _ _).alloc (Nat.le_refl _) _⟩
theorem qbt(d:Dd)(w:World)(hk:d.kind=2)(hp:zcr d=true):
 Calls Tryz.prog 104 #[ddV d] w fun e w'=>e= .returned (.int .i64 (za9 d))/\Below w.heap.size w w':=by
 have HC:Hid (za9 d=zl3 d):=by
  show za9 d=zl3 d
  rw[za9,if_neg (by omega),if_neg (by simp[hp]),if_neg (by omega)]
 have hu:=zmx hp
 obtain⟨kind,by_,no,seen,at_,many,text⟩:=d
 obtain rfl:kind=2:=hk
 clear hp
 obtain⟨hu,h1,h2,h3,h4,h5,h6⟩:=hu
 by_cases hs:text.size=0
 ·have hs':text.toList.isEmpty=true:=by simp[zk4,hs]
  have HS:=hid hs
  clear hs
  rcases(show many<1\/(1<=many/\200<many)\/(1<=many/\many<=200) by omega)with hm|⟨hm,hm'⟩|⟨hm,hm'⟩
  all_goals
   go_enter Tryz.func104,Tryz.ntmps104
   go_wp2_with (go_at_call 57;refine(za8 _ _).mono ?_;rintro e w' ⟨rfl,rfl⟩)
   go_ret
   exact⟨zae (by rw[HC.out];simp[zl3,HS.out,zas];omega),(Below.refl _ _).alloc (Nat.le_refl _) _⟩
 have hs':text.toList.isEmpty=false:=by simp[zk4,hs]
 have HS:=hid hs
 clear hs
 go_enter Tryz.func104,Tryz.ntmps104
 go_wp2_with (go_at_call 57;refine(za8 _ _).mono ?_;rintro e w' ⟨rfl,rfl⟩)
 go_ret
 exact⟨zae (by rw[HC.out];simp[zl3,HS.out]),(Below.refl _ _).alloc (Nat.le_refl _) _⟩
theorem qbv(d:Dd)(w:World)(hk:¬(d.kind=1\/d.kind=2)):
 Calls Tryz.prog 104 #[ddV d] w fun e w'=>e= .returned (.int .i64 (za9 d))/\Below w.heap.size w w':=by
 have HC:Hid (za9 d=2):=by
  show za9 d=2
  rw[za9,if_pos (by omega)]
 obtain⟨kind,by_,no,seen,at_,many,text⟩:=d
 have h1:(kind != 1)=true:=by simp;intro e;exact hk (.inl e)
 have h2:(kind != 2)=true:=by simp;intro e;exact hk (.inr e)
 clear hk
 go_enter Tryz.func104,Tryz.ntmps104
 go_wp2
 go_ret
 exact⟨zae HC.out.symm,(Below.refl _ _).alloc (Nat.le_refl _) _⟩
theorem zjf(d:Dd)(w:World):
 Calls Tryz.prog 104 #[ddV d] w fun e w'=>e= .returned (.int .i64 (za9 d))/\Below w.heap.size w w':=by
 by_cases hk:d.kind=1\/d.kind=2
 ·cases hp:zcr d
  ·exact zxq d w hk hp
  rcases hk with hk|hk
  ·exact qg0 d w hk hp
  exact qbt d w hk hp
 exact qbv d w hk
variable {w:World} {v:Value}
theorem zq6(v:Value)(seen by_:Int)(w:World):
 Calls Tryz.prog 148 #[v,.int .i64 seen,.int .i64 by_,.int .i64 0] w fun e w'=>e= .returned (.int .i64 0)/\Below w.heap.size w w':=by
 go_enter Tryz.func148,Tryz.ntmps148
 go_wp2
 go_ret
 exact⟨rfl,Below.refl _ _⟩
theorem zq7(b off len cap:Nat)(l:List Ch)(seen by_:Int)(n:Nat)(w:World)(hl:l.length=len)(hm:len<=1000)(hr:Row w b off l)(ht:zi2 l)(hn:0<n)(hn2:n<=1000):
 Calls Tryz.prog 148 #[.slice (some ⟨b,off,none⟩) len cap,.int .i64 seen,.int .i64 by_,.int .i64 n] w fun e w'=>e= .returned (.int .i64 (zpq l seen by_ n))/\Below w.heap.size w w':=by
 have HR:=hid hr
 have HL:=hid hl
 have HT:=hid ht
 have hb:=hr.lt
 have hn':((n:Int)==0)=false:=by simp;omega
 clear hr hl ht
 go_enter Tryz.func148,Tryz.ntmps148
 go_wp2
 go_loopw [9,10] (fun m i wr=>∃k j:Nat,k<=len/\i= .int .i64 k/\m= .int .i64 j/\Hid (BTo l seen by_ n k j)/\Hid (Below w.heap.size w wr)) (fun _ i _=>len-(intOf i).toNat)
 case atStart=>exact⟨0,0,Nat.zero_le _,rfl,rfl,qgq l seen by_ hn,Below.refl _ _⟩
 obtain⟨k,j,hk,rfl,rfl,HBT,HB⟩:=hrel
 have hjn:=HBT.out.1
 by_cases hlt:k<len
 ·have hkl:k<l.length:=by rw[HL.out];exact hlt
  obtain⟨t1,t2,t3,t4⟩:=zjp HT.out k hkl
  obtain⟨h0,h1,h2,h3,h4,h5,h6⟩:=(HR.out.below HB.out).at_ k hkl
  have HX:Hid (∃x,x=l[k]):=⟨_,rfl⟩
  obtain⟨x,hx⟩:=HX.out
  rw[<-hx]at h0 h1 h2 h3 h4 h5 h6 t1 t2 t3 t4
  have HXK:=hid hx
  clear hx HX t2
  go_wp2_with fail
  refine(zgl x _ _ _ t1 (by omega) (by omega)).mono ?_
  rintro e w1 ⟨rfl,hb1⟩
  have HB1:=hid (bla HB.out hb1)
  clear h0 h1 h2 h3 h4 h5 h6 hb1
  cases hs:za7 seen by_ x
  ·have HN:Hid (BTo l seen by_ n (k+1) j):=bto_miss HBT.out hkl (by rw[<-HXK.out];exact hs)
   go_wp2
   go_roundw
   case rel=>exact⟨k+1,j,by omega,by go_num,rfl,HN,HB1⟩
   case measure=>simp[intOf];omega
  by_cases hj:j+1=n
  ·have HN:Hid (zaa seen by_ n l=some (k+1)):=bto_hit HBT.out hkl (by rw[<-HXK.out];exact hs) hj
   have hj':((j:Int)+1==(n:Int))=true:=by simp;omega
   clear hj
   go_wp2
   go_ret
   exact⟨zae (by rw[znb HN.out];omega),HB1.out⟩
  have HN:Hid (BTo l seen by_ n (k+1) (j+1)):=bto_met HBT.out hkl (by rw[<-HXK.out];exact hs) hj
  have hj':((j:Int)+1==(n:Int))=false:=by simp;omega
  clear hj
  go_wp2
  go_roundw
  case rel=>exact⟨k+1,j+1,by omega,by go_num,by go_num,HN,HB1⟩
  case measure=>simp[intOf];omega
 obtain rfl:k=len:=by omega
 have HN:Hid (zaa seen by_ n l=none):=bto_end (by rw[HL.out];exact HBT.out)
 go_wp2
 go_ret
 exact⟨zae (by rw[zvt HN.out]),HB.out⟩
theorem zs8{l:List Ch}(h:Lst w v l)(hl:l.length<=1000)(ht:zi2 l)(seen by_ at_:Int)(h0:0<=at_)(hn:at_<=cnt l seen by_):
 Calls Tryz.prog 148 #[v,.int .i64 seen,.int .i64 by_,.int .i64 at_] w fun e w'=>∃p:Nat,e= .returned (.int .i64 p)/\zaa seen by_ at_.toNat l=some p/\p<=l.length/\Below w.heap.size w w':=by
 have hc:=zn9 l seen by_
 obtain⟨n,rfl⟩:=Int.eq_ofNat_of_zero_le h0
 obtain⟨p,hp⟩:=zh4 (seen:=seen) (by_:=by_) (n:=n) (l:=l) (by have:=zix l seen by_;omega)
 have hpl:=(zd4 hp).1
 by_cases hz:n=0
 ·subst hz
  refine(zq6 v seen by_ w).mono ?_
  rintro e w' ⟨rfl,hb⟩
  have:p=0:=by
   have e0:zaa seen by_ 0 l=some 0:=by cases l<;>rfl
   rw[e0]at hp
   exact(Option.some.inj hp).symm
  subst this
  exact⟨0,rfl,hp,hpl,hb⟩
 obtain⟨a,len,cap,rfl,h1,h2,h3⟩:=h
 rcases h3 with rfl|⟨b,off,rfl,hr⟩
 ·obtain rfl:l=[]:=List.length_eq_zero_iff.1 h1
  have:cnt [] seen by_=0:=rfl
  omega
 refine(zq7 b off len cap l seen by_ n w h1 (by omega) hr ht (by omega) (by omega)).mono ?_
 rintro e w' ⟨rfl,hb⟩
 exact⟨p,zae (znb hp),hp,hpl,hb⟩
theorem zq5{base:Nat}{u:Value}{a b:List Ch}(ty:TypeId)(hv:Own w base v a)(hu:Lst w u b)(hl:a.length+b.length<=100000)(hbase:base<=w.heap.size):
 ∃v' w',(Builtin.append_ #[91,91] ty #[v,u]).run Tryz.prog w= .ok v' w'/\Own w' base v' (a++b)/\w.grownBy w' v.ownBlock:=by
 obtain⟨i0,hi,hz0,hz1,hz2⟩:=info_parts Tryz.infoChar
 rcases hu.src with⟨cap,rfl,rfl⟩|⟨ad,cap,rfl,hc,hsrc⟩
 ·exact⟨v,w,zj3 w base 91 ty 127 i0 7 cap Tryz.underlying91 hi v a.length (zaq a) hv,by rw[List.append_nil];exact hv,zr9 w _⟩
 obtain⟨v',w',h1,h2,h3,_⟩:=run_append_own (P:=Tryz.prog) w base 91 ty 127 i0 zff 7 56 Tryz.underlying91 hi hz0 hz1 hz2 rfl (by decide) v a.length (zaq a) hv ad b.length cap (zaq b) (zdd b) hsrc (zk1 b) (by unfold maxLen;omega) (by omega) hbase
 refine⟨v',w',h1,?_,h3⟩
 unfold Own
 rw[List.length_append,zfa]
 exact h2
theorem zdk{o:Oper}{act:Act}{s x:Operand}(ho:o.op= .call {callee:= .builtin .append,args:= #[s,x],argTypes:= #[91,91]}){base:Nat}{v u:Value}{a b:List Ch}{D:Value->World->Prop}
 (hs:act.eval s=v) (hx:act.eval x=u) (hv:Own w base v a) (hu:Lst w u b) (hl:a.length+b.length<=100000) (hbase:base<=w.heap.size)
 (h:∀v' w',Own w' base v' (a++b)->w.grownBy w' v.ownBlock->D v' w'):zb0 Tryz.prog D ((execOp act.eval o).run Tryz.prog w):=by
 obtain⟨v',w',h1,h2,h3⟩:=zq5 o.type hv hu hl hbase
 have hh:=h v' w' h2 h3
 simp[execOp,ho,resolve,invoke,builtin,hs,hx,h1,Result.andThen]
 exact hh
theorem qez(w:World)(x:Ch):Lst (w.alloc (.cells #[.int .u8 x.c,.int .i64 x.by_,.int .i64 x.no,.int .i64 x.k,.int .i64 x.inn,.int .i64 x.out,.int .i64 x.gone] 127)) (.slice (some ⟨w.heap.size,0,none⟩) 1 1) [x]:=by
 refine⟨_,1,1,rfl,rfl,Nat.le_refl _,.inr ⟨w.heap.size,0,rfl,⟨by simp,fun i hi=> ?_⟩⟩⟩
 obtain rfl:i=0:=by simp at hi;exact hi
 refine⟨?_,?_,?_,?_,?_,?_,?_⟩<;>simp[go_sem]
structure BI(w:World)(d:Dd)(v:Value)(z:List Ch)(wk:World):Prop where
 below:Below w.heap.size w wk
 at_:zdq wk w.heap.size 0 d
 own:Own wk (w.heap.size+1) v z
theorem BI.after{wk w':World}{d:Dd}{z:List Ch}(h:BI w d v z wk)(hb:Below wk.heap.size wk w'):BI w d v z w':=⟨bla h.below hb,h.at_.below hb,h.own.below hb⟩
theorem BI.grown{w wk w':World}{d:Dd}{v v':Value}{z z':List Ch}(h:BI w d v z wk)(hg:wk.grownBy w' v.ownBlock)(ho:Own w' (w.heap.size+1) v' z'):BI w d v' z' w':=by
 have hk:∀k,v.ownBlock=some k->w.heap.size+1<=k:=fun k hk=>(World.ownsRow.lt h.own k hk).1
 have hb:Below (w.heap.size+1) wk w':=(Below.refl _ _).grown hg (by have:=h.at_.lt;omega) hk
 have hc:∀o,w'.cell? ⟨w.heap.size,o,none⟩=wk.cell? ⟨w.heap.size,o,none⟩:=fun o=>hb.cell (p:=⟨w.heap.size,o,none⟩) (Nat.lt_succ_self _)
 obtain⟨c,c0,c1,c2,c3,c4,c5,c6⟩:=h.at_
 refine⟨h.below.trans (hb.mono (by omega)),⟨by have:=hb.size;omega,?_,?_,?_,?_,?_,?_,?_⟩,ho⟩<;>rw[hc]<;>assumption
theorem zkz(d:Dd)(number:Int)(w:World)(ht:d.text.size<=1000):
 Calls Tryz.prog 149 #[ddV d,.int .i64 number] w fun e w'=>∃v,e= .returned v/\Own w' w.heap.size v (zez d number)/\Below w.heap.size w w':=by
 have HI:Hid (BI w d (.slice none 0 0) [] (w.alloc (zd9 d))):=⟨(Below.refl _ _).alloc (Nat.le_refl _) _,zb4 w d,zd6 _ _⟩
 obtain⟨kind,by_,no,seen,at_,many,text⟩:=d
 simp only at ht
 go_enter Tryz.func149,Tryz.ntmps149
 go_wp2
 go_loopw [5,6] (fun v i wr=>∃k:Nat,k<=text.size/\i= .int .i64 k/\Hid (BI w ⟨kind,by_,no,seen,at_,many,text⟩ v (zbb ⟨kind,by_,no,seen,at_,many,text⟩ number 0 (text.data.toList.take k)) wr)) (fun _ i _=>text.size-(intOf i).toNat)
 case atStart=>exact⟨0,Nat.zero_le _,rfl,HI⟩
 obtain⟨k,hk,rfl,HK⟩:=hrel
 clear HI
 obtain⟨_,c0,c1,c2,c3,c4,c5,c6⟩:=HK.out.at_
 simp only[Nat.zero_add]at c0 c1 c2 c3 c4 c5 c6
 by_cases hlt:k<text.size
 ·have hkl:k<text.data.toList.length:=hlt
  have HN:Hid (zbb ⟨kind,by_,no,seen,at_,many,text⟩ number 0 (text.data.toList.take (k+1))=zbb ⟨kind,by_,no,seen,at_,many,text⟩ number 0 (text.data.toList.take k)++[zm9 ⟨kind,by_,no,seen,at_,many,text⟩ number k text[k]]):=by
   show _=_
   rw[List.take_succ_eq_append_getElem hkl,zj8,List.length_take,qft text k hlt,show 0+min k text.data.toList.length=k by omega]
  have HZ:Hid ((zbb ⟨kind,by_,no,seen,at_,many,text⟩ number 0 (text.data.toList.take k)).length<=1000):=by
   show _<=_
   rw[zgp,List.length_take]
   omega
  generalize zbb ⟨kind,by_,no,seen,at_,many,text⟩ number 0 (text.data.toList.take k)=zs at*
  go_wp2
  clear c0 c1 c2 c3 c4 c5 c6
  refine wrs (fun wk=>zdq wk w.heap.size 0 ⟨kind,by_,no,seen,at_,many,text⟩) (fun i=>i==12||i==13) (fun wk=>BI w ⟨kind,by_,no,seen,at_,many,text⟩ u5 zs wk) (by kernel_rfl) (by kernel_rfl) (by kernel_rfl) (fun _ h=>h.at_) (HK.out.after (Below.refl _ _).drew) ?_
  iterate 2 (refine wss rfl (fun K hK=> ?_);go_simp;refine⟨_,fun _ _=>rfl,hK _ ?_⟩;clear hK K)
  refine wss rfl (fun K hK=> ?_)
  go_simp
  refine⟨.string text,fun wk hwk=> ?_,hK _ ?_⟩
  ·obtain⟨_,c0,c1,c2,c3,c4,c5,c6⟩:=hwk
   simp only[Nat.zero_add]at c0 c1 c2 c3 c4 c5 c6
   go_simp
  clear hK K
  refine wss rfl (fun K hK=> ?_)
  go_simp
  refine⟨_,fun _ _=>rfl,hK _ ?_⟩
  clear hK K
  refine wss rfl (fun K hK=> ?_)
  go_simp
  refine⟨.int .u8 text[k].toNat,fun wk hwk=> ?_,hK _ ?_⟩
  ·go_simp
  clear hK K
  refine wss rfl (fun K hK=> ?_)
  go_simp
  refine⟨_,fun _ _=>rfl,hK _ ?_⟩
  clear hK K
  refine wss rfl (fun K hK=> ?_)
  go_simp
  refine⟨.int .i64 by_,fun wk hwk=> ?_,hK _ ?_⟩
  ·obtain⟨_,c0,c1,c2,c3,c4,c5,c6⟩:=hwk
   simp only[Nat.zero_add]at c0 c1 c2 c3 c4 c5 c6
   go_simp
  clear hK K
  refine wss rfl (fun K hK=> ?_)
  go_simp
  refine⟨_,fun _ _=>rfl,hK _ ?_⟩
  clear hK K
  refine wss rfl (fun K hK=> ?_)
  go_simp
  refine⟨.int .i64 no,fun wk hwk=> ?_,hK _ ?_⟩
  ·obtain⟨_,c0,c1,c2,c3,c4,c5,c6⟩:=hwk
   simp only[Nat.zero_add]at c0 c1 c2 c3 c4 c5 c6
   go_simp
  iterate 2 (clear hK K;refine wss rfl (fun K hK=> ?_);go_simp;refine⟨_,fun _ _=>rfl,hK _ ?_⟩)
  clear hK K
  refine wss rfl (fun K hK=> ?_)
  go_simp
  refine⟨.agg #[.int .u8 text[k].toNat,.int .i64 by_,.int .i64 no,.int .i64 k,.int .i64 number,.int .i64 0,.int .i64 0],fun wk hwk=> ?_,hK _ ?_⟩
  ·go_simp
  clear hK K
  refine wsp rfl rfl (fun u=>∃g,u= .slice (some ⟨g,0,none⟩) 1 1) (fun u wk=>BI w ⟨kind,by_,no,seen,at_,many,text⟩ u5 zs wk/\Lst wk u [(zm9 ⟨kind,by_,no,seen,at_,many,text⟩ number k text[k])]) ⟨_,0,rfl⟩ (fun _ _ h=>h.1.at_) (fun wk hwk=> ?_) (fun vb hvb=> ?_)
  ·go_simp
   exact⟨⟨_,rfl⟩,hwk.after ((Below.refl _ _).alloc (Nat.le_refl _) _),qez wk (zm9 ⟨kind,by_,no,seen,at_,many,text⟩ number k text[k])⟩
  obtain⟨gb,rfl⟩:=hvb
  refine wsp rfl rfl (fun u=>True) (fun u wk=>BI w ⟨kind,by_,no,seen,at_,many,text⟩ u (zs++[(zm9 ⟨kind,by_,no,seen,at_,many,text⟩ number k text[k])]) wk) ⟨.int .i64 0,trivial⟩ (fun _ _ h=>h.at_) (fun wk hwk=> ?_) (fun vr _=> ?_)
  ·refine zdk (v:=u5) (u:= .slice (some ⟨gb,0,none⟩) 1 1) rfl rfl rfl hwk.1.own hwk.2 ?_ ?_ ?_
   ·have:=HZ.out;simp;omega
   ·have:=hwk.1.at_.lt;omega
   intro v' w' ho hg
   exact⟨trivial,hwk.1.grown hg ho⟩
  refine wss rfl (fun K hK=> ?_)
  go_simp
  refine⟨_,fun _ _=>rfl,hK _ ?_⟩
  clear hK K
  refine wsn (fun w9 hw9=> ?_)
  have H9:Hid _:=hw9
  clear hw9
  go_wp2
  go_roundw
  case rel=>exact⟨k+1,by omega,by go_num,by rw[HN.out];exact H9⟩
  case measure=>simp[intOf];omega
 obtain rfl:k=text.size:=by omega
 have HE:Hid (text.data.toList.take text.size=text.data.toList):=List.take_length
 rw[HE.out]at HK
 go_wp2
 go_ret
 exact⟨_,rfl,HK.out.own.mono (by omega),HK.out.below⟩
end Go.Proofs.YtcbnnfeelhlapadGreatDoor