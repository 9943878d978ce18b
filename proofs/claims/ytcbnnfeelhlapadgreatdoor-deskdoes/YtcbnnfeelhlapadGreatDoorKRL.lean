/-
  KRL.
-/
import Derived.Deep.DeepCutAuto
import Derived.Test.YtcbnnfeelhlapadGreatDoorKLI
namespace Go.Proofs.YtcbnnfeelhlapadGreatDoor
set_option maxHeartbeats 40000000
set_option maxRecDepth 20000
open Go.RowKit
variable {s x y:List UInt8} {zs:List Int}
section
variable {base R E F:Nat} {qw:Nat->Nat} {w0 wk w':World} {S:Nat->Prop} {told:ByteArray} {u:Twn} {ex:Th base}
def WordR(s:ByteArray)(c4 c5 c6:Value):Prop:=(zg3 s.data.toList=none/\c4= .string s/\c5= .string ⟨#[]⟩/\c6= .bool false)\/∃x y,zg3 s.data.toList=some (x,y)/\c4= .string (bl x)/\c5= .string (bl y)/\c6= .bool true
theorem zrp(s:ByteArray):(zg3 s.data.toList=none/\znd s= .tuple #[.string s,.string ⟨#[]⟩,.bool false])\/∃x y,zg3 s.data.toList=some (x,y)/\znd s= .tuple #[.string (bl x),.string (bl y),.bool true]/\x.length+y.length<=s.size:=by
 cases h:zg3 s.data.toList with
 |none=>exact .inl ⟨rfl,by rw[znd,h]⟩
 |some p=>
  obtain⟨x,y⟩:=p
  refine .inr ⟨x,y,rfl,by rw[znd,h],?_⟩
  have:=congrArg List.length (zes h)
  rw[List.length_append,List.length_cons,zav]at this
  omega
def PutQ(s:ByteArray)(c5 c40:Value):Prop:=(c40= .bool false/\zew s.data.toList=none)\/∃y sy,zg3 s.data.toList=some ([112,117,116],y)/\bl y=sy/\c5= .string sy/\c40= .bool true
theorem qed(s:List UInt8){y:List UInt8}(h:zg3 s=some ([112,117,116],y)):zew s=match zg3 y with
 |none=>none
 |some (b,more)=>match zg3 more with
  |none=>none
  |some (c,text)=>match zfo (bl b)with
   |none=>none
   |some w=>match zfo (bl c)with
    |none=>none
    |some at_=>some (w,at_,text):=by
 unfold zew
 rw[h]
 exact if_pos rfl
theorem qea(h:zg3 s=some (x,y))(hx:x≠[112,117,116]):zew s=none:=by
 unfold zew
 rw[h]
 exact if_neg hx
theorem put_none(h:zg3 s=none):zew s=none:=by
 unfold zew
 rw[h]
theorem zxw(h:zg3 s=some (x,y)):x.length+y.length+1=s.length:=by
 have:=congrArg List.length (zes h)
 rw[List.length_append,List.length_cons]at this
 omega
def NoPut(base:Nat)(w0:World)(S:Nat->Prop)(R E F:Nat)(qw:Nat->Nat)(told:ByteArray)(u:Twn)(s:ByteArray)(wx:World):Prop:=zew s.data.toList=none/\zcg base w0 S R E F qw told u (Th.no base) wx
def zbk(base:Nat)(w0:World)(S:Nat->Prop)(R E F:Nat)(told:ByteArray)(p:List UInt8×Twn)(w':World):Prop:=∃qw',zcg base w0 S R E F qw' (told++bl p.1) p.2 (Th.no base) w'
def ToldV(s:ByteArray)(g:Bool)(v:Value):Prop:=∃tv,v= .tuple #[.string s,tv,.bool g]
def qa5(R:Nat)(s:ByteArray)(g:Bool)(zs:List Int)(v:Value)(wk:World):Prop:=∃tv m,v= .tuple #[.string s,tv,.bool g]/\R<m/\zps wk m tv zs
theorem qa5.after{s:ByteArray}{g:Bool}{v:Value}(h:qa5 R s g zs v wk)(hb:Below wk.heap.size wk w'):qa5 R s g zs v w':=by
 obtain⟨tv,m,h1,h2,h3⟩:=h
 exact⟨tv,m,h1,h2,za5 h3 (fun k e=>hb.block k (World.ownsRow.lt h3 k e).2)⟩
theorem qeh{m:Nat}{tv:Value}(h:zps wk m tv zs)(hm:R<m)(hk:zam (fun k=>k=R) wk w'):znj w' tv zs:=by
 have:zps w' m tv zs:=za5 h (fun k e=>by
  obtain⟨h1,h2⟩:=World.ownsRow.lt h k e
  exact hk.block k h2 (fun e'=>by have e2:k=R:=e';omega))
 exact this.ilst
structure ThU(base:Nat)(w0:World)(S:Nat->Prop)(R E F:Nat)(qw:Nat->Nat)(told:ByteArray)(u:Twn)(BL BN:Nat)(lv nv:Value)(ws:List ByteArray)(zs:List Int)(dv:Value)(wk:World):Prop where
 ln:LnI base w0 S R E F qw told u BL BN lv nv ws zs wk
 cell:wk.cell? ⟨F,0,none⟩=some dv
 lt:F<wk.heap.size
 ds:zpw wk dv u.b.ds
theorem ThU.after{BL BN:Nat}{lv nv dv:Value}{ws:List ByteArray}{zs:List Int}(h:ThU base w0 S R E F qw told u BL BN lv nv ws zs dv wk)(hb:Below wk.heap.size wk w'):ThU base w0 S R E F qw told u BL BN lv nv ws zs dv w':=
 ⟨h.ln.after hb,zd7 h.cell hb,Nat.lt_of_lt_of_le h.lt hb.size,h.ds.below hb⟩
def byB(zs:List Int):ByteArray:=bl ([98,121]++zdz zs)
theorem byB_snoc(zs:List Int)(z:Int):byB (zs++[z])=byB zs++(⟨#[32]⟩++zc3 z):=by
 have e1:(⟨#[32]⟩:ByteArray)++zc3 z=bl (32::Lib.itoa z):=zf1 [32] (Lib.itoa z)
 unfold byB
 rw[e1,zf1,zqx,List.append_assoc]
theorem byB_size(zs:List Int)(h:∀z∈zs,inI z):(byB zs).size<=2+22*zs.length:=by
 unfold byB
 rw[zd8,List.length_append]
 have:=zsd zs h
 show 2+_<=_
 omega
theorem byB_told(zs:List Int):byB zs++nlS=bl (byW zs):=by
 have e:bl ([98,121]++zdz zs)++bl [10]=bl (([98,121]++zdz zs)++[10]):=zf1 _ _
 rw[byW,<-List.append_assoc,<-e]
 rfl
theorem line_rk(h:zcg base w0 S R E F qw told u (Th.no base) wk)(s:ByteArray)(hs:s.size<=10000)(ht:told.size<=800000000):
 Calls Tryz.prog 19 #[.pointer (some ⟨R,0,none⟩),.string s] wk fun e w'=>e= .returned (.tuple #[])/\zbk base w0 S R E F told (zaf u s.data.toList) w':=by
 have HI:=hid h
 have HT:=hid ht
 have HSZ:=hid hs
 clear h ht hs
 go_enter Tryz.func19,Tryz.ntmps19
 go_upto_region 0 with fail
 go_cut [4,5,6] (fun c4 c5 c6 wx=>WordR s c4 c5 c6/\zcg base w0 S R E F qw told u (Th.no base) wx)
 case first=>
  as_aux_lemma=>
   go_wp2_with fail
   refine(znk s _ (by have:=HSZ.out;omega)).mono ?_
   rintro e w1 ⟨rfl,hb⟩
   have H1:=hid (HI.out.after hb)
   clear hb HI
   rcases zrp s with⟨hc,hv⟩|⟨x,y,hc,hv,_⟩
   ·rw[hv]
    have HC:=hid hc
    clear hc hv
    go_wp2_with fail
    go_meet
    exact⟨.inl ⟨HC.out,rfl,rfl,rfl⟩,H1.out⟩
   rw[hv]
   have HC:=hid hc
   clear hc hv
   go_wp2_with fail
   go_meet
   exact⟨.inr ⟨x,y,HC.out,rfl,rfl,rfl⟩,H1.out⟩
 obtain⟨hwr,hI⟩:=hcut
 have H1:=hid hI
 have HWR:=hid hwr
 clear hI hwr HI
 go_upto_region 1 with fail
 go_cut [40] (fun c40 wx=>PutQ s u5 c40/\zcg base w0 S R E F qw told u (Th.no base) wx)
 case first=>
  as_aux_lemma=>
   rcases HWR.out with⟨hc,h4,h5,h6⟩|⟨x,y,hc,h4,h5,h6⟩
   ·have HC:=hid hc
    subst h4 h5 h6
    clear hc HWR
    go_wp2_with fail
    go_meet
    exact⟨.inl ⟨rfl,put_none HC.out⟩,H1.out⟩
   by_cases hx:x=[112,117,116]
   ·subst hx
    have HC:=hid hc
    have hbt:((bl [112,117,116]).toList==([112,117,116]:List UInt8))=true:=by rw[zbi];simp
    obtain⟨sx,hsx⟩:∃sx,bl [112,117,116]=sx:=⟨_,rfl⟩
    rw[hsx]at hbt h4
    subst h4 h5 h6
    clear hc HWR hsx
    go_wp2_with fail
    go_meet
    exact⟨.inr ⟨y,_,HC.out,rfl,rfl,rfl⟩,H1.out⟩
   have HC:=hid (qea hc hx)
   have hbt:((bl x).toList==([112,117,116]:List UInt8))=false:=by
    rw[zbi]
    simp only[decide_eq_false_iff_not]
    exact fun e=>hx (zpo e)
   obtain⟨sx,hsx⟩:∃sx,bl x=sx:=⟨_,rfl⟩
   rw[hsx]at hbt h4
   subst h4 h5 h6
   clear hc HWR hsx hx
   go_wp2_with fail
   go_meet
   exact⟨.inl ⟨rfl,HC.out⟩,H1.out⟩
 obtain⟨hpq,hI⟩:=hcut
 have H2:=hid hI
 have HPQ:=hid hpq
 clear hI hpq H1 HWR
 go_upto_if 40 with fail
 go_cut [] (fun wx=>NoPut base w0 S R E F qw told u s wx)
 case first=>
  as_aux_lemma=>
   rcases HPQ.out with⟨h40,hp⟩|⟨y,sy,hc,hsy,h5,h40⟩
   ·have HP:=hid hp
    subst h40
    clear hp HPQ
    go_wp2_with fail
    go_meet
    exact⟨HP.out,H2.out⟩
   have HC:=hid hc
   have HYL:Hid (y.length<=10000):=by
    show _<=_
    have:=zxw hc
    have:=HSZ.out
    rw[zav]at*
    omega
   have HSYE:=hid hsy
   have HSY:Hid (sy.size<=10000):=by show _<=_;rw[<-hsy,zd8 y];exact HYL.out
   subst h5 h40
   clear hc HPQ hsy
   go_wp2_with fail
   refine(znk sy _ (by have:=HSY.out;omega)).mono ?_
   rintro e w3 ⟨rfl,hb⟩
   have H3:=hid (H2.out.after hb)
   clear hb H2
   rcases zrp sy with⟨hc2,hv⟩|⟨b,more,hc2,hv,hbl⟩
   ·rw[<-HSYE.out,zhc]at hc2
    have HP:Hid (zew s.data.toList=none):=by show _=_;rw[qed _ HC.out,hc2]
    rw[hv]
    clear hc2 hv
    go_wp2_with fail
    refine(znk ⟨#[]⟩ _ (by decide)).mono ?_
    rintro e w4 ⟨rfl,hb⟩
    have HQ:=hid (H3.out.after hb)
    clear hb H3
    rw[show znd ⟨#[]⟩= .tuple #[.string ⟨#[]⟩,.string ⟨#[]⟩,.bool false] from rfl]
    go_wp2_with fail
    refine(zf6 sy _ HQ.out.rdy.ready (by have:=HSY.out;omega)).mono ?_
    rintro e wn1 ⟨⟨v1,rfl,hv1⟩,hb⟩
    have HQ1:=hid (HQ.out.after hb)
    have HV1:=hid hv1
    clear hb hv1 HQ
    obtain⟨o1,ho1⟩:∃o1,(zfo (sy)).isSome=o1:=⟨_,rfl⟩
    have HO1:=hid ho1
    rw[ho1]
    clear ho1
    go_wp2_with fail
    refine(zf6 ⟨#[]⟩ _ HQ1.out.rdy.ready (by decide)).mono ?_
    rintro e wn2 ⟨⟨v2,rfl,hv2⟩,hb⟩
    have HQ2:=hid (HQ1.out.after hb)
    have HV2:=hid hv2
    clear hb hv2 HQ1
    obtain⟨o2,ho2⟩:∃o2,(zfo (⟨#[]⟩)).isSome=o2:=⟨_,rfl⟩
    have HO2:=hid ho2
    rw[ho2]
    clear ho2
    go_wp2_with fail
    go_meet
    exact⟨HP.out,HQ2.out⟩
   rw[<-HSYE.out,zhc]at hc2
   rw[hv]
   have HC2:=hid hc2
   have HBL:Hid (b.length<=10000/\more.length<=10000):=by
    have:=zxw hc2
    have:=HYL.out
    exact⟨by omega,by omega⟩
   clear hc2 hv hbl
   obtain⟨sb,hsb⟩:∃sb,bl b=sb:=⟨_,rfl⟩
   have HSB:=hid hsb
   have HSBZ:Hid (sb.size<=10000):=by show _<=_;rw[<-hsb,zd8 b];exact HBL.out.1
   rw[hsb]
   clear hsb
   go_wp2_with fail
   refine(znk (bl more) _ (by rw[zd8 more];have:=HBL.out.2;omega)).mono ?_
   rintro e w4 ⟨rfl,hb⟩
   have HQ:=hid (H3.out.after hb)
   clear hb H3
   rcases zrp (bl more)with⟨hc3,hv⟩|⟨c,text,hc3,hv,hbl⟩
   ·rw[zhc]at hc3
    have HP:Hid (zew s.data.toList=none):=by show _=_;rw[qed _ HC.out,HC2.out];show(match zg3 more with|none=>none|some (c,text)=>_)=_;rw[hc3]
    rw[hv]
    obtain⟨sm,hsm⟩:∃sm,bl more=sm:=⟨_,rfl⟩
    have HSM:Hid (sm.size<=10000):=by show _<=_;rw[<-hsm,zd8 more];exact HBL.out.2
    rw[hsm]
    clear hc3 hv hsm
    go_wp2_with fail
    refine(zf6 sb _ HQ.out.rdy.ready (by have:=HSBZ.out;omega)).mono ?_
    rintro e wn1 ⟨⟨v1,rfl,hv1⟩,hb⟩
    have HQ1:=hid (HQ.out.after hb)
    have HV1:=hid hv1
    clear hb hv1 HQ
    obtain⟨o1,ho1⟩:∃o1,(zfo (sb)).isSome=o1:=⟨_,rfl⟩
    have HO1:=hid ho1
    rw[ho1]
    clear ho1
    go_wp2_with fail
    refine(zf6 sm _ HQ1.out.rdy.ready (by have:=HSM.out;omega)).mono ?_
    rintro e wn2 ⟨⟨v2,rfl,hv2⟩,hb⟩
    have HQ2:=hid (HQ1.out.after hb)
    have HV2:=hid hv2
    clear hb hv2 HQ1
    obtain⟨o2,ho2⟩:∃o2,(zfo (sm)).isSome=o2:=⟨_,rfl⟩
    have HO2:=hid ho2
    rw[ho2]
    clear ho2
    go_wp2_with fail
    go_meet
    exact⟨HP.out,HQ2.out⟩
   rw[zhc]at hc3
   rw[hv]
   have HC3:=hid hc3
   have HCL:Hid (c.length<=10000):=by
    show _<=_
    have:=zxw hc3
    have:=HBL.out.2
    omega
   clear hc3 hv hbl
   obtain⟨sc,hsc⟩:∃sc,bl c=sc:=⟨_,rfl⟩
   have HSC:=hid hsc
   have HSCZ:Hid (sc.size<=10000):=by show _<=_;rw[<-hsc,zd8 c];exact HCL.out
   rw[hsc]
   obtain⟨st,hst⟩:∃st,bl text=st:=⟨_,rfl⟩
   have HST:=hid hst
   rw[hst]
   clear hsc hst
   go_wp2_with fail
   refine(zf6 sb _ HQ.out.rdy.ready (by have:=HSBZ.out;omega)).mono ?_
   rintro e wn1 ⟨⟨v1,rfl,hv1⟩,hb⟩
   have HQ1:=hid (HQ.out.after hb)
   have HV1:=hid hv1
   clear hb hv1 HQ
   obtain⟨o1,ho1⟩:∃o1,(zfo (sb)).isSome=o1:=⟨_,rfl⟩
   have HO1:=hid ho1
   rw[ho1]
   clear ho1
   go_wp2_with fail
   refine(zf6 sc _ HQ1.out.rdy.ready (by have:=HSCZ.out;omega)).mono ?_
   rintro e wn2 ⟨⟨v2,rfl,hv2⟩,hb⟩
   have HQ2:=hid (HQ1.out.after hb)
   have HV2:=hid hv2
   clear hb hv2 HQ1
   obtain⟨o2,ho2⟩:∃o2,(zfo (sc)).isSome=o2:=⟨_,rfl⟩
   have HO2:=hid ho2
   rw[ho2]
   clear ho2
   have HPE:Hid (zew s.data.toList=match zfo sb with|none=>none|some w=>match zfo sc with|none=>none|some at_=>some (w,at_,text)):=by
    show _=_
    rw[qed _ HC.out,HC2.out]
    show(match zg3 more with|none=>none|some (c,text)=>_)=_
    rw[HC3.out,<-HSB.out,<-HSC.out]
   cases o1
   ·have HP:Hid (zew s.data.toList=none):=by
     have h1:=HO1.out
     rw[Option.isSome_eq_false_iff,Option.isNone_iff_eq_none]at h1
     show _=_
     rw[HPE.out,h1]
    go_wp2_with fail
    go_meet
    exact⟨HP.out,HQ2.out⟩
   cases o2
   ·have HP:Hid (zew s.data.toList=none):=by
     have h2:=HO2.out
     rw[Option.isSome_eq_false_iff,Option.isNone_iff_eq_none]at h2
     show _=_
     rw[HPE.out,h2]
     cases zfo sb<;>rfl
    go_wp2_with fail
    go_meet
    exact⟨HP.out,HQ2.out⟩
   have HP:Hid (zaf u s.data.toList=zc6 u ⟨2,v1,v2,0,st⟩):=by
    obtain⟨z1,e1⟩:=Option.isSome_iff_exists.1 HO1.out
    obtain⟨z2,e2⟩:=Option.isSome_iff_exists.1 HO2.out
    show _=_
    unfold zaf
    rw[HPE.out,e1,e2,HV1.out z1 e1,HV2.out z2 e2,<-HST.out]
   go_wp2_with fail
   refine(zxt HQ2.out ⟨2,v1,v2,0,st⟩ (by have:=HT.out;omega)).mono ?_
   rintro e w6 ⟨rfl,qw6,h6⟩
   have H6:Hid (zbk base w0 S R E F told (zaf u s.data.toList) w6):=by show zbk _ _ _ _ _ _ _ _ _;rw[HP.out];exact⟨qw6,h6⟩
   clear h6 HQ2
   go_wp2_with fail
   (try simp only[Exit.inBlock,Exit.then]);refine bodyPost_ret (results_none rfl _ _ _) rfl ?_
   exact⟨rfl,H6.out⟩
 obtain⟨hp,hI⟩:=hcut
 have HLK:Hid (zaf u s.data.toList=zg1 u (zax s.data.toList)):=by show zaf _ _=_;unfold zaf;rw[hp]
 have H3:=hid hI
 clear hI hp H2 HPQ
 go_wp2_with fail
 refine(qck s _ (by have:=HSZ.out;omega)).mono ?_
 rintro e w4 ⟨lv,rfl,hown,hb⟩
 have H4:=hid (H3.out.after hb)
 have HL4:=hid hown.lst
 have HWN:Hid ((zax s.data.toList).length<=10001/\∀w∈zax s.data.toList,w.length<=10000):=by
  have h1:=qcj s.data.toList
  have:=HSZ.out
  rw[zav]at h1
  exact⟨by omega,fun w hw=>by have:=h1.1 w hw;omega⟩
 clear hb H3
 obtain⟨ws,hws⟩:∃ws,zax s.data.toList=ws:=⟨_,rfl⟩
 rw[hws]at HL4 HLK HWN hown
 obtain⟨la,lc,rfl,_⟩:=hown.lst.len
 clear hown hws
 cases ws with
 |nil=>
  have HE:Hid (zbk base w0 S R E F told (zaf u s.data.toList) (w4.alloc (.cells #[.slice la 0 lc] 22))):=by
   show zbk _ _ _ _ _ _ _ _ _
   rw[HLK.out]
   refine⟨qw,?_⟩
   show zcg _ _ _ _ _ _ _ (told++bl []) _ _ _
   rw[qgs,List.append_nil,zjk]
   exact H4.out.after (za2 _ _)
  simp only[List.map_nil,List.length_nil]
  go_wp2_with fail
  (try simp only[Exit.inBlock,Exit.then]);refine bodyPost_ret (results_none rfl _ _ _) rfl ?_
  exact⟨rfl,HE.out⟩
 |cons k r=>
  have HRL:Hid (r.length<=10000/\(∀w∈r,w.length<=10000)):=⟨by have:=HWN.out.1;rw[List.length_cons]at this;omega,fun w hw=>HWN.out.2 w (List.mem_cons_of_mem _ hw)⟩
  have hrl:=HRL.out.1
  have hln:((k::r).map bl).length=r.length+1:=by simp
  rw[hln]at HL4⊢
  clear hln HWN
  obtain⟨wA,hwA⟩:∃wA,w4.alloc (.cells #[.slice la (r.length+1) lc] 22)=wA:=⟨_,rfl⟩
  have HA:Hid (zcg base w0 S R E F qw told u (Th.no base) wA):=by show zcg _ _ _ _ _ _ _ _ _ _ _;rw[<-hwA];exact H4.out.after (za2 _ _)
  have HAL:Hid (zbs wA (.slice la (r.length+1) lc) ((k::r).map bl)):=by show zbs _ _ _;rw[<-hwA];exact HL4.out.below (za2 _ _)
  have HAC:Hid (wA.cell? ⟨w4.heap.size,0,none⟩=some (.slice la (r.length+1) lc)/\w4.heap.size<wA.heap.size):=by rw[<-hwA];exact⟨by simp[go_sem],by simp⟩
  have cL:=HAC.out.1
  have hL:=HAC.out.2
  have hq1:(((r.length:Int)+1)==0)=false:=by rw[beq_eq_false_iff_ne];omega
  have hq2:(((r.length+1:Nat):Int)==0)=false:=by rw[beq_eq_false_iff_ne];omega
  go_wp2_with fail
  clear cL hL hwA hq1 hq2
  generalize w4.heap.size=BL at*
  have HN0:=hid (qeq wA)
  obtain⟨i0,hi,hz0,hz1,hz2⟩:=info_parts zss
  obtain⟨BN,hBN⟩:∃BN,wA.heap.size=BN:=⟨_,rfl⟩
  have HBN:=hid hBN
  rw[hBN]
  clear hBN
  go_loopw [19] (fun i wr=>∃(j:Nat) (nv:Value) (zs:List Int),j<=r.length/\i= .int .i64 ((j:Int)+1)/\Hid (zbw ((r.take j).map bl)=some zs)/\Hid (NbI wA nv zs wr)) (fun i _=>r.length+1-(intOf i).toNat)
  case atStart=>exact⟨0,.slice none 0 0,[],Nat.zero_le _,rfl,rfl,HN0.out⟩
  obtain⟨j,nv,zs,hj,rfl,HZ,HN⟩:=hrel
  clear HN0
  have HRk:=hid (HA.out.after HN.out.below)
  have cL:wr.cell? ⟨BL,0,none⟩=some (.slice la (r.length+1) lc):=zd7 HAC.out.1 HN.out.below
  have hL:BL<wr.heap.size:=by have:=HN.out.below.size;have:=HAC.out.2;omega
  by_cases hlt:j<r.length
  ·have hji:(j:Int)+1<(r.length:Int)+1:=by omega
   obtain⟨bb,off,rfl,hst⟩:=(HAL.out.below HN.out.below).row (by omega)
   have c0:=hst.cell (j+1) (by simp;omega)
   have hbl:=hst.lt
   simp only[List.map_cons,List.getElem_cons_succ,List.getElem_map]at c0
   have HX:Hid ((r.take (j+1)).map bl=(r.take j).map bl++[bl r[j]]):=by
    show _=_
    rw[List.take_succ_eq_append_getElem hlt,List.map_append]
    rfl
   have HXL:Hid ((bl r[j]).size<=10000):=by show _<=_;rw[zd8];exact HRL.out.2 _ (List.getElem_mem hlt)
   have HNO:Hid (zfo (bl r[j])=none->zbw (r.map bl)=none):=fun e=>zs9 (r.map bl) j (by rw[List.length_map];exact hlt) (by rw[List.getElem_map];exact e)
   generalize bl r[j]=x at*
   have HZL:Hid (zs.length=j):=by show _=_;have:=zhn _ _ HZ.out;rw[this,List.length_map,List.length_take];omega
   clear hst
   go_wp2_with fail
   refine(zf6 x _ HRk.out.rdy.ready (by have:=HXL.out;omega)).mono ?_
   rintro e w5 ⟨⟨v5,rfl,hv5⟩,hb⟩
   have H5:=hid (HN.out.after hb)
   have HK5:=hid (HRk.out.after hb)
   have HV5:=hid hv5
   clear hb hv5 HN HRk c0 cL hL hbl
   cases hx:zfo x with
   |none=>
    have HE:Hid (zaf u s.data.toList=(zg6,u)):=by
     show zaf _ _=_
     rw[HLK.out]
     exact qcl (HNO.out hx)
    clear hx
    simp only[Option.isSome_none]
    go_wp2_with fail
    refine(zgk HK5.out _ (by show _+4<=_;have:=HT.out;omega)).mono ?_
    rintro e w6 ⟨rfl,h6,-⟩
    have H6:Hid (zbk base w0 S R E F told (zaf u s.data.toList) w6):=by show zbk _ _ _ _ _ _ _ _ _;rw[HE.out];exact⟨qw,h6⟩
    clear h6 H5 HK5
    go_wp2_with fail
    (try simp only[Exit.inBlock,Exit.then]);refine bodyPost_ret (results_none rfl _ _ _) rfl ?_
    exact⟨rfl,H6.out⟩
   |some z=>
    have HRZ:Hid (zbw ((r.take (j+1)).map bl)=some (zs++[v5])):=by
     show zbw _=_
     rw[HX.out]
     exact zm5 _ _ _ _ HZ.out (by rw[hx,HV5.out z hx])
    clear hx
    simp only[Option.isSome_some]
    have H5a:Hid (NbI wA nv zs (w5.alloc (.cells #[.int .i64 v5] 3))):=H5.out.after (za2 _ _)
    have cN:=H5.out.cell
    have hN:=H5.out.lt
    rw[HBN.out]at cN hN
    go_wp2_with (at_builtin;refine wpList_append_own _ rfl (.tmp 102) (.tmp 104) 79 rfl (wA.heap.size+1) 3 i0 (.int .i64 0) 1 8 Tryz.underlying79 hi hz0 hz1 hz2 rfl (by decide) nv zs.length (ziu zs) rfl H5a.out.own ⟨w5.heap.size,0,none⟩ 1 1 [.int .i64 v5] (by simp[go_sem]) rfl (zno _ _) ?c2 ?c3 ?c4 ?c5 ?_)
    case c2=>intro u hu;simp at hu;subst hu;rfl
    case c3=>have:=HZL.out;have:=HRL.out.1;unfold maxLen;omega
    case c4=>have:=HZL.out;have:=HRL.out.1;omega
    case c5=>have:=H5a.out.lt;omega
    intro v' w6 hown' hgrow _
    obtain⟨d1,d2,d3⟩:=H5a.out.grown2 hgrow
    have HP:=hid (H5a.out.put hown' hgrow)
    rw[HBN.out]at d1 d2 d3 HP
    obtain⟨va,vc,hv⟩:=HP.out.own.ilst.len
    obtain⟨vn,hvn⟩:∃vn,(zs++[v5]).length=vn:=⟨_,rfl⟩
    rw[hvn]at hv
    subst hv
    clear hown' hgrow cN hN H5 H5a HK5 hvn
    go_wp2_with fail
    go_roundw
    case rel=>exact⟨j+1,.slice va vn vc,zs++[v5],by omega,by go_num,HRZ.out,HP.out⟩
    case measure=>simp[intOf];omega
  obtain rfl:j=r.length:=by omega
  have HRD:Hid (zbw (r.map bl)=some zs):=by have:=HZ.out;rw[List.take_length]at this;exact this
  have HLB:Hid (LnB BL BN (.slice la (r.length+1) lc) nv ((k::r).map bl) zs wr):=⟨cL,hL,by rw[<-HBN.out];exact HN.out.cell,by rw[<-HBN.out];exact HN.out.lt,HAL.out.below HN.out.below,HN.out.own.ilst⟩
  have HCM:Hid (zaf u s.data.toList=zcj u k zs):=by
   show zaf _ _=_
   rw[HLK.out]
   exact qab HRD.out
  have HZL:Hid (zs.length<=10000):=by show _<=_;have:=zhn _ _ HRD.out;rw[this,List.length_map];exact HRL.out.1
  clear HZ HN HAL HAC HA
  have hmf:∀(fn:Fn) (first cap:Array Value) (w:World),(Instr.makeFunc fn first cap).run Tryz.prog w= .ok (.func fn first cap) w:=fun _ _ _ _=>rfl
  obtain⟨na,nc,rfl⟩:=HLB.out.ns.len
  go_wp2_with fail
  refine(zmf HLB.out [116,97,107,101] 3).mono ?_
  rintro e wq ⟨rfl,hwq⟩
  rw[hwq]
  clear hwq wq
  by_cases hc:k=[116,97,107,101]/\zs.length=3
  ·rw[show isB k zs [116,97,107,101] 3=true from decide_eq_true hc]
   as_aux_lemma=>
    have HCQ:Hid (zaf u s.data.toList=zc6 u ⟨3,zs.getD 0 0,zs.getD 1 0,zs.getD 2 0,⟨#[]⟩⟩):=by
     show zaf _ _=_
     rw[HCM.out]
     unfold zcj
     rw[if_pos hc]
    obtain⟨z0,z1,z2,hz⟩:∃z0 z1 z2,zs=[z0,z1,z2]:=qb7 hc.2
    subst hz
    clear hc
    obtain⟨nb,no,rfl,_,_,_⟩:=HLB.out.ns.row (by show 0<3;decide)
    have HLI:Hid (LnI base w0 S R E F qw told u BL BN (.slice la (r.length+1) lc) (.slice (some ⟨nb,no,none⟩) 3 nc) ((k::r).map bl) [z0,z1,z2] wr):=⟨HRk.out,HLB.out⟩
    have HCE:Hid (∀wk,LnI base w0 S R E F qw told u BL BN (.slice la (r.length+1) lc) (.slice (some ⟨nb,no,none⟩) 3 nc) ((k::r).map bl) [z0,z1,z2] wk->∀i (h:i<[z0,z1,z2].length),wk.cell? ⟨nb,no+i,none⟩=some (.int .i64 [z0,z1,z2][i])):=fun wk hwk i hi=>by
     obtain⟨b3,o3,e3,_,_,r3⟩:=hwk.ln.ns.row (by decide)
     cases e3
     exact r3 i hi
    have HCB:Hid (∀wk,LnI base w0 S R E F qw told u BL BN (.slice la (r.length+1) lc) (.slice (some ⟨nb,no,none⟩) 3 nc) ((k::r).map bl) [z0,z1,z2] wk->nb<wk.heap.size):=fun wk hwk=>by
     obtain⟨b3,o3,e3,l3,_,_⟩:=hwk.ln.ns.row (by decide)
     cases e3
     exact l3
    go_wp2_with fail
    refine zfb (fun wk=>LnI base w0 S R E F qw told u BL BN (.slice la (r.length+1) lc) (.slice (some ⟨nb,no,none⟩) 3 nc) ((k::r).map bl) [z0,z1,z2] wk) (fun i=>i==11) (fun i=>i==11) (fun wk=>LnI base w0 S R E F qw told u BL BN (.slice la (r.length+1) lc) (.slice (some ⟨nb,no,none⟩) 3 nc) ((k::r).map bl) [z0,z1,z2] wk) (by kernel_rfl) (by kernel_rfl) (by kernel_rfl) (by kernel_rfl) (fun _ h=>h) (HLI.out.after (Below.refl _ _).drew) ?_
    refine zch (some 112) w0 (.pointer (some ⟨R,0,none⟩)) (.tmp 0) (.pointer (some ⟨R,0,none⟩)) ?_ ?_
    ·intros;go_simp
    go_big_quiet_op
    refine zch (some 113) w0 (.slice (some ⟨nb,no,none⟩) 3 nc) (.tmp 18) (.pointer (some ⟨BN,0,none⟩)) (fun wk hwk ρ s18=> ?_) ?_
    ·have cN:=hwk.ln.bn
     have hN:=hwk.ln.ln
     go_simp
    go_big_quiet_op
    refine zen (some 114) w0 rfl (.pointer (some ⟨nb,no+0,none⟩)) rfl (by kernel_rfl) (fun wk hwk=> ?_) ?_
    ·generalize hA:Act.eval _=ρ
     have s113:ρ (.tmp 113)= .slice (some ⟨nb,no,none⟩) 3 nc:=by rw[<-hA];kernel_rfl
     have k1:ρ (.const (.int .i64 (0)))= .int .i64 (0):=by rw[<-hA];kernel_rfl
     clear hA
     go_simp
    go_big_quiet_op
    refine zch (some 115) w0 (.int .i64 (z0)) (.tmp 114) (.pointer (some ⟨nb,no+0,none⟩)) (fun wk hwk ρ s114=> ?_) ?_
    ·have c1:=HCE.out wk hwk 0 (by simp)
     have hb1:=HCB.out wk hwk
     simp only[List.getElem_cons_zero,Nat.add_zero]at c1
     go_simp
    go_big_quiet_op
    refine zch (some 116) w0 (.slice (some ⟨nb,no,none⟩) 3 nc) (.tmp 18) (.pointer (some ⟨BN,0,none⟩)) (fun wk hwk ρ s18=> ?_) ?_
    ·have cN:=hwk.ln.bn
     have hN:=hwk.ln.ln
     go_simp
    go_big_quiet_op
    refine zen (some 117) w0 rfl (.pointer (some ⟨nb,no+1,none⟩)) rfl (by kernel_rfl) (fun wk hwk=> ?_) ?_
    ·generalize hA:Act.eval _=ρ
     have s116:ρ (.tmp 116)= .slice (some ⟨nb,no,none⟩) 3 nc:=by rw[<-hA];kernel_rfl
     have k1:ρ (.const (.int .i64 (1)))= .int .i64 (1):=by rw[<-hA];kernel_rfl
     clear hA
     go_simp
    go_big_quiet_op
    refine zch (some 118) w0 (.int .i64 (z1)) (.tmp 117) (.pointer (some ⟨nb,no+1,none⟩)) (fun wk hwk ρ s117=> ?_) ?_
    ·have c1:=HCE.out wk hwk 1 (by simp)
     have hb1:=HCB.out wk hwk
     simp only[List.getElem_cons_zero,List.getElem_cons_succ]at c1
     go_simp
    go_big_quiet_op
    refine zch (some 119) w0 (.slice (some ⟨nb,no,none⟩) 3 nc) (.tmp 18) (.pointer (some ⟨BN,0,none⟩)) (fun wk hwk ρ s18=> ?_) ?_
    ·have cN:=hwk.ln.bn
     have hN:=hwk.ln.ln
     go_simp
    go_big_quiet_op
    refine zen (some 120) w0 rfl (.pointer (some ⟨nb,no+2,none⟩)) rfl (by kernel_rfl) (fun wk hwk=> ?_) ?_
    ·generalize hA:Act.eval _=ρ
     have s119:ρ (.tmp 119)= .slice (some ⟨nb,no,none⟩) 3 nc:=by rw[<-hA];kernel_rfl
     have k1:ρ (.const (.int .i64 (2)))= .int .i64 (2):=by rw[<-hA];kernel_rfl
     clear hA
     go_simp
    go_big_quiet_op
    refine zch (some 121) w0 (.int .i64 (z2)) (.tmp 120) (.pointer (some ⟨nb,no+2,none⟩)) (fun wk hwk ρ s120=> ?_) ?_
    ·have c1:=HCE.out wk hwk 2 (by simp)
     have hb1:=HCB.out wk hwk
     simp only[List.getElem_cons_zero,List.getElem_cons_succ]at c1
     go_simp
    go_big_quiet_op
    refine zen (some 122) w0 rfl (tsV ⟨3,z0,z1,z2,⟨#[]⟩⟩) rfl (by kernel_rfl) (fun wk hwk=> ?_) ?_
    ·generalize hA:Act.eval _=ρ
     have s115:ρ (.tmp 115)= .int .i64 (z0):=by rw[<-hA];kernel_rfl
     have s118:ρ (.tmp 118)= .int .i64 (z1):=by rw[<-hA];kernel_rfl
     have s121:ρ (.tmp 121)= .int .i64 (z2):=by rw[<-hA];kernel_rfl
     have k3:ρ (.const (.int .i64 (3)))= .int .i64 (3):=by rw[<-hA];kernel_rfl
     clear hA
     go_simp
    go_big_quiet_op
    refine zgv (some 123) w0 rfl rfl rfl rfl (fun uu=>uu= .tuple #[]) (fun _ wk=>∃qw2,zcg base w0 S R E F qw2 (told++bl (zc6 u ⟨3,z0,z1,z2,⟨#[]⟩⟩).1) (zc6 u ⟨3,z0,z1,z2,⟨#[]⟩⟩).2 (Th.no base) wk) ⟨_,rfl⟩ (fun wk hwk=> ?_) (fun u9 hu9=> ?_)
    ·generalize hA:Act.eval _=ρ
     have s112:ρ (.tmp 112)= .pointer (some ⟨R,0,none⟩):=by rw[<-hA];kernel_rfl
     have s122:ρ (.tmp 122)=tsV ⟨3,z0,z1,z2,⟨#[]⟩⟩:=by rw[<-hA];kernel_rfl
     have sf:ρ (.func 32)= .func (.func 32) #[] #[]:=by rw[<-hA];kernel_rfl
     clear hA
     go_simp
     refine(zxt hwk.rk ⟨3,z0,z1,z2,⟨#[]⟩⟩ (by have:=HT.out;omega)).mono ?_
     rintro e w7 ⟨rfl,h7⟩
     exact⟨_,rfl,rfl,h7⟩
    subst hu9
    go_big_quiet_op
    refine zhg (fun w6 h6=> ?_)
    have H6:Hid (zbk base w0 S R E F told (zaf u s.data.toList) w6):=by show zbk _ _ _ _ _ _ _ _ _;rw[HCQ.out];exact h6
    clear h6
    go_wp2_with fail
    go_end0
    exact⟨rfl,H6.out⟩
  rw[show isB k zs [116,97,107,101] 3=false from decide_eq_false hc]
  have HN0:=hid hc
  clear hc
  go_wp2_with fail
  refine(zmf HLB.out [106,111,105,110] 1).mono ?_
  rintro e wq ⟨rfl,hwq⟩
  rw[hwq]
  clear hwq wq
  by_cases hc:k=[106,111,105,110]/\zs.length=1
  ·rw[show isB k zs [106,111,105,110] 1=true from decide_eq_true hc]
   as_aux_lemma=>
    have HCQ:Hid (zaf u s.data.toList=zc6 u ⟨1,zs.getD 0 0,0,0,⟨#[]⟩⟩):=by
     show zaf _ _=_
     rw[HCM.out]
     unfold zcj
     rw[if_neg HN0.out,if_pos hc]
    obtain⟨z,hz⟩:∃z,zs=[z]:=List.length_eq_one_iff.1 hc.2
    subst hz
    clear hc
    obtain⟨nb,no,rfl,hnb,_,hrow⟩:=HLB.out.ns.row (by show 0<1;decide)
    have c0:=hrow 0 (by simp)
    have cN:=HLB.out.bn
    have hN:=HLB.out.ln
    simp only[List.getElem_cons_zero,Nat.add_zero]at c0
    simp only[List.length_cons,List.length_nil,Nat.zero_add]at cN⊢
    go_wp2_with fail
    refine(zxt HRk.out ⟨1,z,0,0,⟨#[]⟩⟩ (by have:=HT.out;omega)).mono ?_
    rintro e w6 ⟨rfl,qw6,h6⟩
    have H6:Hid (zbk base w0 S R E F told (zaf u s.data.toList) w6):=by show zbk _ _ _ _ _ _ _ _ _;rw[HCQ.out];exact⟨qw6,h6⟩
    clear h6
    go_wp2_with fail
    go_end0
    exact⟨rfl,H6.out⟩
  rw[show isB k zs [106,111,105,110] 1=false from decide_eq_false hc]
  have HN1:=hid hc
  clear hc
  go_wp2_with fail
  refine(zmf HLB.out [115,101,110,100] 1).mono ?_
  rintro e wq ⟨rfl,hwq⟩
  rw[hwq]
  clear hwq wq
  by_cases hc:k=[115,101,110,100]/\zs.length=1
  ·rw[show isB k zs [115,101,110,100] 1=true from decide_eq_true hc]
   as_aux_lemma=>
    have HCQ:Hid (zaf u s.data.toList=zc6 u ⟨4,zs.getD 0 0,0,0,⟨#[]⟩⟩):=by
     show zaf _ _=_
     rw[HCM.out]
     unfold zcj
     rw[if_neg HN0.out,if_neg HN1.out,if_pos hc]
    obtain⟨z,hz⟩:∃z,zs=[z]:=List.length_eq_one_iff.1 hc.2
    subst hz
    clear hc
    obtain⟨nb,no,rfl,hnb,_,hrow⟩:=HLB.out.ns.row (by show 0<1;decide)
    have c0:=hrow 0 (by simp)
    have cN:=HLB.out.bn
    have hN:=HLB.out.ln
    simp only[List.getElem_cons_zero,Nat.add_zero]at c0
    simp only[List.length_cons,List.length_nil,Nat.zero_add]at cN⊢
    go_wp2_with fail
    refine(zxt HRk.out ⟨4,z,0,0,⟨#[]⟩⟩ (by have:=HT.out;omega)).mono ?_
    rintro e w6 ⟨rfl,qw6,h6⟩
    have H6:Hid (zbk base w0 S R E F told (zaf u s.data.toList) w6):=by show zbk _ _ _ _ _ _ _ _ _;rw[HCQ.out];exact⟨qw6,h6⟩
    clear h6
    go_wp2_with fail
    go_end0
    exact⟨rfl,H6.out⟩
  rw[show isB k zs [115,101,110,100] 1=false from decide_eq_false hc]
  have HN2:=hid hc
  clear hc
  go_wp2_with fail
  refine(zmf HLB.out [104,101,97,114] 1).mono ?_
  rintro e wq ⟨rfl,hwq⟩
  rw[hwq]
  clear hwq wq
  by_cases hc:k=[104,101,97,114]/\zs.length=1
  ·rw[show isB k zs [104,101,97,114] 1=true from decide_eq_true hc]
   as_aux_lemma=>
    have HCQ:Hid (zaf u s.data.toList=zc6 u ⟨5,zs.getD 0 0,0,0,⟨#[]⟩⟩):=by
     show zaf _ _=_
     rw[HCM.out]
     unfold zcj
     rw[if_neg HN0.out,if_neg HN1.out,if_neg HN2.out,if_pos hc]
    obtain⟨z,hz⟩:∃z,zs=[z]:=List.length_eq_one_iff.1 hc.2
    subst hz
    clear hc
    obtain⟨nb,no,rfl,hnb,_,hrow⟩:=HLB.out.ns.row (by show 0<1;decide)
    have c0:=hrow 0 (by simp)
    have cN:=HLB.out.bn
    have hN:=HLB.out.ln
    simp only[List.getElem_cons_zero,Nat.add_zero]at c0
    simp only[List.length_cons,List.length_nil,Nat.zero_add]at cN⊢
    go_wp2_with fail
    refine(zxt HRk.out ⟨5,z,0,0,⟨#[]⟩⟩ (by have:=HT.out;omega)).mono ?_
    rintro e w6 ⟨rfl,qw6,h6⟩
    have H6:Hid (zbk base w0 S R E F told (zaf u s.data.toList) w6):=by show zbk _ _ _ _ _ _ _ _ _;rw[HCQ.out];exact⟨qw6,h6⟩
    clear h6
    go_wp2_with fail
    go_end0
    exact⟨rfl,H6.out⟩
  rw[show isB k zs [104,101,97,114] 1=false from decide_eq_false hc]
  have HN3:=hid hc
  clear hc
  go_wp2_with fail
  refine(zmf HLB.out [99,108,101,97,114] 1).mono ?_
  rintro e wq ⟨rfl,hwq⟩
  rw[hwq]
  clear hwq wq
  by_cases hc:k=[99,108,101,97,114]/\zs.length=1
  ·rw[show isB k zs [99,108,101,97,114] 1=true from decide_eq_true hc]
   as_aux_lemma=>
    have HCQ:Hid (zaf u s.data.toList=zc6 u ⟨6,zs.getD 0 0,0,0,⟨#[]⟩⟩):=by
     show zaf _ _=_
     rw[HCM.out]
     unfold zcj
     rw[if_neg HN0.out,if_neg HN1.out,if_neg HN2.out,if_neg HN3.out,if_pos hc]
    obtain⟨z,hz⟩:∃z,zs=[z]:=List.length_eq_one_iff.1 hc.2
    subst hz
    clear hc
    obtain⟨nb,no,rfl,hnb,_,hrow⟩:=HLB.out.ns.row (by show 0<1;decide)
    have c0:=hrow 0 (by simp)
    have cN:=HLB.out.bn
    have hN:=HLB.out.ln
    simp only[List.getElem_cons_zero,Nat.add_zero]at c0
    simp only[List.length_cons,List.length_nil,Nat.zero_add]at cN⊢
    go_wp2_with fail
    refine(zxt HRk.out ⟨6,z,0,0,⟨#[]⟩⟩ (by have:=HT.out;omega)).mono ?_
    rintro e w6 ⟨rfl,qw6,h6⟩
    have H6:Hid (zbk base w0 S R E F told (zaf u s.data.toList) w6):=by show zbk _ _ _ _ _ _ _ _ _;rw[HCQ.out];exact⟨qw6,h6⟩
    clear h6
    go_wp2_with fail
    go_end0
    exact⟨rfl,H6.out⟩
  rw[show isB k zs [99,108,101,97,114] 1=false from decide_eq_false hc]
  have HN4:=hid hc
  clear hc
  go_wp2_with fail
  refine(zmf HLB.out [108,101,97,118,101] 1).mono ?_
  rintro e wq ⟨rfl,hwq⟩
  rw[hwq]
  clear hwq wq
  by_cases hc:k=[108,101,97,118,101]/\zs.length=1
  ·rw[show isB k zs [108,101,97,118,101] 1=true from decide_eq_true hc]
   as_aux_lemma=>
    have HCQ:Hid (zaf u s.data.toList=zc6 u ⟨7,zs.getD 0 0,0,0,⟨#[]⟩⟩):=by
     show zaf _ _=_
     rw[HCM.out]
     unfold zcj
     rw[if_neg HN0.out,if_neg HN1.out,if_neg HN2.out,if_neg HN3.out,if_neg HN4.out,if_pos hc]
    obtain⟨z,hz⟩:∃z,zs=[z]:=List.length_eq_one_iff.1 hc.2
    subst hz
    clear hc
    obtain⟨nb,no,rfl,hnb,_,hrow⟩:=HLB.out.ns.row (by show 0<1;decide)
    have c0:=hrow 0 (by simp)
    have cN:=HLB.out.bn
    have hN:=HLB.out.ln
    simp only[List.getElem_cons_zero,Nat.add_zero]at c0
    simp only[List.length_cons,List.length_nil,Nat.zero_add]at cN⊢
    go_wp2_with fail
    refine(zxt HRk.out ⟨7,z,0,0,⟨#[]⟩⟩ (by have:=HT.out;omega)).mono ?_
    rintro e w6 ⟨rfl,qw6,h6⟩
    have H6:Hid (zbk base w0 S R E F told (zaf u s.data.toList) w6):=by show zbk _ _ _ _ _ _ _ _ _;rw[HCQ.out];exact⟨qw6,h6⟩
    clear h6
    go_wp2_with fail
    go_end0
    exact⟨rfl,H6.out⟩
  rw[show isB k zs [108,101,97,118,101] 1=false from decide_eq_false hc]
  have HN5:=hid hc
  clear hc
  go_wp2_with fail
  refine(zmf HLB.out [116,101,120,116] 1).mono ?_
  rintro e wq ⟨rfl,hwq⟩
  rw[hwq]
  clear hwq wq
  by_cases hc:k=[116,101,120,116]/\zs.length=1
  ·rw[show isB k zs [116,101,120,116] 1=true from decide_eq_true hc]
   as_aux_lemma=>
    have HCQ:Hid (zaf u s.data.toList=(zi8 u (zs.getD 0 0),u)):=by
     show zaf _ _=_
     rw[HCM.out]
     unfold zcj
     rw[if_neg HN0.out,if_neg HN1.out,if_neg HN2.out,if_neg HN3.out,if_neg HN4.out,if_neg HN5.out,if_pos hc]
    obtain⟨z,hz⟩:∃z,zs=[z]:=List.length_eq_one_iff.1 hc.2
    subst hz
    clear hc
    obtain⟨nb,no,rfl,hnb,_,hrow⟩:=HLB.out.ns.row (by show 0<1;decide)
    have c0:=hrow 0 (by simp)
    have cN:=HLB.out.bn
    have hN:=HLB.out.ln
    simp only[List.getElem_cons_zero,Nat.add_zero]at c0
    simp only[List.length_cons,List.length_nil,Nat.zero_add]at cN⊢
    cases he:u.ws z with
    |none=>
     have HE:=hid he
     have HCR:Hid (zaf u s.data.toList=(noW 5,u)):=by
      show zaf _ _=_
      rw[HCQ.out]
      show(zi8 u z,u)=_
      unfold zi8
      rw[HE.out]
     clear he
     go_wp2_with fail
     refine(zop HRk.out HE.out (by have:=HT.out;omega)).mono ?_
     rintro e w6 ⟨rfl,h6⟩
     have H6:Hid (zbk base w0 S R E F told (zaf u s.data.toList) w6):=by show zbk _ _ _ _ _ _ _ _ _;rw[HCR.out];exact⟨qw,h6⟩
     clear h6
     go_wp2_with fail
     go_end0
     exact⟨rfl,H6.out⟩
    |some rr=>
     obtain⟨kk,rfl,hkk⟩:=HRk.out.here he
     have HE:=hid he
     have HCR:Hid (zaf u s.data.toList=(zfj (vw rr.list rr.seen rr.me),u)):=by
      show zaf _ _=_
      rw[HCQ.out]
      show(zi8 u kk,u)=_
      unfold zi8
      rw[HE.out]
     clear he
     go_wp2_with fail
     refine(zoo HRk.out hkk HE.out).mono ?_
     rintro e wq ⟨rfl,hwq⟩
     rw[hwq]
     clear hwq wq
     go_wp2_with fail
     refine(HRk.out.textK hkk HE.out).mono ?_
     rintro e w5 ⟨rfl,hb⟩
     have H5:=hid (HRk.out.after hb)
     have hsz:=(HRk.out.wlen HE.out).1
     have HTT:Hid ((⟨#[116,101,120,116,32]⟩++strOfNums (vw rr.list rr.seen rr.me))++nlS=bl (zfj (vw rr.list rr.seen rr.me))):=zob _
     obtain⟨st,hst⟩:∃st,strOfNums (vw rr.list rr.seen rr.me)=st:=⟨_,rfl⟩
     rw[hst]at hsz HTT⊢
     clear hst hb
     go_wp2_with fail
     refine(zgk H5.out _ (by rw[ByteArray.size_append];show _+(5+_)<=_;have:=HT.out;omega)).mono ?_
     rintro e w6 ⟨rfl,h6,-⟩
     have H6:Hid (zbk base w0 S R E F told (zaf u s.data.toList) w6):=by show zbk _ _ _ _ _ _ _ _ _;rw[HCR.out];rw[HTT.out]at h6;exact⟨qw,h6⟩
     clear h6
     go_wp2_with fail
     go_end0
     exact⟨rfl,H6.out⟩
  rw[show isB k zs [116,101,120,116] 1=false from decide_eq_false hc]
  have HN6:=hid hc
  clear hc
  go_wp2_with fail
  refine(zmf HLB.out [116,101,120,116] 0).mono ?_
  rintro e wq ⟨rfl,hwq⟩
  rw[hwq]
  clear hwq wq
  by_cases hc:k=[116,101,120,116]/\zs.length=0
  ·rw[show isB k zs [116,101,120,116] 0=true from decide_eq_true hc]
   as_aux_lemma=>
    have HCQ:Hid (zaf u s.data.toList=(zfj (zdj u.b.chars),u)):=by
     show zaf _ _=_
     rw[HCM.out]
     unfold zcj
     rw[if_neg HN0.out,if_neg HN1.out,if_neg HN2.out,if_neg HN3.out,if_neg HN4.out,if_neg HN5.out,if_neg HN6.out,if_pos hc]
    clear hc
    have g1:=HRk.out.cells.town
    have hlt1:=HRk.out.cells.lt
    have g2:=HRk.out.tw.book
    have hlt2:=HRk.out.tw.lt
    have HG:=hid HRk.out.ti.good
    go_wp2_with fail
    clear g1 hlt1 g2 hlt2
    refine HRk.out.charsK.mono ?_
    rintro e w5 ⟨v5,rfl,ho,hb⟩
    have H5:=hid (HRk.out.after hb)
    have HO:=hid ho.lst
    obtain⟨a5,c5,rfl,_⟩:=ho.lst.len
    clear ho hb
    go_wp2_with fail
    refine(zqn HO.out (by have:=zay (b:=u.b);omega) (zjd HG.out)).mono ?_
    rintro e w7 ⟨rfl,hb⟩
    rw[qfq HG.out]
    have H7:=hid (H5.out.after hb)
    clear hb H5 HO
    have hsz:(strOfNums (zdj u.b.chars)).size<=200:=by
     rw[zbn]
     unfold zdj
     rw[List.length_map]
     have:=List.length_filter_le zgg u.b.chars
     have:=zay (b:=u.b)
     omega
    have HTT:Hid ((⟨#[116,101,120,116,32]⟩++strOfNums (zdj u.b.chars))++nlS=bl (zfj (zdj u.b.chars))):=zob _
    obtain⟨st,hst⟩:∃st,strOfNums (zdj u.b.chars)=st:=⟨_,rfl⟩
    rw[hst]at hsz HTT⊢
    clear hst
    go_wp2_with fail
    refine(zgk H7.out _ (by rw[ByteArray.size_append];show _+(5+_)<=_;have:=HT.out;omega)).mono ?_
    rintro e w6 ⟨rfl,h6,-⟩
    have H6:Hid (zbk base w0 S R E F told (zaf u s.data.toList) w6):=by show zbk _ _ _ _ _ _ _ _ _;rw[HCQ.out];rw[HTT.out]at h6;exact⟨qw,h6⟩
    clear h6
    go_wp2_with fail
    go_end0
    exact⟨rfl,H6.out⟩
  rw[show isB k zs [116,101,120,116] 0=false from decide_eq_false hc]
  have HN7:=hid hc
  clear hc
  go_wp2_with fail
  refine(zmf HLB.out [111,112,101,110] 1).mono ?_
  rintro e wq ⟨rfl,hwq⟩
  rw[hwq]
  clear hwq wq
  by_cases hc:k=[111,112,101,110]/\zs.length=1
  ·rw[show isB k zs [111,112,101,110] 1=true from decide_eq_true hc]
   as_aux_lemma=>
    have HCQ:Hid (zaf u s.data.toList=(zho u (zs.getD 0 0),u)):=by
     show zaf _ _=_
     rw[HCM.out]
     unfold zcj
     rw[if_neg HN0.out,if_neg HN1.out,if_neg HN2.out,if_neg HN3.out,if_neg HN4.out,if_neg HN5.out,if_neg HN6.out,if_neg HN7.out,if_pos hc]
    obtain⟨z,hz⟩:∃z,zs=[z]:=List.length_eq_one_iff.1 hc.2
    subst hz
    clear hc
    obtain⟨nb,no,rfl,hnb,_,hrow⟩:=HLB.out.ns.row (by show 0<1;decide)
    have c0:=hrow 0 (by simp)
    have cN:=HLB.out.bn
    have hN:=HLB.out.ln
    simp only[List.getElem_cons_zero,Nat.add_zero]at c0
    simp only[List.length_cons,List.length_nil,Nat.zero_add]at cN⊢
    cases he:u.ws z with
    |none=>
     have HE:=hid he
     have HCR:Hid (zaf u s.data.toList=(noW 5,u)):=by
      show zaf _ _=_
      rw[HCQ.out]
      show(zho u z,u)=_
      unfold zho
      rw[HE.out]
     clear he
     go_wp2_with fail
     refine(zop HRk.out HE.out (by have:=HT.out;omega)).mono ?_
     rintro e w6 ⟨rfl,h6⟩
     have H6:Hid (zbk base w0 S R E F told (zaf u s.data.toList) w6):=by show zbk _ _ _ _ _ _ _ _ _;rw[HCR.out];exact⟨qw,h6⟩
     clear h6
     go_wp2_with fail
     go_end0
     exact⟨rfl,H6.out⟩
    |some rr=>
     obtain⟨kk,rfl,hkk⟩:=HRk.out.here he
     have HE:=hid he
     have HCR:Hid (zaf u s.data.toList=(zb3 rr.opens++zpe,u)):=by
      show zaf _ _=_
      rw[HCQ.out]
      show(zho u kk,u)=_
      unfold zho
      rw[HE.out]
     clear he
     go_wp2_with fail
     refine(zoo HRk.out hkk HE.out).mono ?_
     rintro e wq ⟨rfl,hwq⟩
     rw[hwq]
     clear hwq wq
     obtain⟨ov,g3,hlt3,hdv⟩:=HRk.out.openK hkk HE.out
     have HDV:=hid hdv
     have HDL:=hid ((HRk.out.wlen HE.out).2)
     clear hdv
     go_wp2_with fail
     clear g3 hlt3
     refine(zzy HRk.out HDV.out HDL.out (by have:=HT.out;omega)).mono ?_
     rintro e w6 ⟨rfl,h6⟩
     have H6:Hid (zbk base w0 S R E F told (zaf u s.data.toList) w6):=by show zbk _ _ _ _ _ _ _ _ _;rw[HCR.out];exact⟨qw,h6⟩
     clear h6
     go_wp2_with fail
     go_end0
     exact⟨rfl,H6.out⟩
  rw[show isB k zs [111,112,101,110] 1=false from decide_eq_false hc]
  have HN8:=hid hc
  clear hc
  go_wp2_with fail
  refine(zmf HLB.out [108,111,103] 0).mono ?_
  rintro e wq ⟨rfl,hwq⟩
  rw[hwq]
  clear hwq wq
  by_cases hc:k=[108,111,103]/\zs.length=0
  ·rw[show isB k zs [108,111,103] 0=true from decide_eq_true hc]
   as_aux_lemma=>
    have HCQ:Hid (zaf u s.data.toList=(zb3 u.b.ds++zpe,u)):=by
     show zaf _ _=_
     rw[HCM.out]
     unfold zcj
     rw[if_neg HN0.out,if_neg HN1.out,if_neg HN2.out,if_neg HN3.out,if_neg HN4.out,if_neg HN5.out,if_neg HN6.out,if_neg HN7.out,if_neg HN8.out,if_pos hc]
    clear hc
    have g1:=HRk.out.cells.town
    have hlt1:=HRk.out.cells.lt
    have g2:=HRk.out.tw.book
    have hlt2:=HRk.out.tw.lt
    obtain⟨dv,g3,hlt3,hdv⟩:=HRk.out.logK
    have HDV:=hid hdv
    have HDL:Hid (u.b.ds.length<=1000):=by show _<=_;have:=HRk.out.ti.good.small;omega
    clear hdv
    go_wp2_with fail
    clear g1 hlt1 g2 hlt2 g3 hlt3
    refine(zzy HRk.out HDV.out HDL.out (by have:=HT.out;omega)).mono ?_
    rintro e w6 ⟨rfl,h6⟩
    have H6:Hid (zbk base w0 S R E F told (zaf u s.data.toList) w6):=by show zbk _ _ _ _ _ _ _ _ _;rw[HCQ.out];exact⟨qw,h6⟩
    clear h6
    go_wp2_with fail
    go_end0
    exact⟨rfl,H6.out⟩
  rw[show isB k zs [108,111,103] 0=false from decide_eq_false hc]
  have HN9:=hid hc
  clear hc
  go_wp2_with fail
  refine(zmf HLB.out [116,104,101,110] 1).mono ?_
  rintro e wq ⟨rfl,hwq⟩
  rw[hwq]
  clear hwq wq
  by_cases hc:k=[116,104,101,110]/\zs.length=1
  ·rw[show isB k zs [116,104,101,110] 1=true from decide_eq_true hc]
   as_aux_lemma=>
    have HCQ:Hid (zaf u s.data.toList=(zh9 u (zs.getD 0 0),u)):=by
     show zaf _ _=_
     rw[HCM.out]
     unfold zcj
     rw[if_neg HN0.out,if_neg HN1.out,if_neg HN2.out,if_neg HN3.out,if_neg HN4.out,if_neg HN5.out,if_neg HN6.out,if_neg HN7.out,if_neg HN8.out,if_neg HN9.out,if_pos hc]
    obtain⟨z,hz⟩:∃z,zs=[z]:=List.length_eq_one_iff.1 hc.2
    subst hz
    clear hc
    obtain⟨nb,no,rfl,_,_,_⟩:=HLB.out.ns.row (by show 0<1;decide)
    obtain⟨dv,g3,hlt3,hdv⟩:=HRk.out.logK
    obtain⟨da,dc,rfl,_⟩:=znx (hdv wr (zam.refl _ _))
    have hG:=HRk.out.ti.good
    obtain⟨dn,hdn⟩:∃dn,u.b.ds.length=dn:=⟨_,rfl⟩
    rw[hdn]at g3 hdv
    have HLI:Hid (ThU base w0 S R E F qw told u BL BN (.slice la (r.length+1) lc) (.slice (some ⟨nb,no,none⟩) 1 nc) ((k::r).map bl) [z] (.slice da dn dc) wr):=⟨⟨HRk.out,HLB.out⟩,g3,hlt3,hdv wr (zam.refl _ _)⟩
    have HCE:Hid (∀wk,ThU base w0 S R E F qw told u BL BN (.slice la (r.length+1) lc) (.slice (some ⟨nb,no,none⟩) 1 nc) ((k::r).map bl) [z] (.slice da dn dc) wk->wk.cell? ⟨nb,no,none⟩=some (.int .i64 z)):=fun wk hwk=>by
     obtain⟨b3,o3,e3,_,_,r3⟩:=hwk.ln.ln.ns.row (by show 0<1;decide)
     cases e3
     exact r3 0 (by show 0<1;decide)
    have HCB:Hid (∀wk,ThU base w0 S R E F qw told u BL BN (.slice la (r.length+1) lc) (.slice (some ⟨nb,no,none⟩) 1 nc) ((k::r).map bl) [z] (.slice da dn dc) wk->nb<wk.heap.size):=fun wk hwk=>by
     obtain⟨b3,o3,e3,l3,_,_⟩:=hwk.ln.ln.ns.row (by show 0<1;decide)
     cases e3
     exact l3
    have HTO:Hid (∀wk,ThU base w0 S R E F qw told u BL BN (.slice la (r.length+1) lc) (.slice (some ⟨nb,no,none⟩) 1 nc) ((k::r).map bl) [z] (.slice da dn dc) wk->Calls Tryz.prog 41 #[.slice da dn dc,.int .i64 z] wk fun e w'=>∃v,e= .returned (.tuple #[.string (strOfNums ((thS u.b z).map (·.c))),v,.bool (inS u.b z)])/\zps w' wk.heap.size v ((thS u.b z).map (·.by_))/\Below wk.heap.size wk w'):=fun wk hwk=>told_own hwk.ds hG z
    have HBY:Hid (∀y∈(thS u.b z).map (·.by_),inI y):=by_in hG z
    have HZL:Hid (((thS u.b z).map (·.by_)).length<=200):=by show _<=_;rw[List.length_map];have:=ztn u.b z;have:=zay (b:=u.b);omega
    have hsz:(strOfNums ((thS u.b z).map (·.c))).size<=200:=by rw[zbn,List.length_map];have:=HZL.out;rw[List.length_map]at this;exact this
    have HTT:Hid ((⟨#[116,101,120,116,32]⟩++strOfNums ((thS u.b z).map (·.c)))++nlS=bl (zfj ((thS u.b z).map (·.c)))):=zob _
    have HE1:Hid (inS u.b z=true->zaf u s.data.toList=(zfj ((thS u.b z).map (·.c))++byW ((thS u.b z).map (·.by_)),u)):=fun e=>by
     rw[HCQ.out]
     show(zh9 u z,u)=_
     unfold zh9
     rw[if_pos e]
    have HE0:Hid (inS u.b z=false->zaf u s.data.toList=(noW 5,u)):=fun e=>by
     rw[HCQ.out]
     show(zh9 u z,u)=_
     unfold zh9
     rw[if_neg (by rw[e];decide)]
    clear g3 hlt3 hdv hG hdn
    generalize hTL:zfj ((thS u.b z).map (·.c))=tL at*
    clear hTL
    generalize strOfNums ((thS u.b z).map (·.c))=sT at*
    generalize (thS u.b z).map (·.by_)=zB at*
    generalize inS u.b z=bI at*
    go_wp2_with fail
    refine zbz (fun wk=>ThU base w0 S R E F qw told u BL BN (.slice la (r.length+1) lc) (.slice (some ⟨nb,no,none⟩) 1 nc) ((k::r).map bl) [z] (.slice da dn dc) wk) (fun i=>i==13) (fun wk=>ThU base w0 S R E F qw told u BL BN (.slice la (r.length+1) lc) (.slice (some ⟨nb,no,none⟩) 1 nc) ((k::r).map bl) [z] (.slice da dn dc) wk) (by kernel_rfl) (by kernel_rfl) (by kernel_rfl) (fun _ h=>h) (fun _ _ h hb=>h.after hb) (HLI.out.after (Below.refl _ _).drew) ?_
    refine za1 (some 234) w0 (.pointer (some ⟨R,0,none⟩)) (.tmp 0) (.pointer (some ⟨R,0,none⟩)) ?_ ?_
    ·intros;go_simp
    go_big_quiet_op
    refine za1 (some 235) w0 (.pointer (some ⟨R,0,none⟩)) (.tmp 234) (.pointer (some ⟨R,0,none⟩)) ?_ ?_
    ·intros;go_simp
    go_big_quiet_op
    refine za1 (some 236) w0 (.pointer (some ⟨R,1,none⟩)) (.tmp 235) (.pointer (some ⟨R,0,none⟩)) ?_ ?_
    ·intros;go_simp
    go_big_quiet_op
    refine za1 (some 237) w0 (.pointer (some ⟨E,0,none⟩)) (.tmp 236) (.pointer (some ⟨R,1,none⟩)) (fun wk hwk ρ s236=> ?_) ?_
    ·have g1:=hwk.ln.rk.cells.town
     have hlt:=hwk.ln.rk.cells.lt
     go_simp
    go_big_quiet_op
    refine za1 (some 238) w0 (.pointer (some ⟨E,0,none⟩)) (.tmp 237) (.pointer (some ⟨E,0,none⟩)) ?_ ?_
    ·intros;go_simp
    go_big_quiet_op
    refine za1 (some 239) w0 (.pointer (some ⟨E,0,none⟩)) (.tmp 238) (.pointer (some ⟨E,0,none⟩)) ?_ ?_
    ·intros;go_simp
    go_big_quiet_op
    refine za1 (some 240) w0 (.pointer (some ⟨F,0,none⟩)) (.tmp 239) (.pointer (some ⟨E,0,none⟩)) (fun wk hwk ρ s239=> ?_) ?_
    ·have g1:=hwk.ln.rk.tw.book
     have hlt:=hwk.ln.rk.tw.lt
     go_simp
    go_big_quiet_op
    refine za1 (some 241) w0 (.pointer (some ⟨F,0,none⟩)) (.tmp 240) (.pointer (some ⟨F,0,none⟩)) ?_ ?_
    ·intros;go_simp
    go_big_quiet_op
    refine za1 (some 242) w0 (.pointer (some ⟨F,0,none⟩)) (.tmp 241) (.pointer (some ⟨F,0,none⟩)) ?_ ?_
    ·intros;go_simp
    go_big_quiet_op
    refine za1 (some 243) w0 (.slice da dn dc) (.tmp 242) (.pointer (some ⟨F,0,none⟩)) (fun wk hwk ρ s242=> ?_) ?_
    ·have g1:=hwk.cell
     have hlt:=hwk.lt
     go_simp
    go_big_quiet_op
    refine za1 (some 244) w0 (.slice (some ⟨nb,no,none⟩) 1 nc) (.tmp 18) (.pointer (some ⟨BN,0,none⟩)) (fun wk hwk ρ s18=> ?_) ?_
    ·have cN:=hwk.ln.ln.bn
     have hN:=hwk.ln.ln.ln
     go_simp
    go_big_quiet_op
    refine wgb (some 245) w0 rfl (.pointer (some ⟨nb,no+0,none⟩)) rfl (by kernel_rfl) (fun wk hwk=> ?_) ?_
    ·refine gus ?_
     generalize hA:Act.eval _=ρ
     have s244:ρ (.tmp 244)= .slice (some ⟨nb,no,none⟩) 1 nc:=by rw[<-hA];kernel_rfl
     have k1:ρ (.const (.int .i64 (0)))= .int .i64 (0):=by rw[<-hA];kernel_rfl
     clear hA
     go_simp
    go_big_quiet_op
    refine za1 (some 246) w0 (.int .i64 (z)) (.tmp 245) (.pointer (some ⟨nb,no+0,none⟩)) (fun wk hwk ρ s245=> ?_) ?_
    ·have c1:=HCE.out wk hwk
     have hb1:=HCB.out wk hwk
     go_simp
    go_big_quiet_op
    refine zbe (some 247) w0 rfl rfl rfl (fun uu=>ToldV sT bI uu) (fun uu wk=>ThU base w0 S R E F qw told u BL BN (.slice la (r.length+1) lc) (.slice (some ⟨nb,no,none⟩) 1 nc) ((k::r).map bl) [z] (.slice da dn dc) wk/\qa5 R sT bI zB uu wk) (⟨_,undef,rfl⟩) (fun _ _ h=>h.1) (fun _ _ _ h hb=>⟨h.1.after hb,h.2.after hb⟩) (fun wk hwk=> ?_) (fun u9 hu9=> ?_)
    ·generalize hA:Act.eval _=ρ
     have s243:ρ (.tmp 243)= .slice da dn dc:=by rw[<-hA];kernel_rfl
     have s246:ρ (.tmp 246)= .int .i64 (z):=by rw[<-hA];kernel_rfl
     have sf:ρ (.func 41)= .func (.func 41) #[] #[]:=by rw[<-hA];kernel_rfl
     clear hA
     go_simp
     refine(HTO.out wk hwk).mono ?_
     rintro e w7 ⟨v7,rfl,h7,hb7⟩
     exact⟨_,rfl,⟨v7,rfl⟩,hwk.after hb7,v7,_,rfl,hwk.ln.rk.cells.lt,h7⟩
    obtain⟨tv,rfl⟩:=hu9
    go_big_quiet_op
    refine za1 (some 233) w0 (.tuple #[.string sT,tv,.bool bI]) (.tmp 247) (.tuple #[.string sT,tv,.bool bI]) ?_ ?_
    ·intros;go_simp
    go_big_quiet_op
    refine za1 (some 248) w0 (.string sT) (.tmp 233) (.tuple #[.string sT,tv,.bool bI]) ?_ ?_
    ·intros;go_simp
    go_big_quiet_op
    refine za1 (some 249) w0 (tv) (.tmp 233) (.tuple #[.string sT,tv,.bool bI]) ?_ ?_
    ·intros;go_simp
    go_big_quiet_op
    refine za1 (some 250) w0 (.bool bI) (.tmp 233) (.tuple #[.string sT,tv,.bool bI]) ?_ ?_
    ·intros;go_simp
    go_big_quiet_op
    refine za1 (some 25) w0 (.string sT) (.tmp 248) (.string sT) ?_ ?_
    ·intros;go_simp
    go_big_quiet_op
    refine za1 (some 26) w0 (tv) (.tmp 249) (tv) ?_ ?_
    ·intros;go_simp
    go_big_quiet_op
    refine za1 (some 27) w0 (.bool bI) (.tmp 250) (.bool bI) ?_ ?_
    ·intros;go_simp
    go_big_quiet_op
    refine zds (fun w6 hw6=> ?_)
    obtain⟨hU6,tv2,m6,he6,hm6,ho6⟩:=hw6
    obtain rfl:tv=tv2:=by simpa using he6
    obtain⟨ta,tc,rfl⟩:=ho6.ilst.len
    have H6:=hid hU6.ln.rk
    have HO6:Hid (zps w6 m6 (.slice ta zB.length tc) zB/\R<m6):=⟨ho6,hm6⟩
    clear hU6 ho6 hm6 he6 HCE HCB HTO HLI HRk
    cases bI
    case false=>
     obtain⟨sc,hscz,hscE,hscC⟩:=zzf
     have HSE:=hid hscE
     have HSC:=hid hscC
     clear hscE hscC HTT
     go_wp2_with fail
     refine(HSC.out _ H6.out.rdy.ready).mono ?_
     rintro e w7 ⟨rfl,hb⟩
     have H7:=hid (H6.out.after hb)
     clear hb H6
     go_wp2_with fail
     refine(zgk H7.out _ (by rw[ByteArray.size_append];show _+(3+_)<=_;have:=HT.out;omega)).mono ?_
     rintro e w8 ⟨rfl,h8,-⟩
     have H8:Hid (zbk base w0 S R E F told (zaf u s.data.toList) w8):=by show zbk _ _ _ _ _ _ _ _ _;rw[HE0.out (by trivial)];rw[HSE.out]at h8;exact⟨qw,h8⟩
     clear h8
     go_wp2_with fail
     (try simp only[Exit.inBlock,Exit.then]);refine bodyPost_ret (results_none rfl _ _ _) rfl ?_
     exact⟨rfl,H8.out⟩
    go_wp2_with fail
    refine(zgk H6.out _ (by rw[ByteArray.size_append];show _+(5+_)<=_;have:=HT.out;omega)).mono ?_
    rintro e w7 ⟨rfl,h7,hk7⟩
    rw[HTT.out]at h7
    have H7:=hid h7
    have HIL:=hid (qeh HO6.out.1 HO6.out.2 hk7)
    have HTZ:Hid ((told++bl tL).size<=800000206):=by
     show _<=_
     have e:=congrArg ByteArray.size HTT.out
     rw[ByteArray.size_append,ByteArray.size_append]at e
     have e2:(⟨#[116,101,120,116,32]⟩:ByteArray).size=5:=rfl
     have e3:nlS.size=1:=rfl
     rw[ByteArray.size_append,<-e]
     have:=HT.out
     omega
    clear h7 hk7 H6 HO6 HTT
    go_wp2_with fail
    go_loopw [28,29] (fun c i wx=>∃j:Nat,j<=zB.length/\c= .string (byB (zB.take j))/\i= .int .i64 j/\Hid (Below w7.heap.size w7 wx)) (fun _ i _=>zB.length-(intOf i).toNat)
    case atStart=>exact⟨0,Nat.zero_le _,rfl,rfl,Below.refl _ _⟩
    obtain⟨j2,hj2,rfl,rfl,HB⟩:=hrel
    have hzl:=HZL.out
    have HBZ:Hid ((byB (zB.take j2)).size<=100000):=by
     show _<=_
     have h1:=byB_size (zB.take j2) (fun y hy=>HBY.out y (List.mem_of_mem_take hy))
     rw[List.length_take]at h1
     have:=HZL.out
     omega
    by_cases hlt:j2<zB.length
    ·have hji:(j2:Int)<(zB.length:Int):=by omega
     obtain⟨b8,o8,rfl,hb8,_,r8⟩:=(HIL.out.below HB.out).row (by omega)
     have c8:=r8 j2 hlt
     have HN:Hid (byB (zB.take (j2+1))=byB (zB.take j2)++(⟨#[32]⟩++zc3 zB[j2])):=by show _=_;rw[List.take_succ_eq_append_getElem hlt,byB_snoc]
     have hin:inI zB[j2]:=HBY.out _ (List.getElem_mem hlt)
     have HNC:Hid (∀w,zck w->Calls Tryz.prog 42 #[.int .i64 zB[j2]] w fun e w'=>e= .returned (.string (zc3 zB[j2]))/\Below w.heap.size w w'):=fun w hw=>zj7 _ hin w hw
     have hz8:(zc3 zB[j2]).size<=21:=zbx hin
     have hbz:=HBZ.out
     generalize byB (zB.take j2)=sb at*
     generalize zc3 zB[j2]=s8 at*
     generalize zB[j2]=y8 at*
     clear hin r8
     go_wp2_with fail
     clear c8 hb8
     refine(HNC.out _ (H7.out.after HB.out).rdy.ready).mono ?_
     rintro e w8 ⟨rfl,hb⟩
     have HB8:=hid (bla HB.out hb)
     clear hb HB
     have hz9:(⟨#[32]⟩++s8:ByteArray).size<=100:=by rw[ByteArray.size_append];show 1+_<=_;omega
     go_wp2_with fail
     go_roundw
     case rel=>exact⟨j2+1,by omega,by rw[HN.out],by go_num,HB8.out⟩
     case measure=>simp[intOf];omega
    obtain rfl:j2=zB.length:=by omega
    have HTK:Hid (byB (zB.take zB.length)++nlS=bl (byW zB)):=by show _=_;rw[List.take_length];exact byB_told _
    generalize byB (zB.take zB.length)=sb at*
    go_wp2_with fail
    refine(zgk (H7.out.after HB.out) _ (by have:=HTZ.out;have:=HBZ.out;omega)).mono ?_
    rintro e w8 ⟨rfl,h8,-⟩
    have H8:Hid (zbk base w0 S R E F told (zaf u s.data.toList) w8):=by
     show zbk _ _ _ _ _ _ _ _ _
     rw[HE1.out (by trivial)]
     rw[HTK.out,ByteArray.append_assoc,zf1]at h8
     exact⟨qw,h8⟩
    clear h8
    go_wp2_with fail
    go_end0
    exact⟨rfl,H8.out⟩
  rw[show isB k zs [116,104,101,110] 1=false from decide_eq_false hc]
  have HN10:=hid hc
  clear hc
  go_wp2_with fail
  refine(zmf HLB.out [115,101,116,116,108,101] 0).mono ?_
  rintro e wq ⟨rfl,hwq⟩
  rw[hwq]
  clear hwq wq
  by_cases hc:k=[115,101,116,116,108,101]/\zs.length=0
  ·rw[show isB k zs [115,101,116,116,108,101] 0=true from decide_eq_true hc]
   as_aux_lemma=>
    have HCQ:Hid (zaf u s.data.toList=(okW,zep u)):=by
     show zaf _ _=_
     rw[HCM.out]
     unfold zcj
     rw[if_neg HN0.out,if_neg HN1.out,if_neg HN2.out,if_neg HN3.out,if_neg HN4.out,if_neg HN5.out,if_neg HN6.out,if_neg HN7.out,if_neg HN8.out,if_neg HN9.out,if_neg HN10.out,if_pos hc]
    clear hc
    have g1:=HRk.out.cells.town
    have hlt1:=HRk.out.cells.lt
    go_wp2_with fail
    clear g1 hlt1
    refine HRk.out.settles.mono ?_
    rintro e w5 ⟨rfl,qw5,h5⟩
    have H5:=hid h5
    clear h5
    go_wp2_with fail
    refine(zgk H5.out _ (by show _+2<=_;have:=HT.out;omega)).mono ?_
    rintro e w6 ⟨rfl,h6,-⟩
    have H6:Hid (zbk base w0 S R E F told (zaf u s.data.toList) w6):=by show zbk _ _ _ _ _ _ _ _ _;rw[HCQ.out];exact⟨qw5,h6⟩
    clear h6
    go_wp2_with fail
    go_end0
    exact⟨rfl,H6.out⟩
  rw[show isB k zs [115,101,116,116,108,101] 0=false from decide_eq_false hc]
  have HN11:=hid hc
  clear hc
  go_wp2_with fail
  refine(zmf HLB.out [108,101,97,115,116] 0).mono ?_
  rintro e wq ⟨rfl,hwq⟩
  rw[hwq]
  clear hwq wq
  by_cases hc:k=[108,101,97,115,116]/\zs.length=0
  ·rw[show isB k zs [108,101,97,115,116] 0=true from decide_eq_true hc]
   as_aux_lemma=>
    have HCQ:Hid (zaf u s.data.toList=(ze0 (zap u.b) u.b.len,u)):=by
     show zaf _ _=_
     rw[HCM.out]
     unfold zcj
     rw[if_neg HN0.out,if_neg HN1.out,if_neg HN2.out,if_neg HN3.out,if_neg HN4.out,if_neg HN5.out,if_neg HN6.out,if_neg HN7.out,if_neg HN8.out,if_neg HN9.out,if_neg HN10.out,if_neg HN11.out,if_pos hc]
    clear hc
    obtain⟨dv,g3,hlt3,hdv⟩:=HRk.out.logK
    obtain⟨da,dc,rfl,_⟩:=znx (hdv wr (zam.refl _ _))
    have hG:=HRk.out.ti.good
    have hle:=zfp u.b
    have hsm:=hG.small
    have hge:0<=zap u.b:=zgz (by show(0:Int)<=(u.b.ds.length:Int);omega) (fun w _ _=>(hG.said w).1)
    have hlen:u.b.len=(u.b.ds.length:Int):=rfl
    have HinL:Hid (inI (zap u.b)):=by show inI _;unfold inI;omega
    have HinN:Hid (inI (u.b.ds.length:Int)):=by show inI _;unfold inI;omega
    have HLN:Hid (∀wk,zck wk->Calls Tryz.prog 42 #[.int .i64 (zap u.b)] wk fun e w'=>e= .returned (.string (zc3 (zap u.b)))/\Below wk.heap.size wk w'):=fun wk hw=>zj7 _ HinL.out wk hw
    have HNN:Hid (∀wk,zck wk->Calls Tryz.prog 42 #[.int .i64 (u.b.ds.length:Int)] wk fun e w'=>e= .returned (.string (zc3 (u.b.ds.length:Int)))/\Below wk.heap.size wk w'):=fun wk hw=>zj7 _ HinN.out wk hw
    have hz1:(zc3 (zap u.b)).size<=21:=zbx HinL.out
    have hz2:(zc3 (u.b.ds.length:Int)).size<=21:=zbx HinN.out
    have HTT:Hid ((⟨#[108,101,97,115,116,32]⟩++zc3 (zap u.b)++⟨#[32]⟩++zc3 (u.b.ds.length:Int))++nlS=bl (ze0 (zap u.b) u.b.len)):=qba _ _
    have HLE:Hid (∀wk,(∃tx,zcg base w0 S R E F qw tx u (Th.no base) wk)->Calls Tryz.prog 44 #[.pointer (some ⟨F,0,none⟩)] wk fun e w'=>e= .returned (.int .i64 (zap u.b))/\w'=wk):=fun wk ⟨tx,hx⟩=>hx.leastK
    have HNE:=hid HRk.out.bookNe
    obtain⟨dn,hdn⟩:∃dn,u.b.ds.length=dn:=⟨_,rfl⟩
    obtain⟨lL,hlL⟩:∃lL,zap u.b=lL:=⟨_,rfl⟩
    rw[hdn]at g3 HNN hz2 HTT hsm
    rw[hlL]at HLN hz1 HTT HLE
    obtain⟨sL,hsL⟩:∃sL,zc3 lL=sL:=⟨_,rfl⟩
    obtain⟨sN,hsN⟩:∃sN,zc3 (dn:Int)=sN:=⟨_,rfl⟩
    rw[hsL]at HLN hz1 HTT
    rw[hsN]at HNN hz2 HTT
    have HD0:Hid (zcg base w0 S R E F qw told u (Th.no base) wr/\wr.cell? ⟨F,0,none⟩=some (.slice da dn dc)/\F<wr.heap.size):=⟨HRk.out,g3,hlt3⟩
    clear g3 hlt3 hdv hG hle hge hlen hdn hsL hsN HinL HinN
    go_wp2_with fail
    refine zbz (fun wk=>LsU base w0 S R E F qw u (.slice da dn dc) wk) (fun i=>i==25) (fun wk=>zcg base w0 S R E F qw told u (Th.no base) wk/\wk.cell? ⟨F,0,none⟩=some (.slice da dn dc)/\F<wk.heap.size) (by kernel_rfl) (by kernel_rfl) (by kernel_rfl) (fun _ h=>⟨⟨_,h.1⟩,h.2.1,h.2.2⟩) (fun _ _ h hb=>⟨h.1.after hb,zd7 h.2.1 hb,Nat.lt_of_lt_of_le h.2.2 hb.size⟩) (⟨HD0.out.1.after (Below.refl _ _).drew,HD0.out.2.1,HD0.out.2.2⟩) ?_
    refine za1 (some 291) w0 (.pointer (some ⟨R,0,none⟩)) (.tmp 0) (.pointer (some ⟨R,0,none⟩)) ?_ ?_
    ·intros;go_simp
    go_big_quiet_op
    refine za1 (some 292) w0 (.pointer (some ⟨R,0,none⟩)) (.tmp 0) (.pointer (some ⟨R,0,none⟩)) ?_ ?_
    ·intros;go_simp
    go_big_quiet_op
    refine za1 (some 293) w0 (.pointer (some ⟨R,0,none⟩)) (.tmp 292) (.pointer (some ⟨R,0,none⟩)) ?_ ?_
    ·intros;go_simp
    go_big_quiet_op
    refine za1 (some 294) w0 (.pointer (some ⟨R,1,none⟩)) (.tmp 293) (.pointer (some ⟨R,0,none⟩)) ?_ ?_
    ·intros;go_simp
    go_big_quiet_op
    refine za1 (some 295) w0 (.pointer (some ⟨E,0,none⟩)) (.tmp 294) (.pointer (some ⟨R,1,none⟩)) (fun wk hwk ρ s294=> ?_) ?_
    ·obtain⟨tx,hx⟩:=hwk.rk
     have g1:=hx.cells.town
     have hlt:=hx.cells.lt
     go_simp
    go_big_quiet_op
    refine za1 (some 296) w0 (.pointer (some ⟨E,0,none⟩)) (.tmp 295) (.pointer (some ⟨E,0,none⟩)) ?_ ?_
    ·intros;go_simp
    go_big_quiet_op
    refine za1 (some 297) w0 (.pointer (some ⟨E,0,none⟩)) (.tmp 296) (.pointer (some ⟨E,0,none⟩)) ?_ ?_
    ·intros;go_simp
    go_big_quiet_op
    refine za1 (some 298) w0 (.pointer (some ⟨F,0,none⟩)) (.tmp 297) (.pointer (some ⟨E,0,none⟩)) (fun wk hwk ρ s297=> ?_) ?_
    ·obtain⟨tx,hx⟩:=hwk.rk
     have g1:=hx.tw.book
     have hlt:=hx.tw.lt
     go_simp
    go_big_quiet_op
    refine wgb (some 299) w0 rfl (.int .i64 (lL)) rfl (by kernel_rfl) (fun wk hwk=> ?_) ?_
    ·generalize hA:Act.eval _=ρ
     have s298:ρ (.tmp 298)= .pointer (some ⟨F,0,none⟩):=by rw[<-hA];kernel_rfl
     have sf:ρ (.func 44)= .func (.func 44) #[] #[]:=by rw[<-hA];kernel_rfl
     clear hA
     unfold zcb
     go_simp
     exact(HLE.out wk hwk.rk).mono (fun _ _ ⟨he,hw⟩=>⟨he,by rw[hw];exact Below.refl _ _⟩)
    go_big_quiet_op
    refine wgb (some 300) w0 rfl (.string sL) rfl (by kernel_rfl) (fun wk hwk=> ?_) ?_
    ·generalize hA:Act.eval _=ρ
     have s299:ρ (.tmp 299)= .int .i64 (lL):=by rw[<-hA];kernel_rfl
     have sf:ρ (.func 42)= .func (.func 42) #[] #[]:=by rw[<-hA];kernel_rfl
     clear hA
     unfold zcb
     go_simp
     obtain⟨tx,hx⟩:=hwk.rk
     exact HLN.out wk hx.rdy.ready
    go_big_quiet_op
    refine wgb (some 301) w0 rfl (.string (⟨#[108,101,97,115,116,32]⟩++sL)) rfl (by kernel_rfl) (fun wk hwk=> ?_) ?_
    ·refine gus ?_
     generalize hA:Act.eval _=ρ
     have s300:ρ (.tmp 300)= .string sL:=by rw[<-hA];kernel_rfl
     have k1:ρ (.const (.string ⟨#[108,101,97,115,116,32]⟩))= .string ⟨#[108,101,97,115,116,32]⟩:=by rw[<-hA];kernel_rfl
     clear hA
     go_simp
     omega
    go_big_quiet_op
    refine wgb (some 302) w0 rfl (.string (⟨#[108,101,97,115,116,32]⟩++sL++⟨#[32]⟩)) rfl (by kernel_rfl) (fun wk hwk=> ?_) ?_
    ·refine gus ?_
     generalize hA:Act.eval _=ρ
     have s301:ρ (.tmp 301)= .string (⟨#[108,101,97,115,116,32]⟩++sL):=by rw[<-hA];kernel_rfl
     have k1:ρ (.const (.string ⟨#[32]⟩))= .string ⟨#[32]⟩:=by rw[<-hA];kernel_rfl
     clear hA
     have hs6:(⟨#[108,101,97,115,116,32]⟩++sL:ByteArray).size<=100:=by rw[ByteArray.size_append];show 6+_<=_;omega
     go_simp
     omega
    go_big_quiet_op
    refine za1 (some 303) w0 (.pointer (some ⟨R,0,none⟩)) (.tmp 0) (.pointer (some ⟨R,0,none⟩)) ?_ ?_
    ·intros;go_simp
    go_big_quiet_op
    refine za1 (some 304) w0 (.pointer (some ⟨R,0,none⟩)) (.tmp 303) (.pointer (some ⟨R,0,none⟩)) ?_ ?_
    ·intros;go_simp
    go_big_quiet_op
    refine za1 (some 305) w0 (.pointer (some ⟨R,1,none⟩)) (.tmp 304) (.pointer (some ⟨R,0,none⟩)) ?_ ?_
    ·intros;go_simp
    go_big_quiet_op
    refine za1 (some 306) w0 (.pointer (some ⟨E,0,none⟩)) (.tmp 305) (.pointer (some ⟨R,1,none⟩)) (fun wk hwk ρ s305=> ?_) ?_
    ·obtain⟨tx,hx⟩:=hwk.rk
     have g1:=hx.cells.town
     have hlt:=hx.cells.lt
     go_simp
    go_big_quiet_op
    refine za1 (some 307) w0 (.pointer (some ⟨E,0,none⟩)) (.tmp 306) (.pointer (some ⟨E,0,none⟩)) ?_ ?_
    ·intros;go_simp
    go_big_quiet_op
    refine za1 (some 308) w0 (.pointer (some ⟨E,0,none⟩)) (.tmp 307) (.pointer (some ⟨E,0,none⟩)) ?_ ?_
    ·intros;go_simp
    go_big_quiet_op
    refine za1 (some 309) w0 (.pointer (some ⟨F,0,none⟩)) (.tmp 308) (.pointer (some ⟨E,0,none⟩)) (fun wk hwk ρ s308=> ?_) ?_
    ·obtain⟨tx,hx⟩:=hwk.rk
     have g1:=hx.tw.book
     have hlt:=hx.tw.lt
     go_simp
    go_big_quiet_op
    refine za1 (some 310) w0 (.pointer (some ⟨F,0,none⟩)) (.tmp 309) (.pointer (some ⟨F,0,none⟩)) ?_ ?_
    ·intros;go_simp
    go_big_quiet_op
    refine za1 (some 311) w0 (.pointer (some ⟨F,0,none⟩)) (.tmp 310) (.pointer (some ⟨F,0,none⟩)) ?_ ?_
    ·intros;go_simp
    go_big_quiet_op
    refine za1 (some 312) w0 (.slice da dn dc) (.tmp 311) (.pointer (some ⟨F,0,none⟩)) (fun wk hwk ρ s311=> ?_) ?_
    ·have g1:=hwk.cell
     have hlt:=hwk.lt
     go_simp
    go_big_quiet_op
    refine za1 (some 313) w0 (.int .i64 ((dn:Int))) (.tmp 312) (.slice da dn dc) ?_ ?_
    ·intros;go_simp
    go_big_quiet_op
    refine wgb (some 314) w0 rfl (.string sN) rfl (by kernel_rfl) (fun wk hwk=> ?_) ?_
    ·generalize hA:Act.eval _=ρ
     have s313:ρ (.tmp 313)= .int .i64 ((dn:Int)):=by rw[<-hA];kernel_rfl
     have sf:ρ (.func 42)= .func (.func 42) #[] #[]:=by rw[<-hA];kernel_rfl
     clear hA
     unfold zcb
     go_simp
     obtain⟨tx,hx⟩:=hwk.rk
     exact HNN.out wk hx.rdy.ready
    go_big_quiet_op
    refine wgb (some 315) w0 rfl (.string (⟨#[108,101,97,115,116,32]⟩++sL++⟨#[32]⟩++sN)) rfl (by kernel_rfl) (fun wk hwk=> ?_) ?_
    ·refine gus ?_
     generalize hA:Act.eval _=ρ
     have s302:ρ (.tmp 302)= .string (⟨#[108,101,97,115,116,32]⟩++sL++⟨#[32]⟩):=by rw[<-hA];kernel_rfl
     have s314:ρ (.tmp 314)= .string sN:=by rw[<-hA];kernel_rfl
     clear hA
     have hs6:(⟨#[108,101,97,115,116,32]⟩++sL++⟨#[32]⟩:ByteArray).size<=100:=by rw[ByteArray.size_append,ByteArray.size_append];show 6+_+1<=_;omega
     go_simp
     omega
    go_big_quiet_op
    refine zbe (some 316) w0 rfl rfl rfl (fun uu=>uu= .tuple #[]) (fun _ wk=>zcg base w0 S R E F qw (told++(⟨#[108,101,97,115,116,32]⟩++sL++⟨#[32]⟩++sN++nlS)) u (Th.no base) wk/\wk.cell? ⟨F,0,none⟩=some (.slice da dn dc)/\F<wk.heap.size) (⟨_,rfl⟩) (fun _ _ h=>⟨⟨_,h.1⟩,h.2.1,h.2.2⟩) (fun _ _ _ h hb=>⟨h.1.after hb,zd7 h.2.1 hb,Nat.lt_of_lt_of_le h.2.2 hb.size⟩) (fun wk hwk=> ?_) (fun u9 hu9=> ?_)
    ·generalize hA:Act.eval _=ρ
     have s291:ρ (.tmp 291)= .pointer (some ⟨R,0,none⟩):=by rw[<-hA];kernel_rfl
     have s315:ρ (.tmp 315)= .string (⟨#[108,101,97,115,116,32]⟩++sL++⟨#[32]⟩++sN):=by rw[<-hA];kernel_rfl
     have sf:ρ (.func 34)= .func (.func 34) #[] #[]:=by rw[<-hA];kernel_rfl
     clear hA
     go_simp
     refine(zgk hwk.1 _ (by rw[ByteArray.size_append,ByteArray.size_append,ByteArray.size_append];show _+(6+_+1+_)<=_;have:=HT.out;omega)).mono ?_
     rintro e w7 ⟨rfl,h7,hk7⟩
     exact⟨_,rfl,rfl,h7,by rw[World.cell?_of_block (a:=⟨F,0,none⟩) (hk7.block F hwk.2.2 HNE.out)];exact hwk.2.1,Nat.lt_of_lt_of_le hwk.2.2 hk7.size⟩
    subst hu9
    go_big_quiet_op
    refine zds (fun w6 hw6=> ?_)
    have h6:=hw6.1
    have H6:Hid (zbk base w0 S R E F told (zaf u s.data.toList) w6):=by show zbk _ _ _ _ _ _ _ _ _;rw[HCQ.out,hlL];rw[HTT.out]at h6;exact⟨qw,h6⟩
    clear hw6
    clear h6
    go_wp2_with fail
    go_end0
    exact⟨rfl,H6.out⟩
  rw[show isB k zs [108,101,97,115,116] 0=false from decide_eq_false hc]
  have HN12:=hid hc
  clear hc
  go_wp2_with fail
  have HCQ:Hid (zaf u s.data.toList=(zg6,u)):=by
   show zaf _ _=_
   rw[HCM.out]
   unfold zcj
   rw[if_neg HN0.out,if_neg HN1.out,if_neg HN2.out,if_neg HN3.out,if_neg HN4.out,if_neg HN5.out,if_neg HN6.out,if_neg HN7.out,if_neg HN8.out,if_neg HN9.out,if_neg HN10.out,if_neg HN11.out,if_neg HN12.out]
  refine(zgk HRk.out _ (by show _+4<=_;have:=HT.out;omega)).mono ?_
  rintro e w6 ⟨rfl,h6,-⟩
  have H6:Hid (zbk base w0 S R E F told (zaf u s.data.toList) w6):=by show zbk _ _ _ _ _ _ _ _ _;rw[HCQ.out];exact⟨qw,h6⟩
  clear h6
  go_wp2_with fail
  go_end0
  exact⟨rfl,H6.out⟩
end
end Go.Proofs.YtcbnnfeelhlapadGreatDoor