/-
  The reference's desk: line.
-/
import Derived.Test.YtcbnnfeelhlapadGreatDoorKMath
import Derived.Test.YtcbnnfeelhlapadGreatDoorKLI
import Derived.Test.YtcbnnfeelhlapadGreatDoorStR
import Derived.Test.YtcbnnfeelhlapadGreatDoorFDeeds
import Derived.Test.YtcbnnfeelhlapadGreatDoorTRel
import Derived.Deep.DeepCutAuto
namespace Go.Proofs.YtcbnnfeelhlapadGreatDoor
set_option maxHeartbeats 40000000
set_option maxRecDepth 20000
open Go Go.RowKit
section
variable {base R E F:Nat} {qw:Nat→Nat} {w0 wk w':World} {S:Nat→Prop} {told:ByteArray} {u:Twn} {ex:Th base}
def WordR(s:ByteArray)(c4 c5 c6:Value):Prop:=(zf2 s.data.toList=none∧c4= .string s∧c5= .string ⟨#[]⟩∧c6= .bool false)∨∃x y,zf2 s.data.toList=some (x,y)∧c4= .string (bl x)∧c5= .string (bl y)∧c6= .bool true
theorem zro(s:ByteArray):(zf2 s.data.toList=none∧zne s= .tuple #[.string s,.string ⟨#[]⟩,.bool false])∨∃x y,zf2 s.data.toList=some (x,y)∧zne s= .tuple #[.string (bl x),.string (bl y),.bool true]∧x.length+y.length≤s.size:=by
 cases h:zf2 s.data.toList with
 |none=>exact .inl ⟨rfl,by rw[zne,h]⟩
 |some p=>
  obtain⟨x,y⟩:=p
  refine .inr ⟨x,y,rfl,by rw[zne,h],?_⟩
  have:=congrArg List.length (zez h)
  rw[List.length_append,List.length_cons,zay]at this
  omega
def PutQ(s:ByteArray)(c5 c40:Value):Prop:=(c40= .bool false∧zeq s.data.toList=none)∨∃y sy,zf2 s.data.toList=some ([112,117,116],y)∧bl y=sy∧c5= .string sy∧c40= .bool true
theorem qec(s:List UInt8){y:List UInt8}(h:zf2 s=some ([112,117,116],y)):zeq s=match zf2 y with
 |none=>none
 |some (b,more)=>match zf2 more with
  |none=>none
  |some (c,text)=>match ze3 (bl b)with
   |none=>none
   |some w=>match ze3 (bl c)with
    |none=>none
    |some at_=>some (w,at_,text):=by
 unfold zeq
 rw[h]
 exact if_pos rfl
theorem qe9{s x y:List UInt8}(h:zf2 s=some (x,y))(hx:x≠[112,117,116]):zeq s=none:=by
 unfold zeq
 rw[h]
 exact if_neg hx
theorem put_none{s:List UInt8}(h:zf2 s=none):zeq s=none:=by
 unfold zeq
 rw[h]
theorem zxx{s x y:List UInt8}(h:zf2 s=some (x,y)):x.length+y.length+1=s.length:=by
 have:=congrArg List.length (zez h)
 rw[List.length_append,List.length_cons]at this
 omega
def NoPut(base:Nat)(w0:World)(S:Nat→Prop)(R E F:Nat)(qw:Nat→Nat)(told:ByteArray)(u:Twn)(s:ByteArray)(wx:World):Prop:=zeq s.data.toList=none∧zbi base w0 S R E F qw told u (Th.no base) wx
def zbn(base:Nat)(w0:World)(S:Nat→Prop)(R E F:Nat)(told:ByteArray)(p:List UInt8×Twn)(w':World):Prop:=∃qw',zbi base w0 S R E F qw' (told++bl p.1) p.2 (Th.no base) w'
def ToldV(s:ByteArray)(g:Bool)(v:Value):Prop:=∃tv,v= .tuple #[.string s,tv,.bool g]
def qa3(R:Nat)(s:ByteArray)(g:Bool)(zs:List Int)(v:Value)(wk:World):Prop:=∃tv m,v= .tuple #[.string s,tv,.bool g]∧R<m∧zpv wk m tv zs
theorem qa3.after{s:ByteArray}{g:Bool}{zs:List Int}{v:Value}(h:qa3 R s g zs v wk)(hb:Below wk.heap.size wk w'):qa3 R s g zs v w':=by
 obtain⟨tv,m,h1,h2,h3⟩:=h
 exact⟨tv,m,h1,h2,za3 h3 (fun k e=>hb.block k (World.ownsRow.lt h3 k e).2)⟩
theorem qef{m:Nat}{tv:Value}{zs:List Int}(h:zpv wk m tv zs)(hm:R<m)(hk:zak (fun k=>k=R) wk w'):zlq w' tv zs:=by
 have:zpv w' m tv zs:=za3 h (fun k e=>by
  obtain⟨h1,h2⟩:=World.ownsRow.lt h k e
  exact hk.block k h2 (fun e'=>by have e2:k=R:=e';omega))
 exact this.ilst
structure ThU(base:Nat)(w0:World)(S:Nat→Prop)(R E F:Nat)(qw:Nat→Nat)(told:ByteArray)(u:Twn)(BL BN:Nat)(lv nv:Value)(ws:List ByteArray)(zs:List Int)(dv:Value)(wk:World):Prop where
 ln:LnI base w0 S R E F qw told u BL BN lv nv ws zs wk
 cell:wk.cell? ⟨F,0,none⟩=some dv
 lt:F<wk.heap.size
 ds:zkz wk dv u.b.ds
theorem ThU.after{BL BN:Nat}{lv nv dv:Value}{ws:List ByteArray}{zs:List Int}(h:ThU base w0 S R E F qw told u BL BN lv nv ws zs dv wk)(hb:Below wk.heap.size wk w'):ThU base w0 S R E F qw told u BL BN lv nv ws zs dv w':=
 ⟨h.ln.after hb,zd8 h.cell hb,Nat.lt_of_lt_of_le h.lt hb.size,h.ds.below hb⟩
def byB(zs:List Int):ByteArray:=bl ([98,121]++zdv zs)
theorem byB_snoc(zs:List Int)(z:Int):byB (zs++[z])=byB zs++(⟨#[32]⟩++zc4 z):=by
 have e1:(⟨#[32]⟩:ByteArray)++zc4 z=bl (32::Lib.itoa z):=zf5 [32] (Lib.itoa z)
 unfold byB
 rw[e1,zf5,zqv,List.append_assoc]
theorem byB_size(zs:List Int)(h:∀z∈zs,inI z):(byB zs).size≤2+22*zs.length:=by
 unfold byB
 rw[zd9,List.length_append]
 have:=zsc zs h
 show 2+_≤_
 omega
theorem byB_told(zs:List Int):byB zs++nlS=bl (byW zs):=by
 have e:bl ([98,121]++zdv zs)++bl [10]=bl (([98,121]++zdv zs)++[10]):=zf5 _ _
 rw[byW,←List.append_assoc,←e]
 rfl
theorem line_rk(h:zbi base w0 S R E F qw told u (Th.no base) wk)(s:ByteArray)(hs:s.size≤10000)(ht:told.size≤800000000):
 Calls Tryz.prog 19 #[.pointer (some ⟨R,0,none⟩),.string s] wk fun e w'=>e= .returned (.tuple #[])∧zbn base w0 S R E F told (zae u s.data.toList) w':=by
 have HI:Hid (zbi base w0 S R E F qw told u (Th.no base) wk):=h
 have HT:Hid (told.size≤800000000):=ht
 have HSZ:Hid (s.size≤10000):=hs
 clear h ht hs
 go_enter Tryz.func19,Tryz.ntmps19
 go_upto_region 0 with fail
 go_cut [4,5,6] (fun c4 c5 c6 wx=>WordR s c4 c5 c6∧zbi base w0 S R E F qw told u (Th.no base) wx)
 case first=>
  as_aux_lemma=>
   go_wp2_with fail
   refine(znk s _ (by have:=HSZ.out;omega)).mono ?_
   rintro e w1 ⟨rfl,hb⟩
   have H1:Hid (zbi base w0 S R E F qw told u (Th.no base) w1):=HI.out.after hb
   clear hb HI
   rcases zro s with⟨hc,hv⟩|⟨x,y,hc,hv,_⟩
   ·rw[hv]
    have HC:Hid (zf2 s.data.toList=none):=hc
    clear hc hv
    go_wp2_with fail
    go_meet
    exact⟨.inl ⟨HC.out,rfl,rfl,rfl⟩,H1.out⟩
   ·rw[hv]
    have HC:Hid (zf2 s.data.toList=some (x,y)):=hc
    clear hc hv
    go_wp2_with fail
    go_meet
    exact⟨.inr ⟨x,y,HC.out,rfl,rfl,rfl⟩,H1.out⟩
 case rest=>
  obtain⟨hwr,hI⟩:=hcut
  have H1:Hid (zbi base w0 S R E F qw told u (Th.no base) wc):=hI
  have HWR:Hid (WordR s u4 u5 u6):=hwr
  clear hI hwr HI
  go_upto_region 1 with fail
  go_cut [40] (fun c40 wx=>PutQ s u5 c40∧zbi base w0 S R E F qw told u (Th.no base) wx)
  case first=>
   as_aux_lemma=>
    rcases HWR.out with⟨hc,h4,h5,h6⟩|⟨x,y,hc,h4,h5,h6⟩
    ·have HC:Hid (zf2 s.data.toList=none):=hc
     subst h4 h5 h6
     clear hc HWR
     go_wp2_with fail
     go_meet
     exact⟨.inl ⟨rfl,put_none HC.out⟩,H1.out⟩
    ·by_cases hx:x=[112,117,116]
     ·subst hx
      have HC:Hid (zf2 s.data.toList=some ([112,117,116],y)):=hc
      have hbt:((bl [112,117,116]).toList==([112,117,116]:List UInt8))=true:=by rw[zbk];simp
      obtain⟨sx,hsx⟩:∃sx,bl [112,117,116]=sx:=⟨_,rfl⟩
      rw[hsx]at hbt h4
      subst h4 h5 h6
      clear hc HWR hsx
      go_wp2_with fail
      go_meet
      exact⟨.inr ⟨y,_,HC.out,rfl,rfl,rfl⟩,H1.out⟩
     ·have HC:Hid (zeq s.data.toList=none):=qe9 hc hx
      have hbt:((bl x).toList==([112,117,116]:List UInt8))=false:=by
       rw[zbk]
       simp only[decide_eq_false_iff_not]
       exact fun e=>hx (zpq e)
      obtain⟨sx,hsx⟩:∃sx,bl x=sx:=⟨_,rfl⟩
      rw[hsx]at hbt h4
      subst h4 h5 h6
      clear hc HWR hsx hx
      go_wp2_with fail
      go_meet
      exact⟨.inl ⟨rfl,HC.out⟩,H1.out⟩
  case rest=>
   obtain⟨hpq,hI⟩:=hcut
   have H2:Hid (zbi base w0 S R E F qw told u (Th.no base) wc):=hI
   have HPQ:Hid (PutQ s u5 u40):=hpq
   clear hI hpq H1 HWR
   go_upto_if 40 with fail
   go_cut [] (fun wx=>NoPut base w0 S R E F qw told u s wx)
   case first=>
    as_aux_lemma=>
     rcases HPQ.out with⟨h40,hp⟩|⟨y,sy,hc,hsy,h5,h40⟩
     ·have HP:Hid (zeq s.data.toList=none):=hp
      subst h40
      clear hp HPQ
      go_wp2_with fail
      go_meet
      exact⟨HP.out,H2.out⟩
     ·have HC:Hid (zf2 s.data.toList=some ([112,117,116],y)):=hc
      have HYL:Hid (y.length≤10000):=by
       show _≤_
       have:=zxx hc
       have:=HSZ.out
       rw[zay]at*
       omega
      have HSYE:Hid (bl y=sy):=hsy
      have HSY:Hid (sy.size≤10000):=by show _≤_;rw[←hsy,zd9 y];exact HYL.out
      subst h5 h40
      clear hc HPQ hsy
      go_wp2_with fail
      refine(znk sy _ (by have:=HSY.out;omega)).mono ?_
      rintro e w3 ⟨rfl,hb⟩
      have H3:Hid (zbi base w0 S R E F qw told u (Th.no base) w3):=H2.out.after hb
      clear hb H2
      rcases zro sy with⟨hc2,hv⟩|⟨b,more,hc2,hv,hbl⟩
      ·rw[←HSYE.out,zhf]at hc2
       have HP:Hid (zeq s.data.toList=none):=by show _=_;rw[qec _ HC.out,hc2]
       rw[hv]
       clear hc2 hv
       go_wp2_with fail
       refine(znk ⟨#[]⟩ _ (by decide)).mono ?_
       rintro e w4 ⟨rfl,hb⟩
       have HQ:Hid (zbi base w0 S R E F qw told u (Th.no base) w4):=H3.out.after hb
       clear hb H3
       rw[show zne ⟨#[]⟩= .tuple #[.string ⟨#[]⟩,.string ⟨#[]⟩,.bool false] from rfl]
       go_wp2_with fail
       refine(zfa sy _ HQ.out.rdy.ready (by have:=HSY.out;omega)).mono ?_
       rintro e wn1 ⟨⟨v1,rfl,hv1⟩,hb⟩
       have HQ1:Hid (zbi base w0 S R E F qw told u (Th.no base) wn1):=HQ.out.after hb
       have HV1:Hid (∀z,ze3 (sy)=some z→v1=z):=hv1
       clear hb hv1 HQ
       obtain⟨o1,ho1⟩:∃o1,(ze3 (sy)).isSome=o1:=⟨_,rfl⟩
       have HO1:Hid ((ze3 (sy)).isSome=o1):=ho1
       rw[ho1]
       clear ho1
       go_wp2_with fail
       refine(zfa ⟨#[]⟩ _ HQ1.out.rdy.ready (by decide)).mono ?_
       rintro e wn2 ⟨⟨v2,rfl,hv2⟩,hb⟩
       have HQ2:Hid (zbi base w0 S R E F qw told u (Th.no base) wn2):=HQ1.out.after hb
       have HV2:Hid (∀z,ze3 (⟨#[]⟩)=some z→v2=z):=hv2
       clear hb hv2 HQ1
       obtain⟨o2,ho2⟩:∃o2,(ze3 (⟨#[]⟩)).isSome=o2:=⟨_,rfl⟩
       have HO2:Hid ((ze3 (⟨#[]⟩)).isSome=o2):=ho2
       rw[ho2]
       clear ho2
       go_wp2_with fail
       go_meet
       exact⟨HP.out,HQ2.out⟩
      ·rw[←HSYE.out,zhf]at hc2
       rw[hv]
       have HC2:Hid (zf2 y=some (b,more)):=hc2
       have HBL:Hid (b.length≤10000∧more.length≤10000):=by
        have:=zxx hc2
        have:=HYL.out
        exact⟨by omega,by omega⟩
       clear hc2 hv hbl
       obtain⟨sb,hsb⟩:∃sb,bl b=sb:=⟨_,rfl⟩
       have HSB:Hid (bl b=sb):=hsb
       have HSBZ:Hid (sb.size≤10000):=by show _≤_;rw[←hsb,zd9 b];exact HBL.out.1
       rw[hsb]
       clear hsb
       go_wp2_with fail
       refine(znk (bl more) _ (by rw[zd9 more];have:=HBL.out.2;omega)).mono ?_
       rintro e w4 ⟨rfl,hb⟩
       have HQ:Hid (zbi base w0 S R E F qw told u (Th.no base) w4):=H3.out.after hb
       clear hb H3
       rcases zro (bl more)with⟨hc3,hv⟩|⟨c,text,hc3,hv,hbl⟩
       ·rw[zhf]at hc3
        have HP:Hid (zeq s.data.toList=none):=by show _=_;rw[qec _ HC.out,HC2.out];show(match zf2 more with|none=>none|some (c,text)=>_)=_;rw[hc3]
        rw[hv]
        obtain⟨sm,hsm⟩:∃sm,bl more=sm:=⟨_,rfl⟩
        have HSM:Hid (sm.size≤10000):=by show _≤_;rw[←hsm,zd9 more];exact HBL.out.2
        rw[hsm]
        clear hc3 hv hsm
        go_wp2_with fail
        refine(zfa sb _ HQ.out.rdy.ready (by have:=HSBZ.out;omega)).mono ?_
        rintro e wn1 ⟨⟨v1,rfl,hv1⟩,hb⟩
        have HQ1:Hid (zbi base w0 S R E F qw told u (Th.no base) wn1):=HQ.out.after hb
        have HV1:Hid (∀z,ze3 (sb)=some z→v1=z):=hv1
        clear hb hv1 HQ
        obtain⟨o1,ho1⟩:∃o1,(ze3 (sb)).isSome=o1:=⟨_,rfl⟩
        have HO1:Hid ((ze3 (sb)).isSome=o1):=ho1
        rw[ho1]
        clear ho1
        go_wp2_with fail
        refine(zfa sm _ HQ1.out.rdy.ready (by have:=HSM.out;omega)).mono ?_
        rintro e wn2 ⟨⟨v2,rfl,hv2⟩,hb⟩
        have HQ2:Hid (zbi base w0 S R E F qw told u (Th.no base) wn2):=HQ1.out.after hb
        have HV2:Hid (∀z,ze3 (sm)=some z→v2=z):=hv2
        clear hb hv2 HQ1
        obtain⟨o2,ho2⟩:∃o2,(ze3 (sm)).isSome=o2:=⟨_,rfl⟩
        have HO2:Hid ((ze3 (sm)).isSome=o2):=ho2
        rw[ho2]
        clear ho2
        go_wp2_with fail
        go_meet
        exact⟨HP.out,HQ2.out⟩
       ·rw[zhf]at hc3
        rw[hv]
        have HC3:Hid (zf2 more=some (c,text)):=hc3
        have HCL:Hid (c.length≤10000):=by
         show _≤_
         have:=zxx hc3
         have:=HBL.out.2
         omega
        clear hc3 hv hbl
        obtain⟨sc,hsc⟩:∃sc,bl c=sc:=⟨_,rfl⟩
        have HSC:Hid (bl c=sc):=hsc
        have HSCZ:Hid (sc.size≤10000):=by show _≤_;rw[←hsc,zd9 c];exact HCL.out
        rw[hsc]
        obtain⟨st,hst⟩:∃st,bl text=st:=⟨_,rfl⟩
        have HST:Hid (bl text=st):=hst
        rw[hst]
        clear hsc hst
        go_wp2_with fail
        refine(zfa sb _ HQ.out.rdy.ready (by have:=HSBZ.out;omega)).mono ?_
        rintro e wn1 ⟨⟨v1,rfl,hv1⟩,hb⟩
        have HQ1:Hid (zbi base w0 S R E F qw told u (Th.no base) wn1):=HQ.out.after hb
        have HV1:Hid (∀z,ze3 (sb)=some z→v1=z):=hv1
        clear hb hv1 HQ
        obtain⟨o1,ho1⟩:∃o1,(ze3 (sb)).isSome=o1:=⟨_,rfl⟩
        have HO1:Hid ((ze3 (sb)).isSome=o1):=ho1
        rw[ho1]
        clear ho1
        go_wp2_with fail
        refine(zfa sc _ HQ1.out.rdy.ready (by have:=HSCZ.out;omega)).mono ?_
        rintro e wn2 ⟨⟨v2,rfl,hv2⟩,hb⟩
        have HQ2:Hid (zbi base w0 S R E F qw told u (Th.no base) wn2):=HQ1.out.after hb
        have HV2:Hid (∀z,ze3 (sc)=some z→v2=z):=hv2
        clear hb hv2 HQ1
        obtain⟨o2,ho2⟩:∃o2,(ze3 (sc)).isSome=o2:=⟨_,rfl⟩
        have HO2:Hid ((ze3 (sc)).isSome=o2):=ho2
        rw[ho2]
        clear ho2
        have HPE:Hid (zeq s.data.toList=match ze3 sb with|none=>none|some w=>match ze3 sc with|none=>none|some at_=>some (w,at_,text)):=by
         show _=_
         rw[qec _ HC.out,HC2.out]
         show(match zf2 more with|none=>none|some (c,text)=>_)=_
         rw[HC3.out,←HSB.out,←HSC.out]
        cases o1
        ·have HP:Hid (zeq s.data.toList=none):=by
          have h1:=HO1.out
          rw[Option.isSome_eq_false_iff,Option.isNone_iff_eq_none]at h1
          show _=_
          rw[HPE.out,h1]
         go_wp2_with fail
         go_meet
         exact⟨HP.out,HQ2.out⟩
        ·cases o2
         ·have HP:Hid (zeq s.data.toList=none):=by
           have h2:=HO2.out
           rw[Option.isSome_eq_false_iff,Option.isNone_iff_eq_none]at h2
           show _=_
           rw[HPE.out,h2]
           cases ze3 sb<;>rfl
          go_wp2_with fail
          go_meet
          exact⟨HP.out,HQ2.out⟩
         ·have HP:Hid (zae u s.data.toList=zca u ⟨2,v1,v2,0,st⟩):=by
           obtain⟨z1,e1⟩:=Option.isSome_iff_exists.1 HO1.out
           obtain⟨z2,e2⟩:=Option.isSome_iff_exists.1 HO2.out
           show _=_
           unfold zae
           rw[HPE.out,e1,e2,HV1.out z1 e1,HV2.out z2 e2,←HST.out]
          go_wp2_with fail
          refine(zxu HQ2.out ⟨2,v1,v2,0,st⟩ (by have:=HT.out;omega)).mono ?_
          rintro e w6 ⟨rfl,qw6,h6⟩
          have H6:Hid (zbn base w0 S R E F told (zae u s.data.toList) w6):=by show zbn _ _ _ _ _ _ _ _ _;rw[HP.out];exact⟨qw6,h6⟩
          clear h6 HQ2
          go_wp2_with fail
          (try simp only[Exit.inBlock,Exit.then]);refine bodyPost_ret (results_none rfl _ _ _) rfl ?_
          exact⟨rfl,H6.out⟩
   case rest=>
    obtain⟨hp,hI⟩:=hcut
    have HLK:Hid (zae u s.data.toList=zg2 u (zb0 s.data.toList)):=by show zae _ _=_;unfold zae;rw[hp]
    have H3:Hid (zbi base w0 S R E F qw told u (Th.no base) wc):=hI
    clear hI hp H2 HPQ
    go_wp2_with fail
    refine(qcj s _ (by have:=HSZ.out;omega)).mono ?_
    rintro e w4 ⟨lv,rfl,hown,hb⟩
    have H4:Hid (zbi base w0 S R E F qw told u (Th.no base) w4):=H3.out.after hb
    have HL4:Hid (zb9 w4 lv ((zb0 s.data.toList).map bl)):=hown.lst
    have HWN:Hid ((zb0 s.data.toList).length≤10001∧∀w∈zb0 s.data.toList,w.length≤10000):=by
     have h1:=qci s.data.toList
     have:=HSZ.out
     rw[zay]at h1
     exact⟨by omega,fun w hw=>by have:=h1.1 w hw;omega⟩
    clear hb H3
    obtain⟨ws,hws⟩:∃ws,zb0 s.data.toList=ws:=⟨_,rfl⟩
    rw[hws]at HL4 HLK HWN hown
    obtain⟨la,lc,rfl,_⟩:=hown.lst.len
    clear hown hws
    cases ws with
    |nil=>
     have HE:Hid (zbn base w0 S R E F told (zae u s.data.toList) (w4.alloc (.cells #[.slice la 0 lc] 22))):=by
      show zbn _ _ _ _ _ _ _ _ _
      rw[HLK.out]
      refine⟨qw,?_⟩
      show zbi _ _ _ _ _ _ _ (told++bl []) _ _ _
      rw[qgq,List.append_nil,zjk]
      exact H4.out.after (za1 _ _)
     simp only[List.map_nil,List.length_nil]
     go_wp2_with fail
     (try simp only[Exit.inBlock,Exit.then]);refine bodyPost_ret (results_none rfl _ _ _) rfl ?_
     exact⟨rfl,HE.out⟩
    |cons k r=>
     have HRL:Hid (r.length≤10000∧(∀w∈r,w.length≤10000)):=⟨by have:=HWN.out.1;rw[List.length_cons]at this;omega,fun w hw=>HWN.out.2 w (List.mem_cons_of_mem _ hw)⟩
     have hrl:r.length≤10000:=HRL.out.1
     have hln:((k::r).map bl).length=r.length+1:=by simp
     rw[hln]at HL4⊢
     clear hln HWN
     obtain⟨wA,hwA⟩:∃wA,w4.alloc (.cells #[.slice la (r.length+1) lc] 22)=wA:=⟨_,rfl⟩
     have HA:Hid (zbi base w0 S R E F qw told u (Th.no base) wA):=by show zbi _ _ _ _ _ _ _ _ _ _ _;rw[←hwA];exact H4.out.after (za1 _ _)
     have HAL:Hid (zb9 wA (.slice la (r.length+1) lc) ((k::r).map bl)):=by show zb9 _ _ _;rw[←hwA];exact HL4.out.below (za1 _ _)
     have HAC:Hid (wA.cell? ⟨w4.heap.size,0,none⟩=some (.slice la (r.length+1) lc)∧w4.heap.size<wA.heap.size):=by rw[←hwA];exact⟨by simp[go_sem],by simp⟩
     have cL:=HAC.out.1
     have hL:=HAC.out.2
     have hq1:(((r.length:Int)+1)==0)=false:=by rw[beq_eq_false_iff_ne];omega
     have hq2:(((r.length+1:Nat):Int)==0)=false:=by rw[beq_eq_false_iff_ne];omega
     go_wp2_with fail
     clear cL hL hwA hq1 hq2
     generalize w4.heap.size=BL at*
     have HN0:Hid (NbI wA (.slice none 0 0) [] (wA.alloc (.cells #[.slice none 0 0] 79))):=qeo wA
     obtain⟨i0,hi,hz0,hz1,hz2⟩:=info_parts zsr
     obtain⟨BN,hBN⟩:∃BN,wA.heap.size=BN:=⟨_,rfl⟩
     have HBN:Hid (wA.heap.size=BN):=hBN
     rw[hBN]
     clear hBN
     go_loopw [19] (fun i wr=>∃(j:Nat) (nv:Value) (zs:List Int),j≤r.length∧i= .int .i64 ((j:Int)+1)∧Hid (zbp ((r.take j).map bl)=some zs)∧Hid (NbI wA nv zs wr)) (fun i _=>r.length+1-(intOf i).toNat)
     case atStart=>exact⟨0,.slice none 0 0,[],Nat.zero_le _,rfl,rfl,HN0.out⟩
     case round=>
      obtain⟨j,nv,zs,hj,rfl,HZ,HN⟩:=hrel
      clear HN0
      have HRk:Hid (zbi base w0 S R E F qw told u (Th.no base) wr):=HA.out.after HN.out.below
      have cL:wr.cell? ⟨BL,0,none⟩=some (.slice la (r.length+1) lc):=zd8 HAC.out.1 HN.out.below
      have hL:BL<wr.heap.size:=by have:=HN.out.below.size;have:=HAC.out.2;omega
      by_cases hlt:j<r.length
      ·have hji:(j:Int)+1<(r.length:Int)+1:=by omega
       obtain⟨bb,off,rfl,hst⟩:=(HAL.out.below HN.out.below).row (by omega)
       have c0:=hst.cell (j+1) (by simp;omega)
       have hbl:=hst.lt
       simp only[List.map_cons,List.getElem_cons_succ,List.getElem_map]at c0
       have HX:Hid ((r.take (j+1)).map bl=(r.take j).map bl++[bl r[j]]):=by
        show _=_
        rw[List.take_succ_eq_append_getElem hlt,List.map_append]
        rfl
       have HXL:Hid ((bl r[j]).size≤10000):=by show _≤_;rw[zd9];exact HRL.out.2 _ (List.getElem_mem hlt)
       have HNO:Hid (ze3 (bl r[j])=none→zbp (r.map bl)=none):=fun e=>zs8 (r.map bl) j (by rw[List.length_map];exact hlt) (by rw[List.getElem_map];exact e)
       generalize bl r[j]=x at*
       have HZL:Hid (zs.length=j):=by show _=_;have:=zhp _ _ HZ.out;rw[this,List.length_map,List.length_take];omega
       clear hst
       go_wp2_with fail
       refine(zfa x _ HRk.out.rdy.ready (by have:=HXL.out;omega)).mono ?_
       rintro e w5 ⟨⟨v5,rfl,hv5⟩,hb⟩
       have H5:Hid (NbI wA nv zs w5):=HN.out.after hb
       have HK5:Hid (zbi base w0 S R E F qw told u (Th.no base) w5):=HRk.out.after hb
       have HV5:Hid (∀z,ze3 x=some z→v5=z):=hv5
       clear hb hv5 HN HRk c0 cL hL hbl
       cases hx:ze3 x with
       |none=>
        have HE:Hid (zae u s.data.toList=(zfl,u)):=by
         show zae _ _=_
         rw[HLK.out]
         exact qck (HNO.out hx)
        clear hx
        simp only[Option.isSome_none]
        go_wp2_with fail
        refine(zgj HK5.out _ (by show _+4≤_;have:=HT.out;omega)).mono ?_
        rintro e w6 ⟨rfl,h6,-⟩
        have H6:Hid (zbn base w0 S R E F told (zae u s.data.toList) w6):=by show zbn _ _ _ _ _ _ _ _ _;rw[HE.out];exact⟨qw,h6⟩
        clear h6 H5 HK5
        go_wp2_with fail
        (try simp only[Exit.inBlock,Exit.then]);refine bodyPost_ret (results_none rfl _ _ _) rfl ?_
        exact⟨rfl,H6.out⟩
       |some z=>
        have HRZ:Hid (zbp ((r.take (j+1)).map bl)=some (zs++[v5])):=by
         show zbp _=_
         rw[HX.out]
         exact zm9 _ _ _ _ HZ.out (by rw[hx,HV5.out z hx])
        clear hx
        simp only[Option.isSome_some]
        have H5a:Hid (NbI wA nv zs (w5.alloc (.cells #[.int .i64 v5] 3))):=H5.out.after (za1 _ _)
        have cN:=H5.out.cell
        have hN:=H5.out.lt
        rw[HBN.out]at cN hN
        go_wp2_with (at_builtin;refine wpList_append_own _ rfl (.tmp 102) (.tmp 104) 79 rfl (wA.heap.size+1) 3 i0 (.int .i64 0) 1 8 Tryz.underlying79 hi hz0 hz1 hz2 rfl (by decide) nv zs.length (ziu zs) rfl H5a.out.own ⟨w5.heap.size,0,none⟩ 1 1 [.int .i64 v5] (by simp[go_sem]) rfl (zno _ _) ?c2 ?c3 ?c4 ?c5 ?_)
        case c2=>intro u hu;simp at hu;subst hu;rfl
        case c3=>have:=HZL.out;have:=HRL.out.1;unfold maxLen;omega
        case c4=>have:=HZL.out;have:=HRL.out.1;omega
        case c5=>have:=H5a.out.lt;omega
        intro v' w6 hown' hgrow _
        obtain⟨d1,d2,d3⟩:=H5a.out.grown2 hgrow
        have HP:Hid (NbI wA v' (zs++[v5]) (w6.setCell ⟨wA.heap.size,0,none⟩ v')):=H5a.out.put hown' hgrow
        rw[HBN.out]at d1 d2 d3 HP
        obtain⟨va,vc,hv⟩:=HP.out.own.ilst.len
        obtain⟨vn,hvn⟩:∃vn,(zs++[v5]).length=vn:=⟨_,rfl⟩
        rw[hvn]at hv
        subst hv
        clear hown' hgrow cN hN H5 H5a HK5 hvn
        go_wp2_with fail
        go_roundw
        case rel=>exact⟨j+1,.slice va vn vc,zs++[v5],by omega,by go_num,HRZ.out,HP.out⟩
        case measure=>simp[intOf];omega
      ·obtain rfl:j=r.length:=by omega
       have HRD:Hid (zbp (r.map bl)=some zs):=by have:=HZ.out;rw[List.take_length]at this;exact this
       have HLB:Hid (LnB BL BN (.slice la (r.length+1) lc) nv ((k::r).map bl) zs wr):=⟨cL,hL,by rw[←HBN.out];exact HN.out.cell,by rw[←HBN.out];exact HN.out.lt,HAL.out.below HN.out.below,HN.out.own.ilst⟩
       have HCM:Hid (zae u s.data.toList=zci u k zs):=by
        show zae _ _=_
        rw[HLK.out]
        exact qa9 HRD.out
       have HZL:Hid (zs.length≤10000):=by show _≤_;have:=zhp _ _ HRD.out;rw[this,List.length_map];exact HRL.out.1
       clear HZ HN HAL HAC HA
       have hmf:∀(fn:Fn) (first cap:Array Value) (w:World),(Instr.makeFunc fn first cap).run Tryz.prog w= .ok (.func fn first cap) w:=fun _ _ _ _=>rfl
       obtain⟨na,nc,rfl⟩:=HLB.out.ns.len
       go_wp2_with fail
       refine(zmi HLB.out [116,97,107,101] 3).mono ?_
       rintro e wq ⟨rfl,hwq⟩
       rw[hwq]
       clear hwq wq
       by_cases hc:k=[116,97,107,101]∧zs.length=3
       ·rw[show isB k zs [116,97,107,101] 3=true from decide_eq_true hc]
        as_aux_lemma=>
         have HCQ:Hid (zae u s.data.toList=zca u ⟨3,zs.getD 0 0,zs.getD 1 0,zs.getD 2 0,⟨#[]⟩⟩):=by
          show zae _ _=_
          rw[HCM.out]
          unfold zci
          rw[if_pos hc]
         obtain⟨z0,z1,z2,hz⟩:∃z0 z1 z2,zs=[z0,z1,z2]:=qb6 hc.2
         subst hz
         clear hc
         obtain⟨nb,no,rfl,_,_,_⟩:=HLB.out.ns.row (by show 0<3;decide)
         have HLI:Hid (LnI base w0 S R E F qw told u BL BN (.slice la (r.length+1) lc) (.slice (some ⟨nb,no,none⟩) 3 nc) ((k::r).map bl) [z0,z1,z2] wr):=⟨HRk.out,HLB.out⟩
         have HCE:Hid (∀wk,LnI base w0 S R E F qw told u BL BN (.slice la (r.length+1) lc) (.slice (some ⟨nb,no,none⟩) 3 nc) ((k::r).map bl) [z0,z1,z2] wk→∀i (h:i<[z0,z1,z2].length),wk.cell? ⟨nb,no+i,none⟩=some (.int .i64 [z0,z1,z2][i])):=fun wk hwk i hi=>by
          obtain⟨b3,o3,e3,_,_,r3⟩:=hwk.ln.ns.row (by decide)
          cases e3
          exact r3 i hi
         have HCB:Hid (∀wk,LnI base w0 S R E F qw told u BL BN (.slice la (r.length+1) lc) (.slice (some ⟨nb,no,none⟩) 3 nc) ((k::r).map bl) [z0,z1,z2] wk→nb<wk.heap.size):=fun wk hwk=>by
          obtain⟨b3,o3,e3,l3,_,_⟩:=hwk.ln.ns.row (by decide)
          cases e3
          exact l3
         go_wp2_with fail
         refine zff (fun wk=>LnI base w0 S R E F qw told u BL BN (.slice la (r.length+1) lc) (.slice (some ⟨nb,no,none⟩) 3 nc) ((k::r).map bl) [z0,z1,z2] wk) (fun i=>i==11) (fun i=>i==11) (fun wk=>LnI base w0 S R E F qw told u BL BN (.slice la (r.length+1) lc) (.slice (some ⟨nb,no,none⟩) 3 nc) ((k::r).map bl) [z0,z1,z2] wk) (by kernel_rfl) (by kernel_rfl) (by kernel_rfl) (by kernel_rfl) (fun _ h=>h) (HLI.out.after (Below.refl _ _).drew) ?_
         refine zb1 (some 112) w0 rfl (.pointer (some ⟨R,0,none⟩)) rfl (by kernel_rfl) (fun wk hwk=> ?_) ?_
         ·generalize hA:Act.eval _=ρ
          have s0:ρ (.tmp 0)= .pointer (some ⟨R,0,none⟩):=by rw[←hA];kernel_rfl
          clear hA
          go_simp
         go_big_quiet_op
         refine zb1 (some 113) w0 rfl (.slice (some ⟨nb,no,none⟩) 3 nc) rfl (by kernel_rfl) (fun wk hwk=> ?_) ?_
         ·generalize hA:Act.eval _=ρ
          have s18:ρ (.tmp 18)= .pointer (some ⟨BN,0,none⟩):=by rw[←hA];kernel_rfl
          clear hA
          have cN:=hwk.ln.bn
          have hN:=hwk.ln.ln
          go_simp
         go_big_quiet_op
         refine zb1 (some 114) w0 rfl (.pointer (some ⟨nb,no+0,none⟩)) rfl (by kernel_rfl) (fun wk hwk=> ?_) ?_
         ·generalize hA:Act.eval _=ρ
          have s113:ρ (.tmp 113)= .slice (some ⟨nb,no,none⟩) 3 nc:=by rw[←hA];kernel_rfl
          have k1:ρ (.const (.int .i64 (0)))= .int .i64 (0):=by rw[←hA];kernel_rfl
          clear hA
          go_simp
         go_big_quiet_op
         refine zb1 (some 115) w0 rfl (.int .i64 (z0)) rfl (by kernel_rfl) (fun wk hwk=> ?_) ?_
         ·generalize hA:Act.eval _=ρ
          have s114:ρ (.tmp 114)= .pointer (some ⟨nb,no+0,none⟩):=by rw[←hA];kernel_rfl
          clear hA
          have c1:=HCE.out wk hwk 0 (by simp)
          have hb1:=HCB.out wk hwk
          simp only[List.getElem_cons_zero,Nat.add_zero]at c1
          go_simp
         go_big_quiet_op
         refine zb1 (some 116) w0 rfl (.slice (some ⟨nb,no,none⟩) 3 nc) rfl (by kernel_rfl) (fun wk hwk=> ?_) ?_
         ·generalize hA:Act.eval _=ρ
          have s18:ρ (.tmp 18)= .pointer (some ⟨BN,0,none⟩):=by rw[←hA];kernel_rfl
          clear hA
          have cN:=hwk.ln.bn
          have hN:=hwk.ln.ln
          go_simp
         go_big_quiet_op
         refine zb1 (some 117) w0 rfl (.pointer (some ⟨nb,no+1,none⟩)) rfl (by kernel_rfl) (fun wk hwk=> ?_) ?_
         ·generalize hA:Act.eval _=ρ
          have s116:ρ (.tmp 116)= .slice (some ⟨nb,no,none⟩) 3 nc:=by rw[←hA];kernel_rfl
          have k1:ρ (.const (.int .i64 (1)))= .int .i64 (1):=by rw[←hA];kernel_rfl
          clear hA
          go_simp
         go_big_quiet_op
         refine zb1 (some 118) w0 rfl (.int .i64 (z1)) rfl (by kernel_rfl) (fun wk hwk=> ?_) ?_
         ·generalize hA:Act.eval _=ρ
          have s117:ρ (.tmp 117)= .pointer (some ⟨nb,no+1,none⟩):=by rw[←hA];kernel_rfl
          clear hA
          have c1:=HCE.out wk hwk 1 (by simp)
          have hb1:=HCB.out wk hwk
          simp only[List.getElem_cons_zero,List.getElem_cons_succ]at c1
          go_simp
         go_big_quiet_op
         refine zb1 (some 119) w0 rfl (.slice (some ⟨nb,no,none⟩) 3 nc) rfl (by kernel_rfl) (fun wk hwk=> ?_) ?_
         ·generalize hA:Act.eval _=ρ
          have s18:ρ (.tmp 18)= .pointer (some ⟨BN,0,none⟩):=by rw[←hA];kernel_rfl
          clear hA
          have cN:=hwk.ln.bn
          have hN:=hwk.ln.ln
          go_simp
         go_big_quiet_op
         refine zb1 (some 120) w0 rfl (.pointer (some ⟨nb,no+2,none⟩)) rfl (by kernel_rfl) (fun wk hwk=> ?_) ?_
         ·generalize hA:Act.eval _=ρ
          have s119:ρ (.tmp 119)= .slice (some ⟨nb,no,none⟩) 3 nc:=by rw[←hA];kernel_rfl
          have k1:ρ (.const (.int .i64 (2)))= .int .i64 (2):=by rw[←hA];kernel_rfl
          clear hA
          go_simp
         go_big_quiet_op
         refine zb1 (some 121) w0 rfl (.int .i64 (z2)) rfl (by kernel_rfl) (fun wk hwk=> ?_) ?_
         ·generalize hA:Act.eval _=ρ
          have s120:ρ (.tmp 120)= .pointer (some ⟨nb,no+2,none⟩):=by rw[←hA];kernel_rfl
          clear hA
          have c1:=HCE.out wk hwk 2 (by simp)
          have hb1:=HCB.out wk hwk
          simp only[List.getElem_cons_zero,List.getElem_cons_succ]at c1
          go_simp
         go_big_quiet_op
         refine zb1 (some 122) w0 rfl (tsV ⟨3,z0,z1,z2,⟨#[]⟩⟩) rfl (by kernel_rfl) (fun wk hwk=> ?_) ?_
         ·generalize hA:Act.eval _=ρ
          have s115:ρ (.tmp 115)= .int .i64 (z0):=by rw[←hA];kernel_rfl
          have s118:ρ (.tmp 118)= .int .i64 (z1):=by rw[←hA];kernel_rfl
          have s121:ρ (.tmp 121)= .int .i64 (z2):=by rw[←hA];kernel_rfl
          have k3:ρ (.const (.int .i64 (3)))= .int .i64 (3):=by rw[←hA];kernel_rfl
          clear hA
          go_simp
         go_big_quiet_op
         refine zh0 (some 123) w0 rfl rfl rfl rfl (fun uu=>uu= .tuple #[]) (fun _ wk=>∃qw2,zbi base w0 S R E F qw2 (told++bl (zca u ⟨3,z0,z1,z2,⟨#[]⟩⟩).1) (zca u ⟨3,z0,z1,z2,⟨#[]⟩⟩).2 (Th.no base) wk) ⟨_,rfl⟩ (fun wk hwk=> ?_) (fun u9 hu9=> ?_)
         ·generalize hA:Act.eval _=ρ
          have s112:ρ (.tmp 112)= .pointer (some ⟨R,0,none⟩):=by rw[←hA];kernel_rfl
          have s122:ρ (.tmp 122)=tsV ⟨3,z0,z1,z2,⟨#[]⟩⟩:=by rw[←hA];kernel_rfl
          have sf:ρ (.func 32)= .func (.func 32) #[] #[]:=by rw[←hA];kernel_rfl
          clear hA
          go_simp
          refine(zxu hwk.rk ⟨3,z0,z1,z2,⟨#[]⟩⟩ (by have:=HT.out;omega)).mono ?_
          rintro e w7 ⟨rfl,h7⟩
          exact⟨_,rfl,rfl,h7⟩
         subst hu9
         go_big_quiet_op
         refine zhi (fun w6 h6=> ?_)
         have H6:Hid (zbn base w0 S R E F told (zae u s.data.toList) w6):=by show zbn _ _ _ _ _ _ _ _ _;rw[HCQ.out];exact h6
         clear h6
         go_wp2_with fail
         go_end0
         exact⟨rfl,H6.out⟩
       ·rw[show isB k zs [116,97,107,101] 3=false from decide_eq_false hc]
        have HN0:Hid (¬(k=[116,97,107,101]∧zs.length=3)):=hc
        clear hc
        go_wp2_with fail
        refine(zmi HLB.out [106,111,105,110] 1).mono ?_
        rintro e wq ⟨rfl,hwq⟩
        rw[hwq]
        clear hwq wq
        by_cases hc:k=[106,111,105,110]∧zs.length=1
        ·rw[show isB k zs [106,111,105,110] 1=true from decide_eq_true hc]
         as_aux_lemma=>
          have HCQ:Hid (zae u s.data.toList=zca u ⟨1,zs.getD 0 0,0,0,⟨#[]⟩⟩):=by
           show zae _ _=_
           rw[HCM.out]
           unfold zci
           rw[if_neg HN0.out,if_pos hc]
          obtain⟨z,hz⟩:∃z,zs=[z]:=List.length_eq_one_iff.1 hc.2
          subst hz
          clear hc
          obtain⟨nb,no,rfl,hnb,_,hrow⟩:=HLB.out.ns.row (by show 0<1;decide)
          have c0:=hrow 0 (by simp)
          have cN:=HLB.out.bn
          have hN:=HLB.out.ln
          simp only[List.getElem_cons_zero,Nat.add_zero]at c0
          simp only[List.length_cons,List.length_nil,Nat.zero_add]at cN⊢
          go_wp2_with fail
          refine(zxu HRk.out ⟨1,z,0,0,⟨#[]⟩⟩ (by have:=HT.out;omega)).mono ?_
          rintro e w6 ⟨rfl,qw6,h6⟩
          have H6:Hid (zbn base w0 S R E F told (zae u s.data.toList) w6):=by show zbn _ _ _ _ _ _ _ _ _;rw[HCQ.out];exact⟨qw6,h6⟩
          clear h6
          go_wp2_with fail
          go_end0
          exact⟨rfl,H6.out⟩
        ·rw[show isB k zs [106,111,105,110] 1=false from decide_eq_false hc]
         have HN1:Hid (¬(k=[106,111,105,110]∧zs.length=1)):=hc
         clear hc
         go_wp2_with fail
         refine(zmi HLB.out [115,101,110,100] 1).mono ?_
         rintro e wq ⟨rfl,hwq⟩
         rw[hwq]
         clear hwq wq
         by_cases hc:k=[115,101,110,100]∧zs.length=1
         ·rw[show isB k zs [115,101,110,100] 1=true from decide_eq_true hc]
          as_aux_lemma=>
           have HCQ:Hid (zae u s.data.toList=zca u ⟨4,zs.getD 0 0,0,0,⟨#[]⟩⟩):=by
            show zae _ _=_
            rw[HCM.out]
            unfold zci
            rw[if_neg HN0.out,if_neg HN1.out,if_pos hc]
           obtain⟨z,hz⟩:∃z,zs=[z]:=List.length_eq_one_iff.1 hc.2
           subst hz
           clear hc
           obtain⟨nb,no,rfl,hnb,_,hrow⟩:=HLB.out.ns.row (by show 0<1;decide)
           have c0:=hrow 0 (by simp)
           have cN:=HLB.out.bn
           have hN:=HLB.out.ln
           simp only[List.getElem_cons_zero,Nat.add_zero]at c0
           simp only[List.length_cons,List.length_nil,Nat.zero_add]at cN⊢
           go_wp2_with fail
           refine(zxu HRk.out ⟨4,z,0,0,⟨#[]⟩⟩ (by have:=HT.out;omega)).mono ?_
           rintro e w6 ⟨rfl,qw6,h6⟩
           have H6:Hid (zbn base w0 S R E F told (zae u s.data.toList) w6):=by show zbn _ _ _ _ _ _ _ _ _;rw[HCQ.out];exact⟨qw6,h6⟩
           clear h6
           go_wp2_with fail
           go_end0
           exact⟨rfl,H6.out⟩
         ·rw[show isB k zs [115,101,110,100] 1=false from decide_eq_false hc]
          have HN2:Hid (¬(k=[115,101,110,100]∧zs.length=1)):=hc
          clear hc
          go_wp2_with fail
          refine(zmi HLB.out [104,101,97,114] 1).mono ?_
          rintro e wq ⟨rfl,hwq⟩
          rw[hwq]
          clear hwq wq
          by_cases hc:k=[104,101,97,114]∧zs.length=1
          ·rw[show isB k zs [104,101,97,114] 1=true from decide_eq_true hc]
           as_aux_lemma=>
            have HCQ:Hid (zae u s.data.toList=zca u ⟨5,zs.getD 0 0,0,0,⟨#[]⟩⟩):=by
             show zae _ _=_
             rw[HCM.out]
             unfold zci
             rw[if_neg HN0.out,if_neg HN1.out,if_neg HN2.out,if_pos hc]
            obtain⟨z,hz⟩:∃z,zs=[z]:=List.length_eq_one_iff.1 hc.2
            subst hz
            clear hc
            obtain⟨nb,no,rfl,hnb,_,hrow⟩:=HLB.out.ns.row (by show 0<1;decide)
            have c0:=hrow 0 (by simp)
            have cN:=HLB.out.bn
            have hN:=HLB.out.ln
            simp only[List.getElem_cons_zero,Nat.add_zero]at c0
            simp only[List.length_cons,List.length_nil,Nat.zero_add]at cN⊢
            go_wp2_with fail
            refine(zxu HRk.out ⟨5,z,0,0,⟨#[]⟩⟩ (by have:=HT.out;omega)).mono ?_
            rintro e w6 ⟨rfl,qw6,h6⟩
            have H6:Hid (zbn base w0 S R E F told (zae u s.data.toList) w6):=by show zbn _ _ _ _ _ _ _ _ _;rw[HCQ.out];exact⟨qw6,h6⟩
            clear h6
            go_wp2_with fail
            go_end0
            exact⟨rfl,H6.out⟩
          ·rw[show isB k zs [104,101,97,114] 1=false from decide_eq_false hc]
           have HN3:Hid (¬(k=[104,101,97,114]∧zs.length=1)):=hc
           clear hc
           go_wp2_with fail
           refine(zmi HLB.out [99,108,101,97,114] 1).mono ?_
           rintro e wq ⟨rfl,hwq⟩
           rw[hwq]
           clear hwq wq
           by_cases hc:k=[99,108,101,97,114]∧zs.length=1
           ·rw[show isB k zs [99,108,101,97,114] 1=true from decide_eq_true hc]
            as_aux_lemma=>
             have HCQ:Hid (zae u s.data.toList=zca u ⟨6,zs.getD 0 0,0,0,⟨#[]⟩⟩):=by
              show zae _ _=_
              rw[HCM.out]
              unfold zci
              rw[if_neg HN0.out,if_neg HN1.out,if_neg HN2.out,if_neg HN3.out,if_pos hc]
             obtain⟨z,hz⟩:∃z,zs=[z]:=List.length_eq_one_iff.1 hc.2
             subst hz
             clear hc
             obtain⟨nb,no,rfl,hnb,_,hrow⟩:=HLB.out.ns.row (by show 0<1;decide)
             have c0:=hrow 0 (by simp)
             have cN:=HLB.out.bn
             have hN:=HLB.out.ln
             simp only[List.getElem_cons_zero,Nat.add_zero]at c0
             simp only[List.length_cons,List.length_nil,Nat.zero_add]at cN⊢
             go_wp2_with fail
             refine(zxu HRk.out ⟨6,z,0,0,⟨#[]⟩⟩ (by have:=HT.out;omega)).mono ?_
             rintro e w6 ⟨rfl,qw6,h6⟩
             have H6:Hid (zbn base w0 S R E F told (zae u s.data.toList) w6):=by show zbn _ _ _ _ _ _ _ _ _;rw[HCQ.out];exact⟨qw6,h6⟩
             clear h6
             go_wp2_with fail
             go_end0
             exact⟨rfl,H6.out⟩
           ·rw[show isB k zs [99,108,101,97,114] 1=false from decide_eq_false hc]
            have HN4:Hid (¬(k=[99,108,101,97,114]∧zs.length=1)):=hc
            clear hc
            go_wp2_with fail
            refine(zmi HLB.out [108,101,97,118,101] 1).mono ?_
            rintro e wq ⟨rfl,hwq⟩
            rw[hwq]
            clear hwq wq
            by_cases hc:k=[108,101,97,118,101]∧zs.length=1
            ·rw[show isB k zs [108,101,97,118,101] 1=true from decide_eq_true hc]
             as_aux_lemma=>
              have HCQ:Hid (zae u s.data.toList=zca u ⟨7,zs.getD 0 0,0,0,⟨#[]⟩⟩):=by
               show zae _ _=_
               rw[HCM.out]
               unfold zci
               rw[if_neg HN0.out,if_neg HN1.out,if_neg HN2.out,if_neg HN3.out,if_neg HN4.out,if_pos hc]
              obtain⟨z,hz⟩:∃z,zs=[z]:=List.length_eq_one_iff.1 hc.2
              subst hz
              clear hc
              obtain⟨nb,no,rfl,hnb,_,hrow⟩:=HLB.out.ns.row (by show 0<1;decide)
              have c0:=hrow 0 (by simp)
              have cN:=HLB.out.bn
              have hN:=HLB.out.ln
              simp only[List.getElem_cons_zero,Nat.add_zero]at c0
              simp only[List.length_cons,List.length_nil,Nat.zero_add]at cN⊢
              go_wp2_with fail
              refine(zxu HRk.out ⟨7,z,0,0,⟨#[]⟩⟩ (by have:=HT.out;omega)).mono ?_
              rintro e w6 ⟨rfl,qw6,h6⟩
              have H6:Hid (zbn base w0 S R E F told (zae u s.data.toList) w6):=by show zbn _ _ _ _ _ _ _ _ _;rw[HCQ.out];exact⟨qw6,h6⟩
              clear h6
              go_wp2_with fail
              go_end0
              exact⟨rfl,H6.out⟩
            ·rw[show isB k zs [108,101,97,118,101] 1=false from decide_eq_false hc]
             have HN5:Hid (¬(k=[108,101,97,118,101]∧zs.length=1)):=hc
             clear hc
             go_wp2_with fail
             refine(zmi HLB.out [116,101,120,116] 1).mono ?_
             rintro e wq ⟨rfl,hwq⟩
             rw[hwq]
             clear hwq wq
             by_cases hc:k=[116,101,120,116]∧zs.length=1
             ·rw[show isB k zs [116,101,120,116] 1=true from decide_eq_true hc]
              as_aux_lemma=>
               have HCQ:Hid (zae u s.data.toList=(zi7 u (zs.getD 0 0),u)):=by
                show zae _ _=_
                rw[HCM.out]
                unfold zci
                rw[if_neg HN0.out,if_neg HN1.out,if_neg HN2.out,if_neg HN3.out,if_neg HN4.out,if_neg HN5.out,if_pos hc]
               obtain⟨z,hz⟩:∃z,zs=[z]:=List.length_eq_one_iff.1 hc.2
               subst hz
               clear hc
               obtain⟨nb,no,rfl,hnb,_,hrow⟩:=HLB.out.ns.row (by show 0<1;decide)
               have c0:=hrow 0 (by simp)
               have cN:=HLB.out.bn
               have hN:=HLB.out.ln
               simp only[List.getElem_cons_zero,Nat.add_zero]at c0
               simp only[List.length_cons,List.length_nil,Nat.zero_add]at cN⊢
               cases he:u.ws z with
               |none=>
                have HE:Hid (u.ws z=none):=he
                have HCR:Hid (zae u s.data.toList=(noW 5,u)):=by
                 show zae _ _=_
                 rw[HCQ.out]
                 show(zi7 u z,u)=_
                 unfold zi7
                 rw[HE.out]
                clear he
                go_wp2_with fail
                refine(zor HRk.out HE.out (by have:=HT.out;omega)).mono ?_
                rintro e w6 ⟨rfl,h6⟩
                have H6:Hid (zbn base w0 S R E F told (zae u s.data.toList) w6):=by show zbn _ _ _ _ _ _ _ _ _;rw[HCR.out];exact⟨qw,h6⟩
                clear h6
                go_wp2_with fail
                go_end0
                exact⟨rfl,H6.out⟩
               |some rr=>
                obtain⟨kk,rfl,hkk⟩:=HRk.out.here he
                have HE:Hid (u.ws kk=some rr):=he
                have HCR:Hid (zae u s.data.toList=(zfo (vw rr.list rr.seen rr.me),u)):=by
                 show zae _ _=_
                 rw[HCQ.out]
                 show(zi7 u kk,u)=_
                 unfold zi7
                 rw[HE.out]
                clear he
                go_wp2_with fail
                refine(zoq HRk.out hkk HE.out).mono ?_
                rintro e wq ⟨rfl,hwq⟩
                rw[hwq]
                clear hwq wq
                go_wp2_with fail
                refine(HRk.out.textK hkk HE.out).mono ?_
                rintro e w5 ⟨rfl,hb⟩
                have H5:Hid (zbi base w0 S R E F qw told u (Th.no base) w5):=HRk.out.after hb
                have hsz:=(HRk.out.wlen HE.out).1
                have HTT:Hid ((⟨#[116,101,120,116,32]⟩++strOfNums (vw rr.list rr.seen rr.me))++nlS=bl (zfo (vw rr.list rr.seen rr.me))):=zoc _
                obtain⟨st,hst⟩:∃st,strOfNums (vw rr.list rr.seen rr.me)=st:=⟨_,rfl⟩
                rw[hst]at hsz HTT⊢
                clear hst hb
                go_wp2_with fail
                refine(zgj H5.out _ (by rw[ByteArray.size_append];show _+(5+_)≤_;have:=HT.out;omega)).mono ?_
                rintro e w6 ⟨rfl,h6,-⟩
                have H6:Hid (zbn base w0 S R E F told (zae u s.data.toList) w6):=by show zbn _ _ _ _ _ _ _ _ _;rw[HCR.out];rw[HTT.out]at h6;exact⟨qw,h6⟩
                clear h6
                go_wp2_with fail
                go_end0
                exact⟨rfl,H6.out⟩
             ·rw[show isB k zs [116,101,120,116] 1=false from decide_eq_false hc]
              have HN6:Hid (¬(k=[116,101,120,116]∧zs.length=1)):=hc
              clear hc
              go_wp2_with fail
              refine(zmi HLB.out [116,101,120,116] 0).mono ?_
              rintro e wq ⟨rfl,hwq⟩
              rw[hwq]
              clear hwq wq
              by_cases hc:k=[116,101,120,116]∧zs.length=0
              ·rw[show isB k zs [116,101,120,116] 0=true from decide_eq_true hc]
               as_aux_lemma=>
                have HCQ:Hid (zae u s.data.toList=(zfo (zdi u.b.chars),u)):=by
                 show zae _ _=_
                 rw[HCM.out]
                 unfold zci
                 rw[if_neg HN0.out,if_neg HN1.out,if_neg HN2.out,if_neg HN3.out,if_neg HN4.out,if_neg HN5.out,if_neg HN6.out,if_pos hc]
                clear hc
                have g1:=HRk.out.cells.town
                have hlt1:=HRk.out.cells.lt
                have g2:=HRk.out.tw.book
                have hlt2:=HRk.out.tw.lt
                have HG:Hid (zcm u.b):=HRk.out.ti.good
                go_wp2_with fail
                clear g1 hlt1 g2 hlt2
                refine HRk.out.charsK.mono ?_
                rintro e w5 ⟨v5,rfl,ho,hb⟩
                have H5:Hid (zbi base w0 S R E F qw told u (Th.no base) w5):=HRk.out.after hb
                have HO:Hid (Lst w5 v5 u.b.chars):=ho.lst
                obtain⟨a5,c5,rfl,_⟩:=ho.lst.len
                clear ho hb
                go_wp2_with fail
                refine(zql HO.out (by have:=zb2 (b:=u.b);omega) (zjd HG.out)).mono ?_
                rintro e w7 ⟨rfl,hb⟩
                rw[qfo HG.out]
                have H7:Hid (zbi base w0 S R E F qw told u (Th.no base) w7):=H5.out.after hb
                clear hb H5 HO
                have hsz:(strOfNums (zdi u.b.chars)).size≤200:=by
                 rw[zbr]
                 unfold zdi
                 rw[List.length_map]
                 have:=List.length_filter_le zgg u.b.chars
                 have:=zb2 (b:=u.b)
                 omega
                have HTT:Hid ((⟨#[116,101,120,116,32]⟩++strOfNums (zdi u.b.chars))++nlS=bl (zfo (zdi u.b.chars))):=zoc _
                obtain⟨st,hst⟩:∃st,strOfNums (zdi u.b.chars)=st:=⟨_,rfl⟩
                rw[hst]at hsz HTT⊢
                clear hst
                go_wp2_with fail
                refine(zgj H7.out _ (by rw[ByteArray.size_append];show _+(5+_)≤_;have:=HT.out;omega)).mono ?_
                rintro e w6 ⟨rfl,h6,-⟩
                have H6:Hid (zbn base w0 S R E F told (zae u s.data.toList) w6):=by show zbn _ _ _ _ _ _ _ _ _;rw[HCQ.out];rw[HTT.out]at h6;exact⟨qw,h6⟩
                clear h6
                go_wp2_with fail
                go_end0
                exact⟨rfl,H6.out⟩
              ·rw[show isB k zs [116,101,120,116] 0=false from decide_eq_false hc]
               have HN7:Hid (¬(k=[116,101,120,116]∧zs.length=0)):=hc
               clear hc
               go_wp2_with fail
               refine(zmi HLB.out [111,112,101,110] 1).mono ?_
               rintro e wq ⟨rfl,hwq⟩
               rw[hwq]
               clear hwq wq
               by_cases hc:k=[111,112,101,110]∧zs.length=1
               ·rw[show isB k zs [111,112,101,110] 1=true from decide_eq_true hc]
                as_aux_lemma=>
                 have HCQ:Hid (zae u s.data.toList=(zhq u (zs.getD 0 0),u)):=by
                  show zae _ _=_
                  rw[HCM.out]
                  unfold zci
                  rw[if_neg HN0.out,if_neg HN1.out,if_neg HN2.out,if_neg HN3.out,if_neg HN4.out,if_neg HN5.out,if_neg HN6.out,if_neg HN7.out,if_pos hc]
                 obtain⟨z,hz⟩:∃z,zs=[z]:=List.length_eq_one_iff.1 hc.2
                 subst hz
                 clear hc
                 obtain⟨nb,no,rfl,hnb,_,hrow⟩:=HLB.out.ns.row (by show 0<1;decide)
                 have c0:=hrow 0 (by simp)
                 have cN:=HLB.out.bn
                 have hN:=HLB.out.ln
                 simp only[List.getElem_cons_zero,Nat.add_zero]at c0
                 simp only[List.length_cons,List.length_nil,Nat.zero_add]at cN⊢
                 cases he:u.ws z with
                 |none=>
                  have HE:Hid (u.ws z=none):=he
                  have HCR:Hid (zae u s.data.toList=(noW 5,u)):=by
                   show zae _ _=_
                   rw[HCQ.out]
                   show(zhq u z,u)=_
                   unfold zhq
                   rw[HE.out]
                  clear he
                  go_wp2_with fail
                  refine(zor HRk.out HE.out (by have:=HT.out;omega)).mono ?_
                  rintro e w6 ⟨rfl,h6⟩
                  have H6:Hid (zbn base w0 S R E F told (zae u s.data.toList) w6):=by show zbn _ _ _ _ _ _ _ _ _;rw[HCR.out];exact⟨qw,h6⟩
                  clear h6
                  go_wp2_with fail
                  go_end0
                  exact⟨rfl,H6.out⟩
                 |some rr=>
                  obtain⟨kk,rfl,hkk⟩:=HRk.out.here he
                  have HE:Hid (u.ws kk=some rr):=he
                  have HCR:Hid (zae u s.data.toList=(zb3 rr.opens++znw,u)):=by
                   show zae _ _=_
                   rw[HCQ.out]
                   show(zhq u kk,u)=_
                   unfold zhq
                   rw[HE.out]
                  clear he
                  go_wp2_with fail
                  refine(zoq HRk.out hkk HE.out).mono ?_
                  rintro e wq ⟨rfl,hwq⟩
                  rw[hwq]
                  clear hwq wq
                  obtain⟨ov,g3,hlt3,hdv⟩:=HRk.out.openK hkk HE.out
                  have HDV:Hid (∀wk',zak (fun k=>k=R) wr wk'→zkz wk' ov rr.opens):=hdv
                  have HDL:Hid (rr.opens.length≤1000):=(HRk.out.wlen HE.out).2
                  clear hdv
                  go_wp2_with fail
                  clear g3 hlt3
                  refine(zzw HRk.out HDV.out HDL.out (by have:=HT.out;omega)).mono ?_
                  rintro e w6 ⟨rfl,h6⟩
                  have H6:Hid (zbn base w0 S R E F told (zae u s.data.toList) w6):=by show zbn _ _ _ _ _ _ _ _ _;rw[HCR.out];exact⟨qw,h6⟩
                  clear h6
                  go_wp2_with fail
                  go_end0
                  exact⟨rfl,H6.out⟩
               ·rw[show isB k zs [111,112,101,110] 1=false from decide_eq_false hc]
                have HN8:Hid (¬(k=[111,112,101,110]∧zs.length=1)):=hc
                clear hc
                go_wp2_with fail
                refine(zmi HLB.out [108,111,103] 0).mono ?_
                rintro e wq ⟨rfl,hwq⟩
                rw[hwq]
                clear hwq wq
                by_cases hc:k=[108,111,103]∧zs.length=0
                ·rw[show isB k zs [108,111,103] 0=true from decide_eq_true hc]
                 as_aux_lemma=>
                  have HCQ:Hid (zae u s.data.toList=(zb3 u.b.ds++znw,u)):=by
                   show zae _ _=_
                   rw[HCM.out]
                   unfold zci
                   rw[if_neg HN0.out,if_neg HN1.out,if_neg HN2.out,if_neg HN3.out,if_neg HN4.out,if_neg HN5.out,if_neg HN6.out,if_neg HN7.out,if_neg HN8.out,if_pos hc]
                  clear hc
                  have g1:=HRk.out.cells.town
                  have hlt1:=HRk.out.cells.lt
                  have g2:=HRk.out.tw.book
                  have hlt2:=HRk.out.tw.lt
                  obtain⟨dv,g3,hlt3,hdv⟩:=HRk.out.logK
                  have HDV:Hid (∀wk',zak (fun k=>k=R) wr wk'→zkz wk' dv u.b.ds):=hdv
                  have HDL:Hid (u.b.ds.length≤1000):=by show _≤_;have:=HRk.out.ti.good.small;omega
                  clear hdv
                  go_wp2_with fail
                  clear g1 hlt1 g2 hlt2 g3 hlt3
                  refine(zzw HRk.out HDV.out HDL.out (by have:=HT.out;omega)).mono ?_
                  rintro e w6 ⟨rfl,h6⟩
                  have H6:Hid (zbn base w0 S R E F told (zae u s.data.toList) w6):=by show zbn _ _ _ _ _ _ _ _ _;rw[HCQ.out];exact⟨qw,h6⟩
                  clear h6
                  go_wp2_with fail
                  go_end0
                  exact⟨rfl,H6.out⟩
                ·rw[show isB k zs [108,111,103] 0=false from decide_eq_false hc]
                 have HN9:Hid (¬(k=[108,111,103]∧zs.length=0)):=hc
                 clear hc
                 go_wp2_with fail
                 refine(zmi HLB.out [116,104,101,110] 1).mono ?_
                 rintro e wq ⟨rfl,hwq⟩
                 rw[hwq]
                 clear hwq wq
                 by_cases hc:k=[116,104,101,110]∧zs.length=1
                 ·rw[show isB k zs [116,104,101,110] 1=true from decide_eq_true hc]
                  as_aux_lemma=>
                   have HCQ:Hid (zae u s.data.toList=(zhd u (zs.getD 0 0),u)):=by
                    show zae _ _=_
                    rw[HCM.out]
                    unfold zci
                    rw[if_neg HN0.out,if_neg HN1.out,if_neg HN2.out,if_neg HN3.out,if_neg HN4.out,if_neg HN5.out,if_neg HN6.out,if_neg HN7.out,if_neg HN8.out,if_neg HN9.out,if_pos hc]
                   obtain⟨z,hz⟩:∃z,zs=[z]:=List.length_eq_one_iff.1 hc.2
                   subst hz
                   clear hc
                   obtain⟨nb,no,rfl,_,_,_⟩:=HLB.out.ns.row (by show 0<1;decide)
                   obtain⟨dv,g3,hlt3,hdv⟩:=HRk.out.logK
                   obtain⟨da,dc,rfl,_⟩:=zny (hdv wr (zak.refl _ _))
                   have hG:=HRk.out.ti.good
                   obtain⟨dn,hdn⟩:∃dn,u.b.ds.length=dn:=⟨_,rfl⟩
                   rw[hdn]at g3 hdv
                   have HLI:Hid (ThU base w0 S R E F qw told u BL BN (.slice la (r.length+1) lc) (.slice (some ⟨nb,no,none⟩) 1 nc) ((k::r).map bl) [z] (.slice da dn dc) wr):=⟨⟨HRk.out,HLB.out⟩,g3,hlt3,hdv wr (zak.refl _ _)⟩
                   have HCE:Hid (∀wk,ThU base w0 S R E F qw told u BL BN (.slice la (r.length+1) lc) (.slice (some ⟨nb,no,none⟩) 1 nc) ((k::r).map bl) [z] (.slice da dn dc) wk→wk.cell? ⟨nb,no,none⟩=some (.int .i64 z)):=fun wk hwk=>by
                    obtain⟨b3,o3,e3,_,_,r3⟩:=hwk.ln.ln.ns.row (by show 0<1;decide)
                    cases e3
                    exact r3 0 (by show 0<1;decide)
                   have HCB:Hid (∀wk,ThU base w0 S R E F qw told u BL BN (.slice la (r.length+1) lc) (.slice (some ⟨nb,no,none⟩) 1 nc) ((k::r).map bl) [z] (.slice da dn dc) wk→nb<wk.heap.size):=fun wk hwk=>by
                    obtain⟨b3,o3,e3,l3,_,_⟩:=hwk.ln.ln.ns.row (by show 0<1;decide)
                    cases e3
                    exact l3
                   have HTO:Hid (∀wk,ThU base w0 S R E F qw told u BL BN (.slice la (r.length+1) lc) (.slice (some ⟨nb,no,none⟩) 1 nc) ((k::r).map bl) [z] (.slice da dn dc) wk→Calls Tryz.prog 41 #[.slice da dn dc,.int .i64 z] wk fun e w'=>∃v,e= .returned (.tuple #[.string (strOfNums ((thS u.b z).map (·.c))),v,.bool (inS u.b z)])∧zpv w' wk.heap.size v ((thS u.b z).map (·.by_))∧Below wk.heap.size wk w'):=fun wk hwk=>told_own hwk.ds hG z
                   have HBY:Hid (∀y∈(thS u.b z).map (·.by_),inI y):=by_in hG z
                   have HZL:Hid (((thS u.b z).map (·.by_)).length≤200):=by show _≤_;rw[List.length_map];have:=ztn u.b z;have:=zb2 (b:=u.b);omega
                   have hsz:(strOfNums ((thS u.b z).map (·.c))).size≤200:=by rw[zbr,List.length_map];have:=HZL.out;rw[List.length_map]at this;exact this
                   have HTT:Hid ((⟨#[116,101,120,116,32]⟩++strOfNums ((thS u.b z).map (·.c)))++nlS=bl (zfo ((thS u.b z).map (·.c)))):=zoc _
                   have HE1:Hid (inS u.b z=true→zae u s.data.toList=(zfo ((thS u.b z).map (·.c))++byW ((thS u.b z).map (·.by_)),u)):=fun e=>by
                    rw[HCQ.out]
                    show(zhd u z,u)=_
                    unfold zhd
                    rw[if_pos e]
                   have HE0:Hid (inS u.b z=false→zae u s.data.toList=(noW 5,u)):=fun e=>by
                    rw[HCQ.out]
                    show(zhd u z,u)=_
                    unfold zhd
                    rw[if_neg (by rw[e];decide)]
                   clear g3 hlt3 hdv hG hdn
                   generalize hTL:zfo ((thS u.b z).map (·.c))=tL at*
                   clear hTL
                   generalize strOfNums ((thS u.b z).map (·.c))=sT at*
                   generalize (thS u.b z).map (·.by_)=zB at*
                   generalize inS u.b z=bI at*
                   go_wp2_with fail
                   refine zc1 (fun wk=>ThU base w0 S R E F qw told u BL BN (.slice la (r.length+1) lc) (.slice (some ⟨nb,no,none⟩) 1 nc) ((k::r).map bl) [z] (.slice da dn dc) wk) (fun i=>i==13) (fun wk=>ThU base w0 S R E F qw told u BL BN (.slice la (r.length+1) lc) (.slice (some ⟨nb,no,none⟩) 1 nc) ((k::r).map bl) [z] (.slice da dn dc) wk) (by kernel_rfl) (by kernel_rfl) (by kernel_rfl) (fun _ h=>h) (fun _ _ h hb=>h.after hb) (HLI.out.after (Below.refl _ _).drew) ?_
                   refine wgb (some 234) w0 rfl (.pointer (some ⟨R,0,none⟩)) rfl (by kernel_rfl) (fun wk hwk=> ?_) ?_
                   ·refine gus ?_
                    generalize hA:Act.eval _=ρ
                    have s0:ρ (.tmp 0)= .pointer (some ⟨R,0,none⟩):=by rw[←hA];kernel_rfl
                    clear hA
                    go_simp
                   go_big_quiet_op
                   refine wgb (some 235) w0 rfl (.pointer (some ⟨R,0,none⟩)) rfl (by kernel_rfl) (fun wk hwk=> ?_) ?_
                   ·refine gus ?_
                    generalize hA:Act.eval _=ρ
                    have s234:ρ (.tmp 234)= .pointer (some ⟨R,0,none⟩):=by rw[←hA];kernel_rfl
                    clear hA
                    go_simp
                   go_big_quiet_op
                   refine wgb (some 236) w0 rfl (.pointer (some ⟨R,1,none⟩)) rfl (by kernel_rfl) (fun wk hwk=> ?_) ?_
                   ·refine gus ?_
                    generalize hA:Act.eval _=ρ
                    have s235:ρ (.tmp 235)= .pointer (some ⟨R,0,none⟩):=by rw[←hA];kernel_rfl
                    clear hA
                    go_simp
                   go_big_quiet_op
                   refine wgb (some 237) w0 rfl (.pointer (some ⟨E,0,none⟩)) rfl (by kernel_rfl) (fun wk hwk=> ?_) ?_
                   ·refine gus ?_
                    generalize hA:Act.eval _=ρ
                    have s236:ρ (.tmp 236)= .pointer (some ⟨R,1,none⟩):=by rw[←hA];kernel_rfl
                    clear hA
                    have g1:=hwk.ln.rk.cells.town
                    have hlt:=hwk.ln.rk.cells.lt
                    go_simp
                   go_big_quiet_op
                   refine wgb (some 238) w0 rfl (.pointer (some ⟨E,0,none⟩)) rfl (by kernel_rfl) (fun wk hwk=> ?_) ?_
                   ·refine gus ?_
                    generalize hA:Act.eval _=ρ
                    have s237:ρ (.tmp 237)= .pointer (some ⟨E,0,none⟩):=by rw[←hA];kernel_rfl
                    clear hA
                    go_simp
                   go_big_quiet_op
                   refine wgb (some 239) w0 rfl (.pointer (some ⟨E,0,none⟩)) rfl (by kernel_rfl) (fun wk hwk=> ?_) ?_
                   ·refine gus ?_
                    generalize hA:Act.eval _=ρ
                    have s238:ρ (.tmp 238)= .pointer (some ⟨E,0,none⟩):=by rw[←hA];kernel_rfl
                    clear hA
                    go_simp
                   go_big_quiet_op
                   refine wgb (some 240) w0 rfl (.pointer (some ⟨F,0,none⟩)) rfl (by kernel_rfl) (fun wk hwk=> ?_) ?_
                   ·refine gus ?_
                    generalize hA:Act.eval _=ρ
                    have s239:ρ (.tmp 239)= .pointer (some ⟨E,0,none⟩):=by rw[←hA];kernel_rfl
                    clear hA
                    have g1:=hwk.ln.rk.tw.book
                    have hlt:=hwk.ln.rk.tw.lt
                    go_simp
                   go_big_quiet_op
                   refine wgb (some 241) w0 rfl (.pointer (some ⟨F,0,none⟩)) rfl (by kernel_rfl) (fun wk hwk=> ?_) ?_
                   ·refine gus ?_
                    generalize hA:Act.eval _=ρ
                    have s240:ρ (.tmp 240)= .pointer (some ⟨F,0,none⟩):=by rw[←hA];kernel_rfl
                    clear hA
                    go_simp
                   go_big_quiet_op
                   refine wgb (some 242) w0 rfl (.pointer (some ⟨F,0,none⟩)) rfl (by kernel_rfl) (fun wk hwk=> ?_) ?_
                   ·refine gus ?_
                    generalize hA:Act.eval _=ρ
                    have s241:ρ (.tmp 241)= .pointer (some ⟨F,0,none⟩):=by rw[←hA];kernel_rfl
                    clear hA
                    go_simp
                   go_big_quiet_op
                   refine wgb (some 243) w0 rfl (.slice da dn dc) rfl (by kernel_rfl) (fun wk hwk=> ?_) ?_
                   ·refine gus ?_
                    generalize hA:Act.eval _=ρ
                    have s242:ρ (.tmp 242)= .pointer (some ⟨F,0,none⟩):=by rw[←hA];kernel_rfl
                    clear hA
                    have g1:=hwk.cell
                    have hlt:=hwk.lt
                    go_simp
                   go_big_quiet_op
                   refine wgb (some 244) w0 rfl (.slice (some ⟨nb,no,none⟩) 1 nc) rfl (by kernel_rfl) (fun wk hwk=> ?_) ?_
                   ·refine gus ?_
                    generalize hA:Act.eval _=ρ
                    have s18:ρ (.tmp 18)= .pointer (some ⟨BN,0,none⟩):=by rw[←hA];kernel_rfl
                    clear hA
                    have cN:=hwk.ln.ln.bn
                    have hN:=hwk.ln.ln.ln
                    go_simp
                   go_big_quiet_op
                   refine wgb (some 245) w0 rfl (.pointer (some ⟨nb,no+0,none⟩)) rfl (by kernel_rfl) (fun wk hwk=> ?_) ?_
                   ·refine gus ?_
                    generalize hA:Act.eval _=ρ
                    have s244:ρ (.tmp 244)= .slice (some ⟨nb,no,none⟩) 1 nc:=by rw[←hA];kernel_rfl
                    have k1:ρ (.const (.int .i64 (0)))= .int .i64 (0):=by rw[←hA];kernel_rfl
                    clear hA
                    go_simp
                   go_big_quiet_op
                   refine wgb (some 246) w0 rfl (.int .i64 (z)) rfl (by kernel_rfl) (fun wk hwk=> ?_) ?_
                   ·refine gus ?_
                    generalize hA:Act.eval _=ρ
                    have s245:ρ (.tmp 245)= .pointer (some ⟨nb,no+0,none⟩):=by rw[←hA];kernel_rfl
                    clear hA
                    have c1:=HCE.out wk hwk
                    have hb1:=HCB.out wk hwk
                    go_simp
                   go_big_quiet_op
                   refine zbf (some 247) w0 rfl rfl rfl (fun uu=>ToldV sT bI uu) (fun uu wk=>ThU base w0 S R E F qw told u BL BN (.slice la (r.length+1) lc) (.slice (some ⟨nb,no,none⟩) 1 nc) ((k::r).map bl) [z] (.slice da dn dc) wk∧qa3 R sT bI zB uu wk) (⟨_,undef,rfl⟩) (fun _ _ h=>h.1) (fun _ _ _ h hb=>⟨h.1.after hb,h.2.after hb⟩) (fun wk hwk=> ?_) (fun u9 hu9=> ?_)
                   ·generalize hA:Act.eval _=ρ
                    have s243:ρ (.tmp 243)= .slice da dn dc:=by rw[←hA];kernel_rfl
                    have s246:ρ (.tmp 246)= .int .i64 (z):=by rw[←hA];kernel_rfl
                    have sf:ρ (.func 41)= .func (.func 41) #[] #[]:=by rw[←hA];kernel_rfl
                    clear hA
                    go_simp
                    refine(HTO.out wk hwk).mono ?_
                    rintro e w7 ⟨v7,rfl,h7,hb7⟩
                    exact⟨_,rfl,⟨v7,rfl⟩,hwk.after hb7,v7,_,rfl,hwk.ln.rk.cells.lt,h7⟩
                   obtain⟨tv,rfl⟩:=hu9
                   go_big_quiet_op
                   refine wgb (some 233) w0 rfl (.tuple #[.string sT,tv,.bool bI]) rfl (by kernel_rfl) (fun wk hwk=> ?_) ?_
                   ·refine gus ?_
                    generalize hA:Act.eval _=ρ
                    have s247:ρ (.tmp 247)= .tuple #[.string sT,tv,.bool bI]:=by rw[←hA];kernel_rfl
                    clear hA
                    go_simp
                   go_big_quiet_op
                   refine wgb (some 248) w0 rfl (.string sT) rfl (by kernel_rfl) (fun wk hwk=> ?_) ?_
                   ·refine gus ?_
                    generalize hA:Act.eval _=ρ
                    have s233:ρ (.tmp 233)= .tuple #[.string sT,tv,.bool bI]:=by rw[←hA];kernel_rfl
                    clear hA
                    go_simp
                   go_big_quiet_op
                   refine wgb (some 249) w0 rfl (tv) rfl (by kernel_rfl) (fun wk hwk=> ?_) ?_
                   ·refine gus ?_
                    generalize hA:Act.eval _=ρ
                    have s233:ρ (.tmp 233)= .tuple #[.string sT,tv,.bool bI]:=by rw[←hA];kernel_rfl
                    clear hA
                    go_simp
                   go_big_quiet_op
                   refine wgb (some 250) w0 rfl (.bool bI) rfl (by kernel_rfl) (fun wk hwk=> ?_) ?_
                   ·refine gus ?_
                    generalize hA:Act.eval _=ρ
                    have s233:ρ (.tmp 233)= .tuple #[.string sT,tv,.bool bI]:=by rw[←hA];kernel_rfl
                    clear hA
                    go_simp
                   go_big_quiet_op
                   refine wgb (some 25) w0 rfl (.string sT) rfl (by kernel_rfl) (fun wk hwk=> ?_) ?_
                   ·refine gus ?_
                    generalize hA:Act.eval _=ρ
                    have s248:ρ (.tmp 248)= .string sT:=by rw[←hA];kernel_rfl
                    clear hA
                    go_simp
                   go_big_quiet_op
                   refine wgb (some 26) w0 rfl (tv) rfl (by kernel_rfl) (fun wk hwk=> ?_) ?_
                   ·refine gus ?_
                    generalize hA:Act.eval _=ρ
                    have s249:ρ (.tmp 249)=tv:=by rw[←hA];kernel_rfl
                    clear hA
                    go_simp
                   go_big_quiet_op
                   refine wgb (some 27) w0 rfl (.bool bI) rfl (by kernel_rfl) (fun wk hwk=> ?_) ?_
                   ·refine gus ?_
                    generalize hA:Act.eval _=ρ
                    have s250:ρ (.tmp 250)= .bool bI:=by rw[←hA];kernel_rfl
                    clear hA
                    go_simp
                   go_big_quiet_op
                   refine zdt (fun w6 hw6=> ?_)
                   obtain⟨hU6,tv2,m6,he6,hm6,ho6⟩:=hw6
                   obtain rfl:tv=tv2:=by simpa using he6
                   obtain⟨ta,tc,rfl⟩:=ho6.ilst.len
                   have H6:Hid (zbi base w0 S R E F qw told u (Th.no base) w6):=hU6.ln.rk
                   have HO6:Hid (zpv w6 m6 (.slice ta zB.length tc) zB∧R<m6):=⟨ho6,hm6⟩
                   clear hU6 ho6 hm6 he6 HCE HCB HTO HLI HRk
                   cases bI
                   case false=>
                    obtain⟨sc,hscz,hscE,hscC⟩:=zzd
                    have HSE:Hid ((⟨#[110,111,32]⟩++sc)++nlS=bl (noW 5)):=hscE
                    have HSC:Hid (∀w,zbz w→Calls Tryz.prog 42 #[.int .i64 5] w fun e w'=>e= .returned (.string sc)∧Below w.heap.size w w'):=hscC
                    clear hscE hscC HTT
                    go_wp2_with fail
                    refine(HSC.out _ H6.out.rdy.ready).mono ?_
                    rintro e w7 ⟨rfl,hb⟩
                    have H7:Hid (zbi base w0 S R E F qw told u (Th.no base) w7):=H6.out.after hb
                    clear hb H6
                    go_wp2_with fail
                    refine(zgj H7.out _ (by rw[ByteArray.size_append];show _+(3+_)≤_;have:=HT.out;omega)).mono ?_
                    rintro e w8 ⟨rfl,h8,-⟩
                    have H8:Hid (zbn base w0 S R E F told (zae u s.data.toList) w8):=by show zbn _ _ _ _ _ _ _ _ _;rw[HE0.out (by trivial)];rw[HSE.out]at h8;exact⟨qw,h8⟩
                    clear h8
                    go_wp2_with fail
                    (try simp only[Exit.inBlock,Exit.then]);refine bodyPost_ret (results_none rfl _ _ _) rfl ?_
                    exact⟨rfl,H8.out⟩
                   case true=>
                    go_wp2_with fail
                    refine(zgj H6.out _ (by rw[ByteArray.size_append];show _+(5+_)≤_;have:=HT.out;omega)).mono ?_
                    rintro e w7 ⟨rfl,h7,hk7⟩
                    rw[HTT.out]at h7
                    have H7:Hid (zbi base w0 S R E F qw (told++bl tL) u (Th.no base) w7):=h7
                    have HIL:Hid (zlq w7 (.slice ta zB.length tc) zB):=qef HO6.out.1 HO6.out.2 hk7
                    have HTZ:Hid ((told++bl tL).size≤800000206):=by
                     show _≤_
                     have e:=congrArg ByteArray.size HTT.out
                     rw[ByteArray.size_append,ByteArray.size_append]at e
                     have e2:(⟨#[116,101,120,116,32]⟩:ByteArray).size=5:=rfl
                     have e3:nlS.size=1:=rfl
                     rw[ByteArray.size_append,←e]
                     have:=HT.out
                     omega
                    clear h7 hk7 H6 HO6 HTT
                    go_wp2_with fail
                    go_loopw [28,29] (fun c i wx=>∃j:Nat,j≤zB.length∧c= .string (byB (zB.take j))∧i= .int .i64 j∧Hid (Below w7.heap.size w7 wx)) (fun _ i _=>zB.length-(intOf i).toNat)
                    case atStart=>exact⟨0,Nat.zero_le _,rfl,rfl,Below.refl _ _⟩
                    case round=>
                     obtain⟨j2,hj2,rfl,rfl,HB⟩:=hrel
                     have hzl:zB.length≤200:=HZL.out
                     have HBZ:Hid ((byB (zB.take j2)).size≤100000):=by
                      show _≤_
                      have h1:=byB_size (zB.take j2) (fun y hy=>HBY.out y (List.mem_of_mem_take hy))
                      rw[List.length_take]at h1
                      have:=HZL.out
                      omega
                     by_cases hlt:j2<zB.length
                     ·have hji:(j2:Int)<(zB.length:Int):=by omega
                      obtain⟨b8,o8,rfl,hb8,_,r8⟩:=(HIL.out.below HB.out).row (by omega)
                      have c8:=r8 j2 hlt
                      have HN:Hid (byB (zB.take (j2+1))=byB (zB.take j2)++(⟨#[32]⟩++zc4 zB[j2])):=by show _=_;rw[List.take_succ_eq_append_getElem hlt,byB_snoc]
                      have hin:inI zB[j2]:=HBY.out _ (List.getElem_mem hlt)
                      have HNC:Hid (∀w,zbz w→Calls Tryz.prog 42 #[.int .i64 zB[j2]] w fun e w'=>e= .returned (.string (zc4 zB[j2]))∧Below w.heap.size w w'):=fun w hw=>zj7 _ hin w hw
                      have hz8:(zc4 zB[j2]).size≤21:=zby hin
                      have hbz:=HBZ.out
                      generalize byB (zB.take j2)=sb at*
                      generalize zc4 zB[j2]=s8 at*
                      generalize zB[j2]=y8 at*
                      clear hin r8
                      go_wp2_with fail
                      clear c8 hb8
                      refine(HNC.out _ (H7.out.after HB.out).rdy.ready).mono ?_
                      rintro e w8 ⟨rfl,hb⟩
                      have HB8:Hid (Below w7.heap.size w7 w8):=bla HB.out hb
                      clear hb HB
                      have hz9:(⟨#[32]⟩++s8:ByteArray).size≤100:=by rw[ByteArray.size_append];show 1+_≤_;omega
                      go_wp2_with fail
                      go_roundw
                      case rel=>exact⟨j2+1,by omega,by rw[HN.out],by go_num,HB8.out⟩
                      case measure=>simp[intOf];omega
                     ·obtain rfl:j2=zB.length:=by omega
                      have HTK:Hid (byB (zB.take zB.length)++nlS=bl (byW zB)):=by show _=_;rw[List.take_length];exact byB_told _
                      generalize byB (zB.take zB.length)=sb at*
                      go_wp2_with fail
                      refine(zgj (H7.out.after HB.out) _ (by have:=HTZ.out;have:=HBZ.out;omega)).mono ?_
                      rintro e w8 ⟨rfl,h8,-⟩
                      have H8:Hid (zbn base w0 S R E F told (zae u s.data.toList) w8):=by
                       show zbn _ _ _ _ _ _ _ _ _
                       rw[HE1.out (by trivial)]
                       rw[HTK.out,ByteArray.append_assoc,zf5]at h8
                       exact⟨qw,h8⟩
                      clear h8
                      go_wp2_with fail
                      go_end0
                      exact⟨rfl,H8.out⟩
                 ·rw[show isB k zs [116,104,101,110] 1=false from decide_eq_false hc]
                  have HN10:Hid (¬(k=[116,104,101,110]∧zs.length=1)):=hc
                  clear hc
                  go_wp2_with fail
                  refine(zmi HLB.out [115,101,116,116,108,101] 0).mono ?_
                  rintro e wq ⟨rfl,hwq⟩
                  rw[hwq]
                  clear hwq wq
                  by_cases hc:k=[115,101,116,116,108,101]∧zs.length=0
                  ·rw[show isB k zs [115,101,116,116,108,101] 0=true from decide_eq_true hc]
                   as_aux_lemma=>
                    have HCQ:Hid (zae u s.data.toList=(okW,zdz u)):=by
                     show zae _ _=_
                     rw[HCM.out]
                     unfold zci
                     rw[if_neg HN0.out,if_neg HN1.out,if_neg HN2.out,if_neg HN3.out,if_neg HN4.out,if_neg HN5.out,if_neg HN6.out,if_neg HN7.out,if_neg HN8.out,if_neg HN9.out,if_neg HN10.out,if_pos hc]
                    clear hc
                    have g1:=HRk.out.cells.town
                    have hlt1:=HRk.out.cells.lt
                    go_wp2_with fail
                    clear g1 hlt1
                    refine HRk.out.settles.mono ?_
                    rintro e w5 ⟨rfl,qw5,h5⟩
                    have H5:Hid (zbi base w0 S R E F qw5 told (zdz u) (Th.no base) w5):=h5
                    clear h5
                    go_wp2_with fail
                    refine(zgj H5.out _ (by show _+2≤_;have:=HT.out;omega)).mono ?_
                    rintro e w6 ⟨rfl,h6,-⟩
                    have H6:Hid (zbn base w0 S R E F told (zae u s.data.toList) w6):=by show zbn _ _ _ _ _ _ _ _ _;rw[HCQ.out];exact⟨qw5,h6⟩
                    clear h6
                    go_wp2_with fail
                    go_end0
                    exact⟨rfl,H6.out⟩
                  ·rw[show isB k zs [115,101,116,116,108,101] 0=false from decide_eq_false hc]
                   have HN11:Hid (¬(k=[115,101,116,116,108,101]∧zs.length=0)):=hc
                   clear hc
                   go_wp2_with fail
                   refine(zmi HLB.out [108,101,97,115,116] 0).mono ?_
                   rintro e wq ⟨rfl,hwq⟩
                   rw[hwq]
                   clear hwq wq
                   by_cases hc:k=[108,101,97,115,116]∧zs.length=0
                   ·rw[show isB k zs [108,101,97,115,116] 0=true from decide_eq_true hc]
                    as_aux_lemma=>
                     have HCQ:Hid (zae u s.data.toList=(ze4 (zao u.b) u.b.len,u)):=by
                      show zae _ _=_
                      rw[HCM.out]
                      unfold zci
                      rw[if_neg HN0.out,if_neg HN1.out,if_neg HN2.out,if_neg HN3.out,if_neg HN4.out,if_neg HN5.out,if_neg HN6.out,if_neg HN7.out,if_neg HN8.out,if_neg HN9.out,if_neg HN10.out,if_neg HN11.out,if_pos hc]
                     clear hc
                     obtain⟨dv,g3,hlt3,hdv⟩:=HRk.out.logK
                     obtain⟨da,dc,rfl,_⟩:=zny (hdv wr (zak.refl _ _))
                     have hG:=HRk.out.ti.good
                     have hle:=zfs u.b
                     have hsm:=hG.small
                     have hge:0≤zao u.b:=zh4 (by show(0:Int)≤(u.b.ds.length:Int);omega) (fun w _ _=>(hG.said w).1)
                     have hlen:u.b.len=(u.b.ds.length:Int):=rfl
                     have HinL:Hid (inI (zao u.b)):=by show inI _;unfold inI;omega
                     have HinN:Hid (inI (u.b.ds.length:Int)):=by show inI _;unfold inI;omega
                     have HLN:Hid (∀wk,zbz wk→Calls Tryz.prog 42 #[.int .i64 (zao u.b)] wk fun e w'=>e= .returned (.string (zc4 (zao u.b)))∧Below wk.heap.size wk w'):=fun wk hw=>zj7 _ HinL.out wk hw
                     have HNN:Hid (∀wk,zbz wk→Calls Tryz.prog 42 #[.int .i64 (u.b.ds.length:Int)] wk fun e w'=>e= .returned (.string (zc4 (u.b.ds.length:Int)))∧Below wk.heap.size wk w'):=fun wk hw=>zj7 _ HinN.out wk hw
                     have hz1:(zc4 (zao u.b)).size≤21:=zby HinL.out
                     have hz2:(zc4 (u.b.ds.length:Int)).size≤21:=zby HinN.out
                     have HTT:Hid ((⟨#[108,101,97,115,116,32]⟩++zc4 (zao u.b)++⟨#[32]⟩++zc4 (u.b.ds.length:Int))++nlS=bl (ze4 (zao u.b) u.b.len)):=qb9 _ _
                     have HLE:Hid (∀wk,(∃tx,zbi base w0 S R E F qw tx u (Th.no base) wk)→Calls Tryz.prog 44 #[.pointer (some ⟨F,0,none⟩)] wk fun e w'=>e= .returned (.int .i64 (zao u.b))∧w'=wk):=fun wk ⟨tx,hx⟩=>hx.leastK
                     have HNE:Hid (F≠R):=HRk.out.bookNe
                     obtain⟨dn,hdn⟩:∃dn,u.b.ds.length=dn:=⟨_,rfl⟩
                     obtain⟨lL,hlL⟩:∃lL,zao u.b=lL:=⟨_,rfl⟩
                     rw[hdn]at g3 HNN hz2 HTT hsm
                     rw[hlL]at HLN hz1 HTT HLE
                     obtain⟨sL,hsL⟩:∃sL,zc4 lL=sL:=⟨_,rfl⟩
                     obtain⟨sN,hsN⟩:∃sN,zc4 (dn:Int)=sN:=⟨_,rfl⟩
                     rw[hsL]at HLN hz1 HTT
                     rw[hsN]at HNN hz2 HTT
                     have HD0:Hid (zbi base w0 S R E F qw told u (Th.no base) wr∧wr.cell? ⟨F,0,none⟩=some (.slice da dn dc)∧F<wr.heap.size):=⟨HRk.out,g3,hlt3⟩
                     clear g3 hlt3 hdv hG hle hge hlen hdn hsL hsN HinL HinN
                     go_wp2_with fail
                     refine zc1 (fun wk=>LsU base w0 S R E F qw u (.slice da dn dc) wk) (fun i=>i==25) (fun wk=>zbi base w0 S R E F qw told u (Th.no base) wk∧wk.cell? ⟨F,0,none⟩=some (.slice da dn dc)∧F<wk.heap.size) (by kernel_rfl) (by kernel_rfl) (by kernel_rfl) (fun _ h=>⟨⟨_,h.1⟩,h.2.1,h.2.2⟩) (fun _ _ h hb=>⟨h.1.after hb,zd8 h.2.1 hb,Nat.lt_of_lt_of_le h.2.2 hb.size⟩) (⟨HD0.out.1.after (Below.refl _ _).drew,HD0.out.2.1,HD0.out.2.2⟩) ?_
                     refine wgb (some 291) w0 rfl (.pointer (some ⟨R,0,none⟩)) rfl (by kernel_rfl) (fun wk hwk=> ?_) ?_
                     ·refine gus ?_
                      generalize hA:Act.eval _=ρ
                      have s0:ρ (.tmp 0)= .pointer (some ⟨R,0,none⟩):=by rw[←hA];kernel_rfl
                      clear hA
                      go_simp
                     go_big_quiet_op
                     refine wgb (some 292) w0 rfl (.pointer (some ⟨R,0,none⟩)) rfl (by kernel_rfl) (fun wk hwk=> ?_) ?_
                     ·refine gus ?_
                      generalize hA:Act.eval _=ρ
                      have s0:ρ (.tmp 0)= .pointer (some ⟨R,0,none⟩):=by rw[←hA];kernel_rfl
                      clear hA
                      go_simp
                     go_big_quiet_op
                     refine wgb (some 293) w0 rfl (.pointer (some ⟨R,0,none⟩)) rfl (by kernel_rfl) (fun wk hwk=> ?_) ?_
                     ·refine gus ?_
                      generalize hA:Act.eval _=ρ
                      have s292:ρ (.tmp 292)= .pointer (some ⟨R,0,none⟩):=by rw[←hA];kernel_rfl
                      clear hA
                      go_simp
                     go_big_quiet_op
                     refine wgb (some 294) w0 rfl (.pointer (some ⟨R,1,none⟩)) rfl (by kernel_rfl) (fun wk hwk=> ?_) ?_
                     ·refine gus ?_
                      generalize hA:Act.eval _=ρ
                      have s293:ρ (.tmp 293)= .pointer (some ⟨R,0,none⟩):=by rw[←hA];kernel_rfl
                      clear hA
                      go_simp
                     go_big_quiet_op
                     refine wgb (some 295) w0 rfl (.pointer (some ⟨E,0,none⟩)) rfl (by kernel_rfl) (fun wk hwk=> ?_) ?_
                     ·refine gus ?_
                      generalize hA:Act.eval _=ρ
                      have s294:ρ (.tmp 294)= .pointer (some ⟨R,1,none⟩):=by rw[←hA];kernel_rfl
                      clear hA
                      obtain⟨tx,hx⟩:=hwk.rk
                      have g1:=hx.cells.town
                      have hlt:=hx.cells.lt
                      go_simp
                     go_big_quiet_op
                     refine wgb (some 296) w0 rfl (.pointer (some ⟨E,0,none⟩)) rfl (by kernel_rfl) (fun wk hwk=> ?_) ?_
                     ·refine gus ?_
                      generalize hA:Act.eval _=ρ
                      have s295:ρ (.tmp 295)= .pointer (some ⟨E,0,none⟩):=by rw[←hA];kernel_rfl
                      clear hA
                      go_simp
                     go_big_quiet_op
                     refine wgb (some 297) w0 rfl (.pointer (some ⟨E,0,none⟩)) rfl (by kernel_rfl) (fun wk hwk=> ?_) ?_
                     ·refine gus ?_
                      generalize hA:Act.eval _=ρ
                      have s296:ρ (.tmp 296)= .pointer (some ⟨E,0,none⟩):=by rw[←hA];kernel_rfl
                      clear hA
                      go_simp
                     go_big_quiet_op
                     refine wgb (some 298) w0 rfl (.pointer (some ⟨F,0,none⟩)) rfl (by kernel_rfl) (fun wk hwk=> ?_) ?_
                     ·refine gus ?_
                      generalize hA:Act.eval _=ρ
                      have s297:ρ (.tmp 297)= .pointer (some ⟨E,0,none⟩):=by rw[←hA];kernel_rfl
                      clear hA
                      obtain⟨tx,hx⟩:=hwk.rk
                      have g1:=hx.tw.book
                      have hlt:=hx.tw.lt
                      go_simp
                     go_big_quiet_op
                     refine wgb (some 299) w0 rfl (.int .i64 (lL)) rfl (by kernel_rfl) (fun wk hwk=> ?_) ?_
                     ·generalize hA:Act.eval _=ρ
                      have s298:ρ (.tmp 298)= .pointer (some ⟨F,0,none⟩):=by rw[←hA];kernel_rfl
                      have sf:ρ (.func 44)= .func (.func 44) #[] #[]:=by rw[←hA];kernel_rfl
                      clear hA
                      unfold zcf
                      go_simp
                      exact(HLE.out wk hwk.rk).mono (fun _ _ ⟨he,hw⟩=>⟨he,by rw[hw];exact Below.refl _ _⟩)
                     go_big_quiet_op
                     refine wgb (some 300) w0 rfl (.string sL) rfl (by kernel_rfl) (fun wk hwk=> ?_) ?_
                     ·generalize hA:Act.eval _=ρ
                      have s299:ρ (.tmp 299)= .int .i64 (lL):=by rw[←hA];kernel_rfl
                      have sf:ρ (.func 42)= .func (.func 42) #[] #[]:=by rw[←hA];kernel_rfl
                      clear hA
                      unfold zcf
                      go_simp
                      obtain⟨tx,hx⟩:=hwk.rk
                      exact HLN.out wk hx.rdy.ready
                     go_big_quiet_op
                     refine wgb (some 301) w0 rfl (.string (⟨#[108,101,97,115,116,32]⟩++sL)) rfl (by kernel_rfl) (fun wk hwk=> ?_) ?_
                     ·refine gus ?_
                      generalize hA:Act.eval _=ρ
                      have s300:ρ (.tmp 300)= .string sL:=by rw[←hA];kernel_rfl
                      have k1:ρ (.const (.string ⟨#[108,101,97,115,116,32]⟩))= .string ⟨#[108,101,97,115,116,32]⟩:=by rw[←hA];kernel_rfl
                      clear hA
                      go_simp
                      omega
                     go_big_quiet_op
                     refine wgb (some 302) w0 rfl (.string (⟨#[108,101,97,115,116,32]⟩++sL++⟨#[32]⟩)) rfl (by kernel_rfl) (fun wk hwk=> ?_) ?_
                     ·refine gus ?_
                      generalize hA:Act.eval _=ρ
                      have s301:ρ (.tmp 301)= .string (⟨#[108,101,97,115,116,32]⟩++sL):=by rw[←hA];kernel_rfl
                      have k1:ρ (.const (.string ⟨#[32]⟩))= .string ⟨#[32]⟩:=by rw[←hA];kernel_rfl
                      clear hA
                      have hs6:(⟨#[108,101,97,115,116,32]⟩++sL:ByteArray).size≤100:=by rw[ByteArray.size_append];show 6+_≤_;omega
                      go_simp
                      omega
                     go_big_quiet_op
                     refine wgb (some 303) w0 rfl (.pointer (some ⟨R,0,none⟩)) rfl (by kernel_rfl) (fun wk hwk=> ?_) ?_
                     ·refine gus ?_
                      generalize hA:Act.eval _=ρ
                      have s0:ρ (.tmp 0)= .pointer (some ⟨R,0,none⟩):=by rw[←hA];kernel_rfl
                      clear hA
                      go_simp
                     go_big_quiet_op
                     refine wgb (some 304) w0 rfl (.pointer (some ⟨R,0,none⟩)) rfl (by kernel_rfl) (fun wk hwk=> ?_) ?_
                     ·refine gus ?_
                      generalize hA:Act.eval _=ρ
                      have s303:ρ (.tmp 303)= .pointer (some ⟨R,0,none⟩):=by rw[←hA];kernel_rfl
                      clear hA
                      go_simp
                     go_big_quiet_op
                     refine wgb (some 305) w0 rfl (.pointer (some ⟨R,1,none⟩)) rfl (by kernel_rfl) (fun wk hwk=> ?_) ?_
                     ·refine gus ?_
                      generalize hA:Act.eval _=ρ
                      have s304:ρ (.tmp 304)= .pointer (some ⟨R,0,none⟩):=by rw[←hA];kernel_rfl
                      clear hA
                      go_simp
                     go_big_quiet_op
                     refine wgb (some 306) w0 rfl (.pointer (some ⟨E,0,none⟩)) rfl (by kernel_rfl) (fun wk hwk=> ?_) ?_
                     ·refine gus ?_
                      generalize hA:Act.eval _=ρ
                      have s305:ρ (.tmp 305)= .pointer (some ⟨R,1,none⟩):=by rw[←hA];kernel_rfl
                      clear hA
                      obtain⟨tx,hx⟩:=hwk.rk
                      have g1:=hx.cells.town
                      have hlt:=hx.cells.lt
                      go_simp
                     go_big_quiet_op
                     refine wgb (some 307) w0 rfl (.pointer (some ⟨E,0,none⟩)) rfl (by kernel_rfl) (fun wk hwk=> ?_) ?_
                     ·refine gus ?_
                      generalize hA:Act.eval _=ρ
                      have s306:ρ (.tmp 306)= .pointer (some ⟨E,0,none⟩):=by rw[←hA];kernel_rfl
                      clear hA
                      go_simp
                     go_big_quiet_op
                     refine wgb (some 308) w0 rfl (.pointer (some ⟨E,0,none⟩)) rfl (by kernel_rfl) (fun wk hwk=> ?_) ?_
                     ·refine gus ?_
                      generalize hA:Act.eval _=ρ
                      have s307:ρ (.tmp 307)= .pointer (some ⟨E,0,none⟩):=by rw[←hA];kernel_rfl
                      clear hA
                      go_simp
                     go_big_quiet_op
                     refine wgb (some 309) w0 rfl (.pointer (some ⟨F,0,none⟩)) rfl (by kernel_rfl) (fun wk hwk=> ?_) ?_
                     ·refine gus ?_
                      generalize hA:Act.eval _=ρ
                      have s308:ρ (.tmp 308)= .pointer (some ⟨E,0,none⟩):=by rw[←hA];kernel_rfl
                      clear hA
                      obtain⟨tx,hx⟩:=hwk.rk
                      have g1:=hx.tw.book
                      have hlt:=hx.tw.lt
                      go_simp
                     go_big_quiet_op
                     refine wgb (some 310) w0 rfl (.pointer (some ⟨F,0,none⟩)) rfl (by kernel_rfl) (fun wk hwk=> ?_) ?_
                     ·refine gus ?_
                      generalize hA:Act.eval _=ρ
                      have s309:ρ (.tmp 309)= .pointer (some ⟨F,0,none⟩):=by rw[←hA];kernel_rfl
                      clear hA
                      go_simp
                     go_big_quiet_op
                     refine wgb (some 311) w0 rfl (.pointer (some ⟨F,0,none⟩)) rfl (by kernel_rfl) (fun wk hwk=> ?_) ?_
                     ·refine gus ?_
                      generalize hA:Act.eval _=ρ
                      have s310:ρ (.tmp 310)= .pointer (some ⟨F,0,none⟩):=by rw[←hA];kernel_rfl
                      clear hA
                      go_simp
                     go_big_quiet_op
                     refine wgb (some 312) w0 rfl (.slice da dn dc) rfl (by kernel_rfl) (fun wk hwk=> ?_) ?_
                     ·refine gus ?_
                      generalize hA:Act.eval _=ρ
                      have s311:ρ (.tmp 311)= .pointer (some ⟨F,0,none⟩):=by rw[←hA];kernel_rfl
                      clear hA
                      have g1:=hwk.cell
                      have hlt:=hwk.lt
                      go_simp
                     go_big_quiet_op
                     refine wgb (some 313) w0 rfl (.int .i64 ((dn:Int))) rfl (by kernel_rfl) (fun wk hwk=> ?_) ?_
                     ·refine gus ?_
                      generalize hA:Act.eval _=ρ
                      have s312:ρ (.tmp 312)= .slice da dn dc:=by rw[←hA];kernel_rfl
                      clear hA
                      go_simp
                     go_big_quiet_op
                     refine wgb (some 314) w0 rfl (.string sN) rfl (by kernel_rfl) (fun wk hwk=> ?_) ?_
                     ·generalize hA:Act.eval _=ρ
                      have s313:ρ (.tmp 313)= .int .i64 ((dn:Int)):=by rw[←hA];kernel_rfl
                      have sf:ρ (.func 42)= .func (.func 42) #[] #[]:=by rw[←hA];kernel_rfl
                      clear hA
                      unfold zcf
                      go_simp
                      obtain⟨tx,hx⟩:=hwk.rk
                      exact HNN.out wk hx.rdy.ready
                     go_big_quiet_op
                     refine wgb (some 315) w0 rfl (.string (⟨#[108,101,97,115,116,32]⟩++sL++⟨#[32]⟩++sN)) rfl (by kernel_rfl) (fun wk hwk=> ?_) ?_
                     ·refine gus ?_
                      generalize hA:Act.eval _=ρ
                      have s302:ρ (.tmp 302)= .string (⟨#[108,101,97,115,116,32]⟩++sL++⟨#[32]⟩):=by rw[←hA];kernel_rfl
                      have s314:ρ (.tmp 314)= .string sN:=by rw[←hA];kernel_rfl
                      clear hA
                      have hs6:(⟨#[108,101,97,115,116,32]⟩++sL++⟨#[32]⟩:ByteArray).size≤100:=by rw[ByteArray.size_append,ByteArray.size_append];show 6+_+1≤_;omega
                      go_simp
                      omega
                     go_big_quiet_op
                     refine zbf (some 316) w0 rfl rfl rfl (fun uu=>uu= .tuple #[]) (fun _ wk=>zbi base w0 S R E F qw (told++(⟨#[108,101,97,115,116,32]⟩++sL++⟨#[32]⟩++sN++nlS)) u (Th.no base) wk∧wk.cell? ⟨F,0,none⟩=some (.slice da dn dc)∧F<wk.heap.size) (⟨_,rfl⟩) (fun _ _ h=>⟨⟨_,h.1⟩,h.2.1,h.2.2⟩) (fun _ _ _ h hb=>⟨h.1.after hb,zd8 h.2.1 hb,Nat.lt_of_lt_of_le h.2.2 hb.size⟩) (fun wk hwk=> ?_) (fun u9 hu9=> ?_)
                     ·generalize hA:Act.eval _=ρ
                      have s291:ρ (.tmp 291)= .pointer (some ⟨R,0,none⟩):=by rw[←hA];kernel_rfl
                      have s315:ρ (.tmp 315)= .string (⟨#[108,101,97,115,116,32]⟩++sL++⟨#[32]⟩++sN):=by rw[←hA];kernel_rfl
                      have sf:ρ (.func 34)= .func (.func 34) #[] #[]:=by rw[←hA];kernel_rfl
                      clear hA
                      go_simp
                      refine(zgj hwk.1 _ (by rw[ByteArray.size_append,ByteArray.size_append,ByteArray.size_append];show _+(6+_+1+_)≤_;have:=HT.out;omega)).mono ?_
                      rintro e w7 ⟨rfl,h7,hk7⟩
                      exact⟨_,rfl,rfl,h7,by rw[World.cell?_of_block (a:=⟨F,0,none⟩) (hk7.block F hwk.2.2 HNE.out)];exact hwk.2.1,Nat.lt_of_lt_of_le hwk.2.2 hk7.size⟩
                     subst hu9
                     go_big_quiet_op
                     refine zdt (fun w6 hw6=> ?_)
                     have h6:=hw6.1
                     have H6:Hid (zbn base w0 S R E F told (zae u s.data.toList) w6):=by show zbn _ _ _ _ _ _ _ _ _;rw[HCQ.out,hlL];rw[HTT.out]at h6;exact⟨qw,h6⟩
                     clear hw6
                     clear h6
                     go_wp2_with fail
                     go_end0
                     exact⟨rfl,H6.out⟩
                   ·rw[show isB k zs [108,101,97,115,116] 0=false from decide_eq_false hc]
                    have HN12:Hid (¬(k=[108,101,97,115,116]∧zs.length=0)):=hc
                    clear hc
                    go_wp2_with fail
                    have HCQ:Hid (zae u s.data.toList=(zfl,u)):=by
                     show zae _ _=_
                     rw[HCM.out]
                     unfold zci
                     rw[if_neg HN0.out,if_neg HN1.out,if_neg HN2.out,if_neg HN3.out,if_neg HN4.out,if_neg HN5.out,if_neg HN6.out,if_neg HN7.out,if_neg HN8.out,if_neg HN9.out,if_neg HN10.out,if_neg HN11.out,if_neg HN12.out]
                    refine(zgj HRk.out _ (by show _+4≤_;have:=HT.out;omega)).mono ?_
                    rintro e w6 ⟨rfl,h6,-⟩
                    have H6:Hid (zbn base w0 S R E F told (zae u s.data.toList) w6):=by show zbn _ _ _ _ _ _ _ _ _;rw[HCQ.out];exact⟨qw,h6⟩
                    clear h6
                    go_wp2_with fail
                    go_end0
                    exact⟨rfl,H6.out⟩
end
end Go.Proofs.YtcbnnfeelhlapadGreatDoor