/-
  StB, StR, KRD, KFin, KRI.
-/
import Derived.Test.YtcbnnfeelhlapadGreatDoorKRM
namespace Go.Proofs.YtcbnnfeelhlapadGreatDoor
open Go.RowKit
set_option maxHeartbeats 3200000
set_option maxRecDepth 20000
variable {w1 wr w' w:World} {l:List Ch}
theorem zs3(n:Nat)(hn:n<=100000)(w:World):(Instr.makeSlice 42 (.int .i64 n) (.int .i64 n)).run Tryz.prog w= .ok (.slice (some ⟨w.heap.size,0,none⟩) n n) (w.alloc (.cells (madeCells (Value.int .u8 0).cells (n*1)) 5)):=by
 obtain⟨i0,hi,hz0,hz1,hz2⟩:=info_parts Tryz.infoByte
 have:=run_make (P:=Tryz.prog) w 42 5 i0 (.int .u8 0) Tryz.underlying42 hi hz0 .i64 .i64 n n (by omega) (Int.le_refl _) (by rw[hz2];omega) (by omega)
 simp only[Int.toNat_natCast,hz1]at this
 exact this
structure TxI(w1:World)(l:List Ch)(k:Nat)(wr:World):Prop where
 below:Below w1.heap.size w1 wr
 own:∃r,wr.ownsRow w1.heap.size 5 1 (.slice (some ⟨w1.heap.size,0,none⟩) l.length l.length) l.length (zf0 ((l.map (·.c)).take k)++r)
theorem qcr(w1:World)(l:List Ch)(hl:l.length<=100000):TxI w1 l 0 (w1.alloc (.cells (madeCells #[Value.int .u8 0] l.length) 5)):=by
 have e0:(madeCells #[Value.int .u8 0] l.length)=madeCells (Value.int .u8 0).cells (l.length*1):=by rw[Nat.mul_one];rfl
 rw[e0]
 refine⟨za2 _ _,(madeCells (Value.int .u8 0).cells (l.length*1)).toList,?_⟩
 rw[List.take_zero]
 have:=World.ownsRow_lit (base:=w1.heap.size) (e:=5) (size:=1) w1 (madeCells (Value.int .u8 0).cells (l.length*1)) l.length (Nat.le_refl _) (by unfold maxLen;omega) (size_madeCells _ _)
 simpa [zf0]using this
theorem TxI.after{k:Nat}(h:TxI w1 l k wr)(hb:Below wr.heap.size wr w'):TxI w1 l k w':=by
 obtain⟨h1,r,h2⟩:=h
 exact⟨bla h1 hb,r,zed h2 hb⟩
theorem TxI.step{w1 wr:World}{l:List Ch}{k:Nat}(h:TxI w1 l k wr)(hk:k<l.length){c:Int}(hc:c=l[k].c):TxI w1 l (k+1) (wr.setCell ⟨w1.heap.size,k,none⟩ (.int .u8 c)):=by
 obtain⟨hb,r,ho⟩:=h
 refine⟨hb.setCell (by simp) _,r.drop 1,?_⟩
 have hlm:(l.map (·.c)).length=l.length:=List.length_map ..
 have hlen:=ho.1
 have hl8:(zf0 ((l.map (·.c)).take k)).length=k:=by
  unfold zf0
  rw[List.length_map,List.length_take,hlm]
  omega
 rw[List.length_append,hl8]at hlen
 have e:zf0 ((l.map (·.c)).take (k+1))++r.drop 1=(zf0 ((l.map (·.c)).take k)++r).set k (.int .u8 c):=by
  match r,(show 1<=r.length by omega)with
  |r0::r,_=>
   rw[List.take_succ_eq_append_getElem (by omega),List.getElem_map,<-hc]
   have:∀(p:List Value) (m:Nat) (x y:Value),p.length=m->(p++y::r).set m x=p++x::r:=by
    intro p m x y hm
    subst hm
    simp
   rw[this _ _ _ _ hl8]
   simp[zf0]
 rw[e]
 exact(ho.stored _ _).1
theorem tx_spot{base g n cap:Nat}{xs:List Value}(h:w.ownsRow base 5 1 (.slice (some ⟨g,0,none⟩) n cap) n xs){j:Nat}(hj:j<n):(∃u,w.cell? ⟨g,j,none⟩=some u)/\w.frozen? ⟨g,j,none⟩=false:=by
 refine⟨?_,h.frozenAt j⟩
 rw[h.cellAt j (by omega)]
 exact⟨_,List.getElem?_eq_getElem (by rw[h.1];omega)⟩
theorem txI_end(h:TxI w1 l l.length wr):(convert 42 9 (.slice (some ⟨w1.heap.size,0,none⟩) l.length l.length)).run Tryz.prog wr= .ok (.string (strOfNums (l.map (·.c)))) wr:=by
 obtain⟨hb,r,ho⟩:=h
 have hlm:(l.map (·.c)).length=l.length:=List.length_map ..
 rw[show(l.map (·.c)).take l.length=l.map (·.c) by rw[<-hlm];exact List.take_length]at ho
 have hr:r=[]:=by
  have:=ho.1
  unfold zf0 at this
  rw[List.length_append,List.length_map,hlm]at this
  exact List.length_eq_zero_iff.1 (by omega)
 rw[hr,List.append_nil]at ho
 have ho':wr.ownsRow w1.heap.size 5 1 (.slice (some ⟨w1.heap.size,0,none⟩) l.length l.length) (l.map (·.c)).length (zf0 (l.map (·.c))):=by rw[hlm];exact ho
 exact zga ho'
section
variable {w:World} {lo P:Nat} {b:Bk}
theorem text_st(h:StTo w lo P b)(n:Int):
 Calls Tryz.prog 141 #[.pointer (some ⟨P,0,none⟩),.int .i64 n] w fun e w'=>e= .returned (.tuple #[.string (strOfNums ((thS b n).map (·.c))),.bool (inS b n)])/\Below w.heap.size w w':=by
 have HA:=hid h
 have hcl:(thS b n).length<=200:=by
  have:=ztn b n
  have:=zay (b:=b)
  omega
 clear h
 go_enter Tryz.func141,Tryz.ntmps141
 go_wp2_with fail
 refine(qdd HA.out n).mono ?_
 rintro e w1 ⟨v1,rfl,ho,hb⟩
 have HL:=hid ho.lst
 have HB:=hid hb
 obtain⟨a,cap,rfl,hcap⟩:=ho.lst.len
 obtain⟨l,hl⟩:∃l,thS b n=l:=⟨_,rfl⟩
 obtain⟨ok,hok⟩:∃ok,inS b n=ok:=⟨_,rfl⟩
 have HTH:=hid hl
 have HOK:=hid hok
 rw[hl]at hcl hcap HL⊢
 rw[hok]
 clear hl hok
 clear ho hb HA
 have hmk:=zs3 l.length (by omega)
 have HI:Hid (TxI w1 l 0 _):=qcr w1 l (by omega)
 go_wp2
 go_loopw [22] (fun i wr=>∃k:Nat,k<=l.length/\i= .int .i64 k/\Hid (TxI w1 l k wr)) (fun i _=>l.length-(intOf i).toNat)
 case atStart=>exact⟨0,Nat.zero_le _,rfl,HI⟩
 obtain⟨k,hk,rfl,HK⟩:=hrel
 clear HI hmk
 by_cases hkl:k<l.length
 ·have hki:(k:Int)<(l.length:Int):=by omega
  obtain⟨bb,off,rfl,hr⟩:∃b off,a=some ⟨b,off,none⟩/\Row wr b off l:=by
   obtain⟨b1,o1,e1,_,r1⟩:=(HL.out.below HK.out.below).row (by omega)
   exact⟨b1,o1,e1,r1⟩
  have hbl:=hr.lt
  obtain⟨h0,h1,h2,h3,h4,h5,h6⟩:=hr.at_ k hkl
  obtain⟨x,hx⟩:∃x,l[k]=x:=⟨_,rfl⟩
  have HX:=hid hx
  rw[hx]at h0 h1 h2 h3 h4 h5 h6
  have HK2:Hid (TxI w1 l k (wr.alloc (.cells #[.int .u8 x.c,.int .i64 x.by_,.int .i64 x.no,.int .i64 x.k,.int .i64 x.inn,.int .i64 x.out,.int .i64 x.gone] 127))):=HK.out.after (za2 _ _)
  obtain⟨r,ho⟩:=HK2.out.own
  obtain⟨⟨q0,e0⟩,f0⟩:=tx_spot ho (j:=k) hkl
  have hw1:w1.heap.size<wr.heap.size:=by
   obtain⟨_,ho'⟩:=HK.out.own
   exact(World.ownsRow.lt ho' _ rfl).2
  have HN:Hid (TxI w1 l (k+1) ((wr.setCell ⟨w1.heap.size,k,none⟩ (.int .u8 x.c)).alloc (.cells #[.int .u8 x.c,.int .i64 x.by_,.int .i64 x.no,.int .i64 x.k,.int .i64 x.inn,.int .i64 x.out,.int .i64 x.gone] 127))):=(HK.out.step hkl (by rw[HX.out])).after (za2 _ _)
  clear hr ho hx HX HK HK2
  go_wp2
  go_roundw
  case rel=>exact⟨k+1,by omega,by go_num,HN⟩
  case measure=>simp[intOf];omega
 obtain rfl:k=l.length:=by omega
 have hcv:=txI_end HK.out
 go_wp2
 go_ret2
 exact⟨by rw[HTH.out,HOK.out];rfl,bla HB.out HK.out.below⟩
theorem zmm(a b:List Int):ziu (a++b)=ziu a++ziu b:=List.map_append ..
structure ByI(w w1:World)(v:Value)(zs:List Int)(wk:World):Prop where
 below:Below w1.heap.size w1 wk
 own:zps wk w1.heap.size v zs
theorem ByI.after{wk:World}{v:Value}{zs:List Int}(h:ByI w w1 v zs wk)(hb:Below wk.heap.size wk w'):ByI w w1 v zs w':=⟨bla h.below hb,h.own.below hb⟩
theorem zno(w:World)(z:Int):∀j u,([Value.int .i64 z])[j]? =some u->(w.alloc (.cells #[.int .i64 z] 3)).cell? ((⟨w.heap.size,0,none⟩:Addr).add j)=some u:=by
 intro j u hj
 match j,hj with
 | 0,hj=>simp at hj;subst hj;simp[Addr.add,go_sem]
theorem ByI.grown{w w1 wr w2:World}{v v':Value}{zs:List Int}{z:Int}(h:ByI w w1 v zs wr)(ho:w2.ownsRow w1.heap.size 3 1 v' (zs.length+1) (ziu zs++[.int .i64 z]))(hg:wr.grownBy w2 v.ownBlock):ByI w w1 v' (zs++[z]) w2:=by
 refine⟨h.below.grown hg (by have:=h.below.size;omega) (fun j hj=>(World.ownsRow.lt h.own j hj).1),?_⟩
 unfold zps
 rw[zmm,List.length_append]
 exact ho
theorem by_own(h:StTo w lo P b)(n:Int):
 Calls Tryz.prog 142 #[.pointer (some ⟨P,0,none⟩),.int .i64 n] w fun e w'=>∃v,e= .returned (.tuple #[v,.bool (inS b n)])/\(∃m,w.heap.size<=m/\zps w' m v ((thS b n).map (·.by_)))/\Below w.heap.size w w':=by
 have HA:=hid h
 have hcl:(thS b n).length<=200:=by
  have:=ztn b n
  have:=zay (b:=b)
  omega
 clear h
 obtain⟨i0,hi,hz0,hz1,hz2⟩:=info_parts zss
 go_enter Tryz.func142,Tryz.ntmps142
 go_wp2_with fail
 refine(qdd HA.out n).mono ?_
 rintro e w1 ⟨v1,rfl,ho,hb⟩
 have HL:=hid ho.lst
 have HB:=hid hb
 obtain⟨a,cap,rfl,hcap⟩:=ho.lst.len
 obtain⟨l,hl⟩:∃l,thS b n=l:=⟨_,rfl⟩
 obtain⟨ok,hok⟩:∃ok,inS b n=ok:=⟨_,rfl⟩
 have HTH:=hid hl
 have HOK:=hid hok
 rw[hl]at hcl hcap HL⊢
 rw[hok]
 clear hl hok
 clear ho hb HA
 go_wp2
 go_loopw [8,19] (fun v i wr=>∃k:Nat,k<=l.length/\i= .int .i64 k/\Hid (ByI w w1 v ((l.map (·.by_)).take k) wr)) (fun _ i _=>l.length-(intOf i).toNat)
 case atStart=>exact⟨0,Nat.zero_le _,rfl,Below.refl _ _,zlc _ _⟩
 obtain⟨k,hk,rfl,HK⟩:=hrel
 have hlm:(l.map (·.by_)).length=l.length:=List.length_map ..
 by_cases hkl:k<l.length
 ·have hki:(k:Int)<(l.length:Int):=by omega
  have HN:Hid ((l.map (·.by_)).take (k+1)=(l.map (·.by_)).take k++[l[k].by_]):=by
   show List.take _ _=_
   rw[List.take_succ_eq_append_getElem (by omega),List.getElem_map]
  have hzl:((l.map (·.by_)).take k).length<=200:=by rw[List.length_take];omega
  obtain⟨bb,off,rfl,hr⟩:∃b off,a=some ⟨b,off,none⟩/\Row wr b off l:=by
   obtain⟨b1,o1,e1,_,r1⟩:=(HL.out.below HK.out.below).row (by omega)
   exact⟨b1,o1,e1,r1⟩
  have hbl:=hr.lt
  obtain⟨h0,h1,h2,h3,h4,h5,h6⟩:=hr.at_ k hkl
  generalize l[k]=x at*
  generalize (l.map (·.by_)).take k=zs at*
  have HZ:=hid hzl
  have HK2:Hid (ByI w w1 u8 zs ((wr.alloc (.cells #[.int .u8 x.c,.int .i64 x.by_,.int .i64 x.no,.int .i64 x.k,.int .i64 x.inn,.int .i64 x.out,.int .i64 x.gone] 127)).alloc (.cells #[.int .i64 x.by_] 3))):=(HK.out.after (za2 _ _)).after (za2 _ _)
  clear hr hlm hzl
  go_wp2_with (at_builtin;refine wpList_append_own _ rfl (.tmp 23) (.tmp 26) 79 rfl w1.heap.size 3 i0 (.int .i64 0) 1 8 Tryz.underlying79 hi hz0 hz1 hz2 rfl (by decide) u8 zs.length (ziu zs) rfl HK2.out.own ⟨(wr.alloc (.cells #[.int .u8 x.c,.int .i64 x.by_,.int .i64 x.no,.int .i64 x.k,.int .i64 x.inn,.int .i64 x.out,.int .i64 x.gone] 127)).heap.size,0,none⟩ 1 1 [.int .i64 x.by_] (by simp[go_sem]) rfl (zno _ _) ?c2 ?c3 ?c4 ?c5 ?_)
  case c2=>intro u hu;simp at hu;subst hu;rfl
  case c3=>have:=HZ.out;unfold maxLen;omega
  case c4=>have:=HZ.out;omega
  case c5=>exact HK2.out.below.size
  intro v' w2 hown' hgrow _
  have H2:Hid (ByI w w1 v' ((l.map (·.by_)).take (k+1)) w2):=by
   show ByI _ _ _ _ _
   rw[HN.out]
   exact HK2.out.grown hown' hgrow
  clear hgrow hown' h0 h1 h2 h3 h4 h5 h6 HK HK2
  go_wp2
  go_roundw
  case rel=>exact⟨k+1,by omega,by go_num,H2.out⟩
  case measure=>simp[intOf];omega
 obtain rfl:k=l.length:=by omega
 have HE:Hid ((l.map (·.by_)).take l.length=l.map (·.by_)):=by show List.take _ _=_;rw[<-hlm];exact List.take_length
 go_wp2
 go_ret2
 refine⟨u8,by rw[HOK.out];rfl,⟨w1.heap.size,HB.out.size,?_⟩,bla HB.out HK.out.below⟩
 rw[HTH.out,<-HE.out]
 exact HK.out.own
end
variable {b:Bk} {ds:List Dd} {w:World} {v:Value}
theorem all_part(h:zct b){i:Nat}(hi:i<=b.ds.length):(zh6 [] 0 (b.ds.take i)).2.1=0:=by
 by_cases hl:i<b.ds.length
 ·have e:b.ds=b.ds.take i++b.ds[i]::b.ds.drop (i+1):=by
   rw[<-List.drop_eq_getElem_cons hl,List.take_append_drop]
  have h0:=h.all0
  rw[e]at h0
  exact(zo0 _ [] 0 h0).1
 rw[List.take_of_length_le (by omega)];exact h.all0
theorem qd9(hg:zct b){n:Nat}(hn:n<=b.ds.length):vw (zaw b.ds n) 1073741823 (-1)=(thS b (n:Int)).map (·.c):=by
 rw[thS_in hn]
 have e:=story_tx hg hn
 unfold txS at e
 rw[e]
 unfold vw visL
 rw[List.filter_congr (fun x hx=>zom hg hn (by have:=hg.small;omega) hx)]
theorem told_vis(hg:zct b){n:Nat}(hn:n<=b.ds.length):zcx (zaw b.ds n) (n:Int)=visL b.ds n:=by
 unfold zcx visL
 exact List.filter_congr (fun x hx=>zom hg hn (Int.le_refl _) hx)
theorem told_by(hg:zct b){n:Nat}(hn:n<=b.ds.length):(zcx (zaw b.ds n) (n:Int)).map (·.by_)=(thS b (n:Int)).map (·.by_):=by
 rw[thS_in hn,told_vis hg hn]
 exact(story_by hg hn).symm
theorem zq4(a:Option Addr)(len cap k:Nat)(hk:k<=cap)(w:World):(Instr.sliceAt 61 (.slice a len cap) none (some (.int .i64 k)) none).run Tryz.prog w= .ok (sliced a 0 k cap 7) w:=by
 rw[run_sliceAt_slice _ _ _ _ _ _ ziy,run_slice_h _ _ _ _ _ ziy _ _ (by omega) (by omega),zmi,zoj]
 rfl
theorem qg7{w:World}{a:Option Addr}{cap:Nat}{ds:List Dd}(h:zpw w (.slice a ds.length cap) ds){k:Nat}(hk:k<=ds.length):zpw w (sliced a 0 k cap 7) (ds.take k):=by
 obtain⟨a',len,cap',he,h1,h2,h3⟩:=h
 simp only[Value.slice.injEq]at he
 obtain⟨rfl,rfl,rfl⟩:=he
 have e:(if cap=0 then a else a.map (·.add (0*7)))=a:=by
  split
  ·rfl
  cases a with
  |none=>rfl
  |some ad=>
   rcases h3 with h3|⟨b,off,h3,_⟩
   ·obtain⟨b,off,spot⟩:=ad
    cases spot<;>simp[Addr.add]
   cases h3
   simp[zdv]
 refine⟨a,k,cap,?_,by rw[List.length_take];omega,by omega,?_⟩
 ·unfold sliced
  rw[e]
  rfl
 rcases h3 with h3|⟨b,off,rfl,hr⟩
 ·exact .inl (by omega)
 exact .inr ⟨b,off,rfl,hr.lt,fun i hi=>by
  rw[List.getElem_take]
  exact hr.at_ i (by rw[List.length_take]at hi;omega)⟩
theorem qbw{ad:Option Addr}{cap k:Nat}(hk:k<=ds.length)(hc:ds.length<=cap):∃aa na ca,(∀w,(Instr.sliceAt 61 (.slice ad ds.length cap) none (some (.int .i64 k)) none).run Tryz.prog w= .ok (.slice aa na ca) w)/\∀wk,zpw wk (.slice ad ds.length cap) ds->zpw wk (.slice aa na ca) (ds.take k):=
 ⟨_,_,_,zq4 _ ds.length cap k (by omega),fun _ h=>qg7 h hk⟩
theorem znx(h:zpw w v ds):∃a cap,v= .slice a ds.length cap/\ds.length<=cap:=by
 obtain⟨a,len,cap,rfl,rfl,h2,_⟩:=h
 exact⟨a,cap,rfl,h2⟩
theorem zps.mono{base base':Nat}{l:List Int}(h:zps w base v l)(hb:base'<=base):zps w base' v l:=by
 obtain⟨h1,h2⟩:=h
 refine⟨h1,?_⟩
 rcases h2 with h2|⟨g,cap,cur,e,hg,r⟩
 ·exact .inl h2
 exact .inr ⟨g,cap,cur,e,Nat.le_trans hb hg,r⟩
structure ToI(w w2:World)(lv:Value)(L:List Ch)(v:Value)(zs:List Int)(wk:World):Prop where
 by_:ByI w w2 v zs wk
 lst:Lst w2 lv L
theorem ToI.after{w w2 wk w':World}{lv v:Value}{L:List Ch}{zs:List Int}(h:ToI w w2 lv L v zs wk)(hb:Below wk.heap.size wk w'):ToI w w2 lv L v zs w':=⟨h.by_.after hb,h.lst⟩
theorem told_own(h:zpw w v b.ds)(hg:zct b)(n:Int):
 Calls Tryz.prog 41 #[v,.int .i64 n] w fun e w'=>∃u,e= .returned (.tuple #[.string (strOfNums ((thS b n).map (·.c))),u,.bool (inS b n)])/\zps w' w.heap.size u ((thS b n).map (·.by_))/\Below w.heap.size w w':=by
 have HD:=hid h
 have HG:=hid hg
 have hsm:=hg.small
 obtain⟨a,cap,rfl,hcap⟩:=znx h
 obtain⟨i0,hi,hz0,hz1,hz2⟩:=info_parts zss
 by_cases hn:0<=n/\n<=b.ds.length
 ·obtain⟨m,rfl⟩:∃m:Nat,n=(m:Int):=⟨n.toNat,by omega⟩
  have hm:m<=b.ds.length:=by omega
  have HIN:=hid (inS_in hm)
  have HTX:=hid (qd9 hg hm)
  have HBY:=hid (told_by hg hm)
  have HAL:=hid (all_part hg hm)
  have HTM:Hid (zi2 (zaw b.ds m)):=zup (zcl hg m hm).1 (by omega)
  have hcl:(zaw b.ds m).length<=200:=(zcl hg m hm).2
  obtain⟨aa,na,ca,hva,hvl⟩:=qbw (ad:=a) hm hcap
  have HVL:=hid hvl
  have HTK:Hid ((b.ds.take m).length<=1000):=by show _<=_;rw[List.length_take];omega
  have hmi:(m:Int)<=(b.ds.length:Int):=by omega
  clear h hg hvl hn
  go_enter Tryz.func41,Tryz.ntmps41
  go_wp2_with fail
  refine(zqw (HVL.out _ HD.out) HTK.out HAL.out).mono ?_
  rintro e w1 ⟨v1,rfl,ho0,hb⟩
  have ho:Own w1 w.heap.size v1 (zaw b.ds m):=ho0
  have HO1:=hid ho.lst
  have HB1:=hid hb
  obtain⟨a1,c1,rfl,hcap1⟩:=ho.lst.len
  clear ho ho0 hb hva HVL HAL HTK
  obtain⟨L,hL⟩:∃L,zaw b.ds m=L:=⟨_,rfl⟩
  rw[hL]at HTX HBY HTM HO1 hcl hcap1⊢
  clear hL
  have H2:Hid (ToI w (w1.alloc (.cells #[.int .i64 0,.int .i64 0] 31)) (.slice a1 L.length c1) L (.slice none 0 0) [] (w1.alloc (.cells #[.int .i64 0,.int .i64 0] 31))):=⟨⟨Below.refl _ _,zlc _ _⟩,HO1.out.below (za2 _ _)⟩
  have HB2:Hid (Below w.heap.size w (w1.alloc (.cells #[.int .i64 0,.int .i64 0] 31))):=bla HB1.out (za2 _ _)
  clear HO1 HB1
  go_wp2_with fail
  generalize hw2:World.alloc _ _=w2 at*
  clear hw2
  go_loopw [9,10] (fun u i wr=>∃k:Nat,k<=L.length/\i= .int .i64 k/\Hid (ToI w w2 (.slice a1 L.length c1) L u ((zcx (L.take k) (m:Int)).map (·.by_)) wr)) (fun _ i _=>L.length-(intOf i).toNat)
  case atStart=>exact⟨0,Nat.zero_le _,rfl,H2.out⟩
  obtain⟨k,hk,rfl,HK⟩:=hrel
  clear H2
  by_cases hkl:k<L.length
  ·have hki:(k:Int)<(L.length:Int):=by omega
   have HN:Hid ((zcx (L.take (k+1)) (m:Int)).map (·.by_)=(zcx (L.take k) (m:Int)).map (·.by_)++if za7 (m:Int) (-1) L[k]=true then [L[k].by_]else []):=by
    show List.map _ _=_
    rw[zcf L k hkl,zqm,List.map_append]
    by_cases c:za7 (m:Int) (-1) L[k]=true<;>simp[c]
   have hzl:((zcx (L.take k) (m:Int)).map (·.by_)).length<=200:=by
    rw[List.length_map]
    have:=zrw (L.take k) (m:Int)
    rw[List.length_take]at this
    omega
   obtain⟨bb,off,rfl,hr⟩:∃b off,a1=some ⟨b,off,none⟩/\Row wr b off L:=by
    obtain⟨b1,o1,e1,_,r1⟩:=(HK.out.lst.below HK.out.by_.below).row (by omega)
    exact⟨b1,o1,e1,r1⟩
   have hbl:=hr.lt
   have hat:=hr.at_ k hkl
   obtain⟨t1,_,t2,t3⟩:=zjp HTM.out k hkl
   generalize L[k]=x at*
   have HT:Hid (0<=x.out/\0<=x.gone/\x.gone<=15):=⟨t1,t2,t3⟩
   have HAT:=hid hat
   generalize (zcx (L.take k) (m:Int)).map (·.by_)=zs at*
   have HZ:=hid hzl
   obtain⟨h0,h1,h2,h3,h4,h5,h6⟩:=hat
   clear hr hzl t1 t2 t3
   go_wp2_with fail
   refine(zgl x _ _ _ HT.out.1 (by have:=HT.out.2;omega) (by have:=HT.out.2;omega)).mono ?_
   rintro e w4 ⟨rfl,hb4⟩
   have H4:=hid (HK.out.after hb4)
   have hat4:At w4 bb (off+k*7) x:=by
    have hx:=HAT.out
    obtain⟨hc,hf⟩:=zdp hb4
    unfold At at hx⊢
    simp only[hc _ _ hbl]
    exact hx
   have hbl4:bb<w4.heap.size:=by have:=hb4.size;omega
   clear h0 h1 h2 h3 h4 h5 h6 hb4 HK HAT hbl
   cases hs:za7 (m:Int) (-1) x
   ·rw[hs]at HN
    clear hat4 hbl4
    go_wp2
    go_roundw
    case rel=>exact⟨k+1,by omega,by go_num,by show ToI _ _ _ _ _ _ _;rw[HN.out];simpa using H4.out⟩
    case measure=>simp[intOf];omega
   rw[hs]at HN
   obtain⟨h0,h1,h2,h3,h4,h5,h6⟩:=hat4
   have H5:Hid (ToI w w2 (.slice (some ⟨bb,off,none⟩) L.length c1) L u9 zs (w4.alloc (.cells #[.int .i64 x.by_] 3))):=H4.out.after (za2 _ _)
   go_wp2_with (at_builtin;refine wpList_append_own _ rfl (.tmp 38) (.tmp 44) 79 rfl w2.heap.size 3 i0 (.int .i64 0) 1 8 Tryz.underlying79 hi hz0 hz1 hz2 rfl (by decide) u9 zs.length (ziu zs) rfl H5.out.by_.own ⟨w4.heap.size,0,none⟩ 1 1 [.int .i64 x.by_] (by simp[go_sem]) rfl (zno _ _) ?c2 ?c3 ?c4 ?c5 ?_)
   case c2=>intro u hu;simp at hu;subst hu;rfl
   case c3=>have:=HZ.out;unfold maxLen;omega
   case c4=>have:=HZ.out;omega
   case c5=>exact H5.out.by_.below.size
   intro v' w6 hown' hgrow _
   have H6:Hid (ToI w w2 (.slice (some ⟨bb,off,none⟩) L.length c1) L v' ((zcx (L.take (k+1)) (m:Int)).map (·.by_)) w6):=by
    show ToI _ _ _ _ _ _ _
    rw[HN.out]
    exact⟨by simpa using H5.out.by_.grown hown' hgrow,H5.out.lst⟩
   clear hgrow hown' h0 h1 h2 h3 h4 h5 h6 H4 H5 hbl4
   go_wp2
   go_roundw
   case rel=>exact⟨k+1,by omega,by go_num,H6.out⟩
   case measure=>simp[intOf];omega
  obtain rfl:k=L.length:=by omega
  have HE:Hid (L.take L.length=L):=List.take_length
  rw[HE.out]at HK
  go_wp2_with fail
  refine(zqn (HK.out.lst.below HK.out.by_.below) (by omega) HTM.out).mono ?_
  rintro e w5 ⟨rfl,hb5⟩
  rw[HTX.out]
  have HK5:=hid (HK.out.after hb5)
  clear hb5 HK
  obtain⟨s,hs⟩:∃s,strOfNums ((thS b (m:Int)).map (·.c))=s:=⟨_,rfl⟩
  have HSS:=hid hs
  rw[hs]
  clear hs
  go_wp2_with fail
  go_ret3
  refine⟨u9,by rw[HSS.out,HIN.out];rfl,?_,bla HB2.out HK5.out.by_.below⟩
  rw[<-HBY.out]
  exact HK5.out.by_.own.mono HB2.out.size
 have HIN:Hid (inS b n=false):=by show inS b n=false;unfold inS;exact decide_eq_false hn
 have HTH:Hid (thS b n=[]):=by show thS b n=_;unfold thS;rw[if_neg hn]
 clear h
 by_cases h0:n<0
 ·go_enter Tryz.func41,Tryz.ntmps41
  go_wp2
  go_ret3
  refine⟨.slice none 0 0,by rw[HTH.out,HIN.out];rfl,?_,Below.refl _ _⟩
  rw[HTH.out]
  exact zlc w _
 have h1:(b.ds.length:Int)<n:=by
  have:¬n<=(b.ds.length:Int):=fun e=>hn ⟨by omega,e⟩
  omega
 go_enter Tryz.func41,Tryz.ntmps41
 go_wp2
 go_ret3
 refine⟨.slice none 0 0,by rw[HTH.out,HIN.out];rfl,?_,Below.refl _ _⟩
 rw[HTH.out]
 exact zlc w _
section
variable {base R E F:Nat} {qw:Nat->Nat} {w0 wk w':World} {S:Nat->Prop} {told:ByteArray} {u:Twn} {ex:Th base}
theorem zpw.rowK{w:World}{a:Option Addr}{cap:Nat}{ds:List Dd}(h:zpw w (.slice a ds.length cap) ds)(hp:0<ds.length):∃b off,a=some ⟨b,off,none⟩/\zyc w b off ds:=by
 obtain⟨a',len,cap',he,h1,h2,h3⟩:=h
 simp only[Value.slice.injEq]at he
 obtain⟨rfl,rfl,rfl⟩:=he
 rcases h3 with h3|h3
 ·omega
 exact h3
theorem qgs(s:ByteArray)(l:List UInt8):s++bl l=bl (s.data.toList++l):=by
 conv=>lhs;rw[<-zjk s]
 exact zf1 _ _
theorem sm_in{c:Int}(h:Sm c):inI c:=by
 unfold Sm at h
 unfold inI
 omega
theorem qeo(c:Int):(⟨#[110,111,32]⟩++zc3 c)++nlS=bl (noW c):=by
 have e1:bl [110,111,32]++bl (Lib.itoa c)=bl ([110,111,32]++Lib.itoa c):=zf1 _ _
 have e2:bl ([110,111,32]++Lib.itoa c)++bl [10]=bl (([110,111,32]++Lib.itoa c)++[10]):=zf1 _ _
 have e3:noW c=([110,111,32]++Lib.itoa c)++[10]:=by rw[noW,List.append_assoc]
 rw[e3,<-e2,<-e1]
 rfl
theorem zzf:∃sc:ByteArray,sc.size<=21/\(⟨#[110,111,32]⟩++sc)++nlS=bl (noW 5)/\∀w,zck w->Calls Tryz.prog 42 #[.int .i64 5] w fun e w'=>e= .returned (.string sc)/\Below w.heap.size w w':=
 ⟨zc3 5,zbx (sm_in zgj),qeo 5,fun w hw=>zj7 5 (sm_in zgj) w hw⟩
def RkU(base:Nat)(w0:World)(S:Nat->Prop)(R E F:Nat)(told:ByteArray)(B:Nat)(x:Tst)(wk:World):Prop:=∃qw u,zcg base w0 S R E F qw told u (Th.st base B x) wk
theorem zcg.stepAt{B:Nat}{x:Tst}(h:zcg base w0 S R E F qw told u (Th.st base B x) wk):zt7 wk B 0 x:=by
 obtain⟨T,h1⟩:=h.box
 exact h1.2
theorem zcg.boxed(h:zcg base w0 S R E F qw told u ex wk)(x:Tst):zcg base w0 S R E F qw told u (Th.st base wk.heap.size x) (wk.alloc (ziz x)):=
 h.lay (za2 _ _) _ ⟨⟨Nat.le_refl _,by simp⟩,zhj wk x⟩
theorem zxt(h:zcg base w0 S R E F qw told u ex wk)(x:Tst)(hs:told.size<=900000000):
 Calls Tryz.prog 32 #[.pointer (some ⟨R,0,none⟩),tsV x] wk fun e w'=>e= .returned (.tuple #[])/\∃qw',zcg base w0 S R E F qw' (told++bl (zc6 u x).1) (zc6 u x).2 (Th.no base) w':=by
 have HC:=hid (sm_in (zrx u x))
 have HI:=hid (h.boxed x)
 have HK:Hid ((zc6 u x).1=(if(tDo u x).1=0 then okW else noW (tDo u x).1)/\(zc6 u x).2=(tDo u x).2):=⟨rfl,rfl⟩
 generalize wk.heap.size=B at*
 clear h
 obtain⟨kind,w_,at_,many,text⟩:=x
 unfold ziz at HI
 try dsimp only at HI
 go_enter Tryz.func32,Tryz.ntmps32
 go_wp2_with fail
 refine zdi (fun wk=>RkU base w0 S R E F told B ⟨kind,w_,at_,many,text⟩ wk) (fun wk=>zcg base w0 S R E F qw told u (Th.st base B ⟨kind,w_,at_,many,text⟩) wk) (fun i=>i==5) (fun _=>false) (by kernel_rfl) (by kernel_rfl) (by kernel_rfl) (fun _ h=>⟨_,_,h⟩) (HI.out.after (Below.refl _ _).drew) ?_
 refine zak (some 5) w0 (.pointer (some ⟨R,0,none⟩)) (.tmp 0) (.pointer (some ⟨R,0,none⟩)) ?_ ?_
 ·intros;go_simp
 go_big_quiet_op
 refine zak (some 6) w0 (.pointer (some ⟨R,0,none⟩)) (.tmp 5) (.pointer (some ⟨R,0,none⟩)) ?_ ?_
 ·intros;go_simp
 go_big_quiet_op
 refine zak (some 7) w0 (.pointer (some ⟨R,1,none⟩)) (.tmp 6) (.pointer (some ⟨R,0,none⟩)) ?_ ?_
 ·intros;go_simp
 go_big_quiet_op
 refine zak (some 8) w0 (.pointer (some ⟨E,0,none⟩)) (.tmp 7) (.pointer (some ⟨R,1,none⟩)) (fun wk hwk ρ s7=> ?_) ?_
 ·obtain⟨qx,ux,hx⟩:=hwk
  have g1:=hx.cells.town
  have hlt:=hx.cells.lt
  go_simp
 go_big_quiet_op
 refine zak (some 9) w0 (tsV ⟨kind,w_,at_,many,text⟩) (.tmp 3) (.pointer (some ⟨B,0,none⟩)) (fun wk hwk ρ s3=> ?_) ?_
 ·obtain⟨qx,ux,hx⟩:=hwk
  obtain⟨_,c0,c1,c2,c3,c4⟩:=hx.stepAt
  simp only[Nat.zero_add]at c0 c1 c2 c3 c4
  go_simp
 go_big_quiet_op
 refine wls (some 10) w0 rfl rfl (by kernel_rfl) (fun uu=>uu= .int .i64 (tDo u ⟨kind,w_,at_,many,text⟩).1) (fun _ wk=>RkU base w0 S R E F told B ⟨kind,w_,at_,many,text⟩ wk) (fun _ wk=>∃qw2,zcg base w0 S R E F qw2 told (tDo u ⟨kind,w_,at_,many,text⟩).2 (Th.st base B ⟨kind,w_,at_,many,text⟩) wk) (⟨_,rfl⟩) (fun _ _ h=>h) (fun _ _ h=>by obtain⟨p2,h⟩:=h;exact⟨_,_,h⟩) (fun wk hwk=> ?_) (fun u9 hu9=> ?_)
 ·generalize hA:Act.eval _=ρ
  have s8:ρ (.tmp 8)= .pointer (some ⟨E,0,none⟩):=by rw[<-hA];kernel_rfl
  have s9:ρ (.tmp 9)=tsV ⟨kind,w_,at_,many,text⟩:=by rw[<-hA];kernel_rfl
  have sf:ρ (.func 56)= .func (.func 56) #[] #[]:=by rw[<-hA];kernel_rfl
  clear hA
  go_simp
  refine(hwk.does ⟨kind,w_,at_,many,text⟩).mono ?_
  rintro e w7 ⟨rfl,h7⟩
  exact⟨_,rfl,rfl,h7⟩
 subst hu9
 go_big_quiet_op
 refine zak (some 4) w0 (.int .i64 (tDo u ⟨kind,w_,at_,many,text⟩).1) (.tmp 10) (.int .i64 (tDo u ⟨kind,w_,at_,many,text⟩).1) ?_ ?_
 ·intros;go_simp
 go_big_quiet_op
 refine zhf (fun w9 hw9=> ?_)
 have H9:=hid hw9
 clear hw9 HI
 obtain⟨c,hc⟩:∃c,(tDo u ⟨kind,w_,at_,many,text⟩).1=c:=⟨_,rfl⟩
 have HCC:=hid hc
 rw[hc]
 clear hc
 by_cases h0:c=0
 ·subst h0
  go_wp2_with fail
  obtain⟨qw9,h9⟩:=H9.out
  refine(zgk h9 _ (by show _+2<=_;omega)).mono ?_
  rintro e w5 ⟨rfl,h5,-⟩
  have H5:Hid (zcg base w0 S R E F qw9 (told++bl (zc6 u ⟨kind,w_,at_,many,text⟩).1) (zc6 u ⟨kind,w_,at_,many,text⟩).2 (Th.no base) w5):=by
   show zcg _ _ _ _ _ _ _ _ _ _ _
   rw[HK.out.1,HK.out.2,if_pos HCC.out]
   exact h5.bare
  clear h5 h9 H9
  go_wp2_with fail
  go_end0
  exact⟨rfl,qw9,H5.out⟩
 have h0b:(c==0)=false:=by simpa using h0
 have HCI:Hid (inI c):=by have:=HC.out;rw[HCC.out]at this;exact this
 go_wp2_with fail
 obtain⟨qw9,h9⟩:=H9.out
 refine(zj7 c HCI.out _ h9.rdy.ready).mono ?_
 rintro e w5 ⟨rfl,hb⟩
 have H5:=hid (h9.after hb)
 have hsz:(zc3 c).size<=21:=zbx HCI.out
 clear hb h9 H9
 obtain⟨sc,hsc⟩:∃sc,zc3 c=sc:=⟨_,rfl⟩
 have HSC:=hid hsc
 rw[hsc]at hsz⊢
 clear hsc
 go_wp2_with fail
 refine(zgk H5.out _ (by rw[ByteArray.size_append];show _+(3+_)<=_;omega)).mono ?_
 rintro e w6 ⟨rfl,h6,-⟩
 have H6:Hid (zcg base w0 S R E F qw9 (told++bl (zc6 u ⟨kind,w_,at_,many,text⟩).1) (zc6 u ⟨kind,w_,at_,many,text⟩).2 (Th.no base) w6):=by
  show zcg _ _ _ _ _ _ _ _ _ _ _
  rw[HK.out.1,HK.out.2,if_neg (by rw[HCC.out];exact h0),HCC.out]
  rw[<-qeo c,HSC.out]
  exact h6.bare
 clear h6 H5
 go_wp2_with fail
 go_end0
 exact⟨rfl,qw9,H6.out⟩
theorem zzy(h:zcg base w0 S R E F qw told u ex wk){v:Value}{ds:List Dd}(hd:∀wk',zam (fun k=>k=R) wk wk'->zpw wk' v ds)(hl:ds.length<=1000)(hs:told.size<=900000000):
 Calls Tryz.prog 40 #[.pointer (some ⟨R,0,none⟩),v] wk fun e w'=>e= .returned (.tuple #[])/\zcg base w0 S R E F qw (told++bl (zb3 ds++zpe)) u ex w':=by
 have HD:=hid hd
 have HI:=hid h
 obtain⟨a,cap,rfl,_⟩:=znx (hd wk (zam.refl _ _))
 clear h hd
 go_enter Tryz.func40,Tryz.ntmps40
 go_wp2_with fail
 go_loopw [4] (fun i wr=>∃k:Nat,k<=ds.length/\i= .int .i64 k/\Hid (zcg base w0 S R E F qw (told++bl (zb3 (ds.take k))) u ex wr/\zam (fun k=>k=R) wk wr/\(zb3 (ds.take k)).length<=201*k)) (fun i _=>ds.length-(intOf i).toNat)
 case atStart=>exact⟨0,Nat.zero_le _,rfl,by rw[List.take_zero];show zcg _ _ _ _ _ _ _ (told++bl []) _ _ _;rw[qgs,List.append_nil,zjk];exact HI.out,zam.refl _ _,by rw[List.take_zero];exact Nat.zero_le _⟩
 obtain⟨k,hk,rfl,HW⟩:=hrel
 clear HI
 by_cases hlt:k<ds.length
 ·have hki:(k:Int)<(ds.length:Int):=by omega
  obtain⟨bb,off,rfl,hr⟩:=zpw.rowK (HD.out wr HW.out.2.1) (by omega)
  obtain⟨hbl,g0,g1,g2,g3,g4,g5,g6⟩:=hr.at_ k hlt
  have HN:Hid (zb3 (ds.take (k+1))=zb3 (ds.take k)++zhr ds[k]):=by show _=_;rw[List.take_succ_eq_append_getElem hlt,zko]
  generalize ds[k]=d at*
  have hlz:(zcy d).size<=200:=zmb d
  obtain⟨s,hsl⟩:∃s,zcy d=s:=⟨_,rfl⟩
  have HSL:=hid hsl
  have HLZ:Hid (s.size<=200):=by show _<=_;rw[<-hsl];exact hlz
  clear hsl hlz hr
  obtain⟨kind,by_,no,seen,at_,many,text⟩:=d
  simp only at g0 g1 g2 g3 g4 g5 g6
  go_wp2_with fail
  clear g0 g1 g2 g3 g4 g5 g6
  refine(qb9 ⟨kind,by_,no,seen,at_,many,text⟩ _ HW.out.1.rdy.ready).mono ?_
  rintro e w5 ⟨rfl,hb⟩
  rw[HSL.out]
  have H5:Hid (zcg base w0 S R E F qw (told++bl (zb3 (ds.take k))) u ex w5/\zam (fun k=>k=R) wk w5):=⟨HW.out.1.after hb,HW.out.2.1.after hb⟩
  have HZ:=hid HW.out.2.2
  clear hb HW
  generalize za9 _=cc at*
  go_wp2_with fail
  refine(zgk H5.out.1 _ (by rw[ByteArray.size_append,zd8 (zb3 (ds.take k))];have:=HZ.out;have:=HLZ.out;omega)).mono ?_
  rintro e w6 ⟨rfl,h6,hk6⟩
  have H6:Hid (zcg base w0 S R E F qw (told++bl (zb3 (ds.take (k+1)))) u ex w6/\zam (fun k=>k=R) wk w6/\(zb3 (ds.take (k+1))).length<=201*(k+1)):=by
   have e:told++bl (zb3 (ds.take k))++(s++nlS)=told++bl (zb3 (ds.take (k+1))):=by
    rw[HN.out,zhr,HSL.out,ByteArray.append_assoc,<-zf1,<-zf1,zjk]
   rw[e]at h6
   refine⟨h6,H5.out.2.trans' hk6,?_⟩
   rw[HN.out,List.length_append,zhr,HSL.out,List.length_append]
   have:=HZ.out
   have:=HLZ.out
   show _+(s.size+1)<=_
   omega
  clear h6 hk6 H5
  go_wp2_with fail
  go_roundw
  case rel=>exact⟨k+1,by omega,by go_num,H6.out⟩
  case measure=>simp[intOf];omega
 obtain rfl:k=ds.length:=by omega
 have HE:Hid (ds.take ds.length=ds):=List.take_length
 rw[HE.out]at HW
 go_wp2_with fail
 refine(zgk HW.out.1 _ (by rw[ByteArray.size_append,zd8 (zb3 ds)];have:=HW.out.2.2;show _+3<=_;omega)).mono ?_
 rintro e w6 ⟨rfl,h6,-⟩
 have H6:Hid (zcg base w0 S R E F qw (told++bl (zb3 ds++zpe)) u ex w6):=by
  have e:told++bl (zb3 ds)++(⟨#[101,110,100]⟩++nlS)=told++bl (zb3 ds++zpe):=by
   rw[ByteArray.append_assoc,<-zf1]
   rfl
  rw[e]at h6
  exact h6
 clear h6 HW
 go_wp2_with fail
 go_end0
 exact⟨rfl,H6.out⟩
theorem zoo(h:zcg base w0 S R E F qw told u ex wk){k:Nat}(hk:k<4){r:Wr}(he:u.ws k=some r):
 Calls Tryz.prog 36 #[.pointer (some ⟨R,0,none⟩),.int .i64 k] wk fun e w'=>e= .returned (.pointer (some ⟨qw k,0,none⟩))/\w'=wk:=by
 have g1:=h.tw.ws k hk
 have hE:=h.tw.lt
 have c1:=h.cells.town
 have hlt:=h.cells.lt
 have hhs:zbo u k=true:=by unfold zbo;rw[he];rfl
 simp only[hhs,zbq,if_true]at g1
 have hw:wrB (k:Int)=true:=by simp[wrB];omega
 have hk4:(k:Int)<4:=by omega
 clear h hhs he
 go_enter Tryz.func36,Tryz.ntmps36
 go_wp2_with (go_at_call 57;refine(za8 _ _).mono ?_;rintro e w' ⟨rfl,rfl⟩;rw[hw])
 go_ret
 exact⟨rfl,rfl⟩
theorem zop(h:zcg base w0 S R E F qw told u ex wk){n:Int}(he:u.ws n=none)(hs:told.size<=900000000):
 Calls Tryz.prog 36 #[.pointer (some ⟨R,0,none⟩),.int .i64 n] wk fun e w'=>e= .returned (.pointer none)/\zcg base w0 S R E F qw (told++bl (noW 5)) u ex w':=by
 have HI:=hid h
 have c1:=h.cells.town
 have hlt:=h.cells.lt
 obtain⟨sc,hsz,hE,hC⟩:=zzf
 have HE:=hid hE
 have HC5:=hid hC
 clear hE hC
 cases hw:wrB n
 ·clear h he
  go_enter Tryz.func36,Tryz.ntmps36
  go_wp2_with (go_at_call 57;refine(za8 _ _).mono ?_;rintro e w' ⟨rfl,rfl⟩;rw[hw])
  refine(HC5.out _ HI.out.rdy.ready).mono ?_
  rintro e w5 ⟨rfl,hb⟩
  have H5:=hid (HI.out.after hb)
  clear hb HI
  go_wp2_with fail
  refine(zgk H5.out _ (by rw[ByteArray.size_append];show _+(3+_)<=_;omega)).mono ?_
  rintro e w6 ⟨rfl,h6,-⟩
  rw[HE.out]at h6
  have H6:=hid h6
  clear h6 H5
  go_wp2_with fail
  go_ret
  exact⟨rfl,H6.out⟩
 obtain⟨k,rfl,hk⟩:=zc1 hw
 have g1:=h.tw.ws k hk
 have hE:=h.tw.lt
 have hhs:zbo u k=false:=by unfold zbo;rw[he];rfl
 simp only[hhs,zbq,Bool.false_eq_true,if_false]at g1
 have hk4:(k:Int)<4:=by omega
 clear h hhs he
 go_enter Tryz.func36,Tryz.ntmps36
 go_wp2_with (go_at_call 57;refine(za8 _ _).mono ?_;rintro e w' ⟨rfl,rfl⟩;rw[hw])
 refine(HC5.out _ HI.out.rdy.ready).mono ?_
 rintro e w5 ⟨rfl,hb⟩
 have H5:=hid (HI.out.after hb)
 clear hb HI g1
 go_wp2_with fail
 refine(zgk H5.out _ (by rw[ByteArray.size_append];show _+(3+_)<=_;omega)).mono ?_
 rintro e w6 ⟨rfl,h6,-⟩
 rw[HE.out]at h6
 have H6:=hid h6
 clear h6 H5
 go_wp2_with fail
 go_ret
 exact⟨rfl,H6.out⟩
end
variable {a:Act}
section
variable {P:Program} {ops:Array Oper} {md:Region.Mode} {fin:Nat->Bool}
def zuc(md:Region.Mode)(ops:Array Oper):Nat->Nat->Nat->Bool
 | 0,_,_=>false
 |f+1,i,j=>match ops[i]? with
  |some o=>o.after.any fun e=>Region.binds md e&&(decide (e.on=j)||zuc md ops f e.on j)
  |none=>false
def finBx(md:Region.Mode)(ops:Array Oper)(fin:Nat->Bool):Bool:=
 (List.range ops.size).all fun i=> !fin i||(List.range ops.size).all fun j=>decide (j=i)||zuc md ops ops.size i j
theorem zmw{listed:Array Bool}(hcl:zrm md ops listed){j:Nat}:∀(f i:Nat),listed.getD i false=true->zuc md ops f i j=true->listed.getD j false=true
 | 0,_,_,h=>by cases h
 |f+1,i,hi,h=>by
  unfold zuc at h
  cases ho:ops[i]? with
  |none=>rw[ho]at h;cases h
  |some o=>
   rw[ho]at h
   obtain⟨e,he,hb⟩:=Array.any_eq_true'.1 h
   simp only[Bool.and_eq_true,Bool.or_eq_true,decide_eq_true_eq]at hb
   have h3:=hcl i o ho hi e he hb.1
   rcases hb.2 with hb2|hb2
   ·rw[hb2]at h3;exact h3
   exact zmw hcl f e.on h3 hb2
theorem finBx_ok(h:finBx md ops fin=true):FinOk md ops fin:=by
 intro i listed hcl hf hi
 obtain⟨hun,oi,hoi,hall⟩:=mem_ready.1 hi
 have his:i<ops.size:=(Array.getElem?_eq_some_iff.1 hoi).1
 unfold finBx at h
 rw[List.all_eq_true]at h
 have h1:=h i (List.mem_range.2 his)
 simp only[hf,Bool.not_true,Bool.false_or,List.all_eq_true,List.mem_range,Bool.or_eq_true,decide_eq_true_eq]at h1
 rw[List.eq_nil_iff_forall_not_mem]
 intro j hj
 obtain⟨hjun,oj,hoj,_⟩:=mem_ready.1 hj
 have hjs:j<ops.size:=(Array.getElem?_eq_some_iff.1 hoj).1
 by_cases hji:j=i
 ·subst hji
  rcases Nat.lt_or_ge j listed.size with h'|h'
  ·simp[h']at hjun
  simp[Array.getElem?_eq_none h']at hun
 rcases h1 j hjs with h2|h2
 ·exact hji h2
 have h3:listed.getD j false=true:=by
  obtain⟨f,hf'⟩:∃f,ops.size=f+1:=⟨ops.size-1,by omega⟩
  rw[hf']at h2
  unfold zuc at h2
  rw[hoi]at h2
  obtain⟨e,he,hb⟩:=Array.any_eq_true'.1 h2
  simp only[Bool.and_eq_true,Bool.or_eq_true,decide_eq_true_eq]at hb
  have h3':=hall e he hb.1
  rcases hb.2 with hb2|hb2
  ·rw[hb2]at h3';exact h3'
  exact zmw hcl f e.on h3' hb2
 rw[getD_set_ne true (Ne.symm hji)]at hjun
 rcases Nat.lt_or_ge j listed.size with h'|h'
 ·simp[h']at h3 hjun;rw[h3]at hjun;cases hjun
 simp[Array.getElem?_eq_none h']at h3
theorem zfb{id:Nat}{Q:Exit->Act->World->Prop}{w:World}(U:World->Prop)(sp fin:Nat->Bool)(D:World->Prop)(hok:finBx .any ops fin=true)(hm:P.follows .mixedOrders=true)(hB:Region.lexB .any ops=true)(hc:zpm .any ops sp=true)
 (hU:∀w,D w->U w) (hD:D w.drew) (h:zg4 P ops U sp fin (fun a' w'=>Q .normal a' w') ops.toList 0 a D):(Code.region id ops true).wp P Q a w:=by
 simp only[Region.lexB,Bool.and_eq_true]at hB
 have hD':D {w with drawn:=w.drawn+1}:=hD
 refine wp_region_any hm (zfg (U:=U) (sp:=sp) (fin:=fin) (finBx_ok hok) (Q:=fun a' w'=>Q .normal a' w') (fun _ _ h=>h) _ _ _ D _ (fun j oj hoj hl=>by rcases Nat.lt_or_ge j ops.size with h'|h'<;>simp[h']at hl) hU hD' ?_)
 have:=zlu (md:= .any) (hU _ hD') hB.1 hc ops.toList 0 a D (by simp) (by simp) (by rw[zda];simpa using hB.2) h
 rw[zda]at this
 simpa using this
end
section
variable {P:Program} {ops:Array Oper} {U:World->Prop} {sp fin:Nat->Bool}
theorem zgv{Q:Act->World->Prop}{o:Oper}{rest:List Oper}{k:Nat}{D:World->Prop}(d:Option Tmp)(w0:World)(hs:sp k=true)(hf:fin k=true)(hg:o.guard=none)(hd:o.dst=d)(p:Value->Prop)(D':Value->World->Prop)(hp:∃v,p v)
 (hrun:∀w,D w->zb0 P (fun v w'=>p v/\D' v w') ((execOp a.eval o).run P w)) (h:∀v,p v->Oper.quiet P ⟨d,.move (.const v),0,"",#[],none⟩ a (fun _=>True) (fun a'=>zg4 P ops U sp fin Q rest (k+1) a' (D' v))):zg4 P ops U sp fin Q (o::rest) k a D:=
 zls hs hf hg p D' hp hrun fun v hv=>by
  rw[hd]
  exact zcm w0 (h v hv)
end
variable {BL BN:Nat} {lv nv:Value} {zs:List Int} {wk w' wA wr w2:World} {k:List UInt8} {r:List (List UInt8)} {t:Twn}
section
variable {base R E F:Nat} {qw:Nat->Nat} {w0 wk w':World} {S:Nat->Prop} {told:ByteArray} {u:Twn} {ex:Th base}
theorem zcg.logK(h:zcg base w0 S R E F qw told u ex wk):∃dv,wk.cell? ⟨F,0,none⟩=some dv/\F<wk.heap.size/\∀wk',zam (fun k=>k=R) wk wk'->zpw wk' dv u.b.ds:=by
 obtain⟨T,h1,h2⟩:=h.apart
 obtain⟨ow,h3,h4⟩:=h1.own
 have a1:=h3.at_ 1 (by omega)
 rw[zge]at a1
 obtain⟨dv,hb⟩:=a1
 refine⟨dv,hb.cells.deeds,hb.cells.lt,fun wk' hk=> ?_⟩
 have:=hb.kept hk (fun k e e'=>h2 (by rw[<-e'];exact h4 k (by have e2:ow k=1:=e;omega)))
 exact this.ownD.dlst
theorem zcg.openK(h:zcg base w0 S R E F qw told u ex wk){k:Nat}(hk:k<4){r:Wr}(he:u.ws k=some r):∃ov,wk.cell? ⟨qw k,4,none⟩=some ov/\qw k<wk.heap.size/\∀wk',zam (fun k=>k=R) wk wk'->zpw wk' ov r.opens:=by
 obtain⟨T,h1,h2⟩:=h.apart
 obtain⟨ow,h3,h4⟩:=h1.own
 have a1:=h3.at_ (2+k) (by omega)
 rw[zo5 hk]at a1
 unfold zz4 at a1
 rw[he]at a1
 obtain⟨bv,ov,hb⟩:=a1
 refine⟨ov,hb.cells.opens,hb.cells.lt,fun wk' hkk=> ?_⟩
 have:=hb.kept hkk (fun j e e'=>h2 (by rw[<-e'];exact h4 j (by have e2:ow j=2+k:=e;omega)))
 exact this.ownO.dlst
theorem zcg.bookNe(h:zcg base w0 S R E F qw told u ex wk):F≠R:=by
 obtain⟨T,h1,h2⟩:=h.apart
 obtain⟨ow,h3,h4⟩:=h1.own
 have a1:=h3.at_ 1 (by omega)
 rw[zge]at a1
 obtain⟨dv,hb⟩:=a1
 have e2:ow F=1:=hb.hB
 intro e
 exact h2 (by rw[<-e];exact h4 F (by omega))
theorem zcg.leastK(h:zcg base w0 S R E F qw told u ex wk):
 Calls Tryz.prog 44 #[.pointer (some ⟨F,0,none⟩)] wk fun e w'=>e= .returned (.int .i64 (zap u.b))/\w'=wk:=by
 obtain⟨T,h1,_⟩:=h.apart
 obtain⟨T2,dv,hb,_⟩:=h1.start.book
 exact zzo hb h.ti.good
theorem zcg.textK(h:zcg base w0 S R E F qw told u ex wk){k:Nat}(hk:k<4){r:Wr}(he:u.ws k=some r):
 Calls Tryz.prog 37 #[.pointer (some ⟨qw k,0,none⟩)] wk fun e w'=>e= .returned (.string (strOfNums (vw r.list r.seen r.me)))/\Below wk.heap.size wk w':=by
 obtain⟨T,h1,_⟩:=h.apart
 obtain⟨T2,bv,ov,hs,_⟩:=h1.start.wr hk he
 obtain⟨tk,hr⟩:=h.tr
 have hok:=zbg hr he
 exact text_sc hs (by have:=hok.few;omega) hok.top
theorem zcg.charsK(h:zcg base w0 S R E F qw told u ex wk):
 Calls Tryz.prog 39 #[.pointer (some ⟨F,0,none⟩)] wk fun e w'=>∃v',e= .returned v'/\Own w' wk.heap.size v' u.b.chars/\Below wk.heap.size wk w':=by
 obtain⟨T,h1,_⟩:=h.apart
 obtain⟨T2,dv,hb,_⟩:=h1.start.book
 exact zk3 hb h.ti.good
theorem zcg.here(h:zcg base w0 S R E F qw told u ex wk){n:Int}{r:Wr}(he:u.ws n=some r):∃k:Nat,n=k/\k<4:=zc1 (h.ti.is_here he).2
theorem zcg.wlen(h:zcg base w0 S R E F qw told u ex wk){n:Int}{r:Wr}(he:u.ws n=some r):(strOfNums (vw r.list r.seen r.me)).size<=200/\r.opens.length<=1000:=by
 obtain⟨tk,hr⟩:=h.tr
 have hok:=zbg hr he
 rw[zbn]
 have:=qco r.list r.seen r.me
 have:=hok.len
 have:=hok.few
 exact⟨by omega,by omega⟩
end
theorem zob(l:List Int):(⟨#[116,101,120,116,32]⟩++strOfNums l)++nlS=bl (zfj l):=by
 have e0:strOfNums l=bl (zkb l):=(zjk _).symm
 have e1:bl [116,101,120,116,32]++bl (zkb l)=bl ([116,101,120,116,32]++zkb l):=zf1 _ _
 have e2:bl ([116,101,120,116,32]++zkb l)++bl [10]=bl (([116,101,120,116,32]++zkb l)++[10]):=zf1 _ _
 have e3:zfj l=([116,101,120,116,32]++zkb l)++[10]:=by rw[zfj,List.append_assoc]
 rw[e3,<-e2,<-e1,<-e0]
structure LsU(base:Nat)(w0:World)(S:Nat->Prop)(R E F:Nat)(qw:Nat->Nat)(u:Twn)(dv:Value)(wk:World):Prop where
 rk:∃told,zcg base w0 S R E F qw told u (Th.no base) wk
 cell:wk.cell? ⟨F,0,none⟩=some dv
 lt:F<wk.heap.size
theorem qba(a b:Int):((⟨#[108,101,97,115,116,32]⟩++zc3 a++⟨#[32]⟩)++zc3 b)++nlS=bl (ze0 a b):=by
 have e1:bl [108,101,97,115,116,32]++bl (Lib.itoa a)=bl ([108,101,97,115,116,32]++Lib.itoa a):=zf1 _ _
 have e2:bl ([108,101,97,115,116,32]++Lib.itoa a)++bl [32]=bl (([108,101,97,115,116,32]++Lib.itoa a)++[32]):=zf1 _ _
 have e3:bl (([108,101,97,115,116,32]++Lib.itoa a)++[32])++bl (Lib.itoa b)=bl ((([108,101,97,115,116,32]++Lib.itoa a)++[32])++Lib.itoa b):=zf1 _ _
 have e4:bl ((([108,101,97,115,116,32]++Lib.itoa a)++[32])++Lib.itoa b)++bl [10]=bl (((([108,101,97,115,116,32]++Lib.itoa a)++[32])++Lib.itoa b)++[10]):=zf1 _ _
 have e5:ze0 a b=((([108,101,97,115,116,32]++Lib.itoa a)++[32])++Lib.itoa b)++[10]:=by rw[ze0];simp only[List.append_assoc]
 rw[e5,<-e4,<-e3,<-e2,<-e1]
 rfl
theorem qb7{l:List Int}(h:l.length=3):∃a b c,l=[a,b,c]:=by
 match l,h with
 |[a,b,c],_=>exact⟨a,b,c,rfl⟩
def isB(k:List UInt8)(zs:List Int)(wd:List UInt8)(many:Nat):Bool:=decide (k=wd/\zs.length=many)
structure LnB(BL BN:Nat)(lv nv:Value)(ws:List ByteArray)(zs:List Int)(wk:World):Prop where
 bl:wk.cell? ⟨BL,0,none⟩=some lv
 ll:BL<wk.heap.size
 bn:wk.cell? ⟨BN,0,none⟩=some nv
 ln:BN<wk.heap.size
 ls:zbs wk lv ws
 ns:znj wk nv zs
structure LnI(base:Nat)(w0:World)(S:Nat->Prop)(R E F:Nat)(qw:Nat->Nat)(told:ByteArray)(u:Twn)(BL BN:Nat)(lv nv:Value)(ws:List ByteArray)(zs:List Int)(wk:World):Prop where
 rk:zcg base w0 S R E F qw told u (Th.no base) wk
 ln:LnB BL BN lv nv ws zs wk
theorem LnB.after{ws:List ByteArray}(h:LnB BL BN lv nv ws zs wk)(hb:Below wk.heap.size wk w'):LnB BL BN lv nv ws zs w':=by
 have hs:=hb.size
 have h1:=h.ll
 have h2:=h.ln
 exact⟨zd7 h.bl hb,by omega,zd7 h.bn hb,by omega,h.ls.below hb,h.ns.below hb⟩
theorem LnI.after{base:Nat}{w0:World}{S:Nat->Prop}{R E F:Nat}{qw:Nat->Nat}{told:ByteArray}{u:Twn}{BL BN:Nat}{lv nv:Value}{ws:List ByteArray}{zs:List Int}{wk w':World}(h:LnI base w0 S R E F qw told u BL BN lv nv ws zs wk)(hb:Below wk.heap.size wk w'):LnI base w0 S R E F qw told u BL BN lv nv ws zs w':=⟨h.rk.after hb,h.ln.after hb⟩
theorem zmf(h:LnB BL BN lv nv ((k::r).map bl) zs wk)(wd:List UInt8)(many:Nat):
 Calls Tryz.prog 35 (#[.string (bl wd),.int .i64 many]++ #[.pointer (some ⟨BL,0,none⟩),.pointer (some ⟨BN,0,none⟩)]) wk fun e w'=>e= .returned (.bool (isB k zs wd many))/\w'=wk:=by
 obtain⟨b1,l1,b2,l2,hls,hns⟩:=h
 obtain⟨a,cap,rfl,hcap⟩:=hls.len
 obtain⟨a2,cap2,rfl⟩:=hns.len
 have hl0:0<((k::r).map bl).length:=by simp
 obtain⟨bb,off,rfl,hst⟩:=hls.row hl0
 have c0:=hst.cell 0 hl0
 have hbl:=hst.lt
 simp only[Nat.add_zero,List.map_cons,List.getElem_cons_zero]at c0
 have hl1:(0:Int)<(((k::r).map bl).length:Int):=by omega
 generalize ((k::r).map bl).length=L at*
 clear hls hns hst
 have HE:Hid ((k=wd)↔(bl k=bl wd)):=⟨fun e=>by rw[e],fun e=>zpo e⟩
 obtain⟨sk,hsk⟩:∃sk,bl k=sk:=⟨_,rfl⟩
 obtain⟨sw,hsw⟩:∃sw,bl wd=sw:=⟨_,rfl⟩
 rw[hsk,hsw]at HE
 rw[hsk]at c0
 rw[hsw]
 clear hsk hsw
 by_cases h1:sk=sw
 ·subst h1
  have HK:=hid (HE.out.2 rfl)
  by_cases h2:zs.length=many
  ·have h2b:((zs.length:Int)==(many:Int))=true:=by rw[h2];simp
   have HR:Hid (isB k zs wd many=true):=by show isB _ _ _ _=true;unfold isB;exact decide_eq_true ⟨HK.out,h2⟩
   clear h2
   go_enter Tryz.func35,Tryz.ntmps35
   go_wp2
   go_ret
   exact⟨zbf HR.out.symm,rfl⟩
  have h2b:((zs.length:Int)==(many:Int))=false:=by simp;omega
  have HR:Hid (isB k zs wd many=false):=by show isB _ _ _ _=false;unfold isB;exact decide_eq_false (fun e=>h2 e.2)
  go_enter Tryz.func35,Tryz.ntmps35
  go_wp2
  go_ret
  exact⟨zbf HR.out.symm,rfl⟩
 have h1b:(sk.toList==sw.toList)=false:=by rw[qgt];simpa using h1
 have HR:Hid (isB k zs wd many=false):=by show isB _ _ _ _=false;unfold isB;exact decide_eq_false (fun e=>h1 (HE.out.1 e.1))
 go_enter Tryz.func35,Tryz.ntmps35
 go_wp2
 go_ret
 exact⟨zbf HR.out.symm,rfl⟩
theorem qcl(h:zbw (r.map bl)=none):zg1 t (k::r)=(zg6,t):=by
 show(match zbw (r.map bl)with|none=>(zg6,t)|some n=>zcj t k n)=_
 rw[h]
theorem qab{n:List Int}(h:zbw (r.map bl)=some n):zg1 t (k::r)=zcj t k n:=by
 show(match zbw (r.map bl)with|none=>(zg6,t)|some n=>zcj t k n)=_
 rw[h]
theorem zi3:∀(l acc:List UInt8),(∀w∈zb6 acc l,w.length<=acc.length+l.length)/\(zb6 acc l).length<=l.length+1
 |[],acc=>by
  unfold zb6
  split
  ·exact⟨fun w h=>(by cases h),Nat.zero_le _⟩
  refine⟨fun w h=> ?_,Nat.le_refl _⟩
  rw[List.mem_singleton]at h
  rw[h]
  exact Nat.le_refl _
 |b::l,acc=>by
  have h0:=zi3 l []
  have h1:=zi3 l (acc++[b])
  unfold zb6
  split
  ·split
   ·exact⟨fun w h=>by have:=h0.1 w h;simp at this⊢;omega,by have:=h0.2;simp;omega⟩
   refine⟨fun w h=> ?_,by have:=h0.2;simp;omega⟩
   rcases List.mem_cons.1 h with e|e
   ·rw[e];simp
   have:=h0.1 w e;simp at this⊢;omega
  exact⟨fun w h=>by have:=h1.1 w h;simp at this⊢;omega,by have:=h1.2;simp at this⊢;omega⟩
theorem qcj(l:List UInt8):(∀w∈zax l,w.length<=l.length)/\(zax l).length<=l.length+1:=by
 have:=zi3 l []
 simpa [zax]using this
structure NbI(wA:World)(nv:Value)(zs:List Int)(wk:World):Prop where
 below:Below wA.heap.size wA wk
 lt:wA.heap.size<wk.heap.size
 cell:wk.cell? ⟨wA.heap.size,0,none⟩=some nv
 free:wk.frozen? ⟨wA.heap.size,0,none⟩=false
 own:zps wk (wA.heap.size+1) nv zs
theorem NbI.after(h:NbI wA nv zs wk)(hb:Below wk.heap.size wk w'):NbI wA nv zs w':=by
 obtain⟨hc,hf⟩:=zdp hb
 have h1:=h.lt
 exact⟨bla h.below hb,by have:=hb.size;omega,by rw[hc _ _ h1];exact h.cell,by rw[hf _ _ h1];exact h.free,h.own.below hb⟩
theorem qeq(wA:World):NbI wA (.slice none 0 0) [] (wA.alloc (.cells #[.slice none 0 0] 79)):=by
 refine⟨za2 _ _,by simp,?_,?_,zlc _ _⟩
 ·simp[go_sem]
 simp[go_sem]
theorem NbI.grown2(h:NbI wA nv zs wr)(hg:wr.grownBy w2 nv.ownBlock):w2.cell? ⟨wA.heap.size,0,none⟩=some nv/\w2.frozen? ⟨wA.heap.size,0,none⟩=false/\wA.heap.size<w2.heap.size:=by
 have hlt:=h.lt
 have hne:∀k,nv.ownBlock=some k->wA.heap.size+1<=k:=fun k e=>(World.ownsRow.lt h.own k e).1
 have hblk:w2.heap[wA.heap.size]? =wr.heap[wA.heap.size]? :=hg.block _ hlt (fun e=>by have:=hne _ e.symm;omega)
 exact⟨by rw[World.cell?_of_block (a:=⟨wA.heap.size,0,none⟩) hblk];exact h.cell,by rw[World.frozen?_of_block (a:=⟨wA.heap.size,0,none⟩) hblk];exact h.free,Nat.lt_of_lt_of_le hlt hg.size⟩
theorem NbI.put{v':Value}{z:Int}(h:NbI wA nv zs wr)(ho:w2.ownsRow (wA.heap.size+1) 3 1 v' (zs.length+1) (ziu zs++[.int .i64 z]))(hg:wr.grownBy w2 nv.ownBlock):NbI wA v' (zs++[z]) (w2.setCell ⟨wA.heap.size,0,none⟩ v'):=by
 have hlt:=h.lt
 have hbs:=h.below.size
 have hne:∀k,nv.ownBlock=some k->wA.heap.size+1<=k:=fun k e=>(World.ownsRow.lt h.own k e).1
 have hb2:Below wA.heap.size wA w2:=h.below.grown hg (by omega) (fun k e=>by have:=hne k e;omega)
 have hblk:w2.heap[wA.heap.size]? =wr.heap[wA.heap.size]? :=hg.block _ hlt (fun e=>by have:=hne _ e.symm;omega)
 have hc2:w2.cell? ⟨wA.heap.size,0,none⟩=some nv:=by rw[World.cell?_of_block (a:=⟨wA.heap.size,0,none⟩) hblk];exact h.cell
 have hf2:w2.frozen? ⟨wA.heap.size,0,none⟩=false:=by rw[World.frozen?_of_block (a:=⟨wA.heap.size,0,none⟩) hblk];exact h.free
 have hz2:wA.heap.size<w2.heap.size:=Nat.lt_of_lt_of_le hlt hg.size
 refine⟨hb2.setCell (p:=⟨wA.heap.size,0,none⟩) (Nat.le_refl _) _,by simpa [World.setCell]using hz2,?_,?_,?_⟩
 ·simp[go_sem,hc2]
 ·simpa [go_sem]using hf2
 unfold zps
 rw[zmm,List.length_append]
 exact ownsRow_setCell_below ho (a:=⟨wA.heap.size,0,none⟩) (Nat.lt_succ_self _) _
end Go.Proofs.YtcbnnfeelhlapadGreatDoor