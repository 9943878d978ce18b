/-
  FClone, FStage, FNew, DLeaf, FMay, FPut.
-/
import Derived.Lib.SliceRun
import Derived.Laws.AppendOwnNone
import Derived.Deep.Quiet
import Derived.BigRegion
import Derived.Test.YtcbnnfeelhlapadGreatDoorFMem
namespace Go.Proofs.YtcbnnfeelhlapadGreatDoor
open Go.RowKit
set_option maxHeartbeats 800000
set_option maxRecDepth 20000
variable {w:World}
abbrev zff:Value:= .agg #[.int .u8 0,.int .i64 0,.int .i64 0,.int .i64 0,.int .i64 0,.int .i64 0,.int .i64 0]
theorem Tryz.infoChar:(Tryz.prog.info? 127).map (fun i=>(i.zero,i.size,i.bytes))=some (some zff,7,56):=by kernel_rfl
theorem Lst.src{w:World}{v:Value}{l:List Ch}(h:Lst w v l):
 (∃cap,v= .slice none 0 cap/\l=[])\/∃ad cap,v= .slice (some ad) l.length cap/\l.length<=cap/\(∀j u,(zaq l)[j]? =some u->w.cell? (ad.add j)=some u):=by
 obtain⟨a,len,cap,rfl,rfl,h2,h3⟩:=h
 cases a with
 |none=>
  rcases h3 with h3|⟨b,off,h3,_⟩
  ·exact .inl ⟨cap,by rw[h3],List.length_eq_zero_iff.1 h3⟩
  cases h3
 |some ad=>
  refine .inr ⟨ad,cap,rfl,h2,?_⟩
  rcases h3 with h3|⟨b,off,h3,hr⟩
  ·obtain rfl:l=[]:=List.length_eq_zero_iff.1 h3
   intro j u hu
   simp[zaq]at hu
  cases h3
  exact ztv l off hr.at_
theorem zhw{v:Value}{l:List Ch}(h:Lst w v l)(hl:l.length<=100000):
 Calls Tryz.prog 160 #[v] w fun e w'=>∃v',e= .returned v'/\Own w' w.heap.size v' l/\Below w.heap.size w w':=by
 obtain⟨i0,hi,hz0,hz1,hz2⟩:=info_parts Tryz.infoChar
 have q22:∀(w:World) (a:Option Addr) (n c n' c':Nat),(binOp .eql 91 (.slice a n c) (.slice none n' c')).run Tryz.prog w= .ok (.bool a.isNone) w:=fun w a n c n' c'=>Lib.run_eql_slice_nil w _ _ a n c n' c' Tryz.underlying91
 rcases h.src with⟨cap,rfl,rfl⟩|⟨ad,cap,rfl,hc,hs⟩
 ·go_enter Tryz.func160,Tryz.ntmps160
  go_wp2
  go_ret
  exact⟨_,rfl,zd6 _ _,Below.refl _ _⟩
 have HS:=hid hs
 have HL:Hid _:=zdd l
 have HO:Hid _:=zk1 l
 clear hs h
 generalize hn:l.length=n at*
 go_enter Tryz.func160,Tryz.ntmps160
 go_wp2_with (at_builtin;refine wpList_append_own _ rfl (.tmp 5) (.tmp 6) 91 rfl w.heap.size 127 i0 zff 7 56 Tryz.underlying91 hi hz0 hz1 hz2 rfl (by decide) _ _ _ rfl (World.ownsRow_made w #[] 0 (Nat.le_refl _) (Nat.zero_le _) rfl) ad n cap (zaq l) rfl ?c0 ?c1 ?c2 ?c3 ?c4 ?c5 ?_)
 case c0=>rw[HL.out]
 case c1=>
  intro j u hj
  exact Lib.cell?_alloc_some _ (HS.out j u hj)
 case c2=>exact HO.out
 case c3=>unfold maxLen;omega
 case c4=>omega
 case c5=>simp
 intro v' w1 hown hgrow _
 have HW:Hid _:=hown
 have HB:Hid (Below w.heap.size w w1):=((Below.refl _ w).alloc (Nat.le_refl _) _).grown hgrow (by simp) (by intro k hk;simp[Value.ownBlock]at hk;omega)
 clear hown hgrow
 go_wp2
 go_ret
 refine⟨v',rfl,?_,HB.out⟩
 have:=HW.out
 unfold Own
 rw[hn]
 exact this
theorem grow_nil(n:Nat)(hn:n<=100000)(w:World):
 Calls Tryz.prog 239 #[.slice none 0 0,.int .i64 n] w fun e w'=>∃v,e= .returned v/\Own w' w.heap.size v []/\Below w.heap.size w w':=by
 by_cases h0:n=0
 ·subst h0
  go_enter Tryz.func239,Tryz.ntmps239
  go_wp2
  go_ret
  exact⟨_,rfl,zd6 _ _,Below.refl _ _⟩
 have hp:0<n:=by omega
 have e56:Tryz.t127.bytes=56:=rfl
 have hx:¬281474976710656<Builtin.nextslicecap n 0*Tryz.t127.bytes:=by rw[e56,nextslicecap_zero hp];omega
 have hx7:¬n*7=0:=by omega
 have hx8:(n:Int)*(Tryz.t127.bytes:Int)<=281474976710656:=by rw[e56];omega
 have hx9:(n:Int)<=9223372036854775807:=by omega
 go_enter Tryz.func239,Tryz.ntmps239
 go_wp2
 go_ret
 have g1:=grownCap_ge w n 0 127
 have g2:=grownCap_le_maxLen w n 0 127 (by unfold maxLen;omega)
 unfold grownCap at g1 g2
 refine⟨_,rfl,⟨rfl,.inr ⟨w.heap.size,_,_,rfl,Nat.le_refl _,heap_alloc_new w _,Nat.zero_le _,g2,?_,by simp[zaq]⟩⟩,((Below.refl _ _).alloc (Nat.le_refl _) _).drew⟩
 rw[Array.size_append,size_zeroCells,size_zeroCells]
 show n*7+_*7=_*7
 rw[<-Nat.add_mul]
 congr 1
 omega
structure zqg(w:World)(b:Nat)(va vb vc:Value)(a bl c:List Ch):Prop where
 lt:b<w.heap.size
 c0:w.cell? ⟨b,0,none⟩=some va
 c1:w.cell? ⟨b,1,none⟩=some vb
 c2:w.cell? ⟨b,2,none⟩=some vc
 la:Lst w va a
 lb:Lst w vb bl
 lc:Lst w vc c
theorem zqg.below{w w':World}{b:Nat}{va vb vc:Value}{a bl c:List Ch}(h:zqg w b va vb vc a bl c)(hb:Below w.heap.size w w'):zqg w' b va vb vc a bl c:=by
 obtain⟨hc,_⟩:=zdp hb
 exact⟨by have:=hb.size;have:=h.lt;omega,by rw[hc _ _ h.lt];exact h.c0,by rw[hc _ _ h.lt];exact h.c1,by rw[hc _ _ h.lt];exact h.c2,h.la.below hb,h.lb.below hb,h.lc.below hb⟩
theorem zj3(w:World)(base:Nat)(t ty e:TypeId)(i:TypeInfo)(size c:Nat)(ht:Tryz.prog.underlying t=some (.slice e))(hi:Tryz.prog.info? e=some i)
 (v:Value) (n:Nat) (xs:List Value) (hown:w.ownsRow base e size v n xs):
 (Builtin.append_ #[t,t] ty #[v,.slice none 0 c]).run Tryz.prog w= .ok v w:=by
 rcases hown.2 with⟨rfl,rfl⟩|⟨g,cap,cur,rfl,_,_,hnc,_⟩
 ·simp[Builtin.append_,run_underlying ht,sizeOf,typeInfo,hi,Builtin.lenOf,Builtin.firstCells]
 simp[Builtin.append_,run_underlying ht,sizeOf,typeInfo,hi,Builtin.lenOf,Builtin.firstCells,hnc,storeCells]
theorem zr9(w:World)(row:Option Nat):w.grownBy w row:=⟨rfl,rfl,rfl,Nat.le_refl _,fun _ _ _=>rfl⟩
theorem zbd{ops:Array Oper}{rest:List Oper}{o:Oper}{act:Act}{Q:Exit->Act->World->Prop}(w:World)(hgd:o.guard=none)(s x:Operand)
 (ho:o.op= .call {callee:= .builtin .append,args:= #[s,x],argTypes:= #[91,91]}) (base:Nat) {v u:Value} {a b:List Ch} (hs:act.eval s=v) (hx:act.eval x=u) (hv:Own w base v a) (hu:Lst w u b) (hl:a.length+b.length<=100000) (hbase:base<=w.heap.size)
 (h:∀v' w',Own w' base v' (a++b)->w.grownBy w' v.ownBlock->wpList Tryz.prog ops Q rest (act.put o.dst v') w'):wpList Tryz.prog ops Q (o::rest) act w:=by
 obtain⟨i0,hi,hz0,hz1,hz2⟩:=info_parts Tryz.infoChar
 rcases hu.src with⟨cap,rfl,rfl⟩|⟨ad,cap,rfl,hc,hsrc⟩
 ·refine wpList_plain hgd fun K hK=> ?_
  have hrun:=zj3 w base 91 o.type 127 i0 7 cap Tryz.underlying91 hi v a.length (zaq a) hv
  have hh:=h v w (by rw[List.append_nil];exact hv) (zr9 w _)
  unfold Oper.wp
  simp[execOp,ho,resolve,invoke,builtin,hs,hx,hrun,Result.andThen]
  exact hK _ _ hh
 refine wpList_append_own w hgd s x 91 ho base 127 i0 zff 7 56 Tryz.underlying91 hi hz0 hz1 hz2 rfl (by decide) v a.length (zaq a) hs hv ad b.length cap (zaq b) hx (zdd b) hsrc (zk1 b) (by unfold maxLen;omega) (by omega) hbase ?_
 intro v' w' ho hg _
 refine h v' w' ?_ hg
 unfold Own
 rw[List.length_append,zfa]
 exact ho
def sum3(a b c:List Ch):Nat->Nat
 | 0=>0
 | 1=>a.length
 | 2=>a.length+b.length
 |_=>a.length+b.length+c.length
def cat3(a b c:List Ch):Nat->List Ch
 | 0=>[]
 | 1=>a
 | 2=>a++b
 |_=>a++b++c
theorem zqg.nth{g:Nat}{va vb vc:Value}{a b c:List Ch}(h:zqg w g va vb vc a b c){k:Nat}(hk:k<3):
 ∃v l,w.cell? ⟨g,k,none⟩=some v/\Lst w v l/\sum3 a b c (k+1)=sum3 a b c k+l.length/\cat3 a b c (k+1)=cat3 a b c k++l:=by
 rcases(show k=0\/k=1\/k=2 by omega)with rfl|rfl|rfl
 ·exact⟨va,a,h.c0,h.la,by simp[sum3],by simp[cat3]⟩
 ·exact⟨vb,b,h.c1,h.lb,rfl,rfl⟩
 exact⟨vc,c,h.c2,h.lc,rfl,rfl⟩
theorem sum3_le(a b c:List Ch)(k:Nat):sum3 a b c k<=a.length+b.length+c.length:=by
 unfold sum3
 split<;>omega
theorem cat3_len(a b c:List Ch)(k:Nat):(cat3 a b c k).length=sum3 a b c k:=by
 unfold cat3 sum3
 split<;>simp[Nat.add_assoc]
theorem zjh(g:Nat)(va vb vc:Value)(a b c:List Ch)(w:World)(h:zqg w g va vb vc a b c)(hl:a.length+b.length+c.length<=100000):
 Calls Tryz.prog 233 #[.slice (some ⟨g,0,none⟩) 3 3] w fun e w'=>∃v,e= .returned v/\Own w' w.heap.size v (a++b++c)/\Below w.heap.size w w':=by
 have HT:Hid _:=h
 have hg:=h.lt
 have HS:Hid _:=sum3_le a b c
 have HC:Hid _:=cat3_len a b c
 clear h
 go_enter Tryz.func233,Tryz.ntmps233
 go_wp2
 go_loop [3,11] (fun n i=>∃k:Nat,k<=3/\i= .int .i64 k/\n= .int .i64 (sum3 a b c k)) (fun _ i=>3-(intOf i).toNat)
 case atStart=>exact⟨0,by omega,rfl,rfl⟩
 obtain⟨k,hk,rfl,rfl⟩:=hrel
 by_cases hlt:k<3
 ·obtain⟨v,l,hv,hL,hs,_⟩:=HT.out.nth hlt
  have h1:=HS.out k
  have h2:=HS.out (k+1)
  have HN:Hid _:=hs
  obtain⟨ad,cap,rfl,_⟩:=hL.len
  generalize sum3 a b c k=n at*
  generalize l.length=m at*
  clear hL
  rw[hs]at h2
  clear hs
  go_wp2
  go_round
  case rel=>exact⟨k+1,by omega,by go_num,by rw[HN.out];go_num⟩
  case measure=>simp[intOf];omega
 obtain rfl:k=3:=by omega
 have h3:=HS.out 3
 generalize hn:sum3 a b c 3=n at*
 go_wp2_with fail
 refine(grow_nil n (by omega) _).mono ?_
 rintro e w1 ⟨v0,rfl,hown,hb⟩
 have HO:Hid _:=hown
 have HB:Hid _:=hb
 clear hown hb
 go_wp2
 go_loopw [6,27] (fun v i wr=>∃k:Nat,k<=3/\i= .int .i64 k/\Hid (Own wr w.heap.size v (cat3 a b c k))/\Hid (Below w.heap.size w wr)) (fun _ i _=>3-(intOf i).toNat)
 case atStart=>exact⟨0,by omega,rfl,HO,HB⟩
 obtain⟨k,hk,rfl,HOk,HBk⟩:=hrel
 by_cases hlt:k<3
 ·obtain⟨u,l,hu,hL,hs,hcat⟩:=(HT.out.below HBk.out).nth hlt
  have h1:=HS.out (k+1)
  have hck:=HC.out k
  have HN:Hid _:=hcat
  have HL:Hid _:=hL
  obtain⟨ad,cap,rfl,_⟩:=hL.len
  clear hL hcat
  rw[hs]at h1
  go_wp2_with (at_builtin;refine zbd _ rfl (.tmp 31) (.tmp 32) rfl w.heap.size rfl rfl HOk.out HL.out ?c0 ?c1 ?_)
  case c0=>rw[hck];omega
  case c1=>exact HBk.out.size
  intro v' w2 hown' hgrow
  have HO2:Hid (Own w2 w.heap.size v' (cat3 a b c (k+1))):=by show Own _ _ _ _;rw[HN.out];exact hown'
  have HB2:=hid (HBk.out.grown hgrow HBk.out.size (fun j hj=>(World.ownsRow.lt HOk.out j hj).1))
  clear hown' hgrow
  go_wp2
  go_roundw
  case rel=>exact⟨k+1,by omega,by go_num,HO2,HB2⟩
  case measure=>simp[intOf];omega
 obtain rfl:k=3:=by omega
 go_wp2
 go_ret
 exact⟨_,rfl,HOk.out,HBk.out⟩
variable {s:Bool} {a:Act} {D:World->Prop} {j i n k:Nat} {listed:Array Bool} {Q:Act->World->Prop}
section
variable {P:Program} {ops:Array Oper} {md:Region.Mode} {U:World->Prop} {sp:Nat->Bool}
def zb0(P:Program)(D':Value->World->Prop):Result Next->Prop
 | .ok (.value u) w'=>D' u w'
 | .ok .skip w'=>D' undef w'
 | .ok (.enter f args) w'=>Calls P f args w' (fun e w''=>∃v,e= .returned v/\D' v w'')
 |_=>False
def ze6(P:Program)(U:World->Prop)(o:Oper)(a:Act)(v:Value):Prop:=∀w,U w->(execOp a.eval o).run P w= .ok (.value v) w
def zfu(P:Program)(U:World->Prop)(o:Oper)(a:Act)(D:World->Prop)(p:Value->Prop)(D':Value->World->Prop):Prop:=
 (∃v,p v)/\(∀v w,D' v w->U w)/\∀w,D w->zb0 P (fun v w'=>p v/\D' v w') ((execOp a.eval o).run P w)
def zbp(P:Program)(U:World->Prop)(s:Bool)(o:Oper)(a:Act)(D:World->Prop)(K:Act->(World->Prop)->Prop):Prop:=
 if s=true then∃p D',zfu P U o a D p D'/\∀v,p v->K (a.put o.dst v) (D' v)
 else∃v,ze6 P U o a v/\K (a.put o.dst v) D
def zcq(P:Program)(ops:Array Oper)(U:World->Prop)(sp:Nat->Bool)(Q:Act->World->Prop):List Oper->Nat->Act->(World->Prop)->Prop
 |[],_,a,D=>∀w,D w->Q a w
 |o::rest,k,a,D=>if Region.wanted o (yielded ops a.tmps)=true then zbp P U (sp k) o a D (zcq P ops U sp Q rest (k+1))else zcq P ops U sp Q rest (k+1) (a.put o.dst undef) D
def ze7(P:Program)(ops:Array Oper)(U:World->Prop)(sp:Nat->Bool)(i:Nat)(K:Act->(World->Prop)->Prop)(a:Act)(D:World->Prop):Prop:=
 match ops[i]? with
 |none=>K a D
 |some o=>if Region.wanted o (yielded ops a.tmps)=true then zbp P U (sp i) o a D K else K (a.put o.dst undef) D
theorem zq1{o:Oper}{K K':Act->(World->Prop)->Prop}(h:∀a D,K a D->K' a D)(hh:zbp P U s o a D K):zbp P U s o a D K':=by
 unfold zbp at*
 cases s
 ·obtain⟨v,h1,h2⟩:=hh
  exact⟨v,h1,h _ _ h2⟩
 obtain⟨p,D',h1,h2⟩:=hh
 exact⟨p,D',h1,fun v hv=>h _ _ (h2 v hv)⟩
theorem zts{i:Nat}{a:Act}{D:World->Prop}{K K':Act->(World->Prop)->Prop}(h:∀a D,K a D->K' a D)(hh:ze7 P ops U sp i K a D):ze7 P ops U sp i K' a D:=by
 unfold ze7 at*
 cases ho:ops[i]? with
 |none=>rw[ho]at hh;exact h _ _ hh
 |some o=>
  rw[ho]at hh
  show if _ then _ else _
  have hh':if Region.wanted o (yielded ops a.tmps)=true then zbp P U (sp i) o a D K else K (a.put o.dst undef) D:=hh
  by_cases hw:Region.wanted o (yielded ops a.tmps)=true
  ·rw[if_pos hw]at hh'⊢;exact zq1 h hh'
  rw[if_neg hw]at hh'⊢;exact h _ _ hh'
def zio(P:Program)(md:Region.Mode)(ops:Array Oper)(U:World->Prop)(sp:Nat->Bool)(Q:Act->World->Prop):Nat->Array Bool->Act->(World->Prop)->Prop
 | 0,listed,a,D=>Region.ready md ops listed=[]/\∀w,D w->Q a w
 |fuel+1,listed,a,D=>
  (Region.ready md ops listed=[]->∀w,D w->Q a w)/\
  ∀i∈Region.ready md ops listed,ze7 P ops U sp i (zio P md ops U sp Q fuel (listed.setIfInBounds i true)) a D
theorem qa7{s:Bool}{o:Oper}{a:Act}{D:World->Prop}{K:Act->(World->Prop)->Prop}{K':Act->World->Prop}{Q':Exit->Act->World->Prop}{w:World}(hDU:∀w,D w->U w)(hw:D w)
 (h:∀a (D':World->Prop) w',(∀w,D' w->U w)->D' w'->K a D'->K' a w') (hh:zbp P U s o a D K):o.wp P a w K' Q':=by
 unfold zbp at hh
 unfold Oper.wp
 cases s
 ·obtain⟨v,h1,h2⟩:=hh
  rw[h1 w (hDU w hw)]
  exact h _ D _ hDU hw h2
 obtain⟨p,D',⟨_,hU,h1⟩,h2⟩:=hh
 have h3:=h1 w hw
 generalize (execOp a.eval o).run P w=r at*
 cases r with
 |ok n w'=>
  cases n<;>simp only[zb0]at h3<;>simp only[Oper.upon]
  case value u=>exact h _ (D' u) _ (hU u) h3.2 (h2 u h3.1)
  case skip=>exact h _ (D' undef) _ (hU undef) h3.2 (h2 undef h3.1)
  case enter f args=>
   exact h3.mono fun e w'' ⟨v,he,hp,hd⟩=>by subst he;exact h _ (D' v) _ (hU v) hd (h2 v hp)
 |halt x w'=>simp only[zb0]at h3
theorem zfc{Q:Act->World->Prop}{Q':Exit->Act->World->Prop}(hQ:∀a w,Q a w->Q' .normal a w):∀(fuel:Nat) (listed:Array Bool) (a:Act) (D:World->Prop) (w:World),(∀w,D w->U w)->D w->
 zio P md ops U sp Q fuel listed a D->wpAny P md ops Q' fuel listed a w
 | 0,_,_,_,_,_,hw,h=>⟨h.1,hQ _ _ (h.2 _ hw)⟩
 |fuel+1,listed,a,D,w,hU,hw,h=>⟨fun h0=>hQ _ _ (h.1 h0 _ hw),fun i hi=>by
  have h1:=h.2 i hi
  unfold ze7 at h1
  unfold wpOp
  cases ho:ops[i]? with
  |none=>rw[ho]at h1;exact zfc hQ fuel _ _ D _ hU hw h1
  |some o=>
   rw[ho]at h1
   have h2:if Region.wanted o (yielded ops a.tmps)=true then zbp P U (sp i) o a D (zio P md ops U sp Q fuel (listed.setIfInBounds i true))else zio P md ops U sp Q fuel (listed.setIfInBounds i true) (a.put o.dst undef) D:=h1
   show if _ then _ else _
   by_cases hwt:Region.wanted o (yielded ops a.tmps)=true
   ·rw[if_pos hwt]at h2⊢
    exact .inl (qa7 hU hw (fun a' D' w' hU' hd hk=>zfc hQ fuel _ a' D' w' hU' hd hk) h2)
   rw[if_neg hwt]at h2⊢
   exact zfc hQ fuel _ _ D _ hU hw h2⟩
def zd2(P:Program)(ops:Array Oper)(U:World->Prop)(s:Bool)(o:Oper)(v:Value)(a:Act):Prop:=
 (s=false/\Region.wanted o (yielded ops a.tmps)=true/\ze6 P U o a v)\/(Region.wanted o (yielded ops a.tmps)=false/\v=undef)
theorem zd2.put{s:Bool}{o:Oper}{v:Value}{a:Act}{dst:Option Tmp}{u:Value}(hs:∀cs b,o.op≠ .select cs b)(h3:∀d,dst=some d->d∉o.looksAt ops)(h:zd2 P ops U s o v a):zd2 P ops U s o v (a.put dst u):=by
 unfold zd2 ze6 at*
 rw[execOp_put o hs a dst u h3,wanted_put o a dst u h3]
 exact h
theorem zwb{oi oj:Oper}{v:Value}(hj:ops[j]? =some oj)(hap:oi.apart ops oj=true)
 (hsi:∀cs b,oi.op≠ .select cs b) (hsj:∀cs b,oj.op≠ .select cs b) {K:Act->(World->Prop)->Prop} {a:Act} {D:World->Prop}
 (hy:zd2 P ops U s oi v a) (h:ze7 P ops U sp j K (a.put oi.dst v) D):
 ze7 P ops U sp j (fun a' D'=>zd2 P ops U s oi v a'/\K (a'.put oi.dst v) D') a D:=by
 obtain⟨h1,h2,h3⟩:=Oper.apart_spec hap
 unfold ze7 at*
 simp only[hj]at*
 rw[wanted_put oj a oi.dst v h1]at h
 by_cases hw:Region.wanted oj (yielded ops a.tmps)=true
 ·rw[if_pos hw]at h⊢
  unfold zbp ze6 zfu at*
  rw[execOp_put oj hsj a oi.dst v h1]at h
  cases hs:sp j
  ·rw[hs]at h
   obtain⟨u,hu,hn⟩:=h
   exact⟨u,hu,hy.put hsi h3,by rw[<-Act.put_comm a v u h2];exact hn⟩
  rw[hs]at h
  obtain⟨p,D',hu,hn⟩:=h
  exact⟨p,D',hu,fun u hp=>⟨hy.put hsi h3,by rw[<-Act.put_comm a v u h2];exact hn u hp⟩⟩
 rw[if_neg hw]at h⊢
 exact⟨hy.put hsi h3,by rw[<-Act.put_comm a v undef h2];exact h⟩
theorem zgo{oj:Oper}(hr:i∈Region.ready md ops listed)(hall:∀e∈oj.after,Region.binds md e=true->listed.getD e.on false=true):
 ∀e∈oj.after,Region.binds md e=true->e.on≠i:=fun e he hb heq=>by
 have h1:=hall e he hb
 have h0:=(mem_ready.1 hr).1
 rw[heq]at h1
 rcases Nat.lt_or_ge i listed.size with h'|h'
 ·simp[h']at h0 h1;rw[h0]at h1;cases h1
 simp[Array.getElem?_eq_none h']at h1
abbrev zh7(md:Region.Mode)(ops:Array Oper)(oi:Oper)(i:Nat)(listed:Array Bool):Prop:=
 ∀j oj,ops[j]? =some oj->j≠i->listed.getD j true=false->(∀e∈oj.after,Region.binds md e=true->e.on≠i)->oi.apart ops oj=true
theorem zh7.later{oi:Oper}(h:zh7 md ops oi i listed)(hjun:listed.getD j true=false):zh7 md ops oi i (listed.setIfInBounds j true):=by
 intro k ok hk hki hun hno
 refine h k ok hk hki ?_ hno
 by_cases hjk:j=k
 ·subst hjk;exact hjun
 rw[getD_set_ne true hjk]at hun;exact hun
theorem zpc{s:Bool}{Q:Act->World->Prop}{i:Nat}{oi:Oper}{v:Value}(hi:ops[i]? =some oi)(hsel:∀(j:Nat) (o:Oper) cs b,ops[j]? =some o->o.op≠ .select cs b)
 (hown:∀{K:Act->(World->Prop)->Prop} {a:Act} {D:World->Prop},zd2 P ops U s oi v a->K (a.put oi.dst v) D->ze7 P ops U sp i K a D):
 ∀(fuel:Nat) (listed:Array Bool) (a:Act) (D:World->Prop),zh7 md ops oi i listed->i∈Region.ready md ops listed->zd2 P ops U s oi v a->
  zio P md ops U sp Q fuel (listed.setIfInBounds i true) (a.put oi.dst v) D->zio P md ops U sp Q (fuel+1) listed a D:=by
 intro fuel
 induction fuel with
 |zero=>
  intro listed a D _ hr hy H
  refine⟨fun h=>(by rw[h]at hr;cases hr),fun j hj=> ?_⟩
  by_cases hji:j=i
  ·subst hji;exact hown hy H
  have:=ready_mono hj hji
  rw[H.1]at this
  cases this
 |succ fuel ih=>
  intro listed a D hfree hr hy H
  refine⟨fun h=>(by rw[h]at hr;cases hr),fun j hj=> ?_⟩
  by_cases hji:j=i
  ·subst hji;exact hown hy H
  have h1:=H.2 j (ready_mono hj hji)
  obtain⟨hjun,oj,hoj,hall⟩:=mem_ready.1 hj
  have h2:=zwb hoj (hfree j oj hoj hji hjun (zgo hr hall)) (fun cs b=>hsel i oi cs b hi) (fun cs b=>hsel j oj cs b hoj) hy h1
  refine zts (fun a' D' h3=>ih (listed.setIfInBounds j true) a' D' (hfree.later hjun) (ready_mono hr (Ne.symm hji)) h3.1 ?_) h2
  rw[Array.setIfInBounds_comm _ _ hji]
  exact h3.2
def zvw(md:Region.Mode)(ops:Array Oper)(sp:Nat->Bool)(i:Nat)(listed:Array Bool):Prop:=
 ∀j oj,sp j=true->j≠i->ops[j]? =some oj->listed.getD j true=false->∃e∈oj.after,Region.binds md e=true/\sp e.on=true/\listed.getD e.on false=false
theorem zvw.not_ready(h:zvw md ops sp i listed)(hj:j∈Region.ready md ops listed)(hji:j≠i):sp j=false:=by
 obtain⟨hun,oj,hoj,hall⟩:=mem_ready.1 hj
 cases hs:sp j
 ·rfl
 obtain⟨e,he,hb,_,hl⟩:=h j oj hs hji hoj hun
 rw[hall e he hb]at hl
 cases hl
theorem zvw.later(h:zvw md ops sp i listed)(hs:sp j=false):zvw md ops sp i (listed.setIfInBounds j true):=by
 intro k ok hk hki hok hun
 have hjk:j≠k:=fun e=>by rw[e,hk]at hs;cases hs
 rw[getD_set_ne true hjk]at hun
 obtain⟨e,he,hb,hse,hl⟩:=h k ok hk hki hok hun
 have hje:j≠e.on:=fun e'=>by rw[e',hse]at hs;cases hs
 exact⟨e,he,hb,hse,by rw[getD_set_ne false hje];exact hl⟩
theorem zxn{Q:Act->World->Prop}{i:Nat}{oi:Oper}{p:Value->Prop}{D':Value->World->Prop}{w0:World}(hw0:U w0)(hi:ops[i]? =some oi)(hsi:sp i=true)(hsel:∀(j:Nat) (o:Oper) cs b,ops[j]? =some o->o.op≠ .select cs b):
 ∀(fuel:Nat) (listed:Array Bool) (a:Act) (D:World->Prop),zh7 md ops oi i listed->zvw md ops sp i listed->i∈Region.ready md ops listed->Region.wanted oi (yielded ops a.tmps)=true->zfu P U oi a D p D'->
  (∀v,p v->zio P md ops U sp Q fuel (listed.setIfInBounds i true) (a.put oi.dst v) (D' v))->zio P md ops U sp Q (fuel+1) listed a D:=by
 intro fuel
 induction fuel with
 |zero=>
  intro listed a D _ _ hr hw hy H
  refine⟨fun h=>(by rw[h]at hr;cases hr),fun j hj=> ?_⟩
  by_cases hji:j=i
  ·subst hji
   unfold ze7
   simp only[hi,if_pos hw]
   unfold zbp
   rw[if_pos hsi]
   exact⟨p,D',hy,H⟩
  obtain⟨v0,hv0⟩:=hy.1
  have:=ready_mono hj hji
  rw[(H v0 hv0).1]at this
  cases this
 |succ fuel ih=>
  intro listed a D hfree hal hr hw hy H
  refine⟨fun h=>(by rw[h]at hr;cases hr),fun j hj=> ?_⟩
  by_cases hji:j=i
  ·subst hji
   unfold ze7
   simp only[hi,if_pos hw]
   unfold zbp
   rw[if_pos hsi]
   exact⟨p,D',hy,H⟩
  obtain⟨hjun,oj,hoj,hall⟩:=mem_ready.1 hj
  have hsj:=hal.not_ready hj hji
  have hap:=hfree j oj hoj hji hjun (zgo hr hall)
  obtain⟨h1,h2,h3⟩:=Oper.apart_spec hap
  have seli:=fun cs b=>hsel i oi cs b hi
  have selj:=fun cs b=>hsel j oj cs b hoj
  have hw':∀u,Region.wanted oi (yielded ops (a.put oj.dst u).tmps)=true:=fun u=>by rw[wanted_put oi a oj.dst u h3];exact hw
  have hy':∀u,zfu P U oi (a.put oj.dst u) D p D':=fun u=>by unfold zfu at *; rw[execOp_put oi seli a oj.dst u h3];exact hy
  have hop:∀v,p v->ze7 P ops U sp j (zio P md ops U sp Q fuel ((listed.setIfInBounds i true).setIfInBounds j true)) (a.put oi.dst v) (D' v):=fun v hv=>(H v hv).2 j (ready_mono hj hji)
  unfold ze7 at hop⊢
  simp only[hoj]at hop⊢
  by_cases hwj:Region.wanted oj (yielded ops a.tmps)=true
  ·rw[if_pos hwj]
   unfold zbp
   rw[if_neg (by simp[hsj])]
   have hst:∀v,p v->∃u,ze6 P U oj a u/\zio P md ops U sp Q fuel ((listed.setIfInBounds i true).setIfInBounds j true) ((a.put oi.dst v).put oj.dst u) (D' v):=fun v hv=>by
    have h4:=hop v hv
    rw[wanted_put oj a oi.dst v h1,if_pos hwj]at h4
    unfold zbp at h4
    rw[if_neg (by simp[hsj])]at h4
    obtain⟨u,hu,hk⟩:=h4
    refine⟨u,?_,hk⟩
    unfold ze6 at hu⊢
    rw[execOp_put oj selj a oi.dst v h1]at hu
    exact hu
   obtain⟨v0,hv0⟩:=hy.1
   obtain⟨u,hu,_⟩:=hst v0 hv0
   refine⟨u,hu,ih (listed.setIfInBounds j true) _ D (hfree.later hjun) (hal.later hsj) (ready_mono hr (Ne.symm hji)) (hw' u) (hy' u) (fun v hv=> ?_)⟩
   obtain⟨u',hu',hk⟩:=hst v hv
   have e:u'=u:=by
    have e1:=hu' w0 hw0
    rw[hu w0 hw0]at e1
    simp at e1
    exact e1.symm
   subst e
   rw[<-Act.put_comm a v u' h2,Array.setIfInBounds_comm _ _ hji]
   exact hk
  rw[if_neg hwj]
  refine ih (listed.setIfInBounds j true) _ D (hfree.later hjun) (hal.later hsj) (ready_mono hr (Ne.symm hji)) (hw' undef) (hy' undef) (fun v hv=> ?_)
  have h4:=hop v hv
  rw[wanted_put oj a oi.dst v h1,if_neg hwj]at h4
  rw[<-Act.put_comm a v undef h2,Array.setIfInBounds_comm _ _ hji]
  exact h4
def zpm(md:Region.Mode)(ops:Array Oper)(sp:Nat->Bool):Bool:=
 (List.range ops.size).all fun j=> !sp j||(List.range j).all (fun i=> !sp i)||
  match ops[j]? with
  |some oj=>oj.after.any fun e=>Region.binds md e&&sp e.on&&decide (e.on<j)&&(List.range ops.size).all fun i=> !sp i||decide (i<=e.on)||decide (j<=i)
  |none=>true
theorem zrg(h:zpm md ops sp=true){i:Nat}{listed:Array Bool}(hi:sp i=true)(hlow:∀j,j<i->listed.getD j false=true)(hhigh':∀j,i<=j->j<ops.size->listed.getD j false=false):zvw md ops sp i listed:=by
 intro j oj hs hji hoj hun
 have hjs:j<ops.size:=(Array.getElem?_eq_some_iff.1 hoj).1
 unfold zpm at h
 rw[List.all_eq_true]at h
 have h1:=h j (List.mem_range.2 hjs)
 simp only[hs,hoj,Bool.not_true,Bool.false_or,Bool.or_eq_true,List.all_eq_true,List.mem_range,Bool.not_eq_true']at h1
 by_cases hlt:j<i
 ·have h2:=hlow j hlt
  rcases Nat.lt_or_ge j listed.size with h'|h'
  ·simp[h']at h2 hun;rw[h2]at hun;cases hun
  simp[Array.getElem?_eq_none h']at h2
 have hij:i<j:=by omega
 rcases h1 with h1|h1
 ·have:=h1 i hij
  rw[hi]at this;cases this
 obtain⟨e,he,hb⟩:=Array.any_eq_true'.1 h1
 simp only[Bool.and_eq_true,decide_eq_true_eq,List.all_eq_true,List.mem_range,Bool.or_eq_true,Bool.not_eq_true']at hb
 obtain⟨⟨⟨hb1,hb2⟩,hb3⟩,hb4⟩:=hb
 have hie:i<=e.on:=by
  rcases hb4 i (by omega)with(h5|h5)|h5
  ·rw[hi]at h5;cases h5
  ·exact h5
  omega
 exact⟨e,he,hb1,hb2,hhigh' e.on hie (by omega)⟩
def upto(n k:Nat):Array Bool:=(List.range n).map (fun j=>decide (j<k)) |>.toArray
theorem zlw(h:j<n)(d:Bool):(upto n k).getD j d=decide (j<k):=by
 simp[upto,h]
theorem zfh:(upto n k).setIfInBounds k true=upto n (k+1):=by
 apply Array.ext
 ·simp[upto]
 intro j h1 h2
 have h3:j<n:=by simpa [upto]using h2
 rw[Array.getElem_setIfInBounds (by simpa [upto]using h3)]
 by_cases hj:k=j
 ·simp[hj,upto]
 rw[if_neg hj]
 simp[upto]
 omega
theorem zda:upto n 0=Array.replicate n false:=by
 apply Array.ext
 ·simp[upto]
 intro j h1 h2
 simp[upto]
theorem zqj{Q:Act->World->Prop}{w0:World}(hw0:U w0)(hs:Region.noSelect ops=true)(hc:zpm md ops sp=true):∀(l:List Oper) (k:Nat) (a:Act) (D:World->Prop),(∀j,l[j]? =ops[k+j]?)->k+l.length=ops.size->
 Region.lexFrom md ops l.length k (upto ops.size k)=true->zcq P ops U sp Q l k a D->zio P md ops U sp Q l.length (upto ops.size k) a D
 |[],_,_,_,_,_,hB,h=>⟨by simpa [Region.lexFrom]using hB,h⟩
 |o::l,k,a,D,hl,hsz,hB,h=>by
  have h0:ops[k]? =some o:=by simpa using(hl 0).symm
  simp only[List.length_cons,Region.lexFrom,Bool.and_eq_true]at hB
  obtain⟨⟨hr,hf⟩,hB'⟩:=hB
  rw[zfh]at hB'
  have hr':k∈Region.ready md ops (upto ops.size k):=by simpa using hr
  have hfree:zh7 md ops o k (upto ops.size k):=Region.free_spec h0 hf
  have next:∀a' D',zcq P ops U sp Q l (k+1) a' D'->zio P md ops U sp Q l.length ((upto ops.size k).setIfInBounds k true) a' D':=fun a' D' hh=>by
   rw[zfh]
   exact zqj hw0 hs hc l (k+1) a' D' (fun j=>by have:=hl (j+1);simpa [Nat.add_assoc,Nat.add_comm 1 j]using this) (by simp at hsz;omega) hB' hh
  have h':if Region.wanted o (yielded ops a.tmps)=true then zbp P U (sp k) o a D (zcq P ops U sp Q l (k+1))else zcq P ops U sp Q l (k+1) (a.put o.dst undef) D:=h
  by_cases hw:Region.wanted o (yielded ops a.tmps)=true
  ·rw[if_pos hw]at h'
   unfold zbp at h'
   cases hsp:sp k
   ·rw[hsp]at h'
    obtain⟨v,hv,hk⟩:=h'
    refine zpc (s:=false) h0 (Region.noSelect_spec hs) ?_ l.length _ a D hfree hr' (.inl ⟨rfl,hw,hv⟩) (next _ _ hk)
    intro K a D hy hK
    unfold ze7
    simp only[h0]
    rcases hy with⟨_,hw2,hv2⟩|⟨hw2,rfl⟩
    ·rw[if_pos hw2]
     unfold zbp
     rw[hsp]
     exact⟨v,hv2,hK⟩
    rw[if_neg (by simp[hw2])]
    exact hK
   rw[hsp]at h'
   obtain⟨p,D',hy,hk⟩:=h'
   have hks:k<ops.size:=by simp at hsz;omega
   refine zxn hw0 h0 hsp (Region.noSelect_spec hs) l.length _ a D hfree (zrg hc hsp (fun j hj=> ?_) (fun j hj hjs=> ?_)) hr' hw hy (fun v hv=>next _ _ (hk v hv))
   ·rw[zlw (by omega)];exact decide_eq_true hj
   rw[zlw hjs];exact decide_eq_false (by omega)
  rw[if_neg hw]at h'
  have hw':Region.wanted o (yielded ops a.tmps)=false:=by simpa using hw
  refine zpc (s:=true) h0 (Region.noSelect_spec hs) ?_ l.length _ a D hfree hr' (.inr ⟨hw',rfl⟩) (next _ _ h')
  intro K a D hy hK
  unfold ze7
  simp only[h0]
  rcases hy with⟨hf,_⟩|⟨hw2,_⟩
  ·cases hf
  rw[if_neg (by simp[hw2])]
  exact hK
theorem wrs{id:Nat}{Q:Exit->Act->World->Prop}{w:World}(U:World->Prop)(sp:Nat->Bool)(D:World->Prop)(hm:P.follows .mixedOrders=true)(hB:Region.lexB .any ops=true)(hc:zpm .any ops sp=true)
 (hU:∀w,D w->U w) (hD:D w.drew) (h:zcq P ops U sp (fun a' w'=>Q .normal a' w') ops.toList 0 a D):(Code.region id ops true).wp P Q a w:=by
 simp only[Region.lexB,Bool.and_eq_true]at hB
 have hD':D {w with drawn:=w.drawn+1}:=hD
 refine wp_region_any hm (zfc (U:=U) (sp:=sp) (Q:=fun a' w'=>Q .normal a' w') (fun _ _ h=>h) _ _ _ D _ hU hD' ?_)
 have:=zqj (md:= .any) (hU _ hD') hB.1 hc ops.toList 0 a D (by simp) (by simp) (by rw[zda];simpa using hB.2) h
 rw[zda]at this
 simpa using this
theorem wsn(h:∀w,D w->Q a w):zcq P ops U sp Q [] k a D:=h
theorem wss{o:Oper}{rest:List Oper}(hs:sp k=false)
 (h:∀K:Act->Prop,(∀a,zcq P ops U sp Q rest (k+1) a D->K a)->if Region.wanted o (yielded ops a.tmps)=true then∃v,(∀w,U w->(execOp a.eval o).run P w= .ok (.value v) w)/\K (a.put o.dst v)else K (a.put o.dst undef)):zcq P ops U sp Q (o::rest) k a D:=by
 have h1:=h (fun a=>zcq P ops U sp Q rest (k+1) a D) (fun _ h=>h)
 show if _ then _ else _
 by_cases hw:Region.wanted o (yielded ops a.tmps)=true
 ·rw[if_pos hw]at h1⊢
  unfold zbp
  rw[hs]
  exact h1
 rw[if_neg hw]at h1⊢
 exact h1
theorem wsp{o:Oper}{rest:List Oper}(hs:sp k=true)(hg:o.guard=none)(p:Value->Prop)(D':Value->World->Prop)(hp:∃v,p v)(hU:∀v w,D' v w->U w)
 (hrun:∀w,D w->zb0 P (fun v w'=>p v/\D' v w') ((execOp a.eval o).run P w)) (h:∀v,p v->zcq P ops U sp Q rest (k+1) (a.put o.dst v) (D' v)):zcq P ops U sp Q (o::rest) k a D:=by
 show if _ then _ else _
 have hw:Region.wanted o (yielded ops a.tmps)=true:=by unfold Region.wanted;rw[hg]
 rw[if_pos hw]
 unfold zbp
 rw[hs]
 exact⟨p,D',⟨hp,hU,hrun⟩,h⟩
end
variable {w wr:World} {d:Dd} {n:Int} {k:Nat}
theorem zs2(n:Nat)(hn:n<=100000)(w:World):(Instr.makeSlice 91 (.int .i64 n) (.int .i64 n)).run Tryz.prog w= .ok (.slice (some ⟨w.heap.size,0,none⟩) n n) (w.alloc (.cells (madeCells zff.cells (n*7)) 127)):=by
 obtain⟨i0,hi,hz0,hz1,hz2⟩:=info_parts Tryz.infoChar
 have:=run_make (P:=Tryz.prog) w 91 127 i0 zff Tryz.underlying91 hi hz0 .i64 .i64 n n (by omega) (Int.le_refl _) (by rw[hz2];omega) (by omega)
 simp only[Int.toNat_natCast,hz1]at this
 exact this
theorem zu2(p r:List Value)(x:Ch)(m:Nat)(hm:p.length=m)(hr:7<=r.length):
 (((((((p++r).set m (.int .u8 x.c)).set (m+1) (.int .i64 x.by_)).set (m+2) (.int .i64 x.no)).set (m+3) (.int .i64 x.k)).set (m+4) (.int .i64 x.inn)).set (m+5) (.int .i64 x.out)).set (m+6) (.int .i64 x.gone)=p++zcd x++r.drop 7:=by
 subst hm
 match r,hr with
 |r0::r1::r2::r3::r4::r5::r6::r,_=>
  simp[zcd]
theorem zun(d:Dd)(n:Int)(k:Nat)(h:k<d.text.size):zbb d n 0 (d.text.data.toList.take (k+1))=zbb d n 0 (d.text.data.toList.take k)++[zm9 d n k d.text[k]]:=by
 have hk:k<d.text.data.toList.length:=h
 rw[List.take_add_one,List.getElem?_eq_getElem hk,Option.toList_some,qft d.text k h,zj8,Nat.zero_add,List.length_take]
 congr 3
 omega
structure NInv(w:World)(d:Dd)(n:Int)(k:Nat)(wr:World):Prop where
 below:Below (w.heap.size+1) (w.alloc (zd9 d)) wr
 own:∃r,wr.ownsRow w.heap.size 127 7 (.slice (some ⟨w.heap.size+1,0,none⟩) d.text.size d.text.size) d.text.size (zaq (zbb d n 0 (d.text.data.toList.take k))++r)
theorem qb3(w:World)(d:Dd)(n:Int)(hs:d.text.size<=100000):NInv w d n 0 ((w.alloc (zd9 d)).alloc (.cells (madeCells zff.cells (d.text.size*7)) 127)):=by
 refine⟨(Below.refl _ _).alloc (by simp) _,(madeCells zff.cells (d.text.size*7)).toList,?_⟩
 rw[List.take_zero]
 have:=World.ownsRow_lit (base:=w.heap.size) (e:=127) (size:=7) (w.alloc (zd9 d)) (madeCells zff.cells (d.text.size*7)) d.text.size (by simp) (by unfold maxLen;omega) (size_madeCells _ _)
 simpa [zbb,zaq]using this
theorem NInv.at_(h:NInv w d n k wr):zdq wr w.heap.size 0 d:=(zb4 w d).below (by simpa using h.below)
theorem NInv.step(h:NInv w d n k wr)(hk:k<d.text.size)(x:Ch)(hx:x=zm9 d n k d.text[k]):
 NInv w d n (k+1) (((((((wr.setCell ⟨w.heap.size+1,k*7,none⟩ (.int .u8 x.c)).setCell ⟨w.heap.size+1,k*7+1,none⟩ (.int .i64 x.by_)).setCell ⟨w.heap.size+1,k*7+2,none⟩ (.int .i64 x.no)).setCell ⟨w.heap.size+1,k*7+3,none⟩ (.int .i64 x.k)).setCell ⟨w.heap.size+1,k*7+4,none⟩ (.int .i64 x.inn)).setCell ⟨w.heap.size+1,k*7+5,none⟩ (.int .i64 x.out)).setCell ⟨w.heap.size+1,k*7+6,none⟩ (.int .i64 x.gone)):=by
 obtain⟨hb,r,ho⟩:=h
 refine⟨?_,r.drop 7,?_⟩
 ·exact((((((hb.setCell (by simp) _).setCell (by simp) _).setCell (by simp) _).setCell (by simp) _).setCell (by simp) _).setCell (by simp) _).setCell (by simp) _
 have hl:=ho.1
 rw[List.length_append,zdd,zgp,List.length_take,zav]at hl
 have e:=zu2 (zaq (zbb d n 0 (d.text.data.toList.take k))) r x (k*7) (by rw[zdd,zgp,List.length_take,zav];omega) (by omega)
 rw[zun d n k hk,zfa]
 have e2:zaq [zm9 d n k d.text[k]]=zcd x:=by rw[hx];simp[zaq]
 rw[e2,<-e]
 exact((((((ho.stored _ _).1.stored _ _).1.stored _ _).1.stored _ _).1.stored _ _).1.stored _ _).1.stored _ _ |>.1
theorem zer{base g n cap:Nat}{xs:List Value}(h:w.ownsRow base 127 7 (.slice (some ⟨g,0,none⟩) n cap) n xs){j:Nat}(hj:j<n*7):(∃u,w.cell? ⟨g,j,none⟩=some u)/\w.frozen? ⟨g,j,none⟩=false:=by
 refine⟨?_,h.frozenAt j⟩
 rw[h.cellAt j hj]
 exact⟨_,List.getElem?_eq_getElem (by rw[h.1];exact hj)⟩
theorem NInv.drew{w wr:World}{d:Dd}{n:Int}{k:Nat}(h:NInv w d n k wr):NInv w d n k wr.drew:=⟨h.below.drew,h.own⟩
theorem zwx(d:Dd)(n:Int)(w:World)(hs:d.text.size<=100000):
 Calls Tryz.prog 234 #[ddV d,.int .i64 n] w fun e w'=>∃v,e= .returned v/\Own w' w.heap.size v (zez d n)/\Below w.heap.size w w':=by
 have HI:Hid _:=qb3 w d n hs
 have HE:Hid (zbb d n 0 (d.text.data.toList.take d.text.size)=zez d n):=by show zbb _ _ _ _=_;rw[zez,List.take_of_length_le (Nat.le_of_eq (zav _))]
 obtain⟨kind,by_,no,seen,at_,many,text⟩:=d
 unfold zd9 at HI
 simp only at HI HE hs
 have hmk:=zs2 text.size hs
 go_enter Tryz.func234,Tryz.ntmps234
 go_wp2
 go_loopw [13] (fun i wr=>∃k:Nat,k<=text.size/\i= .int .i64 k/\Hid (NInv w ⟨kind,by_,no,seen,at_,many,text⟩ n k wr)) (fun i _=>text.size-(intOf i).toNat)
 case atStart=>exact⟨0,Nat.zero_le _,rfl,HI⟩
 obtain⟨k,hk,rfl,HK⟩:=hrel
 clear HI hmk
 by_cases hlt:k<text.size
 ·obtain⟨_,c0,c1,c2,c3,c4,c5,c6⟩:=HK.out.at_
  obtain⟨r,ho⟩:=HK.out.own
  simp only at ho
  obtain⟨⟨u0,e0⟩,f0⟩:=zer ho (j:=k*7) (by omega)
  obtain⟨⟨u1,e1⟩,f1⟩:=zer ho (j:=k*7+1) (by omega)
  obtain⟨⟨u2,e2⟩,f2⟩:=zer ho (j:=k*7+2) (by omega)
  obtain⟨⟨u3,e3⟩,f3⟩:=zer ho (j:=k*7+3) (by omega)
  obtain⟨⟨u4,e4⟩,f4⟩:=zer ho (j:=k*7+4) (by omega)
  obtain⟨⟨u5,e5⟩,f5⟩:=zer ho (j:=k*7+5) (by omega)
  obtain⟨⟨u6,e6⟩,f6⟩:=zer ho (j:=k*7+6) (by omega)
  clear ho
  simp only[Nat.zero_add]at c0 c1 c2 c3 c4 c5 c6
  go_wp2
  go_region
  have HN:Hid _:=(HK.out.step hlt ⟨text[k].toNat,by_,no,k,n,0,0⟩ rfl).drew
  dsimp only at HN
  go_wp2
  go_roundw
  case rel=>
   exact⟨k+1,by omega,by go_num,HN⟩
  case measure=>simp[intOf];omega
 obtain rfl:k=text.size:=by omega
 go_wp2
 go_ret
 obtain⟨hb,r,ho⟩:=HK.out
 simp only at ho
 rw[HE.out]at ho
 have hr:r=[]:=by
  have:=ho.1
  rw[List.length_append,zdd,zg7]at this
  exact List.length_eq_zero_iff.1 (by simp only at this;omega)
 rw[hr,List.append_nil]at ho
 refine⟨_,rfl,?_,(Below.refl _ _).alloc (Nat.le_refl _) _ |>.trans (hb.mono (by omega))⟩
 unfold Own
 rw[zg7]
 exact ho
theorem zdo(n lo hi:Int)(w:World):
 Calls Tryz.prog 228 #[.int .i64 n,.int .i64 lo,.int .i64 hi] w fun e w'=>e= .returned (.bool (zas n lo hi))/\w'=w:=by
 by_cases h1:lo<=n
 ·by_cases h2:n<=hi
  ·go_enter Tryz.func228,Tryz.ntmps228
   go_wp2
   go_ret
   exact⟨by simp[zas,h1,h2],rfl⟩
  go_enter Tryz.func228,Tryz.ntmps228
  go_wp2
  go_ret
  exact⟨by simp[zas,h2],rfl⟩
 go_enter Tryz.func228,Tryz.ntmps228
 go_wp2
 go_ret
 exact⟨zbf (by simp[zas];omega),rfl⟩
theorem ok_wrap(b:UInt8):zee b=zas (wrap64 b.toNat) 32 126:=by
 have h:b.toNat<256:=b.toNat_lt
 have e:wrap64 (b.toNat:Int)=b.toNat:=by unfold wrap64;omega
 rw[e,zee,zas,Bool.eq_iff_iff]
 simp
 omega
theorem zwu(s:ByteArray)(w:World):
 Calls Tryz.prog 229 #[.string s] w fun e w'=>e= .returned (.bool (zci s))/\w'=w:=by
 by_cases hs:1<=s.size/\s.size<=20
 ·obtain⟨hs1,hs2⟩:=hs
  have hw:zas s.size 1 20=true:=by simp[zas];omega
  go_enter Tryz.func229,Tryz.ntmps229
  go_wp2_with (go_at_call 228;refine(zdo _ _ _ _).mono ?_;rintro e w' ⟨rfl,rfl⟩)
  go_loop [10] (fun i=>∃k:Nat,k<=s.size/\i= .int .i64 k/\(s.data.toList.take k).all zee=true) (fun i=>s.size-(intOf i).toNat)
  case atStart=>exact⟨0,Nat.zero_le _,rfl,rfl⟩
  obtain⟨k,hk,rfl,hok⟩:=hrel
  by_cases hlt:k<s.size
  ·have HN:Hid _:=zlp s k hlt
   have HZ:Hid _:=all_no s k hlt
   have HE:Hid _:=ok_wrap s[k]
   go_wp2_with fail
   refine(zdo _ _ _ _).mono ?_
   rintro e w1 ⟨rfl,rfl⟩
   cases hc:zas (wrap64 s[k].toNat) 32 126
   ·go_wp2
    go_ret
    exact⟨zbf (by rw[zci,HZ.out (by rw[HE.out,hc]),Bool.and_false]),rfl⟩
   go_wp2
   go_round
   case rel=>exact⟨k+1,by omega,by go_num,by rw[HN.out,hok,HE.out,hc];rfl⟩
   case measure=>simp[intOf];omega
  go_wp2
  go_ret
  obtain rfl:k=s.size:=by omega
  exact⟨zbf (by rw[<-zav,List.take_length]at hok;simp[zci,hok,hs1,hs2]),rfl⟩
 have hw:zas s.size 1 20=false:=by simp[zas];omega
 go_enter Tryz.func229,Tryz.ntmps229
 go_wp2_with (go_at_call 228;refine(zdo _ _ _ _).mono ?_;rintro e w' ⟨rfl,rfl⟩)
 go_ret
 exact⟨zbf (by simp[zci,hs]),rfl⟩
theorem zm6(d:Dd)(w:World):
 Calls Tryz.prog 209 #[ddV d] w fun e w'=>e= .returned (.bool (zcr d))/\Below w.heap.size w w':=by
 obtain⟨kind,by_,no,seen,at_,many,text⟩:=d
 cases h1:wrB by_
 ·go_enter Tryz.func209,Tryz.ntmps209
  go_wp2_with (first|(go_at_call 116;refine(zbj _ _).mono ?_;rintro e w' ⟨rfl,rfl⟩)|(go_at_call 228;refine(zdo _ _ _ _).mono ?_;rintro e w' ⟨rfl,rfl⟩))
  go_ret
  exact⟨zbf (by simp[zcr,h1]),(Below.refl _ _).alloc (Nat.le_refl _) _⟩
 cases h2:zas no 1 120
 ·go_enter Tryz.func209,Tryz.ntmps209
  go_wp2_with (first|(go_at_call 116;refine(zbj _ _).mono ?_;rintro e w' ⟨rfl,rfl⟩)|(go_at_call 228;refine(zdo _ _ _ _).mono ?_;rintro e w' ⟨rfl,rfl⟩))
  go_ret
  exact⟨zbf (by simp[zcr,h1,h2]),(Below.refl _ _).alloc (Nat.le_refl _) _⟩
 cases h3:zas seen 0 120
 ·go_enter Tryz.func209,Tryz.ntmps209
  go_wp2_with (first|(go_at_call 116;refine(zbj _ _).mono ?_;rintro e w' ⟨rfl,rfl⟩)|(go_at_call 228;refine(zdo _ _ _ _).mono ?_;rintro e w' ⟨rfl,rfl⟩))
  go_ret
  exact⟨zbf (by simp[zcr,h1,h2,h3]),(Below.refl _ _).alloc (Nat.le_refl _) _⟩
 go_enter Tryz.func209,Tryz.ntmps209
 go_wp2_with (first|(go_at_call 116;refine(zbj _ _).mono ?_;rintro e w' ⟨rfl,rfl⟩)|(go_at_call 228;refine(zdo _ _ _ _).mono ?_;rintro e w' ⟨rfl,rfl⟩))
 go_ret
 exact⟨zbf (by simp[zcr,h1,h2,h3]),(Below.refl _ _).alloc (Nat.le_refl _) _⟩
theorem zvn(d:Dd)(w:World):
 Calls Tryz.prog 210 #[ddV d] w fun e w'=>e= .returned (.int .i64 (zwt d))/\Below w.heap.size w w':=by
 obtain⟨kind,by_,no,seen,at_,many,text⟩:=d
 by_cases h1:many=0
 ·have h1':(many != 0)=false:=by simp[h1]
  have H1:=hid h1
  clear h1
  cases h2:zci text
  all_goals
   go_enter Tryz.func210,Tryz.ntmps210
   go_wp2_with (go_at_call 229;refine(zwu _ _).mono ?_;rintro e w' ⟨rfl,rfl⟩)
   go_ret
   exact⟨zae (by simp[zwt,H1.out,h2]),(Below.refl _ _).alloc (Nat.le_refl _) _⟩
 have h1':(many != 0)=true:=by simp[h1]
 have H1:=hid h1
 clear h1
 go_enter Tryz.func210,Tryz.ntmps210
 go_wp2
 go_ret
 exact⟨zae (by simp[zwt,H1.out]),(Below.refl _ _).alloc (Nat.le_refl _) _⟩
theorem zk4(s:ByteArray):s.toList.isEmpty=decide (s.size=0):=by
 by_cases h:s.size=0
 ·rw[ByteArray.toList_eq,ba_empty h];rfl
 rw[ByteArray.toList_eq]
 have:s.data≠ #[]:=fun e=>h (by show s.data.size=0;rw[e];rfl)
 simp[h,this]
theorem zt5(d:Dd)(w:World):
 Calls Tryz.prog 211 #[ddV d] w fun e w'=>e= .returned (.int .i64 (zl3 d))/\Below w.heap.size w w':=by
 obtain⟨kind,by_,no,seen,at_,many,text⟩:=d
 by_cases h1:text.size=0
 ·have h1':text.toList.isEmpty=true:=by simp[zk4,h1]
  have H1:=hid h1
  clear h1
  cases h2:zas many 1 200
  all_goals
   go_enter Tryz.func211,Tryz.ntmps211
   go_wp2_with (go_at_call 228;refine(zdo _ _ _ _).mono ?_;rintro e w' ⟨rfl,rfl⟩)
   go_ret
   exact⟨zae (by simp[zl3,H1.out,h2]),(Below.refl _ _).alloc (Nat.le_refl _) _⟩
 have h1':text.toList.isEmpty=false:=by simp[zk4,h1]
 have H1:=hid h1
 clear h1
 go_enter Tryz.func211,Tryz.ntmps211
 go_wp2
 go_ret
 exact⟨zae (by simp[zl3,H1.out]),(Below.refl _ _).alloc (Nat.le_refl _) _⟩
theorem zji(d:Dd)(w:World):
 Calls Tryz.prog 183 #[ddV d] w fun e w'=>e= .returned (.int .i64 (za9 d))/\Below w.heap.size w w':=by
 by_cases hk:d.kind=1\/d.kind=2
 ·cases hp:zcr d
  ·have HC:Hid (za9 d=1):=by
    show za9 d=1
    rw[za9,if_neg (by omega),if_pos hp]
   obtain⟨kind,by_,no,seen,at_,many,text⟩:=d
   rcases hk with rfl|rfl
   all_goals
    go_enter Tryz.func183,Tryz.ntmps183
    go_wp2_with fail
    refine(zm6 ⟨_,by_,no,seen,at_,many,text⟩ _).mono ?_
    rintro e w1 ⟨rfl,hb⟩
    rw[hp]
    go_wp2
    go_ret
    exact⟨zae HC.out.symm,bla ((Below.refl _ _).alloc (Nat.le_refl _) _) hb⟩
  by_cases h1:d.kind=1
  ·have HC:Hid (za9 d=zwt d):=by
    show za9 d=zwt d
    rw[za9,if_neg (by omega),if_neg (by simp[hp]),if_pos h1]
   obtain⟨kind,by_,no,seen,at_,many,text⟩:=d
   obtain rfl:kind=1:=h1
   clear hk
   go_enter Tryz.func183,Tryz.ntmps183
   go_wp2_with fail
   refine(zm6 ⟨_,by_,no,seen,at_,many,text⟩ _).mono ?_
   rintro e w1 ⟨rfl,hb⟩
   rw[hp]
   obtain⟨hc,hf⟩:=zdp hb
   go_wp2_with fail
   refine(zvn ⟨_,by_,no,seen,at_,many,text⟩ _).mono ?_
   rintro e w2 ⟨rfl,hb2⟩
   clear hc hf
   go_wp2
   go_ret
   exact⟨zae HC.out.symm,bla (bla ((Below.refl _ _).alloc (Nat.le_refl _) _) hb) hb2⟩
  have HC:Hid (za9 d=zl3 d):=by
   show za9 d=zl3 d
   rw[za9,if_neg (by omega),if_neg (by simp[hp]),if_neg h1]
  obtain⟨kind,by_,no,seen,at_,many,text⟩:=d
  obtain rfl:kind=2:=by rcases hk with h|h;exact absurd h h1;exact h
  clear hk h1
  go_enter Tryz.func183,Tryz.ntmps183
  go_wp2_with fail
  refine(zm6 ⟨_,by_,no,seen,at_,many,text⟩ _).mono ?_
  rintro e w1 ⟨rfl,hb⟩
  rw[hp]
  obtain⟨hc,hf⟩:=zdp hb
  go_wp2_with fail
  refine(zt5 ⟨_,by_,no,seen,at_,many,text⟩ _).mono ?_
  rintro e w2 ⟨rfl,hb2⟩
  clear hc hf
  go_wp2
  go_ret
  exact⟨zae HC.out.symm,bla (bla ((Below.refl _ _).alloc (Nat.le_refl _) _) hb) hb2⟩
 have HC:Hid (za9 d=2):=by
  show za9 d=2
  rw[za9,if_pos (by omega)]
 obtain⟨kind,by_,no,seen,at_,many,text⟩:=d
 have h1:(kind != 1)=true:=by simp;intro e;exact hk (.inl e)
 have h2:(kind != 2)=true:=by simp;intro e;exact hk (.inr e)
 clear hk
 go_enter Tryz.func183,Tryz.ntmps183
 go_wp2
 go_ret
 exact⟨zae HC.out.symm,(Below.refl _ _).alloc (Nat.le_refl _) _⟩
variable {w wk:World} {B:Nat} {d:Dd} {v:Value} {l:List Ch}
structure zhd(w:World)(B:Nat)(d:Dd)(v:Value)(l:List Ch)(wk:World):Prop where
 below:Below w.heap.size w wk
 at_:zdq wk B 0 d
 lst:Lst wk v l
theorem zhd.after{w':World}(h:zhd w B d v l wk)(hb:Below wk.heap.size wk w'):zhd w B d v l w':=
 ⟨bla h.below hb,h.at_.below hb,h.lst.below hb⟩
theorem zhd.drew{w wk:World}{B:Nat}{d:Dd}{v:Value}{l:List Ch}(h:zhd w B d v l wk):zhd w B d v l wk.drew:=h.after (Below.refl _ _).drew
theorem zdb(h:Lst w v l):zhd w w.heap.size d v l (w.alloc (zd9 d)):=
 have hb:Below w.heap.size w (w.alloc (zd9 d)):=(Below.refl _ _).alloc (Nat.le_refl _) _
 ⟨hb,zb4 w d,h.below hb⟩
theorem count_q(h:zhd w B d v l wk)(hl:l.length<=1000)(seen by_:Int):
 Calls Tryz.prog 231 #[v,.int .i64 seen,.int .i64 by_] wk fun e w'=>e= .returned (.int .i64 (cnt l seen by_))/\zhd w B d v l w':=
 (qgh h.lst hl seen by_).mono fun _ _ ⟨he,hb⟩=>⟨he,h.after hb⟩
theorem mayC_of(l:List Ch)(d:Dd)(h:za9 d=0):zha l d=if cnt l d.seen d.by_<d.at_+d.many then 1 else if 200<l.length+d.text.size then 9 else 0:=by
 rw[zha,if_neg (fun e=>e h)]
theorem zsl(l:List Ch)(d:Dd)(v:Value)(w:World)(h:Lst w v l)(hl:l.length<=1000):
 Calls Tryz.prog 218 #[v,ddV d] w fun e w'=>e= .returned (.int .i64 (zha l d))/\Below w.heap.size w w':=by
 have HI:Hid _:=zdb (d:=d) h
 obtain⟨ad,cap,rfl,hcap⟩:=h.len
 by_cases hc:za9 d=0
 ·have HM:Hid _:=mayC_of l d hc
  have hp:=zah hc
  obtain⟨kind,by_,no,seen,at_,many,text⟩:=d
  have HC:=hid hc
  have hcn:=zn9 l seen by_
  obtain⟨_,_,_,_,_,_,p1,p2,p3,p4,p5,p6⟩:=hp
  have ht:text.size<=20:=by
   by_cases hk:kind=1
   ·exact(p5 hk).2.1
   have:=p6 hk;simp only at this;omega
  simp only at p1 p2 p3 p4 HM
  clear h hc p5 p6
  go_enter Tryz.func218,Tryz.ntmps218
  go_wp2_with fail
  refine(zji ⟨kind,by_,no,seen,at_,many,text⟩ _).mono ?_
  rintro e w1 ⟨rfl,hb⟩
  rw[HC.out]
  have HI1:Hid _:=HI.out.after hb
  clear hb HI
  go_wp2
  refine wp_region_quiet (C:=fun wk=>zhd w w.heap.size ⟨kind,by_,no,seen,at_,many,text⟩ (.slice ad l.length cap) l wk) (by kernel_rfl) (by kernel_rfl) (HI1.out.drew) ?_
  iterate 2 (refine wpQuiet_step (fun K hK=> ?_);go_simp;refine⟨_,fun _ _=>rfl,hK _ ?_⟩;clear hK K)
  refine wpQuiet_step (fun K hK=> ?_)
  go_simp
  refine⟨.int .i64 seen,fun wk hwk=> ?_,hK _ ?_⟩
  ·obtain⟨_,c0,c1,c2,c3,c4,c5,c6⟩:=hwk.at_
   simp only[Nat.zero_add]at c0 c1 c2 c3 c4 c5 c6
   go_simp
  clear hK K
  refine wpQuiet_step (fun K hK=> ?_)
  go_simp
  refine⟨_,fun _ _=>rfl,hK _ ?_⟩
  clear hK K
  refine wpQuiet_step (fun K hK=> ?_)
  go_simp
  refine⟨.int .i64 by_,fun wk hwk=> ?_,hK _ ?_⟩
  ·obtain⟨_,c0,c1,c2,c3,c4,c5,c6⟩:=hwk.at_
   simp only[Nat.zero_add]at c0 c1 c2 c3 c4 c5 c6
   go_simp
  clear hK K
  refine wpQuiet_step (fun K hK=> ?_)
  go_simp
  refine⟨_,fun wk hwk=>count_q hwk hl _ _,hK _ ?_⟩
  clear hK K
  refine wpQuiet_step (fun K hK=> ?_)
  go_simp
  refine⟨_,fun _ _=>rfl,hK _ ?_⟩
  clear hK K
  refine wpQuiet_step (fun K hK=> ?_)
  go_simp
  refine⟨.int .i64 at_,fun wk hwk=> ?_,hK _ ?_⟩
  ·obtain⟨_,c0,c1,c2,c3,c4,c5,c6⟩:=hwk.at_
   simp only[Nat.zero_add]at c0 c1 c2 c3 c4 c5 c6
   go_simp
  clear hK K
  refine wpQuiet_step (fun K hK=> ?_)
  go_simp
  refine⟨_,fun _ _=>rfl,hK _ ?_⟩
  clear hK K
  refine wpQuiet_step (fun K hK=> ?_)
  go_simp
  refine⟨.int .i64 many,fun wk hwk=> ?_,hK _ ?_⟩
  ·obtain⟨_,c0,c1,c2,c3,c4,c5,c6⟩:=hwk.at_
   simp only[Nat.zero_add]at c0 c1 c2 c3 c4 c5 c6
   go_simp
  clear hK K
  refine wpQuiet_step (fun K hK=> ?_)
  go_simp
  refine⟨.int .i64 (at_+many),fun wk hwk=> ?_,hK _ ?_⟩
  ·have e:IntKind.i64.wrap (at_+many)=at_+many:=by rw[IntKind.wrap_i64];omega
   rw[e]
  iterate 2 (clear hK K;refine wpQuiet_step (fun K hK=> ?_);go_simp;refine⟨_,fun _ _=>rfl,hK _ ?_⟩)
  clear hK K
  refine wpQuiet_nil ?_
  intro w2 hw2
  have HI2:Hid _:=hw2
  obtain⟨_,c0,c1,c2,c3,c4,c5,c6⟩:=hw2.at_
  simp only[Nat.zero_add]at c0 c1 c2 c3 c4 c5 c6
  clear hw2
  by_cases h1:cnt l seen by_<at_+many
  ·go_wp2
   go_ret
   exact⟨zae (by rw[HM.out,if_pos (by omega)]),HI2.out.below⟩
  by_cases h2:200<l.length+text.size
  ·go_wp2
   go_ret
   exact⟨zae (by rw[HM.out,if_neg (by omega),if_pos (by omega)]),HI2.out.below⟩
  go_wp2
  go_ret
  exact⟨zae (by rw[HM.out,if_neg (by omega),if_neg (by omega)]),HI2.out.below⟩
 have HM:Hid (zha l d=za9 d):=by show zha l d=za9 d;rw[zha,if_pos hc]
 have hne:(za9 d != 0)=true:=by simp[hc]
 obtain⟨kind,by_,no,seen,at_,many,text⟩:=d
 clear h hc
 go_enter Tryz.func218,Tryz.ntmps218
 go_wp2_with fail
 refine(zji ⟨kind,by_,no,seen,at_,many,text⟩ _).mono ?_
 rintro e w1 ⟨rfl,hb⟩
 have HI1:Hid _:=HI.out.after hb
 clear hb HI
 generalize za9 ⟨kind,by_,no,seen,at_,many,text⟩=c at*
 go_wp2
 go_ret
 exact⟨zae HM.out.symm,HI1.out.below⟩
variable {w:World} {l:List Ch}
theorem zjl{seen by_:Int}:∀(l:List Ch) (m n:Nat) (hm:m<l.length),za7 seen by_ l[m]=true->(vw (l.take (m+1)) seen by_).length=n->zaa seen by_ n l=some (m+1)
 |[],m,n,hm,_,_=>absurd hm (Nat.not_lt_zero _)
 |x::r,0,n,_,hs,hn=>by
  have hs':za7 seen by_ x=true:=hs
  rw[List.take_succ_cons,List.take_zero,zc5 _ hs']at hn
  obtain rfl:n=1:=by simpa [vw]using hn.symm
  rw[zaa,if_pos hs']
  cases r<;>rfl
 |x::r,m+1,n,hm,hs,hn=>by
  have hm':m<r.length:=by simpa using hm
  have hs':za7 seen by_ r[m]=true:=hs
  rw[List.take_succ_cons]at hn
  by_cases hx:za7 seen by_ x=true
  ·rw[zc5 _ hx,List.length_cons]at hn
   obtain⟨n',rfl⟩:∃n',n=n'+1:=⟨_,hn.symm⟩
   rw[zaa,if_pos hx,zjl r m n' hm' hs' (by omega)]
   rfl
  rw[zcw _ (by simpa using hx)]at hn
  have hpos:0<n:=by
   rw[zcf r m hm',zyg,zc5 _ hs',List.length_append,List.length_cons]at hn
   omega
  obtain⟨n',rfl⟩:∃n',n=n'+1:=⟨n-1,by omega⟩
  rw[zaa,if_neg hx,zjl r m (n'+1) hm' hs' hn]
  rfl
theorem zmn{v:Value}(h:Lst w v l)(hl:l.length<=1000)(seen by_ n:Int)(h0:0<=n)(hn:n<=cnt l seen by_):
 Calls Tryz.prog 232 #[v,.int .i64 seen,.int .i64 by_,.int .i64 n] w fun e w'=>∃p:Nat,e= .returned (.int .i64 p)/\zaa seen by_ n.toNat l=some p/\p<=l.length/\Below w.heap.size w w':=by
 obtain⟨a,len,cap,rfl,h1,h2,h3⟩:=h
 rcases h3 with rfl|⟨b,off,rfl,hr⟩
 ·obtain rfl:l=[]:=List.length_eq_zero_iff.1 h1
  have hz:n=0:=by simp[cnt]at hn;omega
  subst hz
  refine(zvs a cap seen by_ 0 w).mono ?_
  rintro e w' ⟨rfl,hb⟩
  exact⟨0,rfl,rfl,Nat.le_refl _,hb⟩
 refine(zy5 b off len cap l seen by_ n w h1 (by omega) hr).mono ?_
 rintro e w' ⟨r,rfl,hbi,hb⟩
 by_cases hz:n=0
 ·subst hz
  rw[zy3 hbi]
  exact⟨0,rfl,by cases l<;>rfl,Nat.zero_le _,hb⟩
 obtain⟨m,hm,rfl,hc,hs⟩:=qc7 hbi (by omega) hn
 refine⟨m+1,rfl,zjl l m n.toNat hm hs ?_,hm,hb⟩
 have:=zix (l.take (m+1)) seen by_
 omega
theorem zd1{P:Program}{ρ:Operand->Value}{o:Oper}{t:TypeId}{x:Operand}{lo hi mx:Option Operand}{u:Value}(h:o.op= .slice t x lo hi mx)
 (hr:(Instr.sliceAt t (ρ x) (lo.map ρ) (hi.map ρ) (mx.map ρ)).run P w= .ok u w):(execOp ρ o).run P w= .ok (.value u) w:=by
 unfold execOp
 rw[h]
 simp[hr]
theorem zmj:Tryz.prog.elem 91=127:=by kernel_rfl
theorem zhi:Tryz.prog.underlying 91=some (.slice (Tryz.prog.elem 91)):=by kernel_rfl
theorem zok(w:World):(sizeOf 127).run Tryz.prog w= .ok 7 w:=by
 obtain⟨i0,hi,_,hz1,_⟩:=info_parts Tryz.infoChar
 simp[sizeOf,typeInfo,hi,hz1]
theorem zeb(a:Option Addr)(len cap k:Nat)(hk:k<=cap)(w:World):(Instr.sliceAt 91 (.slice a len cap) none (some (.int .i64 k)) none).run Tryz.prog w= .ok (sliced a 0 k cap 7) w:=by
 rw[run_sliceAt_slice _ _ _ _ _ _ zhi,run_slice_h _ _ _ _ _ zhi _ _ (by omega) (by omega),zmj,zok]
 rfl
theorem zec(a:Option Addr)(len cap k:Nat)(hk:k<=len)(w:World):(Instr.sliceAt 91 (.slice a len cap) (some (.int .i64 k)) none none).run Tryz.prog w= .ok (sliced a k len cap 7) w:=by
 rw[run_sliceAt_slice _ _ _ _ _ _ zhi,run_slice_l _ _ _ _ _ zhi _ _ (by omega) (by omega),zmj,zok]
 rfl
theorem zia{w:World}{a:Option Addr}{cap:Nat}{l:List Ch}(h:Lst w (.slice a l.length cap) l){k:Nat}(hk:k<=l.length):Lst w (sliced a 0 k cap 7) (l.take k):=by
 obtain⟨a',len,cap',he,h1,h2,h3⟩:=h
 simp only[Value.slice.injEq]at he
 obtain⟨rfl,rfl,rfl⟩:=he
 have e:(if cap=0 then a else a.map (·.add (0*7)))=a:=by
  split
  ·rfl
  cases a with
  |none=>rfl
  |some ad=>
   rcases h3 with h3|⟨b,off,h3,_⟩
   ·obtain⟨b,off,spot⟩:=ad
    cases spot<;>simp[Addr.add]
   cases h3
   simp[zdv]
 refine⟨a,k,cap,?_,by rw[List.length_take];omega,by omega,?_⟩
 ·unfold sliced
  rw[e]
  rfl
 rcases h3 with h3|⟨b,off,rfl,hr⟩
 ·exact .inl (by omega)
 exact .inr ⟨b,off,rfl,hr.take k⟩
theorem zib{a:Option Addr}{cap:Nat}(h:Lst w (.slice a l.length cap) l){k:Nat}(hk:k<=l.length):Lst w (sliced a k l.length cap 7) (l.drop k):=by
 obtain⟨a',len,cap',he,h1,h2,h3⟩:=h
 simp only[Value.slice.injEq]at he
 obtain⟨rfl,rfl,rfl⟩:=he
 refine⟨_,l.length-k,cap-k,rfl,by rw[List.length_drop],by omega,?_⟩
 rcases h3 with h3|⟨b,off,rfl,hr⟩
 ·exact .inl (by omega)
 by_cases hc:cap=k
 ·exact .inl (by omega)
 rw[if_neg hc]
 exact .inr ⟨b,off+k*7,by simp[zdv],hr.drop' k⟩
end Go.Proofs.YtcbnnfeelhlapadGreatDoor