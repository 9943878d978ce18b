/-
  CDel, WHit, WNum, WGoes.
-/
import Derived.Laws.IdiomCopy
import Derived.Test.YtcbnnfeelhlapadGreatDoorFSame
namespace Go.Proofs.YtcbnnfeelhlapadGreatDoor
set_option maxHeartbeats 1600000
set_option maxRecDepth 20000
open Go.RowKit
variable {w wk w':World} {base g n cap i j k F:Nat} {L l:List Ch} {v:Value} {p:Ch->Bool} {caps:Array Value} {K:World->Prop}
theorem zj6{w:World}{base g n cap:Nat}{e:TypeId}{size:Nat}{xs:List Value}(h:w.ownsRow base e size (.slice (some ⟨g,0,none⟩) n cap) n xs):
 ∀(vs:List Value) (o:Nat),n*size<=o->∀w1:World,w1.ownsRow base e size (.slice (some ⟨g,0,none⟩) n cap) n xs->(w1.setCells g o vs).ownsRow base e size (.slice (some ⟨g,0,none⟩) n cap) n xs
 |[],o,_,w1,h1=>h1
 |v::vs,o,ho,w1,h1=>by
  have:=(h1.stored o v).1
  rw[List.set_eq_of_length_le (by have:=h1.1;omega)]at this
  exact zj6 h vs (o+1) (by omega) _ this
theorem zkc{base g:Nat}(hg:base<=g){W:World}:∀(vs:List Value) (o:Nat) (w1:World),Below base W w1->Below base W (w1.setCells g o vs)
 |[],_,_,h=>h
 |v::vs,o,_,h=>zkc hg vs (o+1) _ (h.setCell (p:=⟨g,o,none⟩) hg v)
theorem own_less(h:Own w base (.slice (some ⟨g,0,none⟩) n cap) L)(hn:L.length=n){i:Nat}(hi:i<=n):Own w base (.slice (some ⟨g,0,none⟩) i cap) (L.take i):=by
 unfold Own at h⊢
 have hlen:(L.take i).length=i:=by rw[List.length_take];omega
 rw[hlen]
 rw[hn]at h
 obtain⟨h1,h2⟩:=h
 refine⟨by rw[zdd,hlen],?_⟩
 rcases h2 with⟨h',_⟩|⟨g',cap',cur,h',hb,hg,hnc,hcm,hcs,htake⟩
 ·simp at h'
 simp only[Value.slice.injEq,Option.some.injEq,Addr.mk.injEq,and_true,true_and]at h'
 obtain⟨rfl,rfl⟩:=h'
 refine .inr ⟨g,cap,cur,rfl,hb,hg,by omega,hcm,hcs,?_⟩
 have e:zaq L=zaq (L.take i)++zaq (L.drop i):=by rw[<-zfa,List.take_append_drop]
 have:(zaq L).take (i*7)=zaq (L.take i):=by
  have hl7:(zaq (L.take i)).length=i*7:=by rw[zdd,hlen]
  rw[e,List.take_append_of_le_length (by omega),List.take_of_length_le (by omega)]
 rw[<-this,<-htake,List.take_take,Nat.min_eq_left (by omega)]
theorem zoz(h:Own wk base v l)(hk:0<l.length):∃g cap,v= .slice (some ⟨g,0,none⟩) l.length cap:=by
 obtain⟨_,h2⟩:=h
 rcases h2 with⟨_,hn⟩|⟨g,cap,cur,rfl,_⟩
 ·omega
 exact⟨g,cap,rfl⟩
theorem zeq(h:Own w base (.slice (some ⟨g,0,none⟩) n cap) L)(hn:L.length=n){j:Nat}(hj:j<n*7):(∃u,w.cell? ⟨g,j,none⟩=some u)/\w.frozen? ⟨g,j,none⟩=false:=by
 unfold Own at h
 rw[hn]at h
 exact zer h hj
theorem zrn(n:Nat):∀v∈(Builtin.zeroCells zff.cells n).toList,v.oneCell'=true:=by
 intro v hv
 simp only[Builtin.zeroCells,Array.toList_map,List.mem_map]at hv
 obtain⟨i,_,rfl⟩:=hv
 have h7:i % zff.cells.size<7:=Nat.mod_lt _ (by decide)
 generalize i % zff.cells.size=r at h7
 rcases(show r=0\/r=1\/r=2\/r=3\/r=4\/r=5\/r=6 by omega)with rfl|rfl|rfl|rfl|rfl|rfl|rfl<;>rfl
theorem zs5(h:Own w base (.slice (some ⟨g,0,none⟩) n cap) L)(hn:L.length=n){i:Nat}(hi:i<n)(ty:TypeId):
 (Builtin.clear_ #[91] ty #[.slice (some ⟨g,i*7,none⟩) (n-i) (cap-i)]).run Tryz.prog w= .ok (.tuple #[]) (w.setCells g (i*7) (Builtin.zeroCells zff.cells (n-i)).toList):=by
 have hlen:(Builtin.zeroCells zff.cells (n-i)).toList.length=(n-i)*7:=by rw[Array.length_toList,size_zeroCells];rfl
 have hsp:∀j,j<(Builtin.zeroCells zff.cells (n-i)).toList.length->i*7+j<n*7:=fun j hj=>by rw[hlen]at hj;omega
 have ho:=h
 unfold Own at ho
 rw[hn]at ho
 have hst:=run_storeCells_cells (P:=Tryz.prog) g (i*7) (Builtin.zeroCells zff.cells (n-i)).toList 0 w
  (fun j hj=>by obtain⟨⟨u,hu⟩,_⟩:=zer ho (hsp j hj);rw[Nat.add_zero,hu];rfl)
  (fun j hj=>by rw[Nat.add_zero];exact(zer ho (hsp j hj)).2) (zrn _)
 simp only[Nat.add_zero]at hst
 obtain⟨m,hm⟩:∃m,n-i=m+1:=⟨n-i-1,by omega⟩
 rw[hm]at hst⊢
 have hu:Tryz.prog.underlying 91=some (.slice 127):=Tryz.underlying91
 simp[Builtin.clear_,run_underlying hu,hst]
structure zgu(base:Nat)(w:World)(v:Value)(l:List Ch)(p:Ch->Bool)(i j:Nat)(L:List Ch)(wk:World):Prop where
 below:Below base w wk
 own:Own wk base v L
 len:L.length=l.length
 le:i<j
 head:L.take i=(l.take j).filter fun x=> !p x
 tail:L.drop j=l.drop j
theorem zgu.after(h:zgu base w v l p i j L wk)(hs:base<=wk.heap.size)(hb:Below wk.heap.size wk w'):zgu base w v l p i j L w':=
 ⟨h.below.trans (hb.mono hs),h.own.below hb,h.len,h.le,h.head,h.tail⟩
theorem zkt(hj:j<l.length):(l.take (j+1)).filter (fun x=> !p x)=(l.take j).filter (fun x=> !p x)++if p l[j]=true then []else [l[j]]:=by
 rw[zcf l j hj,List.filter_append]
 cases h:p l[j]<;>simp[h]
theorem zgu.nth(h:zgu base w v l p i j L wk)(hj:j<l.length):∃hL:j<L.length,L[j]=l[j]:=by
 have hL:j<L.length:=by rw[h.len];exact hj
 refine⟨hL,?_⟩
 have h1:(L.drop j)[0]? =(l.drop j)[0]? :=by rw[h.tail]
 rw[List.getElem?_drop,List.getElem?_drop,Nat.add_zero,List.getElem?_eq_getElem hL,List.getElem?_eq_getElem hj]at h1
 exact Option.some.inj h1
theorem zgu.skip(h:zgu base w v l p i j L wk)(hj:j<l.length)(hp:p l[j]=true):zgu base w v l p i (j+1) L wk:=by
 refine⟨h.below,h.own,h.len,by have:=h.le;omega,?_,?_⟩
 ·rw[zkt hj,hp,h.head];simp
 rw[<-List.drop_drop,h.tail,List.drop_drop]
theorem zgu.keep(h:zgu base w (.slice (some ⟨g,0,none⟩) n cap) l p i j L wk)(hn:l.length=n)(hj:j<l.length)(hp:p l[j]=false)(y:Ch)(hy:l[j]=y):
 zgu base w (.slice (some ⟨g,0,none⟩) n cap) l p (i+1) (j+1) (L.set i y) (((((((wk.setCell ⟨g,i*7,none⟩ (.int .u8 y.c)).setCell ⟨g,i*7+1,none⟩ (.int .i64 y.by_)).setCell ⟨g,i*7+2,none⟩ (.int .i64 y.no)).setCell ⟨g,i*7+3,none⟩ (.int .i64 y.k)).setCell ⟨g,i*7+4,none⟩ (.int .i64 y.inn)).setCell ⟨g,i*7+5,none⟩ (.int .i64 y.out)).setCell ⟨g,i*7+6,none⟩ (.int .i64 y.gone)):=by
 obtain⟨hb,ho,hl,hle,hh,ht⟩:=h
 have hiL:i<L.length:=by omega
 have ho':=ho
 unfold Own at ho'
 have hg:=(World.ownsRow.lt ho' g rfl).1
 refine⟨?_,?_,by rw[List.length_set,hl],by omega,?_,?_⟩
 ·exact((((((hb.setCell (p:=⟨g,_,none⟩) hg _).setCell (p:=⟨g,_,none⟩) hg _).setCell (p:=⟨g,_,none⟩) hg _).setCell (p:=⟨g,_,none⟩) hg _).setCell (p:=⟨g,_,none⟩) hg _).setCell (p:=⟨g,_,none⟩) hg _).setCell (p:=⟨g,_,none⟩) hg _
 ·unfold Own
  rw[List.length_set,<-zz2 L i y hiL,hl,hn]
  rw[hl,hn]at ho'
  exact((((((ho'.stored _ _).1.stored _ _).1.stored _ _).1.stored _ _).1.stored _ _).1.stored _ _).1.stored _ _ |>.1
 ·rw[zkt hj,hp,<-hh,hy,List.take_succ_eq_append_getElem (by rw[List.length_set];exact hiL),List.getElem_set_self,List.take_set_of_le (Nat.le_refl _)]
  simp
 rw[List.drop_set_of_lt (by omega),<-List.drop_drop,ht,List.drop_drop]
structure zyb(F:Nat)(caps:Array Value)(p:Ch->Bool)(base:Nat)(K:World->Prop):Prop where
 call:∀args w,Sem.run Tryz.prog (callFunc F args) w= .ok (.enter F args) w
 step:∀x w,K w->Calls Tryz.prog F (#[chV x]++caps) w fun e w'=>e= .returned (.bool (p x))/\Below w.heap.size w w'
 keep:∀w w',K w->Below base w w'->K w'
def hitP(p:Ch->Bool)(l:List Ch)(k:Nat):Bool:=
 match l[k]? with
 |some x=>p x
 |none=>false
theorem zmg(h:k<l.length):hitP p l k=p l[k]:=by
 rw[hitP,List.getElem?_eq_getElem h]
theorem zr1(h:zyb F caps p base K){w:World}(hb:base<=w.heap.size){b off:Nat}{l:List Ch}(hr:Row w b off l)(hK:K w):
 Step F caps b off l (fun _ w'=>Below w.heap.size w w') (hitP p l):=by
 refine⟨fun k w' hw=>hr.below hw,fun k hk w' hw=> ?_⟩
 refine(h.step l[k] w' (h.keep w w' hK (hw.mono hb))).mono ?_
 rintro e w2 ⟨rfl,hb2⟩
 exact⟨zbf (zmg hk).symm,bla hw hb2⟩
theorem qgd(ho:Own w base (.slice (some ⟨g,0,none⟩) n cap) l)(hs:base<=w.heap.size)(hb:Below w.heap.size w w')(hk:k<l.length)(hno:∀j,j<k->hitP p l j=false)(hy:hitP p l k=true):
 zgu base w (.slice (some ⟨g,0,none⟩) n cap) l p k (k+1) l w':=by
 refine⟨hb.mono hs,ho.below hb,rfl,Nat.lt_succ_self _,?_,rfl⟩
 rw[zmg hk]at hy
 rw[zkt hk,hy]
 simp only[if_true,List.append_nil]
 symm
 rw[List.filter_eq_self]
 intro x hx
 obtain⟨j,hj,rfl⟩:=List.mem_iff_getElem.1 hx
 have hj':j<k:=by rw[List.length_take]at hj;omega
 have:=hno j hj'
 rw[zmg (by omega)]at this
 rw[List.getElem_take,this]
 rfl
theorem del_none(hno:∀j,j<l.length->hitP p l j=false):l=l.filter fun x=> !p x:=by
 symm
 rw[List.filter_eq_self]
 intro x hx
 obtain⟨j,hj,rfl⟩:=List.mem_iff_getElem.1 hx
 have:=hno j hj
 rw[zmg hj]at this
 rw[this];rfl
theorem zgu.fin(h:zgu base w (.slice (some ⟨g,0,none⟩) n cap) l p i n L wk)(hn:l.length=n)(vs:List Value):
 Own (wk.setCells g (i*7) vs) base (.slice (some ⟨g,0,none⟩) i cap) (l.filter fun x=> !p x)/\Below base w (wk.setCells g (i*7) vs):=by
 have hL:L.length=n:=by rw[h.len,hn]
 have h1:=own_less h.own hL (i:=i) (by have:=h.le;omega)
 rw[h.head,<-hn,List.take_length]at h1
 have hli:(l.filter fun x=> !p x).length=i:=by
  have e:=h.head
  rw[<-hn,List.take_length]at e
  rw[<-e,List.length_take]
  have:=h.le
  omega
 have hg:base<=g:=by
  have ho:=h.own
  unfold Own at ho
  exact(World.ownsRow.lt ho g rfl).1
 refine⟨?_,zkc hg _ _ _ h.below⟩
 unfold Own at h1⊢
 rw[hli]at h1⊢
 exact zj6 h1 vs (i*7) (Nat.le_refl _) wk h1
theorem zka(hF:zyb F caps p base K){w:World}{v:Value}{l:List Ch}(ho:Own w base v l)(hs:base<=w.heap.size)(hl:l.length<=1000)(hK:K w):
 Calls Tryz.prog 196 #[v,.func (Fn.func F) #[] caps] w fun e w'=>∃v',e= .returned v'/\Own w' base v' (l.filter fun x=> !p x)/\Below base w w':=by
 have HF:=hid hF
 have HO:=hid ho
 have HK:=hid hK
 have hcall:=hF.call
 by_cases h0:l.length=0
 ·obtain rfl:l=[]:=List.length_eq_zero_iff.1 h0
  obtain⟨a,cap,rfl,_⟩:=ho.lst.len
  clear hF ho hK h0
  go_enter Tryz.func196,Tryz.ntmps196
  go_wp2_with fail
  refine(zgs a cap _ w).mono ?_
  rintro e w1 ⟨rfl,hb⟩
  have HB:Hid _:=hb
  clear hb hcall
  go_wp2
  go_ret
  exact⟨_,rfl,HO.out.below HB.out,HB.out.mono hs⟩
 obtain⟨g,cap,rfl⟩:=zoz ho (by omega)
 have hr:Row w g 0 l:=by
  obtain⟨b',o',e',_,r'⟩:=ho.lst.row (by omega)
  cases e'
  exact r'
 have HR:=hid hr
 generalize hn:l.length=n at*
 have HN:=hid hn
 clear hF ho hK hr hn
 go_enter Tryz.func196,Tryz.ntmps196
 go_wp2_with fail
 refine(zfe F caps g 0 n cap l _ _ w HN.out (by omega) hcall (zr1 HF.out hs HR.out HK.out) (Below.refl _ _)).mono ?_
 intro e w1 hres
 have H1:Hid _:=hres
 clear hres
 rcases H1.out with⟨k,hk,hno,hyes,rfl,hI⟩|⟨hno,rfl,hI⟩
 ·have HD:Hid _:=qgd HO.out hs hI (by rw[HN.out];exact hk) hno hyes
  clear H1 hno hyes hI HO HR
  have hk1:((k:Int)== -1)=false:=beq_eq_false_iff_ne.2 (by omega)
  go_wp2
  go_loopw [5,6,7] (fun s5 s6 _ wr=>∃i j:Nat,∃L:List Ch,j<=n/\s5= .int .i64 i/\s6= .int .i64 j/\Hid (zgu base w (.slice (some ⟨g,0,none⟩) n cap) l p i j L wr)) (fun _ s6 _ _=>n-(intOf s6).toNat)
  case atStart=>exact⟨k,k+1,l,by omega,rfl,by go_num,HD⟩
  obtain⟨i,j,L,hj,rfl,rfl,HJ⟩:=hrel
  clear HD
  have hij:=HJ.out.le
  have hsz:base<=wr.heap.size:=by have:=HJ.out.below.size;omega
  by_cases hlt:j<n
  ·have hjl:j<l.length:=by rw[HN.out];exact hlt
   obtain⟨hjL,hLj⟩:=HJ.out.nth hjl
   obtain⟨b',o',e',_,r'⟩:=HJ.out.own.lst.row (by omega)
   cases e'
   obtain⟨h0,h1,h2,h3,h4,h5,h6⟩:=r'.at_ j hjL
   simp only[Nat.zero_add]at h0 h1 h2 h3 h4 h5 h6
   rw[hLj]at h0 h1 h2 h3 h4 h5 h6
   obtain⟨x,hx⟩:∃x,x=l[j]:=⟨_,rfl⟩
   rw[<-hx]at h0 h1 h2 h3 h4 h5 h6
   have HX:Hid _:=hx
   clear r' hLj hjL hx
   go_wp2_with fail
   have HA:Hid (Below wr.heap.size wr (wr.alloc (.cells #[.int .u8 x.c,.int .i64 x.by_,.int .i64 x.no,.int .i64 x.k,.int .i64 x.inn,.int .i64 x.out,.int .i64 x.gone] 127))):=za2 _ _
   refine(HF.out.step x _ (HF.out.keep w _ HK.out (HJ.out.below.trans (HA.out.mono hsz)))).mono ?_
   rintro e w2 ⟨rfl,hb⟩
   have HB:=hid (bla HA.out hb)
   have HJ2:Hid _:=HJ.out.after hsz HB.out
   obtain⟨hc,_⟩:=zdp hb
   have c0:w2.cell? ⟨wr.heap.size,0,none⟩=some (.int .u8 x.c):=by rw[hc _ _ (by simp)];simp[go_sem]
   have c1:w2.cell? ⟨wr.heap.size,1,none⟩=some (.int .i64 x.by_):=by rw[hc _ _ (by simp)];simp[go_sem]
   have c2:w2.cell? ⟨wr.heap.size,2,none⟩=some (.int .i64 x.no):=by rw[hc _ _ (by simp)];simp[go_sem]
   have c3:w2.cell? ⟨wr.heap.size,3,none⟩=some (.int .i64 x.k):=by rw[hc _ _ (by simp)];simp[go_sem]
   have c4:w2.cell? ⟨wr.heap.size,4,none⟩=some (.int .i64 x.inn):=by rw[hc _ _ (by simp)];simp[go_sem]
   have c5:w2.cell? ⟨wr.heap.size,5,none⟩=some (.int .i64 x.out):=by rw[hc _ _ (by simp)];simp[go_sem]
   have c6:w2.cell? ⟨wr.heap.size,6,none⟩=some (.int .i64 x.gone):=by rw[hc _ _ (by simp)];simp[go_sem]
   clear hc hb HA HB HJ h0 h1 h2 h3 h4 h5 h6 hcall
   cases hp:p x
   ·have HN2:Hid _:=HJ2.out.keep HN.out hjl (by rw[<-HX.out];exact hp) x HX.out.symm
    have hin:(i:Int)<(n:Int):=by omega
    have hLn:L.length=n:=by rw[HJ2.out.len,HN.out]
    obtain⟨⟨u0,e0⟩,f0⟩:=zeq HJ2.out.own hLn (j:=i*7) (by omega)
    obtain⟨⟨u1,e1⟩,f1⟩:=zeq HJ2.out.own hLn (j:=i*7+1) (by omega)
    obtain⟨⟨u2,e2⟩,f2⟩:=zeq HJ2.out.own hLn (j:=i*7+2) (by omega)
    obtain⟨⟨u3,e3⟩,f3⟩:=zeq HJ2.out.own hLn (j:=i*7+3) (by omega)
    obtain⟨⟨u4,e4⟩,f4⟩:=zeq HJ2.out.own hLn (j:=i*7+4) (by omega)
    obtain⟨⟨u5,e5⟩,f5⟩:=zeq HJ2.out.own hLn (j:=i*7+5) (by omega)
    obtain⟨⟨u6,e6⟩,f6⟩:=zeq HJ2.out.own hLn (j:=i*7+6) (by omega)
    obtain⟨xc,xb,xn,xk,xi,xo,xg⟩:=x
    simp only at c0 c1 c2 c3 c4 c5 c6 HN2
    clear hLn HX HJ2
    go_wp2
    go_roundw
    case rel=>exact⟨i+1,j+1,_,by omega,by go_num,by go_num,HN2⟩
    case measure=>simp[intOf];omega
   have HN2:Hid _:=HJ2.out.skip hjl (by rw[<-HX.out];exact hp)
   clear c0 c1 c2 c3 c4 c5 c6 HX HJ2
   go_wp2
   go_roundw
   case rel=>exact⟨i,j+1,L,by omega,rfl,by go_num,HN2⟩
   case measure=>simp[intOf];omega
  obtain rfl:j=n:=by omega
  have HE:Hid _:=HJ.out.fin HN.out (Builtin.zeroCells zff.cells (j-i)).toList
  have hcl:=zs5 HJ.out.own (by rw[HJ.out.len,HN.out]) hij
  have hcap:j<=cap:=by
   obtain⟨a',c',e',hc'⟩:=HJ.out.own.lst.len
   rw[HJ.out.len,HN.out]at e' hc'
   simp only[Value.slice.injEq]at e'
   omega
  have hne:¬cap=i:=by omega
  clear HJ hcall
  go_wp2
  go_ret
  exact⟨_,rfl,HE.out⟩
 have HI:Hid _:=hI
 have HE:Hid (l=l.filter fun x=> !p x):=del_none (by rw[HN.out];exact hno)
 clear H1 hno hI hcall
 go_wp2
 go_ret
 exact⟨_,rfl,by rw[<-HE.out];exact HO.out.below HI.out,HI.out.mono hs⟩
theorem callOf1:∀args w,Sem.run Tryz.prog (callFunc 197 args) w= .ok (.enter 197 args) w:=fun _ _=>by kernel_rfl
theorem qel(least:Int)(B base:Nat)(hB:B<base):zyb 197 #[.pointer (some ⟨B,0,none⟩)] (ze4 least) base (NBox least B):=
 ⟨callOf1,fun x w h=>of1_any x least B w h.at_,fun _ _ h hb=>h.low hB hb⟩
theorem of_lst(least:Int)(h:Lst w v l)(hl:l.length<=1000):
 Calls Tryz.prog 169 #[v,.int .i64 least] w fun e w'=>∃v',e= .returned v'/\Own w' w.heap.size v' (ofL least l)/\Below w.heap.size w w':=by
 have HL:Hid (Lst (w.alloc (.cells #[.int .i64 least] 3)) v l):=h.below (za2 _ _)
 have HB:Hid (Below w.heap.size w (w.alloc (.cells #[.int .i64 least] 3))):=za2 _ _
 have HN:Hid (NBox least w.heap.size (w.alloc (.cells #[.int .i64 least] 3))):=⟨by simp,by simp[go_sem]⟩
 have hmf:∀(fn:Fn) (first cap:Array Value) (w:World),(Instr.makeFunc fn first cap).run Tryz.prog w= .ok (.func fn first cap) w:=fun _ _ _ _=>rfl
 clear h
 go_enter Tryz.func169,Tryz.ntmps169
 go_wp2_with fail
 refine(zhw HL.out (by omega)).mono ?_
 rintro e w1 ⟨v1,rfl,ho,hb⟩
 have HO:Hid _:=ho
 have HN1:=hid (HN.out.low HN.out.lt hb)
 have HB1:Hid (Below (w.heap.size+1) (w.alloc (.cells #[.int .i64 least] 3)) w1):=(show Below (w.heap.size+1) _ w1 by simpa using hb)
 have hs:=hb.size
 clear ho hb HN HL
 go_wp2_with fail
 refine(zka (qel least w.heap.size _ (by simp)) HO.out hs hl HN1.out).mono ?_
 rintro e w2 ⟨v2,rfl,ho,hb⟩
 have HO2:Hid (Own w2 w.heap.size v2 (ofL least l)):=ho.mono (by simp)
 have HB2:Hid (Below w.heap.size w w2):=(HB.out.trans (HB1.out.mono (by simp))).trans (hb.mono (by simp))
 clear ho hb hs HO HN1 HB HB1
 go_wp2
 go_ret
 exact⟨_,rfl,HO2.out,HB2.out⟩
variable {p:Ch->Bool} {l:List Ch} {base:Nat} {w:World} {ov:Value} {tvs:List Value} {es:List Dd} {ts:List (List Ch)}
theorem any_hit{k:Nat}(hk:k<l.length)(h:hitP p l k=true):l.any p=true:=by
 rw[zmg hk]at h
 exact List.any_eq_true.2 ⟨l[k],List.getElem_mem hk,h⟩
theorem any_none(h:∀j,j<l.length->hitP p l j=false):l.any p=false:=by
 rw[List.any_eq_false]
 intro x hx
 obtain⟨j,hj,rfl⟩:=List.mem_iff_getElem.1 hx
 have:=h j hj
 rw[zmg hj]at this
 rw[this];simp
theorem zn8{F:Nat}{caps:Array Value}{K:World->Prop}(hF:zyb F caps p base K){w:World}{v:Value}{l:List Ch}(h:Lst w v l)(hs:base<=w.heap.size)(hl:l.length<=1000)(hK:K w):
 Calls Tryz.prog 158 #[v,.func (Fn.func F) #[] caps] w fun e w'=>e= .returned (.bool (l.any p))/\Below w.heap.size w w':=by
 have HF:=hid hF
 have HK:=hid hK
 have hcall:=hF.call
 obtain⟨a,cap,rfl,_⟩:=h.len
 by_cases h0:l.length=0
 ·obtain rfl:l=[]:=List.length_eq_zero_iff.1 h0
  clear hF hK h0 h
  go_enter Tryz.func158,Tryz.ntmps158
  go_wp2_with fail
  refine(zgs a cap _ w).mono ?_
  rintro e w1 ⟨rfl,hb⟩
  have HB:Hid _:=hb
  clear hb hcall
  go_wp2
  go_ret
  exact⟨rfl,HB.out⟩
 obtain⟨b,off,rfl,_,hr⟩:=h.row (by omega)
 have HR:=hid hr
 generalize hn:l.length=n at*
 have HN:=hid hn
 clear hF hK hr hn h
 go_enter Tryz.func158,Tryz.ntmps158
 go_wp2_with fail
 refine(zfe F caps b off n cap l _ _ w HN.out (by omega) hcall (zr1 HF.out hs HR.out HK.out) (Below.refl _ _)).mono ?_
 intro e w1 hres
 have H1:Hid _:=hres
 clear hres
 rcases H1.out with⟨k,hk,hno,hyes,rfl,hI⟩|⟨hno,rfl,hI⟩
 ·have HI:Hid _:=hI
  have HE:Hid (l.any p=true):=any_hit (by rw[HN.out];exact hk) hyes
  clear H1 hno hyes hI hcall
  go_wp2
  go_ret
  exact⟨zbf HE.out.symm,HI.out⟩
 have HI:Hid _:=hI
 have HE:Hid (l.any p=false):=any_none (by rw[HN.out];exact hno)
 clear H1 hno hI hcall
 go_wp2
 go_ret
 exact⟨zbf HE.out.symm,HI.out⟩
structure CBox(x:Ch)(B:Nat)(w:World):Prop where
 lt:B<w.heap.size
 at_:At w B 0 x
theorem CBox.low{w':World}{x:Ch}{B:Nat}(h:CBox x B w)(hB:B<base)(hb:Below base w w'):CBox x B w':=by
 refine⟨Nat.lt_of_lt_of_le h.lt hb.size,?_⟩
 have hx:=h.at_
 have hc:∀o,w'.cell? ⟨B,o,none⟩=w.cell? ⟨B,o,none⟩:=fun o=>hb.cell (p:=⟨B,o,none⟩) hB
 unfold At at hx⊢
 simp only[hc]
 exact hx
def zn2(x y:Ch):Bool:=decide (y.inn=x.inn)&&zk5 y x
theorem qd8(x y:Ch)(B:Nat)(w:World)(h:CBox x B w):
 Calls Tryz.prog 240 (#[chV y]++ #[.pointer (some ⟨B,0,none⟩)]) w fun e w'=>e= .returned (.bool (zn2 x y))/\Below w.heap.size w w':=by
 have hs:=h.lt
 have ha:∀o j v,w.cell? ⟨B,j,none⟩=some v->(w.alloc o).cell? ⟨B,j,none⟩=some v:=fun o j v hv=>by
  rw[World.cell?_alloc_past _ _ _ (show B<w.heap.size by omega)];exact hv
 obtain⟨a0,a1,a2,a3,a4,a5,a6⟩:=h.at_
 have c0:=fun o=>ha o _ _ a0
 have c1:=fun o=>ha o _ _ a1
 have c2:=fun o=>ha o _ _ a2
 have c3:=fun o=>ha o _ _ a3
 have c4:=fun o=>ha o _ _ a4
 have c5:=fun o=>ha o _ _ a5
 have c6:=fun o=>ha o _ _ a6
 simp only[Nat.zero_add]at c1 c2 c3 c4 c5 c6
 clear h ha a0 a1 a2 a3 a4 a5 a6
 cases he:(y.inn==x.inn)
 ·have HE:Hid (zn2 x y=false):=by
   show zn2 x y=false
   rw[zn2,decide_eq_false (by simpa using he)];rfl
  obtain⟨yc,yb,yn,yk,yi,yo,yg⟩:=y
  simp only at he
  go_enter Tryz.func240,Tryz.ntmps240
  go_wp2
  go_ret
  exact⟨zbf HE.out.symm,za2 _ _⟩
 have HE:Hid (zn2 x y=zk5 y x):=by
  show zn2 x y=_
  rw[zn2,decide_eq_true (by simpa using he)];rfl
 have HB:Hid (Below w.heap.size w (w.alloc (.cells #[.int .u8 y.c,.int .i64 y.by_,.int .i64 y.no,.int .i64 y.k,.int .i64 y.inn,.int .i64 y.out,.int .i64 y.gone] 127))):=za2 _ _
 obtain⟨yc,yb,yn,yk,yi,yo,yg⟩:=y
 simp only at he
 go_enter Tryz.func240,Tryz.ntmps240
 go_wp2_with fail
 refine(zz6 ⟨yc,yb,yn,yk,yi,yo,yg⟩ x _).mono ?_
 rintro e w1 ⟨rfl,hb⟩
 have HB1:=hid (bla HB.out hb)
 clear hb HB c0 c1 c2 c3 c4 c5 c6
 go_wp2
 go_ret
 exact⟨zbf HE.out.symm,HB1.out⟩
theorem qgn:∀args w,Sem.run Tryz.prog (callFunc 240 args) w= .ok (.enter 240 args) w:=fun _ _=>by kernel_rfl
theorem zw6(x:Ch)(B base:Nat)(hB:B<base):zyb 240 #[.pointer (some ⟨B,0,none⟩)] (zn2 x) base (CBox x B):=
 ⟨qgn,fun y w h=>qd8 x y B w h,fun _ _ h hb=>h.low hB hb⟩
abbrev ooV(d:Dd)(tv:Value):Value:= .agg #[.int .i64 d.kind,.int .i64 d.by_,.int .i64 d.no,.int .i64 d.seen,.int .i64 d.at_,.int .i64 d.many,.string d.text,tv]
abbrev zm7(d:Dd)(tv:Value):Obj:= .cells #[.int .i64 d.kind,.int .i64 d.by_,.int .i64 d.no,.int .i64 d.seen,.int .i64 d.at_,.int .i64 d.many,.string d.text,tv] 180
abbrev zqd(x:Ch):Obj:= .cells #[.int .u8 x.c,.int .i64 x.by_,.int .i64 x.no,.int .i64 x.k,.int .i64 x.inn,.int .i64 x.out,.int .i64 x.gone] 127
theorem took_any{tv:Value}{t:List Ch}(h:Lst w tv t)(hl:t.length<=1000)(d:Dd)(x:Ch):
 Calls Tryz.prog 237 #[ooV d tv,chV x] w fun e w'=>e= .returned (.bool (zvy t x))/\Below w.heap.size w w':=by
 have HB:Hid (Below w.heap.size w ((w.alloc (zm7 d tv)).alloc (zqd x))):=below2 _ _ _
 have HL:=hid (h.below HB.out)
 have HC:Hid (CBox x (w.heap.size+1) ((w.alloc (zm7 d tv)).alloc (zqd x))):=by
  refine⟨by simp,?_,?_,?_,?_,?_,?_,?_⟩<;>simp[go_sem]
 have hmf:∀(fn:Fn) (first cap:Array Value) (w:World),(Instr.makeFunc fn first cap).run Tryz.prog w= .ok (.func fn first cap) w:=fun _ _ _ _=>rfl
 obtain⟨a,cap,rfl,_⟩:=h.len
 clear h
 go_enter Tryz.func237,Tryz.ntmps237
 go_wp2_with fail
 refine(zn8 (zw6 x (w.heap.size+1) (w.heap.size+2) (by omega)) HL.out (by simp) hl HC.out).mono ?_
 rintro e w1 ⟨rfl,hb⟩
 have HB1:=hid (bla HB.out hb)
 clear hb HB HL HC hmf
 go_wp2
 go_ret
 exact⟨rfl,HB1.out⟩
structure zqh(w:World)(base:Nat)(ov:Value)(tvs:List Value)(es:List Dd)(ts:List (List Ch)):Prop where
 own:znc w base ov (es.zip tvs)
 len:tvs.length=es.length
 tooks:zem w base tvs ts
theorem zqh.below{w w':World}{base:Nat}{ov:Value}{tvs:List Value}{es:List Dd}{ts:List (List Ch)}(h:zqh w base ov tvs es ts)(hb:Below w.heap.size w w'):zqh w' base ov tvs es ts:=
 ⟨h.own.below hb,h.len,h.tooks.of_block (fun v hv k e=>hb.block k (h.tooks.lt v hv k e).2)⟩
theorem zd3.topen{P:Nat}{S:Nat->Prop}{lv:Value}{me next seen sent:Int}(h:zd3 w base S P lv ov tvs l es ts me next seen sent):zqh w base ov tvs es ts:=⟨h.ownO,h.len,h.tooks⟩
theorem zkf(h:tvs.length=es.length):(es.zip tvs).length=es.length:=by
 rw[List.length_zip];omega
theorem zqh.nth{w:World}{base g n cap:Nat}{tvs:List Value}{es:List Dd}{ts:List (List Ch)}(h:zqh w base (.slice (some ⟨g,0,none⟩) n cap) tvs es ts)(hn:es.length=n){i:Nat}(hi:i<es.length)(hv:i<tvs.length):OoAt w g (i*8) es[i] tvs[i]:=by
 have hzl:=zkf h.len
 have:=znc.nth h.own (by rw[hzl,hn]) (i:=i) (by omega)
 rw[List.getElem_zip]at this
 exact this
theorem zqh.place{w:World}{base:Nat}{ov:Value}{tvs:List Value}{es:List Dd}{ts:List (List Ch)}(h:zqh w base ov tvs es ts)(hk:0<es.length):∃g cap,ov= .slice (some ⟨g,0,none⟩) es.length cap:=by
 have hzl:=zkf h.len
 obtain⟨g,cap,e⟩:=h.own.place (by omega)
 exact⟨g,cap,by rw[e,hzl]⟩
theorem zqh.form(h:zqh w base ov tvs es ts):∃a cap,ov= .slice a es.length cap:=by
 have hzl:=zkf h.len
 obtain⟨a,cap,e⟩:=h.own.len
 exact⟨a,cap,by rw[e,hzl]⟩
variable {w:World} {d:Dd} {base g n cap:Nat} {no:Int} {x:Ch} {l:List Ch}
def zhq{α:Type}(f:α->α)(k:Nat)(l:List α):List α:=(l.take k).map f++l.drop k
theorem zsk{α:Type}(f:α->α)(l:List α):zhq f l.length l=l.map f:=by rw[zhq,List.take_length,List.drop_length,List.append_nil]
theorem zsi{α:Type}(f:α->α)(k:Nat)(l:List α):(zhq f k l).length=l.length:=by
 rw[zhq,List.length_append,List.length_map,<-List.length_append,List.take_append_drop]
theorem zuo{α:Type}(f:α->α){k:Nat}{l:List α}(h:k<l.length):zhq f (k+1) l=(l.take k).map f++f l[k]::l.drop (k+1):=by
 rw[zhq,List.take_succ_eq_append_getElem h,List.map_append,List.append_assoc];rfl
theorem zwz{α:Type}(f:α->α){k:Nat}{l:List α}(h:k<l.length):zhq f k l=(l.take k).map f++l[k]::l.drop (k+1):=by
 rw[zhq,List.drop_eq_getElem_cons h]
theorem zsj{α:Type}(f:α->α){k:Nat}{l:List α}(h:k<l.length)(h':k<(zhq f k l).length):(zhq f k l)[k]=l[k]:=by
 have e:((l.take k).map f).length=k:=by rw[List.length_map,List.length_take];omega
 have h2:(zhq f k l)[k]? =some l[k]:=by
  rw[zwz f h,List.getElem?_append_right (by omega),e,Nat.sub_self];rfl
 rw[List.getElem?_eq_getElem h']at h2
 exact Option.some.inj h2
theorem zsh{α:Type}(f:α->α){k:Nat}{l:List α}(h:k<l.length):(zhq f k l).set k (f l[k])=zhq f (k+1) l:=by
 have e:((l.take k).map f).length=k:=by rw[List.length_map,List.length_take];omega
 rw[zwz f h,zuo f h,List.set_append_right (h:=by omega),e,Nat.sub_self,List.set_cons_zero]
theorem zle{α:Type}(f:α->α){k:Nat}{l:List α}(h:k<l.length)(hf:f l[k]=l[k]):zhq f (k+1) l=zhq f k l:=by
 rw[zwz f h,zuo f h,hf]
theorem zr7(x:Ch)(w:World):
 Calls Tryz.prog 159 #[chV x] w fun e w'=>e= .returned (.bool (decide (x.inn=za3)))/\Below w.heap.size w w':=by
 obtain⟨c,b,no,k,i,o,g⟩:=x
 go_enter Tryz.func159,Tryz.ntmps159
 go_wp2
 go_ret
 refine⟨zbf ?_,za2 _ _⟩
 rw[Bool.eq_iff_iff]
 simp
theorem qc5:∀args w,Sem.run Tryz.prog (callFunc 159 args) w= .ok (.enter 159 args) w:=fun _ _=>by kernel_rfl
theorem zuw(base:Nat):zyb 159 #[] (fun x=>decide (x.inn=za3)) base (fun _=>True):=
 ⟨qc5,fun x w _=>zr7 x w,fun _ _ _ _=>trivial⟩
theorem zdq.of_block'{w':World}{E:Nat}(h:zdq w E 0 d)(hs:E<w'.heap.size)(hb:w'.heap[E]? =w.heap[E]?):zdq w' E 0 d:=by
 have hc:∀o,w'.cell? ⟨E,o,none⟩=w.cell? ⟨E,o,none⟩:=fun o=>World.cell?_of_block (a:=⟨E,o,none⟩) hb
 obtain⟨_,c0,c1,c2,c3,c4,c5,c6⟩:=h
 exact⟨hs,by rw[hc];exact c0,by rw[hc];exact c1,by rw[hc];exact c2,by rw[hc];exact c3,by rw[hc];exact c4,by rw[hc];exact c5,by rw[hc];exact c6⟩
structure NI(w:World)(base g n cap:Nat)(L:List Ch)(d:Dd)(wk:World):Prop where
 kept:zam (fun k=>k=g) w wk
 own:Own wk base (.slice (some ⟨g,0,none⟩) n cap) L
 deed:zdq wk w.heap.size 0 d
 lt:g<w.heap.size
theorem NI.after{w wk w':World}{base g n cap:Nat}{L:List Ch}{d:Dd}(h:NI w base g n cap L d wk)(hb:Below wk.heap.size wk w'):NI w base g n cap L d w':=
 ⟨h.kept.after hb,h.own.below hb,h.deed.below hb,h.lt⟩
theorem NI.put{wk:World}{L:List Ch}(h:NI w base g n cap L d wk)(hn:L.length=n){i r:Nat}(hi:i<L.length)(hr:r<7){y:Ch}{u:Value}(hy:(zcd L[i]).set r u=zcd y):NI w base g n cap (L.set i y) d (wk.setCell ⟨g,i*7+r,none⟩ u):=by
 refine⟨h.kept.set (p:=⟨g,_,none⟩) rfl _,zuf h.own hn hi hr hy,h.deed.of_block' (by simpa [World.setCell]using h.deed.lt) (Below.heap_setCell _ _ _ _ (by have:=h.lt;show w.heap.size≠g;omega)),h.lt⟩
theorem num_yes{n:Int}(h:x.inn=za3)(h2:x.no=no):zef no n x=⟨x.c,x.by_,x.no,x.k,n,x.out,x.gone⟩:=by rw[zef,if_pos ⟨h,h2⟩]
theorem num_no{n:Int}(h:¬(x.inn=za3/\x.no=no)):zef no n x=x:=by rw[zef,if_neg h]
theorem zuj(a:Option Addr)(cap:Nat)(d:Dd)(n:Int)(w:World):
 Calls Tryz.prog 236 #[.slice a 0 cap,ddV d,.int .i64 n] w fun e w'=>e= .returned (.tuple #[])/\Below w.heap.size w w':=by
 go_enter Tryz.func236,Tryz.ntmps236
 go_wp2
 refine wp_loop_rounds 1 ?_
 rw[rounds_succ]
 go_wp2
 go_end0
 exact⟨rfl,za2 _ _⟩
theorem zww(h:Own w base (.slice (some ⟨g,0,none⟩) n cap) l)(hn:l.length=n)(hl:n<=1000)(d:Dd)(m:Int):
 Calls Tryz.prog 236 #[.slice (some ⟨g,0,none⟩) n cap,ddV d,.int .i64 m] w fun e w'=>e= .returned (.tuple #[])/\Own w' base (.slice (some ⟨g,0,none⟩) n cap) (l.map (zef d.no m))/\zam (fun k=>k=g) w w':=by
 have hglt:g<w.heap.size:=(World.ownsRow.lt h g rfl).2
 have HI:Hid (NI w base g n cap (zhq (zef d.no m) 0 l) d (w.alloc (zd9 d))):=⟨.of_below (za2 _ _),h.below (za2 _ _),zb4 w d,hglt⟩
 have HN:=hid hn
 obtain⟨kind,by_,no,seen,at_,many,text⟩:=d
 simp only at HI
 clear h hn
 go_enter Tryz.func236,Tryz.ntmps236
 go_wp2
 go_loopw [10] (fun i wr=>∃k:Nat,k<=n/\i= .int .i64 k/\Hid (NI w base g n cap (zhq (zef no m) k l) ⟨kind,by_,no,seen,at_,many,text⟩ wr)) (fun i _=>n-(intOf i).toNat)
 case atStart=>exact⟨0,Nat.zero_le _,rfl,HI⟩
 obtain⟨k,hk,rfl,HK⟩:=hrel
 clear HI
 by_cases hlt:k<n
 ·have hkl:k<l.length:=by rw[HN.out];exact hlt
  have hml:(zhq (zef no m) k l).length=n:=by rw[zsi,HN.out]
  have hkm:k<(zhq (zef no m) k l).length:=by rw[hml];exact hlt
  have hget:=zsj (zef no m) hkl hkm
  obtain⟨b',o',e',_,r'⟩:=HK.out.own.lst.row (by omega)
  cases e'
  obtain⟨h0,h1,h2,h3,h4,h5,h6⟩:=r'.at_ k hkm
  simp only[Nat.zero_add]at h0 h1 h2 h3 h4 h5 h6
  rw[hget]at h0 h1 h2 h3 h4 h5 h6
  obtain⟨x,hx⟩:∃x,x=l[k]:=⟨_,rfl⟩
  rw[<-hx]at h0 h1 h2 h3 h4 h5 h6
  have HX:=hid hx
  have HG:=hid hget
  clear r' hx hget
  have HA:Hid (Below wr.heap.size wr (wr.alloc (zqd x))):=za2 _ _
  obtain⟨xc,xb,xn,xk,xi,xo,xg⟩:=x
  simp only at h0 h1 h2 h3 h4 h5 h6
  go_wp2_with fail
  refine(zr7 ⟨xc,xb,xn,xk,xi,xo,xg⟩ _).mono ?_
  rintro e w1 ⟨rfl,hb⟩
  have HK1:Hid _:=HK.out.after (bla HA.out hb)
  have hC:wr.heap.size<w1.heap.size:=by have:=hb.size;simp at this;omega
  obtain⟨hc,_⟩:=zdp hb
  have c2:w1.cell? ⟨wr.heap.size,2,none⟩=some (.int .i64 xn):=by rw[hc _ _ (by simp)];simp[go_sem]
  obtain⟨_,_,_,d2,_,_,_,_⟩:=HK1.out.deed
  simp only[Nat.zero_add]at d2
  obtain⟨⟨u4,e4⟩,f4⟩:=zeq HK1.out.own hml (j:=k*7+4) (by omega)
  clear hc hb HA HK h0 h1 h2 h3 h4 h5 h6
  by_cases ho:xi=za3
  ·have ho':decide (xi=za3)=true:=decide_eq_true ho
   by_cases hno:xn=no
   ·have hno':(xn==no)=true:=by simp[hno]
    have HN2:Hid (NI w base g n cap (zhq (zef no m) (k+1) l) ⟨kind,by_,no,seen,at_,many,text⟩ (w1.setCell ⟨g,k*7+4,none⟩ (.int .i64 m))):=by
     have:=HK1.out.put hml (i:=k) (r:=4) (y:=zef no m l[k]) (u:= .int .i64 m) (by rw[hml];exact hlt) (by omega) (by rw[HG.out,<-HX.out,num_yes ho hno];rfl)
     rw[zsh _ hkl]at this
     exact this
    clear ho hno HK1 HG HX
    rw[ho']
    go_wp2
    go_roundw
    case rel=>exact⟨k+1,by omega,by go_num,HN2⟩
    case measure=>simp[intOf];omega
   have hno':(xn==no)=false:=by simp[hno]
   have HN2:Hid (NI w base g n cap (zhq (zef no m) (k+1) l) ⟨kind,by_,no,seen,at_,many,text⟩ w1):=by
    rw[zle _ hkl (by rw[<-HX.out];exact num_no (fun e=>hno e.2))]
    exact HK1
   clear ho hno HK1 HG HX
   rw[ho']
   go_wp2
   go_roundw
   case rel=>exact⟨k+1,by omega,by go_num,HN2⟩
   case measure=>simp[intOf];omega
  have ho':decide (xi=za3)=false:=decide_eq_false ho
  have HN2:Hid (NI w base g n cap (zhq (zef no m) (k+1) l) ⟨kind,by_,no,seen,at_,many,text⟩ w1):=by
   rw[zle _ hkl (by rw[<-HX.out];exact num_no (fun e=>ho e.1))]
   exact HK1
  clear ho HK1 HG HX
  rw[ho']
  go_wp2
  go_roundw
  case rel=>exact⟨k+1,by omega,by go_num,HN2⟩
  case measure=>simp[intOf];omega
 obtain rfl:k=n:=by omega
 have HE:Hid (zhq (zef no m) k l=l.map (zef no m)):=by show _=_;rw[<-HN.out,zsk]
 go_wp2
 go_end0
 exact⟨rfl,by rw[<-HE.out];exact HK.out.own,HK.out.kept⟩
theorem zqy{v:Value}(h:Own w base v l)(hl:l.length<=1000)(d:Dd)(m:Int):
 Calls Tryz.prog 236 #[v,ddV d,.int .i64 m] w fun e w'=>e= .returned (.tuple #[])/\Own w' base v (l.map (zef d.no m))/\zam (fun k=>v.ownBlock=some k) w w':=by
 by_cases h0:l.length=0
 ·obtain rfl:l=[]:=List.length_eq_zero_iff.1 h0
  obtain⟨a,cap,rfl,_⟩:=h.lst.len
  refine(zuj a cap d m w).mono ?_
  rintro e w1 ⟨rfl,hb⟩
  exact⟨rfl,h.below hb,.of_below hb⟩
 obtain⟨g,cap,rfl⟩:=zoz h (by omega)
 refine(zww h rfl hl d m).mono ?_
 rintro e w1 ⟨rfl,ho,hk⟩
 exact⟨rfl,ho,⟨hk.os,hk.tape,hk.output,hk.size,fun k hk' hn=>hk.block k hk' (fun e=>hn (by rw[e];rfl))⟩⟩
variable {w w' wk:World} {d:Dd} {tv lv ov:Value} {base g n cap P:Nat} {t l l':List Ch} {x:Ch} {me next seen sent:Int} {S:Nat->Prop} {tvs:List Value} {es:List Dd} {ts:List (List Ch)}
structure GI(w:World)(base g n cap:Nat)(L:List Ch)(d:Dd)(tv:Value)(wk:World):Prop where
 kept:zam (fun k=>k=g) w wk
 own:Own wk base (.slice (some ⟨g,0,none⟩) n cap) L
 box:OoAt wk w.heap.size 0 d tv
 lt:g<w.heap.size
theorem OoAt.of_block{E:Nat}(h:OoAt w E 0 d tv)(hs:E<w'.heap.size)(hb:w'.heap[E]? =w.heap[E]?):OoAt w' E 0 d tv:=
 ⟨h.deed.of_block' hs hb,by rw[World.cell?_of_block (a:=⟨E,0+7,none⟩) hb];exact h.took⟩
theorem GI.after{w wk w':World}{base g n cap:Nat}{L:List Ch}{d:Dd}{tv:Value}(h:GI w base g n cap L d tv wk)(hb:Below wk.heap.size wk w'):GI w base g n cap L d tv w':=
 ⟨h.kept.after hb,h.own.below hb,h.box.of_block (Nat.lt_of_lt_of_le h.box.deed.lt hb.size) (hb.block _ h.box.deed.lt),h.lt⟩
theorem GI.put{L:List Ch}(h:GI w base g n cap L d tv wk)(hn:L.length=n){i r:Nat}(hi:i<L.length)(hr:r<7){y:Ch}{u:Value}(hy:(zcd L[i]).set r u=zcd y):GI w base g n cap (L.set i y) d tv (wk.setCell ⟨g,i*7+r,none⟩ u):=
 ⟨h.kept.set (p:=⟨g,_,none⟩) rfl _,zuf h.own hn hi hr hy,h.box.of_block (by simpa [World.setCell]using h.box.deed.lt) (Below.heap_setCell _ _ _ _ (by have:=h.lt;show w.heap.size≠g;omega)),h.lt⟩
theorem out_yes{n:Int}(h:x.out=0)(h2:zvy t x=true):zkm t n x=⟨x.c,x.by_,x.no,x.k,x.inn,n,x.gone⟩:=by rw[zkm,if_pos ⟨h,h2⟩]
theorem out_no{n:Int}(h:¬(x.out=0/\zvy t x=true)):zkm t n x=x:=by rw[zkm,if_neg h]
theorem zp5(h:PwC w P lv ov me next seen sent)(hk:zam (fun k=>k=g) w wk)(hP:P≠g):PwC wk P lv ov me next seen sent:=h.kept hk.size (hk.block P h.lt hP)
theorem zv3(hc:PwC w P (.slice (some ⟨g,0,none⟩) n cap) ov me next seen sent)(h:Own w base (.slice (some ⟨g,0,none⟩) n cap) l)(ht:Own w base tv t)(hP:P≠g)(htg:tv.ownBlock≠some g)(hn:l.length=n)(hl:n<=1000)(htl:t.length<=1000)(d:Dd):
 Calls Tryz.prog 225 #[.pointer (some ⟨P,0,none⟩),ooV d tv] w fun e w'=>e= .returned (.tuple #[])/\Own w' base (.slice (some ⟨g,0,none⟩) n cap) (l.map (zkm t seen))/\zam (fun k=>k=g) w w':=by
 have hglt:g<w.heap.size:=(World.ownsRow.lt h g rfl).2
 have HC:=hid hc
 have HT:Hid (∀wk,zam (fun k=>k=g) w wk->Lst wk tv t):=fun wk hk=>(show Own wk base tv t from za5 ht (fun k e=>hk.block k (World.ownsRow.lt ht k e).2 (fun e'=>htg (by rw[e,e'])))).lst
 have HI:Hid (GI w base g n cap (zhq (zkm t seen) 0 l) d tv (w.alloc (zm7 d tv))):=by
  refine⟨.of_below (za2 _ _),h.below (za2 _ _),⟨⟨by simp,?_,?_,?_,?_,?_,?_,?_⟩,?_⟩,hglt⟩<;>simp[go_sem]
 have HN:=hid hn
 have c3:=hc.list
 have c2:=hc.seen
 have hPlt:=hc.lt
 obtain⟨ta,tcap,rfl,_⟩:=ht.lst.len
 have HTLL:Hid (∀t',t'=t->t'.length<=1000):=fun _ e=>by rw[e];exact htl
 clear htl
 generalize t.length=tn at*
 obtain⟨kind,by_,no,dseen,at_,many,text⟩:=d
 clear h hn hc ht htg
 go_enter Tryz.func225,Tryz.ntmps225
 go_wp2
 clear c2 c3
 go_loopw [11] (fun i wr=>∃k:Nat,k<=n/\i= .int .i64 k/\Hid (GI w base g n cap (zhq (zkm t seen) k l) ⟨kind,by_,no,dseen,at_,many,text⟩ (.slice ta tn tcap) wr)) (fun i _=>n-(intOf i).toNat)
 case atStart=>exact⟨0,Nat.zero_le _,rfl,HI⟩
 obtain⟨k,hk,rfl,HK⟩:=hrel
 clear HI
 by_cases hlt:k<n
 ·have hkl:k<l.length:=by rw[HN.out];exact hlt
  have hml:(zhq (zkm t seen) k l).length=n:=by rw[zsi,HN.out]
  have hkm:k<(zhq (zkm t seen) k l).length:=by rw[hml];exact hlt
  have hget:=zsj (zkm t seen) hkl hkm
  obtain⟨b',o',e',_,r'⟩:=HK.out.own.lst.row (by omega)
  cases e'
  obtain⟨h0,h1,h2,h3,h4,h5,h6⟩:=r'.at_ k hkm
  simp only[Nat.zero_add]at h0 h1 h2 h3 h4 h5 h6
  rw[hget]at h0 h1 h2 h3 h4 h5 h6
  obtain⟨x,hx⟩:∃x,x=l[k]:=⟨_,rfl⟩
  rw[<-hx]at h0 h1 h2 h3 h4 h5 h6
  have HX:=hid hx
  have HG:=hid hget
  have HA:Hid (Below wr.heap.size wr (wr.alloc (zqd x))):=za2 _ _
  obtain⟨⟨hbx,d0,d1,d2,d3,d4,d5,d6⟩,d7⟩:=HK.out.box
  simp only[Nat.zero_add]at d0 d1 d2 d3 d4 d5 d6 d7
  clear r' hx hget
  obtain⟨xc,xb,xn,xk,xi,xo,xg⟩:=x
  simp only at h0 h1 h2 h3 h4 h5 h6
  by_cases ho:xo=0
  ·have ho':(xo==0)=true:=by simp[ho]
   have HO0:=hid ho
   clear ho
   go_wp2_with fail
   refine(took_any (HT.out _ (HK.out.kept.after HA.out)) (HTLL.out _ rfl) ⟨kind,by_,no,dseen,at_,many,text⟩ ⟨xc,xb,xn,xk,xi,xo,xg⟩).mono ?_
   rintro e w1 ⟨rfl,hb⟩
   have HK1:=hid (HK.out.after (bla HA.out hb))
   clear hb HA HK h0 h1 h2 h3 h4 h5 h6 d0 d1 d2 d3 d4 d5 d6 d7 hbx
   cases hh:zvy t ⟨xc,xb,xn,xk,xi,xo,xg⟩
   ·have HN2:Hid (GI w base g n cap (zhq (zkm t seen) (k+1) l) ⟨kind,by_,no,dseen,at_,many,text⟩ (.slice ta tn tcap) w1):=by
     rw[zle _ hkl (by rw[<-HX.out];exact out_no (fun e=>by rw[hh]at e;exact Bool.noConfusion e.2))]
     exact HK1
    clear HK1 HG HX hh HO0
    go_wp2
    go_roundw
    case rel=>exact⟨k+1,by omega,by go_num,HN2⟩
    case measure=>simp[intOf];omega
   have HN2:Hid (∀wk,GI w base g n cap (zhq (zkm t seen) k l) ⟨kind,by_,no,dseen,at_,many,text⟩ (.slice ta tn tcap) wk->GI w base g n cap (zhq (zkm t seen) (k+1) l) ⟨kind,by_,no,dseen,at_,many,text⟩ (.slice ta tn tcap) (wk.setCell ⟨g,k*7+5,none⟩ (.int .i64 seen))):=fun wk hwk=>by
    have:=hwk.put hml (i:=k) (r:=5) (y:=zkm t seen l[k]) (u:= .int .i64 seen) (by rw[hml];exact hlt) (by omega) (by rw[HG.out,<-HX.out,out_yes HO0.out hh];rfl)
    rw[zsh _ hkl]at this
    exact this
   have HCE:Hid (∀wk,GI w base g n cap (zhq (zkm t seen) k l) ⟨kind,by_,no,dseen,at_,many,text⟩ (.slice ta tn tcap) wk->(∃u,wk.cell? ⟨g,k*7+5,none⟩=some u)/\wk.frozen? ⟨g,k*7+5,none⟩=false):=fun wk hwk=>zeq hwk.own hml (j:=k*7+5) (by omega)
   clear HG HX hh HO0
   go_wp2
   refine wrs (fun wk=>zam (fun k=>k=g) w wk) (fun i=>i==11) (fun wk=>GI w base g n cap (zhq (zkm t seen) k l) ⟨kind,by_,no,dseen,at_,many,text⟩ (.slice ta tn tcap) wk) (by kernel_rfl) (by kernel_rfl) (by kernel_rfl) (fun _ h=>h.kept) (HK1.out.after (Below.refl _ _).drew) ?_
   iterate 3 (refine wss rfl (fun K hK=> ?_);go_simp;refine⟨_,fun _ _=>rfl,hK _ ?_⟩;clear hK K)
   refine wss rfl (fun K hK=> ?_)
   go_simp
   refine⟨.slice (some ⟨g,0,none⟩) n cap,fun wk hwk=> ?_,hK _ ?_⟩
   ·have c:=(zp5 HC.out hwk hP).list
    go_simp
   iterate 4 (clear hK K;refine wss rfl (fun K hK=> ?_);go_simp;refine⟨_,fun _ _=>rfl,hK _ ?_⟩)
   clear hK K
   refine wss rfl (fun K hK=> ?_)
   go_simp
   refine⟨.int .i64 seen,fun wk hwk=> ?_,hK _ ?_⟩
   ·have c:=(zp5 HC.out hwk hP).seen
    go_simp
   iterate 2 (clear hK K;refine wss rfl (fun K hK=> ?_);go_simp;refine⟨_,fun _ _=>rfl,hK _ ?_⟩)
   clear hK K
   refine wsp rfl rfl (fun u=>u= .tuple #[]) (fun u wk=>GI w base g n cap (zhq (zkm t seen) (k+1) l) ⟨kind,by_,no,dseen,at_,many,text⟩ (.slice ta tn tcap) wk) ⟨_,rfl⟩ (fun _ _ h=>h.kept) (fun wk hwk=> ?_) (fun v11 hv11=> ?_)
   ·obtain⟨⟨u5,q5⟩,f5⟩:=HCE.out wk hwk
    have hN:=HN2.out wk hwk
    go_simp
    exact⟨rfl,hN⟩
   refine wsn (fun w9 hw9=> ?_)
   have H9:Hid _:=hw9
   clear hw9
   go_wp2
   go_roundw
   case rel=>exact⟨k+1,by omega,by go_num,H9⟩
   case measure=>simp[intOf];omega
  have ho':(xo==0)=false:=by simp[ho]
  have HN2:Hid (GI w base g n cap (zhq (zkm t seen) (k+1) l) ⟨kind,by_,no,dseen,at_,many,text⟩ (.slice ta tn tcap) (wr.alloc (zqd ⟨xc,xb,xn,xk,xi,xo,xg⟩))):=by
   rw[zle _ hkl (by rw[<-HX.out];exact out_no (fun e=>ho e.1))]
   exact HK.out.after HA.out
  clear HK HG HX ho HA
  go_wp2
  go_roundw
  case rel=>exact⟨k+1,by omega,by go_num,HN2⟩
  case measure=>simp[intOf];omega
 obtain rfl:k=n:=by omega
 have HE:Hid (zhq (zkm t seen) k l=l.map (zkm t seen)):=by show _=_;rw[<-HN.out,zsk]
 go_wp2
 go_end0
 exact⟨rfl,by rw[<-HE.out];exact HK.out.own,HK.out.kept⟩
theorem zsv{a:Option Addr}(hc:PwC w P (.slice a 0 cap) ov me next seen sent)(hv:∃ta tn tc,tv= .slice ta tn tc)(d:Dd):
 Calls Tryz.prog 225 #[.pointer (some ⟨P,0,none⟩),ooV d tv] w fun e w'=>e= .returned (.tuple #[])/\Below w.heap.size w w':=by
 obtain⟨ta,tn,tc,rfl⟩:=hv
 have c3:=hc.list
 have hPlt:=hc.lt
 clear hc
 go_enter Tryz.func225,Tryz.ntmps225
 go_wp2
 refine wp_loop_rounds 1 ?_
 rw[rounds_succ]
 go_wp2
 go_end0
 exact⟨rfl,za2 _ _⟩
theorem zd3.newList(h:zd3 w base S P lv ov tvs l es ts me next seen sent)(ho:Own w' base lv l')(hk:zam (fun k=>lv.ownBlock=some k) w w'):zd3 w' base S P lv ov tvs l' es ts me next seen sent:=by
 have hb:∀k,S k->lv.ownBlock≠some k->w'.heap[k]? =w.heap[k]? :=fun k hs hn=>hk.block k (h.lo k hs).2 hn
 exact⟨fun k hs=>⟨(h.lo k hs).1,Nat.lt_of_lt_of_le (h.lo k hs).2 hk.size⟩,h.hP,h.cells.kept hk.size (hb P h.hP (fun e=>(h.lB P e).2 rfl)),ho,za5 h.ownO (fun k e=>hb k (h.oB k e).1 (h.oB k e).2.2),h.len,h.tooks.of_block (fun v hv k e=>hb k (h.tB v hv k e).1 (h.tB v hv k e).2.2.1),h.lB,h.oB,h.tB,h.tD⟩
theorem zem.set{w w':World}{base:Nat}:∀{vs:List Value} {ts:List (List Ch)} (i:Nat) (hi:i<vs.length) (t':List Ch),zem w base vs ts->vs.Pairwise (fun a b=>∀k,a.ownBlock=some k->b.ownBlock≠some k)->Own w' base vs[i] t'->(∀v∈vs,∀k,v.ownBlock=some k->vs[i].ownBlock≠some k->w'.heap[k]? =w.heap[k]?)->zem w' base vs (ts.set i t')
 |[],[],_,hi,_,_,_,_,_=>absurd hi (Nat.not_lt_zero _)
 |v::vs,t::ts,0,_,t',h,hd,ho,hb=>by
  refine⟨ho,zem.of_block h.2 (fun u hu k e=>hb u (by simp[hu]) k e (fun e'=> ?_))⟩
  exact(List.pairwise_cons.1 hd).1 u hu k e' e
 |v::vs,t::ts,i+1,hi,t',h,hd,ho,hb=>by
  have hi':i<vs.length:=by simpa using hi
  have ho':Own w' base vs[i] t':=ho
  refine⟨za5 h.1 (fun k e=>hb v (by simp) k e (fun e'=> ?_)),zem.set i hi' t' h.2 (List.pairwise_cons.1 hd).2 ho' (fun u hu k e hn=>hb u (by simp[hu]) k e hn)⟩
  exact(List.pairwise_cons.1 hd).1 vs[i] (List.getElem_mem hi') k e e'
 |[],_::_,_,_,_,h,_,_,_=>h.elim
 |_::_,[],_,_,_,h,_,_,_=>h.elim
theorem zd3.newTook(h:zd3 w base S P lv ov tvs l es ts me next seen sent)(i:Nat)(hi:i<tvs.length)(t':List Ch)(ho:Own w' base tvs[i] t')(hk:zam (fun k=>tvs[i].ownBlock=some k) w w'):zd3 w' base S P lv ov tvs l es (ts.set i t') me next seen sent:=by
 have hm:tvs[i]∈tvs:=List.getElem_mem hi
 have hb:∀k,S k->tvs[i].ownBlock≠some k->w'.heap[k]? =w.heap[k]? :=fun k hs hn=>hk.block k (h.lo k hs).2 hn
 refine⟨fun k hs=>⟨(h.lo k hs).1,Nat.lt_of_lt_of_le (h.lo k hs).2 hk.size⟩,h.hP,h.cells.kept hk.size (hb P h.hP (fun e=>(h.tB _ hm P e).2.1 rfl)),za5 h.ownL (fun k e=>hb k (h.lB k e).1 (fun e'=>(h.tB _ hm k e').2.2.1 e)),za5 h.ownO (fun k e=>hb k (h.oB k e).1 (fun e'=>(h.tB _ hm k e').2.2.2 e)),h.len,h.tooks.set i hi t' h.tD ho (fun v hv k e hn=>hb k (h.tB v hv k e).1 hn),h.lB,h.oB,h.tB,h.tD⟩
def zrl(lv:Value)(tvs:List Value)(k:Nat):Prop:=lv.ownBlock=some k\/∃u∈tvs,u.ownBlock=some k
structure CI(w:World)(base P:Nat)(S:Nat->Prop)(lv ov:Value)(tvs:List Value)(l:List Ch)(es:List Dd)(ts:List (List Ch))(me next seen sent:Int)(d:Dd)(wk:World):Prop where
 at_:zd3 wk base S P lv ov tvs l es ts me next seen sent
 kept:zam (zrl lv tvs) w wk
 deed:zdq wk w.heap.size 0 d
theorem CI.after{w wk w':World}{base P:Nat}{S:Nat->Prop}{lv ov:Value}{tvs:List Value}{l:List Ch}{es:List Dd}{ts:List (List Ch)}{me next seen sent:Int}{d:Dd}(h:CI w base P S lv ov tvs l es ts me next seen sent d wk)(hb:Below wk.heap.size wk w'):CI w base P S lv ov tvs l es ts me next seen sent d w':=⟨h.at_.below hb,h.kept.after hb,h.deed.below hb⟩
theorem zjv{T:Nat->Prop}(h:zam S w w')(hs:∀k,S k->T k):zam T w w':=⟨h.os,h.tape,h.output,h.size,fun k hk hn=>h.block k hk (fun e=>hn (hs k e))⟩
theorem CI.list(h:CI w base P S lv ov tvs l es ts me next seen sent d wk)(hlo:∀k,S k->k<w.heap.size)(ho:Own w' base lv l')(hk:zam (fun k=>lv.ownBlock=some k) wk w'):CI w base P S lv ov tvs l' es ts me next seen sent d w':=
 ⟨h.at_.newList ho hk,h.kept.trans' (zjv hk (fun k e=> .inl e)),h.deed.of_block' (Nat.lt_of_lt_of_le h.deed.lt hk.size) (hk.block _ h.deed.lt (fun e=>by have:=hlo _ (h.at_.lB _ e).1;omega))⟩
theorem CI.took(h:CI w base P S lv ov tvs l es ts me next seen sent d wk)(hlo:∀k,S k->k<w.heap.size)(i:Nat)(hi:i<tvs.length)(t':List Ch)(ho:Own w' base tvs[i] t')(hk:zam (fun k=>tvs[i].ownBlock=some k) wk w'):CI w base P S lv ov tvs l es (ts.set i t') me next seen sent d w':=
 ⟨h.at_.newTook i hi t' ho hk,h.kept.trans' (zjv hk (fun k e=> .inr ⟨_,List.getElem_mem hi,e⟩)),h.deed.of_block' (Nat.lt_of_lt_of_le h.deed.lt hk.size) (hk.block _ h.deed.lt (fun e=>by have:=hlo _ (h.at_.tB _ (List.getElem_mem hi) _ e).1;omega))⟩
structure CU(P E:Nat)(lv ov:Value)(me next seen sent:Int)(d:Dd)(wk:World):Prop where
 cells:PwC wk P lv ov me next seen sent
 deed:zdq wk E 0 d
structure CU2(P E F:Nat)(lv ov tv:Value)(me next seen sent:Int)(d:Dd)(wk:World):Prop where
 cells:PwC wk P lv ov me next seen sent
 deed:zdq wk E 0 d
 took:wk.cell? ⟨F,7,none⟩=some tv
structure CK(F:Nat)(tv v:Value)(base:Nat)(t:List Ch)(wk:World):Prop where
 took:wk.cell? ⟨F,7,none⟩=some tv
 lt:F<wk.heap.size
 own:Own wk base v t
theorem qc0(h:zd3 w base S P lv ov tvs l es ts me next seen sent)(hl:l.length<=1000)(hes:es.length<=1000)(hts:∀t∈ts,t.length<=1000)(d:Dd):
 Calls Tryz.prog 224 #[.pointer (some ⟨P,0,none⟩),ddV d] w fun e w'=>e= .returned (.tuple #[])/\zd3 w' base S P lv ov tvs (l.map (zef d.no seen)) es (ts.map fun u=>u.map (zef d.no seen)) me next seen sent/\zam (zrl lv tvs) w w':=by
 have HLO:Hid (∀k,S k->k<w.heap.size):=fun k hk=>(h.lo k hk).2
 have HI:Hid (CI w base P S lv ov tvs l es ts me next seen sent d (w.alloc (zd9 d))):=⟨h.below (za2 _ _),.of_below (za2 _ _),zb4 w d⟩
 have HTL:=hid hts
 have hPw:=h.cells.lt
 obtain⟨la,lcap,rfl,_⟩:=h.ownL.lst.len
 obtain⟨oa,ocap,rfl⟩:=h.topen.form
 have htlen:ts.length=es.length:=by rw[<-h.tooks.len,h.len]
 have HVL:=hid h.len
 have HTN:=hid htlen
 generalize hll:l.length=ll at*
 have HLL:=hid hll
 obtain⟨kind,by_,no,dseen,at_,many,text⟩:=d
 clear h hts htlen hll
 generalize hn:es.length=n at*
 have HEN:=hid hn
 clear hn
 go_enter Tryz.func224,Tryz.ntmps224
 go_wp2
 refine wrs (fun wk=>CU P w.heap.size (.slice la ll lcap) (.slice oa n ocap) me next seen sent ⟨kind,by_,no,dseen,at_,many,text⟩ wk) (fun i=>i==9) (fun wk=>CI w base P S (.slice la ll lcap) (.slice oa n ocap) tvs l es ts me next seen sent ⟨kind,by_,no,dseen,at_,many,text⟩ wk) (by kernel_rfl) (by kernel_rfl) (by kernel_rfl) (fun _ h=>⟨h.at_.cells,h.deed⟩) (HI.out.after (Below.refl _ _).drew) ?_
 iterate 3 (refine wss rfl (fun K hK=> ?_);go_simp;refine⟨_,fun _ _=>rfl,hK _ ?_⟩;clear hK K)
 refine wss rfl (fun K hK=> ?_)
 go_simp
 refine⟨.slice la ll lcap,fun wk hwk=> ?_,hK _ ?_⟩
 ·have c:=hwk.cells.list
  go_simp
 clear hK K
 refine wss rfl (fun K hK=> ?_)
 go_simp
 refine⟨ddV ⟨kind,by_,no,dseen,at_,many,text⟩,fun wk hwk=> ?_,hK _ ?_⟩
 ·obtain⟨_,c0,c1,c2,c3,c4,c5,c6⟩:=hwk.deed
  simp only[Nat.zero_add]at c0 c1 c2 c3 c4 c5 c6
  go_simp
 iterate 3 (clear hK K;refine wss rfl (fun K hK=> ?_);go_simp;refine⟨_,fun _ _=>rfl,hK _ ?_⟩)
 clear hK K
 refine wss rfl (fun K hK=> ?_)
 go_simp
 refine⟨.int .i64 seen,fun wk hwk=> ?_,hK _ ?_⟩
 ·have c:=hwk.cells.seen
  go_simp
 clear hK K
 refine wsp rfl rfl (fun u=>u= .tuple #[]) (fun u wk=>CI w base P S (.slice la ll lcap) (.slice oa n ocap) tvs (l.map (zef no seen)) es ts me next seen sent ⟨kind,by_,no,dseen,at_,many,text⟩ wk) ⟨_,rfl⟩ (fun _ _ h=>⟨h.at_.cells,h.deed⟩) (fun wk hwk=> ?_) (fun v9 hv9=> ?_)
 ·go_simp
  refine(zqy hwk.at_.ownL (by rw[HLL.out];exact hl) ⟨kind,by_,no,dseen,at_,many,text⟩ seen).mono ?_
  rintro e w5 ⟨rfl,ho,hk⟩
  exact⟨_,rfl,rfl,hwk.list HLO.out ho hk⟩
 refine wsn (fun w9 hw9=> ?_)
 have H9:Hid _:=hw9
 clear hw9
 have HI2:=hid H9
 clear H9 HI
 have c4:=HI2.out.at_.cells.opens
 have hP9:=HI2.out.at_.cells.lt
 go_wp2
 clear c4 hP9
 go_loopw [21] (fun i wr=>∃k:Nat,k<=n/\i= .int .i64 k/\Hid (CI w base P S (.slice la ll lcap) (.slice oa n ocap) tvs (l.map (zef no seen)) es (zhq (fun u=>u.map (zef no seen)) k ts) me next seen sent ⟨kind,by_,no,dseen,at_,many,text⟩ wr)) (fun i _=>n-(intOf i).toNat)
 case atStart=>exact⟨0,Nat.zero_le _,rfl,HI2⟩
 obtain⟨k,hk,rfl,HK⟩:=hrel
 clear HI2
 by_cases hlt:k<n
 ·have hke:k<es.length:=by rw[HEN.out];exact hlt
  have hkv:k<tvs.length:=by rw[HVL.out];exact hlt
  have hkt:k<ts.length:=by rw[HTN.out];exact hlt
  have hT:=HK.out.at_.topen
  obtain⟨g,cap,hov⟩:=hT.place (by omega)
  simp only[Value.slice.injEq]at hov
  obtain⟨rfl,-, rfl⟩:=hov
  obtain⟨⟨hg,h0,h1,h2,h3,h4,h5,h6⟩,h7⟩:=hT.nth HEN.out hke hkv
  have hmk:k<(zhq (fun u=>u.map (zef no seen)) k ts).length:=by rw[zsi];exact hkt
  have hmg:=zsj (fun u:List Ch=>u.map (zef no seen)) hkt hmk
  have hown:=hT.tooks.nth k hkv hmk
  rw[hmg]at hown
  have HTK:Hid (ts[k].length<=1000):=HTL.out _ (List.getElem_mem hkt)
  have HOWN:=hid hown
  obtain⟨ta,tcap,htf,_⟩:=hown.lst.len
  have HTF:=hid htf
  have HJ:Hid (CI w base P S (.slice la ll lcap) (.slice (some ⟨g,0,none⟩) n ocap) tvs (l.map (zef no seen)) es (zhq (fun u=>u.map (zef no seen)) k ts) me next seen sent ⟨kind,by_,no,dseen,at_,many,text⟩ (wr.alloc (zm7 es[k] tvs[k]))):=HK.out.after (za2 _ _)
  have HWR:=hid HK.out.deed.lt
  rw[htf]at h7 HJ
  generalize hed:es[k]=ed at*
  obtain⟨ekind,eby,eno,eseen,eat,emany,etext⟩:=ed
  simp only at h0 h1 h2 h3 h4 h5 h6
  clear hT hown htf HK hmg
  go_wp2
  refine wrs (fun wk=>CU2 P w.heap.size wr.heap.size (.slice la ll lcap) (.slice (some ⟨g,0,none⟩) n ocap) (.slice ta ts[k].length tcap) me next seen sent ⟨kind,by_,no,dseen,at_,many,text⟩ wk) (fun i=>i==7) (fun wk=>CI w base P S (.slice la ll lcap) (.slice (some ⟨g,0,none⟩) n ocap) tvs (l.map (zef no seen)) es (zhq (fun u=>u.map (zef no seen)) k ts) me next seen sent ⟨kind,by_,no,dseen,at_,many,text⟩ wk/\CK wr.heap.size (.slice ta ts[k].length tcap) tvs[k] base ts[k] wk) (by kernel_rfl) (by kernel_rfl) (by kernel_rfl) (fun _ h=>⟨h.1.at_.cells,h.1.deed,h.2.took⟩) (⟨HJ.out.after (Below.refl _ _).drew,by simp[go_sem],by simp,HOWN.out.below (za2 _ _).drew⟩) ?_
  refine wss rfl (fun K hK=> ?_)
  go_simp
  refine⟨_,fun _ _=>rfl,hK _ ?_⟩
  clear hK K
  refine wss rfl (fun K hK=> ?_)
  go_simp
  refine⟨.slice ta ts[k].length tcap,fun wk hwk=> ?_,hK _ ?_⟩
  ·have c:=hwk.took
   go_simp
  clear hK K
  refine wss rfl (fun K hK=> ?_)
  go_simp
  refine⟨ddV ⟨kind,by_,no,dseen,at_,many,text⟩,fun wk hwk=> ?_,hK _ ?_⟩
  ·obtain⟨_,c0,c1,c2,c3,c4,c5,c6⟩:=hwk.deed
   simp only[Nat.zero_add]at c0 c1 c2 c3 c4 c5 c6
   go_simp
  iterate 3 (clear hK K;refine wss rfl (fun K hK=> ?_);go_simp;refine⟨_,fun _ _=>rfl,hK _ ?_⟩)
  clear hK K
  refine wss rfl (fun K hK=> ?_)
  go_simp
  refine⟨.int .i64 seen,fun wk hwk=> ?_,hK _ ?_⟩
  ·have c:=hwk.cells.seen
   go_simp
  clear hK K
  refine wsp rfl rfl (fun u=>u= .tuple #[]) (fun u wk=>CI w base P S (.slice la ll lcap) (.slice (some ⟨g,0,none⟩) n ocap) tvs (l.map (zef no seen)) es (zhq (fun u=>u.map (zef no seen)) (k+1) ts) me next seen sent ⟨kind,by_,no,dseen,at_,many,text⟩ wk/\wk.cell? ⟨wr.heap.size,7,none⟩=some (.slice ta ts[k].length tcap)) ⟨_,rfl⟩ (fun _ _ h=>⟨h.1.at_.cells,h.1.deed,h.2⟩) (fun wk hwk=> ?_) (fun v7 hv7=> ?_)
  ·go_simp
   have hno:=zqy hwk.2.own HTK.out ⟨kind,by_,no,dseen,at_,many,text⟩ seen
   rw[HTF.out]at hno
   refine hno.mono ?_
   rintro e w5 ⟨rfl,ho,hk⟩
   rw[<-HTF.out]at ho hk
   refine⟨_,rfl,rfl,?_,?_⟩
   ·have:=hwk.1.took HLO.out k hkv _ ho hk
    rw[zsh _ hkt]at this
    exact this
   rw[World.cell?_of_block (a:=⟨wr.heap.size,7,none⟩) (hk.block _ hwk.2.lt (fun e=>by have q:wr.heap.size<w.heap.size:=HLO.out _ (hwk.1.at_.tB _ (List.getElem_mem hkv) _ e).1;have:=HWR.out;omega))]
   exact hwk.2.took
  refine wsn (fun w8 hw8=> ?_)
  have H8:Hid _:=hw8.1
  clear hw8
  have HNX:=hid H8
  clear H8
  go_wp2
  go_roundw
  case rel=>exact⟨k+1,by omega,by go_num,HNX⟩
  case measure=>simp[intOf];omega
 obtain rfl:k=n:=by omega
 have HE:Hid (zhq (fun u=>u.map (zef no seen)) k ts=ts.map fun u=>u.map (zef no seen)):=by show _=_;rw[<-HTN.out,zsk]
 go_wp2
 go_end0
 refine⟨rfl,?_,HK.out.kept⟩
 have:=HK.out.at_
 rw[HE.out]at this
 exact this
theorem qbo(h:zd3 w base S P lv ov tvs l es ts me next seen sent)(ht:Own w base tv t)(hsep:∀k,tv.ownBlock=some k->lv.ownBlock≠some k)(hl:l.length<=1000)(htl:t.length<=1000)(d:Dd):
 Calls Tryz.prog 225 #[.pointer (some ⟨P,0,none⟩),ooV d tv] w fun e w'=>e= .returned (.tuple #[])/\zd3 w' base S P lv ov tvs (l.map (zkm t seen)) es ts me next seen sent/\zam (fun k=>lv.ownBlock=some k) w w':=by
 by_cases h0:l.length=0
 ·obtain rfl:l=[]:=List.length_eq_zero_iff.1 h0
  obtain⟨a,cap,hlv,_⟩:=h.ownL.lst.len
  obtain⟨ta,tc,htv,_⟩:=ht.lst.len
  have hc:=h.cells
  rw[hlv]at hc
  refine(zsv hc ⟨_,_,_,htv⟩ d).mono ?_
  rintro e w1 ⟨rfl,hb⟩
  exact⟨rfl,h.below hb,.of_below hb⟩
 obtain⟨g,cap,rfl⟩:=zoz h.ownL (by omega)
 refine(zv3 h.cells h.ownL ht (fun e=>(h.lB g rfl).2 e.symm) (fun e=>hsep g e rfl) rfl hl htl d).mono ?_
 rintro e w1 ⟨rfl,ho,hk⟩
 have hk':=zjv (T:=fun k=>(Value.slice (some ⟨g,0,none⟩) l.length cap).ownBlock=some k) hk (fun k e=>by rw[e];rfl)
 exact⟨rfl,h.newList ho hk',hk'⟩
end Go.Proofs.YtcbnnfeelhlapadGreatDoor