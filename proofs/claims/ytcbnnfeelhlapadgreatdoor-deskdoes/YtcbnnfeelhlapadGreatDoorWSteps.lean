/-
  WDel, WHear, VSay, WRead, WSteps.
-/
import Derived.Laws.OwnMore
import Derived.Lib.MinMax
import Derived.Test.YtcbnnfeelhlapadGreatDoorWGoes
namespace Go.Proofs.YtcbnnfeelhlapadGreatDoor
set_option maxHeartbeats 1600000
set_option maxRecDepth 20000
open Go.RowKit
variable {w:World} {base g n cap:Nat} {xs:List Value}
abbrev ziw:Value:= .agg #[.int .i64 0,.int .i64 0,.int .i64 0,.int .i64 0,.int .i64 0,.int .i64 0,.string ⟨#[]⟩,.slice none 0 0]
theorem Tryz.infoOwn:(Tryz.prog.info? 180).map (fun i=>(i.zero,i.size,i.bytes))=some (some ziw,8,88):=by kernel_rfl
theorem zzw:Tryz.prog.elem 176=180:=by kernel_rfl
theorem zrq:Tryz.prog.underlying 176=some (.slice (Tryz.prog.elem 176)):=by kernel_rfl
theorem und_own':Tryz.prog.underlying 176=some (.slice 180):=by kernel_rfl
theorem zz0(w:World):(sizeOf 180).run Tryz.prog w= .ok 8 w:=by
 obtain⟨i0,hi,_,hz1,_⟩:=info_parts Tryz.infoOwn
 simp[sizeOf,typeInfo,hi,hz1]
theorem qe8(a:Option Addr)(len cap k:Nat)(hk:k<=cap)(w:World):(Instr.sliceAt 176 (.slice a len cap) none (some (.int .i64 k)) none).run Tryz.prog w= .ok (sliced a 0 k cap 8) w:=by
 rw[run_sliceAt_slice _ _ _ _ _ _ zrq,run_slice_h _ _ _ _ _ zrq _ _ (by omega) (by omega),zzw,zz0]
 rfl
theorem zu7(a:Option Addr)(len cap k:Nat)(hk:k<=len)(w:World):(Instr.sliceAt 176 (.slice a len cap) (some (.int .i64 k)) none none).run Tryz.prog w= .ok (sliced a k len cap 8) w:=by
 rw[run_sliceAt_slice _ _ _ _ _ _ zrq,run_slice_l _ _ _ _ _ zrq _ _ (by omega) (by omega),zzw,zz0]
 rfl
theorem row_spot{size:Nat}{e:TypeId}(h:w.ownsRow base e size (.slice (some ⟨g,0,none⟩) n cap) n xs){j:Nat}(hj:j<cap*size):(w.cell? ⟨g,j,none⟩).isSome=true/\w.frozen? ⟨g,j,none⟩=false:=by
 refine⟨?_,World.ownsRow.frozenAt h j⟩
 rcases h.2 with⟨h',_⟩|⟨g',cap',cur,h',hb,hg,hnc,hcm,hcs,htake⟩
 ·simp at h'
 simp only[Value.slice.injEq,Option.some.injEq,Addr.mk.injEq,and_true,true_and]at h'
 obtain⟨rfl,rfl⟩:=h'
 rw[cell_of_row w g j cur e (0,0) hg,Array.getElem?_eq_getElem (by omega)]
 rfl
theorem zpx(n:Nat):∀v∈(Builtin.zeroCells ziw.cells n).toList,v.oneCell'=true:=by
 intro v hv
 simp only[Builtin.zeroCells,Array.toList_map,List.mem_map]at hv
 obtain⟨i,_,rfl⟩:=hv
 have h8:i % ziw.cells.size<8:=Nat.mod_lt _ (by decide)
 generalize i % ziw.cells.size=r at h8
 rcases(show r=0\/r=1\/r=2\/r=3\/r=4\/r=5\/r=6\/r=7 by omega)with rfl|rfl|rfl|rfl|rfl|rfl|rfl|rfl<;>rfl
theorem zs4(h:w.ownsRow base 180 8 (.slice (some ⟨g,0,none⟩) n cap) n xs)(hc:n<cap)(ty:TypeId):
 (Builtin.clear_ #[176] ty #[.slice (some ⟨g,n*8,none⟩) 1 (cap-n)]).run Tryz.prog w= .ok (.tuple #[]) (w.setCells g (n*8) (Builtin.zeroCells ziw.cells 1).toList):=by
 have hlen:(Builtin.zeroCells ziw.cells 1).toList.length=8:=by rw[Array.length_toList,size_zeroCells];rfl
 have hst:=run_storeCells_cells (P:=Tryz.prog) g (n*8) (Builtin.zeroCells ziw.cells 1).toList 0 w
  (fun j hj=>by rw[hlen]at hj;rw[Nat.add_zero];exact(row_spot h (by omega)).1)
  (fun j hj=>by rw[Nat.add_zero];exact World.ownsRow.frozenAt h _) (zpx _)
 simp only[Nat.add_zero]at hst
 simp[Builtin.clear_,run_underlying und_own',hst]
theorem zr5{w w1:World}{g:Nat}:∀(vs:List Value) (o:Nat) (w2:World),zam (fun k=>k=g) w w2->w2=w1->zam (fun k=>k=g) w (w1.setCells g o vs)
 |[],_,_,h,e=>by rw[<-e];exact h
 |v::vs,o,w2,h,e=>zr5 vs (o+1) (w2.setCell ⟨g,o,none⟩ v) (h.set (p:=⟨g,o,none⟩) rfl v) (by rw[e])
theorem zog{o:Oper}{act:Act}{w':World}{s x:Operand}{t:TypeId}{v u v':Value}{D:Value->World->Prop}(ho:o.op= .call {callee:= .builtin .append,args:= #[s,x],argTypes:= #[t,t]})(hs:act.eval s=v)(hx:act.eval x=u)
 (h1:(Builtin.append_ #[t,t] o.type #[v,u]).run Tryz.prog w= .ok v' w') (h:D v' w'):zb0 Tryz.prog D ((execOp act.eval o).run Tryz.prog w):=by
 simp[execOp,ho,resolve,invoke,builtin,hs,hx,h1,Result.andThen]
 exact h
structure DO(w:World)(base g n cap:Nat)(r:List (Dd×Value))(wk:World):Prop where
 own:znc wk base (.slice (some ⟨g,0,none⟩) n cap) r
 kept:zam (fun k=>k=g) w wk
theorem zvi{x:Dd×Value}{r:List (Dd×Value)}(h:znc w base (.slice (some ⟨g,0,none⟩) (n+1) cap) (x::r))(hn:r.length=n)(hn2:n<=1000)(h1:∀y∈r,y.2.oneCell'=true):
 Calls Tryz.prog 223 #[.slice (some ⟨g,0,none⟩) (n+1) cap,.int .i64 0,.int .i64 1] w fun e w'=>e= .returned (.slice (some ⟨g,0,none⟩) n cap)/\znc w' base (.slice (some ⟨g,0,none⟩) n cap) r/\zam (fun k=>k=g) w w':=by
 obtain⟨i0,hi,hz0,hz1,hz2⟩:=info_parts Tryz.infoOwn
 have hcap:n+1<=cap:=by
  rcases h.2 with⟨h',_⟩|⟨g',cap',cur,h',_,_,hnc,_⟩
  ·simp at h'
  simp only[Value.slice.injEq,Option.some.injEq,Addr.mk.injEq,and_true]at h'
  obtain⟨_,_,rfl⟩:=h'
  simp at hnc
  omega
 have HO:=hid h
 have HN:=hid hn
 have H1:=hid h1
 have HT:Hid (∀w,(Instr.sliceAt 176 (.slice (some ⟨g,0,none⟩) (n+1) cap) none (some (.int .i64 0)) none).run Tryz.prog w= .ok (.slice (some ⟨g,0,none⟩) 0 cap) w):=fun w=>by
  have:=qe8 (some ⟨g,0,none⟩) (n+1) cap 0 (Nat.zero_le _) w
  have e:sliced (some ⟨g,0,none⟩) 0 0 cap 8= .slice (some ⟨g,0,none⟩) 0 cap:=by
   unfold sliced
   simp[zdv]
  rw[e]at this
  exact this
 obtain⟨ad,cs,had,hdr⟩:∃ad cs,(0<n->ad=⟨g,8,none⟩)/\∀w,(Instr.sliceAt 176 (.slice (some ⟨g,0,none⟩) (n+1) cap) (some (.int .i64 1)) none none).run Tryz.prog w= .ok (.slice (some ad) n cs) w:=by
  by_cases hc1:cap=1
  ·refine⟨⟨g,0,none⟩,cap-1,fun h=>by omega,fun w=> ?_⟩
   have:=zu7 (some ⟨g,0,none⟩) (n+1) cap 1 (by omega) w
   have e:sliced (some ⟨g,0,none⟩) 1 (n+1) cap 8= .slice (some ⟨g,0,none⟩) n (cap-1):=by
    unfold sliced
    simp[hc1]
   rw[e]at this
   exact this
  refine⟨⟨g,8,none⟩,cap-1,fun _=>rfl,fun w=> ?_⟩
  have:=zu7 (some ⟨g,0,none⟩) (n+1) cap 1 (by omega) w
  have e:sliced (some ⟨g,0,none⟩) 1 (n+1) cap 8= .slice (some ⟨g,8,none⟩) n (cap-1):=by
   unfold sliced
   simp[hc1,zdv]
  rw[e]at this
  exact this
 have HD:Hid _:=hdr
 have HAP:Hid (∀(ty:TypeId) wk,Below w.heap.size w wk->∃w',(Builtin.append_ #[176,176] ty #[.slice (some ⟨g,0,none⟩) 0 cap,.slice (some ad) n cs]).run Tryz.prog wk= .ok (.slice (some ⟨g,0,none⟩) n cap) w'/\DO w base g n cap r w'):=fun ty wk hb=>by
  have hown:=h.below hb
  have hrow:wk.ownsRow base 180 8 (.slice (some ⟨g,0,none⟩) 0 cap) 0 []:=by
   rcases hown.2 with⟨h',_⟩|⟨g',cap',cur,h',hb',hg',hnc,hcm,hcs,htake⟩
   ·simp at h'
   simp only[Value.slice.injEq,Option.some.injEq,Addr.mk.injEq,and_true]at h'
   obtain⟨rfl,_,rfl⟩:=h'
   exact⟨rfl,.inr ⟨g,cap,cur,rfl,hb',hg',Nat.zero_le _,hcm,hcs,by simp⟩⟩
  have hsrc:∀j u,(zdf r)[j]? =some u->wk.cell? (ad.add j)=some u:=by
   intro j u hu
   have hj:j<n*8:=by
    have:=(List.getElem?_eq_some_iff.1 hu).1
    rw[zml,hn]at this
    exact this
   rw[had (by omega),zdv]
   have hh:=hown
   unfold znc at hh
   have e2:(x::r).length=n+1:=by rw[List.length_cons,hn]
   rw[e2]at hh
   rw[World.ownsRow.cellAt hh (8+j) (by omega),zdf,List.getElem?_append_right (by rw[zf5];omega),zf5,Nat.add_sub_cancel_left]
   exact hu
  obtain⟨w',e1,e2,e3⟩:=run_append_fits (P:=Tryz.prog) wk base 176 ty 180 i0 8 und_own' hi hz1 g 0 cap [] hrow ad n cs (zdf r) (by rw[zml,hn]) hsrc (zmk r h1) (by omega)
  rw[Nat.zero_add]at e1 e2
  refine⟨w',e1,?_,?_⟩
  ·unfold znc
   rw[hn]
   exact e2
  have hk:zam (fun k=>k=g) wk w':=⟨e3.os,e3.tape,e3.output,e3.size,fun k hk hne=>e3.block k hk (fun e=>hne (Option.some.inj e))⟩
  exact(zam.of_below (S:=fun k=>k=g) hb).trans' hk
 have hcl:∀wk,DO w base g n cap r wk->(Builtin.clear_ #[176] 0 #[.slice (some ⟨g,n*8,none⟩) 1 (cap-n)]).run Tryz.prog wk= .ok (.tuple #[]) (wk.setCells g (n*8) (Builtin.zeroCells ziw.cells 1).toList):=fun wk hk=>by
  have:=hk.own
  unfold znc at this
  rw[hn]at this
  exact zs4 this (by omega) 0
 have HCL:Hid _:=hcl
 have HEND:Hid (∀wk,DO w base g n cap r wk->znc (wk.setCells g (n*8) (Builtin.zeroCells ziw.cells 1).toList) base (.slice (some ⟨g,0,none⟩) n cap) r/\zam (fun k=>k=g) w (wk.setCells g (n*8) (Builtin.zeroCells ziw.cells 1).toList)):=fun wk hk=>by
  refine⟨?_,zr5 _ _ wk hk.kept rfl⟩
  have:=hk.own
  unfold znc at this⊢
  rw[hn]at this⊢
  exact zj6 this _ _ (Nat.le_refl _) wk this
 have hne:¬cap=n:=by omega
 clear h hn h1 hdr hcl had
 go_enter Tryz.func223,Tryz.ntmps223
 go_wp2
 refine wrs (fun wk=>w.heap.size<=wk.heap.size) (fun i=>i==6) (fun wk=>Below w.heap.size w wk) (by kernel_rfl) (by kernel_rfl) (by kernel_rfl) (fun _ h=>h.size) ((Below.refl _ _).drew) ?_
 iterate 2 (refine wss rfl (fun K hK=> ?_);go_simp;refine⟨_,fun _ _=>rfl,hK _ ?_⟩;clear hK K)
 refine wss rfl (fun K hK=> ?_)
 rw[if_pos (by rfl)]
 refine⟨.slice (some ⟨g,0,none⟩) 0 cap,fun wk hwk=>zd1 rfl (HT.out wk),hK _ ?_⟩
 iterate 2 (clear hK K;refine wss rfl (fun K hK=> ?_);go_simp;refine⟨_,fun _ _=>rfl,hK _ ?_⟩)
 clear hK K
 refine wss rfl (fun K hK=> ?_)
 rw[if_pos (by rfl)]
 refine⟨.slice (some ad) n cs,fun wk hwk=>zd1 rfl (HD.out wk),hK _ ?_⟩
 clear hK K
 refine wsp rfl rfl (fun u=>u= .slice (some ⟨g,0,none⟩) n cap) (fun u wk=>DO w base g n cap r wk) ⟨_,rfl⟩ (fun _ _ h=>h.kept.size) (fun wk hwk=> ?_) (fun v6 hv6=> ?_)
 ·obtain⟨w',e1,e2⟩:=HAP.out _ wk hwk
  exact zog rfl rfl rfl e1 ⟨rfl,e2⟩
 subst hv6
 refine wss rfl (fun K hK=> ?_)
 go_simp
 refine⟨_,fun _ _=>rfl,hK _ ?_⟩
 clear hK K
 refine wsn (fun w9 hw9=> ?_)
 have H9:Hid _:=hw9
 clear hw9
 have hcl:=HCL.out w9 H9.out
 have HE:Hid _:=HEND.out w9 H9.out
 clear H9 HCL HEND HAP HD HT HO H1 HN
 go_wp2
 go_ret
 exact⟨rfl,HE.out⟩
variable {w:World} {P base:Nat} {lv ov tv:Value} {me next seen sent:Int} {S:Nat->Prop} {tvs:List Value} {l t:List Ch} {es:List Dd} {ts:List (List Ch)} {e d:Dd}
theorem PwC.setNext(h:PwC w P lv ov me next seen sent)(x:Int):PwC (w.setCell ⟨P,1,none⟩ (.int .i64 x)) P lv ov me x seen sent:=by
 obtain⟨hlt,c0,c1,c2,c3,c4,c5,hf⟩:=h
 refine⟨by simpa using hlt,?_,?_,?_,?_,?_,?_,fun o ho=>by simpa [go_sem]using hf o ho⟩
 ·simp[go_sem,c0]
 ·simp[go_sem,c1]
 ·simp[go_sem,c2]
 ·simp[go_sem,c3]
 ·simp[go_sem,c4]
 simp[go_sem,c5]
theorem PwC.setSeen(h:PwC w P lv ov me next seen sent)(x:Int):PwC (w.setCell ⟨P,2,none⟩ (.int .i64 x)) P lv ov me next x sent:=by
 obtain⟨hlt,c0,c1,c2,c3,c4,c5,hf⟩:=h
 refine⟨by simpa using hlt,?_,?_,?_,?_,?_,?_,fun o ho=>by simpa [go_sem]using hf o ho⟩
 ·simp[go_sem,c0]
 ·simp[go_sem,c1]
 ·simp[go_sem,c2]
 ·simp[go_sem,c3]
 ·simp[go_sem,c4]
 simp[go_sem,c5]
theorem PwC.setList(h:PwC w P lv ov me next seen sent)(x:Value):PwC (w.setCell ⟨P,3,none⟩ x) P x ov me next seen sent:=by
 obtain⟨hlt,c0,c1,c2,c3,c4,c5,hf⟩:=h
 refine⟨by simpa using hlt,?_,?_,?_,?_,?_,?_,fun o ho=>by simpa [go_sem]using hf o ho⟩
 ·simp[go_sem,c0]
 ·simp[go_sem,c1]
 ·simp[go_sem,c2]
 ·simp[go_sem,c3]
 ·simp[go_sem,c4]
 simp[go_sem,c5]
theorem PwC.setOpens(h:PwC w P lv ov me next seen sent)(x:Value):PwC (w.setCell ⟨P,4,none⟩ x) P lv x me next seen sent:=by
 obtain⟨hlt,c0,c1,c2,c3,c4,c5,hf⟩:=h
 refine⟨by simpa using hlt,?_,?_,?_,?_,?_,?_,fun o ho=>by simpa [go_sem]using hf o ho⟩
 ·simp[go_sem,c0]
 ·simp[go_sem,c1]
 ·simp[go_sem,c2]
 ·simp[go_sem,c3]
 ·simp[go_sem,c4]
 simp[go_sem,c5]
theorem PwC.setSent(h:PwC w P lv ov me next seen sent)(x:Int):PwC (w.setCell ⟨P,5,none⟩ (.int .i64 x)) P lv ov me next seen x:=by
 obtain⟨hlt,c0,c1,c2,c3,c4,c5,hf⟩:=h
 refine⟨by simpa using hlt,?_,?_,?_,?_,?_,?_,fun o ho=>by simpa [go_sem]using hf o ho⟩
 ·simp[go_sem,c0]
 ·simp[go_sem,c1]
 ·simp[go_sem,c2]
 ·simp[go_sem,c3]
 ·simp[go_sem,c4]
 simp[go_sem,c5]
theorem zd3.wrote{me' next' seen' sent':Int}(h:zd3 w base S P lv ov tvs l es ts me next seen sent){o:Nat}{u:Value}(hc:PwC (w.setCell ⟨P,o,none⟩ u) P lv ov me' next' seen' sent'):zd3 (w.setCell ⟨P,o,none⟩ u) base S P lv ov tvs l es ts me' next' seen' sent':=by
 have hne:∀k,k≠P->(w.setCell ⟨P,o,none⟩ u).heap[k]? =w.heap[k]? :=fun k e=>Below.heap_setCell _ _ _ _ e
 have hsz:(w.setCell ⟨P,o,none⟩ u).heap.size=w.heap.size:=by simp[World.setCell]
 exact⟨fun k hs=>by rw[hsz];exact h.lo k hs,h.hP,hc,za5 h.ownL (fun k e=>hne k (h.lB k e).2),za5 h.ownO (fun k e=>hne k (h.oB k e).2.1),h.len,h.tooks.of_block (fun v hv k e=>hne k (h.tB v hv k e).2.1),h.lB,h.oB,h.tB,h.tD⟩
theorem zd3.dropped{w1:World}{g n cap:Nat}(h:zd3 w base S P lv (.slice (some ⟨g,0,none⟩) (n+1) cap) (tv::tvs) l (e::es) (t::ts) me next seen sent)
 (ho:znc w1 base (.slice (some ⟨g,0,none⟩) n cap) (es.zip tvs)) (hk:zam (fun k=>k=g) w w1):zd3 (w1.setCell ⟨P,4,none⟩ (.slice (some ⟨g,0,none⟩) n cap)) base S P lv (.slice (some ⟨g,0,none⟩) n cap) tvs l es ts me next seen sent/\Own (w1.setCell ⟨P,4,none⟩ (.slice (some ⟨g,0,none⟩) n cap)) base tv t/\zam S w (w1.setCell ⟨P,4,none⟩ (.slice (some ⟨g,0,none⟩) n cap)):=by
 have hgP:g≠P:=(h.oB g rfl).2.1
 have hb:∀k,S k->k≠g->k≠P->(w1.setCell ⟨P,4,none⟩ (.slice (some ⟨g,0,none⟩) n cap)).heap[k]? =w.heap[k]? :=fun k hs e1 e2=>by
  rw[Below.heap_setCell _ _ _ _ e2]
  exact hk.block k (h.lo k hs).2 e1
 have hsz:(w1.setCell ⟨P,4,none⟩ (.slice (some ⟨g,0,none⟩) n cap)).heap.size=w1.heap.size:=by simp[World.setCell]
 have hlg:∀k,lv.ownBlock=some k->k≠g:=fun k e e'=>(h.oB g rfl).2.2 (by rw[<-e'];exact e)
 have htg:∀u∈tv::tvs,∀k,u.ownBlock=some k->k≠g:=fun u hu k e e'=>(h.tB u hu k e).2.2.2 (by rw[e'];rfl)
 have hc:PwC w1 P lv (.slice (some ⟨g,0,none⟩) (n+1) cap) me next seen sent:=h.cells.kept hk.size (hk.block P h.cells.lt (fun e=>hgP e.symm))
 refine⟨⟨fun k hs=>⟨(h.lo k hs).1,by rw[hsz];exact Nat.lt_of_lt_of_le (h.lo k hs).2 hk.size⟩,h.hP,hc.setOpens _,za5 h.ownL (fun k e=>hb k (h.lB k e).1 (hlg k e) (h.lB k e).2),za5 ho (fun k e=>Below.heap_setCell _ _ _ _ (fun e'=> ?_)),?_,?_,h.lB,fun k e=>h.oB k e,fun u hu k e=>h.tB u (by simp[hu]) k e,(List.pairwise_cons.1 h.tD).2⟩,?_,?_⟩
 ·have e2:some g=some k:=e
  have e3:k=P:=e'
  exact hgP (by rw[<-e3];exact Option.some.inj e2)
 ·have:=h.len
  simpa using this
 ·exact zem.of_block h.tooks.2 (fun u hu k e=>hb k (h.tB u (by simp[hu]) k e).1 (htg u (by simp[hu]) k e) (h.tB u (by simp[hu]) k e).2.1)
 ·exact za5 h.tooks.1 (fun k e=>hb k (h.tB tv (by simp) k e).1 (htg tv (by simp) k e) (h.tB tv (by simp) k e).2.1)
 exact(zjv hk (fun k e=>by rw[e];exact(h.oB g rfl).1)).set (p:=⟨P,4,none⟩) h.hP _
structure HW(w:World)(base P:Nat)(S:Nat->Prop)(lv ov:Value)(tvs:List Value)(l:List Ch)(es:List Dd)(ts:List (List Ch))(me next seen sent:Int)(d:Dd)(tv:Value)(t:List Ch)(wk:World):Prop where
 at_:zd3 wk base S P lv ov tvs l es ts me next seen sent
 kept:zam S w wk
 deed:zdq wk w.heap.size 0 d
 box:OoAt wk (w.heap.size+1) 0 d tv
 own:Own wk base tv t
 tS:∀k,tv.ownBlock=some k->S k/\k≠P/\¬zrl lv tvs k
theorem HW.wrote{w wk:World}{base P o:Nat}{S:Nat->Prop}{lv ov tv u:Value}{tvs:List Value}{l t:List Ch}{es:List Dd}{ts:List (List Ch)}{me next seen sent me' next' seen' sent':Int}{d:Dd}(h:HW w base P S lv ov tvs l es ts me next seen sent d tv t wk)(hlo:∀k,S k->k<w.heap.size)(hc:PwC (wk.setCell ⟨P,o,none⟩ u) P lv ov me' next' seen' sent'):HW w base P S lv ov tvs l es ts me' next' seen' sent' d tv t (wk.setCell ⟨P,o,none⟩ u):=by
 have hP:=hlo P h.at_.hP
 have hsz:(wk.setCell ⟨P,o,none⟩ u).heap.size=wk.heap.size:=by simp[World.setCell]
 exact⟨h.at_.wrote hc,h.kept.set (p:=⟨P,o,none⟩) h.at_.hP u,h.deed.of_block' (by rw[hsz];exact h.deed.lt) (Below.heap_setCell _ _ _ _ (by show w.heap.size≠P;omega)),h.box.of_block (by rw[hsz];exact h.box.deed.lt) (Below.heap_setCell _ _ _ _ (by show w.heap.size+1≠P;omega)),za5 h.own (fun k e=>Below.heap_setCell _ _ _ _ (h.tS k e).2.1),h.tS⟩
theorem HW.turned{wk w':World}{l':List Ch}{ts':List (List Ch)}(h:HW w base P S lv ov tvs l es ts me next seen sent d tv t wk)(hlo:∀k,S k->k<w.heap.size)(hat:zd3 w' base S P lv ov tvs l' es ts' me next seen sent)(hk:zam (zrl lv tvs) wk w'):HW w base P S lv ov tvs l' es ts' me next seen sent d tv t w':=by
 have hsub:∀k,zrl lv tvs k->S k:=fun k e=>by
  rcases e with e|⟨u,hu,e⟩
  ·exact(h.at_.lB k e).1
  exact(h.at_.tB u hu k e).1
 exact⟨hat,h.kept.trans' (zjv hk hsub),h.deed.of_block' (Nat.lt_of_lt_of_le h.deed.lt hk.size) (hk.block _ h.deed.lt (fun e=>by have:=hlo _ (hsub _ e);omega)),h.box.of_block (Nat.lt_of_lt_of_le h.box.deed.lt hk.size) (hk.block _ h.box.deed.lt (fun e=>by have:=hlo _ (hsub _ e);omega)),za5 h.own (fun k e=>hk.block k (World.ownsRow.lt h.own k e).2 (h.tS k e).2.2),h.tS⟩
theorem ack_comp(no n:Int)(t l:List Ch):(l.map (zef no n)).map (zkm t n)=l.map (zf2 no n t):=by
 rw[List.map_map];rfl
theorem zip_cons:(e::es).zip (tv::tvs)=(e,tv)::es.zip tvs:=rfl
theorem zxh{seen sent:Nat}(h:zd3 w base S P lv ov (tv::tvs) l (d::es) (t::ts) me next seen ((sent:Int)+1))(hl:l.length<=1000)(hes:es.length<=1000)(hts:∀u∈t::ts,u.length<=1000)(hsn:seen<=1000)(hst:sent<=1000):
 Calls Tryz.prog 194 #[.pointer (some ⟨P,0,none⟩),ddV d] w fun e w'=>e= .returned (.int .i64 0)/\(∃ov',zd3 w' base S P lv ov' tvs (l.map (zf2 d.no ((seen:Int)+1) t)) es (ts.map fun u=>u.map (zef d.no ((seen:Int)+1))) me next ((seen:Int)+1) sent)/\zam S w w':=by
 have HLO:Hid (∀k,S k->k<w.heap.size):=fun k hk=>(h.lo k hk).2
 have HL:Hid (∀l':List Ch,l'.length=l.length->l'.length<=1000):=fun l' e=>by rw[e];exact hl
 have HT0:Hid (t.length<=1000):=hts t (by simp)
 have HTS:Hid (∀u∈ts,u.length<=1000):=fun u hu=>hts u (by simp[hu])
 obtain⟨g,cap,rfl⟩:=h.topen.place (by simp)
 have hl1:(d::es).length=es.length+1:=rfl
 rw[hl1]at h
 have HA:=hid h
 obtain⟨ta,tcap,htf,_⟩:=h.tooks.1.lst.len
 have HSEP:Hid (∀k,tv.ownBlock=some k->S k/\k≠P/\¬zrl lv tvs k):=fun k e=>by
  have h1:=h.tB tv (by simp) k e
  refine⟨h1.1,h1.2.1,fun e'=> ?_⟩
  rcases e' with e'|⟨u,hu,e'⟩
  ·exact h1.2.2.1 e'
  exact(List.pairwise_cons.1 h.tD).1 u hu k e e'
 have HONE:Hid (∀y∈es.zip tvs,y.2.oneCell'=true):=fun y hy=>h.tooks.2.one y.2 (List.of_mem_zip hy).2
 have HZL:Hid ((es.zip tvs).length=es.length):=zkf (by have:=h.len;simpa using this)
 have c4:=h.cells.opens
 have c5:=h.cells.sent
 have c2:=h.cells.seen
 have hPlt:=h.cells.lt
 obtain⟨⟨hglt,g0,g1,g2,g3,g4,g5,g6⟩,g7⟩:=h.topen.nth (i:=0) rfl (by simp) (by simp)
 simp only[Nat.zero_mul,Nat.zero_add,List.getElem_cons_zero]at g0 g1 g2 g3 g4 g5 g6 g7
 have hE:∀o,(w.alloc (zd9 d)).cell? o=(w.alloc (zd9 d)).cell? o:=fun _=>rfl
 have HB0:=hid (zb4 w d)
 have hpos:((es.length:Int)+1==0)=false:=by simp;omega
 generalize hn:es.length=n at*
 have HN:=hid hn
 generalize t.length=tn at htf
 subst htf
 obtain⟨kind,by_,no,dseen,at_,many,text⟩:=d
 simp only at g0 g1 g2 g3 g4 g5 g6
 clear h hts hl hl1 hn hE
 go_enter Tryz.func194,Tryz.ntmps194
 go_wp2
 go_quiet (fail)
 go_wp2_with fail
 clear c2 c4 c5 g0 g1 g2 g3 g4 g5 g6 g7
 have HB0':Hid (Below w.heap.size w ((w.alloc (zd9 ⟨kind,by_,no,dseen,at_,many,text⟩)).drewN nq)):=below_drewN (za2 _ _) _
 have HD0:Hid (zdq ((w.alloc (zd9 ⟨kind,by_,no,dseen,at_,many,text⟩)).drewN nq) w.heap.size 0 ⟨kind,by_,no,dseen,at_,many,text⟩):=HB0.out.below (below_drewN (Below.refl _ _) _)
 have HS0:Hid (((w.alloc (zd9 ⟨kind,by_,no,dseen,at_,many,text⟩)).drewN nq).heap.size=w.heap.size+1):=by show _=_;simp
 generalize (w.alloc (zd9 ⟨kind,by_,no,dseen,at_,many,text⟩)).drewN nq=w0 at*
 have HBX:Hid (OoAt (w0.alloc (zm7 ⟨kind,by_,no,dseen,at_,many,text⟩ (.slice ta tn tcap))) (w.heap.size+1) 0 ⟨kind,by_,no,dseen,at_,many,text⟩ (.slice ta tn tcap)):=by
  rw[<-HS0.out]
  refine⟨⟨by simp,?_,?_,?_,?_,?_,?_,?_⟩,?_⟩<;>simp[go_sem]
 have HB1:Hid (Below w.heap.size w (w0.alloc (zm7 ⟨kind,by_,no,dseen,at_,many,text⟩ (.slice ta tn tcap)))):=bla HB0'.out (za2 _ _)
 have HD1:Hid (zdq (w0.alloc (zm7 ⟨kind,by_,no,dseen,at_,many,text⟩ (.slice ta tn tcap))) w.heap.size 0 ⟨kind,by_,no,dseen,at_,many,text⟩):=HD0.out.below (za2 _ _)
 have hA1:=HA.out.below HB1.out
 have hown1:=hA1.ownO
 rw[zip_cons]at hown1
 have HA1:Hid _:=hA1
 refine(zvi hown1 (by rw[HZL.out]) hes HONE.out).mono ?_
 rintro e w2 ⟨rfl,ho2,hk2⟩
 have hdr:=HA1.out.dropped ho2 hk2
 have hgP:g≠P:=(HA1.out.oB g rfl).2.1
 have hgl:g<w.heap.size:=HLO.out g (HA1.out.oB g rfl).1
 have hPl:=HLO.out P HA1.out.hP
 have hc2:PwC w2 P lv (.slice (some ⟨g,0,none⟩) (n+1) cap) me next seen ((sent:Int)+1):=HA1.out.cells.kept hk2.size (hk2.block P HA1.out.cells.lt (fun e=>hgP e.symm))
 have hsz2:(w2.setCell ⟨P,4,none⟩ (.slice (some ⟨g,0,none⟩) n cap)).heap.size=w2.heap.size:=by simp[World.setCell]
 have HW3:Hid (HW w base P S lv (.slice (some ⟨g,0,none⟩) n cap) tvs l es ts me next seen ((sent:Int)+1) ⟨kind,by_,no,dseen,at_,many,text⟩ (.slice ta tn tcap) t (w2.setCell ⟨P,4,none⟩ (.slice (some ⟨g,0,none⟩) n cap))):=by
  have e1:(w2.setCell ⟨P,4,none⟩ (.slice (some ⟨g,0,none⟩) n cap)).heap[w.heap.size]? =(w0.alloc (zm7 ⟨kind,by_,no,dseen,at_,many,text⟩ (.slice ta tn tcap))).heap[w.heap.size]? :=by
   rw[Below.heap_setCell _ _ _ _ (by show w.heap.size≠P;omega)]
   exact hk2.block _ HD1.out.lt (by omega)
  have e2:(w2.setCell ⟨P,4,none⟩ (.slice (some ⟨g,0,none⟩) n cap)).heap[w.heap.size+1]? =(w0.alloc (zm7 ⟨kind,by_,no,dseen,at_,many,text⟩ (.slice ta tn tcap))).heap[w.heap.size+1]? :=by
   rw[Below.heap_setCell _ _ _ _ (by show w.heap.size+1≠P;omega)]
   exact hk2.block _ HBX.out.deed.lt (by omega)
  exact⟨hdr.1,(zam.of_below HB1.out).trans' hdr.2.2,HD1.out.of_block' (by rw[hsz2];exact Nat.lt_of_lt_of_le HD1.out.lt hk2.size) e1,HBX.out.of_block (by rw[hsz2];exact Nat.lt_of_lt_of_le HBX.out.deed.lt hk2.size) e2,hdr.2.1,HSEP.out⟩
 have HW4:Hid (HW w base P S lv (.slice (some ⟨g,0,none⟩) n cap) tvs l es ts me next seen sent ⟨kind,by_,no,dseen,at_,many,text⟩ (.slice ta tn tcap) t ((w2.setCell ⟨P,4,none⟩ (.slice (some ⟨g,0,none⟩) n cap)).setCell ⟨P,5,none⟩ (.int .i64 sent))):=HW3.out.wrote HLO.out (HW3.out.at_.cells.setSent _)
 have HW5:Hid (HW w base P S lv (.slice (some ⟨g,0,none⟩) n cap) tvs l es ts me next ((seen:Int)+1) sent ⟨kind,by_,no,dseen,at_,many,text⟩ (.slice ta tn tcap) t (((w2.setCell ⟨P,4,none⟩ (.slice (some ⟨g,0,none⟩) n cap)).setCell ⟨P,5,none⟩ (.int .i64 sent)).setCell ⟨P,2,none⟩ (.int .i64 ((seen:Int)+1)))):=HW4.out.wrote HLO.out (HW4.out.at_.cells.setSeen _)
 have hP2:=hc2.lt
 have e4:=hc2.opens
 have e5:=hc2.sent
 have e2:=hc2.seen
 have f4:=hc2.free 4 (by omega)
 have f5:=hc2.free 5 (by omega)
 have f2:=hc2.free 2 (by omega)
 have d0:=HW5.out.deed
 have hdd:∀o,((((w2.setCell ⟨P,4,none⟩ (.slice (some ⟨g,0,none⟩) n cap)).setCell ⟨P,5,none⟩ (.int .i64 sent)).setCell ⟨P,2,none⟩ (.int .i64 ((seen:Int)+1)))).cell? ⟨w.heap.size,o,none⟩=w2.cell? ⟨w.heap.size,o,none⟩:=fun o=>by
  simp[go_sem]
 obtain⟨_,q0,q1,q2,q3,q4,q5,q6⟩:=d0
 simp only[Nat.zero_add]at q0 q1 q2 q3 q4 q5 q6
 rw[hdd]at q0 q1 q2 q3 q4 q5 q6
 have hne1:¬w.heap.size=P:=by omega
 have hne2:¬P=w.heap.size:=by omega
 clear ho2 hk2 hdr hc2 hdd hA1 hown1 HW3 HW4 HD0 HD1 HB0 HB1 HB0' HA1 HBX hsz2
 go_wp2_with fail
 refine(qc0 HW5.out.at_ (HL.out l rfl) (by rw[HN.out];exact hes) HTS.out ⟨kind,by_,no,dseen,at_,many,text⟩).mono ?_
 rintro e w6 ⟨rfl,hat6,hk6⟩
 have HW6:Hid _:=HW5.out.turned HLO.out hat6 hk6
 clear hat6 hk6 HW5 e4 e5 e2 f4 f5 f2 q0 q1 q2 q3 q4 q5 q6
 obtain⟨⟨hlt6,q0,q1,q2,q3,q4,q5,q6⟩,q7⟩:=HW6.out.box
 simp only[Nat.zero_add]at q0 q1 q2 q3 q4 q5 q6 q7
 go_wp2_with fail
 refine(qbo HW6.out.at_ HW6.out.own (fun k e e'=>(HW6.out.tS k e).2.2 (.inl e')) (HL.out _ (by simp)) HT0.out ⟨kind,by_,no,dseen,at_,many,text⟩).mono ?_
 rintro e w7 ⟨rfl,hat7,hk7⟩
 have HE:Hid ((∃ov',zd3 w7 base S P lv ov' tvs (l.map (zf2 no ((seen:Int)+1) t)) es (ts.map fun u=>u.map (zef no ((seen:Int)+1))) me next ((seen:Int)+1) sent)/\zam S w w7):=by
  refine⟨⟨.slice (some ⟨g,0,none⟩) n cap,?_⟩,HW6.out.kept.trans' (zjv hk7 (fun k e=>(HW6.out.at_.lB k e).1))⟩
  rw[<-ack_comp]
  exact hat7
 clear hat7 hk7 HW6 q0 q1 q2 q3 q4 q5 q6 q7
 go_wp2
 go_ret
 exact⟨rfl,HE.out⟩
def Tells(u:Value)(s:ByteArray)(wk:World):Prop:=∀w'',Below wk.heap.size wk w''->(convert 42 9 u).run Tryz.prog w''= .ok (.string s) w''
theorem qac{w:World}{v:Value}{l:List Ch}(h:Lst w v l)(hl:l.length<=1000)(seen by_:Int):
 Calls Tryz.prog 139 #[v,.int .i64 seen,.int .i64 by_] w fun e w'=>∃u,e= .returned u/\Tells u (strOfNums (vw l seen by_)) w'/\Below w.heap.size w w':=by
 obtain⟨a,len,cap,rfl,h1,h2,h3⟩:=h
 rcases h3 with rfl|⟨b,off,rfl,hr⟩
 ·obtain rfl:l=[]:=List.length_eq_zero_iff.1 h1
  refine(qad a cap seen by_ w).mono ?_
  rintro e w' ⟨rfl,hb⟩
  exact⟨_,rfl,fun w'' _=>zga (base:=w''.heap.size) (zs:=[]) (World.ownsRow_nil _ _ _ _),hb⟩
 refine(qcp b off len cap l seen by_ w h1 (by omega) hr).mono ?_
 rintro e w' ⟨u,rfl,ho,hb⟩
 exact⟨u,rfl,fun w'' hb'=>zga (zed ho hb'),hb⟩
variable {w:World} {base P:Nat} {S:Nat->Prop} {lv ov:Value} {tvs:List Value} {l:List Ch} {es:List Dd} {ts:List (List Ch)} {me next seen sent:Int}
theorem zrz(h:zd3 w base S P lv ov tvs l es ts me next seen sent):
 Calls Tryz.prog 165 #[.pointer (some ⟨P,0,none⟩)] w fun e w'=>e= .returned (.int .i64 seen)/\w'=w:=by
 have c2:=h.cells.seen
 have hlt:=h.cells.lt
 clear h
 go_enter Tryz.func165,Tryz.ntmps165
 go_wp2
 go_ret
 exact⟨rfl,rfl⟩
theorem chars_pw(h:zd3 w base S P lv ov tvs l es ts me next seen sent)(hl:l.length<=1000):
 Calls Tryz.prog 221 #[.pointer (some ⟨P,0,none⟩)] w fun e w'=>∃v',e= .returned v'/\Own w' w.heap.size v' l/\Below w.heap.size w w':=by
 have c0:=h.cells.list
 have hlt:=h.cells.lt
 have HL:=hid h.ownL.lst
 have HS:Hid (l.length<=100000):=by show _<=_;omega
 clear h
 go_enter Tryz.func221,Tryz.ntmps221
 go_wp2_with (go_at_call 160;refine(zhw HL.out HS.out).mono ?_;rintro e w' ⟨v',rfl,ho,hb⟩)
 go_ret
 exact⟨_,rfl,ho,hb⟩
def zh0(es:List Dd)(sent:Nat)(seen:Int):Int:=match es[sent]? with
 |some e=>e.seen
 |none=>seen
theorem least_pw{sent:Nat}(h:zd3 w base S P lv ov tvs l es ts me next seen sent):
 Calls Tryz.prog 168 #[.pointer (some ⟨P,0,none⟩)] w fun e w'=>e= .returned (.int .i64 (zh0 es sent seen))/\Below w.heap.size w w':=by
 have c2:=h.cells.seen
 have c4:=h.cells.opens
 have c5:=h.cells.sent
 have hlt:=h.cells.lt
 have hzl:=zkf h.len
 by_cases hs:sent<es.length
 ·have HE:Hid (zh0 es sent seen=es[sent].seen):=by show zh0 es sent seen=_;rw[zh0,List.getElem?_eq_getElem hs]
  have hT:=h.topen
  obtain⟨g,cap,rfl⟩:=hT.place (by omega)
  have hv:sent<tvs.length:=by rw[hT.len];exact hs
  obtain⟨⟨hg,_,_,_,g3,_,_,_⟩,_⟩:=hT.nth rfl hs hv
  generalize es[sent].seen=s at*
  have hs':(sent:Int)<(es.length:Int):=by omega
  clear h hT hzl
  go_enter Tryz.func168,Tryz.ntmps168
  iterate 2 (go_wp2;go_quiet (fail))
  go_wp2
  go_ret
  exact⟨zae HE.out.symm,below_drewN (below_drewN (Below.refl _ _) _) _⟩
 have HE:Hid (zh0 es sent seen=seen):=by show zh0 es sent seen=_;rw[zh0,List.getElem?_eq_none (by omega)]
 obtain⟨a,cap,rfl⟩:=h.topen.form
 have hs':¬(sent:Int)<(es.length:Int):=by omega
 clear h hzl
 go_enter Tryz.func168,Tryz.ntmps168
 go_wp2
 go_quiet (fail)
 go_wp2
 go_ret
 exact⟨zae HE.out.symm,below_drewN (Below.refl _ _) _⟩
theorem text_pw(h:zd3 w base S P lv ov tvs l es ts me next seen sent)(hl:l.length<=1000):
 Calls Tryz.prog 88 #[.pointer (some ⟨P,0,none⟩)] w fun e w'=>e= .returned (.string (strOfNums (vw l seen me)))/\Below w.heap.size w w':=by
 have HA:=hid h
 have HV:Hid (∀wk,Below w.heap.size w wk->Calls Tryz.prog 139 #[lv,.int .i64 seen,.int .i64 me] wk fun e w'=>∃u,e= .returned u/\Tells u (strOfNums (vw l seen me)) w'/\Below wk.heap.size wk w'):=fun wk hb=>qac (h.below hb).ownL.lst hl seen me
 have hlt:=h.cells.lt
 obtain⟨a,cap,rfl,_⟩:=h.ownL.lst.len
 generalize strOfNums (vw l seen me)=T at*
 clear h
 go_enter Tryz.func88,Tryz.ntmps88
 go_wp2
 refine wrs (fun wk=>Below w.heap.size w wk) (fun i=>i==12||i==13) (fun wk=>Below w.heap.size w wk) (by kernel_rfl) (by kernel_rfl) (by kernel_rfl) (fun _ h=>h) ((Below.refl _ _).drew) ?_
 iterate 3 (refine wss rfl (fun K hK=> ?_);go_simp;refine⟨_,fun _ _=>rfl,hK _ ?_⟩;clear hK K)
 refine wss rfl (fun K hK=> ?_)
 go_simp
 refine⟨.slice a l.length cap,fun wk hwk=> ?_,hK _ ?_⟩
 ·have c:=(HA.out.below hwk).cells.list
  go_simp
 iterate 3 (clear hK K;refine wss rfl (fun K hK=> ?_);go_simp;refine⟨_,fun _ _=>rfl,hK _ ?_⟩)
 clear hK K
 refine wss rfl (fun K hK=> ?_)
 go_simp
 refine⟨.int .i64 seen,fun wk hwk=> ?_,hK _ ?_⟩
 ·have c:=(HA.out.below hwk).cells.seen
  go_simp
 iterate 3 (clear hK K;refine wss rfl (fun K hK=> ?_);go_simp;refine⟨_,fun _ _=>rfl,hK _ ?_⟩)
 clear hK K
 refine wss rfl (fun K hK=> ?_)
 go_simp
 refine⟨.int .i64 me,fun wk hwk=> ?_,hK _ ?_⟩
 ·have c:=(HA.out.below hwk).cells.me
  go_simp
 clear hK K
 refine wsp rfl rfl (fun u=>True) (fun u wk=>Below w.heap.size w wk/\Tells u T wk) ⟨.bool false,trivial⟩ (fun _ _ h=>h.1) (fun wk hwk=> ?_) (fun v12 _hv12=> ?_)
 ·go_simp
  refine(HV.out wk hwk).mono ?_
  rintro e w6 ⟨u,rfl,hs,hb⟩
  exact⟨u,rfl,bla hwk hb,hs⟩
 refine wsp rfl rfl (fun u=>u= .string T) (fun u wk=>Below w.heap.size w wk) ⟨_,rfl⟩ (fun _ _ h=>h) (fun wk hwk=> ?_) (fun v13 hv13=> ?_)
 ·have hs:=hwk.2 _ (Below.refl _ _)
  go_simp
  exact⟨rfl,hwk.1⟩
 subst hv13
 refine wss rfl (fun K hK=> ?_)
 go_simp
 refine⟨_,fun _ _=>rfl,hK _ ?_⟩
 clear hK K
 refine wsn (fun w9 hw9=> ?_)
 have H9:Hid _:=hw9
 clear hw9
 go_wp2
 go_ret
 exact⟨rfl,H9.out⟩
variable {w w1 w' wk:World} {base P E:Nat} {S:Nat->Prop} {lv ov lv':Value} {tvs:List Value} {l:List Ch} {es:List Dd} {ts:List (List Ch)} {me next seen sent:Int}
theorem zd3.relist{l':List Ch}(h:zd3 w base S P lv ov tvs l es ts me next seen sent)(hb:Below w.heap.size w w1)(ho:Own w1 w.heap.size lv' l'):zd3 (w1.setCell ⟨P,3,none⟩ lv') base (grow S w w1) P lv' ov tvs l' es ts me next seen sent:=by
 have h1:=h.below hb
 have hP:=(h.lo P h.hP).2
 have hsz:(w1.setCell ⟨P,3,none⟩ lv').heap.size=w1.heap.size:=by simp[World.setCell]
 have hne:∀k,k≠P->(w1.setCell ⟨P,3,none⟩ lv').heap[k]? =w1.heap[k]? :=fun k e=>Below.heap_setCell _ _ _ _ e
 have hnew:∀k,lv'.ownBlock=some k->w.heap.size<=k/\k<w1.heap.size:=fun k e=>World.ownsRow.lt ho k e
 refine⟨fun k hs=>by rw[hsz];exact zkr h.base_le hb.size h.lo k hs,.inl h.hP,h1.cells.setList _,za5 (ho.mono h.base_le) (fun k e=>hne k (by have:=hnew k e;omega)),za5 h1.ownO (fun k e=>hne k (h1.oB k e).2.1),h.len,h1.tooks.of_block (fun v hv k e=>hne k (h1.tB v hv k e).2.1),fun k e=>⟨.inr (hnew k e),by have:=hnew k e;omega⟩,fun k e=>⟨.inl (h.oB k e).1,(h.oB k e).2.1,fun e'=> ?_⟩,fun tv ht k e=>⟨.inl (h.tB tv ht k e).1,(h.tB tv ht k e).2.1,fun e'=> ?_,(h.tB tv ht k e).2.2.2⟩,h.tD⟩
 ·have:=hnew k e';have:=(h.lo k (h.oB k e).1).2;omega
 have:=hnew k e';have:=(h.lo k (h.tB tv ht k e).1).2;omega
theorem zh3{p:Addr}{u:Value}:grow S w (w1.setCell p u)=grow S w w1:=by
 unfold grow
 simp[World.setCell]
theorem zni.of{ov':Value}{tvs':List Value}(hat:zd3 w' base (grow S w w') P lv' ov' tvs' l es ts me next seen sent)(hk:zam S w w'):zni w base S P l es ts me next seen sent w':=⟨⟨lv',ov',tvs',hat⟩,hk⟩
structure HJ(w:World)(d:Dd)(wk:World):Prop where
 below:Below w.heap.size w wk
 deed:zdq wk w.heap.size 0 d
def Did(w:World)(l':List Ch)(cc:Int)(u:Value)(wk:World):Prop:=∃v wj,u= .tuple #[v,.int .i64 cc]/\w.heap.size<=wj/\Own wk wj v l'
theorem HJ.after{d:Dd}(h:HJ w d wk)(hb:Below wk.heap.size wk w'):HJ w d w':=⟨bla h.below hb,h.deed.below hb⟩
theorem hears_pw{seen:Nat}(h:zd3 w base S P lv ov tvs l es ts me next seen sent)(hl:l.length<=1000)(hf:zi0 l)(hsn:seen<=1000)(d:Dd)(hne:d.by_≠me):
 Calls Tryz.prog 166 #[.pointer (some ⟨P,0,none⟩),ddV d] w fun e w'=>e= .returned (.int .i64 (doC l d ((seen:Int)+1)))/\(doC l d ((seen:Int)+1)=0->zni w base S P (doL l d ((seen:Int)+1)) es ts me next ((seen:Int)+1) sent w')/\(doC l d ((seen:Int)+1)≠0->Below w.heap.size w w'):=by
 have HA:=hid h
 have HDO:Hid (∀wk,Below w.heap.size w wk->Calls Tryz.prog 190 #[lv,ddV d,.int .i64 ((seen:Int)+1)] wk fun e w'=>∃v',e= .returned (.tuple #[v',.int .i64 (doC l d ((seen:Int)+1))])/\Own w' wk.heap.size v' (doR l d ((seen:Int)+1))/\Below wk.heap.size wk w'):=fun wk hb=>zvh l d ((seen:Int)+1) lv wk (h.below hb).ownL.lst hl hf
 have HI:Hid (HJ w d (w.alloc (zd9 d))):=⟨za2 _ _,zb4 w d⟩
 have hne':(d.by_==me)=false:=by simp[hne]
 have c0:=h.cells.me
 have hPlt:=h.cells.lt
 obtain⟨la,lcap,rfl,_⟩:=h.ownL.lst.len
 have HRL:Hid (doC l d ((seen:Int)+1)=0->doR l d ((seen:Int)+1)=doL l d ((seen:Int)+1)):=fun e=>by rw[doR,if_pos e]
 have HRN:Hid (∃n,l.length=n):=⟨_,rfl⟩
 obtain⟨ll,hll⟩:=HRN.out
 rw[hll]at HA HDO
 obtain⟨kind,by_,no,dseen,at_,many,text⟩:=d
 simp only at hne'
 generalize hcc:doC l ⟨kind,by_,no,dseen,at_,many,text⟩ ((seen:Int)+1)=cc at*
 have HCC:=hid hcc
 clear h hne hcc hl hf HRN hll
 go_enter Tryz.func166,Tryz.ntmps166
 go_wp2
 go_quiet (fail)
 go_wp2
 have HI1:Hid (HJ w ⟨kind,by_,no,dseen,at_,many,text⟩ ((w.alloc (zd9 ⟨kind,by_,no,dseen,at_,many,text⟩)).drewN nq)):=HI.out.after (below_drewN (Below.refl _ _) _)
 unfold zd9 at HI1
 generalize (w.alloc (.cells #[.int .i64 kind,.int .i64 by_,.int .i64 no,.int .i64 dseen,.int .i64 at_,.int .i64 many,.string text] 124)).drewN nq=w1 at*
 clear HI c0
 refine wrs (fun wk=>HJ w ⟨kind,by_,no,dseen,at_,many,text⟩ wk) (fun i=>i==10) (fun wk=>HJ w ⟨kind,by_,no,dseen,at_,many,text⟩ wk) (by kernel_rfl) (by kernel_rfl) (by kernel_rfl) (fun _ h=>h) (HI1.out.after (Below.refl _ _).drew) ?_
 iterate 3 (refine wss rfl (fun K hK=> ?_);go_simp;refine⟨_,fun _ _=>rfl,hK _ ?_⟩;clear hK K)
 refine wss rfl (fun K hK=> ?_)
 go_simp
 refine⟨.slice la ll lcap,fun wk hwk=> ?_,hK _ ?_⟩
 ·have c:=(HA.out.below hwk.below).cells.list
  go_simp
 clear hK K
 refine wss rfl (fun K hK=> ?_)
 go_simp
 refine⟨ddV ⟨kind,by_,no,dseen,at_,many,text⟩,fun wk hwk=> ?_,hK _ ?_⟩
 ·obtain⟨_,c0,c1,c2,c3,c4,c5,c6⟩:=hwk.deed
  simp only[Nat.zero_add]at c0 c1 c2 c3 c4 c5 c6
  go_simp
 iterate 3 (clear hK K;refine wss rfl (fun K hK=> ?_);go_simp;refine⟨_,fun _ _=>rfl,hK _ ?_⟩)
 clear hK K
 refine wss rfl (fun K hK=> ?_)
 go_simp
 refine⟨.int .i64 seen,fun wk hwk=> ?_,hK _ ?_⟩
 ·have c:=(HA.out.below hwk.below).cells.seen
  go_simp
 clear hK K
 refine wss rfl (fun K hK=> ?_)
 go_simp
 refine⟨.int .i64 ((seen:Int)+1),fun wk hwk=> ?_,hK _ ?_⟩
 ·rw[IntKind.wrap_i64]
  go_simp
  omega
 clear hK K
 refine wsp rfl rfl (fun u=>∃v,u= .tuple #[v,.int .i64 cc]) (fun u wk=>HJ w ⟨kind,by_,no,dseen,at_,many,text⟩ wk/\Did w (doR l ⟨kind,by_,no,dseen,at_,many,text⟩ ((seen:Int)+1)) cc u wk) ⟨_,.bool false,rfl⟩ (fun _ _ h=>h.1) (fun wk hwk=> ?_) (fun v10 hv10=> ?_)
 ·go_simp
  refine(HDO.out wk hwk.below).mono ?_
  rintro e w6 ⟨v,rfl,ho,hb⟩
  exact⟨_,rfl,⟨v,rfl⟩,hwk.after hb,v,wk.heap.size,rfl,hwk.below.size,ho⟩
 obtain⟨v,rfl⟩:=hv10
 iterate 5 (refine wss rfl (fun K hK=> ?_);go_simp;refine⟨_,fun _ _=>rfl,hK _ ?_⟩;clear hK K)
 refine wsn (fun w9 hw9=> ?_)
 have H9:Hid _:=hw9
 clear hw9
 obtain⟨hj,v',wj,he,hle,ho⟩:=H9.out
 have hvv:v=v':=by simpa using he
 subst hvv
 obtain⟨va,vcap,rfl,_⟩:=ho.lst.len
 have HOW:=hid (ho.mono hle)
 have HJ9:=hid hj
 have hc9:=(HA.out.below hj.below).cells
 have hP9:=hc9.lt
 have e3:=hc9.list
 have e2:=hc9.seen
 have f3:=hc9.free 3 (by omega)
 have f2:=hc9.free 2 (by omega)
 clear H9 he ho hj hle hc9 HDO
 generalize (doR l ⟨kind,by_,no,dseen,at_,many,text⟩ ((seen:Int)+1)).length=vl at*
 by_cases hz:cc=0
 ·have hz':(cc != 0)=false:=by simp[hz]
  have HR:Hid (zni w base S P (doL l ⟨kind,by_,no,dseen,at_,many,text⟩ ((seen:Int)+1)) es ts me next ((seen:Int)+1) sent ((w9.setCell ⟨P,3,none⟩ (.slice va vl vcap)).setCell ⟨P,2,none⟩ (.int .i64 ((seen:Int)+1)))):=by
   have ho:=HOW.out
   rw[HRL.out hz]at ho
   have h1:=HA.out.relist HJ9.out.below ho
   have h2:=h1.wrote (h1.cells.setSeen ((seen:Int)+1))
   refine zni.of (by rw[zh3,zh3];exact h2) (((zam.of_below HJ9.out.below).set (p:=⟨P,3,none⟩) HA.out.hP _).set (p:=⟨P,2,none⟩) HA.out.hP _)
  have HZ:=hid hz
  clear hz HOW HJ9
  go_wp2
  go_ret
  exact⟨zae HZ.out.symm,fun _=>HR.out,fun e=>absurd HZ.out e⟩
 have hz':(cc != 0)=true:=by simp[hz]
 have HZ:=hid hz
 clear hz
 go_wp2
 go_ret
 exact⟨rfl,fun e=>absurd e HZ.out,fun _=>HJ9.out.below⟩
theorem zxd(h:zd3 w base S P lv ov tvs l es ts me next seen sent)(d:Dd)(hb:d.by_=me)(R:Int->World->Prop)
 (hR:∀wk,HJ w d wk->Calls Tryz.prog 194 #[.pointer (some ⟨P,0,none⟩),ddV d] wk fun e w'=>∃c,e= .returned (.int .i64 c)/\R c w'):
 Calls Tryz.prog 166 #[.pointer (some ⟨P,0,none⟩),ddV d] w fun e w'=>∃c,e= .returned (.int .i64 c)/\R c w':=by
 have HI:Hid (HJ w d (w.alloc (zd9 d))):=⟨za2 _ _,zb4 w d⟩
 have HR:Hid _:=hR
 have hb':(d.by_==me)=true:=by simp[hb]
 have c0:=h.cells.me
 have hPlt:=h.cells.lt
 obtain⟨kind,by_,no,dseen,at_,many,text⟩:=d
 simp only at hb'
 clear h hb hR
 go_enter Tryz.func166,Tryz.ntmps166
 go_wp2
 go_quiet (fail)
 go_wp2_with fail
 refine(HR.out _ (HI.out.after (below_drewN (Below.refl _ _) _))).mono ?_
 rintro e w2 ⟨c,rfl,hr⟩
 have HE:Hid _:=hr
 clear hr HR HI c0
 go_wp2
 go_ret
 exact⟨c,rfl,HE.out⟩
theorem clear_pw(h:zd3 w base S P lv ov tvs l es ts me next seen sent)(hl:l.length<=1000)(least:Int):
 Calls Tryz.prog 121 #[.pointer (some ⟨P,0,none⟩),.int .i64 least] w fun e w'=>e= .returned (.int .i64 ((l.length:Int)-(ofL least l).length))/\zni w base S P (ofL least l) es ts me next seen sent w':=by
 have HA:=hid h
 have HLst:=hid h.ownL.lst
 have c3:=h.cells.list
 have hPlt:=h.cells.lt
 have hle:=zze least l
 obtain⟨la,lcap,rfl,_⟩:=h.ownL.lst.len
 clear h
 go_enter Tryz.func121,Tryz.ntmps121
 go_wp2_with fail
 refine(of_lst least HLst.out hl).mono ?_
 rintro e w1 ⟨v1,rfl,ho,hb⟩
 obtain⟨va,vcap,rfl,_⟩:=ho.lst.len
 have hc9:=(HA.out.below hb).cells
 have hP9:=hc9.lt
 have e3:=hc9.list
 have f3:=hc9.free 3 (by omega)
 have HR:Hid (zni w base S P (ofL least l) es ts me next seen sent (w1.setCell ⟨P,3,none⟩ (.slice va (ofL least l).length vcap))):=zni.of (by rw[zh3];exact HA.out.relist hb ho) ((zam.of_below hb).set (p:=⟨P,3,none⟩) HA.out.hP _)
 clear ho hb hc9
 go_wp2
 go_ret
 exact⟨rfl,HR.out⟩
theorem zc7{fn:Func}{p u:Tmp}(hf:fn.results= #[.cell p 124,.tmp u]){R:Ending->World->Prop}{a:Act}{w:World}{B:Nat}{d:Dd}{x:Value}(h:zdq w B 0 d)(h2:a.tmps.getD u undef=x)(h3:a.tmps.getD p undef= .pointer (some ⟨B,0,none⟩))(hd:a.defers=[])
 (hR:R (.returned (.tuple #[ddV d,x])) w):bodyPost Tryz.prog fn R Exit.ret a w:=by
 refine bodyPost_ret ?_ hd hR
 obtain⟨_,c0,c1,c2,c3,c4,c5,c6⟩:=h
 simp only[Nat.zero_add]at c0 c1 c2 c3 c4 c5 c6
 have hl:(loadVar 124 ⟨B,0,none⟩).run Tryz.prog w= .ok (ddV d) w:=by
  simp[go_sem,loadVar,loadCells,loadCellsFrom,Sem.run_bind,Tryz.isAgg124,Tryz.sizeOf124,c0,c1,c2,c3,c4,c5,c6]
 have hr:(results fn a.tmps).run Tryz.prog w=((asAddr (a.tmps.getD p undef)).run Tryz.prog w).andThen fun q w₁=>((loadVar 124 q).run Tryz.prog w₁).andThen fun v w₂=> .ok (.tuple #[v,a.tmps.getD u undef]) w₂:=by
  simp only[results,hf]
  simp[Sem.run_bind,Result.andThen]
 rw[hr,h2,h3]
 simp[asAddr,hl]
structure SJ(w:World)(base P:Nat)(S:Nat->Prop)(lv ov:Value)(tvs:List Value)(l:List Ch)(es:List Dd)(ts:List (List Ch))(me next seen sent:Int)(wk:World):Prop where
 at_:zd3 wk base S P lv ov tvs l es ts me next seen sent
 kept:zam S w wk
 lt:w.heap.size<wk.heap.size
 free:∀o,o<7->wk.frozen? ⟨w.heap.size,o,none⟩=false
 has:∀o,o<7->∃u,wk.cell? ⟨w.heap.size,o,none⟩=some u
theorem SJ.after{w wk w':World}{base P:Nat}{S:Nat->Prop}{lv ov:Value}{tvs:List Value}{l:List Ch}{es:List Dd}{ts:List (List Ch)}{me next seen sent:Int}(h:SJ w base P S lv ov tvs l es ts me next seen sent wk)(hb:Below wk.heap.size wk w'):SJ w base P S lv ov tvs l es ts me next seen sent w':=
 ⟨h.at_.below hb,h.kept.after hb,Nat.lt_of_lt_of_le h.lt hb.size,fun o ho=>by rw[(zdp hb).2 _ _ h.lt];exact h.free o ho,fun o ho=>by rw[(zdp hb).1 _ _ h.lt];exact h.has o ho⟩
theorem zdq.written(hlt:E<w.heap.size)(d:Dd)(hh:∀o,o<7->∃u,w.cell? ⟨E,o,none⟩=some u):zdq (((((((w.setCell ⟨E,0,none⟩ (.int .i64 d.kind)).setCell ⟨E,1,none⟩ (.int .i64 d.by_)).setCell ⟨E,2,none⟩ (.int .i64 d.no)).setCell ⟨E,3,none⟩ (.int .i64 d.seen)).setCell ⟨E,4,none⟩ (.int .i64 d.at_)).setCell ⟨E,5,none⟩ (.int .i64 d.many)).setCell ⟨E,6,none⟩ (.string d.text)) E 0 d:=by
 obtain⟨u0,h0⟩:=hh 0 (by omega)
 obtain⟨u1,h1⟩:=hh 1 (by omega)
 obtain⟨u2,h2⟩:=hh 2 (by omega)
 obtain⟨u3,h3⟩:=hh 3 (by omega)
 obtain⟨u4,h4⟩:=hh 4 (by omega)
 obtain⟨u5,h5⟩:=hh 5 (by omega)
 obtain⟨u6,h6⟩:=hh 6 (by omega)
 refine⟨by simpa [World.setCell]using hlt,?_,?_,?_,?_,?_,?_,?_⟩<;>simp[go_sem,h0,h1,h2,h3,h4,h5,h6]
theorem zgc(hE:w.heap.size<=E)(h:Below w.heap.size w wk)(d:Dd):Below w.heap.size w (((((((wk.setCell ⟨E,0,none⟩ (.int .i64 d.kind)).setCell ⟨E,1,none⟩ (.int .i64 d.by_)).setCell ⟨E,2,none⟩ (.int .i64 d.no)).setCell ⟨E,3,none⟩ (.int .i64 d.seen)).setCell ⟨E,4,none⟩ (.int .i64 d.at_)).setCell ⟨E,5,none⟩ (.int .i64 d.many)).setCell ⟨E,6,none⟩ (.string d.text)):=
 ((((((h.setCell (p:=⟨E,_,none⟩) hE _).setCell (p:=⟨E,_,none⟩) hE _).setCell (p:=⟨E,_,none⟩) hE _).setCell (p:=⟨E,_,none⟩) hE _).setCell (p:=⟨E,_,none⟩) hE _).setCell (p:=⟨E,_,none⟩) hE _).setCell (p:=⟨E,_,none⟩) hE _
structure SE(w:World)(base P:Nat)(S:Nat->Prop)(lv ov:Value)(tvs:List Value)(l:List Ch)(es:List Dd)(ts:List (List Ch))(me next seen sent:Int)(d:Dd)(wk:World):Prop where
 at_:zd3 wk base S P lv ov tvs l es ts me next seen sent
 kept:zam S w wk
 deed:zdq wk w.heap.size 0 d
theorem SJ.put(h:SJ w base P S lv ov tvs l es ts me next seen sent wk)(hlo:∀k,S k->k<w.heap.size)(d:Dd):SE w base P S lv ov tvs l es ts me next seen sent d (((((((wk.setCell ⟨w.heap.size,0,none⟩ (.int .i64 d.kind)).setCell ⟨w.heap.size,1,none⟩ (.int .i64 d.by_)).setCell ⟨w.heap.size,2,none⟩ (.int .i64 d.no)).setCell ⟨w.heap.size,3,none⟩ (.int .i64 d.seen)).setCell ⟨w.heap.size,4,none⟩ (.int .i64 d.at_)).setCell ⟨w.heap.size,5,none⟩ (.int .i64 d.many)).setCell ⟨w.heap.size,6,none⟩ (.string d.text)):=by
 have hk:zam (fun k=>k=w.heap.size) wk (((((((wk.setCell ⟨w.heap.size,0,none⟩ (.int .i64 d.kind)).setCell ⟨w.heap.size,1,none⟩ (.int .i64 d.by_)).setCell ⟨w.heap.size,2,none⟩ (.int .i64 d.no)).setCell ⟨w.heap.size,3,none⟩ (.int .i64 d.seen)).setCell ⟨w.heap.size,4,none⟩ (.int .i64 d.at_)).setCell ⟨w.heap.size,5,none⟩ (.int .i64 d.many)).setCell ⟨w.heap.size,6,none⟩ (.string d.text)):=by
  have h0:zam (fun k=>k=w.heap.size) wk wk:=zam.refl _ _
  exact((((((h0.set (p:=⟨w.heap.size,_,none⟩) rfl _).set (p:=⟨w.heap.size,_,none⟩) rfl _).set (p:=⟨w.heap.size,_,none⟩) rfl _).set (p:=⟨w.heap.size,_,none⟩) rfl _).set (p:=⟨w.heap.size,_,none⟩) rfl _).set (p:=⟨w.heap.size,_,none⟩) rfl _).set (p:=⟨w.heap.size,_,none⟩) rfl _
 refine⟨h.at_.kept hk (fun k hs e=>by have:=hlo k hs;omega),⟨hk.os.trans h.kept.os,hk.tape.trans h.kept.tape,hk.output.trans h.kept.output,Nat.le_trans h.kept.size hk.size,fun k hk' hn=>(hk.block k (Nat.lt_of_lt_of_le hk' h.kept.size) (by omega)).trans (h.kept.block k hk' hn)⟩,zdq.written h.lt d h.has⟩
theorem qe4{sent:Nat}(h:zd3 w base S P lv ov tvs l es ts me next seen sent)(hs:sent=es.length):
 Calls Tryz.prog 163 #[.pointer (some ⟨P,0,none⟩)] w fun e w'=>e= .returned (.tuple #[ddV ⟨0,0,0,0,0,0,⟨#[]⟩⟩,.bool false])/\Below w.heap.size w w':=by
 obtain⟨a,cap,rfl⟩:=h.topen.form
 have c4:=h.cells.opens
 have c5:=h.cells.sent
 have hPlt:=h.cells.lt
 have HZ:Hid (zdq (w.alloc (zd9 ⟨0,0,0,0,0,0,⟨#[]⟩⟩)) w.heap.size 0 ⟨0,0,0,0,0,0,⟨#[]⟩⟩):=zb4 w _
 rw[<-hs]at c4
 clear h hs
 go_enter Tryz.func163,Tryz.ntmps163
 go_wp2
 go_quiet (fail)
 go_wp2
 have HZ2:=HZ.out.below (below_drewN (Below.refl _ (w.alloc (zd9 ⟨0,0,0,0,0,0,⟨#[]⟩⟩))) nq)
 obtain⟨z,z0,z1,z2,z3,z4,z5,z6⟩:=HZ2
 simp only[Nat.zero_add]at z0 z1 z2 z3 z4 z5 z6
 refine zc7 (d:=⟨0,0,0,0,0,0,⟨#[]⟩⟩) rfl (zdq.written z ⟨0,0,0,0,0,0,⟨#[]⟩⟩ (fun o ho=> ?_)) rfl rfl rfl ?_
 ·rcases(show o=0\/o=1\/o=2\/o=3\/o=4\/o=5\/o=6 by omega)with rfl|rfl|rfl|rfl|rfl|rfl|rfl
  all_goals first|exact⟨_,z0⟩|exact⟨_,z1⟩|exact⟨_,z2⟩|exact⟨_,z3⟩|exact⟨_,z4⟩|exact⟨_,z5⟩|exact⟨_,z6⟩
 exact⟨rfl,zgc (Nat.le_refl _) (below_drewN (za2 _ _) _) ⟨0,0,0,0,0,0,⟨#[]⟩⟩⟩
theorem zu4{sent:Nat}(h:zd3 w base S P lv ov tvs l es ts me next seen sent)(hs:sent<es.length)(hes:es.length<=1000):
 Calls Tryz.prog 163 #[.pointer (some ⟨P,0,none⟩)] w fun e w'=>e= .returned (.tuple #[ddV es[sent],.bool true])/\zni w base S P l es ts me next seen ((sent:Int)+1) w':=by
 have HA:=hid h
 have HLO:Hid (∀k,S k->k<w.heap.size):=fun k hk=>(h.lo k hk).2
 obtain⟨g,cap,rfl⟩:=h.topen.place (by omega)
 have hv:sent<tvs.length:=by rw[h.len];exact hs
 have c4:=h.cells.opens
 have c5:=h.cells.sent
 have hPlt:=h.cells.lt
 have f5:=h.cells.free 5 (by omega)
 have hne:((sent:Int)==(es.length:Int))=false:=by simp;omega
 have hs':(sent:Int)<(es.length:Int):=by omega
 have HNTH:Hid (∀wk s',zd3 wk base S P lv (.slice (some ⟨g,0,none⟩) es.length cap) tvs l es ts me next seen s'->OoAt wk g (sent*8) es[sent] tvs[sent]):=fun wk s' hk=>hk.topen.nth rfl hs hv
 have HJ0:Hid (SJ w base P S lv (.slice (some ⟨g,0,none⟩) es.length cap) tvs l es ts me next seen sent (w.alloc (zd9 ⟨0,0,0,0,0,0,⟨#[]⟩⟩))):=by
  refine⟨h.below (za2 _ _),.of_below (za2 _ _),by simp,fun o ho=> ?_,fun o ho=> ?_⟩
  ·rcases(show o=0\/o=1\/o=2\/o=3\/o=4\/o=5\/o=6 by omega)with rfl|rfl|rfl|rfl|rfl|rfl|rfl<;>simp[go_sem]
  rcases(show o=0\/o=1\/o=2\/o=3\/o=4\/o=5\/o=6 by omega)with rfl|rfl|rfl|rfl|rfl|rfl|rfl<;>simp[go_sem]
 generalize hed:es[sent]=ed at*
 generalize tvs[sent]=etv at*
 obtain⟨ekind,eby,eno,eseen,eat,emany,etext⟩:=ed
 clear h hed
 go_enter Tryz.func163,Tryz.ntmps163
 go_wp2
 go_quiet (fail)
 go_wp2
 have HJ1:Hid (SJ w base P S lv (.slice (some ⟨g,0,none⟩) es.length cap) tvs l es ts me next seen ((sent:Int)+1) (((w.alloc (zd9 ⟨0,0,0,0,0,0,⟨#[]⟩⟩)).drewN nq).setCell ⟨P,5,none⟩ (.int .i64 ((sent:Int)+1)))):=by
  have h1:=HJ0.out.after (below_drewN (Below.refl _ (w.alloc (zd9 ⟨0,0,0,0,0,0,⟨#[]⟩⟩))) nq)
  have hw:=h1.at_.wrote (h1.at_.cells.setSent ((sent:Int)+1))
  have hPw:P≠w.heap.size:=by have:=HLO.out P h1.at_.hP;omega
  have hb:=Below.heap_setCell ((w.alloc (zd9 ⟨0,0,0,0,0,0,⟨#[]⟩⟩)).drewN nq) ⟨P,5,none⟩ (.int .i64 ((sent:Int)+1)) w.heap.size (fun e=>hPw e.symm)
  refine⟨hw,h1.kept.set (p:=⟨P,5,none⟩) h1.at_.hP _,by simp[World.setCell],fun o ho=> ?_,fun o ho=> ?_⟩
  ·rw[World.frozen?_of_block (a:=⟨w.heap.size,o,none⟩) hb];exact h1.free o ho
  rw[World.cell?_of_block (a:=⟨w.heap.size,o,none⟩) hb];exact h1.has o ho
 unfold zd9 at HJ1
 generalize ((w.alloc (.cells #[.int .i64 0,.int .i64 0,.int .i64 0,.int .i64 0,.int .i64 0,.int .i64 0,.string ⟨#[]⟩] 124)).drewN nq).setCell ⟨P,5,none⟩ (.int .i64 ((sent:Int)+1))=w1 at*
 clear HJ0 c4 c5 f5
 refine wrs (fun wk=>zd3 wk base S P lv (.slice (some ⟨g,0,none⟩) es.length cap) tvs l es ts me next seen ((sent:Int)+1)) (fun i=>i==12) (fun wk=>SJ w base P S lv (.slice (some ⟨g,0,none⟩) es.length cap) tvs l es ts me next seen ((sent:Int)+1) wk) (by kernel_rfl) (by kernel_rfl) (by kernel_rfl) (fun _ h=>h.at_) (HJ1.out.after (Below.refl _ _).drew) ?_
 iterate 3 (refine wss rfl (fun K hK=> ?_);go_simp;refine⟨_,fun _ _=>rfl,hK _ ?_⟩;clear hK K)
 refine wss rfl (fun K hK=> ?_)
 go_simp
 refine⟨.slice (some ⟨g,0,none⟩) es.length cap,fun wk hwk=> ?_,hK _ ?_⟩
 ·have c:=hwk.cells.opens
  go_simp
 iterate 3 (clear hK K;refine wss rfl (fun K hK=> ?_);go_simp;refine⟨_,fun _ _=>rfl,hK _ ?_⟩)
 clear hK K
 refine wss rfl (fun K hK=> ?_)
 go_simp
 refine⟨.int .i64 ((sent:Int)+1),fun wk hwk=> ?_,hK _ ?_⟩
 ·have c:=hwk.cells.sent
  go_simp
 clear hK K
 refine wss rfl (fun K hK=> ?_)
 go_simp
 refine⟨.int .i64 sent,fun wk hwk=> ?_,hK _ ?_⟩
 ·rw[IntKind.wrap_i64]
  go_simp
  omega
 clear hK K
 refine wss rfl (fun K hK=> ?_)
 go_simp
 refine⟨.pointer (some ⟨g,sent*8,none⟩),fun wk hwk=> ?_,hK _ ?_⟩
 ·go_simp
 clear hK K
 refine wss rfl (fun K hK=> ?_)
 go_simp
 refine⟨_,fun _ _=>rfl,hK _ ?_⟩
 clear hK K
 refine wss rfl (fun K hK=> ?_)
 go_simp
 refine⟨ddV ⟨ekind,eby,eno,eseen,eat,emany,etext⟩,fun wk hwk=> ?_,hK _ ?_⟩
 ·obtain⟨⟨_,c0,c1,c2,c3,c4,c5,c6⟩,_⟩:=HNTH.out wk _ hwk
  simp only[]at c0 c1 c2 c3 c4 c5 c6
  go_simp
 clear hK K
 refine wsp rfl rfl (fun u=>u= .tuple #[]) (fun u wk=>SE w base P S lv (.slice (some ⟨g,0,none⟩) es.length cap) tvs l es ts me next seen ((sent:Int)+1) ⟨ekind,eby,eno,eseen,eat,emany,etext⟩ wk) ⟨_,rfl⟩ (fun _ _ h=>h.at_) (fun wk hwk=> ?_) (fun v12 hv12=> ?_)
 ·have hlt:=hwk.lt
  obtain⟨y0,z0⟩:=hwk.has 0 (by omega)
  obtain⟨y1,z1⟩:=hwk.has 1 (by omega)
  obtain⟨y2,z2⟩:=hwk.has 2 (by omega)
  obtain⟨y3,z3⟩:=hwk.has 3 (by omega)
  obtain⟨y4,z4⟩:=hwk.has 4 (by omega)
  obtain⟨y5,z5⟩:=hwk.has 5 (by omega)
  obtain⟨y6,z6⟩:=hwk.has 6 (by omega)
  have f0:=hwk.free 0 (by omega)
  have f1:=hwk.free 1 (by omega)
  have f2:=hwk.free 2 (by omega)
  have f3:=hwk.free 3 (by omega)
  have f4:=hwk.free 4 (by omega)
  have f5:=hwk.free 5 (by omega)
  have f6:=hwk.free 6 (by omega)
  have hp:=hwk.put HLO.out ⟨ekind,eby,eno,eseen,eat,emany,etext⟩
  go_simp
  exact⟨rfl,hp⟩
 refine wss rfl (fun K hK=> ?_)
 go_simp
 refine⟨_,fun _ _=>rfl,hK _ ?_⟩
 clear hK K
 refine wsn (fun w9 hw9=> ?_)
 have H9:Hid _:=hw9
 clear hw9
 go_wp2
 refine zc7 (d:=⟨ekind,eby,eno,eseen,eat,emany,etext⟩) rfl H9.out.deed rfl rfl rfl ?_
 exact⟨rfl,zni.of (H9.out.at_.mono (fun _=> .inl) (zkr HA.out.base_le H9.out.kept.size HA.out.lo)) H9.out.kept⟩
end Go.Proofs.YtcbnnfeelhlapadGreatDoor