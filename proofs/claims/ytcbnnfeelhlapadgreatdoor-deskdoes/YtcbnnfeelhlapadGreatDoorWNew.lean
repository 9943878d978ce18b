/-
  WDoW, WNew.
-/
import Derived.Test.YtcbnnfeelhlapadGreatDoorLgT
namespace Go.Proofs.YtcbnnfeelhlapadGreatDoor
set_option maxHeartbeats 3200000
set_option maxRecDepth 20000
open Go.RowKit
variable {w wk w2:World} {d:Dd} {o base P H0:Nat} {kind by_ no seen at_ many me next sent:Int} {text:ByteArray} {es:List Dd} {tvs:List Value} {S:Nat->Prop} {lv ov lv' nov:Value} {l l' t:List Ch} {ts:List (List Ch)}
structure WJ(w:World)(d:Dd)(wk:World):Prop where
 below:Below w.heap.size w wk
 deed:zdq wk w.heap.size 0 d
 free:∀o,o<7->wk.frozen? ⟨w.heap.size,o,none⟩=false
 two:w.heap.size+1<wk.heap.size
 has2:∀o,o<7->∃u,wk.cell? ⟨w.heap.size+1,o,none⟩=some u
 free2:∀o,o<7->wk.frozen? ⟨w.heap.size+1,o,none⟩=false
theorem WJ.after{w':World}(h:WJ w d wk)(hb:Below wk.heap.size wk w'):WJ w d w':=by
 obtain⟨hc,hf⟩:=zdp hb
 exact⟨bla h.below hb,h.deed.below hb,fun o ho=>by rw[hf _ _ h.deed.lt];exact h.free o ho,Nat.lt_of_lt_of_le h.two hb.size,fun o ho=>by rw[hc _ _ h.two];exact h.has2 o ho,fun o ho=>by rw[hf _ _ h.two];exact h.free2 o ho⟩
theorem zm0(h:o<7):o=0\/o=1\/o=2\/o=3\/o=4\/o=5\/o=6:=by omega
theorem znl(w:World)(d:Dd):WJ w d ((w.alloc (zd9 d)).alloc (zd9 ⟨0,0,0,0,0,0,⟨#[]⟩⟩)):=by
 refine⟨below2 _ _ _,(zb4 w d).below (za2 _ _),fun o ho=> ?_,by simp,fun o ho=> ?_,fun o ho=> ?_⟩
 ·rcases zm0 ho with rfl|rfl|rfl|rfl|rfl|rfl|rfl<;>simp[go_sem]
 ·rcases zm0 ho with rfl|rfl|rfl|rfl|rfl|rfl|rfl<;>simp[go_sem]
 rcases zm0 ho with rfl|rfl|rfl|rfl|rfl|rfl|rfl<;>simp[go_sem]
theorem WJ.put{d':Dd}{u:Value}(h:WJ w d wk)(hd:zdq (wk.setCell ⟨w.heap.size,o,none⟩ u) w.heap.size 0 d'):WJ w d' (wk.setCell ⟨w.heap.size,o,none⟩ u):=by
 have hb:=Below.heap_setCell wk ⟨w.heap.size,o,none⟩ u (w.heap.size+1) (by show w.heap.size+1≠w.heap.size;omega)
 refine⟨h.below.setCell (p:=⟨w.heap.size,o,none⟩) (Nat.le_refl _) _,hd,fun q hq=>by simpa [go_sem]using h.free q hq,by simpa [World.setCell]using h.two,fun q hq=> ?_,fun q hq=> ?_⟩
 ·rw[World.cell?_of_block (a:=⟨w.heap.size+1,q,none⟩) hb];exact h.has2 q hq
 rw[World.frozen?_of_block (a:=⟨w.heap.size+1,q,none⟩) hb];exact h.free2 q hq
theorem WJ.setBy(h:WJ w ⟨kind,by_,no,seen,at_,many,text⟩ wk)(x:Int):WJ w ⟨kind,x,no,seen,at_,many,text⟩ (wk.setCell ⟨w.heap.size,1,none⟩ (.int .i64 x)):=by
 refine h.put ?_
 obtain⟨hlt,c0,c1,c2,c3,c4,c5,c6⟩:=h.deed
 simp only[Nat.zero_add]at c0 c1 c2 c3 c4 c5 c6
 refine⟨by simpa [World.setCell]using hlt,?_,?_,?_,?_,?_,?_,?_⟩<;>simp[go_sem,c0,c1,c2,c3,c4,c5,c6]
theorem WJ.setNo(h:WJ w ⟨kind,by_,no,seen,at_,many,text⟩ wk)(x:Int):WJ w ⟨kind,by_,x,seen,at_,many,text⟩ (wk.setCell ⟨w.heap.size,2,none⟩ (.int .i64 x)):=by
 refine h.put ?_
 obtain⟨hlt,c0,c1,c2,c3,c4,c5,c6⟩:=h.deed
 simp only[Nat.zero_add]at c0 c1 c2 c3 c4 c5 c6
 refine⟨by simpa [World.setCell]using hlt,?_,?_,?_,?_,?_,?_,?_⟩<;>simp[go_sem,c0,c1,c2,c3,c4,c5,c6]
theorem WJ.setSeen(h:WJ w ⟨kind,by_,no,seen,at_,many,text⟩ wk)(x:Int):WJ w ⟨kind,by_,no,x,at_,many,text⟩ (wk.setCell ⟨w.heap.size,3,none⟩ (.int .i64 x)):=by
 refine h.put ?_
 obtain⟨hlt,c0,c1,c2,c3,c4,c5,c6⟩:=h.deed
 simp only[Nat.zero_add]at c0 c1 c2 c3 c4 c5 c6
 refine⟨by simpa [World.setCell]using hlt,?_,?_,?_,?_,?_,?_,?_⟩<;>simp[go_sem,c0,c1,c2,c3,c4,c5,c6]
theorem WJ.setText(h:WJ w ⟨kind,by_,no,seen,at_,many,text⟩ wk)(x:ByteArray):WJ w ⟨kind,by_,no,seen,at_,many,x⟩ (wk.setCell ⟨w.heap.size,6,none⟩ (.string x)):=by
 refine h.put ?_
 obtain⟨hlt,c0,c1,c2,c3,c4,c5,c6⟩:=h.deed
 simp only[Nat.zero_add]at c0 c1 c2 c3 c4 c5 c6
 refine⟨by simpa [World.setCell]using hlt,?_,?_,?_,?_,?_,?_,?_⟩<;>simp[go_sem,c0,c1,c2,c3,c4,c5,c6]
def Did2(w:World)(l':List Ch)(cc:Int)(u:Value)(wk:World):Prop:=∃v wj,u= .tuple #[v,.int .i64 cc]/\w.heap.size+2<=wj/\Own wk wj v l'
structure YJ(w:World)(d:Dd)(lv':Value)(l':List Ch)(H0:Nat)(wk:World):Prop where
 wj:WJ w d wk
 own:Own wk (w.heap.size+2) lv' l'
 lt:∀k,lv'.ownBlock=some k->k<H0
 size:H0<=wk.heap.size
theorem YJ.after{w wk w':World}{d:Dd}{lv':Value}{l':List Ch}{H0:Nat}(h:YJ w d lv' l' H0 wk)(hb:Below wk.heap.size wk w'):YJ w d lv' l' H0 w':=⟨h.wj.after hb,h.own.below hb,h.lt,Nat.le_trans h.size hb.size⟩
def grow2(S:Nat->Prop)(w wk:World)(k:Nat):Prop:=S k\/(w.heap.size+2<=k/\k<wk.heap.size)
structure FJ(w:World)(base P:Nat)(S:Nat->Prop)(lv nov:Value)(tvs:List Value)(l:List Ch)(es:List Dd)(ts:List (List Ch))(me next seen sent:Int)(d:Dd)(lv':Value)(l':List Ch)(wk:World):Prop where
 at_:zd3 wk base (grow2 S w wk) P lv nov tvs l es ts me next seen sent
 kept:zam S w wk
 deed:zdq wk w.heap.size 0 d
 two:w.heap.size+1<wk.heap.size
 has2:∀o,o<7->∃u,wk.cell? ⟨w.heap.size+1,o,none⟩=some u
 free2:∀o,o<7->wk.frozen? ⟨w.heap.size+1,o,none⟩=false
 own:Own wk base lv' l'
 sep:∀k,lv'.ownBlock=some k->w.heap.size+2<=k/\k<wk.heap.size/\nov.ownBlock≠some k/\∀tv∈tvs,tv.ownBlock≠some k
structure ZJ(w:World)(base P:Nat)(S:Nat->Prop)(lv ov nov:Value)(tvs:List Value)(l:List Ch)(es:List Dd)(ts:List (List Ch))(me next seen sent:Int)(d:Dd)(lv':Value)(l':List Ch)(wk:World):Prop where
 pl:P<w.heap.size
 cells:PwC wk P lv ov me next seen sent
 ready:FJ w base P S lv nov tvs l es ts me next seen sent d lv' l' (wk.setCell ⟨P,4,none⟩ nov)
theorem zip_snoc(h:tvs.length=es.length)(d:Dd)(tv:Value):(es++[d]).zip (tvs++[tv])=es.zip tvs++[(d,tv)]:=by
 rw[List.zip_append (by omega)];rfl
theorem qch{w3:World}{tv:Value}{g n ncap:Nat}(h:zd3 w base S P lv ov tvs l es ts me next seen sent)(hy:YJ w d lv' l' H0 wk)(ht:Own wk H0 tv t)(hH:w.heap.size+2<=H0)(hg:wk.grownBy w3 ov.ownBlock)
 (hown:w3.ownsRow base 180 8 (.slice (some ⟨g,0,none⟩) n ncap) n (zdf (es.zip tvs++[(d,tv)]))) (hn:n=es.length+1) (hl:ov.ownBlock=some g\/wk.heap.size<=g) (hg3:g<w3.heap.size):
 ZJ w base P S lv ov (.slice (some ⟨g,0,none⟩) n ncap) (tvs++[tv]) l (es++[d]) (ts++[t]) me next seen sent d lv' l' w3:=by
 have hb:=hy.wj.below
 have hk:=h.below hb
 have hPlt:=(h.lo P h.hP).2
 have hws:=hb.size
 have hgP:g≠P:=by
  rcases hl with e|e
  ·exact(h.oB g e).2.1
  omega
 -- blocks that are not the open deeds' own are as they were
 have hblk:∀k,k<wk.heap.size->ov.ownBlock≠some k->w3.heap[k]? =wk.heap[k]? :=fun k hk' hne=>hg.block k hk' (fun e=>hne e.symm)
 have hc3:PwC w3 P lv ov me next seen sent:=hk.cells.kept hg.size (hblk P hk.cells.lt (fun e=>(h.oB P e).2.1 rfl))
 have hsz:(w3.setCell ⟨P,4,none⟩ (.slice (some ⟨g,0,none⟩) n ncap)).heap.size=w3.heap.size:=by simp[World.setCell]
 have hne:∀k,k≠P->(w3.setCell ⟨P,4,none⟩ (.slice (some ⟨g,0,none⟩) n ncap)).heap[k]? =w3.heap[k]? :=fun k e=>Below.heap_setCell _ _ _ _ e
 have hall:∀k,k<wk.heap.size->ov.ownBlock≠some k->k≠P->(w3.setCell ⟨P,4,none⟩ (.slice (some ⟨g,0,none⟩) n ncap)).heap[k]? =wk.heap[k]? :=fun k h1 h2 h3=>(hne k h3).trans (hblk k h1 h2)
 have hov:∀k,ov.ownBlock=some k->k<w.heap.size:=fun k e=>(h.lo k (h.oB k e).1).2
 have htv:∀k,tv.ownBlock=some k->H0<=k/\k<wk.heap.size:=fun k e=>World.ownsRow.lt ht k e
 have hlv:∀k,lv'.ownBlock=some k->w.heap.size+2<=k/\k<H0:=fun k e=>⟨(World.ownsRow.lt hy.own k e).1,hy.lt k e⟩
 have htwo:=hy.wj.two
 have hsize:=hy.size
 have h3s:=hg.size
 have hE1:(w3.setCell ⟨P,4,none⟩ (.slice (some ⟨g,0,none⟩) n ncap)).heap[w.heap.size]? =wk.heap[w.heap.size]? :=hall _ hy.wj.deed.lt (fun e=>by have:=hov _ e;omega) (by omega)
 have hE2:(w3.setCell ⟨P,4,none⟩ (.slice (some ⟨g,0,none⟩) n ncap)).heap[w.heap.size+1]? =wk.heap[w.heap.size+1]? :=hall _ hy.wj.two (fun e=>by have:=hov _ e;omega) (by omega)
 have hnovg:∀k,(Value.slice (some ⟨g,0,none⟩) n ncap).ownBlock=some k->k=g:=fun k e=>(Option.some.inj e).symm
 refine⟨hPlt,hc3,⟨⟨fun k hs=> ?_,.inl h.hP,hc3.setOpens _,za5 hk.ownL (fun k e=>hall k (by have:=(h.lo k (h.lB k e).1).2;omega) (fun e'=>(h.oB k e').2.2 e) (h.lB k e).2),?_,by rw[List.length_append,List.length_append,h.len];rfl,?_,fun k e=>⟨.inl (h.lB k e).1,(h.lB k e).2⟩,fun k e=> ?_,fun u hu k e=> ?_,?_⟩,?_,hy.wj.deed.of_block' (by rw[hsz];exact Nat.lt_of_lt_of_le hy.wj.deed.lt h3s) hE1,by rw[hsz];exact Nat.lt_of_lt_of_le hy.wj.two h3s,fun o ho=> ?_,fun o ho=> ?_,?_,fun k e=> ?_⟩⟩
 ·rw[hsz]
  rcases hs with hs|hs
  ·have:=h.lo k hs;omega
  rw[hsz]at hs
  have:=h.base_le
  omega
 ·rw[zip_snoc h.len]
  have e1:(es.zip tvs++[(d,tv)]).length=n:=by rw[List.length_append,zkf h.len,hn];rfl
  have:znc w3 base (.slice (some ⟨g,0,none⟩) n ncap) (es.zip tvs++[(d,tv)]):=by
   unfold znc
   rw[e1];exact hown
  exact za5 this (fun k e=>hne k (by rw[hnovg k e];exact hgP))
 ·refine zem.snoc ?_ (hk.tooks.of_block (fun v hv k e=>hall k (by have:=(h.lo k (h.tB v hv k e).1).2;omega) (fun e'=>(h.tB v hv k e).2.2.2 e') (h.tB v hv k e).2.1))
  have h0:Own wk base tv t:=ht.mono (by have:=h.base_le;omega)
  exact za5 h0 (fun k e=>hall k (htv k e).2 (fun e'=>by have:=hov k e';have:=htv k e;omega) (by have:=htv k e;omega))
 ·rw[hnovg k e]
  refine⟨?_,hgP,fun e'=> ?_⟩
  ·rcases hl with e|e
   ·exact .inl (h.oB g e).1
   exact .inr ⟨by omega,by rw[hsz];exact hg3⟩
  rcases hl with e|e
  ·exact(h.oB g e).2.2 e'
  have:=(h.lo g (h.lB g e').1).2;omega
 ·rcases List.mem_append.1 hu with hu|hu
  ·have h4:=h.tB u hu k e
   refine⟨.inl h4.1,h4.2.1,h4.2.2.1,fun e'=> ?_⟩
   have e2:=hnovg k e'
   rcases hl with e3|e3
   ·exact h4.2.2.2 (by rw[e2];exact e3)
   have:=(h.lo k h4.1).2;omega
  obtain rfl:u=tv:=by simpa using hu
  have h4:=htv k e
  refine⟨.inr ⟨by omega,by rw[hsz];omega⟩,by omega,fun e'=> ?_,fun e'=> ?_⟩
  ·have:=(h.lo k (h.lB k e').1).2;omega
  have e2:=hnovg k e'
  rcases hl with e3|e3
  ·have:=hov g e3;omega
  omega
 ·refine List.pairwise_append.2 ⟨h.tD,List.pairwise_singleton _ _,?_⟩
  intro a ha b hb' k e e'
  obtain rfl:b=tv:=by simpa using hb'
  have:=(h.lo k (h.tB a ha k e).1).2
  have:=htv k e'
  omega
 ·refine⟨hg.os.trans hb.os,hg.tape.trans hb.tape,hg.output.trans hb.output,by rw[hsz];omega,fun k hk' hn'=> ?_⟩
  rw[hall k (by omega) (fun e=>hn' (h.oB k e).1) (fun e=>hn' (by rw[e];exact h.hP))]
  exact hb.block k hk'
 ·rw[World.cell?_of_block (a:=⟨w.heap.size+1,o,none⟩) hE2];exact hy.wj.has2 o ho
 ·rw[World.frozen?_of_block (a:=⟨w.heap.size+1,o,none⟩) hE2];exact hy.wj.free2 o ho
 ·have h0:Own wk base lv' l':=hy.own.mono (by have:=h.base_le;omega)
  exact za5 h0 (fun k e=>hall k (by have:=hlv k e;have:=hy.size;omega) (fun e'=>by have:=hov k e';have:=hlv k e;omega) (by have:=hlv k e;omega))
 have h4:=hlv k e
 refine⟨h4.1,by rw[hsz];have:=hy.size;omega,fun e'=> ?_,fun u hu e'=> ?_⟩
 ·have e2:=hnovg k e'
  rcases hl with e3|e3
  ·have:=hov g e3;omega
  have:=hy.size;omega
 rcases List.mem_append.1 hu with hu|hu
 ·have:=(h.lo k (h.tB u hu k e').1).2;omega
 obtain rfl:u=tv:=by simpa using hu
 have:=htv k e';omega
theorem FJ.list(h:FJ w base P S lv nov tvs l es ts me next seen sent d lv' l' wk)(hlo:S P/\∀k,S k->base<=k/\k<w.heap.size)(hbs:base<=w.heap.size):
 zni w base S P l' es ts me (next+1) seen sent (((((((((wk.setCell ⟨P,3,none⟩ lv').setCell ⟨P,1,none⟩ (.int .i64 (next+1))).setCell ⟨w.heap.size+1,0,none⟩ (.int .i64 d.kind)).setCell ⟨w.heap.size+1,1,none⟩ (.int .i64 d.by_)).setCell ⟨w.heap.size+1,2,none⟩ (.int .i64 d.no)).setCell ⟨w.heap.size+1,3,none⟩ (.int .i64 d.seen)).setCell ⟨w.heap.size+1,4,none⟩ (.int .i64 d.at_)).setCell ⟨w.heap.size+1,5,none⟩ (.int .i64 d.many)).setCell ⟨w.heap.size+1,6,none⟩ (.string d.text))/\zdq (((((((((wk.setCell ⟨P,3,none⟩ lv').setCell ⟨P,1,none⟩ (.int .i64 (next+1))).setCell ⟨w.heap.size+1,0,none⟩ (.int .i64 d.kind)).setCell ⟨w.heap.size+1,1,none⟩ (.int .i64 d.by_)).setCell ⟨w.heap.size+1,2,none⟩ (.int .i64 d.no)).setCell ⟨w.heap.size+1,3,none⟩ (.int .i64 d.seen)).setCell ⟨w.heap.size+1,4,none⟩ (.int .i64 d.at_)).setCell ⟨w.heap.size+1,5,none⟩ (.int .i64 d.many)).setCell ⟨w.heap.size+1,6,none⟩ (.string d.text)) (w.heap.size+1) 0 d:=by
 have hP:=(hlo.2 P hlo.1).2
 have hne:∀k,k≠P->(wk.setCell ⟨P,3,none⟩ lv').heap[k]? =wk.heap[k]? :=fun k e=>Below.heap_setCell _ _ _ _ e
 have hsz:(wk.setCell ⟨P,3,none⟩ lv').heap.size=wk.heap.size:=by simp[World.setCell]
 have h1:zd3 (wk.setCell ⟨P,3,none⟩ lv') base (grow2 S w wk) P lv' nov tvs l' es ts me next seen sent:=by
  refine⟨fun k hs=>by rw[hsz];exact h.at_.lo k hs,h.at_.hP,h.at_.cells.setList _,za5 h.own (fun k e=>hne k (by have:=h.sep k e;omega)),za5 h.at_.ownO (fun k e=>hne k (h.at_.oB k e).2.1),h.at_.len,h.at_.tooks.of_block (fun v hv k e=>hne k (h.at_.tB v hv k e).2.1),fun k e=>⟨.inr ⟨(h.sep k e).1,(h.sep k e).2.1⟩,by have:=h.sep k e;omega⟩,fun k e=>⟨(h.at_.oB k e).1,(h.at_.oB k e).2.1,fun e'=>(h.sep k e').2.2.1 e⟩,fun tv ht k e=>⟨(h.at_.tB tv ht k e).1,(h.at_.tB tv ht k e).2.1,fun e'=>(h.sep k e').2.2.2 tv ht e,(h.at_.tB tv ht k e).2.2.2⟩,h.at_.tD⟩
 have h2:=h1.wrote (h1.cells.setNext (next+1))
 have hk2:zam S w ((wk.setCell ⟨P,3,none⟩ lv').setCell ⟨P,1,none⟩ (.int .i64 (next+1))):=(h.kept.set (p:=⟨P,3,none⟩) hlo.1 _).set (p:=⟨P,1,none⟩) hlo.1 _
 have hsz2:((wk.setCell ⟨P,3,none⟩ lv').setCell ⟨P,1,none⟩ (.int .i64 (next+1))).heap.size=wk.heap.size:=by simp[World.setCell]
 have hE:((wk.setCell ⟨P,3,none⟩ lv').setCell ⟨P,1,none⟩ (.int .i64 (next+1))).heap[w.heap.size+1]? =wk.heap[w.heap.size+1]? :=by
  rw[Below.heap_setCell _ _ _ _ (by show w.heap.size+1≠P;omega),hne _ (by omega)]
 have hhas:∀o,o<7->∃u,((wk.setCell ⟨P,3,none⟩ lv').setCell ⟨P,1,none⟩ (.int .i64 (next+1))).cell? ⟨w.heap.size+1,o,none⟩=some u:=fun o ho=>by
  rw[World.cell?_of_block (a:=⟨w.heap.size+1,o,none⟩) hE];exact h.has2 o ho
 have htwo:w.heap.size+1<((wk.setCell ⟨P,3,none⟩ lv').setCell ⟨P,1,none⟩ (.int .i64 (next+1))).heap.size:=by rw[hsz2];exact h.two
 have hkd:zam (fun k=>k=w.heap.size+1) ((wk.setCell ⟨P,3,none⟩ lv').setCell ⟨P,1,none⟩ (.int .i64 (next+1))) (((((((((wk.setCell ⟨P,3,none⟩ lv').setCell ⟨P,1,none⟩ (.int .i64 (next+1))).setCell ⟨w.heap.size+1,0,none⟩ (.int .i64 d.kind)).setCell ⟨w.heap.size+1,1,none⟩ (.int .i64 d.by_)).setCell ⟨w.heap.size+1,2,none⟩ (.int .i64 d.no)).setCell ⟨w.heap.size+1,3,none⟩ (.int .i64 d.seen)).setCell ⟨w.heap.size+1,4,none⟩ (.int .i64 d.at_)).setCell ⟨w.heap.size+1,5,none⟩ (.int .i64 d.many)).setCell ⟨w.heap.size+1,6,none⟩ (.string d.text)):=by
  have h0:zam (fun k=>k=w.heap.size+1) ((wk.setCell ⟨P,3,none⟩ lv').setCell ⟨P,1,none⟩ (.int .i64 (next+1))) ((wk.setCell ⟨P,3,none⟩ lv').setCell ⟨P,1,none⟩ (.int .i64 (next+1))):=zam.refl _ _
  exact((((((h0.set (p:=⟨w.heap.size+1,_,none⟩) rfl _).set (p:=⟨w.heap.size+1,_,none⟩) rfl _).set (p:=⟨w.heap.size+1,_,none⟩) rfl _).set (p:=⟨w.heap.size+1,_,none⟩) rfl _).set (p:=⟨w.heap.size+1,_,none⟩) rfl _).set (p:=⟨w.heap.size+1,_,none⟩) rfl _).set (p:=⟨w.heap.size+1,_,none⟩) rfl _
 have h3:=h2.kept hkd (fun k hs e=>by
  rcases hs with hs|hs
  ·have:=(hlo.2 k hs).2;omega
  omega)
 refine⟨zni.of (h3.mono (fun k hs=> ?_) (zkr hbs (Nat.le_trans hk2.size hkd.size) hlo.2)) ⟨hkd.os.trans hk2.os,hkd.tape.trans hk2.tape,hkd.output.trans hk2.output,Nat.le_trans hk2.size hkd.size,fun k hk hn=>(hkd.block k (Nat.lt_of_lt_of_le hk hk2.size) (by omega)).trans (hk2.block k hk hn)⟩,zdq.written htwo d hhas⟩
 rcases hs with hs|hs
 ·exact .inl hs
 exact .inr ⟨by omega,by have:=hkd.size;omega⟩
structure YU(w:World)(P:Nat)(lv ov:Value)(me next seen sent:Int)(d:Dd)(wk:World):Prop where
 cells:PwC wk P lv ov me next seen sent
 deed:zdq wk w.heap.size 0 d
theorem yu_of(h:zd3 w base S P lv ov tvs l es ts me next seen sent)(hj:WJ w d wk):YU w P lv ov me next seen sent d wk:=⟨(h.below hj.below).cells,hj.deed⟩
theorem yz_of(h:ZJ w base P S lv ov nov tvs l es ts me next seen sent d lv' l' wk):YU w P lv ov me next seen sent d wk:=by
 refine⟨h.cells,?_⟩
 have hP:P≠w.heap.size:=by have:=h.pl;omega
 refine h.ready.deed.of_block' (by simpa [World.setCell]using h.ready.deed.lt) ?_
 rw[Below.heap_setCell _ _ _ _ (fun e=>hP e.symm)]
structure SrcO(d:Dd)(tv:Value)(t:List Ch)(H0:Nat)(u:Value)(wk:World):Prop where
 own:Own wk H0 tv t
 src:∀b,u= .slice (some ⟨b,0,none⟩) 1 1->∀j x,(zdf [(d,tv)])[j]? =some x->wk.cell? ((⟨b,0,none⟩:Addr).add j)=some x
theorem srco_new(d:Dd)(tv:Value)(h:Own wk H0 tv t):SrcO d tv t H0 (.slice (some ⟨wk.heap.size,0,none⟩) 1 1) (wk.alloc (zm7 d tv)):=by
 refine⟨h.below (za2 _ _),fun b hb j x hx=> ?_⟩
 have hbb:b=wk.heap.size:=by simpa using hb.symm
 rw[hbb,zdv,Nat.zero_add]
 rw[cell_of_row (wk.alloc (zm7 d tv)) wk.heap.size j _ 180 (0,0) (heap_alloc_new wk _)]
 simpa [zdf,zm8,zf9]using hx
def zev(d:Dd)(me next seen:Int):Dd:=⟨d.kind,me,next,seen,d.at_,d.many,d.text⟩
theorem do_no(h:zd3 w base S P lv ov tvs l es ts me next seen sent)(hl:l.length<=1000)(hf:zi0 l)(d:Dd)(hz:doC l (zev d me next seen) za3≠0):
 Calls Tryz.prog 162 #[.pointer (some ⟨P,0,none⟩),ddV d] w fun e w'=>e= .returned (.tuple #[ddV ⟨0,0,0,0,0,0,⟨#[]⟩⟩,.int .i64 (doC l (zev d me next seen) za3)])/\Below w.heap.size w w':=by
 have HA:Hid (zd3 w base S P lv ov tvs l es ts me next seen sent):=h
 have hPlt:=h.cells.lt
 obtain⟨kind,by0,no0,seen0,at_,many,text⟩:=d
 have HI:Hid (WJ w ⟨kind,by0,no0,seen0,at_,many,text⟩ ((w.alloc (zd9 ⟨kind,by0,no0,seen0,at_,many,text⟩)).alloc (zd9 ⟨0,0,0,0,0,0,⟨#[]⟩⟩))):=znl w _
 have HDO:Hid (∀wk,Below w.heap.size w wk->Calls Tryz.prog 190 #[lv,ddV ⟨kind,me,next,seen,at_,many,text⟩,.int .i64 1073741824] wk fun e w'=>∃v',e= .returned (.tuple #[v',.int .i64 (doC l ⟨kind,me,next,seen,at_,many,text⟩ za3)])/\Own w' wk.heap.size v' (doR l ⟨kind,me,next,seen,at_,many,text⟩ za3)/\Below wk.heap.size wk w'):=fun wk hb=>zvh l ⟨kind,me,next,seen,at_,many,text⟩ za3 lv wk (h.below hb).ownL.lst hl hf
 obtain⟨la,lcap,rfl,_⟩:=h.ownL.lst.len
 generalize hcc:doC l ⟨kind,me,next,seen,at_,many,text⟩ za3=cc at*
 have HCC:Hid (doC l (zev ⟨kind,by0,no0,seen0,at_,many,text⟩ me next seen) za3=cc):=hcc
 have HZ:Hid (cc≠0):=by show cc≠0;rw[<-HCC.out];exact hz
 clear h hz hcc hf
 go_enter Tryz.func162,Tryz.ntmps162
 go_wp2
 refine wrs (fun wk=>Below w.heap.size w wk) (fun i=>i==13||i==15||i==17) (fun wk=>WJ w ⟨kind,by0,no0,seen0,at_,many,text⟩ wk) (by kernel_rfl) (by kernel_rfl) (by kernel_rfl) (fun _ h=>h.below) (HI.out.after (Below.refl _ _).drew) ?_
 iterate 3 (refine wss rfl (fun K hK=> ?_);go_simp;refine⟨_,fun _ _=>rfl,hK _ ?_⟩;clear hK K)
 refine wss rfl (fun K hK=> ?_)
 go_simp
 refine⟨.int .i64 me,fun wk hwk=> ?_,hK _ ?_⟩
 ·have c:=(HA.out.below hwk).cells.me
  go_simp
 iterate 3 (clear hK K;refine wss rfl (fun K hK=> ?_);go_simp;refine⟨_,fun _ _=>rfl,hK _ ?_⟩)
 clear hK K
 refine wss rfl (fun K hK=> ?_)
 go_simp
 refine⟨.int .i64 next,fun wk hwk=> ?_,hK _ ?_⟩
 ·have c:=(HA.out.below hwk).cells.next
  go_simp
 iterate 3 (clear hK K;refine wss rfl (fun K hK=> ?_);go_simp;refine⟨_,fun _ _=>rfl,hK _ ?_⟩)
 clear hK K
 refine wss rfl (fun K hK=> ?_)
 go_simp
 refine⟨.int .i64 seen,fun wk hwk=> ?_,hK _ ?_⟩
 ·have c:=(HA.out.below hwk).cells.seen
  go_simp
 clear hK K
 refine wss rfl (fun K hK=> ?_)
 go_simp
 refine⟨_,fun _ _=>rfl,hK _ ?_⟩
 clear hK K
 refine wsp rfl rfl (fun u=>u= .tuple #[]) (fun u wk=>WJ w ⟨kind,me,no0,seen0,at_,many,text⟩ wk) ⟨_,rfl⟩ (fun _ _ h=>h.below) (fun wk hwk=> ?_) (fun v13 hv13=> ?_)
 ·obtain⟨hlt,c0,c1,c2,c3,c4,c5,c6⟩:=hwk.deed
  simp only[Nat.zero_add]at c0 c1 c2 c3 c4 c5 c6
  have f:=hwk.free 1 (by omega)
  have hp:=hwk.setBy me
  go_simp
  exact⟨rfl,hp⟩
 refine wss rfl (fun K hK=> ?_)
 go_simp
 refine⟨_,fun _ _=>rfl,hK _ ?_⟩
 clear hK K
 refine wsp rfl rfl (fun u=>u= .tuple #[]) (fun u wk=>WJ w ⟨kind,me,next,seen0,at_,many,text⟩ wk) ⟨_,rfl⟩ (fun _ _ h=>h.below) (fun wk hwk=> ?_) (fun v15 hv15=> ?_)
 ·obtain⟨hlt,c0,c1,c2,c3,c4,c5,c6⟩:=hwk.deed
  simp only[Nat.zero_add]at c0 c1 c2 c3 c4 c5 c6
  have f:=hwk.free 2 (by omega)
  have hp:=hwk.setNo next
  go_simp
  exact⟨rfl,hp⟩
 refine wss rfl (fun K hK=> ?_)
 go_simp
 refine⟨_,fun _ _=>rfl,hK _ ?_⟩
 clear hK K
 refine wsp rfl rfl (fun u=>u= .tuple #[]) (fun u wk=>WJ w ⟨kind,me,next,seen,at_,many,text⟩ wk) ⟨_,rfl⟩ (fun _ _ h=>h.below) (fun wk hwk=> ?_) (fun v17 hv17=> ?_)
 ·obtain⟨hlt,c0,c1,c2,c3,c4,c5,c6⟩:=hwk.deed
  simp only[Nat.zero_add]at c0 c1 c2 c3 c4 c5 c6
  have f:=hwk.free 3 (by omega)
  have hp:=hwk.setSeen seen
  go_simp
  exact⟨rfl,hp⟩
 refine wsn (fun w1 hw1=> ?_)
 have H1:Hid _:=hw1
 clear hw1
 have HJ1:Hid (WJ w ⟨kind,me,next,seen,at_,many,text⟩ w1):=H1
 clear H1 HI
 go_wp2
 refine wrs (fun wk=>WJ w ⟨kind,me,next,seen,at_,many,text⟩ wk) (fun i=>i==5) (fun wk=>WJ w ⟨kind,me,next,seen,at_,many,text⟩ wk) (by kernel_rfl) (by kernel_rfl) (by kernel_rfl) (fun _ h=>h) (HJ1.out.after (Below.refl _ _).drew) ?_
 iterate 3 (refine wss rfl (fun K hK=> ?_);go_simp;refine⟨_,fun _ _=>rfl,hK _ ?_⟩;clear hK K)
 refine wss rfl (fun K hK=> ?_)
 go_simp
 refine⟨.slice la l.length lcap,fun wk hwk=> ?_,hK _ ?_⟩
 ·have c:=(HA.out.below hwk.below).cells.list
  go_simp
 clear hK K
 refine wss rfl (fun K hK=> ?_)
 go_simp
 refine⟨ddV ⟨kind,me,next,seen,at_,many,text⟩,fun wk hwk=> ?_,hK _ ?_⟩
 ·obtain⟨_,c0,c1,c2,c3,c4,c5,c6⟩:=hwk.deed
  simp only[Nat.zero_add]at c0 c1 c2 c3 c4 c5 c6
  go_simp
 clear hK K
 refine wsp rfl rfl (fun u=>∃v,u= .tuple #[v,.int .i64 cc]) (fun u wk=>WJ w ⟨kind,me,next,seen,at_,many,text⟩ wk/\Did2 w (doR l ⟨kind,me,next,seen,at_,many,text⟩ za3) cc u wk) ⟨_,.bool false,rfl⟩ (fun _ _ h=>h.1) (fun wk hwk=> ?_) (fun v5 hv5=> ?_)
 ·go_simp
  refine(HDO.out wk hwk.below).mono ?_
  rintro e w6 ⟨v,rfl,ho,hb⟩
  exact⟨_,rfl,⟨v,rfl⟩,hwk.after hb,v,wk.heap.size,rfl,hwk.two,ho⟩
 obtain⟨v,rfl⟩:=hv5
 iterate 5 (refine wss rfl (fun K hK=> ?_);go_simp;refine⟨_,fun _ _=>rfl,hK _ ?_⟩;clear hK K)
 refine wsn (fun w9 hw9=> ?_)
 have H9:Hid _:=hw9
 clear hw9
 obtain⟨hj,v',wj,he,hle,ho⟩:=H9.out
 have hvv:v=v':=by simpa using he
 subst hvv
 have HJ9:Hid (WJ w ⟨kind,me,next,seen,at_,many,text⟩ w9):=hj
 have HOW:Hid (Own w9 (w.heap.size+2) v (doR l ⟨kind,me,next,seen,at_,many,text⟩ za3)):=ho.mono hle
 clear H9 he ho hj hle HJ1
 have hz':(cc != 0)=true:=by simp[HZ.out]
 clear HDO HA
 have two:=HJ9.out.two
 obtain⟨y0,z0⟩:=HJ9.out.has2 0 (by omega)
 obtain⟨y1,z1⟩:=HJ9.out.has2 1 (by omega)
 obtain⟨y2,z2⟩:=HJ9.out.has2 2 (by omega)
 obtain⟨y3,z3⟩:=HJ9.out.has2 3 (by omega)
 obtain⟨y4,z4⟩:=HJ9.out.has2 4 (by omega)
 obtain⟨y5,z5⟩:=HJ9.out.has2 5 (by omega)
 obtain⟨y6,z6⟩:=HJ9.out.has2 6 (by omega)
 have f0:=HJ9.out.free2 0 (by omega)
 have f1:=HJ9.out.free2 1 (by omega)
 have f2:=HJ9.out.free2 2 (by omega)
 have f3:=HJ9.out.free2 3 (by omega)
 have f4:=HJ9.out.free2 4 (by omega)
 have f5:=HJ9.out.free2 5 (by omega)
 have f6:=HJ9.out.free2 6 (by omega)
 go_wp2
 refine zc7 (d:=⟨0,0,0,0,0,0,⟨#[]⟩⟩) (x:= .int .i64 cc) rfl (zdq.written two ⟨0,0,0,0,0,0,⟨#[]⟩⟩ HJ9.out.has2) rfl rfl rfl ?_
 exact⟨by rw[HCC.out],zgc (Nat.le_succ _) HJ9.out.below ⟨0,0,0,0,0,0,⟨#[]⟩⟩⟩
theorem do_yes(h:zd3 w base S P lv ov tvs l es ts me next seen sent)(hl:l.length<=1000)(hf:zi0 l)(hes:es.length<=1000)(hnx:next<=1000)(d:Dd)(hz:doC l (zev d me next seen) za3=0):
 Calls Tryz.prog 162 #[.pointer (some ⟨P,0,none⟩),ddV d] w fun e w'=>e= .returned (.tuple #[ddV (zev d me next seen),.int .i64 0])/\zni w base S P (doL l (zev d me next seen) za3) (es++[zev d me next seen]) (ts++[zel l (zev d me next seen)]) me (next+1) seen sent w':=by
 have hck:=zah (zc0 hz).1
 have hcn:=(zc0 hz).2.1
 have hn1:1<=next:=hck.2.2.1
 have htx:d.text.size<=1000:=by have:=(zc0 hz).2.2.1;have e:(zev d me next seen).text.size=d.text.size:=rfl;omega
 obtain⟨i,hi⟩:∃i:Nat,d.at_=i:=⟨d.at_.toNat,by have:0<=d.at_:=hck.2.2.2.2.2.2.1;omega⟩
 obtain⟨m,hm⟩:∃m:Nat,d.many=m:=⟨d.many.toNat,by have:0<=d.many:=hck.2.2.2.2.2.2.2.2.1;omega⟩
 have HIM:Hid (i+m<=(l.filter (za7 seen me)).length):=by
  have e1:(zev d me next seen).at_=i:=hi
  have e2:(zev d me next seen).many=m:=hm
  rw[e1,e2]at hcn
  have e3:cnt l (zev d me next seen).seen (zev d me next seen).by_=((l.filter (za7 seen me)).length:Int):=rfl
  rw[e3]at hcn
  show _<=_
  omega
 have HTL:Hid (zel l (zev d me next seen)=((l.filter (za7 seen me)).drop i).take m):=by
  show zel l (zev d me next seen)=_
  have e1:(zev d me next seen).at_.toNat=i:=by show d.at_.toNat=i;omega
  have e2:(zev d me next seen).many.toNat=m:=by show d.many.toNat=m;omega
  rw[zel,e1,e2]
  rfl
 have HRL:Hid (doR l (zev d me next seen) za3=doL l (zev d me next seen) za3):=by show _=_;rw[doR,if_pos hz]
 clear hck hcn
 have HA:=hid h
 have hPlt:=h.cells.lt
 obtain⟨kind,by0,no0,seen0,at_,many,text⟩:=d
 obtain rfl:at_=i:=hi
 obtain rfl:many=m:=hm
 have HI:Hid (WJ w ⟨kind,by0,no0,seen0,(i:Int),(m:Int),text⟩ ((w.alloc (zd9 ⟨kind,by0,no0,seen0,(i:Int),(m:Int),text⟩)).alloc (zd9 ⟨0,0,0,0,0,0,⟨#[]⟩⟩))):=znl w _
 have HDO:Hid (∀wk,Below w.heap.size w wk->Calls Tryz.prog 190 #[lv,ddV ⟨kind,me,next,seen,(i:Int),(m:Int),text⟩,.int .i64 1073741824] wk fun e w'=>∃v',e= .returned (.tuple #[v',.int .i64 (doC l ⟨kind,me,next,seen,(i:Int),(m:Int),text⟩ za3)])/\Own w' wk.heap.size v' (doR l ⟨kind,me,next,seen,(i:Int),(m:Int),text⟩ za3)/\Below wk.heap.size wk w'):=fun wk hb=>zvh l ⟨kind,me,next,seen,(i:Int),(m:Int),text⟩ za3 lv wk (h.below hb).ownL.lst hl hf
 obtain⟨la,lcap,rfl,_⟩:=h.ownL.lst.len
 generalize hcc:doC l ⟨kind,me,next,seen,(i:Int),(m:Int),text⟩ za3=cc at*
 have HCC:=hid hcc
 have HZ:Hid (cc=0):=by show cc=0;rw[<-HCC.out];exact hz
 clear h hz hcc hf
 go_enter Tryz.func162,Tryz.ntmps162
 go_wp2
 refine wrs (fun wk=>Below w.heap.size w wk) (fun i=>i==13||i==15||i==17) (fun wk=>WJ w ⟨kind,by0,no0,seen0,(i:Int),(m:Int),text⟩ wk) (by kernel_rfl) (by kernel_rfl) (by kernel_rfl) (fun _ h=>h.below) (HI.out.after (Below.refl _ _).drew) ?_
 iterate 3 (refine wss rfl (fun K hK=> ?_);go_simp;refine⟨_,fun _ _=>rfl,hK _ ?_⟩;clear hK K)
 refine wss rfl (fun K hK=> ?_)
 go_simp
 refine⟨.int .i64 me,fun wk hwk=> ?_,hK _ ?_⟩
 ·have c:=(HA.out.below hwk).cells.me
  go_simp
 iterate 3 (clear hK K;refine wss rfl (fun K hK=> ?_);go_simp;refine⟨_,fun _ _=>rfl,hK _ ?_⟩)
 clear hK K
 refine wss rfl (fun K hK=> ?_)
 go_simp
 refine⟨.int .i64 next,fun wk hwk=> ?_,hK _ ?_⟩
 ·have c:=(HA.out.below hwk).cells.next
  go_simp
 iterate 3 (clear hK K;refine wss rfl (fun K hK=> ?_);go_simp;refine⟨_,fun _ _=>rfl,hK _ ?_⟩)
 clear hK K
 refine wss rfl (fun K hK=> ?_)
 go_simp
 refine⟨.int .i64 seen,fun wk hwk=> ?_,hK _ ?_⟩
 ·have c:=(HA.out.below hwk).cells.seen
  go_simp
 clear hK K
 refine wss rfl (fun K hK=> ?_)
 go_simp
 refine⟨_,fun _ _=>rfl,hK _ ?_⟩
 clear hK K
 refine wsp rfl rfl (fun u=>u= .tuple #[]) (fun u wk=>WJ w ⟨kind,me,no0,seen0,(i:Int),(m:Int),text⟩ wk) ⟨_,rfl⟩ (fun _ _ h=>h.below) (fun wk hwk=> ?_) (fun v13 hv13=> ?_)
 ·obtain⟨hlt,c0,c1,c2,c3,c4,c5,c6⟩:=hwk.deed
  simp only[Nat.zero_add]at c0 c1 c2 c3 c4 c5 c6
  have f:=hwk.free 1 (by omega)
  have hp:=hwk.setBy me
  go_simp
  exact⟨rfl,hp⟩
 refine wss rfl (fun K hK=> ?_)
 go_simp
 refine⟨_,fun _ _=>rfl,hK _ ?_⟩
 clear hK K
 refine wsp rfl rfl (fun u=>u= .tuple #[]) (fun u wk=>WJ w ⟨kind,me,next,seen0,(i:Int),(m:Int),text⟩ wk) ⟨_,rfl⟩ (fun _ _ h=>h.below) (fun wk hwk=> ?_) (fun v15 hv15=> ?_)
 ·obtain⟨hlt,c0,c1,c2,c3,c4,c5,c6⟩:=hwk.deed
  simp only[Nat.zero_add]at c0 c1 c2 c3 c4 c5 c6
  have f:=hwk.free 2 (by omega)
  have hp:=hwk.setNo next
  go_simp
  exact⟨rfl,hp⟩
 refine wss rfl (fun K hK=> ?_)
 go_simp
 refine⟨_,fun _ _=>rfl,hK _ ?_⟩
 clear hK K
 refine wsp rfl rfl (fun u=>u= .tuple #[]) (fun u wk=>WJ w ⟨kind,me,next,seen,(i:Int),(m:Int),text⟩ wk) ⟨_,rfl⟩ (fun _ _ h=>h.below) (fun wk hwk=> ?_) (fun v17 hv17=> ?_)
 ·obtain⟨hlt,c0,c1,c2,c3,c4,c5,c6⟩:=hwk.deed
  simp only[Nat.zero_add]at c0 c1 c2 c3 c4 c5 c6
  have f:=hwk.free 3 (by omega)
  have hp:=hwk.setSeen seen
  go_simp
  exact⟨rfl,hp⟩
 refine wsn (fun w1 hw1=> ?_)
 have H1:Hid _:=hw1
 clear hw1
 have HJ1:=hid H1
 clear H1 HI
 go_wp2
 refine wrs (fun wk=>WJ w ⟨kind,me,next,seen,(i:Int),(m:Int),text⟩ wk) (fun i=>i==5) (fun wk=>WJ w ⟨kind,me,next,seen,(i:Int),(m:Int),text⟩ wk) (by kernel_rfl) (by kernel_rfl) (by kernel_rfl) (fun _ h=>h) (HJ1.out.after (Below.refl _ _).drew) ?_
 iterate 3 (refine wss rfl (fun K hK=> ?_);go_simp;refine⟨_,fun _ _=>rfl,hK _ ?_⟩;clear hK K)
 refine wss rfl (fun K hK=> ?_)
 go_simp
 refine⟨.slice la l.length lcap,fun wk hwk=> ?_,hK _ ?_⟩
 ·have c:=(HA.out.below hwk.below).cells.list
  go_simp
 clear hK K
 refine wss rfl (fun K hK=> ?_)
 go_simp
 refine⟨ddV ⟨kind,me,next,seen,(i:Int),(m:Int),text⟩,fun wk hwk=> ?_,hK _ ?_⟩
 ·obtain⟨_,c0,c1,c2,c3,c4,c5,c6⟩:=hwk.deed
  simp only[Nat.zero_add]at c0 c1 c2 c3 c4 c5 c6
  go_simp
 clear hK K
 refine wsp rfl rfl (fun u=>∃v,u= .tuple #[v,.int .i64 cc]) (fun u wk=>WJ w ⟨kind,me,next,seen,(i:Int),(m:Int),text⟩ wk/\Did2 w (doR l ⟨kind,me,next,seen,(i:Int),(m:Int),text⟩ za3) cc u wk) ⟨_,.bool false,rfl⟩ (fun _ _ h=>h.1) (fun wk hwk=> ?_) (fun v5 hv5=> ?_)
 ·go_simp
  refine(HDO.out wk hwk.below).mono ?_
  rintro e w6 ⟨v,rfl,ho,hb⟩
  exact⟨_,rfl,⟨v,rfl⟩,hwk.after hb,v,wk.heap.size,rfl,hwk.two,ho⟩
 obtain⟨v,rfl⟩:=hv5
 iterate 5 (refine wss rfl (fun K hK=> ?_);go_simp;refine⟨_,fun _ _=>rfl,hK _ ?_⟩;clear hK K)
 refine wsn (fun w9 hw9=> ?_)
 have H9:Hid _:=hw9
 clear hw9
 obtain⟨hj,v',wj,he,hle,ho⟩:=H9.out
 have hvv:v=v':=by simpa using he
 subst hvv
 have HJ9:=hid hj
 have HOW:=hid (ho.mono hle)
 clear H9 he ho hj hle HJ1
 have hz':(cc != 0)=false:=by simp[HZ.out]
 obtain⟨va,vcap,rfl,_⟩:=HOW.out.lst.len
 have HL9:=hid HOW.out
 generalize hvl:(doR l ⟨kind,me,next,seen,(i:Int),(m:Int),text⟩ za3).length=vl at*
 clear HOW HDO hvl
 obtain⟨hE,q0,q1,q2,q3,q4,q5,q6⟩:=HJ9.out.deed
 simp only[Nat.zero_add]at q0 q1 q2 q3 q4 q5 q6
 go_wp2_with fail
 refine(zqu text _ htx).mono ?_
 rintro e wa ⟨rfl,hba⟩
 have HJA:=hid (HJ9.out.after hba)
 have HLA:=hid (HL9.out.below hba)
 have HJB:=hid (HJA.out.setText text)
 have HLB:Hid (Own (wa.setCell ⟨w.heap.size,6,none⟩ (.string text)) (w.heap.size+2) (.slice va vl vcap) (doR l ⟨kind,me,next,seen,(i:Int),(m:Int),text⟩ za3)):=za5 HLA.out (fun k e=>Below.heap_setCell _ _ _ _ (by have:=(World.ownsRow.lt HLA.out k e).1;show k≠w.heap.size;omega))
 clear hba HJ9 HL9 q0 q1 q2 q3 q4 q5 q6 hE
 obtain⟨hE,q0,q1,q2,q3,q4,q5,q6⟩:=HJA.out.deed
 simp only[Nat.zero_add]at q0 q1 q2 q3 q4 q5 q6
 have f6:=HJA.out.free 6 (by omega)
 go_wp2
 clear q0 q1 q2 q3 q4 q5 q6 hE f6 HJA HLA
 generalize wa.setCell _ _=wb at*
 have HY:Hid (YJ w ⟨kind,me,next,seen,(i:Int),(m:Int),text⟩ (.slice va vl vcap) (doR l ⟨kind,me,next,seen,(i:Int),(m:Int),text⟩ za3) wb.heap.size wb):=⟨HJB.out,HLB.out,fun k e=>(World.ownsRow.lt HLB.out k e).2,Nat.le_refl _⟩
 have HWB:=hid HJB.out.two
 have HH:Hid (∃H0,H0=wb.heap.size):=⟨_,rfl⟩
 obtain⟨H0,hH0⟩:=HH.out
 rw[<-hH0]at HY HWB
 clear hH0
 obtain⟨oa,ocap,rfl⟩:=HA.out.topen.form
 have HSB:Hid (∀wk,Below w.heap.size w wk->Calls Tryz.prog 192 #[.pointer (some ⟨P,0,none⟩),.int .i64 i,.int .i64 m] wk fun e w'=>∃v',e= .returned v'/\Own w' wk.heap.size v' (((l.filter (za7 seen me)).drop i).take m)/\Below wk.heap.size wk w'):=fun wk hb=>zu6 (HA.out.below hb) hl i m HIM.out
 have HAP:Hid (∀(ty:TypeId) wk tv tl c b,YJ w ⟨kind,me,next,seen,(i:Int),(m:Int),text⟩ (.slice va vl vcap) (doR l ⟨kind,me,next,seen,(i:Int),(m:Int),text⟩ za3) H0 wk->Own wk H0 tv tl->tv.oneCell'=true->(∀j x,(zdf [(⟨kind,me,next,seen,(i:Int),(m:Int),text⟩,tv)])[j]? =some x->wk.cell? ((⟨b,0,none⟩:Addr).add j)=some x)->∃g ncap w3,(Builtin.append_ #[176,176] ty #[.slice oa es.length ocap,.slice (some ⟨b,0,none⟩) 1 c]).run Tryz.prog wk= .ok (.slice (some ⟨g,0,none⟩) (es.length+1) ncap) w3/\ZJ w base P S (.slice la l.length lcap) (.slice oa es.length ocap) (.slice (some ⟨g,0,none⟩) (es.length+1) ncap) (tvs++[tv]) l (es++[⟨kind,me,next,seen,(i:Int),(m:Int),text⟩]) (ts++[tl]) me next seen sent ⟨kind,me,next,seen,(i:Int),(m:Int),text⟩ (.slice va vl vcap) (doR l ⟨kind,me,next,seen,(i:Int),(m:Int),text⟩ za3) w3):=fun ty wk tv tl c b hy ht h1 hsrc=>by
  obtain⟨i0,hi0,hz0,hz1,hz2⟩:=info_parts Tryz.infoOwn
  have hone:∀y∈[((⟨kind,me,next,seen,(i:Int),(m:Int),text⟩:Dd),tv)],y.2.oneCell'=true:=by
   intro y hy'
   have e:y=((⟨kind,me,next,seen,(i:Int),(m:Int),text⟩:Dd),tv):=by simpa using hy'
   rw[e];exact h1
  have hown:=(HA.out.below hy.wj.below).ownO
  unfold znc at hown
  rw[zkf HA.out.len]at hown
  obtain⟨g,ncap,w3,e1,e2,e3,e4,e5⟩:=run_append_lies (P:=Tryz.prog) wk 176 ty base 180 i0 ziw 8 88 und_own' hi0 hz0 hz1 hz2 rfl (by decide) (.slice oa es.length ocap) es.length (zdf (es.zip tvs)) hown ⟨b,0,none⟩ 1 c (zdf [(⟨kind,me,next,seen,(i:Int),(m:Int),text⟩,tv)]) rfl hsrc (zmk _ hone) (by omega) (by unfold maxLen;omega) (by omega) (by have:=HA.out.base_le;have:=hy.wj.below.size;omega) wk.heap.size rfl
  rw[<-zri]at e2
  refine⟨g,ncap,w3,e1,qch HA.out hy ht HWB.out e3 e2 rfl ?_ e5⟩
  rcases e4 with e|e
  ·exact .inl e
  exact .inr (by omega)
 generalize hTK:((l.filter (za7 seen me)).drop i).take m=tl at*
 have HTK:=hid hTK
 clear hTK
 clear HJB HLB HIM HH
 refine zl0 (fun wk=>YU w P (.slice la l.length lcap) (.slice oa es.length ocap) me next seen sent ⟨kind,me,next,seen,(i:Int),(m:Int),text⟩ wk) (fun i=>i==11||i==12||i==13||i==14||i==17) (fun i=>i==17) (fun wk=>YJ w ⟨kind,me,next,seen,(i:Int),(m:Int),text⟩ (.slice va vl vcap) (doR l ⟨kind,me,next,seen,(i:Int),(m:Int),text⟩ za3) H0 wk) (by kernel_rfl) (by kernel_rfl) (by kernel_rfl) (by kernel_rfl) (fun _ h=>yu_of HA.out h.wj) (HY.out.after (Below.refl _ _).drew) ?_
 iterate 4 (refine zao rfl (fun K hK=> ?_);go_simp;refine⟨_,fun _ _=>rfl,hK _ ?_⟩;clear hK K)
 refine zao rfl (fun K hK=> ?_)
 go_simp
 refine⟨.slice oa es.length ocap,fun wk hwk=> ?_,hK _ ?_⟩
 ·have c:=hwk.cells.opens
  go_simp
 clear hK K
 refine zao rfl (fun K hK=> ?_)
 go_simp
 refine⟨ddV ⟨kind,me,next,seen,(i:Int),(m:Int),text⟩,fun wk hwk=> ?_,hK _ ?_⟩
 ·obtain⟨_,c0,c1,c2,c3,c4,c5,c6⟩:=hwk.deed
  simp only[Nat.zero_add]at c0 c1 c2 c3 c4 c5 c6
  go_simp
 iterate 2 (clear hK K;refine zao rfl (fun K hK=> ?_);go_simp;refine⟨_,fun _ _=>rfl,hK _ ?_⟩)
 clear hK K
 refine zao rfl (fun K hK=> ?_)
 go_simp
 refine⟨.int .i64 i,fun wk hwk=> ?_,hK _ ?_⟩
 ·obtain⟨_,c0,c1,c2,c3,c4,c5,c6⟩:=hwk.deed
  simp only[Nat.zero_add]at c0 c1 c2 c3 c4 c5 c6
  go_simp
 clear hK K
 refine zao rfl (fun K hK=> ?_)
 go_simp
 refine⟨_,fun _ _=>rfl,hK _ ?_⟩
 clear hK K
 refine zao rfl (fun K hK=> ?_)
 go_simp
 refine⟨.int .i64 m,fun wk hwk=> ?_,hK _ ?_⟩
 ·obtain⟨_,c0,c1,c2,c3,c4,c5,c6⟩:=hwk.deed
  simp only[Nat.zero_add]at c0 c1 c2 c3 c4 c5 c6
  go_simp
 clear hK K
 refine ze5 rfl rfl (fun u=>∃a n c,u= .slice a n c) (fun u wk=>YJ w ⟨kind,me,next,seen,(i:Int),(m:Int),text⟩ (.slice va vl vcap) (doR l ⟨kind,me,next,seen,(i:Int),(m:Int),text⟩ za3) H0 wk/\Own wk H0 u tl) ⟨_,none,0,0,rfl⟩ (fun _ _ h=>yu_of HA.out h.1.wj) (fun wk hwk=> ?_) (fun v11 hv11=> ?_)
 ·go_simp
  refine(HSB.out wk hwk.wj.below).mono ?_
  rintro e w6 ⟨u,rfl,ho,hb⟩
  obtain⟨ta,tc,hu,_⟩:=ho.lst.len
  exact⟨u,rfl,⟨_,_,_,hu⟩,hwk.after hb,ho.mono hwk.size⟩
 obtain⟨ta,tn,tc,rfl⟩:=hv11
 refine ze5 rfl rfl (fun u=>u=ooV ⟨kind,me,next,seen,(i:Int),(m:Int),text⟩ (.slice ta tn tc)) (fun u wk=>YJ w ⟨kind,me,next,seen,(i:Int),(m:Int),text⟩ (.slice va vl vcap) (doR l ⟨kind,me,next,seen,(i:Int),(m:Int),text⟩ za3) H0 wk/\Own wk H0 (.slice ta tn tc) tl) ⟨_,rfl⟩ (fun _ _ h=>yu_of HA.out h.1.wj) (fun wk hwk=> ?_) (fun v12 hv12=> ?_)
 ·go_simp
  exact⟨rfl,hwk⟩
 subst hv12
 refine ze5 rfl rfl (fun u=>∃b,u= .slice (some ⟨b,0,none⟩) 1 1) (fun u wk=>YJ w ⟨kind,me,next,seen,(i:Int),(m:Int),text⟩ (.slice va vl vcap) (doR l ⟨kind,me,next,seen,(i:Int),(m:Int),text⟩ za3) H0 wk/\SrcO ⟨kind,me,next,seen,(i:Int),(m:Int),text⟩ (.slice ta tn tc) tl H0 u wk) ⟨_,0,rfl⟩ (fun _ _ h=>yu_of HA.out h.1.wj) (fun wk hwk=> ?_) (fun v13 hv13b=> ?_)
 ·have hs:=srco_new ⟨kind,me,next,seen,(i:Int),(m:Int),text⟩ (.slice ta tn tc) hwk.2
  have hy:=hwk.1.after (za2 wk (zm7 ⟨kind,me,next,seen,(i:Int),(m:Int),text⟩ (.slice ta tn tc)))
  go_simp
  exact⟨⟨_,rfl⟩,hy,hs⟩
 obtain⟨bb,rfl⟩:=hv13b
 refine ze5 rfl rfl (fun u=>∃g c,u= .slice (some ⟨g,0,none⟩) (es.length+1) c) (fun u wk=>ZJ w base P S (.slice la l.length lcap) (.slice oa es.length ocap) u (tvs++[.slice ta tn tc]) l (es++[⟨kind,me,next,seen,(i:Int),(m:Int),text⟩]) (ts++[tl]) me next seen sent ⟨kind,me,next,seen,(i:Int),(m:Int),text⟩ (.slice va vl vcap) (doR l ⟨kind,me,next,seen,(i:Int),(m:Int),text⟩ za3) wk) ⟨_,0,0,rfl⟩ (fun _ _ h=>yz_of h) (fun wk hwk=> ?_) (fun v14 hv14=> ?_)
 ·obtain⟨g,ncap,w3,e1,e2⟩:=HAP.out _ wk (.slice ta tn tc) tl 1 bb hwk.1 hwk.2.own rfl (hwk.2.src bb rfl)
  exact zog rfl rfl rfl e1 ⟨⟨_,_,rfl⟩,e2⟩
 obtain⟨ng,ncap,rfl⟩:=hv14
 iterate 2 (refine zao rfl (fun K hK=> ?_);go_simp;refine⟨_,fun _ _=>rfl,hK _ ?_⟩;clear hK K)
 refine zls rfl rfl rfl (fun u=>u= .tuple #[]) (fun u wk=>FJ w base P S (.slice la l.length lcap) (.slice (some ⟨ng,0,none⟩) (es.length+1) ncap) (tvs++[.slice ta tn tc]) l (es++[⟨kind,me,next,seen,(i:Int),(m:Int),text⟩]) (ts++[tl]) me next seen sent ⟨kind,me,next,seen,(i:Int),(m:Int),text⟩ (.slice va vl vcap) (doR l ⟨kind,me,next,seen,(i:Int),(m:Int),text⟩ za3) wk) ⟨_,rfl⟩ (fun wk hwk=> ?_) (fun v17 hv17=> ?_)
 ·have c4:=hwk.cells.opens
  have f4:=hwk.cells.free 4 (by omega)
  have hlt:=hwk.cells.lt
  have hp:=hwk.ready
  go_simp
  exact⟨rfl,hp⟩
 refine zhg (fun w9 hw9=> ?_)
 have H9:Hid _:=hw9
 clear hw9
 have hPl9:=(HA.out.lo P HA.out.hP).2
 have HEND:Hid _:=H9.out.list ⟨HA.out.hP,HA.out.lo⟩ HA.out.base_le
 have hc9:=H9.out.at_.cells
 have hP9:=hc9.lt
 have e3:=hc9.list
 have e1:=hc9.next
 have f3:=hc9.free 3 (by omega)
 have f1:=hc9.free 1 (by omega)
 have two:=H9.out.two
 have HAS:=hid H9.out.has2
 obtain⟨y0,z0⟩:=H9.out.has2 0 (by omega)
 obtain⟨y1,z1⟩:=H9.out.has2 1 (by omega)
 obtain⟨y2,z2⟩:=H9.out.has2 2 (by omega)
 obtain⟨y3,z3⟩:=H9.out.has2 3 (by omega)
 obtain⟨y4,z4⟩:=H9.out.has2 4 (by omega)
 obtain⟨y5,z5⟩:=H9.out.has2 5 (by omega)
 obtain⟨y6,z6⟩:=H9.out.has2 6 (by omega)
 have k0:=H9.out.free2 0 (by omega)
 have k1:=H9.out.free2 1 (by omega)
 have k2:=H9.out.free2 2 (by omega)
 have k3:=H9.out.free2 3 (by omega)
 have k4:=H9.out.free2 4 (by omega)
 have k5:=H9.out.free2 5 (by omega)
 have k6:=H9.out.free2 6 (by omega)
 obtain⟨hE,q0,q1,q2,q3,q4,q5,q6⟩:=H9.out.deed
 simp only[Nat.zero_add]at q0 q1 q2 q3 q4 q5 q6
 have hn1':¬P=w.heap.size:=by omega
 have hn2':¬w.heap.size=P:=by omega
 have hn3':¬P=w.heap.size+1:=by omega
 have hn4':¬w.heap.size+1=P:=by omega
 clear hc9 H9 HSB HAP
 go_wp2
 refine zc7 (d:=⟨kind,me,next,seen,(i:Int),(m:Int),text⟩) (x:= .int .i64 0) rfl HEND.out.2 rfl rfl rfl ?_
 refine⟨rfl,?_⟩
 have hp:=HEND.out.1
 have hR:=HRL.out
 have hT:=HTL.out
 unfold zev at hR hT⊢
 simp only at hR hT⊢
 rw[<-hR,hT]
 exact hp
theorem qgr(h:Below (w.alloc (zd9 ⟨0,0,0,0,0,0,⟨#[]⟩⟩)).heap.size (w.alloc (zd9 ⟨0,0,0,0,0,0,⟨#[]⟩⟩)) w2):(∀o,o<7->∃u,w2.cell? ⟨w.heap.size,o,none⟩=some u)/\∀o,o<7->w2.frozen? ⟨w.heap.size,o,none⟩=false:=by
 have hb:=h.block w.heap.size (by simp)
 refine⟨fun o ho=> ?_,fun o ho=> ?_⟩
 ·rw[World.cell?_of_block (a:=⟨w.heap.size,o,none⟩) hb]
  rcases zm0 ho with rfl|rfl|rfl|rfl|rfl|rfl|rfl<;>simp[go_sem]
 rw[World.frozen?_of_block (a:=⟨w.heap.size,o,none⟩) hb]
 rcases zm0 ho with rfl|rfl|rfl|rfl|rfl|rfl|rfl<;>simp[go_sem]
theorem zvp(h:zni (w.alloc (zd9 ⟨0,0,0,0,0,0,⟨#[]⟩⟩)) base S P l es ts me next seen sent w2)(hlo:∀k,S k->base<=k/\k<w.heap.size):(∀o,o<7->∃u,w2.cell? ⟨w.heap.size,o,none⟩=some u)/\∀o,o<7->w2.frozen? ⟨w.heap.size,o,none⟩=false:=by
 have hb:=h.kept.block w.heap.size (by simp) (fun e=>by have:=(hlo _ e).2;omega)
 refine⟨fun o ho=> ?_,fun o ho=> ?_⟩
 ·rw[World.cell?_of_block (a:=⟨w.heap.size,o,none⟩) hb]
  rcases zm0 ho with rfl|rfl|rfl|rfl|rfl|rfl|rfl<;>simp[go_sem]
 rw[World.frozen?_of_block (a:=⟨w.heap.size,o,none⟩) hb]
 rcases zm0 ho with rfl|rfl|rfl|rfl|rfl|rfl|rfl<;>simp[go_sem]
theorem zni.boxed{ob:Obj}(h:zni (w.alloc ob) base S P l es ts me next seen sent w2)(hlo:base<=w.heap.size/\∀k,S k->base<=k/\k<w.heap.size)(d:Dd):zni w base S P l es ts me next seen sent (((((((w2.setCell ⟨w.heap.size,0,none⟩ (.int .i64 d.kind)).setCell ⟨w.heap.size,1,none⟩ (.int .i64 d.by_)).setCell ⟨w.heap.size,2,none⟩ (.int .i64 d.no)).setCell ⟨w.heap.size,3,none⟩ (.int .i64 d.seen)).setCell ⟨w.heap.size,4,none⟩ (.int .i64 d.at_)).setCell ⟨w.heap.size,5,none⟩ (.int .i64 d.many)).setCell ⟨w.heap.size,6,none⟩ (.string d.text)):=by
 obtain⟨⟨lv,ov,tvs,hat⟩,hk⟩:=h
 have hs1:(w.alloc ob).heap.size=w.heap.size+1:=by simp
 have hsz:=hk.size
 have hkd:zam (fun k=>k=w.heap.size) w2 (((((((w2.setCell ⟨w.heap.size,0,none⟩ (.int .i64 d.kind)).setCell ⟨w.heap.size,1,none⟩ (.int .i64 d.by_)).setCell ⟨w.heap.size,2,none⟩ (.int .i64 d.no)).setCell ⟨w.heap.size,3,none⟩ (.int .i64 d.seen)).setCell ⟨w.heap.size,4,none⟩ (.int .i64 d.at_)).setCell ⟨w.heap.size,5,none⟩ (.int .i64 d.many)).setCell ⟨w.heap.size,6,none⟩ (.string d.text)):=by
  have h0:zam (fun k=>k=w.heap.size) w2 w2:=zam.refl _ _
  exact((((((h0.set (p:=⟨w.heap.size,_,none⟩) rfl _).set (p:=⟨w.heap.size,_,none⟩) rfl _).set (p:=⟨w.heap.size,_,none⟩) rfl _).set (p:=⟨w.heap.size,_,none⟩) rfl _).set (p:=⟨w.heap.size,_,none⟩) rfl _).set (p:=⟨w.heap.size,_,none⟩) rfl _).set (p:=⟨w.heap.size,_,none⟩) rfl _
 have h3:=hat.kept hkd (fun k hs e=>by
  rcases hs with hs|hs
  ·have:=(hlo.2 k hs).2;omega
  omega)
 have hkw:zam S w w2:=(zam.of_below (za2 w ob)).trans' hk
 refine zni.of (h3.mono (fun k hs=> ?_) (zkr hlo.1 (Nat.le_trans hkw.size hkd.size) hlo.2)) ⟨hkd.os.trans hkw.os,hkd.tape.trans hkw.tape,hkd.output.trans hkw.output,Nat.le_trans hkw.size hkd.size,fun k hk' hn=>(hkd.block k (Nat.lt_of_lt_of_le hk' hkw.size) (by omega)).trans (hkw.block k hk' hn)⟩
 rcases hs with hs|hs
 ·exact .inl hs
 exact .inr ⟨by omega,by have:=hkd.size;omega⟩
theorem put_yes(h:zd3 w base S P lv ov tvs l es ts me next seen sent)(hl:l.length<=1000)(hf:zi0 l)(hes:es.length<=1000)(hnx:next<=1000)(at_:Int)(text:ByteArray)(hz:doC l ⟨1,me,next,seen,at_,0,text⟩ za3=0):
 Calls Tryz.prog 117 #[.pointer (some ⟨P,0,none⟩),.int .i64 at_,.string text] w fun e w'=>e= .returned (.tuple #[ddV ⟨1,me,next,seen,at_,0,text⟩,.int .i64 0])/\zni w base S P (doL l ⟨1,me,next,seen,at_,0,text⟩ za3) (es++[⟨1,me,next,seen,at_,0,text⟩]) (ts++[zel l ⟨1,me,next,seen,at_,0,text⟩]) me (next+1) seen sent w':=by
 have HLO:Hid (base<=w.heap.size/\∀k,S k->base<=k/\k<w.heap.size):=⟨h.base_le,h.lo⟩
 have HA:Hid (zd3 (w.alloc (zd9 ⟨0,0,0,0,0,0,⟨#[]⟩⟩)) base S P lv ov tvs l es ts me next seen sent):=h.below (za2 _ _)
 have HF:=hid hf
 have HZ:=hid hz
 clear h hf hz
 go_enter Tryz.func117,Tryz.ntmps117
 go_wp2_with fail
 refine(do_yes HA.out hl HF.out hes hnx ⟨1,0,0,0,at_,0,text⟩ HZ.out).mono ?_
 rintro e w2 ⟨rfl,hp⟩
 have hb:=zvp hp HLO.out.2
 have hlt2:w.heap.size<w2.heap.size:=by have:=hp.kept.size;simp at this;omega
 have HR:Hid _:=hp.boxed HLO.out ⟨1,me,next,seen,at_,0,text⟩
 have HW:Hid _:=zdq.written hlt2 ⟨1,me,next,seen,at_,0,text⟩ hb.1
 obtain⟨y0,z0⟩:=hb.1 0 (by omega)
 obtain⟨y1,z1⟩:=hb.1 1 (by omega)
 obtain⟨y2,z2⟩:=hb.1 2 (by omega)
 obtain⟨y3,z3⟩:=hb.1 3 (by omega)
 obtain⟨y4,z4⟩:=hb.1 4 (by omega)
 obtain⟨y5,z5⟩:=hb.1 5 (by omega)
 obtain⟨y6,z6⟩:=hb.1 6 (by omega)
 have f0:=hb.2 0 (by omega)
 have f1:=hb.2 1 (by omega)
 have f2:=hb.2 2 (by omega)
 have f3:=hb.2 3 (by omega)
 have f4:=hb.2 4 (by omega)
 have f5:=hb.2 5 (by omega)
 have f6:=hb.2 6 (by omega)
 clear hb hp HA HF
 go_wp2
 refine zc7 (d:=⟨1,me,next,seen,at_,0,text⟩) (x:= .int .i64 0) rfl HW.out rfl rfl rfl ?_
 exact⟨rfl,HR.out⟩
theorem put_no(h:zd3 w base S P lv ov tvs l es ts me next seen sent)(hl:l.length<=1000)(hf:zi0 l)(at_:Int)(text:ByteArray)(hz:doC l ⟨1,me,next,seen,at_,0,text⟩ za3≠0):
 Calls Tryz.prog 117 #[.pointer (some ⟨P,0,none⟩),.int .i64 at_,.string text] w fun e w'=>e= .returned (.tuple #[ddV ⟨0,0,0,0,0,0,⟨#[]⟩⟩,.int .i64 (doC l ⟨1,me,next,seen,at_,0,text⟩ za3)])/\Below w.heap.size w w':=by
 have HLO:Hid (base<=w.heap.size/\∀k,S k->base<=k/\k<w.heap.size):=⟨h.base_le,h.lo⟩
 have HA:Hid (zd3 (w.alloc (zd9 ⟨0,0,0,0,0,0,⟨#[]⟩⟩)) base S P lv ov tvs l es ts me next seen sent):=h.below (za2 _ _)
 have HF:=hid hf
 have HZ:=hid hz
 clear h hf hz
 go_enter Tryz.func117,Tryz.ntmps117
 go_wp2_with fail
 refine(do_no HA.out hl HF.out ⟨1,0,0,0,at_,0,text⟩ HZ.out).mono ?_
 rintro e w2 ⟨rfl,hp⟩
 have hb:(∀o,o<7->∃u,w2.cell? ⟨w.heap.size,o,none⟩=some u)/\∀o,o<7->w2.frozen? ⟨w.heap.size,o,none⟩=false:=qgr hp
 have hlt2:w.heap.size<w2.heap.size:=by have:=hp.size;simp at this;omega
 have HR:Hid (Below w.heap.size w w2):=bla (za2 _ _) hp
 have HW:Hid _:=zdq.written hlt2 ⟨0,0,0,0,0,0,⟨#[]⟩⟩ hb.1
 obtain⟨y0,z0⟩:=hb.1 0 (by omega)
 obtain⟨y1,z1⟩:=hb.1 1 (by omega)
 obtain⟨y2,z2⟩:=hb.1 2 (by omega)
 obtain⟨y3,z3⟩:=hb.1 3 (by omega)
 obtain⟨y4,z4⟩:=hb.1 4 (by omega)
 obtain⟨y5,z5⟩:=hb.1 5 (by omega)
 obtain⟨y6,z6⟩:=hb.1 6 (by omega)
 have f0:=hb.2 0 (by omega)
 have f1:=hb.2 1 (by omega)
 have f2:=hb.2 2 (by omega)
 have f3:=hb.2 3 (by omega)
 have f4:=hb.2 4 (by omega)
 have f5:=hb.2 5 (by omega)
 have f6:=hb.2 6 (by omega)
 clear hb hp HA HF
 go_wp2
 refine zc7 (d:=⟨0,0,0,0,0,0,⟨#[]⟩⟩) (x:= .int .i64 (doC l ⟨1,me,next,seen,at_,0,text⟩ za3)) rfl HW.out rfl rfl rfl ?_
 exact⟨rfl,zgc (Nat.le_refl _) HR.out ⟨0,0,0,0,0,0,⟨#[]⟩⟩⟩
theorem take_yes(h:zd3 w base S P lv ov tvs l es ts me next seen sent)(hl:l.length<=1000)(hf:zi0 l)(hes:es.length<=1000)(hnx:next<=1000)(at_ many:Int)(hz:doC l ⟨2,me,next,seen,at_,many,⟨#[]⟩⟩ za3=0):
 Calls Tryz.prog 118 #[.pointer (some ⟨P,0,none⟩),.int .i64 at_,.int .i64 many] w fun e w'=>e= .returned (.tuple #[ddV ⟨2,me,next,seen,at_,many,⟨#[]⟩⟩,.int .i64 0])/\zni w base S P (doL l ⟨2,me,next,seen,at_,many,⟨#[]⟩⟩ za3) (es++[⟨2,me,next,seen,at_,many,⟨#[]⟩⟩]) (ts++[zel l ⟨2,me,next,seen,at_,many,⟨#[]⟩⟩]) me (next+1) seen sent w':=by
 have HLO:Hid (base<=w.heap.size/\∀k,S k->base<=k/\k<w.heap.size):=⟨h.base_le,h.lo⟩
 have HA:Hid (zd3 (w.alloc (zd9 ⟨0,0,0,0,0,0,⟨#[]⟩⟩)) base S P lv ov tvs l es ts me next seen sent):=h.below (za2 _ _)
 have HF:=hid hf
 have HZ:=hid hz
 clear h hf hz
 go_enter Tryz.func118,Tryz.ntmps118
 go_wp2_with fail
 refine(do_yes HA.out hl HF.out hes hnx ⟨2,0,0,0,at_,many,⟨#[]⟩⟩ HZ.out).mono ?_
 rintro e w2 ⟨rfl,hp⟩
 have hb:=zvp hp HLO.out.2
 have hlt2:w.heap.size<w2.heap.size:=by have:=hp.kept.size;simp at this;omega
 have HR:Hid _:=hp.boxed HLO.out ⟨2,me,next,seen,at_,many,⟨#[]⟩⟩
 have HW:Hid _:=zdq.written hlt2 ⟨2,me,next,seen,at_,many,⟨#[]⟩⟩ hb.1
 obtain⟨y0,z0⟩:=hb.1 0 (by omega)
 obtain⟨y1,z1⟩:=hb.1 1 (by omega)
 obtain⟨y2,z2⟩:=hb.1 2 (by omega)
 obtain⟨y3,z3⟩:=hb.1 3 (by omega)
 obtain⟨y4,z4⟩:=hb.1 4 (by omega)
 obtain⟨y5,z5⟩:=hb.1 5 (by omega)
 obtain⟨y6,z6⟩:=hb.1 6 (by omega)
 have f0:=hb.2 0 (by omega)
 have f1:=hb.2 1 (by omega)
 have f2:=hb.2 2 (by omega)
 have f3:=hb.2 3 (by omega)
 have f4:=hb.2 4 (by omega)
 have f5:=hb.2 5 (by omega)
 have f6:=hb.2 6 (by omega)
 clear hb hp HA HF
 go_wp2
 refine zc7 (d:=⟨2,me,next,seen,at_,many,⟨#[]⟩⟩) (x:= .int .i64 0) rfl HW.out rfl rfl rfl ?_
 exact⟨rfl,HR.out⟩
theorem take_no(h:zd3 w base S P lv ov tvs l es ts me next seen sent)(hl:l.length<=1000)(hf:zi0 l)(at_ many:Int)(hz:doC l ⟨2,me,next,seen,at_,many,⟨#[]⟩⟩ za3≠0):
 Calls Tryz.prog 118 #[.pointer (some ⟨P,0,none⟩),.int .i64 at_,.int .i64 many] w fun e w'=>e= .returned (.tuple #[ddV ⟨0,0,0,0,0,0,⟨#[]⟩⟩,.int .i64 (doC l ⟨2,me,next,seen,at_,many,⟨#[]⟩⟩ za3)])/\Below w.heap.size w w':=by
 have HLO:Hid (base<=w.heap.size/\∀k,S k->base<=k/\k<w.heap.size):=⟨h.base_le,h.lo⟩
 have HA:Hid (zd3 (w.alloc (zd9 ⟨0,0,0,0,0,0,⟨#[]⟩⟩)) base S P lv ov tvs l es ts me next seen sent):=h.below (za2 _ _)
 have HF:=hid hf
 have HZ:=hid hz
 clear h hf hz
 go_enter Tryz.func118,Tryz.ntmps118
 go_wp2_with fail
 refine(do_no HA.out hl HF.out ⟨2,0,0,0,at_,many,⟨#[]⟩⟩ HZ.out).mono ?_
 rintro e w2 ⟨rfl,hp⟩
 have hb:(∀o,o<7->∃u,w2.cell? ⟨w.heap.size,o,none⟩=some u)/\∀o,o<7->w2.frozen? ⟨w.heap.size,o,none⟩=false:=qgr hp
 have hlt2:w.heap.size<w2.heap.size:=by have:=hp.size;simp at this;omega
 have HR:Hid (Below w.heap.size w w2):=bla (za2 _ _) hp
 have HW:Hid _:=zdq.written hlt2 ⟨0,0,0,0,0,0,⟨#[]⟩⟩ hb.1
 obtain⟨y0,z0⟩:=hb.1 0 (by omega)
 obtain⟨y1,z1⟩:=hb.1 1 (by omega)
 obtain⟨y2,z2⟩:=hb.1 2 (by omega)
 obtain⟨y3,z3⟩:=hb.1 3 (by omega)
 obtain⟨y4,z4⟩:=hb.1 4 (by omega)
 obtain⟨y5,z5⟩:=hb.1 5 (by omega)
 obtain⟨y6,z6⟩:=hb.1 6 (by omega)
 have f0:=hb.2 0 (by omega)
 have f1:=hb.2 1 (by omega)
 have f2:=hb.2 2 (by omega)
 have f3:=hb.2 3 (by omega)
 have f4:=hb.2 4 (by omega)
 have f5:=hb.2 5 (by omega)
 have f6:=hb.2 6 (by omega)
 clear hb hp HA HF
 go_wp2
 refine zc7 (d:=⟨0,0,0,0,0,0,⟨#[]⟩⟩) (x:= .int .i64 (doC l ⟨2,me,next,seen,at_,many,⟨#[]⟩⟩ za3)) rfl HW.out rfl rfl rfl ?_
 exact⟨rfl,zgc (Nat.le_refl _) HR.out ⟨0,0,0,0,0,0,⟨#[]⟩⟩⟩
variable {w:World} {l:List Ch}
abbrev pwObj(me next seen:Int)(lv:Value):Obj:= .cells #[.int .i64 me,.int .i64 next,.int .i64 seen,lv,.slice none 0 0,.int .i64 0] 178
theorem pwAt_new{w1:World}{v1:Value}(ho:Own w1 w.heap.size v1 l)(hb:Below w.heap.size w w1)(me next seen:Int):
 zd3 (w1.alloc (pwObj me next seen v1)) w.heap.size (fun k=>w.heap.size<=k/\k<w1.heap.size+1) w1.heap.size v1 (.slice none 0 0) [] l [] [] me next seen 0:=by
 have hs:=hb.size
 refine⟨fun k hk=>by simpa using hk,⟨hs,by omega⟩,⟨by simp,?_,?_,?_,?_,?_,?_,fun o ho'=> ?_⟩,ho.below (za2 _ _),zzc _ _,rfl,trivial,fun k e=> ?_,fun k e=>(by cases e),fun tv ht=>(by cases ht),List.Pairwise.nil⟩
 ·simp[go_sem]
 ·simp[go_sem]
 ·simp[go_sem]
 ·simp[go_sem]
 ·simp[go_sem]
 ·simp[go_sem]
 ·rcases(show o=0\/o=1\/o=2\/o=3\/o=4\/o=5 by omega)with rfl|rfl|rfl|rfl|rfl|rfl<;>simp[go_sem]
 have:=World.ownsRow.lt ho k e
 exact⟨⟨this.1,by omega⟩,by omega⟩
theorem new_pw{v:Value}(h:Lst w v l)(hl:l.length<=1000)(me next seen:Int)(hw:wrB me=true)(hn:1<=next)(hs0:0<=seen)(hs:seen<=120)(hck:∀r,zpt l seen r->r=0)(hno:(l.any fun x=>decide (x.inn=za3))=false):
 Calls Tryz.prog 114 #[.int .i64 me,.int .i64 next,.int .i64 seen,v] w fun e w'=>∃P v1,e= .returned (.pointer (some ⟨P,0,none⟩))/\zd3 w' w.heap.size (fun k=>w.heap.size<=k/\k<w'.heap.size) P v1 (.slice none 0 0) [] l [] [] me next seen 0/\Below w.heap.size w w':=by
 have HL:=hid h
 have HCK:=hid hck
 have HNO:=hid hno
 obtain⟨a,cap,rfl,_⟩:=h.len
 clear h hck hno
 go_enter Tryz.func114,Tryz.ntmps114
 go_wp2_with (go_at_call 116;refine(zbj _ _).mono ?_;rintro e wz ⟨rfl,hwz⟩;rw[hw,hwz];clear hwz wz)
 refine(qgk HL.out hl seen).mono ?_
 rintro e w1 ⟨r,rfl,hr,hb1⟩
 obtain rfl:=HCK.out r hr
 have HB1:=hid hb1
 clear hr hb1
 go_wp2_with fail
 refine(zn8 (zuw w1.heap.size) (HL.out.below HB1.out) (Nat.le_refl _) hl trivial).mono ?_
 rintro e w2 ⟨rfl,hb2⟩
 rw[HNO.out]
 have HB2:=hid (bla HB1.out hb2)
 clear hb2 HB1
 go_wp2_with fail
 refine(zhw (HL.out.below HB2.out) (by omega)).mono ?_
 rintro e w3 ⟨v3,rfl,ho3,hb3⟩
 have HB3:=hid (bla HB2.out hb3)
 have HP:=hid (pwAt_new (ho3.mono HB2.out.size) HB3.out me next seen)
 obtain⟨va,vc,rfl,_⟩:=ho3.lst.len
 clear ho3 hb3 HB2
 go_wp2
 go_ret
 exact⟨w3.heap.size,_,rfl,by simpa using HP.out,HB3.out.trans ((za2 _ _).mono HB3.out.size)⟩
end Go.Proofs.YtcbnnfeelhlapadGreatDoor