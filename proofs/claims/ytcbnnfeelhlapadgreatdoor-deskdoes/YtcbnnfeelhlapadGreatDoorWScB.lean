/-
  Do of a writer by the document: its contract.
-/
import Derived.Test.YtcbnnfeelhlapadGreatDoorWScA
namespace Go.Proofs.YtcbnnfeelhlapadGreatDoor
set_option maxHeartbeats 3200000
set_option maxRecDepth 20000
open Go.RowKit
structure FS(w:World)(base Q:Nat)(S:Nat→Prop)(bv nov:Value)(l:List Ch)(es:List Dd)(me seen next sent:Int)(d:Dd)(wk:World):Prop where
 at_:zes wk base (grow2 S w wk) Q bv nov l es me seen next sent
 kept:zak S w wk
 deed:zde wk w.heap.size 0 d
 two:w.heap.size+1<wk.heap.size
 has2:∀o,o<7→∃u,wk.cell? ⟨w.heap.size+1,o,none⟩=some u
 free2:∀o,o<7→wk.frozen? ⟨w.heap.size+1,o,none⟩=false
structure ZS(w:World)(base Q:Nat)(S:Nat→Prop)(bv ov nov:Value)(l:List Ch)(es:List Dd)(me seen next sent:Int)(d:Dd)(wk:World):Prop where
 pl:Q<w.heap.size
 cells:ScC wk Q bv ov me seen next sent
 ready:FS w base Q S bv nov l es me seen next sent d (wk.setCell ⟨Q,4,none⟩ nov)
theorem qcf{w:World}{base Q:Nat}{S:Nat→Prop}{bv ov:Value}{l:List Ch}{es:List Dd}{me seen next sent:Int}(h:zes w base S Q bv ov l es me seen next sent){wk w3:World}{d:Dd}{g n ncap:Nat}(hy:WJ w d wk)(hg:wk.grownBy w3 ov.ownBlock)
 (hown:w3.ownsRow base 124 7 (.slice (some ⟨g,0,none⟩) n ncap) n (zbx (es++[d]))) (hn:n=es.length+1) (hl:ov.ownBlock=some g∨wk.heap.size≤g) (hg3:g<w3.heap.size):
 ZS w base Q S bv ov (.slice (some ⟨g,0,none⟩) n ncap) l (es++[d]) me seen next sent d w3:=by
 have hb:=hy.below
 have hk:=h.below hb
 have hQlt:=(h.lo Q h.hQ).2
 have hws:=hb.size
 have hgQ:g≠Q:=by
  rcases hl with e|e
  ·exact(h.oB g e).2.1
  ·omega
 have hblk:∀k,k<wk.heap.size→ov.ownBlock≠some k→w3.heap[k]? =wk.heap[k]? :=fun k hk' hne=>hg.block k hk' (fun e=>hne e.symm)
 have hc3:ScC w3 Q bv ov me seen next sent:=hk.cells.kept hg.size (hblk Q hk.cells.lt (fun e=>(h.oB Q e).2.1 rfl))
 have hsz:(w3.setCell ⟨Q,4,none⟩ (.slice (some ⟨g,0,none⟩) n ncap)).heap.size=w3.heap.size:=by simp[World.setCell]
 have hne:∀k,k≠Q→(w3.setCell ⟨Q,4,none⟩ (.slice (some ⟨g,0,none⟩) n ncap)).heap[k]? =w3.heap[k]? :=fun k e=>Below.heap_setCell _ _ _ _ e
 have hall:∀k,k<wk.heap.size→ov.ownBlock≠some k→k≠Q→(w3.setCell ⟨Q,4,none⟩ (.slice (some ⟨g,0,none⟩) n ncap)).heap[k]? =wk.heap[k]? :=fun k h1 h2 h3=>(hne k h3).trans (hblk k h1 h2)
 have hov:∀k,ov.ownBlock=some k→k<w.heap.size:=fun k e=>(h.lo k (h.oB k e).1).2
 have htwo:=hy.two
 have h3s:=hg.size
 have hE1:(w3.setCell ⟨Q,4,none⟩ (.slice (some ⟨g,0,none⟩) n ncap)).heap[w.heap.size]? =wk.heap[w.heap.size]? :=hall _ hy.deed.lt (fun e=>by have:=hov _ e;omega) (by omega)
 have hE2:(w3.setCell ⟨Q,4,none⟩ (.slice (some ⟨g,0,none⟩) n ncap)).heap[w.heap.size+1]? =wk.heap[w.heap.size+1]? :=hall _ hy.two (fun e=>by have:=hov _ e;omega) (by omega)
 have hnovg:∀k,(Value.slice (some ⟨g,0,none⟩) n ncap).ownBlock=some k→k=g:=fun k e=>(Option.some.inj e).symm
 refine⟨hQlt,hc3,⟨⟨fun k hs=> ?_,.inl h.hQ,hc3.setOpens _,za3 hk.ownB (fun k e=>hall k (by have:=(h.lo k (h.bB k e).1).2;omega) (fun e'=>(h.oB k e').2.2 e) (h.bB k e).2),?_,fun k e=>⟨.inl (h.bB k e).1,(h.bB k e).2⟩,fun k e=> ?_⟩,?_,hy.deed.of_block' (by rw[hsz];exact Nat.lt_of_lt_of_le hy.deed.lt h3s) hE1,by rw[hsz];exact Nat.lt_of_lt_of_le hy.two h3s,fun o ho=> ?_,fun o ho=> ?_⟩⟩
 ·rw[hsz]
  rcases hs with hs|hs
  ·have:=h.lo k hs;omega
  ·rw[hsz]at hs
   have:=h.base_le
   omega
 ·have e1:(es++[d]).length=n:=by rw[List.length_append,hn];rfl
  have:zfy w3 base (.slice (some ⟨g,0,none⟩) n ncap) (es++[d]):=by
   unfold zfy
   rw[e1];exact hown
  exact za3 this (fun k e=>hne k (by rw[hnovg k e];exact hgQ))
 ·rw[hnovg k e]
  refine⟨?_,hgQ,fun e'=> ?_⟩
  ·rcases hl with e|e
   ·exact .inl (h.oB g e).1
   ·exact .inr ⟨by omega,by rw[hsz];exact hg3⟩
  ·rcases hl with e|e
   ·exact(h.oB g e).2.2 e'
   ·have:=(h.lo g (h.bB g e').1).2;omega
 ·refine⟨hg.os.trans hb.os,hg.tape.trans hb.tape,hg.output.trans hb.output,by rw[hsz];omega,fun k hk' hn'=> ?_⟩
  rw[hall k (by omega) (fun e=>hn' (h.oB k e).1) (fun e=>hn' (by rw[e];exact h.hQ))]
  exact hb.block k hk'
 ·rw[World.cell?_of_block (a:=⟨w.heap.size+1,o,none⟩) hE2];exact hy.has2 o ho
 ·rw[World.frozen?_of_block (a:=⟨w.heap.size+1,o,none⟩) hE2];exact hy.free2 o ho
theorem FS.fin{w wk:World}{base Q:Nat}{S:Nat→Prop}{bv nov:Value}{l:List Ch}{es:List Dd}{me seen next sent:Int}{d:Dd}(h:FS w base Q S bv nov l es me seen next sent d wk)(hlo:S Q∧∀k,S k→base≤k∧k<w.heap.size)(hbs:base≤w.heap.size):
 zt7 w base S Q l es me seen (next+1) sent ((((((((wk.setCell ⟨Q,2,none⟩ (.int .i64 (next+1))).setCell ⟨w.heap.size+1,0,none⟩ (.int .i64 d.kind)).setCell ⟨w.heap.size+1,1,none⟩ (.int .i64 d.by_)).setCell ⟨w.heap.size+1,2,none⟩ (.int .i64 d.no)).setCell ⟨w.heap.size+1,3,none⟩ (.int .i64 d.seen)).setCell ⟨w.heap.size+1,4,none⟩ (.int .i64 d.at_)).setCell ⟨w.heap.size+1,5,none⟩ (.int .i64 d.many)).setCell ⟨w.heap.size+1,6,none⟩ (.string d.text))∧zde ((((((((wk.setCell ⟨Q,2,none⟩ (.int .i64 (next+1))).setCell ⟨w.heap.size+1,0,none⟩ (.int .i64 d.kind)).setCell ⟨w.heap.size+1,1,none⟩ (.int .i64 d.by_)).setCell ⟨w.heap.size+1,2,none⟩ (.int .i64 d.no)).setCell ⟨w.heap.size+1,3,none⟩ (.int .i64 d.seen)).setCell ⟨w.heap.size+1,4,none⟩ (.int .i64 d.at_)).setCell ⟨w.heap.size+1,5,none⟩ (.int .i64 d.many)).setCell ⟨w.heap.size+1,6,none⟩ (.string d.text)) (w.heap.size+1) 0 d:=by
 have hQ:=(hlo.2 Q hlo.1).2
 have h2:=h.at_.wrote (h.at_.cells.setNext (next+1))
 have hk2:zak S w (wk.setCell ⟨Q,2,none⟩ (.int .i64 (next+1))):=h.kept.set (p:=⟨Q,2,none⟩) hlo.1 _
 have hsz2:(wk.setCell ⟨Q,2,none⟩ (.int .i64 (next+1))).heap.size=wk.heap.size:=by simp[World.setCell]
 have hE:(wk.setCell ⟨Q,2,none⟩ (.int .i64 (next+1))).heap[w.heap.size+1]? =wk.heap[w.heap.size+1]? :=Below.heap_setCell _ _ _ _ (by show w.heap.size+1≠Q;omega)
 have hhas:∀o,o<7→∃u,(wk.setCell ⟨Q,2,none⟩ (.int .i64 (next+1))).cell? ⟨w.heap.size+1,o,none⟩=some u:=fun o ho=>by
  rw[World.cell?_of_block (a:=⟨w.heap.size+1,o,none⟩) hE];exact h.has2 o ho
 have htwo:w.heap.size+1<(wk.setCell ⟨Q,2,none⟩ (.int .i64 (next+1))).heap.size:=by rw[hsz2];exact h.two
 have hkd:zak (fun k=>k=w.heap.size+1) (wk.setCell ⟨Q,2,none⟩ (.int .i64 (next+1))) ((((((((wk.setCell ⟨Q,2,none⟩ (.int .i64 (next+1))).setCell ⟨w.heap.size+1,0,none⟩ (.int .i64 d.kind)).setCell ⟨w.heap.size+1,1,none⟩ (.int .i64 d.by_)).setCell ⟨w.heap.size+1,2,none⟩ (.int .i64 d.no)).setCell ⟨w.heap.size+1,3,none⟩ (.int .i64 d.seen)).setCell ⟨w.heap.size+1,4,none⟩ (.int .i64 d.at_)).setCell ⟨w.heap.size+1,5,none⟩ (.int .i64 d.many)).setCell ⟨w.heap.size+1,6,none⟩ (.string d.text)):=by
  have h0:zak (fun k=>k=w.heap.size+1) (wk.setCell ⟨Q,2,none⟩ (.int .i64 (next+1))) (wk.setCell ⟨Q,2,none⟩ (.int .i64 (next+1))):=zak.refl _ _
  exact((((((h0.set (p:=⟨w.heap.size+1,_,none⟩) rfl _).set (p:=⟨w.heap.size+1,_,none⟩) rfl _).set (p:=⟨w.heap.size+1,_,none⟩) rfl _).set (p:=⟨w.heap.size+1,_,none⟩) rfl _).set (p:=⟨w.heap.size+1,_,none⟩) rfl _).set (p:=⟨w.heap.size+1,_,none⟩) rfl _).set (p:=⟨w.heap.size+1,_,none⟩) rfl _
 have h3:=h2.kept hkd (fun k hs e=>by
  rcases hs with hs|hs
  ·have:=(hlo.2 k hs).2;omega
  ·omega)
 refine⟨zt7.of (h3.mono (fun k hs=> ?_) (zkq hbs (Nat.le_trans hk2.size hkd.size) hlo.2)) ⟨hkd.os.trans hk2.os,hkd.tape.trans hk2.tape,hkd.output.trans hk2.output,Nat.le_trans hk2.size hkd.size,fun k hk hn=>(hkd.block k (Nat.lt_of_lt_of_le hk hk2.size) (by omega)).trans (hk2.block k hk hn)⟩,zde.written htwo d hhas⟩
 rcases hs with hs|hs
 ·exact .inl hs
 ·exact .inr ⟨by omega,by have:=hkd.size;omega⟩
structure YS(w:World)(Q:Nat)(bv ov:Value)(me seen next sent:Int)(d:Dd)(wk:World):Prop where
 cells:ScC wk Q bv ov me seen next sent
 deed:zde wk w.heap.size 0 d
theorem ys_of{w:World}{base Q:Nat}{S:Nat→Prop}{bv ov:Value}{l:List Ch}{es:List Dd}{me seen next sent:Int}(h:zes w base S Q bv ov l es me seen next sent){wk:World}{d:Dd}(hj:WJ w d wk):YS w Q bv ov me seen next sent d wk:=⟨(h.below hj.below).cells,hj.deed⟩
theorem ys_z{w wk:World}{base Q:Nat}{S:Nat→Prop}{bv ov nov:Value}{l:List Ch}{es:List Dd}{me seen next sent:Int}{d:Dd}(h:ZS w base Q S bv ov nov l es me seen next sent d wk):YS w Q bv ov me seen next sent d wk:=by
 refine⟨h.cells,?_⟩
 have hQ:Q≠w.heap.size:=by have:=h.pl;omega
 refine h.ready.deed.of_block' (by simpa [World.setCell]using h.ready.deed.lt) ?_
 rw[Below.heap_setCell _ _ _ _ (fun e=>hQ e.symm)]
def SrcD(d:Dd)(u:Value)(wk:World):Prop:=∀b,u= .slice (some ⟨b,0,none⟩) 1 1→∀j x,(zbx [d])[j]? =some x→wk.cell? ((⟨b,0,none⟩:Addr).add j)=some x
theorem srcD_new(wk:World)(d:Dd):SrcD d (.slice (some ⟨wk.heap.size,0,none⟩) 1 1) (wk.alloc (zcc d)):=by
 intro b hb j x hx
 have hbb:b=wk.heap.size:=by simpa using hb.symm
 rw[hbb]
 exact zwd wk [d] #[.int .i64 d.kind,.int .i64 d.by_,.int .i64 d.no,.int .i64 d.seen,.int .i64 d.at_,.int .i64 d.many,.string d.text] rfl j x hx
theorem qg1{w:World}{base Q:Nat}{S:Nat→Prop}{bv ov:Value}{l:List Ch}{es:List Dd}{me seen next sent:Int}(h:zes w base S Q bv ov l es me seen next sent)(hes:es.length≤1000)(ht:zvt l es)(d:Dd)(hz:doC (zai l es) (zdu d me next seen) za0≠0):
 Calls Tryz.prog 94 #[.pointer (some ⟨Q,0,none⟩),ddV d] w fun e w'=>e= .returned (.tuple #[ddV ⟨0,0,0,0,0,0,⟨#[]⟩⟩,.int .i64 (doC (zai l es) (zdu d me next seen) za0)])∧Below w.heap.size w w':=by
 have HA:Hid (zes w base S Q bv ov l es me seen next sent):=h
 have hQlt:=h.cells.lt
 have HC:Hid (∀wk,Below w.heap.size w wk→Calls Tryz.prog 59 #[.pointer (some ⟨Q,0,none⟩)] wk fun e w'=>∃v',e= .returned v'∧Lst w' v' (zai l es)∧Below wk.heap.size wk w'):=fun wk hb=>znz (h.below hb) hes ht
 have hte:zgs (zai l es)∧(zai l es).length≤1000:=by have:=ht.tame es.length (Nat.le_refl _);rw[List.take_length]at this;exact this
 obtain⟨kind,by0,no0,seen0,at_,many,text⟩:=d
 have HI:Hid (WJ w ⟨kind,by0,no0,seen0,at_,many,text⟩ ((w.alloc (zcc ⟨kind,by0,no0,seen0,at_,many,text⟩)).alloc (zcc ⟨0,0,0,0,0,0,⟨#[]⟩⟩))):=znl w _
 have HDO:Hid (∀wk v,Lst wk v (zai l es)→Calls Tryz.prog 103 #[v,ddV ⟨kind,me,next,seen,at_,many,text⟩,.int .i64 1073741824] wk fun e w'=>∃v',e= .returned (.tuple #[v',.int .i64 (doC (zai l es) ⟨kind,me,next,seen,at_,many,text⟩ za0)])∧Own w' wk.heap.size v' (doR (zai l es) ⟨kind,me,next,seen,at_,many,text⟩ za0)∧Below wk.heap.size wk w'):=fun wk v hv=>zm8 _ ⟨kind,me,next,seen,at_,many,text⟩ v wk hv hte.2 hte.1
 generalize hcc:doC (zai l es) ⟨kind,me,next,seen,at_,many,text⟩ za0=cc at*
 have HCC:Hid (doC (zai l es) (zdu ⟨kind,by0,no0,seen0,at_,many,text⟩ me next seen) za0=cc):=hcc
 have HZ:Hid (cc≠0):=by show cc≠0;rw[←HCC.out];exact hz
 clear h hz hcc hte ht
 go_enter Tryz.func94,Tryz.ntmps94
 go_wp2
 refine wrs (fun wk=>Below w.heap.size w wk) (fun i=>i==13||i==15||i==17) (fun wk=>WJ w ⟨kind,by0,no0,seen0,at_,many,text⟩ wk) (by kernel_rfl) (by kernel_rfl) (by kernel_rfl) (fun _ h=>h.below) (HI.out.after (Below.refl _ _).drew) ?_
 refine wss rfl (fun K hK=> ?_)
 go_simp
 refine⟨_,fun _ _=>rfl,hK _ ?_⟩
 clear hK K
 refine wss rfl (fun K hK=> ?_)
 go_simp
 refine⟨_,fun _ _=>rfl,hK _ ?_⟩
 clear hK K
 refine wss rfl (fun K hK=> ?_)
 go_simp
 refine⟨_,fun _ _=>rfl,hK _ ?_⟩
 clear hK K
 refine wss rfl (fun K hK=> ?_)
 go_simp
 refine⟨.int .i64 me,fun wk hwk=> ?_,hK _ ?_⟩
 ·have c:=(HA.out.below hwk).cells.me
  go_simp
 clear hK K
 refine wss rfl (fun K hK=> ?_)
 go_simp
 refine⟨_,fun _ _=>rfl,hK _ ?_⟩
 clear hK K
 refine wss rfl (fun K hK=> ?_)
 go_simp
 refine⟨_,fun _ _=>rfl,hK _ ?_⟩
 clear hK K
 refine wss rfl (fun K hK=> ?_)
 go_simp
 refine⟨_,fun _ _=>rfl,hK _ ?_⟩
 clear hK K
 refine wss rfl (fun K hK=> ?_)
 go_simp
 refine⟨.int .i64 next,fun wk hwk=> ?_,hK _ ?_⟩
 ·have c:=(HA.out.below hwk).cells.next
  go_simp
 clear hK K
 refine wss rfl (fun K hK=> ?_)
 go_simp
 refine⟨_,fun _ _=>rfl,hK _ ?_⟩
 clear hK K
 refine wss rfl (fun K hK=> ?_)
 go_simp
 refine⟨_,fun _ _=>rfl,hK _ ?_⟩
 clear hK K
 refine wss rfl (fun K hK=> ?_)
 go_simp
 refine⟨_,fun _ _=>rfl,hK _ ?_⟩
 clear hK K
 refine wss rfl (fun K hK=> ?_)
 go_simp
 refine⟨.int .i64 seen,fun wk hwk=> ?_,hK _ ?_⟩
 ·have c:=(HA.out.below hwk).cells.seen
  go_simp
 clear hK K
 refine wss rfl (fun K hK=> ?_)
 go_simp
 refine⟨_,fun _ _=>rfl,hK _ ?_⟩
 clear hK K
 refine wsp rfl rfl (fun u=>u= .tuple #[]) (fun u wk=>WJ w ⟨kind,me,no0,seen0,at_,many,text⟩ wk) ⟨_,rfl⟩ (fun _ _ h=>h.below) (fun wk hwk=> ?_) (fun v13 hv13=> ?_)
 ·obtain⟨hlt,c0,c1,c2,c3,c4,c5,c6⟩:=hwk.deed
  simp only[Nat.zero_add]at c0 c1 c2 c3 c4 c5 c6
  have f:=hwk.free 1 (by omega)
  have hp:=hwk.setBy me
  go_simp
  exact⟨rfl,hp⟩
 refine wss rfl (fun K hK=> ?_)
 go_simp
 refine⟨_,fun _ _=>rfl,hK _ ?_⟩
 clear hK K
 refine wsp rfl rfl (fun u=>u= .tuple #[]) (fun u wk=>WJ w ⟨kind,me,next,seen0,at_,many,text⟩ wk) ⟨_,rfl⟩ (fun _ _ h=>h.below) (fun wk hwk=> ?_) (fun v15 hv15=> ?_)
 ·obtain⟨hlt,c0,c1,c2,c3,c4,c5,c6⟩:=hwk.deed
  simp only[Nat.zero_add]at c0 c1 c2 c3 c4 c5 c6
  have f:=hwk.free 2 (by omega)
  have hp:=hwk.setNo next
  go_simp
  exact⟨rfl,hp⟩
 refine wss rfl (fun K hK=> ?_)
 go_simp
 refine⟨_,fun _ _=>rfl,hK _ ?_⟩
 clear hK K
 refine wsp rfl rfl (fun u=>u= .tuple #[]) (fun u wk=>WJ w ⟨kind,me,next,seen,at_,many,text⟩ wk) ⟨_,rfl⟩ (fun _ _ h=>h.below) (fun wk hwk=> ?_) (fun v17 hv17=> ?_)
 ·obtain⟨hlt,c0,c1,c2,c3,c4,c5,c6⟩:=hwk.deed
  simp only[Nat.zero_add]at c0 c1 c2 c3 c4 c5 c6
  have f:=hwk.free 3 (by omega)
  have hp:=hwk.setSeen seen
  go_simp
  exact⟨rfl,hp⟩
 refine wsn (fun w1 hw1=> ?_)
 have H1:Hid _:=hw1
 clear hw1
 have HJ1:Hid (WJ w ⟨kind,me,next,seen,at_,many,text⟩ w1):=H1
 clear H1 HI
 go_wp2
 refine wrs (fun wk=>WJ w ⟨kind,me,next,seen,at_,many,text⟩ wk) (fun i=>i==1||i==3) (fun wk=>WJ w ⟨kind,me,next,seen,at_,many,text⟩ wk) (by kernel_rfl) (by kernel_rfl) (by kernel_rfl) (fun _ h=>h) (HJ1.out.after (Below.refl _ _).drew) ?_
 refine wss rfl (fun K hK=> ?_)
 go_simp
 refine⟨_,fun _ _=>rfl,hK _ ?_⟩
 clear hK K
 refine wsp rfl rfl (fun u=>∃a n c,u= .slice a n c) (fun u wk=>WJ w ⟨kind,me,next,seen,at_,many,text⟩ wk∧Lst wk u (zai l es)) ⟨_,none,0,0,rfl⟩ (fun _ _ h=>h.1) (fun wk hwk=> ?_) (fun v1 hv1=> ?_)
 ·go_simp
  refine(HC.out wk hwk.below).mono ?_
  rintro e w6 ⟨u,rfl,hs,hb⟩
  obtain⟨ta,tc,hu,_⟩:=hs.len
  exact⟨u,rfl,⟨_,_,_,hu⟩,hwk.after hb,hs⟩
 obtain⟨va,vn,vc,rfl⟩:=hv1
 refine wss rfl (fun K hK=> ?_)
 go_simp
 refine⟨ddV ⟨kind,me,next,seen,at_,many,text⟩,fun wk hwk=> ?_,hK _ ?_⟩
 ·obtain⟨_,c0,c1,c2,c3,c4,c5,c6⟩:=hwk.deed
  simp only[Nat.zero_add]at c0 c1 c2 c3 c4 c5 c6
  go_simp
 clear hK K
 refine wsp rfl rfl (fun u=>∃v,u= .tuple #[v,.int .i64 cc]) (fun u wk=>WJ w ⟨kind,me,next,seen,at_,many,text⟩ wk) ⟨_,.bool false,rfl⟩ (fun _ _ h=>h) (fun wk hwk=> ?_) (fun v3 hv3=> ?_)
 ·go_simp
  refine(HDO.out wk _ hwk.2).mono ?_
  rintro e w6 ⟨v,rfl,ho,hb⟩
  exact⟨_,rfl,⟨v,rfl⟩,hwk.1.after hb⟩
 obtain⟨v,rfl⟩:=hv3
 refine wss rfl (fun K hK=> ?_)
 go_simp
 refine⟨_,fun _ _=>rfl,hK _ ?_⟩
 clear hK K
 refine wss rfl (fun K hK=> ?_)
 go_simp
 refine⟨_,fun _ _=>rfl,hK _ ?_⟩
 clear hK K
 refine wss rfl (fun K hK=> ?_)
 go_simp
 refine⟨_,fun _ _=>rfl,hK _ ?_⟩
 clear hK K
 refine wss rfl (fun K hK=> ?_)
 go_simp
 refine⟨_,fun _ _=>rfl,hK _ ?_⟩
 clear hK K
 refine wss rfl (fun K hK=> ?_)
 go_simp
 refine⟨_,fun _ _=>rfl,hK _ ?_⟩
 clear hK K
 refine wsn (fun w9 hw9=> ?_)
 have H9:Hid _:=hw9
 clear hw9
 have HJ9:Hid (WJ w ⟨kind,me,next,seen,at_,many,text⟩ w9):=H9
 clear H9 HJ1
 have hz':(cc != 0)=true:=by simp[HZ.out]
 clear HDO HA HC
 have two:=HJ9.out.two
 obtain⟨y0,z0⟩:=HJ9.out.has2 0 (by omega)
 obtain⟨y1,z1⟩:=HJ9.out.has2 1 (by omega)
 obtain⟨y2,z2⟩:=HJ9.out.has2 2 (by omega)
 obtain⟨y3,z3⟩:=HJ9.out.has2 3 (by omega)
 obtain⟨y4,z4⟩:=HJ9.out.has2 4 (by omega)
 obtain⟨y5,z5⟩:=HJ9.out.has2 5 (by omega)
 obtain⟨y6,z6⟩:=HJ9.out.has2 6 (by omega)
 have k0:=HJ9.out.free2 0 (by omega)
 have k1:=HJ9.out.free2 1 (by omega)
 have k2:=HJ9.out.free2 2 (by omega)
 have k3:=HJ9.out.free2 3 (by omega)
 have k4:=HJ9.out.free2 4 (by omega)
 have k5:=HJ9.out.free2 5 (by omega)
 have k6:=HJ9.out.free2 6 (by omega)
 go_wp2
 refine zcb (d:=⟨0,0,0,0,0,0,⟨#[]⟩⟩) (x:= .int .i64 cc) rfl (zde.written two ⟨0,0,0,0,0,0,⟨#[]⟩⟩ HJ9.out.has2) rfl rfl rfl ?_
 exact⟨by rw[HCC.out],zgb (Nat.le_succ _) HJ9.out.below ⟨0,0,0,0,0,0,⟨#[]⟩⟩⟩
theorem zzv{w:World}{base Q:Nat}{S:Nat→Prop}{bv ov:Value}{l:List Ch}{es:List Dd}{me seen next sent:Int}(h:zes w base S Q bv ov l es me seen next sent)(hes:es.length≤1000)(ht:zvt l es)(hn1:1≤next)(hnx:next≤1000)(d:Dd)(hz:doC (zai l es) (zdu d me next seen) za0=0):
 Calls Tryz.prog 94 #[.pointer (some ⟨Q,0,none⟩),ddV d] w fun e w'=>e= .returned (.tuple #[ddV (zdu d me next seen),.int .i64 0])∧zt7 w base S Q l (es++[zdu d me next seen]) me seen (next+1) sent w':=by
 have HA:Hid (zes w base S Q bv ov l es me seen next sent):=h
 have hQlt:=h.cells.lt
 have HC:Hid (∀wk,Below w.heap.size w wk→Calls Tryz.prog 59 #[.pointer (some ⟨Q,0,none⟩)] wk fun e w'=>∃v',e= .returned v'∧Lst w' v' (zai l es)∧Below wk.heap.size wk w'):=fun wk hb=>znz (h.below hb) hes ht
 have hte:zgs (zai l es)∧(zai l es).length≤1000:=by have:=ht.tame es.length (Nat.le_refl _);rw[List.take_length]at this;exact this
 obtain⟨kind,by0,no0,seen0,at_,many,text⟩:=d
 have HI:Hid (WJ w ⟨kind,by0,no0,seen0,at_,many,text⟩ ((w.alloc (zcc ⟨kind,by0,no0,seen0,at_,many,text⟩)).alloc (zcc ⟨0,0,0,0,0,0,⟨#[]⟩⟩))):=znl w _
 have HDO:Hid (∀wk v,Lst wk v (zai l es)→Calls Tryz.prog 103 #[v,ddV ⟨kind,me,next,seen,at_,many,text⟩,.int .i64 1073741824] wk fun e w'=>∃v',e= .returned (.tuple #[v',.int .i64 (doC (zai l es) ⟨kind,me,next,seen,at_,many,text⟩ za0)])∧Own w' wk.heap.size v' (doR (zai l es) ⟨kind,me,next,seen,at_,many,text⟩ za0)∧Below wk.heap.size wk w'):=fun wk v hv=>zm8 _ ⟨kind,me,next,seen,at_,many,text⟩ v wk hv hte.2 hte.1
 generalize hcc:doC (zai l es) ⟨kind,me,next,seen,at_,many,text⟩ za0=cc at*
 have HCC:Hid (doC (zai l es) (zdu ⟨kind,by0,no0,seen0,at_,many,text⟩ me next seen) za0=cc):=hcc
 have HZ:Hid (cc=0):=by show cc=0;rw[←HCC.out];exact hz
 clear h hz hcc hte ht
 go_enter Tryz.func94,Tryz.ntmps94
 go_wp2
 refine wrs (fun wk=>Below w.heap.size w wk) (fun i=>i==13||i==15||i==17) (fun wk=>WJ w ⟨kind,by0,no0,seen0,at_,many,text⟩ wk) (by kernel_rfl) (by kernel_rfl) (by kernel_rfl) (fun _ h=>h.below) (HI.out.after (Below.refl _ _).drew) ?_
 refine wss rfl (fun K hK=> ?_)
 go_simp
 refine⟨_,fun _ _=>rfl,hK _ ?_⟩
 clear hK K
 refine wss rfl (fun K hK=> ?_)
 go_simp
 refine⟨_,fun _ _=>rfl,hK _ ?_⟩
 clear hK K
 refine wss rfl (fun K hK=> ?_)
 go_simp
 refine⟨_,fun _ _=>rfl,hK _ ?_⟩
 clear hK K
 refine wss rfl (fun K hK=> ?_)
 go_simp
 refine⟨.int .i64 me,fun wk hwk=> ?_,hK _ ?_⟩
 ·have c:=(HA.out.below hwk).cells.me
  go_simp
 clear hK K
 refine wss rfl (fun K hK=> ?_)
 go_simp
 refine⟨_,fun _ _=>rfl,hK _ ?_⟩
 clear hK K
 refine wss rfl (fun K hK=> ?_)
 go_simp
 refine⟨_,fun _ _=>rfl,hK _ ?_⟩
 clear hK K
 refine wss rfl (fun K hK=> ?_)
 go_simp
 refine⟨_,fun _ _=>rfl,hK _ ?_⟩
 clear hK K
 refine wss rfl (fun K hK=> ?_)
 go_simp
 refine⟨.int .i64 next,fun wk hwk=> ?_,hK _ ?_⟩
 ·have c:=(HA.out.below hwk).cells.next
  go_simp
 clear hK K
 refine wss rfl (fun K hK=> ?_)
 go_simp
 refine⟨_,fun _ _=>rfl,hK _ ?_⟩
 clear hK K
 refine wss rfl (fun K hK=> ?_)
 go_simp
 refine⟨_,fun _ _=>rfl,hK _ ?_⟩
 clear hK K
 refine wss rfl (fun K hK=> ?_)
 go_simp
 refine⟨_,fun _ _=>rfl,hK _ ?_⟩
 clear hK K
 refine wss rfl (fun K hK=> ?_)
 go_simp
 refine⟨.int .i64 seen,fun wk hwk=> ?_,hK _ ?_⟩
 ·have c:=(HA.out.below hwk).cells.seen
  go_simp
 clear hK K
 refine wss rfl (fun K hK=> ?_)
 go_simp
 refine⟨_,fun _ _=>rfl,hK _ ?_⟩
 clear hK K
 refine wsp rfl rfl (fun u=>u= .tuple #[]) (fun u wk=>WJ w ⟨kind,me,no0,seen0,at_,many,text⟩ wk) ⟨_,rfl⟩ (fun _ _ h=>h.below) (fun wk hwk=> ?_) (fun v13 hv13=> ?_)
 ·obtain⟨hlt,c0,c1,c2,c3,c4,c5,c6⟩:=hwk.deed
  simp only[Nat.zero_add]at c0 c1 c2 c3 c4 c5 c6
  have f:=hwk.free 1 (by omega)
  have hp:=hwk.setBy me
  go_simp
  exact⟨rfl,hp⟩
 refine wss rfl (fun K hK=> ?_)
 go_simp
 refine⟨_,fun _ _=>rfl,hK _ ?_⟩
 clear hK K
 refine wsp rfl rfl (fun u=>u= .tuple #[]) (fun u wk=>WJ w ⟨kind,me,next,seen0,at_,many,text⟩ wk) ⟨_,rfl⟩ (fun _ _ h=>h.below) (fun wk hwk=> ?_) (fun v15 hv15=> ?_)
 ·obtain⟨hlt,c0,c1,c2,c3,c4,c5,c6⟩:=hwk.deed
  simp only[Nat.zero_add]at c0 c1 c2 c3 c4 c5 c6
  have f:=hwk.free 2 (by omega)
  have hp:=hwk.setNo next
  go_simp
  exact⟨rfl,hp⟩
 refine wss rfl (fun K hK=> ?_)
 go_simp
 refine⟨_,fun _ _=>rfl,hK _ ?_⟩
 clear hK K
 refine wsp rfl rfl (fun u=>u= .tuple #[]) (fun u wk=>WJ w ⟨kind,me,next,seen,at_,many,text⟩ wk) ⟨_,rfl⟩ (fun _ _ h=>h.below) (fun wk hwk=> ?_) (fun v17 hv17=> ?_)
 ·obtain⟨hlt,c0,c1,c2,c3,c4,c5,c6⟩:=hwk.deed
  simp only[Nat.zero_add]at c0 c1 c2 c3 c4 c5 c6
  have f:=hwk.free 3 (by omega)
  have hp:=hwk.setSeen seen
  go_simp
  exact⟨rfl,hp⟩
 refine wsn (fun w1 hw1=> ?_)
 have H1:Hid _:=hw1
 clear hw1
 have HJ1:Hid (WJ w ⟨kind,me,next,seen,at_,many,text⟩ w1):=H1
 clear H1 HI
 go_wp2
 refine wrs (fun wk=>WJ w ⟨kind,me,next,seen,at_,many,text⟩ wk) (fun i=>i==1||i==3) (fun wk=>WJ w ⟨kind,me,next,seen,at_,many,text⟩ wk) (by kernel_rfl) (by kernel_rfl) (by kernel_rfl) (fun _ h=>h) (HJ1.out.after (Below.refl _ _).drew) ?_
 refine wss rfl (fun K hK=> ?_)
 go_simp
 refine⟨_,fun _ _=>rfl,hK _ ?_⟩
 clear hK K
 refine wsp rfl rfl (fun u=>∃a n c,u= .slice a n c) (fun u wk=>WJ w ⟨kind,me,next,seen,at_,many,text⟩ wk∧Lst wk u (zai l es)) ⟨_,none,0,0,rfl⟩ (fun _ _ h=>h.1) (fun wk hwk=> ?_) (fun v1 hv1=> ?_)
 ·go_simp
  refine(HC.out wk hwk.below).mono ?_
  rintro e w6 ⟨u,rfl,hs,hb⟩
  obtain⟨ta,tc,hu,_⟩:=hs.len
  exact⟨u,rfl,⟨_,_,_,hu⟩,hwk.after hb,hs⟩
 obtain⟨va,vn,vc,rfl⟩:=hv1
 refine wss rfl (fun K hK=> ?_)
 go_simp
 refine⟨ddV ⟨kind,me,next,seen,at_,many,text⟩,fun wk hwk=> ?_,hK _ ?_⟩
 ·obtain⟨_,c0,c1,c2,c3,c4,c5,c6⟩:=hwk.deed
  simp only[Nat.zero_add]at c0 c1 c2 c3 c4 c5 c6
  go_simp
 clear hK K
 refine wsp rfl rfl (fun u=>∃v,u= .tuple #[v,.int .i64 cc]) (fun u wk=>WJ w ⟨kind,me,next,seen,at_,many,text⟩ wk) ⟨_,.bool false,rfl⟩ (fun _ _ h=>h) (fun wk hwk=> ?_) (fun v3 hv3=> ?_)
 ·go_simp
  refine(HDO.out wk _ hwk.2).mono ?_
  rintro e w6 ⟨v,rfl,ho,hb⟩
  exact⟨_,rfl,⟨v,rfl⟩,hwk.1.after hb⟩
 obtain⟨v,rfl⟩:=hv3
 refine wss rfl (fun K hK=> ?_)
 go_simp
 refine⟨_,fun _ _=>rfl,hK _ ?_⟩
 clear hK K
 refine wss rfl (fun K hK=> ?_)
 go_simp
 refine⟨_,fun _ _=>rfl,hK _ ?_⟩
 clear hK K
 refine wss rfl (fun K hK=> ?_)
 go_simp
 refine⟨_,fun _ _=>rfl,hK _ ?_⟩
 clear hK K
 refine wss rfl (fun K hK=> ?_)
 go_simp
 refine⟨_,fun _ _=>rfl,hK _ ?_⟩
 clear hK K
 refine wss rfl (fun K hK=> ?_)
 go_simp
 refine⟨_,fun _ _=>rfl,hK _ ?_⟩
 clear hK K
 refine wsn (fun w9 hw9=> ?_)
 have H9:Hid _:=hw9
 clear hw9
 have HJ9:Hid (WJ w ⟨kind,me,next,seen,at_,many,text⟩ w9):=H9
 clear H9 HJ1
 have hz':(cc != 0)=false:=by simp[HZ.out]
 clear HDO HC
 obtain⟨oa,ocap,hov⟩:=zfy.len HA.out.ownO
 have HAP:Hid (∀(ty:TypeId) wk c b,WJ w ⟨kind,me,next,seen,at_,many,text⟩ wk→(∀j x,(zbx [(⟨kind,me,next,seen,at_,many,text⟩:Dd)])[j]? =some x→wk.cell? ((⟨b,0,none⟩:Addr).add j)=some x)→∃g ncap w3,(Builtin.append_ #[61,61] ty #[ov,.slice (some ⟨b,0,none⟩) 1 c]).run Tryz.prog wk= .ok (.slice (some ⟨g,0,none⟩) (es.length+1) ncap) w3∧ZS w base Q S bv ov (.slice (some ⟨g,0,none⟩) (es.length+1) ncap) l (es++[⟨kind,me,next,seen,at_,many,text⟩]) me seen next sent ⟨kind,me,next,seen,at_,many,text⟩ w3):=fun ty wk c b hy hsrc=>by
  obtain⟨i0,hi0,hz0,hz1,hz2⟩:=info_parts Tryz.infoDeed
  have hown:=(HA.out.below hy.below).ownO
  unfold zfy at hown
  obtain⟨g,ncap,w3,e1,e2,e3,e4,e5⟩:=run_append_lies (P:=Tryz.prog) wk 61 ty base 124 i0 zdm 7 64 Tryz.underlying61 hi0 hz0 hz1 hz2 rfl (by decide) ov es.length (zbx es) hown ⟨b,0,none⟩ 1 c (zbx [(⟨kind,me,next,seen,at_,many,text⟩:Dd)]) rfl hsrc (zhx _) (by omega) (by unfold maxLen;omega) (by omega) (by have:=HA.out.base_le;have:=hy.below.size;omega) wk.heap.size rfl
  rw[←zjz]at e2
  refine⟨g,ncap,w3,e1,qcf HA.out hy e3 e2 rfl ?_ e5⟩
  rcases e4 with e|e
  ·exact .inl e
  ·exact .inr (by omega)
 rw[hov]at HAP HA
 clear hov
 go_wp2
 refine zl1 (fun wk=>YS w Q bv (.slice oa es.length ocap) me seen next sent ⟨kind,me,next,seen,at_,many,text⟩ wk) (fun i=>i==6||i==7||i==10) (fun i=>i==10) (fun wk=>WJ w ⟨kind,me,next,seen,at_,many,text⟩ wk) (by kernel_rfl) (by kernel_rfl) (by kernel_rfl) (by kernel_rfl) (fun _ h=>ys_of HA.out h) (HJ9.out.after (Below.refl _ _).drew) ?_
 refine zan rfl (fun K hK=> ?_)
 go_simp
 refine⟨_,fun _ _=>rfl,hK _ ?_⟩
 clear hK K
 refine zan rfl (fun K hK=> ?_)
 go_simp
 refine⟨_,fun _ _=>rfl,hK _ ?_⟩
 clear hK K
 refine zan rfl (fun K hK=> ?_)
 go_simp
 refine⟨_,fun _ _=>rfl,hK _ ?_⟩
 clear hK K
 refine zan rfl (fun K hK=> ?_)
 go_simp
 refine⟨_,fun _ _=>rfl,hK _ ?_⟩
 clear hK K
 refine zan rfl (fun K hK=> ?_)
 go_simp
 refine⟨.slice oa es.length ocap,fun wk hwk=> ?_,hK _ ?_⟩
 ·have c:=hwk.cells.opens
  go_simp
 clear hK K
 refine zan rfl (fun K hK=> ?_)
 go_simp
 refine⟨ddV ⟨kind,me,next,seen,at_,many,text⟩,fun wk hwk=> ?_,hK _ ?_⟩
 ·obtain⟨_,c0,c1,c2,c3,c4,c5,c6⟩:=hwk.deed
  simp only[Nat.zero_add]at c0 c1 c2 c3 c4 c5 c6
  go_simp
 clear hK K
 refine ze8 rfl rfl (fun u=>∃b,u= .slice (some ⟨b,0,none⟩) 1 1) (fun u wk=>WJ w ⟨kind,me,next,seen,at_,many,text⟩ wk∧SrcD ⟨kind,me,next,seen,at_,many,text⟩ u wk) ⟨_,0,rfl⟩ (fun _ _ h=>ys_of HA.out h.1) (fun wk hwk=> ?_) (fun v6 hv6=> ?_)
 ·have hs:=srcD_new wk ⟨kind,me,next,seen,at_,many,text⟩
  have hy:=hwk.after (za1 wk (zcc ⟨kind,me,next,seen,at_,many,text⟩))
  go_simp
  exact⟨⟨_,rfl⟩,hy,hs⟩
 obtain⟨bb,rfl⟩:=hv6
 refine ze8 rfl rfl (fun u=>∃g c,u= .slice (some ⟨g,0,none⟩) (es.length+1) c) (fun u wk=>ZS w base Q S bv (.slice oa es.length ocap) u l (es++[⟨kind,me,next,seen,at_,many,text⟩]) me seen next sent ⟨kind,me,next,seen,at_,many,text⟩ wk) ⟨_,0,0,rfl⟩ (fun _ _ h=>ys_z h) (fun wk hwk=> ?_) (fun v7 hv7=> ?_)
 ·obtain⟨g,ncap,w3,e1,e2⟩:=HAP.out _ wk 1 bb hwk.1 (hwk.2 bb rfl)
  exact zoh rfl rfl rfl e1 ⟨⟨_,_,rfl⟩,e2⟩
 obtain⟨ng,ncap,rfl⟩:=hv7
 refine zan rfl (fun K hK=> ?_)
 go_simp
 refine⟨_,fun _ _=>rfl,hK _ ?_⟩
 clear hK K
 refine zan rfl (fun K hK=> ?_)
 go_simp
 refine⟨_,fun _ _=>rfl,hK _ ?_⟩
 clear hK K
 refine zlw rfl rfl rfl (fun u=>u= .tuple #[]) (fun u wk=>FS w base Q S bv (.slice (some ⟨ng,0,none⟩) (es.length+1) ncap) l (es++[⟨kind,me,next,seen,at_,many,text⟩]) me seen next sent ⟨kind,me,next,seen,at_,many,text⟩ wk) ⟨_,rfl⟩ (fun wk hwk=> ?_) (fun v10 hv10=> ?_)
 ·have c4:=hwk.cells.opens
  have f4:=hwk.cells.free 4 (by omega)
  have hlt:=hwk.cells.lt
  have hp:=hwk.ready
  go_simp
  exact⟨rfl,hp⟩
 refine zhi (fun w8 hw8=> ?_)
 have H8:Hid _:=hw8
 clear hw8
 have hQl9:=(HA.out.lo Q HA.out.hQ).2
 have HEND:Hid _:=H8.out.fin ⟨HA.out.hQ,HA.out.lo⟩ HA.out.base_le
 have hc9:=H8.out.at_.cells
 have hP9:=hc9.lt
 have e1:=hc9.next
 have f1:=hc9.free 2 (by omega)
 have two:=H8.out.two
 obtain⟨y0,z0⟩:=H8.out.has2 0 (by omega)
 obtain⟨y1,z1⟩:=H8.out.has2 1 (by omega)
 obtain⟨y2,z2⟩:=H8.out.has2 2 (by omega)
 obtain⟨y3,z3⟩:=H8.out.has2 3 (by omega)
 obtain⟨y4,z4⟩:=H8.out.has2 4 (by omega)
 obtain⟨y5,z5⟩:=H8.out.has2 5 (by omega)
 obtain⟨y6,z6⟩:=H8.out.has2 6 (by omega)
 have k0:=H8.out.free2 0 (by omega)
 have k1:=H8.out.free2 1 (by omega)
 have k2:=H8.out.free2 2 (by omega)
 have k3:=H8.out.free2 3 (by omega)
 have k4:=H8.out.free2 4 (by omega)
 have k5:=H8.out.free2 5 (by omega)
 have k6:=H8.out.free2 6 (by omega)
 obtain⟨hE,q0,q1,q2,q3,q4,q5,q6⟩:=H8.out.deed
 simp only[Nat.zero_add]at q0 q1 q2 q3 q4 q5 q6
 have hn1':¬Q=w.heap.size:=by omega
 have hn2':¬w.heap.size=Q:=by omega
 have hn3':¬Q=w.heap.size+1:=by omega
 have hn4':¬w.heap.size+1=Q:=by omega
 clear hc9 H8 HAP
 go_wp2
 refine zcb (d:=⟨kind,me,next,seen,at_,many,text⟩) (x:= .int .i64 0) rfl HEND.out.2 rfl rfl rfl ?_
 exact⟨rfl,HEND.out.1⟩
end Go.Proofs.YtcbnnfeelhlapadGreatDoor