/-
  WScA, WScB.
-/
import Derived.Test.YtcbnnfeelhlapadGreatDoorDkWr
namespace Go.Proofs.YtcbnnfeelhlapadGreatDoor
set_option maxHeartbeats 3200000
set_option maxRecDepth 20000
open Go.RowKit
variable {w:World} {Q base:Nat} {bv ov v:Value} {me seen next sent:Int} {S:Nat->Prop} {l:List Ch} {es:List Dd}
theorem ScC.setSeen(h:ScC w Q bv ov me seen next sent)(x:Int):ScC (w.setCell ⟨Q,1,none⟩ (.int .i64 x)) Q bv ov me x next sent:=by
 obtain⟨hlt,c0,c1,c2,c3,c4,c5,hf⟩:=h
 refine⟨by simpa using hlt,?_,?_,?_,?_,?_,?_,fun o ho=>by simpa [go_sem]using hf o ho⟩
 ·simp[go_sem,c0]
 ·simp[go_sem,c1]
 ·simp[go_sem,c2]
 ·simp[go_sem,c3]
 ·simp[go_sem,c4]
 simp[go_sem,c5]
theorem ScC.setNext(h:ScC w Q bv ov me seen next sent)(x:Int):ScC (w.setCell ⟨Q,2,none⟩ (.int .i64 x)) Q bv ov me seen x sent:=by
 obtain⟨hlt,c0,c1,c2,c3,c4,c5,hf⟩:=h
 refine⟨by simpa using hlt,?_,?_,?_,?_,?_,?_,fun o ho=>by simpa [go_sem]using hf o ho⟩
 ·simp[go_sem,c0]
 ·simp[go_sem,c1]
 ·simp[go_sem,c2]
 ·simp[go_sem,c3]
 ·simp[go_sem,c4]
 simp[go_sem,c5]
theorem ScC.setBase(h:ScC w Q bv ov me seen next sent)(x:Value):ScC (w.setCell ⟨Q,3,none⟩ x) Q x ov me seen next sent:=by
 obtain⟨hlt,c0,c1,c2,c3,c4,c5,hf⟩:=h
 refine⟨by simpa using hlt,?_,?_,?_,?_,?_,?_,fun o ho=>by simpa [go_sem]using hf o ho⟩
 ·simp[go_sem,c0]
 ·simp[go_sem,c1]
 ·simp[go_sem,c2]
 ·simp[go_sem,c3]
 ·simp[go_sem,c4]
 simp[go_sem,c5]
theorem ScC.setOpens(h:ScC w Q bv ov me seen next sent)(x:Value):ScC (w.setCell ⟨Q,4,none⟩ x) Q bv x me seen next sent:=by
 obtain⟨hlt,c0,c1,c2,c3,c4,c5,hf⟩:=h
 refine⟨by simpa using hlt,?_,?_,?_,?_,?_,?_,fun o ho=>by simpa [go_sem]using hf o ho⟩
 ·simp[go_sem,c0]
 ·simp[go_sem,c1]
 ·simp[go_sem,c2]
 ·simp[go_sem,c3]
 ·simp[go_sem,c4]
 simp[go_sem,c5]
theorem ScC.setSent(h:ScC w Q bv ov me seen next sent)(x:Int):ScC (w.setCell ⟨Q,5,none⟩ (.int .i64 x)) Q bv ov me seen next x:=by
 obtain⟨hlt,c0,c1,c2,c3,c4,c5,hf⟩:=h
 refine⟨by simpa using hlt,?_,?_,?_,?_,?_,?_,fun o ho=>by simpa [go_sem]using hf o ho⟩
 ·simp[go_sem,c0]
 ·simp[go_sem,c1]
 ·simp[go_sem,c2]
 ·simp[go_sem,c3]
 ·simp[go_sem,c4]
 simp[go_sem,c5]
theorem zfw.wrote(h:zfw w base S Q bv ov l es me seen next sent){me' seen' next' sent':Int}{o:Nat}{u:Value}(hc:ScC (w.setCell ⟨Q,o,none⟩ u) Q bv ov me' seen' next' sent'):zfw (w.setCell ⟨Q,o,none⟩ u) base S Q bv ov l es me' seen' next' sent':=by
 have hne:∀k,k≠Q->(w.setCell ⟨Q,o,none⟩ u).heap[k]? =w.heap[k]? :=fun k e=>Below.heap_setCell _ _ _ _ e
 have hsz:(w.setCell ⟨Q,o,none⟩ u).heap.size=w.heap.size:=by simp[World.setCell]
 exact⟨fun k hs=>by rw[hsz];exact h.lo k hs,h.hQ,hc,za5 h.ownB (fun k e=>hne k (h.bB k e).2),za5 h.ownO (fun k e=>hne k (h.oB k e).2.1),h.bB,h.oB⟩
theorem zfw.rebase(h:zfw w base S Q bv ov l es me seen next sent){w1:World}{bv':Value}{l':List Ch}(hb:Below w.heap.size w w1)(ho:Own w1 w.heap.size bv' l'):zfw (w1.setCell ⟨Q,3,none⟩ bv') base (grow S w w1) Q bv' ov l' es me seen next sent:=by
 have h1:=h.below hb
 have hQ:=(h.lo Q h.hQ).2
 have hsz:(w1.setCell ⟨Q,3,none⟩ bv').heap.size=w1.heap.size:=by simp[World.setCell]
 have hne:∀k,k≠Q->(w1.setCell ⟨Q,3,none⟩ bv').heap[k]? =w1.heap[k]? :=fun k e=>Below.heap_setCell _ _ _ _ e
 have hnew:∀k,bv'.ownBlock=some k->w.heap.size<=k/\k<w1.heap.size:=fun k e=>World.ownsRow.lt ho k e
 refine⟨fun k hs=>by rw[hsz];exact zkr h.base_le hb.size h.lo k hs,.inl h.hQ,h1.cells.setBase _,za5 (ho.mono h.base_le) (fun k e=>hne k (by have:=hnew k e;omega)),za5 h1.ownO (fun k e=>hne k (h1.oB k e).2.1),fun k e=>⟨.inr (hnew k e),by have:=hnew k e;omega⟩,fun k e=>⟨.inl (h.oB k e).1,(h.oB k e).2.1,fun e'=> ?_⟩⟩
 have:=hnew k e';have:=(h.lo k (h.oB k e).1).2;omega
theorem zt9.of{w':World}(hat:zfw w' base (grow S w w') Q bv ov l es me seen next sent)(hk:zam S w w'):zt9 w base S Q l es me seen next sent w':=⟨⟨bv,ov,hat⟩,hk⟩
theorem qaw(h:Lst w v l)(hl:l.length<=1000):
 Calls Tryz.prog 143 #[v] w fun e w'=>∃v',e= .returned v'/\Own w' w.heap.size v' l/\Below w.heap.size w w':=by
 have HL:=hid h
 obtain⟨a,cap,rfl,_⟩:=h.len
 clear h
 go_enter Tryz.func143,Tryz.ntmps143
 go_wp2_with (at_builtin;refine zbd _ rfl (.tmp 4) (.tmp 5) rfl w.heap.size (v:= .slice none 0 0) (u:= .slice a l.length cap) (a:=[]) rfl rfl (zd6 _ _) HL.out ?c0 (Nat.le_refl _) ?_)
 case c0=>simp;omega
 intro v' w' ho hg
 have HO:=hid ho
 have HB:Hid (Below w.heap.size w w'):=(Below.refl _ w).grown hg (Nat.le_refl _) (by intro k hk;cases hk)
 clear ho hg
 go_wp2
 go_ret
 exact⟨_,rfl,HO.out,HB.out⟩
abbrev scObj(me seen next:Int)(bv:Value):Obj:= .cells #[.int .i64 me,.int .i64 seen,.int .i64 next,bv,.slice none 0 0,.int .i64 0] 95
theorem scAt_new{w1:World}{v1:Value}(ho:Own w1 w.heap.size v1 l)(hb:Below w.heap.size w w1)(me seen next:Int):
 zfw (w1.alloc (scObj me seen next v1)) w.heap.size (fun k=>w.heap.size<=k/\k<w1.heap.size+1) w1.heap.size v1 (.slice none 0 0) l [] me seen next 0:=by
 have hs:=hb.size
 refine⟨fun k hk=>by simpa using hk,⟨hs,by omega⟩,⟨by simp,?_,?_,?_,?_,?_,?_,fun o ho'=> ?_⟩,ho.below (za2 _ _),zzd _ _,fun k e=> ?_,fun k e=>(by cases e)⟩
 ·simp[go_sem]
 ·simp[go_sem]
 ·simp[go_sem]
 ·simp[go_sem]
 ·simp[go_sem]
 ·simp[go_sem]
 ·rcases(show o=0\/o=1\/o=2\/o=3\/o=4\/o=5 by omega)with rfl|rfl|rfl|rfl|rfl|rfl<;>simp[go_sem]
 have:=World.ownsRow.lt ho k e
 exact⟨⟨this.1,by omega⟩,by omega⟩
theorem new_sc(h:Lst w v l)(hl:l.length<=1000)(me next seen:Int):
 Calls Tryz.prog 93 #[.int .i64 me,.int .i64 next,.int .i64 seen,v] w fun e w'=>∃Q v1,e= .returned (.pointer (some ⟨Q,0,none⟩))/\zfw w' w.heap.size (fun k=>w.heap.size<=k/\k<w'.heap.size) Q v1 (.slice none 0 0) l [] me seen next 0/\Below w.heap.size w w':=by
 have HL:=hid h
 obtain⟨a,cap,rfl,_⟩:=h.len
 clear h
 go_enter Tryz.func93,Tryz.ntmps93
 go_wp2_with fail
 refine(qaw HL.out hl).mono ?_
 rintro e w3 ⟨v3,rfl,ho3,hb3⟩
 have HB3:=hid hb3
 have HP:=hid (scAt_new ho3 hb3 me seen next)
 obtain⟨va,vc,rfl,_⟩:=ho3.lst.len
 clear ho3 hb3
 go_wp2
 go_ret
 exact⟨w3.heap.size,_,rfl,by simpa using HP.out,HB3.out.trans ((za2 _ _).mono HB3.out.size)⟩
theorem qb1{k:Nat}(h:k<es.length):zaj l (es.take (k+1))=doL (zaj l (es.take k)) es[k] za3:=by
 rw[List.take_succ_eq_append_getElem h,zjt]
theorem zfx.nth(h:zfx w base v es){k:Nat}(hk:k<es.length):∃b cap,v= .slice (some ⟨b,0,none⟩) es.length cap/\zdq w b (k*7) es[k]:=by
 obtain⟨h1,h2⟩:=h
 rcases h2 with⟨rfl,hn⟩|⟨g,cap,cur,rfl,hb,hg,hnc,hr⟩
 ·omega
 have h':zfx w base (.slice (some ⟨g,0,none⟩) es.length cap) es:=⟨h1,.inr ⟨g,cap,cur,rfl,hb,hg,hnc,hr⟩⟩
 have hlt:=(Array.getElem?_eq_some_iff.1 hg).1
 have key:∀r,r<7->w.cell? ⟨g,k*7+r,none⟩=(zf9 es[k])[r]? :=fun r hr=>by
  rw[World.ownsRow.cellAt h' (k*7+r) (by omega),zjz es k r hk hr]
 exact⟨g,cap,rfl,⟨hlt,key 0 (by omega),key 1 (by omega),key 2 (by omega),key 3 (by omega),key 4 (by omega),key 5 (by omega),key 6 (by omega)⟩⟩
theorem zny(h:zfw w base S Q bv ov l es me seen next sent)(hes:es.length<=1000)(ht:zya l es):
 Calls Tryz.prog 59 #[.pointer (some ⟨Q,0,none⟩)] w fun e w'=>∃v',e= .returned v'/\Lst w' v' (zaj l es)/\Below w.heap.size w w':=by
 have HA:=hid h
 have HT:=hid ht
 have c3:=h.cells.base
 have hlt:=h.cells.lt
 obtain⟨oa,ocap,rfl⟩:=zfx.len h.ownO
 have HL0:=hid h.ownB.lst
 obtain⟨ba,bc,hbv,_⟩:=h.ownB.lst.len
 subst hbv
 generalize l.length=ll at*
 clear h ht
 go_enter Tryz.func59,Tryz.ntmps59
 go_wp2
 clear c3
 go_loopw [3,4] (fun u i wr=>∃k:Nat,k<=es.length/\i= .int .i64 k/\Hid (Below w.heap.size w wr)/\Hid (Lst wr u (zaj l (es.take k)))) (fun _ i _=>es.length-(intOf i).toNat)
 case atStart=>exact⟨0,Nat.zero_le _,rfl,Below.refl _ _,HL0⟩
 obtain⟨k,hk,rfl,HB,HK⟩:=hrel
 clear HL0
 have hA:=HA.out.below HB.out
 have c4:=hA.cells.opens
 have hltr:=hA.cells.lt
 obtain⟨ua,uc,hu,_⟩:=HK.out.len
 subst hu
 have HU:Hid (∃n,(zaj l (es.take k)).length=n):=⟨_,rfl⟩
 obtain⟨ul,hul⟩:=HU.out
 rw[hul]at HK⊢
 clear HU hul
 by_cases hk2:k<es.length
 ·obtain⟨b,cap,hov,hdd⟩:=hA.ownO.nth hk2
  simp only[Value.slice.injEq]at hov
  obtain⟨rfl,-, rfl⟩:=hov
  obtain⟨hbl,g0,g1,g2,g3,g4,g5,g6⟩:=hdd
  have HOK:=hid (HT.out.ok k hk2)
  have HSU:Hid (zaj l (es.take (k+1))=doL (zaj l (es.take k)) es[k] za3):=qb1 hk2
  have HTM:Hid _:=HT.out.tame k hk
  have HDO:Hid (∀d,d=es[k]->Calls Tryz.prog 103 #[.slice ua ul uc,ddV d,.int .i64 1073741824] wr fun e w'=>∃v',e= .returned (.tuple #[v',.int .i64 (doC (zaj l (es.take k)) d za3)])/\Own w' wr.heap.size v' (doR (zaj l (es.take k)) d za3)/\Below wr.heap.size wr w'):=fun d _=>zm4 _ d _ wr HK.out HTM.out.2 HTM.out.1
  generalize hd:es[k]=d at*
  have HDD:Hid (d=d):=rfl
  obtain⟨kind,by_,no,dseen,at_,many,text⟩:=d
  simp only at g0 g1 g2 g3 g4 g5 g6
  clear hA hd HTM
  go_wp2_with fail
  refine(HDO.out _ rfl).mono ?_
  rintro e w2 ⟨v2,rfl,ho2,hb2⟩
  rw[HOK.out]
  have HO2:Hid (Lst w2 v2 (zaj l (es.take (k+1)))):=by
   show Lst _ _ _
   rw[HSU.out]
   have:=ho2.lst
   rw[doR,if_pos HOK.out]at this
   exact this
  have HB2:=hid (bla HB.out hb2)
  clear ho2 hb2 HDO HOK HSU g0 g1 g2 g3 g4 g5 g6 c4 HB HK
  go_wp2
  go_roundw
  case rel=>exact⟨k+1,by omega,by go_num,HB2,HO2⟩
  case measure=>simp[intOf];omega
 obtain rfl:k=es.length:=by omega
 have HE:Hid (zaj l (es.take es.length)=zaj l es):=by show _=_;rw[List.take_length]
 clear hA
 go_wp2
 go_ret
 exact⟨_,rfl,by rw[<-HE.out];exact HK.out,HB.out⟩
theorem least_sc{sent:Nat}(h:zfw w base S Q bv ov l es me seen next sent):
 Calls Tryz.prog 100 #[.pointer (some ⟨Q,0,none⟩)] w fun e w'=>e= .returned (.int .i64 (zh0 es sent seen))/\Below w.heap.size w w':=by
 have c2:=h.cells.seen
 have c4:=h.cells.opens
 have c5:=h.cells.sent
 have hlt:=h.cells.lt
 by_cases hs:sent<es.length
 ·have HE:Hid (zh0 es sent seen=es[sent].seen):=by show zh0 es sent seen=_;rw[zh0,List.getElem?_eq_getElem hs]
  obtain⟨g,cap,rfl,⟨hg,_,_,_,g3,_,_,_⟩⟩:=h.ownO.nth hs
  generalize es[sent].seen=s at*
  have hs':(sent:Int)<(es.length:Int):=by omega
  clear h
  go_enter Tryz.func100,Tryz.ntmps100
  iterate 2 (go_wp2;go_quiet (fail))
  go_wp2
  go_ret
  exact⟨zae HE.out.symm,below_drewN (below_drewN (Below.refl _ _) _) _⟩
 have HE:Hid (zh0 es sent seen=seen):=by show zh0 es sent seen=_;rw[zh0,List.getElem?_eq_none (by omega)]
 obtain⟨a,cap,rfl⟩:=zfx.len h.ownO
 have hs':¬(sent:Int)<(es.length:Int):=by omega
 clear h
 go_enter Tryz.func100,Tryz.ntmps100
 go_wp2
 go_quiet (fail)
 go_wp2
 go_ret
 exact⟨zae HE.out.symm,below_drewN (Below.refl _ _) _⟩
theorem text_sc(h:zfw w base S Q bv ov l es me seen next sent)(hes:es.length<=1000)(ht:zya l es):
 Calls Tryz.prog 37 #[.pointer (some ⟨Q,0,none⟩)] w fun e w'=>e= .returned (.string (strOfNums (vw (zaj l es) seen me)))/\Below w.heap.size w w':=by
 have HA:=hid h
 have HC:Hid (∀wk,Below w.heap.size w wk->Calls Tryz.prog 59 #[.pointer (some ⟨Q,0,none⟩)] wk fun e w'=>∃v',e= .returned v'/\Lst w' v' (zaj l es)/\Below wk.heap.size wk w'):=fun wk hb=>zny (h.below hb) hes ht
 have hte:zi2 (zaj l es)/\(zaj l es).length<=1000:=by have:=ht.tame es.length (Nat.le_refl _);rw[List.take_length]at this;exact this
 have HV:Hid (∀wk v,Lst wk v (zaj l es)->Calls Tryz.prog 58 #[v,.int .i64 seen,.int .i64 me] wk fun e w'=>e= .returned (.string (strOfNums (vw (zaj l es) seen me)))/\Below wk.heap.size wk w'):=fun wk v hv=>zki hv hte.2 hte.1 seen me
 have hlt:=h.cells.lt
 generalize strOfNums (vw (zaj l es) seen me)=T at*
 clear h hte ht
 go_enter Tryz.func37,Tryz.ntmps37
 go_wp2
 refine wrs (fun wk=>Below w.heap.size w wk) (fun i=>i==1||i==10) (fun wk=>Below w.heap.size w wk) (by kernel_rfl) (by kernel_rfl) (by kernel_rfl) (fun _ h=>h) ((Below.refl _ _).drew) ?_
 refine wss rfl (fun K hK=> ?_)
 go_simp
 refine⟨_,fun _ _=>rfl,hK _ ?_⟩
 clear hK K
 refine wsp rfl rfl (fun u=>∃a n c,u= .slice a n c) (fun u wk=>Below w.heap.size w wk/\Lst wk u (zaj l es)) ⟨_,none,0,0,rfl⟩ (fun _ _ h=>h.1) (fun wk hwk=> ?_) (fun v1 hv1=> ?_)
 ·go_simp
  refine(HC.out wk hwk).mono ?_
  rintro e w6 ⟨u,rfl,hs,hb⟩
  obtain⟨ta,tc,hu,_⟩:=hs.len
  exact⟨u,rfl,⟨_,_,_,hu⟩,bla hwk hb,hs⟩
 obtain⟨va,vn,vc,rfl⟩:=hv1
 iterate 3 (refine wss rfl (fun K hK=> ?_);go_simp;refine⟨_,fun _ _=>rfl,hK _ ?_⟩;clear hK K)
 refine wss rfl (fun K hK=> ?_)
 go_simp
 refine⟨.int .i64 seen,fun wk hwk=> ?_,hK _ ?_⟩
 ·have c:=(HA.out.below hwk).cells.seen
  go_simp
 iterate 3 (clear hK K;refine wss rfl (fun K hK=> ?_);go_simp;refine⟨_,fun _ _=>rfl,hK _ ?_⟩)
 clear hK K
 refine wss rfl (fun K hK=> ?_)
 go_simp
 refine⟨.int .i64 me,fun wk hwk=> ?_,hK _ ?_⟩
 ·have c:=(HA.out.below hwk).cells.me
  go_simp
 clear hK K
 refine wsp rfl rfl (fun u=>u= .string T) (fun u wk=>Below w.heap.size w wk) ⟨_,rfl⟩ (fun _ _ h=>h) (fun wk hwk=> ?_) (fun v10 hv10=> ?_)
 ·go_simp
  refine(HV.out wk _ hwk.2).mono ?_
  rintro e w6 ⟨rfl,hb⟩
  exact⟨_,rfl,rfl,bla hwk.1 hb⟩
 subst hv10
 refine wss rfl (fun K hK=> ?_)
 go_simp
 refine⟨_,fun _ _=>rfl,hK _ ?_⟩
 clear hK K
 refine wsn (fun w9 hw9=> ?_)
 have H9:Hid _:=hw9
 clear hw9
 go_wp2
 go_ret
 exact⟨rfl,H9.out⟩
theorem zuh(least:Int)(l:List Ch){k:Nat}(h:k<l.length):ofL least (l.take (k+1))=ofL least (l.take k)++if ze4 least l[k]=true then []else [l[k]]:=zsb least l k h
theorem zy0(least:Int)(h:Lst w v l)(hl:l.length<=1000)(ht:zi2 l):
 Calls Tryz.prog 146 #[v,.int .i64 least] w fun e w'=>∃v',e= .returned v'/\Own w' w.heap.size v' (ofL least l)/\Below w.heap.size w w':=by
 have HL:=hid h
 have HT:=hid ht
 obtain⟨a,cap,rfl,_⟩:=h.len
 clear h ht
 generalize hn:l.length=n at*
 have HN:=hid hn
 clear hn
 go_enter Tryz.func146,Tryz.ntmps146
 go_wp2
 go_loopw [5,6] (fun u i wr=>∃k:Nat,k<=n/\i= .int .i64 k/\Hid (Below w.heap.size w wr)/\Hid (Own wr w.heap.size u (ofL least (l.take k)))) (fun _ i _=>n-(intOf i).toNat)
 case atStart=>exact⟨0,Nat.zero_le _,rfl,Below.refl _ _,zd6 _ _⟩
 obtain⟨k,hk,rfl,HB,HO⟩:=hrel
 obtain⟨ua,uc,hu,_⟩:=HO.out.lst.len
 subst hu
 have HZ:Hid ((ofL least (l.take k)).length<=1000):=by
  have h1:=zze least (l.take k)
  have h2:(l.take k).length<=k:=List.length_take_le _ _
  show _<=_
  omega
 have HU:Hid (∃m,(ofL least (l.take k)).length=m):=⟨_,rfl⟩
 obtain⟨ul,hul⟩:=HU.out
 rw[hul]at HO⊢
 clear HU hul
 by_cases hlt:k<n
 ·have hkl:k<l.length:=by rw[HN.out];exact hlt
  obtain⟨b,off,rfl,_,hr⟩:=(HL.out.below HB.out).row (by omega)
  obtain⟨g0,g1,g2,g3,g4,g5,g6⟩:=hr.at_ k hkl
  have ht0:=(zjp HT.out k hkl).1
  have HS:=hid (zuh least l hkl)
  generalize l[k]=x at*
  obtain⟨xc,xb,xn,xk,xi,xo,xg⟩:=x
  simp only at g0 g1 g2 g3 g4 g5 g6 ht0
  have hsz:=HB.out.size
  clear hr
  by_cases ho0:xo=0
  ·have HS2:Hid (ofL least (l.take (k+1))=ofL least (l.take k)++[⟨xc,xb,xn,xk,xi,xo,xg⟩]):=by show _=_;rw[HS.out,if_neg (by simp[ze4,ho0])]
   have ho':(xo==0)=true:=by simp[ho0]
   clear ho0 HS
   go_wp2_with (at_builtin;refine zbd _ rfl (.tmp 36) (.tmp 41) rfl w.heap.size (v:= .slice ua ul uc) (u:= .slice (some ⟨_,0,none⟩) 1 1) (b:=[⟨xc,xb,xn,xk,xi,xo,xg⟩]) rfl rfl (HO.out.below ((Below.refl _ _).alloc (Nat.le_refl _) _)) (lst_one' _ ⟨xc,xb,xn,xk,xi,xo,xg⟩ (by simp)) ?ca ?cb ?_)
   case ca=>have:=HZ.out;first|omega|(simp;omega)
   case cb=>first|omega|(simp;omega)
   intro v8 w8 ho hg
   have HO8:Hid (Own w8 w.heap.size v8 (ofL least (l.take (k+1)))):=by show Own _ _ _ _;rw[HS2.out];exact ho
   have HB8:Hid (Below w.heap.size w w8):=(HB.out.trans ((za2 _ _).mono hsz)).grown hg (by simp;omega) (fun k' hk'=>(World.ownsRow.lt HO.out k' hk').1)
   clear ho hg g0 g1 g2 g3 g4 g5 g6
   go_wp2
   go_roundw
   case rel=>exact⟨k+1,by omega,by go_num,HB8,HO8⟩
   case measure=>simp[intOf];omega
  have ho':(xo==0)=false:=by simp[ho0]
  by_cases hle:xo<=least
  ·have HS2:Hid (ofL least (l.take (k+1))=ofL least (l.take k)):=by show _=_;rw[HS.out,if_pos (by simp[ze4,ho0,hle])];simp
   have hg':¬least<xo:=by omega
   have hn0:¬xo<0:=by omega
   clear HS ho0
   go_wp2
   go_roundw
   case rel=>exact⟨k+1,by omega,by go_num,HB,by rw[HS2.out];exact HO⟩
   case measure=>simp[intOf];omega
  have HS2:Hid (ofL least (l.take (k+1))=ofL least (l.take k)++[⟨xc,xb,xn,xk,xi,xo,xg⟩]):=by show _=_;rw[HS.out,if_neg (by simp[ze4];omega)]
  have hg':least<xo:=by omega
  clear HS ho0
  go_wp2_with (at_builtin;refine zbd _ rfl (.tmp 36) (.tmp 41) rfl w.heap.size (v:= .slice ua ul uc) (u:= .slice (some ⟨_,0,none⟩) 1 1) (b:=[⟨xc,xb,xn,xk,xi,xo,xg⟩]) rfl rfl (HO.out.below ((Below.refl _ _).alloc (Nat.le_refl _) _)) (lst_one' _ ⟨xc,xb,xn,xk,xi,xo,xg⟩ (by simp)) ?ca ?cb ?_)
  case ca=>have:=HZ.out;first|omega|(simp;omega)
  case cb=>first|omega|(simp;omega)
  intro v8 w8 ho hg
  have HO8:Hid (Own w8 w.heap.size v8 (ofL least (l.take (k+1)))):=by show Own _ _ _ _;rw[HS2.out];exact ho
  have HB8:Hid (Below w.heap.size w w8):=(HB.out.trans ((za2 _ _).mono hsz)).grown hg (by simp;omega) (fun k' hk'=>(World.ownsRow.lt HO.out k' hk').1)
  clear ho hg g0 g1 g2 g3 g4 g5 g6
  go_wp2
  go_roundw
  case rel=>exact⟨k+1,by omega,by go_num,HB8,HO8⟩
  case measure=>simp[intOf];omega
 obtain rfl:k=n:=by omega
 have HE:Hid (ofL least (l.take k)=ofL least l):=by show _=_;rw[<-HN.out,List.take_length]
 go_wp2
 go_ret
 exact⟨_,rfl,by rw[<-HE.out];exact HO.out,HB.out⟩
theorem clear_sc(h:zfw w base S Q bv ov l es me seen next sent)(hl:l.length<=1000)(ht:zi2 l)(least:Int):
 Calls Tryz.prog 101 #[.pointer (some ⟨Q,0,none⟩),.int .i64 least] w fun e w'=>e= .returned (.tuple #[])/\zt9 w base S Q (ofL least l) es me seen next sent w':=by
 have HA:=hid h
 have HL:=hid h.ownB.lst
 have HT:=hid ht
 have c3:=h.cells.base
 have hlt:=h.cells.lt
 obtain⟨la,lcap,hbv,_⟩:=h.ownB.lst.len
 subst hbv
 clear h ht
 go_enter Tryz.func101,Tryz.ntmps101
 go_wp2_with fail
 refine(zy0 least HL.out hl HT.out).mono ?_
 rintro e w1 ⟨v1,rfl,ho,hb⟩
 obtain⟨va,vcap,rfl,_⟩:=ho.lst.len
 have hc9:=(HA.out.below hb).cells
 have hP9:=hc9.lt
 have e3:=hc9.base
 have f3:=hc9.free 3 (by omega)
 have HR:Hid (zt9 w base S Q (ofL least l) es me seen next sent (w1.setCell ⟨Q,3,none⟩ (.slice va (ofL least l).length vcap))):=zt9.of (by rw[zh3];exact HA.out.rebase hb ho) ((zam.of_below hb).set (p:=⟨Q,3,none⟩) HA.out.hQ _)
 clear ho hb hc9
 go_wp2
 go_end0
 exact⟨rfl,HR.out⟩
variable {w wk:World} {base Q:Nat} {S:Nat->Prop} {bv ov nov:Value} {l:List Ch} {es:List Dd} {me seen next sent:Int} {d:Dd}
structure FS(w:World)(base Q:Nat)(S:Nat->Prop)(bv nov:Value)(l:List Ch)(es:List Dd)(me seen next sent:Int)(d:Dd)(wk:World):Prop where
 at_:zfw wk base (grow2 S w wk) Q bv nov l es me seen next sent
 kept:zam S w wk
 deed:zdq wk w.heap.size 0 d
 two:w.heap.size+1<wk.heap.size
 has2:∀o,o<7->∃u,wk.cell? ⟨w.heap.size+1,o,none⟩=some u
 free2:∀o,o<7->wk.frozen? ⟨w.heap.size+1,o,none⟩=false
structure ZS(w:World)(base Q:Nat)(S:Nat->Prop)(bv ov nov:Value)(l:List Ch)(es:List Dd)(me seen next sent:Int)(d:Dd)(wk:World):Prop where
 pl:Q<w.heap.size
 cells:ScC wk Q bv ov me seen next sent
 ready:FS w base Q S bv nov l es me seen next sent d (wk.setCell ⟨Q,4,none⟩ nov)
theorem qcg(h:zfw w base S Q bv ov l es me seen next sent){wk w3:World}{d:Dd}{g n ncap:Nat}(hy:WJ w d wk)(hg:wk.grownBy w3 ov.ownBlock)
 (hown:w3.ownsRow base 124 7 (.slice (some ⟨g,0,none⟩) n ncap) n (zbv (es++[d]))) (hn:n=es.length+1) (hl:ov.ownBlock=some g\/wk.heap.size<=g) (hg3:g<w3.heap.size):
 ZS w base Q S bv ov (.slice (some ⟨g,0,none⟩) n ncap) l (es++[d]) me seen next sent d w3:=by
 have hb:=hy.below
 have hk:=h.below hb
 have hQlt:=(h.lo Q h.hQ).2
 have hws:=hb.size
 have hgQ:g≠Q:=by
  rcases hl with e|e
  ·exact(h.oB g e).2.1
  omega
 have hblk:∀k,k<wk.heap.size->ov.ownBlock≠some k->w3.heap[k]? =wk.heap[k]? :=fun k hk' hne=>hg.block k hk' (fun e=>hne e.symm)
 have hc3:ScC w3 Q bv ov me seen next sent:=hk.cells.kept hg.size (hblk Q hk.cells.lt (fun e=>(h.oB Q e).2.1 rfl))
 have hsz:(w3.setCell ⟨Q,4,none⟩ (.slice (some ⟨g,0,none⟩) n ncap)).heap.size=w3.heap.size:=by simp[World.setCell]
 have hne:∀k,k≠Q->(w3.setCell ⟨Q,4,none⟩ (.slice (some ⟨g,0,none⟩) n ncap)).heap[k]? =w3.heap[k]? :=fun k e=>Below.heap_setCell _ _ _ _ e
 have hall:∀k,k<wk.heap.size->ov.ownBlock≠some k->k≠Q->(w3.setCell ⟨Q,4,none⟩ (.slice (some ⟨g,0,none⟩) n ncap)).heap[k]? =wk.heap[k]? :=fun k h1 h2 h3=>(hne k h3).trans (hblk k h1 h2)
 have hov:∀k,ov.ownBlock=some k->k<w.heap.size:=fun k e=>(h.lo k (h.oB k e).1).2
 have htwo:=hy.two
 have h3s:=hg.size
 have hE1:(w3.setCell ⟨Q,4,none⟩ (.slice (some ⟨g,0,none⟩) n ncap)).heap[w.heap.size]? =wk.heap[w.heap.size]? :=hall _ hy.deed.lt (fun e=>by have:=hov _ e;omega) (by omega)
 have hE2:(w3.setCell ⟨Q,4,none⟩ (.slice (some ⟨g,0,none⟩) n ncap)).heap[w.heap.size+1]? =wk.heap[w.heap.size+1]? :=hall _ hy.two (fun e=>by have:=hov _ e;omega) (by omega)
 have hnovg:∀k,(Value.slice (some ⟨g,0,none⟩) n ncap).ownBlock=some k->k=g:=fun k e=>(Option.some.inj e).symm
 refine⟨hQlt,hc3,⟨⟨fun k hs=> ?_,.inl h.hQ,hc3.setOpens _,za5 hk.ownB (fun k e=>hall k (by have:=(h.lo k (h.bB k e).1).2;omega) (fun e'=>(h.oB k e').2.2 e) (h.bB k e).2),?_,fun k e=>⟨.inl (h.bB k e).1,(h.bB k e).2⟩,fun k e=> ?_⟩,?_,hy.deed.of_block' (by rw[hsz];exact Nat.lt_of_lt_of_le hy.deed.lt h3s) hE1,by rw[hsz];exact Nat.lt_of_lt_of_le hy.two h3s,fun o ho=> ?_,fun o ho=> ?_⟩⟩
 ·rw[hsz]
  rcases hs with hs|hs
  ·have:=h.lo k hs;omega
  rw[hsz]at hs
  have:=h.base_le
  omega
 ·have e1:(es++[d]).length=n:=by rw[List.length_append,hn];rfl
  have:zfx w3 base (.slice (some ⟨g,0,none⟩) n ncap) (es++[d]):=by
   unfold zfx
   rw[e1];exact hown
  exact za5 this (fun k e=>hne k (by rw[hnovg k e];exact hgQ))
 ·rw[hnovg k e]
  refine⟨?_,hgQ,fun e'=> ?_⟩
  ·rcases hl with e|e
   ·exact .inl (h.oB g e).1
   exact .inr ⟨by omega,by rw[hsz];exact hg3⟩
  rcases hl with e|e
  ·exact(h.oB g e).2.2 e'
  have:=(h.lo g (h.bB g e').1).2;omega
 ·refine⟨hg.os.trans hb.os,hg.tape.trans hb.tape,hg.output.trans hb.output,by rw[hsz];omega,fun k hk' hn'=> ?_⟩
  rw[hall k (by omega) (fun e=>hn' (h.oB k e).1) (fun e=>hn' (by rw[e];exact h.hQ))]
  exact hb.block k hk'
 ·rw[World.cell?_of_block (a:=⟨w.heap.size+1,o,none⟩) hE2];exact hy.has2 o ho
 rw[World.frozen?_of_block (a:=⟨w.heap.size+1,o,none⟩) hE2];exact hy.free2 o ho
theorem FS.fin(h:FS w base Q S bv nov l es me seen next sent d wk)(hlo:S Q/\∀k,S k->base<=k/\k<w.heap.size)(hbs:base<=w.heap.size):
 zt9 w base S Q l es me seen (next+1) sent ((((((((wk.setCell ⟨Q,2,none⟩ (.int .i64 (next+1))).setCell ⟨w.heap.size+1,0,none⟩ (.int .i64 d.kind)).setCell ⟨w.heap.size+1,1,none⟩ (.int .i64 d.by_)).setCell ⟨w.heap.size+1,2,none⟩ (.int .i64 d.no)).setCell ⟨w.heap.size+1,3,none⟩ (.int .i64 d.seen)).setCell ⟨w.heap.size+1,4,none⟩ (.int .i64 d.at_)).setCell ⟨w.heap.size+1,5,none⟩ (.int .i64 d.many)).setCell ⟨w.heap.size+1,6,none⟩ (.string d.text))/\zdq ((((((((wk.setCell ⟨Q,2,none⟩ (.int .i64 (next+1))).setCell ⟨w.heap.size+1,0,none⟩ (.int .i64 d.kind)).setCell ⟨w.heap.size+1,1,none⟩ (.int .i64 d.by_)).setCell ⟨w.heap.size+1,2,none⟩ (.int .i64 d.no)).setCell ⟨w.heap.size+1,3,none⟩ (.int .i64 d.seen)).setCell ⟨w.heap.size+1,4,none⟩ (.int .i64 d.at_)).setCell ⟨w.heap.size+1,5,none⟩ (.int .i64 d.many)).setCell ⟨w.heap.size+1,6,none⟩ (.string d.text)) (w.heap.size+1) 0 d:=by
 have hQ:=(hlo.2 Q hlo.1).2
 have h2:=h.at_.wrote (h.at_.cells.setNext (next+1))
 have hk2:zam S w (wk.setCell ⟨Q,2,none⟩ (.int .i64 (next+1))):=h.kept.set (p:=⟨Q,2,none⟩) hlo.1 _
 have hsz2:(wk.setCell ⟨Q,2,none⟩ (.int .i64 (next+1))).heap.size=wk.heap.size:=by simp[World.setCell]
 have hE:(wk.setCell ⟨Q,2,none⟩ (.int .i64 (next+1))).heap[w.heap.size+1]? =wk.heap[w.heap.size+1]? :=Below.heap_setCell _ _ _ _ (by show w.heap.size+1≠Q;omega)
 have hhas:∀o,o<7->∃u,(wk.setCell ⟨Q,2,none⟩ (.int .i64 (next+1))).cell? ⟨w.heap.size+1,o,none⟩=some u:=fun o ho=>by
  rw[World.cell?_of_block (a:=⟨w.heap.size+1,o,none⟩) hE];exact h.has2 o ho
 have htwo:w.heap.size+1<(wk.setCell ⟨Q,2,none⟩ (.int .i64 (next+1))).heap.size:=by rw[hsz2];exact h.two
 have hkd:zam (fun k=>k=w.heap.size+1) (wk.setCell ⟨Q,2,none⟩ (.int .i64 (next+1))) ((((((((wk.setCell ⟨Q,2,none⟩ (.int .i64 (next+1))).setCell ⟨w.heap.size+1,0,none⟩ (.int .i64 d.kind)).setCell ⟨w.heap.size+1,1,none⟩ (.int .i64 d.by_)).setCell ⟨w.heap.size+1,2,none⟩ (.int .i64 d.no)).setCell ⟨w.heap.size+1,3,none⟩ (.int .i64 d.seen)).setCell ⟨w.heap.size+1,4,none⟩ (.int .i64 d.at_)).setCell ⟨w.heap.size+1,5,none⟩ (.int .i64 d.many)).setCell ⟨w.heap.size+1,6,none⟩ (.string d.text)):=by
  have h0:zam (fun k=>k=w.heap.size+1) (wk.setCell ⟨Q,2,none⟩ (.int .i64 (next+1))) (wk.setCell ⟨Q,2,none⟩ (.int .i64 (next+1))):=zam.refl _ _
  exact((((((h0.set (p:=⟨w.heap.size+1,_,none⟩) rfl _).set (p:=⟨w.heap.size+1,_,none⟩) rfl _).set (p:=⟨w.heap.size+1,_,none⟩) rfl _).set (p:=⟨w.heap.size+1,_,none⟩) rfl _).set (p:=⟨w.heap.size+1,_,none⟩) rfl _).set (p:=⟨w.heap.size+1,_,none⟩) rfl _).set (p:=⟨w.heap.size+1,_,none⟩) rfl _
 have h3:=h2.kept hkd (fun k hs e=>by
  rcases hs with hs|hs
  ·have:=(hlo.2 k hs).2;omega
  omega)
 refine⟨zt9.of (h3.mono (fun k hs=> ?_) (zkr hbs (Nat.le_trans hk2.size hkd.size) hlo.2)) ⟨hkd.os.trans hk2.os,hkd.tape.trans hk2.tape,hkd.output.trans hk2.output,Nat.le_trans hk2.size hkd.size,fun k hk hn=>(hkd.block k (Nat.lt_of_lt_of_le hk hk2.size) (by omega)).trans (hk2.block k hk hn)⟩,zdq.written htwo d hhas⟩
 rcases hs with hs|hs
 ·exact .inl hs
 exact .inr ⟨by omega,by have:=hkd.size;omega⟩
structure YS(w:World)(Q:Nat)(bv ov:Value)(me seen next sent:Int)(d:Dd)(wk:World):Prop where
 cells:ScC wk Q bv ov me seen next sent
 deed:zdq wk w.heap.size 0 d
theorem ys_of(h:zfw w base S Q bv ov l es me seen next sent){wk:World}{d:Dd}(hj:WJ w d wk):YS w Q bv ov me seen next sent d wk:=⟨(h.below hj.below).cells,hj.deed⟩
theorem ys_z(h:ZS w base Q S bv ov nov l es me seen next sent d wk):YS w Q bv ov me seen next sent d wk:=by
 refine⟨h.cells,?_⟩
 have hQ:Q≠w.heap.size:=by have:=h.pl;omega
 refine h.ready.deed.of_block' (by simpa [World.setCell]using h.ready.deed.lt) ?_
 rw[Below.heap_setCell _ _ _ _ (fun e=>hQ e.symm)]
def SrcD(d:Dd)(u:Value)(wk:World):Prop:=∀b,u= .slice (some ⟨b,0,none⟩) 1 1->∀j x,(zbv [d])[j]? =some x->wk.cell? ((⟨b,0,none⟩:Addr).add j)=some x
theorem srcD_new(wk:World)(d:Dd):SrcD d (.slice (some ⟨wk.heap.size,0,none⟩) 1 1) (wk.alloc (zd9 d)):=by
 intro b hb j x hx
 have hbb:b=wk.heap.size:=by simpa using hb.symm
 rw[hbb]
 exact zwd wk [d] #[.int .i64 d.kind,.int .i64 d.by_,.int .i64 d.no,.int .i64 d.seen,.int .i64 d.at_,.int .i64 d.many,.string d.text] rfl j x hx
theorem qg3(h:zfw w base S Q bv ov l es me seen next sent)(hes:es.length<=1000)(ht:zya l es)(d:Dd)(hz:doC (zaj l es) (zev d me next seen) za3≠0):
 Calls Tryz.prog 94 #[.pointer (some ⟨Q,0,none⟩),ddV d] w fun e w'=>e= .returned (.tuple #[ddV ⟨0,0,0,0,0,0,⟨#[]⟩⟩,.int .i64 (doC (zaj l es) (zev d me next seen) za3)])/\Below w.heap.size w w':=by
 have HA:Hid (zfw w base S Q bv ov l es me seen next sent):=h
 have hQlt:=h.cells.lt
 have HC:Hid (∀wk,Below w.heap.size w wk->Calls Tryz.prog 59 #[.pointer (some ⟨Q,0,none⟩)] wk fun e w'=>∃v',e= .returned v'/\Lst w' v' (zaj l es)/\Below wk.heap.size wk w'):=fun wk hb=>zny (h.below hb) hes ht
 have hte:zi2 (zaj l es)/\(zaj l es).length<=1000:=by have:=ht.tame es.length (Nat.le_refl _);rw[List.take_length]at this;exact this
 obtain⟨kind,by0,no0,seen0,at_,many,text⟩:=d
 have HI:Hid (WJ w ⟨kind,by0,no0,seen0,at_,many,text⟩ ((w.alloc (zd9 ⟨kind,by0,no0,seen0,at_,many,text⟩)).alloc (zd9 ⟨0,0,0,0,0,0,⟨#[]⟩⟩))):=znl w _
 have HDO:Hid (∀wk v,Lst wk v (zaj l es)->Calls Tryz.prog 103 #[v,ddV ⟨kind,me,next,seen,at_,many,text⟩,.int .i64 1073741824] wk fun e w'=>∃v',e= .returned (.tuple #[v',.int .i64 (doC (zaj l es) ⟨kind,me,next,seen,at_,many,text⟩ za3)])/\Own w' wk.heap.size v' (doR (zaj l es) ⟨kind,me,next,seen,at_,many,text⟩ za3)/\Below wk.heap.size wk w'):=fun wk v hv=>zm4 _ ⟨kind,me,next,seen,at_,many,text⟩ v wk hv hte.2 hte.1
 generalize hcc:doC (zaj l es) ⟨kind,me,next,seen,at_,many,text⟩ za3=cc at*
 have HCC:Hid (doC (zaj l es) (zev ⟨kind,by0,no0,seen0,at_,many,text⟩ me next seen) za3=cc):=hcc
 have HZ:Hid (cc≠0):=by show cc≠0;rw[<-HCC.out];exact hz
 clear h hz hcc hte ht
 go_enter Tryz.func94,Tryz.ntmps94
 go_wp2
 refine wrs (fun wk=>Below w.heap.size w wk) (fun i=>i==13||i==15||i==17) (fun wk=>WJ w ⟨kind,by0,no0,seen0,at_,many,text⟩ wk) (by kernel_rfl) (by kernel_rfl) (by kernel_rfl) (fun _ h=>h.below) (HI.out.after (Below.refl _ _).drew) ?_
 iterate 3 (refine wss rfl (fun K hK=> ?_);go_simp;refine⟨_,fun _ _=>rfl,hK _ ?_⟩;clear hK K)
 refine wss rfl (fun K hK=> ?_)
 go_simp
 refine⟨.int .i64 me,fun wk hwk=> ?_,hK _ ?_⟩
 ·have c:=(HA.out.below hwk).cells.me
  go_simp
 iterate 3 (clear hK K;refine wss rfl (fun K hK=> ?_);go_simp;refine⟨_,fun _ _=>rfl,hK _ ?_⟩)
 clear hK K
 refine wss rfl (fun K hK=> ?_)
 go_simp
 refine⟨.int .i64 next,fun wk hwk=> ?_,hK _ ?_⟩
 ·have c:=(HA.out.below hwk).cells.next
  go_simp
 iterate 3 (clear hK K;refine wss rfl (fun K hK=> ?_);go_simp;refine⟨_,fun _ _=>rfl,hK _ ?_⟩)
 clear hK K
 refine wss rfl (fun K hK=> ?_)
 go_simp
 refine⟨.int .i64 seen,fun wk hwk=> ?_,hK _ ?_⟩
 ·have c:=(HA.out.below hwk).cells.seen
  go_simp
 clear hK K
 refine wss rfl (fun K hK=> ?_)
 go_simp
 refine⟨_,fun _ _=>rfl,hK _ ?_⟩
 clear hK K
 refine wsp rfl rfl (fun u=>u= .tuple #[]) (fun u wk=>WJ w ⟨kind,me,no0,seen0,at_,many,text⟩ wk) ⟨_,rfl⟩ (fun _ _ h=>h.below) (fun wk hwk=> ?_) (fun v13 hv13=> ?_)
 ·obtain⟨hlt,c0,c1,c2,c3,c4,c5,c6⟩:=hwk.deed
  simp only[Nat.zero_add]at c0 c1 c2 c3 c4 c5 c6
  have f:=hwk.free 1 (by omega)
  have hp:=hwk.setBy me
  go_simp
  exact⟨rfl,hp⟩
 refine wss rfl (fun K hK=> ?_)
 go_simp
 refine⟨_,fun _ _=>rfl,hK _ ?_⟩
 clear hK K
 refine wsp rfl rfl (fun u=>u= .tuple #[]) (fun u wk=>WJ w ⟨kind,me,next,seen0,at_,many,text⟩ wk) ⟨_,rfl⟩ (fun _ _ h=>h.below) (fun wk hwk=> ?_) (fun v15 hv15=> ?_)
 ·obtain⟨hlt,c0,c1,c2,c3,c4,c5,c6⟩:=hwk.deed
  simp only[Nat.zero_add]at c0 c1 c2 c3 c4 c5 c6
  have f:=hwk.free 2 (by omega)
  have hp:=hwk.setNo next
  go_simp
  exact⟨rfl,hp⟩
 refine wss rfl (fun K hK=> ?_)
 go_simp
 refine⟨_,fun _ _=>rfl,hK _ ?_⟩
 clear hK K
 refine wsp rfl rfl (fun u=>u= .tuple #[]) (fun u wk=>WJ w ⟨kind,me,next,seen,at_,many,text⟩ wk) ⟨_,rfl⟩ (fun _ _ h=>h.below) (fun wk hwk=> ?_) (fun v17 hv17=> ?_)
 ·obtain⟨hlt,c0,c1,c2,c3,c4,c5,c6⟩:=hwk.deed
  simp only[Nat.zero_add]at c0 c1 c2 c3 c4 c5 c6
  have f:=hwk.free 3 (by omega)
  have hp:=hwk.setSeen seen
  go_simp
  exact⟨rfl,hp⟩
 refine wsn (fun w1 hw1=> ?_)
 have H1:Hid _:=hw1
 clear hw1
 have HJ1:Hid (WJ w ⟨kind,me,next,seen,at_,many,text⟩ w1):=H1
 clear H1 HI
 go_wp2
 refine wrs (fun wk=>WJ w ⟨kind,me,next,seen,at_,many,text⟩ wk) (fun i=>i==1||i==3) (fun wk=>WJ w ⟨kind,me,next,seen,at_,many,text⟩ wk) (by kernel_rfl) (by kernel_rfl) (by kernel_rfl) (fun _ h=>h) (HJ1.out.after (Below.refl _ _).drew) ?_
 refine wss rfl (fun K hK=> ?_)
 go_simp
 refine⟨_,fun _ _=>rfl,hK _ ?_⟩
 clear hK K
 refine wsp rfl rfl (fun u=>∃a n c,u= .slice a n c) (fun u wk=>WJ w ⟨kind,me,next,seen,at_,many,text⟩ wk/\Lst wk u (zaj l es)) ⟨_,none,0,0,rfl⟩ (fun _ _ h=>h.1) (fun wk hwk=> ?_) (fun v1 hv1=> ?_)
 ·go_simp
  refine(HC.out wk hwk.below).mono ?_
  rintro e w6 ⟨u,rfl,hs,hb⟩
  obtain⟨ta,tc,hu,_⟩:=hs.len
  exact⟨u,rfl,⟨_,_,_,hu⟩,hwk.after hb,hs⟩
 obtain⟨va,vn,vc,rfl⟩:=hv1
 refine wss rfl (fun K hK=> ?_)
 go_simp
 refine⟨ddV ⟨kind,me,next,seen,at_,many,text⟩,fun wk hwk=> ?_,hK _ ?_⟩
 ·obtain⟨_,c0,c1,c2,c3,c4,c5,c6⟩:=hwk.deed
  simp only[Nat.zero_add]at c0 c1 c2 c3 c4 c5 c6
  go_simp
 clear hK K
 refine wsp rfl rfl (fun u=>∃v,u= .tuple #[v,.int .i64 cc]) (fun u wk=>WJ w ⟨kind,me,next,seen,at_,many,text⟩ wk) ⟨_,.bool false,rfl⟩ (fun _ _ h=>h) (fun wk hwk=> ?_) (fun v3 hv3=> ?_)
 ·go_simp
  refine(HDO.out wk _ hwk.2).mono ?_
  rintro e w6 ⟨v,rfl,ho,hb⟩
  exact⟨_,rfl,⟨v,rfl⟩,hwk.1.after hb⟩
 obtain⟨v,rfl⟩:=hv3
 iterate 5 (refine wss rfl (fun K hK=> ?_);go_simp;refine⟨_,fun _ _=>rfl,hK _ ?_⟩;clear hK K)
 refine wsn (fun w9 hw9=> ?_)
 have H9:Hid _:=hw9
 clear hw9
 have HJ9:Hid (WJ w ⟨kind,me,next,seen,at_,many,text⟩ w9):=H9
 clear H9 HJ1
 have hz':(cc != 0)=true:=by simp[HZ.out]
 clear HDO HA HC
 have two:=HJ9.out.two
 obtain⟨y0,z0⟩:=HJ9.out.has2 0 (by omega)
 obtain⟨y1,z1⟩:=HJ9.out.has2 1 (by omega)
 obtain⟨y2,z2⟩:=HJ9.out.has2 2 (by omega)
 obtain⟨y3,z3⟩:=HJ9.out.has2 3 (by omega)
 obtain⟨y4,z4⟩:=HJ9.out.has2 4 (by omega)
 obtain⟨y5,z5⟩:=HJ9.out.has2 5 (by omega)
 obtain⟨y6,z6⟩:=HJ9.out.has2 6 (by omega)
 have k0:=HJ9.out.free2 0 (by omega)
 have k1:=HJ9.out.free2 1 (by omega)
 have k2:=HJ9.out.free2 2 (by omega)
 have k3:=HJ9.out.free2 3 (by omega)
 have k4:=HJ9.out.free2 4 (by omega)
 have k5:=HJ9.out.free2 5 (by omega)
 have k6:=HJ9.out.free2 6 (by omega)
 go_wp2
 refine zc7 (d:=⟨0,0,0,0,0,0,⟨#[]⟩⟩) (x:= .int .i64 cc) rfl (zdq.written two ⟨0,0,0,0,0,0,⟨#[]⟩⟩ HJ9.out.has2) rfl rfl rfl ?_
 exact⟨by rw[HCC.out],zgc (Nat.le_succ _) HJ9.out.below ⟨0,0,0,0,0,0,⟨#[]⟩⟩⟩
theorem zzx(h:zfw w base S Q bv ov l es me seen next sent)(hes:es.length<=1000)(ht:zya l es)(hn1:1<=next)(hnx:next<=1000)(d:Dd)(hz:doC (zaj l es) (zev d me next seen) za3=0):
 Calls Tryz.prog 94 #[.pointer (some ⟨Q,0,none⟩),ddV d] w fun e w'=>e= .returned (.tuple #[ddV (zev d me next seen),.int .i64 0])/\zt9 w base S Q l (es++[zev d me next seen]) me seen (next+1) sent w':=by
 have HA:=hid h
 have hQlt:=h.cells.lt
 have HC:Hid (∀wk,Below w.heap.size w wk->Calls Tryz.prog 59 #[.pointer (some ⟨Q,0,none⟩)] wk fun e w'=>∃v',e= .returned v'/\Lst w' v' (zaj l es)/\Below wk.heap.size wk w'):=fun wk hb=>zny (h.below hb) hes ht
 have hte:zi2 (zaj l es)/\(zaj l es).length<=1000:=by have:=ht.tame es.length (Nat.le_refl _);rw[List.take_length]at this;exact this
 obtain⟨kind,by0,no0,seen0,at_,many,text⟩:=d
 have HI:Hid (WJ w ⟨kind,by0,no0,seen0,at_,many,text⟩ ((w.alloc (zd9 ⟨kind,by0,no0,seen0,at_,many,text⟩)).alloc (zd9 ⟨0,0,0,0,0,0,⟨#[]⟩⟩))):=znl w _
 have HDO:Hid (∀wk v,Lst wk v (zaj l es)->Calls Tryz.prog 103 #[v,ddV ⟨kind,me,next,seen,at_,many,text⟩,.int .i64 1073741824] wk fun e w'=>∃v',e= .returned (.tuple #[v',.int .i64 (doC (zaj l es) ⟨kind,me,next,seen,at_,many,text⟩ za3)])/\Own w' wk.heap.size v' (doR (zaj l es) ⟨kind,me,next,seen,at_,many,text⟩ za3)/\Below wk.heap.size wk w'):=fun wk v hv=>zm4 _ ⟨kind,me,next,seen,at_,many,text⟩ v wk hv hte.2 hte.1
 generalize hcc:doC (zaj l es) ⟨kind,me,next,seen,at_,many,text⟩ za3=cc at*
 have HCC:=hid hcc
 have HZ:Hid (cc=0):=by show cc=0;rw[<-HCC.out];exact hz
 clear h hz hcc hte ht
 go_enter Tryz.func94,Tryz.ntmps94
 go_wp2
 refine wrs (fun wk=>Below w.heap.size w wk) (fun i=>i==13||i==15||i==17) (fun wk=>WJ w ⟨kind,by0,no0,seen0,at_,many,text⟩ wk) (by kernel_rfl) (by kernel_rfl) (by kernel_rfl) (fun _ h=>h.below) (HI.out.after (Below.refl _ _).drew) ?_
 iterate 3 (refine wss rfl (fun K hK=> ?_);go_simp;refine⟨_,fun _ _=>rfl,hK _ ?_⟩;clear hK K)
 refine wss rfl (fun K hK=> ?_)
 go_simp
 refine⟨.int .i64 me,fun wk hwk=> ?_,hK _ ?_⟩
 ·have c:=(HA.out.below hwk).cells.me
  go_simp
 iterate 3 (clear hK K;refine wss rfl (fun K hK=> ?_);go_simp;refine⟨_,fun _ _=>rfl,hK _ ?_⟩)
 clear hK K
 refine wss rfl (fun K hK=> ?_)
 go_simp
 refine⟨.int .i64 next,fun wk hwk=> ?_,hK _ ?_⟩
 ·have c:=(HA.out.below hwk).cells.next
  go_simp
 iterate 3 (clear hK K;refine wss rfl (fun K hK=> ?_);go_simp;refine⟨_,fun _ _=>rfl,hK _ ?_⟩)
 clear hK K
 refine wss rfl (fun K hK=> ?_)
 go_simp
 refine⟨.int .i64 seen,fun wk hwk=> ?_,hK _ ?_⟩
 ·have c:=(HA.out.below hwk).cells.seen
  go_simp
 clear hK K
 refine wss rfl (fun K hK=> ?_)
 go_simp
 refine⟨_,fun _ _=>rfl,hK _ ?_⟩
 clear hK K
 refine wsp rfl rfl (fun u=>u= .tuple #[]) (fun u wk=>WJ w ⟨kind,me,no0,seen0,at_,many,text⟩ wk) ⟨_,rfl⟩ (fun _ _ h=>h.below) (fun wk hwk=> ?_) (fun v13 hv13=> ?_)
 ·obtain⟨hlt,c0,c1,c2,c3,c4,c5,c6⟩:=hwk.deed
  simp only[Nat.zero_add]at c0 c1 c2 c3 c4 c5 c6
  have f:=hwk.free 1 (by omega)
  have hp:=hwk.setBy me
  go_simp
  exact⟨rfl,hp⟩
 refine wss rfl (fun K hK=> ?_)
 go_simp
 refine⟨_,fun _ _=>rfl,hK _ ?_⟩
 clear hK K
 refine wsp rfl rfl (fun u=>u= .tuple #[]) (fun u wk=>WJ w ⟨kind,me,next,seen0,at_,many,text⟩ wk) ⟨_,rfl⟩ (fun _ _ h=>h.below) (fun wk hwk=> ?_) (fun v15 hv15=> ?_)
 ·obtain⟨hlt,c0,c1,c2,c3,c4,c5,c6⟩:=hwk.deed
  simp only[Nat.zero_add]at c0 c1 c2 c3 c4 c5 c6
  have f:=hwk.free 2 (by omega)
  have hp:=hwk.setNo next
  go_simp
  exact⟨rfl,hp⟩
 refine wss rfl (fun K hK=> ?_)
 go_simp
 refine⟨_,fun _ _=>rfl,hK _ ?_⟩
 clear hK K
 refine wsp rfl rfl (fun u=>u= .tuple #[]) (fun u wk=>WJ w ⟨kind,me,next,seen,at_,many,text⟩ wk) ⟨_,rfl⟩ (fun _ _ h=>h.below) (fun wk hwk=> ?_) (fun v17 hv17=> ?_)
 ·obtain⟨hlt,c0,c1,c2,c3,c4,c5,c6⟩:=hwk.deed
  simp only[Nat.zero_add]at c0 c1 c2 c3 c4 c5 c6
  have f:=hwk.free 3 (by omega)
  have hp:=hwk.setSeen seen
  go_simp
  exact⟨rfl,hp⟩
 refine wsn (fun w1 hw1=> ?_)
 have H1:Hid _:=hw1
 clear hw1
 have HJ1:=hid H1
 clear H1 HI
 go_wp2
 refine wrs (fun wk=>WJ w ⟨kind,me,next,seen,at_,many,text⟩ wk) (fun i=>i==1||i==3) (fun wk=>WJ w ⟨kind,me,next,seen,at_,many,text⟩ wk) (by kernel_rfl) (by kernel_rfl) (by kernel_rfl) (fun _ h=>h) (HJ1.out.after (Below.refl _ _).drew) ?_
 refine wss rfl (fun K hK=> ?_)
 go_simp
 refine⟨_,fun _ _=>rfl,hK _ ?_⟩
 clear hK K
 refine wsp rfl rfl (fun u=>∃a n c,u= .slice a n c) (fun u wk=>WJ w ⟨kind,me,next,seen,at_,many,text⟩ wk/\Lst wk u (zaj l es)) ⟨_,none,0,0,rfl⟩ (fun _ _ h=>h.1) (fun wk hwk=> ?_) (fun v1 hv1=> ?_)
 ·go_simp
  refine(HC.out wk hwk.below).mono ?_
  rintro e w6 ⟨u,rfl,hs,hb⟩
  obtain⟨ta,tc,hu,_⟩:=hs.len
  exact⟨u,rfl,⟨_,_,_,hu⟩,hwk.after hb,hs⟩
 obtain⟨va,vn,vc,rfl⟩:=hv1
 refine wss rfl (fun K hK=> ?_)
 go_simp
 refine⟨ddV ⟨kind,me,next,seen,at_,many,text⟩,fun wk hwk=> ?_,hK _ ?_⟩
 ·obtain⟨_,c0,c1,c2,c3,c4,c5,c6⟩:=hwk.deed
  simp only[Nat.zero_add]at c0 c1 c2 c3 c4 c5 c6
  go_simp
 clear hK K
 refine wsp rfl rfl (fun u=>∃v,u= .tuple #[v,.int .i64 cc]) (fun u wk=>WJ w ⟨kind,me,next,seen,at_,many,text⟩ wk) ⟨_,.bool false,rfl⟩ (fun _ _ h=>h) (fun wk hwk=> ?_) (fun v3 hv3=> ?_)
 ·go_simp
  refine(HDO.out wk _ hwk.2).mono ?_
  rintro e w6 ⟨v,rfl,ho,hb⟩
  exact⟨_,rfl,⟨v,rfl⟩,hwk.1.after hb⟩
 obtain⟨v,rfl⟩:=hv3
 iterate 5 (refine wss rfl (fun K hK=> ?_);go_simp;refine⟨_,fun _ _=>rfl,hK _ ?_⟩;clear hK K)
 refine wsn (fun w9 hw9=> ?_)
 have H9:Hid _:=hw9
 clear hw9
 have HJ9:=hid H9
 clear H9 HJ1
 have hz':(cc != 0)=false:=by simp[HZ.out]
 clear HDO HC
 obtain⟨oa,ocap,hov⟩:=zfx.len HA.out.ownO
 have HAP:Hid (∀(ty:TypeId) wk c b,WJ w ⟨kind,me,next,seen,at_,many,text⟩ wk->(∀j x,(zbv [(⟨kind,me,next,seen,at_,many,text⟩:Dd)])[j]? =some x->wk.cell? ((⟨b,0,none⟩:Addr).add j)=some x)->∃g ncap w3,(Builtin.append_ #[61,61] ty #[ov,.slice (some ⟨b,0,none⟩) 1 c]).run Tryz.prog wk= .ok (.slice (some ⟨g,0,none⟩) (es.length+1) ncap) w3/\ZS w base Q S bv ov (.slice (some ⟨g,0,none⟩) (es.length+1) ncap) l (es++[⟨kind,me,next,seen,at_,many,text⟩]) me seen next sent ⟨kind,me,next,seen,at_,many,text⟩ w3):=fun ty wk c b hy hsrc=>by
  obtain⟨i0,hi0,hz0,hz1,hz2⟩:=info_parts Tryz.infoDeed
  have hown:=(HA.out.below hy.below).ownO
  unfold zfx at hown
  obtain⟨g,ncap,w3,e1,e2,e3,e4,e5⟩:=run_append_lies (P:=Tryz.prog) wk 61 ty base 124 i0 zdh 7 64 Tryz.underlying61 hi0 hz0 hz1 hz2 rfl (by decide) ov es.length (zbv es) hown ⟨b,0,none⟩ 1 c (zbv [(⟨kind,me,next,seen,at_,many,text⟩:Dd)]) rfl hsrc (zhx _) (by omega) (by unfold maxLen;omega) (by omega) (by have:=HA.out.base_le;have:=hy.below.size;omega) wk.heap.size rfl
  rw[<-zk0]at e2
  refine⟨g,ncap,w3,e1,qcg HA.out hy e3 e2 rfl ?_ e5⟩
  rcases e4 with e|e
  ·exact .inl e
  exact .inr (by omega)
 rw[hov]at HAP HA
 clear hov
 go_wp2
 refine zl0 (fun wk=>YS w Q bv (.slice oa es.length ocap) me seen next sent ⟨kind,me,next,seen,at_,many,text⟩ wk) (fun i=>i==6||i==7||i==10) (fun i=>i==10) (fun wk=>WJ w ⟨kind,me,next,seen,at_,many,text⟩ wk) (by kernel_rfl) (by kernel_rfl) (by kernel_rfl) (by kernel_rfl) (fun _ h=>ys_of HA.out h) (HJ9.out.after (Below.refl _ _).drew) ?_
 iterate 4 (refine zao rfl (fun K hK=> ?_);go_simp;refine⟨_,fun _ _=>rfl,hK _ ?_⟩;clear hK K)
 refine zao rfl (fun K hK=> ?_)
 go_simp
 refine⟨.slice oa es.length ocap,fun wk hwk=> ?_,hK _ ?_⟩
 ·have c:=hwk.cells.opens
  go_simp
 clear hK K
 refine zao rfl (fun K hK=> ?_)
 go_simp
 refine⟨ddV ⟨kind,me,next,seen,at_,many,text⟩,fun wk hwk=> ?_,hK _ ?_⟩
 ·obtain⟨_,c0,c1,c2,c3,c4,c5,c6⟩:=hwk.deed
  simp only[Nat.zero_add]at c0 c1 c2 c3 c4 c5 c6
  go_simp
 clear hK K
 refine ze5 rfl rfl (fun u=>∃b,u= .slice (some ⟨b,0,none⟩) 1 1) (fun u wk=>WJ w ⟨kind,me,next,seen,at_,many,text⟩ wk/\SrcD ⟨kind,me,next,seen,at_,many,text⟩ u wk) ⟨_,0,rfl⟩ (fun _ _ h=>ys_of HA.out h.1) (fun wk hwk=> ?_) (fun v6 hv6=> ?_)
 ·have hs:=srcD_new wk ⟨kind,me,next,seen,at_,many,text⟩
  have hy:=hwk.after (za2 wk (zd9 ⟨kind,me,next,seen,at_,many,text⟩))
  go_simp
  exact⟨⟨_,rfl⟩,hy,hs⟩
 obtain⟨bb,rfl⟩:=hv6
 refine ze5 rfl rfl (fun u=>∃g c,u= .slice (some ⟨g,0,none⟩) (es.length+1) c) (fun u wk=>ZS w base Q S bv (.slice oa es.length ocap) u l (es++[⟨kind,me,next,seen,at_,many,text⟩]) me seen next sent ⟨kind,me,next,seen,at_,many,text⟩ wk) ⟨_,0,0,rfl⟩ (fun _ _ h=>ys_z h) (fun wk hwk=> ?_) (fun v7 hv7=> ?_)
 ·obtain⟨g,ncap,w3,e1,e2⟩:=HAP.out _ wk 1 bb hwk.1 (hwk.2 bb rfl)
  exact zog rfl rfl rfl e1 ⟨⟨_,_,rfl⟩,e2⟩
 obtain⟨ng,ncap,rfl⟩:=hv7
 iterate 2 (refine zao rfl (fun K hK=> ?_);go_simp;refine⟨_,fun _ _=>rfl,hK _ ?_⟩;clear hK K)
 refine zls rfl rfl rfl (fun u=>u= .tuple #[]) (fun u wk=>FS w base Q S bv (.slice (some ⟨ng,0,none⟩) (es.length+1) ncap) l (es++[⟨kind,me,next,seen,at_,many,text⟩]) me seen next sent ⟨kind,me,next,seen,at_,many,text⟩ wk) ⟨_,rfl⟩ (fun wk hwk=> ?_) (fun v10 hv10=> ?_)
 ·have c4:=hwk.cells.opens
  have f4:=hwk.cells.free 4 (by omega)
  have hlt:=hwk.cells.lt
  have hp:=hwk.ready
  go_simp
  exact⟨rfl,hp⟩
 refine zhg (fun w8 hw8=> ?_)
 have H8:Hid _:=hw8
 clear hw8
 have hQl9:=(HA.out.lo Q HA.out.hQ).2
 have HEND:Hid _:=H8.out.fin ⟨HA.out.hQ,HA.out.lo⟩ HA.out.base_le
 have hc9:=H8.out.at_.cells
 have hP9:=hc9.lt
 have e1:=hc9.next
 have f1:=hc9.free 2 (by omega)
 have two:=H8.out.two
 obtain⟨y0,z0⟩:=H8.out.has2 0 (by omega)
 obtain⟨y1,z1⟩:=H8.out.has2 1 (by omega)
 obtain⟨y2,z2⟩:=H8.out.has2 2 (by omega)
 obtain⟨y3,z3⟩:=H8.out.has2 3 (by omega)
 obtain⟨y4,z4⟩:=H8.out.has2 4 (by omega)
 obtain⟨y5,z5⟩:=H8.out.has2 5 (by omega)
 obtain⟨y6,z6⟩:=H8.out.has2 6 (by omega)
 have k0:=H8.out.free2 0 (by omega)
 have k1:=H8.out.free2 1 (by omega)
 have k2:=H8.out.free2 2 (by omega)
 have k3:=H8.out.free2 3 (by omega)
 have k4:=H8.out.free2 4 (by omega)
 have k5:=H8.out.free2 5 (by omega)
 have k6:=H8.out.free2 6 (by omega)
 obtain⟨hE,q0,q1,q2,q3,q4,q5,q6⟩:=H8.out.deed
 simp only[Nat.zero_add]at q0 q1 q2 q3 q4 q5 q6
 have hn1':¬Q=w.heap.size:=by omega
 have hn2':¬w.heap.size=Q:=by omega
 have hn3':¬Q=w.heap.size+1:=by omega
 have hn4':¬w.heap.size+1=Q:=by omega
 clear hc9 H8 HAP
 go_wp2
 refine zc7 (d:=⟨kind,me,next,seen,at_,many,text⟩) (x:= .int .i64 0) rfl HEND.out.2 rfl rfl rfl ?_
 exact⟨rfl,HEND.out.1⟩
end Go.Proofs.YtcbnnfeelhlapadGreatDoor