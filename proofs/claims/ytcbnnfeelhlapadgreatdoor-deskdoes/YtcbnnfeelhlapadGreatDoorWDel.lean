/-
  The contracts of goesOut and comesIn: what was heard last turns in the list, and in what is kept.
-/
import Derived.Test.YtcbnnfeelhlapadGreatDoorWNum
import Derived.Laws.OwnMore
namespace Go.Proofs.YtcbnnfeelhlapadGreatDoor
set_option maxHeartbeats 1600000
set_option maxRecDepth 20000
open Go.RowKit
structure GI(w:World)(base g n cap:Nat)(L:List Ch)(d:Dd)(tv:Value)(wk:World):Prop where
 kept:zak (fun k=>k=g) w wk
 own:Own wk base (.slice (some ⟨g,0,none⟩) n cap) L
 box:OoAt wk w.heap.size 0 d tv
 lt:g<w.heap.size
theorem OoAt.of_block{w w':World}{E:Nat}{d:Dd}{tv:Value}(h:OoAt w E 0 d tv)(hs:E<w'.heap.size)(hb:w'.heap[E]? =w.heap[E]?):OoAt w' E 0 d tv:=
 ⟨h.deed.of_block' hs hb,by rw[World.cell?_of_block (a:=⟨E,0+7,none⟩) hb];exact h.took⟩
theorem GI.after{w wk w':World}{base g n cap:Nat}{L:List Ch}{d:Dd}{tv:Value}(h:GI w base g n cap L d tv wk)(hb:Below wk.heap.size wk w'):GI w base g n cap L d tv w':=
 ⟨h.kept.after hb,h.own.below hb,h.box.of_block (Nat.lt_of_lt_of_le h.box.deed.lt hb.size) (hb.block _ h.box.deed.lt),h.lt⟩
theorem GI.put{w wk:World}{base g n cap:Nat}{L:List Ch}{d:Dd}{tv:Value}(h:GI w base g n cap L d tv wk)(hn:L.length=n){i r:Nat}(hi:i<L.length)(hr:r<7){y:Ch}{u:Value}(hy:(zch L[i]).set r u=zch y):GI w base g n cap (L.set i y) d tv (wk.setCell ⟨g,i*7+r,none⟩ u):=
 ⟨h.kept.set (p:=⟨g,_,none⟩) rfl _,zuf h.own hn hi hr hy,h.box.of_block (by simpa [World.setCell]using h.box.deed.lt) (Below.heap_setCell _ _ _ _ (by have:=h.lt;show w.heap.size≠g;omega)),h.lt⟩
theorem out_yes{t:List Ch}{n:Int}{x:Ch}(h:x.out=0)(h2:zvy t x=true):zk5 t n x=⟨x.c,x.by_,x.no,x.k,x.inn,n,x.gone⟩:=by rw[zk5,if_pos ⟨h,h2⟩]
theorem out_no{t:List Ch}{n:Int}{x:Ch}(h:¬(x.out=0∧zvy t x=true)):zk5 t n x=x:=by rw[zk5,if_neg h]
theorem zp7{w wk:World}{P g:Nat}{lv ov:Value}{me next seen sent:Int}(h:PwC w P lv ov me next seen sent)(hk:zak (fun k=>k=g) w wk)(hP:P≠g):PwC wk P lv ov me next seen sent:=h.kept hk.size (hk.block P h.lt hP)
theorem zv2{w:World}{base P g n cap:Nat}{ov tv:Value}{l t:List Ch}{me next seen sent:Int}(hc:PwC w P (.slice (some ⟨g,0,none⟩) n cap) ov me next seen sent)(h:Own w base (.slice (some ⟨g,0,none⟩) n cap) l)(ht:Own w base tv t)(hP:P≠g)(htg:tv.ownBlock≠some g)(hn:l.length=n)(hl:n≤1000)(htl:t.length≤1000)(d:Dd):
 Calls Tryz.prog 225 #[.pointer (some ⟨P,0,none⟩),ooV d tv] w fun e w'=>e= .returned (.tuple #[])∧Own w' base (.slice (some ⟨g,0,none⟩) n cap) (l.map (zk5 t seen))∧zak (fun k=>k=g) w w':=by
 have hglt:g<w.heap.size:=(World.ownsRow.lt h g rfl).2
 have HC:Hid (PwC w P (.slice (some ⟨g,0,none⟩) n cap) ov me next seen sent):=hc
 have HT:Hid (∀wk,zak (fun k=>k=g) w wk→Lst wk tv t):=fun wk hk=>(show Own wk base tv t from za3 ht (fun k e=>hk.block k (World.ownsRow.lt ht k e).2 (fun e'=>htg (by rw[e,e'])))).lst
 have HI:Hid (GI w base g n cap (zgu (zk5 t seen) 0 l) d tv (w.alloc (zld d tv))):=by
  refine⟨.of_below (za1 _ _),h.below (za1 _ _),⟨⟨by simp,?_,?_,?_,?_,?_,?_,?_⟩,?_⟩,hglt⟩<;>simp[go_sem]
 have HN:Hid (l.length=n):=hn
 have c3:=hc.list
 have c2:=hc.seen
 have hPlt:=hc.lt
 obtain⟨ta,tcap,rfl,_⟩:=ht.lst.len
 have HTLL:Hid (∀t',t'=t→t'.length≤1000):=fun _ e=>by rw[e];exact htl
 clear htl
 generalize t.length=tn at*
 obtain⟨kind,by_,no,dseen,at_,many,text⟩:=d
 clear h hn hc ht htg
 go_enter Tryz.func225,Tryz.ntmps225
 go_wp2
 clear c2 c3
 go_loopw [11] (fun i wr=>∃k:Nat,k≤n∧i= .int .i64 k∧Hid (GI w base g n cap (zgu (zk5 t seen) k l) ⟨kind,by_,no,dseen,at_,many,text⟩ (.slice ta tn tcap) wr)) (fun i _=>n-(intOf i).toNat)
 case atStart=>exact⟨0,Nat.zero_le _,rfl,HI⟩
 case round=>
  obtain⟨k,hk,rfl,HK⟩:=hrel
  clear HI
  by_cases hlt:k<n
  ·have hkl:k<l.length:=by rw[HN.out];exact hlt
   have hml:(zgu (zk5 t seen) k l).length=n:=by rw[zsh,HN.out]
   have hkm:k<(zgu (zk5 t seen) k l).length:=by rw[hml];exact hlt
   have hget:=zsi (zk5 t seen) hkl hkm
   obtain⟨b',o',e',_,r'⟩:=HK.out.own.lst.row (by omega)
   cases e'
   obtain⟨h0,h1,h2,h3,h4,h5,h6⟩:=r'.at_ k hkm
   simp only[Nat.zero_add]at h0 h1 h2 h3 h4 h5 h6
   rw[hget]at h0 h1 h2 h3 h4 h5 h6
   obtain⟨x,hx⟩:∃x,x=l[k]:=⟨_,rfl⟩
   rw[←hx]at h0 h1 h2 h3 h4 h5 h6
   have HX:Hid (x=l[k]):=hx
   have HG:Hid ((zgu (zk5 t seen) k l)[k]=l[k]):=hget
   have HA:Hid (Below wr.heap.size wr (wr.alloc (zpo x))):=za1 _ _
   obtain⟨⟨hbx,d0,d1,d2,d3,d4,d5,d6⟩,d7⟩:=HK.out.box
   simp only[Nat.zero_add]at d0 d1 d2 d3 d4 d5 d6 d7
   clear r' hx hget
   obtain⟨xc,xb,xn,xk,xi,xo,xg⟩:=x
   simp only at h0 h1 h2 h3 h4 h5 h6
   by_cases ho:xo=0
   ·have ho':(xo==0)=true:=by simp[ho]
    have HO0:Hid (xo=0):=ho
    clear ho
    go_wp2_with fail
    refine(took_any (HT.out _ (HK.out.kept.after HA.out)) (HTLL.out _ rfl) ⟨kind,by_,no,dseen,at_,many,text⟩ ⟨xc,xb,xn,xk,xi,xo,xg⟩).mono ?_
    rintro e w1 ⟨rfl,hb⟩
    have HK1:Hid (GI w base g n cap (zgu (zk5 t seen) k l) ⟨kind,by_,no,dseen,at_,many,text⟩ (.slice ta tn tcap) w1):=HK.out.after (bla HA.out hb)
    clear hb HA HK h0 h1 h2 h3 h4 h5 h6 d0 d1 d2 d3 d4 d5 d6 d7 hbx
    cases hh:zvy t ⟨xc,xb,xn,xk,xi,xo,xg⟩
    ·have HN2:Hid (GI w base g n cap (zgu (zk5 t seen) (k+1) l) ⟨kind,by_,no,dseen,at_,many,text⟩ (.slice ta tn tcap) w1):=by
      rw[zlf _ hkl (by rw[←HX.out];exact out_no (fun e=>by rw[hh]at e;exact Bool.noConfusion e.2))]
      exact HK1
     clear HK1 HG HX hh HO0
     go_wp2
     go_roundw
     case rel=>exact⟨k+1,by omega,by go_num,HN2⟩
     case measure=>simp[intOf];omega
    ·have HN2:Hid (∀wk,GI w base g n cap (zgu (zk5 t seen) k l) ⟨kind,by_,no,dseen,at_,many,text⟩ (.slice ta tn tcap) wk→GI w base g n cap (zgu (zk5 t seen) (k+1) l) ⟨kind,by_,no,dseen,at_,many,text⟩ (.slice ta tn tcap) (wk.setCell ⟨g,k*7+5,none⟩ (.int .i64 seen))):=fun wk hwk=>by
      have:=hwk.put hml (i:=k) (r:=5) (y:=zk5 t seen l[k]) (u:= .int .i64 seen) (by rw[hml];exact hlt) (by omega) (by rw[HG.out,←HX.out,out_yes HO0.out hh];rfl)
      rw[zsg _ hkl]at this
      exact this
     have HCE:Hid (∀wk,GI w base g n cap (zgu (zk5 t seen) k l) ⟨kind,by_,no,dseen,at_,many,text⟩ (.slice ta tn tcap) wk→(∃u,wk.cell? ⟨g,k*7+5,none⟩=some u)∧wk.frozen? ⟨g,k*7+5,none⟩=false):=fun wk hwk=>zew hwk.own hml (j:=k*7+5) (by omega)
     clear HG HX hh HO0
     go_wp2
     refine wrs (fun wk=>zak (fun k=>k=g) w wk) (fun i=>i==11) (fun wk=>GI w base g n cap (zgu (zk5 t seen) k l) ⟨kind,by_,no,dseen,at_,many,text⟩ (.slice ta tn tcap) wk) (by kernel_rfl) (by kernel_rfl) (by kernel_rfl) (fun _ h=>h.kept) (HK1.out.after (Below.refl _ _).drew) ?_
     refine wss rfl (fun K hK=> ?_)
     go_simp
     refine⟨_,fun _ _=>rfl,hK _ ?_⟩
     clear hK K
     refine wss rfl (fun K hK=> ?_)
     go_simp
     refine⟨_,fun _ _=>rfl,hK _ ?_⟩
     clear hK K
     refine wss rfl (fun K hK=> ?_)
     go_simp
     refine⟨_,fun _ _=>rfl,hK _ ?_⟩
     clear hK K
     refine wss rfl (fun K hK=> ?_)
     go_simp
     refine⟨.slice (some ⟨g,0,none⟩) n cap,fun wk hwk=> ?_,hK _ ?_⟩
     ·have c:=(zp7 HC.out hwk hP).list
      go_simp
     clear hK K
     refine wss rfl (fun K hK=> ?_)
     go_simp
     refine⟨_,fun _ _=>rfl,hK _ ?_⟩
     clear hK K
     refine wss rfl (fun K hK=> ?_)
     go_simp
     refine⟨_,fun _ _=>rfl,hK _ ?_⟩
     clear hK K
     refine wss rfl (fun K hK=> ?_)
     go_simp
     refine⟨_,fun _ _=>rfl,hK _ ?_⟩
     clear hK K
     refine wss rfl (fun K hK=> ?_)
     go_simp
     refine⟨_,fun _ _=>rfl,hK _ ?_⟩
     clear hK K
     refine wss rfl (fun K hK=> ?_)
     go_simp
     refine⟨.int .i64 seen,fun wk hwk=> ?_,hK _ ?_⟩
     ·have c:=(zp7 HC.out hwk hP).seen
      go_simp
     clear hK K
     refine wss rfl (fun K hK=> ?_)
     go_simp
     refine⟨_,fun _ _=>rfl,hK _ ?_⟩
     clear hK K
     refine wss rfl (fun K hK=> ?_)
     go_simp
     refine⟨_,fun _ _=>rfl,hK _ ?_⟩
     clear hK K
     refine wsp rfl rfl (fun u=>u= .tuple #[]) (fun u wk=>GI w base g n cap (zgu (zk5 t seen) (k+1) l) ⟨kind,by_,no,dseen,at_,many,text⟩ (.slice ta tn tcap) wk) ⟨_,rfl⟩ (fun _ _ h=>h.kept) (fun wk hwk=> ?_) (fun v11 hv11=> ?_)
     ·obtain⟨⟨u5,q5⟩,f5⟩:=HCE.out wk hwk
      have hN:=HN2.out wk hwk
      go_simp
      exact⟨rfl,hN⟩
     refine wsn (fun w9 hw9=> ?_)
     have H9:Hid _:=hw9
     clear hw9
     go_wp2
     go_roundw
     case rel=>exact⟨k+1,by omega,by go_num,H9⟩
     case measure=>simp[intOf];omega
   ·have ho':(xo==0)=false:=by simp[ho]
    have HN2:Hid (GI w base g n cap (zgu (zk5 t seen) (k+1) l) ⟨kind,by_,no,dseen,at_,many,text⟩ (.slice ta tn tcap) (wr.alloc (zpo ⟨xc,xb,xn,xk,xi,xo,xg⟩))):=by
     rw[zlf _ hkl (by rw[←HX.out];exact out_no (fun e=>ho e.1))]
     exact HK.out.after HA.out
    clear HK HG HX ho HA
    go_wp2
    go_roundw
    case rel=>exact⟨k+1,by omega,by go_num,HN2⟩
    case measure=>simp[intOf];omega
  ·obtain rfl:k=n:=by omega
   have HE:Hid (zgu (zk5 t seen) k l=l.map (zk5 t seen)):=by show _=_;rw[←HN.out,zsj]
   go_wp2
   go_end0
   exact⟨rfl,by rw[←HE.out];exact HK.out.own,HK.out.kept⟩
theorem zsu{w:World}{P:Nat}{a:Option Addr}{cap:Nat}{ov tv:Value}{me next seen sent:Int}(hc:PwC w P (.slice a 0 cap) ov me next seen sent)(hv:∃ta tn tc,tv= .slice ta tn tc)(d:Dd):
 Calls Tryz.prog 225 #[.pointer (some ⟨P,0,none⟩),ooV d tv] w fun e w'=>e= .returned (.tuple #[])∧Below w.heap.size w w':=by
 obtain⟨ta,tn,tc,rfl⟩:=hv
 have c3:=hc.list
 have hPlt:=hc.lt
 clear hc
 go_enter Tryz.func225,Tryz.ntmps225
 go_wp2
 refine wp_loop_rounds 1 ?_
 rw[rounds_succ]
 go_wp2
 go_end0
 exact⟨rfl,za1 _ _⟩
theorem zcn.newList{w w':World}{base P:Nat}{S:Nat→Prop}{lv ov:Value}{tvs:List Value}{l l':List Ch}{es:List Dd}{ts:List (List Ch)}{me next seen sent:Int}(h:zcn w base S P lv ov tvs l es ts me next seen sent)(ho:Own w' base lv l')(hk:zak (fun k=>lv.ownBlock=some k) w w'):zcn w' base S P lv ov tvs l' es ts me next seen sent:=by
 have hb:∀k,S k→lv.ownBlock≠some k→w'.heap[k]? =w.heap[k]? :=fun k hs hn=>hk.block k (h.lo k hs).2 hn
 exact⟨fun k hs=>⟨(h.lo k hs).1,Nat.lt_of_lt_of_le (h.lo k hs).2 hk.size⟩,h.hP,h.cells.kept hk.size (hb P h.hP (fun e=>(h.lB P e).2 rfl)),ho,za3 h.ownO (fun k e=>hb k (h.oB k e).1 (h.oB k e).2.2),h.len,h.tooks.of_block (fun v hv k e=>hb k (h.tB v hv k e).1 (h.tB v hv k e).2.2.1),h.lB,h.oB,h.tB,h.tD⟩
theorem zer.set{w w':World}{base:Nat}:∀{vs:List Value} {ts:List (List Ch)} (i:Nat) (hi:i<vs.length) (t':List Ch),zer w base vs ts→vs.Pairwise (fun a b=>∀k,a.ownBlock=some k→b.ownBlock≠some k)→Own w' base vs[i] t'→(∀v∈vs,∀k,v.ownBlock=some k→vs[i].ownBlock≠some k→w'.heap[k]? =w.heap[k]?)→zer w' base vs (ts.set i t')
 |[],[],_,hi,_,_,_,_,_=>absurd hi (Nat.not_lt_zero _)
 |v::vs,t::ts,0,_,t',h,hd,ho,hb=>by
  refine⟨ho,zer.of_block h.2 (fun u hu k e=>hb u (by simp[hu]) k e (fun e'=> ?_))⟩
  exact(List.pairwise_cons.1 hd).1 u hu k e' e
 |v::vs,t::ts,i+1,hi,t',h,hd,ho,hb=>by
  have hi':i<vs.length:=by simpa using hi
  have ho':Own w' base vs[i] t':=ho
  refine⟨za3 h.1 (fun k e=>hb v (by simp) k e (fun e'=> ?_)),zer.set i hi' t' h.2 (List.pairwise_cons.1 hd).2 ho' (fun u hu k e hn=>hb u (by simp[hu]) k e hn)⟩
  exact(List.pairwise_cons.1 hd).1 vs[i] (List.getElem_mem hi') k e e'
 |[],_::_,_,_,_,h,_,_,_=>h.elim
 |_::_,[],_,_,_,h,_,_,_=>h.elim
theorem zcn.newTook{w w':World}{base P:Nat}{S:Nat→Prop}{lv ov:Value}{tvs:List Value}{l:List Ch}{es:List Dd}{ts:List (List Ch)}{me next seen sent:Int}(h:zcn w base S P lv ov tvs l es ts me next seen sent)(i:Nat)(hi:i<tvs.length)(t':List Ch)(ho:Own w' base tvs[i] t')(hk:zak (fun k=>tvs[i].ownBlock=some k) w w'):zcn w' base S P lv ov tvs l es (ts.set i t') me next seen sent:=by
 have hm:tvs[i]∈tvs:=List.getElem_mem hi
 have hb:∀k,S k→tvs[i].ownBlock≠some k→w'.heap[k]? =w.heap[k]? :=fun k hs hn=>hk.block k (h.lo k hs).2 hn
 refine⟨fun k hs=>⟨(h.lo k hs).1,Nat.lt_of_lt_of_le (h.lo k hs).2 hk.size⟩,h.hP,h.cells.kept hk.size (hb P h.hP (fun e=>(h.tB _ hm P e).2.1 rfl)),za3 h.ownL (fun k e=>hb k (h.lB k e).1 (fun e'=>(h.tB _ hm k e').2.2.1 e)),za3 h.ownO (fun k e=>hb k (h.oB k e).1 (fun e'=>(h.tB _ hm k e').2.2.2 e)),h.len,h.tooks.set i hi t' h.tD ho (fun v hv k e hn=>hb k (h.tB v hv k e).1 hn),h.lB,h.oB,h.tB,h.tD⟩
def zrj(lv:Value)(tvs:List Value)(k:Nat):Prop:=lv.ownBlock=some k∨∃u∈tvs,u.ownBlock=some k
structure CI(w:World)(base P:Nat)(S:Nat→Prop)(lv ov:Value)(tvs:List Value)(l:List Ch)(es:List Dd)(ts:List (List Ch))(me next seen sent:Int)(d:Dd)(wk:World):Prop where
 at_:zcn wk base S P lv ov tvs l es ts me next seen sent
 kept:zak (zrj lv tvs) w wk
 deed:zde wk w.heap.size 0 d
theorem CI.after{w wk w':World}{base P:Nat}{S:Nat→Prop}{lv ov:Value}{tvs:List Value}{l:List Ch}{es:List Dd}{ts:List (List Ch)}{me next seen sent:Int}{d:Dd}(h:CI w base P S lv ov tvs l es ts me next seen sent d wk)(hb:Below wk.heap.size wk w'):CI w base P S lv ov tvs l es ts me next seen sent d w':=⟨h.at_.below hb,h.kept.after hb,h.deed.below hb⟩
theorem zju{S T:Nat→Prop}{w w':World}(h:zak S w w')(hs:∀k,S k→T k):zak T w w':=⟨h.os,h.tape,h.output,h.size,fun k hk hn=>h.block k hk (fun e=>hn (hs k e))⟩
theorem CI.list{w wk w':World}{base P:Nat}{S:Nat→Prop}{lv ov:Value}{tvs:List Value}{l l':List Ch}{es:List Dd}{ts:List (List Ch)}{me next seen sent:Int}{d:Dd}(h:CI w base P S lv ov tvs l es ts me next seen sent d wk)(hlo:∀k,S k→k<w.heap.size)(ho:Own w' base lv l')(hk:zak (fun k=>lv.ownBlock=some k) wk w'):CI w base P S lv ov tvs l' es ts me next seen sent d w':=
 ⟨h.at_.newList ho hk,h.kept.trans' (zju hk (fun k e=> .inl e)),h.deed.of_block' (Nat.lt_of_lt_of_le h.deed.lt hk.size) (hk.block _ h.deed.lt (fun e=>by have:=hlo _ (h.at_.lB _ e).1;omega))⟩
theorem CI.took{w wk w':World}{base P:Nat}{S:Nat→Prop}{lv ov:Value}{tvs:List Value}{l:List Ch}{es:List Dd}{ts:List (List Ch)}{me next seen sent:Int}{d:Dd}(h:CI w base P S lv ov tvs l es ts me next seen sent d wk)(hlo:∀k,S k→k<w.heap.size)(i:Nat)(hi:i<tvs.length)(t':List Ch)(ho:Own w' base tvs[i] t')(hk:zak (fun k=>tvs[i].ownBlock=some k) wk w'):CI w base P S lv ov tvs l es (ts.set i t') me next seen sent d w':=
 ⟨h.at_.newTook i hi t' ho hk,h.kept.trans' (zju hk (fun k e=> .inr ⟨_,List.getElem_mem hi,e⟩)),h.deed.of_block' (Nat.lt_of_lt_of_le h.deed.lt hk.size) (hk.block _ h.deed.lt (fun e=>by have:=hlo _ (h.at_.tB _ (List.getElem_mem hi) _ e).1;omega))⟩
structure CU(P E:Nat)(lv ov:Value)(me next seen sent:Int)(d:Dd)(wk:World):Prop where
 cells:PwC wk P lv ov me next seen sent
 deed:zde wk E 0 d
structure CU2(P E F:Nat)(lv ov tv:Value)(me next seen sent:Int)(d:Dd)(wk:World):Prop where
 cells:PwC wk P lv ov me next seen sent
 deed:zde wk E 0 d
 took:wk.cell? ⟨F,7,none⟩=some tv
structure CK(F:Nat)(tv v:Value)(base:Nat)(t:List Ch)(wk:World):Prop where
 took:wk.cell? ⟨F,7,none⟩=some tv
 lt:F<wk.heap.size
 own:Own wk base v t
theorem qbz{w:World}{base P:Nat}{S:Nat→Prop}{lv ov:Value}{tvs:List Value}{l:List Ch}{es:List Dd}{ts:List (List Ch)}{me next seen sent:Int}(h:zcn w base S P lv ov tvs l es ts me next seen sent)(hl:l.length≤1000)(hes:es.length≤1000)(hts:∀t∈ts,t.length≤1000)(d:Dd):
 Calls Tryz.prog 224 #[.pointer (some ⟨P,0,none⟩),ddV d] w fun e w'=>e= .returned (.tuple #[])∧zcn w' base S P lv ov tvs (l.map (ze2 d.no seen)) es (ts.map fun u=>u.map (ze2 d.no seen)) me next seen sent∧zak (zrj lv tvs) w w':=by
 have HLO:Hid (∀k,S k→k<w.heap.size):=fun k hk=>(h.lo k hk).2
 have HI:Hid (CI w base P S lv ov tvs l es ts me next seen sent d (w.alloc (zcc d))):=⟨h.below (za1 _ _),.of_below (za1 _ _),zb7 w d⟩
 have HTL:Hid (∀t∈ts,t.length≤1000):=hts
 have hPw:=h.cells.lt
 obtain⟨la,lcap,rfl,_⟩:=h.ownL.lst.len
 obtain⟨oa,ocap,rfl⟩:=h.topen.form
 have htlen:ts.length=es.length:=by rw[←h.tooks.len,h.len]
 have HVL:Hid (tvs.length=es.length):=h.len
 have HTN:Hid (ts.length=es.length):=htlen
 generalize hll:l.length=ll at*
 have HLL:Hid (l.length=ll):=hll
 obtain⟨kind,by_,no,dseen,at_,many,text⟩:=d
 clear h hts htlen hll
 generalize hn:es.length=n at*
 have HEN:Hid (es.length=n):=hn
 clear hn
 go_enter Tryz.func224,Tryz.ntmps224
 go_wp2
 refine wrs (fun wk=>CU P w.heap.size (.slice la ll lcap) (.slice oa n ocap) me next seen sent ⟨kind,by_,no,dseen,at_,many,text⟩ wk) (fun i=>i==9) (fun wk=>CI w base P S (.slice la ll lcap) (.slice oa n ocap) tvs l es ts me next seen sent ⟨kind,by_,no,dseen,at_,many,text⟩ wk) (by kernel_rfl) (by kernel_rfl) (by kernel_rfl) (fun _ h=>⟨h.at_.cells,h.deed⟩) (HI.out.after (Below.refl _ _).drew) ?_
 refine wss rfl (fun K hK=> ?_)
 go_simp
 refine⟨_,fun _ _=>rfl,hK _ ?_⟩
 clear hK K
 refine wss rfl (fun K hK=> ?_)
 go_simp
 refine⟨_,fun _ _=>rfl,hK _ ?_⟩
 clear hK K
 refine wss rfl (fun K hK=> ?_)
 go_simp
 refine⟨_,fun _ _=>rfl,hK _ ?_⟩
 clear hK K
 refine wss rfl (fun K hK=> ?_)
 go_simp
 refine⟨.slice la ll lcap,fun wk hwk=> ?_,hK _ ?_⟩
 ·have c:=hwk.cells.list
  go_simp
 clear hK K
 refine wss rfl (fun K hK=> ?_)
 go_simp
 refine⟨ddV ⟨kind,by_,no,dseen,at_,many,text⟩,fun wk hwk=> ?_,hK _ ?_⟩
 ·obtain⟨_,c0,c1,c2,c3,c4,c5,c6⟩:=hwk.deed
  simp only[Nat.zero_add]at c0 c1 c2 c3 c4 c5 c6
  go_simp
 clear hK K
 refine wss rfl (fun K hK=> ?_)
 go_simp
 refine⟨_,fun _ _=>rfl,hK _ ?_⟩
 clear hK K
 refine wss rfl (fun K hK=> ?_)
 go_simp
 refine⟨_,fun _ _=>rfl,hK _ ?_⟩
 clear hK K
 refine wss rfl (fun K hK=> ?_)
 go_simp
 refine⟨_,fun _ _=>rfl,hK _ ?_⟩
 clear hK K
 refine wss rfl (fun K hK=> ?_)
 go_simp
 refine⟨.int .i64 seen,fun wk hwk=> ?_,hK _ ?_⟩
 ·have c:=hwk.cells.seen
  go_simp
 clear hK K
 refine wsp rfl rfl (fun u=>u= .tuple #[]) (fun u wk=>CI w base P S (.slice la ll lcap) (.slice oa n ocap) tvs (l.map (ze2 no seen)) es ts me next seen sent ⟨kind,by_,no,dseen,at_,many,text⟩ wk) ⟨_,rfl⟩ (fun _ _ h=>⟨h.at_.cells,h.deed⟩) (fun wk hwk=> ?_) (fun v9 hv9=> ?_)
 ·go_simp
  refine(zqw hwk.at_.ownL (by rw[HLL.out];exact hl) ⟨kind,by_,no,dseen,at_,many,text⟩ seen).mono ?_
  rintro e w5 ⟨rfl,ho,hk⟩
  exact⟨_,rfl,rfl,hwk.list HLO.out ho hk⟩
 refine wsn (fun w9 hw9=> ?_)
 have H9:Hid _:=hw9
 clear hw9
 have HI2:Hid (CI w base P S (.slice la ll lcap) (.slice oa n ocap) tvs (l.map (ze2 no seen)) es (zgu (fun u=>u.map (ze2 no seen)) 0 ts) me next seen sent ⟨kind,by_,no,dseen,at_,many,text⟩ w9):=H9
 clear H9 HI
 have c4:=HI2.out.at_.cells.opens
 have hP9:=HI2.out.at_.cells.lt
 go_wp2
 clear c4 hP9
 go_loopw [21] (fun i wr=>∃k:Nat,k≤n∧i= .int .i64 k∧Hid (CI w base P S (.slice la ll lcap) (.slice oa n ocap) tvs (l.map (ze2 no seen)) es (zgu (fun u=>u.map (ze2 no seen)) k ts) me next seen sent ⟨kind,by_,no,dseen,at_,many,text⟩ wr)) (fun i _=>n-(intOf i).toNat)
 case atStart=>exact⟨0,Nat.zero_le _,rfl,HI2⟩
 case round=>
  obtain⟨k,hk,rfl,HK⟩:=hrel
  clear HI2
  by_cases hlt:k<n
  ·have hke:k<es.length:=by rw[HEN.out];exact hlt
   have hkv:k<tvs.length:=by rw[HVL.out];exact hlt
   have hkt:k<ts.length:=by rw[HTN.out];exact hlt
   have hT:=HK.out.at_.topen
   obtain⟨g,cap,hov⟩:=hT.place (by omega)
   simp only[Value.slice.injEq]at hov
   obtain⟨rfl,-, rfl⟩:=hov
   obtain⟨⟨hg,h0,h1,h2,h3,h4,h5,h6⟩,h7⟩:=hT.nth HEN.out hke hkv
   have hmk:k<(zgu (fun u=>u.map (ze2 no seen)) k ts).length:=by rw[zsh];exact hkt
   have hmg:=zsi (fun u:List Ch=>u.map (ze2 no seen)) hkt hmk
   have hown:=hT.tooks.nth k hkv hmk
   rw[hmg]at hown
   have HTK:Hid (ts[k].length≤1000):=HTL.out _ (List.getElem_mem hkt)
   have HOWN:Hid (Own wr base tvs[k] ts[k]):=hown
   obtain⟨ta,tcap,htf,_⟩:=hown.lst.len
   have HTF:Hid (tvs[k]= .slice ta ts[k].length tcap):=htf
   have HJ:Hid (CI w base P S (.slice la ll lcap) (.slice (some ⟨g,0,none⟩) n ocap) tvs (l.map (ze2 no seen)) es (zgu (fun u=>u.map (ze2 no seen)) k ts) me next seen sent ⟨kind,by_,no,dseen,at_,many,text⟩ (wr.alloc (zld es[k] tvs[k]))):=HK.out.after (za1 _ _)
   have HWR:Hid (w.heap.size<wr.heap.size):=HK.out.deed.lt
   rw[htf]at h7 HJ
   generalize hed:es[k]=ed at*
   obtain⟨ekind,eby,eno,eseen,eat,emany,etext⟩:=ed
   simp only at h0 h1 h2 h3 h4 h5 h6
   clear hT hown htf HK hmg
   go_wp2
   refine wrs (fun wk=>CU2 P w.heap.size wr.heap.size (.slice la ll lcap) (.slice (some ⟨g,0,none⟩) n ocap) (.slice ta ts[k].length tcap) me next seen sent ⟨kind,by_,no,dseen,at_,many,text⟩ wk) (fun i=>i==7) (fun wk=>CI w base P S (.slice la ll lcap) (.slice (some ⟨g,0,none⟩) n ocap) tvs (l.map (ze2 no seen)) es (zgu (fun u=>u.map (ze2 no seen)) k ts) me next seen sent ⟨kind,by_,no,dseen,at_,many,text⟩ wk∧CK wr.heap.size (.slice ta ts[k].length tcap) tvs[k] base ts[k] wk) (by kernel_rfl) (by kernel_rfl) (by kernel_rfl) (fun _ h=>⟨h.1.at_.cells,h.1.deed,h.2.took⟩) (⟨HJ.out.after (Below.refl _ _).drew,by simp[go_sem],by simp,HOWN.out.below (za1 _ _).drew⟩) ?_
   refine wss rfl (fun K hK=> ?_)
   go_simp
   refine⟨_,fun _ _=>rfl,hK _ ?_⟩
   clear hK K
   refine wss rfl (fun K hK=> ?_)
   go_simp
   refine⟨.slice ta ts[k].length tcap,fun wk hwk=> ?_,hK _ ?_⟩
   ·have c:=hwk.took
    go_simp
   clear hK K
   refine wss rfl (fun K hK=> ?_)
   go_simp
   refine⟨ddV ⟨kind,by_,no,dseen,at_,many,text⟩,fun wk hwk=> ?_,hK _ ?_⟩
   ·obtain⟨_,c0,c1,c2,c3,c4,c5,c6⟩:=hwk.deed
    simp only[Nat.zero_add]at c0 c1 c2 c3 c4 c5 c6
    go_simp
   clear hK K
   refine wss rfl (fun K hK=> ?_)
   go_simp
   refine⟨_,fun _ _=>rfl,hK _ ?_⟩
   clear hK K
   refine wss rfl (fun K hK=> ?_)
   go_simp
   refine⟨_,fun _ _=>rfl,hK _ ?_⟩
   clear hK K
   refine wss rfl (fun K hK=> ?_)
   go_simp
   refine⟨_,fun _ _=>rfl,hK _ ?_⟩
   clear hK K
   refine wss rfl (fun K hK=> ?_)
   go_simp
   refine⟨.int .i64 seen,fun wk hwk=> ?_,hK _ ?_⟩
   ·have c:=hwk.cells.seen
    go_simp
   clear hK K
   refine wsp rfl rfl (fun u=>u= .tuple #[]) (fun u wk=>CI w base P S (.slice la ll lcap) (.slice (some ⟨g,0,none⟩) n ocap) tvs (l.map (ze2 no seen)) es (zgu (fun u=>u.map (ze2 no seen)) (k+1) ts) me next seen sent ⟨kind,by_,no,dseen,at_,many,text⟩ wk∧wk.cell? ⟨wr.heap.size,7,none⟩=some (.slice ta ts[k].length tcap)) ⟨_,rfl⟩ (fun _ _ h=>⟨h.1.at_.cells,h.1.deed,h.2⟩) (fun wk hwk=> ?_) (fun v7 hv7=> ?_)
   ·go_simp
    have hno:=zqw hwk.2.own HTK.out ⟨kind,by_,no,dseen,at_,many,text⟩ seen
    rw[HTF.out]at hno
    refine hno.mono ?_
    rintro e w5 ⟨rfl,ho,hk⟩
    rw[←HTF.out]at ho hk
    refine⟨_,rfl,rfl,?_,?_⟩
    ·have:=hwk.1.took HLO.out k hkv _ ho hk
     rw[zsg _ hkt]at this
     exact this
    ·rw[World.cell?_of_block (a:=⟨wr.heap.size,7,none⟩) (hk.block _ hwk.2.lt (fun e=>by have q:wr.heap.size<w.heap.size:=HLO.out _ (hwk.1.at_.tB _ (List.getElem_mem hkv) _ e).1;have:=HWR.out;omega))]
     exact hwk.2.took
   refine wsn (fun w8 hw8=> ?_)
   have H8:Hid _:=hw8.1
   clear hw8
   have HNX:Hid (CI w base P S (.slice la ll lcap) (.slice (some ⟨g,0,none⟩) n ocap) tvs (l.map (ze2 no seen)) es (zgu (fun u=>u.map (ze2 no seen)) (k+1) ts) me next seen sent ⟨kind,by_,no,dseen,at_,many,text⟩ w8):=H8
   clear H8
   go_wp2
   go_roundw
   case rel=>exact⟨k+1,by omega,by go_num,HNX⟩
   case measure=>simp[intOf];omega
  ·obtain rfl:k=n:=by omega
   have HE:Hid (zgu (fun u=>u.map (ze2 no seen)) k ts=ts.map fun u=>u.map (ze2 no seen)):=by show _=_;rw[←HTN.out,zsj]
   go_wp2
   go_end0
   refine⟨rfl,?_,HK.out.kept⟩
   have:=HK.out.at_
   rw[HE.out]at this
   exact this
theorem qbn{w:World}{base P:Nat}{S:Nat→Prop}{lv ov tv:Value}{tvs:List Value}{l t:List Ch}{es:List Dd}{ts:List (List Ch)}{me next seen sent:Int}(h:zcn w base S P lv ov tvs l es ts me next seen sent)(ht:Own w base tv t)(hsep:∀k,tv.ownBlock=some k→lv.ownBlock≠some k)(hl:l.length≤1000)(htl:t.length≤1000)(d:Dd):
 Calls Tryz.prog 225 #[.pointer (some ⟨P,0,none⟩),ooV d tv] w fun e w'=>e= .returned (.tuple #[])∧zcn w' base S P lv ov tvs (l.map (zk5 t seen)) es ts me next seen sent∧zak (fun k=>lv.ownBlock=some k) w w':=by
 by_cases h0:l.length=0
 ·obtain rfl:l=[]:=List.length_eq_zero_iff.1 h0
  obtain⟨a,cap,hlv,_⟩:=h.ownL.lst.len
  obtain⟨ta,tc,htv,_⟩:=ht.lst.len
  have hc:=h.cells
  rw[hlv]at hc
  refine(zsu hc ⟨_,_,_,htv⟩ d).mono ?_
  rintro e w1 ⟨rfl,hb⟩
  exact⟨rfl,h.below hb,.of_below hb⟩
 ·obtain⟨g,cap,rfl⟩:=zp1 h.ownL (by omega)
  refine(zv2 h.cells h.ownL ht (fun e=>(h.lB g rfl).2 e.symm) (fun e=>hsep g e rfl) rfl hl htl d).mono ?_
  rintro e w1 ⟨rfl,ho,hk⟩
  have hk':=zju (T:=fun k=>(Value.slice (some ⟨g,0,none⟩) l.length cap).ownBlock=some k) hk (fun k e=>by rw[e];rfl)
  exact⟨rfl,h.newList ho hk',hk'⟩
abbrev ziw:Value:= .agg #[.int .i64 0,.int .i64 0,.int .i64 0,.int .i64 0,.int .i64 0,.int .i64 0,.string ⟨#[]⟩,.slice none 0 0]
theorem Tryz.infoOwn:(Tryz.prog.info? 180).map (fun i=>(i.zero,i.size,i.bytes))=some (some ziw,8,88):=by kernel_rfl
theorem zzu:Tryz.prog.elem 176=180:=by kernel_rfl
theorem zrp:Tryz.prog.underlying 176=some (.slice (Tryz.prog.elem 176)):=by kernel_rfl
theorem und_own':Tryz.prog.underlying 176=some (.slice 180):=by kernel_rfl
theorem zyy(w:World):(sizeOf 180).run Tryz.prog w= .ok 8 w:=by
 obtain⟨i0,hi,_,hz1,_⟩:=info_parts Tryz.infoOwn
 simp[sizeOf,typeInfo,hi,hz1]
theorem qe7(a:Option Addr)(len cap k:Nat)(hk:k≤cap)(w:World):(Instr.sliceAt 176 (.slice a len cap) none (some (.int .i64 k)) none).run Tryz.prog w= .ok (sliced a 0 k cap 8) w:=by
 rw[run_sliceAt_slice _ _ _ _ _ _ zrp,run_slice_h _ _ _ _ _ zrp _ _ (by omega) (by omega),zzu,zyy]
 rfl
theorem zu7(a:Option Addr)(len cap k:Nat)(hk:k≤len)(w:World):(Instr.sliceAt 176 (.slice a len cap) (some (.int .i64 k)) none none).run Tryz.prog w= .ok (sliced a k len cap 8) w:=by
 rw[run_sliceAt_slice _ _ _ _ _ _ zrp,run_slice_l _ _ _ _ _ zrp _ _ (by omega) (by omega),zzu,zyy]
 rfl
theorem row_spot{w:World}{base g n cap size:Nat}{e:TypeId}{xs:List Value}(h:w.ownsRow base e size (.slice (some ⟨g,0,none⟩) n cap) n xs){j:Nat}(hj:j<cap*size):(w.cell? ⟨g,j,none⟩).isSome=true∧w.frozen? ⟨g,j,none⟩=false:=by
 refine⟨?_,World.ownsRow.frozenAt h j⟩
 rcases h.2 with⟨h',_⟩|⟨g',cap',cur,h',hb,hg,hnc,hcm,hcs,htake⟩
 ·simp at h'
 ·simp only[Value.slice.injEq,Option.some.injEq,Addr.mk.injEq,and_true,true_and]at h'
  obtain⟨rfl,rfl⟩:=h'
  rw[cell_of_row w g j cur e (0,0) hg,Array.getElem?_eq_getElem (by omega)]
  rfl
theorem zpw(n:Nat):∀v∈(Builtin.zeroCells ziw.cells n).toList,v.oneCell'=true:=by
 intro v hv
 simp only[Builtin.zeroCells,Array.toList_map,List.mem_map]at hv
 obtain⟨i,_,rfl⟩:=hv
 have h8:i % ziw.cells.size<8:=Nat.mod_lt _ (by decide)
 generalize i % ziw.cells.size=r at h8
 rcases(show r=0∨r=1∨r=2∨r=3∨r=4∨r=5∨r=6∨r=7 by omega)with rfl|rfl|rfl|rfl|rfl|rfl|rfl|rfl<;>rfl
theorem zs3{w:World}{base g n cap:Nat}{xs:List Value}(h:w.ownsRow base 180 8 (.slice (some ⟨g,0,none⟩) n cap) n xs)(hc:n<cap)(ty:TypeId):
 (Builtin.clear_ #[176] ty #[.slice (some ⟨g,n*8,none⟩) 1 (cap-n)]).run Tryz.prog w= .ok (.tuple #[]) (w.setCells g (n*8) (Builtin.zeroCells ziw.cells 1).toList):=by
 have hlen:(Builtin.zeroCells ziw.cells 1).toList.length=8:=by rw[Array.length_toList,size_zeroCells];rfl
 have hst:=run_storeCells_cells (P:=Tryz.prog) g (n*8) (Builtin.zeroCells ziw.cells 1).toList 0 w
  (fun j hj=>by rw[hlen]at hj;rw[Nat.add_zero];exact(row_spot h (by omega)).1)
  (fun j hj=>by rw[Nat.add_zero];exact World.ownsRow.frozenAt h _) (zpw _)
 simp only[Nat.add_zero]at hst
 simp[Builtin.clear_,run_underlying und_own',hst]
theorem zr3{w w1:World}{g:Nat}:∀(vs:List Value) (o:Nat) (w2:World),zak (fun k=>k=g) w w2→w2=w1→zak (fun k=>k=g) w (w1.setCells g o vs)
 |[],_,_,h,e=>by rw[←e];exact h
 |v::vs,o,w2,h,e=>zr3 vs (o+1) (w2.setCell ⟨g,o,none⟩ v) (h.set (p:=⟨g,o,none⟩) rfl v) (by rw[e])
theorem zoh{o:Oper}{act:Act}{w w':World}{s x:Operand}{t:TypeId}{v u v':Value}{D:Value→World→Prop}(ho:o.op= .call {callee:= .builtin .append,args:= #[s,x],argTypes:= #[t,t]})(hs:act.eval s=v)(hx:act.eval x=u)
 (h1:(Builtin.append_ #[t,t] o.type #[v,u]).run Tryz.prog w= .ok v' w') (h:D v' w'):zb5 Tryz.prog D ((execOp act.eval o).run Tryz.prog w):=by
 simp[execOp,ho,resolve,invoke,builtin,hs,hx,h1,Result.andThen]
 exact h
structure DO(w:World)(base g n cap:Nat)(r:List (Dd×Value))(wk:World):Prop where
 own:zlu wk base (.slice (some ⟨g,0,none⟩) n cap) r
 kept:zak (fun k=>k=g) w wk
theorem zvh{w:World}{base g n cap:Nat}{x:Dd×Value}{r:List (Dd×Value)}(h:zlu w base (.slice (some ⟨g,0,none⟩) (n+1) cap) (x::r))(hn:r.length=n)(hn2:n≤1000)(h1:∀y∈r,y.2.oneCell'=true):
 Calls Tryz.prog 223 #[.slice (some ⟨g,0,none⟩) (n+1) cap,.int .i64 0,.int .i64 1] w fun e w'=>e= .returned (.slice (some ⟨g,0,none⟩) n cap)∧zlu w' base (.slice (some ⟨g,0,none⟩) n cap) r∧zak (fun k=>k=g) w w':=by
 obtain⟨i0,hi,hz0,hz1,hz2⟩:=info_parts Tryz.infoOwn
 have hcap:n+1≤cap:=by
  rcases h.2 with⟨h',_⟩|⟨g',cap',cur,h',_,_,hnc,_⟩
  ·simp at h'
  ·simp only[Value.slice.injEq,Option.some.injEq,Addr.mk.injEq,and_true]at h'
   obtain⟨_,_,rfl⟩:=h'
   simp at hnc
   omega
 have HO:Hid (zlu w base (.slice (some ⟨g,0,none⟩) (n+1) cap) (x::r)):=h
 have HN:Hid (r.length=n):=hn
 have H1:Hid (∀y∈r,y.2.oneCell'=true):=h1
 have HT:Hid (∀w,(Instr.sliceAt 176 (.slice (some ⟨g,0,none⟩) (n+1) cap) none (some (.int .i64 0)) none).run Tryz.prog w= .ok (.slice (some ⟨g,0,none⟩) 0 cap) w):=fun w=>by
  have:=qe7 (some ⟨g,0,none⟩) (n+1) cap 0 (Nat.zero_le _) w
  have e:sliced (some ⟨g,0,none⟩) 0 0 cap 8= .slice (some ⟨g,0,none⟩) 0 cap:=by
   unfold sliced
   simp[zdx]
  rw[e]at this
  exact this
 obtain⟨ad,cs,had,hdr⟩:∃ad cs,(0<n→ad=⟨g,8,none⟩)∧∀w,(Instr.sliceAt 176 (.slice (some ⟨g,0,none⟩) (n+1) cap) (some (.int .i64 1)) none none).run Tryz.prog w= .ok (.slice (some ad) n cs) w:=by
  by_cases hc1:cap=1
  ·refine⟨⟨g,0,none⟩,cap-1,fun h=>by omega,fun w=> ?_⟩
   have:=zu7 (some ⟨g,0,none⟩) (n+1) cap 1 (by omega) w
   have e:sliced (some ⟨g,0,none⟩) 1 (n+1) cap 8= .slice (some ⟨g,0,none⟩) n (cap-1):=by
    unfold sliced
    simp[hc1]
   rw[e]at this
   exact this
  ·refine⟨⟨g,8,none⟩,cap-1,fun _=>rfl,fun w=> ?_⟩
   have:=zu7 (some ⟨g,0,none⟩) (n+1) cap 1 (by omega) w
   have e:sliced (some ⟨g,0,none⟩) 1 (n+1) cap 8= .slice (some ⟨g,8,none⟩) n (cap-1):=by
    unfold sliced
    simp[hc1,zdx]
   rw[e]at this
   exact this
 have HD:Hid _:=hdr
 have HAP:Hid (∀(ty:TypeId) wk,Below w.heap.size w wk→∃w',(Builtin.append_ #[176,176] ty #[.slice (some ⟨g,0,none⟩) 0 cap,.slice (some ad) n cs]).run Tryz.prog wk= .ok (.slice (some ⟨g,0,none⟩) n cap) w'∧DO w base g n cap r w'):=fun ty wk hb=>by
  have hown:zlu wk base (.slice (some ⟨g,0,none⟩) (n+1) cap) (x::r):=h.below hb
  have hrow:wk.ownsRow base 180 8 (.slice (some ⟨g,0,none⟩) 0 cap) 0 []:=by
   rcases hown.2 with⟨h',_⟩|⟨g',cap',cur,h',hb',hg',hnc,hcm,hcs,htake⟩
   ·simp at h'
   ·simp only[Value.slice.injEq,Option.some.injEq,Addr.mk.injEq,and_true]at h'
    obtain⟨rfl,_,rfl⟩:=h'
    exact⟨rfl,.inr ⟨g,cap,cur,rfl,hb',hg',Nat.zero_le _,hcm,hcs,by simp⟩⟩
  have hsrc:∀j u,(zdh r)[j]? =some u→wk.cell? (ad.add j)=some u:=by
   intro j u hu
   have hj:j<n*8:=by
    have:=(List.getElem?_eq_some_iff.1 hu).1
    rw[zmp,hn]at this
    exact this
   rw[had (by omega),zdx]
   have hh:=hown
   unfold zlu at hh
   have e2:(x::r).length=n+1:=by rw[List.length_cons,hn]
   rw[e2]at hh
   rw[World.ownsRow.cellAt hh (8+j) (by omega),zdh,List.getElem?_append_right (by rw[zf9];omega),zf9,Nat.add_sub_cancel_left]
   exact hu
  obtain⟨w',e1,e2,e3⟩:=run_append_fits (P:=Tryz.prog) wk base 176 ty 180 i0 8 und_own' hi hz1 g 0 cap [] hrow ad n cs (zdh r) (by rw[zmp,hn]) hsrc (zmo r h1) (by omega)
  rw[Nat.zero_add]at e1 e2
  refine⟨w',e1,?_,?_⟩
  ·unfold zlu
   rw[hn]
   exact e2
  ·have hk:zak (fun k=>k=g) wk w':=⟨e3.os,e3.tape,e3.output,e3.size,fun k hk hne=>e3.block k hk (fun e=>hne (Option.some.inj e))⟩
   exact(zak.of_below (S:=fun k=>k=g) hb).trans' hk
 have hcl:∀wk,DO w base g n cap r wk→(Builtin.clear_ #[176] 0 #[.slice (some ⟨g,n*8,none⟩) 1 (cap-n)]).run Tryz.prog wk= .ok (.tuple #[]) (wk.setCells g (n*8) (Builtin.zeroCells ziw.cells 1).toList):=fun wk hk=>by
  have:=hk.own
  unfold zlu at this
  rw[hn]at this
  exact zs3 this (by omega) 0
 have HCL:Hid _:=hcl
 have HEND:Hid (∀wk,DO w base g n cap r wk→zlu (wk.setCells g (n*8) (Builtin.zeroCells ziw.cells 1).toList) base (.slice (some ⟨g,0,none⟩) n cap) r∧zak (fun k=>k=g) w (wk.setCells g (n*8) (Builtin.zeroCells ziw.cells 1).toList)):=fun wk hk=>by
  refine⟨?_,zr3 _ _ wk hk.kept rfl⟩
  have:=hk.own
  unfold zlu at this⊢
  rw[hn]at this⊢
  exact zj6 this _ _ (Nat.le_refl _) wk this
 have hne:¬cap=n:=by omega
 clear h hn h1 hdr hcl had
 go_enter Tryz.func223,Tryz.ntmps223
 go_wp2
 refine wrs (fun wk=>w.heap.size≤wk.heap.size) (fun i=>i==6) (fun wk=>Below w.heap.size w wk) (by kernel_rfl) (by kernel_rfl) (by kernel_rfl) (fun _ h=>h.size) ((Below.refl _ _).drew) ?_
 refine wss rfl (fun K hK=> ?_)
 go_simp
 refine⟨_,fun _ _=>rfl,hK _ ?_⟩
 clear hK K
 refine wss rfl (fun K hK=> ?_)
 go_simp
 refine⟨_,fun _ _=>rfl,hK _ ?_⟩
 clear hK K
 refine wss rfl (fun K hK=> ?_)
 rw[if_pos (by rfl)]
 refine⟨.slice (some ⟨g,0,none⟩) 0 cap,fun wk hwk=>zd2 rfl (HT.out wk),hK _ ?_⟩
 clear hK K
 refine wss rfl (fun K hK=> ?_)
 go_simp
 refine⟨_,fun _ _=>rfl,hK _ ?_⟩
 clear hK K
 refine wss rfl (fun K hK=> ?_)
 go_simp
 refine⟨_,fun _ _=>rfl,hK _ ?_⟩
 clear hK K
 refine wss rfl (fun K hK=> ?_)
 rw[if_pos (by rfl)]
 refine⟨.slice (some ad) n cs,fun wk hwk=>zd2 rfl (HD.out wk),hK _ ?_⟩
 clear hK K
 refine wsp rfl rfl (fun u=>u= .slice (some ⟨g,0,none⟩) n cap) (fun u wk=>DO w base g n cap r wk) ⟨_,rfl⟩ (fun _ _ h=>h.kept.size) (fun wk hwk=> ?_) (fun v6 hv6=> ?_)
 ·obtain⟨w',e1,e2⟩:=HAP.out _ wk hwk
  exact zoh rfl rfl rfl e1 ⟨rfl,e2⟩
 subst hv6
 refine wss rfl (fun K hK=> ?_)
 go_simp
 refine⟨_,fun _ _=>rfl,hK _ ?_⟩
 clear hK K
 refine wsn (fun w9 hw9=> ?_)
 have H9:Hid _:=hw9
 clear hw9
 have hcl:=HCL.out w9 H9.out
 have HE:Hid _:=HEND.out w9 H9.out
 clear H9 HCL HEND HAP HD HT HO H1 HN
 go_wp2
 go_ret
 exact⟨rfl,HE.out⟩
end Go.Proofs.YtcbnnfeelhlapadGreatDoor