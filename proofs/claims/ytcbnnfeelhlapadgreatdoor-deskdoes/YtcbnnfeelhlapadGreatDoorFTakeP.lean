/-
  The contract of fold.put.
-/
import Derived.Test.YtcbnnfeelhlapadGreatDoorFPut
import Derived.Test.YtcbnnfeelhlapadGreatDoorFStage
import Derived.BigRegion
namespace Go.Proofs.YtcbnnfeelhlapadGreatDoor
set_option maxHeartbeats 800000
set_option maxRecDepth 20000
open Go.RowKit
theorem qdz{by_:Int}{l:List Ch}{k:Nat}(h:k<l.length)(hi:l[k].inn=za0)(hb:l[k].by_≠by_):zbm by_ (l.drop k)=zbm by_ (l.drop (k+1))+1:=by
 rw[List.drop_eq_getElem_cons h,zbm,if_pos ⟨hi,hb⟩]
theorem zoj{by_:Int}{l:List Ch}{k:Nat}(h:∀hk:k<l.length,¬(l[k].inn=za0∧l[k].by_≠by_)):zbm by_ (l.drop k)=0:=by
 by_cases hk:k<l.length
 ·rw[List.drop_eq_getElem_cons hk,zbm,if_neg (h hk)]
 ·rw[List.drop_eq_nil_of_le (by omega)]
  rfl
theorem zkg{wk:World}{va vn vb:Value}{a n b:List Ch}(ha:Lst wk va a)(hn:Lst wk vn n)(hb:Lst wk vb b):zqe (wk.alloc (.cells #[va,vn,vb] 91)) wk.heap.size va vn vb a n b:=by
 have hbl:Below wk.heap.size wk (wk.alloc (.cells #[va,vn,vb] 91)):=(Below.refl _ _).alloc (Nat.le_refl _) _
 refine⟨by simp,?_,?_,?_,ha.below hbl,hn.below hbl,hb.below hbl⟩<;>simp[go_sem]
theorem put_any(l:List Ch)(d:Dd)(number:Int)(v:Value)(w:World)(h:Lst w v l)(hl:l.length≤1000)(hc:za6 d=0)(hk:d.kind=1)(hn:d.at_≤cnt l d.seen d.by_):
 Calls Tryz.prog 219 #[v,ddV d,.int .i64 number] w fun e w'=>∃v',e= .returned v'∧Own w' w.heap.size v' (doL l d number)∧Below w.heap.size w w':=by
 have HI:Hid _:=zdb (d:=d) h
 obtain⟨ad,cap,rfl,hcap⟩:=h.len
 obtain⟨_,_,_,_,_,_,p1,p2,_,_,p5,_⟩:=zah hc
 have HD:Hid (∀p,za8 d.seen d.by_ d.at_.toNat l=some p→doL l d number=l.take (p+zbm d.by_ (l.drop p))++(zf4 d number++l.drop (p+zbm d.by_ (l.drop p)))):=by
  intro p hp
  have:zbb l d=p+zbm d.by_ (l.drop p):=by rw[zbb,hp]
  rw[doL,if_pos hk,this]
 have ht:=(p5 hk).2.1
 obtain⟨kind,by_,no,seen,at_,many,text⟩:=d
 simp only at hn p1 p2 ht HD
 obtain rfl:kind=1:=hk
 clear h hc p5
 go_enter Tryz.func219,Tryz.ntmps219
 go_wp2_with fail
 refine(zmr HI.out.lst hl seen by_ at_ p1 hn).mono ?_
 rintro e w1 ⟨p,rfl,hp,hpl,hb⟩
 have HP:Hid _:=HD.out p hp
 have HI1:Hid _:=HI.out.after hb
 clear hb HI HD hp
 go_wp2
 go_loopw [7] (fun i wr=>∃k:Nat,k≤l.length∧i= .int .i64 k∧Hid (k+zbm by_ (l.drop k)=p+zbm by_ (l.drop p))∧Hid (zgc w w.heap.size ⟨1,by_,no,seen,at_,many,text⟩ (.slice ad l.length cap) l wr)) (fun i _=>l.length-(intOf i).toNat)
 case atStart=>exact⟨p,hpl,rfl,rfl,HI1⟩
 case round=>
  obtain⟨k,hk,rfl,HS,HK⟩:=hrel
  clear HI1
  by_cases hlt:k<l.length
  ·have hxx:∃x,x=l[k]:=⟨_,rfl⟩
   obtain⟨x,hx⟩:=hxx
   have HX:Hid _:=hx
   obtain⟨b,off,rfl,hr⟩:∃b off,ad=some ⟨b,off,none⟩∧Row wr b off l:=by
    obtain⟨a',len',cap',he,h1,h2,h3⟩:=HK.out.lst
    simp only[Value.slice.injEq]at he
    obtain⟨rfl,rfl,rfl⟩:=he
    rcases h3 with h3|⟨b,off,h3,hr⟩
    ·omega
    ·exact⟨b,off,h3,hr⟩
   have hat:=hr.at_ k hlt
   rw[←hx]at hat
   obtain⟨g0,g1,g2,g3,g4,g5,g6⟩:=hat
   obtain⟨_,c0,c1,c2,c3,c4,c5,c6⟩:=HK.out.at_
   simp only[Nat.zero_add]at c0 c1 c2 c3 c4 c5 c6
   clear hr hx
   by_cases hi:x.inn=za0
   ·have hi':(x.inn==1073741824)=true:=by simp[hi]
    by_cases hby:x.by_=by_
    ·have hby':(x.by_ != by_)=false:=by simp[hby]
     have HE:Hid (zbm by_ (l.drop k)=0):=zoj (fun _ e=>e.2 (by rw[←HX.out];exact hby))
     clear hi hby
     go_wp2
     go_quiet (fail)
     go_wp2
     clear g0 g1 g2 g3 g4 g5 g6 c0 c1 c2 c3 c4 c5 c6
     generalize hw3:wr.drewN nq=w3 at*
     have HK3:Hid (zgc w w.heap.size ⟨1,by_,no,seen,at_,many,text⟩ (.slice (some ⟨b,off,none⟩) l.length cap) l w3):=by
      show zgc _ _ _ _ _ _
      rw[←hw3]
      exact HK.out.after (below_drewN (Below.refl _ _) _)
     have HF:Hid (doL l ⟨1,by_,no,seen,at_,many,text⟩ number=l.take k++(zf4 ⟨1,by_,no,seen,at_,many,text⟩ number++l.drop k)):=by
      show doL _ _ _=_
      rw[HP.out,←HS.out,HE.out,Nat.add_zero]
     obtain⟨aa,na,ca,hva,hvl⟩:∃aa na ca,(∀w,(Instr.sliceAt 91 (.slice (some ⟨b,off,none⟩) l.length cap) none (some (.int .i64 k)) none).run Tryz.prog w= .ok (.slice aa na ca) w)∧∀wk,Lst wk (.slice (some ⟨b,off,none⟩) l.length cap) l→Lst wk (.slice aa na ca) (l.take k):=⟨_,_,_,zef _ l.length cap k (by omega),fun wk h=>zi9 h hk⟩
     obtain⟨ab,nb,cb,hvb,hvd⟩:∃ab nb cb,(∀w,(Instr.sliceAt 91 (.slice (some ⟨b,off,none⟩) l.length cap) (some (.int .i64 k)) none none).run Tryz.prog w= .ok (.slice ab nb cb) w)∧∀wk,Lst wk (.slice (some ⟨b,off,none⟩) l.length cap) l→Lst wk (.slice ab nb cb) (l.drop k):=⟨_,_,_,zeg _ l.length cap k hk,fun wk h=>zia h hk⟩
     have HVL:Hid _:=hvl
     have HVD:Hid _:=hvd
     have HVA:Hid _:=hva
     have HVB:Hid _:=hvb
     clear hvl hvd hva hvb HK HS HP HE hw3
     refine wrs (fun wk=>zgc w w.heap.size ⟨1,by_,no,seen,at_,many,text⟩ (.slice (some ⟨b,off,none⟩) l.length cap) l wk) (fun i=>i==5||i==9||i==10) (fun wk=>zgc w w.heap.size ⟨1,by_,no,seen,at_,many,text⟩ (.slice (some ⟨b,off,none⟩) l.length cap) l wk) (by kernel_rfl) (by kernel_rfl) (by kernel_rfl) (fun _ h=>h) HK3.out.drew ?_
     refine wss rfl (fun K hK=> ?_)
     go_simp
     refine⟨_,fun _ _=>rfl,hK _ ?_⟩
     clear hK K
     refine wss rfl (fun K hK=> ?_)
     go_simp
     refine⟨_,fun _ _=>rfl,hK _ ?_⟩
     clear hK K
     refine wss rfl (fun K hK=> ?_)
     rw[if_pos (by rfl)]
     refine⟨.slice aa na ca,fun wk _=>zd2 rfl (HVA.out wk),hK _ ?_⟩
     clear hK K
     refine wss rfl (fun K hK=> ?_)
     go_simp
     refine⟨ddV ⟨1,by_,no,seen,at_,many,text⟩,fun wk hwk=> ?_,hK _ ?_⟩
     ·obtain⟨_,c0,c1,c2,c3,c4,c5,c6⟩:=hwk.at_
      simp only[Nat.zero_add]at c0 c1 c2 c3 c4 c5 c6
      go_simp
     clear hK K
     refine wss rfl (fun K hK=> ?_)
     go_simp
     refine⟨_,fun _ _=>rfl,hK _ ?_⟩
     clear hK K
     refine wsp rfl rfl (fun u=>∃a n c,u= .slice a n c) (fun u wk=>zgc w w.heap.size ⟨1,by_,no,seen,at_,many,text⟩ (.slice (some ⟨b,off,none⟩) l.length cap) l wk∧Lst wk u (zf4 ⟨1,by_,no,seen,at_,many,text⟩ number)) ⟨_,none,0,0,rfl⟩ (fun _ _ h=>h.1) (fun wk hwk=> ?_) (fun vn hvn=> ?_)
     ·go_simp
      refine(zwy ⟨1,by_,no,seen,at_,many,text⟩ number wk (by simp only;omega)).mono ?_
      rintro e w4 ⟨u,rfl,ho,hb⟩
      obtain⟨a4,c4,rfl,_⟩:=ho.lst.len
      exact⟨_,rfl,⟨_,_,_,rfl⟩,hwk.after hb,ho.lst⟩
     obtain⟨an,nn,cn,rfl⟩:=hvn
     refine wss rfl (fun K hK=> ?_)
     go_simp
     refine⟨_,fun _ _=>rfl,hK _ ?_⟩
     clear hK K
     refine wss rfl (fun K hK=> ?_)
     go_simp
     refine⟨_,fun _ _=>rfl,hK _ ?_⟩
     clear hK K
     refine wss rfl (fun K hK=> ?_)
     rw[if_pos (by rfl)]
     refine⟨.slice ab nb cb,fun wk _=>zd2 rfl (HVB.out wk),hK _ ?_⟩
     clear hK K
     refine wsp rfl rfl (fun u=>∃g,u= .slice (some ⟨g,0,none⟩) 3 3) (fun u wk=>∃g,u= .slice (some ⟨g,0,none⟩) 3 3∧zgc w w.heap.size ⟨1,by_,no,seen,at_,many,text⟩ (.slice (some ⟨b,off,none⟩) l.length cap) l wk∧zqe wk g (.slice aa na ca) (.slice an nn cn) (.slice ab nb cb) (l.take k) (zf4 ⟨1,by_,no,seen,at_,many,text⟩ number) (l.drop k)) ⟨_,0,rfl⟩ (fun _ _ h=>by obtain⟨_,_,h,_⟩:=h;exact h) (fun wk hwk=> ?_) (fun vs hvs=> ?_)
     ·go_simp
      exact⟨⟨_,rfl⟩,_,rfl,hwk.1.after ((Below.refl _ _).alloc (Nat.le_refl _) _),zkg (HVL.out _ hwk.1.lst) hwk.2 (HVD.out _ hwk.1.lst)⟩
     obtain⟨g,rfl⟩:=hvs
     refine wsp rfl rfl (fun _=>True) (fun u wk=>zgc w w.heap.size ⟨1,by_,no,seen,at_,many,text⟩ (.slice (some ⟨b,off,none⟩) l.length cap) l wk∧Own wk w.heap.size u (l.take k++(zf4 ⟨1,by_,no,seen,at_,many,text⟩ number++l.drop k))) ⟨.int .i64 0,trivial⟩ (fun _ _ h=>h.1) (fun wk hwk=> ?_) (fun vr _=> ?_)
     ·obtain⟨g',hg,hm,h3⟩:=hwk
      simp only[Value.slice.injEq,Option.some.injEq,Addr.mk.injEq,and_true]at hg
      subst hg
      go_simp
      refine(zjh g _ _ _ _ _ _ wk h3 ?_).mono ?_
      ·rw[List.length_take,List.length_drop,zg5];simp only;omega
      rintro e w5 ⟨u,rfl,ho,hb⟩
      exact⟨u,rfl,hm.after hb,by have:=ho.mono (base':=w.heap.size) hm.below.size;rwa [List.append_assoc]at this⟩
     refine wss rfl (fun K hK=> ?_)
     go_simp
     refine⟨_,fun _ _=>rfl,hK _ ?_⟩
     clear hK K
     refine wsn (fun w6 hw6=> ?_)
     have H6:Hid _:=hw6
     clear hw6
     go_wp2
     go_ret
     exact⟨_,rfl,by rw[HF.out];exact H6.out.2,H6.out.1.below⟩
    ·have hby':(x.by_ != by_)=true:=by simp[hby]
     have HE:Hid _:=qdz hlt (by rw[←HX.out];exact hi) (by rw[←HX.out];exact hby)
     clear hi hby
     go_wp2
     go_quiet (fail)
     go_wp2
     go_roundw
     case rel=>exact⟨k+1,by omega,by go_num,by show _=_;rw[←HS.out,HE.out];omega,HK.out.after (below_drewN (Below.refl _ _) _)⟩
     case measure=>simp[intOf];omega
   ·have hi':(x.inn==1073741824)=false:=by simp;exact hi
    have HE:Hid (zbm by_ (l.drop k)=0):=zoj (fun _ e=>hi (by rw[HX.out];exact e.1))
    clear hi
    go_wp2
    go_quiet (fail)
    go_wp2
    clear g0 g1 g2 g3 g4 g5 g6 c0 c1 c2 c3 c4 c5 c6
    generalize hw3:wr.drewN nq=w3 at*
    have HK3:Hid (zgc w w.heap.size ⟨1,by_,no,seen,at_,many,text⟩ (.slice (some ⟨b,off,none⟩) l.length cap) l w3):=by
     show zgc _ _ _ _ _ _
     rw[←hw3]
     exact HK.out.after (below_drewN (Below.refl _ _) _)
    have HF:Hid (doL l ⟨1,by_,no,seen,at_,many,text⟩ number=l.take k++(zf4 ⟨1,by_,no,seen,at_,many,text⟩ number++l.drop k)):=by
     show doL _ _ _=_
     rw[HP.out,←HS.out,HE.out,Nat.add_zero]
    obtain⟨aa,na,ca,hva,hvl⟩:∃aa na ca,(∀w,(Instr.sliceAt 91 (.slice (some ⟨b,off,none⟩) l.length cap) none (some (.int .i64 k)) none).run Tryz.prog w= .ok (.slice aa na ca) w)∧∀wk,Lst wk (.slice (some ⟨b,off,none⟩) l.length cap) l→Lst wk (.slice aa na ca) (l.take k):=⟨_,_,_,zef _ l.length cap k (by omega),fun wk h=>zi9 h hk⟩
    obtain⟨ab,nb,cb,hvb,hvd⟩:∃ab nb cb,(∀w,(Instr.sliceAt 91 (.slice (some ⟨b,off,none⟩) l.length cap) (some (.int .i64 k)) none none).run Tryz.prog w= .ok (.slice ab nb cb) w)∧∀wk,Lst wk (.slice (some ⟨b,off,none⟩) l.length cap) l→Lst wk (.slice ab nb cb) (l.drop k):=⟨_,_,_,zeg _ l.length cap k hk,fun wk h=>zia h hk⟩
    have HVL:Hid _:=hvl
    have HVD:Hid _:=hvd
    have HVA:Hid _:=hva
    have HVB:Hid _:=hvb
    clear hvl hvd hva hvb HK HS HP HE hw3
    refine wrs (fun wk=>zgc w w.heap.size ⟨1,by_,no,seen,at_,many,text⟩ (.slice (some ⟨b,off,none⟩) l.length cap) l wk) (fun i=>i==5||i==9||i==10) (fun wk=>zgc w w.heap.size ⟨1,by_,no,seen,at_,many,text⟩ (.slice (some ⟨b,off,none⟩) l.length cap) l wk) (by kernel_rfl) (by kernel_rfl) (by kernel_rfl) (fun _ h=>h) HK3.out.drew ?_
    refine wss rfl (fun K hK=> ?_)
    go_simp
    refine⟨_,fun _ _=>rfl,hK _ ?_⟩
    clear hK K
    refine wss rfl (fun K hK=> ?_)
    go_simp
    refine⟨_,fun _ _=>rfl,hK _ ?_⟩
    clear hK K
    refine wss rfl (fun K hK=> ?_)
    rw[if_pos (by rfl)]
    refine⟨.slice aa na ca,fun wk _=>zd2 rfl (HVA.out wk),hK _ ?_⟩
    clear hK K
    refine wss rfl (fun K hK=> ?_)
    go_simp
    refine⟨ddV ⟨1,by_,no,seen,at_,many,text⟩,fun wk hwk=> ?_,hK _ ?_⟩
    ·obtain⟨_,c0,c1,c2,c3,c4,c5,c6⟩:=hwk.at_
     simp only[Nat.zero_add]at c0 c1 c2 c3 c4 c5 c6
     go_simp
    clear hK K
    refine wss rfl (fun K hK=> ?_)
    go_simp
    refine⟨_,fun _ _=>rfl,hK _ ?_⟩
    clear hK K
    refine wsp rfl rfl (fun u=>∃a n c,u= .slice a n c) (fun u wk=>zgc w w.heap.size ⟨1,by_,no,seen,at_,many,text⟩ (.slice (some ⟨b,off,none⟩) l.length cap) l wk∧Lst wk u (zf4 ⟨1,by_,no,seen,at_,many,text⟩ number)) ⟨_,none,0,0,rfl⟩ (fun _ _ h=>h.1) (fun wk hwk=> ?_) (fun vn hvn=> ?_)
    ·go_simp
     refine(zwy ⟨1,by_,no,seen,at_,many,text⟩ number wk (by simp only;omega)).mono ?_
     rintro e w4 ⟨u,rfl,ho,hb⟩
     obtain⟨a4,c4,rfl,_⟩:=ho.lst.len
     exact⟨_,rfl,⟨_,_,_,rfl⟩,hwk.after hb,ho.lst⟩
    obtain⟨an,nn,cn,rfl⟩:=hvn
    refine wss rfl (fun K hK=> ?_)
    go_simp
    refine⟨_,fun _ _=>rfl,hK _ ?_⟩
    clear hK K
    refine wss rfl (fun K hK=> ?_)
    go_simp
    refine⟨_,fun _ _=>rfl,hK _ ?_⟩
    clear hK K
    refine wss rfl (fun K hK=> ?_)
    rw[if_pos (by rfl)]
    refine⟨.slice ab nb cb,fun wk _=>zd2 rfl (HVB.out wk),hK _ ?_⟩
    clear hK K
    refine wsp rfl rfl (fun u=>∃g,u= .slice (some ⟨g,0,none⟩) 3 3) (fun u wk=>∃g,u= .slice (some ⟨g,0,none⟩) 3 3∧zgc w w.heap.size ⟨1,by_,no,seen,at_,many,text⟩ (.slice (some ⟨b,off,none⟩) l.length cap) l wk∧zqe wk g (.slice aa na ca) (.slice an nn cn) (.slice ab nb cb) (l.take k) (zf4 ⟨1,by_,no,seen,at_,many,text⟩ number) (l.drop k)) ⟨_,0,rfl⟩ (fun _ _ h=>by obtain⟨_,_,h,_⟩:=h;exact h) (fun wk hwk=> ?_) (fun vs hvs=> ?_)
    ·go_simp
     exact⟨⟨_,rfl⟩,_,rfl,hwk.1.after ((Below.refl _ _).alloc (Nat.le_refl _) _),zkg (HVL.out _ hwk.1.lst) hwk.2 (HVD.out _ hwk.1.lst)⟩
    obtain⟨g,rfl⟩:=hvs
    refine wsp rfl rfl (fun _=>True) (fun u wk=>zgc w w.heap.size ⟨1,by_,no,seen,at_,many,text⟩ (.slice (some ⟨b,off,none⟩) l.length cap) l wk∧Own wk w.heap.size u (l.take k++(zf4 ⟨1,by_,no,seen,at_,many,text⟩ number++l.drop k))) ⟨.int .i64 0,trivial⟩ (fun _ _ h=>h.1) (fun wk hwk=> ?_) (fun vr _=> ?_)
    ·obtain⟨g',hg,hm,h3⟩:=hwk
     simp only[Value.slice.injEq,Option.some.injEq,Addr.mk.injEq,and_true]at hg
     subst hg
     go_simp
     refine(zjh g _ _ _ _ _ _ wk h3 ?_).mono ?_
     ·rw[List.length_take,List.length_drop,zg5];simp only;omega
     rintro e w5 ⟨u,rfl,ho,hb⟩
     exact⟨u,rfl,hm.after hb,by have:=ho.mono (base':=w.heap.size) hm.below.size;rwa [List.append_assoc]at this⟩
    refine wss rfl (fun K hK=> ?_)
    go_simp
    refine⟨_,fun _ _=>rfl,hK _ ?_⟩
    clear hK K
    refine wsn (fun w6 hw6=> ?_)
    have H6:Hid _:=hw6
    clear hw6
    go_wp2
    go_ret
    exact⟨_,rfl,by rw[HF.out];exact H6.out.2,H6.out.1.below⟩
  ·have HE:Hid (zbm by_ (l.drop k)=0):=zoj (fun h=>absurd h hlt)
   have hlt':decide ((k:Int)<(l.length:Int))=false:=decide_eq_false (by omega)
   go_wp2
   go_quiet (fail)
   go_wp2
   generalize hw3:wr.drewN nq=w3 at*
   have HK3:Hid (zgc w w.heap.size ⟨1,by_,no,seen,at_,many,text⟩ (.slice ad l.length cap) l w3):=by
    show zgc _ _ _ _ _ _
    rw[←hw3]
    exact HK.out.after (below_drewN (Below.refl _ _) _)
   have HF:Hid (doL l ⟨1,by_,no,seen,at_,many,text⟩ number=l.take k++(zf4 ⟨1,by_,no,seen,at_,many,text⟩ number++l.drop k)):=by
    show doL _ _ _=_
    rw[HP.out,←HS.out,HE.out,Nat.add_zero]
   obtain⟨aa,na,ca,hva,hvl⟩:∃aa na ca,(∀w,(Instr.sliceAt 91 (.slice ad l.length cap) none (some (.int .i64 k)) none).run Tryz.prog w= .ok (.slice aa na ca) w)∧∀wk,Lst wk (.slice ad l.length cap) l→Lst wk (.slice aa na ca) (l.take k):=⟨_,_,_,zef _ l.length cap k (by omega),fun wk h=>zi9 h hk⟩
   obtain⟨ab,nb,cb,hvb,hvd⟩:∃ab nb cb,(∀w,(Instr.sliceAt 91 (.slice ad l.length cap) (some (.int .i64 k)) none none).run Tryz.prog w= .ok (.slice ab nb cb) w)∧∀wk,Lst wk (.slice ad l.length cap) l→Lst wk (.slice ab nb cb) (l.drop k):=⟨_,_,_,zeg _ l.length cap k hk,fun wk h=>zia h hk⟩
   have HVL:Hid _:=hvl
   have HVD:Hid _:=hvd
   have HVA:Hid _:=hva
   have HVB:Hid _:=hvb
   clear hvl hvd hva hvb HK HS HP HE hw3
   refine wrs (fun wk=>zgc w w.heap.size ⟨1,by_,no,seen,at_,many,text⟩ (.slice ad l.length cap) l wk) (fun i=>i==5||i==9||i==10) (fun wk=>zgc w w.heap.size ⟨1,by_,no,seen,at_,many,text⟩ (.slice ad l.length cap) l wk) (by kernel_rfl) (by kernel_rfl) (by kernel_rfl) (fun _ h=>h) HK3.out.drew ?_
   refine wss rfl (fun K hK=> ?_)
   go_simp
   refine⟨_,fun _ _=>rfl,hK _ ?_⟩
   clear hK K
   refine wss rfl (fun K hK=> ?_)
   go_simp
   refine⟨_,fun _ _=>rfl,hK _ ?_⟩
   clear hK K
   refine wss rfl (fun K hK=> ?_)
   rw[if_pos (by rfl)]
   refine⟨.slice aa na ca,fun wk _=>zd2 rfl (HVA.out wk),hK _ ?_⟩
   clear hK K
   refine wss rfl (fun K hK=> ?_)
   go_simp
   refine⟨ddV ⟨1,by_,no,seen,at_,many,text⟩,fun wk hwk=> ?_,hK _ ?_⟩
   ·obtain⟨_,c0,c1,c2,c3,c4,c5,c6⟩:=hwk.at_
    simp only[Nat.zero_add]at c0 c1 c2 c3 c4 c5 c6
    go_simp
   clear hK K
   refine wss rfl (fun K hK=> ?_)
   go_simp
   refine⟨_,fun _ _=>rfl,hK _ ?_⟩
   clear hK K
   refine wsp rfl rfl (fun u=>∃a n c,u= .slice a n c) (fun u wk=>zgc w w.heap.size ⟨1,by_,no,seen,at_,many,text⟩ (.slice ad l.length cap) l wk∧Lst wk u (zf4 ⟨1,by_,no,seen,at_,many,text⟩ number)) ⟨_,none,0,0,rfl⟩ (fun _ _ h=>h.1) (fun wk hwk=> ?_) (fun vn hvn=> ?_)
   ·go_simp
    refine(zwy ⟨1,by_,no,seen,at_,many,text⟩ number wk (by simp only;omega)).mono ?_
    rintro e w4 ⟨u,rfl,ho,hb⟩
    obtain⟨a4,c4,rfl,_⟩:=ho.lst.len
    exact⟨_,rfl,⟨_,_,_,rfl⟩,hwk.after hb,ho.lst⟩
   obtain⟨an,nn,cn,rfl⟩:=hvn
   refine wss rfl (fun K hK=> ?_)
   go_simp
   refine⟨_,fun _ _=>rfl,hK _ ?_⟩
   clear hK K
   refine wss rfl (fun K hK=> ?_)
   go_simp
   refine⟨_,fun _ _=>rfl,hK _ ?_⟩
   clear hK K
   refine wss rfl (fun K hK=> ?_)
   rw[if_pos (by rfl)]
   refine⟨.slice ab nb cb,fun wk _=>zd2 rfl (HVB.out wk),hK _ ?_⟩
   clear hK K
   refine wsp rfl rfl (fun u=>∃g,u= .slice (some ⟨g,0,none⟩) 3 3) (fun u wk=>∃g,u= .slice (some ⟨g,0,none⟩) 3 3∧zgc w w.heap.size ⟨1,by_,no,seen,at_,many,text⟩ (.slice ad l.length cap) l wk∧zqe wk g (.slice aa na ca) (.slice an nn cn) (.slice ab nb cb) (l.take k) (zf4 ⟨1,by_,no,seen,at_,many,text⟩ number) (l.drop k)) ⟨_,0,rfl⟩ (fun _ _ h=>by obtain⟨_,_,h,_⟩:=h;exact h) (fun wk hwk=> ?_) (fun vs hvs=> ?_)
   ·go_simp
    exact⟨⟨_,rfl⟩,_,rfl,hwk.1.after ((Below.refl _ _).alloc (Nat.le_refl _) _),zkg (HVL.out _ hwk.1.lst) hwk.2 (HVD.out _ hwk.1.lst)⟩
   obtain⟨g,rfl⟩:=hvs
   refine wsp rfl rfl (fun _=>True) (fun u wk=>zgc w w.heap.size ⟨1,by_,no,seen,at_,many,text⟩ (.slice ad l.length cap) l wk∧Own wk w.heap.size u (l.take k++(zf4 ⟨1,by_,no,seen,at_,many,text⟩ number++l.drop k))) ⟨.int .i64 0,trivial⟩ (fun _ _ h=>h.1) (fun wk hwk=> ?_) (fun vr _=> ?_)
   ·obtain⟨g',hg,hm,h3⟩:=hwk
    simp only[Value.slice.injEq,Option.some.injEq,Addr.mk.injEq,and_true]at hg
    subst hg
    go_simp
    refine(zjh g _ _ _ _ _ _ wk h3 ?_).mono ?_
    ·rw[List.length_take,List.length_drop,zg5];simp only;omega
    rintro e w5 ⟨u,rfl,ho,hb⟩
    exact⟨u,rfl,hm.after hb,by have:=ho.mono (base':=w.heap.size) hm.below.size;rwa [List.append_assoc]at this⟩
   refine wss rfl (fun K hK=> ?_)
   go_simp
   refine⟨_,fun _ _=>rfl,hK _ ?_⟩
   clear hK K
   refine wsn (fun w6 hw6=> ?_)
   have H6:Hid _:=hw6
   clear hw6
   go_wp2
   go_ret
   exact⟨_,rfl,by rw[HF.out];exact H6.out.2,H6.out.1.below⟩
theorem or_bit(g w:Int)(hw:wrB w=true)(h:zcd g w=false)(h0: -9223372036854775808≤g)(h1:g≤9223372036854775807):bits .or .i64 g (IntKind.i64.wrap (2 ^ w.toNat))=g+2 ^ w.toNat:=by
 have hw':0≤w∧w≤3:=by simpa [wrB]using hw
 obtain⟨k,rfl⟩:=Int.eq_ofNat_of_zero_le hw'.1
 have hk:k≤3:=by omega
 have hf:=qa0 hw h h1
 have e:IntKind.i64.wrap ((2:Int) ^ (k:Int).toNat)=2 ^ k:=by
  rcases(show k=0∨k=1∨k=2∨k=3 by omega)with rfl|rfl|rfl|rfl<;>decide
 rw[zcd,hw,Bool.true_and,qcb,Int.toNat_natCast]at h
 have h':¬g / 2 ^ k % 2=1:=by simpa using h
 have h2:(BitVec.ofInt 64 (2 ^ k)).toNat=2 ^ k:=by
  rcases(show k=0∨k=1∨k=2∨k=3 by omega)with rfl|rfl|rfl|rfl<;>decide
 have hz:BitVec.ofInt 64 g &&& BitVec.ofInt 64 (2 ^ k)=0#64:=by
  apply BitVec.eq_of_toNat_eq
  rw[BitVec.toNat_and,BitVec.toNat_ofInt,h2,nat_bit]
  rcases(show k=0∨k=1∨k=2∨k=3 by omega)with rfl|rfl|rfl|rfl<;>simp at h'⊢ <;>omega
 rw[e,Int.toNat_natCast]at*
 show IntKind.i64.wrap ((BitVec.ofInt 64 g ||| BitVec.ofInt 64 (2 ^ k)).toNat:Nat)=_
 rw[←BitVec.add_eq_or_of_and_eq_zero _ _ hz,BitVec.toNat_add,h2,BitVec.toNat_ofInt,IntKind.wrap_i64]
 rcases(show k=0∨k=1∨k=2∨k=3 by omega)with rfl|rfl|rfl|rfl<;>simp at hf⊢ <;>omega
theorem zyc(x:Int):IntKind.i64.wrap x=wrap64 x:=by rw[IntKind.wrap_i64];unfold wrap64;omega
theorem zo0{fn:Func}{p:Tmp}{R:Ending→World→Prop}{a:Act}{w:World}{B:Nat}{x:Ch}(hf:fn.results= #[.cell p 127])(h:w.heap[B]? =some (.cells (zch x).toArray 127 (0,0)))(h2:a.tmps.getD p undef= .pointer (some ⟨B,0,none⟩))(hd:a.defers=[])
 (hR:R (.returned (chV x)) w):bodyPost Tryz.prog fn R Exit.ret a w:=
 bodyPost_ret (results_cell_row hf _ _ B 127 (zch x).toArray (0,0) _ h2 h Tryz.underlying127 rfl (by kernel_rfl)) hd hR
theorem zlh(w:World)(o1 o2:Obj):((w.alloc o1).alloc o2).drew.heap[w.heap.size+1]? =some o2:=by
 have h:((w.alloc o1).alloc o2).heap[(w.alloc o1).heap.size]? =some o2:=heap_alloc_new (w.alloc o1) o2
 have e:(w.alloc o1).heap.size=w.heap.size+1:=by simp
 rw[e]at h
 exact h
theorem zz5{x y:Ch}(h:x=y):Ending.returned (chV x)= .returned (chV y):=by rw[h]
theorem qdj(x:Ch)(by_ number:Int)(w:World)(hw:wrB by_=true)(ht:zcd x.gone by_=false)(h0: -9223372036854775808≤x.gone)(h1:x.gone≤9223372036854775807):
 Calls Tryz.prog 235 #[chV x,.int .i64 by_,.int .i64 number] w fun e w'=>e= .returned (chV (zf1 by_ number x))∧Below w.heap.size w w':=by
 have HO:Hid (bits .or .i64 x.gone (wrap64 (2 ^ by_.toNat))=x.gone+2 ^ by_.toNat):=by
  show bits .or .i64 x.gone (wrap64 (2 ^ by_.toNat))=_
  rw[←zyc]
  exact or_bit x.gone by_ hw ht h0 h1
 have hb:0≤by_∧by_≤3:=by simpa [wrB]using hw
 obtain⟨hb0,hb3⟩:=hb
 have HB:Hid (∀o1 o2,Below w.heap.size w ((w.alloc o1).alloc o2)):=fun o1 o2=>((Below.refl _ _).alloc (Nat.le_refl _) _).alloc (by simp) _
 by_cases hn:number=za0
 ·have HM:Hid (zf1 by_ number x=⟨x.c,x.by_,x.no,x.k,x.inn,x.out,x.gone+2 ^ by_.toNat⟩):=by
   show zf1 by_ number x=_
   rw[zf1,zaj,if_neg (by simp[hn])]
  have hn':(number != 1073741824)=false:=by simp[hn]
  obtain⟨c,b,no,k,i,o,g⟩:=x
  simp only at HO HM
  clear hn hw ht h0 h1
  go_enter Tryz.func235,Tryz.ntmps235
  go_wp2
  go_region
  rw[HO.out]
  go_wp2
  exact zo0 (x:=⟨c,b,no,k,i,o,g+2 ^ by_.toNat⟩) rfl (zlh w _ _) rfl rfl ⟨zz5 HM.out.symm,(HB.out _ _).drew⟩
 ·have hn':(number != 1073741824)=true:=by simp;exact hn
  by_cases ho:x.out=0
  ·have HM:Hid (zf1 by_ number x=⟨x.c,x.by_,x.no,x.k,x.inn,number,x.gone+2 ^ by_.toNat⟩):=by
    show zf1 by_ number x=_
    rw[zf1,zaj,if_pos ⟨hn,.inl ho⟩]
   have ho':(x.out==0)=true:=by simp[ho]
   obtain⟨c,b,no,k,i,o,g⟩:=x
   simp only at HO HM ho'
   clear hn ho hw ht h0 h1
   go_enter Tryz.func235,Tryz.ntmps235
   go_wp2
   go_region
   rw[HO.out]
   go_wp2
   exact zo0 (x:=⟨c,b,no,k,i,number,g+2 ^ by_.toNat⟩) rfl (zlh w _ _) rfl rfl ⟨zz5 HM.out.symm,(HB.out _ _).drew⟩
  ·have ho':(x.out==0)=false:=by simp[ho]
   by_cases hl:number<x.out
   ·have HM:Hid (zf1 by_ number x=⟨x.c,x.by_,x.no,x.k,x.inn,number,x.gone+2 ^ by_.toNat⟩):=by
     show zf1 by_ number x=_
     rw[zf1,zaj,if_pos ⟨hn,.inr hl⟩]
    obtain⟨c,b,no,k,i,o,g⟩:=x
    simp only at HO HM ho' hl
    clear hn ho hw ht h0 h1
    go_enter Tryz.func235,Tryz.ntmps235
    go_wp2
    go_region
    rw[HO.out]
    go_wp2
    exact zo0 (x:=⟨c,b,no,k,i,number,g+2 ^ by_.toNat⟩) rfl (zlh w _ _) rfl rfl ⟨zz5 HM.out.symm,(HB.out _ _).drew⟩
   ·have HM:Hid (zf1 by_ number x=⟨x.c,x.by_,x.no,x.k,x.inn,x.out,x.gone+2 ^ by_.toNat⟩):=by
     show zf1 by_ number x=_
     rw[zf1,zaj,if_neg (fun e=>by rcases e.2 with e|e;exact ho e;exact hl e)]
    obtain⟨c,b,no,k,i,o,g⟩:=x
    simp only at HO HM ho' hl
    clear hn ho hw ht h0 h1
    go_enter Tryz.func235,Tryz.ntmps235
    go_wp2
    go_region
    rw[HO.out]
    go_wp2
    exact zo0 (x:=⟨c,b,no,k,i,o,g+2 ^ by_.toNat⟩) rfl (zlh w _ _) rfl rfl ⟨zz5 HM.out.symm,(HB.out _ _).drew⟩
def mk1(d:Dd)(number:Int)(p q i:Nat)(x:Ch):Ch:=if p≤i∧i<q∧za5 d.seen d.by_ x=true then zf1 d.by_ number x else x
def zq8(d:Dd)(number:Int)(p q:Nat):Nat→List Ch→List Ch
 |_,[]=>[]
 |i,x::r=>mk1 d number p q i x::zq8 d number p q (i+1) r
theorem zdw(d:Dd)(number:Int)(p q:Nat):∀(i:Nat) (l:List Ch),(zq8 d number p q i l).length=l.length
 |_,[]=>rfl
 |i,x::r=>by rw[zq8,List.length_cons,zdw d number p q (i+1) r,List.length_cons]
theorem zjt(d:Dd)(number:Int)(p q:Nat):∀(i j:Nat) (l:List Ch),(zq8 d number p q i l)[j]? =l[j]?.map (mk1 d number p q (i+j))
 |_,_,[]=>by simp[zq8]
 |i,0,x::r=>by simp[zq8]
 |i,j+1,x::r=>by
  rw[zq8,List.getElem?_cons_succ,zjt d number p q (i+1) j r,List.getElem?_cons_succ,show i+1+j=i+(j+1) by omega]
theorem qeq(d:Dd)(number:Int)(p i:Nat)(l:List Ch):zq8 d number p p i l=l:=by
 apply List.ext_getElem?
 intro j
 rw[zjt]
 cases l[j]? with
 |none=>rfl
 |some x=>
  rw[Option.map_some,mk1,if_neg (by omega)]
theorem mixL_set(d:Dd)(number:Int)(p k:Nat)(l:List Ch)(hp:p≤k)(hk:k<l.length)(hs:za5 d.seen d.by_ l[k]=true):(zq8 d number p k 0 l).set k (zf1 d.by_ number l[k])=zq8 d number p (k+1) 0 l:=by
 apply List.ext_getElem?
 intro j
 rw[zjt,List.getElem?_set,zdw]
 by_cases h:k=j
 ·subst h
  rw[if_pos rfl,if_pos hk,List.getElem?_eq_getElem hk,Option.map_some,mk1,if_pos ⟨by omega,by omega,hs⟩]
 ·rw[if_neg h,zjt]
  cases l[j]? with
  |none=>rfl
  |some x=>
   rw[Option.map_some,Option.map_some,mk1,mk1]
   congr 1
   by_cases hc:p≤0+j∧0+j<k∧za5 d.seen d.by_ x=true
   ·rw[if_pos hc,if_pos ⟨hc.1,by omega,hc.2.2⟩]
   ·rw[if_neg hc,if_neg (fun e=>hc ⟨e.1,by omega,e.2.2⟩)]
theorem qep(d:Dd)(number:Int)(p k:Nat)(l:List Ch)(hk:k<l.length)(hs:za5 d.seen d.by_ l[k]=false):zq8 d number p k 0 l=zq8 d number p (k+1) 0 l:=by
 apply List.ext_getElem?
 intro j
 rw[zjt,zjt]
 cases hx:l[j]? with
 |none=>rfl
 |some x=>
  rw[Option.map_some,Option.map_some,mk1,mk1]
  congr 1
  by_cases hc:p≤0+j∧0+j<k∧za5 d.seen d.by_ x=true
  ·rw[if_pos hc,if_pos ⟨hc.1,by omega,hc.2.2⟩]
  ·rw[if_neg hc,if_neg (fun e=> ?_)]
   by_cases hj:j=k
   ·subst hj
    rw[List.getElem?_eq_getElem hk]at hx
    obtain rfl:=Option.some.inj hx
    rw[hs]at e
    exact absurd e.2.2 (by simp)
   ·exact hc ⟨e.1,by omega,e.2.2⟩
theorem zlm(l:List Ch)(seen by_:Int){i j:Nat}(h:i≤j):cnt (l.take i) seen by_≤cnt (l.take j) seen by_:=by
 have e:l.take i=(l.take j).take i:=by rw[List.take_take,Nat.min_eq_left h]
 rw[e]
 exact zy0 _ _ _ _
theorem zyq{d:Dd}{number:Int}{p q:Nat}{l:List Ch}(hp:cnt (l.take p) d.seen d.by_=d.at_)(hq:cnt (l.take q) d.seen d.by_=d.at_+d.many):
 ∀(suf pre:List Ch),l=pre++suf→zc0 d number (cnt pre d.seen d.by_) suf=zq8 d number p q pre.length suf
 |[],pre,_=>rfl
 |x::r,pre,hl=>by
  have hpre:l.take pre.length=pre:=by rw[hl,List.take_left]
  have hnext:l=(pre++[x])++r:=by rw[hl];simp
  have hpre1:l.take (pre.length+1)=pre++[x]:=by
   have h2:(pre++[x]).length=pre.length+1:=by simp
   rw[hnext,←h2,List.take_left]
  have ih:=zyq (number:=number) hp hq r (pre++[x]) hnext
  rw[List.length_append,List.length_singleton]at ih
  rw[zq8,←ih,zc0,mk1]
  have hsn:=zig pre x d.seen d.by_
  by_cases hs:za5 d.seen d.by_ x=true
  ·rw[if_pos hs]at hsn⊢
   rw[hsn]
   congr 1
   have a1:d.at_≤cnt pre d.seen d.by_↔p≤pre.length:=by
    constructor
    ·intro h
     by_cases hc:p≤pre.length
     ·exact hc
     ·have:=zlm l d.seen d.by_ (show pre.length+1≤p by omega)
      rw[hpre1,hp,hsn]at this
      omega
    ·intro h
     have:=zlm l d.seen d.by_ h
     rw[hpre,hp]at this
     exact this
   have a2:cnt pre d.seen d.by_<d.at_+d.many↔pre.length<q:=by
    constructor
    ·intro h
     by_cases hc:pre.length<q
     ·exact hc
     ·have:=zlm l d.seen d.by_ (show q≤pre.length by omega)
      rw[hpre,hq]at this
      omega
    ·intro h
     have:=zlm l d.seen d.by_ (show pre.length+1≤q by omega)
     rw[hpre1,hq,hsn]at this
     omega
   by_cases hc:d.at_≤cnt pre d.seen d.by_∧cnt pre d.seen d.by_<d.at_+d.many
   ·rw[if_pos hc,if_pos ⟨a1.1 hc.1,a2.1 hc.2,hs⟩]
   ·rw[if_neg hc,if_neg (fun e=>hc ⟨a1.2 e.1,a2.2 e.2.1⟩)]
  ·rw[if_neg hs]at hsn⊢
   rw[hsn,Int.add_zero,if_neg (fun e=>hs e.2.2)]
theorem zw9{d:Dd}{number:Int}{p q:Nat}{l:List Ch}(h0:0≤d.at_)(h1:0≤d.many)(hp:za8 d.seen d.by_ d.at_.toNat l=some p)(hq:za8 d.seen d.by_ (d.at_+d.many).toNat l=some q):zc0 d number 0 l=zq8 d number p q 0 l:=by
 obtain⟨_,_,_,a4⟩:=zd5 hp
 obtain⟨_,_,_,b4⟩:=zd5 hq
 have ha:=zix (l.take p) d.seen d.by_
 have hb:=zix (l.take q) d.seen d.by_
 have e1:cnt (l.take p) d.seen d.by_=d.at_:=by omega
 have e2:cnt (l.take q) d.seen d.by_=d.at_+d.many:=by omega
 exact zyq e1 e2 l [] rfl
theorem qed{d:Dd}{p q:Nat}{l:List Ch}(h0:0≤d.at_)(h1:0≤d.many)(hp:za8 d.seen d.by_ d.at_.toNat l=some p)(hq:za8 d.seen d.by_ (d.at_+d.many).toNat l=some q):d.many=0∨p≤q:=by
 obtain⟨_,_,_,a4⟩:=zd5 hp
 obtain⟨_,_,_,b4⟩:=zd5 hq
 have ha:=zix (l.take p) d.seen d.by_
 have hb:=zix (l.take q) d.seen d.by_
 by_cases h:p≤q
 ·exact .inr h
 ·have:=zlm l d.seen d.by_ (show q≤p by omega)
  exact .inl (by omega)
theorem zz0:∀(l:List Ch) (i:Nat) (y:Ch),i<l.length→
 (((((((zaq l).set (i*7) (.int .u8 y.c)).set (i*7+1) (.int .i64 y.by_)).set (i*7+2) (.int .i64 y.no)).set (i*7+3) (.int .i64 y.k)).set (i*7+4) (.int .i64 y.inn)).set (i*7+5) (.int .i64 y.out)).set (i*7+6) (.int .i64 y.gone)=zaq (l.set i y):=by
 intro l i y hi
 have e:l=l.take i++(l[i]::l.drop (i+1)):=by rw[←List.drop_eq_getElem_cons hi,List.take_append_drop]
 have e2:l.set i y=l.take i++(y::l.drop (i+1)):=by
  conv=>lhs;rw[e]
  rw[List.set_append_right _ _ (by rw[List.length_take];omega),List.length_take,show i-min i l.length=0 by omega,List.set_cons_zero]
 have e3:zaq l=zaq (l.take i)++(zch l[i]++zaq (l.drop (i+1))):=by
  conv=>lhs;rw[e]
  rw[zfe,zaq]
 rw[e2,zfe,zaq,e3]
 have:=zu2 (zaq (l.take i)) (zch l[i]++zaq (l.drop (i+1))) y (i*7) (by rw[zdd,List.length_take];congr 1;omega) (by rw[List.length_append];show 7≤7+_;omega)
 rw[this,List.append_assoc]
 congr 2
end Go.Proofs.YtcbnnfeelhlapadGreatDoor