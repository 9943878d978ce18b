/-
  FPutW, FTaken, FTakeP, FTakeW, FDo.
-/
import Derived.Test.YtcbnnfeelhlapadGreatDoorFPut
namespace Go.Proofs.YtcbnnfeelhlapadGreatDoor
set_option maxHeartbeats 800000
set_option maxRecDepth 20000
open Go.RowKit
variable {by_:Int} {l:List Ch} {k:Nat}
theorem qe0(h:k<l.length)(hi:l[k].inn=za3)(hb:l[k].by_≠by_):zbm by_ (l.drop k)=zbm by_ (l.drop (k+1))+1:=by
 rw[List.drop_eq_getElem_cons h,zbm,if_pos ⟨hi,hb⟩]
theorem zoi(h:∀hk:k<l.length,¬(l[k].inn=za3/\l[k].by_≠by_)):zbm by_ (l.drop k)=0:=by
 by_cases hk:k<l.length
 ·rw[List.drop_eq_getElem_cons hk,zbm,if_neg (h hk)]
 rw[List.drop_eq_nil_of_le (by omega)]
 rfl
theorem zkg{wk:World}{va vn vb:Value}{a n b:List Ch}(ha:Lst wk va a)(hn:Lst wk vn n)(hb:Lst wk vb b):zqg (wk.alloc (.cells #[va,vn,vb] 91)) wk.heap.size va vn vb a n b:=by
 have hbl:Below wk.heap.size wk (wk.alloc (.cells #[va,vn,vb] 91)):=(Below.refl _ _).alloc (Nat.le_refl _) _
 refine⟨by simp,?_,?_,?_,ha.below hbl,hn.below hbl,hb.below hbl⟩<;>simp[go_sem]
theorem put_any(l:List Ch)(d:Dd)(number:Int)(v:Value)(w:World)(h:Lst w v l)(hl:l.length<=1000)(hc:za9 d=0)(hk:d.kind=1)(hn:d.at_<=cnt l d.seen d.by_):
 Calls Tryz.prog 219 #[v,ddV d,.int .i64 number] w fun e w'=>∃v',e= .returned v'/\Own w' w.heap.size v' (doL l d number)/\Below w.heap.size w w':=by
 have HI:Hid _:=zdb (d:=d) h
 obtain⟨ad,cap,rfl,hcap⟩:=h.len
 obtain⟨_,_,_,_,_,_,p1,p2,_,_,p5,_⟩:=zah hc
 have HD:Hid (∀p,zaa d.seen d.by_ d.at_.toNat l=some p->doL l d number=l.take (p+zbm d.by_ (l.drop p))++(zez d number++l.drop (p+zbm d.by_ (l.drop p)))):=by
  intro p hp
  have:zb7 l d=p+zbm d.by_ (l.drop p):=by rw[zb7,hp]
  rw[doL,if_pos hk,this]
 have ht:=(p5 hk).2.1
 obtain⟨kind,by_,no,seen,at_,many,text⟩:=d
 simp only at hn p1 p2 ht HD
 obtain rfl:kind=1:=hk
 clear h hc p5
 go_enter Tryz.func219,Tryz.ntmps219
 go_wp2_with fail
 refine(zmn HI.out.lst hl seen by_ at_ p1 hn).mono ?_
 rintro e w1 ⟨p,rfl,hp,hpl,hb⟩
 have HP:Hid _:=HD.out p hp
 have HI1:Hid _:=HI.out.after hb
 clear hb HI HD hp
 go_wp2
 go_loopw [7] (fun i wr=>∃k:Nat,k<=l.length/\i= .int .i64 k/\Hid (k+zbm by_ (l.drop k)=p+zbm by_ (l.drop p))/\Hid (zhd w w.heap.size ⟨1,by_,no,seen,at_,many,text⟩ (.slice ad l.length cap) l wr)) (fun i _=>l.length-(intOf i).toNat)
 case atStart=>exact⟨p,hpl,rfl,rfl,HI1⟩
 obtain⟨k,hk,rfl,HS,HK⟩:=hrel
 clear HI1
 by_cases hlt:k<l.length
 ·have hxx:∃x,x=l[k]:=⟨_,rfl⟩
  obtain⟨x,hx⟩:=hxx
  have HX:Hid _:=hx
  obtain⟨b,off,rfl,hr⟩:∃b off,ad=some ⟨b,off,none⟩/\Row wr b off l:=by
   obtain⟨a',len',cap',he,h1,h2,h3⟩:=HK.out.lst
   simp only[Value.slice.injEq]at he
   obtain⟨rfl,rfl,rfl⟩:=he
   rcases h3 with h3|⟨b,off,h3,hr⟩
   ·omega
   exact⟨b,off,h3,hr⟩
  have hat:=hr.at_ k hlt
  rw[<-hx]at hat
  obtain⟨g0,g1,g2,g3,g4,g5,g6⟩:=hat
  obtain⟨_,c0,c1,c2,c3,c4,c5,c6⟩:=HK.out.at_
  simp only[Nat.zero_add]at c0 c1 c2 c3 c4 c5 c6
  clear hr hx
  by_cases hi:x.inn=za3
  ·have hi':(x.inn==1073741824)=true:=by simp[hi]
   by_cases hby:x.by_=by_
   ·have hby':(x.by_ != by_)=false:=by simp[hby]
    have HE:Hid (zbm by_ (l.drop k)=0):=zoi (fun _ e=>e.2 (by rw[<-HX.out];exact hby))
    clear hi hby
    go_wp2
    go_quiet (fail)
    go_wp2
    clear g0 g1 g2 g3 g4 g5 g6 c0 c1 c2 c3 c4 c5 c6
    generalize hw3:wr.drewN nq=w3 at*
    have HK3:Hid (zhd w w.heap.size ⟨1,by_,no,seen,at_,many,text⟩ (.slice (some ⟨b,off,none⟩) l.length cap) l w3):=by
     show zhd _ _ _ _ _ _
     rw[<-hw3]
     exact HK.out.after (below_drewN (Below.refl _ _) _)
    have HF:Hid (doL l ⟨1,by_,no,seen,at_,many,text⟩ number=l.take k++(zez ⟨1,by_,no,seen,at_,many,text⟩ number++l.drop k)):=by
     show doL _ _ _=_
     rw[HP.out,<-HS.out,HE.out,Nat.add_zero]
    obtain⟨aa,na,ca,hva,hvl⟩:∃aa na ca,(∀w,(Instr.sliceAt 91 (.slice (some ⟨b,off,none⟩) l.length cap) none (some (.int .i64 k)) none).run Tryz.prog w= .ok (.slice aa na ca) w)/\∀wk,Lst wk (.slice (some ⟨b,off,none⟩) l.length cap) l->Lst wk (.slice aa na ca) (l.take k):=⟨_,_,_,zeb _ l.length cap k (by omega),fun wk h=>zia h hk⟩
    obtain⟨ab,nb,cb,hvb,hvd⟩:∃ab nb cb,(∀w,(Instr.sliceAt 91 (.slice (some ⟨b,off,none⟩) l.length cap) (some (.int .i64 k)) none none).run Tryz.prog w= .ok (.slice ab nb cb) w)/\∀wk,Lst wk (.slice (some ⟨b,off,none⟩) l.length cap) l->Lst wk (.slice ab nb cb) (l.drop k):=⟨_,_,_,zec _ l.length cap k hk,fun wk h=>zib h hk⟩
    have HVL:Hid _:=hvl
    have HVD:Hid _:=hvd
    have HVA:Hid _:=hva
    have HVB:Hid _:=hvb
    clear hvl hvd hva hvb HK HS HP HE hw3
    refine wrs (fun wk=>zhd w w.heap.size ⟨1,by_,no,seen,at_,many,text⟩ (.slice (some ⟨b,off,none⟩) l.length cap) l wk) (fun i=>i==5||i==9||i==10) (fun wk=>zhd w w.heap.size ⟨1,by_,no,seen,at_,many,text⟩ (.slice (some ⟨b,off,none⟩) l.length cap) l wk) (by kernel_rfl) (by kernel_rfl) (by kernel_rfl) (fun _ h=>h) HK3.out.drew ?_
    iterate 2 (refine wss rfl (fun K hK=> ?_);go_simp;refine⟨_,fun _ _=>rfl,hK _ ?_⟩;clear hK K)
    refine wss rfl (fun K hK=> ?_)
    rw[if_pos (by rfl)]
    refine⟨.slice aa na ca,fun wk _=>zd1 rfl (HVA.out wk),hK _ ?_⟩
    clear hK K
    refine wss rfl (fun K hK=> ?_)
    go_simp
    refine⟨ddV ⟨1,by_,no,seen,at_,many,text⟩,fun wk hwk=> ?_,hK _ ?_⟩
    ·obtain⟨_,c0,c1,c2,c3,c4,c5,c6⟩:=hwk.at_
     simp only[Nat.zero_add]at c0 c1 c2 c3 c4 c5 c6
     go_simp
    clear hK K
    refine wss rfl (fun K hK=> ?_)
    go_simp
    refine⟨_,fun _ _=>rfl,hK _ ?_⟩
    clear hK K
    refine wsp rfl rfl (fun u=>∃a n c,u= .slice a n c) (fun u wk=>zhd w w.heap.size ⟨1,by_,no,seen,at_,many,text⟩ (.slice (some ⟨b,off,none⟩) l.length cap) l wk/\Lst wk u (zez ⟨1,by_,no,seen,at_,many,text⟩ number)) ⟨_,none,0,0,rfl⟩ (fun _ _ h=>h.1) (fun wk hwk=> ?_) (fun vn hvn=> ?_)
    ·go_simp
     refine(zwx ⟨1,by_,no,seen,at_,many,text⟩ number wk (by simp only;omega)).mono ?_
     rintro e w4 ⟨u,rfl,ho,hb⟩
     obtain⟨a4,c4,rfl,_⟩:=ho.lst.len
     exact⟨_,rfl,⟨_,_,_,rfl⟩,hwk.after hb,ho.lst⟩
    obtain⟨an,nn,cn,rfl⟩:=hvn
    iterate 2 (refine wss rfl (fun K hK=> ?_);go_simp;refine⟨_,fun _ _=>rfl,hK _ ?_⟩;clear hK K)
    refine wss rfl (fun K hK=> ?_)
    rw[if_pos (by rfl)]
    refine⟨.slice ab nb cb,fun wk _=>zd1 rfl (HVB.out wk),hK _ ?_⟩
    clear hK K
    refine wsp rfl rfl (fun u=>∃g,u= .slice (some ⟨g,0,none⟩) 3 3) (fun u wk=>∃g,u= .slice (some ⟨g,0,none⟩) 3 3/\zhd w w.heap.size ⟨1,by_,no,seen,at_,many,text⟩ (.slice (some ⟨b,off,none⟩) l.length cap) l wk/\zqg wk g (.slice aa na ca) (.slice an nn cn) (.slice ab nb cb) (l.take k) (zez ⟨1,by_,no,seen,at_,many,text⟩ number) (l.drop k)) ⟨_,0,rfl⟩ (fun _ _ h=>by obtain⟨_,_,h,_⟩:=h;exact h) (fun wk hwk=> ?_) (fun vs hvs=> ?_)
    ·go_simp
     exact⟨⟨_,rfl⟩,_,rfl,hwk.1.after ((Below.refl _ _).alloc (Nat.le_refl _) _),zkg (HVL.out _ hwk.1.lst) hwk.2 (HVD.out _ hwk.1.lst)⟩
    obtain⟨g,rfl⟩:=hvs
    refine wsp rfl rfl (fun _=>True) (fun u wk=>zhd w w.heap.size ⟨1,by_,no,seen,at_,many,text⟩ (.slice (some ⟨b,off,none⟩) l.length cap) l wk/\Own wk w.heap.size u (l.take k++(zez ⟨1,by_,no,seen,at_,many,text⟩ number++l.drop k))) ⟨.int .i64 0,trivial⟩ (fun _ _ h=>h.1) (fun wk hwk=> ?_) (fun vr _=> ?_)
    ·obtain⟨g',hg,hm,h3⟩:=hwk
     simp only[Value.slice.injEq,Option.some.injEq,Addr.mk.injEq,and_true]at hg
     subst hg
     go_simp
     refine(zjh g _ _ _ _ _ _ wk h3 ?_).mono ?_
     ·rw[List.length_take,List.length_drop,zg7];simp only;omega
     rintro e w5 ⟨u,rfl,ho,hb⟩
     exact⟨u,rfl,hm.after hb,by have:=ho.mono (base':=w.heap.size) hm.below.size;rwa [List.append_assoc]at this⟩
    refine wss rfl (fun K hK=> ?_)
    go_simp
    refine⟨_,fun _ _=>rfl,hK _ ?_⟩
    clear hK K
    refine wsn (fun w6 hw6=> ?_)
    have H6:Hid _:=hw6
    clear hw6
    go_wp2
    go_ret
    exact⟨_,rfl,by rw[HF.out];exact H6.out.2,H6.out.1.below⟩
   have hby':(x.by_ != by_)=true:=by simp[hby]
   have HE:Hid _:=qe0 hlt (by rw[<-HX.out];exact hi) (by rw[<-HX.out];exact hby)
   clear hi hby
   go_wp2
   go_quiet (fail)
   go_wp2
   go_roundw
   case rel=>exact⟨k+1,by omega,by go_num,by show _=_;rw[<-HS.out,HE.out];omega,HK.out.after (below_drewN (Below.refl _ _) _)⟩
   case measure=>simp[intOf];omega
  have hi':(x.inn==1073741824)=false:=by simp;exact hi
  have HE:Hid (zbm by_ (l.drop k)=0):=zoi (fun _ e=>hi (by rw[HX.out];exact e.1))
  clear hi
  go_wp2
  go_quiet (fail)
  go_wp2
  clear g0 g1 g2 g3 g4 g5 g6 c0 c1 c2 c3 c4 c5 c6
  generalize hw3:wr.drewN nq=w3 at*
  have HK3:Hid (zhd w w.heap.size ⟨1,by_,no,seen,at_,many,text⟩ (.slice (some ⟨b,off,none⟩) l.length cap) l w3):=by
   show zhd _ _ _ _ _ _
   rw[<-hw3]
   exact HK.out.after (below_drewN (Below.refl _ _) _)
  have HF:Hid (doL l ⟨1,by_,no,seen,at_,many,text⟩ number=l.take k++(zez ⟨1,by_,no,seen,at_,many,text⟩ number++l.drop k)):=by
   show doL _ _ _=_
   rw[HP.out,<-HS.out,HE.out,Nat.add_zero]
  obtain⟨aa,na,ca,hva,hvl⟩:∃aa na ca,(∀w,(Instr.sliceAt 91 (.slice (some ⟨b,off,none⟩) l.length cap) none (some (.int .i64 k)) none).run Tryz.prog w= .ok (.slice aa na ca) w)/\∀wk,Lst wk (.slice (some ⟨b,off,none⟩) l.length cap) l->Lst wk (.slice aa na ca) (l.take k):=⟨_,_,_,zeb _ l.length cap k (by omega),fun wk h=>zia h hk⟩
  obtain⟨ab,nb,cb,hvb,hvd⟩:∃ab nb cb,(∀w,(Instr.sliceAt 91 (.slice (some ⟨b,off,none⟩) l.length cap) (some (.int .i64 k)) none none).run Tryz.prog w= .ok (.slice ab nb cb) w)/\∀wk,Lst wk (.slice (some ⟨b,off,none⟩) l.length cap) l->Lst wk (.slice ab nb cb) (l.drop k):=⟨_,_,_,zec _ l.length cap k hk,fun wk h=>zib h hk⟩
  have HVL:Hid _:=hvl
  have HVD:Hid _:=hvd
  have HVA:Hid _:=hva
  have HVB:Hid _:=hvb
  clear hvl hvd hva hvb HK HS HP HE hw3
  refine wrs (fun wk=>zhd w w.heap.size ⟨1,by_,no,seen,at_,many,text⟩ (.slice (some ⟨b,off,none⟩) l.length cap) l wk) (fun i=>i==5||i==9||i==10) (fun wk=>zhd w w.heap.size ⟨1,by_,no,seen,at_,many,text⟩ (.slice (some ⟨b,off,none⟩) l.length cap) l wk) (by kernel_rfl) (by kernel_rfl) (by kernel_rfl) (fun _ h=>h) HK3.out.drew ?_
  iterate 2 (refine wss rfl (fun K hK=> ?_);go_simp;refine⟨_,fun _ _=>rfl,hK _ ?_⟩;clear hK K)
  refine wss rfl (fun K hK=> ?_)
  rw[if_pos (by rfl)]
  refine⟨.slice aa na ca,fun wk _=>zd1 rfl (HVA.out wk),hK _ ?_⟩
  clear hK K
  refine wss rfl (fun K hK=> ?_)
  go_simp
  refine⟨ddV ⟨1,by_,no,seen,at_,many,text⟩,fun wk hwk=> ?_,hK _ ?_⟩
  ·obtain⟨_,c0,c1,c2,c3,c4,c5,c6⟩:=hwk.at_
   simp only[Nat.zero_add]at c0 c1 c2 c3 c4 c5 c6
   go_simp
  clear hK K
  refine wss rfl (fun K hK=> ?_)
  go_simp
  refine⟨_,fun _ _=>rfl,hK _ ?_⟩
  clear hK K
  refine wsp rfl rfl (fun u=>∃a n c,u= .slice a n c) (fun u wk=>zhd w w.heap.size ⟨1,by_,no,seen,at_,many,text⟩ (.slice (some ⟨b,off,none⟩) l.length cap) l wk/\Lst wk u (zez ⟨1,by_,no,seen,at_,many,text⟩ number)) ⟨_,none,0,0,rfl⟩ (fun _ _ h=>h.1) (fun wk hwk=> ?_) (fun vn hvn=> ?_)
  ·go_simp
   refine(zwx ⟨1,by_,no,seen,at_,many,text⟩ number wk (by simp only;omega)).mono ?_
   rintro e w4 ⟨u,rfl,ho,hb⟩
   obtain⟨a4,c4,rfl,_⟩:=ho.lst.len
   exact⟨_,rfl,⟨_,_,_,rfl⟩,hwk.after hb,ho.lst⟩
  obtain⟨an,nn,cn,rfl⟩:=hvn
  iterate 2 (refine wss rfl (fun K hK=> ?_);go_simp;refine⟨_,fun _ _=>rfl,hK _ ?_⟩;clear hK K)
  refine wss rfl (fun K hK=> ?_)
  rw[if_pos (by rfl)]
  refine⟨.slice ab nb cb,fun wk _=>zd1 rfl (HVB.out wk),hK _ ?_⟩
  clear hK K
  refine wsp rfl rfl (fun u=>∃g,u= .slice (some ⟨g,0,none⟩) 3 3) (fun u wk=>∃g,u= .slice (some ⟨g,0,none⟩) 3 3/\zhd w w.heap.size ⟨1,by_,no,seen,at_,many,text⟩ (.slice (some ⟨b,off,none⟩) l.length cap) l wk/\zqg wk g (.slice aa na ca) (.slice an nn cn) (.slice ab nb cb) (l.take k) (zez ⟨1,by_,no,seen,at_,many,text⟩ number) (l.drop k)) ⟨_,0,rfl⟩ (fun _ _ h=>by obtain⟨_,_,h,_⟩:=h;exact h) (fun wk hwk=> ?_) (fun vs hvs=> ?_)
  ·go_simp
   exact⟨⟨_,rfl⟩,_,rfl,hwk.1.after ((Below.refl _ _).alloc (Nat.le_refl _) _),zkg (HVL.out _ hwk.1.lst) hwk.2 (HVD.out _ hwk.1.lst)⟩
  obtain⟨g,rfl⟩:=hvs
  refine wsp rfl rfl (fun _=>True) (fun u wk=>zhd w w.heap.size ⟨1,by_,no,seen,at_,many,text⟩ (.slice (some ⟨b,off,none⟩) l.length cap) l wk/\Own wk w.heap.size u (l.take k++(zez ⟨1,by_,no,seen,at_,many,text⟩ number++l.drop k))) ⟨.int .i64 0,trivial⟩ (fun _ _ h=>h.1) (fun wk hwk=> ?_) (fun vr _=> ?_)
  ·obtain⟨g',hg,hm,h3⟩:=hwk
   simp only[Value.slice.injEq,Option.some.injEq,Addr.mk.injEq,and_true]at hg
   subst hg
   go_simp
   refine(zjh g _ _ _ _ _ _ wk h3 ?_).mono ?_
   ·rw[List.length_take,List.length_drop,zg7];simp only;omega
   rintro e w5 ⟨u,rfl,ho,hb⟩
   exact⟨u,rfl,hm.after hb,by have:=ho.mono (base':=w.heap.size) hm.below.size;rwa [List.append_assoc]at this⟩
  refine wss rfl (fun K hK=> ?_)
  go_simp
  refine⟨_,fun _ _=>rfl,hK _ ?_⟩
  clear hK K
  refine wsn (fun w6 hw6=> ?_)
  have H6:Hid _:=hw6
  clear hw6
  go_wp2
  go_ret
  exact⟨_,rfl,by rw[HF.out];exact H6.out.2,H6.out.1.below⟩
 have HE:Hid (zbm by_ (l.drop k)=0):=zoi (fun h=>absurd h hlt)
 have hlt':decide ((k:Int)<(l.length:Int))=false:=decide_eq_false (by omega)
 go_wp2
 go_quiet (fail)
 go_wp2
 generalize hw3:wr.drewN nq=w3 at*
 have HK3:Hid (zhd w w.heap.size ⟨1,by_,no,seen,at_,many,text⟩ (.slice ad l.length cap) l w3):=by
  show zhd _ _ _ _ _ _
  rw[<-hw3]
  exact HK.out.after (below_drewN (Below.refl _ _) _)
 have HF:Hid (doL l ⟨1,by_,no,seen,at_,many,text⟩ number=l.take k++(zez ⟨1,by_,no,seen,at_,many,text⟩ number++l.drop k)):=by
  show doL _ _ _=_
  rw[HP.out,<-HS.out,HE.out,Nat.add_zero]
 obtain⟨aa,na,ca,hva,hvl⟩:∃aa na ca,(∀w,(Instr.sliceAt 91 (.slice ad l.length cap) none (some (.int .i64 k)) none).run Tryz.prog w= .ok (.slice aa na ca) w)/\∀wk,Lst wk (.slice ad l.length cap) l->Lst wk (.slice aa na ca) (l.take k):=⟨_,_,_,zeb _ l.length cap k (by omega),fun wk h=>zia h hk⟩
 obtain⟨ab,nb,cb,hvb,hvd⟩:∃ab nb cb,(∀w,(Instr.sliceAt 91 (.slice ad l.length cap) (some (.int .i64 k)) none none).run Tryz.prog w= .ok (.slice ab nb cb) w)/\∀wk,Lst wk (.slice ad l.length cap) l->Lst wk (.slice ab nb cb) (l.drop k):=⟨_,_,_,zec _ l.length cap k hk,fun wk h=>zib h hk⟩
 have HVL:Hid _:=hvl
 have HVD:Hid _:=hvd
 have HVA:Hid _:=hva
 have HVB:Hid _:=hvb
 clear hvl hvd hva hvb HK HS HP HE hw3
 refine wrs (fun wk=>zhd w w.heap.size ⟨1,by_,no,seen,at_,many,text⟩ (.slice ad l.length cap) l wk) (fun i=>i==5||i==9||i==10) (fun wk=>zhd w w.heap.size ⟨1,by_,no,seen,at_,many,text⟩ (.slice ad l.length cap) l wk) (by kernel_rfl) (by kernel_rfl) (by kernel_rfl) (fun _ h=>h) HK3.out.drew ?_
 iterate 2 (refine wss rfl (fun K hK=> ?_);go_simp;refine⟨_,fun _ _=>rfl,hK _ ?_⟩;clear hK K)
 refine wss rfl (fun K hK=> ?_)
 rw[if_pos (by rfl)]
 refine⟨.slice aa na ca,fun wk _=>zd1 rfl (HVA.out wk),hK _ ?_⟩
 clear hK K
 refine wss rfl (fun K hK=> ?_)
 go_simp
 refine⟨ddV ⟨1,by_,no,seen,at_,many,text⟩,fun wk hwk=> ?_,hK _ ?_⟩
 ·obtain⟨_,c0,c1,c2,c3,c4,c5,c6⟩:=hwk.at_
  simp only[Nat.zero_add]at c0 c1 c2 c3 c4 c5 c6
  go_simp
 clear hK K
 refine wss rfl (fun K hK=> ?_)
 go_simp
 refine⟨_,fun _ _=>rfl,hK _ ?_⟩
 clear hK K
 refine wsp rfl rfl (fun u=>∃a n c,u= .slice a n c) (fun u wk=>zhd w w.heap.size ⟨1,by_,no,seen,at_,many,text⟩ (.slice ad l.length cap) l wk/\Lst wk u (zez ⟨1,by_,no,seen,at_,many,text⟩ number)) ⟨_,none,0,0,rfl⟩ (fun _ _ h=>h.1) (fun wk hwk=> ?_) (fun vn hvn=> ?_)
 ·go_simp
  refine(zwx ⟨1,by_,no,seen,at_,many,text⟩ number wk (by simp only;omega)).mono ?_
  rintro e w4 ⟨u,rfl,ho,hb⟩
  obtain⟨a4,c4,rfl,_⟩:=ho.lst.len
  exact⟨_,rfl,⟨_,_,_,rfl⟩,hwk.after hb,ho.lst⟩
 obtain⟨an,nn,cn,rfl⟩:=hvn
 iterate 2 (refine wss rfl (fun K hK=> ?_);go_simp;refine⟨_,fun _ _=>rfl,hK _ ?_⟩;clear hK K)
 refine wss rfl (fun K hK=> ?_)
 rw[if_pos (by rfl)]
 refine⟨.slice ab nb cb,fun wk _=>zd1 rfl (HVB.out wk),hK _ ?_⟩
 clear hK K
 refine wsp rfl rfl (fun u=>∃g,u= .slice (some ⟨g,0,none⟩) 3 3) (fun u wk=>∃g,u= .slice (some ⟨g,0,none⟩) 3 3/\zhd w w.heap.size ⟨1,by_,no,seen,at_,many,text⟩ (.slice ad l.length cap) l wk/\zqg wk g (.slice aa na ca) (.slice an nn cn) (.slice ab nb cb) (l.take k) (zez ⟨1,by_,no,seen,at_,many,text⟩ number) (l.drop k)) ⟨_,0,rfl⟩ (fun _ _ h=>by obtain⟨_,_,h,_⟩:=h;exact h) (fun wk hwk=> ?_) (fun vs hvs=> ?_)
 ·go_simp
  exact⟨⟨_,rfl⟩,_,rfl,hwk.1.after ((Below.refl _ _).alloc (Nat.le_refl _) _),zkg (HVL.out _ hwk.1.lst) hwk.2 (HVD.out _ hwk.1.lst)⟩
 obtain⟨g,rfl⟩:=hvs
 refine wsp rfl rfl (fun _=>True) (fun u wk=>zhd w w.heap.size ⟨1,by_,no,seen,at_,many,text⟩ (.slice ad l.length cap) l wk/\Own wk w.heap.size u (l.take k++(zez ⟨1,by_,no,seen,at_,many,text⟩ number++l.drop k))) ⟨.int .i64 0,trivial⟩ (fun _ _ h=>h.1) (fun wk hwk=> ?_) (fun vr _=> ?_)
 ·obtain⟨g',hg,hm,h3⟩:=hwk
  simp only[Value.slice.injEq,Option.some.injEq,Addr.mk.injEq,and_true]at hg
  subst hg
  go_simp
  refine(zjh g _ _ _ _ _ _ wk h3 ?_).mono ?_
  ·rw[List.length_take,List.length_drop,zg7];simp only;omega
  rintro e w5 ⟨u,rfl,ho,hb⟩
  exact⟨u,rfl,hm.after hb,by have:=ho.mono (base':=w.heap.size) hm.below.size;rwa [List.append_assoc]at this⟩
 refine wss rfl (fun K hK=> ?_)
 go_simp
 refine⟨_,fun _ _=>rfl,hK _ ?_⟩
 clear hK K
 refine wsn (fun w6 hw6=> ?_)
 have H6:Hid _:=hw6
 clear hw6
 go_wp2
 go_ret
 exact⟨_,rfl,by rw[HF.out];exact H6.out.2,H6.out.1.below⟩
theorem or_bit(g w:Int)(hw:wrB w=true)(h:zce g w=false)(h0: -9223372036854775808<=g)(h1:g<=9223372036854775807):bits .or .i64 g (IntKind.i64.wrap (2 ^ w.toNat))=g+2 ^ w.toNat:=by
 have hw':0<=w/\w<=3:=by simpa [wrB]using hw
 obtain⟨k,rfl⟩:=Int.eq_ofNat_of_zero_le hw'.1
 have hk:k<=3:=by omega
 have hf:=qa2 hw h h1
 have e:IntKind.i64.wrap ((2:Int) ^ (k:Int).toNat)=2 ^ k:=by
  rcases(show k=0\/k=1\/k=2\/k=3 by omega)with rfl|rfl|rfl|rfl<;>decide
 rw[zce,hw,Bool.true_and,qcc,Int.toNat_natCast]at h
 have h':¬g / 2 ^ k % 2=1:=by simpa using h
 have h2:(BitVec.ofInt 64 (2 ^ k)).toNat=2 ^ k:=by
  rcases(show k=0\/k=1\/k=2\/k=3 by omega)with rfl|rfl|rfl|rfl<;>decide
 have hz:BitVec.ofInt 64 g &&& BitVec.ofInt 64 (2 ^ k)=0#64:=by
  apply BitVec.eq_of_toNat_eq
  rw[BitVec.toNat_and,BitVec.toNat_ofInt,h2,nat_bit]
  rcases(show k=0\/k=1\/k=2\/k=3 by omega)with rfl|rfl|rfl|rfl<;>simp at h'⊢ <;>omega
 rw[e,Int.toNat_natCast]at*
 show IntKind.i64.wrap ((BitVec.ofInt 64 g ||| BitVec.ofInt 64 (2 ^ k)).toNat:Nat)=_
 rw[<-BitVec.add_eq_or_of_and_eq_zero _ _ hz,BitVec.toNat_add,h2,BitVec.toNat_ofInt,IntKind.wrap_i64]
 rcases(show k=0\/k=1\/k=2\/k=3 by omega)with rfl|rfl|rfl|rfl<;>simp at hf⊢ <;>omega
theorem zye(x:Int):IntKind.i64.wrap x=wrap64 x:=by rw[IntKind.wrap_i64];unfold wrap64;omega
theorem znz{fn:Func}{p:Tmp}{R:Ending->World->Prop}{a:Act}{w:World}{B:Nat}{x:Ch}(hf:fn.results= #[.cell p 127])(h:w.heap[B]? =some (.cells (zcd x).toArray 127 (0,0)))(h2:a.tmps.getD p undef= .pointer (some ⟨B,0,none⟩))(hd:a.defers=[])
 (hR:R (.returned (chV x)) w):bodyPost Tryz.prog fn R Exit.ret a w:=
 bodyPost_ret (results_cell_row hf _ _ B 127 (zcd x).toArray (0,0) _ h2 h Tryz.underlying127 rfl (by kernel_rfl)) hd hR
theorem zlh(w:World)(o1 o2:Obj):((w.alloc o1).alloc o2).drew.heap[w.heap.size+1]? =some o2:=by
 have h:((w.alloc o1).alloc o2).heap[(w.alloc o1).heap.size]? =some o2:=heap_alloc_new (w.alloc o1) o2
 have e:(w.alloc o1).heap.size=w.heap.size+1:=by simp
 rw[e]at h
 exact h
theorem zz7{x y:Ch}(h:x=y):Ending.returned (chV x)= .returned (chV y):=by rw[h]
theorem qdk(x:Ch)(by_ number:Int)(w:World)(hw:wrB by_=true)(ht:zce x.gone by_=false)(h0: -9223372036854775808<=x.gone)(h1:x.gone<=9223372036854775807):
 Calls Tryz.prog 235 #[chV x,.int .i64 by_,.int .i64 number] w fun e w'=>e= .returned (chV (zex by_ number x))/\Below w.heap.size w w':=by
 have HO:Hid (bits .or .i64 x.gone (wrap64 (2 ^ by_.toNat))=x.gone+2 ^ by_.toNat):=by
  show bits .or .i64 x.gone (wrap64 (2 ^ by_.toNat))=_
  rw[<-zye]
  exact or_bit x.gone by_ hw ht h0 h1
 have hb:0<=by_/\by_<=3:=by simpa [wrB]using hw
 obtain⟨hb0,hb3⟩:=hb
 have HB:Hid (∀o1 o2,Below w.heap.size w ((w.alloc o1).alloc o2)):=fun o1 o2=>((Below.refl _ _).alloc (Nat.le_refl _) _).alloc (by simp) _
 by_cases hn:number=za3
 ·have HM:Hid (zex by_ number x=⟨x.c,x.by_,x.no,x.k,x.inn,x.out,x.gone+2 ^ by_.toNat⟩):=by
   show zex by_ number x=_
   rw[zex,zal,if_neg (by simp[hn])]
  have hn':(number != 1073741824)=false:=by simp[hn]
  obtain⟨c,b,no,k,i,o,g⟩:=x
  simp only at HO HM
  clear hn hw ht h0 h1
  go_enter Tryz.func235,Tryz.ntmps235
  go_wp2
  go_region
  rw[HO.out]
  go_wp2
  exact znz (x:=⟨c,b,no,k,i,o,g+2 ^ by_.toNat⟩) rfl (zlh w _ _) rfl rfl ⟨zz7 HM.out.symm,(HB.out _ _).drew⟩
 have hn':(number != 1073741824)=true:=by simp;exact hn
 by_cases ho:x.out=0
 ·have HM:Hid (zex by_ number x=⟨x.c,x.by_,x.no,x.k,x.inn,number,x.gone+2 ^ by_.toNat⟩):=by
   show zex by_ number x=_
   rw[zex,zal,if_pos ⟨hn,.inl ho⟩]
  have ho':(x.out==0)=true:=by simp[ho]
  obtain⟨c,b,no,k,i,o,g⟩:=x
  simp only at HO HM ho'
  clear hn ho hw ht h0 h1
  go_enter Tryz.func235,Tryz.ntmps235
  go_wp2
  go_region
  rw[HO.out]
  go_wp2
  exact znz (x:=⟨c,b,no,k,i,number,g+2 ^ by_.toNat⟩) rfl (zlh w _ _) rfl rfl ⟨zz7 HM.out.symm,(HB.out _ _).drew⟩
 have ho':(x.out==0)=false:=by simp[ho]
 by_cases hl:number<x.out
 ·have HM:Hid (zex by_ number x=⟨x.c,x.by_,x.no,x.k,x.inn,number,x.gone+2 ^ by_.toNat⟩):=by
   show zex by_ number x=_
   rw[zex,zal,if_pos ⟨hn,.inr hl⟩]
  obtain⟨c,b,no,k,i,o,g⟩:=x
  simp only at HO HM ho' hl
  clear hn ho hw ht h0 h1
  go_enter Tryz.func235,Tryz.ntmps235
  go_wp2
  go_region
  rw[HO.out]
  go_wp2
  exact znz (x:=⟨c,b,no,k,i,number,g+2 ^ by_.toNat⟩) rfl (zlh w _ _) rfl rfl ⟨zz7 HM.out.symm,(HB.out _ _).drew⟩
 have HM:Hid (zex by_ number x=⟨x.c,x.by_,x.no,x.k,x.inn,x.out,x.gone+2 ^ by_.toNat⟩):=by
  show zex by_ number x=_
  rw[zex,zal,if_neg (fun e=>by rcases e.2 with e|e;exact ho e;exact hl e)]
 obtain⟨c,b,no,k,i,o,g⟩:=x
 simp only at HO HM ho' hl
 clear hn ho hw ht h0 h1
 go_enter Tryz.func235,Tryz.ntmps235
 go_wp2
 go_region
 rw[HO.out]
 go_wp2
 exact znz (x:=⟨c,b,no,k,i,o,g+2 ^ by_.toNat⟩) rfl (zlh w _ _) rfl rfl ⟨zz7 HM.out.symm,(HB.out _ _).drew⟩
variable {d:Dd} {p q:Nat} {l:List Ch}
def mk1(d:Dd)(number:Int)(p q i:Nat)(x:Ch):Ch:=if p<=i/\i<q/\za7 d.seen d.by_ x=true then zex d.by_ number x else x
def zq9(d:Dd)(number:Int)(p q:Nat):Nat->List Ch->List Ch
 |_,[]=>[]
 |i,x::r=>mk1 d number p q i x::zq9 d number p q (i+1) r
theorem zdt(d:Dd)(number:Int)(p q:Nat):∀(i:Nat) (l:List Ch),(zq9 d number p q i l).length=l.length
 |_,[]=>rfl
 |i,x::r=>by rw[zq9,List.length_cons,zdt d number p q (i+1) r,List.length_cons]
theorem zju(d:Dd)(number:Int)(p q:Nat):∀(i j:Nat) (l:List Ch),(zq9 d number p q i l)[j]? =l[j]?.map (mk1 d number p q (i+j))
 |_,_,[]=>by simp[zq9]
 |i,0,x::r=>by simp[zq9]
 |i,j+1,x::r=>by
  rw[zq9,List.getElem?_cons_succ,zju d number p q (i+1) j r,List.getElem?_cons_succ,show i+1+j=i+(j+1) by omega]
theorem qes(d:Dd)(number:Int)(p i:Nat)(l:List Ch):zq9 d number p p i l=l:=by
 apply List.ext_getElem?
 intro j
 rw[zju]
 cases l[j]? with
 |none=>rfl
 |some x=>
  rw[Option.map_some,mk1,if_neg (by omega)]
theorem mixL_set(d:Dd)(number:Int)(p k:Nat)(l:List Ch)(hp:p<=k)(hk:k<l.length)(hs:za7 d.seen d.by_ l[k]=true):(zq9 d number p k 0 l).set k (zex d.by_ number l[k])=zq9 d number p (k+1) 0 l:=by
 apply List.ext_getElem?
 intro j
 rw[zju,List.getElem?_set,zdt]
 by_cases h:k=j
 ·subst h
  rw[if_pos rfl,if_pos hk,List.getElem?_eq_getElem hk,Option.map_some,mk1,if_pos ⟨by omega,by omega,hs⟩]
 rw[if_neg h,zju]
 cases l[j]? with
 |none=>rfl
 |some x=>
  rw[Option.map_some,Option.map_some,mk1,mk1]
  congr 1
  by_cases hc:p<=0+j/\0+j<k/\za7 d.seen d.by_ x=true
  ·rw[if_pos hc,if_pos ⟨hc.1,by omega,hc.2.2⟩]
  rw[if_neg hc,if_neg (fun e=>hc ⟨e.1,by omega,e.2.2⟩)]
theorem qer(d:Dd)(number:Int)(p k:Nat)(l:List Ch)(hk:k<l.length)(hs:za7 d.seen d.by_ l[k]=false):zq9 d number p k 0 l=zq9 d number p (k+1) 0 l:=by
 apply List.ext_getElem?
 intro j
 rw[zju,zju]
 cases hx:l[j]? with
 |none=>rfl
 |some x=>
  rw[Option.map_some,Option.map_some,mk1,mk1]
  congr 1
  by_cases hc:p<=0+j/\0+j<k/\za7 d.seen d.by_ x=true
  ·rw[if_pos hc,if_pos ⟨hc.1,by omega,hc.2.2⟩]
  rw[if_neg hc,if_neg (fun e=> ?_)]
  by_cases hj:j=k
  ·subst hj
   rw[List.getElem?_eq_getElem hk]at hx
   obtain rfl:=Option.some.inj hx
   rw[hs]at e
   exact absurd e.2.2 (by simp)
  exact hc ⟨e.1,by omega,e.2.2⟩
theorem zlm(l:List Ch)(seen by_:Int){i j:Nat}(h:i<=j):cnt (l.take i) seen by_<=cnt (l.take j) seen by_:=by
 have e:l.take i=(l.take j).take i:=by rw[List.take_take,Nat.min_eq_left h]
 rw[e]
 exact zxz _ _ _ _
theorem zys{d:Dd}{number:Int}{p q:Nat}{l:List Ch}(hp:cnt (l.take p) d.seen d.by_=d.at_)(hq:cnt (l.take q) d.seen d.by_=d.at_+d.many):
 ∀(suf pre:List Ch),l=pre++suf->zby d number (cnt pre d.seen d.by_) suf=zq9 d number p q pre.length suf
 |[],pre,_=>rfl
 |x::r,pre,hl=>by
  have hpre:l.take pre.length=pre:=by rw[hl,List.take_left]
  have hnext:l=(pre++[x])++r:=by rw[hl];simp
  have hpre1:l.take (pre.length+1)=pre++[x]:=by
   have h2:(pre++[x]).length=pre.length+1:=by simp
   rw[hnext,<-h2,List.take_left]
  have ih:=zys (number:=number) hp hq r (pre++[x]) hnext
  rw[List.length_append,List.length_singleton]at ih
  rw[zq9,<-ih,zby,mk1]
  have hsn:=zih pre x d.seen d.by_
  by_cases hs:za7 d.seen d.by_ x=true
  ·rw[if_pos hs]at hsn⊢
   rw[hsn]
   congr 1
   have a1:d.at_<=cnt pre d.seen d.by_↔p<=pre.length:=by
    constructor
    ·intro h
     by_cases hc:p<=pre.length
     ·exact hc
     have:=zlm l d.seen d.by_ (show pre.length+1<=p by omega)
     rw[hpre1,hp,hsn]at this
     omega
    intro h
    have:=zlm l d.seen d.by_ h
    rw[hpre,hp]at this
    exact this
   have a2:cnt pre d.seen d.by_<d.at_+d.many↔pre.length<q:=by
    constructor
    ·intro h
     by_cases hc:pre.length<q
     ·exact hc
     have:=zlm l d.seen d.by_ (show q<=pre.length by omega)
     rw[hpre,hq]at this
     omega
    intro h
    have:=zlm l d.seen d.by_ (show pre.length+1<=q by omega)
    rw[hpre1,hq,hsn]at this
    omega
   by_cases hc:d.at_<=cnt pre d.seen d.by_/\cnt pre d.seen d.by_<d.at_+d.many
   ·rw[if_pos hc,if_pos ⟨a1.1 hc.1,a2.1 hc.2,hs⟩]
   rw[if_neg hc,if_neg (fun e=>hc ⟨a1.2 e.1,a2.2 e.2.1⟩)]
  rw[if_neg hs]at hsn⊢
  rw[hsn,Int.add_zero,if_neg (fun e=>hs e.2.2)]
theorem zw9{number:Int}(h0:0<=d.at_)(h1:0<=d.many)(hp:zaa d.seen d.by_ d.at_.toNat l=some p)(hq:zaa d.seen d.by_ (d.at_+d.many).toNat l=some q):zby d number 0 l=zq9 d number p q 0 l:=by
 obtain⟨_,_,_,a4⟩:=zd4 hp
 obtain⟨_,_,_,b4⟩:=zd4 hq
 have ha:=zix (l.take p) d.seen d.by_
 have hb:=zix (l.take q) d.seen d.by_
 have e1:cnt (l.take p) d.seen d.by_=d.at_:=by omega
 have e2:cnt (l.take q) d.seen d.by_=d.at_+d.many:=by omega
 exact zys e1 e2 l [] rfl
theorem qee(h0:0<=d.at_)(h1:0<=d.many)(hp:zaa d.seen d.by_ d.at_.toNat l=some p)(hq:zaa d.seen d.by_ (d.at_+d.many).toNat l=some q):d.many=0\/p<=q:=by
 obtain⟨_,_,_,a4⟩:=zd4 hp
 obtain⟨_,_,_,b4⟩:=zd4 hq
 have ha:=zix (l.take p) d.seen d.by_
 have hb:=zix (l.take q) d.seen d.by_
 by_cases h:p<=q
 ·exact .inr h
 have:=zlm l d.seen d.by_ (show q<=p by omega)
 exact .inl (by omega)
theorem zz2:∀(l:List Ch) (i:Nat) (y:Ch),i<l.length->
 (((((((zaq l).set (i*7) (.int .u8 y.c)).set (i*7+1) (.int .i64 y.by_)).set (i*7+2) (.int .i64 y.no)).set (i*7+3) (.int .i64 y.k)).set (i*7+4) (.int .i64 y.inn)).set (i*7+5) (.int .i64 y.out)).set (i*7+6) (.int .i64 y.gone)=zaq (l.set i y):=by
 intro l i y hi
 have e:l=l.take i++(l[i]::l.drop (i+1)):=by rw[<-List.drop_eq_getElem_cons hi,List.take_append_drop]
 have e2:l.set i y=l.take i++(y::l.drop (i+1)):=by
  conv=>lhs;rw[e]
  rw[List.set_append_right _ _ (by rw[List.length_take];omega),List.length_take,show i-min i l.length=0 by omega,List.set_cons_zero]
 have e3:zaq l=zaq (l.take i)++(zcd l[i]++zaq (l.drop (i+1))):=by
  conv=>lhs;rw[e]
  rw[zfa,zaq]
 rw[e2,zfa,zaq,e3]
 have:=zu2 (zaq (l.take i)) (zcd l[i]++zaq (l.drop (i+1))) y (i*7) (by rw[zdd,List.length_take];congr 1;omega) (by rw[List.length_append];show 7<=7+_;omega)
 rw[this,List.append_assoc]
 congr 2
variable {w wk:World} {d:Dd} {v lv:Value} {l L:List Ch} {cap n base:Nat}
structure zt8(w:World)(d:Dd)(lv:Value)(L:List Ch)(wk:World):Prop where
 below:Below (w.alloc (zd9 d)).heap.size (w.alloc (zd9 d)) wk
 own:Own wk (w.alloc (zd9 d)).heap.size lv L
theorem zt8.minv(h:zt8 w d lv L wk)(h0:Lst w v l):zhd w w.heap.size d v l wk:=(zdb h0).after h.below
theorem zt8.after{w':World}(h:zt8 w d lv L wk)(hb:Below wk.heap.size wk w'):zt8 w d lv L w':=
 ⟨bla h.below hb,h.own.below hb⟩
theorem zt8.drew{w wk:World}{d:Dd}{lv:Value}{L:List Ch}(h:zt8 w d lv L wk):zt8 w d lv L wk.drew:=h.after (Below.refl _ _).drew
theorem sees_t(h:zt8 w d lv L wk)(x:Ch)(seen by_:Int):
 Calls Tryz.prog 185 #[chV x,.int .i64 seen,.int .i64 by_] wk fun e w'=>e= .returned (.bool (za7 seen by_ x))/\zt8 w d lv L w':=
 (zjr x seen by_ wk).mono fun _ _ ⟨he,hb⟩=>⟨he,h.after hb⟩
theorem Lst.nth{b off:Nat}(h:Lst wk (.slice (some ⟨b,off,none⟩) n cap) l){k:Nat}(hk:k<l.length):At wk b (off+k*7) l[k]:=by
 obtain⟨a',len',cap',he,h1,h2,h3⟩:=h
 simp only[Value.slice.injEq]at he
 obtain⟨rfl,rfl,rfl⟩:=he
 rcases h3 with h3|⟨b',off',h3,hr⟩
 ·omega
 cases h3
 exact hr.at_ k hk
theorem Lst.place(h:Lst wk v l)(hk:0<l.length):∃b off cap,v= .slice (some ⟨b,off,none⟩) l.length cap:=by
 obtain⟨a',len',cap',rfl,rfl,h2,h3⟩:=h
 rcases h3 with h3|⟨b',off',rfl,hr⟩
 ·omega
 exact⟨b',off',cap',rfl⟩
theorem Own.place(h:Own wk base v l)(hk:0<l.length):∃g cap,v= .slice (some ⟨g,0,none⟩) l.length cap:=by
 obtain⟨_,h2⟩:=h
 rcases h2 with⟨_,hn⟩|⟨g,cap,cur,rfl,_⟩
 ·omega
 exact⟨g,cap,rfl⟩
theorem zt8.set{w wk:World}{g n cap:Nat}{d:Dd}{L:List Ch}(h:zt8 w d (.slice (some ⟨g,0,none⟩) n cap) L wk){k:Nat}(hk:k<L.length)(hn:L.length=n)(y:Ch):
 zt8 w d (.slice (some ⟨g,0,none⟩) n cap) (L.set k y) (((((((wk.setCell ⟨g,k*7,none⟩ (.int .u8 y.c)).setCell ⟨g,k*7+1,none⟩ (.int .i64 y.by_)).setCell ⟨g,k*7+2,none⟩ (.int .i64 y.no)).setCell ⟨g,k*7+3,none⟩ (.int .i64 y.k)).setCell ⟨g,k*7+4,none⟩ (.int .i64 y.inn)).setCell ⟨g,k*7+5,none⟩ (.int .i64 y.out)).setCell ⟨g,k*7+6,none⟩ (.int .i64 y.gone)):=by
 obtain⟨hb,ho⟩:=h
 have hg:=(World.ownsRow.lt ho g rfl).1
 refine⟨?_,?_⟩
 ·exact((((((hb.setCell (p:=⟨g,_,none⟩) hg _).setCell (p:=⟨g,_,none⟩) hg _).setCell (p:=⟨g,_,none⟩) hg _).setCell (p:=⟨g,_,none⟩) hg _).setCell (p:=⟨g,_,none⟩) hg _).setCell (p:=⟨g,_,none⟩) hg _).setCell (p:=⟨g,_,none⟩) hg _
 unfold Own at ho⊢
 rw[List.length_set,<-zz2 L k y hk,hn]
 rw[hn]at ho
 exact((((((ho.stored _ _).1.stored _ _).1.stored _ _).1.stored _ _).1.stored _ _).1.stored _ _).1.stored _ _ |>.1
theorem zgm{g:Nat}(h:Own w base (.slice (some ⟨g,0,none⟩) n cap) L)(hn:L.length=n){j:Nat}(hj:j<n*7):(∃u,w.cell? ⟨g,j,none⟩=some u)/\w.frozen? ⟨g,j,none⟩=false:=by
 unfold Own at h
 rw[hn]at h
 exact zer h hj
theorem take_any(l:List Ch)(d:Dd)(number:Int)(v:Value)(w:World)(h:Lst w v l)(hl:l.length<=1000)(hc:za9 d=0)(hk:d.kind≠1)(hn:d.at_+d.many<=cnt l d.seen d.by_)(hf:zi0 l):
 Calls Tryz.prog 220 #[v,ddV d,.int .i64 number] w fun e w'=>∃v',e= .returned v'/\Own w' w.heap.size v' (doL l d number)/\Below w.heap.size w w':=by
 have HI:Hid _:=zdb (d:=d) h
 have H0:=hid h
 obtain⟨ad,cap,rfl,hcap⟩:=h.len
 obtain⟨_,hwr,_,_,_,_,p1,p2,p3,p4,_,p6⟩:=zah hc
 have HD:Hid (∀p q,zaa d.seen d.by_ d.at_.toNat l=some p->zaa d.seen d.by_ (d.at_+d.many).toNat l=some q->doL l d number=zq9 d number p q 0 l):=by
  intro p q hp hq
  rw[doL,if_neg hk,zw9 p1 p3 hp hq]
 have HB0:Hid (Below w.heap.size w (w.alloc (zd9 d))):=(Below.refl _ _).alloc (Nat.le_refl _) _
 obtain⟨kind,by_,no,seen,at_,many,text⟩:=d
 simp only at hn p1 p2 p3 p4 HD
 unfold zd9 at HB0
 clear h hc p6
 go_enter Tryz.func220,Tryz.ntmps220
 go_wp2_with fail
 refine(zhw HI.out.lst (by omega)).mono ?_
 rintro e w1 ⟨lv,rfl,hown,hb⟩
 have HT1:Hid (zt8 w ⟨kind,by_,no,seen,at_,many,text⟩ lv l w1):=⟨hb,hown⟩
 clear hb hown HI
 obtain⟨_,c0,c1,c2,c3,c4,c5,c6⟩:=(HT1.out.minv H0.out).at_
 simp only[Nat.zero_add]at c0 c1 c2 c3 c4 c5 c6
 go_wp2_with fail
 refine(zmn (HT1.out.minv H0.out).lst hl seen by_ at_ p1 (by omega)).mono ?_
 rintro e w2 ⟨p,rfl,hp,hpl,hb⟩
 have HP:Hid _:=hp
 have HT2:Hid _:=HT1.out.after hb
 clear hb HT1 hp c0 c1 c2 c3 c4 c5 c6
 obtain⟨_,c0,c1,c2,c3,c4,c5,c6⟩:=(HT2.out.minv H0.out).at_
 simp only[Nat.zero_add]at c0 c1 c2 c3 c4 c5 c6
 go_wp2_with fail
 refine(zmn (HT2.out.minv H0.out).lst hl seen by_ (at_+many) (by omega) (by omega)).mono ?_
 rintro e w3 ⟨q,rfl,hq,hql,hb⟩
 have HF:Hid _:=HD.out p q HP.out hq
 have hpq:p<=q:=by
  rcases qee (d:=⟨kind,by_,no,seen,at_,many,text⟩) p1 p3 HP.out hq with hm|hm
  ·have hm':many=0:=hm
   rw[hm',Int.add_zero,HP.out]at hq
   exact Nat.le_of_eq (Option.some.inj hq)
  exact hm
 have HT3:Hid _:=HT2.out.after hb
 clear hb HT2 hq c0 c1 c2 c3 c4 c5 c6 HD
 go_wp2
 go_loopw [10] (fun i wr=>∃k:Nat,p<=k/\k<=q/\i= .int .i64 k/\Hid (zt8 w ⟨kind,by_,no,seen,at_,many,text⟩ lv (zq9 ⟨kind,by_,no,seen,at_,many,text⟩ number p k 0 l) wr)) (fun i _=>q-(intOf i).toNat)
 case atStart=>exact⟨p,Nat.le_refl _,hpq,rfl,by rw[qes];exact HT3⟩
 obtain⟨k,hpk,hkq,rfl,HK⟩:=hrel
 clear HT3
 by_cases hlt:k<q
 ·have hkl:k<l.length:=by omega
  have hkI:(k:Int)<(l.length:Int):=by omega
  obtain⟨b,off,cap',hv⟩:=H0.out.place (by omega)
  simp only[Value.slice.injEq]at hv
  obtain⟨rfl,_,rfl⟩:=hv
  obtain⟨g,capL,rfl⟩:=HK.out.own.place (by rw[zdt];omega)
  rw[zdt]at*
  obtain⟨x,hx⟩:∃x,x=l[k]:=⟨_,rfl⟩
  have HX:Hid _:=hx
  have HL:Hid (∀wk,Lst wk (.slice (some ⟨b,off,none⟩) l.length cap) l->At wk b (off+k*7) x):=fun wk hh=>by rw[hx];exact hh.nth hkl
  clear hx
  go_wp2
  refine wp_region_quiet (C:=fun wk=>zt8 w ⟨kind,by_,no,seen,at_,many,text⟩ (.slice (some ⟨g,0,none⟩) l.length capL) (zq9 ⟨kind,by_,no,seen,at_,many,text⟩ number p k 0 l) wk) (by kernel_rfl) (by kernel_rfl) (HK.out.drew) ?_
  iterate 2 (refine wpQuiet_step (fun K hK=> ?_);go_simp;refine⟨_,fun _ _=>rfl,hK _ ?_⟩;clear hK K)
  refine wpQuiet_step (fun K hK=> ?_)
  go_simp
  refine⟨.pointer (some ⟨b,off+k*7,none⟩),fun wk hwk=> ?_,hK _ ?_⟩
  ·go_simp
  clear hK K
  refine wpQuiet_step (fun K hK=> ?_)
  go_simp
  refine⟨chV x,fun wk hwk=> ?_,hK _ ?_⟩
  ·have hat:=HL.out wk (hwk.minv H0.out).lst
   obtain⟨g0,g1,g2,g3,g4,g5,g6⟩:=hat
   go_simp
  clear hK K
  refine wpQuiet_step (fun K hK=> ?_)
  go_simp
  refine⟨_,fun _ _=>rfl,hK _ ?_⟩
  clear hK K
  refine wpQuiet_step (fun K hK=> ?_)
  go_simp
  refine⟨.int .i64 seen,fun wk hwk=> ?_,hK _ ?_⟩
  ·obtain⟨_,c0,c1,c2,c3,c4,c5,c6⟩:=(hwk.minv H0.out).at_
   simp only[Nat.zero_add]at c0 c1 c2 c3 c4 c5 c6
   go_simp
  clear hK K
  refine wpQuiet_step (fun K hK=> ?_)
  go_simp
  refine⟨_,fun _ _=>rfl,hK _ ?_⟩
  clear hK K
  refine wpQuiet_step (fun K hK=> ?_)
  go_simp
  refine⟨.int .i64 by_,fun wk hwk=> ?_,hK _ ?_⟩
  ·obtain⟨_,c0,c1,c2,c3,c4,c5,c6⟩:=(hwk.minv H0.out).at_
   simp only[Nat.zero_add]at c0 c1 c2 c3 c4 c5 c6
   go_simp
  clear hK K
  refine wpQuiet_step (fun K hK=> ?_)
  go_simp
  refine⟨_,fun wk hwk=>sees_t hwk x _ _,hK _ ?_⟩
  clear hK K
  refine wpQuiet_nil ?_
  intro w4 hw4
  have HK4:Hid _:=hw4
  clear hw4 HK
  cases hs:za7 seen by_ x
  ·have HN:Hid _:=qer ⟨kind,by_,no,seen,at_,many,text⟩ number p k l hkl (by rw[<-HX.out];exact hs)
   go_wp2
   go_roundw
   case rel=>exact⟨k+1,by omega,by omega,by go_num,by rw[<-HN.out];exact HK4⟩
   case measure=>simp[intOf];omega
  have HN:Hid (_=_):=mixL_set ⟨kind,by_,no,seen,at_,many,text⟩ number p k l hpk hkl (by rw[<-HX.out];exact hs)
  have HM:=hid (ze1 hs)
  have HG:Hid _:=hf l[k] (List.getElem_mem hkl)
  rw[<-HX.out]at HG HN
  go_wp2
  refine wrs (fun wk=>zhd w w.heap.size ⟨kind,by_,no,seen,at_,many,text⟩ (.slice (some ⟨b,off,none⟩) l.length cap) l wk) (fun i=>i==9||i==11) (fun wk=>zt8 w ⟨kind,by_,no,seen,at_,many,text⟩ (.slice (some ⟨g,0,none⟩) l.length capL) (zq9 ⟨kind,by_,no,seen,at_,many,text⟩ number p k 0 l) wk) (by kernel_rfl) (by kernel_rfl) (by kernel_rfl) (fun _ h=>h.minv H0.out) HK4.out.drew ?_
  iterate 4 (refine wss rfl (fun K hK=> ?_);go_simp;refine⟨_,fun _ _=>rfl,hK _ ?_⟩;clear hK K)
  refine wss rfl (fun K hK=> ?_)
  go_simp
  refine⟨.pointer (some ⟨b,off+k*7,none⟩),fun wk hwk=> ?_,hK _ ?_⟩
  ·go_simp
  clear hK K
  refine wss rfl (fun K hK=> ?_)
  go_simp
  refine⟨chV x,fun wk hwk=> ?_,hK _ ?_⟩
  ·have hat:=HL.out wk hwk.lst
   obtain⟨g0,g1,g2,g3,g4,g5,g6⟩:=hat
   go_simp
  clear hK K
  refine wss rfl (fun K hK=> ?_)
  go_simp
  refine⟨_,fun _ _=>rfl,hK _ ?_⟩
  clear hK K
  refine wss rfl (fun K hK=> ?_)
  go_simp
  refine⟨.int .i64 by_,fun wk hwk=> ?_,hK _ ?_⟩
  ·obtain⟨_,c0,c1,c2,c3,c4,c5,c6⟩:=hwk.at_
   simp only[Nat.zero_add]at c0 c1 c2 c3 c4 c5 c6
   go_simp
  clear hK K
  refine wss rfl (fun K hK=> ?_)
  go_simp
  refine⟨_,fun _ _=>rfl,hK _ ?_⟩
  clear hK K
  refine wsp rfl rfl (fun u=>u=chV (zex by_ number x)) (fun u wk=>zt8 w ⟨kind,by_,no,seen,at_,many,text⟩ (.slice (some ⟨g,0,none⟩) l.length capL) (zq9 ⟨kind,by_,no,seen,at_,many,text⟩ number p k 0 l) wk) ⟨_,rfl⟩ (fun _ _ h=>h.minv H0.out) (fun wk hwk=> ?_) (fun u hu=> ?_)
  ·go_simp
   refine(qdk x by_ number wk hwr HM.out HG.out.1 HG.out.2).mono ?_
   rintro e w5 ⟨rfl,hb⟩
   exact⟨_,rfl,rfl,hwk.after hb⟩
  subst hu
  refine wss rfl (fun K hK=> ?_)
  go_simp
  refine⟨.pointer (some ⟨g,k*7,none⟩),fun wk hwk=> ?_,hK _ ?_⟩
  ·go_simp
  clear hK K
  refine wsp rfl rfl (fun _=>True) (fun _ wk=>zt8 w ⟨kind,by_,no,seen,at_,many,text⟩ (.slice (some ⟨g,0,none⟩) l.length capL) (zq9 ⟨kind,by_,no,seen,at_,many,text⟩ number p (k+1) 0 l) wk) ⟨.int .i64 0,trivial⟩ (fun _ _ h=>h.minv H0.out) (fun wk hwk=> ?_) (fun u _=> ?_)
  ·have hN:=hwk.set (k:=k) (by rw[zdt];exact hkl) (zdt _ _ _ _ _ _) (zex by_ number x)
   rw[HN.out]at hN
   have hown:=hwk.own
   obtain⟨⟨u0,e0⟩,f0⟩:=zgm hown (zdt _ _ _ _ _ _) (j:=k*7) (by omega)
   obtain⟨⟨u1,e1⟩,f1⟩:=zgm hown (zdt _ _ _ _ _ _) (j:=k*7+1) (by omega)
   obtain⟨⟨u2,e2⟩,f2⟩:=zgm hown (zdt _ _ _ _ _ _) (j:=k*7+2) (by omega)
   obtain⟨⟨u3,e3⟩,f3⟩:=zgm hown (zdt _ _ _ _ _ _) (j:=k*7+3) (by omega)
   obtain⟨⟨u4,e4⟩,f4⟩:=zgm hown (zdt _ _ _ _ _ _) (j:=k*7+4) (by omega)
   obtain⟨⟨u5,e5⟩,f5⟩:=zgm hown (zdt _ _ _ _ _ _) (j:=k*7+5) (by omega)
   obtain⟨⟨u6,e6⟩,f6⟩:=zgm hown (zdt _ _ _ _ _ _) (j:=k*7+6) (by omega)
   generalize zex by_ number x=y at*
   obtain⟨yc,yb,yn,yk,yi,yo,yg⟩:=y
   go_simp
   exact hN
  refine wsn (fun w6 hw6=> ?_)
  have H6:Hid _:=hw6
  clear hw6
  go_wp2
  go_roundw
  case rel=>exact⟨k+1,by omega,by omega,by go_num,H6⟩
  case measure=>simp[intOf];omega
 obtain rfl:k=q:=by omega
 go_wp2
 go_ret
 exact⟨_,rfl,by rw[HF.out];exact HK.out.own.mono (by simp),bla HB0.out HK.out.below⟩
variable {l:List Ch} {v:Value}
def doR(l:List Ch)(d:Dd)(number:Int):List Ch:=if doC l d number=0 then doL l d number else []
theorem zxv{d:Dd}{number:Int}(h:zha l d≠0):doC l d number=zha l d:=by rw[doC,if_pos h]
theorem zos{c c':Int}(h:c=c'):Ending.returned (.tuple #[v,.int .i64 c])= .returned (.tuple #[v,.int .i64 c']):=by rw[h]
theorem zvh(l:List Ch)(d:Dd)(number:Int)(v:Value)(w:World)(h:Lst w v l)(hl:l.length<=1000)(hf:zi0 l):
 Calls Tryz.prog 190 #[v,ddV d,.int .i64 number] w fun e w'=>∃v',e= .returned (.tuple #[v',.int .i64 (doC l d number)])/\Own w' w.heap.size v' (doR l d number)/\Below w.heap.size w w':=by
 have HI:=hid (zdb (d:=d) h)
 by_cases hm:zha l d=0
 ·by_cases hn:number<1
  ·have HC:Hid (doC l d number=1):=by show doC l d number=1;rw[doC,if_neg (fun e=>e hm),if_pos hn]
   have HR:Hid (doR l d number=[]):=by show doR l d number=[];rw[doR,if_neg (by rw[HC.out];decide)]
   obtain⟨kind,by_,no,seen,at_,many,text⟩:=d
   clear h
   go_enter Tryz.func190,Tryz.ntmps190
   go_wp2_with fail
   refine(zsl l ⟨kind,by_,no,seen,at_,many,text⟩ v _ HI.out.lst hl).mono ?_
   rintro e w1 ⟨rfl,hb⟩
   rw[hm]
   have HI1:Hid _:=HI.out.after hb
   clear hb HI
   go_wp2
   go_ret2
   exact⟨.slice none 0 0,zos HC.out.symm,by rw[HR.out];exact zd6 _ _,HI1.out.below⟩
  have HC:Hid (doC l d number=0):=by show doC l d number=0;rw[doC,if_neg (fun e=>e hm),if_neg hn]
  have HR:Hid (doR l d number=doL l d number):=by show doR l d number=_;rw[doR,if_pos HC.out]
  obtain⟨q1,q2,q3,_⟩:=zc0 HC.out
  have p3:=(zah q1).2.2.2.2.2.2.2.2.1
  by_cases hk:d.kind=1
  ·obtain⟨kind,by_,no,seen,at_,many,text⟩:=d
   obtain rfl:kind=1:=hk
   simp only at q2 q3 p3
   clear h
   go_enter Tryz.func190,Tryz.ntmps190
   go_wp2_with fail
   refine(zsl l ⟨1,by_,no,seen,at_,many,text⟩ v _ HI.out.lst hl).mono ?_
   rintro e w1 ⟨rfl,hb⟩
   rw[hm]
   have HI1:Hid _:=HI.out.after hb
   clear hb HI
   obtain⟨_,c0,c1,c2,c3,c4,c5,c6⟩:=HI1.out.at_
   simp only[Nat.zero_add]at c0 c1 c2 c3 c4 c5 c6
   go_wp2_with fail
   clear c0 c1 c2 c3 c4 c5 c6
   refine(put_any l ⟨1,by_,no,seen,at_,many,text⟩ number v _ HI1.out.lst hl q1 rfl (by simp only;omega)).mono ?_
   rintro e w2 ⟨v',rfl,hL,hb⟩
   have HL:=hid (hL.mono HI1.out.below.size)
   have HB:=hid (bla HI1.out.below hb)
   clear hL hb HI1
   go_wp2
   go_ret2
   exact⟨v',zos HC.out.symm,by rw[HR.out];exact HL.out,HB.out⟩
  have hk':(d.kind==1)=false:=by simp[hk]
  obtain⟨kind,by_,no,seen,at_,many,text⟩:=d
  simp only at q2 q3 p3 hk'
  have HK:=hid hk
  clear h hk
  go_enter Tryz.func190,Tryz.ntmps190
  go_wp2_with fail
  refine(zsl l ⟨kind,by_,no,seen,at_,many,text⟩ v _ HI.out.lst hl).mono ?_
  rintro e w1 ⟨rfl,hb⟩
  rw[hm]
  have HI1:Hid _:=HI.out.after hb
  clear hb HI
  obtain⟨_,c0,c1,c2,c3,c4,c5,c6⟩:=HI1.out.at_
  simp only[Nat.zero_add]at c0 c1 c2 c3 c4 c5 c6
  go_wp2_with fail
  clear c0 c1 c2 c3 c4 c5 c6
  refine(take_any l ⟨kind,by_,no,seen,at_,many,text⟩ number v _ HI1.out.lst hl q1 HK.out q2 hf).mono ?_
  rintro e w2 ⟨v',rfl,hL,hb⟩
  have HL:=hid (hL.mono HI1.out.below.size)
  have HB:=hid (bla HI1.out.below hb)
  clear hL hb HI1
  go_wp2
  go_ret2
  exact⟨v',zos HC.out.symm,by rw[HR.out];exact HL.out,HB.out⟩
 have HC:Hid (doC l d number=zha l d):=zxv hm
 have HR:Hid (doR l d number=[]):=by show doR l d number=[];rw[doR,if_neg (by rw[HC.out];exact hm)]
 have hne:(zha l d != 0)=true:=by simp[hm]
 obtain⟨kind,by_,no,seen,at_,many,text⟩:=d
 clear h hm
 go_enter Tryz.func190,Tryz.ntmps190
 go_wp2_with fail
 refine(zsl l ⟨kind,by_,no,seen,at_,many,text⟩ v _ HI.out.lst hl).mono ?_
 rintro e w1 ⟨rfl,hb⟩
 have HI1:Hid _:=HI.out.after hb
 clear hb HI
 generalize zha l ⟨kind,by_,no,seen,at_,many,text⟩=c at*
 go_wp2
 go_ret2
 exact⟨.slice none 0 0,zos HC.out.symm,by rw[HR.out];exact zd6 _ _,HI1.out.below⟩
def zv2(x:Ch):Bool:=decide (x.out≠0)&&decide (x.out≠za3)
def zgg(x:Ch):Bool:=decide (x.inn≠za3)&& !zv2 x
def zdj(l:List Ch):List Int:=(l.filter zgg).map (·.c)
theorem qai(l:List Ch)(x:Ch):zdj (l++[x])=zdj l++if zgg x=true then [x.c]else []:=by
 unfold zdj
 rw[List.filter_append]
 by_cases h:zgg x=true<;>simp[h]
theorem textL_le(l:List Ch):(zdj l).length<=l.length:=by
 unfold zdj
 have:=List.length_filter_le zgg l
 simpa using this
theorem ret_str{a b:ByteArray}(h:a=b):Ending.returned (.string a)= .returned (.string b):=by rw[h]
theorem qah(a:Option Addr)(cap:Nat)(w:World):
 Calls Tryz.prog 135 #[.slice a 0 cap] w fun e w'=>e= .returned (.string ⟨#[]⟩)/\Below w.heap.size w w':=by
 have hs:(convert 42 9 (.slice none 0 0)).run Tryz.prog w= .ok (.string (strOfNums [])) w:=zga (base:=w.heap.size) (zs:=[]) (World.ownsRow_nil _ _ _ _)
 go_enter Tryz.func135,Tryz.ntmps135
 go_wp2
 refine wp_loop_rounds 1 ?_
 rw[rounds_succ]
 go_wp2
 go_ret
 exact⟨rfl,Below.refl _ _⟩
theorem qbn(x:Ch)(w:World):
 Calls Tryz.prog 182 #[chV x] w fun e w'=>e= .returned (.bool (zv2 x))/\Below w.heap.size w w':=by
 obtain⟨c,b,no,k,i,o,g⟩:=x
 by_cases h1:o=0
 ·have h1':(o != 0)=false:=by simp[h1]
  have H1:=hid h1
  clear h1
  go_enter Tryz.func182,Tryz.ntmps182
  go_wp2
  go_ret
  exact⟨zbf (by simp[zv2,H1.out]),(Below.refl _ _).alloc (Nat.le_refl _) _⟩
 have h1':(o != 0)=true:=by simp[h1]
 have H1:=hid h1
 clear h1
 by_cases h2:o=za3
 ·have h2':(o != 1073741824)=false:=by simp[h2]
  have H2:=hid h2
  clear h2
  go_enter Tryz.func182,Tryz.ntmps182
  go_wp2
  go_ret
  exact⟨zbf (by simp[zv2,H2.out]),(Below.refl _ _).alloc (Nat.le_refl _) _⟩
 have h2':(o != 1073741824)=true:=by simpa using h2
 have H2:=hid h2
 clear h2
 go_enter Tryz.func182,Tryz.ntmps182
 go_wp2
 go_ret
 exact⟨zbf (by have h1:=H1.out;have h2:=H2.out;simp[zv2,h1,h2]),(Below.refl _ _).alloc (Nat.le_refl _) _⟩
theorem qdi(b off len cap:Nat)(l:List Ch)(w:World)(hl:l.length=len)(hm:len<=100000)(hr:Row w b off l):
 Calls Tryz.prog 135 #[.slice (some ⟨b,off,none⟩) len cap] w fun e w'=>e= .returned (.string (strOfNums (zdj l)))/\Below w.heap.size w w':=by
 have HR:=hid hr
 have HL:=hid hl
 have hb:=hr.lt
 clear hr hl
 obtain⟨i0,hi,hz0,hz1,hz2⟩:=info_parts Tryz.infoByte
 go_enter Tryz.func135,Tryz.ntmps135
 go_wp2
 go_loopw [3,8] (fun v i wr=>∃k:Nat,k<=len/\i= .int .i64 k/\Hid (wr.ownsRow w.heap.size 5 1 v (zdj (l.take k)).length (zf0 (zdj (l.take k))))/\Hid (Below w.heap.size w wr)) (fun _ i _=>len-(intOf i).toNat)
 case atStart=>exact⟨0,Nat.zero_le _,rfl,World.ownsRow_nil _ _ _ _,Below.refl _ _⟩
 obtain⟨k,hk,rfl,HO,HB⟩:=hrel
 by_cases hlt:k<len
 ·have hkl:k<l.length:=by rw[HL.out];exact hlt
  have hd:=textL_le (l.take k)
  have hle:(l.take k).length<=k:=List.length_take_le _ _
  have HN:Hid (zdj (l.take (k+1))=zdj (l.take k)++if zgg l[k]=true then [l[k].c]else []):=by show _=_;rw[zcf l k hkl];exact qai _ _
  obtain⟨h0,h1,h2,h3,h4,h5,h6⟩:=(HR.out.below HB.out).at_ k hkl
  generalize l[k]=x at h0 h1 h2 h3 h4 h5 h6 HN
  generalize zdj (l.take k)=zs at*
  have hzs:zs.length<=100000:=by omega
  have HB':Hid (∀o,Below w.heap.size w (wr.alloc o)):=fun o=>HB.out.alloc HB.out.size _
  clear hd hle
  by_cases hin:x.inn=za3
  ·have hin':(x.inn != 1073741824)=false:=by simp[hin]
   have HT:Hid (zgg x=false):=by show zgg x=false;simp[zgg,hin]
   rw[HT.out]at HN
   clear hin
   go_wp2
   go_roundw
   case rel=>exact⟨k+1,by omega,by go_num,by show World.ownsRow _ _ _ _ _ _ _;rw[HN.out,if_neg (by simp),List.append_nil];exact HO.out.alloc _,HB'.out _⟩
   case measure=>simp[intOf];omega
  have hin':(x.inn != 1073741824)=true:=by simp;exact hin
  have HIN:=hid hin
  clear hin
  go_wp2_with fail
  refine(qbn x _).mono ?_
  rintro e w1 ⟨rfl,hb1⟩
  have HB1:Hid (Below w.heap.size w w1):=bla (HB'.out _) hb1
  have HO1:=hid (zed (HO.out.alloc (.cells #[.int .u8 x.c,.int .i64 x.by_,.int .i64 x.no,.int .i64 x.k,.int .i64 x.inn,.int .i64 x.out,.int .i64 x.gone] 127)) hb1)
  cases hg:zv2 x
  ·have HT:Hid (zgg x=true):=by show zgg x=true;simp[zgg,HIN.out,hg]
   rw[HT.out]at HN
   obtain⟨hc,hf⟩:=zdp hb1
   clear hg h0 h1 h2 h3 h4 h5 h6
   go_wp2_with (at_builtin;refine wpList_append_own _ rfl (.tmp 20) (.tmp 23) 42 rfl w.heap.size 5 i0 (.int .u8 0) 1 1 Tryz.underlying42 hi hz0 hz1 hz2 rfl (by decide) _ _ _ rfl (HO1.out.alloc _) ⟨w1.heap.size,0,none⟩ 1 1 [.int .u8 x.c] rfl rfl ?c1 ?c2 ?c3 ?c4 ?c5 ?_)
   case c1=>
    intro j u hj
    match j,hj with
    | 0,hj=>simp at hj;subst hj;simp[Addr.add]
   case c2=>intro u hu;simp at hu;subst hu;rfl
   case c3=>unfold maxLen;omega
   case c4=>omega
   case c5=>have:=HB1.out.size;simp;omega
   intro v' w2 hown' hgrow _
   have HO2:=hid hown'
   have HB2:Hid (Below w.heap.size w w2):=(HB1.out.alloc HB1.out.size _).grown hgrow (by have:=HB1.out.size;simp;omega) (fun j hj=>(World.ownsRow.lt HO1.out j hj).1)
   clear hown' hgrow hc hf hb1
   go_wp2
   go_roundw
   case rel=>exact⟨k+1,by omega,by go_num,by
    have e:=HO2.out
    show World.ownsRow _ _ _ _ _ _ _
    rw[HN.out,if_pos trivial,List.length_append,zf0,List.map_append]
    exact e,HB2⟩
   case measure=>simp[intOf];omega
  have HT:Hid (zgg x=false):=by show zgg x=false;simp[zgg,hg]
  rw[HT.out]at HN
  clear hg h0 h1 h2 h3 h4 h5 h6 hb1
  go_wp2
  go_roundw
  case rel=>exact⟨k+1,by omega,by go_num,by show World.ownsRow _ _ _ _ _ _ _;rw[HN.out,if_neg (by simp),List.append_nil];exact HO1.out,HB1⟩
  case measure=>simp[intOf];omega
 obtain rfl:k=len:=by omega
 have HE:Hid (l.take k=l):=by show _=_;rw[<-HL.out,List.take_length]
 have hs:=zga HO.out
 go_wp2
 go_ret
 exact⟨ret_str (by rw[HE.out]),HB.out⟩
theorem text_lst{w:World}(h:Lst w v l)(hl:l.length<=1000):
 Calls Tryz.prog 135 #[v] w fun e w'=>e= .returned (.string (strOfNums (zdj l)))/\Below w.heap.size w w':=by
 obtain⟨a,len,cap,rfl,h1,h2,h3⟩:=h
 rcases h3 with rfl|⟨b,off,rfl,hr⟩
 ·obtain rfl:l=[]:=List.length_eq_zero_iff.1 h1
  exact qah a cap w
 exact qdi b off len cap l w h1 (by omega) hr
end Go.Proofs.YtcbnnfeelhlapadGreatDoor