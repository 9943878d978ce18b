/-
  RDoP, RDoT.
-/
import Derived.Test.YtcbnnfeelhlapadGreatDoorRBytes
namespace Go.Proofs.YtcbnnfeelhlapadGreatDoor
set_option maxHeartbeats 3200000
set_option maxRecDepth 20000
open Go.RowKit
theorem zlf(l:List Ch)(d:Dd)(v:Value)(w:World)(h:Lst w v l)(hl:l.length<=1000)(ht:zi2 l):
 Calls Tryz.prog 147 #[v,ddV d] w fun e w'=>e= .returned (.int .i64 (zha l d))/\Below w.heap.size w w':=by
 have HI:=hid (zdb (d:=d) h)
 obtain⟨ad,cap,rfl,hcap⟩:=h.len
 clear h
 by_cases hc:za9 d=0
 ·have HM:=hid (mayR (l:=l) hc)
  obtain⟨_,_,_,_,_,_,p1,p2,p3,p4,p5,p6⟩:=zah hc
  have hts:d.text.size<=20:=by
   by_cases hk:d.kind=1
   ·exact(p5 hk).2.1
   rw[p6 hk];omega
  have hcn:=zn9 l d.seen d.by_
  have hsz:(strOfNums (vw l d.seen d.by_)).size=cnt l d.seen d.by_:=by rw[zbn];exact zix l d.seen d.by_
  clear p5 p6
  obtain⟨kind,by_,no,seen,at_,many,text⟩:=d
  simp only at HM p1 p2 p3 p4 hts hcn hsz
  go_enter Tryz.func147,Tryz.ntmps147
  go_wp2_with fail
  refine(zjf ⟨kind,by_,no,seen,at_,many,text⟩ _).mono ?_
  rintro e w1 ⟨rfl,hb1⟩
  rw[hc]
  have HI1:Hid _:=HI.out.after hb1
  clear hb1 HI hc
  obtain⟨_,c0,c1,c2,c3,c4,c5,c6⟩:=HI1.out.at_
  simp only[Nat.zero_add]at c0 c1 c2 c3 c4 c5 c6
  go_wp2_with fail
  refine(zki HI1.out.lst hl ht seen by_).mono ?_
  rintro e w2 ⟨rfl,hb2⟩
  have HI2:Hid _:=HI1.out.after hb2
  clear hb2 HI1 c0 c1 c2 c3 c4 c5 c6
  obtain⟨_,c0,c1,c2,c3,c4,c5,c6⟩:=HI2.out.at_
  simp only[Nat.zero_add]at c0 c1 c2 c3 c4 c5 c6
  generalize strOfNums (vw l seen by_)=s at*
  generalize cnt l seen by_=n at*
  by_cases h1:n<at_
  ·rw[if_pos (.inl h1)]at HM
   go_wp2
   go_ret
   exact⟨zae HM.out.symm,HI2.out.below⟩
  by_cases h2:n<at_+many
  ·rw[if_pos (.inr h2)]at HM
   go_wp2
   go_ret
   exact⟨zae HM.out.symm,HI2.out.below⟩
  rw[if_neg (by omega)]at HM
  by_cases h3:200<l.length+text.size
  ·rw[if_pos h3]at HM
   go_wp2
   go_ret
   exact⟨zae HM.out.symm,HI2.out.below⟩
  rw[if_neg h3]at HM
  go_wp2
  go_ret
  exact⟨zae HM.out.symm,HI2.out.below⟩
 have HM:Hid (zha l d=za9 d):=by show zha l d=_;rw[zha,if_pos hc]
 have hne:(za9 d != 0)=true:=by simp[hc]
 obtain⟨kind,by_,no,seen,at_,many,text⟩:=d
 clear hc
 go_enter Tryz.func147,Tryz.ntmps147
 go_wp2_with fail
 refine(zjf ⟨kind,by_,no,seen,at_,many,text⟩ _).mono ?_
 rintro e w1 ⟨rfl,hb1⟩
 have HI1:Hid _:=HI.out.after hb1
 clear hb1 HI
 generalize za9 ⟨kind,by_,no,seen,at_,many,text⟩=c at*
 go_wp2
 go_ret
 exact⟨zae HM.out.symm,HI1.out.below⟩
structure PI(w:World)(d:Dd)(v:Value)(l:List Ch)(u:Value)(z:List Ch)(wk:World):Prop where
 m:zhd w w.heap.size d v l wk
 own:Own wk (w.heap.size+1) u z
theorem PI.after{w wk w':World}{d:Dd}{v u:Value}{l z:List Ch}(h:PI w d v l u z wk)(hb:Below wk.heap.size wk w'):PI w d v l u z w':=⟨h.m.after hb,h.own.below hb⟩
theorem zhd.grown{w wk w':World}{d:Dd}{v:Value}{l:List Ch}{row:Option Nat}(h:zhd w w.heap.size d v l wk)(ho:Lst w v l)(hg:wk.grownBy w' row)(hr:∀k,row=some k->w.heap.size+1<=k):zhd w w.heap.size d v l w':=by
 have hlt:=h.at_.lt
 have hb:Below (w.heap.size+1) wk w':=(Below.refl _ _).grown hg (by omega) hr
 have hc:∀o,w'.cell? ⟨w.heap.size,o,none⟩=wk.cell? ⟨w.heap.size,o,none⟩:=fun o=>hb.cell (p:=⟨w.heap.size,o,none⟩) (Nat.lt_succ_self _)
 have hbl:Below w.heap.size w w':=h.below.trans (hb.mono (by omega))
 obtain⟨c,c0,c1,c2,c3,c4,c5,c6⟩:=h.at_
 refine⟨hbl,⟨by have:=hb.size;omega,?_,?_,?_,?_,?_,?_,?_⟩,ho.below hbl⟩<;>rw[hc]<;>assumption
theorem PI.grown{w wk w':World}{d:Dd}{v u u':Value}{l z z':List Ch}(h:PI w d v l u z wk)(ho:Lst w v l)(hg:wk.grownBy w' u.ownBlock)(hz:Own w' (w.heap.size+1) u' z'):PI w d v l u' z' w':=
 ⟨h.m.grown ho hg (fun k hk=>(World.ownsRow.lt h.own k hk).1),hz⟩
theorem PI.size{w wk:World}{d:Dd}{v u:Value}{l z:List Ch}(h:PI w d v l u z wk):w.heap.size+1<=wk.heap.size:=by have:=h.m.at_.lt;omega
theorem zqt{by_:Int}{l:List Ch}{p j:Nat}(h:p+j<l.length)(hj:j<=zbm by_ (l.drop p))(hn:¬(l[p+j].inn=za3/\l[p+j].by_≠by_)):zbm by_ (l.drop p)=j:=by
 have key:∀(r:List Ch) (j:Nat) (hr:j<r.length),j<=zbm by_ r->¬(r[j].inn=za3/\r[j].by_≠by_)->zbm by_ r=j:=by
  intro r
  induction r with
  |nil=>intro j hr;exact absurd hr (Nat.not_lt_zero _)
  |cons x r ih=>
   intro j hr hj hn
   rw[zbm]at hj⊢
   cases j with
   |zero=>rw[if_neg (show¬(x.inn=za3/\x.by_≠by_) from hn)]
   |succ j=>
    split at hj
    ·rename_i hx
     rw[if_pos hx,ih j (by simpa using hr) (by omega) hn]
    omega
 refine key (l.drop p) j (by rw[List.length_drop];omega) hj ?_
 rw[List.getElem_drop]
 exact hn
theorem qat{by_:Int}{l:List Ch}{p j:Nat}(h:p+j<l.length)(hj:j<=zbm by_ (l.drop p))(hn:l[p+j].inn=za3/\l[p+j].by_≠by_):j+1<=zbm by_ (l.drop p):=by
 have key:∀(r:List Ch) (j:Nat) (hr:j<r.length),j<=zbm by_ r->(r[j].inn=za3/\r[j].by_≠by_)->j+1<=zbm by_ r:=by
  intro r
  induction r with
  |nil=>intro j hr;exact absurd hr (Nat.not_lt_zero _)
  |cons x r ih=>
   intro j hr hj hn
   rw[zbm]at hj⊢
   cases j with
   |zero=>rw[if_pos (show x.inn=za3/\x.by_≠by_ from hn)];omega
   |succ j=>
    split at hj
    ·rename_i hx
     have:=ih j (by simpa using hr) (by omega) hn
     rw[if_pos hx];omega
    omega
 refine key (l.drop p) j (by rw[List.length_drop];omega) hj ?_
 rw[List.getElem_drop]
 exact hn
theorem zua(l:List Ch)(d:Dd)(number:Int)(v:Value)(w:World)(h:Lst w v l)(hl:l.length<=1000)(ht:zi2 l)(hk:d.kind=1)(hc:doC l d number=0):
 Calls Tryz.prog 103 #[v,ddV d,.int .i64 number] w fun e w'=>∃v',e= .returned (.tuple #[v',.int .i64 0])/\Own w' w.heap.size v' (doL l d number)/\Below w.heap.size w w':=by
 have HI:=hid (zdb (d:=d) h)
 have H0:=hid h
 obtain⟨ad,cap,rfl,hcap⟩:=h.len
 obtain⟨q1,q2,q3,q4⟩:=zc0 hc
 have HM:Hid (zha l d=0):=by
  show zha l d=0
  unfold doC at hc
  by_cases hm:zha l d=0
  ·exact hm
  rw[if_pos hm]at hc;exact hc
 obtain⟨_,_,_,_,_,_,p1,p2,p3,p4,p5,_⟩:=zah q1
 have HD:Hid (∀p,zaa d.seen d.by_ d.at_.toNat l=some p->doL l d number=l.take (p+zbm d.by_ (l.drop p))++(zez d number++l.drop (p+zbm d.by_ (l.drop p)))):=by
  intro p hp
  rw[doL,if_pos hk,zb7,hp]
 have hts:=(p5 hk).2.1
 have HT:=hid ht
 obtain⟨kind,by_,no,seen,at_,many,text⟩:=d
 simp only at q2 q3 p1 p2 p3 hts HD
 obtain rfl:kind=1:=hk
 clear h hc p5 ht
 go_enter Tryz.func103,Tryz.ntmps103
 go_wp2_with fail
 refine(zlf l ⟨1,by_,no,seen,at_,many,text⟩ _ _ HI.out.lst hl HT.out).mono ?_
 rintro e w1 ⟨rfl,hb⟩
 rw[HM.out]
 have HI1:Hid _:=HI.out.after hb
 clear hb HI
 obtain⟨_,c0,c1,c2,c3,c4,c5,c6⟩:=HI1.out.at_
 simp only[Nat.zero_add]at c0 c1 c2 c3 c4 c5 c6
 go_wp2_with fail
 clear c0 c1 c2 c3 c4 c5 c6
 refine(zs8 HI1.out.lst hl HT.out seen by_ at_ p1 (by omega)).mono ?_
 rintro e w2 ⟨p,rfl,hp,hpl,hb⟩
 have HP:Hid _:=HD.out p hp
 have HI2:Hid _:=HI1.out.after hb
 clear hb HI1 HD hp
 go_wp2
 go_loopw [10] (fun i wr=>∃j:Nat,j<=zbm by_ (l.drop p)/\i= .int .i64 ((p+j:Nat):Int)/\Hid (zhd w w.heap.size ⟨1,by_,no,seen,at_,many,text⟩ (.slice ad l.length cap) l wr)) (fun i _=>l.length-(intOf i).toNat)
 case atStart=>exact⟨0,Nat.zero_le _,rfl,HI2⟩
 obtain⟨j,hj,rfl,HI3⟩:=hrel
 clear HI2
 have hsk:=znp by_ (l.drop p)
 rw[List.length_drop]at hsk
 have hpj:p+j<=l.length:=by omega
 have HSK:=hid hj
 clear hj hsk
 obtain⟨_,c0,c1,c2,c3,c4,c5,c6⟩:=HI3.out.at_
 simp only[Nat.zero_add]at c0 c1 c2 c3 c4 c5 c6
 by_cases hlt:p+j<l.length
 ·have hxx:∃x,x=l[p+j]:=⟨_,rfl⟩
  obtain⟨x,hx⟩:=hxx
  have HX:=hid hx
  obtain⟨b,off,rfl,hr⟩:∃b off,ad=some ⟨b,off,none⟩/\Row wr b off l:=by
   obtain⟨a',len',cap',he,h1,h2,h3⟩:=HI3.out.lst
   simp only[Value.slice.injEq]at he
   obtain⟨rfl,rfl,rfl⟩:=he
   rcases h3 with h3|⟨b,off,h3,hr⟩
   ·omega
   exact⟨b,off,h3,hr⟩
  obtain⟨g0,g1,g2,g3,g4,g5,g6⟩:=hr.at_ (p+j) hlt
  rw[<-hx]at g0 g1 g2 g3 g4 g5 g6
  clear hr hx
  by_cases ho:x.inn=1073741824
  ·by_cases hby:x.by_=by_
   ·have HEQ:Hid (zbm by_ (l.drop p)=j):=zqt hlt HSK.out (by rw[<-HX.out];exact fun e=>e.2 hby)
    have HP2:Hid _:=HP.out
    rw[HEQ.out]at HP2
    have ho':(x.inn==1073741824)=true:=by simp[ho]
    have hb':(x.by_ != by_)=false:=by simp[hby]
    clear HEQ HSK HX ho hby HP
    generalize p+j=q at*
    go_wp2
    go_quiet (fail)
    go_wp2
    clear g0 g1 g2 g3 g4 g5 g6 c0 c1 c2 c3 c4 c5 c6 ho' hb'
    generalize hw3:wr.drewN nq=w3 at*
    have HK3:Hid (PI w ⟨1,by_,no,seen,at_,many,text⟩ (.slice (some ⟨b,off,none⟩) l.length cap) l (.slice none 0 0) [] w3):=by
     show PI _ _ _ _ _ _ _
     rw[<-hw3]
     exact⟨HI3.out.after (below_drewN (Below.refl _ _) _),zd6 _ _⟩
    obtain⟨aa,na,ca,hva,hvl⟩:∃aa na ca,(∀w,(Instr.sliceAt 91 (.slice (some ⟨b,off,none⟩) l.length cap) none (some (.int .i64 q)) none).run Tryz.prog w= .ok (.slice aa na ca) w)/\∀wk,Lst wk (.slice (some ⟨b,off,none⟩) l.length cap) l->Lst wk (.slice aa na ca) (l.take q):=⟨_,_,_,zeb _ l.length cap q (by omega),fun wk h=>zia h hpj⟩
    obtain⟨ab,nb,cb,hvb,hvd⟩:∃ab nb cb,(∀w,(Instr.sliceAt 91 (.slice (some ⟨b,off,none⟩) l.length cap) (some (.int .i64 q)) none none).run Tryz.prog w= .ok (.slice ab nb cb) w)/\∀wk,Lst wk (.slice (some ⟨b,off,none⟩) l.length cap) l->Lst wk (.slice ab nb cb) (l.drop q):=⟨_,_,_,zec _ l.length cap q hpj,fun wk h=>zib h hpj⟩
    have HVL:Hid _:=hvl
    have HVD:Hid _:=hvd
    have HVA:Hid _:=hva
    have HLT:Hid ((l.take q).length<=1000):=by show _<=_;rw[List.length_take];omega
    have HLN:Hid ((zez ⟨1,by_,no,seen,at_,many,text⟩ number).length<=20):=by show _<=_;rw[zg7];exact hts
    have HLD:Hid ((l.drop q).length<=1000):=by show _<=_;rw[List.length_drop];omega
    clear hvl hvd hva hw3 HI3 HM
    refine wrs (fun wk=>zhd w w.heap.size ⟨1,by_,no,seen,at_,many,text⟩ (.slice (some ⟨b,off,none⟩) l.length cap) l wk) (fun i=>i==4||i==7||i==8) (fun wk=>PI w ⟨1,by_,no,seen,at_,many,text⟩ (.slice (some ⟨b,off,none⟩) l.length cap) l (.slice none 0 0) [] wk) (by kernel_rfl) (by kernel_rfl) (by kernel_rfl) (fun _ h=>h.m) (HK3.out.after (Below.refl _ _).drew) ?_
    iterate 3 (refine wss rfl (fun K hK=> ?_);go_simp;refine⟨_,fun _ _=>rfl,hK _ ?_⟩;clear hK K)
    refine wss rfl (fun K hK=> ?_)
    rw[if_pos (by rfl)]
    refine⟨.slice aa na ca,fun wk hwk=>zd1 rfl (HVA.out wk),hK _ ?_⟩
    clear hK K
    refine wsp rfl rfl (fun u=>∃a n c,u= .slice a n c) (fun u wk=>PI w ⟨1,by_,no,seen,at_,many,text⟩ (.slice (some ⟨b,off,none⟩) l.length cap) l u ([]++l.take q) wk) ⟨_,none,0,0,rfl⟩ (fun _ _ h=>h.m) (fun wk hwk=> ?_) (fun v4 hv4=> ?_)
    ·refine zdk (v:= .slice none 0 0) (u:= .slice aa na ca) rfl rfl rfl hwk.own (HVL.out _ hwk.m.lst) ?_ hwk.size ?_
     ·have:=HLT.out;simp at this⊢;omega
     intro v' w' ho hg
     obtain⟨a4,c4,rfl,_⟩:=ho.lst.len
     exact⟨⟨_,_,_,rfl⟩,hwk.grown H0.out hg ho⟩
    obtain⟨a4,n4,c4,rfl⟩:=hv4
    refine wss rfl (fun K hK=> ?_)
    go_simp
    refine⟨ddV ⟨1,by_,no,seen,at_,many,text⟩,fun wk hwk=> ?_,hK _ ?_⟩
    ·obtain⟨_,c0,c1,c2,c3,c4,c5,c6⟩:=hwk.at_
     simp only[Nat.zero_add]at c0 c1 c2 c3 c4 c5 c6
     go_simp
    clear hK K
    refine wss rfl (fun K hK=> ?_)
    go_simp
    refine⟨_,fun _ _=>rfl,hK _ ?_⟩
    clear hK K
    refine wsp rfl rfl (fun u=>∃a n c,u= .slice a n c) (fun u wk=>PI w ⟨1,by_,no,seen,at_,many,text⟩ (.slice (some ⟨b,off,none⟩) l.length cap) l (.slice a4 n4 c4) ([]++l.take q) wk/\Lst wk u (zez ⟨1,by_,no,seen,at_,many,text⟩ number)) ⟨_,none,0,0,rfl⟩ (fun _ _ h=>h.1.m) (fun wk hwk=> ?_) (fun v5 hv5=> ?_)
    ·go_simp
     refine(zkz ⟨1,by_,no,seen,at_,many,text⟩ number wk (by simp only;omega)).mono ?_
     rintro e w5 ⟨u,rfl,ho,hb⟩
     obtain⟨a5,c5,rfl,_⟩:=ho.lst.len
     exact⟨_,rfl,⟨_,_,_,rfl⟩,hwk.after hb,ho.lst⟩
    obtain⟨a5,n5,c5,rfl⟩:=hv5
    refine wsp rfl rfl (fun u=>∃a n c,u= .slice a n c) (fun u wk=>PI w ⟨1,by_,no,seen,at_,many,text⟩ (.slice (some ⟨b,off,none⟩) l.length cap) l u ([]++l.take q++zez ⟨1,by_,no,seen,at_,many,text⟩ number) wk) ⟨_,none,0,0,rfl⟩ (fun _ _ h=>h.m) (fun wk hwk=> ?_) (fun v6 hv6=> ?_)
    ·refine zdk (v:= .slice a4 n4 c4) (u:= .slice a5 n5 c5) rfl rfl rfl hwk.1.own hwk.2 ?_ hwk.1.size ?_
     ·have:=HLT.out;have:=HLN.out;simp only[List.nil_append];omega
     intro v' w' ho hg
     obtain⟨a6,c6,rfl,_⟩:=ho.lst.len
     exact⟨⟨_,_,_,rfl⟩,hwk.1.grown H0.out hg ho⟩
    obtain⟨a6,n6,c6,rfl⟩:=hv6
    refine wss rfl (fun K hK=> ?_)
    go_simp
    refine⟨_,fun _ _=>rfl,hK _ ?_⟩
    clear hK K
    refine wsn (fun w7 hw7=> ?_)
    have H7:Hid _:=hw7
    clear hw7
    go_wp2_with (at_builtin;refine zbd _ rfl (.tmp 68) (.tmp 71) rfl (w.heap.size+1) (v:= .slice a6 n6 c6) (u:= .slice ab nb cb) rfl rfl H7.out.own (HVD.out _ H7.out.m.lst) ?c0 H7.out.size ?_)
    case c0=>have:=HLT.out;have:=HLN.out;have:=HLD.out;simp only[List.nil_append,List.length_append];omega
    intro v8 w8 ho hg
    have H8:=hid (H7.out.grown H0.out hg ho)
    clear ho hg H7
    go_wp2
    go_ret2
    refine⟨v8,rfl,?_,H8.out.m.below⟩
    rw[HP2.out]
    have:=H8.out.own.mono (base':=w.heap.size) (by omega)
    simpa only[List.nil_append,List.append_assoc]using this
   have HNX:Hid (j+1<=zbm by_ (l.drop p)):=qat hlt HSK.out (by rw[<-HX.out];exact⟨ho,hby⟩)
   have ho':(x.inn==1073741824)=true:=by simp[ho]
   have hb':(x.by_ != by_)=true:=by simp[hby]
   clear HSK HX ho hby
   generalize hq:p+j=q at*
   have HQ:=hid hq
   clear hq
   go_wp2
   go_quiet (fail)
   go_wp2
   clear g0 g1 g2 g3 g4 g5 g6 c0 c1 c2 c3 c4 c5 c6 ho' hb'
   go_roundw
   case rel=>exact⟨j+1,HNX.out,by rw[show p+(j+1)=q+1 by have:=HQ.out;omega];go_num,HI3.out.after (below_drewN (Below.refl _ _) _)⟩
   case measure=>simp[intOf];omega
  have HEQ:Hid (zbm by_ (l.drop p)=j):=zqt hlt HSK.out (by rw[<-HX.out];exact fun e=>ho e.1)
  have HP2:Hid _:=HP.out
  rw[HEQ.out]at HP2
  have ho':(x.inn==1073741824)=false:=by simp[ho]
  clear HEQ HSK HX ho HP
  generalize p+j=q at*
  go_wp2
  go_quiet (fail)
  go_wp2
  clear g0 g1 g2 g3 g4 g5 g6 c0 c1 c2 c3 c4 c5 c6 ho'
  generalize hw3:wr.drewN nq=w3 at*
  have HK3:Hid (PI w ⟨1,by_,no,seen,at_,many,text⟩ (.slice (some ⟨b,off,none⟩) l.length cap) l (.slice none 0 0) [] w3):=by
   show PI _ _ _ _ _ _ _
   rw[<-hw3]
   exact⟨HI3.out.after (below_drewN (Below.refl _ _) _),zd6 _ _⟩
  obtain⟨aa,na,ca,hva,hvl⟩:∃aa na ca,(∀w,(Instr.sliceAt 91 (.slice (some ⟨b,off,none⟩) l.length cap) none (some (.int .i64 q)) none).run Tryz.prog w= .ok (.slice aa na ca) w)/\∀wk,Lst wk (.slice (some ⟨b,off,none⟩) l.length cap) l->Lst wk (.slice aa na ca) (l.take q):=⟨_,_,_,zeb _ l.length cap q (by omega),fun wk h=>zia h hpj⟩
  obtain⟨ab,nb,cb,hvb,hvd⟩:∃ab nb cb,(∀w,(Instr.sliceAt 91 (.slice (some ⟨b,off,none⟩) l.length cap) (some (.int .i64 q)) none none).run Tryz.prog w= .ok (.slice ab nb cb) w)/\∀wk,Lst wk (.slice (some ⟨b,off,none⟩) l.length cap) l->Lst wk (.slice ab nb cb) (l.drop q):=⟨_,_,_,zec _ l.length cap q hpj,fun wk h=>zib h hpj⟩
  have HVL:Hid _:=hvl
  have HVD:Hid _:=hvd
  have HVA:Hid _:=hva
  have HLT:Hid ((l.take q).length<=1000):=by show _<=_;rw[List.length_take];omega
  have HLN:Hid ((zez ⟨1,by_,no,seen,at_,many,text⟩ number).length<=20):=by show _<=_;rw[zg7];exact hts
  have HLD:Hid ((l.drop q).length<=1000):=by show _<=_;rw[List.length_drop];omega
  clear hvl hvd hva hw3 HI3 HM
  refine wrs (fun wk=>zhd w w.heap.size ⟨1,by_,no,seen,at_,many,text⟩ (.slice (some ⟨b,off,none⟩) l.length cap) l wk) (fun i=>i==4||i==7||i==8) (fun wk=>PI w ⟨1,by_,no,seen,at_,many,text⟩ (.slice (some ⟨b,off,none⟩) l.length cap) l (.slice none 0 0) [] wk) (by kernel_rfl) (by kernel_rfl) (by kernel_rfl) (fun _ h=>h.m) (HK3.out.after (Below.refl _ _).drew) ?_
  iterate 3 (refine wss rfl (fun K hK=> ?_);go_simp;refine⟨_,fun _ _=>rfl,hK _ ?_⟩;clear hK K)
  refine wss rfl (fun K hK=> ?_)
  rw[if_pos (by rfl)]
  refine⟨.slice aa na ca,fun wk hwk=>zd1 rfl (HVA.out wk),hK _ ?_⟩
  clear hK K
  refine wsp rfl rfl (fun u=>∃a n c,u= .slice a n c) (fun u wk=>PI w ⟨1,by_,no,seen,at_,many,text⟩ (.slice (some ⟨b,off,none⟩) l.length cap) l u ([]++l.take q) wk) ⟨_,none,0,0,rfl⟩ (fun _ _ h=>h.m) (fun wk hwk=> ?_) (fun v4 hv4=> ?_)
  ·refine zdk (v:= .slice none 0 0) (u:= .slice aa na ca) rfl rfl rfl hwk.own (HVL.out _ hwk.m.lst) ?_ hwk.size ?_
   ·have:=HLT.out;simp at this⊢;omega
   intro v' w' ho hg
   obtain⟨a4,c4,rfl,_⟩:=ho.lst.len
   exact⟨⟨_,_,_,rfl⟩,hwk.grown H0.out hg ho⟩
  obtain⟨a4,n4,c4,rfl⟩:=hv4
  refine wss rfl (fun K hK=> ?_)
  go_simp
  refine⟨ddV ⟨1,by_,no,seen,at_,many,text⟩,fun wk hwk=> ?_,hK _ ?_⟩
  ·obtain⟨_,c0,c1,c2,c3,c4,c5,c6⟩:=hwk.at_
   simp only[Nat.zero_add]at c0 c1 c2 c3 c4 c5 c6
   go_simp
  clear hK K
  refine wss rfl (fun K hK=> ?_)
  go_simp
  refine⟨_,fun _ _=>rfl,hK _ ?_⟩
  clear hK K
  refine wsp rfl rfl (fun u=>∃a n c,u= .slice a n c) (fun u wk=>PI w ⟨1,by_,no,seen,at_,many,text⟩ (.slice (some ⟨b,off,none⟩) l.length cap) l (.slice a4 n4 c4) ([]++l.take q) wk/\Lst wk u (zez ⟨1,by_,no,seen,at_,many,text⟩ number)) ⟨_,none,0,0,rfl⟩ (fun _ _ h=>h.1.m) (fun wk hwk=> ?_) (fun v5 hv5=> ?_)
  ·go_simp
   refine(zkz ⟨1,by_,no,seen,at_,many,text⟩ number wk (by simp only;omega)).mono ?_
   rintro e w5 ⟨u,rfl,ho,hb⟩
   obtain⟨a5,c5,rfl,_⟩:=ho.lst.len
   exact⟨_,rfl,⟨_,_,_,rfl⟩,hwk.after hb,ho.lst⟩
  obtain⟨a5,n5,c5,rfl⟩:=hv5
  refine wsp rfl rfl (fun u=>∃a n c,u= .slice a n c) (fun u wk=>PI w ⟨1,by_,no,seen,at_,many,text⟩ (.slice (some ⟨b,off,none⟩) l.length cap) l u ([]++l.take q++zez ⟨1,by_,no,seen,at_,many,text⟩ number) wk) ⟨_,none,0,0,rfl⟩ (fun _ _ h=>h.m) (fun wk hwk=> ?_) (fun v6 hv6=> ?_)
  ·refine zdk (v:= .slice a4 n4 c4) (u:= .slice a5 n5 c5) rfl rfl rfl hwk.1.own hwk.2 ?_ hwk.1.size ?_
   ·have:=HLT.out;have:=HLN.out;simp only[List.nil_append];omega
   intro v' w' ho hg
   obtain⟨a6,c6,rfl,_⟩:=ho.lst.len
   exact⟨⟨_,_,_,rfl⟩,hwk.1.grown H0.out hg ho⟩
  obtain⟨a6,n6,c6,rfl⟩:=hv6
  refine wss rfl (fun K hK=> ?_)
  go_simp
  refine⟨_,fun _ _=>rfl,hK _ ?_⟩
  clear hK K
  refine wsn (fun w7 hw7=> ?_)
  have H7:Hid _:=hw7
  clear hw7
  go_wp2_with (at_builtin;refine zbd _ rfl (.tmp 68) (.tmp 71) rfl (w.heap.size+1) (v:= .slice a6 n6 c6) (u:= .slice ab nb cb) rfl rfl H7.out.own (HVD.out _ H7.out.m.lst) ?c0 H7.out.size ?_)
  case c0=>have:=HLT.out;have:=HLN.out;have:=HLD.out;simp only[List.nil_append,List.length_append];omega
  intro v8 w8 ho hg
  have H8:=hid (H7.out.grown H0.out hg ho)
  clear ho hg H7
  go_wp2
  go_ret2
  refine⟨v8,rfl,?_,H8.out.m.below⟩
  rw[HP2.out]
  have:=H8.out.own.mono (base':=w.heap.size) (by omega)
  simpa only[List.nil_append,List.append_assoc]using this
 have HEQ:Hid (zbm by_ (l.drop p)=j):=by
  have h1:=znp by_ (l.drop p)
  have h2:=HSK.out
  rw[List.length_drop]at h1
  show _=_
  omega
 have HP2:Hid _:=HP.out
 rw[HEQ.out]at HP2
 have hlt':¬(((p+j:Nat):Int)<(l.length:Int)):=by omega
 clear HEQ HSK HP
 generalize p+j=q at*
 go_wp2
 go_quiet (fail)
 go_wp2
 clear c0 c1 c2 c3 c4 c5 c6
 generalize hw3:wr.drewN nq=w3 at*
 have HK3:Hid (PI w ⟨1,by_,no,seen,at_,many,text⟩ (.slice ad l.length cap) l (.slice none 0 0) [] w3):=by
  show PI _ _ _ _ _ _ _
  rw[<-hw3]
  exact⟨HI3.out.after (below_drewN (Below.refl _ _) _),zd6 _ _⟩
 obtain⟨aa,na,ca,hva,hvl⟩:∃aa na ca,(∀w,(Instr.sliceAt 91 (.slice ad l.length cap) none (some (.int .i64 q)) none).run Tryz.prog w= .ok (.slice aa na ca) w)/\∀wk,Lst wk (.slice ad l.length cap) l->Lst wk (.slice aa na ca) (l.take q):=⟨_,_,_,zeb _ l.length cap q (by omega),fun wk h=>zia h hpj⟩
 obtain⟨ab,nb,cb,hvb,hvd⟩:∃ab nb cb,(∀w,(Instr.sliceAt 91 (.slice ad l.length cap) (some (.int .i64 q)) none none).run Tryz.prog w= .ok (.slice ab nb cb) w)/\∀wk,Lst wk (.slice ad l.length cap) l->Lst wk (.slice ab nb cb) (l.drop q):=⟨_,_,_,zec _ l.length cap q hpj,fun wk h=>zib h hpj⟩
 have HVL:Hid _:=hvl
 have HVD:Hid _:=hvd
 have HVA:Hid _:=hva
 have HLT:Hid ((l.take q).length<=1000):=by show _<=_;rw[List.length_take];omega
 have HLN:Hid ((zez ⟨1,by_,no,seen,at_,many,text⟩ number).length<=20):=by show _<=_;rw[zg7];exact hts
 have HLD:Hid ((l.drop q).length<=1000):=by show _<=_;rw[List.length_drop];omega
 clear hvl hvd hva hw3 HI3 HM
 refine wrs (fun wk=>zhd w w.heap.size ⟨1,by_,no,seen,at_,many,text⟩ (.slice ad l.length cap) l wk) (fun i=>i==4||i==7||i==8) (fun wk=>PI w ⟨1,by_,no,seen,at_,many,text⟩ (.slice ad l.length cap) l (.slice none 0 0) [] wk) (by kernel_rfl) (by kernel_rfl) (by kernel_rfl) (fun _ h=>h.m) (HK3.out.after (Below.refl _ _).drew) ?_
 iterate 3 (refine wss rfl (fun K hK=> ?_);go_simp;refine⟨_,fun _ _=>rfl,hK _ ?_⟩;clear hK K)
 refine wss rfl (fun K hK=> ?_)
 rw[if_pos (by rfl)]
 refine⟨.slice aa na ca,fun wk hwk=>zd1 rfl (HVA.out wk),hK _ ?_⟩
 clear hK K
 refine wsp rfl rfl (fun u=>∃a n c,u= .slice a n c) (fun u wk=>PI w ⟨1,by_,no,seen,at_,many,text⟩ (.slice ad l.length cap) l u ([]++l.take q) wk) ⟨_,none,0,0,rfl⟩ (fun _ _ h=>h.m) (fun wk hwk=> ?_) (fun v4 hv4=> ?_)
 ·refine zdk (v:= .slice none 0 0) (u:= .slice aa na ca) rfl rfl rfl hwk.own (HVL.out _ hwk.m.lst) ?_ hwk.size ?_
  ·have:=HLT.out;simp at this⊢;omega
  intro v' w' ho hg
  obtain⟨a4,c4,rfl,_⟩:=ho.lst.len
  exact⟨⟨_,_,_,rfl⟩,hwk.grown H0.out hg ho⟩
 obtain⟨a4,n4,c4,rfl⟩:=hv4
 refine wss rfl (fun K hK=> ?_)
 go_simp
 refine⟨ddV ⟨1,by_,no,seen,at_,many,text⟩,fun wk hwk=> ?_,hK _ ?_⟩
 ·obtain⟨_,c0,c1,c2,c3,c4,c5,c6⟩:=hwk.at_
  simp only[Nat.zero_add]at c0 c1 c2 c3 c4 c5 c6
  go_simp
 clear hK K
 refine wss rfl (fun K hK=> ?_)
 go_simp
 refine⟨_,fun _ _=>rfl,hK _ ?_⟩
 clear hK K
 refine wsp rfl rfl (fun u=>∃a n c,u= .slice a n c) (fun u wk=>PI w ⟨1,by_,no,seen,at_,many,text⟩ (.slice ad l.length cap) l (.slice a4 n4 c4) ([]++l.take q) wk/\Lst wk u (zez ⟨1,by_,no,seen,at_,many,text⟩ number)) ⟨_,none,0,0,rfl⟩ (fun _ _ h=>h.1.m) (fun wk hwk=> ?_) (fun v5 hv5=> ?_)
 ·go_simp
  refine(zkz ⟨1,by_,no,seen,at_,many,text⟩ number wk (by simp only;omega)).mono ?_
  rintro e w5 ⟨u,rfl,ho,hb⟩
  obtain⟨a5,c5,rfl,_⟩:=ho.lst.len
  exact⟨_,rfl,⟨_,_,_,rfl⟩,hwk.after hb,ho.lst⟩
 obtain⟨a5,n5,c5,rfl⟩:=hv5
 refine wsp rfl rfl (fun u=>∃a n c,u= .slice a n c) (fun u wk=>PI w ⟨1,by_,no,seen,at_,many,text⟩ (.slice ad l.length cap) l u ([]++l.take q++zez ⟨1,by_,no,seen,at_,many,text⟩ number) wk) ⟨_,none,0,0,rfl⟩ (fun _ _ h=>h.m) (fun wk hwk=> ?_) (fun v6 hv6=> ?_)
 ·refine zdk (v:= .slice a4 n4 c4) (u:= .slice a5 n5 c5) rfl rfl rfl hwk.1.own hwk.2 ?_ hwk.1.size ?_
  ·have:=HLT.out;have:=HLN.out;simp only[List.nil_append];omega
  intro v' w' ho hg
  obtain⟨a6,c6,rfl,_⟩:=ho.lst.len
  exact⟨⟨_,_,_,rfl⟩,hwk.1.grown H0.out hg ho⟩
 obtain⟨a6,n6,c6,rfl⟩:=hv6
 refine wss rfl (fun K hK=> ?_)
 go_simp
 refine⟨_,fun _ _=>rfl,hK _ ?_⟩
 clear hK K
 refine wsn (fun w7 hw7=> ?_)
 have H7:Hid _:=hw7
 clear hw7
 go_wp2_with (at_builtin;refine zbd _ rfl (.tmp 68) (.tmp 71) rfl (w.heap.size+1) (v:= .slice a6 n6 c6) (u:= .slice ab nb cb) rfl rfl H7.out.own (HVD.out _ H7.out.m.lst) ?c0 H7.out.size ?_)
 case c0=>have:=HLT.out;have:=HLN.out;have:=HLD.out;simp only[List.nil_append,List.length_append];omega
 intro v8 w8 ho hg
 have H8:=hid (H7.out.grown H0.out hg ho)
 clear ho hg H7
 go_wp2
 go_ret2
 refine⟨v8,rfl,?_,H8.out.m.below⟩
 rw[HP2.out]
 have:=H8.out.own.mono (base':=w.heap.size) (by omega)
 simpa only[List.nil_append,List.append_assoc]using this
variable {w wk:World} {d:Dd} {v u:Value} {l z:List Ch} {C:Nat} {o c b no k i g by_:Int} {x:Ch}
structure TI(w:World)(d:Dd)(v:Value)(l:List Ch)(u:Value)(z:List Ch)(C:Nat)(x:Ch)(wk:World):Prop where
 p:PI w d v l u z wk
 lo:w.heap.size+1<=C
 lt:C<wk.heap.size
 ne:u.ownBlock≠some C
 at_:At wk C 0 x
 free:∀o,o<7->wk.frozen? ⟨C,o,none⟩=false
theorem TI.after{w wk w':World}{d:Dd}{v u:Value}{l z:List Ch}{C:Nat}{x:Ch}(h:TI w d v l u z C x wk)(hb:Below wk.heap.size wk w'):TI w d v l u z C x w':=by
 obtain⟨hc,hf⟩:=zdp hb
 refine⟨h.p.after hb,h.lo,Nat.lt_of_lt_of_le h.lt hb.size,h.ne,?_,fun o ho=>by rw[hf _ _ h.lt];exact h.free o ho⟩
 have:=h.at_
 unfold At at this⊢
 simp only[hc _ _ h.lt]
 exact this
theorem zyp(x:Ch)(h:PI w d v l u z wk):TI w d v l u z wk.heap.size x (wk.alloc (.cells #[.int .u8 x.c,.int .i64 x.by_,.int .i64 x.no,.int .i64 x.k,.int .i64 x.inn,.int .i64 x.out,.int .i64 x.gone] 127)):=by
 refine⟨h.after ((Below.refl _ _).alloc (Nat.le_refl _) _),h.size,by simp,fun e=> ?_,?_,fun o ho=> ?_⟩
 ·have:=(World.ownsRow.lt h.own _ e).2
  omega
 ·refine⟨?_,?_,?_,?_,?_,?_,?_⟩<;>simp[go_sem]
 rcases(show o=0\/o=1\/o=2\/o=3\/o=4\/o=5\/o=6 by omega)with rfl|rfl|rfl|rfl|rfl|rfl|rfl<;>simp[go_sem]
theorem PI.set{o:Nat}(h:PI w d v l u z wk)(h0:Lst w v l)(hC:w.heap.size+1<=C)(hne:u.ownBlock≠some C)(y:Value):PI w d v l u z (wk.setCell ⟨C,o,none⟩ y):=by
 have hb:Below (w.heap.size+1) wk (wk.setCell ⟨C,o,none⟩ y):=(Below.refl _ _).setCell (p:=⟨C,o,none⟩) hC _
 have hc:∀o',(wk.setCell ⟨C,o,none⟩ y).cell? ⟨w.heap.size,o',none⟩=wk.cell? ⟨w.heap.size,o',none⟩:=fun o'=>hb.cell (p:=⟨w.heap.size,o',none⟩) (Nat.lt_succ_self _)
 have hbl:Below w.heap.size w (wk.setCell ⟨C,o,none⟩ y):=h.m.below.trans (hb.mono (by omega))
 obtain⟨c,c0,c1,c2,c3,c4,c5,c6⟩:=h.m.at_
 refine⟨⟨hbl,⟨by have:=hb.size;omega,?_,?_,?_,?_,?_,?_,?_⟩,h0.below hbl⟩,?_⟩
 ·rw[hc];exact c0
 ·rw[hc];exact c1
 ·rw[hc];exact c2
 ·rw[hc];exact c3
 ·rw[hc];exact c4
 ·rw[hc];exact c5
 ·rw[hc];exact c6
 exact World.ownsRow.kept (row:=some C) h.own ⟨rfl,rfl,rfl,by simp[World.setCell],fun k _ hk=>Below.heap_setCell _ _ _ _ (fun e=>hk (by rw[e]))⟩ (.inr hne)
theorem TI.gone(h:TI w d v l u z C ⟨c,b,no,k,i,o,g⟩ wk)(h0:Lst w v l)(n:Int):TI w d v l u z C ⟨c,b,no,k,i,o,n⟩ (wk.setCell ⟨C,6,none⟩ (.int .i64 n)):=by
 obtain⟨a0,a1,a2,a3,a4,a5,a6⟩:=h.at_
 simp only[Nat.zero_add]at a0 a1 a2 a3 a4 a5 a6
 refine⟨h.p.set h0 h.lo h.ne _,h.lo,by simpa [World.setCell]using h.lt,h.ne,?_,fun o ho=> ?_⟩
 ·refine⟨?_,?_,?_,?_,?_,?_,?_⟩<;>simp[go_sem,a0,a1,a2,a3,a4,a5,a6]
 have:=h.free o ho
 simpa [go_sem]using this
theorem TI.out(h:TI w d v l u z C ⟨c,b,no,k,i,o,g⟩ wk)(h0:Lst w v l)(n:Int):TI w d v l u z C ⟨c,b,no,k,i,n,g⟩ (wk.setCell ⟨C,5,none⟩ (.int .i64 n)):=by
 obtain⟨a0,a1,a2,a3,a4,a5,a6⟩:=h.at_
 simp only[Nat.zero_add]at a0 a1 a2 a3 a4 a5 a6
 refine⟨h.p.set h0 h.lo h.ne _,h.lo,by simpa [World.setCell]using h.lt,h.ne,?_,fun o ho=> ?_⟩
 ·refine⟨?_,?_,?_,?_,?_,?_,?_⟩<;>simp[go_sem,a0,a1,a2,a3,a4,a5,a6]
 have:=h.free o ho
 simpa [go_sem]using this
theorem lst_one'(w:World)(x:Ch){n:Nat}(hn:n=w.heap.size):Lst (w.alloc (.cells #[.int .u8 x.c,.int .i64 x.by_,.int .i64 x.no,.int .i64 x.k,.int .i64 x.inn,.int .i64 x.out,.int .i64 x.gone] 127)) (.slice (some ⟨n,0,none⟩) 1 1) [x]:=by
 subst hn
 exact qez w x
def tkL(d:Dd)(number:Int)(l:List Ch)(k:Nat):List Ch:=zby d number 0 (l.take k)
theorem qdc(d:Dd)(number:Int)(l:List Ch)(k:Nat):(tkL d number l k).length<=l.length:=by
 rw[tkL,zgh,List.length_take]
 omega
theorem zyo(d:Dd)(number:Int){l:List Ch}{k:Nat}(hk:k<l.length):tkL d number l (k+1)=tkL d number l k++[if za7 d.seen d.by_ l[k]=true then(if d.at_<=cnt (l.take k) d.seen d.by_/\cnt (l.take k) d.seen d.by_<d.at_+d.many then zex d.by_ number l[k]else l[k])else l[k]]:=by
 rw[tkL,zcf l k hk,zly,Int.zero_add]
 rfl
theorem mark_num{number:Int}(hn:number<=1000)(t:Int)(ht:t=2 ^ by_.toNat):zex by_ number x=⟨x.c,x.by_,x.no,x.k,x.inn,if x.out=0\/number<x.out then number else x.out,x.gone+t⟩:=by
 have h:number≠za3:=by show number≠1073741824;omega
 rw[zex,zal,ht]
 simp only[h,ne_eq,not_false_eq_true,true_and]
theorem zz9(m:Nat):(2:Int) ^ (m+1)=2 ^ m*2:=Int.pow_succ 2 m
theorem zud{m:Nat}(h:m<=3):1<=(2:Int) ^ m/\(2:Int) ^ m<=8:=by
 rcases(show m=0\/m=1\/m=2\/m=3 by omega)with rfl|rfl|rfl|rfl<;>decide
theorem zov(b off len cap:Nat)(l:List Ch)(d:Dd)(number:Int)(w:World)(hl:l.length=len)(hm:len<=1000)(hr:Row w b off l)(hcap:len<=cap)(ht:zi2 l)(hk:d.kind≠1)(hc:doC l d number=0)(hnum:number<=1000):
 Calls Tryz.prog 103 #[.slice (some ⟨b,off,none⟩) len cap,ddV d,.int .i64 number] w fun e w'=>∃v',e= .returned (.tuple #[v',.int .i64 0])/\Own w' w.heap.size v' (doL l d number)/\Below w.heap.size w w':=by
 have H0:Hid (Lst w (.slice (some ⟨b,off,none⟩) len cap) l):=⟨_,_,_,rfl,hl,hcap,.inr ⟨b,off,rfl,hr⟩⟩
 have HI:=hid (zdb (d:=d) H0.out)
 have HR:=hid hr
 have HL:=hid hl
 have HT:=hid ht
 obtain⟨q1,q2,q3,q4⟩:=zc0 hc
 have HM:Hid (zha l d=0):=by
  show zha l d=0
  unfold doC at hc
  by_cases hm:zha l d=0
  ·exact hm
  rw[if_pos hm]at hc;exact hc
 obtain⟨_,hw,_,_,_,_,p1,p2,p3,p4,_,_⟩:=zah q1
 have HD:Hid (doL l d number=tkL d number l len):=by
  show doL l d number=_
  rw[doL,if_neg hk,tkL,<-hl,List.take_length]
 have hwb:0<=d.by_/\d.by_<=3:=by simpa [wrB]using hw
 have hk':(d.kind==1)=false:=by simp[hk]
 have hno':(number != 1073741824)=true:=by simp;omega
 obtain⟨kind,by_,no,seen,at_,many,text⟩:=d
 simp only at q2 q3 p1 p2 p3 p4 HD hwb hk'
 obtain⟨hb0,hb3⟩:=hwb
 obtain⟨q,rfl⟩:=Int.eq_ofNat_of_zero_le hb0
 clear hr hl ht hc hk hw
 go_enter Tryz.func103,Tryz.ntmps103
 go_wp2_with fail
 refine(zlf l ⟨kind,(q:Int),no,seen,at_,many,text⟩ _ _ HI.out.lst (by rw[HL.out];exact hm) HT.out).mono ?_
 rintro e w1 ⟨rfl,hb1⟩
 rw[HM.out]
 have HI1:Hid (PI w ⟨kind,(q:Int),no,seen,at_,many,text⟩ (.slice (some ⟨b,off,none⟩) len cap) l (.slice none 0 0) [] w1):=⟨HI.out.after hb1,zd6 _ _⟩
 clear hb1 HI HM
 obtain⟨_,c0,c1,c2,c3,c4,c5,c6⟩:=HI1.out.m.at_
 simp only[Nat.zero_add]at c0 c1 c2 c3 c4 c5 c6
 go_wp2
 clear c0 c1 c2 c3 c4 c5 c6
 go_loopw [9,11,12] (fun u n i wr=>∃k:Nat,k<=len/\i= .int .i64 k/\n= .int .i64 (cnt (l.take k) seen q)/\Hid (PI w ⟨kind,(q:Int),no,seen,at_,many,text⟩ (.slice (some ⟨b,off,none⟩) len cap) l u (tkL ⟨kind,(q:Int),no,seen,at_,many,text⟩ number l k) wr)) (fun _ _ i _=>len-(intOf i).toNat)
 case atStart=>exact⟨0,Nat.zero_le _,rfl,rfl,HI1⟩
 obtain⟨k,hk,rfl,rfl,HP⟩:=hrel
 clear HI1
 by_cases hlt:k<len
 ·have hkl:k<l.length:=by rw[HL.out];exact hlt
  obtain⟨t1,t2,t3,t4⟩:=zjp HT.out k hkl
  have hcb:=zn9 (l.take k) seen q
  have hle:(l.take k).length<=k:=List.length_take_le _ _
  have HCN:Hid (cnt (l.take (k+1)) seen q=cnt (l.take k) seen q+if za7 seen q l[k]=true then 1 else 0):=by show _=_;rw[zcf l k hkl];exact zih _ _ _ _
  have HN:Hid (_=_):=zyo ⟨kind,(q:Int),no,seen,at_,many,text⟩ number hkl
  have HZ:Hid ((tkL ⟨kind,(q:Int),no,seen,at_,many,text⟩ number l k).length<=1000):=by have:=qdc ⟨kind,(q:Int),no,seen,at_,many,text⟩ number l k;rw[HL.out]at this;show _<=_;omega
  have HMK:Hid (∀t:Int,t=2 ^ (q:Int).toNat->zex q number l[k]=_):=fun t=>mark_num (x:=l[k]) hnum t
  obtain⟨h0,h1,h2,h3,h4,h5,h6⟩:=(HR.out.below HP.out.m.below).at_ k hkl
  obtain⟨_,c0,c1,c2,c3,c4,c5,c6⟩:=HP.out.m.at_
  simp only[Nat.zero_add]at c0 c1 c2 c3 c4 c5 c6
  simp only at HN
  generalize l[k]=x at h0 h1 h2 h3 h4 h5 h6 HN HCN HMK t1 t2 t3 t4
  generalize cnt (l.take k) seen q=n at*
  generalize tkL ⟨kind,(q:Int),no,seen,at_,many,text⟩ number l k=zs at*
  obtain⟨xc,xb,xn,xk,xi,xo,xg⟩:=x
  simp only at h0 h1 h2 h3 h4 h5 h6 t1 t3 t4 HMK
  have HS:Hid (TI w ⟨kind,(q:Int),no,seen,at_,many,text⟩ (.slice (some ⟨b,off,none⟩) len cap) l u9 zs wr.heap.size ⟨xc,xb,xn,xk,xi,xo,xg⟩ (wr.alloc (.cells #[.int .u8 xc,.int .i64 xb,.int .i64 xn,.int .i64 xk,.int .i64 xi,.int .i64 xo,.int .i64 xg] 127))):=zyp ⟨xc,xb,xn,xk,xi,xo,xg⟩ HP.out
  obtain⟨hcb0,hcb1⟩:=hcb
  have hnk:n<=1000:=by omega
  clear hle hcb1
  go_wp2_with fail
  refine(zgl ⟨xc,xb,xn,xk,xi,xo,xg⟩ _ _ _ t1 (by simp only;omega) (by simp only;omega)).mono ?_
  rintro e w2 ⟨rfl,hb2⟩
  have HS2:=hid (HS.out.after hb2)
  generalize wr.heap.size=C at*
  clear h0 h1 h2 h3 h4 h5 h6 c0 c1 c2 c3 c4 c5 c6 hb2 HS
  obtain⟨_,c0,c1,c2,c3,c4,c5,c6⟩:=HS2.out.p.m.at_
  obtain⟨a0,a1,a2,a3,a4,a5,a6⟩:=HS2.out.at_
  have f5:=HS2.out.free 5 (by omega)
  have f6:=HS2.out.free 6 (by omega)
  simp only[Nat.zero_add]at c0 c1 c2 c3 c4 c5 c6 a0 a1 a2 a3 a4 a5 a6
  have hCw:¬C=w.heap.size:=by have:=HS2.out.lo;omega
  have hCw':¬w.heap.size=C:=by have:=HS2.out.lo;omega
  cases hs:za7 seen q ⟨xc,xb,xn,xk,xi,xo,xg⟩
  ·rw[hs]at HN HCN
   go_wp2_with (at_builtin;refine zbd _ rfl (.tmp 132) (.tmp 134) rfl (w.heap.size+1) (v:=u9) (u:= .slice (some ⟨_,0,none⟩) 1 1) (b:=[⟨xc,xb,xn,xk,xi,xo,xg⟩]) rfl rfl (HS2.out.p.own.below ((Below.refl _ _).alloc (Nat.le_refl _) _)) (lst_one' _ ⟨xc,xb,xn,xk,xi,xo,xg⟩ (by simp)) ?ca1 ?cb1 ?_)
   case ca1=>have:=HZ.out;simp;omega
   case cb1=>have:=HS2.out.p.size;simp at this⊢;omega
   intro v8 w8 ho hg
   have H8:Hid (PI w ⟨kind,(q:Int),no,seen,at_,many,text⟩ (.slice (some ⟨b,off,none⟩) len cap) l v8 (zs++[⟨xc,xb,xn,xk,xi,xo,xg⟩]) w8):=(HS2.out.p.after ((Below.refl _ _).alloc (Nat.le_refl _) _)).grown H0.out hg ho
   clear ho hg c0 c1 c2 c3 c4 c5 c6 a0 a1 a2 a3 a4 a5 a6 f5 f6 hCw hCw'
   go_wp2
   go_roundw
   case rel=>exact⟨k+1,by omega,by go_num,by rw[HCN.out];simp,by rw[HN.out];exact H8⟩
   case measure=>simp[intOf];omega
  rw[hs]at HN HCN
  by_cases hA:at_<=n
  ·by_cases hB:n<at_+many
   ·have HY:Hid (∀t:Int,t=2 ^ (q:Int).toNat->(if true=true then(if at_<=n/\n<at_+many then zex q number ⟨xc,xb,xn,xk,xi,xo,xg⟩else⟨xc,xb,xn,xk,xi,xo,xg⟩)else⟨xc,xb,xn,xk,xi,xo,xg⟩)=⟨xc,xb,xn,xk,xi,if xo=0\/number<xo then number else xo,xg+t⟩):=fun t e=>by rw[if_pos rfl,if_pos ⟨hA,hB⟩];exact HMK.out t e
    go_wp2
    go_loop [14,15] (fun bit j=>∃(m:Nat) (t:Int),m<=q/\j= .int .i64 m/\bit= .int .i64 t/\Hid (t=2 ^ m)) (fun _ j=>q-(intOf j).toNat)
    case atStart=>exact⟨0,1,Nat.zero_le _,rfl,rfl,rfl⟩
    obtain⟨m,t,hmq,rfl,rfl,HTM⟩:=hrel
    have htb:1<=t/\t<=8:=by rw[HTM.out];exact zud (by omega)
    obtain⟨ht1,ht8⟩:=htb
    by_cases hmlt:m<q
    ·go_wp2
     go_round
     case rel=>exact⟨m+1,t*2,by omega,by go_num,rfl,by show _=_;rw[zz9,HTM.out]⟩
     case measure=>simp[intOf];omega
    obtain rfl:m=q:=by omega
    have HYT:Hid _:=HY.out t (by rw[HTM.out];rfl)
    have HS3:Hid (TI w ⟨kind,(m:Int),no,seen,at_,many,text⟩ (.slice (some ⟨b,off,none⟩) len cap) l u9 zs C ⟨xc,xb,xn,xk,xi,xo,xg+t⟩ (w2.setCell ⟨C,6,none⟩ (.int .i64 (xg+t)))):=HS2.out.gone H0.out _
    clear HY HMK
    by_cases ho0:xo=0
    ·have ho0':(xo==0)=true:=by simp[ho0]
     have HYE:=HYT
     rw[if_pos (show xo=0\/number<xo from .inl ho0)]at HYE
     have HS4:Hid (TI w ⟨kind,(m:Int),no,seen,at_,many,text⟩ (.slice (some ⟨b,off,none⟩) len cap) l u9 zs C ⟨xc,xb,xn,xk,xi,number,xg+t⟩ ((w2.setCell ⟨C,6,none⟩ (.int .i64 (xg+t))).setCell ⟨C,5,none⟩ (.int .i64 number))):=HS3.out.out H0.out _
     clear ho0
     go_wp2_with (at_builtin;refine zbd _ rfl (.tmp 132) (.tmp 134) rfl (w.heap.size+1) (v:=u9) (u:= .slice (some ⟨_,0,none⟩) 1 1) (b:=[⟨xc,xb,xn,xk,xi,number,xg+t⟩]) rfl rfl (HS4.out.p.own.below ((Below.refl _ _).alloc (Nat.le_refl _) _)) (lst_one' _ ⟨xc,xb,xn,xk,xi,number,xg+t⟩ (by simp)) ?ca2 ?cb2 ?_)
     case ca2=>have:=HZ.out;simp;omega
     case cb2=>have:=HS4.out.p.size;simp at this⊢;omega
     intro v8 w8 ho hg
     have H8:Hid (PI w ⟨kind,(m:Int),no,seen,at_,many,text⟩ (.slice (some ⟨b,off,none⟩) len cap) l v8 (zs++[⟨xc,xb,xn,xk,xi,number,xg+t⟩]) w8):=(HS4.out.p.after ((Below.refl _ _).alloc (Nat.le_refl _) _)).grown H0.out hg ho
     clear ho hg c0 c1 c2 c3 c4 c5 c6 a0 a1 a2 a3 a4 a5 a6 f5 f6 hCw hCw'
     go_wp2
     go_roundw
     case rel=>exact⟨k+1,by omega,by go_num,by rw[HCN.out];simp,by rw[HN.out];rw[HYE.out];exact H8⟩
     case measure=>simp[intOf];omega
    have ho0':(xo==0)=false:=by simp[ho0]
    by_cases hog:number<xo
    ·have HYE:=HYT
     rw[if_pos (show xo=0\/number<xo from .inr hog)]at HYE
     have HS4:Hid (TI w ⟨kind,(m:Int),no,seen,at_,many,text⟩ (.slice (some ⟨b,off,none⟩) len cap) l u9 zs C ⟨xc,xb,xn,xk,xi,number,xg+t⟩ ((w2.setCell ⟨C,6,none⟩ (.int .i64 (xg+t))).setCell ⟨C,5,none⟩ (.int .i64 number))):=HS3.out.out H0.out _
     clear ho0
     go_wp2_with (at_builtin;refine zbd _ rfl (.tmp 132) (.tmp 134) rfl (w.heap.size+1) (v:=u9) (u:= .slice (some ⟨_,0,none⟩) 1 1) (b:=[⟨xc,xb,xn,xk,xi,number,xg+t⟩]) rfl rfl (HS4.out.p.own.below ((Below.refl _ _).alloc (Nat.le_refl _) _)) (lst_one' _ ⟨xc,xb,xn,xk,xi,number,xg+t⟩ (by simp)) ?ca3 ?cb3 ?_)
     case ca3=>have:=HZ.out;simp;omega
     case cb3=>have:=HS4.out.p.size;simp at this⊢;omega
     intro v8 w8 ho hg
     have H8:Hid (PI w ⟨kind,(m:Int),no,seen,at_,many,text⟩ (.slice (some ⟨b,off,none⟩) len cap) l v8 (zs++[⟨xc,xb,xn,xk,xi,number,xg+t⟩]) w8):=(HS4.out.p.after ((Below.refl _ _).alloc (Nat.le_refl _) _)).grown H0.out hg ho
     clear ho hg c0 c1 c2 c3 c4 c5 c6 a0 a1 a2 a3 a4 a5 a6 f5 f6 hCw hCw'
     go_wp2
     go_roundw
     case rel=>exact⟨k+1,by omega,by go_num,by rw[HCN.out];simp,by rw[HN.out];rw[HYE.out];exact H8⟩
     case measure=>simp[intOf];omega
    have HYE:=HYT
    rw[if_neg (show¬(xo=0\/number<xo) from fun e=>e.elim ho0 hog)]at HYE
    clear ho0
    go_wp2_with (at_builtin;refine zbd _ rfl (.tmp 132) (.tmp 134) rfl (w.heap.size+1) (v:=u9) (u:= .slice (some ⟨_,0,none⟩) 1 1) (b:=[⟨xc,xb,xn,xk,xi,xo,xg+t⟩]) rfl rfl (HS3.out.p.own.below ((Below.refl _ _).alloc (Nat.le_refl _) _)) (lst_one' _ ⟨xc,xb,xn,xk,xi,xo,xg+t⟩ (by simp)) ?ca4 ?cb4 ?_)
    case ca4=>have:=HZ.out;simp;omega
    case cb4=>have:=HS3.out.p.size;simp at this⊢;omega
    intro v8 w8 ho hg
    have H8:Hid (PI w ⟨kind,(m:Int),no,seen,at_,many,text⟩ (.slice (some ⟨b,off,none⟩) len cap) l v8 (zs++[⟨xc,xb,xn,xk,xi,xo,xg+t⟩]) w8):=(HS3.out.p.after ((Below.refl _ _).alloc (Nat.le_refl _) _)).grown H0.out hg ho
    clear ho hg c0 c1 c2 c3 c4 c5 c6 a0 a1 a2 a3 a4 a5 a6 f5 f6 hCw hCw'
    go_wp2
    go_roundw
    case rel=>exact⟨k+1,by omega,by go_num,by rw[HCN.out];simp,by rw[HN.out];rw[HYE.out];exact H8⟩
    case measure=>simp[intOf];omega
   have HYE:Hid ((if true=true then(if at_<=n/\n<at_+many then zex q number ⟨xc,xb,xn,xk,xi,xo,xg⟩else⟨xc,xb,xn,xk,xi,xo,xg⟩)else⟨xc,xb,xn,xk,xi,xo,xg⟩)=⟨xc,xb,xn,xk,xi,xo,xg⟩):=by show _=_;rw[if_pos rfl,if_neg (by omega)]
   go_wp2_with (at_builtin;refine zbd _ rfl (.tmp 132) (.tmp 134) rfl (w.heap.size+1) (v:=u9) (u:= .slice (some ⟨_,0,none⟩) 1 1) (b:=[⟨xc,xb,xn,xk,xi,xo,xg⟩]) rfl rfl (HS2.out.p.own.below ((Below.refl _ _).alloc (Nat.le_refl _) _)) (lst_one' _ ⟨xc,xb,xn,xk,xi,xo,xg⟩ (by simp)) ?ca5 ?cb5 ?_)
   case ca5=>have:=HZ.out;simp;omega
   case cb5=>have:=HS2.out.p.size;simp at this⊢;omega
   intro v8 w8 ho hg
   have H8:Hid (PI w ⟨kind,(q:Int),no,seen,at_,many,text⟩ (.slice (some ⟨b,off,none⟩) len cap) l v8 (zs++[⟨xc,xb,xn,xk,xi,xo,xg⟩]) w8):=(HS2.out.p.after ((Below.refl _ _).alloc (Nat.le_refl _) _)).grown H0.out hg ho
   clear ho hg c0 c1 c2 c3 c4 c5 c6 a0 a1 a2 a3 a4 a5 a6 f5 f6 hCw hCw'
   go_wp2
   go_roundw
   case rel=>exact⟨k+1,by omega,by go_num,by rw[HCN.out];simp,by rw[HN.out];rw[HYE.out];exact H8⟩
   case measure=>simp[intOf];omega
  have HYE:Hid ((if true=true then(if at_<=n/\n<at_+many then zex q number ⟨xc,xb,xn,xk,xi,xo,xg⟩else⟨xc,xb,xn,xk,xi,xo,xg⟩)else⟨xc,xb,xn,xk,xi,xo,xg⟩)=⟨xc,xb,xn,xk,xi,xo,xg⟩):=by show _=_;rw[if_pos rfl,if_neg (by omega)]
  go_wp2_with (at_builtin;refine zbd _ rfl (.tmp 132) (.tmp 134) rfl (w.heap.size+1) (v:=u9) (u:= .slice (some ⟨_,0,none⟩) 1 1) (b:=[⟨xc,xb,xn,xk,xi,xo,xg⟩]) rfl rfl (HS2.out.p.own.below ((Below.refl _ _).alloc (Nat.le_refl _) _)) (lst_one' _ ⟨xc,xb,xn,xk,xi,xo,xg⟩ (by simp)) ?ca6 ?cb6 ?_)
  case ca6=>have:=HZ.out;simp;omega
  case cb6=>have:=HS2.out.p.size;simp at this⊢;omega
  intro v8 w8 ho hg
  have H8:Hid (PI w ⟨kind,(q:Int),no,seen,at_,many,text⟩ (.slice (some ⟨b,off,none⟩) len cap) l v8 (zs++[⟨xc,xb,xn,xk,xi,xo,xg⟩]) w8):=(HS2.out.p.after ((Below.refl _ _).alloc (Nat.le_refl _) _)).grown H0.out hg ho
  clear ho hg c0 c1 c2 c3 c4 c5 c6 a0 a1 a2 a3 a4 a5 a6 f5 f6 hCw hCw'
  go_wp2
  go_roundw
  case rel=>exact⟨k+1,by omega,by go_num,by rw[HCN.out];simp,by rw[HN.out];rw[HYE.out];exact H8⟩
  case measure=>simp[intOf];omega
 obtain rfl:k=len:=by omega
 go_wp2
 go_ret2
 exact⟨_,rfl,by rw[HD.out];exact HP.out.own.mono (by omega),HP.out.m.below⟩
theorem mark_non(t:Int)(ht:t=2 ^ by_.toNat):zex by_ za3 x=⟨x.c,x.by_,x.no,x.k,x.inn,x.out,x.gone+t⟩:=by
 rw[zex,zal,ht,if_neg (fun e=>e.1 rfl)]
theorem zow(b off len cap:Nat)(l:List Ch)(d:Dd)(w:World)(hl:l.length=len)(hm:len<=1000)(hr:Row w b off l)(hcap:len<=cap)(ht:zi2 l)(hk:d.kind≠1)(hc:doC l d za3=0):
 Calls Tryz.prog 103 #[.slice (some ⟨b,off,none⟩) len cap,ddV d,.int .i64 1073741824] w fun e w'=>∃v',e= .returned (.tuple #[v',.int .i64 0])/\Own w' w.heap.size v' (doL l d za3)/\Below w.heap.size w w':=by
 have H0:Hid (Lst w (.slice (some ⟨b,off,none⟩) len cap) l):=⟨_,_,_,rfl,hl,hcap,.inr ⟨b,off,rfl,hr⟩⟩
 have HI:=hid (zdb (d:=d) H0.out)
 have HR:=hid hr
 have HL:=hid hl
 have HT:=hid ht
 obtain⟨q1,q2,q3,q4⟩:=zc0 hc
 have HM:Hid (zha l d=0):=by
  show zha l d=0
  unfold doC at hc
  by_cases hm:zha l d=0
  ·exact hm
  rw[if_pos hm]at hc;exact hc
 obtain⟨_,hw,_,_,_,_,p1,p2,p3,p4,_,_⟩:=zah q1
 have HD:Hid (doL l d za3=tkL d za3 l len):=by
  show doL l d za3=_
  rw[doL,if_neg hk,tkL,<-hl,List.take_length]
 have hwb:0<=d.by_/\d.by_<=3:=by simpa [wrB]using hw
 have hk':(d.kind==1)=false:=by simp[hk]
 obtain⟨kind,by_,no,seen,at_,many,text⟩:=d
 simp only at q2 q3 p1 p2 p3 p4 HD hwb hk'
 obtain⟨hb0,hb3⟩:=hwb
 obtain⟨q,rfl⟩:=Int.eq_ofNat_of_zero_le hb0
 clear hr hl ht hc hk hw
 go_enter Tryz.func103,Tryz.ntmps103
 go_wp2_with fail
 refine(zlf l ⟨kind,(q:Int),no,seen,at_,many,text⟩ _ _ HI.out.lst (by rw[HL.out];exact hm) HT.out).mono ?_
 rintro e w1 ⟨rfl,hb1⟩
 rw[HM.out]
 have HI1:Hid (PI w ⟨kind,(q:Int),no,seen,at_,many,text⟩ (.slice (some ⟨b,off,none⟩) len cap) l (.slice none 0 0) [] w1):=⟨HI.out.after hb1,zd6 _ _⟩
 clear hb1 HI HM
 obtain⟨_,c0,c1,c2,c3,c4,c5,c6⟩:=HI1.out.m.at_
 simp only[Nat.zero_add]at c0 c1 c2 c3 c4 c5 c6
 go_wp2
 clear c0 c1 c2 c3 c4 c5 c6
 go_loopw [9,11,12] (fun u n i wr=>∃k:Nat,k<=len/\i= .int .i64 k/\n= .int .i64 (cnt (l.take k) seen q)/\Hid (PI w ⟨kind,(q:Int),no,seen,at_,many,text⟩ (.slice (some ⟨b,off,none⟩) len cap) l u (tkL ⟨kind,(q:Int),no,seen,at_,many,text⟩ za3 l k) wr)) (fun _ _ i _=>len-(intOf i).toNat)
 case atStart=>exact⟨0,Nat.zero_le _,rfl,rfl,HI1⟩
 obtain⟨k,hk,rfl,rfl,HP⟩:=hrel
 clear HI1
 by_cases hlt:k<len
 ·have hkl:k<l.length:=by rw[HL.out];exact hlt
  obtain⟨t1,t2,t3,t4⟩:=zjp HT.out k hkl
  have hcb:=zn9 (l.take k) seen q
  have hle:(l.take k).length<=k:=List.length_take_le _ _
  have HCN:Hid (cnt (l.take (k+1)) seen q=cnt (l.take k) seen q+if za7 seen q l[k]=true then 1 else 0):=by show _=_;rw[zcf l k hkl];exact zih _ _ _ _
  have HN:Hid (_=_):=zyo ⟨kind,(q:Int),no,seen,at_,many,text⟩ za3 hkl
  have HZ:Hid ((tkL ⟨kind,(q:Int),no,seen,at_,many,text⟩ za3 l k).length<=1000):=by have:=qdc ⟨kind,(q:Int),no,seen,at_,many,text⟩ za3 l k;rw[HL.out]at this;show _<=_;omega
  have HMK:Hid (∀t:Int,t=2 ^ (q:Int).toNat->zex q za3 l[k]=_):=fun t=>mark_non (x:=l[k]) t
  obtain⟨h0,h1,h2,h3,h4,h5,h6⟩:=(HR.out.below HP.out.m.below).at_ k hkl
  obtain⟨_,c0,c1,c2,c3,c4,c5,c6⟩:=HP.out.m.at_
  simp only[Nat.zero_add]at c0 c1 c2 c3 c4 c5 c6
  simp only at HN
  generalize l[k]=x at h0 h1 h2 h3 h4 h5 h6 HN HCN HMK t1 t2 t3 t4
  generalize cnt (l.take k) seen q=n at*
  generalize tkL ⟨kind,(q:Int),no,seen,at_,many,text⟩ za3 l k=zs at*
  obtain⟨xc,xb,xn,xk,xi,xo,xg⟩:=x
  simp only at h0 h1 h2 h3 h4 h5 h6 t1 t3 t4 HMK
  have HS:Hid (TI w ⟨kind,(q:Int),no,seen,at_,many,text⟩ (.slice (some ⟨b,off,none⟩) len cap) l u9 zs wr.heap.size ⟨xc,xb,xn,xk,xi,xo,xg⟩ (wr.alloc (.cells #[.int .u8 xc,.int .i64 xb,.int .i64 xn,.int .i64 xk,.int .i64 xi,.int .i64 xo,.int .i64 xg] 127))):=zyp ⟨xc,xb,xn,xk,xi,xo,xg⟩ HP.out
  obtain⟨hcb0,hcb1⟩:=hcb
  have hnk:n<=1000:=by omega
  clear hle hcb1
  go_wp2_with fail
  refine(zgl ⟨xc,xb,xn,xk,xi,xo,xg⟩ _ _ _ t1 (by simp only;omega) (by simp only;omega)).mono ?_
  rintro e w2 ⟨rfl,hb2⟩
  have HS2:=hid (HS.out.after hb2)
  generalize wr.heap.size=C at*
  clear h0 h1 h2 h3 h4 h5 h6 c0 c1 c2 c3 c4 c5 c6 hb2 HS
  obtain⟨_,c0,c1,c2,c3,c4,c5,c6⟩:=HS2.out.p.m.at_
  obtain⟨a0,a1,a2,a3,a4,a5,a6⟩:=HS2.out.at_
  have f5:=HS2.out.free 5 (by omega)
  have f6:=HS2.out.free 6 (by omega)
  simp only[Nat.zero_add]at c0 c1 c2 c3 c4 c5 c6 a0 a1 a2 a3 a4 a5 a6
  have hCw:¬C=w.heap.size:=by have:=HS2.out.lo;omega
  have hCw':¬w.heap.size=C:=by have:=HS2.out.lo;omega
  cases hs:za7 seen q ⟨xc,xb,xn,xk,xi,xo,xg⟩
  ·rw[hs]at HN HCN
   go_wp2_with (at_builtin;refine zbd _ rfl (.tmp 132) (.tmp 134) rfl (w.heap.size+1) (v:=u9) (u:= .slice (some ⟨_,0,none⟩) 1 1) (b:=[⟨xc,xb,xn,xk,xi,xo,xg⟩]) rfl rfl (HS2.out.p.own.below ((Below.refl _ _).alloc (Nat.le_refl _) _)) (lst_one' _ ⟨xc,xb,xn,xk,xi,xo,xg⟩ (by simp)) ?ca1 ?cb1 ?_)
   case ca1=>have:=HZ.out;simp;omega
   case cb1=>have:=HS2.out.p.size;simp at this⊢;omega
   intro v8 w8 ho hg
   have H8:Hid (PI w ⟨kind,(q:Int),no,seen,at_,many,text⟩ (.slice (some ⟨b,off,none⟩) len cap) l v8 (zs++[⟨xc,xb,xn,xk,xi,xo,xg⟩]) w8):=(HS2.out.p.after ((Below.refl _ _).alloc (Nat.le_refl _) _)).grown H0.out hg ho
   clear ho hg c0 c1 c2 c3 c4 c5 c6 a0 a1 a2 a3 a4 a5 a6 f5 f6 hCw hCw'
   go_wp2
   go_roundw
   case rel=>exact⟨k+1,by omega,by go_num,by rw[HCN.out];simp,by rw[HN.out];exact H8⟩
   case measure=>simp[intOf];omega
  rw[hs]at HN HCN
  by_cases hA:at_<=n
  ·by_cases hB:n<at_+many
   ·have HY:Hid (∀t:Int,t=2 ^ (q:Int).toNat->(if true=true then(if at_<=n/\n<at_+many then zex q za3 ⟨xc,xb,xn,xk,xi,xo,xg⟩else⟨xc,xb,xn,xk,xi,xo,xg⟩)else⟨xc,xb,xn,xk,xi,xo,xg⟩)=⟨xc,xb,xn,xk,xi,xo,xg+t⟩):=fun t e=>by rw[if_pos rfl,if_pos ⟨hA,hB⟩];exact HMK.out t e
    go_wp2
    go_loop [14,15] (fun bit j=>∃(m:Nat) (t:Int),m<=q/\j= .int .i64 m/\bit= .int .i64 t/\Hid (t=2 ^ m)) (fun _ j=>q-(intOf j).toNat)
    case atStart=>exact⟨0,1,Nat.zero_le _,rfl,rfl,rfl⟩
    obtain⟨m,t,hmq,rfl,rfl,HTM⟩:=hrel
    have htb:1<=t/\t<=8:=by rw[HTM.out];exact zud (by omega)
    obtain⟨ht1,ht8⟩:=htb
    by_cases hmlt:m<q
    ·go_wp2
     go_round
     case rel=>exact⟨m+1,t*2,by omega,by go_num,rfl,by show _=_;rw[zz9,HTM.out]⟩
     case measure=>simp[intOf];omega
    obtain rfl:m=q:=by omega
    have HYT:Hid _:=HY.out t (by rw[HTM.out];rfl)
    have HS3:Hid (TI w ⟨kind,(m:Int),no,seen,at_,many,text⟩ (.slice (some ⟨b,off,none⟩) len cap) l u9 zs C ⟨xc,xb,xn,xk,xi,xo,xg+t⟩ (w2.setCell ⟨C,6,none⟩ (.int .i64 (xg+t)))):=HS2.out.gone H0.out _
    clear HY HMK
    have HYE:=HYT
    go_wp2_with (at_builtin;refine zbd _ rfl (.tmp 132) (.tmp 134) rfl (w.heap.size+1) (v:=u9) (u:= .slice (some ⟨_,0,none⟩) 1 1) (b:=[⟨xc,xb,xn,xk,xi,xo,xg+t⟩]) rfl rfl (HS3.out.p.own.below ((Below.refl _ _).alloc (Nat.le_refl _) _)) (lst_one' _ ⟨xc,xb,xn,xk,xi,xo,xg+t⟩ (by simp)) ?ca4 ?cb4 ?_)
    case ca4=>have:=HZ.out;simp;omega
    case cb4=>have:=HS3.out.p.size;simp at this⊢;omega
    intro v8 w8 ho hg
    have H8:Hid (PI w ⟨kind,(m:Int),no,seen,at_,many,text⟩ (.slice (some ⟨b,off,none⟩) len cap) l v8 (zs++[⟨xc,xb,xn,xk,xi,xo,xg+t⟩]) w8):=(HS3.out.p.after ((Below.refl _ _).alloc (Nat.le_refl _) _)).grown H0.out hg ho
    clear ho hg c0 c1 c2 c3 c4 c5 c6 a0 a1 a2 a3 a4 a5 a6 f5 f6 hCw hCw'
    go_wp2
    go_roundw
    case rel=>exact⟨k+1,by omega,by go_num,by rw[HCN.out];simp,by rw[HN.out];rw[HYE.out];exact H8⟩
    case measure=>simp[intOf];omega
   have HYE:Hid ((if true=true then(if at_<=n/\n<at_+many then zex q za3 ⟨xc,xb,xn,xk,xi,xo,xg⟩else⟨xc,xb,xn,xk,xi,xo,xg⟩)else⟨xc,xb,xn,xk,xi,xo,xg⟩)=⟨xc,xb,xn,xk,xi,xo,xg⟩):=by show _=_;rw[if_pos rfl,if_neg (by omega)]
   go_wp2_with (at_builtin;refine zbd _ rfl (.tmp 132) (.tmp 134) rfl (w.heap.size+1) (v:=u9) (u:= .slice (some ⟨_,0,none⟩) 1 1) (b:=[⟨xc,xb,xn,xk,xi,xo,xg⟩]) rfl rfl (HS2.out.p.own.below ((Below.refl _ _).alloc (Nat.le_refl _) _)) (lst_one' _ ⟨xc,xb,xn,xk,xi,xo,xg⟩ (by simp)) ?ca5 ?cb5 ?_)
   case ca5=>have:=HZ.out;simp;omega
   case cb5=>have:=HS2.out.p.size;simp at this⊢;omega
   intro v8 w8 ho hg
   have H8:Hid (PI w ⟨kind,(q:Int),no,seen,at_,many,text⟩ (.slice (some ⟨b,off,none⟩) len cap) l v8 (zs++[⟨xc,xb,xn,xk,xi,xo,xg⟩]) w8):=(HS2.out.p.after ((Below.refl _ _).alloc (Nat.le_refl _) _)).grown H0.out hg ho
   clear ho hg c0 c1 c2 c3 c4 c5 c6 a0 a1 a2 a3 a4 a5 a6 f5 f6 hCw hCw'
   go_wp2
   go_roundw
   case rel=>exact⟨k+1,by omega,by go_num,by rw[HCN.out];simp,by rw[HN.out];rw[HYE.out];exact H8⟩
   case measure=>simp[intOf];omega
  have HYE:Hid ((if true=true then(if at_<=n/\n<at_+many then zex q za3 ⟨xc,xb,xn,xk,xi,xo,xg⟩else⟨xc,xb,xn,xk,xi,xo,xg⟩)else⟨xc,xb,xn,xk,xi,xo,xg⟩)=⟨xc,xb,xn,xk,xi,xo,xg⟩):=by show _=_;rw[if_pos rfl,if_neg (by omega)]
  go_wp2_with (at_builtin;refine zbd _ rfl (.tmp 132) (.tmp 134) rfl (w.heap.size+1) (v:=u9) (u:= .slice (some ⟨_,0,none⟩) 1 1) (b:=[⟨xc,xb,xn,xk,xi,xo,xg⟩]) rfl rfl (HS2.out.p.own.below ((Below.refl _ _).alloc (Nat.le_refl _) _)) (lst_one' _ ⟨xc,xb,xn,xk,xi,xo,xg⟩ (by simp)) ?ca6 ?cb6 ?_)
  case ca6=>have:=HZ.out;simp;omega
  case cb6=>have:=HS2.out.p.size;simp at this⊢;omega
  intro v8 w8 ho hg
  have H8:Hid (PI w ⟨kind,(q:Int),no,seen,at_,many,text⟩ (.slice (some ⟨b,off,none⟩) len cap) l v8 (zs++[⟨xc,xb,xn,xk,xi,xo,xg⟩]) w8):=(HS2.out.p.after ((Below.refl _ _).alloc (Nat.le_refl _) _)).grown H0.out hg ho
  clear ho hg c0 c1 c2 c3 c4 c5 c6 a0 a1 a2 a3 a4 a5 a6 f5 f6 hCw hCw'
  go_wp2
  go_roundw
  case rel=>exact⟨k+1,by omega,by go_num,by rw[HCN.out];simp,by rw[HN.out];rw[HYE.out];exact H8⟩
  case measure=>simp[intOf];omega
 obtain rfl:k=len:=by omega
 go_wp2
 go_ret2
 exact⟨_,rfl,by rw[HD.out];exact HP.out.own.mono (by omega),HP.out.m.below⟩
end Go.Proofs.YtcbnnfeelhlapadGreatDoor