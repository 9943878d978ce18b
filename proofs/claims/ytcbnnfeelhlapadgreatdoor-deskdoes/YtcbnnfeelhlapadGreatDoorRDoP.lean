/-
  The document's own MayDo, and Do of a text that is put in: their contracts.
-/
import Derived.Test.YtcbnnfeelhlapadGreatDoorRBytes
import Derived.Test.YtcbnnfeelhlapadGreatDoorFLiP
namespace Go.Proofs.YtcbnnfeelhlapadGreatDoor
set_option maxHeartbeats 3200000
set_option maxRecDepth 20000
open Go.RowKit
theorem zlg(l:List Ch)(d:Dd)(v:Value)(w:World)(h:Lst w v l)(hl:l.length≤1000)(ht:zgs l):
 Calls Tryz.prog 147 #[v,ddV d] w fun e w'=>e= .returned (.int .i64 (zgx l d))∧Below w.heap.size w w':=by
 have HI:Hid (zgc w w.heap.size d v l (w.alloc (zcc d))):=zdb (d:=d) h
 obtain⟨ad,cap,rfl,hcap⟩:=h.len
 clear h
 by_cases hc:za6 d=0
 ·have HM:Hid (zgx l d=_):=mayR (l:=l) hc
  obtain⟨_,_,_,_,_,_,p1,p2,p3,p4,p5,p6⟩:=zah hc
  have hts:d.text.size≤20:=by
   by_cases hk:d.kind=1
   ·exact(p5 hk).2.1
   ·rw[p6 hk];omega
  have hcn:=zna l d.seen d.by_
  have hsz:(strOfNums (vw l d.seen d.by_)).size=cnt l d.seen d.by_:=by rw[zbr];exact zix l d.seen d.by_
  clear p5 p6
  obtain⟨kind,by_,no,seen,at_,many,text⟩:=d
  simp only at HM p1 p2 p3 p4 hts hcn hsz
  go_enter Tryz.func147,Tryz.ntmps147
  go_wp2_with fail
  refine(zjf ⟨kind,by_,no,seen,at_,many,text⟩ _).mono ?_
  rintro e w1 ⟨rfl,hb1⟩
  rw[hc]
  have HI1:Hid _:=HI.out.after hb1
  clear hb1 HI hc
  obtain⟨_,c0,c1,c2,c3,c4,c5,c6⟩:=HI1.out.at_
  simp only[Nat.zero_add]at c0 c1 c2 c3 c4 c5 c6
  go_wp2_with fail
  refine(zki HI1.out.lst hl ht seen by_).mono ?_
  rintro e w2 ⟨rfl,hb2⟩
  have HI2:Hid _:=HI1.out.after hb2
  clear hb2 HI1 c0 c1 c2 c3 c4 c5 c6
  obtain⟨_,c0,c1,c2,c3,c4,c5,c6⟩:=HI2.out.at_
  simp only[Nat.zero_add]at c0 c1 c2 c3 c4 c5 c6
  generalize strOfNums (vw l seen by_)=s at*
  generalize cnt l seen by_=n at*
  by_cases h1:n<at_
  ·rw[if_pos (.inl h1)]at HM
   go_wp2
   go_ret
   exact⟨zad HM.out.symm,HI2.out.below⟩
  ·by_cases h2:n<at_+many
   ·rw[if_pos (.inr h2)]at HM
    go_wp2
    go_ret
    exact⟨zad HM.out.symm,HI2.out.below⟩
   ·rw[if_neg (by omega)]at HM
    by_cases h3:200<l.length+text.size
    ·rw[if_pos h3]at HM
     go_wp2
     go_ret
     exact⟨zad HM.out.symm,HI2.out.below⟩
    ·rw[if_neg h3]at HM
     go_wp2
     go_ret
     exact⟨zad HM.out.symm,HI2.out.below⟩
 ·have HM:Hid (zgx l d=za6 d):=by show zgx l d=_;rw[zgx,if_pos hc]
  have hne:(za6 d != 0)=true:=by simp[hc]
  obtain⟨kind,by_,no,seen,at_,many,text⟩:=d
  clear hc
  go_enter Tryz.func147,Tryz.ntmps147
  go_wp2_with fail
  refine(zjf ⟨kind,by_,no,seen,at_,many,text⟩ _).mono ?_
  rintro e w1 ⟨rfl,hb1⟩
  have HI1:Hid _:=HI.out.after hb1
  clear hb1 HI
  generalize za6 ⟨kind,by_,no,seen,at_,many,text⟩=c at*
  go_wp2
  go_ret
  exact⟨zad HM.out.symm,HI1.out.below⟩
structure PI(w:World)(d:Dd)(v:Value)(l:List Ch)(u:Value)(z:List Ch)(wk:World):Prop where
 m:zgc w w.heap.size d v l wk
 own:Own wk (w.heap.size+1) u z
theorem PI.after{w wk w':World}{d:Dd}{v u:Value}{l z:List Ch}(h:PI w d v l u z wk)(hb:Below wk.heap.size wk w'):PI w d v l u z w':=⟨h.m.after hb,h.own.below hb⟩
theorem zgc.grown{w wk w':World}{d:Dd}{v:Value}{l:List Ch}{row:Option Nat}(h:zgc w w.heap.size d v l wk)(ho:Lst w v l)(hg:wk.grownBy w' row)(hr:∀k,row=some k→w.heap.size+1≤k):zgc w w.heap.size d v l w':=by
 have hlt:=h.at_.lt
 have hb:Below (w.heap.size+1) wk w':=(Below.refl _ _).grown hg (by omega) hr
 have hc:∀o,w'.cell? ⟨w.heap.size,o,none⟩=wk.cell? ⟨w.heap.size,o,none⟩:=fun o=>hb.cell (p:=⟨w.heap.size,o,none⟩) (Nat.lt_succ_self _)
 have hbl:Below w.heap.size w w':=h.below.trans (hb.mono (by omega))
 obtain⟨c,c0,c1,c2,c3,c4,c5,c6⟩:=h.at_
 refine⟨hbl,⟨by have:=hb.size;omega,?_,?_,?_,?_,?_,?_,?_⟩,ho.below hbl⟩<;>rw[hc]<;>assumption
theorem PI.grown{w wk w':World}{d:Dd}{v u u':Value}{l z z':List Ch}(h:PI w d v l u z wk)(ho:Lst w v l)(hg:wk.grownBy w' u.ownBlock)(hz:Own w' (w.heap.size+1) u' z'):PI w d v l u' z' w':=
 ⟨h.m.grown ho hg (fun k hk=>(World.ownsRow.lt h.own k hk).1),hz⟩
theorem PI.size{w wk:World}{d:Dd}{v u:Value}{l z:List Ch}(h:PI w d v l u z wk):w.heap.size+1≤wk.heap.size:=by have:=h.m.at_.lt;omega
theorem zqr{by_:Int}{l:List Ch}{p j:Nat}(h:p+j<l.length)(hj:j≤zbm by_ (l.drop p))(hn:¬(l[p+j].inn=za0∧l[p+j].by_≠by_)):zbm by_ (l.drop p)=j:=by
 have key:∀(r:List Ch) (j:Nat) (hr:j<r.length),j≤zbm by_ r→¬(r[j].inn=za0∧r[j].by_≠by_)→zbm by_ r=j:=by
  intro r
  induction r with
  |nil=>intro j hr;exact absurd hr (Nat.not_lt_zero _)
  |cons x r ih=>
   intro j hr hj hn
   rw[zbm]at hj⊢
   cases j with
   |zero=>rw[if_neg (show¬(x.inn=za0∧x.by_≠by_) from hn)]
   |succ j=>
    split at hj
    ·rename_i hx
     rw[if_pos hx,ih j (by simpa using hr) (by omega) hn]
    ·omega
 refine key (l.drop p) j (by rw[List.length_drop];omega) hj ?_
 rw[List.getElem_drop]
 exact hn
theorem qar{by_:Int}{l:List Ch}{p j:Nat}(h:p+j<l.length)(hj:j≤zbm by_ (l.drop p))(hn:l[p+j].inn=za0∧l[p+j].by_≠by_):j+1≤zbm by_ (l.drop p):=by
 have key:∀(r:List Ch) (j:Nat) (hr:j<r.length),j≤zbm by_ r→(r[j].inn=za0∧r[j].by_≠by_)→j+1≤zbm by_ r:=by
  intro r
  induction r with
  |nil=>intro j hr;exact absurd hr (Nat.not_lt_zero _)
  |cons x r ih=>
   intro j hr hj hn
   rw[zbm]at hj⊢
   cases j with
   |zero=>rw[if_pos (show x.inn=za0∧x.by_≠by_ from hn)];omega
   |succ j=>
    split at hj
    ·rename_i hx
     have:=ih j (by simpa using hr) (by omega) hn
     rw[if_pos hx];omega
    ·omega
 refine key (l.drop p) j (by rw[List.length_drop];omega) hj ?_
 rw[List.getElem_drop]
 exact hn
theorem zua(l:List Ch)(d:Dd)(number:Int)(v:Value)(w:World)(h:Lst w v l)(hl:l.length≤1000)(ht:zgs l)(hk:d.kind=1)(hc:doC l d number=0):
 Calls Tryz.prog 103 #[v,ddV d,.int .i64 number] w fun e w'=>∃v',e= .returned (.tuple #[v',.int .i64 0])∧Own w' w.heap.size v' (doL l d number)∧Below w.heap.size w w':=by
 have HI:Hid (zgc w w.heap.size d v l (w.alloc (zcc d))):=zdb (d:=d) h
 have H0:Hid (Lst w v l):=h
 obtain⟨ad,cap,rfl,hcap⟩:=h.len
 obtain⟨q1,q2,q3,q4⟩:=zc2 hc
 have HM:Hid (zgx l d=0):=by
  show zgx l d=0
  unfold doC at hc
  by_cases hm:zgx l d=0
  ·exact hm
  ·rw[if_pos hm]at hc;exact hc
 obtain⟨_,_,_,_,_,_,p1,p2,p3,p4,p5,_⟩:=zah q1
 have HD:Hid (∀p,za8 d.seen d.by_ d.at_.toNat l=some p→doL l d number=l.take (p+zbm d.by_ (l.drop p))++(zf4 d number++l.drop (p+zbm d.by_ (l.drop p)))):=by
  intro p hp
  rw[doL,if_pos hk,zbb,hp]
 have hts:=(p5 hk).2.1
 have HT:Hid (zgs l):=ht
 obtain⟨kind,by_,no,seen,at_,many,text⟩:=d
 simp only at q2 q3 p1 p2 p3 hts HD
 obtain rfl:kind=1:=hk
 clear h hc p5 ht
 go_enter Tryz.func103,Tryz.ntmps103
 go_wp2_with fail
 refine(zlg l ⟨1,by_,no,seen,at_,many,text⟩ _ _ HI.out.lst hl HT.out).mono ?_
 rintro e w1 ⟨rfl,hb⟩
 rw[HM.out]
 have HI1:Hid _:=HI.out.after hb
 clear hb HI
 obtain⟨_,c0,c1,c2,c3,c4,c5,c6⟩:=HI1.out.at_
 simp only[Nat.zero_add]at c0 c1 c2 c3 c4 c5 c6
 go_wp2_with fail
 clear c0 c1 c2 c3 c4 c5 c6
 refine(zs7 HI1.out.lst hl HT.out seen by_ at_ p1 (by omega)).mono ?_
 rintro e w2 ⟨p,rfl,hp,hpl,hb⟩
 have HP:Hid _:=HD.out p hp
 have HI2:Hid _:=HI1.out.after hb
 clear hb HI1 HD hp
 go_wp2
 go_loopw [10] (fun i wr=>∃j:Nat,j≤zbm by_ (l.drop p)∧i= .int .i64 ((p+j:Nat):Int)∧Hid (zgc w w.heap.size ⟨1,by_,no,seen,at_,many,text⟩ (.slice ad l.length cap) l wr)) (fun i _=>l.length-(intOf i).toNat)
 case atStart=>exact⟨0,Nat.zero_le _,rfl,HI2⟩
 case round=>
  obtain⟨j,hj,rfl,HI3⟩:=hrel
  clear HI2
  have hsk:=znp by_ (l.drop p)
  rw[List.length_drop]at hsk
  have hpj:p+j≤l.length:=by omega
  have HSK:Hid (j≤zbm by_ (l.drop p)):=hj
  clear hj hsk
  obtain⟨_,c0,c1,c2,c3,c4,c5,c6⟩:=HI3.out.at_
  simp only[Nat.zero_add]at c0 c1 c2 c3 c4 c5 c6
  by_cases hlt:p+j<l.length
  ·have hxx:∃x,x=l[p+j]:=⟨_,rfl⟩
   obtain⟨x,hx⟩:=hxx
   have HX:Hid (x=l[p+j]):=hx
   obtain⟨b,off,rfl,hr⟩:∃b off,ad=some ⟨b,off,none⟩∧Row wr b off l:=by
    obtain⟨a',len',cap',he,h1,h2,h3⟩:=HI3.out.lst
    simp only[Value.slice.injEq]at he
    obtain⟨rfl,rfl,rfl⟩:=he
    rcases h3 with h3|⟨b,off,h3,hr⟩
    ·omega
    ·exact⟨b,off,h3,hr⟩
   obtain⟨g0,g1,g2,g3,g4,g5,g6⟩:=hr.at_ (p+j) hlt
   rw[←hx]at g0 g1 g2 g3 g4 g5 g6
   clear hr hx
   by_cases ho:x.inn=1073741824
   ·by_cases hby:x.by_=by_
    ·have HEQ:Hid (zbm by_ (l.drop p)=j):=zqr hlt HSK.out (by rw[←HX.out];exact fun e=>e.2 hby)
     have HP2:Hid _:=HP.out
     rw[HEQ.out]at HP2
     have ho':(x.inn==1073741824)=true:=by simp[ho]
     have hb':(x.by_ != by_)=false:=by simp[hby]
     clear HEQ HSK HX ho hby HP
     generalize p+j=q at*
     go_wp2
     go_quiet (fail)
     go_wp2
     clear g0 g1 g2 g3 g4 g5 g6 c0 c1 c2 c3 c4 c5 c6 ho' hb'
     generalize hw3:wr.drewN nq=w3 at*
     have HK3:Hid (PI w ⟨1,by_,no,seen,at_,many,text⟩ (.slice (some ⟨b,off,none⟩) l.length cap) l (.slice none 0 0) [] w3):=by
      show PI _ _ _ _ _ _ _
      rw[←hw3]
      exact⟨HI3.out.after (below_drewN (Below.refl _ _) _),zd7 _ _⟩
     obtain⟨aa,na,ca,hva,hvl⟩:∃aa na ca,(∀w,(Instr.sliceAt 91 (.slice (some ⟨b,off,none⟩) l.length cap) none (some (.int .i64 q)) none).run Tryz.prog w= .ok (.slice aa na ca) w)∧∀wk,Lst wk (.slice (some ⟨b,off,none⟩) l.length cap) l→Lst wk (.slice aa na ca) (l.take q):=⟨_,_,_,zef _ l.length cap q (by omega),fun wk h=>zi9 h hpj⟩
     obtain⟨ab,nb,cb,hvb,hvd⟩:∃ab nb cb,(∀w,(Instr.sliceAt 91 (.slice (some ⟨b,off,none⟩) l.length cap) (some (.int .i64 q)) none none).run Tryz.prog w= .ok (.slice ab nb cb) w)∧∀wk,Lst wk (.slice (some ⟨b,off,none⟩) l.length cap) l→Lst wk (.slice ab nb cb) (l.drop q):=⟨_,_,_,zeg _ l.length cap q hpj,fun wk h=>zia h hpj⟩
     have HVL:Hid _:=hvl
     have HVD:Hid _:=hvd
     have HVA:Hid _:=hva
     have HLT:Hid ((l.take q).length≤1000):=by show _≤_;rw[List.length_take];omega
     have HLN:Hid ((zf4 ⟨1,by_,no,seen,at_,many,text⟩ number).length≤20):=by show _≤_;rw[zg5];exact hts
     have HLD:Hid ((l.drop q).length≤1000):=by show _≤_;rw[List.length_drop];omega
     clear hvl hvd hva hw3 HI3 HM
     refine wrs (fun wk=>zgc w w.heap.size ⟨1,by_,no,seen,at_,many,text⟩ (.slice (some ⟨b,off,none⟩) l.length cap) l wk) (fun i=>i==4||i==7||i==8) (fun wk=>PI w ⟨1,by_,no,seen,at_,many,text⟩ (.slice (some ⟨b,off,none⟩) l.length cap) l (.slice none 0 0) [] wk) (by kernel_rfl) (by kernel_rfl) (by kernel_rfl) (fun _ h=>h.m) (HK3.out.after (Below.refl _ _).drew) ?_
     refine wss rfl (fun K hK=> ?_)
     go_simp
     refine⟨_,fun _ _=>rfl,hK _ ?_⟩
     clear hK K
     refine wss rfl (fun K hK=> ?_)
     go_simp
     refine⟨_,fun _ _=>rfl,hK _ ?_⟩
     clear hK K
     refine wss rfl (fun K hK=> ?_)
     go_simp
     refine⟨_,fun _ _=>rfl,hK _ ?_⟩
     clear hK K
     refine wss rfl (fun K hK=> ?_)
     rw[if_pos (by rfl)]
     refine⟨.slice aa na ca,fun wk hwk=>zd2 rfl (HVA.out wk),hK _ ?_⟩
     clear hK K
     refine wsp rfl rfl (fun u=>∃a n c,u= .slice a n c) (fun u wk=>PI w ⟨1,by_,no,seen,at_,many,text⟩ (.slice (some ⟨b,off,none⟩) l.length cap) l u ([]++l.take q) wk) ⟨_,none,0,0,rfl⟩ (fun _ _ h=>h.m) (fun wk hwk=> ?_) (fun v4 hv4=> ?_)
     ·refine zdo (v:= .slice none 0 0) (u:= .slice aa na ca) rfl rfl rfl hwk.own (HVL.out _ hwk.m.lst) ?_ hwk.size ?_
      ·have:=HLT.out;simp at this⊢;omega
      ·intro v' w' ho hg
       obtain⟨a4,c4,rfl,_⟩:=ho.lst.len
       exact⟨⟨_,_,_,rfl⟩,hwk.grown H0.out hg ho⟩
     obtain⟨a4,n4,c4,rfl⟩:=hv4
     refine wss rfl (fun K hK=> ?_)
     go_simp
     refine⟨ddV ⟨1,by_,no,seen,at_,many,text⟩,fun wk hwk=> ?_,hK _ ?_⟩
     ·obtain⟨_,c0,c1,c2,c3,c4,c5,c6⟩:=hwk.at_
      simp only[Nat.zero_add]at c0 c1 c2 c3 c4 c5 c6
      go_simp
     clear hK K
     refine wss rfl (fun K hK=> ?_)
     go_simp
     refine⟨_,fun _ _=>rfl,hK _ ?_⟩
     clear hK K
     refine wsp rfl rfl (fun u=>∃a n c,u= .slice a n c) (fun u wk=>PI w ⟨1,by_,no,seen,at_,many,text⟩ (.slice (some ⟨b,off,none⟩) l.length cap) l (.slice a4 n4 c4) ([]++l.take q) wk∧Lst wk u (zf4 ⟨1,by_,no,seen,at_,many,text⟩ number)) ⟨_,none,0,0,rfl⟩ (fun _ _ h=>h.1.m) (fun wk hwk=> ?_) (fun v5 hv5=> ?_)
     ·go_simp
      refine(zky ⟨1,by_,no,seen,at_,many,text⟩ number wk (by simp only;omega)).mono ?_
      rintro e w5 ⟨u,rfl,ho,hb⟩
      obtain⟨a5,c5,rfl,_⟩:=ho.lst.len
      exact⟨_,rfl,⟨_,_,_,rfl⟩,hwk.after hb,ho.lst⟩
     obtain⟨a5,n5,c5,rfl⟩:=hv5
     refine wsp rfl rfl (fun u=>∃a n c,u= .slice a n c) (fun u wk=>PI w ⟨1,by_,no,seen,at_,many,text⟩ (.slice (some ⟨b,off,none⟩) l.length cap) l u ([]++l.take q++zf4 ⟨1,by_,no,seen,at_,many,text⟩ number) wk) ⟨_,none,0,0,rfl⟩ (fun _ _ h=>h.m) (fun wk hwk=> ?_) (fun v6 hv6=> ?_)
     ·refine zdo (v:= .slice a4 n4 c4) (u:= .slice a5 n5 c5) rfl rfl rfl hwk.1.own hwk.2 ?_ hwk.1.size ?_
      ·have:=HLT.out;have:=HLN.out;simp only[List.nil_append];omega
      ·intro v' w' ho hg
       obtain⟨a6,c6,rfl,_⟩:=ho.lst.len
       exact⟨⟨_,_,_,rfl⟩,hwk.1.grown H0.out hg ho⟩
     obtain⟨a6,n6,c6,rfl⟩:=hv6
     refine wss rfl (fun K hK=> ?_)
     go_simp
     refine⟨_,fun _ _=>rfl,hK _ ?_⟩
     clear hK K
     refine wsn (fun w7 hw7=> ?_)
     have H7:Hid _:=hw7
     clear hw7
     go_wp2_with (at_builtin;refine zbe _ rfl (.tmp 68) (.tmp 71) rfl (w.heap.size+1) (v:= .slice a6 n6 c6) (u:= .slice ab nb cb) rfl rfl H7.out.own (HVD.out _ H7.out.m.lst) ?c0 H7.out.size ?_)
     case c0=>have:=HLT.out;have:=HLN.out;have:=HLD.out;simp only[List.nil_append,List.length_append];omega
     intro v8 w8 ho hg
     have H8:Hid (PI w ⟨1,by_,no,seen,at_,many,text⟩ (.slice (some ⟨b,off,none⟩) l.length cap) l v8 _ w8):=H7.out.grown H0.out hg ho
     clear ho hg H7
     go_wp2
     go_ret2
     refine⟨v8,rfl,?_,H8.out.m.below⟩
     rw[HP2.out]
     have:=H8.out.own.mono (base':=w.heap.size) (by omega)
     simpa only[List.nil_append,List.append_assoc]using this
    ·have HNX:Hid (j+1≤zbm by_ (l.drop p)):=qar hlt HSK.out (by rw[←HX.out];exact⟨ho,hby⟩)
     have ho':(x.inn==1073741824)=true:=by simp[ho]
     have hb':(x.by_ != by_)=true:=by simp[hby]
     clear HSK HX ho hby
     generalize hq:p+j=q at*
     have HQ:Hid (p+j=q):=hq
     clear hq
     go_wp2
     go_quiet (fail)
     go_wp2
     clear g0 g1 g2 g3 g4 g5 g6 c0 c1 c2 c3 c4 c5 c6 ho' hb'
     go_roundw
     case rel=>exact⟨j+1,HNX.out,by rw[show p+(j+1)=q+1 by have:=HQ.out;omega];go_num,HI3.out.after (below_drewN (Below.refl _ _) _)⟩
     case measure=>simp[intOf];omega
   ·have HEQ:Hid (zbm by_ (l.drop p)=j):=zqr hlt HSK.out (by rw[←HX.out];exact fun e=>ho e.1)
    have HP2:Hid _:=HP.out
    rw[HEQ.out]at HP2
    have ho':(x.inn==1073741824)=false:=by simp[ho]
    clear HEQ HSK HX ho HP
    generalize p+j=q at*
    go_wp2
    go_quiet (fail)
    go_wp2
    clear g0 g1 g2 g3 g4 g5 g6 c0 c1 c2 c3 c4 c5 c6 ho'
    generalize hw3:wr.drewN nq=w3 at*
    have HK3:Hid (PI w ⟨1,by_,no,seen,at_,many,text⟩ (.slice (some ⟨b,off,none⟩) l.length cap) l (.slice none 0 0) [] w3):=by
     show PI _ _ _ _ _ _ _
     rw[←hw3]
     exact⟨HI3.out.after (below_drewN (Below.refl _ _) _),zd7 _ _⟩
    obtain⟨aa,na,ca,hva,hvl⟩:∃aa na ca,(∀w,(Instr.sliceAt 91 (.slice (some ⟨b,off,none⟩) l.length cap) none (some (.int .i64 q)) none).run Tryz.prog w= .ok (.slice aa na ca) w)∧∀wk,Lst wk (.slice (some ⟨b,off,none⟩) l.length cap) l→Lst wk (.slice aa na ca) (l.take q):=⟨_,_,_,zef _ l.length cap q (by omega),fun wk h=>zi9 h hpj⟩
    obtain⟨ab,nb,cb,hvb,hvd⟩:∃ab nb cb,(∀w,(Instr.sliceAt 91 (.slice (some ⟨b,off,none⟩) l.length cap) (some (.int .i64 q)) none none).run Tryz.prog w= .ok (.slice ab nb cb) w)∧∀wk,Lst wk (.slice (some ⟨b,off,none⟩) l.length cap) l→Lst wk (.slice ab nb cb) (l.drop q):=⟨_,_,_,zeg _ l.length cap q hpj,fun wk h=>zia h hpj⟩
    have HVL:Hid _:=hvl
    have HVD:Hid _:=hvd
    have HVA:Hid _:=hva
    have HLT:Hid ((l.take q).length≤1000):=by show _≤_;rw[List.length_take];omega
    have HLN:Hid ((zf4 ⟨1,by_,no,seen,at_,many,text⟩ number).length≤20):=by show _≤_;rw[zg5];exact hts
    have HLD:Hid ((l.drop q).length≤1000):=by show _≤_;rw[List.length_drop];omega
    clear hvl hvd hva hw3 HI3 HM
    refine wrs (fun wk=>zgc w w.heap.size ⟨1,by_,no,seen,at_,many,text⟩ (.slice (some ⟨b,off,none⟩) l.length cap) l wk) (fun i=>i==4||i==7||i==8) (fun wk=>PI w ⟨1,by_,no,seen,at_,many,text⟩ (.slice (some ⟨b,off,none⟩) l.length cap) l (.slice none 0 0) [] wk) (by kernel_rfl) (by kernel_rfl) (by kernel_rfl) (fun _ h=>h.m) (HK3.out.after (Below.refl _ _).drew) ?_
    refine wss rfl (fun K hK=> ?_)
    go_simp
    refine⟨_,fun _ _=>rfl,hK _ ?_⟩
    clear hK K
    refine wss rfl (fun K hK=> ?_)
    go_simp
    refine⟨_,fun _ _=>rfl,hK _ ?_⟩
    clear hK K
    refine wss rfl (fun K hK=> ?_)
    go_simp
    refine⟨_,fun _ _=>rfl,hK _ ?_⟩
    clear hK K
    refine wss rfl (fun K hK=> ?_)
    rw[if_pos (by rfl)]
    refine⟨.slice aa na ca,fun wk hwk=>zd2 rfl (HVA.out wk),hK _ ?_⟩
    clear hK K
    refine wsp rfl rfl (fun u=>∃a n c,u= .slice a n c) (fun u wk=>PI w ⟨1,by_,no,seen,at_,many,text⟩ (.slice (some ⟨b,off,none⟩) l.length cap) l u ([]++l.take q) wk) ⟨_,none,0,0,rfl⟩ (fun _ _ h=>h.m) (fun wk hwk=> ?_) (fun v4 hv4=> ?_)
    ·refine zdo (v:= .slice none 0 0) (u:= .slice aa na ca) rfl rfl rfl hwk.own (HVL.out _ hwk.m.lst) ?_ hwk.size ?_
     ·have:=HLT.out;simp at this⊢;omega
     ·intro v' w' ho hg
      obtain⟨a4,c4,rfl,_⟩:=ho.lst.len
      exact⟨⟨_,_,_,rfl⟩,hwk.grown H0.out hg ho⟩
    obtain⟨a4,n4,c4,rfl⟩:=hv4
    refine wss rfl (fun K hK=> ?_)
    go_simp
    refine⟨ddV ⟨1,by_,no,seen,at_,many,text⟩,fun wk hwk=> ?_,hK _ ?_⟩
    ·obtain⟨_,c0,c1,c2,c3,c4,c5,c6⟩:=hwk.at_
     simp only[Nat.zero_add]at c0 c1 c2 c3 c4 c5 c6
     go_simp
    clear hK K
    refine wss rfl (fun K hK=> ?_)
    go_simp
    refine⟨_,fun _ _=>rfl,hK _ ?_⟩
    clear hK K
    refine wsp rfl rfl (fun u=>∃a n c,u= .slice a n c) (fun u wk=>PI w ⟨1,by_,no,seen,at_,many,text⟩ (.slice (some ⟨b,off,none⟩) l.length cap) l (.slice a4 n4 c4) ([]++l.take q) wk∧Lst wk u (zf4 ⟨1,by_,no,seen,at_,many,text⟩ number)) ⟨_,none,0,0,rfl⟩ (fun _ _ h=>h.1.m) (fun wk hwk=> ?_) (fun v5 hv5=> ?_)
    ·go_simp
     refine(zky ⟨1,by_,no,seen,at_,many,text⟩ number wk (by simp only;omega)).mono ?_
     rintro e w5 ⟨u,rfl,ho,hb⟩
     obtain⟨a5,c5,rfl,_⟩:=ho.lst.len
     exact⟨_,rfl,⟨_,_,_,rfl⟩,hwk.after hb,ho.lst⟩
    obtain⟨a5,n5,c5,rfl⟩:=hv5
    refine wsp rfl rfl (fun u=>∃a n c,u= .slice a n c) (fun u wk=>PI w ⟨1,by_,no,seen,at_,many,text⟩ (.slice (some ⟨b,off,none⟩) l.length cap) l u ([]++l.take q++zf4 ⟨1,by_,no,seen,at_,many,text⟩ number) wk) ⟨_,none,0,0,rfl⟩ (fun _ _ h=>h.m) (fun wk hwk=> ?_) (fun v6 hv6=> ?_)
    ·refine zdo (v:= .slice a4 n4 c4) (u:= .slice a5 n5 c5) rfl rfl rfl hwk.1.own hwk.2 ?_ hwk.1.size ?_
     ·have:=HLT.out;have:=HLN.out;simp only[List.nil_append];omega
     ·intro v' w' ho hg
      obtain⟨a6,c6,rfl,_⟩:=ho.lst.len
      exact⟨⟨_,_,_,rfl⟩,hwk.1.grown H0.out hg ho⟩
    obtain⟨a6,n6,c6,rfl⟩:=hv6
    refine wss rfl (fun K hK=> ?_)
    go_simp
    refine⟨_,fun _ _=>rfl,hK _ ?_⟩
    clear hK K
    refine wsn (fun w7 hw7=> ?_)
    have H7:Hid _:=hw7
    clear hw7
    go_wp2_with (at_builtin;refine zbe _ rfl (.tmp 68) (.tmp 71) rfl (w.heap.size+1) (v:= .slice a6 n6 c6) (u:= .slice ab nb cb) rfl rfl H7.out.own (HVD.out _ H7.out.m.lst) ?c0 H7.out.size ?_)
    case c0=>have:=HLT.out;have:=HLN.out;have:=HLD.out;simp only[List.nil_append,List.length_append];omega
    intro v8 w8 ho hg
    have H8:Hid (PI w ⟨1,by_,no,seen,at_,many,text⟩ (.slice (some ⟨b,off,none⟩) l.length cap) l v8 _ w8):=H7.out.grown H0.out hg ho
    clear ho hg H7
    go_wp2
    go_ret2
    refine⟨v8,rfl,?_,H8.out.m.below⟩
    rw[HP2.out]
    have:=H8.out.own.mono (base':=w.heap.size) (by omega)
    simpa only[List.nil_append,List.append_assoc]using this
  ·have HEQ:Hid (zbm by_ (l.drop p)=j):=by
    have h1:=znp by_ (l.drop p)
    have h2:=HSK.out
    rw[List.length_drop]at h1
    show _=_
    omega
   have HP2:Hid _:=HP.out
   rw[HEQ.out]at HP2
   have hlt':¬(((p+j:Nat):Int)<(l.length:Int)):=by omega
   clear HEQ HSK HP
   generalize p+j=q at*
   go_wp2
   go_quiet (fail)
   go_wp2
   clear c0 c1 c2 c3 c4 c5 c6
   generalize hw3:wr.drewN nq=w3 at*
   have HK3:Hid (PI w ⟨1,by_,no,seen,at_,many,text⟩ (.slice ad l.length cap) l (.slice none 0 0) [] w3):=by
    show PI _ _ _ _ _ _ _
    rw[←hw3]
    exact⟨HI3.out.after (below_drewN (Below.refl _ _) _),zd7 _ _⟩
   obtain⟨aa,na,ca,hva,hvl⟩:∃aa na ca,(∀w,(Instr.sliceAt 91 (.slice ad l.length cap) none (some (.int .i64 q)) none).run Tryz.prog w= .ok (.slice aa na ca) w)∧∀wk,Lst wk (.slice ad l.length cap) l→Lst wk (.slice aa na ca) (l.take q):=⟨_,_,_,zef _ l.length cap q (by omega),fun wk h=>zi9 h hpj⟩
   obtain⟨ab,nb,cb,hvb,hvd⟩:∃ab nb cb,(∀w,(Instr.sliceAt 91 (.slice ad l.length cap) (some (.int .i64 q)) none none).run Tryz.prog w= .ok (.slice ab nb cb) w)∧∀wk,Lst wk (.slice ad l.length cap) l→Lst wk (.slice ab nb cb) (l.drop q):=⟨_,_,_,zeg _ l.length cap q hpj,fun wk h=>zia h hpj⟩
   have HVL:Hid _:=hvl
   have HVD:Hid _:=hvd
   have HVA:Hid _:=hva
   have HLT:Hid ((l.take q).length≤1000):=by show _≤_;rw[List.length_take];omega
   have HLN:Hid ((zf4 ⟨1,by_,no,seen,at_,many,text⟩ number).length≤20):=by show _≤_;rw[zg5];exact hts
   have HLD:Hid ((l.drop q).length≤1000):=by show _≤_;rw[List.length_drop];omega
   clear hvl hvd hva hw3 HI3 HM
   refine wrs (fun wk=>zgc w w.heap.size ⟨1,by_,no,seen,at_,many,text⟩ (.slice ad l.length cap) l wk) (fun i=>i==4||i==7||i==8) (fun wk=>PI w ⟨1,by_,no,seen,at_,many,text⟩ (.slice ad l.length cap) l (.slice none 0 0) [] wk) (by kernel_rfl) (by kernel_rfl) (by kernel_rfl) (fun _ h=>h.m) (HK3.out.after (Below.refl _ _).drew) ?_
   refine wss rfl (fun K hK=> ?_)
   go_simp
   refine⟨_,fun _ _=>rfl,hK _ ?_⟩
   clear hK K
   refine wss rfl (fun K hK=> ?_)
   go_simp
   refine⟨_,fun _ _=>rfl,hK _ ?_⟩
   clear hK K
   refine wss rfl (fun K hK=> ?_)
   go_simp
   refine⟨_,fun _ _=>rfl,hK _ ?_⟩
   clear hK K
   refine wss rfl (fun K hK=> ?_)
   rw[if_pos (by rfl)]
   refine⟨.slice aa na ca,fun wk hwk=>zd2 rfl (HVA.out wk),hK _ ?_⟩
   clear hK K
   refine wsp rfl rfl (fun u=>∃a n c,u= .slice a n c) (fun u wk=>PI w ⟨1,by_,no,seen,at_,many,text⟩ (.slice ad l.length cap) l u ([]++l.take q) wk) ⟨_,none,0,0,rfl⟩ (fun _ _ h=>h.m) (fun wk hwk=> ?_) (fun v4 hv4=> ?_)
   ·refine zdo (v:= .slice none 0 0) (u:= .slice aa na ca) rfl rfl rfl hwk.own (HVL.out _ hwk.m.lst) ?_ hwk.size ?_
    ·have:=HLT.out;simp at this⊢;omega
    ·intro v' w' ho hg
     obtain⟨a4,c4,rfl,_⟩:=ho.lst.len
     exact⟨⟨_,_,_,rfl⟩,hwk.grown H0.out hg ho⟩
   obtain⟨a4,n4,c4,rfl⟩:=hv4
   refine wss rfl (fun K hK=> ?_)
   go_simp
   refine⟨ddV ⟨1,by_,no,seen,at_,many,text⟩,fun wk hwk=> ?_,hK _ ?_⟩
   ·obtain⟨_,c0,c1,c2,c3,c4,c5,c6⟩:=hwk.at_
    simp only[Nat.zero_add]at c0 c1 c2 c3 c4 c5 c6
    go_simp
   clear hK K
   refine wss rfl (fun K hK=> ?_)
   go_simp
   refine⟨_,fun _ _=>rfl,hK _ ?_⟩
   clear hK K
   refine wsp rfl rfl (fun u=>∃a n c,u= .slice a n c) (fun u wk=>PI w ⟨1,by_,no,seen,at_,many,text⟩ (.slice ad l.length cap) l (.slice a4 n4 c4) ([]++l.take q) wk∧Lst wk u (zf4 ⟨1,by_,no,seen,at_,many,text⟩ number)) ⟨_,none,0,0,rfl⟩ (fun _ _ h=>h.1.m) (fun wk hwk=> ?_) (fun v5 hv5=> ?_)
   ·go_simp
    refine(zky ⟨1,by_,no,seen,at_,many,text⟩ number wk (by simp only;omega)).mono ?_
    rintro e w5 ⟨u,rfl,ho,hb⟩
    obtain⟨a5,c5,rfl,_⟩:=ho.lst.len
    exact⟨_,rfl,⟨_,_,_,rfl⟩,hwk.after hb,ho.lst⟩
   obtain⟨a5,n5,c5,rfl⟩:=hv5
   refine wsp rfl rfl (fun u=>∃a n c,u= .slice a n c) (fun u wk=>PI w ⟨1,by_,no,seen,at_,many,text⟩ (.slice ad l.length cap) l u ([]++l.take q++zf4 ⟨1,by_,no,seen,at_,many,text⟩ number) wk) ⟨_,none,0,0,rfl⟩ (fun _ _ h=>h.m) (fun wk hwk=> ?_) (fun v6 hv6=> ?_)
   ·refine zdo (v:= .slice a4 n4 c4) (u:= .slice a5 n5 c5) rfl rfl rfl hwk.1.own hwk.2 ?_ hwk.1.size ?_
    ·have:=HLT.out;have:=HLN.out;simp only[List.nil_append];omega
    ·intro v' w' ho hg
     obtain⟨a6,c6,rfl,_⟩:=ho.lst.len
     exact⟨⟨_,_,_,rfl⟩,hwk.1.grown H0.out hg ho⟩
   obtain⟨a6,n6,c6,rfl⟩:=hv6
   refine wss rfl (fun K hK=> ?_)
   go_simp
   refine⟨_,fun _ _=>rfl,hK _ ?_⟩
   clear hK K
   refine wsn (fun w7 hw7=> ?_)
   have H7:Hid _:=hw7
   clear hw7
   go_wp2_with (at_builtin;refine zbe _ rfl (.tmp 68) (.tmp 71) rfl (w.heap.size+1) (v:= .slice a6 n6 c6) (u:= .slice ab nb cb) rfl rfl H7.out.own (HVD.out _ H7.out.m.lst) ?c0 H7.out.size ?_)
   case c0=>have:=HLT.out;have:=HLN.out;have:=HLD.out;simp only[List.nil_append,List.length_append];omega
   intro v8 w8 ho hg
   have H8:Hid (PI w ⟨1,by_,no,seen,at_,many,text⟩ (.slice ad l.length cap) l v8 _ w8):=H7.out.grown H0.out hg ho
   clear ho hg H7
   go_wp2
   go_ret2
   refine⟨v8,rfl,?_,H8.out.m.below⟩
   rw[HP2.out]
   have:=H8.out.own.mono (base':=w.heap.size) (by omega)
   simpa only[List.nil_append,List.append_assoc]using this
end Go.Proofs.YtcbnnfeelhlapadGreatDoor