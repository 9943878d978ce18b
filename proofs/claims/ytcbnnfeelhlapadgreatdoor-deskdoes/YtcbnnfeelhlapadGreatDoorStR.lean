/-
  A town by the document: Settle.
-/
import Derived.Test.YtcbnnfeelhlapadGreatDoorTnD
import Derived.Test.YtcbnnfeelhlapadGreatDoorStMem
import Derived.Test.YtcbnnfeelhlapadGreatDoorHpRef
import Derived.Test.YtcbnnfeelhlapadGreatDoorDBack
import Derived.Test.YtcbnnfeelhlapadGreatDoorFPut
import Derived.Test.YtcbnnfeelhlapadGreatDoorRAll
import Derived.Test.YtcbnnfeelhlapadGreatDoorCDel
namespace Go.Proofs.YtcbnnfeelhlapadGreatDoor
set_option maxHeartbeats 3200000
set_option maxRecDepth 20000
open Go Go.RowKit
def zpu(base:Nat)(w:World)(S:Nat→Prop)(D G:Nat)(t:Twn)(wk:World):Prop:=(∃pw,zb8 base w S D G pw t (fun _=>Th.no base) wk)∧∃tk,TR t tk
theorem zrs{t:Twn}{tk:Int→List (List Ch)}(h:TR t tk)(x:Tst)(hk:x.kind=4∨x.kind=5):∃tk',TR (tDo t x).2 tk':=by
 have htd:tDo t x=match t.ws x.w with|none=>(5,t)|some r=>if x.kind=4 then ze0 t x.w r else zdk t x.w r:=by
  unfold tDo
  rw[if_neg (by omega),if_neg (by omega)]
  cases he:t.ws x.w with
  |none=>rfl
  |some r=>
   show(if x.kind=2∨x.kind=3 then _ else _)=_
   rw[if_neg (by omega)]
   by_cases h4:x.kind=4
   ·rw[if_pos h4];exact(if_pos h4).symm
   ·rw[if_neg h4,if_pos (by omega)];exact(if_neg h4).symm
 rw[htd]
 cases he:t.ws x.w with
 |none=>exact⟨tk,h⟩
 |some r=>
  by_cases h4:x.kind=4
  ·show∃tk',TR (if x.kind=4 then ze0 t x.w r else zdk t x.w r).2 tk'
   rw[if_pos h4,ze0]
   cases hn:r.opens[r.sent]? with
   |none=>exact⟨tk,h⟩
   |some d=>
    by_cases hc:za4 t.b d=0
    ·refine⟨tk,?_⟩
     show TR (if _=0 then _ else _) _
     rw[if_pos hc]
     exact qcz h he hn hc
    ·refine⟨tk,?_⟩
     show TR (if _=0 then _ else _) _
     rw[if_neg hc]
     exact zm1 h he
  ·show∃tk',TR (if x.kind=4 then ze0 t x.w r else zdk t x.w r).2 tk'
   rw[if_neg h4,zdk]
   cases hn:t.b.ds[r.seen]? with
   |none=>exact⟨tk,h⟩
   |some d=>
    by_cases hc:zbd r d=0
    ·show∃tk',TR (if _=0 then(_,_)else(_,_)).2 tk'
     rw[if_pos hc]
     exact⟨_,qd2 h he hn hc⟩
    ·show∃tk',TR (if _=0 then(_,_)else(_,_)).2 tk'
     rw[if_neg hc]
     exact⟨_,zm1 h he⟩
theorem zpu.does{base D G:Nat}{S:Nat→Prop}{t:Twn}{w wk:World}(h:zpu base w S D G t wk)(x:Tst)(hk:x.kind=4∨x.kind=5):
 Calls Tryz.prog 56 #[.pointer (some ⟨D,0,none⟩),tsV x] wk fun e w'=>e= .returned (.int .i64 (tDo t x).1)∧zpu base w S D G (tDo t x).2 w':=by
 obtain⟨⟨pw,h1⟩,tk,h2⟩:=h
 obtain⟨T,ha,hs⟩:=h1.call
 exact(do_tn ha h2 x).mono fun e w' ⟨e1,pw',e2⟩=>⟨e1,⟨pw',hs _ _ _ e2⟩,zrs h2 x hk⟩
theorem zwj(t:Twn)(v:Int)(hc:(tDo t ⟨4,v,0,0,⟨#[]⟩⟩).1≠0):zc5 t v=(tDo t ⟨4,v,0,0,⟨#[]⟩⟩).2:=by
 rw[zl5]at hc⊢
 cases hw:t.ws v with
 |none=>exact zfr hw
 |some r=>
  rw[hw]at hc
  rw[zee hw,if_neg hc]
theorem zu5(t:Twn)(v:Int)(hc:(tDo t ⟨4,v,0,0,⟨#[]⟩⟩).1=0):zc5 t v=zc5 (tDo t ⟨4,v,0,0,⟨#[]⟩⟩).2 v∧unsent (tDo t ⟨4,v,0,0,⟨#[]⟩⟩).2 v<unsent t v:=by
 rw[zl5]at hc⊢
 cases hw:t.ws v with
 |none=>rw[hw]at hc;cases hc
 |some r=>
  rw[hw]at hc
  exact⟨by rw[zee hw,if_pos hc],zi3 hw hc⟩
theorem zxh(t:Twn)(v:Int)(hc:(tDo t ⟨5,v,0,0,⟨#[]⟩⟩).1≠0):zc7 t v=(tDo t ⟨5,v,0,0,⟨#[]⟩⟩).2:=by
 rw[zl6]at hc⊢
 cases hw:t.ws v with
 |none=>exact zfu hw
 |some r=>
  rw[hw]at hc
  rw[zel hw,if_neg hc]
theorem zuz(t:Twn)(v:Int)(hc:(tDo t ⟨5,v,0,0,⟨#[]⟩⟩).1=0):zc7 t v=zc7 (tDo t ⟨5,v,0,0,⟨#[]⟩⟩).2 v∧zev (tDo t ⟨5,v,0,0,⟨#[]⟩⟩).2 v<zev t v:=by
 rw[zl6]at hc⊢
 cases hw:t.ws v with
 |none=>rw[hw]at hc;cases hc
 |some r=>
  rw[hw]at hc
  exact⟨by rw[zel hw,if_pos hc],zh1 hw hc⟩
theorem qe0{w:World}{base D G:Nat}{pw:Nat→Nat}{t:Twn}{S:Nat→Prop}(h:zke base D G pw t w S){tk:Int→List (List Ch)}(hr:TR t tk):
 Calls Tryz.prog 43 #[.pointer (some ⟨D,0,none⟩)] w fun e w'=>e= .returned (.tuple #[])∧∃pw',zkd base w S D G pw' (zdz t) w':=by
 have HL:Hid (base≤w.heap.size∧∀k,S k→base≤k∧k<w.heap.size):=h.held
 have HI:Hid (zpu base w S D G t w):=⟨⟨pw,h.start⟩,tk,hr⟩
 clear h hr
 go_enter Tryz.func43,Tryz.ntmps43
 go_wp2_with fail
 go_loopw [2] (fun i wr=>∃n:Nat,n≤4∧i= .int .i64 n∧Hid (zpu base w S D G (zdg n t) wr)) (fun i _=>4-(intOf i).toNat)
 case atStart=>exact⟨0,by omega,rfl,HI.out⟩
 case round=>
  obtain⟨n,hn,rfl,HW⟩:=hrel
  by_cases hlt:n<4
  ·have hlt':(n:Int)<4:=by omega
   go_wp2_with fail
   go_loopg [] (unsent (zdg n t) n) (fun m wr2=>∃t2,unsent t2 n=m∧zc5 t2 n=zc5 (zdg n t) n∧Hid (zpu base w S D G t2 wr2))
   case atStart=>exact⟨_,rfl,rfl,HW.out⟩
   case round=>
    obtain⟨t2,hm,hall,HW2⟩:=hrel
    have HM:Hid (unsent t2 n=gk∧zc5 t2 n=zc5 (zdg n t) n):=⟨hm,hall⟩
    clear hm hall
    obtain⟨⟨pw2,hd2⟩,_⟩:=HW2.out
    have g1:=hd2.cells.ws n hlt
    have hlt0:=hd2.cells.lt
    cases he:t2.ws n with
    |none=>
     have hhs:zbs t2 n=false:=by unfold zbs;rw[he];rfl
     simp only[hhs,zbu,Bool.false_eq_true,if_false]at g1
     have HN:Hid (zdg (n+1) t=t2):=by
      show zc5 (zdg n t) n=t2
      rw[←HM.out.2]
      exact zfr he
     clear he hhs hd2
     go_wp2_with fail
     go_roundw
     case rel=>exact⟨n+1,by omega,by go_num,by rw[HN.out];exact HW2.out⟩
     case measure=>simp[intOf];omega
    |some r2=>
     have hhs:zbs t2 n=true:=by unfold zbs;rw[he];rfl
     simp only[hhs,zbu,if_true]at g1
     clear he hhs hd2
     go_wp2_with fail
     clear g1 hlt0
     refine(HW2.out.does ⟨4,n,0,0,⟨#[]⟩⟩ (.inl rfl)).mono ?_
     rintro e w7 ⟨rfl,h7⟩
     have H7:Hid (zpu base w S D G (tDo t2 ⟨4,n,0,0,⟨#[]⟩⟩).2 w7):=h7
     clear h7 HW2
     by_cases hz:(tDo t2 ⟨4,n,0,0,⟨#[]⟩⟩).1=0
     ·have HY:Hid (zc5 t2 n=zc5 (tDo t2 ⟨4,n,0,0,⟨#[]⟩⟩).2 n∧unsent (tDo t2 ⟨4,n,0,0,⟨#[]⟩⟩).2 n<unsent t2 n):=zu5 t2 n hz
      rw[hz]
      clear hz
      go_wp2_with fail
      go_roundg (unsent (tDo t2 ⟨4,n,0,0,⟨#[]⟩⟩).2 n)
      case measure=>have:=HY.out.2;have:=HM.out.1;omega
      case rel=>exact⟨_,rfl,by rw[←HY.out.1,HM.out.2],H7.out⟩
     ·have HN:Hid (zdg (n+1) t=(tDo t2 ⟨4,n,0,0,⟨#[]⟩⟩).2):=by
       show zc5 (zdg n t) n=_
       rw[←HM.out.2,zwj t2 n hz]
      obtain⟨cq,hcq⟩:∃c,(tDo t2 ⟨4,n,0,0,⟨#[]⟩⟩).1=c:=⟨_,rfl⟩
      have hz2:¬cq=0:=by rw[←hcq];exact hz
      rw[hcq]
      clear hz hcq
      go_wp2_with fail
      go_roundw
      case rel=>exact⟨n+1,by omega,by go_num,by rw[HN.out];exact H7.out⟩
      case measure=>simp[intOf];omega
  ·have hne:n=4:=by omega
   have hn4:(n:Int)=4:=by omega
   rw[hn4]
   rw[hne]at HW
   clear hn4 hne hn hlt
   go_wp2_with fail
   have HA:Hid (zpu base w S D G (zh7 0 (zdg 4 t)) wr):=HW.out
   clear HW HI
   go_loopw [3] (fun i wr=>∃n:Nat,n≤4∧i= .int .i64 n∧Hid (zpu base w S D G (zh7 n (zdg 4 t)) wr)) (fun i _=>4-(intOf i).toNat)
   case atStart=>exact⟨0,by omega,rfl,HA.out⟩
   case round=>
    obtain⟨n,hn,rfl,HW⟩:=hrel
    by_cases hlt:n<4
    ·have hlt':(n:Int)<4:=by omega
     go_wp2_with fail
     go_loopg [] (zev (zh7 n (zdg 4 t)) n) (fun m wr2=>∃t2,zev t2 n=m∧zc7 t2 n=zc7 (zh7 n (zdg 4 t)) n∧Hid (zpu base w S D G t2 wr2))
     case atStart=>exact⟨_,rfl,rfl,HW.out⟩
     case round=>
      obtain⟨t2,hm,hall,HW2⟩:=hrel
      have HM:Hid (zev t2 n=gk∧zc7 t2 n=zc7 (zh7 n (zdg 4 t)) n):=⟨hm,hall⟩
      clear hm hall
      obtain⟨⟨pw2,hd2⟩,_⟩:=HW2.out
      have g1:=hd2.cells.ws n hlt
      have hlt0:=hd2.cells.lt
      cases he:t2.ws n with
      |none=>
       have hhs:zbs t2 n=false:=by unfold zbs;rw[he];rfl
       simp only[hhs,zbu,Bool.false_eq_true,if_false]at g1
       have HN:Hid (zh7 (n+1) (zdg 4 t)=t2):=by
        show zc7 (zh7 n (zdg 4 t)) n=t2
        rw[←HM.out.2]
        exact zfu he
       clear he hhs hd2
       go_wp2_with fail
       go_roundw
       case rel=>exact⟨n+1,by omega,by go_num,by rw[HN.out];exact HW2.out⟩
       case measure=>simp[intOf];omega
      |some r2=>
       have hhs:zbs t2 n=true:=by unfold zbs;rw[he];rfl
       simp only[hhs,zbu,if_true]at g1
       clear he hhs hd2
       go_wp2_with fail
       clear g1 hlt0
       refine(HW2.out.does ⟨5,n,0,0,⟨#[]⟩⟩ (.inr rfl)).mono ?_
       rintro e w7 ⟨rfl,h7⟩
       have H7:Hid (zpu base w S D G (tDo t2 ⟨5,n,0,0,⟨#[]⟩⟩).2 w7):=h7
       clear h7 HW2
       by_cases hz:(tDo t2 ⟨5,n,0,0,⟨#[]⟩⟩).1=0
       ·have HY:Hid (zc7 t2 n=zc7 (tDo t2 ⟨5,n,0,0,⟨#[]⟩⟩).2 n∧zev (tDo t2 ⟨5,n,0,0,⟨#[]⟩⟩).2 n<zev t2 n):=zuz t2 n hz
        rw[hz]
        clear hz
        go_wp2_with fail
        go_roundg (zev (tDo t2 ⟨5,n,0,0,⟨#[]⟩⟩).2 n)
        case measure=>have:=HY.out.2;have:=HM.out.1;omega
        case rel=>exact⟨_,rfl,by rw[←HY.out.1,HM.out.2],H7.out⟩
       ·have HN:Hid (zh7 (n+1) (zdg 4 t)=(tDo t2 ⟨5,n,0,0,⟨#[]⟩⟩).2):=by
         show zc7 (zh7 n (zdg 4 t)) n=_
         rw[←HM.out.2,zxh t2 n hz]
        obtain⟨cq,hcq⟩:∃c,(tDo t2 ⟨5,n,0,0,⟨#[]⟩⟩).1=c:=⟨_,rfl⟩
        have hz2:¬cq=0:=by rw[←hcq];exact hz
        rw[hcq]
        clear hz hcq
        go_wp2_with fail
        go_roundw
        case rel=>exact⟨n+1,by omega,by go_num,by rw[HN.out];exact H7.out⟩
        case measure=>simp[intOf];omega
    ·have hne:n=4:=by omega
     have hn4:(n:Int)=4:=by omega
     rw[hn4]
     rw[hne]at HW
     clear hn4 hne hn hlt
     go_wp2_with fail
     go_end0
     obtain⟨⟨pw9,h9⟩,_⟩:=HW.out
     exact⟨rfl,pw9,h9.done HL.out⟩
theorem tr_do{t:Twn}{tk:Int→List (List Ch)}(h:TR t tk)(x:Tst):∃tk',TR (tDo t x).2 tk':=by
 by_cases k0:x.kind<1∨7<x.kind
 ·exact⟨tk,by unfold tDo;rw[if_pos k0];exact h⟩
 by_cases k45:x.kind=4∨x.kind=5
 ·exact zrs h x k45
 by_cases k1:x.kind=1
 ·unfold tDo
  rw[if_neg k0,if_pos k1,zsp]
  by_cases hc:zc6 t.b x.w=0
  ·refine⟨zab tk x.w [],?_⟩
   show TR (if _=0 then _ else _) _
   rw[if_pos hc]
   exact qd1 h hc
  ·refine⟨tk,?_⟩
   show TR (if _=0 then _ else _) _
   rw[if_neg hc]
   exact h
 unfold tDo
 rw[if_neg k0,if_neg k1]
 cases he:t.ws x.w with
 |none=>exact⟨tk,h⟩
 |some r=>
  show∃tk',TR (if x.kind=2∨x.kind=3 then qay t x.w r x else if x.kind=4 then ze0 t x.w r else if x.kind=5 then zdk t x.w r
   else if x.kind=6 then(0,⟨t.b,zab t.ws x.w (some (zfw r (zau t.b r.seen)))⟩)else(0,zdl t x.w)).2 tk'
  by_cases k23:x.kind=2∨x.kind=3
  ·rw[if_pos k23,qay]
   by_cases hc:doC r.list (ownD r x) za0=0
   ·refine⟨zab tk x.w (tk x.w++[zep r.list (ownD r x)]),?_⟩
    show TR (if _=0 then _ else _) _
    rw[if_pos hc]
    exact qd0 h he x hc
   ·refine⟨tk,?_⟩
    show TR (if _=0 then _ else _) _
    rw[if_neg hc]
    exact h
  ·rw[if_neg k23,if_neg (by omega),if_neg (by omega)]
   by_cases k6:x.kind=6
   ·rw[if_pos k6]
    exact⟨_,zyi h he⟩
   ·rw[if_neg k6]
    exact⟨_,zm1 h he⟩
theorem ztg{t:Twn}(h:∃tk,TR t tk):∀n,∃tk,TR (zdg n t) tk
 | 0=>h
 |n+1=>zwl (fun t=>∃tk,TR t tk) (fun t r ⟨tk,ht⟩ hw=>by
  have:=zrs ht ⟨4,n,0,0,⟨#[]⟩⟩ (.inl rfl)
  rw[zl5,hw]at this
  exact this) _ _ rfl (ztg h n)
theorem zth{t:Twn}(h:∃tk,TR t tk):∀n,∃tk,TR (zh7 n t) tk
 | 0=>h
 |n+1=>zxj (fun t=>∃tk,TR t tk) (fun t r ⟨tk,ht⟩ hw=>by
  have:=zrs ht ⟨5,n,0,0,⟨#[]⟩⟩ (.inr rfl)
  rw[zl6,hw]at this
  exact this) _ _ rfl (zth h n)
theorem qcy{t:Twn}{tk:Int→List (List Ch)}(h:TR t tk):∃tk',TR (zdz t) tk':=zth (ztg ⟨tk,h⟩ 4) 4
structure RkC(w:World)(R:Nat)(told:ByteArray)(E:Nat):Prop where
 lt:R<w.heap.size
 told:w.cell? ⟨R,0,none⟩=some (.string told)
 town:w.cell? ⟨R,1,none⟩=some (.pointer (some ⟨E,0,none⟩))
 free:∀o,o<2→w.frozen? ⟨R,o,none⟩=false
theorem RkC.kept{w w':World}{R E:Nat}{told:ByteArray}(h:RkC w R told E)(hs:w.heap.size≤w'.heap.size)(hb:w'.heap[R]? =w.heap[R]?):RkC w' R told E:=by
 have hc:∀o,w'.cell? ⟨R,o,none⟩=w.cell? ⟨R,o,none⟩:=fun o=>World.cell?_of_block (a:=⟨R,o,none⟩) hb
 have hf:∀o,w'.frozen? ⟨R,o,none⟩=w.frozen? ⟨R,o,none⟩:=fun o=>World.frozen?_of_block (a:=⟨R,o,none⟩) hb
 exact⟨Nat.lt_of_lt_of_le h.lt hs,by rw[hc];exact h.told,by rw[hc];exact h.town,fun o ho=>by rw[hf];exact h.free o ho⟩
theorem RkC.set{w:World}{R E:Nat}{told:ByteArray}(h:RkC w R told E)(s:ByteArray):RkC (w.setCell ⟨R,0,none⟩ (.string s)) R s E:=by
 have h0:=h.told
 have h1:=h.town
 refine⟨by simpa [World.setCell]using h.lt,?_,?_,fun o ho=> ?_⟩
 ·simp[go_sem,h0]
 ·simp[go_sem,h1]
 ·simpa [go_sem]using h.free o ho
def Th.rk(base R:Nat)(told:ByteArray)(E:Nat):Th base:=Th.blk base R (fun w=>RkC w R told E) (fun _ _ hz hb h=>h.kept hz hb)
def zvx(base R E F:Nat)(qw:Nat→Nat)(told:ByteArray)(u:Twn)(ex:Th base):Nat→Th base:=zag (zag (zag (fun _=>Th.no base) 1 (Th.tn base E F qw u)) 2 (Th.rk base R told E)) 3 ex
section
variable {base R E F:Nat} {qw:Nat→Nat} {w0 wk w':World} {S:Nat→Prop} {told:ByteArray} {u:Twn} {ex:Th base}
theorem rk_1:zvx base R E F qw told u ex 1=Th.tn base E F qw u:=rfl
theorem rk_2:zvx base R E F qw told u ex 2=Th.rk base R told E:=rfl
theorem rk_put1{qw':Nat→Nat}{u':Twn}:∀i,zag (zvx base R E F qw told u ex) 1 (Th.tn base E F qw' u') i=zvx base R E F qw' told u' ex i:=fun i=>by
 unfold zvx zag
 by_cases e1:i=1
 ·subst e1;rfl
 ·rw[if_neg e1]
  by_cases e3:i=3
  ·rw[if_pos e3,if_pos e3]
  ·rw[if_neg e3,if_neg e3]
   by_cases e2:i=2
   ·rw[if_pos e2,if_pos e2]
   ·rw[if_neg e2,if_neg e2,if_neg e1,if_neg e1]
theorem rk_put2{told':ByteArray}:∀i,zag (zvx base R E F qw told u ex) 2 (Th.rk base R told' E) i=zvx base R E F qw told' u ex i:=fun i=>by
 unfold zvx zag
 by_cases e2:i=2
 ·subst e2;rfl
 ·rw[if_neg e2]
  by_cases e3:i=3
  ·rw[if_pos e3,if_pos e3]
  ·rw[if_neg e3,if_neg e3,if_neg e2,if_neg e2]
theorem rk_put3{ex':Th base}:∀i,zag (zvx base R E F qw told u ex) 3 ex' i=zvx base R E F qw told u ex' i:=fun i=>by
 unfold zvx zag
 by_cases e3:i=3
 ·rw[if_pos e3,if_pos e3]
 ·rw[if_neg e3,if_neg e3,if_neg e3]
end
structure zbi(base:Nat)(w0:World)(S:Nat→Prop)(R E F:Nat)(qw:Nat→Nat)(told:ByteArray)(u:Twn)(ex:Th base)(wk:World):Prop where
 hq:Hq base (zvx base R E F qw told u ex) w0 S wk
 tr:∃tk,TR u tk
 rdy:Rdy base wk
section
variable {base R E F:Nat} {qw:Nat→Nat} {w0 wk w':World} {S:Nat→Prop} {told:ByteArray} {u:Twn} {ex:Th base}
theorem zbi.after(h:zbi base w0 S R E F qw told u ex wk)(hb:Below wk.heap.size wk w'):zbi base w0 S R E F qw told u ex w':=⟨h.hq.after hb,h.tr,h.rdy.after hb⟩
theorem zbi.cells(h:zbi base w0 S R E F qw told u ex wk):RkC wk R told E:=by
 obtain⟨T,hp,_⟩:=h.hq.get (i:=2) (by omega)
 rw[rk_2]at hp
 exact hp.2
theorem zbi.box(h:zbi base w0 S R E F qw told u ex wk):∃T,ex.P wk T:=by
 obtain⟨T,hp,_⟩:=h.hq.get (i:=3) (by omega)
 exact⟨T,hp⟩
theorem zbi.lay(h:zbi base w0 S R E F qw told u ex wk)(hb:Below wk.heap.size wk w')(c:Th base)(hc:c.P w' (fun k=>wk.heap.size≤k∧k<w'.heap.size)):zbi base w0 S R E F qw told u c w':=
 ⟨(h.hq.lay hb (i:=3) (by omega) c hc).imp (fun i _ T' _ hp=>by rw[rk_put3]at hp;exact hp),h.tr,h.rdy.after hb⟩
theorem zbi.bare(h:zbi base w0 S R E F qw told u ex wk):zbi base w0 S R E F qw told u (Th.no base) wk:=
 ⟨h.hq.imp (fun i _ T' _ hp=>by
  by_cases e3:i=3
  ·subst e3;trivial
  ·unfold zvx at hp⊢
   rw[za2 _ _ e3]at hp⊢
   exact hp),h.tr,h.rdy⟩
theorem zbi.set(h:zbi base w0 S R E F qw told u ex wk)(s:ByteArray):zbi base w0 S R E F qw s u ex (wk.setCell ⟨R,0,none⟩ (.string s)):=by
 obtain⟨T,hp,hl,ht⟩:=h.hq.turn (i:=2) (by omega)
 rw[rk_2]at hp
 obtain⟨p1,p2⟩:=hp
 have hk:zak T wk (wk.setCell ⟨R,0,none⟩ (.string s)):=(zak.refl T wk).set (p:=⟨R,0,none⟩) p1 _
 exact⟨(ht (Th.rk base R s E) _ hk ⟨.inl p1,p2.set s⟩).imp (fun i _ T' _ hp=>by rw[rk_put2]at hp;exact hp),h.tr,h.rdy.kept hk (fun k e=>(hl k e).1)⟩
theorem zbi.town(h:zbi base w0 S R E F qw told u ex wk):∃T,zke base E F qw u wk T∧∀qw' u' w',zkd base wk T E F qw' u' w'→(∃tk,TR u' tk)→zbi base w0 S R E F qw' told u' ex w':=by
 obtain⟨T,hp,hl,ht⟩:=h.hq.turn (i:=1) (by omega)
 rw[rk_1]at hp
 have hp':zke base E F qw u wk T:=hp
 exact⟨T,hp',fun qw' u' w' ⟨c1,c2⟩ c3=>⟨(ht (Th.tn base E F qw' u') w' c2 c1).imp (fun i _ T' _ hp=>by rw[rk_put1]at hp;exact hp),c3,h.rdy.kept c2 (fun k e=>(hl k e).1)⟩⟩
theorem zbi.ti(h:zbi base w0 S R E F qw told u ex wk):TwI u:=by
 obtain⟨tk,h⟩:=h.tr
 exact h.ti
theorem zbi.does(h:zbi base w0 S R E F qw told u ex wk)(x:Tst):
 Calls Tryz.prog 56 #[.pointer (some ⟨E,0,none⟩),tsV x] wk fun e w'=>e= .returned (.int .i64 (tDo u x).1)∧∃qw',zbi base w0 S R E F qw' told (tDo u x).2 ex w':=by
 obtain⟨T,h1,h2⟩:=h.town
 obtain⟨tk,hr⟩:=h.tr
 exact(do_tn h1 hr x).mono fun e w' ⟨e1,qw',e2⟩=>⟨e1,qw',h2 _ _ _ e2 (tr_do hr x)⟩
theorem zbi.settles(h:zbi base w0 S R E F qw told u ex wk):
 Calls Tryz.prog 43 #[.pointer (some ⟨E,0,none⟩)] wk fun e w'=>e= .returned (.tuple #[])∧∃qw',zbi base w0 S R E F qw' told (zdz u) ex w':=by
 obtain⟨T,h1,h2⟩:=h.town
 obtain⟨tk,hr⟩:=h.tr
 exact(qe0 h1 hr).mono fun e w' ⟨e1,qw',e2⟩=>⟨e1,qw',h2 _ _ _ e2 (qcy hr)⟩
theorem zbi.apart(h:zbi base w0 S R E F qw told u ex wk):∃T,zke base E F qw u wk T∧¬T R:=by
 obtain⟨ow,h1⟩:=h.hq
 have a1:=h1.at_.at_ 1 (by omega)
 have a2:=h1.at_.at_ 2 (by omega)
 rw[rk_1]at a1
 rw[rk_2]at a2
 refine⟨_,a1,fun e=> ?_⟩
 have e2:ow R=2:=a2.1
 omega
theorem zbi.tw(h:zbi base w0 S R E F qw told u ex wk):TwC wk E F qw (zbs u):=by
 obtain⟨T,h1,_⟩:=h.apart
 exact h1.start.cells
theorem zgj(h:zbi base w0 S R E F qw told u ex wk)(s:ByteArray)(hs:told.size+s.size≤1000000000):
 Calls Tryz.prog 34 #[.pointer (some ⟨R,0,none⟩),.string s] wk fun e w'=>e= .returned (.tuple #[])∧zbi base w0 S R E F qw (told++(s++nlS)) u ex w'∧zak (fun k=>k=R) wk w':=by
 have HN:Hid (zbi base w0 S R E F qw (told++(s++nlS)) u ex (wk.setCell ⟨R,0,none⟩ (.string (told++(s++nlS))))):=h.set _
 have c0:=h.cells.told
 have f0:=h.cells.free 0 (by omega)
 have hlt:=h.cells.lt
 have h1:told.size≤1000000000:=by omega
 have h2:s.size≤1000000000:=by omega
 clear h hs
 go_enter Tryz.func34,Tryz.ntmps34
 go_wp2
 go_end0
 exact⟨rfl,HN.out,(zak.refl (fun k=>k=R) wk).set (p:=⟨R,0,none⟩) rfl _⟩
end
theorem zs2(n:Nat)(hn:n≤100000)(w:World):(Instr.makeSlice 42 (.int .i64 n) (.int .i64 n)).run Tryz.prog w= .ok (.slice (some ⟨w.heap.size,0,none⟩) n n) (w.alloc (.cells (madeCells (Value.int .u8 0).cells (n*1)) 5)):=by
 obtain⟨i0,hi,hz0,hz1,hz2⟩:=info_parts Tryz.infoByte
 have:=run_make (P:=Tryz.prog) w 42 5 i0 (.int .u8 0) Tryz.underlying42 hi hz0 .i64 .i64 n n (by omega) (Int.le_refl _) (by rw[hz2];omega) (by omega)
 simp only[Int.toNat_natCast,hz1]at this
 exact this
structure TxI(w1:World)(l:List Ch)(k:Nat)(wr:World):Prop where
 below:Below w1.heap.size w1 wr
 own:∃r,wr.ownsRow w1.heap.size 5 1 (.slice (some ⟨w1.heap.size,0,none⟩) l.length l.length) l.length (zen ((l.map (·.c)).take k)++r)
theorem qcq(w1:World)(l:List Ch)(hl:l.length≤100000):TxI w1 l 0 (w1.alloc (.cells (madeCells #[Value.int .u8 0] l.length) 5)):=by
 have e0:(madeCells #[Value.int .u8 0] l.length)=madeCells (Value.int .u8 0).cells (l.length*1):=by rw[Nat.mul_one];rfl
 rw[e0]
 refine⟨za1 _ _,(madeCells (Value.int .u8 0).cells (l.length*1)).toList,?_⟩
 rw[List.take_zero]
 have:=World.ownsRow_lit (base:=w1.heap.size) (e:=5) (size:=1) w1 (madeCells (Value.int .u8 0).cells (l.length*1)) l.length (Nat.le_refl _) (by unfold maxLen;omega) (size_madeCells _ _)
 simpa [zen]using this
theorem TxI.after{w1 wr w':World}{l:List Ch}{k:Nat}(h:TxI w1 l k wr)(hb:Below wr.heap.size wr w'):TxI w1 l k w':=by
 obtain⟨h1,r,h2⟩:=h
 exact⟨bla h1 hb,r,zeh h2 hb⟩
theorem TxI.step{w1 wr:World}{l:List Ch}{k:Nat}(h:TxI w1 l k wr)(hk:k<l.length){c:Int}(hc:c=l[k].c):TxI w1 l (k+1) (wr.setCell ⟨w1.heap.size,k,none⟩ (.int .u8 c)):=by
 obtain⟨hb,r,ho⟩:=h
 refine⟨hb.setCell (by simp) _,r.drop 1,?_⟩
 have hlm:(l.map (·.c)).length=l.length:=List.length_map ..
 have hlen:=ho.1
 have hl8:(zen ((l.map (·.c)).take k)).length=k:=by
  unfold zen
  rw[List.length_map,List.length_take,hlm]
  omega
 rw[List.length_append,hl8]at hlen
 have e:zen ((l.map (·.c)).take (k+1))++r.drop 1=(zen ((l.map (·.c)).take k)++r).set k (.int .u8 c):=by
  match r,(show 1≤r.length by omega)with
  |r0::r,_=>
   rw[List.take_succ_eq_append_getElem (by omega),List.getElem_map,←hc]
   have:∀(p:List Value) (m:Nat) (x y:Value),p.length=m→(p++y::r).set m x=p++x::r:=by
    intro p m x y hm
    subst hm
    simp
   rw[this _ _ _ _ hl8]
   simp[zen]
 rw[e]
 exact(ho.stored _ _).1
theorem tx_spot{w:World}{base g n cap:Nat}{xs:List Value}(h:w.ownsRow base 5 1 (.slice (some ⟨g,0,none⟩) n cap) n xs){j:Nat}(hj:j<n):(∃u,w.cell? ⟨g,j,none⟩=some u)∧w.frozen? ⟨g,j,none⟩=false:=by
 refine⟨?_,h.frozenAt j⟩
 rw[h.cellAt j (by omega)]
 exact⟨_,List.getElem?_eq_getElem (by rw[h.1];omega)⟩
theorem txI_end{w1 wr:World}{l:List Ch}(h:TxI w1 l l.length wr):(convert 42 9 (.slice (some ⟨w1.heap.size,0,none⟩) l.length l.length)).run Tryz.prog wr= .ok (.string (strOfNums (l.map (·.c)))) wr:=by
 obtain⟨hb,r,ho⟩:=h
 have hlm:(l.map (·.c)).length=l.length:=List.length_map ..
 rw[show(l.map (·.c)).take l.length=l.map (·.c) by rw[←hlm];exact List.take_length]at ho
 have hr:r=[]:=by
  have:=ho.1
  unfold zen at this
  rw[List.length_append,List.length_map,hlm]at this
  exact List.length_eq_zero_iff.1 (by omega)
 rw[hr,List.append_nil]at ho
 have ho':wr.ownsRow w1.heap.size 5 1 (.slice (some ⟨w1.heap.size,0,none⟩) l.length l.length) (l.map (·.c)).length (zen (l.map (·.c))):=by rw[hlm];exact ho
 exact zg9 ho'
section
variable {w:World} {lo P:Nat} {b:Bk}
theorem text_st(h:qgz w lo P b)(n:Int):
 Calls Tryz.prog 141 #[.pointer (some ⟨P,0,none⟩),.int .i64 n] w fun e w'=>e= .returned (.tuple #[.string (strOfNums ((thS b n).map (·.c))),.bool (inS b n)])∧Below w.heap.size w w':=by
 have HA:Hid (qgz w lo P b):=h
 have hcl:(thS b n).length≤200:=by
  have:=ztn b n
  have:=zb2 (b:=b)
  omega
 clear h
 go_enter Tryz.func141,Tryz.ntmps141
 go_wp2_with fail
 refine(qdc HA.out n).mono ?_
 rintro e w1 ⟨v1,rfl,ho,hb⟩
 have HL:Hid (Lst w1 v1 (thS b n)):=ho.lst
 have HB:Hid (Below w.heap.size w w1):=hb
 obtain⟨a,cap,rfl,hcap⟩:=ho.lst.len
 obtain⟨l,hl⟩:∃l,thS b n=l:=⟨_,rfl⟩
 obtain⟨ok,hok⟩:∃ok,inS b n=ok:=⟨_,rfl⟩
 have HTH:Hid (thS b n=l):=hl
 have HOK:Hid (inS b n=ok):=hok
 rw[hl]at hcl hcap HL⊢
 rw[hok]
 clear hl hok
 clear ho hb HA
 have hmk:=zs2 l.length (by omega)
 have HI:Hid (TxI w1 l 0 _):=qcq w1 l (by omega)
 go_wp2
 go_loopw [22] (fun i wr=>∃k:Nat,k≤l.length∧i= .int .i64 k∧Hid (TxI w1 l k wr)) (fun i _=>l.length-(intOf i).toNat)
 case atStart=>exact⟨0,Nat.zero_le _,rfl,HI⟩
 case round=>
  obtain⟨k,hk,rfl,HK⟩:=hrel
  clear HI hmk
  by_cases hkl:k<l.length
  ·have hki:(k:Int)<(l.length:Int):=by omega
   obtain⟨bb,off,rfl,hr⟩:∃b off,a=some ⟨b,off,none⟩∧Row wr b off l:=by
    obtain⟨b1,o1,e1,_,r1⟩:=(HL.out.below HK.out.below).row (by omega)
    exact⟨b1,o1,e1,r1⟩
   have hbl:=hr.lt
   obtain⟨h0,h1,h2,h3,h4,h5,h6⟩:=hr.at_ k hkl
   obtain⟨x,hx⟩:∃x,l[k]=x:=⟨_,rfl⟩
   have HX:Hid (l[k]=x):=hx
   rw[hx]at h0 h1 h2 h3 h4 h5 h6
   have HK2:Hid (TxI w1 l k (wr.alloc (.cells #[.int .u8 x.c,.int .i64 x.by_,.int .i64 x.no,.int .i64 x.k,.int .i64 x.inn,.int .i64 x.out,.int .i64 x.gone] 127))):=HK.out.after (za1 _ _)
   obtain⟨r,ho⟩:=HK2.out.own
   obtain⟨⟨q0,e0⟩,f0⟩:=tx_spot ho (j:=k) hkl
   have hw1:w1.heap.size<wr.heap.size:=by
    obtain⟨_,ho'⟩:=HK.out.own
    exact(World.ownsRow.lt ho' _ rfl).2
   have HN:Hid (TxI w1 l (k+1) ((wr.setCell ⟨w1.heap.size,k,none⟩ (.int .u8 x.c)).alloc (.cells #[.int .u8 x.c,.int .i64 x.by_,.int .i64 x.no,.int .i64 x.k,.int .i64 x.inn,.int .i64 x.out,.int .i64 x.gone] 127))):=(HK.out.step hkl (by rw[HX.out])).after (za1 _ _)
   clear hr ho hx HX HK HK2
   go_wp2
   go_roundw
   case rel=>exact⟨k+1,by omega,by go_num,HN⟩
   case measure=>simp[intOf];omega
  ·obtain rfl:k=l.length:=by omega
   have hcv:=txI_end HK.out
   go_wp2
   go_ret2
   exact⟨by rw[HTH.out,HOK.out];rfl,bla HB.out HK.out.below⟩
theorem zmq(a b:List Int):ziu (a++b)=ziu a++ziu b:=List.map_append ..
structure ByI(w w1:World)(v:Value)(zs:List Int)(wk:World):Prop where
 below:Below w1.heap.size w1 wk
 own:zpv wk w1.heap.size v zs
theorem ByI.after{w w1 wk w':World}{v:Value}{zs:List Int}(h:ByI w w1 v zs wk)(hb:Below wk.heap.size wk w'):ByI w w1 v zs w':=⟨bla h.below hb,h.own.below hb⟩
theorem zno(w:World)(z:Int):∀j u,([Value.int .i64 z])[j]? =some u→(w.alloc (.cells #[.int .i64 z] 3)).cell? ((⟨w.heap.size,0,none⟩:Addr).add j)=some u:=by
 intro j u hj
 match j,hj with
 | 0,hj=>simp at hj;subst hj;simp[Addr.add,go_sem]
theorem ByI.grown{w w1 wr w2:World}{v v':Value}{zs:List Int}{z:Int}(h:ByI w w1 v zs wr)(ho:w2.ownsRow w1.heap.size 3 1 v' (zs.length+1) (ziu zs++[.int .i64 z]))(hg:wr.grownBy w2 v.ownBlock):ByI w w1 v' (zs++[z]) w2:=by
 refine⟨h.below.grown hg (by have:=h.below.size;omega) (fun j hj=>(World.ownsRow.lt h.own j hj).1),?_⟩
 unfold zpv
 rw[zmq,List.length_append]
 exact ho
theorem by_own(h:qgz w lo P b)(n:Int):
 Calls Tryz.prog 142 #[.pointer (some ⟨P,0,none⟩),.int .i64 n] w fun e w'=>∃v,e= .returned (.tuple #[v,.bool (inS b n)])∧(∃m,w.heap.size≤m∧zpv w' m v ((thS b n).map (·.by_)))∧Below w.heap.size w w':=by
 have HA:Hid (qgz w lo P b):=h
 have hcl:(thS b n).length≤200:=by
  have:=ztn b n
  have:=zb2 (b:=b)
  omega
 clear h
 obtain⟨i0,hi,hz0,hz1,hz2⟩:=info_parts zsr
 go_enter Tryz.func142,Tryz.ntmps142
 go_wp2_with fail
 refine(qdc HA.out n).mono ?_
 rintro e w1 ⟨v1,rfl,ho,hb⟩
 have HL:Hid (Lst w1 v1 (thS b n)):=ho.lst
 have HB:Hid (Below w.heap.size w w1):=hb
 obtain⟨a,cap,rfl,hcap⟩:=ho.lst.len
 obtain⟨l,hl⟩:∃l,thS b n=l:=⟨_,rfl⟩
 obtain⟨ok,hok⟩:∃ok,inS b n=ok:=⟨_,rfl⟩
 have HTH:Hid (thS b n=l):=hl
 have HOK:Hid (inS b n=ok):=hok
 rw[hl]at hcl hcap HL⊢
 rw[hok]
 clear hl hok
 clear ho hb HA
 go_wp2
 go_loopw [8,19] (fun v i wr=>∃k:Nat,k≤l.length∧i= .int .i64 k∧Hid (ByI w w1 v ((l.map (·.by_)).take k) wr)) (fun _ i _=>l.length-(intOf i).toNat)
 case atStart=>exact⟨0,Nat.zero_le _,rfl,Below.refl _ _,zlc _ _⟩
 case round=>
  obtain⟨k,hk,rfl,HK⟩:=hrel
  have hlm:(l.map (·.by_)).length=l.length:=List.length_map ..
  by_cases hkl:k<l.length
  ·have hki:(k:Int)<(l.length:Int):=by omega
   have HN:Hid ((l.map (·.by_)).take (k+1)=(l.map (·.by_)).take k++[l[k].by_]):=by
    show List.take _ _=_
    rw[List.take_succ_eq_append_getElem (by omega),List.getElem_map]
   have hzl:((l.map (·.by_)).take k).length≤200:=by rw[List.length_take];omega
   obtain⟨bb,off,rfl,hr⟩:∃b off,a=some ⟨b,off,none⟩∧Row wr b off l:=by
    obtain⟨b1,o1,e1,_,r1⟩:=(HL.out.below HK.out.below).row (by omega)
    exact⟨b1,o1,e1,r1⟩
   have hbl:=hr.lt
   obtain⟨h0,h1,h2,h3,h4,h5,h6⟩:=hr.at_ k hkl
   generalize l[k]=x at*
   generalize (l.map (·.by_)).take k=zs at*
   have HZ:Hid (zs.length≤200):=hzl
   have HK2:Hid (ByI w w1 u8 zs ((wr.alloc (.cells #[.int .u8 x.c,.int .i64 x.by_,.int .i64 x.no,.int .i64 x.k,.int .i64 x.inn,.int .i64 x.out,.int .i64 x.gone] 127)).alloc (.cells #[.int .i64 x.by_] 3))):=(HK.out.after (za1 _ _)).after (za1 _ _)
   clear hr hlm hzl
   go_wp2_with (at_builtin;refine wpList_append_own _ rfl (.tmp 23) (.tmp 26) 79 rfl w1.heap.size 3 i0 (.int .i64 0) 1 8 Tryz.underlying79 hi hz0 hz1 hz2 rfl (by decide) u8 zs.length (ziu zs) rfl HK2.out.own ⟨(wr.alloc (.cells #[.int .u8 x.c,.int .i64 x.by_,.int .i64 x.no,.int .i64 x.k,.int .i64 x.inn,.int .i64 x.out,.int .i64 x.gone] 127)).heap.size,0,none⟩ 1 1 [.int .i64 x.by_] (by simp[go_sem]) rfl (zno _ _) ?c2 ?c3 ?c4 ?c5 ?_)
   case c2=>intro u hu;simp at hu;subst hu;rfl
   case c3=>have:=HZ.out;unfold maxLen;omega
   case c4=>have:=HZ.out;omega
   case c5=>exact HK2.out.below.size
   ·intro v' w2 hown' hgrow _
    have H2:Hid (ByI w w1 v' ((l.map (·.by_)).take (k+1)) w2):=by
     show ByI _ _ _ _ _
     rw[HN.out]
     exact HK2.out.grown hown' hgrow
    clear hgrow hown' h0 h1 h2 h3 h4 h5 h6 HK HK2
    go_wp2
    go_roundw
    case rel=>exact⟨k+1,by omega,by go_num,H2.out⟩
    case measure=>simp[intOf];omega
  ·obtain rfl:k=l.length:=by omega
   have HE:Hid ((l.map (·.by_)).take l.length=l.map (·.by_)):=by show List.take _ _=_;rw[←hlm];exact List.take_length
   go_wp2
   go_ret2
   refine⟨u8,by rw[HOK.out];rfl,⟨w1.heap.size,HB.out.size,?_⟩,bla HB.out HK.out.below⟩
   rw[HTH.out,←HE.out]
   exact HK.out.own
end
theorem all_part{b:Bk}(h:zcm b){i:Nat}(hi:i≤b.ds.length):(zgv [] 0 (b.ds.take i)).2.1=0:=by
 by_cases hl:i<b.ds.length
 ·have e:b.ds=b.ds.take i++b.ds[i]::b.ds.drop (i+1):=by
   rw[←List.drop_eq_getElem_cons hl,List.take_append_drop]
  have h0:=h.all0
  rw[e]at h0
  exact(zo1 _ [] 0 h0).1
 ·rw[List.take_of_length_le (by omega)];exact h.all0
theorem qd8{b:Bk}(hg:zcm b){n:Nat}(hn:n≤b.ds.length):vw (zar b.ds n) 1073741823 (-1)=(thS b (n:Int)).map (·.c):=by
 rw[thS_in hn]
 have e:=story_tx hg hn
 unfold txS at e
 rw[e]
 unfold vw visL
 rw[List.filter_congr (fun x hx=>zoo hg hn (by have:=hg.small;omega) hx)]
theorem told_vis{b:Bk}(hg:zcm b){n:Nat}(hn:n≤b.ds.length):zcu (zar b.ds n) (n:Int)=visL b.ds n:=by
 unfold zcu visL
 exact List.filter_congr (fun x hx=>zoo hg hn (Int.le_refl _) hx)
theorem told_by{b:Bk}(hg:zcm b){n:Nat}(hn:n≤b.ds.length):(zcu (zar b.ds n) (n:Int)).map (·.by_)=(thS b (n:Int)).map (·.by_):=by
 rw[thS_in hn,told_vis hg hn]
 exact(story_by hg hn).symm
theorem zml:Tryz.prog.elem 61=124:=by kernel_rfl
theorem ziy:Tryz.prog.underlying 61=some (.slice (Tryz.prog.elem 61)):=by kernel_rfl
theorem zok(w:World):(sizeOf 124).run Tryz.prog w= .ok 7 w:=by
 obtain⟨i0,hi,_,hz1,_⟩:=info_parts Tryz.infoDeed
 simp[sizeOf,typeInfo,hi,hz1]
theorem zq2(a:Option Addr)(len cap k:Nat)(hk:k≤cap)(w:World):(Instr.sliceAt 61 (.slice a len cap) none (some (.int .i64 k)) none).run Tryz.prog w= .ok (sliced a 0 k cap 7) w:=by
 rw[run_sliceAt_slice _ _ _ _ _ _ ziy,run_slice_h _ _ _ _ _ ziy _ _ (by omega) (by omega),zml,zok]
 rfl
theorem qg5{w:World}{a:Option Addr}{cap:Nat}{ds:List Dd}(h:zkz w (.slice a ds.length cap) ds){k:Nat}(hk:k≤ds.length):zkz w (sliced a 0 k cap 7) (ds.take k):=by
 obtain⟨a',len,cap',he,h1,h2,h3⟩:=h
 simp only[Value.slice.injEq]at he
 obtain⟨rfl,rfl,rfl⟩:=he
 have e:(if cap=0 then a else a.map (·.add (0*7)))=a:=by
  split
  ·rfl
  ·cases a with
   |none=>rfl
   |some ad=>
    rcases h3 with h3|⟨b,off,h3,_⟩
    ·obtain⟨b,off,spot⟩:=ad
     cases spot<;>simp[Addr.add]
    ·cases h3
     simp[zdx]
 refine⟨a,k,cap,?_,by rw[List.length_take];omega,by omega,?_⟩
 ·unfold sliced
  rw[e]
  rfl
 ·rcases h3 with h3|⟨b,off,rfl,hr⟩
  ·exact .inl (by omega)
  ·exact .inr ⟨b,off,rfl,hr.lt,fun i hi=>by
    rw[List.getElem_take]
    exact hr.at_ i (by rw[List.length_take]at hi;omega)⟩
theorem qbv{ad:Option Addr}{cap k:Nat}{ds:List Dd}(hk:k≤ds.length)(hc:ds.length≤cap):∃aa na ca,(∀w,(Instr.sliceAt 61 (.slice ad ds.length cap) none (some (.int .i64 k)) none).run Tryz.prog w= .ok (.slice aa na ca) w)∧∀wk,zkz wk (.slice ad ds.length cap) ds→zkz wk (.slice aa na ca) (ds.take k):=
 ⟨_,_,_,zq2 _ ds.length cap k (by omega),fun _ h=>qg5 h hk⟩
theorem zny{w:World}{v:Value}{ds:List Dd}(h:zkz w v ds):∃a cap,v= .slice a ds.length cap∧ds.length≤cap:=by
 obtain⟨a,len,cap,rfl,rfl,h2,_⟩:=h
 exact⟨a,cap,rfl,h2⟩
theorem zpv.mono{w:World}{base base':Nat}{v:Value}{l:List Int}(h:zpv w base v l)(hb:base'≤base):zpv w base' v l:=by
 obtain⟨h1,h2⟩:=h
 refine⟨h1,?_⟩
 rcases h2 with h2|⟨g,cap,cur,e,hg,r⟩
 ·exact .inl h2
 ·exact .inr ⟨g,cap,cur,e,Nat.le_trans hb hg,r⟩
structure ToI(w w2:World)(lv:Value)(L:List Ch)(v:Value)(zs:List Int)(wk:World):Prop where
 by_:ByI w w2 v zs wk
 lst:Lst w2 lv L
theorem ToI.after{w w2 wk w':World}{lv v:Value}{L:List Ch}{zs:List Int}(h:ToI w w2 lv L v zs wk)(hb:Below wk.heap.size wk w'):ToI w w2 lv L v zs w':=⟨h.by_.after hb,h.lst⟩
theorem told_own{w:World}{v:Value}{b:Bk}(h:zkz w v b.ds)(hg:zcm b)(n:Int):
 Calls Tryz.prog 41 #[v,.int .i64 n] w fun e w'=>∃u,e= .returned (.tuple #[.string (strOfNums ((thS b n).map (·.c))),u,.bool (inS b n)])∧zpv w' w.heap.size u ((thS b n).map (·.by_))∧Below w.heap.size w w':=by
 have HD:Hid (zkz w v b.ds):=h
 have HG:Hid (zcm b):=hg
 have hsm:b.ds.length≤120:=hg.small
 obtain⟨a,cap,rfl,hcap⟩:=zny h
 obtain⟨i0,hi,hz0,hz1,hz2⟩:=info_parts zsr
 by_cases hn:0≤n∧n≤b.ds.length
 ·obtain⟨m,rfl⟩:∃m:Nat,n=(m:Int):=⟨n.toNat,by omega⟩
  have hm:m≤b.ds.length:=by omega
  have HIN:Hid (inS b (m:Int)=true):=inS_in hm
  have HTX:Hid (vw (zar b.ds m) 1073741823 (-1)=(thS b (m:Int)).map (·.c)):=qd8 hg hm
  have HBY:Hid ((zcu (zar b.ds m) (m:Int)).map (·.by_)=(thS b (m:Int)).map (·.by_)):=told_by hg hm
  have HAL:Hid ((zgv [] 0 (b.ds.take m)).2.1=0):=all_part hg hm
  have HTM:Hid (zgs (zar b.ds m)):=zuo (zco hg m hm).1 (by omega)
  have hcl:(zar b.ds m).length≤200:=(zco hg m hm).2
  obtain⟨aa,na,ca,hva,hvl⟩:=qbv (ad:=a) hm hcap
  have HVL:Hid (∀wk,zkz wk (.slice a b.ds.length cap) b.ds→zkz wk (.slice aa na ca) (b.ds.take m)):=hvl
  have HTK:Hid ((b.ds.take m).length≤1000):=by show _≤_;rw[List.length_take];omega
  have hmi:(m:Int)≤(b.ds.length:Int):=by omega
  clear h hg hvl hn
  go_enter Tryz.func41,Tryz.ntmps41
  go_wp2_with fail
  refine(zqu (HVL.out _ HD.out) HTK.out HAL.out).mono ?_
  rintro e w1 ⟨v1,rfl,ho0,hb⟩
  have ho:Own w1 w.heap.size v1 (zar b.ds m):=ho0
  have HO1:Hid (Lst w1 v1 (zar b.ds m)):=ho.lst
  have HB1:Hid (Below w.heap.size w w1):=hb
  obtain⟨a1,c1,rfl,hcap1⟩:=ho.lst.len
  clear ho ho0 hb hva HVL HAL HTK
  obtain⟨L,hL⟩:∃L,zar b.ds m=L:=⟨_,rfl⟩
  rw[hL]at HTX HBY HTM HO1 hcl hcap1⊢
  clear hL
  have H2:Hid (ToI w (w1.alloc (.cells #[.int .i64 0,.int .i64 0] 31)) (.slice a1 L.length c1) L (.slice none 0 0) [] (w1.alloc (.cells #[.int .i64 0,.int .i64 0] 31))):=⟨⟨Below.refl _ _,zlc _ _⟩,HO1.out.below (za1 _ _)⟩
  have HB2:Hid (Below w.heap.size w (w1.alloc (.cells #[.int .i64 0,.int .i64 0] 31))):=bla HB1.out (za1 _ _)
  clear HO1 HB1
  go_wp2_with fail
  generalize hw2:World.alloc _ _=w2 at*
  clear hw2
  go_loopw [9,10] (fun u i wr=>∃k:Nat,k≤L.length∧i= .int .i64 k∧Hid (ToI w w2 (.slice a1 L.length c1) L u ((zcu (L.take k) (m:Int)).map (·.by_)) wr)) (fun _ i _=>L.length-(intOf i).toNat)
  case atStart=>exact⟨0,Nat.zero_le _,rfl,H2.out⟩
  case round=>
   obtain⟨k,hk,rfl,HK⟩:=hrel
   clear H2
   by_cases hkl:k<L.length
   ·have hki:(k:Int)<(L.length:Int):=by omega
    have HN:Hid ((zcu (L.take (k+1)) (m:Int)).map (·.by_)=(zcu (L.take k) (m:Int)).map (·.by_)++if za5 (m:Int) (-1) L[k]=true then [L[k].by_]else []):=by
     show List.map _ _=_
     rw[zcj L k hkl,zqk,List.map_append]
     by_cases c:za5 (m:Int) (-1) L[k]=true<;>simp[c]
    have hzl:((zcu (L.take k) (m:Int)).map (·.by_)).length≤200:=by
     rw[List.length_map]
     have:=zrv (L.take k) (m:Int)
     rw[List.length_take]at this
     omega
    obtain⟨bb,off,rfl,hr⟩:∃b off,a1=some ⟨b,off,none⟩∧Row wr b off L:=by
     obtain⟨b1,o1,e1,_,r1⟩:=(HK.out.lst.below HK.out.by_.below).row (by omega)
     exact⟨b1,o1,e1,r1⟩
    have hbl:=hr.lt
    have hat:=hr.at_ k hkl
    obtain⟨t1,_,t2,t3⟩:=zjo HTM.out k hkl
    generalize L[k]=x at*
    have HT:Hid (0≤x.out∧0≤x.gone∧x.gone≤15):=⟨t1,t2,t3⟩
    have HAT:Hid (At wr bb (off+k*7) x):=hat
    generalize (zcu (L.take k) (m:Int)).map (·.by_)=zs at*
    have HZ:Hid (zs.length≤200):=hzl
    obtain⟨h0,h1,h2,h3,h4,h5,h6⟩:=hat
    clear hr hzl t1 t2 t3
    go_wp2_with fail
    refine(zgk x _ _ _ HT.out.1 (by have:=HT.out.2;omega) (by have:=HT.out.2;omega)).mono ?_
    rintro e w4 ⟨rfl,hb4⟩
    have H4:Hid (ToI w w2 (.slice (some ⟨bb,off,none⟩) L.length c1) L u9 zs w4):=HK.out.after hb4
    have hat4:At w4 bb (off+k*7) x:=by
     have hx:=HAT.out
     obtain⟨hc,hf⟩:=zds hb4
     unfold At at hx⊢
     simp only[hc _ _ hbl]
     exact hx
    have hbl4:bb<w4.heap.size:=by have:=hb4.size;omega
    clear h0 h1 h2 h3 h4 h5 h6 hb4 HK HAT hbl
    cases hs:za5 (m:Int) (-1) x
    ·rw[hs]at HN
     clear hat4 hbl4
     go_wp2
     go_roundw
     case rel=>exact⟨k+1,by omega,by go_num,by show ToI _ _ _ _ _ _ _;rw[HN.out];simpa using H4.out⟩
     case measure=>simp[intOf];omega
    ·rw[hs]at HN
     obtain⟨h0,h1,h2,h3,h4,h5,h6⟩:=hat4
     have H5:Hid (ToI w w2 (.slice (some ⟨bb,off,none⟩) L.length c1) L u9 zs (w4.alloc (.cells #[.int .i64 x.by_] 3))):=H4.out.after (za1 _ _)
     go_wp2_with (at_builtin;refine wpList_append_own _ rfl (.tmp 38) (.tmp 44) 79 rfl w2.heap.size 3 i0 (.int .i64 0) 1 8 Tryz.underlying79 hi hz0 hz1 hz2 rfl (by decide) u9 zs.length (ziu zs) rfl H5.out.by_.own ⟨w4.heap.size,0,none⟩ 1 1 [.int .i64 x.by_] (by simp[go_sem]) rfl (zno _ _) ?c2 ?c3 ?c4 ?c5 ?_)
     case c2=>intro u hu;simp at hu;subst hu;rfl
     case c3=>have:=HZ.out;unfold maxLen;omega
     case c4=>have:=HZ.out;omega
     case c5=>exact H5.out.by_.below.size
     ·intro v' w6 hown' hgrow _
      have H6:Hid (ToI w w2 (.slice (some ⟨bb,off,none⟩) L.length c1) L v' ((zcu (L.take (k+1)) (m:Int)).map (·.by_)) w6):=by
       show ToI _ _ _ _ _ _ _
       rw[HN.out]
       exact⟨by simpa using H5.out.by_.grown hown' hgrow,H5.out.lst⟩
      clear hgrow hown' h0 h1 h2 h3 h4 h5 h6 H4 H5 hbl4
      go_wp2
      go_roundw
      case rel=>exact⟨k+1,by omega,by go_num,H6.out⟩
      case measure=>simp[intOf];omega
   ·obtain rfl:k=L.length:=by omega
    have HE:Hid (L.take L.length=L):=List.take_length
    rw[HE.out]at HK
    go_wp2_with fail
    refine(zql (HK.out.lst.below HK.out.by_.below) (by omega) HTM.out).mono ?_
    rintro e w5 ⟨rfl,hb5⟩
    rw[HTX.out]
    have HK5:Hid (ToI w w2 (.slice a1 L.length c1) L u9 ((zcu L (m:Int)).map (·.by_)) w5):=HK.out.after hb5
    clear hb5 HK
    obtain⟨s,hs⟩:∃s,strOfNums ((thS b (m:Int)).map (·.c))=s:=⟨_,rfl⟩
    have HSS:Hid (strOfNums ((thS b (m:Int)).map (·.c))=s):=hs
    rw[hs]
    clear hs
    go_wp2_with fail
    go_ret3
    refine⟨u9,by rw[HSS.out,HIN.out];rfl,?_,bla HB2.out HK5.out.by_.below⟩
    rw[←HBY.out]
    exact HK5.out.by_.own.mono HB2.out.size
 ·have HIN:Hid (inS b n=false):=by show inS b n=false;unfold inS;exact decide_eq_false hn
  have HTH:Hid (thS b n=[]):=by show thS b n=_;unfold thS;rw[if_neg hn]
  clear h
  by_cases h0:n<0
  ·go_enter Tryz.func41,Tryz.ntmps41
   go_wp2
   go_ret3
   refine⟨.slice none 0 0,by rw[HTH.out,HIN.out];rfl,?_,Below.refl _ _⟩
   rw[HTH.out]
   exact zlc w _
  ·have h1:(b.ds.length:Int)<n:=by
    have:¬n≤(b.ds.length:Int):=fun e=>hn ⟨by omega,e⟩
    omega
   go_enter Tryz.func41,Tryz.ntmps41
   go_wp2
   go_ret3
   refine⟨.slice none 0 0,by rw[HTH.out,HIN.out];rfl,?_,Below.refl _ _⟩
   rw[HTH.out]
   exact zlc w _
end Go.Proofs.YtcbnnfeelhlapadGreatDoor