/-
  The law's own example of a desk, as mathematics. No walk.
-/
import Derived.Test.YtcbnnfeelhlapadGreatDoorKMath
import Derived.Test.YtcbnnfeelhlapadGreatDoorSGrow
import Derived.Test.YtcbnnfeelhlapadGreatDoorKRF
import Derived.Test.YtcbnnfeelhlapadGreatDoorKRL
namespace Go.Proofs.YtcbnnfeelhlapadGreatDoor
set_option maxRecDepth 20000
set_option maxHeartbeats 3200000
open Go Go.RowKit
def zi5:Nat→Twn→Int→Twn×Bool
 | 0,t,_=>(t,false)
 |n+1,t,v=>match t.ws v with
  |none=>(t,true)
  |some w=>if(ze0 t v w).1=0 then zi5 n (ze0 t v w).2 v else((ze0 t v w).2,true)
def zic:Nat→Twn→Int→Twn×Bool
 | 0,t,_=>(t,false)
 |n+1,t,v=>match t.ws v with
  |none=>(t,true)
  |some w=>if(zdk t v w).1=0 then zic n (zdk t v w).2 v else((zdk t v w).2,true)
theorem zl8:∀(n:Nat) (t:Twn) (v:Int),(zi5 n t v).2=true→zc5 t v=(zi5 n t v).1
 | 0,_,_,h=>by cases h
 |n+1,t,v,h=>by
  cases hw:t.ws v with
  |none=>rw[zfr hw];simp only[zi5,hw]
  |some w=>
   rw[zee hw]
   simp only[zi5,hw]at h⊢
   by_cases hc:(ze0 t v w).1=0
   ·rw[if_pos hc]at h⊢
    rw[if_pos hc]
    exact zl8 n _ v h
   ·rw[if_neg hc,if_neg hc]
theorem zlj:∀(n:Nat) (t:Twn) (v:Int),(zic n t v).2=true→zc7 t v=(zic n t v).1
 | 0,_,_,h=>by cases h
 |n+1,t,v,h=>by
  cases hw:t.ws v with
  |none=>rw[zfu hw];simp only[zic,hw]
  |some w=>
   rw[zel hw]
   simp only[zic,hw]at h⊢
   by_cases hc:(zdk t v w).1=0
   ·rw[if_pos hc]at h⊢
    rw[if_pos hc]
    exact zlj n _ v h
   ·rw[if_neg hc,if_neg hc]
def kbS(t:Twn):Twn:=(zi5 4 (zi5 4 (zi5 4 (zi5 4 t 0).1 1).1 2).1 3).1
def kbH(t:Twn):Twn:=(zic 6 (zic 6 (zic 6 (zic 6 t 0).1 1).1 2).1 3).1
theorem qfa{t:Twn}(h0:(zi5 4 t 0).2=true)(h1:(zi5 4 (zi5 4 t 0).1 1).2=true)(h2:(zi5 4 (zi5 4 (zi5 4 t 0).1 1).1 2).2=true)(h3:(zi5 4 (zi5 4 (zi5 4 (zi5 4 t 0).1 1).1 2).1 3).2=true)
 (g0:(zic 6 (kbS t) 0).2=true) (g1:(zic 6 (zic 6 (kbS t) 0).1 1).2=true) (g2:(zic 6 (zic 6 (zic 6 (kbS t) 0).1 1).1 2).2=true) (g3:(zic 6 (zic 6 (zic 6 (zic 6 (kbS t) 0).1 1).1 2).1 3).2=true):zdz t=kbH (kbS t):=by
 have e1:zdg 4 t=kbS t:=by
  show zc5 (zc5 (zc5 (zc5 t 0) 1) 2) 3=_
  rw[zl8 4 t 0 h0,zl8 4 _ 1 h1,zl8 4 _ 2 h2,zl8 4 _ 3 h3]
  rfl
 rw[zdz,e1]
 show zc7 (zc7 (zc7 (zc7 (kbS t) 0) 1) 2) 3=_
 rw[zlj 6 _ 0 g0,zlj 6 _ 1 g1,zlj 6 _ 2 g2,zlj 6 _ 3 g3]
 rfl
theorem kbD(u:Nat)(h:u<10):Lib.itoa (u:Int)=[UInt8.ofNat (48+u)]:=by
 rw[Lib.itoa,if_neg (by omega),Int.toNat_natCast,Lib.decDigits,dif_pos h]
theorem kb0:Lib.itoa 0=[48]:=kbD 0 (by decide)
theorem kb1:Lib.itoa 1=[49]:=kbD 1 (by decide)
theorem kb2:Lib.itoa 2=[50]:=kbD 2 (by decide)
theorem kb3:Lib.itoa 3=[51]:=kbD 3 (by decide)
theorem kbN(n:Int)(h0:0≤n)(h1:n≤1000){l:List UInt8}(h:Lib.itoa n=l):ze3 (bl l)=some n:=by
 have:=num_back n h0 h1
 unfold zc4 at this
 rw[h]at this
 exact this
theorem kbn0:ze3 (bl [48])=some 0:=kbN 0 (by decide) (by decide) kb0
theorem kbn1:ze3 (bl [49])=some 1:=kbN 1 (by decide) (by decide) kb1
theorem kbn3:ze3 (bl [51])=some 3:=kbN 3 (by decide) (by decide) kb3
theorem zgq{t:Twn}{s k:List UInt8}{r:List (List UInt8)}{zs:List Int}(hp:zeq s=none)(hw:zb0 s=k::r)(hr:zbp (r.map bl)=some zs):zae t s=zci t k zs:=by
 unfold zae
 rw[hp,hw]
 show zg2 t (k::r)=_
 rw[zg2,hr]
theorem zmg{t:Twn}{x:Tst}(h:(tDo t x).1=0):zca t x=(okW,(tDo t x).2):=by
 unfold zca
 rw[if_pos h]
def kbL:List (List UInt8):=[[106,111,105,110,32,48],[106,111,105,110,32,49],[112,117,116,32,48,32,48,32,97,32,98],[112,117,116,32,49,32,48,32,99],[115,101,116,116,108,101],[116,101,120,116,32,49],[116,97,107,101,32,48,32,48,32,49],[111,112,101,110,32,48],[115,101,110,100,32,48],[108,111,103],[116,104,101,110,32,51],[108,101,97,115,116],[120]]
def kbT1:Twn:=(tDo zpy ⟨1,0,0,0,⟨#[]⟩⟩).2
theorem kbC1:(tDo zpy ⟨1,0,0,0,⟨#[]⟩⟩).1=0:=by decide+kernel
theorem kbR1:zae zpy [106,111,105,110,32,48]=(okW,kbT1):=by
 rw[zgq (k:=[106,111,105,110]) (r:=[[48]]) (zs:=[0]) (by rfl) (by rfl) (by
  show zbp [bl [48]]=some [0]
  simp[zbp,kbn0])]
 exact zmg kbC1
def kbT2:Twn:=(tDo kbT1 ⟨1,1,0,0,⟨#[]⟩⟩).2
theorem kbC2:(tDo kbT1 ⟨1,1,0,0,⟨#[]⟩⟩).1=0:=by decide+kernel
theorem kbR2:zae kbT1 [106,111,105,110,32,49]=(okW,kbT2):=by
 rw[zgq (k:=[106,111,105,110]) (r:=[[49]]) (zs:=[1]) (by rfl) (by rfl) (by
  show zbp [bl [49]]=some [1]
  simp[zbp,kbn1])]
 exact zmg kbC2
def kbT3:Twn:=(tDo kbT2 ⟨2,0,0,0,bl [97,32,98]⟩).2
theorem kbC3:(tDo kbT2 ⟨2,0,0,0,bl [97,32,98]⟩).1=0:=by decide+kernel
theorem kbR3:zae kbT2 [112,117,116,32,48,32,48,32,97,32,98]=(okW,kbT3):=by
 have hp:zeq [112,117,116,32,48,32,48,32,97,32,98]=some (0,0,[97,32,98]):=by
  have hc:zmn 3 [112,117,116,32,48,32,48,32,97,32,98]=[[112,117,116],[48],[48],[97,32,98]]:=by decide+kernel
  rw[zp0,hc]
  unfold zkl
  dsimp only
  rw[if_pos rfl,zoz,kbn0]
 unfold zae
 rw[hp]
 exact zmg kbC3
def kbT4:Twn:=(tDo kbT3 ⟨2,1,0,0,bl [99]⟩).2
theorem kbC4:(tDo kbT3 ⟨2,1,0,0,bl [99]⟩).1=0:=by decide+kernel
theorem kbR4:zae kbT3 [112,117,116,32,49,32,48,32,99]=(okW,kbT4):=by
 have hp:zeq [112,117,116,32,49,32,48,32,99]=some (1,0,[99]):=by
  have hc:zmn 3 [112,117,116,32,49,32,48,32,99]=[[112,117,116],[49],[48],[99]]:=by decide+kernel
  rw[zp0,hc]
  unfold zkl
  dsimp only
  rw[if_pos rfl,zoz,kbn0,kbn1]
 unfold zae
 rw[hp]
 exact zmg kbC4
def qfb:Twn:=kbH (kbS kbT4)
theorem kbE5:zdz kbT4=qfb:=qfa (by decide+kernel) (by decide+kernel) (by decide+kernel) (by decide+kernel) (by decide+kernel) (by decide+kernel) (by decide+kernel) (by decide+kernel)
theorem kbR5:zae kbT4 [115,101,116,116,108,101]=(okW,qfb):=by
 rw[zgq (k:=[115,101,116,116,108,101]) (r:=[]) (zs:=[]) (by rfl) (by rfl) (by rfl),←kbE5]
 rfl
theorem kbQ6:zae qfb [116,101,120,116,32,49]=(zi7 qfb 1,qfb):=by
 rw[zgq (k:=[116,101,120,116]) (r:=[[49]]) (zs:=[1]) (by rfl) (by rfl) (by
  show zbp [bl [49]]=some [1]
  simp[zbp,kbn1])]
 rfl
theorem kbV6:zi7 qfb 1=[116,101,120,116,32,99,97,32,98,10]:=by decide+kernel
theorem kbR6:zae qfb [116,101,120,116,32,49]=([116,101,120,116,32,99,97,32,98,10],qfb):=by rw[kbQ6,kbV6]
def qbd:Twn:=(tDo qfb ⟨3,0,0,1,⟨#[]⟩⟩).2
theorem kbC7:(tDo qfb ⟨3,0,0,1,⟨#[]⟩⟩).1=0:=by decide+kernel
theorem kbR7:zae qfb [116,97,107,101,32,48,32,48,32,49]=(okW,qbd):=by
 rw[zgq (k:=[116,97,107,101]) (r:=[[48],[48],[49]]) (zs:=[0,0,1]) (by rfl) (by rfl) (by
  show zbp [bl [48],bl [48],bl [49]]=some [0,0,1]
  simp[zbp,kbn0,kbn1])]
 exact zmg kbC7
theorem kbQ8:zae qbd [111,112,101,110,32,48]=(zhq qbd 0,qbd):=by
 rw[zgq (k:=[111,112,101,110]) (r:=[[48]]) (zs:=[0]) (by rfl) (by rfl) (by
  show zbp [bl [48]]=some [0]
  simp[zbp,kbn0])]
 rfl
theorem kbw1:zhe ⟨1,0,1,0,0,0,⟨#[97,32,98]⟩⟩=[112,117,116,32,48,32,49,32,48,32,48,32,97,32,98,10]:=by
 have hc:za6 ⟨1,0,1,0,0,0,⟨#[97,32,98]⟩⟩=0:=by decide+kernel
 rw[zhe,zcw,if_pos hc,zib (by rfl)]
 simp only[putL,kb0,kb1]
 rfl
theorem kbw2:zhe ⟨1,1,1,0,0,0,⟨#[99]⟩⟩=[112,117,116,32,49,32,49,32,48,32,48,32,99,10]:=by
 have hc:za6 ⟨1,1,1,0,0,0,⟨#[99]⟩⟩=0:=by decide+kernel
 rw[zhe,zcw,if_pos hc,zib (by rfl)]
 simp only[putL,kb0,kb1]
 rfl
theorem kbw3':zhe ⟨2,0,2,2,0,1,⟨#[]⟩⟩=[116,97,107,101,32,48,32,50,32,50,32,48,32,49,10]:=by
 have hc:za6 ⟨2,0,2,2,0,1,⟨#[]⟩⟩=0:=by decide+kernel
 rw[zhe,zcw,if_pos hc,zk9 (by decide)]
 simp only[zyt,kb0,kb1,kb2]
 rfl
theorem kbw3:zb3 [⟨2,0,2,2,0,1,⟨#[]⟩⟩]++znw=[116,97,107,101,32,48,32,50,32,50,32,48,32,49,10,101,110,100,10]:=by
 show(zhe _++[])++znw=_
 rw[kbw3']
 rfl
theorem kbV8:zhq qbd 0=[116,97,107,101,32,48,32,50,32,50,32,48,32,49,10,101,110,100,10]:=by
 have h:qbd.ws 0=some ((qbd.ws 0).getD ⟨0,0,0,[],[],0⟩):=by kernel_rfl
 have ho:((qbd.ws 0).getD ⟨0,0,0,[],[],0⟩).opens=[⟨2,0,2,2,0,1,⟨#[]⟩⟩]:=by kernel_rfl
 unfold zhq
 rw[h]
 show zb3 _++znw=_
 rw[ho]
 exact kbw3
theorem kbR8:zae qbd [111,112,101,110,32,48]=([116,97,107,101,32,48,32,50,32,50,32,48,32,49,10,101,110,100,10],qbd):=by rw[kbQ8,kbV8]
def zkp:Twn:=(tDo qbd ⟨4,0,0,0,⟨#[]⟩⟩).2
theorem kbC9:(tDo qbd ⟨4,0,0,0,⟨#[]⟩⟩).1=0:=by decide+kernel
theorem kbR9:zae qbd [115,101,110,100,32,48]=(okW,zkp):=by
 rw[zgq (k:=[115,101,110,100]) (r:=[[48]]) (zs:=[0]) (by rfl) (by rfl) (by
  show zbp [bl [48]]=some [0]
  simp[zbp,kbn0])]
 exact zmg kbC9
theorem kbQ10:zae zkp [108,111,103]=(zb3 zkp.b.ds++znw,zkp):=by
 rw[zgq (k:=[108,111,103]) (r:=[]) (zs:=[]) (by rfl) (by rfl) (by rfl)]
 rfl
theorem kbV10:zb3 zkp.b.ds++znw=[112,117,116,32,48,32,49,32,48,32,48,32,97,32,98,10,112,117,116,32,49,32,49,32,48,32,48,32,99,10,116,97,107,101,32,48,32,50,32,50,32,48,32,49,10,101,110,100,10]:=by
 have ho:zkp.b.ds=[⟨1,0,1,0,0,0,⟨#[97,32,98]⟩⟩,⟨1,1,1,0,0,0,⟨#[99]⟩⟩,⟨2,0,2,2,0,1,⟨#[]⟩⟩]:=by kernel_rfl
 rw[ho]
 show zhe _++(zhe _++(zhe _++[]))++znw=_
 rw[kbw1,kbw2,kbw3']
 rfl
theorem kbR10:zae zkp [108,111,103]=([112,117,116,32,48,32,49,32,48,32,48,32,97,32,98,10,112,117,116,32,49,32,49,32,48,32,48,32,99,10,116,97,107,101,32,48,32,50,32,50,32,48,32,49,10,101,110,100,10],zkp):=by rw[kbQ10,kbV10]
theorem kbQ11:zae zkp [116,104,101,110,32,51]=(zhd zkp 3,zkp):=by
 rw[zgq (k:=[116,104,101,110]) (r:=[[51]]) (zs:=[3]) (by rfl) (by rfl) (by
  show zbp [bl [51]]=some [3]
  simp[zbp,kbn3])]
 rfl
theorem kbV11:zhd zkp 3=[116,101,120,116,32,97,32,98,10,98,121,32,48,32,48,32,48,10]:=by
 have h1:inS zkp.b 3=true:=by decide+kernel
 have h2:(thS zkp.b 3).map (·.c)=[97,32,98]:=by decide+kernel
 have h3:(thS zkp.b 3).map (·.by_)=[0,0,0]:=by decide+kernel
 unfold zhd
 rw[if_pos h1,h2,h3,byW,zdv,zdv,zdv,zdv,kb0]
 rfl
theorem kbR11:zae zkp [116,104,101,110,32,51]=([116,101,120,116,32,97,32,98,10,98,121,32,48,32,48,32,48,10],zkp):=by rw[kbQ11,kbV11]
theorem kbQ12:zae zkp [108,101,97,115,116]=(ze4 (zao zkp.b) zkp.b.len,zkp):=by
 rw[zgq (k:=[108,101,97,115,116]) (r:=[]) (zs:=[]) (by rfl) (by rfl) (by rfl)]
 rfl
theorem kbV12:ze4 (zao zkp.b) zkp.b.len=[108,101,97,115,116,32,50,32,51,10]:=by
 have h1:zao zkp.b=2:=by decide+kernel
 have h2:zkp.b.len=3:=by decide+kernel
 rw[h1,h2,ze4,kb2,kb3]
 rfl
theorem kbR12:zae zkp [108,101,97,115,116]=([108,101,97,115,116,32,50,32,51,10],zkp):=by rw[kbQ12,kbV12]
theorem kbQ13:zae zkp [120]=(zfl,zkp):=by
 rw[zgq (k:=[120]) (r:=[]) (zs:=[]) (by rfl) (by rfl) (by rfl)]
 rfl
theorem kbV13:zfl=[119,104,97,116,10]:=rfl
theorem kbR13:zae zkp [120]=([119,104,97,116,10],zkp):=by rw[kbQ13,kbV13]
theorem zfc{t u:Twn}{s o:List UInt8}{r:List (List UInt8)}(h:zae t s=(o,u)):doK t (s::r)=(o++(doK u r).1,(doK u r).2):=by
 show((zae t s).1++(doK (zae t s).2 r).1,(doK (zae t s).2 r).2)=_
 rw[h]
def kbO:List UInt8:=[111,107,10,111,107,10,111,107,10,111,107,10,111,107,10,116,101,120,116,32,99,97,32,98,10,111,107,10,116,97,107,101,32,48,32,50,32,50,32,48,32,49,10,101,110,100,10,111,107,10,112,117,116,32,48,32,49,32,48,32,48,32,97,32,98,10,112,117,116,32,49,32,49,32,48,32,48,32,99,10,116,97,107,101,32,48,32,50,32,50,32,48,32,49,10,101,110,100,10,116,101,120,116,32,97,32,98,10,98,121,32,48,32,48,32,48,10,108,101,97,115,116,32,50,32,51,10,119,104,97,116,10]
theorem kb_told:(doK zpy kbL).1=kbO:=by
 unfold kbL
 rw[zfc kbR1,zfc kbR2,zfc kbR3,zfc kbR4,zfc kbR5,zfc kbR6,zfc kbR7,zfc kbR8,zfc kbR9,zfc kbR10,zfc kbR11,zfc kbR12,zfc kbR13]
 rfl
theorem kb_fault:zct kbL=(0,0):=by decide+kernel
def qaz(t:Twn)(L:List (List UInt8)):List UInt8×Twn:=if(zct L).1=0 then doK t L else([],t)
theorem zra(L:List (List UInt8)):(zct L).1=0→zct L=(0,0):=by
 intro h
 unfold zct at h⊢
 by_cases hb:150<L.length
 ·rw[if_pos hb]at h;cases h
 ·rw[if_neg hb]at h⊢
  have:∀(l:List (List UInt8)) (i:Nat),(zbv i l).1=0→zbv i l=(0,0):=by
   intro l
   induction l with
   |nil=>intro i _;rfl
   |cons s r ih=>
    intro i h
    rw[zbv]at h⊢
    by_cases hs:zgy s=true
    ·rw[if_pos hs]at h;cases h
    ·rw[if_neg hs]at h⊢;exact ih _ h
  exact this L 0 h
def Th.ft(base B:Nat)(c i:Int):Th base:=Th.blk base B (fun w=>zlt w B c i∧B<w.heap.size) (fun w w' hz hb h=>by
 have hc:∀o,w'.cell? ⟨B,o,none⟩=w.cell? ⟨B,o,none⟩:=fun o=>World.cell?_of_block (a:=⟨B,o,none⟩) hb
 have hf:∀o,w'.frozen? ⟨B,o,none⟩=w.frozen? ⟨B,o,none⟩:=fun o=>World.frozen?_of_block (a:=⟨B,o,none⟩) hb
 exact⟨⟨by rw[hc];exact h.1.c0,by rw[hc];exact h.1.c1,by rw[hf];exact h.1.f0,by rw[hf];exact h.1.f1⟩,Nat.lt_of_lt_of_le h.2 hz⟩)
section
variable {W wk w':World} {cs:Nat→Th W.heap.size}
def Jn(W:World)(cs:Nat→Th W.heap.size)(wk:World):Prop:=Hq W.heap.size cs W (fun _=>False) wk
theorem Jn.below(h:Jn W cs wk):Below W.heap.size W wk:=(Hq.kept h).below (fun _ e=>e.elim) (Nat.le_refl _)
theorem Jn.after(h:Jn W cs wk)(hb:Below wk.heap.size wk w'):Jn W cs w':=Hq.after h hb
theorem jn_start(W:World):Jn W (fun _=>Th.no _) W:=Hq.start W
theorem Jn.new(h:Jn W cs wk)(i:Nat)(hi:i≠0):
 Calls Tryz.prog 7 #[] wk fun e w'=>∃R,e= .returned (.pointer (some ⟨R,0,none⟩))∧∃D G pw,Jn W (zag cs i (Th.kd W.heap.size R D G pw zpy)) w':=by
 refine(new_kd wk).mono ?_
 rintro e w1 ⟨rfl,rfl⟩
 have hb:Below wk.heap.size wk (kdW wk):=bla (bla (za1 _ _) (za1 _ _)) (za1 _ _)
 exact⟨_,rfl,_,_,_,Hq.lay h hb hi _ (zzo wk h.below.size)⟩
theorem Jn.fault(h:Jn W cs wk)(i:Nat)(hi:i≠0)(c a:Int):Jn W (zag cs i (Th.ft W.heap.size wk.heap.size c a)) (wk.alloc (.cells #[.int .i64 c,.int .i64 a] 31)):=
 Hq.lay h (za1 _ _) hi _ ⟨⟨Nat.le_refl _,by simp⟩,zf7 wk c a,by simp⟩
theorem Jn.done{R D G:Nat}{pw:Nat→Nat}{t:Twn}{i:Nat}(h:Jn W cs wk)(hi:i≠0)(hc:cs i=Th.kd W.heap.size R D G pw t)(hR:zbz W){v:Value}{ls:List ByteArray}(hl:zb9 W v ls)(hz:∀s∈ls,s.size≤10000):
 Calls Tryz.prog 9 #[.pointer (some ⟨R,0,none⟩),v] wk fun e w'=>e= .returned (.tuple #[.string (bl (qaz t (ls.map (·.data.toList))).1),ftV (zct (ls.map (·.data.toList))).1 (zct (ls.map (·.data.toList))).2])∧(qaz t (ls.map (·.data.toList))).1.length≤30000*ls.length∧∃pw',Jn W (zag cs i (Th.kd W.heap.size R D G pw' (qaz t (ls.map (·.data.toList))).2)) w':=by
 by_cases hf:(zct (ls.map (·.data.toList))).1=0
 ·have hf2:=zra _ hf
  unfold qaz
  rw[if_pos hf,hf2]
  obtain⟨T,h1,h2,h3⟩:=Hq.turn h hi
  rw[hc]at h1
  have hb:=h.below
  have hrdy:Rdy W.heap.size wk:=⟨W,rfl,hR,hb⟩
  refine(do_kd h1 hrdy (fun wk' hk=>hl.below ?_) hz hf2).mono ?_
  ·exact hb.trans (hk.below (fun k e=>(h2 k e).1) hb.size)
  ·rintro e w1 ⟨e1,e2,pw',e3⟩
   exact⟨e1,e2,pw',h3 _ _ e3.2 e3.1⟩
 ·unfold qaz
  rw[if_neg hf]
  refine(do_kd_no (hl.below h.below) (c:=(zct (ls.map (·.data.toList))).1) (i:=(zct (ls.map (·.data.toList))).2) rfl hf).mono ?_
  rintro e w1 ⟨e1,e2⟩
  refine⟨e1,Nat.zero_le _,pw,Hq.imp (Hq.after h e2) (fun j _ T _ hp=> ?_)⟩
  by_cases e:j=i
  ·subst e;rw[zb4,←hc];exact hp
  ·rw[za2 _ _ e];exact hp
end
def SlowIs(ls:List ByteArray)(w:World)(e:Ending)(w':World):Prop:=∃g,e= .returned (.bool g)∧(g=false→∀s∈ls,s.size≤10000)∧w'=w
def qam:List ByteArray→Nat
 |[]=>0
 |s::r=>s.size+qam r
theorem zyu:∀a b:List ByteArray,qam (a++b)=qam a+qam b
 |[],b=>by simp[qam]
 |s::a,b=>by rw[List.cons_append,qam,zyu a b,qam];omega
theorem qdo:∀(l:List ByteArray) (s:ByteArray),s∈l→s.size≤qam l
 |x::r,s,h=>by
  rcases List.mem_cons.1 h with rfl|h
  ·rw[qam];omega
  ·have:=qdo r s h;rw[qam];omega
theorem zyw{w:World}{v:Value}{ls:List ByteArray}(h:zb9 w v ls)(hn:ls.length≤1000)(hz:∀s∈ls,s.size≤140737488355328):
 Calls Tryz.prog 6 #[v] w fun e w'=>SlowIs ls w e w':=by
 have HV:Hid (zb9 w v ls):=h
 have HZ:Hid (∀s∈ls,s.size≤140737488355328):=hz
 obtain⟨a,cap,rfl,_⟩:=h.len
 clear h hz
 go_enter Tryz.func6,Tryz.ntmps6
 go_wp2_with fail
 go_loop [3,4] (fun n i=>∃k m:Nat,k≤ls.length∧m≤9000∧n= .int .i64 m∧i= .int .i64 k∧Hid (m=qam (ls.take k))) (fun _ i=>ls.length-(intOf i).toNat)
 case atStart=>exact⟨0,0,Nat.zero_le _,Nat.zero_le _,rfl,rfl,rfl⟩
 case round=>
  obtain⟨k,m,hk,hm,rfl,rfl,HM⟩:=hrel
  by_cases hlt:k<ls.length
  ·have hki:(k:Int)<(ls.length:Int):=by omega
   obtain⟨bb,off,rfl,hst⟩:=HV.out.row (by omega)
   have c0:=hst.cell k hlt
   have hbl:=hst.lt
   have hsz:ls[k].size≤140737488355328:=HZ.out _ (List.getElem_mem hlt)
   have HX:Hid (m+ls[k].size=qam (ls.take (k+1))):=by
    show _=_
    rw[List.take_succ_eq_append_getElem hlt,zyu,←HM.out]
    simp[qam]
   generalize ls[k]=s at*
   clear hst
   by_cases hg:9000<m+s.size
   ·have hgi:(9000:Int)<(m:Int)+(s.size:Int):=by omega
    go_wp2
    go_ret
    exact⟨true,rfl,fun e=>(by cases e),rfl⟩
   ·have hgi:¬(9000:Int)<(m:Int)+(s.size:Int):=by omega
    go_wp2
    go_round
    case rel=>exact⟨k+1,m+s.size,by omega,by omega,by go_num,by go_num,HX.out⟩
    case measure=>simp[intOf];omega
  ·obtain rfl:k=ls.length:=by omega
   go_wp2
   go_ret
   refine⟨false,rfl,fun _ s hs=> ?_,rfl⟩
   have h1:=HM.out
   rw[List.take_length]at h1
   have:=qdo ls s hs
   omega
theorem strs_new(w:World)(ws:List ByteArray){n:Nat}(hn:ws.length=n):zb9 (w.alloc (.cells (ws.map Value.string).toArray 9)) (.slice (some ⟨w.heap.size,0,none⟩) n n) ws:=by
 refine⟨_,n,n,rfl,hn,Nat.le_refl _,.inr ⟨_,0,rfl,by simp,fun i hi=> ?_⟩⟩
 rw[Lib.cell_of_heap (heap_alloc_new w (.cells (ws.map Value.string).toArray 9))]
 simp[hi]
def zxa:List ByteArray:=kbL.map bl
theorem zzp:zxa.map (·.data.toList)=kbL:=by rfl
theorem qbc(w:World)(hw:zbz w):Calls Tryz.prog 5 #[] w fun e w'=>e= .returned (.bool true)∧Below w.heap.size w w':=by
 have HW:Hid (zbz w):=hw
 have HN:Hid (Calls Tryz.prog 7 #[] w fun e w'=>e= .returned (.pointer (some ⟨w.heap.size+2,0,none⟩))∧w'=kdW w):=new_kd w
 have HB:Hid (Below w.heap.size w (kdW w)):=bla (bla (za1 _ _) (za1 _ _)) (za1 _ _)
 have HK:Hid (zyb w.heap.size (w.heap.size+2) (w.heap.size+1) w.heap.size (fun _=>0) [] zpy (kdW w) (fun k=>w.heap.size≤k∧k<(kdW w).heap.size)):=zzo w (Nat.le_refl _)
 clear hw
 go_enter Tryz.func5,Tryz.ntmps5
 go_wp2_with fail
 refine HN.out.mono ?_
 rintro e w1 ⟨rfl,rfl⟩
 have HS:Hid (zb9 ((kdW w).alloc (.cells (zxa.map Value.string).toArray 9)) (.slice (some ⟨(kdW w).heap.size,0,none⟩) 13 13) zxa):=strs_new _ _ rfl
 generalize kdW w=w1 at*
 clear HN
 have hb1:=HB.out
 have HK2:Hid (zyb w.heap.size (w.heap.size+2) (w.heap.size+1) w.heap.size (fun _=>0) [] zpy (w1.alloc (.cells (zxa.map Value.string).toArray 9)) (fun k=>w.heap.size≤k∧k<w1.heap.size)):=HK.out.below (za1 _ _)
 have HB2:Hid (Below w.heap.size w (w1.alloc (.cells (zxa.map Value.string).toArray 9))):=bla HB.out (za1 _ _)
 clear HK hb1
 have HD:Hid (Calls Tryz.prog 9 #[.pointer (some ⟨w.heap.size+2,0,none⟩),.slice (some ⟨w1.heap.size,0,none⟩) 13 13] (w1.alloc (.cells (zxa.map Value.string).toArray 9)) fun e w'=>e= .returned (.tuple #[.string (bl kbO),ftV 0 0])∧Below w.heap.size w w'):=by
  have:=do_kd HK2.out ⟨w,rfl,HW.out,HB2.out⟩ (v:= .slice (some ⟨w1.heap.size,0,none⟩) 13 13) (ls:=zxa) (fun wk hk=> ?_) (by decide+kernel) (by rw[zzp];exact kb_fault)
  ·rw[zzp,kb_told]at this
   exact this.mono fun e w' ⟨e1,_,_,_,e2⟩=>⟨e1,HB2.out.trans (e2.below (fun k e=>e.1) HB2.out.size)⟩
  ·obtain⟨a,len,cap,hv,h1,h2,h3⟩:=HS.out
   refine⟨a,len,cap,hv,h1,h2,?_⟩
   rcases h3 with h3|⟨b,off,rfl,hr⟩
   ·exact .inl h3
   ·refine .inr ⟨b,off,rfl,Nat.lt_of_lt_of_le hr.lt hk.size,fun i hi=> ?_⟩
    simp only[Value.slice.injEq,Option.some.injEq,Addr.mk.injEq]at hv
    obtain⟨⟨rfl,_⟩,_⟩:=hv
    rw[World.cell?_of_block (a:=⟨w1.heap.size,off+i,none⟩) (hk.block _ hr.lt (fun e=>by have e2:w1.heap.size<w1.heap.size:=e.2;omega))]
    exact hr.cell i hi
 clear HK2 HS HB2
 go_wp2_with fail
 refine HD.out.mono ?_
 rintro e w2 ⟨rfl,hb⟩
 have HB3:Hid (Below w.heap.size w (w2.alloc (.cells #[.int .i64 0,.int .i64 0] 31))):=bla hb (za1 _ _)
 obtain⟨so,hso⟩:∃so,bl kbO=so:=⟨_,rfl⟩
 have HBQ:Hid ((so.toList==kbO)=true):=by show _=_;rw[zbk,←hso];exact decide_eq_true rfl
 rw[hso]
 clear hb HD hso
 go_wp2
 go_ret
 refine⟨?_,HB3.out⟩
 show Ending.returned (.bool (so.toList==kbO))=_
 rw[HBQ.out]
structure RdAt(base R E F:Nat)(qw:Nat→Nat)(told:ByteArray)(u:Twn)(w:World)(S:Nat→Prop):Prop where
 lo:∀k,S k→base≤k∧k<w.heap.size
 tr:∃tk,TR u tk
 own:∃ow,HpAt base (zvx base R E F qw told u (Th.no base)) ow w∧∀k,ow k≠0→S k
def Th.rd(base R E F:Nat)(u:Twn):Th base:=
 ⟨fun w S=>∃qw told,RdAt base R E F qw told u w S,fun {w w' S T} _ h hk hd=>by
  obtain⟨qw,told,h⟩:=h
  obtain⟨ow,h1,h2⟩:=h.own
  have hs:=hk.size
  refine⟨qw,told,fun k e=>⟨(h.lo k e).1,Nat.lt_of_lt_of_le (h.lo k e).2 hs⟩,h.tr,ow,⟨fun k e=>⟨(h1.lo k e).1,Nat.lt_of_lt_of_le (h1.lo k e).2 hs⟩,Nat.le_trans h1.bs hs,fun i hi=> ?_⟩,h2⟩
  exact(zvx base R E F qw told u (Th.no base) i).kept (fun k e=>h1.lo k (by rw[e];exact hi)) (h1.at_ i hi) hk (fun k e=>hd k (h2 k (by rw[e];exact hi))),fun {w S T} h hT hl=>by
  obtain⟨qw,told,h⟩:=h
  obtain⟨ow,h1,h2⟩:=h.own
  exact⟨qw,told,hl,h.tr,ow,h1,fun k e=>hT k (h2 k e)⟩⟩
section
variable {base R E F:Nat} {qw:Nat→Nat} {w w0 wk w':World} {S:Nat→Prop} {told:ByteArray} {u:Twn}
theorem RdAt.held(h:RdAt base R E F qw told u w S):base≤w.heap.size∧∀k,S k→base≤k∧k<w.heap.size:=by
 obtain⟨ow,h1,h2⟩:=h.own
 exact⟨h1.bs,h.lo⟩
theorem RdAt.start(h:RdAt base R E F qw told u w S)(hr:Rdy base w):zbi base w S R E F qw told u (Th.no base) w:=by
 obtain⟨ow,h1,h2⟩:=h.own
 exact⟨⟨ow,h1,fun k e=> .inl (h2 k e),zak.refl _ _⟩,h.tr,hr⟩
theorem zbi.done(h:zbi base w S R E F qw told u (Th.no base) w')(hl:base≤w.heap.size∧∀k,S k→base≤k∧k<w.heap.size):RdAt base R E F qw told u w' (grow S w w')∧zak S w w':=by
 have hk:=Hq.kept h.hq
 have hs:=hk.size
 obtain⟨⟨ow,h1⟩,h2,_⟩:=h
 refine⟨⟨fun k e=> ?_,h2,ow,h1.at_,h1.old⟩,hk⟩
 rcases e with e|e
 ·have:=hl.2 k e;omega
 ·omega
abbrev rdW(w:World):World:=((w.alloc (.cells zqc 65)).alloc (.cells (zkw w.heap.size) 69)).alloc (.cells #[.string ⟨#[]⟩,.pointer (some ⟨w.heap.size+1,0,none⟩)] 50)
theorem new_rd(w:World):Calls Tryz.prog 8 #[] w fun e w'=>e= .returned (.pointer (some ⟨w.heap.size+2,0,none⟩))∧w'=rdW w:=by
 go_enter Tryz.func8,Tryz.ntmps8
 go_wp2_with fail
 refine(new_tn w).mono ?_
 rintro e w1 ⟨rfl,rfl⟩
 go_wp2
 go_ret
 exact⟨by simp,rfl⟩
theorem rd_start(w:World)(hb:base≤w.heap.size):RdAt base (w.heap.size+2) (w.heap.size+1) w.heap.size (fun _=>0) ⟨#[]⟩ zpy (rdW w) (fun k=>w.heap.size≤k∧k<(rdW w).heap.size):=by
 have h0:Hq base (fun _=>Th.no base) w (fun _=>False) w:=⟨fun _=>0,⟨fun _ e=>absurd rfl e,hb,fun _ _=>trivial⟩,fun _ e=>absurd rfl e,zak.refl _ _⟩
 have hb2:Below w.heap.size w ((w.alloc (.cells zqc 65)).alloc (.cells (zkw w.heap.size) 69)):=bla (za1 _ _) (za1 _ _)
 have hz2:((w.alloc (.cells zqc 65)).alloc (.cells (zkw w.heap.size) 69)).heap.size=w.heap.size+2:=by simp
 have ht:=tnAt_any w hb
 generalize hw2:(w.alloc (.cells zqc 65)).alloc (.cells (zkw w.heap.size) 69)=w2 at*
 have h1:=Hq.lay h0 hb2 (i:=1) (by omega) (Th.tn base (w.heap.size+1) w.heap.size (fun _=>0) zpy) ((Th.tn base (w.heap.size+1) w.heap.size (fun _=>0) zpy).mono ht (fun k e=>by omega) (fun k e=>by omega))
 have h2:=Hq.lay h1 (za1 w2 (.cells #[.string ⟨#[]⟩,.pointer (some ⟨w.heap.size+1,0,none⟩)] 50)) (i:=2) (by omega) (Th.rk base (w.heap.size+2) ⟨#[]⟩ (w.heap.size+1)) (by
  rw[←hz2]
  refine⟨⟨Nat.le_refl _,by simp⟩,by simp,by simp[go_sem],by simp[go_sem],fun o ho=> ?_⟩
  rcases(show o=0∨o=1 by omega)with rfl|rfl<;>simp[go_sem])
 obtain⟨ow,h5⟩:=h2
 have e3:rdW w=w2.alloc (.cells #[.string ⟨#[]⟩,.pointer (some ⟨w.heap.size+1,0,none⟩)] 50):=by rw[←hw2]
 rw[e3]
 refine⟨fun k e=>⟨by omega,e.2⟩,⟨_,zyh⟩,ow,⟨h5.at_.lo,h5.at_.bs,fun i hi=> ?_⟩,fun k e=> ?_⟩
 ·have:=h5.at_.at_ i hi
  unfold zvx
  by_cases e:i=3
  ·subst e;trivial
  ·rw[za2 _ _ e];exact this
 ·rcases h5.old k e with x|x
  ·exact x.elim
  ·exact x
theorem do_rd(h:RdAt base R E F qw told u w S)(hr:Rdy base w){v:Value}{ls:List ByteArray}(hv:∀wk,zak S w wk→zb9 wk v ls)(hz:∀s∈ls,s.size≤10000)(hn:ls.length≤150):
 Calls Tryz.prog 11 #[.pointer (some ⟨R,0,none⟩),v] w fun e w'=>e= .returned (.string (bl (doK u (ls.map (·.data.toList))).1))∧(∃qw' told',RdAt base R E F qw' told' (doK u (ls.map (·.data.toList))).2 w' (grow S w w'))∧zak S w w':=by
 have HV:Hid (∀wk,zak S w wk→zb9 wk v ls):=hv
 have HZ:Hid (∀s∈ls,s.size≤10000):=hz
 have HH:Hid (base≤w.heap.size∧∀k,S k→base≤k∧k<w.heap.size):=h.held
 have hs:=h.start hr
 have HI:Hid (zbi base w S R E F qw ⟨#[]⟩ u (Th.no base) (w.setCell ⟨R,0,none⟩ (.string ⟨#[]⟩))):=hs.set _
 have g0:=hs.cells.told
 have hlt:=hs.cells.lt
 have f0:=hs.cells.free 0 (by omega)
 obtain⟨a,cap,rfl,_⟩:=(hv w (zak.refl _ _)).len
 clear h hr hv hz hs
 go_enter Tryz.func11,Tryz.ntmps11
 go_wp2_with fail
 clear g0 hlt f0
 generalize World.setCell _ _ _=w1 at*
 go_loopw [5] (fun i wr=>∃k:Nat,k≤ls.length∧i= .int .i64 k∧Hid (∃qw',zbi base w S R E F qw' (bl (doK u ((ls.map (·.data.toList)).take k)).1) (doK u ((ls.map (·.data.toList)).take k)).2 (Th.no base) wr)∧Hid ((doK u ((ls.map (·.data.toList)).take k)).1.length≤30000*k)) (fun i _=>ls.length-(intOf i).toNat)
 case atStart=>exact⟨0,Nat.zero_le _,rfl,⟨qw,HI.out⟩,Nat.le_refl _⟩
 case round=>
  obtain⟨k,hk,rfl,HW,HLN⟩:=hrel
  clear HI
  obtain⟨qw3,h3⟩:=HW.out
  have HKW:Hid (zak S w wr):=Hq.kept h3.hq
  by_cases hlt:k<ls.length
  ·have hki:(k:Int)<(ls.length:Int):=by omega
   obtain⟨bb,off,rfl,hst⟩:=(HV.out wr HKW.out).row (by omega)
   have c0:=hst.cell k hlt
   have hbl:=hst.lt
   have HX:Hid ((ls.map (·.data.toList)).take (k+1)=(ls.map (·.data.toList)).take k++[ls[k].data.toList]):=by
    show _=_
    rw[List.take_succ_eq_append_getElem (by rw[List.length_map];exact hlt),List.getElem_map]
   have HSZ:Hid (ls[k].size≤10000):=HZ.out _ (List.getElem_mem hlt)
   generalize ls[k]=s at*
   have HH3:Hid (zbi base w S R E F qw3 (bl (doK u ((ls.map (·.data.toList)).take k)).1) (doK u ((ls.map (·.data.toList)).take k)).2 (Th.no base) wr):=h3
   clear hst h3 HW
   go_wp2_with fail
   refine(line_rk HH3.out s HSZ.out (by rw[zd9];have:=HLN.out;omega)).mono ?_
   rintro e w4 ⟨rfl,qw4,h4⟩
   have H4:Hid (∃qw',zbi base w S R E F qw' (bl (doK u ((ls.map (·.data.toList)).take (k+1))).1) (doK u ((ls.map (·.data.toList)).take (k+1))).2 (Th.no base) w4):=by
    rw[zf5]at h4
    rw[HX.out,znx]
    exact⟨qw4,h4⟩
   have HL4:Hid ((doK u ((ls.map (·.data.toList)).take (k+1))).1.length≤30000*(k+1)):=by
    show _≤_
    rw[HX.out,znx]
    obtain⟨tk,htr⟩:=HH3.out.tr
    have:=zzj htr s.data.toList
    have:=HLN.out
    show((doK u _).1++_).length≤_
    rw[List.length_append]
    omega
   clear h4 HH3 c0 hbl
   go_wp2_with fail
   go_roundw
   case rel=>exact⟨k+1,by omega,by go_num,H4.out,HL4.out⟩
   case measure=>simp[intOf];omega
  ·obtain rfl:k=ls.length:=by omega
   have HE:Hid ((ls.map (·.data.toList)).take ls.length=ls.map (·.data.toList)):=by show _=_;rw[←List.length_map (f:=fun s:ByteArray=>s.data.toList)];exact List.take_length
   rw[HE.out]at h3
   have HD:Hid ((∃qw' told',RdAt base R E F qw' told' (doK u (ls.map (·.data.toList))).2 wr (grow S w wr))∧zak S w wr):=⟨⟨_,_,(h3.done HH.out).1⟩,(h3.done HH.out).2⟩
   have g0:=h3.cells.told
   have hlt3:=h3.cells.lt
   clear h3 HW HLN
   go_wp2_with fail
   go_ret
   exact⟨rfl,HD.out⟩
end
section
variable {W wk w':World} {cs:Nat→Th W.heap.size}
theorem Jn.newR(h:Jn W cs wk)(i:Nat)(hi:i≠0):
 Calls Tryz.prog 8 #[] wk fun e w'=>∃R E F,e= .returned (.pointer (some ⟨R,0,none⟩))∧Jn W (zag cs i (Th.rd W.heap.size R E F zpy)) w':=by
 refine(new_rd wk).mono ?_
 rintro e w1 ⟨rfl,rfl⟩
 have hb:Below wk.heap.size wk (rdW wk):=bla (bla (za1 _ _) (za1 _ _)) (za1 _ _)
 exact⟨_,_,_,rfl,Hq.lay h hb hi _ ⟨_,_,rd_start wk h.below.size⟩⟩
theorem Jn.doneR{R E F:Nat}{t:Twn}{i:Nat}(h:Jn W cs wk)(hi:i≠0)(hc:cs i=Th.rd W.heap.size R E F t)(hR:zbz W){v:Value}{ls:List ByteArray}(hl:zb9 W v ls)(hz:∀s∈ls,s.size≤10000)(hn:ls.length≤150):
 Calls Tryz.prog 11 #[.pointer (some ⟨R,0,none⟩),v] wk fun e w'=>e= .returned (.string (bl (doK t (ls.map (·.data.toList))).1))∧Jn W (zag cs i (Th.rd W.heap.size R E F (doK t (ls.map (·.data.toList))).2)) w':=by
 obtain⟨T,h1,h2,h3⟩:=Hq.turn h hi
 rw[hc]at h1
 obtain⟨qw,told,h1⟩:=h1
 have hb:=h.below
 refine(do_rd h1 ⟨W,rfl,hR,hb⟩ (fun wk' hk=>hl.below (hb.trans (hk.below (fun k e=>(h2 k e).1) hb.size))) hz hn).mono ?_
 rintro e w1 ⟨e1,e2,e3⟩
 exact⟨e1,h3 _ _ e3 e2⟩
end
end Go.Proofs.YtcbnnfeelhlapadGreatDoor