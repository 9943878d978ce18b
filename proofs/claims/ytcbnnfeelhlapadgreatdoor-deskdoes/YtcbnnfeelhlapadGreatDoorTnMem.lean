/-
  DRefW, KPlain, KW, KRdy, HpRef, TnMem.
-/
import Derived.Test.YtcbnnfeelhlapadGreatDoorDRef
namespace Go.Proofs.YtcbnnfeelhlapadGreatDoor
set_option maxHeartbeats 3200000
set_option maxRecDepth 20000
open Go.RowKit
theorem cut_at(s:ByteArray)(k:Nat)(hk:k<s.size)(h0:∀b∈s.data.toList.take k,b≠32)(h1:s[k]=32):zg3 s.data.toList=some (s.data.toList.take k,s.data.toList.drop (k+1)):=by
 have e:s.data.toList=s.data.toList.take k++32::s.data.toList.drop (k+1):=by
  have:=List.take_append_drop k s.data.toList
  rw[List.drop_eq_getElem_cons hk,qft s k hk,h1]at this
  exact this.symm
 have:=qgg (s.data.toList.take k) (s.data.toList.drop (k+1)) h0
 rw[<-e]at this
 exact this
theorem zvb(s:ByteArray)(k:Nat):s.extract 0 k=bl (s.data.toList.take k):=by
 refine zrk ?_
 rw[Lib.extract_from_zero,zhc]
theorem zva(s:ByteArray)(k:Nat):s.extract k s.size=bl (s.data.toList.drop k):=by
 refine zrk ?_
 rw[Lib.extract_to_end,zhc]
def znd(s:ByteArray):Value:=match zg3 s.data.toList with|some p=> .tuple #[.string (bl p.1),.string (bl p.2),.bool true]|none=> .tuple #[.string s,.string ⟨#[]⟩,.bool false]
theorem znk(s:ByteArray)(w:World)(hs:s.size<=100000):
 Calls Tryz.prog 30 #[.string s] w fun e w'=>e= .returned (znd s)/\Below w.heap.size w w':=by
 go_enter Tryz.func30,Tryz.ntmps30
 go_wp2
 go_loop [5] (fun i=>∃k:Nat,k<=s.size/\i= .int .i64 k/\∀b∈s.data.toList.take k,b≠32) (fun i=>s.size-(intOf i).toNat)
 case atStart=>exact⟨0,Nat.zero_le _,rfl,by simp⟩
 obtain⟨k,hk,rfl,hfree⟩:=hrel
 have HF:Hid _:=hfree
 clear hfree
 by_cases hlt:k<s.size
 ·by_cases h32:s[k]=32
  ·have hc:((s[k].toNat:Int)==32)=true:=by rw[h32];rfl
   have HC:Hid _:=cut_at s k hlt HF.out h32
   clear h32
   have e1:=zvb s k
   have e2:=zva s (k+1)
   have HV:Hid (znd s= .tuple #[.string (s.extract 0 k),.string (s.extract (k+1) s.size),.bool true]):=by
    show znd s=_
    rw[znd,HC.out,e1,e2]
   clear e1 e2
   go_wp2
   go_quiet (fail)
   go_wp2
   go_ret3
   exact⟨congrArg Ending.returned HV.out.symm,below_drewN (Below.refl _ _) _⟩
  have hc:((s[k].toNat:Int)==32)=false:=by
   refine beq_eq_false_iff_ne.2 (fun e=>h32 (UInt8.toNat_inj.1 ?_))
   show s[k].toNat=32
   omega
  have HN:Hid (∀b∈s.data.toList.take (k+1),b≠32):=by
   intro b hb
   rw[List.take_add_one,List.getElem?_eq_getElem hlt,qft s k hlt]at hb
   rcases List.mem_append.1 hb with hb|hb
   ·exact HF.out b hb
   simp at hb
   rw[hb]
   exact h32
  clear h32
  go_wp2
  go_round
  case rel=>exact⟨k+1,by omega,by go_num,HN.out⟩
  case measure=>simp[intOf];omega
 have HV:Hid (znd s= .tuple #[.string s,.string ⟨#[]⟩,.bool false]):=by
  show znd s=_
  have hall:=HF.out
  rw[show k=s.size by omega,<-zav,List.take_length]at hall
  rw[znd,zpi hall]
 go_wp2
 go_ret3
 exact⟨congrArg Ending.returned HV.out.symm,Below.refl _ _⟩
theorem qem(s:ByteArray)(w:World)(hw:zck w)(hs:s.size<=100000)(h:zhp s=none):
 Calls Tryz.prog 31 #[.string s] w fun e w'=>(∃v,e= .returned (.tuple #[.int .i64 v,.bool (zfo s).isSome])/\∀z,zfo s=some z->v=z)/\Below w.heap.size w w':=by
 have HN:Hid (zfo s=none):=by show zfo s=none;rw[zfo,h]
 have HW:Hid _:=hw
 have HH:Hid _:=h
 clear hw h
 go_enter Tryz.func31,Tryz.ntmps31
 go_wp2_with fail
 refine(qgu s (by omega) HH.out _ HW.out).mono ?_
 rintro e w1 ⟨v,t,q,rfl,_,hb1⟩
 go_wp2
 go_ret2
 exact⟨⟨v,by rw[HN.out];rfl,fun z hz=>by rw[HN.out]at hz;cases hz⟩,hb1⟩
theorem zuk(s:ByteArray)(w:World)(hw:zck w)(hs:s.size<=100000)(v:Int)(h:zhp s=some v):
 Calls Tryz.prog 31 #[.string s] w fun e w'=>(∃v,e= .returned (.tuple #[.int .i64 v,.bool (zfo s).isSome])/\∀z,zfo s=some z->v=z)/\Below w.heap.size w w':=by
 have HW:Hid _:=hw
 have HH:Hid _:=h
 have HI:Hid _:=zul h
 by_cases he:zc3 v=s
 ·have HN:Hid (zfo s=some v):=by show zfo s=some v;simp[zfo,h,he]
  clear hw h
  go_enter Tryz.func31,Tryz.ntmps31
  go_wp2_with fail
  refine(zt6 s v (by omega) HH.out _).mono ?_
  rintro e w1 ⟨rfl,hb1⟩
  go_wp2_with fail
  refine(zj7 v HI.out _ (HW.out.below hb1)).mono ?_
  rintro e w2 ⟨rfl,hb2⟩
  have HB:Hid _:=bla hb1 hb2
  clear hb1 hb2
  go_wp2
  go_ret2
  exact⟨⟨v,by rw[HN.out];rfl,fun z hz=>by rw[HN.out]at hz;exact Option.some.inj hz⟩,HB.out⟩
 have HN:Hid (zfo s=none):=by show zfo s=none;simp[zfo,h,he]
 have hne:((zc3 v).toList==s.toList)=false:=by rw[qgt];simp[he]
 clear hw h he
 go_enter Tryz.func31,Tryz.ntmps31
 go_wp2_with fail
 refine(zt6 s v (by omega) HH.out _).mono ?_
 rintro e w1 ⟨rfl,hb1⟩
 go_wp2_with fail
 refine(zj7 v HI.out _ (HW.out.below hb1)).mono ?_
 rintro e w2 ⟨rfl,hb2⟩
 have HB:Hid _:=bla hb1 hb2
 clear hb1 hb2
 go_wp2
 go_ret2
 exact⟨⟨v,by rw[HN.out];rfl,fun z hz=>by rw[HN.out]at hz;cases hz⟩,HB.out⟩
theorem zf6(s:ByteArray)(w:World)(hw:zck w)(hs:s.size<=100000):
 Calls Tryz.prog 31 #[.string s] w fun e w'=>(∃v,e= .returned (.tuple #[.int .i64 v,.bool (zfo s).isSome])/\∀z,zfo s=some z->v=z)/\Below w.heap.size w w':=by
 cases h:zhp s with
 |none=>exact qem s w hw hs h
 |some v=>exact zuk s w hw hs v h
def zb6:List UInt8->List UInt8->List (List UInt8)
 |acc,[]=>if acc=[]then []else [acc]
 |acc,b::r=>if b=32 then(if acc=[]then zb6 [] r else acc::zb6 [] r)else zb6 (acc++[b]) r
def zax(s:List UInt8):List (List UInt8):=zb6 [] s
def zew(s:List UInt8):Option (Int×Int×List UInt8):=match zg3 s with
 |none=>none
 |some (a,rest)=>if a=[112,117,116]then(match zg3 rest with
  |none=>none
  |some (b,more)=>match zg3 more with
   |none=>none
   |some (c,text)=>match zfo (bl b)with
    |none=>none
    |some w=>match zfo (bl c)with
     |none=>none
     |some at_=>some (w,at_,text))else none
def okW:List UInt8:=[111,107,10]
def noW(c:Int):List UInt8:=[110,111,32]++(Lib.itoa c++[10])
def zg6:List UInt8:=[119,104,97,116,10]
def zpe:List UInt8:=[101,110,100,10]
def zkb(l:List Int):List UInt8:=(strOfNums l).data.toList
def zfj(l:List Int):List UInt8:=[116,101,120,116,32]++(zkb l++[10])
def zhr(d:Dd):List UInt8:=(zcy d).data.toList++[10]
def zb3:List Dd->List UInt8
 |[]=>[]
 |d::ds=>zhr d++zb3 ds
def zdz:List Int->List UInt8
 |[]=>[]
 |z::zs=>32::(Lib.itoa z++zdz zs)
def byW(zs:List Int):List UInt8:=[98,121]++(zdz zs++[10])
def ze0(a b:Int):List UInt8:=[108,101,97,115,116,32]++(Lib.itoa a++([32]++(Lib.itoa b++[10])))
theorem zko(d:Dd):∀ds:List Dd,zb3 (ds++[d])=zb3 ds++zhr d
 |[]=>by simp[zb3]
 |e::ds=>by rw[List.cons_append,zb3,zko d ds,zb3,List.append_assoc]
theorem zqx(z:Int):∀zs:List Int,zdz (zs++[z])=zdz zs++32::Lib.itoa z
 |[]=>by simp[zdz]
 |y::zs=>by rw[List.cons_append,zdz,zqx z zs,zdz,List.cons_append,List.append_assoc]
def zc6(t:Twn)(x:Tst):List UInt8×Twn:=(if(tDo t x).1=0 then okW else noW (tDo t x).1,(tDo t x).2)
def zi8(t:Twn)(n:Int):List UInt8:=match t.ws n with
 |some r=>zfj (vw r.list r.seen r.me)
 |none=>noW 5
def zho(t:Twn)(n:Int):List UInt8:=match t.ws n with
 |some r=>zb3 r.opens++zpe
 |none=>noW 5
def zh9(t:Twn)(n:Int):List UInt8:=if inS t.b n=true then zfj ((thS t.b n).map (·.c))++byW ((thS t.b n).map (·.by_))else noW 5
def zcj(t:Twn)(k:List UInt8)(n:List Int):List UInt8×Twn:=
 if k=[116,97,107,101]/\n.length=3 then zc6 t ⟨3,n.getD 0 0,n.getD 1 0,n.getD 2 0,⟨#[]⟩⟩
 else if k=[106,111,105,110]/\n.length=1 then zc6 t ⟨1,n.getD 0 0,0,0,⟨#[]⟩⟩
 else if k=[115,101,110,100]/\n.length=1 then zc6 t ⟨4,n.getD 0 0,0,0,⟨#[]⟩⟩
 else if k=[104,101,97,114]/\n.length=1 then zc6 t ⟨5,n.getD 0 0,0,0,⟨#[]⟩⟩
 else if k=[99,108,101,97,114]/\n.length=1 then zc6 t ⟨6,n.getD 0 0,0,0,⟨#[]⟩⟩
 else if k=[108,101,97,118,101]/\n.length=1 then zc6 t ⟨7,n.getD 0 0,0,0,⟨#[]⟩⟩
 else if k=[116,101,120,116]/\n.length=1 then(zi8 t (n.getD 0 0),t)
 else if k=[116,101,120,116]/\n.length=0 then(zfj (zdj t.b.chars),t)
 else if k=[111,112,101,110]/\n.length=1 then(zho t (n.getD 0 0),t)
 else if k=[108,111,103]/\n.length=0 then(zb3 t.b.ds++zpe,t)
 else if k=[116,104,101,110]/\n.length=1 then(zh9 t (n.getD 0 0),t)
 else if k=[115,101,116,116,108,101]/\n.length=0 then(okW,zep t)
 else if k=[108,101,97,115,116]/\n.length=0 then(ze0 (zap t.b) t.b.len,t)
 else(zg6,t)
def zg1(t:Twn):List (List UInt8)->List UInt8×Twn
 |[]=>([],t)
 |k::r=>match zbw (r.map bl)with
  |none=>(zg6,t)
  |some n=>zcj t k n
def zaf(t:Twn)(s:List UInt8):List UInt8×Twn:=match zew s with
 |some (w,at_,text)=>zc6 t ⟨2,w,at_,0,bl text⟩
 |none=>zg1 t (zax s)
def doK:Twn->List (List UInt8)->List UInt8×Twn
 |t,[]=>([],t)
 |t,s::r=>((zaf t s).1++(doK (zaf t s).2 r).1,(doK (zaf t s).2 r).2)
theorem qg5:∀(a b:List (List UInt8)) (t:Twn),doK t (a++b)=((doK t a).1++(doK (doK t a).2 b).1,(doK (doK t a).2 b).2)
 |[],_,_=>rfl
 |s::a,b,t=>by
  show((zaf t s).1++(doK (zaf t s).2 (a++b)).1,(doK (zaf t s).2 (a++b)).2)=_
  rw[qg5 a b]
  simp[doK,List.append_assoc]
theorem znw(a:List (List UInt8))(s:List UInt8)(t:Twn):doK t (a++[s])=((doK t a).1++(zaf (doK t a).2 s).1,(zaf (doK t a).2 s).2):=by
 rw[qg5]
 simp[doK]
def zhb(s:List UInt8):Bool:=s.any (· ==10)
def zbr:Nat->List (List UInt8)->Int×Int
 |_,[]=>(0,0)
 |i,s::r=>if zhb s=true then(11,(i:Int))else zbr (i+1) r
def zcs(l:List (List UInt8)):Int×Int:=if 150<l.length then(10,-1)else zbr 0 l
def Sm(c:Int):Prop:=0<=c/\c<=20
theorem sm_check(d:Dd):Sm (za9 d):=by
 unfold za9 zwt zl3 Sm
 repeat' split
 all_goals omega
theorem sm_may(l:List Ch)(d:Dd):Sm (zha l d):=by
 have h:=sm_check d
 unfold zha
 unfold Sm at*
 repeat' split
 all_goals omega
theorem sm_do(l:List Ch)(d:Dd)(n:Int):Sm (doC l d n):=by
 have h:=sm_may l d
 unfold doC
 unfold Sm at*
 repeat' split
 all_goals omega
theorem sm_comes(b:Bk)(d:Dd):Sm (za6 b d):=by
 have h:=sm_do b.chars d (b.len+1)
 unfold za6
 unfold Sm at*
 repeat' split
 all_goals omega
theorem sm_says(b:Bk)(w seen:Int):Sm (ze2 b w seen):=by
 unfold ze2 Sm
 repeat' split
 all_goals omega
theorem sm_join(b:Bk)(w:Int):Sm (zde b w):=by
 unfold zde Sm
 repeat' split
 all_goals omega
theorem sm_hear(w:Wr)(d:Dd):Sm (zbt w d):=by
 have h:=sm_do w.list d ((w.seen:Int)+1)
 unfold zbt
 unfold Sm at*
 repeat' split
 all_goals omega
theorem zgj:Sm 5:=by unfold Sm;omega
theorem qdy:Sm 0:=by unfold Sm;omega
theorem zrx(t:Twn)(x:Tst):Sm (tDo t x).1:=by
 unfold tDo
 split
 ·show Sm 2
  unfold Sm;omega
 split
 ·exact sm_join _ _
 cases t.ws x.w with
 |none=>exact zgj
 |some r=>
  show Sm (if x.kind=2\/x.kind=3 then qb0 t x.w r x else if x.kind=4 then zdx t x.w r else if x.kind=5 then zdg t x.w r
   else if x.kind=6 then(0,⟨t.b,zai t.ws x.w (some (zgt r (zba t.b r.seen)))⟩)else(0,zdu t x.w)).1
  split
  ·exact sm_do _ _ _
  split
  ·unfold zdx
   cases r.opens[r.sent]? with
   |none=>exact zgj
   |some d=>exact sm_comes _ _
  split
  ·unfold zdg
   cases t.b.ds[r.seen]? with
   |none=>exact zgj
   |some d=>
    show Sm (if zbt r d=0 then(ze2 t.b x.w (zb1 r d).least,(⟨zd5 t.b x.w (zb1 r d).least,zai t.ws x.w (some (zb1 r d))⟩:Twn))else(zbt r d,zdu t x.w)).1
    split
    ·exact sm_says _ _ _
    exact sm_hear _ _
  split
  ·exact qdy
  exact qdy
variable {w w':World} {ws:List ByteArray} {base k:Nat} {v:Value} {L acc:List UInt8} {dn:List (List UInt8)}
def zbs(w:World)(v:Value)(ws:List ByteArray):Prop:=
 ∃(a:Option Addr) (len cap:Nat),v= .slice a len cap/\ws.length=len/\len<=cap/\(len=0\/∃b off,a=some ⟨b,off,none⟩/\Strs w b off ws)
theorem zbs.below{w w':World}{v:Value}{ws:List ByteArray}(h:zbs w v ws)(hb:Below w.heap.size w w'):zbs w' v ws:=by
 obtain⟨a,len,cap,rfl,h1,h2,h3⟩:=h
 refine⟨a,len,cap,rfl,h1,h2,?_⟩
 rcases h3 with h3|⟨b,off,rfl,hr⟩
 ·exact .inl h3
 exact .inr ⟨b,off,rfl,hr.below hb⟩
theorem zbs.len{w:World}{v:Value}{ws:List ByteArray}(h:zbs w v ws):∃a cap,v= .slice a ws.length cap/\ws.length<=cap:=by
 obtain⟨a,len,cap,rfl,rfl,h2,_⟩:=h
 exact⟨a,cap,rfl,h2⟩
theorem zbs.row{a:Option Addr}{cap n:Nat}(h:zbs w (.slice a n cap) ws)(hp:0<n):∃b off,a=some ⟨b,off,none⟩/\Strs w b off ws:=by
 obtain⟨a',len,cap',he,h1,h2,h3⟩:=h
 simp only[Value.slice.injEq]at he
 obtain⟨rfl,rfl,rfl⟩:=he
 rcases h3 with h3|h3
 ·omega
 exact h3
def zna(ws:List ByteArray):List Value:=ws.map Value.string
def qce(w:World)(base:Nat)(v:Value)(ws:List ByteArray):Prop:=w.ownsRow base 9 1 v ws.length (zna ws)
theorem zzb(w:World)(base:Nat):qce w base (.slice none 0 0) []:=World.ownsRow_nil _ _ _ _
theorem qce.lst(h:qce w base v ws):zbs w v ws:=by
 have h':=h
 obtain⟨_,h2⟩:=h
 rcases h2 with⟨rfl,hn⟩|⟨g,cap,cur,rfl,hb,hg,hnc,_⟩
 ·exact⟨none,0,0,rfl,hn,Nat.le_refl _,.inl rfl⟩
 refine⟨_,_,_,rfl,rfl,hnc,.inr ⟨g,0,rfl,(Array.getElem?_eq_some_iff.1 hg).1,fun i hi=> ?_⟩⟩
 rw[Nat.zero_add,World.ownsRow.cellAt h' i (by omega)]
 unfold zna
 rw[List.getElem?_map,List.getElem?_eq_getElem hi]
 rfl
theorem qce.below(h:qce w base v ws)(hb:Below w.heap.size w w'):qce w' base v ws:=zed h hb
theorem zxc:(Tryz.prog.info? 9).map (fun i=>(i.zero,i.size,i.bytes))=some (some (.string ⟨#[]⟩),1,16):=by kernel_rfl
theorem znn(w:World)(s:ByteArray):∀j u,([Value.string s])[j]? =some u->(w.alloc (.cells #[.string s] 9)).cell? ((⟨w.heap.size,0,none⟩:Addr).add j)=some u:=by
 intro j u hj
 match j,hj with
 | 0,hj=>simp at hj;subst hj;simp[Addr.add,go_sem]
theorem zf1(a b:List UInt8):bl a++bl b=bl (a++b):=by
 have:=zjk (bl a++bl b)
 rw[zig,zhc,zhc]at this
 exact this.symm
theorem zd8(a:List UInt8):(bl a).size=a.length:=by
 show a.toArray.size=_
 simp
theorem zxr(s:ByteArray)(k:Nat)(h:k<s.size):s.extract k (k+1)=bl [s[k]]:=by
 have e:=zjk (s.extract k (k+1))
 rw[<-e]
 congr 1
 rw[ByteArray.data_extract]
 apply List.ext_getElem?
 intro i
 rw[Array.getElem?_toList,Array.getElem?_extract]
 have hs:s.data.size=s.size:=rfl
 cases i with
 |zero=>
  rw[if_pos (by omega)]
  simp[hs,h]
  rfl
 |succ i=>
  rw[if_neg (by omega)]
  simp
structure zet(L:List UInt8)(k:Nat)(done:List (List UInt8))(acc:List UInt8):Prop where
 go:k<=L.length->done++zb6 acc (L.drop k)=zax L
 ended:L.length<k->done=zax L
 la:acc.length<=k
 ld:done.length<=k
theorem zro(L:List UInt8):zet L 0 [] []:=⟨fun _=>rfl,fun h=>absurd h (Nat.not_lt_zero _),Nat.le_refl _,Nat.le_refl _⟩
theorem zet.letter(h:zet L k dn acc)(hk:k<L.length)(hb:L[k]≠32):zet L (k+1) dn (acc++[L[k]]):=by
 refine⟨fun _=> ?_,fun h'=>by omega,by rw[List.length_append];have:=h.la;simp;omega,by have:=h.ld;omega⟩
 have:=h.go (by omega)
 rw[List.drop_eq_getElem_cons hk,zb6,if_neg hb]at this
 exact this
theorem zet.blank(h:zet L k dn acc)(hk:k<L.length)(hb:L[k]=32):zet L (k+1) (if acc=[]then dn else dn++[acc]) []:=by
 refine⟨fun _=> ?_,fun h'=>by omega,Nat.zero_le _,?_⟩
 ·have:=h.go (by omega)
  rw[List.drop_eq_getElem_cons hk,zb6,if_pos hb]at this
  by_cases c:acc=[]
  ·rw[if_pos c]at this⊢;exact this
  rw[if_neg c]at this⊢
  rw[List.append_assoc]
  exact this
 have:=h.ld
 split
 ·omega
 rw[List.length_append];simp;omega
theorem zet.last(h:zet L L.length dn acc):zet L (L.length+1) (if acc=[]then dn else dn++[acc]) []:=by
 refine⟨fun h'=>by omega,fun _=> ?_,Nat.zero_le _,?_⟩
 ·have:=h.go (Nat.le_refl _)
  rw[List.drop_length,zb6]at this
  by_cases c:acc=[]
  ·rw[if_pos c]at this⊢;simpa using this
  rw[if_neg c]at this⊢;exact this
 have:=h.ld
 split
 ·omega
 rw[List.length_append];simp;omega
structure WoI(w:World)(v:Value)(ws:List ByteArray)(wk:World):Prop where
 below:Below w.heap.size w wk
 own:qce wk w.heap.size v ws
theorem WoI.after{wk:World}(h:WoI w v ws wk)(hb:Below wk.heap.size wk w'):WoI w v ws w':=⟨bla h.below hb,h.own.below hb⟩
theorem WoI.grown{w wr w2:World}{v v':Value}{ws:List ByteArray}{z:ByteArray}(h:WoI w v ws wr)(ho:w2.ownsRow w.heap.size 9 1 v' (ws.length+1) (zna ws++[.string z]))(hg:wr.grownBy w2 v.ownBlock):WoI w v' (ws++[z]) w2:=by
 refine⟨h.below.grown hg (by have:=h.below.size;omega) (fun j hj=>(World.ownsRow.lt h.own j hj).1),?_⟩
 unfold qce zna
 rw[List.map_append,List.length_append]
 exact ho
theorem bl_ne{a:List UInt8}(h:a≠[]):bl a≠⟨#[]⟩:=fun e=>h (zpo (b:=[]) e)
theorem qck(s:ByteArray)(w:World)(hs:s.size<=100000):
 Calls Tryz.prog 33 #[.string s] w fun e w'=>∃v,e= .returned v/\qce w' w.heap.size v ((zax s.data.toList).map bl)/\Below w.heap.size w w':=by
 obtain⟨i0,hi,hz0,hz1,hz2⟩:=info_parts zxc
 go_enter Tryz.func33,Tryz.ntmps33
 go_wp2
 go_loopw [3,4,5] (fun v u i wr=>∃(k:Nat) (done:List (List UInt8)) (acc:List UInt8),k<=s.size+1/\u= .string (bl acc)/\i= .int .i64 k/\Hid (zet s.data.toList k done acc)/\Hid (WoI w v (done.map bl) wr)) (fun _ _ i _=>s.size+1-(intOf i).toNat)
 case atStart=>exact⟨0,[],[],by omega,rfl,rfl,zro _,Below.refl _ _,zzb _ _⟩
 obtain⟨k,done,acc,hk,rfl,rfl,HT,HW⟩:=hrel
 have hla:(bl acc).size<=100001:=by rw[zd8];have:=HT.out.la;omega
 have HLD:Hid (done.length<=100001):=by show _<=_;have:=HT.out.ld;omega
 have HDL:Hid ((done.map bl).length<=100001):=by show _<=_;rw[List.length_map];exact HLD.out
 by_cases hlt:k<=s.size
 ·have hki:(k:Int)<=(s.size:Int):=by omega
  by_cases hk2:k<s.size
  ·have hk2i:(k:Int)<(s.size:Int):=by omega
   have hkd:k<s.data.toList.length:=hk2
   by_cases h32:s[k]=32
   ·have HB:Hid (zet s.data.toList (k+1) (if acc=[]then done else done++[acc]) []):=HT.out.blank hkd (by rw[qft s k hk2];exact h32)
    have hbb:((s[k].toNat:Int)==32)=true:=by rw[h32];rfl
    have hbn:(s[k].toNat:Int)=32:=by rw[h32];rfl
    by_cases hacc:acc=[]
    ·subst hacc
     rw[if_pos rfl]at HB
     go_wp2
     go_roundw
     case rel=>exact⟨k+1,done,[],by omega,rfl,by go_num,HB.out,HW.out⟩
     case measure=>simp[intOf];omega
    rw[if_neg hacc]at HB
    have hne:bl acc≠⟨#[]⟩:=bl_ne hacc
    have hneb:((bl acc).toList==([]:List UInt8))=false:=by rw[zbi];simpa using hne
    have HW2:Hid (WoI w u3 (done.map bl) (wr.alloc (.cells #[.string (bl acc)] 9))):=HW.out.after (za2 _ _)
    obtain⟨sw,hsw⟩:∃sw,bl acc=sw:=⟨_,rfl⟩
    rw[hsw]at hla hne hneb HW2⊢
    have HSW:=hid hsw
    clear hacc hsw
    go_wp2_with (at_builtin;refine wpList_append_own _ rfl (.tmp 31) (.tmp 33) 22 rfl w.heap.size 9 i0 (.string ⟨#[]⟩) 1 16 Tryz.underlying22 hi hz0 hz1 hz2 rfl (by decide) u3 (done.map bl).length (zna (done.map bl)) rfl HW2.out.own ⟨wr.heap.size,0,none⟩ 1 1 [.string sw] (by simp[go_sem]) rfl (znn _ _) ?c2 ?c3 ?c4 ?c5 ?_)
    case c2=>intro u hu;simp at hu;subst hu;rfl
    case c3=>have:=HDL.out;unfold maxLen;omega
    case c4=>have:=HDL.out;omega
    case c5=>exact HW2.out.below.size
    intro v' w2 hown' hgrow _
    have H2:Hid (WoI w v' ((done++[acc]).map bl) w2):=by
     show WoI _ _ _ _
     rw[List.map_append]
     have:=HW2.out.grown (by rw[List.length_map];exact hown') hgrow
     rw[<-HSW.out]at this
     exact this
    clear hgrow hown' HW HW2 hla hne hneb
    go_wp2
    go_roundw
    case rel=>exact⟨k+1,done++[acc],[],by omega,rfl,by go_num,HB.out,H2.out⟩
    case measure=>simp[intOf];omega
   have HB:Hid (zet s.data.toList (k+1) done (acc++[s[k]])):=by have:=HT.out.letter hkd (by rw[qft s k hk2];exact h32);rw[qft s k hk2]at this;exact this
   have hbb:((s[k].toNat:Int)==32)=false:=by
    simp
    intro e
    exact h32 (UInt8.toNat_inj.1 (by simpa using(by omega:s[k].toNat=32)))
   have hex:s.extract k (k+1)=bl [s[k]]:=zxr s k hk2
   have HAP:Hid (bl acc++bl [s[k]]=bl (acc++[s[k]])):=zf1 _ _
   have hz1':(bl [s[k]]).size=1:=zd8 _
   go_wp2
   go_roundw
   case rel=>exact⟨k+1,done,acc++[s[k]],by omega,by rw[<-HAP.out],by go_num,HB.out,HW.out⟩
   case measure=>simp[intOf];omega
  obtain rfl:k=s.size:=by omega
  have HB:=hid (zet.last (L:=s.data.toList) HT.out)
  by_cases hacc:acc=[]
  ·subst hacc
   rw[if_pos rfl]at HB
   go_wp2
   go_roundw
   case rel=>exact⟨s.size+1,done,[],by omega,rfl,by go_num,HB.out,HW.out⟩
   case measure=>simp[intOf]
  rw[if_neg hacc]at HB
  have hne:bl acc≠⟨#[]⟩:=bl_ne hacc
  have hneb:((bl acc).toList==([]:List UInt8))=false:=by rw[zbi];simpa using hne
  have HW2:Hid (WoI w u3 (done.map bl) (wr.alloc (.cells #[.string (bl acc)] 9))):=HW.out.after (za2 _ _)
  obtain⟨sw,hsw⟩:∃sw,bl acc=sw:=⟨_,rfl⟩
  rw[hsw]at hla hne hneb HW2⊢
  have HSW:=hid hsw
  clear hacc hsw
  go_wp2_with (at_builtin;refine wpList_append_own _ rfl (.tmp 31) (.tmp 33) 22 rfl w.heap.size 9 i0 (.string ⟨#[]⟩) 1 16 Tryz.underlying22 hi hz0 hz1 hz2 rfl (by decide) u3 (done.map bl).length (zna (done.map bl)) rfl HW2.out.own ⟨wr.heap.size,0,none⟩ 1 1 [.string sw] (by simp[go_sem]) rfl (znn _ _) ?c2 ?c3 ?c4 ?c5 ?_)
  case c2=>intro u hu;simp at hu;subst hu;rfl
  case c3=>have:=HDL.out;unfold maxLen;omega
  case c4=>have:=HDL.out;omega
  case c5=>exact HW2.out.below.size
  intro v' w2 hown' hgrow _
  have H2:Hid (WoI w v' ((done++[acc]).map bl) w2):=by
   show WoI _ _ _ _
   rw[List.map_append]
   have:=HW2.out.grown (by rw[List.length_map];exact hown') hgrow
   rw[<-HSW.out]at this
   exact this
  clear hgrow hown' HW HW2 hla hne hneb
  go_wp2
  go_roundw
  case rel=>exact⟨s.size+1,done++[acc],[],by omega,rfl,by go_num,HB.out,H2.out⟩
  case measure=>simp[intOf]
 obtain rfl:k=s.size+1:=by omega
 have HE:Hid (done=zax s.data.toList):=HT.out.ended (Nat.lt_succ_self _)
 have hno:decide (((s.size+1:Nat):Int)<=(s.size:Int))=false:=decide_eq_false (by omega)
 go_wp2
 go_ret
 exact⟨u3,rfl,by rw[<-HE.out];exact HW.out.own,HW.out.below⟩
variable {base:Nat} {w w':World}
def Rdy(base:Nat)(w:World):Prop:=∃w0,w0.heap.size=base/\zck w0/\Below w0.heap.size w0 w
theorem Rdy.ready(h:Rdy base w):zck w:=by
 obtain⟨w0,_,h1,h2⟩:=h
 exact h1.below h2
theorem Rdy.kept{S:Nat->Prop}(h:Rdy base w)(hk:zam S w w')(hS:∀k,S k->base<=k):Rdy base w':=by
 obtain⟨w0,rfl,h1,h2⟩:=h
 exact⟨w0,rfl,h1,h2.trans (hk.below hS h2.size)⟩
theorem Rdy.after(h:Rdy base w)(hb:Below w.heap.size w w'):Rdy base w':=h.kept (S:=fun _=>False) (.of_below hb) (fun _ e=>e.elim)
abbrev nlS:ByteArray:=⟨#[10]⟩
def Th.book(base B:Nat)(b:Bk):Th base:=
 ⟨fun w S=>∃dv,zb5 w base S B dv b,fun _ h hk hd=>by obtain⟨dv,h⟩:=h;exact⟨dv,h.kept hk hd⟩,fun h hT hl=>by obtain⟨dv,h⟩:=h;exact⟨dv,h.mono hT hl⟩⟩
def Th.sc(base Q:Nat)(r:Wr):Th base:=
 ⟨fun w S=>∃bv ov,zfw w base S Q bv ov r.base r.opens r.me r.seen r.next r.sent,fun _ h hk hd=>by obtain⟨bv,ov,h⟩:=h;exact⟨bv,ov,h.kept hk hd⟩,fun h hT hl=>by obtain⟨bv,ov,h⟩:=h;exact⟨bv,ov,h.mono hT hl⟩⟩
variable {k j E:Nat} {b:Bk} {x:Tst} {d:Dd} {ow:Nat->Nat} {dv:Value}
def zz4(base:Nat)(pw:Nat->Nat)(t:Twn)(k:Nat):Th base:=match t.ws k with
 |none=>Th.no base
 |some r=>Th.sc base (pw k) r
def ztb(base D G:Nat)(pw:Nat->Nat)(t:Twn)(ex:Nat->Th base)(i:Nat):Th base:=
 if i=1 then Th.book base G t.b else if i=6 then Th.tw base D G pw (zbo t)else if i<6 then zz4 base pw t (i-2)else ex (i-7)
section
variable {base D G:Nat} {pw:Nat->Nat} {t:Twn} {ex:Nat->Th base} {w w0 wk w':World} {S:Nat->Prop}
theorem zge:ztb base D G pw t ex 1=Th.book base G t.b:=rfl
theorem zrr:ztb base D G pw t ex 6=Th.tw base D G pw (zbo t):=rfl
theorem zo5(hk:k<4):ztb base D G pw t ex (2+k)=zz4 base pw t k:=by
 unfold ztb
 rw[if_neg (by omega),if_neg (by omega),if_pos (by omega),show 2+k-2=k by omega]
theorem zq0(j:Nat):ztb base D G pw t ex (7+j)=ex j:=by
 unfold ztb
 rw[if_neg (by omega),if_neg (by omega),if_neg (by omega),show 7+j-7=j by omega]
def zbu(base:Nat)(w0:World)(S:Nat->Prop)(D G:Nat)(pw:Nat->Nat)(t:Twn)(ex:Nat->Th base)(wk:World):Prop:=Hq base (ztb base D G pw t ex) w0 S wk
theorem zj1{cs:Nat->Th base}(h:Hq base cs w0 S wk)(h1:∀T,(cs 1).P wk T->(Th.book base G t.b).P wk T)(h6:∀T,(cs 6).P wk T->(Th.tw base D G pw (zbo t)).P wk T)(hw:∀k,k<4->∀T,(cs (2+k)).P wk T->(zz4 base pw t k).P wk T)(he:∀j T,(cs (7+j)).P wk T->(ex j).P wk T):zbu base w0 S D G pw t ex wk:=by
 refine h.imp fun i hi T _ hp=> ?_
 by_cases e1:i=1
 ·subst e1;exact h1 T hp
 by_cases e6:i=6
 ·subst e6;exact h6 T hp
 by_cases e:i<6
 ·obtain⟨k,rfl⟩:∃k,i=2+k:=⟨i-2,by omega⟩
  rw[zo5 (by omega)]
  exact hw k (by omega) T hp
 obtain⟨k,rfl⟩:∃k,i=7+k:=⟨i-7,by omega⟩
 rw[zq0]
 exact he k T hp
theorem zbu.after(h:zbu base w0 S D G pw t ex wk)(hb:Below wk.heap.size wk w'):zbu base w0 S D G pw t ex w':=Hq.after h hb
theorem zbu.cells(h:zbu base w0 S D G pw t ex wk):TwC wk D G pw (zbo t):=by
 obtain⟨T,h1,_⟩:=Hq.get h (i:=6) (by omega)
 rw[zrr]at h1
 exact h1.2
theorem zbu.book(h:zbu base w0 S D G pw t ex wk):∃T dv,zb5 wk base T G dv t.b/\∀b' w',zeu wk base T G b' w'->zbu base w0 S D G pw ⟨b',t.ws⟩ ex w':=by
 obtain⟨T,h1,_,h3⟩:=Hq.turn h (i:=1) (by omega)
 rw[zge]at h1
 obtain⟨dv,hl⟩:=h1
 refine⟨T,dv,hl,fun b' w' ht=>zj1 (h3 (Th.book base G b') w' ht.kept ht.at_) (fun T hp=> ?_) (fun T hp=> ?_) (fun k hk T hp=> ?_) (fun j T hp=> ?_)⟩
 ·rw[zaz]at hp;exact hp
 ·rw[za4 _ _ (by omega),zrr]at hp;exact hp
 ·rw[za4 _ _ (by omega),zo5 hk]at hp;exact hp
 rw[za4 _ _ (by omega),zq0]at hp;exact hp
theorem zs0{r':Wr}:zz4 base pw ⟨b,zai t.ws k (some r')⟩ k=Th.sc base (pw k) r':=by
 unfold zz4
 show(match zai t.ws k (some r') k with|none=>_|some r=>Th.sc base (pw k) r)=_
 rw[zag]
theorem zm1{x:Option Wr}(h:j≠k):zz4 base pw ⟨b,zai t.ws k x⟩ j=zz4 base pw t j:=by
 unfold zz4
 show(match zai t.ws k x j with|none=>_|some r=>Th.sc base (pw j) r)=_
 rw[zab _ _ (by omega)]
theorem zbu.wr(h:zbu base w0 S D G pw t ex wk){k:Nat}(hk:k<4){r:Wr}(he:t.ws k=some r):
 ∃T bv ov,zfw wk base T (pw k) bv ov r.base r.opens r.me r.seen r.next r.sent/\∀(r':Wr) w',zt9 wk base T (pw k) r'.base r'.opens r'.me r'.seen r'.next r'.sent w'->zbu base w0 S D G pw ⟨t.b,zai t.ws k (some r')⟩ ex w':=by
 obtain⟨T,h1,_,h3⟩:=Hq.turn h (i:=2+k) (by omega)
 rw[zo5 hk]at h1
 unfold zz4 at h1
 rw[he]at h1
 obtain⟨bv,ov,hl⟩:=h1
 refine⟨T,bv,ov,hl,fun r' w' ht=>zj1 (h3 (Th.sc base (pw k) r') w' ht.kept ht.at_) (fun T hp=> ?_) (fun T hp=> ?_) (fun j hj T hp=> ?_) (fun j T hp=> ?_)⟩
 ·rw[za4 _ _ (by omega),zge]at hp;exact hp
 ·rw[za4 _ _ (by omega),zrr]at hp;rw[zsu he];exact hp
 ·by_cases e:j=k
  ·subst e
   rw[zaz]at hp;rw[zs0];exact hp
  rw[za4 _ _ (by omega),zo5 hj]at hp;rw[zm1 e];exact hp
 rw[za4 _ _ (by omega),zq0]at hp;exact hp
theorem zbu.clear(h:zbu base w0 S D G pw t ex wk){k:Nat}(hk:k<4):zbu base w0 S D G pw ⟨t.b,zai t.ws k none⟩ ex (wk.setCell ⟨D,1+k,none⟩ (.pointer none)):=by
 obtain⟨T,h1,_,h3⟩:=Hq.turn h (i:=6) (by omega)
 rw[zrr]at h1
 refine zj1 (h3 (Th.tw base D G pw (clrH (zbo t) k)) _ (zam.set (zam.refl T wk) (p:=⟨D,1+k,none⟩) h1.1 _) ⟨.inl h1.1,h1.2.clear hk⟩) (fun T hp=> ?_) (fun T hp=> ?_) (fun j hj T hp=> ?_) (fun j T hp=> ?_)
 ·rw[za4 _ _ (by omega),zge]at hp;exact hp
 ·rw[zaz]at hp;rw[zzu];exact hp
 ·rw[za4 _ _ (by omega),zo5 hj]at hp
  by_cases e:j=k
  ·subst e
   unfold zz4
   show(match zai t.ws j none j with|none=>Th.no base|some r=>Th.sc base (pw j) r).P _ T
   rw[zag];trivial
  unfold zz4 at hp⊢
  show(match zai t.ws k none j with|none=>Th.no base|some r=>Th.sc base (pw j) r).P _ T
  rw[zab _ _ (by omega)];exact hp
 rw[za4 _ _ (by omega),zq0]at hp;exact hp
theorem zbu.newS(h:zbu base w0 S D G pw t ex wk)(hb:Below wk.heap.size wk w'){k:Nat}(hk:k<4){P:Nat}{v1:Value}{r:Wr}(hr:r.opens=[])(hs:r.sent=0)(hat:zfw w' wk.heap.size (fun k=>wk.heap.size<=k/\k<w'.heap.size) P v1 (.slice none 0 0) r.base [] r.me r.seen r.next 0):
 zbu base w0 S D G (zq2 pw k P) ⟨t.b,zai t.ws k (some r)⟩ ex (w'.setCell ⟨D,1+k,none⟩ (.pointer (some ⟨P,0,none⟩))):=by
 have hbl:=Hq.base_le h
 have hat':∃bv ov,zfw w' base (fun k=>wk.heap.size<=k/\k<w'.heap.size) P bv ov r.base r.opens r.me r.seen r.next r.sent:=by
  rw[hr,hs]
  exact⟨_,_,⟨fun k e=>⟨by have:=(hat.lo k e).1;omega,(hat.lo k e).2⟩,hat.hQ,hat.cells,hat.ownB.mono hbl,zzd _ _,hat.bB,hat.oB⟩⟩
 have h2:=Hq.lay h hb (i:=2+k) (by omega) (Th.sc base P r) hat'
 obtain⟨T,h1,_,h3⟩:=h2.turn (i:=6) (by omega)
 rw[za4 _ _ (by omega),zrr]at h1
 refine zj1 (h3 (Th.tw base D G (zq2 pw k P) (setH (zbo t) k)) _ (zam.set (zam.refl T w') (p:=⟨D,1+k,none⟩) h1.1 _) ⟨.inl h1.1,h1.2.put hk P⟩) (fun T hp=> ?_) (fun T hp=> ?_) (fun j hj T hp=> ?_) (fun j T hp=> ?_)
 ·rw[za4 _ _ (by omega),za4 _ _ (by omega),zge]at hp;exact hp
 ·rw[zaz]at hp;rw[zzt];exact hp
 ·by_cases e:j=k
  ·subst e
   rw[za4 _ _ (by omega),zaz]at hp
   rw[zs0]
   unfold zq2
   rw[if_pos rfl]
   exact hp
  rw[za4 _ _ (by omega),za4 _ _ (by omega),zo5 hj]at hp
  rw[zm1 e]
  unfold zz4 at hp⊢
  cases he:t.ws j with
  |none=>trivial
  |some r0=>
   rw[he]at hp
   show(Th.sc base (zq2 pw k P j) r0).P _ T
   unfold zq2
   rw[if_neg e]
   exact hp
 rw[za4 _ _ (by omega),za4 _ _ (by omega),zq0]at hp;exact hp
theorem zbu.lay(h:zbu base w0 S D G pw t ex wk)(hb:Below wk.heap.size wk w')(j:Nat)(c:Th base)(hc:c.P w' (fun k=>wk.heap.size<=k/\k<w'.heap.size)):zbu base w0 S D G pw t (zat ex j c) w':=by
 refine zj1 (Hq.lay h hb (i:=7+j) (by omega) c hc) (fun T hp=> ?_) (fun T hp=> ?_) (fun k hk T hp=> ?_) (fun i T hp=> ?_)
 ·rw[za4 _ _ (by omega),zge]at hp;exact hp
 ·rw[za4 _ _ (by omega),zrr]at hp;exact hp
 ·rw[za4 _ _ (by omega),zo5 hk]at hp;exact hp
 by_cases e:i=j
 ·subst e;rw[zaz]at hp⊢;exact hp
 rw[za4 _ _ (by omega),zq0]at hp;rw[za4 _ _ e];exact hp
theorem zbu.box(h:zbu base w0 S D G pw t ex wk)(j:Nat):∃T,(ex j).P wk T:=by
 obtain⟨T,h1,_⟩:=Hq.get h (i:=7+j) (by omega)
 rw[zq0]at h1
 exact⟨T,h1⟩
theorem zbu.step(h:zbu base w0 S D G pw t ex wk)(x:Tst)(j:Nat):zbu base w0 S D G pw t (zat ex j (Th.st base wk.heap.size x)) (wk.alloc (ziz x)):=
 h.lay (za2 _ _) j _ ⟨⟨Nat.le_refl _,by simp⟩,zhj wk x⟩
theorem zbu.deed(h:zbu base w0 S D G pw t ex wk)(d:Dd)(j:Nat):zbu base w0 S D G pw t (zat ex j (Th.dd base wk.heap.size d)) (wk.alloc (zd9 d)):=
 h.lay (za2 _ _) j _ ⟨⟨Nat.le_refl _,by simp⟩,zb4 wk d,fun o ho=>by rcases zm0 ho with rfl|rfl|rfl|rfl|rfl|rfl|rfl<;>simp[go_sem]⟩
theorem zbu.deedAt(h:zbu base w0 S D G pw t (zat ex j (Th.dd base E d)) wk):zdq wk E 0 d/\∀o,o<7->wk.frozen? ⟨E,o,none⟩=false:=by
 obtain⟨T,h1⟩:=h.box j
 rw[zaz]at h1
 exact h1.2
theorem zbu.stepAt(h:zbu base w0 S D G pw t (zat ex j (Th.st base E x)) wk):zt7 wk E 0 x:=by
 obtain⟨T,h1⟩:=h.box j
 rw[zaz]at h1
 exact h1.2
structure zke(base D G:Nat)(pw:Nat->Nat)(t:Twn)(w:World)(S:Nat->Prop):Prop where
 lo:∀k,S k->base<=k/\k<w.heap.size
 own:∃ow,HpAt base (ztb base D G pw t (fun _=>Th.no base)) ow w/\∀k,ow k≠0->S k
def zkd(base:Nat)(w:World)(S:Nat->Prop)(D G:Nat)(pw:Nat->Nat)(t:Twn)(w':World):Prop:=zke base D G pw t w' (grow S w w')/\zam S w w'
theorem zke.start(h:zke base D G pw t w S):zbu base w S D G pw t (fun _=>Th.no base) w:=by
 obtain⟨ow,h1,h2⟩:=h.own
 exact⟨ow,h1,fun k e=> .inl (h2 k e),zam.refl _ _⟩
theorem zke.base_le(h:zke base D G pw t w S):base<=w.heap.size:=by
 obtain⟨ow,h1,h2⟩:=h.own
 exact h1.bs
theorem zbu.bare(h:zbu base w0 S D G pw t ex wk):zbu base w0 S D G pw t (fun _=>Th.no base) wk:=by
 refine zj1 h (fun T hp=> ?_) (fun T hp=> ?_) (fun k hk T hp=> ?_) (fun i T hp=>trivial)
 ·rw[zge]at hp;exact hp
 ·rw[zrr]at hp;exact hp
 rw[zo5 hk]at hp;exact hp
theorem zbu.done(h:zbu base w S D G pw t ex w')(hl:base<=w.heap.size/\∀k,S k->base<=k/\k<w.heap.size):zkd base w S D G pw t w':=by
 have hk:=Hq.kept h
 have hs:=hk.size
 obtain⟨ow,h1⟩:=h.bare
 refine⟨⟨fun k e=> ?_,ow,h1.at_,h1.old⟩,hk⟩
 rcases e with e|e
 ·have:=hl.2 k e;omega
 omega
theorem zke.held(h:zke base D G pw t w S):base<=w.heap.size/\∀k,S k->base<=k/\k<w.heap.size:=⟨h.base_le,h.lo⟩
end
def Th.tn(base D G:Nat)(pw:Nat->Nat)(t:Twn):Th base:=
 ⟨fun w S=>zke base D G pw t w S,fun {w w' S T} _ h hk hd=>by
  obtain⟨ow,h1,h2⟩:=h.own
  have hs:=hk.size
  refine⟨fun k e=>⟨(h.lo k e).1,Nat.lt_of_lt_of_le (h.lo k e).2 hs⟩,ow,⟨fun k e=>⟨(h1.lo k e).1,Nat.lt_of_lt_of_le (h1.lo k e).2 hs⟩,Nat.le_trans h1.bs hs,fun i hi=> ?_⟩,h2⟩
  exact(ztb base D G pw t (fun _=>Th.no base) i).kept (fun k e=>h1.lo k (by rw[e];exact hi)) (h1.at_ i hi) hk (fun k e=>hd k (h2 k (by rw[e];exact hi))),fun {w S T} h hT hl=>by
  obtain⟨ow,h1,h2⟩:=h.own
  exact⟨hl,ow,h1,fun k e=>hT k (h2 k e)⟩⟩
theorem zbu.call{base D G:Nat}{pw:Nat->Nat}{t:Twn}{ex:Nat->Th base}{w0 wk:World}{S:Nat->Prop}(h:zbu base w0 S D G pw t ex wk):
 ∃T,zke base D G pw t wk T/\∀pw' t' w',zkd base wk T D G pw' t' w'->zbu base w0 S D G pw' t' ex w':=by
 obtain⟨ow,h⟩:=h
 have hat:=h.at_
 refine⟨fun k=>ow k≠0/\ow k<7,⟨fun k e=>hat.lo k e.1,fun k=>if ow k<7 then ow k else 0,⟨fun k e=> ?_,hat.bs,fun i hi=> ?_⟩,fun k e=> ?_⟩,fun pw' t' w' ht=> ?_⟩
 ·by_cases h7:ow k<7
  ·rw[if_pos h7]at e;exact hat.lo k e
  rw[if_neg h7]at e;exact absurd rfl e
 ·by_cases h7:i<7
  ·have h1:(ztb base D G pw t (fun _=>Th.no base) i).P wk (fun k=>ow k=i):=by
    have h2:=hat.at_ i hi
    unfold ztb at h2⊢
    by_cases e1:i=1
    ·rw[if_pos e1]at h2⊢;exact h2
    rw[if_neg e1]at h2⊢
    by_cases e6:i=6
    ·rw[if_pos e6]at h2⊢;exact h2
    rw[if_neg e6]at h2⊢
    rw[if_pos (by omega)]at h2⊢
    exact h2
   refine(ztb base D G pw t (fun _=>Th.no base) i).mono h1 (fun k e=> ?_) (fun k e=> ?_)
   ·rw[if_pos (by omega)];exact e
   by_cases h7:ow k<7
   ·rw[if_pos h7]at e;exact hat.lo k (by omega)
   rw[if_neg h7]at e;omega
  obtain⟨j,rfl⟩:∃j,i=7+j:=⟨i-7,by omega⟩
  rw[zq0]
  trivial
 ·have e:(if ow k<7 then ow k else 0)≠0:=e
  by_cases h7:ow k<7
  ·rw[if_pos h7]at e;exact⟨e,h7⟩
  rw[if_neg h7]at e;exact absurd rfl e
 obtain⟨hd,hk⟩:=ht
 obtain⟨ow2,h2,h3⟩:=hd.own
 have hs:=hk.size
 have hs0:=h.kept.size
 have ap:∀k,7<=ow k->ow2 k=0:=fun k e=>by
  by_cases hz:ow2 k=0
  ·exact hz
  have hlt:=(hat.lo k (by omega)).2
  rcases h3 k hz with x|x
  ·omega
  omega
 have hlo:∀k,(if 7<=ow k then ow k else if ow2 k<7 then ow2 k else 0)≠0->base<=k/\k<w'.heap.size:=fun k e=>by
  by_cases h7:7<=ow k
  ·have:=hat.lo k (by omega);omega
  rw[if_neg h7]at e
  by_cases h8:ow2 k<7
  ·rw[if_pos h8]at e;exact h2.lo k e
  rw[if_neg h8]at e;exact absurd rfl e
 refine⟨fun k=>if 7<=ow k then ow k else if ow2 k<7 then ow2 k else 0,⟨hlo,h2.bs,fun i hi=> ?_⟩,fun k e=> ?_,h.kept.trans (hk.wider (fun k e=>h.old k e.1))⟩
 ·by_cases h7:i<7
  ·have h1:(ztb base D G pw' t' ex i).P w' (fun k=>ow2 k=i):=by
    have h4:=h2.at_ i hi
    unfold ztb at h4⊢
    by_cases e1:i=1
    ·rw[if_pos e1]at h4⊢;exact h4
    rw[if_neg e1]at h4⊢
    by_cases e6:i=6
    ·rw[if_pos e6]at h4⊢;exact h4
    rw[if_neg e6]at h4⊢
    rw[if_pos (by omega)]at h4⊢
    exact h4
   refine(ztb base D G pw' t' ex i).mono h1 (fun k e=> ?_) (fun k e=>hlo k (by rw[e];exact hi))
   have:¬7<=ow k:=fun x=>by have:=ap k x;omega
   rw[if_neg this,if_pos (by omega)];exact e
  obtain⟨j,rfl⟩:∃j,i=7+j:=⟨i-7,by omega⟩
  have h4:=hat.at_ (7+j) hi
  rw[zq0]at h4⊢
  have h5:=(ex j).kept (fun k e=>hat.lo k (by omega)) h4 hk (fun k e x=>by omega)
  refine(ex j).mono h5 (fun k e=> ?_) (fun k e=>hlo k (by omega))
  rw[if_pos (by omega)];exact e
 by_cases h7:7<=ow k
 ·rcases h.old k (by omega)with x|x
  ·exact .inl x
  exact .inr ⟨x.1,by omega⟩
 rw[if_neg h7]at e
 have hz:ow2 k≠0:=fun x=>by rw[x]at e;exact e rfl
 rcases h3 k hz with x|x
 ·rcases h.old k x.1 with y|y
  ·exact .inl y
  exact .inr ⟨y.1,by omega⟩
 exact .inr ⟨by omega,x.2⟩
section
variable {base D G:Nat} {pw:Nat->Nat} {t:Twn} {ex:Nat->Th base} {w w0 wk w':World} {S:Nat->Prop}
theorem zbu.ne(h:zbu base w0 S D G pw t ex wk):D≠G:=by
 obtain⟨ow,h⟩:=h
 have h1:=h.at_.at_ 1 (by omega)
 have h6:=h.at_.at_ 6 (by omega)
 rw[zge]at h1
 rw[zrr]at h6
 obtain⟨dv,hb⟩:=h1
 have e1:ow G=1:=hb.hB
 have e6:ow D=6:=h6.1
 intro e
 rw[e,e1]at e6
 omega
theorem zbu.stepAt1{F:Nat}(h:zbu base w0 S D G pw t (zat (zat ex 0 (Th.st base E x)) 1 (Th.dd base F d)) wk):zt7 wk E 0 x:=by
 obtain⟨T,h1⟩:=h.box 0
 rw[za4 _ _ (by omega),zaz]at h1
 exact h1.2
def zqf(base:Nat)(w0:World)(S:Nat->Prop)(D G:Nat)(pw:Nat->Nat)(t:Twn)(ex:Nat->Th base)(ow:Nat->Nat)(dv:Value)(wk:World):Prop:=HqAt base (ztb base D G pw t ex) w0 S ow wk/\zb5 wk base (fun k=>ow k=1) G dv t.b
theorem zbu.owned(h:zbu base w0 S D G pw t ex wk):∃ow dv,zqf base w0 S D G pw t ex ow dv wk:=by
 obtain⟨ow,h⟩:=h
 have h1:=h.at_.at_ 1 (by omega)
 rw[zge]at h1
 obtain⟨dv,hb⟩:=h1
 exact⟨ow,dv,h,hb⟩
theorem zqf.tn(h:zqf base w0 S D G pw t ex ow dv wk):zbu base w0 S D G pw t ex wk:=⟨ow,h.1⟩
theorem zqf.after{ow:Nat->Nat}{dv:Value}(h:zqf base w0 S D G pw t ex ow dv wk)(hb:Below wk.heap.size wk w'):zqf base w0 S D G pw t ex ow dv w':=by
 have hs:=hb.size
 have h0:=h.1
 refine⟨⟨⟨fun k e=>⟨(h0.at_.lo k e).1,Nat.lt_of_lt_of_le (h0.at_.lo k e).2 hs⟩,Nat.le_trans h0.at_.bs hs,fun i hi=> ?_⟩,fun k e=> ?_,h0.kept.after hb⟩,h.2.below hb⟩
 ·exact(ztb base D G pw t ex i).kept (fun k e=>h0.at_.lo k (by rw[e];exact hi)) (h0.at_.at_ i hi) (zam.of_below (S:=fun _=>False) hb) (fun _ _ e=>e)
 rcases h0.old k e with x|x
 ·exact .inl x
 exact .inr ⟨x.1,by omega⟩
theorem zqf.wr(h:zqf base w0 S D G pw t ex ow dv wk){k:Nat}(hk:k<4){r:Wr}(he:t.ws k=some r):
 ∃bv ov,zfw wk base (fun j=>ow j=2+k) (pw k) bv ov r.base r.opens r.me r.seen r.next r.sent/\∀(r':Wr) w',zt9 wk base (fun j=>ow j=2+k) (pw k) r'.base r'.opens r'.me r'.seen r'.next r'.sent w'->zbu base w0 S D G pw ⟨t.b,zai t.ws k (some r')⟩ ex w'/\zb5 w' base (fun j=>ow j=1) G dv t.b:=by
 have h1:=h.1.at_.at_ (2+k) (by omega)
 rw[zo5 hk]at h1
 unfold zz4 at h1
 rw[he]at h1
 obtain⟨bv,ov,hl⟩:=h1
 refine⟨bv,ov,hl,fun r' w' ht=>⟨?_,h.2.kept ht.kept (fun j e1 e2=>by omega)⟩⟩
 have h2:HqAt base (zat (ztb base D G pw t ex) (2+k) (Th.sc base (pw k) r')) w0 S (zsg ow (2+k) wk w') w':=by
  have hs:=ht.kept.size
  have hs0:=h.1.kept.size
  refine⟨h.1.at_.turn (by omega) ht.kept ht.at_,fun j e=> ?_,h.1.kept.trans (ht.kept.wider (fun j e=>h.1.old j (by rw[e];omega)))⟩
  unfold zsg at e
  by_cases h1:j<wk.heap.size
  ·rw[if_pos h1]at e
   rcases h.1.old j e with x|x
   ·exact .inl x
   exact .inr ⟨x.1,by omega⟩
  rw[if_neg h1]at e
  by_cases h2:j<w'.heap.size
  ·exact .inr ⟨by omega,h2⟩
  rw[if_neg h2]at e;exact absurd rfl e
 refine zj1 ⟨_,h2⟩ (fun T hp=> ?_) (fun T hp=> ?_) (fun j hj T hp=> ?_) (fun j T hp=> ?_)
 ·rw[za4 _ _ (by omega),zge]at hp;exact hp
 ·rw[za4 _ _ (by omega),zrr]at hp;rw[zsu he];exact hp
 ·by_cases e:j=k
  ·subst e
   rw[zaz]at hp;rw[zs0];exact hp
  rw[za4 _ _ (by omega),zo5 hj]at hp;rw[zm1 e];exact hp
 rw[za4 _ _ (by omega),zq0]at hp;exact hp
end
end Go.Proofs.YtcbnnfeelhlapadGreatDoor