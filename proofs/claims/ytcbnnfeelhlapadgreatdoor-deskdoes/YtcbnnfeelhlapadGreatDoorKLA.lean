/-
  KMath, KLM, KLA.
-/
import Derived.Lib.Join
import Derived.Lib.TrimByte
import Derived.Lib.IndexMore
import Derived.Lib.IndexBytes
import Derived.Lib.Builder
import Derived.Lib.UnsafeStr
import Derived.Lib.AppendStr
import Derived.Test.YtcbnnfeelhlapadGreatDoorKRI
namespace Go.Proofs.YtcbnnfeelhlapadGreatDoor
set_option maxRecDepth 20000
set_option maxHeartbeats 3200000
open Go.RowKit
theorem zw0(r:List UInt8):zax (32::r)=zax r:=by
 unfold zax
 rw[zb6,if_pos rfl,if_pos rfl]
theorem zlv:∀s:List UInt8,zax (Lib.trimLeftB s 32)=zax s
 |[]=>rfl
 |b::r=>by
  unfold Lib.trimLeftB
  rw[List.dropWhile_cons]
  by_cases hb:b=32
  ·subst hb
   rw[if_pos (by rfl),zw0]
   exact zlv r
  rw[if_neg (by simpa using hb)]
theorem zo6:∀s:List UInt8,Lib.trimLeftB s 32=[]\/∃b r,Lib.trimLeftB s 32=b::r/\b≠32
 |[]=> .inl rfl
 |b::r=>by
  unfold Lib.trimLeftB
  rw[List.dropWhile_cons]
  by_cases hb:b=32
  ·rw[if_pos (by simpa using hb)]
   exact zo6 r
  rw[if_neg (by simpa using hb)]
  exact .inr ⟨b,r,rfl,hb⟩
theorem zrs:∀s:List UInt8,(Lib.trimLeftB s 32).length<=s.length
 |[]=>Nat.le_refl _
 |b::r=>by
  unfold Lib.trimLeftB
  rw[List.dropWhile_cons]
  have:=zrs r
  unfold Lib.trimLeftB at this
  split
  ·simp;omega
  exact Nat.le_refl _
theorem zk8:∀(s acc:List UInt8),zg3 s=none->acc++s≠[]->zb6 acc s=[acc++s]
 |[],acc,_,h=>by
  rw[List.append_nil]at h⊢
  rw[zb6,if_neg h]
 |b::r,acc,hc,h=>by
  have hb:b≠32:=zph hc b (by simp)
  have hc':zg3 r=none:=zpi (fun c hc2=>zph hc c (by simp[hc2]))
  rw[zb6,if_neg hb,zk8 r (acc++[b]) hc' (by simp)]
  simp
theorem zk7:∀(s acc x y:List UInt8),zg3 s=some (x,y)->acc++x≠[]->zb6 acc s=(acc++x)::zax y
 |[],_,_,_,h,_=>by cases h
 |b::r,acc,x,y,hc,h=>by
  rw[zg3]at hc
  by_cases hb:b=32
  ·rw[if_pos hb]at hc
   obtain⟨rfl,rfl⟩:=Prod.mk.inj (Option.some.inj hc)
   rw[List.append_nil]at h⊢
   rw[zb6,if_pos hb,if_neg h]
   rfl
  rw[if_neg hb]at hc
  cases hr:zg3 r with
  |none=>rw[hr]at hc;cases hc
  |some p=>
   rw[hr]at hc
   obtain⟨rfl,rfl⟩:=Prod.mk.inj (Option.some.inj hc)
   rw[zb6,if_neg hb,zk7 r (acc++[b]) p.1 p.2 hr (by simp)]
   simp
theorem qgf(s:List UInt8):Lib.cut s [32]=match zg3 s with|some p=>(p.1,p.2,true)|none=>(s,[],false):=by
 unfold Lib.cut
 rcases zp7 s with⟨h1,h2⟩|⟨x,y,h1,h2⟩
 ·rw[h1,h2,if_neg (by decide)]
 have hj:=zes h1
 rw[h1,h2,if_pos (by omega)]
 have e1:s.take (x.length:Int).toNat=x:=by rw[hj];simp
 have e2:s.drop ((x.length:Int).toNat+[(32:UInt8)].length)=y:=by rw[hj];simp
 rw[e1,e2]
structure LwI(L:List UInt8)(done:List (List UInt8))(rest:List UInt8):Prop where
 go:done++zax rest=zax L
 hd:rest=[]\/∃b r,rest=b::r/\b≠32
 ld:done.length<=5
 lr:rest.length<=L.length
theorem qex(L:List UInt8):LwI L [] (Lib.trimLeftB L 32):=⟨zlv L,zo6 L,Nat.zero_le _,zrs L⟩
theorem LwI.next{L:List UInt8}{done:List (List UInt8)}{rest:List UInt8}(h:LwI L done rest)(hr:rest≠[])(hd:done.length<=4):
 LwI L (done++[(Lib.cut rest [32]).1]) (Lib.trimLeftB (Lib.cut rest [32]).2.1 32)/\(Lib.trimLeftB (Lib.cut rest [32]).2.1 32).length<rest.length/\(Lib.cut rest [32]).2.1.length<=rest.length/\(Lib.cut rest [32]).1.length<=rest.length:=by
 obtain⟨b,r,rfl,hb⟩:=h.hd.resolve_left hr
 have hgo:=h.go
 have hlr:=h.lr
 rw[qgf]
 cases hc:zg3 (b::r)with
 |none=>
  have hw:zax (b::r)=[b::r]:=zk8 _ [] hc (by simp)
  refine⟨⟨?_,.inl rfl,by simp;omega,by simp[Lib.trimLeftB]⟩,by simp[Lib.trimLeftB],by simp,by simp⟩
  rw[hw]at hgo
  show(done++[b::r])++zax []=_
  rw[<-hgo]
  simp[zax,zb6]
 |some p=>
  have hx:p.1≠[]:=fun e=>by
   have:=zes (x:=p.1) (y:=p.2) hc
   rw[e]at this
   exact hb (List.cons.inj this).1
  have hw:zax (b::r)=p.1::zax p.2:=zk7 _ [] p.1 p.2 hc (by simpa using hx)
  have hl:p.1.length+p.2.length+1=(b::r).length:=by
   have:=congrArg List.length (zes (x:=p.1) (y:=p.2) hc)
   simp only[List.length_append,List.length_cons]at this⊢
   omega
  have ht:=zrs p.2
  refine⟨⟨?_,zo6 _,by simp;omega,?_⟩,?_,?_,?_⟩
  ·rw[hw]at hgo
   show(done++[p.1])++zax (Lib.trimLeftB p.2 32)=_
   rw[zlv,List.append_assoc]
   exact hgo
  ·show(Lib.trimLeftB p.2 32).length<=_;omega
  ·show(Lib.trimLeftB p.2 32).length<_;omega
  ·show p.2.length<=_;omega
  show p.1.length<=_;omega
theorem LwI.ended{L:List UInt8}{done:List (List UInt8)}{rest:List UInt8}(h:LwI L done rest)(he:rest=[]\/4<done.length):done=(zax L).take 5:=by
 have hld:=h.ld
 rcases he with rfl|he
 ·have:=h.go
  rw[show zax []=[] from rfl,List.append_nil]at this
  rw[<-this,List.take_of_length_le hld]
 rw[<-h.go,List.take_append_of_le_length (by omega),List.take_of_length_le hld]
theorem zl1:∀(s acc:List UInt8),∀x∈zb6 acc s,x.length<=acc.length+s.length
 |[],acc,x,h=>by
  rw[zb6]at h
  split at h
  ·cases h
  rw[List.mem_singleton]at h;rw[h];simp
 |b::r,acc,x,h=>by
  rw[zb6]at h
  split at h
  ·split at h
   ·have:=zl1 r [] x h;simp at this⊢;omega
   rcases List.mem_cons.1 h with rfl|h
   ·simp
   have:=zl1 r [] x h;simp at this⊢;omega
  have:=zl1 r (acc++[b]) x h;simp at this⊢;omega
theorem zvm(t:Twn)(k:List UInt8){n:List Int}(h0:n.length≠0)(h1:n.length≠1)(h3:n.length≠3):zcj t k n=(zg6,t):=by
 unfold zcj
 rw[if_neg (fun e=>h3 e.2),if_neg (fun e=>h1 e.2),if_neg (fun e=>h1 e.2),if_neg (fun e=>h1 e.2),if_neg (fun e=>h1 e.2),if_neg (fun e=>h1 e.2),if_neg (fun e=>h1 e.2),if_neg (fun e=>h0 e.2),if_neg (fun e=>h1 e.2),if_neg (fun e=>h0 e.2),if_neg (fun e=>h1 e.2),if_neg (fun e=>h0 e.2),if_neg (fun e=>h0 e.2)]
theorem zo3(t:Twn)(k:List UInt8)(r:List (List UInt8))(h:4<=r.length):zg1 t (k::r)=(zg6,t):=by
 rw[zg1]
 cases hr:zbw (r.map bl)with
 |none=>rfl
 |some n=>
  have:=zhn _ _ hr
  rw[List.length_map]at this
  exact zvm t k (by omega) (by omega) (by omega)
theorem zw2(t:Twn):∀l:List (List UInt8),zg1 t (l.take 5)=zg1 t l
 |[]=>rfl
 |k::r=>by
  rw[List.take_succ_cons]
  by_cases h:r.length<=4
  ·rw[List.take_of_length_le h]
  rw[zo3 t k r (by omega),zo3 t k (r.take 4) (by rw[List.length_take];omega)]
def zkl(l:List (List UInt8)):Option (Int×Int×List UInt8):=match l with
 |[a,b,c,text]=>if a=[112,117,116]then(match zbw [bl b,bl c]with|some [w,at_]=>some (w,at_,text)|_=>none)else none
 |_=>none
theorem zox(x y:ByteArray):zbw [x,y]=match zfo x with|none=>none|some a=>(match zfo y with|none=>none|some b=>some [a,b]):=by
 cases h1:zfo x with
 |none=>simp[zbw,h1]
 |some a=>
  cases h2:zfo y with
  |none=>simp[zbw,h1,h2]
  |some b=>simp[zbw,h1,h2]
theorem zoy(s:List UInt8):zew s=zkl (zn5 3 s):=by
 unfold zew
 simp only[zn5]
 cases h1:zg3 s with
 |none=>rfl
 |some p=>
  obtain⟨a,rest⟩:=p
  dsimp only
  cases h2:zg3 rest with
  |none=>
   dsimp only
   split<;>rfl
  |some q=>
   obtain⟨b,more⟩:=q
   dsimp only
   cases h3:zg3 more with
   |none=>
    dsimp only
    split<;>rfl
   |some z=>
    obtain⟨c,text⟩:=z
    dsimp only[zkl]
    rw[zox]
    by_cases ha:a=[112,117,116]
    ·rw[if_pos ha,if_pos ha]
     cases zfo (bl b)with
     |none=>rfl
     |some w=>
      cases zfo (bl c)with
      |none=>rfl
      |some at_=>rfl
    rw[if_neg ha,if_neg ha]
def zg2(s:ByteArray):List ByteArray:=Lib.splitB spS 0 (min 4 (s.size+1)-1) s
theorem qbp(s:ByteArray):zg2 s=(zn5 3 s.data.toList).map bl:=by
 have h:=Lib.splitB_data spS 0 (min 4 (s.size+1)-1) s
 have e:zn5 (min 4 (s.size+1)-1) s.data.toList=zn5 3 s.data.toList:=by
  by_cases h5:3<=s.size
  ·rw[show min 4 (s.size+1)-1=3 by omega]
  have:=zvj s.size (3-s.size) s.data.toList (by rw[zav];exact Nat.le_refl _)
  rw[show s.size+(3-s.size)=3 by omega]at this
  rw[show min 4 (s.size+1)-1=s.size by omega,this]
 rw[show spS.data.toList=[32] from rfl,zqs,e]at h
 have h2:(zg2 s).map (fun x=>bl x.data.toList)=(zn5 3 s.data.toList).map bl:=by
  rw[<-h,List.map_map];rfl
 rw[<-h2]
 have h3:(zg2 s).map (fun x=>bl x.data.toList)=(zg2 s).map id:=List.map_congr_left (fun x _=>zjk x)
 rw[h3,List.map_id]
def jnB(ws:List (List UInt8)):List UInt8:=Lib.join ws [32]
theorem ztq:∀zs:List Int,Lib.joinTail [32] (zs.map Lib.itoa)=zdz zs
 |[]=>rfl
 |z::zs=>by
  have:=ztq zs
  unfold Lib.joinTail at this⊢
  rw[List.map_cons,List.map_cons,List.flatten_cons,this,zdz]
  simp
theorem qfe(w:List UInt8)(zs:List Int):jnB (w::zs.map Lib.itoa)=w++zdz zs:=by
 unfold jnB
 rw[Lib.join_cons,ztq]
theorem znr(a b:List UInt8):jnB [a,b]=a++32::b:=by
 unfold jnB
 rw[Lib.join_cons]
 simp[Lib.joinTail]
theorem zoc(l:List Int):zfj l=jnB [[116,101,120,116],zkb l]++[10]:=by
 rw[znr,zfj]
 simp
theorem no_join(c:Int):noW c=([110,111]++zdz [c])++[10]:=by
 simp[noW,zdz]
theorem zx5(a b:Int):ze0 a b=([108,101,97,115,116]++zdz [a,b])++[10]:=by
 simp[ze0,zdz]
theorem by_join(zs:List Int):byW zs=([98,121]++zdz zs)++[10]:=by
 rw[byW,List.append_assoc]
theorem zxj(s:List UInt8):decide (0<=Lib.indexByte s 10)=zhb s:=by
 induction s with
 |nil=>rfl
 |cons b r ih=>
  rw[Lib.indexByte,zhb,List.any_cons]
  by_cases hb:b=10
  ·subst hb;rfl
  have h1:(b==10)=false:=beq_eq_false_iff_ne.2 hb
  rw[h1,Bool.false_or]
  have h2:∀l:List UInt8,-1<=Lib.indexByte l 10:=by
   intro l
   induction l with
   |nil=>decide
   |cons c l ih2=>rw[Lib.indexByte];split;omega;split;omega;omega
  have h3:=h2 r
  rw[zhb]at ih
  rw[<-ih]
  simp only[Bool.false_eq_true,↓reduceIte]
  by_cases h4:Lib.indexByte r 10= -1
  ·rw[h4];rfl
  have:(Lib.indexByte r 10== -1)=false:=beq_eq_false_iff_ne.2 h4
  rw[this]
  simp only[Bool.false_eq_true,↓reduceIte]
  congr 1
  apply propext
  omega
theorem zsw:∀(l:List (List UInt8)) (i k:Nat) (h:k<l.length),(∀(j:Nat) (hj:j<k),zhb (l[j]'(by omega))=false)->zhb l[k]=true->zbr i l=(11,((i+k:Nat):Int))
 |s::r,i,0,_,_,h=>by
  rw[zbr,if_pos (by simpa using h)]
  rfl
 |s::r,i,k+1,hk,hb,h=>by
  have h0:=hb 0 (by omega)
  rw[zbr,if_neg (by simp at h0;simp[h0]),zsw r (i+1) k (by simpa using hk) (fun j hj=>by have:=hb (j+1) (by omega);simpa using this) (by simpa using h)]
  congr 2
  omega
theorem zmh:∀(l:List (List UInt8)) (i:Nat),(∀s∈l,zhb s=false)->zbr i l=(0,0)
 |[],_,_=>rfl
 |s::r,i,h=>by
  rw[zbr,if_neg (by simp[h s (by simp)]),zmh r (i+1) (fun x hx=>h x (by simp[hx]))]
variable {w:World} {base R D:Nat} {S:Nat->Prop} {told:List UInt8} {p v:Value}
structure zpv(w:World)(base:Nat)(S:Nat->Prop)(R D:Nat)(told:List UInt8):Prop where
 hR:S R
 own:∃p v,(p= .pointer none\/p= .pointer (some ⟨R,0,none⟩))/\w.heap[R]? =some (.cells #[p,v,.pointer (some ⟨D,0,none⟩)] 46 (0,0))/\w.ownsRow base 5 1 v told.length (Lib.byteCells told)/\(∀k,v.ownBlock=some k->S k/\k≠R)/\(told=[]->v= .slice none 0 0)
theorem zie{b:Nat}{o:Obj}(h:w.heap[b]? =some o):b<w.heap.size:=by
 rcases Nat.lt_or_ge b w.heap.size with h'|h'
 ·exact h'
 rw[Array.getElem?_eq_none h']at h;cases h
def Th.lk(base R D:Nat)(told:List UInt8):Th base:=
 ⟨fun w S=>zpv w base S R D told,fun hl h hk hd=>by
  obtain⟨hR,p,v,hp,hb,ho,hv,hn⟩:=h
  have hbl:∀k,_->_:=fun k hs=>hk.block k (hl k hs).2 (hd k hs)
  exact⟨hR,p,v,hp,by rw[hbl R hR];exact hb,za5 ho (fun k e=>hbl k (hv k e).1),hv,hn⟩,fun h hT _=>by
  obtain⟨hR,p,v,hp,hb,ho,hv,hn⟩:=h
  exact⟨hT R hR,p,v,hp,hb,ho,fun k e=>⟨hT k (hv k e).1,(hv k e).2⟩,hn⟩⟩
theorem zpv.block(h:zpv w base S R D told):w.cell? ⟨R,2,none⟩=some (.pointer (some ⟨D,0,none⟩))/\R<w.heap.size:=by
 obtain⟨_,p,v,_,hb,_⟩:=h
 exact⟨by rw[Lib.cell_of_heap hb];rfl,zie hb⟩
theorem infoB:(Tryz.prog.info? 5).map (fun i=>(i.zero,i.size,i.bytes))=some (some (.int .u8 0),1,1):=by kernel_rfl
theorem sizeBd:(Tryz.prog.info? 44).map (·.size)=some 2:=by kernel_rfl
theorem liesBd:liesAt Tryz.prog Tryz.prog.depth 46 (3 / Tryz.prog.cellsOf 46) 0 44 1=true:=by kernel_rfl
theorem znq{cs:Array Value}{T:TypeId}(hb:w.heap[R]? =some (.cells cs T (0,0)))(j:Nat)(v:Value):(w.setCell ⟨R,j,none⟩ v).heap[R]? =some (.cells (cs.setIfInBounds j v) T (0,0)):=by
 simp[World.setCell,Array.getElem?_modify,hb]
def ccW(p:Value)(R:Nat)(w:World):World:=match p with
 | .pointer none=>w.setCell ⟨R,0,none⟩ (.pointer (some ⟨R,0,none⟩))
 |_=>w
theorem qa0(hp:p= .pointer none\/p= .pointer (some ⟨R,0,none⟩))(hb:w.heap[R]? =some (.cells #[p,v,.pointer (some ⟨D,0,none⟩)] 46 (0,0))):
 (ccW p R w).heap[R]? =some (.cells #[.pointer (some ⟨R,0,none⟩),v,.pointer (some ⟨D,0,none⟩)] 46 (0,0)):=by
 rcases hp with rfl|rfl
 ·show(w.setCell ⟨R,0,none⟩ (.pointer (some ⟨R,0,none⟩))).heap[R]? =_
  rw[znq hb];rfl
 exact hb
theorem qgm(w:World)(R:Nat)(p:Value):zam (fun k=>k=R) w (ccW p R w):=by
 unfold ccW
 split
 ·exact(zam.refl (fun k=>k=R) w).set (p:=⟨R,0,none⟩) rfl _
 exact zam.refl _ _
theorem qgl(w:World)(R:Nat)(p:Value):(ccW p R w).heap.size=w.heap.size:=by
 unfold ccW
 split
 ·simp[World.setCell]
 rfl
theorem zn7(hp:p= .pointer none\/p= .pointer (some ⟨R,0,none⟩))(hb:w.heap[R]? =some (.cells #[p,v,.pointer (some ⟨D,0,none⟩)] 46 (0,0))):
 Calls Tryz.prog 124 #[.pointer (some ⟨R,0,none⟩)] w fun e w'=>e= .returned (.tuple #[])/\w'=ccW p R w:=by
 obtain⟨j,hj,hjs⟩:=Option.map_eq_some_iff.1 sizeBd
 have hlt:=zie hb
 have c0:w.cell? ⟨R,0,none⟩=some p:=by rw[Lib.cell_of_heap hb];rfl
 have f0:=Lib.frozen_of_heap hb 0
 have hsh:w.shape? R=some (46,3):=by simp[World.shape?,hb]
 rcases hp with rfl|rfl
 ·have HW:Hid (ccW (.pointer none) R w=w.setCell ⟨R,0,none⟩ (.pointer (some ⟨R,0,none⟩))):=rfl
  clear hb
  go_enter Tryz.func124,Tryz.ntmps124
  go_wp2
  rw[Lib.run_to_unsafe w ⟨R,0,none⟩ Tryz.underlying41 Tryz.underlying201 hj (by rw[hjs];decide) hsh (Nat.zero_lt_succ 2)]
  simp only[Result.andThen]
  rw[Oper.upon_value]
  go_wp2
  rw[run_callFunc_extern Tryz.func171 (by kernel_rfl) (by kernel_rfl) (by kernel_rfl) (e:=Extern.AbiNoEscape.same) (by kernel_rfl)]
  rw[Lib.run_noEscape]
  simp only[Result.andThen]
  rw[Oper.upon_value]
  go_wp2
  rw[Lib.run_from_unsafe w ⟨R,0,none⟩ Tryz.underlying201 Tryz.underlying41 hj hsh liesBd]
  simp only[Result.andThen]
  rw[Oper.upon_value]
  go_wp2
  go_end0
  exact⟨rfl,HW.out.symm⟩
 have HW:Hid (ccW (.pointer (some ⟨R,0,none⟩)) R w=w):=rfl
 clear hb hsh
 go_enter Tryz.func124,Tryz.ntmps124
 go_wp2
 rw[Lib.run_neq_ptr_same w _ Tryz.underlying41 hj]
 go_wp2
 go_end0
 exact⟨rfl,HW.out.symm⟩
def zfs(w:World)(base:Nat)(S:Nat->Prop)(R D:Nat)(told:List UInt8)(w':World):Prop:=zpv w' base (grow S w w') R D told/\zam S w w'
theorem zlo(a b:List UInt8):Lib.byteCells a++Lib.byteCells b=Lib.byteCells (a++b):=by
 unfold Lib.byteCells
 rw[List.map_append]
theorem ccW_lk(hR:S R)(ho:w.ownsRow base 5 1 v told.length (Lib.byteCells told))(hv:∀k,v.ownBlock=some k->S k/\k≠R):
 (ccW p R w).ownsRow base 5 1 v told.length (Lib.byteCells told)/\zam S w (ccW p R w):=
 ⟨za5 ho (fun k e=>(qgm w R p).block k (World.ownsRow.lt ho k e).2 (hv k e).2),(qgm w R p).wider (fun k e=>by rw[e];exact hR)⟩
theorem lk_put{w1 w2:World}{v':Value}{t2:List UInt8}(hR:S R)(hk1:zam S w w1)(hsz:w.heap.size<=w1.heap.size)(hv:∀k,v.ownBlock=some k->S k/\k≠R)
 (hb:w1.heap[R]? =some (.cells #[.pointer (some ⟨R,0,none⟩),v,.pointer (some ⟨D,0,none⟩)] 46 (0,0))) (ho2:w2.ownsRow base 5 1 v' t2.length (Lib.byteCells t2)) (hg:w1.grownBy w2 v.ownBlock) (hv2:∀k,v'.ownBlock=some k->v.ownBlock=some k\/w1.heap.size<=k) (hn2:t2=[]->v'= .slice none 0 0):
 w2.heap[R]? =some (.cells #[.pointer (some ⟨R,0,none⟩),v,.pointer (some ⟨D,0,none⟩)] 46 (0,0))/\zfs w base S R D t2 (w2.setCell ⟨R,1,none⟩ v'):=by
 have hRl:=zie hb
 have hb2:w2.heap[R]? =some (.cells #[.pointer (some ⟨R,0,none⟩),v,.pointer (some ⟨D,0,none⟩)] 46 (0,0)):=by
  rw[hg.block R hRl (fun e=>(hv R e.symm).2 rfl)];exact hb
 have hk2:zam S w w2:=hk1.grown hg (fun k e=> .inl (hv k e).1)
 have hgs:=hg.size
 have hne:∀k,v'.ownBlock=some k->k≠R:=fun k e e'=>by
  rcases hv2 k e with x|x
  ·exact(hv k x).2 e'
  omega
 refine⟨hb2,⟨.inl hR,.pointer (some ⟨R,0,none⟩),v',.inr rfl,?_,?_,fun k e=>⟨?_,hne k e⟩,hn2⟩,hk2.set (p:=⟨R,1,none⟩) hR _⟩
 ·rw[znq hb2];rfl
 ·exact za5 ho2 (fun k e=>Below.heap_setCell w2 ⟨R,1,none⟩ v' k (hne k e))
 have hlt:=(World.ownsRow.lt ho2 k e).2
 rcases hv2 k e with x|x
 ·exact .inl (hv k x).1
 exact .inr ⟨by omega,by simpa [World.setCell]using hlt⟩
theorem qc8{P:Program}(w:World)(base:Nat)(t u ty e:TypeId)(i:TypeInfo)(ht:P.underlying t=some (.slice e))(hu:P.underlying u=some .string)(hi:P.info? e=some i)(hz:i.zero=some (.int .u8 0))(hsize:i.size=1)(hby:i.bytes=1)
 (v:Value) (n:Nat) (xs:List Value) (hown:w.ownsRow base e 1 v n xs) (s:ByteArray) (h63:n+s.size<=maxLen) (hbytes:n+s.size<=140737488355328) (hbase:base<=w.heap.size):
 ∃v' w',(Builtin.append_ #[t,u] ty #[v,.string s]).run P w= .ok v' w'/\w'.ownsRow base e 1 v' (n+s.size) (xs++Lib.strCells s)/\w.grownBy w' v.ownBlock/\(∀k,v'.ownBlock=some k->v.ownBlock=some k\/w.heap.size<=k)/\(v= .slice none 0 0->s.size=0->v'= .slice none 0 0):=by
 obtain⟨v',w',hr,h2,h3,h4⟩:=Lib.run_append_own_string (P:=P) w base t u ty e i ht hu hi hz hsize hby v n xs hown s h63 hbytes hbase
 refine⟨v',w',hr,h2,h3,fun k hk=> ?_,fun e1 e2=>h4.2 ⟨e1,e2⟩⟩
 have hsmall:n+s.size<=9223372036854775807:=by simp only[maxLen]at h63;omega
 have hxl:xs.length=n:=by simpa using hown.1
 rcases hown.2 with⟨rfl,rfl⟩|⟨g,cap,cur,rfl,hbg,hg,hnc,hcm,hcs,htake⟩
 ·by_cases hm:s.size=0
  ·rw[h4.2 ⟨rfl,hm⟩]at hk
   cases hk
  have hr2:=run_append_nil_string (P:=P) w t u ty e i (.int .u8 0) ht hu hi hz s (by omega) (by omega) (by rw[hby];omega)
  rw[hr]at hr2
  obtain⟨rfl,_⟩:=Result.ok.inj hr2
  obtain rfl:w.heap.size=k:=by simpa [Value.ownBlock]using hk
  exact .inr (Nat.le_refl _)
 by_cases hroom:n+s.size<=cap
 ·have hcs':cur.size=cap:=by simpa using hcs
  have hr2:=Lib.run_append_room_string (P:=P) w t u ty e i ht hu hi hsize g n cap cur hg s hroom (by omega)
  rw[hr]at hr2
  obtain⟨rfl,_⟩:=Result.ok.inj hr2
  obtain rfl:g=k:=by simpa [Value.ownBlock]using hk
  exact .inl rfl
 have holds:∀j u,xs[j]? =some u->w.cell? ((⟨g,0,none⟩:Addr).add j)=some u:=hown.cells (g:=g) rfl
 have hr2:=Lib.run_append_grow_string (P:=P) w t u ty e i (.int .u8 0) ht hu hi hz ⟨g,0,none⟩ n cap xs (by rw[hsize];simpa using hxl) holds s (by omega) (by omega) (by rw[hby];exact growslice_fits (by omega) (by omega))
 rw[hr]at hr2
 obtain⟨rfl,_⟩:=Result.ok.inj hr2
 obtain rfl:w.heap.size=k:=by simpa [Value.ownBlock]using hk
 exact .inr (Nat.le_refl _)
theorem zlr{P:Program}(w:World){ops:Array Oper}{rest:List Oper}{o:Oper}{a:Act}{Q:Exit->Act->World->Prop}(hgd:o.guard=none)(sl x:Operand)(t u:TypeId)(ho:o.op= .call {callee:= .builtin .append,args:= #[sl,x],argTypes:= #[t,u]})
 (base:Nat) (e:TypeId) (i:TypeInfo) (ht:P.underlying t=some (.slice e)) (hu:P.underlying u=some .string) (hi:P.info? e=some i) (hz:i.zero=some (.int .u8 0)) (hsize:i.size=1) (hby:i.bytes=1)
 (v:Value) (n:Nat) (xs:List Value) (hs:a.eval sl=v) (hown:w.ownsRow base e 1 v n xs) (s:ByteArray) (hx:a.eval x= .string s) (h63:n+s.size<=maxLen) (hbytes:n+s.size<=140737488355328) (hbase:base<=w.heap.size)
 (h:∀v' w',w'.ownsRow base e 1 v' (n+s.size) (xs++Lib.strCells s)->w.grownBy w' v.ownBlock->(∀k,v'.ownBlock=some k->v.ownBlock=some k\/w.heap.size<=k)->(v= .slice none 0 0->s.size=0->v'= .slice none 0 0)->wpList P ops Q rest (a.put o.dst v') w'):wpList P ops Q (o::rest) a w:=by
 refine wpList_plain hgd fun K hK=> ?_
 obtain⟨v',w',hr,h2,h3,h4,h5⟩:=qc8 (P:=P) w base t u o.type e i ht hu hi hz hsize hby v n xs hown s h63 hbytes hbase
 unfold Oper.wp execOp
 simp only[ho,resolve,invoke,builtin,Sem.run_bind,Sem.run_pure,Result.andThen_ok,List.map_toArray,List.map_cons,List.map_nil,hs,hx,hr]
 exact hK _ _ (h v' w' h2 h3 h4 h5)
section
variable {w:World} {base R D:Nat} {S:Nat->Prop} {told:List UInt8}
theorem zpy(h:zpv w base S R D told)(hl:base<=w.heap.size/\∀k,S k->base<=k/\k<w.heap.size)(s:ByteArray)(hlen:told.length+s.size<=2000000000):
 Calls Tryz.prog 69 #[.pointer (some ⟨R,0,none⟩),.string s] w fun e w'=>e= .returned (.tuple #[.int .i64 s.size,.nilIface])/\zfs w base S R D (told++s.data.toList) w':=by
 obtain⟨i0,hi,hz0,hz1,hz2⟩:=info_parts infoB
 obtain⟨hR,p,v,hp,hb,ho,hv,hn⟩:=h
 obtain⟨ho1,hk1⟩:=ccW_lk (p:=p) hR ho hv
 have hb1:=qa0 hp hb
 have HS1:=hid (qgl w R p)
 have HCC:=hid (zn7 hp hb)
 clear hb ho hp
 go_enter Tryz.func69,Tryz.ntmps69
 go_wp2_with fail
 refine HCC.out.mono ?_
 rintro e w1 ⟨rfl,rfl⟩
 clear HCC
 generalize ccW p R w=w1 at*
 have c1:w1.cell? ⟨R,1,none⟩=some v:=by rw[Lib.cell_of_heap hb1];rfl
 have hlt:=zie hb1
 go_wp2_with (at_builtin;refine zlr _ rfl (.tmp 12) (.tmp 13) 42 9 rfl base 5 i0 Tryz.underlying42 Tryz.underlying9 hi hz0 hz1 hz2 v told.length (Lib.byteCells told) rfl ho1 s rfl ?c3 ?c4 ?c5 ?_)
 case c3=>unfold maxLen;omega
 case c4=>omega
 case c5=>have:=hl.1;have:=HS1.out;omega
 intro v' w2 hown' hgrow hlies hnil
 have hown2:w2.ownsRow base 5 1 v' (told++s.data.toList).length (Lib.byteCells (told++s.data.toList)):=by
  rw[List.length_append,<-zlo]
  exact hown'
 obtain⟨hb2,hto⟩:=lk_put (t2:=told++s.data.toList) hR hk1 (by have:=HS1.out;omega) hv hb1 hown2 hgrow hlies (fun e=>by
  obtain⟨e1,e2⟩:=List.append_eq_nil_iff.1 e
  exact hnil (hn e1) (by
   have h0:s.size=0:=by rw[<-zav,e2];rfl
   simpa using h0))
 have HTO:=hid hto
 have d1:w2.cell? ⟨R,1,none⟩=some v:=by rw[Lib.cell_of_heap hb2];rfl
 have f1:w2.frozen? ⟨R,1,none⟩=false:=Lib.frozen_of_heap hb2 1
 have hlt2:=zie hb2
 obtain⟨ao,n',cap,rfl⟩:∃ao n' cap,v'= .slice ao n' cap:=by
  rcases hown'.2 with⟨hv,_⟩|⟨g,cap,cur,hv,_⟩
  ·exact⟨_,_,_,hv⟩
  exact⟨_,_,_,hv⟩
 clear hto hown' hown2 hgrow hlies hnil ho1 hk1 hb1 hb2 c1 hlt hv hn
 go_wp2
 go_ret2
 exact⟨rfl,HTO.out⟩
theorem ztc(h:zpv w base S R D told)(hl:base<=w.heap.size/\∀k,S k->base<=k/\k<w.heap.size)(c:UInt8)(hlen:told.length<=2000000000):
 Calls Tryz.prog 71 #[.pointer (some ⟨R,0,none⟩),.int .u8 c.toNat] w fun e w'=>e= .returned .nilIface/\zfs w base S R D (told++[c]) w':=by
 obtain⟨i0,hi,hz0,hz1,hz2⟩:=info_parts infoB
 obtain⟨hR,p,v,hp,hb,ho,hv,hn⟩:=h
 obtain⟨ho1,hk1⟩:=ccW_lk (p:=p) hR ho hv
 have hb1:=qa0 hp hb
 have HS1:=hid (qgl w R p)
 have HCC:=hid (zn7 hp hb)
 clear hb ho hp hn
 go_enter Tryz.func71,Tryz.ntmps71
 go_wp2_with fail
 refine HCC.out.mono ?_
 rintro e w1 ⟨rfl,rfl⟩
 clear HCC
 generalize ccW p R w=w1 at*
 have c1:w1.cell? ⟨R,1,none⟩=some v:=by rw[Lib.cell_of_heap hb1];rfl
 have hlt:=zie hb1
 have ho2:(w1.alloc (.cells #[.int .u8 c.toNat] 5)).ownsRow base 5 1 v told.length (Lib.byteCells told):=zed ho1 (za2 _ _)
 go_wp2_with (at_builtin;refine wpList_append_lies _ rfl (.tmp 11) (.tmp 13) 42 rfl base 5 i0 (.int .u8 0) 1 1 Tryz.underlying42 hi hz0 hz1 hz2 rfl (by decide) v told.length (Lib.byteCells told) rfl ho2 ⟨w1.heap.size,0,none⟩ 1 1 [.int .u8 c.toNat] rfl rfl ?c1 ?c2 (by decide) ?c3 ?c4 ?c5 (w1.heap.size+1) (by simp) ?_)
 case c1=>
  intro j u hj
  match j,hj with
  | 0,hj=>simp at hj;subst hj;simp[Addr.add]
 case c2=>intro u hu;simp at hu;subst hu;rfl
 case c3=>unfold maxLen;omega
 case c4=>omega
 case c5=>have:=hl.1;have:=HS1.out;simp;omega
 intro g cap w2 hown' hgrow hat hlt8
 have hb1':(w1.alloc (.cells #[.int .u8 c.toNat] 5)).heap[R]? =some (.cells #[.pointer (some ⟨R,0,none⟩),v,.pointer (some ⟨D,0,none⟩)] 46 (0,0)):=by
  rw[Lib.alloc_old w1 _ R hlt];exact hb1
 have hown2:w2.ownsRow base 5 1 (.slice (some ⟨g,0,none⟩) (told.length+1) cap) (told++[c]).length (Lib.byteCells (told++[c])):=by
  rw[List.length_append,<-zlo]
  exact hown'
 obtain⟨hb2,hto⟩:=lk_put (t2:=told++[c]) hR (hk1.after (za2 _ _)) (by have:=HS1.out;simp;omega) hv hb1' hown2 hgrow (fun k e=>by
  obtain rfl:g=k:=by simpa [Value.ownBlock]using e
  rcases hat with x|x
  ·exact .inl x
  exact .inr (by simp;omega)) (fun e=>by simp at e)
 have HTO:=hid hto
 have d1:w2.cell? ⟨R,1,none⟩=some v:=by rw[Lib.cell_of_heap hb2];rfl
 have f1:w2.frozen? ⟨R,1,none⟩=false:=Lib.frozen_of_heap hb2 1
 have hlt2:=zie hb2
 clear hto hown' hown2 hgrow hat ho1 ho2 hk1 hb1 hb1' hb2 c1 hlt hv
 go_wp2
 go_ret
 exact⟨rfl,HTO.out⟩
def StrTo(w:World)(S:Nat->Prop)(R D:Nat)(w':World):Prop:=zam S w w'/\∃p v,w'.heap[R]? =some (.cells #[p,v,.pointer (some ⟨D,0,none⟩)] 46 (0,0))
theorem zp4{w':World}(h:zam S w w'){g:Nat}(hg:S g)(n:Nat):zam S w (w'.freeze ⟨g,0,none⟩ n):=by
 unfold World.freeze
 split
 ·exact h
 refine⟨h.os,h.tape,h.output,by simpa using h.size,fun k hk hs=> ?_⟩
 rw[<-h.block k hk hs]
 simp only[Array.getElem?_modify]
 rw[if_neg (fun e=>hs (by rw[<-e];exact hg))]
theorem qdr(h:zpv w base S R D told)(hlen:told.length<=2000000000):
 Calls Tryz.prog 16 #[.pointer (some ⟨R,0,none⟩)] w fun e w'=>e= .returned (.string (bl told))/\StrTo w S R D w':=by
 obtain⟨hR,p,v,hp,hb,ho,hv,hn⟩:=h
 have hlt:=zie hb
 have hbd:w.drew.heap[R]? =some (.cells #[p,v,.pointer (some ⟨D,0,none⟩)] 46 (0,0)):=hb
 have c1:w.drew.cell? ⟨R,1,none⟩=some v:=by rw[Lib.cell_of_heap hbd];rfl
 by_cases h0:told=[]
 ·obtain rfl:=hn h0
  subst h0
  have hUS:∀W:World,(Builtin.unsafeString_ #[83,3] 9 #[.pointer none,.int .i64 0]).run Tryz.prog W= .ok (.string .empty) W:=fun W=>Lib.run_unsafeString_none W _ _ _ none
  have hSD:(Builtin.unsafeSliceData_ #[42] 83 #[.slice none 0 0]).run Tryz.prog w.drew= .ok (.pointer none) w.drew:=rfl
  have HE:Hid (StrTo w S R D w.drew):=⟨(zam.refl S w).after (Below.refl _ _).drew,p,_,hbd⟩
  clear hb hbd ho hv hn hp
  go_enter Tryz.func16,Tryz.ntmps16
  go_wp2
  go_region
  all_goals (go_wp2;go_ret;exact⟨rfl,HE.out⟩)
 have hl0:told.length≠0:=by simpa using h0
 obtain⟨g,cap,cur,rfl,hbg,hg,hnc,hcm,hcs,htake⟩:∃g cap cur,v= .slice (some ⟨g,0,none⟩) told.length cap/\base<=g/\w.heap[g]? =some (.cells cur 5 (0,0))/\told.length<=cap/\cap<=maxLen/\cur.size=cap*1/\cur.toList.take (told.length*1)=Lib.byteCells told:=by
  rcases ho.2 with⟨_,hz⟩|⟨g,cap,cur,hv,r⟩
  ·exact absurd hz hl0
  exact⟨g,cap,cur,hv,r⟩
 have hSD:(Builtin.unsafeSliceData_ #[42] 83 #[.slice (some ⟨g,0,none⟩) told.length cap]).run Tryz.prog w.drew= .ok (.pointer (some ⟨g,0,none⟩)) w.drew:=Lib.run_unsafeSliceData_row _ _ _ _ _ _ (by omega)
 have hUS:(Builtin.unsafeString_ #[83,3] 9 #[.pointer (some ⟨g,0,none⟩),.int .i64 told.length]).run Tryz.prog w.drew= .ok (.string ⟨told.toArray⟩) (w.drew.freeze ⟨g,0,none⟩ told.length):=by
  refine Lib.run_unsafeString_row w.drew 83 3 9 5 Tryz.underlying83 (by kernel_rfl) g cur.size (by have hg':w.drew.heap[g]? =some (.cells cur 5 (0,0)):=hg;simp[World.shape?,hg']) told h0 (by omega) (by unfold maxLen at hcm;omega) ?_
  intro j x hx
  have:=ho.cells (g:=g) rfl j (.int .u8 x.toNat) (by simp[Lib.byteCells,hx])
  exact this
 have hgS:=hv g rfl
 have HE:Hid (StrTo w S R D (w.drew.freeze ⟨g,0,none⟩ told.length)):=by
  have hk:=zp4 ((zam.refl S w).after (Below.refl _ _).drew) hgS.1 told.length
  refine⟨hk,p,.slice (some ⟨g,0,none⟩) told.length cap,?_⟩
  have hk1:=zp4 (S:=fun k=>k=g) (zam.refl _ w.drew) (g:=g) rfl told.length
  rw[hk1.block R hlt (fun e=>hgS.2 e.symm)]
  exact hbd
 clear hb hbd ho hv hn hp hgS hg htake
 generalize w.drew.freeze ⟨g,0,none⟩ told.length=wf at*
 go_enter Tryz.func16,Tryz.ntmps16
 go_wp2
 go_region
 all_goals (go_wp2;go_ret;exact⟨rfl,HE.out⟩)
theorem reset_lk(hR:S R)(h:∃p v,w.heap[R]? =some (.cells #[p,v,.pointer (some ⟨D,0,none⟩)] 46 (0,0))):
 Calls Tryz.prog 17 #[.pointer (some ⟨R,0,none⟩)] w fun e w'=>e= .returned (.tuple #[])/\zfs w base S R D [] w':=by
 obtain⟨p,v,hb⟩:=h
 have hlt:=zie hb
 have c0:w.cell? ⟨R,0,none⟩=some p:=by rw[Lib.cell_of_heap hb];rfl
 have c1:w.cell? ⟨R,1,none⟩=some v:=by rw[Lib.cell_of_heap hb];rfl
 have f0:w.frozen? ⟨R,0,none⟩=false:=Lib.frozen_of_heap hb 0
 have f1:w.frozen? ⟨R,1,none⟩=false:=Lib.frozen_of_heap hb 1
 have HE:Hid (zfs w base S R D [] ((w.setCell ⟨R,0,none⟩ (.pointer none)).setCell ⟨R,1,none⟩ (.slice none 0 0))):=by
  refine⟨⟨.inl hR,.pointer none,.slice none 0 0,.inl rfl,?_,World.ownsRow_nil _ _ _ _,fun _ e=>(by cases e),fun _=>rfl⟩,((zam.refl S w).set (p:=⟨R,0,none⟩) hR _).set (p:=⟨R,1,none⟩) hR _⟩
  rw[znq (znq hb 0 _) 1]
  rfl
 clear hb
 go_enter Tryz.func17,Tryz.ntmps17
 go_wp2
 go_end0
 exact⟨rfl,HE.out⟩
end
variable {v:Value} {w:World} {a:Option Addr} {cap n:Nat} {ds:List Dd}
section
variable {w w1 w2:World} {base R D:Nat} {S:Nat->Prop} {told t2:List UInt8}
theorem zpv.below(h:zpv w base S R D told)(hl:base<=w.heap.size/\∀k,S k->base<=k/\k<w.heap.size)(hb:Below w.heap.size w w1):zpv w1 base S R D told:=
 (Th.lk base R D told).kept hl.2 h (zam.of_below (S:=fun _=>False) hb) (fun _ _ e=>e)
theorem zeh(hl:base<=w.heap.size/\∀k,S k->base<=k/\k<w.heap.size)(hb:Below w.heap.size w w1):base<=w1.heap.size/\∀k,S k->base<=k/\k<w1.heap.size:=by
 have:=hb.size
 exact⟨by omega,fun k e=>by have:=hl.2 k e;omega⟩
theorem zfs.held(h:zfs w base S R D told w1)(hl:base<=w.heap.size/\∀k,S k->base<=k/\k<w.heap.size):base<=w1.heap.size/\∀k,grow S w w1 k->base<=k/\k<w1.heap.size:=by
 have:=h.2.size
 refine⟨by omega,fun k e=> ?_⟩
 rcases e with e|e
 ·have:=hl.2 k e;omega
 omega
theorem zfs.trans(h:zfs w base S R D told w1)(h2:zfs w1 base (grow S w w1) R D t2 w2)(hl:base<=w.heap.size/\∀k,S k->base<=k/\k<w.heap.size):zfs w base S R D t2 w2:=by
 have s1:=h.2.size
 have s2:=h2.2.size
 refine⟨(Th.lk base R D t2).mono h2.1 (fun k e=> ?_) (fun k e=> ?_),h.2.trans h2.2⟩
 ·rcases e with e|e
  ·rcases e with e|e
   ·exact .inl e
   exact .inr ⟨e.1,by omega⟩
  exact .inr ⟨by omega,e.2⟩
 rcases e with e|e
 ·have:=hl.2 k e;omega
 omega
theorem zfs.since(hb:Below w.heap.size w w1)(h:zfs w1 base S R D told w2)(hl:base<=w.heap.size/\∀k,S k->base<=k/\k<w.heap.size):zfs w base S R D told w2:=by
 have s1:=hb.size
 have s2:=h.2.size
 refine⟨(Th.lk base R D told).mono h.1 (fun k e=> ?_) (fun k e=> ?_),(zam.of_below hb).trans' h.2⟩
 ·rcases e with e|e
  ·exact .inl e
  exact .inr ⟨by omega,e.2⟩
 rcases e with e|e
 ·have:=hl.2 k e;omega
 omega
theorem zpv.to(h:zpv w base S R D told)(hl:base<=w.heap.size/\∀k,S k->base<=k/\k<w.heap.size)(hb:Below w.heap.size w w1):zfs w base S R D told w1:=
 ⟨(Th.lk base R D told).mono (h.below hl hb) (fun _ e=> .inl e) (fun k e=>by
  have:=hb.size
  rcases e with e|e
  ·have:=hl.2 k e;omega
  omega),.of_below hb⟩
theorem zfs.after(h:zfs w base S R D told w1)(hl:base<=w.heap.size/\∀k,S k->base<=k/\k<w.heap.size)(hb:Below w1.heap.size w1 w2):zfs w base S R D told w2:=h.trans (h.1.to (h.held hl) hb) hl
theorem Rdy.lk(h:Rdy base w)(hl:base<=w.heap.size/\∀k,S k->base<=k/\k<w.heap.size)(ht:zfs w base S R D told w1):Rdy base w1:=h.kept ht.2 (fun k e=>(hl.2 k e).1)
theorem qap(w:World)(s:ByteArray):zbs (w.alloc (.cells #[.string s] 9)) (.slice (some ⟨w.heap.size,0,none⟩) 1 1) [s]:=
 ⟨_,1,1,rfl,rfl,Nat.le_refl _,.inr ⟨_,0,rfl,by simp,fun i hi=>by
  obtain rfl:i=0:=by simpa using hi
  simp[go_sem]⟩⟩
theorem zqp(w:World)(s t:ByteArray):zbs (w.alloc (.cells #[.string s,.string t] 9)) (.slice (some ⟨w.heap.size,0,none⟩) 2 2) [s,t]:=
 ⟨_,2,2,rfl,rfl,Nat.le_refl _,.inr ⟨_,0,rfl,by simp,fun i hi=>by
  have h2:i<2:=hi
  rcases(show i=0\/i=1 by omega)with rfl|rfl<;>simp[go_sem]⟩⟩
theorem join_any{ws:List ByteArray}(h:zbs w v ws)(hne:ws≠[])(hN:ws.length<=100000)(hlen:(jnB (ws.map (·.data.toList))).length<=1000000000):
 Calls Tryz.prog 70 #[v,.string ⟨#[32]⟩] w fun e w'=>e= .returned (.string (bl (jnB (ws.map (·.data.toList)))))/\Below w.heap.size w w':=by
 obtain⟨a,cap,rfl,hcap⟩:=h.len
 have hp:0<ws.length:=List.length_pos_iff.2 hne
 obtain⟨b,off,rfl,hr⟩:=h.row hp
 refine Tryz.strings_Join b off cap ws ⟨#[32]⟩ w (fun j x hx=> ?_) hr.lt (by omega) hcap (by unfold jnB at hlen;exact Nat.le_trans hlen (by decide))
 obtain⟨hj,rfl⟩:=List.getElem?_eq_some_iff.1 hx
 exact hr.cell j hj
theorem zz5(h:zpv w base S R D told)(hl:base<=w.heap.size/\∀k,S k->base<=k/\k<w.heap.size){v:Value}{ws:List ByteArray}(hs:zbs w v ws)(hne:ws≠[])(hN:ws.length<=100000)(hz:told.length+(jnB (ws.map (·.data.toList))).length<=900000000):
 Calls Tryz.prog 49 #[.pointer (some ⟨R,0,none⟩),v] w fun e w'=>e= .returned (.tuple #[])/\zfs w base S R D (told++(jnB (ws.map (·.data.toList))++[10])) w':=by
 have HA:=hid h
 have HL:=hid hl
 have HJ:Hid (∀wk,Below w.heap.size w wk->Calls Tryz.prog 70 #[v,.string ⟨#[32]⟩] wk fun e w'=>e= .returned (.string (bl (jnB (ws.map (·.data.toList)))))/\Below wk.heap.size wk w'):=fun wk hb=>join_any (hs.below hb) hne hN (by omega)
 obtain⟨J,hJ⟩:∃J,jnB (ws.map (·.data.toList))=J:=⟨_,rfl⟩
 rw[hJ]at HJ hz⊢
 have HZ:=hid hz
 obtain⟨sj,hsj⟩:∃sj,bl J=sj:=⟨_,rfl⟩
 have HSJ:=hid hsj
 rw[hsj]at HJ
 obtain⟨a,cap,rfl,_⟩:=hs.len
 clear h hl hs hne hz hJ hsj
 go_enter Tryz.func49,Tryz.ntmps49
 go_wp2_with fail
 refine zdi (fun _=>True) (fun wk=>Below w.heap.size w wk) (fun i=>i==4||i==5) (fun _=>false) (by kernel_rfl) (by kernel_rfl) (by kernel_rfl) (fun _ _=>trivial) (Below.refl _ _).drew ?_
 refine zak (some 4) w (.pointer (some ⟨R,0,none⟩)) (.tmp 0) (.pointer (some ⟨R,0,none⟩)) ?_ ?_
 ·intros;go_simp
 go_big_quiet_op
 refine zak (some 5) w (.pointer (some ⟨R,0,none⟩)) (.tmp 4) (.pointer (some ⟨R,0,none⟩)) ?_ ?_
 ·intros;go_simp
 go_big_quiet_op
 refine zak (some 6) w (.pointer (some ⟨R,0,none⟩)) (.tmp 5) (.pointer (some ⟨R,0,none⟩)) ?_ ?_
 ·intros;go_simp
 go_big_quiet_op
 refine zak (some 7) w (.slice a ws.length cap) (.tmp 1) (.slice a ws.length cap) ?_ ?_
 ·intros;go_simp
 go_big_quiet_op
 refine wls (some 8) w rfl rfl (by kernel_rfl) (fun u=>u= .string sj) (fun u wk=>True) (fun u wk=>Below w.heap.size w wk) (⟨_,rfl⟩) (fun _ _ h=>h) (fun _ _ h=>trivial) (fun wk hwk=> ?_) (fun u9 hu9=> ?_)
 ·generalize hA:Act.eval _=ρ
  have s7:ρ (.tmp 7)= .slice a ws.length cap:=by rw[<-hA];kernel_rfl
  have k1:ρ (.const (.string ⟨#[32]⟩))= .string ⟨#[32]⟩:=by rw[<-hA];kernel_rfl
  have sf:ρ (.func 70)= .func (.func 70) #[] #[]:=by rw[<-hA];kernel_rfl
  clear hA
  go_simp
  refine(HJ.out wk hwk).mono ?_
  rintro e w7 ⟨rfl,hb⟩
  exact⟨_,rfl,rfl,bla hwk hb⟩
 subst hu9
 go_big_quiet_op
 refine wls (some 9) w rfl rfl (by kernel_rfl) (fun u=>u= .tuple #[.int .i64 sj.size,.nilIface]) (fun u wk=>True) (fun u wk=>zfs w base S R D (told++J) wk) (⟨_,rfl⟩) (fun _ _ h=>h) (fun _ _ h=>trivial) (fun wk hwk=> ?_) (fun u9 hu9=> ?_)
 ·generalize hA:Act.eval _=ρ
  have s6:ρ (.tmp 6)= .pointer (some ⟨R,0,none⟩):=by rw[<-hA];kernel_rfl
  have s8:ρ (.tmp 8)= .string sj:=by rw[<-hA];kernel_rfl
  have sf:ρ (.func 69)= .func (.func 69) #[] #[]:=by rw[<-hA];kernel_rfl
  clear hA
  go_simp
  have hsz:sj.size=J.length:=by rw[<-HSJ.out];exact zd8 J
  have hws:=zpy (HA.out.below HL.out hwk) (zeh HL.out hwk) sj (by have:=HZ.out;omega)
  rw[show sj.data.toList=J by rw[<-HSJ.out]]at hws
  refine hws.mono ?_
  rintro e w7 ⟨rfl,h7⟩
  exact⟨_,rfl,rfl,zfs.since hwk h7 HL.out⟩
 subst hu9
 go_big_quiet_op
 refine zhf (fun w9 hw9=> ?_)
 have H9:=hid hw9
 clear hw9 HA HJ
 go_wp2_with fail
 have hwb:=ztc H9.out.1 (H9.out.held HL.out) 10 (by rw[List.length_append];have:=HZ.out;omega)
 rw[show(((10:UInt8).toNat:Nat):Int)=10 from rfl]at hwb
 refine hwb.mono ?_
 rintro e w5 ⟨rfl,h5⟩
 have H5:Hid (zfs w base S R D (told++(J++[10])) w5):=by
  show zfs _ _ _ _ _ _ _
  rw[<-List.append_assoc]
  exact H9.out.trans h5 HL.out
 clear h5 hwb H9
 go_wp2_with fail
 go_end0
 exact⟨rfl,H5.out⟩
theorem zs1(h:zpv w base S R D told)(hl:base<=w.heap.size/\∀k,S k->base<=k/\k<w.heap.size)(s:ByteArray)(hz:told.length+s.size<=900000000){v:Value}(hv:v= .slice (some ⟨w.heap.size,0,none⟩) 1 1):
 Calls Tryz.prog 49 #[.pointer (some ⟨R,0,none⟩),v] (w.alloc (.cells #[.string s] 9)) fun e w'=>e= .returned (.tuple #[])/\zfs w base S R D (told++(s.data.toList++[10])) w':=by
 subst hv
 have hj:jnB ([s].map (·.data.toList))=s.data.toList:=by unfold jnB;exact Lib.join_one _ _
 have:=zz5 (h.below hl (za2 w (.cells #[.string s] 9))) (zeh hl (za2 _ _)) (qap w s) (by simp) (by simp) (by rw[hj,zav];exact hz)
 rw[hj]at this
 exact this.mono fun e w' ⟨e1,e2⟩=>⟨e1,zfs.since (za2 _ _) e2 hl⟩
theorem qe7(h:zpv w base S R D told)(hl:base<=w.heap.size/\∀k,S k->base<=k/\k<w.heap.size)(s t:ByteArray)(hz:told.length+(s.size+t.size)<=800000000){v:Value}(hv:v= .slice (some ⟨w.heap.size,0,none⟩) 2 2):
 Calls Tryz.prog 49 #[.pointer (some ⟨R,0,none⟩),v] (w.alloc (.cells #[.string s,.string t] 9)) fun e w'=>e= .returned (.tuple #[])/\zfs w base S R D (told++(jnB [s.data.toList,t.data.toList]++[10])) w':=by
 subst hv
 have:=zz5 (h.below hl (za2 w (.cells #[.string s,.string t] 9))) (zeh hl (za2 _ _)) (zqp w s t) (by simp) (by simp) (by
  show _+(jnB [s.data.toList,t.data.toList]).length<=_
  rw[znr,List.length_append,List.length_cons,zav,zav]
  omega)
 exact this.mono fun e w' ⟨e1,e2⟩=>⟨e1,zfs.since (za2 _ _) e2 hl⟩
theorem what_lk(h:zpv w base S R D told)(hl:base<=w.heap.size/\∀k,S k->base<=k/\k<w.heap.size)(hz:told.length<=800000000):
 Calls Tryz.prog 28 #[.pointer (some ⟨R,0,none⟩)] w fun e w'=>e= .returned (.tuple #[])/\zfs w base S R D (told++zg6) w':=by
 have HS:Hid (Calls Tryz.prog 49 #[.pointer (some ⟨R,0,none⟩),.slice (some ⟨w.heap.size,0,none⟩) 1 1] (w.alloc (.cells #[.string ⟨#[119,104,97,116]⟩] 9)) fun e w'=>e= .returned (.tuple #[])/\zfs w base S R D (told++zg6) w'):=zs1 h hl ⟨#[119,104,97,116]⟩ (by show _+4<=_;omega) rfl
 clear h hl
 go_enter Tryz.func28,Tryz.ntmps28
 go_wp2_with fail
 refine HS.out.mono ?_
 rintro e w5 ⟨rfl,h5⟩
 have H5:=hid h5
 clear h5 HS
 go_wp2_with fail
 go_end0
 exact⟨rfl,H5.out⟩
theorem ownS_one(w:World)(s:ByteArray):qce (w.alloc (.cells #[.string s] 9)) w.heap.size (.slice (some ⟨w.heap.size,0,none⟩) 1 1) [s]:=
 ⟨rfl,.inr ⟨w.heap.size,1,#[.string s],rfl,Nat.le_refl _,heap_alloc_new w _,Nat.le_refl _,by decide,rfl,rfl⟩⟩
theorem znt{zs:List Int}(h:znj w (.slice a n cap) zs)(hp:0<n):∃b off,a=some ⟨b,off,none⟩/\b<w.heap.size/\∀i (h:i<zs.length),w.cell? ⟨b,off+i,none⟩=some (.int .i64 zs[i]):=by
 obtain⟨a',len,cap',he,h1,h2,h3⟩:=h
 simp only[Value.slice.injEq]at he
 obtain⟨rfl,rfl,rfl⟩:=he
 rcases h3 with h3|h3
 ·omega
 exact h3
theorem itoaB(z:Int):(zc3 z).data.toList=Lib.itoa z:=by simp[zc3]
theorem zsd:∀zs:List Int,(∀z∈zs,inI z)->(zdz zs).length<=22*zs.length
 |[],_=>Nat.le_refl _
 |z::zs,h=>by
  have h1:=zsd zs (fun y hy=>h y (by simp[hy]))
  have h2:=zbx (h z (by simp))
  rw[<-zav,itoaB]at h2
  rw[zdz,List.length_cons,List.length_append,List.length_cons]
  omega
theorem zi9(h:zpv w base S R D told)(hl:base<=w.heap.size/\∀k,S k->base<=k/\k<w.heap.size)(hr:Rdy base w)(wd:ByteArray){v:Value}{zs:List Int}(hv:znj w v zs)(hi:∀z∈zs,inI z)(hn:zs.length<=1000)(hw:wd.size<=100)(hz:told.length<=800000000):
 Calls Tryz.prog 68 #[.pointer (some ⟨R,0,none⟩),.string wd,v] w fun e w'=>e= .returned (.tuple #[])/\zfs w base S R D (told++((wd.data.toList++zdz zs)++[10])) w':=by
 have HA:=hid h
 have HL:=hid hl
 have HR:=hid hr
 have HV:=hid hv
 have HI:=hid hi
 have HS:Hid (told.length+(wd.data.toList++zdz zs).length<=900000000):=by
  show _<=_
  have:=zsd zs hi
  rw[List.length_append,zav]
  omega
 have HJ:Hid (jnB ((wd::zs.map zc3).map (·.data.toList))=wd.data.toList++zdz zs):=by
  show _=_
  rw[List.map_cons,List.map_map,<-qfe]
  congr 2
 obtain⟨i0,hi0,hz0,hz1,hz2⟩:=info_parts zxc
 obtain⟨a,cap,rfl⟩:=hv.len
 have HW0:Hid (WoI w (.slice (some ⟨w.heap.size,0,none⟩) 1 1) [wd] (w.alloc (.cells #[.string wd] 9))):=⟨za2 _ _,ownS_one w wd⟩
 clear h hl hr hv hi
 go_enter Tryz.func68,Tryz.ntmps68
 go_wp2_with fail
 go_loopw [6,13] (fun v i wr=>∃k:Nat,k<=zs.length/\i= .int .i64 k/\Hid (WoI w v (wd::(zs.take k).map zc3) wr)) (fun _ i _=>zs.length-(intOf i).toNat)
 case atStart=>exact⟨0,Nat.zero_le _,rfl,HW0.out⟩
 obtain⟨k,hk,rfl,HW⟩:=hrel
 clear HW0
 by_cases hlt:k<zs.length
 ·have hki:(k:Int)<(zs.length:Int):=by omega
  obtain⟨bb,off,rfl,hbl,hrow⟩:=znt (HV.out.below HW.out.below) (by omega)
  have c0:=hrow k hlt
  have HX:Hid (wd::(zs.take (k+1)).map zc3=(wd::(zs.take k).map zc3)++[zc3 zs[k]]):=by
   show _=_
   rw[List.take_succ_eq_append_getElem hlt,List.map_append]
   rfl
  have HIN:Hid (inI zs[k]):=HI.out _ (List.getElem_mem hlt)
  have HLN:Hid ((wd::(zs.take k).map zc3).length<=1001):=by show _<=_;rw[List.length_cons,List.length_map,List.length_take];omega
  generalize zs[k]=z at*
  obtain⟨ws,hws⟩:∃ws,wd::(zs.take k).map zc3=ws:=⟨_,rfl⟩
  rw[hws]at HX HW HLN
  clear hrow hws
  go_wp2_with fail
  refine(zli z HIN.out _ (HR.out.after HW.out.below).ready).mono ?_
  rintro e w5 ⟨rfl,hb⟩
  have H5:Hid (WoI w u6 ws (w5.alloc (.cells #[.string (zc3 z)] 9))):=(HW.out.after hb).after (za2 _ _)
  obtain⟨sz,hsz⟩:∃sz,zc3 z=sz:=⟨_,rfl⟩
  rw[hsz]at H5 HX⊢
  clear hb HW c0 hbl hsz
  go_wp2_with (at_builtin;refine wpList_append_own _ rfl (.tmp 17) (.tmp 20) 22 rfl w.heap.size 9 i0 (.string ⟨#[]⟩) 1 16 Tryz.underlying22 hi0 hz0 hz1 hz2 rfl (by decide) u6 ws.length (zna ws) rfl H5.out.own ⟨w5.heap.size,0,none⟩ 1 1 [.string sz] (by simp[go_sem]) rfl (znn _ _) ?c2 ?c3 ?c4 ?c5 ?_)
  case c2=>intro u hu;simp at hu;subst hu;rfl
  case c3=>have:=HLN.out;unfold maxLen;omega
  case c4=>have:=HLN.out;omega
  case c5=>exact H5.out.below.size
  intro v' w6 hown' hgrow _
  have H6:Hid (WoI w v' (wd::(zs.take (k+1)).map zc3) w6):=by
   show WoI _ _ _ _
   rw[HX.out]
   exact H5.out.grown hown' hgrow
  clear hown' hgrow H5
  go_wp2_with fail
  go_roundw
  case rel=>exact⟨k+1,by omega,by go_num,H6.out⟩
  case measure=>simp[intOf];omega
 obtain rfl:k=zs.length:=by omega
 have HE:Hid (zs.take zs.length=zs):=List.take_length
 rw[HE.out]at HW
 go_wp2_with fail
 have hsay:=zz5 (HA.out.below HL.out HW.out.below) (zeh HL.out HW.out.below) HW.out.own.lst (by simp) (by rw[List.length_cons,List.length_map];omega) (by rw[HJ.out];exact HS.out)
 rw[HJ.out]at hsay
 refine hsay.mono ?_
 rintro e w5 ⟨rfl,h5⟩
 have H5:=hid (zfs.since HW.out.below h5 HL.out)
 clear h5 hsay HW
 go_wp2_with fail
 go_end0
 exact⟨rfl,H5.out⟩
theorem ilst_one(w:World)(z:Int):znj (w.alloc (.cells #[.int .i64 z] 3)) (.slice (some ⟨w.heap.size,0,none⟩) 1 1) [z]:=
 ⟨_,1,1,rfl,rfl,Nat.le_refl _,.inr ⟨_,0,rfl,by simp,fun i hi=>by
  obtain rfl:i=0:=by simpa using hi
  simp[go_sem]⟩⟩
theorem no_lk(h:zpv w base S R D told)(hl:base<=w.heap.size/\∀k,S k->base<=k/\k<w.heap.size)(hr:Rdy base w)(c:Int)(hc:inI c)(hz:told.length<=700000000):
 Calls Tryz.prog 48 #[.pointer (some ⟨R,0,none⟩),.int .i64 c] w fun e w'=>e= .returned (.tuple #[])/\zfs w base S R D (told++noW c) w':=by
 have HS:Hid (Calls Tryz.prog 68 #[.pointer (some ⟨R,0,none⟩),.string ⟨#[110,111]⟩,.slice (some ⟨w.heap.size,0,none⟩) 1 1] (w.alloc (.cells #[.int .i64 c] 3)) fun e w'=>e= .returned (.tuple #[])/\zfs w base S R D (told++noW c) w'):=by
  rw[no_join]
  exact(zi9 (h.below hl (za2 _ _)) (zeh hl (za2 _ _)) (hr.after (za2 _ _)) ⟨#[110,111]⟩ (ilst_one w c) (by simpa using hc) (by simp) (by decide) (by omega)).mono fun e w' ⟨e1,e2⟩=>⟨e1,zfs.since (za2 _ _) e2 hl⟩
 clear h hl hr
 go_enter Tryz.func48,Tryz.ntmps48
 go_wp2_with fail
 refine HS.out.mono ?_
 rintro e w5 ⟨rfl,h5⟩
 have H5:=hid h5
 clear h5 HS
 go_wp2_with fail
 go_end0
 exact⟨rfl,H5.out⟩
theorem dl_row(h:zpw w (.slice a n cap) ds)(hp:0<n):∃b off,a=some ⟨b,off,none⟩/\zyc w b off ds:=by
 obtain⟨a',len,cap',he,h1,h2,h3⟩:=h
 simp only[Value.slice.injEq]at he
 obtain⟨rfl,rfl,rfl⟩:=he
 rcases h3 with h3|h3
 ·omega
 exact h3
theorem qg8(h:zpw w v ds):∃a cap,v= .slice a ds.length cap:=by
 obtain⟨a,len,cap,rfl,rfl,h2,_⟩:=h
 exact⟨a,cap,rfl⟩
theorem qf6(d:Dd):(zhr d).length<=201:=by
 unfold zhr
 rw[List.length_append,zav]
 have:=zmb d
 simp
 omega
theorem zwo(h:zpv w base S R D told)(hl:base<=w.heap.size/\∀k,S k->base<=k/\k<w.heap.size)(hr:Rdy base w){v:Value}{ds:List Dd}(hd:∀w',zam S w w'->zpw w' v ds)(hn:ds.length<=1000)(hz:told.length<=700000000):
 Calls Tryz.prog 81 #[.pointer (some ⟨R,0,none⟩),v] w fun e w'=>e= .returned (.tuple #[])/\zfs w base S R D (told++(zb3 ds++zpe)) w':=by
 have HL:=hid hl
 have HR:=hid hr
 have HD:=hid hd
 have H0:Hid (zfs w base S R D (told++zb3 (ds.take 0)) w):=by
  show zfs _ _ _ _ _ _ _
  rw[List.take_zero,zb3,List.append_nil]
  exact h.to hl (Below.refl _ _)
 obtain⟨a,cap,rfl⟩:=qg8 (hd w (zam.refl _ _))
 clear h hl hr hd
 go_enter Tryz.func81,Tryz.ntmps81
 go_wp2_with fail
 go_loopw [10] (fun i wr=>∃k:Nat,k<=ds.length/\i= .int .i64 k/\Hid (zfs w base S R D (told++zb3 (ds.take k)) wr)/\Hid ((zb3 (ds.take k)).length<=201*k)) (fun i _=>ds.length-(intOf i).toNat)
 case atStart=>exact⟨0,Nat.zero_le _,rfl,H0.out,Nat.le_refl _⟩
 obtain⟨k,hk,rfl,HW,HK⟩:=hrel
 clear H0
 by_cases hlt:k<ds.length
 ·have hki:(k:Int)<(ds.length:Int):=by omega
  obtain⟨bb,off,rfl,hrow⟩:=dl_row (HD.out wr HW.out.2) (by omega)
  obtain⟨hbl,g0,g1,g2,g3,g4,g5,g6⟩:=hrow.at_ k hlt
  have HN:Hid (zb3 (ds.take (k+1))=zb3 (ds.take k)++zhr ds[k]):=by show _=_;rw[List.take_succ_eq_append_getElem hlt,zko]
  generalize ds[k]=d at*
  have HLZ:=hid (qf6 d)
  have HLW:Hid (zhr d=(zcy d).data.toList++[10]):=rfl
  obtain⟨kind,by_,no,seen,at_,many,text⟩:=d
  simp only at g0 g1 g2 g3 g4 g5 g6
  clear hrow
  go_upto_region 3 with fail
  have HB:Hid (Below wr.heap.size wr (wr.alloc (.cells #[.int .i64 kind,.int .i64 by_,.int .i64 no,.int .i64 seen,.int .i64 at_,.int .i64 many,.string text] 124))):=za2 _ _
  go_wp2_with fail
  clear g0 g1 g2 g3 g4 g5 g6
  refine(line_any ⟨kind,by_,no,seen,at_,many,text⟩ _ ((HR.out.lk HL.out HW.out).after HB.out).ready).mono ?_
  rintro e w5 ⟨rfl,hb⟩
  have H5:=hid (HW.out.after HL.out (bla HB.out hb))
  clear hb HW HB
  generalize za9 _=cc at*
  obtain⟨s,hs⟩:∃s,zcy ⟨kind,by_,no,seen,at_,many,text⟩=s:=⟨_,rfl⟩
  rw[hs]at HLW⊢
  clear hs
  go_wp2_with fail
  have hsay:=zs1 H5.out.1 (H5.out.held HL.out) s (by have:=HLZ.out;rw[HLW.out,List.length_append,zav]at this;rw[List.length_append];have:=HK.out;simp at *; omega) (v:= .slice (some ⟨w5.heap.size,0,none⟩) 1 1) rfl
  refine hsay.mono ?_
  rintro e w6 ⟨rfl,h6⟩
  have H6:Hid (zfs w base S R D (told++zb3 (ds.take (k+1))) w6):=by
   show zfs _ _ _ _ _ _ _
   rw[HN.out,HLW.out,<-List.append_assoc]
   exact H5.out.trans h6 HL.out
  have HK6:Hid ((zb3 (ds.take (k+1))).length<=201*(k+1)):=by
   show _<=_
   rw[HN.out,List.length_append]
   have:=HK.out
   have:=HLZ.out
   omega
  clear h6 hsay H5
  go_wp2_with fail
  go_roundw
  case rel=>exact⟨k+1,by omega,by go_num,H6.out,HK6.out⟩
  case measure=>simp[intOf];omega
 obtain rfl:k=ds.length:=by omega
 have HE:Hid (ds.take ds.length=ds):=List.take_length
 rw[HE.out]at HW HK
 go_wp2_with fail
 have hsay:=zs1 HW.out.1 (HW.out.held HL.out) ⟨#[101,110,100]⟩ (by rw[List.length_append];have:=HK.out;show _+3<=_;omega) (v:= .slice (some ⟨wr.heap.size,0,none⟩) 1 1) rfl
 refine hsay.mono ?_
 rintro e w6 ⟨rfl,h6⟩
 have H6:Hid (zfs w base S R D (told++(zb3 ds++zpe)) w6):=by
  show zfs _ _ _ _ _ _ _
  rw[<-List.append_assoc]
  exact HW.out.trans h6 HL.out
 clear h6 hsay HW
 go_wp2_with fail
 go_end0
 exact⟨rfl,H6.out⟩
end
end Go.Proofs.YtcbnnfeelhlapadGreatDoor