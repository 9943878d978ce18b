/-
  A region that draws its order, as in FStage; but some operations that leave the world alone (the LATE ones) read what an operation of the spine has made, and wait for it: the class of worlds gets smaller at each operation of the spine. No walk of the program.
-/
import Derived.Test.YtcbnnfeelhlapadGreatDoorFStage
import Derived.BigQuiet
namespace Go.Proofs.YtcbnnfeelhlapadGreatDoor
open Go
abbrev Cls:=World→Prop
section
variable {P:Program} {ops:Array Oper} {md:Region.Mode} {U0:Cls} {sp lt:Nat→Bool}
def zjc(P:Program)(o:Oper)(a:Act)(U D:Cls)(p:Value→Prop)(U' D':Value→Cls):Prop:=
 (∃v,p v)∧(∀v w,U' v w→U w)∧(∀v w,D' v w→U' v w)∧∀w,D w→zb5 P (fun v w'=>p v∧D' v w') ((execOp a.eval o).run P w)
def zce(P:Program)(U0:Cls)(s t:Bool)(o:Oper)(a:Act)(U D:Cls)(K:Act→Cls→Cls→Prop):Prop:=
 if s=true then∃p U' D',zjc P o a U D p U' D'∧∀v,p v→K (a.put o.dst v) (U' v) (D' v)
 else∃v,ze9 P (if t=true then U else U0) o a v∧K (a.put o.dst v) U D
def zf3(P:Program)(ops:Array Oper)(U0:Cls)(sp lt:Nat→Bool)(Q:Act→World→Prop):List Oper→Nat→Act→Cls→Cls→Prop
 |[],_,a,_,D=>∀w,D w→Q a w
 |o::rest,k,a,U,D=>if Region.wanted o (yielded ops a.tmps)=true then zce P U0 (sp k) (lt k) o a U D (zf3 P ops U0 sp lt Q rest (k+1))else zf3 P ops U0 sp lt Q rest (k+1) (a.put o.dst undef) U D
def zgp(P:Program)(ops:Array Oper)(U0:Cls)(sp lt:Nat→Bool)(i:Nat)(K:Act→Cls→Cls→Prop)(a:Act)(U D:Cls):Prop:=
 match ops[i]? with
 |none=>K a U D
 |some o=>if Region.wanted o (yielded ops a.tmps)=true then zce P U0 (sp i) (lt i) o a U D K else K (a.put o.dst undef) U D
theorem zso{s t:Bool}{o:Oper}{a:Act}{U D:Cls}{K K':Act→Cls→Cls→Prop}(h:∀a U' D',(∀w,U' w→U w)→K a U' D'→K' a U' D')(hh:zce P U0 s t o a U D K):zce P U0 s t o a U D K':=by
 unfold zce at*
 cases s
 ·obtain⟨v,h1,h2⟩:=hh
  exact⟨v,h1,h _ _ _ (fun _ h=>h) h2⟩
 ·obtain⟨p,U',D',h1,h2⟩:=hh
  exact⟨p,U',D',h1,fun v hv=>h _ _ _ (h1.2.1 v) (h2 v hv)⟩
theorem zx9{i:Nat}{a:Act}{U D:Cls}{K K':Act→Cls→Cls→Prop}(h:∀a U' D',(∀w,U' w→U w)→K a U' D'→K' a U' D')(hh:zgp P ops U0 sp lt i K a U D):zgp P ops U0 sp lt i K' a U D:=by
 unfold zgp at*
 cases ho:ops[i]? with
 |none=>rw[ho]at hh;exact h _ _ _ (fun _ h=>h) hh
 |some o=>
  rw[ho]at hh
  show if _ then _ else _
  have hh':if Region.wanted o (yielded ops a.tmps)=true then zce P U0 (sp i) (lt i) o a U D K else K (a.put o.dst undef) U D:=hh
  by_cases hw:Region.wanted o (yielded ops a.tmps)=true
  ·rw[if_pos hw]at hh'⊢;exact zso h hh'
  ·rw[if_neg hw]at hh'⊢;exact h _ _ _ (fun _ h=>h) hh'
def zin(P:Program)(md:Region.Mode)(ops:Array Oper)(U0:Cls)(sp lt:Nat→Bool)(Q:Act→World→Prop):Nat→Array Bool→Act→Cls→Cls→Prop
 | 0,listed,a,_,D=>Region.ready md ops listed=[]∧∀w,D w→Q a w
 |fuel+1,listed,a,U,D=>
  (Region.ready md ops listed=[]→∀w,D w→Q a w)∧
  ∀i∈Region.ready md ops listed,zgp P ops U0 sp lt i (zin P md ops U0 sp lt Q fuel (listed.setIfInBounds i true)) a U D
theorem qa6{s t:Bool}{o:Oper}{a:Act}{U D:Cls}{K:Act→Cls→Cls→Prop}{K':Act→World→Prop}{Q':Exit→Act→World→Prop}{w:World}(hU:∀w,U w→U0 w)(hDU:∀w,D w→U w)(hw:D w)
 (h:∀a (U' D':Cls) w',(∀w,U' w→U0 w)→(∀w,D' w→U' w)→D' w'→K a U' D'→K' a w') (hh:zce P U0 s t o a U D K):o.wp P a w K' Q':=by
 unfold zce at hh
 unfold Oper.wp
 cases s
 ·obtain⟨v,h1,h2⟩:=hh
  have hr:(execOp a.eval o).run P w= .ok (.value v) w:=by
   apply h1
   cases t
   ·exact hU w (hDU w hw)
   ·exact hDU w hw
  rw[hr]
  exact h _ U D _ hU hDU hw h2
 ·obtain⟨p,U',D',⟨_,hU',hD',h1⟩,h2⟩:=hh
  have h3:=h1 w hw
  generalize (execOp a.eval o).run P w=r at*
  cases r with
  |ok n w'=>
   cases n<;>simp only[zb5]at h3<;>simp only[Oper.upon]
   case value u=>exact h _ (U' u) (D' u) _ (fun w hw=>hU w (hU' u w hw)) (hD' u) h3.2 (h2 u h3.1)
   case skip=>exact h _ (U' undef) (D' undef) _ (fun w hw=>hU w (hU' undef w hw)) (hD' undef) h3.2 (h2 undef h3.1)
   case enter f args=>
    exact h3.mono fun e w'' ⟨v,he,hp,hd⟩=>by subst he;exact h _ (U' v) (D' v) _ (fun w hw=>hU w (hU' v w hw)) (hD' v) hd (h2 v hp)
  |halt x w'=>simp only[zb5]at h3
theorem zeu{Q:Act→World→Prop}{Q':Exit→Act→World→Prop}(hQ:∀a w,Q a w→Q' .normal a w):∀(fuel:Nat) (listed:Array Bool) (a:Act) (U D:Cls) (w:World),(∀w,U w→U0 w)→(∀w,D w→U w)→D w→
 zin P md ops U0 sp lt Q fuel listed a U D→wpAny P md ops Q' fuel listed a w
 | 0,_,_,_,_,_,_,_,hw,h=>⟨h.1,hQ _ _ (h.2 _ hw)⟩
 |fuel+1,listed,a,U,D,w,hU,hD,hw,h=>⟨fun h0=>hQ _ _ (h.1 h0 _ hw),fun i hi=>by
  have h1:=h.2 i hi
  unfold zgp at h1
  unfold wpOp
  cases ho:ops[i]? with
  |none=>rw[ho]at h1;exact zeu hQ fuel _ _ U D _ hU hD hw h1
  |some o=>
   rw[ho]at h1
   have h2:if Region.wanted o (yielded ops a.tmps)=true then zce P U0 (sp i) (lt i) o a U D (zin P md ops U0 sp lt Q fuel (listed.setIfInBounds i true))else zin P md ops U0 sp lt Q fuel (listed.setIfInBounds i true) (a.put o.dst undef) U D:=h1
   show if _ then _ else _
   by_cases hwt:Region.wanted o (yielded ops a.tmps)=true
   ·rw[if_pos hwt]at h2⊢
    exact .inl (qa6 hU hD hw (fun a' U' D' w' hU' hD' hd hk=>zeu hQ fuel _ a' U' D' w' hU' hD' hd hk) h2)
   ·rw[if_neg hwt]at h2⊢
    exact zeu hQ fuel _ _ U D _ hU hD hw h2⟩
theorem zd3.less{U U':Cls}{s:Bool}{o:Oper}{v:Value}{a:Act}(h:zd3 P ops U s o v a)(hU:∀w,U' w→U w):zd3 P ops U' s o v a:=by
 rcases h with⟨h1,h2,h3⟩|h
 ·exact .inl ⟨h1,h2,fun w hw=>h3 w (hU w hw)⟩
 ·exact .inr h
theorem qbb{s:Bool}{j:Nat}{oi oj:Oper}{v:Value}(hj:ops[j]? =some oj)(hap:oi.apart ops oj=true)
 (hsi:∀cs b,oi.op≠ .select cs b) (hsj:∀cs b,oj.op≠ .select cs b) {K:Act→Cls→Cls→Prop} {a:Act} {U D:Cls} {t:Bool}
 (hy:zd3 P ops (if t=true then U else U0) s oi v a) (h:zgp P ops U0 sp lt j K (a.put oi.dst v) U D):
 zgp P ops U0 sp lt j (fun a' U' D'=>zd3 P ops (if t=true then U' else U0) s oi v a'∧K (a'.put oi.dst v) U' D') a U D:=by
 obtain⟨h1,h2,h3⟩:=Oper.apart_spec hap
 unfold zgp at*
 simp only[hj]at*
 rw[wanted_put oj a oi.dst v h1]at h
 by_cases hw:Region.wanted oj (yielded ops a.tmps)=true
 ·rw[if_pos hw]at h⊢
  unfold zce zjc at*
  cases hs:sp j
  ·rw[hs]at h
   obtain⟨u,hu,hn⟩:=h
   refine⟨u,?_,hy.put hsi h3,by rw[←Act.put_comm a v u h2];exact hn⟩
   unfold ze9 at hu⊢
   rw[execOp_put oj hsj a oi.dst v h1]at hu
   exact hu
  ·rw[hs]at h
   obtain⟨p,U',D',hu,hn⟩:=h
   rw[execOp_put oj hsj a oi.dst v h1]at hu
   refine⟨p,U',D',hu,fun u hp=>⟨?_,by rw[←Act.put_comm a v u h2];exact hn u hp⟩⟩
   refine zd3.put hsi h3 (hy.less ?_)
   cases t
   ·exact fun w hw=>hw
   ·exact hu.2.1 u
 ·rw[if_neg hw]at h⊢
  exact⟨hy.put hsi h3,by rw[←Act.put_comm a v undef h2];exact h⟩
theorem zis{s t:Bool}{Q:Act→World→Prop}{i:Nat}{oi:Oper}{v:Value}(hi:ops[i]? =some oi)(hsel:∀(j:Nat) (o:Oper) cs b,ops[j]? =some o→o.op≠ .select cs b)
 (hown:∀{K:Act→Cls→Cls→Prop} {a:Act} {U D:Cls},zd3 P ops (if t=true then U else U0) s oi v a→K (a.put oi.dst v) U D→zgp P ops U0 sp lt i K a U D):
 ∀(fuel:Nat) (listed:Array Bool) (a:Act) (U D:Cls),zhb md ops oi i listed→i∈Region.ready md ops listed→zd3 P ops (if t=true then U else U0) s oi v a→
  zin P md ops U0 sp lt Q fuel (listed.setIfInBounds i true) (a.put oi.dst v) U D→zin P md ops U0 sp lt Q (fuel+1) listed a U D:=by
 intro fuel
 induction fuel with
 |zero=>
  intro listed a U D _ hr hy H
  refine⟨fun h=>(by rw[h]at hr;cases hr),fun j hj=> ?_⟩
  by_cases hji:j=i
  ·subst hji;exact hown hy H
  ·have:=ready_mono hj hji
   rw[H.1]at this
   cases this
 |succ fuel ih=>
  intro listed a U D hfree hr hy H
  refine⟨fun h=>(by rw[h]at hr;cases hr),fun j hj=> ?_⟩
  by_cases hji:j=i
  ·subst hji;exact hown hy H
  ·have h1:=H.2 j (ready_mono hj hji)
   obtain⟨hjun,oj,hoj,hall⟩:=mem_ready.1 hj
   have h2:=qbb hoj (hfree j oj hoj hji hjun (zgn hr hall)) (fun cs b=>hsel i oi cs b hi) (fun cs b=>hsel j oj cs b hoj) hy h1
   refine zx9 (fun a' U' D' _ h3=>ih (listed.setIfInBounds j true) a' U' D' (hfree.later hjun) (ready_mono hr (Ne.symm hji)) h3.1 ?_) h2
   rw[Array.setIfInBounds_comm _ _ hji]
   exact h3.2
def Lone(md:Region.Mode)(ops:Array Oper)(sp lt:Nat→Bool)(i:Nat)(listed:Array Bool):Prop:=
 ∀j oj,(sp j||lt j)=true→j≠i→ops[j]? =some oj→listed.getD j true=false→∃e∈oj.after,Region.binds md e=true∧sp e.on=true∧listed.getD e.on false=false
theorem Lone.not_ready{i j:Nat}{listed:Array Bool}(h:Lone md ops sp lt i listed)(hj:j∈Region.ready md ops listed)(hji:j≠i):sp j=false∧lt j=false:=by
 obtain⟨hun,oj,hoj,hall⟩:=mem_ready.1 hj
 cases hs:(sp j||lt j)
 ·exact Bool.or_eq_false_iff.1 hs
 ·obtain⟨e,he,hb,_,hl⟩:=h j oj hs hji hoj hun
  rw[hall e he hb]at hl
  cases hl
theorem Lone.later{i j:Nat}{listed:Array Bool}(h:Lone md ops sp lt i listed)(hs:sp j=false):Lone md ops sp lt i (listed.setIfInBounds j true):=by
 intro k ok hk hki hok hun
 by_cases hjk:j=k
 ·subst hjk
  rcases Nat.lt_or_ge j listed.size with h'|h'
  ·simp[h']at hun
  ·rw[show listed.setIfInBounds j true=listed by simp[Array.setIfInBounds,Nat.not_lt.2 h']]at hun
   simp[Array.getElem?_eq_none h']at hun
 ·rw[getD_set_ne true hjk]at hun
  obtain⟨e,he,hb,hse,hl⟩:=h k ok hk hki hok hun
  have hje:j≠e.on:=fun e'=>by rw[e',hse]at hs;cases hs
  exact⟨e,he,hb,hse,by rw[getD_set_ne false hje];exact hl⟩
theorem zng{Q:Act→World→Prop}{i:Nat}{oi:Oper}{p:Value→Prop}{U' D':Value→Cls}{w0:World}(hw0:U0 w0)(hi:ops[i]? =some oi)(hsi:sp i=true)(hsel:∀(j:Nat) (o:Oper) cs b,ops[j]? =some o→o.op≠ .select cs b):
 ∀(fuel:Nat) (listed:Array Bool) (a:Act) (U D:Cls),zhb md ops oi i listed→Lone md ops sp lt i listed→i∈Region.ready md ops listed→Region.wanted oi (yielded ops a.tmps)=true→zjc P oi a U D p U' D'→
  (∀v,p v→zin P md ops U0 sp lt Q fuel (listed.setIfInBounds i true) (a.put oi.dst v) (U' v) (D' v))→zin P md ops U0 sp lt Q (fuel+1) listed a U D:=by
 intro fuel
 induction fuel with
 |zero=>
  intro listed a U D _ _ hr hw hy H
  refine⟨fun h=>(by rw[h]at hr;cases hr),fun j hj=> ?_⟩
  by_cases hji:j=i
  ·subst hji
   unfold zgp
   simp only[hi,if_pos hw]
   unfold zce
   rw[if_pos hsi]
   exact⟨p,U',D',hy,H⟩
  ·obtain⟨v0,hv0⟩:=hy.1
   have:=ready_mono hj hji
   rw[(H v0 hv0).1]at this
   cases this
 |succ fuel ih=>
  intro listed a U D hfree hal hr hw hy H
  refine⟨fun h=>(by rw[h]at hr;cases hr),fun j hj=> ?_⟩
  by_cases hji:j=i
  ·subst hji
   unfold zgp
   simp only[hi,if_pos hw]
   unfold zce
   rw[if_pos hsi]
   exact⟨p,U',D',hy,H⟩
  ·obtain⟨hjun,oj,hoj,hall⟩:=mem_ready.1 hj
   obtain⟨hsj,hlj⟩:=hal.not_ready hj hji
   have hap:=hfree j oj hoj hji hjun (zgn hr hall)
   obtain⟨h1,h2,h3⟩:=Oper.apart_spec hap
   have seli:=fun cs b=>hsel i oi cs b hi
   have selj:=fun cs b=>hsel j oj cs b hoj
   have hw':∀u,Region.wanted oi (yielded ops (a.put oj.dst u).tmps)=true:=fun u=>by rw[wanted_put oi a oj.dst u h3];exact hw
   have hy':∀u,zjc P oi (a.put oj.dst u) U D p U' D':=fun u=>by unfold zjc at *; rw[execOp_put oi seli a oj.dst u h3];exact hy
   have hop:∀v,p v→zgp P ops U0 sp lt j (zin P md ops U0 sp lt Q fuel ((listed.setIfInBounds i true).setIfInBounds j true)) (a.put oi.dst v) (U' v) (D' v):=fun v hv=>(H v hv).2 j (ready_mono hj hji)
   unfold zgp at hop⊢
   simp only[hoj]at hop⊢
   by_cases hwj:Region.wanted oj (yielded ops a.tmps)=true
   ·rw[if_pos hwj]
    unfold zce
    rw[if_neg (by simp[hsj]),hlj]
    have hst:∀v,p v→∃u,ze9 P U0 oj a u∧zin P md ops U0 sp lt Q fuel ((listed.setIfInBounds i true).setIfInBounds j true) ((a.put oi.dst v).put oj.dst u) (U' v) (D' v):=fun v hv=>by
     have h4:=hop v hv
     rw[wanted_put oj a oi.dst v h1,if_pos hwj]at h4
     unfold zce at h4
     rw[if_neg (by simp[hsj]),hlj]at h4
     obtain⟨u,hu,hk⟩:=h4
     refine⟨u,?_,hk⟩
     have hu':ze9 P U0 oj (a.put oi.dst v) u:=hu
     unfold ze9 at hu'⊢
     rw[execOp_put oj selj a oi.dst v h1]at hu'
     exact hu'
    obtain⟨v0,hv0⟩:=hy.1
    obtain⟨u,hu,_⟩:=hst v0 hv0
    refine⟨u,hu,ih (listed.setIfInBounds j true) _ U D (hfree.later hjun) (hal.later hsj) (ready_mono hr (Ne.symm hji)) (hw' u) (hy' u) (fun v hv=> ?_)⟩
    obtain⟨u',hu',hk⟩:=hst v hv
    have e:u'=u:=by
     have e1:=hu' w0 hw0
     rw[hu w0 hw0]at e1
     simp at e1
     exact e1.symm
    subst e
    rw[←Act.put_comm a v u' h2,Array.setIfInBounds_comm _ _ hji]
    exact hk
   ·rw[if_neg hwj]
    refine ih (listed.setIfInBounds j true) _ U D (hfree.later hjun) (hal.later hsj) (ready_mono hr (Ne.symm hji)) (hw' undef) (hy' undef) (fun v hv=> ?_)
    have h4:=hop v hv
    rw[wanted_put oj a oi.dst v h1,if_neg hwj]at h4
    rw[←Act.put_comm a v undef h2,Array.setIfInBounds_comm _ _ hji]
    exact h4
def qez(md:Region.Mode)(ops:Array Oper)(sp lt:Nat→Bool):Bool:=
 (List.range ops.size).all fun j=> !(sp j||lt j)||(List.range j).all (fun i=> !sp i)||
  match ops[j]? with
  |some oj=>oj.after.any fun e=>Region.binds md e&&sp e.on&&decide (e.on<j)&&(List.range ops.size).all fun i=> !sp i||decide (i≤e.on)||decide (j≤i)
  |none=>true
theorem qey(h:qez md ops sp lt=true){i:Nat}{listed:Array Bool}(hi:sp i=true)(hlow:∀j,j<i→listed.getD j false=true)(hhigh':∀j,i≤j→j<ops.size→listed.getD j false=false):Lone md ops sp lt i listed:=by
 intro j oj hs hji hoj hun
 have hjs:j<ops.size:=(Array.getElem?_eq_some_iff.1 hoj).1
 unfold qez at h
 rw[List.all_eq_true]at h
 have h1:=h j (List.mem_range.2 hjs)
 simp only[hs,hoj,Bool.not_true,Bool.false_or,Bool.or_eq_true,List.all_eq_true,List.mem_range,Bool.not_eq_true']at h1
 by_cases hlt:j<i
 ·have h2:=hlow j hlt
  rcases Nat.lt_or_ge j listed.size with h'|h'
  ·simp[h']at h2 hun;rw[h2]at hun;cases hun
  ·simp[Array.getElem?_eq_none h']at h2
 ·have hij:i<j:=by omega
  rcases h1 with h1|h1
  ·have:=h1 i hij
   rw[hi]at this;cases this
  ·obtain⟨e,he,hb⟩:=Array.any_eq_true'.1 h1
   simp only[Bool.and_eq_true,decide_eq_true_eq,List.all_eq_true,List.mem_range,Bool.or_eq_true,Bool.not_eq_true']at hb
   obtain⟨⟨⟨hb1,hb2⟩,hb3⟩,hb4⟩:=hb
   have hie:i≤e.on:=by
    rcases hb4 i (by omega)with(h5|h5)|h5
    ·rw[hi]at h5;cases h5
    ·exact h5
    ·omega
   exact⟨e,he,hb1,hb2,hhigh' e.on hie (by omega)⟩
theorem zlx{Q:Act→World→Prop}{w0:World}(hw0:U0 w0)(hs:Region.noSelect ops=true)(hc:qez md ops sp lt=true):∀(l:List Oper) (k:Nat) (a:Act) (U D:Cls),(∀j,l[j]? =ops[k+j]?)→k+l.length=ops.size→
 Region.lexFrom md ops l.length k (upto ops.size k)=true→zf3 P ops U0 sp lt Q l k a U D→zin P md ops U0 sp lt Q l.length (upto ops.size k) a U D
 |[],_,_,_,_,_,_,hB,h=>⟨by simpa [Region.lexFrom]using hB,h⟩
 |o::l,k,a,U,D,hl,hsz,hB,h=>by
  have h0:ops[k]? =some o:=by simpa using(hl 0).symm
  simp only[List.length_cons,Region.lexFrom,Bool.and_eq_true]at hB
  obtain⟨⟨hr,hf⟩,hB'⟩:=hB
  rw[zfm]at hB'
  have hr':k∈Region.ready md ops (upto ops.size k):=by simpa using hr
  have hfree:zhb md ops o k (upto ops.size k):=Region.free_spec h0 hf
  have next:∀a' U' D',zf3 P ops U0 sp lt Q l (k+1) a' U' D'→zin P md ops U0 sp lt Q l.length ((upto ops.size k).setIfInBounds k true) a' U' D':=fun a' U' D' hh=>by
   rw[zfm]
   exact zlx hw0 hs hc l (k+1) a' U' D' (fun j=>by have:=hl (j+1);simpa [Nat.add_assoc,Nat.add_comm 1 j]using this) (by simp at hsz;omega) hB' hh
  have h':if Region.wanted o (yielded ops a.tmps)=true then zce P U0 (sp k) (lt k) o a U D (zf3 P ops U0 sp lt Q l (k+1))else zf3 P ops U0 sp lt Q l (k+1) (a.put o.dst undef) U D:=h
  by_cases hw:Region.wanted o (yielded ops a.tmps)=true
  ·rw[if_pos hw]at h'
   unfold zce at h'
   cases hsp:sp k
   ·rw[hsp]at h'
    obtain⟨v,hv,hk⟩:=h'
    refine zis (s:=false) (t:=lt k) h0 (Region.noSelect_spec hs) ?_ l.length _ a U D hfree hr' (.inl ⟨rfl,hw,hv⟩) (next _ _ _ hk)
    intro K a U D hy hK
    unfold zgp
    simp only[h0]
    rcases hy with⟨_,hw2,hv2⟩|⟨hw2,rfl⟩
    ·rw[if_pos hw2]
     unfold zce
     rw[hsp]
     exact⟨v,hv2,hK⟩
    ·rw[if_neg (by simp[hw2])]
     exact hK
   ·rw[hsp]at h'
    obtain⟨p,U',D',hy,hk⟩:=h'
    have hks:k<ops.size:=by simp at hsz;omega
    refine zng hw0 h0 hsp (Region.noSelect_spec hs) l.length _ a U D hfree (qey hc hsp (fun j hj=> ?_) (fun j hj hjs=> ?_)) hr' hw hy (fun v hv=>next _ _ _ (hk v hv))
    ·rw[zm0 (by omega)];exact decide_eq_true hj
    ·rw[zm0 hjs];exact decide_eq_false (by omega)
  ·rw[if_neg hw]at h'
   have hw':Region.wanted o (yielded ops a.tmps)=false:=by simpa using hw
   refine zis (s:=true) (t:=true) h0 (Region.noSelect_spec hs) ?_ l.length _ a U D hfree hr' (.inr ⟨hw',rfl⟩) (next _ _ _ h')
   intro K a U D hy hK
   unfold zgp
   simp only[h0]
   rcases hy with⟨hf,_⟩|⟨hw2,_⟩
   ·cases hf
   ·rw[if_neg (by simp[hw2])]
    exact hK
theorem wp_region_late{id:Nat}{Q:Exit→Act→World→Prop}{a:Act}{w:World}(U0:Cls)(sp lt:Nat→Bool)(hm:P.follows .mixedOrders=true)(hB:Region.lexB .any ops=true)(hc:qez .any ops sp lt=true)
 (hD:U0 w.drew) (h:zf3 P ops U0 sp lt (fun a' w'=>Q .normal a' w') ops.toList 0 a U0 U0):(Code.region id ops true).wp P Q a w:=by
 simp only[Region.lexB,Bool.and_eq_true]at hB
 have hD':U0 {w with drawn:=w.drawn+1}:=hD
 refine wp_region_any hm (zeu (U0:=U0) (sp:=sp) (lt:=lt) (Q:=fun a' w'=>Q .normal a' w') (fun _ _ h=>h) _ _ _ U0 U0 _ (fun _ h=>h) (fun _ h=>h) hD' ?_)
 have:=zlx (md:= .any) hD' hB.1 hc ops.toList 0 a U0 U0 (by simp) (by simp) (by rw[zda];simpa using hB.2) h
 rw[zda]at this
 simpa using this
theorem zhh{Q:Act→World→Prop}{a:Act}{k:Nat}{U D:Cls}(h:∀w,D w→Q a w):zf3 P ops U0 sp lt Q [] k a U D:=h
theorem ztd{Q:Act→World→Prop}{a:Act}{o:Oper}{rest:List Oper}{k:Nat}{U D:Cls}(hs:(sp k||lt k)=false)
 (h:∀K:Act→Prop,(∀a,zf3 P ops U0 sp lt Q rest (k+1) a U D→K a)→if Region.wanted o (yielded ops a.tmps)=true then∃v,(∀w,U0 w→(execOp a.eval o).run P w= .ok (.value v) w)∧K (a.put o.dst v)else K (a.put o.dst undef)):zf3 P ops U0 sp lt Q (o::rest) k a U D:=by
 have h1:=h (fun a=>zf3 P ops U0 sp lt Q rest (k+1) a U D) (fun _ h=>h)
 obtain⟨hs1,hs2⟩:=Bool.or_eq_false_iff.1 hs
 show if _ then _ else _
 by_cases hw:Region.wanted o (yielded ops a.tmps)=true
 ·rw[if_pos hw]at h1⊢
  unfold zce
  rw[hs1,hs2]
  exact h1
 ·rw[if_neg hw]at h1⊢
  exact h1
theorem zte{Q:Act→World→Prop}{a:Act}{o:Oper}{rest:List Oper}{k:Nat}{U D:Cls}(hs:sp k=true)(hw:Region.wanted o (yielded ops a.tmps)=true)(p:Value→Prop)(U' D':Value→Cls)(hp:∃v,p v)(hU:∀v w,U' v w→U w)(hD:∀v w,D' v w→U' v w)
 (hrun:∀w,D w→zb5 P (fun v w'=>p v∧D' v w') ((execOp a.eval o).run P w)) (h:∀v,p v→zf3 P ops U0 sp lt Q rest (k+1) (a.put o.dst v) (U' v) (D' v)):zf3 P ops U0 sp lt Q (o::rest) k a U D:=by
 show if _ then _ else _
 rw[if_pos hw]
 unfold zce
 rw[hs]
 exact⟨p,U',D',⟨hp,hU,hD,hrun⟩,h⟩
end
section
variable {P:Program} {ops:Array Oper} {U0:Cls} {sp lt:Nat→Bool}
theorem zcp{d:Option Tmp}{v:Value}{a:Act}{K:Act→Prop}(w0:World)(h:Oper.quiet P ⟨d,.move (.const v),0,"",#[],none⟩ a (fun _=>True) K):K (a.put d v):=by
 obtain⟨v',hq,hk⟩:=h
 have h1:=hq w0 trivial
 unfold Oper.quietAt at h1
 rw[BigFrame.run_move (.const v) rfl]at h1
 obtain⟨_,h2⟩:=h1
 have h3:v=v':=h2
 subst h3
 exact hk
theorem wlb{Q:Act→World→Prop}{a:Act}{o:Oper}{rest:List Oper}{k:Nat}{U D:Cls}(d:Option Tmp)(w0:World)(hs:(sp k||lt k)=false)(v:Value)(hd:o.dst=d)(hw:Region.wanted o (yielded ops a.tmps)=true)
 (hrun:∀w,U0 w→(execOp a.eval o).run P w= .ok (.value v) w) (h:Oper.quiet P ⟨d,.move (.const v),0,"",#[],none⟩ a (fun _=>True) (fun a'=>zf3 P ops U0 sp lt Q rest (k+1) a' U D)):zf3 P ops U0 sp lt Q (o::rest) k a U D:=
 ztd hs fun K hK=>by
  rw[if_pos hw]
  refine⟨v,hrun,hK _ ?_⟩
  rw[hd]
  exact zcp w0 h
theorem wls{Q:Act→World→Prop}{a:Act}{o:Oper}{rest:List Oper}{k:Nat}{U D:Cls}(d:Option Tmp)(w0:World)(hs:sp k=true)(hd:o.dst=d)(hw:Region.wanted o (yielded ops a.tmps)=true)(p:Value→Prop)(U' D':Value→Cls)(hp:∃v,p v)(hU:∀v w,U' v w→U w)(hD:∀v w,D' v w→U' v w)
 (hrun:∀w,D w→zb5 P (fun v w'=>p v∧D' v w') ((execOp a.eval o).run P w)) (h:∀v,p v→Oper.quiet P ⟨d,.move (.const v),0,"",#[],none⟩ a (fun _=>True) (fun a'=>zf3 P ops U0 sp lt Q rest (k+1) a' (U' v) (D' v))):zf3 P ops U0 sp lt Q (o::rest) k a U D:=
 zte hs hw p U' D' hp hU hD hrun fun v hv=>by
  rw[hd]
  exact zcp w0 (h v hv)
end
end Go.Proofs.YtcbnnfeelhlapadGreatDoor