/-
  FFin, FGrow, FMeets, FDeeds, LMem.
-/
import Derived.Test.YtcbnnfeelhlapadGreatDoorFBig
namespace Go.Proofs.YtcbnnfeelhlapadGreatDoor
open Go.RowKit
variable {s:Bool} {a:Act} {D:World->Prop} {listed:Array Bool} {i k:Nat} {Q:Act->World->Prop}
section
variable {P:Program} {ops:Array Oper} {md:Region.Mode} {U:World->Prop} {sp fin:Nat->Bool}
abbrev zh5(U:World->Prop)(f:Bool):World->Prop:=fun w=>f=true\/U w
def zd0(P:Program)(U U':World->Prop)(s:Bool)(o:Oper)(a:Act)(D:World->Prop)(K:Act->(World->Prop)->Prop):Prop:=
 if s=true then∃p D',zfu P U' o a D p D'/\∀v,p v->K (a.put o.dst v) (D' v)
 else∃v,ze6 P U o a v/\K (a.put o.dst v) D
def zg4(P:Program)(ops:Array Oper)(U:World->Prop)(sp fin:Nat->Bool)(Q:Act->World->Prop):List Oper->Nat->Act->(World->Prop)->Prop
 |[],_,a,D=>∀w,D w->Q a w
 |o::rest,k,a,D=>if Region.wanted o (yielded ops a.tmps)=true then zd0 P U (zh5 U (fin k)) (sp k) o a D (zg4 P ops U sp fin Q rest (k+1))else zg4 P ops U sp fin Q rest (k+1) (a.put o.dst undef) D
def zks(P:Program)(ops:Array Oper)(U:World->Prop)(sp fin:Nat->Bool)(i:Nat)(K:Act->(World->Prop)->Prop)(a:Act)(D:World->Prop):Prop:=
 match ops[i]? with
 |none=>K a D
 |some o=>if Region.wanted o (yielded ops a.tmps)=true then zd0 P U (zh5 U (fin i)) (sp i) o a D K else K (a.put o.dst undef) D
theorem zv8{U':World->Prop}{o:Oper}{K K':Act->(World->Prop)->Prop}(h:∀a D,K a D->K' a D)(hh:zd0 P U U' s o a D K):zd0 P U U' s o a D K':=by
 unfold zd0 at*
 cases s
 ·obtain⟨v,h1,h2⟩:=hh
  exact⟨v,h1,h _ _ h2⟩
 obtain⟨p,D',h1,h2⟩:=hh
 exact⟨p,D',h1,fun v hv=>h _ _ (h2 v hv)⟩
theorem qbs{i:Nat}{a:Act}{D:World->Prop}{K K':Act->(World->Prop)->Prop}(h:∀a D,K a D->K' a D)(hh:zks P ops U sp fin i K a D):zks P ops U sp fin i K' a D:=by
 unfold zks at*
 cases ho:ops[i]? with
 |none=>rw[ho]at hh;exact h _ _ hh
 |some o=>
  rw[ho]at hh
  show if _ then _ else _
  have hh':if Region.wanted o (yielded ops a.tmps)=true then zd0 P U (zh5 U (fin i)) (sp i) o a D K else K (a.put o.dst undef) D:=hh
  by_cases hw:Region.wanted o (yielded ops a.tmps)=true
  ·rw[if_pos hw]at hh'⊢;exact zv8 h hh'
  rw[if_neg hw]at hh'⊢;exact h _ _ hh'
def zhh(P:Program)(md:Region.Mode)(ops:Array Oper)(U:World->Prop)(sp fin:Nat->Bool)(Q:Act->World->Prop):Nat->Array Bool->Act->(World->Prop)->Prop
 | 0,listed,a,D=>Region.ready md ops listed=[]/\∀w,D w->Q a w
 |fuel+1,listed,a,D=>
  (Region.ready md ops listed=[]->∀w,D w->Q a w)/\
  ∀i∈Region.ready md ops listed,zks P ops U sp fin i (zhh P md ops U sp fin Q fuel (listed.setIfInBounds i true)) a D
theorem qci{U':World->Prop}(hUU:∀w,U w->U' w){s:Bool}{o:Oper}{a:Act}{D:World->Prop}{K:Act->(World->Prop)->Prop}{K':Act->World->Prop}{Q':Exit->Act->World->Prop}{w:World}(hDU:∀w,D w->U w)(hw:D w)
 (h:∀a (D':World->Prop) w',(∀w,D' w->U' w)->D' w'->K a D'->K' a w') (hh:zd0 P U U' s o a D K):o.wp P a w K' Q':=by
 unfold zd0 at hh
 unfold Oper.wp
 cases s
 ·obtain⟨v,h1,h2⟩:=hh
  rw[h1 w (hDU w hw)]
  exact h _ D _ (fun w hd=>hUU w (hDU w hd)) hw h2
 obtain⟨p,D',⟨_,hU,h1⟩,h2⟩:=hh
 have h3:=h1 w hw
 generalize (execOp a.eval o).run P w=r at*
 cases r with
 |ok n w'=>
  cases n<;>simp only[zb0]at h3<;>simp only[Oper.upon]
  case value u=>exact h _ (D' u) _ (hU u) h3.2 (h2 u h3.1)
  case skip=>exact h _ (D' undef) _ (hU undef) h3.2 (h2 undef h3.1)
  case enter f args=>
   exact h3.mono fun e w'' ⟨v,he,hp,hd⟩=>by subst he;exact h _ (D' v) _ (hU v) hd (h2 v hp)
 |halt x w'=>simp only[zb0]at h3
def zrm(md:Region.Mode)(ops:Array Oper)(listed:Array Bool):Prop:=∀(j:Nat) (oj:Oper),ops[j]? =some oj->listed.getD j false=true->∀e∈oj.after,Region.binds md e=true->listed.getD e.on false=true
theorem zra(h:listed.getD k false=true):(listed.setIfInBounds i true).getD k false=true:=by
 by_cases e:i=k
 ·subst e
  rcases Nat.lt_or_ge i listed.size with h'|h'
  ·simp[h']
  simp[Array.getElem?_eq_none h']at h
 rw[getD_set_ne false e];exact h
theorem zrm.next(h:zrm md ops listed)(hi:i∈Region.ready md ops listed):zrm md ops (listed.setIfInBounds i true):=by
 obtain⟨_,oi,hoi,hall⟩:=mem_ready.1 hi
 intro j oj hoj hl e he hb
 by_cases hji:i=j
 ·subst hji
  rw[hoi]at hoj
  obtain rfl:=Option.some.inj hoj
  exact zra (hall e he hb)
 rw[getD_set_ne false hji]at hl
 exact zra (h j oj hoj hl e he hb)
def FinOk(md:Region.Mode)(ops:Array Oper)(fin:Nat->Bool):Prop:=∀(i:Nat) (listed:Array Bool),zrm md ops listed->fin i=true->i∈Region.ready md ops listed->Region.ready md ops (listed.setIfInBounds i true)=[]
theorem qaa{Q:Act->World->Prop}{Q':Exit->Act->World->Prop}(hQ:∀a w,Q a w->Q' .normal a w){fuel:Nat}{listed:Array Bool}{a:Act}{D:World->Prop}{w:World}(hd:D w)(hr:Region.ready md ops listed=[])(h:zhh P md ops U sp fin Q fuel listed a D):wpAny P md ops Q' fuel listed a w:=by
 cases fuel with
 |zero=>exact⟨h.1,hQ _ _ (h.2 _ hd)⟩
 |succ fuel=>exact⟨fun h0=>hQ _ _ (h.1 h0 _ hd),fun i hi=>by rw[hr]at hi;cases hi⟩
theorem zfg(hok:FinOk md ops fin){Q:Act->World->Prop}{Q':Exit->Act->World->Prop}(hQ:∀a w,Q a w->Q' .normal a w):∀(fuel:Nat) (listed:Array Bool) (a:Act) (D:World->Prop) (w:World),zrm md ops listed->(∀w,D w->U w)->D w->
 zhh P md ops U sp fin Q fuel listed a D->wpAny P md ops Q' fuel listed a w
 | 0,_,_,_,_,_,_,hw,h=>⟨h.1,hQ _ _ (h.2 _ hw)⟩
 |fuel+1,listed,a,D,w,hcl,hU,hw,h=>⟨fun h0=>hQ _ _ (h.1 h0 _ hw),fun i hi=>by
  have h1:=h.2 i hi
  unfold zks at h1
  unfold wpOp
  cases ho:ops[i]? with
  |none=>rw[ho]at h1;exact zfg hok hQ fuel _ _ D _ (hcl.next hi) hU hw h1
  |some o=>
   rw[ho]at h1
   have h2:if Region.wanted o (yielded ops a.tmps)=true then zd0 P U (zh5 U (fin i)) (sp i) o a D (zhh P md ops U sp fin Q fuel (listed.setIfInBounds i true))else zhh P md ops U sp fin Q fuel (listed.setIfInBounds i true) (a.put o.dst undef) D:=h1
   show if _ then _ else _
   by_cases hwt:Region.wanted o (yielded ops a.tmps)=true
   ·rw[if_pos hwt]at h2⊢
    exact .inl (qci (U':=zh5 U (fin i)) (fun _ h=> .inr h) hU hw (fun a' D' w' hU' hd hk=>by
     cases hf:fin i
     ·exact zfg hok hQ fuel _ a' D' w' (hcl.next hi) (fun w hd=>(hU' w hd).resolve_left (by rw[hf];simp)) hd hk
     exact qaa hQ hd (hok i listed hcl hf hi) hk) h2)
   rw[if_neg hwt]at h2⊢
   exact zfg hok hQ fuel _ _ D _ (hcl.next hi) hU hw h2⟩
theorem qfz{j:Nat}{oi oj:Oper}{v:Value}(hj:ops[j]? =some oj)(hap:oi.apart ops oj=true)
 (hsi:∀cs b,oi.op≠ .select cs b) (hsj:∀cs b,oj.op≠ .select cs b) {K:Act->(World->Prop)->Prop} {a:Act} {D:World->Prop}
 (hy:zd2 P ops U s oi v a) (h:zks P ops U sp fin j K (a.put oi.dst v) D):
 zks P ops U sp fin j (fun a' D'=>zd2 P ops U s oi v a'/\K (a'.put oi.dst v) D') a D:=by
 obtain⟨h1,h2,h3⟩:=Oper.apart_spec hap
 unfold zks at*
 simp only[hj]at*
 rw[wanted_put oj a oi.dst v h1]at h
 by_cases hw:Region.wanted oj (yielded ops a.tmps)=true
 ·rw[if_pos hw]at h⊢
  unfold zd0 ze6 zfu at*
  rw[execOp_put oj hsj a oi.dst v h1]at h
  cases hs:sp j
  ·rw[hs]at h
   obtain⟨u,hu,hn⟩:=h
   exact⟨u,hu,hy.put hsi h3,by rw[<-Act.put_comm a v u h2];exact hn⟩
  rw[hs]at h
  obtain⟨p,D',hu,hn⟩:=h
  exact⟨p,D',hu,fun u hp=>⟨hy.put hsi h3,by rw[<-Act.put_comm a v u h2];exact hn u hp⟩⟩
 rw[if_neg hw]at h⊢
 exact⟨hy.put hsi h3,by rw[<-Act.put_comm a v undef h2];exact h⟩
theorem zn4{s:Bool}{Q:Act->World->Prop}{i:Nat}{oi:Oper}{v:Value}(hi:ops[i]? =some oi)(hsel:∀(j:Nat) (o:Oper) cs b,ops[j]? =some o->o.op≠ .select cs b)
 (hown:∀{K:Act->(World->Prop)->Prop} {a:Act} {D:World->Prop},zd2 P ops U s oi v a->K (a.put oi.dst v) D->zks P ops U sp fin i K a D):
 ∀(fuel:Nat) (listed:Array Bool) (a:Act) (D:World->Prop),zh7 md ops oi i listed->i∈Region.ready md ops listed->zd2 P ops U s oi v a->
  zhh P md ops U sp fin Q fuel (listed.setIfInBounds i true) (a.put oi.dst v) D->zhh P md ops U sp fin Q (fuel+1) listed a D:=by
 intro fuel
 induction fuel with
 |zero=>
  intro listed a D _ hr hy H
  refine⟨fun h=>(by rw[h]at hr;cases hr),fun j hj=> ?_⟩
  by_cases hji:j=i
  ·subst hji;exact hown hy H
  have:=ready_mono hj hji
  rw[H.1]at this
  cases this
 |succ fuel ih=>
  intro listed a D hfree hr hy H
  refine⟨fun h=>(by rw[h]at hr;cases hr),fun j hj=> ?_⟩
  by_cases hji:j=i
  ·subst hji;exact hown hy H
  have h1:=H.2 j (ready_mono hj hji)
  obtain⟨hjun,oj,hoj,hall⟩:=mem_ready.1 hj
  have h2:=qfz hoj (hfree j oj hoj hji hjun (zgo hr hall)) (fun cs b=>hsel i oi cs b hi) (fun cs b=>hsel j oj cs b hoj) hy h1
  refine qbs (fun a' D' h3=>ih (listed.setIfInBounds j true) a' D' (hfree.later hjun) (ready_mono hr (Ne.symm hji)) h3.1 ?_) h2
  rw[Array.setIfInBounds_comm _ _ hji]
  exact h3.2
theorem zv7{Q:Act->World->Prop}{i:Nat}{oi:Oper}{p:Value->Prop}{D':Value->World->Prop}{w0:World}(hw0:U w0)(hi:ops[i]? =some oi)(hsi:sp i=true)(hsel:∀(j:Nat) (o:Oper) cs b,ops[j]? =some o->o.op≠ .select cs b):
 ∀(fuel:Nat) (listed:Array Bool) (a:Act) (D:World->Prop),zh7 md ops oi i listed->zvw md ops sp i listed->i∈Region.ready md ops listed->Region.wanted oi (yielded ops a.tmps)=true->zfu P (zh5 U (fin i)) oi a D p D'->
  (∀v,p v->zhh P md ops U sp fin Q fuel (listed.setIfInBounds i true) (a.put oi.dst v) (D' v))->zhh P md ops U sp fin Q (fuel+1) listed a D:=by
 intro fuel
 induction fuel with
 |zero=>
  intro listed a D _ _ hr hw hy H
  refine⟨fun h=>(by rw[h]at hr;cases hr),fun j hj=> ?_⟩
  by_cases hji:j=i
  ·subst hji
   unfold zks
   simp only[hi,if_pos hw]
   unfold zd0
   rw[if_pos hsi]
   exact⟨p,D',hy,H⟩
  obtain⟨v0,hv0⟩:=hy.1
  have:=ready_mono hj hji
  rw[(H v0 hv0).1]at this
  cases this
 |succ fuel ih=>
  intro listed a D hfree hal hr hw hy H
  refine⟨fun h=>(by rw[h]at hr;cases hr),fun j hj=> ?_⟩
  by_cases hji:j=i
  ·subst hji
   unfold zks
   simp only[hi,if_pos hw]
   unfold zd0
   rw[if_pos hsi]
   exact⟨p,D',hy,H⟩
  obtain⟨hjun,oj,hoj,hall⟩:=mem_ready.1 hj
  have hsj:=hal.not_ready hj hji
  have hap:=hfree j oj hoj hji hjun (zgo hr hall)
  obtain⟨h1,h2,h3⟩:=Oper.apart_spec hap
  have seli:=fun cs b=>hsel i oi cs b hi
  have selj:=fun cs b=>hsel j oj cs b hoj
  have hw':∀u,Region.wanted oi (yielded ops (a.put oj.dst u).tmps)=true:=fun u=>by rw[wanted_put oi a oj.dst u h3];exact hw
  have hy':∀u,zfu P (zh5 U (fin i)) oi (a.put oj.dst u) D p D':=fun u=>by unfold zfu at *; rw[execOp_put oi seli a oj.dst u h3];exact hy
  have hop:∀v,p v->zks P ops U sp fin j (zhh P md ops U sp fin Q fuel ((listed.setIfInBounds i true).setIfInBounds j true)) (a.put oi.dst v) (D' v):=fun v hv=>(H v hv).2 j (ready_mono hj hji)
  unfold zks at hop⊢
  simp only[hoj]at hop⊢
  by_cases hwj:Region.wanted oj (yielded ops a.tmps)=true
  ·rw[if_pos hwj]
   unfold zd0
   rw[if_neg (by simp[hsj])]
   have hst:∀v,p v->∃u,ze6 P U oj a u/\zhh P md ops U sp fin Q fuel ((listed.setIfInBounds i true).setIfInBounds j true) ((a.put oi.dst v).put oj.dst u) (D' v):=fun v hv=>by
    have h4:=hop v hv
    rw[wanted_put oj a oi.dst v h1,if_pos hwj]at h4
    unfold zd0 at h4
    rw[if_neg (by simp[hsj])]at h4
    obtain⟨u,hu,hk⟩:=h4
    refine⟨u,?_,hk⟩
    unfold ze6 at hu⊢
    rw[execOp_put oj selj a oi.dst v h1]at hu
    exact hu
   obtain⟨v0,hv0⟩:=hy.1
   obtain⟨u,hu,_⟩:=hst v0 hv0
   refine⟨u,hu,ih (listed.setIfInBounds j true) _ D (hfree.later hjun) (hal.later hsj) (ready_mono hr (Ne.symm hji)) (hw' u) (hy' u) (fun v hv=> ?_)⟩
   obtain⟨u',hu',hk⟩:=hst v hv
   have e:u'=u:=by
    have e1:=hu' w0 hw0
    rw[hu w0 hw0]at e1
    simp at e1
    exact e1.symm
   subst e
   rw[<-Act.put_comm a v u' h2,Array.setIfInBounds_comm _ _ hji]
   exact hk
  rw[if_neg hwj]
  refine ih (listed.setIfInBounds j true) _ D (hfree.later hjun) (hal.later hsj) (ready_mono hr (Ne.symm hji)) (hw' undef) (hy' undef) (fun v hv=> ?_)
  have h4:=hop v hv
  rw[wanted_put oj a oi.dst v h1,if_neg hwj]at h4
  rw[<-Act.put_comm a v undef h2,Array.setIfInBounds_comm _ _ hji]
  exact h4
theorem zlu{Q:Act->World->Prop}{w0:World}(hw0:U w0)(hs:Region.noSelect ops=true)(hc:zpm md ops sp=true):∀(l:List Oper) (k:Nat) (a:Act) (D:World->Prop),(∀j,l[j]? =ops[k+j]?)->k+l.length=ops.size->
 Region.lexFrom md ops l.length k (upto ops.size k)=true->zg4 P ops U sp fin Q l k a D->zhh P md ops U sp fin Q l.length (upto ops.size k) a D
 |[],_,_,_,_,_,hB,h=>⟨by simpa [Region.lexFrom]using hB,h⟩
 |o::l,k,a,D,hl,hsz,hB,h=>by
  have h0:ops[k]? =some o:=by simpa using(hl 0).symm
  simp only[List.length_cons,Region.lexFrom,Bool.and_eq_true]at hB
  obtain⟨⟨hr,hf⟩,hB'⟩:=hB
  rw[zfh]at hB'
  have hr':k∈Region.ready md ops (upto ops.size k):=by simpa using hr
  have hfree:zh7 md ops o k (upto ops.size k):=Region.free_spec h0 hf
  have next:∀a' D',zg4 P ops U sp fin Q l (k+1) a' D'->zhh P md ops U sp fin Q l.length ((upto ops.size k).setIfInBounds k true) a' D':=fun a' D' hh=>by
   rw[zfh]
   exact zlu hw0 hs hc l (k+1) a' D' (fun j=>by have:=hl (j+1);simpa [Nat.add_assoc,Nat.add_comm 1 j]using this) (by simp at hsz;omega) hB' hh
  have h':if Region.wanted o (yielded ops a.tmps)=true then zd0 P U (zh5 U (fin k)) (sp k) o a D (zg4 P ops U sp fin Q l (k+1))else zg4 P ops U sp fin Q l (k+1) (a.put o.dst undef) D:=h
  by_cases hw:Region.wanted o (yielded ops a.tmps)=true
  ·rw[if_pos hw]at h'
   unfold zd0 at h'
   cases hsp:sp k
   ·rw[hsp]at h'
    obtain⟨v,hv,hk⟩:=h'
    refine zn4 (s:=false) h0 (Region.noSelect_spec hs) ?_ l.length _ a D hfree hr' (.inl ⟨rfl,hw,hv⟩) (next _ _ hk)
    intro K a D hy hK
    unfold zks
    simp only[h0]
    rcases hy with⟨_,hw2,hv2⟩|⟨hw2,rfl⟩
    ·rw[if_pos hw2]
     unfold zd0
     rw[hsp]
     exact⟨v,hv2,hK⟩
    rw[if_neg (by simp[hw2])]
    exact hK
   rw[hsp]at h'
   obtain⟨p,D',hy,hk⟩:=h'
   have hks:k<ops.size:=by simp at hsz;omega
   refine zv7 hw0 h0 hsp (Region.noSelect_spec hs) l.length _ a D hfree (zrg hc hsp (fun j hj=> ?_) (fun j hj hjs=> ?_)) hr' hw hy (fun v hv=>next _ _ (hk v hv))
   ·rw[zlw (by omega)];exact decide_eq_true hj
   rw[zlw hjs];exact decide_eq_false (by omega)
  rw[if_neg hw]at h'
  have hw':Region.wanted o (yielded ops a.tmps)=false:=by simpa using hw
  refine zn4 (s:=true) h0 (Region.noSelect_spec hs) ?_ l.length _ a D hfree hr' (.inr ⟨hw',rfl⟩) (next _ _ h')
  intro K a D hy hK
  unfold zks
  simp only[h0]
  rcases hy with⟨hf,_⟩|⟨hw2,_⟩
  ·cases hf
  rw[if_neg (by simp[hw2])]
  exact hK
def finB(md:Region.Mode)(ops:Array Oper)(fin:Nat->Bool):Bool:=
 (List.range ops.size).all fun i=> !fin i||match ops[i]? with
  |some o=>(List.range ops.size).all fun j=>decide (j=i)||o.after.any fun e=>Region.binds md e&&(decide (e.on=j)||match ops[e.on]? with
   |some o2=>o2.after.any fun e2=>Region.binds md e2&&decide (e2.on=j)
   |none=>false)
  |none=>true
theorem finB_ok(h:finB md ops fin=true):FinOk md ops fin:=by
 intro i listed hcl hf hi
 obtain⟨hun,oi,hoi,hall⟩:=mem_ready.1 hi
 have his:i<ops.size:=(Array.getElem?_eq_some_iff.1 hoi).1
 unfold finB at h
 rw[List.all_eq_true]at h
 have h1:=h i (List.mem_range.2 his)
 simp only[hf,hoi,Bool.not_true,Bool.false_or,List.all_eq_true,List.mem_range,Bool.or_eq_true,decide_eq_true_eq]at h1
 rw[List.eq_nil_iff_forall_not_mem]
 intro j hj
 obtain⟨hjun,oj,hoj,_⟩:=mem_ready.1 hj
 have hjs:j<ops.size:=(Array.getElem?_eq_some_iff.1 hoj).1
 by_cases hji:j=i
 ·subst hji
  rcases Nat.lt_or_ge j listed.size with h'|h'
  ·simp[h']at hjun
  simp[Array.getElem?_eq_none h']at hun
 have h2:=h1 j hjs
 rcases h2 with h2|h2
 ·exact hji h2
 obtain⟨e,he,hb⟩:=Array.any_eq_true'.1 h2
 simp only[Bool.and_eq_true,Bool.or_eq_true,decide_eq_true_eq]at hb
 have h3':=hall e he hb.1
 have h3:listed.getD j false=true:=by
  rcases hb.2 with hb2|hb2
  ·rw[hb2]at h3';exact h3'
  cases ho2:ops[e.on]? with
  |none=>rw[ho2]at hb2;cases hb2
  |some o2=>
   rw[ho2]at hb2
   obtain⟨e2,he2,hb3⟩:=Array.any_eq_true'.1 hb2
   simp only[Bool.and_eq_true,decide_eq_true_eq]at hb3
   have h4:=hcl e.on o2 ho2 h3' e2 he2 hb3.1
   rw[hb3.2]at h4
   exact h4
 rw[getD_set_ne true (Ne.symm hji)]at hjun
 rcases Nat.lt_or_ge j listed.size with h'|h'
 ·simp[h']at h3 hjun;rw[h3]at hjun;cases hjun
 simp[Array.getElem?_eq_none h']at h3
theorem zl0{id:Nat}{Q:Exit->Act->World->Prop}{w:World}(U:World->Prop)(sp fin:Nat->Bool)(D:World->Prop)(hok:finB .any ops fin=true)(hm:P.follows .mixedOrders=true)(hB:Region.lexB .any ops=true)(hc:zpm .any ops sp=true)
 (hU:∀w,D w->U w) (hD:D w.drew) (h:zg4 P ops U sp fin (fun a' w'=>Q .normal a' w') ops.toList 0 a D):(Code.region id ops true).wp P Q a w:=by
 simp only[Region.lexB,Bool.and_eq_true]at hB
 have hD':D {w with drawn:=w.drawn+1}:=hD
 refine wp_region_any hm (zfg (U:=U) (sp:=sp) (fin:=fin) (finB_ok hok) (Q:=fun a' w'=>Q .normal a' w') (fun _ _ h=>h) _ _ _ D _ (fun j oj hoj hl=>by rcases Nat.lt_or_ge j ops.size with h'|h'<;>simp[h']at hl) hU hD' ?_)
 have:=zlu (md:= .any) (hU _ hD') hB.1 hc ops.toList 0 a D (by simp) (by simp) (by rw[zda];simpa using hB.2) h
 rw[zda]at this
 simpa using this
theorem zhg(h:∀w,D w->Q a w):zg4 P ops U sp fin Q [] k a D:=h
theorem zao{o:Oper}{rest:List Oper}(hs:sp k=false)
 (h:∀K:Act->Prop,(∀a,zg4 P ops U sp fin Q rest (k+1) a D->K a)->if Region.wanted o (yielded ops a.tmps)=true then∃v,(∀w,U w->(execOp a.eval o).run P w= .ok (.value v) w)/\K (a.put o.dst v)else K (a.put o.dst undef)):zg4 P ops U sp fin Q (o::rest) k a D:=by
 have h1:=h (fun a=>zg4 P ops U sp fin Q rest (k+1) a D) (fun _ h=>h)
 show if _ then _ else _
 by_cases hw:Region.wanted o (yielded ops a.tmps)=true
 ·rw[if_pos hw]at h1⊢
  unfold zd0
  rw[hs]
  exact h1
 rw[if_neg hw]at h1⊢
 exact h1
theorem ze5{o:Oper}{rest:List Oper}(hs:sp k=true)(hg:o.guard=none)(p:Value->Prop)(D':Value->World->Prop)(hp:∃v,p v)(hU:∀v w,D' v w->U w)
 (hrun:∀w,D w->zb0 P (fun v w'=>p v/\D' v w') ((execOp a.eval o).run P w)) (h:∀v,p v->zg4 P ops U sp fin Q rest (k+1) (a.put o.dst v) (D' v)):zg4 P ops U sp fin Q (o::rest) k a D:=by
 show if _ then _ else _
 have hw:Region.wanted o (yielded ops a.tmps)=true:=by unfold Region.wanted;rw[hg]
 rw[if_pos hw]
 unfold zd0
 rw[hs]
 exact⟨p,D',⟨hp,fun v w hd=> .inr (hU v w hd),hrun⟩,h⟩
theorem zls{o:Oper}{rest:List Oper}(hs:sp k=true)(hf:fin k=true)(hg:o.guard=none)(p:Value->Prop)(D':Value->World->Prop)(hp:∃v,p v)
 (hrun:∀w,D w->zb0 P (fun v w'=>p v/\D' v w') ((execOp a.eval o).run P w)) (h:∀v,p v->zg4 P ops U sp fin Q rest (k+1) (a.put o.dst v) (D' v)):zg4 P ops U sp fin Q (o::rest) k a D:=by
 show if _ then _ else _
 have hw:Region.wanted o (yielded ops a.tmps)=true:=by unfold Region.wanted;rw[hg]
 rw[if_pos hw]
 unfold zd0
 rw[hs]
 exact⟨p,D',⟨hp,fun _ _ _=> .inl hf,hrun⟩,h⟩
end
variable {s:Bool} {a:Act} {D:World->Prop} {v:Value} {Q:Act->World->Prop} {w:World} {k:Nat}
section
variable {P:Program} {ops:Array Oper} {md:Region.Mode} {U:World->Prop} {sp:Nat->Bool}
def zcb(P:Program)(v:Value)(w:World):Result Next->Prop
 | .ok (.value u) w'=>u=v/\Below w.heap.size w w'
 | .ok (.enter f args) w'=>w'=w/\Calls P f args w (fun e w''=>e= .returned v/\Below w.heap.size w w'')
 |_=>False
def zzv(P:Program)(U:World->Prop)(o:Oper)(a:Act)(v:Value):Prop:=∀w,U w->zcb P v w ((execOp a.eval o).run P w)
def Shut(D:World->Prop):Prop:=∀w w',D w->Below w.heap.size w w'->D w'
def zcv(P:Program)(U:World->Prop)(s:Bool)(o:Oper)(a:Act)(D:World->Prop)(K:Act->(World->Prop)->Prop):Prop:=
 if s=true then∃p D',zfu P U o a D p D'/\(∀v,Shut (D' v))/\∀v,p v->K (a.put o.dst v) (D' v)
 else∃v,zzv P U o a v/\K (a.put o.dst v) D
def zg0(P:Program)(ops:Array Oper)(U:World->Prop)(sp:Nat->Bool)(Q:Act->World->Prop):List Oper->Nat->Act->(World->Prop)->Prop
 |[],_,a,D=>∀w,D w->Q a w
 |o::rest,k,a,D=>if Region.wanted o (yielded ops a.tmps)=true then zcv P U (sp k) o a D (zg0 P ops U sp Q rest (k+1))else zg0 P ops U sp Q rest (k+1) (a.put o.dst undef) D
def zit(P:Program)(ops:Array Oper)(U:World->Prop)(sp:Nat->Bool)(i:Nat)(K:Act->(World->Prop)->Prop)(a:Act)(D:World->Prop):Prop:=
 match ops[i]? with
 |none=>K a D
 |some o=>if Region.wanted o (yielded ops a.tmps)=true then zcv P U (sp i) o a D K else K (a.put o.dst undef) D
theorem zlk{o:Oper}{K K':Act->(World->Prop)->Prop}(h:∀a D,K a D->K' a D)(hh:zcv P U s o a D K):zcv P U s o a D K':=by
 unfold zcv at*
 cases s
 ·obtain⟨v,h1,h2⟩:=hh
  exact⟨v,h1,h _ _ h2⟩
 obtain⟨p,D',h1,hs,h2⟩:=hh
 exact⟨p,D',h1,hs,fun v hv=>h _ _ (h2 v hv)⟩
theorem zxk{i:Nat}{a:Act}{D:World->Prop}{K K':Act->(World->Prop)->Prop}(h:∀a D,K a D->K' a D)(hh:zit P ops U sp i K a D):zit P ops U sp i K' a D:=by
 unfold zit at*
 cases ho:ops[i]? with
 |none=>rw[ho]at hh;exact h _ _ hh
 |some o=>
  rw[ho]at hh
  show if _ then _ else _
  have hh':if Region.wanted o (yielded ops a.tmps)=true then zcv P U (sp i) o a D K else K (a.put o.dst undef) D:=hh
  by_cases hw:Region.wanted o (yielded ops a.tmps)=true
  ·rw[if_pos hw]at hh'⊢;exact zlk h hh'
  rw[if_neg hw]at hh'⊢;exact h _ _ hh'
def zmq(P:Program)(md:Region.Mode)(ops:Array Oper)(U:World->Prop)(sp:Nat->Bool)(Q:Act->World->Prop):Nat->Array Bool->Act->(World->Prop)->Prop
 | 0,listed,a,D=>Region.ready md ops listed=[]/\∀w,D w->Q a w
 |fuel+1,listed,a,D=>
  (Region.ready md ops listed=[]->∀w,D w->Q a w)/\
  ∀i∈Region.ready md ops listed,zit P ops U sp i (zmq P md ops U sp Q fuel (listed.setIfInBounds i true)) a D
theorem qa9{s:Bool}{o:Oper}{a:Act}{D:World->Prop}{K:Act->(World->Prop)->Prop}{K':Act->World->Prop}{Q':Exit->Act->World->Prop}{w:World}(hDU:∀w,D w->U w)(hsh:Shut D)(hw:D w)
 (h:∀a (D':World->Prop) w',(∀w,D' w->U w)->Shut D'->D' w'->K a D'->K' a w') (hh:zcv P U s o a D K):o.wp P a w K' Q':=by
 unfold zcv at hh
 unfold Oper.wp
 cases s
 ·obtain⟨v,h1,h2⟩:=hh
  have h3:=h1 w (hDU w hw)
  generalize (execOp a.eval o).run P w=r at*
  cases r with
  |ok n w'=>
   cases n<;>simp only[zcb]at h3<;>simp only[Oper.upon]
   case value u=>
    obtain⟨rfl,hb⟩:=h3
    exact h _ D _ hDU hsh (hsh _ _ hw hb) h2
   case enter f args=>
    obtain⟨rfl,h3⟩:=h3
    exact h3.mono fun e w'' ⟨he,hb⟩=>by subst he;exact h _ D _ hDU hsh (hsh _ _ hw hb) h2
  |halt x w'=>simp only[zcb]at h3
 obtain⟨p,D',⟨_,hU,h1⟩,hs,h2⟩:=hh
 have h3:=h1 w hw
 generalize (execOp a.eval o).run P w=r at*
 cases r with
 |ok n w'=>
  cases n<;>simp only[zb0]at h3<;>simp only[Oper.upon]
  case value u=>exact h _ (D' u) _ (hU u) (hs u) h3.2 (h2 u h3.1)
  case skip=>exact h _ (D' undef) _ (hU undef) (hs undef) h3.2 (h2 undef h3.1)
  case enter f args=>
   exact h3.mono fun e w'' ⟨v,he,hp,hd⟩=>by subst he;exact h _ (D' v) _ (hU v) (hs v) hd (h2 v hp)
 |halt x w'=>simp only[zb0]at h3
theorem zg5{Q:Act->World->Prop}{Q':Exit->Act->World->Prop}(hQ:∀a w,Q a w->Q' .normal a w):∀(fuel:Nat) (listed:Array Bool) (a:Act) (D:World->Prop) (w:World),(∀w,D w->U w)->Shut D->D w->
 zmq P md ops U sp Q fuel listed a D->wpAny P md ops Q' fuel listed a w
 | 0,_,_,_,_,_,_,hw,h=>⟨h.1,hQ _ _ (h.2 _ hw)⟩
 |fuel+1,listed,a,D,w,hU,hsh,hw,h=>⟨fun h0=>hQ _ _ (h.1 h0 _ hw),fun i hi=>by
  have h1:=h.2 i hi
  unfold zit at h1
  unfold wpOp
  cases ho:ops[i]? with
  |none=>rw[ho]at h1;exact zg5 hQ fuel _ _ D _ hU hsh hw h1
  |some o=>
   rw[ho]at h1
   have h2:if Region.wanted o (yielded ops a.tmps)=true then zcv P U (sp i) o a D (zmq P md ops U sp Q fuel (listed.setIfInBounds i true))else zmq P md ops U sp Q fuel (listed.setIfInBounds i true) (a.put o.dst undef) D:=h1
   show if _ then _ else _
   by_cases hwt:Region.wanted o (yielded ops a.tmps)=true
   ·rw[if_pos hwt]at h2⊢
    exact .inl (qa9 hU hsh hw (fun a' D' w' hU' hs' hd hk=>zg5 hQ fuel _ a' D' w' hU' hs' hd hk) h2)
   rw[if_neg hwt]at h2⊢
   exact zg5 hQ fuel _ _ D _ hU hsh hw h2⟩
def zjn(P:Program)(ops:Array Oper)(U:World->Prop)(s:Bool)(o:Oper)(v:Value)(a:Act):Prop:=
 (s=false/\Region.wanted o (yielded ops a.tmps)=true/\zzv P U o a v)\/(Region.wanted o (yielded ops a.tmps)=false/\v=undef)
theorem zjn.put{s:Bool}{o:Oper}{v:Value}{a:Act}{dst:Option Tmp}{u:Value}(hs:∀cs b,o.op≠ .select cs b)(h3:∀d,dst=some d->d∉o.looksAt ops)(h:zjn P ops U s o v a):zjn P ops U s o v (a.put dst u):=by
 unfold zjn zzv at*
 rw[execOp_put o hs a dst u h3,wanted_put o a dst u h3]
 exact h
theorem qbi{j:Nat}{oi oj:Oper}(hj:ops[j]? =some oj)(hap:oi.apart ops oj=true)
 (hsi:∀cs b,oi.op≠ .select cs b) (hsj:∀cs b,oj.op≠ .select cs b) {K:Act->(World->Prop)->Prop} {a:Act} {D:World->Prop}
 (hy:zjn P ops U s oi v a) (h:zit P ops U sp j K (a.put oi.dst v) D):
 zit P ops U sp j (fun a' D'=>zjn P ops U s oi v a'/\K (a'.put oi.dst v) D') a D:=by
 obtain⟨h1,h2,h3⟩:=Oper.apart_spec hap
 unfold zit at*
 simp only[hj]at*
 rw[wanted_put oj a oi.dst v h1]at h
 by_cases hw:Region.wanted oj (yielded ops a.tmps)=true
 ·rw[if_pos hw]at h⊢
  unfold zcv zzv zfu at*
  rw[execOp_put oj hsj a oi.dst v h1]at h
  cases hs:sp j
  ·rw[hs]at h
   obtain⟨u,hu,hn⟩:=h
   exact⟨u,hu,hy.put hsi h3,by rw[<-Act.put_comm a v u h2];exact hn⟩
  rw[hs]at h
  obtain⟨p,D',hu,hsh,hn⟩:=h
  exact⟨p,D',hu,hsh,fun u hp=>⟨hy.put hsi h3,by rw[<-Act.put_comm a v u h2];exact hn u hp⟩⟩
 rw[if_neg hw]at h⊢
 exact⟨hy.put hsi h3,by rw[<-Act.put_comm a v undef h2];exact h⟩
theorem zn3{s:Bool}{Q:Act->World->Prop}{i:Nat}{oi:Oper}{v:Value}(hi:ops[i]? =some oi)(hsel:∀(j:Nat) (o:Oper) cs b,ops[j]? =some o->o.op≠ .select cs b)
 (hown:∀{K:Act->(World->Prop)->Prop} {a:Act} {D:World->Prop},zjn P ops U s oi v a->K (a.put oi.dst v) D->zit P ops U sp i K a D):
 ∀(fuel:Nat) (listed:Array Bool) (a:Act) (D:World->Prop),zh7 md ops oi i listed->i∈Region.ready md ops listed->zjn P ops U s oi v a->
  zmq P md ops U sp Q fuel (listed.setIfInBounds i true) (a.put oi.dst v) D->zmq P md ops U sp Q (fuel+1) listed a D:=by
 intro fuel
 induction fuel with
 |zero=>
  intro listed a D _ hr hy H
  refine⟨fun h=>(by rw[h]at hr;cases hr),fun j hj=> ?_⟩
  by_cases hji:j=i
  ·subst hji;exact hown hy H
  have:=ready_mono hj hji
  rw[H.1]at this
  cases this
 |succ fuel ih=>
  intro listed a D hfree hr hy H
  refine⟨fun h=>(by rw[h]at hr;cases hr),fun j hj=> ?_⟩
  by_cases hji:j=i
  ·subst hji;exact hown hy H
  have h1:=H.2 j (ready_mono hj hji)
  obtain⟨hjun,oj,hoj,hall⟩:=mem_ready.1 hj
  have h2:=qbi hoj (hfree j oj hoj hji hjun (zgo hr hall)) (fun cs b=>hsel i oi cs b hi) (fun cs b=>hsel j oj cs b hoj) hy h1
  refine zxk (fun a' D' h3=>ih (listed.setIfInBounds j true) a' D' (hfree.later hjun) (ready_mono hr (Ne.symm hji)) h3.1 ?_) h2
  rw[Array.setIfInBounds_comm _ _ hji]
  exact h3.2
def qgx(md:Region.Mode)(ops:Array Oper)(sp:Nat->Bool):Bool:=(List.range ops.size).all fun k=> !sp k||Region.ready md ops (upto ops.size k)==[k]
theorem zqk{Q:Act->World->Prop}(hs:Region.noSelect ops=true)(hc:qgx md ops sp=true):∀(l:List Oper) (k:Nat) (a:Act) (D:World->Prop),(∀j,l[j]? =ops[k+j]?)->k+l.length=ops.size->
 Region.lexFrom md ops l.length k (upto ops.size k)=true->zg0 P ops U sp Q l k a D->zmq P md ops U sp Q l.length (upto ops.size k) a D
 |[],_,_,_,_,_,hB,h=>⟨by simpa [Region.lexFrom]using hB,h⟩
 |o::l,k,a,D,hl,hsz,hB,h=>by
  have h0:ops[k]? =some o:=by simpa using(hl 0).symm
  simp only[List.length_cons,Region.lexFrom,Bool.and_eq_true]at hB
  obtain⟨⟨hr,hf⟩,hB'⟩:=hB
  rw[zfh]at hB'
  have hr':k∈Region.ready md ops (upto ops.size k):=by simpa using hr
  have hfree:zh7 md ops o k (upto ops.size k):=Region.free_spec h0 hf
  have next:∀a' D',zg0 P ops U sp Q l (k+1) a' D'->zmq P md ops U sp Q l.length ((upto ops.size k).setIfInBounds k true) a' D':=fun a' D' hh=>by
   rw[zfh]
   exact zqk hs hc l (k+1) a' D' (fun j=>by have:=hl (j+1);simpa [Nat.add_assoc,Nat.add_comm 1 j]using this) (by simp at hsz;omega) hB' hh
  have h':if Region.wanted o (yielded ops a.tmps)=true then zcv P U (sp k) o a D (zg0 P ops U sp Q l (k+1))else zg0 P ops U sp Q l (k+1) (a.put o.dst undef) D:=h
  by_cases hw:Region.wanted o (yielded ops a.tmps)=true
  ·rw[if_pos hw]at h'
   cases hsp:sp k
   ·rw[hsp]at h'
    unfold zcv at h'
    obtain⟨v,hv,hk⟩:=h'
    refine zn3 (s:=false) h0 (Region.noSelect_spec hs) ?_ l.length _ a D hfree hr' (.inl ⟨rfl,hw,hv⟩) (next _ _ hk)
    intro K a D hy hK
    unfold zit
    simp only[h0]
    rcases hy with⟨_,hw2,hv2⟩|⟨hw2,rfl⟩
    ·rw[if_pos hw2]
     unfold zcv
     rw[hsp]
     exact⟨v,hv2,hK⟩
    rw[if_neg (by simp[hw2])]
    exact hK
   have hks:k<ops.size:=by simp at hsz;omega
   have hal:Region.ready md ops (upto ops.size k)=[k]:=by
    unfold qgx at hc
    rw[List.all_eq_true]at hc
    have:=hc k (List.mem_range.2 hks)
    simpa [hsp]using this
   refine⟨fun h=>(by rw[h]at hr';cases hr'),fun j hj=> ?_⟩
   rw[hal]at hj
   obtain rfl:j=k:=by simpa using hj
   unfold zit
   simp only[h0,if_pos hw]
   exact zlk next h'
  rw[if_neg hw]at h'
  have hw':Region.wanted o (yielded ops a.tmps)=false:=by simpa using hw
  refine zn3 (s:=true) h0 (Region.noSelect_spec hs) ?_ l.length _ a D hfree hr' (.inr ⟨hw',rfl⟩) (next _ _ h')
  intro K a D hy hK
  unfold zit
  simp only[h0]
  rcases hy with⟨hf,_⟩|⟨hw2,_⟩
  ·cases hf
  rw[if_neg (by simp[hw2])]
  exact hK
theorem zbz{id:Nat}{Q:Exit->Act->World->Prop}(U:World->Prop)(sp:Nat->Bool)(D:World->Prop)(hm:P.follows .mixedOrders=true)(hB:Region.lexB .any ops=true)(hc:qgx .any ops sp=true)
 (hU:∀w,D w->U w) (hsh:Shut D) (hD:D w.drew) (h:zg0 P ops U sp (fun a' w'=>Q .normal a' w') ops.toList 0 a D):(Code.region id ops true).wp P Q a w:=by
 simp only[Region.lexB,Bool.and_eq_true]at hB
 have hD':D {w with drawn:=w.drawn+1}:=hD
 refine wp_region_any hm (zg5 (U:=U) (sp:=sp) (Q:=fun a' w'=>Q .normal a' w') (fun _ _ h=>h) _ _ _ D _ hU hsh hD' ?_)
 have:=zqk (md:= .any) hB.1 hc ops.toList 0 a D (by simp) (by simp) (by rw[zda];simpa using hB.2) h
 rw[zda]at this
 simpa using this
theorem zds(h:∀w,D w->Q a w):zg0 P ops U sp Q [] k a D:=h
theorem gus{r:Result Next}(h:r= .ok (.value v) w):zcb P v w r:=by rw[h];exact⟨rfl,Below.refl _ _⟩
theorem wgb{o:Oper}{rest:List Oper}(d:Option Tmp)(w0:World)(hs:sp k=false)(v:Value)(hd:o.dst=d)(hw:Region.wanted o (yielded ops a.tmps)=true)
 (hrun:∀w,U w->zcb P v w ((execOp a.eval o).run P w)) (h:Oper.quiet P ⟨d,.move (.const v),0,"",#[],none⟩ a (fun _=>True) (fun a'=>zg0 P ops U sp Q rest (k+1) a' D)):zg0 P ops U sp Q (o::rest) k a D:=by
 show if _ then _ else _
 rw[if_pos hw]
 unfold zcv
 rw[if_neg (by simp[hs])]
 refine⟨v,hrun,?_⟩
 rw[hd]
 exact zcm w0 h
theorem za1{o:Oper}{rest:List Oper}(d:Option Tmp)(w0:World)(v:Value)(i:Operand)(x:Value)(hrun:∀w,U w->∀r:Operand->Value,r i=x->(execOp r o).run P w= .ok (.value v) w)(h:Oper.quiet P ⟨d,.move (.const v),0,"",#[],none⟩ a (fun _=>True) (fun a'=>zg0 P ops U sp Q rest (k+1) a' D))(hs:sp k=false:=by rfl)(hd:o.dst=d:=by rfl)(hw:Region.wanted o (yielded ops a.tmps)=true:=by kernel_rfl)(hx:a.eval i=x:=by kernel_rfl):zg0 P ops U sp Q (o::rest) k a D:=
 wgb d w0 hs v hd hw (fun w e=>gus (hrun w e a.eval hx)) h
theorem zbe{o:Oper}{rest:List Oper}(d:Option Tmp)(w0:World)(hs:sp k=true)(hg:o.guard=none)(hd:o.dst=d)(p:Value->Prop)(D':Value->World->Prop)(hp:∃v,p v)(hU:∀v w,D' v w->U w)(hsh:∀v,Shut (D' v))
 (hrun:∀w,D w->zb0 P (fun v w'=>p v/\D' v w') ((execOp a.eval o).run P w)) (h:∀v,p v->Oper.quiet P ⟨d,.move (.const v),0,"",#[],none⟩ a (fun _=>True) (fun a'=>zg0 P ops U sp Q rest (k+1) a' (D' v))):zg0 P ops U sp Q (o::rest) k a D:=by
 show if _ then _ else _
 have hw:Region.wanted o (yielded ops a.tmps)=true:=by unfold Region.wanted;rw[hg]
 rw[if_pos hw]
 unfold zcv
 rw[if_pos hs]
 refine⟨p,D',⟨hp,hU,hrun⟩,hsh,fun v hv=> ?_⟩
 rw[hd]
 exact zcm w0 (h v hv)
theorem zgd{o:Oper}{rest:List Oper}(hs:sp k=true)(hg:o.guard=none)(hd:o.dst=none)(D':World->Prop)(hU:∀w,D' w->U w)(hsh:Shut D')
 (hrun:∀w,D w->zb0 P (fun _ w'=>D' w') ((execOp a.eval o).run P w)) (h:zg0 P ops U sp Q rest (k+1) a D'):zg0 P ops U sp Q (o::rest) k a D:=by
 show if _ then _ else _
 have hw:Region.wanted o (yielded ops a.tmps)=true:=by unfold Region.wanted;rw[hg]
 rw[if_pos hw]
 unfold zcv
 rw[if_pos hs]
 refine⟨fun _=>True,fun _=>D',⟨⟨undef,trivial⟩,fun _=>hU,fun w hw=> ?_⟩,fun _=>hsh,fun v _=> ?_⟩
 ·have:=hrun w hw
  revert this
  cases (execOp a.eval o).run P w<;>simp[zb0]
 rw[hd]
 exact h
end
variable {w:World} {base:Nat} {v:Value} {l:List Dd}
def zf9(x:Dd):List Value:=[.int .i64 x.kind,.int .i64 x.by_,.int .i64 x.no,.int .i64 x.seen,.int .i64 x.at_,.int .i64 x.many,.string x.text]
def zbv:List Dd->List Value
 |[]=>[]
 |x::r=>zf9 x++zbv r
theorem zhy:∀l:List Dd,(zbv l).length=l.length*7
 |[]=>rfl
 |x::r=>by
  rw[zbv,List.length_append,zhy r,List.length_cons]
  show 7+_=_
  omega
theorem zk0:∀a b:List Dd,zbv (a++b)=zbv a++zbv b
 |[],b=>rfl
 |x::r,b=>by rw[List.cons_append,zbv,zk0 r b,zbv,List.append_assoc]
theorem zhx:∀(l:List Dd) (u:Value),u∈zbv l->u.oneCell'=true
 |[],u,h=>by simp[zbv]at h
 |x::r,u,h=>by
  rw[zbv,List.mem_append]at h
  rcases h with h|h
  ·simp[zf9]at h
   rcases h with rfl|rfl|rfl|rfl|rfl|rfl|rfl<;>rfl
  exact zhx r u h
theorem zjz:∀(l:List Dd) (i r:Nat) (hi:i<l.length),r<7->(zbv l)[i*7+r]? =(zf9 l[i])[r]?
 |[],i,r,hi,_=>absurd hi (Nat.not_lt_zero _)
 |x::l,0,r,_,hr=>by
  rw[zbv,Nat.zero_mul,Nat.zero_add,List.getElem?_append_left (by exact hr)]
  rfl
 |x::l,i+1,r,hi,hr=>by
  rw[zbv,List.getElem?_append_right (by show 7<=_;omega)]
  show(zbv l)[(i+1)*7+r-7]? =_
  rw[show(i+1)*7+r-7=i*7+r by omega,zjz l i r (by simpa using hi) hr]
  rfl
def zfx(w:World)(base:Nat)(v:Value)(l:List Dd):Prop:=w.ownsRow base 124 7 v l.length (zbv l)
theorem zzd(w:World)(base:Nat):zfx w base (.slice none 0 0) []:=World.ownsRow_nil _ _ _ _
theorem zfx.dlst(h:zfx w base v l):zpw w v l:=by
 have h':=h
 obtain⟨_,h2⟩:=h
 rcases h2 with⟨rfl,hn⟩|⟨g,cap,cur,rfl,hb,hg,hnc,_⟩
 ·exact⟨none,0,0,rfl,hn,Nat.le_refl _,.inl rfl⟩
 have hlt:=(Array.getElem?_eq_some_iff.1 hg).1
 refine⟨_,_,_,rfl,rfl,hnc,.inr ⟨g,0,rfl,⟨hlt,fun i hi=> ?_⟩⟩⟩
 have key:∀r,r<7->w.cell? ⟨g,0+i*7+r,none⟩=(zf9 l[i])[r]? :=fun r hr=>by
  rw[Nat.zero_add,World.ownsRow.cellAt h' (i*7+r) (by omega),zjz l i r hi hr]
 exact⟨hlt,key 0 (by omega),key 1 (by omega),key 2 (by omega),key 3 (by omega),key 4 (by omega),key 5 (by omega),key 6 (by omega)⟩
theorem zfx.below{w':World}(h:zfx w base v l)(hb:Below w.heap.size w w'):zfx w' base v l:=by
 exact World.ownsRow.kept (row:=none) h ⟨hb.os,hb.tape,hb.output,hb.size,fun k hk _=>hb.block k hk⟩ (by cases h':v.ownBlock<;>simp)
abbrev zdh:Value:= .agg #[.int .i64 0,.int .i64 0,.int .i64 0,.int .i64 0,.int .i64 0,.int .i64 0,.string ⟨#[]⟩]
theorem Tryz.infoDeed:(Tryz.prog.info? 124).map (fun i=>(i.zero,i.size,i.bytes))=some (some zdh,7,64):=by kernel_rfl
theorem zwd(w:World)(b:List Dd)(cs:Array Value)(h:cs.toList=zbv b):∀j u,(zbv b)[j]? =some u->(w.alloc (.cells cs 124)).cell? ((⟨w.heap.size,0,none⟩:Addr).add j)=some u:=by
 intro j u hu
 rw[zdv,Nat.zero_add]
 rw[<-h]at hu
 have hu':cs[j]? =some u:=by simpa using hu
 rw[cell_of_row (w.alloc (.cells cs 124)) w.heap.size j cs 124 (0,0) (heap_alloc_new w _)]
 exact hu'
variable {S:Nat->Prop} {w w' a c:World} {b b':Bk} {base G B:Nat} {dv lv:Value}
structure zam(S:Nat->Prop)(w w':World):Prop where
 os:w'.os=w.os
 tape:w'.tape=w.tape
 output:w'.output=w.output
 size:w.heap.size<=w'.heap.size
 block:∀k,k<w.heap.size->¬S k->w'.heap[k]? =w.heap[k]?
theorem zam.refl(S:Nat->Prop)(w:World):zam S w w:=⟨rfl,rfl,rfl,Nat.le_refl _,fun _ _ _=>rfl⟩
theorem zam.of_below(h:Below w.heap.size w w'):zam S w w':=⟨h.os,h.tape,h.output,h.size,fun k hk _=>h.block k hk⟩
def grow(S:Nat->Prop)(w w':World):Nat->Prop:=fun k=>S k\/(w.heap.size<=k/\k<w'.heap.size)
theorem zam.trans{S:Nat->Prop}{a b c:World}(h:zam S a b)(k:zam (grow S a b) b c):zam S a c:=
 ⟨k.os.trans h.os,k.tape.trans h.tape,k.output.trans h.output,Nat.le_trans h.size k.size,fun i hi hs=>(k.block i (Nat.lt_of_lt_of_le hi h.size) (fun e=>e.elim hs (fun e=>by omega))).trans (h.block i hi hs)⟩
theorem zam.trans'{b:World}(h:zam S a b)(k:zam S b c):zam S a c:=
 ⟨k.os.trans h.os,k.tape.trans h.tape,k.output.trans h.output,Nat.le_trans h.size k.size,fun i hi hs=>(k.block i (Nat.lt_of_lt_of_le hi h.size) hs).trans (h.block i hi hs)⟩
theorem zam.below(h:zam S w w')(hb:∀k,S k->base<=k)(hs:base<=w.heap.size):Below base w w':=
 ⟨h.os,h.tape,h.output,h.size,fun k hk=>h.block k (by omega) (fun e=>by have:=hb k e;omega)⟩
theorem zam.set(h:zam S w w'){p:Addr}(hp:S p.block)(u:Value):zam S w (w'.setCell p u):=
 ⟨h.os,h.tape,h.output,by simpa [World.setCell]using h.size,fun k hk hs=>by
  rw[Below.heap_setCell w' p u k (fun e=>hs (by rw[e];exact hp))]
  exact h.block k hk hs⟩
theorem zam.after{b:World}(h:zam S a b)(hb:Below b.heap.size b c):zam S a c:=h.trans' (.of_below hb)
theorem zam.grown{b:World}{row:Option Nat}(h:zam S a b)(hg:b.grownBy c row)(hr:∀k,row=some k->S k\/a.heap.size<=k):zam S a c:=
 ⟨hg.os.trans h.os,hg.tape.trans h.tape,hg.output.trans h.output,Nat.le_trans h.size hg.size,fun k hk hs=>by
  rw[hg.block k (Nat.lt_of_lt_of_le hk h.size) (fun e=>by rcases hr k e.symm with x|x;exact hs x;omega)]
  exact h.block k hk hs⟩
structure zpu(w:World)(G:Nat)(dv lv:Value)(b:Bk):Prop where
 lt:G<w.heap.size
 here:∀j,j<4->w.cell? ⟨G,j*3,none⟩=some (.bool (b.here j))
 last:∀j,j<4->w.cell? ⟨G,j*3+1,none⟩=some (.int .i64 (b.last j))
 said:∀j,j<4->w.cell? ⟨G,j*3+2,none⟩=some (.int .i64 (b.said j))
 deeds:w.cell? ⟨G,12,none⟩=some dv
 list:w.cell? ⟨G,13,none⟩=some lv
 free:∀o,o<14->w.frozen? ⟨G,o,none⟩=false
structure zc2(w:World)(base:Nat)(S:Nat->Prop)(G:Nat)(dv lv:Value)(b:Bk):Prop where
 lo:∀k,S k->base<=k/\k<w.heap.size
 hG:S G
 cells:zpu w G dv lv b
 ownD:zfx w base dv b.ds
 ownL:Own w base lv b.chars
 dB:∀k,dv.ownBlock=some k->S k/\k≠G
 lB:∀k,lv.ownBlock=some k->S k/\k≠G/\dv.ownBlock≠some k
theorem zpu.kept(h:zpu w G dv lv b)(hs:w.heap.size<=w'.heap.size)(hb:w'.heap[G]? =w.heap[G]?):zpu w' G dv lv b:=by
 have hc:∀o,w'.cell? ⟨G,o,none⟩=w.cell? ⟨G,o,none⟩:=fun o=>World.cell?_of_block (a:=⟨G,o,none⟩) hb
 have hf:∀o,w'.frozen? ⟨G,o,none⟩=w.frozen? ⟨G,o,none⟩:=fun o=>World.frozen?_of_block (a:=⟨G,o,none⟩) hb
 exact⟨Nat.lt_of_lt_of_le h.lt hs,fun j hj=>by rw[hc];exact h.here j hj,fun j hj=>by rw[hc];exact h.last j hj,fun j hj=>by rw[hc];exact h.said j hj,by rw[hc];exact h.deeds,by rw[hc];exact h.list,fun o ho=>by rw[hf];exact h.free o ho⟩
theorem za5{e:TypeId}{size n:Nat}{v:Value}{xs:List Value}(h:w.ownsRow base e size v n xs)(hb:∀k,v.ownBlock=some k->w'.heap[k]? =w.heap[k]?):w'.ownsRow base e size v n xs:=by
 refine⟨h.1,?_⟩
 rcases h.2 with hn|⟨g,cap,cur,rfl,hb',hgg,rest⟩
 ·exact .inl hn
 exact .inr ⟨g,cap,cur,rfl,hb',by rw[hb g rfl];exact hgg,rest⟩
theorem zc2.kept{w w':World}{base G:Nat}{S T:Nat->Prop}{dv lv:Value}{b:Bk}(h:zc2 w base S G dv lv b)(hk:zam T w w')(hd:∀k,S k->¬T k):zc2 w' base S G dv lv b:=by
 have hb:∀k,S k->w'.heap[k]? =w.heap[k]? :=fun k hs=>hk.block k (h.lo k hs).2 (hd k hs)
 exact⟨fun k hs=>⟨(h.lo k hs).1,Nat.lt_of_lt_of_le (h.lo k hs).2 hk.size⟩,h.hG,h.cells.kept hk.size (hb G h.hG),za5 h.ownD (fun k e=>hb k (h.dB k e).1),za5 h.ownL (fun k e=>hb k (h.lB k e).1),h.dB,h.lB⟩
theorem zc2.below(h:zc2 w base S G dv lv b)(hb:Below w.heap.size w w'):zc2 w' base S G dv lv b:=
 h.kept (T:=fun _=>False) (.of_below hb) (fun _ _ e=>e)
theorem zc2.cells_of(h:zc2 w base S G dv lv b)(hk:∀k,k≠G->w'.heap[k]? =w.heap[k]?)(hs:w.heap.size<=w'.heap.size)(hc:zpu w' G dv lv b')(hd:b'.ds=b.ds):zc2 w' base S G dv lv b':=by
 refine⟨fun k hs'=>⟨(h.lo k hs').1,Nat.lt_of_lt_of_le (h.lo k hs').2 hs⟩,h.hG,hc,?_,?_,h.dB,h.lB⟩
 ·rw[hd];exact za5 h.ownD (fun k e=>hk k (h.dB k e).2)
 rw[show b'.chars=b.chars by unfold Bk.chars;rw[hd]];exact za5 h.ownL (fun k e=>hk k (h.lB k e).2.1)
theorem zc2.grow{w w':World}{base G:Nat}{S:Nat->Prop}{dv lv:Value}{b:Bk}(h:zc2 w' base S G dv lv b)(hb:base<=w.heap.size):zc2 w' base (grow S w w') G dv lv b:=
 ⟨fun k hs=>hs.elim (h.lo k) (fun e=>⟨by omega,e.2⟩),.inl h.hG,h.cells,h.ownD,h.ownL,fun k e=>⟨.inl (h.dB k e).1,(h.dB k e).2⟩,fun k e=>⟨.inl (h.lB k e).1,(h.lB k e).2⟩⟩
structure zjo(w:World)(B:Nat)(dv:Value)(b:Bk):Prop where
 lt:B<w.heap.size
 deeds:w.cell? ⟨B,0,none⟩=some dv
 here:∀j,j<4->w.cell? ⟨B,1+j,none⟩=some (.bool (b.here j))
 last:∀j,j<4->w.cell? ⟨B,5+j,none⟩=some (.int .i64 (b.last j))
 said:∀j,j<4->w.cell? ⟨B,9+j,none⟩=some (.int .i64 (b.said j))
 free:∀o,o<13->w.frozen? ⟨B,o,none⟩=false
structure zb5(w:World)(base:Nat)(S:Nat->Prop)(B:Nat)(dv:Value)(b:Bk):Prop where
 lo:∀k,S k->base<=k/\k<w.heap.size
 hB:S B
 cells:zjo w B dv b
 ownD:zfx w base dv b.ds
 dB:∀k,dv.ownBlock=some k->S k/\k≠B
theorem zjo.kept(h:zjo w B dv b)(hs:w.heap.size<=w'.heap.size)(hb:w'.heap[B]? =w.heap[B]?):zjo w' B dv b:=by
 have hc:∀o,w'.cell? ⟨B,o,none⟩=w.cell? ⟨B,o,none⟩:=fun o=>World.cell?_of_block (a:=⟨B,o,none⟩) hb
 have hf:∀o,w'.frozen? ⟨B,o,none⟩=w.frozen? ⟨B,o,none⟩:=fun o=>World.frozen?_of_block (a:=⟨B,o,none⟩) hb
 exact⟨Nat.lt_of_lt_of_le h.lt hs,by rw[hc];exact h.deeds,fun j hj=>by rw[hc];exact h.here j hj,fun j hj=>by rw[hc];exact h.last j hj,fun j hj=>by rw[hc];exact h.said j hj,fun o ho=>by rw[hf];exact h.free o ho⟩
theorem zb5.kept{w w':World}{base B:Nat}{S T:Nat->Prop}{dv:Value}{b:Bk}(h:zb5 w base S B dv b)(hk:zam T w w')(hd:∀k,S k->¬T k):zb5 w' base S B dv b:=by
 have hb:∀k,S k->w'.heap[k]? =w.heap[k]? :=fun k hs=>hk.block k (h.lo k hs).2 (hd k hs)
 exact⟨fun k hs=>⟨(h.lo k hs).1,Nat.lt_of_lt_of_le (h.lo k hs).2 hk.size⟩,h.hB,h.cells.kept hk.size (hb B h.hB),za5 h.ownD (fun k e=>hb k (h.dB k e).1),h.dB⟩
theorem zb5.below(h:zb5 w base S B dv b)(hb:Below w.heap.size w w'):zb5 w' base S B dv b:=
 h.kept (T:=fun _=>False) (.of_below hb) (fun _ _ e=>e)
theorem zb5.cells_of(h:zb5 w base S B dv b)(hk:∀k,k≠B->w'.heap[k]? =w.heap[k]?)(hs:w.heap.size<=w'.heap.size)(hc:zjo w' B dv b')(hd:b'.ds=b.ds):zb5 w' base S B dv b':=by
 refine⟨fun k hs'=>⟨(h.lo k hs').1,Nat.lt_of_lt_of_le (h.lo k hs').2 hs⟩,h.hB,hc,?_,h.dB⟩
 rw[hd];exact za5 h.ownD (fun k e=>hk k (h.dB k e).2)
end Go.Proofs.YtcbnnfeelhlapadGreatDoor