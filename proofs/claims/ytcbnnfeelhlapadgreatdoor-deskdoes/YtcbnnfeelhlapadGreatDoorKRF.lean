/-
  The desk does a line.
-/
import Derived.Test.YtcbnnfeelhlapadGreatDoorKLN
import Derived.Test.YtcbnnfeelhlapadGreatDoorKLR
namespace Go.Proofs.YtcbnnfeelhlapadGreatDoor
set_option maxHeartbeats 3200000
set_option maxRecDepth 20000
open Go Go.RowKit
theorem zw4{t:Twn}{k:List UInt8}{r:List (List UInt8)}(h:zbp (r.map bl)=none):zg2 t (k::r)=(zfl,t):=by
 rw[zg2,h]
theorem zw3{t:Twn}{k:List UInt8}{r:List (List UInt8)}{zs:List Int}(h:zbp (r.map bl)=some zs):zg2 t (k::r)=zci t k zs:=by
 rw[zg2,h]
section
variable {base R D G:Nat} {pw:Nat→Nat} {w0 wk w':World} {S:Nat→Prop} {told:List UInt8} {t:Twn}
theorem qg2(h:zaz base w0 S R D G pw told t wk)(s:ByteArray)(hs:s.size≤10000)(hz:told.length≤300000000):
 Calls Tryz.prog 15 #[.pointer (some ⟨R,0,none⟩),.string s] wk fun e w'=>e= .returned (.tuple #[])∧∃pw',zaz base w0 S R D G pw' (told++(zae t s.data.toList).1) (zae t s.data.toList).2 w':=by
 have HI:Hid (zaz base w0 S R D G pw told t wk):=h
 have HS:Hid (s.size≤10000):=hs
 clear h hs
 go_enter Tryz.func15,Tryz.ntmps15
 go_wp2_with fail
 refine(zws s _ HI.out.rdy.ready (by have:=HS.out;omega)).mono ?_
 rintro e w1 ⟨rfl,hb⟩
 have H1:Hid (zaz base w0 S R D G pw told t w1):=HI.out.after hb
 clear hb HI
 cases hp:zeq s.data.toList with
 |some p=>
  obtain⟨a,b,text⟩:=p
  have HV:Hid (zae t s.data.toList=zca t ⟨2,a,b,0,bl text⟩):=by show _=_;unfold zae;rw[hp]
  clear hp
  simp only[putX,Option.isSome_some]
  generalize bl text=st at*
  have H2:Hid (zaz base w0 S R D G pw told t (w1.alloc (.cells #[.int .i64 2,.int .i64 a,.int .i64 b,.int .i64 0,.string st] 74))):=H1.out.after (za1 _ _)
  clear H1
  go_wp2_with fail
  refine(zkh H2.out ⟨2,a,b,0,st⟩ (by omega)).mono ?_
  rintro e w6 ⟨rfl,h6⟩
  have H6:Hid (∃pw',zaz base w0 S R D G pw' (told++(zae t s.data.toList).1) (zae t s.data.toList).2 w6):=by rw[HV.out];exact h6
  clear h6 H2
  go_wp2_with fail
  (try simp only[Exit.inBlock,Exit.then]);refine bodyPost_ret (results_none rfl _ _ _) rfl ?_
  exact⟨rfl,H6.out⟩
 |none=>
  have HV:Hid (zae t s.data.toList=zg2 t ((zb0 s.data.toList).take 5)):=by show _=_;unfold zae;rw[hp,zw2]
  clear hp
  simp only[putX,Option.isSome_none]
  have H2:Hid (zaz base w0 S R D G pw told t (w1.alloc (.cells #[.int .i64 0,.int .i64 0,.int .i64 0,.int .i64 0,.string ⟨#[]⟩] 74))):=H1.out.after (za1 _ _)
  clear H1
  go_wp2_with fail
  refine(zw1 s _ H2.out.rdy.ready (by have:=HS.out;omega)).mono ?_
  rintro e w2 ⟨lv,rfl,hown,hb⟩
  have H3:Hid (zaz base w0 S R D G pw told t w2):=H2.out.after hb
  have HWL:Hid (((zb0 s.data.toList).take 5).length≤5∧∀x∈(zb0 s.data.toList).take 5,x.length≤10000):=by
   refine⟨by rw[List.length_take];omega,fun x hx=> ?_⟩
   have:=zl2 s.data.toList [] x (List.mem_of_mem_take hx)
   have:=HS.out
   rw[zay]at*
   simp at*
   omega
  clear hb H2
  generalize (zb0 s.data.toList).take 5=ws at*
  have HLS:Hid (zb9 w2 lv (ws.map bl)):=hown.lst
  obtain⟨la,lc,rfl,hlc⟩:=hown.lst.len
  clear hown
  cases ws with
  |nil=>
   have H6:Hid (∃pw',zaz base w0 S R D G pw' (told++(zae t s.data.toList).1) (zae t s.data.toList).2 w2):=by
    rw[HV.out]
    refine⟨pw,?_⟩
    show zaz _ _ _ _ _ _ _ (told++[]) _ _
    rw[List.append_nil]
    exact H3.out
   simp only[List.map_nil,List.length_nil]
   go_wp2_with fail
   (try simp only[Exit.inBlock,Exit.then]);refine bodyPost_ret (results_none rfl _ _ _) rfl ?_
   exact⟨rfl,H6.out⟩
  |cons k r=>
   have hln:((k::r).map bl).length=r.length+1:=by simp
   rw[hln]at HLS hlc⊢
   obtain⟨bb,off,rfl,hst⟩:=HLS.out.row (by omega)
   have c0:=hst.cell 0 (by simp)
   have hbl:=hst.lt
   simp only[Nat.add_zero,List.map_cons,List.getElem_cons_zero]at c0
   have HR:Hid (r.length≤4∧∀x∈r,x.length≤10000):=⟨by have:=HWL.out.1;rw[List.length_cons]at this;omega,fun x hx=>HWL.out.2 x (List.mem_cons_of_mem _ hx)⟩
   have hq1:(((r.length:Int)+1)==0)=false:=by rw[beq_eq_false_iff_ne];omega
   have hq2:(((r.length+1:Nat):Int)==0)=false:=by rw[beq_eq_false_iff_ne];omega
   have HT:Hid (∀a' c',(a'=some ⟨bb,off+1,none⟩∨r.length=0)→r.length≤c'→zb9 w2 (.slice a' r.length c') (r.map bl)):=fun a' c' ha hc'=>by
    refine⟨a',r.length,c',rfl,List.length_map .., hc',?_⟩
    rcases ha with rfl|h0
    ·refine .inr ⟨bb,off+1,rfl,hst.lt,fun i hi=> ?_⟩
     have:=hst.cell (i+1) (by simpa using hi)
     rw[show off+1+i=off+(i+1) by omega,this]
     simp
    ·exact .inl h0
   have HC0:Hid (w2.cell? ⟨bb,off,none⟩=some (.string (bl k))∧bb<w2.heap.size):=⟨c0,hbl⟩
   have HRZ:Hid (∀x∈r.map bl,x.size≤100000):=fun x hx=>by
    obtain⟨y,hy,rfl⟩:=List.mem_map.1 hx
    rw[zd9]
    have:=HR.out.2 y hy
    omega
   clear hst hln HWL c0 hbl
   go_wp2_with fail
   all_goals
    refine(zkm (HT.out _ _ (by first|exact .inl rfl|(right;omega)) (by omega)) H3.out.rdy.ready (by rw[List.length_map];have:=HR.out.1;omega) HRZ.out).mono ?_
    rintro e w3 ⟨hn,hb⟩
    have H4:Hid (zaz base w0 S R D G pw told t w3):=H3.out.after hb
    have c0:=zd8 HC0.out.1 hb
    have hbl:bb<w3.heap.size:=Nat.lt_of_lt_of_le HC0.out.2 hb.size
    clear hb HC0 HT HRZ H3
    rcases hn with⟨zs,v,hrd,rfl,hv⟩|⟨hrd,rfl⟩
    ·have HW:Hid (zae t s.data.toList=zci t k zs):=by show _=_;rw[HV.out];exact zw3 hrd
     have HVL:Hid (zlq w3 v zs):=hv
     obtain⟨va,vc,rfl⟩:=hv.len
     clear hrd hv
     go_wp2_with fail
     clear c0 hbl
     refine(ask_lk H4.out k HVL.out (by omega)).mono ?_
     rintro e w6 ⟨rfl,h6⟩
     have H6:Hid (∃pw',zaz base w0 S R D G pw' (told++(zae t s.data.toList).1) (zae t s.data.toList).2 w6):=by rw[HW.out];exact h6
     clear h6 H4
     go_wp2_with fail
     go_end0
     exact⟨rfl,H6.out⟩
    ·have HW:Hid (zae t s.data.toList=(zfl,t)):=by show _=_;rw[HV.out];exact zw4 hrd
     clear hrd
     go_wp2_with fail
     clear c0 hbl
     refine(H4.out.whats (by omega)).mono ?_
     rintro e w6 ⟨rfl,h6⟩
     have H6:Hid (∃pw',zaz base w0 S R D G pw' (told++(zae t s.data.toList).1) (zae t s.data.toList).2 w6):=by rw[HW.out];exact⟨pw,h6⟩
     clear h6 H4
     go_wp2_with fail
     (try simp only[Exit.inBlock,Exit.then]);refine bodyPost_ret (results_none rfl _ _ _) rfl ?_
     exact⟨rfl,H6.out⟩
end
structure zyb(base R D G:Nat)(pw:Nat→Nat)(told:List UInt8)(t:Twn)(w:World)(S:Nat→Prop):Prop where
 lo:∀k,S k→base≤k∧k<w.heap.size
 own:∃tk,TR t tk∧∃ow,HpAt base (zvz base D G pw t tk (zag (fun _=>Th.no base) 0 (Th.lk base R D told))) ow w∧∀k,ow k≠0→S k
def KdTo(base:Nat)(w:World)(S:Nat→Prop)(R D G:Nat)(pw:Nat→Nat)(told:List UInt8)(t:Twn)(w':World):Prop:=zyb base R D G pw told t w' (grow S w w')∧zak S w w'
def Th.kd(base R D G:Nat)(pw:Nat→Nat)(t:Twn):Th base:=
 ⟨fun w S=>zyb base R D G pw [] t w S,fun {w w' S T} _ h hk hd=>by
  obtain⟨tk,htr,ow,h1,h2⟩:=h.own
  have hs:=hk.size
  refine⟨fun k e=>⟨(h.lo k e).1,Nat.lt_of_lt_of_le (h.lo k e).2 hs⟩,tk,htr,ow,⟨fun k e=>⟨(h1.lo k e).1,Nat.lt_of_lt_of_le (h1.lo k e).2 hs⟩,Nat.le_trans h1.bs hs,fun i hi=> ?_⟩,h2⟩
  exact(zvz base D G pw t tk (zag (fun _=>Th.no base) 0 (Th.lk base R D [])) i).kept (fun k e=>h1.lo k (by rw[e];exact hi)) (h1.at_ i hi) hk (fun k e=>hd k (h2 k (by rw[e];exact hi))),fun {w S T} h hT hl=>by
  obtain⟨tk,htr,ow,h1,h2⟩:=h.own
  exact⟨hl,tk,htr,ow,h1,fun k e=>hT k (h2 k e)⟩⟩
section
variable {base R D G:Nat} {pw:Nat→Nat} {w w0 wk w':World} {S:Nat→Prop} {told:List UInt8} {t:Twn}
theorem zyb.held(h:zyb base R D G pw told t w S):base≤w.heap.size∧∀k,S k→base≤k∧k<w.heap.size:=by
 obtain⟨tk,htr,ow,h1,h2⟩:=h.own
 exact⟨h1.bs,h.lo⟩
theorem zyb.start(h:zyb base R D G pw told t w S)(hr:Rdy base w):zaz base w S R D G pw told t w:=by
 obtain⟨tk,htr,ow,h1,h2⟩:=h.own
 exact⟨⟨tk,⟨ow,h1,fun k e=> .inl (h2 k e),zak.refl _ _⟩,htr⟩,hr⟩
theorem zaz.kept(h:zaz base w0 S R D G pw told t wk):zak S w0 wk:=by
 obtain⟨⟨tk,h1,_⟩,_⟩:=h
 exact Hq.kept h1
theorem zaz.done(h:zaz base w S R D G pw told t w')(hl:base≤w.heap.size∧∀k,S k→base≤k∧k<w.heap.size):KdTo base w S R D G pw told t w':=by
 have hk:=h.kept
 have hs:=hk.size
 obtain⟨⟨tk,⟨ow,h1⟩,h2⟩,_⟩:=h
 refine⟨⟨fun k e=> ?_,tk,h2,ow,h1.at_,h1.old⟩,hk⟩
 rcases e with e|e
 ·have:=hl.2 k e;omega
 ·omega
theorem zyb.below(h:zyb base R D G pw [] t w S)(hb:Below w.heap.size w w'):zyb base R D G pw [] t w' S:=
 (Th.kd base R D G pw t).kept h.held.2 h (zak.of_below (S:=fun _=>False) hb) (fun _ _ e=>e)
theorem KdTo.since(hb:Below w.heap.size w wk)(h:KdTo base wk S R D G pw [] t w')(hl:base≤w.heap.size∧∀k,S k→base≤k∧k<w.heap.size):KdTo base w S R D G pw [] t w':=by
 have s1:=hb.size
 have s2:=h.2.size
 refine⟨(Th.kd base R D G pw t).mono h.1 (fun k e=> ?_) (fun k e=> ?_),(zak.of_below hb).trans' h.2⟩
 ·rcases e with e|e
  ·exact .inl e
  ·exact .inr ⟨by omega,e.2⟩
 ·rcases e with e|e
  ·have:=hl.2 k e;omega
  ·omega
theorem KdTo.out(h:KdTo base wk S R D G pw [] t w0)(hw:zak S w w0){B:Nat}(hB:w.heap.size≤B)(hB2:B<wk.heap.size)(hS:∀k,S k→k<w.heap.size)(hk:zak (fun k=>k=B) w0 w'):zyb base R D G pw [] t w' (grow S wk w0)∧zak S w w':=by
 refine⟨(Th.kd base R D G pw t).kept h.1.lo h.1 hk (fun k e e'=> ?_),hk.os.trans hw.os,hk.tape.trans hw.tape,hk.output.trans hw.output,Nat.le_trans hw.size hk.size,fun k hk1 hs=> ?_⟩
 ·rcases e with e|e
  ·have:=hS k e;omega
  ·omega
 ·rw[hk.block k (Nat.lt_of_lt_of_le hk1 hw.size) (by omega)]
  exact hw.block k hk1 hs
abbrev kdZ(D:Nat):Array Value:= #[.pointer none,.slice none 0 0,.pointer (some ⟨D,0,none⟩)]
abbrev kdW(w:World):World:=((w.alloc (.cells logZ 104)).alloc (.cells (zkw w.heap.size) 59)).alloc (.cells (kdZ (w.heap.size+1)) 46)
theorem new_kd(w:World):Calls Tryz.prog 7 #[] w fun e w'=>e= .returned (.pointer (some ⟨w.heap.size+2,0,none⟩))∧w'=kdW w:=by
 go_enter Tryz.func7,Tryz.ntmps7
 go_wp2_with fail
 refine(new_dk w).mono ?_
 rintro e w1 ⟨rfl,rfl⟩
 go_wp2
 go_ret
 exact⟨by simp,rfl⟩
theorem zzo(w:World)(hb:base≤w.heap.size):zyb base (w.heap.size+2) (w.heap.size+1) w.heap.size (fun _=>0) [] zpy (kdW w) (fun k=>w.heap.size≤k∧k<(kdW w).heap.size):=by
 have hsz:(kdW w).heap.size=w.heap.size+3:=by simp
 have h0:Hq base (fun _=>Th.no base) w (fun _=>False) w:=⟨fun _=>0,⟨fun _ e=>absurd rfl e,hb,fun _ _=>trivial⟩,fun _ e=>absurd rfl e,zak.refl _ _⟩
 have h1:=Hq.lay h0 (za1 w (.cells logZ 104)) (i:=1) (by omega) (Th.log base w.heap.size Bk.empty) ⟨_,_,(zx2 w hb).mono (fun k e=>⟨by omega,by simp;omega⟩) (fun k e=>⟨by omega,e.2⟩)⟩
 have h2:=Hq.lay h1 (za1 _ (.cells (zkw w.heap.size) 59)) (i:=6) (by omega) (Th.tw base (w.heap.size+1) w.heap.size (fun _=>0) (zbs zpy)) ⟨⟨by simp,by simp⟩,by have:=qct (w.alloc (.cells logZ 104)) w.heap.size;simpa using this⟩
 have hlk:znd (kdW w) base (fun k=>((w.alloc (.cells logZ 104)).alloc (.cells (zkw w.heap.size) 59)).heap.size≤k∧k<(kdW w).heap.size) (w.heap.size+2) (w.heap.size+1) []:=by
  refine⟨⟨by simp,by simp⟩,.pointer none,.slice none 0 0,.inl rfl,?_,World.ownsRow_nil _ _ _ _,fun _ e=>(by cases e),fun _=>rfl⟩
  have:=heap_alloc_new ((w.alloc (.cells logZ 104)).alloc (.cells (zkw w.heap.size) 59)) (.cells (kdZ (w.heap.size+1)) 46)
  simpa using this
 have h3:=Hq.lay h2 (za1 _ (.cells (kdZ (w.heap.size+1)) 46)) (i:=7) (by omega) (Th.lk base (w.heap.size+2) (w.heap.size+1) []) hlk
 have h4:zap base w (fun _=>False) (w.heap.size+1) w.heap.size (fun _=>0) zpy (fun _=>[]) (zag (fun _=>Th.no base) 0 (Th.lk base (w.heap.size+2) (w.heap.size+1) [])) (kdW w):=zie h3 (fun T hp=>hp) (fun T hp=>hp) (fun k hk T hp=>by show(Th.no _).P _ T;trivial) (fun j T hp=>by
  by_cases e:j=0
  ·subst e;exact hp
  ·rw[za2 _ _ e];trivial)
 obtain⟨ow,h5⟩:=h4
 refine⟨fun k e=>⟨by omega,e.2⟩,fun _=>[],zyh,ow,h5.at_,fun k e=> ?_⟩
 rcases h5.old k e with x|x
 ·exact x.elim
 ·exact x
theorem qf9{Q:Ending→World→Prop}{a:Act}{w:World}{B:Nat}{c f:Int}{v:Value}(h:zlt w B c f)(h2:a.tmps.getD 4 undef=v)(h3:a.tmps.getD 5 undef= .pointer (some ⟨B,0,none⟩))(hd:a.defers=[])
 (hR:Q (.returned (.tuple #[v,ftV c f])) w):bodyPost Tryz.prog Tryz.f9 Q Exit.ret a w:=by
 refine bodyPost_ret ?_ hd hR
 rw[ziq rfl,h2,h3]
 simp[asAddr,zsm h]
theorem zet.reset{T:Nat→Prop}{w1 w2:World}(hl:base≤wk.heap.size∧∀k,T k→base≤k∧k<wk.heap.size)(h1:zak T wk w1)(h2:zet w1 base T R D [] w2):zet wk base T R D [] w2:=by
 have s1:=h1.size
 have s2:=h2.2.size
 refine⟨(Th.lk base R D []).mono h2.1 (fun k e=> ?_) (fun k e=> ?_),h1.trans' h2.2⟩
 ·rcases e with e|e
  ·exact .inl e
  ·exact .inr ⟨by omega,e.2⟩
 ·rcases e with e|e
  ·have:=hl.2 k e;omega
  ·omega
theorem zrb{l:List (List UInt8)}(h:zct l=(0,0)):l.length≤150:=by
 rcases Nat.lt_or_ge 150 l.length with h'|h'
 ·rw[zpf h']at h;cases h
 ·exact h'
theorem do_kd(h:zyb base R D G pw [] t w S)(hr:Rdy base w){v:Value}{ls:List ByteArray}(hv:∀wk,zak S w wk→zb9 wk v ls)(hz:∀s∈ls,s.size≤10000)(hf:zct (ls.map (·.data.toList))=(0,0)):
 Calls Tryz.prog 9 #[.pointer (some ⟨R,0,none⟩),v] w fun e w'=>e= .returned (.tuple #[.string (bl (doK t (ls.map (·.data.toList))).1),ftV 0 0])∧(doK t (ls.map (·.data.toList))).1.length≤30000*ls.length∧∃pw',KdTo base w S R D G pw' [] (doK t (ls.map (·.data.toList))).2 w':=by
 have hn:ls.length≤150:=by have:=zrb hf;rw[List.length_map]at this;exact this
 have HV:Hid (∀wk,zak S w wk→zb9 wk v ls):=hv
 have HZ:Hid (∀s∈ls,s.size≤10000):=hz
 have HK:Hid (zyb base R D G pw [] t w S):=h
 have HRD:Hid (Rdy base w):=hr
 have HF:Hid (zct (ls.map (·.data.toList))=(0,0)):=hf
 have HRF:Hid (Calls Tryz.prog 14 #[v] (w.alloc (.cells #[.int .i64 0,.int .i64 0] 31)) fun e w'=>e= .returned (fkV (zct (ls.map (·.data.toList))))∧Below (w.alloc (.cells #[.int .i64 0,.int .i64 0] 31)).heap.size (w.alloc (.cells #[.int .i64 0,.int .i64 0] 31)) w'):=zov (hv _ (.of_below (za1 _ _)))
 have HT0:Hid (zlt (w.alloc (.cells #[.int .i64 0,.int .i64 0] 31)) w.heap.size 0 0):=zf7 w 0 0
 obtain⟨a,cap,rfl,_⟩:=(hv w (zak.refl _ _)).len
 rw[hf]at HRF
 clear h hr hv hz hf
 go_enter Tryz.func9,Tryz.ntmps9
 go_wp2_with fail
 refine HRF.out.mono ?_
 rintro e w1 ⟨rfl,hb⟩
 have hB1:Below w.heap.size w w1:=bla (za1 _ _) hb
 have HB2:Hid (Below w.heap.size w (w1.alloc (.cells #[.int .i64 0,.int .i64 0] 31))):=bla hB1 (za1 _ _)
 have HT2:Hid (zlt (w1.alloc (.cells #[.int .i64 0,.int .i64 0] 31)) w.heap.size 0 0):=HT0.out.below (by simp) (bla hb (za1 _ _))
 have HLT:Hid (w.heap.size<(w1.alloc (.cells #[.int .i64 0,.int .i64 0] 31)).heap.size):=by show _<_;have:=hb.size;simp at this⊢;omega
 clear hb hB1 HT0 HRF
 go_upto_region 4 with fail
 have HI2:Hid (zaz base (w1.alloc (.cells #[.int .i64 0,.int .i64 0] 31)) S R D G pw [] t (w1.alloc (.cells #[.int .i64 0,.int .i64 0] 31))):=(HK.out.below HB2.out).start (HRD.out.after HB2.out)
 generalize World.alloc _ _=w2 at*
 go_wp2_with fail
 go_loopw [18] (fun i wr=>∃k:Nat,k≤ls.length∧i= .int .i64 k∧Hid (∃pw',zaz base w2 S R D G pw' (doK t ((ls.map (·.data.toList)).take k)).1 (doK t ((ls.map (·.data.toList)).take k)).2 wr)∧Hid ((doK t ((ls.map (·.data.toList)).take k)).1.length≤30000*k)) (fun i _=>ls.length-(intOf i).toNat)
 case atStart=>exact⟨0,Nat.zero_le _,rfl,⟨pw,HI2.out⟩,Nat.le_refl _⟩
 case round=>
  obtain⟨k,hk,rfl,HW,HLN⟩:=hrel
  clear HI2
  obtain⟨pw3,h3⟩:=HW.out
  have HKW:Hid (zak S w wr):=(zak.of_below HB2.out).trans' h3.kept
  by_cases hlt:k<ls.length
  ·have hki:(k:Int)<(ls.length:Int):=by omega
   obtain⟨bb,off,rfl,hst⟩:=(HV.out wr HKW.out).row (by omega)
   have c0:=hst.cell k hlt
   have hbl:=hst.lt
   have HX:Hid ((ls.map (·.data.toList)).take (k+1)=(ls.map (·.data.toList)).take k++[ls[k].data.toList]):=by
    show _=_
    rw[List.take_succ_eq_append_getElem (by rw[List.length_map];exact hlt),List.getElem_map]
   have HSZ:Hid (ls[k].size≤10000):=HZ.out _ (List.getElem_mem hlt)
   generalize ls[k]=s at*
   have HH3:Hid (zaz base w2 S R D G pw3 (doK t ((ls.map (·.data.toList)).take k)).1 (doK t ((ls.map (·.data.toList)).take k)).2 wr):=h3
   clear hst h3 HW
   go_wp2_with fail
   refine(qg2 HH3.out s HSZ.out (by have:=HLN.out;omega)).mono ?_
   rintro e w4 ⟨rfl,h4⟩
   have H4:Hid (∃pw',zaz base w2 S R D G pw' (doK t ((ls.map (·.data.toList)).take (k+1))).1 (doK t ((ls.map (·.data.toList)).take (k+1))).2 w4):=by rw[HX.out,znx];exact h4
   have HL4:Hid ((doK t ((ls.map (·.data.toList)).take (k+1))).1.length≤30000*(k+1)):=by
    show _≤_
    rw[HX.out,znx]
    obtain⟨tk,_,htr⟩:=HH3.out.any
    have:=zzj htr s.data.toList
    have:=HLN.out
    show((doK t _).1++_).length≤_
    rw[List.length_append]
    omega
   clear h4 HH3 c0 hbl
   go_wp2_with fail
   go_roundw
   case rel=>exact⟨k+1,by omega,by go_num,H4.out,HL4.out⟩
   case measure=>simp[intOf];omega
  ·obtain rfl:k=ls.length:=by omega
   have HE:Hid ((ls.map (·.data.toList)).take ls.length=ls.map (·.data.toList)):=by show _=_;rw[←List.length_map (f:=fun s:ByteArray=>s.data.toList)];exact List.take_length
   rw[HE.out]at h3 HLN
   obtain⟨T,a1,a2,a3⟩:=h3.turn
   have HA1:Hid (znd wr base T R D (doK t (ls.map (·.data.toList))).1):=a1
   have HA2:Hid (base≤wr.heap.size∧∀k,T k→base≤k∧k<wr.heap.size):=a2
   have HA3:Hid (∀told' w',zet wr base T R D told' w'→zaz base w2 S R D G pw3 told' (doK t (ls.map (·.data.toList))).2 w'):=a3
   clear a1 a2 a3 h3 HW
   have hlz:(doK t (ls.map (·.data.toList))).1.length≤2000000000:=by have:=HLN.out;omega
   go_wp2_with fail
   refine(qdq HA1.out hlz).mono ?_
   rintro e w4 ⟨rfl,hk4,hb4⟩
   have HK4:Hid (zak T wr w4):=hk4
   have HB4:Hid (∃p v,w4.heap[R]? =some (.cells #[p,v,.pointer (some ⟨D,0,none⟩)] 46 (0,0))):=hb4
   clear hk4 hb4
   go_wp2_with fail
   refine(reset_lk (S:=T) (base:=base) HA1.out.hR HB4.out).mono ?_
   rintro e w5 ⟨rfl,h5⟩
   have h6:zaz base w2 S R D G pw3 [] (doK t (ls.map (·.data.toList))).2 w5:=HA3.out _ _ (zet.reset HA2.out HK4.out h5)
   have h7:=h6.done (zek HK.out.held HB2.out)
   have HK5:Hid (zak S w w5):=(zak.of_below HB2.out).trans' h6.kept
   have HT5:Hid (zlt w5 w.heap.size 0 0∧w.heap.size<w5.heap.size):=by
    have hbk:=h6.kept.block w.heap.size HLT.out (fun e=>by have:=(HK.out.lo _ e).2;omega)
    have hc:∀o,w5.cell? ⟨w.heap.size,o,none⟩=w2.cell? ⟨w.heap.size,o,none⟩:=fun o=>World.cell?_of_block (a:=⟨w.heap.size,o,none⟩) hbk
    have hf:∀o,w5.frozen? ⟨w.heap.size,o,none⟩=w2.frozen? ⟨w.heap.size,o,none⟩:=fun o=>World.frozen?_of_block (a:=⟨w.heap.size,o,none⟩) hbk
    exact⟨⟨by rw[hc];exact HT2.out.c0,by rw[hc];exact HT2.out.c1,by rw[hf];exact HT2.out.f0,by rw[hf];exact HT2.out.f1⟩,Nat.lt_of_lt_of_le HLT.out h6.kept.size⟩
   have HOUT:Hid (∃pw',KdTo base w S R D G pw' [] (doK t (ls.map (·.data.toList))).2 ((w5.setCell ⟨w.heap.size,0,none⟩ (.int .i64 0)).setCell ⟨w.heap.size,1,none⟩ (.int .i64 0))):=by
    have hkk:zak (fun k=>k=w.heap.size) w5 ((w5.setCell ⟨w.heap.size,0,none⟩ (.int .i64 0)).setCell ⟨w.heap.size,1,none⟩ (.int .i64 0)):=((zak.refl (fun k=>k=w.heap.size) w5).set (p:=⟨w.heap.size,0,none⟩) rfl _).set (p:=⟨w.heap.size,1,none⟩) rfl _
    obtain⟨q1,q2⟩:=h7.out HK5.out (Nat.le_refl _) HLT.out (fun k e=>(HK.out.lo k e).2) hkk
    refine⟨pw3,(Th.kd base R D G pw3 _).mono q1 (fun k e=> ?_) (fun k e=> ?_),q2⟩
    ·have s1:=HB2.out.size
     have s2:=hkk.size
     rcases e with e|e
     ·exact .inl e
     ·exact .inr ⟨by omega,by omega⟩
    ·have s1:=q2.size
     rcases e with e|e
     ·have:=HK.out.lo k e;omega
     ·have:=HK.out.held.1;omega
   obtain⟨⟨c0,c1,f0,f1⟩,hlt5⟩:=HT5.out
   have HT6:Hid (zlt ((w5.setCell ⟨w.heap.size,0,none⟩ (.int .i64 0)).setCell ⟨w.heap.size,1,none⟩ (.int .i64 0)) w.heap.size 0 0):=HT5.out.1.put 0 0
   clear h5 h6 h7 HA1 HA2 HA3
   go_wp2
   refine qf9 HT6.out rfl rfl rfl ?_
   exact⟨rfl,HLN.out,HOUT.out⟩
theorem do_kd_no{v:Value}{ls:List ByteArray}(hv:zb9 w v ls){c i:Int}(hf:zct (ls.map (·.data.toList))=(c,i))(hc:c≠0):
 Calls Tryz.prog 9 #[.pointer (some ⟨R,0,none⟩),v] w fun e w'=>e= .returned (.tuple #[.string ⟨#[]⟩,ftV c i])∧Below w.heap.size w w':=by
 have HRF:Hid (Calls Tryz.prog 14 #[v] (w.alloc (.cells #[.int .i64 0,.int .i64 0] 31)) fun e w'=>e= .returned (fkV (zct (ls.map (·.data.toList))))∧Below (w.alloc (.cells #[.int .i64 0,.int .i64 0] 31)).heap.size (w.alloc (.cells #[.int .i64 0,.int .i64 0] 31)) w'):=zov (hv.below (za1 _ _))
 have HT0:Hid (zlt (w.alloc (.cells #[.int .i64 0,.int .i64 0] 31)) w.heap.size 0 0):=zf7 w 0 0
 obtain⟨a,cap,rfl,_⟩:=hv.len
 rw[hf]at HRF
 have hcb:(c==0)=false:=by simpa using hc
 clear hv hf
 go_enter Tryz.func9,Tryz.ntmps9
 go_wp2_with fail
 refine HRF.out.mono ?_
 rintro e w1 ⟨rfl,hb⟩
 have hB1:Below w.heap.size w w1:=bla (za1 _ _) hb
 have HB2:Hid (Below w.heap.size w (w1.alloc (.cells #[.int .i64 c,.int .i64 i] 31))):=bla hB1 (za1 _ _)
 have HT2:Hid (zlt (w1.alloc (.cells #[.int .i64 c,.int .i64 i] 31)) w.heap.size 0 0):=HT0.out.below (by simp) (bla hb (za1 _ _))
 have HN2:Hid (zlt (w1.alloc (.cells #[.int .i64 c,.int .i64 i] 31)) w1.heap.size c i):=zf7 w1 c i
 have HLT:Hid (w.heap.size<w1.heap.size∧w1.heap.size<(w1.alloc (.cells #[.int .i64 c,.int .i64 i] 31)).heap.size):=by
  have:=hb.size
  simp at this
  exact⟨by omega,by simp⟩
 clear hb hB1 HT0 HRF
 go_upto_region 3 with fail
 generalize World.alloc _ _=w2 at*
 generalize hBF:w1.heap.size=BF at*
 obtain⟨c0,c1,f0,f1⟩:=HT2.out
 obtain⟨d0,d1,_,_⟩:=HN2.out
 obtain⟨l1,l2⟩:=HLT.out
 have l3:w.heap.size<w2.heap.size:=by omega
 have HT6:Hid (zlt ((w2.setCell ⟨w.heap.size,0,none⟩ (.int .i64 c)).setCell ⟨w.heap.size,1,none⟩ (.int .i64 i)).drew w.heap.size c i):=(HT2.out.put c i).below (by simpa [World.setCell]using l3) (Below.refl _ _).drew
 have HB6:Hid (Below w.heap.size w ((w2.setCell ⟨w.heap.size,0,none⟩ (.int .i64 c)).setCell ⟨w.heap.size,1,none⟩ (.int .i64 i)).drew):=(zhz HB2.out (Nat.le_refl _) c i).drew
 clear HT2 HN2 HLT HB2
 go_region
 all_goals
  go_wp2
  refine qf9 HT6.out rfl rfl rfl ?_
  exact⟨rfl,HB6.out⟩
end
theorem zw5{fn:Func}{p:Tmp}{Q:Ending→World→Prop}{a:Act}{w:World}{B:Nat}{c f:Int}(hf:fn.results= #[.cell p 31])(h:zlt w B c f)(h2:a.tmps.getD p undef= .pointer (some ⟨B,0,none⟩))(hd:a.defers=[])
 (hR:Q (.returned (ftV c f)) w):bodyPost Tryz.prog fn Q Exit.ret a w:=by
 refine bodyPost_ret ?_ hd hR
 have e:(results fn a.tmps).run Tryz.prog w=((asAddr (a.tmps.getD p undef)).run Tryz.prog w).andThen fun b w₁=>(loadVar 31 b).run Tryz.prog w₁:=by
  simp only[results,hf]
  simp[Sem.run_bind,Result.andThen]
 rw[e,h2]
 simp[asAddr,zsm h]
theorem refF(c i:Int)(w:World):Calls Tryz.prog 18 #[.int .i64 c,.int .i64 i] w fun e w'=>e= .returned (ftV c i)∧Below w.heap.size w w':=by
 go_enter Tryz.func18,Tryz.ntmps18
 go_wp2
 refine zll (B:=w.heap.size) (c:=c) (i:=i) rfl (heap_alloc_new w _) rfl rfl ?_
 exact⟨rfl,za1 _ _⟩
theorem nl_at{s:ByteArray}{m:Nat}(hm:m<s.size)(h:s[m]=10):zgy s.data.toList=true:=by
 unfold zgy
 rw[List.any_eq_true]
 have hd:m<s.data.toList.length:=hm
 exact⟨s.data.toList[m],List.getElem_mem hd,by rw[qfr s m hm,h];rfl⟩
theorem nl_no{s:ByteArray}(h:∀(m:Nat) (hm:m<s.size),s[m]≠10):zgy s.data.toList=false:=by
 unfold zgy
 rw[List.any_eq_false]
 intro x hx
 obtain⟨m,hm,rfl⟩:=List.mem_iff_getElem.1 hx
 have hm':m<s.size:=hm
 rw[qfr s m hm']
 have:=h m hm'
 simpa using this
theorem zq9{w:World}{v:Value}{ls:List ByteArray}(h:zb9 w v ls)(hz:∀s∈ls,s.size≤10000):
 Calls Tryz.prog 10 #[v] w fun e w'=>e= .returned (fkV (zct (ls.map (·.data.toList))))∧Below w.heap.size w w':=by
 have HV:Hid (zb9 (w.alloc (.cells #[.int .i64 0,.int .i64 0] 31)) v ls):=h.below (za1 _ _)
 have HZ:Hid (∀s∈ls,s.size≤10000):=hz
 have HB1:Hid (Below w.heap.size w (w.alloc (.cells #[.int .i64 0,.int .i64 0] 31))):=za1 _ _
 have HT1:Hid (zlt (w.alloc (.cells #[.int .i64 0,.int .i64 0] 31)) w.heap.size 0 0∧w.heap.size<(w.alloc (.cells #[.int .i64 0,.int .i64 0] 31)).heap.size):=⟨zf7 w 0 0,by simp⟩
 have HL:Hid ((ls.map (·.data.toList)).length=ls.length):=List.length_map ..
 obtain⟨a,cap,rfl,_⟩:=h.len
 clear h hz
 go_enter Tryz.func10,Tryz.ntmps10
 go_upto_region 1 with fail
 generalize World.alloc _ _=w1 at*
 by_cases hb:150<ls.length
 ·have HE:Hid (zct (ls.map (·.data.toList))=(10,-1)):=zpf (by rw[HL.out];exact hb)
  have hbi:(150:Int)<(ls.length:Int):=by omega
  go_wp2_with fail
  refine(refF 10 (-1) w1).mono ?_
  rintro e w2 ⟨rfl,hb2⟩
  have ht2:zlt w2 w.heap.size 0 0:=HT1.out.1.below HT1.out.2 hb2
  have HT6:Hid (zlt ((w2.setCell ⟨w.heap.size,0,none⟩ (.int .i64 10)).setCell ⟨w.heap.size,1,none⟩ (.int .i64 (-1))) w.heap.size 10 (-1)):=ht2.put 10 (-1)
  have HB6:Hid (Below w.heap.size w ((w2.setCell ⟨w.heap.size,0,none⟩ (.int .i64 10)).setCell ⟨w.heap.size,1,none⟩ (.int .i64 (-1)))):=zhz (bla HB1.out hb2) (Nat.le_refl _) 10 (-1)
  have hlt2:w.heap.size<w2.heap.size:=Nat.lt_of_lt_of_le HT1.out.2 hb2.size
  obtain⟨c0,c1,f0,f1⟩:=ht2
  clear hb2 HT1 HB1 HV
  go_wp2
  refine zw5 rfl HT6.out rfl rfl ?_
  rw[HE.out]
  exact⟨rfl,HB6.out⟩
 have hbi:¬(150:Int)<(ls.length:Int):=by omega
 have HE:Hid (zct (ls.map (·.data.toList))=zbv 0 (ls.map (·.data.toList))):=zv8 (by rw[HL.out];exact hb)
 go_wp2_with fail
 go_loop [3] (fun i=>∃k:Nat,k≤ls.length∧i= .int .i64 k∧Hid (∀(j:Nat) (h:j<ls.length),j<k→zgy ls[j].data.toList=false)) (fun i=>ls.length-(intOf i).toNat)
 case atStart=>exact⟨0,Nat.zero_le _,rfl,fun j _ h=>absurd h (Nat.not_lt_zero _)⟩
 case round=>
  obtain⟨k,hk,rfl,HW⟩:=hrel
  by_cases hlt:k<ls.length
  ·have hki:(k:Int)<(ls.length:Int):=by omega
   obtain⟨bb,off,rfl,hst⟩:=HV.out.row (by omega)
   have c9:=hst.cell k hlt
   have hbl:=hst.lt
   obtain⟨s,hs⟩:∃s,ls[k]=s:=⟨_,rfl⟩
   have HS:Hid (ls[k]=s):=hs
   have hsz:s.size≤10000:=by rw[←hs];exact HZ.out _ (List.getElem_mem hlt)
   rw[hs]at c9
   clear hst hs
   go_wp2_with fail
   go_loop [4] (fun j=>∃m:Nat,m≤s.size∧j= .int .i64 m∧Hid (∀(q:Nat) (h:q<s.size),q<m→s[q]≠10)) (fun j=>s.size-(intOf j).toNat)
   case atStart=>exact⟨0,Nat.zero_le _,rfl,fun j _ h=>absurd h (Nat.not_lt_zero _)⟩
   case round=>
    obtain⟨m,hm,rfl,HM⟩:=hrel
    by_cases hmt:m<s.size
    ·have hmi:(m:Int)<(s.size:Int):=by omega
     by_cases h10:s[m]=10
     ·have hbb:((s[m].toNat:Int)==10)=true:=by rw[h10];rfl
      have hbn:(s[m].toNat:Int)=10:=by rw[h10];rfl
      have HF:Hid (zbv 0 (ls.map (·.data.toList))=(11,(k:Int))):=by
       have:=zsv (ls.map (·.data.toList)) 0 k (by rw[HL.out];exact hlt) (fun j hj=>by rw[List.getElem_map];exact HW.out j (by omega) hj) (by rw[List.getElem_map,HS.out];exact nl_at hmt h10)
       rw[Nat.zero_add]at this
       exact this
      clear HM HW
      go_wp2_with fail
      refine(refF 11 (k:Int) w1).mono ?_
      rintro e w2 ⟨rfl,hb2⟩
      have ht2:zlt w2 w.heap.size 0 0:=HT1.out.1.below HT1.out.2 hb2
      have HT6:Hid (zlt ((w2.setCell ⟨w.heap.size,0,none⟩ (.int .i64 11)).setCell ⟨w.heap.size,1,none⟩ (.int .i64 k)) w.heap.size 11 k):=ht2.put 11 k
      have HB6:Hid (Below w.heap.size w ((w2.setCell ⟨w.heap.size,0,none⟩ (.int .i64 11)).setCell ⟨w.heap.size,1,none⟩ (.int .i64 k))):=zhz (bla HB1.out hb2) (Nat.le_refl _) 11 k
      have hlt2:w.heap.size<w2.heap.size:=Nat.lt_of_lt_of_le HT1.out.2 hb2.size
      obtain⟨c0,c1,f0,f1⟩:=ht2
      clear hb2 HT1 HB1 HV c9 hbl
      go_wp2
      refine zw5 rfl HT6.out rfl rfl ?_
      rw[HE.out,HF.out]
      exact⟨rfl,HB6.out⟩
     ·have hbb:((s[m].toNat:Int)==10)=false:=by
       simp
       intro e
       exact h10 (UInt8.toNat_inj.1 (by simpa using(by omega:s[m].toNat=10)))
      go_wp2_with fail
      go_round
      case rel=>exact⟨m+1,by omega,by go_num,fun q h hq=>by
       rcases Nat.lt_or_ge q m with h'|h'
       ·exact HM.out q h h'
       ·obtain rfl:q=m:=by omega
        exact h10⟩
      case measure=>simp[intOf];omega
    ·obtain rfl:m=s.size:=by omega
     have HNN:Hid (zgy s.data.toList=false):=nl_no (fun q h=>HM.out q h h)
     clear HM
     go_wp2_with fail
     go_round
     case rel=>exact⟨k+1,by omega,by go_num,fun j h hj=>by
      rcases Nat.lt_or_ge j k with h'|h'
      ·exact HW.out j h h'
      ·obtain rfl:j=k:=by omega
       rw[HS.out]
       exact HNN.out⟩
     case measure=>simp[intOf];omega
  ·obtain rfl:k=ls.length:=by omega
   have HF:Hid (zbv 0 (ls.map (·.data.toList))=(0,0)):=zmk _ 0 (fun x hx=>by
    obtain⟨y,hy,rfl⟩:=List.mem_map.1 hx
    obtain⟨j,hj,rfl⟩:=List.mem_iff_getElem.1 hy
    exact HW.out j hj hj)
   have HT6:Hid (zlt ((w1.setCell ⟨w.heap.size,0,none⟩ (.int .i64 0)).setCell ⟨w.heap.size,1,none⟩ (.int .i64 0)) w.heap.size 0 0):=HT1.out.1.put 0 0
   have HB6:Hid (Below w.heap.size w ((w1.setCell ⟨w.heap.size,0,none⟩ (.int .i64 0)).setCell ⟨w.heap.size,1,none⟩ (.int .i64 0))):=zhz HB1.out (Nat.le_refl _) 0 0
   obtain⟨⟨c0,c1,f0,f1⟩,hlt2⟩:=HT1.out
   clear HT1 HB1 HV HW
   go_wp2
   refine zw5 rfl HT6.out rfl rfl ?_
   rw[HE.out,HF.out]
   exact⟨rfl,HB6.out⟩
end Go.Proofs.YtcbnnfeelhlapadGreatDoor