/-
  KLN, KLP, KLR, KLD.
-/
import Derived.Test.YtcbnnfeelhlapadGreatDoorKLQ
namespace Go.Proofs.YtcbnnfeelhlapadGreatDoor
set_option maxHeartbeats 3200000
set_option maxRecDepth 20000
open Go.RowKit
def NumsIs(w:World)(ws:List ByteArray)(e:Ending)(w':World):Prop:=
 ((∃zs v,zbw ws=some zs/\e= .returned (.tuple #[v,.bool true])/\znj w' v zs)\/(zbw ws=none/\e= .returned (.tuple #[.slice none 0 0,.bool false])))/\Below w.heap.size w w'
structure NuI(w:World)(v:Value)(zs:List Int)(wk:World):Prop where
 below:Below w.heap.size w wk
 own:zps wk w.heap.size v zs
theorem NuI.after{w wk w':World}{v:Value}{zs:List Int}(h:NuI w v zs wk)(hb:Below wk.heap.size wk w'):NuI w v zs w':=⟨bla h.below hb,h.own.below hb⟩
theorem NuI.grown{w wr w2:World}{v v':Value}{zs:List Int}{z:Int}(h:NuI w v zs wr)(ho:w2.ownsRow w.heap.size 3 1 v' (zs.length+1) (ziu zs++[.int .i64 z]))(hg:wr.grownBy w2 v.ownBlock):NuI w v' (zs++[z]) w2:=by
 refine⟨h.below.grown hg (by have:=h.below.size;omega) (fun j hj=>(World.ownsRow.lt h.own j hj).1),?_⟩
 unfold zps
 rw[zmm,List.length_append]
 exact ho
theorem zkn{w:World}{v:Value}{ws:List ByteArray}(h:zbs w v ws)(hw:zck w)(hn:ws.length<=1000)(hz:∀s∈ws,s.size<=100000):
 Calls Tryz.prog 27 #[v] w fun e w'=>NumsIs w ws e w':=by
 have HV:=hid h
 have HZ:=hid hz
 have HR:=hid hw
 have H0:Hid (NuI w (.slice none 0 0) [] w):=⟨Below.refl _ _,World.ownsRow_nil _ _ _ _⟩
 obtain⟨i0,hi0,hz0,hz1,hz2⟩:=info_parts zss
 obtain⟨a,cap,rfl,_⟩:=h.len
 clear h hw hz
 go_enter Tryz.func27,Tryz.ntmps27
 go_wp2_with fail
 go_loopw [4,11] (fun v i wr=>∃(k:Nat) (zs:List Int),k<=ws.length/\i= .int .i64 k/\Hid (zbw (ws.take k)=some zs)/\Hid (NuI w v zs wr)) (fun _ i _=>ws.length-(intOf i).toNat)
 case atStart=>exact⟨0,[],Nat.zero_le _,rfl,rfl,H0.out⟩
 obtain⟨k,zs,hk,rfl,HT,HW⟩:=hrel
 clear H0
 by_cases hlt:k<ws.length
 ·have hki:(k:Int)<(ws.length:Int):=by omega
  obtain⟨bb,off,rfl,hst⟩:=(HV.out.below HW.out.below).row (by omega)
  have c0:=hst.cell k hlt
  have hbl:=hst.lt
  have HSZ:Hid (ws[k].size<=100000):=HZ.out _ (List.getElem_mem hlt)
  have HNO:=hid (zs9 ws k hlt)
  have HYS:Hid (∀z,zfo ws[k]=some z->zbw (ws.take (k+1))=some (zs++[z])):=fun z hz=>by
   rw[qal ws k hlt]
   exact zm5 _ _ _ _ HT.out hz
  have HZL:Hid (zs.length=k):=by show _=_;rw[zhn _ _ HT.out,List.length_take];omega
  generalize ws[k]=s at*
  clear hst
  cases hnum:zhp s with
  |none=>
   have HE:Hid (zbw ws=none):=HNO.out (by simp[zfo,hnum])
   go_wp2_with fail
   refine(qgu s (by have:=HSZ.out;omega) hnum _ (HR.out.below HW.out.below)).mono ?_
   rintro e w5 ⟨v5,t5,q5,rfl,_,hb⟩
   have H5:=hid (bla HW.out.below hb)
   clear hb HW c0 hbl hnum
   go_wp2
   go_ret2
   exact⟨.inr ⟨HE.out,rfl⟩,H5.out⟩
  |some z=>
   have HIN:=hid (zul hnum)
   by_cases hs:zc3 z=s
   ·have HE:Hid (zbw (ws.take (k+1))=some (zs++[z])):=HYS.out z (by simp[zfo,hnum,hs])
    go_wp2_with fail
    refine(zt6 s z (by have:=HSZ.out;omega) hnum _).mono ?_
    rintro e w5 ⟨rfl,hb⟩
    have H5:=hid (HW.out.after hb)
    clear hb HW c0 hbl
    go_wp2_with fail
    refine(zli z HIN.out _ (HR.out.below H5.out.below)).mono ?_
    rintro e w6 ⟨rfl,hb⟩
    have H6:Hid (NuI w u4 zs (w6.alloc (.cells #[.int .i64 z] 3))):=(H5.out.after hb).after (za2 _ _)
    rw[hs]
    have hse:(s.toList==s.toList)=true:=by simp
    clear hb H5 hs hnum
    go_wp2_with (at_builtin;refine wpList_append_own _ rfl (.tmp 28) (.tmp 30) 79 rfl w.heap.size 3 i0 (.int .i64 0) 1 8 Tryz.underlying79 hi0 hz0 hz1 hz2 rfl (by decide) u4 zs.length (ziu zs) rfl H6.out.own ⟨w6.heap.size,0,none⟩ 1 1 [.int .i64 z] (by simp[go_sem]) rfl (zno _ _) ?c2 ?c3 ?c4 ?c5 ?_)
    case c2=>intro u hu;simp at hu;subst hu;rfl
    case c3=>have:=HZL.out;unfold maxLen;omega
    case c4=>have:=HZL.out;omega
    case c5=>exact H6.out.below.size
    intro v' w7 hown' hgrow _
    have H7:=hid (H6.out.grown hown' hgrow)
    clear hown' hgrow H6
    go_wp2_with fail
    go_roundw
    case rel=>exact⟨k+1,zs++[z],by omega,by go_num,HE.out,H7.out⟩
    case measure=>simp[intOf];omega
   have HE:Hid (zbw ws=none):=HNO.out (by simp[zfo,hnum,hs])
   go_wp2_with fail
   refine(zt6 s z (by have:=HSZ.out;omega) hnum _).mono ?_
   rintro e w5 ⟨rfl,hb⟩
   have H5:=hid (HW.out.after hb)
   clear hb HW c0 hbl
   go_wp2_with fail
   refine(zli z HIN.out _ (HR.out.below H5.out.below)).mono ?_
   rintro e w6 ⟨rfl,hb⟩
   have H6:=hid (bla H5.out.below hb)
   have hne:((zc3 z).toList==s.toList)=false:=by rw[qgt];simpa using hs
   generalize zc3 z=sz at*
   clear hb H5 hnum
   go_wp2
   go_ret2
   exact⟨.inr ⟨HE.out,rfl⟩,H6.out⟩
 obtain rfl:k=ws.length:=by omega
 have HE:Hid (zbw ws=some zs):=by have:=HT.out;rw[List.take_length]at this;exact this
 go_wp2_with fail
 go_ret2
 exact⟨.inl ⟨zs,u4,HE.out,rfl,HW.out.own.ilst⟩,HW.out.below⟩
def strN(v:Value):Nat:=match v with| .string s=>s.size|_=>0
theorem zyi(s:ByteArray)(w:World):Calls Tryz.prog 50 #[.string s,.string ⟨#[32]⟩] w fun e w'=>e= .returned (.string (bl (Lib.trimLeftB s.data.toList 32)))/\w'=w:=
 Tryz.strings_TrimLeft_one s 32 (by decide) w
theorem cut_any(s:ByteArray)(w:World)(hw:zck w)(hs:s.size<=100000):Calls Tryz.prog 51 #[.string s,.string ⟨#[32]⟩] w fun e w'=>e= .returned (.tuple #[.string (bl (Lib.cut s.data.toList [32]).1),.string (bl (Lib.cut s.data.toList [32]).2.1),.bool (Lib.cut s.data.toList [32]).2.2])/\Below w.heap.size w w':=by
 obtain⟨m,hm⟩:=hw.mx
 exact(Tryz.strings_Cut s ⟨#[32]⟩ m w (by omega) hm).mono fun e w' ⟨e1,n,e2⟩=>⟨e1,by rw[e2];exact below_drewN (Below.refl _ _) n⟩
theorem zw1(s:ByteArray)(w:World)(hw:zck w)(hs:s.size<=100000):
 Calls Tryz.prog 26 #[.string s] w fun e w'=>∃v,e= .returned v/\qce w' w.heap.size v (((zax s.data.toList).take 5).map bl)/\Below w.heap.size w w':=by
 have HR:Hid (zck w):=hw
 have HSZ:Hid (s.data.toList.length<=100000):=hs
 have H0:Hid (LwI s.data.toList [] (Lib.trimLeftB s.data.toList 32)):=qex _
 have HO0:Hid (WoI w (.slice none 0 0) ([].map bl) w):=⟨Below.refl _ _,zzb _ _⟩
 obtain⟨i0,hi0,hz0,hz1,hz2⟩:=info_parts zxc
 clear hw hs
 go_enter Tryz.func26,Tryz.ntmps26
 go_wp2_with fail
 refine(zyi s w).mono ?_
 rintro e w1 ⟨rfl,rfl⟩
 generalize Lib.trimLeftB s.data.toList 32=rest0 at*
 go_wp2_with fail
 go_loopw [3,4] (fun v u wr=>∃(done:List (List UInt8)) (rest:List UInt8),u= .string (bl rest)/\Hid (LwI s.data.toList done rest)/\Hid (WoI w1 v (done.map bl) wr)) (fun _ u _=>strN u)
 case atStart=>exact⟨[],rest0,rfl,H0.out,HO0.out⟩
 obtain⟨done,rest,rfl,HT,HW⟩:=hrel
 clear H0 HO0
 obtain⟨va,vc,hvf,_⟩:=HW.out.own.lst.len
 have HDL:Hid ((done.map bl).length=done.length):=List.length_map ..
 by_cases hr:rest=[]
 ·have HE:Hid (done=(zax s.data.toList).take 5):=HT.out.ended (.inl hr)
  subst hr
  have hneb:((bl []).toList==([]:List UInt8))=true:=by rw[zbi];simp
  obtain⟨sr,hsr⟩:∃sr,bl []=sr:=⟨_,rfl⟩
  rw[hsr]at hneb
  rw[hsr]
  clear hsr
  go_wp2
  go_ret
  exact⟨u3,rfl,by rw[<-HE.out];exact HW.out.own,HW.out.below⟩
 have hneb:((bl rest).toList==([]:List UInt8))=false:=by rw[zbi];simpa using bl_ne hr
 by_cases hd:done.length<=4
 ·obtain⟨hn1,hn2,hn3,hn4⟩:=HT.out.next hr hd
  have HN1:Hid (LwI s.data.toList (done++[(Lib.cut rest [32]).1]) (Lib.trimLeftB (Lib.cut rest [32]).2.1 32)):=hn1
  have HRL:Hid (rest.length<=100000):=by show _<=_;have:=HT.out.lr;have:=HSZ.out;omega
  have HC:=fun wk (hwk:zck wk)=>cut_any (bl rest) wk hwk (by rw[zd8];exact HRL.out)
  rw[zhc]at HC
  have HCC:Hid (∀wk,zck wk->Calls Tryz.prog 51 #[.string (bl rest),.string ⟨#[32]⟩] wk fun e w'=>e= .returned (.tuple #[.string (bl (Lib.cut rest [32]).1),.string (bl (Lib.cut rest [32]).2.1),.bool (Lib.cut rest [32]).2.2])/\Below wk.heap.size wk w'):=HC
  have HM:Hid ((Lib.trimLeftB (Lib.cut rest [32]).2.1 32).length<(bl rest).size):=by show _<_;rw[zd8];exact hn2
  clear HC hn1 hn2 hn3 hn4 hr
  generalize Lib.cut rest [32]=c at*
  obtain⟨c1,c2,c3⟩:=c
  simp only at HCC HN1 HM
  obtain⟨sr,hsr⟩:∃sr,bl rest=sr:=⟨_,rfl⟩
  rw[hsr]at HCC hneb HM
  rw[hsr]
  have HTM:Hid (∀wk,Calls Tryz.prog 50 #[.string (bl c2),.string ⟨#[32]⟩] wk fun e w'=>e= .returned (.string (bl (Lib.trimLeftB c2 32)))/\w'=wk):=fun wk=>by have:=zyi (bl c2) wk;rw[zhc]at this;exact this
  obtain⟨s1,hs1⟩:∃s1,bl c1=s1:=⟨_,rfl⟩
  obtain⟨s2,hs2⟩:∃s2,bl c2=s2:=⟨_,rfl⟩
  rw[hs1,hs2]at HCC
  rw[hs2]at HTM
  have HS1:Hid (bl c1=s1):=hs1
  clear hs1 hs2 hsr
  have hd4:((done.map bl).length:Int)<=4:=by rw[HDL.out];omega
  have hd4n:(done.map bl).length<=4:=by rw[HDL.out];exact hd
  have HLN:Hid ((done.map bl).length<=4):=hd4n
  obtain⟨ws,hws⟩:∃ws,done.map bl=ws:=⟨_,rfl⟩
  rw[hws]at HW hvf hd4 HLN hd4n
  have HWS:Hid (done.map bl=ws):=hws
  clear hws HDL hd
  have HV3:Hid (u3= .slice va ws.length vc):=hvf
  subst hvf
  go_wp2_with fail
  refine(HCC.out _ (HR.out.below HW.out.below)).mono ?_
  rintro e w5 ⟨rfl,hb⟩
  have H5:Hid (WoI w1 (.slice va ws.length vc) ws (w5.alloc (.cells #[.string s1] 9))):=(HW.out.after hb).after (za2 _ _)
  clear hb HW HCC
  go_wp2_with (at_builtin;refine wpList_append_own _ rfl (.tmp 23) (.tmp 25) 22 rfl w1.heap.size 9 i0 (.string ⟨#[]⟩) 1 16 Tryz.underlying22 hi0 hz0 hz1 hz2 rfl (by decide) (.slice va ws.length vc) ws.length (zna ws) rfl H5.out.own ⟨w5.heap.size,0,none⟩ 1 1 [.string s1] (by simp[go_sem]) rfl (znn _ _) ?c2 ?c3 ?c4 ?c5 ?_)
  case c2=>intro u hu;simp at hu;subst hu;rfl
  case c3=>have:=HLN.out;unfold maxLen;omega
  case c4=>have:=HLN.out;omega
  case c5=>exact H5.out.below.size
  intro v' w6 hown' hgrow _
  have H6:Hid (WoI w1 v' ((done++[c1]).map bl) w6):=by
   show WoI _ _ _ _
   rw[List.map_append,HWS.out,List.map_cons,List.map_nil,HS1.out]
   exact H5.out.grown hown' hgrow
  clear hown' hgrow H5
  go_wp2_with fail
  refine(HTM.out _).mono ?_
  rintro e w7 ⟨rfl,rfl⟩
  go_wp2_with fail
  go_roundw
  case rel=>exact⟨done++[c1],Lib.trimLeftB c2 32,rfl,HN1.out,H6.out⟩
  show strN (.string (bl (Lib.trimLeftB c2 32)))<strN (.string sr)
  show(bl (Lib.trimLeftB c2 32)).size<sr.size
  rw[zd8]
  exact HM.out
 have HE:Hid (done=(zax s.data.toList).take 5):=HT.out.ended (.inr (by omega))
 have hd4:¬((done.map bl).length:Int)<=4:=by rw[HDL.out];omega
 have hd4b:decide (((done.map bl).length:Int)<=4)=false:=decide_eq_false hd4
 have hd4c:¬(done.map bl).length<=4:=by omega
 have HOW:Hid (qce wr w1.heap.size u3 (((zax s.data.toList).take 5).map bl)/\Below w1.heap.size w1 wr):=⟨by rw[<-HE.out];exact HW.out.own,HW.out.below⟩
 obtain⟨sr,hsr⟩:∃sr,bl rest=sr:=⟨_,rfl⟩
 rw[hsr]at hneb
 rw[hsr]
 obtain⟨dn,hdn⟩:∃dn,(done.map bl).length=dn:=⟨_,rfl⟩
 rw[hdn]at hvf hd4 hd4b hd4c
 subst hvf
 clear hsr HW HDL hdn hd
 go_wp2
 go_ret
 exact⟨_,rfl,by have:=HOW.out.1;simpa using this,HOW.out.2⟩
variable {w w':World} {B:Nat} {x:Tst} {v:Value}
def putX(o:Option (Int×Int×List UInt8)):Tst:=match o with
 |some (a,b,text)=>⟨2,a,b,0,bl text⟩
 |none=>⟨0,0,0,0,⟨#[]⟩⟩
theorem qar(s:ByteArray)(w:World)(hw:zck w)(hs:s.size<=100000):
 Calls Tryz.prog 46 #[.string s,.string ⟨#[32]⟩,.int .i64 4] w fun e w'=>
  e= .returned (.slice (some ⟨w.heap.size,0,none⟩) (zg2 s).length (min 4 (s.size+1)))/\w'=w.alloc (.cells (Lib.cellsOf (zg2 s) (min 4 (s.size+1))) 9):=by
 obtain⟨m,hm⟩:=hw.mx
 exact Tryz.strings_SplitN s ⟨#[32]⟩ 4 m w (by omega) hm (by decide) (by decide) (by decide)
theorem qf3(h:zt7 w B 0 x):(loadVar 74 ⟨B,0,none⟩).run Tryz.prog w= .ok (tsV x) w:=by
 obtain⟨_,c0,c1,c2,c3,c4⟩:=h
 simp only[Nat.zero_add]at c0 c1 c2 c3 c4
 simp[go_sem,loadVar,loadCells,loadCellsFrom,Sem.run_bind,Tryz.isAgg74,Tryz.sizeOf74,c0,c1,c2,c3,c4]
theorem znm{R:Ending->World->Prop}{a:Act}(h:zt7 w B 0 x)(h2:a.tmps.getD 2 undef= .pointer (some ⟨B,0,none⟩))(h3:a.tmps.getD 3 undef=v)(hd:a.defers=[])
 (hR:R (.returned (.tuple #[tsV x,v])) w):bodyPost Tryz.prog Tryz.f24 R Exit.ret a w:=by
 refine bodyPost_ret ?_ hd hR
 rw[results_cell_tmp rfl,h2,h3]
 simp[asAddr,qf3 h]
structure TsF(w:World)(B:Nat)(x:Tst):Prop where
 at_:zt7 w B 0 x
 free:∀o,o<5->w.frozen? ⟨B,o,none⟩=false
theorem ztf(w:World)(x:Tst):TsF (w.alloc (ziz x)) w.heap.size x:=⟨zhj w x,fun o ho=>by
 rcases(show o=0\/o=1\/o=2\/o=3\/o=4 by omega)with rfl|rfl|rfl|rfl|rfl<;>simp[go_sem]⟩
theorem TsF.below{w w':World}{B:Nat}{x:Tst}(h:TsF w B x)(hb:Below w.heap.size w w'):TsF w' B x:=⟨h.at_.below hb,fun o ho=>by rw[zv4 h.at_.lt hb];exact h.free o ho⟩
abbrev put5S(w:World)(B:Nat)(x:Tst):World:=((((w.setCell ⟨B,0,none⟩ (.int .i64 x.kind)).setCell ⟨B,1,none⟩ (.int .i64 x.w)).setCell ⟨B,2,none⟩ (.int .i64 x.at_)).setCell ⟨B,3,none⟩ (.int .i64 x.many)).setCell ⟨B,4,none⟩ (.string x.text)
theorem TsF.put(h:TsF w B x)(y:Tst):zt7 (put5S w B y) B 0 y:=by
 obtain⟨⟨hl,c0,c1,c2,c3,c4⟩,_⟩:=h
 simp only[Nat.zero_add]at c0 c1 c2 c3 c4
 refine⟨by simpa [World.setCell]using hl,?_,?_,?_,?_,?_⟩<;>simp[go_sem,c0,c1,c2,c3,c4]
theorem zij{N:Nat}(h:Below N w w')(hN:N<=B)(x:Tst):Below N w (put5S w' B x):=
 ((((h.setCell (p:=⟨B,0,none⟩) hN _).setCell (p:=⟨B,1,none⟩) hN _).setCell (p:=⟨B,2,none⟩) hN _).setCell (p:=⟨B,3,none⟩) hN _).setCell (p:=⟨B,4,none⟩) hN _
theorem zof(w:World)(s t:ByteArray):zbs (w.alloc (.cells #[.string s,.string t] 9)) (.slice (some ⟨w.heap.size,0,none⟩) 2 2) [s,t]:=
 ⟨_,2,2,rfl,rfl,Nat.le_refl _,.inr ⟨_,0,rfl,by simp,fun i hi=>by
  have h2:i<2:=hi
  rcases(show i=0\/i=1 by omega)with rfl|rfl<;>simp[go_sem]⟩⟩
theorem qfk{zs:List Int}(h:znj w v zs)(hp:0<zs.length):∃b off cap,v= .slice (some ⟨b,off,none⟩) zs.length cap/\b<w.heap.size/\∀i (h:i<zs.length),w.cell? ⟨b,off+i,none⟩=some (.int .i64 zs[i]):=by
 obtain⟨a,len,cap,rfl,h1,h2,h3⟩:=h
 rcases h3 with h3|⟨b,off,rfl,h4,h5⟩
 ·omega
 exact⟨b,off,cap,by rw[h1],h4,h5⟩
theorem qaz{l:List (List UInt8)}(h:l.length≠4):zkl l=none:=by
 unfold zkl
 split
 ·simp at h
 rfl
theorem qdq(w:World)(a0 a1 a2 a3:ByteArray):Strs (w.alloc (.cells (Lib.cellsOf [a0,a1,a2,a3] 4) 9)) w.heap.size 0 [a0,a1,a2,a3]:=by
 refine⟨by simp,fun i hi=> ?_⟩
 have h6:i<4:=hi
 rcases(show i=0\/i=1\/i=2\/i=3 by omega)with rfl|rfl|rfl|rfl<;>simp[go_sem,Lib.cellsOf]
structure PsI(w:World)(B BW:Nat)(a0 a1 a2 a3:ByteArray)(wk:World):Prop where
 below:Below w.heap.size w wk
 step:TsF wk B ⟨0,0,0,0,⟨#[]⟩⟩
 words:Strs wk BW 0 [a0,a1,a2,a3]
theorem PsI.after{wk:World}{BW:Nat}{a0 a1 a2 a3:ByteArray}(h:PsI w B BW a0 a1 a2 a3 wk)(hb:Below wk.heap.size wk w'):PsI w B BW a0 a1 a2 a3 w':=⟨bla h.below hb,h.step.below hb,h.words.below hb⟩
abbrev zTs:Tst:=⟨0,0,0,0,⟨#[]⟩⟩
theorem zws(s:ByteArray)(w:World)(hw:zck w)(hs:s.size<=100000):
 Calls Tryz.prog 24 #[.string s] w fun e w'=>e= .returned (.tuple #[tsV (putX (zew s.data.toList)),.bool (zew s.data.toList).isSome])/\Below w.heap.size w w':=by
 have HR:=hid hw
 have HSZ:=hid hs
 have HPO:Hid (zew s.data.toList=zkl (zn5 3 s.data.toList)):=zoy _
 have HFW:=hid (qbp s)
 have HSP:Hid (∀wk,zck wk->Calls Tryz.prog 46 #[.string s,.string ⟨#[32]⟩,.int .i64 4] wk fun e w'=>e= .returned (.slice (some ⟨wk.heap.size,0,none⟩) (zg2 s).length (min 4 (s.size+1)))/\w'=wk.alloc (.cells (Lib.cellsOf (zg2 s) (min 4 (s.size+1))) 9)):=fun wk hwk=>qar s wk hwk hs
 have HT0:=hid (ztf w zTs)
 have HB0:Hid (Below w.heap.size w (w.alloc (ziz zTs))):=za2 _ _
 have HCL:Hid ((zn5 3 s.data.toList).length=(zg2 s).length):=by show _=_;rw[HFW.out,List.length_map]
 have HJL:Hid (zng (zn5 3 s.data.toList)=s.data.toList):=zvk 3 _
 generalize zn5 3 s.data.toList=cl at*
 by_cases h4:(zg2 s).length=4
 ·have hcap:min 4 (s.size+1)=4:=by
   have h1:(zg2 s).length<=min 4 (s.size+1):=by
    have:=Lib.splitB_length_le spS 0 (min 4 (s.size+1)-1) s
    unfold zg2
    omega
   omega
  obtain⟨b0,b1,b2,b3,rfl⟩:∃b0 b1 b2 b3,cl=[b0,b1,b2,b3]:=by
   match cl,HCL.out.trans h4 with
   |[a,b,c,d],_=>exact⟨a,b,c,d,rfl⟩
  have hf:zg2 s=[bl b0,bl b1,bl b2,bl b3]:=HFW.out
  have HS4:Hid ((bl b1).size<=100000/\(bl b2).size<=100000):=by
   have hjl:=congrArg List.length HJL.out
   simp only[zng,List.length_append,List.length_cons,zav]at hjl
   have:=HSZ.out
   exact⟨by rw[zd8];omega,by rw[zd8];omega⟩
  rw[hf,hcap]at HSP
  have HPS:Hid (PsI w w.heap.size (w.heap.size+1) (bl b0) (bl b1) (bl b2) (bl b3) ((w.alloc (ziz zTs)).alloc (.cells (Lib.cellsOf [bl b0,bl b1,bl b2,bl b3] 4) 9))):=by
   refine⟨bla (za2 _ _) (za2 _ _),(ztf w zTs).below (za2 _ _),?_⟩
   have:=qdq (w.alloc (ziz zTs)) (bl b0) (bl b1) (bl b2) (bl b3)
   simpa using this
  have HR1:Hid (zck (w.alloc (ziz zTs))):=hw.below (za2 _ _)
  have hBe:w.heap.size≠w.heap.size+1:=by omega
  clear hf hcap hw hs h4 HFW HCL HT0 HB0 HSZ HJL HR
  by_cases hp:b0=[112,117,116]
  ·have hpb:((bl b0).toList==([112,117,116]:List UInt8))=true:=by rw[zbi,hp];simp
   have HP2:Hid (zew s.data.toList=(match zbw [bl b1,bl b2]with|some [w,at_]=>some (w,at_,b3)|_=>none)):=by
    show _=_
    rw[HPO.out]
    exact if_pos hp
   clear HPO hp
   obtain⟨s0,hs0⟩:∃s0,bl b0=s0:=⟨_,rfl⟩
   obtain⟨s1,hs1⟩:∃s1,bl b1=s1:=⟨_,rfl⟩
   obtain⟨s2,hs2⟩:∃s2,bl b2=s2:=⟨_,rfl⟩
   obtain⟨s3,hs3⟩:∃s3,bl b3=s3:=⟨_,rfl⟩
   have HS3:=hid hs3
   rw[hs0]at hpb
   rw[hs0,hs1,hs2,hs3]at HSP HPS
   rw[hs1,hs2]at HS4 HP2
   clear hs0 hs1 hs2 hs3
   go_enter Tryz.func24,Tryz.ntmps24
   go_wp2_with fail
   refine(HSP.out _ HR1.out).mono ?_
   rintro e w1 ⟨rfl,rfl⟩
   clear HSP
   have HR2:=HR1.out.below (za2 _ (.cells (Lib.cellsOf [s0,s1,s2,s3] 4) 9))
   have HR3:=hid HR2
   clear HR1 HR2
   simp only[World.size_alloc]at*
   generalize World.alloc _ (Obj.cells (Lib.cellsOf _ _) _)=w2 at*
   generalize hBW:w.heap.size+1=BW at*
   generalize hB:w.heap.size=B at*
   have c0:=HPS.out.words.cell 0 (by simp)
   have hlw:=HPS.out.words.lt
   simp only[Nat.add_zero,List.getElem_cons_zero]at c0
   simp only[List.length_cons,List.length_nil,Nat.zero_add]
   go_wp2_with fail
   clear c0 hlw
   cases hrd:zbw [s1,s2]with
   |none=>
    have HE:Hid (zew s.data.toList=none):=by show _=_;rw[HP2.out,hrd]
    have HRN:=hid hrd
    clear hrd HP2
    refine zdi (fun wk=>PsI w B BW s0 s1 s2 s3 wk) (fun wk=>PsI w B BW s0 s1 s2 s3 wk/\zck wk) (fun i=>i==6||i==7) (fun _=>false) (by kernel_rfl) (by kernel_rfl) (by kernel_rfl) (fun _ h=>h.1) ⟨HPS.out.after (Below.refl _ _).drew,HR3.out.below (Below.refl _ _).drew⟩ ?_
    refine zak (some 20) w (.slice (some ⟨BW,0,none⟩) 4 4) (.tmp 4) (.slice (some ⟨BW,0,none⟩) 4 4) ?_ ?_
    ·intros;go_simp
    go_big_quiet_op
    refine wlb (some 21) w rfl (.pointer (some ⟨BW,1,none⟩)) rfl (by kernel_rfl) (fun wk hwk=> ?_) ?_
    ·generalize hA:Act.eval _=ρ
     have s20:ρ (.tmp 20)= .slice (some ⟨BW,0,none⟩) 4 4:=by rw[<-hA];kernel_rfl
     have k1:ρ (.const (.int .i64 1))= .int .i64 1:=by rw[<-hA];kernel_rfl
     clear hA
     go_simp
    go_big_quiet_op
    refine zak (some 22) w (.string s1) (.tmp 21) (.pointer (some ⟨BW,1,none⟩)) (fun wk hwk ρ s21=> ?_) ?_
    ·have c0:=hwk.words.cell 1 (by simp)
     have hlw:=hwk.words.lt
     simp only[Nat.zero_add,List.getElem_cons_succ,List.getElem_cons_zero]at c0
     go_simp
    go_big_quiet_op
    refine zak (some 23) w (.slice (some ⟨BW,0,none⟩) 4 4) (.tmp 4) (.slice (some ⟨BW,0,none⟩) 4 4) ?_ ?_
    ·intros;go_simp
    go_big_quiet_op
    refine wlb (some 24) w rfl (.pointer (some ⟨BW,2,none⟩)) rfl (by kernel_rfl) (fun wk hwk=> ?_) ?_
    ·generalize hA:Act.eval _=ρ
     have s23:ρ (.tmp 23)= .slice (some ⟨BW,0,none⟩) 4 4:=by rw[<-hA];kernel_rfl
     have k1:ρ (.const (.int .i64 2))= .int .i64 2:=by rw[<-hA];kernel_rfl
     clear hA
     go_simp
    go_big_quiet_op
    refine zak (some 25) w (.string s2) (.tmp 24) (.pointer (some ⟨BW,2,none⟩)) (fun wk hwk ρ s24=> ?_) ?_
    ·have c0:=hwk.words.cell 2 (by simp)
     have hlw:=hwk.words.lt
     simp only[Nat.zero_add,List.getElem_cons_succ,List.getElem_cons_zero]at c0
     go_simp
    go_big_quiet_op
    refine wls (some 26) w rfl rfl (by kernel_rfl) (fun u=>∃E,u= .slice (some ⟨E,0,none⟩) 2 2) (fun u wk=>PsI w B BW s0 s1 s2 s3 wk) (fun u wk=>(∃E,u= .slice (some ⟨E,0,none⟩) 2 2)/\zbs wk u [s1,s2]/\PsI w B BW s0 s1 s2 s3 wk/\zck wk) (⟨.slice (some ⟨0,0,none⟩) 2 2,0,rfl⟩) (fun _ _ h=>h) (fun _ _ h=>h.2.2.1) (fun wk hwk=> ?_) (fun u9 hu9=> ?_)
    ·generalize hA:Act.eval _=ρ
     have s22:ρ (.tmp 22)= .string s1:=by rw[<-hA];kernel_rfl
     have s25:ρ (.tmp 25)= .string s2:=by rw[<-hA];kernel_rfl
     clear hA
     go_simp
     have hq1:=zof wk s1 s2
     have hq2:=hwk.1.after (za2 wk (.cells #[.string s1,.string s2] 9))
     have hq3:=hwk.2.below (za2 wk (.cells #[.string s1,.string s2] 9))
     go_simp
     exact⟨⟨_,rfl⟩,hq1,hq2,hq3⟩
    obtain⟨E,rfl⟩:=hu9
    go_big_quiet_op
    refine wls (some 27) w rfl rfl (by kernel_rfl) (fun u=>u= .tuple #[.slice none 0 0,.bool false]) (fun u wk=>PsI w B BW s0 s1 s2 s3 wk) (fun u wk=>PsI w B BW s0 s1 s2 s3 wk) (⟨_,rfl⟩) (fun _ _ h=>h) (fun _ _ h=>h) (fun wk hwk=> ?_) (fun u9 hu9=> ?_)
    ·generalize hA:Act.eval _=ρ
     have s26:ρ (.tmp 26)= .slice (some ⟨E,0,none⟩) 2 2:=by rw[<-hA];kernel_rfl
     have sf:ρ (.func 27)= .func (.func 27) #[] #[]:=by rw[<-hA];kernel_rfl
     clear hA
     go_simp
     refine(zkn hwk.2.1 hwk.2.2.2 (by simp) (fun s hs=> ?_)).mono ?_
     ·have:=HS4.out
      simp only[List.mem_cons,List.not_mem_nil,or_false]at hs
      rcases hs with rfl|rfl
      ·exact this.1
      exact this.2
     rintro e w7 ⟨h7,hb⟩
     rcases h7 with⟨zs,v,h8,_⟩|⟨_,rfl⟩
     ·rw[HRN.out]at h8;cases h8
     exact⟨_,rfl,rfl,hwk.2.2.1.after hb⟩
    subst hu9
    go_big_quiet_op
    refine zak (some 19) w (.tuple #[.slice none 0 0,.bool false]) (.tmp 27) (.tuple #[.slice none 0 0,.bool false]) ?_ ?_
    ·intros;go_simp
    go_big_quiet_op
    refine zak (some 28) w (.slice none 0 0) (.tmp 19) (.tuple #[.slice none 0 0,.bool false]) ?_ ?_
    ·intros;go_simp
    go_big_quiet_op
    refine zak (some 29) w (.bool false) (.tmp 19) (.tuple #[.slice none 0 0,.bool false]) ?_ ?_
    ·intros;go_simp
    go_big_quiet_op
    refine zak (some 5) w (.slice none 0 0) (.tmp 28) (.slice none 0 0) ?_ ?_
    ·intros;go_simp
    go_big_quiet_op
    refine zak (some 6) w (.bool false) (.tmp 29) (.bool false) ?_ ?_
    ·intros;go_simp
    go_big_quiet_op
    refine zhf (fun w9 hw9=> ?_)
    have H9:=hid hw9
    clear hw9 HPS HR3
    obtain⟨⟨hlb,g0,g1,g2,g3,g4⟩,gf⟩:=H9.out.step
    have f0:=gf 0 (by omega)
    have f1:=gf 1 (by omega)
    have f2:=gf 2 (by omega)
    have f3:=gf 3 (by omega)
    have f4:=gf 4 (by omega)
    simp only[Nat.zero_add]at g0 g1 g2 g3 g4
    go_wp2
    refine znm (x:=zTs) (H9.out.step.put zTs) rfl rfl rfl ?_
    rw[HE.out]
    exact⟨rfl,zij H9.out.below (by omega) zTs⟩
   |some zs=>
    obtain⟨z1,z2,rfl⟩:∃z1 z2,zs=[z1,z2]:=by
     have:=zhn _ _ hrd
     match zs,this with
     |[a,b],_=>exact⟨a,b,rfl⟩
    have HE:Hid (zew s.data.toList=some (z1,z2,b3)):=by show _=_;rw[HP2.out,hrd]
    have HRN:=hid hrd
    clear hrd HP2
    refine zdi (fun wk=>PsI w B BW s0 s1 s2 s3 wk) (fun wk=>PsI w B BW s0 s1 s2 s3 wk/\zck wk) (fun i=>i==6||i==7) (fun _=>false) (by kernel_rfl) (by kernel_rfl) (by kernel_rfl) (fun _ h=>h.1) ⟨HPS.out.after (Below.refl _ _).drew,HR3.out.below (Below.refl _ _).drew⟩ ?_
    refine zak (some 20) w (.slice (some ⟨BW,0,none⟩) 4 4) (.tmp 4) (.slice (some ⟨BW,0,none⟩) 4 4) ?_ ?_
    ·intros;go_simp
    go_big_quiet_op
    refine wlb (some 21) w rfl (.pointer (some ⟨BW,1,none⟩)) rfl (by kernel_rfl) (fun wk hwk=> ?_) ?_
    ·generalize hA:Act.eval _=ρ
     have s20:ρ (.tmp 20)= .slice (some ⟨BW,0,none⟩) 4 4:=by rw[<-hA];kernel_rfl
     have k1:ρ (.const (.int .i64 1))= .int .i64 1:=by rw[<-hA];kernel_rfl
     clear hA
     go_simp
    go_big_quiet_op
    refine zak (some 22) w (.string s1) (.tmp 21) (.pointer (some ⟨BW,1,none⟩)) (fun wk hwk ρ s21=> ?_) ?_
    ·have c0:=hwk.words.cell 1 (by simp)
     have hlw:=hwk.words.lt
     simp only[Nat.zero_add,List.getElem_cons_succ,List.getElem_cons_zero]at c0
     go_simp
    go_big_quiet_op
    refine zak (some 23) w (.slice (some ⟨BW,0,none⟩) 4 4) (.tmp 4) (.slice (some ⟨BW,0,none⟩) 4 4) ?_ ?_
    ·intros;go_simp
    go_big_quiet_op
    refine wlb (some 24) w rfl (.pointer (some ⟨BW,2,none⟩)) rfl (by kernel_rfl) (fun wk hwk=> ?_) ?_
    ·generalize hA:Act.eval _=ρ
     have s23:ρ (.tmp 23)= .slice (some ⟨BW,0,none⟩) 4 4:=by rw[<-hA];kernel_rfl
     have k1:ρ (.const (.int .i64 2))= .int .i64 2:=by rw[<-hA];kernel_rfl
     clear hA
     go_simp
    go_big_quiet_op
    refine zak (some 25) w (.string s2) (.tmp 24) (.pointer (some ⟨BW,2,none⟩)) (fun wk hwk ρ s24=> ?_) ?_
    ·have c0:=hwk.words.cell 2 (by simp)
     have hlw:=hwk.words.lt
     simp only[Nat.zero_add,List.getElem_cons_succ,List.getElem_cons_zero]at c0
     go_simp
    go_big_quiet_op
    refine wls (some 26) w rfl rfl (by kernel_rfl) (fun u=>∃E,u= .slice (some ⟨E,0,none⟩) 2 2) (fun u wk=>PsI w B BW s0 s1 s2 s3 wk) (fun u wk=>(∃E,u= .slice (some ⟨E,0,none⟩) 2 2)/\zbs wk u [s1,s2]/\PsI w B BW s0 s1 s2 s3 wk/\zck wk) (⟨.slice (some ⟨0,0,none⟩) 2 2,0,rfl⟩) (fun _ _ h=>h) (fun _ _ h=>h.2.2.1) (fun wk hwk=> ?_) (fun u9 hu9=> ?_)
    ·generalize hA:Act.eval _=ρ
     have s22:ρ (.tmp 22)= .string s1:=by rw[<-hA];kernel_rfl
     have s25:ρ (.tmp 25)= .string s2:=by rw[<-hA];kernel_rfl
     clear hA
     go_simp
     have hq1:=zof wk s1 s2
     have hq2:=hwk.1.after (za2 wk (.cells #[.string s1,.string s2] 9))
     have hq3:=hwk.2.below (za2 wk (.cells #[.string s1,.string s2] 9))
     go_simp
     exact⟨⟨_,rfl⟩,hq1,hq2,hq3⟩
    obtain⟨E,rfl⟩:=hu9
    go_big_quiet_op
    refine wls (some 27) w rfl rfl (by kernel_rfl) (fun u=>∃va vc,u= .tuple #[.slice va 2 vc,.bool true]) (fun u wk=>PsI w B BW s0 s1 s2 s3 wk) (fun u wk=>PsI w B BW s0 s1 s2 s3 wk/\∃va vc,u= .tuple #[.slice va 2 vc,.bool true]/\znj wk (.slice va 2 vc) [z1,z2]) (⟨.tuple #[.slice none 2 0,.bool true],_,_,rfl⟩) (fun _ _ h=>h) (fun _ _ h=>h.1) (fun wk hwk=> ?_) (fun u8 hu8=> ?_)
    ·generalize hA:Act.eval _=ρ
     have s26:ρ (.tmp 26)= .slice (some ⟨E,0,none⟩) 2 2:=by rw[<-hA];kernel_rfl
     have sf:ρ (.func 27)= .func (.func 27) #[] #[]:=by rw[<-hA];kernel_rfl
     clear hA
     go_simp
     refine(zkn hwk.2.1 hwk.2.2.2 (by simp) (fun s hs=> ?_)).mono ?_
     ·have:=HS4.out
      simp only[List.mem_cons,List.not_mem_nil,or_false]at hs
      rcases hs with rfl|rfl
      ·exact this.1
      exact this.2
     rintro e w7 ⟨h7,hb⟩
     rcases h7 with⟨zs,v,h8,rfl,h9⟩|⟨h8,_⟩
     ·rw[HRN.out]at h8
      obtain rfl:=Option.some.inj h8
      obtain⟨va,vc,rfl⟩:=h9.len
      exact⟨_,rfl,⟨va,vc,rfl⟩,hwk.2.2.1.after hb,va,vc,rfl,h9⟩
     rw[HRN.out]at h8;cases h8
    obtain⟨va,vc,rfl⟩:=hu8
    go_big_quiet_op
    refine zak (some 19) w (.tuple #[.slice va 2 vc,.bool true]) (.tmp 27) (.tuple #[.slice va 2 vc,.bool true]) ?_ ?_
    ·intros;go_simp
    go_big_quiet_op
    refine zak (some 28) w (.slice va 2 vc) (.tmp 19) (.tuple #[.slice va 2 vc,.bool true]) ?_ ?_
    ·intros;go_simp
    go_big_quiet_op
    refine zak (some 29) w (.bool true) (.tmp 19) (.tuple #[.slice va 2 vc,.bool true]) ?_ ?_
    ·intros;go_simp
    go_big_quiet_op
    refine zak (some 5) w (.slice va 2 vc) (.tmp 28) (.slice va 2 vc) ?_ ?_
    ·intros;go_simp
    go_big_quiet_op
    refine zak (some 6) w (.bool true) (.tmp 29) (.bool true) ?_ ?_
    ·intros;go_simp
    go_big_quiet_op
    refine zhf (fun w9 hw9=> ?_)
    have H9:Hid (PsI w B BW s0 s1 s2 s3 w9/\znj w9 (.slice va 2 vc) [z1,z2]):=by
     obtain⟨h1,va',vc',h2,h3⟩:=hw9
     simp only[Value.tuple.injEq,Array.mk.injEq,List.cons.injEq,Value.slice.injEq,and_true,true_and]at h2
     obtain⟨rfl,rfl⟩:=h2
     exact⟨h1,h3⟩
    clear hw9 HPS HR3
    go_wp2_with fail
    obtain⟨⟨hlb,g0,g1,g2,g3,g4⟩,gf⟩:=H9.out.1.step
    have f0:=gf 0 (by omega)
    have f1:=gf 1 (by omega)
    have f2:=gf 2 (by omega)
    have f3:=gf 3 (by omega)
    have f4:=gf 4 (by omega)
    simp only[Nat.zero_add]at g0 g1 g2 g3 g4
    have c3:=H9.out.1.words.cell 3 (by simp)
    have hlw:=H9.out.1.words.lt
    simp only[Nat.zero_add,List.getElem_cons_succ,List.getElem_cons_zero]at c3
    obtain⟨nb,no,nc,hnv,hnb,hrow⟩:=qfk H9.out.2 (by simp)
    simp only[Value.slice.injEq]at hnv
    obtain⟨rfl,-, rfl⟩:=hnv
    have n0:=hrow 0 (by simp)
    have n1:=hrow 1 (by simp)
    simp only[Nat.add_zero,List.getElem_cons_succ,List.getElem_cons_zero]at n0 n1
    have HTS:=hid H9.out.1.step
    have HBL:=hid H9.out.1.below
    have hP:=HTS.out.put ⟨2,z1,z2,0,s3⟩
    have hQ:=zij HBL.out (B:=B) (by omega) ⟨2,z1,z2,0,s3⟩
    unfold put5S at hP hQ
    dsimp only at hP hQ
    have HP9:Hid (zt7 (((((w9.setCell ⟨B,0,none⟩ (.int .i64 2)).setCell ⟨B,1,none⟩ (.int .i64 z1)).setCell ⟨B,2,none⟩ (.int .i64 z2)).setCell ⟨B,3,none⟩ (.int .i64 0)).setCell ⟨B,4,none⟩ (.string s3)).drew B 0 ⟨2,z1,z2,0,s3⟩):=hP.below (Below.refl _ _).drew
    have HQ9:=hid hQ.drew
    clear hrow gf H9 hP hQ
    go_region
    go_wp2
    refine znm (v:= .bool true) HP9.out rfl rfl rfl ?_
    rw[HE.out]
    refine⟨?_,HQ9.out⟩
    rw[<-HS3.out]
    rfl
  have hpb:((bl b0).toList==([112,117,116]:List UInt8))=false:=by rw[zbi];simp only[decide_eq_false_iff_not];exact fun e=>hp (zpo e)
  have HE:Hid (zew s.data.toList=none):=by show _=_;rw[HPO.out];exact if_neg hp
  clear HPO hp
  obtain⟨s0,hs0⟩:∃s0,bl b0=s0:=⟨_,rfl⟩
  obtain⟨s1,hs1⟩:∃s1,bl b1=s1:=⟨_,rfl⟩
  obtain⟨s2,hs2⟩:∃s2,bl b2=s2:=⟨_,rfl⟩
  obtain⟨s3,hs3⟩:∃s3,bl b3=s3:=⟨_,rfl⟩
  rw[hs0]at hpb
  rw[hs0,hs1,hs2,hs3]at HSP HPS
  clear hs0 hs1 hs2 hs3
  go_enter Tryz.func24,Tryz.ntmps24
  go_wp2_with fail
  refine(HSP.out _ HR1.out).mono ?_
  rintro e w1 ⟨rfl,rfl⟩
  clear HSP HR1
  simp only[World.size_alloc]at*
  generalize World.alloc _ (Obj.cells (Lib.cellsOf _ _) _)=w2 at*
  generalize hBW:w.heap.size+1=BW at*
  generalize hB:w.heap.size=B at*
  have c0:=HPS.out.words.cell 0 (by simp)
  have hlw:=HPS.out.words.lt
  simp only[Nat.add_zero,List.getElem_cons_zero]at c0
  simp only[List.length_cons,List.length_nil,Nat.zero_add]
  obtain⟨⟨hlb,g0,g1,g2,g3,g4⟩,gf⟩:=HPS.out.step
  have f0:=gf 0 (by omega)
  have f1:=gf 1 (by omega)
  have f2:=gf 2 (by omega)
  have f3:=gf 3 (by omega)
  have f4:=gf 4 (by omega)
  simp only[Nat.zero_add]at g0 g1 g2 g3 g4
  go_wp2
  refine znm (x:=zTs) (HPS.out.step.put zTs) rfl rfl rfl ?_
  rw[HE.out]
  exact⟨rfl,zij HPS.out.below (by omega) zTs⟩
 have HE:Hid (zew s.data.toList=none):=by show _=_;rw[HPO.out];exact qaz (by rw[HCL.out];exact h4)
 have hne:(((zg2 s).length:Int) != 4)=true:=by simp;omega
 obtain⟨nf,hnf⟩:∃nf,(zg2 s).length=nf:=⟨_,rfl⟩
 obtain⟨nc,hnc⟩:∃nc,min 4 (s.size+1)=nc:=⟨_,rfl⟩
 obtain⟨cs,hcs⟩:∃cs,Lib.cellsOf (zg2 s) nc=cs:=⟨_,rfl⟩
 rw[hnc,hcs,hnf]at HSP
 rw[hnf]at hne
 have HT1:Hid (TsF ((w.alloc (ziz zTs)).alloc (.cells cs 9)) w.heap.size zTs):=HT0.out.below (za2 _ _)
 have HB1:Hid (Below w.heap.size w ((w.alloc (ziz zTs)).alloc (.cells cs 9))):=bla (za2 _ _) (za2 _ _)
 have HR1:Hid (zck (w.alloc (ziz zTs))):=hw.below (za2 _ _)
 clear hnf hnc hcs hw hs h4 HFW HCL HPO HT0 HB0 HR
 go_enter Tryz.func24,Tryz.ntmps24
 go_wp2_with fail
 refine(HSP.out _ HR1.out).mono ?_
 rintro e w1 ⟨rfl,rfl⟩
 clear HSP
 generalize World.alloc _ (Obj.cells cs _)=w2 at*
 obtain⟨⟨hlb,g0,g1,g2,g3,g4⟩,gf⟩:=HT1.out
 have f0:=gf 0 (by omega)
 have f1:=gf 1 (by omega)
 have f2:=gf 2 (by omega)
 have f3:=gf 3 (by omega)
 have f4:=gf 4 (by omega)
 simp only[Nat.zero_add]at g0 g1 g2 g3 g4
 go_wp2
 refine znm (x:=zTs) (HT1.out.put zTs) rfl rfl rfl ?_
 rw[HE.out]
 exact⟨rfl,zij HB1.out (Nat.le_refl _) zTs⟩
variable {ls:List ByteArray} {w:World} {v:Value} {c:Int} {l:List (List UInt8)}
abbrev fkV(p:Int×Int):Value:= .agg #[.int .i64 p.1,.int .i64 p.2]
theorem nl_any(s:ByteArray)(w:World):Calls Tryz.prog 22 #[.string s] w fun e w'=>e= .returned (.bool (zhb s.data.toList))/\w'=w:=by
 have hc:=Tryz.strings_Contains_one s 10 w
 rw[zxj]at hc
 go_enter Tryz.func22,Tryz.ntmps22
 go_wp2_with fail
 refine hc.mono ?_
 rintro e w1 ⟨rfl,rfl⟩
 go_wp2_with fail
 go_ret
 exact⟨rfl,rfl⟩
def NlIs(ls:List ByteArray)(r:Int):Prop:=(∃(k:Nat) (h:k<ls.length),(∀(j:Nat) (hj:j<k),zhb (ls[j]'(by omega)).data.toList=false)/\zhb ls[k].data.toList=true/\r=k)\/((∀s∈ls,zhb s.data.toList=false)/\r= -1)
theorem qb2{r:Int}(h:NlIs ls r):(r= -1/\zbr 0 (ls.map (·.data.toList))=(0,0))\/(0<=r/\zbr 0 (ls.map (·.data.toList))=(11,r)):=by
 rcases h with⟨k,hk,h1,h2,rfl⟩|⟨h1,rfl⟩
 ·refine .inr ⟨by omega,?_⟩
  have:=zsw (ls.map (·.data.toList)) 0 k (by simpa using hk) (fun j hj=>by rw[List.getElem_map];exact h1 j hj) (by rw[List.getElem_map];exact h2)
  rw[this,Nat.zero_add]
 refine .inl ⟨rfl,zmh _ 0 (fun s hs=> ?_)⟩
 obtain⟨x,hx,rfl⟩:=List.mem_map.1 hs
 exact h1 x hx
theorem qfj(h:zbs w v ls)(hn:ls.length<=1000):
 Calls Tryz.prog 21 #[v,.func (.func 22) #[] #[]] w fun e w'=>∃r,e= .returned (.int .i64 r)/\NlIs ls r/\w'=w:=by
 have HV:=hid h
 obtain⟨a,cap,rfl,_⟩:=h.len
 clear h
 go_enter Tryz.func21,Tryz.ntmps21
 go_wp2_with fail
 go_loop [8] (fun i=>∃k:Nat,k<=ls.length/\i= .int .i64 k/\Hid (∀(j:Nat) (h:j<ls.length),j<k->zhb ls[j].data.toList=false)) (fun i=>ls.length-(intOf i).toNat)
 case atStart=>exact⟨0,Nat.zero_le _,rfl,fun j _ h=>absurd h (Nat.not_lt_zero _)⟩
 obtain⟨k,hk,rfl,HW⟩:=hrel
 by_cases hlt:k<ls.length
 ·have hki:(k:Int)<(ls.length:Int):=by omega
  obtain⟨bb,off,rfl,hst⟩:=HV.out.row (by omega)
  have c0:=hst.cell k hlt
  have hbl:=hst.lt
  have HNL:Hid (∀wk,Calls Tryz.prog 22 #[.string ls[k]] wk fun e w'=>e= .returned (.bool (zhb ls[k].data.toList))/\w'=wk):=fun wk=>nl_any _ wk
  obtain⟨b,hb⟩:∃b,zhb ls[k].data.toList=b:=⟨_,rfl⟩
  have HB:=hid hb
  rw[hb]at HNL
  obtain⟨s,hs⟩:∃s,ls[k]=s:=⟨_,rfl⟩
  rw[hs]at HNL c0
  clear hb hs hst
  go_wp2_with fail
  refine(HNL.out _).mono ?_
  rintro e w1 ⟨rfl,hw1⟩
  rw[hw1]
  clear hw1 w1
  cases b
  ·go_wp2_with fail
   go_round
   case rel=>exact⟨k+1,by omega,by go_num,fun j h hj=>by
    rcases Nat.lt_or_ge j k with h'|h'
    ·exact HW.out j h h'
    obtain rfl:j=k:=by omega
    exact HB.out⟩
   case measure=>simp[intOf];omega
  go_wp2_with fail
  go_ret
  exact⟨_,rfl,.inl ⟨k,hlt,fun j hj=>HW.out j (by omega) hj,HB.out,rfl⟩,rfl⟩
 obtain rfl:k=ls.length:=by omega
 go_wp2_with fail
 go_ret
 refine⟨_,rfl,.inr ⟨fun s hs=> ?_,rfl⟩,rfl⟩
 obtain⟨j,hj,rfl⟩:=List.mem_iff_getElem.1 hs
 exact HW.out j hj hj
theorem zll{fn:Func}{p:Tmp}{R:Ending->World->Prop}{a:Act}{B:Nat}{i:Int}(hf:fn.results= #[.cell p 31])(h:w.heap[B]? =some (.cells #[.int .i64 c,.int .i64 i] 31 (0,0)))(h2:a.tmps.getD p undef= .pointer (some ⟨B,0,none⟩))(hd:a.defers=[])
 (hR:R (.returned (.agg #[.int .i64 c,.int .i64 i])) w):bodyPost Tryz.prog fn R Exit.ret a w:=
 bodyPost_ret (results_cell_row hf _ _ B 31 #[.int .i64 c,.int .i64 i] (0,0) _ h2 h Tryz.underlying31 rfl (by kernel_rfl)) hd hR
theorem zpd(h:150<l.length):zcs l=(10,-1):=if_pos h
theorem zv9(h:¬150<l.length):zcs l=zbr 0 l:=if_neg h
theorem zot(h:zbs w v ls):
 Calls Tryz.prog 14 #[v] w fun e w'=>e= .returned (fkV (zcs (ls.map (·.data.toList))))/\Below w.heap.size w w':=by
 have HV:Hid (zbs (w.alloc (.cells #[.int .i64 0,.int .i64 0] 31)) v ls):=h.below (za2 _ _)
 have HL:Hid ((ls.map (·.data.toList)).length=ls.length):=List.length_map ..
 obtain⟨a,cap,rfl,_⟩:=h.len
 clear h
 by_cases hb:150<ls.length
 ·have HE:Hid (zcs (ls.map (·.data.toList))=(10,-1)):=zpd (by rw[HL.out];exact hb)
  have hbi:(150:Int)<(ls.length:Int):=by omega
  obtain⟨n,hn⟩:∃n,ls.length=n:=⟨_,rfl⟩
  rw[HE.out]
  rw[hn]at hb hbi⊢
  clear hn HV HL HE
  go_enter Tryz.func14,Tryz.ntmps14
  go_wp2
  refine zll (B:=w.heap.size) (c:=10) (i:= -1) rfl (heap_alloc_new w _) rfl rfl ?_
  exact⟨rfl,za2 _ _⟩
 have HE:Hid (zcs (ls.map (·.data.toList))=zbr 0 (ls.map (·.data.toList))):=zv9 (by rw[HL.out];exact hb)
 have HI:Hid (Calls Tryz.prog 21 #[.slice a ls.length cap,.func (.func 22) #[] #[]] (w.alloc (.cells #[.int .i64 0,.int .i64 0] 31)) fun e w'=>∃r,e= .returned (.int .i64 r)/\NlIs ls r/\w'=w.alloc (.cells #[.int .i64 0,.int .i64 0] 31)):=qfj HV.out (by omega)
 have hbi:¬(150:Int)<(ls.length:Int):=by omega
 rw[HE.out]
 clear HV HL HE
 go_enter Tryz.func14,Tryz.ntmps14
 go_wp2_with fail
 refine HI.out.mono ?_
 rintro e w1 ⟨r,rfl,hr,rfl⟩
 rcases qb2 hr with⟨rfl,hf⟩|⟨h0,hf⟩
 ·have HF:Hid (zbr 0 (ls.map (·.data.toList))=(0,0)):=hf
  clear hr hf HI
  go_wp2
  refine zll (B:=w.heap.size) (c:=0) (i:=0) rfl (heap_alloc_new w _) rfl rfl ?_
  rw[HF.out]
  exact⟨rfl,za2 _ _⟩
 have HF:Hid (zbr 0 (ls.map (·.data.toList))=(11,r)):=hf
 clear hr hf HI
 go_wp2
 refine zll (B:=w.heap.size) (c:=11) (i:=r) rfl (heap_alloc_new w _) rfl rfl ?_
 rw[HF.out]
 exact⟨rfl,za2 _ _⟩
theorem zns{n:Int}(h:inI n):(Lib.itoa n).length<=21:=by
 have:=zbx h
 rw[<-zav]at this
 simpa [zc3]using this
theorem zsf(h:Sm c):(noW c).length<=30:=by
 have:(Lib.itoa c).length<=21:=zns (by unfold Sm at h;unfold inI;omega)
 unfold noW
 simp
 omega
theorem ztr(t:Twn)(x:Tst):(zc6 t x).1.length<=30:=by
 unfold zc6
 dsimp only
 split
 ·decide
 exact zsf (zrx t x)
theorem zma:∀ds:List Dd,(zb3 ds).length<=201*ds.length
 |[]=>Nat.le_refl _
 |d::ds=>by
  have h1:=zma ds
  have h2:=zmb d
  rw[zb3,List.length_append,zhr,List.length_append,zav,List.length_cons]
  simp
  omega
theorem zui:∀zs:List Int,(∀z∈zs,inI z)->(zdz zs).length<=22*zs.length
 |[],_=>Nat.le_refl _
 |z::zs,h=>by
  have h1:=zui zs (fun y hy=>h y (by simp[hy]))
  have h2:=zns (h z (by simp))
  rw[zdz,List.length_cons,List.length_append,List.length_cons]
  omega
theorem byN_in{b:Bk}(hg:zct b)(n:Int):∀z∈(thS b n).map (·.by_),inI z:=by
 intro z hz
 obtain⟨x,hx,rfl⟩:=List.mem_map.1 hz
 have hm:x∈b.chars:=by
  unfold thS at hx
  split at hx
  ·exact(List.mem_filter.1 hx).1
  cases hx
 have:=(zje hg).wr x hm
 unfold wrB at this
 rw[decide_eq_true_eq]at this
 unfold inI
 omega
theorem zod(l:List Int):(zfj l).length<=l.length+6:=by
 unfold zfj zkb
 have:=zbn l
 rw[<-zav]at this
 simp only[List.length_append,List.length_cons,List.length_nil,this]
 omega
section
variable {t:Twn} {tk:Int->List (List Ch)}
theorem seen_len(h:TR t tk)(n:Int):(zi8 t n).length<=300:=by
 unfold zi8
 cases he:t.ws n with
 |none=>exact Nat.le_trans (zsf zgj) (by decide)
 |some r=>
  have h1:=zod (vw r.list r.seen r.me)
  have h2:=qco r.list r.seen r.me
  have h3:=(zbg h he).len
  show(zfj _).length<=_
  omega
theorem open_len(h:TR t tk)(n:Int):(zho t n).length<=30000:=by
 unfold zho
 cases he:t.ws n with
 |none=>exact Nat.le_trans (zsf zgj) (by decide)
 |some r=>
  have h1:=zma r.opens
  have h3:=(zbg h he).few
  show(zb3 r.opens++zpe).length<=_
  rw[List.length_append]
  show _+4<=_
  omega
theorem qde(h:TR t tk)(n:Int):(zh9 t n).length<=30000:=by
 unfold zh9
 split
 ·have h1:=zod ((thS t.b n).map (·.c))
  have h2:=zui ((thS t.b n).map (·.by_)) (byN_in h.ti.good n)
  have h3:=ztn t.b n
  have h4:=zay (b:=t.b)
  rw[List.length_map]at h1 h2
  rw[List.length_append,byW,List.length_append,List.length_append]
  show _+(2+(_+1))<=_
  omega
 exact Nat.le_trans (zsf zgj) (by decide)
theorem all_len(t:Twn):(zfj (zdj t.b.chars)).length<=300:=by
 have h1:=zod (zdj t.b.chars)
 have h2:(zdj t.b.chars).length<=200:=by
  unfold zdj
  rw[List.length_map]
  have:=List.length_filter_le zgg t.b.chars
  have:=zay (b:=t.b)
  omega
 omega
theorem log_len(h:TR t tk):(zb3 t.b.ds++zpe).length<=30000:=by
 have h1:=zma t.b.ds
 have h2:=h.ti.good.small
 rw[List.length_append]
 show _+4<=_
 omega
theorem zx4(h:TR t tk):(ze0 (zap t.b) t.b.len).length<=100:=by
 have hG:=h.ti.good
 have hle:=zfp t.b
 have hsm:=hG.small
 have hge:0<=zap t.b:=zgz (by show(0:Int)<=(t.b.ds.length:Int);omega) (fun w _ _=>(hG.said w).1)
 have hlen:t.b.len=(t.b.ds.length:Int):=rfl
 have h1:(Lib.itoa (zap t.b)).length<=21:=zns (by unfold inI;omega)
 have h2:(Lib.itoa t.b.len).length<=21:=zns (by unfold inI;omega)
 unfold ze0
 simp only[List.length_append,List.length_cons,List.length_nil]
 omega
theorem cmd_len(h:TR t tk)(k:List UInt8)(n:List Int):(zcj t k n).1.length<=30000:=by
 have key:∀(c:Prop) [Decidable c] (a b:List UInt8×Twn),a.1.length<=30000->b.1.length<=30000->(if c then a else b).1.length<=30000:=fun c _ a b ha hb=>by split<;>assumption
 unfold zcj
 repeat' apply key
 all_goals first
  |exact Nat.le_trans (ztr _ _) (by decide)
  |exact Nat.le_trans (seen_len h _) (by decide)
  |exact open_len h _
  |exact qde h _
  |exact Nat.le_trans (all_len t) (by decide)
  |exact log_len h
  |exact Nat.le_trans (zx4 h) (by decide)
  |(show(okW).length<=_;decide)
  |(show(zg6).length<=_;decide)
theorem zzl(h:TR t tk)(s:List UInt8):(zaf t s).1.length<=30000:=by
 unfold zaf
 split
 ·exact Nat.le_trans (ztr _ _) (by decide)
 cases zax s with
 |nil=>exact Nat.zero_le _
 |cons k r=>
  rw[zg1]
  cases zbw (r.map bl)with
  |none=>show(zg6).length<=_;decide
  |some n=>exact cmd_len h k n
end
variable {t:Twn} {k:List UInt8} {r:List (List UInt8)}
theorem zw4(h:zbw (r.map bl)=none):zg1 t (k::r)=(zg6,t):=by
 rw[zg1,h]
theorem zw3{zs:List Int}(h:zbw (r.map bl)=some zs):zg1 t (k::r)=zcj t k zs:=by
 rw[zg1,h]
section
variable {base R D G:Nat} {pw:Nat->Nat} {w0 wk w':World} {S:Nat->Prop} {told:List UInt8} {t:Twn}
theorem qg4(h:zb8 base w0 S R D G pw told t wk)(s:ByteArray)(hs:s.size<=10000)(hz:told.length<=300000000):
 Calls Tryz.prog 15 #[.pointer (some ⟨R,0,none⟩),.string s] wk fun e w'=>e= .returned (.tuple #[])/\∃pw',zb8 base w0 S R D G pw' (told++(zaf t s.data.toList).1) (zaf t s.data.toList).2 w':=by
 have HI:=hid h
 have HS:=hid hs
 clear h hs
 go_enter Tryz.func15,Tryz.ntmps15
 go_wp2_with fail
 refine(zws s _ HI.out.rdy.ready (by have:=HS.out;omega)).mono ?_
 rintro e w1 ⟨rfl,hb⟩
 have H1:=hid (HI.out.after hb)
 clear hb HI
 cases hp:zew s.data.toList with
 |some p=>
  obtain⟨a,b,text⟩:=p
  have HV:Hid (zaf t s.data.toList=zc6 t ⟨2,a,b,0,bl text⟩):=by show _=_;unfold zaf;rw[hp]
  clear hp
  simp only[putX,Option.isSome_some]
  generalize bl text=st at*
  have H2:Hid (zb8 base w0 S R D G pw told t (w1.alloc (.cells #[.int .i64 2,.int .i64 a,.int .i64 b,.int .i64 0,.string st] 74))):=H1.out.after (za2 _ _)
  clear H1
  go_wp2_with fail
  refine(zkh H2.out ⟨2,a,b,0,st⟩ (by omega)).mono ?_
  rintro e w6 ⟨rfl,h6⟩
  have H6:Hid (∃pw',zb8 base w0 S R D G pw' (told++(zaf t s.data.toList).1) (zaf t s.data.toList).2 w6):=by rw[HV.out];exact h6
  clear h6 H2
  go_wp2_with fail
  (try simp only[Exit.inBlock,Exit.then]);refine bodyPost_ret (results_none rfl _ _ _) rfl ?_
  exact⟨rfl,H6.out⟩
 |none=>
  have HV:Hid (zaf t s.data.toList=zg1 t ((zax s.data.toList).take 5)):=by show _=_;unfold zaf;rw[hp,zw2]
  clear hp
  simp only[putX,Option.isSome_none]
  have H2:Hid (zb8 base w0 S R D G pw told t (w1.alloc (.cells #[.int .i64 0,.int .i64 0,.int .i64 0,.int .i64 0,.string ⟨#[]⟩] 74))):=H1.out.after (za2 _ _)
  clear H1
  go_wp2_with fail
  refine(zw1 s _ H2.out.rdy.ready (by have:=HS.out;omega)).mono ?_
  rintro e w2 ⟨lv,rfl,hown,hb⟩
  have H3:=hid (H2.out.after hb)
  have HWL:Hid (((zax s.data.toList).take 5).length<=5/\∀x∈(zax s.data.toList).take 5,x.length<=10000):=by
   refine⟨by rw[List.length_take];omega,fun x hx=> ?_⟩
   have:=zl1 s.data.toList [] x (List.mem_of_mem_take hx)
   have:=HS.out
   rw[zav]at*
   simp at*
   omega
  clear hb H2
  generalize (zax s.data.toList).take 5=ws at*
  have HLS:=hid hown.lst
  obtain⟨la,lc,rfl,hlc⟩:=hown.lst.len
  clear hown
  cases ws with
  |nil=>
   have H6:Hid (∃pw',zb8 base w0 S R D G pw' (told++(zaf t s.data.toList).1) (zaf t s.data.toList).2 w2):=by
    rw[HV.out]
    refine⟨pw,?_⟩
    show zb8 _ _ _ _ _ _ _ (told++[]) _ _
    rw[List.append_nil]
    exact H3.out
   simp only[List.map_nil,List.length_nil]
   go_wp2_with fail
   (try simp only[Exit.inBlock,Exit.then]);refine bodyPost_ret (results_none rfl _ _ _) rfl ?_
   exact⟨rfl,H6.out⟩
  |cons k r=>
   have hln:((k::r).map bl).length=r.length+1:=by simp
   rw[hln]at HLS hlc⊢
   obtain⟨bb,off,rfl,hst⟩:=HLS.out.row (by omega)
   have c0:=hst.cell 0 (by simp)
   have hbl:=hst.lt
   simp only[Nat.add_zero,List.map_cons,List.getElem_cons_zero]at c0
   have HR:Hid (r.length<=4/\∀x∈r,x.length<=10000):=⟨by have:=HWL.out.1;rw[List.length_cons]at this;omega,fun x hx=>HWL.out.2 x (List.mem_cons_of_mem _ hx)⟩
   have hq1:(((r.length:Int)+1)==0)=false:=by rw[beq_eq_false_iff_ne];omega
   have hq2:(((r.length+1:Nat):Int)==0)=false:=by rw[beq_eq_false_iff_ne];omega
   have HT:Hid (∀a' c',(a'=some ⟨bb,off+1,none⟩\/r.length=0)->r.length<=c'->zbs w2 (.slice a' r.length c') (r.map bl)):=fun a' c' ha hc'=>by
    refine⟨a',r.length,c',rfl,List.length_map .., hc',?_⟩
    rcases ha with rfl|h0
    ·refine .inr ⟨bb,off+1,rfl,hst.lt,fun i hi=> ?_⟩
     have:=hst.cell (i+1) (by simpa using hi)
     rw[show off+1+i=off+(i+1) by omega,this]
     simp
    exact .inl h0
   have HC0:Hid (w2.cell? ⟨bb,off,none⟩=some (.string (bl k))/\bb<w2.heap.size):=⟨c0,hbl⟩
   have HRZ:Hid (∀x∈r.map bl,x.size<=100000):=fun x hx=>by
    obtain⟨y,hy,rfl⟩:=List.mem_map.1 hx
    rw[zd8]
    have:=HR.out.2 y hy
    omega
   clear hst hln HWL c0 hbl
   go_wp2_with fail
   all_goals
    refine(zkn (HT.out _ _ (by first|exact .inl rfl|(right;omega)) (by omega)) H3.out.rdy.ready (by rw[List.length_map];have:=HR.out.1;omega) HRZ.out).mono ?_
    rintro e w3 ⟨hn,hb⟩
    have H4:=hid (H3.out.after hb)
    have c0:=zd7 HC0.out.1 hb
    have hbl:bb<w3.heap.size:=Nat.lt_of_lt_of_le HC0.out.2 hb.size
    clear hb HC0 HT HRZ H3
    rcases hn with⟨zs,v,hrd,rfl,hv⟩|⟨hrd,rfl⟩
    ·have HW:Hid (zaf t s.data.toList=zcj t k zs):=by show _=_;rw[HV.out];exact zw3 hrd
     have HVL:=hid hv
     obtain⟨va,vc,rfl⟩:=hv.len
     clear hrd hv
     go_wp2_with fail
     clear c0 hbl
     refine(ask_lk H4.out k HVL.out (by omega)).mono ?_
     rintro e w6 ⟨rfl,h6⟩
     have H6:Hid (∃pw',zb8 base w0 S R D G pw' (told++(zaf t s.data.toList).1) (zaf t s.data.toList).2 w6):=by rw[HW.out];exact h6
     clear h6 H4
     go_wp2_with fail
     go_end0
     exact⟨rfl,H6.out⟩
    have HW:Hid (zaf t s.data.toList=(zg6,t)):=by show _=_;rw[HV.out];exact zw4 hrd
    clear hrd
    go_wp2_with fail
    clear c0 hbl
    refine(H4.out.whats (by omega)).mono ?_
    rintro e w6 ⟨rfl,h6⟩
    have H6:Hid (∃pw',zb8 base w0 S R D G pw' (told++(zaf t s.data.toList).1) (zaf t s.data.toList).2 w6):=by rw[HW.out];exact⟨pw,h6⟩
    clear h6 H4
    go_wp2_with fail
    (try simp only[Exit.inBlock,Exit.then]);refine bodyPost_ret (results_none rfl _ _ _) rfl ?_
    exact⟨rfl,H6.out⟩
end
end Go.Proofs.YtcbnnfeelhlapadGreatDoor