/-
  The desk's reading of a line: putStep.
-/
import Derived.Test.YtcbnnfeelhlapadGreatDoorKLN
import Derived.Test.YtcbnnfeelhlapadGreatDoorHpRef
import Derived.Test.YtcbnnfeelhlapadGreatDoorKMath
import Derived.Test.YtcbnnfeelhlapadGreatDoorTRel
import Derived.Test.YtcbnnfeelhlapadGreatDoorCDel
import Derived.Test.YtcbnnfeelhlapadGreatDoorSGrow
namespace Go.Proofs.YtcbnnfeelhlapadGreatDoor
set_option maxHeartbeats 3200000
set_option maxRecDepth 20000
open Go Go.RowKit
def putX(o:Option (Int×Int×List UInt8)):Tst:=match o with
 |some (a,b,text)=>⟨2,a,b,0,bl text⟩
 |none=>⟨0,0,0,0,⟨#[]⟩⟩
theorem qap(s:ByteArray)(w:World)(hw:zbz w)(hs:s.size≤100000):
 Calls Tryz.prog 46 #[.string s,.string ⟨#[32]⟩,.int .i64 4] w fun e w'=>
  e= .returned (.slice (some ⟨w.heap.size,0,none⟩) (zfv s).length (min 4 (s.size+1)))∧w'=w.alloc (.cells (Lib.cellsOf (zfv s) (min 4 (s.size+1))) 9):=by
 obtain⟨m,hm⟩:=hw.mx
 exact Tryz.strings_SplitN s ⟨#[32]⟩ 4 m w (by omega) hm (by decide) (by decide) (by decide)
theorem qf1{w:World}{B:Nat}{x:Tst}(h:zrk w B 0 x):(loadVar 74 ⟨B,0,none⟩).run Tryz.prog w= .ok (tsV x) w:=by
 obtain⟨_,c0,c1,c2,c3,c4⟩:=h
 simp only[Nat.zero_add]at c0 c1 c2 c3 c4
 simp[go_sem,loadVar,loadCells,loadCellsFrom,Sem.run_bind,Tryz.isAgg74,Tryz.sizeOf74,c0,c1,c2,c3,c4]
theorem znm{R:Ending→World→Prop}{a:Act}{w:World}{B:Nat}{x:Tst}{v:Value}(h:zrk w B 0 x)(h2:a.tmps.getD 2 undef= .pointer (some ⟨B,0,none⟩))(h3:a.tmps.getD 3 undef=v)(hd:a.defers=[])
 (hR:R (.returned (.tuple #[tsV x,v])) w):bodyPost Tryz.prog Tryz.f24 R Exit.ret a w:=by
 refine bodyPost_ret ?_ hd hR
 rw[results_cell_tmp rfl,h2,h3]
 simp[asAddr,qf1 h]
structure TsF(w:World)(B:Nat)(x:Tst):Prop where
 at_:zrk w B 0 x
 free:∀o,o<5→w.frozen? ⟨B,o,none⟩=false
theorem ztf(w:World)(x:Tst):TsF (w.alloc (zc8 x)) w.heap.size x:=⟨zhl w x,fun o ho=>by
 rcases(show o=0∨o=1∨o=2∨o=3∨o=4 by omega)with rfl|rfl|rfl|rfl|rfl<;>simp[go_sem]⟩
theorem TsF.below{w w':World}{B:Nat}{x:Tst}(h:TsF w B x)(hb:Below w.heap.size w w'):TsF w' B x:=⟨h.at_.below hb,fun o ho=>by rw[zv3 h.at_.lt hb];exact h.free o ho⟩
abbrev put5S(w:World)(B:Nat)(x:Tst):World:=((((w.setCell ⟨B,0,none⟩ (.int .i64 x.kind)).setCell ⟨B,1,none⟩ (.int .i64 x.w)).setCell ⟨B,2,none⟩ (.int .i64 x.at_)).setCell ⟨B,3,none⟩ (.int .i64 x.many)).setCell ⟨B,4,none⟩ (.string x.text)
theorem TsF.put{w:World}{B:Nat}{x:Tst}(h:TsF w B x)(y:Tst):zrk (put5S w B y) B 0 y:=by
 obtain⟨⟨hl,c0,c1,c2,c3,c4⟩,_⟩:=h
 simp only[Nat.zero_add]at c0 c1 c2 c3 c4
 refine⟨by simpa [World.setCell]using hl,?_,?_,?_,?_,?_⟩<;>simp[go_sem,c0,c1,c2,c3,c4]
theorem zii{w w':World}{B N:Nat}(h:Below N w w')(hN:N≤B)(x:Tst):Below N w (put5S w' B x):=
 ((((h.setCell (p:=⟨B,0,none⟩) hN _).setCell (p:=⟨B,1,none⟩) hN _).setCell (p:=⟨B,2,none⟩) hN _).setCell (p:=⟨B,3,none⟩) hN _).setCell (p:=⟨B,4,none⟩) hN _
theorem zog(w:World)(s t:ByteArray):zb9 (w.alloc (.cells #[.string s,.string t] 9)) (.slice (some ⟨w.heap.size,0,none⟩) 2 2) [s,t]:=
 ⟨_,2,2,rfl,rfl,Nat.le_refl _,.inr ⟨_,0,rfl,by simp,fun i hi=>by
  have h2:i<2:=hi
  rcases(show i=0∨i=1 by omega)with rfl|rfl<;>simp[go_sem]⟩⟩
theorem qfi{w:World}{v:Value}{zs:List Int}(h:zlq w v zs)(hp:0<zs.length):∃b off cap,v= .slice (some ⟨b,off,none⟩) zs.length cap∧b<w.heap.size∧∀i (h:i<zs.length),w.cell? ⟨b,off+i,none⟩=some (.int .i64 zs[i]):=by
 obtain⟨a,len,cap,rfl,h1,h2,h3⟩:=h
 rcases h3 with h3|⟨b,off,rfl,h4,h5⟩
 ·omega
 ·exact⟨b,off,cap,by rw[h1],h4,h5⟩
theorem qax{l:List (List UInt8)}(h:l.length≠4):zkl l=none:=by
 unfold zkl
 split
 ·simp at h
 ·rfl
theorem qdp(w:World)(a0 a1 a2 a3:ByteArray):Strs (w.alloc (.cells (Lib.cellsOf [a0,a1,a2,a3] 4) 9)) w.heap.size 0 [a0,a1,a2,a3]:=by
 refine⟨by simp,fun i hi=> ?_⟩
 have h6:i<4:=hi
 rcases(show i=0∨i=1∨i=2∨i=3 by omega)with rfl|rfl|rfl|rfl<;>simp[go_sem,Lib.cellsOf]
structure PsI(w:World)(B BW:Nat)(a0 a1 a2 a3:ByteArray)(wk:World):Prop where
 below:Below w.heap.size w wk
 step:TsF wk B ⟨0,0,0,0,⟨#[]⟩⟩
 words:Strs wk BW 0 [a0,a1,a2,a3]
theorem PsI.after{w wk w':World}{B BW:Nat}{a0 a1 a2 a3:ByteArray}(h:PsI w B BW a0 a1 a2 a3 wk)(hb:Below wk.heap.size wk w'):PsI w B BW a0 a1 a2 a3 w':=⟨bla h.below hb,h.step.below hb,h.words.below hb⟩
abbrev zTs:Tst:=⟨0,0,0,0,⟨#[]⟩⟩
theorem zws(s:ByteArray)(w:World)(hw:zbz w)(hs:s.size≤100000):
 Calls Tryz.prog 24 #[.string s] w fun e w'=>e= .returned (.tuple #[tsV (putX (zeq s.data.toList)),.bool (zeq s.data.toList).isSome])∧Below w.heap.size w w':=by
 have HR:Hid (zbz w):=hw
 have HSZ:Hid (s.size≤100000):=hs
 have HPO:Hid (zeq s.data.toList=zkl (zmn 3 s.data.toList)):=zp0 _
 have HFW:Hid (zfv s=(zmn 3 s.data.toList).map bl):=qbo s
 have HSP:Hid (∀wk,zbz wk→Calls Tryz.prog 46 #[.string s,.string ⟨#[32]⟩,.int .i64 4] wk fun e w'=>e= .returned (.slice (some ⟨wk.heap.size,0,none⟩) (zfv s).length (min 4 (s.size+1)))∧w'=wk.alloc (.cells (Lib.cellsOf (zfv s) (min 4 (s.size+1))) 9)):=fun wk hwk=>qap s wk hwk hs
 have HT0:Hid (TsF (w.alloc (zc8 zTs)) w.heap.size zTs):=ztf w zTs
 have HB0:Hid (Below w.heap.size w (w.alloc (zc8 zTs))):=za1 _ _
 have HCL:Hid ((zmn 3 s.data.toList).length=(zfv s).length):=by show _=_;rw[HFW.out,List.length_map]
 have HJL:Hid (znh (zmn 3 s.data.toList)=s.data.toList):=zvj 3 _
 generalize zmn 3 s.data.toList=cl at*
 by_cases h4:(zfv s).length=4
 ·have hcap:min 4 (s.size+1)=4:=by
   have h1:(zfv s).length≤min 4 (s.size+1):=by
    have:=Lib.splitB_length_le spS 0 (min 4 (s.size+1)-1) s
    unfold zfv
    omega
   omega
  obtain⟨b0,b1,b2,b3,rfl⟩:∃b0 b1 b2 b3,cl=[b0,b1,b2,b3]:=by
   match cl,HCL.out.trans h4 with
   |[a,b,c,d],_=>exact⟨a,b,c,d,rfl⟩
  have hf:zfv s=[bl b0,bl b1,bl b2,bl b3]:=HFW.out
  have HS4:Hid ((bl b1).size≤100000∧(bl b2).size≤100000):=by
   have hjl:=congrArg List.length HJL.out
   simp only[znh,List.length_append,List.length_cons,zay]at hjl
   have:=HSZ.out
   exact⟨by rw[zd9];omega,by rw[zd9];omega⟩
  rw[hf,hcap]at HSP
  have HPS:Hid (PsI w w.heap.size (w.heap.size+1) (bl b0) (bl b1) (bl b2) (bl b3) ((w.alloc (zc8 zTs)).alloc (.cells (Lib.cellsOf [bl b0,bl b1,bl b2,bl b3] 4) 9))):=by
   refine⟨bla (za1 _ _) (za1 _ _),(ztf w zTs).below (za1 _ _),?_⟩
   have:=qdp (w.alloc (zc8 zTs)) (bl b0) (bl b1) (bl b2) (bl b3)
   simpa using this
  have HR1:Hid (zbz (w.alloc (zc8 zTs))):=hw.below (za1 _ _)
  have hBe:w.heap.size≠w.heap.size+1:=by omega
  clear hf hcap hw hs h4 HFW HCL HT0 HB0 HSZ HJL HR
  by_cases hp:b0=[112,117,116]
  ·have hpb:((bl b0).toList==([112,117,116]:List UInt8))=true:=by rw[zbk,hp];simp
   have HP2:Hid (zeq s.data.toList=(match zbp [bl b1,bl b2]with|some [w,at_]=>some (w,at_,b3)|_=>none)):=by
    show _=_
    rw[HPO.out]
    exact if_pos hp
   clear HPO hp
   obtain⟨s0,hs0⟩:∃s0,bl b0=s0:=⟨_,rfl⟩
   obtain⟨s1,hs1⟩:∃s1,bl b1=s1:=⟨_,rfl⟩
   obtain⟨s2,hs2⟩:∃s2,bl b2=s2:=⟨_,rfl⟩
   obtain⟨s3,hs3⟩:∃s3,bl b3=s3:=⟨_,rfl⟩
   have HS3:Hid (bl b3=s3):=hs3
   rw[hs0]at hpb
   rw[hs0,hs1,hs2,hs3]at HSP HPS
   rw[hs1,hs2]at HS4 HP2
   clear hs0 hs1 hs2 hs3
   go_enter Tryz.func24,Tryz.ntmps24
   go_wp2_with fail
   refine(HSP.out _ HR1.out).mono ?_
   rintro e w1 ⟨rfl,rfl⟩
   clear HSP
   have HR2:=HR1.out.below (za1 _ (.cells (Lib.cellsOf [s0,s1,s2,s3] 4) 9))
   have HR3:Hid (zbz ((w.alloc (zc8 zTs)).alloc (.cells (Lib.cellsOf [s0,s1,s2,s3] 4) 9))):=HR2
   clear HR1 HR2
   simp only[World.size_alloc]at*
   generalize World.alloc _ (Obj.cells (Lib.cellsOf _ _) _)=w2 at*
   generalize hBW:w.heap.size+1=BW at*
   generalize hB:w.heap.size=B at*
   have c0:=HPS.out.words.cell 0 (by simp)
   have hlw:=HPS.out.words.lt
   simp only[Nat.add_zero,List.getElem_cons_zero]at c0
   simp only[List.length_cons,List.length_nil,Nat.zero_add]
   go_wp2_with fail
   clear c0 hlw
   cases hrd:zbp [s1,s2]with
   |none=>
    have HE:Hid (zeq s.data.toList=none):=by show _=_;rw[HP2.out,hrd]
    have HRN:Hid (zbp [s1,s2]=none):=hrd
    clear hrd HP2
    refine zdn (fun wk=>PsI w B BW s0 s1 s2 s3 wk) (fun wk=>PsI w B BW s0 s1 s2 s3 wk∧zbz wk) (fun i=>i==6||i==7) (fun _=>false) (by kernel_rfl) (by kernel_rfl) (by kernel_rfl) (fun _ h=>h.1) ⟨HPS.out.after (Below.refl _ _).drew,HR3.out.below (Below.refl _ _).drew⟩ ?_
    refine wlb (some 20) w rfl (.slice (some ⟨BW,0,none⟩) 4 4) rfl (by kernel_rfl) (fun wk hwk=> ?_) ?_
    ·generalize hA:Act.eval _=ρ
     have s4:ρ (.tmp 4)= .slice (some ⟨BW,0,none⟩) 4 4:=by rw[←hA];kernel_rfl
     clear hA
     go_simp
    go_big_quiet_op
    refine wlb (some 21) w rfl (.pointer (some ⟨BW,1,none⟩)) rfl (by kernel_rfl) (fun wk hwk=> ?_) ?_
    ·generalize hA:Act.eval _=ρ
     have s20:ρ (.tmp 20)= .slice (some ⟨BW,0,none⟩) 4 4:=by rw[←hA];kernel_rfl
     have k1:ρ (.const (.int .i64 1))= .int .i64 1:=by rw[←hA];kernel_rfl
     clear hA
     go_simp
    go_big_quiet_op
    refine wlb (some 22) w rfl (.string s1) rfl (by kernel_rfl) (fun wk hwk=> ?_) ?_
    ·generalize hA:Act.eval _=ρ
     have s21:ρ (.tmp 21)= .pointer (some ⟨BW,1,none⟩):=by rw[←hA];kernel_rfl
     clear hA
     have c0:=hwk.words.cell 1 (by simp)
     have hlw:=hwk.words.lt
     simp only[Nat.zero_add,List.getElem_cons_succ,List.getElem_cons_zero]at c0
     go_simp
    go_big_quiet_op
    refine wlb (some 23) w rfl (.slice (some ⟨BW,0,none⟩) 4 4) rfl (by kernel_rfl) (fun wk hwk=> ?_) ?_
    ·generalize hA:Act.eval _=ρ
     have s4:ρ (.tmp 4)= .slice (some ⟨BW,0,none⟩) 4 4:=by rw[←hA];kernel_rfl
     clear hA
     go_simp
    go_big_quiet_op
    refine wlb (some 24) w rfl (.pointer (some ⟨BW,2,none⟩)) rfl (by kernel_rfl) (fun wk hwk=> ?_) ?_
    ·generalize hA:Act.eval _=ρ
     have s23:ρ (.tmp 23)= .slice (some ⟨BW,0,none⟩) 4 4:=by rw[←hA];kernel_rfl
     have k1:ρ (.const (.int .i64 2))= .int .i64 2:=by rw[←hA];kernel_rfl
     clear hA
     go_simp
    go_big_quiet_op
    refine wlb (some 25) w rfl (.string s2) rfl (by kernel_rfl) (fun wk hwk=> ?_) ?_
    ·generalize hA:Act.eval _=ρ
     have s24:ρ (.tmp 24)= .pointer (some ⟨BW,2,none⟩):=by rw[←hA];kernel_rfl
     clear hA
     have c0:=hwk.words.cell 2 (by simp)
     have hlw:=hwk.words.lt
     simp only[Nat.zero_add,List.getElem_cons_succ,List.getElem_cons_zero]at c0
     go_simp
    go_big_quiet_op
    refine wls (some 26) w rfl rfl (by kernel_rfl) (fun u=>∃E,u= .slice (some ⟨E,0,none⟩) 2 2) (fun u wk=>PsI w B BW s0 s1 s2 s3 wk) (fun u wk=>(∃E,u= .slice (some ⟨E,0,none⟩) 2 2)∧zb9 wk u [s1,s2]∧PsI w B BW s0 s1 s2 s3 wk∧zbz wk) (⟨.slice (some ⟨0,0,none⟩) 2 2,0,rfl⟩) (fun _ _ h=>h) (fun _ _ h=>h.2.2.1) (fun wk hwk=> ?_) (fun u9 hu9=> ?_)
    ·generalize hA:Act.eval _=ρ
     have s22:ρ (.tmp 22)= .string s1:=by rw[←hA];kernel_rfl
     have s25:ρ (.tmp 25)= .string s2:=by rw[←hA];kernel_rfl
     clear hA
     go_simp
     have hq1:=zog wk s1 s2
     have hq2:=hwk.1.after (za1 wk (.cells #[.string s1,.string s2] 9))
     have hq3:=hwk.2.below (za1 wk (.cells #[.string s1,.string s2] 9))
     go_simp
     exact⟨⟨_,rfl⟩,hq1,hq2,hq3⟩
    obtain⟨E,rfl⟩:=hu9
    go_big_quiet_op
    refine wls (some 27) w rfl rfl (by kernel_rfl) (fun u=>u= .tuple #[.slice none 0 0,.bool false]) (fun u wk=>PsI w B BW s0 s1 s2 s3 wk) (fun u wk=>PsI w B BW s0 s1 s2 s3 wk) (⟨_,rfl⟩) (fun _ _ h=>h) (fun _ _ h=>h) (fun wk hwk=> ?_) (fun u9 hu9=> ?_)
    ·generalize hA:Act.eval _=ρ
     have s26:ρ (.tmp 26)= .slice (some ⟨E,0,none⟩) 2 2:=by rw[←hA];kernel_rfl
     have sf:ρ (.func 27)= .func (.func 27) #[] #[]:=by rw[←hA];kernel_rfl
     clear hA
     go_simp
     refine(zkm hwk.2.1 hwk.2.2.2 (by simp) (fun s hs=> ?_)).mono ?_
     ·have:=HS4.out
      simp only[List.mem_cons,List.not_mem_nil,or_false]at hs
      rcases hs with rfl|rfl
      ·exact this.1
      ·exact this.2
     rintro e w7 ⟨h7,hb⟩
     rcases h7 with⟨zs,v,h8,_⟩|⟨_,rfl⟩
     ·rw[HRN.out]at h8;cases h8
     ·exact⟨_,rfl,rfl,hwk.2.2.1.after hb⟩
    subst hu9
    go_big_quiet_op
    refine wlb (some 19) w rfl (.tuple #[.slice none 0 0,.bool false]) rfl (by kernel_rfl) (fun wk hwk=> ?_) ?_
    ·generalize hA:Act.eval _=ρ
     have s27:ρ (.tmp 27)= .tuple #[.slice none 0 0,.bool false]:=by rw[←hA];kernel_rfl
     clear hA
     go_simp
    go_big_quiet_op
    refine wlb (some 28) w rfl (.slice none 0 0) rfl (by kernel_rfl) (fun wk hwk=> ?_) ?_
    ·generalize hA:Act.eval _=ρ
     have s19:ρ (.tmp 19)= .tuple #[.slice none 0 0,.bool false]:=by rw[←hA];kernel_rfl
     clear hA
     go_simp
    go_big_quiet_op
    refine wlb (some 29) w rfl (.bool false) rfl (by kernel_rfl) (fun wk hwk=> ?_) ?_
    ·generalize hA:Act.eval _=ρ
     have s19:ρ (.tmp 19)= .tuple #[.slice none 0 0,.bool false]:=by rw[←hA];kernel_rfl
     clear hA
     go_simp
    go_big_quiet_op
    refine wlb (some 5) w rfl (.slice none 0 0) rfl (by kernel_rfl) (fun wk hwk=> ?_) ?_
    ·generalize hA:Act.eval _=ρ
     have s28:ρ (.tmp 28)= .slice none 0 0:=by rw[←hA];kernel_rfl
     clear hA
     go_simp
    go_big_quiet_op
    refine wlb (some 6) w rfl (.bool false) rfl (by kernel_rfl) (fun wk hwk=> ?_) ?_
    ·generalize hA:Act.eval _=ρ
     have s29:ρ (.tmp 29)= .bool false:=by rw[←hA];kernel_rfl
     clear hA
     go_simp
    go_big_quiet_op
    refine zhh (fun w9 hw9=> ?_)
    have H9:Hid (PsI w B BW s0 s1 s2 s3 w9):=hw9
    clear hw9 HPS HR3
    obtain⟨⟨hlb,g0,g1,g2,g3,g4⟩,gf⟩:=H9.out.step
    have f0:=gf 0 (by omega)
    have f1:=gf 1 (by omega)
    have f2:=gf 2 (by omega)
    have f3:=gf 3 (by omega)
    have f4:=gf 4 (by omega)
    simp only[Nat.zero_add]at g0 g1 g2 g3 g4
    go_wp2
    refine znm (x:=zTs) (H9.out.step.put zTs) rfl rfl rfl ?_
    rw[HE.out]
    exact⟨rfl,zii H9.out.below (by omega) zTs⟩
   |some zs=>
    obtain⟨z1,z2,rfl⟩:∃z1 z2,zs=[z1,z2]:=by
     have:=zhp _ _ hrd
     match zs,this with
     |[a,b],_=>exact⟨a,b,rfl⟩
    have HE:Hid (zeq s.data.toList=some (z1,z2,b3)):=by show _=_;rw[HP2.out,hrd]
    have HRN:Hid (zbp [s1,s2]=some [z1,z2]):=hrd
    clear hrd HP2
    refine zdn (fun wk=>PsI w B BW s0 s1 s2 s3 wk) (fun wk=>PsI w B BW s0 s1 s2 s3 wk∧zbz wk) (fun i=>i==6||i==7) (fun _=>false) (by kernel_rfl) (by kernel_rfl) (by kernel_rfl) (fun _ h=>h.1) ⟨HPS.out.after (Below.refl _ _).drew,HR3.out.below (Below.refl _ _).drew⟩ ?_
    refine wlb (some 20) w rfl (.slice (some ⟨BW,0,none⟩) 4 4) rfl (by kernel_rfl) (fun wk hwk=> ?_) ?_
    ·generalize hA:Act.eval _=ρ
     have s4:ρ (.tmp 4)= .slice (some ⟨BW,0,none⟩) 4 4:=by rw[←hA];kernel_rfl
     clear hA
     go_simp
    go_big_quiet_op
    refine wlb (some 21) w rfl (.pointer (some ⟨BW,1,none⟩)) rfl (by kernel_rfl) (fun wk hwk=> ?_) ?_
    ·generalize hA:Act.eval _=ρ
     have s20:ρ (.tmp 20)= .slice (some ⟨BW,0,none⟩) 4 4:=by rw[←hA];kernel_rfl
     have k1:ρ (.const (.int .i64 1))= .int .i64 1:=by rw[←hA];kernel_rfl
     clear hA
     go_simp
    go_big_quiet_op
    refine wlb (some 22) w rfl (.string s1) rfl (by kernel_rfl) (fun wk hwk=> ?_) ?_
    ·generalize hA:Act.eval _=ρ
     have s21:ρ (.tmp 21)= .pointer (some ⟨BW,1,none⟩):=by rw[←hA];kernel_rfl
     clear hA
     have c0:=hwk.words.cell 1 (by simp)
     have hlw:=hwk.words.lt
     simp only[Nat.zero_add,List.getElem_cons_succ,List.getElem_cons_zero]at c0
     go_simp
    go_big_quiet_op
    refine wlb (some 23) w rfl (.slice (some ⟨BW,0,none⟩) 4 4) rfl (by kernel_rfl) (fun wk hwk=> ?_) ?_
    ·generalize hA:Act.eval _=ρ
     have s4:ρ (.tmp 4)= .slice (some ⟨BW,0,none⟩) 4 4:=by rw[←hA];kernel_rfl
     clear hA
     go_simp
    go_big_quiet_op
    refine wlb (some 24) w rfl (.pointer (some ⟨BW,2,none⟩)) rfl (by kernel_rfl) (fun wk hwk=> ?_) ?_
    ·generalize hA:Act.eval _=ρ
     have s23:ρ (.tmp 23)= .slice (some ⟨BW,0,none⟩) 4 4:=by rw[←hA];kernel_rfl
     have k1:ρ (.const (.int .i64 2))= .int .i64 2:=by rw[←hA];kernel_rfl
     clear hA
     go_simp
    go_big_quiet_op
    refine wlb (some 25) w rfl (.string s2) rfl (by kernel_rfl) (fun wk hwk=> ?_) ?_
    ·generalize hA:Act.eval _=ρ
     have s24:ρ (.tmp 24)= .pointer (some ⟨BW,2,none⟩):=by rw[←hA];kernel_rfl
     clear hA
     have c0:=hwk.words.cell 2 (by simp)
     have hlw:=hwk.words.lt
     simp only[Nat.zero_add,List.getElem_cons_succ,List.getElem_cons_zero]at c0
     go_simp
    go_big_quiet_op
    refine wls (some 26) w rfl rfl (by kernel_rfl) (fun u=>∃E,u= .slice (some ⟨E,0,none⟩) 2 2) (fun u wk=>PsI w B BW s0 s1 s2 s3 wk) (fun u wk=>(∃E,u= .slice (some ⟨E,0,none⟩) 2 2)∧zb9 wk u [s1,s2]∧PsI w B BW s0 s1 s2 s3 wk∧zbz wk) (⟨.slice (some ⟨0,0,none⟩) 2 2,0,rfl⟩) (fun _ _ h=>h) (fun _ _ h=>h.2.2.1) (fun wk hwk=> ?_) (fun u9 hu9=> ?_)
    ·generalize hA:Act.eval _=ρ
     have s22:ρ (.tmp 22)= .string s1:=by rw[←hA];kernel_rfl
     have s25:ρ (.tmp 25)= .string s2:=by rw[←hA];kernel_rfl
     clear hA
     go_simp
     have hq1:=zog wk s1 s2
     have hq2:=hwk.1.after (za1 wk (.cells #[.string s1,.string s2] 9))
     have hq3:=hwk.2.below (za1 wk (.cells #[.string s1,.string s2] 9))
     go_simp
     exact⟨⟨_,rfl⟩,hq1,hq2,hq3⟩
    obtain⟨E,rfl⟩:=hu9
    go_big_quiet_op
    refine wls (some 27) w rfl rfl (by kernel_rfl) (fun u=>∃va vc,u= .tuple #[.slice va 2 vc,.bool true]) (fun u wk=>PsI w B BW s0 s1 s2 s3 wk) (fun u wk=>PsI w B BW s0 s1 s2 s3 wk∧∃va vc,u= .tuple #[.slice va 2 vc,.bool true]∧zlq wk (.slice va 2 vc) [z1,z2]) (⟨.tuple #[.slice none 2 0,.bool true],_,_,rfl⟩) (fun _ _ h=>h) (fun _ _ h=>h.1) (fun wk hwk=> ?_) (fun u8 hu8=> ?_)
    ·generalize hA:Act.eval _=ρ
     have s26:ρ (.tmp 26)= .slice (some ⟨E,0,none⟩) 2 2:=by rw[←hA];kernel_rfl
     have sf:ρ (.func 27)= .func (.func 27) #[] #[]:=by rw[←hA];kernel_rfl
     clear hA
     go_simp
     refine(zkm hwk.2.1 hwk.2.2.2 (by simp) (fun s hs=> ?_)).mono ?_
     ·have:=HS4.out
      simp only[List.mem_cons,List.not_mem_nil,or_false]at hs
      rcases hs with rfl|rfl
      ·exact this.1
      ·exact this.2
     rintro e w7 ⟨h7,hb⟩
     rcases h7 with⟨zs,v,h8,rfl,h9⟩|⟨h8,_⟩
     ·rw[HRN.out]at h8
      obtain rfl:=Option.some.inj h8
      obtain⟨va,vc,rfl⟩:=h9.len
      exact⟨_,rfl,⟨va,vc,rfl⟩,hwk.2.2.1.after hb,va,vc,rfl,h9⟩
     ·rw[HRN.out]at h8;cases h8
    obtain⟨va,vc,rfl⟩:=hu8
    go_big_quiet_op
    refine wlb (some 19) w rfl (.tuple #[.slice va 2 vc,.bool true]) rfl (by kernel_rfl) (fun wk hwk=> ?_) ?_
    ·generalize hA:Act.eval _=ρ
     have s27:ρ (.tmp 27)= .tuple #[.slice va 2 vc,.bool true]:=by rw[←hA];kernel_rfl
     clear hA
     go_simp
    go_big_quiet_op
    refine wlb (some 28) w rfl (.slice va 2 vc) rfl (by kernel_rfl) (fun wk hwk=> ?_) ?_
    ·generalize hA:Act.eval _=ρ
     have s19:ρ (.tmp 19)= .tuple #[.slice va 2 vc,.bool true]:=by rw[←hA];kernel_rfl
     clear hA
     go_simp
    go_big_quiet_op
    refine wlb (some 29) w rfl (.bool true) rfl (by kernel_rfl) (fun wk hwk=> ?_) ?_
    ·generalize hA:Act.eval _=ρ
     have s19:ρ (.tmp 19)= .tuple #[.slice va 2 vc,.bool true]:=by rw[←hA];kernel_rfl
     clear hA
     go_simp
    go_big_quiet_op
    refine wlb (some 5) w rfl (.slice va 2 vc) rfl (by kernel_rfl) (fun wk hwk=> ?_) ?_
    ·generalize hA:Act.eval _=ρ
     have s28:ρ (.tmp 28)= .slice va 2 vc:=by rw[←hA];kernel_rfl
     clear hA
     go_simp
    go_big_quiet_op
    refine wlb (some 6) w rfl (.bool true) rfl (by kernel_rfl) (fun wk hwk=> ?_) ?_
    ·generalize hA:Act.eval _=ρ
     have s29:ρ (.tmp 29)= .bool true:=by rw[←hA];kernel_rfl
     clear hA
     go_simp
    go_big_quiet_op
    refine zhh (fun w9 hw9=> ?_)
    have H9:Hid (PsI w B BW s0 s1 s2 s3 w9∧zlq w9 (.slice va 2 vc) [z1,z2]):=by
     obtain⟨h1,va',vc',h2,h3⟩:=hw9
     simp only[Value.tuple.injEq,Array.mk.injEq,List.cons.injEq,Value.slice.injEq,and_true,true_and]at h2
     obtain⟨rfl,rfl⟩:=h2
     exact⟨h1,h3⟩
    clear hw9 HPS HR3
    go_wp2_with fail
    obtain⟨⟨hlb,g0,g1,g2,g3,g4⟩,gf⟩:=H9.out.1.step
    have f0:=gf 0 (by omega)
    have f1:=gf 1 (by omega)
    have f2:=gf 2 (by omega)
    have f3:=gf 3 (by omega)
    have f4:=gf 4 (by omega)
    simp only[Nat.zero_add]at g0 g1 g2 g3 g4
    have c3:=H9.out.1.words.cell 3 (by simp)
    have hlw:=H9.out.1.words.lt
    simp only[Nat.zero_add,List.getElem_cons_succ,List.getElem_cons_zero]at c3
    obtain⟨nb,no,nc,hnv,hnb,hrow⟩:=qfi H9.out.2 (by simp)
    simp only[Value.slice.injEq]at hnv
    obtain⟨rfl,-, rfl⟩:=hnv
    have n0:=hrow 0 (by simp)
    have n1:=hrow 1 (by simp)
    simp only[Nat.add_zero,List.getElem_cons_succ,List.getElem_cons_zero]at n0 n1
    have HTS:Hid (TsF w9 B zTs):=H9.out.1.step
    have HBL:Hid (Below w.heap.size w w9):=H9.out.1.below
    have hP:=HTS.out.put ⟨2,z1,z2,0,s3⟩
    have hQ:=zii HBL.out (B:=B) (by omega) ⟨2,z1,z2,0,s3⟩
    unfold put5S at hP hQ
    dsimp only at hP hQ
    have HP9:Hid (zrk (((((w9.setCell ⟨B,0,none⟩ (.int .i64 2)).setCell ⟨B,1,none⟩ (.int .i64 z1)).setCell ⟨B,2,none⟩ (.int .i64 z2)).setCell ⟨B,3,none⟩ (.int .i64 0)).setCell ⟨B,4,none⟩ (.string s3)).drew B 0 ⟨2,z1,z2,0,s3⟩):=hP.below (Below.refl _ _).drew
    have HQ9:Hid (Below w.heap.size w (((((w9.setCell ⟨B,0,none⟩ (.int .i64 2)).setCell ⟨B,1,none⟩ (.int .i64 z1)).setCell ⟨B,2,none⟩ (.int .i64 z2)).setCell ⟨B,3,none⟩ (.int .i64 0)).setCell ⟨B,4,none⟩ (.string s3)).drew):=hQ.drew
    clear hrow gf H9 hP hQ
    go_region
    go_wp2
    refine znm (v:= .bool true) HP9.out rfl rfl rfl ?_
    rw[HE.out]
    refine⟨?_,HQ9.out⟩
    rw[←HS3.out]
    rfl
  ·have hpb:((bl b0).toList==([112,117,116]:List UInt8))=false:=by rw[zbk];simp only[decide_eq_false_iff_not];exact fun e=>hp (zpq e)
   have HE:Hid (zeq s.data.toList=none):=by show _=_;rw[HPO.out];exact if_neg hp
   clear HPO hp
   obtain⟨s0,hs0⟩:∃s0,bl b0=s0:=⟨_,rfl⟩
   obtain⟨s1,hs1⟩:∃s1,bl b1=s1:=⟨_,rfl⟩
   obtain⟨s2,hs2⟩:∃s2,bl b2=s2:=⟨_,rfl⟩
   obtain⟨s3,hs3⟩:∃s3,bl b3=s3:=⟨_,rfl⟩
   rw[hs0]at hpb
   rw[hs0,hs1,hs2,hs3]at HSP HPS
   clear hs0 hs1 hs2 hs3
   go_enter Tryz.func24,Tryz.ntmps24
   go_wp2_with fail
   refine(HSP.out _ HR1.out).mono ?_
   rintro e w1 ⟨rfl,rfl⟩
   clear HSP HR1
   simp only[World.size_alloc]at*
   generalize World.alloc _ (Obj.cells (Lib.cellsOf _ _) _)=w2 at*
   generalize hBW:w.heap.size+1=BW at*
   generalize hB:w.heap.size=B at*
   have c0:=HPS.out.words.cell 0 (by simp)
   have hlw:=HPS.out.words.lt
   simp only[Nat.add_zero,List.getElem_cons_zero]at c0
   simp only[List.length_cons,List.length_nil,Nat.zero_add]
   obtain⟨⟨hlb,g0,g1,g2,g3,g4⟩,gf⟩:=HPS.out.step
   have f0:=gf 0 (by omega)
   have f1:=gf 1 (by omega)
   have f2:=gf 2 (by omega)
   have f3:=gf 3 (by omega)
   have f4:=gf 4 (by omega)
   simp only[Nat.zero_add]at g0 g1 g2 g3 g4
   go_wp2
   refine znm (x:=zTs) (HPS.out.step.put zTs) rfl rfl rfl ?_
   rw[HE.out]
   exact⟨rfl,zii HPS.out.below (by omega) zTs⟩
 ·have HE:Hid (zeq s.data.toList=none):=by show _=_;rw[HPO.out];exact qax (by rw[HCL.out];exact h4)
  have hne:(((zfv s).length:Int) != 4)=true:=by simp;omega
  obtain⟨nf,hnf⟩:∃nf,(zfv s).length=nf:=⟨_,rfl⟩
  obtain⟨nc,hnc⟩:∃nc,min 4 (s.size+1)=nc:=⟨_,rfl⟩
  obtain⟨cs,hcs⟩:∃cs,Lib.cellsOf (zfv s) nc=cs:=⟨_,rfl⟩
  rw[hnc,hcs,hnf]at HSP
  rw[hnf]at hne
  have HT1:Hid (TsF ((w.alloc (zc8 zTs)).alloc (.cells cs 9)) w.heap.size zTs):=HT0.out.below (za1 _ _)
  have HB1:Hid (Below w.heap.size w ((w.alloc (zc8 zTs)).alloc (.cells cs 9))):=bla (za1 _ _) (za1 _ _)
  have HR1:Hid (zbz (w.alloc (zc8 zTs))):=hw.below (za1 _ _)
  clear hnf hnc hcs hw hs h4 HFW HCL HPO HT0 HB0 HR
  go_enter Tryz.func24,Tryz.ntmps24
  go_wp2_with fail
  refine(HSP.out _ HR1.out).mono ?_
  rintro e w1 ⟨rfl,rfl⟩
  clear HSP
  generalize World.alloc _ (Obj.cells cs _)=w2 at*
  obtain⟨⟨hlb,g0,g1,g2,g3,g4⟩,gf⟩:=HT1.out
  have f0:=gf 0 (by omega)
  have f1:=gf 1 (by omega)
  have f2:=gf 2 (by omega)
  have f3:=gf 3 (by omega)
  have f4:=gf 4 (by omega)
  simp only[Nat.zero_add]at g0 g1 g2 g3 g4
  go_wp2
  refine znm (x:=zTs) (HT1.out.put zTs) rfl rfl rfl ?_
  rw[HE.out]
  exact⟨rfl,zii HB1.out (Nat.le_refl _) zTs⟩
abbrev fkV(p:Int×Int):Value:= .agg #[.int .i64 p.1,.int .i64 p.2]
theorem nl_any(s:ByteArray)(w:World):Calls Tryz.prog 22 #[.string s] w fun e w'=>e= .returned (.bool (zgy s.data.toList))∧w'=w:=by
 have hc:=Tryz.strings_Contains_one s 10 w
 rw[zxk]at hc
 go_enter Tryz.func22,Tryz.ntmps22
 go_wp2_with fail
 refine hc.mono ?_
 rintro e w1 ⟨rfl,rfl⟩
 go_wp2_with fail
 go_ret
 exact⟨rfl,rfl⟩
def NlIs(ls:List ByteArray)(r:Int):Prop:=(∃(k:Nat) (h:k<ls.length),(∀(j:Nat) (hj:j<k),zgy (ls[j]'(by omega)).data.toList=false)∧zgy ls[k].data.toList=true∧r=k)∨((∀s∈ls,zgy s.data.toList=false)∧r= -1)
theorem qb1{ls:List ByteArray}{r:Int}(h:NlIs ls r):(r= -1∧zbv 0 (ls.map (·.data.toList))=(0,0))∨(0≤r∧zbv 0 (ls.map (·.data.toList))=(11,r)):=by
 rcases h with⟨k,hk,h1,h2,rfl⟩|⟨h1,rfl⟩
 ·refine .inr ⟨by omega,?_⟩
  have:=zsv (ls.map (·.data.toList)) 0 k (by simpa using hk) (fun j hj=>by rw[List.getElem_map];exact h1 j hj) (by rw[List.getElem_map];exact h2)
  rw[this,Nat.zero_add]
 ·refine .inl ⟨rfl,zmk _ 0 (fun s hs=> ?_)⟩
  obtain⟨x,hx,rfl⟩:=List.mem_map.1 hs
  exact h1 x hx
theorem qfh{w:World}{v:Value}{ls:List ByteArray}(h:zb9 w v ls)(hn:ls.length≤1000):
 Calls Tryz.prog 21 #[v,.func (.func 22) #[] #[]] w fun e w'=>∃r,e= .returned (.int .i64 r)∧NlIs ls r∧w'=w:=by
 have HV:Hid (zb9 w v ls):=h
 obtain⟨a,cap,rfl,_⟩:=h.len
 clear h
 go_enter Tryz.func21,Tryz.ntmps21
 go_wp2_with fail
 go_loop [8] (fun i=>∃k:Nat,k≤ls.length∧i= .int .i64 k∧Hid (∀(j:Nat) (h:j<ls.length),j<k→zgy ls[j].data.toList=false)) (fun i=>ls.length-(intOf i).toNat)
 case atStart=>exact⟨0,Nat.zero_le _,rfl,fun j _ h=>absurd h (Nat.not_lt_zero _)⟩
 case round=>
  obtain⟨k,hk,rfl,HW⟩:=hrel
  by_cases hlt:k<ls.length
  ·have hki:(k:Int)<(ls.length:Int):=by omega
   obtain⟨bb,off,rfl,hst⟩:=HV.out.row (by omega)
   have c0:=hst.cell k hlt
   have hbl:=hst.lt
   have HNL:Hid (∀wk,Calls Tryz.prog 22 #[.string ls[k]] wk fun e w'=>e= .returned (.bool (zgy ls[k].data.toList))∧w'=wk):=fun wk=>nl_any _ wk
   obtain⟨b,hb⟩:∃b,zgy ls[k].data.toList=b:=⟨_,rfl⟩
   have HB:Hid (zgy ls[k].data.toList=b):=hb
   rw[hb]at HNL
   obtain⟨s,hs⟩:∃s,ls[k]=s:=⟨_,rfl⟩
   rw[hs]at HNL c0
   clear hb hs hst
   go_wp2_with fail
   refine(HNL.out _).mono ?_
   rintro e w1 ⟨rfl,hw1⟩
   rw[hw1]
   clear hw1 w1
   cases b
   ·go_wp2_with fail
    go_round
    case rel=>exact⟨k+1,by omega,by go_num,fun j h hj=>by
     rcases Nat.lt_or_ge j k with h'|h'
     ·exact HW.out j h h'
     ·obtain rfl:j=k:=by omega
      exact HB.out⟩
    case measure=>simp[intOf];omega
   ·go_wp2_with fail
    go_ret
    exact⟨_,rfl,.inl ⟨k,hlt,fun j hj=>HW.out j (by omega) hj,HB.out,rfl⟩,rfl⟩
  ·obtain rfl:k=ls.length:=by omega
   go_wp2_with fail
   go_ret
   refine⟨_,rfl,.inr ⟨fun s hs=> ?_,rfl⟩,rfl⟩
   obtain⟨j,hj,rfl⟩:=List.mem_iff_getElem.1 hs
   exact HW.out j hj hj
theorem zll{fn:Func}{p:Tmp}{R:Ending→World→Prop}{a:Act}{w:World}{B:Nat}{c i:Int}(hf:fn.results= #[.cell p 31])(h:w.heap[B]? =some (.cells #[.int .i64 c,.int .i64 i] 31 (0,0)))(h2:a.tmps.getD p undef= .pointer (some ⟨B,0,none⟩))(hd:a.defers=[])
 (hR:R (.returned (.agg #[.int .i64 c,.int .i64 i])) w):bodyPost Tryz.prog fn R Exit.ret a w:=
 bodyPost_ret (results_cell_row hf _ _ B 31 #[.int .i64 c,.int .i64 i] (0,0) _ h2 h Tryz.underlying31 rfl (by kernel_rfl)) hd hR
theorem zpf{l:List (List UInt8)}(h:150<l.length):zct l=(10,-1):=if_pos h
theorem zv8{l:List (List UInt8)}(h:¬150<l.length):zct l=zbv 0 l:=if_neg h
theorem zov{w:World}{v:Value}{ls:List ByteArray}(h:zb9 w v ls):
 Calls Tryz.prog 14 #[v] w fun e w'=>e= .returned (fkV (zct (ls.map (·.data.toList))))∧Below w.heap.size w w':=by
 have HV:Hid (zb9 (w.alloc (.cells #[.int .i64 0,.int .i64 0] 31)) v ls):=h.below (za1 _ _)
 have HL:Hid ((ls.map (·.data.toList)).length=ls.length):=List.length_map ..
 obtain⟨a,cap,rfl,_⟩:=h.len
 clear h
 by_cases hb:150<ls.length
 ·have HE:Hid (zct (ls.map (·.data.toList))=(10,-1)):=zpf (by rw[HL.out];exact hb)
  have hbi:(150:Int)<(ls.length:Int):=by omega
  obtain⟨n,hn⟩:∃n,ls.length=n:=⟨_,rfl⟩
  rw[HE.out]
  rw[hn]at hb hbi⊢
  clear hn HV HL HE
  go_enter Tryz.func14,Tryz.ntmps14
  go_wp2
  refine zll (B:=w.heap.size) (c:=10) (i:= -1) rfl (heap_alloc_new w _) rfl rfl ?_
  exact⟨rfl,za1 _ _⟩
 ·have HE:Hid (zct (ls.map (·.data.toList))=zbv 0 (ls.map (·.data.toList))):=zv8 (by rw[HL.out];exact hb)
  have HI:Hid (Calls Tryz.prog 21 #[.slice a ls.length cap,.func (.func 22) #[] #[]] (w.alloc (.cells #[.int .i64 0,.int .i64 0] 31)) fun e w'=>∃r,e= .returned (.int .i64 r)∧NlIs ls r∧w'=w.alloc (.cells #[.int .i64 0,.int .i64 0] 31)):=qfh HV.out (by omega)
  have hbi:¬(150:Int)<(ls.length:Int):=by omega
  rw[HE.out]
  clear HV HL HE
  go_enter Tryz.func14,Tryz.ntmps14
  go_wp2_with fail
  refine HI.out.mono ?_
  rintro e w1 ⟨r,rfl,hr,rfl⟩
  rcases qb1 hr with⟨rfl,hf⟩|⟨h0,hf⟩
  ·have HF:Hid (zbv 0 (ls.map (·.data.toList))=(0,0)):=hf
   clear hr hf HI
   go_wp2
   refine zll (B:=w.heap.size) (c:=0) (i:=0) rfl (heap_alloc_new w _) rfl rfl ?_
   rw[HF.out]
   exact⟨rfl,za1 _ _⟩
  ·have HF:Hid (zbv 0 (ls.map (·.data.toList))=(11,r)):=hf
   clear hr hf HI
   go_wp2
   refine zll (B:=w.heap.size) (c:=11) (i:=r) rfl (heap_alloc_new w _) rfl rfl ?_
   rw[HF.out]
   exact⟨rfl,za1 _ _⟩
theorem zns{n:Int}(h:inI n):(Lib.itoa n).length≤21:=by
 have:=zby h
 rw[←zay]at this
 simpa [zc4]using this
theorem zse{c:Int}(h:Sm c):(noW c).length≤30:=by
 have:(Lib.itoa c).length≤21:=zns (by unfold Sm at h;unfold inI;omega)
 unfold noW
 simp
 omega
theorem ztr(t:Twn)(x:Tst):(zca t x).1.length≤30:=by
 unfold zca
 dsimp only
 split
 ·decide
 ·exact zse (zrw t x)
theorem zmd:∀ds:List Dd,(zb3 ds).length≤201*ds.length
 |[]=>Nat.le_refl _
 |d::ds=>by
  have h1:=zmd ds
  have h2:=zme d
  rw[zb3,List.length_append,zhe,List.length_append,zay,List.length_cons]
  simp
  omega
theorem zui:∀zs:List Int,(∀z∈zs,inI z)→(zdv zs).length≤22*zs.length
 |[],_=>Nat.le_refl _
 |z::zs,h=>by
  have h1:=zui zs (fun y hy=>h y (by simp[hy]))
  have h2:=zns (h z (by simp))
  rw[zdv,List.length_cons,List.length_append,List.length_cons]
  omega
theorem byN_in{b:Bk}(hg:zcm b)(n:Int):∀z∈(thS b n).map (·.by_),inI z:=by
 intro z hz
 obtain⟨x,hx,rfl⟩:=List.mem_map.1 hz
 have hm:x∈b.chars:=by
  unfold thS at hx
  split at hx
  ·exact(List.mem_filter.1 hx).1
  ·cases hx
 have:=(zje hg).wr x hm
 unfold wrB at this
 rw[decide_eq_true_eq]at this
 unfold inI
 omega
theorem zoe(l:List Int):(zfo l).length≤l.length+6:=by
 unfold zfo zkb
 have:=zbr l
 rw[←zay]at this
 simp only[List.length_append,List.length_cons,List.length_nil,this]
 omega
section
variable {t:Twn} {tk:Int→List (List Ch)}
theorem seen_len(h:TR t tk)(n:Int):(zi7 t n).length≤300:=by
 unfold zi7
 cases he:t.ws n with
 |none=>exact Nat.le_trans (zse zgi) (by decide)
 |some r=>
  have h1:=zoe (vw r.list r.seen r.me)
  have h2:=qcn r.list r.seen r.me
  have h3:=(zbj h he).len
  show(zfo _).length≤_
  omega
theorem open_len(h:TR t tk)(n:Int):(zhq t n).length≤30000:=by
 unfold zhq
 cases he:t.ws n with
 |none=>exact Nat.le_trans (zse zgi) (by decide)
 |some r=>
  have h1:=zmd r.opens
  have h3:=(zbj h he).few
  show(zb3 r.opens++znw).length≤_
  rw[List.length_append]
  show _+4≤_
  omega
theorem qdd(h:TR t tk)(n:Int):(zhd t n).length≤30000:=by
 unfold zhd
 split
 ·have h1:=zoe ((thS t.b n).map (·.c))
  have h2:=zui ((thS t.b n).map (·.by_)) (byN_in h.ti.good n)
  have h3:=ztn t.b n
  have h4:=zb2 (b:=t.b)
  rw[List.length_map]at h1 h2
  rw[List.length_append,byW,List.length_append,List.length_append]
  show _+(2+(_+1))≤_
  omega
 ·exact Nat.le_trans (zse zgi) (by decide)
theorem all_len(t:Twn):(zfo (zdi t.b.chars)).length≤300:=by
 have h1:=zoe (zdi t.b.chars)
 have h2:(zdi t.b.chars).length≤200:=by
  unfold zdi
  rw[List.length_map]
  have:=List.length_filter_le zgg t.b.chars
  have:=zb2 (b:=t.b)
  omega
 omega
theorem log_len(h:TR t tk):(zb3 t.b.ds++znw).length≤30000:=by
 have h1:=zmd t.b.ds
 have h2:=h.ti.good.small
 rw[List.length_append]
 show _+4≤_
 omega
theorem zx5(h:TR t tk):(ze4 (zao t.b) t.b.len).length≤100:=by
 have hG:=h.ti.good
 have hle:=zfs t.b
 have hsm:=hG.small
 have hge:0≤zao t.b:=zh4 (by show(0:Int)≤(t.b.ds.length:Int);omega) (fun w _ _=>(hG.said w).1)
 have hlen:t.b.len=(t.b.ds.length:Int):=rfl
 have h1:(Lib.itoa (zao t.b)).length≤21:=zns (by unfold inI;omega)
 have h2:(Lib.itoa t.b.len).length≤21:=zns (by unfold inI;omega)
 unfold ze4
 simp only[List.length_append,List.length_cons,List.length_nil]
 omega
theorem cmd_len(h:TR t tk)(k:List UInt8)(n:List Int):(zci t k n).1.length≤30000:=by
 have key:∀(c:Prop) [Decidable c] (a b:List UInt8×Twn),a.1.length≤30000→b.1.length≤30000→(if c then a else b).1.length≤30000:=fun c _ a b ha hb=>by split<;>assumption
 unfold zci
 repeat' apply key
 all_goals first
  |exact Nat.le_trans (ztr _ _) (by decide)
  |exact Nat.le_trans (seen_len h _) (by decide)
  |exact open_len h _
  |exact qdd h _
  |exact Nat.le_trans (all_len t) (by decide)
  |exact log_len h
  |exact Nat.le_trans (zx5 h) (by decide)
  |(show(okW).length≤_;decide)
  |(show(zfl).length≤_;decide)
theorem zzj(h:TR t tk)(s:List UInt8):(zae t s).1.length≤30000:=by
 unfold zae
 split
 ·exact Nat.le_trans (ztr _ _) (by decide)
 ·cases zb0 s with
  |nil=>exact Nat.zero_le _
  |cons k r=>
   rw[zg2]
   cases zbp (r.map bl)with
   |none=>show(zfl).length≤_;decide
   |some n=>exact cmd_len h k n
end
end Go.Proofs.YtcbnnfeelhlapadGreatDoor