/-
  KRow.
-/
import Derived.SliceStrings
import Derived.SizedLaws
import Derived.Shelf.Vars
import Derived.OpenShut
import Derived.Stop.LaidErr
import Derived.Lib.LaidTab
import Derived.Lay
import Derived.LaidOnce
import Derived.ProofKit
import Derived.ShutString
import Derived.ChangeOld
import Derived.Test.YtcbnnfeelhlapadGreatDoorTnMem
namespace Go.Proofs.YtcbnnfeelhlapadGreatDoor
set_option maxRecDepth 20000
open Go.RowKit Go.Deep
open Go.ChangeShapes Go.WideShapes Go.ChangeAt
theorem Tryz.own:ownKnob Tryz.prog.godebug=none:=by kernel_rfl
theorem Tryz.laidOut:laidOutB Tryz.prog=true:=by kernel_rfl
theorem Tryz.cellsStr1:Tryz.prog.cellsOf 9=1:=by kernel_rfl
theorem zo4{H:Type}{P:Program}{e:TypeId}{d:DataW H}{n:Nat}(hn:n∈d.weights P e):∀{l:List (DataW H)},d∈l->n∈DataW.weightsAll P e l
 |x::l,h=>by
  rw[DataW.weightsAll,List.mem_append]
  rcases List.mem_cons.1 h with rfl|h
  ·exact .inl hn
  exact .inr (zo4 hn h)
section
variable {H:Type} {enc:TypeId×Value->H} {W:World} {base:Nat} {spare:Nat->Bool} {held:Bool}
theorem zug{a:Option Addr}{len cap:Nat}{d:DataW H}{p:List MemPlace}(h:DataW.Trod enc Tryz.prog W base spare held 22 (.slice a len cap) d p)(hz:∀n∈d.weights Tryz.prog 22,n<=reachBytes):∃ls:List ByteArray,zbs W (.slice a len cap) ls/\∀s∈ls,s.size<=140737488355328:=by
 obtain⟨fuel,hf0⟩:=h
 have hf:DataW.trod enc Tryz.prog W base spare held fuel 22 [.slice a len cap]=some (d,p):=hf0
 rcases open_strings Tryz.underlying22 Tryz.underlying9 Tryz.cellsStr1 hf with⟨hcs,_⟩|⟨ad,len',cap',ss,hcs,_,hl,_,hm,hx,hcell,_⟩
 ·simp at hcs
  obtain⟨rfl,rfl,rfl⟩:=hcs
  exact⟨[],⟨_,_,_,rfl,rfl,Nat.le_refl _,.inl rfl⟩,fun s hs=>by cases hs⟩
 simp at hcs
 obtain⟨rfl,rfl,rfl⟩:=hcs
 have hle:len<=ss.length:=by rw[hm];split<;>omega
 refine⟨ss.take len,⟨_,len,cap,rfl,by rw[List.length_take];omega,hl,?_⟩,fun s hs=> ?_⟩
 ·by_cases h0:len=0
  ·exact .inl h0
  obtain⟨b,off,spot⟩:=ad
  have g0:=hcell 0 (by omega)
  have hspot:spot=none:=by simpa [Addr.add]using World.cell?_spot g0
  subst hspot
  refine .inr ⟨b,off,rfl,World.block_lt_of_cell? W _ g0,fun i hi=> ?_⟩
  rw[List.length_take]at hi
  have g:=hcell i (by omega)
  rw[zdv]at g
  rw[g,List.getElem_take,List.getD_eq_getElem?_getD,List.getElem?_eq_getElem (by omega)]
  rfl
 have hd:d= .slice (strs (ss.take len)) (strs (ss.drop len)):=congrArg Prod.fst hx
 have hw:s.data.toList.length∈d.weights Tryz.prog 22:=by
  rw[hd,DataW.weights,Tryz.underlying22]
  exact List.mem_cons_of_mem _ (List.mem_append_left _ (zo4 (d:= .lit (.string s.data.toList)) (by simp[DataW.weights]) (List.mem_map.2 ⟨s,hs,rfl⟩)))
 have h1:=hz _ hw
 have h2:s.data.toList.length=s.size:=by rw[Array.length_toList];rfl
 have h3:=reachBytes_lt
 omega
end
abbrev qf8:List (String×DataW Unit):=Rows.deskJoinsRow.laid
theorem tabEq:(Rows.laid_internal_strconv_uint64pow10:DataW Unit)=Lib.tabData .u64 Lib.pow10Tab:=by kernel_rfl
theorem starEq: "*"++ "errors.errorString"= "*errors.errorString":=by decide
theorem errRow(u:TypeId)(h:Tryz.prog.typeName? 3 u=some "*errors.errorString"):u=236:=
 typeName_ptr_named (nm:= "errors.errorString") (by rw[starEq];kernel_rfl) (by kernel_rfl) (by decide) u (by rw[starEq];exact h)
theorem ready_of{W:World}(hL:laidMet Tryz.prog qf8 W)(hsh:W.ShapedOpen Tryz.prog):zck W where
 tab:=Lib.tabIs_of_head (g:=5) (t:=240) (e:=204) (n:=20) (by kernel_rfl) (by kernel_rfl) (by kernel_rfl) (by kernel_rfl) (by kernel_rfl) (by kernel_rfl) (tabEq▸hL.tail.tail)
 syn:=by
  obtain⟨a,_,h,_,_,_⟩:=laid_sentinel (g:=1) (ti:=113) (tp:=236) (te:=238) (ts:=9) hL.tail.tail.tail.tail.tail (by kernel_rfl) (by kernel_rfl) Tryz.underlying113 errRow Tryz.underlying236 Tryz.underlying238 rfl rfl Tryz.underlying9 (by kernel_rfl) (by kernel_rfl)
  exact⟨_,_,h⟩
 rng:=by
  obtain⟨a,_,h,_,_,_⟩:=laid_sentinel (g:=2) (ti:=113) (tp:=236) (te:=238) (ts:=9) hL.tail.tail.tail.tail (by kernel_rfl) (by kernel_rfl) Tryz.underlying113 errRow Tryz.underlying236 Tryz.underlying238 rfl rfl Tryz.underlying9 (by kernel_rfl) (by kernel_rfl)
  exact⟨_,_,h⟩
 mx:=cell_of_shapedOpen_int (zero:= #[.int .i64 0]) (t:=3) hsh (of_decide_eq_true (by kernel_rfl)) (by kernel_rfl) rfl (by kernel_rfl) (by kernel_rfl) Tryz.underlying3
end Go.Proofs.YtcbnnfeelhlapadGreatDoor