/-
  Shelf.
-/
import Derived.Shelf.LaysM
import Derived.Shelf.LaysC
import Derived.Shelf.Strconv.Itoa3
import Derived.Shelf.Strconv.AtoiAll
import Derived.Shelf.Strconv.ErrVarAll
import Derived.Shelf.Strings.Split
import Derived.Shelf.Strconv.Clone
import Derived.Shelf.Strings.OnBuilder
import Derived.Shelf.Strings.Cut
import Derived.Shelf.Strings.Trim
import Derived.Shelf.Strings.Search3
import Derived.Test.YtcbnnfeelhlapadGreatDoorProg
namespace Go.Proofs.YtcbnnfeelhlapadGreatDoor
open Go.Shelf
def Tryz.lays156_ren:Go.Shelf.Ren:=⟨fun| 156=>70| 165=>125| 166=>69| 169=>16| 240=>124| 241=>172| 276=>171| 277=>199|n=>n,fun| 31=>22| 9=>9| 3=>3| 4=>4| 0=>0| 20=>20| 72=>44| 76=>114| 70=>41| 37=>42| 75=>113| 127=>83| 164=>201| 5=>5| 80=>52|n=>n,fun|n=>n⟩
theorem Tryz.lays156:Go.Proofs.Lays.n156 Tryz.prog Tryz.lays156_ren:=by repeat' (first|kernel_rfl|(intro w;kernel_rfl)|(intro w;rfl)|constructor)
theorem Tryz.Builder_Extra_156:Builder.Extra Tryz.prog Tryz.lays156_ren:={
 sizeBuilder:=by kernel_rfl
 liesBuilder:=by kernel_rfl
 t5:=Tryz.underlying5
 a5:=Tryz.isAgg5
 z5:=Tryz.sizeOf5
 v5:=Tryz.zeroValue5
 infoByte:=by kernel_rfl
 cellsByte:=by kernel_rfl
 sizeByte:=by kernel_rfl
 neB5:=by decide}
open Go.RowKit in
theorem Tryz.strings_Join(bk o c:Nat)(xs:List ByteArray)(sep:ByteArray)(w:World)(hcells:∀(j:Nat) x,xs[j]? =some x->w.cell? ⟨bk,o+j,none⟩=some (.string x))(hbk:bk<w.heap.size)(hN:xs.length<=140737488355328)(hcap:xs.length<=c)(hlen:(Lib.join (xs.map (·.data.toList)) sep.data.toList).length<=140737488355328):
 Calls Tryz.prog 70 #[.slice (some ⟨bk,o,none⟩) xs.length c,.string sep] w fun e w'=>e= .returned (.string ⟨(Lib.join (xs.map (·.data.toList)) sep.data.toList).toArray⟩)/\Below w.heap.size w w':=Any.strings_Join Tryz.lays156 Tryz.Builder_Extra_156 bk o c xs sep w hcells hbk hN hcap hlen
def Tryz.lays161_ren:Go.Shelf.Ren:=⟨fun| 161=>50| 231=>72| 227=>73| 233=>74| 235=>75| 228=>126| 197=>127| 151=>128| 260=>173| 152=>174| 137=>200| 119=>201| 224=>109| 225=>108| 217=>107| 266=>151|n=>n,fun| 9=>9| 4=>4| 3=>3| 5=>5| 117=>137| 116=>136| 0=>0| 124=>140| 105=>164| 21=>21| 119=>230| 46=>37| 139=>233| 138=>232|n=>n,fun| 3=>3| 4=>4|n=>n⟩
theorem Tryz.lays161:Go.Proofs.Lays.n161 Tryz.prog Tryz.lays161_ren:=by repeat' (first|kernel_rfl|(intro w;kernel_rfl)|(intro w;rfl)|constructor)
open Go.RowKit in
theorem Tryz.strings_TrimLeft_one(s:ByteArray)(c:UInt8)(hc:c.toNat<128)(w:World):
 Calls Tryz.prog 50 #[.string s,.string ⟨#[c]⟩] w fun e w'=>e= .returned (.string ⟨(Lib.trimLeftB s.data.toList c).toArray⟩)/\w'=w:=Any.strings_TrimLeft_one Tryz.lays161 s c hc w
def Tryz.laysM171_ren:Go.Shelf.Ren:=⟨fun| 171=>53| 243=>79| 246=>134| 283=>178| 284=>179| 285=>180| 286=>181| 129=>205| 317=>204| 318=>206| 319=>207| 320=>208| 337=>226| 338=>227|n=>n,fun| 3=>3| 9=>9| 2=>2| 4=>4| 171=>211| 0=>0| 53=>204| 37=>42| 5=>5| 173=>214| 212=>240| 51=>192| 20=>20| 213=>241| 46=>37| 232=>254| 233=>255|n=>n,fun| 17=>5| 18=>6| 19=>7|n=>n⟩
theorem Tryz.laysM171:Go.Proofs.LaysM.n171 Tryz.prog Tryz.laysM171_ren:=by repeat' (first|kernel_rfl|(intro w;kernel_rfl)|(intro w;rfl)|constructor)
open Go.RowKit Go.Sort Go.Lib in
theorem Tryz.strconv_Itoa(n:Int)(h0: -9223372036854775808<=n)(h1:n<=9223372036854775807)(w:World)(htab:Lib.TabIs Tryz.prog w "internal/strconv.uint64pow10" .u64 Lib.pow10Tab):
 Calls Tryz.prog 53 #[.int .i64 n] w fun e w'=>e= .returned (.string ⟨(Lib.itoa n).toArray⟩)/\∃k os,w'=grow (w.drewN k) os:=Any.strconv_Itoa Tryz.laysM171 n h0 h1 w htab
def Tryz.laysM316_ren:Go.Shelf.Ren:=⟨fun| 316=>176|n=>n,fun| 9=>9| 3=>3| 4=>4| 37=>42| 0=>0| 127=>83| 5=>5|n=>n,fun|n=>n⟩
theorem Tryz.laysM316:Go.Proofs.LaysM.n316 Tryz.prog Tryz.laysM316_ren:=by repeat' (first|kernel_rfl|(intro w;kernel_rfl)|(intro w;rfl)|constructor)
open Go.RowKit in
theorem Tryz.stringslite_Clone(s:ByteArray)(w:World)(hlim:s.size<=281474976710656):
 Calls Tryz.prog 176 #[.string s] w fun e w'=>e= .returned (.string s)/\Below w.heap.size w w':=Any.stringslite_Clone Tryz.laysM316 s w hlim
def Tryz.laysC172_ren:Go.Shelf.Ren:=⟨fun| 172=>52| 244=>77| 245=>78| 247=>129| 279=>130| 280=>131| 281=>132| 282=>133| 287=>175| 316=>176| 171=>53| 205=>177| 321=>202| 322=>203| 243=>79| 246=>134| 283=>178| 284=>179| 285=>180| 286=>181| 129=>205| 317=>204| 318=>206| 319=>207| 320=>208| 337=>226| 338=>227|n=>n,fun| 9=>9| 3=>3| 75=>113| 76=>114| 4=>4| 5=>5| 167=>167| 37=>42| 0=>0| 85=>168| 2=>2| 168=>170| 53=>204| 175=>205| 46=>37| 210=>209| 127=>83| 145=>238| 143=>236| 21=>21| 171=>211| 173=>214| 212=>240| 51=>192| 20=>20| 213=>241| 232=>254| 233=>255| 80=>52|n=>n,fun| 15=>1| 16=>2| 17=>5| 18=>6| 19=>7|n=>n⟩
theorem Tryz.laysC172:Go.Proofs.LaysC.n172 Tryz.prog Tryz.laysC172_ren:=by repeat' (first|kernel_rfl|(intro w;kernel_rfl)|(intro w;rfl)|constructor)
open Go.RowKit in
theorem Tryz.strconv_Atoi_ok(s:ByteArray)(hmax:s.size<=9223372036854775806)(v:Int)(h:Lib.atoiAll s.data.toList= .ok v)(w:World):
 Calls Tryz.prog 52 #[.string s] w fun e w'=>e= .returned (.tuple #[.int .i64 v,.nilIface])/\(w'=w\/∃t,w'=Lib.bytesWorld w 5 t):=Any.strconv_Atoi_ok Tryz.laysC172 s hmax v h w
open Go.RowKit in
theorem Tryz.strconv_Atoi_syntax_var(s:ByteArray)(hlim:s.size<=281474976710656)(h:Lib.atoiAll s.data.toList= .«syntax»)(tp:TypeId)(p:Value)(w:World)(hvar:w.var? Tryz.prog "strconv.ErrSyntax"=some #[.iface tp p]):
 Calls Tryz.prog 52 #[.string s] w fun e w'=>∃N,e= .returned (.tuple #[.int .i64 0,.iface 170 (.pointer (some ⟨N,0,none⟩))])/\w.heap.size<=N/\w'.heap[N]? =some (.cells #[.string ⟨#[65,116,111,105]⟩,.string s,.iface tp p] 209 (0,0))/\Below w.heap.size w w':=Any.strconv_Atoi_syntax_var Tryz.laysC172 s hlim h tp p w hvar
open Go.RowKit in
theorem Tryz.strconv_Atoi_range_var(s:ByteArray)(hlim:s.size<=281474976710656)(h:Lib.atoiAll s.data.toList= .range)(tp:TypeId)(p:Value)(w:World)(hvar:w.var? Tryz.prog "strconv.ErrRange"=some #[.iface tp p]):
 Calls Tryz.prog 52 #[.string s] w fun e w'=>∃N,e= .returned (.tuple #[.int .i64 (Lib.atoiSat s.data.toList),.iface 170 (.pointer (some ⟨N,0,none⟩))])/\w.heap.size<=N/\w'.heap[N]? =some (.cells #[.string ⟨#[65,116,111,105]⟩,.string s,.iface tp p] 209 (0,0))/\Below w.heap.size w w':=Any.strconv_Atoi_range_var Tryz.laysC172 s hlim h tp p w hvar
def Tryz.lays144_ren:Go.Shelf.Ren:=⟨fun| 144=>23| 143=>45| 219=>63| 217=>107| 225=>108| 224=>109| 267=>110| 266=>151| 314=>152|n=>n,fun| 9=>9| 4=>4| 3=>3| 5=>5| 46=>37| 146=>193| 51=>192|n=>n,fun| 1=>0|n=>n⟩
theorem Tryz.lays144:Go.Proofs.Lays.n144 Tryz.prog Tryz.lays144_ren:=by repeat' (first|kernel_rfl|(intro w;kernel_rfl)|(intro w;rfl)|constructor)
open Go.RowKit Go.Lib in
theorem Tryz.strings_Contains_one(s:ByteArray)(c:UInt8)(w:World):
 Calls Tryz.prog 23 #[.string s,.string ⟨#[c]⟩] w fun e w'=>e= .returned (.bool (decide (0<=Lib.indexByte s.data.toList c)))/\w'=w:=Any.strings_Contains_one Tryz.lays144 s c w
def Tryz.lays145_ren:Go.Shelf.Ren:=⟨fun| 145=>51| 220=>76| 219=>63| 217=>107| 225=>108| 224=>109| 267=>110| 266=>151| 314=>152|n=>n,fun| 9=>9| 4=>4| 59=>84| 3=>3| 5=>5| 46=>37| 146=>193| 51=>192|n=>n,fun| 1=>0|n=>n⟩
theorem Tryz.lays145:Go.Proofs.Lays.n145 Tryz.prog Tryz.lays145_ren:=by repeat' (first|kernel_rfl|(intro w;kernel_rfl)|(intro w;rfl)|constructor)
open Go.RowKit Go.Lib in
theorem Tryz.strings_Cut(s sep:ByteArray)(m:Int)(w:World)(hs:s.size<4294967281)(hm:w.cell? ⟨0,0,none⟩=some (.int .i64 m)):
 Calls Tryz.prog 51 #[.string s,.string sep] w fun e w'=>e= .returned (.tuple #[.string ⟨(Lib.cut s.data.toList sep.data.toList).1.toArray⟩,.string ⟨(Lib.cut s.data.toList sep.data.toList).2.1.toArray⟩,.bool (Lib.cut s.data.toList sep.data.toList).2.2])/\∃n,w'=w.drewN n:=Any.strings_Cut Tryz.lays145 s sep m w hs hm
def Tryz.lays147_ren:Go.Shelf.Ren:=⟨fun| 147=>46| 221=>64| 268=>111| 138=>112| 143=>45| 195=>153| 197=>127| 218=>154| 219=>63| 260=>173| 217=>107| 225=>108| 224=>109| 267=>110| 266=>151| 314=>152|n=>n,fun| 9=>9| 3=>3| 31=>22| 4=>4| 0=>0| 105=>164| 21=>21| 5=>5| 46=>37| 119=>230| 139=>233| 138=>232| 146=>193| 51=>192|n=>n,fun| 1=>0| 3=>3| 4=>4|n=>n⟩
theorem Tryz.lays147:Go.Proofs.Lays.n147 Tryz.prog Tryz.lays147_ren:=by repeat' (first|kernel_rfl|(intro w;kernel_rfl)|(intro w;rfl)|constructor)
open Go.RowKit Go.Lib in
theorem Tryz.strings_SplitN(s sep:ByteArray)(n:Nat)(m:Int)(w:World)(hs:s.size<4294967281)(hm:w.cell? ⟨0,0,none⟩=some (.int .i64 m))(h1:1<=sep.size)(hn:1<=n)(hn63:n<=9223372036854775807):
 Calls Tryz.prog 46 #[.string s,.string sep,.int .i64 n] w fun e w'=>
  e= .returned (.slice (some ⟨w.heap.size,0,none⟩) (Lib.splitB sep 0 (min n (s.size+1)-1) s).length (min n (s.size+1)))/\w'=w.alloc (.cells (Lib.cellsOf (Lib.splitB sep 0 (min n (s.size+1)-1) s) (min n (s.size+1))) 9):=Any.strings_SplitN Tryz.lays147 (by kernel_rfl) s sep n m w hs hm h1 hn hn63
end Go.Proofs.YtcbnnfeelhlapadGreatDoor