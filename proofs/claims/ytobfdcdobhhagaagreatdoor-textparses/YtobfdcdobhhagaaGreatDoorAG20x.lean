/-
   ·  · 
-/
import Derived.Shelf.LaysM
import Derived.Shelf.Strconv.Itoa1
import Derived.Shelf.Strconv.Itoa2
import Derived.Shelf.Strconv.Itoa3
import Derived.Shelf.Strings.Cut
import Derived.Shelf.Strings.Shaped
import Derived.Shelf.Strings.Search2
import Derived.Shelf.Small.Wraps
import Derived.Shelf.Strings.SlTrimAscii
import Derived.Shelf.Strings.BuilderK
import Derived.Shelf.Strings.Search3
import Derived.Test.YtobfdcdobhhagaaGreatDoorProg
import Derived.Shelf.Strings.Replace
import Derived.Shelf.Strings.SplitShaped
import Derived.Test.YtobfdcdobhhagaaGreatDoorAG17x
import Derived.Test.YtobfdcdobhhagaaGreatDoorAG16x
import Derived.Laws.Pointers
namespace Go.Proofs
open Go.Shelf
def Tryz.lays161_ren : Go.Shelf.Ren := ⟨fun | 161 => 150 | 231 => 177 | 227 => 178 | 233 => 179 | 235 => 180 | 228 => 205 | 197 => 163 | 151 => 206 | 260 => 193 | 152 => 216 | 137 => 181 | 119 => 218 | 224 => 188 | 225 => 187 | 217 => 186 | 266 => 210 | n => n, fun | 9 => 9 | 4 => 4 | 3 => 3 | 5 => 5 | 117 => 184 | 116 => 183 | 0 => 0 | 124 => 187 | 105 => 171 | 21 => 21 | 119 => 204 | 46 => 116 | 139 => 207 | 138 => 206 | n => n, fun | 3 => 4 | 4 => 5 | n => n⟩
theorem Tryz.lays161 : Go.Proofs.Lays.n161 Tryz.prog Tryz.lays161_ren := {
 mixed := by kernel_rfl
 f119 := Tryz.func218.trans (congrArg some (by kernel_rfl))
 f137 := Tryz.func181.trans (congrArg some (by kernel_rfl))
 f151 := Tryz.func206.trans (congrArg some (by kernel_rfl))
 f152 := Tryz.func216.trans (congrArg some (by kernel_rfl))
 f161 := Tryz.func150.trans (congrArg some (by kernel_rfl))
 f197 := Tryz.func163.trans (congrArg some (by kernel_rfl))
 f217 := Tryz.func186.trans (congrArg some (by kernel_rfl))
 f224 := Tryz.func188.trans (congrArg some (by kernel_rfl))
 f225 := Tryz.func187.trans (congrArg some (by kernel_rfl))
 f227 := Tryz.func178.trans (congrArg some (by kernel_rfl))
 f228 := Tryz.func205.trans (congrArg some (by kernel_rfl))
 f231 := Tryz.func177.trans (congrArg some (by kernel_rfl))
 f233 := Tryz.func179.trans (congrArg some (by kernel_rfl))
 f235 := Tryz.func180.trans (congrArg some (by kernel_rfl))
 f260 := Tryz.func193.trans (congrArg some (by kernel_rfl))
 f266 := Tryz.func210.trans (congrArg some (by kernel_rfl))
 t0 := Tryz.underlying0
 a0 := Tryz.isAgg0
 z0 := Tryz.sizeOf0
 v0 := Tryz.zeroValue0
 t3 := Tryz.underlying3
 a3 := Tryz.isAgg3
 z3 := Tryz.sizeOf3
 v3 := Tryz.zeroValue3
 t4 := Tryz.underlying4
 a4 := Tryz.isAgg4
 z4 := Tryz.sizeOf4
 v4 := Tryz.zeroValue4
 t5 := Tryz.underlying5
 a5 := Tryz.isAgg5
 z5 := Tryz.sizeOf5
 v5 := Tryz.zeroValue5
 t9 := Tryz.underlying9
 a9 := Tryz.isAgg9
 z9 := Tryz.sizeOf9
 v9 := Tryz.zeroValue9
 t21 := Tryz.underlying21
 a21 := Tryz.isAgg21
 z21 := Tryz.sizeOf21
 v21 := Tryz.zeroValue21
 t46 := Tryz.underlying116
 a46 := Tryz.isAgg116
 z46 := Tryz.sizeOf116
 v46 := Tryz.zeroValue116
 t105 := Tryz.underlying171
 a105 := Tryz.isAgg171
 z105 := Tryz.sizeOf171
 v105 := Tryz.zeroValue171
 t116 := Tryz.underlying183
 a116 := Tryz.isAgg183
 z116 := Tryz.sizeOf183
 t117 := Tryz.underlying184
 a117 := Tryz.isAgg184
 z117 := Tryz.sizeOf184
 v117 := Tryz.zeroValue184
 t119 := Tryz.underlying204
 a119 := Tryz.isAgg204
 z119 := Tryz.sizeOf204
 t124 := Tryz.underlying187
 a124 := Tryz.isAgg187
 z124 := Tryz.sizeOf187
 v124 := Tryz.zeroValue187
 t138 := Tryz.underlying206
 a138 := Tryz.isAgg206
 z138 := Tryz.sizeOf206
 v138 := Tryz.zeroValue206
 t139 := Tryz.underlying207
 a139 := Tryz.isAgg207
 z139 := Tryz.sizeOf207
 v139 := Tryz.zeroValue207
 g3 := by kernel_rfl
 g4 := by kernel_rfl }
def Tryz.lays137_ren : Go.Shelf.Ren := ⟨fun | 137 => 181 | 217 => 186 | 266 => 210 | n => n, fun | 9 => 9 | 5 => 5 | 3 => 3 | n => n, fun | n => n⟩
theorem Tryz.lays137 : Go.Proofs.Lays.n137 Tryz.prog Tryz.lays137_ren := {
 mixed := by kernel_rfl
 f137 := Tryz.func181.trans (congrArg some (by kernel_rfl))
 f217 := Tryz.func186.trans (congrArg some (by kernel_rfl))
 f266 := Tryz.func210.trans (congrArg some (by kernel_rfl))
 t3 := Tryz.underlying3
 a3 := Tryz.isAgg3
 z3 := Tryz.sizeOf3
 v3 := Tryz.zeroValue3
 t5 := Tryz.underlying5
 a5 := Tryz.isAgg5
 z5 := Tryz.sizeOf5
 v5 := Tryz.zeroValue5
 t9 := Tryz.underlying9
 a9 := Tryz.isAgg9
 z9 := Tryz.sizeOf9
 v9 := Tryz.zeroValue9 }
def Tryz.lays144_ren : Go.Shelf.Ren := ⟨fun | 144 => 118 | 143 => 125 | 219 => 160 | 217 => 186 | 225 => 187 | 224 => 188 | 267 => 189 | 266 => 210 | 314 => 211 | n => n, fun | 9 => 9 | 4 => 4 | 3 => 3 | 5 => 5 | 46 => 116 | 146 => 198 | 51 => 113 | n => n, fun | 1 => 0 | n => n⟩
theorem Tryz.lays144 : Go.Proofs.Lays.n144 Tryz.prog Tryz.lays144_ren := {
 mixed := by kernel_rfl
 f143 := Tryz.func125.trans (congrArg some (by kernel_rfl))
 f144 := Tryz.func118.trans (congrArg some (by kernel_rfl))
 f217 := Tryz.func186.trans (congrArg some (by kernel_rfl))
 f219 := Tryz.func160.trans (congrArg some (by kernel_rfl))
 f224 := Tryz.func188.trans (congrArg some (by kernel_rfl))
 f225 := Tryz.func187.trans (congrArg some (by kernel_rfl))
 f266 := Tryz.func210.trans (congrArg some (by kernel_rfl))
 f267 := Tryz.func189.trans (congrArg some (by kernel_rfl))
 f314 := Tryz.func211.trans (congrArg some (by kernel_rfl))
 t3 := Tryz.underlying3
 a3 := Tryz.isAgg3
 z3 := Tryz.sizeOf3
 v3 := Tryz.zeroValue3
 t4 := Tryz.underlying4
 a4 := Tryz.isAgg4
 z4 := Tryz.sizeOf4
 v4 := Tryz.zeroValue4
 t5 := Tryz.underlying5
 a5 := Tryz.isAgg5
 z5 := Tryz.sizeOf5
 v5 := Tryz.zeroValue5
 t9 := Tryz.underlying9
 a9 := Tryz.isAgg9
 z9 := Tryz.sizeOf9
 v9 := Tryz.zeroValue9
 t46 := Tryz.underlying116
 a46 := Tryz.isAgg116
 z46 := Tryz.sizeOf116
 v46 := Tryz.zeroValue116
 t51 := Tryz.underlying113
 a51 := Tryz.isAgg113
 z51 := Tryz.sizeOf113
 v51 := Tryz.zeroValue113
 t146 := Tryz.underlying198
 a146 := Tryz.isAgg198
 z146 := Tryz.sizeOf198
 v146 := Tryz.zeroValue198
 g1 := by kernel_rfl }
def Tryz.lays169_ren : Go.Shelf.Ren := ⟨fun | 169 => 32 | n => n, fun | 70 => 66 | 9 => 9 | 0 => 0 | 72 => 68 | 37 => 52 | 127 => 99 | 3 => 3 | 5 => 5 | n => n, fun | n => n⟩
theorem Tryz.lays169 : Go.Proofs.Lays.n169 Tryz.prog Tryz.lays169_ren := {
 mixed := by kernel_rfl
 f169 := Tryz.func32.trans (congrArg some (by kernel_rfl))
 t0 := Tryz.underlying0
 a0 := Tryz.isAgg0
 z0 := Tryz.sizeOf0
 v0 := Tryz.zeroValue0
 t3 := Tryz.underlying3
 a3 := Tryz.isAgg3
 z3 := Tryz.sizeOf3
 v3 := Tryz.zeroValue3
 t9 := Tryz.underlying9
 a9 := Tryz.isAgg9
 z9 := Tryz.sizeOf9
 v9 := Tryz.zeroValue9
 t37 := Tryz.underlying52
 a37 := Tryz.isAgg52
 z37 := Tryz.sizeOf52
 v37 := Tryz.zeroValue52
 t70 := Tryz.underlying66
 a70 := Tryz.isAgg66
 z70 := Tryz.sizeOf66
 v70 := Tryz.zeroValue66
 t72 := Tryz.underlying68
 a72 := Tryz.isAgg68
 z72 := Tryz.sizeOf68
 v72 := Tryz.zeroValue68
 t127 := Tryz.underlying99
 a127 := Tryz.isAgg99
 z127 := Tryz.sizeOf99
 v127 := Tryz.zeroValue99 }
theorem Tryz.Builder_Extra_169 : Builder.Extra Tryz.prog Tryz.lays169_ren := {
 sizeBuilder := by kernel_rfl
 liesBuilder := by kernel_rfl
 t5 := Tryz.underlying5
 a5 := Tryz.isAgg5
 z5 := Tryz.sizeOf5
 v5 := Tryz.zeroValue5
 infoByte := by kernel_rfl
 cellsByte := by kernel_rfl
 sizeByte := by kernel_rfl
 neB5 := by decide }
def Tryz.laysM171_ren : Go.Shelf.Ren := ⟨fun | 171 => 57 | 243 => 105 | 246 => 139 | 283 => 165 | 284 => 166 | 285 => 167 | 286 => 168 | 129 => 195 | 317 => 194 | 318 => 196 | 319 => 197 | 320 => 198 | 337 => 213 | 338 => 214 | n => n, fun | 3 => 3 | 9 => 9 | 2 => 2 | 4 => 4 | 171 => 174 | 0 => 0 | 53 => 82 | 37 => 52 | 5 => 5 | 173 => 177 | 212 => 194 | 51 => 113 | 20 => 20 | 213 => 195 | 46 => 116 | 232 => 210 | 233 => 211 | n => n, fun | 17 => 1 | 18 => 6 | 19 => 7 | n => n⟩
theorem Tryz.laysM171 : Go.Proofs.LaysM.n171 Tryz.prog Tryz.laysM171_ren := {
 mixed := by kernel_rfl
 f129 := Tryz.func195.trans (congrArg some (by kernel_rfl))
 f171 := Tryz.func57.trans (congrArg some (by kernel_rfl))
 f243 := Tryz.func105.trans (congrArg some (by kernel_rfl))
 f246 := Tryz.func139.trans (congrArg some (by kernel_rfl))
 f283 := Tryz.func165.trans (congrArg some (by kernel_rfl))
 f284 := Tryz.func166.trans (congrArg some (by kernel_rfl))
 f285 := Tryz.func167.trans (congrArg some (by kernel_rfl))
 f286 := Tryz.func168.trans (congrArg some (by kernel_rfl))
 f317 := Tryz.func194.trans (congrArg some (by kernel_rfl))
 f318 := Tryz.func196.trans (congrArg some (by kernel_rfl))
 f319 := Tryz.func197.trans (congrArg some (by kernel_rfl))
 f320 := Tryz.func198.trans (congrArg some (by kernel_rfl))
 f337 := Tryz.func213.trans (congrArg some (by kernel_rfl))
 f338 := Tryz.func214.trans (congrArg some (by kernel_rfl))
 t0 := Tryz.underlying0
 a0 := Tryz.isAgg0
 z0 := Tryz.sizeOf0
 v0 := Tryz.zeroValue0
 t2 := Tryz.underlying2
 a2 := Tryz.isAgg2
 z2 := Tryz.sizeOf2
 v2 := Tryz.zeroValue2
 t3 := Tryz.underlying3
 a3 := Tryz.isAgg3
 z3 := Tryz.sizeOf3
 v3 := Tryz.zeroValue3
 t4 := Tryz.underlying4
 a4 := Tryz.isAgg4
 z4 := Tryz.sizeOf4
 v4 := Tryz.zeroValue4
 t5 := Tryz.underlying5
 a5 := Tryz.isAgg5
 z5 := Tryz.sizeOf5
 v5 := Tryz.zeroValue5
 t9 := Tryz.underlying9
 a9 := Tryz.isAgg9
 z9 := Tryz.sizeOf9
 v9 := Tryz.zeroValue9
 t20 := Tryz.underlying20
 a20 := Tryz.isAgg20
 z20 := Tryz.sizeOf20
 v20 := Tryz.zeroValue20
 t37 := Tryz.underlying52
 a37 := Tryz.isAgg52
 z37 := Tryz.sizeOf52
 v37 := Tryz.zeroValue52
 t46 := Tryz.underlying116
 a46 := Tryz.isAgg116
 z46 := Tryz.sizeOf116
 v46 := Tryz.zeroValue116
 t51 := Tryz.underlying113
 a51 := Tryz.isAgg113
 z51 := Tryz.sizeOf113
 v51 := Tryz.zeroValue113
 t53 := Tryz.underlying82
 a53 := Tryz.isAgg82
 z53 := Tryz.sizeOf82
 v53 := Tryz.zeroValue82
 t171 := Tryz.underlying174
 a171 := Tryz.isAgg174
 z171 := Tryz.sizeOf174
 v171 := Tryz.zeroValue174
 t173 := Tryz.underlying177
 a173 := Tryz.isAgg177
 z173 := Tryz.sizeOf177
 v173 := Tryz.zeroValue177
 t212 := Tryz.underlying194
 a212 := Tryz.isAgg194
 z212 := Tryz.sizeOf194
 v212 := Tryz.zeroValue194
 t213 := Tryz.underlying195
 a213 := Tryz.isAgg195
 z213 := Tryz.sizeOf195
 t232 := Tryz.underlying210
 a232 := Tryz.isAgg210
 z232 := Tryz.sizeOf210
 v232 := Tryz.zeroValue210
 t233 := Tryz.underlying211
 a233 := Tryz.isAgg211
 z233 := Tryz.sizeOf211
 v233 := Tryz.zeroValue211
 g17 := by kernel_rfl
 g18 := by kernel_rfl
 g19 := by kernel_rfl
 i0 := by kernel_rfl
 i2 := by kernel_rfl
 i3 := by kernel_rfl
 i4 := by kernel_rfl
 i5 := by kernel_rfl
 i9 := by kernel_rfl
 i20 := by kernel_rfl
 i37 := by kernel_rfl
 i46 := by kernel_rfl
 i51 := by kernel_rfl
 i53 := by kernel_rfl
 i171 := by kernel_rfl
 i173 := by kernel_rfl
 i212 := by kernel_rfl
 i232 := by kernel_rfl
 i233 := by kernel_rfl
 m17 := by kernel_rfl
 m18 := by kernel_rfl
 m19 := by kernel_rfl }
end Go.Proofs
namespace Go.Proofs
open Go.Shelf
def Tryz.laysM155_ren : Go.Shelf.Ren := ⟨fun | 155 => 90 | 154 => 128 | 138 => 161 | 165 => 162 | 143 => 125 | 166 => 54 | 197 => 163 | 169 => 32 | 195 => 190 | 218 => 191 | 240 => 100 | 241 => 192 | 219 => 160 | 260 => 193 | 276 => 136 | 277 => 212 | 217 => 186 | 225 => 187 | 224 => 188 | 267 => 189 | 266 => 210 | 314 => 211 | n => n, fun | 9 => 9 | 3 => 3 | 4 => 4 | 72 => 68 | 0 => 0 | 76 => 94 | 105 => 171 | 21 => 21 | 5 => 5 | 70 => 66 | 20 => 20 | 37 => 52 | 75 => 93 | 127 => 99 | 164 => 147 | 46 => 116 | 119 => 204 | 139 => 207 | 138 => 206 | 146 => 198 | 51 => 113 | 80 => 70 | n => n, fun | 1 => 0 | 3 => 4 | 4 => 5 | n => n⟩
theorem Tryz.laysM155 : Go.Proofs.LaysM.n155 Tryz.prog Tryz.laysM155_ren := {
 mixed := by kernel_rfl
 f138 := Tryz.func161.trans (congrArg some (by kernel_rfl))
 f143 := Tryz.func125.trans (congrArg some (by kernel_rfl))
 f154 := Tryz.func128.trans (congrArg some (by kernel_rfl))
 f155 := Tryz.func90.trans (congrArg some (by kernel_rfl))
 f165 := Tryz.func162.trans (congrArg some (by kernel_rfl))
 f166 := Tryz.func54.trans (congrArg some (by kernel_rfl))
 f169 := Tryz.func32.trans (congrArg some (by kernel_rfl))
 f195 := Tryz.func190.trans (congrArg some (by kernel_rfl))
 f197 := Tryz.func163.trans (congrArg some (by kernel_rfl))
 f217 := Tryz.func186.trans (congrArg some (by kernel_rfl))
 f218 := Tryz.func191.trans (congrArg some (by kernel_rfl))
 f219 := Tryz.func160.trans (congrArg some (by kernel_rfl))
 f224 := Tryz.func188.trans (congrArg some (by kernel_rfl))
 f225 := Tryz.func187.trans (congrArg some (by kernel_rfl))
 f240 := Tryz.func100.trans (congrArg some (by kernel_rfl))
 f241 := Tryz.func192.trans (congrArg some (by kernel_rfl))
 f260 := Tryz.func193.trans (congrArg some (by kernel_rfl))
 f266 := Tryz.func210.trans (congrArg some (by kernel_rfl))
 f267 := Tryz.func189.trans (congrArg some (by kernel_rfl))
 f276 := Tryz.func136.trans (congrArg some (by kernel_rfl))
 f277 := Tryz.func212.trans (congrArg some (by kernel_rfl))
 f314 := Tryz.func211.trans (congrArg some (by kernel_rfl))
 t0 := Tryz.underlying0
 a0 := Tryz.isAgg0
 z0 := Tryz.sizeOf0
 v0 := Tryz.zeroValue0
 t3 := Tryz.underlying3
 a3 := Tryz.isAgg3
 z3 := Tryz.sizeOf3
 v3 := Tryz.zeroValue3
 t4 := Tryz.underlying4
 a4 := Tryz.isAgg4
 z4 := Tryz.sizeOf4
 v4 := Tryz.zeroValue4
 t5 := Tryz.underlying5
 a5 := Tryz.isAgg5
 z5 := Tryz.sizeOf5
 v5 := Tryz.zeroValue5
 t9 := Tryz.underlying9
 a9 := Tryz.isAgg9
 z9 := Tryz.sizeOf9
 v9 := Tryz.zeroValue9
 t20 := Tryz.underlying20
 a20 := Tryz.isAgg20
 z20 := Tryz.sizeOf20
 v20 := Tryz.zeroValue20
 t21 := Tryz.underlying21
 a21 := Tryz.isAgg21
 z21 := Tryz.sizeOf21
 v21 := Tryz.zeroValue21
 t37 := Tryz.underlying52
 a37 := Tryz.isAgg52
 z37 := Tryz.sizeOf52
 v37 := Tryz.zeroValue52
 t46 := Tryz.underlying116
 a46 := Tryz.isAgg116
 z46 := Tryz.sizeOf116
 v46 := Tryz.zeroValue116
 t51 := Tryz.underlying113
 a51 := Tryz.isAgg113
 z51 := Tryz.sizeOf113
 v51 := Tryz.zeroValue113
 t70 := Tryz.underlying66
 a70 := Tryz.isAgg66
 z70 := Tryz.sizeOf66
 v70 := Tryz.zeroValue66
 t72 := Tryz.underlying68
 a72 := Tryz.isAgg68
 z72 := Tryz.sizeOf68
 v72 := Tryz.zeroValue68
 t75 := Tryz.underlying93
 a75 := Tryz.isAgg93
 z75 := Tryz.sizeOf93
 v75 := Tryz.zeroValue93
 t76 := Tryz.underlying94
 a76 := Tryz.isAgg94
 z76 := Tryz.sizeOf94
 v76 := Tryz.zeroValue94
 t105 := Tryz.underlying171
 a105 := Tryz.isAgg171
 z105 := Tryz.sizeOf171
 v105 := Tryz.zeroValue171
 t119 := Tryz.underlying204
 a119 := Tryz.isAgg204
 z119 := Tryz.sizeOf204
 t127 := Tryz.underlying99
 a127 := Tryz.isAgg99
 z127 := Tryz.sizeOf99
 v127 := Tryz.zeroValue99
 t138 := Tryz.underlying206
 a138 := Tryz.isAgg206
 z138 := Tryz.sizeOf206
 v138 := Tryz.zeroValue206
 t139 := Tryz.underlying207
 a139 := Tryz.isAgg207
 z139 := Tryz.sizeOf207
 v139 := Tryz.zeroValue207
 t146 := Tryz.underlying198
 a146 := Tryz.isAgg198
 z146 := Tryz.sizeOf198
 v146 := Tryz.zeroValue198
 t164 := Tryz.underlying147
 a164 := Tryz.isAgg147
 z164 := Tryz.sizeOf147
 v164 := Tryz.zeroValue147
 g1 := by kernel_rfl
 g3 := by kernel_rfl
 g4 := by kernel_rfl
 t80 := Tryz.underlying70
 a80 := Tryz.isAgg70
 z80 := Tryz.sizeOf70
 v80 := Tryz.zeroValue70
 i0 := by kernel_rfl
 i3 := by kernel_rfl
 i4 := by kernel_rfl
 i5 := by kernel_rfl
 i9 := by kernel_rfl
 i20 := by kernel_rfl
 i21 := by kernel_rfl
 i37 := by kernel_rfl
 i46 := by kernel_rfl
 i51 := by kernel_rfl
 i70 := by kernel_rfl
 i72 := by kernel_rfl
 i75 := by kernel_rfl
 i76 := by kernel_rfl
 i80 := by kernel_rfl
 i105 := by kernel_rfl
 i127 := by kernel_rfl
 i138 := by kernel_rfl
 i139 := by kernel_rfl
 i146 := by kernel_rfl
 i164 := by kernel_rfl
 m1 := by kernel_rfl
 s1_3 := fun w h => Go.Proofs.cell_of_shapedOpen_int (zero := #[.int .i64 0]) (t := 3) h (of_decide_eq_true (by kernel_rfl)) (by kernel_rfl) rfl (by kernel_rfl) (by kernel_rfl) Tryz.underlying3
 m3 := by kernel_rfl
 m4 := by kernel_rfl }
theorem Tryz.Builder_Extra_M155 : Builder.Extra Tryz.prog Tryz.laysM155_ren := {
 sizeBuilder := by kernel_rfl
 liesBuilder := by kernel_rfl
 t5 := Tryz.underlying5
 a5 := Tryz.isAgg5
 z5 := Tryz.sizeOf5
 v5 := Tryz.zeroValue5
 infoByte := by kernel_rfl
 cellsByte := by kernel_rfl
 sizeByte := by kernel_rfl
 neB5 := by decide }
end Go.Proofs
namespace Go.Proofs.YtobfdcdobhhagaaGreatDoor
set_option maxHeartbeats 1000000
set_option maxRecDepth 8000
open Go.RowKit Math
set_option linter.unusedVariables false
set_option linter.unusedSimpArgs false
structure Bs (b B : Nat) (W : World) (v : Value) (l : List Nat) : Prop where
 blk : Blk W b 68 [.pointer none, v] ∨ Blk W b 68 [.pointer (some ⟨b, 0, none⟩), v]
 own : Own W B v l
 ne : v.ownBlock ≠ some b
 le : B <= b
structure Bw (b B : Nat) (W w' : World) (v v' : Value) (l' : List Nat) : Prop where
 bs : Bs b B w' v' l'
 os : w'.os = W.os
 tape : w'.tape = W.tape
 output : w'.output = W.output
 size : W.heap.size <= w'.heap.size
 keep : ∀ x, x < W.heap.size -> x ≠ b -> v.ownBlock ≠ some x -> w'.heap[x]? = W.heap[x]?
 ob : ∀ x, v'.ownBlock = some x -> v.ownBlock = some x ∨ W.heap.size <= x
theorem Bs.lt {b B : Nat} {W : World} {v : Value} {l : List Nat} (h : Bs b B W v l) : b < W.heap.size := by
 rcases h.blk with h | h <;> exact h.lt
theorem Bw.refl {b B : Nat} {W : World} {v : Value} {l : List Nat} (h : Bs b B W v l) : Bw b B W W v v l := ⟨h, rfl, rfl, rfl, Nat.le_refl _, fun _ _ _ _ => rfl, fun _ h => .inl h⟩
theorem Bw.trans {b B : Nat} {W w1 w2 : World} {v v1 v2 : Value} {l1 l2 : List Nat} (h : Bw b B W w1 v v1 l1) (k : Bw b B w1 w2 v1 v2 l2) : Bw b B W w2 v v2 l2 := by
 have hs := h.size
 refine ⟨k.bs, k.os.trans h.os, k.tape.trans h.tape, k.output.trans h.output, Nat.le_trans hs k.size, fun x hx h1 h2 => ?_, fun x hx => ?_⟩
 . rw [k.keep x (by omega) h1 (fun e => ?_), h.keep x hx h1 h2]
   rcases h.ob x e with h3 | h3
   . exact h2 h3
   . omega
 . rcases k.ob x hx with h3 | h3
   . exact h.ob x h3
   . exact .inr (by omega)
theorem Bs.below {b B : Nat} {W w' : World} {v : Value} {l : List Nat} (h : Bs b B W v l) (g : Below W.heap.size W w') : Bs b B w' v l :=
 ⟨h.blk.imp (fun k => k.below g k.lt) (fun k => k.below g k.lt), h.own.below g, h.ne, h.le⟩
theorem Bw.more {b B : Nat} {W w1 w2 : World} {v v1 : Value} {l1 : List Nat} (h : Bw b B W w1 v v1 l1) (g : Below w1.heap.size w1 w2) : Bw b B W w2 v v1 l1 :=
 ⟨h.bs.below g, g.os.trans h.os, g.tape.trans h.tape, g.output.trans h.output, Nat.le_trans h.size g.size, fun x hx h1 h2 => (g.block x (Nat.lt_of_lt_of_le hx h.size)).trans (h.keep x hx h1 h2), h.ob⟩
theorem Bw.after {b B : Nat} {W w1 w2 : World} {v v2 : Value} {l2 : List Nat} (g : Below W.heap.size W w1) (k : Bw b B w1 w2 v v2 l2) : Bw b B W w2 v v2 l2 :=
 ⟨k.bs, k.os.trans g.os, k.tape.trans g.tape, k.output.trans g.output, Nat.le_trans g.size k.size, fun x hx h1 h2 => (k.keep x (Nat.lt_of_lt_of_le hx g.size) h1 h2).trans (g.block x hx), fun x hx => (k.ob x hx).imp id (fun h => Nat.le_trans g.size h)⟩
theorem Bw.down {b B C : Nat} {w0 W w' : World} {v v' : Value} {l l' : List Nat} (k : Bw b B W w' v v' l') (h : Bs b B W v l) (hb : Below C w0 W) (hC : C <= B) : Below C w0 w' := by
 have h1 := h.le
 have h2 := h.lt
 refine ⟨k.os.trans hb.os, k.tape.trans hb.tape, k.output.trans hb.output, Nat.le_trans hb.size k.size, fun x hx => ?_⟩
 rw [k.keep x (by omega) (by omega) (fun e => ?_)]
 . exact hb.block x hx
 . have := (World.ownsRow.lt h.own x e).1
   omega
theorem Bw.blk {b B : Nat} {W w' : World} {v v' : Value} {l' : List Nat} (k : Bw b B W w' v v' l') {x : Nat} {t : TypeId} {vs : List Value} (h : Blk W x t vs) (h1 : x ≠ b) (h2 : v.ownBlock ≠ some x) : Blk w' x t vs := by
 unfold Blk at h ⊢
 rw [k.keep x (Array.getElem?_eq_some_iff.1 h).1 h1 h2]
 exact h
theorem Blk.shp {W : World} {b : Nat} {t : TypeId} {vs : List Value} (h : Blk W b t vs) : W.shape? b = some (t, vs.length) := by
 unfold Blk at h
 simp [World.shape?, h]
theorem copy_any {b B : Nat} {W : World} {v : Value} {l : List Nat} (h : Bs b B W v l) :
 Calls Tryz.prog 100 #[.pointer (some ⟨b, 0, none⟩)] W fun e w' => e = .returned (.tuple #[]) /\ Hid (Bw b B W w' v v l /\ Blk w' b 68 [.pointer (some ⟨b, 0, none⟩), v]) := by
 rcases h.blk with hb | hb
 . have K : Calls Tryz.prog 100 _ _ _ := Any.Builder_copyCheck_fresh (ρ := Tryz.laysM155_ren) { Tryz.laysM155 with } Tryz.Builder_Extra_M155.toX72 b W (hb.cell 0) hb.shp (hb.frozen 0)
   refine K.mono ?_
   rintro e w' ⟨rfl, rfl⟩
   have h2 : Blk (W.setCell ⟨b, 0, none⟩ (.pointer (some ⟨b, 0, none⟩))) b 68 [.pointer (some ⟨b, 0, none⟩), v] := hb.set 0 _
   have g := grown_setCell W ⟨b, 0, none⟩ (.pointer (some ⟨b, 0, none⟩))
   refine ⟨rfl, ⟨⟨.inr h2, World.ownsRow.kept h.own g (.inr fun c => h.ne c), h.ne, h.le⟩, g.os, g.tape, g.output, g.size, fun x hx h1 h3 => g.block x hx (fun c => h1 (Option.some.inj c)), fun x hx => .inl hx⟩, h2⟩
 . have K : Calls Tryz.prog 100 _ _ _ := Any.Builder_copyCheck_used (ρ := Tryz.laysM155_ren) { Tryz.laysM155 with } Tryz.Builder_Extra_M155.toX72 b W (hb.cell 0)
   refine K.mono ?_
   rintro e w' ⟨rfl, rfl⟩
   exact ⟨rfl, Bw.refl h, hb⟩
theorem s52 : (Tryz.prog.info? 52).map (·.size) = some 1 := by kernel_rfl
theorem Bw.app {b B : Nat} {W w1 w2 w3 : World} {v v' : Value} {l l' : List Nat} (h : Bw b B W w1 v v l) (hb : Blk w1 b 68 [.pointer (some ⟨b, 0, none⟩), v]) (w1' : World) (g1 : Below w1.heap.size w1 w1') (A : Ap B w1' w2 v v' l')
 (hs : Blk w3 b 68 [.pointer (some ⟨b, 0, none⟩), v']) (g3 : w2.grownBy w3 (some b)) : Bw b B W w3 v v' l' := by
 have hlt := hb.lt
 have z1 := g1.size
 have z2 := A.gr.size
 have z3 := g3.size
 have hne : v'.ownBlock ≠ some b := fun e => by
  rcases A.ob b e with c | c
  . exact h.bs.ne c
  . omega
 have k : Bw b B w1 w3 v v' l' := by
  refine ⟨⟨.inr hs, World.ownsRow.kept A.own g3 (.inr fun c => hne c), hne, h.bs.le⟩, ?_, ?_, ?_, by omega, fun x hx h1 h2 => ?_, fun x hx => ?_⟩
  . rw [g3.os, A.gr.os, g1.os]
  . rw [g3.tape, A.gr.tape, g1.tape]
  . rw [g3.output, A.gr.output, g1.output]
  . rw [g3.block x (by omega) (fun c => h1 (Option.some.inj c)), A.gr.block x (by omega) (fun c => h2 c.symm), g1.block x hx]
  . rcases A.ob x hx with c | c
    . exact .inl c
    . exact .inr (by omega)
 exact h.trans k
theorem wrb9 (c : Nat) {b B : Nat} {W : World} {v : Value} {l : List Nat} (h : Bs b B W v l) (hl : l.length <= 900000000) :
 Calls Tryz.prog 106 #[.pointer (some ⟨b, 0, none⟩), .int .u8 (c : Int)] W fun e w' => ∃ v', e = .returned .nilIface /\ Hid (Bw b B W w' v v' (l ++ [c])) := by
 have K := copy_any h
 have hlt := h.lt
 have hle := h.le
 clear h
 go_enter Tryz.func106, Tryz.ntmps106
 go_wp2_with fail
 refine K.mono ?_
 rintro e w1 ⟨rfl, H⟩
 clear K
 have c1 : w1.cell? ⟨b, 1, none⟩ = some v := H.out.2.cell 1
 have hs1 : B <= w1.heap.size := by have := H.out.1.size; omega
 go_wp2_with (at_builtin; go_must (refine ap_bytes rfl (.tmp 11) (.tmp 13) rfl B v l rfl (H.out.1.bs.own.alloc _) _ _ _ [c] rfl rfl (byt_lit w1 [c]) (by simp) (by simp; omega) (by simp; omega) ?_))
 intro v' w2 A
 have hb2 : Blk w2 b 68 [.pointer (some ⟨b, 0, none⟩), v] := A.blk (H.out.2.alloc _) H.out.1.bs.ne
 have HA : Hid (Ap B (w1.alloc (Obj.cells #[.int .u8 (c : Int)] 5)) w2 v v' (l ++ [c])) := A
 have HV : Hid (v'.cells = #[v'] /\ v'.oneCell' = true) := by
  obtain ⟨aa, cc, hv', _⟩ := A.own.byt
  rw [hv']
  exact ⟨rfl, rfl⟩
 clear A c1
 go_wp2_with (refine st_one rfl 52 (.tmp 16) (.tmp 14) rfl b 1 68 _ v' rfl rfl HV.out.1 HV.out.2 (by simp) hb2 s52 ?_)
 intro w3 b3 g3
 have HF : Hid (Bw b B W w3 v v' (l ++ [c])) := Bw.app H.out.1 H.out.2 _ ((Below.refl _ _).alloc (Nat.le_refl _) _) HA.out b3 g3
 clear b3 g3 HA H hb2
 go_wp2
 go_ret
 exact ⟨v', rfl, HF.out⟩
theorem wrs9 (s : ByteArray) {b B : Nat} {W : World} {v : Value} {l : List Nat} (h : Bs b B W v l) (hl : l.length + s.size <= 900000000) :
 Calls Tryz.prog 54 #[.pointer (some ⟨b, 0, none⟩), .string s] W fun e w' => ∃ v', e = .returned (.tuple #[.int .i64 (s.size : Int), .nilIface]) /\ Hid (Bw b B W w' v v' (l ++ bts s)) := by
 have K := copy_any h
 have hlt := h.lt
 have hle := h.le
 clear h
 go_enter Tryz.func54, Tryz.ntmps54
 go_wp2_with fail
 refine K.mono ?_
 rintro e w1 ⟨rfl, H⟩
 clear K
 have c1 : w1.cell? ⟨b, 1, none⟩ = some v := H.out.2.cell 1
 have hs1 : B <= w1.heap.size := by have := H.out.1.size; omega
 go_wp2_with (at_builtin; go_must (refine ap_str rfl (.tmp 12) (.tmp 13) rfl B v l rfl H.out.1.bs.own s rfl (by omega) (by omega) ?_))
 intro v' w2 A
 have hb2 : Blk w2 b 68 [.pointer (some ⟨b, 0, none⟩), v] := A.blk H.out.2 H.out.1.bs.ne
 have HA : Hid (Ap B w1 w2 v v' (l ++ bts s)) := A
 have HV : Hid (v'.cells = #[v'] /\ v'.oneCell' = true) := by
  obtain ⟨aa, cc, hv', _⟩ := A.own.byt
  rw [hv']
  exact ⟨rfl, rfl⟩
 clear A c1
 go_wp2_with (refine st_one rfl 52 (.tmp 16) (.tmp 14) rfl b 1 68 _ v' rfl rfl HV.out.1 HV.out.2 (by simp) hb2 s52 ?_)
 intro w3 b3 g3
 have HF : Hid (Bw b B W w3 v v' (l ++ bts s)) := Bw.app H.out.1 H.out.2 _ (Below.refl _ _) HA.out b3 g3
 clear b3 g3 HA H hb2
 go_wp2
 go_ret2
 exact ⟨v', rfl, HF.out⟩
theorem vals_cells {l : List Nat} (h : Oct l) : vals l = Lib.byteCells (l.map UInt8.ofNat) := by
 unfold vals Lib.byteCells
 rw [List.map_map]
 apply List.map_congr_left
 intro x hx
 have := h x hx
 simp only [Function.comp]
 rw [show (UInt8.ofNat x).toNat = x by rw [UInt8.toNat_ofNat']; omega]
theorem bstr9 {b B : Nat} {W : World} {v : Value} {l : List Nat} (h : Bs b B W v l) (ho : Oct l) :
 Calls Tryz.prog 32 #[.pointer (some ⟨b, 0, none⟩)] W fun e w' => e = .returned (.string (ofB l)) /\ Below B W w' := by
 have hw : W.ownsRow B 5 1 v (Lib.byteCells (l.map UInt8.ofNat)).length (Lib.byteCells (l.map UInt8.ofNat)) := by
  have := h.own
  unfold Own at this
  rw [vals_cells ho] at this
  rw [Lib.byteCells_length, List.length_map]
  exact this
 have hi : Lib.IsBuilder 68 5 B b (Lib.byteCells (l.map UInt8.ofNat)) W := by
  rcases h.blk with hb | hb
  . exact .inl ⟨h.le, v, hb, hw, h.ne⟩
  . exact .inr ⟨h.le, v, hb, hw, h.ne⟩
 have hlt := h.lt
 have hle := h.le
 have K : Calls Tryz.prog 32 _ _ _ := Any.Builder_String_any Tryz.lays169 Tryz.Builder_Extra_169 B b (l.map UInt8.ofNat) W hi (by omega)
 exact K
end Go.Proofs.YtobfdcdobhhagaaGreatDoor
