/-
  Parts of one proof, laid into one text: SShelf, SScan. Conditions: each part names its own.
-/
import Derived.Shelf.Strconv.AtoiAll
import Derived.Shelf.Strings.Cut
import Derived.Shelf.Strconv.Itoa3
import Derived.Test.YtjkcopgfcafpeaaGreatDoorMg23
import Derived.Test.YtjkcopgfcafpeaaGreatDoorMg16

/-
  The library's strings.Cut, strconv.Atoi and strconv.Itoa at this program, and what of the world they read. Conditions: texts of at most 65536 bytes.
-/
set_option linter.unusedSimpArgs false
set_option linter.unusedVariables false
namespace Go.Proofs.YtjkcopgfcafpeaaGreatDoor
open Go.RowKit Go.Shelf

def cutL_ren : Go.Shelf.Ren := ⟨fun | 145 => 147 | 220 => 159 | 219 => 167 | 217 => 171 | 225 => 172 | 224 => 173 | 267 => 174 | 266 => 177 | 314 => 178 | n => n, fun | 9 => 9 | 4 => 4 | 59 => 159 | 3 => 3 | 5 => 5 | 46 => 167 | 146 => 191 | 51 => 164 | n => n, fun | 1 => 5 | n => n⟩

theorem cutL : Go.Proofs.Lays.n145 Tryz.prog cutL_ren := {
  mixed := by kernel_rfl
  f145 := Tryz.func147.trans (congrArg some (by kernel_rfl))
  f217 := Tryz.func171.trans (congrArg some (by kernel_rfl))
  f219 := Tryz.func167.trans (congrArg some (by kernel_rfl))
  f220 := Tryz.func159.trans (congrArg some (by kernel_rfl))
  f224 := Tryz.func173.trans (congrArg some (by kernel_rfl))
  f225 := Tryz.func172.trans (congrArg some (by kernel_rfl))
  f266 := Tryz.func177.trans (congrArg some (by kernel_rfl))
  f267 := Tryz.func174.trans (congrArg some (by kernel_rfl))
  f314 := Tryz.func178.trans (congrArg some (by kernel_rfl))
  t3 := Tryz.underlying3
  a3 := Tryz.isAgg3
  z3 := Tryz.sizeOf3
  v3 := Tryz.zeroValue3
  t4 := Tryz.underlying4
  a4 := Tryz.isAgg4
  z4 := Tryz.sizeOf4
  v4 := Tryz.zeroValue4
  t5 := Tryz.underlying5
  a5 := Tryz.isAgg5
  z5 := Tryz.sizeOf5
  v5 := Tryz.zeroValue5
  t9 := Tryz.underlying9
  a9 := Tryz.isAgg9
  z9 := Tryz.sizeOf9
  v9 := Tryz.zeroValue9
  t46 := Tryz.underlying167
  a46 := Tryz.isAgg167
  z46 := Tryz.sizeOf167
  v46 := Tryz.zeroValue167
  t51 := Tryz.underlying164
  a51 := Tryz.isAgg164
  z51 := Tryz.sizeOf164
  v51 := Tryz.zeroValue164
  t59 := Tryz.underlying159
  a59 := Tryz.isAgg159
  z59 := Tryz.sizeOf159
  v59 := Tryz.zeroValue159
  t146 := Tryz.underlying191
  a146 := Tryz.isAgg191
  z146 := Tryz.sizeOf191
  v146 := Tryz.zeroValue191
  g1 := by kernel_rfl }

def atoiL_ren : Go.Shelf.Ren := ⟨fun | 172 => 144 | 244 => 155 | 245 => 156 | 247 => 162 | 279 => 163 | 280 => 164 | 281 => 165 | 282 => 166 | 287 => 168 | 316 => 169 | 171 => 49 | 205 => 170 | 321 => 175 | 322 => 176 | 243 => 91 | 246 => 121 | 283 => 138 | 284 => 139 | 285 => 140 | 286 => 141 | 129 => 150 | 317 => 149 | 318 => 151 | 319 => 152 | 320 => 153 | 337 => 160 | 338 => 161 | n => n, fun | 9 => 9 | 3 => 3 | 75 => 77 | 76 => 78 | 4 => 4 | 5 => 5 | 167 => 172 | 37 => 73 | 0 => 0 | 85 => 173 | 2 => 2 | 168 => 175 | 53 => 150 | 175 => 181 | 46 => 167 | 210 => 184 | 127 => 120 | 145 => 190 | 143 => 188 | 21 => 21 | 171 => 149 | 173 => 153 | 212 => 163 | 51 => 164 | 20 => 20 | 213 => 165 | 232 => 179 | 233 => 180 | 80 => 84 | n => n, fun | 15 => 3 | 16 => 4 | 17 => 0 | 18 => 1 | 19 => 2 | n => n⟩

theorem atoiL : Go.Proofs.LaysC.n172 Tryz.prog atoiL_ren := {
  mixed := by kernel_rfl
  f129 := Tryz.func150.trans (congrArg some (by kernel_rfl))
  f171 := Tryz.func49.trans (congrArg some (by kernel_rfl))
  f172 := Tryz.func144.trans (congrArg some (by kernel_rfl))
  f205 := Tryz.func170.trans (congrArg some (by kernel_rfl))
  f243 := Tryz.func91.trans (congrArg some (by kernel_rfl))
  f244 := Tryz.func155.trans (congrArg some (by kernel_rfl))
  f245 := Tryz.func156.trans (congrArg some (by kernel_rfl))
  f246 := Tryz.func121.trans (congrArg some (by kernel_rfl))
  f247 := Tryz.func162.trans (congrArg some (by kernel_rfl))
  f279 := Tryz.func163.trans (congrArg some (by kernel_rfl))
  f280 := Tryz.func164.trans (congrArg some (by kernel_rfl))
  f281 := Tryz.func165.trans (congrArg some (by kernel_rfl))
  f282 := Tryz.func166.trans (congrArg some (by kernel_rfl))
  f283 := Tryz.func138.trans (congrArg some (by kernel_rfl))
  f284 := Tryz.func139.trans (congrArg some (by kernel_rfl))
  f285 := Tryz.func140.trans (congrArg some (by kernel_rfl))
  f286 := Tryz.func141.trans (congrArg some (by kernel_rfl))
  f287 := Tryz.func168.trans (congrArg some (by kernel_rfl))
  f316 := Tryz.func169.trans (congrArg some (by kernel_rfl))
  f317 := Tryz.func149.trans (congrArg some (by kernel_rfl))
  f318 := Tryz.func151.trans (congrArg some (by kernel_rfl))
  f319 := Tryz.func152.trans (congrArg some (by kernel_rfl))
  f320 := Tryz.func153.trans (congrArg some (by kernel_rfl))
  f321 := Tryz.func175.trans (congrArg some (by kernel_rfl))
  f322 := Tryz.func176.trans (congrArg some (by kernel_rfl))
  f337 := Tryz.func160.trans (congrArg some (by kernel_rfl))
  f338 := Tryz.func161.trans (congrArg some (by kernel_rfl))
  t0 := Tryz.underlying0
  a0 := Tryz.isAgg0
  z0 := Tryz.sizeOf0
  v0 := Tryz.zeroValue0
  t2 := Tryz.underlying2
  a2 := Tryz.isAgg2
  z2 := Tryz.sizeOf2
  v2 := Tryz.zeroValue2
  t3 := Tryz.underlying3
  a3 := Tryz.isAgg3
  z3 := Tryz.sizeOf3
  v3 := Tryz.zeroValue3
  t4 := Tryz.underlying4
  a4 := Tryz.isAgg4
  z4 := Tryz.sizeOf4
  v4 := Tryz.zeroValue4
  t5 := Tryz.underlying5
  a5 := Tryz.isAgg5
  z5 := Tryz.sizeOf5
  v5 := Tryz.zeroValue5
  t9 := Tryz.underlying9
  a9 := Tryz.isAgg9
  z9 := Tryz.sizeOf9
  v9 := Tryz.zeroValue9
  t20 := Tryz.underlying20
  a20 := Tryz.isAgg20
  z20 := Tryz.sizeOf20
  v20 := Tryz.zeroValue20
  t21 := Tryz.underlying21
  a21 := Tryz.isAgg21
  z21 := Tryz.sizeOf21
  v21 := Tryz.zeroValue21
  t37 := Tryz.underlying73
  a37 := Tryz.isAgg73
  z37 := Tryz.sizeOf73
  v37 := Tryz.zeroValue73
  t46 := Tryz.underlying167
  a46 := Tryz.isAgg167
  z46 := Tryz.sizeOf167
  v46 := Tryz.zeroValue167
  t51 := Tryz.underlying164
  a51 := Tryz.isAgg164
  z51 := Tryz.sizeOf164
  v51 := Tryz.zeroValue164
  t53 := Tryz.underlying150
  a53 := Tryz.isAgg150
  z53 := Tryz.sizeOf150
  v53 := Tryz.zeroValue150
  t75 := Tryz.underlying77
  a75 := Tryz.isAgg77
  z75 := Tryz.sizeOf77
  v75 := Tryz.zeroValue77
  t76 := Tryz.underlying78
  a76 := Tryz.isAgg78
  z76 := Tryz.sizeOf78
  v76 := Tryz.zeroValue78
  t85 := Tryz.underlying173
  a85 := Tryz.isAgg173
  z85 := Tryz.sizeOf173
  v85 := Tryz.zeroValue173
  t127 := Tryz.underlying120
  a127 := Tryz.isAgg120
  z127 := Tryz.sizeOf120
  v127 := Tryz.zeroValue120
  t143 := Tryz.underlying188
  a143 := Tryz.isAgg188
  z143 := Tryz.sizeOf188
  v143 := Tryz.zeroValue188
  t145 := Tryz.underlying190
  a145 := Tryz.isAgg190
  z145 := Tryz.sizeOf190
  v145 := Tryz.zeroValue190
  t167 := Tryz.underlying172
  a167 := Tryz.isAgg172
  z167 := Tryz.sizeOf172
  v167 := Tryz.zeroValue172
  t168 := Tryz.underlying175
  a168 := Tryz.isAgg175
  z168 := Tryz.sizeOf175
  v168 := Tryz.zeroValue175
  t171 := Tryz.underlying149
  a171 := Tryz.isAgg149
  z171 := Tryz.sizeOf149
  v171 := Tryz.zeroValue149
  t173 := Tryz.underlying153
  a173 := Tryz.isAgg153
  z173 := Tryz.sizeOf153
  v173 := Tryz.zeroValue153
  t175 := Tryz.underlying181
  a175 := Tryz.isAgg181
  z175 := Tryz.sizeOf181
  v175 := Tryz.zeroValue181
  t210 := Tryz.underlying184
  a210 := Tryz.isAgg184
  z210 := Tryz.sizeOf184
  v210 := Tryz.zeroValue184
  t212 := Tryz.underlying163
  a212 := Tryz.isAgg163
  z212 := Tryz.sizeOf163
  v212 := Tryz.zeroValue163
  t213 := Tryz.underlying165
  a213 := Tryz.isAgg165
  z213 := Tryz.sizeOf165
  t232 := Tryz.underlying179
  a232 := Tryz.isAgg179
  z232 := Tryz.sizeOf179
  v232 := Tryz.zeroValue179
  t233 := Tryz.underlying180
  a233 := Tryz.isAgg180
  z233 := Tryz.sizeOf180
  v233 := Tryz.zeroValue180
  g15 := by kernel_rfl
  g16 := by kernel_rfl
  g17 := by kernel_rfl
  g18 := by kernel_rfl
  g19 := by kernel_rfl
  t80 := Tryz.underlying84
  a80 := Tryz.isAgg84
  z80 := Tryz.sizeOf84
  v80 := Tryz.zeroValue84
  i0 := by kernel_rfl
  i2 := by kernel_rfl
  i3 := by kernel_rfl
  i4 := by kernel_rfl
  i5 := by kernel_rfl
  i9 := by kernel_rfl
  i20 := by kernel_rfl
  i21 := by kernel_rfl
  i37 := by kernel_rfl
  i46 := by kernel_rfl
  i51 := by kernel_rfl
  i53 := by kernel_rfl
  i75 := by kernel_rfl
  i76 := by kernel_rfl
  i80 := by kernel_rfl
  i85 := by kernel_rfl
  i127 := by kernel_rfl
  i143 := by kernel_rfl
  i145 := by kernel_rfl
  i167 := by kernel_rfl
  i168 := by kernel_rfl
  i171 := by kernel_rfl
  i173 := by kernel_rfl
  i175 := by kernel_rfl
  i210 := by kernel_rfl
  i212 := by kernel_rfl
  i232 := by kernel_rfl
  i233 := by kernel_rfl
  m15 := by kernel_rfl
  m16 := by kernel_rfl
  m17 := by kernel_rfl
  m18 := by kernel_rfl
  m19 := by kernel_rfl
  c0 := by kernel_rfl
  c2 := by kernel_rfl
  c3 := by kernel_rfl
  c4 := by kernel_rfl
  c5 := by kernel_rfl
  c9 := by kernel_rfl
  c20 := by kernel_rfl
  c21 := by kernel_rfl
  c37 := by kernel_rfl
  c46 := by kernel_rfl
  c51 := by kernel_rfl
  c53 := by kernel_rfl
  c75 := by kernel_rfl
  c76 := by kernel_rfl
  c80 := by kernel_rfl
  c85 := by kernel_rfl
  c127 := by kernel_rfl
  c143 := by kernel_rfl
  c145 := by kernel_rfl
  c167 := by kernel_rfl
  c168 := by kernel_rfl
  c171 := by kernel_rfl
  c173 := by kernel_rfl
  c175 := by kernel_rfl
  c210 := by kernel_rfl
  c212 := by kernel_rfl
  c213 := by kernel_rfl
  c232 := by kernel_rfl
  c233 := by kernel_rfl }

def itoaL_ren : Go.Shelf.Ren := ⟨fun | 171 => 49 | 243 => 91 | 246 => 121 | 283 => 138 | 284 => 139 | 285 => 140 | 286 => 141 | 129 => 150 | 317 => 149 | 318 => 151 | 319 => 152 | 320 => 153 | 337 => 160 | 338 => 161 | n => n, fun | 3 => 3 | 9 => 9 | 2 => 2 | 4 => 4 | 171 => 149 | 0 => 0 | 53 => 150 | 37 => 73 | 5 => 5 | 173 => 153 | 212 => 163 | 51 => 164 | 20 => 20 | 213 => 165 | 46 => 167 | 232 => 179 | 233 => 180 | n => n, fun | 17 => 0 | 18 => 1 | 19 => 2 | n => n⟩

theorem itoaL : Go.Proofs.Lays.n171 Tryz.prog itoaL_ren := {
  mixed := by kernel_rfl
  f129 := Tryz.func150.trans (congrArg some (by kernel_rfl))
  f171 := Tryz.func49.trans (congrArg some (by kernel_rfl))
  f243 := Tryz.func91.trans (congrArg some (by kernel_rfl))
  f246 := Tryz.func121.trans (congrArg some (by kernel_rfl))
  f283 := Tryz.func138.trans (congrArg some (by kernel_rfl))
  f284 := Tryz.func139.trans (congrArg some (by kernel_rfl))
  f285 := Tryz.func140.trans (congrArg some (by kernel_rfl))
  f286 := Tryz.func141.trans (congrArg some (by kernel_rfl))
  f317 := Tryz.func149.trans (congrArg some (by kernel_rfl))
  f318 := Tryz.func151.trans (congrArg some (by kernel_rfl))
  f319 := Tryz.func152.trans (congrArg some (by kernel_rfl))
  f320 := Tryz.func153.trans (congrArg some (by kernel_rfl))
  f337 := Tryz.func160.trans (congrArg some (by kernel_rfl))
  f338 := Tryz.func161.trans (congrArg some (by kernel_rfl))
  t0 := Tryz.underlying0
  a0 := Tryz.isAgg0
  z0 := Tryz.sizeOf0
  v0 := Tryz.zeroValue0
  t2 := Tryz.underlying2
  a2 := Tryz.isAgg2
  z2 := Tryz.sizeOf2
  v2 := Tryz.zeroValue2
  t3 := Tryz.underlying3
  a3 := Tryz.isAgg3
  z3 := Tryz.sizeOf3
  v3 := Tryz.zeroValue3
  t4 := Tryz.underlying4
  a4 := Tryz.isAgg4
  z4 := Tryz.sizeOf4
  v4 := Tryz.zeroValue4
  t5 := Tryz.underlying5
  a5 := Tryz.isAgg5
  z5 := Tryz.sizeOf5
  v5 := Tryz.zeroValue5
  t9 := Tryz.underlying9
  a9 := Tryz.isAgg9
  z9 := Tryz.sizeOf9
  v9 := Tryz.zeroValue9
  t20 := Tryz.underlying20
  a20 := Tryz.isAgg20
  z20 := Tryz.sizeOf20
  v20 := Tryz.zeroValue20
  t37 := Tryz.underlying73
  a37 := Tryz.isAgg73
  z37 := Tryz.sizeOf73
  v37 := Tryz.zeroValue73
  t46 := Tryz.underlying167
  a46 := Tryz.isAgg167
  z46 := Tryz.sizeOf167
  v46 := Tryz.zeroValue167
  t51 := Tryz.underlying164
  a51 := Tryz.isAgg164
  z51 := Tryz.sizeOf164
  v51 := Tryz.zeroValue164
  t53 := Tryz.underlying150
  a53 := Tryz.isAgg150
  z53 := Tryz.sizeOf150
  v53 := Tryz.zeroValue150
  t171 := Tryz.underlying149
  a171 := Tryz.isAgg149
  z171 := Tryz.sizeOf149
  v171 := Tryz.zeroValue149
  t173 := Tryz.underlying153
  a173 := Tryz.isAgg153
  z173 := Tryz.sizeOf153
  v173 := Tryz.zeroValue153
  t212 := Tryz.underlying163
  a212 := Tryz.isAgg163
  z212 := Tryz.sizeOf163
  v212 := Tryz.zeroValue163
  t213 := Tryz.underlying165
  a213 := Tryz.isAgg165
  z213 := Tryz.sizeOf165
  t232 := Tryz.underlying179
  a232 := Tryz.isAgg179
  z232 := Tryz.sizeOf179
  v232 := Tryz.zeroValue179
  t233 := Tryz.underlying180
  a233 := Tryz.isAgg180
  z233 := Tryz.sizeOf180
  v233 := Tryz.zeroValue180
  g17 := by kernel_rfl
  g18 := by kernel_rfl
  g19 := by kernel_rfl }

/-- the package-level variables that reading comes to hold values of their types -/
structure Gl (w : World) : Prop where
  len : ∃ m : Int, w.cell? ⟨5, 0, none⟩ = some (.int .i64 m)
  syn : ∃ ev, w.cell? ⟨3, 0, none⟩ = some ev ∧ (ev = .nilIface ∨ ∃ te pe, ev = .iface te pe)
  rng : ∃ ev, w.cell? ⟨4, 0, none⟩ = some ev ∧ (ev = .nilIface ∨ ∃ te pe, ev = .iface te pe)

theorem Gl.keep {w w' : World} (h : Gl w) (hk : ∀ b, b < 6 → w'.heap[b]? = w.heap[b]?) : Gl w' := by
  obtain ⟨⟨m, h1⟩, ⟨e2, h2, h2'⟩, ⟨e3, h3, h3'⟩⟩ := h
  exact ⟨⟨m, (World.cell?_of_block (w := w) (hk _ (by decide))).trans h1⟩, ⟨e2, (World.cell?_of_block (w := w) (hk _ (by decide))).trans h2, h2'⟩, ⟨e3, (World.cell?_of_block (w := w) (hk _ (by decide))).trans h3, h3'⟩⟩

theorem drewN_below (w : World) (n : Nat) : Below w.heap.size w (w.drewN n) := ⟨rfl, rfl, rfl, Nat.le_refl _, fun _ _ => rfl⟩

theorem cut_any (s : List UInt8) (x : ByteArray) (m : List UInt8) (hx : x.data.toList = m) (w : World) (hg : Gl w) (hs : s.length ≤ 65536) :
    Calls Tryz.prog 147 #[.string ⟨s.toArray⟩, .string x] w fun e w' => e = .returned (.tuple #[.string ⟨(Lib.cut s m).1.toArray⟩, .string ⟨(Lib.cut s m).2.1.toArray⟩, .bool (Lib.cut s m).2.2]) ∧ ∃ n, w.drewN n = w' := by
  obtain ⟨k, hk⟩ := hg.len
  subst hx
  refine (Any.strings_Cut cutL ⟨s.toArray⟩ x k w (by simp [ByteArray.size]; omega) hk).mono ?_
  rintro e w' ⟨h1, n, rfl⟩
  exact ⟨h1, n, rfl⟩

/-- what Atoi does at digits that spell a number -/
theorem atoi_yes (s : List UInt8) (v : Int) (h : Lib.atoiAll s = .ok v) (w : World) (hs : s.length ≤ 65536) :
    Calls Tryz.prog 144 #[.string ⟨s.toArray⟩] w fun e w' => e = .returned (.tuple #[.int .i64 v, .nilIface]) ∧ Below w.heap.size w w' := by
  refine (Any.strconv_Atoi_ok atoiL ⟨s.toArray⟩ (by simp [ByteArray.size]; omega) v h w).mono ?_
  rintro e w' ⟨h1, h2⟩
  refine ⟨h1, ?_⟩
  rcases h2 with rfl | ⟨t, rfl⟩
  · exact Below.refl _ _
  · exact bytesWorld_below _ _ _

/-- and at others: some error -/
theorem atoi_no (s : List UInt8) (h : ∀ v, Lib.atoiAll s ≠ .ok v) (w : World) (hg : Gl w) (hs : s.length ≤ 65536) :
    Calls Tryz.prog 144 #[.string ⟨s.toArray⟩] w fun e w' => ∃ v N, e = .returned (.tuple #[.int .i64 v, .iface 175 (.pointer (some ⟨N, 0, none⟩))]) ∧ Below w.heap.size w w' := by
  obtain ⟨e2, h2, h2'⟩ := hg.syn
  obtain ⟨e3, h3, h3'⟩ := hg.rng
  cases ha : Lib.atoiAll s with
  | ok v => exact absurd ha (h v)
  | range =>
    refine (Any.strconv_Atoi_range atoiL ⟨s.toArray⟩ (by simp [ByteArray.size]; omega) ha e3 w h3 h3').mono ?_
    rintro e w' ⟨N, h4, _, _, h5⟩
    exact ⟨_, N, h4, h5⟩
  | _ =>
    refine (Any.strconv_Atoi_syntax atoiL ⟨s.toArray⟩ (by simp [ByteArray.size]; omega) ha e2 w h2 h2').mono ?_
    rintro e w' ⟨N, h4, _, _, h5⟩
    exact ⟨0, N, h4, h5⟩

/-- Itoa of a small number -/
theorem itoa_any (i : Nat) (hi : i < 100) (w : World) :
    Calls Tryz.prog 49 #[.int .i64 (i : Int)] w fun e w' => e = .returned (.string ⟨(Lib.decDigits i).toArray⟩) ∧ w = w' := by
  refine (Any.strconv_Itoa_small itoaL i hi w).mono ?_
  rintro e w' ⟨h1, rfl⟩
  exact ⟨h1, rfl⟩

end Go.Proofs.YtjkcopgfcafpeaaGreatDoor

/-
  The walks of the reader's methods Until, while, Name and Number. Conditions: texts of at most 65536 bytes.
-/
set_option linter.unusedSimpArgs false
set_option linter.unusedVariables false
namespace Go.Proofs.YtjkcopgfcafpeaaGreatDoor
open Go.RowKit

theorem rd_drew {w : World} {b : Nat} {s : List UInt8} (n : Nat) (h : Rd w b s) : Rd (w.drewN n) b s := h

/-- only the reader's block turns, and new ones come -/
theorem grown_set0 (w : World) (b : Nat) (u : Value) : w.grownBy (w.setCell ⟨b, 0, none⟩ u) (some b) := grown_set (grown_refl w b) u

set_option maxHeartbeats 800000 in
theorem until_yes (b : Nat) (x : ByteArray) (s m p r : List UInt8) (hx : x.data.toList = m) (w : World) (hr : Rd w b s) (hg : Gl w) (hs : s.length ≤ 65536) (h : cutAt m s = some (p, r)) :
    Calls Tryz.prog 127 #[.pointer (some ⟨b, 0, none⟩), .string x] w fun e w' => e = .returned (.string ⟨p.toArray⟩) ∧ Rd w' b r ∧ w.grownBy w' (some b) := by
  have c1 := cell_of_one hr
  have hc := Lib.hid fun w hg => cut_any s x m hx w hg hs
  unfold cutAt at h
  split at h
  · rename_i hcut
    simp only [Option.some.injEq, Prod.mk.injEq] at h
    obtain ⟨rfl, rfl⟩ := h
    rw [hcut] at hc
    have HR := Lib.hid hr
    have HG := Lib.hid hg
    generalize (Lib.cut s m).1 = p at hc ⊢
    generalize (Lib.cut s m).2.1 = r at hc ⊢
    clear hcut hx hr hg hs
    go_enter Tryz.func127, Tryz.ntmps127
    go_wp2_with fail
    refine (hc.out _ HG.out).mono ?_
    rintro e w1 ⟨rfl, n, hn⟩
    have h1 : Rd w1 b s := by rw [← hn]; exact rd_drew n HR.out
    have g1 : w.grownBy w1 (some b) := by rw [← hn]; exact ⟨rfl, rfl, rfl, Nat.le_refl _, fun _ _ _ => rfl⟩
    have c2 := cell_of_one h1
    have c3 := free_of_one h1
    have H1 := Lib.hid h1
    have HG1 := Lib.hid g1
    clear hn h1 g1
    go_wp2_with fail
    go_ret
    exact ⟨rfl, rd_set H1.out r, grown_set HG1.out _⟩
  · cases h

set_option maxHeartbeats 800000 in
theorem until_no (b : Nat) (x : ByteArray) (s m : List UInt8) (hx : x.data.toList = m) (w : World) (hr : Rd w b s) (hg : Gl w) (hs : s.length ≤ 65536) (h : cutAt m s = none) :
    Calls Tryz.prog 127 #[.pointer (some ⟨b, 0, none⟩), .string x] w fun e w' => e = .panicked [{ v := .iface 26 (.int .i64 4), recovered := false }] ∧ w.grownBy w' (some b) := by
  have c1 := cell_of_one hr
  have hc := Lib.hid fun w hg => cut_any s x m hx w hg hs
  unfold cutAt at h
  split at h
  · cases h
  · rename_i hcut
    have hcut : (Lib.cut s m).2.2 = false := by simpa using hcut
    rw [hcut] at hc
    have HG := Lib.hid hg
    generalize (Lib.cut s m).1 = p at hc ⊢
    generalize (Lib.cut s m).2.1 = r at hc ⊢
    clear hcut hx hr hg hs h
    go_enter Tryz.func127, Tryz.ntmps127
    go_wp2_with fail
    refine (hc.out _ HG.out).mono ?_
    rintro e w1 ⟨rfl, n, rfl⟩
    go_wp2_with fail
    refine (fail_any _).mono ?_
    rintro e w2 ⟨rfl, rfl⟩
    go_wp2_with fail
    exact ⟨rfl, rfl, rfl, rfl, rfl, Nat.le_refl _, fun _ _ _ => rfl⟩

/-- the byte at a place of a list -/
theorem get_byt (s : List UInt8) (i : Nat) (h : i < s.length) : ((⟨s.toArray⟩ : ByteArray)[i]'(by simpa [ByteArray.size] using h)).toNat = (s[i]).toNat := rfl

theorem ext_take (s : List UInt8) (j : Nat) : (⟨s.toArray⟩ : ByteArray).extract 0 j = ⟨(s.take j).toArray⟩ := by
  apply ByteArray.ext
  apply Array.toList_inj.1
  simp [ByteArray.data_extract]

theorem ext_drop (s : List UInt8) (j : Nat) : (⟨s.toArray⟩ : ByteArray).extract j s.length = ⟨(s.drop j).toArray⟩ := by
  apply ByteArray.ext
  apply Array.toList_inj.1
  simp [ByteArray.data_extract]
  exact List.take_of_length_le (by simp)

theorem takeWhile_at (c : UInt8 → Bool) (s : List UInt8) (n : Nat) (h : ∀ i, i < n → c (s.getD i 0) = true) (hn : n ≤ s.length) (he : n = s.length ∨ c (s.getD n 0) = false) : s.takeWhile c = s.take n ∧ s.dropWhile c = s.drop n := by
  induction s generalizing n with
  | nil => simp
  | cons a s ih =>
    cases n with
    | zero =>
      rcases he with he | he
      · simp at he
      · have : c a = false := by simpa using he
        simp [this]
    | succ n =>
      have ha : c a = true := by simpa using h 0 (by omega)
      have := ih n (fun i hi => by simpa using h (i + 1) (by omega)) (by simpa using hn) (by simpa using he)
      simp [ha, this]

set_option maxRecDepth 100000 in
set_option maxHeartbeats 1600000 in
theorem while_name (b : Nat) (s : List UInt8) (w : World) (hr : Rd w b s) (hs : s.length ≤ 65536) :
    Calls Tryz.prog 143 #[.pointer (some ⟨b, 0, none⟩), .func (Fn.func 112) #[] #[]] w fun e w' => e = .returned (.string ⟨(s.takeWhile inN).toArray⟩) ∧ w.setCell ⟨b, 0, none⟩ (.string ⟨(s.dropWhile inN).toArray⟩) = w' := by
  have c1 := cell_of_one hr
  have c2 := free_of_one hr
  clear hr
  go_enter Tryz.func143, Tryz.ntmps143
  go_wp2_with fail
  go_loopw [5] (fun i wr => ∃ j : Nat, j ≤ s.length ∧ i = .int .i64 (j : Int) ∧ (∀ i, i < j → inN (s.getD i 0) = true) ∧ wr = w)
    (fun i _ => s.length - (Go.RowKit.intOf i).toNat)
  case atStart => exact ⟨0, Nat.zero_le _, rfl, fun i h => absurd h (Nat.not_lt_zero _), rfl⟩
  case round =>
    obtain ⟨j, hj, rfl, hall, rfl⟩ := hrel
    have HA := Lib.hid hall
    clear hall
    by_cases hlt : j < s.length
    · obtain ⟨bb, hbb⟩ : ∃ bb, inN (s.getD j 0) = bb := ⟨_, rfl⟩
      have hbyte : okc (s[j].toNat : Int) = bb := by rw [← hbb, List.getD_eq_getElem?_getD, List.getElem?_eq_getElem hlt]; rfl
      have HB := Lib.hid hbb
      have HC := Lib.hid hbyte
      clear hbb hbyte
      go_wp2_with fail
      refine (inname_any _ _).mono ?_
      rintro e w2 ⟨rfl, rfl⟩
      have hc : okc (((⟨s.toArray⟩ : ByteArray)[j]'(by simpa [ByteArray.size] using hlt)).toNat : Int) = bb := HC.out
      rw [hc]
      clear hc
      cases bb with
      | true =>
        go_wp2_with fail
        go_roundw
        case rel => exact ⟨j + 1, by omega, by go_num, fun i hi => (by
          by_cases e : i = j
          · subst e; exact HB.out
          · exact HA.out i (by omega)), by trivial⟩
        case measure => simp [Go.RowKit.intOf]; omega
      | false =>
        obtain ⟨e1, e2⟩ := takeWhile_at inN s j HA.out hj (Or.inr HB.out)
        have E1 := Lib.hid e1
        have E2 := Lib.hid e2
        clear e1 e2
        go_wp2_with fail
        go_ret
        rw [E1.out, E2.out]
        exact ⟨congrArg (fun x => Ending.returned (.string x)) (ext_take s j), congrArg (fun x => World.setCell w2 ⟨b, 0, none⟩ (.string x)) (ext_drop s j).symm⟩
    · obtain ⟨e1, e2⟩ := takeWhile_at inN s j HA.out hj (Or.inl (by omega))
      have E1 := Lib.hid e1
      have E2 := Lib.hid e2
      clear e1 e2
      go_wp2_with fail
      go_ret
      rw [E1.out, E2.out]
      exact ⟨congrArg (fun x => Ending.returned (.string x)) (ext_take s j), congrArg (fun x => World.setCell wr ⟨b, 0, none⟩ (.string x)) (ext_drop s j).symm⟩

set_option maxRecDepth 100000 in
set_option maxHeartbeats 1600000 in
theorem while_digit (b : Nat) (s : List UInt8) (w : World) (hr : Rd w b s) (hs : s.length ≤ 65536) :
    Calls Tryz.prog 143 #[.pointer (some ⟨b, 0, none⟩), .func (Fn.func 134) #[] #[]] w fun e w' => e = .returned (.string ⟨(s.takeWhile inD).toArray⟩) ∧ w.setCell ⟨b, 0, none⟩ (.string ⟨(s.dropWhile inD).toArray⟩) = w' := by
  have c1 := cell_of_one hr
  have c2 := free_of_one hr
  clear hr
  go_enter Tryz.func143, Tryz.ntmps143
  go_wp2_with fail
  go_loopw [5] (fun i wr => ∃ j : Nat, j ≤ s.length ∧ i = .int .i64 (j : Int) ∧ (∀ i, i < j → inD (s.getD i 0) = true) ∧ wr = w)
    (fun i _ => s.length - (Go.RowKit.intOf i).toNat)
  case atStart => exact ⟨0, Nat.zero_le _, rfl, fun i h => absurd h (Nat.not_lt_zero _), rfl⟩
  case round =>
    obtain ⟨j, hj, rfl, hall, rfl⟩ := hrel
    have HA := Lib.hid hall
    clear hall
    by_cases hlt : j < s.length
    · obtain ⟨bb, hbb⟩ : ∃ bb, inD (s.getD j 0) = bb := ⟨_, rfl⟩
      have hbyte : isD (s[j].toNat : Int) = bb := by rw [← hbb, List.getD_eq_getElem?_getD, List.getElem?_eq_getElem hlt]; rfl
      have HB := Lib.hid hbb
      have HC := Lib.hid hbyte
      clear hbb hbyte
      go_wp2_with fail
      refine (digit_any _ _).mono ?_
      rintro e w2 ⟨rfl, rfl⟩
      have hc : isD (((⟨s.toArray⟩ : ByteArray)[j]'(by simpa [ByteArray.size] using hlt)).toNat : Int) = bb := HC.out
      rw [hc]
      clear hc
      cases bb with
      | true =>
        go_wp2_with fail
        go_roundw
        case rel => exact ⟨j + 1, by omega, by go_num, fun i hi => (by
          by_cases e : i = j
          · subst e; exact HB.out
          · exact HA.out i (by omega)), by trivial⟩
        case measure => simp [Go.RowKit.intOf]; omega
      | false =>
        obtain ⟨e1, e2⟩ := takeWhile_at inD s j HA.out hj (Or.inr HB.out)
        have E1 := Lib.hid e1
        have E2 := Lib.hid e2
        clear e1 e2
        go_wp2_with fail
        go_ret
        rw [E1.out, E2.out]
        exact ⟨congrArg (fun x => Ending.returned (.string x)) (ext_take s j), congrArg (fun x => World.setCell w2 ⟨b, 0, none⟩ (.string x)) (ext_drop s j).symm⟩
    · obtain ⟨e1, e2⟩ := takeWhile_at inD s j HA.out hj (Or.inl (by omega))
      have E1 := Lib.hid e1
      have E2 := Lib.hid e2
      clear e1 e2
      go_wp2_with fail
      go_ret
      rw [E1.out, E2.out]
      exact ⟨congrArg (fun x => Ending.returned (.string x)) (ext_take s j), congrArg (fun x => World.setCell wr ⟨b, 0, none⟩ (.string x)) (ext_drop s j).symm⟩


def Fails (w : World) (b : Nat) (e : Ending) (w' : World) : Prop := e = .panicked [{ v := .iface 26 (.int .i64 4), recovered := false }] ∧ w.grownBy w' (some b)

theorem grown_call {w w1 w2 : World} {b : Nat} (h : w.grownBy w1 (some b)) (hb : Below w1.heap.size w1 w2) : w.grownBy w2 (some b) :=
  grown_tr h ⟨hb.os, hb.tape, hb.output, hb.size, fun k hk _ => hb.block k hk⟩

theorem rd_below {w w' : World} {b : Nat} {s : List UInt8} (h : Rd w b s) (hb : Below w.heap.size w w') : Rd w' b s := (hb.block _ (lt_of_block h)).trans h

set_option maxHeartbeats 800000 in
theorem rname_yes (b : Nat) (s r : List UInt8) (n : ByteArray) (w : World) (hr : Rd w b s) (hs : s.length ≤ 65536) (h : rdName s = some (n, r)) :
    Calls Tryz.prog 123 #[.pointer (some ⟨b, 0, none⟩)] w fun e w' => e = .returned (.string n) ∧ Rd w' b r ∧ w.grownBy w' (some b) := by
  unfold rdName at h
  split at h
  · rename_i hn
    simp only [Option.some.injEq, Prod.mk.injEq] at h
    obtain ⟨rfl, rfl⟩ := h
    have HW := Lib.hid fun w hr => while_name b s w hr hs
    have HN := Lib.hid fun w => named_any ⟨(s.takeWhile inN).toArray⟩ w
    rw [hn] at HN
    generalize s.takeWhile inN = p at HW HN ⊢
    generalize s.dropWhile inN = r at HW ⊢
    have HR := Lib.hid hr
    clear hr hs hn
    go_enter Tryz.func123, Tryz.ntmps123
    go_wp2_with fail
    refine (HW.out _ HR.out).mono ?_
    rintro e w1 ⟨rfl, hw1⟩
    have h1 : Rd w1 b r := by rw [← hw1]; exact rd_set HR.out r
    have g1 : w.grownBy w1 (some b) := by rw [← hw1]; exact grown_set0 _ _ _
    clear hw1 HR HW
    go_wp2_with fail
    refine (HN.out _).mono ?_
    rintro e w2 ⟨rfl, hb2⟩
    go_wp2_with fail
    go_ret
    exact ⟨rfl, rd_below h1 hb2, grown_call g1 hb2⟩
  · cases h

set_option maxHeartbeats 800000 in
theorem rname_no (b : Nat) (s : List UInt8) (w : World) (hr : Rd w b s) (hs : s.length ≤ 65536) (h : rdName s = none) :
    Calls Tryz.prog 123 #[.pointer (some ⟨b, 0, none⟩)] w (Fails w b) := by
  unfold rdName at h
  split at h
  · cases h
  · rename_i hn
    have hn : nm ⟨(s.takeWhile inN).toArray⟩ = false := by simpa using hn
    have HW := Lib.hid fun w hr => while_name b s w hr hs
    have HN := Lib.hid fun w => named_any ⟨(s.takeWhile inN).toArray⟩ w
    rw [hn] at HN
    generalize s.takeWhile inN = p at HW HN ⊢
    generalize s.dropWhile inN = r at HW ⊢
    have HR := Lib.hid hr
    clear hr hs hn h
    go_enter Tryz.func123, Tryz.ntmps123
    go_wp2_with fail
    refine (HW.out _ HR.out).mono ?_
    rintro e w1 ⟨rfl, hw1⟩
    have g1 : w.grownBy w1 (some b) := by rw [← hw1]; exact grown_set0 _ _ _
    clear hw1 HR HW
    go_wp2_with fail
    refine (HN.out _).mono ?_
    rintro e w2 ⟨rfl, hb2⟩
    go_wp2_with fail
    refine (fail_any _).mono ?_
    rintro e w3 ⟨rfl, rfl⟩
    go_wp2_with fail
    exact ⟨rfl, rfl, grown_call g1 hb2⟩

/-- Number at digits d that a reader takes -/
theorem numOf_some {d : List UInt8} {v : Int} (h : numOf d = some v) : Lib.atoiAll d = .ok v ∧ v ≤ 1000000000 ∧ ¬ (1 < d.length ∧ d.getD 0 0 = 48) := by
  unfold numOf at h
  split at h
  · rename_i v' he
    split at h
    · rename_i hc
      simp only [Option.some.injEq] at h
      subst h
      exact ⟨he, hc⟩
    · cases h
  · cases h

theorem numOf_none {d : List UInt8} (h : numOf d = none) : (∀ v, Lib.atoiAll d ≠ .ok v) ∨ ∃ v, Lib.atoiAll d = .ok v ∧ (1000000000 < v ∨ (v ≤ 1000000000 ∧ 1 < d.length ∧ d.getD 0 0 = 48)) := by
  unfold numOf at h
  split at h
  · rename_i v' he
    split at h
    · cases h
    · rename_i hc
      refine Or.inr ⟨v', he, ?_⟩
      by_cases h1 : 1000000000 < v'
      · exact Or.inl h1
      · refine Or.inr ⟨by omega, ?_⟩
        by_cases h2 : 1 < d.length ∧ d.getD 0 0 = 48
        · exact h2
        · exact absurd ⟨by omega, h2⟩ hc
  · rename_i hn
    exact Or.inl fun v e => hn v e

theorem first_byte {d : List UInt8} (h : 1 < d.length) : (((⟨d.toArray⟩ : ByteArray)[0]'(by simp [ByteArray.size]; omega)).toNat : Int) = ((d.getD 0 0).toNat : Int) := by
  cases d with
  | nil => simp at h
  | cons a d => rfl

set_option maxHeartbeats 1600000 in
theorem rnum_yes (b : Nat) (s r : List UInt8) (v : Int) (w : World) (hr : Rd w b s) (hs : s.length ≤ 65536) (h : rdNum s = some (v, r)) :
    Calls Tryz.prog 124 #[.pointer (some ⟨b, 0, none⟩), .int .i64 1000000000] w fun e w' => e = .returned (.int .i64 v) ∧ Rd w' b r ∧ w.grownBy w' (some b) := by
  unfold rdNum at h
  rw [Option.map_eq_some_iff] at h
  obtain ⟨v', hx, he⟩ := h
  simp only [Prod.mk.injEq] at he
  obtain ⟨rfl, rfl⟩ := he
  obtain ⟨h1, h2, h3⟩ := numOf_some hx
  have hd : (s.takeWhile inD).length ≤ 65536 := Nat.le_trans ((List.takeWhile_sublist _).length_le) hs
  have HW := Lib.hid fun w hr => while_digit b s w hr hs
  have HA := Lib.hid fun w => atoi_yes _ _ h1 w hd
  generalize s.takeWhile inD = d at HW HA h3 hd ⊢
  generalize s.dropWhile inD = r at HW ⊢
  have HR := Lib.hid hr
  have h2' : decide ((1000000000 : Int) < v') = false := by simpa using h2
  clear hr hs hx h1 h2
  by_cases hl : 1 < d.length
  · have hl' : decide ((1 : Int) < (d.length : Int)) = true := by rw [decide_eq_true_eq]; omega
    have hb0 : ((((⟨d.toArray⟩ : ByteArray)[0]'(by simp [ByteArray.size]; omega)).toNat : Int) == 48) = false := by
      rw [first_byte hl, beq_eq_false_iff_ne]
      intro e
      exact h3 ⟨hl, by apply UInt8.toNat_inj.1; show _ = 48; omega⟩
    clear h3
    go_enter Tryz.func124, Tryz.ntmps124
    go_wp2_with fail
    refine (HW.out _ HR.out).mono ?_
    rintro e w1 ⟨rfl, hw1⟩
    have r1 : Rd w1 b r := by rw [← hw1]; exact rd_set HR.out r
    have g1 : w.grownBy w1 (some b) := by rw [← hw1]; exact grown_set0 _ _ _
    clear hw1 HR HW
    go_wp2_with fail
    refine (HA.out _).mono ?_
    rintro e w2 ⟨rfl, hb2⟩
    go_wp2_with fail
    go_ret
    exact ⟨rfl, rd_below r1 hb2, grown_call g1 hb2⟩
  · have hl' : decide ((1 : Int) < (d.length : Int)) = false := by rw [decide_eq_false_iff_not]; omega
    clear h3
    go_enter Tryz.func124, Tryz.ntmps124
    go_wp2_with fail
    refine (HW.out _ HR.out).mono ?_
    rintro e w1 ⟨rfl, hw1⟩
    have r1 : Rd w1 b r := by rw [← hw1]; exact rd_set HR.out r
    have g1 : w.grownBy w1 (some b) := by rw [← hw1]; exact grown_set0 _ _ _
    clear hw1 HR HW
    go_wp2_with fail
    refine (HA.out _).mono ?_
    rintro e w2 ⟨rfl, hb2⟩
    go_wp2_with fail
    go_ret
    exact ⟨rfl, rd_below r1 hb2, grown_call g1 hb2⟩

set_option maxHeartbeats 1600000 in
theorem rnum_no (b : Nat) (s : List UInt8) (w : World) (hr : Rd w b s) (hg : Gl w) (hB : 6 ≤ b) (hs : s.length ≤ 65536) (h : rdNum s = none) :
    Calls Tryz.prog 124 #[.pointer (some ⟨b, 0, none⟩), .int .i64 1000000000] w (Fails w b) := by
  unfold rdNum at h
  rw [Option.map_eq_none_iff] at h
  have hd : (s.takeWhile inD).length ≤ 65536 := Nat.le_trans ((List.takeWhile_sublist _).length_le) hs
  have HW := Lib.hid fun w hr => while_digit b s w hr hs
  generalize s.takeWhile inD = d at HW h hd ⊢
  generalize s.dropWhile inD = r at HW ⊢
  have HR := Lib.hid hr
  have HG := Lib.hid hg
  have hB6 := Lib.hid hB
  clear hr hs hg hB
  have hgl : ∀ w1, w.setCell ⟨b, 0, none⟩ (.string ⟨r.toArray⟩) = w1 → Gl w1 := fun w1 e => by
    rw [← e]; exact HG.out.keep fun k hk => Below.heap_setCell _ _ _ _ (show k ≠ b by have := hB6.out; omega)
  have HGL := Lib.hid hgl
  clear hgl
  rcases numOf_none h with h1 | ⟨v, h1, h2⟩
  · have HA := Lib.hid fun w hg => atoi_no _ h1 w hg hd
    clear h1 h
    go_enter Tryz.func124, Tryz.ntmps124
    go_wp2_with fail
    refine (HW.out _ HR.out).mono ?_
    rintro e w1 ⟨rfl, hw1⟩
    have gl1 := HGL.out _ hw1
    have g1 : w.grownBy w1 (some b) := by rw [← hw1]; exact grown_set0 _ _ _
    clear hw1 HR HW
    go_wp2_with fail
    refine (HA.out _ gl1).mono ?_
    rintro e w2 ⟨v, N, rfl, hb2⟩
    go_wp2_with fail
    refine (fail_any _).mono ?_
    rintro e w3 ⟨rfl, rfl⟩
    go_wp2_with fail
    exact ⟨rfl, rfl, grown_call g1 hb2⟩
  · have HA := Lib.hid fun w => atoi_yes _ _ h1 w hd
    clear h1 h
    rcases h2 with h2 | ⟨h2, h3, h4⟩
    · have h2' : decide ((1000000000 : Int) < v) = true := by simpa using h2
      clear h2
      go_enter Tryz.func124, Tryz.ntmps124
      go_wp2_with fail
      refine (HW.out _ HR.out).mono ?_
      rintro e w1 ⟨rfl, hw1⟩
      have g1 : w.grownBy w1 (some b) := by rw [← hw1]; exact grown_set0 _ _ _
      clear hw1 HR HW
      go_wp2_with fail
      refine (HA.out _).mono ?_
      rintro e w2 ⟨rfl, hb2⟩
      go_wp2_with fail
      refine (fail_any _).mono ?_
      rintro e w3 ⟨rfl, rfl⟩
      go_wp2_with fail
      exact ⟨rfl, rfl, grown_call g1 hb2⟩
    · have h2' : decide ((1000000000 : Int) < v) = false := by simpa using h2
      have hl' : decide ((1 : Int) < (d.length : Int)) = true := by rw [decide_eq_true_eq]; omega
      have hb0 : ((((⟨d.toArray⟩ : ByteArray)[0]'(by simp [ByteArray.size]; omega)).toNat : Int) == 48) = true := by
        rw [first_byte h3, h4]; rfl
      clear h2 h4
      go_enter Tryz.func124, Tryz.ntmps124
      go_wp2_with fail
      refine (HW.out _ HR.out).mono ?_
      rintro e w1 ⟨rfl, hw1⟩
      have g1 : w.grownBy w1 (some b) := by rw [← hw1]; exact grown_set0 _ _ _
      clear hw1 HR HW
      go_wp2_with fail
      refine (HA.out _).mono ?_
      rintro e w2 ⟨rfl, hb2⟩
      go_wp2_with fail
      refine (fail_any _).mono ?_
      rintro e w3 ⟨rfl, rfl⟩
      go_wp2_with fail
      exact ⟨rfl, rfl, grown_call g1 hb2⟩

end Go.Proofs.YtjkcopgfcafpeaaGreatDoor

