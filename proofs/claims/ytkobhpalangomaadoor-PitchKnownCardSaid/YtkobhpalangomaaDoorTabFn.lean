/- THE FUNCTIONS' ROWS. -/
import Derived.Test.YtkobhpalangomaaDoorTabTy
/-! THE FUNCTIONS' ROWS. -/
namespace Go.Sx
open Go.Proofs
set_option maxRecDepth 100000
noncomputable def Tryd.rr21033 : RRow := ⟨21033, 21, Tryd.f21.ntmps, Sx.Tryd.kp21, (firstR (ranges (bodyOf Tryd.f21))).1, (firstR (ranges (bodyOf Tryd.f21))).2⟩
noncomputable def Tryd.rr32015 : RRow := ⟨32015, 32, Tryd.f32.ntmps, Sx.Tryd.kp32, (firstR (ranges (bodyOf Tryd.f32))).1, (firstR (ranges (bodyOf Tryd.f32))).2⟩
noncomputable def Tryd.rr66009 : RRow := ⟨66009, 66, Tryd.f66.ntmps, Sx.Tryd.kp66, (firstR (ranges (bodyOf Tryd.f66))).1, (firstR (ranges (bodyOf Tryd.f66))).2⟩
noncomputable def Tryd.rr72010 : RRow := ⟨72010, 72, Tryd.f72.ntmps, Sx.Tryd.kp72, (firstR (ranges (bodyOf Tryd.f72))).1, (firstR (ranges (bodyOf Tryd.f72))).2⟩
noncomputable def Tryd.rows : List RRow := [Tryd.rr21033, Tryd.rr32015, Tryd.rr66009, Tryd.rr72010]
theorem Tryd.fk3 : FRow ⟨Tryd.prog, rcOf Tryd.rows⟩ Sx.Tryd.tt.get 3 Sx.Tryd.cf3 := FRow.plain Sx.Tryd.kp3 (bodyOf Tryd.f3) Tryd.func3 (by kernel_rfl) (by kernel_rfl) (by kernel_rfl) [] (by kernel_rfl) (fun q hq => by cases hq)
theorem Tryd.fk4 : FRow ⟨Tryd.prog, rcOf Tryd.rows⟩ Sx.Tryd.tt.get 4 Sx.Tryd.cf4 := FRow.plain Sx.Tryd.kp4 (bodyOf Tryd.f4) Tryd.func4 (by kernel_rfl) (by kernel_rfl) (by kernel_rfl) [] (by kernel_rfl) (fun q hq => by cases hq)
theorem Tryd.fk5 : FRow ⟨Tryd.prog, rcOf Tryd.rows⟩ Sx.Tryd.tt.get 5 Sx.Tryd.cf5 := FRow.plain Sx.Tryd.kp5 (bodyOf Tryd.f5) Tryd.func5 (by kernel_rfl) (by kernel_rfl) (by kernel_rfl) [] (by kernel_rfl) (fun q hq => by cases hq)
theorem Tryd.fk6 : FRow ⟨Tryd.prog, rcOf Tryd.rows⟩ Sx.Tryd.tt.get 6 Sx.Tryd.cf6 := FRow.plain Sx.Tryd.kp6 (bodyOf Tryd.f6) Tryd.func6 (by kernel_rfl) (by kernel_rfl) (by kernel_rfl) [] (by kernel_rfl) (fun q hq => by cases hq)
theorem Tryd.fk7 : FRow ⟨Tryd.prog, rcOf Tryd.rows⟩ Sx.Tryd.tt.get 7 Sx.Tryd.cf7 := FRow.plain Sx.Tryd.kp7 (bodyOf Tryd.f7) Tryd.func7 (by kernel_rfl) (by kernel_rfl) (by kernel_rfl) [] (by kernel_rfl) (fun q hq => by cases hq)
theorem Tryd.fk8 : FRow ⟨Tryd.prog, rcOf Tryd.rows⟩ Sx.Tryd.tt.get 8 Sx.Tryd.cf8 := FRow.plain Sx.Tryd.kp8 (bodyOf Tryd.f8) Tryd.func8 (by kernel_rfl) (by kernel_rfl) (by kernel_rfl) [] (by kernel_rfl) (fun q hq => by cases hq)
theorem Tryd.fk9 : FRow ⟨Tryd.prog, rcOf Tryd.rows⟩ Sx.Tryd.tt.get 9 Sx.Tryd.cf9 := FRow.plain Sx.Tryd.kp9 (bodyOf Tryd.f9) Tryd.func9 (by kernel_rfl) (by kernel_rfl) (by kernel_rfl) [] (by kernel_rfl) (fun q hq => by cases hq)
theorem Tryd.fk10 : FRow ⟨Tryd.prog, rcOf Tryd.rows⟩ Sx.Tryd.tt.get 10 Sx.Tryd.cf10 := FRow.plain Sx.Tryd.kp10 (bodyOf Tryd.f10) Tryd.func10 (by kernel_rfl) (by kernel_rfl) (by kernel_rfl) [] (by kernel_rfl) (fun q hq => by cases hq)
theorem Tryd.fk11 : FRow ⟨Tryd.prog, rcOf Tryd.rows⟩ Sx.Tryd.tt.get 11 Sx.Tryd.cf11 := FRow.plain Sx.Tryd.kp11 (bodyOf Tryd.f11) Tryd.func11 (by kernel_rfl) (by kernel_rfl) (by kernel_rfl) [] (by kernel_rfl) (fun q hq => by cases hq)
theorem Tryd.fk12 : FRow ⟨Tryd.prog, rcOf Tryd.rows⟩ Sx.Tryd.tt.get 12 Sx.Tryd.cf12 := FRow.plain Sx.Tryd.kp12 (bodyOf Tryd.f12) Tryd.func12 (by kernel_rfl) (by kernel_rfl) (by kernel_rfl) [] (by kernel_rfl) (fun q hq => by cases hq)
theorem Tryd.fk13 : FRow ⟨Tryd.prog, rcOf Tryd.rows⟩ Sx.Tryd.tt.get 13 Sx.Tryd.cf13 := FRow.plain Sx.Tryd.kp13 (bodyOf Tryd.f13) Tryd.func13 (by kernel_rfl) (by kernel_rfl) (by kernel_rfl) [] (by kernel_rfl) (fun q hq => by cases hq)
theorem Tryd.fk14 : FRow ⟨Tryd.prog, rcOf Tryd.rows⟩ Sx.Tryd.tt.get 14 Sx.Tryd.cf14 := FRow.plain Sx.Tryd.kp14 (bodyOf Tryd.f14) Tryd.func14 (by kernel_rfl) (by kernel_rfl) (by kernel_rfl) [] (by kernel_rfl) (fun q hq => by cases hq)
theorem Tryd.fk15 : FRow ⟨Tryd.prog, rcOf Tryd.rows⟩ Sx.Tryd.tt.get 15 Sx.Tryd.cf15 := FRow.plain Sx.Tryd.kp15 (bodyOf Tryd.f15) Tryd.func15 (by kernel_rfl) (by kernel_rfl) (by kernel_rfl) [] (by kernel_rfl) (fun q hq => by cases hq)
theorem Tryd.fk16 : FRow ⟨Tryd.prog, rcOf Tryd.rows⟩ Sx.Tryd.tt.get 16 Sx.Tryd.cf16 := FRow.plain Sx.Tryd.kp16 (bodyOf Tryd.f16) Tryd.func16 (by kernel_rfl) (by kernel_rfl) (by kernel_rfl) [] (by kernel_rfl) (fun q hq => by cases hq)
theorem Tryd.fk17 : FRow ⟨Tryd.prog, rcOf Tryd.rows⟩ Sx.Tryd.tt.get 17 Sx.Tryd.cf17 := FRow.plain Sx.Tryd.kp17 (bodyOf Tryd.f17) Tryd.func17 (by kernel_rfl) (by kernel_rfl) (by kernel_rfl) [] (by kernel_rfl) (fun q hq => by cases hq)
theorem Tryd.fk18 : FRow ⟨Tryd.prog, rcOf Tryd.rows⟩ Sx.Tryd.tt.get 18 Sx.Tryd.cf18 := FRow.plain Sx.Tryd.kp18 (bodyOf Tryd.f18) Tryd.func18 (by kernel_rfl) (by kernel_rfl) (by kernel_rfl) [] (by kernel_rfl) (fun q hq => by cases hq)
theorem Tryd.fk19 : FRow ⟨Tryd.prog, rcOf Tryd.rows⟩ Sx.Tryd.tt.get 19 Sx.Tryd.cf19 := FRow.plain Sx.Tryd.kp19 (bodyOf Tryd.f19) Tryd.func19 (by kernel_rfl) (by kernel_rfl) (by kernel_rfl) [] (by kernel_rfl) (fun q hq => by cases hq)
theorem Tryd.fk20 : FRow ⟨Tryd.prog, rcOf Tryd.rows⟩ Sx.Tryd.tt.get 20 Sx.Tryd.cf20 := FRow.plain Sx.Tryd.kp20 (bodyOf Tryd.f20) Tryd.func20 (by kernel_rfl) (by kernel_rfl) (by kernel_rfl) [] (by kernel_rfl) (fun q hq => by cases hq)
theorem Tryd.fk21 : FRow ⟨Tryd.prog, rcOf Tryd.rows⟩ Sx.Tryd.tt.get 21 Sx.Tryd.cf21 := FRow.plain Sx.Tryd.kp21 (bodyOf Tryd.f21) Tryd.func21 (by kernel_rfl) (by kernel_rfl) (by kernel_rfl) [([33], Tryd.rr21033.a, Tryd.rr21033.b)] (by kernel_rfl) (fun q hq id hid => by
  rcases List.mem_singleton.1 hq with rfl
  cases hid
  exact ⟨Tryd.rr21033, by simp [Tryd.rows], rfl, rfl, rfl, rfl, rfl⟩)
theorem Tryd.fk22 : FRow ⟨Tryd.prog, rcOf Tryd.rows⟩ Sx.Tryd.tt.get 22 Sx.Tryd.cf22 := FRow.plain Sx.Tryd.kp22 (bodyOf Tryd.f22) Tryd.func22 (by kernel_rfl) (by kernel_rfl) (by kernel_rfl) [] (by kernel_rfl) (fun q hq => by cases hq)
theorem Tryd.fk23 : FRow ⟨Tryd.prog, rcOf Tryd.rows⟩ Sx.Tryd.tt.get 23 Sx.Tryd.cf23 := FRow.plain Sx.Tryd.kp23 (bodyOf Tryd.f23) Tryd.func23 (by kernel_rfl) (by kernel_rfl) (by kernel_rfl) [] (by kernel_rfl) (fun q hq => by cases hq)
theorem Tryd.fk24 : FRow ⟨Tryd.prog, rcOf Tryd.rows⟩ Sx.Tryd.tt.get 24 Sx.Tryd.cf24 := FRow.plain Sx.Tryd.kp24 (bodyOf Tryd.f24) Tryd.func24 (by kernel_rfl) (by kernel_rfl) (by kernel_rfl) [] (by kernel_rfl) (fun q hq => by cases hq)
theorem Tryd.fk25 : FRow ⟨Tryd.prog, rcOf Tryd.rows⟩ Sx.Tryd.tt.get 25 Sx.Tryd.cf25 := FRow.plain Sx.Tryd.kp25 (bodyOf Tryd.f25) Tryd.func25 (by kernel_rfl) (by kernel_rfl) (by kernel_rfl) [] (by kernel_rfl) (fun q hq => by cases hq)
theorem Tryd.fk26 : FRow ⟨Tryd.prog, rcOf Tryd.rows⟩ Sx.Tryd.tt.get 26 Sx.Tryd.cf26 := FRow.plain Sx.Tryd.kp26 (bodyOf Tryd.f26) Tryd.func26 (by kernel_rfl) (by kernel_rfl) (by kernel_rfl) [] (by kernel_rfl) (fun q hq => by cases hq)
theorem Tryd.fk27 : FRow ⟨Tryd.prog, rcOf Tryd.rows⟩ Sx.Tryd.tt.get 27 Sx.Tryd.cf27 := FRow.plain Sx.Tryd.kp27 (bodyOf Tryd.f27) Tryd.func27 (by kernel_rfl) (by kernel_rfl) (by kernel_rfl) [] (by kernel_rfl) (fun q hq => by cases hq)
theorem Tryd.fk28 : FRow ⟨Tryd.prog, rcOf Tryd.rows⟩ Sx.Tryd.tt.get 28 Sx.Tryd.cf28 := FRow.plain Sx.Tryd.kp28 (bodyOf Tryd.f28) Tryd.func28 (by kernel_rfl) (by kernel_rfl) (by kernel_rfl) [] (by kernel_rfl) (fun q hq => by cases hq)
theorem Tryd.fk29 : FRow ⟨Tryd.prog, rcOf Tryd.rows⟩ Sx.Tryd.tt.get 29 Sx.Tryd.cf29 := FRow.plain Sx.Tryd.kp29 (bodyOf Tryd.f29) Tryd.func29 (by kernel_rfl) (by kernel_rfl) (by kernel_rfl) [] (by kernel_rfl) (fun q hq => by cases hq)
theorem Tryd.fk30 : FRow ⟨Tryd.prog, rcOf Tryd.rows⟩ Sx.Tryd.tt.get 30 Sx.Tryd.cf30 := FRow.plain Sx.Tryd.kp30 (bodyOf Tryd.f30) Tryd.func30 (by kernel_rfl) (by kernel_rfl) (by kernel_rfl) [] (by kernel_rfl) (fun q hq => by cases hq)
theorem Tryd.fk31 : FRow ⟨Tryd.prog, rcOf Tryd.rows⟩ Sx.Tryd.tt.get 31 Sx.Tryd.cf31 := FRow.plain Sx.Tryd.kp31 (bodyOf Tryd.f31) Tryd.func31 (by kernel_rfl) (by kernel_rfl) (by kernel_rfl) [] (by kernel_rfl) (fun q hq => by cases hq)
theorem Tryd.fk32 : FRow ⟨Tryd.prog, rcOf Tryd.rows⟩ Sx.Tryd.tt.get 32 Sx.Tryd.cf32 := FRow.plain Sx.Tryd.kp32 (bodyOf Tryd.f32) Tryd.func32 (by kernel_rfl) (by kernel_rfl) (by kernel_rfl) [([15], Tryd.rr32015.a, Tryd.rr32015.b)] (by kernel_rfl) (fun q hq id hid => by
  rcases List.mem_singleton.1 hq with rfl
  cases hid
  exact ⟨Tryd.rr32015, by simp [Tryd.rows], rfl, rfl, rfl, rfl, rfl⟩)
theorem Tryd.fk33 : FRow ⟨Tryd.prog, rcOf Tryd.rows⟩ Sx.Tryd.tt.get 33 Sx.Tryd.cf33 := FRow.plain Sx.Tryd.kp33 (bodyOf Tryd.f33) Tryd.func33 (by kernel_rfl) (by kernel_rfl) (by kernel_rfl) [] (by kernel_rfl) (fun q hq => by cases hq)
theorem Tryd.fk34 : FRow ⟨Tryd.prog, rcOf Tryd.rows⟩ Sx.Tryd.tt.get 34 Sx.Tryd.cf34 := FRow.plain Sx.Tryd.kp34 (bodyOf Tryd.f34) Tryd.func34 (by kernel_rfl) (by kernel_rfl) (by kernel_rfl) [] (by kernel_rfl) (fun q hq => by cases hq)
theorem Tryd.fk35 : FRow ⟨Tryd.prog, rcOf Tryd.rows⟩ Sx.Tryd.tt.get 35 Sx.Tryd.cf35 := FRow.plain Sx.Tryd.kp35 (bodyOf Tryd.f35) Tryd.func35 (by kernel_rfl) (by kernel_rfl) (by kernel_rfl) [] (by kernel_rfl) (fun q hq => by cases hq)
theorem Tryd.fk36 : FRow ⟨Tryd.prog, rcOf Tryd.rows⟩ Sx.Tryd.tt.get 36 Sx.Tryd.cf36 := FRow.plain Sx.Tryd.kp36 (bodyOf Tryd.f36) Tryd.func36 (by kernel_rfl) (by kernel_rfl) (by kernel_rfl) [] (by kernel_rfl) (fun q hq => by cases hq)
theorem Tryd.fk37 : FRow ⟨Tryd.prog, rcOf Tryd.rows⟩ Sx.Tryd.tt.get 37 Sx.Tryd.cf37 := FRow.plain Sx.Tryd.kp37 (bodyOf Tryd.f37) Tryd.func37 (by kernel_rfl) (by kernel_rfl) (by kernel_rfl) [] (by kernel_rfl) (fun q hq => by cases hq)
theorem Tryd.fk38 : FRow ⟨Tryd.prog, rcOf Tryd.rows⟩ Sx.Tryd.tt.get 38 Sx.Tryd.cf38 := FRow.plain Sx.Tryd.kp38 (bodyOf Tryd.f38) Tryd.func38 (by kernel_rfl) (by kernel_rfl) (by kernel_rfl) [] (by kernel_rfl) (fun q hq => by cases hq)
theorem Tryd.fk39 : FRow ⟨Tryd.prog, rcOf Tryd.rows⟩ Sx.Tryd.tt.get 39 Sx.Tryd.cf39 := FRow.plain Sx.Tryd.kp39 (bodyOf Tryd.f39) Tryd.func39 (by kernel_rfl) (by kernel_rfl) (by kernel_rfl) [] (by kernel_rfl) (fun q hq => by cases hq)
theorem Tryd.fk40 : FRow ⟨Tryd.prog, rcOf Tryd.rows⟩ Sx.Tryd.tt.get 40 Sx.Tryd.cf40 := FRow.plain Sx.Tryd.kp40 (bodyOf Tryd.f40) Tryd.func40 (by kernel_rfl) (by kernel_rfl) (by kernel_rfl) [] (by kernel_rfl) (fun q hq => by cases hq)
theorem Tryd.fk41 : FRow ⟨Tryd.prog, rcOf Tryd.rows⟩ Sx.Tryd.tt.get 41 Sx.Tryd.cf41 := FRow.plain Sx.Tryd.kp41 (bodyOf Tryd.f41) Tryd.func41 (by kernel_rfl) (by kernel_rfl) (by kernel_rfl) [] (by kernel_rfl) (fun q hq => by cases hq)
theorem Tryd.fk42 : FRow ⟨Tryd.prog, rcOf Tryd.rows⟩ Sx.Tryd.tt.get 42 Sx.Tryd.cf42 := FRow.plain Sx.Tryd.kp42 (bodyOf Tryd.f42) Tryd.func42 (by kernel_rfl) (by kernel_rfl) (by kernel_rfl) [] (by kernel_rfl) (fun q hq => by cases hq)
theorem Tryd.fk43 : FRow ⟨Tryd.prog, rcOf Tryd.rows⟩ Sx.Tryd.tt.get 43 Sx.Tryd.cf43 := FRow.plain Sx.Tryd.kp43 (bodyOf Tryd.f43) Tryd.func43 (by kernel_rfl) (by kernel_rfl) (by kernel_rfl) [] (by kernel_rfl) (fun q hq => by cases hq)
theorem Tryd.fk44 : FRow ⟨Tryd.prog, rcOf Tryd.rows⟩ Sx.Tryd.tt.get 44 Sx.Tryd.cf44 := FRow.plain Sx.Tryd.kp44 (bodyOf Tryd.f44) Tryd.func44 (by kernel_rfl) (by kernel_rfl) (by kernel_rfl) [] (by kernel_rfl) (fun q hq => by cases hq)
theorem Tryd.fk45 : FRow ⟨Tryd.prog, rcOf Tryd.rows⟩ Sx.Tryd.tt.get 45 Sx.Tryd.cf45 := FRow.plain Sx.Tryd.kp45 (bodyOf Tryd.f45) Tryd.func45 (by kernel_rfl) (by kernel_rfl) (by kernel_rfl) [] (by kernel_rfl) (fun q hq => by cases hq)
theorem Tryd.fk46 : FRow ⟨Tryd.prog, rcOf Tryd.rows⟩ Sx.Tryd.tt.get 46 Sx.Tryd.cf46 := FRow.plain Sx.Tryd.kp46 (bodyOf Tryd.f46) Tryd.func46 (by kernel_rfl) (by kernel_rfl) (by kernel_rfl) [] (by kernel_rfl) (fun q hq => by cases hq)
theorem Tryd.fk47 : FRow ⟨Tryd.prog, rcOf Tryd.rows⟩ Sx.Tryd.tt.get 47 Sx.Tryd.cf47 := FRow.plain Sx.Tryd.kp47 (bodyOf Tryd.f47) Tryd.func47 (by kernel_rfl) (by kernel_rfl) (by kernel_rfl) [] (by kernel_rfl) (fun q hq => by cases hq)
theorem Tryd.fk48 : FRow ⟨Tryd.prog, rcOf Tryd.rows⟩ Sx.Tryd.tt.get 48 Sx.Tryd.cf48 := FRow.plain Sx.Tryd.kp48 (bodyOf Tryd.f48) Tryd.func48 (by kernel_rfl) (by kernel_rfl) (by kernel_rfl) [] (by kernel_rfl) (fun q hq => by cases hq)
theorem Tryd.fk49 : FRow ⟨Tryd.prog, rcOf Tryd.rows⟩ Sx.Tryd.tt.get 49 Sx.Tryd.cf49 := FRow.plain Sx.Tryd.kp49 (bodyOf Tryd.f49) Tryd.func49 (by kernel_rfl) (by kernel_rfl) (by kernel_rfl) [] (by kernel_rfl) (fun q hq => by cases hq)
theorem Tryd.fk50 : FRow ⟨Tryd.prog, rcOf Tryd.rows⟩ Sx.Tryd.tt.get 50 Sx.Tryd.cf50 := FRow.plain Sx.Tryd.kp50 (bodyOf Tryd.f50) Tryd.func50 (by kernel_rfl) (by kernel_rfl) (by kernel_rfl) [] (by kernel_rfl) (fun q hq => by cases hq)
theorem Tryd.fk51 : FRow ⟨Tryd.prog, rcOf Tryd.rows⟩ Sx.Tryd.tt.get 51 Sx.Tryd.cf51 := FRow.plain Sx.Tryd.kp51 (bodyOf Tryd.f51) Tryd.func51 (by kernel_rfl) (by kernel_rfl) (by kernel_rfl) [] (by kernel_rfl) (fun q hq => by cases hq)
theorem Tryd.fk52 : FRow ⟨Tryd.prog, rcOf Tryd.rows⟩ Sx.Tryd.tt.get 52 Sx.Tryd.cf52 := FRow.plain Sx.Tryd.kp52 (bodyOf Tryd.f52) Tryd.func52 (by kernel_rfl) (by kernel_rfl) (by kernel_rfl) [] (by kernel_rfl) (fun q hq => by cases hq)
theorem Tryd.fk53 : FRow ⟨Tryd.prog, rcOf Tryd.rows⟩ Sx.Tryd.tt.get 53 Sx.Tryd.cf53 := FRow.plain Sx.Tryd.kp53 (bodyOf Tryd.f53) Tryd.func53 (by kernel_rfl) (by kernel_rfl) (by kernel_rfl) [] (by kernel_rfl) (fun q hq => by cases hq)
theorem Tryd.fk54 : FRow ⟨Tryd.prog, rcOf Tryd.rows⟩ Sx.Tryd.tt.get 54 Sx.Tryd.cf54 := FRow.plain Sx.Tryd.kp54 (bodyOf Tryd.f54) Tryd.func54 (by kernel_rfl) (by kernel_rfl) (by kernel_rfl) [] (by kernel_rfl) (fun q hq => by cases hq)
theorem Tryd.fk55 : FRow ⟨Tryd.prog, rcOf Tryd.rows⟩ Sx.Tryd.tt.get 55 Sx.Tryd.cf55 := FRow.plain Sx.Tryd.kp55 (bodyOf Tryd.f55) Tryd.func55 (by kernel_rfl) (by kernel_rfl) (by kernel_rfl) [] (by kernel_rfl) (fun q hq => by cases hq)
theorem Tryd.fk56 : FRow ⟨Tryd.prog, rcOf Tryd.rows⟩ Sx.Tryd.tt.get 56 Sx.Tryd.cf56 := FRow.plain Sx.Tryd.kp56 (bodyOf Tryd.f56) Tryd.func56 (by kernel_rfl) (by kernel_rfl) (by kernel_rfl) [] (by kernel_rfl) (fun q hq => by cases hq)
theorem Tryd.fk57 : FRow ⟨Tryd.prog, rcOf Tryd.rows⟩ Sx.Tryd.tt.get 57 Sx.Tryd.cf57 := FRow.plain Sx.Tryd.kp57 (bodyOf Tryd.f57) Tryd.func57 (by kernel_rfl) (by kernel_rfl) (by kernel_rfl) [] (by kernel_rfl) (fun q hq => by cases hq)
theorem Tryd.fk58 : FRow ⟨Tryd.prog, rcOf Tryd.rows⟩ Sx.Tryd.tt.get 58 Sx.Tryd.cf58 := FRow.plain Sx.Tryd.kp58 (bodyOf Tryd.f58) Tryd.func58 (by kernel_rfl) (by kernel_rfl) (by kernel_rfl) [] (by kernel_rfl) (fun q hq => by cases hq)
theorem Tryd.fk59 : FRow ⟨Tryd.prog, rcOf Tryd.rows⟩ Sx.Tryd.tt.get 59 Sx.Tryd.cf59 := FRow.plain Sx.Tryd.kp59 (bodyOf Tryd.f59) Tryd.func59 (by kernel_rfl) (by kernel_rfl) (by kernel_rfl) [] (by kernel_rfl) (fun q hq => by cases hq)
theorem Tryd.fk60 : FRow ⟨Tryd.prog, rcOf Tryd.rows⟩ Sx.Tryd.tt.get 60 Sx.Tryd.cf60 := FRow.plain Sx.Tryd.kp60 (bodyOf Tryd.f60) Tryd.func60 (by kernel_rfl) (by kernel_rfl) (by kernel_rfl) [] (by kernel_rfl) (fun q hq => by cases hq)
theorem Tryd.fk61 : FRow ⟨Tryd.prog, rcOf Tryd.rows⟩ Sx.Tryd.tt.get 61 Sx.Tryd.cf61 := FRow.plain Sx.Tryd.kp61 (bodyOf Tryd.f61) Tryd.func61 (by kernel_rfl) (by kernel_rfl) (by kernel_rfl) [] (by kernel_rfl) (fun q hq => by cases hq)
theorem Tryd.fk62 : FRow ⟨Tryd.prog, rcOf Tryd.rows⟩ Sx.Tryd.tt.get 62 Sx.Tryd.cf62 := FRow.plain Sx.Tryd.kp62 (bodyOf Tryd.f62) Tryd.func62 (by kernel_rfl) (by kernel_rfl) (by kernel_rfl) [] (by kernel_rfl) (fun q hq => by cases hq)
theorem Tryd.fk63 : FRow ⟨Tryd.prog, rcOf Tryd.rows⟩ Sx.Tryd.tt.get 63 Sx.Tryd.cf63 := FRow.plain Sx.Tryd.kp63 (bodyOf Tryd.f63) Tryd.func63 (by kernel_rfl) (by kernel_rfl) (by kernel_rfl) [] (by kernel_rfl) (fun q hq => by cases hq)
theorem Tryd.fk64 : FRow ⟨Tryd.prog, rcOf Tryd.rows⟩ Sx.Tryd.tt.get 64 Sx.Tryd.cf64 := FRow.plain Sx.Tryd.kp64 (bodyOf Tryd.f64) Tryd.func64 (by kernel_rfl) (by kernel_rfl) (by kernel_rfl) [] (by kernel_rfl) (fun q hq => by cases hq)
theorem Tryd.fk65 : FRow ⟨Tryd.prog, rcOf Tryd.rows⟩ Sx.Tryd.tt.get 65 Sx.Tryd.cf65 := FRow.plain Sx.Tryd.kp65 (bodyOf Tryd.f65) Tryd.func65 (by kernel_rfl) (by kernel_rfl) (by kernel_rfl) [] (by kernel_rfl) (fun q hq => by cases hq)
theorem Tryd.fk66 : FRow ⟨Tryd.prog, rcOf Tryd.rows⟩ Sx.Tryd.tt.get 66 Sx.Tryd.cf66 := FRow.plain Sx.Tryd.kp66 (bodyOf Tryd.f66) Tryd.func66 (by kernel_rfl) (by kernel_rfl) (by kernel_rfl) [([9], Tryd.rr66009.a, Tryd.rr66009.b)] (by kernel_rfl) (fun q hq id hid => by
  rcases List.mem_singleton.1 hq with rfl
  cases hid
  exact ⟨Tryd.rr66009, by simp [Tryd.rows], rfl, rfl, rfl, rfl, rfl⟩)
theorem Tryd.fk67 : FRow ⟨Tryd.prog, rcOf Tryd.rows⟩ Sx.Tryd.tt.get 67 Sx.Tryd.cf67 := FRow.plain Sx.Tryd.kp67 (bodyOf Tryd.f67) Tryd.func67 (by kernel_rfl) (by kernel_rfl) (by kernel_rfl) [] (by kernel_rfl) (fun q hq => by cases hq)
theorem Tryd.fk68 : FRow ⟨Tryd.prog, rcOf Tryd.rows⟩ Sx.Tryd.tt.get 68 Sx.Tryd.cf68 := FRow.plain Sx.Tryd.kp68 (bodyOf Tryd.f68) Tryd.func68 (by kernel_rfl) (by kernel_rfl) (by kernel_rfl) [] (by kernel_rfl) (fun q hq => by cases hq)
theorem Tryd.fk69 : FRow ⟨Tryd.prog, rcOf Tryd.rows⟩ Sx.Tryd.tt.get 69 Sx.Tryd.cf69 := FRow.plain Sx.Tryd.kp69 (bodyOf Tryd.f69) Tryd.func69 (by kernel_rfl) (by kernel_rfl) (by kernel_rfl) [] (by kernel_rfl) (fun q hq => by cases hq)
theorem Tryd.fk70 : FRow ⟨Tryd.prog, rcOf Tryd.rows⟩ Sx.Tryd.tt.get 70 Sx.Tryd.cf70 := FRow.plain Sx.Tryd.kp70 (bodyOf Tryd.f70) Tryd.func70 (by kernel_rfl) (by kernel_rfl) (by kernel_rfl) [] (by kernel_rfl) (fun q hq => by cases hq)
theorem Tryd.fk71 : FRow ⟨Tryd.prog, rcOf Tryd.rows⟩ Sx.Tryd.tt.get 71 Sx.Tryd.cf71 := FRow.plain Sx.Tryd.kp71 (bodyOf Tryd.f71) Tryd.func71 (by kernel_rfl) (by kernel_rfl) (by kernel_rfl) [] (by kernel_rfl) (fun q hq => by cases hq)
theorem Tryd.fk72 : FRow ⟨Tryd.prog, rcOf Tryd.rows⟩ Sx.Tryd.tt.get 72 Sx.Tryd.cf72 := FRow.plain Sx.Tryd.kp72 (bodyOf Tryd.f72) Tryd.func72 (by kernel_rfl) (by kernel_rfl) (by kernel_rfl) [([10], Tryd.rr72010.a, Tryd.rr72010.b)] (by kernel_rfl) (fun q hq id hid => by
  rcases List.mem_singleton.1 hq with rfl
  cases hid
  exact ⟨Tryd.rr72010, by simp [Tryd.rows], rfl, rfl, rfl, rfl, rfl⟩)
theorem Tryd.fk73 : FRow ⟨Tryd.prog, rcOf Tryd.rows⟩ Sx.Tryd.tt.get 73 Sx.Tryd.cf73 := FRow.plain Sx.Tryd.kp73 (bodyOf Tryd.f73) Tryd.func73 (by kernel_rfl) (by kernel_rfl) (by kernel_rfl) [] (by kernel_rfl) (fun q hq => by cases hq)
theorem Tryd.fk74 : FRow ⟨Tryd.prog, rcOf Tryd.rows⟩ Sx.Tryd.tt.get 74 Sx.Tryd.cf74 := FRow.plain Sx.Tryd.kp74 (bodyOf Tryd.f74) Tryd.func74 (by kernel_rfl) (by kernel_rfl) (by kernel_rfl) [] (by kernel_rfl) (fun q hq => by cases hq)
theorem Tryd.fk75 : FRow ⟨Tryd.prog, rcOf Tryd.rows⟩ Sx.Tryd.tt.get 75 Sx.Tryd.cf75 := FRow.plain Sx.Tryd.kp75 (bodyOf Tryd.f75) Tryd.func75 (by kernel_rfl) (by kernel_rfl) (by kernel_rfl) [] (by kernel_rfl) (fun q hq => by cases hq)
theorem Tryd.fk76 : FRow ⟨Tryd.prog, rcOf Tryd.rows⟩ Sx.Tryd.tt.get 76 Sx.Tryd.cf76 := FRow.plain Sx.Tryd.kp76 (bodyOf Tryd.f76) Tryd.func76 (by kernel_rfl) (by kernel_rfl) (by kernel_rfl) [] (by kernel_rfl) (fun q hq => by cases hq)
theorem Tryd.fk77 : FRow ⟨Tryd.prog, rcOf Tryd.rows⟩ Sx.Tryd.tt.get 77 Sx.Tryd.cf77 := FRow.plain Sx.Tryd.kp77 (bodyOf Tryd.f77) Tryd.func77 (by kernel_rfl) (by kernel_rfl) (by kernel_rfl) [] (by kernel_rfl) (fun q hq => by cases hq)
theorem Tryd.fk78 : FRow ⟨Tryd.prog, rcOf Tryd.rows⟩ Sx.Tryd.tt.get 78 Sx.Tryd.cf78 := FRow.plain Sx.Tryd.kp78 (bodyOf Tryd.f78) Tryd.func78 (by kernel_rfl) (by kernel_rfl) (by kernel_rfl) [] (by kernel_rfl) (fun q hq => by cases hq)
theorem Tryd.fk79 : FRow ⟨Tryd.prog, rcOf Tryd.rows⟩ Sx.Tryd.tt.get 79 Sx.Tryd.cf79 := FRow.plain Sx.Tryd.kp79 (bodyOf Tryd.f79) Tryd.func79 (by kernel_rfl) (by kernel_rfl) (by kernel_rfl) [] (by kernel_rfl) (fun q hq => by cases hq)
theorem Tryd.fks : Sx.Tryd.ft.Every (FRow ⟨Tryd.prog, rcOf Tryd.rows⟩ Sx.Tryd.tt.get) := ⟨ev0, ⟨ev0, ⟨ev1 Tryd.fk3, ⟨ev1 Tryd.fk7, ⟨ev1 Tryd.fk15, ⟨ev1 Tryd.fk31, ⟨ev1 Tryd.fk63, trivial, trivial⟩, trivial⟩, ⟨ev1 Tryd.fk47, ⟨ev1 Tryd.fk79, trivial, trivial⟩, trivial⟩⟩, ⟨ev1 Tryd.fk23, ⟨ev1 Tryd.fk39, ⟨ev1 Tryd.fk71, trivial, trivial⟩, trivial⟩, ⟨ev1 Tryd.fk55, trivial, trivial⟩⟩⟩, ⟨ev1 Tryd.fk11, ⟨ev1 Tryd.fk19, ⟨ev1 Tryd.fk35, ⟨ev1 Tryd.fk67, trivial, trivial⟩, trivial⟩, ⟨ev1 Tryd.fk51, trivial, trivial⟩⟩, ⟨ev1 Tryd.fk27, ⟨ev1 Tryd.fk43, ⟨ev1 Tryd.fk75, trivial, trivial⟩, trivial⟩, ⟨ev1 Tryd.fk59, trivial, trivial⟩⟩⟩⟩, ⟨ev1 Tryd.fk5, ⟨ev1 Tryd.fk9, ⟨ev1 Tryd.fk17, ⟨ev1 Tryd.fk33, ⟨ev1 Tryd.fk65, trivial, trivial⟩, trivial⟩, ⟨ev1 Tryd.fk49, trivial, trivial⟩⟩, ⟨ev1 Tryd.fk25, ⟨ev1 Tryd.fk41, ⟨ev1 Tryd.fk73, trivial, trivial⟩, trivial⟩, ⟨ev1 Tryd.fk57, trivial, trivial⟩⟩⟩, ⟨ev1 Tryd.fk13, ⟨ev1 Tryd.fk21, ⟨ev1 Tryd.fk37, ⟨ev1 Tryd.fk69, trivial, trivial⟩, trivial⟩, ⟨ev1 Tryd.fk53, trivial, trivial⟩⟩, ⟨ev1 Tryd.fk29, ⟨ev1 Tryd.fk45, ⟨ev1 Tryd.fk77, trivial, trivial⟩, trivial⟩, ⟨ev1 Tryd.fk61, trivial, trivial⟩⟩⟩⟩⟩, ⟨ev0, ⟨ev1 Tryd.fk4, ⟨ev1 Tryd.fk8, ⟨ev1 Tryd.fk16, ⟨ev1 Tryd.fk32, ⟨ev1 Tryd.fk64, trivial, trivial⟩, trivial⟩, ⟨ev1 Tryd.fk48, trivial, trivial⟩⟩, ⟨ev1 Tryd.fk24, ⟨ev1 Tryd.fk40, ⟨ev1 Tryd.fk72, trivial, trivial⟩, trivial⟩, ⟨ev1 Tryd.fk56, trivial, trivial⟩⟩⟩, ⟨ev1 Tryd.fk12, ⟨ev1 Tryd.fk20, ⟨ev1 Tryd.fk36, ⟨ev1 Tryd.fk68, trivial, trivial⟩, trivial⟩, ⟨ev1 Tryd.fk52, trivial, trivial⟩⟩, ⟨ev1 Tryd.fk28, ⟨ev1 Tryd.fk44, ⟨ev1 Tryd.fk76, trivial, trivial⟩, trivial⟩, ⟨ev1 Tryd.fk60, trivial, trivial⟩⟩⟩⟩, ⟨ev1 Tryd.fk6, ⟨ev1 Tryd.fk10, ⟨ev1 Tryd.fk18, ⟨ev1 Tryd.fk34, ⟨ev1 Tryd.fk66, trivial, trivial⟩, trivial⟩, ⟨ev1 Tryd.fk50, trivial, trivial⟩⟩, ⟨ev1 Tryd.fk26, ⟨ev1 Tryd.fk42, ⟨ev1 Tryd.fk74, trivial, trivial⟩, trivial⟩, ⟨ev1 Tryd.fk58, trivial, trivial⟩⟩⟩, ⟨ev1 Tryd.fk14, ⟨ev1 Tryd.fk22, ⟨ev1 Tryd.fk38, ⟨ev1 Tryd.fk70, trivial, trivial⟩, trivial⟩, ⟨ev1 Tryd.fk54, trivial, trivial⟩⟩, ⟨ev1 Tryd.fk30, ⟨ev1 Tryd.fk46, ⟨ev1 Tryd.fk78, trivial, trivial⟩, trivial⟩, ⟨ev1 Tryd.fk62, trivial, trivial⟩⟩⟩⟩⟩⟩
theorem Tryd.rk21033 : ∃ ca cb, lFind Sx.Tryd.rt Tryd.rr21033.id = some (ca, cb) ∧ cCode Sx.Tryd.tt.get Tryd.rr21033.n Tryd.rr21033.keep Tryd.rr21033.fid Tryd.rr21033.a = some ca ∧ cCode Sx.Tryd.tt.get Tryd.rr21033.n Tryd.rr21033.keep Tryd.rr21033.fid Tryd.rr21033.b = some cb ∧ ranges Tryd.rr21033.a = [] ∧ ranges Tryd.rr21033.b = [] :=
  ⟨Sx.Tryd.ra21033, Sx.Tryd.rb21033, by kernel_rfl, by kernel_rfl, by kernel_rfl, by kernel_rfl, by kernel_rfl⟩
theorem Tryd.rk32015 : ∃ ca cb, lFind Sx.Tryd.rt Tryd.rr32015.id = some (ca, cb) ∧ cCode Sx.Tryd.tt.get Tryd.rr32015.n Tryd.rr32015.keep Tryd.rr32015.fid Tryd.rr32015.a = some ca ∧ cCode Sx.Tryd.tt.get Tryd.rr32015.n Tryd.rr32015.keep Tryd.rr32015.fid Tryd.rr32015.b = some cb ∧ ranges Tryd.rr32015.a = [] ∧ ranges Tryd.rr32015.b = [] :=
  ⟨Sx.Tryd.ra32015, Sx.Tryd.rb32015, by kernel_rfl, by kernel_rfl, by kernel_rfl, by kernel_rfl, by kernel_rfl⟩
theorem Tryd.rk66009 : ∃ ca cb, lFind Sx.Tryd.rt Tryd.rr66009.id = some (ca, cb) ∧ cCode Sx.Tryd.tt.get Tryd.rr66009.n Tryd.rr66009.keep Tryd.rr66009.fid Tryd.rr66009.a = some ca ∧ cCode Sx.Tryd.tt.get Tryd.rr66009.n Tryd.rr66009.keep Tryd.rr66009.fid Tryd.rr66009.b = some cb ∧ ranges Tryd.rr66009.a = [] ∧ ranges Tryd.rr66009.b = [] :=
  ⟨Sx.Tryd.ra66009, Sx.Tryd.rb66009, by kernel_rfl, by kernel_rfl, by kernel_rfl, by kernel_rfl, by kernel_rfl⟩
theorem Tryd.rk72010 : ∃ ca cb, lFind Sx.Tryd.rt Tryd.rr72010.id = some (ca, cb) ∧ cCode Sx.Tryd.tt.get Tryd.rr72010.n Tryd.rr72010.keep Tryd.rr72010.fid Tryd.rr72010.a = some ca ∧ cCode Sx.Tryd.tt.get Tryd.rr72010.n Tryd.rr72010.keep Tryd.rr72010.fid Tryd.rr72010.b = some cb ∧ ranges Tryd.rr72010.a = [] ∧ ranges Tryd.rr72010.b = [] :=
  ⟨Sx.Tryd.ra72010, Sx.Tryd.rb72010, by kernel_rfl, by kernel_rfl, by kernel_rfl, by kernel_rfl, by kernel_rfl⟩
theorem Tryd.rks : ∀ r ∈ Tryd.rows, ∃ ca cb, lFind Sx.Tryd.rt r.id = some (ca, cb) ∧ cCode Sx.Tryd.tt.get r.n r.keep r.fid r.a = some ca ∧ cCode Sx.Tryd.tt.get r.n r.keep r.fid r.b = some cb ∧ ranges r.a = [] ∧ ranges r.b = [] := by
  intro r hr
  simp only [Tryd.rows, List.mem_cons, List.not_mem_nil, or_false] at hr
  rcases hr with rfl | rfl | rfl | rfl
  · exact Tryd.rk21033
  · exact Tryd.rk32015
  · exact Tryd.rk66009
  · exact Tryd.rk72010
/-- THE SEAT's TABLES. -/
theorem Tryd.tab (orc : FuncId → List AV → Heap → Option (T (AV × Heap))) (ho : ∀ f args h t, orc f args h = some t → CallOk ⟨Tryd.prog, rcOf Tryd.rows⟩ f args h t) (loops : Nat) :
    TabOk ⟨Tryd.prog, rcOf Tryd.rows⟩ Sx.Tryd.tt.get ⟨Sx.Tryd.ft.get, lFind Sx.Tryd.rt, loops, orc⟩ :=
  tabOk_of (Checked.mixed Tryd.checked) Tryd.tyks Tryd.fks Tryd.rks ho
end Go.Sx
