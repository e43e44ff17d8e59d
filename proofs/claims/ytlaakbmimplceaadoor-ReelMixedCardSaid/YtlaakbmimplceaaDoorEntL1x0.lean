/- EntL1x0 -/
import Derived.Test.YtlaakbmimplceaaDoorRyI
namespace Go.Sx
noncomputable section
open Go.RowKit Go.Proofs
set_option maxRecDepth 100000
def e0 : Ent := ⟨38, [(.agg [(.slice 1000 0 4 4), (li 6), (li 8), (li 1), (li 3), (li 2000)])], 1001, [(0, .cells [(li 1), (li 20), (li 0), (li 50)]), (1, .cells [(li 0), (li 99), (li 0), (li 99), (li 1), (li 1200)]), (1000, .cells cl1)], (.tup [(.agg [(.slice 1000 0 4 4), (li 6), (li 8), (li 1), (li 3), (li 2000), (.map 1055)]), (li 0)]), [(1055, .map [] 0)], []⟩
theorem e0_run : e0.run tb0 100 = true := by kernel_rfl
def e1 : Ent := ⟨38, [(.agg [(.slice 1000 0 4 4), (li 6), (li 8), (li 1), (li 3), (li 2000)])], 1001, [(0, .cells [(li 1), (li 20), (li 0), (li 50)]), (1, .cells [(li 0), (li 99), (li 0), (li 99), (li 1), (li 1200)]), (1000, .cells cl2)], (.tup [(.agg [(.slice 1000 0 4 4), (li 6), (li 8), (li 1), (li 3), (li 2000), (.map 1055)]), (li 0)]), [(1055, .map [] 0)], []⟩
theorem e1_run : e1.run tb0 100 = true := by kernel_rfl
def e2 : Ent := ⟨64, [(.agg [(.slice 1001 0 4 4), (li 6), (li 8), (li 1), (li 3), (li 2000), (.map 1000)]), (.agg [(.bool (.lit true)), (.bool (.lit true)), (.bool (.lit true)), (.bool (.lit true)), (.bool (.lit false)), (.bool (.lit false))])], 1002, [(1000, .ownMap [] 0), (1001, .cells cl2)], (.bool (.lit false)), [], [(1000, .map cl0 16)]⟩
theorem e2_run : e2.run tb0 100 = true := by kernel_rfl
def e3 : Ent := ⟨64, [(.agg [(.slice 1000 0 4 4), (li 6), (li 8), (li 1), (li 3), (li 2000), (.map 1001)]), (.agg [(.bool (.lit true)), (.bool (.lit true)), (.bool (.lit true)), (.bool (.lit true)), (.bool (.lit false)), (.bool (.lit false))])], 1002, [(1001, .map cl0 16)], (.bool (.lit false)), [], []⟩
theorem e3_run : e3.run tb0 100 = true := by kernel_rfl
def e4 : Ent := ⟨64, [(.agg [(.slice 1000 0 4 4), (li 6), (li 8), (li 1), (li 3), (li 2000), (.map 1001)]), (.agg [(.bool (.lit false)), (.bool (.lit true)), (.bool (.lit true)), (.bool (.lit true)), (.bool (.lit false)), (.bool (.lit false))])], 1002, [(1001, .map cl0 16)], (.bool (.lit false)), [], []⟩
theorem e4_run : e4.run tb0 100 = true := by kernel_rfl
def e5 : Ent := ⟨64, [(.agg [(.slice 1000 0 4 4), (li 6), (li 8), (li 1), (li 3), (li 2000), (.map 1001)]), (.agg [(.bool (.lit true)), (.bool (.lit false)), (.bool (.lit true)), (.bool (.lit true)), (.bool (.lit false)), (.bool (.lit false))])], 1002, [(1001, .map cl0 16)], (.bool (.lit true)), [], []⟩
theorem e5_run : e5.run tb0 100 = true := by kernel_rfl
def e6 : Ent := ⟨53, [(.agg [(.slice 1001 0 4 4), (li 6), (li 8), (li 1), (li 3), (li 2000), (.map 1000)]), (li 2), (li 700), (.agg [(.func (.func 71) [] []), (.func (.func 72) [] [])])], 1002, [(1001, .cells cl1)], (li 33), [], []⟩
theorem e6_run : e6.run tb0 100 = true := by kernel_rfl
def e7 : Ent := ⟨53, [(.agg [(.slice 1001 0 4 4), (li 6), (li 8), (li 1), (li 3), (li 2000), (.map 1000)]), (li 2), (li 700), (.agg [(.func (.func 72) [] []), (.func (.func 71) [] [])])], 1002, [(1001, .cells cl1)], (li 120), [], []⟩
theorem e7_run : e7.run tb0 100 = true := by kernel_rfl
end
end Go.Sx
