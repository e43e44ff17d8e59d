/- THE TABLES OF THE PROGRAM: its types, and its functions as the evaluator runs them. -/
import Derived.Test.YtegeacnehkpinaaDoorSxComp
import Derived.KernelRfl
/-! THE TABLES OF THE PROGRAM: its types, and its functions as the evaluator runs them. -/
namespace Go.Sx
set_option maxRecDepth 100000
noncomputable def Tryd.ti0 : TI := ⟨.tuple #[], 1, 0, none, false⟩
noncomputable def Tryd.ti1 : TI := ⟨.func #[] #[] false, 1, 8, (some .nilFunc), false⟩
noncomputable def Tryd.ti2 : TI := ⟨.int .i64, 1, 8, (some (.int .i64 (.lit 0))), false⟩
noncomputable def Tryd.ti3 : TI := ⟨.int .i64, 1, 8, (some (.int .i64 (.lit 0))), false⟩
noncomputable def Tryd.ti4 : TI := ⟨.bool, 1, 1, (some (.bool (.lit false))), false⟩
noncomputable def Tryd.ti5 : TI := ⟨.int .u8, 1, 1, (some (.int .u8 (.lit 0))), false⟩
noncomputable def Tryd.ti6 : TI := ⟨.int .u8, 1, 1, (some (.int .u8 (.lit 0))), false⟩
noncomputable def Tryd.ti7 : TI := ⟨.struct #[⟨ "x", 2, 0, false, "", "runtime", 0⟩, ⟨ "y", 3, 1, false, "", "runtime", 8⟩, ⟨ "signed", 4, 2, false, "", "runtime", 16⟩, ⟨ "code", 6, 3, false, "", "runtime", 17⟩], 4, 24, (some (.agg [(.int .i64 (.lit 0)), (.int .i64 (.lit 0)), (.bool (.lit false)), (.int .u8 (.lit 0))])), true⟩
noncomputable def Tryd.ti8 : TI := ⟨.struct #[⟨ "x", 2, 0, false, "", "runtime", 0⟩, ⟨ "y", 3, 1, false, "", "runtime", 8⟩, ⟨ "signed", 4, 2, false, "", "runtime", 16⟩, ⟨ "code", 6, 3, false, "", "runtime", 17⟩], 4, 24, (some (.agg [(.int .i64 (.lit 0)), (.int .i64 (.lit 0)), (.bool (.lit false)), (.int .u8 (.lit 0))])), true⟩
noncomputable def Tryd.ti9 : TI := ⟨.string, 1, 16, none, false⟩
noncomputable def Tryd.ti10 : TI := ⟨.string, 1, 16, none, false⟩
noncomputable def Tryd.ti11 : TI := ⟨.string, 1, 16, none, false⟩
noncomputable def Tryd.ti12 : TI := ⟨.int .u64, 1, 8, (some (.int .u64 (.lit 0))), false⟩
noncomputable def Tryd.ti13 : TI := ⟨.struct #[⟨ "msg", 9, 0, false, "", "runtime", 0⟩, ⟨ "addr", 12, 1, false, "", "runtime", 16⟩], 2, 24, none, false⟩
noncomputable def Tryd.ti14 : TI := ⟨.struct #[⟨ "msg", 9, 0, false, "", "runtime", 0⟩, ⟨ "addr", 12, 1, false, "", "runtime", 16⟩], 2, 24, none, false⟩
noncomputable def Tryd.ti15 : TI := ⟨.pointer 154, 1, 8, (some .nilptr), false⟩
noncomputable def Tryd.ti16 : TI := ⟨.pointer 157, 1, 8, (some .nilptr), false⟩
noncomputable def Tryd.ti17 : TI := ⟨.pointer 166, 1, 8, (some .nilptr), false⟩
noncomputable def Tryd.ti18 : TI := ⟨.struct #[⟨ "typ", 17, 0, false, "", "internal/runtime/maps", 0⟩], 1, 8, (some (.agg [.nilptr])), false⟩
noncomputable def Tryd.ti19 : TI := ⟨.struct #[⟨ "typ", 17, 0, false, "", "internal/runtime/maps", 0⟩], 1, 8, (some (.agg [.nilptr])), false⟩
noncomputable def Tryd.ti20 : TI := ⟨.interface #[], 1, 16, none, false⟩
noncomputable def Tryd.ti21 : TI := ⟨.int .i32, 1, 4, (some (.int .i32 (.lit 0))), false⟩
noncomputable def Tryd.ti22 : TI := ⟨.struct #[⟨ "Low", 3, 0, false, "", "", 0⟩, ⟨ "High", 3, 1, false, "", "", 8⟩], 2, 16, (some (.agg [(.int .i64 (.lit 0)), (.int .i64 (.lit 0))])), true⟩
noncomputable def Tryd.ti23 : TI := ⟨.struct #[⟨ "Low", 3, 0, false, "", "", 0⟩, ⟨ "High", 3, 1, false, "", "", 8⟩], 2, 16, (some (.agg [(.int .i64 (.lit 0)), (.int .i64 (.lit 0))])), true⟩
noncomputable def Tryd.ti24 : TI := ⟨.array 2 23, 4, 32, (some (.agg [(.int .i64 (.lit 0)), (.int .i64 (.lit 0)), (.int .i64 (.lit 0)), (.int .i64 (.lit 0))])), true⟩
noncomputable def Tryd.ti25 : TI := ⟨.slice 66, 1, 24, (some .nilslice), false⟩
noncomputable def Tryd.ti26 : TI := ⟨.struct #[⟨ "Coal", 23, 0, false, "", "", 0⟩, ⟨ "Water", 23, 2, false, "", "", 16⟩, ⟨ "Bunker", 3, 4, false, "", "", 32⟩, ⟨ "Tank", 3, 5, false, "", "", 40⟩, ⟨ "Scoop", 3, 6, false, "", "", 48⟩, ⟨ "Pail", 3, 7, false, "", "", 56⟩, ⟨ "Burn", 24, 8, false, "", "", 64⟩, ⟨ "Drink", 24, 12, false, "", "", 96⟩, ⟨ "Full", 23, 16, false, "", "", 128⟩, ⟨ "Weak", 23, 18, false, "", "", 144⟩, ⟨ "Mark", 3, 20, false, "", "", 160⟩, ⟨ "Lamp", 3, 21, false, "", "", 168⟩, ⟨ "Parts", 25, 22, false, "", "", 176⟩], 23, 200, (some (.agg [(.int .i64 (.lit 0)), (.int .i64 (.lit 0)), (.int .i64 (.lit 0)), (.int .i64 (.lit 0)), (.int .i64 (.lit 0)), (.int .i64 (.lit 0)), (.int .i64 (.lit 0)), (.int .i64 (.lit 0)), (.int .i64 (.lit 0)), (.int .i64 (.lit 0)), (.int .i64 (.lit 0)), (.int .i64 (.lit 0)), (.int .i64 (.lit 0)), (.int .i64 (.lit 0)), (.int .i64 (.lit 0)), (.int .i64 (.lit 0)), (.int .i64 (.lit 0)), (.int .i64 (.lit 0)), (.int .i64 (.lit 0)), (.int .i64 (.lit 0)), (.int .i64 (.lit 0)), (.int .i64 (.lit 0)), .nilslice])), true⟩
noncomputable def Tryd.ti27 : TI := ⟨.struct #[⟨ "Coal", 23, 0, false, "", "", 0⟩, ⟨ "Water", 23, 2, false, "", "", 16⟩, ⟨ "Bunker", 3, 4, false, "", "", 32⟩, ⟨ "Tank", 3, 5, false, "", "", 40⟩, ⟨ "Scoop", 3, 6, false, "", "", 48⟩, ⟨ "Pail", 3, 7, false, "", "", 56⟩, ⟨ "Burn", 24, 8, false, "", "", 64⟩, ⟨ "Drink", 24, 12, false, "", "", 96⟩, ⟨ "Full", 23, 16, false, "", "", 128⟩, ⟨ "Weak", 23, 18, false, "", "", 144⟩, ⟨ "Mark", 3, 20, false, "", "", 160⟩, ⟨ "Lamp", 3, 21, false, "", "", 168⟩, ⟨ "Parts", 25, 22, false, "", "", 176⟩], 23, 200, (some (.agg [(.int .i64 (.lit 0)), (.int .i64 (.lit 0)), (.int .i64 (.lit 0)), (.int .i64 (.lit 0)), (.int .i64 (.lit 0)), (.int .i64 (.lit 0)), (.int .i64 (.lit 0)), (.int .i64 (.lit 0)), (.int .i64 (.lit 0)), (.int .i64 (.lit 0)), (.int .i64 (.lit 0)), (.int .i64 (.lit 0)), (.int .i64 (.lit 0)), (.int .i64 (.lit 0)), (.int .i64 (.lit 0)), (.int .i64 (.lit 0)), (.int .i64 (.lit 0)), (.int .i64 (.lit 0)), (.int .i64 (.lit 0)), (.int .i64 (.lit 0)), (.int .i64 (.lit 0)), (.int .i64 (.lit 0)), .nilslice])), true⟩
noncomputable def Tryd.ti28 : TI := ⟨.slice 64, 1, 24, (some .nilslice), false⟩
noncomputable def Tryd.ti29 : TI := ⟨.array 2 3, 2, 16, (some (.agg [(.int .i64 (.lit 0)), (.int .i64 (.lit 0))])), true⟩
noncomputable def Tryd.ti30 : TI := ⟨.int .i64, 1, 8, (some (.int .i64 (.lit 0))), false⟩
noncomputable def Tryd.ti31 : TI := ⟨.tuple #[23, 30], 1, 0, none, false⟩
noncomputable def Tryd.ti32 : TI := ⟨.func #[27, 3] #[23, 30] false, 1, 8, (some .nilFunc), false⟩
noncomputable def Tryd.ti33 : TI := ⟨.func #[27] #[30] false, 1, 8, (some .nilFunc), false⟩
noncomputable def Tryd.ti34 : TI := ⟨.tuple #[23, 23, 30], 1, 0, none, false⟩
noncomputable def Tryd.ti35 : TI := ⟨.func #[27, 28, 3] #[23, 23, 30] false, 1, 8, (some .nilFunc), false⟩
noncomputable def Tryd.ti36 : TI := ⟨.func #[] #[4] false, 1, 8, (some .nilFunc), false⟩
noncomputable def Tryd.ti37 : TI := ⟨.func #[27, 28, 29] #[4] false, 1, 8, (some .nilFunc), false⟩
noncomputable def Tryd.ti38 : TI := ⟨.tuple #[3, 30], 1, 0, none, false⟩
noncomputable def Tryd.ti39 : TI := ⟨.func #[27, 28] #[3, 30] false, 1, 8, (some .nilFunc), false⟩
noncomputable def Tryd.ti40 : TI := ⟨.tuple #[28, 30], 1, 0, none, false⟩
noncomputable def Tryd.ti41 : TI := ⟨.func #[27] #[28, 30] false, 1, 8, (some .nilFunc), false⟩
noncomputable def Tryd.ti42 : TI := ⟨.func #[28, 28] #[4] false, 1, 8, (some .nilFunc), false⟩
noncomputable def Tryd.ti43 : TI := ⟨.func #[27, 28] #[4] false, 1, 8, (some .nilFunc), false⟩
noncomputable def Tryd.ti44 : TI := ⟨.func #[27] #[3, 30] false, 1, 8, (some .nilFunc), false⟩
noncomputable def Tryd.ti45 : TI := ⟨.func #[27, 3] #[3, 30] false, 1, 8, (some .nilFunc), false⟩
noncomputable def Tryd.ti46 : TI := ⟨.func #[27, 3] #[4] false, 1, 8, (some .nilFunc), false⟩
noncomputable def Tryd.ti47 : TI := ⟨.slice 3, 1, 24, (some .nilslice), false⟩
noncomputable def Tryd.ti48 : TI := ⟨.func #[27] #[4] false, 1, 8, (some .nilFunc), false⟩
noncomputable def Tryd.ti49 : TI := ⟨.struct #[⟨ "coal", 47, 0, false, "", "bioscope/bioscopelaw04", 0⟩, ⟨ "water", 47, 1, false, "", "bioscope/bioscopelaw04", 24⟩, ⟨ "failed", 3, 2, false, "", "bioscope/bioscopelaw04", 48⟩], 3, 56, (some (.agg [.nilslice, .nilslice, (.int .i64 (.lit 0))])), true⟩
noncomputable def Tryd.ti50 : TI := ⟨.struct #[⟨ "coal", 47, 0, false, "", "bioscope/bioscopelaw04", 0⟩, ⟨ "water", 47, 1, false, "", "bioscope/bioscopelaw04", 24⟩, ⟨ "failed", 3, 2, false, "", "bioscope/bioscopelaw04", 48⟩], 3, 56, (some (.agg [.nilslice, .nilslice, (.int .i64 (.lit 0))])), true⟩
noncomputable def Tryd.ti51 : TI := ⟨.func #[27, 28, 47] #[50] false, 1, 8, (some .nilFunc), false⟩
noncomputable def Tryd.ti52 : TI := ⟨.func #[27, 28, 50] #[4] false, 1, 8, (some .nilFunc), false⟩
noncomputable def Tryd.ti53 : TI := ⟨.func #[27, 47] #[28] false, 1, 8, (some .nilFunc), false⟩
noncomputable def Tryd.ti54 : TI := ⟨.func #[3, 3, 3] #[4] false, 1, 8, (some .nilFunc), false⟩
noncomputable def Tryd.ti55 : TI := ⟨.func #[27, 47, 47] #[4] false, 1, 8, (some .nilFunc), false⟩
noncomputable def Tryd.ti56 : TI := ⟨.func #[3, 3] #[3] false, 1, 8, (some .nilFunc), false⟩
noncomputable def Tryd.ti57 : TI := ⟨.func #[27, 4] #[27] false, 1, 8, (some .nilFunc), false⟩
noncomputable def Tryd.ti58 : TI := ⟨.func #[3, 3] #[23] false, 1, 8, (some .nilFunc), false⟩
noncomputable def Tryd.ti59 : TI := ⟨.func #[27, 47, 3] #[4] false, 1, 8, (some .nilFunc), false⟩
noncomputable def Tryd.ti60 : TI := ⟨.func #[28] #[3] false, 1, 8, (some .nilFunc), false⟩
noncomputable def Tryd.ti61 : TI := ⟨.func #[47, 47] #[4] false, 1, 8, (some .nilFunc), false⟩
noncomputable def Tryd.ti62 : TI := ⟨.func #[28] #[47] false, 1, 8, (some .nilFunc), false⟩
noncomputable def Tryd.ti63 : TI := ⟨.struct #[⟨ "Coal", 3, 0, false, "", "", 0⟩, ⟨ "Water", 3, 1, false, "", "", 8⟩], 2, 16, (some (.agg [(.int .i64 (.lit 0)), (.int .i64 (.lit 0))])), true⟩
noncomputable def Tryd.ti64 : TI := ⟨.struct #[⟨ "Coal", 3, 0, false, "", "", 0⟩, ⟨ "Water", 3, 1, false, "", "", 8⟩], 2, 16, (some (.agg [(.int .i64 (.lit 0)), (.int .i64 (.lit 0))])), true⟩
noncomputable def Tryd.ti65 : TI := ⟨.struct #[⟨ "Minutes", 23, 0, false, "", "", 0⟩, ⟨ "Light", 4, 2, false, "", "", 16⟩, ⟨ "Walks", 3, 3, false, "", "", 24⟩], 4, 32, (some (.agg [(.int .i64 (.lit 0)), (.int .i64 (.lit 0)), (.bool (.lit false)), (.int .i64 (.lit 0))])), true⟩
noncomputable def Tryd.ti66 : TI := ⟨.struct #[⟨ "Minutes", 23, 0, false, "", "", 0⟩, ⟨ "Light", 4, 2, false, "", "", 16⟩, ⟨ "Walks", 3, 3, false, "", "", 24⟩], 4, 32, (some (.agg [(.int .i64 (.lit 0)), (.int .i64 (.lit 0)), (.bool (.lit false)), (.int .i64 (.lit 0))])), true⟩
noncomputable def Tryd.ti67 : TI := ⟨.func #[27, 47, 29] #[4] false, 1, 8, (some .nilFunc), false⟩
noncomputable def Tryd.ti68 : TI := ⟨.func #[27, 3, 3] #[27] false, 1, 8, (some .nilFunc), false⟩
noncomputable def Tryd.ti69 : TI := ⟨.func #[27, 29] #[4] false, 1, 8, (some .nilFunc), false⟩
noncomputable def Tryd.ti70 : TI := ⟨.func #[] #[27] false, 1, 8, (some .nilFunc), false⟩
noncomputable def Tryd.ti71 : TI := ⟨.slice 27, 1, 24, (some .nilslice), false⟩
noncomputable def Tryd.ti72 : TI := ⟨.func #[] #[28] false, 1, 8, (some .nilFunc), false⟩
noncomputable def Tryd.ti73 : TI := ⟨.slice 28, 1, 24, (some .nilslice), false⟩
noncomputable def Tryd.ti74 : TI := ⟨.struct #[⟨ "first", 23, 0, false, "", "bioscope/engine", 0⟩, ⟨ "room", 3, 2, false, "", "bioscope/engine", 16⟩, ⟨ "load", 3, 3, false, "", "bioscope/engine", 24⟩, ⟨ "takes", 24, 4, false, "", "bioscope/engine", 32⟩], 8, 64, (some (.agg [(.int .i64 (.lit 0)), (.int .i64 (.lit 0)), (.int .i64 (.lit 0)), (.int .i64 (.lit 0)), (.int .i64 (.lit 0)), (.int .i64 (.lit 0)), (.int .i64 (.lit 0)), (.int .i64 (.lit 0))])), true⟩
noncomputable def Tryd.ti75 : TI := ⟨.struct #[⟨ "first", 23, 0, false, "", "bioscope/engine", 0⟩, ⟨ "room", 3, 2, false, "", "bioscope/engine", 16⟩, ⟨ "load", 3, 3, false, "", "bioscope/engine", 24⟩, ⟨ "takes", 24, 4, false, "", "bioscope/engine", 32⟩], 8, 64, (some (.agg [(.int .i64 (.lit 0)), (.int .i64 (.lit 0)), (.int .i64 (.lit 0)), (.int .i64 (.lit 0)), (.int .i64 (.lit 0)), (.int .i64 (.lit 0)), (.int .i64 (.lit 0)), (.int .i64 (.lit 0))])), true⟩
noncomputable def Tryd.ti76 : TI := ⟨.array 2 75, 16, 128, (some (.agg [(.int .i64 (.lit 0)), (.int .i64 (.lit 0)), (.int .i64 (.lit 0)), (.int .i64 (.lit 0)), (.int .i64 (.lit 0)), (.int .i64 (.lit 0)), (.int .i64 (.lit 0)), (.int .i64 (.lit 0)), (.int .i64 (.lit 0)), (.int .i64 (.lit 0)), (.int .i64 (.lit 0)), (.int .i64 (.lit 0)), (.int .i64 (.lit 0)), (.int .i64 (.lit 0)), (.int .i64 (.lit 0)), (.int .i64 (.lit 0))])), true⟩
noncomputable def Tryd.ti77 : TI := ⟨.struct #[⟨ "EngineBook", 27, 0, true, "", "", 0⟩, ⟨ "stores", 76, 23, false, "", "bioscope/engine", 200⟩], 39, 328, (some (.agg [(.int .i64 (.lit 0)), (.int .i64 (.lit 0)), (.int .i64 (.lit 0)), (.int .i64 (.lit 0)), (.int .i64 (.lit 0)), (.int .i64 (.lit 0)), (.int .i64 (.lit 0)), (.int .i64 (.lit 0)), (.int .i64 (.lit 0)), (.int .i64 (.lit 0)), (.int .i64 (.lit 0)), (.int .i64 (.lit 0)), (.int .i64 (.lit 0)), (.int .i64 (.lit 0)), (.int .i64 (.lit 0)), (.int .i64 (.lit 0)), (.int .i64 (.lit 0)), (.int .i64 (.lit 0)), (.int .i64 (.lit 0)), (.int .i64 (.lit 0)), (.int .i64 (.lit 0)), (.int .i64 (.lit 0)), .nilslice, (.int .i64 (.lit 0)), (.int .i64 (.lit 0)), (.int .i64 (.lit 0)), (.int .i64 (.lit 0)), (.int .i64 (.lit 0)), (.int .i64 (.lit 0)), (.int .i64 (.lit 0)), (.int .i64 (.lit 0)), (.int .i64 (.lit 0)), (.int .i64 (.lit 0)), (.int .i64 (.lit 0)), (.int .i64 (.lit 0)), (.int .i64 (.lit 0)), (.int .i64 (.lit 0)), (.int .i64 (.lit 0)), (.int .i64 (.lit 0))])), true⟩
noncomputable def Tryd.ti78 : TI := ⟨.struct #[⟨ "EngineBook", 27, 0, true, "", "", 0⟩, ⟨ "stores", 76, 23, false, "", "bioscope/engine", 200⟩], 39, 328, (some (.agg [(.int .i64 (.lit 0)), (.int .i64 (.lit 0)), (.int .i64 (.lit 0)), (.int .i64 (.lit 0)), (.int .i64 (.lit 0)), (.int .i64 (.lit 0)), (.int .i64 (.lit 0)), (.int .i64 (.lit 0)), (.int .i64 (.lit 0)), (.int .i64 (.lit 0)), (.int .i64 (.lit 0)), (.int .i64 (.lit 0)), (.int .i64 (.lit 0)), (.int .i64 (.lit 0)), (.int .i64 (.lit 0)), (.int .i64 (.lit 0)), (.int .i64 (.lit 0)), (.int .i64 (.lit 0)), (.int .i64 (.lit 0)), (.int .i64 (.lit 0)), (.int .i64 (.lit 0)), (.int .i64 (.lit 0)), .nilslice, (.int .i64 (.lit 0)), (.int .i64 (.lit 0)), (.int .i64 (.lit 0)), (.int .i64 (.lit 0)), (.int .i64 (.lit 0)), (.int .i64 (.lit 0)), (.int .i64 (.lit 0)), (.int .i64 (.lit 0)), (.int .i64 (.lit 0)), (.int .i64 (.lit 0)), (.int .i64 (.lit 0)), (.int .i64 (.lit 0)), (.int .i64 (.lit 0)), (.int .i64 (.lit 0)), (.int .i64 (.lit 0)), (.int .i64 (.lit 0))])), true⟩
noncomputable def Tryd.ti79 : TI := ⟨.tuple #[78, 30], 1, 0, none, false⟩
noncomputable def Tryd.ti80 : TI := ⟨.func #[27] #[78, 30] false, 1, 8, (some .nilFunc), false⟩
noncomputable def Tryd.ti81 : TI := ⟨.func #[3, 23] #[4] false, 1, 8, (some .nilFunc), false⟩
noncomputable def Tryd.ti82 : TI := ⟨.func #[3] #[23] false, 1, 8, (some .nilFunc), false⟩
noncomputable def Tryd.ti83 : TI := ⟨.func #[23, 3, 3] #[4] false, 1, 8, (some .nilFunc), false⟩
noncomputable def Tryd.ti84 : TI := ⟨.func #[28] #[4] false, 1, 8, (some .nilFunc), false⟩
noncomputable def Tryd.ti85 : TI := ⟨.func #[3] #[4] false, 1, 8, (some .nilFunc), false⟩
noncomputable def Tryd.ti86 : TI := ⟨.func #[28] #[23, 23, 30] false, 1, 8, (some .nilFunc), false⟩
noncomputable def Tryd.ti87 : TI := ⟨.struct #[⟨ "coal", 23, 0, false, "", "bioscope/bioscoperef04", 0⟩, ⟨ "water", 23, 2, false, "", "bioscope/bioscoperef04", 16⟩], 4, 32, (some (.agg [(.int .i64 (.lit 0)), (.int .i64 (.lit 0)), (.int .i64 (.lit 0)), (.int .i64 (.lit 0))])), true⟩
noncomputable def Tryd.ti88 : TI := ⟨.struct #[⟨ "coal", 23, 0, false, "", "bioscope/bioscoperef04", 0⟩, ⟨ "water", 23, 2, false, "", "bioscope/bioscoperef04", 16⟩], 4, 32, (some (.agg [(.int .i64 (.lit 0)), (.int .i64 (.lit 0)), (.int .i64 (.lit 0)), (.int .i64 (.lit 0))])), true⟩
noncomputable def Tryd.ti89 : TI := ⟨.func #[27] #[88] false, 1, 8, (some .nilFunc), false⟩
noncomputable def Tryd.ti90 : TI := ⟨.func #[27, 88, 66] #[88] false, 1, 8, (some .nilFunc), false⟩
noncomputable def Tryd.ti91 : TI := ⟨.func #[27, 88, 64] #[88] false, 1, 8, (some .nilFunc), false⟩
noncomputable def Tryd.ti92 : TI := ⟨.func #[88] #[4] false, 1, 8, (some .nilFunc), false⟩
noncomputable def Tryd.ti93 : TI := ⟨.func #[28] #[3, 30] false, 1, 8, (some .nilFunc), false⟩
noncomputable def Tryd.ti94 : TI := ⟨.func #[27, 88, 66] #[4] false, 1, 8, (some .nilFunc), false⟩
noncomputable def Tryd.ti95 : TI := ⟨.func #[] #[28, 30] false, 1, 8, (some .nilFunc), false⟩
noncomputable def Tryd.ti96 : TI := ⟨.tuple #[28, 3], 1, 0, none, false⟩
noncomputable def Tryd.ti97 : TI := ⟨.func #[27, 88, 28, 28, 3] #[28, 3] false, 1, 8, (some .nilFunc), false⟩
noncomputable def Tryd.ti98 : TI := ⟨.func #[3, 85] #[3] false, 1, 8, (some .nilFunc), false⟩
noncomputable def Tryd.ti99 : TI := ⟨.func #[27, 88, 3] #[4] false, 1, 8, (some .nilFunc), false⟩
noncomputable def Tryd.ti100 : TI := ⟨.struct #[⟨ "evening", 78, 0, true, "", "bioscope/engine", 0⟩, ⟨ "part", 3, 39, false, "", "bioscope/engine", 328⟩], 40, 336, (some (.agg [(.int .i64 (.lit 0)), (.int .i64 (.lit 0)), (.int .i64 (.lit 0)), (.int .i64 (.lit 0)), (.int .i64 (.lit 0)), (.int .i64 (.lit 0)), (.int .i64 (.lit 0)), (.int .i64 (.lit 0)), (.int .i64 (.lit 0)), (.int .i64 (.lit 0)), (.int .i64 (.lit 0)), (.int .i64 (.lit 0)), (.int .i64 (.lit 0)), (.int .i64 (.lit 0)), (.int .i64 (.lit 0)), (.int .i64 (.lit 0)), (.int .i64 (.lit 0)), (.int .i64 (.lit 0)), (.int .i64 (.lit 0)), (.int .i64 (.lit 0)), (.int .i64 (.lit 0)), (.int .i64 (.lit 0)), .nilslice, (.int .i64 (.lit 0)), (.int .i64 (.lit 0)), (.int .i64 (.lit 0)), (.int .i64 (.lit 0)), (.int .i64 (.lit 0)), (.int .i64 (.lit 0)), (.int .i64 (.lit 0)), (.int .i64 (.lit 0)), (.int .i64 (.lit 0)), (.int .i64 (.lit 0)), (.int .i64 (.lit 0)), (.int .i64 (.lit 0)), (.int .i64 (.lit 0)), (.int .i64 (.lit 0)), (.int .i64 (.lit 0)), (.int .i64 (.lit 0)), (.int .i64 (.lit 0))])), true⟩
noncomputable def Tryd.ti101 : TI := ⟨.struct #[⟨ "evening", 78, 0, true, "", "bioscope/engine", 0⟩, ⟨ "part", 3, 39, false, "", "bioscope/engine", 328⟩], 40, 336, (some (.agg [(.int .i64 (.lit 0)), (.int .i64 (.lit 0)), (.int .i64 (.lit 0)), (.int .i64 (.lit 0)), (.int .i64 (.lit 0)), (.int .i64 (.lit 0)), (.int .i64 (.lit 0)), (.int .i64 (.lit 0)), (.int .i64 (.lit 0)), (.int .i64 (.lit 0)), (.int .i64 (.lit 0)), (.int .i64 (.lit 0)), (.int .i64 (.lit 0)), (.int .i64 (.lit 0)), (.int .i64 (.lit 0)), (.int .i64 (.lit 0)), (.int .i64 (.lit 0)), (.int .i64 (.lit 0)), (.int .i64 (.lit 0)), (.int .i64 (.lit 0)), (.int .i64 (.lit 0)), (.int .i64 (.lit 0)), .nilslice, (.int .i64 (.lit 0)), (.int .i64 (.lit 0)), (.int .i64 (.lit 0)), (.int .i64 (.lit 0)), (.int .i64 (.lit 0)), (.int .i64 (.lit 0)), (.int .i64 (.lit 0)), (.int .i64 (.lit 0)), (.int .i64 (.lit 0)), (.int .i64 (.lit 0)), (.int .i64 (.lit 0)), (.int .i64 (.lit 0)), (.int .i64 (.lit 0)), (.int .i64 (.lit 0)), (.int .i64 (.lit 0)), (.int .i64 (.lit 0)), (.int .i64 (.lit 0))])), true⟩
noncomputable def Tryd.ti102 : TI := ⟨.struct #[⟨ "bits", 47, 0, false, "", "bioscope/bioscopelaw04", 0⟩, ⟨ "at", 3, 1, false, "", "bioscope/bioscopelaw04", 24⟩], 2, 32, (some (.agg [.nilslice, (.int .i64 (.lit 0))])), true⟩
noncomputable def Tryd.ti103 : TI := ⟨.struct #[⟨ "bits", 47, 0, false, "", "bioscope/bioscopelaw04", 0⟩, ⟨ "at", 3, 1, false, "", "bioscope/bioscopelaw04", 24⟩], 2, 32, (some (.agg [.nilslice, (.int .i64 (.lit 0))])), true⟩
noncomputable def Tryd.ti104 : TI := ⟨.tuple #[3, 103], 1, 0, none, false⟩
noncomputable def Tryd.ti105 : TI := ⟨.func #[23, 103] #[3, 103] false, 1, 8, (some .nilFunc), false⟩
noncomputable def Tryd.ti106 : TI := ⟨.func #[23, 3] #[4] false, 1, 8, (some .nilFunc), false⟩
noncomputable def Tryd.ti107 : TI := ⟨.func #[47, 3] #[3] false, 1, 8, (some .nilFunc), false⟩
noncomputable def Tryd.ti108 : TI := ⟨.func #[23, 4] #[23] false, 1, 8, (some .nilFunc), false⟩
noncomputable def Tryd.ti109 : TI := ⟨.func #[3, 3, 4, 3] #[66] false, 1, 8, (some .nilFunc), false⟩
noncomputable def Tryd.ti110 : TI := ⟨.func #[27] #[78] false, 1, 8, (some .nilFunc), false⟩
noncomputable def Tryd.ti111 : TI := ⟨.array 6 3, 6, 48, (some (.agg [(.int .i64 (.lit 0)), (.int .i64 (.lit 0)), (.int .i64 (.lit 0)), (.int .i64 (.lit 0)), (.int .i64 (.lit 0)), (.int .i64 (.lit 0))])), true⟩
noncomputable def Tryd.ti112 : TI := ⟨.array 6 23, 12, 96, (some (.agg [(.int .i64 (.lit 0)), (.int .i64 (.lit 0)), (.int .i64 (.lit 0)), (.int .i64 (.lit 0)), (.int .i64 (.lit 0)), (.int .i64 (.lit 0)), (.int .i64 (.lit 0)), (.int .i64 (.lit 0)), (.int .i64 (.lit 0)), (.int .i64 (.lit 0)), (.int .i64 (.lit 0)), (.int .i64 (.lit 0))])), true⟩
noncomputable def Tryd.ti113 : TI := ⟨.func #[3, 114] #[4] true, 1, 8, (some .nilFunc), false⟩
noncomputable def Tryd.ti114 : TI := ⟨.slice 23, 1, 24, (some .nilslice), false⟩
noncomputable def Tryd.ti115 : TI := ⟨.func #[25] #[4] false, 1, 8, (some .nilFunc), false⟩
noncomputable def Tryd.ti116 : TI := ⟨.func #[144] #[3] false, 1, 8, (some .nilFunc), false⟩
noncomputable def Tryd.ti117 : TI := ⟨.struct #[⟨ "has", 116, 0, false, "", "bioscope/engine", 0⟩, ⟨ "takes", 116, 1, false, "", "bioscope/engine", 8⟩], 2, 16, (some (.agg [.nilFunc, .nilFunc])), true⟩
noncomputable def Tryd.ti118 : TI := ⟨.struct #[⟨ "has", 116, 0, false, "", "bioscope/engine", 0⟩, ⟨ "takes", 116, 1, false, "", "bioscope/engine", 8⟩], 2, 16, (some (.agg [.nilFunc, .nilFunc])), true⟩
noncomputable def Tryd.ti119 : TI := ⟨.tuple #[118, 118], 1, 0, none, false⟩
noncomputable def Tryd.ti120 : TI := ⟨.func #[] #[118, 118] false, 1, 8, (some .nilFunc), false⟩
noncomputable def Tryd.ti121 : TI := ⟨.array 2 3, 2, 16, (some (.agg [(.int .i64 (.lit 0)), (.int .i64 (.lit 0))])), true⟩
noncomputable def Tryd.ti122 : TI := ⟨.func #[130] #[] false, 1, 8, (some .nilFunc), false⟩
noncomputable def Tryd.ti123 : TI := ⟨.func #[130] #[] false, 1, 8, (some .nilFunc), false⟩
noncomputable def Tryd.ti124 : TI := ⟨.func #[28, 118] #[123] false, 1, 8, (some .nilFunc), false⟩
noncomputable def Tryd.ti125 : TI := ⟨.struct #[⟨ "part", 3, 0, false, "", "bioscope/engine", 0⟩, ⟨ "left", 121, 1, false, "", "bioscope/engine", 8⟩], 3, 24, (some (.agg [(.int .i64 (.lit 0)), (.int .i64 (.lit 0)), (.int .i64 (.lit 0))])), true⟩
noncomputable def Tryd.ti126 : TI := ⟨.struct #[⟨ "part", 3, 0, false, "", "bioscope/engine", 0⟩, ⟨ "left", 121, 1, false, "", "bioscope/engine", 8⟩], 3, 24, (some (.agg [(.int .i64 (.lit 0)), (.int .i64 (.lit 0)), (.int .i64 (.lit 0))])), true⟩
noncomputable def Tryd.ti127 : TI := ⟨.struct #[⟨ "walks", 64, 0, false, "", "bioscope/engine", 0⟩, ⟨ "behind", 126, 2, false, "", "bioscope/engine", 16⟩, ⟨ "lacks", 121, 5, false, "", "bioscope/engine", 40⟩], 7, 56, (some (.agg [(.int .i64 (.lit 0)), (.int .i64 (.lit 0)), (.int .i64 (.lit 0)), (.int .i64 (.lit 0)), (.int .i64 (.lit 0)), (.int .i64 (.lit 0)), (.int .i64 (.lit 0))])), true⟩
noncomputable def Tryd.ti128 : TI := ⟨.struct #[⟨ "walks", 64, 0, false, "", "bioscope/engine", 0⟩, ⟨ "behind", 126, 2, false, "", "bioscope/engine", 16⟩, ⟨ "lacks", 121, 5, false, "", "bioscope/engine", 40⟩], 7, 56, (some (.agg [(.int .i64 (.lit 0)), (.int .i64 (.lit 0)), (.int .i64 (.lit 0)), (.int .i64 (.lit 0)), (.int .i64 (.lit 0)), (.int .i64 (.lit 0)), (.int .i64 (.lit 0))])), true⟩
noncomputable def Tryd.ti129 : TI := ⟨.func #[66] #[3] false, 1, 8, (some .nilFunc), false⟩
noncomputable def Tryd.ti130 : TI := ⟨.func #[128] #[4] false, 1, 8, (some .nilFunc), false⟩
noncomputable def Tryd.ti131 : TI := ⟨.map 126 135, 1, 8, (some .nilmap), false⟩
noncomputable def Tryd.ti132 : TI := ⟨.func #[] #[131] false, 1, 8, (some .nilFunc), false⟩
noncomputable def Tryd.ti133 : TI := ⟨.func #[118] #[126] false, 1, 8, (some .nilFunc), false⟩
noncomputable def Tryd.ti134 : TI := ⟨.struct #[⟨ "enough", 4, 0, false, "", "bioscope/engine", 0⟩, ⟨ "many", 3, 1, false, "", "bioscope/engine", 8⟩, ⟨ "first", 128, 2, false, "", "bioscope/engine", 16⟩], 9, 72, (some (.agg [(.bool (.lit false)), (.int .i64 (.lit 0)), (.int .i64 (.lit 0)), (.int .i64 (.lit 0)), (.int .i64 (.lit 0)), (.int .i64 (.lit 0)), (.int .i64 (.lit 0)), (.int .i64 (.lit 0)), (.int .i64 (.lit 0))])), true⟩
noncomputable def Tryd.ti135 : TI := ⟨.struct #[⟨ "enough", 4, 0, false, "", "bioscope/engine", 0⟩, ⟨ "many", 3, 1, false, "", "bioscope/engine", 8⟩, ⟨ "first", 128, 2, false, "", "bioscope/engine", 16⟩], 9, 72, (some (.agg [(.bool (.lit false)), (.int .i64 (.lit 0)), (.int .i64 (.lit 0)), (.int .i64 (.lit 0)), (.int .i64 (.lit 0)), (.int .i64 (.lit 0)), (.int .i64 (.lit 0)), (.int .i64 (.lit 0)), (.int .i64 (.lit 0))])), true⟩
noncomputable def Tryd.ti136 : TI := ⟨.func #[25] #[25] false, 1, 8, (some .nilFunc), false⟩
noncomputable def Tryd.ti137 : TI := ⟨.int .u64, 1, 8, (some (.int .u64 (.lit 0))), false⟩
noncomputable def Tryd.ti138 : TI := ⟨.func #[23, 3] #[3] false, 1, 8, (some .nilFunc), false⟩
noncomputable def Tryd.ti139 : TI := ⟨.func #[78] #[75] false, 1, 8, (some .nilFunc), false⟩
noncomputable def Tryd.ti140 : TI := ⟨.func #[] #[75] false, 1, 8, (some .nilFunc), false⟩
noncomputable def Tryd.ti141 : TI := ⟨.array 2 139, 2, 16, (some (.agg [.nilFunc, .nilFunc])), true⟩
noncomputable def Tryd.ti142 : TI := ⟨.func #[23, 23] #[4] false, 1, 8, (some .nilFunc), false⟩
noncomputable def Tryd.ti143 : TI := ⟨.func #[] #[3] false, 1, 8, (some .nilFunc), false⟩
noncomputable def Tryd.ti144 : TI := ⟨.struct #[⟨ "Low", 3, 0, false, "", "", 0⟩, ⟨ "High", 3, 1, false, "", "", 8⟩], 2, 16, (some (.agg [(.int .i64 (.lit 0)), (.int .i64 (.lit 0))])), true⟩
noncomputable def Tryd.ti145 : TI := ⟨.func #[126, 64, 118] #[128] false, 1, 8, (some .nilFunc), false⟩
noncomputable def Tryd.ti146 : TI := ⟨.func #[126] #[135] false, 1, 8, (some .nilFunc), false⟩
noncomputable def Tryd.ti147 : TI := ⟨.tuple #[135, 4], 1, 0, none, false⟩
noncomputable def Tryd.ti148 : TI := ⟨.func #[126, 118] #[123] false, 1, 8, (some .nilFunc), false⟩
noncomputable def Tryd.ti149 : TI := ⟨.func #[23] #[4] false, 1, 8, (some .nilFunc), false⟩
noncomputable def Tryd.ti150 : TI := ⟨.func #[3, 47] #[3] true, 1, 8, (some .nilFunc), false⟩
noncomputable def Tryd.ti151 : TI := ⟨.func #[66] #[23] false, 1, 8, (some .nilFunc), false⟩
noncomputable def Tryd.ti152 : TI := ⟨.func #[] #[9] false, 1, 8, (some .nilFunc), false⟩
noncomputable def Tryd.ti153 : TI := ⟨.struct #[⟨ "_interface", 17, 0, false, "", "runtime", 0⟩, ⟨ "concrete", 17, 1, false, "", "runtime", 8⟩, ⟨ "asserted", 17, 2, false, "", "runtime", 16⟩, ⟨ "missingMethod", 9, 3, false, "", "runtime", 24⟩], 4, 40, none, false⟩
noncomputable def Tryd.ti154 : TI := ⟨.struct #[⟨ "_interface", 17, 0, false, "", "runtime", 0⟩, ⟨ "concrete", 17, 1, false, "", "runtime", 8⟩, ⟨ "asserted", 17, 2, false, "", "runtime", 16⟩, ⟨ "missingMethod", 9, 3, false, "", "runtime", 24⟩], 4, 40, none, false⟩
noncomputable def Tryd.ti155 : TI := ⟨.array 0 16, 0, 0, (some (.agg [])), true⟩
noncomputable def Tryd.ti156 : TI := ⟨.struct #[⟨ "_", 155, 0, false, "", "runtime", 0⟩], 0, 0, (some (.agg [])), false⟩
noncomputable def Tryd.ti157 : TI := ⟨.struct #[⟨ "_", 155, 0, false, "", "runtime", 0⟩], 0, 0, (some (.agg [])), false⟩
noncomputable def Tryd.ti158 : TI := ⟨.int .u32, 1, 4, (some (.int .u32 (.lit 0))), false⟩
noncomputable def Tryd.ti159 : TI := ⟨.int .u8, 1, 1, (some (.int .u8 (.lit 0))), false⟩
noncomputable def Tryd.ti160 : TI := ⟨.int .u8, 1, 1, (some (.int .u8 (.lit 0))), false⟩
noncomputable def Tryd.ti161 : TI := ⟨.func #[167, 167] #[4] false, 1, 8, (some .nilFunc), false⟩
noncomputable def Tryd.ti162 : TI := ⟨.pointer 5, 1, 8, (some .nilptr), false⟩
noncomputable def Tryd.ti163 : TI := ⟨.int .i32, 1, 4, (some (.int .i32 (.lit 0))), false⟩
noncomputable def Tryd.ti164 : TI := ⟨.int .i32, 1, 4, (some (.int .i32 (.lit 0))), false⟩
noncomputable def Tryd.ti165 : TI := ⟨.struct #[⟨ "Size_", 12, 0, false, "", "", 0⟩, ⟨ "PtrBytes", 12, 1, false, "", "", 8⟩, ⟨ "Hash", 158, 2, false, "", "", 16⟩, ⟨ "TFlag", 159, 3, false, "", "", 20⟩, ⟨ "Align_", 5, 4, false, "", "", 21⟩, ⟨ "FieldAlign_", 5, 5, false, "", "", 22⟩, ⟨ "Kind_", 160, 6, false, "", "", 23⟩, ⟨ "Equal", 161, 7, false, "", "", 24⟩, ⟨ "GCData", 162, 8, false, "", "", 32⟩, ⟨ "Str", 163, 9, false, "", "", 40⟩, ⟨ "PtrToThis", 164, 10, false, "", "", 44⟩], 11, 48, (some (.agg [(.int .u64 (.lit 0)), (.int .u64 (.lit 0)), (.int .u32 (.lit 0)), (.int .u8 (.lit 0)), (.int .u8 (.lit 0)), (.int .u8 (.lit 0)), (.int .u8 (.lit 0)), .nilFunc, .nilptr, (.int .i32 (.lit 0)), (.int .i32 (.lit 0))])), false⟩
noncomputable def Tryd.ti166 : TI := ⟨.struct #[⟨ "Size_", 12, 0, false, "", "", 0⟩, ⟨ "PtrBytes", 12, 1, false, "", "", 8⟩, ⟨ "Hash", 158, 2, false, "", "", 16⟩, ⟨ "TFlag", 159, 3, false, "", "", 20⟩, ⟨ "Align_", 5, 4, false, "", "", 21⟩, ⟨ "FieldAlign_", 5, 5, false, "", "", 22⟩, ⟨ "Kind_", 160, 6, false, "", "", 23⟩, ⟨ "Equal", 161, 7, false, "", "", 24⟩, ⟨ "GCData", 162, 8, false, "", "", 32⟩, ⟨ "Str", 163, 9, false, "", "", 40⟩, ⟨ "PtrToThis", 164, 10, false, "", "", 44⟩], 11, 48, (some (.agg [(.int .u64 (.lit 0)), (.int .u64 (.lit 0)), (.int .u32 (.lit 0)), (.int .u8 (.lit 0)), (.int .u8 (.lit 0)), (.int .u8 (.lit 0)), (.int .u8 (.lit 0)), .nilFunc, .nilptr, (.int .i32 (.lit 0)), (.int .i32 (.lit 0))])), false⟩
noncomputable def Tryd.tt : PT TI := (.node (some Tryd.ti0) (.node (some Tryd.ti1) (.node (some Tryd.ti3) (.node (some Tryd.ti7) (.node (some Tryd.ti15) (.node (some Tryd.ti31) (.node (some Tryd.ti63) (.node (some Tryd.ti127) .nil .nil) .nil) (.node (some Tryd.ti95) (.node (some Tryd.ti159) .nil .nil) .nil)) (.node (some Tryd.ti47) (.node (some Tryd.ti79) (.node (some Tryd.ti143) .nil .nil) .nil) (.node (some Tryd.ti111) .nil .nil))) (.node (some Tryd.ti23) (.node (some Tryd.ti39) (.node (some Tryd.ti71) (.node (some Tryd.ti135) .nil .nil) .nil) (.node (some Tryd.ti103) (.node none .nil .nil) .nil)) (.node (some Tryd.ti55) (.node (some Tryd.ti87) (.node (some Tryd.ti151) .nil .nil) .nil) (.node (some Tryd.ti119) .nil .nil)))) (.node (some Tryd.ti11) (.node (some Tryd.ti19) (.node (some Tryd.ti35) (.node (some Tryd.ti67) (.node (some Tryd.ti131) .nil .nil) .nil) (.node (some Tryd.ti99) (.node (some Tryd.ti163) .nil .nil) .nil)) (.node (some Tryd.ti51) (.node (some Tryd.ti83) (.node (some Tryd.ti147) .nil .nil) .nil) (.node (some Tryd.ti115) .nil .nil))) (.node (some Tryd.ti27) (.node (some Tryd.ti43) (.node (some Tryd.ti75) (.node (some Tryd.ti139) .nil .nil) .nil) (.node (some Tryd.ti107) .nil .nil)) (.node (some Tryd.ti59) (.node (some Tryd.ti91) (.node (some Tryd.ti155) .nil .nil) .nil) (.node (some Tryd.ti123) .nil .nil))))) (.node (some Tryd.ti5) (.node (some Tryd.ti9) (.node (some Tryd.ti17) (.node (some Tryd.ti33) (.node (some Tryd.ti65) (.node (some Tryd.ti129) .nil .nil) .nil) (.node (some Tryd.ti97) (.node (some Tryd.ti161) .nil .nil) .nil)) (.node (some Tryd.ti49) (.node (some Tryd.ti81) (.node (some Tryd.ti145) .nil .nil) .nil) (.node (some Tryd.ti113) .nil .nil))) (.node (some Tryd.ti25) (.node (some Tryd.ti41) (.node (some Tryd.ti73) (.node (some Tryd.ti137) .nil .nil) .nil) (.node (some Tryd.ti105) .nil .nil)) (.node (some Tryd.ti57) (.node (some Tryd.ti89) (.node (some Tryd.ti153) .nil .nil) .nil) (.node (some Tryd.ti121) .nil .nil)))) (.node (some Tryd.ti13) (.node (some Tryd.ti21) (.node (some Tryd.ti37) (.node (some Tryd.ti69) (.node (some Tryd.ti133) .nil .nil) .nil) (.node (some Tryd.ti101) (.node (some Tryd.ti165) .nil .nil) .nil)) (.node (some Tryd.ti53) (.node (some Tryd.ti85) (.node (some Tryd.ti149) .nil .nil) .nil) (.node (some Tryd.ti117) .nil .nil))) (.node (some Tryd.ti29) (.node (some Tryd.ti45) (.node (some Tryd.ti77) (.node (some Tryd.ti141) .nil .nil) .nil) (.node (some Tryd.ti109) .nil .nil)) (.node (some Tryd.ti61) (.node (some Tryd.ti93) (.node (some Tryd.ti157) .nil .nil) .nil) (.node (some Tryd.ti125) .nil .nil)))))) (.node (some Tryd.ti2) (.node (some Tryd.ti4) (.node (some Tryd.ti8) (.node (some Tryd.ti16) (.node (some Tryd.ti32) (.node (some Tryd.ti64) (.node (some Tryd.ti128) .nil .nil) .nil) (.node (some Tryd.ti96) (.node (some Tryd.ti160) .nil .nil) .nil)) (.node (some Tryd.ti48) (.node (some Tryd.ti80) (.node (some Tryd.ti144) .nil .nil) .nil) (.node (some Tryd.ti112) .nil .nil))) (.node (some Tryd.ti24) (.node (some Tryd.ti40) (.node (some Tryd.ti72) (.node (some Tryd.ti136) .nil .nil) .nil) (.node (some Tryd.ti104) .nil .nil)) (.node (some Tryd.ti56) (.node (some Tryd.ti88) (.node (some Tryd.ti152) .nil .nil) .nil) (.node (some Tryd.ti120) .nil .nil)))) (.node (some Tryd.ti12) (.node (some Tryd.ti20) (.node (some Tryd.ti36) (.node (some Tryd.ti68) (.node (some Tryd.ti132) .nil .nil) .nil) (.node (some Tryd.ti100) (.node (some Tryd.ti164) .nil .nil) .nil)) (.node (some Tryd.ti52) (.node (some Tryd.ti84) (.node (some Tryd.ti148) .nil .nil) .nil) (.node (some Tryd.ti116) .nil .nil))) (.node (some Tryd.ti28) (.node (some Tryd.ti44) (.node (some Tryd.ti76) (.node (some Tryd.ti140) .nil .nil) .nil) (.node (some Tryd.ti108) .nil .nil)) (.node (some Tryd.ti60) (.node (some Tryd.ti92) (.node (some Tryd.ti156) .nil .nil) .nil) (.node (some Tryd.ti124) .nil .nil))))) (.node (some Tryd.ti6) (.node (some Tryd.ti10) (.node (some Tryd.ti18) (.node (some Tryd.ti34) (.node (some Tryd.ti66) (.node (some Tryd.ti130) .nil .nil) .nil) (.node (some Tryd.ti98) (.node (some Tryd.ti162) .nil .nil) .nil)) (.node (some Tryd.ti50) (.node (some Tryd.ti82) (.node (some Tryd.ti146) .nil .nil) .nil) (.node (some Tryd.ti114) .nil .nil))) (.node (some Tryd.ti26) (.node (some Tryd.ti42) (.node (some Tryd.ti74) (.node (some Tryd.ti138) .nil .nil) .nil) (.node (some Tryd.ti106) .nil .nil)) (.node (some Tryd.ti58) (.node (some Tryd.ti90) (.node (some Tryd.ti154) .nil .nil) .nil) (.node (some Tryd.ti122) .nil .nil)))) (.node (some Tryd.ti14) (.node (some Tryd.ti22) (.node (some Tryd.ti38) (.node (some Tryd.ti70) (.node (some Tryd.ti134) .nil .nil) .nil) (.node (some Tryd.ti102) (.node (some Tryd.ti166) .nil .nil) .nil)) (.node (some Tryd.ti54) (.node (some Tryd.ti86) (.node (some Tryd.ti150) .nil .nil) .nil) (.node (some Tryd.ti118) .nil .nil))) (.node (some Tryd.ti30) (.node (some Tryd.ti46) (.node (some Tryd.ti78) (.node (some Tryd.ti142) .nil .nil) .nil) (.node (some Tryd.ti110) .nil .nil)) (.node (some Tryd.ti62) (.node (some Tryd.ti94) (.node (some Tryd.ti158) .nil .nil) .nil) (.node (some Tryd.ti126) .nil .nil)))))))
noncomputable def Tryd.kp13 : List Nat := [0, 1, 2, 4, 7, 9, 11, 13, 15, 17, 18, 19, 22, 24, 26, 28, 31, 33, 36, 38, 39, 41, 43, 45, 46, 47, 48, 49, 50, 51, 52,
 53, 54, 118, 211, 233, 260, 346]
noncomputable def Tryd.cf13 : CF := ⟨0, (cSeq (cOps [⟨some 0, true, none, iMov (.c (.bool (.lit false)))⟩])
 (cSeq (cOps [⟨some 55, false, none, iBuild [(.int .i64 (.lit 0)), (.int .i64 (.lit 0)), (.int .i64 (.lit 0)), (.int .i64 (.lit 0)), (.int .i64 (.lit 0)), (.int .i64 (.lit 0)), (.int .i64 (.lit 0)), (.int .i64 (.lit 0)), (.int .i64 (.lit 0)), (.int .i64 (.lit 0)), (.int .i64 (.lit 0)), (.int .i64 (.lit 0)), (.int .i64 (.lit 0)), (.int .i64 (.lit 0)), (.int .i64 (.lit 0)), (.int .i64 (.lit 0)), (.int .i64 (.lit 0)), (.int .i64 (.lit 0)), (.int .i64 (.lit 0)), (.int .i64 (.lit 0)), (.int .i64 (.lit 0)), (.int .i64 (.lit 0)), .nilslice] []⟩,
 ⟨some 56, false, none, iCall (.c (.func (.func 45) [] [])) []⟩,
 ⟨some 57, false, none, iCall (.c (.func (.func 45) [] [])) []⟩,
 ⟨some 58, false, none, iCall (.c (.func (.func 45) [] [])) []⟩,
 ⟨some 59, false, none, iCall (.c (.func (.func 45) [] [])) []⟩,
 ⟨some 60, false, none, iCall (.c (.func (.func 45) [] [])) []⟩,
 ⟨some 61, false, none, iCall (.c (.func (.func 45) [] [])) []⟩,
 ⟨some 62, false, none, iCall (.c (.func (.func 45) [] [])) []⟩,
 ⟨some 63, false, none, iCall (.c (.func (.func 45) [] [])) []⟩,
 ⟨some 64, false, none, iCall (.c (.func (.func 45) [] [])) []⟩,
 ⟨some 65, false, none, iCall (.c (.func (.func 45) [] [])) []⟩,
 ⟨some 66, false, none, iCall (.c (.func (.func 45) [] [])) []⟩,
 ⟨some 67, false, none, iCall (.c (.func (.func 45) [] [])) []⟩,
 ⟨some 68, false, none, iBslice 27 [(.int .i64 (.lit 0)), (.int .i64 (.lit 0)), (.int .i64 (.lit 0)), (.int .i64 (.lit 0)), (.int .i64 (.lit 0)), (.int .i64 (.lit 0)), (.int .i64 (.lit 0)), (.int .i64 (.lit 0)), (.int .i64 (.lit 0)), (.int .i64 (.lit 0)), (.int .i64 (.lit 0)), (.int .i64 (.lit 0)), (.int .i64 (.lit 0)), (.int .i64 (.lit 0)), (.int .i64 (.lit 0)), (.int .i64 (.lit 0)), (.int .i64 (.lit 0)), (.int .i64 (.lit 0)), (.int .i64 (.lit 0)), (.int .i64 (.lit 0)), (.int .i64 (.lit 0)), (.int .i64 (.lit 0)), .nilslice] 13 [(0, 23, (.t 55)), (23, 23, (.t 56)), (46, 23, (.t 57)), (69, 23, (.t 58)), (92, 23, (.t 59)), (115, 23, (.t 60)), (138, 23, (.t 61)), (161, 23, (.t 62)), (184, 23, (.t 63)), (207, 23, (.t 64)), (230, 23, (.t 65)), (253, 23, (.t 66)), (276, 23, (.t 67))]⟩,
 ⟨some 1, true, none, iMov (.t 68)⟩])
 (cSeq (cOps [⟨some 69, false, none, iMov (.t 1)⟩,
 ⟨some 70, false, none, iCall (.c (.func (.func 40) [] [])) [(.c (.int .i64 (.lit 20))), (.c (.int .i64 (.lit 41)))]⟩,
 ⟨some 71, false, none, iIaddr 23 (.t 69) (.c (.int .i64 (.lit 1)))⟩,
 ⟨some 72, false, none, iFaddr 0 (.t 71)⟩,
 ⟨none, false, none, iStore 2 (.t 72) (.t 70)⟩])
 (cSeq (cOps [⟨some 73, false, none, iMov (.t 1)⟩,
 ⟨some 74, false, none, iCall (.c (.func (.func 40) [] [])) [(.c (.int .i64 (.lit 30))), (.c (.int .i64 (.lit 29)))]⟩,
 ⟨some 75, false, none, iIaddr 23 (.t 73) (.c (.int .i64 (.lit 2)))⟩,
 ⟨some 76, false, none, iFaddr 2 (.t 75)⟩,
 ⟨none, false, none, iStore 2 (.t 76) (.t 74)⟩])
 (cSeq (cOps [⟨some 77, false, none, iMov (.t 1)⟩,
 ⟨some 78, false, none, iIaddr 23 (.t 77) (.c (.int .i64 (.lit 3)))⟩,
 ⟨some 79, false, none, iFaddr 4 (.t 78)⟩,
 ⟨none, false, none, iStore 1 (.t 79) (.c (.int .i64 (.lit 100)))⟩])
 (cSeq (cOps [⟨some 80, false, none, iMov (.t 1)⟩,
 ⟨some 81, false, none, iIaddr 23 (.t 80) (.c (.int .i64 (.lit 4)))⟩,
 ⟨some 82, false, none, iFaddr 6 (.t 81)⟩,
 ⟨none, false, none, iStore 1 (.t 82) (.c (.int .i64 (.lit 0)))⟩])
 (cSeq (cOps [⟨some 83, false, none, iMov (.t 1)⟩,
 ⟨some 84, false, none, iIaddr 23 (.t 83) (.c (.int .i64 (.lit 5)))⟩,
 ⟨some 85, false, none, iFaddr 7 (.t 84)⟩,
 ⟨none, false, none, iStore 1 (.t 85) (.c (.int .i64 (.lit 21)))⟩])
 (cSeq (dOps 0 [⟨⟨some 86, false, none, iMov (.t 1)⟩, [1], false, 0, 1, none, []⟩,
 ⟨⟨some 87, false, none, iCall (.c (.func (.func 40) [] [])) [(.c (.int .i64 (.lit 1))), (.c (.int .i64 (.lit 4)))]⟩, [], true, 0, 0, none, []⟩,
 ⟨⟨some 88, false, none, iIaddr 23 (.t 86) (.c (.int .i64 (.lit 6)))⟩, [86], false, 0, 1, none, []⟩,
 ⟨⟨some 89, false, none, iFaddr 8 (.t 88)⟩, [88], false, 0, 1, none, []⟩,
 ⟨⟨some 90, false, none, iIaddrA 2 2 (.t 89) (.c (.int .i64 (.lit 1)))⟩, [89], false, 1, 1, none, []⟩,
 ⟨⟨none, false, none, iStore 2 (.t 90) (.t 87)⟩, [90, 87], true, 1, 0, none, []⟩])
 (cSeq (dOps 0 [⟨⟨some 91, false, none, iMov (.t 1)⟩, [1], false, 0, 1, none, []⟩,
 ⟨⟨some 92, false, none, iCall (.c (.func (.func 40) [] [])) [(.c (.int .i64 (.lit (-1)))), (.c (.int .i64 (.lit 1)))]⟩, [], true, 0, 0, none, []⟩,
 ⟨⟨some 93, false, none, iIaddr 23 (.t 91) (.c (.int .i64 (.lit 7)))⟩, [91], false, 0, 1, none, []⟩,
 ⟨⟨some 94, false, none, iFaddr 12 (.t 93)⟩, [93], false, 0, 1, none, []⟩,
 ⟨⟨some 95, false, none, iIaddrA 2 2 (.t 94) (.c (.int .i64 (.lit 0)))⟩, [94], false, 1, 1, none, []⟩,
 ⟨⟨none, false, none, iStore 2 (.t 95) (.t 92)⟩, [95, 92], true, 1, 0, none, []⟩])
 (cSeq (cOps [⟨some 96, false, none, iMov (.t 1)⟩,
 ⟨some 97, false, none, iCall (.c (.func (.func 40) [] [])) [(.c (.int .i64 (.lit 12))), (.c (.int .i64 (.lit 25)))]⟩,
 ⟨some 98, false, none, iIaddr 23 (.t 96) (.c (.int .i64 (.lit 8)))⟩,
 ⟨some 99, false, none, iFaddr 18 (.t 98)⟩,
 ⟨none, false, none, iStore 2 (.t 99) (.t 97)⟩])
 (cSeq (cOps [⟨some 100, false, none, iMov (.t 1)⟩,
 ⟨some 101, false, none, iIaddr 23 (.t 100) (.c (.int .i64 (.lit 9)))⟩,
 ⟨some 102, false, none, iFaddr 20 (.t 101)⟩,
 ⟨none, false, none, iStore 1 (.t 102) (.c (.int .i64 (.lit 41)))⟩])
 (cSeq (cOps [⟨some 103, false, none, iMov (.t 1)⟩,
 ⟨some 104, false, none, iIaddr 23 (.t 103) (.c (.int .i64 (.lit 10)))⟩,
 ⟨some 105, false, none, iFaddr 21 (.t 104)⟩,
 ⟨none, false, none, iStore 1 (.t 105) (.c (.int .i64 (.lit 61)))⟩])
 (cSeq (cOps [⟨some 106, false, none, iMov (.t 1)⟩,
 ⟨some 107, false, none, iIaddr 23 (.t 106) (.c (.int .i64 (.lit 11)))⟩,
 ⟨some 108, false, none, iFaddr 22 (.t 107)⟩,
 ⟨none, false, none, iStore 1 (.t 108) (.c .nilslice)⟩])
 (cSeq (cOps [⟨some 109, false, none, iMov (.t 1)⟩,
 ⟨some 110, false, none, iIaddr 23 (.t 109) (.c (.int .i64 (.lit 12)))⟩,
 ⟨some 111, false, none, iFaddr 22 (.t 110)⟩,
 ⟨some 112, false, none, iLoad (.t 111)⟩,
 ⟨some 113, false, none, iIaddr 4 (.t 112) (.c (.int .i64 (.lit 1)))⟩,
 ⟨some 114, false, none, iFaddr 3 (.t 113)⟩,
 ⟨none, false, none, iStore 1 (.t 114) (.c (.int .i64 (.lit 6)))⟩])
 (cSeq (cSeq (cOps [⟨some 2, true, none, iMov (.c (.int .i64 (.lit 0)))⟩])
 (cBlock 0 (cLoop (cSeq (cSeq (cOps [⟨some 115, false, none, iMov (.t 2)⟩,
 ⟨some 116, false, none, iMov (.t 1)⟩,
 ⟨some 117, false, none, iLenS (.t 116)⟩,
 ⟨some 118, true, none, iCmp .lss (.t 115) (.t 117)⟩])
 (cCond (.t 118) cSkip (cExit 0)))
 (cSeq (cBlock 1 (cSeq (cOps [⟨some 122, false, none, iMov (.t 1)⟩,
 ⟨some 123, false, none, iMov (.t 2)⟩,
 ⟨some 124, false, none, iIaddr 23 (.t 122) (.t 123)⟩,
 ⟨some 125, false, none, iLoadN 23 (.t 124)⟩,
 ⟨some 126, false, none, iCall (.c (.func (.func 14) [] [])) [(.t 125), (.c (.int .i64 (.lit (-1))))]⟩,
 ⟨some 121, false, none, iMov (.t 126)⟩,
 ⟨some 127, false, none, iExtract 0 (.t 121)⟩,
 ⟨some 128, false, none, iExtract 1 (.t 121)⟩,
 ⟨some 3, false, none, iAlloc 23 [(.int .i64 (.lit 0)), (.int .i64 (.lit 0))]⟩,
 ⟨none, false, none, iStore 2 (.t 3) (.t 127)⟩,
 ⟨some 4, true, none, iMov (.t 128)⟩])
 (cSeq (cOps [⟨some 130, false, none, iMov (.t 1)⟩,
 ⟨some 131, false, none, iMov (.t 2)⟩,
 ⟨some 132, false, none, iIaddr 23 (.t 130) (.t 131)⟩,
 ⟨some 133, false, none, iLoadN 23 (.t 132)⟩,
 ⟨some 134, false, none, iCall (.c (.func (.func 18) [] [])) [(.t 133), (.c .nilslice), (.c (.int .i64 (.lit (-1))))]⟩,
 ⟨some 129, false, none, iMov (.t 134)⟩,
 ⟨some 135, false, none, iExtract 0 (.t 129)⟩,
 ⟨some 136, false, none, iExtract 1 (.t 129)⟩,
 ⟨some 137, false, none, iExtract 2 (.t 129)⟩,
 ⟨some 5, false, none, iAlloc 23 [(.int .i64 (.lit 0)), (.int .i64 (.lit 0))]⟩,
 ⟨some 6, false, none, iAlloc 23 [(.int .i64 (.lit 0)), (.int .i64 (.lit 0))]⟩,
 ⟨none, false, none, iStore 2 (.t 5) (.t 135)⟩,
 ⟨none, false, none, iStore 2 (.t 6) (.t 136)⟩,
 ⟨some 7, true, none, iMov (.t 137)⟩])
 (cSeq (cOps [⟨some 139, false, none, iMov (.t 1)⟩,
 ⟨some 140, false, none, iMov (.t 2)⟩,
 ⟨some 141, false, none, iIaddr 23 (.t 139) (.t 140)⟩,
 ⟨some 142, false, none, iLoadN 23 (.t 141)⟩,
 ⟨some 143, false, none, iCall (.c (.func (.func 21) [] [])) [(.t 142), (.c .nilslice)]⟩,
 ⟨some 138, false, none, iMov (.t 143)⟩,
 ⟨some 144, false, none, iExtract 0 (.t 138)⟩,
 ⟨some 145, false, none, iExtract 1 (.t 138)⟩,
 ⟨some 8, false, none, iMov (.t 144)⟩,
 ⟨some 9, true, none, iMov (.t 145)⟩])
 (cSeq (cOps [⟨some 147, false, none, iMov (.t 1)⟩,
 ⟨some 148, false, none, iMov (.t 2)⟩,
 ⟨some 149, false, none, iIaddr 23 (.t 147) (.t 148)⟩,
 ⟨some 150, false, none, iLoadN 23 (.t 149)⟩,
 ⟨some 151, false, none, iCall (.c (.func (.func 23) [] [])) [(.t 150)]⟩,
 ⟨some 146, false, none, iMov (.t 151)⟩,
 ⟨some 152, false, none, iExtract 0 (.t 146)⟩,
 ⟨some 153, false, none, iExtract 1 (.t 146)⟩,
 ⟨some 10, false, none, iMov (.t 152)⟩,
 ⟨some 11, true, none, iMov (.t 153)⟩])
 (cSeq (cOps [⟨some 155, false, none, iMov (.t 1)⟩,
 ⟨some 156, false, none, iMov (.t 2)⟩,
 ⟨some 157, false, none, iIaddr 23 (.t 155) (.t 156)⟩,
 ⟨some 158, false, none, iLoadN 23 (.t 157)⟩,
 ⟨some 159, false, none, iCall (.c (.func (.func 26) [] [])) [(.t 158)]⟩,
 ⟨some 154, false, none, iMov (.t 159)⟩,
 ⟨some 160, false, none, iExtract 0 (.t 154)⟩,
 ⟨some 161, false, none, iExtract 1 (.t 154)⟩,
 ⟨some 12, false, none, iMov (.t 160)⟩,
 ⟨some 13, true, none, iMov (.t 161)⟩])
 (cSeq (cOps [⟨some 163, false, none, iMov (.t 1)⟩,
 ⟨some 164, false, none, iMov (.t 2)⟩,
 ⟨some 165, false, none, iIaddr 23 (.t 163) (.t 164)⟩,
 ⟨some 166, false, none, iLoadN 23 (.t 165)⟩,
 ⟨some 167, false, none, iCall (.c (.func (.func 28) [] [])) [(.t 166), (.c (.int .i64 (.lit (-1))))]⟩,
 ⟨some 162, false, none, iMov (.t 167)⟩,
 ⟨some 168, false, none, iExtract 0 (.t 162)⟩,
 ⟨some 169, false, none, iExtract 1 (.t 162)⟩,
 ⟨some 14, false, none, iMov (.t 168)⟩,
 ⟨some 15, true, none, iMov (.t 169)⟩])
 (cSeq (cOps [⟨some 171, false, none, iMov (.t 1)⟩,
 ⟨some 172, false, none, iMov (.t 2)⟩,
 ⟨some 173, false, none, iIaddr 23 (.t 171) (.t 172)⟩,
 ⟨some 174, false, none, iLoadN 23 (.t 173)⟩,
 ⟨some 175, false, none, iCall (.c (.func (.func 30) [] [])) [(.t 174)]⟩,
 ⟨some 170, false, none, iMov (.t 175)⟩,
 ⟨some 176, false, none, iExtract 0 (.t 170)⟩,
 ⟨some 177, false, none, iExtract 1 (.t 170)⟩,
 ⟨some 16, false, none, iMov (.t 176)⟩,
 ⟨some 17, true, none, iMov (.t 177)⟩])
 (cSeq (cOps [⟨some 178, false, none, iMov (.t 1)⟩,
 ⟨some 179, false, none, iMov (.t 2)⟩,
 ⟨some 180, false, none, iIaddr 23 (.t 178) (.t 179)⟩,
 ⟨some 181, false, none, iLoadN 23 (.t 180)⟩,
 ⟨some 182, false, none, iCall (.c (.func (.func 16) [] [])) [(.t 181)]⟩,
 ⟨some 183, false, none, iCmp .neq (.t 182) (.c (.int .i64 (.lit 40)))⟩,
 ⟨some 184, false, none, iMov (.t 183)⟩,
 ⟨some 185, false, some (184, false), iMov (.t 4)⟩,
 ⟨some 186, false, some (184, false), iCmp .neq (.t 185) (.c (.int .i64 (.lit 40)))⟩,
 ⟨some 187, false, none, iPick (.t 184) (.c (.bool (.lit true))) (.t 186)⟩,
 ⟨some 188, false, none, iMov (.t 187)⟩,
 ⟨some 189, false, some (188, false), iMov (.t 7)⟩,
 ⟨some 190, false, some (188, false), iCmp .neq (.t 189) (.c (.int .i64 (.lit 40)))⟩,
 ⟨some 191, false, none, iPick (.t 188) (.c (.bool (.lit true))) (.t 190)⟩,
 ⟨some 192, false, none, iMov (.t 191)⟩,
 ⟨some 193, false, some (192, false), iMov (.t 9)⟩,
 ⟨some 194, false, some (192, false), iCmp .neq (.t 193) (.c (.int .i64 (.lit 40)))⟩,
 ⟨some 195, false, none, iPick (.t 192) (.c (.bool (.lit true))) (.t 194)⟩,
 ⟨some 196, false, none, iMov (.t 195)⟩,
 ⟨some 197, false, some (196, false), iMov (.t 11)⟩,
 ⟨some 198, false, some (196, false), iCmp .neq (.t 197) (.c (.int .i64 (.lit 40)))⟩,
 ⟨some 199, false, none, iPick (.t 196) (.c (.bool (.lit true))) (.t 198)⟩,
 ⟨some 200, false, none, iMov (.t 199)⟩,
 ⟨some 201, false, some (200, false), iMov (.t 13)⟩,
 ⟨some 202, false, some (200, false), iCmp .neq (.t 201) (.c (.int .i64 (.lit 40)))⟩,
 ⟨some 203, false, none, iPick (.t 200) (.c (.bool (.lit true))) (.t 202)⟩,
 ⟨some 204, false, none, iMov (.t 203)⟩,
 ⟨some 205, false, some (204, false), iMov (.t 15)⟩,
 ⟨some 206, false, some (204, false), iCmp .neq (.t 205) (.c (.int .i64 (.lit 40)))⟩,
 ⟨some 207, false, none, iPick (.t 204) (.c (.bool (.lit true))) (.t 206)⟩,
 ⟨some 208, false, none, iMov (.t 207)⟩,
 ⟨some 209, false, some (208, false), iMov (.t 17)⟩,
 ⟨some 210, false, some (208, false), iCmp .neq (.t 209) (.c (.int .i64 (.lit 40)))⟩,
 ⟨some 211, true, none, iPick (.t 208) (.c (.bool (.lit true))) (.t 210)⟩])
 (cCond (.t 211) (cSeq (cOps [⟨some 0, true, none, iMov (.c (.bool (.lit false)))⟩])
 cRet) cSkip))))))))))
 (cOps [⟨some 119, false, none, iMov (.t 2)⟩,
 ⟨some 120, false, none, iArith .add (.t 119) (.c (.int .i64 (.lit 1)))⟩,
 ⟨some 2, true, none, iMov (.t 120)⟩]))))))
 (cSeq (cOps [⟨some 212, false, none, iCall (.c (.func (.func 46) [] [])) []⟩,
 ⟨some 213, false, none, iSlice 2 (.t 212) none (some (.c (.int .i64 (.lit 3)))) none⟩,
 ⟨some 214, false, none, iBuild [(.int .i64 (.lit 0)), (.int .i64 (.lit 0))] []⟩,
 ⟨some 215, false, none, iBuild [(.int .i64 (.lit 0)), (.int .i64 (.lit 0))] [(0, 1, (.c (.int .i64 (.lit 2)))), (1, 1, (.c (.int .i64 (.lit 1))))]⟩,
 ⟨some 216, false, none, iBuild [(.int .i64 (.lit 0)), (.int .i64 (.lit 0))] []⟩,
 ⟨some 217, false, none, iBuild [(.int .i64 (.lit 0)), (.int .i64 (.lit 0))] []⟩,
 ⟨some 218, false, none, iBslice 64 [(.int .i64 (.lit 0)), (.int .i64 (.lit 0))] 4 [(0, 2, (.t 214)), (2, 2, (.t 215)), (4, 2, (.t 216)), (6, 2, (.t 217))]⟩,
 ⟨some 219, false, none, iBuild [(.int .i64 (.lit 0)), (.int .i64 (.lit 0))] []⟩,
 ⟨some 220, false, none, iBuild [(.int .i64 (.lit 0)), (.int .i64 (.lit 0))] [(0, 1, (.c (.int .i64 (.lit (-1)))))]⟩,
 ⟨some 221, false, none, iBuild [(.int .i64 (.lit 0)), (.int .i64 (.lit 0))] []⟩,
 ⟨some 222, false, none, iBuild [(.int .i64 (.lit 0)), (.int .i64 (.lit 0))] []⟩,
 ⟨some 223, false, none, iBslice 64 [(.int .i64 (.lit 0)), (.int .i64 (.lit 0))] 4 [(0, 2, (.t 219)), (2, 2, (.t 220)), (4, 2, (.t 221)), (6, 2, (.t 222))]⟩,
 ⟨some 224, false, none, iBuild [(.int .i64 (.lit 0)), (.int .i64 (.lit 0))] [(1, 1, (.c (.int .i64 (.lit 1))))]⟩,
 ⟨some 225, false, none, iBuild [(.int .i64 (.lit 0)), (.int .i64 (.lit 0))] []⟩,
 ⟨some 226, false, none, iBuild [(.int .i64 (.lit 0)), (.int .i64 (.lit 0))] []⟩,
 ⟨some 227, false, none, iBuild [(.int .i64 (.lit 0)), (.int .i64 (.lit 0))] []⟩,
 ⟨some 228, false, none, iBslice 64 [(.int .i64 (.lit 0)), (.int .i64 (.lit 0))] 4 [(0, 2, (.t 224)), (2, 2, (.t 225)), (4, 2, (.t 226)), (6, 2, (.t 227))]⟩,
 ⟨some 229, false, none, iBslice 28 [.nilslice] 5 [(0, 1, (.c .nilslice)), (1, 1, (.t 213)), (2, 1, (.t 218)), (3, 1, (.t 223)), (4, 1, (.t 228))]⟩,
 ⟨some 18, true, none, iMov (.t 229)⟩])
 (cSeq (cSeq (cOps [⟨some 19, true, none, iMov (.c (.int .i64 (.lit 0)))⟩])
 (cBlock 2 (cLoop (cSeq (cSeq (cOps [⟨some 230, false, none, iMov (.t 19)⟩,
 ⟨some 231, false, none, iMov (.t 18)⟩,
 ⟨some 232, false, none, iLenS (.t 231)⟩,
 ⟨some 233, true, none, iCmp .lss (.t 230) (.t 232)⟩])
 (cCond (.t 233) cSkip (cExit 2)))
 (cSeq (cBlock 3 (cSeq (dOps 2 [⟨⟨some 237, false, none, iCall (.c (.func (.func 45) [] [])) []⟩, [], true, 0, 0, none, []⟩,
 ⟨⟨some 238, false, none, iMov (.t 18)⟩, [18], false, 0, 1, none, []⟩,
 ⟨⟨some 239, false, none, iMov (.t 19)⟩, [19], false, 0, 1, none, []⟩,
 ⟨⟨some 240, false, none, iIaddr 1 (.t 238) (.t 239)⟩, [238, 239], false, 0, 1, none, []⟩,
 ⟨⟨some 241, false, none, iLoad (.t 240)⟩, [240], false, 0, 1, none, []⟩,
 ⟨⟨some 242, false, none, iCall (.c (.func (.func 18) [] [])) [(.t 237), (.t 241), (.c (.int .i64 (.lit 0)))]⟩, [237, 241], true, 1, 0, none, []⟩,
 ⟨⟨some 236, false, none, iMov (.t 242)⟩, [242], false, 2, 2, none, []⟩,
 ⟨⟨some 243, false, none, iExtract 0 (.t 236)⟩, [236], false, 2, 2, none, []⟩,
 ⟨⟨some 244, false, none, iExtract 1 (.t 236)⟩, [236], false, 2, 3, none, []⟩,
 ⟨⟨some 245, false, none, iExtract 2 (.t 236)⟩, [236], false, 2, 4, none, []⟩,
 ⟨⟨some 20, false, none, iAlloc 23 [(.int .i64 (.lit 0)), (.int .i64 (.lit 0))]⟩, [], false, 0, 4, (some (flAlloc [(.int .i64 (.lit 0)), (.int .i64 (.lit 0))], .ptr, 1)), []⟩,
 ⟨⟨some 21, false, none, iAlloc 23 [(.int .i64 (.lit 0)), (.int .i64 (.lit 0))]⟩, [], false, 0, 4, (some (flAlloc [(.int .i64 (.lit 0)), (.int .i64 (.lit 0))], .ptr, 0)), []⟩,
 ⟨⟨none, false, none, iStore 2 (.t 20) (.t 243)⟩, [20, 243], true, 2, 0, none, [0, 1]⟩,
 ⟨⟨none, false, none, iStore 2 (.t 21) (.t 244)⟩, [21, 244], true, 3, 0, none, [0, 1]⟩,
 ⟨⟨some 22, true, none, iMov (.t 245)⟩, [245], false, 4, 4, none, []⟩])
 (cSeq (dOps 0 [⟨⟨some 247, false, none, iCall (.c (.func (.func 45) [] [])) []⟩, [], true, 0, 0, none, []⟩,
 ⟨⟨some 248, false, none, iMov (.t 18)⟩, [18], false, 0, 1, none, []⟩,
 ⟨⟨some 249, false, none, iMov (.t 19)⟩, [19], false, 0, 1, none, []⟩,
 ⟨⟨some 250, false, none, iIaddr 1 (.t 248) (.t 249)⟩, [248, 249], false, 0, 1, none, []⟩,
 ⟨⟨some 251, false, none, iLoad (.t 250)⟩, [250], false, 0, 1, none, []⟩,
 ⟨⟨some 252, false, none, iCall (.c (.func (.func 21) [] [])) [(.t 247), (.t 251)]⟩, [247, 251], true, 1, 0, none, []⟩,
 ⟨⟨some 246, false, none, iMov (.t 252)⟩, [252], false, 2, 2, none, []⟩,
 ⟨⟨some 253, false, none, iExtract 0 (.t 246)⟩, [246], false, 2, 2, none, []⟩,
 ⟨⟨some 254, false, none, iExtract 1 (.t 246)⟩, [246], false, 2, 2, none, []⟩,
 ⟨⟨some 23, false, none, iMov (.t 253)⟩, [253], false, 2, 2, none, []⟩,
 ⟨⟨some 24, true, none, iMov (.t 254)⟩, [254], false, 2, 2, none, []⟩])
 (cSeq (cOps [⟨some 255, false, none, iMov (.t 22)⟩,
 ⟨some 256, false, none, iCmp .neq (.t 255) (.c (.int .i64 (.lit 41)))⟩,
 ⟨some 257, false, none, iMov (.t 256)⟩,
 ⟨some 258, false, some (257, false), iMov (.t 24)⟩,
 ⟨some 259, false, some (257, false), iCmp .neq (.t 258) (.c (.int .i64 (.lit 41)))⟩,
 ⟨some 260, true, none, iPick (.t 257) (.c (.bool (.lit true))) (.t 259)⟩])
 (cCond (.t 260) (cSeq (cOps [⟨some 0, true, none, iMov (.c (.bool (.lit false)))⟩])
 cRet) cSkip)))))
 (cOps [⟨some 234, false, none, iMov (.t 19)⟩,
 ⟨some 235, false, none, iArith .add (.t 234) (.c (.int .i64 (.lit 1)))⟩,
 ⟨some 19, true, none, iMov (.t 235)⟩]))))))
 (cSeq (cOps [⟨some 262, false, none, iCall (.c (.func (.func 45) [] [])) []⟩,
 ⟨some 263, false, none, iCall (.c (.func (.func 14) [] [])) [(.t 262), (.c (.int .i64 (.lit 41)))]⟩,
 ⟨some 261, false, none, iMov (.t 263)⟩,
 ⟨some 264, false, none, iExtract 0 (.t 261)⟩,
 ⟨some 265, false, none, iExtract 1 (.t 261)⟩,
 ⟨some 25, false, none, iAlloc 23 [(.int .i64 (.lit 0)), (.int .i64 (.lit 0))]⟩,
 ⟨none, false, none, iStore 2 (.t 25) (.t 264)⟩,
 ⟨some 26, true, none, iMov (.t 265)⟩])
 (cSeq (cOps [⟨some 267, false, none, iCall (.c (.func (.func 45) [] [])) []⟩,
 ⟨some 268, false, none, iCall (.c (.func (.func 14) [] [])) [(.t 267), (.c (.int .i64 (.lit (-1))))]⟩,
 ⟨some 266, false, none, iMov (.t 268)⟩,
 ⟨some 269, false, none, iExtract 0 (.t 266)⟩,
 ⟨some 270, false, none, iExtract 1 (.t 266)⟩,
 ⟨some 27, false, none, iAlloc 23 [(.int .i64 (.lit 0)), (.int .i64 (.lit 0))]⟩,
 ⟨none, false, none, iStore 2 (.t 27) (.t 269)⟩,
 ⟨some 28, true, none, iMov (.t 270)⟩])
 (cSeq (cOps [⟨some 272, false, none, iCall (.c (.func (.func 45) [] [])) []⟩,
 ⟨some 273, false, none, iCall (.c (.func (.func 46) [] [])) []⟩,
 ⟨some 274, false, none, iCall (.c (.func (.func 18) [] [])) [(.t 272), (.t 273), (.c (.int .i64 (.lit 4)))]⟩,
 ⟨some 271, false, none, iMov (.t 274)⟩,
 ⟨some 275, false, none, iExtract 0 (.t 271)⟩,
 ⟨some 276, false, none, iExtract 1 (.t 271)⟩,
 ⟨some 277, false, none, iExtract 2 (.t 271)⟩,
 ⟨some 29, false, none, iAlloc 23 [(.int .i64 (.lit 0)), (.int .i64 (.lit 0))]⟩,
 ⟨some 30, false, none, iAlloc 23 [(.int .i64 (.lit 0)), (.int .i64 (.lit 0))]⟩,
 ⟨none, false, none, iStore 2 (.t 29) (.t 275)⟩,
 ⟨none, false, none, iStore 2 (.t 30) (.t 276)⟩,
 ⟨some 31, true, none, iMov (.t 277)⟩])
 (cSeq (cOps [⟨some 279, false, none, iCall (.c (.func (.func 45) [] [])) []⟩,
 ⟨some 280, false, none, iCall (.c (.func (.func 28) [] [])) [(.t 279), (.c (.int .i64 (.lit 4)))]⟩,
 ⟨some 278, false, none, iMov (.t 280)⟩,
 ⟨some 281, false, none, iExtract 0 (.t 278)⟩,
 ⟨some 282, false, none, iExtract 1 (.t 278)⟩,
 ⟨some 32, false, none, iMov (.t 281)⟩,
 ⟨some 33, true, none, iMov (.t 282)⟩])
 (cSeq (cOps [⟨some 284, false, none, iCall (.c (.func (.func 45) [] [])) []⟩,
 ⟨some 285, false, none, iCall (.c (.func (.func 47) [] [])) []⟩,
 ⟨some 286, false, none, iCall (.c (.func (.func 18) [] [])) [(.t 284), (.t 285), (.c (.int .i64 (.lit 1)))]⟩,
 ⟨some 283, false, none, iMov (.t 286)⟩,
 ⟨some 287, false, none, iExtract 0 (.t 283)⟩,
 ⟨some 288, false, none, iExtract 1 (.t 283)⟩,
 ⟨some 289, false, none, iExtract 2 (.t 283)⟩,
 ⟨some 34, false, none, iAlloc 23 [(.int .i64 (.lit 0)), (.int .i64 (.lit 0))]⟩,
 ⟨some 35, false, none, iAlloc 23 [(.int .i64 (.lit 0)), (.int .i64 (.lit 0))]⟩,
 ⟨none, false, none, iStore 2 (.t 34) (.t 287)⟩,
 ⟨none, false, none, iStore 2 (.t 35) (.t 288)⟩,
 ⟨some 36, true, none, iMov (.t 289)⟩])
 (cSeq (cOps [⟨some 291, false, none, iCall (.c (.func (.func 45) [] [])) []⟩,
 ⟨some 292, false, none, iCall (.c (.func (.func 46) [] [])) []⟩,
 ⟨some 293, false, none, iCall (.c (.func (.func 21) [] [])) [(.t 291), (.t 292)]⟩,
 ⟨some 290, false, none, iMov (.t 293)⟩,
 ⟨some 294, false, none, iExtract 0 (.t 290)⟩,
 ⟨some 295, false, none, iExtract 1 (.t 290)⟩,
 ⟨some 37, false, none, iMov (.t 294)⟩,
 ⟨some 38, true, none, iMov (.t 295)⟩])
 (cSeq (cOps [⟨some 296, false, none, iCall (.c (.func (.func 45) [] [])) []⟩,
 ⟨some 39, true, none, iAlloc 27 [(.int .i64 (.lit 0)), (.int .i64 (.lit 0)), (.int .i64 (.lit 0)), (.int .i64 (.lit 0)), (.int .i64 (.lit 0)), (.int .i64 (.lit 0)), (.int .i64 (.lit 0)), (.int .i64 (.lit 0)), (.int .i64 (.lit 0)), (.int .i64 (.lit 0)), (.int .i64 (.lit 0)), (.int .i64 (.lit 0)), (.int .i64 (.lit 0)), (.int .i64 (.lit 0)), (.int .i64 (.lit 0)), (.int .i64 (.lit 0)), (.int .i64 (.lit 0)), (.int .i64 (.lit 0)), (.int .i64 (.lit 0)), (.int .i64 (.lit 0)), (.int .i64 (.lit 0)), (.int .i64 (.lit 0)), .nilslice]⟩,
 ⟨none, false, none, iStore 23 (.t 39) (.t 296)⟩])
 (cSeq (cOps [⟨some 297, false, none, iFaddr 21 (.t 39)⟩,
 ⟨none, false, none, iStore 1 (.t 297) (.c (.int .i64 (.lit 21)))⟩])
 (cSeq (cOps [⟨some 299, false, none, iLoadN 23 (.t 39)⟩,
 ⟨some 300, false, none, iCall (.c (.func (.func 23) [] [])) [(.t 299)]⟩,
 ⟨some 298, false, none, iMov (.t 300)⟩,
 ⟨some 301, false, none, iExtract 0 (.t 298)⟩,
 ⟨some 302, false, none, iExtract 1 (.t 298)⟩,
 ⟨some 40, false, none, iMov (.t 301)⟩,
 ⟨some 41, true, none, iMov (.t 302)⟩])
 (cSeq (cOps [⟨some 304, false, none, iLoadN 23 (.t 39)⟩,
 ⟨some 305, false, none, iCall (.c (.func (.func 28) [] [])) [(.t 304), (.c (.int .i64 (.lit 0)))]⟩,
 ⟨some 303, false, none, iMov (.t 305)⟩,
 ⟨some 306, false, none, iExtract 0 (.t 303)⟩,
 ⟨some 307, false, none, iExtract 1 (.t 303)⟩,
 ⟨some 42, false, none, iMov (.t 306)⟩,
 ⟨some 43, true, none, iMov (.t 307)⟩])
 (cSeq (cOps [⟨some 309, false, none, iLoadN 23 (.t 39)⟩,
 ⟨some 310, false, none, iCall (.c (.func (.func 30) [] [])) [(.t 309)]⟩,
 ⟨some 308, false, none, iMov (.t 310)⟩,
 ⟨some 311, false, none, iExtract 0 (.t 308)⟩,
 ⟨some 312, false, none, iExtract 1 (.t 308)⟩,
 ⟨some 44, false, none, iMov (.t 311)⟩,
 ⟨some 45, true, none, iMov (.t 312)⟩])
 (cSeq (cSeq (cOps [⟨some 313, false, none, iMov (.t 26)⟩,
 ⟨some 314, false, none, iCmp .neq (.t 313) (.c (.int .i64 (.lit 41)))⟩,
 ⟨some 315, false, none, iMov (.t 314)⟩,
 ⟨some 316, false, some (315, false), iMov (.t 28)⟩,
 ⟨some 317, false, some (315, false), iCmp .neq (.t 316) (.c (.int .i64 (.lit 41)))⟩,
 ⟨some 318, false, none, iPick (.t 315) (.c (.bool (.lit true))) (.t 317)⟩,
 ⟨some 319, false, none, iMov (.t 318)⟩,
 ⟨some 320, false, some (319, false), iMov (.t 31)⟩,
 ⟨some 321, false, some (319, false), iCmp .neq (.t 320) (.c (.int .i64 (.lit 41)))⟩,
 ⟨some 322, false, none, iPick (.t 319) (.c (.bool (.lit true))) (.t 321)⟩,
 ⟨some 323, false, none, iMov (.t 322)⟩,
 ⟨some 324, false, some (323, false), iMov (.t 33)⟩,
 ⟨some 325, false, some (323, false), iCmp .neq (.t 324) (.c (.int .i64 (.lit 41)))⟩,
 ⟨some 326, false, none, iPick (.t 323) (.c (.bool (.lit true))) (.t 325)⟩,
 ⟨some 327, false, none, iMov (.t 326)⟩,
 ⟨some 328, false, some (327, false), iMov (.t 36)⟩,
 ⟨some 329, false, some (327, false), iCmp .neq (.t 328) (.c (.int .i64 (.lit 42)))⟩,
 ⟨some 330, false, none, iPick (.t 327) (.c (.bool (.lit true))) (.t 329)⟩,
 ⟨some 331, false, none, iMov (.t 330)⟩,
 ⟨some 332, false, some (331, false), iMov (.t 38)⟩,
 ⟨some 333, false, some (331, false), iCmp .neq (.t 332) (.c (.int .i64 (.lit 4)))⟩,
 ⟨some 334, false, none, iPick (.t 331) (.c (.bool (.lit true))) (.t 333)⟩,
 ⟨some 335, false, none, iMov (.t 334)⟩,
 ⟨some 336, false, some (335, false), iMov (.t 41)⟩,
 ⟨some 337, false, some (335, false), iCmp .neq (.t 336) (.c (.int .i64 (.lit 4)))⟩,
 ⟨some 338, false, none, iPick (.t 335) (.c (.bool (.lit true))) (.t 337)⟩,
 ⟨some 339, false, none, iMov (.t 338)⟩,
 ⟨some 340, false, some (339, false), iMov (.t 43)⟩,
 ⟨some 341, false, some (339, false), iCmp .neq (.t 340) (.c (.int .i64 (.lit 4)))⟩,
 ⟨some 342, false, none, iPick (.t 339) (.c (.bool (.lit true))) (.t 341)⟩,
 ⟨some 343, false, none, iMov (.t 342)⟩,
 ⟨some 344, false, some (343, false), iMov (.t 45)⟩,
 ⟨some 345, false, some (343, false), iCmp .neq (.t 344) (.c (.int .i64 (.lit 4)))⟩,
 ⟨some 346, true, none, iPick (.t 343) (.c (.bool (.lit true))) (.t 345)⟩])
 (cCond (.t 346) (cSeq (cOps [⟨some 0, true, none, iMov (.c (.bool (.lit false)))⟩])
 cRet) cSkip))
 (cSeq (cOps [⟨some 348, false, none, iCall (.c (.func (.func 45) [] [])) []⟩,
 ⟨some 349, false, none, iCall (.c (.func (.func 14) [] [])) [(.t 348), (.c (.int .i64 (.lit 10)))]⟩,
 ⟨some 347, false, none, iMov (.t 349)⟩,
 ⟨some 350, false, none, iExtract 0 (.t 347)⟩,
 ⟨some 351, false, none, iExtract 1 (.t 347)⟩,
 ⟨some 46, true, none, iAlloc 23 [(.int .i64 (.lit 0)), (.int .i64 (.lit 0))]⟩,
 ⟨none, false, none, iStore 2 (.t 46) (.t 350)⟩,
 ⟨some 26, true, none, iMov (.t 351)⟩])
 (cSeq (cOps [⟨some 353, false, none, iCall (.c (.func (.func 45) [] [])) []⟩,
 ⟨some 354, false, none, iCall (.c (.func (.func 46) [] [])) []⟩,
 ⟨some 355, false, none, iCall (.c (.func (.func 18) [] [])) [(.t 353), (.t 354), (.c (.int .i64 (.lit 1)))]⟩,
 ⟨some 352, false, none, iMov (.t 355)⟩,
 ⟨some 356, false, none, iExtract 0 (.t 352)⟩,
 ⟨some 357, false, none, iExtract 1 (.t 352)⟩,
 ⟨some 358, false, none, iExtract 2 (.t 352)⟩,
 ⟨some 47, true, none, iAlloc 23 [(.int .i64 (.lit 0)), (.int .i64 (.lit 0))]⟩,
 ⟨some 48, true, none, iAlloc 23 [(.int .i64 (.lit 0)), (.int .i64 (.lit 0))]⟩,
 ⟨none, false, none, iStore 2 (.t 47) (.t 356)⟩,
 ⟨none, false, none, iStore 2 (.t 48) (.t 357)⟩,
 ⟨some 28, true, none, iMov (.t 358)⟩])
 (cSeq (cOps [⟨some 360, false, none, iCall (.c (.func (.func 45) [] [])) []⟩,
 ⟨some 361, false, none, iBuild [(.int .i64 (.lit 0)), (.int .i64 (.lit 0))] []⟩,
 ⟨some 362, false, none, iBuild [(.int .i64 (.lit 0)), (.int .i64 (.lit 0))] [(0, 1, (.c (.int .i64 (.lit 2))))]⟩,
 ⟨some 363, false, none, iBuild [(.int .i64 (.lit 0)), (.int .i64 (.lit 0))] [(1, 1, (.c (.int .i64 (.lit 1))))]⟩,
 ⟨some 364, false, none, iBuild [(.int .i64 (.lit 0)), (.int .i64 (.lit 0))] [(0, 1, (.c (.int .i64 (.lit 3)))), (1, 1, (.c (.int .i64 (.lit 1))))]⟩,
 ⟨some 365, false, none, iBslice 64 [(.int .i64 (.lit 0)), (.int .i64 (.lit 0))] 4 [(0, 2, (.t 361)), (2, 2, (.t 362)), (4, 2, (.t 363)), (6, 2, (.t 364))]⟩,
 ⟨some 366, false, none, iCall (.c (.func (.func 21) [] [])) [(.t 360), (.t 365)]⟩,
 ⟨some 359, false, none, iMov (.t 366)⟩,
 ⟨some 367, false, none, iExtract 0 (.t 359)⟩,
 ⟨some 368, false, none, iExtract 1 (.t 359)⟩,
 ⟨some 49, true, none, iMov (.t 367)⟩,
 ⟨some 31, true, none, iMov (.t 368)⟩])
 (cSeq (cOps [⟨some 370, false, none, iCall (.c (.func (.func 45) [] [])) []⟩,
 ⟨some 371, false, none, iBuild [(.int .i64 (.lit 0)), (.int .i64 (.lit 0))] []⟩,
 ⟨some 372, false, none, iBuild [(.int .i64 (.lit 0)), (.int .i64 (.lit 0))] [(0, 1, (.c (.int .i64 (.lit 2))))]⟩,
 ⟨some 373, false, none, iBuild [(.int .i64 (.lit 0)), (.int .i64 (.lit 0))] [(0, 1, (.c (.int .i64 (.lit 1))))]⟩,
 ⟨some 374, false, none, iBuild [(.int .i64 (.lit 0)), (.int .i64 (.lit 0))] [(0, 1, (.c (.int .i64 (.lit 3))))]⟩,
 ⟨some 375, false, none, iBslice 64 [(.int .i64 (.lit 0)), (.int .i64 (.lit 0))] 4 [(0, 2, (.t 371)), (2, 2, (.t 372)), (4, 2, (.t 373)), (6, 2, (.t 374))]⟩,
 ⟨some 376, false, none, iCall (.c (.func (.func 21) [] [])) [(.t 370), (.t 375)]⟩,
 ⟨some 369, false, none, iMov (.t 376)⟩,
 ⟨some 377, false, none, iExtract 0 (.t 369)⟩,
 ⟨some 378, false, none, iExtract 1 (.t 369)⟩,
 ⟨some 50, true, none, iMov (.t 377)⟩,
 ⟨some 33, true, none, iMov (.t 378)⟩])
 (cSeq (cOps [⟨some 380, false, none, iLoadN 23 (.t 39)⟩,
 ⟨some 381, false, none, iCall (.c (.func (.func 26) [] [])) [(.t 380)]⟩,
 ⟨some 379, false, none, iMov (.t 381)⟩,
 ⟨some 382, false, none, iExtract 0 (.t 379)⟩,
 ⟨some 383, false, none, iExtract 1 (.t 379)⟩,
 ⟨some 51, true, none, iMov (.t 382)⟩,
 ⟨some 36, true, none, iMov (.t 383)⟩])
 (cSeq (cOps [⟨some 385, false, none, iCall (.c (.func (.func 45) [] [])) []⟩,
 ⟨some 386, false, none, iCall (.c (.func (.func 28) [] [])) [(.t 385), (.c (.int .i64 (.lit 0)))]⟩,
 ⟨some 384, false, none, iMov (.t 386)⟩,
 ⟨some 387, false, none, iExtract 0 (.t 384)⟩,
 ⟨some 388, false, none, iExtract 1 (.t 384)⟩,
 ⟨some 52, true, none, iMov (.t 387)⟩,
 ⟨some 38, true, none, iMov (.t 388)⟩])
 (cSeq (cOps [⟨some 390, false, none, iCall (.c (.func (.func 45) [] [])) []⟩,
 ⟨some 391, false, none, iCall (.c (.func (.func 28) [] [])) [(.t 390), (.c (.int .i64 (.lit 1)))]⟩,
 ⟨some 389, false, none, iMov (.t 391)⟩,
 ⟨some 392, false, none, iExtract 0 (.t 389)⟩,
 ⟨some 393, false, none, iExtract 1 (.t 389)⟩,
 ⟨some 53, true, none, iMov (.t 392)⟩,
 ⟨some 41, true, none, iMov (.t 393)⟩])
 (cSeq (cOps [⟨some 395, false, none, iCall (.c (.func (.func 45) [] [])) []⟩,
 ⟨some 396, false, none, iCall (.c (.func (.func 28) [] [])) [(.t 395), (.c (.int .i64 (.lit 3)))]⟩,
 ⟨some 394, false, none, iMov (.t 396)⟩,
 ⟨some 397, false, none, iExtract 0 (.t 394)⟩,
 ⟨some 398, false, none, iExtract 1 (.t 394)⟩,
 ⟨some 54, true, none, iMov (.t 397)⟩,
 ⟨some 43, true, none, iMov (.t 398)⟩])
 (cSeq (dOps 0 [⟨⟨some 399, false, none, iMov (.t 26)⟩, [26], false, 0, 0, none, []⟩,
 ⟨⟨some 400, false, none, iCmp .eql (.t 399) (.c (.int .i64 (.lit 0)))⟩, [399], false, 0, 0, none, []⟩,
 ⟨⟨some 401, false, none, iMov (.t 400)⟩, [400], false, 0, 0, none, []⟩,
 ⟨⟨some 402, false, some (401, true), iLoadN 2 (.t 46)⟩, [401, 46], false, 0, 1, none, []⟩,
 ⟨⟨some 403, false, some (401, true), iCall (.c (.func (.func 40) [] [])) [(.c (.int .i64 (.lit 20))), (.c (.int .i64 (.lit 24)))]⟩, [401], true, 0, 0, none, []⟩,
 ⟨⟨some 404, false, some (401, true), iEq false true 2 [(0, .int), (1, .int)] (.t 402) (.t 403)⟩, [401, 402, 403], false, 1, 1, none, []⟩,
 ⟨⟨some 405, false, none, iPick (.t 401) (.t 404) (.c (.bool (.lit false)))⟩, [401, 404], false, 1, 1, none, []⟩,
 ⟨⟨some 406, false, none, iMov (.t 405)⟩, [405], false, 1, 1, none, []⟩,
 ⟨⟨some 407, false, some (406, true), iMov (.t 28)⟩, [406, 28], false, 1, 1, none, []⟩,
 ⟨⟨some 408, false, some (406, true), iCmp .eql (.t 407) (.c (.int .i64 (.lit 0)))⟩, [406, 407], false, 1, 1, none, []⟩,
 ⟨⟨some 409, false, none, iPick (.t 406) (.t 408) (.c (.bool (.lit false)))⟩, [406, 408], false, 1, 1, none, []⟩,
 ⟨⟨some 410, false, none, iMov (.t 409)⟩, [409], false, 1, 1, none, []⟩,
 ⟨⟨some 411, false, some (410, true), iLoadN 2 (.t 47)⟩, [410, 47], false, 1, 2, none, []⟩,
 ⟨⟨some 412, false, some (410, true), iCall (.c (.func (.func 40) [] [])) [(.c (.int .i64 (.lit 2))), (.c (.int .i64 (.lit 26)))]⟩, [410], true, 1, 0, none, []⟩,
 ⟨⟨some 413, false, some (410, true), iEq false true 2 [(0, .int), (1, .int)] (.t 411) (.t 412)⟩, [410, 411, 412], false, 2, 2, none, []⟩,
 ⟨⟨some 414, false, none, iPick (.t 410) (.t 413) (.c (.bool (.lit false)))⟩, [410, 413], false, 2, 2, none, []⟩,
 ⟨⟨some 415, false, none, iMov (.t 414)⟩, [414], false, 2, 2, none, []⟩,
 ⟨⟨some 416, false, some (415, true), iLoadN 2 (.t 48)⟩, [415, 48], false, 2, 3, none, []⟩,
 ⟨⟨some 417, false, some (415, true), iCall (.c (.func (.func 40) [] [])) [(.c (.int .i64 (.lit 12))), (.c (.int .i64 (.lit 20)))]⟩, [415], true, 2, 0, none, []⟩,
 ⟨⟨some 418, false, some (415, true), iEq false true 2 [(0, .int), (1, .int)] (.t 416) (.t 417)⟩, [415, 416, 417], false, 3, 3, none, []⟩,
 ⟨⟨some 419, false, none, iPick (.t 415) (.t 418) (.c (.bool (.lit false)))⟩, [415, 418], false, 3, 3, none, []⟩,
 ⟨⟨some 420, false, none, iMov (.t 419)⟩, [419], false, 3, 3, none, []⟩,
 ⟨⟨some 421, false, some (420, true), iMov (.t 31)⟩, [420, 31], false, 3, 3, none, []⟩,
 ⟨⟨some 422, false, some (420, true), iCmp .eql (.t 421) (.c (.int .i64 (.lit 0)))⟩, [420, 421], false, 3, 3, none, []⟩,
 ⟨⟨some 423, false, none, iPick (.t 420) (.t 422) (.c (.bool (.lit false)))⟩, [420, 422], false, 3, 3, none, []⟩,
 ⟨⟨some 424, false, none, iMov (.t 423)⟩, [423], false, 3, 3, none, []⟩,
 ⟨⟨some 425, false, some (424, true), iMov (.t 49)⟩, [424, 49], false, 3, 3, none, []⟩,
 ⟨⟨some 426, false, some (424, true), iCmp .eql (.t 425) (.c (.int .i64 (.lit 2)))⟩, [424, 425], false, 3, 3, none, []⟩,
 ⟨⟨some 427, false, none, iPick (.t 424) (.t 426) (.c (.bool (.lit false)))⟩, [424, 426], false, 3, 3, none, []⟩,
 ⟨⟨some 428, false, none, iMov (.t 427)⟩, [427], false, 3, 3, none, []⟩,
 ⟨⟨some 429, false, some (428, true), iMov (.t 33)⟩, [428, 33], false, 3, 3, none, []⟩,
 ⟨⟨some 430, false, some (428, true), iCmp .eql (.t 429) (.c (.int .i64 (.lit 0)))⟩, [428, 429], false, 3, 3, none, []⟩,
 ⟨⟨some 431, false, none, iPick (.t 428) (.t 430) (.c (.bool (.lit false)))⟩, [428, 430], false, 3, 3, none, []⟩,
 ⟨⟨some 432, false, none, iMov (.t 431)⟩, [431], false, 3, 3, none, []⟩,
 ⟨⟨some 433, false, some (432, true), iMov (.t 50)⟩, [432, 50], false, 3, 3, none, []⟩,
 ⟨⟨some 434, false, some (432, true), iCmp .eql (.t 433) (.c (.int .i64 (.lit 3)))⟩, [432, 433], false, 3, 3, none, []⟩,
 ⟨⟨some 435, false, none, iPick (.t 432) (.t 434) (.c (.bool (.lit false)))⟩, [432, 434], false, 3, 3, none, []⟩,
 ⟨⟨some 436, false, none, iMov (.t 435)⟩, [435], false, 3, 3, none, []⟩,
 ⟨⟨some 437, false, some (436, true), iMov (.t 36)⟩, [436, 36], false, 3, 3, none, []⟩,
 ⟨⟨some 438, false, some (436, true), iCmp .eql (.t 437) (.c (.int .i64 (.lit 0)))⟩, [436, 437], false, 3, 3, none, []⟩,
 ⟨⟨some 439, false, none, iPick (.t 436) (.t 438) (.c (.bool (.lit false)))⟩, [436, 438], false, 3, 3, none, []⟩,
 ⟨⟨some 440, false, none, iMov (.t 439)⟩, [439], false, 3, 3, none, []⟩,
 ⟨⟨some 441, false, some (440, true), iMov (.t 51)⟩, [440, 51], false, 3, 3, none, []⟩,
 ⟨⟨some 442, false, some (440, true), iCmp .eql (.t 441) (.c (.int .i64 (.lit 1)))⟩, [440, 441], false, 3, 3, none, []⟩,
 ⟨⟨some 443, false, none, iPick (.t 440) (.t 442) (.c (.bool (.lit false)))⟩, [440, 442], false, 3, 3, none, []⟩,
 ⟨⟨some 444, false, none, iMov (.t 443)⟩, [443], false, 3, 3, none, []⟩,
 ⟨⟨some 445, false, some (444, true), iMov (.t 38)⟩, [444, 38], false, 3, 3, none, []⟩,
 ⟨⟨some 446, false, some (444, true), iCmp .eql (.t 445) (.c (.int .i64 (.lit 0)))⟩, [444, 445], false, 3, 3, none, []⟩,
 ⟨⟨some 447, false, none, iPick (.t 444) (.t 446) (.c (.bool (.lit false)))⟩, [444, 446], false, 3, 3, none, []⟩,
 ⟨⟨some 448, false, none, iMov (.t 447)⟩, [447], false, 3, 3, none, []⟩,
 ⟨⟨some 449, false, some (448, true), iMov (.t 52)⟩, [448, 52], false, 3, 3, none, []⟩,
 ⟨⟨some 450, false, some (448, true), iCmp .eql (.t 449) (.c (.int .i64 (.lit 2)))⟩, [448, 449], false, 3, 3, none, []⟩,
 ⟨⟨some 451, false, none, iPick (.t 448) (.t 450) (.c (.bool (.lit false)))⟩, [448, 450], false, 3, 3, none, []⟩,
 ⟨⟨some 452, false, none, iMov (.t 451)⟩, [451], false, 3, 3, none, []⟩,
 ⟨⟨some 453, false, some (452, true), iMov (.t 41)⟩, [452, 41], false, 3, 3, none, []⟩,
 ⟨⟨some 454, false, some (452, true), iCmp .eql (.t 453) (.c (.int .i64 (.lit 0)))⟩, [452, 453], false, 3, 3, none, []⟩,
 ⟨⟨some 455, false, none, iPick (.t 452) (.t 454) (.c (.bool (.lit false)))⟩, [452, 454], false, 3, 3, none, []⟩,
 ⟨⟨some 456, false, none, iMov (.t 455)⟩, [455], false, 3, 3, none, []⟩,
 ⟨⟨some 457, false, some (456, true), iMov (.t 53)⟩, [456, 53], false, 3, 3, none, []⟩,
 ⟨⟨some 458, false, some (456, true), iCmp .eql (.t 457) (.c (.int .i64 (.lit 1)))⟩, [456, 457], false, 3, 3, none, []⟩,
 ⟨⟨some 459, false, none, iPick (.t 456) (.t 458) (.c (.bool (.lit false)))⟩, [456, 458], false, 3, 3, none, []⟩,
 ⟨⟨some 460, false, none, iMov (.t 459)⟩, [459], false, 3, 3, none, []⟩,
 ⟨⟨some 461, false, some (460, true), iMov (.t 43)⟩, [460, 43], false, 3, 3, none, []⟩,
 ⟨⟨some 462, false, some (460, true), iCmp .eql (.t 461) (.c (.int .i64 (.lit 0)))⟩, [460, 461], false, 3, 3, none, []⟩,
 ⟨⟨some 463, false, none, iPick (.t 460) (.t 462) (.c (.bool (.lit false)))⟩, [460, 462], false, 3, 3, none, []⟩,
 ⟨⟨some 464, false, none, iMov (.t 463)⟩, [463], false, 3, 3, none, []⟩,
 ⟨⟨some 465, false, some (464, true), iMov (.t 54)⟩, [464, 54], false, 3, 3, none, []⟩,
 ⟨⟨some 466, false, some (464, true), iCmp .eql (.t 465) (.c (.int .i64 (.lit 3)))⟩, [464, 465], false, 3, 3, none, []⟩,
 ⟨⟨some 467, false, none, iPick (.t 464) (.t 466) (.c (.bool (.lit false)))⟩, [464, 466], false, 3, 3, none, []⟩,
 ⟨⟨some 468, false, none, iMov (.t 467)⟩, [467], false, 3, 3, none, []⟩,
 ⟨⟨some 469, false, none, iPick (.t 468) (.c (.bool (.lit true))) (.c (.bool (.lit false)))⟩, [468], false, 3, 3, none, []⟩,
 ⟨⟨some 470, false, none, iMov (.t 469)⟩, [469], false, 3, 3, none, []⟩,
 ⟨⟨some 471, false, some (470, true), iCall (.c (.func (.func 20) [] [])) []⟩, [470], true, 3, 0, none, []⟩,
 ⟨⟨some 472, false, none, iPick (.t 470) (.t 471) (.c (.bool (.lit false)))⟩, [470, 471], false, 4, 4, none, []⟩,
 ⟨⟨some 0, true, none, iMov (.t 472)⟩, [472], false, 4, 4, none, []⟩])
 cRet)))))))))))))))))))))))))))))))))))))), [.t 0]⟩
noncomputable def Tryd.kp14 : List Nat := [0, 1, 2, 4, 5, 6, 7, 14, 23]
noncomputable def Tryd.cf14 : CF := ⟨2, (cSeq (cOps [⟨some 2, true, none, iBox 27 (.t 0)⟩,
 ⟨some 4, true, none, iAlloc 23 [(.int .i64 (.lit 0)), (.int .i64 (.lit 0))]⟩,
 ⟨some 5, true, none, iMov (.c (.int .i64 (.lit 0)))⟩])
 (cSeq (cOps [⟨some 9, false, none, iLoadN 23 (.t 2)⟩,
 ⟨some 10, false, none, iCall (.c (.func (.func 48) [] [])) [(.t 9)]⟩,
 ⟨some 8, false, none, iMov (.t 10)⟩,
 ⟨some 11, false, none, iExtract 0 (.t 8)⟩,
 ⟨some 12, false, none, iExtract 1 (.t 8)⟩,
 ⟨some 6, true, none, iAlloc 78 [(.int .i64 (.lit 0)), (.int .i64 (.lit 0)), (.int .i64 (.lit 0)), (.int .i64 (.lit 0)), (.int .i64 (.lit 0)), (.int .i64 (.lit 0)), (.int .i64 (.lit 0)), (.int .i64 (.lit 0)), (.int .i64 (.lit 0)), (.int .i64 (.lit 0)), (.int .i64 (.lit 0)), (.int .i64 (.lit 0)), (.int .i64 (.lit 0)), (.int .i64 (.lit 0)), (.int .i64 (.lit 0)), (.int .i64 (.lit 0)), (.int .i64 (.lit 0)), (.int .i64 (.lit 0)), (.int .i64 (.lit 0)), (.int .i64 (.lit 0)), (.int .i64 (.lit 0)), (.int .i64 (.lit 0)), .nilslice, (.int .i64 (.lit 0)), (.int .i64 (.lit 0)), (.int .i64 (.lit 0)), (.int .i64 (.lit 0)), (.int .i64 (.lit 0)), (.int .i64 (.lit 0)), (.int .i64 (.lit 0)), (.int .i64 (.lit 0)), (.int .i64 (.lit 0)), (.int .i64 (.lit 0)), (.int .i64 (.lit 0)), (.int .i64 (.lit 0)), (.int .i64 (.lit 0)), (.int .i64 (.lit 0)), (.int .i64 (.lit 0)), (.int .i64 (.lit 0))]⟩,
 ⟨none, false, none, iStore 39 (.t 6) (.t 11)⟩,
 ⟨some 7, true, none, iMov (.t 12)⟩])
 (cSeq (cSeq (cOps [⟨some 13, false, none, iMov (.t 7)⟩,
 ⟨some 14, true, none, iCmp .neq (.t 13) (.c (.int .i64 (.lit 0)))⟩])
 (cCond (.t 14) (cSeq (cOps [⟨some 15, false, none, iBuild [(.int .i64 (.lit 0)), (.int .i64 (.lit 0))] []⟩,
 ⟨some 16, false, none, iMov (.t 7)⟩,
 ⟨none, false, none, iStore 2 (.t 4) (.t 15)⟩,
 ⟨some 5, true, none, iMov (.t 16)⟩])
 cRet) cSkip))
 (cSeq (cSeq (cOps [⟨some 17, false, none, iMov (.t 1)⟩,
 ⟨some 18, false, none, iFaddr 0 (.t 6)⟩,
 ⟨some 19, false, none, iFaddr 5 (.t 18)⟩,
 ⟨some 20, false, none, iLoad (.t 19)⟩,
 ⟨some 21, false, none, iBuild [(.int .i64 (.lit 0)), (.int .i64 (.lit 0))] [(0, 1, (.c (.int .i64 (.lit 0)))), (1, 1, (.t 20))]⟩,
 ⟨some 22, false, none, iCall (.c (.func (.func 49) [] [])) [(.t 17), (.t 21)]⟩,
 ⟨some 23, true, none, iNot (.t 22)⟩])
 (cCond (.t 23) (cSeq (cOps [⟨some 24, false, none, iBuild [(.int .i64 (.lit 0)), (.int .i64 (.lit 0))] []⟩,
 ⟨none, false, none, iStore 2 (.t 4) (.t 24)⟩,
 ⟨some 5, true, none, iMov (.c (.int .i64 (.lit 41)))⟩])
 cRet) cSkip))
 (cSeq (cOps [⟨some 25, false, none, iLoadN 39 (.t 6)⟩,
 ⟨some 26, false, none, iMov (.t 1)⟩,
 ⟨some 27, false, none, iCall (.c (.func (.func 50) [] [])) [(.t 25), (.t 26)]⟩,
 ⟨none, false, none, iStore 2 (.t 4) (.t 27)⟩,
 ⟨some 5, true, none, iMov (.c (.int .i64 (.lit 0)))⟩])
 cRet))))), [.cell 4 true 2, .t 5]⟩
noncomputable def Tryd.kp16 : List Nat := [0, 1, 2, 5]
noncomputable def Tryd.cf16 : CF := ⟨1, (cSeq (cOps [⟨some 1, true, none, iBox 27 (.t 0)⟩,
 ⟨some 2, true, none, iMov (.c (.int .i64 (.lit 0)))⟩])
 (cSeq (cSeq (cOps [⟨some 3, false, none, iLoadN 23 (.t 1)⟩,
 ⟨some 4, false, none, iCall (.c (.func (.func 51) [] [])) [(.t 3)]⟩,
 ⟨some 5, true, none, iNot (.t 4)⟩])
 (cCond (.t 5) (cSeq (cOps [⟨some 2, true, none, iMov (.c (.int .i64 (.lit 40)))⟩])
 cRet) cSkip))
 (cSeq (cOps [⟨some 2, true, none, iMov (.c (.int .i64 (.lit 0)))⟩])
 cRet))), [.t 2]⟩
noncomputable def Tryd.kp18 : List Nat := [0, 1, 2, 3, 6, 7, 8, 9, 16, 29]
noncomputable def Tryd.cf18 : CF := ⟨3, (cSeq (cOps [⟨some 3, true, none, iBox 27 (.t 0)⟩,
 ⟨some 6, true, none, iAlloc 23 [(.int .i64 (.lit 0)), (.int .i64 (.lit 0))]⟩,
 ⟨some 7, true, none, iAlloc 23 [(.int .i64 (.lit 0)), (.int .i64 (.lit 0))]⟩,
 ⟨some 8, true, none, iMov (.c (.int .i64 (.lit 0)))⟩])
 (cSeq (cOps [⟨some 11, false, none, iLoadN 23 (.t 3)⟩,
 ⟨some 12, false, none, iCall (.c (.func (.func 48) [] [])) [(.t 11)]⟩,
 ⟨some 10, false, none, iMov (.t 12)⟩,
 ⟨some 13, false, none, iExtract 0 (.t 10)⟩,
 ⟨some 14, false, none, iExtract 1 (.t 10)⟩,
 ⟨some 9, true, none, iAlloc 78 [(.int .i64 (.lit 0)), (.int .i64 (.lit 0)), (.int .i64 (.lit 0)), (.int .i64 (.lit 0)), (.int .i64 (.lit 0)), (.int .i64 (.lit 0)), (.int .i64 (.lit 0)), (.int .i64 (.lit 0)), (.int .i64 (.lit 0)), (.int .i64 (.lit 0)), (.int .i64 (.lit 0)), (.int .i64 (.lit 0)), (.int .i64 (.lit 0)), (.int .i64 (.lit 0)), (.int .i64 (.lit 0)), (.int .i64 (.lit 0)), (.int .i64 (.lit 0)), (.int .i64 (.lit 0)), (.int .i64 (.lit 0)), (.int .i64 (.lit 0)), (.int .i64 (.lit 0)), (.int .i64 (.lit 0)), .nilslice, (.int .i64 (.lit 0)), (.int .i64 (.lit 0)), (.int .i64 (.lit 0)), (.int .i64 (.lit 0)), (.int .i64 (.lit 0)), (.int .i64 (.lit 0)), (.int .i64 (.lit 0)), (.int .i64 (.lit 0)), (.int .i64 (.lit 0)), (.int .i64 (.lit 0)), (.int .i64 (.lit 0)), (.int .i64 (.lit 0)), (.int .i64 (.lit 0)), (.int .i64 (.lit 0)), (.int .i64 (.lit 0)), (.int .i64 (.lit 0))]⟩,
 ⟨none, false, none, iStore 39 (.t 9) (.t 13)⟩,
 ⟨some 8, true, none, iMov (.t 14)⟩])
 (cSeq (cSeq (cOps [⟨some 15, false, none, iMov (.t 8)⟩,
 ⟨some 16, true, none, iCmp .neq (.t 15) (.c (.int .i64 (.lit 0)))⟩])
 (cCond (.t 16) (cSeq (cOps [⟨some 17, false, none, iBuild [(.int .i64 (.lit 0)), (.int .i64 (.lit 0))] []⟩,
 ⟨some 18, false, none, iBuild [(.int .i64 (.lit 0)), (.int .i64 (.lit 0))] []⟩,
 ⟨some 19, false, none, iMov (.t 8)⟩,
 ⟨none, false, none, iStore 2 (.t 6) (.t 17)⟩,
 ⟨none, false, none, iStore 2 (.t 7) (.t 18)⟩,
 ⟨some 8, true, none, iMov (.t 19)⟩])
 cRet) cSkip))
 (cSeq (cSeq (cOps [⟨some 20, false, none, iLoadN 39 (.t 9)⟩,
 ⟨some 21, false, none, iMov (.t 1)⟩,
 ⟨some 22, false, none, iCall (.c (.func (.func 53) [] [])) [(.t 20), (.t 21)]⟩,
 ⟨some 23, false, none, iNot (.t 22)⟩,
 ⟨some 24, false, none, iMov (.t 23)⟩,
 ⟨some 25, false, some (24, false), iLoadN 39 (.t 9)⟩,
 ⟨some 26, false, some (24, false), iMov (.t 2)⟩,
 ⟨some 27, false, some (24, false), iCall (.c (.func (.func 54) [] [])) [(.t 25), (.t 26)]⟩,
 ⟨some 28, false, some (24, false), iNot (.t 27)⟩,
 ⟨some 29, true, none, iPick (.t 24) (.c (.bool (.lit true))) (.t 28)⟩])
 (cCond (.t 29) (cSeq (cOps [⟨some 30, false, none, iBuild [(.int .i64 (.lit 0)), (.int .i64 (.lit 0))] []⟩,
 ⟨some 31, false, none, iBuild [(.int .i64 (.lit 0)), (.int .i64 (.lit 0))] []⟩,
 ⟨none, false, none, iStore 2 (.t 6) (.t 30)⟩,
 ⟨none, false, none, iStore 2 (.t 7) (.t 31)⟩,
 ⟨some 8, true, none, iMov (.c (.int .i64 (.lit 41)))⟩])
 cRet) cSkip))
 (cSeq (dOps 0 [⟨⟨some 32, false, none, iLoadN 39 (.t 9)⟩, [9], false, 0, 0, none, []⟩,
 ⟨⟨some 33, false, none, iMov (.t 1)⟩, [1], false, 0, 0, none, []⟩,
 ⟨⟨some 34, false, none, iMov (.t 2)⟩, [2], false, 0, 0, none, []⟩,
 ⟨⟨some 35, false, none, iArith .add (.t 34) (.c (.int .i64 (.lit 1)))⟩, [34], false, 0, 0, none, []⟩,
 ⟨⟨some 36, false, none, iMov (.t 2)⟩, [2], false, 0, 0, none, []⟩,
 ⟨⟨some 37, false, none, iArith .add (.t 36) (.c (.int .i64 (.lit 1)))⟩, [36], false, 0, 0, none, []⟩,
 ⟨⟨some 38, false, none, iSlice 2 (.t 33) none (some (.t 35)) (some (.t 37))⟩, [33, 35, 37], false, 0, 0, none, []⟩,
 ⟨⟨some 39, false, none, iCall (.c (.func (.func 55) [] [])) [(.t 32), (.t 38)]⟩, [32, 38], true, 0, 0, none, []⟩,
 ⟨⟨some 40, false, none, iExtract 0 (.t 39)⟩, [39], false, 1, 1, none, []⟩,
 ⟨⟨some 41, false, none, iExtract 1 (.t 39)⟩, [39], false, 1, 1, none, []⟩,
 ⟨⟨some 42, false, none, iExtract 2 (.t 39)⟩, [39], false, 1, 1, none, []⟩,
 ⟨⟨none, false, none, iStore 2 (.t 6) (.t 40)⟩, [6, 40], true, 1, 0, none, []⟩,
 ⟨⟨none, false, none, iStore 2 (.t 7) (.t 41)⟩, [7, 41], true, 2, 0, none, []⟩,
 ⟨⟨some 8, true, none, iMov (.t 42)⟩, [42], false, 3, 3, none, []⟩])
 cRet))))), [.cell 6 true 2, .cell 7 true 2, .t 8]⟩
noncomputable def Tryd.kp20 : List Nat := [0, 1, 2, 3, 4, 5, 6, 7, 8, 9, 10, 11, 12, 74]
noncomputable def Tryd.cf20 : CF := ⟨0, (cSeq (cOps [⟨some 0, true, none, iMov (.c (.bool (.lit false)))⟩])
 (cSeq (cOps [⟨some 14, false, none, iCall (.c (.func (.func 45) [] [])) []⟩,
 ⟨some 15, false, none, iCall (.c (.func (.func 14) [] [])) [(.t 14), (.c (.int .i64 (.lit 9)))]⟩,
 ⟨some 13, false, none, iMov (.t 15)⟩,
 ⟨some 16, false, none, iExtract 0 (.t 13)⟩,
 ⟨some 17, false, none, iExtract 1 (.t 13)⟩,
 ⟨some 1, true, none, iAlloc 23 [(.int .i64 (.lit 0)), (.int .i64 (.lit 0))]⟩,
 ⟨none, false, none, iStore 2 (.t 1) (.t 16)⟩,
 ⟨some 2, true, none, iMov (.t 17)⟩])
 (cSeq (cOps [⟨some 19, false, none, iCall (.c (.func (.func 45) [] [])) []⟩,
 ⟨some 20, false, none, iCall (.c (.func (.func 46) [] [])) []⟩,
 ⟨some 21, false, none, iCall (.c (.func (.func 18) [] [])) [(.t 19), (.t 20), (.c (.int .i64 (.lit 3)))]⟩,
 ⟨some 18, false, none, iMov (.t 21)⟩,
 ⟨some 22, false, none, iExtract 0 (.t 18)⟩,
 ⟨some 23, false, none, iExtract 1 (.t 18)⟩,
 ⟨some 24, false, none, iExtract 2 (.t 18)⟩,
 ⟨some 3, true, none, iAlloc 23 [(.int .i64 (.lit 0)), (.int .i64 (.lit 0))]⟩,
 ⟨some 4, true, none, iAlloc 23 [(.int .i64 (.lit 0)), (.int .i64 (.lit 0))]⟩,
 ⟨none, false, none, iStore 2 (.t 3) (.t 22)⟩,
 ⟨none, false, none, iStore 2 (.t 4) (.t 23)⟩,
 ⟨some 5, true, none, iMov (.t 24)⟩])
 (cSeq (cOps [⟨some 26, false, none, iCall (.c (.func (.func 45) [] [])) []⟩,
 ⟨some 27, false, none, iCall (.c (.func (.func 47) [] [])) []⟩,
 ⟨some 28, false, none, iCall (.c (.func (.func 21) [] [])) [(.t 26), (.t 27)]⟩,
 ⟨some 25, false, none, iMov (.t 28)⟩,
 ⟨some 29, false, none, iExtract 0 (.t 25)⟩,
 ⟨some 30, false, none, iExtract 1 (.t 25)⟩,
 ⟨some 6, true, none, iMov (.t 29)⟩,
 ⟨some 7, true, none, iMov (.t 30)⟩])
 (cSeq (cOps [⟨some 32, false, none, iCall (.c (.func (.func 45) [] [])) []⟩,
 ⟨some 33, false, none, iCall (.c (.func (.func 23) [] [])) [(.t 32)]⟩,
 ⟨some 31, false, none, iMov (.t 33)⟩,
 ⟨some 34, false, none, iExtract 0 (.t 31)⟩,
 ⟨some 35, false, none, iExtract 1 (.t 31)⟩,
 ⟨some 8, true, none, iMov (.t 34)⟩,
 ⟨some 9, true, none, iMov (.t 35)⟩])
 (cSeq (cSeq (dOps 0 [⟨⟨some 36, false, none, iMov (.t 2)⟩, [2], false, 0, 0, none, []⟩,
 ⟨⟨some 37, false, none, iCmp .neq (.t 36) (.c (.int .i64 (.lit 0)))⟩, [36], false, 0, 0, none, []⟩,
 ⟨⟨some 38, false, none, iMov (.t 37)⟩, [37], false, 0, 0, none, []⟩,
 ⟨⟨some 39, false, some (38, false), iMov (.t 5)⟩, [38, 5], false, 0, 0, none, []⟩,
 ⟨⟨some 40, false, some (38, false), iCmp .neq (.t 39) (.c (.int .i64 (.lit 0)))⟩, [38, 39], false, 0, 0, none, []⟩,
 ⟨⟨some 41, false, none, iPick (.t 38) (.c (.bool (.lit true))) (.t 40)⟩, [38, 40], false, 0, 0, none, []⟩,
 ⟨⟨some 42, false, none, iMov (.t 41)⟩, [41], false, 0, 0, none, []⟩,
 ⟨⟨some 43, false, some (42, false), iMov (.t 7)⟩, [42, 7], false, 0, 0, none, []⟩,
 ⟨⟨some 44, false, some (42, false), iCmp .neq (.t 43) (.c (.int .i64 (.lit 0)))⟩, [42, 43], false, 0, 0, none, []⟩,
 ⟨⟨some 45, false, none, iPick (.t 42) (.c (.bool (.lit true))) (.t 44)⟩, [42, 44], false, 0, 0, none, []⟩,
 ⟨⟨some 46, false, none, iMov (.t 45)⟩, [45], false, 0, 0, none, []⟩,
 ⟨⟨some 47, false, some (46, false), iMov (.t 9)⟩, [46, 9], false, 0, 0, none, []⟩,
 ⟨⟨some 48, false, some (46, false), iCmp .neq (.t 47) (.c (.int .i64 (.lit 0)))⟩, [46, 47], false, 0, 0, none, []⟩,
 ⟨⟨some 49, false, none, iPick (.t 46) (.c (.bool (.lit true))) (.t 48)⟩, [46, 48], false, 0, 0, none, []⟩,
 ⟨⟨some 50, false, none, iMov (.t 49)⟩, [49], false, 0, 0, none, []⟩,
 ⟨⟨some 51, false, some (50, false), iLoadN 2 (.t 1)⟩, [50, 1], false, 0, 1, none, []⟩,
 ⟨⟨some 52, false, some (50, false), iCall (.c (.func (.func 40) [] [])) [(.c (.int .i64 (.lit 12))), (.c (.int .i64 (.lit 16)))]⟩, [50], true, 0, 0, none, []⟩,
 ⟨⟨some 53, false, some (50, false), iEq true true 2 [(0, .int), (1, .int)] (.t 51) (.t 52)⟩, [50, 51, 52], false, 1, 1, none, []⟩,
 ⟨⟨some 54, false, none, iPick (.t 50) (.c (.bool (.lit true))) (.t 53)⟩, [50, 53], false, 1, 1, none, []⟩,
 ⟨⟨some 55, false, none, iMov (.t 54)⟩, [54], false, 1, 1, none, []⟩,
 ⟨⟨some 56, false, some (55, false), iLoadN 2 (.t 3)⟩, [55, 3], false, 1, 2, none, []⟩,
 ⟨⟨some 57, false, some (55, false), iCall (.c (.func (.func 40) [] [])) [(.c (.int .i64 (.lit 0))), (.c (.int .i64 (.lit 32)))]⟩, [55], true, 1, 0, none, []⟩,
 ⟨⟨some 58, false, some (55, false), iEq true true 2 [(0, .int), (1, .int)] (.t 56) (.t 57)⟩, [55, 56, 57], false, 2, 2, none, []⟩,
 ⟨⟨some 59, false, none, iPick (.t 55) (.c (.bool (.lit true))) (.t 58)⟩, [55, 58], false, 2, 2, none, []⟩,
 ⟨⟨some 60, false, none, iMov (.t 59)⟩, [59], false, 2, 2, none, []⟩,
 ⟨⟨some 61, false, some (60, false), iLoadN 2 (.t 4)⟩, [60, 4], false, 2, 3, none, []⟩,
 ⟨⟨some 62, false, some (60, false), iCall (.c (.func (.func 40) [] [])) [(.c (.int .i64 (.lit 10))), (.c (.int .i64 (.lit 22)))]⟩, [60], true, 2, 0, none, []⟩,
 ⟨⟨some 63, false, some (60, false), iEq true true 2 [(0, .int), (1, .int)] (.t 61) (.t 62)⟩, [60, 61, 62], false, 3, 3, none, []⟩,
 ⟨⟨some 64, false, none, iPick (.t 60) (.c (.bool (.lit true))) (.t 63)⟩, [60, 63], false, 3, 3, none, []⟩,
 ⟨⟨some 65, false, none, iMov (.t 64)⟩, [64], false, 3, 3, none, []⟩,
 ⟨⟨some 66, false, some (65, false), iMov (.t 6)⟩, [65, 6], false, 3, 3, none, []⟩,
 ⟨⟨some 67, false, some (65, false), iCmp .neq (.t 66) (.c (.int .i64 (.lit 1)))⟩, [65, 66], false, 3, 3, none, []⟩,
 ⟨⟨some 68, false, none, iPick (.t 65) (.c (.bool (.lit true))) (.t 67)⟩, [65, 67], false, 3, 3, none, []⟩,
 ⟨⟨some 69, false, none, iMov (.t 68)⟩, [68], false, 3, 3, none, []⟩,
 ⟨⟨some 70, false, some (69, false), iMov (.t 8)⟩, [69, 8], false, 3, 4, none, []⟩,
 ⟨⟨some 71, false, some (69, false), iCall (.c (.func (.func 46) [] [])) []⟩, [69], true, 3, 0, none, []⟩,
 ⟨⟨some 72, false, some (69, false), iCall (.c (.func (.func 25) [] [])) [(.t 70), (.t 71)]⟩, [69, 70, 71], true, 4, 0, none, []⟩,
 ⟨⟨some 73, false, some (69, false), iNot (.t 72)⟩, [69, 72], false, 5, 5, none, []⟩,
 ⟨⟨some 74, true, none, iPick (.t 69) (.c (.bool (.lit true))) (.t 73)⟩, [69, 73], false, 5, 5, none, []⟩])
 (cCond (.t 74) (cSeq (cOps [⟨some 0, true, none, iMov (.c (.bool (.lit false)))⟩])
 cRet) cSkip))
 (cSeq (cOps [⟨some 76, false, none, iCall (.c (.func (.func 45) [] [])) []⟩,
 ⟨some 77, false, none, iCall (.c (.func (.func 26) [] [])) [(.t 76)]⟩,
 ⟨some 75, false, none, iMov (.t 77)⟩,
 ⟨some 78, false, none, iExtract 0 (.t 75)⟩,
 ⟨some 79, false, none, iExtract 1 (.t 75)⟩,
 ⟨some 10, true, none, iMov (.t 78)⟩,
 ⟨some 2, true, none, iMov (.t 79)⟩])
 (cSeq (cOps [⟨some 81, false, none, iCall (.c (.func (.func 45) [] [])) []⟩,
 ⟨some 82, false, none, iCall (.c (.func (.func 28) [] [])) [(.t 81), (.c (.int .i64 (.lit 2)))]⟩,
 ⟨some 80, false, none, iMov (.t 82)⟩,
 ⟨some 83, false, none, iExtract 0 (.t 80)⟩,
 ⟨some 84, false, none, iExtract 1 (.t 80)⟩,
 ⟨some 11, true, none, iMov (.t 83)⟩,
 ⟨some 5, true, none, iMov (.t 84)⟩])
 (cSeq (cOps [⟨some 86, false, none, iCall (.c (.func (.func 45) [] [])) []⟩,
 ⟨some 87, false, none, iCall (.c (.func (.func 30) [] [])) [(.t 86)]⟩,
 ⟨some 85, false, none, iMov (.t 87)⟩,
 ⟨some 88, false, none, iExtract 0 (.t 85)⟩,
 ⟨some 89, false, none, iExtract 1 (.t 85)⟩,
 ⟨some 12, true, none, iMov (.t 88)⟩,
 ⟨some 7, true, none, iMov (.t 89)⟩])
 (cSeq (cOps [⟨some 90, false, none, iMov (.t 2)⟩,
 ⟨some 91, false, none, iCmp .eql (.t 90) (.c (.int .i64 (.lit 0)))⟩,
 ⟨some 92, false, none, iMov (.t 91)⟩,
 ⟨some 93, false, some (92, true), iMov (.t 5)⟩,
 ⟨some 94, false, some (92, true), iCmp .eql (.t 93) (.c (.int .i64 (.lit 0)))⟩,
 ⟨some 95, false, none, iPick (.t 92) (.t 94) (.c (.bool (.lit false)))⟩,
 ⟨some 96, false, none, iMov (.t 95)⟩,
 ⟨some 97, false, some (96, true), iMov (.t 7)⟩,
 ⟨some 98, false, some (96, true), iCmp .eql (.t 97) (.c (.int .i64 (.lit 0)))⟩,
 ⟨some 99, false, none, iPick (.t 96) (.t 98) (.c (.bool (.lit false)))⟩,
 ⟨some 100, false, none, iMov (.t 99)⟩,
 ⟨some 101, false, some (100, true), iMov (.t 10)⟩,
 ⟨some 102, false, some (100, true), iCmp .eql (.t 101) (.c (.int .i64 (.lit 4)))⟩,
 ⟨some 103, false, none, iPick (.t 100) (.t 102) (.c (.bool (.lit false)))⟩,
 ⟨some 104, false, none, iMov (.t 103)⟩,
 ⟨some 105, false, some (104, true), iMov (.t 11)⟩,
 ⟨some 106, false, some (104, true), iCmp .eql (.t 105) (.c (.int .i64 (.lit 4)))⟩,
 ⟨some 107, false, none, iPick (.t 104) (.t 106) (.c (.bool (.lit false)))⟩,
 ⟨some 108, false, none, iMov (.t 107)⟩,
 ⟨some 109, false, some (108, true), iMov (.t 12)⟩,
 ⟨some 110, false, some (108, true), iCmp .eql (.t 109) (.c (.int .i64 (.lit 18)))⟩,
 ⟨some 111, false, none, iPick (.t 108) (.t 110) (.c (.bool (.lit false)))⟩,
 ⟨some 0, true, none, iMov (.t 111)⟩])
 cRet)))))))))), [.t 0]⟩
noncomputable def Tryd.kp21 : List Nat := [0, 1, 2, 4, 5, 6, 7, 14, 19]
noncomputable def Tryd.cf21 : CF := ⟨2, (cSeq (cOps [⟨some 2, true, none, iBox 27 (.t 0)⟩,
 ⟨some 4, true, none, iMov (.c (.int .i64 (.lit 0)))⟩,
 ⟨some 5, true, none, iMov (.c (.int .i64 (.lit 0)))⟩])
 (cSeq (cOps [⟨some 9, false, none, iLoadN 23 (.t 2)⟩,
 ⟨some 10, false, none, iCall (.c (.func (.func 48) [] [])) [(.t 9)]⟩,
 ⟨some 8, false, none, iMov (.t 10)⟩,
 ⟨some 11, false, none, iExtract 0 (.t 8)⟩,
 ⟨some 12, false, none, iExtract 1 (.t 8)⟩,
 ⟨some 6, true, none, iAlloc 78 [(.int .i64 (.lit 0)), (.int .i64 (.lit 0)), (.int .i64 (.lit 0)), (.int .i64 (.lit 0)), (.int .i64 (.lit 0)), (.int .i64 (.lit 0)), (.int .i64 (.lit 0)), (.int .i64 (.lit 0)), (.int .i64 (.lit 0)), (.int .i64 (.lit 0)), (.int .i64 (.lit 0)), (.int .i64 (.lit 0)), (.int .i64 (.lit 0)), (.int .i64 (.lit 0)), (.int .i64 (.lit 0)), (.int .i64 (.lit 0)), (.int .i64 (.lit 0)), (.int .i64 (.lit 0)), (.int .i64 (.lit 0)), (.int .i64 (.lit 0)), (.int .i64 (.lit 0)), (.int .i64 (.lit 0)), .nilslice, (.int .i64 (.lit 0)), (.int .i64 (.lit 0)), (.int .i64 (.lit 0)), (.int .i64 (.lit 0)), (.int .i64 (.lit 0)), (.int .i64 (.lit 0)), (.int .i64 (.lit 0)), (.int .i64 (.lit 0)), (.int .i64 (.lit 0)), (.int .i64 (.lit 0)), (.int .i64 (.lit 0)), (.int .i64 (.lit 0)), (.int .i64 (.lit 0)), (.int .i64 (.lit 0)), (.int .i64 (.lit 0)), (.int .i64 (.lit 0))]⟩,
 ⟨none, false, none, iStore 39 (.t 6) (.t 11)⟩,
 ⟨some 7, true, none, iMov (.t 12)⟩])
 (cSeq (cSeq (cOps [⟨some 13, false, none, iMov (.t 7)⟩,
 ⟨some 14, true, none, iCmp .neq (.t 13) (.c (.int .i64 (.lit 0)))⟩])
 (cCond (.t 14) (cSeq (cOps [⟨some 15, false, none, iMov (.t 7)⟩,
 ⟨some 4, true, none, iMov (.c (.int .i64 (.lit 0)))⟩,
 ⟨some 5, true, none, iMov (.t 15)⟩])
 cRet) cSkip))
 (cSeq (cSeq (cOps [⟨some 16, false, none, iLoadN 39 (.t 6)⟩,
 ⟨some 17, false, none, iMov (.t 1)⟩,
 ⟨some 18, false, none, iCall (.c (.func (.func 53) [] [])) [(.t 16), (.t 17)]⟩,
 ⟨some 19, true, none, iNot (.t 18)⟩])
 (cCond (.t 19) (cSeq (cOps [⟨some 4, true, none, iMov (.c (.int .i64 (.lit 0)))⟩,
 ⟨some 5, true, none, iMov (.c (.int .i64 (.lit 41)))⟩])
 cRet) cSkip))
 (cSeq (cOps [⟨some 20, false, none, iLoadN 39 (.t 6)⟩,
 ⟨some 21, false, none, iMov (.t 1)⟩,
 ⟨some 22, false, none, iCall (.c (.func (.func 61) [] [])) [(.t 20), (.t 21)]⟩,
 ⟨some 23, false, none, iExtract 0 (.t 22)⟩,
 ⟨some 24, false, none, iExtract 1 (.t 22)⟩,
 ⟨some 4, true, none, iMov (.t 23)⟩,
 ⟨some 5, true, none, iMov (.t 24)⟩])
 cRet))))), [.t 4, .t 5]⟩
noncomputable def Tryd.kp23 : List Nat := [0, 1, 2, 3, 4, 5, 12]
noncomputable def Tryd.cf23 : CF := ⟨1, (cSeq (cOps [⟨some 1, true, none, iBox 27 (.t 0)⟩,
 ⟨some 2, true, none, iMov (.c .nilslice)⟩,
 ⟨some 3, true, none, iMov (.c (.int .i64 (.lit 0)))⟩])
 (cSeq (cOps [⟨some 7, false, none, iLoadN 23 (.t 1)⟩,
 ⟨some 8, false, none, iCall (.c (.func (.func 48) [] [])) [(.t 7)]⟩,
 ⟨some 6, false, none, iMov (.t 8)⟩,
 ⟨some 9, false, none, iExtract 0 (.t 6)⟩,
 ⟨some 10, false, none, iExtract 1 (.t 6)⟩,
 ⟨some 4, true, none, iAlloc 78 [(.int .i64 (.lit 0)), (.int .i64 (.lit 0)), (.int .i64 (.lit 0)), (.int .i64 (.lit 0)), (.int .i64 (.lit 0)), (.int .i64 (.lit 0)), (.int .i64 (.lit 0)), (.int .i64 (.lit 0)), (.int .i64 (.lit 0)), (.int .i64 (.lit 0)), (.int .i64 (.lit 0)), (.int .i64 (.lit 0)), (.int .i64 (.lit 0)), (.int .i64 (.lit 0)), (.int .i64 (.lit 0)), (.int .i64 (.lit 0)), (.int .i64 (.lit 0)), (.int .i64 (.lit 0)), (.int .i64 (.lit 0)), (.int .i64 (.lit 0)), (.int .i64 (.lit 0)), (.int .i64 (.lit 0)), .nilslice, (.int .i64 (.lit 0)), (.int .i64 (.lit 0)), (.int .i64 (.lit 0)), (.int .i64 (.lit 0)), (.int .i64 (.lit 0)), (.int .i64 (.lit 0)), (.int .i64 (.lit 0)), (.int .i64 (.lit 0)), (.int .i64 (.lit 0)), (.int .i64 (.lit 0)), (.int .i64 (.lit 0)), (.int .i64 (.lit 0)), (.int .i64 (.lit 0)), (.int .i64 (.lit 0)), (.int .i64 (.lit 0)), (.int .i64 (.lit 0))]⟩,
 ⟨none, false, none, iStore 39 (.t 4) (.t 9)⟩,
 ⟨some 5, true, none, iMov (.t 10)⟩])
 (cSeq (cSeq (cOps [⟨some 11, false, none, iMov (.t 5)⟩,
 ⟨some 12, true, none, iCmp .neq (.t 11) (.c (.int .i64 (.lit 0)))⟩])
 (cCond (.t 12) (cSeq (cOps [⟨some 13, false, none, iMov (.t 5)⟩,
 ⟨some 2, true, none, iMov (.c .nilslice)⟩,
 ⟨some 3, true, none, iMov (.t 13)⟩])
 cRet) cSkip))
 (cSeq (cOps [⟨some 14, false, none, iLoadN 39 (.t 4)⟩,
 ⟨some 15, false, none, iCall (.c (.func (.func 63) [] [])) [(.t 14)]⟩,
 ⟨some 16, false, none, iExtract 0 (.t 15)⟩,
 ⟨some 17, false, none, iExtract 1 (.t 15)⟩,
 ⟨some 2, true, none, iMov (.t 16)⟩,
 ⟨some 3, true, none, iMov (.t 17)⟩])
 cRet)))), [.t 2, .t 3]⟩
noncomputable def Tryd.kp25 : List Nat := [0, 1, 4, 5, 6, 18]
noncomputable def Tryd.cf25 : CF := ⟨2, (cSeq (cOps [⟨some 4, true, none, iMov (.c (.bool (.lit false)))⟩])
 (cSeq (cOps [⟨some 7, false, none, iMov (.t 0)⟩,
 ⟨some 8, false, none, iLenS (.t 7)⟩,
 ⟨some 9, false, none, iMov (.t 1)⟩,
 ⟨some 10, false, none, iLenS (.t 9)⟩,
 ⟨some 11, false, none, iCmp .eql (.t 8) (.t 10)⟩,
 ⟨some 5, true, none, iMov (.t 11)⟩])
 (cSeq (cSeq (cOps [⟨some 6, true, none, iMov (.c (.int .i64 (.lit 0)))⟩])
 (cBlock 0 (cLoop (cSeq (cSeq (cOps [⟨some 12, false, none, iMov (.t 5)⟩,
 ⟨some 13, false, none, iMov (.t 12)⟩,
 ⟨some 14, false, some (13, true), iMov (.t 6)⟩,
 ⟨some 15, false, some (13, true), iMov (.t 0)⟩,
 ⟨some 16, false, some (13, true), iLenS (.t 15)⟩,
 ⟨some 17, false, some (13, true), iCmp .lss (.t 14) (.t 16)⟩,
 ⟨some 18, true, none, iPick (.t 13) (.t 17) (.c (.bool (.lit false)))⟩])
 (cCond (.t 18) cSkip (cExit 0)))
 (cSeq (cBlock 1 (dOps 0 [⟨⟨some 21, false, none, iMov (.t 0)⟩, [0], false, 0, 0, none, []⟩,
 ⟨⟨some 22, false, none, iMov (.t 6)⟩, [6], false, 0, 0, none, []⟩,
 ⟨⟨some 23, false, none, iIaddr 2 (.t 21) (.t 22)⟩, [21, 22], false, 0, 0, none, []⟩,
 ⟨⟨some 24, false, none, iLoadN 2 (.t 23)⟩, [23], false, 0, 0, none, []⟩,
 ⟨⟨some 25, false, none, iMov (.t 1)⟩, [1], false, 0, 0, none, []⟩,
 ⟨⟨some 26, false, none, iMov (.t 6)⟩, [6], false, 0, 0, none, []⟩,
 ⟨⟨some 27, false, none, iIaddr 2 (.t 25) (.t 26)⟩, [25, 26], false, 0, 0, none, []⟩,
 ⟨⟨some 28, false, none, iLoadN 2 (.t 27)⟩, [27], false, 0, 0, none, []⟩,
 ⟨⟨some 29, false, none, iEq false true 2 [(0, .int), (1, .int)] (.t 24) (.t 28)⟩, [24, 28], false, 0, 0, none, []⟩,
 ⟨⟨some 5, true, none, iMov (.t 29)⟩, [29], false, 0, 0, none, []⟩]))
 (cOps [⟨some 19, false, none, iMov (.t 6)⟩,
 ⟨some 20, false, none, iArith .add (.t 19) (.c (.int .i64 (.lit 1)))⟩,
 ⟨some 6, true, none, iMov (.t 20)⟩]))))))
 (cSeq (cOps [⟨some 30, false, none, iMov (.t 5)⟩,
 ⟨some 4, true, none, iMov (.t 30)⟩])
 cRet)))), [.t 4]⟩
noncomputable def Tryd.kp26 : List Nat := [0, 1, 2, 3, 4, 5, 12]
noncomputable def Tryd.cf26 : CF := ⟨1, (cSeq (cOps [⟨some 1, true, none, iBox 27 (.t 0)⟩,
 ⟨some 2, true, none, iMov (.c (.int .i64 (.lit 0)))⟩,
 ⟨some 3, true, none, iMov (.c (.int .i64 (.lit 0)))⟩])
 (cSeq (cOps [⟨some 7, false, none, iLoadN 23 (.t 1)⟩,
 ⟨some 8, false, none, iCall (.c (.func (.func 48) [] [])) [(.t 7)]⟩,
 ⟨some 6, false, none, iMov (.t 8)⟩,
 ⟨some 9, false, none, iExtract 0 (.t 6)⟩,
 ⟨some 10, false, none, iExtract 1 (.t 6)⟩,
 ⟨some 4, true, none, iAlloc 78 [(.int .i64 (.lit 0)), (.int .i64 (.lit 0)), (.int .i64 (.lit 0)), (.int .i64 (.lit 0)), (.int .i64 (.lit 0)), (.int .i64 (.lit 0)), (.int .i64 (.lit 0)), (.int .i64 (.lit 0)), (.int .i64 (.lit 0)), (.int .i64 (.lit 0)), (.int .i64 (.lit 0)), (.int .i64 (.lit 0)), (.int .i64 (.lit 0)), (.int .i64 (.lit 0)), (.int .i64 (.lit 0)), (.int .i64 (.lit 0)), (.int .i64 (.lit 0)), (.int .i64 (.lit 0)), (.int .i64 (.lit 0)), (.int .i64 (.lit 0)), (.int .i64 (.lit 0)), (.int .i64 (.lit 0)), .nilslice, (.int .i64 (.lit 0)), (.int .i64 (.lit 0)), (.int .i64 (.lit 0)), (.int .i64 (.lit 0)), (.int .i64 (.lit 0)), (.int .i64 (.lit 0)), (.int .i64 (.lit 0)), (.int .i64 (.lit 0)), (.int .i64 (.lit 0)), (.int .i64 (.lit 0)), (.int .i64 (.lit 0)), (.int .i64 (.lit 0)), (.int .i64 (.lit 0)), (.int .i64 (.lit 0)), (.int .i64 (.lit 0)), (.int .i64 (.lit 0))]⟩,
 ⟨none, false, none, iStore 39 (.t 4) (.t 9)⟩,
 ⟨some 5, true, none, iMov (.t 10)⟩])
 (cSeq (cSeq (cOps [⟨some 11, false, none, iMov (.t 5)⟩,
 ⟨some 12, true, none, iCmp .neq (.t 11) (.c (.int .i64 (.lit 0)))⟩])
 (cCond (.t 12) (cSeq (cOps [⟨some 13, false, none, iMov (.t 5)⟩,
 ⟨some 2, true, none, iMov (.c (.int .i64 (.lit 0)))⟩,
 ⟨some 3, true, none, iMov (.t 13)⟩])
 cRet) cSkip))
 (cSeq (cOps [⟨some 14, false, none, iFaddr 0 (.t 4)⟩,
 ⟨some 15, false, none, iFaddr 22 (.t 14)⟩,
 ⟨some 16, false, none, iLoad (.t 15)⟩,
 ⟨some 17, false, none, iLenS (.t 16)⟩,
 ⟨some 18, false, none, iLoadN 39 (.t 4)⟩,
 ⟨some 19, false, none, iFunc (.func 66) [(.t 18)] []⟩,
 ⟨some 20, false, none, iCall (.c (.func (.func 65) [] [])) [(.t 17), (.t 19)]⟩,
 ⟨some 2, true, none, iMov (.t 20)⟩,
 ⟨some 3, true, none, iMov (.c (.int .i64 (.lit 0)))⟩])
 cRet)))), [.t 2, .t 3]⟩
noncomputable def Tryd.kp28 : List Nat := [0, 1, 2, 4, 5, 6, 7, 8, 15, 20, 27]
noncomputable def Tryd.cf28 : CF := ⟨2, (cSeq (cOps [⟨some 2, true, none, iBox 27 (.t 0)⟩,
 ⟨some 4, true, none, iMov (.c (.int .i64 (.lit 0)))⟩,
 ⟨some 5, true, none, iMov (.c (.int .i64 (.lit 0)))⟩])
 (cSeq (cOps [⟨some 10, false, none, iLoadN 23 (.t 2)⟩,
 ⟨some 11, false, none, iCall (.c (.func (.func 48) [] [])) [(.t 10)]⟩,
 ⟨some 9, false, none, iMov (.t 11)⟩,
 ⟨some 12, false, none, iExtract 0 (.t 9)⟩,
 ⟨some 13, false, none, iExtract 1 (.t 9)⟩,
 ⟨some 6, true, none, iAlloc 78 [(.int .i64 (.lit 0)), (.int .i64 (.lit 0)), (.int .i64 (.lit 0)), (.int .i64 (.lit 0)), (.int .i64 (.lit 0)), (.int .i64 (.lit 0)), (.int .i64 (.lit 0)), (.int .i64 (.lit 0)), (.int .i64 (.lit 0)), (.int .i64 (.lit 0)), (.int .i64 (.lit 0)), (.int .i64 (.lit 0)), (.int .i64 (.lit 0)), (.int .i64 (.lit 0)), (.int .i64 (.lit 0)), (.int .i64 (.lit 0)), (.int .i64 (.lit 0)), (.int .i64 (.lit 0)), (.int .i64 (.lit 0)), (.int .i64 (.lit 0)), (.int .i64 (.lit 0)), (.int .i64 (.lit 0)), .nilslice, (.int .i64 (.lit 0)), (.int .i64 (.lit 0)), (.int .i64 (.lit 0)), (.int .i64 (.lit 0)), (.int .i64 (.lit 0)), (.int .i64 (.lit 0)), (.int .i64 (.lit 0)), (.int .i64 (.lit 0)), (.int .i64 (.lit 0)), (.int .i64 (.lit 0)), (.int .i64 (.lit 0)), (.int .i64 (.lit 0)), (.int .i64 (.lit 0)), (.int .i64 (.lit 0)), (.int .i64 (.lit 0)), (.int .i64 (.lit 0))]⟩,
 ⟨none, false, none, iStore 39 (.t 6) (.t 12)⟩,
 ⟨some 7, true, none, iMov (.t 13)⟩])
 (cSeq (cSeq (cOps [⟨some 14, false, none, iMov (.t 7)⟩,
 ⟨some 15, true, none, iCmp .neq (.t 14) (.c (.int .i64 (.lit 0)))⟩])
 (cCond (.t 15) (cSeq (cOps [⟨some 16, false, none, iMov (.t 7)⟩,
 ⟨some 4, true, none, iMov (.c (.int .i64 (.lit 0)))⟩,
 ⟨some 5, true, none, iMov (.t 16)⟩])
 cRet) cSkip))
 (cSeq (cSeq (cOps [⟨some 17, false, none, iLoadN 39 (.t 6)⟩,
 ⟨some 18, false, none, iMov (.t 1)⟩,
 ⟨some 19, false, none, iCall (.c (.func (.func 54) [] [])) [(.t 17), (.t 18)]⟩,
 ⟨some 20, true, none, iNot (.t 19)⟩])
 (cCond (.t 20) (cSeq (cOps [⟨some 4, true, none, iMov (.c (.int .i64 (.lit 0)))⟩,
 ⟨some 5, true, none, iMov (.c (.int .i64 (.lit 41)))⟩])
 cRet) cSkip))
 (cSeq (cOps [⟨some 21, false, none, iLoadN 39 (.t 6)⟩,
 ⟨some 22, false, none, iMov (.t 1)⟩,
 ⟨some 23, false, none, iBuild [(.int .i64 (.lit 0)), (.int .i64 (.lit 0)), (.int .i64 (.lit 0)), (.int .i64 (.lit 0)), (.int .i64 (.lit 0)), (.int .i64 (.lit 0)), (.int .i64 (.lit 0)), (.int .i64 (.lit 0)), (.int .i64 (.lit 0)), (.int .i64 (.lit 0)), (.int .i64 (.lit 0)), (.int .i64 (.lit 0)), (.int .i64 (.lit 0)), (.int .i64 (.lit 0)), (.int .i64 (.lit 0)), (.int .i64 (.lit 0)), (.int .i64 (.lit 0)), (.int .i64 (.lit 0)), (.int .i64 (.lit 0)), (.int .i64 (.lit 0)), (.int .i64 (.lit 0)), (.int .i64 (.lit 0)), .nilslice, (.int .i64 (.lit 0)), (.int .i64 (.lit 0)), (.int .i64 (.lit 0)), (.int .i64 (.lit 0)), (.int .i64 (.lit 0)), (.int .i64 (.lit 0)), (.int .i64 (.lit 0)), (.int .i64 (.lit 0)), (.int .i64 (.lit 0)), (.int .i64 (.lit 0)), (.int .i64 (.lit 0)), (.int .i64 (.lit 0)), (.int .i64 (.lit 0)), (.int .i64 (.lit 0)), (.int .i64 (.lit 0)), (.int .i64 (.lit 0)), (.int .i64 (.lit 0))] [(0, 39, (.t 21)), (39, 1, (.t 22))]⟩,
 ⟨some 24, false, none, iFunc (.func 68) [(.t 23)] []⟩,
 ⟨some 25, false, none, iCall (.c (.func (.func 65) [] [])) [(.c (.int .i64 (.lit 60))), (.t 24)]⟩,
 ⟨some 8, true, none, iMov (.t 25)⟩])
 (cSeq (cSeq (cOps [⟨some 26, false, none, iMov (.t 8)⟩,
 ⟨some 27, true, none, iCmp .lss (.t 26) (.c (.int .i64 (.lit 0)))⟩])
 (cCond (.t 27) (cSeq (cOps [⟨some 4, true, none, iMov (.c (.int .i64 (.lit 0)))⟩,
 ⟨some 5, true, none, iMov (.c (.int .i64 (.lit 4)))⟩])
 cRet) cSkip))
 (cSeq (cOps [⟨some 28, false, none, iMov (.t 8)⟩,
 ⟨some 4, true, none, iMov (.t 28)⟩,
 ⟨some 5, true, none, iMov (.c (.int .i64 (.lit 0)))⟩])
 cRet))))))), [.t 4, .t 5]⟩
noncomputable def Tryd.kp30 : List Nat := [0, 1, 2, 3, 4, 5, 6, 13, 26]
noncomputable def Tryd.cf30 : CF := ⟨1, (cSeq (cOps [⟨some 1, true, none, iBox 27 (.t 0)⟩,
 ⟨some 2, true, none, iMov (.c (.int .i64 (.lit 0)))⟩,
 ⟨some 3, true, none, iMov (.c (.int .i64 (.lit 0)))⟩])
 (cSeq (cOps [⟨some 8, false, none, iLoadN 23 (.t 1)⟩,
 ⟨some 9, false, none, iCall (.c (.func (.func 48) [] [])) [(.t 8)]⟩,
 ⟨some 7, false, none, iMov (.t 9)⟩,
 ⟨some 10, false, none, iExtract 0 (.t 7)⟩,
 ⟨some 11, false, none, iExtract 1 (.t 7)⟩,
 ⟨some 4, true, none, iAlloc 78 [(.int .i64 (.lit 0)), (.int .i64 (.lit 0)), (.int .i64 (.lit 0)), (.int .i64 (.lit 0)), (.int .i64 (.lit 0)), (.int .i64 (.lit 0)), (.int .i64 (.lit 0)), (.int .i64 (.lit 0)), (.int .i64 (.lit 0)), (.int .i64 (.lit 0)), (.int .i64 (.lit 0)), (.int .i64 (.lit 0)), (.int .i64 (.lit 0)), (.int .i64 (.lit 0)), (.int .i64 (.lit 0)), (.int .i64 (.lit 0)), (.int .i64 (.lit 0)), (.int .i64 (.lit 0)), (.int .i64 (.lit 0)), (.int .i64 (.lit 0)), (.int .i64 (.lit 0)), (.int .i64 (.lit 0)), .nilslice, (.int .i64 (.lit 0)), (.int .i64 (.lit 0)), (.int .i64 (.lit 0)), (.int .i64 (.lit 0)), (.int .i64 (.lit 0)), (.int .i64 (.lit 0)), (.int .i64 (.lit 0)), (.int .i64 (.lit 0)), (.int .i64 (.lit 0)), (.int .i64 (.lit 0)), (.int .i64 (.lit 0)), (.int .i64 (.lit 0)), (.int .i64 (.lit 0)), (.int .i64 (.lit 0)), (.int .i64 (.lit 0)), (.int .i64 (.lit 0))]⟩,
 ⟨none, false, none, iStore 39 (.t 4) (.t 10)⟩,
 ⟨some 5, true, none, iMov (.t 11)⟩])
 (cSeq (cSeq (cOps [⟨some 12, false, none, iMov (.t 5)⟩,
 ⟨some 13, true, none, iCmp .neq (.t 12) (.c (.int .i64 (.lit 0)))⟩])
 (cCond (.t 13) (cSeq (cOps [⟨some 14, false, none, iMov (.t 5)⟩,
 ⟨some 2, true, none, iMov (.c (.int .i64 (.lit 0)))⟩,
 ⟨some 3, true, none, iMov (.t 14)⟩])
 cRet) cSkip))
 (cSeq (cOps [⟨some 15, false, none, iFaddr 0 (.t 4)⟩,
 ⟨some 16, false, none, iFaddr 4 (.t 15)⟩,
 ⟨some 17, false, none, iLoad (.t 16)⟩,
 ⟨some 18, false, none, iArith .add (.t 17) (.c (.int .i64 (.lit 1)))⟩,
 ⟨some 19, false, none, iLoadN 39 (.t 4)⟩,
 ⟨some 20, false, none, iFunc (.func 71) [(.t 19)] []⟩,
 ⟨some 21, false, none, iCall (.c (.func (.func 70) [] [])) [(.t 18), (.t 20)]⟩,
 ⟨some 6, true, none, iMov (.t 21)⟩])
 (cSeq (cSeq (cOps [⟨some 22, false, none, iMov (.t 6)⟩,
 ⟨some 23, false, none, iFaddr 0 (.t 4)⟩,
 ⟨some 24, false, none, iFaddr 4 (.t 23)⟩,
 ⟨some 25, false, none, iLoad (.t 24)⟩,
 ⟨some 26, true, none, iCmp .gtr (.t 22) (.t 25)⟩])
 (cCond (.t 26) (cSeq (cOps [⟨some 2, true, none, iMov (.c (.int .i64 (.lit 0)))⟩,
 ⟨some 3, true, none, iMov (.c (.int .i64 (.lit 4)))⟩])
 cRet) cSkip))
 (cSeq (cOps [⟨some 27, false, none, iMov (.t 6)⟩,
 ⟨some 2, true, none, iMov (.t 27)⟩,
 ⟨some 3, true, none, iMov (.c (.int .i64 (.lit 0)))⟩])
 cRet)))))), [.t 2, .t 3]⟩
noncomputable def Tryd.kp40 : List Nat := [0, 1, 4]
noncomputable def Tryd.cf40 : CF := ⟨2, (cSeq (cOps [⟨some 4, true, none, iAlloc 23 [(.int .i64 (.lit 0)), (.int .i64 (.lit 0))]⟩])
 (cSeq (cOps [⟨some 5, false, none, iMov (.t 0)⟩,
 ⟨some 6, false, none, iMov (.t 1)⟩,
 ⟨some 7, false, none, iBuild [(.int .i64 (.lit 0)), (.int .i64 (.lit 0))] [(0, 1, (.t 5)), (1, 1, (.t 6))]⟩,
 ⟨none, false, none, iStore 2 (.t 4) (.t 7)⟩])
 cRet)), [.cell 4 true 2]⟩
noncomputable def Tryd.kp45 : List Nat := [0]
noncomputable def Tryd.cf45 : CF := ⟨0, (cSeq (cOps [⟨some 0, true, none, iAlloc 27 [(.int .i64 (.lit 0)), (.int .i64 (.lit 0)), (.int .i64 (.lit 0)), (.int .i64 (.lit 0)), (.int .i64 (.lit 0)), (.int .i64 (.lit 0)), (.int .i64 (.lit 0)), (.int .i64 (.lit 0)), (.int .i64 (.lit 0)), (.int .i64 (.lit 0)), (.int .i64 (.lit 0)), (.int .i64 (.lit 0)), (.int .i64 (.lit 0)), (.int .i64 (.lit 0)), (.int .i64 (.lit 0)), (.int .i64 (.lit 0)), (.int .i64 (.lit 0)), (.int .i64 (.lit 0)), (.int .i64 (.lit 0)), (.int .i64 (.lit 0)), (.int .i64 (.lit 0)), (.int .i64 (.lit 0)), .nilslice]⟩])
 (cSeq (cOps [⟨some 1, false, none, iCall (.c (.func (.func 40) [] [])) [(.c (.int .i64 (.lit 20))), (.c (.int .i64 (.lit 24)))]⟩,
 ⟨some 2, false, none, iCall (.c (.func (.func 40) [] [])) [(.c (.int .i64 (.lit 30))), (.c (.int .i64 (.lit 30)))]⟩,
 ⟨some 3, false, none, iCall (.c (.func (.func 40) [] [])) [(.c (.int .i64 (.lit 0))), (.c (.int .i64 (.lit 1)))]⟩,
 ⟨some 4, false, none, iCall (.c (.func (.func 40) [] [])) [(.c (.int .i64 (.lit 1))), (.c (.int .i64 (.lit 2)))]⟩,
 ⟨some 5, false, none, iBuild [(.int .i64 (.lit 0)), (.int .i64 (.lit 0)), (.int .i64 (.lit 0)), (.int .i64 (.lit 0))] [(0, 2, (.t 3)), (2, 2, (.t 4))]⟩,
 ⟨some 6, false, none, iCall (.c (.func (.func 40) [] [])) [(.c (.int .i64 (.lit 0))), (.c (.int .i64 (.lit 1)))]⟩,
 ⟨some 7, false, none, iCall (.c (.func (.func 40) [] [])) [(.c (.int .i64 (.lit 1))), (.c (.int .i64 (.lit 1)))]⟩,
 ⟨some 8, false, none, iBuild [(.int .i64 (.lit 0)), (.int .i64 (.lit 0)), (.int .i64 (.lit 0)), (.int .i64 (.lit 0))] [(0, 2, (.t 6)), (2, 2, (.t 7))]⟩,
 ⟨some 9, false, none, iCall (.c (.func (.func 40) [] [])) [(.c (.int .i64 (.lit 20))), (.c (.int .i64 (.lit 24)))]⟩,
 ⟨some 10, false, none, iCall (.c (.func (.func 40) [] [])) [(.c (.int .i64 (.lit 12))), (.c (.int .i64 (.lit 16)))]⟩,
 ⟨some 11, false, none, iCall (.c (.func (.func 76) [] [])) [(.c (.int .i64 (.lit 5))), (.c (.int .i64 (.lit 6))), (.c (.bool (.lit false))), (.c (.int .i64 (.lit 0)))]⟩,
 ⟨some 12, false, none, iCall (.c (.func (.func 76) [] [])) [(.c (.int .i64 (.lit 10))), (.c (.int .i64 (.lit 12))), (.c (.bool (.lit true))), (.c (.int .i64 (.lit 2)))]⟩,
 ⟨some 13, false, none, iCall (.c (.func (.func 76) [] [])) [(.c (.int .i64 (.lit 3))), (.c (.int .i64 (.lit 4))), (.c (.bool (.lit false))), (.c (.int .i64 (.lit 1)))]⟩,
 ⟨some 14, false, none, iCall (.c (.func (.func 76) [] [])) [(.c (.int .i64 (.lit 8))), (.c (.int .i64 (.lit 8))), (.c (.bool (.lit true))), (.c (.int .i64 (.lit 5)))]⟩,
 ⟨some 15, false, none, iBslice 66 [(.int .i64 (.lit 0)), (.int .i64 (.lit 0)), (.bool (.lit false)), (.int .i64 (.lit 0))] 4 [(0, 4, (.t 11)), (4, 4, (.t 12)), (8, 4, (.t 13)), (12, 4, (.t 14))]⟩,
 ⟨some 16, false, none, iBuild [(.int .i64 (.lit 0)), (.int .i64 (.lit 0)), (.int .i64 (.lit 0)), (.int .i64 (.lit 0)), (.int .i64 (.lit 0)), (.int .i64 (.lit 0)), (.int .i64 (.lit 0)), (.int .i64 (.lit 0)), (.int .i64 (.lit 0)), (.int .i64 (.lit 0)), (.int .i64 (.lit 0)), (.int .i64 (.lit 0)), (.int .i64 (.lit 0)), (.int .i64 (.lit 0)), (.int .i64 (.lit 0)), (.int .i64 (.lit 0)), (.int .i64 (.lit 0)), (.int .i64 (.lit 0)), (.int .i64 (.lit 0)), (.int .i64 (.lit 0)), (.int .i64 (.lit 0)), (.int .i64 (.lit 0)), .nilslice] [(0, 2, (.t 1)), (2, 2, (.t 2)), (4, 1, (.c (.int .i64 (.lit 40)))), (5, 1, (.c (.int .i64 (.lit 40)))), (6, 1, (.c (.int .i64 (.lit 6)))), (7, 1, (.c (.int .i64 (.lit 10)))), (8, 4, (.t 5)), (12, 4, (.t 8)), (16, 2, (.t 9)), (18, 2, (.t 10)), (20, 1, (.c (.int .i64 (.lit 10)))), (21, 1, (.c (.int .i64 (.lit 18)))), (22, 1, (.t 15))]⟩,
 ⟨none, false, none, iStore 23 (.t 0) (.t 16)⟩])
 cRet)), [.cell 0 true 23]⟩
noncomputable def Tryd.kp46 : List Nat := [0]
noncomputable def Tryd.cf46 : CF := ⟨0, (cSeq (cOps [⟨some 0, true, none, iMov (.c .nilslice)⟩])
 (cSeq (cOps [⟨some 1, false, none, iBuild [(.int .i64 (.lit 0)), (.int .i64 (.lit 0))] []⟩,
 ⟨some 2, false, none, iBuild [(.int .i64 (.lit 0)), (.int .i64 (.lit 0))] [(0, 1, (.c (.int .i64 (.lit 2))))]⟩,
 ⟨some 3, false, none, iBuild [(.int .i64 (.lit 0)), (.int .i64 (.lit 0))] [(0, 1, (.c (.int .i64 (.lit 1))))]⟩,
 ⟨some 4, false, none, iBuild [(.int .i64 (.lit 0)), (.int .i64 (.lit 0))] [(0, 1, (.c (.int .i64 (.lit 2)))), (1, 1, (.c (.int .i64 (.lit 1))))]⟩,
 ⟨some 5, false, none, iBslice 64 [(.int .i64 (.lit 0)), (.int .i64 (.lit 0))] 4 [(0, 2, (.t 1)), (2, 2, (.t 2)), (4, 2, (.t 3)), (6, 2, (.t 4))]⟩,
 ⟨some 0, true, none, iMov (.t 5)⟩])
 cRet)), [.t 0]⟩
noncomputable def Tryd.kp47 : List Nat := [0]
noncomputable def Tryd.cf47 : CF := ⟨0, (cSeq (cOps [⟨some 0, true, none, iMov (.c .nilslice)⟩])
 (cSeq (cOps [⟨some 1, false, none, iBuild [(.int .i64 (.lit 0)), (.int .i64 (.lit 0))] []⟩,
 ⟨some 2, false, none, iBuild [(.int .i64 (.lit 0)), (.int .i64 (.lit 0))] [(0, 1, (.c (.int .i64 (.lit 1))))]⟩,
 ⟨some 3, false, none, iBuild [(.int .i64 (.lit 0)), (.int .i64 (.lit 0))] [(0, 1, (.c (.int .i64 (.lit 1))))]⟩,
 ⟨some 4, false, none, iBuild [(.int .i64 (.lit 0)), (.int .i64 (.lit 0))] [(0, 1, (.c (.int .i64 (.lit 2)))), (1, 1, (.c (.int .i64 (.lit 1))))]⟩,
 ⟨some 5, false, none, iBslice 64 [(.int .i64 (.lit 0)), (.int .i64 (.lit 0))] 4 [(0, 2, (.t 1)), (2, 2, (.t 2)), (4, 2, (.t 3)), (6, 2, (.t 4))]⟩,
 ⟨some 0, true, none, iMov (.t 5)⟩])
 cRet)), [.t 0]⟩
noncomputable def Tryd.kp48 : List Nat := [0, 1, 2, 3, 4, 8]
noncomputable def Tryd.cf48 : CF := ⟨1, (cSeq (cOps [⟨some 1, true, none, iBox 27 (.t 0)⟩,
 ⟨some 2, true, none, iAlloc 78 [(.int .i64 (.lit 0)), (.int .i64 (.lit 0)), (.int .i64 (.lit 0)), (.int .i64 (.lit 0)), (.int .i64 (.lit 0)), (.int .i64 (.lit 0)), (.int .i64 (.lit 0)), (.int .i64 (.lit 0)), (.int .i64 (.lit 0)), (.int .i64 (.lit 0)), (.int .i64 (.lit 0)), (.int .i64 (.lit 0)), (.int .i64 (.lit 0)), (.int .i64 (.lit 0)), (.int .i64 (.lit 0)), (.int .i64 (.lit 0)), (.int .i64 (.lit 0)), (.int .i64 (.lit 0)), (.int .i64 (.lit 0)), (.int .i64 (.lit 0)), (.int .i64 (.lit 0)), (.int .i64 (.lit 0)), .nilslice, (.int .i64 (.lit 0)), (.int .i64 (.lit 0)), (.int .i64 (.lit 0)), (.int .i64 (.lit 0)), (.int .i64 (.lit 0)), (.int .i64 (.lit 0)), (.int .i64 (.lit 0)), (.int .i64 (.lit 0)), (.int .i64 (.lit 0)), (.int .i64 (.lit 0)), (.int .i64 (.lit 0)), (.int .i64 (.lit 0)), (.int .i64 (.lit 0)), (.int .i64 (.lit 0)), (.int .i64 (.lit 0)), (.int .i64 (.lit 0))]⟩,
 ⟨some 3, true, none, iMov (.c (.int .i64 (.lit 0)))⟩])
 (cSeq (cSeq (cOps [⟨some 5, false, none, iLoadN 23 (.t 1)⟩,
 ⟨some 6, false, none, iCall (.c (.func (.func 16) [] [])) [(.t 5)]⟩,
 ⟨some 4, true, none, iMov (.t 6)⟩])
 (cSeq (cOps [⟨some 7, false, none, iMov (.t 4)⟩,
 ⟨some 8, true, none, iCmp .neq (.t 7) (.c (.int .i64 (.lit 0)))⟩])
 (cCond (.t 8) (cSeq (cOps [⟨some 9, false, none, iBuild [(.int .i64 (.lit 0)), (.int .i64 (.lit 0)), (.int .i64 (.lit 0)), (.int .i64 (.lit 0)), (.int .i64 (.lit 0)), (.int .i64 (.lit 0)), (.int .i64 (.lit 0)), (.int .i64 (.lit 0)), (.int .i64 (.lit 0)), (.int .i64 (.lit 0)), (.int .i64 (.lit 0)), (.int .i64 (.lit 0)), (.int .i64 (.lit 0)), (.int .i64 (.lit 0)), (.int .i64 (.lit 0)), (.int .i64 (.lit 0)), (.int .i64 (.lit 0)), (.int .i64 (.lit 0)), (.int .i64 (.lit 0)), (.int .i64 (.lit 0)), (.int .i64 (.lit 0)), (.int .i64 (.lit 0)), .nilslice, (.int .i64 (.lit 0)), (.int .i64 (.lit 0)), (.int .i64 (.lit 0)), (.int .i64 (.lit 0)), (.int .i64 (.lit 0)), (.int .i64 (.lit 0)), (.int .i64 (.lit 0)), (.int .i64 (.lit 0)), (.int .i64 (.lit 0)), (.int .i64 (.lit 0)), (.int .i64 (.lit 0)), (.int .i64 (.lit 0)), (.int .i64 (.lit 0)), (.int .i64 (.lit 0)), (.int .i64 (.lit 0)), (.int .i64 (.lit 0))] []⟩,
 ⟨some 10, false, none, iMov (.t 4)⟩,
 ⟨none, false, none, iStore 39 (.t 2) (.t 9)⟩,
 ⟨some 3, true, none, iMov (.t 10)⟩])
 cRet) cSkip)))
 (cSeq (cOps [⟨some 11, false, none, iLoadN 23 (.t 1)⟩,
 ⟨some 12, false, none, iCall (.c (.func (.func 77) [] [])) [(.t 11)]⟩,
 ⟨none, false, none, iStore 39 (.t 2) (.t 12)⟩,
 ⟨some 3, true, none, iMov (.c (.int .i64 (.lit 0)))⟩])
 cRet))), [.cell 2 true 39, .t 3]⟩
noncomputable def Tryd.kp49 : List Nat := [0, 1, 3, 4]
noncomputable def Tryd.cf49 : CF := ⟨2, (cSeq (cOps [⟨some 3, true, none, iBox 23 (.t 1)⟩,
 ⟨some 4, true, none, iMov (.c (.bool (.lit false)))⟩])
 (cSeq (cOps [⟨some 5, false, none, iFaddr 0 (.t 3)⟩,
 ⟨some 6, false, none, iLoad (.t 5)⟩,
 ⟨some 7, false, none, iMov (.t 0)⟩,
 ⟨some 8, false, none, iCmp .leq (.t 6) (.t 7)⟩,
 ⟨some 9, false, none, iMov (.t 8)⟩,
 ⟨some 10, false, some (9, true), iMov (.t 0)⟩,
 ⟨some 11, false, some (9, true), iFaddr 1 (.t 3)⟩,
 ⟨some 12, false, some (9, true), iLoad (.t 11)⟩,
 ⟨some 13, false, some (9, true), iCmp .leq (.t 10) (.t 12)⟩,
 ⟨some 14, false, none, iPick (.t 9) (.t 13) (.c (.bool (.lit false)))⟩,
 ⟨some 4, true, none, iMov (.t 14)⟩])
 cRet)), [.t 4]⟩
noncomputable def Tryd.kp50 : List Nat := [0, 1, 2, 4, 9]
noncomputable def Tryd.cf50 : CF := ⟨2, (cSeq (cOps [⟨some 2, true, none, iBox 78 (.t 0)⟩,
 ⟨some 4, true, none, iAlloc 23 [(.int .i64 (.lit 0)), (.int .i64 (.lit 0))]⟩])
 (cSeq (cSeq (cOps [⟨some 5, false, none, iMov (.t 1)⟩,
 ⟨some 6, false, none, iFaddr 0 (.t 2)⟩,
 ⟨some 7, false, none, iFaddr 20 (.t 6)⟩,
 ⟨some 8, false, none, iLoad (.t 7)⟩,
 ⟨some 9, true, none, iCmp .lss (.t 5) (.t 8)⟩])
 (cCond (.t 9) (cSeq (cOps [⟨some 10, false, none, iFaddr 0 (.t 2)⟩,
 ⟨some 11, false, none, iFaddr 18 (.t 10)⟩,
 ⟨some 12, false, none, iLoadN 2 (.t 11)⟩,
 ⟨none, false, none, iStore 2 (.t 4) (.t 12)⟩])
 cRet) cSkip))
 (cSeq (cOps [⟨some 13, false, none, iFaddr 0 (.t 2)⟩,
 ⟨some 14, false, none, iFaddr 16 (.t 13)⟩,
 ⟨some 15, false, none, iLoadN 2 (.t 14)⟩,
 ⟨none, false, none, iStore 2 (.t 4) (.t 15)⟩])
 cRet))), [.cell 4 true 2]⟩
noncomputable def Tryd.kp51 : List Nat := [0, 1, 2, 3, 4, 18, 19, 20, 28]
noncomputable def Tryd.cf51 : CF := ⟨1, (cSeq (cOps [⟨some 1, true, none, iBox 27 (.t 0)⟩,
 ⟨some 2, true, none, iMov (.c (.bool (.lit false)))⟩])
 (cSeq (cSeq (cOps [⟨some 5, false, none, iFaddr 4 (.t 1)⟩,
 ⟨some 6, false, none, iLoad (.t 5)⟩,
 ⟨some 7, false, none, iFaddr 5 (.t 1)⟩,
 ⟨some 8, false, none, iLoad (.t 7)⟩,
 ⟨some 9, false, none, iFaddr 6 (.t 1)⟩,
 ⟨some 10, false, none, iLoad (.t 9)⟩,
 ⟨some 11, false, none, iFaddr 7 (.t 1)⟩,
 ⟨some 12, false, none, iLoad (.t 11)⟩,
 ⟨some 13, false, none, iFaddr 21 (.t 1)⟩,
 ⟨some 14, false, none, iLoad (.t 13)⟩,
 ⟨some 15, false, none, iFaddr 22 (.t 1)⟩,
 ⟨some 16, false, none, iLoad (.t 15)⟩,
 ⟨some 17, false, none, iLenS (.t 16)⟩,
 ⟨some 18, true, none, iBuild [(.int .i64 (.lit 0)), (.int .i64 (.lit 0)), (.int .i64 (.lit 0)), (.int .i64 (.lit 0)), (.int .i64 (.lit 0)), (.int .i64 (.lit 0))] [(0, 1, (.t 6)), (1, 1, (.t 8)), (2, 1, (.t 10)), (3, 1, (.t 12)), (4, 1, (.t 14)), (5, 1, (.t 17))]⟩,
 ⟨some 19, true, none, iMov (.c (.int .i64 (.lit 0)))⟩])
 (cBlock 0 (cLoop (cSeq (cOps [⟨some 20, true, none, iCmp .lss (.t 19) (.c (.int .i64 (.lit 6)))⟩])
 (cSeq (cCond (.t 20) cSkip (cExit 0))
 (cSeq (cBlock 1 (cSeq (cOps [⟨some 21, false, none, iMov (.t 19)⟩,
 ⟨some 22, false, none, iIndex false 1 6 (.t 18) (.t 19)⟩,
 ⟨some 3, true, none, iMov (.t 21)⟩,
 ⟨some 4, true, none, iMov (.t 22)⟩])
 (cSeq (cOps [⟨some 23, false, none, iMov (.t 4)⟩,
 ⟨some 24, false, none, iMov (.t 3)⟩,
 ⟨some 25, false, none, iIaddrA 2 6 (.c (.ptr 0 0)) (.t 24)⟩,
 ⟨some 26, false, none, iLoadN 2 (.t 25)⟩,
 ⟨some 27, false, none, iCall (.c (.func (.func 49) [] [])) [(.t 23), (.t 26)]⟩,
 ⟨some 28, true, none, iNot (.t 27)⟩])
 (cCond (.t 28) (cSeq (cOps [⟨some 2, true, none, iMov (.c (.bool (.lit false)))⟩])
 cRet) cSkip))))
 (cOps [⟨some 29, false, none, iArith .add (.t 19) (.c (.int .i64 (.lit 1)))⟩,
 ⟨some 19, true, none, iMov (.t 29)⟩])))))))
 (cSeq (cOps [⟨some 30, false, none, iFaddr 4 (.t 1)⟩,
 ⟨some 31, false, none, iLoad (.t 30)⟩,
 ⟨some 32, false, none, iFaddr 0 (.t 1)⟩,
 ⟨some 33, false, none, iLoadN 2 (.t 32)⟩,
 ⟨some 34, false, none, iBslice 23 [(.int .i64 (.lit 0)), (.int .i64 (.lit 0))] 1 [(0, 2, (.t 33))]⟩,
 ⟨some 35, false, none, iCall (.c (.func (.func 78) [] [])) [(.t 31), (.t 34)]⟩,
 ⟨some 36, false, none, iMov (.t 35)⟩,
 ⟨some 37, false, some (36, true), iFaddr 5 (.t 1)⟩,
 ⟨some 38, false, some (36, true), iLoad (.t 37)⟩,
 ⟨some 39, false, some (36, true), iFaddr 2 (.t 1)⟩,
 ⟨some 40, false, some (36, true), iLoadN 2 (.t 39)⟩,
 ⟨some 41, false, some (36, true), iBslice 23 [(.int .i64 (.lit 0)), (.int .i64 (.lit 0))] 1 [(0, 2, (.t 40))]⟩,
 ⟨some 42, false, some (36, true), iCall (.c (.func (.func 78) [] [])) [(.t 38), (.t 41)]⟩,
 ⟨some 43, false, none, iPick (.t 36) (.t 42) (.c (.bool (.lit false)))⟩,
 ⟨some 44, false, none, iMov (.t 43)⟩,
 ⟨some 45, false, some (44, true), iFaddr 8 (.t 1)⟩,
 ⟨some 46, false, some (44, true), iSliceA 2 2 (.t 45) none none none⟩,
 ⟨some 47, false, some (44, true), iCall (.c (.func (.func 78) [] [])) [(.c (.int .i64 (.lit 3))), (.t 46)]⟩,
 ⟨some 48, false, none, iPick (.t 44) (.t 47) (.c (.bool (.lit false)))⟩,
 ⟨some 49, false, none, iMov (.t 48)⟩,
 ⟨some 50, false, some (49, true), iFaddr 12 (.t 1)⟩,
 ⟨some 51, false, some (49, true), iSliceA 2 2 (.t 50) none none none⟩,
 ⟨some 52, false, some (49, true), iCall (.c (.func (.func 78) [] [])) [(.c (.int .i64 (.lit 3))), (.t 51)]⟩,
 ⟨some 53, false, none, iPick (.t 49) (.t 52) (.c (.bool (.lit false)))⟩,
 ⟨some 54, false, none, iMov (.t 53)⟩,
 ⟨some 55, false, some (54, true), iLoadN 23 (.t 1)⟩,
 ⟨some 56, false, some (54, true), iCall (.c (.func (.func 79) [] [])) [(.t 55)]⟩,
 ⟨some 57, false, none, iPick (.t 54) (.t 56) (.c (.bool (.lit false)))⟩,
 ⟨some 58, false, none, iMov (.t 57)⟩,
 ⟨some 59, false, some (58, true), iFaddr 20 (.t 1)⟩,
 ⟨some 60, false, some (58, true), iLoad (.t 59)⟩,
 ⟨some 61, false, some (58, true), iFaddr 5 (.t 1)⟩,
 ⟨some 62, false, some (58, true), iLoad (.t 61)⟩,
 ⟨some 63, false, some (58, true), iBuild [(.int .i64 (.lit 0)), (.int .i64 (.lit 0))] [(0, 1, (.c (.int .i64 (.lit 0)))), (1, 1, (.t 62))]⟩,
 ⟨some 64, false, some (58, true), iCall (.c (.func (.func 49) [] [])) [(.t 60), (.t 63)]⟩,
 ⟨some 65, false, none, iPick (.t 58) (.t 64) (.c (.bool (.lit false)))⟩,
 ⟨some 66, false, none, iMov (.t 65)⟩,
 ⟨some 67, false, some (66, true), iFaddr 22 (.t 1)⟩,
 ⟨some 68, false, some (66, true), iLoad (.t 67)⟩,
 ⟨some 69, false, some (66, true), iCall (.c (.func (.func 80) [] [])) [(.t 68)]⟩,
 ⟨some 70, false, none, iPick (.t 66) (.t 69) (.c (.bool (.lit false)))⟩,
 ⟨some 2, true, none, iMov (.t 70)⟩])
 cRet))), [.t 2]⟩
noncomputable def Tryd.kp53 : List Nat := [0, 1, 2, 4, 5, 6, 7, 14, 15, 16, 17, 18, 51]
noncomputable def Tryd.cf53 : CF := ⟨2, (cSeq (cOps [⟨some 2, true, none, iBox 78 (.t 0)⟩,
 ⟨some 4, true, none, iMov (.c (.bool (.lit false)))⟩])
 (cSeq (cSeq (cOps [⟨some 8, false, none, iMov (.t 1)⟩,
 ⟨some 9, false, none, iLenS (.t 8)⟩,
 ⟨some 10, false, none, iFaddr 0 (.t 2)⟩,
 ⟨some 11, false, none, iFaddr 22 (.t 10)⟩,
 ⟨some 12, false, none, iLoad (.t 11)⟩,
 ⟨some 13, false, none, iLenS (.t 12)⟩,
 ⟨some 14, true, none, iCmp .neq (.t 9) (.t 13)⟩])
 (cCond (.t 14) (cSeq (cOps [⟨some 4, true, none, iMov (.c (.bool (.lit false)))⟩])
 cRet) cSkip))
 (cSeq (cSeq (cOps [⟨some 15, true, none, iMov (.t 1)⟩,
 ⟨some 16, true, none, iLenS (.t 15)⟩,
 ⟨some 17, true, none, iMov (.c (.int .i64 (.lit 0)))⟩])
 (cBlock 0 (cLoop (cSeq (cOps [⟨some 18, true, none, iCmp .lss (.t 17) (.t 16)⟩])
 (cSeq (cCond (.t 18) cSkip (cExit 0))
 (cSeq (cBlock 1 (cSeq (cOps [⟨some 19, false, none, iMov (.t 17)⟩,
 ⟨some 20, false, none, iIaddr 2 (.t 15) (.t 17)⟩,
 ⟨some 21, false, none, iLoadN 2 (.t 20)⟩,
 ⟨some 6, true, none, iAlloc 64 [(.int .i64 (.lit 0)), (.int .i64 (.lit 0))]⟩,
 ⟨some 5, true, none, iMov (.t 19)⟩,
 ⟨none, false, none, iStore 2 (.t 6) (.t 21)⟩])
 (cSeq (cOps [⟨some 22, false, none, iFaddr 0 (.t 2)⟩,
 ⟨some 23, false, none, iFaddr 22 (.t 22)⟩,
 ⟨some 24, false, none, iLoad (.t 23)⟩,
 ⟨some 25, false, none, iMov (.t 5)⟩,
 ⟨some 26, false, none, iIaddr 4 (.t 24) (.t 25)⟩,
 ⟨some 27, false, none, iFaddr 3 (.t 26)⟩,
 ⟨some 28, false, none, iLoad (.t 27)⟩,
 ⟨some 7, true, none, iMov (.t 28)⟩])
 (cSeq (cOps [⟨some 29, false, none, iFaddr 0 (.t 6)⟩,
 ⟨some 30, false, none, iLoad (.t 29)⟩,
 ⟨some 31, false, none, iCmp .lss (.t 30) (.c (.int .i64 (.lit 0)))⟩,
 ⟨some 32, false, none, iMov (.t 31)⟩,
 ⟨some 33, false, some (32, false), iFaddr 0 (.t 6)⟩,
 ⟨some 34, false, some (32, false), iLoad (.t 33)⟩,
 ⟨some 35, false, some (32, false), iMov (.t 7)⟩,
 ⟨some 36, false, some (32, false), iCmp .gtr (.t 34) (.t 35)⟩,
 ⟨some 37, false, none, iPick (.t 32) (.c (.bool (.lit true))) (.t 36)⟩,
 ⟨some 38, false, none, iMov (.t 37)⟩,
 ⟨some 39, false, some (38, false), iFaddr 1 (.t 6)⟩,
 ⟨some 40, false, some (38, false), iLoad (.t 39)⟩,
 ⟨some 41, false, some (38, false), iCmp .lss (.t 40) (.c (.int .i64 (.lit 0)))⟩,
 ⟨some 42, false, none, iPick (.t 38) (.c (.bool (.lit true))) (.t 41)⟩,
 ⟨some 43, false, none, iMov (.t 42)⟩,
 ⟨some 44, false, some (43, false), iFaddr 1 (.t 6)⟩,
 ⟨some 45, false, some (43, false), iLoad (.t 44)⟩,
 ⟨some 46, false, some (43, false), iMov (.t 7)⟩,
 ⟨some 47, false, some (43, false), iFaddr 0 (.t 6)⟩,
 ⟨some 48, false, some (43, false), iLoad (.t 47)⟩,
 ⟨some 49, false, some (43, false), iArith .sub (.t 46) (.t 48)⟩,
 ⟨some 50, false, some (43, false), iCmp .gtr (.t 45) (.t 49)⟩,
 ⟨some 51, true, none, iPick (.t 43) (.c (.bool (.lit true))) (.t 50)⟩])
 (cCond (.t 51) (cSeq (cOps [⟨some 4, true, none, iMov (.c (.bool (.lit false)))⟩])
 cRet) cSkip)))))
 (cOps [⟨some 52, false, none, iArith .add (.t 17) (.c (.int .i64 (.lit 1)))⟩,
 ⟨some 17, true, none, iMov (.t 52)⟩])))))))
 (cSeq (cOps [⟨some 4, true, none, iMov (.c (.bool (.lit true)))⟩])
 cRet)))), [.t 4]⟩
noncomputable def Tryd.kp54 : List Nat := [0, 1, 2, 4]
noncomputable def Tryd.cf54 : CF := ⟨2, (cSeq (cOps [⟨some 2, true, none, iBox 78 (.t 0)⟩,
 ⟨some 4, true, none, iMov (.c (.bool (.lit false)))⟩])
 (cSeq (cOps [⟨some 5, false, none, iMov (.t 1)⟩,
 ⟨some 6, false, none, iCmp .geq (.t 5) (.c (.int .i64 (.lit 0)))⟩,
 ⟨some 7, false, none, iMov (.t 6)⟩,
 ⟨some 8, false, some (7, true), iMov (.t 1)⟩,
 ⟨some 9, false, some (7, true), iFaddr 0 (.t 2)⟩,
 ⟨some 10, false, some (7, true), iFaddr 22 (.t 9)⟩,
 ⟨some 11, false, some (7, true), iLoad (.t 10)⟩,
 ⟨some 12, false, some (7, true), iLenS (.t 11)⟩,
 ⟨some 13, false, some (7, true), iCmp .lss (.t 8) (.t 12)⟩,
 ⟨some 14, false, none, iPick (.t 7) (.t 13) (.c (.bool (.lit false)))⟩,
 ⟨some 4, true, none, iMov (.t 14)⟩])
 cRet)), [.t 4]⟩
noncomputable def Tryd.ra55021 : C := (cOps [⟨some 11, true, none, iAlloc 128 [(.int .i64 (.lit 0)), (.int .i64 (.lit 0)), (.int .i64 (.lit 0)), (.int .i64 (.lit 0)), (.int .i64 (.lit 0)), (.int .i64 (.lit 0)), (.int .i64 (.lit 0))]⟩,
 ⟨none, false, none, iStore 7 (.t 11) (.t 21)⟩])
noncomputable def Tryd.rb55021 : C := (cBlock 1 (cSeq (cSeq (cOps [⟨some 22, false, none, iLoadN 7 (.t 11)⟩,
 ⟨some 23, true, none, iCall (.c (.func (.func 83) [] [])) [(.t 22)]⟩])
 (cCond (.t 23) (cSeq (cOps [⟨some 24, false, none, iBuild [(.int .i64 (.lit 0)), (.int .i64 (.lit 0))] []⟩,
 ⟨some 25, false, none, iBuild [(.int .i64 (.lit 0)), (.int .i64 (.lit 0))] []⟩,
 ⟨none, false, none, iStore 2 (.t 4) (.t 24)⟩,
 ⟨none, false, none, iStore 2 (.t 5) (.t 25)⟩,
 ⟨none, false, none, iStore 1 (.t 6) (.c (.int .i64 (.lit 42)))⟩])
 cRet) cSkip))
 (cOps [⟨some 26, false, none, iFaddr 2 (.t 11)⟩,
 ⟨some 27, false, none, iFaddr 1 (.t 26)⟩,
 ⟨some 28, false, none, iLoadN 2 (.t 27)⟩,
 ⟨none, false, none, iStore 2 (.t 9) (.t 28)⟩])))
noncomputable def Tryd.ra55033 : C := (cOps [⟨some 12, true, none, iAlloc 128 [(.int .i64 (.lit 0)), (.int .i64 (.lit 0)), (.int .i64 (.lit 0)), (.int .i64 (.lit 0)), (.int .i64 (.lit 0)), (.int .i64 (.lit 0)), (.int .i64 (.lit 0))]⟩,
 ⟨none, false, none, iStore 7 (.t 12) (.t 33)⟩])
noncomputable def Tryd.rb55033 : C := (cBlock 3 (cOps [⟨some 34, false, none, iFaddr 2 (.t 12)⟩,
 ⟨some 35, false, none, iFaddr 1 (.t 34)⟩,
 ⟨some 36, false, none, iLoadN 2 (.t 35)⟩,
 ⟨none, false, none, iStore 2 (.t 10) (.t 36)⟩]))
noncomputable def Tryd.kp55 : List Nat := [0, 1, 2, 4, 5, 6, 7, 8, 9, 10, 11, 12, 20, 21, 23, 32, 33]
noncomputable def Tryd.cf55 : CF := ⟨2, (cSeq (cOps [⟨some 2, true, none, iBox 78 (.t 0)⟩,
 ⟨some 4, true, none, iAlloc 23 [(.int .i64 (.lit 0)), (.int .i64 (.lit 0))]⟩,
 ⟨some 5, true, none, iAlloc 23 [(.int .i64 (.lit 0)), (.int .i64 (.lit 0))]⟩,
 ⟨some 6, true, none, iAlloc 30 [(.int .i64 (.lit 0))]⟩])
 (cSeq (cOps [⟨some 14, false, none, iCall (.c (.func (.func 81) [] [])) []⟩,
 ⟨some 13, false, none, iMov (.t 14)⟩,
 ⟨some 15, false, none, iExtract 0 (.t 13)⟩,
 ⟨some 16, false, none, iExtract 1 (.t 13)⟩,
 ⟨some 7, true, none, iAlloc 118 [.nilFunc, .nilFunc]⟩,
 ⟨some 8, true, none, iAlloc 118 [.nilFunc, .nilFunc]⟩,
 ⟨none, false, none, iStore 2 (.t 7) (.t 15)⟩,
 ⟨none, false, none, iStore 2 (.t 8) (.t 16)⟩])
 (cSeq (cOps [⟨some 9, true, none, iAlloc 121 [(.int .i64 (.lit 0)), (.int .i64 (.lit 0))]⟩,
 ⟨some 10, true, none, iAlloc 121 [(.int .i64 (.lit 0)), (.int .i64 (.lit 0))]⟩])
 (cSeq (cSeq (cOps [⟨some 17, false, none, iLoadN 39 (.t 2)⟩,
 ⟨some 18, false, none, iMov (.t 1)⟩,
 ⟨some 19, false, none, iLoadN 2 (.t 7)⟩,
 ⟨some 20, true, none, iCall (.c (.func (.func 82) [] [])) [(.t 17), (.t 18), (.t 19)]⟩])
 (cBlock 0 (cRange (.t 20) [21] 55021)))
 (cSeq (cSeq (cOps [⟨some 29, false, none, iLoadN 39 (.t 2)⟩,
 ⟨some 30, false, none, iMov (.t 1)⟩,
 ⟨some 31, false, none, iLoadN 2 (.t 8)⟩,
 ⟨some 32, true, none, iCall (.c (.func (.func 82) [] [])) [(.t 29), (.t 30), (.t 31)]⟩])
 (cBlock 2 (cRange (.t 32) [33] 55033)))
 (cSeq (dOps 0 [⟨⟨some 37, false, none, iIaddrA 1 2 (.t 9) (.c (.int .i64 (.lit 0)))⟩, [9], false, 0, 0, none, []⟩,
 ⟨⟨some 38, false, none, iLoad (.t 37)⟩, [37], false, 0, 0, none, []⟩,
 ⟨⟨some 39, false, none, iIaddrA 1 2 (.t 10) (.c (.int .i64 (.lit 0)))⟩, [10], false, 0, 0, none, []⟩,
 ⟨⟨some 40, false, none, iLoad (.t 39)⟩, [39], false, 0, 0, none, []⟩,
 ⟨⟨some 41, false, none, iBuild [(.int .i64 (.lit 0)), (.int .i64 (.lit 0))] [(0, 1, (.t 38)), (1, 1, (.t 40))]⟩, [38, 40], false, 0, 0, none, []⟩,
 ⟨⟨some 42, false, none, iIaddrA 1 2 (.t 9) (.c (.int .i64 (.lit 1)))⟩, [9], false, 0, 1, none, []⟩,
 ⟨⟨some 43, false, none, iLoad (.t 42)⟩, [42], false, 0, 1, none, []⟩,
 ⟨⟨some 44, false, none, iIaddrA 1 2 (.t 10) (.c (.int .i64 (.lit 1)))⟩, [10], false, 0, 1, none, []⟩,
 ⟨⟨some 45, false, none, iLoad (.t 44)⟩, [44], false, 0, 1, none, []⟩,
 ⟨⟨some 46, false, none, iBuild [(.int .i64 (.lit 0)), (.int .i64 (.lit 0))] [(0, 1, (.t 43)), (1, 1, (.t 45))]⟩, [43, 45], false, 0, 1, none, []⟩,
 ⟨⟨none, false, none, iStore 2 (.t 4) (.t 41)⟩, [4, 41], true, 0, 0, none, []⟩,
 ⟨⟨none, false, none, iStore 2 (.t 5) (.t 46)⟩, [5, 46], true, 1, 0, none, []⟩,
 ⟨⟨none, false, none, iStore 1 (.t 6) (.c (.int .i64 (.lit 0)))⟩, [6], true, 2, 0, none, []⟩])
 cRet)))))), [.cell 4 true 2, .cell 5 true 2, .cell 6 false 1]⟩
noncomputable def Tryd.ra61017 : C := (cOps [⟨some 8, true, none, iAlloc 128 [(.int .i64 (.lit 0)), (.int .i64 (.lit 0)), (.int .i64 (.lit 0)), (.int .i64 (.lit 0)), (.int .i64 (.lit 0)), (.int .i64 (.lit 0)), (.int .i64 (.lit 0))]⟩,
 ⟨none, false, none, iStore 7 (.t 8) (.t 17)⟩])
noncomputable def Tryd.rb61017 : C := (cBlock 1 (cSeq (cOps [⟨some 18, false, none, iLoadN 39 (.t 2)⟩,
 ⟨some 19, false, none, iLoadN 7 (.t 8)⟩,
 ⟨some 20, true, none, iCall (.c (.func (.func 85) [] [])) [(.t 18), (.t 19)]⟩])
 (cCond (.t 20) (cSeq (cOps [⟨some 21, false, none, iFaddr 2 (.t 8)⟩,
 ⟨some 22, false, none, iFaddr 0 (.t 21)⟩,
 ⟨some 23, false, none, iLoad (.t 22)⟩,
 ⟨some 24, false, none, iArith .sub (.t 23) (.c (.int .i64 (.lit 1)))⟩,
 ⟨none, false, none, iStore 1 (.t 4) (.t 24)⟩,
 ⟨none, false, none, iStore 1 (.t 5) (.c (.int .i64 (.lit 0)))⟩])
 cRet) cSkip)))
noncomputable def Tryd.kp61 : List Nat := [0, 1, 2, 4, 5, 6, 8, 16, 17, 20]
noncomputable def Tryd.cf61 : CF := ⟨2, (cSeq (cOps [⟨some 2, true, none, iBox 78 (.t 0)⟩,
 ⟨some 4, true, none, iAlloc 3 [(.int .i64 (.lit 0))]⟩,
 ⟨some 5, true, none, iAlloc 30 [(.int .i64 (.lit 0))]⟩])
 (cSeq (cOps [⟨some 10, false, none, iCall (.c (.func (.func 81) [] [])) []⟩,
 ⟨some 9, false, none, iMov (.t 10)⟩,
 ⟨some 11, false, none, iExtract 0 (.t 9)⟩,
 ⟨some 12, false, none, iExtract 1 (.t 9)⟩,
 ⟨some 6, true, none, iAlloc 118 [.nilFunc, .nilFunc]⟩,
 ⟨some 7, false, none, iAlloc 118 [.nilFunc, .nilFunc]⟩,
 ⟨none, false, none, iStore 2 (.t 6) (.t 11)⟩,
 ⟨none, false, none, iStore 2 (.t 7) (.t 12)⟩])
 (cSeq (cSeq (cOps [⟨some 13, false, none, iLoadN 39 (.t 2)⟩,
 ⟨some 14, false, none, iMov (.t 1)⟩,
 ⟨some 15, false, none, iLoadN 2 (.t 6)⟩,
 ⟨some 16, true, none, iCall (.c (.func (.func 82) [] [])) [(.t 13), (.t 14), (.t 15)]⟩])
 (cBlock 0 (cRange (.t 16) [17] 61017)))
 (cSeq (cOps [⟨none, false, none, iStore 1 (.t 4) (.c (.int .i64 (.lit 0)))⟩,
 ⟨none, false, none, iStore 1 (.t 5) (.c (.int .i64 (.lit 4)))⟩])
 cRet)))), [.cell 4 false 1, .cell 5 false 1]⟩
noncomputable def Tryd.kp63 : List Nat := [0, 1, 2, 3, 4, 6, 7, 8, 9, 23, 30, 31, 32]
noncomputable def Tryd.cf63 : CF := ⟨1, (cSeq (cOps [⟨some 1, true, none, iBox 78 (.t 0)⟩,
 ⟨some 2, true, none, iMov (.c .nilslice)⟩,
 ⟨some 3, true, none, iMov (.c (.int .i64 (.lit 0)))⟩])
 (cSeq (cOps [⟨some 11, false, none, iCall (.c (.func (.func 81) [] [])) []⟩,
 ⟨some 10, false, none, iMov (.t 11)⟩,
 ⟨some 12, false, none, iExtract 0 (.t 10)⟩,
 ⟨some 13, false, none, iExtract 1 (.t 10)⟩,
 ⟨some 4, true, none, iAlloc 118 [.nilFunc, .nilFunc]⟩,
 ⟨some 5, false, none, iAlloc 118 [.nilFunc, .nilFunc]⟩,
 ⟨none, false, none, iStore 2 (.t 4) (.t 12)⟩,
 ⟨none, false, none, iStore 2 (.t 5) (.t 13)⟩])
 (cSeq (cOps [⟨some 14, false, none, iLoadN 39 (.t 1)⟩,
 ⟨some 15, false, none, iCall (.c (.func (.func 86) [] [])) [(.t 14)]⟩,
 ⟨some 6, true, none, iMov (.t 15)⟩])
 (cSeq (cOps [⟨some 16, false, none, iLoadN 39 (.t 1)⟩,
 ⟨some 17, false, none, iLoadN 2 (.t 4)⟩,
 ⟨some 18, false, none, iCall (.c (.func (.func 87) [] [])) [(.t 16), (.t 17)]⟩,
 ⟨some 7, true, none, iAlloc 126 [(.int .i64 (.lit 0)), (.int .i64 (.lit 0)), (.int .i64 (.lit 0))]⟩,
 ⟨none, false, none, iStore 3 (.t 7) (.t 18)⟩])
 (cSeq (cSeq (cOps [⟨some 19, false, none, iMov (.t 6)⟩,
 ⟨some 20, false, none, iLoadN 3 (.t 7)⟩,
 ⟨some 21, false, none, iLookup (.agg [(.bool (.lit false)), (.int .i64 (.lit 0)), (.int .i64 (.lit 0)), (.int .i64 (.lit 0)), (.int .i64 (.lit 0)), (.int .i64 (.lit 0)), (.int .i64 (.lit 0)), (.int .i64 (.lit 0)), (.int .i64 (.lit 0))]) true 3 [(0, .int), (1, .int), (2, .int)] false (.t 19) (.t 20)⟩,
 ⟨some 22, false, none, iField false 0 1 (.t 21)⟩,
 ⟨some 23, true, none, iNot (.t 22)⟩])
 (cCond (.t 23) (cSeq (cOps [⟨some 2, true, none, iMov (.c .nilslice)⟩,
 ⟨some 3, true, none, iMov (.c (.int .i64 (.lit 4)))⟩])
 cRet) cSkip))
 (cSeq (cOps [⟨some 24, false, none, iFaddr 0 (.t 1)⟩,
 ⟨some 25, false, none, iFaddr 22 (.t 24)⟩,
 ⟨some 26, false, none, iLoad (.t 25)⟩,
 ⟨some 27, false, none, iLenS (.t 26)⟩,
 ⟨some 28, false, none, iMkslice 64 [(.int .i64 (.lit 0)), (.int .i64 (.lit 0))] 16 (.t 27) (.t 27)⟩,
 ⟨some 8, true, none, iMov (.t 28)⟩])
 (cSeq (cSeq (cOps [⟨some 29, false, none, iMov (.t 8)⟩,
 ⟨some 30, true, none, iLenS (.t 29)⟩,
 ⟨some 31, true, none, iMov (.c (.int .i64 (.lit 0)))⟩])
 (cBlock 0 (cLoop (cSeq (cOps [⟨some 32, true, none, iCmp .lss (.t 31) (.t 30)⟩])
 (cSeq (cCond (.t 32) cSkip (cExit 0))
 (cSeq (cBlock 1 (cSeq (cOps [⟨some 33, false, none, iMov (.t 31)⟩,
 ⟨some 9, true, none, iMov (.t 33)⟩])
 (cSeq (cOps [⟨some 34, false, none, iMov (.t 8)⟩,
 ⟨some 35, false, none, iMov (.t 9)⟩,
 ⟨some 36, false, none, iMov (.t 6)⟩,
 ⟨some 37, false, none, iLoadN 3 (.t 7)⟩,
 ⟨some 38, false, none, iLookup (.agg [(.bool (.lit false)), (.int .i64 (.lit 0)), (.int .i64 (.lit 0)), (.int .i64 (.lit 0)), (.int .i64 (.lit 0)), (.int .i64 (.lit 0)), (.int .i64 (.lit 0)), (.int .i64 (.lit 0)), (.int .i64 (.lit 0))]) true 3 [(0, .int), (1, .int), (2, .int)] false (.t 36) (.t 37)⟩,
 ⟨some 39, false, none, iField true 2 7 (.t 38)⟩,
 ⟨some 40, false, none, iField true 0 2 (.t 39)⟩,
 ⟨some 41, false, none, iIaddr 2 (.t 34) (.t 35)⟩,
 ⟨none, false, none, iStore 2 (.t 41) (.t 40)⟩])
 (cOps [⟨some 42, false, none, iMov (.t 6)⟩,
 ⟨some 43, false, none, iLoadN 3 (.t 7)⟩,
 ⟨some 44, false, none, iLookup (.agg [(.bool (.lit false)), (.int .i64 (.lit 0)), (.int .i64 (.lit 0)), (.int .i64 (.lit 0)), (.int .i64 (.lit 0)), (.int .i64 (.lit 0)), (.int .i64 (.lit 0)), (.int .i64 (.lit 0)), (.int .i64 (.lit 0))]) true 3 [(0, .int), (1, .int), (2, .int)] false (.t 42) (.t 43)⟩,
 ⟨some 45, false, none, iField true 2 7 (.t 44)⟩,
 ⟨some 46, false, none, iField true 2 3 (.t 45)⟩,
 ⟨none, false, none, iStore 3 (.t 7) (.t 46)⟩]))))
 (cOps [⟨some 47, false, none, iArith .add (.t 31) (.c (.int .i64 (.lit 1)))⟩,
 ⟨some 31, true, none, iMov (.t 47)⟩])))))))
 (cSeq (cOps [⟨some 48, false, none, iMov (.t 8)⟩,
 ⟨some 2, true, none, iMov (.t 48)⟩,
 ⟨some 3, true, none, iMov (.c (.int .i64 (.lit 0)))⟩])
 cRet)))))))), [.t 2, .t 3]⟩
noncomputable def Tryd.kp65 : List Nat := [0, 1, 3, 4]
noncomputable def Tryd.cf65 : CF := ⟨2, (cSeq (cOps [⟨some 3, true, none, iBox 85 (.t 1)⟩,
 ⟨some 4, true, none, iMov (.c (.int .i64 (.lit 0)))⟩])
 (cSeq (cOps [⟨some 5, false, none, iMov (.t 0)⟩,
 ⟨some 6, false, none, iArith .add (.t 5) (.c (.int .i64 (.lit 1)))⟩,
 ⟨some 7, false, none, iFunc (.func 89) [] [(.t 3)]⟩,
 ⟨some 8, false, none, iCall (.c (.func (.func 70) [] [])) [(.t 6), (.t 7)]⟩,
 ⟨some 9, false, none, iArith .sub (.t 8) (.c (.int .i64 (.lit 1)))⟩,
 ⟨some 4, true, none, iMov (.t 9)⟩])
 cRet)), [.t 4]⟩
noncomputable def Tryd.kp66 : List Nat := [0, 1, 2, 4, 5]
noncomputable def Tryd.cf66 : CF := ⟨2, (cSeq (cOps [⟨some 2, true, none, iBox 78 (.t 0)⟩,
 ⟨some 4, true, none, iMov (.c (.bool (.lit false)))⟩])
 (cSeq (cOps [⟨some 6, false, none, iFaddr 0 (.t 2)⟩,
 ⟨some 7, false, none, iLoadN 23 (.t 6)⟩,
 ⟨some 5, true, none, iAlloc 27 [(.int .i64 (.lit 0)), (.int .i64 (.lit 0)), (.int .i64 (.lit 0)), (.int .i64 (.lit 0)), (.int .i64 (.lit 0)), (.int .i64 (.lit 0)), (.int .i64 (.lit 0)), (.int .i64 (.lit 0)), (.int .i64 (.lit 0)), (.int .i64 (.lit 0)), (.int .i64 (.lit 0)), (.int .i64 (.lit 0)), (.int .i64 (.lit 0)), (.int .i64 (.lit 0)), (.int .i64 (.lit 0)), (.int .i64 (.lit 0)), (.int .i64 (.lit 0)), (.int .i64 (.lit 0)), (.int .i64 (.lit 0)), (.int .i64 (.lit 0)), (.int .i64 (.lit 0)), (.int .i64 (.lit 0)), .nilslice]⟩,
 ⟨none, false, none, iStore 23 (.t 5) (.t 7)⟩])
 (cSeq (cOps [⟨some 8, false, none, iFaddr 22 (.t 5)⟩,
 ⟨some 9, false, none, iLoad (.t 8)⟩,
 ⟨some 10, false, none, iMov (.t 1)⟩,
 ⟨some 11, false, none, iMov (.t 1)⟩,
 ⟨some 12, false, none, iSlice 4 (.t 9) none (some (.t 10)) (some (.t 11))⟩,
 ⟨some 13, false, none, iFaddr 22 (.t 5)⟩,
 ⟨none, false, none, iStore 1 (.t 13) (.t 12)⟩])
 (cSeq (cOps [⟨some 14, false, none, iLoadN 23 (.t 5)⟩,
 ⟨some 15, false, none, iCall (.c (.func (.func 77) [] [])) [(.t 14)]⟩,
 ⟨some 16, false, none, iCall (.c (.func (.func 90) [] [])) [(.t 15)]⟩,
 ⟨some 4, true, none, iMov (.t 16)⟩])
 cRet)))), [.t 4]⟩
noncomputable def Tryd.kp68 : List Nat := [0, 1, 2, 4, 5]
noncomputable def Tryd.cf68 : CF := ⟨2, (cSeq (cOps [⟨some 2, true, none, iBox 101 (.t 0)⟩,
 ⟨some 4, true, none, iMov (.c (.bool (.lit false)))⟩])
 (cSeq (cOps [⟨some 6, false, none, iFaddr 0 (.t 2)⟩,
 ⟨some 7, false, none, iFaddr 0 (.t 6)⟩,
 ⟨some 8, false, none, iLoadN 23 (.t 7)⟩,
 ⟨some 5, true, none, iAlloc 27 [(.int .i64 (.lit 0)), (.int .i64 (.lit 0)), (.int .i64 (.lit 0)), (.int .i64 (.lit 0)), (.int .i64 (.lit 0)), (.int .i64 (.lit 0)), (.int .i64 (.lit 0)), (.int .i64 (.lit 0)), (.int .i64 (.lit 0)), (.int .i64 (.lit 0)), (.int .i64 (.lit 0)), (.int .i64 (.lit 0)), (.int .i64 (.lit 0)), (.int .i64 (.lit 0)), (.int .i64 (.lit 0)), (.int .i64 (.lit 0)), (.int .i64 (.lit 0)), (.int .i64 (.lit 0)), (.int .i64 (.lit 0)), (.int .i64 (.lit 0)), (.int .i64 (.lit 0)), (.int .i64 (.lit 0)), .nilslice]⟩,
 ⟨none, false, none, iStore 23 (.t 5) (.t 8)⟩])
 (cSeq (cOps [⟨some 9, false, none, iFaddr 22 (.t 5)⟩,
 ⟨some 10, false, none, iLoad (.t 9)⟩,
 ⟨some 11, false, none, iCall (.c (.func (.func 91) [] [])) [(.t 10)]⟩,
 ⟨some 12, false, none, iFaddr 22 (.t 5)⟩,
 ⟨none, false, none, iStore 1 (.t 12) (.t 11)⟩])
 (cSeq (cOps [⟨some 13, false, none, iFaddr 22 (.t 5)⟩,
 ⟨some 14, false, none, iLoad (.t 13)⟩,
 ⟨some 15, false, none, iFaddr 39 (.t 2)⟩,
 ⟨some 16, false, none, iLoad (.t 15)⟩,
 ⟨some 17, false, none, iIaddr 4 (.t 14) (.t 16)⟩,
 ⟨some 18, false, none, iFaddr 0 (.t 17)⟩,
 ⟨some 19, false, none, iFaddr 1 (.t 18)⟩,
 ⟨some 20, false, none, iLoad (.t 19)⟩,
 ⟨some 21, false, none, iMov (.t 1)⟩,
 ⟨some 22, false, none, iArith .add (.t 20) (.t 21)⟩,
 ⟨some 23, false, none, iIaddr 4 (.t 14) (.t 16)⟩,
 ⟨some 24, false, none, iFaddr 0 (.t 23)⟩,
 ⟨some 25, false, none, iFaddr 1 (.t 24)⟩,
 ⟨none, false, none, iStore 1 (.t 25) (.t 22)⟩])
 (cSeq (cOps [⟨some 26, false, none, iLoadN 23 (.t 5)⟩,
 ⟨some 27, false, none, iCall (.c (.func (.func 77) [] [])) [(.t 26)]⟩,
 ⟨some 28, false, none, iCall (.c (.func (.func 90) [] [])) [(.t 27)]⟩,
 ⟨some 4, true, none, iMov (.t 28)⟩])
 cRet))))), [.t 4]⟩
noncomputable def Tryd.kp70 : List Nat := [0, 1, 4, 5, 6, 7, 11, 21]
noncomputable def Tryd.cf70 : CF := ⟨2, (cSeq (cOps [⟨some 4, true, none, iMov (.c (.int .i64 (.lit 0)))⟩])
 (cSeq (cOps [⟨some 8, false, none, iMov (.t 0)⟩,
 ⟨some 5, true, none, iMov (.c (.int .i64 (.lit 0)))⟩,
 ⟨some 6, true, none, iMov (.t 8)⟩])
 (cSeq (cBlock 0 (cLoop (cSeq (cSeq (cOps [⟨some 9, false, none, iMov (.t 5)⟩,
 ⟨some 10, false, none, iMov (.t 6)⟩,
 ⟨some 11, true, none, iCmp .lss (.t 9) (.t 10)⟩])
 (cCond (.t 11) cSkip (cExit 0)))
 (cBlock 1 (cSeq (cOps [⟨some 12, false, none, iMov (.t 5)⟩,
 ⟨some 13, false, none, iMov (.t 6)⟩,
 ⟨some 14, false, none, iArith .add (.t 12) (.t 13)⟩,
 ⟨some 15, false, none, iConv .u64 (.t 14)⟩,
 ⟨some 16, false, none, iShift .shr (.t 15) (.c (.int .u64 (.lit 1)))⟩,
 ⟨some 17, false, none, iConv .i64 (.t 16)⟩,
 ⟨some 7, true, none, iMov (.t 17)⟩])
 (cSeq (cOps [⟨some 18, false, none, iMov (.t 1)⟩,
 ⟨some 19, false, none, iMov (.t 7)⟩,
 ⟨some 20, false, none, iCall (.t 18) [(.t 19)]⟩,
 ⟨some 21, true, none, iNot (.t 20)⟩])
 (cCond (.t 21) (cOps [⟨some 22, false, none, iMov (.t 7)⟩,
 ⟨some 23, false, none, iArith .add (.t 22) (.c (.int .i64 (.lit 1)))⟩,
 ⟨some 5, true, none, iMov (.t 23)⟩]) (cOps [⟨some 24, false, none, iMov (.t 7)⟩,
 ⟨some 6, true, none, iMov (.t 24)⟩]))))))))
 (cSeq (cOps [⟨some 25, false, none, iMov (.t 5)⟩,
 ⟨some 4, true, none, iMov (.t 25)⟩])
 cRet)))), [.t 4]⟩
noncomputable def Tryd.kp71 : List Nat := [0, 1, 2, 4, 5]
noncomputable def Tryd.cf71 : CF := ⟨2, (cSeq (cOps [⟨some 2, true, none, iBox 78 (.t 0)⟩,
 ⟨some 4, true, none, iMov (.c (.bool (.lit false)))⟩])
 (cSeq (cOps [⟨some 6, false, none, iFaddr 0 (.t 2)⟩,
 ⟨some 7, false, none, iLoadN 23 (.t 6)⟩,
 ⟨some 5, true, none, iAlloc 27 [(.int .i64 (.lit 0)), (.int .i64 (.lit 0)), (.int .i64 (.lit 0)), (.int .i64 (.lit 0)), (.int .i64 (.lit 0)), (.int .i64 (.lit 0)), (.int .i64 (.lit 0)), (.int .i64 (.lit 0)), (.int .i64 (.lit 0)), (.int .i64 (.lit 0)), (.int .i64 (.lit 0)), (.int .i64 (.lit 0)), (.int .i64 (.lit 0)), (.int .i64 (.lit 0)), (.int .i64 (.lit 0)), (.int .i64 (.lit 0)), (.int .i64 (.lit 0)), (.int .i64 (.lit 0)), (.int .i64 (.lit 0)), (.int .i64 (.lit 0)), (.int .i64 (.lit 0)), (.int .i64 (.lit 0)), .nilslice]⟩,
 ⟨none, false, none, iStore 23 (.t 5) (.t 7)⟩])
 (cSeq (cOps [⟨some 8, false, none, iMov (.t 1)⟩,
 ⟨some 9, false, none, iMov (.t 1)⟩,
 ⟨some 10, false, none, iBuild [(.int .i64 (.lit 0)), (.int .i64 (.lit 0))] [(0, 1, (.t 8)), (1, 1, (.t 9))]⟩,
 ⟨some 11, false, none, iFaddr 0 (.t 5)⟩,
 ⟨none, false, none, iStore 2 (.t 11) (.t 10)⟩])
 (cSeq (cOps [⟨some 12, false, none, iLoadN 23 (.t 5)⟩,
 ⟨some 13, false, none, iCall (.c (.func (.func 77) [] [])) [(.t 12)]⟩,
 ⟨some 14, false, none, iCall (.c (.func (.func 90) [] [])) [(.t 13)]⟩,
 ⟨some 4, true, none, iMov (.t 14)⟩])
 cRet)))), [.t 4]⟩
noncomputable def Tryd.kp76 : List Nat := [0, 1, 2, 3, 8]
noncomputable def Tryd.cf76 : CF := ⟨4, (cSeq (cOps [⟨some 8, true, none, iAlloc 66 [(.int .i64 (.lit 0)), (.int .i64 (.lit 0)), (.bool (.lit false)), (.int .i64 (.lit 0))]⟩])
 (cSeq (cOps [⟨some 9, false, none, iMov (.t 0)⟩,
 ⟨some 10, false, none, iMov (.t 1)⟩,
 ⟨some 11, false, none, iCall (.c (.func (.func 40) [] [])) [(.t 9), (.t 10)]⟩,
 ⟨some 12, false, none, iMov (.t 2)⟩,
 ⟨some 13, false, none, iMov (.t 3)⟩,
 ⟨some 14, false, none, iBuild [(.int .i64 (.lit 0)), (.int .i64 (.lit 0)), (.bool (.lit false)), (.int .i64 (.lit 0))] [(0, 2, (.t 11)), (2, 1, (.t 12)), (3, 1, (.t 13))]⟩,
 ⟨none, false, none, iStore 4 (.t 8) (.t 14)⟩])
 cRet)), [.cell 8 true 4]⟩
noncomputable def Tryd.kp77 : List Nat := [0, 1, 2, 3, 4, 5, 8, 9, 10]
noncomputable def Tryd.cf77 : CF := ⟨1, (cSeq (cOps [⟨some 1, true, none, iBox 27 (.t 0)⟩,
 ⟨some 2, true, none, iAlloc 78 [(.int .i64 (.lit 0)), (.int .i64 (.lit 0)), (.int .i64 (.lit 0)), (.int .i64 (.lit 0)), (.int .i64 (.lit 0)), (.int .i64 (.lit 0)), (.int .i64 (.lit 0)), (.int .i64 (.lit 0)), (.int .i64 (.lit 0)), (.int .i64 (.lit 0)), (.int .i64 (.lit 0)), (.int .i64 (.lit 0)), (.int .i64 (.lit 0)), (.int .i64 (.lit 0)), (.int .i64 (.lit 0)), (.int .i64 (.lit 0)), (.int .i64 (.lit 0)), (.int .i64 (.lit 0)), (.int .i64 (.lit 0)), (.int .i64 (.lit 0)), (.int .i64 (.lit 0)), (.int .i64 (.lit 0)), .nilslice, (.int .i64 (.lit 0)), (.int .i64 (.lit 0)), (.int .i64 (.lit 0)), (.int .i64 (.lit 0)), (.int .i64 (.lit 0)), (.int .i64 (.lit 0)), (.int .i64 (.lit 0)), (.int .i64 (.lit 0)), (.int .i64 (.lit 0)), (.int .i64 (.lit 0)), (.int .i64 (.lit 0)), (.int .i64 (.lit 0)), (.int .i64 (.lit 0)), (.int .i64 (.lit 0)), (.int .i64 (.lit 0)), (.int .i64 (.lit 0))]⟩])
 (cSeq (cOps [⟨some 6, false, none, iLoadN 23 (.t 1)⟩,
 ⟨some 7, false, none, iBuild [(.int .i64 (.lit 0)), (.int .i64 (.lit 0)), (.int .i64 (.lit 0)), (.int .i64 (.lit 0)), (.int .i64 (.lit 0)), (.int .i64 (.lit 0)), (.int .i64 (.lit 0)), (.int .i64 (.lit 0)), (.int .i64 (.lit 0)), (.int .i64 (.lit 0)), (.int .i64 (.lit 0)), (.int .i64 (.lit 0)), (.int .i64 (.lit 0)), (.int .i64 (.lit 0)), (.int .i64 (.lit 0)), (.int .i64 (.lit 0)), (.int .i64 (.lit 0)), (.int .i64 (.lit 0)), (.int .i64 (.lit 0)), (.int .i64 (.lit 0)), (.int .i64 (.lit 0)), (.int .i64 (.lit 0)), .nilslice, (.int .i64 (.lit 0)), (.int .i64 (.lit 0)), (.int .i64 (.lit 0)), (.int .i64 (.lit 0)), (.int .i64 (.lit 0)), (.int .i64 (.lit 0)), (.int .i64 (.lit 0)), (.int .i64 (.lit 0)), (.int .i64 (.lit 0)), (.int .i64 (.lit 0)), (.int .i64 (.lit 0)), (.int .i64 (.lit 0)), (.int .i64 (.lit 0)), (.int .i64 (.lit 0)), (.int .i64 (.lit 0)), (.int .i64 (.lit 0))] [(0, 23, (.t 6))]⟩,
 ⟨some 3, true, none, iAlloc 78 [(.int .i64 (.lit 0)), (.int .i64 (.lit 0)), (.int .i64 (.lit 0)), (.int .i64 (.lit 0)), (.int .i64 (.lit 0)), (.int .i64 (.lit 0)), (.int .i64 (.lit 0)), (.int .i64 (.lit 0)), (.int .i64 (.lit 0)), (.int .i64 (.lit 0)), (.int .i64 (.lit 0)), (.int .i64 (.lit 0)), (.int .i64 (.lit 0)), (.int .i64 (.lit 0)), (.int .i64 (.lit 0)), (.int .i64 (.lit 0)), (.int .i64 (.lit 0)), (.int .i64 (.lit 0)), (.int .i64 (.lit 0)), (.int .i64 (.lit 0)), (.int .i64 (.lit 0)), (.int .i64 (.lit 0)), .nilslice, (.int .i64 (.lit 0)), (.int .i64 (.lit 0)), (.int .i64 (.lit 0)), (.int .i64 (.lit 0)), (.int .i64 (.lit 0)), (.int .i64 (.lit 0)), (.int .i64 (.lit 0)), (.int .i64 (.lit 0)), (.int .i64 (.lit 0)), (.int .i64 (.lit 0)), (.int .i64 (.lit 0)), (.int .i64 (.lit 0)), (.int .i64 (.lit 0)), (.int .i64 (.lit 0)), (.int .i64 (.lit 0)), (.int .i64 (.lit 0))]⟩,
 ⟨none, false, none, iStore 39 (.t 3) (.t 7)⟩])
 (cSeq (cSeq (cOps [⟨some 8, true, none, iBuild [.nilFunc, .nilFunc] [(0, 1, (.c (.func (.func 93) [] []))), (1, 1, (.c (.func (.func 94) [] [])))]⟩,
 ⟨some 9, true, none, iMov (.c (.int .i64 (.lit 0)))⟩])
 (cBlock 0 (cLoop (cSeq (cOps [⟨some 10, true, none, iCmp .lss (.t 9) (.c (.int .i64 (.lit 2)))⟩])
 (cSeq (cCond (.t 10) cSkip (cExit 0))
 (cSeq (cBlock 1 (cSeq (cOps [⟨some 11, false, none, iMov (.t 9)⟩,
 ⟨some 12, false, none, iIndex false 1 2 (.t 8) (.t 9)⟩,
 ⟨some 4, true, none, iMov (.t 11)⟩,
 ⟨some 5, true, none, iMov (.t 12)⟩])
 (cOps [⟨some 13, false, none, iMov (.t 4)⟩,
 ⟨some 14, false, none, iMov (.t 5)⟩,
 ⟨some 15, false, none, iLoadN 39 (.t 3)⟩,
 ⟨some 16, false, none, iCall (.t 14) [(.t 15)]⟩,
 ⟨some 17, false, none, iFaddr 23 (.t 3)⟩,
 ⟨some 18, false, none, iIaddrA 8 2 (.t 17) (.t 13)⟩,
 ⟨none, false, none, iStore 8 (.t 18) (.t 16)⟩])))
 (cOps [⟨some 19, false, none, iArith .add (.t 9) (.c (.int .i64 (.lit 1)))⟩,
 ⟨some 9, true, none, iMov (.t 19)⟩])))))))
 (cSeq (cOps [⟨some 20, false, none, iLoadN 39 (.t 3)⟩,
 ⟨none, false, none, iStore 39 (.t 2) (.t 20)⟩])
 cRet)))), [.cell 2 true 39]⟩
noncomputable def Tryd.kp78 : List Nat := [0, 1, 4, 6, 7, 8, 9, 10, 17]
noncomputable def Tryd.cf78 : CF := ⟨2, (cSeq (cOps [⟨some 4, true, none, iMov (.c (.bool (.lit false)))⟩])
 (cSeq (cSeq (cOps [⟨some 7, true, none, iMov (.t 1)⟩,
 ⟨some 8, true, none, iLenS (.t 7)⟩,
 ⟨some 9, true, none, iMov (.c (.int .i64 (.lit 0)))⟩])
 (cBlock 0 (cLoop (cSeq (cOps [⟨some 10, true, none, iCmp .lss (.t 9) (.t 8)⟩])
 (cSeq (cCond (.t 10) cSkip (cExit 0))
 (cSeq (cBlock 1 (cSeq (cOps [⟨some 11, false, none, iIaddr 2 (.t 7) (.t 9)⟩,
 ⟨some 12, false, none, iLoadN 2 (.t 11)⟩,
 ⟨some 6, true, none, iAlloc 23 [(.int .i64 (.lit 0)), (.int .i64 (.lit 0))]⟩,
 ⟨none, false, none, iStore 2 (.t 6) (.t 12)⟩])
 (cSeq (cOps [⟨some 13, false, none, iLoadN 2 (.t 6)⟩,
 ⟨some 14, false, none, iMov (.t 0)⟩,
 ⟨some 15, false, none, iBuild [(.int .i64 (.lit 0)), (.int .i64 (.lit 0))] [(0, 1, (.c (.int .i64 (.lit 0)))), (1, 1, (.t 14))]⟩,
 ⟨some 16, false, none, iCall (.c (.func (.func 95) [] [])) [(.t 13), (.t 15)]⟩,
 ⟨some 17, true, none, iNot (.t 16)⟩])
 (cCond (.t 17) (cSeq (cOps [⟨some 4, true, none, iMov (.c (.bool (.lit false)))⟩])
 cRet) cSkip))))
 (cOps [⟨some 18, false, none, iArith .add (.t 9) (.c (.int .i64 (.lit 1)))⟩,
 ⟨some 9, true, none, iMov (.t 18)⟩])))))))
 (cSeq (cOps [⟨some 4, true, none, iMov (.c (.bool (.lit true)))⟩])
 cRet))), [.t 4]⟩
noncomputable def Tryd.kp79 : List Nat := [0, 1, 2]
noncomputable def Tryd.cf79 : CF := ⟨1, (cSeq (cOps [⟨some 1, true, none, iBox 27 (.t 0)⟩,
 ⟨some 2, true, none, iMov (.c (.bool (.lit false)))⟩])
 (cSeq (cOps [⟨some 3, false, none, iFaddr 16 (.t 1)⟩,
 ⟨some 4, false, none, iLoadN 2 (.t 3)⟩,
 ⟨some 5, false, none, iFaddr 18 (.t 1)⟩,
 ⟨some 6, false, none, iLoadN 2 (.t 5)⟩,
 ⟨some 7, false, none, iBslice 23 [(.int .i64 (.lit 0)), (.int .i64 (.lit 0))] 2 [(0, 2, (.t 4)), (2, 2, (.t 6))]⟩,
 ⟨some 8, false, none, iCall (.c (.func (.func 78) [] [])) [(.c (.int .i64 (.lit 60))), (.t 7)]⟩,
 ⟨some 9, false, none, iMov (.t 8)⟩,
 ⟨some 10, false, some (9, true), iFaddr 18 (.t 1)⟩,
 ⟨some 11, false, some (9, true), iFaddr 0 (.t 10)⟩,
 ⟨some 12, false, some (9, true), iLoad (.t 11)⟩,
 ⟨some 13, false, some (9, true), iFaddr 16 (.t 1)⟩,
 ⟨some 14, false, some (9, true), iFaddr 0 (.t 13)⟩,
 ⟨some 15, false, some (9, true), iLoad (.t 14)⟩,
 ⟨some 16, false, some (9, true), iCmp .leq (.t 12) (.t 15)⟩,
 ⟨some 17, false, none, iPick (.t 9) (.t 16) (.c (.bool (.lit false)))⟩,
 ⟨some 18, false, none, iMov (.t 17)⟩,
 ⟨some 19, false, some (18, true), iFaddr 18 (.t 1)⟩,
 ⟨some 20, false, some (18, true), iFaddr 1 (.t 19)⟩,
 ⟨some 21, false, some (18, true), iLoad (.t 20)⟩,
 ⟨some 22, false, some (18, true), iFaddr 16 (.t 1)⟩,
 ⟨some 23, false, some (18, true), iFaddr 1 (.t 22)⟩,
 ⟨some 24, false, some (18, true), iLoad (.t 23)⟩,
 ⟨some 25, false, some (18, true), iCmp .leq (.t 21) (.t 24)⟩,
 ⟨some 26, false, none, iPick (.t 18) (.t 25) (.c (.bool (.lit false)))⟩,
 ⟨some 2, true, none, iMov (.t 26)⟩])
 cRet)), [.t 2]⟩
noncomputable def Tryd.kp80 : List Nat := [0, 2, 4, 5, 6, 7, 8, 22]
noncomputable def Tryd.cf80 : CF := ⟨1, (cSeq (cOps [⟨some 2, true, none, iMov (.c (.bool (.lit false)))⟩])
 (cSeq (cSeq (cOps [⟨some 5, true, none, iMov (.t 0)⟩,
 ⟨some 6, true, none, iLenS (.t 5)⟩,
 ⟨some 7, true, none, iMov (.c (.int .i64 (.lit 0)))⟩])
 (cBlock 0 (cLoop (cSeq (cOps [⟨some 8, true, none, iCmp .lss (.t 7) (.t 6)⟩])
 (cSeq (cCond (.t 8) cSkip (cExit 0))
 (cSeq (cBlock 1 (cSeq (cOps [⟨some 9, false, none, iIaddr 4 (.t 5) (.t 7)⟩,
 ⟨some 10, false, none, iLoadN 4 (.t 9)⟩,
 ⟨some 4, true, none, iAlloc 66 [(.int .i64 (.lit 0)), (.int .i64 (.lit 0)), (.bool (.lit false)), (.int .i64 (.lit 0))]⟩,
 ⟨none, false, none, iStore 4 (.t 4) (.t 10)⟩])
 (cSeq (cOps [⟨some 11, false, none, iFaddr 0 (.t 4)⟩,
 ⟨some 12, false, none, iLoadN 2 (.t 11)⟩,
 ⟨some 13, false, none, iBuild [(.int .i64 (.lit 0)), (.int .i64 (.lit 0))] [(0, 1, (.c (.int .i64 (.lit 1)))), (1, 1, (.c (.int .i64 (.lit 60))))]⟩,
 ⟨some 14, false, none, iCall (.c (.func (.func 95) [] [])) [(.t 12), (.t 13)]⟩,
 ⟨some 15, false, none, iNot (.t 14)⟩,
 ⟨some 16, false, none, iMov (.t 15)⟩,
 ⟨some 17, false, some (16, false), iFaddr 3 (.t 4)⟩,
 ⟨some 18, false, some (16, false), iLoad (.t 17)⟩,
 ⟨some 19, false, some (16, false), iBuild [(.int .i64 (.lit 0)), (.int .i64 (.lit 0))] [(0, 1, (.c (.int .i64 (.lit 0)))), (1, 1, (.c (.int .i64 (.lit 5))))]⟩,
 ⟨some 20, false, some (16, false), iCall (.c (.func (.func 49) [] [])) [(.t 18), (.t 19)]⟩,
 ⟨some 21, false, some (16, false), iNot (.t 20)⟩,
 ⟨some 22, true, none, iPick (.t 16) (.c (.bool (.lit true))) (.t 21)⟩])
 (cCond (.t 22) (cSeq (cOps [⟨some 2, true, none, iMov (.c (.bool (.lit false)))⟩])
 cRet) cSkip))))
 (cOps [⟨some 23, false, none, iArith .add (.t 7) (.c (.int .i64 (.lit 1)))⟩,
 ⟨some 7, true, none, iMov (.t 23)⟩])))))))
 (cSeq (cOps [⟨some 2, true, none, iMov (.c (.bool (.lit true)))⟩])
 cRet))), [.t 2]⟩
noncomputable def Tryd.kp81 : List Nat := [0, 1]
noncomputable def Tryd.cf81 : CF := ⟨0, (cSeq (cOps [⟨some 0, true, none, iAlloc 118 [.nilFunc, .nilFunc]⟩,
 ⟨some 1, true, none, iAlloc 118 [.nilFunc, .nilFunc]⟩])
 (cSeq (cOps [⟨some 2, false, none, iBuild [.nilFunc, .nilFunc] [(0, 1, (.c (.func (.func 96) [] []))), (1, 1, (.c (.func (.func 97) [] [])))]⟩,
 ⟨some 3, false, none, iBuild [.nilFunc, .nilFunc] [(0, 1, (.c (.func (.func 97) [] []))), (1, 1, (.c (.func (.func 96) [] [])))]⟩,
 ⟨none, false, none, iStore 2 (.t 0) (.t 2)⟩,
 ⟨none, false, none, iStore 2 (.t 1) (.t 3)⟩])
 cRet)), [.cell 0 true 2, .cell 1 true 2]⟩
noncomputable def Tryd.kp82 : List Nat := [0, 1, 2, 3, 4, 5, 6]
noncomputable def Tryd.cf82 : CF := ⟨3, (cSeq (cOps [⟨some 3, true, none, iBox 78 (.t 0)⟩,
 ⟨some 4, true, none, iBox 28 (.t 1)⟩,
 ⟨some 5, true, none, iBox 118 (.t 2)⟩,
 ⟨some 6, true, none, iMov (.c .nilFunc)⟩])
 (cSeq (cOps [⟨some 7, false, none, iFunc (.func 98) [] [(.t 3), (.t 5), (.t 4)]⟩,
 ⟨some 6, true, none, iMov (.t 7)⟩])
 cRet)), [.t 6]⟩
noncomputable def Tryd.kp83 : List Nat := [0, 1, 2]
noncomputable def Tryd.cf83 : CF := ⟨1, (cSeq (cOps [⟨some 1, true, none, iBox 128 (.t 0)⟩,
 ⟨some 2, true, none, iMov (.c (.bool (.lit false)))⟩])
 (cSeq (cOps [⟨some 3, false, none, iFaddr 5 (.t 1)⟩,
 ⟨some 4, false, none, iLoadN 2 (.t 3)⟩,
 ⟨some 5, false, none, iBuild [(.int .i64 (.lit 0)), (.int .i64 (.lit 0))] []⟩,
 ⟨some 6, false, none, iEq true true 2 [(0, .int), (1, .int)] (.t 4) (.t 5)⟩,
 ⟨some 2, true, none, iMov (.t 6)⟩])
 cRet)), [.t 2]⟩
noncomputable def Tryd.kp85 : List Nat := [0, 1, 2, 3, 4, 5, 7]
noncomputable def Tryd.cf85 : CF := ⟨2, (cSeq (cOps [⟨some 2, true, none, iBox 78 (.t 0)⟩,
 ⟨some 3, true, none, iBox 128 (.t 1)⟩,
 ⟨some 4, true, none, iMov (.c (.bool (.lit false)))⟩])
 (cSeq (cSeq (cOps [⟨some 6, false, none, iLoadN 7 (.t 3)⟩,
 ⟨some 7, true, none, iCall (.c (.func (.func 83) [] [])) [(.t 6)]⟩])
 (cCond (.t 7) (cSeq (cOps [⟨some 4, true, none, iMov (.c (.bool (.lit true)))⟩])
 cRet) cSkip))
 (cSeq (cOps [⟨some 8, false, none, iFaddr 0 (.t 2)⟩,
 ⟨some 9, false, none, iFaddr 22 (.t 8)⟩,
 ⟨some 10, false, none, iLoad (.t 9)⟩,
 ⟨some 11, false, none, iFaddr 2 (.t 3)⟩,
 ⟨some 12, false, none, iFaddr 0 (.t 11)⟩,
 ⟨some 13, false, none, iLoad (.t 12)⟩,
 ⟨some 14, false, none, iArith .sub (.t 13) (.c (.int .i64 (.lit 1)))⟩,
 ⟨some 15, false, none, iIaddr 4 (.t 10) (.t 14)⟩,
 ⟨some 16, false, none, iLoadN 4 (.t 15)⟩,
 ⟨some 5, true, none, iAlloc 66 [(.int .i64 (.lit 0)), (.int .i64 (.lit 0)), (.bool (.lit false)), (.int .i64 (.lit 0))]⟩,
 ⟨none, false, none, iStore 4 (.t 5) (.t 16)⟩])
 (cSeq (dOps 0 [⟨⟨some 17, false, none, iFaddr 2 (.t 5)⟩, [5], false, 0, 0, none, []⟩,
 ⟨⟨some 18, false, none, iLoad (.t 17)⟩, [17], false, 0, 0, none, []⟩,
 ⟨⟨some 19, false, none, iMov (.t 18)⟩, [18], false, 0, 0, none, []⟩,
 ⟨⟨some 20, false, some (19, true), iLoadN 39 (.t 2)⟩, [19, 2], false, 0, 0, none, []⟩,
 ⟨⟨some 21, false, some (19, true), iFaddr 2 (.t 3)⟩, [19, 3], false, 0, 0, none, []⟩,
 ⟨⟨some 22, false, some (19, true), iFaddr 1 (.t 21)⟩, [19, 21], false, 0, 0, none, []⟩,
 ⟨⟨some 23, false, some (19, true), iIaddrA 1 2 (.t 22) (.c (.int .i64 (.lit 1)))⟩, [19, 22], false, 0, 0, none, []⟩,
 ⟨⟨some 24, false, some (19, true), iLoad (.t 23)⟩, [19, 23], false, 0, 0, none, []⟩,
 ⟨⟨some 25, false, some (19, true), iCall (.c (.func (.func 50) [] [])) [(.t 20), (.t 24)]⟩, [19, 20, 24], true, 0, 0, none, []⟩,
 ⟨⟨some 26, false, some (19, true), iField false 0 1 (.t 25)⟩, [19, 25], false, 1, 1, none, []⟩,
 ⟨⟨some 27, false, some (19, true), iFaddr 0 (.t 2)⟩, [19, 2], false, 0, 1, none, []⟩,
 ⟨⟨some 28, false, some (19, true), iFaddr 21 (.t 27)⟩, [19, 27], false, 0, 1, none, []⟩,
 ⟨⟨some 29, false, some (19, true), iLoad (.t 28)⟩, [19, 28], false, 0, 1, none, []⟩,
 ⟨⟨some 30, false, some (19, true), iCmp .lss (.t 26) (.t 29)⟩, [19, 26, 29], false, 1, 1, none, []⟩,
 ⟨⟨some 31, false, none, iPick (.t 19) (.t 30) (.c (.bool (.lit false)))⟩, [19, 30], false, 1, 1, none, []⟩,
 ⟨⟨some 4, true, none, iMov (.t 31)⟩, [31], false, 1, 1, none, []⟩])
 cRet)))), [.t 4]⟩
noncomputable def Tryd.kp86 : List Nat := [0, 1, 2, 3, 5, 6]
noncomputable def Tryd.cf86 : CF := ⟨1, (cSeq (cOps [⟨some 1, true, none, iBox 78 (.t 0)⟩,
 ⟨some 2, true, none, iMov (.c .nilmap)⟩])
 (cSeq (cOps [⟨some 8, false, none, iCall (.c (.func (.func 81) [] [])) []⟩,
 ⟨some 7, false, none, iMov (.t 8)⟩,
 ⟨some 9, false, none, iExtract 0 (.t 7)⟩,
 ⟨some 10, false, none, iExtract 1 (.t 7)⟩,
 ⟨some 3, true, none, iAlloc 118 [.nilFunc, .nilFunc]⟩,
 ⟨some 4, false, none, iAlloc 118 [.nilFunc, .nilFunc]⟩,
 ⟨none, false, none, iStore 2 (.t 3) (.t 9)⟩,
 ⟨none, false, none, iStore 2 (.t 4) (.t 10)⟩])
 (cSeq (cOps [⟨some 11, false, none, iMkmap⟩,
 ⟨some 5, true, none, iAlloc 131 [.nilmap]⟩,
 ⟨none, false, none, iStore 1 (.t 5) (.t 11)⟩])
 (cSeq (cOps [⟨some 6, true, none, iAlloc 146 [.nilFunc]⟩])
 (cSeq (cOps [⟨some 12, false, none, iFunc (.func 100) [] [(.t 5), (.t 1), (.t 3), (.t 6)]⟩,
 ⟨none, false, none, iStore 1 (.t 6) (.t 12)⟩])
 (cSeq (dOps 0 [⟨⟨some 13, false, none, iLoad (.t 6)⟩, [6], false, 0, 1, none, []⟩,
 ⟨⟨some 14, false, none, iLoadN 39 (.t 1)⟩, [1], false, 0, 0, none, []⟩,
 ⟨⟨some 15, false, none, iLoadN 2 (.t 3)⟩, [3], false, 0, 0, none, []⟩,
 ⟨⟨some 16, false, none, iCall (.c (.func (.func 87) [] [])) [(.t 14), (.t 15)]⟩, [14, 15], true, 0, 0, none, []⟩,
 ⟨⟨some 17, false, none, iCall (.t 13) [(.t 16)]⟩, [13, 16], true, 1, 0, none, []⟩])
 (cSeq (cOps [⟨some 18, false, none, iLoad (.t 5)⟩,
 ⟨some 2, true, none, iMov (.t 18)⟩])
 cRet))))))), [.t 2]⟩
noncomputable def Tryd.kp87 : List Nat := [0, 1, 2, 3, 4, 5, 6, 7, 9, 10, 11]
noncomputable def Tryd.cf87 : CF := ⟨2, (cSeq (cOps [⟨some 2, true, none, iBox 78 (.t 0)⟩,
 ⟨some 3, true, none, iBox 118 (.t 1)⟩,
 ⟨some 4, true, none, iAlloc 126 [(.int .i64 (.lit 0)), (.int .i64 (.lit 0)), (.int .i64 (.lit 0))]⟩])
 (cSeq (cOps [⟨some 5, true, none, iAlloc 126 [(.int .i64 (.lit 0)), (.int .i64 (.lit 0)), (.int .i64 (.lit 0))]⟩])
 (cSeq (cSeq (cOps [⟨some 8, false, none, iFaddr 23 (.t 2)⟩,
 ⟨some 9, true, none, iLoadN 16 (.t 8)⟩,
 ⟨some 10, true, none, iMov (.c (.int .i64 (.lit 0)))⟩])
 (cBlock 0 (cLoop (cSeq (cOps [⟨some 11, true, none, iCmp .lss (.t 10) (.c (.int .i64 (.lit 2)))⟩])
 (cSeq (cCond (.t 11) cSkip (cExit 0))
 (cSeq (cBlock 1 (cSeq (cOps [⟨some 12, false, none, iMov (.t 10)⟩,
 ⟨some 13, false, none, iIndex true 8 2 (.t 9) (.t 10)⟩,
 ⟨some 7, true, none, iAlloc 75 [(.int .i64 (.lit 0)), (.int .i64 (.lit 0)), (.int .i64 (.lit 0)), (.int .i64 (.lit 0)), (.int .i64 (.lit 0)), (.int .i64 (.lit 0)), (.int .i64 (.lit 0)), (.int .i64 (.lit 0))]⟩,
 ⟨some 6, true, none, iMov (.t 12)⟩,
 ⟨none, false, none, iStore 8 (.t 7) (.t 13)⟩])
 (cOps [⟨some 14, false, none, iMov (.t 6)⟩,
 ⟨some 15, false, none, iFaddr 0 (.t 3)⟩,
 ⟨some 16, false, none, iLoad (.t 15)⟩,
 ⟨some 17, false, none, iFaddr 0 (.t 7)⟩,
 ⟨some 18, false, none, iLoadN 2 (.t 17)⟩,
 ⟨some 19, false, none, iCall (.t 16) [(.t 18)]⟩,
 ⟨some 20, false, none, iFaddr 1 (.t 5)⟩,
 ⟨some 21, false, none, iIaddrA 1 2 (.t 20) (.t 14)⟩,
 ⟨none, false, none, iStore 1 (.t 21) (.t 19)⟩])))
 (cOps [⟨some 22, false, none, iArith .add (.t 10) (.c (.int .i64 (.lit 1)))⟩,
 ⟨some 10, true, none, iMov (.t 22)⟩])))))))
 (cSeq (cOps [⟨some 23, false, none, iLoadN 3 (.t 5)⟩,
 ⟨none, false, none, iStore 3 (.t 4) (.t 23)⟩])
 cRet)))), [.cell 4 true 3]⟩
noncomputable def Tryd.kp89 : List Nat := [0, 1, 3]
noncomputable def Tryd.cf89 : CF := ⟨2, (cSeq (cOps [⟨some 3, true, none, iMov (.c (.bool (.lit false)))⟩])
 (cSeq (cOps [⟨some 4, false, none, iLoad (.t 1)⟩,
 ⟨some 5, false, none, iMov (.t 0)⟩,
 ⟨some 6, false, none, iCall (.t 4) [(.t 5)]⟩,
 ⟨some 7, false, none, iNot (.t 6)⟩,
 ⟨some 3, true, none, iMov (.t 7)⟩])
 cRet)), [.t 3]⟩
noncomputable def Tryd.kp90 : List Nat := [0, 1, 2, 3]
noncomputable def Tryd.cf90 : CF := ⟨1, (cSeq (cOps [⟨some 1, true, none, iBox 78 (.t 0)⟩,
 ⟨some 2, true, none, iMov (.c (.bool (.lit false)))⟩])
 (cSeq (cOps [⟨some 6, false, none, iCall (.c (.func (.func 81) [] [])) []⟩,
 ⟨some 5, false, none, iMov (.t 6)⟩,
 ⟨some 7, false, none, iExtract 0 (.t 5)⟩,
 ⟨some 8, false, none, iExtract 1 (.t 5)⟩,
 ⟨some 3, true, none, iAlloc 118 [.nilFunc, .nilFunc]⟩,
 ⟨some 4, false, none, iAlloc 118 [.nilFunc, .nilFunc]⟩,
 ⟨none, false, none, iStore 2 (.t 3) (.t 7)⟩,
 ⟨none, false, none, iStore 2 (.t 4) (.t 8)⟩])
 (cSeq (dOps 0 [⟨⟨some 9, false, none, iLoadN 39 (.t 1)⟩, [1], false, 0, 0, none, []⟩,
 ⟨⟨some 10, false, none, iCall (.c (.func (.func 86) [] [])) [(.t 9)]⟩, [9], true, 0, 0, none, []⟩,
 ⟨⟨some 11, false, none, iLoadN 39 (.t 1)⟩, [1], false, 0, 1, none, []⟩,
 ⟨⟨some 12, false, none, iLoadN 2 (.t 3)⟩, [3], false, 0, 1, none, []⟩,
 ⟨⟨some 13, false, none, iCall (.c (.func (.func 87) [] [])) [(.t 11), (.t 12)]⟩, [11, 12], true, 1, 0, none, []⟩,
 ⟨⟨some 14, false, none, iLookup (.agg [(.bool (.lit false)), (.int .i64 (.lit 0)), (.int .i64 (.lit 0)), (.int .i64 (.lit 0)), (.int .i64 (.lit 0)), (.int .i64 (.lit 0)), (.int .i64 (.lit 0)), (.int .i64 (.lit 0)), (.int .i64 (.lit 0))]) true 3 [(0, .int), (1, .int), (2, .int)] false (.t 10) (.t 13)⟩, [10, 13], false, 2, 2, none, []⟩,
 ⟨⟨some 15, false, none, iField false 0 1 (.t 14)⟩, [14], false, 2, 2, none, []⟩,
 ⟨⟨some 2, true, none, iMov (.t 15)⟩, [15], false, 2, 2, none, []⟩])
 cRet))), [.t 2]⟩
noncomputable def Tryd.kp91 : List Nat := [0, 2, 4]
noncomputable def Tryd.cf91 : CF := ⟨1, (cSeq (cOps [⟨some 2, true, none, iMov (.c .nilslice)⟩])
 (cSeq (cSeq (cOps [⟨some 3, false, none, iMov (.t 0)⟩,
 ⟨some 4, true, none, iEq false false 1 [(0, .nilS)] (.t 3) (.c .nilslice)⟩])
 (cCond (.t 4) (cSeq (cOps [⟨some 2, true, none, iMov (.c .nilslice)⟩])
 cRet) cSkip))
 (cSeq (cOps [⟨some 5, false, none, iBslice 66 [(.int .i64 (.lit 0)), (.int .i64 (.lit 0)), (.bool (.lit false)), (.int .i64 (.lit 0))] 0 []⟩,
 ⟨some 6, false, none, iMov (.t 0)⟩,
 ⟨some 7, false, none, iAppend 66 4 32 (.t 5) (.t 6)⟩,
 ⟨some 2, true, none, iMov (.t 7)⟩])
 cRet))), [.t 2]⟩
noncomputable def Tryd.kp93 : List Nat := [0, 1, 2]
noncomputable def Tryd.cf93 : CF := ⟨1, (cSeq (cOps [⟨some 1, true, none, iBox 78 (.t 0)⟩,
 ⟨some 2, true, none, iAlloc 75 [(.int .i64 (.lit 0)), (.int .i64 (.lit 0)), (.int .i64 (.lit 0)), (.int .i64 (.lit 0)), (.int .i64 (.lit 0)), (.int .i64 (.lit 0)), (.int .i64 (.lit 0)), (.int .i64 (.lit 0))]⟩])
 (cSeq (cOps [⟨some 3, false, none, iFaddr 0 (.t 1)⟩,
 ⟨some 4, false, none, iFaddr 0 (.t 3)⟩,
 ⟨some 5, false, none, iLoadN 2 (.t 4)⟩,
 ⟨some 6, false, none, iFaddr 0 (.t 1)⟩,
 ⟨some 7, false, none, iFaddr 4 (.t 6)⟩,
 ⟨some 8, false, none, iLoad (.t 7)⟩,
 ⟨some 9, false, none, iFaddr 0 (.t 1)⟩,
 ⟨some 10, false, none, iFaddr 6 (.t 9)⟩,
 ⟨some 11, false, none, iLoad (.t 10)⟩,
 ⟨some 12, false, none, iFaddr 0 (.t 1)⟩,
 ⟨some 13, false, none, iFaddr 8 (.t 12)⟩,
 ⟨some 14, false, none, iLoadN 4 (.t 13)⟩,
 ⟨some 15, false, none, iBuild [(.int .i64 (.lit 0)), (.int .i64 (.lit 0)), (.int .i64 (.lit 0)), (.int .i64 (.lit 0)), (.int .i64 (.lit 0)), (.int .i64 (.lit 0)), (.int .i64 (.lit 0)), (.int .i64 (.lit 0))] [(0, 2, (.t 5)), (2, 1, (.t 8)), (3, 1, (.t 11)), (4, 4, (.t 14))]⟩,
 ⟨none, false, none, iStore 8 (.t 2) (.t 15)⟩])
 cRet)), [.cell 2 true 8]⟩
noncomputable def Tryd.kp94 : List Nat := [0, 1, 2]
noncomputable def Tryd.cf94 : CF := ⟨1, (cSeq (cOps [⟨some 1, true, none, iBox 78 (.t 0)⟩,
 ⟨some 2, true, none, iAlloc 75 [(.int .i64 (.lit 0)), (.int .i64 (.lit 0)), (.int .i64 (.lit 0)), (.int .i64 (.lit 0)), (.int .i64 (.lit 0)), (.int .i64 (.lit 0)), (.int .i64 (.lit 0)), (.int .i64 (.lit 0))]⟩])
 (cSeq (cOps [⟨some 3, false, none, iFaddr 0 (.t 1)⟩,
 ⟨some 4, false, none, iFaddr 2 (.t 3)⟩,
 ⟨some 5, false, none, iLoadN 2 (.t 4)⟩,
 ⟨some 6, false, none, iFaddr 0 (.t 1)⟩,
 ⟨some 7, false, none, iFaddr 5 (.t 6)⟩,
 ⟨some 8, false, none, iLoad (.t 7)⟩,
 ⟨some 9, false, none, iFaddr 0 (.t 1)⟩,
 ⟨some 10, false, none, iFaddr 7 (.t 9)⟩,
 ⟨some 11, false, none, iLoad (.t 10)⟩,
 ⟨some 12, false, none, iFaddr 0 (.t 1)⟩,
 ⟨some 13, false, none, iFaddr 12 (.t 12)⟩,
 ⟨some 14, false, none, iLoadN 4 (.t 13)⟩,
 ⟨some 15, false, none, iBuild [(.int .i64 (.lit 0)), (.int .i64 (.lit 0)), (.int .i64 (.lit 0)), (.int .i64 (.lit 0)), (.int .i64 (.lit 0)), (.int .i64 (.lit 0)), (.int .i64 (.lit 0)), (.int .i64 (.lit 0))] [(0, 2, (.t 5)), (2, 1, (.t 8)), (3, 1, (.t 11)), (4, 4, (.t 14))]⟩,
 ⟨none, false, none, iStore 8 (.t 2) (.t 15)⟩])
 cRet)), [.cell 2 true 8]⟩
noncomputable def Tryd.kp95 : List Nat := [0, 1, 2, 3, 4]
noncomputable def Tryd.cf95 : CF := ⟨2, (cSeq (cOps [⟨some 2, true, none, iBox 23 (.t 0)⟩,
 ⟨some 3, true, none, iBox 23 (.t 1)⟩,
 ⟨some 4, true, none, iMov (.c (.bool (.lit false)))⟩])
 (cSeq (cOps [⟨some 5, false, none, iFaddr 0 (.t 3)⟩,
 ⟨some 6, false, none, iLoad (.t 5)⟩,
 ⟨some 7, false, none, iFaddr 0 (.t 2)⟩,
 ⟨some 8, false, none, iLoad (.t 7)⟩,
 ⟨some 9, false, none, iCmp .leq (.t 6) (.t 8)⟩,
 ⟨some 10, false, none, iMov (.t 9)⟩,
 ⟨some 11, false, some (10, true), iFaddr 0 (.t 2)⟩,
 ⟨some 12, false, some (10, true), iLoad (.t 11)⟩,
 ⟨some 13, false, some (10, true), iFaddr 1 (.t 2)⟩,
 ⟨some 14, false, some (10, true), iLoad (.t 13)⟩,
 ⟨some 15, false, some (10, true), iCmp .leq (.t 12) (.t 14)⟩,
 ⟨some 16, false, none, iPick (.t 10) (.t 15) (.c (.bool (.lit false)))⟩,
 ⟨some 17, false, none, iMov (.t 16)⟩,
 ⟨some 18, false, some (17, true), iFaddr 1 (.t 2)⟩,
 ⟨some 19, false, some (17, true), iLoad (.t 18)⟩,
 ⟨some 20, false, some (17, true), iFaddr 1 (.t 3)⟩,
 ⟨some 21, false, some (17, true), iLoad (.t 20)⟩,
 ⟨some 22, false, some (17, true), iCmp .leq (.t 19) (.t 21)⟩,
 ⟨some 23, false, none, iPick (.t 17) (.t 22) (.c (.bool (.lit false)))⟩,
 ⟨some 4, true, none, iMov (.t 23)⟩])
 cRet)), [.t 4]⟩
noncomputable def Tryd.kp96 : List Nat := [0, 1, 2]
noncomputable def Tryd.cf96 : CF := ⟨1, (cSeq (cOps [⟨some 1, true, none, iBox 144 (.t 0)⟩,
 ⟨some 2, true, none, iMov (.c (.int .i64 (.lit 0)))⟩])
 (cSeq (cOps [⟨some 3, false, none, iFaddr 0 (.t 1)⟩,
 ⟨some 4, false, none, iLoad (.t 3)⟩,
 ⟨some 2, true, none, iMov (.t 4)⟩])
 cRet)), [.t 2]⟩
noncomputable def Tryd.kp97 : List Nat := [0, 1, 2]
noncomputable def Tryd.cf97 : CF := ⟨1, (cSeq (cOps [⟨some 1, true, none, iBox 144 (.t 0)⟩,
 ⟨some 2, true, none, iMov (.c (.int .i64 (.lit 0)))⟩])
 (cSeq (cOps [⟨some 3, false, none, iFaddr 1 (.t 1)⟩,
 ⟨some 4, false, none, iLoad (.t 3)⟩,
 ⟨some 2, true, none, iMov (.t 4)⟩])
 cRet)), [.t 2]⟩
noncomputable def Tryd.kp98 : List Nat := [0, 1, 2, 3, 5, 7, 8, 12, 13, 14, 15, 26]
noncomputable def Tryd.cf98 : CF := ⟨4, (cSeq (cOps [⟨some 9, false, none, iLoadN 39 (.t 1)⟩,
 ⟨some 10, false, none, iLoadN 2 (.t 2)⟩,
 ⟨some 11, false, none, iCall (.c (.func (.func 87) [] [])) [(.t 9), (.t 10)]⟩,
 ⟨some 5, true, none, iAlloc 126 [(.int .i64 (.lit 0)), (.int .i64 (.lit 0)), (.int .i64 (.lit 0))]⟩,
 ⟨none, false, none, iStore 3 (.t 5) (.t 11)⟩])
 (cSeq (cOps [⟨some 12, true, none, iLoad (.t 3)⟩,
 ⟨some 13, true, none, iLenS (.t 12)⟩,
 ⟨some 14, true, none, iMov (.c (.int .i64 (.lit 0)))⟩])
 (cBlock 0 (cLoop (cSeq (cOps [⟨some 15, true, none, iCmp .lss (.t 14) (.t 13)⟩])
 (cSeq (cCond (.t 15) cSkip (cExit 0))
 (cSeq (cBlock 1 (cSeq (cOps [⟨some 16, false, none, iIaddr 2 (.t 12) (.t 14)⟩,
 ⟨some 17, false, none, iLoadN 2 (.t 16)⟩,
 ⟨some 7, true, none, iAlloc 64 [(.int .i64 (.lit 0)), (.int .i64 (.lit 0))]⟩,
 ⟨none, false, none, iStore 2 (.t 7) (.t 17)⟩])
 (cSeq (cOps [⟨some 18, false, none, iLoadN 39 (.t 1)⟩,
 ⟨some 19, false, none, iLoadN 3 (.t 5)⟩,
 ⟨some 20, false, none, iLoadN 2 (.t 7)⟩,
 ⟨some 21, false, none, iLoadN 2 (.t 2)⟩,
 ⟨some 22, false, none, iCall (.c (.func (.func 99) [] [])) [(.t 18), (.t 19), (.t 20), (.t 21)]⟩,
 ⟨some 8, true, none, iAlloc 128 [(.int .i64 (.lit 0)), (.int .i64 (.lit 0)), (.int .i64 (.lit 0)), (.int .i64 (.lit 0)), (.int .i64 (.lit 0)), (.int .i64 (.lit 0)), (.int .i64 (.lit 0))]⟩,
 ⟨none, false, none, iStore 7 (.t 8) (.t 22)⟩])
 (cSeq (cSeq (cOps [⟨some 23, false, none, iMov (.t 0)⟩,
 ⟨some 24, false, none, iLoadN 7 (.t 8)⟩,
 ⟨some 25, false, none, iCall (.t 23) [(.t 24)]⟩,
 ⟨some 26, true, none, iNot (.t 25)⟩])
 (cCond (.t 26) cRet cSkip))
 (cOps [⟨some 27, false, none, iFaddr 2 (.t 8)⟩,
 ⟨some 28, false, none, iLoadN 3 (.t 27)⟩,
 ⟨none, false, none, iStore 3 (.t 5) (.t 28)⟩])))))
 (cOps [⟨some 29, false, none, iArith .add (.t 14) (.c (.int .i64 (.lit 1)))⟩,
 ⟨some 14, true, none, iMov (.t 29)⟩])))))))), []⟩
noncomputable def Tryd.kp99 : List Nat := [0, 1, 2, 3, 4, 5, 6, 7, 8, 9, 10, 11, 12, 13, 14, 15, 16, 34, 35, 36]
noncomputable def Tryd.cf99 : CF := ⟨4, (cSeq (cOps [⟨some 4, true, none, iBox 78 (.t 0)⟩,
 ⟨some 5, true, none, iBox 126 (.t 1)⟩,
 ⟨some 6, true, none, iBox 64 (.t 2)⟩,
 ⟨some 7, true, none, iBox 118 (.t 3)⟩,
 ⟨some 8, true, none, iAlloc 128 [(.int .i64 (.lit 0)), (.int .i64 (.lit 0)), (.int .i64 (.lit 0)), (.int .i64 (.lit 0)), (.int .i64 (.lit 0)), (.int .i64 (.lit 0)), (.int .i64 (.lit 0))]⟩])
 (cSeq (cOps [⟨some 17, false, none, iLoadN 2 (.t 6)⟩,
 ⟨some 18, false, none, iFaddr 0 (.t 5)⟩,
 ⟨some 19, false, none, iLoad (.t 18)⟩,
 ⟨some 20, false, none, iArith .add (.t 19) (.c (.int .i64 (.lit 1)))⟩,
 ⟨some 21, false, none, iBuild [(.int .i64 (.lit 0)), (.int .i64 (.lit 0)), (.int .i64 (.lit 0))] [(0, 1, (.t 20))]⟩,
 ⟨some 22, false, none, iBuild [(.int .i64 (.lit 0)), (.int .i64 (.lit 0)), (.int .i64 (.lit 0)), (.int .i64 (.lit 0)), (.int .i64 (.lit 0)), (.int .i64 (.lit 0)), (.int .i64 (.lit 0))] [(0, 2, (.t 17)), (2, 3, (.t 21))]⟩,
 ⟨some 9, true, none, iAlloc 128 [(.int .i64 (.lit 0)), (.int .i64 (.lit 0)), (.int .i64 (.lit 0)), (.int .i64 (.lit 0)), (.int .i64 (.lit 0)), (.int .i64 (.lit 0)), (.int .i64 (.lit 0))]⟩,
 ⟨none, false, none, iStore 7 (.t 9) (.t 22)⟩])
 (cSeq (cOps [⟨some 23, false, none, iFaddr 0 (.t 4)⟩,
 ⟨some 24, false, none, iFaddr 22 (.t 23)⟩,
 ⟨some 25, false, none, iLoad (.t 24)⟩,
 ⟨some 26, false, none, iFaddr 0 (.t 5)⟩,
 ⟨some 27, false, none, iLoad (.t 26)⟩,
 ⟨some 28, false, none, iIaddr 4 (.t 25) (.t 27)⟩,
 ⟨some 29, false, none, iLoadN 4 (.t 28)⟩,
 ⟨some 10, true, none, iAlloc 66 [(.int .i64 (.lit 0)), (.int .i64 (.lit 0)), (.bool (.lit false)), (.int .i64 (.lit 0))]⟩,
 ⟨none, false, none, iStore 4 (.t 10) (.t 29)⟩])
 (cSeq (cSeq (cOps [⟨some 30, false, none, iFaddr 0 (.t 6)⟩,
 ⟨some 31, false, none, iLoad (.t 30)⟩,
 ⟨some 32, false, none, iFaddr 1 (.t 6)⟩,
 ⟨some 33, false, none, iLoad (.t 32)⟩,
 ⟨some 34, true, none, iBuild [(.int .i64 (.lit 0)), (.int .i64 (.lit 0))] [(0, 1, (.t 31)), (1, 1, (.t 33))]⟩,
 ⟨some 35, true, none, iMov (.c (.int .i64 (.lit 0)))⟩])
 (cBlock 0 (cLoop (cSeq (cOps [⟨some 36, true, none, iCmp .lss (.t 35) (.c (.int .i64 (.lit 2)))⟩])
 (cSeq (cCond (.t 36) cSkip (cExit 0))
 (cSeq (cBlock 1 (cSeq (cOps [⟨some 37, false, none, iMov (.t 35)⟩,
 ⟨some 38, false, none, iIndex false 1 2 (.t 34) (.t 35)⟩,
 ⟨some 11, true, none, iMov (.t 37)⟩,
 ⟨some 12, true, none, iMov (.t 38)⟩])
 (cSeq (cOps [⟨some 39, false, none, iMov (.t 11)⟩,
 ⟨some 40, false, none, iFaddr 23 (.t 4)⟩,
 ⟨some 41, false, none, iIaddrA 8 2 (.t 40) (.t 39)⟩,
 ⟨some 42, false, none, iLoadN 8 (.t 41)⟩,
 ⟨some 13, true, none, iAlloc 75 [(.int .i64 (.lit 0)), (.int .i64 (.lit 0)), (.int .i64 (.lit 0)), (.int .i64 (.lit 0)), (.int .i64 (.lit 0)), (.int .i64 (.lit 0)), (.int .i64 (.lit 0)), (.int .i64 (.lit 0))]⟩,
 ⟨none, false, none, iStore 8 (.t 13) (.t 42)⟩])
 (cSeq (dOps 0 [⟨⟨some 43, false, none, iFaddr 2 (.t 13)⟩, [13], false, 0, 1, none, []⟩,
 ⟨⟨some 44, false, none, iLoad (.t 43)⟩, [43], false, 0, 1, none, []⟩,
 ⟨⟨some 45, false, none, iMov (.t 11)⟩, [11], false, 0, 0, none, []⟩,
 ⟨⟨some 46, false, none, iFaddr 1 (.t 5)⟩, [5], false, 0, 0, none, []⟩,
 ⟨⟨some 47, false, none, iIaddrA 1 2 (.t 46) (.t 45)⟩, [46, 45], false, 0, 0, none, []⟩,
 ⟨⟨some 48, false, none, iLoad (.t 47)⟩, [47], false, 0, 0, none, []⟩,
 ⟨⟨some 49, false, none, iMov (.t 12)⟩, [12], false, 0, 0, none, []⟩,
 ⟨⟨some 50, false, none, iFaddr 3 (.t 13)⟩, [13], false, 0, 0, none, []⟩,
 ⟨⟨some 51, false, none, iLoad (.t 50)⟩, [50], false, 0, 0, none, []⟩,
 ⟨⟨some 52, false, none, iArith .mul (.t 49) (.t 51)⟩, [49, 51], false, 0, 0, none, []⟩,
 ⟨⟨some 53, false, none, iArith .add (.t 48) (.t 52)⟩, [48, 52], false, 0, 0, none, []⟩,
 ⟨⟨some 54, false, none, iBslice 3 [(.int .i64 (.lit 0))] 1 [(0, 1, (.t 53))]⟩, [53], true, 0, 0, none, []⟩,
 ⟨⟨some 55, false, none, iCall (.c (.func (.func 103) [] [])) [(.t 44), (.t 54)]⟩, [44, 54], true, 1, 0, none, []⟩,
 ⟨⟨some 14, true, none, iMov (.t 55)⟩, [55], false, 2, 2, none, []⟩])
 (cSeq (dOps 0 [⟨⟨some 56, false, none, iFaddr 1 (.t 7)⟩, [7], false, 0, 0, none, []⟩,
 ⟨⟨some 57, false, none, iLoad (.t 56)⟩, [56], false, 0, 0, none, []⟩,
 ⟨⟨some 58, false, none, iFaddr 0 (.t 10)⟩, [10], false, 0, 0, none, []⟩,
 ⟨⟨some 59, false, none, iLoadN 2 (.t 58)⟩, [58], false, 0, 0, none, []⟩,
 ⟨⟨some 60, false, none, iCall (.t 57) [(.t 59)]⟩, [57, 59], true, 0, 0, none, []⟩,
 ⟨⟨some 61, false, none, iFaddr 1 (.t 7)⟩, [7], false, 0, 2, none, []⟩,
 ⟨⟨some 62, false, none, iLoad (.t 61)⟩, [61], false, 0, 2, none, []⟩,
 ⟨⟨some 63, false, none, iLoadN 8 (.t 13)⟩, [13], false, 0, 1, none, []⟩,
 ⟨⟨some 64, false, none, iLoadN 4 (.t 10)⟩, [10], false, 0, 1, none, []⟩,
 ⟨⟨some 65, false, none, iCall (.c (.func (.func 104) [] [])) [(.t 63), (.t 64)]⟩, [63, 64], true, 1, 0, none, []⟩,
 ⟨⟨some 66, false, none, iCall (.t 62) [(.t 65)]⟩, [62, 65], true, 2, 0, none, []⟩,
 ⟨⟨some 67, false, none, iArith .mul (.t 60) (.t 66)⟩, [60, 66], false, 3, 3, none, []⟩,
 ⟨⟨some 15, true, none, iMov (.t 67)⟩, [67], false, 3, 3, none, []⟩])
 (cSeq (cOps [⟨some 68, false, none, iMov (.t 14)⟩,
 ⟨some 69, false, none, iMov (.t 15)⟩,
 ⟨some 70, false, none, iBslice 3 [(.int .i64 (.lit 0))] 1 [(0, 1, (.t 69))]⟩,
 ⟨some 71, false, none, iCall (.c (.func (.func 103) [] [])) [(.t 68), (.t 70)]⟩,
 ⟨some 16, true, none, iMov (.t 71)⟩])
 (cOps [⟨some 72, false, none, iMov (.t 11)⟩,
 ⟨some 73, false, none, iMov (.t 11)⟩,
 ⟨some 74, false, none, iMov (.t 14)⟩,
 ⟨some 75, false, none, iMov (.t 16)⟩,
 ⟨some 76, false, none, iArith .sub (.t 74) (.t 75)⟩,
 ⟨some 77, false, none, iMov (.t 15)⟩,
 ⟨some 78, false, none, iMov (.t 16)⟩,
 ⟨some 79, false, none, iArith .sub (.t 77) (.t 78)⟩,
 ⟨some 80, false, none, iFaddr 2 (.t 9)⟩,
 ⟨some 81, false, none, iFaddr 1 (.t 80)⟩,
 ⟨some 82, false, none, iIaddrA 1 2 (.t 81) (.t 72)⟩,
 ⟨none, false, none, iStore 1 (.t 82) (.t 76)⟩,
 ⟨some 83, false, none, iFaddr 5 (.t 9)⟩,
 ⟨some 84, false, none, iIaddrA 1 2 (.t 83) (.t 73)⟩,
 ⟨none, false, none, iStore 1 (.t 84) (.t 79)⟩])))))))
 (cOps [⟨some 85, false, none, iArith .add (.t 35) (.c (.int .i64 (.lit 1)))⟩,
 ⟨some 35, true, none, iMov (.t 85)⟩])))))))
 (cSeq (cOps [⟨some 86, false, none, iLoadN 7 (.t 9)⟩,
 ⟨none, false, none, iStore 7 (.t 8) (.t 86)⟩])
 cRet))))), [.cell 8 true 7]⟩
noncomputable def Tryd.ra100040 : C := (cOps [⟨some 11, true, none, iAlloc 128 [(.int .i64 (.lit 0)), (.int .i64 (.lit 0)), (.int .i64 (.lit 0)), (.int .i64 (.lit 0)), (.int .i64 (.lit 0)), (.int .i64 (.lit 0)), (.int .i64 (.lit 0))]⟩,
 ⟨none, false, none, iStore 7 (.t 11) (.t 40)⟩])
noncomputable def Tryd.rb100040 : C := (cBlock 1 (cSeq (cSeq (cOps [⟨some 41, false, none, iLoadN 39 (.t 2)⟩,
 ⟨some 42, false, none, iLoadN 7 (.t 11)⟩,
 ⟨some 43, false, none, iCall (.c (.func (.func 85) [] [])) [(.t 41), (.t 42)]⟩,
 ⟨some 44, false, none, iMov (.t 43)⟩,
 ⟨some 45, false, some (44, false), iFaddr 2 (.t 11)⟩,
 ⟨some 46, false, some (44, false), iLoadN 3 (.t 45)⟩,
 ⟨some 47, false, some (44, false), iLoadN 3 (.t 10)⟩,
 ⟨some 48, false, some (44, false), iEq false true 3 [(0, .int), (1, .int), (2, .int)] (.t 46) (.t 47)⟩,
 ⟨some 49, true, none, iPick (.t 44) (.c (.bool (.lit true))) (.t 48)⟩])
 (cCond (.t 49) (cExit 1) cSkip))
 (cSeq (cOps [⟨some 50, false, none, iFaddr 2 (.t 11)⟩,
 ⟨some 51, false, none, iLoadN 3 (.t 50)⟩,
 ⟨none, false, none, iStore 3 (.t 10) (.t 51)⟩])
 (cSeq (cOps [⟨some 52, false, none, iLoad (.t 4)⟩,
 ⟨some 53, false, none, iFaddr 2 (.t 11)⟩,
 ⟨some 54, false, none, iLoadN 3 (.t 53)⟩,
 ⟨some 55, false, none, iCall (.t 52) [(.t 54)]⟩,
 ⟨some 12, true, none, iAlloc 135 [(.bool (.lit false)), (.int .i64 (.lit 0)), (.int .i64 (.lit 0)), (.int .i64 (.lit 0)), (.int .i64 (.lit 0)), (.int .i64 (.lit 0)), (.int .i64 (.lit 0)), (.int .i64 (.lit 0)), (.int .i64 (.lit 0))]⟩,
 ⟨none, false, none, iStore 9 (.t 12) (.t 55)⟩])
 (cSeq (cOps [⟨some 56, false, none, iFaddr 0 (.t 11)⟩,
 ⟨some 57, false, none, iFaddr 0 (.t 56)⟩,
 ⟨some 58, false, none, iLoad (.t 57)⟩,
 ⟨some 59, false, none, iFaddr 0 (.t 11)⟩,
 ⟨some 60, false, none, iFaddr 1 (.t 59)⟩,
 ⟨some 61, false, none, iLoad (.t 60)⟩,
 ⟨some 62, false, none, iArith .add (.t 58) (.t 61)⟩,
 ⟨some 63, false, none, iFaddr 1 (.t 12)⟩,
 ⟨some 64, false, none, iLoad (.t 63)⟩,
 ⟨some 65, false, none, iArith .add (.t 62) (.t 64)⟩,
 ⟨some 13, true, none, iMov (.t 65)⟩])
 (cSeq (cSeq (cOps [⟨some 66, false, none, iFaddr 0 (.t 12)⟩,
 ⟨some 67, false, none, iLoad (.t 66)⟩,
 ⟨some 68, false, none, iNot (.t 67)⟩,
 ⟨some 69, false, none, iMov (.t 68)⟩,
 ⟨some 70, false, some (69, false), iFaddr 0 (.t 9)⟩,
 ⟨some 71, false, some (69, false), iLoad (.t 70)⟩,
 ⟨some 72, false, some (69, false), iMov (.t 71)⟩,
 ⟨some 73, false, some (72, true), iFaddr 1 (.t 9)⟩,
 ⟨some 74, false, some (72, true), iLoad (.t 73)⟩,
 ⟨some 75, false, some (72, true), iMov (.t 13)⟩,
 ⟨some 76, false, some (72, true), iCmp .leq (.t 74) (.t 75)⟩,
 ⟨some 77, false, some (69, false), iPick (.t 72) (.t 76) (.c (.bool (.lit false)))⟩,
 ⟨some 78, true, none, iPick (.t 69) (.c (.bool (.lit true))) (.t 77)⟩])
 (cCond (.t 78) (cExit 1) cSkip))
 (cOps [⟨some 79, false, none, iMov (.t 13)⟩,
 ⟨some 80, false, none, iLoadN 7 (.t 11)⟩,
 ⟨some 81, false, none, iBuild [(.bool (.lit false)), (.int .i64 (.lit 0)), (.int .i64 (.lit 0)), (.int .i64 (.lit 0)), (.int .i64 (.lit 0)), (.int .i64 (.lit 0)), (.int .i64 (.lit 0)), (.int .i64 (.lit 0)), (.int .i64 (.lit 0))] [(0, 1, (.c (.bool (.lit true)))), (1, 1, (.t 79)), (2, 7, (.t 80))]⟩,
 ⟨none, false, none, iStore 9 (.t 9) (.t 81)⟩])))))))
noncomputable def Tryd.kp100 : List Nat := [0, 1, 2, 3, 4, 5, 6, 7, 8, 9, 10, 11, 12, 13, 20, 28, 39, 40, 49, 78]
noncomputable def Tryd.cf100 : CF := ⟨5, (cSeq (cOps [⟨some 5, true, none, iBox 126 (.t 0)⟩,
 ⟨some 6, true, none, iAlloc 135 [(.bool (.lit false)), (.int .i64 (.lit 0)), (.int .i64 (.lit 0)), (.int .i64 (.lit 0)), (.int .i64 (.lit 0)), (.int .i64 (.lit 0)), (.int .i64 (.lit 0)), (.int .i64 (.lit 0)), (.int .i64 (.lit 0))]⟩])
 (cSeq (cSeq (cOps [⟨some 15, false, none, iLoad (.t 1)⟩,
 ⟨some 16, false, none, iLoadN 3 (.t 5)⟩,
 ⟨some 17, false, none, iLookup (.agg [(.bool (.lit false)), (.int .i64 (.lit 0)), (.int .i64 (.lit 0)), (.int .i64 (.lit 0)), (.int .i64 (.lit 0)), (.int .i64 (.lit 0)), (.int .i64 (.lit 0)), (.int .i64 (.lit 0)), (.int .i64 (.lit 0))]) true 3 [(0, .int), (1, .int), (2, .int)] true (.t 15) (.t 16)⟩,
 ⟨some 14, false, none, iMov (.t 17)⟩,
 ⟨some 18, false, none, iExtract 0 (.t 14)⟩,
 ⟨some 19, false, none, iExtract 1 (.t 14)⟩,
 ⟨some 7, true, none, iAlloc 135 [(.bool (.lit false)), (.int .i64 (.lit 0)), (.int .i64 (.lit 0)), (.int .i64 (.lit 0)), (.int .i64 (.lit 0)), (.int .i64 (.lit 0)), (.int .i64 (.lit 0)), (.int .i64 (.lit 0)), (.int .i64 (.lit 0))]⟩,
 ⟨none, false, none, iStore 9 (.t 7) (.t 18)⟩,
 ⟨some 8, true, none, iMov (.t 19)⟩])
 (cSeq (cOps [⟨some 20, true, none, iMov (.t 8)⟩])
 (cCond (.t 20) (cSeq (cOps [⟨some 21, false, none, iLoadN 9 (.t 7)⟩,
 ⟨none, false, none, iStore 9 (.t 6) (.t 21)⟩])
 cRet) cSkip)))
 (cSeq (cSeq (cOps [⟨some 22, false, none, iFaddr 0 (.t 5)⟩,
 ⟨some 23, false, none, iLoad (.t 22)⟩,
 ⟨some 24, false, none, iFaddr 0 (.t 2)⟩,
 ⟨some 25, false, none, iFaddr 22 (.t 24)⟩,
 ⟨some 26, false, none, iLoad (.t 25)⟩,
 ⟨some 27, false, none, iLenS (.t 26)⟩,
 ⟨some 28, true, none, iCmp .eql (.t 23) (.t 27)⟩])
 (cCond (.t 28) (cSeq (cOps [⟨some 29, false, none, iLoad (.t 1)⟩,
 ⟨some 30, false, none, iLoadN 3 (.t 5)⟩,
 ⟨some 31, false, none, iBuild [(.bool (.lit false)), (.int .i64 (.lit 0)), (.int .i64 (.lit 0)), (.int .i64 (.lit 0)), (.int .i64 (.lit 0)), (.int .i64 (.lit 0)), (.int .i64 (.lit 0)), (.int .i64 (.lit 0)), (.int .i64 (.lit 0))] [(0, 1, (.c (.bool (.lit true))))]⟩,
 ⟨none, false, none, iMapset true 3 [(0, .int), (1, .int), (2, .int)] (.t 29) (.t 30) (.t 31)⟩])
 (cSeq (cOps [⟨some 32, false, none, iLoad (.t 1)⟩,
 ⟨some 33, false, none, iLoadN 3 (.t 5)⟩,
 ⟨some 34, false, none, iLookup (.agg [(.bool (.lit false)), (.int .i64 (.lit 0)), (.int .i64 (.lit 0)), (.int .i64 (.lit 0)), (.int .i64 (.lit 0)), (.int .i64 (.lit 0)), (.int .i64 (.lit 0)), (.int .i64 (.lit 0)), (.int .i64 (.lit 0))]) true 3 [(0, .int), (1, .int), (2, .int)] false (.t 32) (.t 33)⟩,
 ⟨none, false, none, iStore 9 (.t 6) (.t 34)⟩])
 cRet)) cSkip))
 (cSeq (cOps [⟨some 9, true, none, iAlloc 135 [(.bool (.lit false)), (.int .i64 (.lit 0)), (.int .i64 (.lit 0)), (.int .i64 (.lit 0)), (.int .i64 (.lit 0)), (.int .i64 (.lit 0)), (.int .i64 (.lit 0)), (.int .i64 (.lit 0)), (.int .i64 (.lit 0))]⟩])
 (cSeq (cOps [⟨some 35, false, none, iLoadN 3 (.t 5)⟩,
 ⟨some 10, true, none, iAlloc 126 [(.int .i64 (.lit 0)), (.int .i64 (.lit 0)), (.int .i64 (.lit 0))]⟩,
 ⟨none, false, none, iStore 3 (.t 10) (.t 35)⟩])
 (cSeq cSkip
 (cSeq (cSeq (cOps [⟨some 36, false, none, iLoadN 39 (.t 2)⟩,
 ⟨some 37, false, none, iLoadN 3 (.t 5)⟩,
 ⟨some 38, false, none, iLoadN 2 (.t 3)⟩,
 ⟨some 39, true, none, iCall (.c (.func (.func 101) [] [])) [(.t 36), (.t 37), (.t 38)]⟩])
 (cBlock 0 (cRange (.t 39) [40] 100040)))
 (cSeq (cOps [⟨some 82, false, none, iLoad (.t 1)⟩,
 ⟨some 83, false, none, iLoadN 3 (.t 5)⟩,
 ⟨some 84, false, none, iLoadN 9 (.t 9)⟩,
 ⟨none, false, none, iMapset true 3 [(0, .int), (1, .int), (2, .int)] (.t 82) (.t 83) (.t 84)⟩])
 (cSeq (cOps [⟨some 85, false, none, iLoadN 9 (.t 9)⟩,
 ⟨none, false, none, iStore 9 (.t 6) (.t 85)⟩])
 cRet))))))))), [.cell 6 true 9]⟩
noncomputable def Tryd.kp101 : List Nat := [0, 1, 2, 3, 4, 5, 6]
noncomputable def Tryd.cf101 : CF := ⟨3, (cSeq (cOps [⟨some 3, true, none, iBox 78 (.t 0)⟩,
 ⟨some 4, true, none, iBox 126 (.t 1)⟩,
 ⟨some 5, true, none, iBox 118 (.t 2)⟩,
 ⟨some 6, true, none, iMov (.c .nilFunc)⟩])
 (cSeq (cOps [⟨some 7, false, none, iFunc (.func 105) [] [(.t 3), (.t 4), (.t 5)]⟩,
 ⟨some 6, true, none, iMov (.t 7)⟩])
 cRet)), [.t 6]⟩
noncomputable def Tryd.kp103 : List Nat := [0, 1, 4, 6, 7, 8, 9, 10, 15]
noncomputable def Tryd.cf103 : CF := ⟨2, (cSeq (cOps [⟨some 4, true, none, iMov (.c (.int .i64 (.lit 0)))⟩])
 (cSeq (cSeq (cOps [⟨some 7, true, none, iMov (.t 1)⟩,
 ⟨some 8, true, none, iLenS (.t 7)⟩,
 ⟨some 9, true, none, iMov (.c (.int .i64 (.lit 0)))⟩])
 (cBlock 0 (cLoop (cSeq (cOps [⟨some 10, true, none, iCmp .lss (.t 9) (.t 8)⟩])
 (cSeq (cCond (.t 10) cSkip (cExit 0))
 (cSeq (cBlock 1 (cSeq (cOps [⟨some 11, false, none, iIaddr 1 (.t 7) (.t 9)⟩,
 ⟨some 12, false, none, iLoad (.t 11)⟩,
 ⟨some 6, true, none, iMov (.t 12)⟩])
 (cSeq (cOps [⟨some 13, false, none, iMov (.t 6)⟩,
 ⟨some 14, false, none, iMov (.t 0)⟩,
 ⟨some 15, true, none, iCmp .lss (.t 13) (.t 14)⟩])
 (cCond (.t 15) (cOps [⟨some 16, false, none, iMov (.t 6)⟩,
 ⟨some 0, true, none, iMov (.t 16)⟩]) cSkip))))
 (cOps [⟨some 17, false, none, iArith .add (.t 9) (.c (.int .i64 (.lit 1)))⟩,
 ⟨some 9, true, none, iMov (.t 17)⟩])))))))
 (cSeq (cOps [⟨some 18, false, none, iMov (.t 0)⟩,
 ⟨some 4, true, none, iMov (.t 18)⟩])
 cRet))), [.t 4]⟩
noncomputable def Tryd.kp104 : List Nat := [0, 1, 2, 3, 4, 6]
noncomputable def Tryd.cf104 : CF := ⟨2, (cSeq (cOps [⟨some 2, true, none, iBox 75 (.t 0)⟩,
 ⟨some 3, true, none, iBox 66 (.t 1)⟩,
 ⟨some 4, true, none, iAlloc 23 [(.int .i64 (.lit 0)), (.int .i64 (.lit 0))]⟩])
 (cSeq (cSeq (cOps [⟨some 5, false, none, iFaddr 2 (.t 3)⟩,
 ⟨some 6, true, none, iLoad (.t 5)⟩])
 (cCond (.t 6) (cSeq (cOps [⟨some 7, false, none, iFaddr 4 (.t 2)⟩,
 ⟨some 8, false, none, iIaddrA 2 2 (.t 7) (.c (.int .i64 (.lit 1)))⟩,
 ⟨some 9, false, none, iLoadN 2 (.t 8)⟩,
 ⟨none, false, none, iStore 2 (.t 4) (.t 9)⟩])
 cRet) cSkip))
 (cSeq (cOps [⟨some 10, false, none, iFaddr 4 (.t 2)⟩,
 ⟨some 11, false, none, iIaddrA 2 2 (.t 10) (.c (.int .i64 (.lit 0)))⟩,
 ⟨some 12, false, none, iLoadN 2 (.t 11)⟩,
 ⟨none, false, none, iStore 2 (.t 4) (.t 12)⟩])
 cRet))), [.cell 4 true 2]⟩
noncomputable def Tryd.kp105 : List Nat := [0, 1, 2, 3, 5, 6, 7, 17, 18, 19, 24, 25, 26, 37]
noncomputable def Tryd.cf105 : CF := ⟨4, (cSeq (cOps [⟨some 8, false, none, iFaddr 0 (.t 1)⟩,
 ⟨some 9, false, none, iFaddr 22 (.t 8)⟩,
 ⟨some 10, false, none, iLoad (.t 9)⟩,
 ⟨some 11, false, none, iFaddr 0 (.t 2)⟩,
 ⟨some 12, false, none, iLoad (.t 11)⟩,
 ⟨some 13, false, none, iIaddr 4 (.t 10) (.t 12)⟩,
 ⟨some 14, false, none, iFaddr 3 (.t 13)⟩,
 ⟨some 15, false, none, iLoad (.t 14)⟩,
 ⟨some 5, true, none, iMov (.t 15)⟩])
 (cSeq (cOps [⟨some 16, false, none, iMov (.t 5)⟩,
 ⟨some 17, true, none, iArith .add (.t 16) (.c (.int .i64 (.lit 1)))⟩,
 ⟨some 18, true, none, iMov (.c (.int .i64 (.lit 0)))⟩])
 (cBlock 0 (cLoop (cSeq (cOps [⟨some 19, true, none, iCmp .lss (.t 18) (.t 17)⟩])
 (cSeq (cCond (.t 19) cSkip (cExit 0))
 (cSeq (cBlock 1 (cSeq (cOps [⟨some 20, false, none, iMov (.t 18)⟩,
 ⟨some 6, true, none, iMov (.t 20)⟩])
 (cSeq (cOps [⟨some 21, false, none, iMov (.t 5)⟩,
 ⟨some 22, false, none, iMov (.t 6)⟩,
 ⟨some 23, false, none, iArith .sub (.t 21) (.t 22)⟩,
 ⟨some 24, true, none, iArith .add (.t 23) (.c (.int .i64 (.lit 1)))⟩,
 ⟨some 25, true, none, iMov (.c (.int .i64 (.lit 0)))⟩])
 (cBlock 2 (cLoop (cSeq (cOps [⟨some 26, true, none, iCmp .lss (.t 25) (.t 24)⟩])
 (cSeq (cCond (.t 26) cSkip (cExit 2))
 (cSeq (cBlock 3 (cSeq (cOps [⟨some 27, false, none, iMov (.t 25)⟩,
 ⟨some 7, true, none, iMov (.t 27)⟩])
 (cSeq (cOps [⟨some 28, false, none, iMov (.t 0)⟩,
 ⟨some 29, false, none, iLoadN 39 (.t 1)⟩,
 ⟨some 30, false, none, iLoadN 3 (.t 2)⟩,
 ⟨some 31, false, none, iMov (.t 6)⟩,
 ⟨some 32, false, none, iMov (.t 7)⟩,
 ⟨some 33, false, none, iBuild [(.int .i64 (.lit 0)), (.int .i64 (.lit 0))] [(0, 1, (.t 31)), (1, 1, (.t 32))]⟩,
 ⟨some 34, false, none, iLoadN 2 (.t 3)⟩,
 ⟨some 35, false, none, iCall (.c (.func (.func 99) [] [])) [(.t 29), (.t 30), (.t 33), (.t 34)]⟩,
 ⟨some 36, false, none, iCall (.t 28) [(.t 35)]⟩,
 ⟨some 37, true, none, iNot (.t 36)⟩])
 (cCond (.t 37) cRet cSkip))))
 (cOps [⟨some 38, false, none, iArith .add (.t 25) (.c (.int .i64 (.lit 1)))⟩,
 ⟨some 25, true, none, iMov (.t 38)⟩])))))))))
 (cOps [⟨some 39, false, none, iArith .add (.t 18) (.c (.int .i64 (.lit 1)))⟩,
 ⟨some 18, true, none, iMov (.t 39)⟩])))))))), []⟩
noncomputable def Tryd.ft : PT CF := (.node none (.node none (.node none (.node none (.node none (.node none (.node (some Tryd.cf63) .nil .nil) (.node (some Tryd.cf95) .nil .nil)) (.node (some Tryd.cf47) (.node (some Tryd.cf79) .nil .nil) .nil)) (.node (some Tryd.cf23) (.node none (.node (some Tryd.cf71) .nil .nil) (.node (some Tryd.cf103) .nil .nil)) (.node (some Tryd.cf55) (.node (some Tryd.cf87) .nil .nil) .nil))) (.node none (.node none (.node none .nil (.node (some Tryd.cf99) .nil .nil)) (.node (some Tryd.cf51) (.node (some Tryd.cf83) .nil .nil) .nil)) (.node none .nil (.node none (.node (some Tryd.cf91) .nil .nil) .nil)))) (.node none (.node none (.node none (.node none (.node (some Tryd.cf65) .nil .nil) (.node (some Tryd.cf97) .nil .nil)) (.node (some Tryd.cf49) (.node (some Tryd.cf81) .nil .nil) .nil)) (.node (some Tryd.cf25) (.node none .nil (.node (some Tryd.cf105) .nil .nil)) (.node none (.node (some Tryd.cf89) .nil .nil) .nil))) (.node (some Tryd.cf13) (.node (some Tryd.cf21) (.node none .nil (.node (some Tryd.cf101) .nil .nil)) (.node (some Tryd.cf53) (.node (some Tryd.cf85) .nil .nil) .nil)) (.node none (.node (some Tryd.cf45) (.node (some Tryd.cf77) .nil .nil) .nil) (.node (some Tryd.cf61) (.node (some Tryd.cf93) .nil .nil) .nil))))) (.node none (.node none (.node none (.node (some Tryd.cf16) (.node none .nil (.node (some Tryd.cf96) .nil .nil)) (.node (some Tryd.cf48) (.node (some Tryd.cf80) .nil .nil) .nil)) (.node none (.node (some Tryd.cf40) .nil (.node (some Tryd.cf104) .nil .nil)) .nil)) (.node none (.node (some Tryd.cf20) (.node none (.node (some Tryd.cf68) .nil .nil) (.node (some Tryd.cf100) .nil .nil)) .nil) (.node (some Tryd.cf28) (.node none (.node (some Tryd.cf76) .nil .nil) .nil) .nil))) (.node none (.node none (.node (some Tryd.cf18) (.node none (.node (some Tryd.cf66) .nil .nil) (.node (some Tryd.cf98) .nil .nil)) (.node (some Tryd.cf50) (.node (some Tryd.cf82) .nil .nil) .nil)) (.node (some Tryd.cf26) .nil (.node none (.node (some Tryd.cf90) .nil .nil) .nil))) (.node (some Tryd.cf14) (.node none (.node none (.node (some Tryd.cf70) .nil .nil) .nil) (.node (some Tryd.cf54) (.node (some Tryd.cf86) .nil .nil) .nil)) (.node (some Tryd.cf30) (.node (some Tryd.cf46) (.node (some Tryd.cf78) .nil .nil) .nil) (.node none (.node (some Tryd.cf94) .nil .nil) .nil))))))
noncomputable def Tryd.rt : List (Nat × (C × C)) := [(55021, (Tryd.ra55021, Tryd.rb55021)), (55033, (Tryd.ra55033, Tryd.rb55033)), (61017, (Tryd.ra61017, Tryd.rb61017)), (100040, (Tryd.ra100040, Tryd.rb100040))]
end Go.Sx
