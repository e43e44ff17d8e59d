/- THE TABLES OF THE PROGRAM: its types, and its functions as the evaluator runs them. -/
import Derived.Test.YtegeacnehkpinaaDoorSxComp
import Derived.KernelRfl
/-! THE TABLES OF THE PROGRAM: its types, and its functions as the evaluator runs them. -/
namespace Go.Sx
set_option maxRecDepth 100000
noncomputable def Tryd.ti0 : TI := ⟨.tuple #[], 1, 0, none, false⟩
noncomputable def Tryd.ti1 : TI := ⟨.func #[] #[] false, 1, 8, (some .nilFunc), false⟩
noncomputable def Tryd.ti2 : TI := ⟨.int .i64, 1, 8, (some (.int .i64 (.lit 0))), false⟩
noncomputable def Tryd.ti3 : TI := ⟨.int .i64, 1, 8, (some (.int .i64 (.lit 0))), false⟩
noncomputable def Tryd.ti4 : TI := ⟨.bool, 1, 1, (some (.bool (.lit false))), false⟩
noncomputable def Tryd.ti5 : TI := ⟨.int .u8, 1, 1, (some (.int .u8 (.lit 0))), false⟩
noncomputable def Tryd.ti6 : TI := ⟨.int .u8, 1, 1, (some (.int .u8 (.lit 0))), false⟩
noncomputable def Tryd.ti7 : TI := ⟨.struct #[⟨ "x", 2, 0, false, "", "runtime", 0⟩, ⟨ "y", 3, 1, false, "", "runtime", 8⟩, ⟨ "signed", 4, 2, false, "", "runtime", 16⟩, ⟨ "code", 6, 3, false, "", "runtime", 17⟩], 4, 24, (some (.agg [(.int .i64 (.lit 0)), (.int .i64 (.lit 0)), (.bool (.lit false)), (.int .u8 (.lit 0))])), true⟩
noncomputable def Tryd.ti8 : TI := ⟨.struct #[⟨ "x", 2, 0, false, "", "runtime", 0⟩, ⟨ "y", 3, 1, false, "", "runtime", 8⟩, ⟨ "signed", 4, 2, false, "", "runtime", 16⟩, ⟨ "code", 6, 3, false, "", "runtime", 17⟩], 4, 24, (some (.agg [(.int .i64 (.lit 0)), (.int .i64 (.lit 0)), (.bool (.lit false)), (.int .u8 (.lit 0))])), true⟩
noncomputable def Tryd.ti9 : TI := ⟨.string, 1, 16, none, false⟩
noncomputable def Tryd.ti10 : TI := ⟨.string, 1, 16, none, false⟩
noncomputable def Tryd.ti11 : TI := ⟨.string, 1, 16, none, false⟩
noncomputable def Tryd.ti12 : TI := ⟨.int .u64, 1, 8, (some (.int .u64 (.lit 0))), false⟩
noncomputable def Tryd.ti13 : TI := ⟨.struct #[⟨ "msg", 9, 0, false, "", "runtime", 0⟩, ⟨ "addr", 12, 1, false, "", "runtime", 16⟩], 2, 24, none, false⟩
noncomputable def Tryd.ti14 : TI := ⟨.struct #[⟨ "msg", 9, 0, false, "", "runtime", 0⟩, ⟨ "addr", 12, 1, false, "", "runtime", 16⟩], 2, 24, none, false⟩
noncomputable def Tryd.ti15 : TI := ⟨.pointer 154, 1, 8, (some .nilptr), false⟩
noncomputable def Tryd.ti16 : TI := ⟨.pointer 157, 1, 8, (some .nilptr), false⟩
noncomputable def Tryd.ti17 : TI := ⟨.pointer 166, 1, 8, (some .nilptr), false⟩
noncomputable def Tryd.ti18 : TI := ⟨.struct #[⟨ "typ", 17, 0, false, "", "internal/runtime/maps", 0⟩], 1, 8, (some (.agg [.nilptr])), false⟩
noncomputable def Tryd.ti19 : TI := ⟨.struct #[⟨ "typ", 17, 0, false, "", "internal/runtime/maps", 0⟩], 1, 8, (some (.agg [.nilptr])), false⟩
noncomputable def Tryd.ti20 : TI := ⟨.interface #[], 1, 16, none, false⟩
noncomputable def Tryd.ti21 : TI := ⟨.int .i32, 1, 4, (some (.int .i32 (.lit 0))), false⟩
noncomputable def Tryd.ti22 : TI := ⟨.struct #[⟨ "Low", 3, 0, false, "", "", 0⟩, ⟨ "High", 3, 1, false, "", "", 8⟩], 2, 16, (some (.agg [(.int .i64 (.lit 0)), (.int .i64 (.lit 0))])), true⟩
noncomputable def Tryd.ti23 : TI := ⟨.struct #[⟨ "Low", 3, 0, false, "", "", 0⟩, ⟨ "High", 3, 1, false, "", "", 8⟩], 2, 16, (some (.agg [(.int .i64 (.lit 0)), (.int .i64 (.lit 0))])), true⟩
noncomputable def Tryd.ti24 : TI := ⟨.array 2 23, 4, 32, (some (.agg [(.int .i64 (.lit 0)), (.int .i64 (.lit 0)), (.int .i64 (.lit 0)), (.int .i64 (.lit 0))])), true⟩
noncomputable def Tryd.ti25 : TI := ⟨.slice 66, 1, 24, (some .nilslice), false⟩
noncomputable def Tryd.ti26 : TI := ⟨.struct #[⟨ "Coal", 23, 0, false, "", "", 0⟩, ⟨ "Water", 23, 2, false, "", "", 16⟩, ⟨ "Bunker", 3, 4, false, "", "", 32⟩, ⟨ "Tank", 3, 5, false, "", "", 40⟩, ⟨ "Scoop", 3, 6, false, "", "", 48⟩, ⟨ "Pail", 3, 7, false, "", "", 56⟩, ⟨ "Burn", 24, 8, false, "", "", 64⟩, ⟨ "Drink", 24, 12, false, "", "", 96⟩, ⟨ "Full", 23, 16, false, "", "", 128⟩, ⟨ "Weak", 23, 18, false, "", "", 144⟩, ⟨ "Mark", 3, 20, false, "", "", 160⟩, ⟨ "Lamp", 3, 21, false, "", "", 168⟩, ⟨ "Parts", 25, 22, false, "", "", 176⟩], 23, 200, (some (.agg [(.int .i64 (.lit 0)), (.int .i64 (.lit 0)), (.int .i64 (.lit 0)), (.int .i64 (.lit 0)), (.int .i64 (.lit 0)), (.int .i64 (.lit 0)), (.int .i64 (.lit 0)), (.int .i64 (.lit 0)), (.int .i64 (.lit 0)), (.int .i64 (.lit 0)), (.int .i64 (.lit 0)), (.int .i64 (.lit 0)), (.int .i64 (.lit 0)), (.int .i64 (.lit 0)), (.int .i64 (.lit 0)), (.int .i64 (.lit 0)), (.int .i64 (.lit 0)), (.int .i64 (.lit 0)), (.int .i64 (.lit 0)), (.int .i64 (.lit 0)), (.int .i64 (.lit 0)), (.int .i64 (.lit 0)), .nilslice])), true⟩
noncomputable def Tryd.ti27 : TI := ⟨.struct #[⟨ "Coal", 23, 0, false, "", "", 0⟩, ⟨ "Water", 23, 2, false, "", "", 16⟩, ⟨ "Bunker", 3, 4, false, "", "", 32⟩, ⟨ "Tank", 3, 5, false, "", "", 40⟩, ⟨ "Scoop", 3, 6, false, "", "", 48⟩, ⟨ "Pail", 3, 7, false, "", "", 56⟩, ⟨ "Burn", 24, 8, false, "", "", 64⟩, ⟨ "Drink", 24, 12, false, "", "", 96⟩, ⟨ "Full", 23, 16, false, "", "", 128⟩, ⟨ "Weak", 23, 18, false, "", "", 144⟩, ⟨ "Mark", 3, 20, false, "", "", 160⟩, ⟨ "Lamp", 3, 21, false, "", "", 168⟩, ⟨ "Parts", 25, 22, false, "", "", 176⟩], 23, 200, (some (.agg [(.int .i64 (.lit 0)), (.int .i64 (.lit 0)), (.int .i64 (.lit 0)), (.int .i64 (.lit 0)), (.int .i64 (.lit 0)), (.int .i64 (.lit 0)), (.int .i64 (.lit 0)), (.int .i64 (.lit 0)), (.int .i64 (.lit 0)), (.int .i64 (.lit 0)), (.int .i64 (.lit 0)), (.int .i64 (.lit 0)), (.int .i64 (.lit 0)), (.int .i64 (.lit 0)), (.int .i64 (.lit 0)), (.int .i64 (.lit 0)), (.int .i64 (.lit 0)), (.int .i64 (.lit 0)), (.int .i64 (.lit 0)), (.int .i64 (.lit 0)), (.int .i64 (.lit 0)), (.int .i64 (.lit 0)), .nilslice])), true⟩
noncomputable def Tryd.ti28 : TI := ⟨.slice 64, 1, 24, (some .nilslice), false⟩
noncomputable def Tryd.ti29 : TI := ⟨.array 2 3, 2, 16, (some (.agg [(.int .i64 (.lit 0)), (.int .i64 (.lit 0))])), true⟩
noncomputable def Tryd.ti30 : TI := ⟨.int .i64, 1, 8, (some (.int .i64 (.lit 0))), false⟩
noncomputable def Tryd.ti31 : TI := ⟨.tuple #[23, 30], 1, 0, none, false⟩
noncomputable def Tryd.ti32 : TI := ⟨.func #[27, 3] #[23, 30] false, 1, 8, (some .nilFunc), false⟩
noncomputable def Tryd.ti33 : TI := ⟨.func #[27] #[30] false, 1, 8, (some .nilFunc), false⟩
noncomputable def Tryd.ti34 : TI := ⟨.tuple #[23, 23, 30], 1, 0, none, false⟩
noncomputable def Tryd.ti35 : TI := ⟨.func #[27, 28, 3] #[23, 23, 30] false, 1, 8, (some .nilFunc), false⟩
noncomputable def Tryd.ti36 : TI := ⟨.func #[] #[4] false, 1, 8, (some .nilFunc), false⟩
noncomputable def Tryd.ti37 : TI := ⟨.func #[27, 28, 29] #[4] false, 1, 8, (some .nilFunc), false⟩
noncomputable def Tryd.ti38 : TI := ⟨.tuple #[3, 30], 1, 0, none, false⟩
noncomputable def Tryd.ti39 : TI := ⟨.func #[27, 28] #[3, 30] false, 1, 8, (some .nilFunc), false⟩
noncomputable def Tryd.ti40 : TI := ⟨.tuple #[28, 30], 1, 0, none, false⟩
noncomputable def Tryd.ti41 : TI := ⟨.func #[27] #[28, 30] false, 1, 8, (some .nilFunc), false⟩
noncomputable def Tryd.ti42 : TI := ⟨.func #[28, 28] #[4] false, 1, 8, (some .nilFunc), false⟩
noncomputable def Tryd.ti43 : TI := ⟨.func #[27, 28] #[4] false, 1, 8, (some .nilFunc), false⟩
noncomputable def Tryd.ti44 : TI := ⟨.func #[27] #[3, 30] false, 1, 8, (some .nilFunc), false⟩
noncomputable def Tryd.ti45 : TI := ⟨.func #[27, 3] #[3, 30] false, 1, 8, (some .nilFunc), false⟩
noncomputable def Tryd.ti46 : TI := ⟨.func #[27, 3] #[4] false, 1, 8, (some .nilFunc), false⟩
noncomputable def Tryd.ti47 : TI := ⟨.slice 3, 1, 24, (some .nilslice), false⟩
noncomputable def Tryd.ti48 : TI := ⟨.func #[27] #[4] false, 1, 8, (some .nilFunc), false⟩
noncomputable def Tryd.ti49 : TI := ⟨.struct #[⟨ "coal", 47, 0, false, "", "bioscope/bioscopelaw04", 0⟩, ⟨ "water", 47, 1, false, "", "bioscope/bioscopelaw04", 24⟩, ⟨ "failed", 3, 2, false, "", "bioscope/bioscopelaw04", 48⟩], 3, 56, (some (.agg [.nilslice, .nilslice, (.int .i64 (.lit 0))])), true⟩
noncomputable def Tryd.ti50 : TI := ⟨.struct #[⟨ "coal", 47, 0, false, "", "bioscope/bioscopelaw04", 0⟩, ⟨ "water", 47, 1, false, "", "bioscope/bioscopelaw04", 24⟩, ⟨ "failed", 3, 2, false, "", "bioscope/bioscopelaw04", 48⟩], 3, 56, (some (.agg [.nilslice, .nilslice, (.int .i64 (.lit 0))])), true⟩
noncomputable def Tryd.ti51 : TI := ⟨.func #[27, 28, 47] #[50] false, 1, 8, (some .nilFunc), false⟩
noncomputable def Tryd.ti52 : TI := ⟨.func #[27, 28, 50] #[4] false, 1, 8, (some .nilFunc), false⟩
noncomputable def Tryd.ti53 : TI := ⟨.func #[27, 47] #[28] false, 1, 8, (some .nilFunc), false⟩
noncomputable def Tryd.ti54 : TI := ⟨.func #[3, 3, 3] #[4] false, 1, 8, (some .nilFunc), false⟩
noncomputable def Tryd.ti55 : TI := ⟨.func #[27, 47, 47] #[4] false, 1, 8, (some .nilFunc), false⟩
noncomputable def Tryd.ti56 : TI := ⟨.func #[3, 3] #[3] false, 1, 8, (some .nilFunc), false⟩
noncomputable def Tryd.ti57 : TI := ⟨.func #[27, 4] #[27] false, 1, 8, (some .nilFunc), false⟩
noncomputable def Tryd.ti58 : TI := ⟨.func #[3, 3] #[23] false, 1, 8, (some .nilFunc), false⟩
noncomputable def Tryd.ti59 : TI := ⟨.func #[27, 47, 3] #[4] false, 1, 8, (some .nilFunc), false⟩
noncomputable def Tryd.ti60 : TI := ⟨.func #[28] #[3] false, 1, 8, (some .nilFunc), false⟩
noncomputable def Tryd.ti61 : TI := ⟨.func #[47, 47] #[4] false, 1, 8, (some .nilFunc), false⟩
noncomputable def Tryd.ti62 : TI := ⟨.func #[28] #[47] false, 1, 8, (some .nilFunc), false⟩
noncomputable def Tryd.ti63 : TI := ⟨.struct #[⟨ "Coal", 3, 0, false, "", "", 0⟩, ⟨ "Water", 3, 1, false, "", "", 8⟩], 2, 16, (some (.agg [(.int .i64 (.lit 0)), (.int .i64 (.lit 0))])), true⟩
noncomputable def Tryd.ti64 : TI := ⟨.struct #[⟨ "Coal", 3, 0, false, "", "", 0⟩, ⟨ "Water", 3, 1, false, "", "", 8⟩], 2, 16, (some (.agg [(.int .i64 (.lit 0)), (.int .i64 (.lit 0))])), true⟩
noncomputable def Tryd.ti65 : TI := ⟨.struct #[⟨ "Minutes", 23, 0, false, "", "", 0⟩, ⟨ "Light", 4, 2, false, "", "", 16⟩, ⟨ "Walks", 3, 3, false, "", "", 24⟩], 4, 32, (some (.agg [(.int .i64 (.lit 0)), (.int .i64 (.lit 0)), (.bool (.lit false)), (.int .i64 (.lit 0))])), true⟩
noncomputable def Tryd.ti66 : TI := ⟨.struct #[⟨ "Minutes", 23, 0, false, "", "", 0⟩, ⟨ "Light", 4, 2, false, "", "", 16⟩, ⟨ "Walks", 3, 3, false, "", "", 24⟩], 4, 32, (some (.agg [(.int .i64 (.lit 0)), (.int .i64 (.lit 0)), (.bool (.lit false)), (.int .i64 (.lit 0))])), true⟩
noncomputable def Tryd.ti67 : TI := ⟨.func #[27, 47, 29] #[4] false, 1, 8, (some .nilFunc), false⟩
noncomputable def Tryd.ti68 : TI := ⟨.func #[27, 3, 3] #[27] false, 1, 8, (some .nilFunc), false⟩
noncomputable def Tryd.ti69 : TI := ⟨.func #[27, 29] #[4] false, 1, 8, (some .nilFunc), false⟩
noncomputable def Tryd.ti70 : TI := ⟨.func #[] #[27] false, 1, 8, (some .nilFunc), false⟩
noncomputable def Tryd.ti71 : TI := ⟨.slice 27, 1, 24, (some .nilslice), false⟩
noncomputable def Tryd.ti72 : TI := ⟨.func #[] #[28] false, 1, 8, (some .nilFunc), false⟩
noncomputable def Tryd.ti73 : TI := ⟨.slice 28, 1, 24, (some .nilslice), false⟩
noncomputable def Tryd.ti74 : TI := ⟨.struct #[⟨ "first", 23, 0, false, "", "bioscope/engine", 0⟩, ⟨ "room", 3, 2, false, "", "bioscope/engine", 16⟩, ⟨ "load", 3, 3, false, "", "bioscope/engine", 24⟩, ⟨ "takes", 24, 4, false, "", "bioscope/engine", 32⟩], 8, 64, (some (.agg [(.int .i64 (.lit 0)), (.int .i64 (.lit 0)), (.int .i64 (.lit 0)), (.int .i64 (.lit 0)), (.int .i64 (.lit 0)), (.int .i64 (.lit 0)), (.int .i64 (.lit 0)), (.int .i64 (.lit 0))])), true⟩
noncomputable def Tryd.ti75 : TI := ⟨.struct #[⟨ "first", 23, 0, false, "", "bioscope/engine", 0⟩, ⟨ "room", 3, 2, false, "", "bioscope/engine", 16⟩, ⟨ "load", 3, 3, false, "", "bioscope/engine", 24⟩, ⟨ "takes", 24, 4, false, "", "bioscope/engine", 32⟩], 8, 64, (some (.agg [(.int .i64 (.lit 0)), (.int .i64 (.lit 0)), (.int .i64 (.lit 0)), (.int .i64 (.lit 0)), (.int .i64 (.lit 0)), (.int .i64 (.lit 0)), (.int .i64 (.lit 0)), (.int .i64 (.lit 0))])), true⟩
noncomputable def Tryd.ti76 : TI := ⟨.array 2 75, 16, 128, (some (.agg [(.int .i64 (.lit 0)), (.int .i64 (.lit 0)), (.int .i64 (.lit 0)), (.int .i64 (.lit 0)), (.int .i64 (.lit 0)), (.int .i64 (.lit 0)), (.int .i64 (.lit 0)), (.int .i64 (.lit 0)), (.int .i64 (.lit 0)), (.int .i64 (.lit 0)), (.int .i64 (.lit 0)), (.int .i64 (.lit 0)), (.int .i64 (.lit 0)), (.int .i64 (.lit 0)), (.int .i64 (.lit 0)), (.int .i64 (.lit 0))])), true⟩
noncomputable def Tryd.ti77 : TI := ⟨.struct #[⟨ "EngineBook", 27, 0, true, "", "", 0⟩, ⟨ "stores", 76, 23, false, "", "bioscope/engine", 200⟩], 39, 328, (some (.agg [(.int .i64 (.lit 0)), (.int .i64 (.lit 0)), (.int .i64 (.lit 0)), (.int .i64 (.lit 0)), (.int .i64 (.lit 0)), (.int .i64 (.lit 0)), (.int .i64 (.lit 0)), (.int .i64 (.lit 0)), (.int .i64 (.lit 0)), (.int .i64 (.lit 0)), (.int .i64 (.lit 0)), (.int .i64 (.lit 0)), (.int .i64 (.lit 0)), (.int .i64 (.lit 0)), (.int .i64 (.lit 0)), (.int .i64 (.lit 0)), (.int .i64 (.lit 0)), (.int .i64 (.lit 0)), (.int .i64 (.lit 0)), (.int .i64 (.lit 0)), (.int .i64 (.lit 0)), (.int .i64 (.lit 0)), .nilslice, (.int .i64 (.lit 0)), (.int .i64 (.lit 0)), (.int .i64 (.lit 0)), (.int .i64 (.lit 0)), (.int .i64 (.lit 0)), (.int .i64 (.lit 0)), (.int .i64 (.lit 0)), (.int .i64 (.lit 0)), (.int .i64 (.lit 0)), (.int .i64 (.lit 0)), (.int .i64 (.lit 0)), (.int .i64 (.lit 0)), (.int .i64 (.lit 0)), (.int .i64 (.lit 0)), (.int .i64 (.lit 0)), (.int .i64 (.lit 0))])), true⟩
noncomputable def Tryd.ti78 : TI := ⟨.struct #[⟨ "EngineBook", 27, 0, true, "", "", 0⟩, ⟨ "stores", 76, 23, false, "", "bioscope/engine", 200⟩], 39, 328, (some (.agg [(.int .i64 (.lit 0)), (.int .i64 (.lit 0)), (.int .i64 (.lit 0)), (.int .i64 (.lit 0)), (.int .i64 (.lit 0)), (.int .i64 (.lit 0)), (.int .i64 (.lit 0)), (.int .i64 (.lit 0)), (.int .i64 (.lit 0)), (.int .i64 (.lit 0)), (.int .i64 (.lit 0)), (.int .i64 (.lit 0)), (.int .i64 (.lit 0)), (.int .i64 (.lit 0)), (.int .i64 (.lit 0)), (.int .i64 (.lit 0)), (.int .i64 (.lit 0)), (.int .i64 (.lit 0)), (.int .i64 (.lit 0)), (.int .i64 (.lit 0)), (.int .i64 (.lit 0)), (.int .i64 (.lit 0)), .nilslice, (.int .i64 (.lit 0)), (.int .i64 (.lit 0)), (.int .i64 (.lit 0)), (.int .i64 (.lit 0)), (.int .i64 (.lit 0)), (.int .i64 (.lit 0)), (.int .i64 (.lit 0)), (.int .i64 (.lit 0)), (.int .i64 (.lit 0)), (.int .i64 (.lit 0)), (.int .i64 (.lit 0)), (.int .i64 (.lit 0)), (.int .i64 (.lit 0)), (.int .i64 (.lit 0)), (.int .i64 (.lit 0)), (.int .i64 (.lit 0))])), true⟩
noncomputable def Tryd.ti79 : TI := ⟨.tuple #[78, 30], 1, 0, none, false⟩
noncomputable def Tryd.ti80 : TI := ⟨.func #[27] #[78, 30] false, 1, 8, (some .nilFunc), false⟩
noncomputable def Tryd.ti81 : TI := ⟨.func #[3, 23] #[4] false, 1, 8, (some .nilFunc), false⟩
noncomputable def Tryd.ti82 : TI := ⟨.func #[3] #[23] false, 1, 8, (some .nilFunc), false⟩
noncomputable def Tryd.ti83 : TI := ⟨.func #[23, 3, 3] #[4] false, 1, 8, (some .nilFunc), false⟩
noncomputable def Tryd.ti84 : TI := ⟨.func #[28] #[4] false, 1, 8, (some .nilFunc), false⟩
noncomputable def Tryd.ti85 : TI := ⟨.func #[3] #[4] false, 1, 8, (some .nilFunc), false⟩
noncomputable def Tryd.ti86 : TI := ⟨.func #[28] #[23, 23, 30] false, 1, 8, (some .nilFunc), false⟩
noncomputable def Tryd.ti87 : TI := ⟨.struct #[⟨ "coal", 23, 0, false, "", "bioscope/bioscoperef04", 0⟩, ⟨ "water", 23, 2, false, "", "bioscope/bioscoperef04", 16⟩], 4, 32, (some (.agg [(.int .i64 (.lit 0)), (.int .i64 (.lit 0)), (.int .i64 (.lit 0)), (.int .i64 (.lit 0))])), true⟩
noncomputable def Tryd.ti88 : TI := ⟨.struct #[⟨ "coal", 23, 0, false, "", "bioscope/bioscoperef04", 0⟩, ⟨ "water", 23, 2, false, "", "bioscope/bioscoperef04", 16⟩], 4, 32, (some (.agg [(.int .i64 (.lit 0)), (.int .i64 (.lit 0)), (.int .i64 (.lit 0)), (.int .i64 (.lit 0))])), true⟩
noncomputable def Tryd.ti89 : TI := ⟨.func #[27] #[88] false, 1, 8, (some .nilFunc), false⟩
noncomputable def Tryd.ti90 : TI := ⟨.func #[27, 88, 66] #[88] false, 1, 8, (some .nilFunc), false⟩
noncomputable def Tryd.ti91 : TI := ⟨.func #[27, 88, 64] #[88] false, 1, 8, (some .nilFunc), false⟩
noncomputable def Tryd.ti92 : TI := ⟨.func #[88] #[4] false, 1, 8, (some .nilFunc), false⟩
noncomputable def Tryd.ti93 : TI := ⟨.func #[28] #[3, 30] false, 1, 8, (some .nilFunc), false⟩
noncomputable def Tryd.ti94 : TI := ⟨.func #[27, 88, 66] #[4] false, 1, 8, (some .nilFunc), false⟩
noncomputable def Tryd.ti95 : TI := ⟨.func #[] #[28, 30] false, 1, 8, (some .nilFunc), false⟩
noncomputable def Tryd.ti96 : TI := ⟨.tuple #[28, 3], 1, 0, none, false⟩
noncomputable def Tryd.ti97 : TI := ⟨.func #[27, 88, 28, 28, 3] #[28, 3] false, 1, 8, (some .nilFunc), false⟩
noncomputable def Tryd.ti98 : TI := ⟨.func #[3, 85] #[3] false, 1, 8, (some .nilFunc), false⟩
noncomputable def Tryd.ti99 : TI := ⟨.func #[27, 88, 3] #[4] false, 1, 8, (some .nilFunc), false⟩
noncomputable def Tryd.ti100 : TI := ⟨.struct #[⟨ "evening", 78, 0, true, "", "bioscope/engine", 0⟩, ⟨ "part", 3, 39, false, "", "bioscope/engine", 328⟩], 40, 336, (some (.agg [(.int .i64 (.lit 0)), (.int .i64 (.lit 0)), (.int .i64 (.lit 0)), (.int .i64 (.lit 0)), (.int .i64 (.lit 0)), (.int .i64 (.lit 0)), (.int .i64 (.lit 0)), (.int .i64 (.lit 0)), (.int .i64 (.lit 0)), (.int .i64 (.lit 0)), (.int .i64 (.lit 0)), (.int .i64 (.lit 0)), (.int .i64 (.lit 0)), (.int .i64 (.lit 0)), (.int .i64 (.lit 0)), (.int .i64 (.lit 0)), (.int .i64 (.lit 0)), (.int .i64 (.lit 0)), (.int .i64 (.lit 0)), (.int .i64 (.lit 0)), (.int .i64 (.lit 0)), (.int .i64 (.lit 0)), .nilslice, (.int .i64 (.lit 0)), (.int .i64 (.lit 0)), (.int .i64 (.lit 0)), (.int .i64 (.lit 0)), (.int .i64 (.lit 0)), (.int .i64 (.lit 0)), (.int .i64 (.lit 0)), (.int .i64 (.lit 0)), (.int .i64 (.lit 0)), (.int .i64 (.lit 0)), (.int .i64 (.lit 0)), (.int .i64 (.lit 0)), (.int .i64 (.lit 0)), (.int .i64 (.lit 0)), (.int .i64 (.lit 0)), (.int .i64 (.lit 0)), (.int .i64 (.lit 0))])), true⟩
noncomputable def Tryd.ti101 : TI := ⟨.struct #[⟨ "evening", 78, 0, true, "", "bioscope/engine", 0⟩, ⟨ "part", 3, 39, false, "", "bioscope/engine", 328⟩], 40, 336, (some (.agg [(.int .i64 (.lit 0)), (.int .i64 (.lit 0)), (.int .i64 (.lit 0)), (.int .i64 (.lit 0)), (.int .i64 (.lit 0)), (.int .i64 (.lit 0)), (.int .i64 (.lit 0)), (.int .i64 (.lit 0)), (.int .i64 (.lit 0)), (.int .i64 (.lit 0)), (.int .i64 (.lit 0)), (.int .i64 (.lit 0)), (.int .i64 (.lit 0)), (.int .i64 (.lit 0)), (.int .i64 (.lit 0)), (.int .i64 (.lit 0)), (.int .i64 (.lit 0)), (.int .i64 (.lit 0)), (.int .i64 (.lit 0)), (.int .i64 (.lit 0)), (.int .i64 (.lit 0)), (.int .i64 (.lit 0)), .nilslice, (.int .i64 (.lit 0)), (.int .i64 (.lit 0)), (.int .i64 (.lit 0)), (.int .i64 (.lit 0)), (.int .i64 (.lit 0)), (.int .i64 (.lit 0)), (.int .i64 (.lit 0)), (.int .i64 (.lit 0)), (.int .i64 (.lit 0)), (.int .i64 (.lit 0)), (.int .i64 (.lit 0)), (.int .i64 (.lit 0)), (.int .i64 (.lit 0)), (.int .i64 (.lit 0)), (.int .i64 (.lit 0)), (.int .i64 (.lit 0)), (.int .i64 (.lit 0))])), true⟩
noncomputable def Tryd.ti102 : TI := ⟨.struct #[⟨ "bits", 47, 0, false, "", "bioscope/bioscopelaw04", 0⟩, ⟨ "at", 3, 1, false, "", "bioscope/bioscopelaw04", 24⟩], 2, 32, (some (.agg [.nilslice, (.int .i64 (.lit 0))])), true⟩
noncomputable def Tryd.ti103 : TI := ⟨.struct #[⟨ "bits", 47, 0, false, "", "bioscope/bioscopelaw04", 0⟩, ⟨ "at", 3, 1, false, "", "bioscope/bioscopelaw04", 24⟩], 2, 32, (some (.agg [.nilslice, (.int .i64 (.lit 0))])), true⟩
noncomputable def Tryd.ti104 : TI := ⟨.tuple #[3, 103], 1, 0, none, false⟩
noncomputable def Tryd.ti105 : TI := ⟨.func #[23, 103] #[3, 103] false, 1, 8, (some .nilFunc), false⟩
noncomputable def Tryd.ti106 : TI := ⟨.func #[23, 3] #[4] false, 1, 8, (some .nilFunc), false⟩
noncomputable def Tryd.ti107 : TI := ⟨.func #[47, 3] #[3] false, 1, 8, (some .nilFunc), false⟩
noncomputable def Tryd.ti108 : TI := ⟨.func #[23, 4] #[23] false, 1, 8, (some .nilFunc), false⟩
noncomputable def Tryd.ti109 : TI := ⟨.func #[3, 3, 4, 3] #[66] false, 1, 8, (some .nilFunc), false⟩
noncomputable def Tryd.ti110 : TI := ⟨.func #[27] #[78] false, 1, 8, (some .nilFunc), false⟩
noncomputable def Tryd.ti111 : TI := ⟨.array 6 3, 6, 48, (some (.agg [(.int .i64 (.lit 0)), (.int .i64 (.lit 0)), (.int .i64 (.lit 0)), (.int .i64 (.lit 0)), (.int .i64 (.lit 0)), (.int .i64 (.lit 0))])), true⟩
noncomputable def Tryd.ti112 : TI := ⟨.array 6 23, 12, 96, (some (.agg [(.int .i64 (.lit 0)), (.int .i64 (.lit 0)), (.int .i64 (.lit 0)), (.int .i64 (.lit 0)), (.int .i64 (.lit 0)), (.int .i64 (.lit 0)), (.int .i64 (.lit 0)), (.int .i64 (.lit 0)), (.int .i64 (.lit 0)), (.int .i64 (.lit 0)), (.int .i64 (.lit 0)), (.int .i64 (.lit 0))])), true⟩
noncomputable def Tryd.ti113 : TI := ⟨.func #[3, 114] #[4] true, 1, 8, (some .nilFunc), false⟩
noncomputable def Tryd.ti114 : TI := ⟨.slice 23, 1, 24, (some .nilslice), false⟩
noncomputable def Tryd.ti115 : TI := ⟨.func #[25] #[4] false, 1, 8, (some .nilFunc), false⟩
noncomputable def Tryd.ti116 : TI := ⟨.func #[144] #[3] false, 1, 8, (some .nilFunc), false⟩
noncomputable def Tryd.ti117 : TI := ⟨.struct #[⟨ "has", 116, 0, false, "", "bioscope/engine", 0⟩, ⟨ "takes", 116, 1, false, "", "bioscope/engine", 8⟩], 2, 16, (some (.agg [.nilFunc, .nilFunc])), true⟩
noncomputable def Tryd.ti118 : TI := ⟨.struct #[⟨ "has", 116, 0, false, "", "bioscope/engine", 0⟩, ⟨ "takes", 116, 1, false, "", "bioscope/engine", 8⟩], 2, 16, (some (.agg [.nilFunc, .nilFunc])), true⟩
noncomputable def Tryd.ti119 : TI := ⟨.tuple #[118, 118], 1, 0, none, false⟩
noncomputable def Tryd.ti120 : TI := ⟨.func #[] #[118, 118] false, 1, 8, (some .nilFunc), false⟩
noncomputable def Tryd.ti121 : TI := ⟨.array 2 3, 2, 16, (some (.agg [(.int .i64 (.lit 0)), (.int .i64 (.lit 0))])), true⟩
noncomputable def Tryd.ti122 : TI := ⟨.func #[130] #[] false, 1, 8, (some .nilFunc), false⟩
noncomputable def Tryd.ti123 : TI := ⟨.func #[130] #[] false, 1, 8, (some .nilFunc), false⟩
noncomputable def Tryd.ti124 : TI := ⟨.func #[28, 118] #[123] false, 1, 8, (some .nilFunc), false⟩
noncomputable def Tryd.ti125 : TI := ⟨.struct #[⟨ "part", 3, 0, false, "", "bioscope/engine", 0⟩, ⟨ "left", 121, 1, false, "", "bioscope/engine", 8⟩], 3, 24, (some (.agg [(.int .i64 (.lit 0)), (.int .i64 (.lit 0)), (.int .i64 (.lit 0))])), true⟩
noncomputable def Tryd.ti126 : TI := ⟨.struct #[⟨ "part", 3, 0, false, "", "bioscope/engine", 0⟩, ⟨ "left", 121, 1, false, "", "bioscope/engine", 8⟩], 3, 24, (some (.agg [(.int .i64 (.lit 0)), (.int .i64 (.lit 0)), (.int .i64 (.lit 0))])), true⟩
noncomputable def Tryd.ti127 : TI := ⟨.struct #[⟨ "walks", 64, 0, false, "", "bioscope/engine", 0⟩, ⟨ "behind", 126, 2, false, "", "bioscope/engine", 16⟩, ⟨ "lacks", 121, 5, false, "", "bioscope/engine", 40⟩], 7, 56, (some (.agg [(.int .i64 (.lit 0)), (.int .i64 (.lit 0)), (.int .i64 (.lit 0)), (.int .i64 (.lit 0)), (.int .i64 (.lit 0)), (.int .i64 (.lit 0)), (.int .i64 (.lit 0))])), true⟩
noncomputable def Tryd.ti128 : TI := ⟨.struct #[⟨ "walks", 64, 0, false, "", "bioscope/engine", 0⟩, ⟨ "behind", 126, 2, false, "", "bioscope/engine", 16⟩, ⟨ "lacks", 121, 5, false, "", "bioscope/engine", 40⟩], 7, 56, (some (.agg [(.int .i64 (.lit 0)), (.int .i64 (.lit 0)), (.int .i64 (.lit 0)), (.int .i64 (.lit 0)), (.int .i64 (.lit 0)), (.int .i64 (.lit 0)), (.int .i64 (.lit 0))])), true⟩
noncomputable def Tryd.ti129 : TI := ⟨.func #[66] #[3] false, 1, 8, (some .nilFunc), false⟩
noncomputable def Tryd.ti130 : TI := ⟨.func #[128] #[4] false, 1, 8, (some .nilFunc), false⟩
noncomputable def Tryd.ti131 : TI := ⟨.map 126 135, 1, 8, (some .nilmap), false⟩
noncomputable def Tryd.ti132 : TI := ⟨.func #[] #[131] false, 1, 8, (some .nilFunc), false⟩
noncomputable def Tryd.ti133 : TI := ⟨.func #[118] #[126] false, 1, 8, (some .nilFunc), false⟩
noncomputable def Tryd.ti134 : TI := ⟨.struct #[⟨ "enough", 4, 0, false, "", "bioscope/engine", 0⟩, ⟨ "many", 3, 1, false, "", "bioscope/engine", 8⟩, ⟨ "first", 128, 2, false, "", "bioscope/engine", 16⟩], 9, 72, (some (.agg [(.bool (.lit false)), (.int .i64 (.lit 0)), (.int .i64 (.lit 0)), (.int .i64 (.lit 0)), (.int .i64 (.lit 0)), (.int .i64 (.lit 0)), (.int .i64 (.lit 0)), (.int .i64 (.lit 0)), (.int .i64 (.lit 0))])), true⟩
noncomputable def Tryd.ti135 : TI := ⟨.struct #[⟨ "enough", 4, 0, false, "", "bioscope/engine", 0⟩, ⟨ "many", 3, 1, false, "", "bioscope/engine", 8⟩, ⟨ "first", 128, 2, false, "", "bioscope/engine", 16⟩], 9, 72, (some (.agg [(.bool (.lit false)), (.int .i64 (.lit 0)), (.int .i64 (.lit 0)), (.int .i64 (.lit 0)), (.int .i64 (.lit 0)), (.int .i64 (.lit 0)), (.int .i64 (.lit 0)), (.int .i64 (.lit 0)), (.int .i64 (.lit 0))])), true⟩
noncomputable def Tryd.ti136 : TI := ⟨.func #[25] #[25] false, 1, 8, (some .nilFunc), false⟩
noncomputable def Tryd.ti137 : TI := ⟨.int .u64, 1, 8, (some (.int .u64 (.lit 0))), false⟩
noncomputable def Tryd.ti138 : TI := ⟨.func #[23, 3] #[3] false, 1, 8, (some .nilFunc), false⟩
noncomputable def Tryd.ti139 : TI := ⟨.func #[78] #[75] false, 1, 8, (some .nilFunc), false⟩
noncomputable def Tryd.ti140 : TI := ⟨.func #[] #[75] false, 1, 8, (some .nilFunc), false⟩
noncomputable def Tryd.ti141 : TI := ⟨.array 2 139, 2, 16, (some (.agg [.nilFunc, .nilFunc])), true⟩
noncomputable def Tryd.ti142 : TI := ⟨.func #[23, 23] #[4] false, 1, 8, (some .nilFunc), false⟩
noncomputable def Tryd.ti143 : TI := ⟨.func #[] #[3] false, 1, 8, (some .nilFunc), false⟩
noncomputable def Tryd.ti144 : TI := ⟨.struct #[⟨ "Low", 3, 0, false, "", "", 0⟩, ⟨ "High", 3, 1, false, "", "", 8⟩], 2, 16, (some (.agg [(.int .i64 (.lit 0)), (.int .i64 (.lit 0))])), true⟩
noncomputable def Tryd.ti145 : TI := ⟨.func #[126, 64, 118] #[128] false, 1, 8, (some .nilFunc), false⟩
noncomputable def Tryd.ti146 : TI := ⟨.func #[126] #[135] false, 1, 8, (some .nilFunc), false⟩
noncomputable def Tryd.ti147 : TI := ⟨.tuple #[135, 4], 1, 0, none, false⟩
noncomputable def Tryd.ti148 : TI := ⟨.func #[126, 118] #[123] false, 1, 8, (some .nilFunc), false⟩
noncomputable def Tryd.ti149 : TI := ⟨.func #[23] #[4] false, 1, 8, (some .nilFunc), false⟩
noncomputable def Tryd.ti150 : TI := ⟨.func #[3, 47] #[3] true, 1, 8, (some .nilFunc), false⟩
noncomputable def Tryd.ti151 : TI := ⟨.func #[66] #[23] false, 1, 8, (some .nilFunc), false⟩
noncomputable def Tryd.ti152 : TI := ⟨.func #[] #[9] false, 1, 8, (some .nilFunc), false⟩
noncomputable def Tryd.ti153 : TI := ⟨.struct #[⟨ "_interface", 17, 0, false, "", "runtime", 0⟩, ⟨ "concrete", 17, 1, false, "", "runtime", 8⟩, ⟨ "asserted", 17, 2, false, "", "runtime", 16⟩, ⟨ "missingMethod", 9, 3, false, "", "runtime", 24⟩], 4, 40, none, false⟩
noncomputable def Tryd.ti154 : TI := ⟨.struct #[⟨ "_interface", 17, 0, false, "", "runtime", 0⟩, ⟨ "concrete", 17, 1, false, "", "runtime", 8⟩, ⟨ "asserted", 17, 2, false, "", "runtime", 16⟩, ⟨ "missingMethod", 9, 3, false, "", "runtime", 24⟩], 4, 40, none, false⟩
noncomputable def Tryd.ti155 : TI := ⟨.array 0 16, 0, 0, (some (.agg [])), true⟩
noncomputable def Tryd.ti156 : TI := ⟨.struct #[⟨ "_", 155, 0, false, "", "runtime", 0⟩], 0, 0, (some (.agg [])), false⟩
noncomputable def Tryd.ti157 : TI := ⟨.struct #[⟨ "_", 155, 0, false, "", "runtime", 0⟩], 0, 0, (some (.agg [])), false⟩
noncomputable def Tryd.ti158 : TI := ⟨.int .u32, 1, 4, (some (.int .u32 (.lit 0))), false⟩
noncomputable def Tryd.ti159 : TI := ⟨.int .u8, 1, 1, (some (.int .u8 (.lit 0))), false⟩
noncomputable def Tryd.ti160 : TI := ⟨.int .u8, 1, 1, (some (.int .u8 (.lit 0))), false⟩
noncomputable def Tryd.ti161 : TI := ⟨.func #[167, 167] #[4] false, 1, 8, (some .nilFunc), false⟩
noncomputable def Tryd.ti162 : TI := ⟨.pointer 5, 1, 8, (some .nilptr), false⟩
noncomputable def Tryd.ti163 : TI := ⟨.int .i32, 1, 4, (some (.int .i32 (.lit 0))), false⟩
noncomputable def Tryd.ti164 : TI := ⟨.int .i32, 1, 4, (some (.int .i32 (.lit 0))), false⟩
noncomputable def Tryd.ti165 : TI := ⟨.struct #[⟨ "Size_", 12, 0, false, "", "", 0⟩, ⟨ "PtrBytes", 12, 1, false, "", "", 8⟩, ⟨ "Hash", 158, 2, false, "", "", 16⟩, ⟨ "TFlag", 159, 3, false, "", "", 20⟩, ⟨ "Align_", 5, 4, false, "", "", 21⟩, ⟨ "FieldAlign_", 5, 5, false, "", "", 22⟩, ⟨ "Kind_", 160, 6, false, "", "", 23⟩, ⟨ "Equal", 161, 7, false, "", "", 24⟩, ⟨ "GCData", 162, 8, false, "", "", 32⟩, ⟨ "Str", 163, 9, false, "", "", 40⟩, ⟨ "PtrToThis", 164, 10, false, "", "", 44⟩], 11, 48, (some (.agg [(.int .u64 (.lit 0)), (.int .u64 (.lit 0)), (.int .u32 (.lit 0)), (.int .u8 (.lit 0)), (.int .u8 (.lit 0)), (.int .u8 (.lit 0)), (.int .u8 (.lit 0)), .nilFunc, .nilptr, (.int .i32 (.lit 0)), (.int .i32 (.lit 0))])), false⟩
noncomputable def Tryd.ti166 : TI := ⟨.struct #[⟨ "Size_", 12, 0, false, "", "", 0⟩, ⟨ "PtrBytes", 12, 1, false, "", "", 8⟩, ⟨ "Hash", 158, 2, false, "", "", 16⟩, ⟨ "TFlag", 159, 3, false, "", "", 20⟩, ⟨ "Align_", 5, 4, false, "", "", 21⟩, ⟨ "FieldAlign_", 5, 5, false, "", "", 22⟩, ⟨ "Kind_", 160, 6, false, "", "", 23⟩, ⟨ "Equal", 161, 7, false, "", "", 24⟩, ⟨ "GCData", 162, 8, false, "", "", 32⟩, ⟨ "Str", 163, 9, false, "", "", 40⟩, ⟨ "PtrToThis", 164, 10, false, "", "", 44⟩], 11, 48, (some (.agg [(.int .u64 (.lit 0)), (.int .u64 (.lit 0)), (.int .u32 (.lit 0)), (.int .u8 (.lit 0)), (.int .u8 (.lit 0)), (.int .u8 (.lit 0)), (.int .u8 (.lit 0)), .nilFunc, .nilptr, (.int .i32 (.lit 0)), (.int .i32 (.lit 0))])), false⟩
noncomputable def Tryd.tt : PT TI := (.node (some Tryd.ti0) (.node (some Tryd.ti1) (.node (some Tryd.ti3) (.node (some Tryd.ti7) (.node (some Tryd.ti15) (.node (some Tryd.ti31) (.node (some Tryd.ti63) (.node (some Tryd.ti127) .nil .nil) .nil) (.node (some Tryd.ti95) (.node (some Tryd.ti159) .nil .nil) .nil)) (.node (some Tryd.ti47) (.node (some Tryd.ti79) (.node (some Tryd.ti143) .nil .nil) .nil) (.node (some Tryd.ti111) .nil .nil))) (.node (some Tryd.ti23) (.node (some Tryd.ti39) (.node (some Tryd.ti71) (.node (some Tryd.ti135) .nil .nil) .nil) (.node (some Tryd.ti103) (.node none .nil .nil) .nil)) (.node (some Tryd.ti55) (.node (some Tryd.ti87) (.node (some Tryd.ti151) .nil .nil) .nil) (.node (some Tryd.ti119) .nil .nil)))) (.node (some Tryd.ti11) (.node (some Tryd.ti19) (.node (some Tryd.ti35) (.node (some Tryd.ti67) (.node (some Tryd.ti131) .nil .nil) .nil) (.node (some Tryd.ti99) (.node (some Tryd.ti163) .nil .nil) .nil)) (.node (some Tryd.ti51) (.node (some Tryd.ti83) (.node (some Tryd.ti147) .nil .nil) .nil) (.node (some Tryd.ti115) .nil .nil))) (.node (some Tryd.ti27) (.node (some Tryd.ti43) (.node (some Tryd.ti75) (.node (some Tryd.ti139) .nil .nil) .nil) (.node (some Tryd.ti107) .nil .nil)) (.node (some Tryd.ti59) (.node (some Tryd.ti91) (.node (some Tryd.ti155) .nil .nil) .nil) (.node (some Tryd.ti123) .nil .nil))))) (.node (some Tryd.ti5) (.node (some Tryd.ti9) (.node (some Tryd.ti17) (.node (some Tryd.ti33) (.node (some Tryd.ti65) (.node (some Tryd.ti129) .nil .nil) .nil) (.node (some Tryd.ti97) (.node (some Tryd.ti161) .nil .nil) .nil)) (.node (some Tryd.ti49) (.node (some Tryd.ti81) (.node (some Tryd.ti145) .nil .nil) .nil) (.node (some Tryd.ti113) .nil .nil))) (.node (some Tryd.ti25) (.node (some Tryd.ti41) (.node (some Tryd.ti73) (.node (some Tryd.ti137) .nil .nil) .nil) (.node (some Tryd.ti105) .nil .nil)) (.node (some Tryd.ti57) (.node (some Tryd.ti89) (.node (some Tryd.ti153) .nil .nil) .nil) (.node (some Tryd.ti121) .nil .nil)))) (.node (some Tryd.ti13) (.node (some Tryd.ti21) (.node (some Tryd.ti37) (.node (some Tryd.ti69) (.node (some Tryd.ti133) .nil .nil) .nil) (.node (some Tryd.ti101) (.node (some Tryd.ti165) .nil .nil) .nil)) (.node (some Tryd.ti53) (.node (some Tryd.ti85) (.node (some Tryd.ti149) .nil .nil) .nil) (.node (some Tryd.ti117) .nil .nil))) (.node (some Tryd.ti29) (.node (some Tryd.ti45) (.node (some Tryd.ti77) (.node (some Tryd.ti141) .nil .nil) .nil) (.node (some Tryd.ti109) .nil .nil)) (.node (some Tryd.ti61) (.node (some Tryd.ti93) (.node (some Tryd.ti157) .nil .nil) .nil) (.node (some Tryd.ti125) .nil .nil)))))) (.node (some Tryd.ti2) (.node (some Tryd.ti4) (.node (some Tryd.ti8) (.node (some Tryd.ti16) (.node (some Tryd.ti32) (.node (some Tryd.ti64) (.node (some Tryd.ti128) .nil .nil) .nil) (.node (some Tryd.ti96) (.node (some Tryd.ti160) .nil .nil) .nil)) (.node (some Tryd.ti48) (.node (some Tryd.ti80) (.node (some Tryd.ti144) .nil .nil) .nil) (.node (some Tryd.ti112) .nil .nil))) (.node (some Tryd.ti24) (.node (some Tryd.ti40) (.node (some Tryd.ti72) (.node (some Tryd.ti136) .nil .nil) .nil) (.node (some Tryd.ti104) .nil .nil)) (.node (some Tryd.ti56) (.node (some Tryd.ti88) (.node (some Tryd.ti152) .nil .nil) .nil) (.node (some Tryd.ti120) .nil .nil)))) (.node (some Tryd.ti12) (.node (some Tryd.ti20) (.node (some Tryd.ti36) (.node (some Tryd.ti68) (.node (some Tryd.ti132) .nil .nil) .nil) (.node (some Tryd.ti100) (.node (some Tryd.ti164) .nil .nil) .nil)) (.node (some Tryd.ti52) (.node (some Tryd.ti84) (.node (some Tryd.ti148) .nil .nil) .nil) (.node (some Tryd.ti116) .nil .nil))) (.node (some Tryd.ti28) (.node (some Tryd.ti44) (.node (some Tryd.ti76) (.node (some Tryd.ti140) .nil .nil) .nil) (.node (some Tryd.ti108) .nil .nil)) (.node (some Tryd.ti60) (.node (some Tryd.ti92) (.node (some Tryd.ti156) .nil .nil) .nil) (.node (some Tryd.ti124) .nil .nil))))) (.node (some Tryd.ti6) (.node (some Tryd.ti10) (.node (some Tryd.ti18) (.node (some Tryd.ti34) (.node (some Tryd.ti66) (.node (some Tryd.ti130) .nil .nil) .nil) (.node (some Tryd.ti98) (.node (some Tryd.ti162) .nil .nil) .nil)) (.node (some Tryd.ti50) (.node (some Tryd.ti82) (.node (some Tryd.ti146) .nil .nil) .nil) (.node (some Tryd.ti114) .nil .nil))) (.node (some Tryd.ti26) (.node (some Tryd.ti42) (.node (some Tryd.ti74) (.node (some Tryd.ti138) .nil .nil) .nil) (.node (some Tryd.ti106) .nil .nil)) (.node (some Tryd.ti58) (.node (some Tryd.ti90) (.node (some Tryd.ti154) .nil .nil) .nil) (.node (some Tryd.ti122) .nil .nil)))) (.node (some Tryd.ti14) (.node (some Tryd.ti22) (.node (some Tryd.ti38) (.node (some Tryd.ti70) (.node (some Tryd.ti134) .nil .nil) .nil) (.node (some Tryd.ti102) (.node (some Tryd.ti166) .nil .nil) .nil)) (.node (some Tryd.ti54) (.node (some Tryd.ti86) (.node (some Tryd.ti150) .nil .nil) .nil) (.node (some Tryd.ti118) .nil .nil))) (.node (some Tryd.ti30) (.node (some Tryd.ti46) (.node (some Tryd.ti78) (.node (some Tryd.ti142) .nil .nil) .nil) (.node (some Tryd.ti110) .nil .nil)) (.node (some Tryd.ti62) (.node (some Tryd.ti94) (.node (some Tryd.ti158) .nil .nil) .nil) (.node (some Tryd.ti126) .nil .nil)))))))
noncomputable def Tryd.kp3 : List Nat := [0, 1, 2, 3, 5, 6, 7, 8, 9, 10, 11, 12, 41]
noncomputable def Tryd.cf3 : CF := ⟨3, (cSeq (cOps [⟨some 3, true, none, iBox 27 (.t 0)⟩,
 ⟨some 5, true, none, iBox 29 (.t 2)⟩,
 ⟨some 6, true, none, iMov (.c (.bool (.lit false)))⟩])
 (cSeq (cOps [⟨some 14, false, none, iLoadN 23 (.t 3)⟩,
 ⟨some 15, false, none, iIaddrA 1 2 (.t 5) (.c (.int .i64 (.lit 0)))⟩,
 ⟨some 16, false, none, iLoad (.t 15)⟩,
 ⟨some 17, false, none, iCall (.c (.func (.func 14) [] [])) [(.t 14), (.t 16)]⟩,
 ⟨some 13, false, none, iMov (.t 17)⟩,
 ⟨some 18, false, none, iExtract 0 (.t 13)⟩,
 ⟨some 19, false, none, iExtract 1 (.t 13)⟩,
 ⟨some 7, true, none, iAlloc 23 [(.int .i64 (.lit 0)), (.int .i64 (.lit 0))]⟩,
 ⟨none, false, none, iStore 2 (.t 7) (.t 18)⟩,
 ⟨some 8, true, none, iMov (.t 19)⟩])
 (cSeq (cOps [⟨some 21, false, none, iLoadN 23 (.t 3)⟩,
 ⟨some 22, false, none, iIaddrA 1 2 (.t 5) (.c (.int .i64 (.lit 0)))⟩,
 ⟨some 23, false, none, iLoad (.t 22)⟩,
 ⟨some 24, false, none, iCall (.c (.func (.func 15) [] [])) [(.t 21), (.t 23)]⟩,
 ⟨some 20, false, none, iMov (.t 24)⟩,
 ⟨some 25, false, none, iExtract 0 (.t 20)⟩,
 ⟨some 26, false, none, iExtract 1 (.t 20)⟩,
 ⟨some 9, true, none, iAlloc 23 [(.int .i64 (.lit 0)), (.int .i64 (.lit 0))]⟩,
 ⟨none, false, none, iStore 2 (.t 9) (.t 25)⟩,
 ⟨some 10, true, none, iMov (.t 26)⟩])
 (cSeq (cSeq (dOps 0 [⟨⟨some 27, false, none, iLoadN 2 (.t 7)⟩, [7], false, 0, 0, none, []⟩,
 ⟨⟨some 28, false, none, iLoadN 2 (.t 9)⟩, [9], false, 0, 0, none, []⟩,
 ⟨⟨some 29, false, none, iEq true true 2 [(0, .int), (1, .int)] (.t 27) (.t 28)⟩, [27, 28], false, 0, 0, none, []⟩,
 ⟨⟨some 30, false, none, iMov (.t 29)⟩, [29], false, 0, 0, none, []⟩,
 ⟨⟨some 31, false, some (30, false), iMov (.t 8)⟩, [30, 8], false, 0, 0, none, []⟩,
 ⟨⟨some 32, false, some (30, false), iMov (.t 10)⟩, [30, 10], false, 0, 0, none, []⟩,
 ⟨⟨some 33, false, some (30, false), iCmp .neq (.t 31) (.t 32)⟩, [30, 31, 32], false, 0, 0, none, []⟩,
 ⟨⟨some 34, false, none, iPick (.t 30) (.c (.bool (.lit true))) (.t 33)⟩, [30, 33], false, 0, 0, none, []⟩,
 ⟨⟨some 35, false, none, iMov (.t 34)⟩, [34], false, 0, 0, none, []⟩,
 ⟨⟨some 36, false, some (35, false), iLoadN 23 (.t 3)⟩, [35, 3], false, 0, 0, none, []⟩,
 ⟨⟨some 37, false, some (35, false), iCall (.c (.func (.func 16) [] [])) [(.t 36)]⟩, [35, 36], true, 0, 0, none, []⟩,
 ⟨⟨some 38, false, some (35, false), iLoadN 23 (.t 3)⟩, [35, 3], false, 0, 1, none, []⟩,
 ⟨⟨some 39, false, some (35, false), iCall (.c (.func (.func 17) [] [])) [(.t 38)]⟩, [35, 38], true, 1, 0, none, []⟩,
 ⟨⟨some 40, false, some (35, false), iCmp .neq (.t 37) (.t 39)⟩, [35, 37, 39], false, 2, 2, none, []⟩,
 ⟨⟨some 41, true, none, iPick (.t 35) (.c (.bool (.lit true))) (.t 40)⟩, [35, 40], false, 2, 2, none, []⟩])
 (cCond (.t 41) (cSeq (cOps [⟨some 6, true, none, iMov (.c (.bool (.lit false)))⟩])
 cRet) cSkip))
 (cSeq (cOps [⟨some 43, false, none, iLoadN 23 (.t 3)⟩,
 ⟨some 44, false, none, iMov (.t 1)⟩,
 ⟨some 45, false, none, iIaddrA 1 2 (.t 5) (.c (.int .i64 (.lit 1)))⟩,
 ⟨some 46, false, none, iLoad (.t 45)⟩,
 ⟨some 47, false, none, iCall (.c (.func (.func 18) [] [])) [(.t 43), (.t 44), (.t 46)]⟩,
 ⟨some 42, false, none, iMov (.t 47)⟩,
 ⟨some 48, false, none, iExtract 0 (.t 42)⟩,
 ⟨some 49, false, none, iExtract 1 (.t 42)⟩,
 ⟨some 50, false, none, iExtract 2 (.t 42)⟩,
 ⟨some 11, true, none, iAlloc 23 [(.int .i64 (.lit 0)), (.int .i64 (.lit 0))]⟩,
 ⟨none, false, none, iStore 2 (.t 7) (.t 48)⟩,
 ⟨none, false, none, iStore 2 (.t 11) (.t 49)⟩,
 ⟨some 8, true, none, iMov (.t 50)⟩])
 (cSeq (cOps [⟨some 52, false, none, iLoadN 23 (.t 3)⟩,
 ⟨some 53, false, none, iMov (.t 1)⟩,
 ⟨some 54, false, none, iIaddrA 1 2 (.t 5) (.c (.int .i64 (.lit 1)))⟩,
 ⟨some 55, false, none, iLoad (.t 54)⟩,
 ⟨some 56, false, none, iCall (.c (.func (.func 19) [] [])) [(.t 52), (.t 53), (.t 55)]⟩,
 ⟨some 51, false, none, iMov (.t 56)⟩,
 ⟨some 57, false, none, iExtract 0 (.t 51)⟩,
 ⟨some 58, false, none, iExtract 1 (.t 51)⟩,
 ⟨some 59, false, none, iExtract 2 (.t 51)⟩,
 ⟨some 12, true, none, iAlloc 23 [(.int .i64 (.lit 0)), (.int .i64 (.lit 0))]⟩,
 ⟨none, false, none, iStore 2 (.t 9) (.t 57)⟩,
 ⟨none, false, none, iStore 2 (.t 12) (.t 58)⟩,
 ⟨some 10, true, none, iMov (.t 59)⟩])
 (cSeq (cOps [⟨some 60, false, none, iLoadN 2 (.t 7)⟩,
 ⟨some 61, false, none, iLoadN 2 (.t 9)⟩,
 ⟨some 62, false, none, iEq false true 2 [(0, .int), (1, .int)] (.t 60) (.t 61)⟩,
 ⟨some 63, false, none, iMov (.t 62)⟩,
 ⟨some 64, false, some (63, true), iLoadN 2 (.t 11)⟩,
 ⟨some 65, false, some (63, true), iLoadN 2 (.t 12)⟩,
 ⟨some 66, false, some (63, true), iEq false true 2 [(0, .int), (1, .int)] (.t 64) (.t 65)⟩,
 ⟨some 67, false, none, iPick (.t 63) (.t 66) (.c (.bool (.lit false)))⟩,
 ⟨some 68, false, none, iMov (.t 67)⟩,
 ⟨some 69, false, some (68, true), iMov (.t 8)⟩,
 ⟨some 70, false, some (68, true), iMov (.t 10)⟩,
 ⟨some 71, false, some (68, true), iCmp .eql (.t 69) (.t 70)⟩,
 ⟨some 72, false, none, iPick (.t 68) (.t 71) (.c (.bool (.lit false)))⟩,
 ⟨some 73, false, none, iMov (.t 72)⟩,
 ⟨some 74, false, some (73, true), iCall (.c (.func (.func 20) [] [])) []⟩,
 ⟨some 75, false, none, iPick (.t 73) (.t 74) (.c (.bool (.lit false)))⟩,
 ⟨some 6, true, none, iMov (.t 75)⟩])
 cRet))))))), [.t 6]⟩
noncomputable def Tryd.kp14 : List Nat := [0, 1, 2, 4, 5, 6, 7, 14, 23]
noncomputable def Tryd.cf14 : CF := ⟨2, (cSeq (cOps [⟨some 2, true, none, iBox 27 (.t 0)⟩,
 ⟨some 4, true, none, iAlloc 23 [(.int .i64 (.lit 0)), (.int .i64 (.lit 0))]⟩,
 ⟨some 5, true, none, iMov (.c (.int .i64 (.lit 0)))⟩])
 (cSeq (cOps [⟨some 9, false, none, iLoadN 23 (.t 2)⟩,
 ⟨some 10, false, none, iCall (.c (.func (.func 48) [] [])) [(.t 9)]⟩,
 ⟨some 8, false, none, iMov (.t 10)⟩,
 ⟨some 11, false, none, iExtract 0 (.t 8)⟩,
 ⟨some 12, false, none, iExtract 1 (.t 8)⟩,
 ⟨some 6, true, none, iAlloc 78 [(.int .i64 (.lit 0)), (.int .i64 (.lit 0)), (.int .i64 (.lit 0)), (.int .i64 (.lit 0)), (.int .i64 (.lit 0)), (.int .i64 (.lit 0)), (.int .i64 (.lit 0)), (.int .i64 (.lit 0)), (.int .i64 (.lit 0)), (.int .i64 (.lit 0)), (.int .i64 (.lit 0)), (.int .i64 (.lit 0)), (.int .i64 (.lit 0)), (.int .i64 (.lit 0)), (.int .i64 (.lit 0)), (.int .i64 (.lit 0)), (.int .i64 (.lit 0)), (.int .i64 (.lit 0)), (.int .i64 (.lit 0)), (.int .i64 (.lit 0)), (.int .i64 (.lit 0)), (.int .i64 (.lit 0)), .nilslice, (.int .i64 (.lit 0)), (.int .i64 (.lit 0)), (.int .i64 (.lit 0)), (.int .i64 (.lit 0)), (.int .i64 (.lit 0)), (.int .i64 (.lit 0)), (.int .i64 (.lit 0)), (.int .i64 (.lit 0)), (.int .i64 (.lit 0)), (.int .i64 (.lit 0)), (.int .i64 (.lit 0)), (.int .i64 (.lit 0)), (.int .i64 (.lit 0)), (.int .i64 (.lit 0)), (.int .i64 (.lit 0)), (.int .i64 (.lit 0))]⟩,
 ⟨none, false, none, iStore 39 (.t 6) (.t 11)⟩,
 ⟨some 7, true, none, iMov (.t 12)⟩])
 (cSeq (cSeq (cOps [⟨some 13, false, none, iMov (.t 7)⟩,
 ⟨some 14, true, none, iCmp .neq (.t 13) (.c (.int .i64 (.lit 0)))⟩])
 (cCond (.t 14) (cSeq (cOps [⟨some 15, false, none, iBuild [(.int .i64 (.lit 0)), (.int .i64 (.lit 0))] []⟩,
 ⟨some 16, false, none, iMov (.t 7)⟩,
 ⟨none, false, none, iStore 2 (.t 4) (.t 15)⟩,
 ⟨some 5, true, none, iMov (.t 16)⟩])
 cRet) cSkip))
 (cSeq (cSeq (cOps [⟨some 17, false, none, iMov (.t 1)⟩,
 ⟨some 18, false, none, iFaddr 0 (.t 6)⟩,
 ⟨some 19, false, none, iFaddr 5 (.t 18)⟩,
 ⟨some 20, false, none, iLoad (.t 19)⟩,
 ⟨some 21, false, none, iBuild [(.int .i64 (.lit 0)), (.int .i64 (.lit 0))] [(0, 1, (.c (.int .i64 (.lit 0)))), (1, 1, (.t 20))]⟩,
 ⟨some 22, false, none, iCall (.c (.func (.func 49) [] [])) [(.t 17), (.t 21)]⟩,
 ⟨some 23, true, none, iNot (.t 22)⟩])
 (cCond (.t 23) (cSeq (cOps [⟨some 24, false, none, iBuild [(.int .i64 (.lit 0)), (.int .i64 (.lit 0))] []⟩,
 ⟨none, false, none, iStore 2 (.t 4) (.t 24)⟩,
 ⟨some 5, true, none, iMov (.c (.int .i64 (.lit 41)))⟩])
 cRet) cSkip))
 (cSeq (cOps [⟨some 25, false, none, iLoadN 39 (.t 6)⟩,
 ⟨some 26, false, none, iMov (.t 1)⟩,
 ⟨some 27, false, none, iCall (.c (.func (.func 50) [] [])) [(.t 25), (.t 26)]⟩,
 ⟨none, false, none, iStore 2 (.t 4) (.t 27)⟩,
 ⟨some 5, true, none, iMov (.c (.int .i64 (.lit 0)))⟩])
 cRet))))), [.cell 4 true 2, .t 5]⟩
noncomputable def Tryd.kp15 : List Nat := [0, 1, 2, 4, 5, 6, 10, 17, 22]
noncomputable def Tryd.cf15 : CF := ⟨2, (cSeq (cOps [⟨some 2, true, none, iBox 27 (.t 0)⟩,
 ⟨some 4, true, none, iAlloc 23 [(.int .i64 (.lit 0)), (.int .i64 (.lit 0))]⟩,
 ⟨some 5, true, none, iMov (.c (.int .i64 (.lit 0)))⟩])
 (cSeq (cSeq (cOps [⟨some 7, false, none, iLoadN 23 (.t 2)⟩,
 ⟨some 8, false, none, iCall (.c (.func (.func 17) [] [])) [(.t 7)]⟩,
 ⟨some 6, true, none, iMov (.t 8)⟩])
 (cSeq (cOps [⟨some 9, false, none, iMov (.t 6)⟩,
 ⟨some 10, true, none, iCmp .neq (.t 9) (.c (.int .i64 (.lit 0)))⟩])
 (cCond (.t 10) (cSeq (cOps [⟨some 11, false, none, iBuild [(.int .i64 (.lit 0)), (.int .i64 (.lit 0))] []⟩,
 ⟨some 12, false, none, iMov (.t 6)⟩,
 ⟨none, false, none, iStore 2 (.t 4) (.t 11)⟩,
 ⟨some 5, true, none, iMov (.t 12)⟩])
 cRet) cSkip)))
 (cSeq (cSeq (cOps [⟨some 13, false, none, iMov (.t 1)⟩,
 ⟨some 14, false, none, iFaddr 5 (.t 2)⟩,
 ⟨some 15, false, none, iLoad (.t 14)⟩,
 ⟨some 16, false, none, iCall (.c (.func (.func 37) [] [])) [(.t 13), (.c (.int .i64 (.lit 0))), (.t 15)]⟩,
 ⟨some 17, true, none, iNot (.t 16)⟩])
 (cCond (.t 17) (cSeq (cOps [⟨some 18, false, none, iBuild [(.int .i64 (.lit 0)), (.int .i64 (.lit 0))] []⟩,
 ⟨none, false, none, iStore 2 (.t 4) (.t 18)⟩,
 ⟨some 5, true, none, iMov (.c (.int .i64 (.lit 41)))⟩])
 cRet) cSkip))
 (cSeq (cSeq (cOps [⟨some 19, false, none, iMov (.t 1)⟩,
 ⟨some 20, false, none, iFaddr 20 (.t 2)⟩,
 ⟨some 21, false, none, iLoad (.t 20)⟩,
 ⟨some 22, true, none, iCmp .lss (.t 19) (.t 21)⟩])
 (cCond (.t 22) (cSeq (cOps [⟨some 23, false, none, iFaddr 18 (.t 2)⟩,
 ⟨some 24, false, none, iLoadN 2 (.t 23)⟩,
 ⟨none, false, none, iStore 2 (.t 4) (.t 24)⟩,
 ⟨some 5, true, none, iMov (.c (.int .i64 (.lit 0)))⟩])
 cRet) cSkip))
 (cSeq (cOps [⟨some 25, false, none, iFaddr 16 (.t 2)⟩,
 ⟨some 26, false, none, iLoadN 2 (.t 25)⟩,
 ⟨none, false, none, iStore 2 (.t 4) (.t 26)⟩,
 ⟨some 5, true, none, iMov (.c (.int .i64 (.lit 0)))⟩])
 cRet))))), [.cell 4 true 2, .t 5]⟩
noncomputable def Tryd.kp16 : List Nat := [0, 1, 2, 5]
noncomputable def Tryd.cf16 : CF := ⟨1, (cSeq (cOps [⟨some 1, true, none, iBox 27 (.t 0)⟩,
 ⟨some 2, true, none, iMov (.c (.int .i64 (.lit 0)))⟩])
 (cSeq (cSeq (cOps [⟨some 3, false, none, iLoadN 23 (.t 1)⟩,
 ⟨some 4, false, none, iCall (.c (.func (.func 51) [] [])) [(.t 3)]⟩,
 ⟨some 5, true, none, iNot (.t 4)⟩])
 (cCond (.t 5) (cSeq (cOps [⟨some 2, true, none, iMov (.c (.int .i64 (.lit 40)))⟩])
 cRet) cSkip))
 (cSeq (cOps [⟨some 2, true, none, iMov (.c (.int .i64 (.lit 0)))⟩])
 cRet))), [.t 2]⟩
noncomputable def Tryd.kp17 : List Nat := [0, 1, 2, 3, 4, 5, 86, 111, 131]
noncomputable def Tryd.cf17 : CF := ⟨1, (cSeq (cOps [⟨some 1, true, none, iBox 27 (.t 0)⟩,
 ⟨some 2, true, none, iMov (.c (.int .i64 (.lit 0)))⟩])
 (cSeq (cOps [⟨some 6, false, none, iFaddr 4 (.t 1)⟩,
 ⟨some 7, false, none, iLoad (.t 6)⟩,
 ⟨some 8, false, none, iCall (.c (.func (.func 37) [] [])) [(.t 7), (.c (.int .i64 (.lit 1))), (.c (.int .i64 (.lit 99)))]⟩,
 ⟨some 9, false, none, iMov (.t 8)⟩,
 ⟨some 10, false, some (9, true), iFaddr 5 (.t 1)⟩,
 ⟨some 11, false, some (9, true), iLoad (.t 10)⟩,
 ⟨some 12, false, some (9, true), iCall (.c (.func (.func 37) [] [])) [(.t 11), (.c (.int .i64 (.lit 1))), (.c (.int .i64 (.lit 99)))]⟩,
 ⟨some 13, false, none, iPick (.t 9) (.t 12) (.c (.bool (.lit false)))⟩,
 ⟨some 14, false, none, iMov (.t 13)⟩,
 ⟨some 15, false, some (14, true), iFaddr 0 (.t 1)⟩,
 ⟨some 16, false, some (14, true), iLoadN 2 (.t 15)⟩,
 ⟨some 17, false, some (14, true), iFaddr 4 (.t 1)⟩,
 ⟨some 18, false, some (14, true), iLoad (.t 17)⟩,
 ⟨some 19, false, some (14, true), iCall (.c (.func (.func 52) [] [])) [(.t 16), (.c (.int .i64 (.lit 0))), (.t 18)]⟩,
 ⟨some 20, false, none, iPick (.t 14) (.t 19) (.c (.bool (.lit false)))⟩,
 ⟨some 21, false, none, iMov (.t 20)⟩,
 ⟨some 22, false, some (21, true), iFaddr 2 (.t 1)⟩,
 ⟨some 23, false, some (21, true), iLoadN 2 (.t 22)⟩,
 ⟨some 24, false, some (21, true), iFaddr 5 (.t 1)⟩,
 ⟨some 25, false, some (21, true), iLoad (.t 24)⟩,
 ⟨some 26, false, some (21, true), iCall (.c (.func (.func 52) [] [])) [(.t 23), (.c (.int .i64 (.lit 0))), (.t 25)]⟩,
 ⟨some 27, false, none, iPick (.t 21) (.t 26) (.c (.bool (.lit false)))⟩,
 ⟨some 28, false, none, iMov (.t 27)⟩,
 ⟨some 29, false, some (28, true), iFaddr 6 (.t 1)⟩,
 ⟨some 30, false, some (28, true), iLoad (.t 29)⟩,
 ⟨some 31, false, some (28, true), iCall (.c (.func (.func 37) [] [])) [(.t 30), (.c (.int .i64 (.lit 1))), (.c (.int .i64 (.lit 20)))]⟩,
 ⟨some 32, false, none, iPick (.t 28) (.t 31) (.c (.bool (.lit false)))⟩,
 ⟨some 33, false, none, iMov (.t 32)⟩,
 ⟨some 34, false, some (33, true), iFaddr 7 (.t 1)⟩,
 ⟨some 35, false, some (33, true), iLoad (.t 34)⟩,
 ⟨some 36, false, some (33, true), iCall (.c (.func (.func 37) [] [])) [(.t 35), (.c (.int .i64 (.lit 1))), (.c (.int .i64 (.lit 20)))]⟩,
 ⟨some 37, false, none, iPick (.t 33) (.t 36) (.c (.bool (.lit false)))⟩,
 ⟨some 38, false, none, iMov (.t 37)⟩,
 ⟨some 39, false, some (38, true), iFaddr 20 (.t 1)⟩,
 ⟨some 40, false, some (38, true), iLoad (.t 39)⟩,
 ⟨some 41, false, some (38, true), iFaddr 5 (.t 1)⟩,
 ⟨some 42, false, some (38, true), iLoad (.t 41)⟩,
 ⟨some 43, false, some (38, true), iCall (.c (.func (.func 37) [] [])) [(.t 40), (.c (.int .i64 (.lit 0))), (.t 42)]⟩,
 ⟨some 44, false, none, iPick (.t 38) (.t 43) (.c (.bool (.lit false)))⟩,
 ⟨some 45, false, none, iMov (.t 44)⟩,
 ⟨some 46, false, some (45, true), iFaddr 21 (.t 1)⟩,
 ⟨some 47, false, some (45, true), iLoad (.t 46)⟩,
 ⟨some 48, false, some (45, true), iCall (.c (.func (.func 37) [] [])) [(.t 47), (.c (.int .i64 (.lit 0))), (.c (.int .i64 (.lit 60)))]⟩,
 ⟨some 49, false, none, iPick (.t 45) (.t 48) (.c (.bool (.lit false)))⟩,
 ⟨some 3, true, none, iMov (.t 49)⟩])
 (cSeq (cOps [⟨some 50, false, none, iMov (.t 3)⟩,
 ⟨some 51, false, none, iMov (.t 50)⟩,
 ⟨some 52, false, some (51, true), iFaddr 16 (.t 1)⟩,
 ⟨some 53, false, some (51, true), iLoadN 2 (.t 52)⟩,
 ⟨some 54, false, some (51, true), iCall (.c (.func (.func 52) [] [])) [(.t 53), (.c (.int .i64 (.lit 0))), (.c (.int .i64 (.lit 60)))]⟩,
 ⟨some 55, false, none, iPick (.t 51) (.t 54) (.c (.bool (.lit false)))⟩,
 ⟨some 56, false, none, iMov (.t 55)⟩,
 ⟨some 57, false, some (56, true), iFaddr 18 (.t 1)⟩,
 ⟨some 58, false, some (56, true), iLoadN 2 (.t 57)⟩,
 ⟨some 59, false, some (56, true), iCall (.c (.func (.func 52) [] [])) [(.t 58), (.c (.int .i64 (.lit 0))), (.c (.int .i64 (.lit 60)))]⟩,
 ⟨some 60, false, none, iPick (.t 56) (.t 59) (.c (.bool (.lit false)))⟩,
 ⟨some 61, false, none, iMov (.t 60)⟩,
 ⟨some 62, false, some (61, true), iFaddr 18 (.t 1)⟩,
 ⟨some 63, false, some (61, true), iFaddr 0 (.t 62)⟩,
 ⟨some 64, false, some (61, true), iLoad (.t 63)⟩,
 ⟨some 65, false, some (61, true), iFaddr 16 (.t 1)⟩,
 ⟨some 66, false, some (61, true), iFaddr 0 (.t 65)⟩,
 ⟨some 67, false, some (61, true), iLoad (.t 66)⟩,
 ⟨some 68, false, some (61, true), iCmp .leq (.t 64) (.t 67)⟩,
 ⟨some 69, false, none, iPick (.t 61) (.t 68) (.c (.bool (.lit false)))⟩,
 ⟨some 70, false, none, iMov (.t 69)⟩,
 ⟨some 71, false, some (70, true), iFaddr 18 (.t 1)⟩,
 ⟨some 72, false, some (70, true), iFaddr 1 (.t 71)⟩,
 ⟨some 73, false, some (70, true), iLoad (.t 72)⟩,
 ⟨some 74, false, some (70, true), iFaddr 16 (.t 1)⟩,
 ⟨some 75, false, some (70, true), iFaddr 1 (.t 74)⟩,
 ⟨some 76, false, some (70, true), iLoad (.t 75)⟩,
 ⟨some 77, false, some (70, true), iCmp .leq (.t 73) (.t 76)⟩,
 ⟨some 78, false, none, iPick (.t 70) (.t 77) (.c (.bool (.lit false)))⟩,
 ⟨some 79, false, none, iMov (.t 78)⟩,
 ⟨some 80, false, some (79, true), iFaddr 22 (.t 1)⟩,
 ⟨some 81, false, some (79, true), iLoad (.t 80)⟩,
 ⟨some 82, false, some (79, true), iLenS (.t 81)⟩,
 ⟨some 83, false, some (79, true), iCall (.c (.func (.func 37) [] [])) [(.t 82), (.c (.int .i64 (.lit 1))), (.c (.int .i64 (.lit 5)))]⟩,
 ⟨some 84, false, none, iPick (.t 79) (.t 83) (.c (.bool (.lit false)))⟩,
 ⟨some 3, true, none, iMov (.t 84)⟩])
 (cSeq (cSeq (cOps [⟨some 4, true, none, iMov (.c (.int .i64 (.lit 0)))⟩])
 (cBlock 0 (cLoop (cSeq (cSeq (cOps [⟨some 85, false, none, iMov (.t 4)⟩,
 ⟨some 86, true, none, iCmp .lss (.t 85) (.c (.int .i64 (.lit 2)))⟩])
 (cCond (.t 86) cSkip (cExit 0)))
 (cSeq (cBlock 1 (cOps [⟨some 89, false, none, iMov (.t 3)⟩,
 ⟨some 90, false, none, iMov (.t 89)⟩,
 ⟨some 91, false, some (90, true), iMov (.t 4)⟩,
 ⟨some 92, false, some (90, true), iFaddr 8 (.t 1)⟩,
 ⟨some 93, false, some (90, true), iIaddrA 2 2 (.t 92) (.t 91)⟩,
 ⟨some 94, false, some (90, true), iLoadN 2 (.t 93)⟩,
 ⟨some 95, false, some (90, true), iCall (.c (.func (.func 52) [] [])) [(.t 94), (.c (.int .i64 (.lit 0))), (.c (.int .i64 (.lit 3)))]⟩,
 ⟨some 96, false, none, iPick (.t 90) (.t 95) (.c (.bool (.lit false)))⟩,
 ⟨some 97, false, none, iMov (.t 96)⟩,
 ⟨some 98, false, some (97, true), iMov (.t 4)⟩,
 ⟨some 99, false, some (97, true), iFaddr 12 (.t 1)⟩,
 ⟨some 100, false, some (97, true), iIaddrA 2 2 (.t 99) (.t 98)⟩,
 ⟨some 101, false, some (97, true), iLoadN 2 (.t 100)⟩,
 ⟨some 102, false, some (97, true), iCall (.c (.func (.func 52) [] [])) [(.t 101), (.c (.int .i64 (.lit 0))), (.c (.int .i64 (.lit 3)))]⟩,
 ⟨some 103, false, none, iPick (.t 97) (.t 102) (.c (.bool (.lit false)))⟩,
 ⟨some 3, true, none, iMov (.t 103)⟩]))
 (cOps [⟨some 87, false, none, iMov (.t 4)⟩,
 ⟨some 88, false, none, iArith .add (.t 87) (.c (.int .i64 (.lit 1)))⟩,
 ⟨some 4, true, none, iMov (.t 88)⟩]))))))
 (cSeq (cSeq (cOps [⟨some 5, true, none, iMov (.c (.int .i64 (.lit 0)))⟩])
 (cBlock 2 (cLoop (cSeq (cSeq (cOps [⟨some 104, false, none, iMov (.t 3)⟩,
 ⟨some 105, false, none, iMov (.t 104)⟩,
 ⟨some 106, false, some (105, true), iMov (.t 5)⟩,
 ⟨some 107, false, some (105, true), iFaddr 22 (.t 1)⟩,
 ⟨some 108, false, some (105, true), iLoad (.t 107)⟩,
 ⟨some 109, false, some (105, true), iLenS (.t 108)⟩,
 ⟨some 110, false, some (105, true), iCmp .lss (.t 106) (.t 109)⟩,
 ⟨some 111, true, none, iPick (.t 105) (.t 110) (.c (.bool (.lit false)))⟩])
 (cCond (.t 111) cSkip (cExit 2)))
 (cSeq (cBlock 3 (cOps [⟨some 114, false, none, iFaddr 22 (.t 1)⟩,
 ⟨some 115, false, none, iLoad (.t 114)⟩,
 ⟨some 116, false, none, iMov (.t 5)⟩,
 ⟨some 117, false, none, iIaddr 4 (.t 115) (.t 116)⟩,
 ⟨some 118, false, none, iFaddr 0 (.t 117)⟩,
 ⟨some 119, false, none, iLoadN 2 (.t 118)⟩,
 ⟨some 120, false, none, iCall (.c (.func (.func 52) [] [])) [(.t 119), (.c (.int .i64 (.lit 1))), (.c (.int .i64 (.lit 60)))]⟩,
 ⟨some 121, false, none, iMov (.t 120)⟩,
 ⟨some 122, false, some (121, true), iFaddr 22 (.t 1)⟩,
 ⟨some 123, false, some (121, true), iLoad (.t 122)⟩,
 ⟨some 124, false, some (121, true), iMov (.t 5)⟩,
 ⟨some 125, false, some (121, true), iIaddr 4 (.t 123) (.t 124)⟩,
 ⟨some 126, false, some (121, true), iFaddr 3 (.t 125)⟩,
 ⟨some 127, false, some (121, true), iLoad (.t 126)⟩,
 ⟨some 128, false, some (121, true), iCall (.c (.func (.func 37) [] [])) [(.t 127), (.c (.int .i64 (.lit 0))), (.c (.int .i64 (.lit 5)))]⟩,
 ⟨some 129, false, none, iPick (.t 121) (.t 128) (.c (.bool (.lit false)))⟩,
 ⟨some 3, true, none, iMov (.t 129)⟩]))
 (cOps [⟨some 112, false, none, iMov (.t 5)⟩,
 ⟨some 113, false, none, iArith .add (.t 112) (.c (.int .i64 (.lit 1)))⟩,
 ⟨some 5, true, none, iMov (.t 113)⟩]))))))
 (cSeq (cSeq (cOps [⟨some 130, false, none, iMov (.t 3)⟩,
 ⟨some 131, true, none, iNot (.t 130)⟩])
 (cCond (.t 131) (cSeq (cOps [⟨some 2, true, none, iMov (.c (.int .i64 (.lit 40)))⟩])
 cRet) cSkip))
 (cSeq (cOps [⟨some 2, true, none, iMov (.c (.int .i64 (.lit 0)))⟩])
 cRet))))))), [.t 2]⟩
noncomputable def Tryd.kp18 : List Nat := [0, 1, 2, 3, 6, 7, 8, 9, 16, 29]
noncomputable def Tryd.cf18 : CF := ⟨3, (cSeq (cOps [⟨some 3, true, none, iBox 27 (.t 0)⟩,
 ⟨some 6, true, none, iAlloc 23 [(.int .i64 (.lit 0)), (.int .i64 (.lit 0))]⟩,
 ⟨some 7, true, none, iAlloc 23 [(.int .i64 (.lit 0)), (.int .i64 (.lit 0))]⟩,
 ⟨some 8, true, none, iMov (.c (.int .i64 (.lit 0)))⟩])
 (cSeq (cOps [⟨some 11, false, none, iLoadN 23 (.t 3)⟩,
 ⟨some 12, false, none, iCall (.c (.func (.func 48) [] [])) [(.t 11)]⟩,
 ⟨some 10, false, none, iMov (.t 12)⟩,
 ⟨some 13, false, none, iExtract 0 (.t 10)⟩,
 ⟨some 14, false, none, iExtract 1 (.t 10)⟩,
 ⟨some 9, true, none, iAlloc 78 [(.int .i64 (.lit 0)), (.int .i64 (.lit 0)), (.int .i64 (.lit 0)), (.int .i64 (.lit 0)), (.int .i64 (.lit 0)), (.int .i64 (.lit 0)), (.int .i64 (.lit 0)), (.int .i64 (.lit 0)), (.int .i64 (.lit 0)), (.int .i64 (.lit 0)), (.int .i64 (.lit 0)), (.int .i64 (.lit 0)), (.int .i64 (.lit 0)), (.int .i64 (.lit 0)), (.int .i64 (.lit 0)), (.int .i64 (.lit 0)), (.int .i64 (.lit 0)), (.int .i64 (.lit 0)), (.int .i64 (.lit 0)), (.int .i64 (.lit 0)), (.int .i64 (.lit 0)), (.int .i64 (.lit 0)), .nilslice, (.int .i64 (.lit 0)), (.int .i64 (.lit 0)), (.int .i64 (.lit 0)), (.int .i64 (.lit 0)), (.int .i64 (.lit 0)), (.int .i64 (.lit 0)), (.int .i64 (.lit 0)), (.int .i64 (.lit 0)), (.int .i64 (.lit 0)), (.int .i64 (.lit 0)), (.int .i64 (.lit 0)), (.int .i64 (.lit 0)), (.int .i64 (.lit 0)), (.int .i64 (.lit 0)), (.int .i64 (.lit 0)), (.int .i64 (.lit 0))]⟩,
 ⟨none, false, none, iStore 39 (.t 9) (.t 13)⟩,
 ⟨some 8, true, none, iMov (.t 14)⟩])
 (cSeq (cSeq (cOps [⟨some 15, false, none, iMov (.t 8)⟩,
 ⟨some 16, true, none, iCmp .neq (.t 15) (.c (.int .i64 (.lit 0)))⟩])
 (cCond (.t 16) (cSeq (cOps [⟨some 17, false, none, iBuild [(.int .i64 (.lit 0)), (.int .i64 (.lit 0))] []⟩,
 ⟨some 18, false, none, iBuild [(.int .i64 (.lit 0)), (.int .i64 (.lit 0))] []⟩,
 ⟨some 19, false, none, iMov (.t 8)⟩,
 ⟨none, false, none, iStore 2 (.t 6) (.t 17)⟩,
 ⟨none, false, none, iStore 2 (.t 7) (.t 18)⟩,
 ⟨some 8, true, none, iMov (.t 19)⟩])
 cRet) cSkip))
 (cSeq (cSeq (cOps [⟨some 20, false, none, iLoadN 39 (.t 9)⟩,
 ⟨some 21, false, none, iMov (.t 1)⟩,
 ⟨some 22, false, none, iCall (.c (.func (.func 53) [] [])) [(.t 20), (.t 21)]⟩,
 ⟨some 23, false, none, iNot (.t 22)⟩,
 ⟨some 24, false, none, iMov (.t 23)⟩,
 ⟨some 25, false, some (24, false), iLoadN 39 (.t 9)⟩,
 ⟨some 26, false, some (24, false), iMov (.t 2)⟩,
 ⟨some 27, false, some (24, false), iCall (.c (.func (.func 54) [] [])) [(.t 25), (.t 26)]⟩,
 ⟨some 28, false, some (24, false), iNot (.t 27)⟩,
 ⟨some 29, true, none, iPick (.t 24) (.c (.bool (.lit true))) (.t 28)⟩])
 (cCond (.t 29) (cSeq (cOps [⟨some 30, false, none, iBuild [(.int .i64 (.lit 0)), (.int .i64 (.lit 0))] []⟩,
 ⟨some 31, false, none, iBuild [(.int .i64 (.lit 0)), (.int .i64 (.lit 0))] []⟩,
 ⟨none, false, none, iStore 2 (.t 6) (.t 30)⟩,
 ⟨none, false, none, iStore 2 (.t 7) (.t 31)⟩,
 ⟨some 8, true, none, iMov (.c (.int .i64 (.lit 41)))⟩])
 cRet) cSkip))
 (cSeq (dOps 0 [⟨⟨some 32, false, none, iLoadN 39 (.t 9)⟩, [9], false, 0, 0, none, []⟩,
 ⟨⟨some 33, false, none, iMov (.t 1)⟩, [1], false, 0, 0, none, []⟩,
 ⟨⟨some 34, false, none, iMov (.t 2)⟩, [2], false, 0, 0, none, []⟩,
 ⟨⟨some 35, false, none, iArith .add (.t 34) (.c (.int .i64 (.lit 1)))⟩, [34], false, 0, 0, none, []⟩,
 ⟨⟨some 36, false, none, iMov (.t 2)⟩, [2], false, 0, 0, none, []⟩,
 ⟨⟨some 37, false, none, iArith .add (.t 36) (.c (.int .i64 (.lit 1)))⟩, [36], false, 0, 0, none, []⟩,
 ⟨⟨some 38, false, none, iSlice 2 (.t 33) none (some (.t 35)) (some (.t 37))⟩, [33, 35, 37], false, 0, 0, none, []⟩,
 ⟨⟨some 39, false, none, iCall (.c (.func (.func 55) [] [])) [(.t 32), (.t 38)]⟩, [32, 38], true, 0, 0, none, []⟩,
 ⟨⟨some 40, false, none, iExtract 0 (.t 39)⟩, [39], false, 1, 1, none, []⟩,
 ⟨⟨some 41, false, none, iExtract 1 (.t 39)⟩, [39], false, 1, 1, none, []⟩,
 ⟨⟨some 42, false, none, iExtract 2 (.t 39)⟩, [39], false, 1, 1, none, []⟩,
 ⟨⟨none, false, none, iStore 2 (.t 6) (.t 40)⟩, [6, 40], true, 1, 0, none, []⟩,
 ⟨⟨none, false, none, iStore 2 (.t 7) (.t 41)⟩, [7, 41], true, 2, 0, none, []⟩,
 ⟨⟨some 8, true, none, iMov (.t 42)⟩, [42], false, 3, 3, none, []⟩])
 cRet))))), [.cell 6 true 2, .cell 7 true 2, .t 8]⟩
noncomputable def Tryd.kp19 : List Nat := [0, 1, 2, 3, 6, 7, 8, 9, 10, 11, 15, 31, 38, 56]
noncomputable def Tryd.cf19 : CF := ⟨3, (cSeq (cOps [⟨some 3, true, none, iBox 27 (.t 0)⟩,
 ⟨some 6, true, none, iAlloc 23 [(.int .i64 (.lit 0)), (.int .i64 (.lit 0))]⟩,
 ⟨some 7, true, none, iAlloc 23 [(.int .i64 (.lit 0)), (.int .i64 (.lit 0))]⟩,
 ⟨some 8, true, none, iMov (.c (.int .i64 (.lit 0)))⟩])
 (cSeq (cSeq (cOps [⟨some 12, false, none, iLoadN 23 (.t 3)⟩,
 ⟨some 13, false, none, iCall (.c (.func (.func 17) [] [])) [(.t 12)]⟩,
 ⟨some 9, true, none, iMov (.t 13)⟩])
 (cSeq (cOps [⟨some 14, false, none, iMov (.t 9)⟩,
 ⟨some 15, true, none, iCmp .neq (.t 14) (.c (.int .i64 (.lit 0)))⟩])
 (cCond (.t 15) (cSeq (cOps [⟨some 16, false, none, iBuild [(.int .i64 (.lit 0)), (.int .i64 (.lit 0))] []⟩,
 ⟨some 17, false, none, iBuild [(.int .i64 (.lit 0)), (.int .i64 (.lit 0))] []⟩,
 ⟨some 18, false, none, iMov (.t 9)⟩,
 ⟨none, false, none, iStore 2 (.t 6) (.t 16)⟩,
 ⟨none, false, none, iStore 2 (.t 7) (.t 17)⟩,
 ⟨some 8, true, none, iMov (.t 18)⟩])
 cRet) cSkip)))
 (cSeq (cSeq (cOps [⟨some 19, false, none, iLoadN 23 (.t 3)⟩,
 ⟨some 20, false, none, iMov (.t 1)⟩,
 ⟨some 21, false, none, iCall (.c (.func (.func 56) [] [])) [(.t 19), (.t 20)]⟩,
 ⟨some 22, false, none, iNot (.t 21)⟩,
 ⟨some 23, false, none, iMov (.t 22)⟩,
 ⟨some 24, false, some (23, false), iMov (.t 2)⟩,
 ⟨some 25, false, some (23, false), iFaddr 22 (.t 3)⟩,
 ⟨some 26, false, some (23, false), iLoad (.t 25)⟩,
 ⟨some 27, false, some (23, false), iLenS (.t 26)⟩,
 ⟨some 28, false, some (23, false), iArith .sub (.t 27) (.c (.int .i64 (.lit 1)))⟩,
 ⟨some 29, false, some (23, false), iCall (.c (.func (.func 37) [] [])) [(.t 24), (.c (.int .i64 (.lit 0))), (.t 28)]⟩,
 ⟨some 30, false, some (23, false), iNot (.t 29)⟩,
 ⟨some 31, true, none, iPick (.t 23) (.c (.bool (.lit true))) (.t 30)⟩])
 (cCond (.t 31) (cSeq (cOps [⟨some 32, false, none, iBuild [(.int .i64 (.lit 0)), (.int .i64 (.lit 0))] []⟩,
 ⟨some 33, false, none, iBuild [(.int .i64 (.lit 0)), (.int .i64 (.lit 0))] []⟩,
 ⟨none, false, none, iStore 2 (.t 6) (.t 32)⟩,
 ⟨none, false, none, iStore 2 (.t 7) (.t 33)⟩,
 ⟨some 8, true, none, iMov (.c (.int .i64 (.lit 41)))⟩])
 cRet) cSkip))
 (cSeq (cOps [⟨some 34, false, none, iLoadN 23 (.t 3)⟩,
 ⟨some 35, false, none, iCall (.c (.func (.func 57) [] [])) [(.t 34)]⟩,
 ⟨some 10, true, none, iAlloc 88 [(.int .i64 (.lit 0)), (.int .i64 (.lit 0)), (.int .i64 (.lit 0)), (.int .i64 (.lit 0))]⟩,
 ⟨none, false, none, iStore 4 (.t 10) (.t 35)⟩])
 (cSeq (cSeq (cOps [⟨some 11, true, none, iMov (.c (.int .i64 (.lit 0)))⟩])
 (cBlock 0 (cLoop (cSeq (cSeq (cOps [⟨some 36, false, none, iMov (.t 11)⟩,
 ⟨some 37, false, none, iMov (.t 2)⟩,
 ⟨some 38, true, none, iCmp .leq (.t 36) (.t 37)⟩])
 (cCond (.t 38) cSkip (cExit 0)))
 (cSeq (cBlock 1 (cSeq (dOps 0 [⟨⟨some 41, false, none, iLoadN 23 (.t 3)⟩, [3], false, 0, 1, none, []⟩,
 ⟨⟨some 42, false, none, iLoadN 23 (.t 3)⟩, [3], false, 0, 0, none, []⟩,
 ⟨⟨some 43, false, none, iLoadN 4 (.t 10)⟩, [10], false, 0, 0, none, []⟩,
 ⟨⟨some 44, false, none, iMov (.t 1)⟩, [1], false, 0, 0, none, []⟩,
 ⟨⟨some 45, false, none, iMov (.t 11)⟩, [11], false, 0, 0, none, []⟩,
 ⟨⟨some 46, false, none, iIaddr 2 (.t 44) (.t 45)⟩, [44, 45], false, 0, 0, none, []⟩,
 ⟨⟨some 47, false, none, iLoadN 2 (.t 46)⟩, [46], false, 0, 0, none, []⟩,
 ⟨⟨some 48, false, none, iCall (.c (.func (.func 59) [] [])) [(.t 42), (.t 43), (.t 47)]⟩, [42, 43, 47], true, 0, 0, none, []⟩,
 ⟨⟨some 49, false, none, iFaddr 22 (.t 3)⟩, [3], false, 0, 1, none, []⟩,
 ⟨⟨some 50, false, none, iLoad (.t 49)⟩, [49], false, 0, 1, none, []⟩,
 ⟨⟨some 51, false, none, iMov (.t 11)⟩, [11], false, 0, 1, none, []⟩,
 ⟨⟨some 52, false, none, iIaddr 4 (.t 50) (.t 51)⟩, [50, 51], false, 0, 1, none, []⟩,
 ⟨⟨some 53, false, none, iLoadN 4 (.t 52)⟩, [52], false, 0, 1, none, []⟩,
 ⟨⟨some 54, false, none, iCall (.c (.func (.func 58) [] [])) [(.t 41), (.t 48), (.t 53)]⟩, [41, 48, 53], true, 1, 0, none, []⟩,
 ⟨⟨none, false, none, iStore 4 (.t 10) (.t 54)⟩, [10, 54], true, 2, 0, none, []⟩])
 (cSeq (cOps [⟨some 55, false, none, iLoadN 4 (.t 10)⟩,
 ⟨some 56, true, none, iCall (.c (.func (.func 60) [] [])) [(.t 55)]⟩])
 (cCond (.t 56) (cSeq (cOps [⟨some 57, false, none, iBuild [(.int .i64 (.lit 0)), (.int .i64 (.lit 0))] []⟩,
 ⟨some 58, false, none, iBuild [(.int .i64 (.lit 0)), (.int .i64 (.lit 0))] []⟩,
 ⟨none, false, none, iStore 2 (.t 6) (.t 57)⟩,
 ⟨none, false, none, iStore 2 (.t 7) (.t 58)⟩,
 ⟨some 8, true, none, iMov (.c (.int .i64 (.lit 42)))⟩])
 cRet) cSkip))))
 (cOps [⟨some 39, false, none, iMov (.t 11)⟩,
 ⟨some 40, false, none, iArith .add (.t 39) (.c (.int .i64 (.lit 1)))⟩,
 ⟨some 11, true, none, iMov (.t 40)⟩]))))))
 (cSeq (dOps 0 [⟨⟨some 59, false, none, iFaddr 0 (.t 10)⟩, [10], false, 0, 0, none, []⟩,
 ⟨⟨some 60, false, none, iLoadN 2 (.t 59)⟩, [59], false, 0, 0, none, []⟩,
 ⟨⟨some 61, false, none, iFaddr 2 (.t 10)⟩, [10], false, 0, 1, none, []⟩,
 ⟨⟨some 62, false, none, iLoadN 2 (.t 61)⟩, [61], false, 0, 1, none, []⟩,
 ⟨⟨none, false, none, iStore 2 (.t 6) (.t 60)⟩, [6, 60], true, 0, 0, none, []⟩,
 ⟨⟨none, false, none, iStore 2 (.t 7) (.t 62)⟩, [7, 62], true, 1, 0, none, []⟩,
 ⟨⟨some 8, true, none, iMov (.c (.int .i64 (.lit 0)))⟩, [], false, 2, 2, none, []⟩])
 cRet)))))), [.cell 6 true 2, .cell 7 true 2, .t 8]⟩
noncomputable def Tryd.kp20 : List Nat := [0, 1, 2, 3, 4, 5, 6, 7, 8, 9, 10, 11, 12, 74]
noncomputable def Tryd.cf20 : CF := ⟨0, (cSeq (cOps [⟨some 0, true, none, iMov (.c (.bool (.lit false)))⟩])
 (cSeq (cOps [⟨some 14, false, none, iCall (.c (.func (.func 45) [] [])) []⟩,
 ⟨some 15, false, none, iCall (.c (.func (.func 14) [] [])) [(.t 14), (.c (.int .i64 (.lit 9)))]⟩,
 ⟨some 13, false, none, iMov (.t 15)⟩,
 ⟨some 16, false, none, iExtract 0 (.t 13)⟩,
 ⟨some 17, false, none, iExtract 1 (.t 13)⟩,
 ⟨some 1, true, none, iAlloc 23 [(.int .i64 (.lit 0)), (.int .i64 (.lit 0))]⟩,
 ⟨none, false, none, iStore 2 (.t 1) (.t 16)⟩,
 ⟨some 2, true, none, iMov (.t 17)⟩])
 (cSeq (cOps [⟨some 19, false, none, iCall (.c (.func (.func 45) [] [])) []⟩,
 ⟨some 20, false, none, iCall (.c (.func (.func 46) [] [])) []⟩,
 ⟨some 21, false, none, iCall (.c (.func (.func 18) [] [])) [(.t 19), (.t 20), (.c (.int .i64 (.lit 3)))]⟩,
 ⟨some 18, false, none, iMov (.t 21)⟩,
 ⟨some 22, false, none, iExtract 0 (.t 18)⟩,
 ⟨some 23, false, none, iExtract 1 (.t 18)⟩,
 ⟨some 24, false, none, iExtract 2 (.t 18)⟩,
 ⟨some 3, true, none, iAlloc 23 [(.int .i64 (.lit 0)), (.int .i64 (.lit 0))]⟩,
 ⟨some 4, true, none, iAlloc 23 [(.int .i64 (.lit 0)), (.int .i64 (.lit 0))]⟩,
 ⟨none, false, none, iStore 2 (.t 3) (.t 22)⟩,
 ⟨none, false, none, iStore 2 (.t 4) (.t 23)⟩,
 ⟨some 5, true, none, iMov (.t 24)⟩])
 (cSeq (cOps [⟨some 26, false, none, iCall (.c (.func (.func 45) [] [])) []⟩,
 ⟨some 27, false, none, iCall (.c (.func (.func 47) [] [])) []⟩,
 ⟨some 28, false, none, iCall (.c (.func (.func 21) [] [])) [(.t 26), (.t 27)]⟩,
 ⟨some 25, false, none, iMov (.t 28)⟩,
 ⟨some 29, false, none, iExtract 0 (.t 25)⟩,
 ⟨some 30, false, none, iExtract 1 (.t 25)⟩,
 ⟨some 6, true, none, iMov (.t 29)⟩,
 ⟨some 7, true, none, iMov (.t 30)⟩])
 (cSeq (cOps [⟨some 32, false, none, iCall (.c (.func (.func 45) [] [])) []⟩,
 ⟨some 33, false, none, iCall (.c (.func (.func 23) [] [])) [(.t 32)]⟩,
 ⟨some 31, false, none, iMov (.t 33)⟩,
 ⟨some 34, false, none, iExtract 0 (.t 31)⟩,
 ⟨some 35, false, none, iExtract 1 (.t 31)⟩,
 ⟨some 8, true, none, iMov (.t 34)⟩,
 ⟨some 9, true, none, iMov (.t 35)⟩])
 (cSeq (cSeq (dOps 0 [⟨⟨some 36, false, none, iMov (.t 2)⟩, [2], false, 0, 0, none, []⟩,
 ⟨⟨some 37, false, none, iCmp .neq (.t 36) (.c (.int .i64 (.lit 0)))⟩, [36], false, 0, 0, none, []⟩,
 ⟨⟨some 38, false, none, iMov (.t 37)⟩, [37], false, 0, 0, none, []⟩,
 ⟨⟨some 39, false, some (38, false), iMov (.t 5)⟩, [38, 5], false, 0, 0, none, []⟩,
 ⟨⟨some 40, false, some (38, false), iCmp .neq (.t 39) (.c (.int .i64 (.lit 0)))⟩, [38, 39], false, 0, 0, none, []⟩,
 ⟨⟨some 41, false, none, iPick (.t 38) (.c (.bool (.lit true))) (.t 40)⟩, [38, 40], false, 0, 0, none, []⟩,
 ⟨⟨some 42, false, none, iMov (.t 41)⟩, [41], false, 0, 0, none, []⟩,
 ⟨⟨some 43, false, some (42, false), iMov (.t 7)⟩, [42, 7], false, 0, 0, none, []⟩,
 ⟨⟨some 44, false, some (42, false), iCmp .neq (.t 43) (.c (.int .i64 (.lit 0)))⟩, [42, 43], false, 0, 0, none, []⟩,
 ⟨⟨some 45, false, none, iPick (.t 42) (.c (.bool (.lit true))) (.t 44)⟩, [42, 44], false, 0, 0, none, []⟩,
 ⟨⟨some 46, false, none, iMov (.t 45)⟩, [45], false, 0, 0, none, []⟩,
 ⟨⟨some 47, false, some (46, false), iMov (.t 9)⟩, [46, 9], false, 0, 0, none, []⟩,
 ⟨⟨some 48, false, some (46, false), iCmp .neq (.t 47) (.c (.int .i64 (.lit 0)))⟩, [46, 47], false, 0, 0, none, []⟩,
 ⟨⟨some 49, false, none, iPick (.t 46) (.c (.bool (.lit true))) (.t 48)⟩, [46, 48], false, 0, 0, none, []⟩,
 ⟨⟨some 50, false, none, iMov (.t 49)⟩, [49], false, 0, 0, none, []⟩,
 ⟨⟨some 51, false, some (50, false), iLoadN 2 (.t 1)⟩, [50, 1], false, 0, 1, none, []⟩,
 ⟨⟨some 52, false, some (50, false), iCall (.c (.func (.func 40) [] [])) [(.c (.int .i64 (.lit 12))), (.c (.int .i64 (.lit 16)))]⟩, [50], true, 0, 0, none, []⟩,
 ⟨⟨some 53, false, some (50, false), iEq true true 2 [(0, .int), (1, .int)] (.t 51) (.t 52)⟩, [50, 51, 52], false, 1, 1, none, []⟩,
 ⟨⟨some 54, false, none, iPick (.t 50) (.c (.bool (.lit true))) (.t 53)⟩, [50, 53], false, 1, 1, none, []⟩,
 ⟨⟨some 55, false, none, iMov (.t 54)⟩, [54], false, 1, 1, none, []⟩,
 ⟨⟨some 56, false, some (55, false), iLoadN 2 (.t 3)⟩, [55, 3], false, 1, 2, none, []⟩,
 ⟨⟨some 57, false, some (55, false), iCall (.c (.func (.func 40) [] [])) [(.c (.int .i64 (.lit 0))), (.c (.int .i64 (.lit 32)))]⟩, [55], true, 1, 0, none, []⟩,
 ⟨⟨some 58, false, some (55, false), iEq true true 2 [(0, .int), (1, .int)] (.t 56) (.t 57)⟩, [55, 56, 57], false, 2, 2, none, []⟩,
 ⟨⟨some 59, false, none, iPick (.t 55) (.c (.bool (.lit true))) (.t 58)⟩, [55, 58], false, 2, 2, none, []⟩,
 ⟨⟨some 60, false, none, iMov (.t 59)⟩, [59], false, 2, 2, none, []⟩,
 ⟨⟨some 61, false, some (60, false), iLoadN 2 (.t 4)⟩, [60, 4], false, 2, 3, none, []⟩,
 ⟨⟨some 62, false, some (60, false), iCall (.c (.func (.func 40) [] [])) [(.c (.int .i64 (.lit 10))), (.c (.int .i64 (.lit 22)))]⟩, [60], true, 2, 0, none, []⟩,
 ⟨⟨some 63, false, some (60, false), iEq true true 2 [(0, .int), (1, .int)] (.t 61) (.t 62)⟩, [60, 61, 62], false, 3, 3, none, []⟩,
 ⟨⟨some 64, false, none, iPick (.t 60) (.c (.bool (.lit true))) (.t 63)⟩, [60, 63], false, 3, 3, none, []⟩,
 ⟨⟨some 65, false, none, iMov (.t 64)⟩, [64], false, 3, 3, none, []⟩,
 ⟨⟨some 66, false, some (65, false), iMov (.t 6)⟩, [65, 6], false, 3, 3, none, []⟩,
 ⟨⟨some 67, false, some (65, false), iCmp .neq (.t 66) (.c (.int .i64 (.lit 1)))⟩, [65, 66], false, 3, 3, none, []⟩,
 ⟨⟨some 68, false, none, iPick (.t 65) (.c (.bool (.lit true))) (.t 67)⟩, [65, 67], false, 3, 3, none, []⟩,
 ⟨⟨some 69, false, none, iMov (.t 68)⟩, [68], false, 3, 3, none, []⟩,
 ⟨⟨some 70, false, some (69, false), iMov (.t 8)⟩, [69, 8], false, 3, 4, none, []⟩,
 ⟨⟨some 71, false, some (69, false), iCall (.c (.func (.func 46) [] [])) []⟩, [69], true, 3, 0, none, []⟩,
 ⟨⟨some 72, false, some (69, false), iCall (.c (.func (.func 25) [] [])) [(.t 70), (.t 71)]⟩, [69, 70, 71], true, 4, 0, none, []⟩,
 ⟨⟨some 73, false, some (69, false), iNot (.t 72)⟩, [69, 72], false, 5, 5, none, []⟩,
 ⟨⟨some 74, true, none, iPick (.t 69) (.c (.bool (.lit true))) (.t 73)⟩, [69, 73], false, 5, 5, none, []⟩])
 (cCond (.t 74) (cSeq (cOps [⟨some 0, true, none, iMov (.c (.bool (.lit false)))⟩])
 cRet) cSkip))
 (cSeq (cOps [⟨some 76, false, none, iCall (.c (.func (.func 45) [] [])) []⟩,
 ⟨some 77, false, none, iCall (.c (.func (.func 26) [] [])) [(.t 76)]⟩,
 ⟨some 75, false, none, iMov (.t 77)⟩,
 ⟨some 78, false, none, iExtract 0 (.t 75)⟩,
 ⟨some 79, false, none, iExtract 1 (.t 75)⟩,
 ⟨some 10, true, none, iMov (.t 78)⟩,
 ⟨some 2, true, none, iMov (.t 79)⟩])
 (cSeq (cOps [⟨some 81, false, none, iCall (.c (.func (.func 45) [] [])) []⟩,
 ⟨some 82, false, none, iCall (.c (.func (.func 28) [] [])) [(.t 81), (.c (.int .i64 (.lit 2)))]⟩,
 ⟨some 80, false, none, iMov (.t 82)⟩,
 ⟨some 83, false, none, iExtract 0 (.t 80)⟩,
 ⟨some 84, false, none, iExtract 1 (.t 80)⟩,
 ⟨some 11, true, none, iMov (.t 83)⟩,
 ⟨some 5, true, none, iMov (.t 84)⟩])
 (cSeq (cOps [⟨some 86, false, none, iCall (.c (.func (.func 45) [] [])) []⟩,
 ⟨some 87, false, none, iCall (.c (.func (.func 30) [] [])) [(.t 86)]⟩,
 ⟨some 85, false, none, iMov (.t 87)⟩,
 ⟨some 88, false, none, iExtract 0 (.t 85)⟩,
 ⟨some 89, false, none, iExtract 1 (.t 85)⟩,
 ⟨some 12, true, none, iMov (.t 88)⟩,
 ⟨some 7, true, none, iMov (.t 89)⟩])
 (cSeq (cOps [⟨some 90, false, none, iMov (.t 2)⟩,
 ⟨some 91, false, none, iCmp .eql (.t 90) (.c (.int .i64 (.lit 0)))⟩,
 ⟨some 92, false, none, iMov (.t 91)⟩,
 ⟨some 93, false, some (92, true), iMov (.t 5)⟩,
 ⟨some 94, false, some (92, true), iCmp .eql (.t 93) (.c (.int .i64 (.lit 0)))⟩,
 ⟨some 95, false, none, iPick (.t 92) (.t 94) (.c (.bool (.lit false)))⟩,
 ⟨some 96, false, none, iMov (.t 95)⟩,
 ⟨some 97, false, some (96, true), iMov (.t 7)⟩,
 ⟨some 98, false, some (96, true), iCmp .eql (.t 97) (.c (.int .i64 (.lit 0)))⟩,
 ⟨some 99, false, none, iPick (.t 96) (.t 98) (.c (.bool (.lit false)))⟩,
 ⟨some 100, false, none, iMov (.t 99)⟩,
 ⟨some 101, false, some (100, true), iMov (.t 10)⟩,
 ⟨some 102, false, some (100, true), iCmp .eql (.t 101) (.c (.int .i64 (.lit 4)))⟩,
 ⟨some 103, false, none, iPick (.t 100) (.t 102) (.c (.bool (.lit false)))⟩,
 ⟨some 104, false, none, iMov (.t 103)⟩,
 ⟨some 105, false, some (104, true), iMov (.t 11)⟩,
 ⟨some 106, false, some (104, true), iCmp .eql (.t 105) (.c (.int .i64 (.lit 4)))⟩,
 ⟨some 107, false, none, iPick (.t 104) (.t 106) (.c (.bool (.lit false)))⟩,
 ⟨some 108, false, none, iMov (.t 107)⟩,
 ⟨some 109, false, some (108, true), iMov (.t 12)⟩,
 ⟨some 110, false, some (108, true), iCmp .eql (.t 109) (.c (.int .i64 (.lit 18)))⟩,
 ⟨some 111, false, none, iPick (.t 108) (.t 110) (.c (.bool (.lit false)))⟩,
 ⟨some 0, true, none, iMov (.t 111)⟩])
 cRet)))))))))), [.t 0]⟩
noncomputable def Tryd.kp21 : List Nat := [0, 1, 2, 4, 5, 6, 7, 14, 19]
noncomputable def Tryd.cf21 : CF := ⟨2, (cSeq (cOps [⟨some 2, true, none, iBox 27 (.t 0)⟩,
 ⟨some 4, true, none, iMov (.c (.int .i64 (.lit 0)))⟩,
 ⟨some 5, true, none, iMov (.c (.int .i64 (.lit 0)))⟩])
 (cSeq (cOps [⟨some 9, false, none, iLoadN 23 (.t 2)⟩,
 ⟨some 10, false, none, iCall (.c (.func (.func 48) [] [])) [(.t 9)]⟩,
 ⟨some 8, false, none, iMov (.t 10)⟩,
 ⟨some 11, false, none, iExtract 0 (.t 8)⟩,
 ⟨some 12, false, none, iExtract 1 (.t 8)⟩,
 ⟨some 6, true, none, iAlloc 78 [(.int .i64 (.lit 0)), (.int .i64 (.lit 0)), (.int .i64 (.lit 0)), (.int .i64 (.lit 0)), (.int .i64 (.lit 0)), (.int .i64 (.lit 0)), (.int .i64 (.lit 0)), (.int .i64 (.lit 0)), (.int .i64 (.lit 0)), (.int .i64 (.lit 0)), (.int .i64 (.lit 0)), (.int .i64 (.lit 0)), (.int .i64 (.lit 0)), (.int .i64 (.lit 0)), (.int .i64 (.lit 0)), (.int .i64 (.lit 0)), (.int .i64 (.lit 0)), (.int .i64 (.lit 0)), (.int .i64 (.lit 0)), (.int .i64 (.lit 0)), (.int .i64 (.lit 0)), (.int .i64 (.lit 0)), .nilslice, (.int .i64 (.lit 0)), (.int .i64 (.lit 0)), (.int .i64 (.lit 0)), (.int .i64 (.lit 0)), (.int .i64 (.lit 0)), (.int .i64 (.lit 0)), (.int .i64 (.lit 0)), (.int .i64 (.lit 0)), (.int .i64 (.lit 0)), (.int .i64 (.lit 0)), (.int .i64 (.lit 0)), (.int .i64 (.lit 0)), (.int .i64 (.lit 0)), (.int .i64 (.lit 0)), (.int .i64 (.lit 0)), (.int .i64 (.lit 0))]⟩,
 ⟨none, false, none, iStore 39 (.t 6) (.t 11)⟩,
 ⟨some 7, true, none, iMov (.t 12)⟩])
 (cSeq (cSeq (cOps [⟨some 13, false, none, iMov (.t 7)⟩,
 ⟨some 14, true, none, iCmp .neq (.t 13) (.c (.int .i64 (.lit 0)))⟩])
 (cCond (.t 14) (cSeq (cOps [⟨some 15, false, none, iMov (.t 7)⟩,
 ⟨some 4, true, none, iMov (.c (.int .i64 (.lit 0)))⟩,
 ⟨some 5, true, none, iMov (.t 15)⟩])
 cRet) cSkip))
 (cSeq (cSeq (cOps [⟨some 16, false, none, iLoadN 39 (.t 6)⟩,
 ⟨some 17, false, none, iMov (.t 1)⟩,
 ⟨some 18, false, none, iCall (.c (.func (.func 53) [] [])) [(.t 16), (.t 17)]⟩,
 ⟨some 19, true, none, iNot (.t 18)⟩])
 (cCond (.t 19) (cSeq (cOps [⟨some 4, true, none, iMov (.c (.int .i64 (.lit 0)))⟩,
 ⟨some 5, true, none, iMov (.c (.int .i64 (.lit 41)))⟩])
 cRet) cSkip))
 (cSeq (cOps [⟨some 20, false, none, iLoadN 39 (.t 6)⟩,
 ⟨some 21, false, none, iMov (.t 1)⟩,
 ⟨some 22, false, none, iCall (.c (.func (.func 61) [] [])) [(.t 20), (.t 21)]⟩,
 ⟨some 23, false, none, iExtract 0 (.t 22)⟩,
 ⟨some 24, false, none, iExtract 1 (.t 22)⟩,
 ⟨some 4, true, none, iMov (.t 23)⟩,
 ⟨some 5, true, none, iMov (.t 24)⟩])
 cRet))))), [.t 4, .t 5]⟩
noncomputable def Tryd.kp23 : List Nat := [0, 1, 2, 3, 4, 5, 12]
noncomputable def Tryd.cf23 : CF := ⟨1, (cSeq (cOps [⟨some 1, true, none, iBox 27 (.t 0)⟩,
 ⟨some 2, true, none, iMov (.c .nilslice)⟩,
 ⟨some 3, true, none, iMov (.c (.int .i64 (.lit 0)))⟩])
 (cSeq (cOps [⟨some 7, false, none, iLoadN 23 (.t 1)⟩,
 ⟨some 8, false, none, iCall (.c (.func (.func 48) [] [])) [(.t 7)]⟩,
 ⟨some 6, false, none, iMov (.t 8)⟩,
 ⟨some 9, false, none, iExtract 0 (.t 6)⟩,
 ⟨some 10, false, none, iExtract 1 (.t 6)⟩,
 ⟨some 4, true, none, iAlloc 78 [(.int .i64 (.lit 0)), (.int .i64 (.lit 0)), (.int .i64 (.lit 0)), (.int .i64 (.lit 0)), (.int .i64 (.lit 0)), (.int .i64 (.lit 0)), (.int .i64 (.lit 0)), (.int .i64 (.lit 0)), (.int .i64 (.lit 0)), (.int .i64 (.lit 0)), (.int .i64 (.lit 0)), (.int .i64 (.lit 0)), (.int .i64 (.lit 0)), (.int .i64 (.lit 0)), (.int .i64 (.lit 0)), (.int .i64 (.lit 0)), (.int .i64 (.lit 0)), (.int .i64 (.lit 0)), (.int .i64 (.lit 0)), (.int .i64 (.lit 0)), (.int .i64 (.lit 0)), (.int .i64 (.lit 0)), .nilslice, (.int .i64 (.lit 0)), (.int .i64 (.lit 0)), (.int .i64 (.lit 0)), (.int .i64 (.lit 0)), (.int .i64 (.lit 0)), (.int .i64 (.lit 0)), (.int .i64 (.lit 0)), (.int .i64 (.lit 0)), (.int .i64 (.lit 0)), (.int .i64 (.lit 0)), (.int .i64 (.lit 0)), (.int .i64 (.lit 0)), (.int .i64 (.lit 0)), (.int .i64 (.lit 0)), (.int .i64 (.lit 0)), (.int .i64 (.lit 0))]⟩,
 ⟨none, false, none, iStore 39 (.t 4) (.t 9)⟩,
 ⟨some 5, true, none, iMov (.t 10)⟩])
 (cSeq (cSeq (cOps [⟨some 11, false, none, iMov (.t 5)⟩,
 ⟨some 12, true, none, iCmp .neq (.t 11) (.c (.int .i64 (.lit 0)))⟩])
 (cCond (.t 12) (cSeq (cOps [⟨some 13, false, none, iMov (.t 5)⟩,
 ⟨some 2, true, none, iMov (.c .nilslice)⟩,
 ⟨some 3, true, none, iMov (.t 13)⟩])
 cRet) cSkip))
 (cSeq (cOps [⟨some 14, false, none, iLoadN 39 (.t 4)⟩,
 ⟨some 15, false, none, iCall (.c (.func (.func 63) [] [])) [(.t 14)]⟩,
 ⟨some 16, false, none, iExtract 0 (.t 15)⟩,
 ⟨some 17, false, none, iExtract 1 (.t 15)⟩,
 ⟨some 2, true, none, iMov (.t 16)⟩,
 ⟨some 3, true, none, iMov (.t 17)⟩])
 cRet)))), [.t 2, .t 3]⟩
noncomputable def Tryd.kp25 : List Nat := [0, 1, 4, 5, 6, 18]
noncomputable def Tryd.cf25 : CF := ⟨2, (cSeq (cOps [⟨some 4, true, none, iMov (.c (.bool (.lit false)))⟩])
 (cSeq (cOps [⟨some 7, false, none, iMov (.t 0)⟩,
 ⟨some 8, false, none, iLenS (.t 7)⟩,
 ⟨some 9, false, none, iMov (.t 1)⟩,
 ⟨some 10, false, none, iLenS (.t 9)⟩,
 ⟨some 11, false, none, iCmp .eql (.t 8) (.t 10)⟩,
 ⟨some 5, true, none, iMov (.t 11)⟩])
 (cSeq (cSeq (cOps [⟨some 6, true, none, iMov (.c (.int .i64 (.lit 0)))⟩])
 (cBlock 0 (cLoop (cSeq (cSeq (cOps [⟨some 12, false, none, iMov (.t 5)⟩,
 ⟨some 13, false, none, iMov (.t 12)⟩,
 ⟨some 14, false, some (13, true), iMov (.t 6)⟩,
 ⟨some 15, false, some (13, true), iMov (.t 0)⟩,
 ⟨some 16, false, some (13, true), iLenS (.t 15)⟩,
 ⟨some 17, false, some (13, true), iCmp .lss (.t 14) (.t 16)⟩,
 ⟨some 18, true, none, iPick (.t 13) (.t 17) (.c (.bool (.lit false)))⟩])
 (cCond (.t 18) cSkip (cExit 0)))
 (cSeq (cBlock 1 (dOps 0 [⟨⟨some 21, false, none, iMov (.t 0)⟩, [0], false, 0, 0, none, []⟩,
 ⟨⟨some 22, false, none, iMov (.t 6)⟩, [6], false, 0, 0, none, []⟩,
 ⟨⟨some 23, false, none, iIaddr 2 (.t 21) (.t 22)⟩, [21, 22], false, 0, 0, none, []⟩,
 ⟨⟨some 24, false, none, iLoadN 2 (.t 23)⟩, [23], false, 0, 0, none, []⟩,
 ⟨⟨some 25, false, none, iMov (.t 1)⟩, [1], false, 0, 0, none, []⟩,
 ⟨⟨some 26, false, none, iMov (.t 6)⟩, [6], false, 0, 0, none, []⟩,
 ⟨⟨some 27, false, none, iIaddr 2 (.t 25) (.t 26)⟩, [25, 26], false, 0, 0, none, []⟩,
 ⟨⟨some 28, false, none, iLoadN 2 (.t 27)⟩, [27], false, 0, 0, none, []⟩,
 ⟨⟨some 29, false, none, iEq false true 2 [(0, .int), (1, .int)] (.t 24) (.t 28)⟩, [24, 28], false, 0, 0, none, []⟩,
 ⟨⟨some 5, true, none, iMov (.t 29)⟩, [29], false, 0, 0, none, []⟩]))
 (cOps [⟨some 19, false, none, iMov (.t 6)⟩,
 ⟨some 20, false, none, iArith .add (.t 19) (.c (.int .i64 (.lit 1)))⟩,
 ⟨some 6, true, none, iMov (.t 20)⟩]))))))
 (cSeq (cOps [⟨some 30, false, none, iMov (.t 5)⟩,
 ⟨some 4, true, none, iMov (.t 30)⟩])
 cRet)))), [.t 4]⟩
noncomputable def Tryd.kp26 : List Nat := [0, 1, 2, 3, 4, 5, 12]
noncomputable def Tryd.cf26 : CF := ⟨1, (cSeq (cOps [⟨some 1, true, none, iBox 27 (.t 0)⟩,
 ⟨some 2, true, none, iMov (.c (.int .i64 (.lit 0)))⟩,
 ⟨some 3, true, none, iMov (.c (.int .i64 (.lit 0)))⟩])
 (cSeq (cOps [⟨some 7, false, none, iLoadN 23 (.t 1)⟩,
 ⟨some 8, false, none, iCall (.c (.func (.func 48) [] [])) [(.t 7)]⟩,
 ⟨some 6, false, none, iMov (.t 8)⟩,
 ⟨some 9, false, none, iExtract 0 (.t 6)⟩,
 ⟨some 10, false, none, iExtract 1 (.t 6)⟩,
 ⟨some 4, true, none, iAlloc 78 [(.int .i64 (.lit 0)), (.int .i64 (.lit 0)), (.int .i64 (.lit 0)), (.int .i64 (.lit 0)), (.int .i64 (.lit 0)), (.int .i64 (.lit 0)), (.int .i64 (.lit 0)), (.int .i64 (.lit 0)), (.int .i64 (.lit 0)), (.int .i64 (.lit 0)), (.int .i64 (.lit 0)), (.int .i64 (.lit 0)), (.int .i64 (.lit 0)), (.int .i64 (.lit 0)), (.int .i64 (.lit 0)), (.int .i64 (.lit 0)), (.int .i64 (.lit 0)), (.int .i64 (.lit 0)), (.int .i64 (.lit 0)), (.int .i64 (.lit 0)), (.int .i64 (.lit 0)), (.int .i64 (.lit 0)), .nilslice, (.int .i64 (.lit 0)), (.int .i64 (.lit 0)), (.int .i64 (.lit 0)), (.int .i64 (.lit 0)), (.int .i64 (.lit 0)), (.int .i64 (.lit 0)), (.int .i64 (.lit 0)), (.int .i64 (.lit 0)), (.int .i64 (.lit 0)), (.int .i64 (.lit 0)), (.int .i64 (.lit 0)), (.int .i64 (.lit 0)), (.int .i64 (.lit 0)), (.int .i64 (.lit 0)), (.int .i64 (.lit 0)), (.int .i64 (.lit 0))]⟩,
 ⟨none, false, none, iStore 39 (.t 4) (.t 9)⟩,
 ⟨some 5, true, none, iMov (.t 10)⟩])
 (cSeq (cSeq (cOps [⟨some 11, false, none, iMov (.t 5)⟩,
 ⟨some 12, true, none, iCmp .neq (.t 11) (.c (.int .i64 (.lit 0)))⟩])
 (cCond (.t 12) (cSeq (cOps [⟨some 13, false, none, iMov (.t 5)⟩,
 ⟨some 2, true, none, iMov (.c (.int .i64 (.lit 0)))⟩,
 ⟨some 3, true, none, iMov (.t 13)⟩])
 cRet) cSkip))
 (cSeq (cOps [⟨some 14, false, none, iFaddr 0 (.t 4)⟩,
 ⟨some 15, false, none, iFaddr 22 (.t 14)⟩,
 ⟨some 16, false, none, iLoad (.t 15)⟩,
 ⟨some 17, false, none, iLenS (.t 16)⟩,
 ⟨some 18, false, none, iLoadN 39 (.t 4)⟩,
 ⟨some 19, false, none, iFunc (.func 66) [(.t 18)] []⟩,
 ⟨some 20, false, none, iCall (.c (.func (.func 65) [] [])) [(.t 17), (.t 19)]⟩,
 ⟨some 2, true, none, iMov (.t 20)⟩,
 ⟨some 3, true, none, iMov (.c (.int .i64 (.lit 0)))⟩])
 cRet)))), [.t 2, .t 3]⟩
noncomputable def Tryd.kp28 : List Nat := [0, 1, 2, 4, 5, 6, 7, 8, 15, 20, 27]
noncomputable def Tryd.cf28 : CF := ⟨2, (cSeq (cOps [⟨some 2, true, none, iBox 27 (.t 0)⟩,
 ⟨some 4, true, none, iMov (.c (.int .i64 (.lit 0)))⟩,
 ⟨some 5, true, none, iMov (.c (.int .i64 (.lit 0)))⟩])
 (cSeq (cOps [⟨some 10, false, none, iLoadN 23 (.t 2)⟩,
 ⟨some 11, false, none, iCall (.c (.func (.func 48) [] [])) [(.t 10)]⟩,
 ⟨some 9, false, none, iMov (.t 11)⟩,
 ⟨some 12, false, none, iExtract 0 (.t 9)⟩,
 ⟨some 13, false, none, iExtract 1 (.t 9)⟩,
 ⟨some 6, true, none, iAlloc 78 [(.int .i64 (.lit 0)), (.int .i64 (.lit 0)), (.int .i64 (.lit 0)), (.int .i64 (.lit 0)), (.int .i64 (.lit 0)), (.int .i64 (.lit 0)), (.int .i64 (.lit 0)), (.int .i64 (.lit 0)), (.int .i64 (.lit 0)), (.int .i64 (.lit 0)), (.int .i64 (.lit 0)), (.int .i64 (.lit 0)), (.int .i64 (.lit 0)), (.int .i64 (.lit 0)), (.int .i64 (.lit 0)), (.int .i64 (.lit 0)), (.int .i64 (.lit 0)), (.int .i64 (.lit 0)), (.int .i64 (.lit 0)), (.int .i64 (.lit 0)), (.int .i64 (.lit 0)), (.int .i64 (.lit 0)), .nilslice, (.int .i64 (.lit 0)), (.int .i64 (.lit 0)), (.int .i64 (.lit 0)), (.int .i64 (.lit 0)), (.int .i64 (.lit 0)), (.int .i64 (.lit 0)), (.int .i64 (.lit 0)), (.int .i64 (.lit 0)), (.int .i64 (.lit 0)), (.int .i64 (.lit 0)), (.int .i64 (.lit 0)), (.int .i64 (.lit 0)), (.int .i64 (.lit 0)), (.int .i64 (.lit 0)), (.int .i64 (.lit 0)), (.int .i64 (.lit 0))]⟩,
 ⟨none, false, none, iStore 39 (.t 6) (.t 12)⟩,
 ⟨some 7, true, none, iMov (.t 13)⟩])
 (cSeq (cSeq (cOps [⟨some 14, false, none, iMov (.t 7)⟩,
 ⟨some 15, true, none, iCmp .neq (.t 14) (.c (.int .i64 (.lit 0)))⟩])
 (cCond (.t 15) (cSeq (cOps [⟨some 16, false, none, iMov (.t 7)⟩,
 ⟨some 4, true, none, iMov (.c (.int .i64 (.lit 0)))⟩,
 ⟨some 5, true, none, iMov (.t 16)⟩])
 cRet) cSkip))
 (cSeq (cSeq (cOps [⟨some 17, false, none, iLoadN 39 (.t 6)⟩,
 ⟨some 18, false, none, iMov (.t 1)⟩,
 ⟨some 19, false, none, iCall (.c (.func (.func 54) [] [])) [(.t 17), (.t 18)]⟩,
 ⟨some 20, true, none, iNot (.t 19)⟩])
 (cCond (.t 20) (cSeq (cOps [⟨some 4, true, none, iMov (.c (.int .i64 (.lit 0)))⟩,
 ⟨some 5, true, none, iMov (.c (.int .i64 (.lit 41)))⟩])
 cRet) cSkip))
 (cSeq (cOps [⟨some 21, false, none, iLoadN 39 (.t 6)⟩,
 ⟨some 22, false, none, iMov (.t 1)⟩,
 ⟨some 23, false, none, iBuild [(.int .i64 (.lit 0)), (.int .i64 (.lit 0)), (.int .i64 (.lit 0)), (.int .i64 (.lit 0)), (.int .i64 (.lit 0)), (.int .i64 (.lit 0)), (.int .i64 (.lit 0)), (.int .i64 (.lit 0)), (.int .i64 (.lit 0)), (.int .i64 (.lit 0)), (.int .i64 (.lit 0)), (.int .i64 (.lit 0)), (.int .i64 (.lit 0)), (.int .i64 (.lit 0)), (.int .i64 (.lit 0)), (.int .i64 (.lit 0)), (.int .i64 (.lit 0)), (.int .i64 (.lit 0)), (.int .i64 (.lit 0)), (.int .i64 (.lit 0)), (.int .i64 (.lit 0)), (.int .i64 (.lit 0)), .nilslice, (.int .i64 (.lit 0)), (.int .i64 (.lit 0)), (.int .i64 (.lit 0)), (.int .i64 (.lit 0)), (.int .i64 (.lit 0)), (.int .i64 (.lit 0)), (.int .i64 (.lit 0)), (.int .i64 (.lit 0)), (.int .i64 (.lit 0)), (.int .i64 (.lit 0)), (.int .i64 (.lit 0)), (.int .i64 (.lit 0)), (.int .i64 (.lit 0)), (.int .i64 (.lit 0)), (.int .i64 (.lit 0)), (.int .i64 (.lit 0)), (.int .i64 (.lit 0))] [(0, 39, (.t 21)), (39, 1, (.t 22))]⟩,
 ⟨some 24, false, none, iFunc (.func 68) [(.t 23)] []⟩,
 ⟨some 25, false, none, iCall (.c (.func (.func 65) [] [])) [(.c (.int .i64 (.lit 60))), (.t 24)]⟩,
 ⟨some 8, true, none, iMov (.t 25)⟩])
 (cSeq (cSeq (cOps [⟨some 26, false, none, iMov (.t 8)⟩,
 ⟨some 27, true, none, iCmp .lss (.t 26) (.c (.int .i64 (.lit 0)))⟩])
 (cCond (.t 27) (cSeq (cOps [⟨some 4, true, none, iMov (.c (.int .i64 (.lit 0)))⟩,
 ⟨some 5, true, none, iMov (.c (.int .i64 (.lit 4)))⟩])
 cRet) cSkip))
 (cSeq (cOps [⟨some 28, false, none, iMov (.t 8)⟩,
 ⟨some 4, true, none, iMov (.t 28)⟩,
 ⟨some 5, true, none, iMov (.c (.int .i64 (.lit 0)))⟩])
 cRet))))))), [.t 4, .t 5]⟩
noncomputable def Tryd.kp30 : List Nat := [0, 1, 2, 3, 4, 5, 6, 13, 26]
noncomputable def Tryd.cf30 : CF := ⟨1, (cSeq (cOps [⟨some 1, true, none, iBox 27 (.t 0)⟩,
 ⟨some 2, true, none, iMov (.c (.int .i64 (.lit 0)))⟩,
 ⟨some 3, true, none, iMov (.c (.int .i64 (.lit 0)))⟩])
 (cSeq (cOps [⟨some 8, false, none, iLoadN 23 (.t 1)⟩,
 ⟨some 9, false, none, iCall (.c (.func (.func 48) [] [])) [(.t 8)]⟩,
 ⟨some 7, false, none, iMov (.t 9)⟩,
 ⟨some 10, false, none, iExtract 0 (.t 7)⟩,
 ⟨some 11, false, none, iExtract 1 (.t 7)⟩,
 ⟨some 4, true, none, iAlloc 78 [(.int .i64 (.lit 0)), (.int .i64 (.lit 0)), (.int .i64 (.lit 0)), (.int .i64 (.lit 0)), (.int .i64 (.lit 0)), (.int .i64 (.lit 0)), (.int .i64 (.lit 0)), (.int .i64 (.lit 0)), (.int .i64 (.lit 0)), (.int .i64 (.lit 0)), (.int .i64 (.lit 0)), (.int .i64 (.lit 0)), (.int .i64 (.lit 0)), (.int .i64 (.lit 0)), (.int .i64 (.lit 0)), (.int .i64 (.lit 0)), (.int .i64 (.lit 0)), (.int .i64 (.lit 0)), (.int .i64 (.lit 0)), (.int .i64 (.lit 0)), (.int .i64 (.lit 0)), (.int .i64 (.lit 0)), .nilslice, (.int .i64 (.lit 0)), (.int .i64 (.lit 0)), (.int .i64 (.lit 0)), (.int .i64 (.lit 0)), (.int .i64 (.lit 0)), (.int .i64 (.lit 0)), (.int .i64 (.lit 0)), (.int .i64 (.lit 0)), (.int .i64 (.lit 0)), (.int .i64 (.lit 0)), (.int .i64 (.lit 0)), (.int .i64 (.lit 0)), (.int .i64 (.lit 0)), (.int .i64 (.lit 0)), (.int .i64 (.lit 0)), (.int .i64 (.lit 0))]⟩,
 ⟨none, false, none, iStore 39 (.t 4) (.t 10)⟩,
 ⟨some 5, true, none, iMov (.t 11)⟩])
 (cSeq (cSeq (cOps [⟨some 12, false, none, iMov (.t 5)⟩,
 ⟨some 13, true, none, iCmp .neq (.t 12) (.c (.int .i64 (.lit 0)))⟩])
 (cCond (.t 13) (cSeq (cOps [⟨some 14, false, none, iMov (.t 5)⟩,
 ⟨some 2, true, none, iMov (.c (.int .i64 (.lit 0)))⟩,
 ⟨some 3, true, none, iMov (.t 14)⟩])
 cRet) cSkip))
 (cSeq (cOps [⟨some 15, false, none, iFaddr 0 (.t 4)⟩,
 ⟨some 16, false, none, iFaddr 4 (.t 15)⟩,
 ⟨some 17, false, none, iLoad (.t 16)⟩,
 ⟨some 18, false, none, iArith .add (.t 17) (.c (.int .i64 (.lit 1)))⟩,
 ⟨some 19, false, none, iLoadN 39 (.t 4)⟩,
 ⟨some 20, false, none, iFunc (.func 71) [(.t 19)] []⟩,
 ⟨some 21, false, none, iCall (.c (.func (.func 70) [] [])) [(.t 18), (.t 20)]⟩,
 ⟨some 6, true, none, iMov (.t 21)⟩])
 (cSeq (cSeq (cOps [⟨some 22, false, none, iMov (.t 6)⟩,
 ⟨some 23, false, none, iFaddr 0 (.t 4)⟩,
 ⟨some 24, false, none, iFaddr 4 (.t 23)⟩,
 ⟨some 25, false, none, iLoad (.t 24)⟩,
 ⟨some 26, true, none, iCmp .gtr (.t 22) (.t 25)⟩])
 (cCond (.t 26) (cSeq (cOps [⟨some 2, true, none, iMov (.c (.int .i64 (.lit 0)))⟩,
 ⟨some 3, true, none, iMov (.c (.int .i64 (.lit 4)))⟩])
 cRet) cSkip))
 (cSeq (cOps [⟨some 27, false, none, iMov (.t 6)⟩,
 ⟨some 2, true, none, iMov (.t 27)⟩,
 ⟨some 3, true, none, iMov (.c (.int .i64 (.lit 0)))⟩])
 cRet)))))), [.t 2, .t 3]⟩
noncomputable def Tryd.kp37 : List Nat := [0, 1, 2, 6]
noncomputable def Tryd.cf37 : CF := ⟨3, (cSeq (cOps [⟨some 6, true, none, iMov (.c (.bool (.lit false)))⟩])
 (cSeq (cOps [⟨some 7, false, none, iMov (.t 0)⟩,
 ⟨some 8, false, none, iMov (.t 1)⟩,
 ⟨some 9, false, none, iCmp .geq (.t 7) (.t 8)⟩,
 ⟨some 10, false, none, iMov (.t 9)⟩,
 ⟨some 11, false, some (10, true), iMov (.t 0)⟩,
 ⟨some 12, false, some (10, true), iMov (.t 2)⟩,
 ⟨some 13, false, some (10, true), iCmp .leq (.t 11) (.t 12)⟩,
 ⟨some 14, false, none, iPick (.t 10) (.t 13) (.c (.bool (.lit false)))⟩,
 ⟨some 6, true, none, iMov (.t 14)⟩])
 cRet)), [.t 6]⟩
noncomputable def Tryd.kp40 : List Nat := [0, 1, 4]
noncomputable def Tryd.cf40 : CF := ⟨2, (cSeq (cOps [⟨some 4, true, none, iAlloc 23 [(.int .i64 (.lit 0)), (.int .i64 (.lit 0))]⟩])
 (cSeq (cOps [⟨some 5, false, none, iMov (.t 0)⟩,
 ⟨some 6, false, none, iMov (.t 1)⟩,
 ⟨some 7, false, none, iBuild [(.int .i64 (.lit 0)), (.int .i64 (.lit 0))] [(0, 1, (.t 5)), (1, 1, (.t 6))]⟩,
 ⟨none, false, none, iStore 2 (.t 4) (.t 7)⟩])
 cRet)), [.cell 4 true 2]⟩
noncomputable def Tryd.kp45 : List Nat := [0]
noncomputable def Tryd.cf45 : CF := ⟨0, (cSeq (cOps [⟨some 0, true, none, iAlloc 27 [(.int .i64 (.lit 0)), (.int .i64 (.lit 0)), (.int .i64 (.lit 0)), (.int .i64 (.lit 0)), (.int .i64 (.lit 0)), (.int .i64 (.lit 0)), (.int .i64 (.lit 0)), (.int .i64 (.lit 0)), (.int .i64 (.lit 0)), (.int .i64 (.lit 0)), (.int .i64 (.lit 0)), (.int .i64 (.lit 0)), (.int .i64 (.lit 0)), (.int .i64 (.lit 0)), (.int .i64 (.lit 0)), (.int .i64 (.lit 0)), (.int .i64 (.lit 0)), (.int .i64 (.lit 0)), (.int .i64 (.lit 0)), (.int .i64 (.lit 0)), (.int .i64 (.lit 0)), (.int .i64 (.lit 0)), .nilslice]⟩])
 (cSeq (cOps [⟨some 1, false, none, iCall (.c (.func (.func 40) [] [])) [(.c (.int .i64 (.lit 20))), (.c (.int .i64 (.lit 24)))]⟩,
 ⟨some 2, false, none, iCall (.c (.func (.func 40) [] [])) [(.c (.int .i64 (.lit 30))), (.c (.int .i64 (.lit 30)))]⟩,
 ⟨some 3, false, none, iCall (.c (.func (.func 40) [] [])) [(.c (.int .i64 (.lit 0))), (.c (.int .i64 (.lit 1)))]⟩,
 ⟨some 4, false, none, iCall (.c (.func (.func 40) [] [])) [(.c (.int .i64 (.lit 1))), (.c (.int .i64 (.lit 2)))]⟩,
 ⟨some 5, false, none, iBuild [(.int .i64 (.lit 0)), (.int .i64 (.lit 0)), (.int .i64 (.lit 0)), (.int .i64 (.lit 0))] [(0, 2, (.t 3)), (2, 2, (.t 4))]⟩,
 ⟨some 6, false, none, iCall (.c (.func (.func 40) [] [])) [(.c (.int .i64 (.lit 0))), (.c (.int .i64 (.lit 1)))]⟩,
 ⟨some 7, false, none, iCall (.c (.func (.func 40) [] [])) [(.c (.int .i64 (.lit 1))), (.c (.int .i64 (.lit 1)))]⟩,
 ⟨some 8, false, none, iBuild [(.int .i64 (.lit 0)), (.int .i64 (.lit 0)), (.int .i64 (.lit 0)), (.int .i64 (.lit 0))] [(0, 2, (.t 6)), (2, 2, (.t 7))]⟩,
 ⟨some 9, false, none, iCall (.c (.func (.func 40) [] [])) [(.c (.int .i64 (.lit 20))), (.c (.int .i64 (.lit 24)))]⟩,
 ⟨some 10, false, none, iCall (.c (.func (.func 40) [] [])) [(.c (.int .i64 (.lit 12))), (.c (.int .i64 (.lit 16)))]⟩,
 ⟨some 11, false, none, iCall (.c (.func (.func 76) [] [])) [(.c (.int .i64 (.lit 5))), (.c (.int .i64 (.lit 6))), (.c (.bool (.lit false))), (.c (.int .i64 (.lit 0)))]⟩,
 ⟨some 12, false, none, iCall (.c (.func (.func 76) [] [])) [(.c (.int .i64 (.lit 10))), (.c (.int .i64 (.lit 12))), (.c (.bool (.lit true))), (.c (.int .i64 (.lit 2)))]⟩,
 ⟨some 13, false, none, iCall (.c (.func (.func 76) [] [])) [(.c (.int .i64 (.lit 3))), (.c (.int .i64 (.lit 4))), (.c (.bool (.lit false))), (.c (.int .i64 (.lit 1)))]⟩,
 ⟨some 14, false, none, iCall (.c (.func (.func 76) [] [])) [(.c (.int .i64 (.lit 8))), (.c (.int .i64 (.lit 8))), (.c (.bool (.lit true))), (.c (.int .i64 (.lit 5)))]⟩,
 ⟨some 15, false, none, iBslice 66 [(.int .i64 (.lit 0)), (.int .i64 (.lit 0)), (.bool (.lit false)), (.int .i64 (.lit 0))] 4 [(0, 4, (.t 11)), (4, 4, (.t 12)), (8, 4, (.t 13)), (12, 4, (.t 14))]⟩,
 ⟨some 16, false, none, iBuild [(.int .i64 (.lit 0)), (.int .i64 (.lit 0)), (.int .i64 (.lit 0)), (.int .i64 (.lit 0)), (.int .i64 (.lit 0)), (.int .i64 (.lit 0)), (.int .i64 (.lit 0)), (.int .i64 (.lit 0)), (.int .i64 (.lit 0)), (.int .i64 (.lit 0)), (.int .i64 (.lit 0)), (.int .i64 (.lit 0)), (.int .i64 (.lit 0)), (.int .i64 (.lit 0)), (.int .i64 (.lit 0)), (.int .i64 (.lit 0)), (.int .i64 (.lit 0)), (.int .i64 (.lit 0)), (.int .i64 (.lit 0)), (.int .i64 (.lit 0)), (.int .i64 (.lit 0)), (.int .i64 (.lit 0)), .nilslice] [(0, 2, (.t 1)), (2, 2, (.t 2)), (4, 1, (.c (.int .i64 (.lit 40)))), (5, 1, (.c (.int .i64 (.lit 40)))), (6, 1, (.c (.int .i64 (.lit 6)))), (7, 1, (.c (.int .i64 (.lit 10)))), (8, 4, (.t 5)), (12, 4, (.t 8)), (16, 2, (.t 9)), (18, 2, (.t 10)), (20, 1, (.c (.int .i64 (.lit 10)))), (21, 1, (.c (.int .i64 (.lit 18)))), (22, 1, (.t 15))]⟩,
 ⟨none, false, none, iStore 23 (.t 0) (.t 16)⟩])
 cRet)), [.cell 0 true 23]⟩
noncomputable def Tryd.kp46 : List Nat := [0]
noncomputable def Tryd.cf46 : CF := ⟨0, (cSeq (cOps [⟨some 0, true, none, iMov (.c .nilslice)⟩])
 (cSeq (cOps [⟨some 1, false, none, iBuild [(.int .i64 (.lit 0)), (.int .i64 (.lit 0))] []⟩,
 ⟨some 2, false, none, iBuild [(.int .i64 (.lit 0)), (.int .i64 (.lit 0))] [(0, 1, (.c (.int .i64 (.lit 2))))]⟩,
 ⟨some 3, false, none, iBuild [(.int .i64 (.lit 0)), (.int .i64 (.lit 0))] [(0, 1, (.c (.int .i64 (.lit 1))))]⟩,
 ⟨some 4, false, none, iBuild [(.int .i64 (.lit 0)), (.int .i64 (.lit 0))] [(0, 1, (.c (.int .i64 (.lit 2)))), (1, 1, (.c (.int .i64 (.lit 1))))]⟩,
 ⟨some 5, false, none, iBslice 64 [(.int .i64 (.lit 0)), (.int .i64 (.lit 0))] 4 [(0, 2, (.t 1)), (2, 2, (.t 2)), (4, 2, (.t 3)), (6, 2, (.t 4))]⟩,
 ⟨some 0, true, none, iMov (.t 5)⟩])
 cRet)), [.t 0]⟩
noncomputable def Tryd.kp47 : List Nat := [0]
noncomputable def Tryd.cf47 : CF := ⟨0, (cSeq (cOps [⟨some 0, true, none, iMov (.c .nilslice)⟩])
 (cSeq (cOps [⟨some 1, false, none, iBuild [(.int .i64 (.lit 0)), (.int .i64 (.lit 0))] []⟩,
 ⟨some 2, false, none, iBuild [(.int .i64 (.lit 0)), (.int .i64 (.lit 0))] [(0, 1, (.c (.int .i64 (.lit 1))))]⟩,
 ⟨some 3, false, none, iBuild [(.int .i64 (.lit 0)), (.int .i64 (.lit 0))] [(0, 1, (.c (.int .i64 (.lit 1))))]⟩,
 ⟨some 4, false, none, iBuild [(.int .i64 (.lit 0)), (.int .i64 (.lit 0))] [(0, 1, (.c (.int .i64 (.lit 2)))), (1, 1, (.c (.int .i64 (.lit 1))))]⟩,
 ⟨some 5, false, none, iBslice 64 [(.int .i64 (.lit 0)), (.int .i64 (.lit 0))] 4 [(0, 2, (.t 1)), (2, 2, (.t 2)), (4, 2, (.t 3)), (6, 2, (.t 4))]⟩,
 ⟨some 0, true, none, iMov (.t 5)⟩])
 cRet)), [.t 0]⟩
noncomputable def Tryd.kp48 : List Nat := [0, 1, 2, 3, 4, 8]
noncomputable def Tryd.cf48 : CF := ⟨1, (cSeq (cOps [⟨some 1, true, none, iBox 27 (.t 0)⟩,
 ⟨some 2, true, none, iAlloc 78 [(.int .i64 (.lit 0)), (.int .i64 (.lit 0)), (.int .i64 (.lit 0)), (.int .i64 (.lit 0)), (.int .i64 (.lit 0)), (.int .i64 (.lit 0)), (.int .i64 (.lit 0)), (.int .i64 (.lit 0)), (.int .i64 (.lit 0)), (.int .i64 (.lit 0)), (.int .i64 (.lit 0)), (.int .i64 (.lit 0)), (.int .i64 (.lit 0)), (.int .i64 (.lit 0)), (.int .i64 (.lit 0)), (.int .i64 (.lit 0)), (.int .i64 (.lit 0)), (.int .i64 (.lit 0)), (.int .i64 (.lit 0)), (.int .i64 (.lit 0)), (.int .i64 (.lit 0)), (.int .i64 (.lit 0)), .nilslice, (.int .i64 (.lit 0)), (.int .i64 (.lit 0)), (.int .i64 (.lit 0)), (.int .i64 (.lit 0)), (.int .i64 (.lit 0)), (.int .i64 (.lit 0)), (.int .i64 (.lit 0)), (.int .i64 (.lit 0)), (.int .i64 (.lit 0)), (.int .i64 (.lit 0)), (.int .i64 (.lit 0)), (.int .i64 (.lit 0)), (.int .i64 (.lit 0)), (.int .i64 (.lit 0)), (.int .i64 (.lit 0)), (.int .i64 (.lit 0))]⟩,
 ⟨some 3, true, none, iMov (.c (.int .i64 (.lit 0)))⟩])
 (cSeq (cSeq (cOps [⟨some 5, false, none, iLoadN 23 (.t 1)⟩,
 ⟨some 6, false, none, iCall (.c (.func (.func 16) [] [])) [(.t 5)]⟩,
 ⟨some 4, true, none, iMov (.t 6)⟩])
 (cSeq (cOps [⟨some 7, false, none, iMov (.t 4)⟩,
 ⟨some 8, true, none, iCmp .neq (.t 7) (.c (.int .i64 (.lit 0)))⟩])
 (cCond (.t 8) (cSeq (cOps [⟨some 9, false, none, iBuild [(.int .i64 (.lit 0)), (.int .i64 (.lit 0)), (.int .i64 (.lit 0)), (.int .i64 (.lit 0)), (.int .i64 (.lit 0)), (.int .i64 (.lit 0)), (.int .i64 (.lit 0)), (.int .i64 (.lit 0)), (.int .i64 (.lit 0)), (.int .i64 (.lit 0)), (.int .i64 (.lit 0)), (.int .i64 (.lit 0)), (.int .i64 (.lit 0)), (.int .i64 (.lit 0)), (.int .i64 (.lit 0)), (.int .i64 (.lit 0)), (.int .i64 (.lit 0)), (.int .i64 (.lit 0)), (.int .i64 (.lit 0)), (.int .i64 (.lit 0)), (.int .i64 (.lit 0)), (.int .i64 (.lit 0)), .nilslice, (.int .i64 (.lit 0)), (.int .i64 (.lit 0)), (.int .i64 (.lit 0)), (.int .i64 (.lit 0)), (.int .i64 (.lit 0)), (.int .i64 (.lit 0)), (.int .i64 (.lit 0)), (.int .i64 (.lit 0)), (.int .i64 (.lit 0)), (.int .i64 (.lit 0)), (.int .i64 (.lit 0)), (.int .i64 (.lit 0)), (.int .i64 (.lit 0)), (.int .i64 (.lit 0)), (.int .i64 (.lit 0)), (.int .i64 (.lit 0))] []⟩,
 ⟨some 10, false, none, iMov (.t 4)⟩,
 ⟨none, false, none, iStore 39 (.t 2) (.t 9)⟩,
 ⟨some 3, true, none, iMov (.t 10)⟩])
 cRet) cSkip)))
 (cSeq (cOps [⟨some 11, false, none, iLoadN 23 (.t 1)⟩,
 ⟨some 12, false, none, iCall (.c (.func (.func 77) [] [])) [(.t 11)]⟩,
 ⟨none, false, none, iStore 39 (.t 2) (.t 12)⟩,
 ⟨some 3, true, none, iMov (.c (.int .i64 (.lit 0)))⟩])
 cRet))), [.cell 2 true 39, .t 3]⟩
noncomputable def Tryd.kp49 : List Nat := [0, 1, 3, 4]
noncomputable def Tryd.cf49 : CF := ⟨2, (cSeq (cOps [⟨some 3, true, none, iBox 23 (.t 1)⟩,
 ⟨some 4, true, none, iMov (.c (.bool (.lit false)))⟩])
 (cSeq (cOps [⟨some 5, false, none, iFaddr 0 (.t 3)⟩,
 ⟨some 6, false, none, iLoad (.t 5)⟩,
 ⟨some 7, false, none, iMov (.t 0)⟩,
 ⟨some 8, false, none, iCmp .leq (.t 6) (.t 7)⟩,
 ⟨some 9, false, none, iMov (.t 8)⟩,
 ⟨some 10, false, some (9, true), iMov (.t 0)⟩,
 ⟨some 11, false, some (9, true), iFaddr 1 (.t 3)⟩,
 ⟨some 12, false, some (9, true), iLoad (.t 11)⟩,
 ⟨some 13, false, some (9, true), iCmp .leq (.t 10) (.t 12)⟩,
 ⟨some 14, false, none, iPick (.t 9) (.t 13) (.c (.bool (.lit false)))⟩,
 ⟨some 4, true, none, iMov (.t 14)⟩])
 cRet)), [.t 4]⟩
noncomputable def Tryd.kp50 : List Nat := [0, 1, 2, 4, 9]
noncomputable def Tryd.cf50 : CF := ⟨2, (cSeq (cOps [⟨some 2, true, none, iBox 78 (.t 0)⟩,
 ⟨some 4, true, none, iAlloc 23 [(.int .i64 (.lit 0)), (.int .i64 (.lit 0))]⟩])
 (cSeq (cSeq (cOps [⟨some 5, false, none, iMov (.t 1)⟩,
 ⟨some 6, false, none, iFaddr 0 (.t 2)⟩,
 ⟨some 7, false, none, iFaddr 20 (.t 6)⟩,
 ⟨some 8, false, none, iLoad (.t 7)⟩,
 ⟨some 9, true, none, iCmp .lss (.t 5) (.t 8)⟩])
 (cCond (.t 9) (cSeq (cOps [⟨some 10, false, none, iFaddr 0 (.t 2)⟩,
 ⟨some 11, false, none, iFaddr 18 (.t 10)⟩,
 ⟨some 12, false, none, iLoadN 2 (.t 11)⟩,
 ⟨none, false, none, iStore 2 (.t 4) (.t 12)⟩])
 cRet) cSkip))
 (cSeq (cOps [⟨some 13, false, none, iFaddr 0 (.t 2)⟩,
 ⟨some 14, false, none, iFaddr 16 (.t 13)⟩,
 ⟨some 15, false, none, iLoadN 2 (.t 14)⟩,
 ⟨none, false, none, iStore 2 (.t 4) (.t 15)⟩])
 cRet))), [.cell 4 true 2]⟩
noncomputable def Tryd.kp51 : List Nat := [0, 1, 2, 3, 4, 18, 19, 20, 28]
noncomputable def Tryd.cf51 : CF := ⟨1, (cSeq (cOps [⟨some 1, true, none, iBox 27 (.t 0)⟩,
 ⟨some 2, true, none, iMov (.c (.bool (.lit false)))⟩])
 (cSeq (cSeq (cOps [⟨some 5, false, none, iFaddr 4 (.t 1)⟩,
 ⟨some 6, false, none, iLoad (.t 5)⟩,
 ⟨some 7, false, none, iFaddr 5 (.t 1)⟩,
 ⟨some 8, false, none, iLoad (.t 7)⟩,
 ⟨some 9, false, none, iFaddr 6 (.t 1)⟩,
 ⟨some 10, false, none, iLoad (.t 9)⟩,
 ⟨some 11, false, none, iFaddr 7 (.t 1)⟩,
 ⟨some 12, false, none, iLoad (.t 11)⟩,
 ⟨some 13, false, none, iFaddr 21 (.t 1)⟩,
 ⟨some 14, false, none, iLoad (.t 13)⟩,
 ⟨some 15, false, none, iFaddr 22 (.t 1)⟩,
 ⟨some 16, false, none, iLoad (.t 15)⟩,
 ⟨some 17, false, none, iLenS (.t 16)⟩,
 ⟨some 18, true, none, iBuild [(.int .i64 (.lit 0)), (.int .i64 (.lit 0)), (.int .i64 (.lit 0)), (.int .i64 (.lit 0)), (.int .i64 (.lit 0)), (.int .i64 (.lit 0))] [(0, 1, (.t 6)), (1, 1, (.t 8)), (2, 1, (.t 10)), (3, 1, (.t 12)), (4, 1, (.t 14)), (5, 1, (.t 17))]⟩,
 ⟨some 19, true, none, iMov (.c (.int .i64 (.lit 0)))⟩])
 (cBlock 0 (cLoop (cSeq (cOps [⟨some 20, true, none, iCmp .lss (.t 19) (.c (.int .i64 (.lit 6)))⟩])
 (cSeq (cCond (.t 20) cSkip (cExit 0))
 (cSeq (cBlock 1 (cSeq (cOps [⟨some 21, false, none, iMov (.t 19)⟩,
 ⟨some 22, false, none, iIndex false 1 6 (.t 18) (.t 19)⟩,
 ⟨some 3, true, none, iMov (.t 21)⟩,
 ⟨some 4, true, none, iMov (.t 22)⟩])
 (cSeq (cOps [⟨some 23, false, none, iMov (.t 4)⟩,
 ⟨some 24, false, none, iMov (.t 3)⟩,
 ⟨some 25, false, none, iIaddrA 2 6 (.c (.ptr 0 0)) (.t 24)⟩,
 ⟨some 26, false, none, iLoadN 2 (.t 25)⟩,
 ⟨some 27, false, none, iCall (.c (.func (.func 49) [] [])) [(.t 23), (.t 26)]⟩,
 ⟨some 28, true, none, iNot (.t 27)⟩])
 (cCond (.t 28) (cSeq (cOps [⟨some 2, true, none, iMov (.c (.bool (.lit false)))⟩])
 cRet) cSkip))))
 (cOps [⟨some 29, false, none, iArith .add (.t 19) (.c (.int .i64 (.lit 1)))⟩,
 ⟨some 19, true, none, iMov (.t 29)⟩])))))))
 (cSeq (cOps [⟨some 30, false, none, iFaddr 4 (.t 1)⟩,
 ⟨some 31, false, none, iLoad (.t 30)⟩,
 ⟨some 32, false, none, iFaddr 0 (.t 1)⟩,
 ⟨some 33, false, none, iLoadN 2 (.t 32)⟩,
 ⟨some 34, false, none, iBslice 23 [(.int .i64 (.lit 0)), (.int .i64 (.lit 0))] 1 [(0, 2, (.t 33))]⟩,
 ⟨some 35, false, none, iCall (.c (.func (.func 78) [] [])) [(.t 31), (.t 34)]⟩,
 ⟨some 36, false, none, iMov (.t 35)⟩,
 ⟨some 37, false, some (36, true), iFaddr 5 (.t 1)⟩,
 ⟨some 38, false, some (36, true), iLoad (.t 37)⟩,
 ⟨some 39, false, some (36, true), iFaddr 2 (.t 1)⟩,
 ⟨some 40, false, some (36, true), iLoadN 2 (.t 39)⟩,
 ⟨some 41, false, some (36, true), iBslice 23 [(.int .i64 (.lit 0)), (.int .i64 (.lit 0))] 1 [(0, 2, (.t 40))]⟩,
 ⟨some 42, false, some (36, true), iCall (.c (.func (.func 78) [] [])) [(.t 38), (.t 41)]⟩,
 ⟨some 43, false, none, iPick (.t 36) (.t 42) (.c (.bool (.lit false)))⟩,
 ⟨some 44, false, none, iMov (.t 43)⟩,
 ⟨some 45, false, some (44, true), iFaddr 8 (.t 1)⟩,
 ⟨some 46, false, some (44, true), iSliceA 2 2 (.t 45) none none none⟩,
 ⟨some 47, false, some (44, true), iCall (.c (.func (.func 78) [] [])) [(.c (.int .i64 (.lit 3))), (.t 46)]⟩,
 ⟨some 48, false, none, iPick (.t 44) (.t 47) (.c (.bool (.lit false)))⟩,
 ⟨some 49, false, none, iMov (.t 48)⟩,
 ⟨some 50, false, some (49, true), iFaddr 12 (.t 1)⟩,
 ⟨some 51, false, some (49, true), iSliceA 2 2 (.t 50) none none none⟩,
 ⟨some 52, false, some (49, true), iCall (.c (.func (.func 78) [] [])) [(.c (.int .i64 (.lit 3))), (.t 51)]⟩,
 ⟨some 53, false, none, iPick (.t 49) (.t 52) (.c (.bool (.lit false)))⟩,
 ⟨some 54, false, none, iMov (.t 53)⟩,
 ⟨some 55, false, some (54, true), iLoadN 23 (.t 1)⟩,
 ⟨some 56, false, some (54, true), iCall (.c (.func (.func 79) [] [])) [(.t 55)]⟩,
 ⟨some 57, false, none, iPick (.t 54) (.t 56) (.c (.bool (.lit false)))⟩,
 ⟨some 58, false, none, iMov (.t 57)⟩,
 ⟨some 59, false, some (58, true), iFaddr 20 (.t 1)⟩,
 ⟨some 60, false, some (58, true), iLoad (.t 59)⟩,
 ⟨some 61, false, some (58, true), iFaddr 5 (.t 1)⟩,
 ⟨some 62, false, some (58, true), iLoad (.t 61)⟩,
 ⟨some 63, false, some (58, true), iBuild [(.int .i64 (.lit 0)), (.int .i64 (.lit 0))] [(0, 1, (.c (.int .i64 (.lit 0)))), (1, 1, (.t 62))]⟩,
 ⟨some 64, false, some (58, true), iCall (.c (.func (.func 49) [] [])) [(.t 60), (.t 63)]⟩,
 ⟨some 65, false, none, iPick (.t 58) (.t 64) (.c (.bool (.lit false)))⟩,
 ⟨some 66, false, none, iMov (.t 65)⟩,
 ⟨some 67, false, some (66, true), iFaddr 22 (.t 1)⟩,
 ⟨some 68, false, some (66, true), iLoad (.t 67)⟩,
 ⟨some 69, false, some (66, true), iCall (.c (.func (.func 80) [] [])) [(.t 68)]⟩,
 ⟨some 70, false, none, iPick (.t 66) (.t 69) (.c (.bool (.lit false)))⟩,
 ⟨some 2, true, none, iMov (.t 70)⟩])
 cRet))), [.t 2]⟩
noncomputable def Tryd.kp52 : List Nat := [0, 1, 2, 3, 6]
noncomputable def Tryd.cf52 : CF := ⟨3, (cSeq (cOps [⟨some 3, true, none, iBox 23 (.t 0)⟩,
 ⟨some 6, true, none, iMov (.c (.bool (.lit false)))⟩])
 (cSeq (cOps [⟨some 7, false, none, iMov (.t 1)⟩,
 ⟨some 8, false, none, iFaddr 0 (.t 3)⟩,
 ⟨some 9, false, none, iLoad (.t 8)⟩,
 ⟨some 10, false, none, iCmp .leq (.t 7) (.t 9)⟩,
 ⟨some 11, false, none, iMov (.t 10)⟩,
 ⟨some 12, false, some (11, true), iFaddr 0 (.t 3)⟩,
 ⟨some 13, false, some (11, true), iLoad (.t 12)⟩,
 ⟨some 14, false, some (11, true), iFaddr 1 (.t 3)⟩,
 ⟨some 15, false, some (11, true), iLoad (.t 14)⟩,
 ⟨some 16, false, some (11, true), iCmp .leq (.t 13) (.t 15)⟩,
 ⟨some 17, false, none, iPick (.t 11) (.t 16) (.c (.bool (.lit false)))⟩,
 ⟨some 18, false, none, iMov (.t 17)⟩,
 ⟨some 19, false, some (18, true), iFaddr 1 (.t 3)⟩,
 ⟨some 20, false, some (18, true), iLoad (.t 19)⟩,
 ⟨some 21, false, some (18, true), iMov (.t 2)⟩,
 ⟨some 22, false, some (18, true), iCmp .leq (.t 20) (.t 21)⟩,
 ⟨some 23, false, none, iPick (.t 18) (.t 22) (.c (.bool (.lit false)))⟩,
 ⟨some 6, true, none, iMov (.t 23)⟩])
 cRet)), [.t 6]⟩
noncomputable def Tryd.kp53 : List Nat := [0, 1, 2, 4, 5, 6, 7, 14, 15, 16, 17, 18, 51]
noncomputable def Tryd.cf53 : CF := ⟨2, (cSeq (cOps [⟨some 2, true, none, iBox 78 (.t 0)⟩,
 ⟨some 4, true, none, iMov (.c (.bool (.lit false)))⟩])
 (cSeq (cSeq (cOps [⟨some 8, false, none, iMov (.t 1)⟩,
 ⟨some 9, false, none, iLenS (.t 8)⟩,
 ⟨some 10, false, none, iFaddr 0 (.t 2)⟩,
 ⟨some 11, false, none, iFaddr 22 (.t 10)⟩,
 ⟨some 12, false, none, iLoad (.t 11)⟩,
 ⟨some 13, false, none, iLenS (.t 12)⟩,
 ⟨some 14, true, none, iCmp .neq (.t 9) (.t 13)⟩])
 (cCond (.t 14) (cSeq (cOps [⟨some 4, true, none, iMov (.c (.bool (.lit false)))⟩])
 cRet) cSkip))
 (cSeq (cSeq (cOps [⟨some 15, true, none, iMov (.t 1)⟩,
 ⟨some 16, true, none, iLenS (.t 15)⟩,
 ⟨some 17, true, none, iMov (.c (.int .i64 (.lit 0)))⟩])
 (cBlock 0 (cLoop (cSeq (cOps [⟨some 18, true, none, iCmp .lss (.t 17) (.t 16)⟩])
 (cSeq (cCond (.t 18) cSkip (cExit 0))
 (cSeq (cBlock 1 (cSeq (cOps [⟨some 19, false, none, iMov (.t 17)⟩,
 ⟨some 20, false, none, iIaddr 2 (.t 15) (.t 17)⟩,
 ⟨some 21, false, none, iLoadN 2 (.t 20)⟩,
 ⟨some 6, true, none, iAlloc 64 [(.int .i64 (.lit 0)), (.int .i64 (.lit 0))]⟩,
 ⟨some 5, true, none, iMov (.t 19)⟩,
 ⟨none, false, none, iStore 2 (.t 6) (.t 21)⟩])
 (cSeq (cOps [⟨some 22, false, none, iFaddr 0 (.t 2)⟩,
 ⟨some 23, false, none, iFaddr 22 (.t 22)⟩,
 ⟨some 24, false, none, iLoad (.t 23)⟩,
 ⟨some 25, false, none, iMov (.t 5)⟩,
 ⟨some 26, false, none, iIaddr 4 (.t 24) (.t 25)⟩,
 ⟨some 27, false, none, iFaddr 3 (.t 26)⟩,
 ⟨some 28, false, none, iLoad (.t 27)⟩,
 ⟨some 7, true, none, iMov (.t 28)⟩])
 (cSeq (cOps [⟨some 29, false, none, iFaddr 0 (.t 6)⟩,
 ⟨some 30, false, none, iLoad (.t 29)⟩,
 ⟨some 31, false, none, iCmp .lss (.t 30) (.c (.int .i64 (.lit 0)))⟩,
 ⟨some 32, false, none, iMov (.t 31)⟩,
 ⟨some 33, false, some (32, false), iFaddr 0 (.t 6)⟩,
 ⟨some 34, false, some (32, false), iLoad (.t 33)⟩,
 ⟨some 35, false, some (32, false), iMov (.t 7)⟩,
 ⟨some 36, false, some (32, false), iCmp .gtr (.t 34) (.t 35)⟩,
 ⟨some 37, false, none, iPick (.t 32) (.c (.bool (.lit true))) (.t 36)⟩,
 ⟨some 38, false, none, iMov (.t 37)⟩,
 ⟨some 39, false, some (38, false), iFaddr 1 (.t 6)⟩,
 ⟨some 40, false, some (38, false), iLoad (.t 39)⟩,
 ⟨some 41, false, some (38, false), iCmp .lss (.t 40) (.c (.int .i64 (.lit 0)))⟩,
 ⟨some 42, false, none, iPick (.t 38) (.c (.bool (.lit true))) (.t 41)⟩,
 ⟨some 43, false, none, iMov (.t 42)⟩,
 ⟨some 44, false, some (43, false), iFaddr 1 (.t 6)⟩,
 ⟨some 45, false, some (43, false), iLoad (.t 44)⟩,
 ⟨some 46, false, some (43, false), iMov (.t 7)⟩,
 ⟨some 47, false, some (43, false), iFaddr 0 (.t 6)⟩,
 ⟨some 48, false, some (43, false), iLoad (.t 47)⟩,
 ⟨some 49, false, some (43, false), iArith .sub (.t 46) (.t 48)⟩,
 ⟨some 50, false, some (43, false), iCmp .gtr (.t 45) (.t 49)⟩,
 ⟨some 51, true, none, iPick (.t 43) (.c (.bool (.lit true))) (.t 50)⟩])
 (cCond (.t 51) (cSeq (cOps [⟨some 4, true, none, iMov (.c (.bool (.lit false)))⟩])
 cRet) cSkip)))))
 (cOps [⟨some 52, false, none, iArith .add (.t 17) (.c (.int .i64 (.lit 1)))⟩,
 ⟨some 17, true, none, iMov (.t 52)⟩])))))))
 (cSeq (cOps [⟨some 4, true, none, iMov (.c (.bool (.lit true)))⟩])
 cRet)))), [.t 4]⟩
noncomputable def Tryd.kp54 : List Nat := [0, 1, 2, 4]
noncomputable def Tryd.cf54 : CF := ⟨2, (cSeq (cOps [⟨some 2, true, none, iBox 78 (.t 0)⟩,
 ⟨some 4, true, none, iMov (.c (.bool (.lit false)))⟩])
 (cSeq (cOps [⟨some 5, false, none, iMov (.t 1)⟩,
 ⟨some 6, false, none, iCmp .geq (.t 5) (.c (.int .i64 (.lit 0)))⟩,
 ⟨some 7, false, none, iMov (.t 6)⟩,
 ⟨some 8, false, some (7, true), iMov (.t 1)⟩,
 ⟨some 9, false, some (7, true), iFaddr 0 (.t 2)⟩,
 ⟨some 10, false, some (7, true), iFaddr 22 (.t 9)⟩,
 ⟨some 11, false, some (7, true), iLoad (.t 10)⟩,
 ⟨some 12, false, some (7, true), iLenS (.t 11)⟩,
 ⟨some 13, false, some (7, true), iCmp .lss (.t 8) (.t 12)⟩,
 ⟨some 14, false, none, iPick (.t 7) (.t 13) (.c (.bool (.lit false)))⟩,
 ⟨some 4, true, none, iMov (.t 14)⟩])
 cRet)), [.t 4]⟩
noncomputable def Tryd.ra55021 : C := (cOps [⟨some 11, true, none, iAlloc 128 [(.int .i64 (.lit 0)), (.int .i64 (.lit 0)), (.int .i64 (.lit 0)), (.int .i64 (.lit 0)), (.int .i64 (.lit 0)), (.int .i64 (.lit 0)), (.int .i64 (.lit 0))]⟩,
 ⟨none, false, none, iStore 7 (.t 11) (.t 21)⟩])
noncomputable def Tryd.rb55021 : C := (cBlock 1 (cSeq (cSeq (cOps [⟨some 22, false, none, iLoadN 7 (.t 11)⟩,
 ⟨some 23, true, none, iCall (.c (.func (.func 83) [] [])) [(.t 22)]⟩])
 (cCond (.t 23) (cSeq (cOps [⟨some 24, false, none, iBuild [(.int .i64 (.lit 0)), (.int .i64 (.lit 0))] []⟩,
 ⟨some 25, false, none, iBuild [(.int .i64 (.lit 0)), (.int .i64 (.lit 0))] []⟩,
 ⟨none, false, none, iStore 2 (.t 4) (.t 24)⟩,
 ⟨none, false, none, iStore 2 (.t 5) (.t 25)⟩,
 ⟨none, false, none, iStore 1 (.t 6) (.c (.int .i64 (.lit 42)))⟩])
 cRet) cSkip))
 (cOps [⟨some 26, false, none, iFaddr 2 (.t 11)⟩,
 ⟨some 27, false, none, iFaddr 1 (.t 26)⟩,
 ⟨some 28, false, none, iLoadN 2 (.t 27)⟩,
 ⟨none, false, none, iStore 2 (.t 9) (.t 28)⟩])))
noncomputable def Tryd.ra55033 : C := (cOps [⟨some 12, true, none, iAlloc 128 [(.int .i64 (.lit 0)), (.int .i64 (.lit 0)), (.int .i64 (.lit 0)), (.int .i64 (.lit 0)), (.int .i64 (.lit 0)), (.int .i64 (.lit 0)), (.int .i64 (.lit 0))]⟩,
 ⟨none, false, none, iStore 7 (.t 12) (.t 33)⟩])
noncomputable def Tryd.rb55033 : C := (cBlock 3 (cOps [⟨some 34, false, none, iFaddr 2 (.t 12)⟩,
 ⟨some 35, false, none, iFaddr 1 (.t 34)⟩,
 ⟨some 36, false, none, iLoadN 2 (.t 35)⟩,
 ⟨none, false, none, iStore 2 (.t 10) (.t 36)⟩]))
noncomputable def Tryd.kp55 : List Nat := [0, 1, 2, 4, 5, 6, 7, 8, 9, 10, 11, 12, 20, 21, 23, 32, 33]
noncomputable def Tryd.cf55 : CF := ⟨2, (cSeq (cOps [⟨some 2, true, none, iBox 78 (.t 0)⟩,
 ⟨some 4, true, none, iAlloc 23 [(.int .i64 (.lit 0)), (.int .i64 (.lit 0))]⟩,
 ⟨some 5, true, none, iAlloc 23 [(.int .i64 (.lit 0)), (.int .i64 (.lit 0))]⟩,
 ⟨some 6, true, none, iAlloc 30 [(.int .i64 (.lit 0))]⟩])
 (cSeq (cOps [⟨some 14, false, none, iCall (.c (.func (.func 81) [] [])) []⟩,
 ⟨some 13, false, none, iMov (.t 14)⟩,
 ⟨some 15, false, none, iExtract 0 (.t 13)⟩,
 ⟨some 16, false, none, iExtract 1 (.t 13)⟩,
 ⟨some 7, true, none, iAlloc 118 [.nilFunc, .nilFunc]⟩,
 ⟨some 8, true, none, iAlloc 118 [.nilFunc, .nilFunc]⟩,
 ⟨none, false, none, iStore 2 (.t 7) (.t 15)⟩,
 ⟨none, false, none, iStore 2 (.t 8) (.t 16)⟩])
 (cSeq (cOps [⟨some 9, true, none, iAlloc 121 [(.int .i64 (.lit 0)), (.int .i64 (.lit 0))]⟩,
 ⟨some 10, true, none, iAlloc 121 [(.int .i64 (.lit 0)), (.int .i64 (.lit 0))]⟩])
 (cSeq (cSeq (cOps [⟨some 17, false, none, iLoadN 39 (.t 2)⟩,
 ⟨some 18, false, none, iMov (.t 1)⟩,
 ⟨some 19, false, none, iLoadN 2 (.t 7)⟩,
 ⟨some 20, true, none, iCall (.c (.func (.func 82) [] [])) [(.t 17), (.t 18), (.t 19)]⟩])
 (cBlock 0 (cRange (.t 20) [21] 55021)))
 (cSeq (cSeq (cOps [⟨some 29, false, none, iLoadN 39 (.t 2)⟩,
 ⟨some 30, false, none, iMov (.t 1)⟩,
 ⟨some 31, false, none, iLoadN 2 (.t 8)⟩,
 ⟨some 32, true, none, iCall (.c (.func (.func 82) [] [])) [(.t 29), (.t 30), (.t 31)]⟩])
 (cBlock 2 (cRange (.t 32) [33] 55033)))
 (cSeq (dOps 0 [⟨⟨some 37, false, none, iIaddrA 1 2 (.t 9) (.c (.int .i64 (.lit 0)))⟩, [9], false, 0, 0, none, []⟩,
 ⟨⟨some 38, false, none, iLoad (.t 37)⟩, [37], false, 0, 0, none, []⟩,
 ⟨⟨some 39, false, none, iIaddrA 1 2 (.t 10) (.c (.int .i64 (.lit 0)))⟩, [10], false, 0, 0, none, []⟩,
 ⟨⟨some 40, false, none, iLoad (.t 39)⟩, [39], false, 0, 0, none, []⟩,
 ⟨⟨some 41, false, none, iBuild [(.int .i64 (.lit 0)), (.int .i64 (.lit 0))] [(0, 1, (.t 38)), (1, 1, (.t 40))]⟩, [38, 40], false, 0, 0, none, []⟩,
 ⟨⟨some 42, false, none, iIaddrA 1 2 (.t 9) (.c (.int .i64 (.lit 1)))⟩, [9], false, 0, 1, none, []⟩,
 ⟨⟨some 43, false, none, iLoad (.t 42)⟩, [42], false, 0, 1, none, []⟩,
 ⟨⟨some 44, false, none, iIaddrA 1 2 (.t 10) (.c (.int .i64 (.lit 1)))⟩, [10], false, 0, 1, none, []⟩,
 ⟨⟨some 45, false, none, iLoad (.t 44)⟩, [44], false, 0, 1, none, []⟩,
 ⟨⟨some 46, false, none, iBuild [(.int .i64 (.lit 0)), (.int .i64 (.lit 0))] [(0, 1, (.t 43)), (1, 1, (.t 45))]⟩, [43, 45], false, 0, 1, none, []⟩,
 ⟨⟨none, false, none, iStore 2 (.t 4) (.t 41)⟩, [4, 41], true, 0, 0, none, []⟩,
 ⟨⟨none, false, none, iStore 2 (.t 5) (.t 46)⟩, [5, 46], true, 1, 0, none, []⟩,
 ⟨⟨none, false, none, iStore 1 (.t 6) (.c (.int .i64 (.lit 0)))⟩, [6], true, 2, 0, none, []⟩])
 cRet)))))), [.cell 4 true 2, .cell 5 true 2, .cell 6 false 1]⟩
noncomputable def Tryd.kp56 : List Nat := [0, 1, 2, 4, 5, 6, 19]
noncomputable def Tryd.cf56 : CF := ⟨2, (cSeq (cOps [⟨some 2, true, none, iBox 27 (.t 0)⟩,
 ⟨some 4, true, none, iMov (.c (.bool (.lit false)))⟩])
 (cSeq (cOps [⟨some 7, false, none, iMov (.t 1)⟩,
 ⟨some 8, false, none, iLenS (.t 7)⟩,
 ⟨some 9, false, none, iFaddr 22 (.t 2)⟩,
 ⟨some 10, false, none, iLoad (.t 9)⟩,
 ⟨some 11, false, none, iLenS (.t 10)⟩,
 ⟨some 12, false, none, iCmp .eql (.t 8) (.t 11)⟩,
 ⟨some 5, true, none, iMov (.t 12)⟩])
 (cSeq (cSeq (cOps [⟨some 6, true, none, iMov (.c (.int .i64 (.lit 0)))⟩])
 (cBlock 0 (cLoop (cSeq (cSeq (cOps [⟨some 13, false, none, iMov (.t 5)⟩,
 ⟨some 14, false, none, iMov (.t 13)⟩,
 ⟨some 15, false, some (14, true), iMov (.t 6)⟩,
 ⟨some 16, false, some (14, true), iMov (.t 1)⟩,
 ⟨some 17, false, some (14, true), iLenS (.t 16)⟩,
 ⟨some 18, false, some (14, true), iCmp .lss (.t 15) (.t 17)⟩,
 ⟨some 19, true, none, iPick (.t 14) (.t 18) (.c (.bool (.lit false)))⟩])
 (cCond (.t 19) cSkip (cExit 0)))
 (cSeq (cBlock 1 (dOps 0 [⟨⟨some 22, false, none, iMov (.t 1)⟩, [1], false, 0, 0, none, []⟩,
 ⟨⟨some 23, false, none, iMov (.t 6)⟩, [6], false, 0, 0, none, []⟩,
 ⟨⟨some 24, false, none, iIaddr 2 (.t 22) (.t 23)⟩, [22, 23], false, 0, 0, none, []⟩,
 ⟨⟨some 25, false, none, iFaddr 0 (.t 24)⟩, [24], false, 0, 0, none, []⟩,
 ⟨⟨some 26, false, none, iLoad (.t 25)⟩, [25], false, 0, 0, none, []⟩,
 ⟨⟨some 27, false, none, iFaddr 22 (.t 2)⟩, [2], false, 0, 0, none, []⟩,
 ⟨⟨some 28, false, none, iLoad (.t 27)⟩, [27], false, 0, 0, none, []⟩,
 ⟨⟨some 29, false, none, iMov (.t 6)⟩, [6], false, 0, 0, none, []⟩,
 ⟨⟨some 30, false, none, iIaddr 4 (.t 28) (.t 29)⟩, [28, 29], false, 0, 0, none, []⟩,
 ⟨⟨some 31, false, none, iFaddr 3 (.t 30)⟩, [30], false, 0, 0, none, []⟩,
 ⟨⟨some 32, false, none, iLoad (.t 31)⟩, [31], false, 0, 0, none, []⟩,
 ⟨⟨some 33, false, none, iCall (.c (.func (.func 37) [] [])) [(.t 26), (.c (.int .i64 (.lit 0))), (.t 32)]⟩, [26, 32], true, 0, 0, none, []⟩,
 ⟨⟨some 34, false, none, iMov (.t 33)⟩, [33], false, 1, 1, none, []⟩,
 ⟨⟨some 35, false, some (34, true), iMov (.t 1)⟩, [34, 1], false, 1, 1, none, []⟩,
 ⟨⟨some 36, false, some (34, true), iMov (.t 6)⟩, [34, 6], false, 1, 1, none, []⟩,
 ⟨⟨some 37, false, some (34, true), iIaddr 2 (.t 35) (.t 36)⟩, [34, 35, 36], false, 1, 1, none, []⟩,
 ⟨⟨some 38, false, some (34, true), iFaddr 1 (.t 37)⟩, [34, 37], false, 1, 1, none, []⟩,
 ⟨⟨some 39, false, some (34, true), iLoad (.t 38)⟩, [34, 38], false, 1, 1, none, []⟩,
 ⟨⟨some 40, false, some (34, true), iFaddr 22 (.t 2)⟩, [34, 2], false, 1, 1, none, []⟩,
 ⟨⟨some 41, false, some (34, true), iLoad (.t 40)⟩, [34, 40], false, 1, 1, none, []⟩,
 ⟨⟨some 42, false, some (34, true), iMov (.t 6)⟩, [34, 6], false, 1, 1, none, []⟩,
 ⟨⟨some 43, false, some (34, true), iIaddr 4 (.t 41) (.t 42)⟩, [34, 41, 42], false, 1, 1, none, []⟩,
 ⟨⟨some 44, false, some (34, true), iFaddr 3 (.t 43)⟩, [34, 43], false, 1, 1, none, []⟩,
 ⟨⟨some 45, false, some (34, true), iLoad (.t 44)⟩, [34, 44], false, 1, 1, none, []⟩,
 ⟨⟨some 46, false, some (34, true), iMov (.t 1)⟩, [34, 1], false, 1, 1, none, []⟩,
 ⟨⟨some 47, false, some (34, true), iMov (.t 6)⟩, [34, 6], false, 1, 1, none, []⟩,
 ⟨⟨some 48, false, some (34, true), iIaddr 2 (.t 46) (.t 47)⟩, [34, 46, 47], false, 1, 1, none, []⟩,
 ⟨⟨some 49, false, some (34, true), iFaddr 0 (.t 48)⟩, [34, 48], false, 1, 1, none, []⟩,
 ⟨⟨some 50, false, some (34, true), iLoad (.t 49)⟩, [34, 49], false, 1, 1, none, []⟩,
 ⟨⟨some 51, false, some (34, true), iArith .sub (.t 45) (.t 50)⟩, [34, 45, 50], false, 1, 1, none, []⟩,
 ⟨⟨some 52, false, some (34, true), iCall (.c (.func (.func 37) [] [])) [(.t 39), (.c (.int .i64 (.lit 0))), (.t 51)]⟩, [34, 39, 51], true, 1, 0, none, []⟩,
 ⟨⟨some 53, false, none, iPick (.t 34) (.t 52) (.c (.bool (.lit false)))⟩, [34, 52], false, 2, 2, none, []⟩,
 ⟨⟨some 5, true, none, iMov (.t 53)⟩, [53], false, 2, 2, none, []⟩]))
 (cOps [⟨some 20, false, none, iMov (.t 6)⟩,
 ⟨some 21, false, none, iArith .add (.t 20) (.c (.int .i64 (.lit 1)))⟩,
 ⟨some 6, true, none, iMov (.t 21)⟩]))))))
 (cSeq (cOps [⟨some 54, false, none, iMov (.t 5)⟩,
 ⟨some 4, true, none, iMov (.t 54)⟩])
 cRet)))), [.t 4]⟩
noncomputable def Tryd.kp57 : List Nat := [0, 1, 2]
noncomputable def Tryd.cf57 : CF := ⟨1, (cSeq (cOps [⟨some 1, true, none, iBox 27 (.t 0)⟩,
 ⟨some 2, true, none, iAlloc 88 [(.int .i64 (.lit 0)), (.int .i64 (.lit 0)), (.int .i64 (.lit 0)), (.int .i64 (.lit 0))]⟩])
 (cSeq (cOps [⟨some 3, false, none, iFaddr 0 (.t 1)⟩,
 ⟨some 4, false, none, iLoadN 2 (.t 3)⟩,
 ⟨some 5, false, none, iFaddr 2 (.t 1)⟩,
 ⟨some 6, false, none, iLoadN 2 (.t 5)⟩,
 ⟨some 7, false, none, iBuild [(.int .i64 (.lit 0)), (.int .i64 (.lit 0)), (.int .i64 (.lit 0)), (.int .i64 (.lit 0))] [(0, 2, (.t 4)), (2, 2, (.t 6))]⟩,
 ⟨none, false, none, iStore 4 (.t 2) (.t 7)⟩])
 cRet)), [.cell 2 true 4]⟩
noncomputable def Tryd.kp58 : List Nat := [0, 1, 2, 3, 4, 5, 6, 7, 8]
noncomputable def Tryd.cf58 : CF := ⟨3, (cSeq (cOps [⟨some 3, true, none, iBox 27 (.t 0)⟩,
 ⟨some 4, true, none, iBox 88 (.t 1)⟩,
 ⟨some 5, true, none, iBox 66 (.t 2)⟩,
 ⟨some 6, true, none, iAlloc 88 [(.int .i64 (.lit 0)), (.int .i64 (.lit 0)), (.int .i64 (.lit 0)), (.int .i64 (.lit 0))]⟩])
 (cSeq (dOps 2 [⟨⟨some 9, false, none, iLoadN 4 (.t 5)⟩, [5], false, 0, 0, none, []⟩,
 ⟨⟨some 10, false, none, iCall (.c (.func (.func 84) [] [])) [(.t 9)]⟩, [9], true, 0, 0, none, []⟩,
 ⟨⟨some 11, false, none, iFaddr 8 (.t 3)⟩, [3], false, 0, 2, none, []⟩,
 ⟨⟨some 12, false, none, iIaddrA 2 2 (.t 11) (.t 10)⟩, [11, 10], false, 1, 2, none, []⟩,
 ⟨⟨some 13, false, none, iLoadN 2 (.t 12)⟩, [12], false, 1, 2, none, []⟩,
 ⟨⟨some 14, false, none, iLoadN 4 (.t 5)⟩, [5], false, 0, 1, none, []⟩,
 ⟨⟨some 15, false, none, iCall (.c (.func (.func 84) [] [])) [(.t 14)]⟩, [14], true, 1, 0, none, []⟩,
 ⟨⟨some 16, false, none, iFaddr 12 (.t 3)⟩, [3], false, 0, 3, none, []⟩,
 ⟨⟨some 17, false, none, iIaddrA 2 2 (.t 16) (.t 15)⟩, [16, 15], false, 2, 3, none, []⟩,
 ⟨⟨some 18, false, none, iLoadN 2 (.t 17)⟩, [17], false, 2, 3, none, []⟩,
 ⟨⟨some 7, true, none, iAlloc 23 [(.int .i64 (.lit 0)), (.int .i64 (.lit 0))]⟩, [], false, 0, 4, (some (flAlloc [(.int .i64 (.lit 0)), (.int .i64 (.lit 0))], .ptr, 1)), []⟩,
 ⟨⟨some 8, true, none, iAlloc 23 [(.int .i64 (.lit 0)), (.int .i64 (.lit 0))]⟩, [], false, 0, 4, (some (flAlloc [(.int .i64 (.lit 0)), (.int .i64 (.lit 0))], .ptr, 0)), []⟩,
 ⟨⟨none, false, none, iStore 2 (.t 7) (.t 13)⟩, [7, 13], true, 2, 0, none, [0, 1]⟩,
 ⟨⟨none, false, none, iStore 2 (.t 8) (.t 18)⟩, [8, 18], true, 3, 0, none, [0, 1]⟩])
 (cSeq (dOps 0 [⟨⟨some 19, false, none, iFaddr 0 (.t 4)⟩, [4], false, 0, 0, none, []⟩,
 ⟨⟨some 20, false, none, iFaddr 0 (.t 19)⟩, [19], false, 0, 0, none, []⟩,
 ⟨⟨some 21, false, none, iLoad (.t 20)⟩, [20], false, 0, 0, none, []⟩,
 ⟨⟨some 22, false, none, iFaddr 0 (.t 5)⟩, [5], false, 0, 0, none, []⟩,
 ⟨⟨some 23, false, none, iFaddr 1 (.t 22)⟩, [22], false, 0, 0, none, []⟩,
 ⟨⟨some 24, false, none, iLoad (.t 23)⟩, [23], false, 0, 0, none, []⟩,
 ⟨⟨some 25, false, none, iFaddr 1 (.t 7)⟩, [7], false, 0, 0, none, []⟩,
 ⟨⟨some 26, false, none, iLoad (.t 25)⟩, [25], false, 0, 0, none, []⟩,
 ⟨⟨some 27, false, none, iArith .mul (.t 24) (.t 26)⟩, [24, 26], false, 0, 0, none, []⟩,
 ⟨⟨some 28, false, none, iArith .sub (.t 21) (.t 27)⟩, [21, 27], false, 0, 0, none, []⟩,
 ⟨⟨some 29, false, none, iFaddr 0 (.t 4)⟩, [4], false, 0, 0, none, []⟩,
 ⟨⟨some 30, false, none, iFaddr 1 (.t 29)⟩, [29], false, 0, 0, none, []⟩,
 ⟨⟨some 31, false, none, iLoad (.t 30)⟩, [30], false, 0, 0, none, []⟩,
 ⟨⟨some 32, false, none, iFaddr 0 (.t 5)⟩, [5], false, 0, 0, none, []⟩,
 ⟨⟨some 33, false, none, iFaddr 0 (.t 32)⟩, [32], false, 0, 0, none, []⟩,
 ⟨⟨some 34, false, none, iLoad (.t 33)⟩, [33], false, 0, 0, none, []⟩,
 ⟨⟨some 35, false, none, iFaddr 0 (.t 7)⟩, [7], false, 0, 0, none, []⟩,
 ⟨⟨some 36, false, none, iLoad (.t 35)⟩, [35], false, 0, 0, none, []⟩,
 ⟨⟨some 37, false, none, iArith .mul (.t 34) (.t 36)⟩, [34, 36], false, 0, 0, none, []⟩,
 ⟨⟨some 38, false, none, iArith .sub (.t 31) (.t 37)⟩, [31, 37], false, 0, 0, none, []⟩,
 ⟨⟨some 39, false, none, iCall (.c (.func (.func 40) [] [])) [(.t 28), (.t 38)]⟩, [28, 38], true, 0, 0, none, []⟩,
 ⟨⟨some 40, false, none, iFaddr 2 (.t 4)⟩, [4], false, 0, 1, none, []⟩,
 ⟨⟨some 41, false, none, iFaddr 0 (.t 40)⟩, [40], false, 0, 1, none, []⟩,
 ⟨⟨some 42, false, none, iLoad (.t 41)⟩, [41], false, 0, 1, none, []⟩,
 ⟨⟨some 43, false, none, iFaddr 0 (.t 5)⟩, [5], false, 0, 1, none, []⟩,
 ⟨⟨some 44, false, none, iFaddr 1 (.t 43)⟩, [43], false, 0, 1, none, []⟩,
 ⟨⟨some 45, false, none, iLoad (.t 44)⟩, [44], false, 0, 1, none, []⟩,
 ⟨⟨some 46, false, none, iFaddr 1 (.t 8)⟩, [8], false, 0, 1, none, []⟩,
 ⟨⟨some 47, false, none, iLoad (.t 46)⟩, [46], false, 0, 1, none, []⟩,
 ⟨⟨some 48, false, none, iArith .mul (.t 45) (.t 47)⟩, [45, 47], false, 0, 1, none, []⟩,
 ⟨⟨some 49, false, none, iArith .sub (.t 42) (.t 48)⟩, [42, 48], false, 0, 1, none, []⟩,
 ⟨⟨some 50, false, none, iFaddr 2 (.t 4)⟩, [4], false, 0, 1, none, []⟩,
 ⟨⟨some 51, false, none, iFaddr 1 (.t 50)⟩, [50], false, 0, 1, none, []⟩,
 ⟨⟨some 52, false, none, iLoad (.t 51)⟩, [51], false, 0, 1, none, []⟩,
 ⟨⟨some 53, false, none, iFaddr 0 (.t 5)⟩, [5], false, 0, 1, none, []⟩,
 ⟨⟨some 54, false, none, iFaddr 0 (.t 53)⟩, [53], false, 0, 1, none, []⟩,
 ⟨⟨some 55, false, none, iLoad (.t 54)⟩, [54], false, 0, 1, none, []⟩,
 ⟨⟨some 56, false, none, iFaddr 0 (.t 8)⟩, [8], false, 0, 1, none, []⟩,
 ⟨⟨some 57, false, none, iLoad (.t 56)⟩, [56], false, 0, 1, none, []⟩,
 ⟨⟨some 58, false, none, iArith .mul (.t 55) (.t 57)⟩, [55, 57], false, 0, 1, none, []⟩,
 ⟨⟨some 59, false, none, iArith .sub (.t 52) (.t 58)⟩, [52, 58], false, 0, 1, none, []⟩,
 ⟨⟨some 60, false, none, iCall (.c (.func (.func 40) [] [])) [(.t 49), (.t 59)]⟩, [49, 59], true, 1, 0, none, []⟩,
 ⟨⟨some 61, false, none, iBuild [(.int .i64 (.lit 0)), (.int .i64 (.lit 0)), (.int .i64 (.lit 0)), (.int .i64 (.lit 0))] [(0, 2, (.t 39)), (2, 2, (.t 60))]⟩, [39, 60], false, 2, 2, none, []⟩,
 ⟨⟨none, false, none, iStore 4 (.t 6) (.t 61)⟩, [6, 61], true, 2, 0, none, []⟩])
 cRet))), [.cell 6 true 4]⟩
noncomputable def Tryd.kp59 : List Nat := [0, 1, 2, 3, 4, 5, 6, 7, 8]
noncomputable def Tryd.cf59 : CF := ⟨3, (cSeq (cOps [⟨some 3, true, none, iBox 27 (.t 0)⟩,
 ⟨some 4, true, none, iBox 88 (.t 1)⟩,
 ⟨some 5, true, none, iBox 64 (.t 2)⟩,
 ⟨some 6, true, none, iAlloc 88 [(.int .i64 (.lit 0)), (.int .i64 (.lit 0)), (.int .i64 (.lit 0)), (.int .i64 (.lit 0))]⟩])
 (cSeq (dOps 0 [⟨⟨some 9, false, none, iFaddr 0 (.t 5)⟩, [5], false, 0, 0, none, []⟩,
 ⟨⟨some 10, false, none, iLoad (.t 9)⟩, [9], false, 0, 0, none, []⟩,
 ⟨⟨some 11, false, none, iFaddr 6 (.t 3)⟩, [3], false, 0, 0, none, []⟩,
 ⟨⟨some 12, false, none, iLoad (.t 11)⟩, [11], false, 0, 0, none, []⟩,
 ⟨⟨some 13, false, none, iArith .mul (.t 10) (.t 12)⟩, [10, 12], false, 0, 0, none, []⟩,
 ⟨⟨some 14, false, none, iFaddr 1 (.t 5)⟩, [5], false, 0, 0, none, []⟩,
 ⟨⟨some 15, false, none, iLoad (.t 14)⟩, [14], false, 0, 0, none, []⟩,
 ⟨⟨some 16, false, none, iFaddr 7 (.t 3)⟩, [3], false, 0, 0, none, []⟩,
 ⟨⟨some 17, false, none, iLoad (.t 16)⟩, [16], false, 0, 0, none, []⟩,
 ⟨⟨some 18, false, none, iArith .mul (.t 15) (.t 17)⟩, [15, 17], false, 0, 0, none, []⟩,
 ⟨⟨some 7, true, none, iMov (.t 13)⟩, [13], false, 0, 0, none, []⟩,
 ⟨⟨some 8, true, none, iMov (.t 18)⟩, [18], false, 0, 0, none, []⟩])
 (cSeq (dOps 0 [⟨⟨some 19, false, none, iFaddr 4 (.t 3)⟩, [3], false, 0, 0, none, []⟩,
 ⟨⟨some 20, false, none, iLoad (.t 19)⟩, [19], false, 0, 0, none, []⟩,
 ⟨⟨some 21, false, none, iFaddr 0 (.t 4)⟩, [4], false, 0, 0, none, []⟩,
 ⟨⟨some 22, false, none, iFaddr 0 (.t 21)⟩, [21], false, 0, 0, none, []⟩,
 ⟨⟨some 23, false, none, iLoad (.t 22)⟩, [22], false, 0, 0, none, []⟩,
 ⟨⟨some 24, false, none, iMov (.t 7)⟩, [7], false, 0, 0, none, []⟩,
 ⟨⟨some 25, false, none, iArith .add (.t 23) (.t 24)⟩, [23, 24], false, 0, 0, none, []⟩,
 ⟨⟨some 26, false, none, iMin [(.t 20), (.t 25)]⟩, [20, 25], false, 0, 0, none, []⟩,
 ⟨⟨some 27, false, none, iFaddr 4 (.t 3)⟩, [3], false, 0, 0, none, []⟩,
 ⟨⟨some 28, false, none, iLoad (.t 27)⟩, [27], false, 0, 0, none, []⟩,
 ⟨⟨some 29, false, none, iFaddr 0 (.t 4)⟩, [4], false, 0, 0, none, []⟩,
 ⟨⟨some 30, false, none, iFaddr 1 (.t 29)⟩, [29], false, 0, 0, none, []⟩,
 ⟨⟨some 31, false, none, iLoad (.t 30)⟩, [30], false, 0, 0, none, []⟩,
 ⟨⟨some 32, false, none, iMov (.t 7)⟩, [7], false, 0, 0, none, []⟩,
 ⟨⟨some 33, false, none, iArith .add (.t 31) (.t 32)⟩, [31, 32], false, 0, 0, none, []⟩,
 ⟨⟨some 34, false, none, iMin [(.t 28), (.t 33)]⟩, [28, 33], false, 0, 0, none, []⟩,
 ⟨⟨some 35, false, none, iCall (.c (.func (.func 40) [] [])) [(.t 26), (.t 34)]⟩, [26, 34], true, 0, 0, none, []⟩,
 ⟨⟨some 36, false, none, iFaddr 5 (.t 3)⟩, [3], false, 0, 1, none, []⟩,
 ⟨⟨some 37, false, none, iLoad (.t 36)⟩, [36], false, 0, 1, none, []⟩,
 ⟨⟨some 38, false, none, iFaddr 2 (.t 4)⟩, [4], false, 0, 1, none, []⟩,
 ⟨⟨some 39, false, none, iFaddr 0 (.t 38)⟩, [38], false, 0, 1, none, []⟩,
 ⟨⟨some 40, false, none, iLoad (.t 39)⟩, [39], false, 0, 1, none, []⟩,
 ⟨⟨some 41, false, none, iMov (.t 8)⟩, [8], false, 0, 1, none, []⟩,
 ⟨⟨some 42, false, none, iArith .add (.t 40) (.t 41)⟩, [40, 41], false, 0, 1, none, []⟩,
 ⟨⟨some 43, false, none, iMin [(.t 37), (.t 42)]⟩, [37, 42], false, 0, 1, none, []⟩,
 ⟨⟨some 44, false, none, iFaddr 5 (.t 3)⟩, [3], false, 0, 1, none, []⟩,
 ⟨⟨some 45, false, none, iLoad (.t 44)⟩, [44], false, 0, 1, none, []⟩,
 ⟨⟨some 46, false, none, iFaddr 2 (.t 4)⟩, [4], false, 0, 1, none, []⟩,
 ⟨⟨some 47, false, none, iFaddr 1 (.t 46)⟩, [46], false, 0, 1, none, []⟩,
 ⟨⟨some 48, false, none, iLoad (.t 47)⟩, [47], false, 0, 1, none, []⟩,
 ⟨⟨some 49, false, none, iMov (.t 8)⟩, [8], false, 0, 1, none, []⟩,
 ⟨⟨some 50, false, none, iArith .add (.t 48) (.t 49)⟩, [48, 49], false, 0, 1, none, []⟩,
 ⟨⟨some 51, false, none, iMin [(.t 45), (.t 50)]⟩, [45, 50], false, 0, 1, none, []⟩,
 ⟨⟨some 52, false, none, iCall (.c (.func (.func 40) [] [])) [(.t 43), (.t 51)]⟩, [43, 51], true, 1, 0, none, []⟩,
 ⟨⟨some 53, false, none, iBuild [(.int .i64 (.lit 0)), (.int .i64 (.lit 0)), (.int .i64 (.lit 0)), (.int .i64 (.lit 0))] [(0, 2, (.t 35)), (2, 2, (.t 52))]⟩, [35, 52], false, 2, 2, none, []⟩,
 ⟨⟨none, false, none, iStore 4 (.t 6) (.t 53)⟩, [6, 53], true, 2, 0, none, []⟩])
 cRet))), [.cell 6 true 4]⟩
noncomputable def Tryd.kp60 : List Nat := [0, 1, 2]
noncomputable def Tryd.cf60 : CF := ⟨1, (cSeq (cOps [⟨some 1, true, none, iBox 88 (.t 0)⟩,
 ⟨some 2, true, none, iMov (.c (.bool (.lit false)))⟩])
 (cSeq (cOps [⟨some 3, false, none, iFaddr 0 (.t 1)⟩,
 ⟨some 4, false, none, iFaddr 0 (.t 3)⟩,
 ⟨some 5, false, none, iLoad (.t 4)⟩,
 ⟨some 6, false, none, iCmp .lss (.t 5) (.c (.int .i64 (.lit 0)))⟩,
 ⟨some 7, false, none, iMov (.t 6)⟩,
 ⟨some 8, false, some (7, false), iFaddr 2 (.t 1)⟩,
 ⟨some 9, false, some (7, false), iFaddr 0 (.t 8)⟩,
 ⟨some 10, false, some (7, false), iLoad (.t 9)⟩,
 ⟨some 11, false, some (7, false), iCmp .lss (.t 10) (.c (.int .i64 (.lit 0)))⟩,
 ⟨some 12, false, none, iPick (.t 7) (.c (.bool (.lit true))) (.t 11)⟩,
 ⟨some 2, true, none, iMov (.t 12)⟩])
 cRet)), [.t 2]⟩
noncomputable def Tryd.ra61017 : C := (cOps [⟨some 8, true, none, iAlloc 128 [(.int .i64 (.lit 0)), (.int .i64 (.lit 0)), (.int .i64 (.lit 0)), (.int .i64 (.lit 0)), (.int .i64 (.lit 0)), (.int .i64 (.lit 0)), (.int .i64 (.lit 0))]⟩,
 ⟨none, false, none, iStore 7 (.t 8) (.t 17)⟩])
noncomputable def Tryd.rb61017 : C := (cBlock 1 (cSeq (cOps [⟨some 18, false, none, iLoadN 39 (.t 2)⟩,
 ⟨some 19, false, none, iLoadN 7 (.t 8)⟩,
 ⟨some 20, true, none, iCall (.c (.func (.func 85) [] [])) [(.t 18), (.t 19)]⟩])
 (cCond (.t 20) (cSeq (cOps [⟨some 21, false, none, iFaddr 2 (.t 8)⟩,
 ⟨some 22, false, none, iFaddr 0 (.t 21)⟩,
 ⟨some 23, false, none, iLoad (.t 22)⟩,
 ⟨some 24, false, none, iArith .sub (.t 23) (.c (.int .i64 (.lit 1)))⟩,
 ⟨none, false, none, iStore 1 (.t 4) (.t 24)⟩,
 ⟨none, false, none, iStore 1 (.t 5) (.c (.int .i64 (.lit 0)))⟩])
 cRet) cSkip)))
noncomputable def Tryd.kp61 : List Nat := [0, 1, 2, 4, 5, 6, 8, 16, 17, 20]
noncomputable def Tryd.cf61 : CF := ⟨2, (cSeq (cOps [⟨some 2, true, none, iBox 78 (.t 0)⟩,
 ⟨some 4, true, none, iAlloc 3 [(.int .i64 (.lit 0))]⟩,
 ⟨some 5, true, none, iAlloc 30 [(.int .i64 (.lit 0))]⟩])
 (cSeq (cOps [⟨some 10, false, none, iCall (.c (.func (.func 81) [] [])) []⟩,
 ⟨some 9, false, none, iMov (.t 10)⟩,
 ⟨some 11, false, none, iExtract 0 (.t 9)⟩,
 ⟨some 12, false, none, iExtract 1 (.t 9)⟩,
 ⟨some 6, true, none, iAlloc 118 [.nilFunc, .nilFunc]⟩,
 ⟨some 7, false, none, iAlloc 118 [.nilFunc, .nilFunc]⟩,
 ⟨none, false, none, iStore 2 (.t 6) (.t 11)⟩,
 ⟨none, false, none, iStore 2 (.t 7) (.t 12)⟩])
 (cSeq (cSeq (cOps [⟨some 13, false, none, iLoadN 39 (.t 2)⟩,
 ⟨some 14, false, none, iMov (.t 1)⟩,
 ⟨some 15, false, none, iLoadN 2 (.t 6)⟩,
 ⟨some 16, true, none, iCall (.c (.func (.func 82) [] [])) [(.t 13), (.t 14), (.t 15)]⟩])
 (cBlock 0 (cRange (.t 16) [17] 61017)))
 (cSeq (cOps [⟨none, false, none, iStore 1 (.t 4) (.c (.int .i64 (.lit 0)))⟩,
 ⟨none, false, none, iStore 1 (.t 5) (.c (.int .i64 (.lit 4)))⟩])
 cRet)))), [.cell 4 false 1, .cell 5 false 1]⟩
noncomputable def Tryd.kp63 : List Nat := [0, 1, 2, 3, 4, 6, 7, 8, 9, 23, 30, 31, 32]
noncomputable def Tryd.cf63 : CF := ⟨1, (cSeq (cOps [⟨some 1, true, none, iBox 78 (.t 0)⟩,
 ⟨some 2, true, none, iMov (.c .nilslice)⟩,
 ⟨some 3, true, none, iMov (.c (.int .i64 (.lit 0)))⟩])
 (cSeq (cOps [⟨some 11, false, none, iCall (.c (.func (.func 81) [] [])) []⟩,
 ⟨some 10, false, none, iMov (.t 11)⟩,
 ⟨some 12, false, none, iExtract 0 (.t 10)⟩,
 ⟨some 13, false, none, iExtract 1 (.t 10)⟩,
 ⟨some 4, true, none, iAlloc 118 [.nilFunc, .nilFunc]⟩,
 ⟨some 5, false, none, iAlloc 118 [.nilFunc, .nilFunc]⟩,
 ⟨none, false, none, iStore 2 (.t 4) (.t 12)⟩,
 ⟨none, false, none, iStore 2 (.t 5) (.t 13)⟩])
 (cSeq (cOps [⟨some 14, false, none, iLoadN 39 (.t 1)⟩,
 ⟨some 15, false, none, iCall (.c (.func (.func 86) [] [])) [(.t 14)]⟩,
 ⟨some 6, true, none, iMov (.t 15)⟩])
 (cSeq (cOps [⟨some 16, false, none, iLoadN 39 (.t 1)⟩,
 ⟨some 17, false, none, iLoadN 2 (.t 4)⟩,
 ⟨some 18, false, none, iCall (.c (.func (.func 87) [] [])) [(.t 16), (.t 17)]⟩,
 ⟨some 7, true, none, iAlloc 126 [(.int .i64 (.lit 0)), (.int .i64 (.lit 0)), (.int .i64 (.lit 0))]⟩,
 ⟨none, false, none, iStore 3 (.t 7) (.t 18)⟩])
 (cSeq (cSeq (cOps [⟨some 19, false, none, iMov (.t 6)⟩,
 ⟨some 20, false, none, iLoadN 3 (.t 7)⟩,
 ⟨some 21, false, none, iLookup (.agg [(.bool (.lit false)), (.int .i64 (.lit 0)), (.int .i64 (.lit 0)), (.int .i64 (.lit 0)), (.int .i64 (.lit 0)), (.int .i64 (.lit 0)), (.int .i64 (.lit 0)), (.int .i64 (.lit 0)), (.int .i64 (.lit 0))]) true 3 [(0, .int), (1, .int), (2, .int)] false (.t 19) (.t 20)⟩,
 ⟨some 22, false, none, iField false 0 1 (.t 21)⟩,
 ⟨some 23, true, none, iNot (.t 22)⟩])
 (cCond (.t 23) (cSeq (cOps [⟨some 2, true, none, iMov (.c .nilslice)⟩,
 ⟨some 3, true, none, iMov (.c (.int .i64 (.lit 4)))⟩])
 cRet) cSkip))
 (cSeq (cOps [⟨some 24, false, none, iFaddr 0 (.t 1)⟩,
 ⟨some 25, false, none, iFaddr 22 (.t 24)⟩,
 ⟨some 26, false, none, iLoad (.t 25)⟩,
 ⟨some 27, false, none, iLenS (.t 26)⟩,
 ⟨some 28, false, none, iMkslice 64 [(.int .i64 (.lit 0)), (.int .i64 (.lit 0))] 16 (.t 27) (.t 27)⟩,
 ⟨some 8, true, none, iMov (.t 28)⟩])
 (cSeq (cSeq (cOps [⟨some 29, false, none, iMov (.t 8)⟩,
 ⟨some 30, true, none, iLenS (.t 29)⟩,
 ⟨some 31, true, none, iMov (.c (.int .i64 (.lit 0)))⟩])
 (cBlock 0 (cLoop (cSeq (cOps [⟨some 32, true, none, iCmp .lss (.t 31) (.t 30)⟩])
 (cSeq (cCond (.t 32) cSkip (cExit 0))
 (cSeq (cBlock 1 (cSeq (cOps [⟨some 33, false, none, iMov (.t 31)⟩,
 ⟨some 9, true, none, iMov (.t 33)⟩])
 (cSeq (cOps [⟨some 34, false, none, iMov (.t 8)⟩,
 ⟨some 35, false, none, iMov (.t 9)⟩,
 ⟨some 36, false, none, iMov (.t 6)⟩,
 ⟨some 37, false, none, iLoadN 3 (.t 7)⟩,
 ⟨some 38, false, none, iLookup (.agg [(.bool (.lit false)), (.int .i64 (.lit 0)), (.int .i64 (.lit 0)), (.int .i64 (.lit 0)), (.int .i64 (.lit 0)), (.int .i64 (.lit 0)), (.int .i64 (.lit 0)), (.int .i64 (.lit 0)), (.int .i64 (.lit 0))]) true 3 [(0, .int), (1, .int), (2, .int)] false (.t 36) (.t 37)⟩,
 ⟨some 39, false, none, iField true 2 7 (.t 38)⟩,
 ⟨some 40, false, none, iField true 0 2 (.t 39)⟩,
 ⟨some 41, false, none, iIaddr 2 (.t 34) (.t 35)⟩,
 ⟨none, false, none, iStore 2 (.t 41) (.t 40)⟩])
 (cOps [⟨some 42, false, none, iMov (.t 6)⟩,
 ⟨some 43, false, none, iLoadN 3 (.t 7)⟩,
 ⟨some 44, false, none, iLookup (.agg [(.bool (.lit false)), (.int .i64 (.lit 0)), (.int .i64 (.lit 0)), (.int .i64 (.lit 0)), (.int .i64 (.lit 0)), (.int .i64 (.lit 0)), (.int .i64 (.lit 0)), (.int .i64 (.lit 0)), (.int .i64 (.lit 0))]) true 3 [(0, .int), (1, .int), (2, .int)] false (.t 42) (.t 43)⟩,
 ⟨some 45, false, none, iField true 2 7 (.t 44)⟩,
 ⟨some 46, false, none, iField true 2 3 (.t 45)⟩,
 ⟨none, false, none, iStore 3 (.t 7) (.t 46)⟩]))))
 (cOps [⟨some 47, false, none, iArith .add (.t 31) (.c (.int .i64 (.lit 1)))⟩,
 ⟨some 31, true, none, iMov (.t 47)⟩])))))))
 (cSeq (cOps [⟨some 48, false, none, iMov (.t 8)⟩,
 ⟨some 2, true, none, iMov (.t 48)⟩,
 ⟨some 3, true, none, iMov (.c (.int .i64 (.lit 0)))⟩])
 cRet)))))))), [.t 2, .t 3]⟩
noncomputable def Tryd.kp65 : List Nat := [0, 1, 3, 4]
noncomputable def Tryd.cf65 : CF := ⟨2, (cSeq (cOps [⟨some 3, true, none, iBox 85 (.t 1)⟩,
 ⟨some 4, true, none, iMov (.c (.int .i64 (.lit 0)))⟩])
 (cSeq (cOps [⟨some 5, false, none, iMov (.t 0)⟩,
 ⟨some 6, false, none, iArith .add (.t 5) (.c (.int .i64 (.lit 1)))⟩,
 ⟨some 7, false, none, iFunc (.func 89) [] [(.t 3)]⟩,
 ⟨some 8, false, none, iCall (.c (.func (.func 70) [] [])) [(.t 6), (.t 7)]⟩,
 ⟨some 9, false, none, iArith .sub (.t 8) (.c (.int .i64 (.lit 1)))⟩,
 ⟨some 4, true, none, iMov (.t 9)⟩])
 cRet)), [.t 4]⟩
noncomputable def Tryd.kp66 : List Nat := [0, 1, 2, 4, 5]
noncomputable def Tryd.cf66 : CF := ⟨2, (cSeq (cOps [⟨some 2, true, none, iBox 78 (.t 0)⟩,
 ⟨some 4, true, none, iMov (.c (.bool (.lit false)))⟩])
 (cSeq (cOps [⟨some 6, false, none, iFaddr 0 (.t 2)⟩,
 ⟨some 7, false, none, iLoadN 23 (.t 6)⟩,
 ⟨some 5, true, none, iAlloc 27 [(.int .i64 (.lit 0)), (.int .i64 (.lit 0)), (.int .i64 (.lit 0)), (.int .i64 (.lit 0)), (.int .i64 (.lit 0)), (.int .i64 (.lit 0)), (.int .i64 (.lit 0)), (.int .i64 (.lit 0)), (.int .i64 (.lit 0)), (.int .i64 (.lit 0)), (.int .i64 (.lit 0)), (.int .i64 (.lit 0)), (.int .i64 (.lit 0)), (.int .i64 (.lit 0)), (.int .i64 (.lit 0)), (.int .i64 (.lit 0)), (.int .i64 (.lit 0)), (.int .i64 (.lit 0)), (.int .i64 (.lit 0)), (.int .i64 (.lit 0)), (.int .i64 (.lit 0)), (.int .i64 (.lit 0)), .nilslice]⟩,
 ⟨none, false, none, iStore 23 (.t 5) (.t 7)⟩])
 (cSeq (cOps [⟨some 8, false, none, iFaddr 22 (.t 5)⟩,
 ⟨some 9, false, none, iLoad (.t 8)⟩,
 ⟨some 10, false, none, iMov (.t 1)⟩,
 ⟨some 11, false, none, iMov (.t 1)⟩,
 ⟨some 12, false, none, iSlice 4 (.t 9) none (some (.t 10)) (some (.t 11))⟩,
 ⟨some 13, false, none, iFaddr 22 (.t 5)⟩,
 ⟨none, false, none, iStore 1 (.t 13) (.t 12)⟩])
 (cSeq (cOps [⟨some 14, false, none, iLoadN 23 (.t 5)⟩,
 ⟨some 15, false, none, iCall (.c (.func (.func 77) [] [])) [(.t 14)]⟩,
 ⟨some 16, false, none, iCall (.c (.func (.func 90) [] [])) [(.t 15)]⟩,
 ⟨some 4, true, none, iMov (.t 16)⟩])
 cRet)))), [.t 4]⟩
noncomputable def Tryd.kp68 : List Nat := [0, 1, 2, 4, 5]
noncomputable def Tryd.cf68 : CF := ⟨2, (cSeq (cOps [⟨some 2, true, none, iBox 101 (.t 0)⟩,
 ⟨some 4, true, none, iMov (.c (.bool (.lit false)))⟩])
 (cSeq (cOps [⟨some 6, false, none, iFaddr 0 (.t 2)⟩,
 ⟨some 7, false, none, iFaddr 0 (.t 6)⟩,
 ⟨some 8, false, none, iLoadN 23 (.t 7)⟩,
 ⟨some 5, true, none, iAlloc 27 [(.int .i64 (.lit 0)), (.int .i64 (.lit 0)), (.int .i64 (.lit 0)), (.int .i64 (.lit 0)), (.int .i64 (.lit 0)), (.int .i64 (.lit 0)), (.int .i64 (.lit 0)), (.int .i64 (.lit 0)), (.int .i64 (.lit 0)), (.int .i64 (.lit 0)), (.int .i64 (.lit 0)), (.int .i64 (.lit 0)), (.int .i64 (.lit 0)), (.int .i64 (.lit 0)), (.int .i64 (.lit 0)), (.int .i64 (.lit 0)), (.int .i64 (.lit 0)), (.int .i64 (.lit 0)), (.int .i64 (.lit 0)), (.int .i64 (.lit 0)), (.int .i64 (.lit 0)), (.int .i64 (.lit 0)), .nilslice]⟩,
 ⟨none, false, none, iStore 23 (.t 5) (.t 8)⟩])
 (cSeq (cOps [⟨some 9, false, none, iFaddr 22 (.t 5)⟩,
 ⟨some 10, false, none, iLoad (.t 9)⟩,
 ⟨some 11, false, none, iCall (.c (.func (.func 91) [] [])) [(.t 10)]⟩,
 ⟨some 12, false, none, iFaddr 22 (.t 5)⟩,
 ⟨none, false, none, iStore 1 (.t 12) (.t 11)⟩])
 (cSeq (cOps [⟨some 13, false, none, iFaddr 22 (.t 5)⟩,
 ⟨some 14, false, none, iLoad (.t 13)⟩,
 ⟨some 15, false, none, iFaddr 39 (.t 2)⟩,
 ⟨some 16, false, none, iLoad (.t 15)⟩,
 ⟨some 17, false, none, iIaddr 4 (.t 14) (.t 16)⟩,
 ⟨some 18, false, none, iFaddr 0 (.t 17)⟩,
 ⟨some 19, false, none, iFaddr 1 (.t 18)⟩,
 ⟨some 20, false, none, iLoad (.t 19)⟩,
 ⟨some 21, false, none, iMov (.t 1)⟩,
 ⟨some 22, false, none, iArith .add (.t 20) (.t 21)⟩,
 ⟨some 23, false, none, iIaddr 4 (.t 14) (.t 16)⟩,
 ⟨some 24, false, none, iFaddr 0 (.t 23)⟩,
 ⟨some 25, false, none, iFaddr 1 (.t 24)⟩,
 ⟨none, false, none, iStore 1 (.t 25) (.t 22)⟩])
 (cSeq (cOps [⟨some 26, false, none, iLoadN 23 (.t 5)⟩,
 ⟨some 27, false, none, iCall (.c (.func (.func 77) [] [])) [(.t 26)]⟩,
 ⟨some 28, false, none, iCall (.c (.func (.func 90) [] [])) [(.t 27)]⟩,
 ⟨some 4, true, none, iMov (.t 28)⟩])
 cRet))))), [.t 4]⟩
noncomputable def Tryd.kp70 : List Nat := [0, 1, 4, 5, 6, 7, 11, 21]
noncomputable def Tryd.cf70 : CF := ⟨2, (cSeq (cOps [⟨some 4, true, none, iMov (.c (.int .i64 (.lit 0)))⟩])
 (cSeq (cOps [⟨some 8, false, none, iMov (.t 0)⟩,
 ⟨some 5, true, none, iMov (.c (.int .i64 (.lit 0)))⟩,
 ⟨some 6, true, none, iMov (.t 8)⟩])
 (cSeq (cBlock 0 (cLoop (cSeq (cSeq (cOps [⟨some 9, false, none, iMov (.t 5)⟩,
 ⟨some 10, false, none, iMov (.t 6)⟩,
 ⟨some 11, true, none, iCmp .lss (.t 9) (.t 10)⟩])
 (cCond (.t 11) cSkip (cExit 0)))
 (cBlock 1 (cSeq (cOps [⟨some 12, false, none, iMov (.t 5)⟩,
 ⟨some 13, false, none, iMov (.t 6)⟩,
 ⟨some 14, false, none, iArith .add (.t 12) (.t 13)⟩,
 ⟨some 15, false, none, iConv .u64 (.t 14)⟩,
 ⟨some 16, false, none, iShift .shr (.t 15) (.c (.int .u64 (.lit 1)))⟩,
 ⟨some 17, false, none, iConv .i64 (.t 16)⟩,
 ⟨some 7, true, none, iMov (.t 17)⟩])
 (cSeq (cOps [⟨some 18, false, none, iMov (.t 1)⟩,
 ⟨some 19, false, none, iMov (.t 7)⟩,
 ⟨some 20, false, none, iCall (.t 18) [(.t 19)]⟩,
 ⟨some 21, true, none, iNot (.t 20)⟩])
 (cCond (.t 21) (cOps [⟨some 22, false, none, iMov (.t 7)⟩,
 ⟨some 23, false, none, iArith .add (.t 22) (.c (.int .i64 (.lit 1)))⟩,
 ⟨some 5, true, none, iMov (.t 23)⟩]) (cOps [⟨some 24, false, none, iMov (.t 7)⟩,
 ⟨some 6, true, none, iMov (.t 24)⟩]))))))))
 (cSeq (cOps [⟨some 25, false, none, iMov (.t 5)⟩,
 ⟨some 4, true, none, iMov (.t 25)⟩])
 cRet)))), [.t 4]⟩
noncomputable def Tryd.kp71 : List Nat := [0, 1, 2, 4, 5]
noncomputable def Tryd.cf71 : CF := ⟨2, (cSeq (cOps [⟨some 2, true, none, iBox 78 (.t 0)⟩,
 ⟨some 4, true, none, iMov (.c (.bool (.lit false)))⟩])
 (cSeq (cOps [⟨some 6, false, none, iFaddr 0 (.t 2)⟩,
 ⟨some 7, false, none, iLoadN 23 (.t 6)⟩,
 ⟨some 5, true, none, iAlloc 27 [(.int .i64 (.lit 0)), (.int .i64 (.lit 0)), (.int .i64 (.lit 0)), (.int .i64 (.lit 0)), (.int .i64 (.lit 0)), (.int .i64 (.lit 0)), (.int .i64 (.lit 0)), (.int .i64 (.lit 0)), (.int .i64 (.lit 0)), (.int .i64 (.lit 0)), (.int .i64 (.lit 0)), (.int .i64 (.lit 0)), (.int .i64 (.lit 0)), (.int .i64 (.lit 0)), (.int .i64 (.lit 0)), (.int .i64 (.lit 0)), (.int .i64 (.lit 0)), (.int .i64 (.lit 0)), (.int .i64 (.lit 0)), (.int .i64 (.lit 0)), (.int .i64 (.lit 0)), (.int .i64 (.lit 0)), .nilslice]⟩,
 ⟨none, false, none, iStore 23 (.t 5) (.t 7)⟩])
 (cSeq (cOps [⟨some 8, false, none, iMov (.t 1)⟩,
 ⟨some 9, false, none, iMov (.t 1)⟩,
 ⟨some 10, false, none, iBuild [(.int .i64 (.lit 0)), (.int .i64 (.lit 0))] [(0, 1, (.t 8)), (1, 1, (.t 9))]⟩,
 ⟨some 11, false, none, iFaddr 0 (.t 5)⟩,
 ⟨none, false, none, iStore 2 (.t 11) (.t 10)⟩])
 (cSeq (cOps [⟨some 12, false, none, iLoadN 23 (.t 5)⟩,
 ⟨some 13, false, none, iCall (.c (.func (.func 77) [] [])) [(.t 12)]⟩,
 ⟨some 14, false, none, iCall (.c (.func (.func 90) [] [])) [(.t 13)]⟩,
 ⟨some 4, true, none, iMov (.t 14)⟩])
 cRet)))), [.t 4]⟩
noncomputable def Tryd.kp76 : List Nat := [0, 1, 2, 3, 8]
noncomputable def Tryd.cf76 : CF := ⟨4, (cSeq (cOps [⟨some 8, true, none, iAlloc 66 [(.int .i64 (.lit 0)), (.int .i64 (.lit 0)), (.bool (.lit false)), (.int .i64 (.lit 0))]⟩])
 (cSeq (cOps [⟨some 9, false, none, iMov (.t 0)⟩,
 ⟨some 10, false, none, iMov (.t 1)⟩,
 ⟨some 11, false, none, iCall (.c (.func (.func 40) [] [])) [(.t 9), (.t 10)]⟩,
 ⟨some 12, false, none, iMov (.t 2)⟩,
 ⟨some 13, false, none, iMov (.t 3)⟩,
 ⟨some 14, false, none, iBuild [(.int .i64 (.lit 0)), (.int .i64 (.lit 0)), (.bool (.lit false)), (.int .i64 (.lit 0))] [(0, 2, (.t 11)), (2, 1, (.t 12)), (3, 1, (.t 13))]⟩,
 ⟨none, false, none, iStore 4 (.t 8) (.t 14)⟩])
 cRet)), [.cell 8 true 4]⟩
noncomputable def Tryd.kp77 : List Nat := [0, 1, 2, 3, 4, 5, 8, 9, 10]
noncomputable def Tryd.cf77 : CF := ⟨1, (cSeq (cOps [⟨some 1, true, none, iBox 27 (.t 0)⟩,
 ⟨some 2, true, none, iAlloc 78 [(.int .i64 (.lit 0)), (.int .i64 (.lit 0)), (.int .i64 (.lit 0)), (.int .i64 (.lit 0)), (.int .i64 (.lit 0)), (.int .i64 (.lit 0)), (.int .i64 (.lit 0)), (.int .i64 (.lit 0)), (.int .i64 (.lit 0)), (.int .i64 (.lit 0)), (.int .i64 (.lit 0)), (.int .i64 (.lit 0)), (.int .i64 (.lit 0)), (.int .i64 (.lit 0)), (.int .i64 (.lit 0)), (.int .i64 (.lit 0)), (.int .i64 (.lit 0)), (.int .i64 (.lit 0)), (.int .i64 (.lit 0)), (.int .i64 (.lit 0)), (.int .i64 (.lit 0)), (.int .i64 (.lit 0)), .nilslice, (.int .i64 (.lit 0)), (.int .i64 (.lit 0)), (.int .i64 (.lit 0)), (.int .i64 (.lit 0)), (.int .i64 (.lit 0)), (.int .i64 (.lit 0)), (.int .i64 (.lit 0)), (.int .i64 (.lit 0)), (.int .i64 (.lit 0)), (.int .i64 (.lit 0)), (.int .i64 (.lit 0)), (.int .i64 (.lit 0)), (.int .i64 (.lit 0)), (.int .i64 (.lit 0)), (.int .i64 (.lit 0)), (.int .i64 (.lit 0))]⟩])
 (cSeq (cOps [⟨some 6, false, none, iLoadN 23 (.t 1)⟩,
 ⟨some 7, false, none, iBuild [(.int .i64 (.lit 0)), (.int .i64 (.lit 0)), (.int .i64 (.lit 0)), (.int .i64 (.lit 0)), (.int .i64 (.lit 0)), (.int .i64 (.lit 0)), (.int .i64 (.lit 0)), (.int .i64 (.lit 0)), (.int .i64 (.lit 0)), (.int .i64 (.lit 0)), (.int .i64 (.lit 0)), (.int .i64 (.lit 0)), (.int .i64 (.lit 0)), (.int .i64 (.lit 0)), (.int .i64 (.lit 0)), (.int .i64 (.lit 0)), (.int .i64 (.lit 0)), (.int .i64 (.lit 0)), (.int .i64 (.lit 0)), (.int .i64 (.lit 0)), (.int .i64 (.lit 0)), (.int .i64 (.lit 0)), .nilslice, (.int .i64 (.lit 0)), (.int .i64 (.lit 0)), (.int .i64 (.lit 0)), (.int .i64 (.lit 0)), (.int .i64 (.lit 0)), (.int .i64 (.lit 0)), (.int .i64 (.lit 0)), (.int .i64 (.lit 0)), (.int .i64 (.lit 0)), (.int .i64 (.lit 0)), (.int .i64 (.lit 0)), (.int .i64 (.lit 0)), (.int .i64 (.lit 0)), (.int .i64 (.lit 0)), (.int .i64 (.lit 0)), (.int .i64 (.lit 0))] [(0, 23, (.t 6))]⟩,
 ⟨some 3, true, none, iAlloc 78 [(.int .i64 (.lit 0)), (.int .i64 (.lit 0)), (.int .i64 (.lit 0)), (.int .i64 (.lit 0)), (.int .i64 (.lit 0)), (.int .i64 (.lit 0)), (.int .i64 (.lit 0)), (.int .i64 (.lit 0)), (.int .i64 (.lit 0)), (.int .i64 (.lit 0)), (.int .i64 (.lit 0)), (.int .i64 (.lit 0)), (.int .i64 (.lit 0)), (.int .i64 (.lit 0)), (.int .i64 (.lit 0)), (.int .i64 (.lit 0)), (.int .i64 (.lit 0)), (.int .i64 (.lit 0)), (.int .i64 (.lit 0)), (.int .i64 (.lit 0)), (.int .i64 (.lit 0)), (.int .i64 (.lit 0)), .nilslice, (.int .i64 (.lit 0)), (.int .i64 (.lit 0)), (.int .i64 (.lit 0)), (.int .i64 (.lit 0)), (.int .i64 (.lit 0)), (.int .i64 (.lit 0)), (.int .i64 (.lit 0)), (.int .i64 (.lit 0)), (.int .i64 (.lit 0)), (.int .i64 (.lit 0)), (.int .i64 (.lit 0)), (.int .i64 (.lit 0)), (.int .i64 (.lit 0)), (.int .i64 (.lit 0)), (.int .i64 (.lit 0)), (.int .i64 (.lit 0))]⟩,
 ⟨none, false, none, iStore 39 (.t 3) (.t 7)⟩])
 (cSeq (cSeq (cOps [⟨some 8, true, none, iBuild [.nilFunc, .nilFunc] [(0, 1, (.c (.func (.func 93) [] []))), (1, 1, (.c (.func (.func 94) [] [])))]⟩,
 ⟨some 9, true, none, iMov (.c (.int .i64 (.lit 0)))⟩])
 (cBlock 0 (cLoop (cSeq (cOps [⟨some 10, true, none, iCmp .lss (.t 9) (.c (.int .i64 (.lit 2)))⟩])
 (cSeq (cCond (.t 10) cSkip (cExit 0))
 (cSeq (cBlock 1 (cSeq (cOps [⟨some 11, false, none, iMov (.t 9)⟩,
 ⟨some 12, false, none, iIndex false 1 2 (.t 8) (.t 9)⟩,
 ⟨some 4, true, none, iMov (.t 11)⟩,
 ⟨some 5, true, none, iMov (.t 12)⟩])
 (cOps [⟨some 13, false, none, iMov (.t 4)⟩,
 ⟨some 14, false, none, iMov (.t 5)⟩,
 ⟨some 15, false, none, iLoadN 39 (.t 3)⟩,
 ⟨some 16, false, none, iCall (.t 14) [(.t 15)]⟩,
 ⟨some 17, false, none, iFaddr 23 (.t 3)⟩,
 ⟨some 18, false, none, iIaddrA 8 2 (.t 17) (.t 13)⟩,
 ⟨none, false, none, iStore 8 (.t 18) (.t 16)⟩])))
 (cOps [⟨some 19, false, none, iArith .add (.t 9) (.c (.int .i64 (.lit 1)))⟩,
 ⟨some 9, true, none, iMov (.t 19)⟩])))))))
 (cSeq (cOps [⟨some 20, false, none, iLoadN 39 (.t 3)⟩,
 ⟨none, false, none, iStore 39 (.t 2) (.t 20)⟩])
 cRet)))), [.cell 2 true 39]⟩
noncomputable def Tryd.kp78 : List Nat := [0, 1, 4, 6, 7, 8, 9, 10, 17]
noncomputable def Tryd.cf78 : CF := ⟨2, (cSeq (cOps [⟨some 4, true, none, iMov (.c (.bool (.lit false)))⟩])
 (cSeq (cSeq (cOps [⟨some 7, true, none, iMov (.t 1)⟩,
 ⟨some 8, true, none, iLenS (.t 7)⟩,
 ⟨some 9, true, none, iMov (.c (.int .i64 (.lit 0)))⟩])
 (cBlock 0 (cLoop (cSeq (cOps [⟨some 10, true, none, iCmp .lss (.t 9) (.t 8)⟩])
 (cSeq (cCond (.t 10) cSkip (cExit 0))
 (cSeq (cBlock 1 (cSeq (cOps [⟨some 11, false, none, iIaddr 2 (.t 7) (.t 9)⟩,
 ⟨some 12, false, none, iLoadN 2 (.t 11)⟩,
 ⟨some 6, true, none, iAlloc 23 [(.int .i64 (.lit 0)), (.int .i64 (.lit 0))]⟩,
 ⟨none, false, none, iStore 2 (.t 6) (.t 12)⟩])
 (cSeq (cOps [⟨some 13, false, none, iLoadN 2 (.t 6)⟩,
 ⟨some 14, false, none, iMov (.t 0)⟩,
 ⟨some 15, false, none, iBuild [(.int .i64 (.lit 0)), (.int .i64 (.lit 0))] [(0, 1, (.c (.int .i64 (.lit 0)))), (1, 1, (.t 14))]⟩,
 ⟨some 16, false, none, iCall (.c (.func (.func 95) [] [])) [(.t 13), (.t 15)]⟩,
 ⟨some 17, true, none, iNot (.t 16)⟩])
 (cCond (.t 17) (cSeq (cOps [⟨some 4, true, none, iMov (.c (.bool (.lit false)))⟩])
 cRet) cSkip))))
 (cOps [⟨some 18, false, none, iArith .add (.t 9) (.c (.int .i64 (.lit 1)))⟩,
 ⟨some 9, true, none, iMov (.t 18)⟩])))))))
 (cSeq (cOps [⟨some 4, true, none, iMov (.c (.bool (.lit true)))⟩])
 cRet))), [.t 4]⟩
noncomputable def Tryd.kp79 : List Nat := [0, 1, 2]
noncomputable def Tryd.cf79 : CF := ⟨1, (cSeq (cOps [⟨some 1, true, none, iBox 27 (.t 0)⟩,
 ⟨some 2, true, none, iMov (.c (.bool (.lit false)))⟩])
 (cSeq (cOps [⟨some 3, false, none, iFaddr 16 (.t 1)⟩,
 ⟨some 4, false, none, iLoadN 2 (.t 3)⟩,
 ⟨some 5, false, none, iFaddr 18 (.t 1)⟩,
 ⟨some 6, false, none, iLoadN 2 (.t 5)⟩,
 ⟨some 7, false, none, iBslice 23 [(.int .i64 (.lit 0)), (.int .i64 (.lit 0))] 2 [(0, 2, (.t 4)), (2, 2, (.t 6))]⟩,
 ⟨some 8, false, none, iCall (.c (.func (.func 78) [] [])) [(.c (.int .i64 (.lit 60))), (.t 7)]⟩,
 ⟨some 9, false, none, iMov (.t 8)⟩,
 ⟨some 10, false, some (9, true), iFaddr 18 (.t 1)⟩,
 ⟨some 11, false, some (9, true), iFaddr 0 (.t 10)⟩,
 ⟨some 12, false, some (9, true), iLoad (.t 11)⟩,
 ⟨some 13, false, some (9, true), iFaddr 16 (.t 1)⟩,
 ⟨some 14, false, some (9, true), iFaddr 0 (.t 13)⟩,
 ⟨some 15, false, some (9, true), iLoad (.t 14)⟩,
 ⟨some 16, false, some (9, true), iCmp .leq (.t 12) (.t 15)⟩,
 ⟨some 17, false, none, iPick (.t 9) (.t 16) (.c (.bool (.lit false)))⟩,
 ⟨some 18, false, none, iMov (.t 17)⟩,
 ⟨some 19, false, some (18, true), iFaddr 18 (.t 1)⟩,
 ⟨some 20, false, some (18, true), iFaddr 1 (.t 19)⟩,
 ⟨some 21, false, some (18, true), iLoad (.t 20)⟩,
 ⟨some 22, false, some (18, true), iFaddr 16 (.t 1)⟩,
 ⟨some 23, false, some (18, true), iFaddr 1 (.t 22)⟩,
 ⟨some 24, false, some (18, true), iLoad (.t 23)⟩,
 ⟨some 25, false, some (18, true), iCmp .leq (.t 21) (.t 24)⟩,
 ⟨some 26, false, none, iPick (.t 18) (.t 25) (.c (.bool (.lit false)))⟩,
 ⟨some 2, true, none, iMov (.t 26)⟩])
 cRet)), [.t 2]⟩
noncomputable def Tryd.kp80 : List Nat := [0, 2, 4, 5, 6, 7, 8, 22]
noncomputable def Tryd.cf80 : CF := ⟨1, (cSeq (cOps [⟨some 2, true, none, iMov (.c (.bool (.lit false)))⟩])
 (cSeq (cSeq (cOps [⟨some 5, true, none, iMov (.t 0)⟩,
 ⟨some 6, true, none, iLenS (.t 5)⟩,
 ⟨some 7, true, none, iMov (.c (.int .i64 (.lit 0)))⟩])
 (cBlock 0 (cLoop (cSeq (cOps [⟨some 8, true, none, iCmp .lss (.t 7) (.t 6)⟩])
 (cSeq (cCond (.t 8) cSkip (cExit 0))
 (cSeq (cBlock 1 (cSeq (cOps [⟨some 9, false, none, iIaddr 4 (.t 5) (.t 7)⟩,
 ⟨some 10, false, none, iLoadN 4 (.t 9)⟩,
 ⟨some 4, true, none, iAlloc 66 [(.int .i64 (.lit 0)), (.int .i64 (.lit 0)), (.bool (.lit false)), (.int .i64 (.lit 0))]⟩,
 ⟨none, false, none, iStore 4 (.t 4) (.t 10)⟩])
 (cSeq (cOps [⟨some 11, false, none, iFaddr 0 (.t 4)⟩,
 ⟨some 12, false, none, iLoadN 2 (.t 11)⟩,
 ⟨some 13, false, none, iBuild [(.int .i64 (.lit 0)), (.int .i64 (.lit 0))] [(0, 1, (.c (.int .i64 (.lit 1)))), (1, 1, (.c (.int .i64 (.lit 60))))]⟩,
 ⟨some 14, false, none, iCall (.c (.func (.func 95) [] [])) [(.t 12), (.t 13)]⟩,
 ⟨some 15, false, none, iNot (.t 14)⟩,
 ⟨some 16, false, none, iMov (.t 15)⟩,
 ⟨some 17, false, some (16, false), iFaddr 3 (.t 4)⟩,
 ⟨some 18, false, some (16, false), iLoad (.t 17)⟩,
 ⟨some 19, false, some (16, false), iBuild [(.int .i64 (.lit 0)), (.int .i64 (.lit 0))] [(0, 1, (.c (.int .i64 (.lit 0)))), (1, 1, (.c (.int .i64 (.lit 5))))]⟩,
 ⟨some 20, false, some (16, false), iCall (.c (.func (.func 49) [] [])) [(.t 18), (.t 19)]⟩,
 ⟨some 21, false, some (16, false), iNot (.t 20)⟩,
 ⟨some 22, true, none, iPick (.t 16) (.c (.bool (.lit true))) (.t 21)⟩])
 (cCond (.t 22) (cSeq (cOps [⟨some 2, true, none, iMov (.c (.bool (.lit false)))⟩])
 cRet) cSkip))))
 (cOps [⟨some 23, false, none, iArith .add (.t 7) (.c (.int .i64 (.lit 1)))⟩,
 ⟨some 7, true, none, iMov (.t 23)⟩])))))))
 (cSeq (cOps [⟨some 2, true, none, iMov (.c (.bool (.lit true)))⟩])
 cRet))), [.t 2]⟩
noncomputable def Tryd.kp81 : List Nat := [0, 1]
noncomputable def Tryd.cf81 : CF := ⟨0, (cSeq (cOps [⟨some 0, true, none, iAlloc 118 [.nilFunc, .nilFunc]⟩,
 ⟨some 1, true, none, iAlloc 118 [.nilFunc, .nilFunc]⟩])
 (cSeq (cOps [⟨some 2, false, none, iBuild [.nilFunc, .nilFunc] [(0, 1, (.c (.func (.func 96) [] []))), (1, 1, (.c (.func (.func 97) [] [])))]⟩,
 ⟨some 3, false, none, iBuild [.nilFunc, .nilFunc] [(0, 1, (.c (.func (.func 97) [] []))), (1, 1, (.c (.func (.func 96) [] [])))]⟩,
 ⟨none, false, none, iStore 2 (.t 0) (.t 2)⟩,
 ⟨none, false, none, iStore 2 (.t 1) (.t 3)⟩])
 cRet)), [.cell 0 true 2, .cell 1 true 2]⟩
noncomputable def Tryd.kp82 : List Nat := [0, 1, 2, 3, 4, 5, 6]
noncomputable def Tryd.cf82 : CF := ⟨3, (cSeq (cOps [⟨some 3, true, none, iBox 78 (.t 0)⟩,
 ⟨some 4, true, none, iBox 28 (.t 1)⟩,
 ⟨some 5, true, none, iBox 118 (.t 2)⟩,
 ⟨some 6, true, none, iMov (.c .nilFunc)⟩])
 (cSeq (cOps [⟨some 7, false, none, iFunc (.func 98) [] [(.t 3), (.t 5), (.t 4)]⟩,
 ⟨some 6, true, none, iMov (.t 7)⟩])
 cRet)), [.t 6]⟩
noncomputable def Tryd.kp83 : List Nat := [0, 1, 2]
noncomputable def Tryd.cf83 : CF := ⟨1, (cSeq (cOps [⟨some 1, true, none, iBox 128 (.t 0)⟩,
 ⟨some 2, true, none, iMov (.c (.bool (.lit false)))⟩])
 (cSeq (cOps [⟨some 3, false, none, iFaddr 5 (.t 1)⟩,
 ⟨some 4, false, none, iLoadN 2 (.t 3)⟩,
 ⟨some 5, false, none, iBuild [(.int .i64 (.lit 0)), (.int .i64 (.lit 0))] []⟩,
 ⟨some 6, false, none, iEq true true 2 [(0, .int), (1, .int)] (.t 4) (.t 5)⟩,
 ⟨some 2, true, none, iMov (.t 6)⟩])
 cRet)), [.t 2]⟩
noncomputable def Tryd.kp84 : List Nat := [0, 1, 2, 4]
noncomputable def Tryd.cf84 : CF := ⟨1, (cSeq (cOps [⟨some 1, true, none, iBox 66 (.t 0)⟩,
 ⟨some 2, true, none, iMov (.c (.int .i64 (.lit 0)))⟩])
 (cSeq (cSeq (cOps [⟨some 3, false, none, iFaddr 2 (.t 1)⟩,
 ⟨some 4, true, none, iLoad (.t 3)⟩])
 (cCond (.t 4) (cSeq (cOps [⟨some 2, true, none, iMov (.c (.int .i64 (.lit 1)))⟩])
 cRet) cSkip))
 (cSeq (cOps [⟨some 2, true, none, iMov (.c (.int .i64 (.lit 0)))⟩])
 cRet))), [.t 2]⟩
noncomputable def Tryd.kp85 : List Nat := [0, 1, 2, 3, 4, 5, 7]
noncomputable def Tryd.cf85 : CF := ⟨2, (cSeq (cOps [⟨some 2, true, none, iBox 78 (.t 0)⟩,
 ⟨some 3, true, none, iBox 128 (.t 1)⟩,
 ⟨some 4, true, none, iMov (.c (.bool (.lit false)))⟩])
 (cSeq (cSeq (cOps [⟨some 6, false, none, iLoadN 7 (.t 3)⟩,
 ⟨some 7, true, none, iCall (.c (.func (.func 83) [] [])) [(.t 6)]⟩])
 (cCond (.t 7) (cSeq (cOps [⟨some 4, true, none, iMov (.c (.bool (.lit true)))⟩])
 cRet) cSkip))
 (cSeq (cOps [⟨some 8, false, none, iFaddr 0 (.t 2)⟩,
 ⟨some 9, false, none, iFaddr 22 (.t 8)⟩,
 ⟨some 10, false, none, iLoad (.t 9)⟩,
 ⟨some 11, false, none, iFaddr 2 (.t 3)⟩,
 ⟨some 12, false, none, iFaddr 0 (.t 11)⟩,
 ⟨some 13, false, none, iLoad (.t 12)⟩,
 ⟨some 14, false, none, iArith .sub (.t 13) (.c (.int .i64 (.lit 1)))⟩,
 ⟨some 15, false, none, iIaddr 4 (.t 10) (.t 14)⟩,
 ⟨some 16, false, none, iLoadN 4 (.t 15)⟩,
 ⟨some 5, true, none, iAlloc 66 [(.int .i64 (.lit 0)), (.int .i64 (.lit 0)), (.bool (.lit false)), (.int .i64 (.lit 0))]⟩,
 ⟨none, false, none, iStore 4 (.t 5) (.t 16)⟩])
 (cSeq (dOps 0 [⟨⟨some 17, false, none, iFaddr 2 (.t 5)⟩, [5], false, 0, 0, none, []⟩,
 ⟨⟨some 18, false, none, iLoad (.t 17)⟩, [17], false, 0, 0, none, []⟩,
 ⟨⟨some 19, false, none, iMov (.t 18)⟩, [18], false, 0, 0, none, []⟩,
 ⟨⟨some 20, false, some (19, true), iLoadN 39 (.t 2)⟩, [19, 2], false, 0, 0, none, []⟩,
 ⟨⟨some 21, false, some (19, true), iFaddr 2 (.t 3)⟩, [19, 3], false, 0, 0, none, []⟩,
 ⟨⟨some 22, false, some (19, true), iFaddr 1 (.t 21)⟩, [19, 21], false, 0, 0, none, []⟩,
 ⟨⟨some 23, false, some (19, true), iIaddrA 1 2 (.t 22) (.c (.int .i64 (.lit 1)))⟩, [19, 22], false, 0, 0, none, []⟩,
 ⟨⟨some 24, false, some (19, true), iLoad (.t 23)⟩, [19, 23], false, 0, 0, none, []⟩,
 ⟨⟨some 25, false, some (19, true), iCall (.c (.func (.func 50) [] [])) [(.t 20), (.t 24)]⟩, [19, 20, 24], true, 0, 0, none, []⟩,
 ⟨⟨some 26, false, some (19, true), iField false 0 1 (.t 25)⟩, [19, 25], false, 1, 1, none, []⟩,
 ⟨⟨some 27, false, some (19, true), iFaddr 0 (.t 2)⟩, [19, 2], false, 0, 1, none, []⟩,
 ⟨⟨some 28, false, some (19, true), iFaddr 21 (.t 27)⟩, [19, 27], false, 0, 1, none, []⟩,
 ⟨⟨some 29, false, some (19, true), iLoad (.t 28)⟩, [19, 28], false, 0, 1, none, []⟩,
 ⟨⟨some 30, false, some (19, true), iCmp .lss (.t 26) (.t 29)⟩, [19, 26, 29], false, 1, 1, none, []⟩,
 ⟨⟨some 31, false, none, iPick (.t 19) (.t 30) (.c (.bool (.lit false)))⟩, [19, 30], false, 1, 1, none, []⟩,
 ⟨⟨some 4, true, none, iMov (.t 31)⟩, [31], false, 1, 1, none, []⟩])
 cRet)))), [.t 4]⟩
noncomputable def Tryd.kp86 : List Nat := [0, 1, 2, 3, 5, 6]
noncomputable def Tryd.cf86 : CF := ⟨1, (cSeq (cOps [⟨some 1, true, none, iBox 78 (.t 0)⟩,
 ⟨some 2, true, none, iMov (.c .nilmap)⟩])
 (cSeq (cOps [⟨some 8, false, none, iCall (.c (.func (.func 81) [] [])) []⟩,
 ⟨some 7, false, none, iMov (.t 8)⟩,
 ⟨some 9, false, none, iExtract 0 (.t 7)⟩,
 ⟨some 10, false, none, iExtract 1 (.t 7)⟩,
 ⟨some 3, true, none, iAlloc 118 [.nilFunc, .nilFunc]⟩,
 ⟨some 4, false, none, iAlloc 118 [.nilFunc, .nilFunc]⟩,
 ⟨none, false, none, iStore 2 (.t 3) (.t 9)⟩,
 ⟨none, false, none, iStore 2 (.t 4) (.t 10)⟩])
 (cSeq (cOps [⟨some 11, false, none, iMkmap⟩,
 ⟨some 5, true, none, iAlloc 131 [.nilmap]⟩,
 ⟨none, false, none, iStore 1 (.t 5) (.t 11)⟩])
 (cSeq (cOps [⟨some 6, true, none, iAlloc 146 [.nilFunc]⟩])
 (cSeq (cOps [⟨some 12, false, none, iFunc (.func 100) [] [(.t 5), (.t 1), (.t 3), (.t 6)]⟩,
 ⟨none, false, none, iStore 1 (.t 6) (.t 12)⟩])
 (cSeq (dOps 0 [⟨⟨some 13, false, none, iLoad (.t 6)⟩, [6], false, 0, 1, none, []⟩,
 ⟨⟨some 14, false, none, iLoadN 39 (.t 1)⟩, [1], false, 0, 0, none, []⟩,
 ⟨⟨some 15, false, none, iLoadN 2 (.t 3)⟩, [3], false, 0, 0, none, []⟩,
 ⟨⟨some 16, false, none, iCall (.c (.func (.func 87) [] [])) [(.t 14), (.t 15)]⟩, [14, 15], true, 0, 0, none, []⟩,
 ⟨⟨some 17, false, none, iCall (.t 13) [(.t 16)]⟩, [13, 16], true, 1, 0, none, []⟩])
 (cSeq (cOps [⟨some 18, false, none, iLoad (.t 5)⟩,
 ⟨some 2, true, none, iMov (.t 18)⟩])
 cRet))))))), [.t 2]⟩
noncomputable def Tryd.kp87 : List Nat := [0, 1, 2, 3, 4, 5, 6, 7, 9, 10, 11]
noncomputable def Tryd.cf87 : CF := ⟨2, (cSeq (cOps [⟨some 2, true, none, iBox 78 (.t 0)⟩,
 ⟨some 3, true, none, iBox 118 (.t 1)⟩,
 ⟨some 4, true, none, iAlloc 126 [(.int .i64 (.lit 0)), (.int .i64 (.lit 0)), (.int .i64 (.lit 0))]⟩])
 (cSeq (cOps [⟨some 5, true, none, iAlloc 126 [(.int .i64 (.lit 0)), (.int .i64 (.lit 0)), (.int .i64 (.lit 0))]⟩])
 (cSeq (cSeq (cOps [⟨some 8, false, none, iFaddr 23 (.t 2)⟩,
 ⟨some 9, true, none, iLoadN 16 (.t 8)⟩,
 ⟨some 10, true, none, iMov (.c (.int .i64 (.lit 0)))⟩])
 (cBlock 0 (cLoop (cSeq (cOps [⟨some 11, true, none, iCmp .lss (.t 10) (.c (.int .i64 (.lit 2)))⟩])
 (cSeq (cCond (.t 11) cSkip (cExit 0))
 (cSeq (cBlock 1 (cSeq (cOps [⟨some 12, false, none, iMov (.t 10)⟩,
 ⟨some 13, false, none, iIndex true 8 2 (.t 9) (.t 10)⟩,
 ⟨some 7, true, none, iAlloc 75 [(.int .i64 (.lit 0)), (.int .i64 (.lit 0)), (.int .i64 (.lit 0)), (.int .i64 (.lit 0)), (.int .i64 (.lit 0)), (.int .i64 (.lit 0)), (.int .i64 (.lit 0)), (.int .i64 (.lit 0))]⟩,
 ⟨some 6, true, none, iMov (.t 12)⟩,
 ⟨none, false, none, iStore 8 (.t 7) (.t 13)⟩])
 (cOps [⟨some 14, false, none, iMov (.t 6)⟩,
 ⟨some 15, false, none, iFaddr 0 (.t 3)⟩,
 ⟨some 16, false, none, iLoad (.t 15)⟩,
 ⟨some 17, false, none, iFaddr 0 (.t 7)⟩,
 ⟨some 18, false, none, iLoadN 2 (.t 17)⟩,
 ⟨some 19, false, none, iCall (.t 16) [(.t 18)]⟩,
 ⟨some 20, false, none, iFaddr 1 (.t 5)⟩,
 ⟨some 21, false, none, iIaddrA 1 2 (.t 20) (.t 14)⟩,
 ⟨none, false, none, iStore 1 (.t 21) (.t 19)⟩])))
 (cOps [⟨some 22, false, none, iArith .add (.t 10) (.c (.int .i64 (.lit 1)))⟩,
 ⟨some 10, true, none, iMov (.t 22)⟩])))))))
 (cSeq (cOps [⟨some 23, false, none, iLoadN 3 (.t 5)⟩,
 ⟨none, false, none, iStore 3 (.t 4) (.t 23)⟩])
 cRet)))), [.cell 4 true 3]⟩
noncomputable def Tryd.kp89 : List Nat := [0, 1, 3]
noncomputable def Tryd.cf89 : CF := ⟨2, (cSeq (cOps [⟨some 3, true, none, iMov (.c (.bool (.lit false)))⟩])
 (cSeq (cOps [⟨some 4, false, none, iLoad (.t 1)⟩,
 ⟨some 5, false, none, iMov (.t 0)⟩,
 ⟨some 6, false, none, iCall (.t 4) [(.t 5)]⟩,
 ⟨some 7, false, none, iNot (.t 6)⟩,
 ⟨some 3, true, none, iMov (.t 7)⟩])
 cRet)), [.t 3]⟩
noncomputable def Tryd.kp90 : List Nat := [0, 1, 2, 3]
noncomputable def Tryd.cf90 : CF := ⟨1, (cSeq (cOps [⟨some 1, true, none, iBox 78 (.t 0)⟩,
 ⟨some 2, true, none, iMov (.c (.bool (.lit false)))⟩])
 (cSeq (cOps [⟨some 6, false, none, iCall (.c (.func (.func 81) [] [])) []⟩,
 ⟨some 5, false, none, iMov (.t 6)⟩,
 ⟨some 7, false, none, iExtract 0 (.t 5)⟩,
 ⟨some 8, false, none, iExtract 1 (.t 5)⟩,
 ⟨some 3, true, none, iAlloc 118 [.nilFunc, .nilFunc]⟩,
 ⟨some 4, false, none, iAlloc 118 [.nilFunc, .nilFunc]⟩,
 ⟨none, false, none, iStore 2 (.t 3) (.t 7)⟩,
 ⟨none, false, none, iStore 2 (.t 4) (.t 8)⟩])
 (cSeq (dOps 0 [⟨⟨some 9, false, none, iLoadN 39 (.t 1)⟩, [1], false, 0, 0, none, []⟩,
 ⟨⟨some 10, false, none, iCall (.c (.func (.func 86) [] [])) [(.t 9)]⟩, [9], true, 0, 0, none, []⟩,
 ⟨⟨some 11, false, none, iLoadN 39 (.t 1)⟩, [1], false, 0, 1, none, []⟩,
 ⟨⟨some 12, false, none, iLoadN 2 (.t 3)⟩, [3], false, 0, 1, none, []⟩,
 ⟨⟨some 13, false, none, iCall (.c (.func (.func 87) [] [])) [(.t 11), (.t 12)]⟩, [11, 12], true, 1, 0, none, []⟩,
 ⟨⟨some 14, false, none, iLookup (.agg [(.bool (.lit false)), (.int .i64 (.lit 0)), (.int .i64 (.lit 0)), (.int .i64 (.lit 0)), (.int .i64 (.lit 0)), (.int .i64 (.lit 0)), (.int .i64 (.lit 0)), (.int .i64 (.lit 0)), (.int .i64 (.lit 0))]) true 3 [(0, .int), (1, .int), (2, .int)] false (.t 10) (.t 13)⟩, [10, 13], false, 2, 2, none, []⟩,
 ⟨⟨some 15, false, none, iField false 0 1 (.t 14)⟩, [14], false, 2, 2, none, []⟩,
 ⟨⟨some 2, true, none, iMov (.t 15)⟩, [15], false, 2, 2, none, []⟩])
 cRet))), [.t 2]⟩
noncomputable def Tryd.kp91 : List Nat := [0, 2, 4]
noncomputable def Tryd.cf91 : CF := ⟨1, (cSeq (cOps [⟨some 2, true, none, iMov (.c .nilslice)⟩])
 (cSeq (cSeq (cOps [⟨some 3, false, none, iMov (.t 0)⟩,
 ⟨some 4, true, none, iEq false false 1 [(0, .nilS)] (.t 3) (.c .nilslice)⟩])
 (cCond (.t 4) (cSeq (cOps [⟨some 2, true, none, iMov (.c .nilslice)⟩])
 cRet) cSkip))
 (cSeq (cOps [⟨some 5, false, none, iBslice 66 [(.int .i64 (.lit 0)), (.int .i64 (.lit 0)), (.bool (.lit false)), (.int .i64 (.lit 0))] 0 []⟩,
 ⟨some 6, false, none, iMov (.t 0)⟩,
 ⟨some 7, false, none, iAppend 66 4 32 (.t 5) (.t 6)⟩,
 ⟨some 2, true, none, iMov (.t 7)⟩])
 cRet))), [.t 2]⟩
noncomputable def Tryd.kp93 : List Nat := [0, 1, 2]
noncomputable def Tryd.cf93 : CF := ⟨1, (cSeq (cOps [⟨some 1, true, none, iBox 78 (.t 0)⟩,
 ⟨some 2, true, none, iAlloc 75 [(.int .i64 (.lit 0)), (.int .i64 (.lit 0)), (.int .i64 (.lit 0)), (.int .i64 (.lit 0)), (.int .i64 (.lit 0)), (.int .i64 (.lit 0)), (.int .i64 (.lit 0)), (.int .i64 (.lit 0))]⟩])
 (cSeq (cOps [⟨some 3, false, none, iFaddr 0 (.t 1)⟩,
 ⟨some 4, false, none, iFaddr 0 (.t 3)⟩,
 ⟨some 5, false, none, iLoadN 2 (.t 4)⟩,
 ⟨some 6, false, none, iFaddr 0 (.t 1)⟩,
 ⟨some 7, false, none, iFaddr 4 (.t 6)⟩,
 ⟨some 8, false, none, iLoad (.t 7)⟩,
 ⟨some 9, false, none, iFaddr 0 (.t 1)⟩,
 ⟨some 10, false, none, iFaddr 6 (.t 9)⟩,
 ⟨some 11, false, none, iLoad (.t 10)⟩,
 ⟨some 12, false, none, iFaddr 0 (.t 1)⟩,
 ⟨some 13, false, none, iFaddr 8 (.t 12)⟩,
 ⟨some 14, false, none, iLoadN 4 (.t 13)⟩,
 ⟨some 15, false, none, iBuild [(.int .i64 (.lit 0)), (.int .i64 (.lit 0)), (.int .i64 (.lit 0)), (.int .i64 (.lit 0)), (.int .i64 (.lit 0)), (.int .i64 (.lit 0)), (.int .i64 (.lit 0)), (.int .i64 (.lit 0))] [(0, 2, (.t 5)), (2, 1, (.t 8)), (3, 1, (.t 11)), (4, 4, (.t 14))]⟩,
 ⟨none, false, none, iStore 8 (.t 2) (.t 15)⟩])
 cRet)), [.cell 2 true 8]⟩
noncomputable def Tryd.kp94 : List Nat := [0, 1, 2]
noncomputable def Tryd.cf94 : CF := ⟨1, (cSeq (cOps [⟨some 1, true, none, iBox 78 (.t 0)⟩,
 ⟨some 2, true, none, iAlloc 75 [(.int .i64 (.lit 0)), (.int .i64 (.lit 0)), (.int .i64 (.lit 0)), (.int .i64 (.lit 0)), (.int .i64 (.lit 0)), (.int .i64 (.lit 0)), (.int .i64 (.lit 0)), (.int .i64 (.lit 0))]⟩])
 (cSeq (cOps [⟨some 3, false, none, iFaddr 0 (.t 1)⟩,
 ⟨some 4, false, none, iFaddr 2 (.t 3)⟩,
 ⟨some 5, false, none, iLoadN 2 (.t 4)⟩,
 ⟨some 6, false, none, iFaddr 0 (.t 1)⟩,
 ⟨some 7, false, none, iFaddr 5 (.t 6)⟩,
 ⟨some 8, false, none, iLoad (.t 7)⟩,
 ⟨some 9, false, none, iFaddr 0 (.t 1)⟩,
 ⟨some 10, false, none, iFaddr 7 (.t 9)⟩,
 ⟨some 11, false, none, iLoad (.t 10)⟩,
 ⟨some 12, false, none, iFaddr 0 (.t 1)⟩,
 ⟨some 13, false, none, iFaddr 12 (.t 12)⟩,
 ⟨some 14, false, none, iLoadN 4 (.t 13)⟩,
 ⟨some 15, false, none, iBuild [(.int .i64 (.lit 0)), (.int .i64 (.lit 0)), (.int .i64 (.lit 0)), (.int .i64 (.lit 0)), (.int .i64 (.lit 0)), (.int .i64 (.lit 0)), (.int .i64 (.lit 0)), (.int .i64 (.lit 0))] [(0, 2, (.t 5)), (2, 1, (.t 8)), (3, 1, (.t 11)), (4, 4, (.t 14))]⟩,
 ⟨none, false, none, iStore 8 (.t 2) (.t 15)⟩])
 cRet)), [.cell 2 true 8]⟩
noncomputable def Tryd.kp95 : List Nat := [0, 1, 2, 3, 4]
noncomputable def Tryd.cf95 : CF := ⟨2, (cSeq (cOps [⟨some 2, true, none, iBox 23 (.t 0)⟩,
 ⟨some 3, true, none, iBox 23 (.t 1)⟩,
 ⟨some 4, true, none, iMov (.c (.bool (.lit false)))⟩])
 (cSeq (cOps [⟨some 5, false, none, iFaddr 0 (.t 3)⟩,
 ⟨some 6, false, none, iLoad (.t 5)⟩,
 ⟨some 7, false, none, iFaddr 0 (.t 2)⟩,
 ⟨some 8, false, none, iLoad (.t 7)⟩,
 ⟨some 9, false, none, iCmp .leq (.t 6) (.t 8)⟩,
 ⟨some 10, false, none, iMov (.t 9)⟩,
 ⟨some 11, false, some (10, true), iFaddr 0 (.t 2)⟩,
 ⟨some 12, false, some (10, true), iLoad (.t 11)⟩,
 ⟨some 13, false, some (10, true), iFaddr 1 (.t 2)⟩,
 ⟨some 14, false, some (10, true), iLoad (.t 13)⟩,
 ⟨some 15, false, some (10, true), iCmp .leq (.t 12) (.t 14)⟩,
 ⟨some 16, false, none, iPick (.t 10) (.t 15) (.c (.bool (.lit false)))⟩,
 ⟨some 17, false, none, iMov (.t 16)⟩,
 ⟨some 18, false, some (17, true), iFaddr 1 (.t 2)⟩,
 ⟨some 19, false, some (17, true), iLoad (.t 18)⟩,
 ⟨some 20, false, some (17, true), iFaddr 1 (.t 3)⟩,
 ⟨some 21, false, some (17, true), iLoad (.t 20)⟩,
 ⟨some 22, false, some (17, true), iCmp .leq (.t 19) (.t 21)⟩,
 ⟨some 23, false, none, iPick (.t 17) (.t 22) (.c (.bool (.lit false)))⟩,
 ⟨some 4, true, none, iMov (.t 23)⟩])
 cRet)), [.t 4]⟩
noncomputable def Tryd.kp96 : List Nat := [0, 1, 2]
noncomputable def Tryd.cf96 : CF := ⟨1, (cSeq (cOps [⟨some 1, true, none, iBox 144 (.t 0)⟩,
 ⟨some 2, true, none, iMov (.c (.int .i64 (.lit 0)))⟩])
 (cSeq (cOps [⟨some 3, false, none, iFaddr 0 (.t 1)⟩,
 ⟨some 4, false, none, iLoad (.t 3)⟩,
 ⟨some 2, true, none, iMov (.t 4)⟩])
 cRet)), [.t 2]⟩
noncomputable def Tryd.kp97 : List Nat := [0, 1, 2]
noncomputable def Tryd.cf97 : CF := ⟨1, (cSeq (cOps [⟨some 1, true, none, iBox 144 (.t 0)⟩,
 ⟨some 2, true, none, iMov (.c (.int .i64 (.lit 0)))⟩])
 (cSeq (cOps [⟨some 3, false, none, iFaddr 1 (.t 1)⟩,
 ⟨some 4, false, none, iLoad (.t 3)⟩,
 ⟨some 2, true, none, iMov (.t 4)⟩])
 cRet)), [.t 2]⟩
noncomputable def Tryd.kp98 : List Nat := [0, 1, 2, 3, 5, 7, 8, 12, 13, 14, 15, 26]
noncomputable def Tryd.cf98 : CF := ⟨4, (cSeq (cOps [⟨some 9, false, none, iLoadN 39 (.t 1)⟩,
 ⟨some 10, false, none, iLoadN 2 (.t 2)⟩,
 ⟨some 11, false, none, iCall (.c (.func (.func 87) [] [])) [(.t 9), (.t 10)]⟩,
 ⟨some 5, true, none, iAlloc 126 [(.int .i64 (.lit 0)), (.int .i64 (.lit 0)), (.int .i64 (.lit 0))]⟩,
 ⟨none, false, none, iStore 3 (.t 5) (.t 11)⟩])
 (cSeq (cOps [⟨some 12, true, none, iLoad (.t 3)⟩,
 ⟨some 13, true, none, iLenS (.t 12)⟩,
 ⟨some 14, true, none, iMov (.c (.int .i64 (.lit 0)))⟩])
 (cBlock 0 (cLoop (cSeq (cOps [⟨some 15, true, none, iCmp .lss (.t 14) (.t 13)⟩])
 (cSeq (cCond (.t 15) cSkip (cExit 0))
 (cSeq (cBlock 1 (cSeq (cOps [⟨some 16, false, none, iIaddr 2 (.t 12) (.t 14)⟩,
 ⟨some 17, false, none, iLoadN 2 (.t 16)⟩,
 ⟨some 7, true, none, iAlloc 64 [(.int .i64 (.lit 0)), (.int .i64 (.lit 0))]⟩,
 ⟨none, false, none, iStore 2 (.t 7) (.t 17)⟩])
 (cSeq (cOps [⟨some 18, false, none, iLoadN 39 (.t 1)⟩,
 ⟨some 19, false, none, iLoadN 3 (.t 5)⟩,
 ⟨some 20, false, none, iLoadN 2 (.t 7)⟩,
 ⟨some 21, false, none, iLoadN 2 (.t 2)⟩,
 ⟨some 22, false, none, iCall (.c (.func (.func 99) [] [])) [(.t 18), (.t 19), (.t 20), (.t 21)]⟩,
 ⟨some 8, true, none, iAlloc 128 [(.int .i64 (.lit 0)), (.int .i64 (.lit 0)), (.int .i64 (.lit 0)), (.int .i64 (.lit 0)), (.int .i64 (.lit 0)), (.int .i64 (.lit 0)), (.int .i64 (.lit 0))]⟩,
 ⟨none, false, none, iStore 7 (.t 8) (.t 22)⟩])
 (cSeq (cSeq (cOps [⟨some 23, false, none, iMov (.t 0)⟩,
 ⟨some 24, false, none, iLoadN 7 (.t 8)⟩,
 ⟨some 25, false, none, iCall (.t 23) [(.t 24)]⟩,
 ⟨some 26, true, none, iNot (.t 25)⟩])
 (cCond (.t 26) cRet cSkip))
 (cOps [⟨some 27, false, none, iFaddr 2 (.t 8)⟩,
 ⟨some 28, false, none, iLoadN 3 (.t 27)⟩,
 ⟨none, false, none, iStore 3 (.t 5) (.t 28)⟩])))))
 (cOps [⟨some 29, false, none, iArith .add (.t 14) (.c (.int .i64 (.lit 1)))⟩,
 ⟨some 14, true, none, iMov (.t 29)⟩])))))))), []⟩
noncomputable def Tryd.kp99 : List Nat := [0, 1, 2, 3, 4, 5, 6, 7, 8, 9, 10, 11, 12, 13, 14, 15, 16, 34, 35, 36]
noncomputable def Tryd.cf99 : CF := ⟨4, (cSeq (cOps [⟨some 4, true, none, iBox 78 (.t 0)⟩,
 ⟨some 5, true, none, iBox 126 (.t 1)⟩,
 ⟨some 6, true, none, iBox 64 (.t 2)⟩,
 ⟨some 7, true, none, iBox 118 (.t 3)⟩,
 ⟨some 8, true, none, iAlloc 128 [(.int .i64 (.lit 0)), (.int .i64 (.lit 0)), (.int .i64 (.lit 0)), (.int .i64 (.lit 0)), (.int .i64 (.lit 0)), (.int .i64 (.lit 0)), (.int .i64 (.lit 0))]⟩])
 (cSeq (cOps [⟨some 17, false, none, iLoadN 2 (.t 6)⟩,
 ⟨some 18, false, none, iFaddr 0 (.t 5)⟩,
 ⟨some 19, false, none, iLoad (.t 18)⟩,
 ⟨some 20, false, none, iArith .add (.t 19) (.c (.int .i64 (.lit 1)))⟩,
 ⟨some 21, false, none, iBuild [(.int .i64 (.lit 0)), (.int .i64 (.lit 0)), (.int .i64 (.lit 0))] [(0, 1, (.t 20))]⟩,
 ⟨some 22, false, none, iBuild [(.int .i64 (.lit 0)), (.int .i64 (.lit 0)), (.int .i64 (.lit 0)), (.int .i64 (.lit 0)), (.int .i64 (.lit 0)), (.int .i64 (.lit 0)), (.int .i64 (.lit 0))] [(0, 2, (.t 17)), (2, 3, (.t 21))]⟩,
 ⟨some 9, true, none, iAlloc 128 [(.int .i64 (.lit 0)), (.int .i64 (.lit 0)), (.int .i64 (.lit 0)), (.int .i64 (.lit 0)), (.int .i64 (.lit 0)), (.int .i64 (.lit 0)), (.int .i64 (.lit 0))]⟩,
 ⟨none, false, none, iStore 7 (.t 9) (.t 22)⟩])
 (cSeq (cOps [⟨some 23, false, none, iFaddr 0 (.t 4)⟩,
 ⟨some 24, false, none, iFaddr 22 (.t 23)⟩,
 ⟨some 25, false, none, iLoad (.t 24)⟩,
 ⟨some 26, false, none, iFaddr 0 (.t 5)⟩,
 ⟨some 27, false, none, iLoad (.t 26)⟩,
 ⟨some 28, false, none, iIaddr 4 (.t 25) (.t 27)⟩,
 ⟨some 29, false, none, iLoadN 4 (.t 28)⟩,
 ⟨some 10, true, none, iAlloc 66 [(.int .i64 (.lit 0)), (.int .i64 (.lit 0)), (.bool (.lit false)), (.int .i64 (.lit 0))]⟩,
 ⟨none, false, none, iStore 4 (.t 10) (.t 29)⟩])
 (cSeq (cSeq (cOps [⟨some 30, false, none, iFaddr 0 (.t 6)⟩,
 ⟨some 31, false, none, iLoad (.t 30)⟩,
 ⟨some 32, false, none, iFaddr 1 (.t 6)⟩,
 ⟨some 33, false, none, iLoad (.t 32)⟩,
 ⟨some 34, true, none, iBuild [(.int .i64 (.lit 0)), (.int .i64 (.lit 0))] [(0, 1, (.t 31)), (1, 1, (.t 33))]⟩,
 ⟨some 35, true, none, iMov (.c (.int .i64 (.lit 0)))⟩])
 (cBlock 0 (cLoop (cSeq (cOps [⟨some 36, true, none, iCmp .lss (.t 35) (.c (.int .i64 (.lit 2)))⟩])
 (cSeq (cCond (.t 36) cSkip (cExit 0))
 (cSeq (cBlock 1 (cSeq (cOps [⟨some 37, false, none, iMov (.t 35)⟩,
 ⟨some 38, false, none, iIndex false 1 2 (.t 34) (.t 35)⟩,
 ⟨some 11, true, none, iMov (.t 37)⟩,
 ⟨some 12, true, none, iMov (.t 38)⟩])
 (cSeq (cOps [⟨some 39, false, none, iMov (.t 11)⟩,
 ⟨some 40, false, none, iFaddr 23 (.t 4)⟩,
 ⟨some 41, false, none, iIaddrA 8 2 (.t 40) (.t 39)⟩,
 ⟨some 42, false, none, iLoadN 8 (.t 41)⟩,
 ⟨some 13, true, none, iAlloc 75 [(.int .i64 (.lit 0)), (.int .i64 (.lit 0)), (.int .i64 (.lit 0)), (.int .i64 (.lit 0)), (.int .i64 (.lit 0)), (.int .i64 (.lit 0)), (.int .i64 (.lit 0)), (.int .i64 (.lit 0))]⟩,
 ⟨none, false, none, iStore 8 (.t 13) (.t 42)⟩])
 (cSeq (dOps 0 [⟨⟨some 43, false, none, iFaddr 2 (.t 13)⟩, [13], false, 0, 1, none, []⟩,
 ⟨⟨some 44, false, none, iLoad (.t 43)⟩, [43], false, 0, 1, none, []⟩,
 ⟨⟨some 45, false, none, iMov (.t 11)⟩, [11], false, 0, 0, none, []⟩,
 ⟨⟨some 46, false, none, iFaddr 1 (.t 5)⟩, [5], false, 0, 0, none, []⟩,
 ⟨⟨some 47, false, none, iIaddrA 1 2 (.t 46) (.t 45)⟩, [46, 45], false, 0, 0, none, []⟩,
 ⟨⟨some 48, false, none, iLoad (.t 47)⟩, [47], false, 0, 0, none, []⟩,
 ⟨⟨some 49, false, none, iMov (.t 12)⟩, [12], false, 0, 0, none, []⟩,
 ⟨⟨some 50, false, none, iFaddr 3 (.t 13)⟩, [13], false, 0, 0, none, []⟩,
 ⟨⟨some 51, false, none, iLoad (.t 50)⟩, [50], false, 0, 0, none, []⟩,
 ⟨⟨some 52, false, none, iArith .mul (.t 49) (.t 51)⟩, [49, 51], false, 0, 0, none, []⟩,
 ⟨⟨some 53, false, none, iArith .add (.t 48) (.t 52)⟩, [48, 52], false, 0, 0, none, []⟩,
 ⟨⟨some 54, false, none, iBslice 3 [(.int .i64 (.lit 0))] 1 [(0, 1, (.t 53))]⟩, [53], true, 0, 0, none, []⟩,
 ⟨⟨some 55, false, none, iCall (.c (.func (.func 103) [] [])) [(.t 44), (.t 54)]⟩, [44, 54], true, 1, 0, none, []⟩,
 ⟨⟨some 14, true, none, iMov (.t 55)⟩, [55], false, 2, 2, none, []⟩])
 (cSeq (dOps 0 [⟨⟨some 56, false, none, iFaddr 1 (.t 7)⟩, [7], false, 0, 0, none, []⟩,
 ⟨⟨some 57, false, none, iLoad (.t 56)⟩, [56], false, 0, 0, none, []⟩,
 ⟨⟨some 58, false, none, iFaddr 0 (.t 10)⟩, [10], false, 0, 0, none, []⟩,
 ⟨⟨some 59, false, none, iLoadN 2 (.t 58)⟩, [58], false, 0, 0, none, []⟩,
 ⟨⟨some 60, false, none, iCall (.t 57) [(.t 59)]⟩, [57, 59], true, 0, 0, none, []⟩,
 ⟨⟨some 61, false, none, iFaddr 1 (.t 7)⟩, [7], false, 0, 2, none, []⟩,
 ⟨⟨some 62, false, none, iLoad (.t 61)⟩, [61], false, 0, 2, none, []⟩,
 ⟨⟨some 63, false, none, iLoadN 8 (.t 13)⟩, [13], false, 0, 1, none, []⟩,
 ⟨⟨some 64, false, none, iLoadN 4 (.t 10)⟩, [10], false, 0, 1, none, []⟩,
 ⟨⟨some 65, false, none, iCall (.c (.func (.func 104) [] [])) [(.t 63), (.t 64)]⟩, [63, 64], true, 1, 0, none, []⟩,
 ⟨⟨some 66, false, none, iCall (.t 62) [(.t 65)]⟩, [62, 65], true, 2, 0, none, []⟩,
 ⟨⟨some 67, false, none, iArith .mul (.t 60) (.t 66)⟩, [60, 66], false, 3, 3, none, []⟩,
 ⟨⟨some 15, true, none, iMov (.t 67)⟩, [67], false, 3, 3, none, []⟩])
 (cSeq (cOps [⟨some 68, false, none, iMov (.t 14)⟩,
 ⟨some 69, false, none, iMov (.t 15)⟩,
 ⟨some 70, false, none, iBslice 3 [(.int .i64 (.lit 0))] 1 [(0, 1, (.t 69))]⟩,
 ⟨some 71, false, none, iCall (.c (.func (.func 103) [] [])) [(.t 68), (.t 70)]⟩,
 ⟨some 16, true, none, iMov (.t 71)⟩])
 (cOps [⟨some 72, false, none, iMov (.t 11)⟩,
 ⟨some 73, false, none, iMov (.t 11)⟩,
 ⟨some 74, false, none, iMov (.t 14)⟩,
 ⟨some 75, false, none, iMov (.t 16)⟩,
 ⟨some 76, false, none, iArith .sub (.t 74) (.t 75)⟩,
 ⟨some 77, false, none, iMov (.t 15)⟩,
 ⟨some 78, false, none, iMov (.t 16)⟩,
 ⟨some 79, false, none, iArith .sub (.t 77) (.t 78)⟩,
 ⟨some 80, false, none, iFaddr 2 (.t 9)⟩,
 ⟨some 81, false, none, iFaddr 1 (.t 80)⟩,
 ⟨some 82, false, none, iIaddrA 1 2 (.t 81) (.t 72)⟩,
 ⟨none, false, none, iStore 1 (.t 82) (.t 76)⟩,
 ⟨some 83, false, none, iFaddr 5 (.t 9)⟩,
 ⟨some 84, false, none, iIaddrA 1 2 (.t 83) (.t 73)⟩,
 ⟨none, false, none, iStore 1 (.t 84) (.t 79)⟩])))))))
 (cOps [⟨some 85, false, none, iArith .add (.t 35) (.c (.int .i64 (.lit 1)))⟩,
 ⟨some 35, true, none, iMov (.t 85)⟩])))))))
 (cSeq (cOps [⟨some 86, false, none, iLoadN 7 (.t 9)⟩,
 ⟨none, false, none, iStore 7 (.t 8) (.t 86)⟩])
 cRet))))), [.cell 8 true 7]⟩
noncomputable def Tryd.ra100040 : C := (cOps [⟨some 11, true, none, iAlloc 128 [(.int .i64 (.lit 0)), (.int .i64 (.lit 0)), (.int .i64 (.lit 0)), (.int .i64 (.lit 0)), (.int .i64 (.lit 0)), (.int .i64 (.lit 0)), (.int .i64 (.lit 0))]⟩,
 ⟨none, false, none, iStore 7 (.t 11) (.t 40)⟩])
noncomputable def Tryd.rb100040 : C := (cBlock 1 (cSeq (cSeq (cOps [⟨some 41, false, none, iLoadN 39 (.t 2)⟩,
 ⟨some 42, false, none, iLoadN 7 (.t 11)⟩,
 ⟨some 43, false, none, iCall (.c (.func (.func 85) [] [])) [(.t 41), (.t 42)]⟩,
 ⟨some 44, false, none, iMov (.t 43)⟩,
 ⟨some 45, false, some (44, false), iFaddr 2 (.t 11)⟩,
 ⟨some 46, false, some (44, false), iLoadN 3 (.t 45)⟩,
 ⟨some 47, false, some (44, false), iLoadN 3 (.t 10)⟩,
 ⟨some 48, false, some (44, false), iEq false true 3 [(0, .int), (1, .int), (2, .int)] (.t 46) (.t 47)⟩,
 ⟨some 49, true, none, iPick (.t 44) (.c (.bool (.lit true))) (.t 48)⟩])
 (cCond (.t 49) (cExit 1) cSkip))
 (cSeq (cOps [⟨some 50, false, none, iFaddr 2 (.t 11)⟩,
 ⟨some 51, false, none, iLoadN 3 (.t 50)⟩,
 ⟨none, false, none, iStore 3 (.t 10) (.t 51)⟩])
 (cSeq (cOps [⟨some 52, false, none, iLoad (.t 4)⟩,
 ⟨some 53, false, none, iFaddr 2 (.t 11)⟩,
 ⟨some 54, false, none, iLoadN 3 (.t 53)⟩,
 ⟨some 55, false, none, iCall (.t 52) [(.t 54)]⟩,
 ⟨some 12, true, none, iAlloc 135 [(.bool (.lit false)), (.int .i64 (.lit 0)), (.int .i64 (.lit 0)), (.int .i64 (.lit 0)), (.int .i64 (.lit 0)), (.int .i64 (.lit 0)), (.int .i64 (.lit 0)), (.int .i64 (.lit 0)), (.int .i64 (.lit 0))]⟩,
 ⟨none, false, none, iStore 9 (.t 12) (.t 55)⟩])
 (cSeq (cOps [⟨some 56, false, none, iFaddr 0 (.t 11)⟩,
 ⟨some 57, false, none, iFaddr 0 (.t 56)⟩,
 ⟨some 58, false, none, iLoad (.t 57)⟩,
 ⟨some 59, false, none, iFaddr 0 (.t 11)⟩,
 ⟨some 60, false, none, iFaddr 1 (.t 59)⟩,
 ⟨some 61, false, none, iLoad (.t 60)⟩,
 ⟨some 62, false, none, iArith .add (.t 58) (.t 61)⟩,
 ⟨some 63, false, none, iFaddr 1 (.t 12)⟩,
 ⟨some 64, false, none, iLoad (.t 63)⟩,
 ⟨some 65, false, none, iArith .add (.t 62) (.t 64)⟩,
 ⟨some 13, true, none, iMov (.t 65)⟩])
 (cSeq (cSeq (cOps [⟨some 66, false, none, iFaddr 0 (.t 12)⟩,
 ⟨some 67, false, none, iLoad (.t 66)⟩,
 ⟨some 68, false, none, iNot (.t 67)⟩,
 ⟨some 69, false, none, iMov (.t 68)⟩,
 ⟨some 70, false, some (69, false), iFaddr 0 (.t 9)⟩,
 ⟨some 71, false, some (69, false), iLoad (.t 70)⟩,
 ⟨some 72, false, some (69, false), iMov (.t 71)⟩,
 ⟨some 73, false, some (72, true), iFaddr 1 (.t 9)⟩,
 ⟨some 74, false, some (72, true), iLoad (.t 73)⟩,
 ⟨some 75, false, some (72, true), iMov (.t 13)⟩,
 ⟨some 76, false, some (72, true), iCmp .leq (.t 74) (.t 75)⟩,
 ⟨some 77, false, some (69, false), iPick (.t 72) (.t 76) (.c (.bool (.lit false)))⟩,
 ⟨some 78, true, none, iPick (.t 69) (.c (.bool (.lit true))) (.t 77)⟩])
 (cCond (.t 78) (cExit 1) cSkip))
 (cOps [⟨some 79, false, none, iMov (.t 13)⟩,
 ⟨some 80, false, none, iLoadN 7 (.t 11)⟩,
 ⟨some 81, false, none, iBuild [(.bool (.lit false)), (.int .i64 (.lit 0)), (.int .i64 (.lit 0)), (.int .i64 (.lit 0)), (.int .i64 (.lit 0)), (.int .i64 (.lit 0)), (.int .i64 (.lit 0)), (.int .i64 (.lit 0)), (.int .i64 (.lit 0))] [(0, 1, (.c (.bool (.lit true)))), (1, 1, (.t 79)), (2, 7, (.t 80))]⟩,
 ⟨none, false, none, iStore 9 (.t 9) (.t 81)⟩])))))))
noncomputable def Tryd.kp100 : List Nat := [0, 1, 2, 3, 4, 5, 6, 7, 8, 9, 10, 11, 12, 13, 20, 28, 39, 40, 49, 78]
noncomputable def Tryd.cf100 : CF := ⟨5, (cSeq (cOps [⟨some 5, true, none, iBox 126 (.t 0)⟩,
 ⟨some 6, true, none, iAlloc 135 [(.bool (.lit false)), (.int .i64 (.lit 0)), (.int .i64 (.lit 0)), (.int .i64 (.lit 0)), (.int .i64 (.lit 0)), (.int .i64 (.lit 0)), (.int .i64 (.lit 0)), (.int .i64 (.lit 0)), (.int .i64 (.lit 0))]⟩])
 (cSeq (cSeq (cOps [⟨some 15, false, none, iLoad (.t 1)⟩,
 ⟨some 16, false, none, iLoadN 3 (.t 5)⟩,
 ⟨some 17, false, none, iLookup (.agg [(.bool (.lit false)), (.int .i64 (.lit 0)), (.int .i64 (.lit 0)), (.int .i64 (.lit 0)), (.int .i64 (.lit 0)), (.int .i64 (.lit 0)), (.int .i64 (.lit 0)), (.int .i64 (.lit 0)), (.int .i64 (.lit 0))]) true 3 [(0, .int), (1, .int), (2, .int)] true (.t 15) (.t 16)⟩,
 ⟨some 14, false, none, iMov (.t 17)⟩,
 ⟨some 18, false, none, iExtract 0 (.t 14)⟩,
 ⟨some 19, false, none, iExtract 1 (.t 14)⟩,
 ⟨some 7, true, none, iAlloc 135 [(.bool (.lit false)), (.int .i64 (.lit 0)), (.int .i64 (.lit 0)), (.int .i64 (.lit 0)), (.int .i64 (.lit 0)), (.int .i64 (.lit 0)), (.int .i64 (.lit 0)), (.int .i64 (.lit 0)), (.int .i64 (.lit 0))]⟩,
 ⟨none, false, none, iStore 9 (.t 7) (.t 18)⟩,
 ⟨some 8, true, none, iMov (.t 19)⟩])
 (cSeq (cOps [⟨some 20, true, none, iMov (.t 8)⟩])
 (cCond (.t 20) (cSeq (cOps [⟨some 21, false, none, iLoadN 9 (.t 7)⟩,
 ⟨none, false, none, iStore 9 (.t 6) (.t 21)⟩])
 cRet) cSkip)))
 (cSeq (cSeq (cOps [⟨some 22, false, none, iFaddr 0 (.t 5)⟩,
 ⟨some 23, false, none, iLoad (.t 22)⟩,
 ⟨some 24, false, none, iFaddr 0 (.t 2)⟩,
 ⟨some 25, false, none, iFaddr 22 (.t 24)⟩,
 ⟨some 26, false, none, iLoad (.t 25)⟩,
 ⟨some 27, false, none, iLenS (.t 26)⟩,
 ⟨some 28, true, none, iCmp .eql (.t 23) (.t 27)⟩])
 (cCond (.t 28) (cSeq (cOps [⟨some 29, false, none, iLoad (.t 1)⟩,
 ⟨some 30, false, none, iLoadN 3 (.t 5)⟩,
 ⟨some 31, false, none, iBuild [(.bool (.lit false)), (.int .i64 (.lit 0)), (.int .i64 (.lit 0)), (.int .i64 (.lit 0)), (.int .i64 (.lit 0)), (.int .i64 (.lit 0)), (.int .i64 (.lit 0)), (.int .i64 (.lit 0)), (.int .i64 (.lit 0))] [(0, 1, (.c (.bool (.lit true))))]⟩,
 ⟨none, false, none, iMapset true 3 [(0, .int), (1, .int), (2, .int)] (.t 29) (.t 30) (.t 31)⟩])
 (cSeq (cOps [⟨some 32, false, none, iLoad (.t 1)⟩,
 ⟨some 33, false, none, iLoadN 3 (.t 5)⟩,
 ⟨some 34, false, none, iLookup (.agg [(.bool (.lit false)), (.int .i64 (.lit 0)), (.int .i64 (.lit 0)), (.int .i64 (.lit 0)), (.int .i64 (.lit 0)), (.int .i64 (.lit 0)), (.int .i64 (.lit 0)), (.int .i64 (.lit 0)), (.int .i64 (.lit 0))]) true 3 [(0, .int), (1, .int), (2, .int)] false (.t 32) (.t 33)⟩,
 ⟨none, false, none, iStore 9 (.t 6) (.t 34)⟩])
 cRet)) cSkip))
 (cSeq (cOps [⟨some 9, true, none, iAlloc 135 [(.bool (.lit false)), (.int .i64 (.lit 0)), (.int .i64 (.lit 0)), (.int .i64 (.lit 0)), (.int .i64 (.lit 0)), (.int .i64 (.lit 0)), (.int .i64 (.lit 0)), (.int .i64 (.lit 0)), (.int .i64 (.lit 0))]⟩])
 (cSeq (cOps [⟨some 35, false, none, iLoadN 3 (.t 5)⟩,
 ⟨some 10, true, none, iAlloc 126 [(.int .i64 (.lit 0)), (.int .i64 (.lit 0)), (.int .i64 (.lit 0))]⟩,
 ⟨none, false, none, iStore 3 (.t 10) (.t 35)⟩])
 (cSeq cSkip
 (cSeq (cSeq (cOps [⟨some 36, false, none, iLoadN 39 (.t 2)⟩,
 ⟨some 37, false, none, iLoadN 3 (.t 5)⟩,
 ⟨some 38, false, none, iLoadN 2 (.t 3)⟩,
 ⟨some 39, true, none, iCall (.c (.func (.func 101) [] [])) [(.t 36), (.t 37), (.t 38)]⟩])
 (cBlock 0 (cRange (.t 39) [40] 100040)))
 (cSeq (cOps [⟨some 82, false, none, iLoad (.t 1)⟩,
 ⟨some 83, false, none, iLoadN 3 (.t 5)⟩,
 ⟨some 84, false, none, iLoadN 9 (.t 9)⟩,
 ⟨none, false, none, iMapset true 3 [(0, .int), (1, .int), (2, .int)] (.t 82) (.t 83) (.t 84)⟩])
 (cSeq (cOps [⟨some 85, false, none, iLoadN 9 (.t 9)⟩,
 ⟨none, false, none, iStore 9 (.t 6) (.t 85)⟩])
 cRet))))))))), [.cell 6 true 9]⟩
noncomputable def Tryd.kp101 : List Nat := [0, 1, 2, 3, 4, 5, 6]
noncomputable def Tryd.cf101 : CF := ⟨3, (cSeq (cOps [⟨some 3, true, none, iBox 78 (.t 0)⟩,
 ⟨some 4, true, none, iBox 126 (.t 1)⟩,
 ⟨some 5, true, none, iBox 118 (.t 2)⟩,
 ⟨some 6, true, none, iMov (.c .nilFunc)⟩])
 (cSeq (cOps [⟨some 7, false, none, iFunc (.func 105) [] [(.t 3), (.t 4), (.t 5)]⟩,
 ⟨some 6, true, none, iMov (.t 7)⟩])
 cRet)), [.t 6]⟩
noncomputable def Tryd.kp103 : List Nat := [0, 1, 4, 6, 7, 8, 9, 10, 15]
noncomputable def Tryd.cf103 : CF := ⟨2, (cSeq (cOps [⟨some 4, true, none, iMov (.c (.int .i64 (.lit 0)))⟩])
 (cSeq (cSeq (cOps [⟨some 7, true, none, iMov (.t 1)⟩,
 ⟨some 8, true, none, iLenS (.t 7)⟩,
 ⟨some 9, true, none, iMov (.c (.int .i64 (.lit 0)))⟩])
 (cBlock 0 (cLoop (cSeq (cOps [⟨some 10, true, none, iCmp .lss (.t 9) (.t 8)⟩])
 (cSeq (cCond (.t 10) cSkip (cExit 0))
 (cSeq (cBlock 1 (cSeq (cOps [⟨some 11, false, none, iIaddr 1 (.t 7) (.t 9)⟩,
 ⟨some 12, false, none, iLoad (.t 11)⟩,
 ⟨some 6, true, none, iMov (.t 12)⟩])
 (cSeq (cOps [⟨some 13, false, none, iMov (.t 6)⟩,
 ⟨some 14, false, none, iMov (.t 0)⟩,
 ⟨some 15, true, none, iCmp .lss (.t 13) (.t 14)⟩])
 (cCond (.t 15) (cOps [⟨some 16, false, none, iMov (.t 6)⟩,
 ⟨some 0, true, none, iMov (.t 16)⟩]) cSkip))))
 (cOps [⟨some 17, false, none, iArith .add (.t 9) (.c (.int .i64 (.lit 1)))⟩,
 ⟨some 9, true, none, iMov (.t 17)⟩])))))))
 (cSeq (cOps [⟨some 18, false, none, iMov (.t 0)⟩,
 ⟨some 4, true, none, iMov (.t 18)⟩])
 cRet))), [.t 4]⟩
noncomputable def Tryd.kp104 : List Nat := [0, 1, 2, 3, 4, 6]
noncomputable def Tryd.cf104 : CF := ⟨2, (cSeq (cOps [⟨some 2, true, none, iBox 75 (.t 0)⟩,
 ⟨some 3, true, none, iBox 66 (.t 1)⟩,
 ⟨some 4, true, none, iAlloc 23 [(.int .i64 (.lit 0)), (.int .i64 (.lit 0))]⟩])
 (cSeq (cSeq (cOps [⟨some 5, false, none, iFaddr 2 (.t 3)⟩,
 ⟨some 6, true, none, iLoad (.t 5)⟩])
 (cCond (.t 6) (cSeq (cOps [⟨some 7, false, none, iFaddr 4 (.t 2)⟩,
 ⟨some 8, false, none, iIaddrA 2 2 (.t 7) (.c (.int .i64 (.lit 1)))⟩,
 ⟨some 9, false, none, iLoadN 2 (.t 8)⟩,
 ⟨none, false, none, iStore 2 (.t 4) (.t 9)⟩])
 cRet) cSkip))
 (cSeq (cOps [⟨some 10, false, none, iFaddr 4 (.t 2)⟩,
 ⟨some 11, false, none, iIaddrA 2 2 (.t 10) (.c (.int .i64 (.lit 0)))⟩,
 ⟨some 12, false, none, iLoadN 2 (.t 11)⟩,
 ⟨none, false, none, iStore 2 (.t 4) (.t 12)⟩])
 cRet))), [.cell 4 true 2]⟩
noncomputable def Tryd.kp105 : List Nat := [0, 1, 2, 3, 5, 6, 7, 17, 18, 19, 24, 25, 26, 37]
noncomputable def Tryd.cf105 : CF := ⟨4, (cSeq (cOps [⟨some 8, false, none, iFaddr 0 (.t 1)⟩,
 ⟨some 9, false, none, iFaddr 22 (.t 8)⟩,
 ⟨some 10, false, none, iLoad (.t 9)⟩,
 ⟨some 11, false, none, iFaddr 0 (.t 2)⟩,
 ⟨some 12, false, none, iLoad (.t 11)⟩,
 ⟨some 13, false, none, iIaddr 4 (.t 10) (.t 12)⟩,
 ⟨some 14, false, none, iFaddr 3 (.t 13)⟩,
 ⟨some 15, false, none, iLoad (.t 14)⟩,
 ⟨some 5, true, none, iMov (.t 15)⟩])
 (cSeq (cOps [⟨some 16, false, none, iMov (.t 5)⟩,
 ⟨some 17, true, none, iArith .add (.t 16) (.c (.int .i64 (.lit 1)))⟩,
 ⟨some 18, true, none, iMov (.c (.int .i64 (.lit 0)))⟩])
 (cBlock 0 (cLoop (cSeq (cOps [⟨some 19, true, none, iCmp .lss (.t 18) (.t 17)⟩])
 (cSeq (cCond (.t 19) cSkip (cExit 0))
 (cSeq (cBlock 1 (cSeq (cOps [⟨some 20, false, none, iMov (.t 18)⟩,
 ⟨some 6, true, none, iMov (.t 20)⟩])
 (cSeq (cOps [⟨some 21, false, none, iMov (.t 5)⟩,
 ⟨some 22, false, none, iMov (.t 6)⟩,
 ⟨some 23, false, none, iArith .sub (.t 21) (.t 22)⟩,
 ⟨some 24, true, none, iArith .add (.t 23) (.c (.int .i64 (.lit 1)))⟩,
 ⟨some 25, true, none, iMov (.c (.int .i64 (.lit 0)))⟩])
 (cBlock 2 (cLoop (cSeq (cOps [⟨some 26, true, none, iCmp .lss (.t 25) (.t 24)⟩])
 (cSeq (cCond (.t 26) cSkip (cExit 2))
 (cSeq (cBlock 3 (cSeq (cOps [⟨some 27, false, none, iMov (.t 25)⟩,
 ⟨some 7, true, none, iMov (.t 27)⟩])
 (cSeq (cOps [⟨some 28, false, none, iMov (.t 0)⟩,
 ⟨some 29, false, none, iLoadN 39 (.t 1)⟩,
 ⟨some 30, false, none, iLoadN 3 (.t 2)⟩,
 ⟨some 31, false, none, iMov (.t 6)⟩,
 ⟨some 32, false, none, iMov (.t 7)⟩,
 ⟨some 33, false, none, iBuild [(.int .i64 (.lit 0)), (.int .i64 (.lit 0))] [(0, 1, (.t 31)), (1, 1, (.t 32))]⟩,
 ⟨some 34, false, none, iLoadN 2 (.t 3)⟩,
 ⟨some 35, false, none, iCall (.c (.func (.func 99) [] [])) [(.t 29), (.t 30), (.t 33), (.t 34)]⟩,
 ⟨some 36, false, none, iCall (.t 28) [(.t 35)]⟩,
 ⟨some 37, true, none, iNot (.t 36)⟩])
 (cCond (.t 37) cRet cSkip))))
 (cOps [⟨some 38, false, none, iArith .add (.t 25) (.c (.int .i64 (.lit 1)))⟩,
 ⟨some 25, true, none, iMov (.t 38)⟩])))))))))
 (cOps [⟨some 39, false, none, iArith .add (.t 18) (.c (.int .i64 (.lit 1)))⟩,
 ⟨some 18, true, none, iMov (.t 39)⟩])))))))), []⟩
noncomputable def Tryd.ft : PT CF := (.node none (.node none (.node (some Tryd.cf3) (.node none (.node (some Tryd.cf15) (.node none (.node (some Tryd.cf63) .nil .nil) (.node (some Tryd.cf95) .nil .nil)) (.node (some Tryd.cf47) (.node (some Tryd.cf79) .nil .nil) .nil)) (.node (some Tryd.cf23) (.node none (.node (some Tryd.cf71) .nil .nil) (.node (some Tryd.cf103) .nil .nil)) (.node (some Tryd.cf55) (.node (some Tryd.cf87) .nil .nil) .nil))) (.node none (.node (some Tryd.cf19) (.node none .nil (.node (some Tryd.cf99) .nil .nil)) (.node (some Tryd.cf51) (.node (some Tryd.cf83) .nil .nil) .nil)) (.node none .nil (.node (some Tryd.cf59) (.node (some Tryd.cf91) .nil .nil) .nil)))) (.node none (.node none (.node (some Tryd.cf17) (.node none (.node (some Tryd.cf65) .nil .nil) (.node (some Tryd.cf97) .nil .nil)) (.node (some Tryd.cf49) (.node (some Tryd.cf81) .nil .nil) .nil)) (.node (some Tryd.cf25) (.node none .nil (.node (some Tryd.cf105) .nil .nil)) (.node (some Tryd.cf57) (.node (some Tryd.cf89) .nil .nil) .nil))) (.node none (.node (some Tryd.cf21) (.node (some Tryd.cf37) .nil (.node (some Tryd.cf101) .nil .nil)) (.node (some Tryd.cf53) (.node (some Tryd.cf85) .nil .nil) .nil)) (.node none (.node (some Tryd.cf45) (.node (some Tryd.cf77) .nil .nil) .nil) (.node (some Tryd.cf61) (.node (some Tryd.cf93) .nil .nil) .nil))))) (.node none (.node none (.node none (.node (some Tryd.cf16) (.node none .nil (.node (some Tryd.cf96) .nil .nil)) (.node (some Tryd.cf48) (.node (some Tryd.cf80) .nil .nil) .nil)) (.node none (.node (some Tryd.cf40) .nil (.node (some Tryd.cf104) .nil .nil)) (.node (some Tryd.cf56) .nil .nil))) (.node none (.node (some Tryd.cf20) (.node none (.node (some Tryd.cf68) .nil .nil) (.node (some Tryd.cf100) .nil .nil)) (.node (some Tryd.cf52) (.node (some Tryd.cf84) .nil .nil) .nil)) (.node (some Tryd.cf28) (.node none (.node (some Tryd.cf76) .nil .nil) .nil) (.node (some Tryd.cf60) .nil .nil)))) (.node none (.node none (.node (some Tryd.cf18) (.node none (.node (some Tryd.cf66) .nil .nil) (.node (some Tryd.cf98) .nil .nil)) (.node (some Tryd.cf50) (.node (some Tryd.cf82) .nil .nil) .nil)) (.node (some Tryd.cf26) .nil (.node (some Tryd.cf58) (.node (some Tryd.cf90) .nil .nil) .nil))) (.node (some Tryd.cf14) (.node none (.node none (.node (some Tryd.cf70) .nil .nil) .nil) (.node (some Tryd.cf54) (.node (some Tryd.cf86) .nil .nil) .nil)) (.node (some Tryd.cf30) (.node (some Tryd.cf46) (.node (some Tryd.cf78) .nil .nil) .nil) (.node none (.node (some Tryd.cf94) .nil .nil) .nil))))))
noncomputable def Tryd.rt : List (Nat × (C × C)) := [(55021, (Tryd.ra55021, Tryd.rb55021)), (55033, (Tryd.ra55033, Tryd.rb55033)), (61017, (Tryd.ra61017, Tryd.rb61017)), (100040, (Tryd.ra100040, Tryd.rb100040))]
end Go.Sx
