/- THE TABLES OF THE PROGRAM: its types, and its functions as the evaluator runs them. -/
import Derived.Test.YtlpencfoibbdeaaDoorSxComp
import Derived.KernelRfl
/-! THE TABLES OF THE PROGRAM: its types, and its functions as the evaluator runs them. -/
namespace Go.Sx
set_option maxRecDepth 100000
noncomputable def Tryd.ti0 : TI := ⟨.tuple #[], 1, 0, none, false⟩
noncomputable def Tryd.ti1 : TI := ⟨.func #[] #[] false, 1, 8, (some .nilFunc), false⟩
noncomputable def Tryd.ti2 : TI := ⟨.int .i64, 1, 8, (some (.int .i64 (.lit 0))), false⟩
noncomputable def Tryd.ti3 : TI := ⟨.int .i64, 1, 8, (some (.int .i64 (.lit 0))), false⟩
noncomputable def Tryd.ti4 : TI := ⟨.bool, 1, 1, (some (.bool (.lit false))), false⟩
noncomputable def Tryd.ti5 : TI := ⟨.int .u8, 1, 1, (some (.int .u8 (.lit 0))), false⟩
noncomputable def Tryd.ti6 : TI := ⟨.int .u8, 1, 1, (some (.int .u8 (.lit 0))), false⟩
noncomputable def Tryd.ti7 : TI := ⟨.struct #[⟨ "x", 2, 0, false, "", "runtime", 0⟩, ⟨ "y", 3, 1, false, "", "runtime", 8⟩, ⟨ "signed", 4, 2, false, "", "runtime", 16⟩, ⟨ "code", 6, 3, false, "", "runtime", 17⟩], 4, 24, (some (.agg [(.int .i64 (.lit 0)), (.int .i64 (.lit 0)), (.bool (.lit false)), (.int .u8 (.lit 0))])), true⟩
noncomputable def Tryd.ti8 : TI := ⟨.struct #[⟨ "x", 2, 0, false, "", "runtime", 0⟩, ⟨ "y", 3, 1, false, "", "runtime", 8⟩, ⟨ "signed", 4, 2, false, "", "runtime", 16⟩, ⟨ "code", 6, 3, false, "", "runtime", 17⟩], 4, 24, (some (.agg [(.int .i64 (.lit 0)), (.int .i64 (.lit 0)), (.bool (.lit false)), (.int .u8 (.lit 0))])), true⟩
noncomputable def Tryd.ti9 : TI := ⟨.string, 1, 16, none, false⟩
noncomputable def Tryd.ti10 : TI := ⟨.string, 1, 16, none, false⟩
noncomputable def Tryd.ti11 : TI := ⟨.string, 1, 16, none, false⟩
noncomputable def Tryd.ti12 : TI := ⟨.int .u64, 1, 8, (some (.int .u64 (.lit 0))), false⟩
noncomputable def Tryd.ti13 : TI := ⟨.struct #[⟨ "msg", 9, 0, false, "", "runtime", 0⟩, ⟨ "addr", 12, 1, false, "", "runtime", 16⟩], 2, 24, none, false⟩
noncomputable def Tryd.ti14 : TI := ⟨.struct #[⟨ "msg", 9, 0, false, "", "runtime", 0⟩, ⟨ "addr", 12, 1, false, "", "runtime", 16⟩], 2, 24, none, false⟩
noncomputable def Tryd.ti15 : TI := ⟨.pointer 172, 1, 8, (some .nilptr), false⟩
noncomputable def Tryd.ti16 : TI := ⟨.pointer 175, 1, 8, (some .nilptr), false⟩
noncomputable def Tryd.ti17 : TI := ⟨.pointer 184, 1, 8, (some .nilptr), false⟩
noncomputable def Tryd.ti18 : TI := ⟨.struct #[⟨ "typ", 17, 0, false, "", "internal/runtime/maps", 0⟩], 1, 8, (some (.agg [.nilptr])), false⟩
noncomputable def Tryd.ti19 : TI := ⟨.struct #[⟨ "typ", 17, 0, false, "", "internal/runtime/maps", 0⟩], 1, 8, (some (.agg [.nilptr])), false⟩
noncomputable def Tryd.ti20 : TI := ⟨.interface #[], 1, 16, none, false⟩
noncomputable def Tryd.ti21 : TI := ⟨.int .i32, 1, 4, (some (.int .i32 (.lit 0))), false⟩
noncomputable def Tryd.ti22 : TI := ⟨.slice 54, 1, 24, (some .nilslice), false⟩
noncomputable def Tryd.ti23 : TI := ⟨.slice 73, 1, 24, (some .nilslice), false⟩
noncomputable def Tryd.ti24 : TI := ⟨.struct #[⟨ "Offices", 22, 0, false, "", "", 0⟩, ⟨ "Trains", 23, 1, false, "", "", 24⟩, ⟨ "Load", 3, 2, false, "", "", 48⟩], 3, 56, (some (.agg [.nilslice, .nilslice, (.int .i64 (.lit 0))])), true⟩
noncomputable def Tryd.ti25 : TI := ⟨.struct #[⟨ "Offices", 22, 0, false, "", "", 0⟩, ⟨ "Trains", 23, 1, false, "", "", 24⟩, ⟨ "Load", 3, 2, false, "", "", 48⟩], 3, 56, (some (.agg [.nilslice, .nilslice, (.int .i64 (.lit 0))])), true⟩
noncomputable def Tryd.ti26 : TI := ⟨.slice 80, 1, 24, (some .nilslice), false⟩
noncomputable def Tryd.ti27 : TI := ⟨.array 3 3, 3, 24, (some (.agg [(.int .i64 (.lit 0)), (.int .i64 (.lit 0)), (.int .i64 (.lit 0))])), true⟩
noncomputable def Tryd.ti28 : TI := ⟨.int .i64, 1, 8, (some (.int .i64 (.lit 0))), false⟩
noncomputable def Tryd.ti29 : TI := ⟨.tuple #[4, 28], 1, 0, none, false⟩
noncomputable def Tryd.ti30 : TI := ⟨.func #[25, 26, 3, 3] #[4, 28] false, 1, 8, (some .nilFunc), false⟩
noncomputable def Tryd.ti31 : TI := ⟨.func #[25] #[28] false, 1, 8, (some .nilFunc), false⟩
noncomputable def Tryd.ti32 : TI := ⟨.tuple #[3, 28], 1, 0, none, false⟩
noncomputable def Tryd.ti33 : TI := ⟨.func #[25, 26, 3] #[3, 28] false, 1, 8, (some .nilFunc), false⟩
noncomputable def Tryd.ti34 : TI := ⟨.slice 3, 1, 24, (some .nilslice), false⟩
noncomputable def Tryd.ti35 : TI := ⟨.tuple #[34, 28], 1, 0, none, false⟩
noncomputable def Tryd.ti36 : TI := ⟨.func #[25, 26, 3] #[34, 28] false, 1, 8, (some .nilFunc), false⟩
noncomputable def Tryd.ti37 : TI := ⟨.func #[34, 34] #[4] false, 1, 8, (some .nilFunc), false⟩
noncomputable def Tryd.ti38 : TI := ⟨.struct #[⟨ "Low", 3, 0, false, "", "", 0⟩, ⟨ "High", 3, 1, false, "", "", 8⟩], 2, 16, (some (.agg [(.int .i64 (.lit 0)), (.int .i64 (.lit 0))])), true⟩
noncomputable def Tryd.ti39 : TI := ⟨.struct #[⟨ "Low", 3, 0, false, "", "", 0⟩, ⟨ "High", 3, 1, false, "", "", 8⟩], 2, 16, (some (.agg [(.int .i64 (.lit 0)), (.int .i64 (.lit 0))])), true⟩
noncomputable def Tryd.ti40 : TI := ⟨.tuple #[39, 28], 1, 0, none, false⟩
noncomputable def Tryd.ti41 : TI := ⟨.func #[25, 26, 3] #[39, 28] false, 1, 8, (some .nilFunc), false⟩
noncomputable def Tryd.ti42 : TI := ⟨.func #[] #[4] false, 1, 8, (some .nilFunc), false⟩
noncomputable def Tryd.ti43 : TI := ⟨.func #[25, 26, 27] #[4] false, 1, 8, (some .nilFunc), false⟩
noncomputable def Tryd.ti44 : TI := ⟨.tuple #[26, 28], 1, 0, none, false⟩
noncomputable def Tryd.ti45 : TI := ⟨.func #[25, 3, 3, 3] #[26, 28] false, 1, 8, (some .nilFunc), false⟩
noncomputable def Tryd.ti46 : TI := ⟨.func #[26, 26] #[4] false, 1, 8, (some .nilFunc), false⟩
noncomputable def Tryd.ti47 : TI := ⟨.func #[25, 3, 3, 3] #[3, 28] false, 1, 8, (some .nilFunc), false⟩
noncomputable def Tryd.ti48 : TI := ⟨.func #[25, 27] #[4] false, 1, 8, (some .nilFunc), false⟩
noncomputable def Tryd.ti49 : TI := ⟨.func #[25, 3, 3] #[34, 28] false, 1, 8, (some .nilFunc), false⟩
noncomputable def Tryd.ti50 : TI := ⟨.func #[25] #[4] false, 1, 8, (some .nilFunc), false⟩
noncomputable def Tryd.ti51 : TI := ⟨.func #[3, 3] #[3] false, 1, 8, (some .nilFunc), false⟩
noncomputable def Tryd.ti52 : TI := ⟨.func #[25, 26, 3, 3] #[4] false, 1, 8, (some .nilFunc), false⟩
noncomputable def Tryd.ti53 : TI := ⟨.func #[54, 3] #[3] false, 1, 8, (some .nilFunc), false⟩
noncomputable def Tryd.ti54 : TI := ⟨.slice 39, 1, 24, (some .nilslice), false⟩
noncomputable def Tryd.ti55 : TI := ⟨.tuple #[3, 3], 1, 0, none, false⟩
noncomputable def Tryd.ti56 : TI := ⟨.func #[25, 26, 3, 34] #[3, 3] false, 1, 8, (some .nilFunc), false⟩
noncomputable def Tryd.ti57 : TI := ⟨.func #[25, 34] #[34] false, 1, 8, (some .nilFunc), false⟩
noncomputable def Tryd.ti58 : TI := ⟨.func #[39, 3] #[4] false, 1, 8, (some .nilFunc), false⟩
noncomputable def Tryd.ti59 : TI := ⟨.tuple #[26, 3, 3], 1, 0, none, false⟩
noncomputable def Tryd.ti60 : TI := ⟨.func #[25, 34] #[26, 3, 3] false, 1, 8, (some .nilFunc), false⟩
noncomputable def Tryd.ti61 : TI := ⟨.func #[25, 27, 34, 34] #[4] false, 1, 8, (some .nilFunc), false⟩
noncomputable def Tryd.ti62 : TI := ⟨.func #[34, 3] #[4] false, 1, 8, (some .nilFunc), false⟩
noncomputable def Tryd.ti63 : TI := ⟨.func #[34, 3] #[3] false, 1, 8, (some .nilFunc), false⟩
noncomputable def Tryd.ti64 : TI := ⟨.func #[25, 34, 3, 34] #[4] false, 1, 8, (some .nilFunc), false⟩
noncomputable def Tryd.ti65 : TI := ⟨.array 4 3, 4, 32, (some (.agg [(.int .i64 (.lit 0)), (.int .i64 (.lit 0)), (.int .i64 (.lit 0)), (.int .i64 (.lit 0))])), true⟩
noncomputable def Tryd.ti66 : TI := ⟨.func #[39, 3] #[3] false, 1, 8, (some .nilFunc), false⟩
noncomputable def Tryd.ti67 : TI := ⟨.func #[3, 3] #[39] false, 1, 8, (some .nilFunc), false⟩
noncomputable def Tryd.ti68 : TI := ⟨.func #[3, 3, 3] #[4] false, 1, 8, (some .nilFunc), false⟩
noncomputable def Tryd.ti69 : TI := ⟨.func #[25, 65] #[4] false, 1, 8, (some .nilFunc), false⟩
noncomputable def Tryd.ti70 : TI := ⟨.array 6 3, 6, 48, (some (.agg [(.int .i64 (.lit 0)), (.int .i64 (.lit 0)), (.int .i64 (.lit 0)), (.int .i64 (.lit 0)), (.int .i64 (.lit 0)), (.int .i64 (.lit 0))])), true⟩
noncomputable def Tryd.ti71 : TI := ⟨.slice 78, 1, 24, (some .nilslice), false⟩
noncomputable def Tryd.ti72 : TI := ⟨.struct #[⟨ "Stops", 71, 0, false, "", "", 0⟩, ⟨ "Late", 39, 1, false, "", "", 24⟩], 3, 40, (some (.agg [.nilslice, (.int .i64 (.lit 0)), (.int .i64 (.lit 0))])), true⟩
noncomputable def Tryd.ti73 : TI := ⟨.struct #[⟨ "Stops", 71, 0, false, "", "", 0⟩, ⟨ "Late", 39, 1, false, "", "", 24⟩], 3, 40, (some (.agg [.nilslice, (.int .i64 (.lit 0)), (.int .i64 (.lit 0))])), true⟩
noncomputable def Tryd.ti74 : TI := ⟨.func #[25, 70, 34] #[4] false, 1, 8, (some .nilFunc), false⟩
noncomputable def Tryd.ti75 : TI := ⟨.func #[] #[25] false, 1, 8, (some .nilFunc), false⟩
noncomputable def Tryd.ti76 : TI := ⟨.slice 25, 1, 24, (some .nilslice), false⟩
noncomputable def Tryd.ti77 : TI := ⟨.struct #[⟨ "Station", 3, 0, false, "", "", 0⟩, ⟨ "Arrive", 3, 1, false, "", "", 8⟩, ⟨ "Leave", 3, 2, false, "", "", 16⟩], 3, 24, (some (.agg [(.int .i64 (.lit 0)), (.int .i64 (.lit 0)), (.int .i64 (.lit 0))])), true⟩
noncomputable def Tryd.ti78 : TI := ⟨.struct #[⟨ "Station", 3, 0, false, "", "", 0⟩, ⟨ "Arrive", 3, 1, false, "", "", 8⟩, ⟨ "Leave", 3, 2, false, "", "", 16⟩], 3, 24, (some (.agg [(.int .i64 (.lit 0)), (.int .i64 (.lit 0)), (.int .i64 (.lit 0))])), true⟩
noncomputable def Tryd.ti79 : TI := ⟨.struct #[⟨ "Train", 3, 0, false, "", "", 0⟩, ⟨ "From", 3, 1, false, "", "", 8⟩, ⟨ "To", 3, 2, false, "", "", 16⟩], 3, 24, (some (.agg [(.int .i64 (.lit 0)), (.int .i64 (.lit 0)), (.int .i64 (.lit 0))])), true⟩
noncomputable def Tryd.ti80 : TI := ⟨.struct #[⟨ "Train", 3, 0, false, "", "", 0⟩, ⟨ "From", 3, 1, false, "", "", 8⟩, ⟨ "To", 3, 2, false, "", "", 16⟩], 3, 24, (some (.agg [(.int .i64 (.lit 0)), (.int .i64 (.lit 0)), (.int .i64 (.lit 0))])), true⟩
noncomputable def Tryd.ti81 : TI := ⟨.func #[3, 3, 3] #[80] false, 1, 8, (some .nilFunc), false⟩
noncomputable def Tryd.ti82 : TI := ⟨.slice 26, 1, 24, (some .nilslice), false⟩
noncomputable def Tryd.ti83 : TI := ⟨.func #[] #[26] false, 1, 8, (some .nilFunc), false⟩
noncomputable def Tryd.ti84 : TI := ⟨.map 80 94, 1, 8, (some .nilmap), false⟩
noncomputable def Tryd.ti85 : TI := ⟨.struct #[⟨ "TrainTable", 25, 0, true, "", "", 0⟩, ⟨ "rides", 84, 3, false, "", "bioscope/train", 56⟩], 4, 64, (some (.agg [.nilslice, .nilslice, (.int .i64 (.lit 0)), .nilmap])), true⟩
noncomputable def Tryd.ti86 : TI := ⟨.struct #[⟨ "TrainTable", 25, 0, true, "", "", 0⟩, ⟨ "rides", 84, 3, false, "", "bioscope/train", 56⟩], 4, 64, (some (.agg [.nilslice, .nilslice, (.int .i64 (.lit 0)), .nilmap])), true⟩
noncomputable def Tryd.ti87 : TI := ⟨.tuple #[86, 28], 1, 0, none, false⟩
noncomputable def Tryd.ti88 : TI := ⟨.func #[25] #[86, 28] false, 1, 8, (some .nilFunc), false⟩
noncomputable def Tryd.ti89 : TI := ⟨.func #[3, 3] #[4] false, 1, 8, (some .nilFunc), false⟩
noncomputable def Tryd.ti90 : TI := ⟨.slice 94, 1, 24, (some .nilslice), false⟩
noncomputable def Tryd.ti91 : TI := ⟨.tuple #[90, 4], 1, 0, none, false⟩
noncomputable def Tryd.ti92 : TI := ⟨.func #[26] #[90, 4] false, 1, 8, (some .nilFunc), false⟩
noncomputable def Tryd.ti93 : TI := ⟨.struct #[⟨ "leg", 80, 0, false, "", "bioscope/train", 0⟩, ⟨ "from", 3, 3, false, "", "bioscope/train", 24⟩, ⟨ "to", 3, 4, false, "", "bioscope/train", 32⟩, ⟨ "leaves", 39, 5, false, "", "bioscope/train", 40⟩, ⟨ "arrives", 39, 7, false, "", "bioscope/train", 56⟩], 9, 72, (some (.agg [(.int .i64 (.lit 0)), (.int .i64 (.lit 0)), (.int .i64 (.lit 0)), (.int .i64 (.lit 0)), (.int .i64 (.lit 0)), (.int .i64 (.lit 0)), (.int .i64 (.lit 0)), (.int .i64 (.lit 0)), (.int .i64 (.lit 0))])), true⟩
noncomputable def Tryd.ti94 : TI := ⟨.struct #[⟨ "leg", 80, 0, false, "", "bioscope/train", 0⟩, ⟨ "from", 3, 3, false, "", "bioscope/train", 24⟩, ⟨ "to", 3, 4, false, "", "bioscope/train", 32⟩, ⟨ "leaves", 39, 5, false, "", "bioscope/train", 40⟩, ⟨ "arrives", 39, 7, false, "", "bioscope/train", 56⟩], 9, 72, (some (.agg [(.int .i64 (.lit 0)), (.int .i64 (.lit 0)), (.int .i64 (.lit 0)), (.int .i64 (.lit 0)), (.int .i64 (.lit 0)), (.int .i64 (.lit 0)), (.int .i64 (.lit 0)), (.int .i64 (.lit 0)), (.int .i64 (.lit 0))])), true⟩
noncomputable def Tryd.ti95 : TI := ⟨.func #[25, 4] #[28] false, 1, 8, (some .nilFunc), false⟩
noncomputable def Tryd.ti96 : TI := ⟨.func #[25, 3, 3] #[4] false, 1, 8, (some .nilFunc), false⟩
noncomputable def Tryd.ti97 : TI := ⟨.tuple #[3, 3, 4], 1, 0, none, false⟩
noncomputable def Tryd.ti98 : TI := ⟨.func #[25, 26] #[3, 3, 4] false, 1, 8, (some .nilFunc), false⟩
noncomputable def Tryd.ti99 : TI := ⟨.func #[39, 3, 3] #[4] false, 1, 8, (some .nilFunc), false⟩
noncomputable def Tryd.ti100 : TI := ⟨.func #[25, 73] #[4] false, 1, 8, (some .nilFunc), false⟩
noncomputable def Tryd.ti101 : TI := ⟨.struct #[⟨ "table", 86, 0, true, "", "bioscope/train", 0⟩, ⟨ "rides", 90, 4, false, "", "bioscope/train", 64⟩, ⟨ "at", 3, 5, false, "", "bioscope/train", 88⟩], 6, 96, (some (.agg [.nilslice, .nilslice, (.int .i64 (.lit 0)), .nilmap, .nilslice, (.int .i64 (.lit 0))])), true⟩
noncomputable def Tryd.ti102 : TI := ⟨.struct #[⟨ "table", 86, 0, true, "", "bioscope/train", 0⟩, ⟨ "rides", 90, 4, false, "", "bioscope/train", 64⟩, ⟨ "at", 3, 5, false, "", "bioscope/train", 88⟩], 6, 96, (some (.agg [.nilslice, .nilslice, (.int .i64 (.lit 0)), .nilmap, .nilslice, (.int .i64 (.lit 0))])), true⟩
noncomputable def Tryd.ti103 : TI := ⟨.tuple #[102, 28], 1, 0, none, false⟩
noncomputable def Tryd.ti104 : TI := ⟨.func #[25, 26, 3] #[102, 28] false, 1, 8, (some .nilFunc), false⟩
noncomputable def Tryd.ti105 : TI := ⟨.func #[] #[3] false, 1, 8, (some .nilFunc), false⟩
noncomputable def Tryd.ti106 : TI := ⟨.func #[25, 26] #[4] false, 1, 8, (some .nilFunc), false⟩
noncomputable def Tryd.ti107 : TI := ⟨.func #[3] #[4] false, 1, 8, (some .nilFunc), false⟩
noncomputable def Tryd.ti108 : TI := ⟨.tuple #[39, 4, 4], 1, 0, none, false⟩
noncomputable def Tryd.ti109 : TI := ⟨.func #[25, 26, 3] #[39, 4, 4] false, 1, 8, (some .nilFunc), false⟩
noncomputable def Tryd.ti110 : TI := ⟨.tuple #[3, 34], 1, 0, none, false⟩
noncomputable def Tryd.ti111 : TI := ⟨.func #[3] #[3, 34] false, 1, 8, (some .nilFunc), false⟩
noncomputable def Tryd.ti112 : TI := ⟨.func #[25, 3, 3] #[3] false, 1, 8, (some .nilFunc), false⟩
noncomputable def Tryd.ti113 : TI := ⟨.func #[25, 80] #[78] false, 1, 8, (some .nilFunc), false⟩
noncomputable def Tryd.ti114 : TI := ⟨.func #[25, 80] #[39] false, 1, 8, (some .nilFunc), false⟩
noncomputable def Tryd.ti115 : TI := ⟨.func #[3] #[3] false, 1, 8, (some .nilFunc), false⟩
noncomputable def Tryd.ti116 : TI := ⟨.func #[25, 26, 3] #[39] false, 1, 8, (some .nilFunc), false⟩
noncomputable def Tryd.ti117 : TI := ⟨.struct #[⟨ "legs", 26, 0, false, "", "bioscope/train", 0⟩, ⟨ "to", 3, 1, false, "", "bioscope/train", 24⟩, ⟨ "there", 3, 2, false, "", "bioscope/train", 32⟩], 3, 40, (some (.agg [.nilslice, (.int .i64 (.lit 0)), (.int .i64 (.lit 0))])), true⟩
noncomputable def Tryd.ti118 : TI := ⟨.struct #[⟨ "legs", 26, 0, false, "", "bioscope/train", 0⟩, ⟨ "to", 3, 1, false, "", "bioscope/train", 24⟩, ⟨ "there", 3, 2, false, "", "bioscope/train", 32⟩], 3, 40, (some (.agg [.nilslice, (.int .i64 (.lit 0)), (.int .i64 (.lit 0))])), true⟩
noncomputable def Tryd.ti119 : TI := ⟨.tuple #[118, 28], 1, 0, none, false⟩
noncomputable def Tryd.ti120 : TI := ⟨.func #[25, 3, 3, 3, 3] #[118, 28] false, 1, 8, (some .nilFunc), false⟩
noncomputable def Tryd.ti121 : TI := ⟨.tuple #[26, 3], 1, 0, none, false⟩
noncomputable def Tryd.ti122 : TI := ⟨.func #[25, 82, 3] #[26, 3] false, 1, 8, (some .nilFunc), false⟩
noncomputable def Tryd.ti123 : TI := ⟨.func #[25, 3, 3] #[82] false, 1, 8, (some .nilFunc), false⟩
noncomputable def Tryd.ti124 : TI := ⟨.func #[3, 3, 3] #[3, 28] false, 1, 8, (some .nilFunc), false⟩
noncomputable def Tryd.ti125 : TI := ⟨.func #[3, 3] #[34] false, 1, 8, (some .nilFunc), false⟩
noncomputable def Tryd.ti126 : TI := ⟨.func #[25, 3] #[4] false, 1, 8, (some .nilFunc), false⟩
noncomputable def Tryd.ti127 : TI := ⟨.func #[39] #[4] false, 1, 8, (some .nilFunc), false⟩
noncomputable def Tryd.ti128 : TI := ⟨.func #[3, 3, 3] #[78] false, 1, 8, (some .nilFunc), false⟩
noncomputable def Tryd.ti129 : TI := ⟨.func #[73, 80] #[94] false, 1, 8, (some .nilFunc), false⟩
noncomputable def Tryd.ti130 : TI := ⟨.array 6 4, 6, 6, (some (.agg [(.bool (.lit false)), (.bool (.lit false)), (.bool (.lit false)), (.bool (.lit false)), (.bool (.lit false)), (.bool (.lit false))])), true⟩
noncomputable def Tryd.ti131 : TI := ⟨.array 6 4, 6, 6, (some (.agg [(.bool (.lit false)), (.bool (.lit false)), (.bool (.lit false)), (.bool (.lit false)), (.bool (.lit false)), (.bool (.lit false))])), true⟩
noncomputable def Tryd.ti132 : TI := ⟨.tuple #[94, 4], 1, 0, none, false⟩
noncomputable def Tryd.ti133 : TI := ⟨.func #[3, 39] #[4] false, 1, 8, (some .nilFunc), false⟩
noncomputable def Tryd.ti134 : TI := ⟨.array 3 39, 6, 48, (some (.agg [(.int .i64 (.lit 0)), (.int .i64 (.lit 0)), (.int .i64 (.lit 0)), (.int .i64 (.lit 0)), (.int .i64 (.lit 0)), (.int .i64 (.lit 0))])), true⟩
noncomputable def Tryd.ti135 : TI := ⟨.func #[54] #[4] false, 1, 8, (some .nilFunc), false⟩
noncomputable def Tryd.ti136 : TI := ⟨.func #[73] #[4] false, 1, 8, (some .nilFunc), false⟩
noncomputable def Tryd.ti137 : TI := ⟨.func #[71, 3] #[4] false, 1, 8, (some .nilFunc), false⟩
noncomputable def Tryd.ti138 : TI := ⟨.array 2 3, 2, 16, (some (.agg [(.int .i64 (.lit 0)), (.int .i64 (.lit 0))])), true⟩
noncomputable def Tryd.ti139 : TI := ⟨.func #[94, 3] #[3, 4] false, 1, 8, (some .nilFunc), false⟩
noncomputable def Tryd.ti140 : TI := ⟨.func #[94, 3] #[3, 4] false, 1, 8, (some .nilFunc), false⟩
noncomputable def Tryd.ti141 : TI := ⟨.array 3 140, 3, 24, (some (.agg [.nilFunc, .nilFunc, .nilFunc])), true⟩
noncomputable def Tryd.ti142 : TI := ⟨.func #[] #[141] false, 1, 8, (some .nilFunc), false⟩
noncomputable def Tryd.ti143 : TI := ⟨.tuple #[3, 4], 1, 0, none, false⟩
noncomputable def Tryd.ti144 : TI := ⟨.func #[3, 3, 3, 3] #[118, 28] false, 1, 8, (some .nilFunc), false⟩
noncomputable def Tryd.ti145 : TI := ⟨.func #[25, 3] #[82] false, 1, 8, (some .nilFunc), false⟩
noncomputable def Tryd.ti146 : TI := ⟨.func #[118] #[3] false, 1, 8, (some .nilFunc), false⟩
noncomputable def Tryd.ti147 : TI := ⟨.func #[118, 118] #[4] false, 1, 8, (some .nilFunc), false⟩
noncomputable def Tryd.ti148 : TI := ⟨.tuple #[118, 4], 1, 0, none, false⟩
noncomputable def Tryd.ti149 : TI := ⟨.func #[151] #[118, 4] false, 1, 8, (some .nilFunc), false⟩
noncomputable def Tryd.ti150 : TI := ⟨.struct #[⟨ "surely", 3, 0, false, "", "bioscope/train", 0⟩, ⟨ "from", 3, 1, false, "", "bioscope/train", 8⟩, ⟨ "to", 3, 2, false, "", "bioscope/train", 16⟩, ⟨ "loaded", 3, 3, false, "", "bioscope/train", 24⟩, ⟨ "thereBy", 3, 4, false, "", "bioscope/train", 32⟩, ⟨ "better", 147, 5, false, "", "bioscope/train", 40⟩], 6, 48, (some (.agg [(.int .i64 (.lit 0)), (.int .i64 (.lit 0)), (.int .i64 (.lit 0)), (.int .i64 (.lit 0)), (.int .i64 (.lit 0)), .nilFunc])), true⟩
noncomputable def Tryd.ti151 : TI := ⟨.struct #[⟨ "surely", 3, 0, false, "", "bioscope/train", 0⟩, ⟨ "from", 3, 1, false, "", "bioscope/train", 8⟩, ⟨ "to", 3, 2, false, "", "bioscope/train", 16⟩, ⟨ "loaded", 3, 3, false, "", "bioscope/train", 24⟩, ⟨ "thereBy", 3, 4, false, "", "bioscope/train", 32⟩, ⟨ "better", 147, 5, false, "", "bioscope/train", 40⟩], 6, 48, (some (.agg [(.int .i64 (.lit 0)), (.int .i64 (.lit 0)), (.int .i64 (.lit 0)), (.int .i64 (.lit 0)), (.int .i64 (.lit 0)), .nilFunc])), true⟩
noncomputable def Tryd.ti152 : TI := ⟨.func #[54, 127] #[4] false, 1, 8, (some .nilFunc), false⟩
noncomputable def Tryd.ti153 : TI := ⟨.int .i64, 1, 8, (some (.int .i64 (.lit 0))), false⟩
noncomputable def Tryd.ti154 : TI := ⟨.func #[3] #[3, 4] false, 1, 8, (some .nilFunc), false⟩
noncomputable def Tryd.ti155 : TI := ⟨.func #[3, 34] #[3] true, 1, 8, (some .nilFunc), false⟩
noncomputable def Tryd.ti156 : TI := ⟨.func #[25] #[26] false, 1, 8, (some .nilFunc), false⟩
noncomputable def Tryd.ti157 : TI := ⟨.func #[162] #[] false, 1, 8, (some .nilFunc), false⟩
noncomputable def Tryd.ti158 : TI := ⟨.func #[162] #[] false, 1, 8, (some .nilFunc), false⟩
noncomputable def Tryd.ti159 : TI := ⟨.func #[151] #[158] false, 1, 8, (some .nilFunc), false⟩
noncomputable def Tryd.ti160 : TI := ⟨.func #[26] #[26] false, 1, 8, (some .nilFunc), false⟩
noncomputable def Tryd.ti161 : TI := ⟨.func #[54, 127] #[3] false, 1, 8, (some .nilFunc), false⟩
noncomputable def Tryd.ti162 : TI := ⟨.func #[118] #[4] false, 1, 8, (some .nilFunc), false⟩
noncomputable def Tryd.ti163 : TI := ⟨.array 4 80, 12, 96, (some (.agg [(.int .i64 (.lit 0)), (.int .i64 (.lit 0)), (.int .i64 (.lit 0)), (.int .i64 (.lit 0)), (.int .i64 (.lit 0)), (.int .i64 (.lit 0)), (.int .i64 (.lit 0)), (.int .i64 (.lit 0)), (.int .i64 (.lit 0)), (.int .i64 (.lit 0)), (.int .i64 (.lit 0)), (.int .i64 (.lit 0))])), true⟩
noncomputable def Tryd.ti164 : TI := ⟨.func #[168] #[] false, 1, 8, (some .nilFunc), false⟩
noncomputable def Tryd.ti165 : TI := ⟨.func #[168] #[] false, 1, 8, (some .nilFunc), false⟩
noncomputable def Tryd.ti166 : TI := ⟨.func #[3, 131] #[165] false, 1, 8, (some .nilFunc), false⟩
noncomputable def Tryd.ti167 : TI := ⟨.func #[80, 80] #[3] false, 1, 8, (some .nilFunc), false⟩
noncomputable def Tryd.ti168 : TI := ⟨.func #[94] #[4] false, 1, 8, (some .nilFunc), false⟩
noncomputable def Tryd.ti169 : TI := ⟨.func #[34] #[3] true, 1, 8, (some .nilFunc), false⟩
noncomputable def Tryd.ti170 : TI := ⟨.func #[] #[9] false, 1, 8, (some .nilFunc), false⟩
noncomputable def Tryd.ti171 : TI := ⟨.struct #[⟨ "_interface", 17, 0, false, "", "runtime", 0⟩, ⟨ "concrete", 17, 1, false, "", "runtime", 8⟩, ⟨ "asserted", 17, 2, false, "", "runtime", 16⟩, ⟨ "missingMethod", 9, 3, false, "", "runtime", 24⟩], 4, 40, none, false⟩
noncomputable def Tryd.ti172 : TI := ⟨.struct #[⟨ "_interface", 17, 0, false, "", "runtime", 0⟩, ⟨ "concrete", 17, 1, false, "", "runtime", 8⟩, ⟨ "asserted", 17, 2, false, "", "runtime", 16⟩, ⟨ "missingMethod", 9, 3, false, "", "runtime", 24⟩], 4, 40, none, false⟩
noncomputable def Tryd.ti173 : TI := ⟨.array 0 16, 0, 0, (some (.agg [])), true⟩
noncomputable def Tryd.ti174 : TI := ⟨.struct #[⟨ "_", 173, 0, false, "", "runtime", 0⟩], 0, 0, (some (.agg [])), false⟩
noncomputable def Tryd.ti175 : TI := ⟨.struct #[⟨ "_", 173, 0, false, "", "runtime", 0⟩], 0, 0, (some (.agg [])), false⟩
noncomputable def Tryd.ti176 : TI := ⟨.int .u32, 1, 4, (some (.int .u32 (.lit 0))), false⟩
noncomputable def Tryd.ti177 : TI := ⟨.int .u8, 1, 1, (some (.int .u8 (.lit 0))), false⟩
noncomputable def Tryd.ti178 : TI := ⟨.int .u8, 1, 1, (some (.int .u8 (.lit 0))), false⟩
noncomputable def Tryd.ti179 : TI := ⟨.func #[185, 185] #[4] false, 1, 8, (some .nilFunc), false⟩
noncomputable def Tryd.ti180 : TI := ⟨.pointer 5, 1, 8, (some .nilptr), false⟩
noncomputable def Tryd.ti181 : TI := ⟨.int .i32, 1, 4, (some (.int .i32 (.lit 0))), false⟩
noncomputable def Tryd.ti182 : TI := ⟨.int .i32, 1, 4, (some (.int .i32 (.lit 0))), false⟩
noncomputable def Tryd.ti183 : TI := ⟨.struct #[⟨ "Size_", 12, 0, false, "", "", 0⟩, ⟨ "PtrBytes", 12, 1, false, "", "", 8⟩, ⟨ "Hash", 176, 2, false, "", "", 16⟩, ⟨ "TFlag", 177, 3, false, "", "", 20⟩, ⟨ "Align_", 5, 4, false, "", "", 21⟩, ⟨ "FieldAlign_", 5, 5, false, "", "", 22⟩, ⟨ "Kind_", 178, 6, false, "", "", 23⟩, ⟨ "Equal", 179, 7, false, "", "", 24⟩, ⟨ "GCData", 180, 8, false, "", "", 32⟩, ⟨ "Str", 181, 9, false, "", "", 40⟩, ⟨ "PtrToThis", 182, 10, false, "", "", 44⟩], 11, 48, (some (.agg [(.int .u64 (.lit 0)), (.int .u64 (.lit 0)), (.int .u32 (.lit 0)), (.int .u8 (.lit 0)), (.int .u8 (.lit 0)), (.int .u8 (.lit 0)), (.int .u8 (.lit 0)), .nilFunc, .nilptr, (.int .i32 (.lit 0)), (.int .i32 (.lit 0))])), false⟩
noncomputable def Tryd.ti184 : TI := ⟨.struct #[⟨ "Size_", 12, 0, false, "", "", 0⟩, ⟨ "PtrBytes", 12, 1, false, "", "", 8⟩, ⟨ "Hash", 176, 2, false, "", "", 16⟩, ⟨ "TFlag", 177, 3, false, "", "", 20⟩, ⟨ "Align_", 5, 4, false, "", "", 21⟩, ⟨ "FieldAlign_", 5, 5, false, "", "", 22⟩, ⟨ "Kind_", 178, 6, false, "", "", 23⟩, ⟨ "Equal", 179, 7, false, "", "", 24⟩, ⟨ "GCData", 180, 8, false, "", "", 32⟩, ⟨ "Str", 181, 9, false, "", "", 40⟩, ⟨ "PtrToThis", 182, 10, false, "", "", 44⟩], 11, 48, (some (.agg [(.int .u64 (.lit 0)), (.int .u64 (.lit 0)), (.int .u32 (.lit 0)), (.int .u8 (.lit 0)), (.int .u8 (.lit 0)), (.int .u8 (.lit 0)), (.int .u8 (.lit 0)), .nilFunc, .nilptr, (.int .i32 (.lit 0)), (.int .i32 (.lit 0))])), false⟩
noncomputable def Tryd.tt : PT TI := (.node (some Tryd.ti0) (.node (some Tryd.ti1) (.node (some Tryd.ti3) (.node (some Tryd.ti7) (.node (some Tryd.ti15) (.node (some Tryd.ti31) (.node (some Tryd.ti63) (.node (some Tryd.ti127) .nil .nil) .nil) (.node (some Tryd.ti95) (.node (some Tryd.ti159) .nil .nil) .nil)) (.node (some Tryd.ti47) (.node (some Tryd.ti79) (.node (some Tryd.ti143) .nil .nil) .nil) (.node (some Tryd.ti111) (.node (some Tryd.ti175) .nil .nil) .nil))) (.node (some Tryd.ti23) (.node (some Tryd.ti39) (.node (some Tryd.ti71) (.node (some Tryd.ti135) .nil .nil) .nil) (.node (some Tryd.ti103) (.node (some Tryd.ti167) .nil .nil) .nil)) (.node (some Tryd.ti55) (.node (some Tryd.ti87) (.node (some Tryd.ti151) .nil .nil) .nil) (.node (some Tryd.ti119) (.node (some Tryd.ti183) .nil .nil) .nil)))) (.node (some Tryd.ti11) (.node (some Tryd.ti19) (.node (some Tryd.ti35) (.node (some Tryd.ti67) (.node (some Tryd.ti131) .nil .nil) .nil) (.node (some Tryd.ti99) (.node (some Tryd.ti163) .nil .nil) .nil)) (.node (some Tryd.ti51) (.node (some Tryd.ti83) (.node (some Tryd.ti147) .nil .nil) .nil) (.node (some Tryd.ti115) (.node (some Tryd.ti179) .nil .nil) .nil))) (.node (some Tryd.ti27) (.node (some Tryd.ti43) (.node (some Tryd.ti75) (.node (some Tryd.ti139) .nil .nil) .nil) (.node (some Tryd.ti107) (.node (some Tryd.ti171) .nil .nil) .nil)) (.node (some Tryd.ti59) (.node (some Tryd.ti91) (.node (some Tryd.ti155) .nil .nil) .nil) (.node (some Tryd.ti123) .nil .nil))))) (.node (some Tryd.ti5) (.node (some Tryd.ti9) (.node (some Tryd.ti17) (.node (some Tryd.ti33) (.node (some Tryd.ti65) (.node (some Tryd.ti129) .nil .nil) .nil) (.node (some Tryd.ti97) (.node (some Tryd.ti161) .nil .nil) .nil)) (.node (some Tryd.ti49) (.node (some Tryd.ti81) (.node (some Tryd.ti145) .nil .nil) .nil) (.node (some Tryd.ti113) (.node (some Tryd.ti177) .nil .nil) .nil))) (.node (some Tryd.ti25) (.node (some Tryd.ti41) (.node (some Tryd.ti73) (.node (some Tryd.ti137) .nil .nil) .nil) (.node (some Tryd.ti105) (.node (some Tryd.ti169) .nil .nil) .nil)) (.node (some Tryd.ti57) (.node (some Tryd.ti89) (.node (some Tryd.ti153) .nil .nil) .nil) (.node (some Tryd.ti121) (.node none .nil .nil) .nil)))) (.node (some Tryd.ti13) (.node (some Tryd.ti21) (.node (some Tryd.ti37) (.node (some Tryd.ti69) (.node (some Tryd.ti133) .nil .nil) .nil) (.node (some Tryd.ti101) (.node (some Tryd.ti165) .nil .nil) .nil)) (.node (some Tryd.ti53) (.node (some Tryd.ti85) (.node (some Tryd.ti149) .nil .nil) .nil) (.node (some Tryd.ti117) (.node (some Tryd.ti181) .nil .nil) .nil))) (.node (some Tryd.ti29) (.node (some Tryd.ti45) (.node (some Tryd.ti77) (.node (some Tryd.ti141) .nil .nil) .nil) (.node (some Tryd.ti109) (.node (some Tryd.ti173) .nil .nil) .nil)) (.node (some Tryd.ti61) (.node (some Tryd.ti93) (.node (some Tryd.ti157) .nil .nil) .nil) (.node (some Tryd.ti125) .nil .nil)))))) (.node (some Tryd.ti2) (.node (some Tryd.ti4) (.node (some Tryd.ti8) (.node (some Tryd.ti16) (.node (some Tryd.ti32) (.node (some Tryd.ti64) (.node (some Tryd.ti128) .nil .nil) .nil) (.node (some Tryd.ti96) (.node (some Tryd.ti160) .nil .nil) .nil)) (.node (some Tryd.ti48) (.node (some Tryd.ti80) (.node (some Tryd.ti144) .nil .nil) .nil) (.node (some Tryd.ti112) (.node (some Tryd.ti176) .nil .nil) .nil))) (.node (some Tryd.ti24) (.node (some Tryd.ti40) (.node (some Tryd.ti72) (.node (some Tryd.ti136) .nil .nil) .nil) (.node (some Tryd.ti104) (.node (some Tryd.ti168) .nil .nil) .nil)) (.node (some Tryd.ti56) (.node (some Tryd.ti88) (.node (some Tryd.ti152) .nil .nil) .nil) (.node (some Tryd.ti120) (.node (some Tryd.ti184) .nil .nil) .nil)))) (.node (some Tryd.ti12) (.node (some Tryd.ti20) (.node (some Tryd.ti36) (.node (some Tryd.ti68) (.node (some Tryd.ti132) .nil .nil) .nil) (.node (some Tryd.ti100) (.node (some Tryd.ti164) .nil .nil) .nil)) (.node (some Tryd.ti52) (.node (some Tryd.ti84) (.node (some Tryd.ti148) .nil .nil) .nil) (.node (some Tryd.ti116) (.node (some Tryd.ti180) .nil .nil) .nil))) (.node (some Tryd.ti28) (.node (some Tryd.ti44) (.node (some Tryd.ti76) (.node (some Tryd.ti140) .nil .nil) .nil) (.node (some Tryd.ti108) (.node (some Tryd.ti172) .nil .nil) .nil)) (.node (some Tryd.ti60) (.node (some Tryd.ti92) (.node (some Tryd.ti156) .nil .nil) .nil) (.node (some Tryd.ti124) .nil .nil))))) (.node (some Tryd.ti6) (.node (some Tryd.ti10) (.node (some Tryd.ti18) (.node (some Tryd.ti34) (.node (some Tryd.ti66) (.node (some Tryd.ti130) .nil .nil) .nil) (.node (some Tryd.ti98) (.node (some Tryd.ti162) .nil .nil) .nil)) (.node (some Tryd.ti50) (.node (some Tryd.ti82) (.node (some Tryd.ti146) .nil .nil) .nil) (.node (some Tryd.ti114) (.node (some Tryd.ti178) .nil .nil) .nil))) (.node (some Tryd.ti26) (.node (some Tryd.ti42) (.node (some Tryd.ti74) (.node (some Tryd.ti138) .nil .nil) .nil) (.node (some Tryd.ti106) (.node (some Tryd.ti170) .nil .nil) .nil)) (.node (some Tryd.ti58) (.node (some Tryd.ti90) (.node (some Tryd.ti154) .nil .nil) .nil) (.node (some Tryd.ti122) .nil .nil)))) (.node (some Tryd.ti14) (.node (some Tryd.ti22) (.node (some Tryd.ti38) (.node (some Tryd.ti70) (.node (some Tryd.ti134) .nil .nil) .nil) (.node (some Tryd.ti102) (.node (some Tryd.ti166) .nil .nil) .nil)) (.node (some Tryd.ti54) (.node (some Tryd.ti86) (.node (some Tryd.ti150) .nil .nil) .nil) (.node (some Tryd.ti118) (.node (some Tryd.ti182) .nil .nil) .nil))) (.node (some Tryd.ti30) (.node (some Tryd.ti46) (.node (some Tryd.ti78) (.node (some Tryd.ti142) .nil .nil) .nil) (.node (some Tryd.ti110) (.node (some Tryd.ti174) .nil .nil) .nil)) (.node (some Tryd.ti62) (.node (some Tryd.ti94) (.node (some Tryd.ti158) .nil .nil) .nil) (.node (some Tryd.ti126) .nil .nil)))))))
noncomputable def Tryd.kp11 : List Nat := [0, 1, 2, 4, 6, 8, 10, 12, 14, 16, 18, 20, 21, 22, 23, 24, 26, 28, 30, 32, 34, 36, 38, 40, 42, 44, 45, 46, 47, 48, 49,
 50, 51, 52, 53, 54, 55, 56, 57, 58, 59, 60, 61, 62, 159, 275, 296, 351, 414, 469]
noncomputable def Tryd.cf11 : CF := ⟨0, (cSeq (cOps [⟨some 0, true, none, iMov (.c (.bool (.lit false)))⟩])
 (cSeq (cOps [⟨some 63, false, none, iBuild [.nilslice, .nilslice, (.int .i64 (.lit 0))] []⟩,
 ⟨some 64, false, none, iCall (.c (.func (.func 48) [] [])) []⟩,
 ⟨some 65, false, none, iCall (.c (.func (.func 48) [] [])) []⟩,
 ⟨some 66, false, none, iCall (.c (.func (.func 48) [] [])) []⟩,
 ⟨some 67, false, none, iCall (.c (.func (.func 48) [] [])) []⟩,
 ⟨some 68, false, none, iCall (.c (.func (.func 48) [] [])) []⟩,
 ⟨some 69, false, none, iCall (.c (.func (.func 48) [] [])) []⟩,
 ⟨some 70, false, none, iCall (.c (.func (.func 48) [] [])) []⟩,
 ⟨some 71, false, none, iCall (.c (.func (.func 48) [] [])) []⟩,
 ⟨some 72, false, none, iCall (.c (.func (.func 48) [] [])) []⟩,
 ⟨some 73, false, none, iCall (.c (.func (.func 48) [] [])) []⟩,
 ⟨some 74, false, none, iCall (.c (.func (.func 48) [] [])) []⟩,
 ⟨some 75, false, none, iBslice 25 [.nilslice, .nilslice, (.int .i64 (.lit 0))] 12 [(0, 3, (.t 63)), (3, 3, (.t 64)), (6, 3, (.t 65)), (9, 3, (.t 66)), (12, 3, (.t 67)), (15, 3, (.t 68)), (18, 3, (.t 69)), (21, 3, (.t 70)), (24, 3, (.t 71)), (27, 3, (.t 72)), (30, 3, (.t 73)), (33, 3, (.t 74))]⟩,
 ⟨some 1, true, none, iMov (.t 75)⟩])
 (cSeq (cOps [⟨some 76, false, none, iMov (.t 1)⟩,
 ⟨some 77, false, none, iMkslice 54 [.nilslice] 24 (.c (.int .i64 (.lit 7))) (.c (.int .i64 (.lit 7)))⟩,
 ⟨some 78, false, none, iIaddr 3 (.t 76) (.c (.int .i64 (.lit 1)))⟩,
 ⟨some 79, false, none, iFaddr 0 (.t 78)⟩,
 ⟨none, false, none, iStore 1 (.t 79) (.t 77)⟩])
 (cSeq (dOps 0 [⟨⟨some 80, false, none, iMov (.t 1)⟩, [1], false, 0, 3, none, []⟩,
 ⟨⟨some 81, false, none, iIaddr 3 (.t 80) (.c (.int .i64 (.lit 2)))⟩, [80], false, 0, 3, none, []⟩,
 ⟨⟨some 82, false, none, iFaddr 0 (.t 81)⟩, [81], false, 0, 3, none, []⟩,
 ⟨⟨some 83, false, none, iLoad (.t 82)⟩, [82], false, 0, 3, none, []⟩,
 ⟨⟨some 84, false, none, iCall (.c (.func (.func 46) [] [])) [(.c (.int .i64 (.lit 0))), (.c (.int .i64 (.lit 1)))]⟩, [], true, 0, 0, none, []⟩,
 ⟨⟨some 85, false, none, iCall (.c (.func (.func 46) [] [])) [(.c (.int .i64 (.lit 1))), (.c (.int .i64 (.lit 2)))]⟩, [], true, 1, 0, none, []⟩,
 ⟨⟨some 86, false, none, iBslice 39 [(.int .i64 (.lit 0)), (.int .i64 (.lit 0))] 2 [(0, 2, (.t 84)), (2, 2, (.t 85))]⟩, [84, 85], true, 2, 0, none, []⟩,
 ⟨⟨some 87, false, none, iIaddr 1 (.t 83) (.c (.int .i64 (.lit 0)))⟩, [83], false, 3, 3, none, []⟩,
 ⟨⟨none, false, none, iStore 1 (.t 87) (.t 86)⟩, [87, 86], true, 3, 0, none, []⟩])
 (cSeq (dOps 0 [⟨⟨some 88, false, none, iMov (.t 1)⟩, [1], false, 0, 2, none, []⟩,
 ⟨⟨some 89, false, none, iIaddr 3 (.t 88) (.c (.int .i64 (.lit 3)))⟩, [88], false, 0, 2, none, []⟩,
 ⟨⟨some 90, false, none, iFaddr 0 (.t 89)⟩, [89], false, 0, 2, none, []⟩,
 ⟨⟨some 91, false, none, iLoad (.t 90)⟩, [90], false, 0, 2, none, []⟩,
 ⟨⟨some 92, false, none, iCall (.c (.func (.func 46) [] [])) [(.c (.int .i64 (.lit 0))), (.c (.int .i64 (.lit 2880)))]⟩, [], true, 0, 0, none, []⟩,
 ⟨⟨some 93, false, none, iBslice 39 [(.int .i64 (.lit 0)), (.int .i64 (.lit 0))] 1 [(0, 2, (.t 92))]⟩, [92], true, 1, 0, none, []⟩,
 ⟨⟨some 94, false, none, iIaddr 1 (.t 91) (.c (.int .i64 (.lit 0)))⟩, [91], false, 2, 2, none, []⟩,
 ⟨⟨none, false, none, iStore 1 (.t 94) (.t 93)⟩, [94, 93], true, 2, 0, none, []⟩])
 (cSeq (dOps 0 [⟨⟨some 95, false, none, iMov (.t 1)⟩, [1], false, 0, 1, none, []⟩,
 ⟨⟨some 96, false, none, iIaddr 3 (.t 95) (.c (.int .i64 (.lit 4)))⟩, [95], false, 0, 1, none, []⟩,
 ⟨⟨some 97, false, none, iFaddr 0 (.t 96)⟩, [96], false, 0, 1, none, []⟩,
 ⟨⟨some 98, false, none, iLoad (.t 97)⟩, [97], false, 0, 1, none, []⟩,
 ⟨⟨some 99, false, none, iMkslice 39 [(.int .i64 (.lit 0)), (.int .i64 (.lit 0))] 16 (.c (.int .i64 (.lit 4))) (.c (.int .i64 (.lit 4)))⟩, [], true, 0, 0, none, []⟩,
 ⟨⟨some 100, false, none, iIaddr 1 (.t 98) (.c (.int .i64 (.lit 0)))⟩, [98], false, 1, 1, none, []⟩,
 ⟨⟨none, false, none, iStore 1 (.t 100) (.t 99)⟩, [100, 99], true, 1, 0, none, []⟩])
 (cSeq (cOps [⟨some 101, false, none, iMov (.t 1)⟩,
 ⟨some 102, false, none, iIaddr 3 (.t 101) (.c (.int .i64 (.lit 5)))⟩,
 ⟨some 103, false, none, iFaddr 2 (.t 102)⟩,
 ⟨none, false, none, iStore 1 (.t 103) (.c (.int .i64 (.lit 61)))⟩])
 (cSeq (cOps [⟨some 104, false, none, iMov (.t 1)⟩,
 ⟨some 105, false, none, iMkslice 73 [.nilslice, (.int .i64 (.lit 0)), (.int .i64 (.lit 0))] 40 (.c (.int .i64 (.lit 7))) (.c (.int .i64 (.lit 7)))⟩,
 ⟨some 106, false, none, iIaddr 3 (.t 104) (.c (.int .i64 (.lit 6)))⟩,
 ⟨some 107, false, none, iFaddr 1 (.t 106)⟩,
 ⟨none, false, none, iStore 1 (.t 107) (.t 105)⟩])
 (cSeq (dOps 0 [⟨⟨some 108, false, none, iMov (.t 1)⟩, [1], false, 0, 1, none, []⟩,
 ⟨⟨some 109, false, none, iIaddr 3 (.t 108) (.c (.int .i64 (.lit 7)))⟩, [108], false, 0, 1, none, []⟩,
 ⟨⟨some 110, false, none, iFaddr 1 (.t 109)⟩, [109], false, 0, 1, none, []⟩,
 ⟨⟨some 111, false, none, iLoad (.t 110)⟩, [110], false, 0, 1, none, []⟩,
 ⟨⟨some 112, false, none, iCall (.c (.func (.func 46) [] [])) [(.c (.int .i64 (.lit 0))), (.c (.int .i64 (.lit 91)))]⟩, [], true, 0, 0, none, []⟩,
 ⟨⟨some 113, false, none, iIaddr 3 (.t 111) (.c (.int .i64 (.lit 0)))⟩, [111], false, 1, 1, none, []⟩,
 ⟨⟨some 114, false, none, iFaddr 1 (.t 113)⟩, [113], false, 1, 1, none, []⟩,
 ⟨⟨none, false, none, iStore 2 (.t 114) (.t 112)⟩, [114, 112], true, 1, 0, none, []⟩])
 (cSeq (dOps 0 [⟨⟨some 115, false, none, iMov (.t 1)⟩, [1], false, 0, 0, none, []⟩,
 ⟨⟨some 116, false, none, iIaddr 3 (.t 115) (.c (.int .i64 (.lit 8)))⟩, [115], false, 0, 0, none, []⟩,
 ⟨⟨some 117, false, none, iFaddr 1 (.t 116)⟩, [116], false, 0, 0, none, []⟩,
 ⟨⟨some 118, false, none, iLoad (.t 117)⟩, [117], false, 0, 0, none, []⟩,
 ⟨⟨some 119, false, none, iMov (.t 1)⟩, [1], false, 0, 0, none, []⟩,
 ⟨⟨some 120, false, none, iIaddr 3 (.t 119) (.c (.int .i64 (.lit 8)))⟩, [119], false, 0, 0, none, []⟩,
 ⟨⟨some 121, false, none, iFaddr 1 (.t 120)⟩, [120], false, 0, 0, none, []⟩,
 ⟨⟨some 122, false, none, iLoad (.t 121)⟩, [121], false, 0, 0, none, []⟩,
 ⟨⟨some 123, false, none, iIaddr 3 (.t 122) (.c (.int .i64 (.lit 0)))⟩, [122], false, 0, 0, none, []⟩,
 ⟨⟨some 124, false, none, iFaddr 0 (.t 123)⟩, [123], false, 0, 0, none, []⟩,
 ⟨⟨some 125, false, none, iLoad (.t 124)⟩, [124], false, 0, 0, none, []⟩,
 ⟨⟨some 126, false, none, iSlice 3 (.t 125) none (some (.c (.int .i64 (.lit 1)))) none⟩, [125], false, 0, 0, none, []⟩,
 ⟨⟨some 127, false, none, iIaddr 3 (.t 118) (.c (.int .i64 (.lit 0)))⟩, [118], false, 0, 0, none, []⟩,
 ⟨⟨some 128, false, none, iFaddr 0 (.t 127)⟩, [127], false, 0, 0, none, []⟩,
 ⟨⟨none, false, none, iStore 1 (.t 128) (.t 126)⟩, [128, 126], true, 0, 0, none, []⟩])
 (cSeq (cOps [⟨some 129, false, none, iMov (.t 1)⟩,
 ⟨some 130, false, none, iIaddr 3 (.t 129) (.c (.int .i64 (.lit 9)))⟩,
 ⟨some 131, false, none, iFaddr 1 (.t 130)⟩,
 ⟨some 132, false, none, iLoad (.t 131)⟩,
 ⟨some 133, false, none, iIaddr 3 (.t 132) (.c (.int .i64 (.lit 0)))⟩,
 ⟨some 134, false, none, iFaddr 0 (.t 133)⟩,
 ⟨some 135, false, none, iLoad (.t 134)⟩,
 ⟨some 136, false, none, iIaddr 3 (.t 135) (.c (.int .i64 (.lit 1)))⟩,
 ⟨some 137, false, none, iFaddr 1 (.t 136)⟩,
 ⟨none, false, none, iStore 1 (.t 137) (.c (.int .i64 (.lit 500)))⟩])
 (cSeq (cOps [⟨some 138, false, none, iMov (.t 1)⟩,
 ⟨some 139, false, none, iIaddr 3 (.t 138) (.c (.int .i64 (.lit 10)))⟩,
 ⟨some 140, false, none, iFaddr 1 (.t 139)⟩,
 ⟨some 141, false, none, iLoad (.t 140)⟩,
 ⟨some 142, false, none, iIaddr 3 (.t 141) (.c (.int .i64 (.lit 0)))⟩,
 ⟨some 143, false, none, iFaddr 0 (.t 142)⟩,
 ⟨some 144, false, none, iLoad (.t 143)⟩,
 ⟨some 145, false, none, iIaddr 3 (.t 144) (.c (.int .i64 (.lit 1)))⟩,
 ⟨some 146, false, none, iFaddr 2 (.t 145)⟩,
 ⟨none, false, none, iStore 1 (.t 146) (.c (.int .i64 (.lit 559)))⟩])
 (cSeq (cOps [⟨some 147, false, none, iMov (.t 1)⟩,
 ⟨some 148, false, none, iIaddr 3 (.t 147) (.c (.int .i64 (.lit 11)))⟩,
 ⟨some 149, false, none, iFaddr 1 (.t 148)⟩,
 ⟨some 150, false, none, iLoad (.t 149)⟩,
 ⟨some 151, false, none, iIaddr 3 (.t 150) (.c (.int .i64 (.lit 0)))⟩,
 ⟨some 152, false, none, iFaddr 0 (.t 151)⟩,
 ⟨some 153, false, none, iLoad (.t 152)⟩,
 ⟨some 154, false, none, iIaddr 3 (.t 153) (.c (.int .i64 (.lit 2)))⟩,
 ⟨some 155, false, none, iFaddr 0 (.t 154)⟩,
 ⟨none, false, none, iStore 1 (.t 155) (.c (.int .i64 (.lit 3)))⟩])
 (cSeq (cSeq (cOps [⟨some 2, true, none, iMov (.c (.int .i64 (.lit 0)))⟩])
 (cBlock 0 (cLoop (cSeq (cSeq (cOps [⟨some 156, false, none, iMov (.t 2)⟩,
 ⟨some 157, false, none, iMov (.t 1)⟩,
 ⟨some 158, false, none, iLenS (.t 157)⟩,
 ⟨some 159, true, none, iCmp .lss (.t 156) (.t 158)⟩])
 (cCond (.t 159) cSkip (cExit 0)))
 (cSeq (cBlock 1 (cSeq (cOps [⟨some 163, false, none, iMov (.t 1)⟩,
 ⟨some 164, false, none, iMov (.t 2)⟩,
 ⟨some 165, false, none, iIaddr 3 (.t 163) (.t 164)⟩,
 ⟨some 166, false, none, iLoadN 3 (.t 165)⟩,
 ⟨some 167, false, none, iCall (.c (.func (.func 12) [] [])) [(.t 166), (.c .nilslice), (.c (.int .i64 (.lit 0))), (.c (.int .i64 (.lit 0)))]⟩,
 ⟨some 162, false, none, iMov (.t 167)⟩,
 ⟨some 168, false, none, iExtract 0 (.t 162)⟩,
 ⟨some 169, false, none, iExtract 1 (.t 162)⟩,
 ⟨some 3, false, none, iMov (.t 168)⟩,
 ⟨some 4, true, none, iMov (.t 169)⟩])
 (cSeq (cOps [⟨some 171, false, none, iMov (.t 1)⟩,
 ⟨some 172, false, none, iMov (.t 2)⟩,
 ⟨some 173, false, none, iIaddr 3 (.t 171) (.t 172)⟩,
 ⟨some 174, false, none, iLoadN 3 (.t 173)⟩,
 ⟨some 175, false, none, iCall (.c (.func (.func 16) [] [])) [(.t 174), (.c .nilslice), (.c (.int .i64 (.lit (-1))))]⟩,
 ⟨some 170, false, none, iMov (.t 175)⟩,
 ⟨some 176, false, none, iExtract 0 (.t 170)⟩,
 ⟨some 177, false, none, iExtract 1 (.t 170)⟩,
 ⟨some 5, false, none, iMov (.t 176)⟩,
 ⟨some 6, true, none, iMov (.t 177)⟩])
 (cSeq (cOps [⟨some 179, false, none, iMov (.t 1)⟩,
 ⟨some 180, false, none, iMov (.t 2)⟩,
 ⟨some 181, false, none, iIaddr 3 (.t 179) (.t 180)⟩,
 ⟨some 182, false, none, iLoadN 3 (.t 181)⟩,
 ⟨some 183, false, none, iCall (.c (.func (.func 18) [] [])) [(.t 182), (.c .nilslice), (.c (.int .i64 (.lit (-1))))]⟩,
 ⟨some 178, false, none, iMov (.t 183)⟩,
 ⟨some 184, false, none, iExtract 0 (.t 178)⟩,
 ⟨some 185, false, none, iExtract 1 (.t 178)⟩,
 ⟨some 7, false, none, iMov (.t 184)⟩,
 ⟨some 8, true, none, iMov (.t 185)⟩])
 (cSeq (cOps [⟨some 187, false, none, iMov (.t 1)⟩,
 ⟨some 188, false, none, iMov (.t 2)⟩,
 ⟨some 189, false, none, iIaddr 3 (.t 187) (.t 188)⟩,
 ⟨some 190, false, none, iLoadN 3 (.t 189)⟩,
 ⟨some 191, false, none, iCall (.c (.func (.func 21) [] [])) [(.t 190), (.c .nilslice), (.c (.int .i64 (.lit (-1))))]⟩,
 ⟨some 186, false, none, iMov (.t 191)⟩,
 ⟨some 192, false, none, iExtract 0 (.t 186)⟩,
 ⟨some 193, false, none, iExtract 1 (.t 186)⟩,
 ⟨some 9, false, none, iAlloc 39 [(.int .i64 (.lit 0)), (.int .i64 (.lit 0))]⟩,
 ⟨none, false, none, iStore 2 (.t 9) (.t 192)⟩,
 ⟨some 10, true, none, iMov (.t 193)⟩])
 (cSeq (cOps [⟨some 195, false, none, iMov (.t 1)⟩,
 ⟨some 196, false, none, iMov (.t 2)⟩,
 ⟨some 197, false, none, iIaddr 3 (.t 195) (.t 196)⟩,
 ⟨some 198, false, none, iLoadN 3 (.t 197)⟩,
 ⟨some 199, false, none, iCall (.c (.func (.func 24) [] [])) [(.t 198), (.c (.int .i64 (.lit 0))), (.c (.int .i64 (.lit 0))), (.c (.int .i64 (.lit (-1))))]⟩,
 ⟨some 194, false, none, iMov (.t 199)⟩,
 ⟨some 200, false, none, iExtract 0 (.t 194)⟩,
 ⟨some 201, false, none, iExtract 1 (.t 194)⟩,
 ⟨some 11, false, none, iMov (.t 200)⟩,
 ⟨some 12, true, none, iMov (.t 201)⟩])
 (cSeq (cOps [⟨some 203, false, none, iMov (.t 1)⟩,
 ⟨some 204, false, none, iMov (.t 2)⟩,
 ⟨some 205, false, none, iIaddr 3 (.t 203) (.t 204)⟩,
 ⟨some 206, false, none, iLoadN 3 (.t 205)⟩,
 ⟨some 207, false, none, iCall (.c (.func (.func 27) [] [])) [(.t 206), (.c (.int .i64 (.lit 0))), (.c (.int .i64 (.lit 0))), (.c (.int .i64 (.lit (-1))))]⟩,
 ⟨some 202, false, none, iMov (.t 207)⟩,
 ⟨some 208, false, none, iExtract 0 (.t 202)⟩,
 ⟨some 209, false, none, iExtract 1 (.t 202)⟩,
 ⟨some 13, false, none, iMov (.t 208)⟩,
 ⟨some 14, true, none, iMov (.t 209)⟩])
 (cSeq (cOps [⟨some 211, false, none, iMov (.t 1)⟩,
 ⟨some 212, false, none, iMov (.t 2)⟩,
 ⟨some 213, false, none, iIaddr 3 (.t 211) (.t 212)⟩,
 ⟨some 214, false, none, iLoadN 3 (.t 213)⟩,
 ⟨some 215, false, none, iCall (.c (.func (.func 29) [] [])) [(.t 214), (.c (.int .i64 (.lit 0))), (.c (.int .i64 (.lit 0))), (.c (.int .i64 (.lit (-1))))]⟩,
 ⟨some 210, false, none, iMov (.t 215)⟩,
 ⟨some 216, false, none, iExtract 0 (.t 210)⟩,
 ⟨some 217, false, none, iExtract 1 (.t 210)⟩,
 ⟨some 15, false, none, iMov (.t 216)⟩,
 ⟨some 16, true, none, iMov (.t 217)⟩])
 (cSeq (cOps [⟨some 219, false, none, iMov (.t 1)⟩,
 ⟨some 220, false, none, iMov (.t 2)⟩,
 ⟨some 221, false, none, iIaddr 3 (.t 219) (.t 220)⟩,
 ⟨some 222, false, none, iLoadN 3 (.t 221)⟩,
 ⟨some 223, false, none, iCall (.c (.func (.func 31) [] [])) [(.t 222), (.c (.int .i64 (.lit 0))), (.c (.int .i64 (.lit 0))), (.c (.int .i64 (.lit (-1))))]⟩,
 ⟨some 218, false, none, iMov (.t 223)⟩,
 ⟨some 224, false, none, iExtract 0 (.t 218)⟩,
 ⟨some 225, false, none, iExtract 1 (.t 218)⟩,
 ⟨some 17, false, none, iMov (.t 224)⟩,
 ⟨some 18, true, none, iMov (.t 225)⟩])
 (cSeq (cOps [⟨some 227, false, none, iMov (.t 1)⟩,
 ⟨some 228, false, none, iMov (.t 2)⟩,
 ⟨some 229, false, none, iIaddr 3 (.t 227) (.t 228)⟩,
 ⟨some 230, false, none, iLoadN 3 (.t 229)⟩,
 ⟨some 231, false, none, iCall (.c (.func (.func 33) [] [])) [(.t 230), (.c (.int .i64 (.lit (-1)))), (.c (.int .i64 (.lit (-1))))]⟩,
 ⟨some 226, false, none, iMov (.t 231)⟩,
 ⟨some 232, false, none, iExtract 0 (.t 226)⟩,
 ⟨some 233, false, none, iExtract 1 (.t 226)⟩,
 ⟨some 19, false, none, iMov (.t 232)⟩,
 ⟨some 20, true, none, iMov (.t 233)⟩])
 (cSeq (cOps [⟨some 234, false, none, iMov (.t 1)⟩,
 ⟨some 235, false, none, iMov (.t 2)⟩,
 ⟨some 236, false, none, iIaddr 3 (.t 234) (.t 235)⟩,
 ⟨some 237, false, none, iLoadN 3 (.t 236)⟩,
 ⟨some 238, false, none, iCall (.c (.func (.func 14) [] [])) [(.t 237)]⟩,
 ⟨some 239, false, none, iCmp .neq (.t 238) (.c (.int .i64 (.lit 30)))⟩,
 ⟨some 240, false, none, iMov (.t 239)⟩,
 ⟨some 241, false, some (240, false), iMov (.t 4)⟩,
 ⟨some 242, false, some (240, false), iCmp .neq (.t 241) (.c (.int .i64 (.lit 30)))⟩,
 ⟨some 243, false, none, iPick (.t 240) (.c (.bool (.lit true))) (.t 242)⟩,
 ⟨some 244, false, none, iMov (.t 243)⟩,
 ⟨some 245, false, some (244, false), iMov (.t 6)⟩,
 ⟨some 246, false, some (244, false), iCmp .neq (.t 245) (.c (.int .i64 (.lit 30)))⟩,
 ⟨some 247, false, none, iPick (.t 244) (.c (.bool (.lit true))) (.t 246)⟩,
 ⟨some 248, false, none, iMov (.t 247)⟩,
 ⟨some 249, false, some (248, false), iMov (.t 8)⟩,
 ⟨some 250, false, some (248, false), iCmp .neq (.t 249) (.c (.int .i64 (.lit 30)))⟩,
 ⟨some 251, false, none, iPick (.t 248) (.c (.bool (.lit true))) (.t 250)⟩,
 ⟨some 252, false, none, iMov (.t 251)⟩,
 ⟨some 253, false, some (252, false), iMov (.t 10)⟩,
 ⟨some 254, false, some (252, false), iCmp .neq (.t 253) (.c (.int .i64 (.lit 30)))⟩,
 ⟨some 255, false, none, iPick (.t 252) (.c (.bool (.lit true))) (.t 254)⟩,
 ⟨some 256, false, none, iMov (.t 255)⟩,
 ⟨some 257, false, some (256, false), iMov (.t 12)⟩,
 ⟨some 258, false, some (256, false), iCmp .neq (.t 257) (.c (.int .i64 (.lit 30)))⟩,
 ⟨some 259, false, none, iPick (.t 256) (.c (.bool (.lit true))) (.t 258)⟩,
 ⟨some 260, false, none, iMov (.t 259)⟩,
 ⟨some 261, false, some (260, false), iMov (.t 14)⟩,
 ⟨some 262, false, some (260, false), iCmp .neq (.t 261) (.c (.int .i64 (.lit 30)))⟩,
 ⟨some 263, false, none, iPick (.t 260) (.c (.bool (.lit true))) (.t 262)⟩,
 ⟨some 264, false, none, iMov (.t 263)⟩,
 ⟨some 265, false, some (264, false), iMov (.t 16)⟩,
 ⟨some 266, false, some (264, false), iCmp .neq (.t 265) (.c (.int .i64 (.lit 30)))⟩,
 ⟨some 267, false, none, iPick (.t 264) (.c (.bool (.lit true))) (.t 266)⟩,
 ⟨some 268, false, none, iMov (.t 267)⟩,
 ⟨some 269, false, some (268, false), iMov (.t 18)⟩,
 ⟨some 270, false, some (268, false), iCmp .neq (.t 269) (.c (.int .i64 (.lit 30)))⟩,
 ⟨some 271, false, none, iPick (.t 268) (.c (.bool (.lit true))) (.t 270)⟩,
 ⟨some 272, false, none, iMov (.t 271)⟩,
 ⟨some 273, false, some (272, false), iMov (.t 20)⟩,
 ⟨some 274, false, some (272, false), iCmp .neq (.t 273) (.c (.int .i64 (.lit 30)))⟩,
 ⟨some 275, true, none, iPick (.t 272) (.c (.bool (.lit true))) (.t 274)⟩])
 (cCond (.t 275) (cSeq (cOps [⟨some 0, true, none, iMov (.c (.bool (.lit false)))⟩])
 cRet) cSkip))))))))))))
 (cOps [⟨some 160, false, none, iMov (.t 2)⟩,
 ⟨some 161, false, none, iArith .add (.t 160) (.c (.int .i64 (.lit 1)))⟩,
 ⟨some 2, true, none, iMov (.t 161)⟩]))))))
 (cSeq (cOps [⟨some 276, false, none, iCall (.c (.func (.func 49) [] [])) [(.c (.int .i64 (.lit 4))), (.c (.int .i64 (.lit 0))), (.c (.int .i64 (.lit 1)))]⟩,
 ⟨some 277, false, none, iBslice 80 [(.int .i64 (.lit 0)), (.int .i64 (.lit 0)), (.int .i64 (.lit 0))] 1 [(0, 3, (.t 276))]⟩,
 ⟨some 278, false, none, iCall (.c (.func (.func 49) [] [])) [(.c (.int .i64 (.lit 0))), (.c (.int .i64 (.lit 1))), (.c (.int .i64 (.lit 1)))]⟩,
 ⟨some 279, false, none, iBslice 80 [(.int .i64 (.lit 0)), (.int .i64 (.lit 0)), (.int .i64 (.lit 0))] 1 [(0, 3, (.t 278))]⟩,
 ⟨some 280, false, none, iCall (.c (.func (.func 49) [] [])) [(.c (.int .i64 (.lit 0))), (.c (.int .i64 (.lit 0))), (.c (.int .i64 (.lit 3)))]⟩,
 ⟨some 281, false, none, iBslice 80 [(.int .i64 (.lit 0)), (.int .i64 (.lit 0)), (.int .i64 (.lit 0))] 1 [(0, 3, (.t 280))]⟩,
 ⟨some 282, false, none, iCall (.c (.func (.func 49) [] [])) [(.c (.int .i64 (.lit 0))), (.c (.int .i64 (.lit (-1)))), (.c (.int .i64 (.lit 1)))]⟩,
 ⟨some 283, false, none, iBslice 80 [(.int .i64 (.lit 0)), (.int .i64 (.lit 0)), (.int .i64 (.lit 0))] 1 [(0, 3, (.t 282))]⟩,
 ⟨some 284, false, none, iCall (.c (.func (.func 49) [] [])) [(.c (.int .i64 (.lit 0))), (.c (.int .i64 (.lit 0))), (.c (.int .i64 (.lit 1)))]⟩,
 ⟨some 285, false, none, iCall (.c (.func (.func 49) [] [])) [(.c (.int .i64 (.lit 2))), (.c (.int .i64 (.lit 0))), (.c (.int .i64 (.lit 1)))]⟩,
 ⟨some 286, false, none, iBslice 80 [(.int .i64 (.lit 0)), (.int .i64 (.lit 0)), (.int .i64 (.lit 0))] 2 [(0, 3, (.t 284)), (3, 3, (.t 285))]⟩,
 ⟨some 287, false, none, iCall (.c (.func (.func 49) [] [])) [(.c (.int .i64 (.lit 0))), (.c (.int .i64 (.lit 0))), (.c (.int .i64 (.lit 1)))]⟩,
 ⟨some 288, false, none, iCall (.c (.func (.func 49) [] [])) [(.c (.int .i64 (.lit 0))), (.c (.int .i64 (.lit 1))), (.c (.int .i64 (.lit 2)))]⟩,
 ⟨some 289, false, none, iBslice 80 [(.int .i64 (.lit 0)), (.int .i64 (.lit 0)), (.int .i64 (.lit 0))] 2 [(0, 3, (.t 287)), (3, 3, (.t 288))]⟩,
 ⟨some 290, false, none, iCall (.c (.func (.func 49) [] [])) [(.c (.int .i64 (.lit 0))), (.c (.int .i64 (.lit 2))), (.c (.int .i64 (.lit 1)))]⟩,
 ⟨some 291, false, none, iBslice 80 [(.int .i64 (.lit 0)), (.int .i64 (.lit 0)), (.int .i64 (.lit 0))] 1 [(0, 3, (.t 290))]⟩,
 ⟨some 292, false, none, iBslice 26 [.nilslice] 8 [(0, 1, (.c .nilslice)), (1, 1, (.t 277)), (2, 1, (.t 279)), (3, 1, (.t 281)), (4, 1, (.t 283)), (5, 1, (.t 286)), (6, 1, (.t 289)), (7, 1, (.t 291))]⟩,
 ⟨some 21, true, none, iMov (.t 292)⟩])
 (cSeq (cSeq (cOps [⟨some 22, true, none, iMov (.c (.int .i64 (.lit 0)))⟩])
 (cBlock 2 (cLoop (cSeq (cSeq (cOps [⟨some 293, false, none, iMov (.t 22)⟩,
 ⟨some 294, false, none, iMov (.t 21)⟩,
 ⟨some 295, false, none, iLenS (.t 294)⟩,
 ⟨some 296, true, none, iCmp .lss (.t 293) (.t 295)⟩])
 (cCond (.t 296) cSkip (cExit 2)))
 (cSeq (cBlock 3 (cSeq (dOps 0 [⟨⟨some 300, false, none, iCall (.c (.func (.func 48) [] [])) []⟩, [], true, 0, 0, none, []⟩,
 ⟨⟨some 301, false, none, iMov (.t 21)⟩, [21], false, 0, 1, none, []⟩,
 ⟨⟨some 302, false, none, iMov (.t 22)⟩, [22], false, 0, 1, none, []⟩,
 ⟨⟨some 303, false, none, iIaddr 1 (.t 301) (.t 302)⟩, [301, 302], false, 0, 1, none, []⟩,
 ⟨⟨some 304, false, none, iLoad (.t 303)⟩, [303], false, 0, 1, none, []⟩,
 ⟨⟨some 305, false, none, iCall (.c (.func (.func 12) [] [])) [(.t 300), (.t 304), (.c (.int .i64 (.lit 0))), (.c (.int .i64 (.lit 2)))]⟩, [300, 304], true, 1, 0, none, []⟩,
 ⟨⟨some 299, false, none, iMov (.t 305)⟩, [305], false, 2, 2, none, []⟩,
 ⟨⟨some 306, false, none, iExtract 0 (.t 299)⟩, [299], false, 2, 2, none, []⟩,
 ⟨⟨some 307, false, none, iExtract 1 (.t 299)⟩, [299], false, 2, 2, none, []⟩,
 ⟨⟨some 23, true, none, iMov (.t 306)⟩, [306], false, 2, 2, none, []⟩,
 ⟨⟨some 24, true, none, iMov (.t 307)⟩, [307], false, 2, 2, none, []⟩])
 (cSeq (dOps 0 [⟨⟨some 309, false, none, iCall (.c (.func (.func 48) [] [])) []⟩, [], true, 0, 0, none, []⟩,
 ⟨⟨some 310, false, none, iMov (.t 21)⟩, [21], false, 0, 1, none, []⟩,
 ⟨⟨some 311, false, none, iMov (.t 22)⟩, [22], false, 0, 1, none, []⟩,
 ⟨⟨some 312, false, none, iIaddr 1 (.t 310) (.t 311)⟩, [310, 311], false, 0, 1, none, []⟩,
 ⟨⟨some 313, false, none, iLoad (.t 312)⟩, [312], false, 0, 1, none, []⟩,
 ⟨⟨some 314, false, none, iCall (.c (.func (.func 16) [] [])) [(.t 309), (.t 313), (.c (.int .i64 (.lit 480)))]⟩, [309, 313], true, 1, 0, none, []⟩,
 ⟨⟨some 308, false, none, iMov (.t 314)⟩, [314], false, 2, 2, none, []⟩,
 ⟨⟨some 315, false, none, iExtract 0 (.t 308)⟩, [308], false, 2, 2, none, []⟩,
 ⟨⟨some 316, false, none, iExtract 1 (.t 308)⟩, [308], false, 2, 2, none, []⟩,
 ⟨⟨some 25, false, none, iMov (.t 315)⟩, [315], false, 2, 2, none, []⟩,
 ⟨⟨some 26, true, none, iMov (.t 316)⟩, [316], false, 2, 2, none, []⟩])
 (cSeq (dOps 0 [⟨⟨some 318, false, none, iCall (.c (.func (.func 48) [] [])) []⟩, [], true, 0, 0, none, []⟩,
 ⟨⟨some 319, false, none, iMov (.t 21)⟩, [21], false, 0, 1, none, []⟩,
 ⟨⟨some 320, false, none, iMov (.t 22)⟩, [22], false, 0, 1, none, []⟩,
 ⟨⟨some 321, false, none, iIaddr 1 (.t 319) (.t 320)⟩, [319, 320], false, 0, 1, none, []⟩,
 ⟨⟨some 322, false, none, iLoad (.t 321)⟩, [321], false, 0, 1, none, []⟩,
 ⟨⟨some 323, false, none, iCall (.c (.func (.func 18) [] [])) [(.t 318), (.t 322), (.c (.int .i64 (.lit 480)))]⟩, [318, 322], true, 1, 0, none, []⟩,
 ⟨⟨some 317, false, none, iMov (.t 323)⟩, [323], false, 2, 2, none, []⟩,
 ⟨⟨some 324, false, none, iExtract 0 (.t 317)⟩, [317], false, 2, 2, none, []⟩,
 ⟨⟨some 325, false, none, iExtract 1 (.t 317)⟩, [317], false, 2, 2, none, []⟩,
 ⟨⟨some 27, false, none, iMov (.t 324)⟩, [324], false, 2, 2, none, []⟩,
 ⟨⟨some 28, true, none, iMov (.t 325)⟩, [325], false, 2, 2, none, []⟩])
 (cSeq (dOps 1 [⟨⟨some 327, false, none, iCall (.c (.func (.func 48) [] [])) []⟩, [], true, 0, 0, none, []⟩,
 ⟨⟨some 328, false, none, iMov (.t 21)⟩, [21], false, 0, 1, none, []⟩,
 ⟨⟨some 329, false, none, iMov (.t 22)⟩, [22], false, 0, 1, none, []⟩,
 ⟨⟨some 330, false, none, iIaddr 1 (.t 328) (.t 329)⟩, [328, 329], false, 0, 1, none, []⟩,
 ⟨⟨some 331, false, none, iLoad (.t 330)⟩, [330], false, 0, 1, none, []⟩,
 ⟨⟨some 332, false, none, iCall (.c (.func (.func 21) [] [])) [(.t 327), (.t 331), (.c (.int .i64 (.lit 480)))]⟩, [327, 331], true, 1, 0, none, []⟩,
 ⟨⟨some 326, false, none, iMov (.t 332)⟩, [332], false, 2, 2, none, []⟩,
 ⟨⟨some 333, false, none, iExtract 0 (.t 326)⟩, [326], false, 2, 2, none, []⟩,
 ⟨⟨some 334, false, none, iExtract 1 (.t 326)⟩, [326], false, 2, 3, none, []⟩,
 ⟨⟨some 29, false, none, iAlloc 39 [(.int .i64 (.lit 0)), (.int .i64 (.lit 0))]⟩, [], false, 0, 3, (some (flAlloc [(.int .i64 (.lit 0)), (.int .i64 (.lit 0))], .ptr, 0)), []⟩,
 ⟨⟨none, false, none, iStore 2 (.t 29) (.t 333)⟩, [29, 333], true, 2, 0, none, [0]⟩,
 ⟨⟨some 30, true, none, iMov (.t 334)⟩, [334], false, 3, 3, none, []⟩])
 (cSeq (cOps [⟨some 335, false, none, iMov (.t 23)⟩,
 ⟨some 336, false, none, iMov (.t 335)⟩,
 ⟨some 337, false, some (336, false), iMov (.t 24)⟩,
 ⟨some 338, false, some (336, false), iCmp .neq (.t 337) (.c (.int .i64 (.lit 0)))⟩,
 ⟨some 339, false, none, iPick (.t 336) (.c (.bool (.lit true))) (.t 338)⟩,
 ⟨some 340, false, none, iMov (.t 339)⟩,
 ⟨some 341, false, some (340, false), iMov (.t 26)⟩,
 ⟨some 342, false, some (340, false), iCmp .neq (.t 341) (.c (.int .i64 (.lit 31)))⟩,
 ⟨some 343, false, none, iPick (.t 340) (.c (.bool (.lit true))) (.t 342)⟩,
 ⟨some 344, false, none, iMov (.t 343)⟩,
 ⟨some 345, false, some (344, false), iMov (.t 28)⟩,
 ⟨some 346, false, some (344, false), iCmp .neq (.t 345) (.c (.int .i64 (.lit 31)))⟩,
 ⟨some 347, false, none, iPick (.t 344) (.c (.bool (.lit true))) (.t 346)⟩,
 ⟨some 348, false, none, iMov (.t 347)⟩,
 ⟨some 349, false, some (348, false), iMov (.t 30)⟩,
 ⟨some 350, false, some (348, false), iCmp .neq (.t 349) (.c (.int .i64 (.lit 31)))⟩,
 ⟨some 351, true, none, iPick (.t 348) (.c (.bool (.lit true))) (.t 350)⟩])
 (cCond (.t 351) (cSeq (cOps [⟨some 0, true, none, iMov (.c (.bool (.lit false)))⟩])
 cRet) cSkip)))))))
 (cOps [⟨some 297, false, none, iMov (.t 22)⟩,
 ⟨some 298, false, none, iArith .add (.t 297) (.c (.int .i64 (.lit 1)))⟩,
 ⟨some 22, true, none, iMov (.t 298)⟩]))))))
 (cSeq (cOps [⟨some 353, false, none, iCall (.c (.func (.func 48) [] [])) []⟩,
 ⟨some 354, false, none, iCall (.c (.func (.func 50) [] [])) []⟩,
 ⟨some 355, false, none, iCall (.c (.func (.func 12) [] [])) [(.t 353), (.t 354), (.c (.int .i64 (.lit 0))), (.c (.int .i64 (.lit 0)))]⟩,
 ⟨some 352, false, none, iMov (.t 355)⟩,
 ⟨some 356, false, none, iExtract 0 (.t 352)⟩,
 ⟨some 357, false, none, iExtract 1 (.t 352)⟩,
 ⟨some 31, false, none, iMov (.t 356)⟩,
 ⟨some 32, true, none, iMov (.t 357)⟩])
 (cSeq (cOps [⟨some 359, false, none, iCall (.c (.func (.func 48) [] [])) []⟩,
 ⟨some 360, false, none, iCall (.c (.func (.func 50) [] [])) []⟩,
 ⟨some 361, false, none, iCall (.c (.func (.func 16) [] [])) [(.t 359), (.t 360), (.c (.int .i64 (.lit 2880)))]⟩,
 ⟨some 358, false, none, iMov (.t 361)⟩,
 ⟨some 362, false, none, iExtract 0 (.t 358)⟩,
 ⟨some 363, false, none, iExtract 1 (.t 358)⟩,
 ⟨some 33, false, none, iMov (.t 362)⟩,
 ⟨some 34, true, none, iMov (.t 363)⟩])
 (cSeq (cOps [⟨some 365, false, none, iCall (.c (.func (.func 48) [] [])) []⟩,
 ⟨some 366, false, none, iCall (.c (.func (.func 24) [] [])) [(.t 365), (.c (.int .i64 (.lit 0))), (.c (.int .i64 (.lit 3))), (.c (.int .i64 (.lit 480)))]⟩,
 ⟨some 364, false, none, iMov (.t 366)⟩,
 ⟨some 367, false, none, iExtract 0 (.t 364)⟩,
 ⟨some 368, false, none, iExtract 1 (.t 364)⟩,
 ⟨some 35, false, none, iMov (.t 367)⟩,
 ⟨some 36, true, none, iMov (.t 368)⟩])
 (cSeq (cOps [⟨some 370, false, none, iCall (.c (.func (.func 48) [] [])) []⟩,
 ⟨some 371, false, none, iCall (.c (.func (.func 27) [] [])) [(.t 370), (.c (.int .i64 (.lit 0))), (.c (.int .i64 (.lit 0))), (.c (.int .i64 (.lit 480)))]⟩,
 ⟨some 369, false, none, iMov (.t 371)⟩,
 ⟨some 372, false, none, iExtract 0 (.t 369)⟩,
 ⟨some 373, false, none, iExtract 1 (.t 369)⟩,
 ⟨some 37, false, none, iMov (.t 372)⟩,
 ⟨some 38, true, none, iMov (.t 373)⟩])
 (cSeq (cOps [⟨some 375, false, none, iCall (.c (.func (.func 48) [] [])) []⟩,
 ⟨some 376, false, none, iCall (.c (.func (.func 29) [] [])) [(.t 375), (.c (.int .i64 (.lit 0))), (.c (.int .i64 (.lit 2))), (.c (.int .i64 (.lit (-1))))]⟩,
 ⟨some 374, false, none, iMov (.t 376)⟩,
 ⟨some 377, false, none, iExtract 0 (.t 374)⟩,
 ⟨some 378, false, none, iExtract 1 (.t 374)⟩,
 ⟨some 39, false, none, iMov (.t 377)⟩,
 ⟨some 40, true, none, iMov (.t 378)⟩])
 (cSeq (cOps [⟨some 380, false, none, iCall (.c (.func (.func 48) [] [])) []⟩,
 ⟨some 381, false, none, iCall (.c (.func (.func 31) [] [])) [(.t 380), (.c (.int .i64 (.lit 0))), (.c (.int .i64 (.lit 2))), (.c (.int .i64 (.lit 2880)))]⟩,
 ⟨some 379, false, none, iMov (.t 381)⟩,
 ⟨some 382, false, none, iExtract 0 (.t 379)⟩,
 ⟨some 383, false, none, iExtract 1 (.t 379)⟩,
 ⟨some 41, false, none, iMov (.t 382)⟩,
 ⟨some 42, true, none, iMov (.t 383)⟩])
 (cSeq (cOps [⟨some 385, false, none, iCall (.c (.func (.func 48) [] [])) []⟩,
 ⟨some 386, false, none, iCall (.c (.func (.func 33) [] [])) [(.t 385), (.c (.int .i64 (.lit 3))), (.c (.int .i64 (.lit 480)))]⟩,
 ⟨some 384, false, none, iMov (.t 386)⟩,
 ⟨some 387, false, none, iExtract 0 (.t 384)⟩,
 ⟨some 388, false, none, iExtract 1 (.t 384)⟩,
 ⟨some 43, false, none, iMov (.t 387)⟩,
 ⟨some 44, true, none, iMov (.t 388)⟩])
 (cSeq (cSeq (cOps [⟨some 389, false, none, iMov (.t 32)⟩,
 ⟨some 390, false, none, iCmp .neq (.t 389) (.c (.int .i64 (.lit 31)))⟩,
 ⟨some 391, false, none, iMov (.t 390)⟩,
 ⟨some 392, false, some (391, false), iMov (.t 34)⟩,
 ⟨some 393, false, some (391, false), iCmp .neq (.t 392) (.c (.int .i64 (.lit 31)))⟩,
 ⟨some 394, false, none, iPick (.t 391) (.c (.bool (.lit true))) (.t 393)⟩,
 ⟨some 395, false, none, iMov (.t 394)⟩,
 ⟨some 396, false, some (395, false), iMov (.t 36)⟩,
 ⟨some 397, false, some (395, false), iCmp .neq (.t 396) (.c (.int .i64 (.lit 31)))⟩,
 ⟨some 398, false, none, iPick (.t 395) (.c (.bool (.lit true))) (.t 397)⟩,
 ⟨some 399, false, none, iMov (.t 398)⟩,
 ⟨some 400, false, some (399, false), iMov (.t 38)⟩,
 ⟨some 401, false, some (399, false), iCmp .neq (.t 400) (.c (.int .i64 (.lit 31)))⟩,
 ⟨some 402, false, none, iPick (.t 399) (.c (.bool (.lit true))) (.t 401)⟩,
 ⟨some 403, false, none, iMov (.t 402)⟩,
 ⟨some 404, false, some (403, false), iMov (.t 40)⟩,
 ⟨some 405, false, some (403, false), iCmp .neq (.t 404) (.c (.int .i64 (.lit 31)))⟩,
 ⟨some 406, false, none, iPick (.t 403) (.c (.bool (.lit true))) (.t 405)⟩,
 ⟨some 407, false, none, iMov (.t 406)⟩,
 ⟨some 408, false, some (407, false), iMov (.t 42)⟩,
 ⟨some 409, false, some (407, false), iCmp .neq (.t 408) (.c (.int .i64 (.lit 31)))⟩,
 ⟨some 410, false, none, iPick (.t 407) (.c (.bool (.lit true))) (.t 409)⟩,
 ⟨some 411, false, none, iMov (.t 410)⟩,
 ⟨some 412, false, some (411, false), iMov (.t 44)⟩,
 ⟨some 413, false, some (411, false), iCmp .neq (.t 412) (.c (.int .i64 (.lit 31)))⟩,
 ⟨some 414, true, none, iPick (.t 411) (.c (.bool (.lit true))) (.t 413)⟩])
 (cCond (.t 414) (cSeq (cOps [⟨some 0, true, none, iMov (.c (.bool (.lit false)))⟩])
 cRet) cSkip))
 (cSeq (cOps [⟨some 416, false, none, iCall (.c (.func (.func 48) [] [])) []⟩,
 ⟨some 417, false, none, iCall (.c (.func (.func 50) [] [])) []⟩,
 ⟨some 418, false, none, iCall (.c (.func (.func 18) [] [])) [(.t 416), (.t 417), (.c (.int .i64 (.lit 479)))]⟩,
 ⟨some 415, false, none, iMov (.t 418)⟩,
 ⟨some 419, false, none, iExtract 0 (.t 415)⟩,
 ⟨some 420, false, none, iExtract 1 (.t 415)⟩,
 ⟨some 32, true, none, iMov (.t 420)⟩])
 (cSeq (cOps [⟨some 422, false, none, iCall (.c (.func (.func 48) [] [])) []⟩,
 ⟨some 423, false, none, iCall (.c (.func (.func 49) [] [])) [(.c (.int .i64 (.lit 0))), (.c (.int .i64 (.lit 0))), (.c (.int .i64 (.lit 2)))]⟩,
 ⟨some 424, false, none, iBslice 80 [(.int .i64 (.lit 0)), (.int .i64 (.lit 0)), (.int .i64 (.lit 0))] 1 [(0, 3, (.t 423))]⟩,
 ⟨some 425, false, none, iCall (.c (.func (.func 21) [] [])) [(.t 422), (.t 424), (.c (.int .i64 (.lit 511)))]⟩,
 ⟨some 421, false, none, iMov (.t 425)⟩,
 ⟨some 426, false, none, iExtract 0 (.t 421)⟩,
 ⟨some 427, false, none, iExtract 1 (.t 421)⟩,
 ⟨some 34, true, none, iMov (.t 427)⟩])
 (cSeq (cOps [⟨some 429, false, none, iCall (.c (.func (.func 48) [] [])) []⟩,
 ⟨some 430, false, none, iCall (.c (.func (.func 24) [] [])) [(.t 429), (.c (.int .i64 (.lit 0))), (.c (.int .i64 (.lit 2))), (.c (.int .i64 (.lit 470)))]⟩,
 ⟨some 428, false, none, iMov (.t 430)⟩,
 ⟨some 431, false, none, iExtract 0 (.t 428)⟩,
 ⟨some 432, false, none, iExtract 1 (.t 428)⟩,
 ⟨some 36, true, none, iMov (.t 432)⟩])
 (cSeq (cOps [⟨some 434, false, none, iCall (.c (.func (.func 48) [] [])) []⟩,
 ⟨some 435, false, none, iCall (.c (.func (.func 27) [] [])) [(.t 434), (.c (.int .i64 (.lit 2))), (.c (.int .i64 (.lit 0))), (.c (.int .i64 (.lit 480)))]⟩,
 ⟨some 433, false, none, iMov (.t 435)⟩,
 ⟨some 436, false, none, iExtract 0 (.t 433)⟩,
 ⟨some 437, false, none, iExtract 1 (.t 433)⟩,
 ⟨some 38, true, none, iMov (.t 437)⟩])
 (cSeq (cOps [⟨some 439, false, none, iCall (.c (.func (.func 48) [] [])) []⟩,
 ⟨some 440, false, none, iCall (.c (.func (.func 29) [] [])) [(.t 439), (.c (.int .i64 (.lit 0))), (.c (.int .i64 (.lit 2))), (.c (.int .i64 (.lit 1200)))]⟩,
 ⟨some 438, false, none, iMov (.t 440)⟩,
 ⟨some 441, false, none, iExtract 0 (.t 438)⟩,
 ⟨some 442, false, none, iExtract 1 (.t 438)⟩,
 ⟨some 40, true, none, iMov (.t 442)⟩])
 (cSeq (cOps [⟨some 444, false, none, iCall (.c (.func (.func 48) [] [])) []⟩,
 ⟨some 445, false, none, iCall (.c (.func (.func 31) [] [])) [(.t 444), (.c (.int .i64 (.lit 0))), (.c (.int .i64 (.lit 2))), (.c (.int .i64 (.lit 664)))]⟩,
 ⟨some 443, false, none, iMov (.t 445)⟩,
 ⟨some 446, false, none, iExtract 0 (.t 443)⟩,
 ⟨some 447, false, none, iExtract 1 (.t 443)⟩,
 ⟨some 42, true, none, iMov (.t 447)⟩])
 (cSeq (cSeq (cOps [⟨some 448, false, none, iMov (.t 32)⟩,
 ⟨some 449, false, none, iCmp .neq (.t 448) (.c (.int .i64 (.lit 4)))⟩,
 ⟨some 450, false, none, iMov (.t 449)⟩,
 ⟨some 451, false, some (450, false), iMov (.t 34)⟩,
 ⟨some 452, false, some (450, false), iCmp .neq (.t 451) (.c (.int .i64 (.lit 4)))⟩,
 ⟨some 453, false, none, iPick (.t 450) (.c (.bool (.lit true))) (.t 452)⟩,
 ⟨some 454, false, none, iMov (.t 453)⟩,
 ⟨some 455, false, some (454, false), iMov (.t 36)⟩,
 ⟨some 456, false, some (454, false), iCmp .neq (.t 455) (.c (.int .i64 (.lit 4)))⟩,
 ⟨some 457, false, none, iPick (.t 454) (.c (.bool (.lit true))) (.t 456)⟩,
 ⟨some 458, false, none, iMov (.t 457)⟩,
 ⟨some 459, false, some (458, false), iMov (.t 38)⟩,
 ⟨some 460, false, some (458, false), iCmp .neq (.t 459) (.c (.int .i64 (.lit 4)))⟩,
 ⟨some 461, false, none, iPick (.t 458) (.c (.bool (.lit true))) (.t 460)⟩,
 ⟨some 462, false, none, iMov (.t 461)⟩,
 ⟨some 463, false, some (462, false), iMov (.t 40)⟩,
 ⟨some 464, false, some (462, false), iCmp .neq (.t 463) (.c (.int .i64 (.lit 4)))⟩,
 ⟨some 465, false, none, iPick (.t 462) (.c (.bool (.lit true))) (.t 464)⟩,
 ⟨some 466, false, none, iMov (.t 465)⟩,
 ⟨some 467, false, some (466, false), iMov (.t 42)⟩,
 ⟨some 468, false, some (466, false), iCmp .neq (.t 467) (.c (.int .i64 (.lit 4)))⟩,
 ⟨some 469, true, none, iPick (.t 466) (.c (.bool (.lit true))) (.t 468)⟩])
 (cCond (.t 469) (cSeq (cOps [⟨some 0, true, none, iMov (.c (.bool (.lit false)))⟩])
 cRet) cSkip))
 (cSeq (cOps [⟨some 470, false, none, iCall (.c (.func (.func 49) [] [])) [(.c (.int .i64 (.lit 0))), (.c (.int .i64 (.lit 0))), (.c (.int .i64 (.lit 2)))]⟩,
 ⟨some 471, false, none, iBslice 80 [(.int .i64 (.lit 0)), (.int .i64 (.lit 0)), (.int .i64 (.lit 0))] 1 [(0, 3, (.t 470))]⟩,
 ⟨some 45, true, none, iMov (.t 471)⟩])
 (cSeq (cOps [⟨some 473, false, none, iCall (.c (.func (.func 48) [] [])) []⟩,
 ⟨some 474, false, none, iMov (.t 45)⟩,
 ⟨some 475, false, none, iCall (.c (.func (.func 16) [] [])) [(.t 473), (.t 474), (.c (.int .i64 (.lit 480)))]⟩,
 ⟨some 472, false, none, iMov (.t 475)⟩,
 ⟨some 476, false, none, iExtract 0 (.t 472)⟩,
 ⟨some 477, false, none, iExtract 1 (.t 472)⟩,
 ⟨some 46, true, none, iMov (.t 476)⟩,
 ⟨some 32, true, none, iMov (.t 477)⟩])
 (cSeq (cOps [⟨some 479, false, none, iCall (.c (.func (.func 48) [] [])) []⟩,
 ⟨some 480, false, none, iMov (.t 45)⟩,
 ⟨some 481, false, none, iCall (.c (.func (.func 16) [] [])) [(.t 479), (.t 480), (.c (.int .i64 (.lit 511)))]⟩,
 ⟨some 478, false, none, iMov (.t 481)⟩,
 ⟨some 482, false, none, iExtract 0 (.t 478)⟩,
 ⟨some 483, false, none, iExtract 1 (.t 478)⟩,
 ⟨some 47, true, none, iMov (.t 482)⟩,
 ⟨some 34, true, none, iMov (.t 483)⟩])
 (cSeq (cOps [⟨some 485, false, none, iCall (.c (.func (.func 48) [] [])) []⟩,
 ⟨some 486, false, none, iMov (.t 45)⟩,
 ⟨some 487, false, none, iCall (.c (.func (.func 16) [] [])) [(.t 485), (.t 486), (.c (.int .i64 (.lit 470)))]⟩,
 ⟨some 484, false, none, iMov (.t 487)⟩,
 ⟨some 488, false, none, iExtract 0 (.t 484)⟩,
 ⟨some 489, false, none, iExtract 1 (.t 484)⟩,
 ⟨some 48, true, none, iMov (.t 488)⟩,
 ⟨some 36, true, none, iMov (.t 489)⟩])
 (cSeq (cOps [⟨some 491, false, none, iCall (.c (.func (.func 48) [] [])) []⟩,
 ⟨some 492, false, none, iMov (.t 45)⟩,
 ⟨some 493, false, none, iCall (.c (.func (.func 21) [] [])) [(.t 491), (.t 492), (.c (.int .i64 (.lit 480)))]⟩,
 ⟨some 490, false, none, iMov (.t 493)⟩,
 ⟨some 494, false, none, iExtract 0 (.t 490)⟩,
 ⟨some 495, false, none, iExtract 1 (.t 490)⟩,
 ⟨some 49, true, none, iAlloc 39 [(.int .i64 (.lit 0)), (.int .i64 (.lit 0))]⟩,
 ⟨none, false, none, iStore 2 (.t 49) (.t 494)⟩,
 ⟨some 38, true, none, iMov (.t 495)⟩])
 (cSeq (cOps [⟨some 497, false, none, iCall (.c (.func (.func 48) [] [])) []⟩,
 ⟨some 498, false, none, iMov (.t 45)⟩,
 ⟨some 499, false, none, iCall (.c (.func (.func 21) [] [])) [(.t 497), (.t 498), (.c (.int .i64 (.lit 495)))]⟩,
 ⟨some 496, false, none, iMov (.t 499)⟩,
 ⟨some 500, false, none, iExtract 0 (.t 496)⟩,
 ⟨some 501, false, none, iExtract 1 (.t 496)⟩,
 ⟨some 50, true, none, iAlloc 39 [(.int .i64 (.lit 0)), (.int .i64 (.lit 0))]⟩,
 ⟨none, false, none, iStore 2 (.t 50) (.t 500)⟩,
 ⟨some 40, true, none, iMov (.t 501)⟩])
 (cSeq (cOps [⟨some 503, false, none, iCall (.c (.func (.func 48) [] [])) []⟩,
 ⟨some 504, false, none, iCall (.c (.func (.func 24) [] [])) [(.t 503), (.c (.int .i64 (.lit 0))), (.c (.int .i64 (.lit 2))), (.c (.int .i64 (.lit 495)))]⟩,
 ⟨some 502, false, none, iMov (.t 504)⟩,
 ⟨some 505, false, none, iExtract 0 (.t 502)⟩,
 ⟨some 506, false, none, iExtract 1 (.t 502)⟩,
 ⟨some 51, true, none, iMov (.t 505)⟩,
 ⟨some 42, true, none, iMov (.t 506)⟩])
 (cSeq (cOps [⟨some 508, false, none, iCall (.c (.func (.func 48) [] [])) []⟩,
 ⟨some 509, false, none, iCall (.c (.func (.func 27) [] [])) [(.t 508), (.c (.int .i64 (.lit 0))), (.c (.int .i64 (.lit 2))), (.c (.int .i64 (.lit 495)))]⟩,
 ⟨some 507, false, none, iMov (.t 509)⟩,
 ⟨some 510, false, none, iExtract 0 (.t 507)⟩,
 ⟨some 511, false, none, iExtract 1 (.t 507)⟩,
 ⟨some 52, true, none, iMov (.t 510)⟩,
 ⟨some 44, true, none, iMov (.t 511)⟩])
 (cSeq (cOps [⟨some 513, false, none, iCall (.c (.func (.func 48) [] [])) []⟩,
 ⟨some 514, false, none, iCall (.c (.func (.func 29) [] [])) [(.t 513), (.c (.int .i64 (.lit 0))), (.c (.int .i64 (.lit 2))), (.c (.int .i64 (.lit 495)))]⟩,
 ⟨some 512, false, none, iMov (.t 514)⟩,
 ⟨some 515, false, none, iExtract 0 (.t 512)⟩,
 ⟨some 516, false, none, iExtract 1 (.t 512)⟩,
 ⟨some 53, true, none, iMov (.t 515)⟩,
 ⟨some 54, true, none, iMov (.t 516)⟩])
 (cSeq (cOps [⟨some 518, false, none, iCall (.c (.func (.func 48) [] [])) []⟩,
 ⟨some 519, false, none, iCall (.c (.func (.func 31) [] [])) [(.t 518), (.c (.int .i64 (.lit 0))), (.c (.int .i64 (.lit 2))), (.c (.int .i64 (.lit 900)))]⟩,
 ⟨some 517, false, none, iMov (.t 519)⟩,
 ⟨some 520, false, none, iExtract 0 (.t 517)⟩,
 ⟨some 521, false, none, iExtract 1 (.t 517)⟩,
 ⟨some 55, true, none, iMov (.t 520)⟩,
 ⟨some 56, true, none, iMov (.t 521)⟩])
 (cSeq (cOps [⟨some 523, false, none, iCall (.c (.func (.func 48) [] [])) []⟩,
 ⟨some 524, false, none, iCall (.c (.func (.func 33) [] [])) [(.t 523), (.c (.int .i64 (.lit 0))), (.c (.int .i64 (.lit 480)))]⟩,
 ⟨some 522, false, none, iMov (.t 524)⟩,
 ⟨some 525, false, none, iExtract 0 (.t 522)⟩,
 ⟨some 526, false, none, iExtract 1 (.t 522)⟩,
 ⟨some 57, true, none, iMov (.t 525)⟩,
 ⟨some 58, true, none, iMov (.t 526)⟩])
 (cSeq (cOps [⟨some 528, false, none, iCall (.c (.func (.func 48) [] [])) []⟩,
 ⟨some 529, false, none, iCall (.c (.func (.func 33) [] [])) [(.t 528), (.c (.int .i64 (.lit 2))), (.c (.int .i64 (.lit 500)))]⟩,
 ⟨some 527, false, none, iMov (.t 529)⟩,
 ⟨some 530, false, none, iExtract 0 (.t 527)⟩,
 ⟨some 531, false, none, iExtract 1 (.t 527)⟩,
 ⟨some 59, true, none, iMov (.t 530)⟩,
 ⟨some 60, true, none, iMov (.t 531)⟩])
 (cSeq (cOps [⟨some 533, false, none, iCall (.c (.func (.func 48) [] [])) []⟩,
 ⟨some 534, false, none, iCall (.c (.func (.func 50) [] [])) []⟩,
 ⟨some 535, false, none, iCall (.c (.func (.func 18) [] [])) [(.t 533), (.t 534), (.c (.int .i64 (.lit 480)))]⟩,
 ⟨some 532, false, none, iMov (.t 535)⟩,
 ⟨some 536, false, none, iExtract 0 (.t 532)⟩,
 ⟨some 537, false, none, iExtract 1 (.t 532)⟩,
 ⟨some 61, true, none, iMov (.t 536)⟩,
 ⟨some 62, true, none, iMov (.t 537)⟩])
 (cSeq (dOps 0 [⟨⟨some 538, false, none, iMov (.t 32)⟩, [32], false, 0, 0, none, []⟩,
 ⟨⟨some 539, false, none, iCmp .eql (.t 538) (.c (.int .i64 (.lit 0)))⟩, [538], false, 0, 0, none, []⟩,
 ⟨⟨some 540, false, none, iMov (.t 539)⟩, [539], false, 0, 0, none, []⟩,
 ⟨⟨some 541, false, some (540, true), iMov (.t 46)⟩, [540, 46], false, 0, 0, none, []⟩,
 ⟨⟨some 542, false, some (540, true), iCmp .eql (.t 541) (.c (.int .i64 (.lit 2)))⟩, [540, 541], false, 0, 0, none, []⟩,
 ⟨⟨some 543, false, none, iPick (.t 540) (.t 542) (.c (.bool (.lit false)))⟩, [540, 542], false, 0, 0, none, []⟩,
 ⟨⟨some 544, false, none, iMov (.t 543)⟩, [543], false, 0, 0, none, []⟩,
 ⟨⟨some 545, false, some (544, true), iMov (.t 34)⟩, [544, 34], false, 0, 0, none, []⟩,
 ⟨⟨some 546, false, some (544, true), iCmp .eql (.t 545) (.c (.int .i64 (.lit 0)))⟩, [544, 545], false, 0, 0, none, []⟩,
 ⟨⟨some 547, false, none, iPick (.t 544) (.t 546) (.c (.bool (.lit false)))⟩, [544, 546], false, 0, 0, none, []⟩,
 ⟨⟨some 548, false, none, iMov (.t 547)⟩, [547], false, 0, 0, none, []⟩,
 ⟨⟨some 549, false, some (548, true), iMov (.t 47)⟩, [548, 47], false, 0, 0, none, []⟩,
 ⟨⟨some 550, false, some (548, true), iCmp .eql (.t 549) (.c (.int .i64 (.lit 0)))⟩, [548, 549], false, 0, 0, none, []⟩,
 ⟨⟨some 551, false, none, iPick (.t 548) (.t 550) (.c (.bool (.lit false)))⟩, [548, 550], false, 0, 0, none, []⟩,
 ⟨⟨some 552, false, none, iMov (.t 551)⟩, [551], false, 0, 0, none, []⟩,
 ⟨⟨some 553, false, some (552, true), iMov (.t 36)⟩, [552, 36], false, 0, 0, none, []⟩,
 ⟨⟨some 554, false, some (552, true), iCmp .eql (.t 553) (.c (.int .i64 (.lit 0)))⟩, [552, 553], false, 0, 0, none, []⟩,
 ⟨⟨some 555, false, none, iPick (.t 552) (.t 554) (.c (.bool (.lit false)))⟩, [552, 554], false, 0, 0, none, []⟩,
 ⟨⟨some 556, false, none, iMov (.t 555)⟩, [555], false, 0, 0, none, []⟩,
 ⟨⟨some 557, false, some (556, true), iMov (.t 48)⟩, [556, 48], false, 0, 0, none, []⟩,
 ⟨⟨some 558, false, some (556, true), iCmp .eql (.t 557) (.c (.int .i64 (.lit 0)))⟩, [556, 557], false, 0, 0, none, []⟩,
 ⟨⟨some 559, false, none, iPick (.t 556) (.t 558) (.c (.bool (.lit false)))⟩, [556, 558], false, 0, 0, none, []⟩,
 ⟨⟨some 560, false, none, iMov (.t 559)⟩, [559], false, 0, 0, none, []⟩,
 ⟨⟨some 561, false, some (560, true), iMov (.t 38)⟩, [560, 38], false, 0, 0, none, []⟩,
 ⟨⟨some 562, false, some (560, true), iCmp .eql (.t 561) (.c (.int .i64 (.lit 0)))⟩, [560, 561], false, 0, 0, none, []⟩,
 ⟨⟨some 563, false, none, iPick (.t 560) (.t 562) (.c (.bool (.lit false)))⟩, [560, 562], false, 0, 0, none, []⟩,
 ⟨⟨some 564, false, none, iMov (.t 563)⟩, [563], false, 0, 0, none, []⟩,
 ⟨⟨some 565, false, some (564, true), iLoadN 2 (.t 49)⟩, [564, 49], false, 0, 1, none, []⟩,
 ⟨⟨some 566, false, some (564, true), iCall (.c (.func (.func 46) [] [])) [(.c (.int .i64 (.lit 650))), (.c (.int .i64 (.lit 670)))]⟩, [564], true, 0, 0, none, []⟩,
 ⟨⟨some 567, false, some (564, true), iEq false true 2 [(0, .int), (1, .int)] (.t 565) (.t 566)⟩, [564, 565, 566], false, 1, 1, none, []⟩,
 ⟨⟨some 568, false, none, iPick (.t 564) (.t 567) (.c (.bool (.lit false)))⟩, [564, 567], false, 1, 1, none, []⟩,
 ⟨⟨some 569, false, none, iMov (.t 568)⟩, [568], false, 1, 1, none, []⟩,
 ⟨⟨some 570, false, some (569, true), iMov (.t 40)⟩, [569, 40], false, 1, 1, none, []⟩,
 ⟨⟨some 571, false, some (569, true), iCmp .eql (.t 570) (.c (.int .i64 (.lit 0)))⟩, [569, 570], false, 1, 1, none, []⟩,
 ⟨⟨some 572, false, none, iPick (.t 569) (.t 571) (.c (.bool (.lit false)))⟩, [569, 571], false, 1, 1, none, []⟩,
 ⟨⟨some 573, false, none, iMov (.t 572)⟩, [572], false, 1, 1, none, []⟩,
 ⟨⟨some 574, false, some (573, true), iLoadN 2 (.t 50)⟩, [573, 50], false, 1, 2, none, []⟩,
 ⟨⟨some 575, false, some (573, true), iCall (.c (.func (.func 46) [] [])) [(.c (.int .i64 (.lit 655))), (.c (.int .i64 (.lit 670)))]⟩, [573], true, 1, 0, none, []⟩,
 ⟨⟨some 576, false, some (573, true), iEq false true 2 [(0, .int), (1, .int)] (.t 574) (.t 575)⟩, [573, 574, 575], false, 2, 2, none, []⟩,
 ⟨⟨some 577, false, none, iPick (.t 573) (.t 576) (.c (.bool (.lit false)))⟩, [573, 576], false, 2, 2, none, []⟩,
 ⟨⟨some 578, false, none, iMov (.t 577)⟩, [577], false, 2, 2, none, []⟩,
 ⟨⟨some 579, false, some (578, true), iMov (.t 42)⟩, [578, 42], false, 2, 2, none, []⟩,
 ⟨⟨some 580, false, some (578, true), iCmp .eql (.t 579) (.c (.int .i64 (.lit 0)))⟩, [578, 579], false, 2, 2, none, []⟩,
 ⟨⟨some 581, false, none, iPick (.t 578) (.t 580) (.c (.bool (.lit false)))⟩, [578, 580], false, 2, 2, none, []⟩,
 ⟨⟨some 582, false, none, iMov (.t 581)⟩, [581], false, 2, 2, none, []⟩,
 ⟨⟨some 583, false, some (582, true), iMov (.t 51)⟩, [582, 51], false, 2, 4, none, []⟩,
 ⟨⟨some 584, false, some (582, true), iCall (.c (.func (.func 49) [] [])) [(.c (.int .i64 (.lit 2))), (.c (.int .i64 (.lit 0))), (.c (.int .i64 (.lit 1)))]⟩, [582], true, 2, 0, none, []⟩,
 ⟨⟨some 585, false, some (582, true), iBslice 80 [(.int .i64 (.lit 0)), (.int .i64 (.lit 0)), (.int .i64 (.lit 0))] 1 [(0, 3, (.t 584))]⟩, [582, 584], true, 3, 0, none, []⟩,
 ⟨⟨some 586, false, some (582, true), iCall (.c (.func (.func 26) [] [])) [(.t 583), (.t 585)]⟩, [582, 583, 585], true, 4, 0, none, []⟩,
 ⟨⟨some 587, false, none, iPick (.t 582) (.t 586) (.c (.bool (.lit false)))⟩, [582, 586], false, 5, 5, none, []⟩,
 ⟨⟨some 588, false, none, iMov (.t 587)⟩, [587], false, 5, 5, none, []⟩,
 ⟨⟨some 589, false, some (588, true), iMov (.t 44)⟩, [588, 44], false, 5, 5, none, []⟩,
 ⟨⟨some 590, false, some (588, true), iCmp .eql (.t 589) (.c (.int .i64 (.lit 0)))⟩, [588, 589], false, 5, 5, none, []⟩,
 ⟨⟨some 591, false, none, iPick (.t 588) (.t 590) (.c (.bool (.lit false)))⟩, [588, 590], false, 5, 5, none, []⟩,
 ⟨⟨some 592, false, none, iMov (.t 591)⟩, [591], false, 5, 5, none, []⟩,
 ⟨⟨some 593, false, some (592, true), iMov (.t 52)⟩, [592, 52], false, 5, 5, none, []⟩,
 ⟨⟨some 594, false, some (592, true), iCmp .eql (.t 593) (.c (.int .i64 (.lit 870)))⟩, [592, 593], false, 5, 5, none, []⟩,
 ⟨⟨some 595, false, none, iPick (.t 592) (.t 594) (.c (.bool (.lit false)))⟩, [592, 594], false, 5, 5, none, []⟩,
 ⟨⟨some 596, false, none, iMov (.t 595)⟩, [595], false, 5, 5, none, []⟩,
 ⟨⟨some 597, false, some (596, true), iMov (.t 54)⟩, [596, 54], false, 5, 5, none, []⟩,
 ⟨⟨some 598, false, some (596, true), iCmp .eql (.t 597) (.c (.int .i64 (.lit 0)))⟩, [596, 597], false, 5, 5, none, []⟩,
 ⟨⟨some 599, false, none, iPick (.t 596) (.t 598) (.c (.bool (.lit false)))⟩, [596, 598], false, 5, 5, none, []⟩,
 ⟨⟨some 600, false, none, iMov (.t 599)⟩, [599], false, 5, 5, none, []⟩,
 ⟨⟨some 601, false, some (600, true), iMov (.t 53)⟩, [600, 53], false, 5, 5, none, []⟩,
 ⟨⟨some 602, false, some (600, true), iCmp .eql (.t 601) (.c (.int .i64 (.lit 655)))⟩, [600, 601], false, 5, 5, none, []⟩,
 ⟨⟨some 603, false, none, iPick (.t 600) (.t 602) (.c (.bool (.lit false)))⟩, [600, 602], false, 5, 5, none, []⟩,
 ⟨⟨some 604, false, none, iMov (.t 603)⟩, [603], false, 5, 5, none, []⟩,
 ⟨⟨some 605, false, some (604, true), iMov (.t 56)⟩, [604, 56], false, 5, 5, none, []⟩,
 ⟨⟨some 606, false, some (604, true), iCmp .eql (.t 605) (.c (.int .i64 (.lit 0)))⟩, [604, 605], false, 5, 5, none, []⟩,
 ⟨⟨some 607, false, none, iPick (.t 604) (.t 606) (.c (.bool (.lit false)))⟩, [604, 606], false, 5, 5, none, []⟩,
 ⟨⟨some 608, false, none, iMov (.t 607)⟩, [607], false, 5, 5, none, []⟩,
 ⟨⟨some 609, false, some (608, true), iMov (.t 55)⟩, [608, 55], false, 5, 5, none, []⟩,
 ⟨⟨some 610, false, some (608, true), iCmp .eql (.t 609) (.c (.int .i64 (.lit 690)))⟩, [608, 609], false, 5, 5, none, []⟩,
 ⟨⟨some 611, false, none, iPick (.t 608) (.t 610) (.c (.bool (.lit false)))⟩, [608, 610], false, 5, 5, none, []⟩,
 ⟨⟨some 612, false, none, iMov (.t 611)⟩, [611], false, 5, 5, none, []⟩,
 ⟨⟨some 613, false, some (612, true), iMov (.t 58)⟩, [612, 58], false, 5, 5, none, []⟩,
 ⟨⟨some 614, false, some (612, true), iCmp .eql (.t 613) (.c (.int .i64 (.lit 0)))⟩, [612, 613], false, 5, 5, none, []⟩,
 ⟨⟨some 615, false, none, iPick (.t 612) (.t 614) (.c (.bool (.lit false)))⟩, [612, 614], false, 5, 5, none, []⟩,
 ⟨⟨some 616, false, none, iMov (.t 615)⟩, [615], false, 5, 5, none, []⟩,
 ⟨⟨some 617, false, some (616, true), iMov (.t 57)⟩, [616, 57], false, 5, 6, none, []⟩,
 ⟨⟨some 618, false, some (616, true), iBslice 3 [(.int .i64 (.lit 0))] 3 [(0, 1, (.c (.int .i64 (.lit 480)))), (1, 1, (.c (.int .i64 (.lit 590)))), (2, 1, (.c (.int .i64 (.lit 665))))]⟩, [616], true, 5, 0, none, []⟩,
 ⟨⟨some 619, false, some (616, true), iCall (.c (.func (.func 20) [] [])) [(.t 617), (.t 618)]⟩, [616, 617, 618], true, 6, 0, none, []⟩,
 ⟨⟨some 620, false, none, iPick (.t 616) (.t 619) (.c (.bool (.lit false)))⟩, [616, 619], false, 7, 7, none, []⟩,
 ⟨⟨some 621, false, none, iMov (.t 620)⟩, [620], false, 7, 7, none, []⟩,
 ⟨⟨some 622, false, some (621, true), iMov (.t 60)⟩, [621, 60], false, 7, 7, none, []⟩,
 ⟨⟨some 623, false, some (621, true), iCmp .eql (.t 622) (.c (.int .i64 (.lit 0)))⟩, [621, 622], false, 7, 7, none, []⟩,
 ⟨⟨some 624, false, none, iPick (.t 621) (.t 623) (.c (.bool (.lit false)))⟩, [621, 623], false, 7, 7, none, []⟩,
 ⟨⟨some 625, false, none, iMov (.t 624)⟩, [624], false, 7, 7, none, []⟩,
 ⟨⟨some 626, false, some (625, true), iMov (.t 59)⟩, [625, 59], false, 7, 8, none, []⟩,
 ⟨⟨some 627, false, some (625, true), iBslice 3 [(.int .i64 (.lit 0))] 3 [(0, 1, (.c (.int .i64 (.lit (-1))))), (1, 1, (.c (.int .i64 (.lit (-1))))), (2, 1, (.c (.int .i64 (.lit 500))))]⟩, [625], true, 7, 0, none, []⟩,
 ⟨⟨some 628, false, some (625, true), iCall (.c (.func (.func 20) [] [])) [(.t 626), (.t 627)]⟩, [625, 626, 627], true, 8, 0, none, []⟩,
 ⟨⟨some 629, false, none, iPick (.t 625) (.t 628) (.c (.bool (.lit false)))⟩, [625, 628], false, 9, 9, none, []⟩,
 ⟨⟨some 630, false, none, iMov (.t 629)⟩, [629], false, 9, 9, none, []⟩,
 ⟨⟨some 631, false, some (630, true), iMov (.t 62)⟩, [630, 62], false, 9, 9, none, []⟩,
 ⟨⟨some 632, false, some (630, true), iCmp .eql (.t 631) (.c (.int .i64 (.lit 0)))⟩, [630, 631], false, 9, 9, none, []⟩,
 ⟨⟨some 633, false, none, iPick (.t 630) (.t 632) (.c (.bool (.lit false)))⟩, [630, 632], false, 9, 9, none, []⟩,
 ⟨⟨some 634, false, none, iMov (.t 633)⟩, [633], false, 9, 9, none, []⟩,
 ⟨⟨some 635, false, some (634, true), iMov (.t 61)⟩, [634, 61], false, 9, 9, none, []⟩,
 ⟨⟨some 636, false, some (634, true), iLenS (.t 635)⟩, [634, 635], false, 9, 9, none, []⟩,
 ⟨⟨some 637, false, some (634, true), iCmp .eql (.t 636) (.c (.int .i64 (.lit 0)))⟩, [634, 636], false, 9, 9, none, []⟩,
 ⟨⟨some 638, false, none, iPick (.t 634) (.t 637) (.c (.bool (.lit false)))⟩, [634, 637], false, 9, 9, none, []⟩,
 ⟨⟨some 639, false, none, iMov (.t 638)⟩, [638], false, 9, 9, none, []⟩,
 ⟨⟨some 640, false, none, iPick (.t 639) (.c (.bool (.lit true))) (.c (.bool (.lit false)))⟩, [639], false, 9, 9, none, []⟩,
 ⟨⟨some 641, false, none, iMov (.t 640)⟩, [640], false, 9, 9, none, []⟩,
 ⟨⟨some 642, false, some (641, true), iCall (.c (.func (.func 23) [] [])) []⟩, [641], true, 9, 0, none, []⟩,
 ⟨⟨some 643, false, none, iPick (.t 641) (.t 642) (.c (.bool (.lit false)))⟩, [641, 642], false, 10, 10, none, []⟩,
 ⟨⟨some 0, true, none, iMov (.t 643)⟩, [643], false, 10, 10, none, []⟩])
 cRet))))))))))))))))))))))))))))))))))))))))))))), [.t 0]⟩
noncomputable def Tryd.kp12 : List Nat := [0, 1, 2, 3, 4, 8, 9, 10, 11, 12, 13, 20, 26]
noncomputable def Tryd.cf12 : CF := ⟨4, (cSeq (cOps [⟨some 4, true, none, iBox 25 (.t 0)⟩,
 ⟨some 8, true, none, iMov (.c (.bool (.lit false)))⟩,
 ⟨some 9, true, none, iMov (.c (.int .i64 (.lit 0)))⟩])
 (cSeq (cOps [⟨some 15, false, none, iLoadN 3 (.t 4)⟩,
 ⟨some 16, false, none, iCall (.c (.func (.func 51) [] [])) [(.t 15)]⟩,
 ⟨some 14, false, none, iMov (.t 16)⟩,
 ⟨some 17, false, none, iExtract 0 (.t 14)⟩,
 ⟨some 18, false, none, iExtract 1 (.t 14)⟩,
 ⟨some 10, true, none, iAlloc 86 [.nilslice, .nilslice, (.int .i64 (.lit 0)), .nilmap]⟩,
 ⟨none, false, none, iStore 4 (.t 10) (.t 17)⟩,
 ⟨some 11, true, none, iMov (.t 18)⟩])
 (cSeq (cSeq (cOps [⟨some 19, false, none, iMov (.t 11)⟩,
 ⟨some 20, true, none, iCmp .neq (.t 19) (.c (.int .i64 (.lit 0)))⟩])
 (cCond (.t 20) (cSeq (cOps [⟨some 21, false, none, iMov (.t 11)⟩,
 ⟨some 8, true, none, iMov (.c (.bool (.lit false)))⟩,
 ⟨some 9, true, none, iMov (.t 21)⟩])
 cRet) cSkip))
 (cSeq (cSeq (cOps [⟨some 22, false, none, iLoadN 4 (.t 10)⟩,
 ⟨some 23, false, none, iMov (.t 2)⟩,
 ⟨some 24, false, none, iMov (.t 3)⟩,
 ⟨some 25, false, none, iCall (.c (.func (.func 52) [] [])) [(.t 22), (.t 23), (.t 24)]⟩,
 ⟨some 26, true, none, iNot (.t 25)⟩])
 (cCond (.t 26) (cSeq (cOps [⟨some 8, true, none, iMov (.c (.bool (.lit false)))⟩,
 ⟨some 9, true, none, iMov (.c (.int .i64 (.lit 31)))⟩])
 cRet) cSkip))
 (cSeq (cOps [⟨some 28, false, none, iLoadN 4 (.t 10)⟩,
 ⟨some 29, false, none, iMov (.t 1)⟩,
 ⟨some 30, false, none, iCall (.c (.func (.func 53) [] [])) [(.t 28), (.t 29)]⟩,
 ⟨some 27, false, none, iMov (.t 30)⟩,
 ⟨some 31, false, none, iExtract 0 (.t 27)⟩,
 ⟨some 32, false, none, iExtract 1 (.t 27)⟩,
 ⟨some 12, true, none, iMov (.t 31)⟩,
 ⟨some 13, true, none, iMov (.t 32)⟩])
 (cSeq (cOps [⟨some 33, false, none, iMov (.t 13)⟩,
 ⟨some 34, false, none, iMov (.t 33)⟩,
 ⟨some 35, false, some (34, true), iMov (.t 12)⟩,
 ⟨some 36, false, some (34, true), iIaddr 9 (.t 35) (.c (.int .i64 (.lit 0)))⟩,
 ⟨some 37, false, some (34, true), iFaddr 3 (.t 36)⟩,
 ⟨some 38, false, some (34, true), iLoad (.t 37)⟩,
 ⟨some 39, false, some (34, true), iMov (.t 2)⟩,
 ⟨some 40, false, some (34, true), iCmp .eql (.t 38) (.t 39)⟩,
 ⟨some 41, false, none, iPick (.t 34) (.t 40) (.c (.bool (.lit false)))⟩,
 ⟨some 42, false, none, iMov (.t 41)⟩,
 ⟨some 43, false, some (42, true), iMov (.t 12)⟩,
 ⟨some 44, false, some (42, true), iMov (.t 12)⟩,
 ⟨some 45, false, some (42, true), iLenS (.t 44)⟩,
 ⟨some 46, false, some (42, true), iArith .sub (.t 45) (.c (.int .i64 (.lit 1)))⟩,
 ⟨some 47, false, some (42, true), iIaddr 9 (.t 43) (.t 46)⟩,
 ⟨some 48, false, some (42, true), iFaddr 4 (.t 47)⟩,
 ⟨some 49, false, some (42, true), iLoad (.t 48)⟩,
 ⟨some 50, false, some (42, true), iMov (.t 3)⟩,
 ⟨some 51, false, some (42, true), iCmp .eql (.t 49) (.t 50)⟩,
 ⟨some 52, false, none, iPick (.t 42) (.t 51) (.c (.bool (.lit false)))⟩,
 ⟨some 8, true, none, iMov (.t 52)⟩,
 ⟨some 9, true, none, iMov (.c (.int .i64 (.lit 0)))⟩])
 cRet)))))), [.t 8, .t 9]⟩
noncomputable def Tryd.kp14 : List Nat := [0, 1, 2, 5]
noncomputable def Tryd.cf14 : CF := ⟨1, (cSeq (cOps [⟨some 1, true, none, iBox 25 (.t 0)⟩,
 ⟨some 2, true, none, iMov (.c (.int .i64 (.lit 0)))⟩])
 (cSeq (cSeq (cOps [⟨some 3, false, none, iLoadN 3 (.t 1)⟩,
 ⟨some 4, false, none, iCall (.c (.func (.func 57) [] [])) [(.t 3)]⟩,
 ⟨some 5, true, none, iNot (.t 4)⟩])
 (cCond (.t 5) (cSeq (cOps [⟨some 2, true, none, iMov (.c (.int .i64 (.lit 30)))⟩])
 cRet) cSkip))
 (cSeq (cOps [⟨some 2, true, none, iMov (.c (.int .i64 (.lit 0)))⟩])
 cRet))), [.t 2]⟩
noncomputable def Tryd.kp16 : List Nat := [0, 1, 2, 3, 6, 7, 8, 9, 18]
noncomputable def Tryd.cf16 : CF := ⟨3, (cSeq (cOps [⟨some 3, true, none, iBox 25 (.t 0)⟩,
 ⟨some 6, true, none, iMov (.c (.int .i64 (.lit 0)))⟩,
 ⟨some 7, true, none, iMov (.c (.int .i64 (.lit 0)))⟩])
 (cSeq (cOps [⟨some 11, false, none, iLoadN 3 (.t 3)⟩,
 ⟨some 12, false, none, iMov (.t 1)⟩,
 ⟨some 13, false, none, iMov (.t 2)⟩,
 ⟨some 14, false, none, iCall (.c (.func (.func 60) [] [])) [(.t 11), (.t 12), (.t 13)]⟩,
 ⟨some 10, false, none, iMov (.t 14)⟩,
 ⟨some 15, false, none, iExtract 0 (.t 10)⟩,
 ⟨some 16, false, none, iExtract 1 (.t 10)⟩,
 ⟨some 8, true, none, iAlloc 102 [.nilslice, .nilslice, (.int .i64 (.lit 0)), .nilmap, .nilslice, (.int .i64 (.lit 0))]⟩,
 ⟨none, false, none, iStore 6 (.t 8) (.t 15)⟩,
 ⟨some 9, true, none, iMov (.t 16)⟩])
 (cSeq (cSeq (cOps [⟨some 17, false, none, iMov (.t 9)⟩,
 ⟨some 18, true, none, iCmp .neq (.t 17) (.c (.int .i64 (.lit 0)))⟩])
 (cCond (.t 18) (cSeq (cOps [⟨some 19, false, none, iMov (.t 9)⟩,
 ⟨some 6, true, none, iMov (.c (.int .i64 (.lit 0)))⟩,
 ⟨some 7, true, none, iMov (.t 19)⟩])
 cRet) cSkip))
 (cSeq (cOps [⟨some 20, false, none, iLoadN 6 (.t 8)⟩,
 ⟨some 21, false, none, iCall (.c (.func (.func 61) [] [])) [(.t 20)]⟩,
 ⟨some 6, true, none, iMov (.t 21)⟩,
 ⟨some 7, true, none, iMov (.c (.int .i64 (.lit 0)))⟩])
 cRet)))), [.t 6, .t 7]⟩
noncomputable def Tryd.kp18 : List Nat := [0, 1, 2, 3, 6, 7, 8, 9, 11, 20, 24]
noncomputable def Tryd.cf18 : CF := ⟨3, (cSeq (cOps [⟨some 3, true, none, iBox 25 (.t 0)⟩,
 ⟨some 6, true, none, iMov (.c .nilslice)⟩,
 ⟨some 7, true, none, iMov (.c (.int .i64 (.lit 0)))⟩])
 (cSeq (cOps [⟨some 13, false, none, iLoadN 3 (.t 3)⟩,
 ⟨some 14, false, none, iMov (.t 1)⟩,
 ⟨some 15, false, none, iMov (.t 2)⟩,
 ⟨some 16, false, none, iCall (.c (.func (.func 60) [] [])) [(.t 13), (.t 14), (.t 15)]⟩,
 ⟨some 12, false, none, iMov (.t 16)⟩,
 ⟨some 17, false, none, iExtract 0 (.t 12)⟩,
 ⟨some 18, false, none, iExtract 1 (.t 12)⟩,
 ⟨some 8, true, none, iAlloc 102 [.nilslice, .nilslice, (.int .i64 (.lit 0)), .nilmap, .nilslice, (.int .i64 (.lit 0))]⟩,
 ⟨none, false, none, iStore 6 (.t 8) (.t 17)⟩,
 ⟨some 9, true, none, iMov (.t 18)⟩])
 (cSeq (cSeq (cOps [⟨some 19, false, none, iMov (.t 9)⟩,
 ⟨some 20, true, none, iCmp .neq (.t 19) (.c (.int .i64 (.lit 0)))⟩])
 (cCond (.t 20) (cSeq (cOps [⟨some 21, false, none, iMov (.t 9)⟩,
 ⟨some 6, true, none, iMov (.c .nilslice)⟩,
 ⟨some 7, true, none, iMov (.t 21)⟩])
 cRet) cSkip))
 (cSeq (cSeq (cOps [⟨some 22, false, none, iLoadN 6 (.t 8)⟩,
 ⟨some 23, false, none, iCall (.c (.func (.func 65) [] [])) [(.t 22)]⟩,
 ⟨some 24, true, none, iNot (.t 23)⟩])
 (cCond (.t 24) (cSeq (cOps [⟨some 6, true, none, iMov (.c .nilslice)⟩,
 ⟨some 7, true, none, iMov (.c (.int .i64 (.lit 4)))⟩])
 cRet) cSkip))
 (cSeq (cOps [⟨some 26, false, none, iLoadN 6 (.t 8)⟩,
 ⟨some 27, false, none, iCall (.c (.func (.func 66) [] [])) [(.t 26), (.c (.int .i64 (.lit 2)))]⟩,
 ⟨some 25, false, none, iMov (.t 27)⟩,
 ⟨some 28, false, none, iExtract 0 (.t 25)⟩,
 ⟨some 29, false, none, iExtract 1 (.t 25)⟩,
 ⟨some 10, false, none, iMov (.t 28)⟩,
 ⟨some 11, true, none, iMov (.t 29)⟩])
 (cSeq (cOps [⟨some 30, false, none, iMov (.t 11)⟩,
 ⟨some 6, true, none, iMov (.t 30)⟩,
 ⟨some 7, true, none, iMov (.c (.int .i64 (.lit 0)))⟩])
 cRet)))))), [.t 6, .t 7]⟩
noncomputable def Tryd.kp20 : List Nat := [0, 1, 4, 5, 6, 18]
noncomputable def Tryd.cf20 : CF := ⟨2, (cSeq (cOps [⟨some 4, true, none, iMov (.c (.bool (.lit false)))⟩])
 (cSeq (cOps [⟨some 7, false, none, iMov (.t 0)⟩,
 ⟨some 8, false, none, iLenS (.t 7)⟩,
 ⟨some 9, false, none, iMov (.t 1)⟩,
 ⟨some 10, false, none, iLenS (.t 9)⟩,
 ⟨some 11, false, none, iCmp .eql (.t 8) (.t 10)⟩,
 ⟨some 5, true, none, iMov (.t 11)⟩])
 (cSeq (cSeq (cOps [⟨some 6, true, none, iMov (.c (.int .i64 (.lit 0)))⟩])
 (cBlock 0 (cLoop (cSeq (cSeq (cOps [⟨some 12, false, none, iMov (.t 5)⟩,
 ⟨some 13, false, none, iMov (.t 12)⟩,
 ⟨some 14, false, some (13, true), iMov (.t 6)⟩,
 ⟨some 15, false, some (13, true), iMov (.t 0)⟩,
 ⟨some 16, false, some (13, true), iLenS (.t 15)⟩,
 ⟨some 17, false, some (13, true), iCmp .lss (.t 14) (.t 16)⟩,
 ⟨some 18, true, none, iPick (.t 13) (.t 17) (.c (.bool (.lit false)))⟩])
 (cCond (.t 18) cSkip (cExit 0)))
 (cSeq (cBlock 1 (dOps 0 [⟨⟨some 21, false, none, iMov (.t 0)⟩, [0], false, 0, 0, none, []⟩,
 ⟨⟨some 22, false, none, iMov (.t 6)⟩, [6], false, 0, 0, none, []⟩,
 ⟨⟨some 23, false, none, iIaddr 1 (.t 21) (.t 22)⟩, [21, 22], false, 0, 0, none, []⟩,
 ⟨⟨some 24, false, none, iLoad (.t 23)⟩, [23], false, 0, 0, none, []⟩,
 ⟨⟨some 25, false, none, iMov (.t 1)⟩, [1], false, 0, 0, none, []⟩,
 ⟨⟨some 26, false, none, iMov (.t 6)⟩, [6], false, 0, 0, none, []⟩,
 ⟨⟨some 27, false, none, iIaddr 1 (.t 25) (.t 26)⟩, [25, 26], false, 0, 0, none, []⟩,
 ⟨⟨some 28, false, none, iLoad (.t 27)⟩, [27], false, 0, 0, none, []⟩,
 ⟨⟨some 29, false, none, iCmp .eql (.t 24) (.t 28)⟩, [24, 28], false, 0, 0, none, []⟩,
 ⟨⟨some 5, true, none, iMov (.t 29)⟩, [29], false, 0, 0, none, []⟩]))
 (cOps [⟨some 19, false, none, iMov (.t 6)⟩,
 ⟨some 20, false, none, iArith .add (.t 19) (.c (.int .i64 (.lit 1)))⟩,
 ⟨some 6, true, none, iMov (.t 20)⟩]))))))
 (cSeq (cOps [⟨some 30, false, none, iMov (.t 5)⟩,
 ⟨some 4, true, none, iMov (.t 30)⟩])
 cRet)))), [.t 4]⟩
noncomputable def Tryd.kp21 : List Nat := [0, 1, 2, 3, 6, 7, 8, 9, 18, 23]
noncomputable def Tryd.cf21 : CF := ⟨3, (cSeq (cOps [⟨some 3, true, none, iBox 25 (.t 0)⟩,
 ⟨some 6, true, none, iAlloc 39 [(.int .i64 (.lit 0)), (.int .i64 (.lit 0))]⟩,
 ⟨some 7, true, none, iMov (.c (.int .i64 (.lit 0)))⟩])
 (cSeq (cOps [⟨some 11, false, none, iLoadN 3 (.t 3)⟩,
 ⟨some 12, false, none, iMov (.t 1)⟩,
 ⟨some 13, false, none, iMov (.t 2)⟩,
 ⟨some 14, false, none, iCall (.c (.func (.func 60) [] [])) [(.t 11), (.t 12), (.t 13)]⟩,
 ⟨some 10, false, none, iMov (.t 14)⟩,
 ⟨some 15, false, none, iExtract 0 (.t 10)⟩,
 ⟨some 16, false, none, iExtract 1 (.t 10)⟩,
 ⟨some 8, true, none, iAlloc 102 [.nilslice, .nilslice, (.int .i64 (.lit 0)), .nilmap, .nilslice, (.int .i64 (.lit 0))]⟩,
 ⟨none, false, none, iStore 6 (.t 8) (.t 15)⟩,
 ⟨some 9, true, none, iMov (.t 16)⟩])
 (cSeq (cSeq (cOps [⟨some 17, false, none, iMov (.t 9)⟩,
 ⟨some 18, true, none, iCmp .neq (.t 17) (.c (.int .i64 (.lit 0)))⟩])
 (cCond (.t 18) (cSeq (cOps [⟨some 19, false, none, iBuild [(.int .i64 (.lit 0)), (.int .i64 (.lit 0))] []⟩,
 ⟨some 20, false, none, iMov (.t 9)⟩,
 ⟨none, false, none, iStore 2 (.t 6) (.t 19)⟩,
 ⟨some 7, true, none, iMov (.t 20)⟩])
 cRet) cSkip))
 (cSeq (cSeq (cOps [⟨some 21, false, none, iLoadN 6 (.t 8)⟩,
 ⟨some 22, false, none, iCall (.c (.func (.func 61) [] [])) [(.t 21)]⟩,
 ⟨some 23, true, none, iCmp .eql (.t 22) (.c (.int .i64 (.lit 0)))⟩])
 (cCond (.t 23) (cSeq (cOps [⟨some 24, false, none, iBuild [(.int .i64 (.lit 0)), (.int .i64 (.lit 0))] []⟩,
 ⟨none, false, none, iStore 2 (.t 6) (.t 24)⟩,
 ⟨some 7, true, none, iMov (.c (.int .i64 (.lit 4)))⟩])
 cRet) cSkip))
 (cSeq (dOps 0 [⟨⟨some 25, false, none, iLoadN 6 (.t 8)⟩, [8], false, 0, 0, none, []⟩,
 ⟨⟨some 26, false, none, iCall (.c (.func (.func 71) [] [])) [(.t 25), (.c (.int .i64 (.lit 1)))]⟩, [25], true, 0, 0, none, []⟩,
 ⟨⟨some 27, false, none, iLoadN 6 (.t 8)⟩, [8], false, 0, 1, none, []⟩,
 ⟨⟨some 28, false, none, iCall (.c (.func (.func 71) [] [])) [(.t 27), (.c (.int .i64 (.lit 2)))]⟩, [27], true, 1, 0, none, []⟩,
 ⟨⟨some 29, false, none, iBuild [(.int .i64 (.lit 0)), (.int .i64 (.lit 0))] [(0, 1, (.t 26)), (1, 1, (.t 28))]⟩, [26, 28], false, 2, 2, none, []⟩,
 ⟨⟨none, false, none, iStore 2 (.t 6) (.t 29)⟩, [6, 29], true, 2, 0, none, []⟩,
 ⟨⟨some 7, true, none, iMov (.c (.int .i64 (.lit 0)))⟩, [], false, 3, 3, none, []⟩])
 cRet))))), [.cell 6 true 2, .t 7]⟩
noncomputable def Tryd.kp23 : List Nat := [0, 1, 2, 3, 4, 5, 6, 7, 8, 9, 10, 11, 12, 13, 72]
noncomputable def Tryd.cf23 : CF := ⟨0, (cSeq (cOps [⟨some 0, true, none, iMov (.c (.bool (.lit false)))⟩])
 (cSeq (cOps [⟨some 15, false, none, iCall (.c (.func (.func 48) [] [])) []⟩,
 ⟨some 16, false, none, iCall (.c (.func (.func 50) [] [])) []⟩,
 ⟨some 17, false, none, iCall (.c (.func (.func 12) [] [])) [(.t 15), (.t 16), (.c (.int .i64 (.lit 0))), (.c (.int .i64 (.lit 2)))]⟩,
 ⟨some 14, false, none, iMov (.t 17)⟩,
 ⟨some 18, false, none, iExtract 0 (.t 14)⟩,
 ⟨some 19, false, none, iExtract 1 (.t 14)⟩,
 ⟨some 1, true, none, iMov (.t 18)⟩,
 ⟨some 2, true, none, iMov (.t 19)⟩])
 (cSeq (cOps [⟨some 21, false, none, iCall (.c (.func (.func 48) [] [])) []⟩,
 ⟨some 22, false, none, iCall (.c (.func (.func 49) [] [])) [(.c (.int .i64 (.lit 0))), (.c (.int .i64 (.lit 0))), (.c (.int .i64 (.lit 2)))]⟩,
 ⟨some 23, false, none, iBslice 80 [(.int .i64 (.lit 0)), (.int .i64 (.lit 0)), (.int .i64 (.lit 0))] 1 [(0, 3, (.t 22))]⟩,
 ⟨some 24, false, none, iCall (.c (.func (.func 16) [] [])) [(.t 21), (.t 23), (.c (.int .i64 (.lit 495)))]⟩,
 ⟨some 20, false, none, iMov (.t 24)⟩,
 ⟨some 25, false, none, iExtract 0 (.t 20)⟩,
 ⟨some 26, false, none, iExtract 1 (.t 20)⟩,
 ⟨some 3, true, none, iMov (.t 25)⟩,
 ⟨some 4, true, none, iMov (.t 26)⟩])
 (cSeq (cOps [⟨some 28, false, none, iCall (.c (.func (.func 48) [] [])) []⟩,
 ⟨some 29, false, none, iCall (.c (.func (.func 50) [] [])) []⟩,
 ⟨some 30, false, none, iCall (.c (.func (.func 18) [] [])) [(.t 28), (.t 29), (.c (.int .i64 (.lit 495)))]⟩,
 ⟨some 27, false, none, iMov (.t 30)⟩,
 ⟨some 31, false, none, iExtract 0 (.t 27)⟩,
 ⟨some 32, false, none, iExtract 1 (.t 27)⟩,
 ⟨some 5, true, none, iMov (.t 31)⟩,
 ⟨some 6, true, none, iMov (.t 32)⟩])
 (cSeq (cOps [⟨some 34, false, none, iCall (.c (.func (.func 48) [] [])) []⟩,
 ⟨some 35, false, none, iCall (.c (.func (.func 49) [] [])) [(.c (.int .i64 (.lit 3))), (.c (.int .i64 (.lit 0))), (.c (.int .i64 (.lit 1)))]⟩,
 ⟨some 36, false, none, iBslice 80 [(.int .i64 (.lit 0)), (.int .i64 (.lit 0)), (.int .i64 (.lit 0))] 1 [(0, 3, (.t 35))]⟩,
 ⟨some 37, false, none, iCall (.c (.func (.func 21) [] [])) [(.t 34), (.t 36), (.c (.int .i64 (.lit 600)))]⟩,
 ⟨some 33, false, none, iMov (.t 37)⟩,
 ⟨some 38, false, none, iExtract 0 (.t 33)⟩,
 ⟨some 39, false, none, iExtract 1 (.t 33)⟩,
 ⟨some 7, true, none, iAlloc 39 [(.int .i64 (.lit 0)), (.int .i64 (.lit 0))]⟩,
 ⟨none, false, none, iStore 2 (.t 7) (.t 38)⟩,
 ⟨some 8, true, none, iMov (.t 39)⟩])
 (cSeq (cSeq (dOps 0 [⟨⟨some 40, false, none, iMov (.t 2)⟩, [2], false, 0, 0, none, []⟩,
 ⟨⟨some 41, false, none, iCmp .neq (.t 40) (.c (.int .i64 (.lit 0)))⟩, [40], false, 0, 0, none, []⟩,
 ⟨⟨some 42, false, none, iMov (.t 41)⟩, [41], false, 0, 0, none, []⟩,
 ⟨⟨some 43, false, some (42, false), iMov (.t 4)⟩, [42, 4], false, 0, 0, none, []⟩,
 ⟨⟨some 44, false, some (42, false), iCmp .neq (.t 43) (.c (.int .i64 (.lit 0)))⟩, [42, 43], false, 0, 0, none, []⟩,
 ⟨⟨some 45, false, none, iPick (.t 42) (.c (.bool (.lit true))) (.t 44)⟩, [42, 44], false, 0, 0, none, []⟩,
 ⟨⟨some 46, false, none, iMov (.t 45)⟩, [45], false, 0, 0, none, []⟩,
 ⟨⟨some 47, false, some (46, false), iMov (.t 6)⟩, [46, 6], false, 0, 0, none, []⟩,
 ⟨⟨some 48, false, some (46, false), iCmp .neq (.t 47) (.c (.int .i64 (.lit 0)))⟩, [46, 47], false, 0, 0, none, []⟩,
 ⟨⟨some 49, false, none, iPick (.t 46) (.c (.bool (.lit true))) (.t 48)⟩, [46, 48], false, 0, 0, none, []⟩,
 ⟨⟨some 50, false, none, iMov (.t 49)⟩, [49], false, 0, 0, none, []⟩,
 ⟨⟨some 51, false, some (50, false), iMov (.t 8)⟩, [50, 8], false, 0, 0, none, []⟩,
 ⟨⟨some 52, false, some (50, false), iCmp .neq (.t 51) (.c (.int .i64 (.lit 0)))⟩, [50, 51], false, 0, 0, none, []⟩,
 ⟨⟨some 53, false, none, iPick (.t 50) (.c (.bool (.lit true))) (.t 52)⟩, [50, 52], false, 0, 0, none, []⟩,
 ⟨⟨some 54, false, none, iMov (.t 53)⟩, [53], false, 0, 0, none, []⟩,
 ⟨⟨some 55, false, some (54, false), iMov (.t 1)⟩, [54, 1], false, 0, 0, none, []⟩,
 ⟨⟨some 56, false, some (54, false), iNot (.t 55)⟩, [54, 55], false, 0, 0, none, []⟩,
 ⟨⟨some 57, false, none, iPick (.t 54) (.c (.bool (.lit true))) (.t 56)⟩, [54, 56], false, 0, 0, none, []⟩,
 ⟨⟨some 58, false, none, iMov (.t 57)⟩, [57], false, 0, 0, none, []⟩,
 ⟨⟨some 59, false, some (58, false), iMov (.t 3)⟩, [58, 3], false, 0, 0, none, []⟩,
 ⟨⟨some 60, false, some (58, false), iCmp .neq (.t 59) (.c (.int .i64 (.lit 1)))⟩, [58, 59], false, 0, 0, none, []⟩,
 ⟨⟨some 61, false, none, iPick (.t 58) (.c (.bool (.lit true))) (.t 60)⟩, [58, 60], false, 0, 0, none, []⟩,
 ⟨⟨some 62, false, none, iMov (.t 61)⟩, [61], false, 0, 0, none, []⟩,
 ⟨⟨some 63, false, some (62, false), iMov (.t 5)⟩, [62, 5], false, 0, 1, none, []⟩,
 ⟨⟨some 64, false, some (62, false), iBslice 3 [(.int .i64 (.lit 0))] 1 [(0, 1, (.c (.int .i64 (.lit 0))))]⟩, [62], true, 0, 0, none, []⟩,
 ⟨⟨some 65, false, some (62, false), iCall (.c (.func (.func 20) [] [])) [(.t 63), (.t 64)]⟩, [62, 63, 64], true, 1, 0, none, []⟩,
 ⟨⟨some 66, false, some (62, false), iNot (.t 65)⟩, [62, 65], false, 2, 2, none, []⟩,
 ⟨⟨some 67, false, none, iPick (.t 62) (.c (.bool (.lit true))) (.t 66)⟩, [62, 66], false, 2, 2, none, []⟩,
 ⟨⟨some 68, false, none, iMov (.t 67)⟩, [67], false, 2, 2, none, []⟩,
 ⟨⟨some 69, false, some (68, false), iLoadN 2 (.t 7)⟩, [68, 7], false, 2, 3, none, []⟩,
 ⟨⟨some 70, false, some (68, false), iCall (.c (.func (.func 46) [] [])) [(.c (.int .i64 (.lit 715))), (.c (.int .i64 (.lit 780)))]⟩, [68], true, 2, 0, none, []⟩,
 ⟨⟨some 71, false, some (68, false), iEq true true 2 [(0, .int), (1, .int)] (.t 69) (.t 70)⟩, [68, 69, 70], false, 3, 3, none, []⟩,
 ⟨⟨some 72, true, none, iPick (.t 68) (.c (.bool (.lit true))) (.t 71)⟩, [68, 71], false, 3, 3, none, []⟩])
 (cCond (.t 72) (cSeq (cOps [⟨some 0, true, none, iMov (.c (.bool (.lit false)))⟩])
 cRet) cSkip))
 (cSeq (cOps [⟨some 74, false, none, iCall (.c (.func (.func 48) [] [])) []⟩,
 ⟨some 75, false, none, iCall (.c (.func (.func 24) [] [])) [(.t 74), (.c (.int .i64 (.lit 0))), (.c (.int .i64 (.lit 2))), (.c (.int .i64 (.lit 480)))]⟩,
 ⟨some 73, false, none, iMov (.t 75)⟩,
 ⟨some 76, false, none, iExtract 0 (.t 73)⟩,
 ⟨some 77, false, none, iExtract 1 (.t 73)⟩,
 ⟨some 9, true, none, iMov (.t 76)⟩,
 ⟨some 2, true, none, iMov (.t 77)⟩])
 (cSeq (cOps [⟨some 79, false, none, iCall (.c (.func (.func 48) [] [])) []⟩,
 ⟨some 80, false, none, iCall (.c (.func (.func 27) [] [])) [(.t 79), (.c (.int .i64 (.lit 0))), (.c (.int .i64 (.lit 2))), (.c (.int .i64 (.lit 480)))]⟩,
 ⟨some 78, false, none, iMov (.t 80)⟩,
 ⟨some 81, false, none, iExtract 0 (.t 78)⟩,
 ⟨some 82, false, none, iExtract 1 (.t 78)⟩,
 ⟨some 10, true, none, iMov (.t 81)⟩,
 ⟨some 4, true, none, iMov (.t 82)⟩])
 (cSeq (cOps [⟨some 84, false, none, iCall (.c (.func (.func 48) [] [])) []⟩,
 ⟨some 85, false, none, iCall (.c (.func (.func 29) [] [])) [(.t 84), (.c (.int .i64 (.lit 0))), (.c (.int .i64 (.lit 2))), (.c (.int .i64 (.lit 480)))]⟩,
 ⟨some 83, false, none, iMov (.t 85)⟩,
 ⟨some 86, false, none, iExtract 0 (.t 83)⟩,
 ⟨some 87, false, none, iExtract 1 (.t 83)⟩,
 ⟨some 11, true, none, iMov (.t 86)⟩,
 ⟨some 6, true, none, iMov (.t 87)⟩])
 (cSeq (cOps [⟨some 89, false, none, iCall (.c (.func (.func 48) [] [])) []⟩,
 ⟨some 90, false, none, iCall (.c (.func (.func 31) [] [])) [(.t 89), (.c (.int .i64 (.lit 0))), (.c (.int .i64 (.lit 2))), (.c (.int .i64 (.lit 700)))]⟩,
 ⟨some 88, false, none, iMov (.t 90)⟩,
 ⟨some 91, false, none, iExtract 0 (.t 88)⟩,
 ⟨some 92, false, none, iExtract 1 (.t 88)⟩,
 ⟨some 12, true, none, iMov (.t 91)⟩,
 ⟨some 8, true, none, iMov (.t 92)⟩])
 (cSeq (cOps [⟨some 94, false, none, iCall (.c (.func (.func 48) [] [])) []⟩,
 ⟨some 95, false, none, iCall (.c (.func (.func 33) [] [])) [(.t 94), (.c (.int .i64 (.lit 0))), (.c (.int .i64 (.lit 600)))]⟩,
 ⟨some 93, false, none, iMov (.t 95)⟩,
 ⟨some 96, false, none, iExtract 0 (.t 93)⟩,
 ⟨some 97, false, none, iExtract 1 (.t 93)⟩,
 ⟨some 5, true, none, iMov (.t 96)⟩,
 ⟨some 13, true, none, iMov (.t 97)⟩])
 (cSeq (cOps [⟨some 98, false, none, iMov (.t 2)⟩,
 ⟨some 99, false, none, iCmp .eql (.t 98) (.c (.int .i64 (.lit 0)))⟩,
 ⟨some 100, false, none, iMov (.t 99)⟩,
 ⟨some 101, false, some (100, true), iMov (.t 4)⟩,
 ⟨some 102, false, some (100, true), iCmp .eql (.t 101) (.c (.int .i64 (.lit 0)))⟩,
 ⟨some 103, false, none, iPick (.t 100) (.t 102) (.c (.bool (.lit false)))⟩,
 ⟨some 104, false, none, iMov (.t 103)⟩,
 ⟨some 105, false, some (104, true), iMov (.t 6)⟩,
 ⟨some 106, false, some (104, true), iCmp .eql (.t 105) (.c (.int .i64 (.lit 0)))⟩,
 ⟨some 107, false, none, iPick (.t 104) (.t 106) (.c (.bool (.lit false)))⟩,
 ⟨some 108, false, none, iMov (.t 107)⟩,
 ⟨some 109, false, some (108, true), iMov (.t 8)⟩,
 ⟨some 110, false, some (108, true), iCmp .eql (.t 109) (.c (.int .i64 (.lit 0)))⟩,
 ⟨some 111, false, none, iPick (.t 108) (.t 110) (.c (.bool (.lit false)))⟩,
 ⟨some 112, false, none, iMov (.t 111)⟩,
 ⟨some 113, false, some (112, true), iMov (.t 13)⟩,
 ⟨some 114, false, some (112, true), iCmp .eql (.t 113) (.c (.int .i64 (.lit 0)))⟩,
 ⟨some 115, false, none, iPick (.t 112) (.t 114) (.c (.bool (.lit false)))⟩,
 ⟨some 116, false, none, iMov (.t 115)⟩,
 ⟨some 117, false, some (116, true), iMov (.t 9)⟩,
 ⟨some 118, false, some (116, true), iCall (.c (.func (.func 50) [] [])) []⟩,
 ⟨some 119, false, some (116, true), iCall (.c (.func (.func 26) [] [])) [(.t 117), (.t 118)]⟩,
 ⟨some 120, false, none, iPick (.t 116) (.t 119) (.c (.bool (.lit false)))⟩,
 ⟨some 121, false, none, iMov (.t 120)⟩,
 ⟨some 122, false, some (121, true), iMov (.t 10)⟩,
 ⟨some 123, false, some (121, true), iCmp .eql (.t 122) (.c (.int .i64 (.lit 665)))⟩,
 ⟨some 124, false, none, iPick (.t 121) (.t 123) (.c (.bool (.lit false)))⟩,
 ⟨some 125, false, none, iMov (.t 124)⟩,
 ⟨some 126, false, some (125, true), iMov (.t 11)⟩,
 ⟨some 127, false, some (125, true), iCmp .eql (.t 126) (.c (.int .i64 (.lit 650)))⟩,
 ⟨some 128, false, none, iPick (.t 125) (.t 127) (.c (.bool (.lit false)))⟩,
 ⟨some 129, false, none, iMov (.t 128)⟩,
 ⟨some 130, false, some (129, true), iMov (.t 12)⟩,
 ⟨some 131, false, some (129, true), iCmp .eql (.t 130) (.c (.int .i64 (.lit 490)))⟩,
 ⟨some 132, false, none, iPick (.t 129) (.t 131) (.c (.bool (.lit false)))⟩,
 ⟨some 133, false, none, iMov (.t 132)⟩,
 ⟨some 134, false, some (133, true), iMov (.t 5)⟩,
 ⟨some 135, false, some (133, true), iBslice 3 [(.int .i64 (.lit 0))] 3 [(0, 1, (.c (.int .i64 (.lit 600)))), (1, 1, (.c (.int .i64 (.lit 780)))), (2, 1, (.c (.int .i64 (.lit 870))))]⟩,
 ⟨some 136, false, some (133, true), iCall (.c (.func (.func 20) [] [])) [(.t 134), (.t 135)]⟩,
 ⟨some 137, false, none, iPick (.t 133) (.t 136) (.c (.bool (.lit false)))⟩,
 ⟨some 0, true, none, iMov (.t 137)⟩])
 cRet)))))))))))), [.t 0]⟩
noncomputable def Tryd.kp24 : List Nat := [0, 1, 2, 3, 4, 8, 9, 10, 11]
noncomputable def Tryd.cf24 : CF := ⟨4, (cSeq (cOps [⟨some 4, true, none, iBox 25 (.t 0)⟩,
 ⟨some 8, true, none, iMov (.c .nilslice)⟩,
 ⟨some 9, true, none, iMov (.c (.int .i64 (.lit 0)))⟩])
 (cSeq (cOps [⟨some 13, false, none, iLoadN 3 (.t 4)⟩,
 ⟨some 14, false, none, iMov (.t 1)⟩,
 ⟨some 15, false, none, iMov (.t 2)⟩,
 ⟨some 16, false, none, iMov (.t 3)⟩,
 ⟨some 17, false, none, iCall (.c (.func (.func 73) [] [])) [(.t 13), (.c (.int .i64 (.lit 2))), (.t 14), (.t 15), (.t 16)]⟩,
 ⟨some 12, false, none, iMov (.t 17)⟩,
 ⟨some 18, false, none, iExtract 0 (.t 12)⟩,
 ⟨some 19, false, none, iExtract 1 (.t 12)⟩,
 ⟨some 10, true, none, iAlloc 118 [.nilslice, (.int .i64 (.lit 0)), (.int .i64 (.lit 0))]⟩,
 ⟨none, false, none, iStore 3 (.t 10) (.t 18)⟩,
 ⟨some 11, true, none, iMov (.t 19)⟩])
 (cSeq (cOps [⟨some 20, false, none, iFaddr 0 (.t 10)⟩,
 ⟨some 21, false, none, iLoad (.t 20)⟩,
 ⟨some 22, false, none, iMov (.t 11)⟩,
 ⟨some 8, true, none, iMov (.t 21)⟩,
 ⟨some 9, true, none, iMov (.t 22)⟩])
 cRet))), [.t 8, .t 9]⟩
noncomputable def Tryd.kp26 : List Nat := [0, 1, 4, 5, 6, 18]
noncomputable def Tryd.cf26 : CF := ⟨2, (cSeq (cOps [⟨some 4, true, none, iMov (.c (.bool (.lit false)))⟩])
 (cSeq (cOps [⟨some 7, false, none, iMov (.t 0)⟩,
 ⟨some 8, false, none, iLenS (.t 7)⟩,
 ⟨some 9, false, none, iMov (.t 1)⟩,
 ⟨some 10, false, none, iLenS (.t 9)⟩,
 ⟨some 11, false, none, iCmp .eql (.t 8) (.t 10)⟩,
 ⟨some 5, true, none, iMov (.t 11)⟩])
 (cSeq (cSeq (cOps [⟨some 6, true, none, iMov (.c (.int .i64 (.lit 0)))⟩])
 (cBlock 0 (cLoop (cSeq (cSeq (cOps [⟨some 12, false, none, iMov (.t 5)⟩,
 ⟨some 13, false, none, iMov (.t 12)⟩,
 ⟨some 14, false, some (13, true), iMov (.t 6)⟩,
 ⟨some 15, false, some (13, true), iMov (.t 0)⟩,
 ⟨some 16, false, some (13, true), iLenS (.t 15)⟩,
 ⟨some 17, false, some (13, true), iCmp .lss (.t 14) (.t 16)⟩,
 ⟨some 18, true, none, iPick (.t 13) (.t 17) (.c (.bool (.lit false)))⟩])
 (cCond (.t 18) cSkip (cExit 0)))
 (cSeq (cBlock 1 (dOps 0 [⟨⟨some 21, false, none, iMov (.t 0)⟩, [0], false, 0, 0, none, []⟩,
 ⟨⟨some 22, false, none, iMov (.t 6)⟩, [6], false, 0, 0, none, []⟩,
 ⟨⟨some 23, false, none, iIaddr 3 (.t 21) (.t 22)⟩, [21, 22], false, 0, 0, none, []⟩,
 ⟨⟨some 24, false, none, iLoadN 3 (.t 23)⟩, [23], false, 0, 0, none, []⟩,
 ⟨⟨some 25, false, none, iMov (.t 1)⟩, [1], false, 0, 0, none, []⟩,
 ⟨⟨some 26, false, none, iMov (.t 6)⟩, [6], false, 0, 0, none, []⟩,
 ⟨⟨some 27, false, none, iIaddr 3 (.t 25) (.t 26)⟩, [25, 26], false, 0, 0, none, []⟩,
 ⟨⟨some 28, false, none, iLoadN 3 (.t 27)⟩, [27], false, 0, 0, none, []⟩,
 ⟨⟨some 29, false, none, iEq false true 3 [(0, .int), (1, .int), (2, .int)] (.t 24) (.t 28)⟩, [24, 28], false, 0, 0, none, []⟩,
 ⟨⟨some 5, true, none, iMov (.t 29)⟩, [29], false, 0, 0, none, []⟩]))
 (cOps [⟨some 19, false, none, iMov (.t 6)⟩,
 ⟨some 20, false, none, iArith .add (.t 19) (.c (.int .i64 (.lit 1)))⟩,
 ⟨some 6, true, none, iMov (.t 20)⟩]))))))
 (cSeq (cOps [⟨some 30, false, none, iMov (.t 5)⟩,
 ⟨some 4, true, none, iMov (.t 30)⟩])
 cRet)))), [.t 4]⟩
noncomputable def Tryd.kp27 : List Nat := [0, 1, 2, 3, 4, 8, 9, 10, 11]
noncomputable def Tryd.cf27 : CF := ⟨4, (cSeq (cOps [⟨some 4, true, none, iBox 25 (.t 0)⟩,
 ⟨some 8, true, none, iMov (.c (.int .i64 (.lit 0)))⟩,
 ⟨some 9, true, none, iMov (.c (.int .i64 (.lit 0)))⟩])
 (cSeq (cOps [⟨some 13, false, none, iLoadN 3 (.t 4)⟩,
 ⟨some 14, false, none, iMov (.t 1)⟩,
 ⟨some 15, false, none, iMov (.t 2)⟩,
 ⟨some 16, false, none, iMov (.t 3)⟩,
 ⟨some 17, false, none, iCall (.c (.func (.func 73) [] [])) [(.t 13), (.c (.int .i64 (.lit 2))), (.t 14), (.t 15), (.t 16)]⟩,
 ⟨some 12, false, none, iMov (.t 17)⟩,
 ⟨some 18, false, none, iExtract 0 (.t 12)⟩,
 ⟨some 19, false, none, iExtract 1 (.t 12)⟩,
 ⟨some 10, true, none, iAlloc 118 [.nilslice, (.int .i64 (.lit 0)), (.int .i64 (.lit 0))]⟩,
 ⟨none, false, none, iStore 3 (.t 10) (.t 18)⟩,
 ⟨some 11, true, none, iMov (.t 19)⟩])
 (cSeq (cOps [⟨some 20, false, none, iFaddr 2 (.t 10)⟩,
 ⟨some 21, false, none, iLoad (.t 20)⟩,
 ⟨some 22, false, none, iMov (.t 11)⟩,
 ⟨some 8, true, none, iMov (.t 21)⟩,
 ⟨some 9, true, none, iMov (.t 22)⟩])
 cRet))), [.t 8, .t 9]⟩
noncomputable def Tryd.kp29 : List Nat := [0, 1, 2, 3, 4, 8, 9, 10, 11]
noncomputable def Tryd.cf29 : CF := ⟨4, (cSeq (cOps [⟨some 4, true, none, iBox 25 (.t 0)⟩,
 ⟨some 8, true, none, iMov (.c (.int .i64 (.lit 0)))⟩,
 ⟨some 9, true, none, iMov (.c (.int .i64 (.lit 0)))⟩])
 (cSeq (cOps [⟨some 13, false, none, iLoadN 3 (.t 4)⟩,
 ⟨some 14, false, none, iMov (.t 1)⟩,
 ⟨some 15, false, none, iMov (.t 2)⟩,
 ⟨some 16, false, none, iMov (.t 3)⟩,
 ⟨some 17, false, none, iCall (.c (.func (.func 73) [] [])) [(.t 13), (.c (.int .i64 (.lit 1))), (.t 14), (.t 15), (.t 16)]⟩,
 ⟨some 12, false, none, iMov (.t 17)⟩,
 ⟨some 18, false, none, iExtract 0 (.t 12)⟩,
 ⟨some 19, false, none, iExtract 1 (.t 12)⟩,
 ⟨some 10, true, none, iAlloc 118 [.nilslice, (.int .i64 (.lit 0)), (.int .i64 (.lit 0))]⟩,
 ⟨none, false, none, iStore 3 (.t 10) (.t 18)⟩,
 ⟨some 11, true, none, iMov (.t 19)⟩])
 (cSeq (cOps [⟨some 20, false, none, iFaddr 2 (.t 10)⟩,
 ⟨some 21, false, none, iLoad (.t 20)⟩,
 ⟨some 22, false, none, iMov (.t 11)⟩,
 ⟨some 8, true, none, iMov (.t 21)⟩,
 ⟨some 9, true, none, iMov (.t 22)⟩])
 cRet))), [.t 8, .t 9]⟩
noncomputable def Tryd.kp31 : List Nat := [0, 1, 2, 3, 4, 8, 9, 10, 11, 18, 29]
noncomputable def Tryd.cf31 : CF := ⟨4, (cSeq (cOps [⟨some 4, true, none, iBox 25 (.t 0)⟩,
 ⟨some 8, true, none, iMov (.c (.int .i64 (.lit 0)))⟩,
 ⟨some 9, true, none, iMov (.c (.int .i64 (.lit 0)))⟩])
 (cSeq (cOps [⟨some 13, false, none, iLoadN 3 (.t 4)⟩,
 ⟨some 14, false, none, iCall (.c (.func (.func 51) [] [])) [(.t 13)]⟩,
 ⟨some 12, false, none, iMov (.t 14)⟩,
 ⟨some 15, false, none, iExtract 0 (.t 12)⟩,
 ⟨some 16, false, none, iExtract 1 (.t 12)⟩,
 ⟨some 10, true, none, iAlloc 86 [.nilslice, .nilslice, (.int .i64 (.lit 0)), .nilmap]⟩,
 ⟨none, false, none, iStore 4 (.t 10) (.t 15)⟩,
 ⟨some 11, true, none, iMov (.t 16)⟩])
 (cSeq (cSeq (cOps [⟨some 17, false, none, iMov (.t 11)⟩,
 ⟨some 18, true, none, iCmp .neq (.t 17) (.c (.int .i64 (.lit 0)))⟩])
 (cCond (.t 18) (cSeq (cOps [⟨some 19, false, none, iMov (.t 11)⟩,
 ⟨some 8, true, none, iMov (.c (.int .i64 (.lit 0)))⟩,
 ⟨some 9, true, none, iMov (.t 19)⟩])
 cRet) cSkip))
 (cSeq (cSeq (cOps [⟨some 20, false, none, iLoadN 4 (.t 10)⟩,
 ⟨some 21, false, none, iMov (.t 1)⟩,
 ⟨some 22, false, none, iMov (.t 2)⟩,
 ⟨some 23, false, none, iCall (.c (.func (.func 52) [] [])) [(.t 20), (.t 21), (.t 22)]⟩,
 ⟨some 24, false, none, iNot (.t 23)⟩,
 ⟨some 25, false, none, iMov (.t 24)⟩,
 ⟨some 26, false, some (25, false), iMov (.t 3)⟩,
 ⟨some 27, false, some (25, false), iCall (.c (.func (.func 76) [] [])) [(.t 26)]⟩,
 ⟨some 28, false, some (25, false), iNot (.t 27)⟩,
 ⟨some 29, true, none, iPick (.t 25) (.c (.bool (.lit true))) (.t 28)⟩])
 (cCond (.t 29) (cSeq (cOps [⟨some 8, true, none, iMov (.c (.int .i64 (.lit 0)))⟩,
 ⟨some 9, true, none, iMov (.c (.int .i64 (.lit 31)))⟩])
 cRet) cSkip))
 (cSeq (cOps [⟨some 30, false, none, iLoadN 4 (.t 10)⟩,
 ⟨some 31, false, none, iMov (.t 1)⟩,
 ⟨some 32, false, none, iMov (.t 2)⟩,
 ⟨some 33, false, none, iMov (.t 3)⟩,
 ⟨some 34, false, none, iCall (.c (.func (.func 77) [] [])) [(.t 30), (.t 31), (.t 32), (.t 33)]⟩,
 ⟨some 35, false, none, iExtract 0 (.t 34)⟩,
 ⟨some 36, false, none, iExtract 1 (.t 34)⟩,
 ⟨some 8, true, none, iMov (.t 35)⟩,
 ⟨some 9, true, none, iMov (.t 36)⟩])
 cRet))))), [.t 8, .t 9]⟩
noncomputable def Tryd.kp33 : List Nat := [0, 1, 2, 3, 6, 7, 8, 9, 16, 26]
noncomputable def Tryd.cf33 : CF := ⟨3, (cSeq (cOps [⟨some 3, true, none, iBox 25 (.t 0)⟩,
 ⟨some 6, true, none, iMov (.c .nilslice)⟩,
 ⟨some 7, true, none, iMov (.c (.int .i64 (.lit 0)))⟩])
 (cSeq (cOps [⟨some 11, false, none, iLoadN 3 (.t 3)⟩,
 ⟨some 12, false, none, iCall (.c (.func (.func 51) [] [])) [(.t 11)]⟩,
 ⟨some 10, false, none, iMov (.t 12)⟩,
 ⟨some 13, false, none, iExtract 0 (.t 10)⟩,
 ⟨some 14, false, none, iExtract 1 (.t 10)⟩,
 ⟨some 8, true, none, iAlloc 86 [.nilslice, .nilslice, (.int .i64 (.lit 0)), .nilmap]⟩,
 ⟨none, false, none, iStore 4 (.t 8) (.t 13)⟩,
 ⟨some 9, true, none, iMov (.t 14)⟩])
 (cSeq (cSeq (cOps [⟨some 15, false, none, iMov (.t 9)⟩,
 ⟨some 16, true, none, iCmp .neq (.t 15) (.c (.int .i64 (.lit 0)))⟩])
 (cCond (.t 16) (cSeq (cOps [⟨some 17, false, none, iMov (.t 9)⟩,
 ⟨some 6, true, none, iMov (.c .nilslice)⟩,
 ⟨some 7, true, none, iMov (.t 17)⟩])
 cRet) cSkip))
 (cSeq (cSeq (cOps [⟨some 18, false, none, iLoadN 4 (.t 8)⟩,
 ⟨some 19, false, none, iMov (.t 1)⟩,
 ⟨some 20, false, none, iCall (.c (.func (.func 78) [] [])) [(.t 18), (.t 19)]⟩,
 ⟨some 21, false, none, iNot (.t 20)⟩,
 ⟨some 22, false, none, iMov (.t 21)⟩,
 ⟨some 23, false, some (22, false), iMov (.t 2)⟩,
 ⟨some 24, false, some (22, false), iCall (.c (.func (.func 76) [] [])) [(.t 23)]⟩,
 ⟨some 25, false, some (22, false), iNot (.t 24)⟩,
 ⟨some 26, true, none, iPick (.t 22) (.c (.bool (.lit true))) (.t 25)⟩])
 (cCond (.t 26) (cSeq (cOps [⟨some 6, true, none, iMov (.c .nilslice)⟩,
 ⟨some 7, true, none, iMov (.c (.int .i64 (.lit 31)))⟩])
 cRet) cSkip))
 (cSeq (cOps [⟨some 27, false, none, iLoadN 4 (.t 8)⟩,
 ⟨some 28, false, none, iMov (.t 1)⟩,
 ⟨some 29, false, none, iMov (.t 2)⟩,
 ⟨some 30, false, none, iCall (.c (.func (.func 79) [] [])) [(.t 27), (.t 28), (.t 29)]⟩,
 ⟨some 6, true, none, iMov (.t 30)⟩,
 ⟨some 7, true, none, iMov (.c (.int .i64 (.lit 0)))⟩])
 cRet))))), [.t 6, .t 7]⟩
noncomputable def Tryd.kp46 : List Nat := [0, 1, 4]
noncomputable def Tryd.cf46 : CF := ⟨2, (cSeq (cOps [⟨some 4, true, none, iAlloc 39 [(.int .i64 (.lit 0)), (.int .i64 (.lit 0))]⟩])
 (cSeq (cOps [⟨some 5, false, none, iMov (.t 0)⟩,
 ⟨some 6, false, none, iMov (.t 1)⟩,
 ⟨some 7, false, none, iBuild [(.int .i64 (.lit 0)), (.int .i64 (.lit 0))] [(0, 1, (.t 5)), (1, 1, (.t 6))]⟩,
 ⟨none, false, none, iStore 2 (.t 4) (.t 7)⟩])
 cRet)), [.cell 4 true 2]⟩
noncomputable def Tryd.kp48 : List Nat := [0]
noncomputable def Tryd.cf48 : CF := ⟨0, (cSeq (cOps [⟨some 0, true, none, iAlloc 25 [.nilslice, .nilslice, (.int .i64 (.lit 0))]⟩])
 (cSeq (cOps [⟨some 1, false, none, iCall (.c (.func (.func 46) [] [])) [(.c (.int .i64 (.lit 480))), (.c (.int .i64 (.lit 1200)))]⟩,
 ⟨some 2, false, none, iBslice 39 [(.int .i64 (.lit 0)), (.int .i64 (.lit 0))] 1 [(0, 2, (.t 1))]⟩,
 ⟨some 3, false, none, iCall (.c (.func (.func 46) [] [])) [(.c (.int .i64 (.lit 480))), (.c (.int .i64 (.lit 720)))]⟩,
 ⟨some 4, false, none, iCall (.c (.func (.func 46) [] [])) [(.c (.int .i64 (.lit 780))), (.c (.int .i64 (.lit 1140)))]⟩,
 ⟨some 5, false, none, iBslice 39 [(.int .i64 (.lit 0)), (.int .i64 (.lit 0))] 2 [(0, 2, (.t 3)), (2, 2, (.t 4))]⟩,
 ⟨some 6, false, none, iCall (.c (.func (.func 46) [] [])) [(.c (.int .i64 (.lit 420))), (.c (.int .i64 (.lit 1320)))]⟩,
 ⟨some 7, false, none, iBslice 39 [(.int .i64 (.lit 0)), (.int .i64 (.lit 0))] 1 [(0, 2, (.t 6))]⟩,
 ⟨some 8, false, none, iBslice 54 [.nilslice] 3 [(0, 1, (.t 2)), (1, 1, (.t 5)), (2, 1, (.t 7))]⟩,
 ⟨some 9, false, none, iCall (.c (.func (.func 84) [] [])) [(.c (.int .i64 (.lit 0))), (.c (.int .i64 (.lit 500))), (.c (.int .i64 (.lit 500)))]⟩,
 ⟨some 10, false, none, iCall (.c (.func (.func 84) [] [])) [(.c (.int .i64 (.lit 1))), (.c (.int .i64 (.lit 560))), (.c (.int .i64 (.lit 565)))]⟩,
 ⟨some 11, false, none, iCall (.c (.func (.func 84) [] [])) [(.c (.int .i64 (.lit 2))), (.c (.int .i64 (.lit 640))), (.c (.int .i64 (.lit 640)))]⟩,
 ⟨some 12, false, none, iBslice 78 [(.int .i64 (.lit 0)), (.int .i64 (.lit 0)), (.int .i64 (.lit 0))] 3 [(0, 3, (.t 9)), (3, 3, (.t 10)), (6, 3, (.t 11))]⟩,
 ⟨some 13, false, none, iCall (.c (.func (.func 46) [] [])) [(.c (.int .i64 (.lit 0))), (.c (.int .i64 (.lit 20)))]⟩,
 ⟨some 14, false, none, iBuild [.nilslice, (.int .i64 (.lit 0)), (.int .i64 (.lit 0))] [(0, 1, (.t 12)), (1, 2, (.t 13))]⟩,
 ⟨some 15, false, none, iCall (.c (.func (.func 84) [] [])) [(.c (.int .i64 (.lit 1))), (.c (.int .i64 (.lit 590))), (.c (.int .i64 (.lit 600)))]⟩,
 ⟨some 16, false, none, iCall (.c (.func (.func 84) [] [])) [(.c (.int .i64 (.lit 2))), (.c (.int .i64 (.lit 650))), (.c (.int .i64 (.lit 650)))]⟩,
 ⟨some 17, false, none, iBslice 78 [(.int .i64 (.lit 0)), (.int .i64 (.lit 0)), (.int .i64 (.lit 0))] 2 [(0, 3, (.t 15)), (3, 3, (.t 16))]⟩,
 ⟨some 18, false, none, iCall (.c (.func (.func 46) [] [])) [(.c (.int .i64 (.lit 0))), (.c (.int .i64 (.lit 5)))]⟩,
 ⟨some 19, false, none, iBuild [.nilslice, (.int .i64 (.lit 0)), (.int .i64 (.lit 0))] [(0, 1, (.t 17)), (1, 2, (.t 18))]⟩,
 ⟨some 20, false, none, iCall (.c (.func (.func 84) [] [])) [(.c (.int .i64 (.lit 0))), (.c (.int .i64 (.lit 700))), (.c (.int .i64 (.lit 700)))]⟩,
 ⟨some 21, false, none, iCall (.c (.func (.func 84) [] [])) [(.c (.int .i64 (.lit 2))), (.c (.int .i64 (.lit 800))), (.c (.int .i64 (.lit 800)))]⟩,
 ⟨some 22, false, none, iBslice 78 [(.int .i64 (.lit 0)), (.int .i64 (.lit 0)), (.int .i64 (.lit 0))] 2 [(0, 3, (.t 20)), (3, 3, (.t 21))]⟩,
 ⟨some 23, false, none, iCall (.c (.func (.func 46) [] [])) [(.c (.int .i64 (.lit 0))), (.c (.int .i64 (.lit 60)))]⟩,
 ⟨some 24, false, none, iBuild [.nilslice, (.int .i64 (.lit 0)), (.int .i64 (.lit 0))] [(0, 1, (.t 22)), (1, 2, (.t 23))]⟩,
 ⟨some 25, false, none, iCall (.c (.func (.func 84) [] [])) [(.c (.int .i64 (.lit 0))), (.c (.int .i64 (.lit 690))), (.c (.int .i64 (.lit 690)))]⟩,
 ⟨some 26, false, none, iCall (.c (.func (.func 84) [] [])) [(.c (.int .i64 (.lit 1))), (.c (.int .i64 (.lit 705))), (.c (.int .i64 (.lit 710)))]⟩,
 ⟨some 27, false, none, iBslice 78 [(.int .i64 (.lit 0)), (.int .i64 (.lit 0)), (.int .i64 (.lit 0))] 2 [(0, 3, (.t 25)), (3, 3, (.t 26))]⟩,
 ⟨some 28, false, none, iCall (.c (.func (.func 46) [] [])) [(.c (.int .i64 (.lit 0))), (.c (.int .i64 (.lit 10)))]⟩,
 ⟨some 29, false, none, iBuild [.nilslice, (.int .i64 (.lit 0)), (.int .i64 (.lit 0))] [(0, 1, (.t 27)), (1, 2, (.t 28))]⟩,
 ⟨some 30, false, none, iBslice 73 [.nilslice, (.int .i64 (.lit 0)), (.int .i64 (.lit 0))] 4 [(0, 3, (.t 14)), (3, 3, (.t 19)), (6, 3, (.t 24)), (9, 3, (.t 29))]⟩,
 ⟨some 31, false, none, iBuild [.nilslice, .nilslice, (.int .i64 (.lit 0))] [(0, 1, (.t 8)), (2, 1, (.c (.int .i64 (.lit 10)))), (1, 1, (.t 30))]⟩,
 ⟨none, false, none, iStore 3 (.t 0) (.t 31)⟩])
 cRet)), [.cell 0 true 3]⟩
noncomputable def Tryd.kp49 : List Nat := [0, 1, 2, 6]
noncomputable def Tryd.cf49 : CF := ⟨3, (cSeq (cOps [⟨some 6, true, none, iAlloc 80 [(.int .i64 (.lit 0)), (.int .i64 (.lit 0)), (.int .i64 (.lit 0))]⟩])
 (cSeq (cOps [⟨some 7, false, none, iMov (.t 0)⟩,
 ⟨some 8, false, none, iMov (.t 1)⟩,
 ⟨some 9, false, none, iMov (.t 2)⟩,
 ⟨some 10, false, none, iBuild [(.int .i64 (.lit 0)), (.int .i64 (.lit 0)), (.int .i64 (.lit 0))] [(0, 1, (.t 7)), (1, 1, (.t 8)), (2, 1, (.t 9))]⟩,
 ⟨none, false, none, iStore 3 (.t 6) (.t 10)⟩])
 cRet)), [.cell 6 true 3]⟩
noncomputable def Tryd.kp50 : List Nat := [0]
noncomputable def Tryd.cf50 : CF := ⟨0, (cSeq (cOps [⟨some 0, true, none, iMov (.c .nilslice)⟩])
 (cSeq (cOps [⟨some 1, false, none, iCall (.c (.func (.func 49) [] [])) [(.c (.int .i64 (.lit 0))), (.c (.int .i64 (.lit 0))), (.c (.int .i64 (.lit 1)))]⟩,
 ⟨some 2, false, none, iCall (.c (.func (.func 49) [] [])) [(.c (.int .i64 (.lit 1))), (.c (.int .i64 (.lit 0))), (.c (.int .i64 (.lit 1)))]⟩,
 ⟨some 3, false, none, iBslice 80 [(.int .i64 (.lit 0)), (.int .i64 (.lit 0)), (.int .i64 (.lit 0))] 2 [(0, 3, (.t 1)), (3, 3, (.t 2))]⟩,
 ⟨some 0, true, none, iMov (.t 3)⟩])
 cRet)), [.t 0]⟩
noncomputable def Tryd.kp51 : List Nat := [0, 1, 2, 3, 4, 5, 6, 7, 8, 9, 10, 14, 21, 22, 23, 24, 30, 31, 32, 34, 35, 36]
noncomputable def Tryd.cf51 : CF := ⟨1, (cSeq (cOps [⟨some 1, true, none, iBox 25 (.t 0)⟩,
 ⟨some 2, true, none, iAlloc 86 [.nilslice, .nilslice, (.int .i64 (.lit 0)), .nilmap]⟩,
 ⟨some 3, true, none, iMov (.c (.int .i64 (.lit 0)))⟩])
 (cSeq (cSeq (cOps [⟨some 11, false, none, iLoadN 3 (.t 1)⟩,
 ⟨some 12, false, none, iCall (.c (.func (.func 14) [] [])) [(.t 11)]⟩,
 ⟨some 4, true, none, iMov (.t 12)⟩])
 (cSeq (cOps [⟨some 13, false, none, iMov (.t 4)⟩,
 ⟨some 14, true, none, iCmp .neq (.t 13) (.c (.int .i64 (.lit 0)))⟩])
 (cCond (.t 14) (cSeq (cOps [⟨some 15, false, none, iBuild [.nilslice, .nilslice, (.int .i64 (.lit 0)), .nilmap] []⟩,
 ⟨some 16, false, none, iMov (.t 4)⟩,
 ⟨none, false, none, iStore 4 (.t 2) (.t 15)⟩,
 ⟨some 3, true, none, iMov (.t 16)⟩])
 cRet) cSkip)))
 (cSeq (cOps [⟨some 17, false, none, iLoadN 3 (.t 1)⟩,
 ⟨some 18, false, none, iMkmap⟩,
 ⟨some 19, false, none, iBuild [.nilslice, .nilslice, (.int .i64 (.lit 0)), .nilmap] [(0, 3, (.t 17)), (3, 1, (.t 18))]⟩,
 ⟨some 5, true, none, iAlloc 86 [.nilslice, .nilslice, (.int .i64 (.lit 0)), .nilmap]⟩,
 ⟨none, false, none, iStore 4 (.t 5) (.t 19)⟩])
 (cSeq (cSeq (cOps [⟨some 20, false, none, iFaddr 1 (.t 1)⟩,
 ⟨some 21, true, none, iLoad (.t 20)⟩,
 ⟨some 22, true, none, iLenS (.t 21)⟩,
 ⟨some 23, true, none, iMov (.c (.int .i64 (.lit 0)))⟩])
 (cBlock 0 (cLoop (cSeq (cOps [⟨some 24, true, none, iCmp .lss (.t 23) (.t 22)⟩])
 (cSeq (cCond (.t 24) cSkip (cExit 0))
 (cSeq (cBlock 1 (cSeq (cOps [⟨some 25, false, none, iMov (.t 23)⟩,
 ⟨some 26, false, none, iIaddr 3 (.t 21) (.t 23)⟩,
 ⟨some 27, false, none, iLoadN 3 (.t 26)⟩,
 ⟨some 7, true, none, iAlloc 73 [.nilslice, (.int .i64 (.lit 0)), (.int .i64 (.lit 0))]⟩,
 ⟨some 6, true, none, iMov (.t 25)⟩,
 ⟨none, false, none, iStore 3 (.t 7) (.t 27)⟩])
 (cSeq (cOps [⟨some 28, false, none, iFaddr 0 (.t 7)⟩,
 ⟨some 29, false, none, iLoad (.t 28)⟩,
 ⟨some 30, true, none, iLenS (.t 29)⟩,
 ⟨some 31, true, none, iMov (.c (.int .i64 (.lit 0)))⟩])
 (cBlock 2 (cLoop (cSeq (cOps [⟨some 32, true, none, iCmp .lss (.t 31) (.t 30)⟩])
 (cSeq (cCond (.t 32) cSkip (cExit 2))
 (cSeq (cBlock 3 (cSeq (cOps [⟨some 33, false, none, iMov (.t 31)⟩,
 ⟨some 8, true, none, iMov (.t 33)⟩])
 (cSeq (cOps [⟨some 34, true, none, iMov (.t 8)⟩,
 ⟨some 35, true, none, iMov (.c (.int .i64 (.lit 0)))⟩])
 (cBlock 4 (cLoop (cSeq (cOps [⟨some 36, true, none, iCmp .lss (.t 35) (.t 34)⟩])
 (cSeq (cCond (.t 36) cSkip (cExit 4))
 (cSeq (cBlock 5 (cSeq (cOps [⟨some 37, false, none, iMov (.t 35)⟩,
 ⟨some 9, true, none, iMov (.t 37)⟩])
 (cSeq (cOps [⟨some 38, false, none, iMov (.t 6)⟩,
 ⟨some 39, false, none, iMov (.t 9)⟩,
 ⟨some 40, false, none, iMov (.t 8)⟩,
 ⟨some 41, false, none, iBuild [(.int .i64 (.lit 0)), (.int .i64 (.lit 0)), (.int .i64 (.lit 0))] [(0, 1, (.t 38)), (1, 1, (.t 39)), (2, 1, (.t 40))]⟩,
 ⟨some 10, true, none, iAlloc 80 [(.int .i64 (.lit 0)), (.int .i64 (.lit 0)), (.int .i64 (.lit 0))]⟩,
 ⟨none, false, none, iStore 3 (.t 10) (.t 41)⟩])
 (dOps 0 [⟨⟨some 42, false, none, iFaddr 3 (.t 5)⟩, [5], false, 0, 1, none, []⟩,
 ⟨⟨some 43, false, none, iLoad (.t 42)⟩, [42], false, 0, 1, none, []⟩,
 ⟨⟨some 44, false, none, iLoadN 3 (.t 10)⟩, [10], false, 0, 1, none, []⟩,
 ⟨⟨some 45, false, none, iLoadN 3 (.t 7)⟩, [7], false, 0, 0, none, []⟩,
 ⟨⟨some 46, false, none, iLoadN 3 (.t 10)⟩, [10], false, 0, 0, none, []⟩,
 ⟨⟨some 47, false, none, iCall (.c (.func (.func 85) [] [])) [(.t 45), (.t 46)]⟩, [45, 46], true, 0, 0, none, []⟩,
 ⟨⟨none, false, none, iMapset true 3 [(0, .int), (1, .int), (2, .int)] (.t 43) (.t 44) (.t 47)⟩, [43, 44, 47], true, 1, 0, none, []⟩]))))
 (cOps [⟨some 48, false, none, iArith .add (.t 35) (.c (.int .i64 (.lit 1)))⟩,
 ⟨some 35, true, none, iMov (.t 48)⟩])))))))))
 (cOps [⟨some 49, false, none, iArith .add (.t 31) (.c (.int .i64 (.lit 1)))⟩,
 ⟨some 31, true, none, iMov (.t 49)⟩])))))))))
 (cOps [⟨some 50, false, none, iArith .add (.t 23) (.c (.int .i64 (.lit 1)))⟩,
 ⟨some 23, true, none, iMov (.t 50)⟩])))))))
 (cSeq (cOps [⟨some 51, false, none, iLoadN 4 (.t 5)⟩,
 ⟨none, false, none, iStore 4 (.t 2) (.t 51)⟩,
 ⟨some 3, true, none, iMov (.c (.int .i64 (.lit 0)))⟩])
 cRet))))), [.cell 2 true 4, .t 3]⟩
noncomputable def Tryd.kp52 : List Nat := [0, 1, 2, 3, 6]
noncomputable def Tryd.cf52 : CF := ⟨3, (cSeq (cOps [⟨some 3, true, none, iBox 86 (.t 0)⟩,
 ⟨some 6, true, none, iMov (.c (.bool (.lit false)))⟩])
 (cSeq (cOps [⟨some 7, false, none, iLoadN 4 (.t 3)⟩,
 ⟨some 8, false, none, iMov (.t 1)⟩,
 ⟨some 9, false, none, iCall (.c (.func (.func 78) [] [])) [(.t 7), (.t 8)]⟩,
 ⟨some 10, false, none, iMov (.t 9)⟩,
 ⟨some 11, false, some (10, true), iLoadN 4 (.t 3)⟩,
 ⟨some 12, false, some (10, true), iMov (.t 2)⟩,
 ⟨some 13, false, some (10, true), iCall (.c (.func (.func 78) [] [])) [(.t 11), (.t 12)]⟩,
 ⟨some 14, false, none, iPick (.t 10) (.t 13) (.c (.bool (.lit false)))⟩,
 ⟨some 15, false, none, iMov (.t 14)⟩,
 ⟨some 16, false, some (15, true), iMov (.t 1)⟩,
 ⟨some 17, false, some (15, true), iMov (.t 2)⟩,
 ⟨some 18, false, some (15, true), iCmp .neq (.t 16) (.t 17)⟩,
 ⟨some 19, false, none, iPick (.t 15) (.t 18) (.c (.bool (.lit false)))⟩,
 ⟨some 6, true, none, iMov (.t 19)⟩])
 cRet)), [.t 6]⟩
noncomputable def Tryd.kp53 : List Nat := [0, 1, 2, 4, 5, 6, 7, 8, 9, 11, 12, 13, 21, 22, 23, 24, 25, 53]
noncomputable def Tryd.cf53 : CF := ⟨2, (cSeq (cOps [⟨some 2, true, none, iBox 86 (.t 0)⟩,
 ⟨some 4, true, none, iMov (.c .nilslice)⟩,
 ⟨some 5, true, none, iMov (.c (.bool (.lit false)))⟩])
 (cSeq (cSeq (cOps [⟨some 14, false, none, iMov (.t 1)⟩,
 ⟨some 15, false, none, iLenS (.t 14)⟩,
 ⟨some 16, false, none, iCmp .eql (.t 15) (.c (.int .i64 (.lit 0)))⟩,
 ⟨some 17, false, none, iMov (.t 16)⟩,
 ⟨some 18, false, some (17, false), iMov (.t 1)⟩,
 ⟨some 19, false, some (17, false), iLenS (.t 18)⟩,
 ⟨some 20, false, some (17, false), iCmp .gtr (.t 19) (.c (.int .i64 (.lit 4)))⟩,
 ⟨some 21, true, none, iPick (.t 17) (.c (.bool (.lit true))) (.t 20)⟩])
 (cCond (.t 21) (cSeq (cOps [⟨some 4, true, none, iMov (.c .nilslice)⟩,
 ⟨some 5, true, none, iMov (.c (.bool (.lit false)))⟩])
 cRet) cSkip))
 (cSeq (cOps [⟨some 6, true, none, iMov (.c .nilslice)⟩])
 (cSeq (cOps [⟨some 7, true, none, iAlloc 131 [(.bool (.lit false)), (.bool (.lit false)), (.bool (.lit false)), (.bool (.lit false)), (.bool (.lit false)), (.bool (.lit false))]⟩,
 ⟨some 8, true, none, iAlloc 131 [(.bool (.lit false)), (.bool (.lit false)), (.bool (.lit false)), (.bool (.lit false)), (.bool (.lit false)), (.bool (.lit false))]⟩])
 (cSeq (cOps [⟨some 9, true, none, iMov (.c (.int .i64 (.lit 0)))⟩])
 (cSeq (cSeq (cOps [⟨some 22, true, none, iMov (.t 1)⟩,
 ⟨some 23, true, none, iLenS (.t 22)⟩,
 ⟨some 24, true, none, iMov (.c (.int .i64 (.lit 0)))⟩])
 (cBlock 0 (cLoop (cSeq (cOps [⟨some 25, true, none, iCmp .lss (.t 24) (.t 23)⟩])
 (cSeq (cCond (.t 25) cSkip (cExit 0))
 (cSeq (cBlock 1 (cSeq (cOps [⟨some 26, false, none, iIaddr 3 (.t 22) (.t 24)⟩,
 ⟨some 27, false, none, iLoadN 3 (.t 26)⟩,
 ⟨some 11, true, none, iAlloc 80 [(.int .i64 (.lit 0)), (.int .i64 (.lit 0)), (.int .i64 (.lit 0))]⟩,
 ⟨none, false, none, iStore 3 (.t 11) (.t 27)⟩])
 (cSeq (cOps [⟨some 29, false, none, iFaddr 3 (.t 2)⟩,
 ⟨some 30, false, none, iLoad (.t 29)⟩,
 ⟨some 31, false, none, iLoadN 3 (.t 11)⟩,
 ⟨some 32, false, none, iLookup (.agg [(.int .i64 (.lit 0)), (.int .i64 (.lit 0)), (.int .i64 (.lit 0)), (.int .i64 (.lit 0)), (.int .i64 (.lit 0)), (.int .i64 (.lit 0)), (.int .i64 (.lit 0)), (.int .i64 (.lit 0)), (.int .i64 (.lit 0))]) true 3 [(0, .int), (1, .int), (2, .int)] true (.t 30) (.t 31)⟩,
 ⟨some 28, false, none, iMov (.t 32)⟩,
 ⟨some 33, false, none, iExtract 0 (.t 28)⟩,
 ⟨some 34, false, none, iExtract 1 (.t 28)⟩,
 ⟨some 12, true, none, iAlloc 94 [(.int .i64 (.lit 0)), (.int .i64 (.lit 0)), (.int .i64 (.lit 0)), (.int .i64 (.lit 0)), (.int .i64 (.lit 0)), (.int .i64 (.lit 0)), (.int .i64 (.lit 0)), (.int .i64 (.lit 0)), (.int .i64 (.lit 0))]⟩,
 ⟨none, false, none, iStore 9 (.t 12) (.t 33)⟩,
 ⟨some 13, true, none, iMov (.t 34)⟩])
 (cSeq (cSeq (cOps [⟨some 35, false, none, iMov (.t 13)⟩,
 ⟨some 36, false, none, iNot (.t 35)⟩,
 ⟨some 37, false, none, iMov (.t 36)⟩,
 ⟨some 38, false, some (37, false), iFaddr 0 (.t 11)⟩,
 ⟨some 39, false, some (37, false), iLoad (.t 38)⟩,
 ⟨some 40, false, some (37, false), iIaddrA 1 6 (.t 7) (.t 39)⟩,
 ⟨some 41, false, some (37, false), iLoad (.t 40)⟩,
 ⟨some 42, false, none, iPick (.t 37) (.c (.bool (.lit true))) (.t 41)⟩,
 ⟨some 43, false, none, iMov (.t 42)⟩,
 ⟨some 44, false, some (43, false), iLoadN 6 (.t 7)⟩,
 ⟨some 45, false, some (43, false), iLoadN 6 (.t 8)⟩,
 ⟨some 46, false, some (43, false), iEq true true 6 [(0, .bool), (1, .bool), (2, .bool), (3, .bool), (4, .bool), (5, .bool)] (.t 44) (.t 45)⟩,
 ⟨some 47, false, some (43, false), iMov (.t 46)⟩,
 ⟨some 48, false, some (47, true), iFaddr 3 (.t 12)⟩,
 ⟨some 49, false, some (47, true), iLoad (.t 48)⟩,
 ⟨some 50, false, some (47, true), iMov (.t 9)⟩,
 ⟨some 51, false, some (47, true), iCmp .neq (.t 49) (.t 50)⟩,
 ⟨some 52, false, some (43, false), iPick (.t 47) (.t 51) (.c (.bool (.lit false)))⟩,
 ⟨some 53, true, none, iPick (.t 43) (.c (.bool (.lit true))) (.t 52)⟩])
 (cCond (.t 53) (cSeq (cOps [⟨some 4, true, none, iMov (.c .nilslice)⟩,
 ⟨some 5, true, none, iMov (.c (.bool (.lit false)))⟩])
 cRet) cSkip))
 (cSeq (cOps [⟨some 54, false, none, iFaddr 0 (.t 11)⟩,
 ⟨some 55, false, none, iLoad (.t 54)⟩,
 ⟨some 56, false, none, iIaddrA 1 6 (.t 7) (.t 55)⟩,
 ⟨none, false, none, iStore 1 (.t 56) (.c (.bool (.lit true)))⟩])
 (dOps 0 [⟨⟨some 57, false, none, iMov (.t 6)⟩, [6], false, 0, 1, none, []⟩,
 ⟨⟨some 58, false, none, iLoadN 9 (.t 12)⟩, [12], false, 0, 0, none, []⟩,
 ⟨⟨some 59, false, none, iBslice 94 [(.int .i64 (.lit 0)), (.int .i64 (.lit 0)), (.int .i64 (.lit 0)), (.int .i64 (.lit 0)), (.int .i64 (.lit 0)), (.int .i64 (.lit 0)), (.int .i64 (.lit 0)), (.int .i64 (.lit 0)), (.int .i64 (.lit 0))] 1 [(0, 9, (.t 58))]⟩, [58], true, 0, 0, none, []⟩,
 ⟨⟨some 60, false, none, iAppend 94 9 72 (.t 57) (.t 59)⟩, [57, 59], true, 1, 0, none, []⟩,
 ⟨⟨some 61, false, none, iFaddr 4 (.t 12)⟩, [12], false, 0, 2, none, []⟩,
 ⟨⟨some 62, false, none, iLoad (.t 61)⟩, [61], false, 0, 2, none, []⟩,
 ⟨⟨some 6, true, none, iMov (.t 60)⟩, [60], false, 2, 2, none, []⟩,
 ⟨⟨some 9, true, none, iMov (.t 62)⟩, [62], false, 2, 2, none, []⟩]))))))
 (cOps [⟨some 63, false, none, iArith .add (.t 24) (.c (.int .i64 (.lit 1)))⟩,
 ⟨some 24, true, none, iMov (.t 63)⟩])))))))
 (cSeq (dOps 0 [⟨⟨some 64, false, none, iMov (.t 6)⟩, [6], false, 0, 0, none, []⟩,
 ⟨⟨some 65, false, none, iMov (.t 9)⟩, [9], false, 0, 0, none, []⟩,
 ⟨⟨some 66, false, none, iMov (.t 6)⟩, [6], false, 0, 0, none, []⟩,
 ⟨⟨some 67, false, none, iIaddr 9 (.t 66) (.c (.int .i64 (.lit 0)))⟩, [66], false, 0, 0, none, []⟩,
 ⟨⟨some 68, false, none, iFaddr 3 (.t 67)⟩, [67], false, 0, 0, none, []⟩,
 ⟨⟨some 69, false, none, iLoad (.t 68)⟩, [68], false, 0, 0, none, []⟩,
 ⟨⟨some 70, false, none, iCmp .neq (.t 65) (.t 69)⟩, [65, 69], false, 0, 0, none, []⟩,
 ⟨⟨some 4, true, none, iMov (.t 64)⟩, [64], false, 0, 0, none, []⟩,
 ⟨⟨some 5, true, none, iMov (.t 70)⟩, [70], false, 0, 0, none, []⟩])
 cRet))))))), [.t 4, .t 5]⟩
noncomputable def Tryd.kp57 : List Nat := [0, 1, 2, 3, 4, 6, 8, 17, 18, 19, 27, 30, 31, 32, 33, 38, 41, 42, 43, 44, 58]
noncomputable def Tryd.cf57 : CF := ⟨1, (cSeq (cOps [⟨some 1, true, none, iBox 25 (.t 0)⟩,
 ⟨some 2, true, none, iMov (.c (.bool (.lit false)))⟩])
 (cSeq (cSeq (cOps [⟨some 9, false, none, iFaddr 0 (.t 1)⟩,
 ⟨some 10, false, none, iLoad (.t 9)⟩,
 ⟨some 11, false, none, iLenS (.t 10)⟩,
 ⟨some 12, false, none, iFaddr 1 (.t 1)⟩,
 ⟨some 13, false, none, iLoad (.t 12)⟩,
 ⟨some 14, false, none, iLenS (.t 13)⟩,
 ⟨some 15, false, none, iFaddr 2 (.t 1)⟩,
 ⟨some 16, false, none, iLoad (.t 15)⟩,
 ⟨some 17, true, none, iBuild [(.int .i64 (.lit 0)), (.int .i64 (.lit 0)), (.int .i64 (.lit 0))] [(0, 1, (.t 11)), (1, 1, (.t 14)), (2, 1, (.t 16))]⟩,
 ⟨some 18, true, none, iMov (.c (.int .i64 (.lit 0)))⟩])
 (cBlock 0 (cLoop (cSeq (cOps [⟨some 19, true, none, iCmp .lss (.t 18) (.c (.int .i64 (.lit 3)))⟩])
 (cSeq (cCond (.t 19) cSkip (cExit 0))
 (cSeq (cBlock 1 (cSeq (cOps [⟨some 20, false, none, iMov (.t 18)⟩,
 ⟨some 21, false, none, iIndex false 1 3 (.t 17) (.t 18)⟩,
 ⟨some 3, true, none, iMov (.t 20)⟩,
 ⟨some 4, true, none, iMov (.t 21)⟩])
 (cSeq (cOps [⟨some 22, false, none, iMov (.t 4)⟩,
 ⟨some 23, false, none, iMov (.t 3)⟩,
 ⟨some 24, false, none, iIaddrA 2 3 (.c (.ptr 0 0)) (.t 23)⟩,
 ⟨some 25, false, none, iLoadN 2 (.t 24)⟩,
 ⟨some 26, false, none, iCall (.c (.func (.func 86) [] [])) [(.t 22), (.t 25)]⟩,
 ⟨some 27, true, none, iNot (.t 26)⟩])
 (cCond (.t 27) (cSeq (cOps [⟨some 2, true, none, iMov (.c (.bool (.lit false)))⟩])
 cRet) cSkip))))
 (cOps [⟨some 28, false, none, iArith .add (.t 18) (.c (.int .i64 (.lit 1)))⟩,
 ⟨some 18, true, none, iMov (.t 28)⟩])))))))
 (cSeq (cSeq (cOps [⟨some 29, false, none, iFaddr 0 (.t 1)⟩,
 ⟨some 30, true, none, iLoad (.t 29)⟩,
 ⟨some 31, true, none, iLenS (.t 30)⟩,
 ⟨some 32, true, none, iMov (.c (.int .i64 (.lit 0)))⟩])
 (cBlock 2 (cLoop (cSeq (cOps [⟨some 33, true, none, iCmp .lss (.t 32) (.t 31)⟩])
 (cSeq (cCond (.t 33) cSkip (cExit 2))
 (cSeq (cBlock 3 (cSeq (cOps [⟨some 34, false, none, iIaddr 1 (.t 30) (.t 32)⟩,
 ⟨some 35, false, none, iLoad (.t 34)⟩,
 ⟨some 6, true, none, iMov (.t 35)⟩])
 (cSeq (cOps [⟨some 36, false, none, iMov (.t 6)⟩,
 ⟨some 37, false, none, iCall (.c (.func (.func 87) [] [])) [(.t 36)]⟩,
 ⟨some 38, true, none, iNot (.t 37)⟩])
 (cCond (.t 38) (cSeq (cOps [⟨some 2, true, none, iMov (.c (.bool (.lit false)))⟩])
 cRet) cSkip))))
 (cOps [⟨some 39, false, none, iArith .add (.t 32) (.c (.int .i64 (.lit 1)))⟩,
 ⟨some 32, true, none, iMov (.t 39)⟩])))))))
 (cSeq (cSeq (cOps [⟨some 40, false, none, iFaddr 1 (.t 1)⟩,
 ⟨some 41, true, none, iLoad (.t 40)⟩,
 ⟨some 42, true, none, iLenS (.t 41)⟩,
 ⟨some 43, true, none, iMov (.c (.int .i64 (.lit 0)))⟩])
 (cBlock 4 (cLoop (cSeq (cOps [⟨some 44, true, none, iCmp .lss (.t 43) (.t 42)⟩])
 (cSeq (cCond (.t 44) cSkip (cExit 4))
 (cSeq (cBlock 5 (cSeq (cOps [⟨some 45, false, none, iIaddr 3 (.t 41) (.t 43)⟩,
 ⟨some 46, false, none, iLoadN 3 (.t 45)⟩,
 ⟨some 8, true, none, iAlloc 73 [.nilslice, (.int .i64 (.lit 0)), (.int .i64 (.lit 0))]⟩,
 ⟨none, false, none, iStore 3 (.t 8) (.t 46)⟩])
 (cSeq (cOps [⟨some 47, false, none, iLoadN 3 (.t 8)⟩,
 ⟨some 48, false, none, iCall (.c (.func (.func 88) [] [])) [(.t 47)]⟩,
 ⟨some 49, false, none, iNot (.t 48)⟩,
 ⟨some 50, false, none, iMov (.t 49)⟩,
 ⟨some 51, false, some (50, false), iFaddr 0 (.t 8)⟩,
 ⟨some 52, false, some (50, false), iLoad (.t 51)⟩,
 ⟨some 53, false, some (50, false), iFaddr 0 (.t 1)⟩,
 ⟨some 54, false, some (50, false), iLoad (.t 53)⟩,
 ⟨some 55, false, some (50, false), iLenS (.t 54)⟩,
 ⟨some 56, false, some (50, false), iCall (.c (.func (.func 89) [] [])) [(.t 52), (.t 55)]⟩,
 ⟨some 57, false, some (50, false), iNot (.t 56)⟩,
 ⟨some 58, true, none, iPick (.t 50) (.c (.bool (.lit true))) (.t 57)⟩])
 (cCond (.t 58) (cSeq (cOps [⟨some 2, true, none, iMov (.c (.bool (.lit false)))⟩])
 cRet) cSkip))))
 (cOps [⟨some 59, false, none, iArith .add (.t 43) (.c (.int .i64 (.lit 1)))⟩,
 ⟨some 43, true, none, iMov (.t 59)⟩])))))))
 (cSeq (cOps [⟨some 2, true, none, iMov (.c (.bool (.lit true)))⟩])
 cRet))))), [.t 2]⟩
noncomputable def Tryd.kp60 : List Nat := [0, 1, 2, 3, 6, 7, 8, 9, 10, 11, 18, 33]
noncomputable def Tryd.cf60 : CF := ⟨3, (cSeq (cOps [⟨some 3, true, none, iBox 25 (.t 0)⟩,
 ⟨some 6, true, none, iAlloc 102 [.nilslice, .nilslice, (.int .i64 (.lit 0)), .nilmap, .nilslice, (.int .i64 (.lit 0))]⟩,
 ⟨some 7, true, none, iMov (.c (.int .i64 (.lit 0)))⟩])
 (cSeq (cOps [⟨some 13, false, none, iLoadN 3 (.t 3)⟩,
 ⟨some 14, false, none, iCall (.c (.func (.func 51) [] [])) [(.t 13)]⟩,
 ⟨some 12, false, none, iMov (.t 14)⟩,
 ⟨some 15, false, none, iExtract 0 (.t 12)⟩,
 ⟨some 16, false, none, iExtract 1 (.t 12)⟩,
 ⟨some 8, true, none, iAlloc 86 [.nilslice, .nilslice, (.int .i64 (.lit 0)), .nilmap]⟩,
 ⟨none, false, none, iStore 4 (.t 8) (.t 15)⟩,
 ⟨some 9, true, none, iMov (.t 16)⟩])
 (cSeq (cSeq (cOps [⟨some 17, false, none, iMov (.t 9)⟩,
 ⟨some 18, true, none, iCmp .neq (.t 17) (.c (.int .i64 (.lit 0)))⟩])
 (cCond (.t 18) (cSeq (cOps [⟨some 19, false, none, iBuild [.nilslice, .nilslice, (.int .i64 (.lit 0)), .nilmap, .nilslice, (.int .i64 (.lit 0))] []⟩,
 ⟨some 20, false, none, iMov (.t 9)⟩,
 ⟨none, false, none, iStore 6 (.t 6) (.t 19)⟩,
 ⟨some 7, true, none, iMov (.t 20)⟩])
 cRet) cSkip))
 (cSeq (cOps [⟨some 22, false, none, iLoadN 4 (.t 8)⟩,
 ⟨some 23, false, none, iMov (.t 1)⟩,
 ⟨some 24, false, none, iCall (.c (.func (.func 53) [] [])) [(.t 22), (.t 23)]⟩,
 ⟨some 21, false, none, iMov (.t 24)⟩,
 ⟨some 25, false, none, iExtract 0 (.t 21)⟩,
 ⟨some 26, false, none, iExtract 1 (.t 21)⟩,
 ⟨some 10, true, none, iMov (.t 25)⟩,
 ⟨some 11, true, none, iMov (.t 26)⟩])
 (cSeq (cSeq (cOps [⟨some 27, false, none, iMov (.t 11)⟩,
 ⟨some 28, false, none, iNot (.t 27)⟩,
 ⟨some 29, false, none, iMov (.t 28)⟩,
 ⟨some 30, false, some (29, false), iMov (.t 2)⟩,
 ⟨some 31, false, some (29, false), iCall (.c (.func (.func 76) [] [])) [(.t 30)]⟩,
 ⟨some 32, false, some (29, false), iNot (.t 31)⟩,
 ⟨some 33, true, none, iPick (.t 29) (.c (.bool (.lit true))) (.t 32)⟩])
 (cCond (.t 33) (cSeq (cOps [⟨some 34, false, none, iBuild [.nilslice, .nilslice, (.int .i64 (.lit 0)), .nilmap, .nilslice, (.int .i64 (.lit 0))] []⟩,
 ⟨none, false, none, iStore 6 (.t 6) (.t 34)⟩,
 ⟨some 7, true, none, iMov (.c (.int .i64 (.lit 31)))⟩])
 cRet) cSkip))
 (cSeq (cOps [⟨some 35, false, none, iLoadN 4 (.t 8)⟩,
 ⟨some 36, false, none, iMov (.t 10)⟩,
 ⟨some 37, false, none, iMov (.t 2)⟩,
 ⟨some 38, false, none, iBuild [.nilslice, .nilslice, (.int .i64 (.lit 0)), .nilmap, .nilslice, (.int .i64 (.lit 0))] [(0, 4, (.t 35)), (4, 1, (.t 36)), (5, 1, (.t 37))]⟩,
 ⟨none, false, none, iStore 6 (.t 6) (.t 38)⟩,
 ⟨some 7, true, none, iMov (.c (.int .i64 (.lit 0)))⟩])
 cRet)))))), [.cell 6 true 6, .t 7]⟩
noncomputable def Tryd.kp61 : List Nat := [0, 1, 2, 4, 6, 9, 10, 11, 12, 22]
noncomputable def Tryd.cf61 : CF := ⟨1, (cSeq (cOps [⟨some 1, true, none, iBox 102 (.t 0)⟩,
 ⟨some 2, true, none, iMov (.c (.int .i64 (.lit 0)))⟩])
 (cSeq (cSeq (cOps [⟨some 7, false, none, iLoadN 6 (.t 1)⟩,
 ⟨some 8, false, none, iCall (.c (.func (.func 65) [] [])) [(.t 7)]⟩,
 ⟨some 9, true, none, iNot (.t 8)⟩])
 (cCond (.t 9) (cSeq (cOps [⟨some 2, true, none, iMov (.c (.int .i64 (.lit 0)))⟩])
 cRet) cSkip))
 (cSeq (cSeq (cOps [⟨some 10, true, none, iBuild [(.int .i64 (.lit 0)), (.int .i64 (.lit 0))] [(0, 1, (.c (.int .i64 (.lit 2)))), (1, 1, (.c (.int .i64 (.lit 1))))]⟩,
 ⟨some 11, true, none, iMov (.c (.int .i64 (.lit 0)))⟩])
 (cBlock 0 (cLoop (cSeq (cOps [⟨some 12, true, none, iCmp .lss (.t 11) (.c (.int .i64 (.lit 2)))⟩])
 (cSeq (cCond (.t 12) cSkip (cExit 0))
 (cSeq (cBlock 1 (cSeq (cOps [⟨some 13, false, none, iIndex false 1 2 (.t 10) (.t 11)⟩,
 ⟨some 4, true, none, iMov (.t 13)⟩])
 (cSeq (cOps [⟨some 15, false, none, iLoadN 6 (.t 1)⟩,
 ⟨some 16, false, none, iMov (.t 4)⟩,
 ⟨some 17, false, none, iCall (.c (.func (.func 66) [] [])) [(.t 15), (.t 16)]⟩,
 ⟨some 14, false, none, iMov (.t 17)⟩,
 ⟨some 18, false, none, iExtract 0 (.t 14)⟩,
 ⟨some 19, false, none, iExtract 1 (.t 14)⟩,
 ⟨some 5, false, none, iMov (.t 18)⟩,
 ⟨some 6, true, none, iMov (.t 19)⟩])
 (cSeq (cOps [⟨some 20, false, none, iMov (.t 6)⟩,
 ⟨some 21, false, none, iLenS (.t 20)⟩,
 ⟨some 22, true, none, iCmp .eql (.t 21) (.c (.int .i64 (.lit 0)))⟩])
 (cCond (.t 22) (cSeq (cOps [⟨some 23, false, none, iMov (.t 4)⟩,
 ⟨some 2, true, none, iMov (.t 23)⟩])
 cRet) cSkip)))))
 (cOps [⟨some 24, false, none, iArith .add (.t 11) (.c (.int .i64 (.lit 1)))⟩,
 ⟨some 11, true, none, iMov (.t 24)⟩])))))))
 (cSeq (cOps [⟨some 2, true, none, iMov (.c (.int .i64 (.lit 0)))⟩])
 cRet)))), [.t 2]⟩
noncomputable def Tryd.kp65 : List Nat := [0, 1, 2]
noncomputable def Tryd.cf65 : CF := ⟨1, (cSeq (cOps [⟨some 1, true, none, iBox 102 (.t 0)⟩,
 ⟨some 2, true, none, iMov (.c (.bool (.lit false)))⟩])
 (cSeq (dOps 0 [⟨⟨some 3, false, none, iFaddr 0 (.t 1)⟩, [1], false, 0, 0, none, []⟩,
 ⟨⟨some 4, false, none, iLoadN 4 (.t 3)⟩, [3], false, 0, 0, none, []⟩,
 ⟨⟨some 5, false, none, iFaddr 4 (.t 1)⟩, [1], false, 0, 0, none, []⟩,
 ⟨⟨some 6, false, none, iLoad (.t 5)⟩, [5], false, 0, 0, none, []⟩,
 ⟨⟨some 7, false, none, iIaddr 9 (.t 6) (.c (.int .i64 (.lit 0)))⟩, [6], false, 0, 0, none, []⟩,
 ⟨⟨some 8, false, none, iFaddr 3 (.t 7)⟩, [7], false, 0, 0, none, []⟩,
 ⟨⟨some 9, false, none, iLoad (.t 8)⟩, [8], false, 0, 0, none, []⟩,
 ⟨⟨some 10, false, none, iFaddr 5 (.t 1)⟩, [1], false, 0, 0, none, []⟩,
 ⟨⟨some 11, false, none, iLoad (.t 10)⟩, [10], false, 0, 0, none, []⟩,
 ⟨⟨some 12, false, none, iCall (.c (.func (.func 90) [] [])) [(.t 4), (.t 9), (.t 11)]⟩, [4, 9, 11], true, 0, 0, none, []⟩,
 ⟨⟨some 2, true, none, iMov (.t 12)⟩, [12], false, 1, 1, none, []⟩])
 cRet)), [.t 2]⟩
noncomputable def Tryd.kp66 : List Nat := [0, 1, 2, 4, 5, 6, 7, 8, 9, 10, 17, 18, 19, 20, 37]
noncomputable def Tryd.cf66 : CF := ⟨2, (cSeq (cOps [⟨some 2, true, none, iBox 102 (.t 0)⟩,
 ⟨some 4, true, none, iMov (.c (.int .i64 (.lit 0)))⟩,
 ⟨some 5, true, none, iMov (.c .nilslice)⟩])
 (cSeq (cOps [⟨some 11, false, none, iCall (.c (.func (.func 91) [] [])) []⟩,
 ⟨some 12, false, none, iMov (.t 1)⟩,
 ⟨some 13, false, none, iIndex false 1 3 (.t 11) (.t 12)⟩,
 ⟨some 6, true, none, iMov (.t 13)⟩])
 (cSeq (cOps [⟨some 14, false, none, iFaddr 5 (.t 2)⟩,
 ⟨some 15, false, none, iLoad (.t 14)⟩,
 ⟨some 4, true, none, iMov (.t 15)⟩])
 (cSeq (cSeq (cOps [⟨some 16, false, none, iFaddr 4 (.t 2)⟩,
 ⟨some 17, true, none, iLoad (.t 16)⟩,
 ⟨some 18, true, none, iLenS (.t 17)⟩,
 ⟨some 19, true, none, iMov (.c (.int .i64 (.lit 0)))⟩])
 (cBlock 0 (cLoop (cSeq (cOps [⟨some 20, true, none, iCmp .lss (.t 19) (.t 18)⟩])
 (cSeq (cCond (.t 20) cSkip (cExit 0))
 (cSeq (cBlock 1 (cSeq (cOps [⟨some 21, false, none, iMov (.t 19)⟩,
 ⟨some 22, false, none, iIaddr 9 (.t 17) (.t 19)⟩,
 ⟨some 23, false, none, iLoadN 9 (.t 22)⟩,
 ⟨some 8, true, none, iAlloc 94 [(.int .i64 (.lit 0)), (.int .i64 (.lit 0)), (.int .i64 (.lit 0)), (.int .i64 (.lit 0)), (.int .i64 (.lit 0)), (.int .i64 (.lit 0)), (.int .i64 (.lit 0)), (.int .i64 (.lit 0)), (.int .i64 (.lit 0))]⟩,
 ⟨some 7, true, none, iMov (.t 21)⟩,
 ⟨none, false, none, iStore 9 (.t 8) (.t 23)⟩])
 (cSeq (cOps [⟨some 25, false, none, iMov (.t 6)⟩,
 ⟨some 26, false, none, iLoadN 9 (.t 8)⟩,
 ⟨some 27, false, none, iMov (.t 4)⟩,
 ⟨some 28, false, none, iFaddr 0 (.t 2)⟩,
 ⟨some 29, false, none, iFaddr 0 (.t 28)⟩,
 ⟨some 30, false, none, iFaddr 2 (.t 29)⟩,
 ⟨some 31, false, none, iLoad (.t 30)⟩,
 ⟨some 32, false, none, iArith .add (.t 27) (.t 31)⟩,
 ⟨some 33, false, none, iCall (.t 25) [(.t 26), (.t 32)]⟩,
 ⟨some 24, false, none, iMov (.t 33)⟩,
 ⟨some 34, false, none, iExtract 0 (.t 24)⟩,
 ⟨some 35, false, none, iExtract 1 (.t 24)⟩,
 ⟨some 9, true, none, iMov (.t 34)⟩,
 ⟨some 10, true, none, iMov (.t 35)⟩])
 (cSeq (cSeq (cOps [⟨some 36, false, none, iMov (.t 10)⟩,
 ⟨some 37, true, none, iNot (.t 36)⟩])
 (cCond (.t 37) (cOps [⟨some 38, false, none, iMov (.t 5)⟩,
 ⟨some 39, false, none, iMov (.t 7)⟩,
 ⟨some 40, false, none, iBslice 3 [(.int .i64 (.lit 0))] 1 [(0, 1, (.t 39))]⟩,
 ⟨some 41, false, none, iAppend 3 1 8 (.t 38) (.t 40)⟩,
 ⟨some 5, true, none, iMov (.t 41)⟩]) cSkip))
 (cOps [⟨some 42, false, none, iMov (.t 9)⟩,
 ⟨some 4, true, none, iMov (.t 42)⟩])))))
 (cOps [⟨some 43, false, none, iArith .add (.t 19) (.c (.int .i64 (.lit 1)))⟩,
 ⟨some 19, true, none, iMov (.t 43)⟩])))))))
 (cSeq (cOps [⟨some 44, false, none, iMov (.t 4)⟩,
 ⟨some 45, false, none, iMov (.t 5)⟩,
 ⟨some 4, true, none, iMov (.t 44)⟩,
 ⟨some 5, true, none, iMov (.t 45)⟩])
 cRet))))), [.t 4, .t 5]⟩
noncomputable def Tryd.kp71 : List Nat := [0, 1, 2, 4, 5]
noncomputable def Tryd.cf71 : CF := ⟨2, (cSeq (cOps [⟨some 2, true, none, iBox 102 (.t 0)⟩,
 ⟨some 4, true, none, iMov (.c (.int .i64 (.lit 0)))⟩])
 (cSeq (cOps [⟨some 8, false, none, iLoadN 6 (.t 2)⟩,
 ⟨some 9, false, none, iMov (.t 1)⟩,
 ⟨some 10, false, none, iCall (.c (.func (.func 66) [] [])) [(.t 8), (.t 9)]⟩,
 ⟨some 7, false, none, iMov (.t 10)⟩,
 ⟨some 11, false, none, iExtract 0 (.t 7)⟩,
 ⟨some 12, false, none, iExtract 1 (.t 7)⟩,
 ⟨some 5, true, none, iMov (.t 11)⟩,
 ⟨some 6, false, none, iMov (.t 12)⟩])
 (cSeq (dOps 0 [⟨⟨some 13, false, none, iFaddr 0 (.t 2)⟩, [2], false, 0, 0, none, []⟩,
 ⟨⟨some 14, false, none, iLoadN 4 (.t 13)⟩, [13], false, 0, 0, none, []⟩,
 ⟨⟨some 15, false, none, iFaddr 4 (.t 2)⟩, [2], false, 0, 0, none, []⟩,
 ⟨⟨some 16, false, none, iLoad (.t 15)⟩, [15], false, 0, 0, none, []⟩,
 ⟨⟨some 17, false, none, iFaddr 4 (.t 2)⟩, [2], false, 0, 0, none, []⟩,
 ⟨⟨some 18, false, none, iLoad (.t 17)⟩, [17], false, 0, 0, none, []⟩,
 ⟨⟨some 19, false, none, iLenS (.t 18)⟩, [18], false, 0, 0, none, []⟩,
 ⟨⟨some 20, false, none, iArith .sub (.t 19) (.c (.int .i64 (.lit 1)))⟩, [19], false, 0, 0, none, []⟩,
 ⟨⟨some 21, false, none, iIaddr 9 (.t 16) (.t 20)⟩, [16, 20], false, 0, 0, none, []⟩,
 ⟨⟨some 22, false, none, iFaddr 4 (.t 21)⟩, [21], false, 0, 0, none, []⟩,
 ⟨⟨some 23, false, none, iLoad (.t 22)⟩, [22], false, 0, 0, none, []⟩,
 ⟨⟨some 24, false, none, iMov (.t 5)⟩, [5], false, 0, 0, none, []⟩,
 ⟨⟨some 25, false, none, iFaddr 0 (.t 2)⟩, [2], false, 0, 0, none, []⟩,
 ⟨⟨some 26, false, none, iFaddr 0 (.t 25)⟩, [25], false, 0, 0, none, []⟩,
 ⟨⟨some 27, false, none, iFaddr 2 (.t 26)⟩, [26], false, 0, 0, none, []⟩,
 ⟨⟨some 28, false, none, iLoad (.t 27)⟩, [27], false, 0, 0, none, []⟩,
 ⟨⟨some 29, false, none, iArith .add (.t 24) (.t 28)⟩, [24, 28], false, 0, 0, none, []⟩,
 ⟨⟨some 30, false, none, iCall (.c (.func (.func 92) [] [])) [(.t 14), (.t 23), (.t 29)]⟩, [14, 23, 29], true, 0, 0, none, []⟩,
 ⟨⟨some 4, true, none, iMov (.t 30)⟩, [30], false, 1, 1, none, []⟩])
 cRet))), [.t 4]⟩
noncomputable def Tryd.kp73 : List Nat := [0, 1, 2, 3, 4, 5, 10, 11, 12, 13, 20]
noncomputable def Tryd.cf73 : CF := ⟨5, (cSeq (cOps [⟨some 5, true, none, iBox 25 (.t 0)⟩,
 ⟨some 10, true, none, iAlloc 118 [.nilslice, (.int .i64 (.lit 0)), (.int .i64 (.lit 0))]⟩,
 ⟨some 11, true, none, iMov (.c (.int .i64 (.lit 0)))⟩])
 (cSeq (cOps [⟨some 15, false, none, iLoadN 3 (.t 5)⟩,
 ⟨some 16, false, none, iCall (.c (.func (.func 51) [] [])) [(.t 15)]⟩,
 ⟨some 14, false, none, iMov (.t 16)⟩,
 ⟨some 17, false, none, iExtract 0 (.t 14)⟩,
 ⟨some 18, false, none, iExtract 1 (.t 14)⟩,
 ⟨some 12, true, none, iAlloc 86 [.nilslice, .nilslice, (.int .i64 (.lit 0)), .nilmap]⟩,
 ⟨none, false, none, iStore 4 (.t 12) (.t 17)⟩,
 ⟨some 13, true, none, iMov (.t 18)⟩])
 (cSeq (cSeq (cOps [⟨some 19, false, none, iMov (.t 13)⟩,
 ⟨some 20, true, none, iCmp .neq (.t 19) (.c (.int .i64 (.lit 0)))⟩])
 (cCond (.t 20) (cSeq (cOps [⟨some 21, false, none, iBuild [.nilslice, (.int .i64 (.lit 0)), (.int .i64 (.lit 0))] []⟩,
 ⟨some 22, false, none, iMov (.t 13)⟩,
 ⟨none, false, none, iStore 3 (.t 10) (.t 21)⟩,
 ⟨some 11, true, none, iMov (.t 22)⟩])
 cRet) cSkip))
 (cSeq (cOps [⟨some 23, false, none, iLoadN 4 (.t 12)⟩,
 ⟨some 24, false, none, iMov (.t 1)⟩,
 ⟨some 25, false, none, iMov (.t 2)⟩,
 ⟨some 26, false, none, iMov (.t 3)⟩,
 ⟨some 27, false, none, iMov (.t 4)⟩,
 ⟨some 28, false, none, iCall (.c (.func (.func 93) [] [])) [(.t 23), (.t 24), (.t 25), (.t 26), (.t 27)]⟩,
 ⟨some 29, false, none, iExtract 0 (.t 28)⟩,
 ⟨some 30, false, none, iExtract 1 (.t 28)⟩,
 ⟨none, false, none, iStore 3 (.t 10) (.t 29)⟩,
 ⟨some 11, true, none, iMov (.t 30)⟩])
 cRet)))), [.cell 10 true 3, .t 11]⟩
noncomputable def Tryd.kp76 : List Nat := [0, 2]
noncomputable def Tryd.cf76 : CF := ⟨1, (cSeq (cOps [⟨some 2, true, none, iMov (.c (.bool (.lit false)))⟩])
 (cSeq (cOps [⟨some 3, false, none, iMov (.t 0)⟩,
 ⟨some 4, false, none, iCmp .geq (.t 3) (.c (.int .i64 (.lit 0)))⟩,
 ⟨some 5, false, none, iMov (.t 4)⟩,
 ⟨some 6, false, some (5, true), iMov (.t 0)⟩,
 ⟨some 7, false, some (5, true), iCmp .leq (.t 6) (.c (.int .i64 (.lit 2879)))⟩,
 ⟨some 8, false, none, iPick (.t 5) (.t 7) (.c (.bool (.lit false)))⟩,
 ⟨some 2, true, none, iMov (.t 8)⟩])
 cRet)), [.t 2]⟩
noncomputable def Tryd.kp77 : List Nat := [0, 1, 2, 3, 4, 8, 9, 10, 11, 12, 31]
noncomputable def Tryd.cf77 : CF := ⟨4, (cSeq (cOps [⟨some 4, true, none, iBox 86 (.t 0)⟩,
 ⟨some 8, true, none, iMov (.c (.int .i64 (.lit 0)))⟩,
 ⟨some 9, true, none, iMov (.c (.int .i64 (.lit 0)))⟩])
 (cSeq (cOps [⟨some 13, false, none, iFunc (.func 95) [] [(.t 4)]⟩,
 ⟨some 10, true, none, iMov (.t 13)⟩])
 (cSeq (cOps [⟨some 15, false, none, iLoadN 4 (.t 4)⟩,
 ⟨some 16, false, none, iMov (.t 1)⟩,
 ⟨some 17, false, none, iMov (.t 2)⟩,
 ⟨some 18, false, none, iMov (.t 3)⟩,
 ⟨some 19, false, none, iMov (.t 10)⟩,
 ⟨some 20, false, none, iBuild [(.int .i64 (.lit 0)), (.int .i64 (.lit 0)), (.int .i64 (.lit 0)), (.int .i64 (.lit 0)), (.int .i64 (.lit 0)), .nilFunc] [(0, 1, (.c (.int .i64 (.lit 2)))), (1, 1, (.t 16)), (2, 1, (.t 17)), (3, 1, (.c (.int .i64 (.lit 0)))), (4, 1, (.t 18)), (5, 1, (.t 19))]⟩,
 ⟨some 21, false, none, iCall (.c (.func (.func 97) [] [])) [(.t 15), (.t 20)]⟩,
 ⟨some 14, false, none, iMov (.t 21)⟩,
 ⟨some 22, false, none, iExtract 0 (.t 14)⟩,
 ⟨some 23, false, none, iExtract 1 (.t 14)⟩,
 ⟨some 11, true, none, iAlloc 118 [.nilslice, (.int .i64 (.lit 0)), (.int .i64 (.lit 0))]⟩,
 ⟨none, false, none, iStore 3 (.t 11) (.t 22)⟩,
 ⟨some 12, true, none, iMov (.t 23)⟩])
 (cSeq (cSeq (cOps [⟨some 24, false, none, iMov (.t 12)⟩,
 ⟨some 25, false, none, iNot (.t 24)⟩,
 ⟨some 26, false, none, iMov (.t 25)⟩,
 ⟨some 27, false, some (26, false), iLoadN 4 (.t 4)⟩,
 ⟨some 28, false, some (26, false), iLoadN 3 (.t 11)⟩,
 ⟨some 29, false, some (26, false), iCall (.c (.func (.func 96) [] [])) [(.t 27), (.t 28)]⟩,
 ⟨some 30, false, some (26, false), iCmp .lss (.t 29) (.c (.int .i64 (.lit 0)))⟩,
 ⟨some 31, true, none, iPick (.t 26) (.c (.bool (.lit true))) (.t 30)⟩])
 (cCond (.t 31) (cSeq (cOps [⟨some 8, true, none, iMov (.c (.int .i64 (.lit 0)))⟩,
 ⟨some 9, true, none, iMov (.c (.int .i64 (.lit 4)))⟩])
 cRet) cSkip))
 (cSeq (cOps [⟨some 32, false, none, iLoadN 4 (.t 4)⟩,
 ⟨some 33, false, none, iLoadN 3 (.t 11)⟩,
 ⟨some 34, false, none, iCall (.c (.func (.func 96) [] [])) [(.t 32), (.t 33)]⟩,
 ⟨some 8, true, none, iMov (.t 34)⟩,
 ⟨some 9, true, none, iMov (.c (.int .i64 (.lit 0)))⟩])
 cRet))))), [.t 8, .t 9]⟩
noncomputable def Tryd.kp78 : List Nat := [0, 1, 2, 4]
noncomputable def Tryd.cf78 : CF := ⟨2, (cSeq (cOps [⟨some 2, true, none, iBox 86 (.t 0)⟩,
 ⟨some 4, true, none, iMov (.c (.bool (.lit false)))⟩])
 (cSeq (cOps [⟨some 5, false, none, iMov (.t 1)⟩,
 ⟨some 6, false, none, iCmp .geq (.t 5) (.c (.int .i64 (.lit 0)))⟩,
 ⟨some 7, false, none, iMov (.t 6)⟩,
 ⟨some 8, false, some (7, true), iMov (.t 1)⟩,
 ⟨some 9, false, some (7, true), iFaddr 0 (.t 2)⟩,
 ⟨some 10, false, some (7, true), iFaddr 0 (.t 9)⟩,
 ⟨some 11, false, some (7, true), iLoad (.t 10)⟩,
 ⟨some 12, false, some (7, true), iLenS (.t 11)⟩,
 ⟨some 13, false, some (7, true), iCmp .lss (.t 8) (.t 12)⟩,
 ⟨some 14, false, none, iPick (.t 7) (.t 13) (.c (.bool (.lit false)))⟩,
 ⟨some 4, true, none, iMov (.t 14)⟩])
 cRet)), [.t 4]⟩
noncomputable def Tryd.kp79 : List Nat := [0, 1, 2, 3, 6, 7, 8, 9, 10, 17, 18, 19, 33]
noncomputable def Tryd.cf79 : CF := ⟨3, (cSeq (cOps [⟨some 3, true, none, iBox 86 (.t 0)⟩,
 ⟨some 6, true, none, iMov (.c .nilslice)⟩])
 (cSeq (cOps [⟨some 11, false, none, iFaddr 0 (.t 3)⟩,
 ⟨some 12, false, none, iFaddr 0 (.t 11)⟩,
 ⟨some 13, false, none, iLoad (.t 12)⟩,
 ⟨some 14, false, none, iLenS (.t 13)⟩,
 ⟨some 15, false, none, iMkslice 3 [(.int .i64 (.lit 0))] 8 (.t 14) (.t 14)⟩,
 ⟨some 7, true, none, iMov (.t 15)⟩])
 (cSeq (cSeq (cOps [⟨some 16, false, none, iMov (.t 7)⟩,
 ⟨some 17, true, none, iLenS (.t 16)⟩,
 ⟨some 18, true, none, iMov (.c (.int .i64 (.lit 0)))⟩])
 (cBlock 0 (cLoop (cSeq (cOps [⟨some 19, true, none, iCmp .lss (.t 18) (.t 17)⟩])
 (cSeq (cCond (.t 19) cSkip (cExit 0))
 (cSeq (cBlock 1 (cSeq (cOps [⟨some 20, false, none, iMov (.t 18)⟩,
 ⟨some 8, true, none, iMov (.t 20)⟩])
 (cSeq (cOps [⟨some 21, false, none, iMov (.t 7)⟩,
 ⟨some 22, false, none, iMov (.t 8)⟩,
 ⟨some 23, false, none, iIaddr 1 (.t 21) (.t 22)⟩,
 ⟨none, false, none, iStore 1 (.t 23) (.c (.int .i64 (.lit (-1))))⟩])
 (cSeq (cOps [⟨some 25, false, none, iLoadN 4 (.t 3)⟩,
 ⟨some 26, false, none, iMov (.t 1)⟩,
 ⟨some 27, false, none, iMov (.t 8)⟩,
 ⟨some 28, false, none, iMov (.t 2)⟩,
 ⟨some 29, false, none, iCall (.c (.func (.func 93) [] [])) [(.t 25), (.c (.int .i64 (.lit 2))), (.t 26), (.t 27), (.t 28)]⟩,
 ⟨some 24, false, none, iMov (.t 29)⟩,
 ⟨some 30, false, none, iExtract 0 (.t 24)⟩,
 ⟨some 31, false, none, iExtract 1 (.t 24)⟩,
 ⟨some 9, true, none, iAlloc 118 [.nilslice, (.int .i64 (.lit 0)), (.int .i64 (.lit 0))]⟩,
 ⟨none, false, none, iStore 3 (.t 9) (.t 30)⟩,
 ⟨some 10, true, none, iMov (.t 31)⟩])
 (cSeq (cOps [⟨some 32, false, none, iMov (.t 10)⟩,
 ⟨some 33, true, none, iCmp .eql (.t 32) (.c (.int .i64 (.lit 0)))⟩])
 (cCond (.t 33) (cOps [⟨some 34, false, none, iMov (.t 7)⟩,
 ⟨some 35, false, none, iMov (.t 8)⟩,
 ⟨some 36, false, none, iFaddr 2 (.t 9)⟩,
 ⟨some 37, false, none, iLoad (.t 36)⟩,
 ⟨some 38, false, none, iIaddr 1 (.t 34) (.t 35)⟩,
 ⟨none, false, none, iStore 1 (.t 38) (.t 37)⟩]) cSkip))))))
 (cOps [⟨some 39, false, none, iArith .add (.t 18) (.c (.int .i64 (.lit 1)))⟩,
 ⟨some 18, true, none, iMov (.t 39)⟩])))))))
 (cSeq (cOps [⟨some 40, false, none, iMov (.t 7)⟩,
 ⟨some 41, false, none, iMov (.t 1)⟩,
 ⟨some 42, false, none, iMov (.t 2)⟩,
 ⟨some 43, false, none, iIaddr 1 (.t 40) (.t 41)⟩,
 ⟨none, false, none, iStore 1 (.t 43) (.t 42)⟩])
 (cSeq (cOps [⟨some 44, false, none, iMov (.t 7)⟩,
 ⟨some 6, true, none, iMov (.t 44)⟩])
 cRet))))), [.t 6]⟩
noncomputable def Tryd.kp84 : List Nat := [0, 1, 2, 6]
noncomputable def Tryd.cf84 : CF := ⟨3, (cSeq (cOps [⟨some 6, true, none, iAlloc 78 [(.int .i64 (.lit 0)), (.int .i64 (.lit 0)), (.int .i64 (.lit 0))]⟩])
 (cSeq (cOps [⟨some 7, false, none, iMov (.t 0)⟩,
 ⟨some 8, false, none, iMov (.t 1)⟩,
 ⟨some 9, false, none, iMov (.t 2)⟩,
 ⟨some 10, false, none, iBuild [(.int .i64 (.lit 0)), (.int .i64 (.lit 0)), (.int .i64 (.lit 0))] [(0, 1, (.t 7)), (1, 1, (.t 8)), (2, 1, (.t 9))]⟩,
 ⟨none, false, none, iStore 3 (.t 6) (.t 10)⟩])
 cRet)), [.cell 6 true 3]⟩
noncomputable def Tryd.kp85 : List Nat := [0, 1, 2, 3, 4, 5, 6]
noncomputable def Tryd.cf85 : CF := ⟨2, (cSeq (cOps [⟨some 2, true, none, iBox 73 (.t 0)⟩,
 ⟨some 3, true, none, iBox 80 (.t 1)⟩,
 ⟨some 4, true, none, iAlloc 94 [(.int .i64 (.lit 0)), (.int .i64 (.lit 0)), (.int .i64 (.lit 0)), (.int .i64 (.lit 0)), (.int .i64 (.lit 0)), (.int .i64 (.lit 0)), (.int .i64 (.lit 0)), (.int .i64 (.lit 0)), (.int .i64 (.lit 0))]⟩])
 (cSeq (dOps 2 [⟨⟨some 7, false, none, iFaddr 0 (.t 2)⟩, [2], false, 0, 0, none, []⟩,
 ⟨⟨some 8, false, none, iLoad (.t 7)⟩, [7], false, 0, 0, none, []⟩,
 ⟨⟨some 9, false, none, iFaddr 1 (.t 3)⟩, [3], false, 0, 0, none, []⟩,
 ⟨⟨some 10, false, none, iLoad (.t 9)⟩, [9], false, 0, 0, none, []⟩,
 ⟨⟨some 11, false, none, iIaddr 3 (.t 8) (.t 10)⟩, [8, 10], false, 0, 0, none, []⟩,
 ⟨⟨some 12, false, none, iLoadN 3 (.t 11)⟩, [11], false, 0, 0, none, []⟩,
 ⟨⟨some 13, false, none, iFaddr 0 (.t 2)⟩, [2], false, 0, 1, none, []⟩,
 ⟨⟨some 14, false, none, iLoad (.t 13)⟩, [13], false, 0, 1, none, []⟩,
 ⟨⟨some 15, false, none, iFaddr 2 (.t 3)⟩, [3], false, 0, 1, none, []⟩,
 ⟨⟨some 16, false, none, iLoad (.t 15)⟩, [15], false, 0, 1, none, []⟩,
 ⟨⟨some 17, false, none, iIaddr 3 (.t 14) (.t 16)⟩, [14, 16], false, 0, 1, none, []⟩,
 ⟨⟨some 18, false, none, iLoadN 3 (.t 17)⟩, [17], false, 0, 1, none, []⟩,
 ⟨⟨some 5, true, none, iAlloc 78 [(.int .i64 (.lit 0)), (.int .i64 (.lit 0)), (.int .i64 (.lit 0))]⟩, [], false, 0, 2, (some (flAlloc [(.int .i64 (.lit 0)), (.int .i64 (.lit 0)), (.int .i64 (.lit 0))], .ptr, 1)), []⟩,
 ⟨⟨some 6, true, none, iAlloc 78 [(.int .i64 (.lit 0)), (.int .i64 (.lit 0)), (.int .i64 (.lit 0))]⟩, [], false, 0, 2, (some (flAlloc [(.int .i64 (.lit 0)), (.int .i64 (.lit 0)), (.int .i64 (.lit 0))], .ptr, 0)), []⟩,
 ⟨⟨none, false, none, iStore 3 (.t 5) (.t 12)⟩, [5, 12], true, 0, 0, none, [0, 1]⟩,
 ⟨⟨none, false, none, iStore 3 (.t 6) (.t 18)⟩, [6, 18], true, 1, 0, none, [0, 1]⟩])
 (cSeq (cOps [⟨some 19, false, none, iLoadN 3 (.t 3)⟩,
 ⟨some 20, false, none, iFaddr 0 (.t 5)⟩,
 ⟨some 21, false, none, iLoad (.t 20)⟩,
 ⟨some 22, false, none, iFaddr 0 (.t 6)⟩,
 ⟨some 23, false, none, iLoad (.t 22)⟩,
 ⟨some 24, false, none, iFaddr 2 (.t 5)⟩,
 ⟨some 25, false, none, iLoad (.t 24)⟩,
 ⟨some 26, false, none, iFaddr 1 (.t 2)⟩,
 ⟨some 27, false, none, iFaddr 0 (.t 26)⟩,
 ⟨some 28, false, none, iLoad (.t 27)⟩,
 ⟨some 29, false, none, iArith .add (.t 25) (.t 28)⟩,
 ⟨some 30, false, none, iFaddr 2 (.t 5)⟩,
 ⟨some 31, false, none, iLoad (.t 30)⟩,
 ⟨some 32, false, none, iFaddr 1 (.t 2)⟩,
 ⟨some 33, false, none, iFaddr 1 (.t 32)⟩,
 ⟨some 34, false, none, iLoad (.t 33)⟩,
 ⟨some 35, false, none, iArith .add (.t 31) (.t 34)⟩,
 ⟨some 36, false, none, iBuild [(.int .i64 (.lit 0)), (.int .i64 (.lit 0))] [(0, 1, (.t 29)), (1, 1, (.t 35))]⟩,
 ⟨some 37, false, none, iFaddr 1 (.t 6)⟩,
 ⟨some 38, false, none, iLoad (.t 37)⟩,
 ⟨some 39, false, none, iFaddr 1 (.t 2)⟩,
 ⟨some 40, false, none, iFaddr 0 (.t 39)⟩,
 ⟨some 41, false, none, iLoad (.t 40)⟩,
 ⟨some 42, false, none, iArith .add (.t 38) (.t 41)⟩,
 ⟨some 43, false, none, iFaddr 1 (.t 6)⟩,
 ⟨some 44, false, none, iLoad (.t 43)⟩,
 ⟨some 45, false, none, iFaddr 1 (.t 2)⟩,
 ⟨some 46, false, none, iFaddr 1 (.t 45)⟩,
 ⟨some 47, false, none, iLoad (.t 46)⟩,
 ⟨some 48, false, none, iArith .add (.t 44) (.t 47)⟩,
 ⟨some 49, false, none, iBuild [(.int .i64 (.lit 0)), (.int .i64 (.lit 0))] [(0, 1, (.t 42)), (1, 1, (.t 48))]⟩,
 ⟨some 50, false, none, iBuild [(.int .i64 (.lit 0)), (.int .i64 (.lit 0)), (.int .i64 (.lit 0)), (.int .i64 (.lit 0)), (.int .i64 (.lit 0)), (.int .i64 (.lit 0)), (.int .i64 (.lit 0)), (.int .i64 (.lit 0)), (.int .i64 (.lit 0))] [(0, 3, (.t 19)), (3, 1, (.t 21)), (4, 1, (.t 23)), (5, 2, (.t 36)), (7, 2, (.t 49))]⟩,
 ⟨none, false, none, iStore 9 (.t 4) (.t 50)⟩])
 cRet))), [.cell 4 true 9]⟩
noncomputable def Tryd.kp86 : List Nat := [0, 1, 3, 4]
noncomputable def Tryd.cf86 : CF := ⟨2, (cSeq (cOps [⟨some 3, true, none, iBox 39 (.t 1)⟩,
 ⟨some 4, true, none, iMov (.c (.bool (.lit false)))⟩])
 (cSeq (cOps [⟨some 5, false, none, iFaddr 0 (.t 3)⟩,
 ⟨some 6, false, none, iLoad (.t 5)⟩,
 ⟨some 7, false, none, iMov (.t 0)⟩,
 ⟨some 8, false, none, iCmp .leq (.t 6) (.t 7)⟩,
 ⟨some 9, false, none, iMov (.t 8)⟩,
 ⟨some 10, false, some (9, true), iMov (.t 0)⟩,
 ⟨some 11, false, some (9, true), iFaddr 1 (.t 3)⟩,
 ⟨some 12, false, some (9, true), iLoad (.t 11)⟩,
 ⟨some 13, false, some (9, true), iCmp .leq (.t 10) (.t 12)⟩,
 ⟨some 14, false, none, iPick (.t 9) (.t 13) (.c (.bool (.lit false)))⟩,
 ⟨some 4, true, none, iMov (.t 14)⟩])
 cRet)), [.t 4]⟩
noncomputable def Tryd.kp87 : List Nat := [0, 2, 3, 5, 6, 7, 8, 9, 28]
noncomputable def Tryd.cf87 : CF := ⟨1, (cSeq (cOps [⟨some 2, true, none, iMov (.c (.bool (.lit false)))⟩])
 (cSeq (cOps [⟨some 3, true, none, iMov (.c (.int .i64 (.lit 0)))⟩])
 (cSeq (cSeq (cOps [⟨some 6, true, none, iMov (.t 0)⟩,
 ⟨some 7, true, none, iLenS (.t 6)⟩,
 ⟨some 8, true, none, iMov (.c (.int .i64 (.lit 0)))⟩])
 (cBlock 0 (cLoop (cSeq (cOps [⟨some 9, true, none, iCmp .lss (.t 8) (.t 7)⟩])
 (cSeq (cCond (.t 9) cSkip (cExit 0))
 (cSeq (cBlock 1 (cSeq (cOps [⟨some 10, false, none, iIaddr 2 (.t 6) (.t 8)⟩,
 ⟨some 11, false, none, iLoadN 2 (.t 10)⟩,
 ⟨some 5, true, none, iAlloc 39 [(.int .i64 (.lit 0)), (.int .i64 (.lit 0))]⟩,
 ⟨none, false, none, iStore 2 (.t 5) (.t 11)⟩])
 (cSeq (cSeq (cOps [⟨some 12, false, none, iFaddr 0 (.t 5)⟩,
 ⟨some 13, false, none, iLoad (.t 12)⟩,
 ⟨some 14, false, none, iMov (.t 3)⟩,
 ⟨some 15, false, none, iCmp .lss (.t 13) (.t 14)⟩,
 ⟨some 16, false, none, iMov (.t 15)⟩,
 ⟨some 17, false, some (16, false), iFaddr 1 (.t 5)⟩,
 ⟨some 18, false, some (16, false), iLoad (.t 17)⟩,
 ⟨some 19, false, some (16, false), iFaddr 0 (.t 5)⟩,
 ⟨some 20, false, some (16, false), iLoad (.t 19)⟩,
 ⟨some 21, false, some (16, false), iCmp .lss (.t 18) (.t 20)⟩,
 ⟨some 22, false, none, iPick (.t 16) (.c (.bool (.lit true))) (.t 21)⟩,
 ⟨some 23, false, none, iMov (.t 22)⟩,
 ⟨some 24, false, some (23, false), iFaddr 1 (.t 5)⟩,
 ⟨some 25, false, some (23, false), iLoad (.t 24)⟩,
 ⟨some 26, false, some (23, false), iCall (.c (.func (.func 76) [] [])) [(.t 25)]⟩,
 ⟨some 27, false, some (23, false), iNot (.t 26)⟩,
 ⟨some 28, true, none, iPick (.t 23) (.c (.bool (.lit true))) (.t 27)⟩])
 (cCond (.t 28) (cSeq (cOps [⟨some 2, true, none, iMov (.c (.bool (.lit false)))⟩])
 cRet) cSkip))
 (cOps [⟨some 29, false, none, iFaddr 1 (.t 5)⟩,
 ⟨some 30, false, none, iLoad (.t 29)⟩,
 ⟨some 31, false, none, iArith .add (.t 30) (.c (.int .i64 (.lit 1)))⟩,
 ⟨some 3, true, none, iMov (.t 31)⟩]))))
 (cOps [⟨some 32, false, none, iArith .add (.t 8) (.c (.int .i64 (.lit 1)))⟩,
 ⟨some 8, true, none, iMov (.t 32)⟩])))))))
 (cSeq (cOps [⟨some 33, false, none, iMov (.t 0)⟩,
 ⟨some 34, false, none, iLenS (.t 33)⟩,
 ⟨some 35, false, none, iCmp .leq (.t 34) (.c (.int .i64 (.lit 3)))⟩,
 ⟨some 2, true, none, iMov (.t 35)⟩])
 cRet)))), [.t 2]⟩
noncomputable def Tryd.kp88 : List Nat := [0, 1, 2, 3, 4, 14, 15, 16, 24]
noncomputable def Tryd.cf88 : CF := ⟨1, (cSeq (cOps [⟨some 1, true, none, iBox 73 (.t 0)⟩,
 ⟨some 2, true, none, iMov (.c (.bool (.lit false)))⟩])
 (cSeq (cSeq (cOps [⟨some 5, false, none, iFaddr 0 (.t 1)⟩,
 ⟨some 6, false, none, iLoad (.t 5)⟩,
 ⟨some 7, false, none, iLenS (.t 6)⟩,
 ⟨some 8, false, none, iFaddr 1 (.t 1)⟩,
 ⟨some 9, false, none, iFaddr 0 (.t 8)⟩,
 ⟨some 10, false, none, iLoad (.t 9)⟩,
 ⟨some 11, false, none, iFaddr 1 (.t 1)⟩,
 ⟨some 12, false, none, iFaddr 1 (.t 11)⟩,
 ⟨some 13, false, none, iLoad (.t 12)⟩,
 ⟨some 14, true, none, iBuild [(.int .i64 (.lit 0)), (.int .i64 (.lit 0)), (.int .i64 (.lit 0))] [(0, 1, (.t 7)), (1, 1, (.t 10)), (2, 1, (.t 13))]⟩,
 ⟨some 15, true, none, iMov (.c (.int .i64 (.lit 0)))⟩])
 (cBlock 0 (cLoop (cSeq (cOps [⟨some 16, true, none, iCmp .lss (.t 15) (.c (.int .i64 (.lit 3)))⟩])
 (cSeq (cCond (.t 16) cSkip (cExit 0))
 (cSeq (cBlock 1 (cSeq (cOps [⟨some 17, false, none, iMov (.t 15)⟩,
 ⟨some 18, false, none, iIndex false 1 3 (.t 14) (.t 15)⟩,
 ⟨some 3, true, none, iMov (.t 17)⟩,
 ⟨some 4, true, none, iMov (.t 18)⟩])
 (cSeq (cOps [⟨some 19, false, none, iMov (.t 4)⟩,
 ⟨some 20, false, none, iMov (.t 3)⟩,
 ⟨some 21, false, none, iIaddrA 2 3 (.c (.ptr 1 0)) (.t 20)⟩,
 ⟨some 22, false, none, iLoadN 2 (.t 21)⟩,
 ⟨some 23, false, none, iCall (.c (.func (.func 86) [] [])) [(.t 19), (.t 22)]⟩,
 ⟨some 24, true, none, iNot (.t 23)⟩])
 (cCond (.t 24) (cSeq (cOps [⟨some 2, true, none, iMov (.c (.bool (.lit false)))⟩])
 cRet) cSkip))))
 (cOps [⟨some 25, false, none, iArith .add (.t 15) (.c (.int .i64 (.lit 1)))⟩,
 ⟨some 15, true, none, iMov (.t 25)⟩])))))))
 (cSeq (cOps [⟨some 26, false, none, iFaddr 1 (.t 1)⟩,
 ⟨some 27, false, none, iFaddr 0 (.t 26)⟩,
 ⟨some 28, false, none, iLoad (.t 27)⟩,
 ⟨some 29, false, none, iFaddr 1 (.t 1)⟩,
 ⟨some 30, false, none, iFaddr 1 (.t 29)⟩,
 ⟨some 31, false, none, iLoad (.t 30)⟩,
 ⟨some 32, false, none, iCmp .leq (.t 28) (.t 31)⟩,
 ⟨some 2, true, none, iMov (.t 32)⟩])
 cRet))), [.t 2]⟩
noncomputable def Tryd.kp89 : List Nat := [0, 1, 4, 5, 7, 8, 9, 10, 11, 41]
noncomputable def Tryd.cf89 : CF := ⟨2, (cSeq (cOps [⟨some 4, true, none, iMov (.c (.bool (.lit false)))⟩])
 (cSeq (cOps [⟨some 5, true, none, iMov (.c (.int .i64 (.lit 0)))⟩])
 (cSeq (cSeq (cOps [⟨some 8, true, none, iMov (.t 0)⟩,
 ⟨some 9, true, none, iLenS (.t 8)⟩,
 ⟨some 10, true, none, iMov (.c (.int .i64 (.lit 0)))⟩])
 (cBlock 0 (cLoop (cSeq (cOps [⟨some 11, true, none, iCmp .lss (.t 10) (.t 9)⟩])
 (cSeq (cCond (.t 11) cSkip (cExit 0))
 (cSeq (cBlock 1 (cSeq (cOps [⟨some 12, false, none, iIaddr 3 (.t 8) (.t 10)⟩,
 ⟨some 13, false, none, iLoadN 3 (.t 12)⟩,
 ⟨some 7, true, none, iAlloc 78 [(.int .i64 (.lit 0)), (.int .i64 (.lit 0)), (.int .i64 (.lit 0))]⟩,
 ⟨none, false, none, iStore 3 (.t 7) (.t 13)⟩])
 (cSeq (cSeq (cOps [⟨some 14, false, none, iFaddr 0 (.t 7)⟩,
 ⟨some 15, false, none, iLoad (.t 14)⟩,
 ⟨some 16, false, none, iCmp .lss (.t 15) (.c (.int .i64 (.lit 0)))⟩,
 ⟨some 17, false, none, iMov (.t 16)⟩,
 ⟨some 18, false, some (17, false), iFaddr 0 (.t 7)⟩,
 ⟨some 19, false, some (17, false), iLoad (.t 18)⟩,
 ⟨some 20, false, some (17, false), iMov (.t 1)⟩,
 ⟨some 21, false, some (17, false), iCmp .geq (.t 19) (.t 20)⟩,
 ⟨some 22, false, none, iPick (.t 17) (.c (.bool (.lit true))) (.t 21)⟩,
 ⟨some 23, false, none, iMov (.t 22)⟩,
 ⟨some 24, false, some (23, false), iFaddr 1 (.t 7)⟩,
 ⟨some 25, false, some (23, false), iLoad (.t 24)⟩,
 ⟨some 26, false, some (23, false), iMov (.t 5)⟩,
 ⟨some 27, false, some (23, false), iCmp .lss (.t 25) (.t 26)⟩,
 ⟨some 28, false, none, iPick (.t 23) (.c (.bool (.lit true))) (.t 27)⟩,
 ⟨some 29, false, none, iMov (.t 28)⟩,
 ⟨some 30, false, some (29, false), iFaddr 2 (.t 7)⟩,
 ⟨some 31, false, some (29, false), iLoad (.t 30)⟩,
 ⟨some 32, false, some (29, false), iFaddr 1 (.t 7)⟩,
 ⟨some 33, false, some (29, false), iLoad (.t 32)⟩,
 ⟨some 34, false, some (29, false), iCmp .lss (.t 31) (.t 33)⟩,
 ⟨some 35, false, none, iPick (.t 29) (.c (.bool (.lit true))) (.t 34)⟩,
 ⟨some 36, false, none, iMov (.t 35)⟩,
 ⟨some 37, false, some (36, false), iFaddr 2 (.t 7)⟩,
 ⟨some 38, false, some (36, false), iLoad (.t 37)⟩,
 ⟨some 39, false, some (36, false), iCall (.c (.func (.func 76) [] [])) [(.t 38)]⟩,
 ⟨some 40, false, some (36, false), iNot (.t 39)⟩,
 ⟨some 41, true, none, iPick (.t 36) (.c (.bool (.lit true))) (.t 40)⟩])
 (cCond (.t 41) (cSeq (cOps [⟨some 4, true, none, iMov (.c (.bool (.lit false)))⟩])
 cRet) cSkip))
 (cOps [⟨some 42, false, none, iFaddr 2 (.t 7)⟩,
 ⟨some 43, false, none, iLoad (.t 42)⟩,
 ⟨some 44, false, none, iArith .add (.t 43) (.c (.int .i64 (.lit 1)))⟩,
 ⟨some 5, true, none, iMov (.t 44)⟩]))))
 (cOps [⟨some 45, false, none, iArith .add (.t 10) (.c (.int .i64 (.lit 1)))⟩,
 ⟨some 10, true, none, iMov (.t 45)⟩])))))))
 (cSeq (cOps [⟨some 4, true, none, iMov (.c (.bool (.lit true)))⟩])
 cRet)))), [.t 4]⟩
noncomputable def Tryd.kp90 : List Nat := [0, 1, 2, 3, 6]
noncomputable def Tryd.cf90 : CF := ⟨3, (cSeq (cOps [⟨some 3, true, none, iBox 86 (.t 0)⟩,
 ⟨some 6, true, none, iMov (.c (.bool (.lit false)))⟩])
 (cSeq (cOps [⟨some 7, false, none, iFaddr 0 (.t 3)⟩,
 ⟨some 8, false, none, iFaddr 0 (.t 7)⟩,
 ⟨some 9, false, none, iLoad (.t 8)⟩,
 ⟨some 10, false, none, iMov (.t 1)⟩,
 ⟨some 11, false, none, iIaddr 1 (.t 9) (.t 10)⟩,
 ⟨some 12, false, none, iLoad (.t 11)⟩,
 ⟨some 13, false, none, iMov (.t 2)⟩,
 ⟨some 14, false, none, iFunc (.func 99) [(.t 13)] []⟩,
 ⟨some 15, false, none, iCall (.c (.func (.func 98) [] [])) [(.t 12), (.t 14)]⟩,
 ⟨some 6, true, none, iMov (.t 15)⟩])
 cRet)), [.t 6]⟩
noncomputable def Tryd.kp91 : List Nat := [0]
noncomputable def Tryd.cf91 : CF := ⟨0, (cSeq (cOps [⟨some 0, true, none, iAlloc 141 [.nilFunc, .nilFunc, .nilFunc]⟩])
 (cSeq (cOps [⟨some 1, false, none, iBuild [.nilFunc, .nilFunc, .nilFunc] [(1, 1, (.c (.func (.func 100) [] []))), (2, 1, (.c (.func (.func 101) [] [])))]⟩,
 ⟨none, false, none, iStore 3 (.t 0) (.t 1)⟩])
 cRet)), [.cell 0 true 3]⟩
noncomputable def Tryd.kp92 : List Nat := [0, 1, 2, 3, 6, 8, 14, 15, 16, 17, 23]
noncomputable def Tryd.cf92 : CF := ⟨3, (cSeq (cOps [⟨some 3, true, none, iBox 86 (.t 0)⟩,
 ⟨some 6, true, none, iMov (.c (.int .i64 (.lit 0)))⟩])
 (cSeq (cSeq (cOps [⟨some 9, false, none, iFaddr 0 (.t 3)⟩,
 ⟨some 10, false, none, iFaddr 0 (.t 9)⟩,
 ⟨some 11, false, none, iLoad (.t 10)⟩,
 ⟨some 12, false, none, iMov (.t 1)⟩,
 ⟨some 13, false, none, iIaddr 1 (.t 11) (.t 12)⟩,
 ⟨some 14, true, none, iLoad (.t 13)⟩,
 ⟨some 15, true, none, iLenS (.t 14)⟩,
 ⟨some 16, true, none, iMov (.c (.int .i64 (.lit 0)))⟩])
 (cBlock 0 (cLoop (cSeq (cOps [⟨some 17, true, none, iCmp .lss (.t 16) (.t 15)⟩])
 (cSeq (cCond (.t 17) cSkip (cExit 0))
 (cSeq (cBlock 1 (cSeq (cOps [⟨some 18, false, none, iIaddr 2 (.t 14) (.t 16)⟩,
 ⟨some 19, false, none, iLoadN 2 (.t 18)⟩,
 ⟨some 8, true, none, iAlloc 39 [(.int .i64 (.lit 0)), (.int .i64 (.lit 0))]⟩,
 ⟨none, false, none, iStore 2 (.t 8) (.t 19)⟩])
 (cSeq (cOps [⟨some 20, false, none, iMov (.t 2)⟩,
 ⟨some 21, false, none, iFaddr 1 (.t 8)⟩,
 ⟨some 22, false, none, iLoad (.t 21)⟩,
 ⟨some 23, true, none, iCmp .leq (.t 20) (.t 22)⟩])
 (cCond (.t 23) (cSeq (cOps [⟨some 24, false, none, iMov (.t 2)⟩,
 ⟨some 25, false, none, iFaddr 0 (.t 8)⟩,
 ⟨some 26, false, none, iLoad (.t 25)⟩,
 ⟨some 27, false, none, iBslice 3 [(.int .i64 (.lit 0))] 1 [(0, 1, (.t 26))]⟩,
 ⟨some 28, false, none, iCall (.c (.func (.func 102) [] [])) [(.t 24), (.t 27)]⟩,
 ⟨some 6, true, none, iMov (.t 28)⟩])
 cRet) cSkip))))
 (cOps [⟨some 29, false, none, iArith .add (.t 16) (.c (.int .i64 (.lit 1)))⟩,
 ⟨some 16, true, none, iMov (.t 29)⟩])))))))
 (cSeq (cOps [⟨some 6, true, none, iMov (.c (.int .i64 (.lit 2880)))⟩])
 cRet))), [.t 6]⟩
noncomputable def Tryd.kp93 : List Nat := [0, 1, 2, 3, 4, 5, 10, 11, 12, 13, 23, 29, 46]
noncomputable def Tryd.cf93 : CF := ⟨5, (cSeq (cOps [⟨some 5, true, none, iBox 86 (.t 0)⟩,
 ⟨some 10, true, none, iAlloc 118 [.nilslice, (.int .i64 (.lit 0)), (.int .i64 (.lit 0))]⟩,
 ⟨some 11, true, none, iMov (.c (.int .i64 (.lit 0)))⟩])
 (cSeq (cSeq (cOps [⟨some 14, false, none, iLoadN 4 (.t 5)⟩,
 ⟨some 15, false, none, iMov (.t 2)⟩,
 ⟨some 16, false, none, iMov (.t 3)⟩,
 ⟨some 17, false, none, iCall (.c (.func (.func 52) [] [])) [(.t 14), (.t 15), (.t 16)]⟩,
 ⟨some 18, false, none, iNot (.t 17)⟩,
 ⟨some 19, false, none, iMov (.t 18)⟩,
 ⟨some 20, false, some (19, false), iMov (.t 4)⟩,
 ⟨some 21, false, some (19, false), iCall (.c (.func (.func 76) [] [])) [(.t 20)]⟩,
 ⟨some 22, false, some (19, false), iNot (.t 21)⟩,
 ⟨some 23, true, none, iPick (.t 19) (.c (.bool (.lit true))) (.t 22)⟩])
 (cCond (.t 23) (cSeq (cOps [⟨some 24, false, none, iBuild [.nilslice, (.int .i64 (.lit 0)), (.int .i64 (.lit 0))] []⟩,
 ⟨none, false, none, iStore 3 (.t 10) (.t 24)⟩,
 ⟨some 11, true, none, iMov (.c (.int .i64 (.lit 31)))⟩])
 cRet) cSkip))
 (cSeq (cSeq (cOps [⟨some 25, false, none, iLoadN 4 (.t 5)⟩,
 ⟨some 26, false, none, iMov (.t 2)⟩,
 ⟨some 27, false, none, iMov (.t 4)⟩,
 ⟨some 28, false, none, iCall (.c (.func (.func 90) [] [])) [(.t 25), (.t 26), (.t 27)]⟩,
 ⟨some 29, true, none, iNot (.t 28)⟩])
 (cCond (.t 29) (cSeq (cOps [⟨some 30, false, none, iBuild [.nilslice, (.int .i64 (.lit 0)), (.int .i64 (.lit 0))] []⟩,
 ⟨none, false, none, iStore 3 (.t 10) (.t 30)⟩,
 ⟨some 11, true, none, iMov (.c (.int .i64 (.lit 4)))⟩])
 cRet) cSkip))
 (cSeq (cOps [⟨some 32, false, none, iLoadN 4 (.t 5)⟩,
 ⟨some 33, false, none, iMov (.t 1)⟩,
 ⟨some 34, false, none, iMov (.t 2)⟩,
 ⟨some 35, false, none, iMov (.t 3)⟩,
 ⟨some 36, false, none, iMov (.t 4)⟩,
 ⟨some 37, false, none, iFaddr 0 (.t 5)⟩,
 ⟨some 38, false, none, iFaddr 2 (.t 37)⟩,
 ⟨some 39, false, none, iLoad (.t 38)⟩,
 ⟨some 40, false, none, iArith .add (.t 36) (.t 39)⟩,
 ⟨some 41, false, none, iBuild [(.int .i64 (.lit 0)), (.int .i64 (.lit 0)), (.int .i64 (.lit 0)), (.int .i64 (.lit 0)), (.int .i64 (.lit 0)), .nilFunc] [(0, 1, (.t 33)), (1, 1, (.t 34)), (2, 1, (.t 35)), (3, 1, (.t 40)), (4, 1, (.c (.int .i64 (.lit 2879)))), (5, 1, (.c (.func (.func 103) [] [])))]⟩,
 ⟨some 42, false, none, iCall (.c (.func (.func 97) [] [])) [(.t 32), (.t 41)]⟩,
 ⟨some 31, false, none, iMov (.t 42)⟩,
 ⟨some 43, false, none, iExtract 0 (.t 31)⟩,
 ⟨some 44, false, none, iExtract 1 (.t 31)⟩,
 ⟨some 12, true, none, iAlloc 118 [.nilslice, (.int .i64 (.lit 0)), (.int .i64 (.lit 0))]⟩,
 ⟨none, false, none, iStore 3 (.t 12) (.t 43)⟩,
 ⟨some 13, true, none, iMov (.t 44)⟩])
 (cSeq (cSeq (cOps [⟨some 45, false, none, iMov (.t 13)⟩,
 ⟨some 46, true, none, iNot (.t 45)⟩])
 (cCond (.t 46) (cSeq (cOps [⟨some 47, false, none, iBuild [.nilslice, (.int .i64 (.lit 0)), (.int .i64 (.lit 0))] []⟩,
 ⟨none, false, none, iStore 3 (.t 10) (.t 47)⟩,
 ⟨some 11, true, none, iMov (.c (.int .i64 (.lit 4)))⟩])
 cRet) cSkip))
 (cSeq (cOps [⟨some 48, false, none, iLoadN 3 (.t 12)⟩,
 ⟨none, false, none, iStore 3 (.t 10) (.t 48)⟩,
 ⟨some 11, true, none, iMov (.c (.int .i64 (.lit 0)))⟩])
 cRet)))))), [.cell 10 true 3, .t 11]⟩
noncomputable def Tryd.kp95 : List Nat := [0, 1, 2, 3, 4, 5]
noncomputable def Tryd.cf95 : CF := ⟨3, (cSeq (cOps [⟨some 3, true, none, iBox 118 (.t 0)⟩,
 ⟨some 4, true, none, iBox 118 (.t 1)⟩,
 ⟨some 5, true, none, iMov (.c (.bool (.lit false)))⟩])
 (cSeq (dOps 0 [⟨⟨some 6, false, none, iLoadN 4 (.t 2)⟩, [2], false, 0, 0, none, []⟩,
 ⟨⟨some 7, false, none, iLoadN 3 (.t 3)⟩, [3], false, 0, 0, none, []⟩,
 ⟨⟨some 8, false, none, iCall (.c (.func (.func 96) [] [])) [(.t 6), (.t 7)]⟩, [6, 7], true, 0, 0, none, []⟩,
 ⟨⟨some 9, false, none, iLoadN 4 (.t 2)⟩, [2], false, 0, 1, none, []⟩,
 ⟨⟨some 10, false, none, iLoadN 3 (.t 4)⟩, [4], false, 0, 1, none, []⟩,
 ⟨⟨some 11, false, none, iCall (.c (.func (.func 96) [] [])) [(.t 9), (.t 10)]⟩, [9, 10], true, 1, 0, none, []⟩,
 ⟨⟨some 12, false, none, iCmp .gtr (.t 8) (.t 11)⟩, [8, 11], false, 2, 2, none, []⟩,
 ⟨⟨some 5, true, none, iMov (.t 12)⟩, [12], false, 2, 2, none, []⟩])
 cRet)), [.t 5]⟩
noncomputable def Tryd.kp96 : List Nat := [0, 1, 2, 3, 4, 5]
noncomputable def Tryd.cf96 : CF := ⟨2, (cSeq (cOps [⟨some 2, true, none, iBox 86 (.t 0)⟩,
 ⟨some 3, true, none, iBox 118 (.t 1)⟩,
 ⟨some 4, true, none, iMov (.c (.int .i64 (.lit 0)))⟩])
 (cSeq (dOps 0 [⟨⟨some 6, false, none, iFaddr 3 (.t 2)⟩, [2], false, 0, 1, none, []⟩,
 ⟨⟨some 7, false, none, iLoad (.t 6)⟩, [6], false, 0, 1, none, []⟩,
 ⟨⟨some 8, false, none, iFaddr 0 (.t 3)⟩, [3], false, 0, 1, none, []⟩,
 ⟨⟨some 9, false, none, iLoad (.t 8)⟩, [8], false, 0, 1, none, []⟩,
 ⟨⟨some 10, false, none, iIaddr 3 (.t 9) (.c (.int .i64 (.lit 0)))⟩, [9], false, 0, 1, none, []⟩,
 ⟨⟨some 11, false, none, iLoadN 3 (.t 10)⟩, [10], false, 0, 1, none, []⟩,
 ⟨⟨some 12, false, none, iLookup (.agg [(.int .i64 (.lit 0)), (.int .i64 (.lit 0)), (.int .i64 (.lit 0)), (.int .i64 (.lit 0)), (.int .i64 (.lit 0)), (.int .i64 (.lit 0)), (.int .i64 (.lit 0)), (.int .i64 (.lit 0)), (.int .i64 (.lit 0))]) true 3 [(0, .int), (1, .int), (2, .int)] false (.t 7) (.t 11)⟩, [7, 11], false, 0, 1, none, []⟩,
 ⟨⟨some 5, true, none, iAlloc 94 [(.int .i64 (.lit 0)), (.int .i64 (.lit 0)), (.int .i64 (.lit 0)), (.int .i64 (.lit 0)), (.int .i64 (.lit 0)), (.int .i64 (.lit 0)), (.int .i64 (.lit 0)), (.int .i64 (.lit 0)), (.int .i64 (.lit 0))]⟩, [], true, 0, 0, none, []⟩,
 ⟨⟨none, false, none, iStore 9 (.t 5) (.t 12)⟩, [5, 12], true, 1, 0, none, []⟩])
 (cSeq (cOps [⟨some 13, false, none, iLoadN 4 (.t 2)⟩,
 ⟨some 14, false, none, iFaddr 3 (.t 5)⟩,
 ⟨some 15, false, none, iLoad (.t 14)⟩,
 ⟨some 16, false, none, iFaddr 5 (.t 5)⟩,
 ⟨some 17, false, none, iFaddr 0 (.t 16)⟩,
 ⟨some 18, false, none, iLoad (.t 17)⟩,
 ⟨some 19, false, none, iFaddr 0 (.t 2)⟩,
 ⟨some 20, false, none, iFaddr 2 (.t 19)⟩,
 ⟨some 21, false, none, iLoad (.t 20)⟩,
 ⟨some 22, false, none, iArith .sub (.t 18) (.t 21)⟩,
 ⟨some 23, false, none, iCall (.c (.func (.func 105) [] [])) [(.t 13), (.t 15), (.t 22)]⟩,
 ⟨some 4, true, none, iMov (.t 23)⟩])
 cRet))), [.t 4]⟩
noncomputable def Tryd.ra97010 : C := (cOps [⟨some 6, true, none, iAlloc 118 [.nilslice, (.int .i64 (.lit 0)), (.int .i64 (.lit 0))]⟩,
 ⟨none, false, none, iStore 3 (.t 6) (.t 10)⟩])
noncomputable def Tryd.rb97010 : C := (cBlock 1 (cSeq (cSeq (cOps [⟨some 11, false, none, iFaddr 1 (.t 6)⟩,
 ⟨some 12, false, none, iLoad (.t 11)⟩,
 ⟨some 13, false, none, iFaddr 2 (.t 3)⟩,
 ⟨some 14, false, none, iLoad (.t 13)⟩,
 ⟨some 15, false, none, iCmp .neq (.t 12) (.t 14)⟩,
 ⟨some 16, false, none, iMov (.t 15)⟩,
 ⟨some 17, false, some (16, false), iFaddr 2 (.t 6)⟩,
 ⟨some 18, false, some (16, false), iLoad (.t 17)⟩,
 ⟨some 19, false, some (16, false), iFaddr 4 (.t 3)⟩,
 ⟨some 20, false, some (16, false), iLoad (.t 19)⟩,
 ⟨some 21, false, some (16, false), iCmp .gtr (.t 18) (.t 20)⟩,
 ⟨some 22, true, none, iPick (.t 16) (.c (.bool (.lit true))) (.t 21)⟩])
 (cCond (.t 22) (cExit 1) cSkip))
 (cSeq (cOps [⟨some 23, false, none, iLoad (.t 5)⟩,
 ⟨some 24, false, none, iNot (.t 23)⟩,
 ⟨some 25, false, none, iMov (.t 24)⟩,
 ⟨some 26, false, some (25, false), iFaddr 5 (.t 3)⟩,
 ⟨some 27, false, some (25, false), iLoad (.t 26)⟩,
 ⟨some 28, false, some (25, false), iLoadN 3 (.t 6)⟩,
 ⟨some 29, false, some (25, false), iLoadN 3 (.t 4)⟩,
 ⟨some 30, false, some (25, false), iCall (.t 27) [(.t 28), (.t 29)]⟩,
 ⟨some 31, true, none, iPick (.t 25) (.c (.bool (.lit true))) (.t 30)⟩])
 (cCond (.t 31) (cSeq (cOps [⟨some 32, false, none, iLoadN 3 (.t 6)⟩,
 ⟨none, false, none, iStore 3 (.t 4) (.t 32)⟩,
 ⟨none, false, none, iStore 1 (.t 5) (.c (.bool (.lit true)))⟩])
 (cOps [⟨some 33, false, none, iFaddr 0 (.t 6)⟩,
 ⟨some 34, false, none, iLoad (.t 33)⟩,
 ⟨some 35, false, none, iCall (.c (.func (.func 107) [] [])) [(.t 34)]⟩,
 ⟨some 36, false, none, iFaddr 0 (.t 4)⟩,
 ⟨none, false, none, iStore 1 (.t 36) (.t 35)⟩])) cSkip))))
noncomputable def Tryd.kp97 : List Nat := [0, 1, 2, 3, 4, 5, 6, 9, 10, 22, 31]
noncomputable def Tryd.cf97 : CF := ⟨2, (cSeq (cOps [⟨some 2, true, none, iBox 86 (.t 0)⟩,
 ⟨some 3, true, none, iBox 151 (.t 1)⟩,
 ⟨some 4, true, none, iAlloc 118 [.nilslice, (.int .i64 (.lit 0)), (.int .i64 (.lit 0))]⟩,
 ⟨some 5, true, none, iAlloc 4 [(.bool (.lit false))]⟩])
 (cSeq (cSeq (cOps [⟨some 7, false, none, iLoadN 4 (.t 2)⟩,
 ⟨some 8, false, none, iLoadN 6 (.t 3)⟩,
 ⟨some 9, true, none, iCall (.c (.func (.func 106) [] [])) [(.t 7), (.t 8)]⟩])
 (cBlock 0 (cRange (.t 9) [10] 97010)))
 (cSeq (dOps 0 [⟨⟨some 37, false, none, iLoadN 3 (.t 4)⟩, [4], false, 0, 0, none, []⟩,
 ⟨⟨some 38, false, none, iLoad (.t 5)⟩, [5], false, 0, 1, none, []⟩,
 ⟨⟨none, false, none, iStore 3 (.t 4) (.t 37)⟩, [4, 37], true, 0, 0, none, []⟩,
 ⟨⟨none, false, none, iStore 1 (.t 5) (.t 38)⟩, [5, 38], true, 1, 0, none, []⟩])
 cRet))), [.cell 4 true 3, .cell 5 false 1]⟩
noncomputable def Tryd.kp98 : List Nat := [0, 1, 4]
noncomputable def Tryd.cf98 : CF := ⟨2, (cSeq (cOps [⟨some 4, true, none, iMov (.c (.bool (.lit false)))⟩])
 (cSeq (cOps [⟨some 5, false, none, iMov (.t 0)⟩,
 ⟨some 6, false, none, iMov (.t 1)⟩,
 ⟨some 7, false, none, iCall (.c (.func (.func 108) [] [])) [(.t 5), (.t 6)]⟩,
 ⟨some 8, false, none, iCmp .geq (.t 7) (.c (.int .i64 (.lit 0)))⟩,
 ⟨some 4, true, none, iMov (.t 8)⟩])
 cRet)), [.t 4]⟩
noncomputable def Tryd.kp99 : List Nat := [0, 1, 3, 4]
noncomputable def Tryd.cf99 : CF := ⟨2, (cSeq (cOps [⟨some 3, true, none, iBox 39 (.t 1)⟩,
 ⟨some 4, true, none, iMov (.c (.bool (.lit false)))⟩])
 (cSeq (cOps [⟨some 5, false, none, iMov (.t 0)⟩,
 ⟨some 6, false, none, iLoadN 2 (.t 3)⟩,
 ⟨some 7, false, none, iCall (.c (.func (.func 86) [] [])) [(.t 5), (.t 6)]⟩,
 ⟨some 4, true, none, iMov (.t 7)⟩])
 cRet)), [.t 4]⟩
noncomputable def Tryd.kp100 : List Nat := [0, 1, 2, 4, 5, 6]
noncomputable def Tryd.cf100 : CF := ⟨2, (cSeq (cOps [⟨some 2, true, none, iBox 94 (.t 0)⟩,
 ⟨some 4, true, none, iMov (.c (.int .i64 (.lit 0)))⟩,
 ⟨some 5, true, none, iMov (.c (.bool (.lit false)))⟩])
 (cSeq (cOps [⟨some 7, false, none, iMov (.t 1)⟩,
 ⟨some 8, false, none, iFaddr 5 (.t 2)⟩,
 ⟨some 9, false, none, iFaddr 0 (.t 8)⟩,
 ⟨some 10, false, none, iLoad (.t 9)⟩,
 ⟨some 11, false, none, iBslice 3 [(.int .i64 (.lit 0))] 1 [(0, 1, (.t 10))]⟩,
 ⟨some 12, false, none, iCall (.c (.func (.func 102) [] [])) [(.t 7), (.t 11)]⟩,
 ⟨some 6, true, none, iMov (.t 12)⟩])
 (cSeq (dOps 0 [⟨⟨some 13, false, none, iFaddr 7 (.t 2)⟩, [2], false, 0, 0, none, []⟩,
 ⟨⟨some 14, false, none, iFaddr 0 (.t 13)⟩, [13], false, 0, 0, none, []⟩,
 ⟨⟨some 15, false, none, iLoad (.t 14)⟩, [14], false, 0, 0, none, []⟩,
 ⟨⟨some 16, false, none, iMov (.t 6)⟩, [6], false, 0, 0, none, []⟩,
 ⟨⟨some 17, false, none, iArith .add (.t 15) (.t 16)⟩, [15, 16], false, 0, 0, none, []⟩,
 ⟨⟨some 18, false, none, iFaddr 5 (.t 2)⟩, [2], false, 0, 0, none, []⟩,
 ⟨⟨some 19, false, none, iFaddr 0 (.t 18)⟩, [18], false, 0, 0, none, []⟩,
 ⟨⟨some 20, false, none, iLoad (.t 19)⟩, [19], false, 0, 0, none, []⟩,
 ⟨⟨some 21, false, none, iArith .sub (.t 17) (.t 20)⟩, [17, 20], false, 0, 0, none, []⟩,
 ⟨⟨some 22, false, none, iMov (.t 6)⟩, [6], false, 0, 0, none, []⟩,
 ⟨⟨some 23, false, none, iFaddr 5 (.t 2)⟩, [2], false, 0, 0, none, []⟩,
 ⟨⟨some 24, false, none, iFaddr 1 (.t 23)⟩, [23], false, 0, 0, none, []⟩,
 ⟨⟨some 25, false, none, iLoad (.t 24)⟩, [24], false, 0, 0, none, []⟩,
 ⟨⟨some 26, false, none, iCmp .leq (.t 22) (.t 25)⟩, [22, 25], false, 0, 0, none, []⟩,
 ⟨⟨some 4, true, none, iMov (.t 21)⟩, [21], false, 0, 0, none, []⟩,
 ⟨⟨some 5, true, none, iMov (.t 26)⟩, [26], false, 0, 0, none, []⟩])
 cRet))), [.t 4, .t 5]⟩
noncomputable def Tryd.kp101 : List Nat := [0, 1, 2, 4, 5]
noncomputable def Tryd.cf101 : CF := ⟨2, (cSeq (cOps [⟨some 2, true, none, iBox 94 (.t 0)⟩,
 ⟨some 4, true, none, iMov (.c (.int .i64 (.lit 0)))⟩,
 ⟨some 5, true, none, iMov (.c (.bool (.lit false)))⟩])
 (cSeq (dOps 0 [⟨⟨some 6, false, none, iFaddr 7 (.t 2)⟩, [2], false, 0, 0, none, []⟩,
 ⟨⟨some 7, false, none, iFaddr 1 (.t 6)⟩, [6], false, 0, 0, none, []⟩,
 ⟨⟨some 8, false, none, iLoad (.t 7)⟩, [7], false, 0, 0, none, []⟩,
 ⟨⟨some 9, false, none, iMov (.t 1)⟩, [1], false, 0, 0, none, []⟩,
 ⟨⟨some 10, false, none, iFaddr 5 (.t 2)⟩, [2], false, 0, 0, none, []⟩,
 ⟨⟨some 11, false, none, iFaddr 0 (.t 10)⟩, [10], false, 0, 0, none, []⟩,
 ⟨⟨some 12, false, none, iLoad (.t 11)⟩, [11], false, 0, 0, none, []⟩,
 ⟨⟨some 13, false, none, iCmp .leq (.t 9) (.t 12)⟩, [9, 12], false, 0, 0, none, []⟩,
 ⟨⟨some 4, true, none, iMov (.t 8)⟩, [8], false, 0, 0, none, []⟩,
 ⟨⟨some 5, true, none, iMov (.t 13)⟩, [13], false, 0, 0, none, []⟩])
 cRet)), [.t 4, .t 5]⟩
noncomputable def Tryd.kp102 : List Nat := [0, 1, 4, 6, 7, 8, 9, 10, 15]
noncomputable def Tryd.cf102 : CF := ⟨2, (cSeq (cOps [⟨some 4, true, none, iMov (.c (.int .i64 (.lit 0)))⟩])
 (cSeq (cSeq (cOps [⟨some 7, true, none, iMov (.t 1)⟩,
 ⟨some 8, true, none, iLenS (.t 7)⟩,
 ⟨some 9, true, none, iMov (.c (.int .i64 (.lit 0)))⟩])
 (cBlock 0 (cLoop (cSeq (cOps [⟨some 10, true, none, iCmp .lss (.t 9) (.t 8)⟩])
 (cSeq (cCond (.t 10) cSkip (cExit 0))
 (cSeq (cBlock 1 (cSeq (cOps [⟨some 11, false, none, iIaddr 1 (.t 7) (.t 9)⟩,
 ⟨some 12, false, none, iLoad (.t 11)⟩,
 ⟨some 6, true, none, iMov (.t 12)⟩])
 (cSeq (cOps [⟨some 13, false, none, iMov (.t 6)⟩,
 ⟨some 14, false, none, iMov (.t 0)⟩,
 ⟨some 15, true, none, iCmp .gtr (.t 13) (.t 14)⟩])
 (cCond (.t 15) (cOps [⟨some 16, false, none, iMov (.t 6)⟩,
 ⟨some 0, true, none, iMov (.t 16)⟩]) cSkip))))
 (cOps [⟨some 17, false, none, iArith .add (.t 9) (.c (.int .i64 (.lit 1)))⟩,
 ⟨some 9, true, none, iMov (.t 17)⟩])))))))
 (cSeq (cOps [⟨some 18, false, none, iMov (.t 0)⟩,
 ⟨some 4, true, none, iMov (.t 18)⟩])
 cRet))), [.t 4]⟩
noncomputable def Tryd.kp103 : List Nat := [0, 1, 2, 3, 4, 9]
noncomputable def Tryd.cf103 : CF := ⟨2, (cSeq (cOps [⟨some 2, true, none, iBox 118 (.t 0)⟩,
 ⟨some 3, true, none, iBox 118 (.t 1)⟩,
 ⟨some 4, true, none, iMov (.c (.bool (.lit false)))⟩])
 (cSeq (cSeq (cOps [⟨some 5, false, none, iFaddr 2 (.t 2)⟩,
 ⟨some 6, false, none, iLoad (.t 5)⟩,
 ⟨some 7, false, none, iFaddr 2 (.t 3)⟩,
 ⟨some 8, false, none, iLoad (.t 7)⟩,
 ⟨some 9, true, none, iCmp .neq (.t 6) (.t 8)⟩])
 (cCond (.t 9) (cSeq (cOps [⟨some 10, false, none, iFaddr 2 (.t 2)⟩,
 ⟨some 11, false, none, iLoad (.t 10)⟩,
 ⟨some 12, false, none, iFaddr 2 (.t 3)⟩,
 ⟨some 13, false, none, iLoad (.t 12)⟩,
 ⟨some 14, false, none, iCmp .lss (.t 11) (.t 13)⟩,
 ⟨some 4, true, none, iMov (.t 14)⟩])
 cRet) cSkip))
 (cSeq (cOps [⟨some 15, false, none, iFaddr 0 (.t 2)⟩,
 ⟨some 16, false, none, iLoad (.t 15)⟩,
 ⟨some 17, false, none, iFaddr 0 (.t 3)⟩,
 ⟨some 18, false, none, iLoad (.t 17)⟩,
 ⟨some 19, false, none, iCall (.c (.func (.func 109) [] [])) [(.t 16), (.t 18)]⟩,
 ⟨some 4, true, none, iMov (.t 19)⟩])
 cRet))), [.t 4]⟩
noncomputable def Tryd.kp105 : List Nat := [0, 1, 2, 3, 6, 7, 9, 15, 16, 17, 18, 24]
noncomputable def Tryd.cf105 : CF := ⟨3, (cSeq (cOps [⟨some 3, true, none, iBox 86 (.t 0)⟩,
 ⟨some 6, true, none, iMov (.c (.int .i64 (.lit 0)))⟩])
 (cSeq (cOps [⟨some 7, true, none, iMov (.c (.int .i64 (.lit (-1))))⟩])
 (cSeq (cSeq (cOps [⟨some 10, false, none, iFaddr 0 (.t 3)⟩,
 ⟨some 11, false, none, iFaddr 0 (.t 10)⟩,
 ⟨some 12, false, none, iLoad (.t 11)⟩,
 ⟨some 13, false, none, iMov (.t 1)⟩,
 ⟨some 14, false, none, iIaddr 1 (.t 12) (.t 13)⟩,
 ⟨some 15, true, none, iLoad (.t 14)⟩,
 ⟨some 16, true, none, iLenS (.t 15)⟩,
 ⟨some 17, true, none, iMov (.c (.int .i64 (.lit 0)))⟩])
 (cBlock 0 (cLoop (cSeq (cOps [⟨some 18, true, none, iCmp .lss (.t 17) (.t 16)⟩])
 (cSeq (cCond (.t 18) cSkip (cExit 0))
 (cSeq (cBlock 1 (cSeq (cOps [⟨some 19, false, none, iIaddr 2 (.t 15) (.t 17)⟩,
 ⟨some 20, false, none, iLoadN 2 (.t 19)⟩,
 ⟨some 9, true, none, iAlloc 39 [(.int .i64 (.lit 0)), (.int .i64 (.lit 0))]⟩,
 ⟨none, false, none, iStore 2 (.t 9) (.t 20)⟩])
 (cSeq (cOps [⟨some 21, false, none, iFaddr 0 (.t 9)⟩,
 ⟨some 22, false, none, iLoad (.t 21)⟩,
 ⟨some 23, false, none, iMov (.t 2)⟩,
 ⟨some 24, true, none, iCmp .leq (.t 22) (.t 23)⟩])
 (cCond (.t 24) (cOps [⟨some 25, false, none, iMov (.t 2)⟩,
 ⟨some 26, false, none, iFaddr 1 (.t 9)⟩,
 ⟨some 27, false, none, iLoad (.t 26)⟩,
 ⟨some 28, false, none, iMin [(.t 25), (.t 27)]⟩,
 ⟨some 7, true, none, iMov (.t 28)⟩]) cSkip))))
 (cOps [⟨some 29, false, none, iArith .add (.t 17) (.c (.int .i64 (.lit 1)))⟩,
 ⟨some 17, true, none, iMov (.t 29)⟩])))))))
 (cSeq (cOps [⟨some 30, false, none, iMov (.t 7)⟩,
 ⟨some 6, true, none, iMov (.t 30)⟩])
 cRet)))), [.t 6]⟩
noncomputable def Tryd.kp106 : List Nat := [0, 1, 2, 3, 4]
noncomputable def Tryd.cf106 : CF := ⟨2, (cSeq (cOps [⟨some 2, true, none, iBox 86 (.t 0)⟩,
 ⟨some 3, true, none, iBox 151 (.t 1)⟩,
 ⟨some 4, true, none, iMov (.c .nilFunc)⟩])
 (cSeq (cOps [⟨some 5, false, none, iFunc (.func 110) [] [(.t 3), (.t 2)]⟩,
 ⟨some 4, true, none, iMov (.t 5)⟩])
 cRet)), [.t 4]⟩
noncomputable def Tryd.kp107 : List Nat := [0, 2, 4]
noncomputable def Tryd.cf107 : CF := ⟨1, (cSeq (cOps [⟨some 2, true, none, iMov (.c .nilslice)⟩])
 (cSeq (cSeq (cOps [⟨some 3, false, none, iMov (.t 0)⟩,
 ⟨some 4, true, none, iEq false false 1 [(0, .nilS)] (.t 3) (.c .nilslice)⟩])
 (cCond (.t 4) (cSeq (cOps [⟨some 2, true, none, iMov (.c .nilslice)⟩])
 cRet) cSkip))
 (cSeq (cOps [⟨some 5, false, none, iBslice 80 [(.int .i64 (.lit 0)), (.int .i64 (.lit 0)), (.int .i64 (.lit 0))] 0 []⟩,
 ⟨some 6, false, none, iMov (.t 0)⟩,
 ⟨some 7, false, none, iAppend 80 3 24 (.t 5) (.t 6)⟩,
 ⟨some 2, true, none, iMov (.t 7)⟩])
 cRet))), [.t 2]⟩
noncomputable def Tryd.kp108 : List Nat := [0, 1, 4, 5, 7, 8, 9, 16]
noncomputable def Tryd.cf108 : CF := ⟨2, (cSeq (cOps [⟨some 4, true, none, iMov (.c (.int .i64 (.lit 0)))⟩])
 (cSeq (cSeq (cOps [⟨some 6, false, none, iMov (.t 0)⟩,
 ⟨some 7, true, none, iLenS (.t 6)⟩,
 ⟨some 8, true, none, iMov (.c (.int .i64 (.lit 0)))⟩])
 (cBlock 0 (cLoop (cSeq (cOps [⟨some 9, true, none, iCmp .lss (.t 8) (.t 7)⟩])
 (cSeq (cCond (.t 9) cSkip (cExit 0))
 (cSeq (cBlock 1 (cSeq (cOps [⟨some 10, false, none, iMov (.t 8)⟩,
 ⟨some 5, true, none, iMov (.t 10)⟩])
 (cSeq (cOps [⟨some 11, false, none, iMov (.t 1)⟩,
 ⟨some 12, false, none, iMov (.t 0)⟩,
 ⟨some 13, false, none, iMov (.t 5)⟩,
 ⟨some 14, false, none, iIaddr 2 (.t 12) (.t 13)⟩,
 ⟨some 15, false, none, iLoadN 2 (.t 14)⟩,
 ⟨some 16, true, none, iCall (.t 11) [(.t 15)]⟩])
 (cCond (.t 16) (cSeq (cOps [⟨some 17, false, none, iMov (.t 5)⟩,
 ⟨some 4, true, none, iMov (.t 17)⟩])
 cRet) cSkip))))
 (cOps [⟨some 18, false, none, iArith .add (.t 8) (.c (.int .i64 (.lit 1)))⟩,
 ⟨some 8, true, none, iMov (.t 18)⟩])))))))
 (cSeq (cOps [⟨some 4, true, none, iMov (.c (.int .i64 (.lit (-1))))⟩])
 cRet))), [.t 4]⟩
noncomputable def Tryd.kp109 : List Nat := [0, 1, 4, 5, 6, 11, 17, 18, 19, 20, 29]
noncomputable def Tryd.cf109 : CF := ⟨2, (cSeq (cOps [⟨some 4, true, none, iMov (.c (.bool (.lit false)))⟩])
 (cSeq (cSeq (cOps [⟨some 7, false, none, iMov (.t 0)⟩,
 ⟨some 8, false, none, iLenS (.t 7)⟩,
 ⟨some 9, false, none, iMov (.t 1)⟩,
 ⟨some 10, false, none, iLenS (.t 9)⟩,
 ⟨some 11, true, none, iCmp .neq (.t 8) (.t 10)⟩])
 (cCond (.t 11) (cSeq (cOps [⟨some 12, false, none, iMov (.t 0)⟩,
 ⟨some 13, false, none, iLenS (.t 12)⟩,
 ⟨some 14, false, none, iMov (.t 1)⟩,
 ⟨some 15, false, none, iLenS (.t 14)⟩,
 ⟨some 16, false, none, iCmp .lss (.t 13) (.t 15)⟩,
 ⟨some 4, true, none, iMov (.t 16)⟩])
 cRet) cSkip))
 (cSeq (cSeq (cOps [⟨some 17, true, none, iMov (.t 0)⟩,
 ⟨some 18, true, none, iLenS (.t 17)⟩,
 ⟨some 19, true, none, iMov (.c (.int .i64 (.lit 0)))⟩])
 (cBlock 0 (cLoop (cSeq (cOps [⟨some 20, true, none, iCmp .lss (.t 19) (.t 18)⟩])
 (cSeq (cCond (.t 20) cSkip (cExit 0))
 (cSeq (cBlock 1 (cSeq (cOps [⟨some 21, false, none, iMov (.t 19)⟩,
 ⟨some 22, false, none, iIaddr 3 (.t 17) (.t 19)⟩,
 ⟨some 23, false, none, iLoadN 3 (.t 22)⟩,
 ⟨some 6, true, none, iAlloc 80 [(.int .i64 (.lit 0)), (.int .i64 (.lit 0)), (.int .i64 (.lit 0))]⟩,
 ⟨some 5, true, none, iMov (.t 21)⟩,
 ⟨none, false, none, iStore 3 (.t 6) (.t 23)⟩])
 (cSeq (dOps 0 [⟨⟨some 24, false, none, iLoadN 3 (.t 6)⟩, [6], false, 0, 0, none, []⟩,
 ⟨⟨some 25, false, none, iMov (.t 1)⟩, [1], false, 0, 0, none, []⟩,
 ⟨⟨some 26, false, none, iMov (.t 5)⟩, [5], false, 0, 0, none, []⟩,
 ⟨⟨some 27, false, none, iIaddr 3 (.t 25) (.t 26)⟩, [25, 26], false, 0, 0, none, []⟩,
 ⟨⟨some 28, false, none, iLoadN 3 (.t 27)⟩, [27], false, 0, 0, none, []⟩,
 ⟨⟨some 29, true, none, iEq true true 3 [(0, .int), (1, .int), (2, .int)] (.t 24) (.t 28)⟩, [24, 28], false, 0, 0, none, []⟩])
 (cCond (.t 29) (cSeq (dOps 0 [⟨⟨some 30, false, none, iLoadN 3 (.t 6)⟩, [6], false, 0, 0, none, []⟩,
 ⟨⟨some 31, false, none, iMov (.t 1)⟩, [1], false, 0, 0, none, []⟩,
 ⟨⟨some 32, false, none, iMov (.t 5)⟩, [5], false, 0, 0, none, []⟩,
 ⟨⟨some 33, false, none, iIaddr 3 (.t 31) (.t 32)⟩, [31, 32], false, 0, 0, none, []⟩,
 ⟨⟨some 34, false, none, iLoadN 3 (.t 33)⟩, [33], false, 0, 0, none, []⟩,
 ⟨⟨some 35, false, none, iCall (.c (.func (.func 113) [] [])) [(.t 30), (.t 34)]⟩, [30, 34], true, 0, 0, none, []⟩,
 ⟨⟨some 36, false, none, iCmp .lss (.t 35) (.c (.int .i64 (.lit 0)))⟩, [35], false, 1, 1, none, []⟩,
 ⟨⟨some 4, true, none, iMov (.t 36)⟩, [36], false, 1, 1, none, []⟩])
 cRet) cSkip))))
 (cOps [⟨some 37, false, none, iArith .add (.t 19) (.c (.int .i64 (.lit 1)))⟩,
 ⟨some 19, true, none, iMov (.t 37)⟩])))))))
 (cSeq (cOps [⟨some 4, true, none, iMov (.c (.bool (.lit false)))⟩])
 cRet)))), [.t 4]⟩
noncomputable def Tryd.kp110 : List Nat := [0, 1, 2, 3, 4, 5, 6, 7]
noncomputable def Tryd.cf110 : CF := ⟨3, (cSeq (cOps [⟨some 3, true, none, iBox 162 (.t 0)⟩])
 (cSeq (dOps 1 [⟨⟨some 8, false, none, iCall (.c (.func (.func 91) [] [])) []⟩, [], true, 0, 0, none, []⟩,
 ⟨⟨some 9, false, none, iFaddr 0 (.t 1)⟩, [1], false, 0, 1, none, []⟩,
 ⟨⟨some 10, false, none, iLoad (.t 9)⟩, [9], false, 0, 1, none, []⟩,
 ⟨⟨some 11, false, none, iIndex false 1 3 (.t 8) (.t 10)⟩, [8, 10], false, 1, 1, none, []⟩,
 ⟨⟨some 4, true, none, iAlloc 140 [.nilFunc]⟩, [], false, 0, 2, (some (flAlloc [.nilFunc], .ptr, 0)), []⟩,
 ⟨⟨none, false, none, iStore 1 (.t 4) (.t 11)⟩, [4, 11], true, 1, 0, none, [0]⟩])
 (cSeq (cOps [⟨some 5, true, none, iAlloc 163 [(.int .i64 (.lit 0)), (.int .i64 (.lit 0)), (.int .i64 (.lit 0)), (.int .i64 (.lit 0)), (.int .i64 (.lit 0)), (.int .i64 (.lit 0)), (.int .i64 (.lit 0)), (.int .i64 (.lit 0)), (.int .i64 (.lit 0)), (.int .i64 (.lit 0)), (.int .i64 (.lit 0)), (.int .i64 (.lit 0))]⟩])
 (cSeq (cOps [⟨some 6, true, none, iAlloc 131 [(.bool (.lit false)), (.bool (.lit false)), (.bool (.lit false)), (.bool (.lit false)), (.bool (.lit false)), (.bool (.lit false))]⟩])
 (cSeq (cOps [⟨some 7, true, none, iAlloc 68 [.nilFunc]⟩])
 (cSeq (cOps [⟨some 12, false, none, iFunc (.func 111) [] [(.t 1), (.t 3), (.t 5), (.t 2), (.t 6), (.t 4), (.t 7)]⟩,
 ⟨none, false, none, iStore 1 (.t 7) (.t 12)⟩])
 (cOps [⟨some 13, false, none, iLoad (.t 7)⟩,
 ⟨some 14, false, none, iFaddr 1 (.t 1)⟩,
 ⟨some 15, false, none, iLoad (.t 14)⟩,
 ⟨some 16, false, none, iFaddr 3 (.t 1)⟩,
 ⟨some 17, false, none, iLoad (.t 16)⟩,
 ⟨some 18, false, none, iCall (.t 13) [(.c (.int .i64 (.lit 0))), (.t 15), (.t 17)]⟩]))))))), []⟩
noncomputable def Tryd.ra111041 : C := (cOps [⟨some 14, true, none, iAlloc 94 [(.int .i64 (.lit 0)), (.int .i64 (.lit 0)), (.int .i64 (.lit 0)), (.int .i64 (.lit 0)), (.int .i64 (.lit 0)), (.int .i64 (.lit 0)), (.int .i64 (.lit 0)), (.int .i64 (.lit 0)), (.int .i64 (.lit 0))]⟩,
 ⟨none, false, none, iStore 9 (.t 14) (.t 41)⟩])
noncomputable def Tryd.rb111041 : C := (cBlock 1 (cSeq (cOps [⟨some 43, false, none, iLoad (.t 8)⟩,
 ⟨some 44, false, none, iLoadN 9 (.t 14)⟩,
 ⟨some 45, false, none, iLoad (.t 12)⟩,
 ⟨some 46, false, none, iCall (.t 43) [(.t 44), (.t 45)]⟩,
 ⟨some 42, false, none, iMov (.t 46)⟩,
 ⟨some 47, false, none, iExtract 0 (.t 42)⟩,
 ⟨some 48, false, none, iExtract 1 (.t 42)⟩,
 ⟨some 15, true, none, iMov (.t 47)⟩,
 ⟨some 16, true, none, iMov (.t 48)⟩])
 (cSeq (cSeq (cOps [⟨some 49, false, none, iMov (.t 16)⟩,
 ⟨some 50, true, none, iNot (.t 49)⟩])
 (cCond (.t 50) (cExit 1) cSkip))
 (cSeq (dOps 0 [⟨⟨some 51, false, none, iLoad (.t 10)⟩, [10], false, 0, 0, none, []⟩,
 ⟨⟨some 52, false, none, iFaddr 0 (.t 14)⟩, [14], false, 0, 1, none, []⟩,
 ⟨⟨some 53, false, none, iFaddr 0 (.t 52)⟩, [52], false, 0, 1, none, []⟩,
 ⟨⟨some 54, false, none, iLoad (.t 53)⟩, [53], false, 0, 1, none, []⟩,
 ⟨⟨some 55, false, none, iFaddr 0 (.t 14)⟩, [14], false, 0, 0, none, []⟩,
 ⟨⟨some 56, false, none, iLoadN 3 (.t 55)⟩, [55], false, 0, 0, none, []⟩,
 ⟨⟨some 57, false, none, iIaddrA 3 4 (.t 5) (.t 51)⟩, [5, 51], false, 0, 0, none, []⟩,
 ⟨⟨none, false, none, iStore 3 (.t 57) (.t 56)⟩, [57, 56], true, 0, 0, none, []⟩,
 ⟨⟨some 58, false, none, iIaddrA 1 6 (.t 7) (.t 54)⟩, [7, 54], false, 1, 1, none, []⟩,
 ⟨⟨none, false, none, iStore 1 (.t 58) (.c (.bool (.lit true)))⟩, [58], true, 1, 0, none, []⟩])
 (cSeq (cSeq (cOps [⟨some 59, false, none, iLoad (.t 9)⟩,
 ⟨some 60, false, none, iLoad (.t 10)⟩,
 ⟨some 61, false, none, iArith .add (.t 60) (.c (.int .i64 (.lit 1)))⟩,
 ⟨some 62, false, none, iFaddr 4 (.t 14)⟩,
 ⟨some 63, false, none, iLoad (.t 62)⟩,
 ⟨some 64, false, none, iMov (.t 15)⟩,
 ⟨some 65, false, none, iFaddr 0 (.t 6)⟩,
 ⟨some 66, false, none, iFaddr 2 (.t 65)⟩,
 ⟨some 67, false, none, iLoad (.t 66)⟩,
 ⟨some 68, false, none, iArith .add (.t 64) (.t 67)⟩,
 ⟨some 69, false, none, iCall (.t 59) [(.t 61), (.t 63), (.t 68)]⟩,
 ⟨some 70, true, none, iNot (.t 69)⟩])
 (cCond (.t 70) (cSeq (cOps [⟨none, false, none, iStore 1 (.t 13) (.c (.bool (.lit false)))⟩])
 cRet) cSkip))
 (cOps [⟨some 71, false, none, iFaddr 0 (.t 14)⟩,
 ⟨some 72, false, none, iFaddr 0 (.t 71)⟩,
 ⟨some 73, false, none, iLoad (.t 72)⟩,
 ⟨some 74, false, none, iIaddrA 1 6 (.t 7) (.t 73)⟩,
 ⟨none, false, none, iStore 1 (.t 74) (.c (.bool (.lit false)))⟩]))))))
noncomputable def Tryd.kp111 : List Nat := [0, 1, 2, 3, 4, 5, 6, 7, 8, 9, 10, 12, 13, 14, 15, 16, 34, 36, 40, 41, 50, 70]
noncomputable def Tryd.cf111 : CF := ⟨10, (cSeq (cOps [⟨some 10, true, none, iBox 3 (.t 0)⟩,
 ⟨some 12, true, none, iBox 3 (.t 2)⟩,
 ⟨some 13, true, none, iAlloc 4 [(.bool (.lit false))]⟩])
 (cSeq (cSeq (dOps 0 [⟨⟨some 17, false, none, iMov (.t 1)⟩, [1], false, 0, 0, none, []⟩,
 ⟨⟨some 18, false, none, iFaddr 1 (.t 3)⟩, [3], false, 0, 0, none, []⟩,
 ⟨⟨some 19, false, none, iLoad (.t 18)⟩, [18], false, 0, 0, none, []⟩,
 ⟨⟨some 20, false, none, iCmp .neq (.t 17) (.t 19)⟩, [17, 19], false, 0, 0, none, []⟩,
 ⟨⟨some 21, false, none, iMov (.t 20)⟩, [20], false, 0, 0, none, []⟩,
 ⟨⟨some 22, false, some (21, true), iLoad (.t 4)⟩, [21, 4], false, 0, 1, none, []⟩,
 ⟨⟨some 23, false, some (21, true), iLoad (.t 10)⟩, [21, 10], false, 0, 1, none, []⟩,
 ⟨⟨some 24, false, some (21, true), iLoad (.t 10)⟩, [21, 10], false, 0, 1, none, []⟩,
 ⟨⟨some 25, false, some (21, true), iSliceA 3 4 (.t 5) none (some (.t 23)) (some (.t 24))⟩, [21, 5, 23, 24], false, 0, 1, none, []⟩,
 ⟨⟨some 26, false, some (21, true), iMov (.t 1)⟩, [21, 1], false, 0, 1, none, []⟩,
 ⟨⟨some 27, false, some (21, true), iLoadN 4 (.t 6)⟩, [21, 6], false, 0, 0, none, []⟩,
 ⟨⟨some 28, false, some (21, true), iMov (.t 1)⟩, [21, 1], false, 0, 0, none, []⟩,
 ⟨⟨some 29, false, some (21, true), iLoad (.t 12)⟩, [21, 12], false, 0, 0, none, []⟩,
 ⟨⟨some 30, false, some (21, true), iCall (.c (.func (.func 92) [] [])) [(.t 27), (.t 28), (.t 29)]⟩, [21, 27, 28, 29], true, 0, 0, none, []⟩,
 ⟨⟨some 31, false, some (21, true), iBuild [.nilslice, (.int .i64 (.lit 0)), (.int .i64 (.lit 0))] [(0, 1, (.t 25)), (1, 1, (.t 26)), (2, 1, (.t 30))]⟩, [21, 25, 26, 30], false, 1, 1, none, []⟩,
 ⟨⟨some 32, false, some (21, true), iCall (.t 22) [(.t 31)]⟩, [21, 22, 31], true, 1, 0, none, []⟩,
 ⟨⟨some 33, false, some (21, true), iNot (.t 32)⟩, [21, 32], false, 2, 2, none, []⟩,
 ⟨⟨some 34, true, none, iPick (.t 21) (.t 33) (.c (.bool (.lit false)))⟩, [21, 33], false, 2, 2, none, []⟩])
 (cCond (.t 34) (cSeq (cOps [⟨none, false, none, iStore 1 (.t 13) (.c (.bool (.lit false)))⟩])
 cRet) cSkip))
 (cSeq (cSeq (cOps [⟨some 35, false, none, iLoad (.t 10)⟩,
 ⟨some 36, true, none, iCmp .eql (.t 35) (.c (.int .i64 (.lit 4)))⟩])
 (cCond (.t 36) (cSeq (cOps [⟨none, false, none, iStore 1 (.t 13) (.c (.bool (.lit true)))⟩])
 cRet) cSkip))
 (cSeq (cSeq (cOps [⟨some 37, false, none, iLoadN 4 (.t 6)⟩,
 ⟨some 38, false, none, iMov (.t 1)⟩,
 ⟨some 39, false, none, iLoadN 6 (.t 7)⟩,
 ⟨some 40, true, none, iCall (.c (.func (.func 112) [] [])) [(.t 37), (.t 38), (.t 39)]⟩])
 (cBlock 0 (cRange (.t 40) [41] 111041)))
 (cSeq (cOps [⟨none, false, none, iStore 1 (.t 13) (.c (.bool (.lit true)))⟩])
 cRet))))), [.cell 13 false 1]⟩
noncomputable def Tryd.kp112 : List Nat := [0, 1, 2, 3, 4, 5, 6]
noncomputable def Tryd.cf112 : CF := ⟨3, (cSeq (cOps [⟨some 3, true, none, iBox 86 (.t 0)⟩,
 ⟨some 4, true, none, iBox 3 (.t 1)⟩,
 ⟨some 5, true, none, iBox 131 (.t 2)⟩,
 ⟨some 6, true, none, iMov (.c .nilFunc)⟩])
 (cSeq (cOps [⟨some 7, false, none, iFunc (.func 114) [] [(.t 3), (.t 5), (.t 4)]⟩,
 ⟨some 6, true, none, iMov (.t 7)⟩])
 cRet)), [.t 6]⟩
noncomputable def Tryd.kp113 : List Nat := [0, 1, 2, 3, 4]
noncomputable def Tryd.cf113 : CF := ⟨2, (cSeq (cOps [⟨some 2, true, none, iBox 80 (.t 0)⟩,
 ⟨some 3, true, none, iBox 80 (.t 1)⟩,
 ⟨some 4, true, none, iMov (.c (.int .i64 (.lit 0)))⟩])
 (cSeq (dOps 0 [⟨⟨some 5, false, none, iFaddr 0 (.t 2)⟩, [2], false, 0, 0, none, []⟩,
 ⟨⟨some 6, false, none, iLoad (.t 5)⟩, [5], false, 0, 0, none, []⟩,
 ⟨⟨some 7, false, none, iFaddr 0 (.t 3)⟩, [3], false, 0, 0, none, []⟩,
 ⟨⟨some 8, false, none, iLoad (.t 7)⟩, [7], false, 0, 0, none, []⟩,
 ⟨⟨some 9, false, none, iCall (.c (.func (.func 116) [] [])) [(.t 6), (.t 8)]⟩, [6, 8], true, 0, 0, none, []⟩,
 ⟨⟨some 10, false, none, iFaddr 1 (.t 2)⟩, [2], false, 0, 1, none, []⟩,
 ⟨⟨some 11, false, none, iLoad (.t 10)⟩, [10], false, 0, 1, none, []⟩,
 ⟨⟨some 12, false, none, iFaddr 1 (.t 3)⟩, [3], false, 0, 1, none, []⟩,
 ⟨⟨some 13, false, none, iLoad (.t 12)⟩, [12], false, 0, 1, none, []⟩,
 ⟨⟨some 14, false, none, iCall (.c (.func (.func 116) [] [])) [(.t 11), (.t 13)]⟩, [11, 13], true, 1, 0, none, []⟩,
 ⟨⟨some 15, false, none, iFaddr 2 (.t 2)⟩, [2], false, 0, 2, none, []⟩,
 ⟨⟨some 16, false, none, iLoad (.t 15)⟩, [15], false, 0, 2, none, []⟩,
 ⟨⟨some 17, false, none, iFaddr 2 (.t 3)⟩, [3], false, 0, 2, none, []⟩,
 ⟨⟨some 18, false, none, iLoad (.t 17)⟩, [17], false, 0, 2, none, []⟩,
 ⟨⟨some 19, false, none, iCall (.c (.func (.func 116) [] [])) [(.t 16), (.t 18)]⟩, [16, 18], true, 2, 0, none, []⟩,
 ⟨⟨some 20, false, none, iBslice 3 [(.int .i64 (.lit 0))] 3 [(0, 1, (.t 9)), (1, 1, (.t 14)), (2, 1, (.t 19))]⟩, [9, 14, 19], true, 3, 0, none, []⟩,
 ⟨⟨some 21, false, none, iCall (.c (.func (.func 115) [] [])) [(.t 20)]⟩, [20], true, 4, 0, none, []⟩,
 ⟨⟨some 4, true, none, iMov (.t 21)⟩, [21], false, 5, 5, none, []⟩])
 cRet)), [.t 4]⟩
noncomputable def Tryd.kp114 : List Nat := [0, 1, 2, 3, 5, 6, 7, 8, 9, 12, 13, 14, 15, 21, 22, 23, 25, 26, 27, 31, 52]
noncomputable def Tryd.cf114 : CF := ⟨4, (cSeq cSkip
 (cSeq (cOps [⟨some 10, false, none, iFaddr 0 (.t 1)⟩,
 ⟨some 11, false, none, iFaddr 1 (.t 10)⟩,
 ⟨some 12, true, none, iLoad (.t 11)⟩,
 ⟨some 13, true, none, iLenS (.t 12)⟩,
 ⟨some 14, true, none, iMov (.c (.int .i64 (.lit 0)))⟩])
 (cBlock 0 (cLoop (cSeq (cOps [⟨some 15, true, none, iCmp .lss (.t 14) (.t 13)⟩])
 (cSeq (cCond (.t 15) cSkip (cExit 0))
 (cSeq (cBlock 1 (cSeq (cOps [⟨some 16, false, none, iMov (.t 14)⟩,
 ⟨some 17, false, none, iIaddr 3 (.t 12) (.t 14)⟩,
 ⟨some 18, false, none, iLoadN 3 (.t 17)⟩,
 ⟨some 6, true, none, iAlloc 73 [.nilslice, (.int .i64 (.lit 0)), (.int .i64 (.lit 0))]⟩,
 ⟨some 5, true, none, iMov (.t 16)⟩,
 ⟨none, false, none, iStore 3 (.t 6) (.t 18)⟩])
 (cSeq (cOps [⟨some 19, false, none, iFaddr 0 (.t 6)⟩,
 ⟨some 20, false, none, iLoad (.t 19)⟩,
 ⟨some 21, true, none, iLenS (.t 20)⟩,
 ⟨some 22, true, none, iMov (.c (.int .i64 (.lit 0)))⟩])
 (cBlock 2 (cLoop (cSeq (cOps [⟨some 23, true, none, iCmp .lss (.t 22) (.t 21)⟩])
 (cSeq (cCond (.t 23) cSkip (cExit 2))
 (cSeq (cBlock 3 (cSeq (cOps [⟨some 24, false, none, iMov (.t 22)⟩,
 ⟨some 7, true, none, iMov (.t 24)⟩])
 (cSeq (cOps [⟨some 25, true, none, iMov (.t 7)⟩,
 ⟨some 26, true, none, iMov (.c (.int .i64 (.lit 0)))⟩])
 (cBlock 4 (cLoop (cSeq (cOps [⟨some 27, true, none, iCmp .lss (.t 26) (.t 25)⟩])
 (cSeq (cCond (.t 27) cSkip (cExit 4))
 (cSeq (cBlock 5 (cSeq (cOps [⟨some 28, false, none, iMov (.t 26)⟩,
 ⟨some 8, true, none, iMov (.t 28)⟩])
 (cSeq (cSeq (cOps [⟨some 29, false, none, iMov (.t 5)⟩,
 ⟨some 30, false, none, iIaddrA 1 6 (.t 2) (.t 29)⟩,
 ⟨some 31, true, none, iLoad (.t 30)⟩])
 (cCond (.t 31) (cExit 1) cSkip))
 (cSeq (cOps [⟨some 32, false, none, iMov (.t 5)⟩,
 ⟨some 33, false, none, iMov (.t 8)⟩,
 ⟨some 34, false, none, iMov (.t 7)⟩,
 ⟨some 35, false, none, iBuild [(.int .i64 (.lit 0)), (.int .i64 (.lit 0)), (.int .i64 (.lit 0))] [(0, 1, (.t 32)), (1, 1, (.t 33)), (2, 1, (.t 34))]⟩,
 ⟨some 9, true, none, iAlloc 80 [(.int .i64 (.lit 0)), (.int .i64 (.lit 0)), (.int .i64 (.lit 0))]⟩,
 ⟨none, false, none, iStore 3 (.t 9) (.t 35)⟩])
 (cSeq (dOps 0 [⟨⟨some 36, false, none, iFaddr 0 (.t 6)⟩, [6], false, 0, 0, none, []⟩,
 ⟨⟨some 37, false, none, iLoad (.t 36)⟩, [36], false, 0, 0, none, []⟩,
 ⟨⟨some 38, false, none, iMov (.t 8)⟩, [8], false, 0, 0, none, []⟩,
 ⟨⟨some 39, false, none, iIaddr 3 (.t 37) (.t 38)⟩, [37, 38], false, 0, 0, none, []⟩,
 ⟨⟨some 40, false, none, iFaddr 0 (.t 39)⟩, [39], false, 0, 0, none, []⟩,
 ⟨⟨some 41, false, none, iLoad (.t 40)⟩, [40], false, 0, 0, none, []⟩,
 ⟨⟨some 42, false, none, iLoad (.t 3)⟩, [3], false, 0, 0, none, []⟩,
 ⟨⟨some 43, false, none, iCmp .eql (.t 41) (.t 42)⟩, [41, 42], false, 0, 0, none, []⟩,
 ⟨⟨some 44, false, none, iMov (.t 43)⟩, [43], false, 0, 0, none, []⟩,
 ⟨⟨some 45, false, some (44, true), iMov (.t 0)⟩, [44, 0], false, 0, 0, none, []⟩,
 ⟨⟨some 46, false, some (44, true), iFaddr 3 (.t 1)⟩, [44, 1], false, 0, 0, none, []⟩,
 ⟨⟨some 47, false, some (44, true), iLoad (.t 46)⟩, [44, 46], false, 0, 0, none, []⟩,
 ⟨⟨some 48, false, some (44, true), iLoadN 3 (.t 9)⟩, [44, 9], false, 0, 0, none, []⟩,
 ⟨⟨some 49, false, some (44, true), iLookup (.agg [(.int .i64 (.lit 0)), (.int .i64 (.lit 0)), (.int .i64 (.lit 0)), (.int .i64 (.lit 0)), (.int .i64 (.lit 0)), (.int .i64 (.lit 0)), (.int .i64 (.lit 0)), (.int .i64 (.lit 0)), (.int .i64 (.lit 0))]) true 3 [(0, .int), (1, .int), (2, .int)] false (.t 47) (.t 48)⟩, [44, 47, 48], false, 0, 0, none, []⟩,
 ⟨⟨some 50, false, some (44, true), iCall (.t 45) [(.t 49)]⟩, [44, 45, 49], true, 0, 0, none, []⟩,
 ⟨⟨some 51, false, some (44, true), iNot (.t 50)⟩, [44, 50], false, 1, 1, none, []⟩,
 ⟨⟨some 52, true, none, iPick (.t 44) (.t 51) (.c (.bool (.lit false)))⟩, [44, 51], false, 1, 1, none, []⟩])
 (cCond (.t 52) cRet cSkip))))))
 (cOps [⟨some 53, false, none, iArith .add (.t 26) (.c (.int .i64 (.lit 1)))⟩,
 ⟨some 26, true, none, iMov (.t 53)⟩])))))))))
 (cOps [⟨some 54, false, none, iArith .add (.t 22) (.c (.int .i64 (.lit 1)))⟩,
 ⟨some 22, true, none, iMov (.t 54)⟩])))))))))
 (cOps [⟨some 55, false, none, iArith .add (.t 14) (.c (.int .i64 (.lit 1)))⟩,
 ⟨some 14, true, none, iMov (.t 55)⟩])))))))), []⟩
noncomputable def Tryd.kp115 : List Nat := [0, 2, 3, 5, 6, 7, 8, 9, 14]
noncomputable def Tryd.cf115 : CF := ⟨1, (cSeq (cOps [⟨some 2, true, none, iMov (.c (.int .i64 (.lit 0)))⟩])
 (cSeq (cOps [⟨some 3, true, none, iMov (.c (.int .i64 (.lit 0)))⟩])
 (cSeq (cSeq (cOps [⟨some 6, true, none, iMov (.t 0)⟩,
 ⟨some 7, true, none, iLenS (.t 6)⟩,
 ⟨some 8, true, none, iMov (.c (.int .i64 (.lit 0)))⟩])
 (cBlock 0 (cLoop (cSeq (cOps [⟨some 9, true, none, iCmp .lss (.t 8) (.t 7)⟩])
 (cSeq (cCond (.t 9) cSkip (cExit 0))
 (cSeq (cBlock 1 (cSeq (cOps [⟨some 10, false, none, iIaddr 1 (.t 6) (.t 8)⟩,
 ⟨some 11, false, none, iLoad (.t 10)⟩,
 ⟨some 5, true, none, iMov (.t 11)⟩])
 (cSeq (cOps [⟨some 12, false, none, iMov (.t 5)⟩,
 ⟨some 13, false, none, iMov (.t 3)⟩,
 ⟨some 14, true, none, iCmp .neq (.t 12) (.t 13)⟩])
 (cCond (.t 14) (cSeq (cOps [⟨some 15, false, none, iMov (.t 5)⟩,
 ⟨some 2, true, none, iMov (.t 15)⟩])
 cRet) cSkip))))
 (cOps [⟨some 16, false, none, iArith .add (.t 8) (.c (.int .i64 (.lit 1)))⟩,
 ⟨some 8, true, none, iMov (.t 16)⟩])))))))
 (cSeq (cOps [⟨some 17, false, none, iMov (.t 3)⟩,
 ⟨some 2, true, none, iMov (.t 17)⟩])
 cRet)))), [.t 2]⟩
noncomputable def Tryd.kp116 : List Nat := [0, 1, 4, 5, 6, 11, 12, 13, 16, 19]
noncomputable def Tryd.cf116 : CF := ⟨2, (cSeq (cOps [⟨some 4, true, none, iMov (.c (.int .i64 (.lit 0)))⟩])
 (cSeq (cOps [⟨some 7, false, none, iMov (.t 0)⟩,
 ⟨some 8, false, none, iCall (.c (.func (.func 117) [] [])) [(.t 7)]⟩,
 ⟨some 5, true, none, iMov (.t 8)⟩])
 (cSeq (cOps [⟨some 9, false, none, iMov (.t 1)⟩,
 ⟨some 10, false, none, iCall (.c (.func (.func 117) [] [])) [(.t 9)]⟩,
 ⟨some 6, true, none, iMov (.t 10)⟩])
 (cSeq (cSeq (cOps [⟨some 11, true, none, iMov (.t 5)⟩])
 (cCond (.t 11) (cSeq (cSeq (cOps [⟨some 12, true, none, iMov (.t 6)⟩])
 (cCond (.t 12) (cSeq (cOps [⟨some 4, true, none, iMov (.c (.int .i64 (.lit 0)))⟩])
 cRet) cSkip))
 (cSeq (cOps [⟨some 4, true, none, iMov (.c (.int .i64 (.lit (-1))))⟩])
 cRet)) cSkip))
 (cSeq (cSeq (cOps [⟨some 13, true, none, iMov (.t 6)⟩])
 (cCond (.t 13) (cSeq (cOps [⟨some 4, true, none, iMov (.c (.int .i64 (.lit 1)))⟩])
 cRet) cSkip))
 (cSeq (cSeq (cOps [⟨some 14, false, none, iMov (.t 0)⟩,
 ⟨some 15, false, none, iMov (.t 1)⟩,
 ⟨some 16, true, none, iCmp .lss (.t 14) (.t 15)⟩])
 (cCond (.t 16) (cSeq (cOps [⟨some 4, true, none, iMov (.c (.int .i64 (.lit (-1))))⟩])
 cRet) cSkip))
 (cSeq (cSeq (cOps [⟨some 17, false, none, iMov (.t 0)⟩,
 ⟨some 18, false, none, iMov (.t 1)⟩,
 ⟨some 19, true, none, iCmp .gtr (.t 17) (.t 18)⟩])
 (cCond (.t 19) (cSeq (cOps [⟨some 4, true, none, iMov (.c (.int .i64 (.lit 1)))⟩])
 cRet) cSkip))
 (cSeq (cOps [⟨some 4, true, none, iMov (.c (.int .i64 (.lit 0)))⟩])
 cRet)))))))), [.t 4]⟩
noncomputable def Tryd.kp117 : List Nat := [0, 2]
noncomputable def Tryd.cf117 : CF := ⟨1, (cSeq (cOps [⟨some 2, true, none, iMov (.c (.bool (.lit false)))⟩])
 (cSeq (cOps [⟨some 3, false, none, iMov (.t 0)⟩,
 ⟨some 4, false, none, iMov (.t 0)⟩,
 ⟨some 5, false, none, iCmp .neq (.t 3) (.t 4)⟩,
 ⟨some 2, true, none, iMov (.t 5)⟩])
 cRet)), [.t 2]⟩
noncomputable def Tryd.ft : PT CF := (.node none (.node none (.node none (.node none (.node none (.node (some Tryd.cf31) .nil (.node (some Tryd.cf95) .nil .nil)) (.node none (.node (some Tryd.cf79) .nil .nil) (.node (some Tryd.cf111) .nil .nil))) (.node (some Tryd.cf23) (.node none (.node (some Tryd.cf71) .nil .nil) (.node (some Tryd.cf103) .nil .nil)) (.node none (.node (some Tryd.cf87) .nil .nil) .nil))) (.node (some Tryd.cf11) (.node none (.node none .nil (.node (some Tryd.cf99) .nil .nil)) (.node (some Tryd.cf51) .nil (.node (some Tryd.cf115) .nil .nil))) (.node (some Tryd.cf27) (.node none .nil (.node (some Tryd.cf107) .nil .nil)) (.node none (.node (some Tryd.cf91) .nil .nil) .nil)))) (.node none (.node none (.node none (.node (some Tryd.cf33) (.node (some Tryd.cf65) .nil .nil) (.node (some Tryd.cf97) .nil .nil)) (.node (some Tryd.cf49) .nil (.node (some Tryd.cf113) .nil .nil))) (.node none (.node none (.node (some Tryd.cf73) .nil .nil) (.node (some Tryd.cf105) .nil .nil)) (.node (some Tryd.cf57) (.node (some Tryd.cf89) .nil .nil) .nil))) (.node none (.node (some Tryd.cf21) (.node none .nil (.node (some Tryd.cf101) .nil .nil)) (.node (some Tryd.cf53) (.node (some Tryd.cf85) .nil .nil) (.node (some Tryd.cf117) .nil .nil))) (.node (some Tryd.cf29) (.node none (.node (some Tryd.cf77) .nil .nil) (.node (some Tryd.cf109) .nil .nil)) (.node (some Tryd.cf61) (.node (some Tryd.cf93) .nil .nil) .nil))))) (.node none (.node none (.node none (.node (some Tryd.cf16) (.node none .nil (.node (some Tryd.cf96) .nil .nil)) (.node (some Tryd.cf48) .nil (.node (some Tryd.cf112) .nil .nil))) (.node (some Tryd.cf24) .nil (.node none (.node (some Tryd.cf88) .nil .nil) .nil))) (.node (some Tryd.cf12) (.node (some Tryd.cf20) (.node none .nil (.node (some Tryd.cf100) .nil .nil)) (.node (some Tryd.cf52) (.node (some Tryd.cf84) .nil .nil) (.node (some Tryd.cf116) .nil .nil))) (.node none (.node none (.node (some Tryd.cf76) .nil .nil) (.node (some Tryd.cf108) .nil .nil)) (.node (some Tryd.cf60) (.node (some Tryd.cf92) .nil .nil) .nil)))) (.node none (.node none (.node (some Tryd.cf18) (.node none (.node (some Tryd.cf66) .nil .nil) (.node (some Tryd.cf98) .nil .nil)) (.node (some Tryd.cf50) .nil (.node (some Tryd.cf114) .nil .nil))) (.node (some Tryd.cf26) (.node none .nil (.node (some Tryd.cf106) .nil .nil)) (.node none (.node (some Tryd.cf90) .nil .nil) .nil))) (.node (some Tryd.cf14) (.node none (.node none .nil (.node (some Tryd.cf102) .nil .nil)) (.node none (.node (some Tryd.cf86) .nil .nil) .nil)) (.node none (.node (some Tryd.cf46) (.node (some Tryd.cf78) .nil .nil) (.node (some Tryd.cf110) .nil .nil)) .nil)))))
noncomputable def Tryd.rt : List (Nat × (C × C)) := [(97010, (Tryd.ra97010, Tryd.rb97010)), (111041, (Tryd.ra111041, Tryd.rb111041))]
end Go.Sx
