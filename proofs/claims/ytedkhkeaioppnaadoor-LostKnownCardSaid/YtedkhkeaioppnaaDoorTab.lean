/- THE TABLES OF THE PROGRAM: its types, and its functions as the evaluator runs them. -/
import Derived.Test.YtedkhkeaioppnaaDoorSxOps
import Derived.KernelRfl
/-! THE TABLES OF THE PROGRAM: its types, and its functions as the evaluator runs them. -/
namespace Go.Sx
set_option maxRecDepth 100000
noncomputable def Tryd.ti0 : TI := ⟨.tuple #[], 1, 0, none, false⟩
noncomputable def Tryd.ti1 : TI := ⟨.func #[] #[] false, 1, 8, (some .nilFunc), false⟩
noncomputable def Tryd.ti2 : TI := ⟨.int .i64, 1, 8, (some (.int .i64 (.lit 0))), false⟩
noncomputable def Tryd.ti3 : TI := ⟨.int .i64, 1, 8, (some (.int .i64 (.lit 0))), false⟩
noncomputable def Tryd.ti4 : TI := ⟨.bool, 1, 1, (some (.bool (.lit false))), false⟩
noncomputable def Tryd.ti5 : TI := ⟨.int .u8, 1, 1, (some (.int .u8 (.lit 0))), false⟩
noncomputable def Tryd.ti6 : TI := ⟨.int .u8, 1, 1, (some (.int .u8 (.lit 0))), false⟩
noncomputable def Tryd.ti7 : TI := ⟨.struct #[⟨ "x", 2, 0, false, "", "runtime", 0⟩, ⟨ "y", 3, 1, false, "", "runtime", 8⟩, ⟨ "signed", 4, 2, false, "", "runtime", 16⟩, ⟨ "code", 6, 3, false, "", "runtime", 17⟩], 4, 24, (some (.agg [(.int .i64 (.lit 0)), (.int .i64 (.lit 0)), (.bool (.lit false)), (.int .u8 (.lit 0))])), true⟩
noncomputable def Tryd.ti8 : TI := ⟨.struct #[⟨ "x", 2, 0, false, "", "runtime", 0⟩, ⟨ "y", 3, 1, false, "", "runtime", 8⟩, ⟨ "signed", 4, 2, false, "", "runtime", 16⟩, ⟨ "code", 6, 3, false, "", "runtime", 17⟩], 4, 24, (some (.agg [(.int .i64 (.lit 0)), (.int .i64 (.lit 0)), (.bool (.lit false)), (.int .u8 (.lit 0))])), true⟩
noncomputable def Tryd.ti9 : TI := ⟨.string, 1, 16, none, false⟩
noncomputable def Tryd.ti10 : TI := ⟨.string, 1, 16, none, false⟩
noncomputable def Tryd.ti11 : TI := ⟨.string, 1, 16, none, false⟩
noncomputable def Tryd.ti12 : TI := ⟨.int .u64, 1, 8, (some (.int .u64 (.lit 0))), false⟩
noncomputable def Tryd.ti13 : TI := ⟨.struct #[⟨ "msg", 9, 0, false, "", "runtime", 0⟩, ⟨ "addr", 12, 1, false, "", "runtime", 16⟩], 2, 24, none, false⟩
noncomputable def Tryd.ti14 : TI := ⟨.struct #[⟨ "msg", 9, 0, false, "", "runtime", 0⟩, ⟨ "addr", 12, 1, false, "", "runtime", 16⟩], 2, 24, none, false⟩
noncomputable def Tryd.ti15 : TI := ⟨.pointer 168, 1, 8, (some .nilptr), false⟩
noncomputable def Tryd.ti16 : TI := ⟨.pointer 171, 1, 8, (some .nilptr), false⟩
noncomputable def Tryd.ti17 : TI := ⟨.pointer 181, 1, 8, (some .nilptr), false⟩
noncomputable def Tryd.ti18 : TI := ⟨.struct #[⟨ "typ", 17, 0, false, "", "internal/runtime/maps", 0⟩], 1, 8, (some (.agg [.nilptr])), false⟩
noncomputable def Tryd.ti19 : TI := ⟨.struct #[⟨ "typ", 17, 0, false, "", "internal/runtime/maps", 0⟩], 1, 8, (some (.agg [.nilptr])), false⟩
noncomputable def Tryd.ti20 : TI := ⟨.interface #[], 1, 16, none, false⟩
noncomputable def Tryd.ti21 : TI := ⟨.int .i32, 1, 4, (some (.int .i32 (.lit 0))), false⟩
noncomputable def Tryd.ti22 : TI := ⟨.slice 91, 1, 24, (some .nilslice), false⟩
noncomputable def Tryd.ti23 : TI := ⟨.slice 97, 1, 24, (some .nilslice), false⟩
noncomputable def Tryd.ti24 : TI := ⟨.struct #[⟨ "Offices", 22, 0, false, "", "", 0⟩, ⟨ "Trains", 23, 1, false, "", "", 24⟩, ⟨ "Load", 3, 2, false, "", "", 48⟩], 3, 56, (some (.agg [.nilslice, .nilslice, (.int .i64 (.lit 0))])), true⟩
noncomputable def Tryd.ti25 : TI := ⟨.struct #[⟨ "Offices", 22, 0, false, "", "", 0⟩, ⟨ "Trains", 23, 1, false, "", "", 24⟩, ⟨ "Load", 3, 2, false, "", "", 48⟩], 3, 56, (some (.agg [.nilslice, .nilslice, (.int .i64 (.lit 0))])), true⟩
noncomputable def Tryd.ti26 : TI := ⟨.slice 31, 1, 24, (some .nilslice), false⟩
noncomputable def Tryd.ti27 : TI := ⟨.struct #[⟨ "Table", 25, 0, false, "", "", 0⟩, ⟨ "From", 3, 3, false, "", "", 56⟩, ⟨ "At", 3, 4, false, "", "", 64⟩, ⟨ "Legs", 3, 5, false, "", "", 72⟩, ⟨ "Sights", 26, 6, false, "", "", 80⟩], 7, 104, (some (.agg [.nilslice, .nilslice, (.int .i64 (.lit 0)), (.int .i64 (.lit 0)), (.int .i64 (.lit 0)), (.int .i64 (.lit 0)), .nilslice])), true⟩
noncomputable def Tryd.ti28 : TI := ⟨.struct #[⟨ "Table", 25, 0, false, "", "", 0⟩, ⟨ "From", 3, 3, false, "", "", 56⟩, ⟨ "At", 3, 4, false, "", "", 64⟩, ⟨ "Legs", 3, 5, false, "", "", 72⟩, ⟨ "Sights", 26, 6, false, "", "", 80⟩], 7, 104, (some (.agg [.nilslice, .nilslice, (.int .i64 (.lit 0)), (.int .i64 (.lit 0)), (.int .i64 (.lit 0)), (.int .i64 (.lit 0)), .nilslice])), true⟩
noncomputable def Tryd.ti29 : TI := ⟨.func #[26] #[28] false, 1, 8, (some .nilFunc), false⟩
noncomputable def Tryd.ti30 : TI := ⟨.struct #[⟨ "Guard", 4, 0, false, "", "", 0⟩, ⟨ "Who", 3, 1, false, "", "", 8⟩, ⟨ "Minute", 3, 2, false, "", "", 16⟩, ⟨ "Seen", 4, 3, false, "", "", 24⟩], 4, 32, (some (.agg [(.bool (.lit false)), (.int .i64 (.lit 0)), (.int .i64 (.lit 0)), (.bool (.lit false))])), true⟩
noncomputable def Tryd.ti31 : TI := ⟨.struct #[⟨ "Guard", 4, 0, false, "", "", 0⟩, ⟨ "Who", 3, 1, false, "", "", 8⟩, ⟨ "Minute", 3, 2, false, "", "", 16⟩, ⟨ "Seen", 4, 3, false, "", "", 24⟩], 4, 32, (some (.agg [(.bool (.lit false)), (.int .i64 (.lit 0)), (.int .i64 (.lit 0)), (.bool (.lit false))])), true⟩
noncomputable def Tryd.ti32 : TI := ⟨.func #[3, 3, 4] #[31] false, 1, 8, (some .nilFunc), false⟩
noncomputable def Tryd.ti33 : TI := ⟨.slice 28, 1, 24, (some .nilslice), false⟩
noncomputable def Tryd.ti34 : TI := ⟨.int .i64, 1, 8, (some (.int .i64 (.lit 0))), false⟩
noncomputable def Tryd.ti35 : TI := ⟨.tuple #[4, 34], 1, 0, none, false⟩
noncomputable def Tryd.ti36 : TI := ⟨.func #[28, 39] #[4, 34] false, 1, 8, (some .nilFunc), false⟩
noncomputable def Tryd.ti37 : TI := ⟨.tuple #[3, 34], 1, 0, none, false⟩
noncomputable def Tryd.ti38 : TI := ⟨.func #[28] #[3, 34] false, 1, 8, (some .nilFunc), false⟩
noncomputable def Tryd.ti39 : TI := ⟨.slice 54, 1, 24, (some .nilslice), false⟩
noncomputable def Tryd.ti40 : TI := ⟨.tuple #[39, 34], 1, 0, none, false⟩
noncomputable def Tryd.ti41 : TI := ⟨.func #[28] #[39, 34] false, 1, 8, (some .nilFunc), false⟩
noncomputable def Tryd.ti42 : TI := ⟨.slice 3, 1, 24, (some .nilslice), false⟩
noncomputable def Tryd.ti43 : TI := ⟨.tuple #[42, 42, 34], 1, 0, none, false⟩
noncomputable def Tryd.ti44 : TI := ⟨.func #[28, 3] #[42, 42, 34] false, 1, 8, (some .nilFunc), false⟩
noncomputable def Tryd.ti45 : TI := ⟨.struct #[⟨ "Low", 3, 0, false, "", "", 0⟩, ⟨ "High", 3, 1, false, "", "", 8⟩], 2, 16, (some (.agg [(.int .i64 (.lit 0)), (.int .i64 (.lit 0))])), true⟩
noncomputable def Tryd.ti46 : TI := ⟨.struct #[⟨ "Low", 3, 0, false, "", "", 0⟩, ⟨ "High", 3, 1, false, "", "", 8⟩], 2, 16, (some (.agg [(.int .i64 (.lit 0)), (.int .i64 (.lit 0))])), true⟩
noncomputable def Tryd.ti47 : TI := ⟨.tuple #[46, 34], 1, 0, none, false⟩
noncomputable def Tryd.ti48 : TI := ⟨.func #[28, 3] #[46, 34] false, 1, 8, (some .nilFunc), false⟩
noncomputable def Tryd.ti49 : TI := ⟨.tuple #[42, 34], 1, 0, none, false⟩
noncomputable def Tryd.ti50 : TI := ⟨.func #[28] #[42, 34] false, 1, 8, (some .nilFunc), false⟩
noncomputable def Tryd.ti51 : TI := ⟨.func #[28, 3] #[3, 34] false, 1, 8, (some .nilFunc), false⟩
noncomputable def Tryd.ti52 : TI := ⟨.func #[28] #[34] false, 1, 8, (some .nilFunc), false⟩
noncomputable def Tryd.ti53 : TI := ⟨.struct #[⟨ "Train", 3, 0, false, "", "", 0⟩, ⟨ "From", 3, 1, false, "", "", 8⟩, ⟨ "To", 3, 2, false, "", "", 16⟩], 3, 24, (some (.agg [(.int .i64 (.lit 0)), (.int .i64 (.lit 0)), (.int .i64 (.lit 0))])), true⟩
noncomputable def Tryd.ti54 : TI := ⟨.struct #[⟨ "Train", 3, 0, false, "", "", 0⟩, ⟨ "From", 3, 1, false, "", "", 8⟩, ⟨ "To", 3, 2, false, "", "", 16⟩], 3, 24, (some (.agg [(.int .i64 (.lit 0)), (.int .i64 (.lit 0)), (.int .i64 (.lit 0))])), true⟩
noncomputable def Tryd.ti55 : TI := ⟨.func #[3, 3, 3] #[54] false, 1, 8, (some .nilFunc), false⟩
noncomputable def Tryd.ti56 : TI := ⟨.slice 39, 1, 24, (some .nilslice), false⟩
noncomputable def Tryd.ti57 : TI := ⟨.func #[26] #[26] false, 1, 8, (some .nilFunc), false⟩
noncomputable def Tryd.ti58 : TI := ⟨.func #[42, 42] #[4] false, 1, 8, (some .nilFunc), false⟩
noncomputable def Tryd.ti59 : TI := ⟨.func #[3, 3] #[46] false, 1, 8, (some .nilFunc), false⟩
noncomputable def Tryd.ti60 : TI := ⟨.func #[] #[4] false, 1, 8, (some .nilFunc), false⟩
noncomputable def Tryd.ti61 : TI := ⟨.func #[] #[25] false, 1, 8, (some .nilFunc), false⟩
noncomputable def Tryd.ti62 : TI := ⟨.slice 99, 1, 24, (some .nilslice), false⟩
noncomputable def Tryd.ti63 : TI := ⟨.map 54 116, 1, 8, (some .nilmap), false⟩
noncomputable def Tryd.ti64 : TI := ⟨.map 146 143, 1, 8, (some .nilmap), false⟩
noncomputable def Tryd.ti65 : TI := ⟨.struct #[⟨ "LostBook", 28, 0, true, "", "", 0⟩, ⟨ "says", 62, 7, false, "", "bioscope/lost", 104⟩, ⟨ "minutes", 42, 8, false, "", "bioscope/lost", 128⟩, ⟨ "rides", 63, 9, false, "", "bioscope/lost", 152⟩, ⟨ "phases", 64, 10, false, "", "bioscope/lost", 160⟩], 11, 168, (some (.agg [.nilslice, .nilslice, (.int .i64 (.lit 0)), (.int .i64 (.lit 0)), (.int .i64 (.lit 0)), (.int .i64 (.lit 0)), .nilslice, .nilslice, .nilslice, .nilmap, .nilmap])), true⟩
noncomputable def Tryd.ti66 : TI := ⟨.struct #[⟨ "LostBook", 28, 0, true, "", "", 0⟩, ⟨ "says", 62, 7, false, "", "bioscope/lost", 104⟩, ⟨ "minutes", 42, 8, false, "", "bioscope/lost", 128⟩, ⟨ "rides", 63, 9, false, "", "bioscope/lost", 152⟩, ⟨ "phases", 64, 10, false, "", "bioscope/lost", 160⟩], 11, 168, (some (.agg [.nilslice, .nilslice, (.int .i64 (.lit 0)), (.int .i64 (.lit 0)), (.int .i64 (.lit 0)), (.int .i64 (.lit 0)), .nilslice, .nilslice, .nilslice, .nilmap, .nilmap])), true⟩
noncomputable def Tryd.ti67 : TI := ⟨.tuple #[66, 34], 1, 0, none, false⟩
noncomputable def Tryd.ti68 : TI := ⟨.func #[28, 42] #[66, 34] true, 1, 8, (some .nilFunc), false⟩
noncomputable def Tryd.ti69 : TI := ⟨.func #[39] #[4] false, 1, 8, (some .nilFunc), false⟩
noncomputable def Tryd.ti70 : TI := ⟨.func #[72] #[3] false, 1, 8, (some .nilFunc), false⟩
noncomputable def Tryd.ti71 : TI := ⟨.func #[69] #[] false, 1, 8, (some .nilFunc), false⟩
noncomputable def Tryd.ti72 : TI := ⟨.func #[69] #[] false, 1, 8, (some .nilFunc), false⟩
noncomputable def Tryd.ti73 : TI := ⟨.func #[] #[72] false, 1, 8, (some .nilFunc), false⟩
noncomputable def Tryd.ti74 : TI := ⟨.tuple #[39, 4], 1, 0, none, false⟩
noncomputable def Tryd.ti75 : TI := ⟨.func #[54, 54] #[3] false, 1, 8, (some .nilFunc), false⟩
noncomputable def Tryd.ti76 : TI := ⟨.struct #[⟨ "compare", 75, 0, false, "", "bioscope/lost", 0⟩], 1, 8, (some (.agg [.nilFunc])), true⟩
noncomputable def Tryd.ti77 : TI := ⟨.struct #[⟨ "compare", 75, 0, false, "", "bioscope/lost", 0⟩], 1, 8, (some (.agg [.nilFunc])), true⟩
noncomputable def Tryd.ti78 : TI := ⟨.func #[72] #[39, 4] false, 1, 8, (some .nilFunc), false⟩
noncomputable def Tryd.ti79 : TI := ⟨.array 12 4, 12, 12, (some (.agg [(.bool (.lit false)), (.bool (.lit false)), (.bool (.lit false)), (.bool (.lit false)), (.bool (.lit false)), (.bool (.lit false)), (.bool (.lit false)), (.bool (.lit false)), (.bool (.lit false)), (.bool (.lit false)), (.bool (.lit false)), (.bool (.lit false))])), true⟩
noncomputable def Tryd.ti80 : TI := ⟨.array 12 4, 12, 12, (some (.agg [(.bool (.lit false)), (.bool (.lit false)), (.bool (.lit false)), (.bool (.lit false)), (.bool (.lit false)), (.bool (.lit false)), (.bool (.lit false)), (.bool (.lit false)), (.bool (.lit false)), (.bool (.lit false)), (.bool (.lit false)), (.bool (.lit false))])), true⟩
noncomputable def Tryd.ti81 : TI := ⟨.func #[82] #[80] true, 1, 8, (some .nilFunc), false⟩
noncomputable def Tryd.ti82 : TI := ⟨.slice 80, 1, 24, (some .nilslice), false⟩
noncomputable def Tryd.ti83 : TI := ⟨.func #[] #[82] false, 1, 8, (some .nilFunc), false⟩
noncomputable def Tryd.ti84 : TI := ⟨.func #[] #[42] false, 1, 8, (some .nilFunc), false⟩
noncomputable def Tryd.ti85 : TI := ⟨.func #[3, 3] #[4] false, 1, 8, (some .nilFunc), false⟩
noncomputable def Tryd.ti86 : TI := ⟨.tuple #[46, 4], 1, 0, none, false⟩
noncomputable def Tryd.ti87 : TI := ⟨.func #[3] #[46, 4] false, 1, 8, (some .nilFunc), false⟩
noncomputable def Tryd.ti88 : TI := ⟨.func #[82] #[3] false, 1, 8, (some .nilFunc), false⟩
noncomputable def Tryd.ti89 : TI := ⟨.func #[28] #[4] false, 1, 8, (some .nilFunc), false⟩
noncomputable def Tryd.ti90 : TI := ⟨.func #[39, 39] #[4] false, 1, 8, (some .nilFunc), false⟩
noncomputable def Tryd.ti91 : TI := ⟨.slice 46, 1, 24, (some .nilslice), false⟩
noncomputable def Tryd.ti92 : TI := ⟨.struct #[⟨ "Station", 3, 0, false, "", "", 0⟩, ⟨ "Arrive", 3, 1, false, "", "", 8⟩, ⟨ "Leave", 3, 2, false, "", "", 16⟩], 3, 24, (some (.agg [(.int .i64 (.lit 0)), (.int .i64 (.lit 0)), (.int .i64 (.lit 0))])), true⟩
noncomputable def Tryd.ti93 : TI := ⟨.struct #[⟨ "Station", 3, 0, false, "", "", 0⟩, ⟨ "Arrive", 3, 1, false, "", "", 8⟩, ⟨ "Leave", 3, 2, false, "", "", 16⟩], 3, 24, (some (.agg [(.int .i64 (.lit 0)), (.int .i64 (.lit 0)), (.int .i64 (.lit 0))])), true⟩
noncomputable def Tryd.ti94 : TI := ⟨.func #[3, 3, 3] #[93] false, 1, 8, (some .nilFunc), false⟩
noncomputable def Tryd.ti95 : TI := ⟨.slice 93, 1, 24, (some .nilslice), false⟩
noncomputable def Tryd.ti96 : TI := ⟨.struct #[⟨ "Stops", 95, 0, false, "", "", 0⟩, ⟨ "Late", 46, 1, false, "", "", 24⟩], 3, 40, (some (.agg [.nilslice, (.int .i64 (.lit 0)), (.int .i64 (.lit 0))])), true⟩
noncomputable def Tryd.ti97 : TI := ⟨.struct #[⟨ "Stops", 95, 0, false, "", "", 0⟩, ⟨ "Late", 46, 1, false, "", "", 24⟩], 3, 40, (some (.agg [.nilslice, (.int .i64 (.lit 0)), (.int .i64 (.lit 0))])), true⟩
noncomputable def Tryd.ti98 : TI := ⟨.func #[117, 3] #[4] false, 1, 8, (some .nilFunc), false⟩
noncomputable def Tryd.ti99 : TI := ⟨.func #[117, 3] #[4] false, 1, 8, (some .nilFunc), false⟩
noncomputable def Tryd.ti100 : TI := ⟨.array 2 99, 2, 16, (some (.agg [.nilFunc, .nilFunc])), true⟩
noncomputable def Tryd.ti101 : TI := ⟨.func #[] #[100] false, 1, 8, (some .nilFunc), false⟩
noncomputable def Tryd.ti102 : TI := ⟨.func #[31] #[3] false, 1, 8, (some .nilFunc), false⟩
noncomputable def Tryd.ti103 : TI := ⟨.func #[28, 3] #[4] false, 1, 8, (some .nilFunc), false⟩
noncomputable def Tryd.ti104 : TI := ⟨.func #[140] #[] false, 1, 8, (some .nilFunc), false⟩
noncomputable def Tryd.ti105 : TI := ⟨.func #[140] #[] false, 1, 8, (some .nilFunc), false⟩
noncomputable def Tryd.ti106 : TI := ⟨.func #[108] #[105] false, 1, 8, (some .nilFunc), false⟩
noncomputable def Tryd.ti107 : TI := ⟨.array 6 4, 6, 6, (some (.agg [(.bool (.lit false)), (.bool (.lit false)), (.bool (.lit false)), (.bool (.lit false)), (.bool (.lit false)), (.bool (.lit false))])), true⟩
noncomputable def Tryd.ti108 : TI := ⟨.array 6 4, 6, 6, (some (.agg [(.bool (.lit false)), (.bool (.lit false)), (.bool (.lit false)), (.bool (.lit false)), (.bool (.lit false)), (.bool (.lit false))])), true⟩
noncomputable def Tryd.ti109 : TI := ⟨.func #[54] #[] false, 1, 8, (some .nilFunc), false⟩
noncomputable def Tryd.ti110 : TI := ⟨.func #[149] #[] false, 1, 8, (some .nilFunc), false⟩
noncomputable def Tryd.ti111 : TI := ⟨.func #[149] #[] false, 1, 8, (some .nilFunc), false⟩
noncomputable def Tryd.ti112 : TI := ⟨.func #[39] #[111] false, 1, 8, (some .nilFunc), false⟩
noncomputable def Tryd.ti113 : TI := ⟨.func #[72, 69] #[72] false, 1, 8, (some .nilFunc), false⟩
noncomputable def Tryd.ti114 : TI := ⟨.func #[42] #[3] true, 1, 8, (some .nilFunc), false⟩
noncomputable def Tryd.ti115 : TI := ⟨.func #[3, 3] #[3] false, 1, 8, (some .nilFunc), false⟩
noncomputable def Tryd.ti116 : TI := ⟨.slice 146, 1, 24, (some .nilslice), false⟩
noncomputable def Tryd.ti117 : TI := ⟨.int .i64, 1, 8, (some (.int .i64 (.lit 0))), false⟩
noncomputable def Tryd.ti118 : TI := ⟨.array 7 117, 7, 56, (some (.agg [(.int .i64 (.lit 0)), (.int .i64 (.lit 0)), (.int .i64 (.lit 0)), (.int .i64 (.lit 0)), (.int .i64 (.lit 0)), (.int .i64 (.lit 0)), (.int .i64 (.lit 0))])), true⟩
noncomputable def Tryd.ti119 : TI := ⟨.array 7 117, 7, 56, (some (.agg [(.int .i64 (.lit 0)), (.int .i64 (.lit 0)), (.int .i64 (.lit 0)), (.int .i64 (.lit 0)), (.int .i64 (.lit 0)), (.int .i64 (.lit 0)), (.int .i64 (.lit 0))])), true⟩
noncomputable def Tryd.ti120 : TI := ⟨.struct #[⟨ "rides", 116, 0, false, "", "bioscope/lost", 0⟩, ⟨ "track", 119, 1, false, "", "bioscope/lost", 24⟩], 8, 80, (some (.agg [.nilslice, (.int .i64 (.lit 0)), (.int .i64 (.lit 0)), (.int .i64 (.lit 0)), (.int .i64 (.lit 0)), (.int .i64 (.lit 0)), (.int .i64 (.lit 0)), (.int .i64 (.lit 0))])), true⟩
noncomputable def Tryd.ti121 : TI := ⟨.struct #[⟨ "rides", 116, 0, false, "", "bioscope/lost", 0⟩, ⟨ "track", 119, 1, false, "", "bioscope/lost", 24⟩], 8, 80, (some (.agg [.nilslice, (.int .i64 (.lit 0)), (.int .i64 (.lit 0)), (.int .i64 (.lit 0)), (.int .i64 (.lit 0)), (.int .i64 (.lit 0)), (.int .i64 (.lit 0)), (.int .i64 (.lit 0))])), true⟩
noncomputable def Tryd.ti122 : TI := ⟨.func #[123] #[42] false, 1, 8, (some .nilFunc), false⟩
noncomputable def Tryd.ti123 : TI := ⟨.slice 4, 1, 24, (some .nilslice), false⟩
noncomputable def Tryd.ti124 : TI := ⟨.func #[121, 3] #[46] false, 1, 8, (some .nilFunc), false⟩
noncomputable def Tryd.ti125 : TI := ⟨.func #[3, 42] #[3] true, 1, 8, (some .nilFunc), false⟩
noncomputable def Tryd.ti126 : TI := ⟨.tuple #[42, 4], 1, 0, none, false⟩
noncomputable def Tryd.ti127 : TI := ⟨.struct #[⟨ "compare", 115, 0, false, "", "bioscope/lost", 0⟩], 1, 8, (some (.agg [.nilFunc])), true⟩
noncomputable def Tryd.ti128 : TI := ⟨.struct #[⟨ "compare", 115, 0, false, "", "bioscope/lost", 0⟩], 1, 8, (some (.agg [.nilFunc])), true⟩
noncomputable def Tryd.ti129 : TI := ⟨.func #[131] #[42, 4] false, 1, 8, (some .nilFunc), false⟩
noncomputable def Tryd.ti130 : TI := ⟨.func #[151] #[] false, 1, 8, (some .nilFunc), false⟩
noncomputable def Tryd.ti131 : TI := ⟨.func #[151] #[] false, 1, 8, (some .nilFunc), false⟩
noncomputable def Tryd.ti132 : TI := ⟨.func #[] #[131] false, 1, 8, (some .nilFunc), false⟩
noncomputable def Tryd.ti133 : TI := ⟨.func #[82, 3] #[3] false, 1, 8, (some .nilFunc), false⟩
noncomputable def Tryd.ti134 : TI := ⟨.array 3 3, 3, 24, (some (.agg [(.int .i64 (.lit 0)), (.int .i64 (.lit 0)), (.int .i64 (.lit 0))])), true⟩
noncomputable def Tryd.ti135 : TI := ⟨.func #[3, 46] #[4] false, 1, 8, (some .nilFunc), false⟩
noncomputable def Tryd.ti136 : TI := ⟨.array 3 46, 6, 48, (some (.agg [(.int .i64 (.lit 0)), (.int .i64 (.lit 0)), (.int .i64 (.lit 0)), (.int .i64 (.lit 0)), (.int .i64 (.lit 0)), (.int .i64 (.lit 0))])), true⟩
noncomputable def Tryd.ti137 : TI := ⟨.func #[28, 31] #[4] false, 1, 8, (some .nilFunc), false⟩
noncomputable def Tryd.ti138 : TI := ⟨.func #[25] #[34] false, 1, 8, (some .nilFunc), false⟩
noncomputable def Tryd.ti139 : TI := ⟨.func #[3] #[4] false, 1, 8, (some .nilFunc), false⟩
noncomputable def Tryd.ti140 : TI := ⟨.func #[54] #[4] false, 1, 8, (some .nilFunc), false⟩
noncomputable def Tryd.ti141 : TI := ⟨.int .i64, 1, 8, (some (.int .i64 (.lit 0))), false⟩
noncomputable def Tryd.ti142 : TI := ⟨.array 7 141, 7, 56, (some (.agg [(.int .i64 (.lit 0)), (.int .i64 (.lit 0)), (.int .i64 (.lit 0)), (.int .i64 (.lit 0)), (.int .i64 (.lit 0)), (.int .i64 (.lit 0)), (.int .i64 (.lit 0))])), true⟩
noncomputable def Tryd.ti143 : TI := ⟨.array 7 141, 7, 56, (some (.agg [(.int .i64 (.lit 0)), (.int .i64 (.lit 0)), (.int .i64 (.lit 0)), (.int .i64 (.lit 0)), (.int .i64 (.lit 0)), (.int .i64 (.lit 0)), (.int .i64 (.lit 0))])), true⟩
noncomputable def Tryd.ti144 : TI := ⟨.func #[54, 3] #[143] false, 1, 8, (some .nilFunc), false⟩
noncomputable def Tryd.ti145 : TI := ⟨.struct #[⟨ "TrainLeg", 54, 0, true, "", "", 0⟩, ⟨ "late", 46, 3, false, "", "bioscope/lost", 24⟩], 5, 40, (some (.agg [(.int .i64 (.lit 0)), (.int .i64 (.lit 0)), (.int .i64 (.lit 0)), (.int .i64 (.lit 0)), (.int .i64 (.lit 0))])), true⟩
noncomputable def Tryd.ti146 : TI := ⟨.struct #[⟨ "TrainLeg", 54, 0, true, "", "", 0⟩, ⟨ "late", 46, 3, false, "", "bioscope/lost", 24⟩], 5, 40, (some (.agg [(.int .i64 (.lit 0)), (.int .i64 (.lit 0)), (.int .i64 (.lit 0)), (.int .i64 (.lit 0)), (.int .i64 (.lit 0))])), true⟩
noncomputable def Tryd.ti147 : TI := ⟨.func #[54] #[93] false, 1, 8, (some .nilFunc), false⟩
noncomputable def Tryd.ti148 : TI := ⟨.func #[111, 149] #[111] false, 1, 8, (some .nilFunc), false⟩
noncomputable def Tryd.ti149 : TI := ⟨.func #[121] #[4] false, 1, 8, (some .nilFunc), false⟩
noncomputable def Tryd.ti150 : TI := ⟨.func #[39, 39, 75] #[3] false, 1, 8, (some .nilFunc), false⟩
noncomputable def Tryd.ti151 : TI := ⟨.func #[42] #[4] false, 1, 8, (some .nilFunc), false⟩
noncomputable def Tryd.ti152 : TI := ⟨.func #[121] #[42] false, 1, 8, (some .nilFunc), false⟩
noncomputable def Tryd.ti153 : TI := ⟨.func #[3] #[117] false, 1, 8, (some .nilFunc), false⟩
noncomputable def Tryd.ti154 : TI := ⟨.func #[162] #[80] true, 1, 8, (some .nilFunc), false⟩
noncomputable def Tryd.ti155 : TI := ⟨.array 2 3, 2, 16, (some (.agg [(.int .i64 (.lit 0)), (.int .i64 (.lit 0))])), true⟩
noncomputable def Tryd.ti156 : TI := ⟨.func #[25] #[4] false, 1, 8, (some .nilFunc), false⟩
noncomputable def Tryd.ti157 : TI := ⟨.func #[121, 3] #[4] false, 1, 8, (some .nilFunc), false⟩
noncomputable def Tryd.ti158 : TI := ⟨.func #[119, 146] #[119] false, 1, 8, (some .nilFunc), false⟩
noncomputable def Tryd.ti159 : TI := ⟨.func #[] #[119] false, 1, 8, (some .nilFunc), false⟩
noncomputable def Tryd.ti160 : TI := ⟨.func #[3, 121] #[4] false, 1, 8, (some .nilFunc), false⟩
noncomputable def Tryd.ti161 : TI := ⟨.func #[42, 42, 115] #[3] false, 1, 8, (some .nilFunc), false⟩
noncomputable def Tryd.ti162 : TI := ⟨.slice 117, 1, 24, (some .nilslice), false⟩
noncomputable def Tryd.ti163 : TI := ⟨.func #[91] #[4] false, 1, 8, (some .nilFunc), false⟩
noncomputable def Tryd.ti164 : TI := ⟨.func #[97] #[4] false, 1, 8, (some .nilFunc), false⟩
noncomputable def Tryd.ti165 : TI := ⟨.func #[95, 3] #[4] false, 1, 8, (some .nilFunc), false⟩
noncomputable def Tryd.ti166 : TI := ⟨.func #[] #[9] false, 1, 8, (some .nilFunc), false⟩
noncomputable def Tryd.ti167 : TI := ⟨.struct #[⟨ "_interface", 17, 0, false, "", "runtime", 0⟩, ⟨ "concrete", 17, 1, false, "", "runtime", 8⟩, ⟨ "asserted", 17, 2, false, "", "runtime", 16⟩, ⟨ "missingMethod", 9, 3, false, "", "runtime", 24⟩], 4, 40, none, false⟩
noncomputable def Tryd.ti168 : TI := ⟨.struct #[⟨ "_interface", 17, 0, false, "", "runtime", 0⟩, ⟨ "concrete", 17, 1, false, "", "runtime", 8⟩, ⟨ "asserted", 17, 2, false, "", "runtime", 16⟩, ⟨ "missingMethod", 9, 3, false, "", "runtime", 24⟩], 4, 40, none, false⟩
noncomputable def Tryd.ti169 : TI := ⟨.array 0 16, 0, 0, (some (.agg [])), true⟩
noncomputable def Tryd.ti170 : TI := ⟨.struct #[⟨ "_", 169, 0, false, "", "runtime", 0⟩], 0, 0, (some (.agg [])), false⟩
noncomputable def Tryd.ti171 : TI := ⟨.struct #[⟨ "_", 169, 0, false, "", "runtime", 0⟩], 0, 0, (some (.agg [])), false⟩
noncomputable def Tryd.ti172 : TI := ⟨.func #[] #[3] false, 1, 8, (some .nilFunc), false⟩
noncomputable def Tryd.ti173 : TI := ⟨.int .u32, 1, 4, (some (.int .u32 (.lit 0))), false⟩
noncomputable def Tryd.ti174 : TI := ⟨.int .u8, 1, 1, (some (.int .u8 (.lit 0))), false⟩
noncomputable def Tryd.ti175 : TI := ⟨.int .u8, 1, 1, (some (.int .u8 (.lit 0))), false⟩
noncomputable def Tryd.ti176 : TI := ⟨.func #[182, 182] #[4] false, 1, 8, (some .nilFunc), false⟩
noncomputable def Tryd.ti177 : TI := ⟨.pointer 5, 1, 8, (some .nilptr), false⟩
noncomputable def Tryd.ti178 : TI := ⟨.int .i32, 1, 4, (some (.int .i32 (.lit 0))), false⟩
noncomputable def Tryd.ti179 : TI := ⟨.int .i32, 1, 4, (some (.int .i32 (.lit 0))), false⟩
noncomputable def Tryd.ti180 : TI := ⟨.struct #[⟨ "Size_", 12, 0, false, "", "", 0⟩, ⟨ "PtrBytes", 12, 1, false, "", "", 8⟩, ⟨ "Hash", 173, 2, false, "", "", 16⟩, ⟨ "TFlag", 174, 3, false, "", "", 20⟩, ⟨ "Align_", 5, 4, false, "", "", 21⟩, ⟨ "FieldAlign_", 5, 5, false, "", "", 22⟩, ⟨ "Kind_", 175, 6, false, "", "", 23⟩, ⟨ "Equal", 176, 7, false, "", "", 24⟩, ⟨ "GCData", 177, 8, false, "", "", 32⟩, ⟨ "Str", 178, 9, false, "", "", 40⟩, ⟨ "PtrToThis", 179, 10, false, "", "", 44⟩], 11, 48, (some (.agg [(.int .u64 (.lit 0)), (.int .u64 (.lit 0)), (.int .u32 (.lit 0)), (.int .u8 (.lit 0)), (.int .u8 (.lit 0)), (.int .u8 (.lit 0)), (.int .u8 (.lit 0)), .nilFunc, .nilptr, (.int .i32 (.lit 0)), (.int .i32 (.lit 0))])), false⟩
noncomputable def Tryd.ti181 : TI := ⟨.struct #[⟨ "Size_", 12, 0, false, "", "", 0⟩, ⟨ "PtrBytes", 12, 1, false, "", "", 8⟩, ⟨ "Hash", 173, 2, false, "", "", 16⟩, ⟨ "TFlag", 174, 3, false, "", "", 20⟩, ⟨ "Align_", 5, 4, false, "", "", 21⟩, ⟨ "FieldAlign_", 5, 5, false, "", "", 22⟩, ⟨ "Kind_", 175, 6, false, "", "", 23⟩, ⟨ "Equal", 176, 7, false, "", "", 24⟩, ⟨ "GCData", 177, 8, false, "", "", 32⟩, ⟨ "Str", 178, 9, false, "", "", 40⟩, ⟨ "PtrToThis", 179, 10, false, "", "", 44⟩], 11, 48, (some (.agg [(.int .u64 (.lit 0)), (.int .u64 (.lit 0)), (.int .u32 (.lit 0)), (.int .u8 (.lit 0)), (.int .u8 (.lit 0)), (.int .u8 (.lit 0)), (.int .u8 (.lit 0)), .nilFunc, .nilptr, (.int .i32 (.lit 0)), (.int .i32 (.lit 0))])), false⟩
noncomputable def Tryd.tt : PT TI := (.node (some Tryd.ti0) (.node (some Tryd.ti1) (.node (some Tryd.ti3) (.node (some Tryd.ti7) (.node (some Tryd.ti15) (.node (some Tryd.ti31) (.node (some Tryd.ti63) (.node (some Tryd.ti127) .nil .nil) .nil) (.node (some Tryd.ti95) (.node (some Tryd.ti159) .nil .nil) .nil)) (.node (some Tryd.ti47) (.node (some Tryd.ti79) (.node (some Tryd.ti143) .nil .nil) .nil) (.node (some Tryd.ti111) (.node (some Tryd.ti175) .nil .nil) .nil))) (.node (some Tryd.ti23) (.node (some Tryd.ti39) (.node (some Tryd.ti71) (.node (some Tryd.ti135) .nil .nil) .nil) (.node (some Tryd.ti103) (.node (some Tryd.ti167) .nil .nil) .nil)) (.node (some Tryd.ti55) (.node (some Tryd.ti87) (.node (some Tryd.ti151) .nil .nil) .nil) (.node (some Tryd.ti119) .nil .nil)))) (.node (some Tryd.ti11) (.node (some Tryd.ti19) (.node (some Tryd.ti35) (.node (some Tryd.ti67) (.node (some Tryd.ti131) .nil .nil) .nil) (.node (some Tryd.ti99) (.node (some Tryd.ti163) .nil .nil) .nil)) (.node (some Tryd.ti51) (.node (some Tryd.ti83) (.node (some Tryd.ti147) .nil .nil) .nil) (.node (some Tryd.ti115) (.node (some Tryd.ti179) .nil .nil) .nil))) (.node (some Tryd.ti27) (.node (some Tryd.ti43) (.node (some Tryd.ti75) (.node (some Tryd.ti139) .nil .nil) .nil) (.node (some Tryd.ti107) (.node (some Tryd.ti171) .nil .nil) .nil)) (.node (some Tryd.ti59) (.node (some Tryd.ti91) (.node (some Tryd.ti155) .nil .nil) .nil) (.node (some Tryd.ti123) .nil .nil))))) (.node (some Tryd.ti5) (.node (some Tryd.ti9) (.node (some Tryd.ti17) (.node (some Tryd.ti33) (.node (some Tryd.ti65) (.node (some Tryd.ti129) .nil .nil) .nil) (.node (some Tryd.ti97) (.node (some Tryd.ti161) .nil .nil) .nil)) (.node (some Tryd.ti49) (.node (some Tryd.ti81) (.node (some Tryd.ti145) .nil .nil) .nil) (.node (some Tryd.ti113) (.node (some Tryd.ti177) .nil .nil) .nil))) (.node (some Tryd.ti25) (.node (some Tryd.ti41) (.node (some Tryd.ti73) (.node (some Tryd.ti137) .nil .nil) .nil) (.node (some Tryd.ti105) (.node (some Tryd.ti169) .nil .nil) .nil)) (.node (some Tryd.ti57) (.node (some Tryd.ti89) (.node (some Tryd.ti153) .nil .nil) .nil) (.node (some Tryd.ti121) .nil .nil)))) (.node (some Tryd.ti13) (.node (some Tryd.ti21) (.node (some Tryd.ti37) (.node (some Tryd.ti69) (.node (some Tryd.ti133) .nil .nil) .nil) (.node (some Tryd.ti101) (.node (some Tryd.ti165) .nil .nil) .nil)) (.node (some Tryd.ti53) (.node (some Tryd.ti85) (.node (some Tryd.ti149) .nil .nil) .nil) (.node (some Tryd.ti117) (.node (some Tryd.ti181) .nil .nil) .nil))) (.node (some Tryd.ti29) (.node (some Tryd.ti45) (.node (some Tryd.ti77) (.node (some Tryd.ti141) .nil .nil) .nil) (.node (some Tryd.ti109) (.node (some Tryd.ti173) .nil .nil) .nil)) (.node (some Tryd.ti61) (.node (some Tryd.ti93) (.node (some Tryd.ti157) .nil .nil) .nil) (.node (some Tryd.ti125) .nil .nil)))))) (.node (some Tryd.ti2) (.node (some Tryd.ti4) (.node (some Tryd.ti8) (.node (some Tryd.ti16) (.node (some Tryd.ti32) (.node (some Tryd.ti64) (.node (some Tryd.ti128) .nil .nil) .nil) (.node (some Tryd.ti96) (.node (some Tryd.ti160) .nil .nil) .nil)) (.node (some Tryd.ti48) (.node (some Tryd.ti80) (.node (some Tryd.ti144) .nil .nil) .nil) (.node (some Tryd.ti112) (.node (some Tryd.ti176) .nil .nil) .nil))) (.node (some Tryd.ti24) (.node (some Tryd.ti40) (.node (some Tryd.ti72) (.node (some Tryd.ti136) .nil .nil) .nil) (.node (some Tryd.ti104) (.node (some Tryd.ti168) .nil .nil) .nil)) (.node (some Tryd.ti56) (.node (some Tryd.ti88) (.node (some Tryd.ti152) .nil .nil) .nil) (.node (some Tryd.ti120) .nil .nil)))) (.node (some Tryd.ti12) (.node (some Tryd.ti20) (.node (some Tryd.ti36) (.node (some Tryd.ti68) (.node (some Tryd.ti132) .nil .nil) .nil) (.node (some Tryd.ti100) (.node (some Tryd.ti164) .nil .nil) .nil)) (.node (some Tryd.ti52) (.node (some Tryd.ti84) (.node (some Tryd.ti148) .nil .nil) .nil) (.node (some Tryd.ti116) (.node (some Tryd.ti180) .nil .nil) .nil))) (.node (some Tryd.ti28) (.node (some Tryd.ti44) (.node (some Tryd.ti76) (.node (some Tryd.ti140) .nil .nil) .nil) (.node (some Tryd.ti108) (.node (some Tryd.ti172) .nil .nil) .nil)) (.node (some Tryd.ti60) (.node (some Tryd.ti92) (.node (some Tryd.ti156) .nil .nil) .nil) (.node (some Tryd.ti124) .nil .nil))))) (.node (some Tryd.ti6) (.node (some Tryd.ti10) (.node (some Tryd.ti18) (.node (some Tryd.ti34) (.node (some Tryd.ti66) (.node (some Tryd.ti130) .nil .nil) .nil) (.node (some Tryd.ti98) (.node (some Tryd.ti162) .nil .nil) .nil)) (.node (some Tryd.ti50) (.node (some Tryd.ti82) (.node (some Tryd.ti146) .nil .nil) .nil) (.node (some Tryd.ti114) (.node (some Tryd.ti178) .nil .nil) .nil))) (.node (some Tryd.ti26) (.node (some Tryd.ti42) (.node (some Tryd.ti74) (.node (some Tryd.ti138) .nil .nil) .nil) (.node (some Tryd.ti106) (.node (some Tryd.ti170) .nil .nil) .nil)) (.node (some Tryd.ti58) (.node (some Tryd.ti90) (.node (some Tryd.ti154) .nil .nil) .nil) (.node (some Tryd.ti122) .nil .nil)))) (.node (some Tryd.ti14) (.node (some Tryd.ti22) (.node (some Tryd.ti38) (.node (some Tryd.ti70) (.node (some Tryd.ti134) .nil .nil) .nil) (.node (some Tryd.ti102) (.node (some Tryd.ti166) .nil .nil) .nil)) (.node (some Tryd.ti54) (.node (some Tryd.ti86) (.node (some Tryd.ti150) .nil .nil) .nil) (.node (some Tryd.ti118) (.node none .nil .nil) .nil))) (.node (some Tryd.ti30) (.node (some Tryd.ti46) (.node (some Tryd.ti78) (.node (some Tryd.ti142) .nil .nil) .nil) (.node (some Tryd.ti110) (.node (some Tryd.ti174) .nil .nil) .nil)) (.node (some Tryd.ti62) (.node (some Tryd.ti94) (.node (some Tryd.ti158) .nil .nil) .nil) (.node (some Tryd.ti126) .nil .nil)))))))
noncomputable def Tryd.kp3 : List Nat := [0, 1, 2, 4, 6, 8, 11, 13, 15, 17, 18, 19, 20, 21, 22, 25, 28, 30, 32, 35, 37, 39, 41, 42, 43, 44, 45, 46, 47, 48, 49,
 50, 51, 52, 53, 54, 94, 187, 216, 232, 322]
noncomputable def Tryd.cf3 : CF := ⟨0, (cSeq (cOps [⟨some 0, true, none, iMov (.c (.bool (.lit false)))⟩])
 (cSeq (dOps 5 [⟨⟨some 55, false, none, iBuild [.nilslice, .nilslice, (.int .i64 (.lit 0)), (.int .i64 (.lit 0)), (.int .i64 (.lit 0)), (.int .i64 (.lit 0)), .nilslice] []⟩, [], false, 0, 16, none, []⟩,
 ⟨⟨some 56, false, none, iCall (.c (.func (.func 4) [] [])) [(.c .nilslice)]⟩, [], true, 0, 0, none, []⟩,
 ⟨⟨some 57, false, none, iCall (.c (.func (.func 4) [] [])) [(.c .nilslice)]⟩, [], true, 1, 0, none, []⟩,
 ⟨⟨some 58, false, none, iCall (.c (.func (.func 4) [] [])) [(.c .nilslice)]⟩, [], true, 2, 0, none, []⟩,
 ⟨⟨some 59, false, none, iCall (.c (.func (.func 4) [] [])) [(.c .nilslice)]⟩, [], true, 3, 0, none, []⟩,
 ⟨⟨some 60, false, none, iCall (.c (.func (.func 5) [] [])) [(.c (.int .i64 (.lit 3))), (.c (.int .i64 (.lit 600))), (.c (.bool (.lit true)))]⟩, [], true, 4, 0, none, []⟩,
 ⟨⟨some 61, false, none, iBslice 31 [(.bool (.lit false)), (.int .i64 (.lit 0)), (.int .i64 (.lit 0)), (.bool (.lit false))] 1 [(0, 4, (.t 60))]⟩, [60], false, 0, 17, (some (flSlice [(.bool (.lit false)), (.int .i64 (.lit 0)), (.int .i64 (.lit 0)), (.bool (.lit false))] 1 [(0, 4, (.t 60))], .sl 1, 4)), []⟩,
 ⟨⟨some 62, false, none, iCall (.c (.func (.func 4) [] [])) [(.t 61)]⟩, [61], true, 5, 0, none, [4]⟩,
 ⟨⟨some 63, false, none, iCall (.c (.func (.func 6) [] [])) [(.c (.int .i64 (.lit 4))), (.c (.int .i64 (.lit 600))), (.c (.bool (.lit true)))]⟩, [], true, 6, 0, none, [4]⟩,
 ⟨⟨some 64, false, none, iBslice 31 [(.bool (.lit false)), (.int .i64 (.lit 0)), (.int .i64 (.lit 0)), (.bool (.lit false))] 1 [(0, 4, (.t 63))]⟩, [63], false, 0, 17, (some (flSlice [(.bool (.lit false)), (.int .i64 (.lit 0)), (.int .i64 (.lit 0)), (.bool (.lit false))] 1 [(0, 4, (.t 63))], .sl 1, 3)), []⟩,
 ⟨⟨some 65, false, none, iCall (.c (.func (.func 4) [] [])) [(.t 64)]⟩, [64], true, 7, 0, none, [3, 4]⟩,
 ⟨⟨some 66, false, none, iCall (.c (.func (.func 5) [] [])) [(.c (.int .i64 (.lit 0))), (.c (.int .i64 (.lit 479))), (.c (.bool (.lit true)))]⟩, [], true, 8, 0, none, [3, 4]⟩,
 ⟨⟨some 67, false, none, iBslice 31 [(.bool (.lit false)), (.int .i64 (.lit 0)), (.int .i64 (.lit 0)), (.bool (.lit false))] 1 [(0, 4, (.t 66))]⟩, [66], false, 0, 17, (some (flSlice [(.bool (.lit false)), (.int .i64 (.lit 0)), (.int .i64 (.lit 0)), (.bool (.lit false))] 1 [(0, 4, (.t 66))], .sl 1, 2)), []⟩,
 ⟨⟨some 68, false, none, iCall (.c (.func (.func 4) [] [])) [(.t 67)]⟩, [67], true, 9, 0, none, [2, 3, 4]⟩,
 ⟨⟨some 69, false, none, iCall (.c (.func (.func 6) [] [])) [(.c (.int .i64 (.lit 0))), (.c (.int .i64 (.lit 3000))), (.c (.bool (.lit true)))]⟩, [], true, 10, 0, none, [2, 3, 4]⟩,
 ⟨⟨some 70, false, none, iBslice 31 [(.bool (.lit false)), (.int .i64 (.lit 0)), (.int .i64 (.lit 0)), (.bool (.lit false))] 1 [(0, 4, (.t 69))]⟩, [69], false, 0, 17, (some (flSlice [(.bool (.lit false)), (.int .i64 (.lit 0)), (.int .i64 (.lit 0)), (.bool (.lit false))] 1 [(0, 4, (.t 69))], .sl 1, 1)), []⟩,
 ⟨⟨some 71, false, none, iCall (.c (.func (.func 4) [] [])) [(.t 70)]⟩, [70], true, 11, 0, none, [1, 2, 3, 4]⟩,
 ⟨⟨some 72, false, none, iMkslice 31 [(.bool (.lit false)), (.int .i64 (.lit 0)), (.int .i64 (.lit 0)), (.bool (.lit false))] 32 (.c (.int .i64 (.lit 7))) (.c (.int .i64 (.lit 7)))⟩, [], false, 0, 17, (some (flRep [(.bool (.lit false)), (.int .i64 (.lit 0)), (.int .i64 (.lit 0)), (.bool (.lit false))] 7, .sl 7, 0)), []⟩,
 ⟨⟨some 73, false, none, iCall (.c (.func (.func 4) [] [])) [(.t 72)]⟩, [72], true, 12, 0, none, [0, 1, 2, 3, 4]⟩,
 ⟨⟨some 74, false, none, iCall (.c (.func (.func 6) [] [])) [(.c (.int .i64 (.lit (-1)))), (.c (.int .i64 (.lit 600))), (.c (.bool (.lit true)))]⟩, [], true, 13, 0, none, [0, 1, 2, 3, 4]⟩,
 ⟨⟨some 75, false, none, iBslice 31 [(.bool (.lit false)), (.int .i64 (.lit 0)), (.int .i64 (.lit 0)), (.bool (.lit false))] 1 [(0, 4, (.t 74))]⟩, [74], true, 14, 0, none, [0, 1, 2, 3, 4]⟩,
 ⟨⟨some 76, false, none, iCall (.c (.func (.func 4) [] [])) [(.t 75)]⟩, [75], true, 15, 0, none, [0, 1, 2, 3, 4]⟩,
 ⟨⟨some 77, false, none, iBslice 28 [.nilslice, .nilslice, (.int .i64 (.lit 0)), (.int .i64 (.lit 0)), (.int .i64 (.lit 0)), (.int .i64 (.lit 0)), .nilslice] 11 [(0, 7, (.t 55)), (7, 7, (.t 56)), (14, 7, (.t 57)), (21, 7, (.t 58)), (28, 7, (.t 59)), (35, 7, (.t 62)), (42, 7, (.t 65)), (49, 7, (.t 68)), (56, 7, (.t 71)), (63, 7, (.t 73)), (70, 7, (.t 76))]⟩, [55, 56, 57, 58, 59, 62, 65, 68, 71, 73, 76], true, 16, 0, none, [0, 1, 2, 3, 4]⟩,
 ⟨⟨some 1, true, none, iMov (.t 77)⟩, [77], false, 17, 17, none, []⟩])
 (cSeq (cOps [⟨some 78, false, none, iMov (.t 1)⟩,
 ⟨some 79, false, none, iIaddr 7 (.t 78) (.c (.int .i64 (.lit 1)))⟩,
 ⟨some 80, false, none, iFaddr 0 (.t 79)⟩,
 ⟨some 81, false, none, iFaddr 2 (.t 80)⟩,
 ⟨none, false, none, iStore 1 (.t 81) (.c (.int .i64 (.lit 61)))⟩])
 (cSeq (cOps [⟨some 82, false, none, iMov (.t 1)⟩,
 ⟨some 83, false, none, iIaddr 7 (.t 82) (.c (.int .i64 (.lit 2)))⟩,
 ⟨some 84, false, none, iFaddr 3 (.t 83)⟩,
 ⟨none, false, none, iStore 1 (.t 84) (.c (.int .i64 (.lit 3)))⟩])
 (cSeq (cOps [⟨some 85, false, none, iMov (.t 1)⟩,
 ⟨some 86, false, none, iIaddr 7 (.t 85) (.c (.int .i64 (.lit 3)))⟩,
 ⟨some 87, false, none, iFaddr 4 (.t 86)⟩,
 ⟨none, false, none, iStore 1 (.t 87) (.c (.int .i64 (.lit 2880)))⟩])
 (cSeq (cOps [⟨some 88, false, none, iMov (.t 1)⟩,
 ⟨some 89, false, none, iIaddr 7 (.t 88) (.c (.int .i64 (.lit 4)))⟩,
 ⟨some 90, false, none, iFaddr 5 (.t 89)⟩,
 ⟨none, false, none, iStore 1 (.t 90) (.c (.int .i64 (.lit 3)))⟩])
 (cSeq (cSeq (cOps [⟨some 2, true, none, iMov (.c (.int .i64 (.lit 0)))⟩])
 (cBlock 0 (cLoop (cSeq (cSeq (cOps [⟨some 91, false, none, iMov (.t 2)⟩,
 ⟨some 92, false, none, iMov (.t 1)⟩,
 ⟨some 93, false, none, iLenS (.t 92)⟩,
 ⟨some 94, true, none, iCmp .lss (.t 91) (.t 93)⟩])
 (cCond (.t 94) cSkip (cExit 0)))
 (cSeq (cBlock 1 (cSeq (cOps [⟨some 98, false, none, iMov (.t 1)⟩,
 ⟨some 99, false, none, iMov (.t 2)⟩,
 ⟨some 100, false, none, iIaddr 7 (.t 98) (.t 99)⟩,
 ⟨some 101, false, none, iLoadN 7 (.t 100)⟩,
 ⟨some 102, false, none, iCall (.c (.func (.func 7) [] [])) [(.t 101), (.c .nilslice)]⟩,
 ⟨some 97, false, none, iMov (.t 102)⟩,
 ⟨some 103, false, none, iExtract 0 (.t 97)⟩,
 ⟨some 104, false, none, iExtract 1 (.t 97)⟩,
 ⟨some 3, false, none, iMov (.t 103)⟩,
 ⟨some 4, true, none, iMov (.t 104)⟩])
 (cSeq (cOps [⟨some 106, false, none, iMov (.t 1)⟩,
 ⟨some 107, false, none, iMov (.t 2)⟩,
 ⟨some 108, false, none, iIaddr 7 (.t 106) (.t 107)⟩,
 ⟨some 109, false, none, iLoadN 7 (.t 108)⟩,
 ⟨some 110, false, none, iCall (.c (.func (.func 8) [] [])) [(.t 109)]⟩,
 ⟨some 105, false, none, iMov (.t 110)⟩,
 ⟨some 111, false, none, iExtract 0 (.t 105)⟩,
 ⟨some 112, false, none, iExtract 1 (.t 105)⟩,
 ⟨some 5, false, none, iMov (.t 111)⟩,
 ⟨some 6, true, none, iMov (.t 112)⟩])
 (cSeq (cOps [⟨some 114, false, none, iMov (.t 1)⟩,
 ⟨some 115, false, none, iMov (.t 2)⟩,
 ⟨some 116, false, none, iIaddr 7 (.t 114) (.t 115)⟩,
 ⟨some 117, false, none, iLoadN 7 (.t 116)⟩,
 ⟨some 118, false, none, iCall (.c (.func (.func 9) [] [])) [(.t 117)]⟩,
 ⟨some 113, false, none, iMov (.t 118)⟩,
 ⟨some 119, false, none, iExtract 0 (.t 113)⟩,
 ⟨some 120, false, none, iExtract 1 (.t 113)⟩,
 ⟨some 7, false, none, iMov (.t 119)⟩,
 ⟨some 8, true, none, iMov (.t 120)⟩])
 (cSeq (cOps [⟨some 122, false, none, iMov (.t 1)⟩,
 ⟨some 123, false, none, iMov (.t 2)⟩,
 ⟨some 124, false, none, iIaddr 7 (.t 122) (.t 123)⟩,
 ⟨some 125, false, none, iLoadN 7 (.t 124)⟩,
 ⟨some 126, false, none, iCall (.c (.func (.func 10) [] [])) [(.t 125), (.c (.int .i64 (.lit (-1))))]⟩,
 ⟨some 121, false, none, iMov (.t 126)⟩,
 ⟨some 127, false, none, iExtract 0 (.t 121)⟩,
 ⟨some 128, false, none, iExtract 1 (.t 121)⟩,
 ⟨some 129, false, none, iExtract 2 (.t 121)⟩,
 ⟨some 9, false, none, iMov (.t 127)⟩,
 ⟨some 10, false, none, iMov (.t 128)⟩,
 ⟨some 11, true, none, iMov (.t 129)⟩])
 (cSeq (cOps [⟨some 131, false, none, iMov (.t 1)⟩,
 ⟨some 132, false, none, iMov (.t 2)⟩,
 ⟨some 133, false, none, iIaddr 7 (.t 131) (.t 132)⟩,
 ⟨some 134, false, none, iLoadN 7 (.t 133)⟩,
 ⟨some 135, false, none, iCall (.c (.func (.func 11) [] [])) [(.t 134), (.c (.int .i64 (.lit (-1))))]⟩,
 ⟨some 130, false, none, iMov (.t 135)⟩,
 ⟨some 136, false, none, iExtract 0 (.t 130)⟩,
 ⟨some 137, false, none, iExtract 1 (.t 130)⟩,
 ⟨some 12, false, none, iAlloc 46 [(.int .i64 (.lit 0)), (.int .i64 (.lit 0))]⟩,
 ⟨none, false, none, iStore 2 (.t 12) (.t 136)⟩,
 ⟨some 13, true, none, iMov (.t 137)⟩])
 (cSeq (cOps [⟨some 139, false, none, iMov (.t 1)⟩,
 ⟨some 140, false, none, iMov (.t 2)⟩,
 ⟨some 141, false, none, iIaddr 7 (.t 139) (.t 140)⟩,
 ⟨some 142, false, none, iLoadN 7 (.t 141)⟩,
 ⟨some 143, false, none, iCall (.c (.func (.func 12) [] [])) [(.t 142)]⟩,
 ⟨some 138, false, none, iMov (.t 143)⟩,
 ⟨some 144, false, none, iExtract 0 (.t 138)⟩,
 ⟨some 145, false, none, iExtract 1 (.t 138)⟩,
 ⟨some 14, false, none, iMov (.t 144)⟩,
 ⟨some 15, true, none, iMov (.t 145)⟩])
 (cSeq (cOps [⟨some 147, false, none, iMov (.t 1)⟩,
 ⟨some 148, false, none, iMov (.t 2)⟩,
 ⟨some 149, false, none, iIaddr 7 (.t 147) (.t 148)⟩,
 ⟨some 150, false, none, iLoadN 7 (.t 149)⟩,
 ⟨some 151, false, none, iCall (.c (.func (.func 13) [] [])) [(.t 150), (.c (.int .i64 (.lit (-1))))]⟩,
 ⟨some 146, false, none, iMov (.t 151)⟩,
 ⟨some 152, false, none, iExtract 0 (.t 146)⟩,
 ⟨some 153, false, none, iExtract 1 (.t 146)⟩,
 ⟨some 16, false, none, iMov (.t 152)⟩,
 ⟨some 17, true, none, iMov (.t 153)⟩])
 (cSeq (cOps [⟨some 154, false, none, iMov (.t 1)⟩,
 ⟨some 155, false, none, iMov (.t 2)⟩,
 ⟨some 156, false, none, iIaddr 7 (.t 154) (.t 155)⟩,
 ⟨some 157, false, none, iLoadN 7 (.t 156)⟩,
 ⟨some 158, false, none, iCall (.c (.func (.func 14) [] [])) [(.t 157)]⟩,
 ⟨some 159, false, none, iCmp .neq (.t 158) (.c (.int .i64 (.lit 100)))⟩,
 ⟨some 160, false, none, iMov (.t 159)⟩,
 ⟨some 161, false, some (160, false), iMov (.t 4)⟩,
 ⟨some 162, false, some (160, false), iCmp .neq (.t 161) (.c (.int .i64 (.lit 100)))⟩,
 ⟨some 163, false, none, iPick (.t 160) (.c (.bool (.lit true))) (.t 162)⟩,
 ⟨some 164, false, none, iMov (.t 163)⟩,
 ⟨some 165, false, some (164, false), iMov (.t 6)⟩,
 ⟨some 166, false, some (164, false), iCmp .neq (.t 165) (.c (.int .i64 (.lit 100)))⟩,
 ⟨some 167, false, none, iPick (.t 164) (.c (.bool (.lit true))) (.t 166)⟩,
 ⟨some 168, false, none, iMov (.t 167)⟩,
 ⟨some 169, false, some (168, false), iMov (.t 8)⟩,
 ⟨some 170, false, some (168, false), iCmp .neq (.t 169) (.c (.int .i64 (.lit 100)))⟩,
 ⟨some 171, false, none, iPick (.t 168) (.c (.bool (.lit true))) (.t 170)⟩,
 ⟨some 172, false, none, iMov (.t 171)⟩,
 ⟨some 173, false, some (172, false), iMov (.t 11)⟩,
 ⟨some 174, false, some (172, false), iCmp .neq (.t 173) (.c (.int .i64 (.lit 100)))⟩,
 ⟨some 175, false, none, iPick (.t 172) (.c (.bool (.lit true))) (.t 174)⟩,
 ⟨some 176, false, none, iMov (.t 175)⟩,
 ⟨some 177, false, some (176, false), iMov (.t 13)⟩,
 ⟨some 178, false, some (176, false), iCmp .neq (.t 177) (.c (.int .i64 (.lit 100)))⟩,
 ⟨some 179, false, none, iPick (.t 176) (.c (.bool (.lit true))) (.t 178)⟩,
 ⟨some 180, false, none, iMov (.t 179)⟩,
 ⟨some 181, false, some (180, false), iMov (.t 15)⟩,
 ⟨some 182, false, some (180, false), iCmp .neq (.t 181) (.c (.int .i64 (.lit 100)))⟩,
 ⟨some 183, false, none, iPick (.t 180) (.c (.bool (.lit true))) (.t 182)⟩,
 ⟨some 184, false, none, iMov (.t 183)⟩,
 ⟨some 185, false, some (184, false), iMov (.t 17)⟩,
 ⟨some 186, false, some (184, false), iCmp .neq (.t 185) (.c (.int .i64 (.lit 100)))⟩,
 ⟨some 187, true, none, iPick (.t 184) (.c (.bool (.lit true))) (.t 186)⟩])
 (cCond (.t 187) (cSeq (cOps [⟨some 0, true, none, iMov (.c (.bool (.lit false)))⟩])
 cRet) cSkip))))))))))
 (cOps [⟨some 95, false, none, iMov (.t 2)⟩,
 ⟨some 96, false, none, iArith .add (.t 95) (.c (.int .i64 (.lit 1)))⟩,
 ⟨some 2, true, none, iMov (.t 96)⟩]))))))
 (cSeq (cOps [⟨some 188, false, none, iCall (.c (.func (.func 15) [] [])) [(.c (.int .i64 (.lit 1))), (.c (.int .i64 (.lit 0))), (.c (.int .i64 (.lit 1)))]⟩,
 ⟨some 189, false, none, iBslice 54 [(.int .i64 (.lit 0)), (.int .i64 (.lit 0)), (.int .i64 (.lit 0))] 1 [(0, 3, (.t 188))]⟩,
 ⟨some 190, false, none, iCall (.c (.func (.func 15) [] [])) [(.c (.int .i64 (.lit 4))), (.c (.int .i64 (.lit 0))), (.c (.int .i64 (.lit 1)))]⟩,
 ⟨some 191, false, none, iBslice 54 [(.int .i64 (.lit 0)), (.int .i64 (.lit 0)), (.int .i64 (.lit 0))] 1 [(0, 3, (.t 190))]⟩,
 ⟨some 192, false, none, iCall (.c (.func (.func 15) [] [])) [(.c (.int .i64 (.lit (-1)))), (.c (.int .i64 (.lit 0))), (.c (.int .i64 (.lit 1)))]⟩,
 ⟨some 193, false, none, iBslice 54 [(.int .i64 (.lit 0)), (.int .i64 (.lit 0)), (.int .i64 (.lit 0))] 1 [(0, 3, (.t 192))]⟩,
 ⟨some 194, false, none, iCall (.c (.func (.func 15) [] [])) [(.c (.int .i64 (.lit 0))), (.c (.int .i64 (.lit 0))), (.c (.int .i64 (.lit 0)))]⟩,
 ⟨some 195, false, none, iBslice 54 [(.int .i64 (.lit 0)), (.int .i64 (.lit 0)), (.int .i64 (.lit 0))] 1 [(0, 3, (.t 194))]⟩,
 ⟨some 196, false, none, iCall (.c (.func (.func 15) [] [])) [(.c (.int .i64 (.lit 0))), (.c (.int .i64 (.lit 2))), (.c (.int .i64 (.lit 1)))]⟩,
 ⟨some 197, false, none, iBslice 54 [(.int .i64 (.lit 0)), (.int .i64 (.lit 0)), (.int .i64 (.lit 0))] 1 [(0, 3, (.t 196))]⟩,
 ⟨some 198, false, none, iCall (.c (.func (.func 15) [] [])) [(.c (.int .i64 (.lit 0))), (.c (.int .i64 (.lit 0))), (.c (.int .i64 (.lit 3)))]⟩,
 ⟨some 199, false, none, iBslice 54 [(.int .i64 (.lit 0)), (.int .i64 (.lit 0)), (.int .i64 (.lit 0))] 1 [(0, 3, (.t 198))]⟩,
 ⟨some 200, false, none, iCall (.c (.func (.func 15) [] [])) [(.c (.int .i64 (.lit 0))), (.c (.int .i64 (.lit (-1)))), (.c (.int .i64 (.lit 1)))]⟩,
 ⟨some 201, false, none, iBslice 54 [(.int .i64 (.lit 0)), (.int .i64 (.lit 0)), (.int .i64 (.lit 0))] 1 [(0, 3, (.t 200))]⟩,
 ⟨some 202, false, none, iCall (.c (.func (.func 15) [] [])) [(.c (.int .i64 (.lit 0))), (.c (.int .i64 (.lit 0))), (.c (.int .i64 (.lit 1)))]⟩,
 ⟨some 203, false, none, iCall (.c (.func (.func 15) [] [])) [(.c (.int .i64 (.lit 0))), (.c (.int .i64 (.lit 1))), (.c (.int .i64 (.lit 2)))]⟩,
 ⟨some 204, false, none, iBslice 54 [(.int .i64 (.lit 0)), (.int .i64 (.lit 0)), (.int .i64 (.lit 0))] 2 [(0, 3, (.t 202)), (3, 3, (.t 203))]⟩,
 ⟨some 205, false, none, iCall (.c (.func (.func 15) [] [])) [(.c (.int .i64 (.lit 0))), (.c (.int .i64 (.lit 0))), (.c (.int .i64 (.lit 2)))]⟩,
 ⟨some 206, false, none, iCall (.c (.func (.func 15) [] [])) [(.c (.int .i64 (.lit 1))), (.c (.int .i64 (.lit 0))), (.c (.int .i64 (.lit 1)))]⟩,
 ⟨some 207, false, none, iBslice 54 [(.int .i64 (.lit 0)), (.int .i64 (.lit 0)), (.int .i64 (.lit 0))] 2 [(0, 3, (.t 205)), (3, 3, (.t 206))]⟩,
 ⟨some 208, false, none, iCall (.c (.func (.func 15) [] [])) [(.c (.int .i64 (.lit 0))), (.c (.int .i64 (.lit 0))), (.c (.int .i64 (.lit 1)))]⟩,
 ⟨some 209, false, none, iCall (.c (.func (.func 15) [] [])) [(.c (.int .i64 (.lit 1))), (.c (.int .i64 (.lit 0))), (.c (.int .i64 (.lit 1)))]⟩,
 ⟨some 210, false, none, iCall (.c (.func (.func 15) [] [])) [(.c (.int .i64 (.lit 2))), (.c (.int .i64 (.lit 0))), (.c (.int .i64 (.lit 1)))]⟩,
 ⟨some 211, false, none, iBslice 54 [(.int .i64 (.lit 0)), (.int .i64 (.lit 0)), (.int .i64 (.lit 0))] 3 [(0, 3, (.t 208)), (3, 3, (.t 209)), (6, 3, (.t 210))]⟩,
 ⟨some 212, false, none, iBslice 39 [.nilslice] 10 [(0, 1, (.t 189)), (1, 1, (.t 191)), (2, 1, (.t 193)), (3, 1, (.t 195)), (4, 1, (.t 197)), (5, 1, (.t 199)), (6, 1, (.t 201)), (7, 1, (.t 204)), (8, 1, (.t 207)), (9, 1, (.t 211))]⟩,
 ⟨some 18, true, none, iMov (.t 212)⟩])
 (cSeq (cSeq (cOps [⟨some 19, true, none, iMov (.c (.int .i64 (.lit 0)))⟩])
 (cBlock 2 (cLoop (cSeq (cSeq (cOps [⟨some 213, false, none, iMov (.t 19)⟩,
 ⟨some 214, false, none, iMov (.t 18)⟩,
 ⟨some 215, false, none, iLenS (.t 214)⟩,
 ⟨some 216, true, none, iCmp .lss (.t 213) (.t 215)⟩])
 (cCond (.t 216) cSkip (cExit 2)))
 (cSeq (cBlock 3 (cSeq (dOps 0 [⟨⟨some 220, false, none, iCall (.c (.func (.func 4) [] [])) [(.c .nilslice)]⟩, [], true, 0, 0, none, []⟩,
 ⟨⟨some 221, false, none, iMov (.t 18)⟩, [18], false, 0, 1, none, []⟩,
 ⟨⟨some 222, false, none, iMov (.t 19)⟩, [19], false, 0, 1, none, []⟩,
 ⟨⟨some 223, false, none, iIaddr 1 (.t 221) (.t 222)⟩, [221, 222], false, 0, 1, none, []⟩,
 ⟨⟨some 224, false, none, iLoad (.t 223)⟩, [223], false, 0, 1, none, []⟩,
 ⟨⟨some 225, false, none, iCall (.c (.func (.func 7) [] [])) [(.t 220), (.t 224)]⟩, [220, 224], true, 1, 0, none, []⟩,
 ⟨⟨some 219, false, none, iMov (.t 225)⟩, [225], false, 2, 2, none, []⟩,
 ⟨⟨some 226, false, none, iExtract 0 (.t 219)⟩, [219], false, 2, 2, none, []⟩,
 ⟨⟨some 227, false, none, iExtract 1 (.t 219)⟩, [219], false, 2, 2, none, []⟩,
 ⟨⟨some 20, true, none, iMov (.t 226)⟩, [226], false, 2, 2, none, []⟩,
 ⟨⟨some 21, true, none, iMov (.t 227)⟩, [227], false, 2, 2, none, []⟩])
 (cSeq (cOps [⟨some 228, false, none, iMov (.t 20)⟩,
 ⟨some 229, false, none, iMov (.t 228)⟩,
 ⟨some 230, false, some (229, false), iMov (.t 21)⟩,
 ⟨some 231, false, some (229, false), iCmp .neq (.t 230) (.c (.int .i64 (.lit 101)))⟩,
 ⟨some 232, true, none, iPick (.t 229) (.c (.bool (.lit true))) (.t 231)⟩])
 (cCond (.t 232) (cSeq (cOps [⟨some 0, true, none, iMov (.c (.bool (.lit false)))⟩])
 cRet) cSkip))))
 (cOps [⟨some 217, false, none, iMov (.t 19)⟩,
 ⟨some 218, false, none, iArith .add (.t 217) (.c (.int .i64 (.lit 1)))⟩,
 ⟨some 19, true, none, iMov (.t 218)⟩]))))))
 (cSeq (cOps [⟨some 233, false, none, iCall (.c (.func (.func 5) [] [])) [(.c (.int .i64 (.lit 0))), (.c (.int .i64 (.lit 600))), (.c (.bool (.lit false)))]⟩,
 ⟨some 234, false, none, iCall (.c (.func (.func 5) [] [])) [(.c (.int .i64 (.lit 0))), (.c (.int .i64 (.lit 650))), (.c (.bool (.lit true)))]⟩,
 ⟨some 235, false, none, iBslice 31 [(.bool (.lit false)), (.int .i64 (.lit 0)), (.int .i64 (.lit 0)), (.bool (.lit false))] 2 [(0, 4, (.t 233)), (4, 4, (.t 234))]⟩,
 ⟨some 236, false, none, iCall (.c (.func (.func 4) [] [])) [(.t 235)]⟩,
 ⟨some 22, true, none, iAlloc 28 [.nilslice, .nilslice, (.int .i64 (.lit 0)), (.int .i64 (.lit 0)), (.int .i64 (.lit 0)), (.int .i64 (.lit 0)), .nilslice]⟩,
 ⟨none, false, none, iStore 7 (.t 22) (.t 236)⟩])
 (cSeq (cOps [⟨some 238, false, none, iLoadN 7 (.t 22)⟩,
 ⟨some 239, false, none, iCall (.c (.func (.func 10) [] [])) [(.t 238), (.c (.int .i64 (.lit 479)))]⟩,
 ⟨some 237, false, none, iMov (.t 239)⟩,
 ⟨some 240, false, none, iExtract 0 (.t 237)⟩,
 ⟨some 241, false, none, iExtract 1 (.t 237)⟩,
 ⟨some 242, false, none, iExtract 2 (.t 237)⟩,
 ⟨some 23, false, none, iMov (.t 240)⟩,
 ⟨some 24, false, none, iMov (.t 241)⟩,
 ⟨some 25, true, none, iMov (.t 242)⟩])
 (cSeq (cOps [⟨some 244, false, none, iLoadN 7 (.t 22)⟩,
 ⟨some 245, false, none, iCall (.c (.func (.func 10) [] [])) [(.t 244), (.c (.int .i64 (.lit 3000)))]⟩,
 ⟨some 243, false, none, iMov (.t 245)⟩,
 ⟨some 246, false, none, iExtract 0 (.t 243)⟩,
 ⟨some 247, false, none, iExtract 1 (.t 243)⟩,
 ⟨some 248, false, none, iExtract 2 (.t 243)⟩,
 ⟨some 26, false, none, iMov (.t 246)⟩,
 ⟨some 27, false, none, iMov (.t 247)⟩,
 ⟨some 28, true, none, iMov (.t 248)⟩])
 (cSeq (cOps [⟨some 250, false, none, iLoadN 7 (.t 22)⟩,
 ⟨some 251, false, none, iCall (.c (.func (.func 11) [] [])) [(.t 250), (.c (.int .i64 (.lit 4)))]⟩,
 ⟨some 249, false, none, iMov (.t 251)⟩,
 ⟨some 252, false, none, iExtract 0 (.t 249)⟩,
 ⟨some 253, false, none, iExtract 1 (.t 249)⟩,
 ⟨some 29, false, none, iAlloc 46 [(.int .i64 (.lit 0)), (.int .i64 (.lit 0))]⟩,
 ⟨none, false, none, iStore 2 (.t 29) (.t 252)⟩,
 ⟨some 30, true, none, iMov (.t 253)⟩])
 (cSeq (cOps [⟨some 255, false, none, iLoadN 7 (.t 22)⟩,
 ⟨some 256, false, none, iCall (.c (.func (.func 13) [] [])) [(.t 255), (.c (.int .i64 (.lit 479)))]⟩,
 ⟨some 254, false, none, iMov (.t 256)⟩,
 ⟨some 257, false, none, iExtract 0 (.t 254)⟩,
 ⟨some 258, false, none, iExtract 1 (.t 254)⟩,
 ⟨some 31, false, none, iMov (.t 257)⟩,
 ⟨some 32, true, none, iMov (.t 258)⟩])
 (cSeq (cOps [⟨some 260, false, none, iLoadN 7 (.t 22)⟩,
 ⟨some 261, false, none, iCall (.c (.func (.func 10) [] [])) [(.t 260), (.c (.int .i64 (.lit 700)))]⟩,
 ⟨some 259, false, none, iMov (.t 261)⟩,
 ⟨some 262, false, none, iExtract 0 (.t 259)⟩,
 ⟨some 263, false, none, iExtract 1 (.t 259)⟩,
 ⟨some 264, false, none, iExtract 2 (.t 259)⟩,
 ⟨some 33, false, none, iMov (.t 262)⟩,
 ⟨some 34, false, none, iMov (.t 263)⟩,
 ⟨some 35, true, none, iMov (.t 264)⟩])
 (cSeq (cOps [⟨some 266, false, none, iLoadN 7 (.t 22)⟩,
 ⟨some 267, false, none, iCall (.c (.func (.func 11) [] [])) [(.t 266), (.c (.int .i64 (.lit 0)))]⟩,
 ⟨some 265, false, none, iMov (.t 267)⟩,
 ⟨some 268, false, none, iExtract 0 (.t 265)⟩,
 ⟨some 269, false, none, iExtract 1 (.t 265)⟩,
 ⟨some 36, false, none, iAlloc 46 [(.int .i64 (.lit 0)), (.int .i64 (.lit 0))]⟩,
 ⟨none, false, none, iStore 2 (.t 36) (.t 268)⟩,
 ⟨some 37, true, none, iMov (.t 269)⟩])
 (cSeq (cOps [⟨some 271, false, none, iLoadN 7 (.t 22)⟩,
 ⟨some 272, false, none, iCall (.c (.func (.func 13) [] [])) [(.t 271), (.c (.int .i64 (.lit 700)))]⟩,
 ⟨some 270, false, none, iMov (.t 272)⟩,
 ⟨some 273, false, none, iExtract 0 (.t 270)⟩,
 ⟨some 274, false, none, iExtract 1 (.t 270)⟩,
 ⟨some 38, false, none, iMov (.t 273)⟩,
 ⟨some 39, true, none, iMov (.t 274)⟩])
 (cSeq (cOps [⟨some 276, false, none, iLoadN 7 (.t 22)⟩,
 ⟨some 277, false, none, iCall (.c (.func (.func 9) [] [])) [(.t 276)]⟩,
 ⟨some 275, false, none, iMov (.t 277)⟩,
 ⟨some 278, false, none, iExtract 0 (.t 275)⟩,
 ⟨some 279, false, none, iExtract 1 (.t 275)⟩,
 ⟨some 40, false, none, iMov (.t 278)⟩,
 ⟨some 41, true, none, iMov (.t 279)⟩])
 (cSeq (cOps [⟨some 281, false, none, iLoadN 7 (.t 22)⟩,
 ⟨some 282, false, none, iCall (.c (.func (.func 8) [] [])) [(.t 281)]⟩,
 ⟨some 280, false, none, iMov (.t 282)⟩,
 ⟨some 283, false, none, iExtract 0 (.t 280)⟩,
 ⟨some 284, false, none, iExtract 1 (.t 280)⟩,
 ⟨some 42, true, none, iMov (.t 283)⟩,
 ⟨some 43, true, none, iMov (.t 284)⟩])
 (cSeq (cSeq (cOps [⟨some 285, false, none, iMov (.t 25)⟩,
 ⟨some 286, false, none, iCmp .neq (.t 285) (.c (.int .i64 (.lit 101)))⟩,
 ⟨some 287, false, none, iMov (.t 286)⟩,
 ⟨some 288, false, some (287, false), iMov (.t 28)⟩,
 ⟨some 289, false, some (287, false), iCmp .neq (.t 288) (.c (.int .i64 (.lit 101)))⟩,
 ⟨some 290, false, none, iPick (.t 287) (.c (.bool (.lit true))) (.t 289)⟩,
 ⟨some 291, false, none, iMov (.t 290)⟩,
 ⟨some 292, false, some (291, false), iMov (.t 30)⟩,
 ⟨some 293, false, some (291, false), iCmp .neq (.t 292) (.c (.int .i64 (.lit 101)))⟩,
 ⟨some 294, false, none, iPick (.t 291) (.c (.bool (.lit true))) (.t 293)⟩,
 ⟨some 295, false, none, iMov (.t 294)⟩,
 ⟨some 296, false, some (295, false), iMov (.t 32)⟩,
 ⟨some 297, false, some (295, false), iCmp .neq (.t 296) (.c (.int .i64 (.lit 101)))⟩,
 ⟨some 298, false, none, iPick (.t 295) (.c (.bool (.lit true))) (.t 297)⟩,
 ⟨some 299, false, none, iMov (.t 298)⟩,
 ⟨some 300, false, some (299, false), iMov (.t 35)⟩,
 ⟨some 301, false, some (299, false), iCmp .neq (.t 300) (.c (.int .i64 (.lit 102)))⟩,
 ⟨some 302, false, none, iPick (.t 299) (.c (.bool (.lit true))) (.t 301)⟩,
 ⟨some 303, false, none, iMov (.t 302)⟩,
 ⟨some 304, false, some (303, false), iMov (.t 37)⟩,
 ⟨some 305, false, some (303, false), iCmp .neq (.t 304) (.c (.int .i64 (.lit 102)))⟩,
 ⟨some 306, false, none, iPick (.t 303) (.c (.bool (.lit true))) (.t 305)⟩,
 ⟨some 307, false, none, iMov (.t 306)⟩,
 ⟨some 308, false, some (307, false), iMov (.t 39)⟩,
 ⟨some 309, false, some (307, false), iCmp .neq (.t 308) (.c (.int .i64 (.lit 102)))⟩,
 ⟨some 310, false, none, iPick (.t 307) (.c (.bool (.lit true))) (.t 309)⟩,
 ⟨some 311, false, none, iMov (.t 310)⟩,
 ⟨some 312, false, some (311, false), iMov (.t 41)⟩,
 ⟨some 313, false, some (311, false), iCmp .neq (.t 312) (.c (.int .i64 (.lit 102)))⟩,
 ⟨some 314, false, none, iPick (.t 311) (.c (.bool (.lit true))) (.t 313)⟩,
 ⟨some 315, false, none, iMov (.t 314)⟩,
 ⟨some 316, false, some (315, false), iMov (.t 43)⟩,
 ⟨some 317, false, some (315, false), iCmp .neq (.t 316) (.c (.int .i64 (.lit 0)))⟩,
 ⟨some 318, false, none, iPick (.t 315) (.c (.bool (.lit true))) (.t 317)⟩,
 ⟨some 319, false, none, iMov (.t 318)⟩,
 ⟨some 320, false, some (319, false), iMov (.t 42)⟩,
 ⟨some 321, false, some (319, false), iCmp .neq (.t 320) (.c (.int .i64 (.lit 0)))⟩,
 ⟨some 322, true, none, iPick (.t 319) (.c (.bool (.lit true))) (.t 321)⟩])
 (cCond (.t 322) (cSeq (cOps [⟨some 0, true, none, iMov (.c (.bool (.lit false)))⟩])
 cRet) cSkip))
 (cSeq (cOps [⟨some 324, false, none, iLoadN 7 (.t 22)⟩,
 ⟨some 325, false, none, iCall (.c (.func (.func 12) [] [])) [(.t 324)]⟩,
 ⟨some 323, false, none, iMov (.t 325)⟩,
 ⟨some 326, false, none, iExtract 0 (.t 323)⟩,
 ⟨some 327, false, none, iExtract 1 (.t 323)⟩,
 ⟨some 44, true, none, iMov (.t 326)⟩,
 ⟨some 25, true, none, iMov (.t 327)⟩])
 (cSeq (cOps [⟨some 328, false, none, iCall (.c (.func (.func 5) [] [])) [(.c (.int .i64 (.lit 0))), (.c (.int .i64 (.lit 2000))), (.c (.bool (.lit true)))]⟩,
 ⟨some 329, false, none, iBslice 31 [(.bool (.lit false)), (.int .i64 (.lit 0)), (.int .i64 (.lit 0)), (.bool (.lit false))] 1 [(0, 4, (.t 328))]⟩,
 ⟨some 330, false, none, iCall (.c (.func (.func 4) [] [])) [(.t 329)]⟩,
 ⟨some 45, true, none, iAlloc 28 [.nilslice, .nilslice, (.int .i64 (.lit 0)), (.int .i64 (.lit 0)), (.int .i64 (.lit 0)), (.int .i64 (.lit 0)), .nilslice]⟩,
 ⟨none, false, none, iStore 7 (.t 45) (.t 330)⟩])
 (cSeq (cOps [⟨some 332, false, none, iLoadN 7 (.t 45)⟩,
 ⟨some 333, false, none, iCall (.c (.func (.func 13) [] [])) [(.t 332), (.c (.int .i64 (.lit 700)))]⟩,
 ⟨some 331, false, none, iMov (.t 333)⟩,
 ⟨some 334, false, none, iExtract 0 (.t 331)⟩,
 ⟨some 335, false, none, iExtract 1 (.t 331)⟩,
 ⟨some 28, true, none, iMov (.t 335)⟩])
 (cSeq (cOps [⟨some 337, false, none, iCall (.c (.func (.func 4) [] [])) [(.c .nilslice)]⟩,
 ⟨some 338, false, none, iCall (.c (.func (.func 8) [] [])) [(.t 337)]⟩,
 ⟨some 336, false, none, iMov (.t 338)⟩,
 ⟨some 339, false, none, iExtract 0 (.t 336)⟩,
 ⟨some 340, false, none, iExtract 1 (.t 336)⟩,
 ⟨some 46, true, none, iMov (.t 339)⟩,
 ⟨some 30, true, none, iMov (.t 340)⟩])
 (cSeq (cOps [⟨some 342, false, none, iCall (.c (.func (.func 5) [] [])) [(.c (.int .i64 (.lit 0))), (.c (.int .i64 (.lit 600))), (.c (.bool (.lit false)))]⟩,
 ⟨some 343, false, none, iBslice 31 [(.bool (.lit false)), (.int .i64 (.lit 0)), (.int .i64 (.lit 0)), (.bool (.lit false))] 1 [(0, 4, (.t 342))]⟩,
 ⟨some 344, false, none, iCall (.c (.func (.func 4) [] [])) [(.t 343)]⟩,
 ⟨some 345, false, none, iCall (.c (.func (.func 8) [] [])) [(.t 344)]⟩,
 ⟨some 341, false, none, iMov (.t 345)⟩,
 ⟨some 346, false, none, iExtract 0 (.t 341)⟩,
 ⟨some 347, false, none, iExtract 1 (.t 341)⟩,
 ⟨some 47, true, none, iMov (.t 346)⟩,
 ⟨some 32, true, none, iMov (.t 347)⟩])
 (cSeq (cOps [⟨some 349, false, none, iCall (.c (.func (.func 5) [] [])) [(.c (.int .i64 (.lit 0))), (.c (.int .i64 (.lit 600))), (.c (.bool (.lit false)))]⟩,
 ⟨some 350, false, none, iBslice 31 [(.bool (.lit false)), (.int .i64 (.lit 0)), (.int .i64 (.lit 0)), (.bool (.lit false))] 1 [(0, 4, (.t 349))]⟩,
 ⟨some 351, false, none, iCall (.c (.func (.func 4) [] [])) [(.t 350)]⟩,
 ⟨some 352, false, none, iCall (.c (.func (.func 10) [] [])) [(.t 351), (.c (.int .i64 (.lit 620)))]⟩,
 ⟨some 348, false, none, iMov (.t 352)⟩,
 ⟨some 353, false, none, iExtract 0 (.t 348)⟩,
 ⟨some 354, false, none, iExtract 1 (.t 348)⟩,
 ⟨some 355, false, none, iExtract 2 (.t 348)⟩,
 ⟨some 48, true, none, iMov (.t 353)⟩,
 ⟨some 49, true, none, iMov (.t 354)⟩,
 ⟨some 35, true, none, iMov (.t 355)⟩])
 (cSeq (cOps [⟨some 357, false, none, iCall (.c (.func (.func 16) [] [])) [(.c .nilslice)]⟩,
 ⟨some 358, false, none, iCall (.c (.func (.func 4) [] [])) [(.t 357)]⟩,
 ⟨some 359, false, none, iCall (.c (.func (.func 10) [] [])) [(.t 358), (.c (.int .i64 (.lit 700)))]⟩,
 ⟨some 356, false, none, iMov (.t 359)⟩,
 ⟨some 360, false, none, iExtract 0 (.t 356)⟩,
 ⟨some 361, false, none, iExtract 1 (.t 356)⟩,
 ⟨some 362, false, none, iExtract 2 (.t 356)⟩,
 ⟨some 50, true, none, iMov (.t 360)⟩,
 ⟨some 51, true, none, iMov (.t 361)⟩,
 ⟨some 37, true, none, iMov (.t 362)⟩])
 (cSeq (cOps [⟨some 364, false, none, iCall (.c (.func (.func 16) [] [])) [(.c .nilslice)]⟩,
 ⟨some 365, false, none, iCall (.c (.func (.func 4) [] [])) [(.t 364)]⟩,
 ⟨some 366, false, none, iCall (.c (.func (.func 11) [] [])) [(.t 365), (.c (.int .i64 (.lit 2)))]⟩,
 ⟨some 363, false, none, iMov (.t 366)⟩,
 ⟨some 367, false, none, iExtract 0 (.t 363)⟩,
 ⟨some 368, false, none, iExtract 1 (.t 363)⟩,
 ⟨some 52, true, none, iAlloc 46 [(.int .i64 (.lit 0)), (.int .i64 (.lit 0))]⟩,
 ⟨none, false, none, iStore 2 (.t 52) (.t 367)⟩,
 ⟨some 39, true, none, iMov (.t 368)⟩])
 (cSeq (cOps [⟨some 370, false, none, iCall (.c (.func (.func 4) [] [])) [(.c .nilslice)]⟩,
 ⟨some 371, false, none, iCall (.c (.func (.func 9) [] [])) [(.t 370)]⟩,
 ⟨some 369, false, none, iMov (.t 371)⟩,
 ⟨some 372, false, none, iExtract 0 (.t 369)⟩,
 ⟨some 373, false, none, iExtract 1 (.t 369)⟩,
 ⟨some 53, true, none, iMov (.t 372)⟩,
 ⟨some 41, true, none, iMov (.t 373)⟩])
 (cSeq (cOps [⟨some 375, false, none, iCall (.c (.func (.func 16) [] [])) [(.c .nilslice)]⟩,
 ⟨some 376, false, none, iCall (.c (.func (.func 4) [] [])) [(.t 375)]⟩,
 ⟨some 377, false, none, iCall (.c (.func (.func 15) [] [])) [(.c (.int .i64 (.lit 2))), (.c (.int .i64 (.lit 0))), (.c (.int .i64 (.lit 1)))]⟩,
 ⟨some 378, false, none, iBslice 54 [(.int .i64 (.lit 0)), (.int .i64 (.lit 0)), (.int .i64 (.lit 0))] 1 [(0, 3, (.t 377))]⟩,
 ⟨some 379, false, none, iCall (.c (.func (.func 7) [] [])) [(.t 376), (.t 378)]⟩,
 ⟨some 374, false, none, iMov (.t 379)⟩,
 ⟨some 380, false, none, iExtract 0 (.t 374)⟩,
 ⟨some 381, false, none, iExtract 1 (.t 374)⟩,
 ⟨some 54, true, none, iMov (.t 380)⟩,
 ⟨some 43, true, none, iMov (.t 381)⟩])
 (cSeq (dOps 0 [⟨⟨some 382, false, none, iMov (.t 25)⟩, [25], false, 0, 0, none, []⟩,
 ⟨⟨some 383, false, none, iCmp .eql (.t 382) (.c (.int .i64 (.lit 0)))⟩, [382], false, 0, 0, none, []⟩,
 ⟨⟨some 384, false, none, iMov (.t 383)⟩, [383], false, 0, 0, none, []⟩,
 ⟨⟨some 385, false, some (384, true), iMov (.t 44)⟩, [384, 44], false, 0, 1, none, []⟩,
 ⟨⟨some 386, false, some (384, true), iBslice 3 [(.int .i64 (.lit 0))] 1 [(0, 1, (.c (.int .i64 (.lit 0))))]⟩, [384], true, 0, 0, none, []⟩,
 ⟨⟨some 387, false, some (384, true), iCall (.c (.func (.func 17) [] [])) [(.t 385), (.t 386)]⟩, [384, 385, 386], true, 1, 0, none, []⟩,
 ⟨⟨some 388, false, none, iPick (.t 384) (.t 387) (.c (.bool (.lit false)))⟩, [384, 387], false, 2, 2, none, []⟩,
 ⟨⟨some 389, false, none, iMov (.t 388)⟩, [388], false, 2, 2, none, []⟩,
 ⟨⟨some 390, false, some (389, true), iMov (.t 28)⟩, [389, 28], false, 2, 2, none, []⟩,
 ⟨⟨some 391, false, some (389, true), iCmp .eql (.t 390) (.c (.int .i64 (.lit 4)))⟩, [389, 390], false, 2, 2, none, []⟩,
 ⟨⟨some 392, false, none, iPick (.t 389) (.t 391) (.c (.bool (.lit false)))⟩, [389, 391], false, 2, 2, none, []⟩,
 ⟨⟨some 393, false, none, iMov (.t 392)⟩, [392], false, 2, 2, none, []⟩,
 ⟨⟨some 394, false, some (393, true), iMov (.t 30)⟩, [393, 30], false, 2, 2, none, []⟩,
 ⟨⟨some 395, false, some (393, true), iCmp .eql (.t 394) (.c (.int .i64 (.lit 0)))⟩, [393, 394], false, 2, 2, none, []⟩,
 ⟨⟨some 396, false, none, iPick (.t 393) (.t 395) (.c (.bool (.lit false)))⟩, [393, 395], false, 2, 2, none, []⟩,
 ⟨⟨some 397, false, none, iMov (.t 396)⟩, [396], false, 2, 2, none, []⟩,
 ⟨⟨some 398, false, some (397, true), iMov (.t 46)⟩, [397, 46], false, 2, 2, none, []⟩,
 ⟨⟨some 399, false, some (397, true), iCmp .eql (.t 398) (.c (.int .i64 (.lit 6)))⟩, [397, 398], false, 2, 2, none, []⟩,
 ⟨⟨some 400, false, none, iPick (.t 397) (.t 399) (.c (.bool (.lit false)))⟩, [397, 399], false, 2, 2, none, []⟩,
 ⟨⟨some 401, false, none, iMov (.t 400)⟩, [400], false, 2, 2, none, []⟩,
 ⟨⟨some 402, false, some (401, true), iMov (.t 32)⟩, [401, 32], false, 2, 2, none, []⟩,
 ⟨⟨some 403, false, some (401, true), iCmp .eql (.t 402) (.c (.int .i64 (.lit 0)))⟩, [401, 402], false, 2, 2, none, []⟩,
 ⟨⟨some 404, false, none, iPick (.t 401) (.t 403) (.c (.bool (.lit false)))⟩, [401, 403], false, 2, 2, none, []⟩,
 ⟨⟨some 405, false, none, iMov (.t 404)⟩, [404], false, 2, 2, none, []⟩,
 ⟨⟨some 406, false, some (405, true), iMov (.t 47)⟩, [405, 47], false, 2, 2, none, []⟩,
 ⟨⟨some 407, false, some (405, true), iCmp .eql (.t 406) (.c (.int .i64 (.lit 3)))⟩, [405, 406], false, 2, 2, none, []⟩,
 ⟨⟨some 408, false, none, iPick (.t 405) (.t 407) (.c (.bool (.lit false)))⟩, [405, 407], false, 2, 2, none, []⟩,
 ⟨⟨some 409, false, none, iMov (.t 408)⟩, [408], false, 2, 2, none, []⟩,
 ⟨⟨some 410, false, some (409, true), iMov (.t 35)⟩, [409, 35], false, 2, 2, none, []⟩,
 ⟨⟨some 411, false, some (409, true), iCmp .eql (.t 410) (.c (.int .i64 (.lit 0)))⟩, [409, 410], false, 2, 2, none, []⟩,
 ⟨⟨some 412, false, none, iPick (.t 409) (.t 411) (.c (.bool (.lit false)))⟩, [409, 411], false, 2, 2, none, []⟩,
 ⟨⟨some 413, false, none, iMov (.t 412)⟩, [412], false, 2, 2, none, []⟩,
 ⟨⟨some 414, false, some (413, true), iMov (.t 48)⟩, [413, 48], false, 2, 3, none, []⟩,
 ⟨⟨some 415, false, some (413, true), iBslice 3 [(.int .i64 (.lit 0))] 1 [(0, 1, (.c (.int .i64 (.lit 1))))]⟩, [413], true, 2, 0, none, []⟩,
 ⟨⟨some 416, false, some (413, true), iCall (.c (.func (.func 17) [] [])) [(.t 414), (.t 415)]⟩, [413, 414, 415], true, 3, 0, none, []⟩,
 ⟨⟨some 417, false, none, iPick (.t 413) (.t 416) (.c (.bool (.lit false)))⟩, [413, 416], false, 4, 4, none, []⟩,
 ⟨⟨some 418, false, none, iMov (.t 417)⟩, [417], false, 4, 4, none, []⟩,
 ⟨⟨some 419, false, some (418, true), iMov (.t 49)⟩, [418, 49], false, 4, 5, none, []⟩,
 ⟨⟨some 420, false, some (418, true), iBslice 3 [(.int .i64 (.lit 0))] 2 [(0, 1, (.c (.int .i64 (.lit 0)))), (1, 1, (.c (.int .i64 (.lit 1))))]⟩, [418], true, 4, 0, none, []⟩,
 ⟨⟨some 421, false, some (418, true), iCall (.c (.func (.func 17) [] [])) [(.t 419), (.t 420)]⟩, [418, 419, 420], true, 5, 0, none, []⟩,
 ⟨⟨some 422, false, none, iPick (.t 418) (.t 421) (.c (.bool (.lit false)))⟩, [418, 421], false, 6, 6, none, []⟩,
 ⟨⟨some 423, false, none, iMov (.t 422)⟩, [422], false, 6, 6, none, []⟩,
 ⟨⟨some 424, false, some (423, true), iMov (.t 37)⟩, [423, 37], false, 6, 6, none, []⟩,
 ⟨⟨some 425, false, some (423, true), iCmp .eql (.t 424) (.c (.int .i64 (.lit 0)))⟩, [423, 424], false, 6, 6, none, []⟩,
 ⟨⟨some 426, false, none, iPick (.t 423) (.t 425) (.c (.bool (.lit false)))⟩, [423, 425], false, 6, 6, none, []⟩,
 ⟨⟨some 427, false, none, iMov (.t 426)⟩, [426], false, 6, 6, none, []⟩,
 ⟨⟨some 428, false, some (427, true), iMov (.t 50)⟩, [427, 50], false, 6, 7, none, []⟩,
 ⟨⟨some 429, false, some (427, true), iBslice 3 [(.int .i64 (.lit 0))] 2 [(0, 1, (.c (.int .i64 (.lit 1)))), (1, 1, (.c (.int .i64 (.lit 2))))]⟩, [427], true, 6, 0, none, []⟩,
 ⟨⟨some 430, false, some (427, true), iCall (.c (.func (.func 17) [] [])) [(.t 428), (.t 429)]⟩, [427, 428, 429], true, 7, 0, none, []⟩,
 ⟨⟨some 431, false, none, iPick (.t 427) (.t 430) (.c (.bool (.lit false)))⟩, [427, 430], false, 8, 8, none, []⟩,
 ⟨⟨some 432, false, none, iMov (.t 431)⟩, [431], false, 8, 8, none, []⟩,
 ⟨⟨some 433, false, some (432, true), iMov (.t 51)⟩, [432, 51], false, 8, 8, none, []⟩,
 ⟨⟨some 434, false, some (432, true), iLenS (.t 433)⟩, [432, 433], false, 8, 8, none, []⟩,
 ⟨⟨some 435, false, some (432, true), iCmp .eql (.t 434) (.c (.int .i64 (.lit 0)))⟩, [432, 434], false, 8, 8, none, []⟩,
 ⟨⟨some 436, false, none, iPick (.t 432) (.t 435) (.c (.bool (.lit false)))⟩, [432, 435], false, 8, 8, none, []⟩,
 ⟨⟨some 437, false, none, iMov (.t 436)⟩, [436], false, 8, 8, none, []⟩,
 ⟨⟨some 438, false, some (437, true), iMov (.t 39)⟩, [437, 39], false, 8, 8, none, []⟩,
 ⟨⟨some 439, false, some (437, true), iCmp .eql (.t 438) (.c (.int .i64 (.lit 0)))⟩, [437, 438], false, 8, 8, none, []⟩,
 ⟨⟨some 440, false, none, iPick (.t 437) (.t 439) (.c (.bool (.lit false)))⟩, [437, 439], false, 8, 8, none, []⟩,
 ⟨⟨some 441, false, none, iMov (.t 440)⟩, [440], false, 8, 8, none, []⟩,
 ⟨⟨some 442, false, some (441, true), iLoadN 2 (.t 52)⟩, [441, 52], false, 8, 9, none, []⟩,
 ⟨⟨some 443, false, some (441, true), iCall (.c (.func (.func 18) [] [])) [(.c (.int .i64 (.lit 0))), (.c (.int .i64 (.lit 60)))]⟩, [441], true, 8, 0, none, []⟩,
 ⟨⟨some 444, false, some (441, true), iEq false true 2 [(0, .int), (1, .int)] (.t 442) (.t 443)⟩, [441, 442, 443], false, 9, 9, none, []⟩,
 ⟨⟨some 445, false, none, iPick (.t 441) (.t 444) (.c (.bool (.lit false)))⟩, [441, 444], false, 9, 9, none, []⟩,
 ⟨⟨some 446, false, none, iMov (.t 445)⟩, [445], false, 9, 9, none, []⟩,
 ⟨⟨some 447, false, some (446, true), iMov (.t 41)⟩, [446, 41], false, 9, 9, none, []⟩,
 ⟨⟨some 448, false, some (446, true), iCmp .eql (.t 447) (.c (.int .i64 (.lit 0)))⟩, [446, 447], false, 9, 9, none, []⟩,
 ⟨⟨some 449, false, none, iPick (.t 446) (.t 448) (.c (.bool (.lit false)))⟩, [446, 448], false, 9, 9, none, []⟩,
 ⟨⟨some 450, false, none, iMov (.t 449)⟩, [449], false, 9, 9, none, []⟩,
 ⟨⟨some 451, false, some (450, true), iMov (.t 53)⟩, [450, 53], false, 9, 9, none, []⟩,
 ⟨⟨some 452, false, some (450, true), iLenS (.t 451)⟩, [450, 451], false, 9, 9, none, []⟩,
 ⟨⟨some 453, false, some (450, true), iCmp .eql (.t 452) (.c (.int .i64 (.lit 0)))⟩, [450, 452], false, 9, 9, none, []⟩,
 ⟨⟨some 454, false, none, iPick (.t 450) (.t 453) (.c (.bool (.lit false)))⟩, [450, 453], false, 9, 9, none, []⟩,
 ⟨⟨some 455, false, none, iMov (.t 454)⟩, [454], false, 9, 9, none, []⟩,
 ⟨⟨some 456, false, some (455, true), iMov (.t 43)⟩, [455, 43], false, 9, 9, none, []⟩,
 ⟨⟨some 457, false, some (455, true), iCmp .eql (.t 456) (.c (.int .i64 (.lit 0)))⟩, [455, 456], false, 9, 9, none, []⟩,
 ⟨⟨some 458, false, none, iPick (.t 455) (.t 457) (.c (.bool (.lit false)))⟩, [455, 457], false, 9, 9, none, []⟩,
 ⟨⟨some 459, false, none, iMov (.t 458)⟩, [458], false, 9, 9, none, []⟩,
 ⟨⟨some 460, false, some (459, true), iMov (.t 54)⟩, [459, 54], false, 9, 9, none, []⟩,
 ⟨⟨some 461, false, some (459, true), iNot (.t 460)⟩, [459, 460], false, 9, 9, none, []⟩,
 ⟨⟨some 462, false, none, iPick (.t 459) (.t 461) (.c (.bool (.lit false)))⟩, [459, 461], false, 9, 9, none, []⟩,
 ⟨⟨some 463, false, none, iMov (.t 462)⟩, [462], false, 9, 9, none, []⟩,
 ⟨⟨some 464, false, none, iPick (.t 463) (.c (.bool (.lit true))) (.c (.bool (.lit false)))⟩, [463], false, 9, 9, none, []⟩,
 ⟨⟨some 465, false, none, iMov (.t 464)⟩, [464], false, 9, 9, none, []⟩,
 ⟨⟨some 466, false, some (465, true), iCall (.c (.func (.func 19) [] [])) []⟩, [465], true, 9, 0, none, []⟩,
 ⟨⟨some 467, false, none, iPick (.t 465) (.t 466) (.c (.bool (.lit false)))⟩, [465, 466], false, 10, 10, none, []⟩,
 ⟨⟨some 0, true, none, iMov (.t 467)⟩, [467], false, 10, 10, none, []⟩])
 cRet))))))))))))))))))))))))))))))), [.t 0]⟩
noncomputable def Tryd.kp4 : List Nat := [0, 2]
noncomputable def Tryd.cf4 : CF := ⟨1, (cSeq (cOps [⟨some 2, true, none, iAlloc 28 [.nilslice, .nilslice, (.int .i64 (.lit 0)), (.int .i64 (.lit 0)), (.int .i64 (.lit 0)), (.int .i64 (.lit 0)), .nilslice]⟩])
 (cSeq (cOps [⟨some 3, false, none, iCall (.c (.func (.func 20) [] [])) []⟩,
 ⟨some 4, false, none, iMov (.t 0)⟩,
 ⟨some 5, false, none, iBuild [.nilslice, .nilslice, (.int .i64 (.lit 0)), (.int .i64 (.lit 0)), (.int .i64 (.lit 0)), (.int .i64 (.lit 0)), .nilslice] [(0, 3, (.t 3)), (4, 1, (.c (.int .i64 (.lit 480)))), (5, 1, (.c (.int .i64 (.lit 2)))), (6, 1, (.t 4))]⟩,
 ⟨none, false, none, iStore 7 (.t 2) (.t 5)⟩])
 cRet)), [.cell 2 true 7]⟩
noncomputable def Tryd.kp5 : List Nat := [0, 1, 2, 6]
noncomputable def Tryd.cf5 : CF := ⟨3, (cSeq (cOps [⟨some 6, true, none, iAlloc 31 [(.bool (.lit false)), (.int .i64 (.lit 0)), (.int .i64 (.lit 0)), (.bool (.lit false))]⟩])
 (cSeq (cOps [⟨some 7, false, none, iMov (.t 0)⟩,
 ⟨some 8, false, none, iMov (.t 1)⟩,
 ⟨some 9, false, none, iMov (.t 2)⟩,
 ⟨some 10, false, none, iBuild [(.bool (.lit false)), (.int .i64 (.lit 0)), (.int .i64 (.lit 0)), (.bool (.lit false))] [(1, 1, (.t 7)), (2, 1, (.t 8)), (3, 1, (.t 9))]⟩,
 ⟨none, false, none, iStore 4 (.t 6) (.t 10)⟩])
 cRet)), [.cell 6 true 4]⟩
noncomputable def Tryd.kp6 : List Nat := [0, 1, 2, 6]
noncomputable def Tryd.cf6 : CF := ⟨3, (cSeq (cOps [⟨some 6, true, none, iAlloc 31 [(.bool (.lit false)), (.int .i64 (.lit 0)), (.int .i64 (.lit 0)), (.bool (.lit false))]⟩])
 (cSeq (cOps [⟨some 7, false, none, iMov (.t 0)⟩,
 ⟨some 8, false, none, iMov (.t 1)⟩,
 ⟨some 9, false, none, iMov (.t 2)⟩,
 ⟨some 10, false, none, iBuild [(.bool (.lit false)), (.int .i64 (.lit 0)), (.int .i64 (.lit 0)), (.bool (.lit false))] [(0, 1, (.c (.bool (.lit true)))), (1, 1, (.t 7)), (2, 1, (.t 8)), (3, 1, (.t 9))]⟩,
 ⟨none, false, none, iStore 4 (.t 6) (.t 10)⟩])
 cRet)), [.cell 6 true 4]⟩
noncomputable def Tryd.kp7 : List Nat := [0, 1, 2, 4, 5, 6, 7, 14, 19]
noncomputable def Tryd.cf7 : CF := ⟨2, (cSeq (cOps [⟨some 2, true, none, iBox 28 (.t 0)⟩,
 ⟨some 4, true, none, iMov (.c (.bool (.lit false)))⟩,
 ⟨some 5, true, none, iMov (.c (.int .i64 (.lit 0)))⟩])
 (cSeq (cOps [⟨some 9, false, none, iLoadN 7 (.t 2)⟩,
 ⟨some 10, false, none, iCall (.c (.func (.func 21) [] [])) [(.t 9), (.c .nilslice)]⟩,
 ⟨some 8, false, none, iMov (.t 10)⟩,
 ⟨some 11, false, none, iExtract 0 (.t 8)⟩,
 ⟨some 12, false, none, iExtract 1 (.t 8)⟩,
 ⟨some 6, true, none, iAlloc 66 [.nilslice, .nilslice, (.int .i64 (.lit 0)), (.int .i64 (.lit 0)), (.int .i64 (.lit 0)), (.int .i64 (.lit 0)), .nilslice, .nilslice, .nilslice, .nilmap, .nilmap]⟩,
 ⟨none, false, none, iStore 11 (.t 6) (.t 11)⟩,
 ⟨some 7, true, none, iMov (.t 12)⟩])
 (cSeq (cSeq (cOps [⟨some 13, false, none, iMov (.t 7)⟩,
 ⟨some 14, true, none, iCmp .neq (.t 13) (.c (.int .i64 (.lit 0)))⟩])
 (cCond (.t 14) (cSeq (cOps [⟨some 15, false, none, iMov (.t 7)⟩,
 ⟨some 4, true, none, iMov (.c (.bool (.lit false)))⟩,
 ⟨some 5, true, none, iMov (.t 15)⟩])
 cRet) cSkip))
 (cSeq (cSeq (cOps [⟨some 16, false, none, iLoadN 11 (.t 6)⟩,
 ⟨some 17, false, none, iMov (.t 1)⟩,
 ⟨some 18, false, none, iCall (.c (.func (.func 22) [] [])) [(.t 16), (.t 17)]⟩,
 ⟨some 19, true, none, iNot (.t 18)⟩])
 (cCond (.t 19) (cSeq (cOps [⟨some 4, true, none, iMov (.c (.bool (.lit false)))⟩,
 ⟨some 5, true, none, iMov (.c (.int .i64 (.lit 101)))⟩])
 cRet) cSkip))
 (cSeq (cOps [⟨some 20, false, none, iLoadN 11 (.t 6)⟩,
 ⟨some 21, false, none, iMov (.t 1)⟩,
 ⟨some 22, false, none, iCall (.c (.func (.func 23) [] [])) [(.t 20), (.t 21)]⟩,
 ⟨some 4, true, none, iMov (.t 22)⟩,
 ⟨some 5, true, none, iMov (.c (.int .i64 (.lit 0)))⟩])
 cRet))))), [.t 4, .t 5]⟩
noncomputable def Tryd.kp8 : List Nat := [0, 1, 2, 3, 4, 5, 12]
noncomputable def Tryd.cf8 : CF := ⟨1, (cSeq (cOps [⟨some 1, true, none, iBox 28 (.t 0)⟩,
 ⟨some 2, true, none, iMov (.c (.int .i64 (.lit 0)))⟩,
 ⟨some 3, true, none, iMov (.c (.int .i64 (.lit 0)))⟩])
 (cSeq (cOps [⟨some 7, false, none, iLoadN 7 (.t 1)⟩,
 ⟨some 8, false, none, iCall (.c (.func (.func 21) [] [])) [(.t 7), (.c .nilslice)]⟩,
 ⟨some 6, false, none, iMov (.t 8)⟩,
 ⟨some 9, false, none, iExtract 0 (.t 6)⟩,
 ⟨some 10, false, none, iExtract 1 (.t 6)⟩,
 ⟨some 4, true, none, iAlloc 66 [.nilslice, .nilslice, (.int .i64 (.lit 0)), (.int .i64 (.lit 0)), (.int .i64 (.lit 0)), (.int .i64 (.lit 0)), .nilslice, .nilslice, .nilslice, .nilmap, .nilmap]⟩,
 ⟨none, false, none, iStore 11 (.t 4) (.t 9)⟩,
 ⟨some 5, true, none, iMov (.t 10)⟩])
 (cSeq (cSeq (cOps [⟨some 11, false, none, iMov (.t 5)⟩,
 ⟨some 12, true, none, iCmp .neq (.t 11) (.c (.int .i64 (.lit 0)))⟩])
 (cCond (.t 12) (cSeq (cOps [⟨some 13, false, none, iMov (.t 5)⟩,
 ⟨some 2, true, none, iMov (.c (.int .i64 (.lit 0)))⟩,
 ⟨some 3, true, none, iMov (.t 13)⟩])
 cRet) cSkip))
 (cSeq (cOps [⟨some 14, false, none, iLoadN 11 (.t 4)⟩,
 ⟨some 15, false, none, iCall (.c (.func (.func 25) [] [])) [(.t 14)]⟩,
 ⟨some 16, false, none, iCall (.c (.func (.func 24) [] [])) [(.t 15)]⟩,
 ⟨some 2, true, none, iMov (.t 16)⟩,
 ⟨some 3, true, none, iMov (.c (.int .i64 (.lit 0)))⟩])
 cRet)))), [.t 2, .t 3]⟩
noncomputable def Tryd.kp9 : List Nat := [0, 1, 2, 3, 4, 5, 6, 7, 14, 24]
noncomputable def Tryd.cf9 : CF := ⟨1, (cSeq (cOps [⟨some 1, true, none, iBox 28 (.t 0)⟩,
 ⟨some 2, true, none, iMov (.c .nilslice)⟩,
 ⟨some 3, true, none, iMov (.c (.int .i64 (.lit 0)))⟩])
 (cSeq (cOps [⟨some 9, false, none, iLoadN 7 (.t 1)⟩,
 ⟨some 10, false, none, iCall (.c (.func (.func 21) [] [])) [(.t 9), (.c .nilslice)]⟩,
 ⟨some 8, false, none, iMov (.t 10)⟩,
 ⟨some 11, false, none, iExtract 0 (.t 8)⟩,
 ⟨some 12, false, none, iExtract 1 (.t 8)⟩,
 ⟨some 4, true, none, iAlloc 66 [.nilslice, .nilslice, (.int .i64 (.lit 0)), (.int .i64 (.lit 0)), (.int .i64 (.lit 0)), (.int .i64 (.lit 0)), .nilslice, .nilslice, .nilslice, .nilmap, .nilmap]⟩,
 ⟨none, false, none, iStore 11 (.t 4) (.t 11)⟩,
 ⟨some 5, true, none, iMov (.t 12)⟩])
 (cSeq (cSeq (cOps [⟨some 13, false, none, iMov (.t 5)⟩,
 ⟨some 14, true, none, iCmp .neq (.t 13) (.c (.int .i64 (.lit 0)))⟩])
 (cCond (.t 14) (cSeq (cOps [⟨some 15, false, none, iMov (.t 5)⟩,
 ⟨some 2, true, none, iMov (.c .nilslice)⟩,
 ⟨some 3, true, none, iMov (.t 15)⟩])
 cRet) cSkip))
 (cSeq (cOps [⟨some 17, false, none, iBuild [.nilFunc] [(0, 1, (.c (.func (.func 26) [] [])))]⟩,
 ⟨some 18, false, none, iLoadN 11 (.t 4)⟩,
 ⟨some 19, false, none, iCall (.c (.func (.func 25) [] [])) [(.t 18)]⟩,
 ⟨some 20, false, none, iCall (.c (.func (.func 27) [] [])) [(.t 17), (.t 19)]⟩,
 ⟨some 16, false, none, iMov (.t 20)⟩,
 ⟨some 21, false, none, iExtract 0 (.t 16)⟩,
 ⟨some 22, false, none, iExtract 1 (.t 16)⟩,
 ⟨some 6, true, none, iMov (.t 21)⟩,
 ⟨some 7, true, none, iMov (.t 22)⟩])
 (cSeq (cSeq (cOps [⟨some 23, false, none, iMov (.t 7)⟩,
 ⟨some 24, true, none, iNot (.t 23)⟩])
 (cCond (.t 24) (cSeq (cOps [⟨some 2, true, none, iMov (.c .nilslice)⟩,
 ⟨some 3, true, none, iMov (.c (.int .i64 (.lit 102)))⟩])
 cRet) cSkip))
 (cSeq (cOps [⟨some 25, false, none, iMov (.t 6)⟩,
 ⟨some 2, true, none, iMov (.t 25)⟩,
 ⟨some 3, true, none, iMov (.c (.int .i64 (.lit 0)))⟩])
 cRet)))))), [.t 2, .t 3]⟩
noncomputable def Tryd.kp10 : List Nat := [0, 1, 2, 4, 5, 6, 7, 8, 17, 24]
noncomputable def Tryd.cf10 : CF := ⟨2, (cSeq (cOps [⟨some 2, true, none, iBox 28 (.t 0)⟩,
 ⟨some 4, true, none, iMov (.c .nilslice)⟩,
 ⟨some 5, true, none, iMov (.c .nilslice)⟩,
 ⟨some 6, true, none, iMov (.c (.int .i64 (.lit 0)))⟩])
 (cSeq (cOps [⟨some 10, false, none, iLoadN 7 (.t 2)⟩,
 ⟨some 11, false, none, iMov (.t 1)⟩,
 ⟨some 12, false, none, iBslice 3 [(.int .i64 (.lit 0))] 1 [(0, 1, (.t 11))]⟩,
 ⟨some 13, false, none, iCall (.c (.func (.func 21) [] [])) [(.t 10), (.t 12)]⟩,
 ⟨some 9, false, none, iMov (.t 13)⟩,
 ⟨some 14, false, none, iExtract 0 (.t 9)⟩,
 ⟨some 15, false, none, iExtract 1 (.t 9)⟩,
 ⟨some 7, true, none, iAlloc 66 [.nilslice, .nilslice, (.int .i64 (.lit 0)), (.int .i64 (.lit 0)), (.int .i64 (.lit 0)), (.int .i64 (.lit 0)), .nilslice, .nilslice, .nilslice, .nilmap, .nilmap]⟩,
 ⟨none, false, none, iStore 11 (.t 7) (.t 14)⟩,
 ⟨some 6, true, none, iMov (.t 15)⟩])
 (cSeq (cSeq (cOps [⟨some 16, false, none, iMov (.t 6)⟩,
 ⟨some 17, true, none, iCmp .neq (.t 16) (.c (.int .i64 (.lit 0)))⟩])
 (cCond (.t 17) (cSeq (cOps [⟨some 18, false, none, iMov (.t 6)⟩,
 ⟨some 4, true, none, iMov (.c .nilslice)⟩,
 ⟨some 5, true, none, iMov (.c .nilslice)⟩,
 ⟨some 6, true, none, iMov (.t 18)⟩])
 cRet) cSkip))
 (cSeq (cOps [⟨some 19, false, none, iLoadN 11 (.t 7)⟩,
 ⟨some 20, false, none, iCall (.c (.func (.func 29) [] [])) [(.t 19)]⟩,
 ⟨some 21, false, none, iCall (.c (.func (.func 28) [] [])) [(.t 20)]⟩,
 ⟨some 8, true, none, iAlloc 80 [(.bool (.lit false)), (.bool (.lit false)), (.bool (.lit false)), (.bool (.lit false)), (.bool (.lit false)), (.bool (.lit false)), (.bool (.lit false)), (.bool (.lit false)), (.bool (.lit false)), (.bool (.lit false)), (.bool (.lit false)), (.bool (.lit false))]⟩,
 ⟨none, false, none, iStore 12 (.t 8) (.t 21)⟩])
 (cSeq (cSeq (cOps [⟨some 22, false, none, iLoadN 12 (.t 8)⟩,
 ⟨some 23, false, none, iBuild [(.bool (.lit false)), (.bool (.lit false)), (.bool (.lit false)), (.bool (.lit false)), (.bool (.lit false)), (.bool (.lit false)), (.bool (.lit false)), (.bool (.lit false)), (.bool (.lit false)), (.bool (.lit false)), (.bool (.lit false)), (.bool (.lit false))] []⟩,
 ⟨some 24, true, none, iEq false true 12 [(0, .bool), (1, .bool), (2, .bool), (3, .bool), (4, .bool), (5, .bool), (6, .bool), (7, .bool), (8, .bool), (9, .bool), (10, .bool), (11, .bool)] (.t 22) (.t 23)⟩])
 (cCond (.t 24) (cSeq (cOps [⟨some 4, true, none, iMov (.c .nilslice)⟩,
 ⟨some 5, true, none, iMov (.c .nilslice)⟩,
 ⟨some 6, true, none, iMov (.c (.int .i64 (.lit 102)))⟩])
 cRet) cSkip))
 (cSeq (dOps 0 [⟨⟨some 25, false, none, iLoadN 12 (.t 8)⟩, [8], false, 0, 0, none, []⟩,
 ⟨⟨some 26, false, none, iCall (.c (.func (.func 30) [] [])) [(.t 25)]⟩, [25], true, 0, 0, none, []⟩,
 ⟨⟨some 27, false, none, iLoadN 12 (.t 8)⟩, [8], false, 0, 1, none, []⟩,
 ⟨⟨some 28, false, none, iCall (.c (.func (.func 31) [] [])) [(.t 27)]⟩, [27], true, 1, 0, none, []⟩,
 ⟨⟨some 4, true, none, iMov (.t 26)⟩, [26], false, 2, 2, none, []⟩,
 ⟨⟨some 5, true, none, iMov (.t 28)⟩, [28], false, 2, 2, none, []⟩,
 ⟨⟨some 6, true, none, iMov (.c (.int .i64 (.lit 0)))⟩, [], false, 2, 2, none, []⟩])
 cRet)))))), [.t 4, .t 5, .t 6]⟩
noncomputable def Tryd.kp11 : List Nat := [0, 1, 2, 4, 5, 6, 7, 8, 9, 16, 26, 35]
noncomputable def Tryd.cf11 : CF := ⟨2, (cSeq (cOps [⟨some 2, true, none, iBox 28 (.t 0)⟩,
 ⟨some 4, true, none, iAlloc 46 [(.int .i64 (.lit 0)), (.int .i64 (.lit 0))]⟩,
 ⟨some 5, true, none, iMov (.c (.int .i64 (.lit 0)))⟩])
 (cSeq (cOps [⟨some 11, false, none, iLoadN 7 (.t 2)⟩,
 ⟨some 12, false, none, iCall (.c (.func (.func 21) [] [])) [(.t 11), (.c .nilslice)]⟩,
 ⟨some 10, false, none, iMov (.t 12)⟩,
 ⟨some 13, false, none, iExtract 0 (.t 10)⟩,
 ⟨some 14, false, none, iExtract 1 (.t 10)⟩,
 ⟨some 6, true, none, iAlloc 66 [.nilslice, .nilslice, (.int .i64 (.lit 0)), (.int .i64 (.lit 0)), (.int .i64 (.lit 0)), (.int .i64 (.lit 0)), .nilslice, .nilslice, .nilslice, .nilmap, .nilmap]⟩,
 ⟨none, false, none, iStore 11 (.t 6) (.t 13)⟩,
 ⟨some 7, true, none, iMov (.t 14)⟩])
 (cSeq (cSeq (cOps [⟨some 15, false, none, iMov (.t 7)⟩,
 ⟨some 16, true, none, iCmp .neq (.t 15) (.c (.int .i64 (.lit 0)))⟩])
 (cCond (.t 16) (cSeq (cOps [⟨some 17, false, none, iBuild [(.int .i64 (.lit 0)), (.int .i64 (.lit 0))] []⟩,
 ⟨some 18, false, none, iMov (.t 7)⟩,
 ⟨none, false, none, iStore 2 (.t 4) (.t 17)⟩,
 ⟨some 5, true, none, iMov (.t 18)⟩])
 cRet) cSkip))
 (cSeq (cSeq (cOps [⟨some 19, false, none, iMov (.t 1)⟩,
 ⟨some 20, false, none, iFaddr 0 (.t 6)⟩,
 ⟨some 21, false, none, iFaddr 0 (.t 20)⟩,
 ⟨some 22, false, none, iFaddr 1 (.t 21)⟩,
 ⟨some 23, false, none, iLoad (.t 22)⟩,
 ⟨some 24, false, none, iLenS (.t 23)⟩,
 ⟨some 25, false, none, iCall (.c (.func (.func 32) [] [])) [(.t 19), (.t 24)]⟩,
 ⟨some 26, true, none, iNot (.t 25)⟩])
 (cCond (.t 26) (cSeq (cOps [⟨some 27, false, none, iBuild [(.int .i64 (.lit 0)), (.int .i64 (.lit 0))] []⟩,
 ⟨none, false, none, iStore 2 (.t 4) (.t 27)⟩,
 ⟨some 5, true, none, iMov (.c (.int .i64 (.lit 101)))⟩])
 cRet) cSkip))
 (cSeq (cOps [⟨some 29, false, none, iLoadN 11 (.t 6)⟩,
 ⟨some 30, false, none, iMov (.t 1)⟩,
 ⟨some 31, false, none, iCall (.c (.func (.func 33) [] [])) [(.t 29), (.t 30)]⟩,
 ⟨some 28, false, none, iMov (.t 31)⟩,
 ⟨some 32, false, none, iExtract 0 (.t 28)⟩,
 ⟨some 33, false, none, iExtract 1 (.t 28)⟩,
 ⟨some 8, true, none, iAlloc 46 [(.int .i64 (.lit 0)), (.int .i64 (.lit 0))]⟩,
 ⟨none, false, none, iStore 2 (.t 8) (.t 32)⟩,
 ⟨some 9, true, none, iMov (.t 33)⟩])
 (cSeq (cSeq (cOps [⟨some 34, false, none, iMov (.t 9)⟩,
 ⟨some 35, true, none, iNot (.t 34)⟩])
 (cCond (.t 35) (cSeq (cOps [⟨some 36, false, none, iBuild [(.int .i64 (.lit 0)), (.int .i64 (.lit 0))] []⟩,
 ⟨none, false, none, iStore 2 (.t 4) (.t 36)⟩,
 ⟨some 5, true, none, iMov (.c (.int .i64 (.lit 102)))⟩])
 cRet) cSkip))
 (cSeq (cOps [⟨some 37, false, none, iLoadN 2 (.t 8)⟩,
 ⟨none, false, none, iStore 2 (.t 4) (.t 37)⟩,
 ⟨some 5, true, none, iMov (.c (.int .i64 (.lit 0)))⟩])
 cRet))))))), [.cell 4 true 2, .t 5]⟩
noncomputable def Tryd.kp12 : List Nat := [0, 1, 2, 3, 4, 5, 12]
noncomputable def Tryd.cf12 : CF := ⟨1, (cSeq (cOps [⟨some 1, true, none, iBox 28 (.t 0)⟩,
 ⟨some 2, true, none, iMov (.c .nilslice)⟩,
 ⟨some 3, true, none, iMov (.c (.int .i64 (.lit 0)))⟩])
 (cSeq (cOps [⟨some 7, false, none, iLoadN 7 (.t 1)⟩,
 ⟨some 8, false, none, iCall (.c (.func (.func 21) [] [])) [(.t 7), (.c .nilslice)]⟩,
 ⟨some 6, false, none, iMov (.t 8)⟩,
 ⟨some 9, false, none, iExtract 0 (.t 6)⟩,
 ⟨some 10, false, none, iExtract 1 (.t 6)⟩,
 ⟨some 4, true, none, iAlloc 66 [.nilslice, .nilslice, (.int .i64 (.lit 0)), (.int .i64 (.lit 0)), (.int .i64 (.lit 0)), (.int .i64 (.lit 0)), .nilslice, .nilslice, .nilslice, .nilmap, .nilmap]⟩,
 ⟨none, false, none, iStore 11 (.t 4) (.t 9)⟩,
 ⟨some 5, true, none, iMov (.t 10)⟩])
 (cSeq (cSeq (cOps [⟨some 11, false, none, iMov (.t 5)⟩,
 ⟨some 12, true, none, iCmp .neq (.t 11) (.c (.int .i64 (.lit 0)))⟩])
 (cCond (.t 12) (cSeq (cOps [⟨some 13, false, none, iMov (.t 5)⟩,
 ⟨some 2, true, none, iMov (.c .nilslice)⟩,
 ⟨some 3, true, none, iMov (.t 13)⟩])
 cRet) cSkip))
 (cSeq (cOps [⟨some 14, false, none, iLoadN 11 (.t 4)⟩,
 ⟨some 15, false, none, iCall (.c (.func (.func 34) [] [])) [(.t 14)]⟩,
 ⟨some 2, true, none, iMov (.t 15)⟩,
 ⟨some 3, true, none, iMov (.c (.int .i64 (.lit 0)))⟩])
 cRet)))), [.t 2, .t 3]⟩
noncomputable def Tryd.kp13 : List Nat := [0, 1, 2, 4, 5, 6, 7, 8, 17, 22, 23, 25]
noncomputable def Tryd.cf13 : CF := ⟨2, (cSeq (cOps [⟨some 2, true, none, iBox 28 (.t 0)⟩,
 ⟨some 4, true, none, iMov (.c (.int .i64 (.lit 0)))⟩,
 ⟨some 5, true, none, iMov (.c (.int .i64 (.lit 0)))⟩])
 (cSeq (cOps [⟨some 10, false, none, iLoadN 7 (.t 2)⟩,
 ⟨some 11, false, none, iMov (.t 1)⟩,
 ⟨some 12, false, none, iBslice 3 [(.int .i64 (.lit 0))] 1 [(0, 1, (.t 11))]⟩,
 ⟨some 13, false, none, iCall (.c (.func (.func 21) [] [])) [(.t 10), (.t 12)]⟩,
 ⟨some 9, false, none, iMov (.t 13)⟩,
 ⟨some 14, false, none, iExtract 0 (.t 9)⟩,
 ⟨some 15, false, none, iExtract 1 (.t 9)⟩,
 ⟨some 6, true, none, iAlloc 66 [.nilslice, .nilslice, (.int .i64 (.lit 0)), (.int .i64 (.lit 0)), (.int .i64 (.lit 0)), (.int .i64 (.lit 0)), .nilslice, .nilslice, .nilslice, .nilmap, .nilmap]⟩,
 ⟨none, false, none, iStore 11 (.t 6) (.t 14)⟩,
 ⟨some 7, true, none, iMov (.t 15)⟩])
 (cSeq (cSeq (cOps [⟨some 16, false, none, iMov (.t 7)⟩,
 ⟨some 17, true, none, iCmp .neq (.t 16) (.c (.int .i64 (.lit 0)))⟩])
 (cCond (.t 17) (cSeq (cOps [⟨some 18, false, none, iMov (.t 7)⟩,
 ⟨some 4, true, none, iMov (.c (.int .i64 (.lit 0)))⟩,
 ⟨some 5, true, none, iMov (.t 18)⟩])
 cRet) cSkip))
 (cSeq (cOps [⟨some 19, false, none, iLoadN 11 (.t 6)⟩,
 ⟨some 20, false, none, iCall (.c (.func (.func 29) [] [])) [(.t 19)]⟩,
 ⟨some 8, true, none, iMov (.t 20)⟩])
 (cSeq (cSeq (cOps [⟨some 21, false, none, iMov (.t 8)⟩,
 ⟨some 22, true, none, iLenS (.t 21)⟩])
 (cBlock 0 (cSeq (cOps [⟨some 24, false, none, iCmp .eql (.t 22) (.c (.int .i64 (.lit 0)))⟩,
 ⟨some 23, true, none, iMov (.t 24)⟩])
 (cCond (.t 23) (cSeq (cOps [⟨some 4, true, none, iMov (.c (.int .i64 (.lit 0)))⟩,
 ⟨some 5, true, none, iMov (.c (.int .i64 (.lit 102)))⟩])
 cRet) (cSeq (cOps [⟨some 26, false, none, iCmp .eql (.t 22) (.c (.int .i64 (.lit 1)))⟩,
 ⟨some 25, true, none, iMov (.t 26)⟩])
 (cCond (.t 25) (cSeq (cOps [⟨some 4, true, none, iMov (.c (.int .i64 (.lit 0)))⟩,
 ⟨some 5, true, none, iMov (.c (.int .i64 (.lit 4)))⟩])
 cRet) cSkip))))))
 (cSeq (cOps [⟨some 27, false, none, iLoadN 11 (.t 6)⟩,
 ⟨some 28, false, none, iMov (.t 8)⟩,
 ⟨some 29, false, none, iCall (.c (.func (.func 35) [] [])) [(.t 27), (.t 28)]⟩,
 ⟨some 4, true, none, iMov (.t 29)⟩,
 ⟨some 5, true, none, iMov (.c (.int .i64 (.lit 0)))⟩])
 cRet)))))), [.t 4, .t 5]⟩
noncomputable def Tryd.kp14 : List Nat := [0, 1, 2, 5]
noncomputable def Tryd.cf14 : CF := ⟨1, (cSeq (cOps [⟨some 1, true, none, iBox 28 (.t 0)⟩,
 ⟨some 2, true, none, iMov (.c (.int .i64 (.lit 0)))⟩])
 (cSeq (cSeq (cOps [⟨some 3, false, none, iLoadN 7 (.t 1)⟩,
 ⟨some 4, false, none, iCall (.c (.func (.func 36) [] [])) [(.t 3)]⟩,
 ⟨some 5, true, none, iNot (.t 4)⟩])
 (cCond (.t 5) (cSeq (cOps [⟨some 2, true, none, iMov (.c (.int .i64 (.lit 100)))⟩])
 cRet) cSkip))
 (cSeq (cOps [⟨some 2, true, none, iMov (.c (.int .i64 (.lit 0)))⟩])
 cRet))), [.t 2]⟩
noncomputable def Tryd.kp15 : List Nat := [0, 1, 2, 6]
noncomputable def Tryd.cf15 : CF := ⟨3, (cSeq (cOps [⟨some 6, true, none, iAlloc 54 [(.int .i64 (.lit 0)), (.int .i64 (.lit 0)), (.int .i64 (.lit 0))]⟩])
 (cSeq (cOps [⟨some 7, false, none, iMov (.t 0)⟩,
 ⟨some 8, false, none, iMov (.t 1)⟩,
 ⟨some 9, false, none, iMov (.t 2)⟩,
 ⟨some 10, false, none, iBuild [(.int .i64 (.lit 0)), (.int .i64 (.lit 0)), (.int .i64 (.lit 0))] [(0, 1, (.t 7)), (1, 1, (.t 8)), (2, 1, (.t 9))]⟩,
 ⟨none, false, none, iStore 3 (.t 6) (.t 10)⟩])
 cRet)), [.cell 6 true 3]⟩
noncomputable def Tryd.kp16 : List Nat := [0, 2]
noncomputable def Tryd.cf16 : CF := ⟨1, (cSeq (cOps [⟨some 2, true, none, iMov (.c .nilslice)⟩])
 (cSeq (cOps [⟨some 3, false, none, iCall (.c (.func (.func 5) [] [])) [(.c (.int .i64 (.lit 0))), (.c (.int .i64 (.lit 600))), (.c (.bool (.lit false)))]⟩,
 ⟨some 4, false, none, iCall (.c (.func (.func 6) [] [])) [(.c (.int .i64 (.lit 1))), (.c (.int .i64 (.lit 620))), (.c (.bool (.lit false)))]⟩,
 ⟨some 5, false, none, iBslice 31 [(.bool (.lit false)), (.int .i64 (.lit 0)), (.int .i64 (.lit 0)), (.bool (.lit false))] 2 [(0, 4, (.t 3)), (4, 4, (.t 4))]⟩,
 ⟨some 6, false, none, iMov (.t 0)⟩,
 ⟨some 7, false, none, iAppend 31 4 32 (.t 5) (.t 6)⟩,
 ⟨some 2, true, none, iMov (.t 7)⟩])
 cRet)), [.t 2]⟩
noncomputable def Tryd.kp17 : List Nat := [0, 1, 4, 5, 6, 18]
noncomputable def Tryd.cf17 : CF := ⟨2, (cSeq (cOps [⟨some 4, true, none, iMov (.c (.bool (.lit false)))⟩])
 (cSeq (cOps [⟨some 7, false, none, iMov (.t 0)⟩,
 ⟨some 8, false, none, iLenS (.t 7)⟩,
 ⟨some 9, false, none, iMov (.t 1)⟩,
 ⟨some 10, false, none, iLenS (.t 9)⟩,
 ⟨some 11, false, none, iCmp .eql (.t 8) (.t 10)⟩,
 ⟨some 5, true, none, iMov (.t 11)⟩])
 (cSeq (cSeq (cOps [⟨some 6, true, none, iMov (.c (.int .i64 (.lit 0)))⟩])
 (cBlock 0 (cLoop (cSeq (cSeq (cOps [⟨some 12, false, none, iMov (.t 5)⟩,
 ⟨some 13, false, none, iMov (.t 12)⟩,
 ⟨some 14, false, some (13, true), iMov (.t 6)⟩,
 ⟨some 15, false, some (13, true), iMov (.t 0)⟩,
 ⟨some 16, false, some (13, true), iLenS (.t 15)⟩,
 ⟨some 17, false, some (13, true), iCmp .lss (.t 14) (.t 16)⟩,
 ⟨some 18, true, none, iPick (.t 13) (.t 17) (.c (.bool (.lit false)))⟩])
 (cCond (.t 18) cSkip (cExit 0)))
 (cSeq (cBlock 1 (dOps 0 [⟨⟨some 21, false, none, iMov (.t 0)⟩, [0], false, 0, 0, none, []⟩,
 ⟨⟨some 22, false, none, iMov (.t 6)⟩, [6], false, 0, 0, none, []⟩,
 ⟨⟨some 23, false, none, iIaddr 1 (.t 21) (.t 22)⟩, [21, 22], false, 0, 0, none, []⟩,
 ⟨⟨some 24, false, none, iLoad (.t 23)⟩, [23], false, 0, 0, none, []⟩,
 ⟨⟨some 25, false, none, iMov (.t 1)⟩, [1], false, 0, 0, none, []⟩,
 ⟨⟨some 26, false, none, iMov (.t 6)⟩, [6], false, 0, 0, none, []⟩,
 ⟨⟨some 27, false, none, iIaddr 1 (.t 25) (.t 26)⟩, [25, 26], false, 0, 0, none, []⟩,
 ⟨⟨some 28, false, none, iLoad (.t 27)⟩, [27], false, 0, 0, none, []⟩,
 ⟨⟨some 29, false, none, iCmp .eql (.t 24) (.t 28)⟩, [24, 28], false, 0, 0, none, []⟩,
 ⟨⟨some 5, true, none, iMov (.t 29)⟩, [29], false, 0, 0, none, []⟩]))
 (cOps [⟨some 19, false, none, iMov (.t 6)⟩,
 ⟨some 20, false, none, iArith .add (.t 19) (.c (.int .i64 (.lit 1)))⟩,
 ⟨some 6, true, none, iMov (.t 20)⟩]))))))
 (cSeq (cOps [⟨some 30, false, none, iMov (.t 5)⟩,
 ⟨some 4, true, none, iMov (.t 30)⟩])
 cRet)))), [.t 4]⟩
noncomputable def Tryd.kp18 : List Nat := [0, 1, 4]
noncomputable def Tryd.cf18 : CF := ⟨2, (cSeq (cOps [⟨some 4, true, none, iAlloc 46 [(.int .i64 (.lit 0)), (.int .i64 (.lit 0))]⟩])
 (cSeq (cOps [⟨some 5, false, none, iMov (.t 0)⟩,
 ⟨some 6, false, none, iMov (.t 1)⟩,
 ⟨some 7, false, none, iBuild [(.int .i64 (.lit 0)), (.int .i64 (.lit 0))] [(0, 1, (.t 5)), (1, 1, (.t 6))]⟩,
 ⟨none, false, none, iStore 2 (.t 4) (.t 7)⟩])
 cRet)), [.cell 4 true 2]⟩
noncomputable def Tryd.kp19 : List Nat := [0, 1, 2, 3, 4, 5, 6, 7, 8, 9, 10, 11, 12, 80]
noncomputable def Tryd.cf19 : CF := ⟨0, (cSeq (cOps [⟨some 0, true, none, iMov (.c (.bool (.lit false)))⟩])
 (cSeq (cOps [⟨some 14, false, none, iCall (.c (.func (.func 16) [] [])) [(.c .nilslice)]⟩,
 ⟨some 15, false, none, iCall (.c (.func (.func 4) [] [])) [(.t 14)]⟩,
 ⟨some 16, false, none, iCall (.c (.func (.func 8) [] [])) [(.t 15)]⟩,
 ⟨some 13, false, none, iMov (.t 16)⟩,
 ⟨some 17, false, none, iExtract 0 (.t 13)⟩,
 ⟨some 18, false, none, iExtract 1 (.t 13)⟩,
 ⟨some 1, true, none, iMov (.t 17)⟩,
 ⟨some 2, true, none, iMov (.t 18)⟩])
 (cSeq (cOps [⟨some 20, false, none, iCall (.c (.func (.func 16) [] [])) [(.c .nilslice)]⟩,
 ⟨some 21, false, none, iCall (.c (.func (.func 4) [] [])) [(.t 20)]⟩,
 ⟨some 22, false, none, iCall (.c (.func (.func 15) [] [])) [(.c (.int .i64 (.lit 0))), (.c (.int .i64 (.lit 0))), (.c (.int .i64 (.lit 2)))]⟩,
 ⟨some 23, false, none, iBslice 54 [(.int .i64 (.lit 0)), (.int .i64 (.lit 0)), (.int .i64 (.lit 0))] 1 [(0, 3, (.t 22))]⟩,
 ⟨some 24, false, none, iCall (.c (.func (.func 7) [] [])) [(.t 21), (.t 23)]⟩,
 ⟨some 19, false, none, iMov (.t 24)⟩,
 ⟨some 25, false, none, iExtract 0 (.t 19)⟩,
 ⟨some 26, false, none, iExtract 1 (.t 19)⟩,
 ⟨some 3, true, none, iMov (.t 25)⟩,
 ⟨some 4, true, none, iMov (.t 26)⟩])
 (cSeq (cOps [⟨some 28, false, none, iCall (.c (.func (.func 16) [] [])) [(.c .nilslice)]⟩,
 ⟨some 29, false, none, iCall (.c (.func (.func 4) [] [])) [(.t 28)]⟩,
 ⟨some 30, false, none, iCall (.c (.func (.func 9) [] [])) [(.t 29)]⟩,
 ⟨some 27, false, none, iMov (.t 30)⟩,
 ⟨some 31, false, none, iExtract 0 (.t 27)⟩,
 ⟨some 32, false, none, iExtract 1 (.t 27)⟩,
 ⟨some 5, true, none, iMov (.t 31)⟩,
 ⟨some 6, true, none, iMov (.t 32)⟩])
 (cSeq (cOps [⟨some 34, false, none, iCall (.c (.func (.func 16) [] [])) [(.c .nilslice)]⟩,
 ⟨some 35, false, none, iCall (.c (.func (.func 4) [] [])) [(.t 34)]⟩,
 ⟨some 36, false, none, iCall (.c (.func (.func 10) [] [])) [(.t 35), (.c (.int .i64 (.lit 570)))]⟩,
 ⟨some 33, false, none, iMov (.t 36)⟩,
 ⟨some 37, false, none, iExtract 0 (.t 33)⟩,
 ⟨some 38, false, none, iExtract 1 (.t 33)⟩,
 ⟨some 39, false, none, iExtract 2 (.t 33)⟩,
 ⟨some 7, true, none, iMov (.t 37)⟩,
 ⟨some 8, true, none, iMov (.t 38)⟩,
 ⟨some 9, true, none, iMov (.t 39)⟩])
 (cSeq (cSeq (cOps [⟨some 40, false, none, iMov (.t 2)⟩,
 ⟨some 41, false, none, iCmp .neq (.t 40) (.c (.int .i64 (.lit 0)))⟩,
 ⟨some 42, false, none, iMov (.t 41)⟩,
 ⟨some 43, false, some (42, false), iMov (.t 4)⟩,
 ⟨some 44, false, some (42, false), iCmp .neq (.t 43) (.c (.int .i64 (.lit 0)))⟩,
 ⟨some 45, false, none, iPick (.t 42) (.c (.bool (.lit true))) (.t 44)⟩,
 ⟨some 46, false, none, iMov (.t 45)⟩,
 ⟨some 47, false, some (46, false), iMov (.t 6)⟩,
 ⟨some 48, false, some (46, false), iCmp .neq (.t 47) (.c (.int .i64 (.lit 0)))⟩,
 ⟨some 49, false, none, iPick (.t 46) (.c (.bool (.lit true))) (.t 48)⟩,
 ⟨some 50, false, none, iMov (.t 49)⟩,
 ⟨some 51, false, some (50, false), iMov (.t 9)⟩,
 ⟨some 52, false, some (50, false), iCmp .neq (.t 51) (.c (.int .i64 (.lit 0)))⟩,
 ⟨some 53, false, none, iPick (.t 50) (.c (.bool (.lit true))) (.t 52)⟩,
 ⟨some 54, false, none, iMov (.t 53)⟩,
 ⟨some 55, false, some (54, false), iMov (.t 1)⟩,
 ⟨some 56, false, some (54, false), iCmp .neq (.t 55) (.c (.int .i64 (.lit 2)))⟩,
 ⟨some 57, false, none, iPick (.t 54) (.c (.bool (.lit true))) (.t 56)⟩,
 ⟨some 58, false, none, iMov (.t 57)⟩,
 ⟨some 59, false, some (58, false), iMov (.t 3)⟩,
 ⟨some 60, false, some (58, false), iNot (.t 59)⟩,
 ⟨some 61, false, none, iPick (.t 58) (.c (.bool (.lit true))) (.t 60)⟩,
 ⟨some 62, false, none, iMov (.t 61)⟩,
 ⟨some 63, false, some (62, false), iMov (.t 5)⟩,
 ⟨some 64, false, some (62, false), iCall (.c (.func (.func 15) [] [])) [(.c (.int .i64 (.lit 0))), (.c (.int .i64 (.lit 0))), (.c (.int .i64 (.lit 1)))]⟩,
 ⟨some 65, false, some (62, false), iBslice 54 [(.int .i64 (.lit 0)), (.int .i64 (.lit 0)), (.int .i64 (.lit 0))] 1 [(0, 3, (.t 64))]⟩,
 ⟨some 66, false, some (62, false), iCall (.c (.func (.func 37) [] [])) [(.t 63), (.t 65)]⟩,
 ⟨some 67, false, some (62, false), iNot (.t 66)⟩,
 ⟨some 68, false, none, iPick (.t 62) (.c (.bool (.lit true))) (.t 67)⟩,
 ⟨some 69, false, none, iMov (.t 68)⟩,
 ⟨some 70, false, some (69, false), iMov (.t 7)⟩,
 ⟨some 71, false, some (69, false), iBslice 3 [(.int .i64 (.lit 0))] 1 [(0, 1, (.c (.int .i64 (.lit 1))))]⟩,
 ⟨some 72, false, some (69, false), iCall (.c (.func (.func 17) [] [])) [(.t 70), (.t 71)]⟩,
 ⟨some 73, false, some (69, false), iNot (.t 72)⟩,
 ⟨some 74, false, none, iPick (.t 69) (.c (.bool (.lit true))) (.t 73)⟩,
 ⟨some 75, false, none, iMov (.t 74)⟩,
 ⟨some 76, false, some (75, false), iMov (.t 8)⟩,
 ⟨some 77, false, some (75, false), iBslice 3 [(.int .i64 (.lit 0))] 1 [(0, 1, (.c (.int .i64 (.lit 0))))]⟩,
 ⟨some 78, false, some (75, false), iCall (.c (.func (.func 17) [] [])) [(.t 76), (.t 77)]⟩,
 ⟨some 79, false, some (75, false), iNot (.t 78)⟩,
 ⟨some 80, true, none, iPick (.t 75) (.c (.bool (.lit true))) (.t 79)⟩])
 (cCond (.t 80) (cSeq (cOps [⟨some 0, true, none, iMov (.c (.bool (.lit false)))⟩])
 cRet) cSkip))
 (cSeq (cOps [⟨some 82, false, none, iCall (.c (.func (.func 5) [] [])) [(.c (.int .i64 (.lit 1))), (.c (.int .i64 (.lit 562))), (.c (.bool (.lit true)))]⟩,
 ⟨some 83, false, none, iBslice 31 [(.bool (.lit false)), (.int .i64 (.lit 0)), (.int .i64 (.lit 0)), (.bool (.lit false))] 1 [(0, 4, (.t 82))]⟩,
 ⟨some 84, false, none, iCall (.c (.func (.func 16) [] [])) [(.t 83)]⟩,
 ⟨some 85, false, none, iCall (.c (.func (.func 4) [] [])) [(.t 84)]⟩,
 ⟨some 86, false, none, iCall (.c (.func (.func 11) [] [])) [(.t 85), (.c (.int .i64 (.lit 0)))]⟩,
 ⟨some 81, false, none, iMov (.t 86)⟩,
 ⟨some 87, false, none, iExtract 0 (.t 81)⟩,
 ⟨some 88, false, none, iExtract 1 (.t 81)⟩,
 ⟨some 10, true, none, iAlloc 46 [(.int .i64 (.lit 0)), (.int .i64 (.lit 0))]⟩,
 ⟨none, false, none, iStore 2 (.t 10) (.t 87)⟩,
 ⟨some 2, true, none, iMov (.t 88)⟩])
 (cSeq (cOps [⟨some 90, false, none, iCall (.c (.func (.func 5) [] [])) [(.c (.int .i64 (.lit 2))), (.c (.int .i64 (.lit 630))), (.c (.bool (.lit true)))]⟩,
 ⟨some 91, false, none, iBslice 31 [(.bool (.lit false)), (.int .i64 (.lit 0)), (.int .i64 (.lit 0)), (.bool (.lit false))] 1 [(0, 4, (.t 90))]⟩,
 ⟨some 92, false, none, iCall (.c (.func (.func 16) [] [])) [(.t 91)]⟩,
 ⟨some 93, false, none, iCall (.c (.func (.func 4) [] [])) [(.t 92)]⟩,
 ⟨some 94, false, none, iCall (.c (.func (.func 12) [] [])) [(.t 93)]⟩,
 ⟨some 89, false, none, iMov (.t 94)⟩,
 ⟨some 95, false, none, iExtract 0 (.t 89)⟩,
 ⟨some 96, false, none, iExtract 1 (.t 89)⟩,
 ⟨some 11, true, none, iMov (.t 95)⟩,
 ⟨some 4, true, none, iMov (.t 96)⟩])
 (cSeq (cOps [⟨some 98, false, none, iCall (.c (.func (.func 5) [] [])) [(.c (.int .i64 (.lit 0))), (.c (.int .i64 (.lit 600))), (.c (.bool (.lit false)))]⟩,
 ⟨some 99, false, none, iBslice 31 [(.bool (.lit false)), (.int .i64 (.lit 0)), (.int .i64 (.lit 0)), (.bool (.lit false))] 1 [(0, 4, (.t 98))]⟩,
 ⟨some 100, false, none, iCall (.c (.func (.func 4) [] [])) [(.t 99)]⟩,
 ⟨some 101, false, none, iCall (.c (.func (.func 13) [] [])) [(.t 100), (.c (.int .i64 (.lit 700)))]⟩,
 ⟨some 97, false, none, iMov (.t 101)⟩,
 ⟨some 102, false, none, iExtract 0 (.t 97)⟩,
 ⟨some 103, false, none, iExtract 1 (.t 97)⟩,
 ⟨some 12, true, none, iMov (.t 102)⟩,
 ⟨some 6, true, none, iMov (.t 103)⟩])
 (cSeq (dOps 0 [⟨⟨some 104, false, none, iMov (.t 2)⟩, [2], false, 0, 0, none, []⟩,
 ⟨⟨some 105, false, none, iCmp .eql (.t 104) (.c (.int .i64 (.lit 0)))⟩, [104], false, 0, 0, none, []⟩,
 ⟨⟨some 106, false, none, iMov (.t 105)⟩, [105], false, 0, 0, none, []⟩,
 ⟨⟨some 107, false, some (106, true), iMov (.t 4)⟩, [106, 4], false, 0, 0, none, []⟩,
 ⟨⟨some 108, false, some (106, true), iCmp .eql (.t 107) (.c (.int .i64 (.lit 0)))⟩, [106, 107], false, 0, 0, none, []⟩,
 ⟨⟨some 109, false, none, iPick (.t 106) (.t 108) (.c (.bool (.lit false)))⟩, [106, 108], false, 0, 0, none, []⟩,
 ⟨⟨some 110, false, none, iMov (.t 109)⟩, [109], false, 0, 0, none, []⟩,
 ⟨⟨some 111, false, some (110, true), iMov (.t 6)⟩, [110, 6], false, 0, 0, none, []⟩,
 ⟨⟨some 112, false, some (110, true), iCmp .eql (.t 111) (.c (.int .i64 (.lit 0)))⟩, [110, 111], false, 0, 0, none, []⟩,
 ⟨⟨some 113, false, none, iPick (.t 110) (.t 112) (.c (.bool (.lit false)))⟩, [110, 112], false, 0, 0, none, []⟩,
 ⟨⟨some 114, false, none, iMov (.t 113)⟩, [113], false, 0, 0, none, []⟩,
 ⟨⟨some 115, false, some (114, true), iLoadN 2 (.t 10)⟩, [114, 10], false, 0, 1, none, []⟩,
 ⟨⟨some 116, false, some (114, true), iCall (.c (.func (.func 18) [] [])) [(.c (.int .i64 (.lit 0))), (.c (.int .i64 (.lit 2)))]⟩, [114], true, 0, 0, none, []⟩,
 ⟨⟨some 117, false, some (114, true), iEq false true 2 [(0, .int), (1, .int)] (.t 115) (.t 116)⟩, [114, 115, 116], false, 1, 1, none, []⟩,
 ⟨⟨some 118, false, none, iPick (.t 114) (.t 117) (.c (.bool (.lit false)))⟩, [114, 117], false, 1, 1, none, []⟩,
 ⟨⟨some 119, false, none, iMov (.t 118)⟩, [118], false, 1, 1, none, []⟩,
 ⟨⟨some 120, false, some (119, true), iMov (.t 11)⟩, [119, 11], false, 1, 2, none, []⟩,
 ⟨⟨some 121, false, some (119, true), iBslice 3 [(.int .i64 (.lit 0))] 1 [(0, 1, (.c (.int .i64 (.lit 2))))]⟩, [119], true, 1, 0, none, []⟩,
 ⟨⟨some 122, false, some (119, true), iCall (.c (.func (.func 17) [] [])) [(.t 120), (.t 121)]⟩, [119, 120, 121], true, 2, 0, none, []⟩,
 ⟨⟨some 123, false, none, iPick (.t 119) (.t 122) (.c (.bool (.lit false)))⟩, [119, 122], false, 3, 3, none, []⟩,
 ⟨⟨some 124, false, none, iMov (.t 123)⟩, [123], false, 3, 3, none, []⟩,
 ⟨⟨some 125, false, some (124, true), iMov (.t 12)⟩, [124, 12], false, 3, 3, none, []⟩,
 ⟨⟨some 126, false, some (124, true), iCmp .eql (.t 125) (.c (.int .i64 (.lit 1)))⟩, [124, 125], false, 3, 3, none, []⟩,
 ⟨⟨some 127, false, none, iPick (.t 124) (.t 126) (.c (.bool (.lit false)))⟩, [124, 126], false, 3, 3, none, []⟩,
 ⟨⟨some 0, true, none, iMov (.t 127)⟩, [127], false, 3, 3, none, []⟩])
 cRet)))))))))), [.t 0]⟩
noncomputable def Tryd.kp20 : List Nat := [0]
noncomputable def Tryd.cf20 : CF := ⟨0, (cSeq (cOps [⟨some 0, true, none, iAlloc 25 [.nilslice, .nilslice, (.int .i64 (.lit 0))]⟩])
 (cSeq (cOps [⟨some 1, false, none, iCall (.c (.func (.func 18) [] [])) [(.c (.int .i64 (.lit 480))), (.c (.int .i64 (.lit 1200)))]⟩,
 ⟨some 2, false, none, iBslice 46 [(.int .i64 (.lit 0)), (.int .i64 (.lit 0))] 1 [(0, 2, (.t 1))]⟩,
 ⟨some 3, false, none, iCall (.c (.func (.func 18) [] [])) [(.c (.int .i64 (.lit 480))), (.c (.int .i64 (.lit 720)))]⟩,
 ⟨some 4, false, none, iCall (.c (.func (.func 18) [] [])) [(.c (.int .i64 (.lit 780))), (.c (.int .i64 (.lit 1140)))]⟩,
 ⟨some 5, false, none, iBslice 46 [(.int .i64 (.lit 0)), (.int .i64 (.lit 0))] 2 [(0, 2, (.t 3)), (2, 2, (.t 4))]⟩,
 ⟨some 6, false, none, iCall (.c (.func (.func 18) [] [])) [(.c (.int .i64 (.lit 420))), (.c (.int .i64 (.lit 1320)))]⟩,
 ⟨some 7, false, none, iBslice 46 [(.int .i64 (.lit 0)), (.int .i64 (.lit 0))] 1 [(0, 2, (.t 6))]⟩,
 ⟨some 8, false, none, iBslice 91 [.nilslice] 3 [(0, 1, (.t 2)), (1, 1, (.t 5)), (2, 1, (.t 7))]⟩,
 ⟨some 9, false, none, iCall (.c (.func (.func 38) [] [])) [(.c (.int .i64 (.lit 0))), (.c (.int .i64 (.lit 500))), (.c (.int .i64 (.lit 500)))]⟩,
 ⟨some 10, false, none, iCall (.c (.func (.func 38) [] [])) [(.c (.int .i64 (.lit 1))), (.c (.int .i64 (.lit 560))), (.c (.int .i64 (.lit 565)))]⟩,
 ⟨some 11, false, none, iCall (.c (.func (.func 38) [] [])) [(.c (.int .i64 (.lit 2))), (.c (.int .i64 (.lit 640))), (.c (.int .i64 (.lit 640)))]⟩,
 ⟨some 12, false, none, iBslice 93 [(.int .i64 (.lit 0)), (.int .i64 (.lit 0)), (.int .i64 (.lit 0))] 3 [(0, 3, (.t 9)), (3, 3, (.t 10)), (6, 3, (.t 11))]⟩,
 ⟨some 13, false, none, iCall (.c (.func (.func 18) [] [])) [(.c (.int .i64 (.lit 0))), (.c (.int .i64 (.lit 20)))]⟩,
 ⟨some 14, false, none, iBuild [.nilslice, (.int .i64 (.lit 0)), (.int .i64 (.lit 0))] [(0, 1, (.t 12)), (1, 2, (.t 13))]⟩,
 ⟨some 15, false, none, iCall (.c (.func (.func 38) [] [])) [(.c (.int .i64 (.lit 1))), (.c (.int .i64 (.lit 590))), (.c (.int .i64 (.lit 600)))]⟩,
 ⟨some 16, false, none, iCall (.c (.func (.func 38) [] [])) [(.c (.int .i64 (.lit 2))), (.c (.int .i64 (.lit 650))), (.c (.int .i64 (.lit 650)))]⟩,
 ⟨some 17, false, none, iBslice 93 [(.int .i64 (.lit 0)), (.int .i64 (.lit 0)), (.int .i64 (.lit 0))] 2 [(0, 3, (.t 15)), (3, 3, (.t 16))]⟩,
 ⟨some 18, false, none, iCall (.c (.func (.func 18) [] [])) [(.c (.int .i64 (.lit 0))), (.c (.int .i64 (.lit 5)))]⟩,
 ⟨some 19, false, none, iBuild [.nilslice, (.int .i64 (.lit 0)), (.int .i64 (.lit 0))] [(0, 1, (.t 17)), (1, 2, (.t 18))]⟩,
 ⟨some 20, false, none, iCall (.c (.func (.func 38) [] [])) [(.c (.int .i64 (.lit 0))), (.c (.int .i64 (.lit 700))), (.c (.int .i64 (.lit 700)))]⟩,
 ⟨some 21, false, none, iCall (.c (.func (.func 38) [] [])) [(.c (.int .i64 (.lit 2))), (.c (.int .i64 (.lit 800))), (.c (.int .i64 (.lit 800)))]⟩,
 ⟨some 22, false, none, iBslice 93 [(.int .i64 (.lit 0)), (.int .i64 (.lit 0)), (.int .i64 (.lit 0))] 2 [(0, 3, (.t 20)), (3, 3, (.t 21))]⟩,
 ⟨some 23, false, none, iCall (.c (.func (.func 18) [] [])) [(.c (.int .i64 (.lit 0))), (.c (.int .i64 (.lit 60)))]⟩,
 ⟨some 24, false, none, iBuild [.nilslice, (.int .i64 (.lit 0)), (.int .i64 (.lit 0))] [(0, 1, (.t 22)), (1, 2, (.t 23))]⟩,
 ⟨some 25, false, none, iCall (.c (.func (.func 38) [] [])) [(.c (.int .i64 (.lit 0))), (.c (.int .i64 (.lit 690))), (.c (.int .i64 (.lit 690)))]⟩,
 ⟨some 26, false, none, iCall (.c (.func (.func 38) [] [])) [(.c (.int .i64 (.lit 1))), (.c (.int .i64 (.lit 705))), (.c (.int .i64 (.lit 710)))]⟩,
 ⟨some 27, false, none, iBslice 93 [(.int .i64 (.lit 0)), (.int .i64 (.lit 0)), (.int .i64 (.lit 0))] 2 [(0, 3, (.t 25)), (3, 3, (.t 26))]⟩,
 ⟨some 28, false, none, iCall (.c (.func (.func 18) [] [])) [(.c (.int .i64 (.lit 0))), (.c (.int .i64 (.lit 10)))]⟩,
 ⟨some 29, false, none, iBuild [.nilslice, (.int .i64 (.lit 0)), (.int .i64 (.lit 0))] [(0, 1, (.t 27)), (1, 2, (.t 28))]⟩,
 ⟨some 30, false, none, iBslice 97 [.nilslice, (.int .i64 (.lit 0)), (.int .i64 (.lit 0))] 4 [(0, 3, (.t 14)), (3, 3, (.t 19)), (6, 3, (.t 24)), (9, 3, (.t 29))]⟩,
 ⟨some 31, false, none, iBuild [.nilslice, .nilslice, (.int .i64 (.lit 0))] [(2, 1, (.c (.int .i64 (.lit 10)))), (0, 1, (.t 8)), (1, 1, (.t 30))]⟩,
 ⟨none, false, none, iStore 3 (.t 0) (.t 31)⟩])
 cRet)), [.cell 0 true 3]⟩
noncomputable def Tryd.ra21065 : C := (cOps [⟨some 11, true, none, iAlloc 54 [(.int .i64 (.lit 0)), (.int .i64 (.lit 0)), (.int .i64 (.lit 0))]⟩,
 ⟨none, false, none, iStore 3 (.t 11) (.t 65)⟩])
noncomputable def Tryd.rb21065 : C := (cBlock 5 (cOps [⟨some 66, false, none, iLoadN 11 (.t 6)⟩,
 ⟨some 67, false, none, iLoadN 3 (.t 11)⟩,
 ⟨some 68, false, none, iCall (.c (.func (.func 43) [] [])) [(.t 66), (.t 67)]⟩]))
noncomputable def Tryd.kp21 : List Nat := [0, 1, 2, 4, 5, 6, 8, 10, 11, 14, 21, 22, 23, 24, 44, 45, 46, 47, 53, 64, 65]
noncomputable def Tryd.cf21 : CF := ⟨2, (cSeq (cOps [⟨some 2, true, none, iBox 28 (.t 0)⟩,
 ⟨some 4, true, none, iAlloc 66 [.nilslice, .nilslice, (.int .i64 (.lit 0)), (.int .i64 (.lit 0)), (.int .i64 (.lit 0)), (.int .i64 (.lit 0)), .nilslice, .nilslice, .nilslice, .nilmap, .nilmap]⟩,
 ⟨some 5, true, none, iMov (.c (.int .i64 (.lit 0)))⟩])
 (cSeq (cSeq (cOps [⟨some 12, false, none, iLoadN 7 (.t 2)⟩,
 ⟨some 13, false, none, iCall (.c (.func (.func 36) [] [])) [(.t 12)]⟩,
 ⟨some 14, true, none, iNot (.t 13)⟩])
 (cCond (.t 14) (cSeq (cOps [⟨some 15, false, none, iBuild [.nilslice, .nilslice, (.int .i64 (.lit 0)), (.int .i64 (.lit 0)), (.int .i64 (.lit 0)), (.int .i64 (.lit 0)), .nilslice, .nilslice, .nilslice, .nilmap, .nilmap] []⟩,
 ⟨none, false, none, iStore 11 (.t 4) (.t 15)⟩,
 ⟨some 5, true, none, iMov (.c (.int .i64 (.lit 100)))⟩])
 cRet) cSkip))
 (cSeq (cOps [⟨some 16, false, none, iLoadN 7 (.t 2)⟩,
 ⟨some 17, false, none, iMkmap⟩,
 ⟨some 18, false, none, iMkmap⟩,
 ⟨some 19, false, none, iBuild [.nilslice, .nilslice, (.int .i64 (.lit 0)), (.int .i64 (.lit 0)), (.int .i64 (.lit 0)), (.int .i64 (.lit 0)), .nilslice, .nilslice, .nilslice, .nilmap, .nilmap] [(0, 7, (.t 16)), (9, 1, (.t 17)), (10, 1, (.t 18))]⟩,
 ⟨some 6, true, none, iAlloc 66 [.nilslice, .nilslice, (.int .i64 (.lit 0)), (.int .i64 (.lit 0)), (.int .i64 (.lit 0)), (.int .i64 (.lit 0)), .nilslice, .nilslice, .nilslice, .nilmap, .nilmap]⟩,
 ⟨none, false, none, iStore 11 (.t 6) (.t 19)⟩])
 (cSeq (cSeq (cOps [⟨some 20, false, none, iFaddr 6 (.t 2)⟩,
 ⟨some 21, true, none, iLoad (.t 20)⟩,
 ⟨some 22, true, none, iLenS (.t 21)⟩,
 ⟨some 23, true, none, iMov (.c (.int .i64 (.lit 0)))⟩])
 (cBlock 0 (cLoop (cSeq (cOps [⟨some 24, true, none, iCmp .lss (.t 23) (.t 22)⟩])
 (cSeq (cCond (.t 24) cSkip (cExit 0))
 (cSeq (cBlock 1 (cSeq (cOps [⟨some 25, false, none, iIaddr 4 (.t 21) (.t 23)⟩,
 ⟨some 26, false, none, iLoadN 4 (.t 25)⟩,
 ⟨some 8, true, none, iAlloc 31 [(.bool (.lit false)), (.int .i64 (.lit 0)), (.int .i64 (.lit 0)), (.bool (.lit false))]⟩,
 ⟨none, false, none, iStore 4 (.t 8) (.t 26)⟩])
 (cSeq (dOps 0 [⟨⟨some 27, false, none, iFaddr 7 (.t 6)⟩, [6], false, 0, 3, none, []⟩,
 ⟨⟨some 28, false, none, iLoad (.t 27)⟩, [27], false, 0, 3, none, []⟩,
 ⟨⟨some 29, false, none, iCall (.c (.func (.func 39) [] [])) []⟩, [], true, 0, 0, none, []⟩,
 ⟨⟨some 30, false, none, iLoadN 4 (.t 8)⟩, [8], false, 0, 1, none, []⟩,
 ⟨⟨some 31, false, none, iCall (.c (.func (.func 40) [] [])) [(.t 30)]⟩, [30], true, 1, 0, none, []⟩,
 ⟨⟨some 32, false, none, iIndex false 1 2 (.t 29) (.t 31)⟩, [29, 31], false, 2, 2, none, []⟩,
 ⟨⟨some 33, false, none, iBslice 99 [.nilFunc] 1 [(0, 1, (.t 32))]⟩, [32], true, 2, 0, none, []⟩,
 ⟨⟨some 34, false, none, iAppend 99 1 8 (.t 28) (.t 33)⟩, [28, 33], true, 3, 0, none, []⟩,
 ⟨⟨some 35, false, none, iFaddr 7 (.t 6)⟩, [6], false, 4, 4, none, []⟩,
 ⟨⟨none, false, none, iStore 1 (.t 35) (.t 34)⟩, [35, 34], true, 4, 0, none, []⟩])
 (cOps [⟨some 36, false, none, iFaddr 8 (.t 6)⟩,
 ⟨some 37, false, none, iLoad (.t 36)⟩,
 ⟨some 38, false, none, iFaddr 2 (.t 8)⟩,
 ⟨some 39, false, none, iLoad (.t 38)⟩,
 ⟨some 40, false, none, iBslice 3 [(.int .i64 (.lit 0))] 1 [(0, 1, (.t 39))]⟩,
 ⟨some 41, false, none, iAppend 3 1 8 (.t 37) (.t 40)⟩,
 ⟨some 42, false, none, iFaddr 8 (.t 6)⟩,
 ⟨none, false, none, iStore 1 (.t 42) (.t 41)⟩]))))
 (cOps [⟨some 43, false, none, iArith .add (.t 23) (.c (.int .i64 (.lit 1)))⟩,
 ⟨some 23, true, none, iMov (.t 43)⟩])))))))
 (cSeq (cSeq (cOps [⟨some 44, true, none, iMov (.t 1)⟩,
 ⟨some 45, true, none, iLenS (.t 44)⟩,
 ⟨some 46, true, none, iMov (.c (.int .i64 (.lit 0)))⟩])
 (cBlock 2 (cLoop (cSeq (cOps [⟨some 47, true, none, iCmp .lss (.t 46) (.t 45)⟩])
 (cSeq (cCond (.t 47) cSkip (cExit 2))
 (cSeq (cBlock 3 (cSeq (cOps [⟨some 48, false, none, iIaddr 1 (.t 44) (.t 46)⟩,
 ⟨some 49, false, none, iLoad (.t 48)⟩,
 ⟨some 10, true, none, iMov (.t 49)⟩])
 (cSeq (cSeq (cOps [⟨some 50, false, none, iLoadN 7 (.t 2)⟩,
 ⟨some 51, false, none, iMov (.t 10)⟩,
 ⟨some 52, false, none, iCall (.c (.func (.func 41) [] [])) [(.t 50), (.t 51)]⟩,
 ⟨some 53, true, none, iNot (.t 52)⟩])
 (cCond (.t 53) (cSeq (cOps [⟨some 54, false, none, iBuild [.nilslice, .nilslice, (.int .i64 (.lit 0)), (.int .i64 (.lit 0)), (.int .i64 (.lit 0)), (.int .i64 (.lit 0)), .nilslice, .nilslice, .nilslice, .nilmap, .nilmap] []⟩,
 ⟨none, false, none, iStore 11 (.t 4) (.t 54)⟩,
 ⟨some 5, true, none, iMov (.c (.int .i64 (.lit 101)))⟩])
 cRet) cSkip))
 (cOps [⟨some 55, false, none, iFaddr 8 (.t 6)⟩,
 ⟨some 56, false, none, iLoad (.t 55)⟩,
 ⟨some 57, false, none, iMov (.t 10)⟩,
 ⟨some 58, false, none, iBslice 3 [(.int .i64 (.lit 0))] 1 [(0, 1, (.t 57))]⟩,
 ⟨some 59, false, none, iAppend 3 1 8 (.t 56) (.t 58)⟩,
 ⟨some 60, false, none, iFaddr 8 (.t 6)⟩,
 ⟨none, false, none, iStore 1 (.t 60) (.t 59)⟩]))))
 (cOps [⟨some 61, false, none, iArith .add (.t 46) (.c (.int .i64 (.lit 1)))⟩,
 ⟨some 46, true, none, iMov (.t 61)⟩])))))))
 (cSeq (cSeq (cOps [⟨some 62, false, none, iLoadN 11 (.t 6)⟩,
 ⟨some 63, false, none, iBuild [(.bool (.lit false)), (.bool (.lit false)), (.bool (.lit false)), (.bool (.lit false)), (.bool (.lit false)), (.bool (.lit false))] []⟩,
 ⟨some 64, true, none, iCall (.c (.func (.func 42) [] [])) [(.t 62), (.t 63)]⟩])
 (cBlock 4 (cRange (.t 64) [65] 21065)))
 (cSeq (cOps [⟨some 69, false, none, iLoadN 11 (.t 6)⟩,
 ⟨none, false, none, iStore 11 (.t 4) (.t 69)⟩,
 ⟨some 5, true, none, iMov (.c (.int .i64 (.lit 0)))⟩])
 cRet))))))), [.cell 4 true 11, .t 5]⟩
noncomputable def Tryd.ra22008 : C := (cOps [⟨some 5, true, none, iMov (.t 8)⟩])
noncomputable def Tryd.rb22008 : C := (cBlock 1 (cSeq (cOps [⟨some 9, false, none, iMov (.t 5)⟩,
 ⟨some 10, false, none, iLoad (.t 3)⟩,
 ⟨some 11, true, none, iCall (.c (.func (.func 45) [] [])) [(.t 9), (.t 10)]⟩])
 (cCond (.t 11) (cSeq (cOps [⟨none, false, none, iStore 1 (.t 4) (.c (.bool (.lit true)))⟩])
 cRet) cSkip)))
noncomputable def Tryd.kp22 : List Nat := [0, 1, 2, 3, 4, 5, 7, 8, 11]
noncomputable def Tryd.cf22 : CF := ⟨2, (cSeq (cOps [⟨some 2, true, none, iBox 66 (.t 0)⟩,
 ⟨some 3, true, none, iBox 39 (.t 1)⟩,
 ⟨some 4, true, none, iAlloc 4 [(.bool (.lit false))]⟩])
 (cSeq (cSeq (cOps [⟨some 6, false, none, iLoadN 11 (.t 2)⟩,
 ⟨some 7, true, none, iCall (.c (.func (.func 44) [] [])) [(.t 6)]⟩])
 (cBlock 0 (cRange (.t 7) [8] 22008)))
 (cSeq (cOps [⟨none, false, none, iStore 1 (.t 4) (.c (.bool (.lit false)))⟩])
 cRet))), [.cell 4 false 1]⟩
noncomputable def Tryd.ra23008 : C := cSkip
noncomputable def Tryd.rb23008 : C := (cBlock 1 (cSeq (cOps [⟨none, false, none, iStore 1 (.t 4) (.c (.bool (.lit true)))⟩])
 cRet))
noncomputable def Tryd.kp23 : List Nat := [0, 1, 2, 4, 7, 8]
noncomputable def Tryd.cf23 : CF := ⟨2, (cSeq (cOps [⟨some 2, true, none, iBox 66 (.t 0)⟩,
 ⟨some 4, true, none, iAlloc 4 [(.bool (.lit false))]⟩])
 (cSeq (cSeq (cOps [⟨some 5, false, none, iLoadN 11 (.t 2)⟩,
 ⟨some 6, false, none, iMov (.t 1)⟩,
 ⟨some 7, true, none, iCall (.c (.func (.func 46) [] [])) [(.t 5), (.t 6)]⟩])
 (cBlock 0 (cRange (.t 7) [8] 23008)))
 (cSeq (cOps [⟨none, false, none, iStore 1 (.t 4) (.c (.bool (.lit false)))⟩])
 cRet))), [.cell 4 false 1]⟩
noncomputable def Tryd.ra24004 : C := cSkip
noncomputable def Tryd.rb24004 : C := (cBlock 1 (cOps [⟨some 5, false, none, iLoad (.t 2)⟩,
 ⟨some 6, false, none, iArith .add (.t 5) (.c (.int .i64 (.lit 1)))⟩,
 ⟨none, false, none, iStore 1 (.t 2) (.t 6)⟩]))
noncomputable def Tryd.kp24 : List Nat := [0, 2, 3, 4]
noncomputable def Tryd.cf24 : CF := ⟨1, (cSeq (cOps [⟨some 2, true, none, iAlloc 3 [(.int .i64 (.lit 0))]⟩])
 (cSeq (cSeq (cOps [⟨some 3, true, none, iMov (.t 0)⟩])
 (cBlock 0 (cRange (.t 3) [4] 24004)))
 (cSeq (cOps [⟨some 7, false, none, iLoad (.t 2)⟩,
 ⟨none, false, none, iStore 1 (.t 2) (.t 7)⟩])
 cRet))), [.cell 2 false 1]⟩
noncomputable def Tryd.kp25 : List Nat := [0, 1, 2]
noncomputable def Tryd.cf25 : CF := ⟨1, (cSeq (cOps [⟨some 1, true, none, iBox 66 (.t 0)⟩,
 ⟨some 2, true, none, iMov (.c .nilFunc)⟩])
 (cSeq (dOps 0 [⟨⟨some 3, false, none, iLoadN 11 (.t 1)⟩, [1], false, 0, 0, none, []⟩,
 ⟨⟨some 4, false, none, iCall (.c (.func (.func 44) [] [])) [(.t 3)]⟩, [3], true, 0, 0, none, []⟩,
 ⟨⟨some 5, false, none, iLoadN 11 (.t 1)⟩, [1], false, 0, 1, none, []⟩,
 ⟨⟨some 6, false, none, iFunc (.func 23) [(.t 5)] []⟩, [5], false, 0, 1, none, []⟩,
 ⟨⟨some 7, false, none, iCall (.c (.func (.func 47) [] [])) [(.t 4), (.t 6)]⟩, [4, 6], true, 1, 0, none, []⟩,
 ⟨⟨some 2, true, none, iMov (.t 7)⟩, [7], false, 2, 2, none, []⟩])
 cRet)), [.t 2]⟩
noncomputable def Tryd.kp26 : List Nat := [0, 1, 2, 3, 4]
noncomputable def Tryd.cf26 : CF := ⟨2, (cSeq (cOps [⟨some 2, true, none, iBox 54 (.t 0)⟩,
 ⟨some 3, true, none, iBox 54 (.t 1)⟩,
 ⟨some 4, true, none, iMov (.c (.int .i64 (.lit 0)))⟩])
 (cSeq (dOps 0 [⟨⟨some 5, false, none, iFaddr 0 (.t 2)⟩, [2], false, 0, 0, none, []⟩,
 ⟨⟨some 6, false, none, iLoad (.t 5)⟩, [5], false, 0, 0, none, []⟩,
 ⟨⟨some 7, false, none, iFaddr 0 (.t 3)⟩, [3], false, 0, 0, none, []⟩,
 ⟨⟨some 8, false, none, iLoad (.t 7)⟩, [7], false, 0, 0, none, []⟩,
 ⟨⟨some 9, false, none, iCall (.c (.func (.func 49) [] [])) [(.t 6), (.t 8)]⟩, [6, 8], true, 0, 0, none, []⟩,
 ⟨⟨some 10, false, none, iFaddr 1 (.t 2)⟩, [2], false, 0, 1, none, []⟩,
 ⟨⟨some 11, false, none, iLoad (.t 10)⟩, [10], false, 0, 1, none, []⟩,
 ⟨⟨some 12, false, none, iFaddr 1 (.t 3)⟩, [3], false, 0, 1, none, []⟩,
 ⟨⟨some 13, false, none, iLoad (.t 12)⟩, [12], false, 0, 1, none, []⟩,
 ⟨⟨some 14, false, none, iCall (.c (.func (.func 49) [] [])) [(.t 11), (.t 13)]⟩, [11, 13], true, 1, 0, none, []⟩,
 ⟨⟨some 15, false, none, iFaddr 2 (.t 2)⟩, [2], false, 0, 2, none, []⟩,
 ⟨⟨some 16, false, none, iLoad (.t 15)⟩, [15], false, 0, 2, none, []⟩,
 ⟨⟨some 17, false, none, iFaddr 2 (.t 3)⟩, [3], false, 0, 2, none, []⟩,
 ⟨⟨some 18, false, none, iLoad (.t 17)⟩, [17], false, 0, 2, none, []⟩,
 ⟨⟨some 19, false, none, iCall (.c (.func (.func 49) [] [])) [(.t 16), (.t 18)]⟩, [16, 18], true, 2, 0, none, []⟩,
 ⟨⟨some 20, false, none, iBslice 3 [(.int .i64 (.lit 0))] 3 [(0, 1, (.t 9)), (1, 1, (.t 14)), (2, 1, (.t 19))]⟩, [9, 14, 19], true, 3, 0, none, []⟩,
 ⟨⟨some 21, false, none, iCall (.c (.func (.func 48) [] [])) [(.t 20)]⟩, [20], true, 4, 0, none, []⟩,
 ⟨⟨some 4, true, none, iMov (.t 21)⟩, [21], false, 5, 5, none, []⟩])
 cRet)), [.t 4]⟩
noncomputable def Tryd.ra27008 : C := (cOps [⟨some 6, true, none, iMov (.t 8)⟩])
noncomputable def Tryd.rb27008 : C := (cBlock 1 (cSeq (cOps [⟨some 9, false, none, iLoad (.t 5)⟩,
 ⟨some 10, false, none, iNot (.t 9)⟩,
 ⟨some 11, false, none, iMov (.t 10)⟩,
 ⟨some 12, false, some (11, false), iLoadN 1 (.t 2)⟩,
 ⟨some 13, false, some (11, false), iMov (.t 6)⟩,
 ⟨some 14, false, some (11, false), iLoad (.t 4)⟩,
 ⟨some 15, false, some (11, false), iCall (.c (.func (.func 50) [] [])) [(.t 12), (.t 13), (.t 14)]⟩,
 ⟨some 16, true, none, iPick (.t 11) (.c (.bool (.lit true))) (.t 15)⟩])
 (cCond (.t 16) (cOps [⟨some 17, false, none, iMov (.t 6)⟩,
 ⟨none, false, none, iStore 1 (.t 4) (.t 17)⟩,
 ⟨none, false, none, iStore 1 (.t 5) (.c (.bool (.lit true)))⟩]) cSkip)))
noncomputable def Tryd.kp27 : List Nat := [0, 1, 2, 4, 5, 6, 7, 8, 16]
noncomputable def Tryd.cf27 : CF := ⟨2, (cSeq (cOps [⟨some 2, true, none, iBox 77 (.t 0)⟩,
 ⟨some 4, true, none, iAlloc 39 [.nilslice]⟩,
 ⟨some 5, true, none, iAlloc 4 [(.bool (.lit false))]⟩])
 (cSeq (cSeq (cOps [⟨some 7, true, none, iMov (.t 1)⟩])
 (cBlock 0 (cRange (.t 7) [8] 27008)))
 (cSeq (dOps 0 [⟨⟨some 18, false, none, iLoad (.t 4)⟩, [4], false, 0, 0, none, []⟩,
 ⟨⟨some 19, false, none, iLoad (.t 5)⟩, [5], false, 0, 1, none, []⟩,
 ⟨⟨none, false, none, iStore 1 (.t 4) (.t 18)⟩, [4, 18], true, 0, 0, none, []⟩,
 ⟨⟨none, false, none, iStore 1 (.t 5) (.t 19)⟩, [5, 19], true, 1, 0, none, []⟩])
 cRet))), [.cell 4 false 1, .cell 5 false 1]⟩
noncomputable def Tryd.kp28 : List Nat := [0, 2, 4, 5, 6, 7, 8, 9, 10, 13, 14, 15]
noncomputable def Tryd.cf28 : CF := ⟨1, (cSeq (cOps [⟨some 2, true, none, iAlloc 80 [(.bool (.lit false)), (.bool (.lit false)), (.bool (.lit false)), (.bool (.lit false)), (.bool (.lit false)), (.bool (.lit false)), (.bool (.lit false)), (.bool (.lit false)), (.bool (.lit false)), (.bool (.lit false)), (.bool (.lit false)), (.bool (.lit false))]⟩])
 (cSeq (cSeq (cOps [⟨some 7, true, none, iMov (.t 0)⟩,
 ⟨some 8, true, none, iLenS (.t 7)⟩,
 ⟨some 9, true, none, iMov (.c (.int .i64 (.lit 0)))⟩])
 (cBlock 0 (cLoop (cSeq (cOps [⟨some 10, true, none, iCmp .lss (.t 9) (.t 8)⟩])
 (cSeq (cCond (.t 10) cSkip (cExit 0))
 (cSeq (cBlock 1 (cSeq (cOps [⟨some 11, false, none, iIaddr 12 (.t 7) (.t 9)⟩,
 ⟨some 12, false, none, iLoadN 12 (.t 11)⟩,
 ⟨some 4, true, none, iAlloc 80 [(.bool (.lit false)), (.bool (.lit false)), (.bool (.lit false)), (.bool (.lit false)), (.bool (.lit false)), (.bool (.lit false)), (.bool (.lit false)), (.bool (.lit false)), (.bool (.lit false)), (.bool (.lit false)), (.bool (.lit false)), (.bool (.lit false))]⟩,
 ⟨none, false, none, iStore 12 (.t 4) (.t 12)⟩])
 (cSeq (cOps [⟨some 13, true, none, iLoadN 12 (.t 4)⟩,
 ⟨some 14, true, none, iMov (.c (.int .i64 (.lit 0)))⟩])
 (cBlock 2 (cLoop (cSeq (cOps [⟨some 15, true, none, iCmp .lss (.t 14) (.c (.int .i64 (.lit 12)))⟩])
 (cSeq (cCond (.t 15) cSkip (cExit 2))
 (cSeq (cBlock 3 (cSeq (cOps [⟨some 16, false, none, iMov (.t 14)⟩,
 ⟨some 17, false, none, iIndex false 1 12 (.t 13) (.t 14)⟩,
 ⟨some 5, true, none, iMov (.t 16)⟩,
 ⟨some 6, true, none, iMov (.t 17)⟩])
 (cOps [⟨some 18, false, none, iMov (.t 5)⟩,
 ⟨some 19, false, none, iMov (.t 5)⟩,
 ⟨some 20, false, none, iIaddrA 1 12 (.t 2) (.t 19)⟩,
 ⟨some 21, false, none, iLoad (.t 20)⟩,
 ⟨some 22, false, none, iMov (.t 21)⟩,
 ⟨some 23, false, some (22, false), iMov (.t 6)⟩,
 ⟨some 24, false, none, iPick (.t 22) (.c (.bool (.lit true))) (.t 23)⟩,
 ⟨some 25, false, none, iIaddrA 1 12 (.t 2) (.t 18)⟩,
 ⟨none, false, none, iStore 1 (.t 25) (.t 24)⟩])))
 (cOps [⟨some 26, false, none, iArith .add (.t 14) (.c (.int .i64 (.lit 1)))⟩,
 ⟨some 14, true, none, iMov (.t 26)⟩])))))))))
 (cOps [⟨some 27, false, none, iArith .add (.t 9) (.c (.int .i64 (.lit 1)))⟩,
 ⟨some 9, true, none, iMov (.t 27)⟩])))))))
 (cSeq (cOps [⟨some 28, false, none, iLoadN 12 (.t 2)⟩,
 ⟨none, false, none, iStore 12 (.t 2) (.t 28)⟩])
 cRet))), [.cell 2 true 12]⟩
noncomputable def Tryd.ra29013 : C := (cOps [⟨some 4, true, none, iMov (.t 13)⟩])
noncomputable def Tryd.rb29013 : C := (cBlock 1 (cSeq (cOps [⟨some 5, true, none, iAlloc 80 [(.bool (.lit false)), (.bool (.lit false)), (.bool (.lit false)), (.bool (.lit false)), (.bool (.lit false)), (.bool (.lit false)), (.bool (.lit false)), (.bool (.lit false)), (.bool (.lit false)), (.bool (.lit false)), (.bool (.lit false)), (.bool (.lit false))]⟩])
 (cSeq (cSeq (cOps [⟨some 14, false, none, iLoadN 11 (.t 1)⟩,
 ⟨some 15, false, none, iMov (.t 4)⟩,
 ⟨some 16, true, none, iCall (.c (.func (.func 46) [] [])) [(.t 14), (.t 15)]⟩])
 (cBlock 2 (cRange (.t 16) [17] 29017)))
 (cSeq (cOps [⟨some 23, false, none, iLoadN 12 (.t 5)⟩,
 ⟨some 24, false, none, iBuild [(.bool (.lit false)), (.bool (.lit false)), (.bool (.lit false)), (.bool (.lit false)), (.bool (.lit false)), (.bool (.lit false)), (.bool (.lit false)), (.bool (.lit false)), (.bool (.lit false)), (.bool (.lit false)), (.bool (.lit false)), (.bool (.lit false))] []⟩,
 ⟨some 25, true, none, iEq true true 12 [(0, .bool), (1, .bool), (2, .bool), (3, .bool), (4, .bool), (5, .bool), (6, .bool), (7, .bool), (8, .bool), (9, .bool), (10, .bool), (11, .bool)] (.t 23) (.t 24)⟩])
 (cCond (.t 25) (cOps [⟨some 26, false, none, iLoad (.t 2)⟩,
 ⟨some 27, false, none, iLoadN 12 (.t 5)⟩,
 ⟨some 28, false, none, iBslice 80 [(.bool (.lit false)), (.bool (.lit false)), (.bool (.lit false)), (.bool (.lit false)), (.bool (.lit false)), (.bool (.lit false)), (.bool (.lit false)), (.bool (.lit false)), (.bool (.lit false)), (.bool (.lit false)), (.bool (.lit false)), (.bool (.lit false))] 1 [(0, 12, (.t 27))]⟩,
 ⟨some 29, false, none, iAppend 80 12 12 (.t 26) (.t 28)⟩,
 ⟨none, false, none, iStore 1 (.t 2) (.t 29)⟩]) cSkip)))))
noncomputable def Tryd.ra29017 : C := (cOps [⟨some 6, true, none, iAlloc 121 [.nilslice, (.int .i64 (.lit 0)), (.int .i64 (.lit 0)), (.int .i64 (.lit 0)), (.int .i64 (.lit 0)), (.int .i64 (.lit 0)), (.int .i64 (.lit 0)), (.int .i64 (.lit 0))]⟩,
 ⟨none, false, none, iStore 8 (.t 6) (.t 17)⟩])
noncomputable def Tryd.rb29017 : C := (cBlock 3 (cOps [⟨some 18, false, none, iLoad (.t 3)⟩,
 ⟨some 19, false, none, iFaddr 1 (.t 6)⟩,
 ⟨some 20, false, none, iIaddrA 1 7 (.t 19) (.t 18)⟩,
 ⟨some 21, false, none, iLoad (.t 20)⟩,
 ⟨some 22, false, none, iIaddrA 1 12 (.t 5) (.t 21)⟩,
 ⟨none, false, none, iStore 1 (.t 22) (.c (.bool (.lit true)))⟩]))
noncomputable def Tryd.kp29 : List Nat := [0, 1, 2, 3, 4, 5, 6, 12, 13, 16, 17, 25]
noncomputable def Tryd.cf29 : CF := ⟨1, (cSeq (cOps [⟨some 1, true, none, iBox 66 (.t 0)⟩,
 ⟨some 2, true, none, iAlloc 82 [.nilslice]⟩])
 (cSeq (cOps [⟨some 7, false, none, iFaddr 0 (.t 1)⟩,
 ⟨some 8, false, none, iFaddr 6 (.t 7)⟩,
 ⟨some 9, false, none, iLoad (.t 8)⟩,
 ⟨some 10, false, none, iLenS (.t 9)⟩,
 ⟨some 3, true, none, iAlloc 3 [(.int .i64 (.lit 0))]⟩,
 ⟨none, false, none, iStore 1 (.t 3) (.t 10)⟩])
 (cSeq (cSeq (cOps [⟨some 11, false, none, iLoadN 11 (.t 1)⟩,
 ⟨some 12, true, none, iCall (.c (.func (.func 44) [] [])) [(.t 11)]⟩])
 (cBlock 0 (cRange (.t 12) [13] 29013)))
 (cSeq (cOps [⟨some 30, false, none, iLoad (.t 2)⟩,
 ⟨none, false, none, iStore 1 (.t 2) (.t 30)⟩])
 cRet)))), [.cell 2 false 1]⟩
noncomputable def Tryd.kp30 : List Nat := [0, 1, 2]
noncomputable def Tryd.cf30 : CF := ⟨1, (cSeq (cOps [⟨some 1, true, none, iBox 80 (.t 0)⟩,
 ⟨some 2, true, none, iMov (.c .nilslice)⟩])
 (cSeq (cOps [⟨some 3, false, none, iSliceA 1 12 (.t 1) none (some (.c (.int .i64 (.lit 6)))) (some (.c (.int .i64 (.lit 6))))⟩,
 ⟨some 4, false, none, iCall (.c (.func (.func 51) [] [])) [(.t 3)]⟩,
 ⟨some 2, true, none, iMov (.t 4)⟩])
 cRet)), [.t 2]⟩
noncomputable def Tryd.kp31 : List Nat := [0, 1, 2]
noncomputable def Tryd.cf31 : CF := ⟨1, (cSeq (cOps [⟨some 1, true, none, iBox 80 (.t 0)⟩,
 ⟨some 2, true, none, iMov (.c .nilslice)⟩])
 (cSeq (cOps [⟨some 3, false, none, iSliceA 1 12 (.t 1) (some (.c (.int .i64 (.lit 6)))) (some (.c (.int .i64 (.lit 12)))) (some (.c (.int .i64 (.lit 12))))⟩,
 ⟨some 4, false, none, iCall (.c (.func (.func 51) [] [])) [(.t 3)]⟩,
 ⟨some 2, true, none, iMov (.t 4)⟩])
 cRet)), [.t 2]⟩
noncomputable def Tryd.kp32 : List Nat := [0, 1, 4]
noncomputable def Tryd.cf32 : CF := ⟨2, (cSeq (cOps [⟨some 4, true, none, iMov (.c (.bool (.lit false)))⟩])
 (cSeq (cOps [⟨some 5, false, none, iMov (.t 0)⟩,
 ⟨some 6, false, none, iCmp .geq (.t 5) (.c (.int .i64 (.lit 0)))⟩,
 ⟨some 7, false, none, iMov (.t 6)⟩,
 ⟨some 8, false, some (7, true), iMov (.t 0)⟩,
 ⟨some 9, false, some (7, true), iMov (.t 1)⟩,
 ⟨some 10, false, some (7, true), iCmp .lss (.t 8) (.t 9)⟩,
 ⟨some 11, false, none, iPick (.t 7) (.t 10) (.c (.bool (.lit false)))⟩,
 ⟨some 4, true, none, iMov (.t 11)⟩])
 cRet)), [.t 4]⟩
noncomputable def Tryd.ra33011 : C := (cOps [⟨some 6, true, none, iMov (.t 11)⟩])
noncomputable def Tryd.rb33011 : C := (cBlock 1 (cSeq (cOps [⟨some 12, false, none, iLoadN 11 (.t 2)⟩,
 ⟨some 13, false, none, iMov (.t 6)⟩,
 ⟨some 14, true, none, iCall (.c (.func (.func 46) [] [])) [(.t 12), (.t 13)]⟩])
 (cBlock 2 (cRange (.t 14) [15] 33015))))
noncomputable def Tryd.ra33015 : C := (cOps [⟨some 7, true, none, iAlloc 121 [.nilslice, (.int .i64 (.lit 0)), (.int .i64 (.lit 0)), (.int .i64 (.lit 0)), (.int .i64 (.lit 0)), (.int .i64 (.lit 0)), (.int .i64 (.lit 0)), (.int .i64 (.lit 0))]⟩,
 ⟨none, false, none, iStore 8 (.t 7) (.t 15)⟩])
noncomputable def Tryd.rb33015 : C := (cBlock 3 (cSeq (cOps [⟨some 16, false, none, iLoadN 11 (.t 2)⟩,
 ⟨some 17, false, none, iLoadN 8 (.t 7)⟩,
 ⟨some 18, false, none, iLoad (.t 3)⟩,
 ⟨some 19, false, none, iCall (.c (.func (.func 52) [] [])) [(.t 16), (.t 17), (.t 18)]⟩,
 ⟨some 8, true, none, iAlloc 46 [(.int .i64 (.lit 0)), (.int .i64 (.lit 0))]⟩,
 ⟨none, false, none, iStore 2 (.t 8) (.t 19)⟩])
 (cSeq (cSeq (cOps [⟨some 20, false, none, iLoad (.t 5)⟩,
 ⟨some 21, true, none, iNot (.t 20)⟩])
 (cCond (.t 21) (cOps [⟨some 22, false, none, iLoadN 2 (.t 8)⟩,
 ⟨none, false, none, iStore 2 (.t 4) (.t 22)⟩,
 ⟨none, false, none, iStore 1 (.t 5) (.c (.bool (.lit true)))⟩]) cSkip))
 (dOps 0 [⟨⟨some 23, false, none, iFaddr 0 (.t 4)⟩, [4], false, 0, 2, none, []⟩,
 ⟨⟨some 24, false, none, iLoad (.t 23)⟩, [23], false, 0, 2, none, []⟩,
 ⟨⟨some 25, false, none, iFaddr 0 (.t 8)⟩, [8], false, 0, 2, none, []⟩,
 ⟨⟨some 26, false, none, iLoad (.t 25)⟩, [25], false, 0, 2, none, []⟩,
 ⟨⟨some 27, false, none, iMin [(.t 24), (.t 26)]⟩, [24, 26], false, 0, 2, none, []⟩,
 ⟨⟨some 28, false, none, iFaddr 1 (.t 4)⟩, [4], false, 0, 1, none, []⟩,
 ⟨⟨some 29, false, none, iLoad (.t 28)⟩, [28], false, 0, 1, none, []⟩,
 ⟨⟨some 30, false, none, iFaddr 1 (.t 8)⟩, [8], false, 0, 0, none, []⟩,
 ⟨⟨some 31, false, none, iLoad (.t 30)⟩, [30], false, 0, 0, none, []⟩,
 ⟨⟨some 32, false, none, iBslice 3 [(.int .i64 (.lit 0))] 1 [(0, 1, (.t 31))]⟩, [31], true, 0, 0, none, []⟩,
 ⟨⟨some 33, false, none, iCall (.c (.func (.func 53) [] [])) [(.t 29), (.t 32)]⟩, [29, 32], true, 1, 0, none, []⟩,
 ⟨⟨some 34, false, none, iBuild [(.int .i64 (.lit 0)), (.int .i64 (.lit 0))] [(0, 1, (.t 27)), (1, 1, (.t 33))]⟩, [27, 33], false, 2, 2, none, []⟩,
 ⟨⟨none, false, none, iStore 2 (.t 4) (.t 34)⟩, [4, 34], true, 2, 0, none, []⟩]))))
noncomputable def Tryd.kp33 : List Nat := [0, 1, 2, 3, 4, 5, 6, 7, 8, 10, 11, 14, 15, 21]
noncomputable def Tryd.cf33 : CF := ⟨2, (cSeq (cOps [⟨some 2, true, none, iBox 66 (.t 0)⟩,
 ⟨some 3, true, none, iBox 3 (.t 1)⟩,
 ⟨some 4, true, none, iAlloc 46 [(.int .i64 (.lit 0)), (.int .i64 (.lit 0))]⟩,
 ⟨some 5, true, none, iAlloc 4 [(.bool (.lit false))]⟩])
 (cSeq (cSeq (cOps [⟨some 9, false, none, iLoadN 11 (.t 2)⟩,
 ⟨some 10, true, none, iCall (.c (.func (.func 44) [] [])) [(.t 9)]⟩])
 (cBlock 0 (cRange (.t 10) [11] 33011)))
 (cSeq (dOps 0 [⟨⟨some 35, false, none, iLoadN 2 (.t 4)⟩, [4], false, 0, 0, none, []⟩,
 ⟨⟨some 36, false, none, iLoad (.t 5)⟩, [5], false, 0, 1, none, []⟩,
 ⟨⟨none, false, none, iStore 2 (.t 4) (.t 35)⟩, [4, 35], true, 0, 0, none, []⟩,
 ⟨⟨none, false, none, iStore 1 (.t 5) (.t 36)⟩, [5, 36], true, 1, 0, none, []⟩])
 cRet))), [.cell 4 true 2, .cell 5 false 1]⟩
noncomputable def Tryd.kp34 : List Nat := [0, 1, 2, 3]
noncomputable def Tryd.cf34 : CF := ⟨1, (cSeq (cOps [⟨some 1, true, none, iBox 66 (.t 0)⟩,
 ⟨some 2, true, none, iMov (.c .nilslice)⟩])
 (cSeq (cOps [⟨some 6, false, none, iBuild [.nilFunc] [(0, 1, (.c (.func (.func 49) [] [])))]⟩,
 ⟨some 7, false, none, iLoadN 11 (.t 1)⟩,
 ⟨some 8, false, none, iCall (.c (.func (.func 55) [] [])) [(.t 7)]⟩,
 ⟨some 9, false, none, iCall (.c (.func (.func 54) [] [])) [(.t 6), (.t 8)]⟩,
 ⟨some 5, false, none, iMov (.t 9)⟩,
 ⟨some 10, false, none, iExtract 0 (.t 5)⟩,
 ⟨some 11, false, none, iExtract 1 (.t 5)⟩,
 ⟨some 3, true, none, iMov (.t 10)⟩,
 ⟨some 4, false, none, iMov (.t 11)⟩])
 (cSeq (cOps [⟨some 12, false, none, iMov (.t 3)⟩,
 ⟨some 2, true, none, iMov (.t 12)⟩])
 cRet))), [.t 2]⟩
noncomputable def Tryd.kp35 : List Nat := [0, 1, 2, 4, 5, 6, 7, 8, 16, 17, 18, 25]
noncomputable def Tryd.cf35 : CF := ⟨2, (cSeq (cOps [⟨some 2, true, none, iBox 66 (.t 0)⟩,
 ⟨some 4, true, none, iMov (.c (.int .i64 (.lit 0)))⟩])
 (cSeq (cOps [⟨some 9, false, none, iMov (.t 1)⟩,
 ⟨some 10, false, none, iLenS (.t 9)⟩,
 ⟨some 11, false, none, iArith .add (.t 10) (.c (.int .i64 (.lit 1)))⟩,
 ⟨some 5, true, none, iMov (.c (.int .i64 (.lit 0)))⟩,
 ⟨some 6, true, none, iMov (.t 11)⟩])
 (cSeq (cSeq (cOps [⟨some 12, false, none, iFaddr 0 (.t 2)⟩,
 ⟨some 13, false, none, iFaddr 0 (.t 12)⟩,
 ⟨some 14, false, none, iFaddr 0 (.t 13)⟩,
 ⟨some 15, false, none, iLoad (.t 14)⟩,
 ⟨some 16, true, none, iLenS (.t 15)⟩,
 ⟨some 17, true, none, iMov (.c (.int .i64 (.lit 0)))⟩])
 (cBlock 0 (cLoop (cSeq (cOps [⟨some 18, true, none, iCmp .lss (.t 17) (.t 16)⟩])
 (cSeq (cCond (.t 18) cSkip (cExit 0))
 (cSeq (cBlock 1 (cSeq (cOps [⟨some 19, false, none, iMov (.t 17)⟩,
 ⟨some 7, true, none, iMov (.t 19)⟩])
 (cSeq (cOps [⟨some 20, false, none, iMov (.t 1)⟩,
 ⟨some 21, false, none, iMov (.t 7)⟩,
 ⟨some 22, false, none, iCall (.c (.func (.func 56) [] [])) [(.t 20), (.t 21)]⟩,
 ⟨some 8, true, none, iMov (.t 22)⟩])
 (cSeq (cOps [⟨some 23, false, none, iMov (.t 8)⟩,
 ⟨some 24, false, none, iMov (.t 6)⟩,
 ⟨some 25, true, none, iCmp .lss (.t 23) (.t 24)⟩])
 (cCond (.t 25) (cOps [⟨some 26, false, none, iMov (.t 7)⟩,
 ⟨some 27, false, none, iMov (.t 8)⟩,
 ⟨some 5, true, none, iMov (.t 26)⟩,
 ⟨some 6, true, none, iMov (.t 27)⟩]) cSkip)))))
 (cOps [⟨some 28, false, none, iArith .add (.t 17) (.c (.int .i64 (.lit 1)))⟩,
 ⟨some 17, true, none, iMov (.t 28)⟩])))))))
 (cSeq (cOps [⟨some 29, false, none, iMov (.t 5)⟩,
 ⟨some 4, true, none, iMov (.t 29)⟩])
 cRet)))), [.t 4]⟩
noncomputable def Tryd.kp36 : List Nat := [0, 1, 2, 3, 4, 6, 14, 15, 16, 24, 27, 28, 29, 30, 36]
noncomputable def Tryd.cf36 : CF := ⟨1, (cSeq (cOps [⟨some 1, true, none, iBox 28 (.t 0)⟩,
 ⟨some 2, true, none, iMov (.c (.bool (.lit false)))⟩])
 (cSeq (cSeq (cOps [⟨some 7, false, none, iFaddr 4 (.t 1)⟩,
 ⟨some 8, false, none, iLoad (.t 7)⟩,
 ⟨some 9, false, none, iFaddr 5 (.t 1)⟩,
 ⟨some 10, false, none, iLoad (.t 9)⟩,
 ⟨some 11, false, none, iFaddr 6 (.t 1)⟩,
 ⟨some 12, false, none, iLoad (.t 11)⟩,
 ⟨some 13, false, none, iLenS (.t 12)⟩,
 ⟨some 14, true, none, iBuild [(.int .i64 (.lit 0)), (.int .i64 (.lit 0)), (.int .i64 (.lit 0))] [(0, 1, (.t 8)), (1, 1, (.t 10)), (2, 1, (.t 13))]⟩,
 ⟨some 15, true, none, iMov (.c (.int .i64 (.lit 0)))⟩])
 (cBlock 0 (cLoop (cSeq (cOps [⟨some 16, true, none, iCmp .lss (.t 15) (.c (.int .i64 (.lit 3)))⟩])
 (cSeq (cCond (.t 16) cSkip (cExit 0))
 (cSeq (cBlock 1 (cSeq (cOps [⟨some 17, false, none, iMov (.t 15)⟩,
 ⟨some 18, false, none, iIndex false 1 3 (.t 14) (.t 15)⟩,
 ⟨some 3, true, none, iMov (.t 17)⟩,
 ⟨some 4, true, none, iMov (.t 18)⟩])
 (cSeq (cOps [⟨some 19, false, none, iMov (.t 4)⟩,
 ⟨some 20, false, none, iMov (.t 3)⟩,
 ⟨some 21, false, none, iIaddrA 2 3 (.c (.ptr 0 0)) (.t 20)⟩,
 ⟨some 22, false, none, iLoadN 2 (.t 21)⟩,
 ⟨some 23, false, none, iCall (.c (.func (.func 57) [] [])) [(.t 19), (.t 22)]⟩,
 ⟨some 24, true, none, iNot (.t 23)⟩])
 (cCond (.t 24) (cSeq (cOps [⟨some 2, true, none, iMov (.c (.bool (.lit false)))⟩])
 cRet) cSkip))))
 (cOps [⟨some 25, false, none, iArith .add (.t 15) (.c (.int .i64 (.lit 1)))⟩,
 ⟨some 15, true, none, iMov (.t 25)⟩])))))))
 (cSeq (cSeq (cOps [⟨some 26, false, none, iFaddr 6 (.t 1)⟩,
 ⟨some 27, true, none, iLoad (.t 26)⟩,
 ⟨some 28, true, none, iLenS (.t 27)⟩,
 ⟨some 29, true, none, iMov (.c (.int .i64 (.lit 0)))⟩])
 (cBlock 2 (cLoop (cSeq (cOps [⟨some 30, true, none, iCmp .lss (.t 29) (.t 28)⟩])
 (cSeq (cCond (.t 30) cSkip (cExit 2))
 (cSeq (cBlock 3 (cSeq (cOps [⟨some 31, false, none, iIaddr 4 (.t 27) (.t 29)⟩,
 ⟨some 32, false, none, iLoadN 4 (.t 31)⟩,
 ⟨some 6, true, none, iAlloc 31 [(.bool (.lit false)), (.int .i64 (.lit 0)), (.int .i64 (.lit 0)), (.bool (.lit false))]⟩,
 ⟨none, false, none, iStore 4 (.t 6) (.t 32)⟩])
 (cSeq (cOps [⟨some 33, false, none, iLoadN 7 (.t 1)⟩,
 ⟨some 34, false, none, iLoadN 4 (.t 6)⟩,
 ⟨some 35, false, none, iCall (.c (.func (.func 58) [] [])) [(.t 33), (.t 34)]⟩,
 ⟨some 36, true, none, iNot (.t 35)⟩])
 (cCond (.t 36) (cSeq (cOps [⟨some 2, true, none, iMov (.c (.bool (.lit false)))⟩])
 cRet) cSkip))))
 (cOps [⟨some 37, false, none, iArith .add (.t 29) (.c (.int .i64 (.lit 1)))⟩,
 ⟨some 29, true, none, iMov (.t 37)⟩])))))))
 (cSeq (cOps [⟨some 38, false, none, iFaddr 3 (.t 1)⟩,
 ⟨some 39, false, none, iLoad (.t 38)⟩,
 ⟨some 40, false, none, iFaddr 0 (.t 1)⟩,
 ⟨some 41, false, none, iFaddr 0 (.t 40)⟩,
 ⟨some 42, false, none, iLoad (.t 41)⟩,
 ⟨some 43, false, none, iLenS (.t 42)⟩,
 ⟨some 44, false, none, iCall (.c (.func (.func 32) [] [])) [(.t 39), (.t 43)]⟩,
 ⟨some 45, false, none, iMov (.t 44)⟩,
 ⟨some 46, false, some (45, true), iFaddr 0 (.t 1)⟩,
 ⟨some 47, false, some (45, true), iLoadN 3 (.t 46)⟩,
 ⟨some 48, false, some (45, true), iCall (.c (.func (.func 59) [] [])) [(.t 47)]⟩,
 ⟨some 49, false, some (45, true), iCmp .eql (.t 48) (.c (.int .i64 (.lit 0)))⟩,
 ⟨some 50, false, none, iPick (.t 45) (.t 49) (.c (.bool (.lit false)))⟩,
 ⟨some 2, true, none, iMov (.t 50)⟩])
 cRet)))), [.t 2]⟩
noncomputable def Tryd.kp37 : List Nat := [0, 1, 4, 5, 6, 18]
noncomputable def Tryd.cf37 : CF := ⟨2, (cSeq (cOps [⟨some 4, true, none, iMov (.c (.bool (.lit false)))⟩])
 (cSeq (cOps [⟨some 7, false, none, iMov (.t 0)⟩,
 ⟨some 8, false, none, iLenS (.t 7)⟩,
 ⟨some 9, false, none, iMov (.t 1)⟩,
 ⟨some 10, false, none, iLenS (.t 9)⟩,
 ⟨some 11, false, none, iCmp .eql (.t 8) (.t 10)⟩,
 ⟨some 5, true, none, iMov (.t 11)⟩])
 (cSeq (cSeq (cOps [⟨some 6, true, none, iMov (.c (.int .i64 (.lit 0)))⟩])
 (cBlock 0 (cLoop (cSeq (cSeq (cOps [⟨some 12, false, none, iMov (.t 5)⟩,
 ⟨some 13, false, none, iMov (.t 12)⟩,
 ⟨some 14, false, some (13, true), iMov (.t 6)⟩,
 ⟨some 15, false, some (13, true), iMov (.t 0)⟩,
 ⟨some 16, false, some (13, true), iLenS (.t 15)⟩,
 ⟨some 17, false, some (13, true), iCmp .lss (.t 14) (.t 16)⟩,
 ⟨some 18, true, none, iPick (.t 13) (.t 17) (.c (.bool (.lit false)))⟩])
 (cCond (.t 18) cSkip (cExit 0)))
 (cSeq (cBlock 1 (dOps 0 [⟨⟨some 21, false, none, iMov (.t 0)⟩, [0], false, 0, 0, none, []⟩,
 ⟨⟨some 22, false, none, iMov (.t 6)⟩, [6], false, 0, 0, none, []⟩,
 ⟨⟨some 23, false, none, iIaddr 3 (.t 21) (.t 22)⟩, [21, 22], false, 0, 0, none, []⟩,
 ⟨⟨some 24, false, none, iLoadN 3 (.t 23)⟩, [23], false, 0, 0, none, []⟩,
 ⟨⟨some 25, false, none, iMov (.t 1)⟩, [1], false, 0, 0, none, []⟩,
 ⟨⟨some 26, false, none, iMov (.t 6)⟩, [6], false, 0, 0, none, []⟩,
 ⟨⟨some 27, false, none, iIaddr 3 (.t 25) (.t 26)⟩, [25, 26], false, 0, 0, none, []⟩,
 ⟨⟨some 28, false, none, iLoadN 3 (.t 27)⟩, [27], false, 0, 0, none, []⟩,
 ⟨⟨some 29, false, none, iEq false true 3 [(0, .int), (1, .int), (2, .int)] (.t 24) (.t 28)⟩, [24, 28], false, 0, 0, none, []⟩,
 ⟨⟨some 5, true, none, iMov (.t 29)⟩, [29], false, 0, 0, none, []⟩]))
 (cOps [⟨some 19, false, none, iMov (.t 6)⟩,
 ⟨some 20, false, none, iArith .add (.t 19) (.c (.int .i64 (.lit 1)))⟩,
 ⟨some 6, true, none, iMov (.t 20)⟩]))))))
 (cSeq (cOps [⟨some 30, false, none, iMov (.t 5)⟩,
 ⟨some 4, true, none, iMov (.t 30)⟩])
 cRet)))), [.t 4]⟩
noncomputable def Tryd.kp38 : List Nat := [0, 1, 2, 6]
noncomputable def Tryd.cf38 : CF := ⟨3, (cSeq (cOps [⟨some 6, true, none, iAlloc 93 [(.int .i64 (.lit 0)), (.int .i64 (.lit 0)), (.int .i64 (.lit 0))]⟩])
 (cSeq (cOps [⟨some 7, false, none, iMov (.t 0)⟩,
 ⟨some 8, false, none, iMov (.t 1)⟩,
 ⟨some 9, false, none, iMov (.t 2)⟩,
 ⟨some 10, false, none, iBuild [(.int .i64 (.lit 0)), (.int .i64 (.lit 0)), (.int .i64 (.lit 0))] [(0, 1, (.t 7)), (1, 1, (.t 8)), (2, 1, (.t 9))]⟩,
 ⟨none, false, none, iStore 3 (.t 6) (.t 10)⟩])
 cRet)), [.cell 6 true 3]⟩
noncomputable def Tryd.kp39 : List Nat := [0]
noncomputable def Tryd.cf39 : CF := ⟨0, (cSeq (cOps [⟨some 0, true, none, iAlloc 100 [.nilFunc, .nilFunc]⟩])
 (cSeq (cOps [⟨some 1, false, none, iBuild [.nilFunc, .nilFunc] [(0, 1, (.c (.func (.func 60) [] []))), (1, 1, (.c (.func (.func 61) [] [])))]⟩,
 ⟨none, false, none, iStore 2 (.t 0) (.t 1)⟩])
 cRet)), [.cell 0 true 2]⟩
noncomputable def Tryd.kp40 : List Nat := [0, 1, 2, 4]
noncomputable def Tryd.cf40 : CF := ⟨1, (cSeq (cOps [⟨some 1, true, none, iBox 31 (.t 0)⟩,
 ⟨some 2, true, none, iMov (.c (.int .i64 (.lit 0)))⟩])
 (cSeq (cSeq (cOps [⟨some 3, false, none, iFaddr 0 (.t 1)⟩,
 ⟨some 4, true, none, iLoad (.t 3)⟩])
 (cCond (.t 4) (cSeq (cOps [⟨some 2, true, none, iMov (.c (.int .i64 (.lit 1)))⟩])
 cRet) cSkip))
 (cSeq (cOps [⟨some 2, true, none, iMov (.c (.int .i64 (.lit 0)))⟩])
 cRet))), [.t 2]⟩
noncomputable def Tryd.kp41 : List Nat := [0, 1, 2, 4]
noncomputable def Tryd.cf41 : CF := ⟨2, (cSeq (cOps [⟨some 2, true, none, iBox 28 (.t 0)⟩,
 ⟨some 4, true, none, iMov (.c (.bool (.lit false)))⟩])
 (cSeq (cOps [⟨some 5, false, none, iMov (.t 1)⟩,
 ⟨some 6, false, none, iFaddr 4 (.t 2)⟩,
 ⟨some 7, false, none, iLoad (.t 6)⟩,
 ⟨some 8, false, none, iBuild [(.int .i64 (.lit 0)), (.int .i64 (.lit 0))] [(0, 1, (.t 7)), (1, 1, (.c (.int .i64 (.lit 2999))))]⟩,
 ⟨some 9, false, none, iCall (.c (.func (.func 57) [] [])) [(.t 5), (.t 8)]⟩,
 ⟨some 4, true, none, iMov (.t 9)⟩])
 cRet)), [.t 4]⟩
noncomputable def Tryd.kp42 : List Nat := [0, 1, 2, 3, 4]
noncomputable def Tryd.cf42 : CF := ⟨2, (cSeq (cOps [⟨some 2, true, none, iBox 66 (.t 0)⟩,
 ⟨some 3, true, none, iBox 108 (.t 1)⟩,
 ⟨some 4, true, none, iMov (.c .nilFunc)⟩])
 (cSeq (cOps [⟨some 5, false, none, iFunc (.func 62) [] [(.t 2), (.t 3)]⟩,
 ⟨some 4, true, none, iMov (.t 5)⟩])
 cRet)), [.t 4]⟩
noncomputable def Tryd.kp43 : List Nat := [0, 1, 2, 3, 4, 5, 6, 7, 8, 9, 31, 47]
noncomputable def Tryd.cf43 : CF := ⟨2, (cSeq (cOps [⟨some 2, true, none, iBox 66 (.t 0)⟩,
 ⟨some 3, true, none, iBox 54 (.t 1)⟩])
 (cSeq (cOps [⟨some 10, false, none, iFaddr 0 (.t 2)⟩,
 ⟨some 11, false, none, iFaddr 0 (.t 10)⟩,
 ⟨some 12, false, none, iFaddr 1 (.t 11)⟩,
 ⟨some 13, false, none, iLoad (.t 12)⟩,
 ⟨some 14, false, none, iFaddr 0 (.t 3)⟩,
 ⟨some 15, false, none, iLoad (.t 14)⟩,
 ⟨some 16, false, none, iIaddr 3 (.t 13) (.t 15)⟩,
 ⟨some 17, false, none, iFaddr 1 (.t 16)⟩,
 ⟨some 18, false, none, iLoadN 2 (.t 17)⟩,
 ⟨some 4, true, none, iAlloc 46 [(.int .i64 (.lit 0)), (.int .i64 (.lit 0))]⟩,
 ⟨none, false, none, iStore 2 (.t 4) (.t 18)⟩])
 (cSeq (dOps 1 [⟨⟨some 19, false, none, iFaddr 0 (.t 4)⟩, [4], false, 0, 1, none, []⟩,
 ⟨⟨some 20, false, none, iLoad (.t 19)⟩, [19], false, 0, 1, none, []⟩,
 ⟨⟨some 21, false, none, iLoadN 11 (.t 2)⟩, [2], false, 0, 0, none, []⟩,
 ⟨⟨some 22, false, none, iLoadN 3 (.t 3)⟩, [3], false, 0, 0, none, []⟩,
 ⟨⟨some 23, false, none, iFaddr 0 (.t 4)⟩, [4], false, 0, 0, none, []⟩,
 ⟨⟨some 24, false, none, iLoad (.t 23)⟩, [23], false, 0, 0, none, []⟩,
 ⟨⟨some 25, false, none, iCall (.c (.func (.func 63) [] [])) [(.t 21), (.t 22), (.t 24)]⟩, [21, 22, 24], true, 0, 0, none, []⟩,
 ⟨⟨some 6, true, none, iAlloc 143 [(.int .i64 (.lit 0)), (.int .i64 (.lit 0)), (.int .i64 (.lit 0)), (.int .i64 (.lit 0)), (.int .i64 (.lit 0)), (.int .i64 (.lit 0)), (.int .i64 (.lit 0))]⟩, [], false, 0, 2, (some (flAlloc [(.int .i64 (.lit 0)), (.int .i64 (.lit 0)), (.int .i64 (.lit 0)), (.int .i64 (.lit 0)), (.int .i64 (.lit 0)), (.int .i64 (.lit 0)), (.int .i64 (.lit 0))], .ptr, 0)), []⟩,
 ⟨⟨some 5, true, none, iMov (.t 20)⟩, [20], false, 1, 1, none, []⟩,
 ⟨⟨none, false, none, iStore 7 (.t 6) (.t 25)⟩, [6, 25], true, 1, 0, none, [0]⟩])
 (cSeq (cOps [⟨some 26, false, none, iFaddr 0 (.t 4)⟩,
 ⟨some 27, false, none, iLoad (.t 26)⟩,
 ⟨some 7, true, none, iMov (.t 27)⟩])
 (cBlock 0 (cLoop (cSeq (cSeq (cOps [⟨some 28, false, none, iMov (.t 7)⟩,
 ⟨some 29, false, none, iFaddr 1 (.t 4)⟩,
 ⟨some 30, false, none, iLoad (.t 29)⟩,
 ⟨some 31, true, none, iCmp .leq (.t 28) (.t 30)⟩])
 (cCond (.t 31) cSkip (cExit 0)))
 (cSeq (cBlock 1 (cSeq (cOps [⟨some 34, false, none, iLoadN 11 (.t 2)⟩,
 ⟨some 35, false, none, iLoadN 3 (.t 3)⟩,
 ⟨some 36, false, none, iMov (.t 7)⟩,
 ⟨some 37, false, none, iArith .add (.t 36) (.c (.int .i64 (.lit 1)))⟩,
 ⟨some 38, false, none, iCall (.c (.func (.func 63) [] [])) [(.t 34), (.t 35), (.t 37)]⟩,
 ⟨some 8, true, none, iAlloc 143 [(.int .i64 (.lit 0)), (.int .i64 (.lit 0)), (.int .i64 (.lit 0)), (.int .i64 (.lit 0)), (.int .i64 (.lit 0)), (.int .i64 (.lit 0)), (.int .i64 (.lit 0))]⟩,
 ⟨none, false, none, iStore 7 (.t 8) (.t 38)⟩])
 (cSeq (cSeq (cOps [⟨some 39, false, none, iMov (.t 7)⟩,
 ⟨some 40, false, none, iFaddr 1 (.t 4)⟩,
 ⟨some 41, false, none, iLoad (.t 40)⟩,
 ⟨some 42, false, none, iCmp .lss (.t 39) (.t 41)⟩,
 ⟨some 43, false, none, iMov (.t 42)⟩,
 ⟨some 44, false, some (43, true), iLoadN 7 (.t 8)⟩,
 ⟨some 45, false, some (43, true), iLoadN 7 (.t 6)⟩,
 ⟨some 46, false, some (43, true), iEq false true 7 [(0, .int), (1, .int), (2, .int), (3, .int), (4, .int), (5, .int), (6, .int)] (.t 44) (.t 45)⟩,
 ⟨some 47, true, none, iPick (.t 43) (.t 46) (.c (.bool (.lit false)))⟩])
 (cCond (.t 47) (cExit 1) cSkip))
 (cSeq (cOps [⟨some 48, false, none, iLoadN 3 (.t 3)⟩,
 ⟨some 49, false, none, iMov (.t 5)⟩,
 ⟨some 50, false, none, iMov (.t 7)⟩,
 ⟨some 51, false, none, iBuild [(.int .i64 (.lit 0)), (.int .i64 (.lit 0))] [(0, 1, (.t 49)), (1, 1, (.t 50))]⟩,
 ⟨some 52, false, none, iBuild [(.int .i64 (.lit 0)), (.int .i64 (.lit 0)), (.int .i64 (.lit 0)), (.int .i64 (.lit 0)), (.int .i64 (.lit 0))] [(0, 3, (.t 48)), (3, 2, (.t 51))]⟩,
 ⟨some 9, true, none, iAlloc 146 [(.int .i64 (.lit 0)), (.int .i64 (.lit 0)), (.int .i64 (.lit 0)), (.int .i64 (.lit 0)), (.int .i64 (.lit 0))]⟩,
 ⟨none, false, none, iStore 5 (.t 9) (.t 52)⟩])
 (cSeq (cOps [⟨some 53, false, none, iFaddr 9 (.t 2)⟩,
 ⟨some 54, false, none, iLoad (.t 53)⟩,
 ⟨some 55, false, none, iLoadN 3 (.t 3)⟩,
 ⟨some 57, false, none, iLoadN 5 (.t 9)⟩,
 ⟨some 58, false, none, iBslice 146 [(.int .i64 (.lit 0)), (.int .i64 (.lit 0)), (.int .i64 (.lit 0)), (.int .i64 (.lit 0)), (.int .i64 (.lit 0))] 1 [(0, 5, (.t 57))]⟩,
 ⟨some 59, false, none, iMapent .nilslice true 3 [(0, .int), (1, .int), (2, .int)] (.t 54) (.t 55)⟩,
 ⟨some 56, false, none, iExtract 0 (.t 59)⟩,
 ⟨some 60, false, none, iAppend 146 5 40 (.t 56) (.t 58)⟩,
 ⟨some 61, false, none, iExtract 1 (.t 59)⟩,
 ⟨none, false, none, iEntset (.t 54) (.t 61) (.t 60)⟩])
 (cSeq (cOps [⟨some 62, false, none, iFaddr 10 (.t 2)⟩,
 ⟨some 63, false, none, iLoad (.t 62)⟩,
 ⟨some 64, false, none, iLoadN 5 (.t 9)⟩,
 ⟨some 65, false, none, iLoadN 7 (.t 6)⟩,
 ⟨none, false, none, iMapset true 5 [(0, .int), (1, .int), (2, .int), (3, .int), (4, .int)] (.t 63) (.t 64) (.t 65)⟩])
 (dOps 0 [⟨⟨some 66, false, none, iMov (.t 7)⟩, [7], false, 0, 0, none, []⟩,
 ⟨⟨some 67, false, none, iArith .add (.t 66) (.c (.int .i64 (.lit 1)))⟩, [66], false, 0, 0, none, []⟩,
 ⟨⟨some 68, false, none, iLoadN 7 (.t 8)⟩, [8], false, 0, 0, none, []⟩,
 ⟨⟨some 5, true, none, iMov (.t 67)⟩, [67], false, 0, 0, none, []⟩,
 ⟨⟨none, false, none, iStore 7 (.t 6) (.t 68)⟩, [6, 68], true, 0, 0, none, []⟩])))))))
 (cOps [⟨some 32, false, none, iMov (.t 7)⟩,
 ⟨some 33, false, none, iArith .add (.t 32) (.c (.int .i64 (.lit 1)))⟩,
 ⟨some 7, true, none, iMov (.t 33)⟩]))))))))), []⟩
noncomputable def Tryd.kp44 : List Nat := [0, 1, 2]
noncomputable def Tryd.cf44 : CF := ⟨1, (cSeq (cOps [⟨some 1, true, none, iBox 66 (.t 0)⟩,
 ⟨some 2, true, none, iMov (.c .nilFunc)⟩])
 (cSeq (cOps [⟨some 3, false, none, iFunc (.func 64) [] [(.t 1)]⟩,
 ⟨some 2, true, none, iMov (.t 3)⟩])
 cRet)), [.t 2]⟩
noncomputable def Tryd.kp45 : List Nat := [0, 1, 4, 5, 10, 12, 13, 14, 24]
noncomputable def Tryd.cf45 : CF := ⟨2, (cSeq (cOps [⟨some 4, true, none, iMov (.c (.bool (.lit false)))⟩])
 (cSeq (cSeq (cOps [⟨some 6, false, none, iMov (.t 0)⟩,
 ⟨some 7, false, none, iLenS (.t 6)⟩,
 ⟨some 8, false, none, iMov (.t 1)⟩,
 ⟨some 9, false, none, iLenS (.t 8)⟩,
 ⟨some 10, true, none, iCmp .neq (.t 7) (.t 9)⟩])
 (cCond (.t 10) (cSeq (cOps [⟨some 4, true, none, iMov (.c (.bool (.lit false)))⟩])
 cRet) cSkip))
 (cSeq (cSeq (cOps [⟨some 11, false, none, iMov (.t 0)⟩,
 ⟨some 12, true, none, iLenS (.t 11)⟩,
 ⟨some 13, true, none, iMov (.c (.int .i64 (.lit 0)))⟩])
 (cBlock 0 (cLoop (cSeq (cOps [⟨some 14, true, none, iCmp .lss (.t 13) (.t 12)⟩])
 (cSeq (cCond (.t 14) cSkip (cExit 0))
 (cSeq (cBlock 1 (cSeq (cOps [⟨some 15, false, none, iMov (.t 13)⟩,
 ⟨some 5, true, none, iMov (.t 15)⟩])
 (cSeq (dOps 0 [⟨⟨some 16, false, none, iMov (.t 0)⟩, [0], false, 0, 0, none, []⟩,
 ⟨⟨some 17, false, none, iMov (.t 5)⟩, [5], false, 0, 0, none, []⟩,
 ⟨⟨some 18, false, none, iIaddr 3 (.t 16) (.t 17)⟩, [16, 17], false, 0, 0, none, []⟩,
 ⟨⟨some 19, false, none, iLoadN 3 (.t 18)⟩, [18], false, 0, 0, none, []⟩,
 ⟨⟨some 20, false, none, iMov (.t 1)⟩, [1], false, 0, 0, none, []⟩,
 ⟨⟨some 21, false, none, iMov (.t 5)⟩, [5], false, 0, 0, none, []⟩,
 ⟨⟨some 22, false, none, iIaddr 3 (.t 20) (.t 21)⟩, [20, 21], false, 0, 0, none, []⟩,
 ⟨⟨some 23, false, none, iLoadN 3 (.t 22)⟩, [22], false, 0, 0, none, []⟩,
 ⟨⟨some 24, true, none, iEq true true 3 [(0, .int), (1, .int), (2, .int)] (.t 19) (.t 23)⟩, [19, 23], false, 0, 0, none, []⟩])
 (cCond (.t 24) (cSeq (cOps [⟨some 4, true, none, iMov (.c (.bool (.lit false)))⟩])
 cRet) cSkip))))
 (cOps [⟨some 25, false, none, iArith .add (.t 13) (.c (.int .i64 (.lit 1)))⟩,
 ⟨some 13, true, none, iMov (.t 25)⟩])))))))
 (cSeq (cOps [⟨some 4, true, none, iMov (.c (.bool (.lit true)))⟩])
 cRet)))), [.t 4]⟩
noncomputable def Tryd.kp46 : List Nat := [0, 1, 2, 4]
noncomputable def Tryd.cf46 : CF := ⟨2, (cSeq (cOps [⟨some 2, true, none, iBox 66 (.t 0)⟩,
 ⟨some 4, true, none, iMov (.c .nilFunc)⟩])
 (cSeq (dOps 0 [⟨⟨some 5, false, none, iLoadN 11 (.t 2)⟩, [2], false, 0, 0, none, []⟩,
 ⟨⟨some 6, false, none, iMov (.t 1)⟩, [1], false, 0, 0, none, []⟩,
 ⟨⟨some 7, false, none, iCall (.c (.func (.func 69) [] [])) [(.t 5), (.t 6)]⟩, [5, 6], true, 0, 0, none, []⟩,
 ⟨⟨some 8, false, none, iLoadN 11 (.t 2)⟩, [2], false, 0, 1, none, []⟩,
 ⟨⟨some 9, false, none, iFunc (.func 70) [(.t 8)] []⟩, [8], false, 0, 1, none, []⟩,
 ⟨⟨some 10, false, none, iCall (.c (.func (.func 68) [] [])) [(.t 7), (.t 9)]⟩, [7, 9], true, 1, 0, none, []⟩,
 ⟨⟨some 4, true, none, iMov (.t 10)⟩, [10], false, 2, 2, none, []⟩])
 cRet)), [.t 4]⟩
noncomputable def Tryd.kp47 : List Nat := [0, 1, 2, 3, 4]
noncomputable def Tryd.cf47 : CF := ⟨2, (cSeq (cOps [⟨some 2, true, none, iBox 72 (.t 0)⟩,
 ⟨some 3, true, none, iBox 69 (.t 1)⟩,
 ⟨some 4, true, none, iMov (.c .nilFunc)⟩])
 (cSeq (cOps [⟨some 5, false, none, iFunc (.func 71) [] [(.t 2), (.t 3)]⟩,
 ⟨some 4, true, none, iMov (.t 5)⟩])
 cRet)), [.t 4]⟩
noncomputable def Tryd.kp48 : List Nat := [0, 2, 3, 5, 6, 7, 8, 9, 14]
noncomputable def Tryd.cf48 : CF := ⟨1, (cSeq (cOps [⟨some 2, true, none, iMov (.c (.int .i64 (.lit 0)))⟩])
 (cSeq (cOps [⟨some 3, true, none, iMov (.c (.int .i64 (.lit 0)))⟩])
 (cSeq (cSeq (cOps [⟨some 6, true, none, iMov (.t 0)⟩,
 ⟨some 7, true, none, iLenS (.t 6)⟩,
 ⟨some 8, true, none, iMov (.c (.int .i64 (.lit 0)))⟩])
 (cBlock 0 (cLoop (cSeq (cOps [⟨some 9, true, none, iCmp .lss (.t 8) (.t 7)⟩])
 (cSeq (cCond (.t 9) cSkip (cExit 0))
 (cSeq (cBlock 1 (cSeq (cOps [⟨some 10, false, none, iIaddr 1 (.t 6) (.t 8)⟩,
 ⟨some 11, false, none, iLoad (.t 10)⟩,
 ⟨some 5, true, none, iMov (.t 11)⟩])
 (cSeq (cOps [⟨some 12, false, none, iMov (.t 5)⟩,
 ⟨some 13, false, none, iMov (.t 3)⟩,
 ⟨some 14, true, none, iCmp .neq (.t 12) (.t 13)⟩])
 (cCond (.t 14) (cSeq (cOps [⟨some 15, false, none, iMov (.t 5)⟩,
 ⟨some 2, true, none, iMov (.t 15)⟩])
 cRet) cSkip))))
 (cOps [⟨some 16, false, none, iArith .add (.t 8) (.c (.int .i64 (.lit 1)))⟩,
 ⟨some 8, true, none, iMov (.t 16)⟩])))))))
 (cSeq (cOps [⟨some 17, false, none, iMov (.t 3)⟩,
 ⟨some 2, true, none, iMov (.t 17)⟩])
 cRet)))), [.t 2]⟩
noncomputable def Tryd.kp49 : List Nat := [0, 1, 4, 5, 6, 11, 12, 13, 16, 19]
noncomputable def Tryd.cf49 : CF := ⟨2, (cSeq (cOps [⟨some 4, true, none, iMov (.c (.int .i64 (.lit 0)))⟩])
 (cSeq (cOps [⟨some 7, false, none, iMov (.t 0)⟩,
 ⟨some 8, false, none, iCall (.c (.func (.func 72) [] [])) [(.t 7)]⟩,
 ⟨some 5, true, none, iMov (.t 8)⟩])
 (cSeq (cOps [⟨some 9, false, none, iMov (.t 1)⟩,
 ⟨some 10, false, none, iCall (.c (.func (.func 72) [] [])) [(.t 9)]⟩,
 ⟨some 6, true, none, iMov (.t 10)⟩])
 (cSeq (cSeq (cOps [⟨some 11, true, none, iMov (.t 5)⟩])
 (cCond (.t 11) (cSeq (cSeq (cOps [⟨some 12, true, none, iMov (.t 6)⟩])
 (cCond (.t 12) (cSeq (cOps [⟨some 4, true, none, iMov (.c (.int .i64 (.lit 0)))⟩])
 cRet) cSkip))
 (cSeq (cOps [⟨some 4, true, none, iMov (.c (.int .i64 (.lit (-1))))⟩])
 cRet)) cSkip))
 (cSeq (cSeq (cOps [⟨some 13, true, none, iMov (.t 6)⟩])
 (cCond (.t 13) (cSeq (cOps [⟨some 4, true, none, iMov (.c (.int .i64 (.lit 1)))⟩])
 cRet) cSkip))
 (cSeq (cSeq (cOps [⟨some 14, false, none, iMov (.t 0)⟩,
 ⟨some 15, false, none, iMov (.t 1)⟩,
 ⟨some 16, true, none, iCmp .lss (.t 14) (.t 15)⟩])
 (cCond (.t 16) (cSeq (cOps [⟨some 4, true, none, iMov (.c (.int .i64 (.lit (-1))))⟩])
 cRet) cSkip))
 (cSeq (cSeq (cOps [⟨some 17, false, none, iMov (.t 0)⟩,
 ⟨some 18, false, none, iMov (.t 1)⟩,
 ⟨some 19, true, none, iCmp .gtr (.t 17) (.t 18)⟩])
 (cCond (.t 19) (cSeq (cOps [⟨some 4, true, none, iMov (.c (.int .i64 (.lit 1)))⟩])
 cRet) cSkip))
 (cSeq (cOps [⟨some 4, true, none, iMov (.c (.int .i64 (.lit 0)))⟩])
 cRet)))))))), [.t 4]⟩
noncomputable def Tryd.kp50 : List Nat := [0, 1, 2, 3, 6, 11]
noncomputable def Tryd.cf50 : CF := ⟨3, (cSeq (cOps [⟨some 3, true, none, iBox 77 (.t 0)⟩,
 ⟨some 6, true, none, iMov (.c (.bool (.lit false)))⟩])
 (cSeq (cSeq (cOps [⟨some 7, false, none, iMov (.t 1)⟩,
 ⟨some 8, false, none, iLenS (.t 7)⟩,
 ⟨some 9, false, none, iMov (.t 2)⟩,
 ⟨some 10, false, none, iLenS (.t 9)⟩,
 ⟨some 11, true, none, iCmp .neq (.t 8) (.t 10)⟩])
 (cCond (.t 11) (cSeq (cOps [⟨some 12, false, none, iMov (.t 1)⟩,
 ⟨some 13, false, none, iLenS (.t 12)⟩,
 ⟨some 14, false, none, iMov (.t 2)⟩,
 ⟨some 15, false, none, iLenS (.t 14)⟩,
 ⟨some 16, false, none, iCmp .lss (.t 13) (.t 15)⟩,
 ⟨some 6, true, none, iMov (.t 16)⟩])
 cRet) cSkip))
 (cSeq (cOps [⟨some 17, false, none, iMov (.t 1)⟩,
 ⟨some 18, false, none, iMov (.t 2)⟩,
 ⟨some 19, false, none, iFaddr 0 (.t 3)⟩,
 ⟨some 20, false, none, iLoad (.t 19)⟩,
 ⟨some 21, false, none, iCall (.c (.func (.func 73) [] [])) [(.t 17), (.t 18), (.t 20)]⟩,
 ⟨some 22, false, none, iCmp .lss (.t 21) (.c (.int .i64 (.lit 0)))⟩,
 ⟨some 6, true, none, iMov (.t 22)⟩])
 cRet))), [.t 6]⟩
noncomputable def Tryd.kp51 : List Nat := [0, 2, 3, 4, 5, 6, 7, 8, 12]
noncomputable def Tryd.cf51 : CF := ⟨1, (cSeq (cOps [⟨some 2, true, none, iMov (.c .nilslice)⟩])
 (cSeq (cSeq (cOps [⟨some 5, true, none, iMov (.t 0)⟩,
 ⟨some 6, true, none, iLenS (.t 5)⟩,
 ⟨some 7, true, none, iMov (.c (.int .i64 (.lit 0)))⟩])
 (cBlock 0 (cLoop (cSeq (cOps [⟨some 8, true, none, iCmp .lss (.t 7) (.t 6)⟩])
 (cSeq (cCond (.t 8) cSkip (cExit 0))
 (cSeq (cBlock 1 (cSeq (cOps [⟨some 9, false, none, iMov (.t 7)⟩,
 ⟨some 10, false, none, iIaddr 1 (.t 5) (.t 7)⟩,
 ⟨some 11, false, none, iLoad (.t 10)⟩,
 ⟨some 3, true, none, iMov (.t 9)⟩,
 ⟨some 4, true, none, iMov (.t 11)⟩])
 (cSeq (cOps [⟨some 12, true, none, iMov (.t 4)⟩])
 (cCond (.t 12) (cOps [⟨some 13, false, none, iMov (.t 2)⟩,
 ⟨some 14, false, none, iMov (.t 3)⟩,
 ⟨some 15, false, none, iBslice 3 [(.int .i64 (.lit 0))] 1 [(0, 1, (.t 14))]⟩,
 ⟨some 16, false, none, iAppend 3 1 8 (.t 13) (.t 15)⟩,
 ⟨some 2, true, none, iMov (.t 16)⟩]) cSkip))))
 (cOps [⟨some 17, false, none, iArith .add (.t 7) (.c (.int .i64 (.lit 1)))⟩,
 ⟨some 7, true, none, iMov (.t 17)⟩])))))))
 (cSeq (cOps [⟨some 18, false, none, iMov (.t 2)⟩,
 ⟨some 2, true, none, iMov (.t 18)⟩])
 cRet))), [.t 2]⟩
noncomputable def Tryd.kp52 : List Nat := [0, 1, 2, 3, 4, 6, 7, 8, 9, 15, 45]
noncomputable def Tryd.cf52 : CF := ⟨3, (cSeq (cOps [⟨some 3, true, none, iBox 66 (.t 0)⟩,
 ⟨some 4, true, none, iBox 121 (.t 1)⟩,
 ⟨some 6, true, none, iAlloc 46 [(.int .i64 (.lit 0)), (.int .i64 (.lit 0))]⟩])
 (cSeq (cOps [⟨some 7, true, none, iMov (.c (.int .i64 (.lit 9223372036854775807)))⟩])
 (cSeq (cSeq (cOps [⟨some 10, false, none, iFaddr 0 (.t 4)⟩,
 ⟨some 11, false, none, iLoad (.t 10)⟩,
 ⟨some 12, false, none, iLenS (.t 11)⟩,
 ⟨some 13, false, none, iArith .sub (.t 12) (.c (.int .i64 (.lit 1)))⟩,
 ⟨some 8, true, none, iMov (.t 13)⟩])
 (cBlock 0 (cLoop (cSeq (cSeq (cOps [⟨some 14, false, none, iMov (.t 8)⟩,
 ⟨some 15, true, none, iCmp .geq (.t 14) (.c (.int .i64 (.lit 0)))⟩])
 (cCond (.t 15) cSkip (cExit 0)))
 (cSeq (cBlock 1 (cSeq (cOps [⟨some 18, false, none, iFaddr 0 (.t 4)⟩,
 ⟨some 19, false, none, iLoad (.t 18)⟩,
 ⟨some 20, false, none, iMov (.t 8)⟩,
 ⟨some 21, false, none, iIaddr 5 (.t 19) (.t 20)⟩,
 ⟨some 22, false, none, iLoadN 5 (.t 21)⟩,
 ⟨some 9, true, none, iAlloc 146 [(.int .i64 (.lit 0)), (.int .i64 (.lit 0)), (.int .i64 (.lit 0)), (.int .i64 (.lit 0)), (.int .i64 (.lit 0))]⟩,
 ⟨none, false, none, iStore 5 (.t 9) (.t 22)⟩])
 (cSeq (dOps 0 [⟨⟨some 23, false, none, iFaddr 3 (.t 9)⟩, [9], false, 0, 1, none, []⟩,
 ⟨⟨some 24, false, none, iFaddr 1 (.t 23)⟩, [23], false, 0, 1, none, []⟩,
 ⟨⟨some 25, false, none, iLoad (.t 24)⟩, [24], false, 0, 1, none, []⟩,
 ⟨⟨some 26, false, none, iMov (.t 7)⟩, [7], false, 0, 1, none, []⟩,
 ⟨⟨some 27, false, none, iFaddr 0 (.t 3)⟩, [3], false, 0, 1, none, []⟩,
 ⟨⟨some 28, false, none, iFaddr 0 (.t 27)⟩, [27], false, 0, 1, none, []⟩,
 ⟨⟨some 29, false, none, iFaddr 2 (.t 28)⟩, [28], false, 0, 1, none, []⟩,
 ⟨⟨some 30, false, none, iLoad (.t 29)⟩, [29], false, 0, 1, none, []⟩,
 ⟨⟨some 31, false, none, iArith .sub (.t 26) (.t 30)⟩, [26, 30], false, 0, 1, none, []⟩,
 ⟨⟨some 32, false, none, iLoadN 11 (.t 3)⟩, [3], false, 0, 0, none, []⟩,
 ⟨⟨some 33, false, none, iFaddr 0 (.t 9)⟩, [9], false, 0, 0, none, []⟩,
 ⟨⟨some 34, false, none, iLoadN 3 (.t 33)⟩, [33], false, 0, 0, none, []⟩,
 ⟨⟨some 35, false, none, iCall (.c (.func (.func 66) [] [])) [(.t 32), (.t 34)]⟩, [32, 34], true, 0, 0, none, []⟩,
 ⟨⟨some 36, false, none, iField false 1 1 (.t 35)⟩, [35], false, 1, 1, none, []⟩,
 ⟨⟨some 37, false, none, iArith .sub (.t 31) (.t 36)⟩, [31, 36], false, 1, 1, none, []⟩,
 ⟨⟨some 38, false, none, iMin [(.t 25), (.t 37)]⟩, [25, 37], false, 1, 1, none, []⟩,
 ⟨⟨some 39, false, none, iFaddr 3 (.t 9)⟩, [9], false, 1, 1, none, []⟩,
 ⟨⟨some 40, false, none, iFaddr 1 (.t 39)⟩, [39], false, 1, 1, none, []⟩,
 ⟨⟨none, false, none, iStore 1 (.t 40) (.t 38)⟩, [40, 38], true, 1, 0, none, []⟩])
 (cSeq (cSeq (cOps [⟨some 41, false, none, iFaddr 0 (.t 9)⟩,
 ⟨some 42, false, none, iFaddr 0 (.t 41)⟩,
 ⟨some 43, false, none, iLoad (.t 42)⟩,
 ⟨some 44, false, none, iMov (.t 2)⟩,
 ⟨some 45, true, none, iCmp .eql (.t 43) (.t 44)⟩])
 (cCond (.t 45) (cSeq (cOps [⟨some 46, false, none, iFaddr 3 (.t 9)⟩,
 ⟨some 47, false, none, iLoadN 2 (.t 46)⟩,
 ⟨none, false, none, iStore 2 (.t 6) (.t 47)⟩])
 cRet) cSkip))
 (dOps 0 [⟨⟨some 48, false, none, iLoadN 11 (.t 3)⟩, [3], false, 0, 0, none, []⟩,
 ⟨⟨some 49, false, none, iFaddr 0 (.t 9)⟩, [9], false, 0, 0, none, []⟩,
 ⟨⟨some 50, false, none, iLoadN 3 (.t 49)⟩, [49], false, 0, 0, none, []⟩,
 ⟨⟨some 51, false, none, iCall (.c (.func (.func 67) [] [])) [(.t 48), (.t 50)]⟩, [48, 50], true, 0, 0, none, []⟩,
 ⟨⟨some 52, false, none, iField false 2 1 (.t 51)⟩, [51], false, 1, 1, none, []⟩,
 ⟨⟨some 53, false, none, iFaddr 3 (.t 9)⟩, [9], false, 0, 1, none, []⟩,
 ⟨⟨some 54, false, none, iFaddr 1 (.t 53)⟩, [53], false, 0, 1, none, []⟩,
 ⟨⟨some 55, false, none, iLoad (.t 54)⟩, [54], false, 0, 1, none, []⟩,
 ⟨⟨some 56, false, none, iArith .add (.t 52) (.t 55)⟩, [52, 55], false, 1, 1, none, []⟩,
 ⟨⟨some 7, true, none, iMov (.t 56)⟩, [56], false, 1, 1, none, []⟩])))))
 (cOps [⟨some 16, false, none, iMov (.t 8)⟩,
 ⟨some 17, false, none, iArith .sub (.t 16) (.c (.int .i64 (.lit 1)))⟩,
 ⟨some 8, true, none, iMov (.t 17)⟩]))))))
 (cSeq (cOps [⟨some 57, false, none, iFaddr 0 (.t 3)⟩,
 ⟨some 58, false, none, iFaddr 0 (.t 57)⟩,
 ⟨some 59, false, none, iFaddr 1 (.t 58)⟩,
 ⟨some 60, false, none, iLoad (.t 59)⟩,
 ⟨some 61, false, none, iMov (.t 2)⟩,
 ⟨some 62, false, none, iIaddr 3 (.t 60) (.t 61)⟩,
 ⟨some 63, false, none, iFaddr 1 (.t 62)⟩,
 ⟨some 64, false, none, iLoadN 2 (.t 63)⟩,
 ⟨none, false, none, iStore 2 (.t 6) (.t 64)⟩])
 cRet)))), [.cell 6 true 2]⟩
noncomputable def Tryd.kp53 : List Nat := [0, 1, 4, 6, 7, 8, 9, 10, 15]
noncomputable def Tryd.cf53 : CF := ⟨2, (cSeq (cOps [⟨some 4, true, none, iMov (.c (.int .i64 (.lit 0)))⟩])
 (cSeq (cSeq (cOps [⟨some 7, true, none, iMov (.t 1)⟩,
 ⟨some 8, true, none, iLenS (.t 7)⟩,
 ⟨some 9, true, none, iMov (.c (.int .i64 (.lit 0)))⟩])
 (cBlock 0 (cLoop (cSeq (cOps [⟨some 10, true, none, iCmp .lss (.t 9) (.t 8)⟩])
 (cSeq (cCond (.t 10) cSkip (cExit 0))
 (cSeq (cBlock 1 (cSeq (cOps [⟨some 11, false, none, iIaddr 1 (.t 7) (.t 9)⟩,
 ⟨some 12, false, none, iLoad (.t 11)⟩,
 ⟨some 6, true, none, iMov (.t 12)⟩])
 (cSeq (cOps [⟨some 13, false, none, iMov (.t 6)⟩,
 ⟨some 14, false, none, iMov (.t 0)⟩,
 ⟨some 15, true, none, iCmp .gtr (.t 13) (.t 14)⟩])
 (cCond (.t 15) (cOps [⟨some 16, false, none, iMov (.t 6)⟩,
 ⟨some 0, true, none, iMov (.t 16)⟩]) cSkip))))
 (cOps [⟨some 17, false, none, iArith .add (.t 9) (.c (.int .i64 (.lit 1)))⟩,
 ⟨some 9, true, none, iMov (.t 17)⟩])))))))
 (cSeq (cOps [⟨some 18, false, none, iMov (.t 0)⟩,
 ⟨some 4, true, none, iMov (.t 18)⟩])
 cRet))), [.t 4]⟩
noncomputable def Tryd.ra54008 : C := (cOps [⟨some 6, true, none, iMov (.t 8)⟩])
noncomputable def Tryd.rb54008 : C := (cBlock 1 (cSeq (cOps [⟨some 9, false, none, iLoad (.t 5)⟩,
 ⟨some 10, false, none, iNot (.t 9)⟩,
 ⟨some 11, false, none, iMov (.t 10)⟩,
 ⟨some 12, false, some (11, false), iLoadN 1 (.t 2)⟩,
 ⟨some 13, false, some (11, false), iMov (.t 6)⟩,
 ⟨some 14, false, some (11, false), iLoad (.t 4)⟩,
 ⟨some 15, false, some (11, false), iCall (.c (.func (.func 74) [] [])) [(.t 12), (.t 13), (.t 14)]⟩,
 ⟨some 16, true, none, iPick (.t 11) (.c (.bool (.lit true))) (.t 15)⟩])
 (cCond (.t 16) (cOps [⟨some 17, false, none, iMov (.t 6)⟩,
 ⟨none, false, none, iStore 1 (.t 4) (.t 17)⟩,
 ⟨none, false, none, iStore 1 (.t 5) (.c (.bool (.lit true)))⟩]) cSkip)))
noncomputable def Tryd.kp54 : List Nat := [0, 1, 2, 4, 5, 6, 7, 8, 16]
noncomputable def Tryd.cf54 : CF := ⟨2, (cSeq (cOps [⟨some 2, true, none, iBox 128 (.t 0)⟩,
 ⟨some 4, true, none, iAlloc 42 [.nilslice]⟩,
 ⟨some 5, true, none, iAlloc 4 [(.bool (.lit false))]⟩])
 (cSeq (cSeq (cOps [⟨some 7, true, none, iMov (.t 1)⟩])
 (cBlock 0 (cRange (.t 7) [8] 54008)))
 (cSeq (dOps 0 [⟨⟨some 18, false, none, iLoad (.t 4)⟩, [4], false, 0, 0, none, []⟩,
 ⟨⟨some 19, false, none, iLoad (.t 5)⟩, [5], false, 0, 1, none, []⟩,
 ⟨⟨none, false, none, iStore 1 (.t 4) (.t 18)⟩, [4, 18], true, 0, 0, none, []⟩,
 ⟨⟨none, false, none, iStore 1 (.t 5) (.t 19)⟩, [5, 19], true, 1, 0, none, []⟩])
 cRet))), [.cell 4 false 1, .cell 5 false 1]⟩
noncomputable def Tryd.kp55 : List Nat := [0, 1, 2]
noncomputable def Tryd.cf55 : CF := ⟨1, (cSeq (cOps [⟨some 1, true, none, iBox 66 (.t 0)⟩,
 ⟨some 2, true, none, iMov (.c .nilFunc)⟩])
 (cSeq (cOps [⟨some 3, false, none, iFunc (.func 75) [] [(.t 1)]⟩,
 ⟨some 2, true, none, iMov (.t 3)⟩])
 cRet)), [.t 2]⟩
noncomputable def Tryd.kp56 : List Nat := [0, 1, 4, 5, 6, 8, 9, 10, 11, 12, 18, 26]
noncomputable def Tryd.cf56 : CF := ⟨2, (cSeq (cOps [⟨some 4, true, none, iMov (.c (.int .i64 (.lit 0)))⟩])
 (cSeq (cOps [⟨some 5, true, none, iMov (.c (.int .i64 (.lit 0)))⟩,
 ⟨some 6, true, none, iMov (.c (.int .i64 (.lit 0)))⟩])
 (cSeq (cSeq (cOps [⟨some 9, true, none, iMov (.t 0)⟩,
 ⟨some 10, true, none, iLenS (.t 9)⟩,
 ⟨some 11, true, none, iMov (.c (.int .i64 (.lit 0)))⟩])
 (cBlock 0 (cLoop (cSeq (cOps [⟨some 12, true, none, iCmp .lss (.t 11) (.t 10)⟩])
 (cSeq (cCond (.t 12) cSkip (cExit 0))
 (cSeq (cBlock 1 (cSeq (cOps [⟨some 13, false, none, iIaddr 12 (.t 9) (.t 11)⟩,
 ⟨some 14, false, none, iLoadN 12 (.t 13)⟩,
 ⟨some 8, true, none, iAlloc 80 [(.bool (.lit false)), (.bool (.lit false)), (.bool (.lit false)), (.bool (.lit false)), (.bool (.lit false)), (.bool (.lit false)), (.bool (.lit false)), (.bool (.lit false)), (.bool (.lit false)), (.bool (.lit false)), (.bool (.lit false)), (.bool (.lit false))]⟩,
 ⟨none, false, none, iStore 12 (.t 8) (.t 14)⟩])
 (cSeq (cSeq (cOps [⟨some 15, false, none, iMov (.t 1)⟩,
 ⟨some 16, false, none, iCall (.c (.func (.func 77) [] [])) [(.t 15)]⟩,
 ⟨some 17, false, none, iIaddrA 1 12 (.t 8) (.t 16)⟩,
 ⟨some 18, true, none, iLoad (.t 17)⟩])
 (cCond (.t 18) (cOps [⟨some 19, false, none, iMov (.t 5)⟩,
 ⟨some 20, false, none, iArith .add (.t 19) (.c (.int .i64 (.lit 1)))⟩,
 ⟨some 5, true, none, iMov (.t 20)⟩]) cSkip))
 (cSeq (dOps 0 [⟨⟨some 21, false, none, iLoadN 12 (.t 8)⟩, [8], false, 0, 3, none, []⟩,
 ⟨⟨some 22, false, none, iMov (.t 1)⟩, [1], false, 0, 0, none, []⟩,
 ⟨⟨some 23, false, none, iCall (.c (.func (.func 77) [] [])) [(.t 22)]⟩, [22], true, 0, 0, none, []⟩,
 ⟨⟨some 24, false, none, iBslice 117 [(.int .i64 (.lit 0))] 1 [(0, 1, (.t 23))]⟩, [23], true, 1, 0, none, []⟩,
 ⟨⟨some 25, false, none, iCall (.c (.func (.func 78) [] [])) [(.t 24)]⟩, [24], true, 2, 0, none, []⟩,
 ⟨⟨some 26, true, none, iEq true true 12 [(0, .bool), (1, .bool), (2, .bool), (3, .bool), (4, .bool), (5, .bool), (6, .bool), (7, .bool), (8, .bool), (9, .bool), (10, .bool), (11, .bool)] (.t 21) (.t 25)⟩, [21, 25], false, 3, 3, none, []⟩])
 (cCond (.t 26) (cOps [⟨some 27, false, none, iMov (.t 6)⟩,
 ⟨some 28, false, none, iArith .add (.t 27) (.c (.int .i64 (.lit 1)))⟩,
 ⟨some 6, true, none, iMov (.t 28)⟩]) cSkip)))))
 (cOps [⟨some 29, false, none, iArith .add (.t 11) (.c (.int .i64 (.lit 1)))⟩,
 ⟨some 11, true, none, iMov (.t 29)⟩])))))))
 (cSeq (cOps [⟨some 30, false, none, iMov (.t 5)⟩,
 ⟨some 31, false, none, iMov (.t 6)⟩,
 ⟨some 32, false, none, iBslice 3 [(.int .i64 (.lit 0))] 1 [(0, 1, (.t 31))]⟩,
 ⟨some 33, false, none, iCall (.c (.func (.func 53) [] [])) [(.t 30), (.t 32)]⟩,
 ⟨some 4, true, none, iMov (.t 33)⟩])
 cRet)))), [.t 4]⟩
noncomputable def Tryd.kp57 : List Nat := [0, 1, 3, 4]
noncomputable def Tryd.cf57 : CF := ⟨2, (cSeq (cOps [⟨some 3, true, none, iBox 46 (.t 1)⟩,
 ⟨some 4, true, none, iMov (.c (.bool (.lit false)))⟩])
 (cSeq (cOps [⟨some 5, false, none, iFaddr 0 (.t 3)⟩,
 ⟨some 6, false, none, iLoad (.t 5)⟩,
 ⟨some 7, false, none, iMov (.t 0)⟩,
 ⟨some 8, false, none, iCmp .leq (.t 6) (.t 7)⟩,
 ⟨some 9, false, none, iMov (.t 8)⟩,
 ⟨some 10, false, some (9, true), iMov (.t 0)⟩,
 ⟨some 11, false, some (9, true), iFaddr 1 (.t 3)⟩,
 ⟨some 12, false, some (9, true), iLoad (.t 11)⟩,
 ⟨some 13, false, some (9, true), iCmp .leq (.t 10) (.t 12)⟩,
 ⟨some 14, false, none, iPick (.t 9) (.t 13) (.c (.bool (.lit false)))⟩,
 ⟨some 4, true, none, iMov (.t 14)⟩])
 cRet)), [.t 4]⟩
noncomputable def Tryd.kp58 : List Nat := [0, 1, 2, 3, 4, 5]
noncomputable def Tryd.cf58 : CF := ⟨2, (cSeq (cOps [⟨some 2, true, none, iBox 28 (.t 0)⟩,
 ⟨some 3, true, none, iBox 31 (.t 1)⟩,
 ⟨some 4, true, none, iMov (.c (.bool (.lit false)))⟩])
 (cSeq (cOps [⟨some 6, false, none, iFaddr 0 (.t 2)⟩,
 ⟨some 7, false, none, iFaddr 0 (.t 6)⟩,
 ⟨some 8, false, none, iLoad (.t 7)⟩,
 ⟨some 9, false, none, iLenS (.t 8)⟩,
 ⟨some 10, false, none, iFaddr 0 (.t 2)⟩,
 ⟨some 11, false, none, iFaddr 1 (.t 10)⟩,
 ⟨some 12, false, none, iLoad (.t 11)⟩,
 ⟨some 13, false, none, iLenS (.t 12)⟩,
 ⟨some 14, false, none, iBuild [(.int .i64 (.lit 0)), (.int .i64 (.lit 0))] [(0, 1, (.t 9)), (1, 1, (.t 13))]⟩,
 ⟨some 5, true, none, iAlloc 155 [(.int .i64 (.lit 0)), (.int .i64 (.lit 0))]⟩,
 ⟨none, false, none, iStore 2 (.t 5) (.t 14)⟩])
 (cSeq (dOps 0 [⟨⟨some 15, false, none, iFaddr 1 (.t 3)⟩, [3], false, 0, 1, none, []⟩,
 ⟨⟨some 16, false, none, iLoad (.t 15)⟩, [15], false, 0, 1, none, []⟩,
 ⟨⟨some 17, false, none, iLoadN 4 (.t 3)⟩, [3], false, 0, 0, none, []⟩,
 ⟨⟨some 18, false, none, iCall (.c (.func (.func 40) [] [])) [(.t 17)]⟩, [17], true, 0, 0, none, []⟩,
 ⟨⟨some 19, false, none, iIaddrA 1 2 (.t 5) (.t 18)⟩, [5, 18], false, 1, 1, none, []⟩,
 ⟨⟨some 20, false, none, iLoad (.t 19)⟩, [19], false, 1, 1, none, []⟩,
 ⟨⟨some 21, false, none, iCall (.c (.func (.func 32) [] [])) [(.t 16), (.t 20)]⟩, [16, 20], true, 1, 0, none, []⟩,
 ⟨⟨some 22, false, none, iMov (.t 21)⟩, [21], false, 2, 2, none, []⟩,
 ⟨⟨some 23, false, some (22, true), iLoadN 7 (.t 2)⟩, [22, 2], false, 2, 2, none, []⟩,
 ⟨⟨some 24, false, some (22, true), iFaddr 2 (.t 3)⟩, [22, 3], false, 2, 2, none, []⟩,
 ⟨⟨some 25, false, some (22, true), iLoad (.t 24)⟩, [22, 24], false, 2, 2, none, []⟩,
 ⟨⟨some 26, false, some (22, true), iCall (.c (.func (.func 41) [] [])) [(.t 23), (.t 25)]⟩, [22, 23, 25], true, 2, 0, none, []⟩,
 ⟨⟨some 27, false, none, iPick (.t 22) (.t 26) (.c (.bool (.lit false)))⟩, [22, 26], false, 3, 3, none, []⟩,
 ⟨⟨some 4, true, none, iMov (.t 27)⟩, [27], false, 3, 3, none, []⟩])
 cRet))), [.t 4]⟩
noncomputable def Tryd.kp59 : List Nat := [0, 1, 2, 5]
noncomputable def Tryd.cf59 : CF := ⟨1, (cSeq (cOps [⟨some 1, true, none, iBox 25 (.t 0)⟩,
 ⟨some 2, true, none, iMov (.c (.int .i64 (.lit 0)))⟩])
 (cSeq (cSeq (cOps [⟨some 3, false, none, iLoadN 3 (.t 1)⟩,
 ⟨some 4, false, none, iCall (.c (.func (.func 79) [] [])) [(.t 3)]⟩,
 ⟨some 5, true, none, iNot (.t 4)⟩])
 (cCond (.t 5) (cSeq (cOps [⟨some 2, true, none, iMov (.c (.int .i64 (.lit 30)))⟩])
 cRet) cSkip))
 (cSeq (cOps [⟨some 2, true, none, iMov (.c (.int .i64 (.lit 0)))⟩])
 cRet))), [.t 2]⟩
noncomputable def Tryd.kp60 : List Nat := [0, 1, 4]
noncomputable def Tryd.cf60 : CF := ⟨2, (cSeq (cOps [⟨some 4, true, none, iMov (.c (.bool (.lit false)))⟩])
 (cSeq (cOps [⟨some 5, false, none, iMov (.t 0)⟩,
 ⟨some 6, false, none, iMov (.t 1)⟩,
 ⟨some 7, false, none, iCall (.c (.func (.func 77) [] [])) [(.t 6)]⟩,
 ⟨some 8, false, none, iCmp .eql (.t 5) (.t 7)⟩,
 ⟨some 4, true, none, iMov (.t 8)⟩])
 cRet)), [.t 4]⟩
noncomputable def Tryd.kp61 : List Nat := [0, 1, 4]
noncomputable def Tryd.cf61 : CF := ⟨2, (cSeq (cOps [⟨some 4, true, none, iMov (.c (.bool (.lit false)))⟩])
 (cSeq (cOps [⟨some 5, false, none, iMov (.t 0)⟩,
 ⟨some 6, false, none, iMov (.t 1)⟩,
 ⟨some 7, false, none, iCall (.c (.func (.func 80) [] [])) [(.t 6)]⟩,
 ⟨some 8, false, none, iCmp .eql (.t 5) (.t 7)⟩,
 ⟨some 4, true, none, iMov (.t 8)⟩])
 cRet)), [.t 4]⟩
noncomputable def Tryd.kp62 : List Nat := [0, 1, 2, 4, 5, 6, 7, 11, 12, 13, 14, 20, 21, 22, 24, 25, 26, 30, 37]
noncomputable def Tryd.cf62 : CF := ⟨3, (cSeq cSkip
 (cSeq (cOps [⟨some 8, false, none, iFaddr 0 (.t 1)⟩,
 ⟨some 9, false, none, iFaddr 0 (.t 8)⟩,
 ⟨some 10, false, none, iFaddr 1 (.t 9)⟩,
 ⟨some 11, true, none, iLoad (.t 10)⟩,
 ⟨some 12, true, none, iLenS (.t 11)⟩,
 ⟨some 13, true, none, iMov (.c (.int .i64 (.lit 0)))⟩])
 (cBlock 0 (cLoop (cSeq (cOps [⟨some 14, true, none, iCmp .lss (.t 13) (.t 12)⟩])
 (cSeq (cCond (.t 14) cSkip (cExit 0))
 (cSeq (cBlock 1 (cSeq (cOps [⟨some 15, false, none, iMov (.t 13)⟩,
 ⟨some 16, false, none, iIaddr 3 (.t 11) (.t 13)⟩,
 ⟨some 17, false, none, iLoadN 3 (.t 16)⟩,
 ⟨some 5, true, none, iAlloc 97 [.nilslice, (.int .i64 (.lit 0)), (.int .i64 (.lit 0))]⟩,
 ⟨some 4, true, none, iMov (.t 15)⟩,
 ⟨none, false, none, iStore 3 (.t 5) (.t 17)⟩])
 (cSeq (cOps [⟨some 18, false, none, iFaddr 0 (.t 5)⟩,
 ⟨some 19, false, none, iLoad (.t 18)⟩,
 ⟨some 20, true, none, iLenS (.t 19)⟩,
 ⟨some 21, true, none, iMov (.c (.int .i64 (.lit 0)))⟩])
 (cBlock 2 (cLoop (cSeq (cOps [⟨some 22, true, none, iCmp .lss (.t 21) (.t 20)⟩])
 (cSeq (cCond (.t 22) cSkip (cExit 2))
 (cSeq (cBlock 3 (cSeq (cOps [⟨some 23, false, none, iMov (.t 21)⟩,
 ⟨some 6, true, none, iMov (.t 23)⟩])
 (cSeq (cOps [⟨some 24, true, none, iMov (.t 6)⟩,
 ⟨some 25, true, none, iMov (.c (.int .i64 (.lit 0)))⟩])
 (cBlock 4 (cLoop (cSeq (cOps [⟨some 26, true, none, iCmp .lss (.t 25) (.t 24)⟩])
 (cSeq (cCond (.t 26) cSkip (cExit 4))
 (cSeq (cBlock 5 (cSeq (cOps [⟨some 27, false, none, iMov (.t 25)⟩,
 ⟨some 7, true, none, iMov (.t 27)⟩])
 (cSeq (cSeq (cOps [⟨some 28, false, none, iMov (.t 4)⟩,
 ⟨some 29, false, none, iIaddrA 1 6 (.t 2) (.t 28)⟩,
 ⟨some 30, true, none, iLoad (.t 29)⟩])
 (cCond (.t 30) (cExit 1) cSkip))
 (cSeq (cOps [⟨some 31, false, none, iMov (.t 0)⟩,
 ⟨some 32, false, none, iMov (.t 4)⟩,
 ⟨some 33, false, none, iMov (.t 7)⟩,
 ⟨some 34, false, none, iMov (.t 6)⟩,
 ⟨some 35, false, none, iBuild [(.int .i64 (.lit 0)), (.int .i64 (.lit 0)), (.int .i64 (.lit 0))] [(0, 1, (.t 32)), (1, 1, (.t 33)), (2, 1, (.t 34))]⟩,
 ⟨some 36, false, none, iCall (.t 31) [(.t 35)]⟩,
 ⟨some 37, true, none, iNot (.t 36)⟩])
 (cCond (.t 37) cRet cSkip)))))
 (cOps [⟨some 38, false, none, iArith .add (.t 25) (.c (.int .i64 (.lit 1)))⟩,
 ⟨some 25, true, none, iMov (.t 38)⟩])))))))))
 (cOps [⟨some 39, false, none, iArith .add (.t 21) (.c (.int .i64 (.lit 1)))⟩,
 ⟨some 21, true, none, iMov (.t 39)⟩])))))))))
 (cOps [⟨some 40, false, none, iArith .add (.t 13) (.c (.int .i64 (.lit 1)))⟩,
 ⟨some 13, true, none, iMov (.t 40)⟩])))))))), []⟩
noncomputable def Tryd.kp63 : List Nat := [0, 1, 2, 3, 4, 6, 7, 8, 9, 10, 24, 25, 26, 27, 33, 39]
noncomputable def Tryd.cf63 : CF := ⟨3, (cSeq (cOps [⟨some 3, true, none, iBox 66 (.t 0)⟩,
 ⟨some 4, true, none, iBox 54 (.t 1)⟩,
 ⟨some 6, true, none, iAlloc 143 [(.int .i64 (.lit 0)), (.int .i64 (.lit 0)), (.int .i64 (.lit 0)), (.int .i64 (.lit 0)), (.int .i64 (.lit 0)), (.int .i64 (.lit 0)), (.int .i64 (.lit 0))]⟩])
 (cSeq (dOps 0 [⟨⟨some 11, false, none, iLoadN 11 (.t 3)⟩, [3], false, 0, 0, none, []⟩,
 ⟨⟨some 12, false, none, iLoadN 3 (.t 4)⟩, [4], false, 0, 0, none, []⟩,
 ⟨⟨some 13, false, none, iCall (.c (.func (.func 67) [] [])) [(.t 11), (.t 12)]⟩, [11, 12], true, 0, 0, none, []⟩,
 ⟨⟨some 14, false, none, iField false 2 1 (.t 13)⟩, [13], false, 1, 2, none, []⟩,
 ⟨⟨some 15, false, none, iMov (.t 2)⟩, [2], false, 0, 2, none, []⟩,
 ⟨⟨some 16, false, none, iArith .add (.t 14) (.t 15)⟩, [14, 15], false, 1, 2, none, []⟩,
 ⟨⟨some 17, false, none, iLoadN 11 (.t 3)⟩, [3], false, 0, 1, none, []⟩,
 ⟨⟨some 18, false, none, iLoadN 3 (.t 4)⟩, [4], false, 0, 1, none, []⟩,
 ⟨⟨some 19, false, none, iCall (.c (.func (.func 66) [] [])) [(.t 17), (.t 18)]⟩, [17, 18], true, 1, 0, none, []⟩,
 ⟨⟨some 20, false, none, iField false 1 1 (.t 19)⟩, [19], false, 2, 2, none, []⟩,
 ⟨⟨some 21, false, none, iMov (.t 2)⟩, [2], false, 0, 2, none, []⟩,
 ⟨⟨some 22, false, none, iArith .add (.t 20) (.t 21)⟩, [20, 21], false, 2, 2, none, []⟩,
 ⟨⟨some 7, true, none, iMov (.t 16)⟩, [16], false, 2, 2, none, []⟩,
 ⟨⟨some 8, true, none, iMov (.t 22)⟩, [22], false, 2, 2, none, []⟩])
 (cSeq (cSeq (cOps [⟨some 23, false, none, iFaddr 8 (.t 3)⟩,
 ⟨some 24, true, none, iLoad (.t 23)⟩,
 ⟨some 25, true, none, iLenS (.t 24)⟩,
 ⟨some 26, true, none, iMov (.c (.int .i64 (.lit 0)))⟩])
 (cBlock 0 (cLoop (cSeq (cOps [⟨some 27, true, none, iCmp .lss (.t 26) (.t 25)⟩])
 (cSeq (cCond (.t 27) cSkip (cExit 0))
 (cSeq (cBlock 1 (cSeq (cOps [⟨some 28, false, none, iMov (.t 26)⟩,
 ⟨some 29, false, none, iIaddr 1 (.t 24) (.t 26)⟩,
 ⟨some 30, false, none, iLoad (.t 29)⟩,
 ⟨some 9, true, none, iMov (.t 28)⟩,
 ⟨some 10, true, none, iMov (.t 30)⟩])
 (cBlock 2 (cSeq (cOps [⟨some 34, false, none, iMov (.t 10)⟩,
 ⟨some 35, false, none, iMov (.t 7)⟩,
 ⟨some 36, false, none, iCmp .lss (.t 34) (.t 35)⟩,
 ⟨some 33, true, none, iMov (.t 36)⟩])
 (cCond (.t 33) (cOps [⟨some 37, false, none, iMov (.t 9)⟩,
 ⟨some 38, false, none, iIaddrA 1 7 (.t 6) (.t 37)⟩,
 ⟨none, false, none, iStore 1 (.t 38) (.c (.int .i64 (.lit 0)))⟩]) (cSeq (cOps [⟨some 40, false, none, iMov (.t 10)⟩,
 ⟨some 41, false, none, iMov (.t 8)⟩,
 ⟨some 42, false, none, iCmp .lss (.t 40) (.t 41)⟩,
 ⟨some 39, true, none, iMov (.t 42)⟩])
 (cCond (.t 39) (cOps [⟨some 43, false, none, iMov (.t 9)⟩,
 ⟨some 44, false, none, iIaddrA 1 7 (.t 6) (.t 43)⟩,
 ⟨none, false, none, iStore 1 (.t 44) (.c (.int .i64 (.lit 1)))⟩]) (cOps [⟨some 31, false, none, iMov (.t 9)⟩,
 ⟨some 32, false, none, iIaddrA 1 7 (.t 6) (.t 31)⟩,
 ⟨none, false, none, iStore 1 (.t 32) (.c (.int .i64 (.lit 2)))⟩]))))))))
 (cOps [⟨some 45, false, none, iArith .add (.t 26) (.c (.int .i64 (.lit 1)))⟩,
 ⟨some 26, true, none, iMov (.t 45)⟩])))))))
 (cSeq (cOps [⟨some 46, false, none, iLoadN 7 (.t 6)⟩,
 ⟨none, false, none, iStore 7 (.t 6) (.t 46)⟩])
 cRet)))), [.cell 6 true 7]⟩
noncomputable def Tryd.kp64 : List Nat := [0, 1, 2, 3, 4, 5]
noncomputable def Tryd.cf64 : CF := ⟨2, (cSeq (cOps [⟨some 2, true, none, iBox 69 (.t 0)⟩])
 (cSeq (cOps [⟨some 3, true, none, iAlloc 108 [(.bool (.lit false)), (.bool (.lit false)), (.bool (.lit false)), (.bool (.lit false)), (.bool (.lit false)), (.bool (.lit false))]⟩,
 ⟨some 4, true, none, iAlloc 108 [(.bool (.lit false)), (.bool (.lit false)), (.bool (.lit false)), (.bool (.lit false)), (.bool (.lit false)), (.bool (.lit false))]⟩])
 (cSeq (cOps [⟨some 5, true, none, iAlloc 69 [.nilFunc]⟩])
 (cSeq (cOps [⟨some 6, false, none, iFunc (.func 65) [] [(.t 2), (.t 1), (.t 3), (.t 4), (.t 5)]⟩,
 ⟨none, false, none, iStore 1 (.t 5) (.t 6)⟩])
 (cOps [⟨some 7, false, none, iLoad (.t 5)⟩,
 ⟨some 8, false, none, iCall (.t 7) [(.c .nilslice)]⟩]))))), []⟩
noncomputable def Tryd.ra65039 : C := (cOps [⟨some 10, true, none, iAlloc 54 [(.int .i64 (.lit 0)), (.int .i64 (.lit 0)), (.int .i64 (.lit 0))]⟩,
 ⟨none, false, none, iStore 3 (.t 10) (.t 39)⟩])
noncomputable def Tryd.rb65039 : C := (cBlock 1 (cSeq (cSeq (dOps 0 [⟨⟨some 40, false, none, iLoadN 11 (.t 2)⟩, [2], false, 0, 0, none, []⟩,
 ⟨⟨some 41, false, none, iLoadN 3 (.t 10)⟩, [10], false, 0, 0, none, []⟩,
 ⟨⟨some 42, false, none, iCall (.c (.func (.func 67) [] [])) [(.t 40), (.t 41)]⟩, [40, 41], true, 0, 0, none, []⟩,
 ⟨⟨some 43, false, none, iField false 0 1 (.t 42)⟩, [42], false, 1, 1, none, []⟩,
 ⟨⟨some 44, false, none, iLoad (.t 9)⟩, [9], false, 0, 1, none, []⟩,
 ⟨⟨some 45, true, none, iCmp .neq (.t 43) (.t 44)⟩, [43, 44], false, 1, 1, none, []⟩])
 (cCond (.t 45) (cExit 1) cSkip))
 (cSeq (cOps [⟨some 46, false, none, iFaddr 0 (.t 10)⟩,
 ⟨some 47, false, none, iLoad (.t 46)⟩,
 ⟨some 48, false, none, iIaddrA 1 6 (.t 3) (.t 47)⟩,
 ⟨none, false, none, iStore 1 (.t 48) (.c (.bool (.lit true)))⟩])
 (cSeq (cSeq (dOps 0 [⟨⟨some 49, false, none, iLoad (.t 5)⟩, [5], false, 0, 2, none, []⟩,
 ⟨⟨some 50, false, none, iLoad (.t 6)⟩, [6], false, 0, 1, none, []⟩,
 ⟨⟨some 51, false, none, iLoad (.t 8)⟩, [8], false, 0, 1, none, []⟩,
 ⟨⟨some 52, false, none, iLoad (.t 8)⟩, [8], false, 0, 1, none, []⟩,
 ⟨⟨some 53, false, none, iSlice 3 (.t 50) none (some (.t 51)) (some (.t 52))⟩, [50, 51, 52], false, 0, 1, none, []⟩,
 ⟨⟨some 54, false, none, iLoadN 3 (.t 10)⟩, [10], false, 0, 0, none, []⟩,
 ⟨⟨some 55, false, none, iBslice 54 [(.int .i64 (.lit 0)), (.int .i64 (.lit 0)), (.int .i64 (.lit 0))] 1 [(0, 3, (.t 54))]⟩, [54], true, 0, 0, none, []⟩,
 ⟨⟨some 56, false, none, iAppend 54 3 24 (.t 53) (.t 55)⟩, [53, 55], true, 1, 0, none, []⟩,
 ⟨⟨some 57, false, none, iCall (.t 49) [(.t 56)]⟩, [49, 56], true, 2, 0, none, []⟩,
 ⟨⟨some 58, true, none, iNot (.t 57)⟩, [57], false, 3, 3, none, []⟩])
 (cCond (.t 58) (cSeq (cOps [⟨none, false, none, iStore 1 (.t 7) (.c (.bool (.lit false)))⟩])
 cRet) cSkip))
 (cOps [⟨some 59, false, none, iFaddr 0 (.t 10)⟩,
 ⟨some 60, false, none, iLoad (.t 59)⟩,
 ⟨some 61, false, none, iIaddrA 1 6 (.t 3) (.t 60)⟩,
 ⟨none, false, none, iStore 1 (.t 61) (.c (.bool (.lit false)))⟩])))))
noncomputable def Tryd.kp65 : List Nat := [0, 1, 2, 3, 4, 5, 6, 7, 8, 9, 10, 16, 21, 27, 38, 39, 45, 58]
noncomputable def Tryd.cf65 : CF := ⟨6, (cSeq (cOps [⟨some 6, true, none, iBox 39 (.t 0)⟩,
 ⟨some 7, true, none, iAlloc 4 [(.bool (.lit false))]⟩])
 (cSeq (cOps [⟨some 11, false, none, iLoad (.t 6)⟩,
 ⟨some 12, false, none, iLenS (.t 11)⟩,
 ⟨some 8, true, none, iAlloc 3 [(.int .i64 (.lit 0))]⟩,
 ⟨none, false, none, iStore 1 (.t 8) (.t 12)⟩])
 (cSeq (cSeq (cOps [⟨some 13, false, none, iLoad (.t 1)⟩,
 ⟨some 14, false, none, iLoad (.t 6)⟩,
 ⟨some 15, false, none, iCall (.t 13) [(.t 14)]⟩,
 ⟨some 16, true, none, iNot (.t 15)⟩])
 (cCond (.t 16) (cSeq (cOps [⟨none, false, none, iStore 1 (.t 7) (.c (.bool (.lit false)))⟩])
 cRet) cSkip))
 (cSeq (cSeq (cOps [⟨some 17, false, none, iLoad (.t 8)⟩,
 ⟨some 18, false, none, iFaddr 0 (.t 2)⟩,
 ⟨some 19, false, none, iFaddr 5 (.t 18)⟩,
 ⟨some 20, false, none, iLoad (.t 19)⟩,
 ⟨some 21, true, none, iCmp .eql (.t 17) (.t 20)⟩])
 (cCond (.t 21) (cSeq (cOps [⟨none, false, none, iStore 1 (.t 7) (.c (.bool (.lit true)))⟩])
 cRet) cSkip))
 (cSeq (cOps [⟨some 22, false, none, iFaddr 0 (.t 2)⟩,
 ⟨some 23, false, none, iFaddr 3 (.t 22)⟩,
 ⟨some 24, false, none, iLoad (.t 23)⟩,
 ⟨some 9, true, none, iAlloc 3 [(.int .i64 (.lit 0))]⟩,
 ⟨none, false, none, iStore 1 (.t 9) (.t 24)⟩])
 (cSeq (cSeq (cOps [⟨some 25, false, none, iLoadN 6 (.t 3)⟩,
 ⟨some 26, false, none, iLoadN 6 (.t 4)⟩,
 ⟨some 27, true, none, iEq true true 6 [(0, .bool), (1, .bool), (2, .bool), (3, .bool), (4, .bool), (5, .bool)] (.t 25) (.t 26)⟩])
 (cCond (.t 27) (dOps 0 [⟨⟨some 28, false, none, iLoadN 11 (.t 2)⟩, [2], false, 0, 0, none, []⟩,
 ⟨⟨some 29, false, none, iLoad (.t 6)⟩, [6], false, 0, 0, none, []⟩,
 ⟨⟨some 30, false, none, iLoad (.t 8)⟩, [8], false, 0, 0, none, []⟩,
 ⟨⟨some 31, false, none, iArith .sub (.t 30) (.c (.int .i64 (.lit 1)))⟩, [30], false, 0, 0, none, []⟩,
 ⟨⟨some 32, false, none, iIaddr 3 (.t 29) (.t 31)⟩, [29, 31], false, 0, 0, none, []⟩,
 ⟨⟨some 33, false, none, iLoadN 3 (.t 32)⟩, [32], false, 0, 0, none, []⟩,
 ⟨⟨some 34, false, none, iCall (.c (.func (.func 66) [] [])) [(.t 28), (.t 33)]⟩, [28, 33], true, 0, 0, none, []⟩,
 ⟨⟨some 35, false, none, iField false 0 1 (.t 34)⟩, [34], false, 1, 1, none, []⟩,
 ⟨⟨none, false, none, iStore 1 (.t 9) (.t 35)⟩, [9, 35], true, 1, 0, none, []⟩]) cSkip))
 (cSeq (cSeq (cOps [⟨some 36, false, none, iLoadN 11 (.t 2)⟩,
 ⟨some 37, false, none, iLoadN 6 (.t 3)⟩,
 ⟨some 38, true, none, iCall (.c (.func (.func 42) [] [])) [(.t 36), (.t 37)]⟩])
 (cBlock 0 (cRange (.t 38) [39] 65039)))
 (cSeq (cOps [⟨none, false, none, iStore 1 (.t 7) (.c (.bool (.lit true)))⟩])
 cRet)))))))), [.cell 7 false 1]⟩
noncomputable def Tryd.kp66 : List Nat := [0, 1, 2, 3, 4]
noncomputable def Tryd.cf66 : CF := ⟨2, (cSeq (cOps [⟨some 2, true, none, iBox 66 (.t 0)⟩,
 ⟨some 3, true, none, iBox 54 (.t 1)⟩,
 ⟨some 4, true, none, iAlloc 93 [(.int .i64 (.lit 0)), (.int .i64 (.lit 0)), (.int .i64 (.lit 0))]⟩])
 (cSeq (dOps 0 [⟨⟨some 5, false, none, iFaddr 0 (.t 2)⟩, [2], false, 0, 0, none, []⟩,
 ⟨⟨some 6, false, none, iFaddr 0 (.t 5)⟩, [5], false, 0, 0, none, []⟩,
 ⟨⟨some 7, false, none, iFaddr 1 (.t 6)⟩, [6], false, 0, 0, none, []⟩,
 ⟨⟨some 8, false, none, iLoad (.t 7)⟩, [7], false, 0, 0, none, []⟩,
 ⟨⟨some 9, false, none, iFaddr 0 (.t 3)⟩, [3], false, 0, 0, none, []⟩,
 ⟨⟨some 10, false, none, iLoad (.t 9)⟩, [9], false, 0, 0, none, []⟩,
 ⟨⟨some 11, false, none, iIaddr 3 (.t 8) (.t 10)⟩, [8, 10], false, 0, 0, none, []⟩,
 ⟨⟨some 12, false, none, iFaddr 0 (.t 11)⟩, [11], false, 0, 0, none, []⟩,
 ⟨⟨some 13, false, none, iLoad (.t 12)⟩, [12], false, 0, 0, none, []⟩,
 ⟨⟨some 14, false, none, iFaddr 2 (.t 3)⟩, [3], false, 0, 0, none, []⟩,
 ⟨⟨some 15, false, none, iLoad (.t 14)⟩, [14], false, 0, 0, none, []⟩,
 ⟨⟨some 16, false, none, iIaddr 3 (.t 13) (.t 15)⟩, [13, 15], false, 0, 0, none, []⟩,
 ⟨⟨some 17, false, none, iLoadN 3 (.t 16)⟩, [16], false, 0, 0, none, []⟩,
 ⟨⟨none, false, none, iStore 3 (.t 4) (.t 17)⟩, [4, 17], true, 0, 0, none, []⟩])
 cRet)), [.cell 4 true 3]⟩
noncomputable def Tryd.kp67 : List Nat := [0, 1, 2, 3, 4]
noncomputable def Tryd.cf67 : CF := ⟨2, (cSeq (cOps [⟨some 2, true, none, iBox 66 (.t 0)⟩,
 ⟨some 3, true, none, iBox 54 (.t 1)⟩,
 ⟨some 4, true, none, iAlloc 93 [(.int .i64 (.lit 0)), (.int .i64 (.lit 0)), (.int .i64 (.lit 0))]⟩])
 (cSeq (dOps 0 [⟨⟨some 5, false, none, iFaddr 0 (.t 2)⟩, [2], false, 0, 0, none, []⟩,
 ⟨⟨some 6, false, none, iFaddr 0 (.t 5)⟩, [5], false, 0, 0, none, []⟩,
 ⟨⟨some 7, false, none, iFaddr 1 (.t 6)⟩, [6], false, 0, 0, none, []⟩,
 ⟨⟨some 8, false, none, iLoad (.t 7)⟩, [7], false, 0, 0, none, []⟩,
 ⟨⟨some 9, false, none, iFaddr 0 (.t 3)⟩, [3], false, 0, 0, none, []⟩,
 ⟨⟨some 10, false, none, iLoad (.t 9)⟩, [9], false, 0, 0, none, []⟩,
 ⟨⟨some 11, false, none, iIaddr 3 (.t 8) (.t 10)⟩, [8, 10], false, 0, 0, none, []⟩,
 ⟨⟨some 12, false, none, iFaddr 0 (.t 11)⟩, [11], false, 0, 0, none, []⟩,
 ⟨⟨some 13, false, none, iLoad (.t 12)⟩, [12], false, 0, 0, none, []⟩,
 ⟨⟨some 14, false, none, iFaddr 1 (.t 3)⟩, [3], false, 0, 0, none, []⟩,
 ⟨⟨some 15, false, none, iLoad (.t 14)⟩, [14], false, 0, 0, none, []⟩,
 ⟨⟨some 16, false, none, iIaddr 3 (.t 13) (.t 15)⟩, [13, 15], false, 0, 0, none, []⟩,
 ⟨⟨some 17, false, none, iLoadN 3 (.t 16)⟩, [16], false, 0, 0, none, []⟩,
 ⟨⟨none, false, none, iStore 3 (.t 4) (.t 17)⟩, [4, 17], true, 0, 0, none, []⟩])
 cRet)), [.cell 4 true 3]⟩
noncomputable def Tryd.kp68 : List Nat := [0, 1, 2, 3, 4]
noncomputable def Tryd.cf68 : CF := ⟨2, (cSeq (cOps [⟨some 2, true, none, iBox 111 (.t 0)⟩,
 ⟨some 3, true, none, iBox 149 (.t 1)⟩,
 ⟨some 4, true, none, iMov (.c .nilFunc)⟩])
 (cSeq (cOps [⟨some 5, false, none, iFunc (.func 81) [] [(.t 2), (.t 3)]⟩,
 ⟨some 4, true, none, iMov (.t 5)⟩])
 cRet)), [.t 4]⟩
noncomputable def Tryd.kp69 : List Nat := [0, 1, 2, 3, 4]
noncomputable def Tryd.cf69 : CF := ⟨2, (cSeq (cOps [⟨some 2, true, none, iBox 66 (.t 0)⟩,
 ⟨some 3, true, none, iBox 39 (.t 1)⟩,
 ⟨some 4, true, none, iMov (.c .nilFunc)⟩])
 (cSeq (cOps [⟨some 5, false, none, iFunc (.func 82) [] [(.t 3), (.t 2)]⟩,
 ⟨some 4, true, none, iMov (.t 5)⟩])
 cRet)), [.t 4]⟩
noncomputable def Tryd.kp70 : List Nat := [0, 1, 2, 3, 4, 5, 9, 10, 11, 17]
noncomputable def Tryd.cf70 : CF := ⟨2, (cSeq (cOps [⟨some 2, true, none, iBox 66 (.t 0)⟩,
 ⟨some 3, true, none, iBox 121 (.t 1)⟩,
 ⟨some 4, true, none, iMov (.c (.bool (.lit false)))⟩])
 (cSeq (cSeq (cOps [⟨some 6, false, none, iFaddr 0 (.t 2)⟩,
 ⟨some 7, false, none, iFaddr 6 (.t 6)⟩,
 ⟨some 8, false, none, iLoad (.t 7)⟩,
 ⟨some 9, true, none, iLenS (.t 8)⟩,
 ⟨some 10, true, none, iMov (.c (.int .i64 (.lit 0)))⟩])
 (cBlock 0 (cLoop (cSeq (cOps [⟨some 11, true, none, iCmp .lss (.t 10) (.t 9)⟩])
 (cSeq (cCond (.t 11) cSkip (cExit 0))
 (cSeq (cBlock 1 (cSeq (cOps [⟨some 12, false, none, iMov (.t 10)⟩,
 ⟨some 5, true, none, iMov (.t 12)⟩])
 (cSeq (cOps [⟨some 13, false, none, iLoadN 11 (.t 2)⟩,
 ⟨some 14, false, none, iMov (.t 5)⟩,
 ⟨some 15, false, none, iLoadN 8 (.t 3)⟩,
 ⟨some 16, false, none, iCall (.c (.func (.func 86) [] [])) [(.t 13), (.t 14), (.t 15)]⟩,
 ⟨some 17, true, none, iNot (.t 16)⟩])
 (cCond (.t 17) (cSeq (cOps [⟨some 4, true, none, iMov (.c (.bool (.lit false)))⟩])
 cRet) cSkip))))
 (cOps [⟨some 18, false, none, iArith .add (.t 10) (.c (.int .i64 (.lit 1)))⟩,
 ⟨some 10, true, none, iMov (.t 18)⟩])))))))
 (cSeq (cOps [⟨some 4, true, none, iMov (.c (.bool (.lit true)))⟩])
 cRet))), [.t 4]⟩
noncomputable def Tryd.ra71006 : C := (cOps [⟨some 4, true, none, iMov (.t 6)⟩])
noncomputable def Tryd.rb71006 : C := (cBlock 1 (cSeq (cOps [⟨some 7, false, none, iLoad (.t 2)⟩,
 ⟨some 8, false, none, iMov (.t 4)⟩,
 ⟨some 9, false, none, iCall (.t 7) [(.t 8)]⟩,
 ⟨some 10, false, none, iMov (.t 9)⟩,
 ⟨some 11, false, some (10, true), iLoad (.t 3)⟩,
 ⟨some 12, false, some (10, true), iMov (.t 4)⟩,
 ⟨some 13, false, some (10, true), iCall (.t 11) [(.t 12)]⟩,
 ⟨some 14, false, some (10, true), iNot (.t 13)⟩,
 ⟨some 15, true, none, iPick (.t 10) (.t 14) (.c (.bool (.lit false)))⟩])
 (cCond (.t 15) cRet cSkip)))
noncomputable def Tryd.kp71 : List Nat := [0, 1, 2, 3, 4, 5, 6, 15]
noncomputable def Tryd.cf71 : CF := ⟨3, (cSeq (cOps [⟨some 3, true, none, iBox 69 (.t 0)⟩])
 (cSeq (cOps [⟨some 5, true, none, iLoad (.t 1)⟩])
 (cBlock 0 (cRange (.t 5) [6] 71006)))), []⟩
noncomputable def Tryd.kp72 : List Nat := [0, 2]
noncomputable def Tryd.cf72 : CF := ⟨1, (cSeq (cOps [⟨some 2, true, none, iMov (.c (.bool (.lit false)))⟩])
 (cSeq (cOps [⟨some 3, false, none, iMov (.t 0)⟩,
 ⟨some 4, false, none, iMov (.t 0)⟩,
 ⟨some 5, false, none, iCmp .neq (.t 3) (.t 4)⟩,
 ⟨some 2, true, none, iMov (.t 5)⟩])
 cRet)), [.t 2]⟩
noncomputable def Tryd.kp73 : List Nat := [0, 1, 2, 6, 7, 8, 9, 10, 11, 12, 13, 14, 21, 31, 38]
noncomputable def Tryd.cf73 : CF := ⟨3, (cSeq (cOps [⟨some 6, true, none, iMov (.c (.int .i64 (.lit 0)))⟩])
 (cSeq (cSeq (cOps [⟨some 11, true, none, iMov (.t 0)⟩,
 ⟨some 12, true, none, iLenS (.t 11)⟩,
 ⟨some 13, true, none, iMov (.c (.int .i64 (.lit 0)))⟩])
 (cBlock 0 (cLoop (cSeq (cOps [⟨some 14, true, none, iCmp .lss (.t 13) (.t 12)⟩])
 (cSeq (cCond (.t 14) cSkip (cExit 0))
 (cSeq (cBlock 1 (cSeq (cOps [⟨some 15, false, none, iMov (.t 13)⟩,
 ⟨some 16, false, none, iIaddr 3 (.t 11) (.t 13)⟩,
 ⟨some 17, false, none, iLoadN 3 (.t 16)⟩,
 ⟨some 8, true, none, iAlloc 54 [(.int .i64 (.lit 0)), (.int .i64 (.lit 0)), (.int .i64 (.lit 0))]⟩,
 ⟨some 7, true, none, iMov (.t 15)⟩,
 ⟨none, false, none, iStore 3 (.t 8) (.t 17)⟩])
 (cSeq (cSeq (cOps [⟨some 18, false, none, iMov (.t 7)⟩,
 ⟨some 19, false, none, iMov (.t 1)⟩,
 ⟨some 20, false, none, iLenS (.t 19)⟩,
 ⟨some 21, true, none, iCmp .geq (.t 18) (.t 20)⟩])
 (cCond (.t 21) (cSeq (cOps [⟨some 6, true, none, iMov (.c (.int .i64 (.lit 1)))⟩])
 cRet) cSkip))
 (cSeq (cOps [⟨some 22, false, none, iMov (.t 1)⟩,
 ⟨some 23, false, none, iMov (.t 7)⟩,
 ⟨some 24, false, none, iIaddr 3 (.t 22) (.t 23)⟩,
 ⟨some 25, false, none, iLoadN 3 (.t 24)⟩,
 ⟨some 9, true, none, iAlloc 54 [(.int .i64 (.lit 0)), (.int .i64 (.lit 0)), (.int .i64 (.lit 0))]⟩,
 ⟨none, false, none, iStore 3 (.t 9) (.t 25)⟩])
 (cSeq (cOps [⟨some 26, false, none, iMov (.t 2)⟩,
 ⟨some 27, false, none, iLoadN 3 (.t 8)⟩,
 ⟨some 28, false, none, iLoadN 3 (.t 9)⟩,
 ⟨some 29, false, none, iCall (.t 26) [(.t 27), (.t 28)]⟩,
 ⟨some 10, true, none, iMov (.t 29)⟩])
 (cSeq (cOps [⟨some 30, false, none, iMov (.t 10)⟩,
 ⟨some 31, true, none, iCmp .neq (.t 30) (.c (.int .i64 (.lit 0)))⟩])
 (cCond (.t 31) (cSeq (cOps [⟨some 32, false, none, iMov (.t 10)⟩,
 ⟨some 6, true, none, iMov (.t 32)⟩])
 cRet) cSkip)))))))
 (cOps [⟨some 33, false, none, iArith .add (.t 13) (.c (.int .i64 (.lit 1)))⟩,
 ⟨some 13, true, none, iMov (.t 33)⟩])))))))
 (cSeq (cSeq (cOps [⟨some 34, false, none, iMov (.t 0)⟩,
 ⟨some 35, false, none, iLenS (.t 34)⟩,
 ⟨some 36, false, none, iMov (.t 1)⟩,
 ⟨some 37, false, none, iLenS (.t 36)⟩,
 ⟨some 38, true, none, iCmp .lss (.t 35) (.t 37)⟩])
 (cCond (.t 38) (cSeq (cOps [⟨some 6, true, none, iMov (.c (.int .i64 (.lit (-1))))⟩])
 cRet) cSkip))
 (cSeq (cOps [⟨some 6, true, none, iMov (.c (.int .i64 (.lit 0)))⟩])
 cRet)))), [.t 6]⟩
noncomputable def Tryd.kp74 : List Nat := [0, 1, 2, 3, 6, 11]
noncomputable def Tryd.cf74 : CF := ⟨3, (cSeq (cOps [⟨some 3, true, none, iBox 128 (.t 0)⟩,
 ⟨some 6, true, none, iMov (.c (.bool (.lit false)))⟩])
 (cSeq (cSeq (cOps [⟨some 7, false, none, iMov (.t 1)⟩,
 ⟨some 8, false, none, iLenS (.t 7)⟩,
 ⟨some 9, false, none, iMov (.t 2)⟩,
 ⟨some 10, false, none, iLenS (.t 9)⟩,
 ⟨some 11, true, none, iCmp .neq (.t 8) (.t 10)⟩])
 (cCond (.t 11) (cSeq (cOps [⟨some 12, false, none, iMov (.t 1)⟩,
 ⟨some 13, false, none, iLenS (.t 12)⟩,
 ⟨some 14, false, none, iMov (.t 2)⟩,
 ⟨some 15, false, none, iLenS (.t 14)⟩,
 ⟨some 16, false, none, iCmp .lss (.t 13) (.t 15)⟩,
 ⟨some 6, true, none, iMov (.t 16)⟩])
 cRet) cSkip))
 (cSeq (cOps [⟨some 17, false, none, iMov (.t 1)⟩,
 ⟨some 18, false, none, iMov (.t 2)⟩,
 ⟨some 19, false, none, iFaddr 0 (.t 3)⟩,
 ⟨some 20, false, none, iLoad (.t 19)⟩,
 ⟨some 21, false, none, iCall (.c (.func (.func 87) [] [])) [(.t 17), (.t 18), (.t 20)]⟩,
 ⟨some 22, false, none, iCmp .lss (.t 21) (.c (.int .i64 (.lit 0)))⟩,
 ⟨some 6, true, none, iMov (.t 22)⟩])
 cRet))), [.t 6]⟩
noncomputable def Tryd.ra75007 : C := (cOps [⟨some 3, true, none, iMov (.t 7)⟩])
noncomputable def Tryd.rb75007 : C := (cBlock 1 (cSeq (cOps [⟨some 8, false, none, iLoadN 11 (.t 1)⟩,
 ⟨some 9, false, none, iMov (.t 3)⟩,
 ⟨some 10, true, none, iCall (.c (.func (.func 69) [] [])) [(.t 8), (.t 9)]⟩])
 (cBlock 2 (cRange (.t 10) [11] 75011))))
noncomputable def Tryd.ra75011 : C := (cOps [⟨some 4, true, none, iAlloc 121 [.nilslice, (.int .i64 (.lit 0)), (.int .i64 (.lit 0)), (.int .i64 (.lit 0)), (.int .i64 (.lit 0)), (.int .i64 (.lit 0)), (.int .i64 (.lit 0)), (.int .i64 (.lit 0))]⟩,
 ⟨none, false, none, iStore 8 (.t 4) (.t 11)⟩])
noncomputable def Tryd.rb75011 : C := (cBlock 3 (cSeq (dOps 0 [⟨⟨some 12, false, none, iLoad (.t 2)⟩, [2], false, 0, 1, none, []⟩,
 ⟨⟨some 13, false, none, iLoadN 11 (.t 1)⟩, [1], false, 0, 0, none, []⟩,
 ⟨⟨some 14, false, none, iLoadN 8 (.t 4)⟩, [4], false, 0, 0, none, []⟩,
 ⟨⟨some 15, false, none, iCall (.c (.func (.func 76) [] [])) [(.t 13), (.t 14)]⟩, [13, 14], true, 0, 0, none, []⟩,
 ⟨⟨some 16, false, none, iCall (.t 12) [(.t 15)]⟩, [12, 15], true, 1, 0, none, []⟩,
 ⟨⟨some 17, true, none, iNot (.t 16)⟩, [16], false, 2, 2, none, []⟩])
 (cCond (.t 17) cRet cSkip)))
noncomputable def Tryd.kp75 : List Nat := [0, 1, 2, 3, 4, 6, 7, 10, 11, 17]
noncomputable def Tryd.cf75 : CF := ⟨2, (cSeq (cOps [⟨some 2, true, none, iBox 151 (.t 0)⟩])
 (cSeq (cOps [⟨some 5, false, none, iLoadN 11 (.t 1)⟩,
 ⟨some 6, true, none, iCall (.c (.func (.func 44) [] [])) [(.t 5)]⟩])
 (cBlock 0 (cRange (.t 6) [7] 75007)))), []⟩
noncomputable def Tryd.kp76 : List Nat := [0, 1, 2, 3, 4, 5, 9, 10, 11, 17]
noncomputable def Tryd.cf76 : CF := ⟨2, (cSeq (cOps [⟨some 2, true, none, iBox 66 (.t 0)⟩,
 ⟨some 3, true, none, iBox 121 (.t 1)⟩,
 ⟨some 4, true, none, iMov (.c .nilslice)⟩])
 (cSeq (cSeq (cOps [⟨some 6, false, none, iFaddr 0 (.t 2)⟩,
 ⟨some 7, false, none, iFaddr 6 (.t 6)⟩,
 ⟨some 8, false, none, iLoad (.t 7)⟩,
 ⟨some 9, true, none, iLenS (.t 8)⟩,
 ⟨some 10, true, none, iMov (.c (.int .i64 (.lit 0)))⟩])
 (cBlock 0 (cLoop (cSeq (cOps [⟨some 11, true, none, iCmp .lss (.t 10) (.t 9)⟩])
 (cSeq (cCond (.t 11) cSkip (cExit 0))
 (cSeq (cBlock 1 (cSeq (cOps [⟨some 12, false, none, iMov (.t 10)⟩,
 ⟨some 5, true, none, iMov (.t 12)⟩])
 (cSeq (cOps [⟨some 13, false, none, iLoadN 11 (.t 2)⟩,
 ⟨some 14, false, none, iMov (.t 5)⟩,
 ⟨some 15, false, none, iLoadN 8 (.t 3)⟩,
 ⟨some 16, false, none, iCall (.c (.func (.func 86) [] [])) [(.t 13), (.t 14), (.t 15)]⟩,
 ⟨some 17, true, none, iNot (.t 16)⟩])
 (cCond (.t 17) (cOps [⟨some 18, false, none, iMov (.t 4)⟩,
 ⟨some 19, false, none, iMov (.t 5)⟩,
 ⟨some 20, false, none, iBslice 3 [(.int .i64 (.lit 0))] 1 [(0, 1, (.t 19))]⟩,
 ⟨some 21, false, none, iAppend 3 1 8 (.t 18) (.t 20)⟩,
 ⟨some 4, true, none, iMov (.t 21)⟩]) cSkip))))
 (cOps [⟨some 22, false, none, iArith .add (.t 10) (.c (.int .i64 (.lit 1)))⟩,
 ⟨some 10, true, none, iMov (.t 22)⟩])))))))
 (cSeq (cOps [⟨some 23, false, none, iMov (.t 4)⟩,
 ⟨some 4, true, none, iMov (.t 23)⟩])
 cRet))), [.t 4]⟩
noncomputable def Tryd.kp77 : List Nat := [0, 2]
noncomputable def Tryd.cf77 : CF := ⟨1, (cSeq (cOps [⟨some 2, true, none, iMov (.c (.int .i64 (.lit 0)))⟩])
 (cSeq (cOps [⟨some 3, false, none, iMov (.t 0)⟩,
 ⟨some 2, true, none, iMov (.t 3)⟩])
 cRet)), [.t 2]⟩
noncomputable def Tryd.kp78 : List Nat := [0, 2, 4, 5, 6, 7, 8]
noncomputable def Tryd.cf78 : CF := ⟨1, (cSeq (cOps [⟨some 2, true, none, iAlloc 80 [(.bool (.lit false)), (.bool (.lit false)), (.bool (.lit false)), (.bool (.lit false)), (.bool (.lit false)), (.bool (.lit false)), (.bool (.lit false)), (.bool (.lit false)), (.bool (.lit false)), (.bool (.lit false)), (.bool (.lit false)), (.bool (.lit false))]⟩])
 (cSeq (cSeq (cOps [⟨some 5, true, none, iMov (.t 0)⟩,
 ⟨some 6, true, none, iLenS (.t 5)⟩,
 ⟨some 7, true, none, iMov (.c (.int .i64 (.lit 0)))⟩])
 (cBlock 0 (cLoop (cSeq (cOps [⟨some 8, true, none, iCmp .lss (.t 7) (.t 6)⟩])
 (cSeq (cCond (.t 8) cSkip (cExit 0))
 (cSeq (cBlock 1 (cSeq (cOps [⟨some 9, false, none, iIaddr 1 (.t 5) (.t 7)⟩,
 ⟨some 10, false, none, iLoad (.t 9)⟩,
 ⟨some 4, true, none, iMov (.t 10)⟩])
 (cOps [⟨some 11, false, none, iMov (.t 4)⟩,
 ⟨some 12, false, none, iIaddrA 1 12 (.t 2) (.t 11)⟩,
 ⟨none, false, none, iStore 1 (.t 12) (.c (.bool (.lit true)))⟩])))
 (cOps [⟨some 13, false, none, iArith .add (.t 7) (.c (.int .i64 (.lit 1)))⟩,
 ⟨some 7, true, none, iMov (.t 13)⟩])))))))
 (cSeq (cOps [⟨some 14, false, none, iLoadN 12 (.t 2)⟩,
 ⟨none, false, none, iStore 12 (.t 2) (.t 14)⟩])
 cRet))), [.cell 2 true 12]⟩
noncomputable def Tryd.kp79 : List Nat := [0, 1, 2, 3, 4, 6, 8, 17, 18, 19, 27, 30, 31, 32, 33, 38, 41, 42, 43, 44, 58]
noncomputable def Tryd.cf79 : CF := ⟨1, (cSeq (cOps [⟨some 1, true, none, iBox 25 (.t 0)⟩,
 ⟨some 2, true, none, iMov (.c (.bool (.lit false)))⟩])
 (cSeq (cSeq (cOps [⟨some 9, false, none, iFaddr 0 (.t 1)⟩,
 ⟨some 10, false, none, iLoad (.t 9)⟩,
 ⟨some 11, false, none, iLenS (.t 10)⟩,
 ⟨some 12, false, none, iFaddr 1 (.t 1)⟩,
 ⟨some 13, false, none, iLoad (.t 12)⟩,
 ⟨some 14, false, none, iLenS (.t 13)⟩,
 ⟨some 15, false, none, iFaddr 2 (.t 1)⟩,
 ⟨some 16, false, none, iLoad (.t 15)⟩,
 ⟨some 17, true, none, iBuild [(.int .i64 (.lit 0)), (.int .i64 (.lit 0)), (.int .i64 (.lit 0))] [(0, 1, (.t 11)), (1, 1, (.t 14)), (2, 1, (.t 16))]⟩,
 ⟨some 18, true, none, iMov (.c (.int .i64 (.lit 0)))⟩])
 (cBlock 0 (cLoop (cSeq (cOps [⟨some 19, true, none, iCmp .lss (.t 18) (.c (.int .i64 (.lit 3)))⟩])
 (cSeq (cCond (.t 19) cSkip (cExit 0))
 (cSeq (cBlock 1 (cSeq (cOps [⟨some 20, false, none, iMov (.t 18)⟩,
 ⟨some 21, false, none, iIndex false 1 3 (.t 17) (.t 18)⟩,
 ⟨some 3, true, none, iMov (.t 20)⟩,
 ⟨some 4, true, none, iMov (.t 21)⟩])
 (cSeq (cOps [⟨some 22, false, none, iMov (.t 4)⟩,
 ⟨some 23, false, none, iMov (.t 3)⟩,
 ⟨some 24, false, none, iIaddrA 2 3 (.c (.ptr 1 0)) (.t 23)⟩,
 ⟨some 25, false, none, iLoadN 2 (.t 24)⟩,
 ⟨some 26, false, none, iCall (.c (.func (.func 88) [] [])) [(.t 22), (.t 25)]⟩,
 ⟨some 27, true, none, iNot (.t 26)⟩])
 (cCond (.t 27) (cSeq (cOps [⟨some 2, true, none, iMov (.c (.bool (.lit false)))⟩])
 cRet) cSkip))))
 (cOps [⟨some 28, false, none, iArith .add (.t 18) (.c (.int .i64 (.lit 1)))⟩,
 ⟨some 18, true, none, iMov (.t 28)⟩])))))))
 (cSeq (cSeq (cOps [⟨some 29, false, none, iFaddr 0 (.t 1)⟩,
 ⟨some 30, true, none, iLoad (.t 29)⟩,
 ⟨some 31, true, none, iLenS (.t 30)⟩,
 ⟨some 32, true, none, iMov (.c (.int .i64 (.lit 0)))⟩])
 (cBlock 2 (cLoop (cSeq (cOps [⟨some 33, true, none, iCmp .lss (.t 32) (.t 31)⟩])
 (cSeq (cCond (.t 33) cSkip (cExit 2))
 (cSeq (cBlock 3 (cSeq (cOps [⟨some 34, false, none, iIaddr 1 (.t 30) (.t 32)⟩,
 ⟨some 35, false, none, iLoad (.t 34)⟩,
 ⟨some 6, true, none, iMov (.t 35)⟩])
 (cSeq (cOps [⟨some 36, false, none, iMov (.t 6)⟩,
 ⟨some 37, false, none, iCall (.c (.func (.func 89) [] [])) [(.t 36)]⟩,
 ⟨some 38, true, none, iNot (.t 37)⟩])
 (cCond (.t 38) (cSeq (cOps [⟨some 2, true, none, iMov (.c (.bool (.lit false)))⟩])
 cRet) cSkip))))
 (cOps [⟨some 39, false, none, iArith .add (.t 32) (.c (.int .i64 (.lit 1)))⟩,
 ⟨some 32, true, none, iMov (.t 39)⟩])))))))
 (cSeq (cSeq (cOps [⟨some 40, false, none, iFaddr 1 (.t 1)⟩,
 ⟨some 41, true, none, iLoad (.t 40)⟩,
 ⟨some 42, true, none, iLenS (.t 41)⟩,
 ⟨some 43, true, none, iMov (.c (.int .i64 (.lit 0)))⟩])
 (cBlock 4 (cLoop (cSeq (cOps [⟨some 44, true, none, iCmp .lss (.t 43) (.t 42)⟩])
 (cSeq (cCond (.t 44) cSkip (cExit 4))
 (cSeq (cBlock 5 (cSeq (cOps [⟨some 45, false, none, iIaddr 3 (.t 41) (.t 43)⟩,
 ⟨some 46, false, none, iLoadN 3 (.t 45)⟩,
 ⟨some 8, true, none, iAlloc 97 [.nilslice, (.int .i64 (.lit 0)), (.int .i64 (.lit 0))]⟩,
 ⟨none, false, none, iStore 3 (.t 8) (.t 46)⟩])
 (cSeq (cOps [⟨some 47, false, none, iLoadN 3 (.t 8)⟩,
 ⟨some 48, false, none, iCall (.c (.func (.func 90) [] [])) [(.t 47)]⟩,
 ⟨some 49, false, none, iNot (.t 48)⟩,
 ⟨some 50, false, none, iMov (.t 49)⟩,
 ⟨some 51, false, some (50, false), iFaddr 0 (.t 8)⟩,
 ⟨some 52, false, some (50, false), iLoad (.t 51)⟩,
 ⟨some 53, false, some (50, false), iFaddr 0 (.t 1)⟩,
 ⟨some 54, false, some (50, false), iLoad (.t 53)⟩,
 ⟨some 55, false, some (50, false), iLenS (.t 54)⟩,
 ⟨some 56, false, some (50, false), iCall (.c (.func (.func 91) [] [])) [(.t 52), (.t 55)]⟩,
 ⟨some 57, false, some (50, false), iNot (.t 56)⟩,
 ⟨some 58, true, none, iPick (.t 50) (.c (.bool (.lit true))) (.t 57)⟩])
 (cCond (.t 58) (cSeq (cOps [⟨some 2, true, none, iMov (.c (.bool (.lit false)))⟩])
 cRet) cSkip))))
 (cOps [⟨some 59, false, none, iArith .add (.t 43) (.c (.int .i64 (.lit 1)))⟩,
 ⟨some 43, true, none, iMov (.t 59)⟩])))))))
 (cSeq (cOps [⟨some 2, true, none, iMov (.c (.bool (.lit true)))⟩])
 cRet))))), [.t 2]⟩
noncomputable def Tryd.kp80 : List Nat := [0, 2]
noncomputable def Tryd.cf80 : CF := ⟨1, (cSeq (cOps [⟨some 2, true, none, iMov (.c (.int .i64 (.lit 0)))⟩])
 (cSeq (cOps [⟨some 3, false, none, iMov (.t 0)⟩,
 ⟨some 4, false, none, iArith .add (.c (.int .i64 (.lit 6))) (.t 3)⟩,
 ⟨some 2, true, none, iMov (.t 4)⟩])
 cRet)), [.t 2]⟩
noncomputable def Tryd.ra81006 : C := (cOps [⟨some 4, true, none, iAlloc 121 [.nilslice, (.int .i64 (.lit 0)), (.int .i64 (.lit 0)), (.int .i64 (.lit 0)), (.int .i64 (.lit 0)), (.int .i64 (.lit 0)), (.int .i64 (.lit 0)), (.int .i64 (.lit 0))]⟩,
 ⟨none, false, none, iStore 8 (.t 4) (.t 6)⟩])
noncomputable def Tryd.rb81006 : C := (cBlock 1 (cSeq (cOps [⟨some 7, false, none, iLoad (.t 2)⟩,
 ⟨some 8, false, none, iLoadN 8 (.t 4)⟩,
 ⟨some 9, false, none, iCall (.t 7) [(.t 8)]⟩,
 ⟨some 10, false, none, iMov (.t 9)⟩,
 ⟨some 11, false, some (10, true), iLoad (.t 3)⟩,
 ⟨some 12, false, some (10, true), iLoadN 8 (.t 4)⟩,
 ⟨some 13, false, some (10, true), iCall (.t 11) [(.t 12)]⟩,
 ⟨some 14, false, some (10, true), iNot (.t 13)⟩,
 ⟨some 15, true, none, iPick (.t 10) (.t 14) (.c (.bool (.lit false)))⟩])
 (cCond (.t 15) cRet cSkip)))
noncomputable def Tryd.kp81 : List Nat := [0, 1, 2, 3, 4, 5, 6, 15]
noncomputable def Tryd.cf81 : CF := ⟨3, (cSeq (cOps [⟨some 3, true, none, iBox 149 (.t 0)⟩])
 (cSeq (cOps [⟨some 5, true, none, iLoad (.t 1)⟩])
 (cBlock 0 (cRange (.t 5) [6] 81006)))), []⟩
noncomputable def Tryd.kp82 : List Nat := [0, 1, 2, 3, 4]
noncomputable def Tryd.cf82 : CF := ⟨3, (cSeq (cOps [⟨some 3, true, none, iBox 149 (.t 0)⟩])
 (cSeq (cOps [⟨some 4, true, none, iAlloc 157 [.nilFunc]⟩])
 (cSeq (cOps [⟨some 5, false, none, iFunc (.func 83) [] [(.t 1), (.t 3), (.t 2), (.t 4)]⟩,
 ⟨none, false, none, iStore 1 (.t 4) (.t 5)⟩])
 (dOps 0 [⟨⟨some 6, false, none, iLoad (.t 4)⟩, [4], false, 0, 1, none, []⟩,
 ⟨⟨some 7, false, none, iLoadN 11 (.t 2)⟩, [2], false, 0, 0, none, []⟩,
 ⟨⟨some 8, false, none, iCall (.c (.func (.func 85) [] [])) [(.t 7)]⟩, [7], true, 0, 0, none, []⟩,
 ⟨⟨some 9, false, none, iBuild [.nilslice, (.int .i64 (.lit 0)), (.int .i64 (.lit 0)), (.int .i64 (.lit 0)), (.int .i64 (.lit 0)), (.int .i64 (.lit 0)), (.int .i64 (.lit 0)), (.int .i64 (.lit 0))] [(1, 7, (.t 8))]⟩, [8], false, 1, 1, none, []⟩,
 ⟨⟨some 10, false, none, iFaddr 0 (.t 2)⟩, [2], false, 0, 1, none, []⟩,
 ⟨⟨some 11, false, none, iFaddr 4 (.t 10)⟩, [10], false, 0, 1, none, []⟩,
 ⟨⟨some 12, false, none, iLoad (.t 11)⟩, [11], false, 0, 1, none, []⟩,
 ⟨⟨some 13, false, none, iFaddr 0 (.t 2)⟩, [2], false, 0, 1, none, []⟩,
 ⟨⟨some 14, false, none, iFaddr 0 (.t 13)⟩, [13], false, 0, 1, none, []⟩,
 ⟨⟨some 15, false, none, iFaddr 2 (.t 14)⟩, [14], false, 0, 1, none, []⟩,
 ⟨⟨some 16, false, none, iLoad (.t 15)⟩, [15], false, 0, 1, none, []⟩,
 ⟨⟨some 17, false, none, iArith .add (.t 12) (.t 16)⟩, [12, 16], false, 0, 1, none, []⟩,
 ⟨⟨some 18, false, none, iCall (.t 6) [(.t 9), (.t 17)]⟩, [6, 9, 17], true, 1, 0, none, []⟩])))), []⟩
noncomputable def Tryd.kp83 : List Nat := [0, 1, 2, 3, 4, 5, 6, 8, 9, 11, 12, 19, 29, 30, 31, 32, 60, 87]
noncomputable def Tryd.cf83 : CF := ⟨6, (cSeq (cOps [⟨some 6, true, none, iBox 121 (.t 0)⟩,
 ⟨some 8, true, none, iMov (.c (.bool (.lit false)))⟩])
 (cSeq (cOps [⟨some 13, false, none, iFaddr 0 (.t 6)⟩,
 ⟨some 14, false, none, iLoad (.t 13)⟩,
 ⟨some 15, false, none, iLenS (.t 14)⟩,
 ⟨some 9, true, none, iMov (.t 15)⟩])
 (cSeq (cSeq (cOps [⟨some 16, false, none, iMov (.t 9)⟩,
 ⟨some 17, false, none, iLoad (.t 2)⟩,
 ⟨some 18, false, none, iLenS (.t 17)⟩,
 ⟨some 19, true, none, iCmp .eql (.t 16) (.t 18)⟩])
 (cCond (.t 19) (cSeq (cOps [⟨some 20, false, none, iLoad (.t 3)⟩,
 ⟨some 21, false, none, iLoadN 8 (.t 6)⟩,
 ⟨some 22, false, none, iCall (.t 20) [(.t 21)]⟩,
 ⟨some 8, true, none, iMov (.t 22)⟩])
 cRet) cSkip))
 (cSeq (cSeq (dOps 0 [⟨⟨some 23, false, none, iFaddr 9 (.t 4)⟩, [4], false, 0, 0, none, []⟩,
 ⟨⟨some 24, false, none, iLoad (.t 23)⟩, [23], false, 0, 0, none, []⟩,
 ⟨⟨some 25, false, none, iLoad (.t 2)⟩, [2], false, 0, 0, none, []⟩,
 ⟨⟨some 26, false, none, iMov (.t 9)⟩, [9], false, 0, 0, none, []⟩,
 ⟨⟨some 27, false, none, iIaddr 3 (.t 25) (.t 26)⟩, [25, 26], false, 0, 0, none, []⟩,
 ⟨⟨some 28, false, none, iLoadN 3 (.t 27)⟩, [27], false, 0, 0, none, []⟩,
 ⟨⟨some 29, true, none, iLookup .nilslice true 3 [(0, .int), (1, .int), (2, .int)] false (.t 24) (.t 28)⟩, [24, 28], false, 0, 0, none, []⟩,
 ⟨⟨some 30, true, none, iLenS (.t 29)⟩, [29], false, 0, 0, none, []⟩,
 ⟨⟨some 31, true, none, iMov (.c (.int .i64 (.lit 0)))⟩, [], false, 0, 0, none, []⟩])
 (cBlock 0 (cLoop (cSeq (cOps [⟨some 32, true, none, iCmp .lss (.t 31) (.t 30)⟩])
 (cSeq (cCond (.t 32) cSkip (cExit 0))
 (cSeq (cBlock 1 (cSeq (cOps [⟨some 33, false, none, iIaddr 5 (.t 29) (.t 31)⟩,
 ⟨some 34, false, none, iLoadN 5 (.t 33)⟩,
 ⟨some 11, true, none, iAlloc 146 [(.int .i64 (.lit 0)), (.int .i64 (.lit 0)), (.int .i64 (.lit 0)), (.int .i64 (.lit 0)), (.int .i64 (.lit 0))]⟩,
 ⟨none, false, none, iStore 5 (.t 11) (.t 34)⟩])
 (cSeq (cOps [⟨some 35, false, none, iLoadN 11 (.t 4)⟩,
 ⟨some 36, false, none, iFaddr 1 (.t 6)⟩,
 ⟨some 37, false, none, iLoadN 7 (.t 36)⟩,
 ⟨some 38, false, none, iLoadN 5 (.t 11)⟩,
 ⟨some 39, false, none, iCall (.c (.func (.func 84) [] [])) [(.t 35), (.t 37), (.t 38)]⟩,
 ⟨some 12, true, none, iAlloc 119 [(.int .i64 (.lit 0)), (.int .i64 (.lit 0)), (.int .i64 (.lit 0)), (.int .i64 (.lit 0)), (.int .i64 (.lit 0)), (.int .i64 (.lit 0)), (.int .i64 (.lit 0))]⟩,
 ⟨none, false, none, iStore 7 (.t 12) (.t 39)⟩])
 (cSeq (dOps 0 [⟨⟨some 40, false, none, iFaddr 3 (.t 11)⟩, [11], false, 0, 2, none, []⟩,
 ⟨⟨some 41, false, none, iFaddr 0 (.t 40)⟩, [40], false, 0, 2, none, []⟩,
 ⟨⟨some 42, false, none, iLoad (.t 41)⟩, [41], false, 0, 2, none, []⟩,
 ⟨⟨some 43, false, none, iMov (.t 1)⟩, [1], false, 0, 1, none, []⟩,
 ⟨⟨some 44, false, none, iLoadN 11 (.t 4)⟩, [4], false, 0, 0, none, []⟩,
 ⟨⟨some 45, false, none, iFaddr 0 (.t 11)⟩, [11], false, 0, 0, none, []⟩,
 ⟨⟨some 46, false, none, iLoadN 3 (.t 45)⟩, [45], false, 0, 0, none, []⟩,
 ⟨⟨some 47, false, none, iCall (.c (.func (.func 67) [] [])) [(.t 44), (.t 46)]⟩, [44, 46], true, 0, 0, none, []⟩,
 ⟨⟨some 48, false, none, iField false 2 1 (.t 47)⟩, [47], false, 1, 1, none, []⟩,
 ⟨⟨some 49, false, none, iArith .sub (.t 43) (.t 48)⟩, [43, 48], false, 1, 1, none, []⟩,
 ⟨⟨some 50, false, none, iBslice 3 [(.int .i64 (.lit 0))] 1 [(0, 1, (.t 49))]⟩, [49], true, 1, 0, none, []⟩,
 ⟨⟨some 51, false, none, iCall (.c (.func (.func 53) [] [])) [(.t 42), (.t 50)]⟩, [42, 50], true, 2, 0, none, []⟩,
 ⟨⟨some 52, false, none, iFaddr 3 (.t 11)⟩, [11], false, 3, 3, none, []⟩,
 ⟨⟨some 53, false, none, iFaddr 0 (.t 52)⟩, [52], false, 3, 3, none, []⟩,
 ⟨⟨none, false, none, iStore 1 (.t 53) (.t 51)⟩, [53, 51], true, 3, 0, none, []⟩])
 (cSeq (cSeq (cOps [⟨some 54, false, none, iFaddr 3 (.t 11)⟩,
 ⟨some 55, false, none, iFaddr 0 (.t 54)⟩,
 ⟨some 56, false, none, iLoad (.t 55)⟩,
 ⟨some 57, false, none, iFaddr 3 (.t 11)⟩,
 ⟨some 58, false, none, iFaddr 1 (.t 57)⟩,
 ⟨some 59, false, none, iLoad (.t 58)⟩,
 ⟨some 60, true, none, iCmp .gtr (.t 56) (.t 59)⟩])
 (cCond (.t 60) (cExit 1) cSkip))
 (cSeq (dOps 0 [⟨⟨some 61, false, none, iLoad (.t 5)⟩, [5], false, 0, 3, none, []⟩,
 ⟨⟨some 62, false, none, iFaddr 0 (.t 6)⟩, [6], false, 0, 1, none, []⟩,
 ⟨⟨some 63, false, none, iLoad (.t 62)⟩, [62], false, 0, 1, none, []⟩,
 ⟨⟨some 64, false, none, iMov (.t 9)⟩, [9], false, 0, 1, none, []⟩,
 ⟨⟨some 65, false, none, iMov (.t 9)⟩, [9], false, 0, 1, none, []⟩,
 ⟨⟨some 66, false, none, iSlice 5 (.t 63) none (some (.t 64)) (some (.t 65))⟩, [63, 64, 65], false, 0, 1, none, []⟩,
 ⟨⟨some 67, false, none, iLoadN 5 (.t 11)⟩, [11], false, 0, 0, none, []⟩,
 ⟨⟨some 68, false, none, iBslice 146 [(.int .i64 (.lit 0)), (.int .i64 (.lit 0)), (.int .i64 (.lit 0)), (.int .i64 (.lit 0)), (.int .i64 (.lit 0))] 1 [(0, 5, (.t 67))]⟩, [67], true, 0, 0, none, []⟩,
 ⟨⟨some 69, false, none, iAppend 146 5 40 (.t 66) (.t 68)⟩, [66, 68], true, 1, 0, none, []⟩,
 ⟨⟨some 70, false, none, iLoadN 7 (.t 12)⟩, [12], false, 0, 3, none, []⟩,
 ⟨⟨some 71, false, none, iBuild [.nilslice, (.int .i64 (.lit 0)), (.int .i64 (.lit 0)), (.int .i64 (.lit 0)), (.int .i64 (.lit 0)), (.int .i64 (.lit 0)), (.int .i64 (.lit 0)), (.int .i64 (.lit 0))] [(0, 1, (.t 69)), (1, 7, (.t 70))]⟩, [69, 70], false, 2, 3, none, []⟩,
 ⟨⟨some 72, false, none, iLoadN 11 (.t 4)⟩, [4], false, 0, 2, none, []⟩,
 ⟨⟨some 73, false, none, iFaddr 0 (.t 11)⟩, [11], false, 0, 2, none, []⟩,
 ⟨⟨some 74, false, none, iLoadN 3 (.t 73)⟩, [73], false, 0, 2, none, []⟩,
 ⟨⟨some 75, false, none, iCall (.c (.func (.func 66) [] [])) [(.t 72), (.t 74)]⟩, [72, 74], true, 2, 0, none, []⟩,
 ⟨⟨some 76, false, none, iField false 1 1 (.t 75)⟩, [75], false, 3, 3, none, []⟩,
 ⟨⟨some 77, false, none, iFaddr 3 (.t 11)⟩, [11], false, 0, 3, none, []⟩,
 ⟨⟨some 78, false, none, iFaddr 0 (.t 77)⟩, [77], false, 0, 3, none, []⟩,
 ⟨⟨some 79, false, none, iLoad (.t 78)⟩, [78], false, 0, 3, none, []⟩,
 ⟨⟨some 80, false, none, iArith .add (.t 76) (.t 79)⟩, [76, 79], false, 3, 3, none, []⟩,
 ⟨⟨some 81, false, none, iFaddr 0 (.t 4)⟩, [4], false, 0, 3, none, []⟩,
 ⟨⟨some 82, false, none, iFaddr 0 (.t 81)⟩, [81], false, 0, 3, none, []⟩,
 ⟨⟨some 83, false, none, iFaddr 2 (.t 82)⟩, [82], false, 0, 3, none, []⟩,
 ⟨⟨some 84, false, none, iLoad (.t 83)⟩, [83], false, 0, 3, none, []⟩,
 ⟨⟨some 85, false, none, iArith .add (.t 80) (.t 84)⟩, [80, 84], false, 3, 3, none, []⟩,
 ⟨⟨some 86, false, none, iCall (.t 61) [(.t 71), (.t 85)]⟩, [61, 71, 85], true, 3, 0, none, []⟩,
 ⟨⟨some 87, true, none, iNot (.t 86)⟩, [86], false, 4, 4, none, []⟩])
 (cCond (.t 87) (cSeq (cOps [⟨some 8, true, none, iMov (.c (.bool (.lit false)))⟩])
 cRet) cSkip)))))))
 (cOps [⟨some 88, false, none, iArith .add (.t 31) (.c (.int .i64 (.lit 1)))⟩,
 ⟨some 31, true, none, iMov (.t 88)⟩])))))))
 (cSeq (cOps [⟨some 8, true, none, iMov (.c (.bool (.lit true)))⟩])
 cRet))))), [.t 8]⟩
noncomputable def Tryd.kp84 : List Nat := [0, 1, 2, 3, 4, 5, 6, 7, 8, 12, 13, 14, 17, 18, 26]
noncomputable def Tryd.cf84 : CF := ⟨3, (cSeq (cOps [⟨some 3, true, none, iBox 66 (.t 0)⟩,
 ⟨some 4, true, none, iBox 119 (.t 1)⟩,
 ⟨some 5, true, none, iBox 146 (.t 2)⟩,
 ⟨some 6, true, none, iAlloc 119 [(.int .i64 (.lit 0)), (.int .i64 (.lit 0)), (.int .i64 (.lit 0)), (.int .i64 (.lit 0)), (.int .i64 (.lit 0)), (.int .i64 (.lit 0)), (.int .i64 (.lit 0))]⟩])
 (cSeq (cSeq (cOps [⟨some 9, false, none, iFaddr 10 (.t 3)⟩,
 ⟨some 10, false, none, iLoad (.t 9)⟩,
 ⟨some 11, false, none, iLoadN 5 (.t 5)⟩,
 ⟨some 12, true, none, iLookup (.agg [(.int .i64 (.lit 0)), (.int .i64 (.lit 0)), (.int .i64 (.lit 0)), (.int .i64 (.lit 0)), (.int .i64 (.lit 0)), (.int .i64 (.lit 0)), (.int .i64 (.lit 0))]) true 5 [(0, .int), (1, .int), (2, .int), (3, .int), (4, .int)] false (.t 10) (.t 11)⟩,
 ⟨some 13, true, none, iMov (.c (.int .i64 (.lit 0)))⟩])
 (cBlock 0 (cLoop (cSeq (cOps [⟨some 14, true, none, iCmp .lss (.t 13) (.c (.int .i64 (.lit 7)))⟩])
 (cSeq (cCond (.t 14) cSkip (cExit 0))
 (cSeq (cBlock 1 (cSeq (cOps [⟨some 15, false, none, iMov (.t 13)⟩,
 ⟨some 16, false, none, iIndex false 1 7 (.t 12) (.t 13)⟩,
 ⟨some 7, true, none, iMov (.t 15)⟩,
 ⟨some 8, true, none, iMov (.t 16)⟩])
 (cSeq (cOps [⟨some 17, true, none, iMov (.t 8)⟩])
 (cBlock 2 (cSeq (cOps [⟨some 19, false, none, iCmp .eql (.t 17) (.c (.int .i64 (.lit 1)))⟩,
 ⟨some 18, true, none, iMov (.t 19)⟩])
 (cCond (.t 18) (cOps [⟨some 20, false, none, iMov (.t 7)⟩,
 ⟨some 21, false, none, iFaddr 0 (.t 5)⟩,
 ⟨some 22, false, none, iFaddr 0 (.t 21)⟩,
 ⟨some 23, false, none, iLoad (.t 22)⟩,
 ⟨some 24, false, none, iCall (.c (.func (.func 80) [] [])) [(.t 23)]⟩,
 ⟨some 25, false, none, iIaddrA 1 7 (.t 4) (.t 20)⟩,
 ⟨none, false, none, iStore 1 (.t 25) (.t 24)⟩]) (cSeq (cOps [⟨some 27, false, none, iCmp .eql (.t 17) (.c (.int .i64 (.lit 2)))⟩,
 ⟨some 26, true, none, iMov (.t 27)⟩])
 (cCond (.t 26) (cOps [⟨some 28, false, none, iMov (.t 7)⟩,
 ⟨some 29, false, none, iLoadN 11 (.t 3)⟩,
 ⟨some 30, false, none, iFaddr 0 (.t 5)⟩,
 ⟨some 31, false, none, iLoadN 3 (.t 30)⟩,
 ⟨some 32, false, none, iCall (.c (.func (.func 66) [] [])) [(.t 29), (.t 31)]⟩,
 ⟨some 33, false, none, iField false 0 1 (.t 32)⟩,
 ⟨some 34, false, none, iCall (.c (.func (.func 77) [] [])) [(.t 33)]⟩,
 ⟨some 35, false, none, iIaddrA 1 7 (.t 4) (.t 28)⟩,
 ⟨none, false, none, iStore 1 (.t 35) (.t 34)⟩]) cSkip))))))))
 (cOps [⟨some 36, false, none, iArith .add (.t 13) (.c (.int .i64 (.lit 1)))⟩,
 ⟨some 13, true, none, iMov (.t 36)⟩])))))))
 (cSeq (cOps [⟨some 37, false, none, iLoadN 7 (.t 4)⟩,
 ⟨none, false, none, iStore 7 (.t 6) (.t 37)⟩])
 cRet))), [.cell 6 true 7]⟩
noncomputable def Tryd.kp85 : List Nat := [0, 1, 2, 3, 4, 5]
noncomputable def Tryd.cf85 : CF := ⟨1, (cSeq (cOps [⟨some 1, true, none, iBox 66 (.t 0)⟩,
 ⟨some 2, true, none, iAlloc 119 [(.int .i64 (.lit 0)), (.int .i64 (.lit 0)), (.int .i64 (.lit 0)), (.int .i64 (.lit 0)), (.int .i64 (.lit 0)), (.int .i64 (.lit 0)), (.int .i64 (.lit 0))]⟩])
 (cSeq (cSeq (cOps [⟨some 4, true, none, iMov (.c (.int .i64 (.lit 0)))⟩])
 (cBlock 0 (cLoop (cSeq (cOps [⟨some 5, true, none, iCmp .lss (.t 4) (.c (.int .i64 (.lit 7)))⟩])
 (cSeq (cCond (.t 5) cSkip (cExit 0))
 (cSeq (cBlock 1 (cSeq (cOps [⟨some 6, false, none, iMov (.t 4)⟩,
 ⟨some 3, true, none, iMov (.t 6)⟩])
 (cOps [⟨some 7, false, none, iMov (.t 3)⟩,
 ⟨some 8, false, none, iFaddr 0 (.t 1)⟩,
 ⟨some 9, false, none, iFaddr 3 (.t 8)⟩,
 ⟨some 10, false, none, iLoad (.t 9)⟩,
 ⟨some 11, false, none, iCall (.c (.func (.func 77) [] [])) [(.t 10)]⟩,
 ⟨some 12, false, none, iIaddrA 1 7 (.t 2) (.t 7)⟩,
 ⟨none, false, none, iStore 1 (.t 12) (.t 11)⟩])))
 (cOps [⟨some 13, false, none, iArith .add (.t 4) (.c (.int .i64 (.lit 1)))⟩,
 ⟨some 4, true, none, iMov (.t 13)⟩])))))))
 (cSeq (cOps [⟨some 14, false, none, iLoadN 7 (.t 2)⟩,
 ⟨none, false, none, iStore 7 (.t 2) (.t 14)⟩])
 cRet))), [.cell 2 true 7]⟩
noncomputable def Tryd.kp86 : List Nat := [0, 1, 2, 3, 5, 6, 7]
noncomputable def Tryd.cf86 : CF := ⟨3, (cSeq (cOps [⟨some 3, true, none, iBox 66 (.t 0)⟩,
 ⟨some 5, true, none, iBox 121 (.t 2)⟩,
 ⟨some 6, true, none, iMov (.c (.bool (.lit false)))⟩])
 (cSeq (cOps [⟨some 8, false, none, iFaddr 0 (.t 3)⟩,
 ⟨some 9, false, none, iFaddr 6 (.t 8)⟩,
 ⟨some 10, false, none, iLoad (.t 9)⟩,
 ⟨some 11, false, none, iMov (.t 1)⟩,
 ⟨some 12, false, none, iIaddr 4 (.t 10) (.t 11)⟩,
 ⟨some 13, false, none, iLoadN 4 (.t 12)⟩,
 ⟨some 7, true, none, iAlloc 31 [(.bool (.lit false)), (.int .i64 (.lit 0)), (.int .i64 (.lit 0)), (.bool (.lit false))]⟩,
 ⟨none, false, none, iStore 4 (.t 7) (.t 13)⟩])
 (cSeq (dOps 0 [⟨⟨some 14, false, none, iFaddr 7 (.t 3)⟩, [3], false, 0, 0, none, []⟩,
 ⟨⟨some 15, false, none, iLoad (.t 14)⟩, [14], false, 0, 0, none, []⟩,
 ⟨⟨some 16, false, none, iMov (.t 1)⟩, [1], false, 0, 0, none, []⟩,
 ⟨⟨some 17, false, none, iIaddr 1 (.t 15) (.t 16)⟩, [15, 16], false, 0, 0, none, []⟩,
 ⟨⟨some 18, false, none, iLoad (.t 17)⟩, [17], false, 0, 0, none, []⟩,
 ⟨⟨some 19, false, none, iMov (.t 1)⟩, [1], false, 0, 0, none, []⟩,
 ⟨⟨some 20, false, none, iFaddr 1 (.t 5)⟩, [5], false, 0, 0, none, []⟩,
 ⟨⟨some 21, false, none, iIaddrA 1 7 (.t 20) (.t 19)⟩, [20, 19], false, 0, 0, none, []⟩,
 ⟨⟨some 22, false, none, iLoad (.t 21)⟩, [21], false, 0, 0, none, []⟩,
 ⟨⟨some 23, false, none, iFaddr 1 (.t 7)⟩, [7], false, 0, 0, none, []⟩,
 ⟨⟨some 24, false, none, iLoad (.t 23)⟩, [23], false, 0, 0, none, []⟩,
 ⟨⟨some 25, false, none, iCall (.t 18) [(.t 22), (.t 24)]⟩, [18, 22, 24], true, 0, 0, none, []⟩,
 ⟨⟨some 26, false, none, iFaddr 3 (.t 7)⟩, [7], false, 0, 1, none, []⟩,
 ⟨⟨some 27, false, none, iLoad (.t 26)⟩, [26], false, 0, 1, none, []⟩,
 ⟨⟨some 28, false, none, iEq false false 1 [(0, .bool)] (.t 25) (.t 27)⟩, [25, 27], false, 1, 1, none, []⟩,
 ⟨⟨some 6, true, none, iMov (.t 28)⟩, [28], false, 1, 1, none, []⟩])
 cRet))), [.t 6]⟩
noncomputable def Tryd.kp87 : List Nat := [0, 1, 2, 6, 7, 8, 9, 10, 11, 12, 13, 14, 21, 31, 38]
noncomputable def Tryd.cf87 : CF := ⟨3, (cSeq (cOps [⟨some 6, true, none, iMov (.c (.int .i64 (.lit 0)))⟩])
 (cSeq (cSeq (cOps [⟨some 11, true, none, iMov (.t 0)⟩,
 ⟨some 12, true, none, iLenS (.t 11)⟩,
 ⟨some 13, true, none, iMov (.c (.int .i64 (.lit 0)))⟩])
 (cBlock 0 (cLoop (cSeq (cOps [⟨some 14, true, none, iCmp .lss (.t 13) (.t 12)⟩])
 (cSeq (cCond (.t 14) cSkip (cExit 0))
 (cSeq (cBlock 1 (cSeq (cOps [⟨some 15, false, none, iMov (.t 13)⟩,
 ⟨some 16, false, none, iIaddr 1 (.t 11) (.t 13)⟩,
 ⟨some 17, false, none, iLoad (.t 16)⟩,
 ⟨some 7, true, none, iMov (.t 15)⟩,
 ⟨some 8, true, none, iMov (.t 17)⟩])
 (cSeq (cSeq (cOps [⟨some 18, false, none, iMov (.t 7)⟩,
 ⟨some 19, false, none, iMov (.t 1)⟩,
 ⟨some 20, false, none, iLenS (.t 19)⟩,
 ⟨some 21, true, none, iCmp .geq (.t 18) (.t 20)⟩])
 (cCond (.t 21) (cSeq (cOps [⟨some 6, true, none, iMov (.c (.int .i64 (.lit 1)))⟩])
 cRet) cSkip))
 (cSeq (cOps [⟨some 22, false, none, iMov (.t 1)⟩,
 ⟨some 23, false, none, iMov (.t 7)⟩,
 ⟨some 24, false, none, iIaddr 1 (.t 22) (.t 23)⟩,
 ⟨some 25, false, none, iLoad (.t 24)⟩,
 ⟨some 9, true, none, iMov (.t 25)⟩])
 (cSeq (cOps [⟨some 26, false, none, iMov (.t 2)⟩,
 ⟨some 27, false, none, iMov (.t 8)⟩,
 ⟨some 28, false, none, iMov (.t 9)⟩,
 ⟨some 29, false, none, iCall (.t 26) [(.t 27), (.t 28)]⟩,
 ⟨some 10, true, none, iMov (.t 29)⟩])
 (cSeq (cOps [⟨some 30, false, none, iMov (.t 10)⟩,
 ⟨some 31, true, none, iCmp .neq (.t 30) (.c (.int .i64 (.lit 0)))⟩])
 (cCond (.t 31) (cSeq (cOps [⟨some 32, false, none, iMov (.t 10)⟩,
 ⟨some 6, true, none, iMov (.t 32)⟩])
 cRet) cSkip)))))))
 (cOps [⟨some 33, false, none, iArith .add (.t 13) (.c (.int .i64 (.lit 1)))⟩,
 ⟨some 13, true, none, iMov (.t 33)⟩])))))))
 (cSeq (cSeq (cOps [⟨some 34, false, none, iMov (.t 0)⟩,
 ⟨some 35, false, none, iLenS (.t 34)⟩,
 ⟨some 36, false, none, iMov (.t 1)⟩,
 ⟨some 37, false, none, iLenS (.t 36)⟩,
 ⟨some 38, true, none, iCmp .lss (.t 35) (.t 37)⟩])
 (cCond (.t 38) (cSeq (cOps [⟨some 6, true, none, iMov (.c (.int .i64 (.lit (-1))))⟩])
 cRet) cSkip))
 (cSeq (cOps [⟨some 6, true, none, iMov (.c (.int .i64 (.lit 0)))⟩])
 cRet)))), [.t 6]⟩
noncomputable def Tryd.kp88 : List Nat := [0, 1, 3, 4]
noncomputable def Tryd.cf88 : CF := ⟨2, (cSeq (cOps [⟨some 3, true, none, iBox 46 (.t 1)⟩,
 ⟨some 4, true, none, iMov (.c (.bool (.lit false)))⟩])
 (cSeq (cOps [⟨some 5, false, none, iFaddr 0 (.t 3)⟩,
 ⟨some 6, false, none, iLoad (.t 5)⟩,
 ⟨some 7, false, none, iMov (.t 0)⟩,
 ⟨some 8, false, none, iCmp .leq (.t 6) (.t 7)⟩,
 ⟨some 9, false, none, iMov (.t 8)⟩,
 ⟨some 10, false, some (9, true), iMov (.t 0)⟩,
 ⟨some 11, false, some (9, true), iFaddr 1 (.t 3)⟩,
 ⟨some 12, false, some (9, true), iLoad (.t 11)⟩,
 ⟨some 13, false, some (9, true), iCmp .leq (.t 10) (.t 12)⟩,
 ⟨some 14, false, none, iPick (.t 9) (.t 13) (.c (.bool (.lit false)))⟩,
 ⟨some 4, true, none, iMov (.t 14)⟩])
 cRet)), [.t 4]⟩
noncomputable def Tryd.kp89 : List Nat := [0, 2, 3, 5, 6, 7, 8, 9, 28]
noncomputable def Tryd.cf89 : CF := ⟨1, (cSeq (cOps [⟨some 2, true, none, iMov (.c (.bool (.lit false)))⟩])
 (cSeq (cOps [⟨some 3, true, none, iMov (.c (.int .i64 (.lit 0)))⟩])
 (cSeq (cSeq (cOps [⟨some 6, true, none, iMov (.t 0)⟩,
 ⟨some 7, true, none, iLenS (.t 6)⟩,
 ⟨some 8, true, none, iMov (.c (.int .i64 (.lit 0)))⟩])
 (cBlock 0 (cLoop (cSeq (cOps [⟨some 9, true, none, iCmp .lss (.t 8) (.t 7)⟩])
 (cSeq (cCond (.t 9) cSkip (cExit 0))
 (cSeq (cBlock 1 (cSeq (cOps [⟨some 10, false, none, iIaddr 2 (.t 6) (.t 8)⟩,
 ⟨some 11, false, none, iLoadN 2 (.t 10)⟩,
 ⟨some 5, true, none, iAlloc 46 [(.int .i64 (.lit 0)), (.int .i64 (.lit 0))]⟩,
 ⟨none, false, none, iStore 2 (.t 5) (.t 11)⟩])
 (cSeq (cSeq (cOps [⟨some 12, false, none, iFaddr 0 (.t 5)⟩,
 ⟨some 13, false, none, iLoad (.t 12)⟩,
 ⟨some 14, false, none, iMov (.t 3)⟩,
 ⟨some 15, false, none, iCmp .lss (.t 13) (.t 14)⟩,
 ⟨some 16, false, none, iMov (.t 15)⟩,
 ⟨some 17, false, some (16, false), iFaddr 1 (.t 5)⟩,
 ⟨some 18, false, some (16, false), iLoad (.t 17)⟩,
 ⟨some 19, false, some (16, false), iFaddr 0 (.t 5)⟩,
 ⟨some 20, false, some (16, false), iLoad (.t 19)⟩,
 ⟨some 21, false, some (16, false), iCmp .lss (.t 18) (.t 20)⟩,
 ⟨some 22, false, none, iPick (.t 16) (.c (.bool (.lit true))) (.t 21)⟩,
 ⟨some 23, false, none, iMov (.t 22)⟩,
 ⟨some 24, false, some (23, false), iFaddr 1 (.t 5)⟩,
 ⟨some 25, false, some (23, false), iLoad (.t 24)⟩,
 ⟨some 26, false, some (23, false), iCall (.c (.func (.func 92) [] [])) [(.t 25)]⟩,
 ⟨some 27, false, some (23, false), iNot (.t 26)⟩,
 ⟨some 28, true, none, iPick (.t 23) (.c (.bool (.lit true))) (.t 27)⟩])
 (cCond (.t 28) (cSeq (cOps [⟨some 2, true, none, iMov (.c (.bool (.lit false)))⟩])
 cRet) cSkip))
 (cOps [⟨some 29, false, none, iFaddr 1 (.t 5)⟩,
 ⟨some 30, false, none, iLoad (.t 29)⟩,
 ⟨some 31, false, none, iArith .add (.t 30) (.c (.int .i64 (.lit 1)))⟩,
 ⟨some 3, true, none, iMov (.t 31)⟩]))))
 (cOps [⟨some 32, false, none, iArith .add (.t 8) (.c (.int .i64 (.lit 1)))⟩,
 ⟨some 8, true, none, iMov (.t 32)⟩])))))))
 (cSeq (cOps [⟨some 33, false, none, iMov (.t 0)⟩,
 ⟨some 34, false, none, iLenS (.t 33)⟩,
 ⟨some 35, false, none, iCmp .leq (.t 34) (.c (.int .i64 (.lit 3)))⟩,
 ⟨some 2, true, none, iMov (.t 35)⟩])
 cRet)))), [.t 2]⟩
noncomputable def Tryd.kp90 : List Nat := [0, 1, 2, 3, 4, 14, 15, 16, 24]
noncomputable def Tryd.cf90 : CF := ⟨1, (cSeq (cOps [⟨some 1, true, none, iBox 97 (.t 0)⟩,
 ⟨some 2, true, none, iMov (.c (.bool (.lit false)))⟩])
 (cSeq (cSeq (cOps [⟨some 5, false, none, iFaddr 0 (.t 1)⟩,
 ⟨some 6, false, none, iLoad (.t 5)⟩,
 ⟨some 7, false, none, iLenS (.t 6)⟩,
 ⟨some 8, false, none, iFaddr 1 (.t 1)⟩,
 ⟨some 9, false, none, iFaddr 0 (.t 8)⟩,
 ⟨some 10, false, none, iLoad (.t 9)⟩,
 ⟨some 11, false, none, iFaddr 1 (.t 1)⟩,
 ⟨some 12, false, none, iFaddr 1 (.t 11)⟩,
 ⟨some 13, false, none, iLoad (.t 12)⟩,
 ⟨some 14, true, none, iBuild [(.int .i64 (.lit 0)), (.int .i64 (.lit 0)), (.int .i64 (.lit 0))] [(0, 1, (.t 7)), (1, 1, (.t 10)), (2, 1, (.t 13))]⟩,
 ⟨some 15, true, none, iMov (.c (.int .i64 (.lit 0)))⟩])
 (cBlock 0 (cLoop (cSeq (cOps [⟨some 16, true, none, iCmp .lss (.t 15) (.c (.int .i64 (.lit 3)))⟩])
 (cSeq (cCond (.t 16) cSkip (cExit 0))
 (cSeq (cBlock 1 (cSeq (cOps [⟨some 17, false, none, iMov (.t 15)⟩,
 ⟨some 18, false, none, iIndex false 1 3 (.t 14) (.t 15)⟩,
 ⟨some 3, true, none, iMov (.t 17)⟩,
 ⟨some 4, true, none, iMov (.t 18)⟩])
 (cSeq (cOps [⟨some 19, false, none, iMov (.t 4)⟩,
 ⟨some 20, false, none, iMov (.t 3)⟩,
 ⟨some 21, false, none, iIaddrA 2 3 (.c (.ptr 2 0)) (.t 20)⟩,
 ⟨some 22, false, none, iLoadN 2 (.t 21)⟩,
 ⟨some 23, false, none, iCall (.c (.func (.func 88) [] [])) [(.t 19), (.t 22)]⟩,
 ⟨some 24, true, none, iNot (.t 23)⟩])
 (cCond (.t 24) (cSeq (cOps [⟨some 2, true, none, iMov (.c (.bool (.lit false)))⟩])
 cRet) cSkip))))
 (cOps [⟨some 25, false, none, iArith .add (.t 15) (.c (.int .i64 (.lit 1)))⟩,
 ⟨some 15, true, none, iMov (.t 25)⟩])))))))
 (cSeq (cOps [⟨some 26, false, none, iFaddr 1 (.t 1)⟩,
 ⟨some 27, false, none, iFaddr 0 (.t 26)⟩,
 ⟨some 28, false, none, iLoad (.t 27)⟩,
 ⟨some 29, false, none, iFaddr 1 (.t 1)⟩,
 ⟨some 30, false, none, iFaddr 1 (.t 29)⟩,
 ⟨some 31, false, none, iLoad (.t 30)⟩,
 ⟨some 32, false, none, iCmp .leq (.t 28) (.t 31)⟩,
 ⟨some 2, true, none, iMov (.t 32)⟩])
 cRet))), [.t 2]⟩
noncomputable def Tryd.kp91 : List Nat := [0, 1, 4, 5, 7, 8, 9, 10, 11, 41]
noncomputable def Tryd.cf91 : CF := ⟨2, (cSeq (cOps [⟨some 4, true, none, iMov (.c (.bool (.lit false)))⟩])
 (cSeq (cOps [⟨some 5, true, none, iMov (.c (.int .i64 (.lit 0)))⟩])
 (cSeq (cSeq (cOps [⟨some 8, true, none, iMov (.t 0)⟩,
 ⟨some 9, true, none, iLenS (.t 8)⟩,
 ⟨some 10, true, none, iMov (.c (.int .i64 (.lit 0)))⟩])
 (cBlock 0 (cLoop (cSeq (cOps [⟨some 11, true, none, iCmp .lss (.t 10) (.t 9)⟩])
 (cSeq (cCond (.t 11) cSkip (cExit 0))
 (cSeq (cBlock 1 (cSeq (cOps [⟨some 12, false, none, iIaddr 3 (.t 8) (.t 10)⟩,
 ⟨some 13, false, none, iLoadN 3 (.t 12)⟩,
 ⟨some 7, true, none, iAlloc 93 [(.int .i64 (.lit 0)), (.int .i64 (.lit 0)), (.int .i64 (.lit 0))]⟩,
 ⟨none, false, none, iStore 3 (.t 7) (.t 13)⟩])
 (cSeq (cSeq (cOps [⟨some 14, false, none, iFaddr 0 (.t 7)⟩,
 ⟨some 15, false, none, iLoad (.t 14)⟩,
 ⟨some 16, false, none, iCmp .lss (.t 15) (.c (.int .i64 (.lit 0)))⟩,
 ⟨some 17, false, none, iMov (.t 16)⟩,
 ⟨some 18, false, some (17, false), iFaddr 0 (.t 7)⟩,
 ⟨some 19, false, some (17, false), iLoad (.t 18)⟩,
 ⟨some 20, false, some (17, false), iMov (.t 1)⟩,
 ⟨some 21, false, some (17, false), iCmp .geq (.t 19) (.t 20)⟩,
 ⟨some 22, false, none, iPick (.t 17) (.c (.bool (.lit true))) (.t 21)⟩,
 ⟨some 23, false, none, iMov (.t 22)⟩,
 ⟨some 24, false, some (23, false), iFaddr 1 (.t 7)⟩,
 ⟨some 25, false, some (23, false), iLoad (.t 24)⟩,
 ⟨some 26, false, some (23, false), iMov (.t 5)⟩,
 ⟨some 27, false, some (23, false), iCmp .lss (.t 25) (.t 26)⟩,
 ⟨some 28, false, none, iPick (.t 23) (.c (.bool (.lit true))) (.t 27)⟩,
 ⟨some 29, false, none, iMov (.t 28)⟩,
 ⟨some 30, false, some (29, false), iFaddr 2 (.t 7)⟩,
 ⟨some 31, false, some (29, false), iLoad (.t 30)⟩,
 ⟨some 32, false, some (29, false), iFaddr 1 (.t 7)⟩,
 ⟨some 33, false, some (29, false), iLoad (.t 32)⟩,
 ⟨some 34, false, some (29, false), iCmp .lss (.t 31) (.t 33)⟩,
 ⟨some 35, false, none, iPick (.t 29) (.c (.bool (.lit true))) (.t 34)⟩,
 ⟨some 36, false, none, iMov (.t 35)⟩,
 ⟨some 37, false, some (36, false), iFaddr 2 (.t 7)⟩,
 ⟨some 38, false, some (36, false), iLoad (.t 37)⟩,
 ⟨some 39, false, some (36, false), iCall (.c (.func (.func 92) [] [])) [(.t 38)]⟩,
 ⟨some 40, false, some (36, false), iNot (.t 39)⟩,
 ⟨some 41, true, none, iPick (.t 36) (.c (.bool (.lit true))) (.t 40)⟩])
 (cCond (.t 41) (cSeq (cOps [⟨some 4, true, none, iMov (.c (.bool (.lit false)))⟩])
 cRet) cSkip))
 (cOps [⟨some 42, false, none, iFaddr 2 (.t 7)⟩,
 ⟨some 43, false, none, iLoad (.t 42)⟩,
 ⟨some 44, false, none, iArith .add (.t 43) (.c (.int .i64 (.lit 1)))⟩,
 ⟨some 5, true, none, iMov (.t 44)⟩]))))
 (cOps [⟨some 45, false, none, iArith .add (.t 10) (.c (.int .i64 (.lit 1)))⟩,
 ⟨some 10, true, none, iMov (.t 45)⟩])))))))
 (cSeq (cOps [⟨some 4, true, none, iMov (.c (.bool (.lit true)))⟩])
 cRet)))), [.t 4]⟩
noncomputable def Tryd.kp92 : List Nat := [0, 2]
noncomputable def Tryd.cf92 : CF := ⟨1, (cSeq (cOps [⟨some 2, true, none, iMov (.c (.bool (.lit false)))⟩])
 (cSeq (cOps [⟨some 3, false, none, iMov (.t 0)⟩,
 ⟨some 4, false, none, iCmp .geq (.t 3) (.c (.int .i64 (.lit 0)))⟩,
 ⟨some 5, false, none, iMov (.t 4)⟩,
 ⟨some 6, false, some (5, true), iMov (.t 0)⟩,
 ⟨some 7, false, some (5, true), iCmp .leq (.t 6) (.c (.int .i64 (.lit 2879)))⟩,
 ⟨some 8, false, none, iPick (.t 5) (.t 7) (.c (.bool (.lit false)))⟩,
 ⟨some 2, true, none, iMov (.t 8)⟩])
 cRet)), [.t 2]⟩
noncomputable def Tryd.ft : PT CF := (.node none (.node none (.node (some Tryd.cf3) (.node (some Tryd.cf7) (.node (some Tryd.cf15) (.node (some Tryd.cf31) (.node (some Tryd.cf63) .nil .nil) .nil) (.node (some Tryd.cf47) (.node (some Tryd.cf79) .nil .nil) .nil)) (.node (some Tryd.cf23) (.node (some Tryd.cf39) (.node (some Tryd.cf71) .nil .nil) .nil) (.node (some Tryd.cf55) (.node (some Tryd.cf87) .nil .nil) .nil))) (.node (some Tryd.cf11) (.node (some Tryd.cf19) (.node (some Tryd.cf35) (.node (some Tryd.cf67) .nil .nil) .nil) (.node (some Tryd.cf51) (.node (some Tryd.cf83) .nil .nil) .nil)) (.node (some Tryd.cf27) (.node (some Tryd.cf43) (.node (some Tryd.cf75) .nil .nil) .nil) (.node (some Tryd.cf59) (.node (some Tryd.cf91) .nil .nil) .nil)))) (.node (some Tryd.cf5) (.node (some Tryd.cf9) (.node (some Tryd.cf17) (.node (some Tryd.cf33) (.node (some Tryd.cf65) .nil .nil) .nil) (.node (some Tryd.cf49) (.node (some Tryd.cf81) .nil .nil) .nil)) (.node (some Tryd.cf25) (.node (some Tryd.cf41) (.node (some Tryd.cf73) .nil .nil) .nil) (.node (some Tryd.cf57) (.node (some Tryd.cf89) .nil .nil) .nil))) (.node (some Tryd.cf13) (.node (some Tryd.cf21) (.node (some Tryd.cf37) (.node (some Tryd.cf69) .nil .nil) .nil) (.node (some Tryd.cf53) (.node (some Tryd.cf85) .nil .nil) .nil)) (.node (some Tryd.cf29) (.node (some Tryd.cf45) (.node (some Tryd.cf77) .nil .nil) .nil) (.node (some Tryd.cf61) .nil .nil))))) (.node none (.node (some Tryd.cf4) (.node (some Tryd.cf8) (.node (some Tryd.cf16) (.node (some Tryd.cf32) (.node (some Tryd.cf64) .nil .nil) .nil) (.node (some Tryd.cf48) (.node (some Tryd.cf80) .nil .nil) .nil)) (.node (some Tryd.cf24) (.node (some Tryd.cf40) (.node (some Tryd.cf72) .nil .nil) .nil) (.node (some Tryd.cf56) (.node (some Tryd.cf88) .nil .nil) .nil))) (.node (some Tryd.cf12) (.node (some Tryd.cf20) (.node (some Tryd.cf36) (.node (some Tryd.cf68) .nil .nil) .nil) (.node (some Tryd.cf52) (.node (some Tryd.cf84) .nil .nil) .nil)) (.node (some Tryd.cf28) (.node (some Tryd.cf44) (.node (some Tryd.cf76) .nil .nil) .nil) (.node (some Tryd.cf60) (.node (some Tryd.cf92) .nil .nil) .nil)))) (.node (some Tryd.cf6) (.node (some Tryd.cf10) (.node (some Tryd.cf18) (.node (some Tryd.cf34) (.node (some Tryd.cf66) .nil .nil) .nil) (.node (some Tryd.cf50) (.node (some Tryd.cf82) .nil .nil) .nil)) (.node (some Tryd.cf26) (.node (some Tryd.cf42) (.node (some Tryd.cf74) .nil .nil) .nil) (.node (some Tryd.cf58) (.node (some Tryd.cf90) .nil .nil) .nil))) (.node (some Tryd.cf14) (.node (some Tryd.cf22) (.node (some Tryd.cf38) (.node (some Tryd.cf70) .nil .nil) .nil) (.node (some Tryd.cf54) (.node (some Tryd.cf86) .nil .nil) .nil)) (.node (some Tryd.cf30) (.node (some Tryd.cf46) (.node (some Tryd.cf78) .nil .nil) .nil) (.node (some Tryd.cf62) .nil .nil))))))
noncomputable def Tryd.rt : List (Nat × (C × C)) := [(21065, (Tryd.ra21065, Tryd.rb21065)), (22008, (Tryd.ra22008, Tryd.rb22008)), (23008, (Tryd.ra23008, Tryd.rb23008)), (24004, (Tryd.ra24004, Tryd.rb24004)), (27008, (Tryd.ra27008, Tryd.rb27008)), (29013, (Tryd.ra29013, Tryd.rb29013)), (29017, (Tryd.ra29017, Tryd.rb29017)), (33011, (Tryd.ra33011, Tryd.rb33011)), (33015, (Tryd.ra33015, Tryd.rb33015)), (54008, (Tryd.ra54008, Tryd.rb54008)), (65039, (Tryd.ra65039, Tryd.rb65039)), (71006, (Tryd.ra71006, Tryd.rb71006)), (75007, (Tryd.ra75007, Tryd.rb75007)), (75011, (Tryd.ra75011, Tryd.rb75011)), (81006, (Tryd.ra81006, Tryd.rb81006))]
end Go.Sx
