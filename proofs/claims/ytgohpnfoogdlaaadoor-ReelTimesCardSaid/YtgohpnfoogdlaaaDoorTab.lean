/- THE TABLES OF THE PROGRAM: its types, and its functions as the evaluator runs them. -/
import Derived.Test.YtgohpnfoogdlaaaDoorSxOps
import Derived.KernelRfl
/-! THE TABLES OF THE PROGRAM: its types, and its functions as the evaluator runs them. -/
namespace Go.Sx
set_option maxRecDepth 100000
noncomputable def Tryd.ti0 : TI := ⟨.tuple #[], 1, 0, none, false⟩
noncomputable def Tryd.ti1 : TI := ⟨.func #[] #[] false, 1, 8, (some .nilFunc), false⟩
noncomputable def Tryd.ti2 : TI := ⟨.int .i64, 1, 8, (some (.int .i64 (.lit 0))), false⟩
noncomputable def Tryd.ti3 : TI := ⟨.int .i64, 1, 8, (some (.int .i64 (.lit 0))), false⟩
noncomputable def Tryd.ti4 : TI := ⟨.bool, 1, 1, (some (.bool (.lit false))), false⟩
noncomputable def Tryd.ti5 : TI := ⟨.int .u8, 1, 1, (some (.int .u8 (.lit 0))), false⟩
noncomputable def Tryd.ti6 : TI := ⟨.int .u8, 1, 1, (some (.int .u8 (.lit 0))), false⟩
noncomputable def Tryd.ti7 : TI := ⟨.struct #[⟨ "x", 2, 0, false, "", "runtime", 0⟩, ⟨ "y", 3, 1, false, "", "runtime", 8⟩, ⟨ "signed", 4, 2, false, "", "runtime", 16⟩, ⟨ "code", 6, 3, false, "", "runtime", 17⟩], 4, 24, (some (.agg [(.int .i64 (.lit 0)), (.int .i64 (.lit 0)), (.bool (.lit false)), (.int .u8 (.lit 0))])), true⟩
noncomputable def Tryd.ti8 : TI := ⟨.struct #[⟨ "x", 2, 0, false, "", "runtime", 0⟩, ⟨ "y", 3, 1, false, "", "runtime", 8⟩, ⟨ "signed", 4, 2, false, "", "runtime", 16⟩, ⟨ "code", 6, 3, false, "", "runtime", 17⟩], 4, 24, (some (.agg [(.int .i64 (.lit 0)), (.int .i64 (.lit 0)), (.bool (.lit false)), (.int .u8 (.lit 0))])), true⟩
noncomputable def Tryd.ti9 : TI := ⟨.string, 1, 16, none, false⟩
noncomputable def Tryd.ti10 : TI := ⟨.string, 1, 16, none, false⟩
noncomputable def Tryd.ti11 : TI := ⟨.string, 1, 16, none, false⟩
noncomputable def Tryd.ti12 : TI := ⟨.int .u64, 1, 8, (some (.int .u64 (.lit 0))), false⟩
noncomputable def Tryd.ti13 : TI := ⟨.struct #[⟨ "msg", 9, 0, false, "", "runtime", 0⟩, ⟨ "addr", 12, 1, false, "", "runtime", 16⟩], 2, 24, none, false⟩
noncomputable def Tryd.ti14 : TI := ⟨.struct #[⟨ "msg", 9, 0, false, "", "runtime", 0⟩, ⟨ "addr", 12, 1, false, "", "runtime", 16⟩], 2, 24, none, false⟩
noncomputable def Tryd.ti15 : TI := ⟨.pointer 114, 1, 8, (some .nilptr), false⟩
noncomputable def Tryd.ti16 : TI := ⟨.pointer 117, 1, 8, (some .nilptr), false⟩
noncomputable def Tryd.ti17 : TI := ⟨.pointer 126, 1, 8, (some .nilptr), false⟩
noncomputable def Tryd.ti18 : TI := ⟨.struct #[⟨ "typ", 17, 0, false, "", "internal/runtime/maps", 0⟩], 1, 8, (some (.agg [.nilptr])), false⟩
noncomputable def Tryd.ti19 : TI := ⟨.struct #[⟨ "typ", 17, 0, false, "", "internal/runtime/maps", 0⟩], 1, 8, (some (.agg [.nilptr])), false⟩
noncomputable def Tryd.ti20 : TI := ⟨.interface #[], 1, 16, none, false⟩
noncomputable def Tryd.ti21 : TI := ⟨.int .i32, 1, 4, (some (.int .i32 (.lit 0))), false⟩
noncomputable def Tryd.ti22 : TI := ⟨.slice 79, 1, 24, (some .nilslice), false⟩
noncomputable def Tryd.ti23 : TI := ⟨.struct #[⟨ "Low", 3, 0, false, "", "", 0⟩, ⟨ "High", 3, 1, false, "", "", 8⟩], 2, 16, (some (.agg [(.int .i64 (.lit 0)), (.int .i64 (.lit 0))])), true⟩
noncomputable def Tryd.ti24 : TI := ⟨.struct #[⟨ "Low", 3, 0, false, "", "", 0⟩, ⟨ "High", 3, 1, false, "", "", 8⟩], 2, 16, (some (.agg [(.int .i64 (.lit 0)), (.int .i64 (.lit 0))])), true⟩
noncomputable def Tryd.ti25 : TI := ⟨.struct #[⟨ "Reels", 22, 0, false, "", "", 0⟩, ⟨ "Turn", 24, 1, false, "", "", 24⟩, ⟨ "Tear", 24, 3, false, "", "", 40⟩, ⟨ "Spool", 3, 5, false, "", "", 56⟩], 6, 64, (some (.agg [.nilslice, (.int .i64 (.lit 0)), (.int .i64 (.lit 0)), (.int .i64 (.lit 0)), (.int .i64 (.lit 0)), (.int .i64 (.lit 0))])), true⟩
noncomputable def Tryd.ti26 : TI := ⟨.struct #[⟨ "Reels", 22, 0, false, "", "", 0⟩, ⟨ "Turn", 24, 1, false, "", "", 24⟩, ⟨ "Tear", 24, 3, false, "", "", 40⟩, ⟨ "Spool", 3, 5, false, "", "", 56⟩], 6, 64, (some (.agg [.nilslice, (.int .i64 (.lit 0)), (.int .i64 (.lit 0)), (.int .i64 (.lit 0)), (.int .i64 (.lit 0)), (.int .i64 (.lit 0))])), true⟩
noncomputable def Tryd.ti27 : TI := ⟨.slice 3, 1, 24, (some .nilslice), false⟩
noncomputable def Tryd.ti28 : TI := ⟨.int .i64, 1, 8, (some (.int .i64 (.lit 0))), false⟩
noncomputable def Tryd.ti29 : TI := ⟨.tuple #[24, 28], 1, 0, none, false⟩
noncomputable def Tryd.ti30 : TI := ⟨.func #[26, 27, 3] #[24, 28] false, 1, 8, (some .nilFunc), false⟩
noncomputable def Tryd.ti31 : TI := ⟨.tuple #[27, 28], 1, 0, none, false⟩
noncomputable def Tryd.ti32 : TI := ⟨.func #[26, 27, 3] #[27, 28] false, 1, 8, (some .nilFunc), false⟩
noncomputable def Tryd.ti33 : TI := ⟨.func #[27, 27] #[4] false, 1, 8, (some .nilFunc), false⟩
noncomputable def Tryd.ti34 : TI := ⟨.slice 24, 1, 24, (some .nilslice), false⟩
noncomputable def Tryd.ti35 : TI := ⟨.tuple #[34, 28], 1, 0, none, false⟩
noncomputable def Tryd.ti36 : TI := ⟨.func #[26, 27, 3] #[34, 28] false, 1, 8, (some .nilFunc), false⟩
noncomputable def Tryd.ti37 : TI := ⟨.func #[34, 34] #[4] false, 1, 8, (some .nilFunc), false⟩
noncomputable def Tryd.ti38 : TI := ⟨.func #[] #[4] false, 1, 8, (some .nilFunc), false⟩
noncomputable def Tryd.ti39 : TI := ⟨.func #[26, 27, 3] #[4] false, 1, 8, (some .nilFunc), false⟩
noncomputable def Tryd.ti40 : TI := ⟨.map 97 93, 1, 8, (some .nilmap), false⟩
noncomputable def Tryd.ti41 : TI := ⟨.struct #[⟨ "ReelFilm", 26, 0, true, "", "", 0⟩, ⟨ "found", 40, 6, false, "", "bioscope/reel", 64⟩], 7, 72, (some (.agg [.nilslice, (.int .i64 (.lit 0)), (.int .i64 (.lit 0)), (.int .i64 (.lit 0)), (.int .i64 (.lit 0)), (.int .i64 (.lit 0)), .nilmap])), true⟩
noncomputable def Tryd.ti42 : TI := ⟨.struct #[⟨ "ReelFilm", 26, 0, true, "", "", 0⟩, ⟨ "found", 40, 6, false, "", "bioscope/reel", 64⟩], 7, 72, (some (.agg [.nilslice, (.int .i64 (.lit 0)), (.int .i64 (.lit 0)), (.int .i64 (.lit 0)), (.int .i64 (.lit 0)), (.int .i64 (.lit 0)), .nilmap])), true⟩
noncomputable def Tryd.ti43 : TI := ⟨.tuple #[42, 28], 1, 0, none, false⟩
noncomputable def Tryd.ti44 : TI := ⟨.func #[26] #[42, 28] false, 1, 8, (some .nilFunc), false⟩
noncomputable def Tryd.ti45 : TI := ⟨.func #[27] #[4] false, 1, 8, (some .nilFunc), false⟩
noncomputable def Tryd.ti46 : TI := ⟨.func #[3] #[4] false, 1, 8, (some .nilFunc), false⟩
noncomputable def Tryd.ti47 : TI := ⟨.func #[27, 3] #[24] false, 1, 8, (some .nilFunc), false⟩
noncomputable def Tryd.ti48 : TI := ⟨.func #[26, 4] #[28] false, 1, 8, (some .nilFunc), false⟩
noncomputable def Tryd.ti49 : TI := ⟨.func #[26, 27] #[4] false, 1, 8, (some .nilFunc), false⟩
noncomputable def Tryd.ti50 : TI := ⟨.func #[3, 3, 3] #[4] false, 1, 8, (some .nilFunc), false⟩
noncomputable def Tryd.ti51 : TI := ⟨.func #[26, 27, 3] #[24] false, 1, 8, (some .nilFunc), false⟩
noncomputable def Tryd.ti52 : TI := ⟨.func #[27, 3] #[27, 28] false, 1, 8, (some .nilFunc), false⟩
noncomputable def Tryd.ti53 : TI := ⟨.func #[26, 3, 3] #[24] false, 1, 8, (some .nilFunc), false⟩
noncomputable def Tryd.ti54 : TI := ⟨.func #[27, 27, 3] #[34] false, 1, 8, (some .nilFunc), false⟩
noncomputable def Tryd.ti55 : TI := ⟨.tuple #[4, 28], 1, 0, none, false⟩
noncomputable def Tryd.ti56 : TI := ⟨.func #[26, 27] #[4, 28] false, 1, 8, (some .nilFunc), false⟩
noncomputable def Tryd.ti57 : TI := ⟨.func #[] #[26] false, 1, 8, (some .nilFunc), false⟩
noncomputable def Tryd.ti58 : TI := ⟨.tuple #[3, 28], 1, 0, none, false⟩
noncomputable def Tryd.ti59 : TI := ⟨.func #[26] #[3, 28] false, 1, 8, (some .nilFunc), false⟩
noncomputable def Tryd.ti60 : TI := ⟨.func #[26] #[27, 28] false, 1, 8, (some .nilFunc), false⟩
noncomputable def Tryd.ti61 : TI := ⟨.func #[26, 3] #[27, 28] false, 1, 8, (some .nilFunc), false⟩
noncomputable def Tryd.ti62 : TI := ⟨.func #[26, 3, 3] #[24, 28] false, 1, 8, (some .nilFunc), false⟩
noncomputable def Tryd.ti63 : TI := ⟨.tuple #[3, 3, 28], 1, 0, none, false⟩
noncomputable def Tryd.ti64 : TI := ⟨.func #[26, 3, 3] #[3, 3, 28] false, 1, 8, (some .nilFunc), false⟩
noncomputable def Tryd.ti65 : TI := ⟨.func #[3, 3] #[24] false, 1, 8, (some .nilFunc), false⟩
noncomputable def Tryd.ti66 : TI := ⟨.func #[26] #[28] false, 1, 8, (some .nilFunc), false⟩
noncomputable def Tryd.ti67 : TI := ⟨.array 6 4, 6, 6, (some (.agg [(.bool (.lit false)), (.bool (.lit false)), (.bool (.lit false)), (.bool (.lit false)), (.bool (.lit false)), (.bool (.lit false))])), true⟩
noncomputable def Tryd.ti68 : TI := ⟨.array 6 4, 6, 6, (some (.agg [(.bool (.lit false)), (.bool (.lit false)), (.bool (.lit false)), (.bool (.lit false)), (.bool (.lit false)), (.bool (.lit false))])), true⟩
noncomputable def Tryd.ti69 : TI := ⟨.func #[76] #[24] false, 1, 8, (some .nilFunc), false⟩
noncomputable def Tryd.ti70 : TI := ⟨.func #[75] #[3] false, 1, 8, (some .nilFunc), false⟩
noncomputable def Tryd.ti71 : TI := ⟨.struct #[⟨ "adds", 70, 0, false, "", "bioscope/reel", 0⟩, ⟨ "takes", 70, 1, false, "", "bioscope/reel", 8⟩], 2, 16, (some (.agg [.nilFunc, .nilFunc])), true⟩
noncomputable def Tryd.ti72 : TI := ⟨.struct #[⟨ "adds", 70, 0, false, "", "bioscope/reel", 0⟩, ⟨ "takes", 70, 1, false, "", "bioscope/reel", 8⟩], 2, 16, (some (.agg [.nilFunc, .nilFunc])), true⟩
noncomputable def Tryd.ti73 : TI := ⟨.func #[3, 3, 72] #[3] false, 1, 8, (some .nilFunc), false⟩
noncomputable def Tryd.ti74 : TI := ⟨.func #[27] #[3] true, 1, 8, (some .nilFunc), false⟩
noncomputable def Tryd.ti75 : TI := ⟨.struct #[⟨ "Low", 3, 0, false, "", "", 0⟩, ⟨ "High", 3, 1, false, "", "", 8⟩], 2, 16, (some (.agg [(.int .i64 (.lit 0)), (.int .i64 (.lit 0))])), true⟩
noncomputable def Tryd.ti76 : TI := ⟨.func #[72] #[3] false, 1, 8, (some .nilFunc), false⟩
noncomputable def Tryd.ti77 : TI := ⟨.func #[27, 3] #[3] false, 1, 8, (some .nilFunc), false⟩
noncomputable def Tryd.ti78 : TI := ⟨.struct #[⟨ "First", 24, 0, false, "", "", 0⟩, ⟨ "Last", 24, 2, false, "", "", 16⟩, ⟨ "Feet", 24, 4, false, "", "", 32⟩], 6, 48, (some (.agg [(.int .i64 (.lit 0)), (.int .i64 (.lit 0)), (.int .i64 (.lit 0)), (.int .i64 (.lit 0)), (.int .i64 (.lit 0)), (.int .i64 (.lit 0))])), true⟩
noncomputable def Tryd.ti79 : TI := ⟨.struct #[⟨ "First", 24, 0, false, "", "", 0⟩, ⟨ "Last", 24, 2, false, "", "", 16⟩, ⟨ "Feet", 24, 4, false, "", "", 32⟩], 6, 48, (some (.agg [(.int .i64 (.lit 0)), (.int .i64 (.lit 0)), (.int .i64 (.lit 0)), (.int .i64 (.lit 0)), (.int .i64 (.lit 0)), (.int .i64 (.lit 0))])), true⟩
noncomputable def Tryd.ti80 : TI := ⟨.func #[45] #[] false, 1, 8, (some .nilFunc), false⟩
noncomputable def Tryd.ti81 : TI := ⟨.func #[45] #[] false, 1, 8, (some .nilFunc), false⟩
noncomputable def Tryd.ti82 : TI := ⟨.func #[] #[81] false, 1, 8, (some .nilFunc), false⟩
noncomputable def Tryd.ti83 : TI := ⟨.func #[27] #[27] false, 1, 8, (some .nilFunc), false⟩
noncomputable def Tryd.ti84 : TI := ⟨.func #[3] #[68] false, 1, 8, (some .nilFunc), false⟩
noncomputable def Tryd.ti85 : TI := ⟨.func #[] #[27] false, 1, 8, (some .nilFunc), false⟩
noncomputable def Tryd.ti86 : TI := ⟨.tuple #[72, 72], 1, 0, none, false⟩
noncomputable def Tryd.ti87 : TI := ⟨.func #[] #[72, 72] false, 1, 8, (some .nilFunc), false⟩
noncomputable def Tryd.ti88 : TI := ⟨.tuple #[24, 4], 1, 0, none, false⟩
noncomputable def Tryd.ti89 : TI := ⟨.func #[3, 3] #[24, 4] false, 1, 8, (some .nilFunc), false⟩
noncomputable def Tryd.ti90 : TI := ⟨.func #[26] #[4] false, 1, 8, (some .nilFunc), false⟩
noncomputable def Tryd.ti91 : TI := ⟨.func #[24, 3, 3] #[4] false, 1, 8, (some .nilFunc), false⟩
noncomputable def Tryd.ti92 : TI := ⟨.struct #[⟨ "first", 3, 0, false, "", "bioscope/reel", 0⟩, ⟨ "behind", 3, 1, false, "", "bioscope/reel", 8⟩], 2, 16, (some (.agg [(.int .i64 (.lit 0)), (.int .i64 (.lit 0))])), true⟩
noncomputable def Tryd.ti93 : TI := ⟨.struct #[⟨ "first", 3, 0, false, "", "bioscope/reel", 0⟩, ⟨ "behind", 3, 1, false, "", "bioscope/reel", 8⟩], 2, 16, (some (.agg [(.int .i64 (.lit 0)), (.int .i64 (.lit 0))])), true⟩
noncomputable def Tryd.ti94 : TI := ⟨.func #[] #[93] false, 1, 8, (some .nilFunc), false⟩
noncomputable def Tryd.ti95 : TI := ⟨.func #[97] #[93] false, 1, 8, (some .nilFunc), false⟩
noncomputable def Tryd.ti96 : TI := ⟨.struct #[⟨ "reel", 3, 0, false, "", "bioscope/reel", 0⟩, ⟨ "before", 93, 1, false, "", "bioscope/reel", 8⟩], 3, 24, (some (.agg [(.int .i64 (.lit 0)), (.int .i64 (.lit 0)), (.int .i64 (.lit 0))])), true⟩
noncomputable def Tryd.ti97 : TI := ⟨.struct #[⟨ "reel", 3, 0, false, "", "bioscope/reel", 0⟩, ⟨ "before", 93, 1, false, "", "bioscope/reel", 8⟩], 3, 24, (some (.agg [(.int .i64 (.lit 0)), (.int .i64 (.lit 0)), (.int .i64 (.lit 0))])), true⟩
noncomputable def Tryd.ti98 : TI := ⟨.func #[68, 95] #[81] false, 1, 8, (some .nilFunc), false⟩
noncomputable def Tryd.ti99 : TI := ⟨.func #[27] #[68] false, 1, 8, (some .nilFunc), false⟩
noncomputable def Tryd.ti100 : TI := ⟨.func #[3, 3] #[81] false, 1, 8, (some .nilFunc), false⟩
noncomputable def Tryd.ti101 : TI := ⟨.func #[68] #[4] false, 1, 8, (some .nilFunc), false⟩
noncomputable def Tryd.ti102 : TI := ⟨.func #[] #[3] false, 1, 8, (some .nilFunc), false⟩
noncomputable def Tryd.ti103 : TI := ⟨.array 2 72, 4, 32, (some (.agg [.nilFunc, .nilFunc, .nilFunc, .nilFunc])), true⟩
noncomputable def Tryd.ti104 : TI := ⟨.func #[79] #[4] false, 1, 8, (some .nilFunc), false⟩
noncomputable def Tryd.ti105 : TI := ⟨.array 2 24, 4, 32, (some (.agg [(.int .i64 (.lit 0)), (.int .i64 (.lit 0)), (.int .i64 (.lit 0)), (.int .i64 (.lit 0))])), true⟩
noncomputable def Tryd.ti106 : TI := ⟨.func #[24, 24] #[4] false, 1, 8, (some .nilFunc), false⟩
noncomputable def Tryd.ti107 : TI := ⟨.tuple #[93, 4], 1, 0, none, false⟩
noncomputable def Tryd.ti108 : TI := ⟨.func #[3, 68, 93] #[4] false, 1, 8, (some .nilFunc), false⟩
noncomputable def Tryd.ti109 : TI := ⟨.func #[27, 3] #[4] false, 1, 8, (some .nilFunc), false⟩
noncomputable def Tryd.ti110 : TI := ⟨.func #[3, 3] #[4] false, 1, 8, (some .nilFunc), false⟩
noncomputable def Tryd.ti111 : TI := ⟨.array 3 24, 6, 48, (some (.agg [(.int .i64 (.lit 0)), (.int .i64 (.lit 0)), (.int .i64 (.lit 0)), (.int .i64 (.lit 0)), (.int .i64 (.lit 0)), (.int .i64 (.lit 0))])), true⟩
noncomputable def Tryd.ti112 : TI := ⟨.func #[] #[9] false, 1, 8, (some .nilFunc), false⟩
noncomputable def Tryd.ti113 : TI := ⟨.struct #[⟨ "_interface", 17, 0, false, "", "runtime", 0⟩, ⟨ "concrete", 17, 1, false, "", "runtime", 8⟩, ⟨ "asserted", 17, 2, false, "", "runtime", 16⟩, ⟨ "missingMethod", 9, 3, false, "", "runtime", 24⟩], 4, 40, none, false⟩
noncomputable def Tryd.ti114 : TI := ⟨.struct #[⟨ "_interface", 17, 0, false, "", "runtime", 0⟩, ⟨ "concrete", 17, 1, false, "", "runtime", 8⟩, ⟨ "asserted", 17, 2, false, "", "runtime", 16⟩, ⟨ "missingMethod", 9, 3, false, "", "runtime", 24⟩], 4, 40, none, false⟩
noncomputable def Tryd.ti115 : TI := ⟨.array 0 16, 0, 0, (some (.agg [])), true⟩
noncomputable def Tryd.ti116 : TI := ⟨.struct #[⟨ "_", 115, 0, false, "", "runtime", 0⟩], 0, 0, (some (.agg [])), false⟩
noncomputable def Tryd.ti117 : TI := ⟨.struct #[⟨ "_", 115, 0, false, "", "runtime", 0⟩], 0, 0, (some (.agg [])), false⟩
noncomputable def Tryd.ti118 : TI := ⟨.int .u32, 1, 4, (some (.int .u32 (.lit 0))), false⟩
noncomputable def Tryd.ti119 : TI := ⟨.int .u8, 1, 1, (some (.int .u8 (.lit 0))), false⟩
noncomputable def Tryd.ti120 : TI := ⟨.int .u8, 1, 1, (some (.int .u8 (.lit 0))), false⟩
noncomputable def Tryd.ti121 : TI := ⟨.func #[127, 127] #[4] false, 1, 8, (some .nilFunc), false⟩
noncomputable def Tryd.ti122 : TI := ⟨.pointer 5, 1, 8, (some .nilptr), false⟩
noncomputable def Tryd.ti123 : TI := ⟨.int .i32, 1, 4, (some (.int .i32 (.lit 0))), false⟩
noncomputable def Tryd.ti124 : TI := ⟨.int .i32, 1, 4, (some (.int .i32 (.lit 0))), false⟩
noncomputable def Tryd.ti125 : TI := ⟨.struct #[⟨ "Size_", 12, 0, false, "", "", 0⟩, ⟨ "PtrBytes", 12, 1, false, "", "", 8⟩, ⟨ "Hash", 118, 2, false, "", "", 16⟩, ⟨ "TFlag", 119, 3, false, "", "", 20⟩, ⟨ "Align_", 5, 4, false, "", "", 21⟩, ⟨ "FieldAlign_", 5, 5, false, "", "", 22⟩, ⟨ "Kind_", 120, 6, false, "", "", 23⟩, ⟨ "Equal", 121, 7, false, "", "", 24⟩, ⟨ "GCData", 122, 8, false, "", "", 32⟩, ⟨ "Str", 123, 9, false, "", "", 40⟩, ⟨ "PtrToThis", 124, 10, false, "", "", 44⟩], 11, 48, (some (.agg [(.int .u64 (.lit 0)), (.int .u64 (.lit 0)), (.int .u32 (.lit 0)), (.int .u8 (.lit 0)), (.int .u8 (.lit 0)), (.int .u8 (.lit 0)), (.int .u8 (.lit 0)), .nilFunc, .nilptr, (.int .i32 (.lit 0)), (.int .i32 (.lit 0))])), false⟩
noncomputable def Tryd.ti126 : TI := ⟨.struct #[⟨ "Size_", 12, 0, false, "", "", 0⟩, ⟨ "PtrBytes", 12, 1, false, "", "", 8⟩, ⟨ "Hash", 118, 2, false, "", "", 16⟩, ⟨ "TFlag", 119, 3, false, "", "", 20⟩, ⟨ "Align_", 5, 4, false, "", "", 21⟩, ⟨ "FieldAlign_", 5, 5, false, "", "", 22⟩, ⟨ "Kind_", 120, 6, false, "", "", 23⟩, ⟨ "Equal", 121, 7, false, "", "", 24⟩, ⟨ "GCData", 122, 8, false, "", "", 32⟩, ⟨ "Str", 123, 9, false, "", "", 40⟩, ⟨ "PtrToThis", 124, 10, false, "", "", 44⟩], 11, 48, (some (.agg [(.int .u64 (.lit 0)), (.int .u64 (.lit 0)), (.int .u32 (.lit 0)), (.int .u8 (.lit 0)), (.int .u8 (.lit 0)), (.int .u8 (.lit 0)), (.int .u8 (.lit 0)), .nilFunc, .nilptr, (.int .i32 (.lit 0)), (.int .i32 (.lit 0))])), false⟩
noncomputable def Tryd.tt : PT TI := (.node (some Tryd.ti0) (.node (some Tryd.ti1) (.node (some Tryd.ti3) (.node (some Tryd.ti7) (.node (some Tryd.ti15) (.node (some Tryd.ti31) (.node (some Tryd.ti63) (.node none .nil .nil) .nil) (.node (some Tryd.ti95) .nil .nil)) (.node (some Tryd.ti47) (.node (some Tryd.ti79) .nil .nil) (.node (some Tryd.ti111) .nil .nil))) (.node (some Tryd.ti23) (.node (some Tryd.ti39) (.node (some Tryd.ti71) .nil .nil) (.node (some Tryd.ti103) .nil .nil)) (.node (some Tryd.ti55) (.node (some Tryd.ti87) .nil .nil) (.node (some Tryd.ti119) .nil .nil)))) (.node (some Tryd.ti11) (.node (some Tryd.ti19) (.node (some Tryd.ti35) (.node (some Tryd.ti67) .nil .nil) (.node (some Tryd.ti99) .nil .nil)) (.node (some Tryd.ti51) (.node (some Tryd.ti83) .nil .nil) (.node (some Tryd.ti115) .nil .nil))) (.node (some Tryd.ti27) (.node (some Tryd.ti43) (.node (some Tryd.ti75) .nil .nil) (.node (some Tryd.ti107) .nil .nil)) (.node (some Tryd.ti59) (.node (some Tryd.ti91) .nil .nil) (.node (some Tryd.ti123) .nil .nil))))) (.node (some Tryd.ti5) (.node (some Tryd.ti9) (.node (some Tryd.ti17) (.node (some Tryd.ti33) (.node (some Tryd.ti65) .nil .nil) (.node (some Tryd.ti97) .nil .nil)) (.node (some Tryd.ti49) (.node (some Tryd.ti81) .nil .nil) (.node (some Tryd.ti113) .nil .nil))) (.node (some Tryd.ti25) (.node (some Tryd.ti41) (.node (some Tryd.ti73) .nil .nil) (.node (some Tryd.ti105) .nil .nil)) (.node (some Tryd.ti57) (.node (some Tryd.ti89) .nil .nil) (.node (some Tryd.ti121) .nil .nil)))) (.node (some Tryd.ti13) (.node (some Tryd.ti21) (.node (some Tryd.ti37) (.node (some Tryd.ti69) .nil .nil) (.node (some Tryd.ti101) .nil .nil)) (.node (some Tryd.ti53) (.node (some Tryd.ti85) .nil .nil) (.node (some Tryd.ti117) .nil .nil))) (.node (some Tryd.ti29) (.node (some Tryd.ti45) (.node (some Tryd.ti77) .nil .nil) (.node (some Tryd.ti109) .nil .nil)) (.node (some Tryd.ti61) (.node (some Tryd.ti93) .nil .nil) (.node (some Tryd.ti125) .nil .nil)))))) (.node (some Tryd.ti2) (.node (some Tryd.ti4) (.node (some Tryd.ti8) (.node (some Tryd.ti16) (.node (some Tryd.ti32) (.node (some Tryd.ti64) .nil .nil) (.node (some Tryd.ti96) .nil .nil)) (.node (some Tryd.ti48) (.node (some Tryd.ti80) .nil .nil) (.node (some Tryd.ti112) .nil .nil))) (.node (some Tryd.ti24) (.node (some Tryd.ti40) (.node (some Tryd.ti72) .nil .nil) (.node (some Tryd.ti104) .nil .nil)) (.node (some Tryd.ti56) (.node (some Tryd.ti88) .nil .nil) (.node (some Tryd.ti120) .nil .nil)))) (.node (some Tryd.ti12) (.node (some Tryd.ti20) (.node (some Tryd.ti36) (.node (some Tryd.ti68) .nil .nil) (.node (some Tryd.ti100) .nil .nil)) (.node (some Tryd.ti52) (.node (some Tryd.ti84) .nil .nil) (.node (some Tryd.ti116) .nil .nil))) (.node (some Tryd.ti28) (.node (some Tryd.ti44) (.node (some Tryd.ti76) .nil .nil) (.node (some Tryd.ti108) .nil .nil)) (.node (some Tryd.ti60) (.node (some Tryd.ti92) .nil .nil) (.node (some Tryd.ti124) .nil .nil))))) (.node (some Tryd.ti6) (.node (some Tryd.ti10) (.node (some Tryd.ti18) (.node (some Tryd.ti34) (.node (some Tryd.ti66) .nil .nil) (.node (some Tryd.ti98) .nil .nil)) (.node (some Tryd.ti50) (.node (some Tryd.ti82) .nil .nil) (.node (some Tryd.ti114) .nil .nil))) (.node (some Tryd.ti26) (.node (some Tryd.ti42) (.node (some Tryd.ti74) .nil .nil) (.node (some Tryd.ti106) .nil .nil)) (.node (some Tryd.ti58) (.node (some Tryd.ti90) .nil .nil) (.node (some Tryd.ti122) .nil .nil)))) (.node (some Tryd.ti14) (.node (some Tryd.ti22) (.node (some Tryd.ti38) (.node (some Tryd.ti70) .nil .nil) (.node (some Tryd.ti102) .nil .nil)) (.node (some Tryd.ti54) (.node (some Tryd.ti86) .nil .nil) (.node (some Tryd.ti118) .nil .nil))) (.node (some Tryd.ti30) (.node (some Tryd.ti46) (.node (some Tryd.ti78) .nil .nil) (.node (some Tryd.ti110) .nil .nil)) (.node (some Tryd.ti62) (.node (some Tryd.ti94) .nil .nil) (.node (some Tryd.ti126) .nil .nil)))))))
noncomputable def Tryd.kp3 : List Nat := [0, 1, 2, 3, 6, 7, 8, 9, 10, 11, 12, 13, 14, 36, 59]
noncomputable def Tryd.cf3 : CF := ⟨3, (cSeq (cOps [⟨some 3, true, none, iBox 26 (.t 0)⟩,
 ⟨some 6, true, none, iMov (.c (.bool (.lit false)))⟩])
 (cSeq (cOps [⟨some 16, false, none, iLoadN 6 (.t 3)⟩,
 ⟨some 17, false, none, iMov (.t 1)⟩,
 ⟨some 18, false, none, iMov (.t 2)⟩,
 ⟨some 19, false, none, iCall (.c (.func (.func 4) [] [])) [(.t 16), (.t 17), (.t 18)]⟩,
 ⟨some 15, false, none, iMov (.t 19)⟩,
 ⟨some 20, false, none, iExtract 0 (.t 15)⟩,
 ⟨some 21, false, none, iExtract 1 (.t 15)⟩,
 ⟨some 7, true, none, iAlloc 24 [(.int .i64 (.lit 0)), (.int .i64 (.lit 0))]⟩,
 ⟨none, false, none, iStore 2 (.t 7) (.t 20)⟩,
 ⟨some 8, true, none, iMov (.t 21)⟩])
 (cSeq (cOps [⟨some 23, false, none, iLoadN 6 (.t 3)⟩,
 ⟨some 24, false, none, iMov (.t 1)⟩,
 ⟨some 25, false, none, iMov (.t 2)⟩,
 ⟨some 26, false, none, iCall (.c (.func (.func 5) [] [])) [(.t 23), (.t 24), (.t 25)]⟩,
 ⟨some 22, false, none, iMov (.t 26)⟩,
 ⟨some 27, false, none, iExtract 0 (.t 22)⟩,
 ⟨some 28, false, none, iExtract 1 (.t 22)⟩,
 ⟨some 9, true, none, iAlloc 24 [(.int .i64 (.lit 0)), (.int .i64 (.lit 0))]⟩,
 ⟨none, false, none, iStore 2 (.t 9) (.t 27)⟩,
 ⟨some 10, true, none, iMov (.t 28)⟩])
 (cSeq (cSeq (cOps [⟨some 29, false, none, iLoadN 2 (.t 7)⟩,
 ⟨some 30, false, none, iLoadN 2 (.t 9)⟩,
 ⟨some 31, false, none, iEq true true 2 [(0, .int), (1, .int)] (.t 29) (.t 30)⟩,
 ⟨some 32, false, none, iMov (.t 31)⟩,
 ⟨some 33, false, some (32, false), iMov (.t 8)⟩,
 ⟨some 34, false, some (32, false), iMov (.t 10)⟩,
 ⟨some 35, false, some (32, false), iCmp .neq (.t 33) (.t 34)⟩,
 ⟨some 36, true, none, iPick (.t 32) (.c (.bool (.lit true))) (.t 35)⟩])
 (cCond (.t 36) (cSeq (cOps [⟨some 6, true, none, iMov (.c (.bool (.lit false)))⟩])
 cRet) cSkip))
 (cSeq (cOps [⟨some 38, false, none, iLoadN 6 (.t 3)⟩,
 ⟨some 39, false, none, iMov (.t 1)⟩,
 ⟨some 40, false, none, iMov (.t 2)⟩,
 ⟨some 41, false, none, iCall (.c (.func (.func 6) [] [])) [(.t 38), (.t 39), (.t 40)]⟩,
 ⟨some 37, false, none, iMov (.t 41)⟩,
 ⟨some 42, false, none, iExtract 0 (.t 37)⟩,
 ⟨some 43, false, none, iExtract 1 (.t 37)⟩,
 ⟨some 11, true, none, iMov (.t 42)⟩,
 ⟨some 8, true, none, iMov (.t 43)⟩])
 (cSeq (cOps [⟨some 45, false, none, iLoadN 6 (.t 3)⟩,
 ⟨some 46, false, none, iMov (.t 1)⟩,
 ⟨some 47, false, none, iMov (.t 2)⟩,
 ⟨some 48, false, none, iCall (.c (.func (.func 7) [] [])) [(.t 45), (.t 46), (.t 47)]⟩,
 ⟨some 44, false, none, iMov (.t 48)⟩,
 ⟨some 49, false, none, iExtract 0 (.t 44)⟩,
 ⟨some 50, false, none, iExtract 1 (.t 44)⟩,
 ⟨some 12, true, none, iMov (.t 49)⟩,
 ⟨some 10, true, none, iMov (.t 50)⟩])
 (cSeq (cSeq (cOps [⟨some 51, false, none, iMov (.t 11)⟩,
 ⟨some 52, false, none, iMov (.t 12)⟩,
 ⟨some 53, false, none, iCall (.c (.func (.func 8) [] [])) [(.t 51), (.t 52)]⟩,
 ⟨some 54, false, none, iNot (.t 53)⟩,
 ⟨some 55, false, none, iMov (.t 54)⟩,
 ⟨some 56, false, some (55, false), iMov (.t 8)⟩,
 ⟨some 57, false, some (55, false), iMov (.t 10)⟩,
 ⟨some 58, false, some (55, false), iCmp .neq (.t 56) (.t 57)⟩,
 ⟨some 59, true, none, iPick (.t 55) (.c (.bool (.lit true))) (.t 58)⟩])
 (cCond (.t 59) (cSeq (cOps [⟨some 6, true, none, iMov (.c (.bool (.lit false)))⟩])
 cRet) cSkip))
 (cSeq (cOps [⟨some 61, false, none, iLoadN 6 (.t 3)⟩,
 ⟨some 62, false, none, iMov (.t 1)⟩,
 ⟨some 63, false, none, iMov (.t 2)⟩,
 ⟨some 64, false, none, iCall (.c (.func (.func 9) [] [])) [(.t 61), (.t 62), (.t 63)]⟩,
 ⟨some 60, false, none, iMov (.t 64)⟩,
 ⟨some 65, false, none, iExtract 0 (.t 60)⟩,
 ⟨some 66, false, none, iExtract 1 (.t 60)⟩,
 ⟨some 13, true, none, iMov (.t 65)⟩,
 ⟨some 8, true, none, iMov (.t 66)⟩])
 (cSeq (cOps [⟨some 68, false, none, iLoadN 6 (.t 3)⟩,
 ⟨some 69, false, none, iMov (.t 1)⟩,
 ⟨some 70, false, none, iMov (.t 2)⟩,
 ⟨some 71, false, none, iCall (.c (.func (.func 10) [] [])) [(.t 68), (.t 69), (.t 70)]⟩,
 ⟨some 67, false, none, iMov (.t 71)⟩,
 ⟨some 72, false, none, iExtract 0 (.t 67)⟩,
 ⟨some 73, false, none, iExtract 1 (.t 67)⟩,
 ⟨some 14, true, none, iMov (.t 72)⟩,
 ⟨some 10, true, none, iMov (.t 73)⟩])
 (cSeq (cOps [⟨some 74, false, none, iMov (.t 13)⟩,
 ⟨some 75, false, none, iMov (.t 14)⟩,
 ⟨some 76, false, none, iCall (.c (.func (.func 11) [] [])) [(.t 74), (.t 75)]⟩,
 ⟨some 77, false, none, iMov (.t 76)⟩,
 ⟨some 78, false, some (77, true), iMov (.t 8)⟩,
 ⟨some 79, false, some (77, true), iMov (.t 10)⟩,
 ⟨some 80, false, some (77, true), iCmp .eql (.t 78) (.t 79)⟩,
 ⟨some 81, false, none, iPick (.t 77) (.t 80) (.c (.bool (.lit false)))⟩,
 ⟨some 82, false, none, iMov (.t 81)⟩,
 ⟨some 83, false, some (82, true), iCall (.c (.func (.func 12) [] [])) []⟩,
 ⟨some 84, false, none, iPick (.t 82) (.t 83) (.c (.bool (.lit false)))⟩,
 ⟨some 6, true, none, iMov (.t 84)⟩])
 cRet)))))))))), [.t 6]⟩
noncomputable def Tryd.kp4 : List Nat := [0, 1, 2, 3, 6, 7, 8, 9, 16, 27]
noncomputable def Tryd.cf4 : CF := ⟨3, (cSeq (cOps [⟨some 3, true, none, iBox 26 (.t 0)⟩,
 ⟨some 6, true, none, iAlloc 24 [(.int .i64 (.lit 0)), (.int .i64 (.lit 0))]⟩,
 ⟨some 7, true, none, iMov (.c (.int .i64 (.lit 0)))⟩])
 (cSeq (cOps [⟨some 11, false, none, iLoadN 6 (.t 3)⟩,
 ⟨some 12, false, none, iCall (.c (.func (.func 13) [] [])) [(.t 11)]⟩,
 ⟨some 10, false, none, iMov (.t 12)⟩,
 ⟨some 13, false, none, iExtract 0 (.t 10)⟩,
 ⟨some 14, false, none, iExtract 1 (.t 10)⟩,
 ⟨some 8, true, none, iAlloc 42 [.nilslice, (.int .i64 (.lit 0)), (.int .i64 (.lit 0)), (.int .i64 (.lit 0)), (.int .i64 (.lit 0)), (.int .i64 (.lit 0)), .nilmap]⟩,
 ⟨none, false, none, iStore 7 (.t 8) (.t 13)⟩,
 ⟨some 9, true, none, iMov (.t 14)⟩])
 (cSeq (cSeq (cOps [⟨some 15, false, none, iMov (.t 9)⟩,
 ⟨some 16, true, none, iCmp .neq (.t 15) (.c (.int .i64 (.lit 0)))⟩])
 (cCond (.t 16) (cSeq (cOps [⟨some 17, false, none, iBuild [(.int .i64 (.lit 0)), (.int .i64 (.lit 0))] []⟩,
 ⟨some 18, false, none, iMov (.t 9)⟩,
 ⟨none, false, none, iStore 2 (.t 6) (.t 17)⟩,
 ⟨some 7, true, none, iMov (.t 18)⟩])
 cRet) cSkip))
 (cSeq (cSeq (cOps [⟨some 19, false, none, iLoadN 7 (.t 8)⟩,
 ⟨some 20, false, none, iMov (.t 1)⟩,
 ⟨some 21, false, none, iCall (.c (.func (.func 14) [] [])) [(.t 19), (.t 20)]⟩,
 ⟨some 22, false, none, iNot (.t 21)⟩,
 ⟨some 23, false, none, iMov (.t 22)⟩,
 ⟨some 24, false, some (23, false), iMov (.t 2)⟩,
 ⟨some 25, false, some (23, false), iCall (.c (.func (.func 15) [] [])) [(.t 24)]⟩,
 ⟨some 26, false, some (23, false), iNot (.t 25)⟩,
 ⟨some 27, true, none, iPick (.t 23) (.c (.bool (.lit true))) (.t 26)⟩])
 (cCond (.t 27) (cSeq (cOps [⟨some 28, false, none, iBuild [(.int .i64 (.lit 0)), (.int .i64 (.lit 0))] []⟩,
 ⟨none, false, none, iStore 2 (.t 6) (.t 28)⟩,
 ⟨some 7, true, none, iMov (.c (.int .i64 (.lit 11)))⟩])
 cRet) cSkip))
 (cSeq (cOps [⟨some 29, false, none, iLoadN 7 (.t 8)⟩,
 ⟨some 30, false, none, iMov (.t 1)⟩,
 ⟨some 31, false, none, iMov (.t 2)⟩,
 ⟨some 32, false, none, iCall (.c (.func (.func 16) [] [])) [(.t 29), (.t 30), (.t 31)]⟩,
 ⟨none, false, none, iStore 2 (.t 6) (.t 32)⟩,
 ⟨some 7, true, none, iMov (.c (.int .i64 (.lit 0)))⟩])
 cRet))))), [.cell 6 true 2, .t 7]⟩
noncomputable def Tryd.kp5 : List Nat := [0, 1, 2, 3, 6, 7, 8, 19]
noncomputable def Tryd.cf5 : CF := ⟨3, (cSeq (cOps [⟨some 3, true, none, iBox 26 (.t 0)⟩,
 ⟨some 6, true, none, iAlloc 24 [(.int .i64 (.lit 0)), (.int .i64 (.lit 0))]⟩,
 ⟨some 7, true, none, iMov (.c (.int .i64 (.lit 0)))⟩])
 (cSeq (cSeq (dOps 0 [⟨⟨some 9, false, none, iLoadN 6 (.t 3)⟩, [3], false, 0, 2, none, []⟩,
 ⟨⟨some 10, false, none, iLoadN 6 (.t 3)⟩, [3], false, 0, 0, none, []⟩,
 ⟨⟨some 11, false, none, iMov (.t 1)⟩, [1], false, 0, 0, none, []⟩,
 ⟨⟨some 12, false, none, iCall (.c (.func (.func 18) [] [])) [(.t 10), (.t 11)]⟩, [10, 11], true, 0, 0, none, []⟩,
 ⟨⟨some 13, false, none, iMov (.t 12)⟩, [12], false, 1, 1, none, []⟩,
 ⟨⟨some 14, false, some (13, true), iMov (.t 2)⟩, [13, 2], false, 1, 1, none, []⟩,
 ⟨⟨some 15, false, some (13, true), iCall (.c (.func (.func 19) [] [])) [(.t 14), (.c (.int .i64 (.lit 0))), (.c (.int .i64 (.lit 999)))]⟩, [13, 14], true, 1, 0, none, []⟩,
 ⟨⟨some 16, false, none, iPick (.t 13) (.t 15) (.c (.bool (.lit false)))⟩, [13, 15], false, 2, 2, none, []⟩,
 ⟨⟨some 17, false, none, iCall (.c (.func (.func 17) [] [])) [(.t 9), (.t 16)]⟩, [9, 16], true, 2, 0, none, []⟩,
 ⟨⟨some 8, true, none, iMov (.t 17)⟩, [17], false, 3, 3, none, []⟩])
 (cSeq (cOps [⟨some 18, false, none, iMov (.t 8)⟩,
 ⟨some 19, true, none, iCmp .neq (.t 18) (.c (.int .i64 (.lit 0)))⟩])
 (cCond (.t 19) (cSeq (cOps [⟨some 20, false, none, iBuild [(.int .i64 (.lit 0)), (.int .i64 (.lit 0))] []⟩,
 ⟨some 21, false, none, iMov (.t 8)⟩,
 ⟨none, false, none, iStore 2 (.t 6) (.t 20)⟩,
 ⟨some 7, true, none, iMov (.t 21)⟩])
 cRet) cSkip)))
 (cSeq (cOps [⟨some 22, false, none, iLoadN 6 (.t 3)⟩,
 ⟨some 23, false, none, iMov (.t 1)⟩,
 ⟨some 24, false, none, iMov (.t 2)⟩,
 ⟨some 25, false, none, iCall (.c (.func (.func 20) [] [])) [(.t 22), (.t 23), (.t 24)]⟩,
 ⟨none, false, none, iStore 2 (.t 6) (.t 25)⟩,
 ⟨some 7, true, none, iMov (.c (.int .i64 (.lit 0)))⟩])
 cRet))), [.cell 6 true 2, .t 7]⟩
noncomputable def Tryd.kp6 : List Nat := [0, 1, 2, 3, 6, 7, 8, 9, 16, 26]
noncomputable def Tryd.cf6 : CF := ⟨3, (cSeq (cOps [⟨some 3, true, none, iBox 26 (.t 0)⟩,
 ⟨some 6, true, none, iMov (.c .nilslice)⟩,
 ⟨some 7, true, none, iMov (.c (.int .i64 (.lit 0)))⟩])
 (cSeq (cOps [⟨some 11, false, none, iLoadN 6 (.t 3)⟩,
 ⟨some 12, false, none, iCall (.c (.func (.func 13) [] [])) [(.t 11)]⟩,
 ⟨some 10, false, none, iMov (.t 12)⟩,
 ⟨some 13, false, none, iExtract 0 (.t 10)⟩,
 ⟨some 14, false, none, iExtract 1 (.t 10)⟩,
 ⟨some 8, true, none, iAlloc 42 [.nilslice, (.int .i64 (.lit 0)), (.int .i64 (.lit 0)), (.int .i64 (.lit 0)), (.int .i64 (.lit 0)), (.int .i64 (.lit 0)), .nilmap]⟩,
 ⟨none, false, none, iStore 7 (.t 8) (.t 13)⟩,
 ⟨some 9, true, none, iMov (.t 14)⟩])
 (cSeq (cSeq (cOps [⟨some 15, false, none, iMov (.t 9)⟩,
 ⟨some 16, true, none, iCmp .neq (.t 15) (.c (.int .i64 (.lit 0)))⟩])
 (cCond (.t 16) (cSeq (cOps [⟨some 17, false, none, iMov (.t 9)⟩,
 ⟨some 6, true, none, iMov (.c .nilslice)⟩,
 ⟨some 7, true, none, iMov (.t 17)⟩])
 cRet) cSkip))
 (cSeq (cSeq (cOps [⟨some 18, false, none, iLoadN 7 (.t 8)⟩,
 ⟨some 19, false, none, iMov (.t 1)⟩,
 ⟨some 20, false, none, iCall (.c (.func (.func 21) [] [])) [(.t 18), (.t 19)]⟩,
 ⟨some 21, false, none, iNot (.t 20)⟩,
 ⟨some 22, false, none, iMov (.t 21)⟩,
 ⟨some 23, false, some (22, false), iMov (.t 2)⟩,
 ⟨some 24, false, some (22, false), iCall (.c (.func (.func 15) [] [])) [(.t 23)]⟩,
 ⟨some 25, false, some (22, false), iNot (.t 24)⟩,
 ⟨some 26, true, none, iPick (.t 22) (.c (.bool (.lit true))) (.t 25)⟩])
 (cCond (.t 26) (cSeq (cOps [⟨some 6, true, none, iMov (.c .nilslice)⟩,
 ⟨some 7, true, none, iMov (.c (.int .i64 (.lit 11)))⟩])
 cRet) cSkip))
 (cSeq (cOps [⟨some 27, false, none, iLoadN 7 (.t 8)⟩,
 ⟨some 28, false, none, iMov (.t 1)⟩,
 ⟨some 29, false, none, iMov (.t 2)⟩,
 ⟨some 30, false, none, iCall (.c (.func (.func 22) [] [])) [(.t 27), (.t 28), (.t 29)]⟩,
 ⟨some 31, false, none, iExtract 0 (.t 30)⟩,
 ⟨some 32, false, none, iExtract 1 (.t 30)⟩,
 ⟨some 6, true, none, iMov (.t 31)⟩,
 ⟨some 7, true, none, iMov (.t 32)⟩])
 cRet))))), [.t 6, .t 7]⟩
noncomputable def Tryd.kp7 : List Nat := [0, 1, 2, 3, 6, 7, 8, 9, 10, 11, 12, 28, 33, 47, 54]
noncomputable def Tryd.cf7 : CF := ⟨3, (cSeq (cOps [⟨some 3, true, none, iBox 26 (.t 0)⟩,
 ⟨some 6, true, none, iMov (.c .nilslice)⟩,
 ⟨some 7, true, none, iMov (.c (.int .i64 (.lit 0)))⟩])
 (cSeq (cSeq (dOps 0 [⟨⟨some 13, false, none, iLoadN 6 (.t 3)⟩, [3], false, 0, 2, none, []⟩,
 ⟨⟨some 14, false, none, iMov (.t 1)⟩, [1], false, 0, 0, none, []⟩,
 ⟨⟨some 15, false, none, iLenS (.t 14)⟩, [14], false, 0, 0, none, []⟩,
 ⟨⟨some 16, false, none, iCmp .gtr (.t 15) (.c (.int .i64 (.lit 0)))⟩, [15], false, 0, 0, none, []⟩,
 ⟨⟨some 17, false, none, iMov (.t 16)⟩, [16], false, 0, 0, none, []⟩,
 ⟨⟨some 18, false, some (17, true), iLoadN 6 (.t 3)⟩, [17, 3], false, 0, 0, none, []⟩,
 ⟨⟨some 19, false, some (17, true), iMov (.t 1)⟩, [17, 1], false, 0, 0, none, []⟩,
 ⟨⟨some 20, false, some (17, true), iCall (.c (.func (.func 18) [] [])) [(.t 18), (.t 19)]⟩, [17, 18, 19], true, 0, 0, none, []⟩,
 ⟨⟨some 21, false, none, iPick (.t 17) (.t 20) (.c (.bool (.lit false)))⟩, [17, 20], false, 1, 1, none, []⟩,
 ⟨⟨some 22, false, none, iMov (.t 21)⟩, [21], false, 1, 1, none, []⟩,
 ⟨⟨some 23, false, some (22, true), iMov (.t 2)⟩, [22, 2], false, 1, 1, none, []⟩,
 ⟨⟨some 24, false, some (22, true), iCall (.c (.func (.func 19) [] [])) [(.t 23), (.c (.int .i64 (.lit 0))), (.c (.int .i64 (.lit 999)))]⟩, [22, 23], true, 1, 0, none, []⟩,
 ⟨⟨some 25, false, none, iPick (.t 22) (.t 24) (.c (.bool (.lit false)))⟩, [22, 24], false, 2, 2, none, []⟩,
 ⟨⟨some 26, false, none, iCall (.c (.func (.func 17) [] [])) [(.t 13), (.t 25)]⟩, [13, 25], true, 2, 0, none, []⟩,
 ⟨⟨some 8, true, none, iMov (.t 26)⟩, [26], false, 3, 3, none, []⟩])
 (cSeq (cOps [⟨some 27, false, none, iMov (.t 8)⟩,
 ⟨some 28, true, none, iCmp .neq (.t 27) (.c (.int .i64 (.lit 0)))⟩])
 (cCond (.t 28) (cSeq (cOps [⟨some 29, false, none, iMov (.t 8)⟩,
 ⟨some 6, true, none, iMov (.c .nilslice)⟩,
 ⟨some 7, true, none, iMov (.t 29)⟩])
 cRet) cSkip)))
 (cSeq (cOps [⟨some 9, true, none, iMov (.c .nilslice)⟩])
 (cSeq (cOps [⟨some 10, true, none, iMov (.c (.int .i64 (.lit 0)))⟩])
 (cSeq (cSeq (cOps [⟨some 11, true, none, iMov (.c (.int .i64 (.lit 0)))⟩])
 (cBlock 0 (cLoop (cSeq (cSeq (cOps [⟨some 30, false, none, iMov (.t 11)⟩,
 ⟨some 31, false, none, iMov (.t 1)⟩,
 ⟨some 32, false, none, iLenS (.t 31)⟩,
 ⟨some 33, true, none, iCmp .lss (.t 30) (.t 32)⟩])
 (cCond (.t 33) cSkip (cExit 0)))
 (cSeq (cBlock 1 (cSeq (dOps 0 [⟨⟨some 36, false, none, iLoadN 6 (.t 3)⟩, [3], false, 0, 0, none, []⟩,
 ⟨⟨some 37, false, none, iMov (.t 1)⟩, [1], false, 0, 0, none, []⟩,
 ⟨⟨some 38, false, none, iMov (.t 11)⟩, [11], false, 0, 0, none, []⟩,
 ⟨⟨some 39, false, none, iIaddr 1 (.t 37) (.t 38)⟩, [37, 38], false, 0, 0, none, []⟩,
 ⟨⟨some 40, false, none, iLoad (.t 39)⟩, [39], false, 0, 0, none, []⟩,
 ⟨⟨some 41, false, none, iMov (.t 2)⟩, [2], false, 0, 0, none, []⟩,
 ⟨⟨some 42, false, none, iCall (.c (.func (.func 23) [] [])) [(.t 36), (.t 40), (.t 41)]⟩, [36, 40, 41], true, 0, 0, none, []⟩,
 ⟨⟨some 43, false, none, iField false 1 1 (.t 42)⟩, [42], false, 1, 1, none, []⟩,
 ⟨⟨some 12, true, none, iMov (.t 43)⟩, [43], false, 1, 1, none, []⟩])
 (cSeq (cSeq (cOps [⟨some 44, false, none, iMov (.t 12)⟩,
 ⟨some 45, false, none, iFaddr 5 (.t 3)⟩,
 ⟨some 46, false, none, iLoad (.t 45)⟩,
 ⟨some 47, true, none, iCmp .gtr (.t 44) (.t 46)⟩])
 (cCond (.t 47) (cSeq (cOps [⟨some 6, true, none, iMov (.c .nilslice)⟩,
 ⟨some 7, true, none, iMov (.c (.int .i64 (.lit 4)))⟩])
 cRet) cSkip))
 (cSeq (cSeq (cOps [⟨some 48, false, none, iMov (.t 11)⟩,
 ⟨some 49, false, none, iCmp .eql (.t 48) (.c (.int .i64 (.lit 0)))⟩,
 ⟨some 50, false, none, iMov (.t 49)⟩,
 ⟨some 51, false, some (50, false), iMov (.t 12)⟩,
 ⟨some 52, false, some (50, false), iMov (.t 10)⟩,
 ⟨some 53, false, some (50, false), iCmp .gtr (.t 51) (.t 52)⟩,
 ⟨some 54, true, none, iPick (.t 50) (.c (.bool (.lit true))) (.t 53)⟩])
 (cCond (.t 54) (dOps 0 [⟨⟨some 55, false, none, iMov (.t 9)⟩, [9], false, 0, 1, none, []⟩,
 ⟨⟨some 56, false, none, iBslice 3 [(.int .i64 (.lit 0))] 1 [(0, 1, (.c (.int .i64 (.lit 0))))]⟩, [], true, 0, 0, none, []⟩,
 ⟨⟨some 57, false, none, iAppend 3 1 8 (.t 55) (.t 56)⟩, [55, 56], true, 1, 0, none, []⟩,
 ⟨⟨some 58, false, none, iFaddr 5 (.t 3)⟩, [3], false, 0, 2, none, []⟩,
 ⟨⟨some 59, false, none, iLoad (.t 58)⟩, [58], false, 0, 2, none, []⟩,
 ⟨⟨some 9, true, none, iMov (.t 57)⟩, [57], false, 2, 2, none, []⟩,
 ⟨⟨some 10, true, none, iMov (.t 59)⟩, [59], false, 2, 2, none, []⟩]) cSkip))
 (cSeq (cOps [⟨some 60, false, none, iMov (.t 9)⟩,
 ⟨some 61, false, none, iMov (.t 9)⟩,
 ⟨some 62, false, none, iLenS (.t 61)⟩,
 ⟨some 63, false, none, iArith .sub (.t 62) (.c (.int .i64 (.lit 1)))⟩,
 ⟨some 64, false, none, iIaddr 1 (.t 60) (.t 63)⟩,
 ⟨some 65, false, none, iLoad (.t 64)⟩,
 ⟨some 66, false, none, iArith .add (.t 65) (.c (.int .i64 (.lit 1)))⟩,
 ⟨some 67, false, none, iIaddr 1 (.t 60) (.t 63)⟩,
 ⟨none, false, none, iStore 1 (.t 67) (.t 66)⟩])
 (cOps [⟨some 68, false, none, iMov (.t 10)⟩,
 ⟨some 69, false, none, iMov (.t 12)⟩,
 ⟨some 70, false, none, iArith .sub (.t 68) (.t 69)⟩,
 ⟨some 10, true, none, iMov (.t 70)⟩]))))))
 (cOps [⟨some 34, false, none, iMov (.t 11)⟩,
 ⟨some 35, false, none, iArith .add (.t 34) (.c (.int .i64 (.lit 1)))⟩,
 ⟨some 11, true, none, iMov (.t 35)⟩]))))))
 (cSeq (cOps [⟨some 71, false, none, iMov (.t 9)⟩,
 ⟨some 6, true, none, iMov (.t 71)⟩,
 ⟨some 7, true, none, iMov (.c (.int .i64 (.lit 0)))⟩])
 cRet)))))), [.t 6, .t 7]⟩
noncomputable def Tryd.kp8 : List Nat := [0, 1, 4, 5, 6, 18]
noncomputable def Tryd.cf8 : CF := ⟨2, (cSeq (cOps [⟨some 4, true, none, iMov (.c (.bool (.lit false)))⟩])
 (cSeq (cOps [⟨some 7, false, none, iMov (.t 0)⟩,
 ⟨some 8, false, none, iLenS (.t 7)⟩,
 ⟨some 9, false, none, iMov (.t 1)⟩,
 ⟨some 10, false, none, iLenS (.t 9)⟩,
 ⟨some 11, false, none, iCmp .eql (.t 8) (.t 10)⟩,
 ⟨some 5, true, none, iMov (.t 11)⟩])
 (cSeq (cSeq (cOps [⟨some 6, true, none, iMov (.c (.int .i64 (.lit 0)))⟩])
 (cBlock 0 (cLoop (cSeq (cSeq (cOps [⟨some 12, false, none, iMov (.t 5)⟩,
 ⟨some 13, false, none, iMov (.t 12)⟩,
 ⟨some 14, false, some (13, true), iMov (.t 6)⟩,
 ⟨some 15, false, some (13, true), iMov (.t 0)⟩,
 ⟨some 16, false, some (13, true), iLenS (.t 15)⟩,
 ⟨some 17, false, some (13, true), iCmp .lss (.t 14) (.t 16)⟩,
 ⟨some 18, true, none, iPick (.t 13) (.t 17) (.c (.bool (.lit false)))⟩])
 (cCond (.t 18) cSkip (cExit 0)))
 (cSeq (cBlock 1 (dOps 0 [⟨⟨some 21, false, none, iMov (.t 0)⟩, [0], false, 0, 0, none, []⟩,
 ⟨⟨some 22, false, none, iMov (.t 6)⟩, [6], false, 0, 0, none, []⟩,
 ⟨⟨some 23, false, none, iIaddr 1 (.t 21) (.t 22)⟩, [21, 22], false, 0, 0, none, []⟩,
 ⟨⟨some 24, false, none, iLoad (.t 23)⟩, [23], false, 0, 0, none, []⟩,
 ⟨⟨some 25, false, none, iMov (.t 1)⟩, [1], false, 0, 0, none, []⟩,
 ⟨⟨some 26, false, none, iMov (.t 6)⟩, [6], false, 0, 0, none, []⟩,
 ⟨⟨some 27, false, none, iIaddr 1 (.t 25) (.t 26)⟩, [25, 26], false, 0, 0, none, []⟩,
 ⟨⟨some 28, false, none, iLoad (.t 27)⟩, [27], false, 0, 0, none, []⟩,
 ⟨⟨some 29, false, none, iCmp .eql (.t 24) (.t 28)⟩, [24, 28], false, 0, 0, none, []⟩,
 ⟨⟨some 5, true, none, iMov (.t 29)⟩, [29], false, 0, 0, none, []⟩]))
 (cOps [⟨some 19, false, none, iMov (.t 6)⟩,
 ⟨some 20, false, none, iArith .add (.t 19) (.c (.int .i64 (.lit 1)))⟩,
 ⟨some 6, true, none, iMov (.t 20)⟩]))))))
 (cSeq (cOps [⟨some 30, false, none, iMov (.t 5)⟩,
 ⟨some 4, true, none, iMov (.t 30)⟩])
 cRet)))), [.t 4]⟩
noncomputable def Tryd.kp9 : List Nat := [0, 1, 2, 3, 6, 7, 8, 9, 10, 17, 27, 36]
noncomputable def Tryd.cf9 : CF := ⟨3, (cSeq (cOps [⟨some 3, true, none, iBox 26 (.t 0)⟩,
 ⟨some 6, true, none, iMov (.c .nilslice)⟩,
 ⟨some 7, true, none, iMov (.c (.int .i64 (.lit 0)))⟩])
 (cSeq (cOps [⟨some 12, false, none, iLoadN 6 (.t 3)⟩,
 ⟨some 13, false, none, iCall (.c (.func (.func 13) [] [])) [(.t 12)]⟩,
 ⟨some 11, false, none, iMov (.t 13)⟩,
 ⟨some 14, false, none, iExtract 0 (.t 11)⟩,
 ⟨some 15, false, none, iExtract 1 (.t 11)⟩,
 ⟨some 8, true, none, iAlloc 42 [.nilslice, (.int .i64 (.lit 0)), (.int .i64 (.lit 0)), (.int .i64 (.lit 0)), (.int .i64 (.lit 0)), (.int .i64 (.lit 0)), .nilmap]⟩,
 ⟨none, false, none, iStore 7 (.t 8) (.t 14)⟩,
 ⟨some 9, true, none, iMov (.t 15)⟩])
 (cSeq (cSeq (cOps [⟨some 16, false, none, iMov (.t 9)⟩,
 ⟨some 17, true, none, iCmp .neq (.t 16) (.c (.int .i64 (.lit 0)))⟩])
 (cCond (.t 17) (cSeq (cOps [⟨some 18, false, none, iMov (.t 9)⟩,
 ⟨some 6, true, none, iMov (.c .nilslice)⟩,
 ⟨some 7, true, none, iMov (.t 18)⟩])
 cRet) cSkip))
 (cSeq (cSeq (cOps [⟨some 19, false, none, iLoadN 7 (.t 8)⟩,
 ⟨some 20, false, none, iMov (.t 1)⟩,
 ⟨some 21, false, none, iCall (.c (.func (.func 21) [] [])) [(.t 19), (.t 20)]⟩,
 ⟨some 22, false, none, iNot (.t 21)⟩,
 ⟨some 23, false, none, iMov (.t 22)⟩,
 ⟨some 24, false, some (23, false), iMov (.t 2)⟩,
 ⟨some 25, false, some (23, false), iCall (.c (.func (.func 15) [] [])) [(.t 24)]⟩,
 ⟨some 26, false, some (23, false), iNot (.t 25)⟩,
 ⟨some 27, true, none, iPick (.t 23) (.c (.bool (.lit true))) (.t 26)⟩])
 (cCond (.t 27) (cSeq (cOps [⟨some 6, true, none, iMov (.c .nilslice)⟩,
 ⟨some 7, true, none, iMov (.c (.int .i64 (.lit 11)))⟩])
 cRet) cSkip))
 (cSeq (cOps [⟨some 29, false, none, iLoadN 7 (.t 8)⟩,
 ⟨some 30, false, none, iMov (.t 1)⟩,
 ⟨some 31, false, none, iMov (.t 2)⟩,
 ⟨some 32, false, none, iCall (.c (.func (.func 22) [] [])) [(.t 29), (.t 30), (.t 31)]⟩,
 ⟨some 28, false, none, iMov (.t 32)⟩,
 ⟨some 33, false, none, iExtract 0 (.t 28)⟩,
 ⟨some 34, false, none, iExtract 1 (.t 28)⟩,
 ⟨some 10, true, none, iMov (.t 33)⟩,
 ⟨some 9, true, none, iMov (.t 34)⟩])
 (cSeq (cSeq (cOps [⟨some 35, false, none, iMov (.t 9)⟩,
 ⟨some 36, true, none, iCmp .neq (.t 35) (.c (.int .i64 (.lit 0)))⟩])
 (cCond (.t 36) (cSeq (cOps [⟨some 37, false, none, iMov (.t 9)⟩,
 ⟨some 6, true, none, iMov (.c .nilslice)⟩,
 ⟨some 7, true, none, iMov (.t 37)⟩])
 cRet) cSkip))
 (cSeq (cOps [⟨some 38, false, none, iLoadN 7 (.t 8)⟩,
 ⟨some 39, false, none, iMov (.t 1)⟩,
 ⟨some 40, false, none, iMov (.t 10)⟩,
 ⟨some 41, false, none, iMov (.t 2)⟩,
 ⟨some 42, false, none, iCall (.c (.func (.func 24) [] [])) [(.t 38), (.t 39), (.t 40), (.t 41)]⟩,
 ⟨some 6, true, none, iMov (.t 42)⟩,
 ⟨some 7, true, none, iMov (.c (.int .i64 (.lit 0)))⟩])
 cRet))))))), [.t 6, .t 7]⟩
noncomputable def Tryd.kp10 : List Nat := [0, 1, 2, 3, 6, 7, 8, 9, 10, 11, 12, 21, 27]
noncomputable def Tryd.cf10 : CF := ⟨3, (cSeq (cOps [⟨some 3, true, none, iBox 26 (.t 0)⟩,
 ⟨some 6, true, none, iMov (.c .nilslice)⟩,
 ⟨some 7, true, none, iMov (.c (.int .i64 (.lit 0)))⟩])
 (cSeq (cOps [⟨some 14, false, none, iLoadN 6 (.t 3)⟩,
 ⟨some 15, false, none, iMov (.t 1)⟩,
 ⟨some 16, false, none, iMov (.t 2)⟩,
 ⟨some 17, false, none, iCall (.c (.func (.func 7) [] [])) [(.t 14), (.t 15), (.t 16)]⟩,
 ⟨some 13, false, none, iMov (.t 17)⟩,
 ⟨some 18, false, none, iExtract 0 (.t 13)⟩,
 ⟨some 19, false, none, iExtract 1 (.t 13)⟩,
 ⟨some 8, true, none, iMov (.t 18)⟩,
 ⟨some 9, true, none, iMov (.t 19)⟩])
 (cSeq (cSeq (cOps [⟨some 20, false, none, iMov (.t 9)⟩,
 ⟨some 21, true, none, iCmp .neq (.t 20) (.c (.int .i64 (.lit 0)))⟩])
 (cCond (.t 21) (cSeq (cOps [⟨some 22, false, none, iMov (.t 9)⟩,
 ⟨some 6, true, none, iMov (.c .nilslice)⟩,
 ⟨some 7, true, none, iMov (.t 22)⟩])
 cRet) cSkip))
 (cSeq (cOps [⟨some 10, true, none, iMov (.c .nilslice)⟩])
 (cSeq (cOps [⟨some 11, true, none, iMov (.c (.int .i64 (.lit 0)))⟩])
 (cSeq (cSeq (cOps [⟨some 12, true, none, iMov (.c (.int .i64 (.lit 0)))⟩])
 (cBlock 0 (cLoop (cSeq (cSeq (cOps [⟨some 23, false, none, iMov (.t 12)⟩,
 ⟨some 24, false, none, iArith .add (.t 23) (.c (.int .i64 (.lit 1)))⟩,
 ⟨some 25, false, none, iMov (.t 8)⟩,
 ⟨some 26, false, none, iLenS (.t 25)⟩,
 ⟨some 27, true, none, iCmp .lss (.t 24) (.t 26)⟩])
 (cCond (.t 27) cSkip (cExit 0)))
 (cSeq (cBlock 1 (cSeq (cOps [⟨some 30, false, none, iMov (.t 11)⟩,
 ⟨some 31, false, none, iMov (.t 8)⟩,
 ⟨some 32, false, none, iMov (.t 12)⟩,
 ⟨some 33, false, none, iIaddr 1 (.t 31) (.t 32)⟩,
 ⟨some 34, false, none, iLoad (.t 33)⟩,
 ⟨some 35, false, none, iArith .add (.t 30) (.t 34)⟩,
 ⟨some 11, true, none, iMov (.t 35)⟩])
 (dOps 0 [⟨⟨some 36, false, none, iMov (.t 10)⟩, [10], false, 0, 2, none, []⟩,
 ⟨⟨some 37, false, none, iLoadN 6 (.t 3)⟩, [3], false, 0, 0, none, []⟩,
 ⟨⟨some 38, false, none, iMov (.t 1)⟩, [1], false, 0, 0, none, []⟩,
 ⟨⟨some 39, false, none, iMov (.t 11)⟩, [11], false, 0, 0, none, []⟩,
 ⟨⟨some 40, false, none, iSlice 1 (.t 38) none (some (.t 39)) none⟩, [38, 39], false, 0, 0, none, []⟩,
 ⟨⟨some 41, false, none, iMov (.t 2)⟩, [2], false, 0, 0, none, []⟩,
 ⟨⟨some 42, false, none, iCall (.c (.func (.func 20) [] [])) [(.t 37), (.t 40), (.t 41)]⟩, [37, 40, 41], true, 0, 0, none, []⟩,
 ⟨⟨some 43, false, none, iBslice 24 [(.int .i64 (.lit 0)), (.int .i64 (.lit 0))] 1 [(0, 2, (.t 42))]⟩, [42], true, 1, 0, none, []⟩,
 ⟨⟨some 44, false, none, iAppend 24 2 16 (.t 36) (.t 43)⟩, [36, 43], true, 2, 0, none, []⟩,
 ⟨⟨some 10, true, none, iMov (.t 44)⟩, [44], false, 3, 3, none, []⟩])))
 (cOps [⟨some 28, false, none, iMov (.t 12)⟩,
 ⟨some 29, false, none, iArith .add (.t 28) (.c (.int .i64 (.lit 1)))⟩,
 ⟨some 12, true, none, iMov (.t 29)⟩]))))))
 (cSeq (cOps [⟨some 45, false, none, iMov (.t 10)⟩,
 ⟨some 6, true, none, iMov (.t 45)⟩,
 ⟨some 7, true, none, iMov (.c (.int .i64 (.lit 0)))⟩])
 cRet))))))), [.t 6, .t 7]⟩
noncomputable def Tryd.kp11 : List Nat := [0, 1, 4, 5, 6, 18]
noncomputable def Tryd.cf11 : CF := ⟨2, (cSeq (cOps [⟨some 4, true, none, iMov (.c (.bool (.lit false)))⟩])
 (cSeq (cOps [⟨some 7, false, none, iMov (.t 0)⟩,
 ⟨some 8, false, none, iLenS (.t 7)⟩,
 ⟨some 9, false, none, iMov (.t 1)⟩,
 ⟨some 10, false, none, iLenS (.t 9)⟩,
 ⟨some 11, false, none, iCmp .eql (.t 8) (.t 10)⟩,
 ⟨some 5, true, none, iMov (.t 11)⟩])
 (cSeq (cSeq (cOps [⟨some 6, true, none, iMov (.c (.int .i64 (.lit 0)))⟩])
 (cBlock 0 (cLoop (cSeq (cSeq (cOps [⟨some 12, false, none, iMov (.t 5)⟩,
 ⟨some 13, false, none, iMov (.t 12)⟩,
 ⟨some 14, false, some (13, true), iMov (.t 6)⟩,
 ⟨some 15, false, some (13, true), iMov (.t 0)⟩,
 ⟨some 16, false, some (13, true), iLenS (.t 15)⟩,
 ⟨some 17, false, some (13, true), iCmp .lss (.t 14) (.t 16)⟩,
 ⟨some 18, true, none, iPick (.t 13) (.t 17) (.c (.bool (.lit false)))⟩])
 (cCond (.t 18) cSkip (cExit 0)))
 (cSeq (cBlock 1 (dOps 0 [⟨⟨some 21, false, none, iMov (.t 0)⟩, [0], false, 0, 0, none, []⟩,
 ⟨⟨some 22, false, none, iMov (.t 6)⟩, [6], false, 0, 0, none, []⟩,
 ⟨⟨some 23, false, none, iIaddr 2 (.t 21) (.t 22)⟩, [21, 22], false, 0, 0, none, []⟩,
 ⟨⟨some 24, false, none, iLoadN 2 (.t 23)⟩, [23], false, 0, 0, none, []⟩,
 ⟨⟨some 25, false, none, iMov (.t 1)⟩, [1], false, 0, 0, none, []⟩,
 ⟨⟨some 26, false, none, iMov (.t 6)⟩, [6], false, 0, 0, none, []⟩,
 ⟨⟨some 27, false, none, iIaddr 2 (.t 25) (.t 26)⟩, [25, 26], false, 0, 0, none, []⟩,
 ⟨⟨some 28, false, none, iLoadN 2 (.t 27)⟩, [27], false, 0, 0, none, []⟩,
 ⟨⟨some 29, false, none, iEq false true 2 [(0, .int), (1, .int)] (.t 24) (.t 28)⟩, [24, 28], false, 0, 0, none, []⟩,
 ⟨⟨some 5, true, none, iMov (.t 29)⟩, [29], false, 0, 0, none, []⟩]))
 (cOps [⟨some 19, false, none, iMov (.t 6)⟩,
 ⟨some 20, false, none, iArith .add (.t 19) (.c (.int .i64 (.lit 1)))⟩,
 ⟨some 6, true, none, iMov (.t 20)⟩]))))))
 (cSeq (cOps [⟨some 30, false, none, iMov (.t 5)⟩,
 ⟨some 4, true, none, iMov (.t 30)⟩])
 cRet)))), [.t 4]⟩
noncomputable def Tryd.kp12 : List Nat := [0, 1, 2, 3, 4, 5, 6, 7, 8, 9, 10, 11, 12, 13, 14, 15, 16, 17, 87]
noncomputable def Tryd.cf12 : CF := ⟨0, (cSeq (cOps [⟨some 0, true, none, iMov (.c (.bool (.lit false)))⟩])
 (cSeq (cOps [⟨some 19, false, none, iCall (.c (.func (.func 26) [] [])) []⟩,
 ⟨some 20, false, none, iBslice 3 [(.int .i64 (.lit 0))] 3 [(0, 1, (.c (.int .i64 (.lit 0)))), (1, 1, (.c (.int .i64 (.lit 3)))), (2, 1, (.c (.int .i64 (.lit 2))))]⟩,
 ⟨some 21, false, none, iCall (.c (.func (.func 25) [] [])) [(.t 19), (.t 20)]⟩,
 ⟨some 18, false, none, iMov (.t 21)⟩,
 ⟨some 22, false, none, iExtract 0 (.t 18)⟩,
 ⟨some 23, false, none, iExtract 1 (.t 18)⟩,
 ⟨some 1, true, none, iMov (.t 22)⟩,
 ⟨some 2, true, none, iMov (.t 23)⟩])
 (cSeq (cOps [⟨some 25, false, none, iCall (.c (.func (.func 26) [] [])) []⟩,
 ⟨some 26, false, none, iCall (.c (.func (.func 27) [] [])) [(.t 25)]⟩,
 ⟨some 24, false, none, iMov (.t 26)⟩,
 ⟨some 27, false, none, iExtract 0 (.t 24)⟩,
 ⟨some 28, false, none, iExtract 1 (.t 24)⟩,
 ⟨some 3, true, none, iMov (.t 27)⟩,
 ⟨some 4, true, none, iMov (.t 28)⟩])
 (cSeq (cOps [⟨some 30, false, none, iCall (.c (.func (.func 26) [] [])) []⟩,
 ⟨some 31, false, none, iCall (.c (.func (.func 28) [] [])) [(.t 30)]⟩,
 ⟨some 29, false, none, iMov (.t 31)⟩,
 ⟨some 32, false, none, iExtract 0 (.t 29)⟩,
 ⟨some 33, false, none, iExtract 1 (.t 29)⟩,
 ⟨some 5, true, none, iMov (.t 32)⟩,
 ⟨some 6, true, none, iMov (.t 33)⟩])
 (cSeq (cOps [⟨some 35, false, none, iCall (.c (.func (.func 26) [] [])) []⟩,
 ⟨some 36, false, none, iCall (.c (.func (.func 29) [] [])) [(.t 35), (.c (.int .i64 (.lit 3)))]⟩,
 ⟨some 34, false, none, iMov (.t 36)⟩,
 ⟨some 37, false, none, iExtract 0 (.t 34)⟩,
 ⟨some 38, false, none, iExtract 1 (.t 34)⟩,
 ⟨some 7, true, none, iMov (.t 37)⟩,
 ⟨some 8, true, none, iMov (.t 38)⟩])
 (cSeq (cOps [⟨some 40, false, none, iCall (.c (.func (.func 31) [] [])) []⟩,
 ⟨some 41, false, none, iCall (.c (.func (.func 30) [] [])) [(.t 40)]⟩,
 ⟨some 39, false, none, iMov (.t 41)⟩,
 ⟨some 42, false, none, iExtract 0 (.t 39)⟩,
 ⟨some 43, false, none, iExtract 1 (.t 39)⟩,
 ⟨some 9, true, none, iMov (.t 42)⟩,
 ⟨some 10, true, none, iMov (.t 43)⟩])
 (cSeq (cSeq (cOps [⟨some 44, false, none, iMov (.t 2)⟩,
 ⟨some 45, false, none, iCmp .neq (.t 44) (.c (.int .i64 (.lit 0)))⟩,
 ⟨some 46, false, none, iMov (.t 45)⟩,
 ⟨some 47, false, some (46, false), iMov (.t 4)⟩,
 ⟨some 48, false, some (46, false), iCmp .neq (.t 47) (.c (.int .i64 (.lit 0)))⟩,
 ⟨some 49, false, none, iPick (.t 46) (.c (.bool (.lit true))) (.t 48)⟩,
 ⟨some 50, false, none, iMov (.t 49)⟩,
 ⟨some 51, false, some (50, false), iMov (.t 6)⟩,
 ⟨some 52, false, some (50, false), iCmp .neq (.t 51) (.c (.int .i64 (.lit 0)))⟩,
 ⟨some 53, false, none, iPick (.t 50) (.c (.bool (.lit true))) (.t 52)⟩,
 ⟨some 54, false, none, iMov (.t 53)⟩,
 ⟨some 55, false, some (54, false), iMov (.t 8)⟩,
 ⟨some 56, false, some (54, false), iCmp .neq (.t 55) (.c (.int .i64 (.lit 0)))⟩,
 ⟨some 57, false, none, iPick (.t 54) (.c (.bool (.lit true))) (.t 56)⟩,
 ⟨some 58, false, none, iMov (.t 57)⟩,
 ⟨some 59, false, some (58, false), iMov (.t 10)⟩,
 ⟨some 60, false, some (58, false), iCmp .neq (.t 59) (.c (.int .i64 (.lit 0)))⟩,
 ⟨some 61, false, none, iPick (.t 58) (.c (.bool (.lit true))) (.t 60)⟩,
 ⟨some 62, false, none, iMov (.t 61)⟩,
 ⟨some 63, false, some (62, false), iMov (.t 1)⟩,
 ⟨some 64, false, some (62, false), iNot (.t 63)⟩,
 ⟨some 65, false, none, iPick (.t 62) (.c (.bool (.lit true))) (.t 64)⟩,
 ⟨some 66, false, none, iMov (.t 65)⟩,
 ⟨some 67, false, some (66, false), iMov (.t 3)⟩,
 ⟨some 68, false, some (66, false), iCmp .neq (.t 67) (.c (.int .i64 (.lit 2)))⟩,
 ⟨some 69, false, none, iPick (.t 66) (.c (.bool (.lit true))) (.t 68)⟩,
 ⟨some 70, false, none, iMov (.t 69)⟩,
 ⟨some 71, false, some (70, false), iMov (.t 5)⟩,
 ⟨some 72, false, some (70, false), iBslice 3 [(.int .i64 (.lit 0))] 4 [(0, 1, (.c (.int .i64 (.lit 1)))), (1, 1, (.c (.int .i64 (.lit 0)))), (2, 1, (.c (.int .i64 (.lit 2)))), (3, 1, (.c (.int .i64 (.lit 3))))]⟩,
 ⟨some 73, false, some (70, false), iCall (.c (.func (.func 8) [] [])) [(.t 71), (.t 72)]⟩,
 ⟨some 74, false, some (70, false), iNot (.t 73)⟩,
 ⟨some 75, false, none, iPick (.t 70) (.c (.bool (.lit true))) (.t 74)⟩,
 ⟨some 76, false, none, iMov (.t 75)⟩,
 ⟨some 77, false, some (76, false), iMov (.t 7)⟩,
 ⟨some 78, false, some (76, false), iBslice 3 [(.int .i64 (.lit 0))] 2 [(0, 1, (.c (.int .i64 (.lit 2)))), (1, 1, (.c (.int .i64 (.lit 3))))]⟩,
 ⟨some 79, false, some (76, false), iCall (.c (.func (.func 8) [] [])) [(.t 77), (.t 78)]⟩,
 ⟨some 80, false, some (76, false), iNot (.t 79)⟩,
 ⟨some 81, false, none, iPick (.t 76) (.c (.bool (.lit true))) (.t 80)⟩,
 ⟨some 82, false, none, iMov (.t 81)⟩,
 ⟨some 83, false, some (82, false), iMov (.t 9)⟩,
 ⟨some 84, false, some (82, false), iBslice 3 [(.int .i64 (.lit 0))] 1 [(0, 1, (.c (.int .i64 (.lit 1))))]⟩,
 ⟨some 85, false, some (82, false), iCall (.c (.func (.func 8) [] [])) [(.t 83), (.t 84)]⟩,
 ⟨some 86, false, some (82, false), iNot (.t 85)⟩,
 ⟨some 87, true, none, iPick (.t 82) (.c (.bool (.lit true))) (.t 86)⟩])
 (cCond (.t 87) (cSeq (cOps [⟨some 0, true, none, iMov (.c (.bool (.lit false)))⟩])
 cRet) cSkip))
 (cSeq (cOps [⟨some 89, false, none, iCall (.c (.func (.func 26) [] [])) []⟩,
 ⟨some 90, false, none, iCall (.c (.func (.func 32) [] [])) [(.t 89), (.c (.int .i64 (.lit 1))), (.c (.int .i64 (.lit 10)))]⟩,
 ⟨some 88, false, none, iMov (.t 90)⟩,
 ⟨some 91, false, none, iExtract 0 (.t 88)⟩,
 ⟨some 92, false, none, iExtract 1 (.t 88)⟩,
 ⟨some 11, true, none, iAlloc 24 [(.int .i64 (.lit 0)), (.int .i64 (.lit 0))]⟩,
 ⟨none, false, none, iStore 2 (.t 11) (.t 91)⟩,
 ⟨some 2, true, none, iMov (.t 92)⟩])
 (cSeq (cOps [⟨some 94, false, none, iCall (.c (.func (.func 26) [] [])) []⟩,
 ⟨some 95, false, none, iCall (.c (.func (.func 33) [] [])) [(.t 94), (.c (.int .i64 (.lit 2))), (.c (.int .i64 (.lit 700)))]⟩,
 ⟨some 93, false, none, iMov (.t 95)⟩,
 ⟨some 96, false, none, iExtract 0 (.t 93)⟩,
 ⟨some 97, false, none, iExtract 1 (.t 93)⟩,
 ⟨some 98, false, none, iExtract 2 (.t 93)⟩,
 ⟨some 12, true, none, iMov (.t 96)⟩,
 ⟨some 13, true, none, iMov (.t 97)⟩,
 ⟨some 4, true, none, iMov (.t 98)⟩])
 (cSeq (cOps [⟨some 100, false, none, iCall (.c (.func (.func 26) [] [])) []⟩,
 ⟨some 101, false, none, iCall (.c (.func (.func 34) [] [])) [(.t 100), (.c (.int .i64 (.lit 3))), (.c (.int .i64 (.lit 690)))]⟩,
 ⟨some 99, false, none, iMov (.t 101)⟩,
 ⟨some 102, false, none, iExtract 0 (.t 99)⟩,
 ⟨some 103, false, none, iExtract 1 (.t 99)⟩,
 ⟨some 14, true, none, iAlloc 24 [(.int .i64 (.lit 0)), (.int .i64 (.lit 0))]⟩,
 ⟨none, false, none, iStore 2 (.t 14) (.t 102)⟩,
 ⟨some 6, true, none, iMov (.t 103)⟩])
 (cSeq (cOps [⟨some 105, false, none, iCall (.c (.func (.func 26) [] [])) []⟩,
 ⟨some 106, false, none, iBslice 3 [(.int .i64 (.lit 0))] 4 [(0, 1, (.c (.int .i64 (.lit 0)))), (1, 1, (.c (.int .i64 (.lit 1)))), (2, 1, (.c (.int .i64 (.lit 2)))), (3, 1, (.c (.int .i64 (.lit 3))))]⟩,
 ⟨some 107, false, none, iCall (.c (.func (.func 4) [] [])) [(.t 105), (.t 106), (.c (.int .i64 (.lit 0)))]⟩,
 ⟨some 104, false, none, iMov (.t 107)⟩,
 ⟨some 108, false, none, iExtract 0 (.t 104)⟩,
 ⟨some 109, false, none, iExtract 1 (.t 104)⟩,
 ⟨some 15, true, none, iAlloc 24 [(.int .i64 (.lit 0)), (.int .i64 (.lit 0))]⟩,
 ⟨none, false, none, iStore 2 (.t 15) (.t 108)⟩,
 ⟨some 8, true, none, iMov (.t 109)⟩])
 (cSeq (cOps [⟨some 111, false, none, iCall (.c (.func (.func 26) [] [])) []⟩,
 ⟨some 112, false, none, iBslice 3 [(.int .i64 (.lit 0))] 4 [(0, 1, (.c (.int .i64 (.lit 1)))), (1, 1, (.c (.int .i64 (.lit 0)))), (2, 1, (.c (.int .i64 (.lit 2)))), (3, 1, (.c (.int .i64 (.lit 3))))]⟩,
 ⟨some 113, false, none, iCall (.c (.func (.func 6) [] [])) [(.t 111), (.t 112), (.c (.int .i64 (.lit 0)))]⟩,
 ⟨some 110, false, none, iMov (.t 113)⟩,
 ⟨some 114, false, none, iExtract 0 (.t 110)⟩,
 ⟨some 115, false, none, iExtract 1 (.t 110)⟩,
 ⟨some 5, true, none, iMov (.t 114)⟩,
 ⟨some 10, true, none, iMov (.t 115)⟩])
 (cSeq (cOps [⟨some 117, false, none, iCall (.c (.func (.func 26) [] [])) []⟩,
 ⟨some 118, false, none, iBslice 3 [(.int .i64 (.lit 0))] 4 [(0, 1, (.c (.int .i64 (.lit 1)))), (1, 1, (.c (.int .i64 (.lit 0)))), (2, 1, (.c (.int .i64 (.lit 2)))), (3, 1, (.c (.int .i64 (.lit 3))))]⟩,
 ⟨some 119, false, none, iCall (.c (.func (.func 9) [] [])) [(.t 117), (.t 118), (.c (.int .i64 (.lit 0)))]⟩,
 ⟨some 116, false, none, iMov (.t 119)⟩,
 ⟨some 120, false, none, iExtract 0 (.t 116)⟩,
 ⟨some 121, false, none, iExtract 1 (.t 116)⟩,
 ⟨some 16, true, none, iMov (.t 120)⟩,
 ⟨some 17, true, none, iMov (.t 121)⟩])
 (cSeq (dOps 0 [⟨⟨some 122, false, none, iMov (.t 2)⟩, [2], false, 0, 0, none, []⟩,
 ⟨⟨some 123, false, none, iCmp .eql (.t 122) (.c (.int .i64 (.lit 0)))⟩, [122], false, 0, 0, none, []⟩,
 ⟨⟨some 124, false, none, iMov (.t 123)⟩, [123], false, 0, 0, none, []⟩,
 ⟨⟨some 125, false, some (124, true), iMov (.t 4)⟩, [124, 4], false, 0, 0, none, []⟩,
 ⟨⟨some 126, false, some (124, true), iCmp .eql (.t 125) (.c (.int .i64 (.lit 0)))⟩, [124, 125], false, 0, 0, none, []⟩,
 ⟨⟨some 127, false, none, iPick (.t 124) (.t 126) (.c (.bool (.lit false)))⟩, [124, 126], false, 0, 0, none, []⟩,
 ⟨⟨some 128, false, none, iMov (.t 127)⟩, [127], false, 0, 0, none, []⟩,
 ⟨⟨some 129, false, some (128, true), iMov (.t 6)⟩, [128, 6], false, 0, 0, none, []⟩,
 ⟨⟨some 130, false, some (128, true), iCmp .eql (.t 129) (.c (.int .i64 (.lit 0)))⟩, [128, 129], false, 0, 0, none, []⟩,
 ⟨⟨some 131, false, none, iPick (.t 128) (.t 130) (.c (.bool (.lit false)))⟩, [128, 130], false, 0, 0, none, []⟩,
 ⟨⟨some 132, false, none, iMov (.t 131)⟩, [131], false, 0, 0, none, []⟩,
 ⟨⟨some 133, false, some (132, true), iMov (.t 8)⟩, [132, 8], false, 0, 0, none, []⟩,
 ⟨⟨some 134, false, some (132, true), iCmp .eql (.t 133) (.c (.int .i64 (.lit 0)))⟩, [132, 133], false, 0, 0, none, []⟩,
 ⟨⟨some 135, false, none, iPick (.t 132) (.t 134) (.c (.bool (.lit false)))⟩, [132, 134], false, 0, 0, none, []⟩,
 ⟨⟨some 136, false, none, iMov (.t 135)⟩, [135], false, 0, 0, none, []⟩,
 ⟨⟨some 137, false, some (136, true), iMov (.t 10)⟩, [136, 10], false, 0, 0, none, []⟩,
 ⟨⟨some 138, false, some (136, true), iCmp .eql (.t 137) (.c (.int .i64 (.lit 0)))⟩, [136, 137], false, 0, 0, none, []⟩,
 ⟨⟨some 139, false, none, iPick (.t 136) (.t 138) (.c (.bool (.lit false)))⟩, [136, 138], false, 0, 0, none, []⟩,
 ⟨⟨some 140, false, none, iMov (.t 139)⟩, [139], false, 0, 0, none, []⟩,
 ⟨⟨some 141, false, some (140, true), iMov (.t 17)⟩, [140, 17], false, 0, 0, none, []⟩,
 ⟨⟨some 142, false, some (140, true), iCmp .eql (.t 141) (.c (.int .i64 (.lit 0)))⟩, [140, 141], false, 0, 0, none, []⟩,
 ⟨⟨some 143, false, none, iPick (.t 140) (.t 142) (.c (.bool (.lit false)))⟩, [140, 142], false, 0, 0, none, []⟩,
 ⟨⟨some 144, false, none, iMov (.t 143)⟩, [143], false, 0, 0, none, []⟩,
 ⟨⟨some 145, false, some (144, true), iLoadN 2 (.t 11)⟩, [144, 11], false, 0, 1, none, []⟩,
 ⟨⟨some 146, false, some (144, true), iCall (.c (.func (.func 35) [] [])) [(.c (.int .i64 (.lit 920))), (.c (.int .i64 (.lit 990)))]⟩, [144], true, 0, 0, none, []⟩,
 ⟨⟨some 147, false, some (144, true), iEq false true 2 [(0, .int), (1, .int)] (.t 145) (.t 146)⟩, [144, 145, 146], false, 1, 1, none, []⟩,
 ⟨⟨some 148, false, none, iPick (.t 144) (.t 147) (.c (.bool (.lit false)))⟩, [144, 147], false, 1, 1, none, []⟩,
 ⟨⟨some 149, false, none, iMov (.t 148)⟩, [148], false, 1, 1, none, []⟩,
 ⟨⟨some 150, false, some (149, true), iMov (.t 12)⟩, [149, 12], false, 1, 1, none, []⟩,
 ⟨⟨some 151, false, some (149, true), iCmp .eql (.t 150) (.c (.int .i64 (.lit 33)))⟩, [149, 150], false, 1, 1, none, []⟩,
 ⟨⟨some 152, false, none, iPick (.t 149) (.t 151) (.c (.bool (.lit false)))⟩, [149, 151], false, 1, 1, none, []⟩,
 ⟨⟨some 153, false, none, iMov (.t 152)⟩, [152], false, 1, 1, none, []⟩,
 ⟨⟨some 154, false, some (153, true), iMov (.t 13)⟩, [153, 13], false, 1, 1, none, []⟩,
 ⟨⟨some 155, false, some (153, true), iCmp .eql (.t 154) (.c (.int .i64 (.lit 120)))⟩, [153, 154], false, 1, 1, none, []⟩,
 ⟨⟨some 156, false, none, iPick (.t 153) (.t 155) (.c (.bool (.lit false)))⟩, [153, 155], false, 1, 1, none, []⟩,
 ⟨⟨some 157, false, none, iMov (.t 156)⟩, [156], false, 1, 1, none, []⟩,
 ⟨⟨some 158, false, some (157, true), iLoadN 2 (.t 14)⟩, [157, 14], false, 1, 2, none, []⟩,
 ⟨⟨some 159, false, some (157, true), iCall (.c (.func (.func 35) [] [])) [(.c (.int .i64 (.lit 4))), (.c (.int .i64 (.lit 10)))]⟩, [157], true, 1, 0, none, []⟩,
 ⟨⟨some 160, false, some (157, true), iEq false true 2 [(0, .int), (1, .int)] (.t 158) (.t 159)⟩, [157, 158, 159], false, 2, 2, none, []⟩,
 ⟨⟨some 161, false, none, iPick (.t 157) (.t 160) (.c (.bool (.lit false)))⟩, [157, 160], false, 2, 2, none, []⟩,
 ⟨⟨some 162, false, none, iMov (.t 161)⟩, [161], false, 2, 2, none, []⟩,
 ⟨⟨some 163, false, some (162, true), iLoadN 2 (.t 15)⟩, [162, 15], false, 2, 3, none, []⟩,
 ⟨⟨some 164, false, some (162, true), iCall (.c (.func (.func 35) [] [])) [(.c (.int .i64 (.lit 20100))), (.c (.int .i64 (.lit 27360)))]⟩, [162], true, 2, 0, none, []⟩,
 ⟨⟨some 165, false, some (162, true), iEq false true 2 [(0, .int), (1, .int)] (.t 163) (.t 164)⟩, [162, 163, 164], false, 3, 3, none, []⟩,
 ⟨⟨some 166, false, none, iPick (.t 162) (.t 165) (.c (.bool (.lit false)))⟩, [162, 165], false, 3, 3, none, []⟩,
 ⟨⟨some 167, false, none, iMov (.t 166)⟩, [166], false, 3, 3, none, []⟩,
 ⟨⟨some 168, false, some (167, true), iMov (.t 5)⟩, [167, 5], false, 3, 4, none, []⟩,
 ⟨⟨some 169, false, some (167, true), iBslice 3 [(.int .i64 (.lit 0))] 2 [(0, 1, (.c (.int .i64 (.lit 2)))), (1, 1, (.c (.int .i64 (.lit 2))))]⟩, [167], true, 3, 0, none, []⟩,
 ⟨⟨some 170, false, some (167, true), iCall (.c (.func (.func 8) [] [])) [(.t 168), (.t 169)]⟩, [167, 168, 169], true, 4, 0, none, []⟩,
 ⟨⟨some 171, false, none, iPick (.t 167) (.t 170) (.c (.bool (.lit false)))⟩, [167, 170], false, 5, 5, none, []⟩,
 ⟨⟨some 172, false, none, iMov (.t 171)⟩, [171], false, 5, 5, none, []⟩,
 ⟨⟨some 173, false, some (172, true), iMov (.t 16)⟩, [172, 16], false, 5, 7, none, []⟩,
 ⟨⟨some 174, false, some (172, true), iCall (.c (.func (.func 35) [] [])) [(.c (.int .i64 (.lit 11100))), (.c (.int .i64 (.lit 15200)))]⟩, [172], true, 5, 0, none, []⟩,
 ⟨⟨some 175, false, some (172, true), iBslice 24 [(.int .i64 (.lit 0)), (.int .i64 (.lit 0))] 1 [(0, 2, (.t 174))]⟩, [172, 174], true, 6, 0, none, []⟩,
 ⟨⟨some 176, false, some (172, true), iCall (.c (.func (.func 11) [] [])) [(.t 173), (.t 175)]⟩, [172, 173, 175], true, 7, 0, none, []⟩,
 ⟨⟨some 177, false, none, iPick (.t 172) (.t 176) (.c (.bool (.lit false)))⟩, [172, 176], false, 8, 8, none, []⟩,
 ⟨⟨some 0, true, none, iMov (.t 177)⟩, [177], false, 8, 8, none, []⟩])
 cRet)))))))))))))), [.t 0]⟩
noncomputable def Tryd.kp13 : List Nat := [0, 1, 2, 3, 4, 8]
noncomputable def Tryd.cf13 : CF := ⟨1, (cSeq (cOps [⟨some 1, true, none, iBox 26 (.t 0)⟩,
 ⟨some 2, true, none, iAlloc 42 [.nilslice, (.int .i64 (.lit 0)), (.int .i64 (.lit 0)), (.int .i64 (.lit 0)), (.int .i64 (.lit 0)), (.int .i64 (.lit 0)), .nilmap]⟩,
 ⟨some 3, true, none, iMov (.c (.int .i64 (.lit 0)))⟩])
 (cSeq (cSeq (cOps [⟨some 5, false, none, iLoadN 6 (.t 1)⟩,
 ⟨some 6, false, none, iCall (.c (.func (.func 36) [] [])) [(.t 5)]⟩,
 ⟨some 4, true, none, iMov (.t 6)⟩])
 (cSeq (cOps [⟨some 7, false, none, iMov (.t 4)⟩,
 ⟨some 8, true, none, iCmp .neq (.t 7) (.c (.int .i64 (.lit 0)))⟩])
 (cCond (.t 8) (cSeq (cOps [⟨some 9, false, none, iBuild [.nilslice, (.int .i64 (.lit 0)), (.int .i64 (.lit 0)), (.int .i64 (.lit 0)), (.int .i64 (.lit 0)), (.int .i64 (.lit 0)), .nilmap] []⟩,
 ⟨some 10, false, none, iMov (.t 4)⟩,
 ⟨none, false, none, iStore 7 (.t 2) (.t 9)⟩,
 ⟨some 3, true, none, iMov (.t 10)⟩])
 cRet) cSkip)))
 (cSeq (cOps [⟨some 11, false, none, iLoadN 6 (.t 1)⟩,
 ⟨some 12, false, none, iMkmap⟩,
 ⟨some 13, false, none, iBuild [.nilslice, (.int .i64 (.lit 0)), (.int .i64 (.lit 0)), (.int .i64 (.lit 0)), (.int .i64 (.lit 0)), (.int .i64 (.lit 0)), .nilmap] [(0, 6, (.t 11)), (6, 1, (.t 12))]⟩,
 ⟨none, false, none, iStore 7 (.t 2) (.t 13)⟩,
 ⟨some 3, true, none, iMov (.c (.int .i64 (.lit 0)))⟩])
 cRet))), [.cell 2 true 7, .t 3]⟩
noncomputable def Tryd.kp14 : List Nat := [0, 1, 2, 4, 5, 7, 8, 9, 10, 11, 22]
noncomputable def Tryd.cf14 : CF := ⟨2, (cSeq (cOps [⟨some 2, true, none, iBox 42 (.t 0)⟩,
 ⟨some 4, true, none, iMov (.c (.bool (.lit false)))⟩])
 (cSeq (cOps [⟨some 5, true, none, iAlloc 68 [(.bool (.lit false)), (.bool (.lit false)), (.bool (.lit false)), (.bool (.lit false)), (.bool (.lit false)), (.bool (.lit false))]⟩])
 (cSeq (cSeq (cOps [⟨some 8, true, none, iMov (.t 1)⟩,
 ⟨some 9, true, none, iLenS (.t 8)⟩,
 ⟨some 10, true, none, iMov (.c (.int .i64 (.lit 0)))⟩])
 (cBlock 0 (cLoop (cSeq (cOps [⟨some 11, true, none, iCmp .lss (.t 10) (.t 9)⟩])
 (cSeq (cCond (.t 11) cSkip (cExit 0))
 (cSeq (cBlock 1 (cSeq (cOps [⟨some 12, false, none, iIaddr 1 (.t 8) (.t 10)⟩,
 ⟨some 13, false, none, iLoad (.t 12)⟩,
 ⟨some 7, true, none, iMov (.t 13)⟩])
 (cSeq (cSeq (cOps [⟨some 14, false, none, iLoadN 7 (.t 2)⟩,
 ⟨some 15, false, none, iMov (.t 7)⟩,
 ⟨some 16, false, none, iCall (.c (.func (.func 37) [] [])) [(.t 14), (.t 15)]⟩,
 ⟨some 17, false, none, iNot (.t 16)⟩,
 ⟨some 18, false, none, iMov (.t 17)⟩,
 ⟨some 19, false, some (18, false), iMov (.t 7)⟩,
 ⟨some 20, false, some (18, false), iIaddrA 1 6 (.t 5) (.t 19)⟩,
 ⟨some 21, false, some (18, false), iLoad (.t 20)⟩,
 ⟨some 22, true, none, iPick (.t 18) (.c (.bool (.lit true))) (.t 21)⟩])
 (cCond (.t 22) (cSeq (cOps [⟨some 4, true, none, iMov (.c (.bool (.lit false)))⟩])
 cRet) cSkip))
 (cOps [⟨some 23, false, none, iMov (.t 7)⟩,
 ⟨some 24, false, none, iIaddrA 1 6 (.t 5) (.t 23)⟩,
 ⟨none, false, none, iStore 1 (.t 24) (.c (.bool (.lit true)))⟩]))))
 (cOps [⟨some 25, false, none, iArith .add (.t 10) (.c (.int .i64 (.lit 1)))⟩,
 ⟨some 10, true, none, iMov (.t 25)⟩])))))))
 (cSeq (cOps [⟨some 4, true, none, iMov (.c (.bool (.lit true)))⟩])
 cRet)))), [.t 4]⟩
noncomputable def Tryd.kp15 : List Nat := [0, 2]
noncomputable def Tryd.cf15 : CF := ⟨1, (cSeq (cOps [⟨some 2, true, none, iMov (.c (.bool (.lit false)))⟩])
 (cSeq (cOps [⟨some 3, false, none, iMov (.t 0)⟩,
 ⟨some 4, false, none, iCmp .geq (.t 3) (.c (.int .i64 (.lit 0)))⟩,
 ⟨some 5, false, none, iMov (.t 4)⟩,
 ⟨some 6, false, some (5, true), iMov (.t 0)⟩,
 ⟨some 7, false, some (5, true), iCmp .leq (.t 6) (.c (.int .i64 (.lit 999)))⟩,
 ⟨some 8, false, none, iPick (.t 5) (.t 7) (.c (.bool (.lit false)))⟩,
 ⟨some 2, true, none, iMov (.t 8)⟩])
 cRet)), [.t 2]⟩
noncomputable def Tryd.kp16 : List Nat := [0, 1, 2, 3, 4, 5, 6]
noncomputable def Tryd.cf16 : CF := ⟨3, (cSeq (cOps [⟨some 3, true, none, iBox 42 (.t 0)⟩,
 ⟨some 4, true, none, iBox 27 (.t 1)⟩,
 ⟨some 5, true, none, iBox 3 (.t 2)⟩,
 ⟨some 6, true, none, iAlloc 24 [(.int .i64 (.lit 0)), (.int .i64 (.lit 0))]⟩])
 (cSeq (cOps [⟨some 7, false, none, iFunc (.func 39) [] [(.t 4), (.t 3), (.t 5)]⟩,
 ⟨some 8, false, none, iCall (.c (.func (.func 38) [] [])) [(.t 7)]⟩,
 ⟨none, false, none, iStore 2 (.t 6) (.t 8)⟩])
 cRet)), [.cell 6 true 2]⟩
noncomputable def Tryd.kp17 : List Nat := [0, 1, 2, 4, 5, 9, 12]
noncomputable def Tryd.cf17 : CF := ⟨2, (cSeq (cOps [⟨some 2, true, none, iBox 26 (.t 0)⟩,
 ⟨some 4, true, none, iMov (.c (.int .i64 (.lit 0)))⟩])
 (cSeq (cSeq (cOps [⟨some 6, false, none, iLoadN 6 (.t 2)⟩,
 ⟨some 7, false, none, iCall (.c (.func (.func 42) [] [])) [(.t 6)]⟩,
 ⟨some 5, true, none, iMov (.t 7)⟩])
 (cSeq (cOps [⟨some 8, false, none, iMov (.t 5)⟩,
 ⟨some 9, true, none, iCmp .neq (.t 8) (.c (.int .i64 (.lit 0)))⟩])
 (cCond (.t 9) (cSeq (cOps [⟨some 10, false, none, iMov (.t 5)⟩,
 ⟨some 4, true, none, iMov (.t 10)⟩])
 cRet) cSkip)))
 (cSeq (cSeq (cOps [⟨some 11, false, none, iMov (.t 1)⟩,
 ⟨some 12, true, none, iNot (.t 11)⟩])
 (cCond (.t 12) (cSeq (cOps [⟨some 4, true, none, iMov (.c (.int .i64 (.lit 11)))⟩])
 cRet) cSkip))
 (cSeq (cOps [⟨some 4, true, none, iMov (.c (.int .i64 (.lit 0)))⟩])
 cRet)))), [.t 4]⟩
noncomputable def Tryd.kp18 : List Nat := [0, 1, 2, 4, 5, 9, 31]
noncomputable def Tryd.cf18 : CF := ⟨2, (cSeq (cOps [⟨some 2, true, none, iBox 26 (.t 0)⟩,
 ⟨some 4, true, none, iMov (.c (.bool (.lit false)))⟩])
 (cSeq (cSeq (cOps [⟨some 5, true, none, iMov (.c (.int .i64 (.lit 0)))⟩])
 (cBlock 0 (cLoop (cSeq (cSeq (cOps [⟨some 6, false, none, iMov (.t 5)⟩,
 ⟨some 7, false, none, iMov (.t 1)⟩,
 ⟨some 8, false, none, iLenS (.t 7)⟩,
 ⟨some 9, true, none, iCmp .lss (.t 6) (.t 8)⟩])
 (cCond (.t 9) cSkip (cExit 0)))
 (cSeq (cBlock 1 (cSeq (dOps 0 [⟨⟨some 12, false, none, iMov (.t 1)⟩, [1], false, 0, 0, none, []⟩,
 ⟨⟨some 13, false, none, iMov (.t 5)⟩, [5], false, 0, 0, none, []⟩,
 ⟨⟨some 14, false, none, iIaddr 1 (.t 12) (.t 13)⟩, [12, 13], false, 0, 0, none, []⟩,
 ⟨⟨some 15, false, none, iLoad (.t 14)⟩, [14], false, 0, 0, none, []⟩,
 ⟨⟨some 16, false, none, iFaddr 0 (.t 2)⟩, [2], false, 0, 0, none, []⟩,
 ⟨⟨some 17, false, none, iLoad (.t 16)⟩, [16], false, 0, 0, none, []⟩,
 ⟨⟨some 18, false, none, iLenS (.t 17)⟩, [17], false, 0, 0, none, []⟩,
 ⟨⟨some 19, false, none, iArith .sub (.t 18) (.c (.int .i64 (.lit 1)))⟩, [18], false, 0, 0, none, []⟩,
 ⟨⟨some 20, false, none, iCall (.c (.func (.func 19) [] [])) [(.t 15), (.c (.int .i64 (.lit 0))), (.t 19)]⟩, [15, 19], true, 0, 0, none, []⟩,
 ⟨⟨some 21, false, none, iNot (.t 20)⟩, [20], false, 1, 1, none, []⟩,
 ⟨⟨some 22, false, none, iMov (.t 21)⟩, [21], false, 1, 1, none, []⟩,
 ⟨⟨some 23, false, some (22, false), iMov (.t 1)⟩, [22, 1], false, 1, 1, none, []⟩,
 ⟨⟨some 24, false, some (22, false), iMov (.t 1)⟩, [22, 1], false, 1, 1, none, []⟩,
 ⟨⟨some 25, false, some (22, false), iMov (.t 5)⟩, [22, 5], false, 1, 1, none, []⟩,
 ⟨⟨some 26, false, some (22, false), iIaddr 1 (.t 24) (.t 25)⟩, [22, 24, 25], false, 1, 1, none, []⟩,
 ⟨⟨some 27, false, some (22, false), iLoad (.t 26)⟩, [22, 26], false, 1, 1, none, []⟩,
 ⟨⟨some 28, false, some (22, false), iCall (.c (.func (.func 43) [] [])) [(.t 23), (.t 27)]⟩, [22, 23, 27], true, 1, 0, none, []⟩,
 ⟨⟨some 29, false, some (22, false), iMov (.t 5)⟩, [22, 5], false, 1, 2, none, []⟩,
 ⟨⟨some 30, false, some (22, false), iCmp .neq (.t 28) (.t 29)⟩, [22, 28, 29], false, 2, 2, none, []⟩,
 ⟨⟨some 31, true, none, iPick (.t 22) (.c (.bool (.lit true))) (.t 30)⟩, [22, 30], false, 2, 2, none, []⟩])
 (cCond (.t 31) (cSeq (cOps [⟨some 4, true, none, iMov (.c (.bool (.lit false)))⟩])
 cRet) cSkip)))
 (cOps [⟨some 10, false, none, iMov (.t 5)⟩,
 ⟨some 11, false, none, iArith .add (.t 10) (.c (.int .i64 (.lit 1)))⟩,
 ⟨some 5, true, none, iMov (.t 11)⟩]))))))
 (cSeq (cOps [⟨some 4, true, none, iMov (.c (.bool (.lit true)))⟩])
 cRet))), [.t 4]⟩
noncomputable def Tryd.kp19 : List Nat := [0, 1, 2, 6]
noncomputable def Tryd.cf19 : CF := ⟨3, (cSeq (cOps [⟨some 6, true, none, iMov (.c (.bool (.lit false)))⟩])
 (cSeq (cOps [⟨some 7, false, none, iMov (.t 0)⟩,
 ⟨some 8, false, none, iMov (.t 1)⟩,
 ⟨some 9, false, none, iCmp .geq (.t 7) (.t 8)⟩,
 ⟨some 10, false, none, iMov (.t 9)⟩,
 ⟨some 11, false, some (10, true), iMov (.t 0)⟩,
 ⟨some 12, false, some (10, true), iMov (.t 2)⟩,
 ⟨some 13, false, some (10, true), iCmp .leq (.t 11) (.t 12)⟩,
 ⟨some 14, false, none, iPick (.t 10) (.t 13) (.c (.bool (.lit false)))⟩,
 ⟨some 6, true, none, iMov (.t 14)⟩])
 cRet)), [.t 6]⟩
noncomputable def Tryd.kp20 : List Nat := [0, 1, 2, 3, 6, 7, 8, 9, 14]
noncomputable def Tryd.cf20 : CF := ⟨3, (cSeq (cOps [⟨some 3, true, none, iBox 26 (.t 0)⟩,
 ⟨some 6, true, none, iAlloc 24 [(.int .i64 (.lit 0)), (.int .i64 (.lit 0))]⟩])
 (cSeq (cOps [⟨some 10, false, none, iCall (.c (.func (.func 35) [] [])) [(.c (.int .i64 (.lit 0))), (.c (.int .i64 (.lit 0)))]⟩,
 ⟨some 7, true, none, iAlloc 24 [(.int .i64 (.lit 0)), (.int .i64 (.lit 0))]⟩,
 ⟨none, false, none, iStore 2 (.t 7) (.t 10)⟩])
 (cSeq (cSeq (cOps [⟨some 8, true, none, iMov (.c (.int .i64 (.lit 0)))⟩])
 (cBlock 0 (cLoop (cSeq (cSeq (cOps [⟨some 11, false, none, iMov (.t 8)⟩,
 ⟨some 12, false, none, iMov (.t 1)⟩,
 ⟨some 13, false, none, iLenS (.t 12)⟩,
 ⟨some 14, true, none, iCmp .lss (.t 11) (.t 13)⟩])
 (cCond (.t 14) cSkip (cExit 0)))
 (cSeq (cBlock 1 (cSeq (dOps 1 [⟨⟨some 17, false, none, iLoadN 6 (.t 3)⟩, [3], false, 0, 0, none, []⟩,
 ⟨⟨some 18, false, none, iMov (.t 1)⟩, [1], false, 0, 0, none, []⟩,
 ⟨⟨some 19, false, none, iMov (.t 8)⟩, [8], false, 0, 0, none, []⟩,
 ⟨⟨some 20, false, none, iIaddr 1 (.t 18) (.t 19)⟩, [18, 19], false, 0, 0, none, []⟩,
 ⟨⟨some 21, false, none, iLoad (.t 20)⟩, [20], false, 0, 0, none, []⟩,
 ⟨⟨some 22, false, none, iMov (.t 2)⟩, [2], false, 0, 0, none, []⟩,
 ⟨⟨some 23, false, none, iCall (.c (.func (.func 23) [] [])) [(.t 17), (.t 21), (.t 22)]⟩, [17, 21, 22], true, 0, 0, none, []⟩,
 ⟨⟨some 9, true, none, iAlloc 24 [(.int .i64 (.lit 0)), (.int .i64 (.lit 0))]⟩, [], false, 0, 2, (some (flAlloc [(.int .i64 (.lit 0)), (.int .i64 (.lit 0))], .ptr, 0)), []⟩,
 ⟨⟨none, false, none, iStore 2 (.t 9) (.t 23)⟩, [9, 23], true, 1, 0, none, [0]⟩])
 (cOps [⟨some 24, false, none, iFaddr 0 (.t 7)⟩,
 ⟨some 25, false, none, iLoad (.t 24)⟩,
 ⟨some 26, false, none, iFaddr 0 (.t 9)⟩,
 ⟨some 27, false, none, iLoad (.t 26)⟩,
 ⟨some 28, false, none, iFaddr 1 (.t 3)⟩,
 ⟨some 29, false, none, iFaddr 0 (.t 28)⟩,
 ⟨some 30, false, none, iLoad (.t 29)⟩,
 ⟨some 31, false, none, iArith .mul (.t 27) (.t 30)⟩,
 ⟨some 32, false, none, iArith .add (.t 25) (.t 31)⟩,
 ⟨some 33, false, none, iFaddr 1 (.t 7)⟩,
 ⟨some 34, false, none, iLoad (.t 33)⟩,
 ⟨some 35, false, none, iFaddr 1 (.t 9)⟩,
 ⟨some 36, false, none, iLoad (.t 35)⟩,
 ⟨some 37, false, none, iFaddr 1 (.t 3)⟩,
 ⟨some 38, false, none, iFaddr 1 (.t 37)⟩,
 ⟨some 39, false, none, iLoad (.t 38)⟩,
 ⟨some 40, false, none, iArith .mul (.t 36) (.t 39)⟩,
 ⟨some 41, false, none, iArith .add (.t 34) (.t 40)⟩,
 ⟨some 42, false, none, iCall (.c (.func (.func 35) [] [])) [(.t 32), (.t 41)]⟩,
 ⟨none, false, none, iStore 2 (.t 7) (.t 42)⟩])))
 (cOps [⟨some 15, false, none, iMov (.t 8)⟩,
 ⟨some 16, false, none, iArith .add (.t 15) (.c (.int .i64 (.lit 1)))⟩,
 ⟨some 8, true, none, iMov (.t 16)⟩]))))))
 (cSeq (cOps [⟨some 43, false, none, iLoadN 2 (.t 7)⟩,
 ⟨none, false, none, iStore 2 (.t 6) (.t 43)⟩])
 cRet)))), [.cell 6 true 2]⟩
noncomputable def Tryd.kp21 : List Nat := [0, 1, 2, 4]
noncomputable def Tryd.cf21 : CF := ⟨2, (cSeq (cOps [⟨some 2, true, none, iBox 42 (.t 0)⟩,
 ⟨some 4, true, none, iMov (.c (.bool (.lit false)))⟩])
 (cSeq (cOps [⟨some 5, false, none, iMov (.t 1)⟩,
 ⟨some 6, false, none, iLenS (.t 5)⟩,
 ⟨some 7, false, none, iCmp .gtr (.t 6) (.c (.int .i64 (.lit 0)))⟩,
 ⟨some 8, false, none, iMov (.t 7)⟩,
 ⟨some 9, false, some (8, true), iLoadN 7 (.t 2)⟩,
 ⟨some 10, false, some (8, true), iMov (.t 1)⟩,
 ⟨some 11, false, some (8, true), iCall (.c (.func (.func 14) [] [])) [(.t 9), (.t 10)]⟩,
 ⟨some 12, false, none, iPick (.t 8) (.t 11) (.c (.bool (.lit false)))⟩,
 ⟨some 4, true, none, iMov (.t 12)⟩])
 cRet)), [.t 4]⟩
noncomputable def Tryd.kp22 : List Nat := [0, 1, 2, 3, 6, 7, 8, 9, 10, 11, 12, 13, 14, 15, 16, 29, 36]
noncomputable def Tryd.cf22 : CF := ⟨3, (cSeq (cOps [⟨some 3, true, none, iBox 42 (.t 0)⟩,
 ⟨some 6, true, none, iMov (.c .nilslice)⟩,
 ⟨some 7, true, none, iMov (.c (.int .i64 (.lit 0)))⟩])
 (cSeq (cOps [⟨some 8, true, none, iMov (.c .nilslice)⟩])
 (cSeq (cOps [⟨some 9, true, none, iMov (.c (.int .i64 (.lit 0)))⟩])
 (cSeq (cSeq (cOps [⟨some 13, true, none, iMov (.t 1)⟩,
 ⟨some 14, true, none, iLenS (.t 13)⟩,
 ⟨some 15, true, none, iMov (.c (.int .i64 (.lit 0)))⟩])
 (cBlock 0 (cLoop (cSeq (cOps [⟨some 16, true, none, iCmp .lss (.t 15) (.t 14)⟩])
 (cSeq (cCond (.t 16) cSkip (cExit 0))
 (cSeq (cBlock 1 (cSeq (cOps [⟨some 17, false, none, iMov (.t 15)⟩,
 ⟨some 18, false, none, iIaddr 1 (.t 13) (.t 15)⟩,
 ⟨some 19, false, none, iLoad (.t 18)⟩,
 ⟨some 10, true, none, iMov (.t 17)⟩,
 ⟨some 11, true, none, iMov (.t 19)⟩])
 (cSeq (cOps [⟨some 20, false, none, iLoadN 7 (.t 3)⟩,
 ⟨some 21, false, none, iMov (.t 11)⟩,
 ⟨some 22, false, none, iMov (.t 2)⟩,
 ⟨some 23, false, none, iCall (.c (.func (.func 44) [] [])) [(.t 20), (.t 21), (.t 22)]⟩,
 ⟨some 24, false, none, iField false 1 1 (.t 23)⟩,
 ⟨some 12, true, none, iMov (.t 24)⟩])
 (cSeq (cSeq (cOps [⟨some 25, false, none, iMov (.t 12)⟩,
 ⟨some 26, false, none, iFaddr 0 (.t 3)⟩,
 ⟨some 27, false, none, iFaddr 5 (.t 26)⟩,
 ⟨some 28, false, none, iLoad (.t 27)⟩,
 ⟨some 29, true, none, iCmp .gtr (.t 25) (.t 28)⟩])
 (cCond (.t 29) (cSeq (cOps [⟨some 6, true, none, iMov (.c .nilslice)⟩,
 ⟨some 7, true, none, iMov (.c (.int .i64 (.lit 4)))⟩])
 cRet) cSkip))
 (cSeq (cSeq (cOps [⟨some 30, false, none, iMov (.t 10)⟩,
 ⟨some 31, false, none, iCmp .eql (.t 30) (.c (.int .i64 (.lit 0)))⟩,
 ⟨some 32, false, none, iMov (.t 31)⟩,
 ⟨some 33, false, some (32, false), iMov (.t 12)⟩,
 ⟨some 34, false, some (32, false), iMov (.t 9)⟩,
 ⟨some 35, false, some (32, false), iCmp .gtr (.t 33) (.t 34)⟩,
 ⟨some 36, true, none, iPick (.t 32) (.c (.bool (.lit true))) (.t 35)⟩])
 (cCond (.t 36) (cSeq (cOps [⟨some 37, false, none, iMov (.t 8)⟩,
 ⟨some 38, false, none, iBslice 3 [(.int .i64 (.lit 0))] 1 [(0, 1, (.c (.int .i64 (.lit 0))))]⟩,
 ⟨some 39, false, none, iAppend 3 1 8 (.t 37) (.t 38)⟩,
 ⟨some 8, true, none, iMov (.t 39)⟩])
 (cOps [⟨some 40, false, none, iFaddr 0 (.t 3)⟩,
 ⟨some 41, false, none, iFaddr 5 (.t 40)⟩,
 ⟨some 42, false, none, iLoad (.t 41)⟩,
 ⟨some 9, true, none, iMov (.t 42)⟩])) cSkip))
 (cSeq (cOps [⟨some 43, false, none, iMov (.t 8)⟩,
 ⟨some 44, false, none, iMov (.t 8)⟩,
 ⟨some 45, false, none, iLenS (.t 44)⟩,
 ⟨some 46, false, none, iArith .sub (.t 45) (.c (.int .i64 (.lit 1)))⟩,
 ⟨some 47, false, none, iIaddr 1 (.t 43) (.t 46)⟩,
 ⟨some 48, false, none, iLoad (.t 47)⟩,
 ⟨some 49, false, none, iArith .add (.t 48) (.c (.int .i64 (.lit 1)))⟩,
 ⟨some 50, false, none, iIaddr 1 (.t 43) (.t 46)⟩,
 ⟨none, false, none, iStore 1 (.t 50) (.t 49)⟩])
 (cOps [⟨some 51, false, none, iMov (.t 9)⟩,
 ⟨some 52, false, none, iMov (.t 12)⟩,
 ⟨some 53, false, none, iArith .sub (.t 51) (.t 52)⟩,
 ⟨some 9, true, none, iMov (.t 53)⟩])))))))
 (cOps [⟨some 54, false, none, iArith .add (.t 15) (.c (.int .i64 (.lit 1)))⟩,
 ⟨some 15, true, none, iMov (.t 54)⟩])))))))
 (cSeq (cOps [⟨some 55, false, none, iMov (.t 8)⟩,
 ⟨some 6, true, none, iMov (.t 55)⟩,
 ⟨some 7, true, none, iMov (.c (.int .i64 (.lit 0)))⟩])
 cRet))))), [.t 6, .t 7]⟩
noncomputable def Tryd.kp23 : List Nat := [0, 1, 2, 3, 6, 7]
noncomputable def Tryd.cf23 : CF := ⟨3, (cSeq (cOps [⟨some 3, true, none, iBox 26 (.t 0)⟩,
 ⟨some 6, true, none, iAlloc 24 [(.int .i64 (.lit 0)), (.int .i64 (.lit 0))]⟩])
 (cSeq (cOps [⟨some 8, false, none, iFaddr 0 (.t 3)⟩,
 ⟨some 9, false, none, iLoad (.t 8)⟩,
 ⟨some 10, false, none, iMov (.t 1)⟩,
 ⟨some 11, false, none, iIaddr 6 (.t 9) (.t 10)⟩,
 ⟨some 12, false, none, iFaddr 4 (.t 11)⟩,
 ⟨some 13, false, none, iLoadN 2 (.t 12)⟩,
 ⟨some 7, true, none, iAlloc 24 [(.int .i64 (.lit 0)), (.int .i64 (.lit 0))]⟩,
 ⟨none, false, none, iStore 2 (.t 7) (.t 13)⟩])
 (cSeq (cOps [⟨some 14, false, none, iFaddr 0 (.t 7)⟩,
 ⟨some 15, false, none, iLoad (.t 14)⟩,
 ⟨some 16, false, none, iMov (.t 2)⟩,
 ⟨some 17, false, none, iFaddr 3 (.t 3)⟩,
 ⟨some 18, false, none, iFaddr 1 (.t 17)⟩,
 ⟨some 19, false, none, iLoad (.t 18)⟩,
 ⟨some 20, false, none, iArith .mul (.t 16) (.t 19)⟩,
 ⟨some 21, false, none, iArith .sub (.t 15) (.t 20)⟩,
 ⟨some 22, false, none, iMax [(.c (.int .i64 (.lit 0))), (.t 21)]⟩,
 ⟨some 23, false, none, iFaddr 1 (.t 7)⟩,
 ⟨some 24, false, none, iLoad (.t 23)⟩,
 ⟨some 25, false, none, iMov (.t 2)⟩,
 ⟨some 26, false, none, iFaddr 3 (.t 3)⟩,
 ⟨some 27, false, none, iFaddr 0 (.t 26)⟩,
 ⟨some 28, false, none, iLoad (.t 27)⟩,
 ⟨some 29, false, none, iArith .mul (.t 25) (.t 28)⟩,
 ⟨some 30, false, none, iArith .sub (.t 24) (.t 29)⟩,
 ⟨some 31, false, none, iMax [(.c (.int .i64 (.lit 0))), (.t 30)]⟩,
 ⟨some 32, false, none, iCall (.c (.func (.func 35) [] [])) [(.t 22), (.t 31)]⟩,
 ⟨none, false, none, iStore 2 (.t 6) (.t 32)⟩])
 cRet))), [.cell 6 true 2]⟩
noncomputable def Tryd.kp24 : List Nat := [0, 1, 2, 3, 4, 8, 9, 10, 12, 17, 18, 19, 20]
noncomputable def Tryd.cf24 : CF := ⟨4, (cSeq (cOps [⟨some 4, true, none, iBox 42 (.t 0)⟩,
 ⟨some 8, true, none, iMov (.c .nilslice)⟩])
 (cSeq (cOps [⟨some 9, true, none, iMov (.c .nilslice)⟩])
 (cSeq (cOps [⟨some 10, true, none, iMov (.c (.int .i64 (.lit 0)))⟩])
 (cSeq (cSeq (cOps [⟨some 13, false, none, iMov (.t 2)⟩,
 ⟨some 14, false, none, iMov (.t 2)⟩,
 ⟨some 15, false, none, iLenS (.t 14)⟩,
 ⟨some 16, false, none, iArith .sub (.t 15) (.c (.int .i64 (.lit 1)))⟩,
 ⟨some 17, true, none, iSlice 1 (.t 13) none (some (.t 16)) none⟩,
 ⟨some 18, true, none, iLenS (.t 17)⟩,
 ⟨some 19, true, none, iMov (.c (.int .i64 (.lit 0)))⟩])
 (cBlock 0 (cLoop (cSeq (cOps [⟨some 20, true, none, iCmp .lss (.t 19) (.t 18)⟩])
 (cSeq (cCond (.t 20) cSkip (cExit 0))
 (cSeq (cBlock 1 (cSeq (cOps [⟨some 21, false, none, iIaddr 1 (.t 17) (.t 19)⟩,
 ⟨some 22, false, none, iLoad (.t 21)⟩,
 ⟨some 12, true, none, iMov (.t 22)⟩])
 (cSeq (cOps [⟨some 23, false, none, iMov (.t 10)⟩,
 ⟨some 24, false, none, iMov (.t 12)⟩,
 ⟨some 25, false, none, iArith .add (.t 23) (.t 24)⟩,
 ⟨some 10, true, none, iMov (.t 25)⟩])
 (dOps 0 [⟨⟨some 26, false, none, iMov (.t 9)⟩, [9], false, 0, 2, none, []⟩,
 ⟨⟨some 27, false, none, iLoadN 7 (.t 4)⟩, [4], false, 0, 0, none, []⟩,
 ⟨⟨some 28, false, none, iMov (.t 1)⟩, [1], false, 0, 0, none, []⟩,
 ⟨⟨some 29, false, none, iMov (.t 10)⟩, [10], false, 0, 0, none, []⟩,
 ⟨⟨some 30, false, none, iMov (.t 10)⟩, [10], false, 0, 0, none, []⟩,
 ⟨⟨some 31, false, none, iSlice 1 (.t 28) none (some (.t 29)) (some (.t 30))⟩, [28, 29, 30], false, 0, 0, none, []⟩,
 ⟨⟨some 32, false, none, iMov (.t 3)⟩, [3], false, 0, 0, none, []⟩,
 ⟨⟨some 33, false, none, iCall (.c (.func (.func 16) [] [])) [(.t 27), (.t 31), (.t 32)]⟩, [27, 31, 32], true, 0, 0, none, []⟩,
 ⟨⟨some 34, false, none, iBslice 24 [(.int .i64 (.lit 0)), (.int .i64 (.lit 0))] 1 [(0, 2, (.t 33))]⟩, [33], true, 1, 0, none, []⟩,
 ⟨⟨some 35, false, none, iAppend 24 2 16 (.t 26) (.t 34)⟩, [26, 34], true, 2, 0, none, []⟩,
 ⟨⟨some 9, true, none, iMov (.t 35)⟩, [35], false, 3, 3, none, []⟩]))))
 (cOps [⟨some 36, false, none, iArith .add (.t 19) (.c (.int .i64 (.lit 1)))⟩,
 ⟨some 19, true, none, iMov (.t 36)⟩])))))))
 (cSeq (cOps [⟨some 37, false, none, iMov (.t 9)⟩,
 ⟨some 8, true, none, iMov (.t 37)⟩])
 cRet))))), [.t 8]⟩
noncomputable def Tryd.kp25 : List Nat := [0, 1, 2, 4, 5, 6, 7, 14, 19]
noncomputable def Tryd.cf25 : CF := ⟨2, (cSeq (cOps [⟨some 2, true, none, iBox 26 (.t 0)⟩,
 ⟨some 4, true, none, iMov (.c (.bool (.lit false)))⟩,
 ⟨some 5, true, none, iMov (.c (.int .i64 (.lit 0)))⟩])
 (cSeq (cOps [⟨some 9, false, none, iLoadN 6 (.t 2)⟩,
 ⟨some 10, false, none, iCall (.c (.func (.func 13) [] [])) [(.t 9)]⟩,
 ⟨some 8, false, none, iMov (.t 10)⟩,
 ⟨some 11, false, none, iExtract 0 (.t 8)⟩,
 ⟨some 12, false, none, iExtract 1 (.t 8)⟩,
 ⟨some 6, true, none, iAlloc 42 [.nilslice, (.int .i64 (.lit 0)), (.int .i64 (.lit 0)), (.int .i64 (.lit 0)), (.int .i64 (.lit 0)), (.int .i64 (.lit 0)), .nilmap]⟩,
 ⟨none, false, none, iStore 7 (.t 6) (.t 11)⟩,
 ⟨some 7, true, none, iMov (.t 12)⟩])
 (cSeq (cSeq (cOps [⟨some 13, false, none, iMov (.t 7)⟩,
 ⟨some 14, true, none, iCmp .neq (.t 13) (.c (.int .i64 (.lit 0)))⟩])
 (cCond (.t 14) (cSeq (cOps [⟨some 15, false, none, iMov (.t 7)⟩,
 ⟨some 4, true, none, iMov (.c (.bool (.lit false)))⟩,
 ⟨some 5, true, none, iMov (.t 15)⟩])
 cRet) cSkip))
 (cSeq (cSeq (cOps [⟨some 16, false, none, iLoadN 7 (.t 6)⟩,
 ⟨some 17, false, none, iMov (.t 1)⟩,
 ⟨some 18, false, none, iCall (.c (.func (.func 21) [] [])) [(.t 16), (.t 17)]⟩,
 ⟨some 19, true, none, iNot (.t 18)⟩])
 (cCond (.t 19) (cSeq (cOps [⟨some 4, true, none, iMov (.c (.bool (.lit false)))⟩,
 ⟨some 5, true, none, iMov (.c (.int .i64 (.lit 11)))⟩])
 cRet) cSkip))
 (cSeq (cOps [⟨some 20, false, none, iLoadN 7 (.t 6)⟩,
 ⟨some 21, false, none, iMov (.t 1)⟩,
 ⟨some 22, false, none, iCall (.c (.func (.func 45) [] [])) [(.t 20), (.t 21)]⟩,
 ⟨some 4, true, none, iMov (.t 22)⟩,
 ⟨some 5, true, none, iMov (.c (.int .i64 (.lit 0)))⟩])
 cRet))))), [.t 4, .t 5]⟩
noncomputable def Tryd.kp26 : List Nat := [0]
noncomputable def Tryd.cf26 : CF := ⟨0, (cSeq (cOps [⟨some 0, true, none, iAlloc 26 [.nilslice, (.int .i64 (.lit 0)), (.int .i64 (.lit 0)), (.int .i64 (.lit 0)), (.int .i64 (.lit 0)), (.int .i64 (.lit 0))]⟩])
 (cSeq (cOps [⟨some 1, false, none, iCall (.c (.func (.func 35) [] [])) [(.c (.int .i64 (.lit 10))), (.c (.int .i64 (.lit 12)))]⟩,
 ⟨some 2, false, none, iCall (.c (.func (.func 35) [] [])) [(.c (.int .i64 (.lit 20))), (.c (.int .i64 (.lit 20)))]⟩,
 ⟨some 3, false, none, iCall (.c (.func (.func 35) [] [])) [(.c (.int .i64 (.lit 900))), (.c (.int .i64 (.lit 900)))]⟩,
 ⟨some 4, false, none, iBuild [(.int .i64 (.lit 0)), (.int .i64 (.lit 0)), (.int .i64 (.lit 0)), (.int .i64 (.lit 0)), (.int .i64 (.lit 0)), (.int .i64 (.lit 0))] [(0, 2, (.t 1)), (2, 2, (.t 2)), (4, 2, (.t 3))]⟩,
 ⟨some 5, false, none, iCall (.c (.func (.func 35) [] [])) [(.c (.int .i64 (.lit 1))), (.c (.int .i64 (.lit 1)))]⟩,
 ⟨some 6, false, none, iCall (.c (.func (.func 35) [] [])) [(.c (.int .i64 (.lit 9))), (.c (.int .i64 (.lit 11)))]⟩,
 ⟨some 7, false, none, iCall (.c (.func (.func 35) [] [])) [(.c (.int .i64 (.lit 950))), (.c (.int .i64 (.lit 1000)))]⟩,
 ⟨some 8, false, none, iBuild [(.int .i64 (.lit 0)), (.int .i64 (.lit 0)), (.int .i64 (.lit 0)), (.int .i64 (.lit 0)), (.int .i64 (.lit 0)), (.int .i64 (.lit 0))] [(0, 2, (.t 5)), (2, 2, (.t 6)), (4, 2, (.t 7))]⟩,
 ⟨some 9, false, none, iCall (.c (.func (.func 35) [] [])) [(.c (.int .i64 (.lit 20))), (.c (.int .i64 (.lit 22)))]⟩,
 ⟨some 10, false, none, iCall (.c (.func (.func 35) [] [])) [(.c (.int .i64 (.lit 20))), (.c (.int .i64 (.lit 30)))]⟩,
 ⟨some 11, false, none, iCall (.c (.func (.func 35) [] [])) [(.c (.int .i64 (.lit 800))), (.c (.int .i64 (.lit 820)))]⟩,
 ⟨some 12, false, none, iBuild [(.int .i64 (.lit 0)), (.int .i64 (.lit 0)), (.int .i64 (.lit 0)), (.int .i64 (.lit 0)), (.int .i64 (.lit 0)), (.int .i64 (.lit 0))] [(0, 2, (.t 9)), (2, 2, (.t 10)), (4, 2, (.t 11))]⟩,
 ⟨some 13, false, none, iCall (.c (.func (.func 35) [] [])) [(.c (.int .i64 (.lit 20))), (.c (.int .i64 (.lit 31)))]⟩,
 ⟨some 14, false, none, iCall (.c (.func (.func 35) [] [])) [(.c (.int .i64 (.lit 20))), (.c (.int .i64 (.lit 40)))]⟩,
 ⟨some 15, false, none, iCall (.c (.func (.func 35) [] [])) [(.c (.int .i64 (.lit 700))), (.c (.int .i64 (.lit 700)))]⟩,
 ⟨some 16, false, none, iBuild [(.int .i64 (.lit 0)), (.int .i64 (.lit 0)), (.int .i64 (.lit 0)), (.int .i64 (.lit 0)), (.int .i64 (.lit 0)), (.int .i64 (.lit 0))] [(0, 2, (.t 13)), (2, 2, (.t 14)), (4, 2, (.t 15))]⟩,
 ⟨some 17, false, none, iBslice 79 [(.int .i64 (.lit 0)), (.int .i64 (.lit 0)), (.int .i64 (.lit 0)), (.int .i64 (.lit 0)), (.int .i64 (.lit 0)), (.int .i64 (.lit 0))] 4 [(0, 6, (.t 4)), (6, 6, (.t 8)), (12, 6, (.t 12)), (18, 6, (.t 16))]⟩,
 ⟨some 18, false, none, iCall (.c (.func (.func 35) [] [])) [(.c (.int .i64 (.lit 6))), (.c (.int .i64 (.lit 8)))]⟩,
 ⟨some 19, false, none, iCall (.c (.func (.func 35) [] [])) [(.c (.int .i64 (.lit 1))), (.c (.int .i64 (.lit 3)))]⟩,
 ⟨some 20, false, none, iBuild [.nilslice, (.int .i64 (.lit 0)), (.int .i64 (.lit 0)), (.int .i64 (.lit 0)), (.int .i64 (.lit 0)), (.int .i64 (.lit 0))] [(0, 1, (.t 17)), (1, 2, (.t 18)), (3, 2, (.t 19)), (5, 1, (.c (.int .i64 (.lit 2000))))]⟩,
 ⟨none, false, none, iStore 6 (.t 0) (.t 20)⟩])
 cRet)), [.cell 0 true 6]⟩
noncomputable def Tryd.ra27017 : C := cSkip
noncomputable def Tryd.rb27017 : C := (cBlock 1 (cOps [⟨some 18, false, none, iLoad (.t 6)⟩,
 ⟨some 19, false, none, iArith .add (.t 18) (.c (.int .i64 (.lit 1)))⟩,
 ⟨none, false, none, iStore 1 (.t 6) (.t 19)⟩]))
noncomputable def Tryd.kp27 : List Nat := [0, 1, 2, 3, 4, 5, 6, 13, 16, 17]
noncomputable def Tryd.cf27 : CF := ⟨1, (cSeq (cOps [⟨some 1, true, none, iBox 26 (.t 0)⟩,
 ⟨some 2, true, none, iMov (.c (.int .i64 (.lit 0)))⟩,
 ⟨some 3, true, none, iMov (.c (.int .i64 (.lit 0)))⟩])
 (cSeq (cOps [⟨some 8, false, none, iLoadN 6 (.t 1)⟩,
 ⟨some 9, false, none, iCall (.c (.func (.func 13) [] [])) [(.t 8)]⟩,
 ⟨some 7, false, none, iMov (.t 9)⟩,
 ⟨some 10, false, none, iExtract 0 (.t 7)⟩,
 ⟨some 11, false, none, iExtract 1 (.t 7)⟩,
 ⟨some 4, true, none, iAlloc 42 [.nilslice, (.int .i64 (.lit 0)), (.int .i64 (.lit 0)), (.int .i64 (.lit 0)), (.int .i64 (.lit 0)), (.int .i64 (.lit 0)), .nilmap]⟩,
 ⟨none, false, none, iStore 7 (.t 4) (.t 10)⟩,
 ⟨some 5, true, none, iMov (.t 11)⟩])
 (cSeq (cSeq (cOps [⟨some 12, false, none, iMov (.t 5)⟩,
 ⟨some 13, true, none, iCmp .neq (.t 12) (.c (.int .i64 (.lit 0)))⟩])
 (cCond (.t 13) (cSeq (cOps [⟨some 14, false, none, iMov (.t 5)⟩,
 ⟨some 2, true, none, iMov (.c (.int .i64 (.lit 0)))⟩,
 ⟨some 3, true, none, iMov (.t 14)⟩])
 cRet) cSkip))
 (cSeq (cOps [⟨some 6, true, none, iAlloc 3 [(.int .i64 (.lit 0))]⟩,
 ⟨none, false, none, iStore 1 (.t 6) (.c (.int .i64 (.lit 0)))⟩])
 (cSeq (cSeq (cOps [⟨some 15, false, none, iLoadN 7 (.t 4)⟩,
 ⟨some 16, true, none, iCall (.c (.func (.func 46) [] [])) [(.t 15)]⟩])
 (cBlock 0 (cRange (.t 16) [17] 27017)))
 (cSeq (cOps [⟨some 20, false, none, iLoad (.t 6)⟩,
 ⟨some 2, true, none, iMov (.t 20)⟩,
 ⟨some 3, true, none, iMov (.c (.int .i64 (.lit 0)))⟩])
 cRet)))))), [.t 2, .t 3]⟩
noncomputable def Tryd.ra28017 : C := (cOps [⟨some 6, true, none, iMov (.t 17)⟩])
noncomputable def Tryd.rb28017 : C := (cBlock 1 (cSeq (cOps [⟨some 18, false, none, iMov (.t 6)⟩,
 ⟨some 19, false, none, iCall (.c (.func (.func 47) [] [])) [(.t 18)]⟩,
 ⟨none, false, none, iStore 1 (.t 2) (.t 19)⟩,
 ⟨none, false, none, iStore 1 (.t 3) (.c (.int .i64 (.lit 0)))⟩])
 cRet))
noncomputable def Tryd.kp28 : List Nat := [0, 1, 2, 3, 4, 5, 6, 13, 16, 17]
noncomputable def Tryd.cf28 : CF := ⟨1, (cSeq (cOps [⟨some 1, true, none, iBox 26 (.t 0)⟩,
 ⟨some 2, true, none, iAlloc 27 [.nilslice]⟩,
 ⟨some 3, true, none, iAlloc 28 [(.int .i64 (.lit 0))]⟩])
 (cSeq (cOps [⟨some 8, false, none, iLoadN 6 (.t 1)⟩,
 ⟨some 9, false, none, iCall (.c (.func (.func 13) [] [])) [(.t 8)]⟩,
 ⟨some 7, false, none, iMov (.t 9)⟩,
 ⟨some 10, false, none, iExtract 0 (.t 7)⟩,
 ⟨some 11, false, none, iExtract 1 (.t 7)⟩,
 ⟨some 4, true, none, iAlloc 42 [.nilslice, (.int .i64 (.lit 0)), (.int .i64 (.lit 0)), (.int .i64 (.lit 0)), (.int .i64 (.lit 0)), (.int .i64 (.lit 0)), .nilmap]⟩,
 ⟨none, false, none, iStore 7 (.t 4) (.t 10)⟩,
 ⟨some 5, true, none, iMov (.t 11)⟩])
 (cSeq (cSeq (cOps [⟨some 12, false, none, iMov (.t 5)⟩,
 ⟨some 13, true, none, iCmp .neq (.t 12) (.c (.int .i64 (.lit 0)))⟩])
 (cCond (.t 13) (cSeq (cOps [⟨some 14, false, none, iMov (.t 5)⟩,
 ⟨none, false, none, iStore 1 (.t 2) (.c .nilslice)⟩,
 ⟨none, false, none, iStore 1 (.t 3) (.t 14)⟩])
 cRet) cSkip))
 (cSeq (cSeq (cOps [⟨some 15, false, none, iLoadN 7 (.t 4)⟩,
 ⟨some 16, true, none, iCall (.c (.func (.func 46) [] [])) [(.t 15)]⟩])
 (cBlock 0 (cRange (.t 16) [17] 28017)))
 (cSeq (cOps [⟨none, false, none, iStore 1 (.t 2) (.c .nilslice)⟩,
 ⟨none, false, none, iStore 1 (.t 3) (.c (.int .i64 (.lit 4)))⟩])
 cRet))))), [.cell 2 false 1, .cell 3 false 1]⟩
noncomputable def Tryd.kp29 : List Nat := [0, 1, 2, 4, 5, 6, 7, 8, 15, 20, 26]
noncomputable def Tryd.cf29 : CF := ⟨2, (cSeq (cOps [⟨some 2, true, none, iBox 26 (.t 0)⟩,
 ⟨some 4, true, none, iMov (.c .nilslice)⟩,
 ⟨some 5, true, none, iMov (.c (.int .i64 (.lit 0)))⟩])
 (cSeq (cOps [⟨some 10, false, none, iLoadN 6 (.t 2)⟩,
 ⟨some 11, false, none, iCall (.c (.func (.func 13) [] [])) [(.t 10)]⟩,
 ⟨some 9, false, none, iMov (.t 11)⟩,
 ⟨some 12, false, none, iExtract 0 (.t 9)⟩,
 ⟨some 13, false, none, iExtract 1 (.t 9)⟩,
 ⟨some 6, true, none, iAlloc 42 [.nilslice, (.int .i64 (.lit 0)), (.int .i64 (.lit 0)), (.int .i64 (.lit 0)), (.int .i64 (.lit 0)), (.int .i64 (.lit 0)), .nilmap]⟩,
 ⟨none, false, none, iStore 7 (.t 6) (.t 12)⟩,
 ⟨some 7, true, none, iMov (.t 13)⟩])
 (cSeq (cSeq (cOps [⟨some 14, false, none, iMov (.t 7)⟩,
 ⟨some 15, true, none, iCmp .neq (.t 14) (.c (.int .i64 (.lit 0)))⟩])
 (cCond (.t 15) (cSeq (cOps [⟨some 16, false, none, iMov (.t 7)⟩,
 ⟨some 4, true, none, iMov (.c .nilslice)⟩,
 ⟨some 5, true, none, iMov (.t 16)⟩])
 cRet) cSkip))
 (cSeq (cSeq (cOps [⟨some 17, false, none, iLoadN 7 (.t 6)⟩,
 ⟨some 18, false, none, iMov (.t 1)⟩,
 ⟨some 19, false, none, iCall (.c (.func (.func 37) [] [])) [(.t 17), (.t 18)]⟩,
 ⟨some 20, true, none, iNot (.t 19)⟩])
 (cCond (.t 20) (cSeq (cOps [⟨some 4, true, none, iMov (.c .nilslice)⟩,
 ⟨some 5, true, none, iMov (.c (.int .i64 (.lit 11)))⟩])
 cRet) cSkip))
 (cSeq (cOps [⟨some 21, false, none, iLoadN 7 (.t 6)⟩,
 ⟨some 22, false, none, iMov (.t 1)⟩,
 ⟨some 23, false, none, iCall (.c (.func (.func 48) [] [])) [(.t 21), (.t 22)]⟩,
 ⟨some 8, true, none, iAlloc 68 [(.bool (.lit false)), (.bool (.lit false)), (.bool (.lit false)), (.bool (.lit false)), (.bool (.lit false)), (.bool (.lit false))]⟩,
 ⟨none, false, none, iStore 6 (.t 8) (.t 23)⟩])
 (cSeq (cSeq (cOps [⟨some 24, false, none, iLoadN 6 (.t 8)⟩,
 ⟨some 25, false, none, iBuild [(.bool (.lit false)), (.bool (.lit false)), (.bool (.lit false)), (.bool (.lit false)), (.bool (.lit false)), (.bool (.lit false))] []⟩,
 ⟨some 26, true, none, iEq false true 6 [(0, .bool), (1, .bool), (2, .bool), (3, .bool), (4, .bool), (5, .bool)] (.t 24) (.t 25)⟩])
 (cCond (.t 26) (cSeq (cOps [⟨some 4, true, none, iMov (.c .nilslice)⟩,
 ⟨some 5, true, none, iMov (.c (.int .i64 (.lit 4)))⟩])
 cRet) cSkip))
 (cSeq (cOps [⟨some 27, false, none, iLoadN 6 (.t 8)⟩,
 ⟨some 28, false, none, iCall (.c (.func (.func 49) [] [])) [(.t 27)]⟩,
 ⟨some 4, true, none, iMov (.t 28)⟩,
 ⟨some 5, true, none, iMov (.c (.int .i64 (.lit 0)))⟩])
 cRet))))))), [.t 4, .t 5]⟩
noncomputable def Tryd.kp30 : List Nat := [0, 1, 2, 3, 4, 5, 12]
noncomputable def Tryd.cf30 : CF := ⟨1, (cSeq (cOps [⟨some 1, true, none, iBox 26 (.t 0)⟩,
 ⟨some 2, true, none, iMov (.c .nilslice)⟩,
 ⟨some 3, true, none, iMov (.c (.int .i64 (.lit 0)))⟩])
 (cSeq (cOps [⟨some 7, false, none, iLoadN 6 (.t 1)⟩,
 ⟨some 8, false, none, iCall (.c (.func (.func 13) [] [])) [(.t 7)]⟩,
 ⟨some 6, false, none, iMov (.t 8)⟩,
 ⟨some 9, false, none, iExtract 0 (.t 6)⟩,
 ⟨some 10, false, none, iExtract 1 (.t 6)⟩,
 ⟨some 4, true, none, iAlloc 42 [.nilslice, (.int .i64 (.lit 0)), (.int .i64 (.lit 0)), (.int .i64 (.lit 0)), (.int .i64 (.lit 0)), (.int .i64 (.lit 0)), .nilmap]⟩,
 ⟨none, false, none, iStore 7 (.t 4) (.t 9)⟩,
 ⟨some 5, true, none, iMov (.t 10)⟩])
 (cSeq (cSeq (cOps [⟨some 11, false, none, iMov (.t 5)⟩,
 ⟨some 12, true, none, iCmp .neq (.t 11) (.c (.int .i64 (.lit 0)))⟩])
 (cCond (.t 12) (cSeq (cOps [⟨some 13, false, none, iMov (.t 5)⟩,
 ⟨some 2, true, none, iMov (.c .nilslice)⟩,
 ⟨some 3, true, none, iMov (.t 13)⟩])
 cRet) cSkip))
 (cSeq (cOps [⟨some 14, false, none, iLoadN 7 (.t 4)⟩,
 ⟨some 15, false, none, iCall (.c (.func (.func 50) [] [])) [(.t 14)]⟩,
 ⟨some 2, true, none, iMov (.t 15)⟩,
 ⟨some 3, true, none, iMov (.c (.int .i64 (.lit 0)))⟩])
 cRet)))), [.t 2, .t 3]⟩
noncomputable def Tryd.kp31 : List Nat := [0, 1]
noncomputable def Tryd.cf31 : CF := ⟨0, (cSeq (cOps [⟨some 0, true, none, iAlloc 26 [.nilslice, (.int .i64 (.lit 0)), (.int .i64 (.lit 0)), (.int .i64 (.lit 0)), (.int .i64 (.lit 0)), (.int .i64 (.lit 0))]⟩])
 (cSeq (cOps [⟨some 2, false, none, iCall (.c (.func (.func 26) [] [])) []⟩,
 ⟨some 1, true, none, iAlloc 26 [.nilslice, (.int .i64 (.lit 0)), (.int .i64 (.lit 0)), (.int .i64 (.lit 0)), (.int .i64 (.lit 0)), (.int .i64 (.lit 0))]⟩,
 ⟨none, false, none, iStore 6 (.t 1) (.t 2)⟩])
 (cSeq (dOps 0 [⟨⟨some 3, false, none, iFaddr 0 (.t 1)⟩, [1], false, 0, 1, none, []⟩,
 ⟨⟨some 4, false, none, iLoad (.t 3)⟩, [3], false, 0, 1, none, []⟩,
 ⟨⟨some 5, false, none, iCall (.c (.func (.func 35) [] [])) [(.c (.int .i64 (.lit 5))), (.c (.int .i64 (.lit 6)))]⟩, [], true, 0, 0, none, []⟩,
 ⟨⟨some 6, false, none, iIaddr 6 (.t 4) (.c (.int .i64 (.lit 1)))⟩, [4], false, 1, 1, none, []⟩,
 ⟨⟨some 7, false, none, iFaddr 2 (.t 6)⟩, [6], false, 1, 1, none, []⟩,
 ⟨⟨none, false, none, iStore 2 (.t 7) (.t 5)⟩, [7, 5], true, 1, 0, none, []⟩])
 (cSeq (cOps [⟨some 8, false, none, iLoadN 6 (.t 1)⟩,
 ⟨none, false, none, iStore 6 (.t 0) (.t 8)⟩])
 cRet)))), [.cell 0 true 6]⟩
noncomputable def Tryd.kp32 : List Nat := [0, 1, 2, 3, 6, 7, 8, 9, 16, 27]
noncomputable def Tryd.cf32 : CF := ⟨3, (cSeq (cOps [⟨some 3, true, none, iBox 26 (.t 0)⟩,
 ⟨some 6, true, none, iAlloc 24 [(.int .i64 (.lit 0)), (.int .i64 (.lit 0))]⟩,
 ⟨some 7, true, none, iMov (.c (.int .i64 (.lit 0)))⟩])
 (cSeq (cOps [⟨some 11, false, none, iLoadN 6 (.t 3)⟩,
 ⟨some 12, false, none, iCall (.c (.func (.func 13) [] [])) [(.t 11)]⟩,
 ⟨some 10, false, none, iMov (.t 12)⟩,
 ⟨some 13, false, none, iExtract 0 (.t 10)⟩,
 ⟨some 14, false, none, iExtract 1 (.t 10)⟩,
 ⟨some 8, true, none, iAlloc 42 [.nilslice, (.int .i64 (.lit 0)), (.int .i64 (.lit 0)), (.int .i64 (.lit 0)), (.int .i64 (.lit 0)), (.int .i64 (.lit 0)), .nilmap]⟩,
 ⟨none, false, none, iStore 7 (.t 8) (.t 13)⟩,
 ⟨some 9, true, none, iMov (.t 14)⟩])
 (cSeq (cSeq (cOps [⟨some 15, false, none, iMov (.t 9)⟩,
 ⟨some 16, true, none, iCmp .neq (.t 15) (.c (.int .i64 (.lit 0)))⟩])
 (cCond (.t 16) (cSeq (cOps [⟨some 17, false, none, iBuild [(.int .i64 (.lit 0)), (.int .i64 (.lit 0))] []⟩,
 ⟨some 18, false, none, iMov (.t 9)⟩,
 ⟨none, false, none, iStore 2 (.t 6) (.t 17)⟩,
 ⟨some 7, true, none, iMov (.t 18)⟩])
 cRet) cSkip))
 (cSeq (cSeq (cOps [⟨some 19, false, none, iLoadN 7 (.t 8)⟩,
 ⟨some 20, false, none, iMov (.t 1)⟩,
 ⟨some 21, false, none, iCall (.c (.func (.func 37) [] [])) [(.t 19), (.t 20)]⟩,
 ⟨some 22, false, none, iNot (.t 21)⟩,
 ⟨some 23, false, none, iMov (.t 22)⟩,
 ⟨some 24, false, some (23, false), iMov (.t 2)⟩,
 ⟨some 25, false, some (23, false), iCall (.c (.func (.func 15) [] [])) [(.t 24)]⟩,
 ⟨some 26, false, some (23, false), iNot (.t 25)⟩,
 ⟨some 27, true, none, iPick (.t 23) (.c (.bool (.lit true))) (.t 26)⟩])
 (cCond (.t 27) (cSeq (cOps [⟨some 28, false, none, iBuild [(.int .i64 (.lit 0)), (.int .i64 (.lit 0))] []⟩,
 ⟨none, false, none, iStore 2 (.t 6) (.t 28)⟩,
 ⟨some 7, true, none, iMov (.c (.int .i64 (.lit 11)))⟩])
 cRet) cSkip))
 (cSeq (cOps [⟨some 29, false, none, iLoadN 7 (.t 8)⟩,
 ⟨some 30, false, none, iMov (.t 1)⟩,
 ⟨some 31, false, none, iMov (.t 2)⟩,
 ⟨some 32, false, none, iCall (.c (.func (.func 44) [] [])) [(.t 29), (.t 30), (.t 31)]⟩,
 ⟨none, false, none, iStore 2 (.t 6) (.t 32)⟩,
 ⟨some 7, true, none, iMov (.c (.int .i64 (.lit 0)))⟩])
 cRet))))), [.cell 6 true 2, .t 7]⟩
noncomputable def Tryd.kp33 : List Nat := [0, 1, 2, 3, 6, 7, 8, 9, 10, 11, 18, 31, 41]
noncomputable def Tryd.cf33 : CF := ⟨3, (cSeq (cOps [⟨some 3, true, none, iBox 26 (.t 0)⟩,
 ⟨some 6, true, none, iMov (.c (.int .i64 (.lit 0)))⟩,
 ⟨some 7, true, none, iMov (.c (.int .i64 (.lit 0)))⟩,
 ⟨some 8, true, none, iMov (.c (.int .i64 (.lit 0)))⟩])
 (cSeq (cOps [⟨some 13, false, none, iLoadN 6 (.t 3)⟩,
 ⟨some 14, false, none, iCall (.c (.func (.func 13) [] [])) [(.t 13)]⟩,
 ⟨some 12, false, none, iMov (.t 14)⟩,
 ⟨some 15, false, none, iExtract 0 (.t 12)⟩,
 ⟨some 16, false, none, iExtract 1 (.t 12)⟩,
 ⟨some 9, true, none, iAlloc 42 [.nilslice, (.int .i64 (.lit 0)), (.int .i64 (.lit 0)), (.int .i64 (.lit 0)), (.int .i64 (.lit 0)), (.int .i64 (.lit 0)), .nilmap]⟩,
 ⟨none, false, none, iStore 7 (.t 9) (.t 15)⟩,
 ⟨some 8, true, none, iMov (.t 16)⟩])
 (cSeq (cSeq (cOps [⟨some 17, false, none, iMov (.t 8)⟩,
 ⟨some 18, true, none, iCmp .neq (.t 17) (.c (.int .i64 (.lit 0)))⟩])
 (cCond (.t 18) (cSeq (cOps [⟨some 19, false, none, iMov (.t 8)⟩,
 ⟨some 6, true, none, iMov (.c (.int .i64 (.lit 0)))⟩,
 ⟨some 7, true, none, iMov (.c (.int .i64 (.lit 0)))⟩,
 ⟨some 8, true, none, iMov (.t 19)⟩])
 cRet) cSkip))
 (cSeq (cSeq (cOps [⟨some 20, false, none, iLoadN 7 (.t 9)⟩,
 ⟨some 21, false, none, iMov (.t 1)⟩,
 ⟨some 22, false, none, iCall (.c (.func (.func 37) [] [])) [(.t 20), (.t 21)]⟩,
 ⟨some 23, false, none, iNot (.t 22)⟩,
 ⟨some 24, false, none, iMov (.t 23)⟩,
 ⟨some 25, false, some (24, false), iMov (.t 2)⟩,
 ⟨some 26, false, some (24, false), iCmp .lss (.t 25) (.c (.int .i64 (.lit 1)))⟩,
 ⟨some 27, false, none, iPick (.t 24) (.c (.bool (.lit true))) (.t 26)⟩,
 ⟨some 28, false, none, iMov (.t 27)⟩,
 ⟨some 29, false, some (28, false), iMov (.t 2)⟩,
 ⟨some 30, false, some (28, false), iCmp .gtr (.t 29) (.c (.int .i64 (.lit 1200)))⟩,
 ⟨some 31, true, none, iPick (.t 28) (.c (.bool (.lit true))) (.t 30)⟩])
 (cCond (.t 31) (cSeq (cOps [⟨some 6, true, none, iMov (.c (.int .i64 (.lit 0)))⟩,
 ⟨some 7, true, none, iMov (.c (.int .i64 (.lit 0)))⟩,
 ⟨some 8, true, none, iMov (.c (.int .i64 (.lit 11)))⟩])
 cRet) cSkip))
 (cSeq (cSeq (cOps [⟨some 32, false, none, iMov (.t 2)⟩,
 ⟨some 33, false, none, iFaddr 0 (.t 9)⟩,
 ⟨some 34, false, none, iFaddr 0 (.t 33)⟩,
 ⟨some 35, false, none, iLoad (.t 34)⟩,
 ⟨some 36, false, none, iMov (.t 1)⟩,
 ⟨some 37, false, none, iIaddr 6 (.t 35) (.t 36)⟩,
 ⟨some 38, false, none, iFaddr 4 (.t 37)⟩,
 ⟨some 39, false, none, iFaddr 1 (.t 38)⟩,
 ⟨some 40, false, none, iLoad (.t 39)⟩,
 ⟨some 41, true, none, iCmp .gtr (.t 32) (.t 40)⟩])
 (cCond (.t 41) (cSeq (cOps [⟨some 6, true, none, iMov (.c (.int .i64 (.lit 0)))⟩,
 ⟨some 7, true, none, iMov (.c (.int .i64 (.lit 0)))⟩,
 ⟨some 8, true, none, iMov (.c (.int .i64 (.lit 4)))⟩])
 cRet) cSkip))
 (cSeq (cOps [⟨some 43, false, none, iCall (.c (.func (.func 51) [] [])) []⟩,
 ⟨some 42, false, none, iMov (.t 43)⟩,
 ⟨some 44, false, none, iExtract 0 (.t 42)⟩,
 ⟨some 45, false, none, iExtract 1 (.t 42)⟩,
 ⟨some 10, true, none, iAlloc 72 [.nilFunc, .nilFunc]⟩,
 ⟨some 11, true, none, iAlloc 72 [.nilFunc, .nilFunc]⟩,
 ⟨none, false, none, iStore 2 (.t 10) (.t 44)⟩,
 ⟨none, false, none, iStore 2 (.t 11) (.t 45)⟩])
 (cSeq (dOps 0 [⟨⟨some 46, false, none, iLoadN 7 (.t 9)⟩, [9], false, 0, 0, none, []⟩,
 ⟨⟨some 47, false, none, iMov (.t 1)⟩, [1], false, 0, 0, none, []⟩,
 ⟨⟨some 48, false, none, iMov (.t 2)⟩, [2], false, 0, 0, none, []⟩,
 ⟨⟨some 49, false, none, iLoadN 2 (.t 10)⟩, [10], false, 0, 0, none, []⟩,
 ⟨⟨some 50, false, none, iCall (.c (.func (.func 52) [] [])) [(.t 46), (.t 47), (.t 48), (.t 49)]⟩, [46, 47, 48, 49], true, 0, 0, none, []⟩,
 ⟨⟨some 51, false, none, iLoadN 7 (.t 9)⟩, [9], false, 0, 1, none, []⟩,
 ⟨⟨some 52, false, none, iMov (.t 1)⟩, [1], false, 0, 1, none, []⟩,
 ⟨⟨some 53, false, none, iMov (.t 2)⟩, [2], false, 0, 1, none, []⟩,
 ⟨⟨some 54, false, none, iLoadN 2 (.t 11)⟩, [11], false, 0, 1, none, []⟩,
 ⟨⟨some 55, false, none, iCall (.c (.func (.func 52) [] [])) [(.t 51), (.t 52), (.t 53), (.t 54)]⟩, [51, 52, 53, 54], true, 1, 0, none, []⟩,
 ⟨⟨some 6, true, none, iMov (.t 50)⟩, [50], false, 2, 2, none, []⟩,
 ⟨⟨some 7, true, none, iMov (.t 55)⟩, [55], false, 2, 2, none, []⟩,
 ⟨⟨some 8, true, none, iMov (.c (.int .i64 (.lit 0)))⟩, [], false, 2, 2, none, []⟩])
 cRet))))))), [.t 6, .t 7, .t 8]⟩
noncomputable def Tryd.kp34 : List Nat := [0, 1, 2, 3, 6, 7, 8, 9, 10, 11, 18, 32, 42]
noncomputable def Tryd.cf34 : CF := ⟨3, (cSeq (cOps [⟨some 3, true, none, iBox 26 (.t 0)⟩,
 ⟨some 6, true, none, iAlloc 24 [(.int .i64 (.lit 0)), (.int .i64 (.lit 0))]⟩,
 ⟨some 7, true, none, iMov (.c (.int .i64 (.lit 0)))⟩])
 (cSeq (cOps [⟨some 13, false, none, iLoadN 6 (.t 3)⟩,
 ⟨some 14, false, none, iCall (.c (.func (.func 13) [] [])) [(.t 13)]⟩,
 ⟨some 12, false, none, iMov (.t 14)⟩,
 ⟨some 15, false, none, iExtract 0 (.t 12)⟩,
 ⟨some 16, false, none, iExtract 1 (.t 12)⟩,
 ⟨some 8, true, none, iAlloc 42 [.nilslice, (.int .i64 (.lit 0)), (.int .i64 (.lit 0)), (.int .i64 (.lit 0)), (.int .i64 (.lit 0)), (.int .i64 (.lit 0)), .nilmap]⟩,
 ⟨none, false, none, iStore 7 (.t 8) (.t 15)⟩,
 ⟨some 9, true, none, iMov (.t 16)⟩])
 (cSeq (cSeq (cOps [⟨some 17, false, none, iMov (.t 9)⟩,
 ⟨some 18, true, none, iCmp .neq (.t 17) (.c (.int .i64 (.lit 0)))⟩])
 (cCond (.t 18) (cSeq (cOps [⟨some 19, false, none, iBuild [(.int .i64 (.lit 0)), (.int .i64 (.lit 0))] []⟩,
 ⟨some 20, false, none, iMov (.t 9)⟩,
 ⟨none, false, none, iStore 2 (.t 6) (.t 19)⟩,
 ⟨some 7, true, none, iMov (.t 20)⟩])
 cRet) cSkip))
 (cSeq (cSeq (cOps [⟨some 21, false, none, iLoadN 7 (.t 8)⟩,
 ⟨some 22, false, none, iMov (.t 1)⟩,
 ⟨some 23, false, none, iCall (.c (.func (.func 37) [] [])) [(.t 21), (.t 22)]⟩,
 ⟨some 24, false, none, iNot (.t 23)⟩,
 ⟨some 25, false, none, iMov (.t 24)⟩,
 ⟨some 26, false, some (25, false), iMov (.t 2)⟩,
 ⟨some 27, false, some (25, false), iCmp .lss (.t 26) (.c (.int .i64 (.lit 0)))⟩,
 ⟨some 28, false, none, iPick (.t 25) (.c (.bool (.lit true))) (.t 27)⟩,
 ⟨some 29, false, none, iMov (.t 28)⟩,
 ⟨some 30, false, some (29, false), iMov (.t 2)⟩,
 ⟨some 31, false, some (29, false), iCmp .gtr (.t 30) (.c (.int .i64 (.lit 1200)))⟩,
 ⟨some 32, true, none, iPick (.t 29) (.c (.bool (.lit true))) (.t 31)⟩])
 (cCond (.t 32) (cSeq (cOps [⟨some 33, false, none, iBuild [(.int .i64 (.lit 0)), (.int .i64 (.lit 0))] []⟩,
 ⟨none, false, none, iStore 2 (.t 6) (.t 33)⟩,
 ⟨some 7, true, none, iMov (.c (.int .i64 (.lit 11)))⟩])
 cRet) cSkip))
 (cSeq (cOps [⟨some 35, false, none, iLoadN 7 (.t 8)⟩,
 ⟨some 36, false, none, iMov (.t 1)⟩,
 ⟨some 37, false, none, iMov (.t 2)⟩,
 ⟨some 38, false, none, iCall (.c (.func (.func 53) [] [])) [(.t 35), (.t 36), (.t 37)]⟩,
 ⟨some 34, false, none, iMov (.t 38)⟩,
 ⟨some 39, false, none, iExtract 0 (.t 34)⟩,
 ⟨some 40, false, none, iExtract 1 (.t 34)⟩,
 ⟨some 10, true, none, iAlloc 24 [(.int .i64 (.lit 0)), (.int .i64 (.lit 0))]⟩,
 ⟨none, false, none, iStore 2 (.t 10) (.t 39)⟩,
 ⟨some 11, true, none, iMov (.t 40)⟩])
 (cSeq (cSeq (cOps [⟨some 41, false, none, iMov (.t 11)⟩,
 ⟨some 42, true, none, iNot (.t 41)⟩])
 (cCond (.t 42) (cSeq (cOps [⟨some 43, false, none, iBuild [(.int .i64 (.lit 0)), (.int .i64 (.lit 0))] []⟩,
 ⟨none, false, none, iStore 2 (.t 6) (.t 43)⟩,
 ⟨some 7, true, none, iMov (.c (.int .i64 (.lit 4)))⟩])
 cRet) cSkip))
 (cSeq (cOps [⟨some 44, false, none, iLoadN 2 (.t 10)⟩,
 ⟨none, false, none, iStore 2 (.t 6) (.t 44)⟩,
 ⟨some 7, true, none, iMov (.c (.int .i64 (.lit 0)))⟩])
 cRet))))))), [.cell 6 true 2, .t 7]⟩
noncomputable def Tryd.kp35 : List Nat := [0, 1, 4]
noncomputable def Tryd.cf35 : CF := ⟨2, (cSeq (cOps [⟨some 4, true, none, iAlloc 24 [(.int .i64 (.lit 0)), (.int .i64 (.lit 0))]⟩])
 (cSeq (cOps [⟨some 5, false, none, iMov (.t 0)⟩,
 ⟨some 6, false, none, iMov (.t 1)⟩,
 ⟨some 7, false, none, iBuild [(.int .i64 (.lit 0)), (.int .i64 (.lit 0))] [(0, 1, (.t 5)), (1, 1, (.t 6))]⟩,
 ⟨none, false, none, iStore 2 (.t 4) (.t 7)⟩])
 cRet)), [.cell 4 true 2]⟩
noncomputable def Tryd.kp36 : List Nat := [0, 1, 2, 5]
noncomputable def Tryd.cf36 : CF := ⟨1, (cSeq (cOps [⟨some 1, true, none, iBox 26 (.t 0)⟩,
 ⟨some 2, true, none, iMov (.c (.int .i64 (.lit 0)))⟩])
 (cSeq (cSeq (cOps [⟨some 3, false, none, iLoadN 6 (.t 1)⟩,
 ⟨some 4, false, none, iCall (.c (.func (.func 54) [] [])) [(.t 3)]⟩,
 ⟨some 5, true, none, iNot (.t 4)⟩])
 (cCond (.t 5) (cSeq (cOps [⟨some 2, true, none, iMov (.c (.int .i64 (.lit 10)))⟩])
 cRet) cSkip))
 (cSeq (cOps [⟨some 2, true, none, iMov (.c (.int .i64 (.lit 0)))⟩])
 cRet))), [.t 2]⟩
noncomputable def Tryd.kp37 : List Nat := [0, 1, 2, 4]
noncomputable def Tryd.cf37 : CF := ⟨2, (cSeq (cOps [⟨some 2, true, none, iBox 42 (.t 0)⟩,
 ⟨some 4, true, none, iMov (.c (.bool (.lit false)))⟩])
 (cSeq (cOps [⟨some 5, false, none, iMov (.t 1)⟩,
 ⟨some 6, false, none, iCmp .geq (.t 5) (.c (.int .i64 (.lit 0)))⟩,
 ⟨some 7, false, none, iMov (.t 6)⟩,
 ⟨some 8, false, some (7, true), iMov (.t 1)⟩,
 ⟨some 9, false, some (7, true), iFaddr 0 (.t 2)⟩,
 ⟨some 10, false, some (7, true), iFaddr 0 (.t 9)⟩,
 ⟨some 11, false, some (7, true), iLoad (.t 10)⟩,
 ⟨some 12, false, some (7, true), iLenS (.t 11)⟩,
 ⟨some 13, false, some (7, true), iCmp .lss (.t 8) (.t 12)⟩,
 ⟨some 14, false, none, iPick (.t 7) (.t 13) (.c (.bool (.lit false)))⟩,
 ⟨some 4, true, none, iMov (.t 14)⟩])
 cRet)), [.t 4]⟩
noncomputable def Tryd.kp38 : List Nat := [0, 2, 3, 4]
noncomputable def Tryd.cf38 : CF := ⟨1, (cSeq (cOps [⟨some 2, true, none, iAlloc 24 [(.int .i64 (.lit 0)), (.int .i64 (.lit 0))]⟩])
 (cSeq (cOps [⟨some 6, false, none, iCall (.c (.func (.func 51) [] [])) []⟩,
 ⟨some 5, false, none, iMov (.t 6)⟩,
 ⟨some 7, false, none, iExtract 0 (.t 5)⟩,
 ⟨some 8, false, none, iExtract 1 (.t 5)⟩,
 ⟨some 3, true, none, iAlloc 72 [.nilFunc, .nilFunc]⟩,
 ⟨some 4, true, none, iAlloc 72 [.nilFunc, .nilFunc]⟩,
 ⟨none, false, none, iStore 2 (.t 3) (.t 7)⟩,
 ⟨none, false, none, iStore 2 (.t 4) (.t 8)⟩])
 (cSeq (dOps 0 [⟨⟨some 9, false, none, iMov (.t 0)⟩, [0], false, 0, 0, none, []⟩,
 ⟨⟨some 10, false, none, iLoadN 2 (.t 3)⟩, [3], false, 0, 0, none, []⟩,
 ⟨⟨some 11, false, none, iCall (.t 9) [(.t 10)]⟩, [9, 10], true, 0, 0, none, []⟩,
 ⟨⟨some 12, false, none, iMov (.t 0)⟩, [0], false, 0, 1, none, []⟩,
 ⟨⟨some 13, false, none, iLoadN 2 (.t 4)⟩, [4], false, 0, 1, none, []⟩,
 ⟨⟨some 14, false, none, iCall (.t 12) [(.t 13)]⟩, [12, 13], true, 1, 0, none, []⟩,
 ⟨⟨some 15, false, none, iBuild [(.int .i64 (.lit 0)), (.int .i64 (.lit 0))] [(0, 1, (.t 11)), (1, 1, (.t 14))]⟩, [11, 14], false, 2, 2, none, []⟩,
 ⟨⟨none, false, none, iStore 2 (.t 2) (.t 15)⟩, [2, 15], true, 2, 0, none, []⟩])
 cRet))), [.cell 2 true 2]⟩
noncomputable def Tryd.kp39 : List Nat := [0, 1, 2, 3, 4, 5, 6, 7, 8, 12, 13, 14, 15]
noncomputable def Tryd.cf39 : CF := ⟨4, (cSeq (cOps [⟨some 4, true, none, iBox 72 (.t 0)⟩,
 ⟨some 5, true, none, iMov (.c (.int .i64 (.lit 0)))⟩])
 (cSeq (cOps [⟨some 9, false, none, iLoad (.t 1)⟩,
 ⟨some 10, false, none, iLenS (.t 9)⟩,
 ⟨some 11, false, none, iMkslice 3 [(.int .i64 (.lit 0))] 8 (.t 10) (.t 10)⟩,
 ⟨some 6, true, none, iMov (.t 11)⟩])
 (cSeq (cSeq (cOps [⟨some 12, true, none, iLoad (.t 1)⟩,
 ⟨some 13, true, none, iLenS (.t 12)⟩,
 ⟨some 14, true, none, iMov (.c (.int .i64 (.lit 0)))⟩])
 (cBlock 0 (cLoop (cSeq (cOps [⟨some 15, true, none, iCmp .lss (.t 14) (.t 13)⟩])
 (cSeq (cCond (.t 15) cSkip (cExit 0))
 (cSeq (cBlock 1 (cSeq (cOps [⟨some 16, false, none, iMov (.t 14)⟩,
 ⟨some 17, false, none, iIaddr 1 (.t 12) (.t 14)⟩,
 ⟨some 18, false, none, iLoad (.t 17)⟩,
 ⟨some 7, true, none, iMov (.t 16)⟩,
 ⟨some 8, true, none, iMov (.t 18)⟩])
 (cOps [⟨some 19, false, none, iMov (.t 6)⟩,
 ⟨some 20, false, none, iMov (.t 7)⟩,
 ⟨some 21, false, none, iLoadN 7 (.t 2)⟩,
 ⟨some 22, false, none, iMov (.t 8)⟩,
 ⟨some 23, false, none, iLoad (.t 3)⟩,
 ⟨some 24, false, none, iLoadN 2 (.t 4)⟩,
 ⟨some 25, false, none, iCall (.c (.func (.func 40) [] [])) [(.t 21), (.t 22), (.t 23), (.t 24)]⟩,
 ⟨some 26, false, none, iIaddr 1 (.t 19) (.t 20)⟩,
 ⟨none, false, none, iStore 1 (.t 26) (.t 25)⟩])))
 (cOps [⟨some 27, false, none, iArith .add (.t 14) (.c (.int .i64 (.lit 1)))⟩,
 ⟨some 14, true, none, iMov (.t 27)⟩])))))))
 (cSeq (dOps 0 [⟨⟨some 28, false, none, iMov (.t 6)⟩, [6], false, 0, 0, none, []⟩,
 ⟨⟨some 29, false, none, iCall (.c (.func (.func 41) [] [])) [(.t 28)]⟩, [28], true, 0, 0, none, []⟩,
 ⟨⟨some 30, false, none, iFaddr 0 (.t 4)⟩, [4], false, 0, 1, none, []⟩,
 ⟨⟨some 31, false, none, iLoad (.t 30)⟩, [30], false, 0, 1, none, []⟩,
 ⟨⟨some 32, false, none, iFaddr 0 (.t 2)⟩, [2], false, 0, 1, none, []⟩,
 ⟨⟨some 33, false, none, iFaddr 1 (.t 32)⟩, [32], false, 0, 1, none, []⟩,
 ⟨⟨some 34, false, none, iLoadN 2 (.t 33)⟩, [33], false, 0, 1, none, []⟩,
 ⟨⟨some 35, false, none, iCall (.t 31) [(.t 34)]⟩, [31, 34], true, 1, 0, none, []⟩,
 ⟨⟨some 36, false, none, iArith .mul (.t 29) (.t 35)⟩, [29, 35], false, 2, 2, none, []⟩,
 ⟨⟨some 5, true, none, iMov (.t 36)⟩, [36], false, 2, 2, none, []⟩])
 cRet)))), [.t 5]⟩
noncomputable def Tryd.kp40 : List Nat := [0, 1, 2, 3, 4, 7, 8, 9, 10]
noncomputable def Tryd.cf40 : CF := ⟨4, (cSeq (cOps [⟨some 4, true, none, iBox 42 (.t 0)⟩,
 ⟨some 7, true, none, iBox 72 (.t 3)⟩,
 ⟨some 8, true, none, iMov (.c (.int .i64 (.lit 0)))⟩])
 (cSeq (dOps 0 [⟨⟨some 11, false, none, iFaddr 0 (.t 7)⟩, [7], false, 0, 0, none, []⟩,
 ⟨⟨some 12, false, none, iLoad (.t 11)⟩, [11], false, 0, 0, none, []⟩,
 ⟨⟨some 13, false, none, iFaddr 0 (.t 4)⟩, [4], false, 0, 0, none, []⟩,
 ⟨⟨some 14, false, none, iFaddr 0 (.t 13)⟩, [13], false, 0, 0, none, []⟩,
 ⟨⟨some 15, false, none, iLoad (.t 14)⟩, [14], false, 0, 0, none, []⟩,
 ⟨⟨some 16, false, none, iMov (.t 1)⟩, [1], false, 0, 0, none, []⟩,
 ⟨⟨some 17, false, none, iIaddr 6 (.t 15) (.t 16)⟩, [15, 16], false, 0, 0, none, []⟩,
 ⟨⟨some 18, false, none, iFaddr 4 (.t 17)⟩, [17], false, 0, 0, none, []⟩,
 ⟨⟨some 19, false, none, iLoadN 2 (.t 18)⟩, [18], false, 0, 0, none, []⟩,
 ⟨⟨some 20, false, none, iCall (.t 12) [(.t 19)]⟩, [12, 19], true, 0, 0, none, []⟩,
 ⟨⟨some 21, false, none, iFaddr 1 (.t 7)⟩, [7], false, 0, 1, none, []⟩,
 ⟨⟨some 22, false, none, iLoad (.t 21)⟩, [21], false, 0, 1, none, []⟩,
 ⟨⟨some 23, false, none, iFaddr 0 (.t 4)⟩, [4], false, 0, 1, none, []⟩,
 ⟨⟨some 24, false, none, iFaddr 3 (.t 23)⟩, [23], false, 0, 1, none, []⟩,
 ⟨⟨some 25, false, none, iLoadN 2 (.t 24)⟩, [24], false, 0, 1, none, []⟩,
 ⟨⟨some 26, false, none, iCall (.t 22) [(.t 25)]⟩, [22, 25], true, 1, 0, none, []⟩,
 ⟨⟨some 9, true, none, iMov (.t 20)⟩, [20], false, 2, 2, none, []⟩,
 ⟨⟨some 10, true, none, iMov (.t 26)⟩, [26], false, 2, 2, none, []⟩])
 (cSeq (cOps [⟨some 27, false, none, iMov (.t 9)⟩,
 ⟨some 28, false, none, iMov (.t 2)⟩,
 ⟨some 29, false, none, iMov (.t 10)⟩,
 ⟨some 30, false, none, iArith .mul (.t 28) (.t 29)⟩,
 ⟨some 31, false, none, iArith .sub (.t 27) (.t 30)⟩,
 ⟨some 32, false, none, iMax [(.c (.int .i64 (.lit 0))), (.t 31)]⟩,
 ⟨some 8, true, none, iMov (.t 32)⟩])
 cRet))), [.t 8]⟩
noncomputable def Tryd.kp41 : List Nat := [0, 2, 3, 5, 6, 7, 8, 9]
noncomputable def Tryd.cf41 : CF := ⟨1, (cSeq (cOps [⟨some 2, true, none, iMov (.c (.int .i64 (.lit 0)))⟩])
 (cSeq (cOps [⟨some 3, true, none, iMov (.c (.int .i64 (.lit 0)))⟩])
 (cSeq (cSeq (cOps [⟨some 6, true, none, iMov (.t 0)⟩,
 ⟨some 7, true, none, iLenS (.t 6)⟩,
 ⟨some 8, true, none, iMov (.c (.int .i64 (.lit 0)))⟩])
 (cBlock 0 (cLoop (cSeq (cOps [⟨some 9, true, none, iCmp .lss (.t 8) (.t 7)⟩])
 (cSeq (cCond (.t 9) cSkip (cExit 0))
 (cSeq (cBlock 1 (cSeq (cOps [⟨some 10, false, none, iIaddr 1 (.t 6) (.t 8)⟩,
 ⟨some 11, false, none, iLoad (.t 10)⟩,
 ⟨some 5, true, none, iMov (.t 11)⟩])
 (cOps [⟨some 12, false, none, iMov (.t 3)⟩,
 ⟨some 13, false, none, iMov (.t 5)⟩,
 ⟨some 14, false, none, iArith .add (.t 12) (.t 13)⟩,
 ⟨some 3, true, none, iMov (.t 14)⟩])))
 (cOps [⟨some 15, false, none, iArith .add (.t 8) (.c (.int .i64 (.lit 1)))⟩,
 ⟨some 8, true, none, iMov (.t 15)⟩])))))))
 (cSeq (cOps [⟨some 16, false, none, iMov (.t 3)⟩,
 ⟨some 2, true, none, iMov (.t 16)⟩])
 cRet)))), [.t 2]⟩
noncomputable def Tryd.kp42 : List Nat := [0, 1, 2, 3, 4, 5, 32, 63]
noncomputable def Tryd.cf42 : CF := ⟨1, (cSeq (cOps [⟨some 1, true, none, iBox 26 (.t 0)⟩,
 ⟨some 2, true, none, iMov (.c (.int .i64 (.lit 0)))⟩])
 (cSeq (cOps [⟨some 6, false, none, iFaddr 0 (.t 1)⟩,
 ⟨some 7, false, none, iLoad (.t 6)⟩,
 ⟨some 8, false, none, iLenS (.t 7)⟩,
 ⟨some 9, false, none, iCall (.c (.func (.func 19) [] [])) [(.t 8), (.c (.int .i64 (.lit 1))), (.c (.int .i64 (.lit 6)))]⟩,
 ⟨some 10, false, none, iMov (.t 9)⟩,
 ⟨some 11, false, some (10, true), iFaddr 1 (.t 1)⟩,
 ⟨some 12, false, some (10, true), iLoadN 2 (.t 11)⟩,
 ⟨some 13, false, some (10, true), iCall (.c (.func (.func 55) [] [])) [(.t 12), (.c (.int .i64 (.lit 1))), (.c (.int .i64 (.lit 20)))]⟩,
 ⟨some 14, false, none, iPick (.t 10) (.t 13) (.c (.bool (.lit false)))⟩,
 ⟨some 15, false, none, iMov (.t 14)⟩,
 ⟨some 16, false, some (15, true), iFaddr 3 (.t 1)⟩,
 ⟨some 17, false, some (15, true), iLoadN 2 (.t 16)⟩,
 ⟨some 18, false, some (15, true), iCall (.c (.func (.func 55) [] [])) [(.t 17), (.c (.int .i64 (.lit 0))), (.c (.int .i64 (.lit 50)))]⟩,
 ⟨some 19, false, none, iPick (.t 15) (.t 18) (.c (.bool (.lit false)))⟩,
 ⟨some 20, false, none, iMov (.t 19)⟩,
 ⟨some 21, false, some (20, true), iFaddr 5 (.t 1)⟩,
 ⟨some 22, false, some (20, true), iLoad (.t 21)⟩,
 ⟨some 23, false, some (20, true), iCall (.c (.func (.func 19) [] [])) [(.t 22), (.c (.int .i64 (.lit 1))), (.c (.int .i64 (.lit 6000)))]⟩,
 ⟨some 24, false, none, iPick (.t 20) (.t 23) (.c (.bool (.lit false)))⟩,
 ⟨some 3, true, none, iMov (.t 24)⟩])
 (cSeq (cSeq (cOps [⟨some 4, true, none, iMov (.c (.int .i64 (.lit 0)))⟩])
 (cBlock 0 (cLoop (cSeq (cSeq (cOps [⟨some 25, false, none, iMov (.t 3)⟩,
 ⟨some 26, false, none, iMov (.t 25)⟩,
 ⟨some 27, false, some (26, true), iMov (.t 4)⟩,
 ⟨some 28, false, some (26, true), iFaddr 0 (.t 1)⟩,
 ⟨some 29, false, some (26, true), iLoad (.t 28)⟩,
 ⟨some 30, false, some (26, true), iLenS (.t 29)⟩,
 ⟨some 31, false, some (26, true), iCmp .lss (.t 27) (.t 30)⟩,
 ⟨some 32, true, none, iPick (.t 26) (.t 31) (.c (.bool (.lit false)))⟩])
 (cCond (.t 32) cSkip (cExit 0)))
 (cSeq (cBlock 1 (cSeq (cOps [⟨some 35, false, none, iFaddr 0 (.t 1)⟩,
 ⟨some 36, false, none, iLoad (.t 35)⟩,
 ⟨some 37, false, none, iMov (.t 4)⟩,
 ⟨some 38, false, none, iIaddr 6 (.t 36) (.t 37)⟩,
 ⟨some 39, false, none, iLoadN 6 (.t 38)⟩,
 ⟨some 5, true, none, iAlloc 79 [(.int .i64 (.lit 0)), (.int .i64 (.lit 0)), (.int .i64 (.lit 0)), (.int .i64 (.lit 0)), (.int .i64 (.lit 0)), (.int .i64 (.lit 0))]⟩,
 ⟨none, false, none, iStore 6 (.t 5) (.t 39)⟩])
 (cOps [⟨some 40, false, none, iFaddr 0 (.t 5)⟩,
 ⟨some 41, false, none, iLoadN 2 (.t 40)⟩,
 ⟨some 42, false, none, iCall (.c (.func (.func 55) [] [])) [(.t 41), (.c (.int .i64 (.lit 0))), (.c (.int .i64 (.lit 99)))]⟩,
 ⟨some 43, false, none, iMov (.t 42)⟩,
 ⟨some 44, false, some (43, true), iFaddr 2 (.t 5)⟩,
 ⟨some 45, false, some (43, true), iLoadN 2 (.t 44)⟩,
 ⟨some 46, false, some (43, true), iCall (.c (.func (.func 55) [] [])) [(.t 45), (.c (.int .i64 (.lit 0))), (.c (.int .i64 (.lit 99)))]⟩,
 ⟨some 47, false, none, iPick (.t 43) (.t 46) (.c (.bool (.lit false)))⟩,
 ⟨some 48, false, none, iMov (.t 47)⟩,
 ⟨some 49, false, some (48, true), iFaddr 0 (.t 5)⟩,
 ⟨some 50, false, some (48, true), iFaddr 0 (.t 49)⟩,
 ⟨some 51, false, some (48, true), iLoad (.t 50)⟩,
 ⟨some 52, false, some (48, true), iFaddr 2 (.t 5)⟩,
 ⟨some 53, false, some (48, true), iFaddr 1 (.t 52)⟩,
 ⟨some 54, false, some (48, true), iLoad (.t 53)⟩,
 ⟨some 55, false, some (48, true), iCmp .leq (.t 51) (.t 54)⟩,
 ⟨some 56, false, none, iPick (.t 48) (.t 55) (.c (.bool (.lit false)))⟩,
 ⟨some 57, false, none, iMov (.t 56)⟩,
 ⟨some 58, false, some (57, true), iFaddr 4 (.t 5)⟩,
 ⟨some 59, false, some (57, true), iLoadN 2 (.t 58)⟩,
 ⟨some 60, false, some (57, true), iCall (.c (.func (.func 55) [] [])) [(.t 59), (.c (.int .i64 (.lit 1))), (.c (.int .i64 (.lit 1200)))]⟩,
 ⟨some 61, false, none, iPick (.t 57) (.t 60) (.c (.bool (.lit false)))⟩,
 ⟨some 3, true, none, iMov (.t 61)⟩])))
 (cOps [⟨some 33, false, none, iMov (.t 4)⟩,
 ⟨some 34, false, none, iArith .add (.t 33) (.c (.int .i64 (.lit 1)))⟩,
 ⟨some 4, true, none, iMov (.t 34)⟩]))))))
 (cSeq (cSeq (cOps [⟨some 62, false, none, iMov (.t 3)⟩,
 ⟨some 63, true, none, iNot (.t 62)⟩])
 (cCond (.t 63) (cSeq (cOps [⟨some 2, true, none, iMov (.c (.int .i64 (.lit 10)))⟩])
 cRet) cSkip))
 (cSeq (cOps [⟨some 2, true, none, iMov (.c (.int .i64 (.lit 0)))⟩])
 cRet))))), [.t 2]⟩
noncomputable def Tryd.kp43 : List Nat := [0, 1, 4, 5, 9, 17]
noncomputable def Tryd.cf43 : CF := ⟨2, (cSeq (cOps [⟨some 4, true, none, iMov (.c (.int .i64 (.lit 0)))⟩])
 (cSeq (cSeq (cOps [⟨some 5, true, none, iMov (.c (.int .i64 (.lit 0)))⟩])
 (cBlock 0 (cLoop (cSeq (cSeq (cOps [⟨some 6, false, none, iMov (.t 5)⟩,
 ⟨some 7, false, none, iMov (.t 0)⟩,
 ⟨some 8, false, none, iLenS (.t 7)⟩,
 ⟨some 9, true, none, iCmp .lss (.t 6) (.t 8)⟩])
 (cCond (.t 9) cSkip (cExit 0)))
 (cSeq (cBlock 1 (cSeq (cOps [⟨some 12, false, none, iMov (.t 0)⟩,
 ⟨some 13, false, none, iMov (.t 5)⟩,
 ⟨some 14, false, none, iIaddr 1 (.t 12) (.t 13)⟩,
 ⟨some 15, false, none, iLoad (.t 14)⟩,
 ⟨some 16, false, none, iMov (.t 1)⟩,
 ⟨some 17, true, none, iCmp .eql (.t 15) (.t 16)⟩])
 (cCond (.t 17) (cSeq (cOps [⟨some 18, false, none, iMov (.t 5)⟩,
 ⟨some 4, true, none, iMov (.t 18)⟩])
 cRet) cSkip)))
 (cOps [⟨some 10, false, none, iMov (.t 5)⟩,
 ⟨some 11, false, none, iArith .add (.t 10) (.c (.int .i64 (.lit 1)))⟩,
 ⟨some 5, true, none, iMov (.t 11)⟩]))))))
 (cSeq (cOps [⟨some 4, true, none, iMov (.c (.int .i64 (.lit (-1))))⟩])
 cRet))), [.t 4]⟩
noncomputable def Tryd.kp44 : List Nat := [0, 1, 2, 3, 4, 5, 6]
noncomputable def Tryd.cf44 : CF := ⟨3, (cSeq (cOps [⟨some 3, true, none, iBox 42 (.t 0)⟩,
 ⟨some 4, true, none, iBox 3 (.t 1)⟩,
 ⟨some 5, true, none, iBox 3 (.t 2)⟩,
 ⟨some 6, true, none, iAlloc 24 [(.int .i64 (.lit 0)), (.int .i64 (.lit 0))]⟩])
 (cSeq (cOps [⟨some 7, false, none, iFunc (.func 56) [] [(.t 3), (.t 4), (.t 5)]⟩,
 ⟨some 8, false, none, iCall (.c (.func (.func 38) [] [])) [(.t 7)]⟩,
 ⟨none, false, none, iStore 2 (.t 6) (.t 8)⟩])
 cRet)), [.cell 6 true 2]⟩
noncomputable def Tryd.kp45 : List Nat := [0, 1, 2, 4, 5, 7, 9, 10, 11, 12, 22]
noncomputable def Tryd.cf45 : CF := ⟨2, (cSeq (cOps [⟨some 2, true, none, iBox 42 (.t 0)⟩,
 ⟨some 4, true, none, iMov (.c (.bool (.lit false)))⟩])
 (cSeq (cOps [⟨some 8, false, none, iCall (.c (.func (.func 57) [] [])) []⟩,
 ⟨some 5, true, none, iAlloc 93 [(.int .i64 (.lit 0)), (.int .i64 (.lit 0))]⟩,
 ⟨none, false, none, iStore 2 (.t 5) (.t 8)⟩])
 (cSeq (cSeq (cOps [⟨some 9, true, none, iMov (.t 1)⟩,
 ⟨some 10, true, none, iLenS (.t 9)⟩,
 ⟨some 11, true, none, iMov (.c (.int .i64 (.lit 0)))⟩])
 (cBlock 0 (cLoop (cSeq (cOps [⟨some 12, true, none, iCmp .lss (.t 11) (.t 10)⟩])
 (cSeq (cCond (.t 12) cSkip (cExit 0))
 (cSeq (cBlock 1 (cSeq (cOps [⟨some 13, false, none, iIaddr 1 (.t 9) (.t 11)⟩,
 ⟨some 14, false, none, iLoad (.t 13)⟩,
 ⟨some 7, true, none, iMov (.t 14)⟩])
 (cSeq (cOps [⟨some 15, false, none, iLoadN 7 (.t 2)⟩,
 ⟨some 16, false, none, iMov (.t 7)⟩,
 ⟨some 17, false, none, iLoadN 2 (.t 5)⟩,
 ⟨some 18, false, none, iBuild [(.int .i64 (.lit 0)), (.int .i64 (.lit 0)), (.int .i64 (.lit 0))] [(0, 1, (.t 16)), (1, 2, (.t 17))]⟩,
 ⟨some 19, false, none, iCall (.c (.func (.func 58) [] [])) [(.t 15), (.t 18)]⟩,
 ⟨none, false, none, iStore 2 (.t 5) (.t 19)⟩])
 (cSeq (cOps [⟨some 20, false, none, iLoadN 2 (.t 5)⟩,
 ⟨some 21, false, none, iBuild [(.int .i64 (.lit 0)), (.int .i64 (.lit 0))] []⟩,
 ⟨some 22, true, none, iEq false true 2 [(0, .int), (1, .int)] (.t 20) (.t 21)⟩])
 (cCond (.t 22) (cSeq (cOps [⟨some 4, true, none, iMov (.c (.bool (.lit false)))⟩])
 cRet) cSkip)))))
 (cOps [⟨some 23, false, none, iArith .add (.t 11) (.c (.int .i64 (.lit 1)))⟩,
 ⟨some 11, true, none, iMov (.t 23)⟩])))))))
 (cSeq (cOps [⟨some 4, true, none, iMov (.c (.bool (.lit true)))⟩])
 cRet)))), [.t 4]⟩
noncomputable def Tryd.kp46 : List Nat := [0, 1, 2]
noncomputable def Tryd.cf46 : CF := ⟨1, (cSeq (cOps [⟨some 1, true, none, iBox 42 (.t 0)⟩,
 ⟨some 2, true, none, iMov (.c .nilFunc)⟩])
 (cSeq (dOps 0 [⟨⟨some 3, false, none, iLoadN 7 (.t 1)⟩, [1], false, 0, 0, none, []⟩,
 ⟨⟨some 4, false, none, iCall (.c (.func (.func 60) [] [])) [(.t 3), (.c .nilslice)]⟩, [3], true, 0, 0, none, []⟩,
 ⟨⟨some 5, false, none, iLoadN 7 (.t 1)⟩, [1], false, 0, 1, none, []⟩,
 ⟨⟨some 6, false, none, iFunc (.func 58) [(.t 5)] []⟩, [5], false, 0, 1, none, []⟩,
 ⟨⟨some 7, false, none, iCall (.c (.func (.func 59) [] [])) [(.t 4), (.t 6)]⟩, [4, 6], true, 1, 0, none, []⟩,
 ⟨⟨some 2, true, none, iMov (.t 7)⟩, [7], false, 2, 2, none, []⟩])
 cRet)), [.t 2]⟩
noncomputable def Tryd.kp47 : List Nat := [0, 2, 4]
noncomputable def Tryd.cf47 : CF := ⟨1, (cSeq (cOps [⟨some 2, true, none, iMov (.c .nilslice)⟩])
 (cSeq (cSeq (cOps [⟨some 3, false, none, iMov (.t 0)⟩,
 ⟨some 4, true, none, iEq false false 1 [(0, .nilS)] (.t 3) (.c .nilslice)⟩])
 (cCond (.t 4) (cSeq (cOps [⟨some 2, true, none, iMov (.c .nilslice)⟩])
 cRet) cSkip))
 (cSeq (cOps [⟨some 5, false, none, iBslice 3 [(.int .i64 (.lit 0))] 0 []⟩,
 ⟨some 6, false, none, iMov (.t 0)⟩,
 ⟨some 7, false, none, iAppend 3 1 8 (.t 5) (.t 6)⟩,
 ⟨some 2, true, none, iMov (.t 7)⟩])
 cRet))), [.t 2]⟩
noncomputable def Tryd.ra48009 : C := (cOps [⟨some 6, true, none, iMov (.t 9)⟩])
noncomputable def Tryd.rb48009 : C := (cBlock 1 (cOps [⟨some 10, false, none, iMov (.t 6)⟩,
 ⟨some 11, false, none, iLoad (.t 3)⟩,
 ⟨some 12, false, none, iCall (.c (.func (.func 61) [] [])) [(.t 10), (.t 11)]⟩,
 ⟨some 13, false, none, iIaddrA 1 6 (.t 5) (.t 12)⟩,
 ⟨none, false, none, iStore 1 (.t 13) (.c (.bool (.lit true)))⟩]))
noncomputable def Tryd.kp48 : List Nat := [0, 1, 2, 3, 4, 5, 6, 8, 9]
noncomputable def Tryd.cf48 : CF := ⟨2, (cSeq (cOps [⟨some 2, true, none, iBox 42 (.t 0)⟩,
 ⟨some 3, true, none, iBox 3 (.t 1)⟩,
 ⟨some 4, true, none, iAlloc 68 [(.bool (.lit false)), (.bool (.lit false)), (.bool (.lit false)), (.bool (.lit false)), (.bool (.lit false)), (.bool (.lit false))]⟩])
 (cSeq (cOps [⟨some 5, true, none, iAlloc 68 [(.bool (.lit false)), (.bool (.lit false)), (.bool (.lit false)), (.bool (.lit false)), (.bool (.lit false)), (.bool (.lit false))]⟩])
 (cSeq (cSeq (cOps [⟨some 7, false, none, iLoadN 7 (.t 2)⟩,
 ⟨some 8, true, none, iCall (.c (.func (.func 46) [] [])) [(.t 7)]⟩])
 (cBlock 0 (cRange (.t 8) [9] 48009)))
 (cSeq (cOps [⟨some 14, false, none, iLoadN 6 (.t 5)⟩,
 ⟨none, false, none, iStore 6 (.t 4) (.t 14)⟩])
 cRet)))), [.cell 4 true 6]⟩
noncomputable def Tryd.kp49 : List Nat := [0, 1, 2, 3, 4, 5, 6, 10]
noncomputable def Tryd.cf49 : CF := ⟨1, (cSeq (cOps [⟨some 1, true, none, iBox 68 (.t 0)⟩,
 ⟨some 2, true, none, iMov (.c .nilslice)⟩])
 (cSeq (cOps [⟨some 3, true, none, iMov (.c .nilslice)⟩])
 (cSeq (cSeq (cOps [⟨some 5, true, none, iMov (.c (.int .i64 (.lit 0)))⟩])
 (cBlock 0 (cLoop (cSeq (cOps [⟨some 6, true, none, iCmp .lss (.t 5) (.c (.int .i64 (.lit 6)))⟩])
 (cSeq (cCond (.t 6) cSkip (cExit 0))
 (cSeq (cBlock 1 (cSeq (cOps [⟨some 7, false, none, iMov (.t 5)⟩,
 ⟨some 4, true, none, iMov (.t 7)⟩])
 (cSeq (cOps [⟨some 8, false, none, iMov (.t 4)⟩,
 ⟨some 9, false, none, iIaddrA 1 6 (.t 1) (.t 8)⟩,
 ⟨some 10, true, none, iLoad (.t 9)⟩])
 (cCond (.t 10) (cOps [⟨some 11, false, none, iMov (.t 3)⟩,
 ⟨some 12, false, none, iMov (.t 4)⟩,
 ⟨some 13, false, none, iBslice 3 [(.int .i64 (.lit 0))] 1 [(0, 1, (.t 12))]⟩,
 ⟨some 14, false, none, iAppend 3 1 8 (.t 11) (.t 13)⟩,
 ⟨some 3, true, none, iMov (.t 14)⟩]) cSkip))))
 (cOps [⟨some 15, false, none, iArith .add (.t 5) (.c (.int .i64 (.lit 1)))⟩,
 ⟨some 5, true, none, iMov (.t 15)⟩])))))))
 (cSeq (cOps [⟨some 16, false, none, iMov (.t 3)⟩,
 ⟨some 2, true, none, iMov (.t 16)⟩])
 cRet)))), [.t 2]⟩
noncomputable def Tryd.ra50018 : C := (cOps [⟨some 4, true, none, iMov (.t 18)⟩])
noncomputable def Tryd.rb50018 : C := (cBlock 3 (cSeq (dOps 0 [⟨⟨some 19, false, none, iLoadN 7 (.t 1)⟩, [1], false, 0, 1, none, []⟩,
 ⟨⟨some 20, false, none, iLoadN 7 (.t 1)⟩, [1], false, 0, 0, none, []⟩,
 ⟨⟨some 21, false, none, iMov (.t 4)⟩, [4], false, 0, 0, none, []⟩,
 ⟨⟨some 22, false, none, iCall (.c (.func (.func 60) [] [])) [(.t 20), (.t 21)]⟩, [20, 21], true, 0, 0, none, []⟩,
 ⟨⟨some 23, true, none, iCall (.c (.func (.func 63) [] [])) [(.t 19), (.t 22)]⟩, [19, 22], true, 1, 0, none, []⟩])
 (cCond (.t 23) (cSeq (cOps [⟨some 24, false, none, iMov (.t 4)⟩,
 ⟨some 25, false, none, iCall (.c (.func (.func 47) [] [])) [(.t 24)]⟩,
 ⟨none, false, none, iStore 1 (.t 2) (.t 25)⟩])
 cRet) cSkip)))
noncomputable def Tryd.kp50 : List Nat := [0, 1, 2, 3, 4, 8, 9, 10, 17, 18, 23]
noncomputable def Tryd.cf50 : CF := ⟨1, (cSeq (cOps [⟨some 1, true, none, iBox 42 (.t 0)⟩,
 ⟨some 2, true, none, iAlloc 27 [.nilslice]⟩])
 (cSeq (cSeq (cOps [⟨some 5, false, none, iFaddr 0 (.t 1)⟩,
 ⟨some 6, false, none, iFaddr 0 (.t 5)⟩,
 ⟨some 7, false, none, iLoad (.t 6)⟩,
 ⟨some 8, true, none, iLenS (.t 7)⟩,
 ⟨some 9, true, none, iMov (.c (.int .i64 (.lit 0)))⟩])
 (cBlock 0 (cLoop (cSeq (cOps [⟨some 10, true, none, iCmp .lss (.t 9) (.t 8)⟩])
 (cSeq (cCond (.t 10) cSkip (cExit 0))
 (cSeq (cBlock 1 (cSeq (cOps [⟨some 11, false, none, iMov (.t 9)⟩,
 ⟨some 3, true, none, iMov (.t 11)⟩])
 (cSeq (cOps [⟨some 12, false, none, iFaddr 0 (.t 1)⟩,
 ⟨some 13, false, none, iFaddr 0 (.t 12)⟩,
 ⟨some 14, false, none, iLoad (.t 13)⟩,
 ⟨some 15, false, none, iLenS (.t 14)⟩,
 ⟨some 16, false, none, iMov (.t 3)⟩,
 ⟨some 17, true, none, iCall (.c (.func (.func 62) [] [])) [(.t 15), (.t 16)]⟩])
 (cBlock 2 (cRange (.t 17) [18] 50018)))))
 (cOps [⟨some 26, false, none, iArith .add (.t 9) (.c (.int .i64 (.lit 1)))⟩,
 ⟨some 9, true, none, iMov (.t 26)⟩])))))))
 (cSeq (cOps [⟨none, false, none, iStore 1 (.t 2) (.c .nilslice)⟩])
 cRet))), [.cell 2 false 1]⟩
noncomputable def Tryd.kp51 : List Nat := [0, 1, 2]
noncomputable def Tryd.cf51 : CF := ⟨0, (cSeq (cOps [⟨some 0, true, none, iAlloc 72 [.nilFunc, .nilFunc]⟩,
 ⟨some 1, true, none, iAlloc 72 [.nilFunc, .nilFunc]⟩])
 (cSeq (cOps [⟨some 3, false, none, iBuild [.nilFunc, .nilFunc] [(0, 1, (.c (.func (.func 64) [] []))), (1, 1, (.c (.func (.func 65) [] [])))]⟩,
 ⟨some 4, false, none, iBuild [.nilFunc, .nilFunc] [(0, 1, (.c (.func (.func 65) [] []))), (1, 1, (.c (.func (.func 64) [] [])))]⟩,
 ⟨some 5, false, none, iBuild [.nilFunc, .nilFunc, .nilFunc, .nilFunc] [(0, 2, (.t 3)), (2, 2, (.t 4))]⟩,
 ⟨some 2, true, none, iAlloc 103 [.nilFunc, .nilFunc, .nilFunc, .nilFunc]⟩,
 ⟨none, false, none, iStore 4 (.t 2) (.t 5)⟩])
 (cSeq (dOps 0 [⟨⟨some 6, false, none, iIaddrA 2 2 (.t 2) (.c (.int .i64 (.lit 0)))⟩, [2], false, 0, 0, none, []⟩,
 ⟨⟨some 7, false, none, iLoadN 2 (.t 6)⟩, [6], false, 0, 0, none, []⟩,
 ⟨⟨some 8, false, none, iIaddrA 2 2 (.t 2) (.c (.int .i64 (.lit 1)))⟩, [2], false, 0, 1, none, []⟩,
 ⟨⟨some 9, false, none, iLoadN 2 (.t 8)⟩, [8], false, 0, 1, none, []⟩,
 ⟨⟨none, false, none, iStore 2 (.t 0) (.t 7)⟩, [0, 7], true, 0, 0, none, []⟩,
 ⟨⟨none, false, none, iStore 2 (.t 1) (.t 9)⟩, [1, 9], true, 1, 0, none, []⟩])
 cRet))), [.cell 0 true 2, .cell 1 true 2]⟩
noncomputable def Tryd.kp52 : List Nat := [0, 1, 2, 3, 4, 7, 8, 9, 10, 11, 19]
noncomputable def Tryd.cf52 : CF := ⟨4, (cSeq (cOps [⟨some 4, true, none, iBox 42 (.t 0)⟩,
 ⟨some 7, true, none, iBox 72 (.t 3)⟩,
 ⟨some 8, true, none, iMov (.c (.int .i64 (.lit 0)))⟩])
 (cSeq (cSeq (cOps [⟨some 10, true, none, iMov (.c (.int .i64 (.lit 0)))⟩])
 (cBlock 0 (cLoop (cSeq (cOps [⟨some 11, true, none, iCmp .lss (.t 10) (.c (.int .i64 (.lit 1000)))⟩])
 (cSeq (cCond (.t 11) cSkip (cExit 0))
 (cSeq (cBlock 1 (cSeq (cOps [⟨some 12, false, none, iMov (.t 10)⟩,
 ⟨some 9, true, none, iMov (.t 12)⟩])
 (cSeq (cOps [⟨some 13, false, none, iLoadN 7 (.t 4)⟩,
 ⟨some 14, false, none, iMov (.t 1)⟩,
 ⟨some 15, false, none, iMov (.t 9)⟩,
 ⟨some 16, false, none, iLoadN 2 (.t 7)⟩,
 ⟨some 17, false, none, iCall (.c (.func (.func 40) [] [])) [(.t 13), (.t 14), (.t 15), (.t 16)]⟩,
 ⟨some 18, false, none, iMov (.t 2)⟩,
 ⟨some 19, true, none, iCmp .lss (.t 17) (.t 18)⟩])
 (cCond (.t 19) (cSeq (cOps [⟨some 20, false, none, iMov (.t 9)⟩,
 ⟨some 21, false, none, iArith .sub (.t 20) (.c (.int .i64 (.lit 1)))⟩,
 ⟨some 8, true, none, iMov (.t 21)⟩])
 cRet) cSkip))))
 (cOps [⟨some 22, false, none, iArith .add (.t 10) (.c (.int .i64 (.lit 1)))⟩,
 ⟨some 10, true, none, iMov (.t 22)⟩])))))))
 (cSeq (cOps [⟨some 8, true, none, iMov (.c (.int .i64 (.lit 999)))⟩])
 cRet))), [.t 8]⟩
noncomputable def Tryd.kp53 : List Nat := [0, 1, 2, 3, 6, 7, 8, 9, 10, 11, 26, 28]
noncomputable def Tryd.cf53 : CF := ⟨3, (cSeq (cOps [⟨some 3, true, none, iBox 42 (.t 0)⟩,
 ⟨some 6, true, none, iAlloc 24 [(.int .i64 (.lit 0)), (.int .i64 (.lit 0))]⟩,
 ⟨some 7, true, none, iMov (.c (.bool (.lit false)))⟩])
 (cSeq (cSeq (cOps [⟨some 10, true, none, iMov (.c (.int .i64 (.lit 0)))⟩])
 (cBlock 0 (cLoop (cSeq (cOps [⟨some 11, true, none, iCmp .lss (.t 10) (.c (.int .i64 (.lit 1000)))⟩])
 (cSeq (cCond (.t 11) cSkip (cExit 0))
 (cSeq (cBlock 1 (cSeq (cOps [⟨some 12, false, none, iMov (.t 10)⟩,
 ⟨some 8, true, none, iMov (.t 12)⟩])
 (cSeq (cOps [⟨some 13, false, none, iLoadN 7 (.t 3)⟩,
 ⟨some 14, false, none, iMov (.t 1)⟩,
 ⟨some 15, false, none, iMov (.t 8)⟩,
 ⟨some 16, false, none, iCall (.c (.func (.func 44) [] [])) [(.t 13), (.t 14), (.t 15)]⟩,
 ⟨some 9, true, none, iAlloc 24 [(.int .i64 (.lit 0)), (.int .i64 (.lit 0))]⟩,
 ⟨none, false, none, iStore 2 (.t 9) (.t 16)⟩])
 (cSeq (cSeq (cOps [⟨some 17, false, none, iMov (.t 2)⟩,
 ⟨some 18, false, none, iFaddr 0 (.t 9)⟩,
 ⟨some 19, false, none, iLoad (.t 18)⟩,
 ⟨some 20, false, none, iCmp .lss (.t 17) (.t 19)⟩,
 ⟨some 21, false, none, iMov (.t 20)⟩,
 ⟨some 22, false, some (21, false), iMov (.t 2)⟩,
 ⟨some 23, false, some (21, false), iFaddr 1 (.t 9)⟩,
 ⟨some 24, false, some (21, false), iLoad (.t 23)⟩,
 ⟨some 25, false, some (21, false), iCmp .gtr (.t 22) (.t 24)⟩,
 ⟨some 26, true, none, iPick (.t 21) (.c (.bool (.lit true))) (.t 25)⟩])
 (cCond (.t 26) (cExit 1) cSkip))
 (cSeq (cSeq (cOps [⟨some 27, false, none, iMov (.t 7)⟩,
 ⟨some 28, true, none, iNot (.t 27)⟩])
 (cCond (.t 28) (cOps [⟨some 29, false, none, iMov (.t 8)⟩,
 ⟨some 30, false, none, iFaddr 0 (.t 6)⟩,
 ⟨none, false, none, iStore 1 (.t 30) (.t 29)⟩]) cSkip))
 (cOps [⟨some 31, false, none, iMov (.t 8)⟩,
 ⟨some 32, false, none, iFaddr 1 (.t 6)⟩,
 ⟨none, false, none, iStore 1 (.t 32) (.t 31)⟩,
 ⟨some 7, true, none, iMov (.c (.bool (.lit true)))⟩]))))))
 (cOps [⟨some 33, false, none, iArith .add (.t 10) (.c (.int .i64 (.lit 1)))⟩,
 ⟨some 10, true, none, iMov (.t 33)⟩])))))))
 (cSeq (cOps [⟨some 34, false, none, iLoadN 2 (.t 6)⟩,
 ⟨some 35, false, none, iMov (.t 7)⟩,
 ⟨none, false, none, iStore 2 (.t 6) (.t 34)⟩,
 ⟨some 7, true, none, iMov (.t 35)⟩])
 cRet))), [.cell 6 true 2, .t 7]⟩
noncomputable def Tryd.kp54 : List Nat := [0, 1, 2, 4, 5, 6, 16, 18, 19, 20, 21, 26, 32, 33, 34, 42]
noncomputable def Tryd.cf54 : CF := ⟨1, (cSeq (cOps [⟨some 1, true, none, iBox 26 (.t 0)⟩,
 ⟨some 2, true, none, iMov (.c (.bool (.lit false)))⟩])
 (cSeq (cSeq (cOps [⟨some 7, false, none, iFaddr 0 (.t 1)⟩,
 ⟨some 8, false, none, iLoad (.t 7)⟩,
 ⟨some 9, false, none, iLenS (.t 8)⟩,
 ⟨some 10, false, none, iCmp .lss (.t 9) (.c (.int .i64 (.lit 1)))⟩,
 ⟨some 11, false, none, iMov (.t 10)⟩,
 ⟨some 12, false, some (11, false), iFaddr 0 (.t 1)⟩,
 ⟨some 13, false, some (11, false), iLoad (.t 12)⟩,
 ⟨some 14, false, some (11, false), iLenS (.t 13)⟩,
 ⟨some 15, false, some (11, false), iCmp .gtr (.t 14) (.c (.int .i64 (.lit 6)))⟩,
 ⟨some 16, true, none, iPick (.t 11) (.c (.bool (.lit true))) (.t 15)⟩])
 (cCond (.t 16) (cSeq (cOps [⟨some 2, true, none, iMov (.c (.bool (.lit false)))⟩])
 cRet) cSkip))
 (cSeq (cSeq (cOps [⟨some 17, false, none, iFaddr 0 (.t 1)⟩,
 ⟨some 18, true, none, iLoad (.t 17)⟩,
 ⟨some 19, true, none, iLenS (.t 18)⟩,
 ⟨some 20, true, none, iMov (.c (.int .i64 (.lit 0)))⟩])
 (cBlock 0 (cLoop (cSeq (cOps [⟨some 21, true, none, iCmp .lss (.t 20) (.t 19)⟩])
 (cSeq (cCond (.t 21) cSkip (cExit 0))
 (cSeq (cBlock 1 (cSeq (cOps [⟨some 22, false, none, iIaddr 6 (.t 18) (.t 20)⟩,
 ⟨some 23, false, none, iLoadN 6 (.t 22)⟩,
 ⟨some 4, true, none, iAlloc 79 [(.int .i64 (.lit 0)), (.int .i64 (.lit 0)), (.int .i64 (.lit 0)), (.int .i64 (.lit 0)), (.int .i64 (.lit 0)), (.int .i64 (.lit 0))]⟩,
 ⟨none, false, none, iStore 6 (.t 4) (.t 23)⟩])
 (cSeq (cOps [⟨some 24, false, none, iLoadN 6 (.t 4)⟩,
 ⟨some 25, false, none, iCall (.c (.func (.func 66) [] [])) [(.t 24)]⟩,
 ⟨some 26, true, none, iNot (.t 25)⟩])
 (cCond (.t 26) (cSeq (cOps [⟨some 2, true, none, iMov (.c (.bool (.lit false)))⟩])
 cRet) cSkip))))
 (cOps [⟨some 27, false, none, iArith .add (.t 20) (.c (.int .i64 (.lit 1)))⟩,
 ⟨some 20, true, none, iMov (.t 27)⟩])))))))
 (cSeq (cSeq (cOps [⟨some 28, false, none, iFaddr 1 (.t 1)⟩,
 ⟨some 29, false, none, iLoadN 2 (.t 28)⟩,
 ⟨some 30, false, none, iFaddr 3 (.t 1)⟩,
 ⟨some 31, false, none, iLoadN 2 (.t 30)⟩,
 ⟨some 32, true, none, iBuild [(.int .i64 (.lit 0)), (.int .i64 (.lit 0)), (.int .i64 (.lit 0)), (.int .i64 (.lit 0))] [(0, 2, (.t 29)), (2, 2, (.t 31))]⟩,
 ⟨some 33, true, none, iMov (.c (.int .i64 (.lit 0)))⟩])
 (cBlock 2 (cLoop (cSeq (cOps [⟨some 34, true, none, iCmp .lss (.t 33) (.c (.int .i64 (.lit 2)))⟩])
 (cSeq (cCond (.t 34) cSkip (cExit 2))
 (cSeq (cBlock 3 (cSeq (cOps [⟨some 35, false, none, iMov (.t 33)⟩,
 ⟨some 36, false, none, iIndex true 2 2 (.t 32) (.t 33)⟩,
 ⟨some 6, true, none, iAlloc 24 [(.int .i64 (.lit 0)), (.int .i64 (.lit 0))]⟩,
 ⟨some 5, true, none, iMov (.t 35)⟩,
 ⟨none, false, none, iStore 2 (.t 6) (.t 36)⟩])
 (cSeq (dOps 0 [⟨⟨some 37, false, none, iLoadN 2 (.t 6)⟩, [6], false, 0, 0, none, []⟩,
 ⟨⟨some 38, false, none, iMov (.t 5)⟩, [5], false, 0, 0, none, []⟩,
 ⟨⟨some 39, false, none, iIaddrA 2 2 (.c (.ptr 0 0)) (.t 38)⟩, [38], false, 0, 0, none, []⟩,
 ⟨⟨some 40, false, none, iLoadN 2 (.t 39)⟩, [39], false, 0, 0, none, []⟩,
 ⟨⟨some 41, false, none, iCall (.c (.func (.func 67) [] [])) [(.t 37), (.t 40)]⟩, [37, 40], true, 0, 0, none, []⟩,
 ⟨⟨some 42, true, none, iNot (.t 41)⟩, [41], false, 1, 1, none, []⟩])
 (cCond (.t 42) (cSeq (cOps [⟨some 2, true, none, iMov (.c (.bool (.lit false)))⟩])
 cRet) cSkip))))
 (cOps [⟨some 43, false, none, iArith .add (.t 33) (.c (.int .i64 (.lit 1)))⟩,
 ⟨some 33, true, none, iMov (.t 43)⟩])))))))
 (cSeq (cOps [⟨some 44, false, none, iFaddr 5 (.t 1)⟩,
 ⟨some 45, false, none, iLoad (.t 44)⟩,
 ⟨some 46, false, none, iCmp .geq (.t 45) (.c (.int .i64 (.lit 1)))⟩,
 ⟨some 47, false, none, iMov (.t 46)⟩,
 ⟨some 48, false, some (47, true), iFaddr 5 (.t 1)⟩,
 ⟨some 49, false, some (47, true), iLoad (.t 48)⟩,
 ⟨some 50, false, some (47, true), iCmp .leq (.t 49) (.c (.int .i64 (.lit 6000)))⟩,
 ⟨some 51, false, none, iPick (.t 47) (.t 50) (.c (.bool (.lit false)))⟩,
 ⟨some 2, true, none, iMov (.t 51)⟩])
 cRet))))), [.t 2]⟩
noncomputable def Tryd.kp55 : List Nat := [0, 1, 2, 3, 6]
noncomputable def Tryd.cf55 : CF := ⟨3, (cSeq (cOps [⟨some 3, true, none, iBox 24 (.t 0)⟩,
 ⟨some 6, true, none, iMov (.c (.bool (.lit false)))⟩])
 (cSeq (cOps [⟨some 7, false, none, iMov (.t 1)⟩,
 ⟨some 8, false, none, iFaddr 0 (.t 3)⟩,
 ⟨some 9, false, none, iLoad (.t 8)⟩,
 ⟨some 10, false, none, iCmp .leq (.t 7) (.t 9)⟩,
 ⟨some 11, false, none, iMov (.t 10)⟩,
 ⟨some 12, false, some (11, true), iFaddr 0 (.t 3)⟩,
 ⟨some 13, false, some (11, true), iLoad (.t 12)⟩,
 ⟨some 14, false, some (11, true), iFaddr 1 (.t 3)⟩,
 ⟨some 15, false, some (11, true), iLoad (.t 14)⟩,
 ⟨some 16, false, some (11, true), iCmp .leq (.t 13) (.t 15)⟩,
 ⟨some 17, false, none, iPick (.t 11) (.t 16) (.c (.bool (.lit false)))⟩,
 ⟨some 18, false, none, iMov (.t 17)⟩,
 ⟨some 19, false, some (18, true), iFaddr 1 (.t 3)⟩,
 ⟨some 20, false, some (18, true), iLoad (.t 19)⟩,
 ⟨some 21, false, some (18, true), iMov (.t 2)⟩,
 ⟨some 22, false, some (18, true), iCmp .leq (.t 20) (.t 21)⟩,
 ⟨some 23, false, none, iPick (.t 18) (.t 22) (.c (.bool (.lit false)))⟩,
 ⟨some 6, true, none, iMov (.t 23)⟩])
 cRet)), [.t 6]⟩
noncomputable def Tryd.kp56 : List Nat := [0, 1, 2, 3, 4, 5]
noncomputable def Tryd.cf56 : CF := ⟨4, (cSeq (cOps [⟨some 4, true, none, iBox 72 (.t 0)⟩,
 ⟨some 5, true, none, iMov (.c (.int .i64 (.lit 0)))⟩])
 (cSeq (cOps [⟨some 6, false, none, iLoadN 7 (.t 1)⟩,
 ⟨some 7, false, none, iLoad (.t 2)⟩,
 ⟨some 8, false, none, iLoad (.t 3)⟩,
 ⟨some 9, false, none, iLoadN 2 (.t 4)⟩,
 ⟨some 10, false, none, iCall (.c (.func (.func 40) [] [])) [(.t 6), (.t 7), (.t 8), (.t 9)]⟩,
 ⟨some 5, true, none, iMov (.t 10)⟩])
 cRet)), [.t 5]⟩
noncomputable def Tryd.kp57 : List Nat := [0]
noncomputable def Tryd.cf57 : CF := ⟨0, (cSeq (cOps [⟨some 0, true, none, iAlloc 93 [(.int .i64 (.lit 0)), (.int .i64 (.lit 0))]⟩])
 (cSeq (cOps [⟨some 1, false, none, iBuild [(.int .i64 (.lit 0)), (.int .i64 (.lit 0))] [(0, 1, (.c (.int .i64 (.lit 0)))), (1, 1, (.c (.int .i64 (.lit 100))))]⟩,
 ⟨none, false, none, iStore 2 (.t 0) (.t 1)⟩])
 cRet)), [.cell 0 true 2]⟩
noncomputable def Tryd.kp58 : List Nat := [0, 1, 2, 3, 4, 5, 6, 7, 8, 9, 10, 18, 54]
noncomputable def Tryd.cf58 : CF := ⟨2, (cSeq (cOps [⟨some 2, true, none, iBox 42 (.t 0)⟩,
 ⟨some 3, true, none, iBox 97 (.t 1)⟩,
 ⟨some 4, true, none, iAlloc 93 [(.int .i64 (.lit 0)), (.int .i64 (.lit 0))]⟩])
 (cSeq (cSeq (cOps [⟨some 12, false, none, iFaddr 6 (.t 2)⟩,
 ⟨some 13, false, none, iLoad (.t 12)⟩,
 ⟨some 14, false, none, iLoadN 3 (.t 3)⟩,
 ⟨some 15, false, none, iLookup (.agg [(.int .i64 (.lit 0)), (.int .i64 (.lit 0))]) true 3 [(0, .int), (1, .int), (2, .int)] true (.t 13) (.t 14)⟩,
 ⟨some 11, false, none, iMov (.t 15)⟩,
 ⟨some 16, false, none, iExtract 0 (.t 11)⟩,
 ⟨some 17, false, none, iExtract 1 (.t 11)⟩,
 ⟨some 5, true, none, iAlloc 93 [(.int .i64 (.lit 0)), (.int .i64 (.lit 0))]⟩,
 ⟨none, false, none, iStore 2 (.t 5) (.t 16)⟩,
 ⟨some 6, true, none, iMov (.t 17)⟩])
 (cSeq (cOps [⟨some 18, true, none, iMov (.t 6)⟩])
 (cCond (.t 18) (cSeq (cOps [⟨some 19, false, none, iLoadN 2 (.t 5)⟩,
 ⟨none, false, none, iStore 2 (.t 4) (.t 19)⟩])
 cRet) cSkip)))
 (cSeq (cOps [⟨some 20, false, none, iFaddr 0 (.t 2)⟩,
 ⟨some 21, false, none, iFaddr 0 (.t 20)⟩,
 ⟨some 22, false, none, iLoad (.t 21)⟩,
 ⟨some 23, false, none, iFaddr 0 (.t 3)⟩,
 ⟨some 24, false, none, iLoad (.t 23)⟩,
 ⟨some 25, false, none, iIaddr 6 (.t 22) (.t 24)⟩,
 ⟨some 26, false, none, iLoadN 6 (.t 25)⟩,
 ⟨some 7, true, none, iAlloc 79 [(.int .i64 (.lit 0)), (.int .i64 (.lit 0)), (.int .i64 (.lit 0)), (.int .i64 (.lit 0)), (.int .i64 (.lit 0)), (.int .i64 (.lit 0))]⟩,
 ⟨none, false, none, iStore 6 (.t 7) (.t 26)⟩])
 (cSeq (cOps [⟨some 27, false, none, iFaddr 1 (.t 3)⟩,
 ⟨some 28, false, none, iFaddr 0 (.t 27)⟩,
 ⟨some 29, false, none, iLoad (.t 28)⟩,
 ⟨some 30, false, none, iFaddr 0 (.t 7)⟩,
 ⟨some 31, false, none, iFaddr 0 (.t 30)⟩,
 ⟨some 32, false, none, iLoad (.t 31)⟩,
 ⟨some 33, false, none, iMax [(.t 29), (.t 32)]⟩,
 ⟨some 8, true, none, iMov (.t 33)⟩])
 (cSeq (cOps [⟨some 34, false, none, iMov (.t 8)⟩,
 ⟨some 35, false, none, iFaddr 2 (.t 7)⟩,
 ⟨some 36, false, none, iFaddr 0 (.t 35)⟩,
 ⟨some 37, false, none, iLoad (.t 36)⟩,
 ⟨some 38, false, none, iMax [(.t 34), (.t 37)]⟩,
 ⟨some 9, true, none, iMov (.t 38)⟩])
 (cSeq (cOps [⟨some 10, true, none, iAlloc 93 [(.int .i64 (.lit 0)), (.int .i64 (.lit 0))]⟩])
 (cSeq (cSeq (cOps [⟨some 39, false, none, iMov (.t 8)⟩,
 ⟨some 40, false, none, iFaddr 1 (.t 3)⟩,
 ⟨some 41, false, none, iFaddr 1 (.t 40)⟩,
 ⟨some 42, false, none, iLoad (.t 41)⟩,
 ⟨some 43, false, none, iFaddr 0 (.t 7)⟩,
 ⟨some 44, false, none, iFaddr 1 (.t 43)⟩,
 ⟨some 45, false, none, iLoad (.t 44)⟩,
 ⟨some 46, false, none, iMin [(.t 42), (.t 45)]⟩,
 ⟨some 47, false, none, iCmp .leq (.t 39) (.t 46)⟩,
 ⟨some 48, false, none, iMov (.t 47)⟩,
 ⟨some 49, false, some (48, true), iMov (.t 9)⟩,
 ⟨some 50, false, some (48, true), iFaddr 2 (.t 7)⟩,
 ⟨some 51, false, some (48, true), iFaddr 1 (.t 50)⟩,
 ⟨some 52, false, some (48, true), iLoad (.t 51)⟩,
 ⟨some 53, false, some (48, true), iCmp .leq (.t 49) (.t 52)⟩,
 ⟨some 54, true, none, iPick (.t 48) (.t 53) (.c (.bool (.lit false)))⟩])
 (cCond (.t 54) (cOps [⟨some 55, false, none, iMov (.t 9)⟩,
 ⟨some 56, false, none, iFaddr 2 (.t 7)⟩,
 ⟨some 57, false, none, iFaddr 1 (.t 56)⟩,
 ⟨some 58, false, none, iLoad (.t 57)⟩,
 ⟨some 59, false, none, iArith .add (.t 58) (.c (.int .i64 (.lit 1)))⟩,
 ⟨some 60, false, none, iBuild [(.int .i64 (.lit 0)), (.int .i64 (.lit 0))] [(0, 1, (.t 55)), (1, 1, (.t 59))]⟩,
 ⟨none, false, none, iStore 2 (.t 10) (.t 60)⟩]) cSkip))
 (cSeq (cOps [⟨some 61, false, none, iFaddr 6 (.t 2)⟩,
 ⟨some 62, false, none, iLoad (.t 61)⟩,
 ⟨some 63, false, none, iLoadN 3 (.t 3)⟩,
 ⟨some 64, false, none, iLoadN 2 (.t 10)⟩,
 ⟨none, false, none, iMapset true 3 [(0, .int), (1, .int), (2, .int)] (.t 62) (.t 63) (.t 64)⟩])
 (cSeq (cOps [⟨some 65, false, none, iLoadN 2 (.t 10)⟩,
 ⟨none, false, none, iStore 2 (.t 4) (.t 65)⟩])
 cRet))))))))), [.cell 4 true 2]⟩
noncomputable def Tryd.kp59 : List Nat := [0, 1, 2, 3, 4]
noncomputable def Tryd.cf59 : CF := ⟨2, (cSeq (cOps [⟨some 2, true, none, iBox 68 (.t 0)⟩,
 ⟨some 3, true, none, iBox 95 (.t 1)⟩,
 ⟨some 4, true, none, iMov (.c .nilFunc)⟩])
 (cSeq (cOps [⟨some 5, false, none, iFunc (.func 68) [] [(.t 3), (.t 2)]⟩,
 ⟨some 4, true, none, iMov (.t 5)⟩])
 cRet)), [.t 4]⟩
noncomputable def Tryd.kp60 : List Nat := [0, 1, 2, 4, 5, 6, 10, 11, 12]
noncomputable def Tryd.cf60 : CF := ⟨2, (cSeq (cOps [⟨some 2, true, none, iBox 42 (.t 0)⟩,
 ⟨some 4, true, none, iAlloc 68 [(.bool (.lit false)), (.bool (.lit false)), (.bool (.lit false)), (.bool (.lit false)), (.bool (.lit false)), (.bool (.lit false))]⟩])
 (cSeq (cOps [⟨some 5, true, none, iAlloc 68 [(.bool (.lit false)), (.bool (.lit false)), (.bool (.lit false)), (.bool (.lit false)), (.bool (.lit false)), (.bool (.lit false))]⟩])
 (cSeq (cSeq (cOps [⟨some 7, false, none, iFaddr 0 (.t 2)⟩,
 ⟨some 8, false, none, iFaddr 0 (.t 7)⟩,
 ⟨some 9, false, none, iLoad (.t 8)⟩,
 ⟨some 10, true, none, iLenS (.t 9)⟩,
 ⟨some 11, true, none, iMov (.c (.int .i64 (.lit 0)))⟩])
 (cBlock 0 (cLoop (cSeq (cOps [⟨some 12, true, none, iCmp .lss (.t 11) (.t 10)⟩])
 (cSeq (cCond (.t 12) cSkip (cExit 0))
 (cSeq (cBlock 1 (cSeq (cOps [⟨some 13, false, none, iMov (.t 11)⟩,
 ⟨some 6, true, none, iMov (.t 13)⟩])
 (cOps [⟨some 14, false, none, iMov (.t 6)⟩,
 ⟨some 15, false, none, iMov (.t 1)⟩,
 ⟨some 16, false, none, iMov (.t 6)⟩,
 ⟨some 17, false, none, iCall (.c (.func (.func 70) [] [])) [(.t 15), (.t 16)]⟩,
 ⟨some 18, false, none, iNot (.t 17)⟩,
 ⟨some 19, false, none, iIaddrA 1 6 (.t 5) (.t 14)⟩,
 ⟨none, false, none, iStore 1 (.t 19) (.t 18)⟩])))
 (cOps [⟨some 20, false, none, iArith .add (.t 11) (.c (.int .i64 (.lit 1)))⟩,
 ⟨some 11, true, none, iMov (.t 20)⟩])))))))
 (cSeq (cOps [⟨some 21, false, none, iLoadN 6 (.t 5)⟩,
 ⟨none, false, none, iStore 6 (.t 4) (.t 21)⟩])
 cRet)))), [.cell 4 true 6]⟩
noncomputable def Tryd.kp61 : List Nat := [0, 1, 4, 5, 7, 8, 9, 16]
noncomputable def Tryd.cf61 : CF := ⟨2, (cSeq (cOps [⟨some 4, true, none, iMov (.c (.int .i64 (.lit 0)))⟩])
 (cSeq (cSeq (cOps [⟨some 6, false, none, iMov (.t 0)⟩,
 ⟨some 7, true, none, iLenS (.t 6)⟩,
 ⟨some 8, true, none, iMov (.c (.int .i64 (.lit 0)))⟩])
 (cBlock 0 (cLoop (cSeq (cOps [⟨some 9, true, none, iCmp .lss (.t 8) (.t 7)⟩])
 (cSeq (cCond (.t 9) cSkip (cExit 0))
 (cSeq (cBlock 1 (cSeq (cOps [⟨some 10, false, none, iMov (.t 8)⟩,
 ⟨some 5, true, none, iMov (.t 10)⟩])
 (cSeq (cOps [⟨some 11, false, none, iMov (.t 1)⟩,
 ⟨some 12, false, none, iMov (.t 0)⟩,
 ⟨some 13, false, none, iMov (.t 5)⟩,
 ⟨some 14, false, none, iIaddr 1 (.t 12) (.t 13)⟩,
 ⟨some 15, false, none, iLoad (.t 14)⟩,
 ⟨some 16, true, none, iCmp .eql (.t 11) (.t 15)⟩])
 (cCond (.t 16) (cSeq (cOps [⟨some 17, false, none, iMov (.t 5)⟩,
 ⟨some 4, true, none, iMov (.t 17)⟩])
 cRet) cSkip))))
 (cOps [⟨some 18, false, none, iArith .add (.t 8) (.c (.int .i64 (.lit 1)))⟩,
 ⟨some 8, true, none, iMov (.t 18)⟩])))))))
 (cSeq (cOps [⟨some 4, true, none, iMov (.c (.int .i64 (.lit (-1))))⟩])
 cRet))), [.t 4]⟩
noncomputable def Tryd.kp62 : List Nat := [0, 1, 2, 3, 4]
noncomputable def Tryd.cf62 : CF := ⟨2, (cSeq (cOps [⟨some 2, true, none, iBox 3 (.t 0)⟩,
 ⟨some 3, true, none, iBox 3 (.t 1)⟩,
 ⟨some 4, true, none, iMov (.c .nilFunc)⟩])
 (cSeq (cOps [⟨some 5, false, none, iFunc (.func 71) [] [(.t 3), (.t 2)]⟩,
 ⟨some 4, true, none, iMov (.t 5)⟩])
 cRet)), [.t 4]⟩
noncomputable def Tryd.ra63009 : C := cSkip
noncomputable def Tryd.rb63009 : C := (cBlock 1 (cSeq (cOps [⟨none, false, none, iStore 1 (.t 4) (.c (.bool (.lit true)))⟩])
 cRet))
noncomputable def Tryd.kp63 : List Nat := [0, 1, 2, 3, 4, 8, 9]
noncomputable def Tryd.cf63 : CF := ⟨2, (cSeq (cOps [⟨some 2, true, none, iBox 42 (.t 0)⟩,
 ⟨some 3, true, none, iBox 68 (.t 1)⟩,
 ⟨some 4, true, none, iAlloc 4 [(.bool (.lit false))]⟩])
 (cSeq (cSeq (cOps [⟨some 5, false, none, iLoadN 6 (.t 3)⟩,
 ⟨some 6, false, none, iLoadN 7 (.t 2)⟩,
 ⟨some 7, false, none, iFunc (.func 58) [(.t 6)] []⟩,
 ⟨some 8, true, none, iCall (.c (.func (.func 59) [] [])) [(.t 5), (.t 7)]⟩])
 (cBlock 0 (cRange (.t 8) [9] 63009)))
 (cSeq (cOps [⟨none, false, none, iStore 1 (.t 4) (.c (.bool (.lit false)))⟩])
 cRet))), [.cell 4 false 1]⟩
noncomputable def Tryd.kp64 : List Nat := [0, 1, 2]
noncomputable def Tryd.cf64 : CF := ⟨1, (cSeq (cOps [⟨some 1, true, none, iBox 75 (.t 0)⟩,
 ⟨some 2, true, none, iMov (.c (.int .i64 (.lit 0)))⟩])
 (cSeq (cOps [⟨some 3, false, none, iFaddr 0 (.t 1)⟩,
 ⟨some 4, false, none, iLoad (.t 3)⟩,
 ⟨some 2, true, none, iMov (.t 4)⟩])
 cRet)), [.t 2]⟩
noncomputable def Tryd.kp65 : List Nat := [0, 1, 2]
noncomputable def Tryd.cf65 : CF := ⟨1, (cSeq (cOps [⟨some 1, true, none, iBox 75 (.t 0)⟩,
 ⟨some 2, true, none, iMov (.c (.int .i64 (.lit 0)))⟩])
 (cSeq (cOps [⟨some 3, false, none, iFaddr 1 (.t 1)⟩,
 ⟨some 4, false, none, iLoad (.t 3)⟩,
 ⟨some 2, true, none, iMov (.t 4)⟩])
 cRet)), [.t 2]⟩
noncomputable def Tryd.kp66 : List Nat := [0, 1, 2, 3, 4, 11, 12, 13, 21]
noncomputable def Tryd.cf66 : CF := ⟨1, (cSeq (cOps [⟨some 1, true, none, iBox 79 (.t 0)⟩,
 ⟨some 2, true, none, iMov (.c (.bool (.lit false)))⟩])
 (cSeq (cSeq (cOps [⟨some 5, false, none, iFaddr 0 (.t 1)⟩,
 ⟨some 6, false, none, iLoadN 2 (.t 5)⟩,
 ⟨some 7, false, none, iFaddr 2 (.t 1)⟩,
 ⟨some 8, false, none, iLoadN 2 (.t 7)⟩,
 ⟨some 9, false, none, iFaddr 4 (.t 1)⟩,
 ⟨some 10, false, none, iLoadN 2 (.t 9)⟩,
 ⟨some 11, true, none, iBuild [(.int .i64 (.lit 0)), (.int .i64 (.lit 0)), (.int .i64 (.lit 0)), (.int .i64 (.lit 0)), (.int .i64 (.lit 0)), (.int .i64 (.lit 0))] [(0, 2, (.t 6)), (2, 2, (.t 8)), (4, 2, (.t 10))]⟩,
 ⟨some 12, true, none, iMov (.c (.int .i64 (.lit 0)))⟩])
 (cBlock 0 (cLoop (cSeq (cOps [⟨some 13, true, none, iCmp .lss (.t 12) (.c (.int .i64 (.lit 3)))⟩])
 (cSeq (cCond (.t 13) cSkip (cExit 0))
 (cSeq (cBlock 1 (cSeq (cOps [⟨some 14, false, none, iMov (.t 12)⟩,
 ⟨some 15, false, none, iIndex true 2 3 (.t 11) (.t 12)⟩,
 ⟨some 4, true, none, iAlloc 24 [(.int .i64 (.lit 0)), (.int .i64 (.lit 0))]⟩,
 ⟨some 3, true, none, iMov (.t 14)⟩,
 ⟨none, false, none, iStore 2 (.t 4) (.t 15)⟩])
 (cSeq (dOps 0 [⟨⟨some 16, false, none, iLoadN 2 (.t 4)⟩, [4], false, 0, 0, none, []⟩,
 ⟨⟨some 17, false, none, iMov (.t 3)⟩, [3], false, 0, 0, none, []⟩,
 ⟨⟨some 18, false, none, iIaddrA 2 3 (.c (.ptr 1 0)) (.t 17)⟩, [17], false, 0, 0, none, []⟩,
 ⟨⟨some 19, false, none, iLoadN 2 (.t 18)⟩, [18], false, 0, 0, none, []⟩,
 ⟨⟨some 20, false, none, iCall (.c (.func (.func 67) [] [])) [(.t 16), (.t 19)]⟩, [16, 19], true, 0, 0, none, []⟩,
 ⟨⟨some 21, true, none, iNot (.t 20)⟩, [20], false, 1, 1, none, []⟩])
 (cCond (.t 21) (cSeq (cOps [⟨some 2, true, none, iMov (.c (.bool (.lit false)))⟩])
 cRet) cSkip))))
 (cOps [⟨some 22, false, none, iArith .add (.t 12) (.c (.int .i64 (.lit 1)))⟩,
 ⟨some 12, true, none, iMov (.t 22)⟩])))))))
 (cSeq (cOps [⟨some 23, false, none, iFaddr 0 (.t 1)⟩,
 ⟨some 24, false, none, iFaddr 0 (.t 23)⟩,
 ⟨some 25, false, none, iLoad (.t 24)⟩,
 ⟨some 26, false, none, iFaddr 2 (.t 1)⟩,
 ⟨some 27, false, none, iFaddr 1 (.t 26)⟩,
 ⟨some 28, false, none, iLoad (.t 27)⟩,
 ⟨some 29, false, none, iCmp .leq (.t 25) (.t 28)⟩,
 ⟨some 2, true, none, iMov (.t 29)⟩])
 cRet))), [.t 2]⟩
noncomputable def Tryd.kp67 : List Nat := [0, 1, 2, 3, 4]
noncomputable def Tryd.cf67 : CF := ⟨2, (cSeq (cOps [⟨some 2, true, none, iBox 24 (.t 0)⟩,
 ⟨some 3, true, none, iBox 24 (.t 1)⟩,
 ⟨some 4, true, none, iMov (.c (.bool (.lit false)))⟩])
 (cSeq (cOps [⟨some 5, false, none, iFaddr 0 (.t 3)⟩,
 ⟨some 6, false, none, iLoad (.t 5)⟩,
 ⟨some 7, false, none, iFaddr 0 (.t 2)⟩,
 ⟨some 8, false, none, iLoad (.t 7)⟩,
 ⟨some 9, false, none, iCmp .leq (.t 6) (.t 8)⟩,
 ⟨some 10, false, none, iMov (.t 9)⟩,
 ⟨some 11, false, some (10, true), iFaddr 0 (.t 2)⟩,
 ⟨some 12, false, some (10, true), iLoad (.t 11)⟩,
 ⟨some 13, false, some (10, true), iFaddr 1 (.t 2)⟩,
 ⟨some 14, false, some (10, true), iLoad (.t 13)⟩,
 ⟨some 15, false, some (10, true), iCmp .leq (.t 12) (.t 14)⟩,
 ⟨some 16, false, none, iPick (.t 10) (.t 15) (.c (.bool (.lit false)))⟩,
 ⟨some 17, false, none, iMov (.t 16)⟩,
 ⟨some 18, false, some (17, true), iFaddr 1 (.t 2)⟩,
 ⟨some 19, false, some (17, true), iLoad (.t 18)⟩,
 ⟨some 20, false, some (17, true), iFaddr 1 (.t 3)⟩,
 ⟨some 21, false, some (17, true), iLoad (.t 20)⟩,
 ⟨some 22, false, some (17, true), iCmp .leq (.t 19) (.t 21)⟩,
 ⟨some 23, false, none, iPick (.t 17) (.t 22) (.c (.bool (.lit false)))⟩,
 ⟨some 4, true, none, iMov (.t 23)⟩])
 cRet)), [.t 4]⟩
noncomputable def Tryd.kp68 : List Nat := [0, 1, 2, 3, 4, 5, 10]
noncomputable def Tryd.cf68 : CF := ⟨3, (cSeq (cOps [⟨some 3, true, none, iBox 45 (.t 0)⟩])
 (cSeq (cOps [⟨some 6, false, none, iMkslice 3 [(.int .i64 (.lit 0))] 8 (.c (.int .i64 (.lit 6))) (.c (.int .i64 (.lit 6)))⟩,
 ⟨some 4, true, none, iAlloc 27 [.nilslice]⟩,
 ⟨none, false, none, iStore 1 (.t 4) (.t 6)⟩])
 (cSeq (cOps [⟨some 5, true, none, iAlloc 108 [.nilFunc]⟩])
 (cSeq (cOps [⟨some 7, false, none, iFunc (.func 69) [] [(.t 3), (.t 4), (.t 1), (.t 5)]⟩,
 ⟨none, false, none, iStore 1 (.t 5) (.t 7)⟩])
 (cSeq (cOps [⟨some 8, false, none, iLoadN 6 (.t 2)⟩,
 ⟨some 9, false, none, iBuild [(.bool (.lit false)), (.bool (.lit false)), (.bool (.lit false)), (.bool (.lit false)), (.bool (.lit false)), (.bool (.lit false))] []⟩,
 ⟨some 10, true, none, iEq true true 6 [(0, .bool), (1, .bool), (2, .bool), (3, .bool), (4, .bool), (5, .bool)] (.t 8) (.t 9)⟩])
 (cCond (.t 10) (dOps 0 [⟨⟨some 11, false, none, iLoad (.t 5)⟩, [5], false, 0, 1, none, []⟩,
 ⟨⟨some 12, false, none, iLoadN 6 (.t 2)⟩, [2], false, 0, 1, none, []⟩,
 ⟨⟨some 13, false, none, iCall (.c (.func (.func 57) [] [])) []⟩, [], true, 0, 0, none, []⟩,
 ⟨⟨some 14, false, none, iCall (.t 11) [(.c (.int .i64 (.lit 0))), (.t 12), (.t 13)]⟩, [11, 12, 13], true, 1, 0, none, []⟩]) cSkip)))))), []⟩
noncomputable def Tryd.kp69 : List Nat := [0, 1, 2, 3, 4, 5, 6, 8, 9, 10, 11, 12, 13, 16, 23, 24, 29, 37, 51]
noncomputable def Tryd.cf69 : CF := ⟨7, (cSeq (cOps [⟨some 8, true, none, iBox 68 (.t 1)⟩,
 ⟨some 9, true, none, iBox 93 (.t 2)⟩,
 ⟨some 10, true, none, iMov (.c (.bool (.lit false)))⟩])
 (cSeq (cSeq (cOps [⟨some 14, false, none, iLoadN 6 (.t 8)⟩,
 ⟨some 15, false, none, iBuild [(.bool (.lit false)), (.bool (.lit false)), (.bool (.lit false)), (.bool (.lit false)), (.bool (.lit false)), (.bool (.lit false))] []⟩,
 ⟨some 16, true, none, iEq false true 6 [(0, .bool), (1, .bool), (2, .bool), (3, .bool), (4, .bool), (5, .bool)] (.t 14) (.t 15)⟩])
 (cCond (.t 16) (cSeq (dOps 0 [⟨⟨some 17, false, none, iLoad (.t 3)⟩, [3], false, 0, 0, none, []⟩,
 ⟨⟨some 18, false, none, iLoad (.t 4)⟩, [4], false, 0, 0, none, []⟩,
 ⟨⟨some 19, false, none, iMov (.t 0)⟩, [0], false, 0, 0, none, []⟩,
 ⟨⟨some 20, false, none, iMov (.t 0)⟩, [0], false, 0, 0, none, []⟩,
 ⟨⟨some 21, false, none, iSlice 1 (.t 18) none (some (.t 19)) (some (.t 20))⟩, [18, 19, 20], false, 0, 0, none, []⟩,
 ⟨⟨some 22, false, none, iCall (.t 17) [(.t 21)]⟩, [17, 21], true, 0, 0, none, []⟩,
 ⟨⟨some 10, true, none, iMov (.t 22)⟩, [22], false, 1, 1, none, []⟩])
 cRet) cSkip))
 (cSeq cSkip
 (cSeq (cSeq (cOps [⟨some 23, true, none, iMov (.c (.int .i64 (.lit 0)))⟩])
 (cBlock 0 (cLoop (cSeq (cOps [⟨some 24, true, none, iCmp .lss (.t 23) (.c (.int .i64 (.lit 6)))⟩])
 (cSeq (cCond (.t 24) cSkip (cExit 0))
 (cSeq (cBlock 1 (cSeq (cOps [⟨some 25, false, none, iMov (.t 23)⟩,
 ⟨some 11, true, none, iMov (.t 25)⟩])
 (cSeq (cSeq (cOps [⟨some 26, false, none, iMov (.t 11)⟩,
 ⟨some 27, false, none, iIaddrA 1 6 (.t 8) (.t 26)⟩,
 ⟨some 28, false, none, iLoad (.t 27)⟩,
 ⟨some 29, true, none, iNot (.t 28)⟩])
 (cCond (.t 29) (cExit 1) cSkip))
 (cSeq (cOps [⟨some 30, false, none, iLoad (.t 5)⟩,
 ⟨some 31, false, none, iMov (.t 11)⟩,
 ⟨some 32, false, none, iLoadN 2 (.t 9)⟩,
 ⟨some 33, false, none, iBuild [(.int .i64 (.lit 0)), (.int .i64 (.lit 0)), (.int .i64 (.lit 0))] [(0, 1, (.t 31)), (1, 2, (.t 32))]⟩,
 ⟨some 34, false, none, iCall (.t 30) [(.t 33)]⟩,
 ⟨some 12, true, none, iAlloc 93 [(.int .i64 (.lit 0)), (.int .i64 (.lit 0))]⟩,
 ⟨none, false, none, iStore 2 (.t 12) (.t 34)⟩])
 (cSeq (cSeq (cOps [⟨some 35, false, none, iLoadN 2 (.t 12)⟩,
 ⟨some 36, false, none, iBuild [(.int .i64 (.lit 0)), (.int .i64 (.lit 0))] []⟩,
 ⟨some 37, true, none, iEq false true 2 [(0, .int), (1, .int)] (.t 35) (.t 36)⟩])
 (cCond (.t 37) (cExit 1) cSkip))
 (cSeq (cOps [⟨some 38, false, none, iLoad (.t 4)⟩,
 ⟨some 39, false, none, iMov (.t 0)⟩,
 ⟨some 40, false, none, iMov (.t 11)⟩,
 ⟨some 41, false, none, iIaddr 1 (.t 38) (.t 39)⟩,
 ⟨none, false, none, iStore 1 (.t 41) (.t 40)⟩])
 (cSeq (cOps [⟨some 42, false, none, iLoadN 6 (.t 8)⟩,
 ⟨some 13, true, none, iAlloc 68 [(.bool (.lit false)), (.bool (.lit false)), (.bool (.lit false)), (.bool (.lit false)), (.bool (.lit false)), (.bool (.lit false))]⟩,
 ⟨none, false, none, iStore 6 (.t 13) (.t 42)⟩])
 (cSeq (cOps [⟨some 43, false, none, iMov (.t 11)⟩,
 ⟨some 44, false, none, iIaddrA 1 6 (.t 13) (.t 43)⟩,
 ⟨none, false, none, iStore 1 (.t 44) (.c (.bool (.lit false)))⟩])
 (cSeq (cOps [⟨some 45, false, none, iLoad (.t 6)⟩,
 ⟨some 46, false, none, iMov (.t 0)⟩,
 ⟨some 47, false, none, iArith .add (.t 46) (.c (.int .i64 (.lit 1)))⟩,
 ⟨some 48, false, none, iLoadN 6 (.t 13)⟩,
 ⟨some 49, false, none, iLoadN 2 (.t 12)⟩,
 ⟨some 50, false, none, iCall (.t 45) [(.t 47), (.t 48), (.t 49)]⟩,
 ⟨some 51, true, none, iNot (.t 50)⟩])
 (cCond (.t 51) (cSeq (cOps [⟨some 10, true, none, iMov (.c (.bool (.lit false)))⟩])
 cRet) cSkip))))))))))
 (cOps [⟨some 52, false, none, iArith .add (.t 23) (.c (.int .i64 (.lit 1)))⟩,
 ⟨some 23, true, none, iMov (.t 52)⟩])))))))
 (cSeq (cOps [⟨some 10, true, none, iMov (.c (.bool (.lit true)))⟩])
 cRet))))), [.t 10]⟩
noncomputable def Tryd.kp70 : List Nat := [0, 1, 4]
noncomputable def Tryd.cf70 : CF := ⟨2, (cSeq (cOps [⟨some 4, true, none, iMov (.c (.bool (.lit false)))⟩])
 (cSeq (cOps [⟨some 5, false, none, iMov (.t 0)⟩,
 ⟨some 6, false, none, iMov (.t 1)⟩,
 ⟨some 7, false, none, iCall (.c (.func (.func 61) [] [])) [(.t 5), (.t 6)]⟩,
 ⟨some 8, false, none, iCmp .geq (.t 7) (.c (.int .i64 (.lit 0)))⟩,
 ⟨some 4, true, none, iMov (.t 8)⟩])
 cRet)), [.t 4]⟩
noncomputable def Tryd.kp71 : List Nat := [0, 1, 2, 3, 4, 5]
noncomputable def Tryd.cf71 : CF := ⟨3, (cSeq (cOps [⟨some 3, true, none, iBox 45 (.t 0)⟩])
 (cSeq (cOps [⟨some 6, false, none, iLoad (.t 1)⟩,
 ⟨some 7, false, none, iMkslice 3 [(.int .i64 (.lit 0))] 8 (.t 6) (.t 6)⟩,
 ⟨some 4, true, none, iAlloc 27 [.nilslice]⟩,
 ⟨none, false, none, iStore 1 (.t 4) (.t 7)⟩])
 (cSeq (cOps [⟨some 5, true, none, iAlloc 110 [.nilFunc]⟩])
 (cSeq (cOps [⟨some 8, false, none, iFunc (.func 72) [] [(.t 1), (.t 3), (.t 4), (.t 2), (.t 5)]⟩,
 ⟨none, false, none, iStore 1 (.t 5) (.t 8)⟩])
 (cOps [⟨some 9, false, none, iLoad (.t 5)⟩,
 ⟨some 10, false, none, iCall (.t 9) [(.c (.int .i64 (.lit 0))), (.c (.int .i64 (.lit 0)))]⟩]))))), []⟩
noncomputable def Tryd.kp72 : List Nat := [0, 1, 2, 3, 4, 5, 6, 9, 10, 13, 23, 36]
noncomputable def Tryd.cf72 : CF := ⟨7, (cSeq (cOps [⟨some 9, true, none, iMov (.c (.bool (.lit false)))⟩])
 (cSeq (cSeq (cOps [⟨some 11, false, none, iMov (.t 0)⟩,
 ⟨some 12, false, none, iLoad (.t 2)⟩,
 ⟨some 13, true, none, iCmp .eql (.t 11) (.t 12)⟩])
 (cCond (.t 13) (cSeq (dOps 0 [⟨⟨some 14, false, none, iLoad (.t 3)⟩, [3], false, 0, 0, none, []⟩,
 ⟨⟨some 15, false, none, iLoad (.t 4)⟩, [4], false, 0, 0, none, []⟩,
 ⟨⟨some 16, false, none, iMov (.t 0)⟩, [0], false, 0, 0, none, []⟩,
 ⟨⟨some 17, false, none, iMov (.t 0)⟩, [0], false, 0, 0, none, []⟩,
 ⟨⟨some 18, false, none, iSlice 1 (.t 15) none (some (.t 16)) (some (.t 17))⟩, [15, 16, 17], false, 0, 0, none, []⟩,
 ⟨⟨some 19, false, none, iCall (.t 14) [(.t 18)]⟩, [14, 18], true, 0, 0, none, []⟩,
 ⟨⟨some 9, true, none, iMov (.t 19)⟩, [19], false, 1, 1, none, []⟩])
 cRet) cSkip))
 (cSeq (cSeq (cOps [⟨some 20, false, none, iMov (.t 1)⟩,
 ⟨some 10, true, none, iMov (.t 20)⟩])
 (cBlock 0 (cLoop (cSeq (cSeq (cOps [⟨some 21, false, none, iMov (.t 10)⟩,
 ⟨some 22, false, none, iLoad (.t 5)⟩,
 ⟨some 23, true, none, iCmp .lss (.t 21) (.t 22)⟩])
 (cCond (.t 23) cSkip (cExit 0)))
 (cSeq (cBlock 1 (cSeq (cOps [⟨some 26, false, none, iLoad (.t 4)⟩,
 ⟨some 27, false, none, iMov (.t 0)⟩,
 ⟨some 28, false, none, iMov (.t 10)⟩,
 ⟨some 29, false, none, iIaddr 1 (.t 26) (.t 27)⟩,
 ⟨none, false, none, iStore 1 (.t 29) (.t 28)⟩])
 (cSeq (cOps [⟨some 30, false, none, iLoad (.t 6)⟩,
 ⟨some 31, false, none, iMov (.t 0)⟩,
 ⟨some 32, false, none, iArith .add (.t 31) (.c (.int .i64 (.lit 1)))⟩,
 ⟨some 33, false, none, iMov (.t 10)⟩,
 ⟨some 34, false, none, iArith .add (.t 33) (.c (.int .i64 (.lit 1)))⟩,
 ⟨some 35, false, none, iCall (.t 30) [(.t 32), (.t 34)]⟩,
 ⟨some 36, true, none, iNot (.t 35)⟩])
 (cCond (.t 36) (cSeq (cOps [⟨some 9, true, none, iMov (.c (.bool (.lit false)))⟩])
 cRet) cSkip))))
 (cOps [⟨some 24, false, none, iMov (.t 10)⟩,
 ⟨some 25, false, none, iArith .add (.t 24) (.c (.int .i64 (.lit 1)))⟩,
 ⟨some 10, true, none, iMov (.t 25)⟩]))))))
 (cSeq (cOps [⟨some 9, true, none, iMov (.c (.bool (.lit true)))⟩])
 cRet)))), [.t 9]⟩
noncomputable def Tryd.ft : PT CF := (.node none (.node none (.node (some Tryd.cf3) (.node (some Tryd.cf7) (.node (some Tryd.cf15) (.node (some Tryd.cf31) (.node (some Tryd.cf63) .nil .nil) .nil) (.node (some Tryd.cf47) .nil .nil)) (.node (some Tryd.cf23) (.node (some Tryd.cf39) (.node (some Tryd.cf71) .nil .nil) .nil) (.node (some Tryd.cf55) .nil .nil))) (.node (some Tryd.cf11) (.node (some Tryd.cf19) (.node (some Tryd.cf35) (.node (some Tryd.cf67) .nil .nil) .nil) (.node (some Tryd.cf51) .nil .nil)) (.node (some Tryd.cf27) (.node (some Tryd.cf43) .nil .nil) (.node (some Tryd.cf59) .nil .nil)))) (.node (some Tryd.cf5) (.node (some Tryd.cf9) (.node (some Tryd.cf17) (.node (some Tryd.cf33) (.node (some Tryd.cf65) .nil .nil) .nil) (.node (some Tryd.cf49) .nil .nil)) (.node (some Tryd.cf25) (.node (some Tryd.cf41) .nil .nil) (.node (some Tryd.cf57) .nil .nil))) (.node (some Tryd.cf13) (.node (some Tryd.cf21) (.node (some Tryd.cf37) (.node (some Tryd.cf69) .nil .nil) .nil) (.node (some Tryd.cf53) .nil .nil)) (.node (some Tryd.cf29) (.node (some Tryd.cf45) .nil .nil) (.node (some Tryd.cf61) .nil .nil))))) (.node none (.node (some Tryd.cf4) (.node (some Tryd.cf8) (.node (some Tryd.cf16) (.node (some Tryd.cf32) (.node (some Tryd.cf64) .nil .nil) .nil) (.node (some Tryd.cf48) .nil .nil)) (.node (some Tryd.cf24) (.node (some Tryd.cf40) (.node (some Tryd.cf72) .nil .nil) .nil) (.node (some Tryd.cf56) .nil .nil))) (.node (some Tryd.cf12) (.node (some Tryd.cf20) (.node (some Tryd.cf36) (.node (some Tryd.cf68) .nil .nil) .nil) (.node (some Tryd.cf52) .nil .nil)) (.node (some Tryd.cf28) (.node (some Tryd.cf44) .nil .nil) (.node (some Tryd.cf60) .nil .nil)))) (.node (some Tryd.cf6) (.node (some Tryd.cf10) (.node (some Tryd.cf18) (.node (some Tryd.cf34) (.node (some Tryd.cf66) .nil .nil) .nil) (.node (some Tryd.cf50) .nil .nil)) (.node (some Tryd.cf26) (.node (some Tryd.cf42) .nil .nil) (.node (some Tryd.cf58) .nil .nil))) (.node (some Tryd.cf14) (.node (some Tryd.cf22) (.node (some Tryd.cf38) (.node (some Tryd.cf70) .nil .nil) .nil) (.node (some Tryd.cf54) .nil .nil)) (.node (some Tryd.cf30) (.node (some Tryd.cf46) .nil .nil) (.node (some Tryd.cf62) .nil .nil))))))
noncomputable def Tryd.rt : List (Nat × (C × C)) := [(27017, (Tryd.ra27017, Tryd.rb27017)), (28017, (Tryd.ra28017, Tryd.rb28017)), (48009, (Tryd.ra48009, Tryd.rb48009)), (50018, (Tryd.ra50018, Tryd.rb50018)), (63009, (Tryd.ra63009, Tryd.rb63009))]
end Go.Sx
