/- THE TABLES OF THE PROGRAM: its types, and its functions as the evaluator runs them. -/
import Derived.Test.YtdnlbidfflpbiaaDoorSxOps
import Derived.KernelRfl
/-! THE TABLES OF THE PROGRAM: its types, and its functions as the evaluator runs them. -/
namespace Go.Sx
set_option maxRecDepth 100000
noncomputable def Tryd.ti0 : TI := ⟨.tuple #[], 1, 0, none, false⟩
noncomputable def Tryd.ti1 : TI := ⟨.func #[] #[] false, 1, 8, (some .nilFunc), false⟩
noncomputable def Tryd.ti2 : TI := ⟨.int .i64, 1, 8, (some (.int .i64 (.lit 0))), false⟩
noncomputable def Tryd.ti3 : TI := ⟨.int .i64, 1, 8, (some (.int .i64 (.lit 0))), false⟩
noncomputable def Tryd.ti4 : TI := ⟨.bool, 1, 1, (some (.bool (.lit false))), false⟩
noncomputable def Tryd.ti5 : TI := ⟨.int .u8, 1, 1, (some (.int .u8 (.lit 0))), false⟩
noncomputable def Tryd.ti6 : TI := ⟨.int .u8, 1, 1, (some (.int .u8 (.lit 0))), false⟩
noncomputable def Tryd.ti7 : TI := ⟨.struct #[⟨ "x", 2, 0, false, "", "runtime", 0⟩, ⟨ "y", 3, 1, false, "", "runtime", 8⟩, ⟨ "signed", 4, 2, false, "", "runtime", 16⟩, ⟨ "code", 6, 3, false, "", "runtime", 17⟩], 4, 24, (some (.agg [(.int .i64 (.lit 0)), (.int .i64 (.lit 0)), (.bool (.lit false)), (.int .u8 (.lit 0))])), true⟩
noncomputable def Tryd.ti8 : TI := ⟨.struct #[⟨ "x", 2, 0, false, "", "runtime", 0⟩, ⟨ "y", 3, 1, false, "", "runtime", 8⟩, ⟨ "signed", 4, 2, false, "", "runtime", 16⟩, ⟨ "code", 6, 3, false, "", "runtime", 17⟩], 4, 24, (some (.agg [(.int .i64 (.lit 0)), (.int .i64 (.lit 0)), (.bool (.lit false)), (.int .u8 (.lit 0))])), true⟩
noncomputable def Tryd.ti9 : TI := ⟨.string, 1, 16, none, false⟩
noncomputable def Tryd.ti10 : TI := ⟨.string, 1, 16, none, false⟩
noncomputable def Tryd.ti11 : TI := ⟨.string, 1, 16, none, false⟩
noncomputable def Tryd.ti12 : TI := ⟨.int .u64, 1, 8, (some (.int .u64 (.lit 0))), false⟩
noncomputable def Tryd.ti13 : TI := ⟨.struct #[⟨ "msg", 9, 0, false, "", "runtime", 0⟩, ⟨ "addr", 12, 1, false, "", "runtime", 16⟩], 2, 24, none, false⟩
noncomputable def Tryd.ti14 : TI := ⟨.struct #[⟨ "msg", 9, 0, false, "", "runtime", 0⟩, ⟨ "addr", 12, 1, false, "", "runtime", 16⟩], 2, 24, none, false⟩
noncomputable def Tryd.ti15 : TI := ⟨.pointer 142, 1, 8, (some .nilptr), false⟩
noncomputable def Tryd.ti16 : TI := ⟨.pointer 145, 1, 8, (some .nilptr), false⟩
noncomputable def Tryd.ti17 : TI := ⟨.pointer 154, 1, 8, (some .nilptr), false⟩
noncomputable def Tryd.ti18 : TI := ⟨.struct #[⟨ "typ", 17, 0, false, "", "internal/runtime/maps", 0⟩], 1, 8, (some (.agg [.nilptr])), false⟩
noncomputable def Tryd.ti19 : TI := ⟨.struct #[⟨ "typ", 17, 0, false, "", "internal/runtime/maps", 0⟩], 1, 8, (some (.agg [.nilptr])), false⟩
noncomputable def Tryd.ti20 : TI := ⟨.interface #[], 1, 16, none, false⟩
noncomputable def Tryd.ti21 : TI := ⟨.int .i32, 1, 4, (some (.int .i32 (.lit 0))), false⟩
noncomputable def Tryd.ti22 : TI := ⟨.slice 34, 1, 24, (some .nilslice), false⟩
noncomputable def Tryd.ti23 : TI := ⟨.struct #[⟨ "Low", 3, 0, false, "", "", 0⟩, ⟨ "High", 3, 1, false, "", "", 8⟩], 2, 16, (some (.agg [(.int .i64 (.lit 0)), (.int .i64 (.lit 0))])), true⟩
noncomputable def Tryd.ti24 : TI := ⟨.struct #[⟨ "Low", 3, 0, false, "", "", 0⟩, ⟨ "High", 3, 1, false, "", "", 8⟩], 2, 16, (some (.agg [(.int .i64 (.lit 0)), (.int .i64 (.lit 0))])), true⟩
noncomputable def Tryd.ti25 : TI := ⟨.struct #[⟨ "Reels", 22, 0, false, "", "", 0⟩, ⟨ "Turn", 24, 1, false, "", "", 24⟩, ⟨ "Tear", 24, 3, false, "", "", 40⟩, ⟨ "Spool", 3, 5, false, "", "", 56⟩], 6, 64, (some (.agg [.nilslice, (.int .i64 (.lit 0)), (.int .i64 (.lit 0)), (.int .i64 (.lit 0)), (.int .i64 (.lit 0)), (.int .i64 (.lit 0))])), true⟩
noncomputable def Tryd.ti26 : TI := ⟨.struct #[⟨ "Reels", 22, 0, false, "", "", 0⟩, ⟨ "Turn", 24, 1, false, "", "", 24⟩, ⟨ "Tear", 24, 3, false, "", "", 40⟩, ⟨ "Spool", 3, 5, false, "", "", 56⟩], 6, 64, (some (.agg [.nilslice, (.int .i64 (.lit 0)), (.int .i64 (.lit 0)), (.int .i64 (.lit 0)), (.int .i64 (.lit 0)), (.int .i64 (.lit 0))])), true⟩
noncomputable def Tryd.ti27 : TI := ⟨.struct #[⟨ "Film", 26, 0, false, "", "", 0⟩, ⟨ "Shows", 3, 6, false, "", "", 64⟩, ⟨ "Go", 24, 7, false, "", "", 72⟩, ⟨ "Back", 24, 9, false, "", "", 88⟩, ⟨ "Carry", 3, 11, false, "", "", 104⟩], 12, 112, (some (.agg [.nilslice, (.int .i64 (.lit 0)), (.int .i64 (.lit 0)), (.int .i64 (.lit 0)), (.int .i64 (.lit 0)), (.int .i64 (.lit 0)), (.int .i64 (.lit 0)), (.int .i64 (.lit 0)), (.int .i64 (.lit 0)), (.int .i64 (.lit 0)), (.int .i64 (.lit 0)), (.int .i64 (.lit 0))])), true⟩
noncomputable def Tryd.ti28 : TI := ⟨.struct #[⟨ "Film", 26, 0, false, "", "", 0⟩, ⟨ "Shows", 3, 6, false, "", "", 64⟩, ⟨ "Go", 24, 7, false, "", "", 72⟩, ⟨ "Back", 24, 9, false, "", "", 88⟩, ⟨ "Carry", 3, 11, false, "", "", 104⟩], 12, 112, (some (.agg [.nilslice, (.int .i64 (.lit 0)), (.int .i64 (.lit 0)), (.int .i64 (.lit 0)), (.int .i64 (.lit 0)), (.int .i64 (.lit 0)), (.int .i64 (.lit 0)), (.int .i64 (.lit 0)), (.int .i64 (.lit 0)), (.int .i64 (.lit 0)), (.int .i64 (.lit 0)), (.int .i64 (.lit 0))])), true⟩
noncomputable def Tryd.ti29 : TI := ⟨.func #[] #[28] false, 1, 8, (some .nilFunc), false⟩
noncomputable def Tryd.ti30 : TI := ⟨.slice 28, 1, 24, (some .nilslice), false⟩
noncomputable def Tryd.ti31 : TI := ⟨.func #[3, 3] #[24] false, 1, 8, (some .nilFunc), false⟩
noncomputable def Tryd.ti32 : TI := ⟨.func #[3] #[24] false, 1, 8, (some .nilFunc), false⟩
noncomputable def Tryd.ti33 : TI := ⟨.struct #[⟨ "First", 24, 0, false, "", "", 0⟩, ⟨ "Last", 24, 2, false, "", "", 16⟩, ⟨ "Feet", 24, 4, false, "", "", 32⟩], 6, 48, (some (.agg [(.int .i64 (.lit 0)), (.int .i64 (.lit 0)), (.int .i64 (.lit 0)), (.int .i64 (.lit 0)), (.int .i64 (.lit 0)), (.int .i64 (.lit 0))])), true⟩
noncomputable def Tryd.ti34 : TI := ⟨.struct #[⟨ "First", 24, 0, false, "", "", 0⟩, ⟨ "Last", 24, 2, false, "", "", 16⟩, ⟨ "Feet", 24, 4, false, "", "", 32⟩], 6, 48, (some (.agg [(.int .i64 (.lit 0)), (.int .i64 (.lit 0)), (.int .i64 (.lit 0)), (.int .i64 (.lit 0)), (.int .i64 (.lit 0)), (.int .i64 (.lit 0))])), true⟩
noncomputable def Tryd.ti35 : TI := ⟨.int .i64, 1, 8, (some (.int .i64 (.lit 0))), false⟩
noncomputable def Tryd.ti36 : TI := ⟨.tuple #[4, 35], 1, 0, none, false⟩
noncomputable def Tryd.ti37 : TI := ⟨.func #[28, 45] #[4, 35] false, 1, 8, (some .nilFunc), false⟩
noncomputable def Tryd.ti38 : TI := ⟨.slice 24, 1, 24, (some .nilslice), false⟩
noncomputable def Tryd.ti39 : TI := ⟨.tuple #[38, 35], 1, 0, none, false⟩
noncomputable def Tryd.ti40 : TI := ⟨.func #[28, 45] #[38, 35] false, 1, 8, (some .nilFunc), false⟩
noncomputable def Tryd.ti41 : TI := ⟨.tuple #[3, 3, 35], 1, 0, none, false⟩
noncomputable def Tryd.ti42 : TI := ⟨.func #[28, 45] #[3, 3, 35] false, 1, 8, (some .nilFunc), false⟩
noncomputable def Tryd.ti43 : TI := ⟨.tuple #[24, 35], 1, 0, none, false⟩
noncomputable def Tryd.ti44 : TI := ⟨.func #[28, 45, 3] #[24, 35] false, 1, 8, (some .nilFunc), false⟩
noncomputable def Tryd.ti45 : TI := ⟨.slice 3, 1, 24, (some .nilslice), false⟩
noncomputable def Tryd.ti46 : TI := ⟨.tuple #[45, 35], 1, 0, none, false⟩
noncomputable def Tryd.ti47 : TI := ⟨.func #[28] #[45, 35] false, 1, 8, (some .nilFunc), false⟩
noncomputable def Tryd.ti48 : TI := ⟨.func #[28, 3] #[45, 35] false, 1, 8, (some .nilFunc), false⟩
noncomputable def Tryd.ti49 : TI := ⟨.tuple #[3, 35], 1, 0, none, false⟩
noncomputable def Tryd.ti50 : TI := ⟨.func #[28, 3] #[3, 35] false, 1, 8, (some .nilFunc), false⟩
noncomputable def Tryd.ti51 : TI := ⟨.func #[28] #[35] false, 1, 8, (some .nilFunc), false⟩
noncomputable def Tryd.ti52 : TI := ⟨.slice 45, 1, 24, (some .nilslice), false⟩
noncomputable def Tryd.ti53 : TI := ⟨.func #[45] #[26] false, 1, 8, (some .nilFunc), false⟩
noncomputable def Tryd.ti54 : TI := ⟨.func #[38, 38] #[4] false, 1, 8, (some .nilFunc), false⟩
noncomputable def Tryd.ti55 : TI := ⟨.func #[45, 45] #[4] false, 1, 8, (some .nilFunc), false⟩
noncomputable def Tryd.ti56 : TI := ⟨.func #[] #[4] false, 1, 8, (some .nilFunc), false⟩
noncomputable def Tryd.ti57 : TI := ⟨.map 88 106, 1, 8, (some .nilmap), false⟩
noncomputable def Tryd.ti58 : TI := ⟨.struct #[⟨ "RelayBook", 28, 0, true, "", "", 0⟩, ⟨ "order", 45, 12, false, "", "bioscope/relay", 112⟩, ⟨ "found", 57, 13, false, "", "bioscope/relay", 136⟩], 14, 144, (some (.agg [.nilslice, (.int .i64 (.lit 0)), (.int .i64 (.lit 0)), (.int .i64 (.lit 0)), (.int .i64 (.lit 0)), (.int .i64 (.lit 0)), (.int .i64 (.lit 0)), (.int .i64 (.lit 0)), (.int .i64 (.lit 0)), (.int .i64 (.lit 0)), (.int .i64 (.lit 0)), (.int .i64 (.lit 0)), .nilslice, .nilmap])), true⟩
noncomputable def Tryd.ti59 : TI := ⟨.struct #[⟨ "RelayBook", 28, 0, true, "", "", 0⟩, ⟨ "order", 45, 12, false, "", "bioscope/relay", 112⟩, ⟨ "found", 57, 13, false, "", "bioscope/relay", 136⟩], 14, 144, (some (.agg [.nilslice, (.int .i64 (.lit 0)), (.int .i64 (.lit 0)), (.int .i64 (.lit 0)), (.int .i64 (.lit 0)), (.int .i64 (.lit 0)), (.int .i64 (.lit 0)), (.int .i64 (.lit 0)), (.int .i64 (.lit 0)), (.int .i64 (.lit 0)), (.int .i64 (.lit 0)), (.int .i64 (.lit 0)), .nilslice, .nilmap])), true⟩
noncomputable def Tryd.ti60 : TI := ⟨.tuple #[59, 35], 1, 0, none, false⟩
noncomputable def Tryd.ti61 : TI := ⟨.func #[28] #[59, 35] false, 1, 8, (some .nilFunc), false⟩
noncomputable def Tryd.ti62 : TI := ⟨.func #[45] #[4] false, 1, 8, (some .nilFunc), false⟩
noncomputable def Tryd.ti63 : TI := ⟨.func #[28, 45, 45] #[59, 35] true, 1, 8, (some .nilFunc), false⟩
noncomputable def Tryd.ti64 : TI := ⟨.func #[84] #[3] false, 1, 8, (some .nilFunc), false⟩
noncomputable def Tryd.ti65 : TI := ⟨.array 2 64, 2, 16, (some (.agg [.nilFunc, .nilFunc])), true⟩
noncomputable def Tryd.ti66 : TI := ⟨.struct #[⟨ "book", 59, 0, true, "", "bioscope/relay", 0⟩, ⟨ "ends", 65, 14, false, "", "bioscope/relay", 144⟩], 16, 160, (some (.agg [.nilslice, (.int .i64 (.lit 0)), (.int .i64 (.lit 0)), (.int .i64 (.lit 0)), (.int .i64 (.lit 0)), (.int .i64 (.lit 0)), (.int .i64 (.lit 0)), (.int .i64 (.lit 0)), (.int .i64 (.lit 0)), (.int .i64 (.lit 0)), (.int .i64 (.lit 0)), (.int .i64 (.lit 0)), .nilslice, .nilmap, .nilFunc, .nilFunc])), true⟩
noncomputable def Tryd.ti67 : TI := ⟨.struct #[⟨ "book", 59, 0, true, "", "bioscope/relay", 0⟩, ⟨ "ends", 65, 14, false, "", "bioscope/relay", 144⟩], 16, 160, (some (.agg [.nilslice, (.int .i64 (.lit 0)), (.int .i64 (.lit 0)), (.int .i64 (.lit 0)), (.int .i64 (.lit 0)), (.int .i64 (.lit 0)), (.int .i64 (.lit 0)), (.int .i64 (.lit 0)), (.int .i64 (.lit 0)), (.int .i64 (.lit 0)), (.int .i64 (.lit 0)), (.int .i64 (.lit 0)), .nilslice, .nilmap, .nilFunc, .nilFunc])), true⟩
noncomputable def Tryd.ti68 : TI := ⟨.func #[3, 3] #[67] false, 1, 8, (some .nilFunc), false⟩
noncomputable def Tryd.ti69 : TI := ⟨.func #[45] #[45] false, 1, 8, (some .nilFunc), false⟩
noncomputable def Tryd.ti70 : TI := ⟨.func #[45] #[3] false, 1, 8, (some .nilFunc), false⟩
noncomputable def Tryd.ti71 : TI := ⟨.func #[45, 3] #[3] false, 1, 8, (some .nilFunc), false⟩
noncomputable def Tryd.ti72 : TI := ⟨.func #[75] #[45, 35] false, 1, 8, (some .nilFunc), false⟩
noncomputable def Tryd.ti73 : TI := ⟨.func #[93, 93] #[4] false, 1, 8, (some .nilFunc), false⟩
noncomputable def Tryd.ti74 : TI := ⟨.struct #[⟨ "start", 3, 0, false, "", "bioscope/relay", 0⟩, ⟨ "isBetter", 73, 1, false, "", "bioscope/relay", 8⟩], 2, 16, (some (.agg [(.int .i64 (.lit 0)), .nilFunc])), true⟩
noncomputable def Tryd.ti75 : TI := ⟨.struct #[⟨ "start", 3, 0, false, "", "bioscope/relay", 0⟩, ⟨ "isBetter", 73, 1, false, "", "bioscope/relay", 8⟩], 2, 16, (some (.agg [(.int .i64 (.lit 0)), .nilFunc])), true⟩
noncomputable def Tryd.ti76 : TI := ⟨.func #[28, 3] #[59, 35] false, 1, 8, (some .nilFunc), false⟩
noncomputable def Tryd.ti77 : TI := ⟨.func #[3] #[3, 35] false, 1, 8, (some .nilFunc), false⟩
noncomputable def Tryd.ti78 : TI := ⟨.func #[26] #[45, 35] false, 1, 8, (some .nilFunc), false⟩
noncomputable def Tryd.ti79 : TI := ⟨.func #[28] #[4] false, 1, 8, (some .nilFunc), false⟩
noncomputable def Tryd.ti80 : TI := ⟨.func #[62, 52] #[4] true, 1, 8, (some .nilFunc), false⟩
noncomputable def Tryd.ti81 : TI := ⟨.func #[82, 45] #[4] true, 1, 8, (some .nilFunc), false⟩
noncomputable def Tryd.ti82 : TI := ⟨.func #[3] #[4] false, 1, 8, (some .nilFunc), false⟩
noncomputable def Tryd.ti83 : TI := ⟨.func #[] #[3] false, 1, 8, (some .nilFunc), false⟩
noncomputable def Tryd.ti84 : TI := ⟨.struct #[⟨ "Low", 3, 0, false, "", "", 0⟩, ⟨ "High", 3, 1, false, "", "", 8⟩], 2, 16, (some (.agg [(.int .i64 (.lit 0)), (.int .i64 (.lit 0))])), true⟩
noncomputable def Tryd.ti85 : TI := ⟨.func #[3, 45] #[3] true, 1, 8, (some .nilFunc), false⟩
noncomputable def Tryd.ti86 : TI := ⟨.func #[88, 3] #[3] false, 1, 8, (some .nilFunc), false⟩
noncomputable def Tryd.ti87 : TI := ⟨.struct #[⟨ "reel", 3, 0, false, "", "bioscope/relay", 0⟩, ⟨ "shows", 3, 1, false, "", "bioscope/relay", 8⟩], 2, 16, (some (.agg [(.int .i64 (.lit 0)), (.int .i64 (.lit 0))])), true⟩
noncomputable def Tryd.ti88 : TI := ⟨.struct #[⟨ "reel", 3, 0, false, "", "bioscope/relay", 0⟩, ⟨ "shows", 3, 1, false, "", "bioscope/relay", 8⟩], 2, 16, (some (.agg [(.int .i64 (.lit 0)), (.int .i64 (.lit 0))])), true⟩
noncomputable def Tryd.ti89 : TI := ⟨.func #[3] #[88] false, 1, 8, (some .nilFunc), false⟩
noncomputable def Tryd.ti90 : TI := ⟨.func #[24] #[3] false, 1, 8, (some .nilFunc), false⟩
noncomputable def Tryd.ti91 : TI := ⟨.func #[3] #[3] false, 1, 8, (some .nilFunc), false⟩
noncomputable def Tryd.ti92 : TI := ⟨.struct #[⟨ "plan", 45, 0, false, "", "bioscope/relay", 0⟩, ⟨ "start", 3, 1, false, "", "bioscope/relay", 24⟩], 2, 32, (some (.agg [.nilslice, (.int .i64 (.lit 0))])), true⟩
noncomputable def Tryd.ti93 : TI := ⟨.struct #[⟨ "plan", 45, 0, false, "", "bioscope/relay", 0⟩, ⟨ "start", 3, 1, false, "", "bioscope/relay", 24⟩], 2, 32, (some (.agg [.nilslice, (.int .i64 (.lit 0))])), true⟩
noncomputable def Tryd.ti94 : TI := ⟨.func #[62] #[] false, 1, 8, (some .nilFunc), false⟩
noncomputable def Tryd.ti95 : TI := ⟨.func #[62] #[] false, 1, 8, (some .nilFunc), false⟩
noncomputable def Tryd.ti96 : TI := ⟨.func #[] #[95] false, 1, 8, (some .nilFunc), false⟩
noncomputable def Tryd.ti97 : TI := ⟨.map 122 120, 1, 8, (some .nilmap), false⟩
noncomputable def Tryd.ti98 : TI := ⟨.struct #[⟨ "ReelFilm", 26, 0, true, "", "", 0⟩, ⟨ "found", 97, 6, false, "", "bioscope/reel", 64⟩], 7, 72, (some (.agg [.nilslice, (.int .i64 (.lit 0)), (.int .i64 (.lit 0)), (.int .i64 (.lit 0)), (.int .i64 (.lit 0)), (.int .i64 (.lit 0)), .nilmap])), true⟩
noncomputable def Tryd.ti99 : TI := ⟨.struct #[⟨ "ReelFilm", 26, 0, true, "", "", 0⟩, ⟨ "found", 97, 6, false, "", "bioscope/reel", 64⟩], 7, 72, (some (.agg [.nilslice, (.int .i64 (.lit 0)), (.int .i64 (.lit 0)), (.int .i64 (.lit 0)), (.int .i64 (.lit 0)), (.int .i64 (.lit 0)), .nilmap])), true⟩
noncomputable def Tryd.ti100 : TI := ⟨.tuple #[99, 35], 1, 0, none, false⟩
noncomputable def Tryd.ti101 : TI := ⟨.func #[26] #[99, 35] false, 1, 8, (some .nilFunc), false⟩
noncomputable def Tryd.ti102 : TI := ⟨.array 2 3, 2, 16, (some (.agg [(.int .i64 (.lit 0)), (.int .i64 (.lit 0))])), true⟩
noncomputable def Tryd.ti103 : TI := ⟨.func #[3, 24] #[4] false, 1, 8, (some .nilFunc), false⟩
noncomputable def Tryd.ti104 : TI := ⟨.array 2 24, 4, 32, (some (.agg [(.int .i64 (.lit 0)), (.int .i64 (.lit 0)), (.int .i64 (.lit 0)), (.int .i64 (.lit 0))])), true⟩
noncomputable def Tryd.ti105 : TI := ⟨.func #[24, 24] #[4] false, 1, 8, (some .nilFunc), false⟩
noncomputable def Tryd.ti106 : TI := ⟨.array 2 24, 4, 32, (some (.agg [(.int .i64 (.lit 0)), (.int .i64 (.lit 0)), (.int .i64 (.lit 0)), (.int .i64 (.lit 0))])), true⟩
noncomputable def Tryd.ti107 : TI := ⟨.func #[88] #[106] false, 1, 8, (some .nilFunc), false⟩
noncomputable def Tryd.ti108 : TI := ⟨.array 6 3, 6, 48, (some (.agg [(.int .i64 (.lit 0)), (.int .i64 (.lit 0)), (.int .i64 (.lit 0)), (.int .i64 (.lit 0)), (.int .i64 (.lit 0)), (.int .i64 (.lit 0))])), true⟩
noncomputable def Tryd.ti109 : TI := ⟨.func #[3, 3] #[4] false, 1, 8, (some .nilFunc), false⟩
noncomputable def Tryd.ti110 : TI := ⟨.func #[26] #[35] false, 1, 8, (some .nilFunc), false⟩
noncomputable def Tryd.ti111 : TI := ⟨.func #[113, 115] #[95] false, 1, 8, (some .nilFunc), false⟩
noncomputable def Tryd.ti112 : TI := ⟨.array 6 4, 6, 6, (some (.agg [(.bool (.lit false)), (.bool (.lit false)), (.bool (.lit false)), (.bool (.lit false)), (.bool (.lit false)), (.bool (.lit false))])), true⟩
noncomputable def Tryd.ti113 : TI := ⟨.array 6 4, 6, 6, (some (.agg [(.bool (.lit false)), (.bool (.lit false)), (.bool (.lit false)), (.bool (.lit false)), (.bool (.lit false)), (.bool (.lit false))])), true⟩
noncomputable def Tryd.ti114 : TI := ⟨.func #[45] #[113] false, 1, 8, (some .nilFunc), false⟩
noncomputable def Tryd.ti115 : TI := ⟨.func #[122] #[120] false, 1, 8, (some .nilFunc), false⟩
noncomputable def Tryd.ti116 : TI := ⟨.func #[26, 45, 3] #[24, 35] false, 1, 8, (some .nilFunc), false⟩
noncomputable def Tryd.ti117 : TI := ⟨.func #[26] #[4] false, 1, 8, (some .nilFunc), false⟩
noncomputable def Tryd.ti118 : TI := ⟨.func #[3, 113, 120] #[4] false, 1, 8, (some .nilFunc), false⟩
noncomputable def Tryd.ti119 : TI := ⟨.struct #[⟨ "first", 3, 0, false, "", "bioscope/reel", 0⟩, ⟨ "behind", 3, 1, false, "", "bioscope/reel", 8⟩], 2, 16, (some (.agg [(.int .i64 (.lit 0)), (.int .i64 (.lit 0))])), true⟩
noncomputable def Tryd.ti120 : TI := ⟨.struct #[⟨ "first", 3, 0, false, "", "bioscope/reel", 0⟩, ⟨ "behind", 3, 1, false, "", "bioscope/reel", 8⟩], 2, 16, (some (.agg [(.int .i64 (.lit 0)), (.int .i64 (.lit 0))])), true⟩
noncomputable def Tryd.ti121 : TI := ⟨.struct #[⟨ "reel", 3, 0, false, "", "bioscope/reel", 0⟩, ⟨ "before", 120, 1, false, "", "bioscope/reel", 8⟩], 3, 24, (some (.agg [(.int .i64 (.lit 0)), (.int .i64 (.lit 0)), (.int .i64 (.lit 0))])), true⟩
noncomputable def Tryd.ti122 : TI := ⟨.struct #[⟨ "reel", 3, 0, false, "", "bioscope/reel", 0⟩, ⟨ "before", 120, 1, false, "", "bioscope/reel", 8⟩], 3, 24, (some (.agg [(.int .i64 (.lit 0)), (.int .i64 (.lit 0)), (.int .i64 (.lit 0))])), true⟩
noncomputable def Tryd.ti123 : TI := ⟨.func #[] #[120] false, 1, 8, (some .nilFunc), false⟩
noncomputable def Tryd.ti124 : TI := ⟨.func #[45, 3] #[4] false, 1, 8, (some .nilFunc), false⟩
noncomputable def Tryd.ti125 : TI := ⟨.tuple #[120, 4], 1, 0, none, false⟩
noncomputable def Tryd.ti126 : TI := ⟨.func #[45, 3] #[24] false, 1, 8, (some .nilFunc), false⟩
noncomputable def Tryd.ti127 : TI := ⟨.func #[34] #[4] false, 1, 8, (some .nilFunc), false⟩
noncomputable def Tryd.ti128 : TI := ⟨.func #[135] #[24] false, 1, 8, (some .nilFunc), false⟩
noncomputable def Tryd.ti129 : TI := ⟨.func #[134] #[3] false, 1, 8, (some .nilFunc), false⟩
noncomputable def Tryd.ti130 : TI := ⟨.struct #[⟨ "adds", 129, 0, false, "", "bioscope/reel", 0⟩, ⟨ "takes", 129, 1, false, "", "bioscope/reel", 8⟩], 2, 16, (some (.agg [.nilFunc, .nilFunc])), true⟩
noncomputable def Tryd.ti131 : TI := ⟨.struct #[⟨ "adds", 129, 0, false, "", "bioscope/reel", 0⟩, ⟨ "takes", 129, 1, false, "", "bioscope/reel", 8⟩], 2, 16, (some (.agg [.nilFunc, .nilFunc])), true⟩
noncomputable def Tryd.ti132 : TI := ⟨.func #[3, 3, 131] #[3] false, 1, 8, (some .nilFunc), false⟩
noncomputable def Tryd.ti133 : TI := ⟨.func #[45] #[3] true, 1, 8, (some .nilFunc), false⟩
noncomputable def Tryd.ti134 : TI := ⟨.struct #[⟨ "Low", 3, 0, false, "", "", 0⟩, ⟨ "High", 3, 1, false, "", "", 8⟩], 2, 16, (some (.agg [(.int .i64 (.lit 0)), (.int .i64 (.lit 0))])), true⟩
noncomputable def Tryd.ti135 : TI := ⟨.func #[131] #[3] false, 1, 8, (some .nilFunc), false⟩
noncomputable def Tryd.ti136 : TI := ⟨.array 3 24, 6, 48, (some (.agg [(.int .i64 (.lit 0)), (.int .i64 (.lit 0)), (.int .i64 (.lit 0)), (.int .i64 (.lit 0)), (.int .i64 (.lit 0)), (.int .i64 (.lit 0))])), true⟩
noncomputable def Tryd.ti137 : TI := ⟨.tuple #[131, 131], 1, 0, none, false⟩
noncomputable def Tryd.ti138 : TI := ⟨.func #[] #[131, 131] false, 1, 8, (some .nilFunc), false⟩
noncomputable def Tryd.ti139 : TI := ⟨.array 2 131, 4, 32, (some (.agg [.nilFunc, .nilFunc, .nilFunc, .nilFunc])), true⟩
noncomputable def Tryd.ti140 : TI := ⟨.func #[] #[9] false, 1, 8, (some .nilFunc), false⟩
noncomputable def Tryd.ti141 : TI := ⟨.struct #[⟨ "_interface", 17, 0, false, "", "runtime", 0⟩, ⟨ "concrete", 17, 1, false, "", "runtime", 8⟩, ⟨ "asserted", 17, 2, false, "", "runtime", 16⟩, ⟨ "missingMethod", 9, 3, false, "", "runtime", 24⟩], 4, 40, none, false⟩
noncomputable def Tryd.ti142 : TI := ⟨.struct #[⟨ "_interface", 17, 0, false, "", "runtime", 0⟩, ⟨ "concrete", 17, 1, false, "", "runtime", 8⟩, ⟨ "asserted", 17, 2, false, "", "runtime", 16⟩, ⟨ "missingMethod", 9, 3, false, "", "runtime", 24⟩], 4, 40, none, false⟩
noncomputable def Tryd.ti143 : TI := ⟨.array 0 16, 0, 0, (some (.agg [])), true⟩
noncomputable def Tryd.ti144 : TI := ⟨.struct #[⟨ "_", 143, 0, false, "", "runtime", 0⟩], 0, 0, (some (.agg [])), false⟩
noncomputable def Tryd.ti145 : TI := ⟨.struct #[⟨ "_", 143, 0, false, "", "runtime", 0⟩], 0, 0, (some (.agg [])), false⟩
noncomputable def Tryd.ti146 : TI := ⟨.int .u32, 1, 4, (some (.int .u32 (.lit 0))), false⟩
noncomputable def Tryd.ti147 : TI := ⟨.int .u8, 1, 1, (some (.int .u8 (.lit 0))), false⟩
noncomputable def Tryd.ti148 : TI := ⟨.int .u8, 1, 1, (some (.int .u8 (.lit 0))), false⟩
noncomputable def Tryd.ti149 : TI := ⟨.func #[156, 156] #[4] false, 1, 8, (some .nilFunc), false⟩
noncomputable def Tryd.ti150 : TI := ⟨.pointer 5, 1, 8, (some .nilptr), false⟩
noncomputable def Tryd.ti151 : TI := ⟨.int .i32, 1, 4, (some (.int .i32 (.lit 0))), false⟩
noncomputable def Tryd.ti152 : TI := ⟨.int .i32, 1, 4, (some (.int .i32 (.lit 0))), false⟩
noncomputable def Tryd.ti153 : TI := ⟨.struct #[⟨ "Size_", 12, 0, false, "", "", 0⟩, ⟨ "PtrBytes", 12, 1, false, "", "", 8⟩, ⟨ "Hash", 146, 2, false, "", "", 16⟩, ⟨ "TFlag", 147, 3, false, "", "", 20⟩, ⟨ "Align_", 5, 4, false, "", "", 21⟩, ⟨ "FieldAlign_", 5, 5, false, "", "", 22⟩, ⟨ "Kind_", 148, 6, false, "", "", 23⟩, ⟨ "Equal", 149, 7, false, "", "", 24⟩, ⟨ "GCData", 150, 8, false, "", "", 32⟩, ⟨ "Str", 151, 9, false, "", "", 40⟩, ⟨ "PtrToThis", 152, 10, false, "", "", 44⟩], 11, 48, (some (.agg [(.int .u64 (.lit 0)), (.int .u64 (.lit 0)), (.int .u32 (.lit 0)), (.int .u8 (.lit 0)), (.int .u8 (.lit 0)), (.int .u8 (.lit 0)), (.int .u8 (.lit 0)), .nilFunc, .nilptr, (.int .i32 (.lit 0)), (.int .i32 (.lit 0))])), false⟩
noncomputable def Tryd.ti154 : TI := ⟨.struct #[⟨ "Size_", 12, 0, false, "", "", 0⟩, ⟨ "PtrBytes", 12, 1, false, "", "", 8⟩, ⟨ "Hash", 146, 2, false, "", "", 16⟩, ⟨ "TFlag", 147, 3, false, "", "", 20⟩, ⟨ "Align_", 5, 4, false, "", "", 21⟩, ⟨ "FieldAlign_", 5, 5, false, "", "", 22⟩, ⟨ "Kind_", 148, 6, false, "", "", 23⟩, ⟨ "Equal", 149, 7, false, "", "", 24⟩, ⟨ "GCData", 150, 8, false, "", "", 32⟩, ⟨ "Str", 151, 9, false, "", "", 40⟩, ⟨ "PtrToThis", 152, 10, false, "", "", 44⟩], 11, 48, (some (.agg [(.int .u64 (.lit 0)), (.int .u64 (.lit 0)), (.int .u32 (.lit 0)), (.int .u8 (.lit 0)), (.int .u8 (.lit 0)), (.int .u8 (.lit 0)), (.int .u8 (.lit 0)), .nilFunc, .nilptr, (.int .i32 (.lit 0)), (.int .i32 (.lit 0))])), false⟩
noncomputable def Tryd.ti155 : TI := ⟨.func #[] #[45] false, 1, 8, (some .nilFunc), false⟩
noncomputable def Tryd.tt : PT TI := (.node (some Tryd.ti0) (.node (some Tryd.ti1) (.node (some Tryd.ti3) (.node (some Tryd.ti7) (.node (some Tryd.ti15) (.node (some Tryd.ti31) (.node (some Tryd.ti63) (.node (some Tryd.ti127) .nil .nil) .nil) (.node (some Tryd.ti95) .nil .nil)) (.node (some Tryd.ti47) (.node (some Tryd.ti79) (.node (some Tryd.ti143) .nil .nil) .nil) (.node (some Tryd.ti111) .nil .nil))) (.node (some Tryd.ti23) (.node (some Tryd.ti39) (.node (some Tryd.ti71) (.node (some Tryd.ti135) .nil .nil) .nil) (.node (some Tryd.ti103) .nil .nil)) (.node (some Tryd.ti55) (.node (some Tryd.ti87) (.node (some Tryd.ti151) .nil .nil) .nil) (.node (some Tryd.ti119) .nil .nil)))) (.node (some Tryd.ti11) (.node (some Tryd.ti19) (.node (some Tryd.ti35) (.node (some Tryd.ti67) (.node (some Tryd.ti131) .nil .nil) .nil) (.node (some Tryd.ti99) .nil .nil)) (.node (some Tryd.ti51) (.node (some Tryd.ti83) (.node (some Tryd.ti147) .nil .nil) .nil) (.node (some Tryd.ti115) .nil .nil))) (.node (some Tryd.ti27) (.node (some Tryd.ti43) (.node (some Tryd.ti75) (.node (some Tryd.ti139) .nil .nil) .nil) (.node (some Tryd.ti107) .nil .nil)) (.node (some Tryd.ti59) (.node (some Tryd.ti91) (.node (some Tryd.ti155) .nil .nil) .nil) (.node (some Tryd.ti123) .nil .nil))))) (.node (some Tryd.ti5) (.node (some Tryd.ti9) (.node (some Tryd.ti17) (.node (some Tryd.ti33) (.node (some Tryd.ti65) (.node (some Tryd.ti129) .nil .nil) .nil) (.node (some Tryd.ti97) .nil .nil)) (.node (some Tryd.ti49) (.node (some Tryd.ti81) (.node (some Tryd.ti145) .nil .nil) .nil) (.node (some Tryd.ti113) .nil .nil))) (.node (some Tryd.ti25) (.node (some Tryd.ti41) (.node (some Tryd.ti73) (.node (some Tryd.ti137) .nil .nil) .nil) (.node (some Tryd.ti105) .nil .nil)) (.node (some Tryd.ti57) (.node (some Tryd.ti89) (.node (some Tryd.ti153) .nil .nil) .nil) (.node (some Tryd.ti121) .nil .nil)))) (.node (some Tryd.ti13) (.node (some Tryd.ti21) (.node (some Tryd.ti37) (.node (some Tryd.ti69) (.node (some Tryd.ti133) .nil .nil) .nil) (.node (some Tryd.ti101) .nil .nil)) (.node (some Tryd.ti53) (.node (some Tryd.ti85) (.node (some Tryd.ti149) .nil .nil) .nil) (.node (some Tryd.ti117) .nil .nil))) (.node (some Tryd.ti29) (.node (some Tryd.ti45) (.node (some Tryd.ti77) (.node (some Tryd.ti141) .nil .nil) .nil) (.node (some Tryd.ti109) .nil .nil)) (.node (some Tryd.ti61) (.node (some Tryd.ti93) .nil .nil) (.node (some Tryd.ti125) .nil .nil)))))) (.node (some Tryd.ti2) (.node (some Tryd.ti4) (.node (some Tryd.ti8) (.node (some Tryd.ti16) (.node (some Tryd.ti32) (.node (some Tryd.ti64) (.node (some Tryd.ti128) .nil .nil) .nil) (.node (some Tryd.ti96) .nil .nil)) (.node (some Tryd.ti48) (.node (some Tryd.ti80) (.node (some Tryd.ti144) .nil .nil) .nil) (.node (some Tryd.ti112) .nil .nil))) (.node (some Tryd.ti24) (.node (some Tryd.ti40) (.node (some Tryd.ti72) (.node (some Tryd.ti136) .nil .nil) .nil) (.node (some Tryd.ti104) .nil .nil)) (.node (some Tryd.ti56) (.node (some Tryd.ti88) (.node (some Tryd.ti152) .nil .nil) .nil) (.node (some Tryd.ti120) .nil .nil)))) (.node (some Tryd.ti12) (.node (some Tryd.ti20) (.node (some Tryd.ti36) (.node (some Tryd.ti68) (.node (some Tryd.ti132) .nil .nil) .nil) (.node (some Tryd.ti100) .nil .nil)) (.node (some Tryd.ti52) (.node (some Tryd.ti84) (.node (some Tryd.ti148) .nil .nil) .nil) (.node (some Tryd.ti116) .nil .nil))) (.node (some Tryd.ti28) (.node (some Tryd.ti44) (.node (some Tryd.ti76) (.node (some Tryd.ti140) .nil .nil) .nil) (.node (some Tryd.ti108) .nil .nil)) (.node (some Tryd.ti60) (.node (some Tryd.ti92) (.node none .nil .nil) .nil) (.node (some Tryd.ti124) .nil .nil))))) (.node (some Tryd.ti6) (.node (some Tryd.ti10) (.node (some Tryd.ti18) (.node (some Tryd.ti34) (.node (some Tryd.ti66) (.node (some Tryd.ti130) .nil .nil) .nil) (.node (some Tryd.ti98) .nil .nil)) (.node (some Tryd.ti50) (.node (some Tryd.ti82) (.node (some Tryd.ti146) .nil .nil) .nil) (.node (some Tryd.ti114) .nil .nil))) (.node (some Tryd.ti26) (.node (some Tryd.ti42) (.node (some Tryd.ti74) (.node (some Tryd.ti138) .nil .nil) .nil) (.node (some Tryd.ti106) .nil .nil)) (.node (some Tryd.ti58) (.node (some Tryd.ti90) (.node (some Tryd.ti154) .nil .nil) .nil) (.node (some Tryd.ti122) .nil .nil)))) (.node (some Tryd.ti14) (.node (some Tryd.ti22) (.node (some Tryd.ti38) (.node (some Tryd.ti70) (.node (some Tryd.ti134) .nil .nil) .nil) (.node (some Tryd.ti102) .nil .nil)) (.node (some Tryd.ti54) (.node (some Tryd.ti86) (.node (some Tryd.ti150) .nil .nil) .nil) (.node (some Tryd.ti118) .nil .nil))) (.node (some Tryd.ti30) (.node (some Tryd.ti46) (.node (some Tryd.ti78) (.node (some Tryd.ti142) .nil .nil) .nil) (.node (some Tryd.ti110) .nil .nil)) (.node (some Tryd.ti62) (.node (some Tryd.ti94) .nil .nil) (.node (some Tryd.ti126) .nil .nil)))))))
noncomputable def Tryd.kp3 : List Nat := [0, 1, 2, 4, 6, 9, 11, 13, 15, 17, 18, 19, 20, 21, 23, 26, 28, 30, 32, 34, 36, 38, 39, 40, 41, 42, 43, 44, 45, 46, 47,
 48, 49, 50, 51, 52, 53, 54, 55, 98, 191, 202, 258, 302]
noncomputable def Tryd.cf3 : CF := ⟨0, (cSeq (cOps [⟨some 0, true, none, iMov (.c (.bool (.lit false)))⟩])
 (cSeq (cOps [⟨some 56, false, none, iBuild [.nilslice, (.int .i64 (.lit 0)), (.int .i64 (.lit 0)), (.int .i64 (.lit 0)), (.int .i64 (.lit 0)), (.int .i64 (.lit 0)), (.int .i64 (.lit 0)), (.int .i64 (.lit 0)), (.int .i64 (.lit 0)), (.int .i64 (.lit 0)), (.int .i64 (.lit 0)), (.int .i64 (.lit 0))] []⟩,
 ⟨some 57, false, none, iCall (.c (.func (.func 4) [] [])) []⟩,
 ⟨some 58, false, none, iCall (.c (.func (.func 4) [] [])) []⟩,
 ⟨some 59, false, none, iCall (.c (.func (.func 4) [] [])) []⟩,
 ⟨some 60, false, none, iCall (.c (.func (.func 4) [] [])) []⟩,
 ⟨some 61, false, none, iCall (.c (.func (.func 4) [] [])) []⟩,
 ⟨some 62, false, none, iCall (.c (.func (.func 4) [] [])) []⟩,
 ⟨some 63, false, none, iCall (.c (.func (.func 4) [] [])) []⟩,
 ⟨some 64, false, none, iBslice 28 [.nilslice, (.int .i64 (.lit 0)), (.int .i64 (.lit 0)), (.int .i64 (.lit 0)), (.int .i64 (.lit 0)), (.int .i64 (.lit 0)), (.int .i64 (.lit 0)), (.int .i64 (.lit 0)), (.int .i64 (.lit 0)), (.int .i64 (.lit 0)), (.int .i64 (.lit 0)), (.int .i64 (.lit 0))] 8 [(0, 12, (.t 56)), (12, 12, (.t 57)), (24, 12, (.t 58)), (36, 12, (.t 59)), (48, 12, (.t 60)), (60, 12, (.t 61)), (72, 12, (.t 62)), (84, 12, (.t 63))]⟩,
 ⟨some 1, true, none, iMov (.t 64)⟩])
 (cSeq (cOps [⟨some 65, false, none, iMov (.t 1)⟩,
 ⟨some 66, false, none, iCall (.c (.func (.func 5) [] [])) [(.c (.int .i64 (.lit 0))), (.c (.int .i64 (.lit 1)))]⟩,
 ⟨some 67, false, none, iIaddr 12 (.t 65) (.c (.int .i64 (.lit 1)))⟩,
 ⟨some 68, false, none, iFaddr 0 (.t 67)⟩,
 ⟨some 69, false, none, iFaddr 1 (.t 68)⟩,
 ⟨none, false, none, iStore 2 (.t 69) (.t 66)⟩])
 (cSeq (dOps 0 [⟨⟨some 70, false, none, iMov (.t 1)⟩, [1], false, 0, 1, none, []⟩,
 ⟨⟨some 71, false, none, iIaddr 12 (.t 70) (.c (.int .i64 (.lit 2)))⟩, [70], false, 0, 1, none, []⟩,
 ⟨⟨some 72, false, none, iFaddr 0 (.t 71)⟩, [71], false, 0, 1, none, []⟩,
 ⟨⟨some 73, false, none, iFaddr 0 (.t 72)⟩, [72], false, 0, 1, none, []⟩,
 ⟨⟨some 74, false, none, iLoad (.t 73)⟩, [73], false, 0, 1, none, []⟩,
 ⟨⟨some 75, false, none, iCall (.c (.func (.func 6) [] [])) [(.c (.int .i64 (.lit 20)))]⟩, [], true, 0, 0, none, []⟩,
 ⟨⟨some 76, false, none, iIaddr 6 (.t 74) (.c (.int .i64 (.lit 1)))⟩, [74], false, 1, 1, none, []⟩,
 ⟨⟨some 77, false, none, iFaddr 0 (.t 76)⟩, [76], false, 1, 1, none, []⟩,
 ⟨⟨none, false, none, iStore 2 (.t 77) (.t 75)⟩, [77, 75], true, 1, 0, none, []⟩])
 (cSeq (cOps [⟨some 78, false, none, iMov (.t 1)⟩,
 ⟨some 79, false, none, iIaddr 12 (.t 78) (.c (.int .i64 (.lit 3)))⟩,
 ⟨some 80, false, none, iFaddr 6 (.t 79)⟩,
 ⟨none, false, none, iStore 1 (.t 80) (.c (.int .i64 (.lit 999)))⟩])
 (cSeq (cOps [⟨some 81, false, none, iMov (.t 1)⟩,
 ⟨some 82, false, none, iCall (.c (.func (.func 5) [] [])) [(.c (.int .i64 (.lit 300))), (.c (.int .i64 (.lit 3601)))]⟩,
 ⟨some 83, false, none, iIaddr 12 (.t 81) (.c (.int .i64 (.lit 4)))⟩,
 ⟨some 84, false, none, iFaddr 7 (.t 83)⟩,
 ⟨none, false, none, iStore 2 (.t 84) (.t 82)⟩])
 (cSeq (cOps [⟨some 85, false, none, iMov (.t 1)⟩,
 ⟨some 86, false, none, iCall (.c (.func (.func 5) [] [])) [(.c (.int .i64 (.lit 5))), (.c (.int .i64 (.lit 4)))]⟩,
 ⟨some 87, false, none, iIaddr 12 (.t 85) (.c (.int .i64 (.lit 5)))⟩,
 ⟨some 88, false, none, iFaddr 9 (.t 87)⟩,
 ⟨none, false, none, iStore 2 (.t 88) (.t 86)⟩])
 (cSeq (cOps [⟨some 89, false, none, iMov (.t 1)⟩,
 ⟨some 90, false, none, iIaddr 12 (.t 89) (.c (.int .i64 (.lit 6)))⟩,
 ⟨some 91, false, none, iFaddr 11 (.t 90)⟩,
 ⟨none, false, none, iStore 1 (.t 91) (.c (.int .i64 (.lit 7)))⟩])
 (cSeq (cOps [⟨some 92, false, none, iMov (.t 1)⟩,
 ⟨some 93, false, none, iIaddr 12 (.t 92) (.c (.int .i64 (.lit 7)))⟩,
 ⟨some 94, false, none, iFaddr 11 (.t 93)⟩,
 ⟨none, false, none, iStore 1 (.t 94) (.c (.int .i64 (.lit 0)))⟩])
 (cSeq (cSeq (cOps [⟨some 2, true, none, iMov (.c (.int .i64 (.lit 0)))⟩])
 (cBlock 0 (cLoop (cSeq (cSeq (cOps [⟨some 95, false, none, iMov (.t 2)⟩,
 ⟨some 96, false, none, iMov (.t 1)⟩,
 ⟨some 97, false, none, iLenS (.t 96)⟩,
 ⟨some 98, true, none, iCmp .lss (.t 95) (.t 97)⟩])
 (cCond (.t 98) cSkip (cExit 0)))
 (cSeq (cBlock 1 (cSeq (cOps [⟨some 102, false, none, iMov (.t 1)⟩,
 ⟨some 103, false, none, iMov (.t 2)⟩,
 ⟨some 104, false, none, iIaddr 12 (.t 102) (.t 103)⟩,
 ⟨some 105, false, none, iLoadN 12 (.t 104)⟩,
 ⟨some 106, false, none, iCall (.c (.func (.func 7) [] [])) [(.t 105), (.c .nilslice)]⟩,
 ⟨some 101, false, none, iMov (.t 106)⟩,
 ⟨some 107, false, none, iExtract 0 (.t 101)⟩,
 ⟨some 108, false, none, iExtract 1 (.t 101)⟩,
 ⟨some 3, false, none, iMov (.t 107)⟩,
 ⟨some 4, true, none, iMov (.t 108)⟩])
 (cSeq (cOps [⟨some 110, false, none, iMov (.t 1)⟩,
 ⟨some 111, false, none, iMov (.t 2)⟩,
 ⟨some 112, false, none, iIaddr 12 (.t 110) (.t 111)⟩,
 ⟨some 113, false, none, iLoadN 12 (.t 112)⟩,
 ⟨some 114, false, none, iCall (.c (.func (.func 8) [] [])) [(.t 113), (.c .nilslice)]⟩,
 ⟨some 109, false, none, iMov (.t 114)⟩,
 ⟨some 115, false, none, iExtract 0 (.t 109)⟩,
 ⟨some 116, false, none, iExtract 1 (.t 109)⟩,
 ⟨some 5, false, none, iMov (.t 115)⟩,
 ⟨some 6, true, none, iMov (.t 116)⟩])
 (cSeq (cOps [⟨some 118, false, none, iMov (.t 1)⟩,
 ⟨some 119, false, none, iMov (.t 2)⟩,
 ⟨some 120, false, none, iIaddr 12 (.t 118) (.t 119)⟩,
 ⟨some 121, false, none, iLoadN 12 (.t 120)⟩,
 ⟨some 122, false, none, iCall (.c (.func (.func 9) [] [])) [(.t 121), (.c .nilslice)]⟩,
 ⟨some 117, false, none, iMov (.t 122)⟩,
 ⟨some 123, false, none, iExtract 0 (.t 117)⟩,
 ⟨some 124, false, none, iExtract 1 (.t 117)⟩,
 ⟨some 125, false, none, iExtract 2 (.t 117)⟩,
 ⟨some 7, false, none, iMov (.t 123)⟩,
 ⟨some 8, false, none, iMov (.t 124)⟩,
 ⟨some 9, true, none, iMov (.t 125)⟩])
 (cSeq (cOps [⟨some 127, false, none, iMov (.t 1)⟩,
 ⟨some 128, false, none, iMov (.t 2)⟩,
 ⟨some 129, false, none, iIaddr 12 (.t 127) (.t 128)⟩,
 ⟨some 130, false, none, iLoadN 12 (.t 129)⟩,
 ⟨some 131, false, none, iCall (.c (.func (.func 10) [] [])) [(.t 130), (.c .nilslice), (.c (.int .i64 (.lit (-1))))]⟩,
 ⟨some 126, false, none, iMov (.t 131)⟩,
 ⟨some 132, false, none, iExtract 0 (.t 126)⟩,
 ⟨some 133, false, none, iExtract 1 (.t 126)⟩,
 ⟨some 10, false, none, iAlloc 24 [(.int .i64 (.lit 0)), (.int .i64 (.lit 0))]⟩,
 ⟨none, false, none, iStore 2 (.t 10) (.t 132)⟩,
 ⟨some 11, true, none, iMov (.t 133)⟩])
 (cSeq (cOps [⟨some 135, false, none, iMov (.t 1)⟩,
 ⟨some 136, false, none, iMov (.t 2)⟩,
 ⟨some 137, false, none, iIaddr 12 (.t 135) (.t 136)⟩,
 ⟨some 138, false, none, iLoadN 12 (.t 137)⟩,
 ⟨some 139, false, none, iCall (.c (.func (.func 11) [] [])) [(.t 138)]⟩,
 ⟨some 134, false, none, iMov (.t 139)⟩,
 ⟨some 140, false, none, iExtract 0 (.t 134)⟩,
 ⟨some 141, false, none, iExtract 1 (.t 134)⟩,
 ⟨some 12, false, none, iMov (.t 140)⟩,
 ⟨some 13, true, none, iMov (.t 141)⟩])
 (cSeq (cOps [⟨some 143, false, none, iMov (.t 1)⟩,
 ⟨some 144, false, none, iMov (.t 2)⟩,
 ⟨some 145, false, none, iIaddr 12 (.t 143) (.t 144)⟩,
 ⟨some 146, false, none, iLoadN 12 (.t 145)⟩,
 ⟨some 147, false, none, iCall (.c (.func (.func 12) [] [])) [(.t 146), (.c (.int .i64 (.lit (-1))))]⟩,
 ⟨some 142, false, none, iMov (.t 147)⟩,
 ⟨some 148, false, none, iExtract 0 (.t 142)⟩,
 ⟨some 149, false, none, iExtract 1 (.t 142)⟩,
 ⟨some 14, false, none, iMov (.t 148)⟩,
 ⟨some 15, true, none, iMov (.t 149)⟩])
 (cSeq (cOps [⟨some 151, false, none, iMov (.t 1)⟩,
 ⟨some 152, false, none, iMov (.t 2)⟩,
 ⟨some 153, false, none, iIaddr 12 (.t 151) (.t 152)⟩,
 ⟨some 154, false, none, iLoadN 12 (.t 153)⟩,
 ⟨some 155, false, none, iCall (.c (.func (.func 13) [] [])) [(.t 154), (.c (.int .i64 (.lit (-1))))]⟩,
 ⟨some 150, false, none, iMov (.t 155)⟩,
 ⟨some 156, false, none, iExtract 0 (.t 150)⟩,
 ⟨some 157, false, none, iExtract 1 (.t 150)⟩,
 ⟨some 16, false, none, iMov (.t 156)⟩,
 ⟨some 17, true, none, iMov (.t 157)⟩])
 (cSeq (cOps [⟨some 158, false, none, iMov (.t 1)⟩,
 ⟨some 159, false, none, iMov (.t 2)⟩,
 ⟨some 160, false, none, iIaddr 12 (.t 158) (.t 159)⟩,
 ⟨some 161, false, none, iLoadN 12 (.t 160)⟩,
 ⟨some 162, false, none, iCall (.c (.func (.func 14) [] [])) [(.t 161)]⟩,
 ⟨some 163, false, none, iCmp .neq (.t 162) (.c (.int .i64 (.lit 80)))⟩,
 ⟨some 164, false, none, iMov (.t 163)⟩,
 ⟨some 165, false, some (164, false), iMov (.t 4)⟩,
 ⟨some 166, false, some (164, false), iCmp .neq (.t 165) (.c (.int .i64 (.lit 80)))⟩,
 ⟨some 167, false, none, iPick (.t 164) (.c (.bool (.lit true))) (.t 166)⟩,
 ⟨some 168, false, none, iMov (.t 167)⟩,
 ⟨some 169, false, some (168, false), iMov (.t 6)⟩,
 ⟨some 170, false, some (168, false), iCmp .neq (.t 169) (.c (.int .i64 (.lit 80)))⟩,
 ⟨some 171, false, none, iPick (.t 168) (.c (.bool (.lit true))) (.t 170)⟩,
 ⟨some 172, false, none, iMov (.t 171)⟩,
 ⟨some 173, false, some (172, false), iMov (.t 9)⟩,
 ⟨some 174, false, some (172, false), iCmp .neq (.t 173) (.c (.int .i64 (.lit 80)))⟩,
 ⟨some 175, false, none, iPick (.t 172) (.c (.bool (.lit true))) (.t 174)⟩,
 ⟨some 176, false, none, iMov (.t 175)⟩,
 ⟨some 177, false, some (176, false), iMov (.t 11)⟩,
 ⟨some 178, false, some (176, false), iCmp .neq (.t 177) (.c (.int .i64 (.lit 80)))⟩,
 ⟨some 179, false, none, iPick (.t 176) (.c (.bool (.lit true))) (.t 178)⟩,
 ⟨some 180, false, none, iMov (.t 179)⟩,
 ⟨some 181, false, some (180, false), iMov (.t 13)⟩,
 ⟨some 182, false, some (180, false), iCmp .neq (.t 181) (.c (.int .i64 (.lit 80)))⟩,
 ⟨some 183, false, none, iPick (.t 180) (.c (.bool (.lit true))) (.t 182)⟩,
 ⟨some 184, false, none, iMov (.t 183)⟩,
 ⟨some 185, false, some (184, false), iMov (.t 15)⟩,
 ⟨some 186, false, some (184, false), iCmp .neq (.t 185) (.c (.int .i64 (.lit 80)))⟩,
 ⟨some 187, false, none, iPick (.t 184) (.c (.bool (.lit true))) (.t 186)⟩,
 ⟨some 188, false, none, iMov (.t 187)⟩,
 ⟨some 189, false, some (188, false), iMov (.t 17)⟩,
 ⟨some 190, false, some (188, false), iCmp .neq (.t 189) (.c (.int .i64 (.lit 80)))⟩,
 ⟨some 191, true, none, iPick (.t 188) (.c (.bool (.lit true))) (.t 190)⟩])
 (cCond (.t 191) (cSeq (cOps [⟨some 0, true, none, iMov (.c (.bool (.lit false)))⟩])
 cRet) cSkip))))))))))
 (cOps [⟨some 99, false, none, iMov (.t 2)⟩,
 ⟨some 100, false, none, iArith .add (.t 99) (.c (.int .i64 (.lit 1)))⟩,
 ⟨some 2, true, none, iMov (.t 100)⟩]))))))
 (cSeq (cOps [⟨some 192, false, none, iBslice 3 [(.int .i64 (.lit 0))] 1 [(0, 1, (.c (.int .i64 (.lit 3))))]⟩,
 ⟨some 193, false, none, iBslice 3 [(.int .i64 (.lit 0))] 1 [(0, 1, (.c (.int .i64 (.lit 2))))]⟩,
 ⟨some 194, false, none, iBslice 3 [(.int .i64 (.lit 0))] 3 [(0, 1, (.c (.int .i64 (.lit 0)))), (1, 1, (.c (.int .i64 (.lit 1)))), (2, 1, (.c (.int .i64 (.lit 2))))]⟩,
 ⟨some 195, false, none, iBslice 3 [(.int .i64 (.lit 0))] 2 [(0, 1, (.c (.int .i64 (.lit 2)))), (1, 1, (.c (.int .i64 (.lit 2))))]⟩,
 ⟨some 196, false, none, iBslice 3 [(.int .i64 (.lit 0))] 4 [(0, 1, (.c (.int .i64 (.lit 1)))), (1, 1, (.c (.int .i64 (.lit 1)))), (2, 1, (.c (.int .i64 (.lit 1)))), (3, 1, (.c (.int .i64 (.lit 1))))]⟩,
 ⟨some 197, false, none, iBslice 3 [(.int .i64 (.lit 0))] 3 [(0, 1, (.c (.int .i64 (.lit (-1))))), (1, 1, (.c (.int .i64 (.lit 2)))), (2, 1, (.c (.int .i64 (.lit 2))))]⟩,
 ⟨some 198, false, none, iBslice 45 [.nilslice] 7 [(0, 1, (.c .nilslice)), (1, 1, (.t 192)), (2, 1, (.t 193)), (3, 1, (.t 194)), (4, 1, (.t 195)), (5, 1, (.t 196)), (6, 1, (.t 197))]⟩,
 ⟨some 18, true, none, iMov (.t 198)⟩])
 (cSeq (cSeq (cOps [⟨some 19, true, none, iMov (.c (.int .i64 (.lit 0)))⟩])
 (cBlock 2 (cLoop (cSeq (cSeq (cOps [⟨some 199, false, none, iMov (.t 19)⟩,
 ⟨some 200, false, none, iMov (.t 18)⟩,
 ⟨some 201, false, none, iLenS (.t 200)⟩,
 ⟨some 202, true, none, iCmp .lss (.t 199) (.t 201)⟩])
 (cCond (.t 202) cSkip (cExit 2)))
 (cSeq (cBlock 3 (cSeq (dOps 0 [⟨⟨some 206, false, none, iCall (.c (.func (.func 4) [] [])) []⟩, [], true, 0, 0, none, []⟩,
 ⟨⟨some 207, false, none, iMov (.t 18)⟩, [18], false, 0, 1, none, []⟩,
 ⟨⟨some 208, false, none, iMov (.t 19)⟩, [19], false, 0, 1, none, []⟩,
 ⟨⟨some 209, false, none, iIaddr 1 (.t 207) (.t 208)⟩, [207, 208], false, 0, 1, none, []⟩,
 ⟨⟨some 210, false, none, iLoad (.t 209)⟩, [209], false, 0, 1, none, []⟩,
 ⟨⟨some 211, false, none, iCall (.c (.func (.func 7) [] [])) [(.t 206), (.t 210)]⟩, [206, 210], true, 1, 0, none, []⟩,
 ⟨⟨some 205, false, none, iMov (.t 211)⟩, [211], false, 2, 2, none, []⟩,
 ⟨⟨some 212, false, none, iExtract 0 (.t 205)⟩, [205], false, 2, 2, none, []⟩,
 ⟨⟨some 213, false, none, iExtract 1 (.t 205)⟩, [205], false, 2, 2, none, []⟩,
 ⟨⟨some 20, true, none, iMov (.t 212)⟩, [212], false, 2, 2, none, []⟩,
 ⟨⟨some 21, true, none, iMov (.t 213)⟩, [213], false, 2, 2, none, []⟩])
 (cSeq (dOps 0 [⟨⟨some 215, false, none, iCall (.c (.func (.func 4) [] [])) []⟩, [], true, 0, 0, none, []⟩,
 ⟨⟨some 216, false, none, iMov (.t 18)⟩, [18], false, 0, 1, none, []⟩,
 ⟨⟨some 217, false, none, iMov (.t 19)⟩, [19], false, 0, 1, none, []⟩,
 ⟨⟨some 218, false, none, iIaddr 1 (.t 216) (.t 217)⟩, [216, 217], false, 0, 1, none, []⟩,
 ⟨⟨some 219, false, none, iLoad (.t 218)⟩, [218], false, 0, 1, none, []⟩,
 ⟨⟨some 220, false, none, iCall (.c (.func (.func 8) [] [])) [(.t 215), (.t 219)]⟩, [215, 219], true, 1, 0, none, []⟩,
 ⟨⟨some 214, false, none, iMov (.t 220)⟩, [220], false, 2, 2, none, []⟩,
 ⟨⟨some 221, false, none, iExtract 0 (.t 214)⟩, [214], false, 2, 2, none, []⟩,
 ⟨⟨some 222, false, none, iExtract 1 (.t 214)⟩, [214], false, 2, 2, none, []⟩,
 ⟨⟨some 22, false, none, iMov (.t 221)⟩, [221], false, 2, 2, none, []⟩,
 ⟨⟨some 23, true, none, iMov (.t 222)⟩, [222], false, 2, 2, none, []⟩])
 (cSeq (dOps 0 [⟨⟨some 224, false, none, iCall (.c (.func (.func 4) [] [])) []⟩, [], true, 0, 0, none, []⟩,
 ⟨⟨some 225, false, none, iMov (.t 18)⟩, [18], false, 0, 1, none, []⟩,
 ⟨⟨some 226, false, none, iMov (.t 19)⟩, [19], false, 0, 1, none, []⟩,
 ⟨⟨some 227, false, none, iIaddr 1 (.t 225) (.t 226)⟩, [225, 226], false, 0, 1, none, []⟩,
 ⟨⟨some 228, false, none, iLoad (.t 227)⟩, [227], false, 0, 1, none, []⟩,
 ⟨⟨some 229, false, none, iCall (.c (.func (.func 9) [] [])) [(.t 224), (.t 228)]⟩, [224, 228], true, 1, 0, none, []⟩,
 ⟨⟨some 223, false, none, iMov (.t 229)⟩, [229], false, 2, 2, none, []⟩,
 ⟨⟨some 230, false, none, iExtract 0 (.t 223)⟩, [223], false, 2, 2, none, []⟩,
 ⟨⟨some 231, false, none, iExtract 1 (.t 223)⟩, [223], false, 2, 2, none, []⟩,
 ⟨⟨some 232, false, none, iExtract 2 (.t 223)⟩, [223], false, 2, 2, none, []⟩,
 ⟨⟨some 24, false, none, iMov (.t 230)⟩, [230], false, 2, 2, none, []⟩,
 ⟨⟨some 25, false, none, iMov (.t 231)⟩, [231], false, 2, 2, none, []⟩,
 ⟨⟨some 26, true, none, iMov (.t 232)⟩, [232], false, 2, 2, none, []⟩])
 (cSeq (dOps 1 [⟨⟨some 234, false, none, iCall (.c (.func (.func 4) [] [])) []⟩, [], true, 0, 0, none, []⟩,
 ⟨⟨some 235, false, none, iMov (.t 18)⟩, [18], false, 0, 1, none, []⟩,
 ⟨⟨some 236, false, none, iMov (.t 19)⟩, [19], false, 0, 1, none, []⟩,
 ⟨⟨some 237, false, none, iIaddr 1 (.t 235) (.t 236)⟩, [235, 236], false, 0, 1, none, []⟩,
 ⟨⟨some 238, false, none, iLoad (.t 237)⟩, [237], false, 0, 1, none, []⟩,
 ⟨⟨some 239, false, none, iCall (.c (.func (.func 10) [] [])) [(.t 234), (.t 238), (.c (.int .i64 (.lit 0)))]⟩, [234, 238], true, 1, 0, none, []⟩,
 ⟨⟨some 233, false, none, iMov (.t 239)⟩, [239], false, 2, 2, none, []⟩,
 ⟨⟨some 240, false, none, iExtract 0 (.t 233)⟩, [233], false, 2, 2, none, []⟩,
 ⟨⟨some 241, false, none, iExtract 1 (.t 233)⟩, [233], false, 2, 3, none, []⟩,
 ⟨⟨some 27, false, none, iAlloc 24 [(.int .i64 (.lit 0)), (.int .i64 (.lit 0))]⟩, [], false, 0, 3, (some (flAlloc [(.int .i64 (.lit 0)), (.int .i64 (.lit 0))], .ptr, 0)), []⟩,
 ⟨⟨none, false, none, iStore 2 (.t 27) (.t 240)⟩, [27, 240], true, 2, 0, none, [0]⟩,
 ⟨⟨some 28, true, none, iMov (.t 241)⟩, [241], false, 3, 3, none, []⟩])
 (cSeq (cOps [⟨some 242, false, none, iMov (.t 21)⟩,
 ⟨some 243, false, none, iCmp .neq (.t 242) (.c (.int .i64 (.lit 0)))⟩,
 ⟨some 244, false, none, iMov (.t 243)⟩,
 ⟨some 245, false, some (244, false), iMov (.t 20)⟩,
 ⟨some 246, false, none, iPick (.t 244) (.c (.bool (.lit true))) (.t 245)⟩,
 ⟨some 247, false, none, iMov (.t 246)⟩,
 ⟨some 248, false, some (247, false), iMov (.t 23)⟩,
 ⟨some 249, false, some (247, false), iCmp .neq (.t 248) (.c (.int .i64 (.lit 81)))⟩,
 ⟨some 250, false, none, iPick (.t 247) (.c (.bool (.lit true))) (.t 249)⟩,
 ⟨some 251, false, none, iMov (.t 250)⟩,
 ⟨some 252, false, some (251, false), iMov (.t 26)⟩,
 ⟨some 253, false, some (251, false), iCmp .neq (.t 252) (.c (.int .i64 (.lit 81)))⟩,
 ⟨some 254, false, none, iPick (.t 251) (.c (.bool (.lit true))) (.t 253)⟩,
 ⟨some 255, false, none, iMov (.t 254)⟩,
 ⟨some 256, false, some (255, false), iMov (.t 28)⟩,
 ⟨some 257, false, some (255, false), iCmp .neq (.t 256) (.c (.int .i64 (.lit 81)))⟩,
 ⟨some 258, true, none, iPick (.t 255) (.c (.bool (.lit true))) (.t 257)⟩])
 (cCond (.t 258) (cSeq (cOps [⟨some 0, true, none, iMov (.c (.bool (.lit false)))⟩])
 cRet) cSkip)))))))
 (cOps [⟨some 203, false, none, iMov (.t 19)⟩,
 ⟨some 204, false, none, iArith .add (.t 203) (.c (.int .i64 (.lit 1)))⟩,
 ⟨some 19, true, none, iMov (.t 204)⟩]))))))
 (cSeq (cOps [⟨some 260, false, none, iCall (.c (.func (.func 4) [] [])) []⟩,
 ⟨some 261, false, none, iBslice 3 [(.int .i64 (.lit 0))] 2 [(0, 1, (.c (.int .i64 (.lit 1)))), (1, 1, (.c (.int .i64 (.lit 2))))]⟩,
 ⟨some 262, false, none, iCall (.c (.func (.func 10) [] [])) [(.t 260), (.t 261), (.c (.int .i64 (.lit 100000)))]⟩,
 ⟨some 259, false, none, iMov (.t 262)⟩,
 ⟨some 263, false, none, iExtract 0 (.t 259)⟩,
 ⟨some 264, false, none, iExtract 1 (.t 259)⟩,
 ⟨some 29, false, none, iAlloc 24 [(.int .i64 (.lit 0)), (.int .i64 (.lit 0))]⟩,
 ⟨none, false, none, iStore 2 (.t 29) (.t 263)⟩,
 ⟨some 30, true, none, iMov (.t 264)⟩])
 (cSeq (cOps [⟨some 266, false, none, iCall (.c (.func (.func 4) [] [])) []⟩,
 ⟨some 267, false, none, iCall (.c (.func (.func 12) [] [])) [(.t 266), (.c (.int .i64 (.lit (-1))))]⟩,
 ⟨some 265, false, none, iMov (.t 267)⟩,
 ⟨some 268, false, none, iExtract 0 (.t 265)⟩,
 ⟨some 269, false, none, iExtract 1 (.t 265)⟩,
 ⟨some 31, false, none, iMov (.t 268)⟩,
 ⟨some 32, true, none, iMov (.t 269)⟩])
 (cSeq (cOps [⟨some 271, false, none, iCall (.c (.func (.func 4) [] [])) []⟩,
 ⟨some 272, false, none, iCall (.c (.func (.func 13) [] [])) [(.t 271), (.c (.int .i64 (.lit 100000)))]⟩,
 ⟨some 270, false, none, iMov (.t 272)⟩,
 ⟨some 273, false, none, iExtract 0 (.t 270)⟩,
 ⟨some 274, false, none, iExtract 1 (.t 270)⟩,
 ⟨some 33, false, none, iMov (.t 273)⟩,
 ⟨some 34, true, none, iMov (.t 274)⟩])
 (cSeq (cOps [⟨some 276, false, none, iCall (.c (.func (.func 4) [] [])) []⟩,
 ⟨some 277, false, none, iCall (.c (.func (.func 12) [] [])) [(.t 276), (.c (.int .i64 (.lit 1523)))]⟩,
 ⟨some 275, false, none, iMov (.t 277)⟩,
 ⟨some 278, false, none, iExtract 0 (.t 275)⟩,
 ⟨some 279, false, none, iExtract 1 (.t 275)⟩,
 ⟨some 35, false, none, iMov (.t 278)⟩,
 ⟨some 36, true, none, iMov (.t 279)⟩])
 (cSeq (cOps [⟨some 281, false, none, iCall (.c (.func (.func 15) [] [])) []⟩,
 ⟨some 282, false, none, iCall (.c (.func (.func 13) [] [])) [(.t 281), (.c (.int .i64 (.lit 2900)))]⟩,
 ⟨some 280, false, none, iMov (.t 282)⟩,
 ⟨some 283, false, none, iExtract 0 (.t 280)⟩,
 ⟨some 284, false, none, iExtract 1 (.t 280)⟩,
 ⟨some 37, false, none, iMov (.t 283)⟩,
 ⟨some 38, true, none, iMov (.t 284)⟩])
 (cSeq (cSeq (cOps [⟨some 285, false, none, iMov (.t 30)⟩,
 ⟨some 286, false, none, iCmp .neq (.t 285) (.c (.int .i64 (.lit 81)))⟩,
 ⟨some 287, false, none, iMov (.t 286)⟩,
 ⟨some 288, false, some (287, false), iMov (.t 32)⟩,
 ⟨some 289, false, some (287, false), iCmp .neq (.t 288) (.c (.int .i64 (.lit 81)))⟩,
 ⟨some 290, false, none, iPick (.t 287) (.c (.bool (.lit true))) (.t 289)⟩,
 ⟨some 291, false, none, iMov (.t 290)⟩,
 ⟨some 292, false, some (291, false), iMov (.t 34)⟩,
 ⟨some 293, false, some (291, false), iCmp .neq (.t 292) (.c (.int .i64 (.lit 81)))⟩,
 ⟨some 294, false, none, iPick (.t 291) (.c (.bool (.lit true))) (.t 293)⟩,
 ⟨some 295, false, none, iMov (.t 294)⟩,
 ⟨some 296, false, some (295, false), iMov (.t 36)⟩,
 ⟨some 297, false, some (295, false), iCmp .neq (.t 296) (.c (.int .i64 (.lit 4)))⟩,
 ⟨some 298, false, none, iPick (.t 295) (.c (.bool (.lit true))) (.t 297)⟩,
 ⟨some 299, false, none, iMov (.t 298)⟩,
 ⟨some 300, false, some (299, false), iMov (.t 38)⟩,
 ⟨some 301, false, some (299, false), iCmp .neq (.t 300) (.c (.int .i64 (.lit 4)))⟩,
 ⟨some 302, true, none, iPick (.t 299) (.c (.bool (.lit true))) (.t 301)⟩])
 (cCond (.t 302) (cSeq (cOps [⟨some 0, true, none, iMov (.c (.bool (.lit false)))⟩])
 cRet) cSkip))
 (cSeq (cOps [⟨some 304, false, none, iCall (.c (.func (.func 4) [] [])) []⟩,
 ⟨some 305, false, none, iBslice 3 [(.int .i64 (.lit 0))] 3 [(0, 1, (.c (.int .i64 (.lit 1)))), (1, 1, (.c (.int .i64 (.lit 1)))), (2, 1, (.c (.int .i64 (.lit 1))))]⟩,
 ⟨some 306, false, none, iCall (.c (.func (.func 8) [] [])) [(.t 304), (.t 305)]⟩,
 ⟨some 303, false, none, iMov (.t 306)⟩,
 ⟨some 307, false, none, iExtract 0 (.t 303)⟩,
 ⟨some 308, false, none, iExtract 1 (.t 303)⟩,
 ⟨some 39, true, none, iMov (.t 307)⟩,
 ⟨some 30, true, none, iMov (.t 308)⟩])
 (cSeq (cOps [⟨some 310, false, none, iCall (.c (.func (.func 4) [] [])) []⟩,
 ⟨some 311, false, none, iBslice 3 [(.int .i64 (.lit 0))] 3 [(0, 1, (.c (.int .i64 (.lit 1)))), (1, 1, (.c (.int .i64 (.lit 1)))), (2, 1, (.c (.int .i64 (.lit 1))))]⟩,
 ⟨some 312, false, none, iCall (.c (.func (.func 9) [] [])) [(.t 310), (.t 311)]⟩,
 ⟨some 309, false, none, iMov (.t 312)⟩,
 ⟨some 313, false, none, iExtract 0 (.t 309)⟩,
 ⟨some 314, false, none, iExtract 1 (.t 309)⟩,
 ⟨some 315, false, none, iExtract 2 (.t 309)⟩,
 ⟨some 40, true, none, iMov (.t 313)⟩,
 ⟨some 41, true, none, iMov (.t 314)⟩,
 ⟨some 32, true, none, iMov (.t 315)⟩])
 (cSeq (cOps [⟨some 317, false, none, iCall (.c (.func (.func 4) [] [])) []⟩,
 ⟨some 318, false, none, iBslice 3 [(.int .i64 (.lit 0))] 2 [(0, 1, (.c (.int .i64 (.lit 2)))), (1, 1, (.c (.int .i64 (.lit 1))))]⟩,
 ⟨some 319, false, none, iCall (.c (.func (.func 9) [] [])) [(.t 317), (.t 318)]⟩,
 ⟨some 316, false, none, iMov (.t 319)⟩,
 ⟨some 320, false, none, iExtract 0 (.t 316)⟩,
 ⟨some 321, false, none, iExtract 1 (.t 316)⟩,
 ⟨some 322, false, none, iExtract 2 (.t 316)⟩,
 ⟨some 42, true, none, iMov (.t 320)⟩,
 ⟨some 43, true, none, iMov (.t 321)⟩,
 ⟨some 34, true, none, iMov (.t 322)⟩])
 (cSeq (cOps [⟨some 324, false, none, iCall (.c (.func (.func 4) [] [])) []⟩,
 ⟨some 325, false, none, iBslice 3 [(.int .i64 (.lit 0))] 3 [(0, 1, (.c (.int .i64 (.lit 1)))), (1, 1, (.c (.int .i64 (.lit 1)))), (2, 1, (.c (.int .i64 (.lit 1))))]⟩,
 ⟨some 326, false, none, iCall (.c (.func (.func 10) [] [])) [(.t 324), (.t 325), (.c (.int .i64 (.lit 1524)))]⟩,
 ⟨some 323, false, none, iMov (.t 326)⟩,
 ⟨some 327, false, none, iExtract 0 (.t 323)⟩,
 ⟨some 328, false, none, iExtract 1 (.t 323)⟩,
 ⟨some 44, true, none, iAlloc 24 [(.int .i64 (.lit 0)), (.int .i64 (.lit 0))]⟩,
 ⟨none, false, none, iStore 2 (.t 44) (.t 327)⟩,
 ⟨some 36, true, none, iMov (.t 328)⟩])
 (cSeq (cOps [⟨some 330, false, none, iCall (.c (.func (.func 4) [] [])) []⟩,
 ⟨some 331, false, none, iCall (.c (.func (.func 12) [] [])) [(.t 330), (.c (.int .i64 (.lit 1524)))]⟩,
 ⟨some 329, false, none, iMov (.t 331)⟩,
 ⟨some 332, false, none, iExtract 0 (.t 329)⟩,
 ⟨some 333, false, none, iExtract 1 (.t 329)⟩,
 ⟨some 45, true, none, iMov (.t 332)⟩,
 ⟨some 38, true, none, iMov (.t 333)⟩])
 (cSeq (cOps [⟨some 335, false, none, iCall (.c (.func (.func 15) [] [])) []⟩,
 ⟨some 336, false, none, iCall (.c (.func (.func 13) [] [])) [(.t 335), (.c (.int .i64 (.lit 4600)))]⟩,
 ⟨some 334, false, none, iMov (.t 336)⟩,
 ⟨some 337, false, none, iExtract 0 (.t 334)⟩,
 ⟨some 338, false, none, iExtract 1 (.t 334)⟩,
 ⟨some 46, true, none, iMov (.t 337)⟩,
 ⟨some 47, true, none, iMov (.t 338)⟩])
 (cSeq (cOps [⟨some 340, false, none, iCall (.c (.func (.func 15) [] [])) []⟩,
 ⟨some 341, false, none, iCall (.c (.func (.func 13) [] [])) [(.t 340), (.c (.int .i64 (.lit 3110)))]⟩,
 ⟨some 339, false, none, iMov (.t 341)⟩,
 ⟨some 342, false, none, iExtract 0 (.t 339)⟩,
 ⟨some 343, false, none, iExtract 1 (.t 339)⟩,
 ⟨some 48, true, none, iMov (.t 342)⟩,
 ⟨some 49, true, none, iMov (.t 343)⟩])
 (cSeq (cOps [⟨some 344, false, none, iCall (.c (.func (.func 4) [] [])) []⟩,
 ⟨some 50, true, none, iAlloc 28 [.nilslice, (.int .i64 (.lit 0)), (.int .i64 (.lit 0)), (.int .i64 (.lit 0)), (.int .i64 (.lit 0)), (.int .i64 (.lit 0)), (.int .i64 (.lit 0)), (.int .i64 (.lit 0)), (.int .i64 (.lit 0)), (.int .i64 (.lit 0)), (.int .i64 (.lit 0)), (.int .i64 (.lit 0))]⟩,
 ⟨none, false, none, iStore 12 (.t 50) (.t 344)⟩])
 (cSeq (cOps [⟨some 345, false, none, iBslice 3 [(.int .i64 (.lit 0))] 1 [(0, 1, (.c (.int .i64 (.lit 10))))]⟩,
 ⟨some 346, false, none, iCall (.c (.func (.func 16) [] [])) [(.t 345)]⟩,
 ⟨some 347, false, none, iCall (.c (.func (.func 6) [] [])) [(.c (.int .i64 (.lit 0)))]⟩,
 ⟨some 348, false, none, iFaddr 0 (.t 50)⟩,
 ⟨none, false, none, iStore 6 (.t 348) (.t 346)⟩,
 ⟨some 349, false, none, iFaddr 7 (.t 50)⟩,
 ⟨none, false, none, iStore 2 (.t 349) (.t 347)⟩])
 (cSeq (cOps [⟨some 351, false, none, iLoadN 12 (.t 50)⟩,
 ⟨some 352, false, none, iCall (.c (.func (.func 11) [] [])) [(.t 351)]⟩,
 ⟨some 350, false, none, iMov (.t 352)⟩,
 ⟨some 353, false, none, iExtract 0 (.t 350)⟩,
 ⟨some 354, false, none, iExtract 1 (.t 350)⟩,
 ⟨some 51, true, none, iMov (.t 353)⟩,
 ⟨some 52, true, none, iMov (.t 354)⟩])
 (cSeq (cOps [⟨some 356, false, none, iLoadN 12 (.t 50)⟩,
 ⟨some 357, false, none, iBslice 3 [(.int .i64 (.lit 0))] 1 [(0, 1, (.c (.int .i64 (.lit 1))))]⟩,
 ⟨some 358, false, none, iCall (.c (.func (.func 9) [] [])) [(.t 356), (.t 357)]⟩,
 ⟨some 355, false, none, iMov (.t 358)⟩,
 ⟨some 359, false, none, iExtract 0 (.t 355)⟩,
 ⟨some 360, false, none, iExtract 1 (.t 355)⟩,
 ⟨some 361, false, none, iExtract 2 (.t 355)⟩,
 ⟨some 53, true, none, iMov (.t 359)⟩,
 ⟨some 54, true, none, iMov (.t 360)⟩,
 ⟨some 55, true, none, iMov (.t 361)⟩])
 (cSeq (dOps 0 [⟨⟨some 362, false, none, iMov (.t 30)⟩, [30], false, 0, 0, none, []⟩,
 ⟨⟨some 363, false, none, iCmp .eql (.t 362) (.c (.int .i64 (.lit 0)))⟩, [362], false, 0, 0, none, []⟩,
 ⟨⟨some 364, false, none, iMov (.t 363)⟩, [363], false, 0, 0, none, []⟩,
 ⟨⟨some 365, false, some (364, true), iMov (.t 39)⟩, [364, 39], false, 0, 4, none, []⟩,
 ⟨⟨some 366, false, some (364, true), iCall (.c (.func (.func 5) [] [])) [(.c (.int .i64 (.lit 9000))), (.c (.int .i64 (.lit 12000)))]⟩, [364], true, 0, 0, none, []⟩,
 ⟨⟨some 367, false, some (364, true), iCall (.c (.func (.func 5) [] [])) [(.c (.int .i64 (.lit 15000))), (.c (.int .i64 (.lit 19000)))]⟩, [364], true, 1, 0, none, []⟩,
 ⟨⟨some 368, false, some (364, true), iCall (.c (.func (.func 5) [] [])) [(.c (.int .i64 (.lit 21000))), (.c (.int .i64 (.lit 26000)))]⟩, [364], true, 2, 0, none, []⟩,
 ⟨⟨some 369, false, some (364, true), iBslice 24 [(.int .i64 (.lit 0)), (.int .i64 (.lit 0))] 3 [(0, 2, (.t 366)), (2, 2, (.t 367)), (4, 2, (.t 368))]⟩, [364, 366, 367, 368], true, 3, 0, none, []⟩,
 ⟨⟨some 370, false, some (364, true), iCall (.c (.func (.func 17) [] [])) [(.t 365), (.t 369)]⟩, [364, 365, 369], true, 4, 0, none, []⟩,
 ⟨⟨some 371, false, none, iPick (.t 364) (.t 370) (.c (.bool (.lit false)))⟩, [364, 370], false, 5, 5, none, []⟩,
 ⟨⟨some 372, false, none, iMov (.t 371)⟩, [371], false, 5, 5, none, []⟩,
 ⟨⟨some 373, false, some (372, true), iMov (.t 32)⟩, [372, 32], false, 5, 5, none, []⟩,
 ⟨⟨some 374, false, some (372, true), iCmp .eql (.t 373) (.c (.int .i64 (.lit 0)))⟩, [372, 373], false, 5, 5, none, []⟩,
 ⟨⟨some 375, false, none, iPick (.t 372) (.t 374) (.c (.bool (.lit false)))⟩, [372, 374], false, 5, 5, none, []⟩,
 ⟨⟨some 376, false, none, iMov (.t 375)⟩, [375], false, 5, 5, none, []⟩,
 ⟨⟨some 377, false, some (376, true), iMov (.t 40)⟩, [376, 40], false, 5, 5, none, []⟩,
 ⟨⟨some 378, false, some (376, true), iCmp .eql (.t 377) (.c (.int .i64 (.lit 1524)))⟩, [376, 377], false, 5, 5, none, []⟩,
 ⟨⟨some 379, false, none, iPick (.t 376) (.t 378) (.c (.bool (.lit false)))⟩, [376, 378], false, 5, 5, none, []⟩,
 ⟨⟨some 380, false, none, iMov (.t 379)⟩, [379], false, 5, 5, none, []⟩,
 ⟨⟨some 381, false, some (380, true), iMov (.t 41)⟩, [380, 41], false, 5, 5, none, []⟩,
 ⟨⟨some 382, false, some (380, true), iCmp .eql (.t 381) (.c (.int .i64 (.lit 900)))⟩, [380, 381], false, 5, 5, none, []⟩,
 ⟨⟨some 383, false, none, iPick (.t 380) (.t 382) (.c (.bool (.lit false)))⟩, [380, 382], false, 5, 5, none, []⟩,
 ⟨⟨some 384, false, none, iMov (.t 383)⟩, [383], false, 5, 5, none, []⟩,
 ⟨⟨some 385, false, some (384, true), iMov (.t 34)⟩, [384, 34], false, 5, 5, none, []⟩,
 ⟨⟨some 386, false, some (384, true), iCmp .eql (.t 385) (.c (.int .i64 (.lit 0)))⟩, [384, 385], false, 5, 5, none, []⟩,
 ⟨⟨some 387, false, none, iPick (.t 384) (.t 386) (.c (.bool (.lit false)))⟩, [384, 386], false, 5, 5, none, []⟩,
 ⟨⟨some 388, false, none, iMov (.t 387)⟩, [387], false, 5, 5, none, []⟩,
 ⟨⟨some 389, false, some (388, true), iMov (.t 42)⟩, [388, 42], false, 5, 5, none, []⟩,
 ⟨⟨some 390, false, some (388, true), iCmp .eql (.t 389) (.c (.int .i64 (.lit 1840)))⟩, [388, 389], false, 5, 5, none, []⟩,
 ⟨⟨some 391, false, none, iPick (.t 388) (.t 390) (.c (.bool (.lit false)))⟩, [388, 390], false, 5, 5, none, []⟩,
 ⟨⟨some 392, false, none, iMov (.t 391)⟩, [391], false, 5, 5, none, []⟩,
 ⟨⟨some 393, false, some (392, true), iMov (.t 43)⟩, [392, 43], false, 5, 5, none, []⟩,
 ⟨⟨some 394, false, some (392, true), iCmp .eql (.t 393) (.c (.int .i64 (.lit 1380)))⟩, [392, 393], false, 5, 5, none, []⟩,
 ⟨⟨some 395, false, none, iPick (.t 392) (.t 394) (.c (.bool (.lit false)))⟩, [392, 394], false, 5, 5, none, []⟩,
 ⟨⟨some 396, false, none, iMov (.t 395)⟩, [395], false, 5, 5, none, []⟩,
 ⟨⟨some 397, false, some (396, true), iMov (.t 36)⟩, [396, 36], false, 5, 5, none, []⟩,
 ⟨⟨some 398, false, some (396, true), iCmp .eql (.t 397) (.c (.int .i64 (.lit 0)))⟩, [396, 397], false, 5, 5, none, []⟩,
 ⟨⟨some 399, false, none, iPick (.t 396) (.t 398) (.c (.bool (.lit false)))⟩, [396, 398], false, 5, 5, none, []⟩,
 ⟨⟨some 400, false, none, iMov (.t 399)⟩, [399], false, 5, 5, none, []⟩,
 ⟨⟨some 401, false, some (400, true), iLoadN 2 (.t 44)⟩, [400, 44], false, 5, 6, none, []⟩,
 ⟨⟨some 402, false, some (400, true), iCall (.c (.func (.func 5) [] [])) [(.c (.int .i64 (.lit 29586))), (.c (.int .i64 (.lit 34416)))]⟩, [400], true, 5, 0, none, []⟩,
 ⟨⟨some 403, false, some (400, true), iEq false true 2 [(0, .int), (1, .int)] (.t 401) (.t 402)⟩, [400, 401, 402], false, 6, 6, none, []⟩,
 ⟨⟨some 404, false, none, iPick (.t 400) (.t 403) (.c (.bool (.lit false)))⟩, [400, 403], false, 6, 6, none, []⟩,
 ⟨⟨some 405, false, none, iMov (.t 404)⟩, [404], false, 6, 6, none, []⟩,
 ⟨⟨some 406, false, some (405, true), iMov (.t 38)⟩, [405, 38], false, 6, 6, none, []⟩,
 ⟨⟨some 407, false, some (405, true), iCmp .eql (.t 406) (.c (.int .i64 (.lit 0)))⟩, [405, 406], false, 6, 6, none, []⟩,
 ⟨⟨some 408, false, none, iPick (.t 405) (.t 407) (.c (.bool (.lit false)))⟩, [405, 407], false, 6, 6, none, []⟩,
 ⟨⟨some 409, false, none, iMov (.t 408)⟩, [408], false, 6, 6, none, []⟩,
 ⟨⟨some 410, false, some (409, true), iMov (.t 45)⟩, [409, 45], false, 6, 7, none, []⟩,
 ⟨⟨some 411, false, some (409, true), iBslice 3 [(.int .i64 (.lit 0))] 3 [(0, 1, (.c (.int .i64 (.lit 1)))), (1, 1, (.c (.int .i64 (.lit 1)))), (2, 1, (.c (.int .i64 (.lit 1))))]⟩, [409], true, 6, 0, none, []⟩,
 ⟨⟨some 412, false, some (409, true), iCall (.c (.func (.func 18) [] [])) [(.t 410), (.t 411)]⟩, [409, 410, 411], true, 7, 0, none, []⟩,
 ⟨⟨some 413, false, none, iPick (.t 409) (.t 412) (.c (.bool (.lit false)))⟩, [409, 412], false, 8, 8, none, []⟩,
 ⟨⟨some 414, false, none, iMov (.t 413)⟩, [413], false, 8, 8, none, []⟩,
 ⟨⟨some 415, false, some (414, true), iMov (.t 47)⟩, [414, 47], false, 8, 8, none, []⟩,
 ⟨⟨some 416, false, some (414, true), iCmp .eql (.t 415) (.c (.int .i64 (.lit 0)))⟩, [414, 415], false, 8, 8, none, []⟩,
 ⟨⟨some 417, false, none, iPick (.t 414) (.t 416) (.c (.bool (.lit false)))⟩, [414, 416], false, 8, 8, none, []⟩,
 ⟨⟨some 418, false, none, iMov (.t 417)⟩, [417], false, 8, 8, none, []⟩,
 ⟨⟨some 419, false, some (418, true), iMov (.t 46)⟩, [418, 46], false, 8, 8, none, []⟩,
 ⟨⟨some 420, false, some (418, true), iCmp .eql (.t 419) (.c (.int .i64 (.lit 1)))⟩, [418, 419], false, 8, 8, none, []⟩,
 ⟨⟨some 421, false, none, iPick (.t 418) (.t 420) (.c (.bool (.lit false)))⟩, [418, 420], false, 8, 8, none, []⟩,
 ⟨⟨some 422, false, none, iMov (.t 421)⟩, [421], false, 8, 8, none, []⟩,
 ⟨⟨some 423, false, some (422, true), iMov (.t 49)⟩, [422, 49], false, 8, 8, none, []⟩,
 ⟨⟨some 424, false, some (422, true), iCmp .eql (.t 423) (.c (.int .i64 (.lit 0)))⟩, [422, 423], false, 8, 8, none, []⟩,
 ⟨⟨some 425, false, none, iPick (.t 422) (.t 424) (.c (.bool (.lit false)))⟩, [422, 424], false, 8, 8, none, []⟩,
 ⟨⟨some 426, false, none, iMov (.t 425)⟩, [425], false, 8, 8, none, []⟩,
 ⟨⟨some 427, false, some (426, true), iMov (.t 48)⟩, [426, 48], false, 8, 8, none, []⟩,
 ⟨⟨some 428, false, some (426, true), iCmp .eql (.t 427) (.c (.int .i64 (.lit 2)))⟩, [426, 427], false, 8, 8, none, []⟩,
 ⟨⟨some 429, false, none, iPick (.t 426) (.t 428) (.c (.bool (.lit false)))⟩, [426, 428], false, 8, 8, none, []⟩,
 ⟨⟨some 430, false, none, iMov (.t 429)⟩, [429], false, 8, 8, none, []⟩,
 ⟨⟨some 431, false, some (430, true), iMov (.t 52)⟩, [430, 52], false, 8, 8, none, []⟩,
 ⟨⟨some 432, false, some (430, true), iCmp .eql (.t 431) (.c (.int .i64 (.lit 0)))⟩, [430, 431], false, 8, 8, none, []⟩,
 ⟨⟨some 433, false, none, iPick (.t 430) (.t 432) (.c (.bool (.lit false)))⟩, [430, 432], false, 8, 8, none, []⟩,
 ⟨⟨some 434, false, none, iMov (.t 433)⟩, [433], false, 8, 8, none, []⟩,
 ⟨⟨some 435, false, some (434, true), iMov (.t 51)⟩, [434, 51], false, 8, 9, none, []⟩,
 ⟨⟨some 436, false, some (434, true), iBslice 3 [(.int .i64 (.lit 0))] 1 [(0, 1, (.c (.int .i64 (.lit 1))))]⟩, [434], true, 8, 0, none, []⟩,
 ⟨⟨some 437, false, some (434, true), iCall (.c (.func (.func 18) [] [])) [(.t 435), (.t 436)]⟩, [434, 435, 436], true, 9, 0, none, []⟩,
 ⟨⟨some 438, false, none, iPick (.t 434) (.t 437) (.c (.bool (.lit false)))⟩, [434, 437], false, 10, 10, none, []⟩,
 ⟨⟨some 439, false, none, iMov (.t 438)⟩, [438], false, 10, 10, none, []⟩,
 ⟨⟨some 440, false, some (439, true), iMov (.t 55)⟩, [439, 55], false, 10, 10, none, []⟩,
 ⟨⟨some 441, false, some (439, true), iCmp .eql (.t 440) (.c (.int .i64 (.lit 0)))⟩, [439, 440], false, 10, 10, none, []⟩,
 ⟨⟨some 442, false, none, iPick (.t 439) (.t 441) (.c (.bool (.lit false)))⟩, [439, 441], false, 10, 10, none, []⟩,
 ⟨⟨some 443, false, none, iMov (.t 442)⟩, [442], false, 10, 10, none, []⟩,
 ⟨⟨some 444, false, some (443, true), iMov (.t 53)⟩, [443, 53], false, 10, 10, none, []⟩,
 ⟨⟨some 445, false, some (443, true), iCmp .eql (.t 444) (.c (.int .i64 (.lit 8)))⟩, [443, 444], false, 10, 10, none, []⟩,
 ⟨⟨some 446, false, none, iPick (.t 443) (.t 445) (.c (.bool (.lit false)))⟩, [443, 445], false, 10, 10, none, []⟩,
 ⟨⟨some 447, false, none, iMov (.t 446)⟩, [446], false, 10, 10, none, []⟩,
 ⟨⟨some 448, false, some (447, true), iMov (.t 54)⟩, [447, 54], false, 10, 10, none, []⟩,
 ⟨⟨some 449, false, some (447, true), iCmp .eql (.t 448) (.c (.int .i64 (.lit 6)))⟩, [447, 448], false, 10, 10, none, []⟩,
 ⟨⟨some 450, false, none, iPick (.t 447) (.t 449) (.c (.bool (.lit false)))⟩, [447, 449], false, 10, 10, none, []⟩,
 ⟨⟨some 451, false, none, iMov (.t 450)⟩, [450], false, 10, 10, none, []⟩,
 ⟨⟨some 452, false, none, iPick (.t 451) (.c (.bool (.lit true))) (.c (.bool (.lit false)))⟩, [451], false, 10, 10, none, []⟩,
 ⟨⟨some 453, false, none, iMov (.t 452)⟩, [452], false, 10, 10, none, []⟩,
 ⟨⟨some 454, false, some (453, true), iCall (.c (.func (.func 19) [] [])) []⟩, [453], true, 10, 0, none, []⟩,
 ⟨⟨some 455, false, none, iPick (.t 453) (.t 454) (.c (.bool (.lit false)))⟩, [453, 454], false, 11, 11, none, []⟩,
 ⟨⟨some 0, true, none, iMov (.t 455)⟩, [455], false, 11, 11, none, []⟩])
 cRet)))))))))))))))))))))))))))))), [.t 0]⟩
noncomputable def Tryd.kp4 : List Nat := [0]
noncomputable def Tryd.cf4 : CF := ⟨0, (cSeq (cOps [⟨some 0, true, none, iAlloc 28 [.nilslice, (.int .i64 (.lit 0)), (.int .i64 (.lit 0)), (.int .i64 (.lit 0)), (.int .i64 (.lit 0)), (.int .i64 (.lit 0)), (.int .i64 (.lit 0)), (.int .i64 (.lit 0)), (.int .i64 (.lit 0)), (.int .i64 (.lit 0)), (.int .i64 (.lit 0)), (.int .i64 (.lit 0))]⟩])
 (cSeq (cOps [⟨some 1, false, none, iBslice 3 [(.int .i64 (.lit 0))] 3 [(0, 1, (.c (.int .i64 (.lit 1000)))), (1, 1, (.c (.int .i64 (.lit 800)))), (2, 1, (.c (.int .i64 (.lit 600))))]⟩,
 ⟨some 2, false, none, iCall (.c (.func (.func 16) [] [])) [(.t 1)]⟩,
 ⟨some 3, false, none, iCall (.c (.func (.func 5) [] [])) [(.c (.int .i64 (.lit 300))), (.c (.int .i64 (.lit 400)))]⟩,
 ⟨some 4, false, none, iCall (.c (.func (.func 6) [] [])) [(.c (.int .i64 (.lit 300)))]⟩,
 ⟨some 5, false, none, iBuild [.nilslice, (.int .i64 (.lit 0)), (.int .i64 (.lit 0)), (.int .i64 (.lit 0)), (.int .i64 (.lit 0)), (.int .i64 (.lit 0)), (.int .i64 (.lit 0)), (.int .i64 (.lit 0)), (.int .i64 (.lit 0)), (.int .i64 (.lit 0)), (.int .i64 (.lit 0)), (.int .i64 (.lit 0))] [(0, 6, (.t 2)), (7, 2, (.t 3)), (9, 2, (.t 4)), (11, 1, (.c (.int .i64 (.lit 2))))]⟩,
 ⟨none, false, none, iStore 12 (.t 0) (.t 5)⟩])
 cRet)), [.cell 0 true 12]⟩
noncomputable def Tryd.kp5 : List Nat := [0, 1, 4]
noncomputable def Tryd.cf5 : CF := ⟨2, (cSeq (cOps [⟨some 4, true, none, iAlloc 24 [(.int .i64 (.lit 0)), (.int .i64 (.lit 0))]⟩])
 (cSeq (cOps [⟨some 5, false, none, iMov (.t 0)⟩,
 ⟨some 6, false, none, iMov (.t 1)⟩,
 ⟨some 7, false, none, iBuild [(.int .i64 (.lit 0)), (.int .i64 (.lit 0))] [(0, 1, (.t 5)), (1, 1, (.t 6))]⟩,
 ⟨none, false, none, iStore 2 (.t 4) (.t 7)⟩])
 cRet)), [.cell 4 true 2]⟩
noncomputable def Tryd.kp6 : List Nat := [0, 2]
noncomputable def Tryd.cf6 : CF := ⟨1, (cSeq (cOps [⟨some 2, true, none, iAlloc 24 [(.int .i64 (.lit 0)), (.int .i64 (.lit 0))]⟩])
 (cSeq (cOps [⟨some 3, false, none, iMov (.t 0)⟩,
 ⟨some 4, false, none, iMov (.t 0)⟩,
 ⟨some 5, false, none, iCall (.c (.func (.func 5) [] [])) [(.t 3), (.t 4)]⟩,
 ⟨none, false, none, iStore 2 (.t 2) (.t 5)⟩])
 cRet)), [.cell 2 true 2]⟩
noncomputable def Tryd.kp7 : List Nat := [0, 1, 2, 4, 5, 6, 7, 14]
noncomputable def Tryd.cf7 : CF := ⟨2, (cSeq (cOps [⟨some 2, true, none, iBox 28 (.t 0)⟩,
 ⟨some 4, true, none, iMov (.c (.bool (.lit false)))⟩,
 ⟨some 5, true, none, iMov (.c (.int .i64 (.lit 0)))⟩])
 (cSeq (cOps [⟨some 9, false, none, iLoadN 12 (.t 2)⟩,
 ⟨some 10, false, none, iCall (.c (.func (.func 20) [] [])) [(.t 9)]⟩,
 ⟨some 8, false, none, iMov (.t 10)⟩,
 ⟨some 11, false, none, iExtract 0 (.t 8)⟩,
 ⟨some 12, false, none, iExtract 1 (.t 8)⟩,
 ⟨some 6, true, none, iAlloc 59 [.nilslice, (.int .i64 (.lit 0)), (.int .i64 (.lit 0)), (.int .i64 (.lit 0)), (.int .i64 (.lit 0)), (.int .i64 (.lit 0)), (.int .i64 (.lit 0)), (.int .i64 (.lit 0)), (.int .i64 (.lit 0)), (.int .i64 (.lit 0)), (.int .i64 (.lit 0)), (.int .i64 (.lit 0)), .nilslice, .nilmap]⟩,
 ⟨none, false, none, iStore 14 (.t 6) (.t 11)⟩,
 ⟨some 7, true, none, iMov (.t 12)⟩])
 (cSeq (cSeq (cOps [⟨some 13, false, none, iMov (.t 7)⟩,
 ⟨some 14, true, none, iCmp .neq (.t 13) (.c (.int .i64 (.lit 0)))⟩])
 (cCond (.t 14) (cSeq (cOps [⟨some 15, false, none, iMov (.t 7)⟩,
 ⟨some 4, true, none, iMov (.c (.bool (.lit false)))⟩,
 ⟨some 5, true, none, iMov (.t 15)⟩])
 cRet) cSkip))
 (cSeq (cOps [⟨some 16, false, none, iLoadN 14 (.t 6)⟩,
 ⟨some 17, false, none, iMov (.t 1)⟩,
 ⟨some 18, false, none, iCall (.c (.func (.func 21) [] [])) [(.t 16), (.t 17)]⟩,
 ⟨some 4, true, none, iMov (.t 18)⟩,
 ⟨some 5, true, none, iMov (.c (.int .i64 (.lit 0)))⟩])
 cRet)))), [.t 4, .t 5]⟩
noncomputable def Tryd.kp8 : List Nat := [0, 1, 2, 4, 5, 6, 7, 8, 9, 10, 11, 19, 34, 35, 36]
noncomputable def Tryd.cf8 : CF := ⟨2, (cSeq (cOps [⟨some 2, true, none, iBox 28 (.t 0)⟩,
 ⟨some 4, true, none, iMov (.c .nilslice)⟩,
 ⟨some 5, true, none, iMov (.c (.int .i64 (.lit 0)))⟩])
 (cSeq (cOps [⟨some 13, false, none, iLoadN 12 (.t 2)⟩,
 ⟨some 14, false, none, iMov (.t 1)⟩,
 ⟨some 15, false, none, iCall (.c (.func (.func 22) [] [])) [(.t 13), (.t 14), (.c .nilslice)]⟩,
 ⟨some 12, false, none, iMov (.t 15)⟩,
 ⟨some 16, false, none, iExtract 0 (.t 12)⟩,
 ⟨some 17, false, none, iExtract 1 (.t 12)⟩,
 ⟨some 6, true, none, iAlloc 59 [.nilslice, (.int .i64 (.lit 0)), (.int .i64 (.lit 0)), (.int .i64 (.lit 0)), (.int .i64 (.lit 0)), (.int .i64 (.lit 0)), (.int .i64 (.lit 0)), (.int .i64 (.lit 0)), (.int .i64 (.lit 0)), (.int .i64 (.lit 0)), (.int .i64 (.lit 0)), (.int .i64 (.lit 0)), .nilslice, .nilmap]⟩,
 ⟨none, false, none, iStore 14 (.t 6) (.t 16)⟩,
 ⟨some 7, true, none, iMov (.t 17)⟩])
 (cSeq (cSeq (cOps [⟨some 18, false, none, iMov (.t 7)⟩,
 ⟨some 19, true, none, iCmp .neq (.t 18) (.c (.int .i64 (.lit 0)))⟩])
 (cCond (.t 19) (cSeq (cOps [⟨some 20, false, none, iMov (.t 7)⟩,
 ⟨some 4, true, none, iMov (.c .nilslice)⟩,
 ⟨some 5, true, none, iMov (.t 20)⟩])
 cRet) cSkip))
 (cSeq (dOps 0 [⟨⟨some 21, false, none, iLoadN 14 (.t 6)⟩, [6], false, 0, 0, none, []⟩,
 ⟨⟨some 22, false, none, iCall (.c (.func (.func 23) [] [])) [(.t 21), (.c (.int .i64 (.lit 0))), (.c (.int .i64 (.lit 0)))]⟩, [21], true, 0, 0, none, []⟩,
 ⟨⟨some 23, false, none, iMov (.t 1)⟩, [1], false, 0, 1, none, []⟩,
 ⟨⟨some 24, false, none, iCall (.c (.func (.func 24) [] [])) [(.t 22), (.t 23)]⟩, [22, 23], true, 1, 0, none, []⟩,
 ⟨⟨some 25, false, none, iLoadN 14 (.t 6)⟩, [6], false, 0, 2, none, []⟩,
 ⟨⟨some 26, false, none, iCall (.c (.func (.func 23) [] [])) [(.t 25), (.c (.int .i64 (.lit 1))), (.c (.int .i64 (.lit 1)))]⟩, [25], true, 2, 0, none, []⟩,
 ⟨⟨some 27, false, none, iMov (.t 1)⟩, [1], false, 0, 3, none, []⟩,
 ⟨⟨some 28, false, none, iCall (.c (.func (.func 24) [] [])) [(.t 26), (.t 27)]⟩, [26, 27], true, 3, 0, none, []⟩,
 ⟨⟨some 8, true, none, iMov (.t 24)⟩, [24], false, 4, 4, none, []⟩,
 ⟨⟨some 9, true, none, iMov (.t 28)⟩, [28], false, 4, 4, none, []⟩])
 (cSeq (cOps [⟨some 29, false, none, iFaddr 12 (.t 6)⟩,
 ⟨some 30, false, none, iLoad (.t 29)⟩,
 ⟨some 31, false, none, iLenS (.t 30)⟩,
 ⟨some 32, false, none, iMkslice 24 [(.int .i64 (.lit 0)), (.int .i64 (.lit 0))] 16 (.t 31) (.t 31)⟩,
 ⟨some 10, true, none, iMov (.t 32)⟩])
 (cSeq (cSeq (cOps [⟨some 33, false, none, iMov (.t 10)⟩,
 ⟨some 34, true, none, iLenS (.t 33)⟩,
 ⟨some 35, true, none, iMov (.c (.int .i64 (.lit 0)))⟩])
 (cBlock 0 (cLoop (cSeq (cOps [⟨some 36, true, none, iCmp .lss (.t 35) (.t 34)⟩])
 (cSeq (cCond (.t 36) cSkip (cExit 0))
 (cSeq (cBlock 1 (cSeq (cOps [⟨some 37, false, none, iMov (.t 35)⟩,
 ⟨some 11, true, none, iMov (.t 37)⟩])
 (dOps 0 [⟨⟨some 38, false, none, iMov (.t 10)⟩, [10], false, 0, 0, none, []⟩,
 ⟨⟨some 39, false, none, iMov (.t 11)⟩, [11], false, 0, 0, none, []⟩,
 ⟨⟨some 40, false, none, iMov (.t 8)⟩, [8], false, 0, 0, none, []⟩,
 ⟨⟨some 41, false, none, iMov (.t 11)⟩, [11], false, 0, 0, none, []⟩,
 ⟨⟨some 42, false, none, iIaddr 1 (.t 40) (.t 41)⟩, [40, 41], false, 0, 0, none, []⟩,
 ⟨⟨some 43, false, none, iLoad (.t 42)⟩, [42], false, 0, 0, none, []⟩,
 ⟨⟨some 44, false, none, iMov (.t 9)⟩, [9], false, 0, 0, none, []⟩,
 ⟨⟨some 45, false, none, iMov (.t 11)⟩, [11], false, 0, 0, none, []⟩,
 ⟨⟨some 46, false, none, iIaddr 1 (.t 44) (.t 45)⟩, [44, 45], false, 0, 0, none, []⟩,
 ⟨⟨some 47, false, none, iLoad (.t 46)⟩, [46], false, 0, 0, none, []⟩,
 ⟨⟨some 48, false, none, iBuild [(.int .i64 (.lit 0)), (.int .i64 (.lit 0))] [(0, 1, (.t 43)), (1, 1, (.t 47))]⟩, [43, 47], false, 0, 0, none, []⟩,
 ⟨⟨some 49, false, none, iIaddr 2 (.t 38) (.t 39)⟩, [38, 39], false, 0, 0, none, []⟩,
 ⟨⟨none, false, none, iStore 2 (.t 49) (.t 48)⟩, [49, 48], true, 0, 0, none, []⟩])))
 (cOps [⟨some 50, false, none, iArith .add (.t 35) (.c (.int .i64 (.lit 1)))⟩,
 ⟨some 35, true, none, iMov (.t 50)⟩])))))))
 (cSeq (cOps [⟨some 51, false, none, iMov (.t 10)⟩,
 ⟨some 4, true, none, iMov (.t 51)⟩,
 ⟨some 5, true, none, iMov (.c (.int .i64 (.lit 0)))⟩])
 cRet))))))), [.t 4, .t 5]⟩
noncomputable def Tryd.kp9 : List Nat := [0, 1, 2, 4, 5, 6, 7, 15]
noncomputable def Tryd.cf9 : CF := ⟨2, (cSeq (cOps [⟨some 2, true, none, iBox 28 (.t 0)⟩,
 ⟨some 4, true, none, iMov (.c (.int .i64 (.lit 0)))⟩,
 ⟨some 5, true, none, iMov (.c (.int .i64 (.lit 0)))⟩,
 ⟨some 6, true, none, iMov (.c (.int .i64 (.lit 0)))⟩])
 (cSeq (cOps [⟨some 9, false, none, iLoadN 12 (.t 2)⟩,
 ⟨some 10, false, none, iMov (.t 1)⟩,
 ⟨some 11, false, none, iCall (.c (.func (.func 22) [] [])) [(.t 9), (.t 10), (.c .nilslice)]⟩,
 ⟨some 8, false, none, iMov (.t 11)⟩,
 ⟨some 12, false, none, iExtract 0 (.t 8)⟩,
 ⟨some 13, false, none, iExtract 1 (.t 8)⟩,
 ⟨some 7, true, none, iAlloc 59 [.nilslice, (.int .i64 (.lit 0)), (.int .i64 (.lit 0)), (.int .i64 (.lit 0)), (.int .i64 (.lit 0)), (.int .i64 (.lit 0)), (.int .i64 (.lit 0)), (.int .i64 (.lit 0)), (.int .i64 (.lit 0)), (.int .i64 (.lit 0)), (.int .i64 (.lit 0)), (.int .i64 (.lit 0)), .nilslice, .nilmap]⟩,
 ⟨none, false, none, iStore 14 (.t 7) (.t 12)⟩,
 ⟨some 6, true, none, iMov (.t 13)⟩])
 (cSeq (cSeq (cOps [⟨some 14, false, none, iMov (.t 6)⟩,
 ⟨some 15, true, none, iCmp .neq (.t 14) (.c (.int .i64 (.lit 0)))⟩])
 (cCond (.t 15) (cSeq (cOps [⟨some 16, false, none, iMov (.t 6)⟩,
 ⟨some 4, true, none, iMov (.c (.int .i64 (.lit 0)))⟩,
 ⟨some 5, true, none, iMov (.c (.int .i64 (.lit 0)))⟩,
 ⟨some 6, true, none, iMov (.t 16)⟩])
 cRet) cSkip))
 (cSeq (dOps 0 [⟨⟨some 17, false, none, iLoadN 14 (.t 7)⟩, [7], false, 0, 0, none, []⟩,
 ⟨⟨some 18, false, none, iMov (.t 1)⟩, [1], false, 0, 0, none, []⟩,
 ⟨⟨some 19, false, none, iCall (.c (.func (.func 25) [] [])) [(.t 17), (.t 18)]⟩, [17, 18], true, 0, 0, none, []⟩,
 ⟨⟨some 20, false, none, iLoadN 14 (.t 7)⟩, [7], false, 0, 1, none, []⟩,
 ⟨⟨some 21, false, none, iMov (.t 1)⟩, [1], false, 0, 1, none, []⟩,
 ⟨⟨some 22, false, none, iCall (.c (.func (.func 26) [] [])) [(.t 20), (.t 21)]⟩, [20, 21], true, 1, 0, none, []⟩,
 ⟨⟨some 4, true, none, iMov (.t 19)⟩, [19], false, 2, 2, none, []⟩,
 ⟨⟨some 5, true, none, iMov (.t 22)⟩, [22], false, 2, 2, none, []⟩,
 ⟨⟨some 6, true, none, iMov (.c (.int .i64 (.lit 0)))⟩, [], false, 2, 2, none, []⟩])
 cRet)))), [.t 4, .t 5, .t 6]⟩
noncomputable def Tryd.kp10 : List Nat := [0, 1, 2, 3, 6, 7, 8, 9, 19]
noncomputable def Tryd.cf10 : CF := ⟨3, (cSeq (cOps [⟨some 3, true, none, iBox 28 (.t 0)⟩,
 ⟨some 6, true, none, iAlloc 24 [(.int .i64 (.lit 0)), (.int .i64 (.lit 0))]⟩,
 ⟨some 7, true, none, iMov (.c (.int .i64 (.lit 0)))⟩])
 (cSeq (cOps [⟨some 11, false, none, iLoadN 12 (.t 3)⟩,
 ⟨some 12, false, none, iMov (.t 1)⟩,
 ⟨some 13, false, none, iMov (.t 2)⟩,
 ⟨some 14, false, none, iBslice 3 [(.int .i64 (.lit 0))] 1 [(0, 1, (.t 13))]⟩,
 ⟨some 15, false, none, iCall (.c (.func (.func 22) [] [])) [(.t 11), (.t 12), (.t 14)]⟩,
 ⟨some 10, false, none, iMov (.t 15)⟩,
 ⟨some 16, false, none, iExtract 0 (.t 10)⟩,
 ⟨some 17, false, none, iExtract 1 (.t 10)⟩,
 ⟨some 8, true, none, iAlloc 59 [.nilslice, (.int .i64 (.lit 0)), (.int .i64 (.lit 0)), (.int .i64 (.lit 0)), (.int .i64 (.lit 0)), (.int .i64 (.lit 0)), (.int .i64 (.lit 0)), (.int .i64 (.lit 0)), (.int .i64 (.lit 0)), (.int .i64 (.lit 0)), (.int .i64 (.lit 0)), (.int .i64 (.lit 0)), .nilslice, .nilmap]⟩,
 ⟨none, false, none, iStore 14 (.t 8) (.t 16)⟩,
 ⟨some 9, true, none, iMov (.t 17)⟩])
 (cSeq (cSeq (cOps [⟨some 18, false, none, iMov (.t 9)⟩,
 ⟨some 19, true, none, iCmp .neq (.t 18) (.c (.int .i64 (.lit 0)))⟩])
 (cCond (.t 19) (cSeq (cOps [⟨some 20, false, none, iBuild [(.int .i64 (.lit 0)), (.int .i64 (.lit 0))] []⟩,
 ⟨some 21, false, none, iMov (.t 9)⟩,
 ⟨none, false, none, iStore 2 (.t 6) (.t 20)⟩,
 ⟨some 7, true, none, iMov (.t 21)⟩])
 cRet) cSkip))
 (cSeq (dOps 0 [⟨⟨some 22, false, none, iLoadN 14 (.t 8)⟩, [8], false, 0, 0, none, []⟩,
 ⟨⟨some 23, false, none, iCall (.c (.func (.func 23) [] [])) [(.t 22), (.c (.int .i64 (.lit 0))), (.c (.int .i64 (.lit 0)))]⟩, [22], true, 0, 0, none, []⟩,
 ⟨⟨some 24, false, none, iMov (.t 1)⟩, [1], false, 0, 1, none, []⟩,
 ⟨⟨some 25, false, none, iMov (.t 2)⟩, [2], false, 0, 1, none, []⟩,
 ⟨⟨some 26, false, none, iCall (.c (.func (.func 27) [] [])) [(.t 23), (.t 24), (.t 25)]⟩, [23, 24, 25], true, 1, 0, none, []⟩,
 ⟨⟨some 27, false, none, iLoadN 14 (.t 8)⟩, [8], false, 0, 2, none, []⟩,
 ⟨⟨some 28, false, none, iCall (.c (.func (.func 23) [] [])) [(.t 27), (.c (.int .i64 (.lit 1))), (.c (.int .i64 (.lit 1)))]⟩, [27], true, 2, 0, none, []⟩,
 ⟨⟨some 29, false, none, iMov (.t 1)⟩, [1], false, 0, 3, none, []⟩,
 ⟨⟨some 30, false, none, iMov (.t 2)⟩, [2], false, 0, 3, none, []⟩,
 ⟨⟨some 31, false, none, iCall (.c (.func (.func 27) [] [])) [(.t 28), (.t 29), (.t 30)]⟩, [28, 29, 30], true, 3, 0, none, []⟩,
 ⟨⟨some 32, false, none, iBuild [(.int .i64 (.lit 0)), (.int .i64 (.lit 0))] [(0, 1, (.t 26)), (1, 1, (.t 31))]⟩, [26, 31], false, 4, 4, none, []⟩,
 ⟨⟨none, false, none, iStore 2 (.t 6) (.t 32)⟩, [6, 32], true, 4, 0, none, []⟩,
 ⟨⟨some 7, true, none, iMov (.c (.int .i64 (.lit 0)))⟩, [], false, 5, 5, none, []⟩])
 cRet)))), [.cell 6 true 2, .t 7]⟩
noncomputable def Tryd.kp11 : List Nat := [0, 1, 2, 3, 4, 5, 12]
noncomputable def Tryd.cf11 : CF := ⟨1, (cSeq (cOps [⟨some 1, true, none, iBox 28 (.t 0)⟩,
 ⟨some 2, true, none, iMov (.c .nilslice)⟩,
 ⟨some 3, true, none, iMov (.c (.int .i64 (.lit 0)))⟩])
 (cSeq (cOps [⟨some 7, false, none, iLoadN 12 (.t 1)⟩,
 ⟨some 8, false, none, iCall (.c (.func (.func 20) [] [])) [(.t 7)]⟩,
 ⟨some 6, false, none, iMov (.t 8)⟩,
 ⟨some 9, false, none, iExtract 0 (.t 6)⟩,
 ⟨some 10, false, none, iExtract 1 (.t 6)⟩,
 ⟨some 4, true, none, iAlloc 59 [.nilslice, (.int .i64 (.lit 0)), (.int .i64 (.lit 0)), (.int .i64 (.lit 0)), (.int .i64 (.lit 0)), (.int .i64 (.lit 0)), (.int .i64 (.lit 0)), (.int .i64 (.lit 0)), (.int .i64 (.lit 0)), (.int .i64 (.lit 0)), (.int .i64 (.lit 0)), (.int .i64 (.lit 0)), .nilslice, .nilmap]⟩,
 ⟨none, false, none, iStore 14 (.t 4) (.t 9)⟩,
 ⟨some 5, true, none, iMov (.t 10)⟩])
 (cSeq (cSeq (cOps [⟨some 11, false, none, iMov (.t 5)⟩,
 ⟨some 12, true, none, iCmp .neq (.t 11) (.c (.int .i64 (.lit 0)))⟩])
 (cCond (.t 12) (cSeq (cOps [⟨some 13, false, none, iMov (.t 5)⟩,
 ⟨some 2, true, none, iMov (.c .nilslice)⟩,
 ⟨some 3, true, none, iMov (.t 13)⟩])
 cRet) cSkip))
 (cSeq (cOps [⟨some 14, false, none, iLoadN 14 (.t 4)⟩,
 ⟨some 15, false, none, iBuild [(.int .i64 (.lit 0)), .nilFunc] [(0, 1, (.c (.int .i64 (.lit 9223372036854775807)))), (1, 1, (.c (.func (.func 29) [] [])))]⟩,
 ⟨some 16, false, none, iCall (.c (.func (.func 28) [] [])) [(.t 14), (.t 15)]⟩,
 ⟨some 17, false, none, iExtract 0 (.t 16)⟩,
 ⟨some 18, false, none, iExtract 1 (.t 16)⟩,
 ⟨some 2, true, none, iMov (.t 17)⟩,
 ⟨some 3, true, none, iMov (.t 18)⟩])
 cRet)))), [.t 2, .t 3]⟩
noncomputable def Tryd.kp12 : List Nat := [0, 1, 2, 4, 5, 6, 7, 15]
noncomputable def Tryd.cf12 : CF := ⟨2, (cSeq (cOps [⟨some 2, true, none, iBox 28 (.t 0)⟩,
 ⟨some 4, true, none, iMov (.c .nilslice)⟩,
 ⟨some 5, true, none, iMov (.c (.int .i64 (.lit 0)))⟩])
 (cSeq (cOps [⟨some 9, false, none, iLoadN 12 (.t 2)⟩,
 ⟨some 10, false, none, iMov (.t 1)⟩,
 ⟨some 11, false, none, iCall (.c (.func (.func 30) [] [])) [(.t 9), (.t 10)]⟩,
 ⟨some 8, false, none, iMov (.t 11)⟩,
 ⟨some 12, false, none, iExtract 0 (.t 8)⟩,
 ⟨some 13, false, none, iExtract 1 (.t 8)⟩,
 ⟨some 6, true, none, iAlloc 59 [.nilslice, (.int .i64 (.lit 0)), (.int .i64 (.lit 0)), (.int .i64 (.lit 0)), (.int .i64 (.lit 0)), (.int .i64 (.lit 0)), (.int .i64 (.lit 0)), (.int .i64 (.lit 0)), (.int .i64 (.lit 0)), (.int .i64 (.lit 0)), (.int .i64 (.lit 0)), (.int .i64 (.lit 0)), .nilslice, .nilmap]⟩,
 ⟨none, false, none, iStore 14 (.t 6) (.t 12)⟩,
 ⟨some 7, true, none, iMov (.t 13)⟩])
 (cSeq (cSeq (cOps [⟨some 14, false, none, iMov (.t 7)⟩,
 ⟨some 15, true, none, iCmp .neq (.t 14) (.c (.int .i64 (.lit 0)))⟩])
 (cCond (.t 15) (cSeq (cOps [⟨some 16, false, none, iMov (.t 7)⟩,
 ⟨some 4, true, none, iMov (.c .nilslice)⟩,
 ⟨some 5, true, none, iMov (.t 16)⟩])
 cRet) cSkip))
 (cSeq (cOps [⟨some 17, false, none, iLoadN 14 (.t 6)⟩,
 ⟨some 18, false, none, iMov (.t 1)⟩,
 ⟨some 19, false, none, iBuild [(.int .i64 (.lit 0)), .nilFunc] [(0, 1, (.t 18)), (1, 1, (.c (.func (.func 31) [] [])))]⟩,
 ⟨some 20, false, none, iCall (.c (.func (.func 28) [] [])) [(.t 17), (.t 19)]⟩,
 ⟨some 21, false, none, iExtract 0 (.t 20)⟩,
 ⟨some 22, false, none, iExtract 1 (.t 20)⟩,
 ⟨some 4, true, none, iMov (.t 21)⟩,
 ⟨some 5, true, none, iMov (.t 22)⟩])
 cRet)))), [.t 4, .t 5]⟩
noncomputable def Tryd.kp13 : List Nat := [0, 1, 2, 4, 5, 6, 7, 15]
noncomputable def Tryd.cf13 : CF := ⟨2, (cSeq (cOps [⟨some 2, true, none, iBox 28 (.t 0)⟩,
 ⟨some 4, true, none, iMov (.c (.int .i64 (.lit 0)))⟩,
 ⟨some 5, true, none, iMov (.c (.int .i64 (.lit 0)))⟩])
 (cSeq (cOps [⟨some 9, false, none, iLoadN 12 (.t 2)⟩,
 ⟨some 10, false, none, iMov (.t 1)⟩,
 ⟨some 11, false, none, iCall (.c (.func (.func 30) [] [])) [(.t 9), (.t 10)]⟩,
 ⟨some 8, false, none, iMov (.t 11)⟩,
 ⟨some 12, false, none, iExtract 0 (.t 8)⟩,
 ⟨some 13, false, none, iExtract 1 (.t 8)⟩,
 ⟨some 6, true, none, iAlloc 59 [.nilslice, (.int .i64 (.lit 0)), (.int .i64 (.lit 0)), (.int .i64 (.lit 0)), (.int .i64 (.lit 0)), (.int .i64 (.lit 0)), (.int .i64 (.lit 0)), (.int .i64 (.lit 0)), (.int .i64 (.lit 0)), (.int .i64 (.lit 0)), (.int .i64 (.lit 0)), (.int .i64 (.lit 0)), .nilslice, .nilmap]⟩,
 ⟨none, false, none, iStore 14 (.t 6) (.t 12)⟩,
 ⟨some 7, true, none, iMov (.t 13)⟩])
 (cSeq (cSeq (cOps [⟨some 14, false, none, iMov (.t 7)⟩,
 ⟨some 15, true, none, iCmp .neq (.t 14) (.c (.int .i64 (.lit 0)))⟩])
 (cCond (.t 15) (cSeq (cOps [⟨some 16, false, none, iMov (.t 7)⟩,
 ⟨some 4, true, none, iMov (.c (.int .i64 (.lit 0)))⟩,
 ⟨some 5, true, none, iMov (.t 16)⟩])
 cRet) cSkip))
 (cSeq (cOps [⟨some 17, false, none, iLoadN 14 (.t 6)⟩,
 ⟨some 18, false, none, iMov (.t 1)⟩,
 ⟨some 19, false, none, iCall (.c (.func (.func 32) [] [])) [(.t 17), (.t 18)]⟩,
 ⟨some 20, false, none, iExtract 0 (.t 19)⟩,
 ⟨some 21, false, none, iExtract 1 (.t 19)⟩,
 ⟨some 4, true, none, iMov (.t 20)⟩,
 ⟨some 5, true, none, iMov (.t 21)⟩])
 cRet)))), [.t 4, .t 5]⟩
noncomputable def Tryd.kp14 : List Nat := [0, 1, 2, 4]
noncomputable def Tryd.cf14 : CF := ⟨1, (cSeq (cOps [⟨some 1, true, none, iBox 28 (.t 0)⟩,
 ⟨some 2, true, none, iMov (.c (.int .i64 (.lit 0)))⟩])
 (cSeq (cOps [⟨some 6, false, none, iLoadN 12 (.t 1)⟩,
 ⟨some 7, false, none, iCall (.c (.func (.func 20) [] [])) [(.t 6)]⟩,
 ⟨some 5, false, none, iMov (.t 7)⟩,
 ⟨some 8, false, none, iExtract 0 (.t 5)⟩,
 ⟨some 9, false, none, iExtract 1 (.t 5)⟩,
 ⟨some 3, false, none, iAlloc 59 [.nilslice, (.int .i64 (.lit 0)), (.int .i64 (.lit 0)), (.int .i64 (.lit 0)), (.int .i64 (.lit 0)), (.int .i64 (.lit 0)), (.int .i64 (.lit 0)), (.int .i64 (.lit 0)), (.int .i64 (.lit 0)), (.int .i64 (.lit 0)), (.int .i64 (.lit 0)), (.int .i64 (.lit 0)), .nilslice, .nilmap]⟩,
 ⟨none, false, none, iStore 14 (.t 3) (.t 8)⟩,
 ⟨some 4, true, none, iMov (.t 9)⟩])
 (cSeq (cOps [⟨some 10, false, none, iMov (.t 4)⟩,
 ⟨some 2, true, none, iMov (.t 10)⟩])
 cRet))), [.t 2]⟩
noncomputable def Tryd.kp15 : List Nat := [0, 1]
noncomputable def Tryd.cf15 : CF := ⟨0, (cSeq (cOps [⟨some 0, true, none, iAlloc 28 [.nilslice, (.int .i64 (.lit 0)), (.int .i64 (.lit 0)), (.int .i64 (.lit 0)), (.int .i64 (.lit 0)), (.int .i64 (.lit 0)), (.int .i64 (.lit 0)), (.int .i64 (.lit 0)), (.int .i64 (.lit 0)), (.int .i64 (.lit 0)), (.int .i64 (.lit 0)), (.int .i64 (.lit 0))]⟩])
 (cSeq (cOps [⟨some 2, false, none, iCall (.c (.func (.func 4) [] [])) []⟩,
 ⟨some 1, true, none, iAlloc 28 [.nilslice, (.int .i64 (.lit 0)), (.int .i64 (.lit 0)), (.int .i64 (.lit 0)), (.int .i64 (.lit 0)), (.int .i64 (.lit 0)), (.int .i64 (.lit 0)), (.int .i64 (.lit 0)), (.int .i64 (.lit 0)), (.int .i64 (.lit 0)), (.int .i64 (.lit 0)), (.int .i64 (.lit 0))]⟩,
 ⟨none, false, none, iStore 12 (.t 1) (.t 2)⟩])
 (cSeq (cOps [⟨some 3, false, none, iCall (.c (.func (.func 5) [] [])) [(.c (.int .i64 (.lit 900))), (.c (.int .i64 (.lit 1000)))]⟩,
 ⟨some 4, false, none, iCall (.c (.func (.func 6) [] [])) [(.c (.int .i64 (.lit 900)))]⟩,
 ⟨some 5, false, none, iFaddr 7 (.t 1)⟩,
 ⟨none, false, none, iStore 2 (.t 5) (.t 3)⟩,
 ⟨some 6, false, none, iFaddr 9 (.t 1)⟩,
 ⟨none, false, none, iStore 2 (.t 6) (.t 4)⟩])
 (cSeq (cOps [⟨some 7, false, none, iLoadN 12 (.t 1)⟩,
 ⟨none, false, none, iStore 12 (.t 0) (.t 7)⟩])
 cRet)))), [.cell 0 true 12]⟩
noncomputable def Tryd.kp16 : List Nat := [0, 2, 3, 4, 11]
noncomputable def Tryd.cf16 : CF := ⟨1, (cSeq (cOps [⟨some 2, true, none, iAlloc 26 [.nilslice, (.int .i64 (.lit 0)), (.int .i64 (.lit 0)), (.int .i64 (.lit 0)), (.int .i64 (.lit 0)), (.int .i64 (.lit 0))]⟩])
 (cSeq (cOps [⟨some 5, false, none, iCall (.c (.func (.func 5) [] [])) [(.c (.int .i64 (.lit 6))), (.c (.int .i64 (.lit 8)))]⟩,
 ⟨some 6, false, none, iCall (.c (.func (.func 5) [] [])) [(.c (.int .i64 (.lit 1))), (.c (.int .i64 (.lit 3)))]⟩,
 ⟨some 7, false, none, iBuild [.nilslice, (.int .i64 (.lit 0)), (.int .i64 (.lit 0)), (.int .i64 (.lit 0)), (.int .i64 (.lit 0)), (.int .i64 (.lit 0))] [(1, 2, (.t 5)), (3, 2, (.t 6)), (5, 1, (.c (.int .i64 (.lit 2000))))]⟩,
 ⟨some 3, true, none, iAlloc 26 [.nilslice, (.int .i64 (.lit 0)), (.int .i64 (.lit 0)), (.int .i64 (.lit 0)), (.int .i64 (.lit 0)), (.int .i64 (.lit 0))]⟩,
 ⟨none, false, none, iStore 6 (.t 3) (.t 7)⟩])
 (cSeq (cSeq (cOps [⟨some 4, true, none, iMov (.c (.int .i64 (.lit 0)))⟩])
 (cBlock 0 (cLoop (cSeq (cSeq (cOps [⟨some 8, false, none, iMov (.t 4)⟩,
 ⟨some 9, false, none, iMov (.t 0)⟩,
 ⟨some 10, false, none, iLenS (.t 9)⟩,
 ⟨some 11, true, none, iCmp .lss (.t 8) (.t 10)⟩])
 (cCond (.t 11) cSkip (cExit 0)))
 (cSeq (cBlock 1 (dOps 0 [⟨⟨some 14, false, none, iFaddr 0 (.t 3)⟩, [3], false, 0, 4, none, []⟩,
 ⟨⟨some 15, false, none, iLoad (.t 14)⟩, [14], false, 0, 4, none, []⟩,
 ⟨⟨some 16, false, none, iMov (.t 4)⟩, [4], false, 0, 0, none, []⟩,
 ⟨⟨some 17, false, none, iArith .mul (.c (.int .i64 (.lit 4))) (.t 16)⟩, [16], false, 0, 0, none, []⟩,
 ⟨⟨some 18, false, none, iArith .add (.t 17) (.c (.int .i64 (.lit 1)))⟩, [17], false, 0, 0, none, []⟩,
 ⟨⟨some 19, false, none, iCall (.c (.func (.func 6) [] [])) [(.t 18)]⟩, [18], true, 0, 0, none, []⟩,
 ⟨⟨some 20, false, none, iMov (.t 4)⟩, [4], false, 0, 1, none, []⟩,
 ⟨⟨some 21, false, none, iArith .mul (.c (.int .i64 (.lit 4))) (.t 20)⟩, [20], false, 0, 1, none, []⟩,
 ⟨⟨some 22, false, none, iArith .add (.t 21) (.c (.int .i64 (.lit 4)))⟩, [21], false, 0, 1, none, []⟩,
 ⟨⟨some 23, false, none, iCall (.c (.func (.func 6) [] [])) [(.t 22)]⟩, [22], true, 1, 0, none, []⟩,
 ⟨⟨some 24, false, none, iMov (.t 0)⟩, [0], false, 0, 2, none, []⟩,
 ⟨⟨some 25, false, none, iMov (.t 4)⟩, [4], false, 0, 2, none, []⟩,
 ⟨⟨some 26, false, none, iIaddr 1 (.t 24) (.t 25)⟩, [24, 25], false, 0, 2, none, []⟩,
 ⟨⟨some 27, false, none, iLoad (.t 26)⟩, [26], false, 0, 2, none, []⟩,
 ⟨⟨some 28, false, none, iCall (.c (.func (.func 6) [] [])) [(.t 27)]⟩, [27], true, 2, 0, none, []⟩,
 ⟨⟨some 29, false, none, iBuild [(.int .i64 (.lit 0)), (.int .i64 (.lit 0)), (.int .i64 (.lit 0)), (.int .i64 (.lit 0)), (.int .i64 (.lit 0)), (.int .i64 (.lit 0))] [(0, 2, (.t 19)), (2, 2, (.t 23)), (4, 2, (.t 28))]⟩, [19, 23, 28], false, 3, 3, none, []⟩,
 ⟨⟨some 30, false, none, iBslice 34 [(.int .i64 (.lit 0)), (.int .i64 (.lit 0)), (.int .i64 (.lit 0)), (.int .i64 (.lit 0)), (.int .i64 (.lit 0)), (.int .i64 (.lit 0))] 1 [(0, 6, (.t 29))]⟩, [29], true, 3, 0, none, []⟩,
 ⟨⟨some 31, false, none, iAppend 34 6 48 (.t 15) (.t 30)⟩, [15, 30], true, 4, 0, none, []⟩,
 ⟨⟨some 32, false, none, iFaddr 0 (.t 3)⟩, [3], false, 5, 5, none, []⟩,
 ⟨⟨none, false, none, iStore 1 (.t 32) (.t 31)⟩, [32, 31], true, 5, 0, none, []⟩]))
 (cOps [⟨some 12, false, none, iMov (.t 4)⟩,
 ⟨some 13, false, none, iArith .add (.t 12) (.c (.int .i64 (.lit 1)))⟩,
 ⟨some 4, true, none, iMov (.t 13)⟩]))))))
 (cSeq (cOps [⟨some 33, false, none, iLoadN 6 (.t 3)⟩,
 ⟨none, false, none, iStore 6 (.t 2) (.t 33)⟩])
 cRet)))), [.cell 2 true 6]⟩
noncomputable def Tryd.kp17 : List Nat := [0, 1, 4, 5, 6, 18]
noncomputable def Tryd.cf17 : CF := ⟨2, (cSeq (cOps [⟨some 4, true, none, iMov (.c (.bool (.lit false)))⟩])
 (cSeq (cOps [⟨some 7, false, none, iMov (.t 0)⟩,
 ⟨some 8, false, none, iLenS (.t 7)⟩,
 ⟨some 9, false, none, iMov (.t 1)⟩,
 ⟨some 10, false, none, iLenS (.t 9)⟩,
 ⟨some 11, false, none, iCmp .eql (.t 8) (.t 10)⟩,
 ⟨some 5, true, none, iMov (.t 11)⟩])
 (cSeq (cSeq (cOps [⟨some 6, true, none, iMov (.c (.int .i64 (.lit 0)))⟩])
 (cBlock 0 (cLoop (cSeq (cSeq (cOps [⟨some 12, false, none, iMov (.t 5)⟩,
 ⟨some 13, false, none, iMov (.t 12)⟩,
 ⟨some 14, false, some (13, true), iMov (.t 6)⟩,
 ⟨some 15, false, some (13, true), iMov (.t 0)⟩,
 ⟨some 16, false, some (13, true), iLenS (.t 15)⟩,
 ⟨some 17, false, some (13, true), iCmp .lss (.t 14) (.t 16)⟩,
 ⟨some 18, true, none, iPick (.t 13) (.t 17) (.c (.bool (.lit false)))⟩])
 (cCond (.t 18) cSkip (cExit 0)))
 (cSeq (cBlock 1 (dOps 0 [⟨⟨some 21, false, none, iMov (.t 0)⟩, [0], false, 0, 0, none, []⟩,
 ⟨⟨some 22, false, none, iMov (.t 6)⟩, [6], false, 0, 0, none, []⟩,
 ⟨⟨some 23, false, none, iIaddr 2 (.t 21) (.t 22)⟩, [21, 22], false, 0, 0, none, []⟩,
 ⟨⟨some 24, false, none, iLoadN 2 (.t 23)⟩, [23], false, 0, 0, none, []⟩,
 ⟨⟨some 25, false, none, iMov (.t 1)⟩, [1], false, 0, 0, none, []⟩,
 ⟨⟨some 26, false, none, iMov (.t 6)⟩, [6], false, 0, 0, none, []⟩,
 ⟨⟨some 27, false, none, iIaddr 2 (.t 25) (.t 26)⟩, [25, 26], false, 0, 0, none, []⟩,
 ⟨⟨some 28, false, none, iLoadN 2 (.t 27)⟩, [27], false, 0, 0, none, []⟩,
 ⟨⟨some 29, false, none, iEq false true 2 [(0, .int), (1, .int)] (.t 24) (.t 28)⟩, [24, 28], false, 0, 0, none, []⟩,
 ⟨⟨some 5, true, none, iMov (.t 29)⟩, [29], false, 0, 0, none, []⟩]))
 (cOps [⟨some 19, false, none, iMov (.t 6)⟩,
 ⟨some 20, false, none, iArith .add (.t 19) (.c (.int .i64 (.lit 1)))⟩,
 ⟨some 6, true, none, iMov (.t 20)⟩]))))))
 (cSeq (cOps [⟨some 30, false, none, iMov (.t 5)⟩,
 ⟨some 4, true, none, iMov (.t 30)⟩])
 cRet)))), [.t 4]⟩
noncomputable def Tryd.kp18 : List Nat := [0, 1, 4, 5, 6, 18]
noncomputable def Tryd.cf18 : CF := ⟨2, (cSeq (cOps [⟨some 4, true, none, iMov (.c (.bool (.lit false)))⟩])
 (cSeq (cOps [⟨some 7, false, none, iMov (.t 0)⟩,
 ⟨some 8, false, none, iLenS (.t 7)⟩,
 ⟨some 9, false, none, iMov (.t 1)⟩,
 ⟨some 10, false, none, iLenS (.t 9)⟩,
 ⟨some 11, false, none, iCmp .eql (.t 8) (.t 10)⟩,
 ⟨some 5, true, none, iMov (.t 11)⟩])
 (cSeq (cSeq (cOps [⟨some 6, true, none, iMov (.c (.int .i64 (.lit 0)))⟩])
 (cBlock 0 (cLoop (cSeq (cSeq (cOps [⟨some 12, false, none, iMov (.t 5)⟩,
 ⟨some 13, false, none, iMov (.t 12)⟩,
 ⟨some 14, false, some (13, true), iMov (.t 6)⟩,
 ⟨some 15, false, some (13, true), iMov (.t 0)⟩,
 ⟨some 16, false, some (13, true), iLenS (.t 15)⟩,
 ⟨some 17, false, some (13, true), iCmp .lss (.t 14) (.t 16)⟩,
 ⟨some 18, true, none, iPick (.t 13) (.t 17) (.c (.bool (.lit false)))⟩])
 (cCond (.t 18) cSkip (cExit 0)))
 (cSeq (cBlock 1 (dOps 0 [⟨⟨some 21, false, none, iMov (.t 0)⟩, [0], false, 0, 0, none, []⟩,
 ⟨⟨some 22, false, none, iMov (.t 6)⟩, [6], false, 0, 0, none, []⟩,
 ⟨⟨some 23, false, none, iIaddr 1 (.t 21) (.t 22)⟩, [21, 22], false, 0, 0, none, []⟩,
 ⟨⟨some 24, false, none, iLoad (.t 23)⟩, [23], false, 0, 0, none, []⟩,
 ⟨⟨some 25, false, none, iMov (.t 1)⟩, [1], false, 0, 0, none, []⟩,
 ⟨⟨some 26, false, none, iMov (.t 6)⟩, [6], false, 0, 0, none, []⟩,
 ⟨⟨some 27, false, none, iIaddr 1 (.t 25) (.t 26)⟩, [25, 26], false, 0, 0, none, []⟩,
 ⟨⟨some 28, false, none, iLoad (.t 27)⟩, [27], false, 0, 0, none, []⟩,
 ⟨⟨some 29, false, none, iCmp .eql (.t 24) (.t 28)⟩, [24, 28], false, 0, 0, none, []⟩,
 ⟨⟨some 5, true, none, iMov (.t 29)⟩, [29], false, 0, 0, none, []⟩]))
 (cOps [⟨some 19, false, none, iMov (.t 6)⟩,
 ⟨some 20, false, none, iArith .add (.t 19) (.c (.int .i64 (.lit 1)))⟩,
 ⟨some 6, true, none, iMov (.t 20)⟩]))))))
 (cSeq (cOps [⟨some 30, false, none, iMov (.t 5)⟩,
 ⟨some 4, true, none, iMov (.t 30)⟩])
 cRet)))), [.t 4]⟩
noncomputable def Tryd.kp19 : List Nat := [0, 1, 2, 3, 4, 5, 6, 7, 8, 9, 10, 11, 12, 77]
noncomputable def Tryd.cf19 : CF := ⟨0, (cSeq (cOps [⟨some 0, true, none, iMov (.c (.bool (.lit false)))⟩])
 (cSeq (cOps [⟨some 14, false, none, iCall (.c (.func (.func 4) [] [])) []⟩,
 ⟨some 15, false, none, iBslice 3 [(.int .i64 (.lit 0))] 2 [(0, 1, (.c (.int .i64 (.lit 1)))), (1, 1, (.c (.int .i64 (.lit 2))))]⟩,
 ⟨some 16, false, none, iCall (.c (.func (.func 7) [] [])) [(.t 14), (.t 15)]⟩,
 ⟨some 13, false, none, iMov (.t 16)⟩,
 ⟨some 17, false, none, iExtract 0 (.t 13)⟩,
 ⟨some 18, false, none, iExtract 1 (.t 13)⟩,
 ⟨some 1, true, none, iMov (.t 17)⟩,
 ⟨some 2, true, none, iMov (.t 18)⟩])
 (cSeq (cOps [⟨some 20, false, none, iCall (.c (.func (.func 4) [] [])) []⟩,
 ⟨some 21, false, none, iBslice 3 [(.int .i64 (.lit 0))] 2 [(0, 1, (.c (.int .i64 (.lit 1)))), (1, 1, (.c (.int .i64 (.lit 2))))]⟩,
 ⟨some 22, false, none, iCall (.c (.func (.func 8) [] [])) [(.t 20), (.t 21)]⟩,
 ⟨some 19, false, none, iMov (.t 22)⟩,
 ⟨some 23, false, none, iExtract 0 (.t 19)⟩,
 ⟨some 24, false, none, iExtract 1 (.t 19)⟩,
 ⟨some 3, true, none, iMov (.t 23)⟩,
 ⟨some 4, true, none, iMov (.t 24)⟩])
 (cSeq (cOps [⟨some 26, false, none, iCall (.c (.func (.func 4) [] [])) []⟩,
 ⟨some 27, false, none, iBslice 3 [(.int .i64 (.lit 0))] 2 [(0, 1, (.c (.int .i64 (.lit 1)))), (1, 1, (.c (.int .i64 (.lit 2))))]⟩,
 ⟨some 28, false, none, iCall (.c (.func (.func 9) [] [])) [(.t 26), (.t 27)]⟩,
 ⟨some 25, false, none, iMov (.t 28)⟩,
 ⟨some 29, false, none, iExtract 0 (.t 25)⟩,
 ⟨some 30, false, none, iExtract 1 (.t 25)⟩,
 ⟨some 31, false, none, iExtract 2 (.t 25)⟩,
 ⟨some 5, true, none, iMov (.t 29)⟩,
 ⟨some 6, true, none, iMov (.t 30)⟩,
 ⟨some 7, true, none, iMov (.t 31)⟩])
 (cSeq (cOps [⟨some 33, false, none, iCall (.c (.func (.func 4) [] [])) []⟩,
 ⟨some 34, false, none, iBslice 3 [(.int .i64 (.lit 0))] 3 [(0, 1, (.c (.int .i64 (.lit 1)))), (1, 1, (.c (.int .i64 (.lit 1)))), (2, 1, (.c (.int .i64 (.lit 1))))]⟩,
 ⟨some 35, false, none, iCall (.c (.func (.func 10) [] [])) [(.t 33), (.t 34), (.c (.int .i64 (.lit 0)))]⟩,
 ⟨some 32, false, none, iMov (.t 35)⟩,
 ⟨some 36, false, none, iExtract 0 (.t 32)⟩,
 ⟨some 37, false, none, iExtract 1 (.t 32)⟩,
 ⟨some 8, true, none, iAlloc 24 [(.int .i64 (.lit 0)), (.int .i64 (.lit 0))]⟩,
 ⟨none, false, none, iStore 2 (.t 8) (.t 36)⟩,
 ⟨some 9, true, none, iMov (.t 37)⟩])
 (cSeq (cSeq (dOps 0 [⟨⟨some 38, false, none, iMov (.t 2)⟩, [2], false, 0, 0, none, []⟩,
 ⟨⟨some 39, false, none, iCmp .neq (.t 38) (.c (.int .i64 (.lit 0)))⟩, [38], false, 0, 0, none, []⟩,
 ⟨⟨some 40, false, none, iMov (.t 39)⟩, [39], false, 0, 0, none, []⟩,
 ⟨⟨some 41, false, some (40, false), iMov (.t 4)⟩, [40, 4], false, 0, 0, none, []⟩,
 ⟨⟨some 42, false, some (40, false), iCmp .neq (.t 41) (.c (.int .i64 (.lit 0)))⟩, [40, 41], false, 0, 0, none, []⟩,
 ⟨⟨some 43, false, none, iPick (.t 40) (.c (.bool (.lit true))) (.t 42)⟩, [40, 42], false, 0, 0, none, []⟩,
 ⟨⟨some 44, false, none, iMov (.t 43)⟩, [43], false, 0, 0, none, []⟩,
 ⟨⟨some 45, false, some (44, false), iMov (.t 7)⟩, [44, 7], false, 0, 0, none, []⟩,
 ⟨⟨some 46, false, some (44, false), iCmp .neq (.t 45) (.c (.int .i64 (.lit 0)))⟩, [44, 45], false, 0, 0, none, []⟩,
 ⟨⟨some 47, false, none, iPick (.t 44) (.c (.bool (.lit true))) (.t 46)⟩, [44, 46], false, 0, 0, none, []⟩,
 ⟨⟨some 48, false, none, iMov (.t 47)⟩, [47], false, 0, 0, none, []⟩,
 ⟨⟨some 49, false, some (48, false), iMov (.t 9)⟩, [48, 9], false, 0, 0, none, []⟩,
 ⟨⟨some 50, false, some (48, false), iCmp .neq (.t 49) (.c (.int .i64 (.lit 0)))⟩, [48, 49], false, 0, 0, none, []⟩,
 ⟨⟨some 51, false, none, iPick (.t 48) (.c (.bool (.lit true))) (.t 50)⟩, [48, 50], false, 0, 0, none, []⟩,
 ⟨⟨some 52, false, none, iMov (.t 51)⟩, [51], false, 0, 0, none, []⟩,
 ⟨⟨some 53, false, some (52, false), iMov (.t 1)⟩, [52, 1], false, 0, 0, none, []⟩,
 ⟨⟨some 54, false, some (52, false), iNot (.t 53)⟩, [52, 53], false, 0, 0, none, []⟩,
 ⟨⟨some 55, false, none, iPick (.t 52) (.c (.bool (.lit true))) (.t 54)⟩, [52, 54], false, 0, 0, none, []⟩,
 ⟨⟨some 56, false, none, iMov (.t 55)⟩, [55], false, 0, 0, none, []⟩,
 ⟨⟨some 57, false, some (56, false), iMov (.t 3)⟩, [56, 3], false, 0, 4, none, []⟩,
 ⟨⟨some 58, false, some (56, false), iCall (.c (.func (.func 5) [] [])) [(.c (.int .i64 (.lit 9000))), (.c (.int .i64 (.lit 12000)))]⟩, [56], true, 0, 0, none, []⟩,
 ⟨⟨some 59, false, some (56, false), iCall (.c (.func (.func 5) [] [])) [(.c (.int .i64 (.lit 17400))), (.c (.int .i64 (.lit 23200)))]⟩, [56], true, 1, 0, none, []⟩,
 ⟨⟨some 60, false, some (56, false), iCall (.c (.func (.func 5) [] [])) [(.c (.int .i64 (.lit 17400))), (.c (.int .i64 (.lit 23200)))]⟩, [56], true, 2, 0, none, []⟩,
 ⟨⟨some 61, false, some (56, false), iBslice 24 [(.int .i64 (.lit 0)), (.int .i64 (.lit 0))] 3 [(0, 2, (.t 58)), (2, 2, (.t 59)), (4, 2, (.t 60))]⟩, [56, 58, 59, 60], true, 3, 0, none, []⟩,
 ⟨⟨some 62, false, some (56, false), iCall (.c (.func (.func 17) [] [])) [(.t 57), (.t 61)]⟩, [56, 57, 61], true, 4, 0, none, []⟩,
 ⟨⟨some 63, false, some (56, false), iNot (.t 62)⟩, [56, 62], false, 5, 5, none, []⟩,
 ⟨⟨some 64, false, none, iPick (.t 56) (.c (.bool (.lit true))) (.t 63)⟩, [56, 63], false, 5, 5, none, []⟩,
 ⟨⟨some 65, false, none, iMov (.t 64)⟩, [64], false, 5, 5, none, []⟩,
 ⟨⟨some 66, false, some (65, false), iMov (.t 5)⟩, [65, 5], false, 5, 5, none, []⟩,
 ⟨⟨some 67, false, some (65, false), iCmp .neq (.t 66) (.c (.int .i64 (.lit 1722)))⟩, [65, 66], false, 5, 5, none, []⟩,
 ⟨⟨some 68, false, none, iPick (.t 65) (.c (.bool (.lit true))) (.t 67)⟩, [65, 67], false, 5, 5, none, []⟩,
 ⟨⟨some 69, false, none, iMov (.t 68)⟩, [68], false, 5, 5, none, []⟩,
 ⟨⟨some 70, false, some (69, false), iMov (.t 6)⟩, [69, 6], false, 5, 5, none, []⟩,
 ⟨⟨some 71, false, some (69, false), iCmp .neq (.t 70) (.c (.int .i64 (.lit 941)))⟩, [69, 70], false, 5, 5, none, []⟩,
 ⟨⟨some 72, false, none, iPick (.t 69) (.c (.bool (.lit true))) (.t 71)⟩, [69, 71], false, 5, 5, none, []⟩,
 ⟨⟨some 73, false, none, iMov (.t 72)⟩, [72], false, 5, 5, none, []⟩,
 ⟨⟨some 74, false, some (73, false), iLoadN 2 (.t 8)⟩, [73, 8], false, 5, 6, none, []⟩,
 ⟨⟨some 75, false, some (73, false), iCall (.c (.func (.func 5) [] [])) [(.c (.int .i64 (.lit 24582))), (.c (.int .i64 (.lit 31176)))]⟩, [73], true, 5, 0, none, []⟩,
 ⟨⟨some 76, false, some (73, false), iEq true true 2 [(0, .int), (1, .int)] (.t 74) (.t 75)⟩, [73, 74, 75], false, 6, 6, none, []⟩,
 ⟨⟨some 77, true, none, iPick (.t 73) (.c (.bool (.lit true))) (.t 76)⟩, [73, 76], false, 6, 6, none, []⟩])
 (cCond (.t 77) (cSeq (cOps [⟨some 0, true, none, iMov (.c (.bool (.lit false)))⟩])
 cRet) cSkip))
 (cSeq (cOps [⟨some 79, false, none, iCall (.c (.func (.func 4) [] [])) []⟩,
 ⟨some 80, false, none, iCall (.c (.func (.func 11) [] [])) [(.t 79)]⟩,
 ⟨some 78, false, none, iMov (.t 80)⟩,
 ⟨some 81, false, none, iExtract 0 (.t 78)⟩,
 ⟨some 82, false, none, iExtract 1 (.t 78)⟩,
 ⟨some 10, true, none, iMov (.t 81)⟩,
 ⟨some 2, true, none, iMov (.t 82)⟩])
 (cSeq (cOps [⟨some 84, false, none, iCall (.c (.func (.func 4) [] [])) []⟩,
 ⟨some 85, false, none, iCall (.c (.func (.func 12) [] [])) [(.t 84), (.c (.int .i64 (.lit 1722)))]⟩,
 ⟨some 83, false, none, iMov (.t 85)⟩,
 ⟨some 86, false, none, iExtract 0 (.t 83)⟩,
 ⟨some 87, false, none, iExtract 1 (.t 83)⟩,
 ⟨some 11, true, none, iMov (.t 86)⟩,
 ⟨some 4, true, none, iMov (.t 87)⟩])
 (cSeq (cOps [⟨some 89, false, none, iCall (.c (.func (.func 15) [] [])) []⟩,
 ⟨some 90, false, none, iCall (.c (.func (.func 13) [] [])) [(.t 89), (.c (.int .i64 (.lit 3000)))]⟩,
 ⟨some 88, false, none, iMov (.t 90)⟩,
 ⟨some 91, false, none, iExtract 0 (.t 88)⟩,
 ⟨some 92, false, none, iExtract 1 (.t 88)⟩,
 ⟨some 12, true, none, iMov (.t 91)⟩,
 ⟨some 7, true, none, iMov (.t 92)⟩])
 (cSeq (cOps [⟨some 93, false, none, iMov (.t 2)⟩,
 ⟨some 94, false, none, iCmp .eql (.t 93) (.c (.int .i64 (.lit 0)))⟩,
 ⟨some 95, false, none, iMov (.t 94)⟩,
 ⟨some 96, false, some (95, true), iMov (.t 4)⟩,
 ⟨some 97, false, some (95, true), iCmp .eql (.t 96) (.c (.int .i64 (.lit 0)))⟩,
 ⟨some 98, false, none, iPick (.t 95) (.t 97) (.c (.bool (.lit false)))⟩,
 ⟨some 99, false, none, iMov (.t 98)⟩,
 ⟨some 100, false, some (99, true), iMov (.t 7)⟩,
 ⟨some 101, false, some (99, true), iCmp .eql (.t 100) (.c (.int .i64 (.lit 0)))⟩,
 ⟨some 102, false, none, iPick (.t 99) (.t 101) (.c (.bool (.lit false)))⟩,
 ⟨some 103, false, none, iMov (.t 102)⟩,
 ⟨some 104, false, some (103, true), iMov (.t 10)⟩,
 ⟨some 105, false, some (103, true), iBslice 3 [(.int .i64 (.lit 0))] 3 [(0, 1, (.c (.int .i64 (.lit 1)))), (1, 1, (.c (.int .i64 (.lit 1)))), (2, 1, (.c (.int .i64 (.lit 1))))]⟩,
 ⟨some 106, false, some (103, true), iCall (.c (.func (.func 18) [] [])) [(.t 104), (.t 105)]⟩,
 ⟨some 107, false, none, iPick (.t 103) (.t 106) (.c (.bool (.lit false)))⟩,
 ⟨some 108, false, none, iMov (.t 107)⟩,
 ⟨some 109, false, some (108, true), iMov (.t 11)⟩,
 ⟨some 110, false, some (108, true), iBslice 3 [(.int .i64 (.lit 0))] 2 [(0, 1, (.c (.int .i64 (.lit 1)))), (1, 1, (.c (.int .i64 (.lit 2))))]⟩,
 ⟨some 111, false, some (108, true), iCall (.c (.func (.func 18) [] [])) [(.t 109), (.t 110)]⟩,
 ⟨some 112, false, none, iPick (.t 108) (.t 111) (.c (.bool (.lit false)))⟩,
 ⟨some 113, false, none, iMov (.t 112)⟩,
 ⟨some 114, false, some (113, true), iMov (.t 12)⟩,
 ⟨some 115, false, some (113, true), iCmp .eql (.t 114) (.c (.int .i64 (.lit 3)))⟩,
 ⟨some 116, false, none, iPick (.t 113) (.t 115) (.c (.bool (.lit false)))⟩,
 ⟨some 0, true, none, iMov (.t 116)⟩])
 cRet)))))))))), [.t 0]⟩
noncomputable def Tryd.kp20 : List Nat := [0, 1, 2, 3, 4, 5, 18]
noncomputable def Tryd.cf20 : CF := ⟨1, (cSeq (cOps [⟨some 1, true, none, iBox 28 (.t 0)⟩,
 ⟨some 2, true, none, iAlloc 59 [.nilslice, (.int .i64 (.lit 0)), (.int .i64 (.lit 0)), (.int .i64 (.lit 0)), (.int .i64 (.lit 0)), (.int .i64 (.lit 0)), (.int .i64 (.lit 0)), (.int .i64 (.lit 0)), (.int .i64 (.lit 0)), (.int .i64 (.lit 0)), (.int .i64 (.lit 0)), (.int .i64 (.lit 0)), .nilslice, .nilmap]⟩,
 ⟨some 3, true, none, iMov (.c (.int .i64 (.lit 0)))⟩])
 (cSeq (cOps [⟨some 7, false, none, iFaddr 0 (.t 1)⟩,
 ⟨some 8, false, none, iLoadN 6 (.t 7)⟩,
 ⟨some 9, false, none, iCall (.c (.func (.func 33) [] [])) [(.t 8)]⟩,
 ⟨some 6, false, none, iMov (.t 9)⟩,
 ⟨some 10, false, none, iExtract 0 (.t 6)⟩,
 ⟨some 11, false, none, iExtract 1 (.t 6)⟩,
 ⟨some 4, true, none, iMov (.t 10)⟩,
 ⟨some 5, true, none, iMov (.t 11)⟩])
 (cSeq (cSeq (cOps [⟨some 12, false, none, iMov (.t 5)⟩,
 ⟨some 13, false, none, iCmp .neq (.t 12) (.c (.int .i64 (.lit 0)))⟩,
 ⟨some 14, false, none, iMov (.t 13)⟩,
 ⟨some 15, false, some (14, false), iLoadN 12 (.t 1)⟩,
 ⟨some 16, false, some (14, false), iCall (.c (.func (.func 34) [] [])) [(.t 15)]⟩,
 ⟨some 17, false, some (14, false), iNot (.t 16)⟩,
 ⟨some 18, true, none, iPick (.t 14) (.c (.bool (.lit true))) (.t 17)⟩])
 (cCond (.t 18) (cSeq (cOps [⟨some 19, false, none, iBuild [.nilslice, (.int .i64 (.lit 0)), (.int .i64 (.lit 0)), (.int .i64 (.lit 0)), (.int .i64 (.lit 0)), (.int .i64 (.lit 0)), (.int .i64 (.lit 0)), (.int .i64 (.lit 0)), (.int .i64 (.lit 0)), (.int .i64 (.lit 0)), (.int .i64 (.lit 0)), (.int .i64 (.lit 0)), .nilslice, .nilmap] []⟩,
 ⟨none, false, none, iStore 14 (.t 2) (.t 19)⟩,
 ⟨some 3, true, none, iMov (.c (.int .i64 (.lit 80)))⟩])
 cRet) cSkip))
 (cSeq (cOps [⟨some 20, false, none, iLoadN 12 (.t 1)⟩,
 ⟨some 21, false, none, iMov (.t 4)⟩,
 ⟨some 22, false, none, iMkmap⟩,
 ⟨some 23, false, none, iBuild [.nilslice, (.int .i64 (.lit 0)), (.int .i64 (.lit 0)), (.int .i64 (.lit 0)), (.int .i64 (.lit 0)), (.int .i64 (.lit 0)), (.int .i64 (.lit 0)), (.int .i64 (.lit 0)), (.int .i64 (.lit 0)), (.int .i64 (.lit 0)), (.int .i64 (.lit 0)), (.int .i64 (.lit 0)), .nilslice, .nilmap] [(0, 12, (.t 20)), (12, 1, (.t 21)), (13, 1, (.t 22))]⟩,
 ⟨none, false, none, iStore 14 (.t 2) (.t 23)⟩,
 ⟨some 3, true, none, iMov (.c (.int .i64 (.lit 0)))⟩])
 cRet)))), [.cell 2 true 14, .t 3]⟩
noncomputable def Tryd.kp21 : List Nat := [0, 1, 2, 4, 5, 7, 11, 12, 13, 14, 25]
noncomputable def Tryd.cf21 : CF := ⟨2, (cSeq (cOps [⟨some 2, true, none, iBox 59 (.t 0)⟩,
 ⟨some 4, true, none, iMov (.c (.bool (.lit false)))⟩])
 (cSeq (cOps [⟨some 8, false, none, iFaddr 12 (.t 2)⟩,
 ⟨some 9, false, none, iLoad (.t 8)⟩,
 ⟨some 10, false, none, iLenS (.t 9)⟩,
 ⟨some 5, true, none, iMov (.t 10)⟩])
 (cSeq (cSeq (cOps [⟨some 11, true, none, iMov (.t 1)⟩,
 ⟨some 12, true, none, iLenS (.t 11)⟩,
 ⟨some 13, true, none, iMov (.c (.int .i64 (.lit 0)))⟩])
 (cBlock 0 (cLoop (cSeq (cOps [⟨some 14, true, none, iCmp .lss (.t 13) (.t 12)⟩])
 (cSeq (cCond (.t 14) cSkip (cExit 0))
 (cSeq (cBlock 1 (cSeq (cOps [⟨some 15, false, none, iIaddr 1 (.t 11) (.t 13)⟩,
 ⟨some 16, false, none, iLoad (.t 15)⟩,
 ⟨some 7, true, none, iMov (.t 16)⟩])
 (cSeq (cSeq (cOps [⟨some 17, false, none, iMov (.t 7)⟩,
 ⟨some 18, false, none, iCmp .lss (.t 17) (.c (.int .i64 (.lit 1)))⟩,
 ⟨some 19, false, none, iMov (.t 18)⟩,
 ⟨some 20, false, some (19, false), iMov (.t 7)⟩,
 ⟨some 21, false, some (19, false), iFaddr 0 (.t 2)⟩,
 ⟨some 22, false, some (19, false), iFaddr 11 (.t 21)⟩,
 ⟨some 23, false, some (19, false), iLoad (.t 22)⟩,
 ⟨some 24, false, some (19, false), iCmp .gtr (.t 20) (.t 23)⟩,
 ⟨some 25, true, none, iPick (.t 19) (.c (.bool (.lit true))) (.t 24)⟩])
 (cCond (.t 25) (cSeq (cOps [⟨some 4, true, none, iMov (.c (.bool (.lit false)))⟩])
 cRet) cSkip))
 (cOps [⟨some 26, false, none, iMov (.t 5)⟩,
 ⟨some 27, false, none, iMov (.t 7)⟩,
 ⟨some 28, false, none, iArith .sub (.t 26) (.t 27)⟩,
 ⟨some 5, true, none, iMov (.t 28)⟩]))))
 (cOps [⟨some 29, false, none, iArith .add (.t 13) (.c (.int .i64 (.lit 1)))⟩,
 ⟨some 13, true, none, iMov (.t 29)⟩])))))))
 (cSeq (cOps [⟨some 30, false, none, iMov (.t 5)⟩,
 ⟨some 31, false, none, iCmp .eql (.t 30) (.c (.int .i64 (.lit 0)))⟩,
 ⟨some 4, true, none, iMov (.t 31)⟩])
 cRet)))), [.t 4]⟩
noncomputable def Tryd.kp22 : List Nat := [0, 1, 2, 3, 6, 7, 8, 9, 16, 29]
noncomputable def Tryd.cf22 : CF := ⟨3, (cSeq (cOps [⟨some 3, true, none, iBox 28 (.t 0)⟩,
 ⟨some 6, true, none, iAlloc 59 [.nilslice, (.int .i64 (.lit 0)), (.int .i64 (.lit 0)), (.int .i64 (.lit 0)), (.int .i64 (.lit 0)), (.int .i64 (.lit 0)), (.int .i64 (.lit 0)), (.int .i64 (.lit 0)), (.int .i64 (.lit 0)), (.int .i64 (.lit 0)), (.int .i64 (.lit 0)), (.int .i64 (.lit 0)), .nilslice, .nilmap]⟩,
 ⟨some 7, true, none, iMov (.c (.int .i64 (.lit 0)))⟩])
 (cSeq (cOps [⟨some 11, false, none, iLoadN 12 (.t 3)⟩,
 ⟨some 12, false, none, iCall (.c (.func (.func 20) [] [])) [(.t 11)]⟩,
 ⟨some 10, false, none, iMov (.t 12)⟩,
 ⟨some 13, false, none, iExtract 0 (.t 10)⟩,
 ⟨some 14, false, none, iExtract 1 (.t 10)⟩,
 ⟨some 8, true, none, iAlloc 59 [.nilslice, (.int .i64 (.lit 0)), (.int .i64 (.lit 0)), (.int .i64 (.lit 0)), (.int .i64 (.lit 0)), (.int .i64 (.lit 0)), (.int .i64 (.lit 0)), (.int .i64 (.lit 0)), (.int .i64 (.lit 0)), (.int .i64 (.lit 0)), (.int .i64 (.lit 0)), (.int .i64 (.lit 0)), .nilslice, .nilmap]⟩,
 ⟨none, false, none, iStore 14 (.t 8) (.t 13)⟩,
 ⟨some 9, true, none, iMov (.t 14)⟩])
 (cSeq (cSeq (cOps [⟨some 15, false, none, iMov (.t 9)⟩,
 ⟨some 16, true, none, iCmp .neq (.t 15) (.c (.int .i64 (.lit 0)))⟩])
 (cCond (.t 16) (cSeq (cOps [⟨some 17, false, none, iBuild [.nilslice, (.int .i64 (.lit 0)), (.int .i64 (.lit 0)), (.int .i64 (.lit 0)), (.int .i64 (.lit 0)), (.int .i64 (.lit 0)), (.int .i64 (.lit 0)), (.int .i64 (.lit 0)), (.int .i64 (.lit 0)), (.int .i64 (.lit 0)), (.int .i64 (.lit 0)), (.int .i64 (.lit 0)), .nilslice, .nilmap] []⟩,
 ⟨some 18, false, none, iMov (.t 9)⟩,
 ⟨none, false, none, iStore 14 (.t 6) (.t 17)⟩,
 ⟨some 7, true, none, iMov (.t 18)⟩])
 cRet) cSkip))
 (cSeq (cSeq (cOps [⟨some 19, false, none, iLoadN 14 (.t 8)⟩,
 ⟨some 20, false, none, iFunc (.func 21) [(.t 19)] []⟩,
 ⟨some 21, false, none, iMov (.t 1)⟩,
 ⟨some 22, false, none, iBslice 45 [.nilslice] 1 [(0, 1, (.t 21))]⟩,
 ⟨some 23, false, none, iCall (.c (.func (.func 35) [] [])) [(.t 20), (.t 22)]⟩,
 ⟨some 24, false, none, iNot (.t 23)⟩,
 ⟨some 25, false, none, iMov (.t 24)⟩,
 ⟨some 26, false, some (25, false), iMov (.t 2)⟩,
 ⟨some 27, false, some (25, false), iCall (.c (.func (.func 36) [] [])) [(.c (.func (.func 37) [] [])), (.t 26)]⟩,
 ⟨some 28, false, some (25, false), iNot (.t 27)⟩,
 ⟨some 29, true, none, iPick (.t 25) (.c (.bool (.lit true))) (.t 28)⟩])
 (cCond (.t 29) (cSeq (cOps [⟨some 30, false, none, iBuild [.nilslice, (.int .i64 (.lit 0)), (.int .i64 (.lit 0)), (.int .i64 (.lit 0)), (.int .i64 (.lit 0)), (.int .i64 (.lit 0)), (.int .i64 (.lit 0)), (.int .i64 (.lit 0)), (.int .i64 (.lit 0)), (.int .i64 (.lit 0)), (.int .i64 (.lit 0)), (.int .i64 (.lit 0)), .nilslice, .nilmap] []⟩,
 ⟨none, false, none, iStore 14 (.t 6) (.t 30)⟩,
 ⟨some 7, true, none, iMov (.c (.int .i64 (.lit 81)))⟩])
 cRet) cSkip))
 (cSeq (cOps [⟨some 31, false, none, iLoadN 14 (.t 8)⟩,
 ⟨none, false, none, iStore 14 (.t 6) (.t 31)⟩,
 ⟨some 7, true, none, iMov (.c (.int .i64 (.lit 0)))⟩])
 cRet))))), [.cell 6 true 14, .t 7]⟩
noncomputable def Tryd.kp23 : List Nat := [0, 1, 2, 3, 6, 7]
noncomputable def Tryd.cf23 : CF := ⟨3, (cSeq (cOps [⟨some 3, true, none, iBox 59 (.t 0)⟩,
 ⟨some 6, true, none, iAlloc 67 [.nilslice, (.int .i64 (.lit 0)), (.int .i64 (.lit 0)), (.int .i64 (.lit 0)), (.int .i64 (.lit 0)), (.int .i64 (.lit 0)), (.int .i64 (.lit 0)), (.int .i64 (.lit 0)), (.int .i64 (.lit 0)), (.int .i64 (.lit 0)), (.int .i64 (.lit 0)), (.int .i64 (.lit 0)), .nilslice, .nilmap, .nilFunc, .nilFunc]⟩])
 (cSeq (cOps [⟨some 8, false, none, iBuild [.nilFunc, .nilFunc] [(0, 1, (.c (.func (.func 38) [] []))), (1, 1, (.c (.func (.func 39) [] [])))]⟩,
 ⟨some 7, true, none, iAlloc 65 [.nilFunc, .nilFunc]⟩,
 ⟨none, false, none, iStore 2 (.t 7) (.t 8)⟩])
 (cSeq (dOps 0 [⟨⟨some 9, false, none, iLoadN 14 (.t 3)⟩, [3], false, 0, 0, none, []⟩,
 ⟨⟨some 10, false, none, iMov (.t 1)⟩, [1], false, 0, 0, none, []⟩,
 ⟨⟨some 11, false, none, iIaddrA 1 2 (.t 7) (.t 10)⟩, [7, 10], false, 0, 0, none, []⟩,
 ⟨⟨some 12, false, none, iLoad (.t 11)⟩, [11], false, 0, 0, none, []⟩,
 ⟨⟨some 13, false, none, iMov (.t 2)⟩, [2], false, 0, 0, none, []⟩,
 ⟨⟨some 14, false, none, iIaddrA 1 2 (.t 7) (.t 13)⟩, [7, 13], false, 0, 0, none, []⟩,
 ⟨⟨some 15, false, none, iLoad (.t 14)⟩, [14], false, 0, 0, none, []⟩,
 ⟨⟨some 16, false, none, iBuild [.nilFunc, .nilFunc] [(0, 1, (.t 12)), (1, 1, (.t 15))]⟩, [12, 15], false, 0, 0, none, []⟩,
 ⟨⟨some 17, false, none, iBuild [.nilslice, (.int .i64 (.lit 0)), (.int .i64 (.lit 0)), (.int .i64 (.lit 0)), (.int .i64 (.lit 0)), (.int .i64 (.lit 0)), (.int .i64 (.lit 0)), (.int .i64 (.lit 0)), (.int .i64 (.lit 0)), (.int .i64 (.lit 0)), (.int .i64 (.lit 0)), (.int .i64 (.lit 0)), .nilslice, .nilmap, .nilFunc, .nilFunc] [(0, 14, (.t 9)), (14, 2, (.t 16))]⟩, [9, 16], false, 0, 0, none, []⟩,
 ⟨⟨none, false, none, iStore 16 (.t 6) (.t 17)⟩, [6, 17], true, 0, 0, none, []⟩])
 cRet))), [.cell 6 true 16]⟩
noncomputable def Tryd.kp24 : List Nat := [0, 1, 2, 4, 5, 6, 8, 9, 10, 11, 12, 13, 34, 35, 36]
noncomputable def Tryd.cf24 : CF := ⟨2, (cSeq (cOps [⟨some 2, true, none, iBox 67 (.t 0)⟩,
 ⟨some 4, true, none, iMov (.c .nilslice)⟩])
 (cSeq (cOps [⟨some 5, true, none, iMov (.c (.int .i64 (.lit 0)))⟩,
 ⟨some 6, true, none, iMov (.c (.int .i64 (.lit 0)))⟩])
 (cSeq (cSeq (cOps [⟨some 10, true, none, iMov (.t 1)⟩,
 ⟨some 11, true, none, iLenS (.t 10)⟩,
 ⟨some 12, true, none, iMov (.c (.int .i64 (.lit 0)))⟩])
 (cBlock 0 (cLoop (cSeq (cOps [⟨some 13, true, none, iCmp .lss (.t 12) (.t 11)⟩])
 (cSeq (cCond (.t 13) cSkip (cExit 0))
 (cSeq (cBlock 1 (cSeq (cOps [⟨some 14, false, none, iIaddr 1 (.t 10) (.t 12)⟩,
 ⟨some 15, false, none, iLoad (.t 14)⟩,
 ⟨some 8, true, none, iMov (.t 15)⟩])
 (cSeq (cOps [⟨some 16, false, none, iMov (.t 6)⟩,
 ⟨some 17, false, none, iMov (.t 8)⟩,
 ⟨some 18, false, none, iArith .add (.t 16) (.t 17)⟩,
 ⟨some 6, true, none, iMov (.t 18)⟩])
 (cSeq (dOps 0 [⟨⟨some 19, false, none, iMov (.t 5)⟩, [5], false, 0, 3, none, []⟩,
 ⟨⟨some 20, false, none, iLoadN 16 (.t 2)⟩, [2], false, 0, 1, none, []⟩,
 ⟨⟨some 21, false, none, iLoadN 16 (.t 2)⟩, [2], false, 0, 0, none, []⟩,
 ⟨⟨some 22, false, none, iMov (.t 6)⟩, [6], false, 0, 0, none, []⟩,
 ⟨⟨some 23, false, none, iCall (.c (.func (.func 42) [] [])) [(.t 21), (.t 22)]⟩, [21, 22], true, 0, 0, none, []⟩,
 ⟨⟨some 24, false, none, iCall (.c (.func (.func 41) [] [])) [(.t 20), (.t 23), (.c (.int .i64 (.lit 0)))]⟩, [20, 23], true, 1, 0, none, []⟩,
 ⟨⟨some 25, false, none, iBslice 3 [(.int .i64 (.lit 0))] 1 [(0, 1, (.t 24))]⟩, [24], true, 2, 0, none, []⟩,
 ⟨⟨some 26, false, none, iCall (.c (.func (.func 40) [] [])) [(.t 19), (.t 25)]⟩, [19, 25], true, 3, 0, none, []⟩,
 ⟨⟨some 27, false, none, iLoadN 16 (.t 2)⟩, [2], false, 0, 4, none, []⟩,
 ⟨⟨some 28, false, none, iFaddr 0 (.t 2)⟩, [2], false, 0, 4, none, []⟩,
 ⟨⟨some 29, false, none, iFaddr 0 (.t 28)⟩, [28], false, 0, 4, none, []⟩,
 ⟨⟨some 30, false, none, iFaddr 7 (.t 29)⟩, [29], false, 0, 4, none, []⟩,
 ⟨⟨some 31, false, none, iLoadN 2 (.t 30)⟩, [30], false, 0, 4, none, []⟩,
 ⟨⟨some 32, false, none, iCall (.c (.func (.func 43) [] [])) [(.t 27), (.t 31)]⟩, [27, 31], true, 4, 0, none, []⟩,
 ⟨⟨some 33, false, none, iArith .add (.t 26) (.t 32)⟩, [26, 32], false, 5, 5, none, []⟩,
 ⟨⟨some 9, true, none, iMov (.t 33)⟩, [33], false, 5, 5, none, []⟩])
 (cSeq (cSeq (cOps [⟨some 34, true, none, iMov (.t 8)⟩,
 ⟨some 35, true, none, iMov (.c (.int .i64 (.lit 0)))⟩])
 (cBlock 2 (cLoop (cSeq (cOps [⟨some 36, true, none, iCmp .lss (.t 35) (.t 34)⟩])
 (cSeq (cCond (.t 36) cSkip (cExit 2))
 (cSeq (cBlock 3 (cOps [⟨some 37, false, none, iMov (.t 4)⟩,
 ⟨some 38, false, none, iMov (.t 9)⟩,
 ⟨some 39, false, none, iBslice 3 [(.int .i64 (.lit 0))] 1 [(0, 1, (.t 38))]⟩,
 ⟨some 40, false, none, iAppend 3 1 8 (.t 37) (.t 39)⟩,
 ⟨some 4, true, none, iMov (.t 40)⟩]))
 (cOps [⟨some 41, false, none, iArith .add (.t 35) (.c (.int .i64 (.lit 1)))⟩,
 ⟨some 35, true, none, iMov (.t 41)⟩])))))))
 (cOps [⟨some 42, false, none, iMov (.t 9)⟩,
 ⟨some 43, false, none, iLoadN 16 (.t 2)⟩,
 ⟨some 44, false, none, iFaddr 0 (.t 2)⟩,
 ⟨some 45, false, none, iFaddr 0 (.t 44)⟩,
 ⟨some 46, false, none, iFaddr 9 (.t 45)⟩,
 ⟨some 47, false, none, iLoadN 2 (.t 46)⟩,
 ⟨some 48, false, none, iCall (.c (.func (.func 43) [] [])) [(.t 43), (.t 47)]⟩,
 ⟨some 49, false, none, iArith .add (.t 42) (.t 48)⟩,
 ⟨some 5, true, none, iMov (.t 49)⟩]))))))
 (cOps [⟨some 50, false, none, iArith .add (.t 12) (.c (.int .i64 (.lit 1)))⟩,
 ⟨some 12, true, none, iMov (.t 50)⟩])))))))
 (cSeq (cOps [⟨some 51, false, none, iMov (.t 4)⟩,
 ⟨some 4, true, none, iMov (.t 51)⟩])
 cRet)))), [.t 4]⟩
noncomputable def Tryd.kp25 : List Nat := [0, 1, 2, 4]
noncomputable def Tryd.cf25 : CF := ⟨2, (cSeq (cOps [⟨some 2, true, none, iBox 59 (.t 0)⟩,
 ⟨some 4, true, none, iMov (.c (.int .i64 (.lit 0)))⟩])
 (cSeq (cOps [⟨some 5, false, none, iLoadN 14 (.t 2)⟩,
 ⟨some 6, false, none, iCall (.c (.func (.func 23) [] [])) [(.t 5), (.c (.int .i64 (.lit 1))), (.c (.int .i64 (.lit 0)))]⟩,
 ⟨some 7, false, none, iMov (.t 1)⟩,
 ⟨some 8, false, none, iCall (.c (.func (.func 45) [] [])) [(.t 6), (.t 7)]⟩,
 ⟨some 9, false, none, iCall (.c (.func (.func 44) [] [])) [(.t 8)]⟩,
 ⟨some 4, true, none, iMov (.t 9)⟩])
 cRet)), [.t 4]⟩
noncomputable def Tryd.kp26 : List Nat := [0, 1, 2, 4]
noncomputable def Tryd.cf26 : CF := ⟨2, (cSeq (cOps [⟨some 2, true, none, iBox 59 (.t 0)⟩,
 ⟨some 4, true, none, iMov (.c (.int .i64 (.lit 0)))⟩])
 (cSeq (cOps [⟨some 5, false, none, iLoadN 14 (.t 2)⟩,
 ⟨some 6, false, none, iCall (.c (.func (.func 23) [] [])) [(.t 5), (.c (.int .i64 (.lit 0))), (.c (.int .i64 (.lit 1)))]⟩,
 ⟨some 7, false, none, iMov (.t 1)⟩,
 ⟨some 8, false, none, iCall (.c (.func (.func 45) [] [])) [(.t 6), (.t 7)]⟩,
 ⟨some 9, false, none, iCall (.c (.func (.func 44) [] [])) [(.t 8)]⟩,
 ⟨some 4, true, none, iMov (.t 9)⟩])
 cRet)), [.t 4]⟩
noncomputable def Tryd.kp27 : List Nat := [0, 1, 2, 3, 6, 7, 8, 9, 14, 15, 16, 17]
noncomputable def Tryd.cf27 : CF := ⟨3, (cSeq (cOps [⟨some 3, true, none, iBox 67 (.t 0)⟩,
 ⟨some 6, true, none, iMov (.c (.int .i64 (.lit 0)))⟩])
 (cSeq (cOps [⟨some 10, false, none, iMov (.t 2)⟩,
 ⟨some 11, false, none, iArith .mul (.c (.int .i64 (.lit 10))) (.t 10)⟩,
 ⟨some 7, true, none, iMov (.t 11)⟩])
 (cSeq (cSeq (cOps [⟨some 12, false, none, iLoadN 16 (.t 3)⟩,
 ⟨some 13, false, none, iMov (.t 1)⟩,
 ⟨some 14, true, none, iCall (.c (.func (.func 24) [] [])) [(.t 12), (.t 13)]⟩,
 ⟨some 15, true, none, iLenS (.t 14)⟩,
 ⟨some 16, true, none, iMov (.c (.int .i64 (.lit 0)))⟩])
 (cBlock 0 (cLoop (cSeq (cOps [⟨some 17, true, none, iCmp .lss (.t 16) (.t 15)⟩])
 (cSeq (cCond (.t 17) cSkip (cExit 0))
 (cSeq (cBlock 1 (cSeq (cOps [⟨some 18, false, none, iMov (.t 16)⟩,
 ⟨some 19, false, none, iIaddr 1 (.t 14) (.t 16)⟩,
 ⟨some 20, false, none, iLoad (.t 19)⟩,
 ⟨some 8, true, none, iMov (.t 18)⟩,
 ⟨some 9, true, none, iMov (.t 20)⟩])
 (dOps 0 [⟨⟨some 21, false, none, iMov (.t 7)⟩, [7], false, 0, 1, none, []⟩,
 ⟨⟨some 22, false, none, iMov (.t 9)⟩, [9], false, 0, 0, none, []⟩,
 ⟨⟨some 23, false, none, iBslice 3 [(.int .i64 (.lit 0))] 1 [(0, 1, (.t 22))]⟩, [22], true, 0, 0, none, []⟩,
 ⟨⟨some 24, false, none, iCall (.c (.func (.func 40) [] [])) [(.t 21), (.t 23)]⟩, [21, 23], true, 1, 0, none, []⟩,
 ⟨⟨some 25, false, none, iLoadN 16 (.t 3)⟩, [3], false, 0, 3, none, []⟩,
 ⟨⟨some 26, false, none, iLoadN 16 (.t 3)⟩, [3], false, 0, 2, none, []⟩,
 ⟨⟨some 27, false, none, iMov (.t 8)⟩, [8], false, 0, 2, none, []⟩,
 ⟨⟨some 28, false, none, iCall (.c (.func (.func 42) [] [])) [(.t 26), (.t 27)]⟩, [26, 27], true, 2, 0, none, []⟩,
 ⟨⟨some 29, false, none, iCall (.c (.func (.func 46) [] [])) [(.t 25), (.t 28), (.c (.int .i64 (.lit 1)))]⟩, [25, 28], true, 3, 0, none, []⟩,
 ⟨⟨some 30, false, none, iArith .add (.t 24) (.t 29)⟩, [24, 29], false, 4, 4, none, []⟩,
 ⟨⟨some 7, true, none, iMov (.t 30)⟩, [30], false, 4, 4, none, []⟩])))
 (cOps [⟨some 31, false, none, iArith .add (.t 16) (.c (.int .i64 (.lit 1)))⟩,
 ⟨some 16, true, none, iMov (.t 31)⟩])))))))
 (cSeq (cOps [⟨some 32, false, none, iMov (.t 7)⟩,
 ⟨some 6, true, none, iMov (.t 32)⟩])
 cRet)))), [.t 6]⟩
noncomputable def Tryd.ra28011 : C := (cOps [⟨some 7, true, none, iMov (.t 11)⟩])
noncomputable def Tryd.rb28011 : C := (cBlock 1 (cSeq (cOps [⟨some 12, false, none, iMov (.t 7)⟩,
 ⟨some 13, false, none, iLoadN 14 (.t 2)⟩,
 ⟨some 14, false, none, iMov (.t 7)⟩,
 ⟨some 15, false, none, iCall (.c (.func (.func 25) [] [])) [(.t 13), (.t 14)]⟩,
 ⟨some 16, false, none, iBuild [.nilslice, (.int .i64 (.lit 0))] [(0, 1, (.t 12)), (1, 1, (.t 15))]⟩,
 ⟨some 8, true, none, iAlloc 93 [.nilslice, (.int .i64 (.lit 0))]⟩,
 ⟨none, false, none, iStore 2 (.t 8) (.t 16)⟩])
 (cSeq (cSeq (cOps [⟨some 17, false, none, iFaddr 1 (.t 8)⟩,
 ⟨some 18, false, none, iLoad (.t 17)⟩,
 ⟨some 19, false, none, iFaddr 0 (.t 3)⟩,
 ⟨some 20, false, none, iLoad (.t 19)⟩,
 ⟨some 21, false, none, iCmp .gtr (.t 18) (.t 20)⟩,
 ⟨some 22, false, none, iMov (.t 21)⟩,
 ⟨some 23, false, some (22, false), iFaddr 0 (.t 6)⟩,
 ⟨some 24, false, some (22, false), iLoad (.t 23)⟩,
 ⟨some 25, false, some (22, false), iEq true false 1 [(0, .nilS)] (.t 24) (.c .nilslice)⟩,
 ⟨some 26, false, some (22, false), iMov (.t 25)⟩,
 ⟨some 27, false, some (26, true), iFaddr 1 (.t 3)⟩,
 ⟨some 28, false, some (26, true), iLoad (.t 27)⟩,
 ⟨some 29, false, some (26, true), iLoadN 2 (.t 8)⟩,
 ⟨some 30, false, some (26, true), iLoadN 2 (.t 6)⟩,
 ⟨some 31, false, some (26, true), iCall (.t 28) [(.t 29), (.t 30)]⟩,
 ⟨some 32, false, some (26, true), iNot (.t 31)⟩,
 ⟨some 33, false, some (22, false), iPick (.t 26) (.t 32) (.c (.bool (.lit false)))⟩,
 ⟨some 34, true, none, iPick (.t 22) (.c (.bool (.lit true))) (.t 33)⟩])
 (cCond (.t 34) (cExit 1) cSkip))
 (dOps 0 [⟨⟨some 35, false, none, iMov (.t 7)⟩, [7], false, 0, 0, none, []⟩,
 ⟨⟨some 36, false, none, iCall (.c (.func (.func 48) [] [])) [(.t 35)]⟩, [35], true, 0, 0, none, []⟩,
 ⟨⟨some 37, false, none, iFaddr 1 (.t 8)⟩, [8], false, 0, 1, none, []⟩,
 ⟨⟨some 38, false, none, iLoad (.t 37)⟩, [37], false, 0, 1, none, []⟩,
 ⟨⟨some 39, false, none, iBuild [.nilslice, (.int .i64 (.lit 0))] [(0, 1, (.t 36)), (1, 1, (.t 38))]⟩, [36, 38], false, 1, 1, none, []⟩,
 ⟨⟨none, false, none, iStore 2 (.t 6) (.t 39)⟩, [6, 39], true, 1, 0, none, []⟩]))))
noncomputable def Tryd.kp28 : List Nat := [0, 1, 2, 3, 4, 5, 6, 7, 8, 10, 11, 34, 42]
noncomputable def Tryd.cf28 : CF := ⟨2, (cSeq (cOps [⟨some 2, true, none, iBox 59 (.t 0)⟩,
 ⟨some 3, true, none, iBox 75 (.t 1)⟩,
 ⟨some 4, true, none, iMov (.c .nilslice)⟩,
 ⟨some 5, true, none, iMov (.c (.int .i64 (.lit 0)))⟩])
 (cSeq (cOps [⟨some 6, true, none, iAlloc 93 [.nilslice, (.int .i64 (.lit 0))]⟩])
 (cSeq (cSeq (cOps [⟨some 9, false, none, iLoadN 14 (.t 2)⟩,
 ⟨some 10, true, none, iCall (.c (.func (.func 47) [] [])) [(.t 9)]⟩])
 (cBlock 0 (cRange (.t 10) [11] 28011)))
 (cSeq (cSeq (cOps [⟨some 40, false, none, iFaddr 0 (.t 6)⟩,
 ⟨some 41, false, none, iLoad (.t 40)⟩,
 ⟨some 42, true, none, iEq false false 1 [(0, .nilS)] (.t 41) (.c .nilslice)⟩])
 (cCond (.t 42) (cSeq (cOps [⟨some 4, true, none, iMov (.c .nilslice)⟩,
 ⟨some 5, true, none, iMov (.c (.int .i64 (.lit 4)))⟩])
 cRet) cSkip))
 (cSeq (cOps [⟨some 43, false, none, iFaddr 0 (.t 6)⟩,
 ⟨some 44, false, none, iLoad (.t 43)⟩,
 ⟨some 4, true, none, iMov (.t 44)⟩,
 ⟨some 5, true, none, iMov (.c (.int .i64 (.lit 0)))⟩])
 cRet))))), [.t 4, .t 5]⟩
noncomputable def Tryd.kp29 : List Nat := [0, 1, 2, 3, 4, 9]
noncomputable def Tryd.cf29 : CF := ⟨2, (cSeq (cOps [⟨some 2, true, none, iBox 93 (.t 0)⟩,
 ⟨some 3, true, none, iBox 93 (.t 1)⟩,
 ⟨some 4, true, none, iMov (.c (.bool (.lit false)))⟩])
 (cSeq (cSeq (cOps [⟨some 5, false, none, iFaddr 1 (.t 2)⟩,
 ⟨some 6, false, none, iLoad (.t 5)⟩,
 ⟨some 7, false, none, iFaddr 1 (.t 3)⟩,
 ⟨some 8, false, none, iLoad (.t 7)⟩,
 ⟨some 9, true, none, iCmp .neq (.t 6) (.t 8)⟩])
 (cCond (.t 9) (cSeq (cOps [⟨some 10, false, none, iFaddr 1 (.t 2)⟩,
 ⟨some 11, false, none, iLoad (.t 10)⟩,
 ⟨some 12, false, none, iFaddr 1 (.t 3)⟩,
 ⟨some 13, false, none, iLoad (.t 12)⟩,
 ⟨some 14, false, none, iCmp .lss (.t 11) (.t 13)⟩,
 ⟨some 4, true, none, iMov (.t 14)⟩])
 cRet) cSkip))
 (cSeq (cOps [⟨some 15, false, none, iLoadN 2 (.t 2)⟩,
 ⟨some 16, false, none, iLoadN 2 (.t 3)⟩,
 ⟨some 17, false, none, iCall (.c (.func (.func 31) [] [])) [(.t 15), (.t 16)]⟩,
 ⟨some 4, true, none, iMov (.t 17)⟩])
 cRet))), [.t 4]⟩
noncomputable def Tryd.kp30 : List Nat := [0, 1, 2, 4, 5, 6, 7, 14, 19]
noncomputable def Tryd.cf30 : CF := ⟨2, (cSeq (cOps [⟨some 2, true, none, iBox 28 (.t 0)⟩,
 ⟨some 4, true, none, iAlloc 59 [.nilslice, (.int .i64 (.lit 0)), (.int .i64 (.lit 0)), (.int .i64 (.lit 0)), (.int .i64 (.lit 0)), (.int .i64 (.lit 0)), (.int .i64 (.lit 0)), (.int .i64 (.lit 0)), (.int .i64 (.lit 0)), (.int .i64 (.lit 0)), (.int .i64 (.lit 0)), (.int .i64 (.lit 0)), .nilslice, .nilmap]⟩,
 ⟨some 5, true, none, iMov (.c (.int .i64 (.lit 0)))⟩])
 (cSeq (cOps [⟨some 9, false, none, iLoadN 12 (.t 2)⟩,
 ⟨some 10, false, none, iCall (.c (.func (.func 20) [] [])) [(.t 9)]⟩,
 ⟨some 8, false, none, iMov (.t 10)⟩,
 ⟨some 11, false, none, iExtract 0 (.t 8)⟩,
 ⟨some 12, false, none, iExtract 1 (.t 8)⟩,
 ⟨some 6, true, none, iAlloc 59 [.nilslice, (.int .i64 (.lit 0)), (.int .i64 (.lit 0)), (.int .i64 (.lit 0)), (.int .i64 (.lit 0)), (.int .i64 (.lit 0)), (.int .i64 (.lit 0)), (.int .i64 (.lit 0)), (.int .i64 (.lit 0)), (.int .i64 (.lit 0)), (.int .i64 (.lit 0)), (.int .i64 (.lit 0)), .nilslice, .nilmap]⟩,
 ⟨none, false, none, iStore 14 (.t 6) (.t 11)⟩,
 ⟨some 7, true, none, iMov (.t 12)⟩])
 (cSeq (cSeq (cOps [⟨some 13, false, none, iMov (.t 7)⟩,
 ⟨some 14, true, none, iCmp .neq (.t 13) (.c (.int .i64 (.lit 0)))⟩])
 (cCond (.t 14) (cSeq (cOps [⟨some 15, false, none, iBuild [.nilslice, (.int .i64 (.lit 0)), (.int .i64 (.lit 0)), (.int .i64 (.lit 0)), (.int .i64 (.lit 0)), (.int .i64 (.lit 0)), (.int .i64 (.lit 0)), (.int .i64 (.lit 0)), (.int .i64 (.lit 0)), (.int .i64 (.lit 0)), (.int .i64 (.lit 0)), (.int .i64 (.lit 0)), .nilslice, .nilmap] []⟩,
 ⟨some 16, false, none, iMov (.t 7)⟩,
 ⟨none, false, none, iStore 14 (.t 4) (.t 15)⟩,
 ⟨some 5, true, none, iMov (.t 16)⟩])
 cRet) cSkip))
 (cSeq (cSeq (cOps [⟨some 17, false, none, iMov (.t 1)⟩,
 ⟨some 18, false, none, iCall (.c (.func (.func 37) [] [])) [(.t 17)]⟩,
 ⟨some 19, true, none, iNot (.t 18)⟩])
 (cCond (.t 19) (cSeq (cOps [⟨some 20, false, none, iBuild [.nilslice, (.int .i64 (.lit 0)), (.int .i64 (.lit 0)), (.int .i64 (.lit 0)), (.int .i64 (.lit 0)), (.int .i64 (.lit 0)), (.int .i64 (.lit 0)), (.int .i64 (.lit 0)), (.int .i64 (.lit 0)), (.int .i64 (.lit 0)), (.int .i64 (.lit 0)), (.int .i64 (.lit 0)), .nilslice, .nilmap] []⟩,
 ⟨none, false, none, iStore 14 (.t 4) (.t 20)⟩,
 ⟨some 5, true, none, iMov (.c (.int .i64 (.lit 81)))⟩])
 cRet) cSkip))
 (cSeq (cOps [⟨some 21, false, none, iLoadN 14 (.t 6)⟩,
 ⟨none, false, none, iStore 14 (.t 4) (.t 21)⟩,
 ⟨some 5, true, none, iMov (.c (.int .i64 (.lit 0)))⟩])
 cRet))))), [.cell 4 true 14, .t 5]⟩
noncomputable def Tryd.kp31 : List Nat := [0, 1, 2, 3, 4]
noncomputable def Tryd.cf31 : CF := ⟨2, (cSeq (cOps [⟨some 2, true, none, iBox 93 (.t 0)⟩,
 ⟨some 3, true, none, iBox 93 (.t 1)⟩,
 ⟨some 4, true, none, iMov (.c (.bool (.lit false)))⟩])
 (cSeq (cOps [⟨some 5, false, none, iFaddr 0 (.t 2)⟩,
 ⟨some 6, false, none, iLoad (.t 5)⟩,
 ⟨some 7, false, none, iLenS (.t 6)⟩,
 ⟨some 8, false, none, iFaddr 0 (.t 3)⟩,
 ⟨some 9, false, none, iLoad (.t 8)⟩,
 ⟨some 10, false, none, iLenS (.t 9)⟩,
 ⟨some 11, false, none, iCmp .lss (.t 7) (.t 10)⟩,
 ⟨some 4, true, none, iMov (.t 11)⟩])
 cRet)), [.t 4]⟩
noncomputable def Tryd.kp32 : List Nat := [0, 1, 2, 4, 5, 6, 7, 18]
noncomputable def Tryd.cf32 : CF := ⟨2, (cSeq (cOps [⟨some 2, true, none, iBox 59 (.t 0)⟩,
 ⟨some 4, true, none, iMov (.c (.int .i64 (.lit 0)))⟩,
 ⟨some 5, true, none, iMov (.c (.int .i64 (.lit 0)))⟩])
 (cSeq (cOps [⟨some 8, false, none, iFaddr 0 (.t 2)⟩,
 ⟨some 9, false, none, iFaddr 11 (.t 8)⟩,
 ⟨none, false, none, iStore 1 (.t 9) (.c (.int .i64 (.lit 6)))⟩])
 (cSeq (cOps [⟨some 11, false, none, iLoadN 14 (.t 2)⟩,
 ⟨some 12, false, none, iMov (.t 1)⟩,
 ⟨some 13, false, none, iBuild [(.int .i64 (.lit 0)), .nilFunc] [(0, 1, (.t 12)), (1, 1, (.c (.func (.func 49) [] [])))]⟩,
 ⟨some 14, false, none, iCall (.c (.func (.func 28) [] [])) [(.t 11), (.t 13)]⟩,
 ⟨some 10, false, none, iMov (.t 14)⟩,
 ⟨some 15, false, none, iExtract 0 (.t 10)⟩,
 ⟨some 16, false, none, iExtract 1 (.t 10)⟩,
 ⟨some 6, true, none, iMov (.t 15)⟩,
 ⟨some 7, true, none, iMov (.t 16)⟩])
 (cSeq (cSeq (cOps [⟨some 17, false, none, iMov (.t 7)⟩,
 ⟨some 18, true, none, iCmp .neq (.t 17) (.c (.int .i64 (.lit 0)))⟩])
 (cCond (.t 18) (cSeq (cOps [⟨some 19, false, none, iMov (.t 7)⟩,
 ⟨some 4, true, none, iMov (.c (.int .i64 (.lit 0)))⟩,
 ⟨some 5, true, none, iMov (.t 19)⟩])
 cRet) cSkip))
 (cSeq (cOps [⟨some 20, false, none, iMov (.t 6)⟩,
 ⟨some 21, false, none, iCall (.c (.func (.func 50) [] [])) [(.t 20)]⟩,
 ⟨some 4, true, none, iMov (.t 21)⟩,
 ⟨some 5, true, none, iMov (.c (.int .i64 (.lit 0)))⟩])
 cRet))))), [.t 4, .t 5]⟩
noncomputable def Tryd.ra33017 : C := (cOps [⟨some 6, true, none, iMov (.t 17)⟩])
noncomputable def Tryd.rb33017 : C := (cBlock 1 (cSeq (cOps [⟨some 18, false, none, iMov (.t 6)⟩,
 ⟨some 19, false, none, iCall (.c (.func (.func 48) [] [])) [(.t 18)]⟩,
 ⟨none, false, none, iStore 1 (.t 2) (.t 19)⟩,
 ⟨none, false, none, iStore 1 (.t 3) (.c (.int .i64 (.lit 0)))⟩])
 cRet))
noncomputable def Tryd.kp33 : List Nat := [0, 1, 2, 3, 4, 5, 6, 13, 16, 17]
noncomputable def Tryd.cf33 : CF := ⟨1, (cSeq (cOps [⟨some 1, true, none, iBox 26 (.t 0)⟩,
 ⟨some 2, true, none, iAlloc 45 [.nilslice]⟩,
 ⟨some 3, true, none, iAlloc 35 [(.int .i64 (.lit 0))]⟩])
 (cSeq (cOps [⟨some 8, false, none, iLoadN 6 (.t 1)⟩,
 ⟨some 9, false, none, iCall (.c (.func (.func 51) [] [])) [(.t 8)]⟩,
 ⟨some 7, false, none, iMov (.t 9)⟩,
 ⟨some 10, false, none, iExtract 0 (.t 7)⟩,
 ⟨some 11, false, none, iExtract 1 (.t 7)⟩,
 ⟨some 4, true, none, iAlloc 99 [.nilslice, (.int .i64 (.lit 0)), (.int .i64 (.lit 0)), (.int .i64 (.lit 0)), (.int .i64 (.lit 0)), (.int .i64 (.lit 0)), .nilmap]⟩,
 ⟨none, false, none, iStore 7 (.t 4) (.t 10)⟩,
 ⟨some 5, true, none, iMov (.t 11)⟩])
 (cSeq (cSeq (cOps [⟨some 12, false, none, iMov (.t 5)⟩,
 ⟨some 13, true, none, iCmp .neq (.t 12) (.c (.int .i64 (.lit 0)))⟩])
 (cCond (.t 13) (cSeq (cOps [⟨some 14, false, none, iMov (.t 5)⟩,
 ⟨none, false, none, iStore 1 (.t 2) (.c .nilslice)⟩,
 ⟨none, false, none, iStore 1 (.t 3) (.t 14)⟩])
 cRet) cSkip))
 (cSeq (cSeq (cOps [⟨some 15, false, none, iLoadN 7 (.t 4)⟩,
 ⟨some 16, true, none, iCall (.c (.func (.func 52) [] [])) [(.t 15)]⟩])
 (cBlock 0 (cRange (.t 16) [17] 33017)))
 (cSeq (cOps [⟨none, false, none, iStore 1 (.t 2) (.c .nilslice)⟩,
 ⟨none, false, none, iStore 1 (.t 3) (.c (.int .i64 (.lit 4)))⟩])
 cRet))))), [.cell 2 false 1, .cell 3 false 1]⟩
noncomputable def Tryd.kp34 : List Nat := [0, 1, 2, 3, 4, 5, 6, 11, 12, 13, 21, 27, 28, 29, 37]
noncomputable def Tryd.cf34 : CF := ⟨1, (cSeq (cOps [⟨some 1, true, none, iBox 28 (.t 0)⟩,
 ⟨some 2, true, none, iMov (.c (.bool (.lit false)))⟩])
 (cSeq (cSeq (cOps [⟨some 7, false, none, iFaddr 6 (.t 1)⟩,
 ⟨some 8, false, none, iLoad (.t 7)⟩,
 ⟨some 9, false, none, iFaddr 11 (.t 1)⟩,
 ⟨some 10, false, none, iLoad (.t 9)⟩,
 ⟨some 11, true, none, iBuild [(.int .i64 (.lit 0)), (.int .i64 (.lit 0))] [(0, 1, (.t 8)), (1, 1, (.t 10))]⟩,
 ⟨some 12, true, none, iMov (.c (.int .i64 (.lit 0)))⟩])
 (cBlock 0 (cLoop (cSeq (cOps [⟨some 13, true, none, iCmp .lss (.t 12) (.c (.int .i64 (.lit 2)))⟩])
 (cSeq (cCond (.t 13) cSkip (cExit 0))
 (cSeq (cBlock 1 (cSeq (cOps [⟨some 14, false, none, iMov (.t 12)⟩,
 ⟨some 15, false, none, iIndex false 1 2 (.t 11) (.t 12)⟩,
 ⟨some 3, true, none, iMov (.t 14)⟩,
 ⟨some 4, true, none, iMov (.t 15)⟩])
 (cSeq (cOps [⟨some 16, false, none, iMov (.t 4)⟩,
 ⟨some 17, false, none, iMov (.t 3)⟩,
 ⟨some 18, false, none, iIaddrA 2 2 (.c (.ptr 0 0)) (.t 17)⟩,
 ⟨some 19, false, none, iLoadN 2 (.t 18)⟩,
 ⟨some 20, false, none, iCall (.c (.func (.func 53) [] [])) [(.t 16), (.t 19)]⟩,
 ⟨some 21, true, none, iNot (.t 20)⟩])
 (cCond (.t 21) (cSeq (cOps [⟨some 2, true, none, iMov (.c (.bool (.lit false)))⟩])
 cRet) cSkip))))
 (cOps [⟨some 22, false, none, iArith .add (.t 12) (.c (.int .i64 (.lit 1)))⟩,
 ⟨some 12, true, none, iMov (.t 22)⟩])))))))
 (cSeq (cSeq (cOps [⟨some 23, false, none, iFaddr 7 (.t 1)⟩,
 ⟨some 24, false, none, iLoadN 2 (.t 23)⟩,
 ⟨some 25, false, none, iFaddr 9 (.t 1)⟩,
 ⟨some 26, false, none, iLoadN 2 (.t 25)⟩,
 ⟨some 27, true, none, iBuild [(.int .i64 (.lit 0)), (.int .i64 (.lit 0)), (.int .i64 (.lit 0)), (.int .i64 (.lit 0))] [(0, 2, (.t 24)), (2, 2, (.t 26))]⟩,
 ⟨some 28, true, none, iMov (.c (.int .i64 (.lit 0)))⟩])
 (cBlock 2 (cLoop (cSeq (cOps [⟨some 29, true, none, iCmp .lss (.t 28) (.c (.int .i64 (.lit 2)))⟩])
 (cSeq (cCond (.t 29) cSkip (cExit 2))
 (cSeq (cBlock 3 (cSeq (cOps [⟨some 30, false, none, iMov (.t 28)⟩,
 ⟨some 31, false, none, iIndex true 2 2 (.t 27) (.t 28)⟩,
 ⟨some 6, true, none, iAlloc 24 [(.int .i64 (.lit 0)), (.int .i64 (.lit 0))]⟩,
 ⟨some 5, true, none, iMov (.t 30)⟩,
 ⟨none, false, none, iStore 2 (.t 6) (.t 31)⟩])
 (cSeq (dOps 0 [⟨⟨some 32, false, none, iLoadN 2 (.t 6)⟩, [6], false, 0, 0, none, []⟩,
 ⟨⟨some 33, false, none, iMov (.t 5)⟩, [5], false, 0, 0, none, []⟩,
 ⟨⟨some 34, false, none, iIaddrA 2 2 (.c (.ptr 1 0)) (.t 33)⟩, [33], false, 0, 0, none, []⟩,
 ⟨⟨some 35, false, none, iLoadN 2 (.t 34)⟩, [34], false, 0, 0, none, []⟩,
 ⟨⟨some 36, false, none, iCall (.c (.func (.func 54) [] [])) [(.t 32), (.t 35)]⟩, [32, 35], true, 0, 0, none, []⟩,
 ⟨⟨some 37, true, none, iNot (.t 36)⟩, [36], false, 1, 1, none, []⟩])
 (cCond (.t 37) (cSeq (cOps [⟨some 2, true, none, iMov (.c (.bool (.lit false)))⟩])
 cRet) cSkip))))
 (cOps [⟨some 38, false, none, iArith .add (.t 28) (.c (.int .i64 (.lit 1)))⟩,
 ⟨some 28, true, none, iMov (.t 38)⟩])))))))
 (cSeq (cOps [⟨some 2, true, none, iMov (.c (.bool (.lit true)))⟩])
 cRet)))), [.t 2]⟩
noncomputable def Tryd.kp35 : List Nat := [0, 1, 4, 6, 7, 8, 9, 10, 16]
noncomputable def Tryd.cf35 : CF := ⟨2, (cSeq (cOps [⟨some 4, true, none, iMov (.c (.bool (.lit false)))⟩])
 (cSeq (cSeq (cOps [⟨some 7, true, none, iMov (.t 1)⟩,
 ⟨some 8, true, none, iLenS (.t 7)⟩,
 ⟨some 9, true, none, iMov (.c (.int .i64 (.lit 0)))⟩])
 (cBlock 0 (cLoop (cSeq (cOps [⟨some 10, true, none, iCmp .lss (.t 9) (.t 8)⟩])
 (cSeq (cCond (.t 10) cSkip (cExit 0))
 (cSeq (cBlock 1 (cSeq (cOps [⟨some 11, false, none, iIaddr 1 (.t 7) (.t 9)⟩,
 ⟨some 12, false, none, iLoad (.t 11)⟩,
 ⟨some 6, true, none, iMov (.t 12)⟩])
 (cSeq (cOps [⟨some 13, false, none, iMov (.t 0)⟩,
 ⟨some 14, false, none, iMov (.t 6)⟩,
 ⟨some 15, false, none, iCall (.t 13) [(.t 14)]⟩,
 ⟨some 16, true, none, iNot (.t 15)⟩])
 (cCond (.t 16) (cSeq (cOps [⟨some 4, true, none, iMov (.c (.bool (.lit false)))⟩])
 cRet) cSkip))))
 (cOps [⟨some 17, false, none, iArith .add (.t 9) (.c (.int .i64 (.lit 1)))⟩,
 ⟨some 9, true, none, iMov (.t 17)⟩])))))))
 (cSeq (cOps [⟨some 4, true, none, iMov (.c (.bool (.lit true)))⟩])
 cRet))), [.t 4]⟩
noncomputable def Tryd.kp36 : List Nat := [0, 1, 4, 6, 7, 8, 9, 10, 16]
noncomputable def Tryd.cf36 : CF := ⟨2, (cSeq (cOps [⟨some 4, true, none, iMov (.c (.bool (.lit false)))⟩])
 (cSeq (cSeq (cOps [⟨some 7, true, none, iMov (.t 1)⟩,
 ⟨some 8, true, none, iLenS (.t 7)⟩,
 ⟨some 9, true, none, iMov (.c (.int .i64 (.lit 0)))⟩])
 (cBlock 0 (cLoop (cSeq (cOps [⟨some 10, true, none, iCmp .lss (.t 9) (.t 8)⟩])
 (cSeq (cCond (.t 10) cSkip (cExit 0))
 (cSeq (cBlock 1 (cSeq (cOps [⟨some 11, false, none, iIaddr 1 (.t 7) (.t 9)⟩,
 ⟨some 12, false, none, iLoad (.t 11)⟩,
 ⟨some 6, true, none, iMov (.t 12)⟩])
 (cSeq (cOps [⟨some 13, false, none, iMov (.t 0)⟩,
 ⟨some 14, false, none, iMov (.t 6)⟩,
 ⟨some 15, false, none, iCall (.t 13) [(.t 14)]⟩,
 ⟨some 16, true, none, iNot (.t 15)⟩])
 (cCond (.t 16) (cSeq (cOps [⟨some 4, true, none, iMov (.c (.bool (.lit false)))⟩])
 cRet) cSkip))))
 (cOps [⟨some 17, false, none, iArith .add (.t 9) (.c (.int .i64 (.lit 1)))⟩,
 ⟨some 9, true, none, iMov (.t 17)⟩])))))))
 (cSeq (cOps [⟨some 4, true, none, iMov (.c (.bool (.lit true)))⟩])
 cRet))), [.t 4]⟩
noncomputable def Tryd.kp37 : List Nat := [0, 2]
noncomputable def Tryd.cf37 : CF := ⟨1, (cSeq (cOps [⟨some 2, true, none, iMov (.c (.bool (.lit false)))⟩])
 (cSeq (cOps [⟨some 3, false, none, iMov (.t 0)⟩,
 ⟨some 4, false, none, iCmp .geq (.t 3) (.c (.int .i64 (.lit 0)))⟩,
 ⟨some 5, false, none, iMov (.t 4)⟩,
 ⟨some 6, false, some (5, true), iMov (.t 0)⟩,
 ⟨some 7, false, some (5, true), iCmp .leq (.t 6) (.c (.int .i64 (.lit 99999)))⟩,
 ⟨some 8, false, none, iPick (.t 5) (.t 7) (.c (.bool (.lit false)))⟩,
 ⟨some 2, true, none, iMov (.t 8)⟩])
 cRet)), [.t 2]⟩
noncomputable def Tryd.kp38 : List Nat := [0, 1, 2]
noncomputable def Tryd.cf38 : CF := ⟨1, (cSeq (cOps [⟨some 1, true, none, iBox 84 (.t 0)⟩,
 ⟨some 2, true, none, iMov (.c (.int .i64 (.lit 0)))⟩])
 (cSeq (cOps [⟨some 3, false, none, iFaddr 0 (.t 1)⟩,
 ⟨some 4, false, none, iLoad (.t 3)⟩,
 ⟨some 2, true, none, iMov (.t 4)⟩])
 cRet)), [.t 2]⟩
noncomputable def Tryd.kp39 : List Nat := [0, 1, 2]
noncomputable def Tryd.cf39 : CF := ⟨1, (cSeq (cOps [⟨some 1, true, none, iBox 84 (.t 0)⟩,
 ⟨some 2, true, none, iMov (.c (.int .i64 (.lit 0)))⟩])
 (cSeq (cOps [⟨some 3, false, none, iFaddr 1 (.t 1)⟩,
 ⟨some 4, false, none, iLoad (.t 3)⟩,
 ⟨some 2, true, none, iMov (.t 4)⟩])
 cRet)), [.t 2]⟩
noncomputable def Tryd.kp40 : List Nat := [0, 1, 4, 6, 7, 8, 9, 10]
noncomputable def Tryd.cf40 : CF := ⟨2, (cSeq (cOps [⟨some 4, true, none, iMov (.c (.int .i64 (.lit 0)))⟩])
 (cSeq (cSeq (cOps [⟨some 7, true, none, iMov (.t 1)⟩,
 ⟨some 8, true, none, iLenS (.t 7)⟩,
 ⟨some 9, true, none, iMov (.c (.int .i64 (.lit 0)))⟩])
 (cBlock 0 (cLoop (cSeq (cOps [⟨some 10, true, none, iCmp .lss (.t 9) (.t 8)⟩])
 (cSeq (cCond (.t 10) cSkip (cExit 0))
 (cSeq (cBlock 1 (cSeq (cOps [⟨some 11, false, none, iIaddr 1 (.t 7) (.t 9)⟩,
 ⟨some 12, false, none, iLoad (.t 11)⟩,
 ⟨some 6, true, none, iMov (.t 12)⟩])
 (cOps [⟨some 13, false, none, iMov (.t 0)⟩,
 ⟨some 14, false, none, iMov (.t 6)⟩,
 ⟨some 15, false, none, iMax [(.t 13), (.t 14)]⟩,
 ⟨some 0, true, none, iMov (.t 15)⟩])))
 (cOps [⟨some 16, false, none, iArith .add (.t 9) (.c (.int .i64 (.lit 1)))⟩,
 ⟨some 9, true, none, iMov (.t 16)⟩])))))))
 (cSeq (cOps [⟨some 17, false, none, iMov (.t 0)⟩,
 ⟨some 4, true, none, iMov (.t 17)⟩])
 cRet))), [.t 4]⟩
noncomputable def Tryd.kp41 : List Nat := [0, 1, 2, 3, 4, 6, 7, 8, 12, 13, 14, 21]
noncomputable def Tryd.cf41 : CF := ⟨3, (cSeq (cOps [⟨some 3, true, none, iBox 67 (.t 0)⟩,
 ⟨some 4, true, none, iBox 88 (.t 1)⟩,
 ⟨some 6, true, none, iMov (.c (.int .i64 (.lit 0)))⟩])
 (cSeq (cSeq (cOps [⟨some 9, false, none, iFaddr 0 (.t 3)⟩,
 ⟨some 10, false, none, iFaddr 12 (.t 9)⟩,
 ⟨some 11, false, none, iLoad (.t 10)⟩,
 ⟨some 12, true, none, iLenS (.t 11)⟩,
 ⟨some 13, true, none, iMov (.c (.int .i64 (.lit 0)))⟩])
 (cBlock 0 (cLoop (cSeq (cOps [⟨some 14, true, none, iCmp .lss (.t 13) (.t 12)⟩])
 (cSeq (cCond (.t 14) cSkip (cExit 0))
 (cSeq (cBlock 1 (cSeq (cOps [⟨some 15, false, none, iMov (.t 13)⟩,
 ⟨some 7, true, none, iMov (.t 15)⟩])
 (cSeq (cOps [⟨some 16, false, none, iLoadN 16 (.t 3)⟩,
 ⟨some 17, false, none, iMov (.t 7)⟩,
 ⟨some 18, false, none, iCall (.c (.func (.func 42) [] [])) [(.t 16), (.t 17)]⟩,
 ⟨some 8, true, none, iAlloc 88 [(.int .i64 (.lit 0)), (.int .i64 (.lit 0))]⟩,
 ⟨none, false, none, iStore 2 (.t 8) (.t 18)⟩])
 (cSeq (cSeq (cOps [⟨some 19, false, none, iLoadN 2 (.t 8)⟩,
 ⟨some 20, false, none, iLoadN 2 (.t 4)⟩,
 ⟨some 21, true, none, iEq false true 2 [(0, .int), (1, .int)] (.t 19) (.t 20)⟩])
 (cCond (.t 21) (cExit 0) cSkip))
 (cOps [⟨some 22, false, none, iMov (.t 6)⟩,
 ⟨some 23, false, none, iLoadN 16 (.t 3)⟩,
 ⟨some 24, false, none, iLoadN 2 (.t 8)⟩,
 ⟨some 25, false, none, iMov (.t 2)⟩,
 ⟨some 26, false, none, iCall (.c (.func (.func 46) [] [])) [(.t 23), (.t 24), (.t 25)]⟩,
 ⟨some 27, false, none, iArith .add (.t 22) (.t 26)⟩,
 ⟨some 6, true, none, iMov (.t 27)⟩])))))
 (cOps [⟨some 28, false, none, iArith .add (.t 13) (.c (.int .i64 (.lit 1)))⟩,
 ⟨some 13, true, none, iMov (.t 28)⟩])))))))
 (cSeq (cOps [⟨some 29, false, none, iMov (.t 6)⟩,
 ⟨some 6, true, none, iMov (.t 29)⟩])
 cRet))), [.t 6]⟩
noncomputable def Tryd.kp42 : List Nat := [0, 1, 2, 4]
noncomputable def Tryd.cf42 : CF := ⟨2, (cSeq (cOps [⟨some 2, true, none, iBox 67 (.t 0)⟩,
 ⟨some 4, true, none, iAlloc 88 [(.int .i64 (.lit 0)), (.int .i64 (.lit 0))]⟩])
 (cSeq (cOps [⟨some 5, false, none, iMov (.t 1)⟩,
 ⟨some 6, false, none, iFaddr 0 (.t 2)⟩,
 ⟨some 7, false, none, iFaddr 0 (.t 6)⟩,
 ⟨some 8, false, none, iFaddr 6 (.t 7)⟩,
 ⟨some 9, false, none, iLoad (.t 8)⟩,
 ⟨some 10, false, none, iBuild [(.int .i64 (.lit 0)), (.int .i64 (.lit 0))] [(0, 1, (.t 5)), (1, 1, (.t 9))]⟩,
 ⟨none, false, none, iStore 2 (.t 4) (.t 10)⟩])
 cRet)), [.cell 4 true 2]⟩
noncomputable def Tryd.kp43 : List Nat := [0, 1, 2, 3, 4]
noncomputable def Tryd.cf43 : CF := ⟨2, (cSeq (cOps [⟨some 2, true, none, iBox 67 (.t 0)⟩,
 ⟨some 3, true, none, iBox 24 (.t 1)⟩,
 ⟨some 4, true, none, iMov (.c (.int .i64 (.lit 0)))⟩])
 (cSeq (cOps [⟨some 5, false, none, iFaddr 14 (.t 2)⟩,
 ⟨some 6, false, none, iIaddrA 1 2 (.t 5) (.c (.int .i64 (.lit 0)))⟩,
 ⟨some 7, false, none, iLoad (.t 6)⟩,
 ⟨some 8, false, none, iLoadN 2 (.t 3)⟩,
 ⟨some 9, false, none, iCall (.t 7) [(.t 8)]⟩,
 ⟨some 10, false, none, iArith .mul (.c (.int .i64 (.lit 10))) (.t 9)⟩,
 ⟨some 4, true, none, iMov (.t 10)⟩])
 cRet)), [.t 4]⟩
noncomputable def Tryd.kp44 : List Nat := [0, 2]
noncomputable def Tryd.cf44 : CF := ⟨1, (cSeq (cOps [⟨some 2, true, none, iMov (.c (.int .i64 (.lit 0)))⟩])
 (cSeq (cOps [⟨some 3, false, none, iMov (.t 0)⟩,
 ⟨some 4, false, none, iArith .add (.t 3) (.c (.int .i64 (.lit 10)))⟩,
 ⟨some 5, false, none, iArith .sub (.t 4) (.c (.int .i64 (.lit 1)))⟩,
 ⟨some 6, false, none, iArith .quo (.t 5) (.c (.int .i64 (.lit 10)))⟩,
 ⟨some 2, true, none, iMov (.t 6)⟩])
 cRet)), [.t 2]⟩
noncomputable def Tryd.kp45 : List Nat := [0, 1, 2, 4, 5, 6, 9, 10, 11, 12]
noncomputable def Tryd.cf45 : CF := ⟨2, (cSeq (cOps [⟨some 2, true, none, iBox 67 (.t 0)⟩,
 ⟨some 4, true, none, iMov (.c (.int .i64 (.lit 0)))⟩])
 (cSeq (cSeq (cOps [⟨some 7, false, none, iLoadN 16 (.t 2)⟩,
 ⟨some 8, false, none, iMov (.t 1)⟩,
 ⟨some 9, true, none, iCall (.c (.func (.func 24) [] [])) [(.t 7), (.t 8)]⟩,
 ⟨some 10, true, none, iLenS (.t 9)⟩,
 ⟨some 11, true, none, iMov (.c (.int .i64 (.lit 0)))⟩])
 (cBlock 0 (cLoop (cSeq (cOps [⟨some 12, true, none, iCmp .lss (.t 11) (.t 10)⟩])
 (cSeq (cCond (.t 12) cSkip (cExit 0))
 (cSeq (cBlock 1 (cSeq (cOps [⟨some 13, false, none, iMov (.t 11)⟩,
 ⟨some 14, false, none, iIaddr 1 (.t 9) (.t 11)⟩,
 ⟨some 15, false, none, iLoad (.t 14)⟩,
 ⟨some 5, true, none, iMov (.t 13)⟩,
 ⟨some 6, true, none, iMov (.t 15)⟩])
 (dOps 0 [⟨⟨some 16, false, none, iMov (.t 4)⟩, [4], false, 0, 3, none, []⟩,
 ⟨⟨some 17, false, none, iMov (.t 6)⟩, [6], false, 0, 2, none, []⟩,
 ⟨⟨some 18, false, none, iLoadN 16 (.t 2)⟩, [2], false, 0, 1, none, []⟩,
 ⟨⟨some 19, false, none, iLoadN 16 (.t 2)⟩, [2], false, 0, 0, none, []⟩,
 ⟨⟨some 20, false, none, iMov (.t 5)⟩, [5], false, 0, 0, none, []⟩,
 ⟨⟨some 21, false, none, iCall (.c (.func (.func 42) [] [])) [(.t 19), (.t 20)]⟩, [19, 20], true, 0, 0, none, []⟩,
 ⟨⟨some 22, false, none, iCall (.c (.func (.func 41) [] [])) [(.t 18), (.t 21), (.c (.int .i64 (.lit 1)))]⟩, [18, 21], true, 1, 0, none, []⟩,
 ⟨⟨some 23, false, none, iArith .sub (.t 17) (.t 22)⟩, [17, 22], false, 2, 2, none, []⟩,
 ⟨⟨some 24, false, none, iBslice 3 [(.int .i64 (.lit 0))] 1 [(0, 1, (.t 23))]⟩, [23], true, 2, 0, none, []⟩,
 ⟨⟨some 25, false, none, iCall (.c (.func (.func 40) [] [])) [(.t 16), (.t 24)]⟩, [16, 24], true, 3, 0, none, []⟩,
 ⟨⟨some 4, true, none, iMov (.t 25)⟩, [25], false, 4, 4, none, []⟩])))
 (cOps [⟨some 26, false, none, iArith .add (.t 11) (.c (.int .i64 (.lit 1)))⟩,
 ⟨some 11, true, none, iMov (.t 26)⟩])))))))
 (cSeq (cOps [⟨some 27, false, none, iMov (.t 4)⟩,
 ⟨some 4, true, none, iMov (.t 27)⟩])
 cRet))), [.t 4]⟩
noncomputable def Tryd.kp46 : List Nat := [0, 1, 2, 3, 4, 6]
noncomputable def Tryd.cf46 : CF := ⟨3, (cSeq (cOps [⟨some 3, true, none, iBox 67 (.t 0)⟩,
 ⟨some 4, true, none, iBox 88 (.t 1)⟩,
 ⟨some 6, true, none, iMov (.c (.int .i64 (.lit 0)))⟩])
 (cSeq (dOps 0 [⟨⟨some 7, false, none, iMov (.t 2)⟩, [2], false, 0, 1, none, []⟩,
 ⟨⟨some 8, false, none, iFaddr 14 (.t 3)⟩, [3], false, 0, 1, none, []⟩,
 ⟨⟨some 9, false, none, iIaddrA 1 2 (.t 8) (.t 7)⟩, [8, 7], false, 0, 1, none, []⟩,
 ⟨⟨some 10, false, none, iLoad (.t 9)⟩, [9], false, 0, 1, none, []⟩,
 ⟨⟨some 11, false, none, iFaddr 0 (.t 3)⟩, [3], false, 0, 0, none, []⟩,
 ⟨⟨some 12, false, none, iLoadN 14 (.t 11)⟩, [11], false, 0, 0, none, []⟩,
 ⟨⟨some 13, false, none, iLoadN 2 (.t 4)⟩, [4], false, 0, 0, none, []⟩,
 ⟨⟨some 14, false, none, iCall (.c (.func (.func 55) [] [])) [(.t 12), (.t 13)]⟩, [12, 13], true, 0, 0, none, []⟩,
 ⟨⟨some 15, false, none, iMov (.t 2)⟩, [2], false, 0, 1, none, []⟩,
 ⟨⟨some 16, false, none, iIndex true 2 2 (.t 14) (.t 15)⟩, [14, 15], false, 1, 1, none, []⟩,
 ⟨⟨some 17, false, none, iCall (.t 10) [(.t 16)]⟩, [10, 16], true, 1, 0, none, []⟩,
 ⟨⟨some 6, true, none, iMov (.t 17)⟩, [17], false, 2, 2, none, []⟩])
 cRet)), [.t 6]⟩
noncomputable def Tryd.kp47 : List Nat := [0, 1, 2]
noncomputable def Tryd.cf47 : CF := ⟨1, (cSeq (cOps [⟨some 1, true, none, iBox 59 (.t 0)⟩,
 ⟨some 2, true, none, iMov (.c .nilFunc)⟩])
 (cSeq (cOps [⟨some 3, false, none, iFunc (.func 56) [] [(.t 1)]⟩,
 ⟨some 2, true, none, iMov (.t 3)⟩])
 cRet)), [.t 2]⟩
noncomputable def Tryd.kp48 : List Nat := [0, 2, 4]
noncomputable def Tryd.cf48 : CF := ⟨1, (cSeq (cOps [⟨some 2, true, none, iMov (.c .nilslice)⟩])
 (cSeq (cSeq (cOps [⟨some 3, false, none, iMov (.t 0)⟩,
 ⟨some 4, true, none, iEq false false 1 [(0, .nilS)] (.t 3) (.c .nilslice)⟩])
 (cCond (.t 4) (cSeq (cOps [⟨some 2, true, none, iMov (.c .nilslice)⟩])
 cRet) cSkip))
 (cSeq (cOps [⟨some 5, false, none, iBslice 3 [(.int .i64 (.lit 0))] 0 []⟩,
 ⟨some 6, false, none, iMov (.t 0)⟩,
 ⟨some 7, false, none, iAppend 3 1 8 (.t 5) (.t 6)⟩,
 ⟨some 2, true, none, iMov (.t 7)⟩])
 cRet))), [.t 2]⟩
noncomputable def Tryd.kp49 : List Nat := [0, 1, 2, 3, 4]
noncomputable def Tryd.cf49 : CF := ⟨2, (cSeq (cOps [⟨some 2, true, none, iBox 93 (.t 0)⟩,
 ⟨some 3, true, none, iBox 93 (.t 1)⟩,
 ⟨some 4, true, none, iMov (.c (.bool (.lit false)))⟩])
 (cSeq (dOps 0 [⟨⟨some 5, false, none, iFaddr 0 (.t 2)⟩, [2], false, 0, 0, none, []⟩,
 ⟨⟨some 6, false, none, iLoad (.t 5)⟩, [5], false, 0, 0, none, []⟩,
 ⟨⟨some 7, false, none, iCall (.c (.func (.func 50) [] [])) [(.t 6)]⟩, [6], true, 0, 0, none, []⟩,
 ⟨⟨some 8, false, none, iFaddr 0 (.t 3)⟩, [3], false, 0, 1, none, []⟩,
 ⟨⟨some 9, false, none, iLoad (.t 8)⟩, [8], false, 0, 1, none, []⟩,
 ⟨⟨some 10, false, none, iCall (.c (.func (.func 50) [] [])) [(.t 9)]⟩, [9], true, 1, 0, none, []⟩,
 ⟨⟨some 11, false, none, iCmp .lss (.t 7) (.t 10)⟩, [7, 10], false, 2, 2, none, []⟩,
 ⟨⟨some 4, true, none, iMov (.t 11)⟩, [11], false, 2, 2, none, []⟩])
 cRet)), [.t 4]⟩
noncomputable def Tryd.kp50 : List Nat := [0, 2]
noncomputable def Tryd.cf50 : CF := ⟨1, (cSeq (cOps [⟨some 2, true, none, iMov (.c (.int .i64 (.lit 0)))⟩])
 (cSeq (cOps [⟨some 3, false, none, iMov (.t 0)⟩,
 ⟨some 4, false, none, iCall (.c (.func (.func 40) [] [])) [(.c (.int .i64 (.lit 1))), (.t 3)]⟩,
 ⟨some 2, true, none, iMov (.t 4)⟩])
 cRet)), [.t 2]⟩
noncomputable def Tryd.kp51 : List Nat := [0, 1, 2, 3, 4, 8]
noncomputable def Tryd.cf51 : CF := ⟨1, (cSeq (cOps [⟨some 1, true, none, iBox 26 (.t 0)⟩,
 ⟨some 2, true, none, iAlloc 99 [.nilslice, (.int .i64 (.lit 0)), (.int .i64 (.lit 0)), (.int .i64 (.lit 0)), (.int .i64 (.lit 0)), (.int .i64 (.lit 0)), .nilmap]⟩,
 ⟨some 3, true, none, iMov (.c (.int .i64 (.lit 0)))⟩])
 (cSeq (cSeq (cOps [⟨some 5, false, none, iLoadN 6 (.t 1)⟩,
 ⟨some 6, false, none, iCall (.c (.func (.func 58) [] [])) [(.t 5)]⟩,
 ⟨some 4, true, none, iMov (.t 6)⟩])
 (cSeq (cOps [⟨some 7, false, none, iMov (.t 4)⟩,
 ⟨some 8, true, none, iCmp .neq (.t 7) (.c (.int .i64 (.lit 0)))⟩])
 (cCond (.t 8) (cSeq (cOps [⟨some 9, false, none, iBuild [.nilslice, (.int .i64 (.lit 0)), (.int .i64 (.lit 0)), (.int .i64 (.lit 0)), (.int .i64 (.lit 0)), (.int .i64 (.lit 0)), .nilmap] []⟩,
 ⟨some 10, false, none, iMov (.t 4)⟩,
 ⟨none, false, none, iStore 7 (.t 2) (.t 9)⟩,
 ⟨some 3, true, none, iMov (.t 10)⟩])
 cRet) cSkip)))
 (cSeq (cOps [⟨some 11, false, none, iLoadN 6 (.t 1)⟩,
 ⟨some 12, false, none, iMkmap⟩,
 ⟨some 13, false, none, iBuild [.nilslice, (.int .i64 (.lit 0)), (.int .i64 (.lit 0)), (.int .i64 (.lit 0)), (.int .i64 (.lit 0)), (.int .i64 (.lit 0)), .nilmap] [(0, 6, (.t 11)), (6, 1, (.t 12))]⟩,
 ⟨none, false, none, iStore 7 (.t 2) (.t 13)⟩,
 ⟨some 3, true, none, iMov (.c (.int .i64 (.lit 0)))⟩])
 cRet))), [.cell 2 true 7, .t 3]⟩
noncomputable def Tryd.kp52 : List Nat := [0, 1, 2]
noncomputable def Tryd.cf52 : CF := ⟨1, (cSeq (cOps [⟨some 1, true, none, iBox 99 (.t 0)⟩,
 ⟨some 2, true, none, iMov (.c .nilFunc)⟩])
 (cSeq (dOps 0 [⟨⟨some 3, false, none, iLoadN 7 (.t 1)⟩, [1], false, 0, 0, none, []⟩,
 ⟨⟨some 4, false, none, iCall (.c (.func (.func 60) [] [])) [(.t 3), (.c .nilslice)]⟩, [3], true, 0, 0, none, []⟩,
 ⟨⟨some 5, false, none, iLoadN 7 (.t 1)⟩, [1], false, 0, 1, none, []⟩,
 ⟨⟨some 6, false, none, iFunc (.func 61) [(.t 5)] []⟩, [5], false, 0, 1, none, []⟩,
 ⟨⟨some 7, false, none, iCall (.c (.func (.func 59) [] [])) [(.t 4), (.t 6)]⟩, [4, 6], true, 1, 0, none, []⟩,
 ⟨⟨some 2, true, none, iMov (.t 7)⟩, [7], false, 2, 2, none, []⟩])
 cRet)), [.t 2]⟩
noncomputable def Tryd.kp53 : List Nat := [0, 1, 3, 4]
noncomputable def Tryd.cf53 : CF := ⟨2, (cSeq (cOps [⟨some 3, true, none, iBox 24 (.t 1)⟩,
 ⟨some 4, true, none, iMov (.c (.bool (.lit false)))⟩])
 (cSeq (cOps [⟨some 5, false, none, iFaddr 0 (.t 3)⟩,
 ⟨some 6, false, none, iLoad (.t 5)⟩,
 ⟨some 7, false, none, iMov (.t 0)⟩,
 ⟨some 8, false, none, iCmp .leq (.t 6) (.t 7)⟩,
 ⟨some 9, false, none, iMov (.t 8)⟩,
 ⟨some 10, false, some (9, true), iMov (.t 0)⟩,
 ⟨some 11, false, some (9, true), iFaddr 1 (.t 3)⟩,
 ⟨some 12, false, some (9, true), iLoad (.t 11)⟩,
 ⟨some 13, false, some (9, true), iCmp .leq (.t 10) (.t 12)⟩,
 ⟨some 14, false, none, iPick (.t 9) (.t 13) (.c (.bool (.lit false)))⟩,
 ⟨some 4, true, none, iMov (.t 14)⟩])
 cRet)), [.t 4]⟩
noncomputable def Tryd.kp54 : List Nat := [0, 1, 2, 3, 4]
noncomputable def Tryd.cf54 : CF := ⟨2, (cSeq (cOps [⟨some 2, true, none, iBox 24 (.t 0)⟩,
 ⟨some 3, true, none, iBox 24 (.t 1)⟩,
 ⟨some 4, true, none, iMov (.c (.bool (.lit false)))⟩])
 (cSeq (cOps [⟨some 5, false, none, iFaddr 0 (.t 3)⟩,
 ⟨some 6, false, none, iLoad (.t 5)⟩,
 ⟨some 7, false, none, iFaddr 0 (.t 2)⟩,
 ⟨some 8, false, none, iLoad (.t 7)⟩,
 ⟨some 9, false, none, iCmp .leq (.t 6) (.t 8)⟩,
 ⟨some 10, false, none, iMov (.t 9)⟩,
 ⟨some 11, false, some (10, true), iFaddr 0 (.t 2)⟩,
 ⟨some 12, false, some (10, true), iLoad (.t 11)⟩,
 ⟨some 13, false, some (10, true), iFaddr 1 (.t 2)⟩,
 ⟨some 14, false, some (10, true), iLoad (.t 13)⟩,
 ⟨some 15, false, some (10, true), iCmp .leq (.t 12) (.t 14)⟩,
 ⟨some 16, false, none, iPick (.t 10) (.t 15) (.c (.bool (.lit false)))⟩,
 ⟨some 17, false, none, iMov (.t 16)⟩,
 ⟨some 18, false, some (17, true), iFaddr 1 (.t 2)⟩,
 ⟨some 19, false, some (17, true), iLoad (.t 18)⟩,
 ⟨some 20, false, some (17, true), iFaddr 1 (.t 3)⟩,
 ⟨some 21, false, some (17, true), iLoad (.t 20)⟩,
 ⟨some 22, false, some (17, true), iCmp .leq (.t 19) (.t 21)⟩,
 ⟨some 23, false, none, iPick (.t 17) (.t 22) (.c (.bool (.lit false)))⟩,
 ⟨some 4, true, none, iMov (.t 23)⟩])
 cRet)), [.t 4]⟩
noncomputable def Tryd.kp55 : List Nat := [0, 1, 2, 3, 4, 5, 6, 13, 15, 16]
noncomputable def Tryd.cf55 : CF := ⟨2, (cSeq (cOps [⟨some 2, true, none, iBox 59 (.t 0)⟩,
 ⟨some 3, true, none, iBox 88 (.t 1)⟩,
 ⟨some 4, true, none, iAlloc 106 [(.int .i64 (.lit 0)), (.int .i64 (.lit 0)), (.int .i64 (.lit 0)), (.int .i64 (.lit 0))]⟩])
 (cSeq (cOps [⟨some 7, false, none, iFaddr 13 (.t 2)⟩,
 ⟨some 8, false, none, iLoad (.t 7)⟩,
 ⟨some 9, false, none, iLoadN 2 (.t 3)⟩,
 ⟨some 10, false, none, iLookup (.agg [(.int .i64 (.lit 0)), (.int .i64 (.lit 0)), (.int .i64 (.lit 0)), (.int .i64 (.lit 0))]) true 2 [(0, .int), (1, .int)] false (.t 8) (.t 9)⟩,
 ⟨some 5, true, none, iAlloc 106 [(.int .i64 (.lit 0)), (.int .i64 (.lit 0)), (.int .i64 (.lit 0)), (.int .i64 (.lit 0))]⟩,
 ⟨none, false, none, iStore 4 (.t 5) (.t 10)⟩])
 (cSeq (cSeq (cOps [⟨some 11, false, none, iLoadN 4 (.t 5)⟩,
 ⟨some 12, false, none, iBuild [(.int .i64 (.lit 0)), (.int .i64 (.lit 0)), (.int .i64 (.lit 0)), (.int .i64 (.lit 0))] []⟩,
 ⟨some 13, true, none, iEq true true 4 [(0, .int), (1, .int), (2, .int), (3, .int)] (.t 11) (.t 12)⟩])
 (cCond (.t 13) (cSeq (cOps [⟨some 14, false, none, iLoadN 4 (.t 5)⟩,
 ⟨none, false, none, iStore 4 (.t 4) (.t 14)⟩])
 cRet) cSkip))
 (cSeq (cSeq (cOps [⟨some 15, true, none, iMov (.c (.int .i64 (.lit 0)))⟩])
 (cBlock 0 (cLoop (cSeq (cOps [⟨some 16, true, none, iCmp .lss (.t 15) (.c (.int .i64 (.lit 2)))⟩])
 (cSeq (cCond (.t 16) cSkip (cExit 0))
 (cSeq (cBlock 1 (cSeq (cOps [⟨some 17, false, none, iMov (.t 15)⟩,
 ⟨some 6, true, none, iMov (.t 17)⟩])
 (dOps 0 [⟨⟨some 19, false, none, iMov (.t 6)⟩, [6], false, 0, 1, none, []⟩,
 ⟨⟨some 20, false, none, iFaddr 0 (.t 2)⟩, [2], false, 0, 0, none, []⟩,
 ⟨⟨some 21, false, none, iFaddr 0 (.t 20)⟩, [20], false, 0, 0, none, []⟩,
 ⟨⟨some 22, false, none, iLoadN 6 (.t 21)⟩, [21], false, 0, 0, none, []⟩,
 ⟨⟨some 23, false, none, iFaddr 12 (.t 2)⟩, [2], false, 0, 0, none, []⟩,
 ⟨⟨some 24, false, none, iLoad (.t 23)⟩, [23], false, 0, 0, none, []⟩,
 ⟨⟨some 25, false, none, iFaddr 0 (.t 3)⟩, [3], false, 0, 0, none, []⟩,
 ⟨⟨some 26, false, none, iLoad (.t 25)⟩, [25], false, 0, 0, none, []⟩,
 ⟨⟨some 27, false, none, iFaddr 0 (.t 3)⟩, [3], false, 0, 0, none, []⟩,
 ⟨⟨some 28, false, none, iLoad (.t 27)⟩, [27], false, 0, 0, none, []⟩,
 ⟨⟨some 29, false, none, iArith .add (.t 28) (.c (.int .i64 (.lit 1)))⟩, [28], false, 0, 0, none, []⟩,
 ⟨⟨some 30, false, none, iFaddr 0 (.t 3)⟩, [3], false, 0, 0, none, []⟩,
 ⟨⟨some 31, false, none, iLoad (.t 30)⟩, [30], false, 0, 0, none, []⟩,
 ⟨⟨some 32, false, none, iArith .add (.t 31) (.c (.int .i64 (.lit 1)))⟩, [31], false, 0, 0, none, []⟩,
 ⟨⟨some 33, false, none, iSlice 1 (.t 24) (some (.t 26)) (some (.t 29)) (some (.t 32))⟩, [24, 26, 29, 32], false, 0, 0, none, []⟩,
 ⟨⟨some 34, false, none, iFaddr 1 (.t 3)⟩, [3], false, 0, 0, none, []⟩,
 ⟨⟨some 35, false, none, iLoad (.t 34)⟩, [34], false, 0, 0, none, []⟩,
 ⟨⟨some 36, false, none, iMov (.t 6)⟩, [6], false, 0, 0, none, []⟩,
 ⟨⟨some 37, false, none, iArith .add (.t 35) (.t 36)⟩, [35, 36], false, 0, 0, none, []⟩,
 ⟨⟨some 38, false, none, iCall (.c (.func (.func 62) [] [])) [(.t 22), (.t 33), (.t 37)]⟩, [22, 33, 37], true, 0, 0, none, []⟩,
 ⟨⟨some 18, false, none, iMov (.t 38)⟩, [38], false, 1, 1, none, []⟩,
 ⟨⟨some 39, false, none, iExtract 0 (.t 18)⟩, [18], false, 1, 1, none, []⟩,
 ⟨⟨some 40, false, none, iExtract 1 (.t 18)⟩, [18], false, 1, 2, none, []⟩,
 ⟨⟨some 41, false, none, iIaddrA 2 2 (.t 5) (.t 19)⟩, [5, 19], false, 1, 1, none, []⟩,
 ⟨⟨none, false, none, iStore 2 (.t 41) (.t 39)⟩, [41, 39], true, 1, 0, none, []⟩])))
 (cOps [⟨some 42, false, none, iArith .add (.t 15) (.c (.int .i64 (.lit 1)))⟩,
 ⟨some 15, true, none, iMov (.t 42)⟩])))))))
 (cSeq (cOps [⟨some 43, false, none, iFaddr 13 (.t 2)⟩,
 ⟨some 44, false, none, iLoad (.t 43)⟩,
 ⟨some 45, false, none, iLoadN 2 (.t 3)⟩,
 ⟨some 46, false, none, iLoadN 4 (.t 5)⟩,
 ⟨none, false, none, iMapset true 2 [(0, .int), (1, .int)] (.t 44) (.t 45) (.t 46)⟩])
 (cSeq (cOps [⟨some 47, false, none, iLoadN 4 (.t 5)⟩,
 ⟨none, false, none, iStore 4 (.t 4) (.t 47)⟩])
 cRet)))))), [.cell 4 true 4]⟩
noncomputable def Tryd.kp56 : List Nat := [0, 1, 2, 3, 4]
noncomputable def Tryd.cf56 : CF := ⟨2, (cSeq (cOps [⟨some 2, true, none, iBox 62 (.t 0)⟩])
 (cSeq (cOps [⟨some 3, true, none, iAlloc 108 [(.int .i64 (.lit 0)), (.int .i64 (.lit 0)), (.int .i64 (.lit 0)), (.int .i64 (.lit 0)), (.int .i64 (.lit 0)), (.int .i64 (.lit 0))]⟩])
 (cSeq (cOps [⟨some 4, true, none, iAlloc 109 [.nilFunc]⟩])
 (cSeq (cOps [⟨some 5, false, none, iFunc (.func 57) [] [(.t 2), (.t 3), (.t 1), (.t 4)]⟩,
 ⟨none, false, none, iStore 1 (.t 4) (.t 5)⟩])
 (cOps [⟨some 6, false, none, iLoad (.t 4)⟩,
 ⟨some 7, false, none, iFaddr 12 (.t 1)⟩,
 ⟨some 8, false, none, iLoad (.t 7)⟩,
 ⟨some 9, false, none, iLenS (.t 8)⟩,
 ⟨some 10, false, none, iCall (.t 6) [(.c (.int .i64 (.lit 0))), (.t 9)]⟩]))))), []⟩
noncomputable def Tryd.kp57 : List Nat := [0, 1, 2, 3, 4, 5, 8, 9, 11, 21, 26, 37]
noncomputable def Tryd.cf57 : CF := ⟨6, (cSeq (cOps [⟨some 8, true, none, iMov (.c (.bool (.lit false)))⟩])
 (cSeq (cSeq (cOps [⟨some 10, false, none, iMov (.t 1)⟩,
 ⟨some 11, true, none, iCmp .eql (.t 10) (.c (.int .i64 (.lit 0)))⟩])
 (cCond (.t 11) (cSeq (dOps 0 [⟨⟨some 12, false, none, iLoad (.t 2)⟩, [2], false, 0, 0, none, []⟩,
 ⟨⟨some 13, false, none, iMov (.t 0)⟩, [0], false, 0, 0, none, []⟩,
 ⟨⟨some 14, false, none, iMov (.t 0)⟩, [0], false, 0, 0, none, []⟩,
 ⟨⟨some 15, false, none, iSliceA 1 6 (.t 3) none (some (.t 13)) (some (.t 14))⟩, [3, 13, 14], false, 0, 0, none, []⟩,
 ⟨⟨some 16, false, none, iCall (.t 12) [(.t 15)]⟩, [12, 15], true, 0, 0, none, []⟩,
 ⟨⟨some 8, true, none, iMov (.t 16)⟩, [16], false, 1, 1, none, []⟩])
 cRet) cSkip))
 (cSeq cSkip
 (cSeq (cSeq (cOps [⟨some 9, true, none, iMov (.c (.int .i64 (.lit 1)))⟩])
 (cBlock 0 (cLoop (cSeq (cSeq (cOps [⟨some 17, false, none, iMov (.t 9)⟩,
 ⟨some 18, false, none, iFaddr 0 (.t 4)⟩,
 ⟨some 19, false, none, iFaddr 11 (.t 18)⟩,
 ⟨some 20, false, none, iLoad (.t 19)⟩,
 ⟨some 21, true, none, iCmp .leq (.t 17) (.t 20)⟩])
 (cCond (.t 21) cSkip (cExit 0)))
 (cSeq (cBlock 1 (cSeq (cSeq (cOps [⟨some 24, false, none, iMov (.t 9)⟩,
 ⟨some 25, false, none, iMov (.t 1)⟩,
 ⟨some 26, true, none, iCmp .gtr (.t 24) (.t 25)⟩])
 (cCond (.t 26) (cExit 0) cSkip))
 (cSeq (cOps [⟨some 27, false, none, iMov (.t 0)⟩,
 ⟨some 28, false, none, iMov (.t 9)⟩,
 ⟨some 29, false, none, iIaddrA 1 6 (.t 3) (.t 27)⟩,
 ⟨none, false, none, iStore 1 (.t 29) (.t 28)⟩])
 (cSeq (cOps [⟨some 30, false, none, iLoad (.t 5)⟩,
 ⟨some 31, false, none, iMov (.t 0)⟩,
 ⟨some 32, false, none, iArith .add (.t 31) (.c (.int .i64 (.lit 1)))⟩,
 ⟨some 33, false, none, iMov (.t 1)⟩,
 ⟨some 34, false, none, iMov (.t 9)⟩,
 ⟨some 35, false, none, iArith .sub (.t 33) (.t 34)⟩,
 ⟨some 36, false, none, iCall (.t 30) [(.t 32), (.t 35)]⟩,
 ⟨some 37, true, none, iNot (.t 36)⟩])
 (cCond (.t 37) (cSeq (cOps [⟨some 8, true, none, iMov (.c (.bool (.lit false)))⟩])
 cRet) cSkip)))))
 (cOps [⟨some 22, false, none, iMov (.t 9)⟩,
 ⟨some 23, false, none, iArith .add (.t 22) (.c (.int .i64 (.lit 1)))⟩,
 ⟨some 9, true, none, iMov (.t 23)⟩]))))))
 (cSeq (cOps [⟨some 8, true, none, iMov (.c (.bool (.lit true)))⟩])
 cRet))))), [.t 8]⟩
noncomputable def Tryd.kp58 : List Nat := [0, 1, 2, 5]
noncomputable def Tryd.cf58 : CF := ⟨1, (cSeq (cOps [⟨some 1, true, none, iBox 26 (.t 0)⟩,
 ⟨some 2, true, none, iMov (.c (.int .i64 (.lit 0)))⟩])
 (cSeq (cSeq (cOps [⟨some 3, false, none, iLoadN 6 (.t 1)⟩,
 ⟨some 4, false, none, iCall (.c (.func (.func 63) [] [])) [(.t 3)]⟩,
 ⟨some 5, true, none, iNot (.t 4)⟩])
 (cCond (.t 5) (cSeq (cOps [⟨some 2, true, none, iMov (.c (.int .i64 (.lit 10)))⟩])
 cRet) cSkip))
 (cSeq (cOps [⟨some 2, true, none, iMov (.c (.int .i64 (.lit 0)))⟩])
 cRet))), [.t 2]⟩
noncomputable def Tryd.kp59 : List Nat := [0, 1, 2, 3, 4]
noncomputable def Tryd.cf59 : CF := ⟨2, (cSeq (cOps [⟨some 2, true, none, iBox 113 (.t 0)⟩,
 ⟨some 3, true, none, iBox 115 (.t 1)⟩,
 ⟨some 4, true, none, iMov (.c .nilFunc)⟩])
 (cSeq (cOps [⟨some 5, false, none, iFunc (.func 64) [] [(.t 3), (.t 2)]⟩,
 ⟨some 4, true, none, iMov (.t 5)⟩])
 cRet)), [.t 4]⟩
noncomputable def Tryd.kp60 : List Nat := [0, 1, 2, 4, 5, 6, 10, 11, 12]
noncomputable def Tryd.cf60 : CF := ⟨2, (cSeq (cOps [⟨some 2, true, none, iBox 99 (.t 0)⟩,
 ⟨some 4, true, none, iAlloc 113 [(.bool (.lit false)), (.bool (.lit false)), (.bool (.lit false)), (.bool (.lit false)), (.bool (.lit false)), (.bool (.lit false))]⟩])
 (cSeq (cOps [⟨some 5, true, none, iAlloc 113 [(.bool (.lit false)), (.bool (.lit false)), (.bool (.lit false)), (.bool (.lit false)), (.bool (.lit false)), (.bool (.lit false))]⟩])
 (cSeq (cSeq (cOps [⟨some 7, false, none, iFaddr 0 (.t 2)⟩,
 ⟨some 8, false, none, iFaddr 0 (.t 7)⟩,
 ⟨some 9, false, none, iLoad (.t 8)⟩,
 ⟨some 10, true, none, iLenS (.t 9)⟩,
 ⟨some 11, true, none, iMov (.c (.int .i64 (.lit 0)))⟩])
 (cBlock 0 (cLoop (cSeq (cOps [⟨some 12, true, none, iCmp .lss (.t 11) (.t 10)⟩])
 (cSeq (cCond (.t 12) cSkip (cExit 0))
 (cSeq (cBlock 1 (cSeq (cOps [⟨some 13, false, none, iMov (.t 11)⟩,
 ⟨some 6, true, none, iMov (.t 13)⟩])
 (cOps [⟨some 14, false, none, iMov (.t 6)⟩,
 ⟨some 15, false, none, iMov (.t 1)⟩,
 ⟨some 16, false, none, iMov (.t 6)⟩,
 ⟨some 17, false, none, iCall (.c (.func (.func 67) [] [])) [(.t 15), (.t 16)]⟩,
 ⟨some 18, false, none, iNot (.t 17)⟩,
 ⟨some 19, false, none, iIaddrA 1 6 (.t 5) (.t 14)⟩,
 ⟨none, false, none, iStore 1 (.t 19) (.t 18)⟩])))
 (cOps [⟨some 20, false, none, iArith .add (.t 11) (.c (.int .i64 (.lit 1)))⟩,
 ⟨some 11, true, none, iMov (.t 20)⟩])))))))
 (cSeq (cOps [⟨some 21, false, none, iLoadN 6 (.t 5)⟩,
 ⟨none, false, none, iStore 6 (.t 4) (.t 21)⟩])
 cRet)))), [.cell 4 true 6]⟩
noncomputable def Tryd.kp61 : List Nat := [0, 1, 2, 3, 4, 5, 6, 7, 8, 9, 10, 18, 54]
noncomputable def Tryd.cf61 : CF := ⟨2, (cSeq (cOps [⟨some 2, true, none, iBox 99 (.t 0)⟩,
 ⟨some 3, true, none, iBox 122 (.t 1)⟩,
 ⟨some 4, true, none, iAlloc 120 [(.int .i64 (.lit 0)), (.int .i64 (.lit 0))]⟩])
 (cSeq (cSeq (cOps [⟨some 12, false, none, iFaddr 6 (.t 2)⟩,
 ⟨some 13, false, none, iLoad (.t 12)⟩,
 ⟨some 14, false, none, iLoadN 3 (.t 3)⟩,
 ⟨some 15, false, none, iLookup (.agg [(.int .i64 (.lit 0)), (.int .i64 (.lit 0))]) true 3 [(0, .int), (1, .int), (2, .int)] true (.t 13) (.t 14)⟩,
 ⟨some 11, false, none, iMov (.t 15)⟩,
 ⟨some 16, false, none, iExtract 0 (.t 11)⟩,
 ⟨some 17, false, none, iExtract 1 (.t 11)⟩,
 ⟨some 5, true, none, iAlloc 120 [(.int .i64 (.lit 0)), (.int .i64 (.lit 0))]⟩,
 ⟨none, false, none, iStore 2 (.t 5) (.t 16)⟩,
 ⟨some 6, true, none, iMov (.t 17)⟩])
 (cSeq (cOps [⟨some 18, true, none, iMov (.t 6)⟩])
 (cCond (.t 18) (cSeq (cOps [⟨some 19, false, none, iLoadN 2 (.t 5)⟩,
 ⟨none, false, none, iStore 2 (.t 4) (.t 19)⟩])
 cRet) cSkip)))
 (cSeq (cOps [⟨some 20, false, none, iFaddr 0 (.t 2)⟩,
 ⟨some 21, false, none, iFaddr 0 (.t 20)⟩,
 ⟨some 22, false, none, iLoad (.t 21)⟩,
 ⟨some 23, false, none, iFaddr 0 (.t 3)⟩,
 ⟨some 24, false, none, iLoad (.t 23)⟩,
 ⟨some 25, false, none, iIaddr 6 (.t 22) (.t 24)⟩,
 ⟨some 26, false, none, iLoadN 6 (.t 25)⟩,
 ⟨some 7, true, none, iAlloc 34 [(.int .i64 (.lit 0)), (.int .i64 (.lit 0)), (.int .i64 (.lit 0)), (.int .i64 (.lit 0)), (.int .i64 (.lit 0)), (.int .i64 (.lit 0))]⟩,
 ⟨none, false, none, iStore 6 (.t 7) (.t 26)⟩])
 (cSeq (cOps [⟨some 27, false, none, iFaddr 1 (.t 3)⟩,
 ⟨some 28, false, none, iFaddr 0 (.t 27)⟩,
 ⟨some 29, false, none, iLoad (.t 28)⟩,
 ⟨some 30, false, none, iFaddr 0 (.t 7)⟩,
 ⟨some 31, false, none, iFaddr 0 (.t 30)⟩,
 ⟨some 32, false, none, iLoad (.t 31)⟩,
 ⟨some 33, false, none, iMax [(.t 29), (.t 32)]⟩,
 ⟨some 8, true, none, iMov (.t 33)⟩])
 (cSeq (cOps [⟨some 34, false, none, iMov (.t 8)⟩,
 ⟨some 35, false, none, iFaddr 2 (.t 7)⟩,
 ⟨some 36, false, none, iFaddr 0 (.t 35)⟩,
 ⟨some 37, false, none, iLoad (.t 36)⟩,
 ⟨some 38, false, none, iMax [(.t 34), (.t 37)]⟩,
 ⟨some 9, true, none, iMov (.t 38)⟩])
 (cSeq (cOps [⟨some 10, true, none, iAlloc 120 [(.int .i64 (.lit 0)), (.int .i64 (.lit 0))]⟩])
 (cSeq (cSeq (cOps [⟨some 39, false, none, iMov (.t 8)⟩,
 ⟨some 40, false, none, iFaddr 1 (.t 3)⟩,
 ⟨some 41, false, none, iFaddr 1 (.t 40)⟩,
 ⟨some 42, false, none, iLoad (.t 41)⟩,
 ⟨some 43, false, none, iFaddr 0 (.t 7)⟩,
 ⟨some 44, false, none, iFaddr 1 (.t 43)⟩,
 ⟨some 45, false, none, iLoad (.t 44)⟩,
 ⟨some 46, false, none, iMin [(.t 42), (.t 45)]⟩,
 ⟨some 47, false, none, iCmp .leq (.t 39) (.t 46)⟩,
 ⟨some 48, false, none, iMov (.t 47)⟩,
 ⟨some 49, false, some (48, true), iMov (.t 9)⟩,
 ⟨some 50, false, some (48, true), iFaddr 2 (.t 7)⟩,
 ⟨some 51, false, some (48, true), iFaddr 1 (.t 50)⟩,
 ⟨some 52, false, some (48, true), iLoad (.t 51)⟩,
 ⟨some 53, false, some (48, true), iCmp .leq (.t 49) (.t 52)⟩,
 ⟨some 54, true, none, iPick (.t 48) (.t 53) (.c (.bool (.lit false)))⟩])
 (cCond (.t 54) (cOps [⟨some 55, false, none, iMov (.t 9)⟩,
 ⟨some 56, false, none, iFaddr 2 (.t 7)⟩,
 ⟨some 57, false, none, iFaddr 1 (.t 56)⟩,
 ⟨some 58, false, none, iLoad (.t 57)⟩,
 ⟨some 59, false, none, iArith .add (.t 58) (.c (.int .i64 (.lit 1)))⟩,
 ⟨some 60, false, none, iBuild [(.int .i64 (.lit 0)), (.int .i64 (.lit 0))] [(0, 1, (.t 55)), (1, 1, (.t 59))]⟩,
 ⟨none, false, none, iStore 2 (.t 10) (.t 60)⟩]) cSkip))
 (cSeq (cOps [⟨some 61, false, none, iFaddr 6 (.t 2)⟩,
 ⟨some 62, false, none, iLoad (.t 61)⟩,
 ⟨some 63, false, none, iLoadN 3 (.t 3)⟩,
 ⟨some 64, false, none, iLoadN 2 (.t 10)⟩,
 ⟨none, false, none, iMapset true 3 [(0, .int), (1, .int), (2, .int)] (.t 62) (.t 63) (.t 64)⟩])
 (cSeq (cOps [⟨some 65, false, none, iLoadN 2 (.t 10)⟩,
 ⟨none, false, none, iStore 2 (.t 4) (.t 65)⟩])
 cRet))))))))), [.cell 4 true 2]⟩
noncomputable def Tryd.kp62 : List Nat := [0, 1, 2, 3, 6, 7, 8, 9, 16, 27]
noncomputable def Tryd.cf62 : CF := ⟨3, (cSeq (cOps [⟨some 3, true, none, iBox 26 (.t 0)⟩,
 ⟨some 6, true, none, iAlloc 24 [(.int .i64 (.lit 0)), (.int .i64 (.lit 0))]⟩,
 ⟨some 7, true, none, iMov (.c (.int .i64 (.lit 0)))⟩])
 (cSeq (cOps [⟨some 11, false, none, iLoadN 6 (.t 3)⟩,
 ⟨some 12, false, none, iCall (.c (.func (.func 51) [] [])) [(.t 11)]⟩,
 ⟨some 10, false, none, iMov (.t 12)⟩,
 ⟨some 13, false, none, iExtract 0 (.t 10)⟩,
 ⟨some 14, false, none, iExtract 1 (.t 10)⟩,
 ⟨some 8, true, none, iAlloc 99 [.nilslice, (.int .i64 (.lit 0)), (.int .i64 (.lit 0)), (.int .i64 (.lit 0)), (.int .i64 (.lit 0)), (.int .i64 (.lit 0)), .nilmap]⟩,
 ⟨none, false, none, iStore 7 (.t 8) (.t 13)⟩,
 ⟨some 9, true, none, iMov (.t 14)⟩])
 (cSeq (cSeq (cOps [⟨some 15, false, none, iMov (.t 9)⟩,
 ⟨some 16, true, none, iCmp .neq (.t 15) (.c (.int .i64 (.lit 0)))⟩])
 (cCond (.t 16) (cSeq (cOps [⟨some 17, false, none, iBuild [(.int .i64 (.lit 0)), (.int .i64 (.lit 0))] []⟩,
 ⟨some 18, false, none, iMov (.t 9)⟩,
 ⟨none, false, none, iStore 2 (.t 6) (.t 17)⟩,
 ⟨some 7, true, none, iMov (.t 18)⟩])
 cRet) cSkip))
 (cSeq (cSeq (cOps [⟨some 19, false, none, iLoadN 7 (.t 8)⟩,
 ⟨some 20, false, none, iMov (.t 1)⟩,
 ⟨some 21, false, none, iCall (.c (.func (.func 68) [] [])) [(.t 19), (.t 20)]⟩,
 ⟨some 22, false, none, iNot (.t 21)⟩,
 ⟨some 23, false, none, iMov (.t 22)⟩,
 ⟨some 24, false, some (23, false), iMov (.t 2)⟩,
 ⟨some 25, false, some (23, false), iCall (.c (.func (.func 69) [] [])) [(.t 24)]⟩,
 ⟨some 26, false, some (23, false), iNot (.t 25)⟩,
 ⟨some 27, true, none, iPick (.t 23) (.c (.bool (.lit true))) (.t 26)⟩])
 (cCond (.t 27) (cSeq (cOps [⟨some 28, false, none, iBuild [(.int .i64 (.lit 0)), (.int .i64 (.lit 0))] []⟩,
 ⟨none, false, none, iStore 2 (.t 6) (.t 28)⟩,
 ⟨some 7, true, none, iMov (.c (.int .i64 (.lit 11)))⟩])
 cRet) cSkip))
 (cSeq (cOps [⟨some 29, false, none, iLoadN 7 (.t 8)⟩,
 ⟨some 30, false, none, iMov (.t 1)⟩,
 ⟨some 31, false, none, iMov (.t 2)⟩,
 ⟨some 32, false, none, iCall (.c (.func (.func 70) [] [])) [(.t 29), (.t 30), (.t 31)]⟩,
 ⟨none, false, none, iStore 2 (.t 6) (.t 32)⟩,
 ⟨some 7, true, none, iMov (.c (.int .i64 (.lit 0)))⟩])
 cRet))))), [.cell 6 true 2, .t 7]⟩
noncomputable def Tryd.kp63 : List Nat := [0, 1, 2, 4, 5, 6, 16, 18, 19, 20, 21, 26, 32, 33, 34, 42]
noncomputable def Tryd.cf63 : CF := ⟨1, (cSeq (cOps [⟨some 1, true, none, iBox 26 (.t 0)⟩,
 ⟨some 2, true, none, iMov (.c (.bool (.lit false)))⟩])
 (cSeq (cSeq (cOps [⟨some 7, false, none, iFaddr 0 (.t 1)⟩,
 ⟨some 8, false, none, iLoad (.t 7)⟩,
 ⟨some 9, false, none, iLenS (.t 8)⟩,
 ⟨some 10, false, none, iCmp .lss (.t 9) (.c (.int .i64 (.lit 1)))⟩,
 ⟨some 11, false, none, iMov (.t 10)⟩,
 ⟨some 12, false, some (11, false), iFaddr 0 (.t 1)⟩,
 ⟨some 13, false, some (11, false), iLoad (.t 12)⟩,
 ⟨some 14, false, some (11, false), iLenS (.t 13)⟩,
 ⟨some 15, false, some (11, false), iCmp .gtr (.t 14) (.c (.int .i64 (.lit 6)))⟩,
 ⟨some 16, true, none, iPick (.t 11) (.c (.bool (.lit true))) (.t 15)⟩])
 (cCond (.t 16) (cSeq (cOps [⟨some 2, true, none, iMov (.c (.bool (.lit false)))⟩])
 cRet) cSkip))
 (cSeq (cSeq (cOps [⟨some 17, false, none, iFaddr 0 (.t 1)⟩,
 ⟨some 18, true, none, iLoad (.t 17)⟩,
 ⟨some 19, true, none, iLenS (.t 18)⟩,
 ⟨some 20, true, none, iMov (.c (.int .i64 (.lit 0)))⟩])
 (cBlock 0 (cLoop (cSeq (cOps [⟨some 21, true, none, iCmp .lss (.t 20) (.t 19)⟩])
 (cSeq (cCond (.t 21) cSkip (cExit 0))
 (cSeq (cBlock 1 (cSeq (cOps [⟨some 22, false, none, iIaddr 6 (.t 18) (.t 20)⟩,
 ⟨some 23, false, none, iLoadN 6 (.t 22)⟩,
 ⟨some 4, true, none, iAlloc 34 [(.int .i64 (.lit 0)), (.int .i64 (.lit 0)), (.int .i64 (.lit 0)), (.int .i64 (.lit 0)), (.int .i64 (.lit 0)), (.int .i64 (.lit 0))]⟩,
 ⟨none, false, none, iStore 6 (.t 4) (.t 23)⟩])
 (cSeq (cOps [⟨some 24, false, none, iLoadN 6 (.t 4)⟩,
 ⟨some 25, false, none, iCall (.c (.func (.func 71) [] [])) [(.t 24)]⟩,
 ⟨some 26, true, none, iNot (.t 25)⟩])
 (cCond (.t 26) (cSeq (cOps [⟨some 2, true, none, iMov (.c (.bool (.lit false)))⟩])
 cRet) cSkip))))
 (cOps [⟨some 27, false, none, iArith .add (.t 20) (.c (.int .i64 (.lit 1)))⟩,
 ⟨some 20, true, none, iMov (.t 27)⟩])))))))
 (cSeq (cSeq (cOps [⟨some 28, false, none, iFaddr 1 (.t 1)⟩,
 ⟨some 29, false, none, iLoadN 2 (.t 28)⟩,
 ⟨some 30, false, none, iFaddr 3 (.t 1)⟩,
 ⟨some 31, false, none, iLoadN 2 (.t 30)⟩,
 ⟨some 32, true, none, iBuild [(.int .i64 (.lit 0)), (.int .i64 (.lit 0)), (.int .i64 (.lit 0)), (.int .i64 (.lit 0))] [(0, 2, (.t 29)), (2, 2, (.t 31))]⟩,
 ⟨some 33, true, none, iMov (.c (.int .i64 (.lit 0)))⟩])
 (cBlock 2 (cLoop (cSeq (cOps [⟨some 34, true, none, iCmp .lss (.t 33) (.c (.int .i64 (.lit 2)))⟩])
 (cSeq (cCond (.t 34) cSkip (cExit 2))
 (cSeq (cBlock 3 (cSeq (cOps [⟨some 35, false, none, iMov (.t 33)⟩,
 ⟨some 36, false, none, iIndex true 2 2 (.t 32) (.t 33)⟩,
 ⟨some 6, true, none, iAlloc 24 [(.int .i64 (.lit 0)), (.int .i64 (.lit 0))]⟩,
 ⟨some 5, true, none, iMov (.t 35)⟩,
 ⟨none, false, none, iStore 2 (.t 6) (.t 36)⟩])
 (cSeq (dOps 0 [⟨⟨some 37, false, none, iLoadN 2 (.t 6)⟩, [6], false, 0, 0, none, []⟩,
 ⟨⟨some 38, false, none, iMov (.t 5)⟩, [5], false, 0, 0, none, []⟩,
 ⟨⟨some 39, false, none, iIaddrA 2 2 (.c (.ptr 2 0)) (.t 38)⟩, [38], false, 0, 0, none, []⟩,
 ⟨⟨some 40, false, none, iLoadN 2 (.t 39)⟩, [39], false, 0, 0, none, []⟩,
 ⟨⟨some 41, false, none, iCall (.c (.func (.func 72) [] [])) [(.t 37), (.t 40)]⟩, [37, 40], true, 0, 0, none, []⟩,
 ⟨⟨some 42, true, none, iNot (.t 41)⟩, [41], false, 1, 1, none, []⟩])
 (cCond (.t 42) (cSeq (cOps [⟨some 2, true, none, iMov (.c (.bool (.lit false)))⟩])
 cRet) cSkip))))
 (cOps [⟨some 43, false, none, iArith .add (.t 33) (.c (.int .i64 (.lit 1)))⟩,
 ⟨some 33, true, none, iMov (.t 43)⟩])))))))
 (cSeq (cOps [⟨some 44, false, none, iFaddr 5 (.t 1)⟩,
 ⟨some 45, false, none, iLoad (.t 44)⟩,
 ⟨some 46, false, none, iCmp .geq (.t 45) (.c (.int .i64 (.lit 1)))⟩,
 ⟨some 47, false, none, iMov (.t 46)⟩,
 ⟨some 48, false, some (47, true), iFaddr 5 (.t 1)⟩,
 ⟨some 49, false, some (47, true), iLoad (.t 48)⟩,
 ⟨some 50, false, some (47, true), iCmp .leq (.t 49) (.c (.int .i64 (.lit 6000)))⟩,
 ⟨some 51, false, none, iPick (.t 47) (.t 50) (.c (.bool (.lit false)))⟩,
 ⟨some 2, true, none, iMov (.t 51)⟩])
 cRet))))), [.t 2]⟩
noncomputable def Tryd.kp64 : List Nat := [0, 1, 2, 3, 4, 5, 10]
noncomputable def Tryd.cf64 : CF := ⟨3, (cSeq (cOps [⟨some 3, true, none, iBox 62 (.t 0)⟩])
 (cSeq (cOps [⟨some 6, false, none, iMkslice 3 [(.int .i64 (.lit 0))] 8 (.c (.int .i64 (.lit 6))) (.c (.int .i64 (.lit 6)))⟩,
 ⟨some 4, true, none, iAlloc 45 [.nilslice]⟩,
 ⟨none, false, none, iStore 1 (.t 4) (.t 6)⟩])
 (cSeq (cOps [⟨some 5, true, none, iAlloc 118 [.nilFunc]⟩])
 (cSeq (cOps [⟨some 7, false, none, iFunc (.func 65) [] [(.t 3), (.t 4), (.t 1), (.t 5)]⟩,
 ⟨none, false, none, iStore 1 (.t 5) (.t 7)⟩])
 (cSeq (cOps [⟨some 8, false, none, iLoadN 6 (.t 2)⟩,
 ⟨some 9, false, none, iBuild [(.bool (.lit false)), (.bool (.lit false)), (.bool (.lit false)), (.bool (.lit false)), (.bool (.lit false)), (.bool (.lit false))] []⟩,
 ⟨some 10, true, none, iEq true true 6 [(0, .bool), (1, .bool), (2, .bool), (3, .bool), (4, .bool), (5, .bool)] (.t 8) (.t 9)⟩])
 (cCond (.t 10) (dOps 0 [⟨⟨some 11, false, none, iLoad (.t 5)⟩, [5], false, 0, 1, none, []⟩,
 ⟨⟨some 12, false, none, iLoadN 6 (.t 2)⟩, [2], false, 0, 1, none, []⟩,
 ⟨⟨some 13, false, none, iCall (.c (.func (.func 66) [] [])) []⟩, [], true, 0, 0, none, []⟩,
 ⟨⟨some 14, false, none, iCall (.t 11) [(.c (.int .i64 (.lit 0))), (.t 12), (.t 13)]⟩, [11, 12, 13], true, 1, 0, none, []⟩]) cSkip)))))), []⟩
noncomputable def Tryd.kp65 : List Nat := [0, 1, 2, 3, 4, 5, 6, 8, 9, 10, 11, 12, 13, 16, 23, 24, 29, 37, 51]
noncomputable def Tryd.cf65 : CF := ⟨7, (cSeq (cOps [⟨some 8, true, none, iBox 113 (.t 1)⟩,
 ⟨some 9, true, none, iBox 120 (.t 2)⟩,
 ⟨some 10, true, none, iMov (.c (.bool (.lit false)))⟩])
 (cSeq (cSeq (cOps [⟨some 14, false, none, iLoadN 6 (.t 8)⟩,
 ⟨some 15, false, none, iBuild [(.bool (.lit false)), (.bool (.lit false)), (.bool (.lit false)), (.bool (.lit false)), (.bool (.lit false)), (.bool (.lit false))] []⟩,
 ⟨some 16, true, none, iEq false true 6 [(0, .bool), (1, .bool), (2, .bool), (3, .bool), (4, .bool), (5, .bool)] (.t 14) (.t 15)⟩])
 (cCond (.t 16) (cSeq (dOps 0 [⟨⟨some 17, false, none, iLoad (.t 3)⟩, [3], false, 0, 0, none, []⟩,
 ⟨⟨some 18, false, none, iLoad (.t 4)⟩, [4], false, 0, 0, none, []⟩,
 ⟨⟨some 19, false, none, iMov (.t 0)⟩, [0], false, 0, 0, none, []⟩,
 ⟨⟨some 20, false, none, iMov (.t 0)⟩, [0], false, 0, 0, none, []⟩,
 ⟨⟨some 21, false, none, iSlice 1 (.t 18) none (some (.t 19)) (some (.t 20))⟩, [18, 19, 20], false, 0, 0, none, []⟩,
 ⟨⟨some 22, false, none, iCall (.t 17) [(.t 21)]⟩, [17, 21], true, 0, 0, none, []⟩,
 ⟨⟨some 10, true, none, iMov (.t 22)⟩, [22], false, 1, 1, none, []⟩])
 cRet) cSkip))
 (cSeq cSkip
 (cSeq (cSeq (cOps [⟨some 23, true, none, iMov (.c (.int .i64 (.lit 0)))⟩])
 (cBlock 0 (cLoop (cSeq (cOps [⟨some 24, true, none, iCmp .lss (.t 23) (.c (.int .i64 (.lit 6)))⟩])
 (cSeq (cCond (.t 24) cSkip (cExit 0))
 (cSeq (cBlock 1 (cSeq (cOps [⟨some 25, false, none, iMov (.t 23)⟩,
 ⟨some 11, true, none, iMov (.t 25)⟩])
 (cSeq (cSeq (cOps [⟨some 26, false, none, iMov (.t 11)⟩,
 ⟨some 27, false, none, iIaddrA 1 6 (.t 8) (.t 26)⟩,
 ⟨some 28, false, none, iLoad (.t 27)⟩,
 ⟨some 29, true, none, iNot (.t 28)⟩])
 (cCond (.t 29) (cExit 1) cSkip))
 (cSeq (cOps [⟨some 30, false, none, iLoad (.t 5)⟩,
 ⟨some 31, false, none, iMov (.t 11)⟩,
 ⟨some 32, false, none, iLoadN 2 (.t 9)⟩,
 ⟨some 33, false, none, iBuild [(.int .i64 (.lit 0)), (.int .i64 (.lit 0)), (.int .i64 (.lit 0))] [(0, 1, (.t 31)), (1, 2, (.t 32))]⟩,
 ⟨some 34, false, none, iCall (.t 30) [(.t 33)]⟩,
 ⟨some 12, true, none, iAlloc 120 [(.int .i64 (.lit 0)), (.int .i64 (.lit 0))]⟩,
 ⟨none, false, none, iStore 2 (.t 12) (.t 34)⟩])
 (cSeq (cSeq (cOps [⟨some 35, false, none, iLoadN 2 (.t 12)⟩,
 ⟨some 36, false, none, iBuild [(.int .i64 (.lit 0)), (.int .i64 (.lit 0))] []⟩,
 ⟨some 37, true, none, iEq false true 2 [(0, .int), (1, .int)] (.t 35) (.t 36)⟩])
 (cCond (.t 37) (cExit 1) cSkip))
 (cSeq (cOps [⟨some 38, false, none, iLoad (.t 4)⟩,
 ⟨some 39, false, none, iMov (.t 0)⟩,
 ⟨some 40, false, none, iMov (.t 11)⟩,
 ⟨some 41, false, none, iIaddr 1 (.t 38) (.t 39)⟩,
 ⟨none, false, none, iStore 1 (.t 41) (.t 40)⟩])
 (cSeq (cOps [⟨some 42, false, none, iLoadN 6 (.t 8)⟩,
 ⟨some 13, true, none, iAlloc 113 [(.bool (.lit false)), (.bool (.lit false)), (.bool (.lit false)), (.bool (.lit false)), (.bool (.lit false)), (.bool (.lit false))]⟩,
 ⟨none, false, none, iStore 6 (.t 13) (.t 42)⟩])
 (cSeq (cOps [⟨some 43, false, none, iMov (.t 11)⟩,
 ⟨some 44, false, none, iIaddrA 1 6 (.t 13) (.t 43)⟩,
 ⟨none, false, none, iStore 1 (.t 44) (.c (.bool (.lit false)))⟩])
 (cSeq (cOps [⟨some 45, false, none, iLoad (.t 6)⟩,
 ⟨some 46, false, none, iMov (.t 0)⟩,
 ⟨some 47, false, none, iArith .add (.t 46) (.c (.int .i64 (.lit 1)))⟩,
 ⟨some 48, false, none, iLoadN 6 (.t 13)⟩,
 ⟨some 49, false, none, iLoadN 2 (.t 12)⟩,
 ⟨some 50, false, none, iCall (.t 45) [(.t 47), (.t 48), (.t 49)]⟩,
 ⟨some 51, true, none, iNot (.t 50)⟩])
 (cCond (.t 51) (cSeq (cOps [⟨some 10, true, none, iMov (.c (.bool (.lit false)))⟩])
 cRet) cSkip))))))))))
 (cOps [⟨some 52, false, none, iArith .add (.t 23) (.c (.int .i64 (.lit 1)))⟩,
 ⟨some 23, true, none, iMov (.t 52)⟩])))))))
 (cSeq (cOps [⟨some 10, true, none, iMov (.c (.bool (.lit true)))⟩])
 cRet))))), [.t 10]⟩
noncomputable def Tryd.kp66 : List Nat := [0]
noncomputable def Tryd.cf66 : CF := ⟨0, (cSeq (cOps [⟨some 0, true, none, iAlloc 120 [(.int .i64 (.lit 0)), (.int .i64 (.lit 0))]⟩])
 (cSeq (cOps [⟨some 1, false, none, iBuild [(.int .i64 (.lit 0)), (.int .i64 (.lit 0))] [(0, 1, (.c (.int .i64 (.lit 0)))), (1, 1, (.c (.int .i64 (.lit 100))))]⟩,
 ⟨none, false, none, iStore 2 (.t 0) (.t 1)⟩])
 cRet)), [.cell 0 true 2]⟩
noncomputable def Tryd.kp67 : List Nat := [0, 1, 4]
noncomputable def Tryd.cf67 : CF := ⟨2, (cSeq (cOps [⟨some 4, true, none, iMov (.c (.bool (.lit false)))⟩])
 (cSeq (cOps [⟨some 5, false, none, iMov (.t 0)⟩,
 ⟨some 6, false, none, iMov (.t 1)⟩,
 ⟨some 7, false, none, iCall (.c (.func (.func 73) [] [])) [(.t 5), (.t 6)]⟩,
 ⟨some 8, false, none, iCmp .geq (.t 7) (.c (.int .i64 (.lit 0)))⟩,
 ⟨some 4, true, none, iMov (.t 8)⟩])
 cRet)), [.t 4]⟩
noncomputable def Tryd.kp68 : List Nat := [0, 1, 2, 4, 5, 7, 8, 9, 10, 11, 22]
noncomputable def Tryd.cf68 : CF := ⟨2, (cSeq (cOps [⟨some 2, true, none, iBox 99 (.t 0)⟩,
 ⟨some 4, true, none, iMov (.c (.bool (.lit false)))⟩])
 (cSeq (cOps [⟨some 5, true, none, iAlloc 113 [(.bool (.lit false)), (.bool (.lit false)), (.bool (.lit false)), (.bool (.lit false)), (.bool (.lit false)), (.bool (.lit false))]⟩])
 (cSeq (cSeq (cOps [⟨some 8, true, none, iMov (.t 1)⟩,
 ⟨some 9, true, none, iLenS (.t 8)⟩,
 ⟨some 10, true, none, iMov (.c (.int .i64 (.lit 0)))⟩])
 (cBlock 0 (cLoop (cSeq (cOps [⟨some 11, true, none, iCmp .lss (.t 10) (.t 9)⟩])
 (cSeq (cCond (.t 11) cSkip (cExit 0))
 (cSeq (cBlock 1 (cSeq (cOps [⟨some 12, false, none, iIaddr 1 (.t 8) (.t 10)⟩,
 ⟨some 13, false, none, iLoad (.t 12)⟩,
 ⟨some 7, true, none, iMov (.t 13)⟩])
 (cSeq (cSeq (cOps [⟨some 14, false, none, iLoadN 7 (.t 2)⟩,
 ⟨some 15, false, none, iMov (.t 7)⟩,
 ⟨some 16, false, none, iCall (.c (.func (.func 74) [] [])) [(.t 14), (.t 15)]⟩,
 ⟨some 17, false, none, iNot (.t 16)⟩,
 ⟨some 18, false, none, iMov (.t 17)⟩,
 ⟨some 19, false, some (18, false), iMov (.t 7)⟩,
 ⟨some 20, false, some (18, false), iIaddrA 1 6 (.t 5) (.t 19)⟩,
 ⟨some 21, false, some (18, false), iLoad (.t 20)⟩,
 ⟨some 22, true, none, iPick (.t 18) (.c (.bool (.lit true))) (.t 21)⟩])
 (cCond (.t 22) (cSeq (cOps [⟨some 4, true, none, iMov (.c (.bool (.lit false)))⟩])
 cRet) cSkip))
 (cOps [⟨some 23, false, none, iMov (.t 7)⟩,
 ⟨some 24, false, none, iIaddrA 1 6 (.t 5) (.t 23)⟩,
 ⟨none, false, none, iStore 1 (.t 24) (.c (.bool (.lit true)))⟩]))))
 (cOps [⟨some 25, false, none, iArith .add (.t 10) (.c (.int .i64 (.lit 1)))⟩,
 ⟨some 10, true, none, iMov (.t 25)⟩])))))))
 (cSeq (cOps [⟨some 4, true, none, iMov (.c (.bool (.lit true)))⟩])
 cRet)))), [.t 4]⟩
noncomputable def Tryd.kp69 : List Nat := [0, 2]
noncomputable def Tryd.cf69 : CF := ⟨1, (cSeq (cOps [⟨some 2, true, none, iMov (.c (.bool (.lit false)))⟩])
 (cSeq (cOps [⟨some 3, false, none, iMov (.t 0)⟩,
 ⟨some 4, false, none, iCmp .geq (.t 3) (.c (.int .i64 (.lit 0)))⟩,
 ⟨some 5, false, none, iMov (.t 4)⟩,
 ⟨some 6, false, some (5, true), iMov (.t 0)⟩,
 ⟨some 7, false, some (5, true), iCmp .leq (.t 6) (.c (.int .i64 (.lit 999)))⟩,
 ⟨some 8, false, none, iPick (.t 5) (.t 7) (.c (.bool (.lit false)))⟩,
 ⟨some 2, true, none, iMov (.t 8)⟩])
 cRet)), [.t 2]⟩
noncomputable def Tryd.kp70 : List Nat := [0, 1, 2, 3, 4, 5, 6]
noncomputable def Tryd.cf70 : CF := ⟨3, (cSeq (cOps [⟨some 3, true, none, iBox 99 (.t 0)⟩,
 ⟨some 4, true, none, iBox 45 (.t 1)⟩,
 ⟨some 5, true, none, iBox 3 (.t 2)⟩,
 ⟨some 6, true, none, iAlloc 24 [(.int .i64 (.lit 0)), (.int .i64 (.lit 0))]⟩])
 (cSeq (cOps [⟨some 7, false, none, iFunc (.func 76) [] [(.t 4), (.t 3), (.t 5)]⟩,
 ⟨some 8, false, none, iCall (.c (.func (.func 75) [] [])) [(.t 7)]⟩,
 ⟨none, false, none, iStore 2 (.t 6) (.t 8)⟩])
 cRet)), [.cell 6 true 2]⟩
noncomputable def Tryd.kp71 : List Nat := [0, 1, 2, 3, 4, 11, 12, 13, 21]
noncomputable def Tryd.cf71 : CF := ⟨1, (cSeq (cOps [⟨some 1, true, none, iBox 34 (.t 0)⟩,
 ⟨some 2, true, none, iMov (.c (.bool (.lit false)))⟩])
 (cSeq (cSeq (cOps [⟨some 5, false, none, iFaddr 0 (.t 1)⟩,
 ⟨some 6, false, none, iLoadN 2 (.t 5)⟩,
 ⟨some 7, false, none, iFaddr 2 (.t 1)⟩,
 ⟨some 8, false, none, iLoadN 2 (.t 7)⟩,
 ⟨some 9, false, none, iFaddr 4 (.t 1)⟩,
 ⟨some 10, false, none, iLoadN 2 (.t 9)⟩,
 ⟨some 11, true, none, iBuild [(.int .i64 (.lit 0)), (.int .i64 (.lit 0)), (.int .i64 (.lit 0)), (.int .i64 (.lit 0)), (.int .i64 (.lit 0)), (.int .i64 (.lit 0))] [(0, 2, (.t 6)), (2, 2, (.t 8)), (4, 2, (.t 10))]⟩,
 ⟨some 12, true, none, iMov (.c (.int .i64 (.lit 0)))⟩])
 (cBlock 0 (cLoop (cSeq (cOps [⟨some 13, true, none, iCmp .lss (.t 12) (.c (.int .i64 (.lit 3)))⟩])
 (cSeq (cCond (.t 13) cSkip (cExit 0))
 (cSeq (cBlock 1 (cSeq (cOps [⟨some 14, false, none, iMov (.t 12)⟩,
 ⟨some 15, false, none, iIndex true 2 3 (.t 11) (.t 12)⟩,
 ⟨some 4, true, none, iAlloc 24 [(.int .i64 (.lit 0)), (.int .i64 (.lit 0))]⟩,
 ⟨some 3, true, none, iMov (.t 14)⟩,
 ⟨none, false, none, iStore 2 (.t 4) (.t 15)⟩])
 (cSeq (dOps 0 [⟨⟨some 16, false, none, iLoadN 2 (.t 4)⟩, [4], false, 0, 0, none, []⟩,
 ⟨⟨some 17, false, none, iMov (.t 3)⟩, [3], false, 0, 0, none, []⟩,
 ⟨⟨some 18, false, none, iIaddrA 2 3 (.c (.ptr 3 0)) (.t 17)⟩, [17], false, 0, 0, none, []⟩,
 ⟨⟨some 19, false, none, iLoadN 2 (.t 18)⟩, [18], false, 0, 0, none, []⟩,
 ⟨⟨some 20, false, none, iCall (.c (.func (.func 72) [] [])) [(.t 16), (.t 19)]⟩, [16, 19], true, 0, 0, none, []⟩,
 ⟨⟨some 21, true, none, iNot (.t 20)⟩, [20], false, 1, 1, none, []⟩])
 (cCond (.t 21) (cSeq (cOps [⟨some 2, true, none, iMov (.c (.bool (.lit false)))⟩])
 cRet) cSkip))))
 (cOps [⟨some 22, false, none, iArith .add (.t 12) (.c (.int .i64 (.lit 1)))⟩,
 ⟨some 12, true, none, iMov (.t 22)⟩])))))))
 (cSeq (cOps [⟨some 23, false, none, iFaddr 0 (.t 1)⟩,
 ⟨some 24, false, none, iFaddr 0 (.t 23)⟩,
 ⟨some 25, false, none, iLoad (.t 24)⟩,
 ⟨some 26, false, none, iFaddr 2 (.t 1)⟩,
 ⟨some 27, false, none, iFaddr 1 (.t 26)⟩,
 ⟨some 28, false, none, iLoad (.t 27)⟩,
 ⟨some 29, false, none, iCmp .leq (.t 25) (.t 28)⟩,
 ⟨some 2, true, none, iMov (.t 29)⟩])
 cRet))), [.t 2]⟩
noncomputable def Tryd.kp72 : List Nat := [0, 1, 2, 3, 4]
noncomputable def Tryd.cf72 : CF := ⟨2, (cSeq (cOps [⟨some 2, true, none, iBox 24 (.t 0)⟩,
 ⟨some 3, true, none, iBox 24 (.t 1)⟩,
 ⟨some 4, true, none, iMov (.c (.bool (.lit false)))⟩])
 (cSeq (cOps [⟨some 5, false, none, iFaddr 0 (.t 3)⟩,
 ⟨some 6, false, none, iLoad (.t 5)⟩,
 ⟨some 7, false, none, iFaddr 0 (.t 2)⟩,
 ⟨some 8, false, none, iLoad (.t 7)⟩,
 ⟨some 9, false, none, iCmp .leq (.t 6) (.t 8)⟩,
 ⟨some 10, false, none, iMov (.t 9)⟩,
 ⟨some 11, false, some (10, true), iFaddr 0 (.t 2)⟩,
 ⟨some 12, false, some (10, true), iLoad (.t 11)⟩,
 ⟨some 13, false, some (10, true), iFaddr 1 (.t 2)⟩,
 ⟨some 14, false, some (10, true), iLoad (.t 13)⟩,
 ⟨some 15, false, some (10, true), iCmp .leq (.t 12) (.t 14)⟩,
 ⟨some 16, false, none, iPick (.t 10) (.t 15) (.c (.bool (.lit false)))⟩,
 ⟨some 17, false, none, iMov (.t 16)⟩,
 ⟨some 18, false, some (17, true), iFaddr 1 (.t 2)⟩,
 ⟨some 19, false, some (17, true), iLoad (.t 18)⟩,
 ⟨some 20, false, some (17, true), iFaddr 1 (.t 3)⟩,
 ⟨some 21, false, some (17, true), iLoad (.t 20)⟩,
 ⟨some 22, false, some (17, true), iCmp .leq (.t 19) (.t 21)⟩,
 ⟨some 23, false, none, iPick (.t 17) (.t 22) (.c (.bool (.lit false)))⟩,
 ⟨some 4, true, none, iMov (.t 23)⟩])
 cRet)), [.t 4]⟩
noncomputable def Tryd.kp73 : List Nat := [0, 1, 4, 5, 7, 8, 9, 16]
noncomputable def Tryd.cf73 : CF := ⟨2, (cSeq (cOps [⟨some 4, true, none, iMov (.c (.int .i64 (.lit 0)))⟩])
 (cSeq (cSeq (cOps [⟨some 6, false, none, iMov (.t 0)⟩,
 ⟨some 7, true, none, iLenS (.t 6)⟩,
 ⟨some 8, true, none, iMov (.c (.int .i64 (.lit 0)))⟩])
 (cBlock 0 (cLoop (cSeq (cOps [⟨some 9, true, none, iCmp .lss (.t 8) (.t 7)⟩])
 (cSeq (cCond (.t 9) cSkip (cExit 0))
 (cSeq (cBlock 1 (cSeq (cOps [⟨some 10, false, none, iMov (.t 8)⟩,
 ⟨some 5, true, none, iMov (.t 10)⟩])
 (cSeq (cOps [⟨some 11, false, none, iMov (.t 1)⟩,
 ⟨some 12, false, none, iMov (.t 0)⟩,
 ⟨some 13, false, none, iMov (.t 5)⟩,
 ⟨some 14, false, none, iIaddr 1 (.t 12) (.t 13)⟩,
 ⟨some 15, false, none, iLoad (.t 14)⟩,
 ⟨some 16, true, none, iCmp .eql (.t 11) (.t 15)⟩])
 (cCond (.t 16) (cSeq (cOps [⟨some 17, false, none, iMov (.t 5)⟩,
 ⟨some 4, true, none, iMov (.t 17)⟩])
 cRet) cSkip))))
 (cOps [⟨some 18, false, none, iArith .add (.t 8) (.c (.int .i64 (.lit 1)))⟩,
 ⟨some 8, true, none, iMov (.t 18)⟩])))))))
 (cSeq (cOps [⟨some 4, true, none, iMov (.c (.int .i64 (.lit (-1))))⟩])
 cRet))), [.t 4]⟩
noncomputable def Tryd.kp74 : List Nat := [0, 1, 2, 4]
noncomputable def Tryd.cf74 : CF := ⟨2, (cSeq (cOps [⟨some 2, true, none, iBox 99 (.t 0)⟩,
 ⟨some 4, true, none, iMov (.c (.bool (.lit false)))⟩])
 (cSeq (cOps [⟨some 5, false, none, iMov (.t 1)⟩,
 ⟨some 6, false, none, iCmp .geq (.t 5) (.c (.int .i64 (.lit 0)))⟩,
 ⟨some 7, false, none, iMov (.t 6)⟩,
 ⟨some 8, false, some (7, true), iMov (.t 1)⟩,
 ⟨some 9, false, some (7, true), iFaddr 0 (.t 2)⟩,
 ⟨some 10, false, some (7, true), iFaddr 0 (.t 9)⟩,
 ⟨some 11, false, some (7, true), iLoad (.t 10)⟩,
 ⟨some 12, false, some (7, true), iLenS (.t 11)⟩,
 ⟨some 13, false, some (7, true), iCmp .lss (.t 8) (.t 12)⟩,
 ⟨some 14, false, none, iPick (.t 7) (.t 13) (.c (.bool (.lit false)))⟩,
 ⟨some 4, true, none, iMov (.t 14)⟩])
 cRet)), [.t 4]⟩
noncomputable def Tryd.kp75 : List Nat := [0, 2, 3, 4]
noncomputable def Tryd.cf75 : CF := ⟨1, (cSeq (cOps [⟨some 2, true, none, iAlloc 24 [(.int .i64 (.lit 0)), (.int .i64 (.lit 0))]⟩])
 (cSeq (cOps [⟨some 6, false, none, iCall (.c (.func (.func 79) [] [])) []⟩,
 ⟨some 5, false, none, iMov (.t 6)⟩,
 ⟨some 7, false, none, iExtract 0 (.t 5)⟩,
 ⟨some 8, false, none, iExtract 1 (.t 5)⟩,
 ⟨some 3, true, none, iAlloc 131 [.nilFunc, .nilFunc]⟩,
 ⟨some 4, true, none, iAlloc 131 [.nilFunc, .nilFunc]⟩,
 ⟨none, false, none, iStore 2 (.t 3) (.t 7)⟩,
 ⟨none, false, none, iStore 2 (.t 4) (.t 8)⟩])
 (cSeq (dOps 0 [⟨⟨some 9, false, none, iMov (.t 0)⟩, [0], false, 0, 0, none, []⟩,
 ⟨⟨some 10, false, none, iLoadN 2 (.t 3)⟩, [3], false, 0, 0, none, []⟩,
 ⟨⟨some 11, false, none, iCall (.t 9) [(.t 10)]⟩, [9, 10], true, 0, 0, none, []⟩,
 ⟨⟨some 12, false, none, iMov (.t 0)⟩, [0], false, 0, 1, none, []⟩,
 ⟨⟨some 13, false, none, iLoadN 2 (.t 4)⟩, [4], false, 0, 1, none, []⟩,
 ⟨⟨some 14, false, none, iCall (.t 12) [(.t 13)]⟩, [12, 13], true, 1, 0, none, []⟩,
 ⟨⟨some 15, false, none, iBuild [(.int .i64 (.lit 0)), (.int .i64 (.lit 0))] [(0, 1, (.t 11)), (1, 1, (.t 14))]⟩, [11, 14], false, 2, 2, none, []⟩,
 ⟨⟨none, false, none, iStore 2 (.t 2) (.t 15)⟩, [2, 15], true, 2, 0, none, []⟩])
 cRet))), [.cell 2 true 2]⟩
noncomputable def Tryd.kp76 : List Nat := [0, 1, 2, 3, 4, 5, 6, 7, 8, 12, 13, 14, 15]
noncomputable def Tryd.cf76 : CF := ⟨4, (cSeq (cOps [⟨some 4, true, none, iBox 131 (.t 0)⟩,
 ⟨some 5, true, none, iMov (.c (.int .i64 (.lit 0)))⟩])
 (cSeq (cOps [⟨some 9, false, none, iLoad (.t 1)⟩,
 ⟨some 10, false, none, iLenS (.t 9)⟩,
 ⟨some 11, false, none, iMkslice 3 [(.int .i64 (.lit 0))] 8 (.t 10) (.t 10)⟩,
 ⟨some 6, true, none, iMov (.t 11)⟩])
 (cSeq (cSeq (cOps [⟨some 12, true, none, iLoad (.t 1)⟩,
 ⟨some 13, true, none, iLenS (.t 12)⟩,
 ⟨some 14, true, none, iMov (.c (.int .i64 (.lit 0)))⟩])
 (cBlock 0 (cLoop (cSeq (cOps [⟨some 15, true, none, iCmp .lss (.t 14) (.t 13)⟩])
 (cSeq (cCond (.t 15) cSkip (cExit 0))
 (cSeq (cBlock 1 (cSeq (cOps [⟨some 16, false, none, iMov (.t 14)⟩,
 ⟨some 17, false, none, iIaddr 1 (.t 12) (.t 14)⟩,
 ⟨some 18, false, none, iLoad (.t 17)⟩,
 ⟨some 7, true, none, iMov (.t 16)⟩,
 ⟨some 8, true, none, iMov (.t 18)⟩])
 (cOps [⟨some 19, false, none, iMov (.t 6)⟩,
 ⟨some 20, false, none, iMov (.t 7)⟩,
 ⟨some 21, false, none, iLoadN 7 (.t 2)⟩,
 ⟨some 22, false, none, iMov (.t 8)⟩,
 ⟨some 23, false, none, iLoad (.t 3)⟩,
 ⟨some 24, false, none, iLoadN 2 (.t 4)⟩,
 ⟨some 25, false, none, iCall (.c (.func (.func 77) [] [])) [(.t 21), (.t 22), (.t 23), (.t 24)]⟩,
 ⟨some 26, false, none, iIaddr 1 (.t 19) (.t 20)⟩,
 ⟨none, false, none, iStore 1 (.t 26) (.t 25)⟩])))
 (cOps [⟨some 27, false, none, iArith .add (.t 14) (.c (.int .i64 (.lit 1)))⟩,
 ⟨some 14, true, none, iMov (.t 27)⟩])))))))
 (cSeq (dOps 0 [⟨⟨some 28, false, none, iMov (.t 6)⟩, [6], false, 0, 0, none, []⟩,
 ⟨⟨some 29, false, none, iCall (.c (.func (.func 78) [] [])) [(.t 28)]⟩, [28], true, 0, 0, none, []⟩,
 ⟨⟨some 30, false, none, iFaddr 0 (.t 4)⟩, [4], false, 0, 1, none, []⟩,
 ⟨⟨some 31, false, none, iLoad (.t 30)⟩, [30], false, 0, 1, none, []⟩,
 ⟨⟨some 32, false, none, iFaddr 0 (.t 2)⟩, [2], false, 0, 1, none, []⟩,
 ⟨⟨some 33, false, none, iFaddr 1 (.t 32)⟩, [32], false, 0, 1, none, []⟩,
 ⟨⟨some 34, false, none, iLoadN 2 (.t 33)⟩, [33], false, 0, 1, none, []⟩,
 ⟨⟨some 35, false, none, iCall (.t 31) [(.t 34)]⟩, [31, 34], true, 1, 0, none, []⟩,
 ⟨⟨some 36, false, none, iArith .mul (.t 29) (.t 35)⟩, [29, 35], false, 2, 2, none, []⟩,
 ⟨⟨some 5, true, none, iMov (.t 36)⟩, [36], false, 2, 2, none, []⟩])
 cRet)))), [.t 5]⟩
noncomputable def Tryd.kp77 : List Nat := [0, 1, 2, 3, 4, 7, 8, 9, 10]
noncomputable def Tryd.cf77 : CF := ⟨4, (cSeq (cOps [⟨some 4, true, none, iBox 99 (.t 0)⟩,
 ⟨some 7, true, none, iBox 131 (.t 3)⟩,
 ⟨some 8, true, none, iMov (.c (.int .i64 (.lit 0)))⟩])
 (cSeq (dOps 0 [⟨⟨some 11, false, none, iFaddr 0 (.t 7)⟩, [7], false, 0, 0, none, []⟩,
 ⟨⟨some 12, false, none, iLoad (.t 11)⟩, [11], false, 0, 0, none, []⟩,
 ⟨⟨some 13, false, none, iFaddr 0 (.t 4)⟩, [4], false, 0, 0, none, []⟩,
 ⟨⟨some 14, false, none, iFaddr 0 (.t 13)⟩, [13], false, 0, 0, none, []⟩,
 ⟨⟨some 15, false, none, iLoad (.t 14)⟩, [14], false, 0, 0, none, []⟩,
 ⟨⟨some 16, false, none, iMov (.t 1)⟩, [1], false, 0, 0, none, []⟩,
 ⟨⟨some 17, false, none, iIaddr 6 (.t 15) (.t 16)⟩, [15, 16], false, 0, 0, none, []⟩,
 ⟨⟨some 18, false, none, iFaddr 4 (.t 17)⟩, [17], false, 0, 0, none, []⟩,
 ⟨⟨some 19, false, none, iLoadN 2 (.t 18)⟩, [18], false, 0, 0, none, []⟩,
 ⟨⟨some 20, false, none, iCall (.t 12) [(.t 19)]⟩, [12, 19], true, 0, 0, none, []⟩,
 ⟨⟨some 21, false, none, iFaddr 1 (.t 7)⟩, [7], false, 0, 1, none, []⟩,
 ⟨⟨some 22, false, none, iLoad (.t 21)⟩, [21], false, 0, 1, none, []⟩,
 ⟨⟨some 23, false, none, iFaddr 0 (.t 4)⟩, [4], false, 0, 1, none, []⟩,
 ⟨⟨some 24, false, none, iFaddr 3 (.t 23)⟩, [23], false, 0, 1, none, []⟩,
 ⟨⟨some 25, false, none, iLoadN 2 (.t 24)⟩, [24], false, 0, 1, none, []⟩,
 ⟨⟨some 26, false, none, iCall (.t 22) [(.t 25)]⟩, [22, 25], true, 1, 0, none, []⟩,
 ⟨⟨some 9, true, none, iMov (.t 20)⟩, [20], false, 2, 2, none, []⟩,
 ⟨⟨some 10, true, none, iMov (.t 26)⟩, [26], false, 2, 2, none, []⟩])
 (cSeq (cOps [⟨some 27, false, none, iMov (.t 9)⟩,
 ⟨some 28, false, none, iMov (.t 2)⟩,
 ⟨some 29, false, none, iMov (.t 10)⟩,
 ⟨some 30, false, none, iArith .mul (.t 28) (.t 29)⟩,
 ⟨some 31, false, none, iArith .sub (.t 27) (.t 30)⟩,
 ⟨some 32, false, none, iMax [(.c (.int .i64 (.lit 0))), (.t 31)]⟩,
 ⟨some 8, true, none, iMov (.t 32)⟩])
 cRet))), [.t 8]⟩
noncomputable def Tryd.kp78 : List Nat := [0, 2, 3, 5, 6, 7, 8, 9]
noncomputable def Tryd.cf78 : CF := ⟨1, (cSeq (cOps [⟨some 2, true, none, iMov (.c (.int .i64 (.lit 0)))⟩])
 (cSeq (cOps [⟨some 3, true, none, iMov (.c (.int .i64 (.lit 0)))⟩])
 (cSeq (cSeq (cOps [⟨some 6, true, none, iMov (.t 0)⟩,
 ⟨some 7, true, none, iLenS (.t 6)⟩,
 ⟨some 8, true, none, iMov (.c (.int .i64 (.lit 0)))⟩])
 (cBlock 0 (cLoop (cSeq (cOps [⟨some 9, true, none, iCmp .lss (.t 8) (.t 7)⟩])
 (cSeq (cCond (.t 9) cSkip (cExit 0))
 (cSeq (cBlock 1 (cSeq (cOps [⟨some 10, false, none, iIaddr 1 (.t 6) (.t 8)⟩,
 ⟨some 11, false, none, iLoad (.t 10)⟩,
 ⟨some 5, true, none, iMov (.t 11)⟩])
 (cOps [⟨some 12, false, none, iMov (.t 3)⟩,
 ⟨some 13, false, none, iMov (.t 5)⟩,
 ⟨some 14, false, none, iArith .add (.t 12) (.t 13)⟩,
 ⟨some 3, true, none, iMov (.t 14)⟩])))
 (cOps [⟨some 15, false, none, iArith .add (.t 8) (.c (.int .i64 (.lit 1)))⟩,
 ⟨some 8, true, none, iMov (.t 15)⟩])))))))
 (cSeq (cOps [⟨some 16, false, none, iMov (.t 3)⟩,
 ⟨some 2, true, none, iMov (.t 16)⟩])
 cRet)))), [.t 2]⟩
noncomputable def Tryd.kp79 : List Nat := [0, 1, 2]
noncomputable def Tryd.cf79 : CF := ⟨0, (cSeq (cOps [⟨some 0, true, none, iAlloc 131 [.nilFunc, .nilFunc]⟩,
 ⟨some 1, true, none, iAlloc 131 [.nilFunc, .nilFunc]⟩])
 (cSeq (cOps [⟨some 3, false, none, iBuild [.nilFunc, .nilFunc] [(0, 1, (.c (.func (.func 80) [] []))), (1, 1, (.c (.func (.func 81) [] [])))]⟩,
 ⟨some 4, false, none, iBuild [.nilFunc, .nilFunc] [(0, 1, (.c (.func (.func 81) [] []))), (1, 1, (.c (.func (.func 80) [] [])))]⟩,
 ⟨some 5, false, none, iBuild [.nilFunc, .nilFunc, .nilFunc, .nilFunc] [(0, 2, (.t 3)), (2, 2, (.t 4))]⟩,
 ⟨some 2, true, none, iAlloc 139 [.nilFunc, .nilFunc, .nilFunc, .nilFunc]⟩,
 ⟨none, false, none, iStore 4 (.t 2) (.t 5)⟩])
 (cSeq (dOps 0 [⟨⟨some 6, false, none, iIaddrA 2 2 (.t 2) (.c (.int .i64 (.lit 0)))⟩, [2], false, 0, 0, none, []⟩,
 ⟨⟨some 7, false, none, iLoadN 2 (.t 6)⟩, [6], false, 0, 0, none, []⟩,
 ⟨⟨some 8, false, none, iIaddrA 2 2 (.t 2) (.c (.int .i64 (.lit 1)))⟩, [2], false, 0, 1, none, []⟩,
 ⟨⟨some 9, false, none, iLoadN 2 (.t 8)⟩, [8], false, 0, 1, none, []⟩,
 ⟨⟨none, false, none, iStore 2 (.t 0) (.t 7)⟩, [0, 7], true, 0, 0, none, []⟩,
 ⟨⟨none, false, none, iStore 2 (.t 1) (.t 9)⟩, [1, 9], true, 1, 0, none, []⟩])
 cRet))), [.cell 0 true 2, .cell 1 true 2]⟩
noncomputable def Tryd.kp80 : List Nat := [0, 1, 2]
noncomputable def Tryd.cf80 : CF := ⟨1, (cSeq (cOps [⟨some 1, true, none, iBox 134 (.t 0)⟩,
 ⟨some 2, true, none, iMov (.c (.int .i64 (.lit 0)))⟩])
 (cSeq (cOps [⟨some 3, false, none, iFaddr 0 (.t 1)⟩,
 ⟨some 4, false, none, iLoad (.t 3)⟩,
 ⟨some 2, true, none, iMov (.t 4)⟩])
 cRet)), [.t 2]⟩
noncomputable def Tryd.kp81 : List Nat := [0, 1, 2]
noncomputable def Tryd.cf81 : CF := ⟨1, (cSeq (cOps [⟨some 1, true, none, iBox 134 (.t 0)⟩,
 ⟨some 2, true, none, iMov (.c (.int .i64 (.lit 0)))⟩])
 (cSeq (cOps [⟨some 3, false, none, iFaddr 1 (.t 1)⟩,
 ⟨some 4, false, none, iLoad (.t 3)⟩,
 ⟨some 2, true, none, iMov (.t 4)⟩])
 cRet)), [.t 2]⟩
noncomputable def Tryd.ft : PT CF := (.node none (.node none (.node (some Tryd.cf3) (.node (some Tryd.cf7) (.node (some Tryd.cf15) (.node (some Tryd.cf31) (.node (some Tryd.cf63) .nil .nil) .nil) (.node (some Tryd.cf47) (.node (some Tryd.cf79) .nil .nil) .nil)) (.node (some Tryd.cf23) (.node (some Tryd.cf39) (.node (some Tryd.cf71) .nil .nil) .nil) (.node (some Tryd.cf55) .nil .nil))) (.node (some Tryd.cf11) (.node (some Tryd.cf19) (.node (some Tryd.cf35) (.node (some Tryd.cf67) .nil .nil) .nil) (.node (some Tryd.cf51) .nil .nil)) (.node (some Tryd.cf27) (.node (some Tryd.cf43) (.node (some Tryd.cf75) .nil .nil) .nil) (.node (some Tryd.cf59) .nil .nil)))) (.node (some Tryd.cf5) (.node (some Tryd.cf9) (.node (some Tryd.cf17) (.node (some Tryd.cf33) (.node (some Tryd.cf65) .nil .nil) .nil) (.node (some Tryd.cf49) (.node (some Tryd.cf81) .nil .nil) .nil)) (.node (some Tryd.cf25) (.node (some Tryd.cf41) (.node (some Tryd.cf73) .nil .nil) .nil) (.node (some Tryd.cf57) .nil .nil))) (.node (some Tryd.cf13) (.node (some Tryd.cf21) (.node (some Tryd.cf37) (.node (some Tryd.cf69) .nil .nil) .nil) (.node (some Tryd.cf53) .nil .nil)) (.node (some Tryd.cf29) (.node (some Tryd.cf45) (.node (some Tryd.cf77) .nil .nil) .nil) (.node (some Tryd.cf61) .nil .nil))))) (.node none (.node (some Tryd.cf4) (.node (some Tryd.cf8) (.node (some Tryd.cf16) (.node (some Tryd.cf32) (.node (some Tryd.cf64) .nil .nil) .nil) (.node (some Tryd.cf48) (.node (some Tryd.cf80) .nil .nil) .nil)) (.node (some Tryd.cf24) (.node (some Tryd.cf40) (.node (some Tryd.cf72) .nil .nil) .nil) (.node (some Tryd.cf56) .nil .nil))) (.node (some Tryd.cf12) (.node (some Tryd.cf20) (.node (some Tryd.cf36) (.node (some Tryd.cf68) .nil .nil) .nil) (.node (some Tryd.cf52) .nil .nil)) (.node (some Tryd.cf28) (.node (some Tryd.cf44) (.node (some Tryd.cf76) .nil .nil) .nil) (.node (some Tryd.cf60) .nil .nil)))) (.node (some Tryd.cf6) (.node (some Tryd.cf10) (.node (some Tryd.cf18) (.node (some Tryd.cf34) (.node (some Tryd.cf66) .nil .nil) .nil) (.node (some Tryd.cf50) .nil .nil)) (.node (some Tryd.cf26) (.node (some Tryd.cf42) (.node (some Tryd.cf74) .nil .nil) .nil) (.node (some Tryd.cf58) .nil .nil))) (.node (some Tryd.cf14) (.node (some Tryd.cf22) (.node (some Tryd.cf38) (.node (some Tryd.cf70) .nil .nil) .nil) (.node (some Tryd.cf54) .nil .nil)) (.node (some Tryd.cf30) (.node (some Tryd.cf46) (.node (some Tryd.cf78) .nil .nil) .nil) (.node (some Tryd.cf62) .nil .nil))))))
noncomputable def Tryd.rt : List (Nat × (C × C)) := [(28011, (Tryd.ra28011, Tryd.rb28011)), (33017, (Tryd.ra33017, Tryd.rb33017))]
end Go.Sx
