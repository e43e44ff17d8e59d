/- THE TABLES OF THE PROGRAM: its types, and its functions as the evaluator runs them. -/
import Derived.Test.YtkobhpalangomaaDoorSxComp
import Derived.KernelRfl
/-! THE TABLES OF THE PROGRAM: its types, and its functions as the evaluator runs them. -/
namespace Go.Sx
set_option maxRecDepth 100000
noncomputable def Tryd.ti0 : TI := ⟨.tuple #[], 1, 0, none, false⟩
noncomputable def Tryd.ti1 : TI := ⟨.func #[] #[] false, 1, 8, (some .nilFunc), false⟩
noncomputable def Tryd.ti2 : TI := ⟨.int .i64, 1, 8, (some (.int .i64 (.lit 0))), false⟩
noncomputable def Tryd.ti3 : TI := ⟨.int .i64, 1, 8, (some (.int .i64 (.lit 0))), false⟩
noncomputable def Tryd.ti4 : TI := ⟨.bool, 1, 1, (some (.bool (.lit false))), false⟩
noncomputable def Tryd.ti5 : TI := ⟨.int .u8, 1, 1, (some (.int .u8 (.lit 0))), false⟩
noncomputable def Tryd.ti6 : TI := ⟨.int .u8, 1, 1, (some (.int .u8 (.lit 0))), false⟩
noncomputable def Tryd.ti7 : TI := ⟨.struct #[⟨ "x", 2, 0, false, "", "runtime", 0⟩, ⟨ "y", 3, 1, false, "", "runtime", 8⟩, ⟨ "signed", 4, 2, false, "", "runtime", 16⟩, ⟨ "code", 6, 3, false, "", "runtime", 17⟩], 4, 24, (some (.agg [(.int .i64 (.lit 0)), (.int .i64 (.lit 0)), (.bool (.lit false)), (.int .u8 (.lit 0))])), true⟩
noncomputable def Tryd.ti8 : TI := ⟨.struct #[⟨ "x", 2, 0, false, "", "runtime", 0⟩, ⟨ "y", 3, 1, false, "", "runtime", 8⟩, ⟨ "signed", 4, 2, false, "", "runtime", 16⟩, ⟨ "code", 6, 3, false, "", "runtime", 17⟩], 4, 24, (some (.agg [(.int .i64 (.lit 0)), (.int .i64 (.lit 0)), (.bool (.lit false)), (.int .u8 (.lit 0))])), true⟩
noncomputable def Tryd.ti9 : TI := ⟨.string, 1, 16, none, false⟩
noncomputable def Tryd.ti10 : TI := ⟨.string, 1, 16, none, false⟩
noncomputable def Tryd.ti11 : TI := ⟨.string, 1, 16, none, false⟩
noncomputable def Tryd.ti12 : TI := ⟨.int .u64, 1, 8, (some (.int .u64 (.lit 0))), false⟩
noncomputable def Tryd.ti13 : TI := ⟨.struct #[⟨ "msg", 9, 0, false, "", "runtime", 0⟩, ⟨ "addr", 12, 1, false, "", "runtime", 16⟩], 2, 24, none, false⟩
noncomputable def Tryd.ti14 : TI := ⟨.struct #[⟨ "msg", 9, 0, false, "", "runtime", 0⟩, ⟨ "addr", 12, 1, false, "", "runtime", 16⟩], 2, 24, none, false⟩
noncomputable def Tryd.ti15 : TI := ⟨.pointer 136, 1, 8, (some .nilptr), false⟩
noncomputable def Tryd.ti16 : TI := ⟨.pointer 139, 1, 8, (some .nilptr), false⟩
noncomputable def Tryd.ti17 : TI := ⟨.pointer 149, 1, 8, (some .nilptr), false⟩
noncomputable def Tryd.ti18 : TI := ⟨.struct #[⟨ "typ", 17, 0, false, "", "internal/runtime/maps", 0⟩], 1, 8, (some (.agg [.nilptr])), false⟩
noncomputable def Tryd.ti19 : TI := ⟨.struct #[⟨ "typ", 17, 0, false, "", "internal/runtime/maps", 0⟩], 1, 8, (some (.agg [.nilptr])), false⟩
noncomputable def Tryd.ti20 : TI := ⟨.interface #[], 1, 16, none, false⟩
noncomputable def Tryd.ti21 : TI := ⟨.int .i32, 1, 4, (some (.int .i32 (.lit 0))), false⟩
noncomputable def Tryd.ti22 : TI := ⟨.slice 3, 1, 24, (some .nilslice), false⟩
noncomputable def Tryd.ti23 : TI := ⟨.slice 30, 1, 24, (some .nilslice), false⟩
noncomputable def Tryd.ti24 : TI := ⟨.slice 22, 1, 24, (some .nilslice), false⟩
noncomputable def Tryd.ti25 : TI := ⟨.struct #[⟨ "Wide", 3, 0, false, "", "", 0⟩, ⟨ "Deep", 3, 1, false, "", "", 8⟩, ⟨ "Trees", 22, 2, false, "", "", 16⟩, ⟨ "Things", 23, 3, false, "", "", 40⟩, ⟨ "Fire", 24, 4, false, "", "", 64⟩, ⟨ "Rent", 3, 5, false, "", "", 88⟩], 6, 96, (some (.agg [(.int .i64 (.lit 0)), (.int .i64 (.lit 0)), .nilslice, .nilslice, .nilslice, (.int .i64 (.lit 0))])), true⟩
noncomputable def Tryd.ti26 : TI := ⟨.struct #[⟨ "Wide", 3, 0, false, "", "", 0⟩, ⟨ "Deep", 3, 1, false, "", "", 8⟩, ⟨ "Trees", 22, 2, false, "", "", 16⟩, ⟨ "Things", 23, 3, false, "", "", 40⟩, ⟨ "Fire", 24, 4, false, "", "", 64⟩, ⟨ "Rent", 3, 5, false, "", "", 88⟩], 6, 96, (some (.agg [(.int .i64 (.lit 0)), (.int .i64 (.lit 0)), .nilslice, .nilslice, .nilslice, (.int .i64 (.lit 0))])), true⟩
noncomputable def Tryd.ti27 : TI := ⟨.func #[] #[26] false, 1, 8, (some .nilFunc), false⟩
noncomputable def Tryd.ti28 : TI := ⟨.slice 26, 1, 24, (some .nilslice), false⟩
noncomputable def Tryd.ti29 : TI := ⟨.struct #[⟨ "Wide", 3, 0, false, "", "", 0⟩, ⟨ "Deep", 3, 1, false, "", "", 8⟩, ⟨ "Rope", 3, 2, false, "", "", 16⟩, ⟨ "Turn", 4, 3, false, "", "", 24⟩, ⟨ "Way", 4, 4, false, "", "", 25⟩], 5, 32, (some (.agg [(.int .i64 (.lit 0)), (.int .i64 (.lit 0)), (.int .i64 (.lit 0)), (.bool (.lit false)), (.bool (.lit false))])), true⟩
noncomputable def Tryd.ti30 : TI := ⟨.struct #[⟨ "Wide", 3, 0, false, "", "", 0⟩, ⟨ "Deep", 3, 1, false, "", "", 8⟩, ⟨ "Rope", 3, 2, false, "", "", 16⟩, ⟨ "Turn", 4, 3, false, "", "", 24⟩, ⟨ "Way", 4, 4, false, "", "", 25⟩], 5, 32, (some (.agg [(.int .i64 (.lit 0)), (.int .i64 (.lit 0)), (.int .i64 (.lit 0)), (.bool (.lit false)), (.bool (.lit false))])), true⟩
noncomputable def Tryd.ti31 : TI := ⟨.int .i64, 1, 8, (some (.int .i64 (.lit 0))), false⟩
noncomputable def Tryd.ti32 : TI := ⟨.tuple #[4, 31], 1, 0, none, false⟩
noncomputable def Tryd.ti33 : TI := ⟨.func #[26, 3, 35] #[4, 31] false, 1, 8, (some .nilFunc), false⟩
noncomputable def Tryd.ti34 : TI := ⟨.struct #[⟨ "X", 3, 0, false, "", "", 0⟩, ⟨ "Y", 3, 1, false, "", "", 8⟩, ⟨ "Turned", 4, 2, false, "", "", 16⟩], 3, 24, (some (.agg [(.int .i64 (.lit 0)), (.int .i64 (.lit 0)), (.bool (.lit false))])), true⟩
noncomputable def Tryd.ti35 : TI := ⟨.struct #[⟨ "X", 3, 0, false, "", "", 0⟩, ⟨ "Y", 3, 1, false, "", "", 8⟩, ⟨ "Turned", 4, 2, false, "", "", 16⟩], 3, 24, (some (.agg [(.int .i64 (.lit 0)), (.int .i64 (.lit 0)), (.bool (.lit false))])), true⟩
noncomputable def Tryd.ti36 : TI := ⟨.func #[3, 3] #[35] false, 1, 8, (some .nilFunc), false⟩
noncomputable def Tryd.ti37 : TI := ⟨.tuple #[3, 31], 1, 0, none, false⟩
noncomputable def Tryd.ti38 : TI := ⟨.func #[26, 3, 35, 3, 35] #[3, 31] false, 1, 8, (some .nilFunc), false⟩
noncomputable def Tryd.ti39 : TI := ⟨.func #[26, 41, 3] #[3, 31] false, 1, 8, (some .nilFunc), false⟩
noncomputable def Tryd.ti40 : TI := ⟨.func #[26, 41] #[4, 31] false, 1, 8, (some .nilFunc), false⟩
noncomputable def Tryd.ti41 : TI := ⟨.slice 35, 1, 24, (some .nilslice), false⟩
noncomputable def Tryd.ti42 : TI := ⟨.tuple #[41, 31], 1, 0, none, false⟩
noncomputable def Tryd.ti43 : TI := ⟨.func #[26] #[41, 31] false, 1, 8, (some .nilFunc), false⟩
noncomputable def Tryd.ti44 : TI := ⟨.func #[26] #[3, 31] false, 1, 8, (some .nilFunc), false⟩
noncomputable def Tryd.ti45 : TI := ⟨.func #[26, 41, 3] #[41, 31] false, 1, 8, (some .nilFunc), false⟩
noncomputable def Tryd.ti46 : TI := ⟨.tuple #[22, 31], 1, 0, none, false⟩
noncomputable def Tryd.ti47 : TI := ⟨.func #[26] #[22, 31] false, 1, 8, (some .nilFunc), false⟩
noncomputable def Tryd.ti48 : TI := ⟨.func #[26] #[31] false, 1, 8, (some .nilFunc), false⟩
noncomputable def Tryd.ti49 : TI := ⟨.func #[] #[41] false, 1, 8, (some .nilFunc), false⟩
noncomputable def Tryd.ti50 : TI := ⟨.slice 41, 1, 24, (some .nilslice), false⟩
noncomputable def Tryd.ti51 : TI := ⟨.func #[3, 3, 3, 4, 4] #[30] false, 1, 8, (some .nilFunc), false⟩
noncomputable def Tryd.ti52 : TI := ⟨.func #[22, 22] #[4] false, 1, 8, (some .nilFunc), false⟩
noncomputable def Tryd.ti53 : TI := ⟨.func #[] #[4] false, 1, 8, (some .nilFunc), false⟩
noncomputable def Tryd.ti54 : TI := ⟨.array 5 3, 5, 40, (some (.agg [(.int .i64 (.lit 0)), (.int .i64 (.lit 0)), (.int .i64 (.lit 0)), (.int .i64 (.lit 0)), (.int .i64 (.lit 0))])), true⟩
noncomputable def Tryd.ti55 : TI := ⟨.array 5 3, 5, 40, (some (.agg [(.int .i64 (.lit 0)), (.int .i64 (.lit 0)), (.int .i64 (.lit 0)), (.int .i64 (.lit 0)), (.int .i64 (.lit 0))])), true⟩
noncomputable def Tryd.ti56 : TI := ⟨.map 63 67, 1, 8, (some .nilmap), false⟩
noncomputable def Tryd.ti57 : TI := ⟨.struct #[⟨ "PitchGround", 26, 0, true, "", "", 0⟩, ⟨ "trees", 55, 6, false, "", "bioscope/pitch", 96⟩, ⟨ "bodies", 56, 11, false, "", "bioscope/pitch", 136⟩], 12, 144, (some (.agg [(.int .i64 (.lit 0)), (.int .i64 (.lit 0)), .nilslice, .nilslice, .nilslice, (.int .i64 (.lit 0)), (.int .i64 (.lit 0)), (.int .i64 (.lit 0)), (.int .i64 (.lit 0)), (.int .i64 (.lit 0)), (.int .i64 (.lit 0)), .nilmap])), true⟩
noncomputable def Tryd.ti58 : TI := ⟨.struct #[⟨ "PitchGround", 26, 0, true, "", "", 0⟩, ⟨ "trees", 55, 6, false, "", "bioscope/pitch", 96⟩, ⟨ "bodies", 56, 11, false, "", "bioscope/pitch", 136⟩], 12, 144, (some (.agg [(.int .i64 (.lit 0)), (.int .i64 (.lit 0)), .nilslice, .nilslice, .nilslice, (.int .i64 (.lit 0)), (.int .i64 (.lit 0)), (.int .i64 (.lit 0)), (.int .i64 (.lit 0)), (.int .i64 (.lit 0)), (.int .i64 (.lit 0)), .nilmap])), true⟩
noncomputable def Tryd.ti59 : TI := ⟨.tuple #[58, 31], 1, 0, none, false⟩
noncomputable def Tryd.ti60 : TI := ⟨.func #[26] #[58, 31] false, 1, 8, (some .nilFunc), false⟩
noncomputable def Tryd.ti61 : TI := ⟨.func #[3] #[4] false, 1, 8, (some .nilFunc), false⟩
noncomputable def Tryd.ti62 : TI := ⟨.struct #[⟨ "thing", 3, 0, false, "", "bioscope/pitch", 0⟩, ⟨ "place", 35, 1, false, "", "bioscope/pitch", 8⟩], 4, 32, (some (.agg [(.int .i64 (.lit 0)), (.int .i64 (.lit 0)), (.int .i64 (.lit 0)), (.bool (.lit false))])), true⟩
noncomputable def Tryd.ti63 : TI := ⟨.struct #[⟨ "thing", 3, 0, false, "", "bioscope/pitch", 0⟩, ⟨ "place", 35, 1, false, "", "bioscope/pitch", 8⟩], 4, 32, (some (.agg [(.int .i64 (.lit 0)), (.int .i64 (.lit 0)), (.int .i64 (.lit 0)), (.bool (.lit false))])), true⟩
noncomputable def Tryd.ti64 : TI := ⟨.struct #[⟨ "x", 3, 0, false, "", "bioscope/pitch", 0⟩, ⟨ "y", 3, 1, false, "", "bioscope/pitch", 8⟩, ⟨ "wide", 3, 2, false, "", "bioscope/pitch", 16⟩, ⟨ "deep", 3, 3, false, "", "bioscope/pitch", 24⟩], 4, 32, (some (.agg [(.int .i64 (.lit 0)), (.int .i64 (.lit 0)), (.int .i64 (.lit 0)), (.int .i64 (.lit 0))])), true⟩
noncomputable def Tryd.ti65 : TI := ⟨.struct #[⟨ "x", 3, 0, false, "", "bioscope/pitch", 0⟩, ⟨ "y", 3, 1, false, "", "bioscope/pitch", 8⟩, ⟨ "wide", 3, 2, false, "", "bioscope/pitch", 16⟩, ⟨ "deep", 3, 3, false, "", "bioscope/pitch", 24⟩], 4, 32, (some (.agg [(.int .i64 (.lit 0)), (.int .i64 (.lit 0)), (.int .i64 (.lit 0)), (.int .i64 (.lit 0))])), true⟩
noncomputable def Tryd.ti66 : TI := ⟨.struct #[⟨ "stand", 63, 0, true, "", "bioscope/pitch", 0⟩, ⟨ "area", 65, 4, true, "", "bioscope/pitch", 32⟩, ⟨ "cells", 55, 8, false, "", "bioscope/pitch", 64⟩], 13, 104, (some (.agg [(.int .i64 (.lit 0)), (.int .i64 (.lit 0)), (.int .i64 (.lit 0)), (.bool (.lit false)), (.int .i64 (.lit 0)), (.int .i64 (.lit 0)), (.int .i64 (.lit 0)), (.int .i64 (.lit 0)), (.int .i64 (.lit 0)), (.int .i64 (.lit 0)), (.int .i64 (.lit 0)), (.int .i64 (.lit 0)), (.int .i64 (.lit 0))])), true⟩
noncomputable def Tryd.ti67 : TI := ⟨.struct #[⟨ "stand", 63, 0, true, "", "bioscope/pitch", 0⟩, ⟨ "area", 65, 4, true, "", "bioscope/pitch", 32⟩, ⟨ "cells", 55, 8, false, "", "bioscope/pitch", 64⟩], 13, 104, (some (.agg [(.int .i64 (.lit 0)), (.int .i64 (.lit 0)), (.int .i64 (.lit 0)), (.bool (.lit false)), (.int .i64 (.lit 0)), (.int .i64 (.lit 0)), (.int .i64 (.lit 0)), (.int .i64 (.lit 0)), (.int .i64 (.lit 0)), (.int .i64 (.lit 0)), (.int .i64 (.lit 0)), (.int .i64 (.lit 0)), (.int .i64 (.lit 0))])), true⟩
noncomputable def Tryd.ti68 : TI := ⟨.tuple #[67, 4], 1, 0, none, false⟩
noncomputable def Tryd.ti69 : TI := ⟨.func #[67, 67] #[4] false, 1, 8, (some .nilFunc), false⟩
noncomputable def Tryd.ti70 : TI := ⟨.func #[67, 67] #[3] false, 1, 8, (some .nilFunc), false⟩
noncomputable def Tryd.ti71 : TI := ⟨.slice 67, 1, 24, (some .nilslice), false⟩
noncomputable def Tryd.ti72 : TI := ⟨.tuple #[71, 4], 1, 0, none, false⟩
noncomputable def Tryd.ti73 : TI := ⟨.func #[41] #[71, 4] false, 1, 8, (some .nilFunc), false⟩
noncomputable def Tryd.ti74 : TI := ⟨.func #[71, 69] #[4] false, 1, 8, (some .nilFunc), false⟩
noncomputable def Tryd.ti75 : TI := ⟨.tuple #[3, 4], 1, 0, none, false⟩
noncomputable def Tryd.ti76 : TI := ⟨.func #[55, 55] #[3, 4] false, 1, 8, (some .nilFunc), false⟩
noncomputable def Tryd.ti77 : TI := ⟨.func #[71] #[55] false, 1, 8, (some .nilFunc), false⟩
noncomputable def Tryd.ti78 : TI := ⟨.func #[41] #[4] false, 1, 8, (some .nilFunc), false⟩
noncomputable def Tryd.ti79 : TI := ⟨.func #[] #[71] false, 1, 8, (some .nilFunc), false⟩
noncomputable def Tryd.ti80 : TI := ⟨.func #[71] #[3] false, 1, 8, (some .nilFunc), false⟩
noncomputable def Tryd.ti81 : TI := ⟨.func #[41, 3] #[41] false, 1, 8, (some .nilFunc), false⟩
noncomputable def Tryd.ti82 : TI := ⟨.func #[] #[22] false, 1, 8, (some .nilFunc), false⟩
noncomputable def Tryd.ti83 : TI := ⟨.func #[26] #[4] false, 1, 8, (some .nilFunc), false⟩
noncomputable def Tryd.ti84 : TI := ⟨.func #[41, 41] #[4] false, 1, 8, (some .nilFunc), false⟩
noncomputable def Tryd.ti85 : TI := ⟨.func #[116] #[] false, 1, 8, (some .nilFunc), false⟩
noncomputable def Tryd.ti86 : TI := ⟨.func #[116] #[] false, 1, 8, (some .nilFunc), false⟩
noncomputable def Tryd.ti87 : TI := ⟨.func #[] #[86] false, 1, 8, (some .nilFunc), false⟩
noncomputable def Tryd.ti88 : TI := ⟨.func #[63] #[67, 4] false, 1, 8, (some .nilFunc), false⟩
noncomputable def Tryd.ti89 : TI := ⟨.func #[55] #[55] false, 1, 8, (some .nilFunc), false⟩
noncomputable def Tryd.ti90 : TI := ⟨.func #[65, 65] #[3] false, 1, 8, (some .nilFunc), false⟩
noncomputable def Tryd.ti91 : TI := ⟨.func #[65] #[3] false, 1, 8, (some .nilFunc), false⟩
noncomputable def Tryd.ti92 : TI := ⟨.array 2 90, 2, 16, (some (.agg [.nilFunc, .nilFunc])), true⟩
noncomputable def Tryd.ti93 : TI := ⟨.func #[3, 22] #[3] true, 1, 8, (some .nilFunc), false⟩
noncomputable def Tryd.ti94 : TI := ⟨.func #[] #[55] false, 1, 8, (some .nilFunc), false⟩
noncomputable def Tryd.ti95 : TI := ⟨.func #[96] #[55] false, 1, 8, (some .nilFunc), false⟩
noncomputable def Tryd.ti96 : TI := ⟨.func #[3, 3] #[4] false, 1, 8, (some .nilFunc), false⟩
noncomputable def Tryd.ti97 : TI := ⟨.struct #[⟨ "wide", 3, 0, false, "", "bioscope/pitch", 0⟩, ⟨ "deep", 3, 1, false, "", "bioscope/pitch", 8⟩, ⟨ "taken", 55, 2, false, "", "bioscope/pitch", 16⟩], 7, 56, (some (.agg [(.int .i64 (.lit 0)), (.int .i64 (.lit 0)), (.int .i64 (.lit 0)), (.int .i64 (.lit 0)), (.int .i64 (.lit 0)), (.int .i64 (.lit 0)), (.int .i64 (.lit 0))])), true⟩
noncomputable def Tryd.ti98 : TI := ⟨.struct #[⟨ "wide", 3, 0, false, "", "bioscope/pitch", 0⟩, ⟨ "deep", 3, 1, false, "", "bioscope/pitch", 8⟩, ⟨ "taken", 55, 2, false, "", "bioscope/pitch", 16⟩], 7, 56, (some (.agg [(.int .i64 (.lit 0)), (.int .i64 (.lit 0)), (.int .i64 (.lit 0)), (.int .i64 (.lit 0)), (.int .i64 (.lit 0)), (.int .i64 (.lit 0)), (.int .i64 (.lit 0))])), true⟩
noncomputable def Tryd.ti99 : TI := ⟨.func #[71] #[4] false, 1, 8, (some .nilFunc), false⟩
noncomputable def Tryd.ti100 : TI := ⟨.func #[71, 71] #[4] false, 1, 8, (some .nilFunc), false⟩
noncomputable def Tryd.ti101 : TI := ⟨.struct #[⟨ "ground", 58, 0, true, "", "bioscope/pitch", 0⟩, ⟨ "better", 100, 12, false, "", "bioscope/pitch", 144⟩], 13, 152, (some (.agg [(.int .i64 (.lit 0)), (.int .i64 (.lit 0)), .nilslice, .nilslice, .nilslice, (.int .i64 (.lit 0)), (.int .i64 (.lit 0)), (.int .i64 (.lit 0)), (.int .i64 (.lit 0)), (.int .i64 (.lit 0)), (.int .i64 (.lit 0)), .nilmap, .nilFunc])), true⟩
noncomputable def Tryd.ti102 : TI := ⟨.struct #[⟨ "ground", 58, 0, true, "", "bioscope/pitch", 0⟩, ⟨ "better", 100, 12, false, "", "bioscope/pitch", 144⟩], 13, 152, (some (.agg [(.int .i64 (.lit 0)), (.int .i64 (.lit 0)), .nilslice, .nilslice, .nilslice, (.int .i64 (.lit 0)), (.int .i64 (.lit 0)), (.int .i64 (.lit 0)), (.int .i64 (.lit 0)), (.int .i64 (.lit 0)), (.int .i64 (.lit 0)), .nilmap, .nilFunc])), true⟩
noncomputable def Tryd.ti103 : TI := ⟨.func #[22] #[71] false, 1, 8, (some .nilFunc), false⟩
noncomputable def Tryd.ti104 : TI := ⟨.func #[3] #[22] false, 1, 8, (some .nilFunc), false⟩
noncomputable def Tryd.ti105 : TI := ⟨.func #[41] #[41] false, 1, 8, (some .nilFunc), false⟩
noncomputable def Tryd.ti106 : TI := ⟨.func #[123] #[] false, 1, 8, (some .nilFunc), false⟩
noncomputable def Tryd.ti107 : TI := ⟨.func #[123] #[] false, 1, 8, (some .nilFunc), false⟩
noncomputable def Tryd.ti108 : TI := ⟨.func #[3] #[107] false, 1, 8, (some .nilFunc), false⟩
noncomputable def Tryd.ti109 : TI := ⟨.array 4 3, 4, 32, (some (.agg [(.int .i64 (.lit 0)), (.int .i64 (.lit 0)), (.int .i64 (.lit 0)), (.int .i64 (.lit 0))])), true⟩
noncomputable def Tryd.ti110 : TI := ⟨.func #[3, 112] #[4] false, 1, 8, (some .nilFunc), false⟩
noncomputable def Tryd.ti111 : TI := ⟨.struct #[⟨ "Low", 3, 0, false, "", "", 0⟩, ⟨ "High", 3, 1, false, "", "", 8⟩], 2, 16, (some (.agg [(.int .i64 (.lit 0)), (.int .i64 (.lit 0))])), true⟩
noncomputable def Tryd.ti112 : TI := ⟨.struct #[⟨ "Low", 3, 0, false, "", "", 0⟩, ⟨ "High", 3, 1, false, "", "", 8⟩], 2, 16, (some (.agg [(.int .i64 (.lit 0)), (.int .i64 (.lit 0))])), true⟩
noncomputable def Tryd.ti113 : TI := ⟨.array 4 112, 8, 64, (some (.agg [(.int .i64 (.lit 0)), (.int .i64 (.lit 0)), (.int .i64 (.lit 0)), (.int .i64 (.lit 0)), (.int .i64 (.lit 0)), (.int .i64 (.lit 0)), (.int .i64 (.lit 0)), (.int .i64 (.lit 0))])), true⟩
noncomputable def Tryd.ti114 : TI := ⟨.func #[30] #[4] false, 1, 8, (some .nilFunc), false⟩
noncomputable def Tryd.ti115 : TI := ⟨.func #[24, 3] #[4] false, 1, 8, (some .nilFunc), false⟩
noncomputable def Tryd.ti116 : TI := ⟨.func #[35] #[4] false, 1, 8, (some .nilFunc), false⟩
noncomputable def Tryd.ti117 : TI := ⟨.int .u64, 1, 8, (some (.int .u64 (.lit 0))), false⟩
noncomputable def Tryd.ti118 : TI := ⟨.func #[3, 3] #[3] false, 1, 8, (some .nilFunc), false⟩
noncomputable def Tryd.ti119 : TI := ⟨.slice 71, 1, 24, (some .nilslice), false⟩
noncomputable def Tryd.ti120 : TI := ⟨.func #[22] #[119] false, 1, 8, (some .nilFunc), false⟩
noncomputable def Tryd.ti121 : TI := ⟨.func #[3] #[] false, 1, 8, (some .nilFunc), false⟩
noncomputable def Tryd.ti122 : TI := ⟨.func #[71] #[71] false, 1, 8, (some .nilFunc), false⟩
noncomputable def Tryd.ti123 : TI := ⟨.func #[67] #[4] false, 1, 8, (some .nilFunc), false⟩
noncomputable def Tryd.ti124 : TI := ⟨.func #[22, 22] #[3] false, 1, 8, (some .nilFunc), false⟩
noncomputable def Tryd.ti125 : TI := ⟨.array 3 3, 3, 24, (some (.agg [(.int .i64 (.lit 0)), (.int .i64 (.lit 0)), (.int .i64 (.lit 0))])), true⟩
noncomputable def Tryd.ti126 : TI := ⟨.array 3 112, 6, 48, (some (.agg [(.int .i64 (.lit 0)), (.int .i64 (.lit 0)), (.int .i64 (.lit 0)), (.int .i64 (.lit 0)), (.int .i64 (.lit 0)), (.int .i64 (.lit 0))])), true⟩
noncomputable def Tryd.ti127 : TI := ⟨.func #[22] #[22] false, 1, 8, (some .nilFunc), false⟩
noncomputable def Tryd.ti128 : TI := ⟨.func #[22, 118] #[] false, 1, 8, (some .nilFunc), false⟩
noncomputable def Tryd.ti129 : TI := ⟨.func #[3] #[3] false, 1, 8, (some .nilFunc), false⟩
noncomputable def Tryd.ti130 : TI := ⟨.func #[3] #[71] false, 1, 8, (some .nilFunc), false⟩
noncomputable def Tryd.ti131 : TI := ⟨.func #[22, 3, 118] #[] false, 1, 8, (some .nilFunc), false⟩
noncomputable def Tryd.ti132 : TI := ⟨.func #[22, 3, 3, 118] #[] false, 1, 8, (some .nilFunc), false⟩
noncomputable def Tryd.ti133 : TI := ⟨.func #[22, 3, 3, 3, 118] #[] false, 1, 8, (some .nilFunc), false⟩
noncomputable def Tryd.ti134 : TI := ⟨.func #[] #[9] false, 1, 8, (some .nilFunc), false⟩
noncomputable def Tryd.ti135 : TI := ⟨.struct #[⟨ "_interface", 17, 0, false, "", "runtime", 0⟩, ⟨ "concrete", 17, 1, false, "", "runtime", 8⟩, ⟨ "asserted", 17, 2, false, "", "runtime", 16⟩, ⟨ "missingMethod", 9, 3, false, "", "runtime", 24⟩], 4, 40, none, false⟩
noncomputable def Tryd.ti136 : TI := ⟨.struct #[⟨ "_interface", 17, 0, false, "", "runtime", 0⟩, ⟨ "concrete", 17, 1, false, "", "runtime", 8⟩, ⟨ "asserted", 17, 2, false, "", "runtime", 16⟩, ⟨ "missingMethod", 9, 3, false, "", "runtime", 24⟩], 4, 40, none, false⟩
noncomputable def Tryd.ti137 : TI := ⟨.array 0 16, 0, 0, (some (.agg [])), true⟩
noncomputable def Tryd.ti138 : TI := ⟨.struct #[⟨ "_", 137, 0, false, "", "runtime", 0⟩], 0, 0, (some (.agg [])), false⟩
noncomputable def Tryd.ti139 : TI := ⟨.struct #[⟨ "_", 137, 0, false, "", "runtime", 0⟩], 0, 0, (some (.agg [])), false⟩
noncomputable def Tryd.ti140 : TI := ⟨.func #[] #[3] false, 1, 8, (some .nilFunc), false⟩
noncomputable def Tryd.ti141 : TI := ⟨.int .u32, 1, 4, (some (.int .u32 (.lit 0))), false⟩
noncomputable def Tryd.ti142 : TI := ⟨.int .u8, 1, 1, (some (.int .u8 (.lit 0))), false⟩
noncomputable def Tryd.ti143 : TI := ⟨.int .u8, 1, 1, (some (.int .u8 (.lit 0))), false⟩
noncomputable def Tryd.ti144 : TI := ⟨.func #[150, 150] #[4] false, 1, 8, (some .nilFunc), false⟩
noncomputable def Tryd.ti145 : TI := ⟨.pointer 5, 1, 8, (some .nilptr), false⟩
noncomputable def Tryd.ti146 : TI := ⟨.int .i32, 1, 4, (some (.int .i32 (.lit 0))), false⟩
noncomputable def Tryd.ti147 : TI := ⟨.int .i32, 1, 4, (some (.int .i32 (.lit 0))), false⟩
noncomputable def Tryd.ti148 : TI := ⟨.struct #[⟨ "Size_", 12, 0, false, "", "", 0⟩, ⟨ "PtrBytes", 12, 1, false, "", "", 8⟩, ⟨ "Hash", 141, 2, false, "", "", 16⟩, ⟨ "TFlag", 142, 3, false, "", "", 20⟩, ⟨ "Align_", 5, 4, false, "", "", 21⟩, ⟨ "FieldAlign_", 5, 5, false, "", "", 22⟩, ⟨ "Kind_", 143, 6, false, "", "", 23⟩, ⟨ "Equal", 144, 7, false, "", "", 24⟩, ⟨ "GCData", 145, 8, false, "", "", 32⟩, ⟨ "Str", 146, 9, false, "", "", 40⟩, ⟨ "PtrToThis", 147, 10, false, "", "", 44⟩], 11, 48, (some (.agg [(.int .u64 (.lit 0)), (.int .u64 (.lit 0)), (.int .u32 (.lit 0)), (.int .u8 (.lit 0)), (.int .u8 (.lit 0)), (.int .u8 (.lit 0)), (.int .u8 (.lit 0)), .nilFunc, .nilptr, (.int .i32 (.lit 0)), (.int .i32 (.lit 0))])), false⟩
noncomputable def Tryd.ti149 : TI := ⟨.struct #[⟨ "Size_", 12, 0, false, "", "", 0⟩, ⟨ "PtrBytes", 12, 1, false, "", "", 8⟩, ⟨ "Hash", 141, 2, false, "", "", 16⟩, ⟨ "TFlag", 142, 3, false, "", "", 20⟩, ⟨ "Align_", 5, 4, false, "", "", 21⟩, ⟨ "FieldAlign_", 5, 5, false, "", "", 22⟩, ⟨ "Kind_", 143, 6, false, "", "", 23⟩, ⟨ "Equal", 144, 7, false, "", "", 24⟩, ⟨ "GCData", 145, 8, false, "", "", 32⟩, ⟨ "Str", 146, 9, false, "", "", 40⟩, ⟨ "PtrToThis", 147, 10, false, "", "", 44⟩], 11, 48, (some (.agg [(.int .u64 (.lit 0)), (.int .u64 (.lit 0)), (.int .u32 (.lit 0)), (.int .u8 (.lit 0)), (.int .u8 (.lit 0)), (.int .u8 (.lit 0)), (.int .u8 (.lit 0)), .nilFunc, .nilptr, (.int .i32 (.lit 0)), (.int .i32 (.lit 0))])), false⟩
noncomputable def Tryd.tt : PT TI := (.node (some Tryd.ti0) (.node (some Tryd.ti1) (.node (some Tryd.ti3) (.node (some Tryd.ti7) (.node (some Tryd.ti15) (.node (some Tryd.ti31) (.node (some Tryd.ti63) (.node (some Tryd.ti127) .nil .nil) .nil) (.node (some Tryd.ti95) .nil .nil)) (.node (some Tryd.ti47) (.node (some Tryd.ti79) (.node (some Tryd.ti143) .nil .nil) .nil) (.node (some Tryd.ti111) .nil .nil))) (.node (some Tryd.ti23) (.node (some Tryd.ti39) (.node (some Tryd.ti71) (.node (some Tryd.ti135) .nil .nil) .nil) (.node (some Tryd.ti103) .nil .nil)) (.node (some Tryd.ti55) (.node (some Tryd.ti87) .nil .nil) (.node (some Tryd.ti119) .nil .nil)))) (.node (some Tryd.ti11) (.node (some Tryd.ti19) (.node (some Tryd.ti35) (.node (some Tryd.ti67) (.node (some Tryd.ti131) .nil .nil) .nil) (.node (some Tryd.ti99) .nil .nil)) (.node (some Tryd.ti51) (.node (some Tryd.ti83) (.node (some Tryd.ti147) .nil .nil) .nil) (.node (some Tryd.ti115) .nil .nil))) (.node (some Tryd.ti27) (.node (some Tryd.ti43) (.node (some Tryd.ti75) (.node (some Tryd.ti139) .nil .nil) .nil) (.node (some Tryd.ti107) .nil .nil)) (.node (some Tryd.ti59) (.node (some Tryd.ti91) .nil .nil) (.node (some Tryd.ti123) .nil .nil))))) (.node (some Tryd.ti5) (.node (some Tryd.ti9) (.node (some Tryd.ti17) (.node (some Tryd.ti33) (.node (some Tryd.ti65) (.node (some Tryd.ti129) .nil .nil) .nil) (.node (some Tryd.ti97) .nil .nil)) (.node (some Tryd.ti49) (.node (some Tryd.ti81) (.node (some Tryd.ti145) .nil .nil) .nil) (.node (some Tryd.ti113) .nil .nil))) (.node (some Tryd.ti25) (.node (some Tryd.ti41) (.node (some Tryd.ti73) (.node (some Tryd.ti137) .nil .nil) .nil) (.node (some Tryd.ti105) .nil .nil)) (.node (some Tryd.ti57) (.node (some Tryd.ti89) .nil .nil) (.node (some Tryd.ti121) .nil .nil)))) (.node (some Tryd.ti13) (.node (some Tryd.ti21) (.node (some Tryd.ti37) (.node (some Tryd.ti69) (.node (some Tryd.ti133) .nil .nil) .nil) (.node (some Tryd.ti101) .nil .nil)) (.node (some Tryd.ti53) (.node (some Tryd.ti85) (.node (some Tryd.ti149) .nil .nil) .nil) (.node (some Tryd.ti117) .nil .nil))) (.node (some Tryd.ti29) (.node (some Tryd.ti45) (.node (some Tryd.ti77) (.node (some Tryd.ti141) .nil .nil) .nil) (.node (some Tryd.ti109) .nil .nil)) (.node (some Tryd.ti61) (.node (some Tryd.ti93) .nil .nil) (.node (some Tryd.ti125) .nil .nil)))))) (.node (some Tryd.ti2) (.node (some Tryd.ti4) (.node (some Tryd.ti8) (.node (some Tryd.ti16) (.node (some Tryd.ti32) (.node (some Tryd.ti64) (.node (some Tryd.ti128) .nil .nil) .nil) (.node (some Tryd.ti96) .nil .nil)) (.node (some Tryd.ti48) (.node (some Tryd.ti80) (.node (some Tryd.ti144) .nil .nil) .nil) (.node (some Tryd.ti112) .nil .nil))) (.node (some Tryd.ti24) (.node (some Tryd.ti40) (.node (some Tryd.ti72) (.node (some Tryd.ti136) .nil .nil) .nil) (.node (some Tryd.ti104) .nil .nil)) (.node (some Tryd.ti56) (.node (some Tryd.ti88) .nil .nil) (.node (some Tryd.ti120) .nil .nil)))) (.node (some Tryd.ti12) (.node (some Tryd.ti20) (.node (some Tryd.ti36) (.node (some Tryd.ti68) (.node (some Tryd.ti132) .nil .nil) .nil) (.node (some Tryd.ti100) .nil .nil)) (.node (some Tryd.ti52) (.node (some Tryd.ti84) (.node (some Tryd.ti148) .nil .nil) .nil) (.node (some Tryd.ti116) .nil .nil))) (.node (some Tryd.ti28) (.node (some Tryd.ti44) (.node (some Tryd.ti76) (.node (some Tryd.ti140) .nil .nil) .nil) (.node (some Tryd.ti108) .nil .nil)) (.node (some Tryd.ti60) (.node (some Tryd.ti92) .nil .nil) (.node (some Tryd.ti124) .nil .nil))))) (.node (some Tryd.ti6) (.node (some Tryd.ti10) (.node (some Tryd.ti18) (.node (some Tryd.ti34) (.node (some Tryd.ti66) (.node (some Tryd.ti130) .nil .nil) .nil) (.node (some Tryd.ti98) .nil .nil)) (.node (some Tryd.ti50) (.node (some Tryd.ti82) (.node (some Tryd.ti146) .nil .nil) .nil) (.node (some Tryd.ti114) .nil .nil))) (.node (some Tryd.ti26) (.node (some Tryd.ti42) (.node (some Tryd.ti74) (.node (some Tryd.ti138) .nil .nil) .nil) (.node (some Tryd.ti106) .nil .nil)) (.node (some Tryd.ti58) (.node (some Tryd.ti90) .nil .nil) (.node (some Tryd.ti122) .nil .nil)))) (.node (some Tryd.ti14) (.node (some Tryd.ti22) (.node (some Tryd.ti38) (.node (some Tryd.ti70) (.node (some Tryd.ti134) .nil .nil) .nil) (.node (some Tryd.ti102) .nil .nil)) (.node (some Tryd.ti54) (.node (some Tryd.ti86) (.node none .nil .nil) .nil) (.node (some Tryd.ti118) .nil .nil))) (.node (some Tryd.ti30) (.node (some Tryd.ti46) (.node (some Tryd.ti78) (.node (some Tryd.ti142) .nil .nil) .nil) (.node (some Tryd.ti110) .nil .nil)) (.node (some Tryd.ti62) (.node (some Tryd.ti94) .nil .nil) (.node (some Tryd.ti126) .nil .nil)))))))
noncomputable def Tryd.kp3 : List Nat := [0, 1, 2, 4, 6, 8, 10, 12, 14, 16, 18, 19, 20, 21, 22, 24, 26, 28, 30, 32, 34, 36, 38, 39, 40, 41, 42, 43, 44, 45, 46,
 113, 220, 251, 267, 353, 408]
noncomputable def Tryd.cf3 : CF := ⟨0, (cSeq (cOps [⟨some 0, true, none, iMov (.c (.bool (.lit false)))⟩])
 (cSeq (cOps [⟨some 47, false, none, iBuild [(.int .i64 (.lit 0)), (.int .i64 (.lit 0)), .nilslice, .nilslice, .nilslice, (.int .i64 (.lit 0))] []⟩,
 ⟨some 48, false, none, iCall (.c (.func (.func 4) [] [])) []⟩,
 ⟨some 49, false, none, iCall (.c (.func (.func 4) [] [])) []⟩,
 ⟨some 50, false, none, iCall (.c (.func (.func 4) [] [])) []⟩,
 ⟨some 51, false, none, iCall (.c (.func (.func 4) [] [])) []⟩,
 ⟨some 52, false, none, iCall (.c (.func (.func 4) [] [])) []⟩,
 ⟨some 53, false, none, iCall (.c (.func (.func 4) [] [])) []⟩,
 ⟨some 54, false, none, iCall (.c (.func (.func 4) [] [])) []⟩,
 ⟨some 55, false, none, iCall (.c (.func (.func 4) [] [])) []⟩,
 ⟨some 56, false, none, iCall (.c (.func (.func 4) [] [])) []⟩,
 ⟨some 57, false, none, iCall (.c (.func (.func 4) [] [])) []⟩,
 ⟨some 58, false, none, iBslice 26 [(.int .i64 (.lit 0)), (.int .i64 (.lit 0)), .nilslice, .nilslice, .nilslice, (.int .i64 (.lit 0))] 11 [(0, 6, (.t 47)), (6, 6, (.t 48)), (12, 6, (.t 49)), (18, 6, (.t 50)), (24, 6, (.t 51)), (30, 6, (.t 52)), (36, 6, (.t 53)), (42, 6, (.t 54)), (48, 6, (.t 55)), (54, 6, (.t 56)), (60, 6, (.t 57))]⟩,
 ⟨some 1, true, none, iMov (.t 58)⟩])
 (cSeq (cOps [⟨some 59, false, none, iMov (.t 1)⟩,
 ⟨some 60, false, none, iIaddr 6 (.t 59) (.c (.int .i64 (.lit 1)))⟩,
 ⟨some 61, false, none, iFaddr 0 (.t 60)⟩,
 ⟨none, false, none, iStore 1 (.t 61) (.c (.int .i64 (.lit 7)))⟩])
 (cSeq (cOps [⟨some 62, false, none, iMov (.t 1)⟩,
 ⟨some 63, false, none, iIaddr 6 (.t 62) (.c (.int .i64 (.lit 2)))⟩,
 ⟨some 64, false, none, iFaddr 1 (.t 63)⟩,
 ⟨none, false, none, iStore 1 (.t 64) (.c (.int .i64 (.lit 5)))⟩])
 (cSeq (cOps [⟨some 65, false, none, iMov (.t 1)⟩,
 ⟨some 66, false, none, iIaddr 6 (.t 65) (.c (.int .i64 (.lit 3)))⟩,
 ⟨some 67, false, none, iFaddr 2 (.t 66)⟩,
 ⟨some 68, false, none, iLoad (.t 67)⟩,
 ⟨some 69, false, none, iIaddr 1 (.t 68) (.c (.int .i64 (.lit 0)))⟩,
 ⟨none, false, none, iStore 1 (.t 69) (.c (.int .i64 (.lit 64)))⟩])
 (cSeq (cOps [⟨some 70, false, none, iMov (.t 1)⟩,
 ⟨some 71, false, none, iMkslice 30 [(.int .i64 (.lit 0)), (.int .i64 (.lit 0)), (.int .i64 (.lit 0)), (.bool (.lit false)), (.bool (.lit false))] 32 (.c (.int .i64 (.lit 5))) (.c (.int .i64 (.lit 5)))⟩,
 ⟨some 72, false, none, iIaddr 6 (.t 70) (.c (.int .i64 (.lit 4)))⟩,
 ⟨some 73, false, none, iFaddr 3 (.t 72)⟩,
 ⟨none, false, none, iStore 1 (.t 73) (.t 71)⟩])
 (cSeq (cOps [⟨some 74, false, none, iMov (.t 1)⟩,
 ⟨some 75, false, none, iIaddr 6 (.t 74) (.c (.int .i64 (.lit 5)))⟩,
 ⟨some 76, false, none, iFaddr 3 (.t 75)⟩,
 ⟨some 77, false, none, iLoad (.t 76)⟩,
 ⟨some 78, false, none, iIaddr 5 (.t 77) (.c (.int .i64 (.lit 0)))⟩,
 ⟨some 79, false, none, iFaddr 1 (.t 78)⟩,
 ⟨none, false, none, iStore 1 (.t 79) (.c (.int .i64 (.lit 6)))⟩])
 (cSeq (cOps [⟨some 80, false, none, iMov (.t 1)⟩,
 ⟨some 81, false, none, iIaddr 6 (.t 80) (.c (.int .i64 (.lit 6)))⟩,
 ⟨some 82, false, none, iFaddr 3 (.t 81)⟩,
 ⟨some 83, false, none, iLoad (.t 82)⟩,
 ⟨some 84, false, none, iIaddr 5 (.t 83) (.c (.int .i64 (.lit 0)))⟩,
 ⟨some 85, false, none, iFaddr 2 (.t 84)⟩,
 ⟨none, false, none, iStore 1 (.t 85) (.c (.int .i64 (.lit 4)))⟩])
 (cSeq (cOps [⟨some 86, false, none, iMov (.t 1)⟩,
 ⟨some 87, false, none, iIaddr 6 (.t 86) (.c (.int .i64 (.lit 7)))⟩,
 ⟨some 88, false, none, iFaddr 4 (.t 87)⟩,
 ⟨some 89, false, none, iLoad (.t 88)⟩,
 ⟨some 90, false, none, iBslice 3 [(.int .i64 (.lit 0))] 2 [(0, 1, (.c (.int .i64 (.lit 0)))), (1, 1, (.c (.int .i64 (.lit 0))))]⟩,
 ⟨some 91, false, none, iIaddr 1 (.t 89) (.c (.int .i64 (.lit 0)))⟩,
 ⟨none, false, none, iStore 1 (.t 91) (.t 90)⟩])
 (cSeq (cOps [⟨some 92, false, none, iMov (.t 1)⟩,
 ⟨some 93, false, none, iIaddr 6 (.t 92) (.c (.int .i64 (.lit 8)))⟩,
 ⟨some 94, false, none, iFaddr 4 (.t 93)⟩,
 ⟨some 95, false, none, iLoad (.t 94)⟩,
 ⟨some 96, false, none, iIaddr 1 (.t 95) (.c (.int .i64 (.lit 0)))⟩,
 ⟨some 97, false, none, iLoad (.t 96)⟩,
 ⟨some 98, false, none, iIaddr 1 (.t 97) (.c (.int .i64 (.lit 1)))⟩,
 ⟨none, false, none, iStore 1 (.t 98) (.c (.int .i64 (.lit 1)))⟩])
 (cSeq (cOps [⟨some 99, false, none, iMov (.t 1)⟩,
 ⟨some 100, false, none, iMov (.t 1)⟩,
 ⟨some 101, false, none, iIaddr 6 (.t 100) (.c (.int .i64 (.lit 9)))⟩,
 ⟨some 102, false, none, iFaddr 4 (.t 101)⟩,
 ⟨some 103, false, none, iLoad (.t 102)⟩,
 ⟨some 104, false, none, iSlice 1 (.t 103) none (some (.c (.int .i64 (.lit 2)))) none⟩,
 ⟨some 105, false, none, iIaddr 6 (.t 99) (.c (.int .i64 (.lit 9)))⟩,
 ⟨some 106, false, none, iFaddr 4 (.t 105)⟩,
 ⟨none, false, none, iStore 1 (.t 106) (.t 104)⟩])
 (cSeq (cOps [⟨some 107, false, none, iMov (.t 1)⟩,
 ⟨some 108, false, none, iIaddr 6 (.t 107) (.c (.int .i64 (.lit 10)))⟩,
 ⟨some 109, false, none, iFaddr 5 (.t 108)⟩,
 ⟨none, false, none, iStore 1 (.t 109) (.c (.int .i64 (.lit 1001)))⟩])
 (cSeq (cSeq (cOps [⟨some 2, true, none, iMov (.c (.int .i64 (.lit 0)))⟩])
 (cBlock 0 (cLoop (cSeq (cSeq (cOps [⟨some 110, false, none, iMov (.t 2)⟩,
 ⟨some 111, false, none, iMov (.t 1)⟩,
 ⟨some 112, false, none, iLenS (.t 111)⟩,
 ⟨some 113, true, none, iCmp .lss (.t 110) (.t 112)⟩])
 (cCond (.t 113) cSkip (cExit 0)))
 (cSeq (cBlock 1 (cSeq (dOps 0 [⟨⟨some 117, false, none, iMov (.t 1)⟩, [1], false, 0, 1, none, []⟩,
 ⟨⟨some 118, false, none, iMov (.t 2)⟩, [2], false, 0, 1, none, []⟩,
 ⟨⟨some 119, false, none, iIaddr 6 (.t 117) (.t 118)⟩, [117, 118], false, 0, 1, none, []⟩,
 ⟨⟨some 120, false, none, iLoadN 6 (.t 119)⟩, [119], false, 0, 1, none, []⟩,
 ⟨⟨some 121, false, none, iCall (.c (.func (.func 6) [] [])) [(.c (.int .i64 (.lit 0))), (.c (.int .i64 (.lit 0)))]⟩, [], true, 0, 0, none, []⟩,
 ⟨⟨some 122, false, none, iCall (.c (.func (.func 5) [] [])) [(.t 120), (.c (.int .i64 (.lit (-1)))), (.t 121)]⟩, [120, 121], true, 1, 0, none, []⟩,
 ⟨⟨some 116, false, none, iMov (.t 122)⟩, [122], false, 2, 2, none, []⟩,
 ⟨⟨some 123, false, none, iExtract 0 (.t 116)⟩, [116], false, 2, 2, none, []⟩,
 ⟨⟨some 124, false, none, iExtract 1 (.t 116)⟩, [116], false, 2, 2, none, []⟩,
 ⟨⟨some 3, false, none, iMov (.t 123)⟩, [123], false, 2, 2, none, []⟩,
 ⟨⟨some 4, true, none, iMov (.t 124)⟩, [124], false, 2, 2, none, []⟩])
 (cSeq (dOps 0 [⟨⟨some 126, false, none, iMov (.t 1)⟩, [1], false, 0, 2, none, []⟩,
 ⟨⟨some 127, false, none, iMov (.t 2)⟩, [2], false, 0, 2, none, []⟩,
 ⟨⟨some 128, false, none, iIaddr 6 (.t 126) (.t 127)⟩, [126, 127], false, 0, 2, none, []⟩,
 ⟨⟨some 129, false, none, iLoadN 6 (.t 128)⟩, [128], false, 0, 2, none, []⟩,
 ⟨⟨some 130, false, none, iCall (.c (.func (.func 6) [] [])) [(.c (.int .i64 (.lit 0))), (.c (.int .i64 (.lit 0)))]⟩, [], true, 0, 0, none, []⟩,
 ⟨⟨some 131, false, none, iCall (.c (.func (.func 6) [] [])) [(.c (.int .i64 (.lit 0))), (.c (.int .i64 (.lit 0)))]⟩, [], true, 1, 0, none, []⟩,
 ⟨⟨some 132, false, none, iCall (.c (.func (.func 7) [] [])) [(.t 129), (.c (.int .i64 (.lit (-1)))), (.t 130), (.c (.int .i64 (.lit (-1)))), (.t 131)]⟩, [129, 130, 131], true, 2, 0, none, []⟩,
 ⟨⟨some 125, false, none, iMov (.t 132)⟩, [132], false, 3, 3, none, []⟩,
 ⟨⟨some 133, false, none, iExtract 0 (.t 125)⟩, [125], false, 3, 3, none, []⟩,
 ⟨⟨some 134, false, none, iExtract 1 (.t 125)⟩, [125], false, 3, 3, none, []⟩,
 ⟨⟨some 5, false, none, iMov (.t 133)⟩, [133], false, 3, 3, none, []⟩,
 ⟨⟨some 6, true, none, iMov (.t 134)⟩, [134], false, 3, 3, none, []⟩])
 (cSeq (cOps [⟨some 136, false, none, iMov (.t 1)⟩,
 ⟨some 137, false, none, iMov (.t 2)⟩,
 ⟨some 138, false, none, iIaddr 6 (.t 136) (.t 137)⟩,
 ⟨some 139, false, none, iLoadN 6 (.t 138)⟩,
 ⟨some 140, false, none, iCall (.c (.func (.func 8) [] [])) [(.t 139), (.c .nilslice), (.c (.int .i64 (.lit (-1))))]⟩,
 ⟨some 135, false, none, iMov (.t 140)⟩,
 ⟨some 141, false, none, iExtract 0 (.t 135)⟩,
 ⟨some 142, false, none, iExtract 1 (.t 135)⟩,
 ⟨some 7, false, none, iMov (.t 141)⟩,
 ⟨some 8, true, none, iMov (.t 142)⟩])
 (cSeq (cOps [⟨some 144, false, none, iMov (.t 1)⟩,
 ⟨some 145, false, none, iMov (.t 2)⟩,
 ⟨some 146, false, none, iIaddr 6 (.t 144) (.t 145)⟩,
 ⟨some 147, false, none, iLoadN 6 (.t 146)⟩,
 ⟨some 148, false, none, iCall (.c (.func (.func 9) [] [])) [(.t 147), (.c .nilslice)]⟩,
 ⟨some 143, false, none, iMov (.t 148)⟩,
 ⟨some 149, false, none, iExtract 0 (.t 143)⟩,
 ⟨some 150, false, none, iExtract 1 (.t 143)⟩,
 ⟨some 9, false, none, iMov (.t 149)⟩,
 ⟨some 10, true, none, iMov (.t 150)⟩])
 (cSeq (cOps [⟨some 152, false, none, iMov (.t 1)⟩,
 ⟨some 153, false, none, iMov (.t 2)⟩,
 ⟨some 154, false, none, iIaddr 6 (.t 152) (.t 153)⟩,
 ⟨some 155, false, none, iLoadN 6 (.t 154)⟩,
 ⟨some 156, false, none, iCall (.c (.func (.func 10) [] [])) [(.t 155)]⟩,
 ⟨some 151, false, none, iMov (.t 156)⟩,
 ⟨some 157, false, none, iExtract 0 (.t 151)⟩,
 ⟨some 158, false, none, iExtract 1 (.t 151)⟩,
 ⟨some 11, false, none, iMov (.t 157)⟩,
 ⟨some 12, true, none, iMov (.t 158)⟩])
 (cSeq (cOps [⟨some 160, false, none, iMov (.t 1)⟩,
 ⟨some 161, false, none, iMov (.t 2)⟩,
 ⟨some 162, false, none, iIaddr 6 (.t 160) (.t 161)⟩,
 ⟨some 163, false, none, iLoadN 6 (.t 162)⟩,
 ⟨some 164, false, none, iCall (.c (.func (.func 11) [] [])) [(.t 163)]⟩,
 ⟨some 159, false, none, iMov (.t 164)⟩,
 ⟨some 165, false, none, iExtract 0 (.t 159)⟩,
 ⟨some 166, false, none, iExtract 1 (.t 159)⟩,
 ⟨some 13, false, none, iMov (.t 165)⟩,
 ⟨some 14, true, none, iMov (.t 166)⟩])
 (cSeq (cOps [⟨some 168, false, none, iMov (.t 1)⟩,
 ⟨some 169, false, none, iMov (.t 2)⟩,
 ⟨some 170, false, none, iIaddr 6 (.t 168) (.t 169)⟩,
 ⟨some 171, false, none, iLoadN 6 (.t 170)⟩,
 ⟨some 172, false, none, iCall (.c (.func (.func 12) [] [])) [(.t 171), (.c .nilslice), (.c (.int .i64 (.lit (-1))))]⟩,
 ⟨some 167, false, none, iMov (.t 172)⟩,
 ⟨some 173, false, none, iExtract 0 (.t 167)⟩,
 ⟨some 174, false, none, iExtract 1 (.t 167)⟩,
 ⟨some 15, false, none, iMov (.t 173)⟩,
 ⟨some 16, true, none, iMov (.t 174)⟩])
 (cSeq (cOps [⟨some 176, false, none, iMov (.t 1)⟩,
 ⟨some 177, false, none, iMov (.t 2)⟩,
 ⟨some 178, false, none, iIaddr 6 (.t 176) (.t 177)⟩,
 ⟨some 179, false, none, iLoadN 6 (.t 178)⟩,
 ⟨some 180, false, none, iCall (.c (.func (.func 13) [] [])) [(.t 179)]⟩,
 ⟨some 175, false, none, iMov (.t 180)⟩,
 ⟨some 181, false, none, iExtract 0 (.t 175)⟩,
 ⟨some 182, false, none, iExtract 1 (.t 175)⟩,
 ⟨some 17, false, none, iMov (.t 181)⟩,
 ⟨some 18, true, none, iMov (.t 182)⟩])
 (cSeq (cOps [⟨some 183, false, none, iMov (.t 1)⟩,
 ⟨some 184, false, none, iMov (.t 2)⟩,
 ⟨some 185, false, none, iIaddr 6 (.t 183) (.t 184)⟩,
 ⟨some 186, false, none, iLoadN 6 (.t 185)⟩,
 ⟨some 187, false, none, iCall (.c (.func (.func 14) [] [])) [(.t 186)]⟩,
 ⟨some 188, false, none, iCmp .neq (.t 187) (.c (.int .i64 (.lit 20)))⟩,
 ⟨some 189, false, none, iMov (.t 188)⟩,
 ⟨some 190, false, some (189, false), iMov (.t 4)⟩,
 ⟨some 191, false, some (189, false), iCmp .neq (.t 190) (.c (.int .i64 (.lit 20)))⟩,
 ⟨some 192, false, none, iPick (.t 189) (.c (.bool (.lit true))) (.t 191)⟩,
 ⟨some 193, false, none, iMov (.t 192)⟩,
 ⟨some 194, false, some (193, false), iMov (.t 6)⟩,
 ⟨some 195, false, some (193, false), iCmp .neq (.t 194) (.c (.int .i64 (.lit 20)))⟩,
 ⟨some 196, false, none, iPick (.t 193) (.c (.bool (.lit true))) (.t 195)⟩,
 ⟨some 197, false, none, iMov (.t 196)⟩,
 ⟨some 198, false, some (197, false), iMov (.t 8)⟩,
 ⟨some 199, false, some (197, false), iCmp .neq (.t 198) (.c (.int .i64 (.lit 20)))⟩,
 ⟨some 200, false, none, iPick (.t 197) (.c (.bool (.lit true))) (.t 199)⟩,
 ⟨some 201, false, none, iMov (.t 200)⟩,
 ⟨some 202, false, some (201, false), iMov (.t 10)⟩,
 ⟨some 203, false, some (201, false), iCmp .neq (.t 202) (.c (.int .i64 (.lit 20)))⟩,
 ⟨some 204, false, none, iPick (.t 201) (.c (.bool (.lit true))) (.t 203)⟩,
 ⟨some 205, false, none, iMov (.t 204)⟩,
 ⟨some 206, false, some (205, false), iMov (.t 12)⟩,
 ⟨some 207, false, some (205, false), iCmp .neq (.t 206) (.c (.int .i64 (.lit 20)))⟩,
 ⟨some 208, false, none, iPick (.t 205) (.c (.bool (.lit true))) (.t 207)⟩,
 ⟨some 209, false, none, iMov (.t 208)⟩,
 ⟨some 210, false, some (209, false), iMov (.t 14)⟩,
 ⟨some 211, false, some (209, false), iCmp .neq (.t 210) (.c (.int .i64 (.lit 20)))⟩,
 ⟨some 212, false, none, iPick (.t 209) (.c (.bool (.lit true))) (.t 211)⟩,
 ⟨some 213, false, none, iMov (.t 212)⟩,
 ⟨some 214, false, some (213, false), iMov (.t 16)⟩,
 ⟨some 215, false, some (213, false), iCmp .neq (.t 214) (.c (.int .i64 (.lit 20)))⟩,
 ⟨some 216, false, none, iPick (.t 213) (.c (.bool (.lit true))) (.t 215)⟩,
 ⟨some 217, false, none, iMov (.t 216)⟩,
 ⟨some 218, false, some (217, false), iMov (.t 18)⟩,
 ⟨some 219, false, some (217, false), iCmp .neq (.t 218) (.c (.int .i64 (.lit 20)))⟩,
 ⟨some 220, true, none, iPick (.t 217) (.c (.bool (.lit true))) (.t 219)⟩])
 (cCond (.t 220) (cSeq (cOps [⟨some 0, true, none, iMov (.c (.bool (.lit false)))⟩])
 cRet) cSkip)))))))))))
 (cOps [⟨some 114, false, none, iMov (.t 2)⟩,
 ⟨some 115, false, none, iArith .add (.t 114) (.c (.int .i64 (.lit 1)))⟩,
 ⟨some 2, true, none, iMov (.t 115)⟩]))))))
 (cSeq (dOps 6 [⟨⟨some 221, false, none, iCall (.c (.func (.func 15) [] [])) []⟩, [], true, 0, 0, none, []⟩,
 ⟨⟨some 222, false, none, iSlice 3 (.t 221) none (some (.c (.int .i64 (.lit 2)))) none⟩, [221], false, 1, 19, none, []⟩,
 ⟨⟨some 223, false, none, iCall (.c (.func (.func 16) [] [])) [(.c (.int .i64 (.lit 0))), (.c (.int .i64 (.lit 0)))]⟩, [], true, 1, 0, none, []⟩,
 ⟨⟨some 224, false, none, iCall (.c (.func (.func 6) [] [])) [(.c (.int .i64 (.lit 2))), (.c (.int .i64 (.lit 0)))]⟩, [], true, 2, 0, none, []⟩,
 ⟨⟨some 225, false, none, iCall (.c (.func (.func 16) [] [])) [(.c (.int .i64 (.lit 4))), (.c (.int .i64 (.lit 2)))]⟩, [], true, 3, 0, none, []⟩,
 ⟨⟨some 226, false, none, iBslice 35 [(.int .i64 (.lit 0)), (.int .i64 (.lit 0)), (.bool (.lit false))] 3 [(0, 3, (.t 223)), (3, 3, (.t 224)), (6, 3, (.t 225))]⟩, [223, 224, 225], false, 0, 20, (some (flSlice [(.int .i64 (.lit 0)), (.int .i64 (.lit 0)), (.bool (.lit false))] 3 [(0, 3, (.t 223)), (3, 3, (.t 224)), (6, 3, (.t 225))], .sl 3, 5)), []⟩,
 ⟨⟨some 227, false, none, iCall (.c (.func (.func 16) [] [])) [(.c (.int .i64 (.lit 0))), (.c (.int .i64 (.lit 0)))]⟩, [], true, 4, 0, none, []⟩,
 ⟨⟨some 228, false, none, iCall (.c (.func (.func 6) [] [])) [(.c (.int .i64 (.lit 5))), (.c (.int .i64 (.lit 2)))]⟩, [], true, 5, 0, none, []⟩,
 ⟨⟨some 229, false, none, iCall (.c (.func (.func 16) [] [])) [(.c (.int .i64 (.lit 4))), (.c (.int .i64 (.lit 2)))]⟩, [], true, 6, 0, none, []⟩,
 ⟨⟨some 230, false, none, iBslice 35 [(.int .i64 (.lit 0)), (.int .i64 (.lit 0)), (.bool (.lit false))] 3 [(0, 3, (.t 227)), (3, 3, (.t 228)), (6, 3, (.t 229))]⟩, [227, 228, 229], false, 0, 20, (some (flSlice [(.int .i64 (.lit 0)), (.int .i64 (.lit 0)), (.bool (.lit false))] 3 [(0, 3, (.t 227)), (3, 3, (.t 228)), (6, 3, (.t 229))], .sl 3, 4)), []⟩,
 ⟨⟨some 231, false, none, iCall (.c (.func (.func 16) [] [])) [(.c (.int .i64 (.lit 0))), (.c (.int .i64 (.lit 0)))]⟩, [], true, 7, 0, none, []⟩,
 ⟨⟨some 232, false, none, iCall (.c (.func (.func 16) [] [])) [(.c (.int .i64 (.lit 3))), (.c (.int .i64 (.lit 0)))]⟩, [], true, 8, 0, none, []⟩,
 ⟨⟨some 233, false, none, iCall (.c (.func (.func 16) [] [])) [(.c (.int .i64 (.lit 4))), (.c (.int .i64 (.lit 2)))]⟩, [], true, 9, 0, none, []⟩,
 ⟨⟨some 234, false, none, iBslice 35 [(.int .i64 (.lit 0)), (.int .i64 (.lit 0)), (.bool (.lit false))] 3 [(0, 3, (.t 231)), (3, 3, (.t 232)), (6, 3, (.t 233))]⟩, [231, 232, 233], false, 0, 20, (some (flSlice [(.int .i64 (.lit 0)), (.int .i64 (.lit 0)), (.bool (.lit false))] 3 [(0, 3, (.t 231)), (3, 3, (.t 232)), (6, 3, (.t 233))], .sl 3, 3)), []⟩,
 ⟨⟨some 235, false, none, iCall (.c (.func (.func 16) [] [])) [(.c (.int .i64 (.lit 0))), (.c (.int .i64 (.lit 0)))]⟩, [], true, 10, 0, none, []⟩,
 ⟨⟨some 236, false, none, iCall (.c (.func (.func 6) [] [])) [(.c (.int .i64 (.lit 3))), (.c (.int .i64 (.lit 0)))]⟩, [], true, 11, 0, none, []⟩,
 ⟨⟨some 237, false, none, iCall (.c (.func (.func 16) [] [])) [(.c (.int .i64 (.lit 3))), (.c (.int .i64 (.lit 2)))]⟩, [], true, 12, 0, none, []⟩,
 ⟨⟨some 238, false, none, iBslice 35 [(.int .i64 (.lit 0)), (.int .i64 (.lit 0)), (.bool (.lit false))] 3 [(0, 3, (.t 235)), (3, 3, (.t 236)), (6, 3, (.t 237))]⟩, [235, 236, 237], false, 0, 20, (some (flSlice [(.int .i64 (.lit 0)), (.int .i64 (.lit 0)), (.bool (.lit false))] 3 [(0, 3, (.t 235)), (3, 3, (.t 236)), (6, 3, (.t 237))], .sl 3, 2)), []⟩,
 ⟨⟨some 239, false, none, iCall (.c (.func (.func 16) [] [])) [(.c (.int .i64 (.lit 0))), (.c (.int .i64 (.lit 0)))]⟩, [], true, 13, 0, none, []⟩,
 ⟨⟨some 240, false, none, iCall (.c (.func (.func 6) [] [])) [(.c (.int .i64 (.lit 4))), (.c (.int .i64 (.lit 2)))]⟩, [], true, 14, 0, none, []⟩,
 ⟨⟨some 241, false, none, iCall (.c (.func (.func 16) [] [])) [(.c (.int .i64 (.lit 4))), (.c (.int .i64 (.lit 2)))]⟩, [], true, 15, 0, none, []⟩,
 ⟨⟨some 242, false, none, iBslice 35 [(.int .i64 (.lit 0)), (.int .i64 (.lit 0)), (.bool (.lit false))] 3 [(0, 3, (.t 239)), (3, 3, (.t 240)), (6, 3, (.t 241))]⟩, [239, 240, 241], false, 0, 20, (some (flSlice [(.int .i64 (.lit 0)), (.int .i64 (.lit 0)), (.bool (.lit false))] 3 [(0, 3, (.t 239)), (3, 3, (.t 240)), (6, 3, (.t 241))], .sl 3, 1)), []⟩,
 ⟨⟨some 243, false, none, iCall (.c (.func (.func 6) [] [])) [(.c (.int .i64 (.lit (-1)))), (.c (.int .i64 (.lit 0)))]⟩, [], true, 16, 0, none, []⟩,
 ⟨⟨some 244, false, none, iCall (.c (.func (.func 6) [] [])) [(.c (.int .i64 (.lit 3))), (.c (.int .i64 (.lit 0)))]⟩, [], true, 17, 0, none, []⟩,
 ⟨⟨some 245, false, none, iCall (.c (.func (.func 16) [] [])) [(.c (.int .i64 (.lit 4))), (.c (.int .i64 (.lit 2)))]⟩, [], true, 18, 0, none, []⟩,
 ⟨⟨some 246, false, none, iBslice 35 [(.int .i64 (.lit 0)), (.int .i64 (.lit 0)), (.bool (.lit false))] 3 [(0, 3, (.t 243)), (3, 3, (.t 244)), (6, 3, (.t 245))]⟩, [243, 244, 245], false, 0, 20, (some (flSlice [(.int .i64 (.lit 0)), (.int .i64 (.lit 0)), (.bool (.lit false))] 3 [(0, 3, (.t 243)), (3, 3, (.t 244)), (6, 3, (.t 245))], .sl 3, 0)), []⟩,
 ⟨⟨some 247, false, none, iBslice 41 [.nilslice] 8 [(0, 1, (.c .nilslice)), (1, 1, (.t 222)), (2, 1, (.t 226)), (3, 1, (.t 230)), (4, 1, (.t 234)), (5, 1, (.t 238)), (6, 1, (.t 242)), (7, 1, (.t 246))]⟩, [222, 226, 230, 234, 238, 242, 246], true, 19, 0, none, [0, 1, 2, 3, 4, 5]⟩,
 ⟨⟨some 19, true, none, iMov (.t 247)⟩, [247], false, 20, 20, none, []⟩])
 (cSeq (cSeq (cOps [⟨some 20, true, none, iMov (.c (.int .i64 (.lit 0)))⟩])
 (cBlock 2 (cLoop (cSeq (cSeq (cOps [⟨some 248, false, none, iMov (.t 20)⟩,
 ⟨some 249, false, none, iMov (.t 19)⟩,
 ⟨some 250, false, none, iLenS (.t 249)⟩,
 ⟨some 251, true, none, iCmp .lss (.t 248) (.t 250)⟩])
 (cCond (.t 251) cSkip (cExit 2)))
 (cSeq (cBlock 3 (cSeq (dOps 0 [⟨⟨some 255, false, none, iCall (.c (.func (.func 4) [] [])) []⟩, [], true, 0, 0, none, []⟩,
 ⟨⟨some 256, false, none, iMov (.t 19)⟩, [19], false, 0, 1, none, []⟩,
 ⟨⟨some 257, false, none, iMov (.t 20)⟩, [20], false, 0, 1, none, []⟩,
 ⟨⟨some 258, false, none, iIaddr 1 (.t 256) (.t 257)⟩, [256, 257], false, 0, 1, none, []⟩,
 ⟨⟨some 259, false, none, iLoad (.t 258)⟩, [258], false, 0, 1, none, []⟩,
 ⟨⟨some 260, false, none, iCall (.c (.func (.func 9) [] [])) [(.t 255), (.t 259)]⟩, [255, 259], true, 1, 0, none, []⟩,
 ⟨⟨some 254, false, none, iMov (.t 260)⟩, [260], false, 2, 2, none, []⟩,
 ⟨⟨some 261, false, none, iExtract 0 (.t 254)⟩, [254], false, 2, 2, none, []⟩,
 ⟨⟨some 262, false, none, iExtract 1 (.t 254)⟩, [254], false, 2, 2, none, []⟩,
 ⟨⟨some 21, true, none, iMov (.t 261)⟩, [261], false, 2, 2, none, []⟩,
 ⟨⟨some 22, true, none, iMov (.t 262)⟩, [262], false, 2, 2, none, []⟩])
 (cSeq (cOps [⟨some 263, false, none, iMov (.t 21)⟩,
 ⟨some 264, false, none, iMov (.t 263)⟩,
 ⟨some 265, false, some (264, false), iMov (.t 22)⟩,
 ⟨some 266, false, some (264, false), iCmp .neq (.t 265) (.c (.int .i64 (.lit 0)))⟩,
 ⟨some 267, true, none, iPick (.t 264) (.c (.bool (.lit true))) (.t 266)⟩])
 (cCond (.t 267) (cSeq (cOps [⟨some 0, true, none, iMov (.c (.bool (.lit false)))⟩])
 cRet) cSkip))))
 (cOps [⟨some 252, false, none, iMov (.t 20)⟩,
 ⟨some 253, false, none, iArith .add (.t 252) (.c (.int .i64 (.lit 1)))⟩,
 ⟨some 20, true, none, iMov (.t 253)⟩]))))))
 (cSeq (cOps [⟨some 269, false, none, iCall (.c (.func (.func 4) [] [])) []⟩,
 ⟨some 270, false, none, iCall (.c (.func (.func 6) [] [])) [(.c (.int .i64 (.lit 0))), (.c (.int .i64 (.lit 0)))]⟩,
 ⟨some 271, false, none, iCall (.c (.func (.func 5) [] [])) [(.t 269), (.c (.int .i64 (.lit 3))), (.t 270)]⟩,
 ⟨some 268, false, none, iMov (.t 271)⟩,
 ⟨some 272, false, none, iExtract 0 (.t 268)⟩,
 ⟨some 273, false, none, iExtract 1 (.t 268)⟩,
 ⟨some 23, false, none, iMov (.t 272)⟩,
 ⟨some 24, true, none, iMov (.t 273)⟩])
 (cSeq (cOps [⟨some 275, false, none, iCall (.c (.func (.func 4) [] [])) []⟩,
 ⟨some 276, false, none, iCall (.c (.func (.func 6) [] [])) [(.c (.int .i64 (.lit 0))), (.c (.int .i64 (.lit 0)))]⟩,
 ⟨some 277, false, none, iCall (.c (.func (.func 6) [] [])) [(.c (.int .i64 (.lit 0))), (.c (.int .i64 (.lit 0)))]⟩,
 ⟨some 278, false, none, iCall (.c (.func (.func 7) [] [])) [(.t 275), (.c (.int .i64 (.lit 0))), (.t 276), (.c (.int .i64 (.lit 0))), (.t 277)]⟩,
 ⟨some 274, false, none, iMov (.t 278)⟩,
 ⟨some 279, false, none, iExtract 0 (.t 274)⟩,
 ⟨some 280, false, none, iExtract 1 (.t 274)⟩,
 ⟨some 25, false, none, iMov (.t 279)⟩,
 ⟨some 26, true, none, iMov (.t 280)⟩])
 (cSeq (cOps [⟨some 282, false, none, iCall (.c (.func (.func 4) [] [])) []⟩,
 ⟨some 283, false, none, iCall (.c (.func (.func 6) [] [])) [(.c (.int .i64 (.lit 3))), (.c (.int .i64 (.lit 0)))]⟩,
 ⟨some 284, false, none, iCall (.c (.func (.func 6) [] [])) [(.c (.int .i64 (.lit 0))), (.c (.int .i64 (.lit 0)))]⟩,
 ⟨some 285, false, none, iCall (.c (.func (.func 7) [] [])) [(.t 282), (.c (.int .i64 (.lit 0))), (.t 283), (.c (.int .i64 (.lit 1))), (.t 284)]⟩,
 ⟨some 281, false, none, iMov (.t 285)⟩,
 ⟨some 286, false, none, iExtract 0 (.t 281)⟩,
 ⟨some 287, false, none, iExtract 1 (.t 281)⟩,
 ⟨some 27, false, none, iMov (.t 286)⟩,
 ⟨some 28, true, none, iMov (.t 287)⟩])
 (cSeq (cOps [⟨some 289, false, none, iCall (.c (.func (.func 4) [] [])) []⟩,
 ⟨some 290, false, none, iCall (.c (.func (.func 6) [] [])) [(.c (.int .i64 (.lit 0))), (.c (.int .i64 (.lit 0)))]⟩,
 ⟨some 291, false, none, iCall (.c (.func (.func 6) [] [])) [(.c (.int .i64 (.lit 0))), (.c (.int .i64 (.lit 0)))]⟩,
 ⟨some 292, false, none, iCall (.c (.func (.func 7) [] [])) [(.t 289), (.c (.int .i64 (.lit 0))), (.t 290), (.c (.int .i64 (.lit 3))), (.t 291)]⟩,
 ⟨some 288, false, none, iMov (.t 292)⟩,
 ⟨some 293, false, none, iExtract 0 (.t 288)⟩,
 ⟨some 294, false, none, iExtract 1 (.t 288)⟩,
 ⟨some 29, false, none, iMov (.t 293)⟩,
 ⟨some 30, true, none, iMov (.t 294)⟩])
 (cSeq (cOps [⟨some 296, false, none, iCall (.c (.func (.func 4) [] [])) []⟩,
 ⟨some 297, false, none, iCall (.c (.func (.func 15) [] [])) []⟩,
 ⟨some 298, false, none, iSlice 3 (.t 297) none (some (.c (.int .i64 (.lit 2)))) none⟩,
 ⟨some 299, false, none, iCall (.c (.func (.func 8) [] [])) [(.t 296), (.t 298), (.c (.int .i64 (.lit 0)))]⟩,
 ⟨some 295, false, none, iMov (.t 299)⟩,
 ⟨some 300, false, none, iExtract 0 (.t 295)⟩,
 ⟨some 301, false, none, iExtract 1 (.t 295)⟩,
 ⟨some 31, false, none, iMov (.t 300)⟩,
 ⟨some 32, true, none, iMov (.t 301)⟩])
 (cSeq (cOps [⟨some 303, false, none, iCall (.c (.func (.func 4) [] [])) []⟩,
 ⟨some 304, false, none, iCall (.c (.func (.func 6) [] [])) [(.c (.int .i64 (.lit 0))), (.c (.int .i64 (.lit 0)))]⟩,
 ⟨some 305, false, none, iCall (.c (.func (.func 6) [] [])) [(.c (.int .i64 (.lit 0))), (.c (.int .i64 (.lit 0)))]⟩,
 ⟨some 306, false, none, iCall (.c (.func (.func 6) [] [])) [(.c (.int .i64 (.lit 4))), (.c (.int .i64 (.lit 2)))]⟩,
 ⟨some 307, false, none, iBslice 35 [(.int .i64 (.lit 0)), (.int .i64 (.lit 0)), (.bool (.lit false))] 3 [(0, 3, (.t 304)), (3, 3, (.t 305)), (6, 3, (.t 306))]⟩,
 ⟨some 308, false, none, iCall (.c (.func (.func 8) [] [])) [(.t 303), (.t 307), (.c (.int .i64 (.lit 0)))]⟩,
 ⟨some 302, false, none, iMov (.t 308)⟩,
 ⟨some 309, false, none, iExtract 0 (.t 302)⟩,
 ⟨some 310, false, none, iExtract 1 (.t 302)⟩,
 ⟨some 33, false, none, iMov (.t 309)⟩,
 ⟨some 34, true, none, iMov (.t 310)⟩])
 (cSeq (cOps [⟨some 312, false, none, iCall (.c (.func (.func 4) [] [])) []⟩,
 ⟨some 313, false, none, iCall (.c (.func (.func 15) [] [])) []⟩,
 ⟨some 314, false, none, iCall (.c (.func (.func 12) [] [])) [(.t 312), (.t 313), (.c (.int .i64 (.lit 3)))]⟩,
 ⟨some 311, false, none, iMov (.t 314)⟩,
 ⟨some 315, false, none, iExtract 0 (.t 311)⟩,
 ⟨some 316, false, none, iExtract 1 (.t 311)⟩,
 ⟨some 35, false, none, iMov (.t 315)⟩,
 ⟨some 36, true, none, iMov (.t 316)⟩])
 (cSeq (cOps [⟨some 318, false, none, iCall (.c (.func (.func 4) [] [])) []⟩,
 ⟨some 319, false, none, iCall (.c (.func (.func 15) [] [])) []⟩,
 ⟨some 320, false, none, iSlice 3 (.t 319) none (some (.c (.int .i64 (.lit 2)))) none⟩,
 ⟨some 321, false, none, iCall (.c (.func (.func 12) [] [])) [(.t 318), (.t 320), (.c (.int .i64 (.lit 0)))]⟩,
 ⟨some 317, false, none, iMov (.t 321)⟩,
 ⟨some 322, false, none, iExtract 0 (.t 317)⟩,
 ⟨some 323, false, none, iExtract 1 (.t 317)⟩,
 ⟨some 37, false, none, iMov (.t 322)⟩,
 ⟨some 38, true, none, iMov (.t 323)⟩])
 (cSeq (cSeq (cOps [⟨some 324, false, none, iMov (.t 24)⟩,
 ⟨some 325, false, none, iCmp .neq (.t 324) (.c (.int .i64 (.lit 21)))⟩,
 ⟨some 326, false, none, iMov (.t 325)⟩,
 ⟨some 327, false, some (326, false), iMov (.t 26)⟩,
 ⟨some 328, false, some (326, false), iCmp .neq (.t 327) (.c (.int .i64 (.lit 21)))⟩,
 ⟨some 329, false, none, iPick (.t 326) (.c (.bool (.lit true))) (.t 328)⟩,
 ⟨some 330, false, none, iMov (.t 329)⟩,
 ⟨some 331, false, some (330, false), iMov (.t 28)⟩,
 ⟨some 332, false, some (330, false), iCmp .neq (.t 331) (.c (.int .i64 (.lit 21)))⟩,
 ⟨some 333, false, none, iPick (.t 330) (.c (.bool (.lit true))) (.t 332)⟩,
 ⟨some 334, false, none, iMov (.t 333)⟩,
 ⟨some 335, false, some (334, false), iMov (.t 30)⟩,
 ⟨some 336, false, some (334, false), iCmp .neq (.t 335) (.c (.int .i64 (.lit 21)))⟩,
 ⟨some 337, false, none, iPick (.t 334) (.c (.bool (.lit true))) (.t 336)⟩,
 ⟨some 338, false, none, iMov (.t 337)⟩,
 ⟨some 339, false, some (338, false), iMov (.t 32)⟩,
 ⟨some 340, false, some (338, false), iCmp .neq (.t 339) (.c (.int .i64 (.lit 21)))⟩,
 ⟨some 341, false, none, iPick (.t 338) (.c (.bool (.lit true))) (.t 340)⟩,
 ⟨some 342, false, none, iMov (.t 341)⟩,
 ⟨some 343, false, some (342, false), iMov (.t 34)⟩,
 ⟨some 344, false, some (342, false), iCmp .neq (.t 343) (.c (.int .i64 (.lit 21)))⟩,
 ⟨some 345, false, none, iPick (.t 342) (.c (.bool (.lit true))) (.t 344)⟩,
 ⟨some 346, false, none, iMov (.t 345)⟩,
 ⟨some 347, false, some (346, false), iMov (.t 36)⟩,
 ⟨some 348, false, some (346, false), iCmp .neq (.t 347) (.c (.int .i64 (.lit 21)))⟩,
 ⟨some 349, false, none, iPick (.t 346) (.c (.bool (.lit true))) (.t 348)⟩,
 ⟨some 350, false, none, iMov (.t 349)⟩,
 ⟨some 351, false, some (350, false), iMov (.t 38)⟩,
 ⟨some 352, false, some (350, false), iCmp .neq (.t 351) (.c (.int .i64 (.lit 21)))⟩,
 ⟨some 353, true, none, iPick (.t 350) (.c (.bool (.lit true))) (.t 352)⟩])
 (cCond (.t 353) (cSeq (cOps [⟨some 0, true, none, iMov (.c (.bool (.lit false)))⟩])
 cRet) cSkip))
 (cSeq (cOps [⟨some 355, false, none, iCall (.c (.func (.func 4) [] [])) []⟩,
 ⟨some 356, false, none, iCall (.c (.func (.func 6) [] [])) [(.c (.int .i64 (.lit 0))), (.c (.int .i64 (.lit 0)))]⟩,
 ⟨some 357, false, none, iCall (.c (.func (.func 6) [] [])) [(.c (.int .i64 (.lit 2))), (.c (.int .i64 (.lit 1)))]⟩,
 ⟨some 358, false, none, iCall (.c (.func (.func 7) [] [])) [(.t 355), (.c (.int .i64 (.lit 0))), (.t 356), (.c (.int .i64 (.lit 1))), (.t 357)]⟩,
 ⟨some 354, false, none, iMov (.t 358)⟩,
 ⟨some 359, false, none, iExtract 0 (.t 354)⟩,
 ⟨some 360, false, none, iExtract 1 (.t 354)⟩,
 ⟨some 24, true, none, iMov (.t 360)⟩])
 (cSeq (cOps [⟨some 362, false, none, iCall (.c (.func (.func 4) [] [])) []⟩,
 ⟨some 363, false, none, iCall (.c (.func (.func 16) [] [])) [(.c (.int .i64 (.lit 0))), (.c (.int .i64 (.lit 0)))]⟩,
 ⟨some 364, false, none, iCall (.c (.func (.func 6) [] [])) [(.c (.int .i64 (.lit 5))), (.c (.int .i64 (.lit 2)))]⟩,
 ⟨some 365, false, none, iCall (.c (.func (.func 16) [] [])) [(.c (.int .i64 (.lit 4))), (.c (.int .i64 (.lit 2)))]⟩,
 ⟨some 366, false, none, iBslice 35 [(.int .i64 (.lit 0)), (.int .i64 (.lit 0)), (.bool (.lit false))] 3 [(0, 3, (.t 363)), (3, 3, (.t 364)), (6, 3, (.t 365))]⟩,
 ⟨some 367, false, none, iCall (.c (.func (.func 8) [] [])) [(.t 362), (.t 366), (.c (.int .i64 (.lit 1)))]⟩,
 ⟨some 361, false, none, iMov (.t 367)⟩,
 ⟨some 368, false, none, iExtract 0 (.t 361)⟩,
 ⟨some 369, false, none, iExtract 1 (.t 361)⟩,
 ⟨some 26, true, none, iMov (.t 369)⟩])
 (cSeq (cOps [⟨some 371, false, none, iCall (.c (.func (.func 17) [] [])) []⟩,
 ⟨some 372, false, none, iCall (.c (.func (.func 10) [] [])) [(.t 371)]⟩,
 ⟨some 370, false, none, iMov (.t 372)⟩,
 ⟨some 373, false, none, iExtract 0 (.t 370)⟩,
 ⟨some 374, false, none, iExtract 1 (.t 370)⟩,
 ⟨some 28, true, none, iMov (.t 374)⟩])
 (cSeq (cOps [⟨some 376, false, none, iCall (.c (.func (.func 17) [] [])) []⟩,
 ⟨some 377, false, none, iCall (.c (.func (.func 11) [] [])) [(.t 376)]⟩,
 ⟨some 375, false, none, iMov (.t 377)⟩,
 ⟨some 378, false, none, iExtract 0 (.t 375)⟩,
 ⟨some 379, false, none, iExtract 1 (.t 375)⟩,
 ⟨some 30, true, none, iMov (.t 379)⟩])
 (cSeq (cOps [⟨some 380, false, none, iBslice 3 [(.int .i64 (.lit 0))] 1 [(0, 1, (.c (.int .i64 (.lit 1))))]⟩,
 ⟨some 381, false, none, iCall (.c (.func (.func 18) [] [])) [(.c (.int .i64 (.lit 1))), (.c (.int .i64 (.lit 1))), (.c (.int .i64 (.lit 0))), (.c (.bool (.lit false))), (.c (.bool (.lit false)))]⟩,
 ⟨some 382, false, none, iBslice 30 [(.int .i64 (.lit 0)), (.int .i64 (.lit 0)), (.int .i64 (.lit 0)), (.bool (.lit false)), (.bool (.lit false))] 1 [(0, 5, (.t 381))]⟩,
 ⟨some 383, false, none, iBslice 3 [(.int .i64 (.lit 0))] 1 [(0, 1, (.c (.int .i64 (.lit 0))))]⟩,
 ⟨some 384, false, none, iBslice 22 [.nilslice] 1 [(0, 1, (.t 383))]⟩,
 ⟨some 385, false, none, iBuild [(.int .i64 (.lit 0)), (.int .i64 (.lit 0)), .nilslice, .nilslice, .nilslice, (.int .i64 (.lit 0))] [(0, 1, (.c (.int .i64 (.lit 1)))), (1, 1, (.c (.int .i64 (.lit 1)))), (2, 1, (.t 380)), (3, 1, (.t 382)), (4, 1, (.t 384))]⟩,
 ⟨some 39, true, none, iAlloc 26 [(.int .i64 (.lit 0)), (.int .i64 (.lit 0)), .nilslice, .nilslice, .nilslice, (.int .i64 (.lit 0))]⟩,
 ⟨none, false, none, iStore 6 (.t 39) (.t 385)⟩])
 (cSeq (cOps [⟨some 387, false, none, iLoadN 6 (.t 39)⟩,
 ⟨some 388, false, none, iCall (.c (.func (.func 13) [] [])) [(.t 387)]⟩,
 ⟨some 386, false, none, iMov (.t 388)⟩,
 ⟨some 389, false, none, iExtract 0 (.t 386)⟩,
 ⟨some 390, false, none, iExtract 1 (.t 386)⟩,
 ⟨some 32, true, none, iMov (.t 390)⟩])
 (cSeq (cSeq (cOps [⟨some 391, false, none, iMov (.t 24)⟩,
 ⟨some 392, false, none, iCmp .neq (.t 391) (.c (.int .i64 (.lit 4)))⟩,
 ⟨some 393, false, none, iMov (.t 392)⟩,
 ⟨some 394, false, some (393, false), iMov (.t 26)⟩,
 ⟨some 395, false, some (393, false), iCmp .neq (.t 394) (.c (.int .i64 (.lit 4)))⟩,
 ⟨some 396, false, none, iPick (.t 393) (.c (.bool (.lit true))) (.t 395)⟩,
 ⟨some 397, false, none, iMov (.t 396)⟩,
 ⟨some 398, false, some (397, false), iMov (.t 28)⟩,
 ⟨some 399, false, some (397, false), iCmp .neq (.t 398) (.c (.int .i64 (.lit 4)))⟩,
 ⟨some 400, false, none, iPick (.t 397) (.c (.bool (.lit true))) (.t 399)⟩,
 ⟨some 401, false, none, iMov (.t 400)⟩,
 ⟨some 402, false, some (401, false), iMov (.t 30)⟩,
 ⟨some 403, false, some (401, false), iCmp .neq (.t 402) (.c (.int .i64 (.lit 4)))⟩,
 ⟨some 404, false, none, iPick (.t 401) (.c (.bool (.lit true))) (.t 403)⟩,
 ⟨some 405, false, none, iMov (.t 404)⟩,
 ⟨some 406, false, some (405, false), iMov (.t 32)⟩,
 ⟨some 407, false, some (405, false), iCmp .neq (.t 406) (.c (.int .i64 (.lit 4)))⟩,
 ⟨some 408, true, none, iPick (.t 405) (.c (.bool (.lit true))) (.t 407)⟩])
 (cCond (.t 408) (cSeq (cOps [⟨some 0, true, none, iMov (.c (.bool (.lit false)))⟩])
 cRet) cSkip))
 (cSeq (cOps [⟨some 410, false, none, iCall (.c (.func (.func 4) [] [])) []⟩,
 ⟨some 411, false, none, iCall (.c (.func (.func 16) [] [])) [(.c (.int .i64 (.lit 0))), (.c (.int .i64 (.lit 0)))]⟩,
 ⟨some 412, false, none, iCall (.c (.func (.func 5) [] [])) [(.t 410), (.c (.int .i64 (.lit 1))), (.t 411)]⟩,
 ⟨some 409, false, none, iMov (.t 412)⟩,
 ⟨some 413, false, none, iExtract 0 (.t 409)⟩,
 ⟨some 414, false, none, iExtract 1 (.t 409)⟩,
 ⟨some 40, true, none, iMov (.t 413)⟩,
 ⟨some 24, true, none, iMov (.t 414)⟩])
 (cSeq (cOps [⟨some 416, false, none, iCall (.c (.func (.func 4) [] [])) []⟩,
 ⟨some 417, false, none, iCall (.c (.func (.func 16) [] [])) [(.c (.int .i64 (.lit 4))), (.c (.int .i64 (.lit 0)))]⟩,
 ⟨some 418, false, none, iCall (.c (.func (.func 5) [] [])) [(.t 416), (.c (.int .i64 (.lit 0))), (.t 417)]⟩,
 ⟨some 415, false, none, iMov (.t 418)⟩,
 ⟨some 419, false, none, iExtract 0 (.t 415)⟩,
 ⟨some 420, false, none, iExtract 1 (.t 415)⟩,
 ⟨some 41, true, none, iMov (.t 419)⟩,
 ⟨some 26, true, none, iMov (.t 420)⟩])
 (cSeq (cOps [⟨some 422, false, none, iCall (.c (.func (.func 4) [] [])) []⟩,
 ⟨some 423, false, none, iCall (.c (.func (.func 6) [] [])) [(.c (.int .i64 (.lit 3))), (.c (.int .i64 (.lit 2)))]⟩,
 ⟨some 424, false, none, iCall (.c (.func (.func 6) [] [])) [(.c (.int .i64 (.lit 0))), (.c (.int .i64 (.lit 0)))]⟩,
 ⟨some 425, false, none, iCall (.c (.func (.func 7) [] [])) [(.t 422), (.c (.int .i64 (.lit 1))), (.t 423), (.c (.int .i64 (.lit 0))), (.t 424)]⟩,
 ⟨some 421, false, none, iMov (.t 425)⟩,
 ⟨some 426, false, none, iExtract 0 (.t 421)⟩,
 ⟨some 427, false, none, iExtract 1 (.t 421)⟩,
 ⟨some 42, true, none, iMov (.t 426)⟩,
 ⟨some 28, true, none, iMov (.t 427)⟩])
 (cSeq (cOps [⟨some 429, false, none, iCall (.c (.func (.func 4) [] [])) []⟩,
 ⟨some 430, false, none, iCall (.c (.func (.func 6) [] [])) [(.c (.int .i64 (.lit 0))), (.c (.int .i64 (.lit 2)))]⟩,
 ⟨some 431, false, none, iCall (.c (.func (.func 6) [] [])) [(.c (.int .i64 (.lit 0))), (.c (.int .i64 (.lit 0)))]⟩,
 ⟨some 432, false, none, iCall (.c (.func (.func 6) [] [])) [(.c (.int .i64 (.lit 4))), (.c (.int .i64 (.lit 0)))]⟩,
 ⟨some 433, false, none, iBslice 35 [(.int .i64 (.lit 0)), (.int .i64 (.lit 0)), (.bool (.lit false))] 3 [(0, 3, (.t 430)), (3, 3, (.t 431)), (6, 3, (.t 432))]⟩,
 ⟨some 434, false, none, iCall (.c (.func (.func 8) [] [])) [(.t 429), (.t 433), (.c (.int .i64 (.lit 1)))]⟩,
 ⟨some 428, false, none, iMov (.t 434)⟩,
 ⟨some 435, false, none, iExtract 0 (.t 428)⟩,
 ⟨some 436, false, none, iExtract 1 (.t 428)⟩,
 ⟨some 43, true, none, iMov (.t 435)⟩,
 ⟨some 30, true, none, iMov (.t 436)⟩])
 (cSeq (cOps [⟨some 438, false, none, iCall (.c (.func (.func 4) [] [])) []⟩,
 ⟨some 439, false, none, iCall (.c (.func (.func 13) [] [])) [(.t 438)]⟩,
 ⟨some 437, false, none, iMov (.t 439)⟩,
 ⟨some 440, false, none, iExtract 0 (.t 437)⟩,
 ⟨some 441, false, none, iExtract 1 (.t 437)⟩,
 ⟨some 44, true, none, iMov (.t 440)⟩,
 ⟨some 32, true, none, iMov (.t 441)⟩])
 (cSeq (cOps [⟨some 443, false, none, iCall (.c (.func (.func 17) [] [])) []⟩,
 ⟨some 444, false, none, iCall (.c (.func (.func 15) [] [])) []⟩,
 ⟨some 445, false, none, iCall (.c (.func (.func 12) [] [])) [(.t 443), (.t 444), (.c (.int .i64 (.lit 1)))]⟩,
 ⟨some 442, false, none, iMov (.t 445)⟩,
 ⟨some 446, false, none, iExtract 0 (.t 442)⟩,
 ⟨some 447, false, none, iExtract 1 (.t 442)⟩,
 ⟨some 45, true, none, iMov (.t 446)⟩,
 ⟨some 34, true, none, iMov (.t 447)⟩])
 (cSeq (cOps [⟨some 449, false, none, iCall (.c (.func (.func 4) [] [])) []⟩,
 ⟨some 450, false, none, iCall (.c (.func (.func 16) [] [])) [(.c (.int .i64 (.lit 0))), (.c (.int .i64 (.lit 0)))]⟩,
 ⟨some 451, false, none, iCall (.c (.func (.func 6) [] [])) [(.c (.int .i64 (.lit (-9)))), (.c (.int .i64 (.lit 99)))]⟩,
 ⟨some 452, false, none, iCall (.c (.func (.func 16) [] [])) [(.c (.int .i64 (.lit 4))), (.c (.int .i64 (.lit 2)))]⟩,
 ⟨some 453, false, none, iBslice 35 [(.int .i64 (.lit 0)), (.int .i64 (.lit 0)), (.bool (.lit false))] 3 [(0, 3, (.t 450)), (3, 3, (.t 451)), (6, 3, (.t 452))]⟩,
 ⟨some 454, false, none, iCall (.c (.func (.func 12) [] [])) [(.t 449), (.t 453), (.c (.int .i64 (.lit 1)))]⟩,
 ⟨some 448, false, none, iMov (.t 454)⟩,
 ⟨some 455, false, none, iExtract 0 (.t 448)⟩,
 ⟨some 456, false, none, iExtract 1 (.t 448)⟩,
 ⟨some 46, true, none, iMov (.t 455)⟩,
 ⟨some 36, true, none, iMov (.t 456)⟩])
 (cSeq (cOps [⟨some 457, false, none, iMov (.t 24)⟩,
 ⟨some 458, false, none, iCmp .eql (.t 457) (.c (.int .i64 (.lit 0)))⟩,
 ⟨some 459, false, none, iMov (.t 458)⟩,
 ⟨some 460, false, some (459, true), iMov (.t 40)⟩,
 ⟨some 461, false, some (459, true), iNot (.t 460)⟩,
 ⟨some 462, false, none, iPick (.t 459) (.t 461) (.c (.bool (.lit false)))⟩,
 ⟨some 463, false, none, iMov (.t 462)⟩,
 ⟨some 464, false, some (463, true), iMov (.t 26)⟩,
 ⟨some 465, false, some (463, true), iCmp .eql (.t 464) (.c (.int .i64 (.lit 0)))⟩,
 ⟨some 466, false, none, iPick (.t 463) (.t 465) (.c (.bool (.lit false)))⟩,
 ⟨some 467, false, none, iMov (.t 466)⟩,
 ⟨some 468, false, some (467, true), iMov (.t 41)⟩,
 ⟨some 469, false, some (467, true), iNot (.t 468)⟩,
 ⟨some 470, false, none, iPick (.t 467) (.t 469) (.c (.bool (.lit false)))⟩,
 ⟨some 471, false, none, iMov (.t 470)⟩,
 ⟨some 472, false, some (471, true), iMov (.t 28)⟩,
 ⟨some 473, false, some (471, true), iCmp .eql (.t 472) (.c (.int .i64 (.lit 0)))⟩,
 ⟨some 474, false, none, iPick (.t 471) (.t 473) (.c (.bool (.lit false)))⟩,
 ⟨some 475, false, none, iMov (.t 474)⟩,
 ⟨some 476, false, some (475, true), iMov (.t 42)⟩,
 ⟨some 477, false, some (475, true), iCmp .eql (.t 476) (.c (.int .i64 (.lit 0)))⟩,
 ⟨some 478, false, none, iPick (.t 475) (.t 477) (.c (.bool (.lit false)))⟩,
 ⟨some 479, false, none, iMov (.t 478)⟩,
 ⟨some 480, false, some (479, true), iMov (.t 30)⟩,
 ⟨some 481, false, some (479, true), iCmp .eql (.t 480) (.c (.int .i64 (.lit 0)))⟩,
 ⟨some 482, false, none, iPick (.t 479) (.t 481) (.c (.bool (.lit false)))⟩,
 ⟨some 483, false, none, iMov (.t 482)⟩,
 ⟨some 484, false, some (483, true), iMov (.t 43)⟩,
 ⟨some 485, false, some (483, true), iCmp .eql (.t 484) (.c (.int .i64 (.lit 0)))⟩,
 ⟨some 486, false, none, iPick (.t 483) (.t 485) (.c (.bool (.lit false)))⟩,
 ⟨some 487, false, none, iMov (.t 486)⟩,
 ⟨some 488, false, some (487, true), iMov (.t 32)⟩,
 ⟨some 489, false, some (487, true), iCmp .eql (.t 488) (.c (.int .i64 (.lit 0)))⟩,
 ⟨some 490, false, none, iPick (.t 487) (.t 489) (.c (.bool (.lit false)))⟩,
 ⟨some 491, false, none, iMov (.t 490)⟩,
 ⟨some 492, false, some (491, true), iMov (.t 44)⟩,
 ⟨some 493, false, some (491, true), iBslice 3 [(.int .i64 (.lit 0))] 3 [(0, 1, (.c (.int .i64 (.lit 0)))), (1, 1, (.c (.int .i64 (.lit 1)))), (2, 1, (.c (.int .i64 (.lit 2))))]⟩,
 ⟨some 494, false, some (491, true), iCall (.c (.func (.func 19) [] [])) [(.t 492), (.t 493)]⟩,
 ⟨some 495, false, none, iPick (.t 491) (.t 494) (.c (.bool (.lit false)))⟩,
 ⟨some 496, false, none, iMov (.t 495)⟩,
 ⟨some 497, false, some (496, true), iMov (.t 34)⟩,
 ⟨some 498, false, some (496, true), iCmp .eql (.t 497) (.c (.int .i64 (.lit 0)))⟩,
 ⟨some 499, false, none, iPick (.t 496) (.t 498) (.c (.bool (.lit false)))⟩,
 ⟨some 500, false, none, iMov (.t 499)⟩,
 ⟨some 501, false, some (500, true), iMov (.t 45)⟩,
 ⟨some 502, false, some (500, true), iLenS (.t 501)⟩,
 ⟨some 503, false, some (500, true), iCmp .eql (.t 502) (.c (.int .i64 (.lit 0)))⟩,
 ⟨some 504, false, none, iPick (.t 500) (.t 503) (.c (.bool (.lit false)))⟩,
 ⟨some 505, false, none, iMov (.t 504)⟩,
 ⟨some 506, false, some (505, true), iMov (.t 36)⟩,
 ⟨some 507, false, some (505, true), iCmp .eql (.t 506) (.c (.int .i64 (.lit 0)))⟩,
 ⟨some 508, false, none, iPick (.t 505) (.t 507) (.c (.bool (.lit false)))⟩,
 ⟨some 509, false, none, iMov (.t 508)⟩,
 ⟨some 510, false, some (509, true), iMov (.t 46)⟩,
 ⟨some 511, false, some (509, true), iLenS (.t 510)⟩,
 ⟨some 512, false, some (509, true), iCmp .eql (.t 511) (.c (.int .i64 (.lit 7)))⟩,
 ⟨some 513, false, none, iPick (.t 509) (.t 512) (.c (.bool (.lit false)))⟩,
 ⟨some 514, false, none, iMov (.t 513)⟩,
 ⟨some 515, false, none, iPick (.t 514) (.c (.bool (.lit true))) (.c (.bool (.lit false)))⟩,
 ⟨some 516, false, none, iMov (.t 515)⟩,
 ⟨some 517, false, some (516, true), iCall (.c (.func (.func 20) [] [])) []⟩,
 ⟨some 518, false, none, iPick (.t 516) (.t 517) (.c (.bool (.lit false)))⟩,
 ⟨some 0, true, none, iMov (.t 518)⟩])
 cRet))))))))))))))))))))))))))))))))))))))), [.t 0]⟩
noncomputable def Tryd.kp4 : List Nat := [0]
noncomputable def Tryd.cf4 : CF := ⟨0, (cSeq (cOps [⟨some 0, true, none, iAlloc 26 [(.int .i64 (.lit 0)), (.int .i64 (.lit 0)), .nilslice, .nilslice, .nilslice, (.int .i64 (.lit 0))]⟩])
 (cSeq (cOps [⟨some 1, false, none, iBslice 3 [(.int .i64 (.lit 0))] 4 [(0, 1, (.c (.int .i64 (.lit 0)))), (1, 1, (.c (.int .i64 (.lit 32)))), (2, 1, (.c (.int .i64 (.lit 0)))), (3, 1, (.c (.int .i64 (.lit 0))))]⟩,
 ⟨some 2, false, none, iCall (.c (.func (.func 18) [] [])) [(.c (.int .i64 (.lit 3))), (.c (.int .i64 (.lit 2))), (.c (.int .i64 (.lit 1))), (.c (.bool (.lit true))), (.c (.bool (.lit true)))]⟩,
 ⟨some 3, false, none, iCall (.c (.func (.func 18) [] [])) [(.c (.int .i64 (.lit 1))), (.c (.int .i64 (.lit 1))), (.c (.int .i64 (.lit 0))), (.c (.bool (.lit false))), (.c (.bool (.lit true)))]⟩,
 ⟨some 4, false, none, iCall (.c (.func (.func 18) [] [])) [(.c (.int .i64 (.lit 2))), (.c (.int .i64 (.lit 1))), (.c (.int .i64 (.lit 0))), (.c (.bool (.lit true))), (.c (.bool (.lit false)))]⟩,
 ⟨some 5, false, none, iBslice 30 [(.int .i64 (.lit 0)), (.int .i64 (.lit 0)), (.int .i64 (.lit 0)), (.bool (.lit false)), (.bool (.lit false))] 3 [(0, 5, (.t 2)), (5, 5, (.t 3)), (10, 5, (.t 4))]⟩,
 ⟨some 6, false, none, iBslice 3 [(.int .i64 (.lit 0))] 3 [(0, 1, (.c (.int .i64 (.lit 0)))), (1, 1, (.c (.int .i64 (.lit 0)))), (2, 1, (.c (.int .i64 (.lit 2))))]⟩,
 ⟨some 7, false, none, iBslice 3 [(.int .i64 (.lit 0))] 3 [(0, 1, (.c (.int .i64 (.lit 0)))), (1, 1, (.c (.int .i64 (.lit 0)))), (2, 1, (.c (.int .i64 (.lit 0))))]⟩,
 ⟨some 8, false, none, iBslice 3 [(.int .i64 (.lit 0))] 3 [(0, 1, (.c (.int .i64 (.lit 2)))), (1, 1, (.c (.int .i64 (.lit 0)))), (2, 1, (.c (.int .i64 (.lit 0))))]⟩,
 ⟨some 9, false, none, iBslice 22 [.nilslice] 3 [(0, 1, (.t 6)), (1, 1, (.t 7)), (2, 1, (.t 8))]⟩,
 ⟨some 10, false, none, iBuild [(.int .i64 (.lit 0)), (.int .i64 (.lit 0)), .nilslice, .nilslice, .nilslice, (.int .i64 (.lit 0))] [(0, 1, (.c (.int .i64 (.lit 6)))), (1, 1, (.c (.int .i64 (.lit 4)))), (2, 1, (.t 1)), (5, 1, (.c (.int .i64 (.lit 50)))), (3, 1, (.t 5)), (4, 1, (.t 9))]⟩,
 ⟨none, false, none, iStore 6 (.t 0) (.t 10)⟩])
 cRet)), [.cell 0 true 6]⟩
noncomputable def Tryd.kp5 : List Nat := [0, 1, 2, 3, 5, 6, 7, 8, 9, 11, 18, 23]
noncomputable def Tryd.cf5 : CF := ⟨3, (cSeq (cOps [⟨some 3, true, none, iBox 26 (.t 0)⟩,
 ⟨some 5, true, none, iBox 35 (.t 2)⟩,
 ⟨some 6, true, none, iMov (.c (.bool (.lit false)))⟩,
 ⟨some 7, true, none, iMov (.c (.int .i64 (.lit 0)))⟩])
 (cSeq (cOps [⟨some 13, false, none, iLoadN 6 (.t 3)⟩,
 ⟨some 14, false, none, iCall (.c (.func (.func 21) [] [])) [(.t 13)]⟩,
 ⟨some 12, false, none, iMov (.t 14)⟩,
 ⟨some 15, false, none, iExtract 0 (.t 12)⟩,
 ⟨some 16, false, none, iExtract 1 (.t 12)⟩,
 ⟨some 8, true, none, iAlloc 58 [(.int .i64 (.lit 0)), (.int .i64 (.lit 0)), .nilslice, .nilslice, .nilslice, (.int .i64 (.lit 0)), (.int .i64 (.lit 0)), (.int .i64 (.lit 0)), (.int .i64 (.lit 0)), (.int .i64 (.lit 0)), (.int .i64 (.lit 0)), .nilmap]⟩,
 ⟨none, false, none, iStore 12 (.t 8) (.t 15)⟩,
 ⟨some 9, true, none, iMov (.t 16)⟩])
 (cSeq (cSeq (cOps [⟨some 17, false, none, iMov (.t 9)⟩,
 ⟨some 18, true, none, iCmp .neq (.t 17) (.c (.int .i64 (.lit 0)))⟩])
 (cCond (.t 18) (cSeq (cOps [⟨some 19, false, none, iMov (.t 9)⟩,
 ⟨some 6, true, none, iMov (.c (.bool (.lit false)))⟩,
 ⟨some 7, true, none, iMov (.t 19)⟩])
 cRet) cSkip))
 (cSeq (cSeq (cOps [⟨some 20, false, none, iLoadN 12 (.t 8)⟩,
 ⟨some 21, false, none, iMov (.t 1)⟩,
 ⟨some 22, false, none, iCall (.c (.func (.func 22) [] [])) [(.t 20), (.t 21)]⟩,
 ⟨some 23, true, none, iNot (.t 22)⟩])
 (cCond (.t 23) (cSeq (cOps [⟨some 6, true, none, iMov (.c (.bool (.lit false)))⟩,
 ⟨some 7, true, none, iMov (.c (.int .i64 (.lit 21)))⟩])
 cRet) cSkip))
 (cSeq (cOps [⟨some 25, false, none, iFaddr 11 (.t 8)⟩,
 ⟨some 26, false, none, iLoad (.t 25)⟩,
 ⟨some 27, false, none, iMov (.t 1)⟩,
 ⟨some 28, false, none, iLoadN 3 (.t 5)⟩,
 ⟨some 29, false, none, iBuild [(.int .i64 (.lit 0)), (.int .i64 (.lit 0)), (.int .i64 (.lit 0)), (.bool (.lit false))] [(0, 1, (.t 27)), (1, 3, (.t 28))]⟩,
 ⟨some 30, false, none, iLookup (.agg [(.int .i64 (.lit 0)), (.int .i64 (.lit 0)), (.int .i64 (.lit 0)), (.bool (.lit false)), (.int .i64 (.lit 0)), (.int .i64 (.lit 0)), (.int .i64 (.lit 0)), (.int .i64 (.lit 0)), (.int .i64 (.lit 0)), (.int .i64 (.lit 0)), (.int .i64 (.lit 0)), (.int .i64 (.lit 0)), (.int .i64 (.lit 0))]) true 4 [(0, .int), (1, .int), (2, .int), (3, .bool)] true (.t 26) (.t 29)⟩,
 ⟨some 24, false, none, iMov (.t 30)⟩,
 ⟨some 31, false, none, iExtract 0 (.t 24)⟩,
 ⟨some 32, false, none, iExtract 1 (.t 24)⟩,
 ⟨some 10, false, none, iAlloc 67 [(.int .i64 (.lit 0)), (.int .i64 (.lit 0)), (.int .i64 (.lit 0)), (.bool (.lit false)), (.int .i64 (.lit 0)), (.int .i64 (.lit 0)), (.int .i64 (.lit 0)), (.int .i64 (.lit 0)), (.int .i64 (.lit 0)), (.int .i64 (.lit 0)), (.int .i64 (.lit 0)), (.int .i64 (.lit 0)), (.int .i64 (.lit 0))]⟩,
 ⟨none, false, none, iStore 13 (.t 10) (.t 31)⟩,
 ⟨some 11, true, none, iMov (.t 32)⟩])
 (cSeq (cOps [⟨some 33, false, none, iMov (.t 11)⟩,
 ⟨some 6, true, none, iMov (.t 33)⟩,
 ⟨some 7, true, none, iMov (.c (.int .i64 (.lit 0)))⟩])
 cRet)))))), [.t 6, .t 7]⟩
noncomputable def Tryd.kp6 : List Nat := [0, 1, 4]
noncomputable def Tryd.cf6 : CF := ⟨2, (cSeq (cOps [⟨some 4, true, none, iAlloc 35 [(.int .i64 (.lit 0)), (.int .i64 (.lit 0)), (.bool (.lit false))]⟩])
 (cSeq (cOps [⟨some 5, false, none, iMov (.t 0)⟩,
 ⟨some 6, false, none, iMov (.t 1)⟩,
 ⟨some 7, false, none, iBuild [(.int .i64 (.lit 0)), (.int .i64 (.lit 0)), (.bool (.lit false))] [(0, 1, (.t 5)), (1, 1, (.t 6))]⟩,
 ⟨none, false, none, iStore 3 (.t 4) (.t 7)⟩])
 cRet)), [.cell 4 true 3]⟩
noncomputable def Tryd.kp7 : List Nat := [0, 1, 2, 3, 4, 5, 7, 9, 10, 11, 12, 13, 14, 15, 16, 17, 24, 54, 58]
noncomputable def Tryd.cf7 : CF := ⟨5, (cSeq (cOps [⟨some 5, true, none, iBox 26 (.t 0)⟩,
 ⟨some 7, true, none, iBox 35 (.t 2)⟩,
 ⟨some 9, true, none, iBox 35 (.t 4)⟩,
 ⟨some 10, true, none, iMov (.c (.int .i64 (.lit 0)))⟩,
 ⟨some 11, true, none, iMov (.c (.int .i64 (.lit 0)))⟩])
 (cSeq (cOps [⟨some 19, false, none, iLoadN 6 (.t 5)⟩,
 ⟨some 20, false, none, iCall (.c (.func (.func 21) [] [])) [(.t 19)]⟩,
 ⟨some 18, false, none, iMov (.t 20)⟩,
 ⟨some 21, false, none, iExtract 0 (.t 18)⟩,
 ⟨some 22, false, none, iExtract 1 (.t 18)⟩,
 ⟨some 12, true, none, iAlloc 58 [(.int .i64 (.lit 0)), (.int .i64 (.lit 0)), .nilslice, .nilslice, .nilslice, (.int .i64 (.lit 0)), (.int .i64 (.lit 0)), (.int .i64 (.lit 0)), (.int .i64 (.lit 0)), (.int .i64 (.lit 0)), (.int .i64 (.lit 0)), .nilmap]⟩,
 ⟨none, false, none, iStore 12 (.t 12) (.t 21)⟩,
 ⟨some 13, true, none, iMov (.t 22)⟩])
 (cSeq (cSeq (cOps [⟨some 23, false, none, iMov (.t 13)⟩,
 ⟨some 24, true, none, iCmp .neq (.t 23) (.c (.int .i64 (.lit 0)))⟩])
 (cCond (.t 24) (cSeq (cOps [⟨some 25, false, none, iMov (.t 13)⟩,
 ⟨some 10, true, none, iMov (.c (.int .i64 (.lit 0)))⟩,
 ⟨some 11, true, none, iMov (.t 25)⟩])
 cRet) cSkip))
 (cSeq (cOps [⟨some 27, false, none, iFaddr 11 (.t 12)⟩,
 ⟨some 28, false, none, iLoad (.t 27)⟩,
 ⟨some 29, false, none, iMov (.t 1)⟩,
 ⟨some 30, false, none, iLoadN 3 (.t 7)⟩,
 ⟨some 31, false, none, iBuild [(.int .i64 (.lit 0)), (.int .i64 (.lit 0)), (.int .i64 (.lit 0)), (.bool (.lit false))] [(0, 1, (.t 29)), (1, 3, (.t 30))]⟩,
 ⟨some 32, false, none, iLookup (.agg [(.int .i64 (.lit 0)), (.int .i64 (.lit 0)), (.int .i64 (.lit 0)), (.bool (.lit false)), (.int .i64 (.lit 0)), (.int .i64 (.lit 0)), (.int .i64 (.lit 0)), (.int .i64 (.lit 0)), (.int .i64 (.lit 0)), (.int .i64 (.lit 0)), (.int .i64 (.lit 0)), (.int .i64 (.lit 0)), (.int .i64 (.lit 0))]) true 4 [(0, .int), (1, .int), (2, .int), (3, .bool)] true (.t 28) (.t 31)⟩,
 ⟨some 26, false, none, iMov (.t 32)⟩,
 ⟨some 33, false, none, iExtract 0 (.t 26)⟩,
 ⟨some 34, false, none, iExtract 1 (.t 26)⟩,
 ⟨some 14, true, none, iAlloc 67 [(.int .i64 (.lit 0)), (.int .i64 (.lit 0)), (.int .i64 (.lit 0)), (.bool (.lit false)), (.int .i64 (.lit 0)), (.int .i64 (.lit 0)), (.int .i64 (.lit 0)), (.int .i64 (.lit 0)), (.int .i64 (.lit 0)), (.int .i64 (.lit 0)), (.int .i64 (.lit 0)), (.int .i64 (.lit 0)), (.int .i64 (.lit 0))]⟩,
 ⟨none, false, none, iStore 13 (.t 14) (.t 33)⟩,
 ⟨some 15, true, none, iMov (.t 34)⟩])
 (cSeq (cOps [⟨some 36, false, none, iFaddr 11 (.t 12)⟩,
 ⟨some 37, false, none, iLoad (.t 36)⟩,
 ⟨some 38, false, none, iMov (.t 3)⟩,
 ⟨some 39, false, none, iLoadN 3 (.t 9)⟩,
 ⟨some 40, false, none, iBuild [(.int .i64 (.lit 0)), (.int .i64 (.lit 0)), (.int .i64 (.lit 0)), (.bool (.lit false))] [(0, 1, (.t 38)), (1, 3, (.t 39))]⟩,
 ⟨some 41, false, none, iLookup (.agg [(.int .i64 (.lit 0)), (.int .i64 (.lit 0)), (.int .i64 (.lit 0)), (.bool (.lit false)), (.int .i64 (.lit 0)), (.int .i64 (.lit 0)), (.int .i64 (.lit 0)), (.int .i64 (.lit 0)), (.int .i64 (.lit 0)), (.int .i64 (.lit 0)), (.int .i64 (.lit 0)), (.int .i64 (.lit 0)), (.int .i64 (.lit 0))]) true 4 [(0, .int), (1, .int), (2, .int), (3, .bool)] true (.t 37) (.t 40)⟩,
 ⟨some 35, false, none, iMov (.t 41)⟩,
 ⟨some 42, false, none, iExtract 0 (.t 35)⟩,
 ⟨some 43, false, none, iExtract 1 (.t 35)⟩,
 ⟨some 16, true, none, iAlloc 67 [(.int .i64 (.lit 0)), (.int .i64 (.lit 0)), (.int .i64 (.lit 0)), (.bool (.lit false)), (.int .i64 (.lit 0)), (.int .i64 (.lit 0)), (.int .i64 (.lit 0)), (.int .i64 (.lit 0)), (.int .i64 (.lit 0)), (.int .i64 (.lit 0)), (.int .i64 (.lit 0)), (.int .i64 (.lit 0)), (.int .i64 (.lit 0))]⟩,
 ⟨none, false, none, iStore 13 (.t 16) (.t 42)⟩,
 ⟨some 17, true, none, iMov (.t 43)⟩])
 (cSeq (cSeq (cOps [⟨some 44, false, none, iMov (.t 1)⟩,
 ⟨some 45, false, none, iMov (.t 3)⟩,
 ⟨some 46, false, none, iCmp .eql (.t 44) (.t 45)⟩,
 ⟨some 47, false, none, iMov (.t 46)⟩,
 ⟨some 48, false, some (47, false), iMov (.t 15)⟩,
 ⟨some 49, false, some (47, false), iNot (.t 48)⟩,
 ⟨some 50, false, none, iPick (.t 47) (.c (.bool (.lit true))) (.t 49)⟩,
 ⟨some 51, false, none, iMov (.t 50)⟩,
 ⟨some 52, false, some (51, false), iMov (.t 17)⟩,
 ⟨some 53, false, some (51, false), iNot (.t 52)⟩,
 ⟨some 54, true, none, iPick (.t 51) (.c (.bool (.lit true))) (.t 53)⟩])
 (cCond (.t 54) (cSeq (cOps [⟨some 10, true, none, iMov (.c (.int .i64 (.lit 0)))⟩,
 ⟨some 11, true, none, iMov (.c (.int .i64 (.lit 21)))⟩])
 cRet) cSkip))
 (cSeq (cSeq (cOps [⟨some 55, false, none, iLoadN 13 (.t 14)⟩,
 ⟨some 56, false, none, iLoadN 13 (.t 16)⟩,
 ⟨some 57, false, none, iCall (.c (.func (.func 23) [] [])) [(.t 55), (.t 56)]⟩,
 ⟨some 58, true, none, iNot (.t 57)⟩])
 (cCond (.t 58) (cSeq (cOps [⟨some 10, true, none, iMov (.c (.int .i64 (.lit 0)))⟩,
 ⟨some 11, true, none, iMov (.c (.int .i64 (.lit 4)))⟩])
 cRet) cSkip))
 (cSeq (cOps [⟨some 59, false, none, iLoadN 13 (.t 14)⟩,
 ⟨some 60, false, none, iLoadN 13 (.t 16)⟩,
 ⟨some 61, false, none, iCall (.c (.func (.func 24) [] [])) [(.t 59), (.t 60)]⟩,
 ⟨some 10, true, none, iMov (.t 61)⟩,
 ⟨some 11, true, none, iMov (.c (.int .i64 (.lit 0)))⟩])
 cRet)))))))), [.t 10, .t 11]⟩
noncomputable def Tryd.kp8 : List Nat := [0, 1, 2, 3, 6, 7, 8, 9, 10, 11, 12, 13, 20, 34, 47, 61]
noncomputable def Tryd.cf8 : CF := ⟨3, (cSeq (cOps [⟨some 3, true, none, iBox 26 (.t 0)⟩,
 ⟨some 6, true, none, iMov (.c (.int .i64 (.lit 0)))⟩,
 ⟨some 7, true, none, iMov (.c (.int .i64 (.lit 0)))⟩])
 (cSeq (cOps [⟨some 15, false, none, iLoadN 6 (.t 3)⟩,
 ⟨some 16, false, none, iCall (.c (.func (.func 21) [] [])) [(.t 15)]⟩,
 ⟨some 14, false, none, iMov (.t 16)⟩,
 ⟨some 17, false, none, iExtract 0 (.t 14)⟩,
 ⟨some 18, false, none, iExtract 1 (.t 14)⟩,
 ⟨some 8, true, none, iAlloc 58 [(.int .i64 (.lit 0)), (.int .i64 (.lit 0)), .nilslice, .nilslice, .nilslice, (.int .i64 (.lit 0)), (.int .i64 (.lit 0)), (.int .i64 (.lit 0)), (.int .i64 (.lit 0)), (.int .i64 (.lit 0)), (.int .i64 (.lit 0)), .nilmap]⟩,
 ⟨none, false, none, iStore 12 (.t 8) (.t 17)⟩,
 ⟨some 9, true, none, iMov (.t 18)⟩])
 (cSeq (cSeq (cOps [⟨some 19, false, none, iMov (.t 9)⟩,
 ⟨some 20, true, none, iCmp .neq (.t 19) (.c (.int .i64 (.lit 0)))⟩])
 (cCond (.t 20) (cSeq (cOps [⟨some 21, false, none, iMov (.t 9)⟩,
 ⟨some 6, true, none, iMov (.c (.int .i64 (.lit 0)))⟩,
 ⟨some 7, true, none, iMov (.t 21)⟩])
 cRet) cSkip))
 (cSeq (cSeq (cOps [⟨some 22, false, none, iLoadN 12 (.t 8)⟩,
 ⟨some 23, false, none, iMov (.t 2)⟩,
 ⟨some 24, false, none, iCall (.c (.func (.func 22) [] [])) [(.t 22), (.t 23)]⟩,
 ⟨some 25, false, none, iNot (.t 24)⟩,
 ⟨some 26, false, none, iMov (.t 25)⟩,
 ⟨some 27, false, some (26, false), iMov (.t 1)⟩,
 ⟨some 28, false, some (26, false), iLenS (.t 27)⟩,
 ⟨some 29, false, some (26, false), iFaddr 0 (.t 8)⟩,
 ⟨some 30, false, some (26, false), iFaddr 3 (.t 29)⟩,
 ⟨some 31, false, some (26, false), iLoad (.t 30)⟩,
 ⟨some 32, false, some (26, false), iLenS (.t 31)⟩,
 ⟨some 33, false, some (26, false), iCmp .neq (.t 28) (.t 32)⟩,
 ⟨some 34, true, none, iPick (.t 26) (.c (.bool (.lit true))) (.t 33)⟩])
 (cCond (.t 34) (cSeq (cOps [⟨some 6, true, none, iMov (.c (.int .i64 (.lit 0)))⟩,
 ⟨some 7, true, none, iMov (.c (.int .i64 (.lit 21)))⟩])
 cRet) cSkip))
 (cSeq (cOps [⟨some 36, false, none, iLoadN 12 (.t 8)⟩,
 ⟨some 37, false, none, iMov (.t 1)⟩,
 ⟨some 38, false, none, iCall (.c (.func (.func 25) [] [])) [(.t 36), (.t 37)]⟩,
 ⟨some 35, false, none, iMov (.t 38)⟩,
 ⟨some 39, false, none, iExtract 0 (.t 35)⟩,
 ⟨some 40, false, none, iExtract 1 (.t 35)⟩,
 ⟨some 10, true, none, iMov (.t 39)⟩,
 ⟨some 11, true, none, iMov (.t 40)⟩])
 (cSeq (cSeq (cOps [⟨some 41, false, none, iMov (.t 11)⟩,
 ⟨some 42, false, none, iNot (.t 41)⟩,
 ⟨some 43, false, none, iMov (.t 42)⟩,
 ⟨some 44, false, some (43, false), iMov (.t 10)⟩,
 ⟨some 45, false, some (43, false), iCall (.c (.func (.func 26) [] [])) [(.t 44), (.c (.func (.func 23) [] []))]⟩,
 ⟨some 46, false, some (43, false), iNot (.t 45)⟩,
 ⟨some 47, true, none, iPick (.t 43) (.c (.bool (.lit true))) (.t 46)⟩])
 (cCond (.t 47) (cSeq (cOps [⟨some 6, true, none, iMov (.c (.int .i64 (.lit 0)))⟩,
 ⟨some 7, true, none, iMov (.c (.int .i64 (.lit 21)))⟩])
 cRet) cSkip))
 (cSeq (dOps 0 [⟨⟨some 49, false, none, iMov (.t 10)⟩, [10], false, 0, 1, none, []⟩,
 ⟨⟨some 50, false, none, iMov (.t 2)⟩, [2], false, 0, 1, none, []⟩,
 ⟨⟨some 51, false, none, iIaddr 13 (.t 49) (.t 50)⟩, [49, 50], false, 0, 1, none, []⟩,
 ⟨⟨some 52, false, none, iFaddr 8 (.t 51)⟩, [51], false, 0, 1, none, []⟩,
 ⟨⟨some 53, false, none, iLoadN 5 (.t 52)⟩, [52], false, 0, 1, none, []⟩,
 ⟨⟨some 54, false, none, iLoadN 12 (.t 8)⟩, [8], false, 0, 0, none, []⟩,
 ⟨⟨some 55, false, none, iMov (.t 10)⟩, [10], false, 0, 0, none, []⟩,
 ⟨⟨some 56, false, none, iCall (.c (.func (.func 28) [] [])) [(.t 54), (.t 55)]⟩, [54, 55], true, 0, 0, none, []⟩,
 ⟨⟨some 57, false, none, iCall (.c (.func (.func 27) [] [])) [(.t 53), (.t 56)]⟩, [53, 56], true, 1, 0, none, []⟩,
 ⟨⟨some 48, false, none, iMov (.t 57)⟩, [57], false, 2, 2, none, []⟩,
 ⟨⟨some 58, false, none, iExtract 0 (.t 48)⟩, [48], false, 2, 2, none, []⟩,
 ⟨⟨some 59, false, none, iExtract 1 (.t 48)⟩, [48], false, 2, 2, none, []⟩,
 ⟨⟨some 12, true, none, iMov (.t 58)⟩, [58], false, 2, 2, none, []⟩,
 ⟨⟨some 13, true, none, iMov (.t 59)⟩, [59], false, 2, 2, none, []⟩])
 (cSeq (cSeq (cOps [⟨some 60, false, none, iMov (.t 13)⟩,
 ⟨some 61, true, none, iNot (.t 60)⟩])
 (cCond (.t 61) (cSeq (cOps [⟨some 6, true, none, iMov (.c (.int .i64 (.lit 0)))⟩,
 ⟨some 7, true, none, iMov (.c (.int .i64 (.lit 4)))⟩])
 cRet) cSkip))
 (cSeq (cOps [⟨some 62, false, none, iMov (.t 12)⟩,
 ⟨some 6, true, none, iMov (.t 62)⟩,
 ⟨some 7, true, none, iMov (.c (.int .i64 (.lit 0)))⟩])
 cRet))))))))), [.t 6, .t 7]⟩
noncomputable def Tryd.kp9 : List Nat := [0, 1, 2, 4, 5, 6, 7, 14]
noncomputable def Tryd.cf9 : CF := ⟨2, (cSeq (cOps [⟨some 2, true, none, iBox 26 (.t 0)⟩,
 ⟨some 4, true, none, iMov (.c (.bool (.lit false)))⟩,
 ⟨some 5, true, none, iMov (.c (.int .i64 (.lit 0)))⟩])
 (cSeq (cOps [⟨some 9, false, none, iLoadN 6 (.t 2)⟩,
 ⟨some 10, false, none, iCall (.c (.func (.func 21) [] [])) [(.t 9)]⟩,
 ⟨some 8, false, none, iMov (.t 10)⟩,
 ⟨some 11, false, none, iExtract 0 (.t 8)⟩,
 ⟨some 12, false, none, iExtract 1 (.t 8)⟩,
 ⟨some 6, true, none, iAlloc 58 [(.int .i64 (.lit 0)), (.int .i64 (.lit 0)), .nilslice, .nilslice, .nilslice, (.int .i64 (.lit 0)), (.int .i64 (.lit 0)), (.int .i64 (.lit 0)), (.int .i64 (.lit 0)), (.int .i64 (.lit 0)), (.int .i64 (.lit 0)), .nilmap]⟩,
 ⟨none, false, none, iStore 12 (.t 6) (.t 11)⟩,
 ⟨some 7, true, none, iMov (.t 12)⟩])
 (cSeq (cSeq (cOps [⟨some 13, false, none, iMov (.t 7)⟩,
 ⟨some 14, true, none, iCmp .neq (.t 13) (.c (.int .i64 (.lit 0)))⟩])
 (cCond (.t 14) (cSeq (cOps [⟨some 15, false, none, iMov (.t 7)⟩,
 ⟨some 4, true, none, iMov (.c (.bool (.lit false)))⟩,
 ⟨some 5, true, none, iMov (.t 15)⟩])
 cRet) cSkip))
 (cSeq (cOps [⟨some 16, false, none, iMov (.t 1)⟩,
 ⟨some 17, false, none, iLenS (.t 16)⟩,
 ⟨some 18, false, none, iFaddr 0 (.t 6)⟩,
 ⟨some 19, false, none, iFaddr 3 (.t 18)⟩,
 ⟨some 20, false, none, iLoad (.t 19)⟩,
 ⟨some 21, false, none, iLenS (.t 20)⟩,
 ⟨some 22, false, none, iCmp .eql (.t 17) (.t 21)⟩,
 ⟨some 23, false, none, iMov (.t 22)⟩,
 ⟨some 24, false, some (23, true), iLoadN 12 (.t 6)⟩,
 ⟨some 25, false, some (23, true), iMov (.t 1)⟩,
 ⟨some 26, false, some (23, true), iCall (.c (.func (.func 29) [] [])) [(.t 24), (.t 25)]⟩,
 ⟨some 27, false, none, iPick (.t 23) (.t 26) (.c (.bool (.lit false)))⟩,
 ⟨some 4, true, none, iMov (.t 27)⟩,
 ⟨some 5, true, none, iMov (.c (.int .i64 (.lit 0)))⟩])
 cRet)))), [.t 4, .t 5]⟩
noncomputable def Tryd.kp10 : List Nat := [0, 1, 2, 3, 4, 5, 6, 7, 9, 16, 22, 26, 27, 28, 29]
noncomputable def Tryd.cf10 : CF := ⟨1, (cSeq (cOps [⟨some 1, true, none, iBox 26 (.t 0)⟩,
 ⟨some 2, true, none, iMov (.c .nilslice)⟩,
 ⟨some 3, true, none, iMov (.c (.int .i64 (.lit 0)))⟩])
 (cSeq (cOps [⟨some 11, false, none, iLoadN 6 (.t 1)⟩,
 ⟨some 12, false, none, iCall (.c (.func (.func 21) [] [])) [(.t 11)]⟩,
 ⟨some 10, false, none, iMov (.t 12)⟩,
 ⟨some 13, false, none, iExtract 0 (.t 10)⟩,
 ⟨some 14, false, none, iExtract 1 (.t 10)⟩,
 ⟨some 4, true, none, iAlloc 58 [(.int .i64 (.lit 0)), (.int .i64 (.lit 0)), .nilslice, .nilslice, .nilslice, (.int .i64 (.lit 0)), (.int .i64 (.lit 0)), (.int .i64 (.lit 0)), (.int .i64 (.lit 0)), (.int .i64 (.lit 0)), (.int .i64 (.lit 0)), .nilmap]⟩,
 ⟨none, false, none, iStore 12 (.t 4) (.t 13)⟩,
 ⟨some 5, true, none, iMov (.t 14)⟩])
 (cSeq (cSeq (cOps [⟨some 15, false, none, iMov (.t 5)⟩,
 ⟨some 16, true, none, iCmp .neq (.t 15) (.c (.int .i64 (.lit 0)))⟩])
 (cCond (.t 16) (cSeq (cOps [⟨some 17, false, none, iMov (.t 5)⟩,
 ⟨some 2, true, none, iMov (.c .nilslice)⟩,
 ⟨some 3, true, none, iMov (.t 17)⟩])
 cRet) cSkip))
 (cSeq (cOps [⟨some 18, false, none, iLoadN 12 (.t 4)⟩,
 ⟨some 19, false, none, iCall (.c (.func (.func 30) [] [])) [(.t 18)]⟩,
 ⟨some 6, true, none, iMov (.t 19)⟩])
 (cSeq (cSeq (cOps [⟨some 20, false, none, iMov (.t 6)⟩,
 ⟨some 21, false, none, iLenS (.t 20)⟩,
 ⟨some 22, true, none, iCmp .eql (.t 21) (.c (.int .i64 (.lit 0)))⟩])
 (cCond (.t 22) (cSeq (cOps [⟨some 2, true, none, iMov (.c .nilslice)⟩,
 ⟨some 3, true, none, iMov (.c (.int .i64 (.lit 4)))⟩])
 cRet) cSkip))
 (cSeq (cOps [⟨some 23, false, none, iMov (.t 6)⟩,
 ⟨some 24, false, none, iLenS (.t 23)⟩,
 ⟨some 25, false, none, iMkslice 35 [(.int .i64 (.lit 0)), (.int .i64 (.lit 0)), (.bool (.lit false))] 24 (.t 24) (.t 24)⟩,
 ⟨some 7, true, none, iMov (.t 25)⟩])
 (cSeq (cSeq (cOps [⟨some 26, true, none, iMov (.t 6)⟩,
 ⟨some 27, true, none, iLenS (.t 26)⟩,
 ⟨some 28, true, none, iMov (.c (.int .i64 (.lit 0)))⟩])
 (cBlock 0 (cLoop (cSeq (cOps [⟨some 29, true, none, iCmp .lss (.t 28) (.t 27)⟩])
 (cSeq (cCond (.t 29) cSkip (cExit 0))
 (cSeq (cBlock 1 (cSeq (cOps [⟨some 30, false, none, iIaddr 13 (.t 26) (.t 28)⟩,
 ⟨some 31, false, none, iLoadN 13 (.t 30)⟩,
 ⟨some 9, true, none, iAlloc 67 [(.int .i64 (.lit 0)), (.int .i64 (.lit 0)), (.int .i64 (.lit 0)), (.bool (.lit false)), (.int .i64 (.lit 0)), (.int .i64 (.lit 0)), (.int .i64 (.lit 0)), (.int .i64 (.lit 0)), (.int .i64 (.lit 0)), (.int .i64 (.lit 0)), (.int .i64 (.lit 0)), (.int .i64 (.lit 0)), (.int .i64 (.lit 0))]⟩,
 ⟨none, false, none, iStore 13 (.t 9) (.t 31)⟩])
 (cOps [⟨some 32, false, none, iMov (.t 7)⟩,
 ⟨some 33, false, none, iFaddr 0 (.t 9)⟩,
 ⟨some 34, false, none, iFaddr 0 (.t 33)⟩,
 ⟨some 35, false, none, iLoad (.t 34)⟩,
 ⟨some 36, false, none, iFaddr 0 (.t 9)⟩,
 ⟨some 37, false, none, iFaddr 1 (.t 36)⟩,
 ⟨some 38, false, none, iLoadN 3 (.t 37)⟩,
 ⟨some 39, false, none, iIaddr 3 (.t 32) (.t 35)⟩,
 ⟨none, false, none, iStore 3 (.t 39) (.t 38)⟩])))
 (cOps [⟨some 40, false, none, iArith .add (.t 28) (.c (.int .i64 (.lit 1)))⟩,
 ⟨some 28, true, none, iMov (.t 40)⟩])))))))
 (cSeq (cOps [⟨some 41, false, none, iMov (.t 7)⟩,
 ⟨some 2, true, none, iMov (.t 41)⟩,
 ⟨some 3, true, none, iMov (.c (.int .i64 (.lit 0)))⟩])
 cRet)))))))), [.t 2, .t 3]⟩
noncomputable def Tryd.kp11 : List Nat := [0, 1, 2, 3, 4, 5, 6, 13, 19]
noncomputable def Tryd.cf11 : CF := ⟨1, (cSeq (cOps [⟨some 1, true, none, iBox 26 (.t 0)⟩,
 ⟨some 2, true, none, iMov (.c (.int .i64 (.lit 0)))⟩,
 ⟨some 3, true, none, iMov (.c (.int .i64 (.lit 0)))⟩])
 (cSeq (cOps [⟨some 8, false, none, iLoadN 6 (.t 1)⟩,
 ⟨some 9, false, none, iCall (.c (.func (.func 21) [] [])) [(.t 8)]⟩,
 ⟨some 7, false, none, iMov (.t 9)⟩,
 ⟨some 10, false, none, iExtract 0 (.t 7)⟩,
 ⟨some 11, false, none, iExtract 1 (.t 7)⟩,
 ⟨some 4, true, none, iAlloc 58 [(.int .i64 (.lit 0)), (.int .i64 (.lit 0)), .nilslice, .nilslice, .nilslice, (.int .i64 (.lit 0)), (.int .i64 (.lit 0)), (.int .i64 (.lit 0)), (.int .i64 (.lit 0)), (.int .i64 (.lit 0)), (.int .i64 (.lit 0)), .nilmap]⟩,
 ⟨none, false, none, iStore 12 (.t 4) (.t 10)⟩,
 ⟨some 5, true, none, iMov (.t 11)⟩])
 (cSeq (cSeq (cOps [⟨some 12, false, none, iMov (.t 5)⟩,
 ⟨some 13, true, none, iCmp .neq (.t 12) (.c (.int .i64 (.lit 0)))⟩])
 (cCond (.t 13) (cSeq (cOps [⟨some 14, false, none, iMov (.t 5)⟩,
 ⟨some 2, true, none, iMov (.c (.int .i64 (.lit 0)))⟩,
 ⟨some 3, true, none, iMov (.t 14)⟩])
 cRet) cSkip))
 (cSeq (cOps [⟨some 15, false, none, iLoadN 12 (.t 4)⟩,
 ⟨some 16, false, none, iCall (.c (.func (.func 30) [] [])) [(.t 15)]⟩,
 ⟨some 6, true, none, iMov (.t 16)⟩])
 (cSeq (cSeq (cOps [⟨some 17, false, none, iMov (.t 6)⟩,
 ⟨some 18, false, none, iLenS (.t 17)⟩,
 ⟨some 19, true, none, iCmp .eql (.t 18) (.c (.int .i64 (.lit 0)))⟩])
 (cCond (.t 19) (cSeq (cOps [⟨some 2, true, none, iMov (.c (.int .i64 (.lit 0)))⟩,
 ⟨some 3, true, none, iMov (.c (.int .i64 (.lit 4)))⟩])
 cRet) cSkip))
 (cSeq (dOps 0 [⟨⟨some 20, false, none, iMov (.t 6)⟩, [6], false, 0, 0, none, []⟩,
 ⟨⟨some 21, false, none, iCall (.c (.func (.func 31) [] [])) [(.t 20)]⟩, [20], true, 0, 0, none, []⟩,
 ⟨⟨some 22, false, none, iFaddr 0 (.t 4)⟩, [4], false, 0, 1, none, []⟩,
 ⟨⟨some 23, false, none, iFaddr 5 (.t 22)⟩, [22], false, 0, 1, none, []⟩,
 ⟨⟨some 24, false, none, iLoad (.t 23)⟩, [23], false, 0, 1, none, []⟩,
 ⟨⟨some 25, false, none, iArith .mul (.t 21) (.t 24)⟩, [21, 24], false, 1, 1, none, []⟩,
 ⟨⟨some 2, true, none, iMov (.t 25)⟩, [25], false, 1, 1, none, []⟩,
 ⟨⟨some 3, true, none, iMov (.c (.int .i64 (.lit 0)))⟩, [], false, 1, 1, none, []⟩])
 cRet)))))), [.t 2, .t 3]⟩
noncomputable def Tryd.kp12 : List Nat := [0, 1, 2, 3, 6, 7, 8, 9, 16, 30]
noncomputable def Tryd.cf12 : CF := ⟨3, (cSeq (cOps [⟨some 3, true, none, iBox 26 (.t 0)⟩,
 ⟨some 6, true, none, iMov (.c .nilslice)⟩,
 ⟨some 7, true, none, iMov (.c (.int .i64 (.lit 0)))⟩])
 (cSeq (cOps [⟨some 11, false, none, iLoadN 6 (.t 3)⟩,
 ⟨some 12, false, none, iCall (.c (.func (.func 21) [] [])) [(.t 11)]⟩,
 ⟨some 10, false, none, iMov (.t 12)⟩,
 ⟨some 13, false, none, iExtract 0 (.t 10)⟩,
 ⟨some 14, false, none, iExtract 1 (.t 10)⟩,
 ⟨some 8, true, none, iAlloc 58 [(.int .i64 (.lit 0)), (.int .i64 (.lit 0)), .nilslice, .nilslice, .nilslice, (.int .i64 (.lit 0)), (.int .i64 (.lit 0)), (.int .i64 (.lit 0)), (.int .i64 (.lit 0)), (.int .i64 (.lit 0)), (.int .i64 (.lit 0)), .nilmap]⟩,
 ⟨none, false, none, iStore 12 (.t 8) (.t 13)⟩,
 ⟨some 9, true, none, iMov (.t 14)⟩])
 (cSeq (cSeq (cOps [⟨some 15, false, none, iMov (.t 9)⟩,
 ⟨some 16, true, none, iCmp .neq (.t 15) (.c (.int .i64 (.lit 0)))⟩])
 (cCond (.t 16) (cSeq (cOps [⟨some 17, false, none, iMov (.t 9)⟩,
 ⟨some 6, true, none, iMov (.c .nilslice)⟩,
 ⟨some 7, true, none, iMov (.t 17)⟩])
 cRet) cSkip))
 (cSeq (cSeq (cOps [⟨some 18, false, none, iLoadN 12 (.t 8)⟩,
 ⟨some 19, false, none, iMov (.t 2)⟩,
 ⟨some 20, false, none, iCall (.c (.func (.func 22) [] [])) [(.t 18), (.t 19)]⟩,
 ⟨some 21, false, none, iNot (.t 20)⟩,
 ⟨some 22, false, none, iMov (.t 21)⟩,
 ⟨some 23, false, some (22, false), iMov (.t 1)⟩,
 ⟨some 24, false, some (22, false), iLenS (.t 23)⟩,
 ⟨some 25, false, some (22, false), iFaddr 0 (.t 8)⟩,
 ⟨some 26, false, some (22, false), iFaddr 3 (.t 25)⟩,
 ⟨some 27, false, some (22, false), iLoad (.t 26)⟩,
 ⟨some 28, false, some (22, false), iLenS (.t 27)⟩,
 ⟨some 29, false, some (22, false), iCmp .neq (.t 24) (.t 28)⟩,
 ⟨some 30, true, none, iPick (.t 22) (.c (.bool (.lit true))) (.t 29)⟩])
 (cCond (.t 30) (cSeq (cOps [⟨some 6, true, none, iMov (.c .nilslice)⟩,
 ⟨some 7, true, none, iMov (.c (.int .i64 (.lit 21)))⟩])
 cRet) cSkip))
 (cSeq (cOps [⟨some 31, false, none, iLoadN 12 (.t 8)⟩,
 ⟨some 32, false, none, iMov (.t 1)⟩,
 ⟨some 33, false, none, iMov (.t 2)⟩,
 ⟨some 34, false, none, iCall (.c (.func (.func 32) [] [])) [(.t 31), (.t 32), (.t 33)]⟩,
 ⟨some 6, true, none, iMov (.t 34)⟩,
 ⟨some 7, true, none, iMov (.c (.int .i64 (.lit 0)))⟩])
 cRet))))), [.t 6, .t 7]⟩
noncomputable def Tryd.kp13 : List Nat := [0, 1, 2, 3, 4, 5, 6, 13, 19]
noncomputable def Tryd.cf13 : CF := ⟨1, (cSeq (cOps [⟨some 1, true, none, iBox 26 (.t 0)⟩,
 ⟨some 2, true, none, iMov (.c .nilslice)⟩,
 ⟨some 3, true, none, iMov (.c (.int .i64 (.lit 0)))⟩])
 (cSeq (cOps [⟨some 8, false, none, iLoadN 6 (.t 1)⟩,
 ⟨some 9, false, none, iCall (.c (.func (.func 21) [] [])) [(.t 8)]⟩,
 ⟨some 7, false, none, iMov (.t 9)⟩,
 ⟨some 10, false, none, iExtract 0 (.t 7)⟩,
 ⟨some 11, false, none, iExtract 1 (.t 7)⟩,
 ⟨some 4, true, none, iAlloc 58 [(.int .i64 (.lit 0)), (.int .i64 (.lit 0)), .nilslice, .nilslice, .nilslice, (.int .i64 (.lit 0)), (.int .i64 (.lit 0)), (.int .i64 (.lit 0)), (.int .i64 (.lit 0)), (.int .i64 (.lit 0)), (.int .i64 (.lit 0)), .nilmap]⟩,
 ⟨none, false, none, iStore 12 (.t 4) (.t 10)⟩,
 ⟨some 5, true, none, iMov (.t 11)⟩])
 (cSeq (cSeq (cOps [⟨some 12, false, none, iMov (.t 5)⟩,
 ⟨some 13, true, none, iCmp .neq (.t 12) (.c (.int .i64 (.lit 0)))⟩])
 (cCond (.t 13) (cSeq (cOps [⟨some 14, false, none, iMov (.t 5)⟩,
 ⟨some 2, true, none, iMov (.c .nilslice)⟩,
 ⟨some 3, true, none, iMov (.t 14)⟩])
 cRet) cSkip))
 (cSeq (cOps [⟨some 15, false, none, iLoadN 12 (.t 4)⟩,
 ⟨some 16, false, none, iCall (.c (.func (.func 33) [] [])) [(.t 15)]⟩,
 ⟨some 6, true, none, iMov (.t 16)⟩])
 (cSeq (cSeq (cOps [⟨some 17, false, none, iMov (.t 6)⟩,
 ⟨some 18, false, none, iLenS (.t 17)⟩,
 ⟨some 19, true, none, iCmp .eql (.t 18) (.c (.int .i64 (.lit 0)))⟩])
 (cCond (.t 19) (cSeq (cOps [⟨some 2, true, none, iMov (.c .nilslice)⟩,
 ⟨some 3, true, none, iMov (.c (.int .i64 (.lit 4)))⟩])
 cRet) cSkip))
 (cSeq (cOps [⟨some 20, false, none, iMov (.t 6)⟩,
 ⟨some 2, true, none, iMov (.t 20)⟩,
 ⟨some 3, true, none, iMov (.c (.int .i64 (.lit 0)))⟩])
 cRet)))))), [.t 2, .t 3]⟩
noncomputable def Tryd.kp14 : List Nat := [0, 1, 2, 5]
noncomputable def Tryd.cf14 : CF := ⟨1, (cSeq (cOps [⟨some 1, true, none, iBox 26 (.t 0)⟩,
 ⟨some 2, true, none, iMov (.c (.int .i64 (.lit 0)))⟩])
 (cSeq (cSeq (cOps [⟨some 3, false, none, iLoadN 6 (.t 1)⟩,
 ⟨some 4, false, none, iCall (.c (.func (.func 34) [] [])) [(.t 3)]⟩,
 ⟨some 5, true, none, iNot (.t 4)⟩])
 (cCond (.t 5) (cSeq (cOps [⟨some 2, true, none, iMov (.c (.int .i64 (.lit 20)))⟩])
 cRet) cSkip))
 (cSeq (cOps [⟨some 2, true, none, iMov (.c (.int .i64 (.lit 0)))⟩])
 cRet))), [.t 2]⟩
noncomputable def Tryd.kp15 : List Nat := [0]
noncomputable def Tryd.cf15 : CF := ⟨0, (cSeq (cOps [⟨some 0, true, none, iMov (.c .nilslice)⟩])
 (cSeq (cOps [⟨some 1, false, none, iCall (.c (.func (.func 16) [] [])) [(.c (.int .i64 (.lit 0))), (.c (.int .i64 (.lit 0)))]⟩,
 ⟨some 2, false, none, iCall (.c (.func (.func 6) [] [])) [(.c (.int .i64 (.lit 3))), (.c (.int .i64 (.lit 0)))]⟩,
 ⟨some 3, false, none, iCall (.c (.func (.func 16) [] [])) [(.c (.int .i64 (.lit 4))), (.c (.int .i64 (.lit 2)))]⟩,
 ⟨some 4, false, none, iBslice 35 [(.int .i64 (.lit 0)), (.int .i64 (.lit 0)), (.bool (.lit false))] 3 [(0, 3, (.t 1)), (3, 3, (.t 2)), (6, 3, (.t 3))]⟩,
 ⟨some 0, true, none, iMov (.t 4)⟩])
 cRet)), [.t 0]⟩
noncomputable def Tryd.kp16 : List Nat := [0, 1, 4]
noncomputable def Tryd.cf16 : CF := ⟨2, (cSeq (cOps [⟨some 4, true, none, iAlloc 35 [(.int .i64 (.lit 0)), (.int .i64 (.lit 0)), (.bool (.lit false))]⟩])
 (cSeq (cOps [⟨some 5, false, none, iMov (.t 0)⟩,
 ⟨some 6, false, none, iMov (.t 1)⟩,
 ⟨some 7, false, none, iBuild [(.int .i64 (.lit 0)), (.int .i64 (.lit 0)), (.bool (.lit false))] [(0, 1, (.t 5)), (1, 1, (.t 6)), (2, 1, (.c (.bool (.lit true))))]⟩,
 ⟨none, false, none, iStore 3 (.t 4) (.t 7)⟩])
 cRet)), [.cell 4 true 3]⟩
noncomputable def Tryd.kp17 : List Nat := [0, 1]
noncomputable def Tryd.cf17 : CF := ⟨0, (cSeq (cOps [⟨some 0, true, none, iAlloc 26 [(.int .i64 (.lit 0)), (.int .i64 (.lit 0)), .nilslice, .nilslice, .nilslice, (.int .i64 (.lit 0))]⟩])
 (cSeq (cOps [⟨some 2, false, none, iCall (.c (.func (.func 4) [] [])) []⟩,
 ⟨some 1, true, none, iAlloc 26 [(.int .i64 (.lit 0)), (.int .i64 (.lit 0)), .nilslice, .nilslice, .nilslice, (.int .i64 (.lit 0))]⟩,
 ⟨none, false, none, iStore 6 (.t 1) (.t 2)⟩])
 (cSeq (cOps [⟨some 3, false, none, iBslice 3 [(.int .i64 (.lit 0))] 3 [(0, 1, (.c (.int .i64 (.lit 0)))), (1, 1, (.c (.int .i64 (.lit 0)))), (2, 1, (.c (.int .i64 (.lit 6))))]⟩,
 ⟨some 4, false, none, iBslice 3 [(.int .i64 (.lit 0))] 3 [(0, 1, (.c (.int .i64 (.lit 0)))), (1, 1, (.c (.int .i64 (.lit 0)))), (2, 1, (.c (.int .i64 (.lit 0))))]⟩,
 ⟨some 5, false, none, iBslice 3 [(.int .i64 (.lit 0))] 3 [(0, 1, (.c (.int .i64 (.lit 6)))), (1, 1, (.c (.int .i64 (.lit 0)))), (2, 1, (.c (.int .i64 (.lit 0))))]⟩,
 ⟨some 6, false, none, iBslice 22 [.nilslice] 3 [(0, 1, (.t 3)), (1, 1, (.t 4)), (2, 1, (.t 5))]⟩,
 ⟨some 7, false, none, iFaddr 4 (.t 1)⟩,
 ⟨none, false, none, iStore 1 (.t 7) (.t 6)⟩])
 (cSeq (cOps [⟨some 8, false, none, iLoadN 6 (.t 1)⟩,
 ⟨none, false, none, iStore 6 (.t 0) (.t 8)⟩])
 cRet)))), [.cell 0 true 6]⟩
noncomputable def Tryd.kp18 : List Nat := [0, 1, 2, 3, 4, 10]
noncomputable def Tryd.cf18 : CF := ⟨5, (cSeq (cOps [⟨some 10, true, none, iAlloc 30 [(.int .i64 (.lit 0)), (.int .i64 (.lit 0)), (.int .i64 (.lit 0)), (.bool (.lit false)), (.bool (.lit false))]⟩])
 (cSeq (cOps [⟨some 11, false, none, iMov (.t 0)⟩,
 ⟨some 12, false, none, iMov (.t 1)⟩,
 ⟨some 13, false, none, iMov (.t 2)⟩,
 ⟨some 14, false, none, iMov (.t 3)⟩,
 ⟨some 15, false, none, iMov (.t 4)⟩,
 ⟨some 16, false, none, iBuild [(.int .i64 (.lit 0)), (.int .i64 (.lit 0)), (.int .i64 (.lit 0)), (.bool (.lit false)), (.bool (.lit false))] [(0, 1, (.t 11)), (1, 1, (.t 12)), (2, 1, (.t 13)), (3, 1, (.t 14)), (4, 1, (.t 15))]⟩,
 ⟨none, false, none, iStore 5 (.t 10) (.t 16)⟩])
 cRet)), [.cell 10 true 5]⟩
noncomputable def Tryd.kp19 : List Nat := [0, 1, 4, 5, 6, 18]
noncomputable def Tryd.cf19 : CF := ⟨2, (cSeq (cOps [⟨some 4, true, none, iMov (.c (.bool (.lit false)))⟩])
 (cSeq (cOps [⟨some 7, false, none, iMov (.t 0)⟩,
 ⟨some 8, false, none, iLenS (.t 7)⟩,
 ⟨some 9, false, none, iMov (.t 1)⟩,
 ⟨some 10, false, none, iLenS (.t 9)⟩,
 ⟨some 11, false, none, iCmp .eql (.t 8) (.t 10)⟩,
 ⟨some 5, true, none, iMov (.t 11)⟩])
 (cSeq (cSeq (cOps [⟨some 6, true, none, iMov (.c (.int .i64 (.lit 0)))⟩])
 (cBlock 0 (cLoop (cSeq (cSeq (cOps [⟨some 12, false, none, iMov (.t 5)⟩,
 ⟨some 13, false, none, iMov (.t 12)⟩,
 ⟨some 14, false, some (13, true), iMov (.t 6)⟩,
 ⟨some 15, false, some (13, true), iMov (.t 0)⟩,
 ⟨some 16, false, some (13, true), iLenS (.t 15)⟩,
 ⟨some 17, false, some (13, true), iCmp .lss (.t 14) (.t 16)⟩,
 ⟨some 18, true, none, iPick (.t 13) (.t 17) (.c (.bool (.lit false)))⟩])
 (cCond (.t 18) cSkip (cExit 0)))
 (cSeq (cBlock 1 (dOps 0 [⟨⟨some 21, false, none, iMov (.t 0)⟩, [0], false, 0, 0, none, []⟩,
 ⟨⟨some 22, false, none, iMov (.t 6)⟩, [6], false, 0, 0, none, []⟩,
 ⟨⟨some 23, false, none, iIaddr 1 (.t 21) (.t 22)⟩, [21, 22], false, 0, 0, none, []⟩,
 ⟨⟨some 24, false, none, iLoad (.t 23)⟩, [23], false, 0, 0, none, []⟩,
 ⟨⟨some 25, false, none, iMov (.t 1)⟩, [1], false, 0, 0, none, []⟩,
 ⟨⟨some 26, false, none, iMov (.t 6)⟩, [6], false, 0, 0, none, []⟩,
 ⟨⟨some 27, false, none, iIaddr 1 (.t 25) (.t 26)⟩, [25, 26], false, 0, 0, none, []⟩,
 ⟨⟨some 28, false, none, iLoad (.t 27)⟩, [27], false, 0, 0, none, []⟩,
 ⟨⟨some 29, false, none, iCmp .eql (.t 24) (.t 28)⟩, [24, 28], false, 0, 0, none, []⟩,
 ⟨⟨some 5, true, none, iMov (.t 29)⟩, [29], false, 0, 0, none, []⟩]))
 (cOps [⟨some 19, false, none, iMov (.t 6)⟩,
 ⟨some 20, false, none, iArith .add (.t 19) (.c (.int .i64 (.lit 1)))⟩,
 ⟨some 6, true, none, iMov (.t 20)⟩]))))))
 (cSeq (cOps [⟨some 30, false, none, iMov (.t 5)⟩,
 ⟨some 4, true, none, iMov (.t 30)⟩])
 cRet)))), [.t 4]⟩
noncomputable def Tryd.kp20 : List Nat := [0, 1, 2, 3, 4, 5, 6, 7, 8, 9, 10, 11, 12, 70]
noncomputable def Tryd.cf20 : CF := ⟨0, (cSeq (cOps [⟨some 0, true, none, iMov (.c (.bool (.lit false)))⟩])
 (cSeq (cOps [⟨some 14, false, none, iCall (.c (.func (.func 4) [] [])) []⟩,
 ⟨some 15, false, none, iCall (.c (.func (.func 16) [] [])) [(.c (.int .i64 (.lit 3))), (.c (.int .i64 (.lit 0)))]⟩,
 ⟨some 16, false, none, iCall (.c (.func (.func 5) [] [])) [(.t 14), (.c (.int .i64 (.lit 0))), (.t 15)]⟩,
 ⟨some 13, false, none, iMov (.t 16)⟩,
 ⟨some 17, false, none, iExtract 0 (.t 13)⟩,
 ⟨some 18, false, none, iExtract 1 (.t 13)⟩,
 ⟨some 1, true, none, iMov (.t 17)⟩,
 ⟨some 2, true, none, iMov (.t 18)⟩])
 (cSeq (cOps [⟨some 20, false, none, iCall (.c (.func (.func 4) [] [])) []⟩,
 ⟨some 21, false, none, iCall (.c (.func (.func 6) [] [])) [(.c (.int .i64 (.lit 0))), (.c (.int .i64 (.lit 0)))]⟩,
 ⟨some 22, false, none, iCall (.c (.func (.func 6) [] [])) [(.c (.int .i64 (.lit 4))), (.c (.int .i64 (.lit 3)))]⟩,
 ⟨some 23, false, none, iCall (.c (.func (.func 7) [] [])) [(.t 20), (.c (.int .i64 (.lit 0))), (.t 21), (.c (.int .i64 (.lit 2))), (.t 22)]⟩,
 ⟨some 19, false, none, iMov (.t 23)⟩,
 ⟨some 24, false, none, iExtract 0 (.t 19)⟩,
 ⟨some 25, false, none, iExtract 1 (.t 19)⟩,
 ⟨some 3, true, none, iMov (.t 24)⟩,
 ⟨some 4, true, none, iMov (.t 25)⟩])
 (cSeq (cOps [⟨some 27, false, none, iCall (.c (.func (.func 4) [] [])) []⟩,
 ⟨some 28, false, none, iCall (.c (.func (.func 6) [] [])) [(.c (.int .i64 (.lit 0))), (.c (.int .i64 (.lit 2)))]⟩,
 ⟨some 29, false, none, iCall (.c (.func (.func 6) [] [])) [(.c (.int .i64 (.lit 0))), (.c (.int .i64 (.lit 0)))]⟩,
 ⟨some 30, false, none, iCall (.c (.func (.func 6) [] [])) [(.c (.int .i64 (.lit 4))), (.c (.int .i64 (.lit 0)))]⟩,
 ⟨some 31, false, none, iBslice 35 [(.int .i64 (.lit 0)), (.int .i64 (.lit 0)), (.bool (.lit false))] 3 [(0, 3, (.t 28)), (3, 3, (.t 29)), (6, 3, (.t 30))]⟩,
 ⟨some 32, false, none, iCall (.c (.func (.func 8) [] [])) [(.t 27), (.t 31), (.c (.int .i64 (.lit 0)))]⟩,
 ⟨some 26, false, none, iMov (.t 32)⟩,
 ⟨some 33, false, none, iExtract 0 (.t 26)⟩,
 ⟨some 34, false, none, iExtract 1 (.t 26)⟩,
 ⟨some 5, true, none, iMov (.t 33)⟩,
 ⟨some 6, true, none, iMov (.t 34)⟩])
 (cSeq (cOps [⟨some 36, false, none, iCall (.c (.func (.func 4) [] [])) []⟩,
 ⟨some 37, false, none, iCall (.c (.func (.func 15) [] [])) []⟩,
 ⟨some 38, false, none, iCall (.c (.func (.func 9) [] [])) [(.t 36), (.t 37)]⟩,
 ⟨some 35, false, none, iMov (.t 38)⟩,
 ⟨some 39, false, none, iExtract 0 (.t 35)⟩,
 ⟨some 40, false, none, iExtract 1 (.t 35)⟩,
 ⟨some 7, true, none, iMov (.t 39)⟩,
 ⟨some 8, true, none, iMov (.t 40)⟩])
 (cSeq (cSeq (cOps [⟨some 41, false, none, iMov (.t 2)⟩,
 ⟨some 42, false, none, iCmp .neq (.t 41) (.c (.int .i64 (.lit 0)))⟩,
 ⟨some 43, false, none, iMov (.t 42)⟩,
 ⟨some 44, false, some (43, false), iMov (.t 4)⟩,
 ⟨some 45, false, some (43, false), iCmp .neq (.t 44) (.c (.int .i64 (.lit 0)))⟩,
 ⟨some 46, false, none, iPick (.t 43) (.c (.bool (.lit true))) (.t 45)⟩,
 ⟨some 47, false, none, iMov (.t 46)⟩,
 ⟨some 48, false, some (47, false), iMov (.t 6)⟩,
 ⟨some 49, false, some (47, false), iCmp .neq (.t 48) (.c (.int .i64 (.lit 0)))⟩,
 ⟨some 50, false, none, iPick (.t 47) (.c (.bool (.lit true))) (.t 49)⟩,
 ⟨some 51, false, none, iMov (.t 50)⟩,
 ⟨some 52, false, some (51, false), iMov (.t 8)⟩,
 ⟨some 53, false, some (51, false), iCmp .neq (.t 52) (.c (.int .i64 (.lit 0)))⟩,
 ⟨some 54, false, none, iPick (.t 51) (.c (.bool (.lit true))) (.t 53)⟩,
 ⟨some 55, false, none, iMov (.t 54)⟩,
 ⟨some 56, false, some (55, false), iMov (.t 1)⟩,
 ⟨some 57, false, some (55, false), iNot (.t 56)⟩,
 ⟨some 58, false, none, iPick (.t 55) (.c (.bool (.lit true))) (.t 57)⟩,
 ⟨some 59, false, none, iMov (.t 58)⟩,
 ⟨some 60, false, some (59, false), iMov (.t 3)⟩,
 ⟨some 61, false, some (59, false), iCmp .neq (.t 60) (.c (.int .i64 (.lit 1)))⟩,
 ⟨some 62, false, none, iPick (.t 59) (.c (.bool (.lit true))) (.t 61)⟩,
 ⟨some 63, false, none, iMov (.t 62)⟩,
 ⟨some 64, false, some (63, false), iMov (.t 5)⟩,
 ⟨some 65, false, some (63, false), iCmp .neq (.t 64) (.c (.int .i64 (.lit 2)))⟩,
 ⟨some 66, false, none, iPick (.t 63) (.c (.bool (.lit true))) (.t 65)⟩,
 ⟨some 67, false, none, iMov (.t 66)⟩,
 ⟨some 68, false, some (67, false), iMov (.t 7)⟩,
 ⟨some 69, false, some (67, false), iNot (.t 68)⟩,
 ⟨some 70, true, none, iPick (.t 67) (.c (.bool (.lit true))) (.t 69)⟩])
 (cCond (.t 70) (cSeq (cOps [⟨some 0, true, none, iMov (.c (.bool (.lit false)))⟩])
 cRet) cSkip))
 (cSeq (cOps [⟨some 72, false, none, iCall (.c (.func (.func 4) [] [])) []⟩,
 ⟨some 73, false, none, iCall (.c (.func (.func 11) [] [])) [(.t 72)]⟩,
 ⟨some 71, false, none, iMov (.t 73)⟩,
 ⟨some 74, false, none, iExtract 0 (.t 71)⟩,
 ⟨some 75, false, none, iExtract 1 (.t 71)⟩,
 ⟨some 9, true, none, iMov (.t 74)⟩,
 ⟨some 2, true, none, iMov (.t 75)⟩])
 (cSeq (cOps [⟨some 77, false, none, iCall (.c (.func (.func 4) [] [])) []⟩,
 ⟨some 78, false, none, iCall (.c (.func (.func 10) [] [])) [(.t 77)]⟩,
 ⟨some 76, false, none, iMov (.t 78)⟩,
 ⟨some 79, false, none, iExtract 0 (.t 76)⟩,
 ⟨some 80, false, none, iExtract 1 (.t 76)⟩,
 ⟨some 10, true, none, iMov (.t 79)⟩,
 ⟨some 4, true, none, iMov (.t 80)⟩])
 (cSeq (cOps [⟨some 82, false, none, iCall (.c (.func (.func 4) [] [])) []⟩,
 ⟨some 83, false, none, iCall (.c (.func (.func 15) [] [])) []⟩,
 ⟨some 84, false, none, iCall (.c (.func (.func 12) [] [])) [(.t 82), (.t 83), (.c (.int .i64 (.lit 1)))]⟩,
 ⟨some 81, false, none, iMov (.t 84)⟩,
 ⟨some 85, false, none, iExtract 0 (.t 81)⟩,
 ⟨some 86, false, none, iExtract 1 (.t 81)⟩,
 ⟨some 11, true, none, iMov (.t 85)⟩,
 ⟨some 6, true, none, iMov (.t 86)⟩])
 (cSeq (cOps [⟨some 88, false, none, iCall (.c (.func (.func 17) [] [])) []⟩,
 ⟨some 89, false, none, iCall (.c (.func (.func 13) [] [])) [(.t 88)]⟩,
 ⟨some 87, false, none, iMov (.t 89)⟩,
 ⟨some 90, false, none, iExtract 0 (.t 87)⟩,
 ⟨some 91, false, none, iExtract 1 (.t 87)⟩,
 ⟨some 12, true, none, iMov (.t 90)⟩,
 ⟨some 8, true, none, iMov (.t 91)⟩])
 (cSeq (cOps [⟨some 92, false, none, iMov (.t 2)⟩,
 ⟨some 93, false, none, iCmp .eql (.t 92) (.c (.int .i64 (.lit 0)))⟩,
 ⟨some 94, false, none, iMov (.t 93)⟩,
 ⟨some 95, false, some (94, true), iMov (.t 4)⟩,
 ⟨some 96, false, some (94, true), iCmp .eql (.t 95) (.c (.int .i64 (.lit 0)))⟩,
 ⟨some 97, false, none, iPick (.t 94) (.t 96) (.c (.bool (.lit false)))⟩,
 ⟨some 98, false, none, iMov (.t 97)⟩,
 ⟨some 99, false, some (98, true), iMov (.t 6)⟩,
 ⟨some 100, false, some (98, true), iCmp .eql (.t 99) (.c (.int .i64 (.lit 0)))⟩,
 ⟨some 101, false, none, iPick (.t 98) (.t 100) (.c (.bool (.lit false)))⟩,
 ⟨some 102, false, none, iMov (.t 101)⟩,
 ⟨some 103, false, some (102, true), iMov (.t 8)⟩,
 ⟨some 104, false, some (102, true), iCmp .eql (.t 103) (.c (.int .i64 (.lit 0)))⟩,
 ⟨some 105, false, none, iPick (.t 102) (.t 104) (.c (.bool (.lit false)))⟩,
 ⟨some 106, false, none, iMov (.t 105)⟩,
 ⟨some 107, false, some (106, true), iMov (.t 9)⟩,
 ⟨some 108, false, some (106, true), iCmp .eql (.t 107) (.c (.int .i64 (.lit 250)))⟩,
 ⟨some 109, false, none, iPick (.t 106) (.t 108) (.c (.bool (.lit false)))⟩,
 ⟨some 110, false, none, iMov (.t 109)⟩,
 ⟨some 111, false, some (110, true), iMov (.t 10)⟩,
 ⟨some 112, false, some (110, true), iLenS (.t 111)⟩,
 ⟨some 113, false, some (110, true), iCmp .eql (.t 112) (.c (.int .i64 (.lit 3)))⟩,
 ⟨some 114, false, none, iPick (.t 110) (.t 113) (.c (.bool (.lit false)))⟩,
 ⟨some 115, false, none, iMov (.t 114)⟩,
 ⟨some 116, false, some (115, true), iMov (.t 11)⟩,
 ⟨some 117, false, some (115, true), iCall (.c (.func (.func 6) [] [])) [(.c (.int .i64 (.lit 3))), (.c (.int .i64 (.lit 0)))]⟩,
 ⟨some 118, false, some (115, true), iCall (.c (.func (.func 6) [] [])) [(.c (.int .i64 (.lit 3))), (.c (.int .i64 (.lit 1)))]⟩,
 ⟨some 119, false, some (115, true), iCall (.c (.func (.func 6) [] [])) [(.c (.int .i64 (.lit 3))), (.c (.int .i64 (.lit 2)))]⟩,
 ⟨some 120, false, some (115, true), iCall (.c (.func (.func 6) [] [])) [(.c (.int .i64 (.lit 3))), (.c (.int .i64 (.lit 3)))]⟩,
 ⟨some 121, false, some (115, true), iCall (.c (.func (.func 6) [] [])) [(.c (.int .i64 (.lit 4))), (.c (.int .i64 (.lit 0)))]⟩,
 ⟨some 122, false, some (115, true), iCall (.c (.func (.func 6) [] [])) [(.c (.int .i64 (.lit 4))), (.c (.int .i64 (.lit 1)))]⟩,
 ⟨some 123, false, some (115, true), iCall (.c (.func (.func 6) [] [])) [(.c (.int .i64 (.lit 5))), (.c (.int .i64 (.lit 0)))]⟩,
 ⟨some 124, false, some (115, true), iBslice 35 [(.int .i64 (.lit 0)), (.int .i64 (.lit 0)), (.bool (.lit false))] 7 [(0, 3, (.t 117)), (3, 3, (.t 118)), (6, 3, (.t 119)), (9, 3, (.t 120)), (12, 3, (.t 121)), (15, 3, (.t 122)), (18, 3, (.t 123))]⟩,
 ⟨some 125, false, some (115, true), iCall (.c (.func (.func 35) [] [])) [(.t 116), (.t 124)]⟩,
 ⟨some 126, false, none, iPick (.t 115) (.t 125) (.c (.bool (.lit false)))⟩,
 ⟨some 127, false, none, iMov (.t 126)⟩,
 ⟨some 128, false, some (127, true), iMov (.t 12)⟩,
 ⟨some 129, false, some (127, true), iBslice 3 [(.int .i64 (.lit 0))] 2 [(0, 1, (.c (.int .i64 (.lit 0)))), (1, 1, (.c (.int .i64 (.lit 1))))]⟩,
 ⟨some 130, false, some (127, true), iCall (.c (.func (.func 19) [] [])) [(.t 128), (.t 129)]⟩,
 ⟨some 131, false, none, iPick (.t 127) (.t 130) (.c (.bool (.lit false)))⟩,
 ⟨some 0, true, none, iMov (.t 131)⟩])
 cRet))))))))))), [.t 0]⟩
noncomputable def Tryd.ra21033 : C := (cOps [⟨some 7, true, none, iAlloc 35 [(.int .i64 (.lit 0)), (.int .i64 (.lit 0)), (.bool (.lit false))]⟩,
 ⟨none, false, none, iStore 3 (.t 7) (.t 33)⟩])
noncomputable def Tryd.rb21033 : C := (cBlock 3 (cSeq (cOps [⟨some 34, false, none, iLoad (.t 6)⟩,
 ⟨some 35, false, none, iLoadN 3 (.t 7)⟩,
 ⟨some 36, false, none, iBuild [(.int .i64 (.lit 0)), (.int .i64 (.lit 0)), (.int .i64 (.lit 0)), (.bool (.lit false))] [(0, 1, (.t 34)), (1, 3, (.t 35))]⟩,
 ⟨some 8, true, none, iAlloc 63 [(.int .i64 (.lit 0)), (.int .i64 (.lit 0)), (.int .i64 (.lit 0)), (.bool (.lit false))]⟩,
 ⟨none, false, none, iStore 4 (.t 8) (.t 36)⟩])
 (cSeq (cOps [⟨some 38, false, none, iLoadN 12 (.t 5)⟩,
 ⟨some 39, false, none, iLoadN 4 (.t 8)⟩,
 ⟨some 40, false, none, iCall (.c (.func (.func 37) [] [])) [(.t 38), (.t 39)]⟩,
 ⟨some 37, false, none, iMov (.t 40)⟩,
 ⟨some 41, false, none, iExtract 0 (.t 37)⟩,
 ⟨some 42, false, none, iExtract 1 (.t 37)⟩,
 ⟨some 9, true, none, iAlloc 67 [(.int .i64 (.lit 0)), (.int .i64 (.lit 0)), (.int .i64 (.lit 0)), (.bool (.lit false)), (.int .i64 (.lit 0)), (.int .i64 (.lit 0)), (.int .i64 (.lit 0)), (.int .i64 (.lit 0)), (.int .i64 (.lit 0)), (.int .i64 (.lit 0)), (.int .i64 (.lit 0)), (.int .i64 (.lit 0)), (.int .i64 (.lit 0))]⟩,
 ⟨none, false, none, iStore 13 (.t 9) (.t 41)⟩,
 ⟨some 10, true, none, iMov (.t 42)⟩])
 (cSeq (cOps [⟨some 43, true, none, iMov (.t 10)⟩])
 (cCond (.t 43) (cOps [⟨some 44, false, none, iFaddr 11 (.t 5)⟩,
 ⟨some 45, false, none, iLoad (.t 44)⟩,
 ⟨some 46, false, none, iLoadN 4 (.t 8)⟩,
 ⟨some 47, false, none, iLoadN 13 (.t 9)⟩,
 ⟨none, false, none, iMapset true 4 [(0, .int), (1, .int), (2, .int), (3, .bool)] (.t 45) (.t 46) (.t 47)⟩]) cSkip)))))
noncomputable def Tryd.kp21 : List Nat := [0, 1, 2, 3, 4, 5, 6, 7, 8, 9, 10, 14, 27, 28, 29, 32, 33, 43]
noncomputable def Tryd.cf21 : CF := ⟨1, (cSeq (cOps [⟨some 1, true, none, iBox 26 (.t 0)⟩,
 ⟨some 2, true, none, iAlloc 58 [(.int .i64 (.lit 0)), (.int .i64 (.lit 0)), .nilslice, .nilslice, .nilslice, (.int .i64 (.lit 0)), (.int .i64 (.lit 0)), (.int .i64 (.lit 0)), (.int .i64 (.lit 0)), (.int .i64 (.lit 0)), (.int .i64 (.lit 0)), .nilmap]⟩,
 ⟨some 3, true, none, iMov (.c (.int .i64 (.lit 0)))⟩])
 (cSeq (cSeq (cOps [⟨some 11, false, none, iLoadN 6 (.t 1)⟩,
 ⟨some 12, false, none, iCall (.c (.func (.func 14) [] [])) [(.t 11)]⟩,
 ⟨some 4, true, none, iMov (.t 12)⟩])
 (cSeq (cOps [⟨some 13, false, none, iMov (.t 4)⟩,
 ⟨some 14, true, none, iCmp .neq (.t 13) (.c (.int .i64 (.lit 0)))⟩])
 (cCond (.t 14) (cSeq (cOps [⟨some 15, false, none, iBuild [(.int .i64 (.lit 0)), (.int .i64 (.lit 0)), .nilslice, .nilslice, .nilslice, (.int .i64 (.lit 0)), (.int .i64 (.lit 0)), (.int .i64 (.lit 0)), (.int .i64 (.lit 0)), (.int .i64 (.lit 0)), (.int .i64 (.lit 0)), .nilmap] []⟩,
 ⟨some 16, false, none, iMov (.t 4)⟩,
 ⟨none, false, none, iStore 12 (.t 2) (.t 15)⟩,
 ⟨some 3, true, none, iMov (.t 16)⟩])
 cRet) cSkip)))
 (cSeq (cOps [⟨some 17, false, none, iLoadN 6 (.t 1)⟩,
 ⟨some 18, false, none, iMkmap⟩,
 ⟨some 19, false, none, iBuild [(.int .i64 (.lit 0)), (.int .i64 (.lit 0)), .nilslice, .nilslice, .nilslice, (.int .i64 (.lit 0)), (.int .i64 (.lit 0)), (.int .i64 (.lit 0)), (.int .i64 (.lit 0)), (.int .i64 (.lit 0)), (.int .i64 (.lit 0)), .nilmap] [(0, 6, (.t 17)), (11, 1, (.t 18))]⟩,
 ⟨some 5, true, none, iAlloc 58 [(.int .i64 (.lit 0)), (.int .i64 (.lit 0)), .nilslice, .nilslice, .nilslice, (.int .i64 (.lit 0)), (.int .i64 (.lit 0)), (.int .i64 (.lit 0)), (.int .i64 (.lit 0)), (.int .i64 (.lit 0)), (.int .i64 (.lit 0)), .nilmap]⟩,
 ⟨none, false, none, iStore 12 (.t 5) (.t 19)⟩])
 (cSeq (dOps 0 [⟨⟨some 20, false, none, iFaddr 6 (.t 5)⟩, [5], false, 0, 0, none, []⟩,
 ⟨⟨some 21, false, none, iSliceA 1 5 (.t 20) none none none⟩, [20], false, 0, 0, none, []⟩,
 ⟨⟨some 22, false, none, iFaddr 2 (.t 1)⟩, [1], false, 0, 0, none, []⟩,
 ⟨⟨some 23, false, none, iLoad (.t 22)⟩, [22], false, 0, 0, none, []⟩,
 ⟨⟨some 24, false, none, iCopy 1 (.t 21) (.t 23)⟩, [21, 23], true, 0, 0, none, []⟩])
 (cSeq (cSeq (cOps [⟨some 25, false, none, iFaddr 3 (.t 1)⟩,
 ⟨some 26, false, none, iLoad (.t 25)⟩,
 ⟨some 27, true, none, iLenS (.t 26)⟩,
 ⟨some 28, true, none, iMov (.c (.int .i64 (.lit 0)))⟩])
 (cBlock 0 (cLoop (cSeq (cOps [⟨some 29, true, none, iCmp .lss (.t 28) (.t 27)⟩])
 (cSeq (cCond (.t 29) cSkip (cExit 0))
 (cSeq (cBlock 1 (cSeq (cOps [⟨some 30, false, none, iMov (.t 28)⟩,
 ⟨some 6, true, none, iAlloc 3 [(.int .i64 (.lit 0))]⟩,
 ⟨none, false, none, iStore 1 (.t 6) (.t 30)⟩])
 (cSeq (cOps [⟨some 31, false, none, iLoadN 12 (.t 5)⟩,
 ⟨some 32, true, none, iCall (.c (.func (.func 36) [] [])) [(.t 31)]⟩])
 (cBlock 2 (cRange (.t 32) [33] 21033)))))
 (cOps [⟨some 48, false, none, iArith .add (.t 28) (.c (.int .i64 (.lit 1)))⟩,
 ⟨some 28, true, none, iMov (.t 48)⟩])))))))
 (cSeq (cOps [⟨some 49, false, none, iLoadN 12 (.t 5)⟩,
 ⟨none, false, none, iStore 12 (.t 2) (.t 49)⟩,
 ⟨some 3, true, none, iMov (.c (.int .i64 (.lit 0)))⟩])
 cRet)))))), [.cell 2 true 12, .t 3]⟩
noncomputable def Tryd.kp22 : List Nat := [0, 1, 2, 4]
noncomputable def Tryd.cf22 : CF := ⟨2, (cSeq (cOps [⟨some 2, true, none, iBox 58 (.t 0)⟩,
 ⟨some 4, true, none, iMov (.c (.bool (.lit false)))⟩])
 (cSeq (cOps [⟨some 5, false, none, iMov (.t 1)⟩,
 ⟨some 6, false, none, iCmp .geq (.t 5) (.c (.int .i64 (.lit 0)))⟩,
 ⟨some 7, false, none, iMov (.t 6)⟩,
 ⟨some 8, false, some (7, true), iMov (.t 1)⟩,
 ⟨some 9, false, some (7, true), iFaddr 0 (.t 2)⟩,
 ⟨some 10, false, some (7, true), iFaddr 3 (.t 9)⟩,
 ⟨some 11, false, some (7, true), iLoad (.t 10)⟩,
 ⟨some 12, false, some (7, true), iLenS (.t 11)⟩,
 ⟨some 13, false, some (7, true), iCmp .lss (.t 8) (.t 12)⟩,
 ⟨some 14, false, none, iPick (.t 7) (.t 13) (.c (.bool (.lit false)))⟩,
 ⟨some 4, true, none, iMov (.t 14)⟩])
 cRet)), [.t 4]⟩
noncomputable def Tryd.kp23 : List Nat := [0, 1, 2, 3, 4]
noncomputable def Tryd.cf23 : CF := ⟨2, (cSeq (cOps [⟨some 2, true, none, iBox 67 (.t 0)⟩,
 ⟨some 3, true, none, iBox 67 (.t 1)⟩,
 ⟨some 4, true, none, iMov (.c (.bool (.lit false)))⟩])
 (cSeq (cOps [⟨some 5, false, none, iFaddr 8 (.t 2)⟩,
 ⟨some 6, false, none, iLoadN 5 (.t 5)⟩,
 ⟨some 7, false, none, iFaddr 8 (.t 3)⟩,
 ⟨some 8, false, none, iLoadN 5 (.t 7)⟩,
 ⟨some 9, false, none, iCall (.c (.func (.func 38) [] [])) [(.t 6), (.t 8)]⟩,
 ⟨some 10, false, none, iCall (.c (.func (.func 39) [] [])) [(.t 9)]⟩,
 ⟨some 4, true, none, iMov (.t 10)⟩])
 cRet)), [.t 4]⟩
noncomputable def Tryd.kp24 : List Nat := [0, 1, 2, 3, 4, 5, 6, 8, 10, 11, 12]
noncomputable def Tryd.cf24 : CF := ⟨2, (cSeq (cOps [⟨some 2, true, none, iBox 67 (.t 0)⟩,
 ⟨some 3, true, none, iBox 67 (.t 1)⟩,
 ⟨some 4, true, none, iMov (.c (.int .i64 (.lit 0)))⟩])
 (cSeq (cOps [⟨some 9, false, none, iBuild [.nilFunc, .nilFunc] [(0, 1, (.c (.func (.func 40) [] []))), (1, 1, (.c (.func (.func 41) [] [])))]⟩,
 ⟨some 5, true, none, iAlloc 92 [.nilFunc, .nilFunc]⟩,
 ⟨none, false, none, iStore 2 (.t 5) (.t 9)⟩])
 (cSeq (cOps [⟨some 6, true, none, iMov (.c (.int .i64 (.lit 0)))⟩])
 (cSeq (cSeq (cOps [⟨some 10, true, none, iLoadN 2 (.t 5)⟩,
 ⟨some 11, true, none, iMov (.c (.int .i64 (.lit 0)))⟩])
 (cBlock 0 (cLoop (cSeq (cOps [⟨some 12, true, none, iCmp .lss (.t 11) (.c (.int .i64 (.lit 2)))⟩])
 (cSeq (cCond (.t 12) cSkip (cExit 0))
 (cSeq (cBlock 1 (cSeq (cOps [⟨some 13, false, none, iIndex false 1 2 (.t 10) (.t 11)⟩,
 ⟨some 8, true, none, iMov (.t 13)⟩])
 (cOps [⟨some 14, false, none, iMov (.t 6)⟩,
 ⟨some 15, false, none, iMov (.t 8)⟩,
 ⟨some 16, false, none, iFaddr 4 (.t 2)⟩,
 ⟨some 17, false, none, iLoadN 4 (.t 16)⟩,
 ⟨some 18, false, none, iFaddr 4 (.t 3)⟩,
 ⟨some 19, false, none, iLoadN 4 (.t 18)⟩,
 ⟨some 20, false, none, iCall (.t 15) [(.t 17), (.t 19)]⟩,
 ⟨some 21, false, none, iBslice 3 [(.int .i64 (.lit 0))] 1 [(0, 1, (.t 20))]⟩,
 ⟨some 22, false, none, iCall (.c (.func (.func 42) [] [])) [(.t 14), (.t 21)]⟩,
 ⟨some 6, true, none, iMov (.t 22)⟩])))
 (cOps [⟨some 23, false, none, iArith .add (.t 11) (.c (.int .i64 (.lit 1)))⟩,
 ⟨some 11, true, none, iMov (.t 23)⟩])))))))
 (cSeq (cOps [⟨some 24, false, none, iMov (.t 6)⟩,
 ⟨some 4, true, none, iMov (.t 24)⟩])
 cRet))))), [.t 4]⟩
noncomputable def Tryd.kp25 : List Nat := [0, 1, 2, 4, 5, 6, 7, 8, 9, 10, 11, 12, 13, 27]
noncomputable def Tryd.cf25 : CF := ⟨2, (cSeq (cOps [⟨some 2, true, none, iBox 58 (.t 0)⟩,
 ⟨some 4, true, none, iMov (.c .nilslice)⟩,
 ⟨some 5, true, none, iMov (.c (.bool (.lit false)))⟩])
 (cSeq (cSeq (cOps [⟨some 10, true, none, iMov (.t 1)⟩,
 ⟨some 11, true, none, iLenS (.t 10)⟩,
 ⟨some 12, true, none, iMov (.c (.int .i64 (.lit 0)))⟩])
 (cBlock 0 (cLoop (cSeq (cOps [⟨some 13, true, none, iCmp .lss (.t 12) (.t 11)⟩])
 (cSeq (cCond (.t 13) cSkip (cExit 0))
 (cSeq (cBlock 1 (cSeq (cOps [⟨some 14, false, none, iMov (.t 12)⟩,
 ⟨some 15, false, none, iIaddr 3 (.t 10) (.t 12)⟩,
 ⟨some 16, false, none, iLoadN 3 (.t 15)⟩,
 ⟨some 7, true, none, iAlloc 35 [(.int .i64 (.lit 0)), (.int .i64 (.lit 0)), (.bool (.lit false))]⟩,
 ⟨some 6, true, none, iMov (.t 14)⟩,
 ⟨none, false, none, iStore 3 (.t 7) (.t 16)⟩])
 (cSeq (cOps [⟨some 18, false, none, iFaddr 11 (.t 2)⟩,
 ⟨some 19, false, none, iLoad (.t 18)⟩,
 ⟨some 20, false, none, iMov (.t 6)⟩,
 ⟨some 21, false, none, iLoadN 3 (.t 7)⟩,
 ⟨some 22, false, none, iBuild [(.int .i64 (.lit 0)), (.int .i64 (.lit 0)), (.int .i64 (.lit 0)), (.bool (.lit false))] [(0, 1, (.t 20)), (1, 3, (.t 21))]⟩,
 ⟨some 23, false, none, iLookup (.agg [(.int .i64 (.lit 0)), (.int .i64 (.lit 0)), (.int .i64 (.lit 0)), (.bool (.lit false)), (.int .i64 (.lit 0)), (.int .i64 (.lit 0)), (.int .i64 (.lit 0)), (.int .i64 (.lit 0)), (.int .i64 (.lit 0)), (.int .i64 (.lit 0)), (.int .i64 (.lit 0)), (.int .i64 (.lit 0)), (.int .i64 (.lit 0))]) true 4 [(0, .int), (1, .int), (2, .int), (3, .bool)] true (.t 19) (.t 22)⟩,
 ⟨some 17, false, none, iMov (.t 23)⟩,
 ⟨some 24, false, none, iExtract 0 (.t 17)⟩,
 ⟨some 25, false, none, iExtract 1 (.t 17)⟩,
 ⟨some 8, true, none, iAlloc 67 [(.int .i64 (.lit 0)), (.int .i64 (.lit 0)), (.int .i64 (.lit 0)), (.bool (.lit false)), (.int .i64 (.lit 0)), (.int .i64 (.lit 0)), (.int .i64 (.lit 0)), (.int .i64 (.lit 0)), (.int .i64 (.lit 0)), (.int .i64 (.lit 0)), (.int .i64 (.lit 0)), (.int .i64 (.lit 0)), (.int .i64 (.lit 0))]⟩,
 ⟨none, false, none, iStore 13 (.t 8) (.t 24)⟩,
 ⟨some 9, true, none, iMov (.t 25)⟩])
 (cSeq (cSeq (cOps [⟨some 26, false, none, iMov (.t 9)⟩,
 ⟨some 27, true, none, iNot (.t 26)⟩])
 (cCond (.t 27) (cSeq (cOps [⟨some 4, true, none, iMov (.c .nilslice)⟩,
 ⟨some 5, true, none, iMov (.c (.bool (.lit false)))⟩])
 cRet) cSkip))
 (cOps [⟨some 28, false, none, iMov (.t 4)⟩,
 ⟨some 29, false, none, iLoadN 13 (.t 8)⟩,
 ⟨some 30, false, none, iBslice 67 [(.int .i64 (.lit 0)), (.int .i64 (.lit 0)), (.int .i64 (.lit 0)), (.bool (.lit false)), (.int .i64 (.lit 0)), (.int .i64 (.lit 0)), (.int .i64 (.lit 0)), (.int .i64 (.lit 0)), (.int .i64 (.lit 0)), (.int .i64 (.lit 0)), (.int .i64 (.lit 0)), (.int .i64 (.lit 0)), (.int .i64 (.lit 0))] 1 [(0, 13, (.t 29))]⟩,
 ⟨some 31, false, none, iAppend 67 13 104 (.t 28) (.t 30)⟩,
 ⟨some 4, true, none, iMov (.t 31)⟩])))))
 (cOps [⟨some 32, false, none, iArith .add (.t 12) (.c (.int .i64 (.lit 1)))⟩,
 ⟨some 12, true, none, iMov (.t 32)⟩])))))))
 (cSeq (cOps [⟨some 33, false, none, iMov (.t 4)⟩,
 ⟨some 4, true, none, iMov (.t 33)⟩,
 ⟨some 5, true, none, iMov (.c (.bool (.lit true)))⟩])
 cRet))), [.t 4, .t 5]⟩
noncomputable def Tryd.kp26 : List Nat := [0, 1, 4, 6, 8, 9, 10, 11, 12, 15, 16, 17, 18, 32]
noncomputable def Tryd.cf26 : CF := ⟨2, (cSeq (cOps [⟨some 4, true, none, iMov (.c (.bool (.lit false)))⟩])
 (cSeq (cSeq (cOps [⟨some 9, true, none, iMov (.t 0)⟩,
 ⟨some 10, true, none, iLenS (.t 9)⟩,
 ⟨some 11, true, none, iMov (.c (.int .i64 (.lit 0)))⟩])
 (cBlock 0 (cLoop (cSeq (cOps [⟨some 12, true, none, iCmp .lss (.t 11) (.t 10)⟩])
 (cSeq (cCond (.t 12) cSkip (cExit 0))
 (cSeq (cBlock 1 (cSeq (cOps [⟨some 13, false, none, iIaddr 13 (.t 9) (.t 11)⟩,
 ⟨some 14, false, none, iLoadN 13 (.t 13)⟩,
 ⟨some 6, true, none, iAlloc 67 [(.int .i64 (.lit 0)), (.int .i64 (.lit 0)), (.int .i64 (.lit 0)), (.bool (.lit false)), (.int .i64 (.lit 0)), (.int .i64 (.lit 0)), (.int .i64 (.lit 0)), (.int .i64 (.lit 0)), (.int .i64 (.lit 0)), (.int .i64 (.lit 0)), (.int .i64 (.lit 0)), (.int .i64 (.lit 0)), (.int .i64 (.lit 0))]⟩,
 ⟨none, false, none, iStore 13 (.t 6) (.t 14)⟩])
 (cSeq (cOps [⟨some 15, true, none, iMov (.t 0)⟩,
 ⟨some 16, true, none, iLenS (.t 15)⟩,
 ⟨some 17, true, none, iMov (.c (.int .i64 (.lit 0)))⟩])
 (cBlock 2 (cLoop (cSeq (cOps [⟨some 18, true, none, iCmp .lss (.t 17) (.t 16)⟩])
 (cSeq (cCond (.t 18) cSkip (cExit 2))
 (cSeq (cBlock 3 (cSeq (cOps [⟨some 19, false, none, iIaddr 13 (.t 15) (.t 17)⟩,
 ⟨some 20, false, none, iLoadN 13 (.t 19)⟩,
 ⟨some 8, true, none, iAlloc 67 [(.int .i64 (.lit 0)), (.int .i64 (.lit 0)), (.int .i64 (.lit 0)), (.bool (.lit false)), (.int .i64 (.lit 0)), (.int .i64 (.lit 0)), (.int .i64 (.lit 0)), (.int .i64 (.lit 0)), (.int .i64 (.lit 0)), (.int .i64 (.lit 0)), (.int .i64 (.lit 0)), (.int .i64 (.lit 0)), (.int .i64 (.lit 0))]⟩,
 ⟨none, false, none, iStore 13 (.t 8) (.t 20)⟩])
 (cSeq (cOps [⟨some 21, false, none, iFaddr 0 (.t 6)⟩,
 ⟨some 22, false, none, iLoadN 4 (.t 21)⟩,
 ⟨some 23, false, none, iFaddr 0 (.t 8)⟩,
 ⟨some 24, false, none, iLoadN 4 (.t 23)⟩,
 ⟨some 25, false, none, iEq true true 4 [(0, .int), (1, .int), (2, .int), (3, .bool)] (.t 22) (.t 24)⟩,
 ⟨some 26, false, none, iMov (.t 25)⟩,
 ⟨some 27, false, some (26, true), iMov (.t 1)⟩,
 ⟨some 28, false, some (26, true), iLoadN 13 (.t 6)⟩,
 ⟨some 29, false, some (26, true), iLoadN 13 (.t 8)⟩,
 ⟨some 30, false, some (26, true), iCall (.t 27) [(.t 28), (.t 29)]⟩,
 ⟨some 31, false, some (26, true), iNot (.t 30)⟩,
 ⟨some 32, true, none, iPick (.t 26) (.t 31) (.c (.bool (.lit false)))⟩])
 (cCond (.t 32) (cSeq (cOps [⟨some 4, true, none, iMov (.c (.bool (.lit false)))⟩])
 cRet) cSkip))))
 (cOps [⟨some 33, false, none, iArith .add (.t 17) (.c (.int .i64 (.lit 1)))⟩,
 ⟨some 17, true, none, iMov (.t 33)⟩])))))))))
 (cOps [⟨some 34, false, none, iArith .add (.t 11) (.c (.int .i64 (.lit 1)))⟩,
 ⟨some 11, true, none, iMov (.t 34)⟩])))))))
 (cSeq (cOps [⟨some 4, true, none, iMov (.c (.bool (.lit true)))⟩])
 cRet))), [.t 4]⟩
noncomputable def Tryd.kp27 : List Nat := [0, 1, 2, 3, 4, 5, 6, 7, 8, 11, 20, 29]
noncomputable def Tryd.cf27 : CF := ⟨2, (cSeq (cOps [⟨some 2, true, none, iBox 55 (.t 0)⟩,
 ⟨some 3, true, none, iBox 55 (.t 1)⟩,
 ⟨some 4, true, none, iMov (.c (.int .i64 (.lit 0)))⟩,
 ⟨some 5, true, none, iMov (.c (.bool (.lit false)))⟩])
 (cSeq (cSeq (cOps [⟨some 9, false, none, iIaddrA 1 5 (.t 2) (.c (.int .i64 (.lit 0)))⟩,
 ⟨some 10, false, none, iLoad (.t 9)⟩,
 ⟨some 11, true, none, iCmp .neq (.t 10) (.c (.int .i64 (.lit 0)))⟩])
 (cCond (.t 11) (cSeq (cOps [⟨some 4, true, none, iMov (.c (.int .i64 (.lit 0)))⟩,
 ⟨some 5, true, none, iMov (.c (.bool (.lit true)))⟩])
 cRet) cSkip))
 (cSeq (cOps [⟨some 12, false, none, iLoadN 5 (.t 2)⟩,
 ⟨some 13, false, none, iCall (.c (.func (.func 43) [] [])) [(.t 12)]⟩,
 ⟨some 6, true, none, iAlloc 55 [(.int .i64 (.lit 0)), (.int .i64 (.lit 0)), (.int .i64 (.lit 0)), (.int .i64 (.lit 0)), (.int .i64 (.lit 0))]⟩,
 ⟨none, false, none, iStore 5 (.t 6) (.t 13)⟩])
 (cSeq (cOps [⟨some 14, false, none, iIaddrA 1 5 (.t 3) (.c (.int .i64 (.lit 0)))⟩,
 ⟨some 15, false, none, iLoad (.t 14)⟩,
 ⟨some 16, false, none, iBuild [(.int .i64 (.lit 0)), (.int .i64 (.lit 0)), (.int .i64 (.lit 0)), (.int .i64 (.lit 0)), (.int .i64 (.lit 0))] [(0, 1, (.t 15))]⟩,
 ⟨some 7, true, none, iAlloc 55 [(.int .i64 (.lit 0)), (.int .i64 (.lit 0)), (.int .i64 (.lit 0)), (.int .i64 (.lit 0)), (.int .i64 (.lit 0))]⟩,
 ⟨none, false, none, iStore 5 (.t 7) (.t 16)⟩])
 (cSeq (cSeq (cOps [⟨some 4, true, none, iMov (.c (.int .i64 (.lit 1)))⟩])
 (cBlock 0 (cLoop (cSeq (cSeq (cOps [⟨some 17, false, none, iLoadN 5 (.t 7)⟩,
 ⟨some 18, false, none, iLoadN 5 (.t 6)⟩,
 ⟨some 19, false, none, iCall (.c (.func (.func 38) [] [])) [(.t 17), (.t 18)]⟩,
 ⟨some 20, true, none, iCall (.c (.func (.func 39) [] [])) [(.t 19)]⟩])
 (cCond (.t 20) cSkip (cExit 0)))
 (cSeq (cBlock 1 (cSeq (dOps 1 [⟨⟨some 23, false, none, iLoadN 5 (.t 7)⟩, [7], false, 0, 0, none, []⟩,
 ⟨⟨some 24, false, none, iCall (.c (.func (.func 43) [] [])) [(.t 23)]⟩, [23], true, 0, 0, none, []⟩,
 ⟨⟨some 25, false, none, iLoadN 5 (.t 3)⟩, [3], false, 0, 1, none, []⟩,
 ⟨⟨some 26, false, none, iCall (.c (.func (.func 38) [] [])) [(.t 24), (.t 25)]⟩, [24, 25], true, 1, 0, none, []⟩,
 ⟨⟨some 8, true, none, iAlloc 55 [(.int .i64 (.lit 0)), (.int .i64 (.lit 0)), (.int .i64 (.lit 0)), (.int .i64 (.lit 0)), (.int .i64 (.lit 0))]⟩, [], false, 0, 3, (some (flAlloc [(.int .i64 (.lit 0)), (.int .i64 (.lit 0)), (.int .i64 (.lit 0)), (.int .i64 (.lit 0)), (.int .i64 (.lit 0))], .ptr, 0)), []⟩,
 ⟨⟨none, false, none, iStore 5 (.t 8) (.t 26)⟩, [8, 26], true, 2, 0, none, [0]⟩])
 (cSeq (cSeq (cOps [⟨some 27, false, none, iLoadN 5 (.t 8)⟩,
 ⟨some 28, false, none, iLoadN 5 (.t 7)⟩,
 ⟨some 29, true, none, iEq false true 5 [(0, .int), (1, .int), (2, .int), (3, .int), (4, .int)] (.t 27) (.t 28)⟩])
 (cCond (.t 29) (cSeq (cOps [⟨some 4, true, none, iMov (.c (.int .i64 (.lit 0)))⟩,
 ⟨some 5, true, none, iMov (.c (.bool (.lit false)))⟩])
 cRet) cSkip))
 (cOps [⟨some 30, false, none, iLoadN 5 (.t 8)⟩,
 ⟨none, false, none, iStore 5 (.t 7) (.t 30)⟩]))))
 (cOps [⟨some 21, false, none, iMov (.t 4)⟩,
 ⟨some 22, false, none, iArith .add (.t 21) (.c (.int .i64 (.lit 1)))⟩,
 ⟨some 4, true, none, iMov (.t 22)⟩]))))))
 (cSeq (cOps [⟨some 31, false, none, iMov (.t 4)⟩,
 ⟨some 4, true, none, iMov (.t 31)⟩,
 ⟨some 5, true, none, iMov (.c (.bool (.lit true)))⟩])
 cRet)))))), [.t 4, .t 5]⟩
noncomputable def Tryd.kp28 : List Nat := [0, 1, 2, 4, 5, 7, 10, 11, 12, 13]
noncomputable def Tryd.cf28 : CF := ⟨2, (cSeq (cOps [⟨some 2, true, none, iBox 58 (.t 0)⟩,
 ⟨some 4, true, none, iAlloc 55 [(.int .i64 (.lit 0)), (.int .i64 (.lit 0)), (.int .i64 (.lit 0)), (.int .i64 (.lit 0)), (.int .i64 (.lit 0))]⟩])
 (cSeq (cOps [⟨some 8, false, none, iFaddr 6 (.t 2)⟩,
 ⟨some 9, false, none, iLoadN 5 (.t 8)⟩,
 ⟨some 5, true, none, iAlloc 55 [(.int .i64 (.lit 0)), (.int .i64 (.lit 0)), (.int .i64 (.lit 0)), (.int .i64 (.lit 0)), (.int .i64 (.lit 0))]⟩,
 ⟨none, false, none, iStore 5 (.t 5) (.t 9)⟩])
 (cSeq (cSeq (cOps [⟨some 10, true, none, iMov (.t 1)⟩,
 ⟨some 11, true, none, iLenS (.t 10)⟩,
 ⟨some 12, true, none, iMov (.c (.int .i64 (.lit 0)))⟩])
 (cBlock 0 (cLoop (cSeq (cOps [⟨some 13, true, none, iCmp .lss (.t 12) (.t 11)⟩])
 (cSeq (cCond (.t 13) cSkip (cExit 0))
 (cSeq (cBlock 1 (cSeq (cOps [⟨some 14, false, none, iIaddr 13 (.t 10) (.t 12)⟩,
 ⟨some 15, false, none, iLoadN 13 (.t 14)⟩,
 ⟨some 7, true, none, iAlloc 67 [(.int .i64 (.lit 0)), (.int .i64 (.lit 0)), (.int .i64 (.lit 0)), (.bool (.lit false)), (.int .i64 (.lit 0)), (.int .i64 (.lit 0)), (.int .i64 (.lit 0)), (.int .i64 (.lit 0)), (.int .i64 (.lit 0)), (.int .i64 (.lit 0)), (.int .i64 (.lit 0)), (.int .i64 (.lit 0)), (.int .i64 (.lit 0))]⟩,
 ⟨none, false, none, iStore 13 (.t 7) (.t 15)⟩])
 (cOps [⟨some 16, false, none, iLoadN 5 (.t 5)⟩,
 ⟨some 17, false, none, iFaddr 8 (.t 7)⟩,
 ⟨some 18, false, none, iLoadN 5 (.t 17)⟩,
 ⟨some 19, false, none, iCall (.c (.func (.func 44) [] [])) [(.t 16), (.t 18)]⟩,
 ⟨none, false, none, iStore 5 (.t 5) (.t 19)⟩])))
 (cOps [⟨some 20, false, none, iArith .add (.t 12) (.c (.int .i64 (.lit 1)))⟩,
 ⟨some 12, true, none, iMov (.t 20)⟩])))))))
 (cSeq (cOps [⟨some 21, false, none, iFaddr 0 (.t 2)⟩,
 ⟨some 22, false, none, iFaddr 0 (.t 21)⟩,
 ⟨some 23, false, none, iLoad (.t 22)⟩,
 ⟨some 24, false, none, iFaddr 0 (.t 2)⟩,
 ⟨some 25, false, none, iFaddr 1 (.t 24)⟩,
 ⟨some 26, false, none, iLoad (.t 25)⟩,
 ⟨some 27, false, none, iLoadN 5 (.t 5)⟩,
 ⟨some 28, false, none, iBuild [(.int .i64 (.lit 0)), (.int .i64 (.lit 0)), (.int .i64 (.lit 0)), (.int .i64 (.lit 0)), (.int .i64 (.lit 0)), (.int .i64 (.lit 0)), (.int .i64 (.lit 0))] [(0, 1, (.t 23)), (1, 1, (.t 26)), (2, 5, (.t 27))]⟩,
 ⟨some 29, false, none, iFunc (.func 46) [(.t 28)] []⟩,
 ⟨some 30, false, none, iCall (.c (.func (.func 45) [] [])) [(.t 29)]⟩,
 ⟨none, false, none, iStore 5 (.t 4) (.t 30)⟩])
 cRet)))), [.cell 4 true 5]⟩
noncomputable def Tryd.kp29 : List Nat := [0, 1, 2, 4, 5, 6]
noncomputable def Tryd.cf29 : CF := ⟨2, (cSeq (cOps [⟨some 2, true, none, iBox 58 (.t 0)⟩,
 ⟨some 4, true, none, iMov (.c (.bool (.lit false)))⟩])
 (cSeq (cOps [⟨some 8, false, none, iLoadN 12 (.t 2)⟩,
 ⟨some 9, false, none, iMov (.t 1)⟩,
 ⟨some 10, false, none, iCall (.c (.func (.func 25) [] [])) [(.t 8), (.t 9)]⟩,
 ⟨some 7, false, none, iMov (.t 10)⟩,
 ⟨some 11, false, none, iExtract 0 (.t 7)⟩,
 ⟨some 12, false, none, iExtract 1 (.t 7)⟩,
 ⟨some 5, true, none, iMov (.t 11)⟩,
 ⟨some 6, true, none, iMov (.t 12)⟩])
 (cSeq (cOps [⟨some 13, false, none, iMov (.t 6)⟩,
 ⟨some 14, false, none, iMov (.t 13)⟩,
 ⟨some 15, false, some (14, true), iMov (.t 5)⟩,
 ⟨some 16, false, some (14, true), iLoadN 12 (.t 2)⟩,
 ⟨some 17, false, some (14, true), iFunc (.func 47) [(.t 16)] []⟩,
 ⟨some 18, false, some (14, true), iCall (.c (.func (.func 26) [] [])) [(.t 15), (.t 17)]⟩,
 ⟨some 19, false, none, iPick (.t 14) (.t 18) (.c (.bool (.lit false)))⟩,
 ⟨some 20, false, none, iMov (.t 19)⟩,
 ⟨some 21, false, some (20, true), iLoadN 12 (.t 2)⟩,
 ⟨some 22, false, some (20, true), iMov (.t 5)⟩,
 ⟨some 23, false, some (20, true), iCall (.c (.func (.func 48) [] [])) [(.t 21), (.t 22)]⟩,
 ⟨some 24, false, none, iPick (.t 20) (.t 23) (.c (.bool (.lit false)))⟩,
 ⟨some 4, true, none, iMov (.t 24)⟩])
 cRet))), [.t 4]⟩
noncomputable def Tryd.kp30 : List Nat := [0, 1, 2, 3]
noncomputable def Tryd.cf30 : CF := ⟨1, (cSeq (cOps [⟨some 1, true, none, iBox 58 (.t 0)⟩,
 ⟨some 2, true, none, iMov (.c .nilslice)⟩])
 (cSeq (cOps [⟨some 4, false, none, iFaddr 0 (.t 1)⟩,
 ⟨some 5, false, none, iFaddr 3 (.t 4)⟩,
 ⟨some 6, false, none, iLoad (.t 5)⟩,
 ⟨some 7, false, none, iLenS (.t 6)⟩,
 ⟨some 8, false, none, iShift .shl (.c (.int .i64 (.lit 1))) (.t 7)⟩,
 ⟨some 9, false, none, iArith .sub (.t 8) (.c (.int .i64 (.lit 1)))⟩,
 ⟨some 3, true, none, iMov (.t 9)⟩])
 (cSeq (dOps 0 [⟨⟨some 10, false, none, iLoadN 12 (.t 1)⟩, [1], false, 0, 1, none, []⟩,
 ⟨⟨some 11, false, none, iBuild [(.int .i64 (.lit 0)), (.int .i64 (.lit 0)), .nilslice, .nilslice, .nilslice, (.int .i64 (.lit 0)), (.int .i64 (.lit 0)), (.int .i64 (.lit 0)), (.int .i64 (.lit 0)), (.int .i64 (.lit 0)), (.int .i64 (.lit 0)), .nilmap, .nilFunc] [(0, 12, (.t 10)), (12, 1, (.c (.func (.func 49) [] [])))]⟩, [10], false, 0, 1, none, []⟩,
 ⟨⟨some 12, false, none, iMov (.t 3)⟩, [3], false, 0, 0, none, []⟩,
 ⟨⟨some 13, false, none, iCall (.c (.func (.func 51) [] [])) [(.t 12)]⟩, [12], true, 0, 0, none, []⟩,
 ⟨⟨some 14, false, none, iCall (.c (.func (.func 50) [] [])) [(.t 11), (.t 13)]⟩, [11, 13], true, 1, 0, none, []⟩,
 ⟨⟨some 2, true, none, iMov (.t 14)⟩, [14], false, 2, 2, none, []⟩])
 cRet))), [.t 2]⟩
noncomputable def Tryd.kp31 : List Nat := [0, 2, 3, 4, 6, 7, 8, 9, 10]
noncomputable def Tryd.cf31 : CF := ⟨1, (cSeq (cOps [⟨some 2, true, none, iMov (.c (.int .i64 (.lit 0)))⟩])
 (cSeq (cOps [⟨some 3, true, none, iMov (.c (.int .i64 (.lit 6)))⟩,
 ⟨some 4, true, none, iMov (.c (.int .i64 (.lit 0)))⟩])
 (cSeq (cSeq (cOps [⟨some 7, true, none, iMov (.t 0)⟩,
 ⟨some 8, true, none, iLenS (.t 7)⟩,
 ⟨some 9, true, none, iMov (.c (.int .i64 (.lit 0)))⟩])
 (cBlock 0 (cLoop (cSeq (cOps [⟨some 10, true, none, iCmp .lss (.t 9) (.t 8)⟩])
 (cSeq (cCond (.t 10) cSkip (cExit 0))
 (cSeq (cBlock 1 (cSeq (cOps [⟨some 11, false, none, iIaddr 13 (.t 7) (.t 9)⟩,
 ⟨some 12, false, none, iLoadN 13 (.t 11)⟩,
 ⟨some 6, true, none, iAlloc 67 [(.int .i64 (.lit 0)), (.int .i64 (.lit 0)), (.int .i64 (.lit 0)), (.bool (.lit false)), (.int .i64 (.lit 0)), (.int .i64 (.lit 0)), (.int .i64 (.lit 0)), (.int .i64 (.lit 0)), (.int .i64 (.lit 0)), (.int .i64 (.lit 0)), (.int .i64 (.lit 0)), (.int .i64 (.lit 0)), (.int .i64 (.lit 0))]⟩,
 ⟨none, false, none, iStore 13 (.t 6) (.t 12)⟩])
 (dOps 0 [⟨⟨some 13, false, none, iMov (.t 3)⟩, [3], false, 0, 2, none, []⟩,
 ⟨⟨some 14, false, none, iFaddr 4 (.t 6)⟩, [6], false, 0, 2, none, []⟩,
 ⟨⟨some 15, false, none, iFaddr 0 (.t 14)⟩, [14], false, 0, 2, none, []⟩,
 ⟨⟨some 16, false, none, iLoad (.t 15)⟩, [15], false, 0, 2, none, []⟩,
 ⟨⟨some 17, false, none, iMin [(.t 13), (.t 16)]⟩, [13, 16], false, 0, 2, none, []⟩,
 ⟨⟨some 18, false, none, iMov (.t 4)⟩, [4], false, 0, 1, none, []⟩,
 ⟨⟨some 19, false, none, iFaddr 4 (.t 6)⟩, [6], false, 0, 0, none, []⟩,
 ⟨⟨some 20, false, none, iFaddr 0 (.t 19)⟩, [19], false, 0, 0, none, []⟩,
 ⟨⟨some 21, false, none, iLoad (.t 20)⟩, [20], false, 0, 0, none, []⟩,
 ⟨⟨some 22, false, none, iFaddr 4 (.t 6)⟩, [6], false, 0, 0, none, []⟩,
 ⟨⟨some 23, false, none, iFaddr 2 (.t 22)⟩, [22], false, 0, 0, none, []⟩,
 ⟨⟨some 24, false, none, iLoad (.t 23)⟩, [23], false, 0, 0, none, []⟩,
 ⟨⟨some 25, false, none, iArith .add (.t 21) (.t 24)⟩, [21, 24], false, 0, 0, none, []⟩,
 ⟨⟨some 26, false, none, iBslice 3 [(.int .i64 (.lit 0))] 1 [(0, 1, (.t 25))]⟩, [25], true, 0, 0, none, []⟩,
 ⟨⟨some 27, false, none, iCall (.c (.func (.func 42) [] [])) [(.t 18), (.t 26)]⟩, [18, 26], true, 1, 0, none, []⟩,
 ⟨⟨some 3, true, none, iMov (.t 17)⟩, [17], false, 2, 2, none, []⟩,
 ⟨⟨some 4, true, none, iMov (.t 27)⟩, [27], false, 2, 2, none, []⟩])))
 (cOps [⟨some 28, false, none, iArith .add (.t 9) (.c (.int .i64 (.lit 1)))⟩,
 ⟨some 9, true, none, iMov (.t 28)⟩])))))))
 (cSeq (cOps [⟨some 29, false, none, iMov (.t 4)⟩,
 ⟨some 30, false, none, iMov (.t 3)⟩,
 ⟨some 31, false, none, iArith .sub (.t 29) (.t 30)⟩,
 ⟨some 2, true, none, iMov (.t 31)⟩])
 cRet)))), [.t 2]⟩
noncomputable def Tryd.ra32015 : C := (cOps [⟨some 9, true, none, iAlloc 67 [(.int .i64 (.lit 0)), (.int .i64 (.lit 0)), (.int .i64 (.lit 0)), (.bool (.lit false)), (.int .i64 (.lit 0)), (.int .i64 (.lit 0)), (.int .i64 (.lit 0)), (.int .i64 (.lit 0)), (.int .i64 (.lit 0)), (.int .i64 (.lit 0)), (.int .i64 (.lit 0)), (.int .i64 (.lit 0)), (.int .i64 (.lit 0))]⟩,
 ⟨none, false, none, iStore 13 (.t 9) (.t 15)⟩])
noncomputable def Tryd.rb32015 : C := (cBlock 1 (cSeq (cOps [⟨some 16, false, none, iLoad (.t 8)⟩,
 ⟨some 17, false, none, iLoad (.t 5)⟩,
 ⟨some 18, false, none, iFaddr 0 (.t 9)⟩,
 ⟨some 19, false, none, iFaddr 1 (.t 18)⟩,
 ⟨some 20, false, none, iLoadN 3 (.t 19)⟩,
 ⟨some 21, false, none, iIaddr 3 (.t 16) (.t 17)⟩,
 ⟨none, false, none, iStore 3 (.t 21) (.t 20)⟩])
 (cSeq (cOps [⟨some 22, false, none, iLoadN 12 (.t 3)⟩,
 ⟨some 23, false, none, iLoad (.t 8)⟩,
 ⟨some 24, true, none, iCall (.c (.func (.func 29) [] [])) [(.t 22), (.t 23)]⟩])
 (cCond (.t 24) (cOps [⟨some 25, false, none, iLoad (.t 7)⟩,
 ⟨some 26, false, none, iFaddr 0 (.t 9)⟩,
 ⟨some 27, false, none, iFaddr 1 (.t 26)⟩,
 ⟨some 28, false, none, iLoadN 3 (.t 27)⟩,
 ⟨some 29, false, none, iBslice 35 [(.int .i64 (.lit 0)), (.int .i64 (.lit 0)), (.bool (.lit false))] 1 [(0, 3, (.t 28))]⟩,
 ⟨some 30, false, none, iAppend 35 3 24 (.t 25) (.t 29)⟩,
 ⟨none, false, none, iStore 1 (.t 7) (.t 30)⟩]) cSkip))))
noncomputable def Tryd.kp32 : List Nat := [0, 1, 2, 3, 5, 6, 7, 8, 9, 14, 15, 24]
noncomputable def Tryd.cf32 : CF := ⟨3, (cSeq (cOps [⟨some 3, true, none, iBox 58 (.t 0)⟩,
 ⟨some 5, true, none, iBox 3 (.t 2)⟩,
 ⟨some 6, true, none, iMov (.c .nilslice)⟩])
 (cSeq (cOps [⟨some 7, true, none, iAlloc 41 [.nilslice]⟩])
 (cSeq (cOps [⟨some 10, false, none, iMov (.t 1)⟩,
 ⟨some 11, false, none, iCall (.c (.func (.func 52) [] [])) [(.t 10)]⟩,
 ⟨some 8, true, none, iAlloc 41 [.nilslice]⟩,
 ⟨none, false, none, iStore 1 (.t 8) (.t 11)⟩])
 (cSeq (cSeq (cOps [⟨some 12, false, none, iLoadN 12 (.t 3)⟩,
 ⟨some 13, false, none, iLoad (.t 5)⟩,
 ⟨some 14, true, none, iCall (.c (.func (.func 53) [] [])) [(.t 12), (.t 13)]⟩])
 (cBlock 0 (cRange (.t 14) [15] 32015)))
 (cSeq (cOps [⟨some 31, false, none, iLoad (.t 7)⟩,
 ⟨some 6, true, none, iMov (.t 31)⟩])
 cRet))))), [.t 6]⟩
noncomputable def Tryd.kp33 : List Nat := [0, 1, 2, 3, 4, 5, 6, 13, 14, 15, 28]
noncomputable def Tryd.cf33 : CF := ⟨1, (cSeq (cOps [⟨some 1, true, none, iBox 58 (.t 0)⟩,
 ⟨some 2, true, none, iMov (.c .nilslice)⟩])
 (cSeq (cOps [⟨some 3, true, none, iMov (.c .nilslice)⟩])
 (cSeq (cOps [⟨some 7, false, none, iLoadN 12 (.t 1)⟩,
 ⟨some 8, false, none, iBuild [(.int .i64 (.lit 0)), (.int .i64 (.lit 0)), .nilslice, .nilslice, .nilslice, (.int .i64 (.lit 0)), (.int .i64 (.lit 0)), (.int .i64 (.lit 0)), (.int .i64 (.lit 0)), (.int .i64 (.lit 0)), (.int .i64 (.lit 0)), .nilmap, .nilFunc] [(0, 12, (.t 7)), (12, 1, (.c (.func (.func 54) [] [])))]⟩,
 ⟨some 4, true, none, iAlloc 102 [(.int .i64 (.lit 0)), (.int .i64 (.lit 0)), .nilslice, .nilslice, .nilslice, (.int .i64 (.lit 0)), (.int .i64 (.lit 0)), (.int .i64 (.lit 0)), (.int .i64 (.lit 0)), (.int .i64 (.lit 0)), (.int .i64 (.lit 0)), .nilmap, .nilFunc]⟩,
 ⟨none, false, none, iStore 13 (.t 4) (.t 8)⟩])
 (cSeq (cSeq (cOps [⟨some 9, false, none, iFaddr 0 (.t 1)⟩,
 ⟨some 10, false, none, iFaddr 3 (.t 9)⟩,
 ⟨some 11, false, none, iLoad (.t 10)⟩,
 ⟨some 12, false, none, iLenS (.t 11)⟩,
 ⟨some 13, true, none, iShift .shl (.c (.int .i64 (.lit 1))) (.t 12)⟩,
 ⟨some 14, true, none, iMov (.c (.int .i64 (.lit 0)))⟩])
 (cBlock 0 (cLoop (cSeq (cOps [⟨some 15, true, none, iCmp .lss (.t 14) (.t 13)⟩])
 (cSeq (cCond (.t 15) cSkip (cExit 0))
 (cSeq (cBlock 1 (cSeq (cOps [⟨some 16, false, none, iMov (.t 14)⟩,
 ⟨some 5, true, none, iMov (.t 16)⟩])
 (cSeq (cOps [⟨some 17, false, none, iMov (.t 5)⟩,
 ⟨some 18, false, none, iCall (.c (.func (.func 51) [] [])) [(.t 17)]⟩,
 ⟨some 6, true, none, iMov (.t 18)⟩])
 (cSeq (cOps [⟨some 19, false, none, iMov (.t 6)⟩,
 ⟨some 20, false, none, iMov (.t 3)⟩,
 ⟨some 21, false, none, iCall (.c (.func (.func 55) [] [])) [(.t 19), (.t 20)]⟩,
 ⟨some 22, false, none, iMov (.t 21)⟩,
 ⟨some 23, false, some (22, true), iLoadN 13 (.t 4)⟩,
 ⟨some 24, false, some (22, true), iMov (.t 6)⟩,
 ⟨some 25, false, some (22, true), iCall (.c (.func (.func 50) [] [])) [(.t 23), (.t 24)]⟩,
 ⟨some 26, false, some (22, true), iLenS (.t 25)⟩,
 ⟨some 27, false, some (22, true), iCmp .gtr (.t 26) (.c (.int .i64 (.lit 0)))⟩,
 ⟨some 28, true, none, iPick (.t 22) (.t 27) (.c (.bool (.lit false)))⟩])
 (cCond (.t 28) (cOps [⟨some 29, false, none, iMov (.t 6)⟩,
 ⟨some 3, true, none, iMov (.t 29)⟩]) cSkip)))))
 (cOps [⟨some 30, false, none, iArith .add (.t 14) (.c (.int .i64 (.lit 1)))⟩,
 ⟨some 14, true, none, iMov (.t 30)⟩])))))))
 (cSeq (cOps [⟨some 31, false, none, iMov (.t 3)⟩,
 ⟨some 2, true, none, iMov (.t 31)⟩])
 cRet))))), [.t 2]⟩
noncomputable def Tryd.kp34 : List Nat := [0, 1, 2, 3, 4, 6, 16, 17, 18, 26, 29, 30, 31, 32, 37]
noncomputable def Tryd.cf34 : CF := ⟨1, (cSeq (cOps [⟨some 1, true, none, iBox 26 (.t 0)⟩,
 ⟨some 2, true, none, iMov (.c (.bool (.lit false)))⟩])
 (cSeq (cSeq (cOps [⟨some 7, false, none, iFaddr 0 (.t 1)⟩,
 ⟨some 8, false, none, iLoad (.t 7)⟩,
 ⟨some 9, false, none, iFaddr 1 (.t 1)⟩,
 ⟨some 10, false, none, iLoad (.t 9)⟩,
 ⟨some 11, false, none, iFaddr 3 (.t 1)⟩,
 ⟨some 12, false, none, iLoad (.t 11)⟩,
 ⟨some 13, false, none, iLenS (.t 12)⟩,
 ⟨some 14, false, none, iFaddr 5 (.t 1)⟩,
 ⟨some 15, false, none, iLoad (.t 14)⟩,
 ⟨some 16, true, none, iBuild [(.int .i64 (.lit 0)), (.int .i64 (.lit 0)), (.int .i64 (.lit 0)), (.int .i64 (.lit 0))] [(0, 1, (.t 8)), (1, 1, (.t 10)), (2, 1, (.t 13)), (3, 1, (.t 15))]⟩,
 ⟨some 17, true, none, iMov (.c (.int .i64 (.lit 0)))⟩])
 (cBlock 0 (cLoop (cSeq (cOps [⟨some 18, true, none, iCmp .lss (.t 17) (.c (.int .i64 (.lit 4)))⟩])
 (cSeq (cCond (.t 18) cSkip (cExit 0))
 (cSeq (cBlock 1 (cSeq (cOps [⟨some 19, false, none, iMov (.t 17)⟩,
 ⟨some 20, false, none, iIndex false 1 4 (.t 16) (.t 17)⟩,
 ⟨some 3, true, none, iMov (.t 19)⟩,
 ⟨some 4, true, none, iMov (.t 20)⟩])
 (cSeq (cOps [⟨some 21, false, none, iMov (.t 4)⟩,
 ⟨some 22, false, none, iMov (.t 3)⟩,
 ⟨some 23, false, none, iIaddrA 2 4 (.c (.ptr 0 0)) (.t 22)⟩,
 ⟨some 24, false, none, iLoadN 2 (.t 23)⟩,
 ⟨some 25, false, none, iCall (.c (.func (.func 56) [] [])) [(.t 21), (.t 24)]⟩,
 ⟨some 26, true, none, iNot (.t 25)⟩])
 (cCond (.t 26) (cSeq (cOps [⟨some 2, true, none, iMov (.c (.bool (.lit false)))⟩])
 cRet) cSkip))))
 (cOps [⟨some 27, false, none, iArith .add (.t 17) (.c (.int .i64 (.lit 1)))⟩,
 ⟨some 17, true, none, iMov (.t 27)⟩])))))))
 (cSeq (cSeq (cOps [⟨some 28, false, none, iFaddr 3 (.t 1)⟩,
 ⟨some 29, true, none, iLoad (.t 28)⟩,
 ⟨some 30, true, none, iLenS (.t 29)⟩,
 ⟨some 31, true, none, iMov (.c (.int .i64 (.lit 0)))⟩])
 (cBlock 2 (cLoop (cSeq (cOps [⟨some 32, true, none, iCmp .lss (.t 31) (.t 30)⟩])
 (cSeq (cCond (.t 32) cSkip (cExit 2))
 (cSeq (cBlock 3 (cSeq (cOps [⟨some 33, false, none, iIaddr 5 (.t 29) (.t 31)⟩,
 ⟨some 34, false, none, iLoadN 5 (.t 33)⟩,
 ⟨some 6, true, none, iAlloc 30 [(.int .i64 (.lit 0)), (.int .i64 (.lit 0)), (.int .i64 (.lit 0)), (.bool (.lit false)), (.bool (.lit false))]⟩,
 ⟨none, false, none, iStore 5 (.t 6) (.t 34)⟩])
 (cSeq (cOps [⟨some 35, false, none, iLoadN 5 (.t 6)⟩,
 ⟨some 36, false, none, iCall (.c (.func (.func 57) [] [])) [(.t 35)]⟩,
 ⟨some 37, true, none, iNot (.t 36)⟩])
 (cCond (.t 37) (cSeq (cOps [⟨some 2, true, none, iMov (.c (.bool (.lit false)))⟩])
 cRet) cSkip))))
 (cOps [⟨some 38, false, none, iArith .add (.t 31) (.c (.int .i64 (.lit 1)))⟩,
 ⟨some 31, true, none, iMov (.t 38)⟩])))))))
 (cSeq (cOps [⟨some 39, false, none, iLoadN 6 (.t 1)⟩,
 ⟨some 40, false, none, iCall (.c (.func (.func 58) [] [])) [(.t 39)]⟩,
 ⟨some 41, false, none, iMov (.t 40)⟩,
 ⟨some 42, false, some (41, true), iFaddr 4 (.t 1)⟩,
 ⟨some 43, false, some (41, true), iLoad (.t 42)⟩,
 ⟨some 44, false, some (41, true), iFaddr 3 (.t 1)⟩,
 ⟨some 45, false, some (41, true), iLoad (.t 44)⟩,
 ⟨some 46, false, some (41, true), iLenS (.t 45)⟩,
 ⟨some 47, false, some (41, true), iCall (.c (.func (.func 59) [] [])) [(.t 43), (.t 46)]⟩,
 ⟨some 48, false, none, iPick (.t 41) (.t 47) (.c (.bool (.lit false)))⟩,
 ⟨some 2, true, none, iMov (.t 48)⟩])
 cRet)))), [.t 2]⟩
noncomputable def Tryd.kp35 : List Nat := [0, 1, 4, 5, 6, 18]
noncomputable def Tryd.cf35 : CF := ⟨2, (cSeq (cOps [⟨some 4, true, none, iMov (.c (.bool (.lit false)))⟩])
 (cSeq (cOps [⟨some 7, false, none, iMov (.t 0)⟩,
 ⟨some 8, false, none, iLenS (.t 7)⟩,
 ⟨some 9, false, none, iMov (.t 1)⟩,
 ⟨some 10, false, none, iLenS (.t 9)⟩,
 ⟨some 11, false, none, iCmp .eql (.t 8) (.t 10)⟩,
 ⟨some 5, true, none, iMov (.t 11)⟩])
 (cSeq (cSeq (cOps [⟨some 6, true, none, iMov (.c (.int .i64 (.lit 0)))⟩])
 (cBlock 0 (cLoop (cSeq (cSeq (cOps [⟨some 12, false, none, iMov (.t 5)⟩,
 ⟨some 13, false, none, iMov (.t 12)⟩,
 ⟨some 14, false, some (13, true), iMov (.t 6)⟩,
 ⟨some 15, false, some (13, true), iMov (.t 0)⟩,
 ⟨some 16, false, some (13, true), iLenS (.t 15)⟩,
 ⟨some 17, false, some (13, true), iCmp .lss (.t 14) (.t 16)⟩,
 ⟨some 18, true, none, iPick (.t 13) (.t 17) (.c (.bool (.lit false)))⟩])
 (cCond (.t 18) cSkip (cExit 0)))
 (cSeq (cBlock 1 (dOps 0 [⟨⟨some 21, false, none, iMov (.t 0)⟩, [0], false, 0, 0, none, []⟩,
 ⟨⟨some 22, false, none, iMov (.t 6)⟩, [6], false, 0, 0, none, []⟩,
 ⟨⟨some 23, false, none, iIaddr 3 (.t 21) (.t 22)⟩, [21, 22], false, 0, 0, none, []⟩,
 ⟨⟨some 24, false, none, iLoadN 3 (.t 23)⟩, [23], false, 0, 0, none, []⟩,
 ⟨⟨some 25, false, none, iMov (.t 1)⟩, [1], false, 0, 0, none, []⟩,
 ⟨⟨some 26, false, none, iMov (.t 6)⟩, [6], false, 0, 0, none, []⟩,
 ⟨⟨some 27, false, none, iIaddr 3 (.t 25) (.t 26)⟩, [25, 26], false, 0, 0, none, []⟩,
 ⟨⟨some 28, false, none, iLoadN 3 (.t 27)⟩, [27], false, 0, 0, none, []⟩,
 ⟨⟨some 29, false, none, iEq false true 3 [(0, .int), (1, .int), (2, .bool)] (.t 24) (.t 28)⟩, [24, 28], false, 0, 0, none, []⟩,
 ⟨⟨some 5, true, none, iMov (.t 29)⟩, [29], false, 0, 0, none, []⟩]))
 (cOps [⟨some 19, false, none, iMov (.t 6)⟩,
 ⟨some 20, false, none, iArith .add (.t 19) (.c (.int .i64 (.lit 1)))⟩,
 ⟨some 6, true, none, iMov (.t 20)⟩]))))))
 (cSeq (cOps [⟨some 30, false, none, iMov (.t 5)⟩,
 ⟨some 4, true, none, iMov (.t 30)⟩])
 cRet)))), [.t 4]⟩
noncomputable def Tryd.kp36 : List Nat := [0, 1, 2]
noncomputable def Tryd.cf36 : CF := ⟨1, (cSeq (cOps [⟨some 1, true, none, iBox 58 (.t 0)⟩,
 ⟨some 2, true, none, iMov (.c .nilFunc)⟩])
 (cSeq (cOps [⟨some 3, false, none, iFunc (.func 60) [] [(.t 1)]⟩,
 ⟨some 2, true, none, iMov (.t 3)⟩])
 cRet)), [.t 2]⟩
noncomputable def Tryd.kp37 : List Nat := [0, 1, 2, 3, 4, 5, 6, 7, 8, 29, 76]
noncomputable def Tryd.cf37 : CF := ⟨2, (cSeq (cOps [⟨some 2, true, none, iBox 58 (.t 0)⟩,
 ⟨some 3, true, none, iBox 63 (.t 1)⟩,
 ⟨some 4, true, none, iAlloc 67 [(.int .i64 (.lit 0)), (.int .i64 (.lit 0)), (.int .i64 (.lit 0)), (.bool (.lit false)), (.int .i64 (.lit 0)), (.int .i64 (.lit 0)), (.int .i64 (.lit 0)), (.int .i64 (.lit 0)), (.int .i64 (.lit 0)), (.int .i64 (.lit 0)), (.int .i64 (.lit 0)), (.int .i64 (.lit 0)), (.int .i64 (.lit 0))]⟩,
 ⟨some 5, true, none, iMov (.c (.bool (.lit false)))⟩])
 (cSeq (cOps [⟨some 9, false, none, iFaddr 0 (.t 2)⟩,
 ⟨some 10, false, none, iFaddr 3 (.t 9)⟩,
 ⟨some 11, false, none, iLoad (.t 10)⟩,
 ⟨some 12, false, none, iFaddr 0 (.t 3)⟩,
 ⟨some 13, false, none, iLoad (.t 12)⟩,
 ⟨some 14, false, none, iIaddr 5 (.t 11) (.t 13)⟩,
 ⟨some 15, false, none, iLoadN 5 (.t 14)⟩,
 ⟨some 6, true, none, iAlloc 30 [(.int .i64 (.lit 0)), (.int .i64 (.lit 0)), (.int .i64 (.lit 0)), (.bool (.lit false)), (.bool (.lit false))]⟩,
 ⟨none, false, none, iStore 5 (.t 6) (.t 15)⟩])
 (cSeq (cOps [⟨some 16, false, none, iFaddr 1 (.t 3)⟩,
 ⟨some 17, false, none, iFaddr 0 (.t 16)⟩,
 ⟨some 18, false, none, iLoad (.t 17)⟩,
 ⟨some 19, false, none, iFaddr 1 (.t 3)⟩,
 ⟨some 20, false, none, iFaddr 1 (.t 19)⟩,
 ⟨some 21, false, none, iLoad (.t 20)⟩,
 ⟨some 22, false, none, iFaddr 0 (.t 6)⟩,
 ⟨some 23, false, none, iLoad (.t 22)⟩,
 ⟨some 24, false, none, iFaddr 1 (.t 6)⟩,
 ⟨some 25, false, none, iLoad (.t 24)⟩,
 ⟨some 26, false, none, iBuild [(.int .i64 (.lit 0)), (.int .i64 (.lit 0)), (.int .i64 (.lit 0)), (.int .i64 (.lit 0))] [(0, 1, (.t 18)), (1, 1, (.t 21)), (2, 1, (.t 23)), (3, 1, (.t 25))]⟩,
 ⟨some 7, true, none, iAlloc 65 [(.int .i64 (.lit 0)), (.int .i64 (.lit 0)), (.int .i64 (.lit 0)), (.int .i64 (.lit 0))]⟩,
 ⟨none, false, none, iStore 4 (.t 7) (.t 26)⟩])
 (cSeq (cSeq (cOps [⟨some 27, false, none, iFaddr 1 (.t 3)⟩,
 ⟨some 28, false, none, iFaddr 2 (.t 27)⟩,
 ⟨some 29, true, none, iLoad (.t 28)⟩])
 (cCond (.t 29) (dOps 0 [⟨⟨some 30, false, none, iFaddr 1 (.t 6)⟩, [6], false, 0, 0, none, []⟩,
 ⟨⟨some 31, false, none, iLoad (.t 30)⟩, [30], false, 0, 0, none, []⟩,
 ⟨⟨some 32, false, none, iFaddr 0 (.t 6)⟩, [6], false, 0, 1, none, []⟩,
 ⟨⟨some 33, false, none, iLoad (.t 32)⟩, [32], false, 0, 1, none, []⟩,
 ⟨⟨some 34, false, none, iFaddr 2 (.t 7)⟩, [7], false, 0, 0, none, []⟩,
 ⟨⟨none, false, none, iStore 1 (.t 34) (.t 31)⟩, [34, 31], true, 0, 0, none, []⟩,
 ⟨⟨some 35, false, none, iFaddr 3 (.t 7)⟩, [7], false, 1, 1, none, []⟩,
 ⟨⟨none, false, none, iStore 1 (.t 35) (.t 33)⟩, [35, 33], true, 1, 0, none, []⟩]) cSkip))
 (cSeq (cOps [⟨some 36, false, none, iLoadN 4 (.t 7)⟩,
 ⟨some 37, false, none, iFunc (.func 61) [(.t 36)] []⟩,
 ⟨some 38, false, none, iCall (.c (.func (.func 45) [] [])) [(.t 37)]⟩,
 ⟨some 8, true, none, iAlloc 55 [(.int .i64 (.lit 0)), (.int .i64 (.lit 0)), (.int .i64 (.lit 0)), (.int .i64 (.lit 0)), (.int .i64 (.lit 0))]⟩,
 ⟨none, false, none, iStore 5 (.t 8) (.t 38)⟩])
 (cSeq (cSeq (cOps [⟨some 39, false, none, iFaddr 1 (.t 3)⟩,
 ⟨some 40, false, none, iFaddr 2 (.t 39)⟩,
 ⟨some 41, false, none, iLoad (.t 40)⟩,
 ⟨some 42, false, none, iMov (.t 41)⟩,
 ⟨some 43, false, some (42, true), iFaddr 3 (.t 6)⟩,
 ⟨some 44, false, some (42, true), iLoad (.t 43)⟩,
 ⟨some 45, false, some (42, true), iNot (.t 44)⟩,
 ⟨some 46, false, none, iPick (.t 42) (.t 45) (.c (.bool (.lit false)))⟩,
 ⟨some 47, false, none, iMov (.t 46)⟩,
 ⟨some 48, false, some (47, false), iFaddr 0 (.t 7)⟩,
 ⟨some 49, false, some (47, false), iLoad (.t 48)⟩,
 ⟨some 50, false, some (47, false), iFaddr 2 (.t 7)⟩,
 ⟨some 51, false, some (47, false), iLoad (.t 50)⟩,
 ⟨some 52, false, some (47, false), iArith .add (.t 49) (.t 51)⟩,
 ⟨some 53, false, some (47, false), iFaddr 0 (.t 2)⟩,
 ⟨some 54, false, some (47, false), iFaddr 0 (.t 53)⟩,
 ⟨some 55, false, some (47, false), iLoad (.t 54)⟩,
 ⟨some 56, false, some (47, false), iCmp .gtr (.t 52) (.t 55)⟩,
 ⟨some 57, false, none, iPick (.t 47) (.c (.bool (.lit true))) (.t 56)⟩,
 ⟨some 58, false, none, iMov (.t 57)⟩,
 ⟨some 59, false, some (58, false), iFaddr 1 (.t 7)⟩,
 ⟨some 60, false, some (58, false), iLoad (.t 59)⟩,
 ⟨some 61, false, some (58, false), iFaddr 3 (.t 7)⟩,
 ⟨some 62, false, some (58, false), iLoad (.t 61)⟩,
 ⟨some 63, false, some (58, false), iArith .add (.t 60) (.t 62)⟩,
 ⟨some 64, false, some (58, false), iFaddr 0 (.t 2)⟩,
 ⟨some 65, false, some (58, false), iFaddr 1 (.t 64)⟩,
 ⟨some 66, false, some (58, false), iLoad (.t 65)⟩,
 ⟨some 67, false, some (58, false), iCmp .gtr (.t 63) (.t 66)⟩,
 ⟨some 68, false, none, iPick (.t 58) (.c (.bool (.lit true))) (.t 67)⟩,
 ⟨some 69, false, none, iMov (.t 68)⟩,
 ⟨some 70, false, some (69, false), iLoadN 5 (.t 8)⟩,
 ⟨some 71, false, some (69, false), iFaddr 6 (.t 2)⟩,
 ⟨some 72, false, some (69, false), iLoadN 5 (.t 71)⟩,
 ⟨some 73, false, some (69, false), iCall (.c (.func (.func 38) [] [])) [(.t 70), (.t 72)]⟩,
 ⟨some 74, false, some (69, false), iCall (.c (.func (.func 39) [] [])) [(.t 73)]⟩,
 ⟨some 75, false, some (69, false), iNot (.t 74)⟩,
 ⟨some 76, true, none, iPick (.t 69) (.c (.bool (.lit true))) (.t 75)⟩])
 (cCond (.t 76) (cSeq (cOps [⟨some 77, false, none, iBuild [(.int .i64 (.lit 0)), (.int .i64 (.lit 0)), (.int .i64 (.lit 0)), (.bool (.lit false)), (.int .i64 (.lit 0)), (.int .i64 (.lit 0)), (.int .i64 (.lit 0)), (.int .i64 (.lit 0)), (.int .i64 (.lit 0)), (.int .i64 (.lit 0)), (.int .i64 (.lit 0)), (.int .i64 (.lit 0)), (.int .i64 (.lit 0))] []⟩,
 ⟨none, false, none, iStore 13 (.t 4) (.t 77)⟩,
 ⟨some 5, true, none, iMov (.c (.bool (.lit false)))⟩])
 cRet) cSkip))
 (cSeq (cOps [⟨some 78, false, none, iLoadN 4 (.t 3)⟩,
 ⟨some 79, false, none, iLoadN 4 (.t 7)⟩,
 ⟨some 80, false, none, iLoadN 5 (.t 8)⟩,
 ⟨some 81, false, none, iBuild [(.int .i64 (.lit 0)), (.int .i64 (.lit 0)), (.int .i64 (.lit 0)), (.bool (.lit false)), (.int .i64 (.lit 0)), (.int .i64 (.lit 0)), (.int .i64 (.lit 0)), (.int .i64 (.lit 0)), (.int .i64 (.lit 0)), (.int .i64 (.lit 0)), (.int .i64 (.lit 0)), (.int .i64 (.lit 0)), (.int .i64 (.lit 0))] [(0, 4, (.t 78)), (4, 4, (.t 79)), (8, 5, (.t 80))]⟩,
 ⟨none, false, none, iStore 13 (.t 4) (.t 81)⟩,
 ⟨some 5, true, none, iMov (.c (.bool (.lit true)))⟩])
 cRet))))))), [.cell 4 true 13, .t 5]⟩
noncomputable def Tryd.kp38 : List Nat := [0, 1, 2, 3, 4, 5, 6, 7]
noncomputable def Tryd.cf38 : CF := ⟨2, (cSeq (cOps [⟨some 2, true, none, iBox 55 (.t 0)⟩,
 ⟨some 3, true, none, iBox 55 (.t 1)⟩,
 ⟨some 4, true, none, iAlloc 55 [(.int .i64 (.lit 0)), (.int .i64 (.lit 0)), (.int .i64 (.lit 0)), (.int .i64 (.lit 0)), (.int .i64 (.lit 0))]⟩])
 (cSeq (cSeq (cOps [⟨some 6, true, none, iMov (.c (.int .i64 (.lit 0)))⟩])
 (cBlock 0 (cLoop (cSeq (cOps [⟨some 7, true, none, iCmp .lss (.t 6) (.c (.int .i64 (.lit 5)))⟩])
 (cSeq (cCond (.t 7) cSkip (cExit 0))
 (cSeq (cBlock 1 (cSeq (cOps [⟨some 8, false, none, iMov (.t 6)⟩,
 ⟨some 5, true, none, iMov (.t 8)⟩])
 (dOps 0 [⟨⟨some 9, false, none, iMov (.t 5)⟩, [5], false, 0, 0, none, []⟩,
 ⟨⟨some 10, false, none, iIaddrA 1 5 (.t 2) (.t 9)⟩, [2, 9], false, 0, 0, none, []⟩,
 ⟨⟨some 11, false, none, iLoad (.t 10)⟩, [10], false, 0, 0, none, []⟩,
 ⟨⟨some 12, false, none, iMov (.t 5)⟩, [5], false, 0, 0, none, []⟩,
 ⟨⟨some 13, false, none, iIaddrA 1 5 (.t 3) (.t 12)⟩, [3, 12], false, 0, 0, none, []⟩,
 ⟨⟨some 14, false, none, iLoad (.t 13)⟩, [13], false, 0, 0, none, []⟩,
 ⟨⟨some 15, false, none, iArith .and (.t 11) (.t 14)⟩, [11, 14], false, 0, 0, none, []⟩,
 ⟨⟨some 16, false, none, iIaddrA 1 5 (.t 2) (.t 9)⟩, [2, 9], false, 0, 0, none, []⟩,
 ⟨⟨none, false, none, iStore 1 (.t 16) (.t 15)⟩, [16, 15], true, 0, 0, none, []⟩])))
 (cOps [⟨some 17, false, none, iArith .add (.t 6) (.c (.int .i64 (.lit 1)))⟩,
 ⟨some 6, true, none, iMov (.t 17)⟩])))))))
 (cSeq (cOps [⟨some 18, false, none, iLoadN 5 (.t 2)⟩,
 ⟨none, false, none, iStore 5 (.t 4) (.t 18)⟩])
 cRet))), [.cell 4 true 5]⟩
noncomputable def Tryd.kp39 : List Nat := [0, 1, 2]
noncomputable def Tryd.cf39 : CF := ⟨1, (cSeq (cOps [⟨some 1, true, none, iBox 55 (.t 0)⟩,
 ⟨some 2, true, none, iMov (.c (.bool (.lit false)))⟩])
 (cSeq (cOps [⟨some 3, false, none, iLoadN 5 (.t 1)⟩,
 ⟨some 4, false, none, iBuild [(.int .i64 (.lit 0)), (.int .i64 (.lit 0)), (.int .i64 (.lit 0)), (.int .i64 (.lit 0)), (.int .i64 (.lit 0))] []⟩,
 ⟨some 5, false, none, iEq false true 5 [(0, .int), (1, .int), (2, .int), (3, .int), (4, .int)] (.t 3) (.t 4)⟩,
 ⟨some 2, true, none, iMov (.t 5)⟩])
 cRet)), [.t 2]⟩
noncomputable def Tryd.kp40 : List Nat := [0, 1, 2, 3, 4]
noncomputable def Tryd.cf40 : CF := ⟨2, (cSeq (cOps [⟨some 2, true, none, iBox 65 (.t 0)⟩,
 ⟨some 3, true, none, iBox 65 (.t 1)⟩,
 ⟨some 4, true, none, iMov (.c (.int .i64 (.lit 0)))⟩])
 (cSeq (cOps [⟨some 5, false, none, iFaddr 0 (.t 3)⟩,
 ⟨some 6, false, none, iLoad (.t 5)⟩,
 ⟨some 7, false, none, iFaddr 0 (.t 2)⟩,
 ⟨some 8, false, none, iLoad (.t 7)⟩,
 ⟨some 9, false, none, iArith .sub (.t 6) (.t 8)⟩,
 ⟨some 10, false, none, iFaddr 2 (.t 2)⟩,
 ⟨some 11, false, none, iLoad (.t 10)⟩,
 ⟨some 12, false, none, iArith .sub (.t 9) (.t 11)⟩,
 ⟨some 13, false, none, iFaddr 0 (.t 2)⟩,
 ⟨some 14, false, none, iLoad (.t 13)⟩,
 ⟨some 15, false, none, iFaddr 0 (.t 3)⟩,
 ⟨some 16, false, none, iLoad (.t 15)⟩,
 ⟨some 17, false, none, iArith .sub (.t 14) (.t 16)⟩,
 ⟨some 18, false, none, iFaddr 2 (.t 3)⟩,
 ⟨some 19, false, none, iLoad (.t 18)⟩,
 ⟨some 20, false, none, iArith .sub (.t 17) (.t 19)⟩,
 ⟨some 21, false, none, iBslice 3 [(.int .i64 (.lit 0))] 2 [(0, 1, (.t 12)), (1, 1, (.t 20))]⟩,
 ⟨some 22, false, none, iCall (.c (.func (.func 42) [] [])) [(.c (.int .i64 (.lit 0))), (.t 21)]⟩,
 ⟨some 4, true, none, iMov (.t 22)⟩])
 cRet)), [.t 4]⟩
noncomputable def Tryd.kp41 : List Nat := [0, 1, 2, 3, 4]
noncomputable def Tryd.cf41 : CF := ⟨2, (cSeq (cOps [⟨some 2, true, none, iBox 65 (.t 0)⟩,
 ⟨some 3, true, none, iBox 65 (.t 1)⟩,
 ⟨some 4, true, none, iMov (.c (.int .i64 (.lit 0)))⟩])
 (cSeq (cOps [⟨some 5, false, none, iFaddr 1 (.t 3)⟩,
 ⟨some 6, false, none, iLoad (.t 5)⟩,
 ⟨some 7, false, none, iFaddr 1 (.t 2)⟩,
 ⟨some 8, false, none, iLoad (.t 7)⟩,
 ⟨some 9, false, none, iArith .sub (.t 6) (.t 8)⟩,
 ⟨some 10, false, none, iFaddr 3 (.t 2)⟩,
 ⟨some 11, false, none, iLoad (.t 10)⟩,
 ⟨some 12, false, none, iArith .sub (.t 9) (.t 11)⟩,
 ⟨some 13, false, none, iFaddr 1 (.t 2)⟩,
 ⟨some 14, false, none, iLoad (.t 13)⟩,
 ⟨some 15, false, none, iFaddr 1 (.t 3)⟩,
 ⟨some 16, false, none, iLoad (.t 15)⟩,
 ⟨some 17, false, none, iArith .sub (.t 14) (.t 16)⟩,
 ⟨some 18, false, none, iFaddr 3 (.t 3)⟩,
 ⟨some 19, false, none, iLoad (.t 18)⟩,
 ⟨some 20, false, none, iArith .sub (.t 17) (.t 19)⟩,
 ⟨some 21, false, none, iBslice 3 [(.int .i64 (.lit 0))] 2 [(0, 1, (.t 12)), (1, 1, (.t 20))]⟩,
 ⟨some 22, false, none, iCall (.c (.func (.func 42) [] [])) [(.c (.int .i64 (.lit 0))), (.t 21)]⟩,
 ⟨some 4, true, none, iMov (.t 22)⟩])
 cRet)), [.t 4]⟩
noncomputable def Tryd.kp42 : List Nat := [0, 1, 4, 6, 7, 8, 9, 10]
noncomputable def Tryd.cf42 : CF := ⟨2, (cSeq (cOps [⟨some 4, true, none, iMov (.c (.int .i64 (.lit 0)))⟩])
 (cSeq (cSeq (cOps [⟨some 7, true, none, iMov (.t 1)⟩,
 ⟨some 8, true, none, iLenS (.t 7)⟩,
 ⟨some 9, true, none, iMov (.c (.int .i64 (.lit 0)))⟩])
 (cBlock 0 (cLoop (cSeq (cOps [⟨some 10, true, none, iCmp .lss (.t 9) (.t 8)⟩])
 (cSeq (cCond (.t 10) cSkip (cExit 0))
 (cSeq (cBlock 1 (cSeq (cOps [⟨some 11, false, none, iIaddr 1 (.t 7) (.t 9)⟩,
 ⟨some 12, false, none, iLoad (.t 11)⟩,
 ⟨some 6, true, none, iMov (.t 12)⟩])
 (cOps [⟨some 13, false, none, iMov (.t 0)⟩,
 ⟨some 14, false, none, iMov (.t 6)⟩,
 ⟨some 15, false, none, iMax [(.t 13), (.t 14)]⟩,
 ⟨some 0, true, none, iMov (.t 15)⟩])))
 (cOps [⟨some 16, false, none, iArith .add (.t 9) (.c (.int .i64 (.lit 1)))⟩,
 ⟨some 9, true, none, iMov (.t 16)⟩])))))))
 (cSeq (cOps [⟨some 17, false, none, iMov (.t 0)⟩,
 ⟨some 4, true, none, iMov (.t 17)⟩])
 cRet))), [.t 4]⟩
noncomputable def Tryd.kp43 : List Nat := [0, 1, 2, 3, 4, 6, 7, 24, 36]
noncomputable def Tryd.cf43 : CF := ⟨1, (cSeq (cOps [⟨some 1, true, none, iBox 55 (.t 0)⟩,
 ⟨some 2, true, none, iAlloc 55 [(.int .i64 (.lit 0)), (.int .i64 (.lit 0)), (.int .i64 (.lit 0)), (.int .i64 (.lit 0)), (.int .i64 (.lit 0))]⟩])
 (cSeq (cOps [⟨some 5, false, none, iLoadN 5 (.t 1)⟩,
 ⟨some 3, true, none, iAlloc 55 [(.int .i64 (.lit 0)), (.int .i64 (.lit 0)), (.int .i64 (.lit 0)), (.int .i64 (.lit 0)), (.int .i64 (.lit 0))]⟩,
 ⟨none, false, none, iStore 5 (.t 3) (.t 5)⟩])
 (cSeq (cSeq (cOps [⟨some 6, true, none, iMov (.c (.int .i64 (.lit 0)))⟩])
 (cBlock 0 (cLoop (cSeq (cOps [⟨some 7, true, none, iCmp .lss (.t 6) (.c (.int .i64 (.lit 5)))⟩])
 (cSeq (cCond (.t 7) cSkip (cExit 0))
 (cSeq (cBlock 1 (cSeq (cOps [⟨some 8, false, none, iMov (.t 6)⟩,
 ⟨some 4, true, none, iMov (.t 8)⟩])
 (cSeq (dOps 0 [⟨⟨some 9, false, none, iMov (.t 4)⟩, [4], false, 0, 0, none, []⟩,
 ⟨⟨some 10, false, none, iIaddrA 1 5 (.t 3) (.t 9)⟩, [3, 9], false, 0, 0, none, []⟩,
 ⟨⟨some 11, false, none, iLoad (.t 10)⟩, [10], false, 0, 0, none, []⟩,
 ⟨⟨some 12, false, none, iMov (.t 4)⟩, [4], false, 0, 0, none, []⟩,
 ⟨⟨some 13, false, none, iIaddrA 1 5 (.t 1) (.t 12)⟩, [1, 12], false, 0, 0, none, []⟩,
 ⟨⟨some 14, false, none, iLoad (.t 13)⟩, [13], false, 0, 0, none, []⟩,
 ⟨⟨some 15, false, none, iShift .shl (.t 14) (.c (.int .u64 (.lit 1)))⟩, [14], false, 0, 0, none, []⟩,
 ⟨⟨some 16, false, none, iMov (.t 4)⟩, [4], false, 0, 0, none, []⟩,
 ⟨⟨some 17, false, none, iIaddrA 1 5 (.t 1) (.t 16)⟩, [1, 16], false, 0, 0, none, []⟩,
 ⟨⟨some 18, false, none, iLoad (.t 17)⟩, [17], false, 0, 0, none, []⟩,
 ⟨⟨some 19, false, none, iShift .shr (.t 18) (.c (.int .u64 (.lit 1)))⟩, [18], false, 0, 0, none, []⟩,
 ⟨⟨some 20, false, none, iArith .or (.t 15) (.t 19)⟩, [15, 19], false, 0, 0, none, []⟩,
 ⟨⟨some 21, false, none, iArith .or (.t 11) (.t 20)⟩, [11, 20], false, 0, 0, none, []⟩,
 ⟨⟨some 22, false, none, iIaddrA 1 5 (.t 3) (.t 9)⟩, [3, 9], false, 0, 0, none, []⟩,
 ⟨⟨none, false, none, iStore 1 (.t 22) (.t 21)⟩, [22, 21], true, 0, 0, none, []⟩])
 (cSeq (cSeq (cOps [⟨some 23, false, none, iMov (.t 4)⟩,
 ⟨some 24, true, none, iCmp .gtr (.t 23) (.c (.int .i64 (.lit 0)))⟩])
 (cCond (.t 24) (dOps 0 [⟨⟨some 25, false, none, iMov (.t 4)⟩, [4], false, 0, 0, none, []⟩,
 ⟨⟨some 26, false, none, iIaddrA 1 5 (.t 3) (.t 25)⟩, [3, 25], false, 0, 0, none, []⟩,
 ⟨⟨some 27, false, none, iLoad (.t 26)⟩, [26], false, 0, 0, none, []⟩,
 ⟨⟨some 28, false, none, iMov (.t 4)⟩, [4], false, 0, 0, none, []⟩,
 ⟨⟨some 29, false, none, iArith .sub (.t 28) (.c (.int .i64 (.lit 1)))⟩, [28], false, 0, 0, none, []⟩,
 ⟨⟨some 30, false, none, iIaddrA 1 5 (.t 1) (.t 29)⟩, [1, 29], false, 0, 0, none, []⟩,
 ⟨⟨some 31, false, none, iLoad (.t 30)⟩, [30], false, 0, 0, none, []⟩,
 ⟨⟨some 32, false, none, iArith .or (.t 27) (.t 31)⟩, [27, 31], false, 0, 0, none, []⟩,
 ⟨⟨some 33, false, none, iIaddrA 1 5 (.t 3) (.t 25)⟩, [3, 25], false, 0, 0, none, []⟩,
 ⟨⟨none, false, none, iStore 1 (.t 33) (.t 32)⟩, [33, 32], true, 0, 0, none, []⟩]) cSkip))
 (cSeq (cOps [⟨some 34, false, none, iMov (.t 4)⟩,
 ⟨some 35, false, none, iArith .add (.t 34) (.c (.int .i64 (.lit 1)))⟩,
 ⟨some 36, true, none, iCmp .lss (.t 35) (.c (.int .i64 (.lit 5)))⟩])
 (cCond (.t 36) (dOps 0 [⟨⟨some 37, false, none, iMov (.t 4)⟩, [4], false, 0, 0, none, []⟩,
 ⟨⟨some 38, false, none, iIaddrA 1 5 (.t 3) (.t 37)⟩, [3, 37], false, 0, 0, none, []⟩,
 ⟨⟨some 39, false, none, iLoad (.t 38)⟩, [38], false, 0, 0, none, []⟩,
 ⟨⟨some 40, false, none, iMov (.t 4)⟩, [4], false, 0, 0, none, []⟩,
 ⟨⟨some 41, false, none, iArith .add (.t 40) (.c (.int .i64 (.lit 1)))⟩, [40], false, 0, 0, none, []⟩,
 ⟨⟨some 42, false, none, iIaddrA 1 5 (.t 1) (.t 41)⟩, [1, 41], false, 0, 0, none, []⟩,
 ⟨⟨some 43, false, none, iLoad (.t 42)⟩, [42], false, 0, 0, none, []⟩,
 ⟨⟨some 44, false, none, iArith .or (.t 39) (.t 43)⟩, [39, 43], false, 0, 0, none, []⟩,
 ⟨⟨some 45, false, none, iIaddrA 1 5 (.t 3) (.t 37)⟩, [3, 37], false, 0, 0, none, []⟩,
 ⟨⟨none, false, none, iStore 1 (.t 45) (.t 44)⟩, [45, 44], true, 0, 0, none, []⟩]) cSkip))))))
 (cOps [⟨some 46, false, none, iArith .add (.t 6) (.c (.int .i64 (.lit 1)))⟩,
 ⟨some 6, true, none, iMov (.t 46)⟩])))))))
 (cSeq (cOps [⟨some 47, false, none, iLoadN 5 (.t 3)⟩,
 ⟨none, false, none, iStore 5 (.t 2) (.t 47)⟩])
 cRet)))), [.cell 2 true 5]⟩
noncomputable def Tryd.kp44 : List Nat := [0, 1, 2, 3, 4, 5, 6, 7]
noncomputable def Tryd.cf44 : CF := ⟨2, (cSeq (cOps [⟨some 2, true, none, iBox 55 (.t 0)⟩,
 ⟨some 3, true, none, iBox 55 (.t 1)⟩,
 ⟨some 4, true, none, iAlloc 55 [(.int .i64 (.lit 0)), (.int .i64 (.lit 0)), (.int .i64 (.lit 0)), (.int .i64 (.lit 0)), (.int .i64 (.lit 0))]⟩])
 (cSeq (cSeq (cOps [⟨some 6, true, none, iMov (.c (.int .i64 (.lit 0)))⟩])
 (cBlock 0 (cLoop (cSeq (cOps [⟨some 7, true, none, iCmp .lss (.t 6) (.c (.int .i64 (.lit 5)))⟩])
 (cSeq (cCond (.t 7) cSkip (cExit 0))
 (cSeq (cBlock 1 (cSeq (cOps [⟨some 8, false, none, iMov (.t 6)⟩,
 ⟨some 5, true, none, iMov (.t 8)⟩])
 (dOps 0 [⟨⟨some 9, false, none, iMov (.t 5)⟩, [5], false, 0, 0, none, []⟩,
 ⟨⟨some 10, false, none, iIaddrA 1 5 (.t 2) (.t 9)⟩, [2, 9], false, 0, 0, none, []⟩,
 ⟨⟨some 11, false, none, iLoad (.t 10)⟩, [10], false, 0, 0, none, []⟩,
 ⟨⟨some 12, false, none, iMov (.t 5)⟩, [5], false, 0, 0, none, []⟩,
 ⟨⟨some 13, false, none, iIaddrA 1 5 (.t 3) (.t 12)⟩, [3, 12], false, 0, 0, none, []⟩,
 ⟨⟨some 14, false, none, iLoad (.t 13)⟩, [13], false, 0, 0, none, []⟩,
 ⟨⟨some 15, false, none, iArith .or (.t 11) (.t 14)⟩, [11, 14], false, 0, 0, none, []⟩,
 ⟨⟨some 16, false, none, iIaddrA 1 5 (.t 2) (.t 9)⟩, [2, 9], false, 0, 0, none, []⟩,
 ⟨⟨none, false, none, iStore 1 (.t 16) (.t 15)⟩, [16, 15], true, 0, 0, none, []⟩])))
 (cOps [⟨some 17, false, none, iArith .add (.t 6) (.c (.int .i64 (.lit 1)))⟩,
 ⟨some 6, true, none, iMov (.t 17)⟩])))))))
 (cSeq (cOps [⟨some 18, false, none, iLoadN 5 (.t 2)⟩,
 ⟨none, false, none, iStore 5 (.t 4) (.t 18)⟩])
 cRet))), [.cell 4 true 5]⟩
noncomputable def Tryd.kp45 : List Nat := [0, 2, 3, 4, 5, 6, 7, 9, 10, 15]
noncomputable def Tryd.cf45 : CF := ⟨1, (cSeq (cOps [⟨some 2, true, none, iAlloc 55 [(.int .i64 (.lit 0)), (.int .i64 (.lit 0)), (.int .i64 (.lit 0)), (.int .i64 (.lit 0)), (.int .i64 (.lit 0))]⟩])
 (cSeq (cOps [⟨some 3, true, none, iAlloc 55 [(.int .i64 (.lit 0)), (.int .i64 (.lit 0)), (.int .i64 (.lit 0)), (.int .i64 (.lit 0)), (.int .i64 (.lit 0))]⟩])
 (cSeq (cSeq (cOps [⟨some 6, true, none, iMov (.c (.int .i64 (.lit 0)))⟩])
 (cBlock 0 (cLoop (cSeq (cOps [⟨some 7, true, none, iCmp .lss (.t 6) (.c (.int .i64 (.lit 5)))⟩])
 (cSeq (cCond (.t 7) cSkip (cExit 0))
 (cSeq (cBlock 1 (cSeq (cOps [⟨some 8, false, none, iMov (.t 6)⟩,
 ⟨some 4, true, none, iMov (.t 8)⟩])
 (cSeq (cOps [⟨some 9, true, none, iMov (.c (.int .i64 (.lit 0)))⟩])
 (cBlock 2 (cLoop (cSeq (cOps [⟨some 10, true, none, iCmp .lss (.t 9) (.c (.int .i64 (.lit 6)))⟩])
 (cSeq (cCond (.t 10) cSkip (cExit 2))
 (cSeq (cBlock 3 (cSeq (cOps [⟨some 11, false, none, iMov (.t 9)⟩,
 ⟨some 5, true, none, iMov (.t 11)⟩])
 (cSeq (cOps [⟨some 12, false, none, iMov (.t 0)⟩,
 ⟨some 13, false, none, iMov (.t 5)⟩,
 ⟨some 14, false, none, iMov (.t 4)⟩,
 ⟨some 15, true, none, iCall (.t 12) [(.t 13), (.t 14)]⟩])
 (cCond (.t 15) (dOps 0 [⟨⟨some 16, false, none, iMov (.t 4)⟩, [4], false, 0, 0, none, []⟩,
 ⟨⟨some 17, false, none, iIaddrA 1 5 (.t 3) (.t 16)⟩, [3, 16], false, 0, 0, none, []⟩,
 ⟨⟨some 18, false, none, iLoad (.t 17)⟩, [17], false, 0, 0, none, []⟩,
 ⟨⟨some 19, false, none, iMov (.t 5)⟩, [5], false, 0, 0, none, []⟩,
 ⟨⟨some 20, false, none, iShift .shl (.c (.int .i64 (.lit 1))) (.t 19)⟩, [19], false, 0, 0, none, []⟩,
 ⟨⟨some 21, false, none, iArith .or (.t 18) (.t 20)⟩, [18, 20], false, 0, 0, none, []⟩,
 ⟨⟨some 22, false, none, iIaddrA 1 5 (.t 3) (.t 16)⟩, [3, 16], false, 0, 0, none, []⟩,
 ⟨⟨none, false, none, iStore 1 (.t 22) (.t 21)⟩, [22, 21], true, 0, 0, none, []⟩]) cSkip))))
 (cOps [⟨some 23, false, none, iArith .add (.t 9) (.c (.int .i64 (.lit 1)))⟩,
 ⟨some 9, true, none, iMov (.t 23)⟩])))))))))
 (cOps [⟨some 24, false, none, iArith .add (.t 6) (.c (.int .i64 (.lit 1)))⟩,
 ⟨some 6, true, none, iMov (.t 24)⟩])))))))
 (cSeq (cOps [⟨some 25, false, none, iLoadN 5 (.t 3)⟩,
 ⟨none, false, none, iStore 5 (.t 2) (.t 25)⟩])
 cRet)))), [.cell 2 true 5]⟩
noncomputable def Tryd.kp46 : List Nat := [0, 1, 2, 3, 6]
noncomputable def Tryd.cf46 : CF := ⟨3, (cSeq (cOps [⟨some 3, true, none, iBox 98 (.t 0)⟩,
 ⟨some 6, true, none, iMov (.c (.bool (.lit false)))⟩])
 (cSeq (cOps [⟨some 7, false, none, iMov (.t 1)⟩,
 ⟨some 8, false, none, iFaddr 0 (.t 3)⟩,
 ⟨some 9, false, none, iLoad (.t 8)⟩,
 ⟨some 10, false, none, iCmp .lss (.t 7) (.t 9)⟩,
 ⟨some 11, false, none, iMov (.t 10)⟩,
 ⟨some 12, false, some (11, true), iMov (.t 2)⟩,
 ⟨some 13, false, some (11, true), iFaddr 1 (.t 3)⟩,
 ⟨some 14, false, some (11, true), iLoad (.t 13)⟩,
 ⟨some 15, false, some (11, true), iCmp .lss (.t 12) (.t 14)⟩,
 ⟨some 16, false, none, iPick (.t 11) (.t 15) (.c (.bool (.lit false)))⟩,
 ⟨some 17, false, none, iMov (.t 16)⟩,
 ⟨some 18, false, some (17, true), iMov (.t 2)⟩,
 ⟨some 19, false, some (17, true), iFaddr 2 (.t 3)⟩,
 ⟨some 20, false, some (17, true), iIaddrA 1 5 (.t 19) (.t 18)⟩,
 ⟨some 21, false, some (17, true), iLoad (.t 20)⟩,
 ⟨some 22, false, some (17, true), iMov (.t 1)⟩,
 ⟨some 23, false, some (17, true), iShift .shr (.t 21) (.t 22)⟩,
 ⟨some 24, false, some (17, true), iArith .and (.t 23) (.c (.int .i64 (.lit 1)))⟩,
 ⟨some 25, false, some (17, true), iCmp .eql (.t 24) (.c (.int .i64 (.lit 0)))⟩,
 ⟨some 26, false, none, iPick (.t 17) (.t 25) (.c (.bool (.lit false)))⟩,
 ⟨some 6, true, none, iMov (.t 26)⟩])
 cRet)), [.t 6]⟩
noncomputable def Tryd.kp47 : List Nat := [0, 1, 2, 3, 4, 5, 6]
noncomputable def Tryd.cf47 : CF := ⟨3, (cSeq (cOps [⟨some 3, true, none, iBox 58 (.t 0)⟩,
 ⟨some 4, true, none, iBox 67 (.t 1)⟩,
 ⟨some 5, true, none, iBox 67 (.t 2)⟩,
 ⟨some 6, true, none, iMov (.c (.bool (.lit false)))⟩])
 (cSeq (dOps 0 [⟨⟨some 7, false, none, iLoadN 13 (.t 4)⟩, [4], false, 0, 0, none, []⟩,
 ⟨⟨some 8, false, none, iLoadN 13 (.t 5)⟩, [5], false, 0, 0, none, []⟩,
 ⟨⟨some 9, false, none, iCall (.c (.func (.func 23) [] [])) [(.t 7), (.t 8)]⟩, [7, 8], true, 0, 0, none, []⟩,
 ⟨⟨some 10, false, none, iMov (.t 9)⟩, [9], false, 1, 1, none, []⟩,
 ⟨⟨some 11, false, some (10, true), iLoadN 13 (.t 4)⟩, [10, 4], false, 1, 1, none, []⟩,
 ⟨⟨some 12, false, some (10, true), iLoadN 13 (.t 5)⟩, [10, 5], false, 1, 1, none, []⟩,
 ⟨⟨some 13, false, some (10, true), iCall (.c (.func (.func 24) [] [])) [(.t 11), (.t 12)]⟩, [10, 11, 12], true, 1, 0, none, []⟩,
 ⟨⟨some 14, false, some (10, true), iLoadN 12 (.t 3)⟩, [10, 3], false, 1, 2, none, []⟩,
 ⟨⟨some 15, false, some (10, true), iFaddr 0 (.t 4)⟩, [10, 4], false, 1, 2, none, []⟩,
 ⟨⟨some 16, false, some (10, true), iFaddr 0 (.t 15)⟩, [10, 15], false, 1, 2, none, []⟩,
 ⟨⟨some 17, false, some (10, true), iLoad (.t 16)⟩, [10, 16], false, 1, 2, none, []⟩,
 ⟨⟨some 18, false, some (10, true), iFaddr 0 (.t 5)⟩, [10, 5], false, 1, 2, none, []⟩,
 ⟨⟨some 19, false, some (10, true), iFaddr 0 (.t 18)⟩, [10, 18], false, 1, 2, none, []⟩,
 ⟨⟨some 20, false, some (10, true), iLoad (.t 19)⟩, [10, 19], false, 1, 2, none, []⟩,
 ⟨⟨some 21, false, some (10, true), iCall (.c (.func (.func 62) [] [])) [(.t 14), (.t 17), (.t 20)]⟩, [10, 14, 17, 20], true, 2, 0, none, []⟩,
 ⟨⟨some 22, false, some (10, true), iCmp .geq (.t 13) (.t 21)⟩, [10, 13, 21], false, 3, 3, none, []⟩,
 ⟨⟨some 23, false, none, iPick (.t 10) (.t 22) (.c (.bool (.lit false)))⟩, [10, 22], false, 3, 3, none, []⟩,
 ⟨⟨some 6, true, none, iMov (.t 23)⟩, [23], false, 3, 3, none, []⟩])
 cRet)), [.t 6]⟩
noncomputable def Tryd.kp48 : List Nat := [0, 1, 2, 4, 5, 7, 9, 13, 14, 15, 16, 28, 37]
noncomputable def Tryd.cf48 : CF := ⟨2, (cSeq (cOps [⟨some 2, true, none, iBox 58 (.t 0)⟩,
 ⟨some 4, true, none, iMov (.c (.bool (.lit false)))⟩])
 (cSeq (cOps [⟨some 10, false, none, iLoadN 12 (.t 2)⟩,
 ⟨some 11, false, none, iMov (.t 1)⟩,
 ⟨some 12, false, none, iCall (.c (.func (.func 28) [] [])) [(.t 10), (.t 11)]⟩,
 ⟨some 5, true, none, iAlloc 55 [(.int .i64 (.lit 0)), (.int .i64 (.lit 0)), (.int .i64 (.lit 0)), (.int .i64 (.lit 0)), (.int .i64 (.lit 0))]⟩,
 ⟨none, false, none, iStore 5 (.t 5) (.t 12)⟩])
 (cSeq (cSeq (cOps [⟨some 13, true, none, iMov (.t 1)⟩,
 ⟨some 14, true, none, iLenS (.t 13)⟩,
 ⟨some 15, true, none, iMov (.c (.int .i64 (.lit 0)))⟩])
 (cBlock 0 (cLoop (cSeq (cOps [⟨some 16, true, none, iCmp .lss (.t 15) (.t 14)⟩])
 (cSeq (cCond (.t 16) cSkip (cExit 0))
 (cSeq (cBlock 1 (cSeq (cOps [⟨some 17, false, none, iIaddr 13 (.t 13) (.t 15)⟩,
 ⟨some 18, false, none, iLoadN 13 (.t 17)⟩,
 ⟨some 7, true, none, iAlloc 67 [(.int .i64 (.lit 0)), (.int .i64 (.lit 0)), (.int .i64 (.lit 0)), (.bool (.lit false)), (.int .i64 (.lit 0)), (.int .i64 (.lit 0)), (.int .i64 (.lit 0)), (.int .i64 (.lit 0)), (.int .i64 (.lit 0)), (.int .i64 (.lit 0)), (.int .i64 (.lit 0)), (.int .i64 (.lit 0)), (.int .i64 (.lit 0))]⟩,
 ⟨none, false, none, iStore 13 (.t 7) (.t 18)⟩])
 (cSeq (cSeq (cOps [⟨some 19, false, none, iFaddr 0 (.t 2)⟩,
 ⟨some 20, false, none, iFaddr 3 (.t 19)⟩,
 ⟨some 21, false, none, iLoad (.t 20)⟩,
 ⟨some 22, false, none, iFaddr 0 (.t 7)⟩,
 ⟨some 23, false, none, iFaddr 0 (.t 22)⟩,
 ⟨some 24, false, none, iLoad (.t 23)⟩,
 ⟨some 25, false, none, iIaddr 5 (.t 21) (.t 24)⟩,
 ⟨some 26, false, none, iFaddr 4 (.t 25)⟩,
 ⟨some 27, false, none, iLoad (.t 26)⟩,
 ⟨some 28, true, none, iNot (.t 27)⟩])
 (cCond (.t 28) (cExit 1) cSkip))
 (cSeq (cOps [⟨some 30, false, none, iFaddr 8 (.t 7)⟩,
 ⟨some 31, false, none, iLoadN 5 (.t 30)⟩,
 ⟨some 32, false, none, iLoadN 5 (.t 5)⟩,
 ⟨some 33, false, none, iCall (.c (.func (.func 27) [] [])) [(.t 31), (.t 32)]⟩,
 ⟨some 29, false, none, iMov (.t 33)⟩,
 ⟨some 34, false, none, iExtract 0 (.t 29)⟩,
 ⟨some 35, false, none, iExtract 1 (.t 29)⟩,
 ⟨some 8, false, none, iMov (.t 34)⟩,
 ⟨some 9, true, none, iMov (.t 35)⟩])
 (cSeq (cOps [⟨some 36, false, none, iMov (.t 9)⟩,
 ⟨some 37, true, none, iNot (.t 36)⟩])
 (cCond (.t 37) (cSeq (cOps [⟨some 4, true, none, iMov (.c (.bool (.lit false)))⟩])
 cRet) cSkip))))))
 (cOps [⟨some 38, false, none, iArith .add (.t 15) (.c (.int .i64 (.lit 1)))⟩,
 ⟨some 15, true, none, iMov (.t 38)⟩])))))))
 (cSeq (cOps [⟨some 4, true, none, iMov (.c (.bool (.lit true)))⟩])
 cRet)))), [.t 4]⟩
noncomputable def Tryd.kp49 : List Nat := [0, 1, 4]
noncomputable def Tryd.cf49 : CF := ⟨2, (cSeq (cOps [⟨some 4, true, none, iMov (.c (.bool (.lit false)))⟩])
 (cSeq (cOps [⟨some 5, false, none, iMov (.t 0)⟩,
 ⟨some 6, false, none, iCall (.c (.func (.func 31) [] [])) [(.t 5)]⟩,
 ⟨some 7, false, none, iMov (.t 1)⟩,
 ⟨some 8, false, none, iCall (.c (.func (.func 31) [] [])) [(.t 7)]⟩,
 ⟨some 9, false, none, iCmp .lss (.t 6) (.t 8)⟩,
 ⟨some 4, true, none, iMov (.t 9)⟩])
 cRet)), [.t 4]⟩
noncomputable def Tryd.kp50 : List Nat := [0, 1, 2, 3, 4, 5, 6, 7, 8]
noncomputable def Tryd.cf50 : CF := ⟨2, (cSeq (cOps [⟨some 2, true, none, iBox 102 (.t 0)⟩,
 ⟨some 3, true, none, iBox 22 (.t 1)⟩,
 ⟨some 4, true, none, iMov (.c .nilslice)⟩])
 (cSeq (cOps [⟨some 5, true, none, iAlloc 71 [.nilslice]⟩])
 (cSeq (cOps [⟨some 9, false, none, iLoad (.t 3)⟩,
 ⟨some 10, false, none, iLenS (.t 9)⟩,
 ⟨some 11, false, none, iMkslice 67 [(.int .i64 (.lit 0)), (.int .i64 (.lit 0)), (.int .i64 (.lit 0)), (.bool (.lit false)), (.int .i64 (.lit 0)), (.int .i64 (.lit 0)), (.int .i64 (.lit 0)), (.int .i64 (.lit 0)), (.int .i64 (.lit 0)), (.int .i64 (.lit 0)), (.int .i64 (.lit 0)), (.int .i64 (.lit 0)), (.int .i64 (.lit 0))] 104 (.t 10) (.t 10)⟩,
 ⟨some 6, true, none, iAlloc 71 [.nilslice]⟩,
 ⟨none, false, none, iStore 1 (.t 6) (.t 11)⟩])
 (cSeq (cOps [⟨some 12, false, none, iFaddr 0 (.t 2)⟩,
 ⟨some 13, false, none, iLoadN 12 (.t 12)⟩,
 ⟨some 14, false, none, iLoad (.t 3)⟩,
 ⟨some 15, false, none, iCall (.c (.func (.func 63) [] [])) [(.t 13), (.t 14)]⟩,
 ⟨some 7, true, none, iAlloc 119 [.nilslice]⟩,
 ⟨none, false, none, iStore 1 (.t 7) (.t 15)⟩])
 (cSeq (cOps [⟨some 8, true, none, iAlloc 121 [.nilFunc]⟩])
 (cSeq (cOps [⟨some 16, false, none, iFunc (.func 64) [] [(.t 3), (.t 6), (.t 5), (.t 7), (.t 2), (.t 8)]⟩,
 ⟨none, false, none, iStore 1 (.t 8) (.t 16)⟩])
 (cSeq (cOps [⟨some 17, false, none, iLoad (.t 8)⟩,
 ⟨some 18, false, none, iCall (.t 17) [(.c (.int .i64 (.lit 0)))]⟩])
 (cSeq (cOps [⟨some 19, false, none, iLoad (.t 5)⟩,
 ⟨some 4, true, none, iMov (.t 19)⟩])
 cRet)))))))), [.t 4]⟩
noncomputable def Tryd.kp51 : List Nat := [0, 2, 3, 4, 5, 6, 12]
noncomputable def Tryd.cf51 : CF := ⟨1, (cSeq (cOps [⟨some 2, true, none, iMov (.c .nilslice)⟩])
 (cSeq (cOps [⟨some 3, true, none, iMov (.c .nilslice)⟩])
 (cSeq (cSeq (cOps [⟨some 5, true, none, iMov (.c (.int .i64 (.lit 0)))⟩])
 (cBlock 0 (cLoop (cSeq (cOps [⟨some 6, true, none, iCmp .lss (.t 5) (.c (.int .i64 (.lit 4)))⟩])
 (cSeq (cCond (.t 6) cSkip (cExit 0))
 (cSeq (cBlock 1 (cSeq (cOps [⟨some 7, false, none, iMov (.t 5)⟩,
 ⟨some 4, true, none, iMov (.t 7)⟩])
 (cSeq (cOps [⟨some 8, false, none, iMov (.t 0)⟩,
 ⟨some 9, false, none, iMov (.t 4)⟩,
 ⟨some 10, false, none, iShift .shr (.t 8) (.t 9)⟩,
 ⟨some 11, false, none, iArith .and (.t 10) (.c (.int .i64 (.lit 1)))⟩,
 ⟨some 12, true, none, iCmp .eql (.t 11) (.c (.int .i64 (.lit 1)))⟩])
 (cCond (.t 12) (cOps [⟨some 13, false, none, iMov (.t 3)⟩,
 ⟨some 14, false, none, iMov (.t 4)⟩,
 ⟨some 15, false, none, iBslice 3 [(.int .i64 (.lit 0))] 1 [(0, 1, (.t 14))]⟩,
 ⟨some 16, false, none, iAppend 3 1 8 (.t 13) (.t 15)⟩,
 ⟨some 3, true, none, iMov (.t 16)⟩]) cSkip))))
 (cOps [⟨some 17, false, none, iArith .add (.t 5) (.c (.int .i64 (.lit 1)))⟩,
 ⟨some 5, true, none, iMov (.t 17)⟩])))))))
 (cSeq (cOps [⟨some 18, false, none, iMov (.t 3)⟩,
 ⟨some 2, true, none, iMov (.t 18)⟩])
 cRet)))), [.t 2]⟩
noncomputable def Tryd.kp52 : List Nat := [0, 2, 4]
noncomputable def Tryd.cf52 : CF := ⟨1, (cSeq (cOps [⟨some 2, true, none, iMov (.c .nilslice)⟩])
 (cSeq (cSeq (cOps [⟨some 3, false, none, iMov (.t 0)⟩,
 ⟨some 4, true, none, iEq false false 1 [(0, .nilS)] (.t 3) (.c .nilslice)⟩])
 (cCond (.t 4) (cSeq (cOps [⟨some 2, true, none, iMov (.c .nilslice)⟩])
 cRet) cSkip))
 (cSeq (cOps [⟨some 5, false, none, iBslice 35 [(.int .i64 (.lit 0)), (.int .i64 (.lit 0)), (.bool (.lit false))] 0 []⟩,
 ⟨some 6, false, none, iMov (.t 0)⟩,
 ⟨some 7, false, none, iAppend 35 3 24 (.t 5) (.t 6)⟩,
 ⟨some 2, true, none, iMov (.t 7)⟩])
 cRet))), [.t 2]⟩
noncomputable def Tryd.kp53 : List Nat := [0, 1, 2, 3, 4]
noncomputable def Tryd.cf53 : CF := ⟨2, (cSeq (cOps [⟨some 2, true, none, iBox 58 (.t 0)⟩,
 ⟨some 3, true, none, iBox 3 (.t 1)⟩,
 ⟨some 4, true, none, iMov (.c .nilFunc)⟩])
 (cSeq (cOps [⟨some 5, false, none, iFunc (.func 66) [] [(.t 2), (.t 3)]⟩,
 ⟨some 4, true, none, iMov (.t 5)⟩])
 cRet)), [.t 4]⟩
noncomputable def Tryd.kp54 : List Nat := [0, 1, 4]
noncomputable def Tryd.cf54 : CF := ⟨2, (cSeq (cOps [⟨some 4, true, none, iMov (.c (.bool (.lit false)))⟩])
 (cSeq (cOps [⟨some 4, true, none, iMov (.c (.bool (.lit false)))⟩])
 cRet)), [.t 4]⟩
noncomputable def Tryd.kp55 : List Nat := [0, 1, 4]
noncomputable def Tryd.cf55 : CF := ⟨2, (cSeq (cOps [⟨some 4, true, none, iMov (.c (.bool (.lit false)))⟩])
 (cSeq (cOps [⟨some 5, false, none, iMov (.t 0)⟩,
 ⟨some 6, false, none, iLenS (.t 5)⟩,
 ⟨some 7, false, none, iMov (.t 1)⟩,
 ⟨some 8, false, none, iLenS (.t 7)⟩,
 ⟨some 9, false, none, iCmp .gtr (.t 6) (.t 8)⟩,
 ⟨some 10, false, none, iMov (.t 9)⟩,
 ⟨some 11, false, some (10, false), iMov (.t 0)⟩,
 ⟨some 12, false, some (10, false), iLenS (.t 11)⟩,
 ⟨some 13, false, some (10, false), iMov (.t 1)⟩,
 ⟨some 14, false, some (10, false), iLenS (.t 13)⟩,
 ⟨some 15, false, some (10, false), iCmp .eql (.t 12) (.t 14)⟩,
 ⟨some 16, false, some (10, false), iMov (.t 15)⟩,
 ⟨some 17, false, some (16, true), iMov (.t 0)⟩,
 ⟨some 18, false, some (16, true), iMov (.t 1)⟩,
 ⟨some 19, false, some (16, true), iCall (.c (.func (.func 67) [] [])) [(.t 17), (.t 18)]⟩,
 ⟨some 20, false, some (16, true), iCmp .lss (.t 19) (.c (.int .i64 (.lit 0)))⟩,
 ⟨some 21, false, some (10, false), iPick (.t 16) (.t 20) (.c (.bool (.lit false)))⟩,
 ⟨some 22, false, none, iPick (.t 10) (.c (.bool (.lit true))) (.t 21)⟩,
 ⟨some 4, true, none, iMov (.t 22)⟩])
 cRet)), [.t 4]⟩
noncomputable def Tryd.kp56 : List Nat := [0, 1, 3, 4]
noncomputable def Tryd.cf56 : CF := ⟨2, (cSeq (cOps [⟨some 3, true, none, iBox 112 (.t 1)⟩,
 ⟨some 4, true, none, iMov (.c (.bool (.lit false)))⟩])
 (cSeq (cOps [⟨some 5, false, none, iFaddr 0 (.t 3)⟩,
 ⟨some 6, false, none, iLoad (.t 5)⟩,
 ⟨some 7, false, none, iMov (.t 0)⟩,
 ⟨some 8, false, none, iCmp .leq (.t 6) (.t 7)⟩,
 ⟨some 9, false, none, iMov (.t 8)⟩,
 ⟨some 10, false, some (9, true), iMov (.t 0)⟩,
 ⟨some 11, false, some (9, true), iFaddr 1 (.t 3)⟩,
 ⟨some 12, false, some (9, true), iLoad (.t 11)⟩,
 ⟨some 13, false, some (9, true), iCmp .leq (.t 10) (.t 12)⟩,
 ⟨some 14, false, none, iPick (.t 9) (.t 13) (.c (.bool (.lit false)))⟩,
 ⟨some 4, true, none, iMov (.t 14)⟩])
 cRet)), [.t 4]⟩
noncomputable def Tryd.kp57 : List Nat := [0, 1, 2, 3, 4, 11, 12, 13, 21]
noncomputable def Tryd.cf57 : CF := ⟨1, (cSeq (cOps [⟨some 1, true, none, iBox 30 (.t 0)⟩,
 ⟨some 2, true, none, iMov (.c (.bool (.lit false)))⟩])
 (cSeq (cSeq (cOps [⟨some 5, false, none, iFaddr 0 (.t 1)⟩,
 ⟨some 6, false, none, iLoad (.t 5)⟩,
 ⟨some 7, false, none, iFaddr 1 (.t 1)⟩,
 ⟨some 8, false, none, iLoad (.t 7)⟩,
 ⟨some 9, false, none, iFaddr 2 (.t 1)⟩,
 ⟨some 10, false, none, iLoad (.t 9)⟩,
 ⟨some 11, true, none, iBuild [(.int .i64 (.lit 0)), (.int .i64 (.lit 0)), (.int .i64 (.lit 0))] [(0, 1, (.t 6)), (1, 1, (.t 8)), (2, 1, (.t 10))]⟩,
 ⟨some 12, true, none, iMov (.c (.int .i64 (.lit 0)))⟩])
 (cBlock 0 (cLoop (cSeq (cOps [⟨some 13, true, none, iCmp .lss (.t 12) (.c (.int .i64 (.lit 3)))⟩])
 (cSeq (cCond (.t 13) cSkip (cExit 0))
 (cSeq (cBlock 1 (cSeq (cOps [⟨some 14, false, none, iMov (.t 12)⟩,
 ⟨some 15, false, none, iIndex false 1 3 (.t 11) (.t 12)⟩,
 ⟨some 3, true, none, iMov (.t 14)⟩,
 ⟨some 4, true, none, iMov (.t 15)⟩])
 (cSeq (cOps [⟨some 16, false, none, iMov (.t 4)⟩,
 ⟨some 17, false, none, iMov (.t 3)⟩,
 ⟨some 18, false, none, iIaddrA 2 3 (.c (.ptr 1 0)) (.t 17)⟩,
 ⟨some 19, false, none, iLoadN 2 (.t 18)⟩,
 ⟨some 20, false, none, iCall (.c (.func (.func 56) [] [])) [(.t 16), (.t 19)]⟩,
 ⟨some 21, true, none, iNot (.t 20)⟩])
 (cCond (.t 21) (cSeq (cOps [⟨some 2, true, none, iMov (.c (.bool (.lit false)))⟩])
 cRet) cSkip))))
 (cOps [⟨some 22, false, none, iArith .add (.t 12) (.c (.int .i64 (.lit 1)))⟩,
 ⟨some 12, true, none, iMov (.t 22)⟩])))))))
 (cSeq (cOps [⟨some 2, true, none, iMov (.c (.bool (.lit true)))⟩])
 cRet))), [.t 2]⟩
noncomputable def Tryd.kp58 : List Nat := [0, 1, 2, 4, 10, 12, 13, 14, 15, 26]
noncomputable def Tryd.cf58 : CF := ⟨1, (cSeq (cOps [⟨some 1, true, none, iBox 26 (.t 0)⟩,
 ⟨some 2, true, none, iMov (.c (.bool (.lit false)))⟩])
 (cSeq (cSeq (cOps [⟨some 5, false, none, iFaddr 2 (.t 1)⟩,
 ⟨some 6, false, none, iLoad (.t 5)⟩,
 ⟨some 7, false, none, iLenS (.t 6)⟩,
 ⟨some 8, false, none, iFaddr 1 (.t 1)⟩,
 ⟨some 9, false, none, iLoad (.t 8)⟩,
 ⟨some 10, true, none, iCmp .neq (.t 7) (.t 9)⟩])
 (cCond (.t 10) (cSeq (cOps [⟨some 2, true, none, iMov (.c (.bool (.lit false)))⟩])
 cRet) cSkip))
 (cSeq (cSeq (cOps [⟨some 11, false, none, iFaddr 2 (.t 1)⟩,
 ⟨some 12, true, none, iLoad (.t 11)⟩,
 ⟨some 13, true, none, iLenS (.t 12)⟩,
 ⟨some 14, true, none, iMov (.c (.int .i64 (.lit 0)))⟩])
 (cBlock 0 (cLoop (cSeq (cOps [⟨some 15, true, none, iCmp .lss (.t 14) (.t 13)⟩])
 (cSeq (cCond (.t 15) cSkip (cExit 0))
 (cSeq (cBlock 1 (cSeq (cOps [⟨some 16, false, none, iIaddr 1 (.t 12) (.t 14)⟩,
 ⟨some 17, false, none, iLoad (.t 16)⟩,
 ⟨some 4, true, none, iMov (.t 17)⟩])
 (cSeq (cOps [⟨some 18, false, none, iMov (.t 4)⟩,
 ⟨some 19, false, none, iCmp .lss (.t 18) (.c (.int .i64 (.lit 0)))⟩,
 ⟨some 20, false, none, iMov (.t 19)⟩,
 ⟨some 21, false, some (20, false), iMov (.t 4)⟩,
 ⟨some 22, false, some (20, false), iFaddr 0 (.t 1)⟩,
 ⟨some 23, false, some (20, false), iLoad (.t 22)⟩,
 ⟨some 24, false, some (20, false), iShift .shl (.c (.int .i64 (.lit 1))) (.t 23)⟩,
 ⟨some 25, false, some (20, false), iCmp .geq (.t 21) (.t 24)⟩,
 ⟨some 26, true, none, iPick (.t 20) (.c (.bool (.lit true))) (.t 25)⟩])
 (cCond (.t 26) (cSeq (cOps [⟨some 2, true, none, iMov (.c (.bool (.lit false)))⟩])
 cRet) cSkip))))
 (cOps [⟨some 27, false, none, iArith .add (.t 14) (.c (.int .i64 (.lit 1)))⟩,
 ⟨some 14, true, none, iMov (.t 27)⟩])))))))
 (cSeq (cOps [⟨some 2, true, none, iMov (.c (.bool (.lit true)))⟩])
 cRet)))), [.t 2]⟩
noncomputable def Tryd.kp59 : List Nat := [0, 1, 4, 6, 7, 8, 9, 10, 14, 15, 16, 17, 18, 24, 26, 27, 28, 29, 33, 34, 35, 36, 54]
noncomputable def Tryd.cf59 : CF := ⟨2, (cSeq (cOps [⟨some 4, true, none, iMov (.c (.bool (.lit false)))⟩])
 (cSeq (cSeq (cOps [⟨some 11, false, none, iMov (.t 0)⟩,
 ⟨some 12, false, none, iLenS (.t 11)⟩,
 ⟨some 13, false, none, iMov (.t 1)⟩,
 ⟨some 14, true, none, iCmp .neq (.t 12) (.t 13)⟩])
 (cCond (.t 14) (cSeq (cOps [⟨some 4, true, none, iMov (.c (.bool (.lit false)))⟩])
 cRet) cSkip))
 (cSeq (cSeq (cOps [⟨some 15, true, none, iMov (.t 0)⟩,
 ⟨some 16, true, none, iLenS (.t 15)⟩,
 ⟨some 17, true, none, iMov (.c (.int .i64 (.lit 0)))⟩])
 (cBlock 0 (cLoop (cSeq (cOps [⟨some 18, true, none, iCmp .lss (.t 17) (.t 16)⟩])
 (cSeq (cCond (.t 18) cSkip (cExit 0))
 (cSeq (cBlock 1 (cSeq (cOps [⟨some 19, false, none, iIaddr 1 (.t 15) (.t 17)⟩,
 ⟨some 20, false, none, iLoad (.t 19)⟩,
 ⟨some 6, true, none, iMov (.t 20)⟩])
 (cSeq (cOps [⟨some 21, false, none, iMov (.t 6)⟩,
 ⟨some 22, false, none, iLenS (.t 21)⟩,
 ⟨some 23, false, none, iMov (.t 1)⟩,
 ⟨some 24, true, none, iCmp .neq (.t 22) (.t 23)⟩])
 (cCond (.t 24) (cSeq (cOps [⟨some 4, true, none, iMov (.c (.bool (.lit false)))⟩])
 cRet) cSkip))))
 (cOps [⟨some 25, false, none, iArith .add (.t 17) (.c (.int .i64 (.lit 1)))⟩,
 ⟨some 17, true, none, iMov (.t 25)⟩])))))))
 (cSeq (cSeq (cOps [⟨some 26, true, none, iMov (.t 0)⟩,
 ⟨some 27, true, none, iLenS (.t 26)⟩,
 ⟨some 28, true, none, iMov (.c (.int .i64 (.lit 0)))⟩])
 (cBlock 2 (cLoop (cSeq (cOps [⟨some 29, true, none, iCmp .lss (.t 28) (.t 27)⟩])
 (cSeq (cCond (.t 29) cSkip (cExit 2))
 (cSeq (cBlock 3 (cSeq (cOps [⟨some 30, false, none, iMov (.t 28)⟩,
 ⟨some 31, false, none, iIaddr 1 (.t 26) (.t 28)⟩,
 ⟨some 32, false, none, iLoad (.t 31)⟩,
 ⟨some 7, true, none, iMov (.t 30)⟩,
 ⟨some 8, true, none, iMov (.t 32)⟩])
 (cSeq (cOps [⟨some 33, true, none, iMov (.t 8)⟩,
 ⟨some 34, true, none, iLenS (.t 33)⟩,
 ⟨some 35, true, none, iMov (.c (.int .i64 (.lit 0)))⟩])
 (cBlock 4 (cLoop (cSeq (cOps [⟨some 36, true, none, iCmp .lss (.t 35) (.t 34)⟩])
 (cSeq (cCond (.t 36) cSkip (cExit 4))
 (cSeq (cBlock 5 (cSeq (cOps [⟨some 37, false, none, iMov (.t 35)⟩,
 ⟨some 38, false, none, iIaddr 1 (.t 33) (.t 35)⟩,
 ⟨some 39, false, none, iLoad (.t 38)⟩,
 ⟨some 9, true, none, iMov (.t 37)⟩,
 ⟨some 10, true, none, iMov (.t 39)⟩])
 (cSeq (cOps [⟨some 40, false, none, iMov (.t 10)⟩,
 ⟨some 41, false, none, iBuild [(.int .i64 (.lit 0)), (.int .i64 (.lit 0))] [(0, 1, (.c (.int .i64 (.lit 0)))), (1, 1, (.c (.int .i64 (.lit 6))))]⟩,
 ⟨some 42, false, none, iCall (.c (.func (.func 56) [] [])) [(.t 40), (.t 41)]⟩,
 ⟨some 43, false, none, iNot (.t 42)⟩,
 ⟨some 44, false, none, iMov (.t 43)⟩,
 ⟨some 45, false, some (44, false), iMov (.t 10)⟩,
 ⟨some 46, false, some (44, false), iMov (.t 0)⟩,
 ⟨some 47, false, some (44, false), iMov (.t 9)⟩,
 ⟨some 48, false, some (44, false), iIaddr 1 (.t 46) (.t 47)⟩,
 ⟨some 49, false, some (44, false), iLoad (.t 48)⟩,
 ⟨some 50, false, some (44, false), iMov (.t 7)⟩,
 ⟨some 51, false, some (44, false), iIaddr 1 (.t 49) (.t 50)⟩,
 ⟨some 52, false, some (44, false), iLoad (.t 51)⟩,
 ⟨some 53, false, some (44, false), iCmp .neq (.t 45) (.t 52)⟩,
 ⟨some 54, true, none, iPick (.t 44) (.c (.bool (.lit true))) (.t 53)⟩])
 (cCond (.t 54) (cSeq (cOps [⟨some 4, true, none, iMov (.c (.bool (.lit false)))⟩])
 cRet) cSkip))))
 (cOps [⟨some 55, false, none, iArith .add (.t 35) (.c (.int .i64 (.lit 1)))⟩,
 ⟨some 35, true, none, iMov (.t 55)⟩])))))))))
 (cOps [⟨some 56, false, none, iArith .add (.t 28) (.c (.int .i64 (.lit 1)))⟩,
 ⟨some 28, true, none, iMov (.t 56)⟩])))))))
 (cSeq (cOps [⟨some 4, true, none, iMov (.c (.bool (.lit true)))⟩])
 cRet))))), [.t 4]⟩
noncomputable def Tryd.kp60 : List Nat := [0, 1, 3, 4, 7, 8, 9, 13, 14, 15, 22, 28]
noncomputable def Tryd.cf60 : CF := ⟨2, (cSeq (cOps [⟨some 5, false, none, iFaddr 0 (.t 1)⟩,
 ⟨some 6, false, none, iFaddr 0 (.t 5)⟩,
 ⟨some 7, true, none, iLoad (.t 6)⟩,
 ⟨some 8, true, none, iMov (.c (.int .i64 (.lit 0)))⟩])
 (cBlock 0 (cLoop (cSeq (cOps [⟨some 9, true, none, iCmp .lss (.t 8) (.t 7)⟩])
 (cSeq (cCond (.t 9) cSkip (cExit 0))
 (cSeq (cBlock 1 (cSeq (cOps [⟨some 10, false, none, iMov (.t 8)⟩,
 ⟨some 3, true, none, iMov (.t 10)⟩])
 (cSeq (cOps [⟨some 11, false, none, iFaddr 0 (.t 1)⟩,
 ⟨some 12, false, none, iFaddr 1 (.t 11)⟩,
 ⟨some 13, true, none, iLoad (.t 12)⟩,
 ⟨some 14, true, none, iMov (.c (.int .i64 (.lit 0)))⟩])
 (cBlock 2 (cLoop (cSeq (cOps [⟨some 15, true, none, iCmp .lss (.t 14) (.t 13)⟩])
 (cSeq (cCond (.t 15) cSkip (cExit 2))
 (cSeq (cBlock 3 (cSeq (cOps [⟨some 16, false, none, iMov (.t 14)⟩,
 ⟨some 4, true, none, iMov (.t 16)⟩])
 (cSeq (cSeq (cOps [⟨some 17, false, none, iMov (.t 0)⟩,
 ⟨some 18, false, none, iMov (.t 3)⟩,
 ⟨some 19, false, none, iMov (.t 4)⟩,
 ⟨some 20, false, none, iBuild [(.int .i64 (.lit 0)), (.int .i64 (.lit 0)), (.bool (.lit false))] [(0, 1, (.t 18)), (1, 1, (.t 19))]⟩,
 ⟨some 21, false, none, iCall (.t 17) [(.t 20)]⟩,
 ⟨some 22, true, none, iNot (.t 21)⟩])
 (cCond (.t 22) cRet cSkip))
 (cSeq (cOps [⟨some 23, false, none, iMov (.t 0)⟩,
 ⟨some 24, false, none, iMov (.t 3)⟩,
 ⟨some 25, false, none, iMov (.t 4)⟩,
 ⟨some 26, false, none, iBuild [(.int .i64 (.lit 0)), (.int .i64 (.lit 0)), (.bool (.lit false))] [(0, 1, (.t 24)), (1, 1, (.t 25)), (2, 1, (.c (.bool (.lit true))))]⟩,
 ⟨some 27, false, none, iCall (.t 23) [(.t 26)]⟩,
 ⟨some 28, true, none, iNot (.t 27)⟩])
 (cCond (.t 28) cRet cSkip)))))
 (cOps [⟨some 29, false, none, iArith .add (.t 14) (.c (.int .i64 (.lit 1)))⟩,
 ⟨some 14, true, none, iMov (.t 29)⟩])))))))))
 (cOps [⟨some 30, false, none, iArith .add (.t 8) (.c (.int .i64 (.lit 1)))⟩,
 ⟨some 8, true, none, iMov (.t 30)⟩]))))))), []⟩
noncomputable def Tryd.kp61 : List Nat := [0, 1, 2, 3, 6]
noncomputable def Tryd.cf61 : CF := ⟨3, (cSeq (cOps [⟨some 3, true, none, iBox 65 (.t 0)⟩,
 ⟨some 6, true, none, iMov (.c (.bool (.lit false)))⟩])
 (cSeq (cOps [⟨some 7, false, none, iFaddr 0 (.t 3)⟩,
 ⟨some 8, false, none, iLoad (.t 7)⟩,
 ⟨some 9, false, none, iMov (.t 1)⟩,
 ⟨some 10, false, none, iCmp .leq (.t 8) (.t 9)⟩,
 ⟨some 11, false, none, iMov (.t 10)⟩,
 ⟨some 12, false, some (11, true), iMov (.t 1)⟩,
 ⟨some 13, false, some (11, true), iFaddr 0 (.t 3)⟩,
 ⟨some 14, false, some (11, true), iLoad (.t 13)⟩,
 ⟨some 15, false, some (11, true), iFaddr 2 (.t 3)⟩,
 ⟨some 16, false, some (11, true), iLoad (.t 15)⟩,
 ⟨some 17, false, some (11, true), iArith .add (.t 14) (.t 16)⟩,
 ⟨some 18, false, some (11, true), iCmp .lss (.t 12) (.t 17)⟩,
 ⟨some 19, false, none, iPick (.t 11) (.t 18) (.c (.bool (.lit false)))⟩,
 ⟨some 20, false, none, iMov (.t 19)⟩,
 ⟨some 21, false, some (20, true), iFaddr 1 (.t 3)⟩,
 ⟨some 22, false, some (20, true), iLoad (.t 21)⟩,
 ⟨some 23, false, some (20, true), iMov (.t 2)⟩,
 ⟨some 24, false, some (20, true), iCmp .leq (.t 22) (.t 23)⟩,
 ⟨some 25, false, none, iPick (.t 20) (.t 24) (.c (.bool (.lit false)))⟩,
 ⟨some 26, false, none, iMov (.t 25)⟩,
 ⟨some 27, false, some (26, true), iMov (.t 2)⟩,
 ⟨some 28, false, some (26, true), iFaddr 1 (.t 3)⟩,
 ⟨some 29, false, some (26, true), iLoad (.t 28)⟩,
 ⟨some 30, false, some (26, true), iFaddr 3 (.t 3)⟩,
 ⟨some 31, false, some (26, true), iLoad (.t 30)⟩,
 ⟨some 32, false, some (26, true), iArith .add (.t 29) (.t 31)⟩,
 ⟨some 33, false, some (26, true), iCmp .lss (.t 27) (.t 32)⟩,
 ⟨some 34, false, none, iPick (.t 26) (.t 33) (.c (.bool (.lit false)))⟩,
 ⟨some 6, true, none, iMov (.t 34)⟩])
 cRet)), [.t 6]⟩
noncomputable def Tryd.kp62 : List Nat := [0, 1, 2, 3, 6]
noncomputable def Tryd.cf62 : CF := ⟨3, (cSeq (cOps [⟨some 3, true, none, iBox 58 (.t 0)⟩,
 ⟨some 6, true, none, iMov (.c (.int .i64 (.lit 0)))⟩])
 (cSeq (dOps 0 [⟨⟨some 7, false, none, iFaddr 0 (.t 3)⟩, [3], false, 0, 1, none, []⟩,
 ⟨⟨some 8, false, none, iFaddr 3 (.t 7)⟩, [7], false, 0, 1, none, []⟩,
 ⟨⟨some 9, false, none, iLoad (.t 8)⟩, [8], false, 0, 1, none, []⟩,
 ⟨⟨some 10, false, none, iMov (.t 1)⟩, [1], false, 0, 1, none, []⟩,
 ⟨⟨some 11, false, none, iIaddr 5 (.t 9) (.t 10)⟩, [9, 10], false, 0, 1, none, []⟩,
 ⟨⟨some 12, false, none, iFaddr 2 (.t 11)⟩, [11], false, 0, 1, none, []⟩,
 ⟨⟨some 13, false, none, iLoad (.t 12)⟩, [12], false, 0, 1, none, []⟩,
 ⟨⟨some 14, false, none, iFaddr 0 (.t 3)⟩, [3], false, 0, 1, none, []⟩,
 ⟨⟨some 15, false, none, iFaddr 3 (.t 14)⟩, [14], false, 0, 1, none, []⟩,
 ⟨⟨some 16, false, none, iLoad (.t 15)⟩, [15], false, 0, 1, none, []⟩,
 ⟨⟨some 17, false, none, iMov (.t 2)⟩, [2], false, 0, 1, none, []⟩,
 ⟨⟨some 18, false, none, iIaddr 5 (.t 16) (.t 17)⟩, [16, 17], false, 0, 1, none, []⟩,
 ⟨⟨some 19, false, none, iFaddr 2 (.t 18)⟩, [18], false, 0, 1, none, []⟩,
 ⟨⟨some 20, false, none, iLoad (.t 19)⟩, [19], false, 0, 1, none, []⟩,
 ⟨⟨some 21, false, none, iArith .add (.t 13) (.t 20)⟩, [13, 20], false, 0, 1, none, []⟩,
 ⟨⟨some 22, false, none, iFaddr 0 (.t 3)⟩, [3], false, 0, 0, none, []⟩,
 ⟨⟨some 23, false, none, iFaddr 4 (.t 22)⟩, [22], false, 0, 0, none, []⟩,
 ⟨⟨some 24, false, none, iLoad (.t 23)⟩, [23], false, 0, 0, none, []⟩,
 ⟨⟨some 25, false, none, iMov (.t 1)⟩, [1], false, 0, 0, none, []⟩,
 ⟨⟨some 26, false, none, iIaddr 1 (.t 24) (.t 25)⟩, [24, 25], false, 0, 0, none, []⟩,
 ⟨⟨some 27, false, none, iLoad (.t 26)⟩, [26], false, 0, 0, none, []⟩,
 ⟨⟨some 28, false, none, iMov (.t 2)⟩, [2], false, 0, 0, none, []⟩,
 ⟨⟨some 29, false, none, iIaddr 1 (.t 27) (.t 28)⟩, [27, 28], false, 0, 0, none, []⟩,
 ⟨⟨some 30, false, none, iLoad (.t 29)⟩, [29], false, 0, 0, none, []⟩,
 ⟨⟨some 31, false, none, iBslice 3 [(.int .i64 (.lit 0))] 1 [(0, 1, (.t 30))]⟩, [30], true, 0, 0, none, []⟩,
 ⟨⟨some 32, false, none, iCall (.c (.func (.func 42) [] [])) [(.t 21), (.t 31)]⟩, [21, 31], true, 1, 0, none, []⟩,
 ⟨⟨some 6, true, none, iMov (.t 32)⟩, [32], false, 2, 2, none, []⟩])
 cRet)), [.t 6]⟩
noncomputable def Tryd.kp63 : List Nat := [0, 1, 2, 4, 5, 6, 7, 8, 17, 18, 19, 20]
noncomputable def Tryd.cf63 : CF := ⟨2, (cSeq (cOps [⟨some 2, true, none, iBox 58 (.t 0)⟩,
 ⟨some 4, true, none, iMov (.c .nilslice)⟩])
 (cSeq (cOps [⟨some 9, false, none, iMov (.t 1)⟩,
 ⟨some 10, false, none, iCall (.c (.func (.func 68) [] [])) [(.t 9)]⟩,
 ⟨some 5, true, none, iMov (.t 10)⟩])
 (cSeq (cOps [⟨some 11, false, none, iMov (.t 5)⟩,
 ⟨some 12, false, none, iFunc (.func 70) [] [(.t 2)]⟩,
 ⟨some 13, false, none, iCall (.c (.func (.func 69) [] [])) [(.t 11), (.t 12)]⟩])
 (cSeq (cOps [⟨some 14, false, none, iMov (.t 5)⟩,
 ⟨some 15, false, none, iLenS (.t 14)⟩,
 ⟨some 16, false, none, iMkslice 71 [.nilslice] 24 (.t 15) (.t 15)⟩,
 ⟨some 6, true, none, iMov (.t 16)⟩])
 (cSeq (cSeq (cOps [⟨some 17, true, none, iMov (.t 5)⟩,
 ⟨some 18, true, none, iLenS (.t 17)⟩,
 ⟨some 19, true, none, iMov (.c (.int .i64 (.lit 0)))⟩])
 (cBlock 0 (cLoop (cSeq (cOps [⟨some 20, true, none, iCmp .lss (.t 19) (.t 18)⟩])
 (cSeq (cCond (.t 20) cSkip (cExit 0))
 (cSeq (cBlock 1 (cSeq (cOps [⟨some 21, false, none, iMov (.t 19)⟩,
 ⟨some 22, false, none, iIaddr 1 (.t 17) (.t 19)⟩,
 ⟨some 23, false, none, iLoad (.t 22)⟩,
 ⟨some 7, true, none, iMov (.t 21)⟩,
 ⟨some 8, true, none, iMov (.t 23)⟩])
 (cOps [⟨some 24, false, none, iMov (.t 6)⟩,
 ⟨some 25, false, none, iMov (.t 7)⟩,
 ⟨some 26, false, none, iLoadN 12 (.t 2)⟩,
 ⟨some 27, false, none, iMov (.t 8)⟩,
 ⟨some 28, false, none, iCall (.c (.func (.func 72) [] [])) [(.t 26), (.t 27)]⟩,
 ⟨some 29, false, none, iIaddr 1 (.t 24) (.t 25)⟩,
 ⟨none, false, none, iStore 1 (.t 29) (.t 28)⟩])))
 (cOps [⟨some 30, false, none, iArith .add (.t 19) (.c (.int .i64 (.lit 1)))⟩,
 ⟨some 19, true, none, iMov (.t 30)⟩])))))))
 (cSeq (cOps [⟨some 31, false, none, iMov (.t 6)⟩,
 ⟨some 4, true, none, iMov (.t 31)⟩])
 cRet)))))), [.t 4]⟩
noncomputable def Tryd.kp64 : List Nat := [0, 1, 2, 3, 4, 5, 6, 9, 10, 12, 16, 22, 23, 24, 25, 48, 51, 52, 53, 54, 62, 67]
noncomputable def Tryd.cf64 : CF := ⟨7, (cSeq (cSeq (cOps [⟨some 13, false, none, iMov (.t 0)⟩,
 ⟨some 14, false, none, iLoad (.t 1)⟩,
 ⟨some 15, false, none, iLenS (.t 14)⟩,
 ⟨some 16, true, none, iCmp .eql (.t 13) (.t 15)⟩])
 (cCond (.t 16) (cSeq (cOps [⟨some 17, false, none, iLoad (.t 2)⟩,
 ⟨some 18, false, none, iCall (.c (.func (.func 65) [] [])) [(.t 17)]⟩,
 ⟨none, false, none, iStore 1 (.t 3) (.t 18)⟩])
 cRet) cSkip))
 (cSeq cSkip
 (cSeq (cOps [⟨some 19, false, none, iLoad (.t 4)⟩,
 ⟨some 20, false, none, iMov (.t 0)⟩,
 ⟨some 21, false, none, iIaddr 1 (.t 19) (.t 20)⟩,
 ⟨some 22, true, none, iLoad (.t 21)⟩,
 ⟨some 23, true, none, iLenS (.t 22)⟩,
 ⟨some 24, true, none, iMov (.c (.int .i64 (.lit 0)))⟩])
 (cBlock 0 (cLoop (cSeq (cOps [⟨some 25, true, none, iCmp .lss (.t 24) (.t 23)⟩])
 (cSeq (cCond (.t 25) cSkip (cExit 0))
 (cSeq (cBlock 1 (cSeq (cOps [⟨some 26, false, none, iIaddr 13 (.t 22) (.t 24)⟩,
 ⟨some 27, false, none, iLoadN 13 (.t 26)⟩,
 ⟨some 9, true, none, iAlloc 67 [(.int .i64 (.lit 0)), (.int .i64 (.lit 0)), (.int .i64 (.lit 0)), (.bool (.lit false)), (.int .i64 (.lit 0)), (.int .i64 (.lit 0)), (.int .i64 (.lit 0)), (.int .i64 (.lit 0)), (.int .i64 (.lit 0)), (.int .i64 (.lit 0)), (.int .i64 (.lit 0)), (.int .i64 (.lit 0)), (.int .i64 (.lit 0))]⟩,
 ⟨none, false, none, iStore 13 (.t 9) (.t 27)⟩])
 (cSeq (cOps [⟨some 28, false, none, iLoad (.t 2)⟩,
 ⟨some 29, false, none, iMov (.t 0)⟩,
 ⟨some 30, false, none, iLoadN 13 (.t 9)⟩,
 ⟨some 31, false, none, iIaddr 13 (.t 28) (.t 29)⟩,
 ⟨none, false, none, iStore 13 (.t 31) (.t 30)⟩])
 (cSeq (cOps [⟨some 32, false, none, iLoad (.t 2)⟩,
 ⟨some 33, false, none, iMov (.t 0)⟩,
 ⟨some 34, false, none, iArith .add (.t 33) (.c (.int .i64 (.lit 1)))⟩,
 ⟨some 35, false, none, iMov (.t 0)⟩,
 ⟨some 36, false, none, iArith .add (.t 35) (.c (.int .i64 (.lit 1)))⟩,
 ⟨some 37, false, none, iSlice 13 (.t 32) none (some (.t 34)) (some (.t 36))⟩,
 ⟨some 10, true, none, iMov (.t 37)⟩])
 (cSeq (cSeq (cOps [⟨some 38, false, none, iLoad (.t 3)⟩,
 ⟨some 39, false, none, iLenS (.t 38)⟩,
 ⟨some 40, false, none, iCmp .gtr (.t 39) (.c (.int .i64 (.lit 0)))⟩,
 ⟨some 41, false, none, iMov (.t 40)⟩,
 ⟨some 42, false, some (41, true), iFaddr 12 (.t 5)⟩,
 ⟨some 43, false, some (41, true), iLoad (.t 42)⟩,
 ⟨some 44, false, some (41, true), iMov (.t 10)⟩,
 ⟨some 45, false, some (41, true), iLoad (.t 3)⟩,
 ⟨some 46, false, some (41, true), iCall (.t 43) [(.t 44), (.t 45)]⟩,
 ⟨some 47, false, some (41, true), iNot (.t 46)⟩,
 ⟨some 48, true, none, iPick (.t 41) (.t 47) (.c (.bool (.lit false)))⟩])
 (cCond (.t 48) (cExit 1) cSkip))
 (cSeq (cSeq (cOps [⟨some 49, false, none, iLoad (.t 2)⟩,
 ⟨some 50, false, none, iMov (.t 0)⟩,
 ⟨some 51, true, none, iSlice 13 (.t 49) none (some (.t 50)) none⟩,
 ⟨some 52, true, none, iLenS (.t 51)⟩,
 ⟨some 53, true, none, iMov (.c (.int .i64 (.lit 0)))⟩])
 (cBlock 2 (cLoop (cSeq (cOps [⟨some 54, true, none, iCmp .lss (.t 53) (.t 52)⟩])
 (cSeq (cCond (.t 54) cSkip (cExit 2))
 (cSeq (cBlock 3 (cSeq (cOps [⟨some 55, false, none, iIaddr 13 (.t 51) (.t 53)⟩,
 ⟨some 56, false, none, iLoadN 13 (.t 55)⟩,
 ⟨some 12, true, none, iAlloc 67 [(.int .i64 (.lit 0)), (.int .i64 (.lit 0)), (.int .i64 (.lit 0)), (.bool (.lit false)), (.int .i64 (.lit 0)), (.int .i64 (.lit 0)), (.int .i64 (.lit 0)), (.int .i64 (.lit 0)), (.int .i64 (.lit 0)), (.int .i64 (.lit 0)), (.int .i64 (.lit 0)), (.int .i64 (.lit 0)), (.int .i64 (.lit 0))]⟩,
 ⟨none, false, none, iStore 13 (.t 12) (.t 56)⟩])
 (cSeq (cOps [⟨some 57, false, none, iFaddr 0 (.t 5)⟩,
 ⟨some 58, false, none, iLoadN 12 (.t 57)⟩,
 ⟨some 59, false, none, iLoadN 13 (.t 9)⟩,
 ⟨some 60, false, none, iLoadN 13 (.t 12)⟩,
 ⟨some 61, false, none, iCall (.c (.func (.func 47) [] [])) [(.t 58), (.t 59), (.t 60)]⟩,
 ⟨some 62, true, none, iNot (.t 61)⟩])
 (cCond (.t 62) (cExit 1) cSkip))))
 (cOps [⟨some 63, false, none, iArith .add (.t 53) (.c (.int .i64 (.lit 1)))⟩,
 ⟨some 53, true, none, iMov (.t 63)⟩])))))))
 (cSeq (cOps [⟨some 64, false, none, iFaddr 0 (.t 5)⟩,
 ⟨some 65, false, none, iLoadN 12 (.t 64)⟩,
 ⟨some 66, false, none, iMov (.t 10)⟩,
 ⟨some 67, true, none, iCall (.c (.func (.func 48) [] [])) [(.t 65), (.t 66)]⟩])
 (cCond (.t 67) (cOps [⟨some 68, false, none, iLoad (.t 6)⟩,
 ⟨some 69, false, none, iMov (.t 0)⟩,
 ⟨some 70, false, none, iArith .add (.t 69) (.c (.int .i64 (.lit 1)))⟩,
 ⟨some 71, false, none, iCall (.t 68) [(.t 70)]⟩]) cSkip))))))))
 (cOps [⟨some 72, false, none, iArith .add (.t 24) (.c (.int .i64 (.lit 1)))⟩,
 ⟨some 24, true, none, iMov (.t 72)⟩]))))))))), []⟩
noncomputable def Tryd.kp65 : List Nat := [0, 2, 4]
noncomputable def Tryd.cf65 : CF := ⟨1, (cSeq (cOps [⟨some 2, true, none, iMov (.c .nilslice)⟩])
 (cSeq (cSeq (cOps [⟨some 3, false, none, iMov (.t 0)⟩,
 ⟨some 4, true, none, iEq false false 1 [(0, .nilS)] (.t 3) (.c .nilslice)⟩])
 (cCond (.t 4) (cSeq (cOps [⟨some 2, true, none, iMov (.c .nilslice)⟩])
 cRet) cSkip))
 (cSeq (cOps [⟨some 5, false, none, iBslice 67 [(.int .i64 (.lit 0)), (.int .i64 (.lit 0)), (.int .i64 (.lit 0)), (.bool (.lit false)), (.int .i64 (.lit 0)), (.int .i64 (.lit 0)), (.int .i64 (.lit 0)), (.int .i64 (.lit 0)), (.int .i64 (.lit 0)), (.int .i64 (.lit 0)), (.int .i64 (.lit 0)), (.int .i64 (.lit 0)), (.int .i64 (.lit 0))] 0 []⟩,
 ⟨some 6, false, none, iMov (.t 0)⟩,
 ⟨some 7, false, none, iAppend 67 13 104 (.t 5) (.t 6)⟩,
 ⟨some 2, true, none, iMov (.t 7)⟩])
 cRet))), [.t 2]⟩
noncomputable def Tryd.ra66009 : C := (cOps [⟨some 4, true, none, iAlloc 35 [(.int .i64 (.lit 0)), (.int .i64 (.lit 0)), (.bool (.lit false))]⟩,
 ⟨none, false, none, iStore 3 (.t 4) (.t 9)⟩])
noncomputable def Tryd.rb66009 : C := (cBlock 1 (cSeq (cOps [⟨some 11, false, none, iFaddr 11 (.t 1)⟩,
 ⟨some 12, false, none, iLoad (.t 11)⟩,
 ⟨some 13, false, none, iLoad (.t 2)⟩,
 ⟨some 14, false, none, iLoadN 3 (.t 4)⟩,
 ⟨some 15, false, none, iBuild [(.int .i64 (.lit 0)), (.int .i64 (.lit 0)), (.int .i64 (.lit 0)), (.bool (.lit false))] [(0, 1, (.t 13)), (1, 3, (.t 14))]⟩,
 ⟨some 16, false, none, iLookup (.agg [(.int .i64 (.lit 0)), (.int .i64 (.lit 0)), (.int .i64 (.lit 0)), (.bool (.lit false)), (.int .i64 (.lit 0)), (.int .i64 (.lit 0)), (.int .i64 (.lit 0)), (.int .i64 (.lit 0)), (.int .i64 (.lit 0)), (.int .i64 (.lit 0)), (.int .i64 (.lit 0)), (.int .i64 (.lit 0)), (.int .i64 (.lit 0))]) true 4 [(0, .int), (1, .int), (2, .int), (3, .bool)] true (.t 12) (.t 15)⟩,
 ⟨some 10, false, none, iMov (.t 16)⟩,
 ⟨some 17, false, none, iExtract 0 (.t 10)⟩,
 ⟨some 18, false, none, iExtract 1 (.t 10)⟩,
 ⟨some 5, true, none, iAlloc 67 [(.int .i64 (.lit 0)), (.int .i64 (.lit 0)), (.int .i64 (.lit 0)), (.bool (.lit false)), (.int .i64 (.lit 0)), (.int .i64 (.lit 0)), (.int .i64 (.lit 0)), (.int .i64 (.lit 0)), (.int .i64 (.lit 0)), (.int .i64 (.lit 0)), (.int .i64 (.lit 0)), (.int .i64 (.lit 0)), (.int .i64 (.lit 0))]⟩,
 ⟨none, false, none, iStore 13 (.t 5) (.t 17)⟩,
 ⟨some 6, true, none, iMov (.t 18)⟩])
 (cSeq (cOps [⟨some 19, false, none, iMov (.t 6)⟩,
 ⟨some 20, false, none, iMov (.t 19)⟩,
 ⟨some 21, false, some (20, true), iLoad (.t 3)⟩,
 ⟨some 22, false, some (20, true), iLoadN 13 (.t 5)⟩,
 ⟨some 23, false, some (20, true), iCall (.t 21) [(.t 22)]⟩,
 ⟨some 24, false, some (20, true), iNot (.t 23)⟩,
 ⟨some 25, true, none, iPick (.t 20) (.t 24) (.c (.bool (.lit false)))⟩])
 (cCond (.t 25) cRet cSkip))))
noncomputable def Tryd.kp66 : List Nat := [0, 1, 2, 3, 4, 5, 6, 8, 9, 25]
noncomputable def Tryd.cf66 : CF := ⟨3, (cSeq (cOps [⟨some 3, true, none, iBox 123 (.t 0)⟩])
 (cSeq (cOps [⟨some 7, false, none, iLoadN 12 (.t 1)⟩,
 ⟨some 8, true, none, iCall (.c (.func (.func 36) [] [])) [(.t 7)]⟩])
 (cBlock 0 (cRange (.t 8) [9] 66009)))), []⟩
noncomputable def Tryd.kp67 : List Nat := [0, 1, 4, 5, 6, 7, 8, 9, 10, 11, 12, 19, 28, 35]
noncomputable def Tryd.cf67 : CF := ⟨2, (cSeq (cOps [⟨some 4, true, none, iMov (.c (.int .i64 (.lit 0)))⟩])
 (cSeq (cSeq (cOps [⟨some 9, true, none, iMov (.t 0)⟩,
 ⟨some 10, true, none, iLenS (.t 9)⟩,
 ⟨some 11, true, none, iMov (.c (.int .i64 (.lit 0)))⟩])
 (cBlock 0 (cLoop (cSeq (cOps [⟨some 12, true, none, iCmp .lss (.t 11) (.t 10)⟩])
 (cSeq (cCond (.t 12) cSkip (cExit 0))
 (cSeq (cBlock 1 (cSeq (cOps [⟨some 13, false, none, iMov (.t 11)⟩,
 ⟨some 14, false, none, iIaddr 1 (.t 9) (.t 11)⟩,
 ⟨some 15, false, none, iLoad (.t 14)⟩,
 ⟨some 5, true, none, iMov (.t 13)⟩,
 ⟨some 6, true, none, iMov (.t 15)⟩])
 (cSeq (cSeq (cOps [⟨some 16, false, none, iMov (.t 5)⟩,
 ⟨some 17, false, none, iMov (.t 1)⟩,
 ⟨some 18, false, none, iLenS (.t 17)⟩,
 ⟨some 19, true, none, iCmp .geq (.t 16) (.t 18)⟩])
 (cCond (.t 19) (cSeq (cOps [⟨some 4, true, none, iMov (.c (.int .i64 (.lit 1)))⟩])
 cRet) cSkip))
 (cSeq (cOps [⟨some 20, false, none, iMov (.t 1)⟩,
 ⟨some 21, false, none, iMov (.t 5)⟩,
 ⟨some 22, false, none, iIaddr 1 (.t 20) (.t 21)⟩,
 ⟨some 23, false, none, iLoad (.t 22)⟩,
 ⟨some 7, true, none, iMov (.t 23)⟩])
 (cSeq (cOps [⟨some 24, false, none, iMov (.t 6)⟩,
 ⟨some 25, false, none, iMov (.t 7)⟩,
 ⟨some 26, false, none, iCall (.c (.func (.func 73) [] [])) [(.t 24), (.t 25)]⟩,
 ⟨some 8, true, none, iMov (.t 26)⟩])
 (cSeq (cOps [⟨some 27, false, none, iMov (.t 8)⟩,
 ⟨some 28, true, none, iCmp .neq (.t 27) (.c (.int .i64 (.lit 0)))⟩])
 (cCond (.t 28) (cSeq (cOps [⟨some 29, false, none, iMov (.t 8)⟩,
 ⟨some 4, true, none, iMov (.t 29)⟩])
 cRet) cSkip)))))))
 (cOps [⟨some 30, false, none, iArith .add (.t 11) (.c (.int .i64 (.lit 1)))⟩,
 ⟨some 11, true, none, iMov (.t 30)⟩])))))))
 (cSeq (cSeq (cOps [⟨some 31, false, none, iMov (.t 0)⟩,
 ⟨some 32, false, none, iLenS (.t 31)⟩,
 ⟨some 33, false, none, iMov (.t 1)⟩,
 ⟨some 34, false, none, iLenS (.t 33)⟩,
 ⟨some 35, true, none, iCmp .lss (.t 32) (.t 34)⟩])
 (cCond (.t 35) (cSeq (cOps [⟨some 4, true, none, iMov (.c (.int .i64 (.lit (-1))))⟩])
 cRet) cSkip))
 (cSeq (cOps [⟨some 4, true, none, iMov (.c (.int .i64 (.lit 0)))⟩])
 cRet)))), [.t 4]⟩
noncomputable def Tryd.kp68 : List Nat := [0, 2, 4]
noncomputable def Tryd.cf68 : CF := ⟨1, (cSeq (cOps [⟨some 2, true, none, iMov (.c .nilslice)⟩])
 (cSeq (cSeq (cOps [⟨some 3, false, none, iMov (.t 0)⟩,
 ⟨some 4, true, none, iEq false false 1 [(0, .nilS)] (.t 3) (.c .nilslice)⟩])
 (cCond (.t 4) (cSeq (cOps [⟨some 2, true, none, iMov (.c .nilslice)⟩])
 cRet) cSkip))
 (cSeq (cOps [⟨some 5, false, none, iBslice 3 [(.int .i64 (.lit 0))] 0 []⟩,
 ⟨some 6, false, none, iMov (.t 0)⟩,
 ⟨some 7, false, none, iAppend 3 1 8 (.t 5) (.t 6)⟩,
 ⟨some 2, true, none, iMov (.t 7)⟩])
 cRet))), [.t 2]⟩
noncomputable def Tryd.kp69 : List Nat := [0, 1]
noncomputable def Tryd.cf69 : CF := ⟨2, (cOps [⟨some 4, false, none, iMov (.t 0)⟩,
 ⟨some 5, false, none, iMov (.t 0)⟩,
 ⟨some 6, false, none, iLenS (.t 5)⟩,
 ⟨some 7, false, none, iMov (.t 1)⟩,
 ⟨some 8, false, none, iCall (.c (.func (.func 74) [] [])) [(.t 4), (.t 6), (.t 7)]⟩]), []⟩
noncomputable def Tryd.kp70 : List Nat := [0, 1, 2, 5]
noncomputable def Tryd.cf70 : CF := ⟨3, (cSeq (cOps [⟨some 5, true, none, iMov (.c (.int .i64 (.lit 0)))⟩])
 (cSeq (dOps 0 [⟨⟨some 6, false, none, iLoadN 12 (.t 2)⟩, [2], false, 0, 0, none, []⟩,
 ⟨⟨some 7, false, none, iMov (.t 1)⟩, [1], false, 0, 0, none, []⟩,
 ⟨⟨some 8, false, none, iCall (.c (.func (.func 71) [] [])) [(.t 6), (.t 7)]⟩, [6, 7], true, 0, 0, none, []⟩,
 ⟨⟨some 9, false, none, iLoadN 12 (.t 2)⟩, [2], false, 0, 1, none, []⟩,
 ⟨⟨some 10, false, none, iMov (.t 0)⟩, [0], false, 0, 1, none, []⟩,
 ⟨⟨some 11, false, none, iCall (.c (.func (.func 71) [] [])) [(.t 9), (.t 10)]⟩, [9, 10], true, 1, 0, none, []⟩,
 ⟨⟨some 12, false, none, iArith .sub (.t 8) (.t 11)⟩, [8, 11], false, 2, 2, none, []⟩,
 ⟨⟨some 5, true, none, iMov (.t 12)⟩, [12], false, 2, 2, none, []⟩])
 cRet)), [.t 5]⟩
noncomputable def Tryd.kp71 : List Nat := [0, 1, 2, 4, 5, 6, 25, 26, 27, 31]
noncomputable def Tryd.cf71 : CF := ⟨2, (cSeq (cOps [⟨some 2, true, none, iBox 58 (.t 0)⟩,
 ⟨some 4, true, none, iMov (.c (.int .i64 (.lit 0)))⟩])
 (cSeq (dOps 0 [⟨⟨some 7, false, none, iFaddr 0 (.t 2)⟩, [2], false, 0, 0, none, []⟩,
 ⟨⟨some 8, false, none, iFaddr 3 (.t 7)⟩, [7], false, 0, 0, none, []⟩,
 ⟨⟨some 9, false, none, iLoad (.t 8)⟩, [8], false, 0, 0, none, []⟩,
 ⟨⟨some 10, false, none, iMov (.t 1)⟩, [1], false, 0, 0, none, []⟩,
 ⟨⟨some 11, false, none, iIaddr 5 (.t 9) (.t 10)⟩, [9, 10], false, 0, 0, none, []⟩,
 ⟨⟨some 12, false, none, iFaddr 0 (.t 11)⟩, [11], false, 0, 0, none, []⟩,
 ⟨⟨some 13, false, none, iLoad (.t 12)⟩, [12], false, 0, 0, none, []⟩,
 ⟨⟨some 14, false, none, iFaddr 0 (.t 2)⟩, [2], false, 0, 0, none, []⟩,
 ⟨⟨some 15, false, none, iFaddr 3 (.t 14)⟩, [14], false, 0, 0, none, []⟩,
 ⟨⟨some 16, false, none, iLoad (.t 15)⟩, [15], false, 0, 0, none, []⟩,
 ⟨⟨some 17, false, none, iMov (.t 1)⟩, [1], false, 0, 0, none, []⟩,
 ⟨⟨some 18, false, none, iIaddr 5 (.t 16) (.t 17)⟩, [16, 17], false, 0, 0, none, []⟩,
 ⟨⟨some 19, false, none, iFaddr 1 (.t 18)⟩, [18], false, 0, 0, none, []⟩,
 ⟨⟨some 20, false, none, iLoad (.t 19)⟩, [19], false, 0, 0, none, []⟩,
 ⟨⟨some 21, false, none, iArith .mul (.t 13) (.t 20)⟩, [13, 20], false, 0, 0, none, []⟩,
 ⟨⟨some 5, true, none, iMov (.t 21)⟩, [21], false, 0, 0, none, []⟩])
 (cSeq (cSeq (cOps [⟨some 22, false, none, iFaddr 0 (.t 2)⟩,
 ⟨some 23, false, none, iFaddr 3 (.t 22)⟩,
 ⟨some 24, false, none, iLoad (.t 23)⟩,
 ⟨some 25, true, none, iLenS (.t 24)⟩,
 ⟨some 26, true, none, iMov (.c (.int .i64 (.lit 0)))⟩])
 (cBlock 0 (cLoop (cSeq (cOps [⟨some 27, true, none, iCmp .lss (.t 26) (.t 25)⟩])
 (cSeq (cCond (.t 27) cSkip (cExit 0))
 (cSeq (cBlock 1 (cSeq (cOps [⟨some 28, false, none, iMov (.t 26)⟩,
 ⟨some 6, true, none, iMov (.t 28)⟩])
 (cSeq (cOps [⟨some 29, false, none, iMov (.t 6)⟩,
 ⟨some 30, false, none, iMov (.t 1)⟩,
 ⟨some 31, true, none, iCmp .neq (.t 29) (.t 30)⟩])
 (cCond (.t 31) (cOps [⟨some 32, false, none, iMov (.t 5)⟩,
 ⟨some 33, false, none, iLoadN 12 (.t 2)⟩,
 ⟨some 34, false, none, iMov (.t 1)⟩,
 ⟨some 35, false, none, iMov (.t 6)⟩,
 ⟨some 36, false, none, iCall (.c (.func (.func 62) [] [])) [(.t 33), (.t 34), (.t 35)]⟩,
 ⟨some 37, false, none, iArith .add (.t 32) (.t 36)⟩,
 ⟨some 5, true, none, iMov (.t 37)⟩]) cSkip))))
 (cOps [⟨some 38, false, none, iArith .add (.t 26) (.c (.int .i64 (.lit 1)))⟩,
 ⟨some 26, true, none, iMov (.t 38)⟩])))))))
 (cSeq (cOps [⟨some 39, false, none, iMov (.t 5)⟩,
 ⟨some 4, true, none, iMov (.t 39)⟩])
 cRet)))), [.t 4]⟩
noncomputable def Tryd.ra72010 : C := (cOps [⟨some 6, true, none, iAlloc 67 [(.int .i64 (.lit 0)), (.int .i64 (.lit 0)), (.int .i64 (.lit 0)), (.bool (.lit false)), (.int .i64 (.lit 0)), (.int .i64 (.lit 0)), (.int .i64 (.lit 0)), (.int .i64 (.lit 0)), (.int .i64 (.lit 0)), (.int .i64 (.lit 0)), (.int .i64 (.lit 0)), (.int .i64 (.lit 0)), (.int .i64 (.lit 0))]⟩,
 ⟨none, false, none, iStore 13 (.t 6) (.t 10)⟩])
noncomputable def Tryd.rb72010 : C := (cBlock 1 (cSeq (cOps [⟨some 11, false, none, iFaddr 0 (.t 6)⟩,
 ⟨some 12, false, none, iFaddr 1 (.t 11)⟩,
 ⟨some 13, false, none, iFaddr 2 (.t 12)⟩,
 ⟨some 14, false, none, iLoad (.t 13)⟩,
 ⟨some 15, false, none, iNot (.t 14)⟩,
 ⟨some 16, false, none, iMov (.t 15)⟩,
 ⟨some 17, false, some (16, false), iFaddr 4 (.t 6)⟩,
 ⟨some 18, false, some (16, false), iFaddr 2 (.t 17)⟩,
 ⟨some 19, false, some (16, false), iLoad (.t 18)⟩,
 ⟨some 20, false, some (16, false), iFaddr 4 (.t 6)⟩,
 ⟨some 21, false, some (16, false), iFaddr 3 (.t 20)⟩,
 ⟨some 22, false, some (16, false), iLoad (.t 21)⟩,
 ⟨some 23, false, some (16, false), iCmp .neq (.t 19) (.t 22)⟩,
 ⟨some 24, true, none, iPick (.t 16) (.c (.bool (.lit true))) (.t 23)⟩])
 (cCond (.t 24) (cOps [⟨some 25, false, none, iLoad (.t 5)⟩,
 ⟨some 26, false, none, iLoadN 13 (.t 6)⟩,
 ⟨some 27, false, none, iBslice 67 [(.int .i64 (.lit 0)), (.int .i64 (.lit 0)), (.int .i64 (.lit 0)), (.bool (.lit false)), (.int .i64 (.lit 0)), (.int .i64 (.lit 0)), (.int .i64 (.lit 0)), (.int .i64 (.lit 0)), (.int .i64 (.lit 0)), (.int .i64 (.lit 0)), (.int .i64 (.lit 0)), (.int .i64 (.lit 0)), (.int .i64 (.lit 0))] 1 [(0, 13, (.t 26))]⟩,
 ⟨some 28, false, none, iAppend 67 13 104 (.t 25) (.t 27)⟩,
 ⟨none, false, none, iStore 1 (.t 5) (.t 28)⟩]) cSkip)))
noncomputable def Tryd.kp72 : List Nat := [0, 1, 2, 4, 5, 6, 9, 10, 24]
noncomputable def Tryd.cf72 : CF := ⟨2, (cSeq (cOps [⟨some 2, true, none, iBox 58 (.t 0)⟩,
 ⟨some 4, true, none, iMov (.c .nilslice)⟩])
 (cSeq (cOps [⟨some 5, true, none, iAlloc 71 [.nilslice]⟩])
 (cSeq (cSeq (cOps [⟨some 7, false, none, iLoadN 12 (.t 2)⟩,
 ⟨some 8, false, none, iMov (.t 1)⟩,
 ⟨some 9, true, none, iCall (.c (.func (.func 53) [] [])) [(.t 7), (.t 8)]⟩])
 (cBlock 0 (cRange (.t 9) [10] 72010)))
 (cSeq (cOps [⟨some 29, false, none, iLoad (.t 5)⟩,
 ⟨some 4, true, none, iMov (.t 29)⟩])
 cRet)))), [.t 4]⟩
noncomputable def Tryd.kp73 : List Nat := [0, 1, 4, 5, 6, 11, 12, 13, 16, 19]
noncomputable def Tryd.cf73 : CF := ⟨2, (cSeq (cOps [⟨some 4, true, none, iMov (.c (.int .i64 (.lit 0)))⟩])
 (cSeq (cOps [⟨some 7, false, none, iMov (.t 0)⟩,
 ⟨some 8, false, none, iCall (.c (.func (.func 75) [] [])) [(.t 7)]⟩,
 ⟨some 5, true, none, iMov (.t 8)⟩])
 (cSeq (cOps [⟨some 9, false, none, iMov (.t 1)⟩,
 ⟨some 10, false, none, iCall (.c (.func (.func 75) [] [])) [(.t 9)]⟩,
 ⟨some 6, true, none, iMov (.t 10)⟩])
 (cSeq (cSeq (cOps [⟨some 11, true, none, iMov (.t 5)⟩])
 (cCond (.t 11) (cSeq (cSeq (cOps [⟨some 12, true, none, iMov (.t 6)⟩])
 (cCond (.t 12) (cSeq (cOps [⟨some 4, true, none, iMov (.c (.int .i64 (.lit 0)))⟩])
 cRet) cSkip))
 (cSeq (cOps [⟨some 4, true, none, iMov (.c (.int .i64 (.lit (-1))))⟩])
 cRet)) cSkip))
 (cSeq (cSeq (cOps [⟨some 13, true, none, iMov (.t 6)⟩])
 (cCond (.t 13) (cSeq (cOps [⟨some 4, true, none, iMov (.c (.int .i64 (.lit 1)))⟩])
 cRet) cSkip))
 (cSeq (cSeq (cOps [⟨some 14, false, none, iMov (.t 0)⟩,
 ⟨some 15, false, none, iMov (.t 1)⟩,
 ⟨some 16, true, none, iCmp .lss (.t 14) (.t 15)⟩])
 (cCond (.t 16) (cSeq (cOps [⟨some 4, true, none, iMov (.c (.int .i64 (.lit (-1))))⟩])
 cRet) cSkip))
 (cSeq (cSeq (cOps [⟨some 17, false, none, iMov (.t 0)⟩,
 ⟨some 18, false, none, iMov (.t 1)⟩,
 ⟨some 19, true, none, iCmp .gtr (.t 17) (.t 18)⟩])
 (cCond (.t 19) (cSeq (cOps [⟨some 4, true, none, iMov (.c (.int .i64 (.lit 1)))⟩])
 cRet) cSkip))
 (cSeq (cOps [⟨some 4, true, none, iMov (.c (.int .i64 (.lit 0)))⟩])
 cRet)))))))), [.t 4]⟩
noncomputable def Tryd.kp74 : List Nat := [0, 1, 2, 6, 7, 8, 9, 13, 30, 35, 54]
noncomputable def Tryd.cf74 : CF := ⟨3, (cSeq (cOps [⟨some 6, true, none, iMov (.c (.int .i64 (.lit 20)))⟩])
 (cSeq (cOps [⟨some 10, false, none, iMov (.t 6)⟩,
 ⟨some 7, true, none, iMov (.c (.int .i64 (.lit 0)))⟩,
 ⟨some 8, true, none, iMov (.t 10)⟩])
 (cSeq (cBlock 0 (cLoop (cSeq (cSeq (cOps [⟨some 11, false, none, iMov (.t 8)⟩,
 ⟨some 12, false, none, iMov (.t 1)⟩,
 ⟨some 13, true, none, iCmp .leq (.t 11) (.t 12)⟩])
 (cCond (.t 13) cSkip (cExit 0)))
 (cBlock 1 (cSeq (cOps [⟨some 14, false, none, iMov (.t 0)⟩,
 ⟨some 15, false, none, iMov (.t 7)⟩,
 ⟨some 16, false, none, iMov (.t 8)⟩,
 ⟨some 17, false, none, iMov (.t 2)⟩,
 ⟨some 18, false, none, iCall (.c (.func (.func 76) [] [])) [(.t 14), (.t 15), (.t 16), (.t 17)]⟩])
 (cSeq (cOps [⟨some 19, false, none, iMov (.t 8)⟩,
 ⟨some 7, true, none, iMov (.t 19)⟩])
 (cOps [⟨some 20, false, none, iMov (.t 8)⟩,
 ⟨some 21, false, none, iMov (.t 6)⟩,
 ⟨some 22, false, none, iArith .add (.t 20) (.t 21)⟩,
 ⟨some 8, true, none, iMov (.t 22)⟩])))))))
 (cSeq (cOps [⟨some 23, false, none, iMov (.t 0)⟩,
 ⟨some 24, false, none, iMov (.t 7)⟩,
 ⟨some 25, false, none, iMov (.t 1)⟩,
 ⟨some 26, false, none, iMov (.t 2)⟩,
 ⟨some 27, false, none, iCall (.c (.func (.func 76) [] [])) [(.t 23), (.t 24), (.t 25), (.t 26)]⟩])
 (cBlock 2 (cLoop (cSeq (cSeq (cOps [⟨some 28, false, none, iMov (.t 6)⟩,
 ⟨some 29, false, none, iMov (.t 1)⟩,
 ⟨some 30, true, none, iCmp .lss (.t 28) (.t 29)⟩])
 (cCond (.t 30) cSkip (cExit 2)))
 (cBlock 3 (cSeq (cOps [⟨some 31, false, none, iMov (.t 6)⟩,
 ⟨some 32, false, none, iArith .mul (.c (.int .i64 (.lit 2))) (.t 31)⟩,
 ⟨some 7, true, none, iMov (.c (.int .i64 (.lit 0)))⟩,
 ⟨some 8, true, none, iMov (.t 32)⟩])
 (cSeq (cBlock 4 (cLoop (cSeq (cSeq (cOps [⟨some 33, false, none, iMov (.t 8)⟩,
 ⟨some 34, false, none, iMov (.t 1)⟩,
 ⟨some 35, true, none, iCmp .leq (.t 33) (.t 34)⟩])
 (cCond (.t 35) cSkip (cExit 4)))
 (cBlock 5 (cSeq (cOps [⟨some 36, false, none, iMov (.t 0)⟩,
 ⟨some 37, false, none, iMov (.t 7)⟩,
 ⟨some 38, false, none, iMov (.t 7)⟩,
 ⟨some 39, false, none, iMov (.t 6)⟩,
 ⟨some 40, false, none, iArith .add (.t 38) (.t 39)⟩,
 ⟨some 41, false, none, iMov (.t 8)⟩,
 ⟨some 42, false, none, iMov (.t 2)⟩,
 ⟨some 43, false, none, iCall (.c (.func (.func 77) [] [])) [(.t 36), (.t 37), (.t 40), (.t 41), (.t 42)]⟩])
 (cSeq (cOps [⟨some 44, false, none, iMov (.t 8)⟩,
 ⟨some 7, true, none, iMov (.t 44)⟩])
 (cOps [⟨some 45, false, none, iMov (.t 8)⟩,
 ⟨some 46, false, none, iMov (.t 6)⟩,
 ⟨some 47, false, none, iArith .mul (.c (.int .i64 (.lit 2))) (.t 46)⟩,
 ⟨some 48, false, none, iArith .add (.t 45) (.t 47)⟩,
 ⟨some 8, true, none, iMov (.t 48)⟩])))))))
 (cSeq (cSeq (cOps [⟨some 49, false, none, iMov (.t 7)⟩,
 ⟨some 50, false, none, iMov (.t 6)⟩,
 ⟨some 51, false, none, iArith .add (.t 49) (.t 50)⟩,
 ⟨some 9, true, none, iMov (.t 51)⟩])
 (cSeq (cOps [⟨some 52, false, none, iMov (.t 9)⟩,
 ⟨some 53, false, none, iMov (.t 1)⟩,
 ⟨some 54, true, none, iCmp .lss (.t 52) (.t 53)⟩])
 (cCond (.t 54) (cOps [⟨some 55, false, none, iMov (.t 0)⟩,
 ⟨some 56, false, none, iMov (.t 7)⟩,
 ⟨some 57, false, none, iMov (.t 9)⟩,
 ⟨some 58, false, none, iMov (.t 1)⟩,
 ⟨some 59, false, none, iMov (.t 2)⟩,
 ⟨some 60, false, none, iCall (.c (.func (.func 77) [] [])) [(.t 55), (.t 56), (.t 57), (.t 58), (.t 59)]⟩]) cSkip)))
 (cOps [⟨some 61, false, none, iMov (.t 6)⟩,
 ⟨some 62, false, none, iArith .mul (.t 61) (.c (.int .i64 (.lit 2)))⟩,
 ⟨some 6, true, none, iMov (.t 62)⟩])))))))))))), []⟩
noncomputable def Tryd.kp75 : List Nat := [0, 2]
noncomputable def Tryd.cf75 : CF := ⟨1, (cSeq (cOps [⟨some 2, true, none, iMov (.c (.bool (.lit false)))⟩])
 (cSeq (cOps [⟨some 3, false, none, iMov (.t 0)⟩,
 ⟨some 4, false, none, iMov (.t 0)⟩,
 ⟨some 5, false, none, iCmp .neq (.t 3) (.t 4)⟩,
 ⟨some 2, true, none, iMov (.t 5)⟩])
 cRet)), [.t 2]⟩
noncomputable def Tryd.kp76 : List Nat := [0, 1, 2, 3, 8, 9, 14, 34]
noncomputable def Tryd.cf76 : CF := ⟨4, (cSeq (cOps [⟨some 10, false, none, iMov (.t 1)⟩,
 ⟨some 11, false, none, iArith .add (.t 10) (.c (.int .i64 (.lit 1)))⟩,
 ⟨some 8, true, none, iMov (.t 11)⟩])
 (cBlock 0 (cLoop (cSeq (cSeq (cOps [⟨some 12, false, none, iMov (.t 8)⟩,
 ⟨some 13, false, none, iMov (.t 2)⟩,
 ⟨some 14, true, none, iCmp .lss (.t 12) (.t 13)⟩])
 (cCond (.t 14) cSkip (cExit 0)))
 (cSeq (cBlock 1 (cSeq (cOps [⟨some 17, false, none, iMov (.t 8)⟩,
 ⟨some 9, true, none, iMov (.t 17)⟩])
 (cBlock 2 (cLoop (cSeq (cSeq (dOps 0 [⟨⟨some 18, false, none, iMov (.t 9)⟩, [9], false, 0, 0, none, []⟩,
 ⟨⟨some 19, false, none, iMov (.t 1)⟩, [1], false, 0, 0, none, []⟩,
 ⟨⟨some 20, false, none, iCmp .gtr (.t 18) (.t 19)⟩, [18, 19], false, 0, 0, none, []⟩,
 ⟨⟨some 21, false, none, iMov (.t 20)⟩, [20], false, 0, 0, none, []⟩,
 ⟨⟨some 22, false, some (21, true), iMov (.t 3)⟩, [21, 3], false, 0, 0, none, []⟩,
 ⟨⟨some 23, false, some (21, true), iMov (.t 0)⟩, [21, 0], false, 0, 0, none, []⟩,
 ⟨⟨some 24, false, some (21, true), iMov (.t 9)⟩, [21, 9], false, 0, 0, none, []⟩,
 ⟨⟨some 25, false, some (21, true), iIaddr 1 (.t 23) (.t 24)⟩, [21, 23, 24], false, 0, 0, none, []⟩,
 ⟨⟨some 26, false, some (21, true), iLoad (.t 25)⟩, [21, 25], false, 0, 0, none, []⟩,
 ⟨⟨some 27, false, some (21, true), iMov (.t 0)⟩, [21, 0], false, 0, 0, none, []⟩,
 ⟨⟨some 28, false, some (21, true), iMov (.t 9)⟩, [21, 9], false, 0, 0, none, []⟩,
 ⟨⟨some 29, false, some (21, true), iArith .sub (.t 28) (.c (.int .i64 (.lit 1)))⟩, [21, 28], false, 0, 0, none, []⟩,
 ⟨⟨some 30, false, some (21, true), iIaddr 1 (.t 27) (.t 29)⟩, [21, 27, 29], false, 0, 0, none, []⟩,
 ⟨⟨some 31, false, some (21, true), iLoad (.t 30)⟩, [21, 30], false, 0, 0, none, []⟩,
 ⟨⟨some 32, false, some (21, true), iCall (.t 22) [(.t 26), (.t 31)]⟩, [21, 22, 26, 31], true, 0, 0, none, []⟩,
 ⟨⟨some 33, false, some (21, true), iCmp .lss (.t 32) (.c (.int .i64 (.lit 0)))⟩, [21, 32], false, 1, 1, none, []⟩,
 ⟨⟨some 34, true, none, iPick (.t 21) (.t 33) (.c (.bool (.lit false)))⟩, [21, 33], false, 1, 1, none, []⟩])
 (cCond (.t 34) cSkip (cExit 2)))
 (cSeq (cBlock 3 (dOps 0 [⟨⟨some 37, false, none, iMov (.t 0)⟩, [0], false, 0, 0, none, []⟩,
 ⟨⟨some 38, false, none, iMov (.t 9)⟩, [9], false, 0, 0, none, []⟩,
 ⟨⟨some 39, false, none, iMov (.t 0)⟩, [0], false, 0, 1, none, []⟩,
 ⟨⟨some 40, false, none, iMov (.t 9)⟩, [9], false, 0, 1, none, []⟩,
 ⟨⟨some 41, false, none, iArith .sub (.t 40) (.c (.int .i64 (.lit 1)))⟩, [40], false, 0, 1, none, []⟩,
 ⟨⟨some 42, false, none, iMov (.t 0)⟩, [0], false, 0, 0, none, []⟩,
 ⟨⟨some 43, false, none, iMov (.t 9)⟩, [9], false, 0, 0, none, []⟩,
 ⟨⟨some 44, false, none, iArith .sub (.t 43) (.c (.int .i64 (.lit 1)))⟩, [43], false, 0, 0, none, []⟩,
 ⟨⟨some 45, false, none, iIaddr 1 (.t 42) (.t 44)⟩, [42, 44], false, 0, 0, none, []⟩,
 ⟨⟨some 46, false, none, iLoad (.t 45)⟩, [45], false, 0, 0, none, []⟩,
 ⟨⟨some 47, false, none, iMov (.t 0)⟩, [0], false, 0, 0, none, []⟩,
 ⟨⟨some 48, false, none, iMov (.t 9)⟩, [9], false, 0, 0, none, []⟩,
 ⟨⟨some 49, false, none, iIaddr 1 (.t 47) (.t 48)⟩, [47, 48], false, 0, 0, none, []⟩,
 ⟨⟨some 50, false, none, iLoad (.t 49)⟩, [49], false, 0, 0, none, []⟩,
 ⟨⟨some 51, false, none, iIaddr 1 (.t 37) (.t 38)⟩, [37, 38], false, 0, 0, none, []⟩,
 ⟨⟨none, false, none, iStore 1 (.t 51) (.t 46)⟩, [51, 46], true, 0, 0, none, []⟩,
 ⟨⟨some 52, false, none, iIaddr 1 (.t 39) (.t 41)⟩, [39, 41], false, 1, 1, none, []⟩,
 ⟨⟨none, false, none, iStore 1 (.t 52) (.t 50)⟩, [52, 50], true, 1, 0, none, []⟩]))
 (cOps [⟨some 35, false, none, iMov (.t 9)⟩,
 ⟨some 36, false, none, iArith .sub (.t 35) (.c (.int .i64 (.lit 1)))⟩,
 ⟨some 9, true, none, iMov (.t 36)⟩])))))))
 (cOps [⟨some 15, false, none, iMov (.t 8)⟩,
 ⟨some 16, false, none, iArith .add (.t 15) (.c (.int .i64 (.lit 1)))⟩,
 ⟨some 8, true, none, iMov (.t 16)⟩])))))), []⟩
noncomputable def Tryd.kp77 : List Nat := [0, 1, 2, 3, 4, 10, 11, 12, 13, 14, 15, 16, 17, 18, 19, 20, 21, 22, 23, 24, 28, 33, 50, 58, 80, 85, 103, 110, 140, 151,
 171, 185, 199, 213]
noncomputable def Tryd.cf77 : CF := ⟨5, (cSeq (cSeq (cOps [⟨some 25, false, none, iMov (.t 2)⟩,
 ⟨some 26, false, none, iMov (.t 1)⟩,
 ⟨some 27, false, none, iArith .sub (.t 25) (.t 26)⟩,
 ⟨some 28, true, none, iCmp .eql (.t 27) (.c (.int .i64 (.lit 1)))⟩])
 (cCond (.t 28) (cSeq (cOps [⟨some 29, false, none, iMov (.t 2)⟩,
 ⟨some 10, true, none, iMov (.t 29)⟩])
 (cSeq (cOps [⟨some 30, false, none, iMov (.t 3)⟩,
 ⟨some 11, true, none, iMov (.t 30)⟩])
 (cSeq (cBlock 0 (cLoop (cSeq (cSeq (cOps [⟨some 31, false, none, iMov (.t 10)⟩,
 ⟨some 32, false, none, iMov (.t 11)⟩,
 ⟨some 33, true, none, iCmp .lss (.t 31) (.t 32)⟩])
 (cCond (.t 33) cSkip (cExit 0)))
 (cBlock 1 (cSeq (cOps [⟨some 34, false, none, iMov (.t 10)⟩,
 ⟨some 35, false, none, iMov (.t 11)⟩,
 ⟨some 36, false, none, iArith .add (.t 34) (.t 35)⟩,
 ⟨some 37, false, none, iConv .u64 (.t 36)⟩,
 ⟨some 38, false, none, iShift .shr (.t 37) (.c (.int .u64 (.lit 1)))⟩,
 ⟨some 39, false, none, iConv .i64 (.t 38)⟩,
 ⟨some 12, true, none, iMov (.t 39)⟩])
 (cSeq (dOps 0 [⟨⟨some 40, false, none, iMov (.t 4)⟩, [4], false, 0, 0, none, []⟩,
 ⟨⟨some 41, false, none, iMov (.t 0)⟩, [0], false, 0, 0, none, []⟩,
 ⟨⟨some 42, false, none, iMov (.t 12)⟩, [12], false, 0, 0, none, []⟩,
 ⟨⟨some 43, false, none, iIaddr 1 (.t 41) (.t 42)⟩, [41, 42], false, 0, 0, none, []⟩,
 ⟨⟨some 44, false, none, iLoad (.t 43)⟩, [43], false, 0, 0, none, []⟩,
 ⟨⟨some 45, false, none, iMov (.t 0)⟩, [0], false, 0, 0, none, []⟩,
 ⟨⟨some 46, false, none, iMov (.t 1)⟩, [1], false, 0, 0, none, []⟩,
 ⟨⟨some 47, false, none, iIaddr 1 (.t 45) (.t 46)⟩, [45, 46], false, 0, 0, none, []⟩,
 ⟨⟨some 48, false, none, iLoad (.t 47)⟩, [47], false, 0, 0, none, []⟩,
 ⟨⟨some 49, false, none, iCall (.t 40) [(.t 44), (.t 48)]⟩, [40, 44, 48], true, 0, 0, none, []⟩,
 ⟨⟨some 50, true, none, iCmp .lss (.t 49) (.c (.int .i64 (.lit 0)))⟩, [49], false, 1, 1, none, []⟩])
 (cCond (.t 50) (cOps [⟨some 51, false, none, iMov (.t 12)⟩,
 ⟨some 52, false, none, iArith .add (.t 51) (.c (.int .i64 (.lit 1)))⟩,
 ⟨some 10, true, none, iMov (.t 52)⟩]) (cOps [⟨some 53, false, none, iMov (.t 12)⟩,
 ⟨some 11, true, none, iMov (.t 53)⟩]))))))))
 (cSeq (cSeq (cOps [⟨some 54, false, none, iMov (.t 1)⟩,
 ⟨some 13, true, none, iMov (.t 54)⟩])
 (cBlock 2 (cLoop (cSeq (cSeq (cOps [⟨some 55, false, none, iMov (.t 13)⟩,
 ⟨some 56, false, none, iMov (.t 10)⟩,
 ⟨some 57, false, none, iArith .sub (.t 56) (.c (.int .i64 (.lit 1)))⟩,
 ⟨some 58, true, none, iCmp .lss (.t 55) (.t 57)⟩])
 (cCond (.t 58) cSkip (cExit 2)))
 (cSeq (cBlock 3 (dOps 0 [⟨⟨some 61, false, none, iMov (.t 0)⟩, [0], false, 0, 0, none, []⟩,
 ⟨⟨some 62, false, none, iMov (.t 13)⟩, [13], false, 0, 0, none, []⟩,
 ⟨⟨some 63, false, none, iMov (.t 0)⟩, [0], false, 0, 1, none, []⟩,
 ⟨⟨some 64, false, none, iMov (.t 13)⟩, [13], false, 0, 1, none, []⟩,
 ⟨⟨some 65, false, none, iArith .add (.t 64) (.c (.int .i64 (.lit 1)))⟩, [64], false, 0, 1, none, []⟩,
 ⟨⟨some 66, false, none, iMov (.t 0)⟩, [0], false, 0, 0, none, []⟩,
 ⟨⟨some 67, false, none, iMov (.t 13)⟩, [13], false, 0, 0, none, []⟩,
 ⟨⟨some 68, false, none, iArith .add (.t 67) (.c (.int .i64 (.lit 1)))⟩, [67], false, 0, 0, none, []⟩,
 ⟨⟨some 69, false, none, iIaddr 1 (.t 66) (.t 68)⟩, [66, 68], false, 0, 0, none, []⟩,
 ⟨⟨some 70, false, none, iLoad (.t 69)⟩, [69], false, 0, 0, none, []⟩,
 ⟨⟨some 71, false, none, iMov (.t 0)⟩, [0], false, 0, 0, none, []⟩,
 ⟨⟨some 72, false, none, iMov (.t 13)⟩, [13], false, 0, 0, none, []⟩,
 ⟨⟨some 73, false, none, iIaddr 1 (.t 71) (.t 72)⟩, [71, 72], false, 0, 0, none, []⟩,
 ⟨⟨some 74, false, none, iLoad (.t 73)⟩, [73], false, 0, 0, none, []⟩,
 ⟨⟨some 75, false, none, iIaddr 1 (.t 61) (.t 62)⟩, [61, 62], false, 0, 0, none, []⟩,
 ⟨⟨none, false, none, iStore 1 (.t 75) (.t 70)⟩, [75, 70], true, 0, 0, none, []⟩,
 ⟨⟨some 76, false, none, iIaddr 1 (.t 63) (.t 65)⟩, [63, 65], false, 1, 1, none, []⟩,
 ⟨⟨none, false, none, iStore 1 (.t 76) (.t 74)⟩, [76, 74], true, 1, 0, none, []⟩]))
 (cOps [⟨some 59, false, none, iMov (.t 13)⟩,
 ⟨some 60, false, none, iArith .add (.t 59) (.c (.int .i64 (.lit 1)))⟩,
 ⟨some 13, true, none, iMov (.t 60)⟩]))))))
 cRet)))) cSkip))
 (cSeq (cSeq (cOps [⟨some 77, false, none, iMov (.t 3)⟩,
 ⟨some 78, false, none, iMov (.t 2)⟩,
 ⟨some 79, false, none, iArith .sub (.t 77) (.t 78)⟩,
 ⟨some 80, true, none, iCmp .eql (.t 79) (.c (.int .i64 (.lit 1)))⟩])
 (cCond (.t 80) (cSeq (cOps [⟨some 81, false, none, iMov (.t 1)⟩,
 ⟨some 14, true, none, iMov (.t 81)⟩])
 (cSeq (cOps [⟨some 82, false, none, iMov (.t 2)⟩,
 ⟨some 15, true, none, iMov (.t 82)⟩])
 (cSeq (cBlock 4 (cLoop (cSeq (cSeq (cOps [⟨some 83, false, none, iMov (.t 14)⟩,
 ⟨some 84, false, none, iMov (.t 15)⟩,
 ⟨some 85, true, none, iCmp .lss (.t 83) (.t 84)⟩])
 (cCond (.t 85) cSkip (cExit 4)))
 (cBlock 5 (cSeq (cOps [⟨some 86, false, none, iMov (.t 14)⟩,
 ⟨some 87, false, none, iMov (.t 15)⟩,
 ⟨some 88, false, none, iArith .add (.t 86) (.t 87)⟩,
 ⟨some 89, false, none, iConv .u64 (.t 88)⟩,
 ⟨some 90, false, none, iShift .shr (.t 89) (.c (.int .u64 (.lit 1)))⟩,
 ⟨some 91, false, none, iConv .i64 (.t 90)⟩,
 ⟨some 16, true, none, iMov (.t 91)⟩])
 (cSeq (dOps 0 [⟨⟨some 92, false, none, iMov (.t 4)⟩, [4], false, 0, 0, none, []⟩,
 ⟨⟨some 93, false, none, iMov (.t 0)⟩, [0], false, 0, 0, none, []⟩,
 ⟨⟨some 94, false, none, iMov (.t 2)⟩, [2], false, 0, 0, none, []⟩,
 ⟨⟨some 95, false, none, iIaddr 1 (.t 93) (.t 94)⟩, [93, 94], false, 0, 0, none, []⟩,
 ⟨⟨some 96, false, none, iLoad (.t 95)⟩, [95], false, 0, 0, none, []⟩,
 ⟨⟨some 97, false, none, iMov (.t 0)⟩, [0], false, 0, 0, none, []⟩,
 ⟨⟨some 98, false, none, iMov (.t 16)⟩, [16], false, 0, 0, none, []⟩,
 ⟨⟨some 99, false, none, iIaddr 1 (.t 97) (.t 98)⟩, [97, 98], false, 0, 0, none, []⟩,
 ⟨⟨some 100, false, none, iLoad (.t 99)⟩, [99], false, 0, 0, none, []⟩,
 ⟨⟨some 101, false, none, iCall (.t 92) [(.t 96), (.t 100)]⟩, [92, 96, 100], true, 0, 0, none, []⟩,
 ⟨⟨some 102, false, none, iCmp .lss (.t 101) (.c (.int .i64 (.lit 0)))⟩, [101], false, 1, 1, none, []⟩,
 ⟨⟨some 103, true, none, iNot (.t 102)⟩, [102], false, 1, 1, none, []⟩])
 (cCond (.t 103) (cOps [⟨some 104, false, none, iMov (.t 16)⟩,
 ⟨some 105, false, none, iArith .add (.t 104) (.c (.int .i64 (.lit 1)))⟩,
 ⟨some 14, true, none, iMov (.t 105)⟩]) (cOps [⟨some 106, false, none, iMov (.t 16)⟩,
 ⟨some 15, true, none, iMov (.t 106)⟩]))))))))
 (cSeq (cSeq (cOps [⟨some 107, false, none, iMov (.t 2)⟩,
 ⟨some 17, true, none, iMov (.t 107)⟩])
 (cBlock 6 (cLoop (cSeq (cSeq (cOps [⟨some 108, false, none, iMov (.t 17)⟩,
 ⟨some 109, false, none, iMov (.t 14)⟩,
 ⟨some 110, true, none, iCmp .gtr (.t 108) (.t 109)⟩])
 (cCond (.t 110) cSkip (cExit 6)))
 (cSeq (cBlock 7 (dOps 0 [⟨⟨some 113, false, none, iMov (.t 0)⟩, [0], false, 0, 0, none, []⟩,
 ⟨⟨some 114, false, none, iMov (.t 17)⟩, [17], false, 0, 0, none, []⟩,
 ⟨⟨some 115, false, none, iMov (.t 0)⟩, [0], false, 0, 1, none, []⟩,
 ⟨⟨some 116, false, none, iMov (.t 17)⟩, [17], false, 0, 1, none, []⟩,
 ⟨⟨some 117, false, none, iArith .sub (.t 116) (.c (.int .i64 (.lit 1)))⟩, [116], false, 0, 1, none, []⟩,
 ⟨⟨some 118, false, none, iMov (.t 0)⟩, [0], false, 0, 0, none, []⟩,
 ⟨⟨some 119, false, none, iMov (.t 17)⟩, [17], false, 0, 0, none, []⟩,
 ⟨⟨some 120, false, none, iArith .sub (.t 119) (.c (.int .i64 (.lit 1)))⟩, [119], false, 0, 0, none, []⟩,
 ⟨⟨some 121, false, none, iIaddr 1 (.t 118) (.t 120)⟩, [118, 120], false, 0, 0, none, []⟩,
 ⟨⟨some 122, false, none, iLoad (.t 121)⟩, [121], false, 0, 0, none, []⟩,
 ⟨⟨some 123, false, none, iMov (.t 0)⟩, [0], false, 0, 0, none, []⟩,
 ⟨⟨some 124, false, none, iMov (.t 17)⟩, [17], false, 0, 0, none, []⟩,
 ⟨⟨some 125, false, none, iIaddr 1 (.t 123) (.t 124)⟩, [123, 124], false, 0, 0, none, []⟩,
 ⟨⟨some 126, false, none, iLoad (.t 125)⟩, [125], false, 0, 0, none, []⟩,
 ⟨⟨some 127, false, none, iIaddr 1 (.t 113) (.t 114)⟩, [113, 114], false, 0, 0, none, []⟩,
 ⟨⟨none, false, none, iStore 1 (.t 127) (.t 122)⟩, [127, 122], true, 0, 0, none, []⟩,
 ⟨⟨some 128, false, none, iIaddr 1 (.t 115) (.t 117)⟩, [115, 117], false, 1, 1, none, []⟩,
 ⟨⟨none, false, none, iStore 1 (.t 128) (.t 126)⟩, [128, 126], true, 1, 0, none, []⟩]))
 (cOps [⟨some 111, false, none, iMov (.t 17)⟩,
 ⟨some 112, false, none, iArith .sub (.t 111) (.c (.int .i64 (.lit 1)))⟩,
 ⟨some 17, true, none, iMov (.t 112)⟩]))))))
 cRet)))) cSkip))
 (cSeq (cOps [⟨some 129, false, none, iMov (.t 1)⟩,
 ⟨some 130, false, none, iMov (.t 3)⟩,
 ⟨some 131, false, none, iArith .add (.t 129) (.t 130)⟩,
 ⟨some 132, false, none, iConv .u64 (.t 131)⟩,
 ⟨some 133, false, none, iShift .shr (.t 132) (.c (.int .u64 (.lit 1)))⟩,
 ⟨some 134, false, none, iConv .i64 (.t 133)⟩,
 ⟨some 18, true, none, iMov (.t 134)⟩])
 (cSeq (cOps [⟨some 135, false, none, iMov (.t 18)⟩,
 ⟨some 136, false, none, iMov (.t 2)⟩,
 ⟨some 137, false, none, iArith .add (.t 135) (.t 136)⟩,
 ⟨some 19, true, none, iMov (.t 137)⟩])
 (cSeq (cOps [⟨some 20, true, none, iMov (.c (.int .i64 (.lit 0)))⟩,
 ⟨some 21, true, none, iMov (.c (.int .i64 (.lit 0)))⟩])
 (cSeq (cSeq (cOps [⟨some 138, false, none, iMov (.t 2)⟩,
 ⟨some 139, false, none, iMov (.t 18)⟩,
 ⟨some 140, true, none, iCmp .gtr (.t 138) (.t 139)⟩])
 (cCond (.t 140) (cSeq (cOps [⟨some 141, false, none, iMov (.t 19)⟩,
 ⟨some 142, false, none, iMov (.t 3)⟩,
 ⟨some 143, false, none, iArith .sub (.t 141) (.t 142)⟩,
 ⟨some 20, true, none, iMov (.t 143)⟩])
 (cOps [⟨some 144, false, none, iMov (.t 18)⟩,
 ⟨some 21, true, none, iMov (.t 144)⟩])) (cSeq (cOps [⟨some 145, false, none, iMov (.t 1)⟩,
 ⟨some 20, true, none, iMov (.t 145)⟩])
 (cOps [⟨some 146, false, none, iMov (.t 2)⟩,
 ⟨some 21, true, none, iMov (.t 146)⟩]))))
 (cSeq (cOps [⟨some 147, false, none, iMov (.t 19)⟩,
 ⟨some 148, false, none, iArith .sub (.t 147) (.c (.int .i64 (.lit 1)))⟩,
 ⟨some 22, true, none, iMov (.t 148)⟩])
 (cSeq (cBlock 8 (cLoop (cSeq (cSeq (cOps [⟨some 149, false, none, iMov (.t 20)⟩,
 ⟨some 150, false, none, iMov (.t 21)⟩,
 ⟨some 151, true, none, iCmp .lss (.t 149) (.t 150)⟩])
 (cCond (.t 151) cSkip (cExit 8)))
 (cBlock 9 (cSeq (cOps [⟨some 152, false, none, iMov (.t 20)⟩,
 ⟨some 153, false, none, iMov (.t 21)⟩,
 ⟨some 154, false, none, iArith .add (.t 152) (.t 153)⟩,
 ⟨some 155, false, none, iConv .u64 (.t 154)⟩,
 ⟨some 156, false, none, iShift .shr (.t 155) (.c (.int .u64 (.lit 1)))⟩,
 ⟨some 157, false, none, iConv .i64 (.t 156)⟩,
 ⟨some 23, true, none, iMov (.t 157)⟩])
 (cSeq (dOps 0 [⟨⟨some 158, false, none, iMov (.t 4)⟩, [4], false, 0, 0, none, []⟩,
 ⟨⟨some 159, false, none, iMov (.t 0)⟩, [0], false, 0, 0, none, []⟩,
 ⟨⟨some 160, false, none, iMov (.t 22)⟩, [22], false, 0, 0, none, []⟩,
 ⟨⟨some 161, false, none, iMov (.t 23)⟩, [23], false, 0, 0, none, []⟩,
 ⟨⟨some 162, false, none, iArith .sub (.t 160) (.t 161)⟩, [160, 161], false, 0, 0, none, []⟩,
 ⟨⟨some 163, false, none, iIaddr 1 (.t 159) (.t 162)⟩, [159, 162], false, 0, 0, none, []⟩,
 ⟨⟨some 164, false, none, iLoad (.t 163)⟩, [163], false, 0, 0, none, []⟩,
 ⟨⟨some 165, false, none, iMov (.t 0)⟩, [0], false, 0, 0, none, []⟩,
 ⟨⟨some 166, false, none, iMov (.t 23)⟩, [23], false, 0, 0, none, []⟩,
 ⟨⟨some 167, false, none, iIaddr 1 (.t 165) (.t 166)⟩, [165, 166], false, 0, 0, none, []⟩,
 ⟨⟨some 168, false, none, iLoad (.t 167)⟩, [167], false, 0, 0, none, []⟩,
 ⟨⟨some 169, false, none, iCall (.t 158) [(.t 164), (.t 168)]⟩, [158, 164, 168], true, 0, 0, none, []⟩,
 ⟨⟨some 170, false, none, iCmp .lss (.t 169) (.c (.int .i64 (.lit 0)))⟩, [169], false, 1, 1, none, []⟩,
 ⟨⟨some 171, true, none, iNot (.t 170)⟩, [170], false, 1, 1, none, []⟩])
 (cCond (.t 171) (cOps [⟨some 172, false, none, iMov (.t 23)⟩,
 ⟨some 173, false, none, iArith .add (.t 172) (.c (.int .i64 (.lit 1)))⟩,
 ⟨some 20, true, none, iMov (.t 173)⟩]) (cOps [⟨some 174, false, none, iMov (.t 23)⟩,
 ⟨some 21, true, none, iMov (.t 174)⟩]))))))))
 (cSeq (cOps [⟨some 175, false, none, iMov (.t 19)⟩,
 ⟨some 176, false, none, iMov (.t 20)⟩,
 ⟨some 177, false, none, iArith .sub (.t 175) (.t 176)⟩,
 ⟨some 24, true, none, iMov (.t 177)⟩])
 (cSeq (cSeq (cOps [⟨some 178, false, none, iMov (.t 20)⟩,
 ⟨some 179, false, none, iMov (.t 2)⟩,
 ⟨some 180, false, none, iCmp .lss (.t 178) (.t 179)⟩,
 ⟨some 181, false, none, iMov (.t 180)⟩,
 ⟨some 182, false, some (181, true), iMov (.t 2)⟩,
 ⟨some 183, false, some (181, true), iMov (.t 24)⟩,
 ⟨some 184, false, some (181, true), iCmp .lss (.t 182) (.t 183)⟩,
 ⟨some 185, true, none, iPick (.t 181) (.t 184) (.c (.bool (.lit false)))⟩])
 (cCond (.t 185) (cOps [⟨some 186, false, none, iMov (.t 0)⟩,
 ⟨some 187, false, none, iMov (.t 20)⟩,
 ⟨some 188, false, none, iMov (.t 2)⟩,
 ⟨some 189, false, none, iMov (.t 24)⟩,
 ⟨some 190, false, none, iMov (.t 4)⟩,
 ⟨some 191, false, none, iCall (.c (.func (.func 78) [] [])) [(.t 186), (.t 187), (.t 188), (.t 189), (.t 190)]⟩]) cSkip))
 (cSeq (cSeq (cOps [⟨some 192, false, none, iMov (.t 1)⟩,
 ⟨some 193, false, none, iMov (.t 20)⟩,
 ⟨some 194, false, none, iCmp .lss (.t 192) (.t 193)⟩,
 ⟨some 195, false, none, iMov (.t 194)⟩,
 ⟨some 196, false, some (195, true), iMov (.t 20)⟩,
 ⟨some 197, false, some (195, true), iMov (.t 18)⟩,
 ⟨some 198, false, some (195, true), iCmp .lss (.t 196) (.t 197)⟩,
 ⟨some 199, true, none, iPick (.t 195) (.t 198) (.c (.bool (.lit false)))⟩])
 (cCond (.t 199) (cOps [⟨some 200, false, none, iMov (.t 0)⟩,
 ⟨some 201, false, none, iMov (.t 1)⟩,
 ⟨some 202, false, none, iMov (.t 20)⟩,
 ⟨some 203, false, none, iMov (.t 18)⟩,
 ⟨some 204, false, none, iMov (.t 4)⟩,
 ⟨some 205, false, none, iCall (.c (.func (.func 77) [] [])) [(.t 200), (.t 201), (.t 202), (.t 203), (.t 204)]⟩]) cSkip))
 (cSeq (cOps [⟨some 206, false, none, iMov (.t 18)⟩,
 ⟨some 207, false, none, iMov (.t 24)⟩,
 ⟨some 208, false, none, iCmp .lss (.t 206) (.t 207)⟩,
 ⟨some 209, false, none, iMov (.t 208)⟩,
 ⟨some 210, false, some (209, true), iMov (.t 24)⟩,
 ⟨some 211, false, some (209, true), iMov (.t 3)⟩,
 ⟨some 212, false, some (209, true), iCmp .lss (.t 210) (.t 211)⟩,
 ⟨some 213, true, none, iPick (.t 209) (.t 212) (.c (.bool (.lit false)))⟩])
 (cCond (.t 213) (cOps [⟨some 214, false, none, iMov (.t 0)⟩,
 ⟨some 215, false, none, iMov (.t 18)⟩,
 ⟨some 216, false, none, iMov (.t 24)⟩,
 ⟨some 217, false, none, iMov (.t 3)⟩,
 ⟨some 218, false, none, iMov (.t 4)⟩,
 ⟨some 219, false, none, iCall (.c (.func (.func 77) [] [])) [(.t 214), (.t 215), (.t 216), (.t 217), (.t 218)]⟩]) cSkip))))))))))))), []⟩
noncomputable def Tryd.kp78 : List Nat := [0, 1, 2, 3, 4, 10, 11, 20, 23]
noncomputable def Tryd.cf78 : CF := ⟨5, (cSeq (cOps [⟨some 12, false, none, iMov (.t 2)⟩,
 ⟨some 13, false, none, iMov (.t 1)⟩,
 ⟨some 14, false, none, iArith .sub (.t 12) (.t 13)⟩,
 ⟨some 10, true, none, iMov (.t 14)⟩])
 (cSeq (cOps [⟨some 15, false, none, iMov (.t 3)⟩,
 ⟨some 16, false, none, iMov (.t 2)⟩,
 ⟨some 17, false, none, iArith .sub (.t 15) (.t 16)⟩,
 ⟨some 11, true, none, iMov (.t 17)⟩])
 (cSeq (cBlock 0 (cLoop (cSeq (cSeq (cOps [⟨some 18, false, none, iMov (.t 10)⟩,
 ⟨some 19, false, none, iMov (.t 11)⟩,
 ⟨some 20, true, none, iCmp .neq (.t 18) (.t 19)⟩])
 (cCond (.t 20) cSkip (cExit 0)))
 (cBlock 1 (cSeq (cOps [⟨some 21, false, none, iMov (.t 10)⟩,
 ⟨some 22, false, none, iMov (.t 11)⟩,
 ⟨some 23, true, none, iCmp .gtr (.t 21) (.t 22)⟩])
 (cCond (.t 23) (cSeq (cOps [⟨some 24, false, none, iMov (.t 0)⟩,
 ⟨some 25, false, none, iMov (.t 2)⟩,
 ⟨some 26, false, none, iMov (.t 10)⟩,
 ⟨some 27, false, none, iArith .sub (.t 25) (.t 26)⟩,
 ⟨some 28, false, none, iMov (.t 2)⟩,
 ⟨some 29, false, none, iMov (.t 11)⟩,
 ⟨some 30, false, none, iMov (.t 4)⟩,
 ⟨some 31, false, none, iCall (.c (.func (.func 79) [] [])) [(.t 24), (.t 27), (.t 28), (.t 29), (.t 30)]⟩])
 (cOps [⟨some 32, false, none, iMov (.t 10)⟩,
 ⟨some 33, false, none, iMov (.t 11)⟩,
 ⟨some 34, false, none, iArith .sub (.t 32) (.t 33)⟩,
 ⟨some 10, true, none, iMov (.t 34)⟩])) (cSeq (cOps [⟨some 35, false, none, iMov (.t 0)⟩,
 ⟨some 36, false, none, iMov (.t 2)⟩,
 ⟨some 37, false, none, iMov (.t 10)⟩,
 ⟨some 38, false, none, iArith .sub (.t 36) (.t 37)⟩,
 ⟨some 39, false, none, iMov (.t 2)⟩,
 ⟨some 40, false, none, iMov (.t 11)⟩,
 ⟨some 41, false, none, iArith .add (.t 39) (.t 40)⟩,
 ⟨some 42, false, none, iMov (.t 10)⟩,
 ⟨some 43, false, none, iArith .sub (.t 41) (.t 42)⟩,
 ⟨some 44, false, none, iMov (.t 10)⟩,
 ⟨some 45, false, none, iMov (.t 4)⟩,
 ⟨some 46, false, none, iCall (.c (.func (.func 79) [] [])) [(.t 35), (.t 38), (.t 43), (.t 44), (.t 45)]⟩])
 (cOps [⟨some 47, false, none, iMov (.t 11)⟩,
 ⟨some 48, false, none, iMov (.t 10)⟩,
 ⟨some 49, false, none, iArith .sub (.t 47) (.t 48)⟩,
 ⟨some 11, true, none, iMov (.t 49)⟩]))))))))
 (cOps [⟨some 50, false, none, iMov (.t 0)⟩,
 ⟨some 51, false, none, iMov (.t 2)⟩,
 ⟨some 52, false, none, iMov (.t 10)⟩,
 ⟨some 53, false, none, iArith .sub (.t 51) (.t 52)⟩,
 ⟨some 54, false, none, iMov (.t 2)⟩,
 ⟨some 55, false, none, iMov (.t 10)⟩,
 ⟨some 56, false, none, iMov (.t 4)⟩,
 ⟨some 57, false, none, iCall (.c (.func (.func 79) [] [])) [(.t 50), (.t 53), (.t 54), (.t 55), (.t 56)]⟩])))), []⟩
noncomputable def Tryd.kp79 : List Nat := [0, 1, 2, 3, 4, 10, 13]
noncomputable def Tryd.cf79 : CF := ⟨5, (cSeq (cOps [⟨some 10, true, none, iMov (.c (.int .i64 (.lit 0)))⟩])
 (cBlock 0 (cLoop (cSeq (cSeq (cOps [⟨some 11, false, none, iMov (.t 10)⟩,
 ⟨some 12, false, none, iMov (.t 3)⟩,
 ⟨some 13, true, none, iCmp .lss (.t 11) (.t 12)⟩])
 (cCond (.t 13) cSkip (cExit 0)))
 (cSeq (cBlock 1 (dOps 0 [⟨⟨some 16, false, none, iMov (.t 0)⟩, [0], false, 0, 0, none, []⟩,
 ⟨⟨some 17, false, none, iMov (.t 1)⟩, [1], false, 0, 0, none, []⟩,
 ⟨⟨some 18, false, none, iMov (.t 10)⟩, [10], false, 0, 0, none, []⟩,
 ⟨⟨some 19, false, none, iArith .add (.t 17) (.t 18)⟩, [17, 18], false, 0, 0, none, []⟩,
 ⟨⟨some 20, false, none, iMov (.t 0)⟩, [0], false, 0, 1, none, []⟩,
 ⟨⟨some 21, false, none, iMov (.t 2)⟩, [2], false, 0, 1, none, []⟩,
 ⟨⟨some 22, false, none, iMov (.t 10)⟩, [10], false, 0, 1, none, []⟩,
 ⟨⟨some 23, false, none, iArith .add (.t 21) (.t 22)⟩, [21, 22], false, 0, 1, none, []⟩,
 ⟨⟨some 24, false, none, iMov (.t 0)⟩, [0], false, 0, 0, none, []⟩,
 ⟨⟨some 25, false, none, iMov (.t 2)⟩, [2], false, 0, 0, none, []⟩,
 ⟨⟨some 26, false, none, iMov (.t 10)⟩, [10], false, 0, 0, none, []⟩,
 ⟨⟨some 27, false, none, iArith .add (.t 25) (.t 26)⟩, [25, 26], false, 0, 0, none, []⟩,
 ⟨⟨some 28, false, none, iIaddr 1 (.t 24) (.t 27)⟩, [24, 27], false, 0, 0, none, []⟩,
 ⟨⟨some 29, false, none, iLoad (.t 28)⟩, [28], false, 0, 0, none, []⟩,
 ⟨⟨some 30, false, none, iMov (.t 0)⟩, [0], false, 0, 0, none, []⟩,
 ⟨⟨some 31, false, none, iMov (.t 1)⟩, [1], false, 0, 0, none, []⟩,
 ⟨⟨some 32, false, none, iMov (.t 10)⟩, [10], false, 0, 0, none, []⟩,
 ⟨⟨some 33, false, none, iArith .add (.t 31) (.t 32)⟩, [31, 32], false, 0, 0, none, []⟩,
 ⟨⟨some 34, false, none, iIaddr 1 (.t 30) (.t 33)⟩, [30, 33], false, 0, 0, none, []⟩,
 ⟨⟨some 35, false, none, iLoad (.t 34)⟩, [34], false, 0, 0, none, []⟩,
 ⟨⟨some 36, false, none, iIaddr 1 (.t 16) (.t 19)⟩, [16, 19], false, 0, 0, none, []⟩,
 ⟨⟨none, false, none, iStore 1 (.t 36) (.t 29)⟩, [36, 29], true, 0, 0, none, []⟩,
 ⟨⟨some 37, false, none, iIaddr 1 (.t 20) (.t 23)⟩, [20, 23], false, 1, 1, none, []⟩,
 ⟨⟨none, false, none, iStore 1 (.t 37) (.t 35)⟩, [37, 35], true, 1, 0, none, []⟩]))
 (cOps [⟨some 14, false, none, iMov (.t 10)⟩,
 ⟨some 15, false, none, iArith .add (.t 14) (.c (.int .i64 (.lit 1)))⟩,
 ⟨some 10, true, none, iMov (.t 15)⟩])))))), []⟩
noncomputable def Tryd.ft : PT CF := (.node none (.node none (.node (some Tryd.cf3) (.node (some Tryd.cf7) (.node (some Tryd.cf15) (.node (some Tryd.cf31) (.node (some Tryd.cf63) .nil .nil) .nil) (.node (some Tryd.cf47) (.node (some Tryd.cf79) .nil .nil) .nil)) (.node (some Tryd.cf23) (.node (some Tryd.cf39) (.node (some Tryd.cf71) .nil .nil) .nil) (.node (some Tryd.cf55) .nil .nil))) (.node (some Tryd.cf11) (.node (some Tryd.cf19) (.node (some Tryd.cf35) (.node (some Tryd.cf67) .nil .nil) .nil) (.node (some Tryd.cf51) .nil .nil)) (.node (some Tryd.cf27) (.node (some Tryd.cf43) (.node (some Tryd.cf75) .nil .nil) .nil) (.node (some Tryd.cf59) .nil .nil)))) (.node (some Tryd.cf5) (.node (some Tryd.cf9) (.node (some Tryd.cf17) (.node (some Tryd.cf33) (.node (some Tryd.cf65) .nil .nil) .nil) (.node (some Tryd.cf49) .nil .nil)) (.node (some Tryd.cf25) (.node (some Tryd.cf41) (.node (some Tryd.cf73) .nil .nil) .nil) (.node (some Tryd.cf57) .nil .nil))) (.node (some Tryd.cf13) (.node (some Tryd.cf21) (.node (some Tryd.cf37) (.node (some Tryd.cf69) .nil .nil) .nil) (.node (some Tryd.cf53) .nil .nil)) (.node (some Tryd.cf29) (.node (some Tryd.cf45) (.node (some Tryd.cf77) .nil .nil) .nil) (.node (some Tryd.cf61) .nil .nil))))) (.node none (.node (some Tryd.cf4) (.node (some Tryd.cf8) (.node (some Tryd.cf16) (.node (some Tryd.cf32) (.node (some Tryd.cf64) .nil .nil) .nil) (.node (some Tryd.cf48) .nil .nil)) (.node (some Tryd.cf24) (.node (some Tryd.cf40) (.node (some Tryd.cf72) .nil .nil) .nil) (.node (some Tryd.cf56) .nil .nil))) (.node (some Tryd.cf12) (.node (some Tryd.cf20) (.node (some Tryd.cf36) (.node (some Tryd.cf68) .nil .nil) .nil) (.node (some Tryd.cf52) .nil .nil)) (.node (some Tryd.cf28) (.node (some Tryd.cf44) (.node (some Tryd.cf76) .nil .nil) .nil) (.node (some Tryd.cf60) .nil .nil)))) (.node (some Tryd.cf6) (.node (some Tryd.cf10) (.node (some Tryd.cf18) (.node (some Tryd.cf34) (.node (some Tryd.cf66) .nil .nil) .nil) (.node (some Tryd.cf50) .nil .nil)) (.node (some Tryd.cf26) (.node (some Tryd.cf42) (.node (some Tryd.cf74) .nil .nil) .nil) (.node (some Tryd.cf58) .nil .nil))) (.node (some Tryd.cf14) (.node (some Tryd.cf22) (.node (some Tryd.cf38) (.node (some Tryd.cf70) .nil .nil) .nil) (.node (some Tryd.cf54) .nil .nil)) (.node (some Tryd.cf30) (.node (some Tryd.cf46) (.node (some Tryd.cf78) .nil .nil) .nil) (.node (some Tryd.cf62) .nil .nil))))))
noncomputable def Tryd.rt : List (Nat × (C × C)) := [(21033, (Tryd.ra21033, Tryd.rb21033)), (32015, (Tryd.ra32015, Tryd.rb32015)), (66009, (Tryd.ra66009, Tryd.rb66009)), (72010, (Tryd.ra72010, Tryd.rb72010))]
end Go.Sx
