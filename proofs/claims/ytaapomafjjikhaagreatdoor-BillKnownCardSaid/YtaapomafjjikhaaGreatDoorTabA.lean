/- THE TABLES OF THE PROGRAM: its types, and its functions as the evaluator runs them. -/
import Derived.Test.YtaapomafjjikhaaGreatDoorSxComp
import Derived.KernelRfl
/-! THE TABLES OF THE PROGRAM: its types, and its functions as the evaluator runs them. -/
namespace Go.Sx
set_option maxRecDepth 100000
noncomputable def Tryz.ti0 : TI := ⟨.tuple #[], 1, 0, none, false⟩
noncomputable def Tryz.ti1 : TI := ⟨.func #[] #[] false, 1, 8, (some .nilFunc), false⟩
noncomputable def Tryz.ti2 : TI := ⟨.int .i64, 1, 8, (some (.int .i64 (.lit 0))), false⟩
noncomputable def Tryz.ti3 : TI := ⟨.int .i64, 1, 8, (some (.int .i64 (.lit 0))), false⟩
noncomputable def Tryz.ti4 : TI := ⟨.bool, 1, 1, (some (.bool (.lit false))), false⟩
noncomputable def Tryz.ti5 : TI := ⟨.int .u8, 1, 1, (some (.int .u8 (.lit 0))), false⟩
noncomputable def Tryz.ti6 : TI := ⟨.int .u8, 1, 1, (some (.int .u8 (.lit 0))), false⟩
noncomputable def Tryz.ti7 : TI := ⟨.struct #[⟨ "x", 2, 0, false, "", "runtime", 0⟩, ⟨ "y", 3, 1, false, "", "runtime", 8⟩, ⟨ "signed", 4, 2, false, "", "runtime", 16⟩, ⟨ "code", 6, 3, false, "", "runtime", 17⟩], 4, 24, (some (.agg [(.int .i64 (.lit 0)), (.int .i64 (.lit 0)), (.bool (.lit false)), (.int .u8 (.lit 0))])), true⟩
noncomputable def Tryz.ti8 : TI := ⟨.struct #[⟨ "x", 2, 0, false, "", "runtime", 0⟩, ⟨ "y", 3, 1, false, "", "runtime", 8⟩, ⟨ "signed", 4, 2, false, "", "runtime", 16⟩, ⟨ "code", 6, 3, false, "", "runtime", 17⟩], 4, 24, (some (.agg [(.int .i64 (.lit 0)), (.int .i64 (.lit 0)), (.bool (.lit false)), (.int .u8 (.lit 0))])), true⟩
noncomputable def Tryz.ti9 : TI := ⟨.string, 1, 16, none, false⟩
noncomputable def Tryz.ti10 : TI := ⟨.string, 1, 16, none, false⟩
noncomputable def Tryz.ti11 : TI := ⟨.string, 1, 16, none, false⟩
noncomputable def Tryz.ti12 : TI := ⟨.int .u64, 1, 8, (some (.int .u64 (.lit 0))), false⟩
noncomputable def Tryz.ti13 : TI := ⟨.struct #[⟨ "msg", 9, 0, false, "", "runtime", 0⟩, ⟨ "addr", 12, 1, false, "", "runtime", 16⟩], 2, 24, none, false⟩
noncomputable def Tryz.ti14 : TI := ⟨.struct #[⟨ "msg", 9, 0, false, "", "runtime", 0⟩, ⟨ "addr", 12, 1, false, "", "runtime", 16⟩], 2, 24, none, false⟩
noncomputable def Tryz.ti15 : TI := ⟨.pointer 327, 1, 8, (some .nilptr), false⟩
noncomputable def Tryz.ti16 : TI := ⟨.pointer 330, 1, 8, (some .nilptr), false⟩
noncomputable def Tryz.ti17 : TI := ⟨.pointer 339, 1, 8, (some .nilptr), false⟩
noncomputable def Tryz.ti18 : TI := ⟨.struct #[⟨ "typ", 17, 0, false, "", "internal/runtime/maps", 0⟩], 1, 8, (some (.agg [.nilptr])), false⟩
noncomputable def Tryz.ti19 : TI := ⟨.struct #[⟨ "typ", 17, 0, false, "", "internal/runtime/maps", 0⟩], 1, 8, (some (.agg [.nilptr])), false⟩
noncomputable def Tryz.ti20 : TI := ⟨.interface #[], 1, 16, none, false⟩
noncomputable def Tryz.ti21 : TI := ⟨.int .i32, 1, 4, (some (.int .i32 (.lit 0))), false⟩
noncomputable def Tryz.ti22 : TI := ⟨.slice 166, 1, 24, (some .nilslice), false⟩
noncomputable def Tryz.ti23 : TI := ⟨.slice 29, 1, 24, (some .nilslice), false⟩
noncomputable def Tryz.ti24 : TI := ⟨.slice 191, 1, 24, (some .nilslice), false⟩
noncomputable def Tryz.ti25 : TI := ⟨.struct #[⟨ "Kinds", 22, 0, false, "", "", 0⟩, ⟨ "Pause", 3, 1, false, "", "", 24⟩, ⟨ "Barred", 23, 2, false, "", "", 32⟩, ⟨ "Forbidden", 3, 3, false, "", "", 56⟩, ⟨ "Close", 3, 4, false, "", "", 64⟩, ⟨ "Held", 24, 5, false, "", "", 72⟩], 6, 96, (some (.agg [.nilslice, (.int .i64 (.lit 0)), .nilslice, (.int .i64 (.lit 0)), (.int .i64 (.lit 0)), .nilslice])), true⟩
noncomputable def Tryz.ti26 : TI := ⟨.struct #[⟨ "Kinds", 22, 0, false, "", "", 0⟩, ⟨ "Pause", 3, 1, false, "", "", 24⟩, ⟨ "Barred", 23, 2, false, "", "", 32⟩, ⟨ "Forbidden", 3, 3, false, "", "", 56⟩, ⟨ "Close", 3, 4, false, "", "", 64⟩, ⟨ "Held", 24, 5, false, "", "", 72⟩], 6, 96, (some (.agg [.nilslice, (.int .i64 (.lit 0)), .nilslice, (.int .i64 (.lit 0)), (.int .i64 (.lit 0)), .nilslice])), true⟩
noncomputable def Tryz.ti27 : TI := ⟨.slice 70, 1, 24, (some .nilslice), false⟩
noncomputable def Tryz.ti28 : TI := ⟨.struct #[⟨ "Low", 3, 0, false, "", "", 0⟩, ⟨ "High", 3, 1, false, "", "", 8⟩], 2, 16, (some (.agg [(.int .i64 (.lit 0)), (.int .i64 (.lit 0))])), true⟩
noncomputable def Tryz.ti29 : TI := ⟨.struct #[⟨ "Low", 3, 0, false, "", "", 0⟩, ⟨ "High", 3, 1, false, "", "", 8⟩], 2, 16, (some (.agg [(.int .i64 (.lit 0)), (.int .i64 (.lit 0))])), true⟩
noncomputable def Tryz.ti30 : TI := ⟨.struct #[⟨ "Town", 26, 0, false, "", "", 0⟩, ⟨ "Day", 3, 6, false, "", "", 96⟩, ⟨ "Films", 27, 7, false, "", "", 104⟩, ⟨ "Change", 29, 8, false, "", "", 128⟩, ⟨ "Pause", 29, 10, false, "", "", 144⟩, ⟨ "Two", 4, 12, false, "", "", 160⟩], 13, 168, (some (.agg [.nilslice, (.int .i64 (.lit 0)), .nilslice, (.int .i64 (.lit 0)), (.int .i64 (.lit 0)), .nilslice, (.int .i64 (.lit 0)), .nilslice, (.int .i64 (.lit 0)), (.int .i64 (.lit 0)), (.int .i64 (.lit 0)), (.int .i64 (.lit 0)), (.bool (.lit false))])), true⟩
noncomputable def Tryz.ti31 : TI := ⟨.struct #[⟨ "Town", 26, 0, false, "", "", 0⟩, ⟨ "Day", 3, 6, false, "", "", 96⟩, ⟨ "Films", 27, 7, false, "", "", 104⟩, ⟨ "Change", 29, 8, false, "", "", 128⟩, ⟨ "Pause", 29, 10, false, "", "", 144⟩, ⟨ "Two", 4, 12, false, "", "", 160⟩], 13, 168, (some (.agg [.nilslice, (.int .i64 (.lit 0)), .nilslice, (.int .i64 (.lit 0)), (.int .i64 (.lit 0)), .nilslice, (.int .i64 (.lit 0)), .nilslice, (.int .i64 (.lit 0)), (.int .i64 (.lit 0)), (.int .i64 (.lit 0)), (.int .i64 (.lit 0)), (.bool (.lit false))])), true⟩
noncomputable def Tryz.ti32 : TI := ⟨.slice 3, 1, 24, (some .nilslice), false⟩
noncomputable def Tryz.ti33 : TI := ⟨.array 2 3, 2, 16, (some (.agg [(.int .i64 (.lit 0)), (.int .i64 (.lit 0))])), true⟩
noncomputable def Tryz.ti34 : TI := ⟨.int .i64, 1, 8, (some (.int .i64 (.lit 0))), false⟩
noncomputable def Tryz.ti35 : TI := ⟨.tuple #[29, 34], 1, 0, none, false⟩
noncomputable def Tryz.ti36 : TI := ⟨.func #[31, 3] #[29, 34] false, 1, 8, (some .nilFunc), false⟩
noncomputable def Tryz.ti37 : TI := ⟨.func #[31] #[34] false, 1, 8, (some .nilFunc), false⟩
noncomputable def Tryz.ti38 : TI := ⟨.tuple #[23, 34], 1, 0, none, false⟩
noncomputable def Tryz.ti39 : TI := ⟨.func #[31, 32, 3] #[23, 34] false, 1, 8, (some .nilFunc), false⟩
noncomputable def Tryz.ti40 : TI := ⟨.func #[23, 23] #[4] false, 1, 8, (some .nilFunc), false⟩
noncomputable def Tryz.ti41 : TI := ⟨.tuple #[32, 34], 1, 0, none, false⟩
noncomputable def Tryz.ti42 : TI := ⟨.func #[31, 32, 3] #[32, 34] false, 1, 8, (some .nilFunc), false⟩
noncomputable def Tryz.ti43 : TI := ⟨.func #[32, 32] #[4] false, 1, 8, (some .nilFunc), false⟩
noncomputable def Tryz.ti44 : TI := ⟨.func #[] #[4] false, 1, 8, (some .nilFunc), false⟩
noncomputable def Tryz.ti45 : TI := ⟨.func #[31, 32, 33] #[4] false, 1, 8, (some .nilFunc), false⟩
noncomputable def Tryz.ti46 : TI := ⟨.tuple #[3, 34], 1, 0, none, false⟩
noncomputable def Tryz.ti47 : TI := ⟨.func #[31, 32] #[3, 34] false, 1, 8, (some .nilFunc), false⟩
noncomputable def Tryz.ti48 : TI := ⟨.func #[31, 3] #[32, 34] false, 1, 8, (some .nilFunc), false⟩
noncomputable def Tryz.ti49 : TI := ⟨.func #[31, 32, 3] #[4] false, 1, 8, (some .nilFunc), false⟩
noncomputable def Tryz.ti50 : TI := ⟨.func #[31] #[4] false, 1, 8, (some .nilFunc), false⟩
noncomputable def Tryz.ti51 : TI := ⟨.func #[31, 32] #[32] false, 1, 8, (some .nilFunc), false⟩
noncomputable def Tryz.ti52 : TI := ⟨.func #[3, 3] #[3] false, 1, 8, (some .nilFunc), false⟩
noncomputable def Tryz.ti53 : TI := ⟨.tuple #[32, 4], 1, 0, none, false⟩
noncomputable def Tryz.ti54 : TI := ⟨.func #[31, 32, 3, 32] #[32, 4] false, 1, 8, (some .nilFunc), false⟩
noncomputable def Tryz.ti55 : TI := ⟨.func #[29, 3] #[4] false, 1, 8, (some .nilFunc), false⟩
noncomputable def Tryz.ti56 : TI := ⟨.func #[31, 3, 3] #[4] false, 1, 8, (some .nilFunc), false⟩
noncomputable def Tryz.ti57 : TI := ⟨.func #[31, 4] #[31] false, 1, 8, (some .nilFunc), false⟩
noncomputable def Tryz.ti58 : TI := ⟨.func #[3] #[29] false, 1, 8, (some .nilFunc), false⟩
noncomputable def Tryz.ti59 : TI := ⟨.func #[3, 3, 3] #[4] false, 1, 8, (some .nilFunc), false⟩
noncomputable def Tryz.ti60 : TI := ⟨.func #[31, 32, 3] #[3] false, 1, 8, (some .nilFunc), false⟩
noncomputable def Tryz.ti61 : TI := ⟨.func #[32, 3] #[4] false, 1, 8, (some .nilFunc), false⟩
noncomputable def Tryz.ti62 : TI := ⟨.func #[32, 32] #[32] false, 1, 8, (some .nilFunc), false⟩
noncomputable def Tryz.ti63 : TI := ⟨.func #[3, 3] #[32] false, 1, 8, (some .nilFunc), false⟩
noncomputable def Tryz.ti64 : TI := ⟨.array 3 3, 3, 24, (some (.agg [(.int .i64 (.lit 0)), (.int .i64 (.lit 0)), (.int .i64 (.lit 0))])), true⟩
noncomputable def Tryz.ti65 : TI := ⟨.func #[3, 3] #[29] false, 1, 8, (some .nilFunc), false⟩
noncomputable def Tryz.ti66 : TI := ⟨.slice 130, 1, 24, (some .nilslice), false⟩
noncomputable def Tryz.ti67 : TI := ⟨.struct #[⟨ "Reels", 66, 0, false, "", "", 0⟩, ⟨ "Turn", 29, 1, false, "", "", 24⟩, ⟨ "Tear", 29, 3, false, "", "", 40⟩, ⟨ "Spool", 3, 5, false, "", "", 56⟩], 6, 64, (some (.agg [.nilslice, (.int .i64 (.lit 0)), (.int .i64 (.lit 0)), (.int .i64 (.lit 0)), (.int .i64 (.lit 0)), (.int .i64 (.lit 0))])), true⟩
noncomputable def Tryz.ti68 : TI := ⟨.struct #[⟨ "Reels", 66, 0, false, "", "", 0⟩, ⟨ "Turn", 29, 1, false, "", "", 24⟩, ⟨ "Tear", 29, 3, false, "", "", 40⟩, ⟨ "Spool", 3, 5, false, "", "", 56⟩], 6, 64, (some (.agg [.nilslice, (.int .i64 (.lit 0)), (.int .i64 (.lit 0)), (.int .i64 (.lit 0)), (.int .i64 (.lit 0)), (.int .i64 (.lit 0))])), true⟩
noncomputable def Tryz.ti69 : TI := ⟨.struct #[⟨ "Film", 3, 0, false, "", "", 0⟩, ⟨ "Reels", 68, 1, false, "", "", 8⟩, ⟨ "Shows", 3, 7, false, "", "", 72⟩, ⟨ "From", 3, 8, false, "", "", 80⟩, ⟨ "Until", 3, 9, false, "", "", 88⟩], 10, 96, (some (.agg [(.int .i64 (.lit 0)), .nilslice, (.int .i64 (.lit 0)), (.int .i64 (.lit 0)), (.int .i64 (.lit 0)), (.int .i64 (.lit 0)), (.int .i64 (.lit 0)), (.int .i64 (.lit 0)), (.int .i64 (.lit 0)), (.int .i64 (.lit 0))])), true⟩
noncomputable def Tryz.ti70 : TI := ⟨.struct #[⟨ "Film", 3, 0, false, "", "", 0⟩, ⟨ "Reels", 68, 1, false, "", "", 8⟩, ⟨ "Shows", 3, 7, false, "", "", 72⟩, ⟨ "From", 3, 8, false, "", "", 80⟩, ⟨ "Until", 3, 9, false, "", "", 88⟩], 10, 96, (some (.agg [(.int .i64 (.lit 0)), .nilslice, (.int .i64 (.lit 0)), (.int .i64 (.lit 0)), (.int .i64 (.lit 0)), (.int .i64 (.lit 0)), (.int .i64 (.lit 0)), (.int .i64 (.lit 0)), (.int .i64 (.lit 0)), (.int .i64 (.lit 0))])), true⟩
noncomputable def Tryz.ti71 : TI := ⟨.func #[31, 32, 64] #[4] false, 1, 8, (some .nilFunc), false⟩
noncomputable def Tryz.ti72 : TI := ⟨.func #[] #[31] false, 1, 8, (some .nilFunc), false⟩
noncomputable def Tryz.ti73 : TI := ⟨.slice 31, 1, 24, (some .nilslice), false⟩
noncomputable def Tryz.ti74 : TI := ⟨.func #[29, 3, 75] #[68] false, 1, 8, (some .nilFunc), false⟩
noncomputable def Tryz.ti75 : TI := ⟨.slice 64, 1, 24, (some .nilslice), false⟩
noncomputable def Tryz.ti76 : TI := ⟨.slice 32, 1, 24, (some .nilslice), false⟩
noncomputable def Tryz.ti77 : TI := ⟨.array 2 29, 4, 32, (some (.agg [(.int .i64 (.lit 0)), (.int .i64 (.lit 0)), (.int .i64 (.lit 0)), (.int .i64 (.lit 0))])), true⟩
noncomputable def Tryz.ti78 : TI := ⟨.slice 85, 1, 24, (some .nilslice), false⟩
noncomputable def Tryz.ti79 : TI := ⟨.struct #[⟨ "Coal", 29, 0, false, "", "", 0⟩, ⟨ "Water", 29, 2, false, "", "", 16⟩, ⟨ "Bunker", 3, 4, false, "", "", 32⟩, ⟨ "Tank", 3, 5, false, "", "", 40⟩, ⟨ "Scoop", 3, 6, false, "", "", 48⟩, ⟨ "Pail", 3, 7, false, "", "", 56⟩, ⟨ "Burn", 77, 8, false, "", "", 64⟩, ⟨ "Drink", 77, 12, false, "", "", 96⟩, ⟨ "Full", 29, 16, false, "", "", 128⟩, ⟨ "Weak", 29, 18, false, "", "", 144⟩, ⟨ "Mark", 3, 20, false, "", "", 160⟩, ⟨ "Lamp", 3, 21, false, "", "", 168⟩, ⟨ "Parts", 78, 22, false, "", "", 176⟩], 23, 200, (some (.agg [(.int .i64 (.lit 0)), (.int .i64 (.lit 0)), (.int .i64 (.lit 0)), (.int .i64 (.lit 0)), (.int .i64 (.lit 0)), (.int .i64 (.lit 0)), (.int .i64 (.lit 0)), (.int .i64 (.lit 0)), (.int .i64 (.lit 0)), (.int .i64 (.lit 0)), (.int .i64 (.lit 0)), (.int .i64 (.lit 0)), (.int .i64 (.lit 0)), (.int .i64 (.lit 0)), (.int .i64 (.lit 0)), (.int .i64 (.lit 0)), (.int .i64 (.lit 0)), (.int .i64 (.lit 0)), (.int .i64 (.lit 0)), (.int .i64 (.lit 0)), (.int .i64 (.lit 0)), (.int .i64 (.lit 0)), .nilslice])), true⟩
noncomputable def Tryz.ti80 : TI := ⟨.struct #[⟨ "Coal", 29, 0, false, "", "", 0⟩, ⟨ "Water", 29, 2, false, "", "", 16⟩, ⟨ "Bunker", 3, 4, false, "", "", 32⟩, ⟨ "Tank", 3, 5, false, "", "", 40⟩, ⟨ "Scoop", 3, 6, false, "", "", 48⟩, ⟨ "Pail", 3, 7, false, "", "", 56⟩, ⟨ "Burn", 77, 8, false, "", "", 64⟩, ⟨ "Drink", 77, 12, false, "", "", 96⟩, ⟨ "Full", 29, 16, false, "", "", 128⟩, ⟨ "Weak", 29, 18, false, "", "", 144⟩, ⟨ "Mark", 3, 20, false, "", "", 160⟩, ⟨ "Lamp", 3, 21, false, "", "", 168⟩, ⟨ "Parts", 78, 22, false, "", "", 176⟩], 23, 200, (some (.agg [(.int .i64 (.lit 0)), (.int .i64 (.lit 0)), (.int .i64 (.lit 0)), (.int .i64 (.lit 0)), (.int .i64 (.lit 0)), (.int .i64 (.lit 0)), (.int .i64 (.lit 0)), (.int .i64 (.lit 0)), (.int .i64 (.lit 0)), (.int .i64 (.lit 0)), (.int .i64 (.lit 0)), (.int .i64 (.lit 0)), (.int .i64 (.lit 0)), (.int .i64 (.lit 0)), (.int .i64 (.lit 0)), (.int .i64 (.lit 0)), (.int .i64 (.lit 0)), (.int .i64 (.lit 0)), (.int .i64 (.lit 0)), (.int .i64 (.lit 0)), (.int .i64 (.lit 0)), (.int .i64 (.lit 0)), .nilslice])), true⟩
noncomputable def Tryz.ti81 : TI := ⟨.func #[80] #[34] false, 1, 8, (some .nilFunc), false⟩
noncomputable def Tryz.ti82 : TI := ⟨.func #[29, 3, 3] #[4] false, 1, 8, (some .nilFunc), false⟩
noncomputable def Tryz.ti83 : TI := ⟨.func #[3, 32, 3] #[32] false, 1, 8, (some .nilFunc), false⟩
noncomputable def Tryz.ti84 : TI := ⟨.struct #[⟨ "Minutes", 29, 0, false, "", "", 0⟩, ⟨ "Light", 4, 2, false, "", "", 16⟩, ⟨ "Walks", 3, 3, false, "", "", 24⟩], 4, 32, (some (.agg [(.int .i64 (.lit 0)), (.int .i64 (.lit 0)), (.bool (.lit false)), (.int .i64 (.lit 0))])), true⟩
noncomputable def Tryz.ti85 : TI := ⟨.struct #[⟨ "Minutes", 29, 0, false, "", "", 0⟩, ⟨ "Light", 4, 2, false, "", "", 16⟩, ⟨ "Walks", 3, 3, false, "", "", 24⟩], 4, 32, (some (.agg [(.int .i64 (.lit 0)), (.int .i64 (.lit 0)), (.bool (.lit false)), (.int .i64 (.lit 0))])), true⟩
noncomputable def Tryz.ti86 : TI := ⟨.func #[29] #[29] false, 1, 8, (some .nilFunc), false⟩
noncomputable def Tryz.ti87 : TI := ⟨.slice 138, 1, 24, (some .nilslice), false⟩
noncomputable def Tryz.ti88 : TI := ⟨.tuple #[87, 34], 1, 0, none, false⟩
noncomputable def Tryz.ti89 : TI := ⟨.func #[80] #[87, 34] false, 1, 8, (some .nilFunc), false⟩
noncomputable def Tryz.ti90 : TI := ⟨.func #[29, 3] #[3] false, 1, 8, (some .nilFunc), false⟩
noncomputable def Tryz.ti91 : TI := ⟨.func #[32, 3] #[3] false, 1, 8, (some .nilFunc), false⟩
noncomputable def Tryz.ti92 : TI := ⟨.func #[80, 87] #[3, 34] false, 1, 8, (some .nilFunc), false⟩
noncomputable def Tryz.ti93 : TI := ⟨.func #[31, 80, 3, 32] #[4] false, 1, 8, (some .nilFunc), false⟩
noncomputable def Tryz.ti94 : TI := ⟨.array 4 3, 4, 32, (some (.agg [(.int .i64 (.lit 0)), (.int .i64 (.lit 0)), (.int .i64 (.lit 0)), (.int .i64 (.lit 0))])), true⟩
noncomputable def Tryz.ti95 : TI := ⟨.func #[26] #[34] false, 1, 8, (some .nilFunc), false⟩
noncomputable def Tryz.ti96 : TI := ⟨.tuple #[24, 34], 1, 0, none, false⟩
noncomputable def Tryz.ti97 : TI := ⟨.func #[26, 3, 32] #[24, 34] false, 1, 8, (some .nilFunc), false⟩
noncomputable def Tryz.ti98 : TI := ⟨.func #[26, 29] #[32, 34] false, 1, 8, (some .nilFunc), false⟩
noncomputable def Tryz.ti99 : TI := ⟨.func #[31, 32, 94, 32] #[4] false, 1, 8, (some .nilFunc), false⟩
noncomputable def Tryz.ti100 : TI := ⟨.array 5 29, 10, 80, (some (.agg [(.int .i64 (.lit 0)), (.int .i64 (.lit 0)), (.int .i64 (.lit 0)), (.int .i64 (.lit 0)), (.int .i64 (.lit 0)), (.int .i64 (.lit 0)), (.int .i64 (.lit 0)), (.int .i64 (.lit 0)), (.int .i64 (.lit 0)), (.int .i64 (.lit 0))])), true⟩
noncomputable def Tryz.ti101 : TI := ⟨.map 175 3, 1, 8, (some .nilmap), false⟩
noncomputable def Tryz.ti102 : TI := ⟨.struct #[⟨ "BillBook", 31, 0, true, "", "", 0⟩, ⟨ "lasts", 100, 13, false, "", "bioscope/bill", 168⟩, ⟨ "found", 101, 23, false, "", "bioscope/bill", 248⟩], 24, 256, (some (.agg [.nilslice, (.int .i64 (.lit 0)), .nilslice, (.int .i64 (.lit 0)), (.int .i64 (.lit 0)), .nilslice, (.int .i64 (.lit 0)), .nilslice, (.int .i64 (.lit 0)), (.int .i64 (.lit 0)), (.int .i64 (.lit 0)), (.int .i64 (.lit 0)), (.bool (.lit false)), (.int .i64 (.lit 0)), (.int .i64 (.lit 0)), (.int .i64 (.lit 0)), (.int .i64 (.lit 0)), (.int .i64 (.lit 0)), (.int .i64 (.lit 0)), (.int .i64 (.lit 0)), (.int .i64 (.lit 0)), (.int .i64 (.lit 0)), (.int .i64 (.lit 0)), .nilmap])), true⟩
noncomputable def Tryz.ti103 : TI := ⟨.struct #[⟨ "BillBook", 31, 0, true, "", "", 0⟩, ⟨ "lasts", 100, 13, false, "", "bioscope/bill", 168⟩, ⟨ "found", 101, 23, false, "", "bioscope/bill", 248⟩], 24, 256, (some (.agg [.nilslice, (.int .i64 (.lit 0)), .nilslice, (.int .i64 (.lit 0)), (.int .i64 (.lit 0)), .nilslice, (.int .i64 (.lit 0)), .nilslice, (.int .i64 (.lit 0)), (.int .i64 (.lit 0)), (.int .i64 (.lit 0)), (.int .i64 (.lit 0)), (.bool (.lit false)), (.int .i64 (.lit 0)), (.int .i64 (.lit 0)), (.int .i64 (.lit 0)), (.int .i64 (.lit 0)), (.int .i64 (.lit 0)), (.int .i64 (.lit 0)), (.int .i64 (.lit 0)), (.int .i64 (.lit 0)), (.int .i64 (.lit 0)), (.int .i64 (.lit 0)), .nilmap])), true⟩
noncomputable def Tryz.ti104 : TI := ⟨.tuple #[103, 34], 1, 0, none, false⟩
noncomputable def Tryz.ti105 : TI := ⟨.func #[31] #[103, 34] false, 1, 8, (some .nilFunc), false⟩
noncomputable def Tryz.ti106 : TI := ⟨.func #[3] #[4] false, 1, 8, (some .nilFunc), false⟩
noncomputable def Tryz.ti107 : TI := ⟨.func #[31, 4] #[34] false, 1, 8, (some .nilFunc), false⟩
noncomputable def Tryz.ti108 : TI := ⟨.func #[31, 3] #[29] false, 1, 8, (some .nilFunc), false⟩
noncomputable def Tryz.ti109 : TI := ⟨.func #[70] #[4] false, 1, 8, (some .nilFunc), false⟩
noncomputable def Tryz.ti110 : TI := ⟨.struct #[⟨ "book", 103, 0, true, "", "bioscope/bill", 0⟩, ⟨ "at", 3, 24, false, "", "bioscope/bill", 256⟩], 25, 264, (some (.agg [.nilslice, (.int .i64 (.lit 0)), .nilslice, (.int .i64 (.lit 0)), (.int .i64 (.lit 0)), .nilslice, (.int .i64 (.lit 0)), .nilslice, (.int .i64 (.lit 0)), (.int .i64 (.lit 0)), (.int .i64 (.lit 0)), (.int .i64 (.lit 0)), (.bool (.lit false)), (.int .i64 (.lit 0)), (.int .i64 (.lit 0)), (.int .i64 (.lit 0)), (.int .i64 (.lit 0)), (.int .i64 (.lit 0)), (.int .i64 (.lit 0)), (.int .i64 (.lit 0)), (.int .i64 (.lit 0)), (.int .i64 (.lit 0)), (.int .i64 (.lit 0)), .nilmap, (.int .i64 (.lit 0))])), true⟩
noncomputable def Tryz.ti111 : TI := ⟨.struct #[⟨ "book", 103, 0, true, "", "bioscope/bill", 0⟩, ⟨ "at", 3, 24, false, "", "bioscope/bill", 256⟩], 25, 264, (some (.agg [.nilslice, (.int .i64 (.lit 0)), .nilslice, (.int .i64 (.lit 0)), (.int .i64 (.lit 0)), .nilslice, (.int .i64 (.lit 0)), .nilslice, (.int .i64 (.lit 0)), (.int .i64 (.lit 0)), (.int .i64 (.lit 0)), (.int .i64 (.lit 0)), (.bool (.lit false)), (.int .i64 (.lit 0)), (.int .i64 (.lit 0)), (.int .i64 (.lit 0)), (.int .i64 (.lit 0)), (.int .i64 (.lit 0)), (.int .i64 (.lit 0)), (.int .i64 (.lit 0)), (.int .i64 (.lit 0)), (.int .i64 (.lit 0)), (.int .i64 (.lit 0)), .nilmap, (.int .i64 (.lit 0))])), true⟩
noncomputable def Tryz.ti112 : TI := ⟨.tuple #[111, 34], 1, 0, none, false⟩
noncomputable def Tryz.ti113 : TI := ⟨.func #[31, 32, 3] #[111, 34] false, 1, 8, (some .nilFunc), false⟩
noncomputable def Tryz.ti114 : TI := ⟨.func #[32] #[23] false, 1, 8, (some .nilFunc), false⟩
noncomputable def Tryz.ti115 : TI := ⟨.func #[31, 32, 3] #[23] false, 1, 8, (some .nilFunc), false⟩
noncomputable def Tryz.ti116 : TI := ⟨.func #[32] #[32] false, 1, 8, (some .nilFunc), false⟩
noncomputable def Tryz.ti117 : TI := ⟨.func #[31, 32, 3] #[32] false, 1, 8, (some .nilFunc), false⟩
noncomputable def Tryz.ti118 : TI := ⟨.func #[32] #[4] false, 1, 8, (some .nilFunc), false⟩
noncomputable def Tryz.ti119 : TI := ⟨.func #[32] #[3, 34] false, 1, 8, (some .nilFunc), false⟩
noncomputable def Tryz.ti120 : TI := ⟨.func #[31, 32] #[4] false, 1, 8, (some .nilFunc), false⟩
noncomputable def Tryz.ti121 : TI := ⟨.func #[] #[32] false, 1, 8, (some .nilFunc), false⟩
noncomputable def Tryz.ti122 : TI := ⟨.func #[31, 32] #[76] false, 1, 8, (some .nilFunc), false⟩
noncomputable def Tryz.ti123 : TI := ⟨.func #[32, 3] #[32] false, 1, 8, (some .nilFunc), false⟩
noncomputable def Tryz.ti124 : TI := ⟨.func #[68] #[34] false, 1, 8, (some .nilFunc), false⟩
noncomputable def Tryz.ti125 : TI := ⟨.tuple #[3, 4], 1, 0, none, false⟩
noncomputable def Tryz.ti126 : TI := ⟨.func #[31, 3, 32] #[3, 4] false, 1, 8, (some .nilFunc), false⟩
noncomputable def Tryz.ti127 : TI := ⟨.func #[26, 3, 3, 3] #[3, 34] false, 1, 8, (some .nilFunc), false⟩
noncomputable def Tryz.ti128 : TI := ⟨.func #[29, 4] #[29] false, 1, 8, (some .nilFunc), false⟩
noncomputable def Tryz.ti129 : TI := ⟨.struct #[⟨ "First", 29, 0, false, "", "", 0⟩, ⟨ "Last", 29, 2, false, "", "", 16⟩, ⟨ "Feet", 29, 4, false, "", "", 32⟩], 6, 48, (some (.agg [(.int .i64 (.lit 0)), (.int .i64 (.lit 0)), (.int .i64 (.lit 0)), (.int .i64 (.lit 0)), (.int .i64 (.lit 0)), (.int .i64 (.lit 0))])), true⟩
noncomputable def Tryz.ti130 : TI := ⟨.struct #[⟨ "First", 29, 0, false, "", "", 0⟩, ⟨ "Last", 29, 2, false, "", "", 16⟩, ⟨ "Feet", 29, 4, false, "", "", 32⟩], 6, 48, (some (.agg [(.int .i64 (.lit 0)), (.int .i64 (.lit 0)), (.int .i64 (.lit 0)), (.int .i64 (.lit 0)), (.int .i64 (.lit 0)), (.int .i64 (.lit 0))])), true⟩
noncomputable def Tryz.ti131 : TI := ⟨.func #[32] #[3] false, 1, 8, (some .nilFunc), false⟩
noncomputable def Tryz.ti132 : TI := ⟨.func #[3, 3] #[4] false, 1, 8, (some .nilFunc), false⟩
noncomputable def Tryz.ti133 : TI := ⟨.func #[] #[26] false, 1, 8, (some .nilFunc), false⟩
noncomputable def Tryz.ti134 : TI := ⟨.func #[80] #[4] false, 1, 8, (some .nilFunc), false⟩
noncomputable def Tryz.ti135 : TI := ⟨.func #[] #[80] false, 1, 8, (some .nilFunc), false⟩
noncomputable def Tryz.ti136 : TI := ⟨.func #[26, 3, 29] #[3, 34] false, 1, 8, (some .nilFunc), false⟩
noncomputable def Tryz.ti137 : TI := ⟨.struct #[⟨ "Coal", 3, 0, false, "", "", 0⟩, ⟨ "Water", 3, 1, false, "", "", 8⟩], 2, 16, (some (.agg [(.int .i64 (.lit 0)), (.int .i64 (.lit 0))])), true⟩
noncomputable def Tryz.ti138 : TI := ⟨.struct #[⟨ "Coal", 3, 0, false, "", "", 0⟩, ⟨ "Water", 3, 1, false, "", "", 8⟩], 2, 16, (some (.agg [(.int .i64 (.lit 0)), (.int .i64 (.lit 0))])), true⟩
noncomputable def Tryz.ti139 : TI := ⟨.struct #[⟨ "first", 29, 0, false, "", "bioscope/engine", 0⟩, ⟨ "room", 3, 2, false, "", "bioscope/engine", 16⟩, ⟨ "load", 3, 3, false, "", "bioscope/engine", 24⟩, ⟨ "takes", 77, 4, false, "", "bioscope/engine", 32⟩], 8, 64, (some (.agg [(.int .i64 (.lit 0)), (.int .i64 (.lit 0)), (.int .i64 (.lit 0)), (.int .i64 (.lit 0)), (.int .i64 (.lit 0)), (.int .i64 (.lit 0)), (.int .i64 (.lit 0)), (.int .i64 (.lit 0))])), true⟩
noncomputable def Tryz.ti140 : TI := ⟨.struct #[⟨ "first", 29, 0, false, "", "bioscope/engine", 0⟩, ⟨ "room", 3, 2, false, "", "bioscope/engine", 16⟩, ⟨ "load", 3, 3, false, "", "bioscope/engine", 24⟩, ⟨ "takes", 77, 4, false, "", "bioscope/engine", 32⟩], 8, 64, (some (.agg [(.int .i64 (.lit 0)), (.int .i64 (.lit 0)), (.int .i64 (.lit 0)), (.int .i64 (.lit 0)), (.int .i64 (.lit 0)), (.int .i64 (.lit 0)), (.int .i64 (.lit 0)), (.int .i64 (.lit 0))])), true⟩
noncomputable def Tryz.ti141 : TI := ⟨.array 2 140, 16, 128, (some (.agg [(.int .i64 (.lit 0)), (.int .i64 (.lit 0)), (.int .i64 (.lit 0)), (.int .i64 (.lit 0)), (.int .i64 (.lit 0)), (.int .i64 (.lit 0)), (.int .i64 (.lit 0)), (.int .i64 (.lit 0)), (.int .i64 (.lit 0)), (.int .i64 (.lit 0)), (.int .i64 (.lit 0)), (.int .i64 (.lit 0)), (.int .i64 (.lit 0)), (.int .i64 (.lit 0)), (.int .i64 (.lit 0)), (.int .i64 (.lit 0))])), true⟩
noncomputable def Tryz.ti142 : TI := ⟨.struct #[⟨ "EngineBook", 80, 0, true, "", "", 0⟩, ⟨ "stores", 141, 23, false, "", "bioscope/engine", 200⟩], 39, 328, (some (.agg [(.int .i64 (.lit 0)), (.int .i64 (.lit 0)), (.int .i64 (.lit 0)), (.int .i64 (.lit 0)), (.int .i64 (.lit 0)), (.int .i64 (.lit 0)), (.int .i64 (.lit 0)), (.int .i64 (.lit 0)), (.int .i64 (.lit 0)), (.int .i64 (.lit 0)), (.int .i64 (.lit 0)), (.int .i64 (.lit 0)), (.int .i64 (.lit 0)), (.int .i64 (.lit 0)), (.int .i64 (.lit 0)), (.int .i64 (.lit 0)), (.int .i64 (.lit 0)), (.int .i64 (.lit 0)), (.int .i64 (.lit 0)), (.int .i64 (.lit 0)), (.int .i64 (.lit 0)), (.int .i64 (.lit 0)), .nilslice, (.int .i64 (.lit 0)), (.int .i64 (.lit 0)), (.int .i64 (.lit 0)), (.int .i64 (.lit 0)), (.int .i64 (.lit 0)), (.int .i64 (.lit 0)), (.int .i64 (.lit 0)), (.int .i64 (.lit 0)), (.int .i64 (.lit 0)), (.int .i64 (.lit 0)), (.int .i64 (.lit 0)), (.int .i64 (.lit 0)), (.int .i64 (.lit 0)), (.int .i64 (.lit 0)), (.int .i64 (.lit 0)), (.int .i64 (.lit 0))])), true⟩
noncomputable def Tryz.ti143 : TI := ⟨.struct #[⟨ "EngineBook", 80, 0, true, "", "", 0⟩, ⟨ "stores", 141, 23, false, "", "bioscope/engine", 200⟩], 39, 328, (some (.agg [(.int .i64 (.lit 0)), (.int .i64 (.lit 0)), (.int .i64 (.lit 0)), (.int .i64 (.lit 0)), (.int .i64 (.lit 0)), (.int .i64 (.lit 0)), (.int .i64 (.lit 0)), (.int .i64 (.lit 0)), (.int .i64 (.lit 0)), (.int .i64 (.lit 0)), (.int .i64 (.lit 0)), (.int .i64 (.lit 0)), (.int .i64 (.lit 0)), (.int .i64 (.lit 0)), (.int .i64 (.lit 0)), (.int .i64 (.lit 0)), (.int .i64 (.lit 0)), (.int .i64 (.lit 0)), (.int .i64 (.lit 0)), (.int .i64 (.lit 0)), (.int .i64 (.lit 0)), (.int .i64 (.lit 0)), .nilslice, (.int .i64 (.lit 0)), (.int .i64 (.lit 0)), (.int .i64 (.lit 0)), (.int .i64 (.lit 0)), (.int .i64 (.lit 0)), (.int .i64 (.lit 0)), (.int .i64 (.lit 0)), (.int .i64 (.lit 0)), (.int .i64 (.lit 0)), (.int .i64 (.lit 0)), (.int .i64 (.lit 0)), (.int .i64 (.lit 0)), (.int .i64 (.lit 0)), (.int .i64 (.lit 0)), (.int .i64 (.lit 0)), (.int .i64 (.lit 0))])), true⟩
noncomputable def Tryz.ti144 : TI := ⟨.tuple #[143, 34], 1, 0, none, false⟩
noncomputable def Tryz.ti145 : TI := ⟨.func #[80] #[143, 34] false, 1, 8, (some .nilFunc), false⟩
noncomputable def Tryz.ti146 : TI := ⟨.func #[] #[87, 34] false, 1, 8, (some .nilFunc), false⟩
noncomputable def Tryz.ti147 : TI := ⟨.func #[29] #[4] false, 1, 8, (some .nilFunc), false⟩
noncomputable def Tryz.ti148 : TI := ⟨.func #[87] #[4] false, 1, 8, (some .nilFunc), false⟩
noncomputable def Tryz.ti149 : TI := ⟨.func #[87] #[3, 34] false, 1, 8, (some .nilFunc), false⟩
noncomputable def Tryz.ti150 : TI := ⟨.struct #[⟨ "LicenceTown", 26, 0, true, "", "", 0⟩], 6, 96, (some (.agg [.nilslice, (.int .i64 (.lit 0)), .nilslice, (.int .i64 (.lit 0)), (.int .i64 (.lit 0)), .nilslice])), true⟩
noncomputable def Tryz.ti151 : TI := ⟨.struct #[⟨ "LicenceTown", 26, 0, true, "", "", 0⟩], 6, 96, (some (.agg [.nilslice, (.int .i64 (.lit 0)), .nilslice, (.int .i64 (.lit 0)), (.int .i64 (.lit 0)), .nilslice])), true⟩
noncomputable def Tryz.ti152 : TI := ⟨.tuple #[151, 34], 1, 0, none, false⟩
noncomputable def Tryz.ti153 : TI := ⟨.func #[26] #[151, 34] false, 1, 8, (some .nilFunc), false⟩
noncomputable def Tryz.ti154 : TI := ⟨.array 8 4, 8, 8, (some (.agg [(.bool (.lit false)), (.bool (.lit false)), (.bool (.lit false)), (.bool (.lit false)), (.bool (.lit false)), (.bool (.lit false)), (.bool (.lit false)), (.bool (.lit false))])), true⟩
noncomputable def Tryz.ti155 : TI := ⟨.array 8 4, 8, 8, (some (.agg [(.bool (.lit false)), (.bool (.lit false)), (.bool (.lit false)), (.bool (.lit false)), (.bool (.lit false)), (.bool (.lit false)), (.bool (.lit false)), (.bool (.lit false))])), true⟩
noncomputable def Tryz.ti156 : TI := ⟨.struct #[⟨ "some", 4, 0, false, "", "bioscope/licence", 0⟩, ⟨ "plan", 24, 1, false, "", "bioscope/licence", 8⟩, ⟨ "fee", 3, 2, false, "", "bioscope/licence", 32⟩, ⟨ "days", 155, 3, false, "", "bioscope/licence", 40⟩], 11, 48, (some (.agg [(.bool (.lit false)), .nilslice, (.int .i64 (.lit 0)), (.bool (.lit false)), (.bool (.lit false)), (.bool (.lit false)), (.bool (.lit false)), (.bool (.lit false)), (.bool (.lit false)), (.bool (.lit false)), (.bool (.lit false))])), true⟩
noncomputable def Tryz.ti157 : TI := ⟨.struct #[⟨ "some", 4, 0, false, "", "bioscope/licence", 0⟩, ⟨ "plan", 24, 1, false, "", "bioscope/licence", 8⟩, ⟨ "fee", 3, 2, false, "", "bioscope/licence", 32⟩, ⟨ "days", 155, 3, false, "", "bioscope/licence", 40⟩], 11, 48, (some (.agg [(.bool (.lit false)), .nilslice, (.int .i64 (.lit 0)), (.bool (.lit false)), (.bool (.lit false)), (.bool (.lit false)), (.bool (.lit false)), (.bool (.lit false)), (.bool (.lit false)), (.bool (.lit false)), (.bool (.lit false))])), true⟩
noncomputable def Tryz.ti158 : TI := ⟨.tuple #[157, 34], 1, 0, none, false⟩
noncomputable def Tryz.ti159 : TI := ⟨.func #[26, 3, 32] #[157, 34] false, 1, 8, (some .nilFunc), false⟩
noncomputable def Tryz.ti160 : TI := ⟨.func #[29] #[32] false, 1, 8, (some .nilFunc), false⟩
noncomputable def Tryz.ti161 : TI := ⟨.func #[70] #[29, 34] false, 1, 8, (some .nilFunc), false⟩
noncomputable def Tryz.ti162 : TI := ⟨.func #[68] #[32, 34] false, 1, 8, (some .nilFunc), false⟩
noncomputable def Tryz.ti163 : TI := ⟨.func #[68, 32, 3] #[32, 34] false, 1, 8, (some .nilFunc), false⟩
noncomputable def Tryz.ti164 : TI := ⟨.func #[68, 32, 3] #[29, 34] false, 1, 8, (some .nilFunc), false⟩
noncomputable def Tryz.ti165 : TI := ⟨.struct #[⟨ "Days", 3, 0, false, "", "", 0⟩, ⟨ "Fee", 3, 1, false, "", "", 8⟩, ⟨ "Notice", 3, 2, false, "", "", 16⟩], 3, 24, (some (.agg [(.int .i64 (.lit 0)), (.int .i64 (.lit 0)), (.int .i64 (.lit 0))])), true⟩
noncomputable def Tryz.ti166 : TI := ⟨.struct #[⟨ "Days", 3, 0, false, "", "", 0⟩, ⟨ "Fee", 3, 1, false, "", "", 8⟩, ⟨ "Notice", 3, 2, false, "", "", 16⟩], 3, 24, (some (.agg [(.int .i64 (.lit 0)), (.int .i64 (.lit 0)), (.int .i64 (.lit 0))])), true⟩
noncomputable def Tryz.ti167 : TI := ⟨.func #[26, 24] #[4] false, 1, 8, (some .nilFunc), false⟩
noncomputable def Tryz.ti168 : TI := ⟨.slice 175, 1, 24, (some .nilslice), false⟩
noncomputable def Tryz.ti169 : TI := ⟨.func #[32, 233] #[168] false, 1, 8, (some .nilFunc), false⟩
noncomputable def Tryz.ti170 : TI := ⟨.func #[29] #[3] false, 1, 8, (some .nilFunc), false⟩
noncomputable def Tryz.ti171 : TI := ⟨.struct #[⟨ "film", 3, 0, false, "", "bioscope/bill", 0⟩, ⟨ "minute", 3, 1, false, "", "bioscope/bill", 8⟩], 2, 16, (some (.agg [(.int .i64 (.lit 0)), (.int .i64 (.lit 0))])), true⟩
noncomputable def Tryz.ti172 : TI := ⟨.struct #[⟨ "film", 3, 0, false, "", "bioscope/bill", 0⟩, ⟨ "minute", 3, 1, false, "", "bioscope/bill", 8⟩], 2, 16, (some (.agg [(.int .i64 (.lit 0)), (.int .i64 (.lit 0))])), true⟩
noncomputable def Tryz.ti173 : TI := ⟨.func #[175, 233] #[172] false, 1, 8, (some .nilFunc), false⟩
noncomputable def Tryz.ti174 : TI := ⟨.struct #[⟨ "film", 3, 0, false, "", "bioscope/bill", 0⟩, ⟨ "begin", 3, 1, false, "", "bioscope/bill", 8⟩], 2, 16, (some (.agg [(.int .i64 (.lit 0)), (.int .i64 (.lit 0))])), true⟩
noncomputable def Tryz.ti175 : TI := ⟨.struct #[⟨ "film", 3, 0, false, "", "bioscope/bill", 0⟩, ⟨ "begin", 3, 1, false, "", "bioscope/bill", 8⟩], 2, 16, (some (.agg [(.int .i64 (.lit 0)), (.int .i64 (.lit 0))])), true⟩
noncomputable def Tryz.ti176 : TI := ⟨.func #[175] #[3] false, 1, 8, (some .nilFunc), false⟩
noncomputable def Tryz.ti177 : TI := ⟨.func #[31, 3, 3] #[3] false, 1, 8, (some .nilFunc), false⟩
noncomputable def Tryz.ti178 : TI := ⟨.array 5 4, 5, 5, (some (.agg [(.bool (.lit false)), (.bool (.lit false)), (.bool (.lit false)), (.bool (.lit false)), (.bool (.lit false))])), true⟩
noncomputable def Tryz.ti179 : TI := ⟨.array 5 4, 5, 5, (some (.agg [(.bool (.lit false)), (.bool (.lit false)), (.bool (.lit false)), (.bool (.lit false)), (.bool (.lit false))])), true⟩
noncomputable def Tryz.ti180 : TI := ⟨.func #[3, 106] #[3] false, 1, 8, (some .nilFunc), false⟩
noncomputable def Tryz.ti181 : TI := ⟨.func #[183] #[32] false, 1, 8, (some .nilFunc), false⟩
noncomputable def Tryz.ti182 : TI := ⟨.struct #[⟨ "fits", 118, 0, false, "", "bioscope/bill", 0⟩, ⟨ "better", 43, 1, false, "", "bioscope/bill", 8⟩], 2, 16, (some (.agg [.nilFunc, .nilFunc])), true⟩
noncomputable def Tryz.ti183 : TI := ⟨.struct #[⟨ "fits", 118, 0, false, "", "bioscope/bill", 0⟩, ⟨ "better", 43, 1, false, "", "bioscope/bill", 8⟩], 2, 16, (some (.agg [.nilFunc, .nilFunc])), true⟩
noncomputable def Tryz.ti184 : TI := ⟨.struct #[⟨ "evening", 111, 0, true, "", "bioscope/bill", 0⟩, ⟨ "whole", 32, 25, false, "", "bioscope/bill", 264⟩], 26, 288, (some (.agg [.nilslice, (.int .i64 (.lit 0)), .nilslice, (.int .i64 (.lit 0)), (.int .i64 (.lit 0)), .nilslice, (.int .i64 (.lit 0)), .nilslice, (.int .i64 (.lit 0)), (.int .i64 (.lit 0)), (.int .i64 (.lit 0)), (.int .i64 (.lit 0)), (.bool (.lit false)), (.int .i64 (.lit 0)), (.int .i64 (.lit 0)), (.int .i64 (.lit 0)), (.int .i64 (.lit 0)), (.int .i64 (.lit 0)), (.int .i64 (.lit 0)), (.int .i64 (.lit 0)), (.int .i64 (.lit 0)), (.int .i64 (.lit 0)), (.int .i64 (.lit 0)), .nilmap, (.int .i64 (.lit 0)), .nilslice])), true⟩
noncomputable def Tryz.ti185 : TI := ⟨.struct #[⟨ "evening", 111, 0, true, "", "bioscope/bill", 0⟩, ⟨ "whole", 32, 25, false, "", "bioscope/bill", 264⟩], 26, 288, (some (.agg [.nilslice, (.int .i64 (.lit 0)), .nilslice, (.int .i64 (.lit 0)), (.int .i64 (.lit 0)), .nilslice, (.int .i64 (.lit 0)), .nilslice, (.int .i64 (.lit 0)), (.int .i64 (.lit 0)), (.int .i64 (.lit 0)), (.int .i64 (.lit 0)), (.bool (.lit false)), (.int .i64 (.lit 0)), (.int .i64 (.lit 0)), (.int .i64 (.lit 0)), (.int .i64 (.lit 0)), (.int .i64 (.lit 0)), (.int .i64 (.lit 0)), (.int .i64 (.lit 0)), (.int .i64 (.lit 0)), (.int .i64 (.lit 0)), (.int .i64 (.lit 0)), .nilmap, (.int .i64 (.lit 0)), .nilslice])), true⟩
noncomputable def Tryz.ti186 : TI := ⟨.func #[68] #[4] false, 1, 8, (some .nilFunc), false⟩
noncomputable def Tryz.ti187 : TI := ⟨.func #[189] #[3] false, 1, 8, (some .nilFunc), false⟩
noncomputable def Tryz.ti188 : TI := ⟨.struct #[⟨ "day", 3, 0, false, "", "bioscope/licence", 0⟩, ⟨ "film", 3, 1, false, "", "bioscope/licence", 8⟩, ⟨ "minute", 3, 2, false, "", "bioscope/licence", 16⟩], 3, 24, (some (.agg [(.int .i64 (.lit 0)), (.int .i64 (.lit 0)), (.int .i64 (.lit 0))])), true⟩
noncomputable def Tryz.ti189 : TI := ⟨.struct #[⟨ "day", 3, 0, false, "", "bioscope/licence", 0⟩, ⟨ "film", 3, 1, false, "", "bioscope/licence", 8⟩, ⟨ "minute", 3, 2, false, "", "bioscope/licence", 16⟩], 3, 24, (some (.agg [(.int .i64 (.lit 0)), (.int .i64 (.lit 0)), (.int .i64 (.lit 0))])), true⟩
noncomputable def Tryz.ti190 : TI := ⟨.struct #[⟨ "Kind", 3, 0, false, "", "", 0⟩, ⟨ "First", 3, 1, false, "", "", 8⟩], 2, 16, (some (.agg [(.int .i64 (.lit 0)), (.int .i64 (.lit 0))])), true⟩
noncomputable def Tryz.ti191 : TI := ⟨.struct #[⟨ "Kind", 3, 0, false, "", "", 0⟩, ⟨ "First", 3, 1, false, "", "", 8⟩], 2, 16, (some (.agg [(.int .i64 (.lit 0)), (.int .i64 (.lit 0))])), true⟩
noncomputable def Tryz.ti192 : TI := ⟨.array 6 3, 6, 48, (some (.agg [(.int .i64 (.lit 0)), (.int .i64 (.lit 0)), (.int .i64 (.lit 0)), (.int .i64 (.lit 0)), (.int .i64 (.lit 0)), (.int .i64 (.lit 0))])), true⟩
noncomputable def Tryz.ti193 : TI := ⟨.func #[3, 29] #[4] false, 1, 8, (some .nilFunc), false⟩
noncomputable def Tryz.ti194 : TI := ⟨.array 6 29, 12, 96, (some (.agg [(.int .i64 (.lit 0)), (.int .i64 (.lit 0)), (.int .i64 (.lit 0)), (.int .i64 (.lit 0)), (.int .i64 (.lit 0)), (.int .i64 (.lit 0)), (.int .i64 (.lit 0)), (.int .i64 (.lit 0)), (.int .i64 (.lit 0)), (.int .i64 (.lit 0)), (.int .i64 (.lit 0)), (.int .i64 (.lit 0))])), true⟩
noncomputable def Tryz.ti195 : TI := ⟨.func #[3, 23] #[4] true, 1, 8, (some .nilFunc), false⟩
noncomputable def Tryz.ti196 : TI := ⟨.func #[78] #[4] false, 1, 8, (some .nilFunc), false⟩
noncomputable def Tryz.ti197 : TI := ⟨.func #[] #[68] false, 1, 8, (some .nilFunc), false⟩
noncomputable def Tryz.ti198 : TI := ⟨.func #[3, 29] #[3] false, 1, 8, (some .nilFunc), false⟩
noncomputable def Tryz.ti199 : TI := ⟨.func #[80] #[143] false, 1, 8, (some .nilFunc), false⟩
noncomputable def Tryz.ti200 : TI := ⟨.func #[261] #[3] false, 1, 8, (some .nilFunc), false⟩
noncomputable def Tryz.ti201 : TI := ⟨.struct #[⟨ "has", 200, 0, false, "", "bioscope/engine", 0⟩, ⟨ "takes", 200, 1, false, "", "bioscope/engine", 8⟩], 2, 16, (some (.agg [.nilFunc, .nilFunc])), true⟩
noncomputable def Tryz.ti202 : TI := ⟨.struct #[⟨ "has", 200, 0, false, "", "bioscope/engine", 0⟩, ⟨ "takes", 200, 1, false, "", "bioscope/engine", 8⟩], 2, 16, (some (.agg [.nilFunc, .nilFunc])), true⟩
noncomputable def Tryz.ti203 : TI := ⟨.tuple #[202, 202], 1, 0, none, false⟩
noncomputable def Tryz.ti204 : TI := ⟨.func #[] #[202, 202] false, 1, 8, (some .nilFunc), false⟩
noncomputable def Tryz.ti205 : TI := ⟨.map 209 214, 1, 8, (some .nilmap), false⟩
noncomputable def Tryz.ti206 : TI := ⟨.func #[] #[205] false, 1, 8, (some .nilFunc), false⟩
noncomputable def Tryz.ti207 : TI := ⟨.array 2 3, 2, 16, (some (.agg [(.int .i64 (.lit 0)), (.int .i64 (.lit 0))])), true⟩
noncomputable def Tryz.ti208 : TI := ⟨.struct #[⟨ "part", 3, 0, false, "", "bioscope/engine", 0⟩, ⟨ "left", 207, 1, false, "", "bioscope/engine", 8⟩], 3, 24, (some (.agg [(.int .i64 (.lit 0)), (.int .i64 (.lit 0)), (.int .i64 (.lit 0))])), true⟩
noncomputable def Tryz.ti209 : TI := ⟨.struct #[⟨ "part", 3, 0, false, "", "bioscope/engine", 0⟩, ⟨ "left", 207, 1, false, "", "bioscope/engine", 8⟩], 3, 24, (some (.agg [(.int .i64 (.lit 0)), (.int .i64 (.lit 0)), (.int .i64 (.lit 0))])), true⟩
noncomputable def Tryz.ti210 : TI := ⟨.func #[202] #[209] false, 1, 8, (some .nilFunc), false⟩
noncomputable def Tryz.ti211 : TI := ⟨.struct #[⟨ "walks", 138, 0, false, "", "bioscope/engine", 0⟩, ⟨ "behind", 209, 2, false, "", "bioscope/engine", 16⟩, ⟨ "lacks", 207, 5, false, "", "bioscope/engine", 40⟩], 7, 56, (some (.agg [(.int .i64 (.lit 0)), (.int .i64 (.lit 0)), (.int .i64 (.lit 0)), (.int .i64 (.lit 0)), (.int .i64 (.lit 0)), (.int .i64 (.lit 0)), (.int .i64 (.lit 0))])), true⟩
noncomputable def Tryz.ti212 : TI := ⟨.struct #[⟨ "walks", 138, 0, false, "", "bioscope/engine", 0⟩, ⟨ "behind", 209, 2, false, "", "bioscope/engine", 16⟩, ⟨ "lacks", 207, 5, false, "", "bioscope/engine", 40⟩], 7, 56, (some (.agg [(.int .i64 (.lit 0)), (.int .i64 (.lit 0)), (.int .i64 (.lit 0)), (.int .i64 (.lit 0)), (.int .i64 (.lit 0)), (.int .i64 (.lit 0)), (.int .i64 (.lit 0))])), true⟩
noncomputable def Tryz.ti213 : TI := ⟨.struct #[⟨ "enough", 4, 0, false, "", "bioscope/engine", 0⟩, ⟨ "many", 3, 1, false, "", "bioscope/engine", 8⟩, ⟨ "first", 212, 2, false, "", "bioscope/engine", 16⟩], 9, 72, (some (.agg [(.bool (.lit false)), (.int .i64 (.lit 0)), (.int .i64 (.lit 0)), (.int .i64 (.lit 0)), (.int .i64 (.lit 0)), (.int .i64 (.lit 0)), (.int .i64 (.lit 0)), (.int .i64 (.lit 0)), (.int .i64 (.lit 0))])), true⟩
noncomputable def Tryz.ti214 : TI := ⟨.struct #[⟨ "enough", 4, 0, false, "", "bioscope/engine", 0⟩, ⟨ "many", 3, 1, false, "", "bioscope/engine", 8⟩, ⟨ "first", 212, 2, false, "", "bioscope/engine", 16⟩], 9, 72, (some (.agg [(.bool (.lit false)), (.int .i64 (.lit 0)), (.int .i64 (.lit 0)), (.int .i64 (.lit 0)), (.int .i64 (.lit 0)), (.int .i64 (.lit 0)), (.int .i64 (.lit 0)), (.int .i64 (.lit 0)), (.int .i64 (.lit 0))])), true⟩
noncomputable def Tryz.ti215 : TI := ⟨.func #[218] #[] false, 1, 8, (some .nilFunc), false⟩
noncomputable def Tryz.ti216 : TI := ⟨.func #[218] #[] false, 1, 8, (some .nilFunc), false⟩
noncomputable def Tryz.ti217 : TI := ⟨.func #[87, 202] #[216] false, 1, 8, (some .nilFunc), false⟩
noncomputable def Tryz.ti218 : TI := ⟨.func #[212] #[4] false, 1, 8, (some .nilFunc), false⟩
noncomputable def Tryz.ti219 : TI := ⟨.func #[3, 32] #[157, 34] false, 1, 8, (some .nilFunc), false⟩
noncomputable def Tryz.ti220 : TI := ⟨.func #[106] #[] false, 1, 8, (some .nilFunc), false⟩
noncomputable def Tryz.ti221 : TI := ⟨.func #[106] #[] false, 1, 8, (some .nilFunc), false⟩
noncomputable def Tryz.ti222 : TI := ⟨.func #[29] #[221] false, 1, 8, (some .nilFunc), false⟩
noncomputable def Tryz.ti223 : TI := ⟨.func #[3, 24] #[4] false, 1, 8, (some .nilFunc), false⟩
noncomputable def Tryz.ti224 : TI := ⟨.func #[29, 29] #[4] false, 1, 8, (some .nilFunc), false⟩
noncomputable def Tryz.ti225 : TI := ⟨.func #[68, 32] #[76] false, 1, 8, (some .nilFunc), false⟩
noncomputable def Tryz.ti226 : TI := ⟨.func #[68] #[32] false, 1, 8, (some .nilFunc), false⟩
noncomputable def Tryz.ti227 : TI := ⟨.func #[68, 4] #[34] false, 1, 8, (some .nilFunc), false⟩
noncomputable def Tryz.ti228 : TI := ⟨.func #[68, 32] #[4] false, 1, 8, (some .nilFunc), false⟩
noncomputable def Tryz.ti229 : TI := ⟨.func #[68, 3, 3] #[29] false, 1, 8, (some .nilFunc), false⟩
noncomputable def Tryz.ti230 : TI := ⟨.func #[68, 32, 3] #[29] false, 1, 8, (some .nilFunc), false⟩
noncomputable def Tryz.ti231 : TI := ⟨.func #[26, 191] #[4] false, 1, 8, (some .nilFunc), false⟩
noncomputable def Tryz.ti232 : TI := ⟨.func #[26, 191, 191] #[4] false, 1, 8, (some .nilFunc), false⟩
noncomputable def Tryz.ti233 : TI := ⟨.func #[29] #[3] false, 1, 8, (some .nilFunc), false⟩
noncomputable def Tryz.ti234 : TI := ⟨.func #[] #[175] false, 1, 8, (some .nilFunc), false⟩
noncomputable def Tryz.ti235 : TI := ⟨.func #[175, 3, 233] #[175] false, 1, 8, (some .nilFunc), false⟩
noncomputable def Tryz.ti236 : TI := ⟨.func #[103, 172] #[3] false, 1, 8, (some .nilFunc), false⟩
noncomputable def Tryz.ti237 : TI := ⟨.func #[172] #[3] false, 1, 8, (some .nilFunc), false⟩
noncomputable def Tryz.ti238 : TI := ⟨.array 3 236, 3, 24, (some (.agg [.nilFunc, .nilFunc, .nilFunc])), true⟩
noncomputable def Tryz.ti239 : TI := ⟨.int .u64, 1, 8, (some (.int .u64 (.lit 0))), false⟩
noncomputable def Tryz.ti240 : TI := ⟨.func #[118] #[] false, 1, 8, (some .nilFunc), false⟩
noncomputable def Tryz.ti241 : TI := ⟨.func #[118] #[] false, 1, 8, (some .nilFunc), false⟩
noncomputable def Tryz.ti242 : TI := ⟨.func #[] #[241] false, 1, 8, (some .nilFunc), false⟩
noncomputable def Tryz.ti243 : TI := ⟨.func #[32, 32] #[3] false, 1, 8, (some .nilFunc), false⟩
noncomputable def Tryz.ti244 : TI := ⟨.func #[130] #[4] false, 1, 8, (some .nilFunc), false⟩
noncomputable def Tryz.ti245 : TI := ⟨.map 315 313, 1, 8, (some .nilmap), false⟩
noncomputable def Tryz.ti246 : TI := ⟨.struct #[⟨ "ReelFilm", 68, 0, true, "", "", 0⟩, ⟨ "found", 245, 6, false, "", "bioscope/reel", 64⟩], 7, 72, (some (.agg [.nilslice, (.int .i64 (.lit 0)), (.int .i64 (.lit 0)), (.int .i64 (.lit 0)), (.int .i64 (.lit 0)), (.int .i64 (.lit 0)), .nilmap])), true⟩
noncomputable def Tryz.ti247 : TI := ⟨.struct #[⟨ "ReelFilm", 68, 0, true, "", "", 0⟩, ⟨ "found", 245, 6, false, "", "bioscope/reel", 64⟩], 7, 72, (some (.agg [.nilslice, (.int .i64 (.lit 0)), (.int .i64 (.lit 0)), (.int .i64 (.lit 0)), (.int .i64 (.lit 0)), (.int .i64 (.lit 0)), .nilmap])), true⟩
noncomputable def Tryz.ti248 : TI := ⟨.tuple #[247, 34], 1, 0, none, false⟩
noncomputable def Tryz.ti249 : TI := ⟨.func #[68] #[247, 34] false, 1, 8, (some .nilFunc), false⟩
noncomputable def Tryz.ti250 : TI := ⟨.func #[32, 3] #[32, 34] false, 1, 8, (some .nilFunc), false⟩
noncomputable def Tryz.ti251 : TI := ⟨.func #[32, 3] #[29] false, 1, 8, (some .nilFunc), false⟩
noncomputable def Tryz.ti252 : TI := ⟨.func #[151, 189] #[4] false, 1, 8, (some .nilFunc), false⟩
noncomputable def Tryz.ti253 : TI := ⟨.func #[189] #[4] false, 1, 8, (some .nilFunc), false⟩
noncomputable def Tryz.ti254 : TI := ⟨.struct #[⟨ "why", 3, 0, false, "", "bioscope/licence", 0⟩, ⟨ "holds", 252, 1, false, "", "bioscope/licence", 8⟩], 2, 16, (some (.agg [(.int .i64 (.lit 0)), .nilFunc])), true⟩
noncomputable def Tryz.ti255 : TI := ⟨.array 4 254, 8, 64, (some (.agg [(.int .i64 (.lit 0)), .nilFunc, (.int .i64 (.lit 0)), .nilFunc, (.int .i64 (.lit 0)), .nilFunc, (.int .i64 (.lit 0)), .nilFunc])), true⟩
noncomputable def Tryz.ti256 : TI := ⟨.func #[32] #[3] true, 1, 8, (some .nilFunc), false⟩
noncomputable def Tryz.ti257 : TI := ⟨.func #[143] #[140] false, 1, 8, (some .nilFunc), false⟩
noncomputable def Tryz.ti258 : TI := ⟨.func #[] #[140] false, 1, 8, (some .nilFunc), false⟩
noncomputable def Tryz.ti259 : TI := ⟨.array 2 257, 2, 16, (some (.agg [.nilFunc, .nilFunc])), true⟩
noncomputable def Tryz.ti260 : TI := ⟨.func #[] #[3] false, 1, 8, (some .nilFunc), false⟩
noncomputable def Tryz.ti261 : TI := ⟨.struct #[⟨ "Low", 3, 0, false, "", "", 0⟩, ⟨ "High", 3, 1, false, "", "", 8⟩], 2, 16, (some (.agg [(.int .i64 (.lit 0)), (.int .i64 (.lit 0))])), true⟩
noncomputable def Tryz.ti262 : TI := ⟨.func #[209] #[214] false, 1, 8, (some .nilFunc), false⟩
noncomputable def Tryz.ti263 : TI := ⟨.tuple #[214, 4], 1, 0, none, false⟩
noncomputable def Tryz.ti264 : TI := ⟨.func #[209, 202] #[216] false, 1, 8, (some .nilFunc), false⟩
noncomputable def Tryz.ti265 : TI := ⟨.func #[209, 138, 202] #[212] false, 1, 8, (some .nilFunc), false⟩
noncomputable def Tryz.ti266 : TI := ⟨.func #[3] #[157] false, 1, 8, (some .nilFunc), false⟩
noncomputable def Tryz.ti267 : TI := ⟨.func #[270] #[266] false, 1, 8, (some .nilFunc), false⟩
noncomputable def Tryz.ti268 : TI := ⟨.func #[157, 157] #[4] false, 1, 8, (some .nilFunc), false⟩
noncomputable def Tryz.ti269 : TI := ⟨.struct #[⟨ "today", 3, 0, false, "", "bioscope/licence", 0⟩, ⟨ "days", 32, 1, false, "", "bioscope/licence", 8⟩, ⟨ "better", 268, 2, false, "", "bioscope/licence", 32⟩], 3, 40, (some (.agg [(.int .i64 (.lit 0)), .nilslice, .nilFunc])), true⟩
noncomputable def Tryz.ti270 : TI := ⟨.struct #[⟨ "today", 3, 0, false, "", "bioscope/licence", 0⟩, ⟨ "days", 32, 1, false, "", "bioscope/licence", 8⟩, ⟨ "better", 268, 2, false, "", "bioscope/licence", 32⟩], 3, 40, (some (.agg [(.int .i64 (.lit 0)), .nilslice, .nilFunc])), true⟩
noncomputable def Tryz.ti271 : TI := ⟨.func #[3, 32, 268] #[270] false, 1, 8, (some .nilFunc), false⟩
noncomputable def Tryz.ti272 : TI := ⟨.func #[24, 32] #[155] false, 1, 8, (some .nilFunc), false⟩
noncomputable def Tryz.ti273 : TI := ⟨.array 4 29, 8, 64, (some (.agg [(.int .i64 (.lit 0)), (.int .i64 (.lit 0)), (.int .i64 (.lit 0)), (.int .i64 (.lit 0)), (.int .i64 (.lit 0)), (.int .i64 (.lit 0)), (.int .i64 (.lit 0)), (.int .i64 (.lit 0))])), true⟩
noncomputable def Tryz.ti274 : TI := ⟨.func #[26, 191] #[3] false, 1, 8, (some .nilFunc), false⟩
noncomputable def Tryz.ti275 : TI := ⟨.func #[3, 32] #[3] true, 1, 8, (some .nilFunc), false⟩
noncomputable def Tryz.ti276 : TI := ⟨.func #[26, 4] #[34] false, 1, 8, (some .nilFunc), false⟩
noncomputable def Tryz.ti277 : TI := ⟨.func #[26, 24, 3] #[4] false, 1, 8, (some .nilFunc), false⟩
noncomputable def Tryz.ti278 : TI := ⟨.func #[26, 3] #[4] false, 1, 8, (some .nilFunc), false⟩
noncomputable def Tryz.ti279 : TI := ⟨.func #[3, 179] #[4] false, 1, 8, (some .nilFunc), false⟩
noncomputable def Tryz.ti280 : TI := ⟨.array 3 29, 6, 48, (some (.agg [(.int .i64 (.lit 0)), (.int .i64 (.lit 0)), (.int .i64 (.lit 0)), (.int .i64 (.lit 0)), (.int .i64 (.lit 0)), (.int .i64 (.lit 0))])), true⟩
noncomputable def Tryz.ti281 : TI := ⟨.func #[283, 285] #[241] false, 1, 8, (some .nilFunc), false⟩
noncomputable def Tryz.ti282 : TI := ⟨.array 6 4, 6, 6, (some (.agg [(.bool (.lit false)), (.bool (.lit false)), (.bool (.lit false)), (.bool (.lit false)), (.bool (.lit false)), (.bool (.lit false))])), true⟩
noncomputable def Tryz.ti283 : TI := ⟨.array 6 4, 6, 6, (some (.agg [(.bool (.lit false)), (.bool (.lit false)), (.bool (.lit false)), (.bool (.lit false)), (.bool (.lit false)), (.bool (.lit false))])), true⟩
noncomputable def Tryz.ti284 : TI := ⟨.func #[32] #[283] false, 1, 8, (some .nilFunc), false⟩
noncomputable def Tryz.ti285 : TI := ⟨.func #[315] #[313] false, 1, 8, (some .nilFunc), false⟩
noncomputable def Tryz.ti286 : TI := ⟨.func #[292] #[29] false, 1, 8, (some .nilFunc), false⟩
noncomputable def Tryz.ti287 : TI := ⟨.func #[291] #[3] false, 1, 8, (some .nilFunc), false⟩
noncomputable def Tryz.ti288 : TI := ⟨.struct #[⟨ "adds", 287, 0, false, "", "bioscope/reel", 0⟩, ⟨ "takes", 287, 1, false, "", "bioscope/reel", 8⟩], 2, 16, (some (.agg [.nilFunc, .nilFunc])), true⟩
noncomputable def Tryz.ti289 : TI := ⟨.struct #[⟨ "adds", 287, 0, false, "", "bioscope/reel", 0⟩, ⟨ "takes", 287, 1, false, "", "bioscope/reel", 8⟩], 2, 16, (some (.agg [.nilFunc, .nilFunc])), true⟩
noncomputable def Tryz.ti290 : TI := ⟨.func #[3, 3, 289] #[3] false, 1, 8, (some .nilFunc), false⟩
noncomputable def Tryz.ti291 : TI := ⟨.struct #[⟨ "Low", 3, 0, false, "", "", 0⟩, ⟨ "High", 3, 1, false, "", "", 8⟩], 2, 16, (some (.agg [(.int .i64 (.lit 0)), (.int .i64 (.lit 0))])), true⟩
noncomputable def Tryz.ti292 : TI := ⟨.func #[289] #[3] false, 1, 8, (some .nilFunc), false⟩
noncomputable def Tryz.ti293 : TI := ⟨.func #[85] #[29] false, 1, 8, (some .nilFunc), false⟩
noncomputable def Tryz.ti294 : TI := ⟨.func #[191] #[4] false, 1, 8, (some .nilFunc), false⟩
noncomputable def Tryz.ti295 : TI := ⟨.func #[191, 24] #[4] false, 1, 8, (some .nilFunc), false⟩
noncomputable def Tryz.ti296 : TI := ⟨.map 299 157, 1, 8, (some .nilmap), false⟩
noncomputable def Tryz.ti297 : TI := ⟨.func #[299] #[157] false, 1, 8, (some .nilFunc), false⟩
noncomputable def Tryz.ti298 : TI := ⟨.struct #[⟨ "day", 3, 0, false, "", "bioscope/licence", 0⟩, ⟨ "next", 3, 1, false, "", "bioscope/licence", 8⟩, ⟨ "leave", 3, 2, false, "", "bioscope/licence", 16⟩], 3, 24, (some (.agg [(.int .i64 (.lit 0)), (.int .i64 (.lit 0)), (.int .i64 (.lit 0))])), true⟩
noncomputable def Tryz.ti299 : TI := ⟨.struct #[⟨ "day", 3, 0, false, "", "bioscope/licence", 0⟩, ⟨ "next", 3, 1, false, "", "bioscope/licence", 8⟩, ⟨ "leave", 3, 2, false, "", "bioscope/licence", 16⟩], 3, 24, (some (.agg [(.int .i64 (.lit 0)), (.int .i64 (.lit 0)), (.int .i64 (.lit 0))])), true⟩
noncomputable def Tryz.ti300 : TI := ⟨.tuple #[157, 4], 1, 0, none, false⟩
noncomputable def Tryz.ti301 : TI := ⟨.func #[320] #[] false, 1, 8, (some .nilFunc), false⟩
noncomputable def Tryz.ti302 : TI := ⟨.func #[320] #[] false, 1, 8, (some .nilFunc), false⟩
noncomputable def Tryz.ti303 : TI := ⟨.func #[270, 299] #[302] false, 1, 8, (some .nilFunc), false⟩
noncomputable def Tryz.ti304 : TI := ⟨.func #[191] #[3] false, 1, 8, (some .nilFunc), false⟩
noncomputable def Tryz.ti305 : TI := ⟨.func #[191, 155, 157] #[157] false, 1, 8, (some .nilFunc), false⟩
noncomputable def Tryz.ti306 : TI := ⟨.func #[32, 4] #[32] false, 1, 8, (some .nilFunc), false⟩
noncomputable def Tryz.ti307 : TI := ⟨.func #[191, 3] #[4] false, 1, 8, (some .nilFunc), false⟩
noncomputable def Tryz.ti308 : TI := ⟨.func #[23, 147] #[4] false, 1, 8, (some .nilFunc), false⟩
noncomputable def Tryz.ti309 : TI := ⟨.int .i64, 1, 8, (some (.int .i64 (.lit 0))), false⟩
noncomputable def Tryz.ti310 : TI := ⟨.func #[68, 3, 29] #[29] false, 1, 8, (some .nilFunc), false⟩
noncomputable def Tryz.ti311 : TI := ⟨.func #[3, 283, 313] #[4] false, 1, 8, (some .nilFunc), false⟩
noncomputable def Tryz.ti312 : TI := ⟨.struct #[⟨ "first", 3, 0, false, "", "bioscope/reel", 0⟩, ⟨ "behind", 3, 1, false, "", "bioscope/reel", 8⟩], 2, 16, (some (.agg [(.int .i64 (.lit 0)), (.int .i64 (.lit 0))])), true⟩
noncomputable def Tryz.ti313 : TI := ⟨.struct #[⟨ "first", 3, 0, false, "", "bioscope/reel", 0⟩, ⟨ "behind", 3, 1, false, "", "bioscope/reel", 8⟩], 2, 16, (some (.agg [(.int .i64 (.lit 0)), (.int .i64 (.lit 0))])), true⟩
noncomputable def Tryz.ti314 : TI := ⟨.struct #[⟨ "reel", 3, 0, false, "", "bioscope/reel", 0⟩, ⟨ "before", 313, 1, false, "", "bioscope/reel", 8⟩], 3, 24, (some (.agg [(.int .i64 (.lit 0)), (.int .i64 (.lit 0)), (.int .i64 (.lit 0))])), true⟩
noncomputable def Tryz.ti315 : TI := ⟨.struct #[⟨ "reel", 3, 0, false, "", "bioscope/reel", 0⟩, ⟨ "before", 313, 1, false, "", "bioscope/reel", 8⟩], 3, 24, (some (.agg [(.int .i64 (.lit 0)), (.int .i64 (.lit 0)), (.int .i64 (.lit 0))])), true⟩
noncomputable def Tryz.ti316 : TI := ⟨.func #[] #[313] false, 1, 8, (some .nilFunc), false⟩
noncomputable def Tryz.ti317 : TI := ⟨.tuple #[313, 4], 1, 0, none, false⟩
noncomputable def Tryz.ti318 : TI := ⟨.tuple #[289, 289], 1, 0, none, false⟩
noncomputable def Tryz.ti319 : TI := ⟨.func #[] #[289, 289] false, 1, 8, (some .nilFunc), false⟩
noncomputable def Tryz.ti320 : TI := ⟨.func #[191, 155] #[4] false, 1, 8, (some .nilFunc), false⟩
noncomputable def Tryz.ti321 : TI := ⟨.func #[191, 270, 3] #[155] false, 1, 8, (some .nilFunc), false⟩
noncomputable def Tryz.ti322 : TI := ⟨.func #[23, 147] #[3] false, 1, 8, (some .nilFunc), false⟩
noncomputable def Tryz.ti323 : TI := ⟨.func #[29, 29] #[29] false, 1, 8, (some .nilFunc), false⟩
noncomputable def Tryz.ti324 : TI := ⟨.array 2 289, 4, 32, (some (.agg [.nilFunc, .nilFunc, .nilFunc, .nilFunc])), true⟩
noncomputable def Tryz.ti325 : TI := ⟨.func #[] #[9] false, 1, 8, (some .nilFunc), false⟩
noncomputable def Tryz.ti326 : TI := ⟨.struct #[⟨ "_interface", 17, 0, false, "", "runtime", 0⟩, ⟨ "concrete", 17, 1, false, "", "runtime", 8⟩, ⟨ "asserted", 17, 2, false, "", "runtime", 16⟩, ⟨ "missingMethod", 9, 3, false, "", "runtime", 24⟩], 4, 40, none, false⟩
noncomputable def Tryz.ti327 : TI := ⟨.struct #[⟨ "_interface", 17, 0, false, "", "runtime", 0⟩, ⟨ "concrete", 17, 1, false, "", "runtime", 8⟩, ⟨ "asserted", 17, 2, false, "", "runtime", 16⟩, ⟨ "missingMethod", 9, 3, false, "", "runtime", 24⟩], 4, 40, none, false⟩
noncomputable def Tryz.ti328 : TI := ⟨.array 0 16, 0, 0, (some (.agg [])), true⟩
noncomputable def Tryz.ti329 : TI := ⟨.struct #[⟨ "_", 328, 0, false, "", "runtime", 0⟩], 0, 0, (some (.agg [])), false⟩
noncomputable def Tryz.ti330 : TI := ⟨.struct #[⟨ "_", 328, 0, false, "", "runtime", 0⟩], 0, 0, (some (.agg [])), false⟩
noncomputable def Tryz.ti331 : TI := ⟨.int .u32, 1, 4, (some (.int .u32 (.lit 0))), false⟩
noncomputable def Tryz.ti332 : TI := ⟨.int .u8, 1, 1, (some (.int .u8 (.lit 0))), false⟩
noncomputable def Tryz.ti333 : TI := ⟨.int .u8, 1, 1, (some (.int .u8 (.lit 0))), false⟩
noncomputable def Tryz.ti334 : TI := ⟨.func #[340, 340] #[4] false, 1, 8, (some .nilFunc), false⟩
noncomputable def Tryz.ti335 : TI := ⟨.pointer 5, 1, 8, (some .nilptr), false⟩
noncomputable def Tryz.ti336 : TI := ⟨.int .i32, 1, 4, (some (.int .i32 (.lit 0))), false⟩
noncomputable def Tryz.ti337 : TI := ⟨.int .i32, 1, 4, (some (.int .i32 (.lit 0))), false⟩
noncomputable def Tryz.ti338 : TI := ⟨.struct #[⟨ "Size_", 12, 0, false, "", "", 0⟩, ⟨ "PtrBytes", 12, 1, false, "", "", 8⟩, ⟨ "Hash", 331, 2, false, "", "", 16⟩, ⟨ "TFlag", 332, 3, false, "", "", 20⟩, ⟨ "Align_", 5, 4, false, "", "", 21⟩, ⟨ "FieldAlign_", 5, 5, false, "", "", 22⟩, ⟨ "Kind_", 333, 6, false, "", "", 23⟩, ⟨ "Equal", 334, 7, false, "", "", 24⟩, ⟨ "GCData", 335, 8, false, "", "", 32⟩, ⟨ "Str", 336, 9, false, "", "", 40⟩, ⟨ "PtrToThis", 337, 10, false, "", "", 44⟩], 11, 48, (some (.agg [(.int .u64 (.lit 0)), (.int .u64 (.lit 0)), (.int .u32 (.lit 0)), (.int .u8 (.lit 0)), (.int .u8 (.lit 0)), (.int .u8 (.lit 0)), (.int .u8 (.lit 0)), .nilFunc, .nilptr, (.int .i32 (.lit 0)), (.int .i32 (.lit 0))])), false⟩
noncomputable def Tryz.ti339 : TI := ⟨.struct #[⟨ "Size_", 12, 0, false, "", "", 0⟩, ⟨ "PtrBytes", 12, 1, false, "", "", 8⟩, ⟨ "Hash", 331, 2, false, "", "", 16⟩, ⟨ "TFlag", 332, 3, false, "", "", 20⟩, ⟨ "Align_", 5, 4, false, "", "", 21⟩, ⟨ "FieldAlign_", 5, 5, false, "", "", 22⟩, ⟨ "Kind_", 333, 6, false, "", "", 23⟩, ⟨ "Equal", 334, 7, false, "", "", 24⟩, ⟨ "GCData", 335, 8, false, "", "", 32⟩, ⟨ "Str", 336, 9, false, "", "", 40⟩, ⟨ "PtrToThis", 337, 10, false, "", "", 44⟩], 11, 48, (some (.agg [(.int .u64 (.lit 0)), (.int .u64 (.lit 0)), (.int .u32 (.lit 0)), (.int .u8 (.lit 0)), (.int .u8 (.lit 0)), (.int .u8 (.lit 0)), (.int .u8 (.lit 0)), .nilFunc, .nilptr, (.int .i32 (.lit 0)), (.int .i32 (.lit 0))])), false⟩
noncomputable def Tryz.tt : PT TI := (.node (some Tryz.ti0) (.node (some Tryz.ti1) (.node (some Tryz.ti3) (.node (some Tryz.ti7) (.node (some Tryz.ti15) (.node (some Tryz.ti31) (.node (some Tryz.ti63) (.node (some Tryz.ti127) (.node (some Tryz.ti255) .nil .nil) .nil) (.node (some Tryz.ti191) (.node (some Tryz.ti319) .nil .nil) .nil)) (.node (some Tryz.ti95) (.node (some Tryz.ti159) (.node (some Tryz.ti287) .nil .nil) .nil) (.node (some Tryz.ti223) .nil .nil))) (.node (some Tryz.ti47) (.node (some Tryz.ti79) (.node (some Tryz.ti143) (.node (some Tryz.ti271) .nil .nil) .nil) (.node (some Tryz.ti207) (.node (some Tryz.ti335) .nil .nil) .nil)) (.node (some Tryz.ti111) (.node (some Tryz.ti175) (.node (some Tryz.ti303) .nil .nil) .nil) (.node (some Tryz.ti239) .nil .nil)))) (.node (some Tryz.ti23) (.node (some Tryz.ti39) (.node (some Tryz.ti71) (.node (some Tryz.ti135) (.node (some Tryz.ti263) .nil .nil) .nil) (.node (some Tryz.ti199) (.node (some Tryz.ti327) .nil .nil) .nil)) (.node (some Tryz.ti103) (.node (some Tryz.ti167) (.node (some Tryz.ti295) .nil .nil) .nil) (.node (some Tryz.ti231) .nil .nil))) (.node (some Tryz.ti55) (.node (some Tryz.ti87) (.node (some Tryz.ti151) (.node (some Tryz.ti279) .nil .nil) .nil) (.node (some Tryz.ti215) .nil .nil)) (.node (some Tryz.ti119) (.node (some Tryz.ti183) (.node (some Tryz.ti311) .nil .nil) .nil) (.node (some Tryz.ti247) .nil .nil))))) (.node (some Tryz.ti11) (.node (some Tryz.ti19) (.node (some Tryz.ti35) (.node (some Tryz.ti67) (.node (some Tryz.ti131) (.node (some Tryz.ti259) .nil .nil) .nil) (.node (some Tryz.ti195) (.node (some Tryz.ti323) .nil .nil) .nil)) (.node (some Tryz.ti99) (.node (some Tryz.ti163) (.node (some Tryz.ti291) .nil .nil) .nil) (.node (some Tryz.ti227) .nil .nil))) (.node (some Tryz.ti51) (.node (some Tryz.ti83) (.node (some Tryz.ti147) (.node (some Tryz.ti275) .nil .nil) .nil) (.node (some Tryz.ti211) (.node (some Tryz.ti339) .nil .nil) .nil)) (.node (some Tryz.ti115) (.node (some Tryz.ti179) (.node (some Tryz.ti307) .nil .nil) .nil) (.node (some Tryz.ti243) .nil .nil)))) (.node (some Tryz.ti27) (.node (some Tryz.ti43) (.node (some Tryz.ti75) (.node (some Tryz.ti139) (.node (some Tryz.ti267) .nil .nil) .nil) (.node (some Tryz.ti203) (.node (some Tryz.ti331) .nil .nil) .nil)) (.node (some Tryz.ti107) (.node (some Tryz.ti171) (.node (some Tryz.ti299) .nil .nil) .nil) (.node (some Tryz.ti235) .nil .nil))) (.node (some Tryz.ti59) (.node (some Tryz.ti91) (.node (some Tryz.ti155) (.node (some Tryz.ti283) .nil .nil) .nil) (.node (some Tryz.ti219) .nil .nil)) (.node (some Tryz.ti123) (.node (some Tryz.ti187) (.node (some Tryz.ti315) .nil .nil) .nil) (.node (some Tryz.ti251) .nil .nil)))))) (.node (some Tryz.ti5) (.node (some Tryz.ti9) (.node (some Tryz.ti17) (.node (some Tryz.ti33) (.node (some Tryz.ti65) (.node (some Tryz.ti129) (.node (some Tryz.ti257) .nil .nil) .nil) (.node (some Tryz.ti193) (.node (some Tryz.ti321) .nil .nil) .nil)) (.node (some Tryz.ti97) (.node (some Tryz.ti161) (.node (some Tryz.ti289) .nil .nil) .nil) (.node (some Tryz.ti225) .nil .nil))) (.node (some Tryz.ti49) (.node (some Tryz.ti81) (.node (some Tryz.ti145) (.node (some Tryz.ti273) .nil .nil) .nil) (.node (some Tryz.ti209) (.node (some Tryz.ti337) .nil .nil) .nil)) (.node (some Tryz.ti113) (.node (some Tryz.ti177) (.node (some Tryz.ti305) .nil .nil) .nil) (.node (some Tryz.ti241) .nil .nil)))) (.node (some Tryz.ti25) (.node (some Tryz.ti41) (.node (some Tryz.ti73) (.node (some Tryz.ti137) (.node (some Tryz.ti265) .nil .nil) .nil) (.node (some Tryz.ti201) (.node (some Tryz.ti329) .nil .nil) .nil)) (.node (some Tryz.ti105) (.node (some Tryz.ti169) (.node (some Tryz.ti297) .nil .nil) .nil) (.node (some Tryz.ti233) .nil .nil))) (.node (some Tryz.ti57) (.node (some Tryz.ti89) (.node (some Tryz.ti153) (.node (some Tryz.ti281) .nil .nil) .nil) (.node (some Tryz.ti217) .nil .nil)) (.node (some Tryz.ti121) (.node (some Tryz.ti185) (.node (some Tryz.ti313) .nil .nil) .nil) (.node (some Tryz.ti249) .nil .nil))))) (.node (some Tryz.ti13) (.node (some Tryz.ti21) (.node (some Tryz.ti37) (.node (some Tryz.ti69) (.node (some Tryz.ti133) (.node (some Tryz.ti261) .nil .nil) .nil) (.node (some Tryz.ti197) (.node (some Tryz.ti325) .nil .nil) .nil)) (.node (some Tryz.ti101) (.node (some Tryz.ti165) (.node (some Tryz.ti293) .nil .nil) .nil) (.node (some Tryz.ti229) .nil .nil))) (.node (some Tryz.ti53) (.node (some Tryz.ti85) (.node (some Tryz.ti149) (.node (some Tryz.ti277) .nil .nil) .nil) (.node (some Tryz.ti213) .nil .nil)) (.node (some Tryz.ti117) (.node (some Tryz.ti181) (.node (some Tryz.ti309) .nil .nil) .nil) (.node (some Tryz.ti245) .nil .nil)))) (.node (some Tryz.ti29) (.node (some Tryz.ti45) (.node (some Tryz.ti77) (.node (some Tryz.ti141) (.node (some Tryz.ti269) .nil .nil) .nil) (.node (some Tryz.ti205) (.node (some Tryz.ti333) .nil .nil) .nil)) (.node (some Tryz.ti109) (.node (some Tryz.ti173) (.node (some Tryz.ti301) .nil .nil) .nil) (.node (some Tryz.ti237) .nil .nil))) (.node (some Tryz.ti61) (.node (some Tryz.ti93) (.node (some Tryz.ti157) (.node (some Tryz.ti285) .nil .nil) .nil) (.node (some Tryz.ti221) .nil .nil)) (.node (some Tryz.ti125) (.node (some Tryz.ti189) (.node (some Tryz.ti317) .nil .nil) .nil) (.node (some Tryz.ti253) .nil .nil))))))) (.node (some Tryz.ti2) (.node (some Tryz.ti4) (.node (some Tryz.ti8) (.node (some Tryz.ti16) (.node (some Tryz.ti32) (.node (some Tryz.ti64) (.node (some Tryz.ti128) (.node (some Tryz.ti256) .nil .nil) .nil) (.node (some Tryz.ti192) (.node (some Tryz.ti320) .nil .nil) .nil)) (.node (some Tryz.ti96) (.node (some Tryz.ti160) (.node (some Tryz.ti288) .nil .nil) .nil) (.node (some Tryz.ti224) .nil .nil))) (.node (some Tryz.ti48) (.node (some Tryz.ti80) (.node (some Tryz.ti144) (.node (some Tryz.ti272) .nil .nil) .nil) (.node (some Tryz.ti208) (.node (some Tryz.ti336) .nil .nil) .nil)) (.node (some Tryz.ti112) (.node (some Tryz.ti176) (.node (some Tryz.ti304) .nil .nil) .nil) (.node (some Tryz.ti240) .nil .nil)))) (.node (some Tryz.ti24) (.node (some Tryz.ti40) (.node (some Tryz.ti72) (.node (some Tryz.ti136) (.node (some Tryz.ti264) .nil .nil) .nil) (.node (some Tryz.ti200) (.node (some Tryz.ti328) .nil .nil) .nil)) (.node (some Tryz.ti104) (.node (some Tryz.ti168) (.node (some Tryz.ti296) .nil .nil) .nil) (.node (some Tryz.ti232) .nil .nil))) (.node (some Tryz.ti56) (.node (some Tryz.ti88) (.node (some Tryz.ti152) (.node (some Tryz.ti280) .nil .nil) .nil) (.node (some Tryz.ti216) .nil .nil)) (.node (some Tryz.ti120) (.node (some Tryz.ti184) (.node (some Tryz.ti312) .nil .nil) .nil) (.node (some Tryz.ti248) .nil .nil))))) (.node (some Tryz.ti12) (.node (some Tryz.ti20) (.node (some Tryz.ti36) (.node (some Tryz.ti68) (.node (some Tryz.ti132) (.node (some Tryz.ti260) .nil .nil) .nil) (.node (some Tryz.ti196) (.node (some Tryz.ti324) .nil .nil) .nil)) (.node (some Tryz.ti100) (.node (some Tryz.ti164) (.node (some Tryz.ti292) .nil .nil) .nil) (.node (some Tryz.ti228) .nil .nil))) (.node (some Tryz.ti52) (.node (some Tryz.ti84) (.node (some Tryz.ti148) (.node (some Tryz.ti276) .nil .nil) .nil) (.node (some Tryz.ti212) (.node none .nil .nil) .nil)) (.node (some Tryz.ti116) (.node (some Tryz.ti180) (.node (some Tryz.ti308) .nil .nil) .nil) (.node (some Tryz.ti244) .nil .nil)))) (.node (some Tryz.ti28) (.node (some Tryz.ti44) (.node (some Tryz.ti76) (.node (some Tryz.ti140) (.node (some Tryz.ti268) .nil .nil) .nil) (.node (some Tryz.ti204) (.node (some Tryz.ti332) .nil .nil) .nil)) (.node (some Tryz.ti108) (.node (some Tryz.ti172) (.node (some Tryz.ti300) .nil .nil) .nil) (.node (some Tryz.ti236) .nil .nil))) (.node (some Tryz.ti60) (.node (some Tryz.ti92) (.node (some Tryz.ti156) (.node (some Tryz.ti284) .nil .nil) .nil) (.node (some Tryz.ti220) .nil .nil)) (.node (some Tryz.ti124) (.node (some Tryz.ti188) (.node (some Tryz.ti316) .nil .nil) .nil) (.node (some Tryz.ti252) .nil .nil)))))) (.node (some Tryz.ti6) (.node (some Tryz.ti10) (.node (some Tryz.ti18) (.node (some Tryz.ti34) (.node (some Tryz.ti66) (.node (some Tryz.ti130) (.node (some Tryz.ti258) .nil .nil) .nil) (.node (some Tryz.ti194) (.node (some Tryz.ti322) .nil .nil) .nil)) (.node (some Tryz.ti98) (.node (some Tryz.ti162) (.node (some Tryz.ti290) .nil .nil) .nil) (.node (some Tryz.ti226) .nil .nil))) (.node (some Tryz.ti50) (.node (some Tryz.ti82) (.node (some Tryz.ti146) (.node (some Tryz.ti274) .nil .nil) .nil) (.node (some Tryz.ti210) (.node (some Tryz.ti338) .nil .nil) .nil)) (.node (some Tryz.ti114) (.node (some Tryz.ti178) (.node (some Tryz.ti306) .nil .nil) .nil) (.node (some Tryz.ti242) .nil .nil)))) (.node (some Tryz.ti26) (.node (some Tryz.ti42) (.node (some Tryz.ti74) (.node (some Tryz.ti138) (.node (some Tryz.ti266) .nil .nil) .nil) (.node (some Tryz.ti202) (.node (some Tryz.ti330) .nil .nil) .nil)) (.node (some Tryz.ti106) (.node (some Tryz.ti170) (.node (some Tryz.ti298) .nil .nil) .nil) (.node (some Tryz.ti234) .nil .nil))) (.node (some Tryz.ti58) (.node (some Tryz.ti90) (.node (some Tryz.ti154) (.node (some Tryz.ti282) .nil .nil) .nil) (.node (some Tryz.ti218) .nil .nil)) (.node (some Tryz.ti122) (.node (some Tryz.ti186) (.node (some Tryz.ti314) .nil .nil) .nil) (.node (some Tryz.ti250) .nil .nil))))) (.node (some Tryz.ti14) (.node (some Tryz.ti22) (.node (some Tryz.ti38) (.node (some Tryz.ti70) (.node (some Tryz.ti134) (.node (some Tryz.ti262) .nil .nil) .nil) (.node (some Tryz.ti198) (.node (some Tryz.ti326) .nil .nil) .nil)) (.node (some Tryz.ti102) (.node (some Tryz.ti166) (.node (some Tryz.ti294) .nil .nil) .nil) (.node (some Tryz.ti230) .nil .nil))) (.node (some Tryz.ti54) (.node (some Tryz.ti86) (.node (some Tryz.ti150) (.node (some Tryz.ti278) .nil .nil) .nil) (.node (some Tryz.ti214) .nil .nil)) (.node (some Tryz.ti118) (.node (some Tryz.ti182) (.node (some Tryz.ti310) .nil .nil) .nil) (.node (some Tryz.ti246) .nil .nil)))) (.node (some Tryz.ti30) (.node (some Tryz.ti46) (.node (some Tryz.ti78) (.node (some Tryz.ti142) (.node (some Tryz.ti270) .nil .nil) .nil) (.node (some Tryz.ti206) (.node (some Tryz.ti334) .nil .nil) .nil)) (.node (some Tryz.ti110) (.node (some Tryz.ti174) (.node (some Tryz.ti302) .nil .nil) .nil) (.node (some Tryz.ti238) .nil .nil))) (.node (some Tryz.ti62) (.node (some Tryz.ti94) (.node (some Tryz.ti158) (.node (some Tryz.ti286) .nil .nil) .nil) (.node (some Tryz.ti222) .nil .nil)) (.node (some Tryz.ti126) (.node (some Tryz.ti190) (.node (some Tryz.ti318) .nil .nil) .nil) (.node (some Tryz.ti254) .nil .nil))))))))
noncomputable def Tryz.kp11 : List Nat := [0, 1, 2, 4, 6, 8, 10, 12, 14, 15, 16, 18, 20, 22, 24, 26, 28, 30, 32, 34, 36, 38, 39, 40, 41, 42, 43, 44, 45, 46, 47,
 48, 49, 50, 51, 52, 53, 54, 137, 217, 226, 278, 343]
noncomputable def Tryz.cf11 : CF := ⟨0, (cSeq (cOps [⟨some 0, true, none, iMov (.c (.bool (.lit false)))⟩])
 (cSeq (cOps [⟨some 55, false, none, iBuild [.nilslice, (.int .i64 (.lit 0)), .nilslice, (.int .i64 (.lit 0)), (.int .i64 (.lit 0)), .nilslice, (.int .i64 (.lit 0)), .nilslice, (.int .i64 (.lit 0)), (.int .i64 (.lit 0)), (.int .i64 (.lit 0)), (.int .i64 (.lit 0)), (.bool (.lit false))] []⟩,
 ⟨some 56, false, none, iCall (.c (.func (.func 47) [] [])) []⟩,
 ⟨some 57, false, none, iCall (.c (.func (.func 47) [] [])) []⟩,
 ⟨some 58, false, none, iCall (.c (.func (.func 47) [] [])) []⟩,
 ⟨some 59, false, none, iCall (.c (.func (.func 47) [] [])) []⟩,
 ⟨some 60, false, none, iCall (.c (.func (.func 47) [] [])) []⟩,
 ⟨some 61, false, none, iCall (.c (.func (.func 47) [] [])) []⟩,
 ⟨some 62, false, none, iCall (.c (.func (.func 47) [] [])) []⟩,
 ⟨some 63, false, none, iCall (.c (.func (.func 47) [] [])) []⟩,
 ⟨some 64, false, none, iCall (.c (.func (.func 47) [] [])) []⟩,
 ⟨some 65, false, none, iCall (.c (.func (.func 47) [] [])) []⟩,
 ⟨some 66, false, none, iCall (.c (.func (.func 47) [] [])) []⟩,
 ⟨some 67, false, none, iBslice 31 [.nilslice, (.int .i64 (.lit 0)), .nilslice, (.int .i64 (.lit 0)), (.int .i64 (.lit 0)), .nilslice, (.int .i64 (.lit 0)), .nilslice, (.int .i64 (.lit 0)), (.int .i64 (.lit 0)), (.int .i64 (.lit 0)), (.int .i64 (.lit 0)), (.bool (.lit false))] 12 [(0, 13, (.t 55)), (13, 13, (.t 56)), (26, 13, (.t 57)), (39, 13, (.t 58)), (52, 13, (.t 59)), (65, 13, (.t 60)), (78, 13, (.t 61)), (91, 13, (.t 62)), (104, 13, (.t 63)), (117, 13, (.t 64)), (130, 13, (.t 65)), (143, 13, (.t 66))]⟩,
 ⟨some 1, true, none, iMov (.t 67)⟩])
 (cSeq (cOps [⟨some 68, false, none, iMov (.t 1)⟩,
 ⟨some 69, false, none, iIaddr 13 (.t 68) (.c (.int .i64 (.lit 1)))⟩,
 ⟨some 70, false, none, iFaddr 0 (.t 69)⟩,
 ⟨some 71, false, none, iFaddr 0 (.t 70)⟩,
 ⟨none, false, none, iStore 1 (.t 71) (.c .nilslice)⟩])
 (cSeq (cOps [⟨some 72, false, none, iMov (.t 1)⟩,
 ⟨some 73, false, none, iIaddr 13 (.t 72) (.c (.int .i64 (.lit 2)))⟩,
 ⟨some 74, false, none, iFaddr 6 (.t 73)⟩,
 ⟨none, false, none, iStore 1 (.t 74) (.c (.int .i64 (.lit 1000)))⟩])
 (cSeq (cOps [⟨some 75, false, none, iMov (.t 1)⟩,
 ⟨some 76, false, none, iIaddr 13 (.t 75) (.c (.int .i64 (.lit 3)))⟩,
 ⟨some 77, false, none, iFaddr 7 (.t 76)⟩,
 ⟨none, false, none, iStore 1 (.t 77) (.c .nilslice)⟩])
 (cSeq (cOps [⟨some 78, false, none, iMov (.t 1)⟩,
 ⟨some 79, false, none, iCall (.c (.func (.func 46) [] [])) [(.c (.int .i64 (.lit 0))), (.c (.int .i64 (.lit 601)))]⟩,
 ⟨some 80, false, none, iIaddr 13 (.t 78) (.c (.int .i64 (.lit 4)))⟩,
 ⟨some 81, false, none, iFaddr 8 (.t 80)⟩,
 ⟨none, false, none, iStore 2 (.t 81) (.t 79)⟩])
 (cSeq (cOps [⟨some 82, false, none, iMov (.t 1)⟩,
 ⟨some 83, false, none, iCall (.c (.func (.func 46) [] [])) [(.c (.int .i64 (.lit 6))), (.c (.int .i64 (.lit 5)))]⟩,
 ⟨some 84, false, none, iIaddr 13 (.t 82) (.c (.int .i64 (.lit 5)))⟩,
 ⟨some 85, false, none, iFaddr 10 (.t 84)⟩,
 ⟨none, false, none, iStore 2 (.t 85) (.t 83)⟩])
 (cSeq (cOps [⟨some 86, false, none, iMov (.t 1)⟩,
 ⟨some 87, false, none, iIaddr 13 (.t 86) (.c (.int .i64 (.lit 6)))⟩,
 ⟨some 88, false, none, iFaddr 7 (.t 87)⟩,
 ⟨some 89, false, none, iLoad (.t 88)⟩,
 ⟨some 90, false, none, iIaddr 10 (.t 89) (.c (.int .i64 (.lit 0)))⟩,
 ⟨some 91, false, none, iFaddr 0 (.t 90)⟩,
 ⟨none, false, none, iStore 1 (.t 91) (.c (.int .i64 (.lit 16)))⟩])
 (cSeq (cOps [⟨some 92, false, none, iMov (.t 1)⟩,
 ⟨some 93, false, none, iIaddr 13 (.t 92) (.c (.int .i64 (.lit 7)))⟩,
 ⟨some 94, false, none, iFaddr 7 (.t 93)⟩,
 ⟨some 95, false, none, iLoad (.t 94)⟩,
 ⟨some 96, false, none, iIaddr 10 (.t 95) (.c (.int .i64 (.lit 1)))⟩,
 ⟨some 97, false, none, iFaddr 8 (.t 96)⟩,
 ⟨none, false, none, iStore 1 (.t 97) (.c (.int .i64 (.lit 1440)))⟩])
 (cSeq (cOps [⟨some 98, false, none, iMov (.t 1)⟩,
 ⟨some 99, false, none, iIaddr 13 (.t 98) (.c (.int .i64 (.lit 8)))⟩,
 ⟨some 100, false, none, iFaddr 7 (.t 99)⟩,
 ⟨some 101, false, none, iLoad (.t 100)⟩,
 ⟨some 102, false, none, iIaddr 10 (.t 101) (.c (.int .i64 (.lit 0)))⟩,
 ⟨some 103, false, none, iFaddr 7 (.t 102)⟩,
 ⟨none, false, none, iStore 1 (.t 103) (.c (.int .i64 (.lit (-1))))⟩])
 (cSeq (cOps [⟨some 104, false, none, iMov (.t 1)⟩,
 ⟨some 105, false, none, iIaddr 13 (.t 104) (.c (.int .i64 (.lit 9)))⟩,
 ⟨some 106, false, none, iFaddr 7 (.t 105)⟩,
 ⟨some 107, false, none, iLoad (.t 106)⟩,
 ⟨some 108, false, none, iIaddr 10 (.t 107) (.c (.int .i64 (.lit 1)))⟩,
 ⟨some 109, false, none, iFaddr 1 (.t 108)⟩,
 ⟨some 110, false, none, iFaddr 5 (.t 109)⟩,
 ⟨none, false, none, iStore 1 (.t 110) (.c (.int .i64 (.lit 999)))⟩])
 (cSeq (dOps 1 [⟨⟨some 111, false, none, iMov (.t 1)⟩, [1], false, 0, 2, none, []⟩,
 ⟨⟨some 112, false, none, iIaddr 13 (.t 111) (.c (.int .i64 (.lit 10)))⟩, [111], false, 0, 2, none, []⟩,
 ⟨⟨some 113, false, none, iFaddr 7 (.t 112)⟩, [112], false, 0, 2, none, []⟩,
 ⟨⟨some 114, false, none, iLoad (.t 113)⟩, [113], false, 0, 2, none, []⟩,
 ⟨⟨some 115, false, none, iCall (.c (.func (.func 46) [] [])) [(.c (.int .i64 (.lit 6))), (.c (.int .i64 (.lit 6)))]⟩, [], true, 0, 0, none, []⟩,
 ⟨⟨some 116, false, none, iBuild [(.int .i64 (.lit 0)), (.int .i64 (.lit 0)), (.int .i64 (.lit 0))] [(0, 1, (.c (.int .i64 (.lit 1)))), (1, 1, (.c (.int .i64 (.lit 4)))), (2, 1, (.c (.int .i64 (.lit 1000))))]⟩, [], false, 0, 1, none, []⟩,
 ⟨⟨some 117, false, none, iBuild [(.int .i64 (.lit 0)), (.int .i64 (.lit 0)), (.int .i64 (.lit 0))] [(0, 1, (.c (.int .i64 (.lit 7)))), (1, 1, (.c (.int .i64 (.lit 9)))), (2, 1, (.c (.int .i64 (.lit 800))))]⟩, [], false, 0, 1, none, []⟩,
 ⟨⟨some 118, false, none, iBslice 64 [(.int .i64 (.lit 0)), (.int .i64 (.lit 0)), (.int .i64 (.lit 0))] 2 [(0, 3, (.t 116)), (3, 3, (.t 117))]⟩, [116, 117], false, 0, 3, (some (flSlice [(.int .i64 (.lit 0)), (.int .i64 (.lit 0)), (.int .i64 (.lit 0))] 2 [(0, 3, (.t 116)), (3, 3, (.t 117))], .sl 2, 0)), []⟩,
 ⟨⟨some 119, false, none, iCall (.c (.func (.func 48) [] [])) [(.t 115), (.c (.int .i64 (.lit 1000))), (.t 118)]⟩, [115, 118], true, 1, 0, none, [0]⟩,
 ⟨⟨some 120, false, none, iIaddr 10 (.t 114) (.c (.int .i64 (.lit 1)))⟩, [114], false, 2, 2, none, []⟩,
 ⟨⟨some 121, false, none, iFaddr 1 (.t 120)⟩, [120], false, 2, 2, none, []⟩,
 ⟨⟨none, false, none, iStore 6 (.t 121) (.t 119)⟩, [121, 119], true, 2, 0, none, [0]⟩])
 (cSeq (dOps 0 [⟨⟨some 122, false, none, iMov (.t 1)⟩, [1], false, 0, 1, none, []⟩,
 ⟨⟨some 123, false, none, iMov (.t 1)⟩, [1], false, 0, 0, none, []⟩,
 ⟨⟨some 124, false, none, iIaddr 13 (.t 123) (.c (.int .i64 (.lit 11)))⟩, [123], false, 0, 0, none, []⟩,
 ⟨⟨some 125, false, none, iFaddr 7 (.t 124)⟩, [124], false, 0, 0, none, []⟩,
 ⟨⟨some 126, false, none, iLoad (.t 125)⟩, [125], false, 0, 0, none, []⟩,
 ⟨⟨some 127, false, none, iMov (.t 1)⟩, [1], false, 0, 0, none, []⟩,
 ⟨⟨some 128, false, none, iIaddr 13 (.t 127) (.c (.int .i64 (.lit 11)))⟩, [127], false, 0, 0, none, []⟩,
 ⟨⟨some 129, false, none, iFaddr 7 (.t 128)⟩, [128], false, 0, 0, none, []⟩,
 ⟨⟨some 130, false, none, iLoad (.t 129)⟩, [129], false, 0, 0, none, []⟩,
 ⟨⟨some 131, false, none, iAppend 70 10 96 (.t 126) (.t 130)⟩, [126, 130], true, 0, 0, none, []⟩,
 ⟨⟨some 132, false, none, iIaddr 13 (.t 122) (.c (.int .i64 (.lit 11)))⟩, [122], false, 1, 1, none, []⟩,
 ⟨⟨some 133, false, none, iFaddr 7 (.t 132)⟩, [132], false, 1, 1, none, []⟩,
 ⟨⟨none, false, none, iStore 1 (.t 133) (.t 131)⟩, [133, 131], true, 1, 0, none, []⟩])
 (cSeq (cSeq (cOps [⟨some 2, true, none, iMov (.c (.int .i64 (.lit 0)))⟩])
 (cBlock 0 (cLoop (cSeq (cSeq (cOps [⟨some 134, false, none, iMov (.t 2)⟩,
 ⟨some 135, false, none, iMov (.t 1)⟩,
 ⟨some 136, false, none, iLenS (.t 135)⟩,
 ⟨some 137, true, none, iCmp .lss (.t 134) (.t 136)⟩])
 (cCond (.t 137) cSkip (cExit 0)))
 (cSeq (cBlock 1 (cSeq (cOps [⟨some 141, false, none, iMov (.t 1)⟩,
 ⟨some 142, false, none, iMov (.t 2)⟩,
 ⟨some 143, false, none, iIaddr 13 (.t 141) (.t 142)⟩,
 ⟨some 144, false, none, iLoadN 13 (.t 143)⟩,
 ⟨some 145, false, none, iCall (.c (.func (.func 14) [] [])) [(.t 144), (.c (.int .i64 (.lit (-1))))]⟩,
 ⟨some 140, false, none, iMov (.t 145)⟩,
 ⟨some 146, false, none, iExtract 0 (.t 140)⟩,
 ⟨some 147, false, none, iExtract 1 (.t 140)⟩,
 ⟨some 3, false, none, iAlloc 29 [(.int .i64 (.lit 0)), (.int .i64 (.lit 0))]⟩,
 ⟨none, false, none, iStore 2 (.t 3) (.t 146)⟩,
 ⟨some 4, true, none, iMov (.t 147)⟩])
 (cSeq (cOps [⟨some 149, false, none, iMov (.t 1)⟩,
 ⟨some 150, false, none, iMov (.t 2)⟩,
 ⟨some 151, false, none, iIaddr 13 (.t 149) (.t 150)⟩,
 ⟨some 152, false, none, iLoadN 13 (.t 151)⟩,
 ⟨some 153, false, none, iCall (.c (.func (.func 18) [] [])) [(.t 152), (.c .nilslice), (.c (.int .i64 (.lit (-1))))]⟩,
 ⟨some 148, false, none, iMov (.t 153)⟩,
 ⟨some 154, false, none, iExtract 0 (.t 148)⟩,
 ⟨some 155, false, none, iExtract 1 (.t 148)⟩,
 ⟨some 5, false, none, iMov (.t 154)⟩,
 ⟨some 6, true, none, iMov (.t 155)⟩])
 (cSeq (cOps [⟨some 157, false, none, iMov (.t 1)⟩,
 ⟨some 158, false, none, iMov (.t 2)⟩,
 ⟨some 159, false, none, iIaddr 13 (.t 157) (.t 158)⟩,
 ⟨some 160, false, none, iLoadN 13 (.t 159)⟩,
 ⟨some 161, false, none, iCall (.c (.func (.func 21) [] [])) [(.t 160), (.c .nilslice), (.c (.int .i64 (.lit (-1))))]⟩,
 ⟨some 156, false, none, iMov (.t 161)⟩,
 ⟨some 162, false, none, iExtract 0 (.t 156)⟩,
 ⟨some 163, false, none, iExtract 1 (.t 156)⟩,
 ⟨some 7, false, none, iMov (.t 162)⟩,
 ⟨some 8, true, none, iMov (.t 163)⟩])
 (cSeq (cOps [⟨some 165, false, none, iMov (.t 1)⟩,
 ⟨some 166, false, none, iMov (.t 2)⟩,
 ⟨some 167, false, none, iIaddr 13 (.t 165) (.t 166)⟩,
 ⟨some 168, false, none, iLoadN 13 (.t 167)⟩,
 ⟨some 169, false, none, iCall (.c (.func (.func 25) [] [])) [(.t 168), (.c .nilslice)]⟩,
 ⟨some 164, false, none, iMov (.t 169)⟩,
 ⟨some 170, false, none, iExtract 0 (.t 164)⟩,
 ⟨some 171, false, none, iExtract 1 (.t 164)⟩,
 ⟨some 9, false, none, iMov (.t 170)⟩,
 ⟨some 10, true, none, iMov (.t 171)⟩])
 (cSeq (cOps [⟨some 173, false, none, iMov (.t 1)⟩,
 ⟨some 174, false, none, iMov (.t 2)⟩,
 ⟨some 175, false, none, iIaddr 13 (.t 173) (.t 174)⟩,
 ⟨some 176, false, none, iLoadN 13 (.t 175)⟩,
 ⟨some 177, false, none, iCall (.c (.func (.func 27) [] [])) [(.t 176), (.c (.int .i64 (.lit (-1))))]⟩,
 ⟨some 172, false, none, iMov (.t 177)⟩,
 ⟨some 178, false, none, iExtract 0 (.t 172)⟩,
 ⟨some 179, false, none, iExtract 1 (.t 172)⟩,
 ⟨some 11, false, none, iMov (.t 178)⟩,
 ⟨some 12, true, none, iMov (.t 179)⟩])
 (cSeq (cOps [⟨some 181, false, none, iMov (.t 1)⟩,
 ⟨some 182, false, none, iMov (.t 2)⟩,
 ⟨some 183, false, none, iIaddr 13 (.t 181) (.t 182)⟩,
 ⟨some 184, false, none, iLoadN 13 (.t 183)⟩,
 ⟨some 185, false, none, iCall (.c (.func (.func 29) [] [])) [(.t 184), (.c .nilslice), (.c (.int .i64 (.lit (-1))))]⟩,
 ⟨some 180, false, none, iMov (.t 185)⟩,
 ⟨some 186, false, none, iExtract 0 (.t 180)⟩,
 ⟨some 187, false, none, iExtract 1 (.t 180)⟩,
 ⟨some 13, false, none, iMov (.t 186)⟩,
 ⟨some 14, true, none, iMov (.t 187)⟩])
 (cSeq (cOps [⟨some 188, false, none, iMov (.t 1)⟩,
 ⟨some 189, false, none, iMov (.t 2)⟩,
 ⟨some 190, false, none, iIaddr 13 (.t 188) (.t 189)⟩,
 ⟨some 191, false, none, iLoadN 13 (.t 190)⟩,
 ⟨some 192, false, none, iCall (.c (.func (.func 16) [] [])) [(.t 191)]⟩,
 ⟨some 193, false, none, iCmp .neq (.t 192) (.c (.int .i64 (.lit 60)))⟩,
 ⟨some 194, false, none, iMov (.t 193)⟩,
 ⟨some 195, false, some (194, false), iMov (.t 4)⟩,
 ⟨some 196, false, some (194, false), iCmp .neq (.t 195) (.c (.int .i64 (.lit 60)))⟩,
 ⟨some 197, false, none, iPick (.t 194) (.c (.bool (.lit true))) (.t 196)⟩,
 ⟨some 198, false, none, iMov (.t 197)⟩,
 ⟨some 199, false, some (198, false), iMov (.t 6)⟩,
 ⟨some 200, false, some (198, false), iCmp .neq (.t 199) (.c (.int .i64 (.lit 60)))⟩,
 ⟨some 201, false, none, iPick (.t 198) (.c (.bool (.lit true))) (.t 200)⟩,
 ⟨some 202, false, none, iMov (.t 201)⟩,
 ⟨some 203, false, some (202, false), iMov (.t 8)⟩,
 ⟨some 204, false, some (202, false), iCmp .neq (.t 203) (.c (.int .i64 (.lit 60)))⟩,
 ⟨some 205, false, none, iPick (.t 202) (.c (.bool (.lit true))) (.t 204)⟩,
 ⟨some 206, false, none, iMov (.t 205)⟩,
 ⟨some 207, false, some (206, false), iMov (.t 10)⟩,
 ⟨some 208, false, some (206, false), iCmp .neq (.t 207) (.c (.int .i64 (.lit 60)))⟩,
 ⟨some 209, false, none, iPick (.t 206) (.c (.bool (.lit true))) (.t 208)⟩,
 ⟨some 210, false, none, iMov (.t 209)⟩,
 ⟨some 211, false, some (210, false), iMov (.t 12)⟩,
 ⟨some 212, false, some (210, false), iCmp .neq (.t 211) (.c (.int .i64 (.lit 60)))⟩,
 ⟨some 213, false, none, iPick (.t 210) (.c (.bool (.lit true))) (.t 212)⟩,
 ⟨some 214, false, none, iMov (.t 213)⟩,
 ⟨some 215, false, some (214, false), iMov (.t 14)⟩,
 ⟨some 216, false, some (214, false), iCmp .neq (.t 215) (.c (.int .i64 (.lit 60)))⟩,
 ⟨some 217, true, none, iPick (.t 214) (.c (.bool (.lit true))) (.t 216)⟩])
 (cCond (.t 217) (cSeq (cOps [⟨some 0, true, none, iMov (.c (.bool (.lit false)))⟩])
 cRet) cSkip)))))))))
 (cOps [⟨some 138, false, none, iMov (.t 2)⟩,
 ⟨some 139, false, none, iArith .add (.t 138) (.c (.int .i64 (.lit 1)))⟩,
 ⟨some 2, true, none, iMov (.t 139)⟩]))))))
 (cSeq (cOps [⟨some 218, false, none, iBslice 3 [(.int .i64 (.lit 0))] 1 [(0, 1, (.c (.int .i64 (.lit 3))))]⟩,
 ⟨some 219, false, none, iBslice 3 [(.int .i64 (.lit 0))] 1 [(0, 1, (.c (.int .i64 (.lit (-1)))))]⟩,
 ⟨some 220, false, none, iBslice 3 [(.int .i64 (.lit 0))] 2 [(0, 1, (.c (.int .i64 (.lit 0)))), (1, 1, (.c (.int .i64 (.lit 0))))]⟩,
 ⟨some 221, false, none, iBslice 3 [(.int .i64 (.lit 0))] 4 [(0, 1, (.c (.int .i64 (.lit 0)))), (1, 1, (.c (.int .i64 (.lit 1)))), (2, 1, (.c (.int .i64 (.lit 2)))), (3, 1, (.c (.int .i64 (.lit 0))))]⟩,
 ⟨some 222, false, none, iBslice 32 [.nilslice] 5 [(0, 1, (.c .nilslice)), (1, 1, (.t 218)), (2, 1, (.t 219)), (3, 1, (.t 220)), (4, 1, (.t 221))]⟩,
 ⟨some 15, true, none, iMov (.t 222)⟩])
 (cSeq (cSeq (cOps [⟨some 16, true, none, iMov (.c (.int .i64 (.lit 0)))⟩])
 (cBlock 2 (cLoop (cSeq (cSeq (cOps [⟨some 223, false, none, iMov (.t 16)⟩,
 ⟨some 224, false, none, iMov (.t 15)⟩,
 ⟨some 225, false, none, iLenS (.t 224)⟩,
 ⟨some 226, true, none, iCmp .lss (.t 223) (.t 225)⟩])
 (cCond (.t 226) cSkip (cExit 2)))
 (cSeq (cBlock 3 (cSeq (dOps 0 [⟨⟨some 230, false, none, iCall (.c (.func (.func 47) [] [])) []⟩, [], true, 0, 0, none, []⟩,
 ⟨⟨some 231, false, none, iMov (.t 15)⟩, [15], false, 0, 1, none, []⟩,
 ⟨⟨some 232, false, none, iMov (.t 16)⟩, [16], false, 0, 1, none, []⟩,
 ⟨⟨some 233, false, none, iIaddr 1 (.t 231) (.t 232)⟩, [231, 232], false, 0, 1, none, []⟩,
 ⟨⟨some 234, false, none, iLoad (.t 233)⟩, [233], false, 0, 1, none, []⟩,
 ⟨⟨some 235, false, none, iCall (.c (.func (.func 18) [] [])) [(.t 230), (.t 234), (.c (.int .i64 (.lit 0)))]⟩, [230, 234], true, 1, 0, none, []⟩,
 ⟨⟨some 229, false, none, iMov (.t 235)⟩, [235], false, 2, 2, none, []⟩,
 ⟨⟨some 236, false, none, iExtract 0 (.t 229)⟩, [229], false, 2, 2, none, []⟩,
 ⟨⟨some 237, false, none, iExtract 1 (.t 229)⟩, [229], false, 2, 2, none, []⟩,
 ⟨⟨some 17, false, none, iMov (.t 236)⟩, [236], false, 2, 2, none, []⟩,
 ⟨⟨some 18, true, none, iMov (.t 237)⟩, [237], false, 2, 2, none, []⟩])
 (cSeq (dOps 0 [⟨⟨some 239, false, none, iCall (.c (.func (.func 47) [] [])) []⟩, [], true, 0, 0, none, []⟩,
 ⟨⟨some 240, false, none, iMov (.t 15)⟩, [15], false, 0, 1, none, []⟩,
 ⟨⟨some 241, false, none, iMov (.t 16)⟩, [16], false, 0, 1, none, []⟩,
 ⟨⟨some 242, false, none, iIaddr 1 (.t 240) (.t 241)⟩, [240, 241], false, 0, 1, none, []⟩,
 ⟨⟨some 243, false, none, iLoad (.t 242)⟩, [242], false, 0, 1, none, []⟩,
 ⟨⟨some 244, false, none, iCall (.c (.func (.func 21) [] [])) [(.t 239), (.t 243), (.c (.int .i64 (.lit 0)))]⟩, [239, 243], true, 1, 0, none, []⟩,
 ⟨⟨some 238, false, none, iMov (.t 244)⟩, [244], false, 2, 2, none, []⟩,
 ⟨⟨some 245, false, none, iExtract 0 (.t 238)⟩, [238], false, 2, 2, none, []⟩,
 ⟨⟨some 246, false, none, iExtract 1 (.t 238)⟩, [238], false, 2, 2, none, []⟩,
 ⟨⟨some 19, false, none, iMov (.t 245)⟩, [245], false, 2, 2, none, []⟩,
 ⟨⟨some 20, true, none, iMov (.t 246)⟩, [246], false, 2, 2, none, []⟩])
 (cSeq (dOps 0 [⟨⟨some 248, false, none, iCall (.c (.func (.func 47) [] [])) []⟩, [], true, 0, 0, none, []⟩,
 ⟨⟨some 249, false, none, iMov (.t 15)⟩, [15], false, 0, 1, none, []⟩,
 ⟨⟨some 250, false, none, iMov (.t 16)⟩, [16], false, 0, 1, none, []⟩,
 ⟨⟨some 251, false, none, iIaddr 1 (.t 249) (.t 250)⟩, [249, 250], false, 0, 1, none, []⟩,
 ⟨⟨some 252, false, none, iLoad (.t 251)⟩, [251], false, 0, 1, none, []⟩,
 ⟨⟨some 253, false, none, iCall (.c (.func (.func 25) [] [])) [(.t 248), (.t 252)]⟩, [248, 252], true, 1, 0, none, []⟩,
 ⟨⟨some 247, false, none, iMov (.t 253)⟩, [253], false, 2, 2, none, []⟩,
 ⟨⟨some 254, false, none, iExtract 0 (.t 247)⟩, [247], false, 2, 2, none, []⟩,
 ⟨⟨some 255, false, none, iExtract 1 (.t 247)⟩, [247], false, 2, 2, none, []⟩,
 ⟨⟨some 21, false, none, iMov (.t 254)⟩, [254], false, 2, 2, none, []⟩,
 ⟨⟨some 22, true, none, iMov (.t 255)⟩, [255], false, 2, 2, none, []⟩])
 (cSeq (dOps 0 [⟨⟨some 257, false, none, iCall (.c (.func (.func 47) [] [])) []⟩, [], true, 0, 0, none, []⟩,
 ⟨⟨some 258, false, none, iMov (.t 15)⟩, [15], false, 0, 1, none, []⟩,
 ⟨⟨some 259, false, none, iMov (.t 16)⟩, [16], false, 0, 1, none, []⟩,
 ⟨⟨some 260, false, none, iIaddr 1 (.t 258) (.t 259)⟩, [258, 259], false, 0, 1, none, []⟩,
 ⟨⟨some 261, false, none, iLoad (.t 260)⟩, [260], false, 0, 1, none, []⟩,
 ⟨⟨some 262, false, none, iCall (.c (.func (.func 29) [] [])) [(.t 257), (.t 261), (.c (.int .i64 (.lit 0)))]⟩, [257, 261], true, 1, 0, none, []⟩,
 ⟨⟨some 256, false, none, iMov (.t 262)⟩, [262], false, 2, 2, none, []⟩,
 ⟨⟨some 263, false, none, iExtract 0 (.t 256)⟩, [256], false, 2, 2, none, []⟩,
 ⟨⟨some 264, false, none, iExtract 1 (.t 256)⟩, [256], false, 2, 2, none, []⟩,
 ⟨⟨some 23, false, none, iMov (.t 263)⟩, [263], false, 2, 2, none, []⟩,
 ⟨⟨some 24, true, none, iMov (.t 264)⟩, [264], false, 2, 2, none, []⟩])
 (cSeq (cOps [⟨some 265, false, none, iMov (.t 18)⟩,
 ⟨some 266, false, none, iCmp .neq (.t 265) (.c (.int .i64 (.lit 61)))⟩,
 ⟨some 267, false, none, iMov (.t 266)⟩,
 ⟨some 268, false, some (267, false), iMov (.t 20)⟩,
 ⟨some 269, false, some (267, false), iCmp .neq (.t 268) (.c (.int .i64 (.lit 61)))⟩,
 ⟨some 270, false, none, iPick (.t 267) (.c (.bool (.lit true))) (.t 269)⟩,
 ⟨some 271, false, none, iMov (.t 270)⟩,
 ⟨some 272, false, some (271, false), iMov (.t 22)⟩,
 ⟨some 273, false, some (271, false), iCmp .neq (.t 272) (.c (.int .i64 (.lit 61)))⟩,
 ⟨some 274, false, none, iPick (.t 271) (.c (.bool (.lit true))) (.t 273)⟩,
 ⟨some 275, false, none, iMov (.t 274)⟩,
 ⟨some 276, false, some (275, false), iMov (.t 24)⟩,
 ⟨some 277, false, some (275, false), iCmp .neq (.t 276) (.c (.int .i64 (.lit 61)))⟩,
 ⟨some 278, true, none, iPick (.t 275) (.c (.bool (.lit true))) (.t 277)⟩])
 (cCond (.t 278) (cSeq (cOps [⟨some 0, true, none, iMov (.c (.bool (.lit false)))⟩])
 cRet) cSkip)))))))
 (cOps [⟨some 227, false, none, iMov (.t 16)⟩,
 ⟨some 228, false, none, iArith .add (.t 227) (.c (.int .i64 (.lit 1)))⟩,
 ⟨some 16, true, none, iMov (.t 228)⟩]))))))
 (cSeq (cOps [⟨some 280, false, none, iCall (.c (.func (.func 47) [] [])) []⟩,
 ⟨some 281, false, none, iCall (.c (.func (.func 14) [] [])) [(.t 280), (.c (.int .i64 (.lit 3)))]⟩,
 ⟨some 279, false, none, iMov (.t 281)⟩,
 ⟨some 282, false, none, iExtract 0 (.t 279)⟩,
 ⟨some 283, false, none, iExtract 1 (.t 279)⟩,
 ⟨some 25, false, none, iAlloc 29 [(.int .i64 (.lit 0)), (.int .i64 (.lit 0))]⟩,
 ⟨none, false, none, iStore 2 (.t 25) (.t 282)⟩,
 ⟨some 26, true, none, iMov (.t 283)⟩])
 (cSeq (cOps [⟨some 285, false, none, iCall (.c (.func (.func 47) [] [])) []⟩,
 ⟨some 286, false, none, iBslice 3 [(.int .i64 (.lit 0))] 1 [(0, 1, (.c (.int .i64 (.lit 0))))]⟩,
 ⟨some 287, false, none, iCall (.c (.func (.func 18) [] [])) [(.t 285), (.t 286), (.c (.int .i64 (.lit 1440)))]⟩,
 ⟨some 284, false, none, iMov (.t 287)⟩,
 ⟨some 288, false, none, iExtract 0 (.t 284)⟩,
 ⟨some 289, false, none, iExtract 1 (.t 284)⟩,
 ⟨some 27, false, none, iMov (.t 288)⟩,
 ⟨some 28, true, none, iMov (.t 289)⟩])
 (cSeq (cOps [⟨some 291, false, none, iCall (.c (.func (.func 47) [] [])) []⟩,
 ⟨some 292, false, none, iBslice 3 [(.int .i64 (.lit 0))] 1 [(0, 1, (.c (.int .i64 (.lit 0))))]⟩,
 ⟨some 293, false, none, iCall (.c (.func (.func 21) [] [])) [(.t 291), (.t 292), (.c (.int .i64 (.lit (-1))))]⟩,
 ⟨some 290, false, none, iMov (.t 293)⟩,
 ⟨some 294, false, none, iExtract 0 (.t 290)⟩,
 ⟨some 295, false, none, iExtract 1 (.t 290)⟩,
 ⟨some 29, false, none, iMov (.t 294)⟩,
 ⟨some 30, true, none, iMov (.t 295)⟩])
 (cSeq (cOps [⟨some 297, false, none, iCall (.c (.func (.func 47) [] [])) []⟩,
 ⟨some 298, false, none, iCall (.c (.func (.func 27) [] [])) [(.t 297), (.c (.int .i64 (.lit 1440)))]⟩,
 ⟨some 296, false, none, iMov (.t 298)⟩,
 ⟨some 299, false, none, iExtract 0 (.t 296)⟩,
 ⟨some 300, false, none, iExtract 1 (.t 296)⟩,
 ⟨some 31, false, none, iMov (.t 299)⟩,
 ⟨some 32, true, none, iMov (.t 300)⟩])
 (cSeq (cOps [⟨some 302, false, none, iCall (.c (.func (.func 47) [] [])) []⟩,
 ⟨some 303, false, none, iBslice 3 [(.int .i64 (.lit 0))] 1 [(0, 1, (.c (.int .i64 (.lit 0))))]⟩,
 ⟨some 304, false, none, iCall (.c (.func (.func 29) [] [])) [(.t 302), (.t 303), (.c (.int .i64 (.lit 1440)))]⟩,
 ⟨some 301, false, none, iMov (.t 304)⟩,
 ⟨some 305, false, none, iExtract 0 (.t 301)⟩,
 ⟨some 306, false, none, iExtract 1 (.t 301)⟩,
 ⟨some 33, false, none, iMov (.t 305)⟩,
 ⟨some 34, true, none, iMov (.t 306)⟩])
 (cSeq (cOps [⟨some 308, false, none, iCall (.c (.func (.func 47) [] [])) []⟩,
 ⟨some 309, false, none, iBslice 3 [(.int .i64 (.lit 0))] 2 [(0, 1, (.c (.int .i64 (.lit 1)))), (1, 1, (.c (.int .i64 (.lit 0))))]⟩,
 ⟨some 310, false, none, iCall (.c (.func (.func 25) [] [])) [(.t 308), (.t 309)]⟩,
 ⟨some 307, false, none, iMov (.t 310)⟩,
 ⟨some 311, false, none, iExtract 0 (.t 307)⟩,
 ⟨some 312, false, none, iExtract 1 (.t 307)⟩,
 ⟨some 35, false, none, iMov (.t 311)⟩,
 ⟨some 36, true, none, iMov (.t 312)⟩])
 (cSeq (cOps [⟨some 314, false, none, iCall (.c (.func (.func 47) [] [])) []⟩,
 ⟨some 315, false, none, iCall (.c (.func (.func 27) [] [])) [(.t 314), (.c (.int .i64 (.lit 1345)))]⟩,
 ⟨some 313, false, none, iMov (.t 315)⟩,
 ⟨some 316, false, none, iExtract 0 (.t 313)⟩,
 ⟨some 317, false, none, iExtract 1 (.t 313)⟩,
 ⟨some 37, false, none, iMov (.t 316)⟩,
 ⟨some 38, true, none, iMov (.t 317)⟩])
 (cSeq (cSeq (cOps [⟨some 318, false, none, iMov (.t 26)⟩,
 ⟨some 319, false, none, iCmp .neq (.t 318) (.c (.int .i64 (.lit 61)))⟩,
 ⟨some 320, false, none, iMov (.t 319)⟩,
 ⟨some 321, false, some (320, false), iMov (.t 28)⟩,
 ⟨some 322, false, some (320, false), iCmp .neq (.t 321) (.c (.int .i64 (.lit 61)))⟩,
 ⟨some 323, false, none, iPick (.t 320) (.c (.bool (.lit true))) (.t 322)⟩,
 ⟨some 324, false, none, iMov (.t 323)⟩,
 ⟨some 325, false, some (324, false), iMov (.t 30)⟩,
 ⟨some 326, false, some (324, false), iCmp .neq (.t 325) (.c (.int .i64 (.lit 61)))⟩,
 ⟨some 327, false, none, iPick (.t 324) (.c (.bool (.lit true))) (.t 326)⟩,
 ⟨some 328, false, none, iMov (.t 327)⟩,
 ⟨some 329, false, some (328, false), iMov (.t 32)⟩,
 ⟨some 330, false, some (328, false), iCmp .neq (.t 329) (.c (.int .i64 (.lit 61)))⟩,
 ⟨some 331, false, none, iPick (.t 328) (.c (.bool (.lit true))) (.t 330)⟩,
 ⟨some 332, false, none, iMov (.t 331)⟩,
 ⟨some 333, false, some (332, false), iMov (.t 34)⟩,
 ⟨some 334, false, some (332, false), iCmp .neq (.t 333) (.c (.int .i64 (.lit 61)))⟩,
 ⟨some 335, false, none, iPick (.t 332) (.c (.bool (.lit true))) (.t 334)⟩,
 ⟨some 336, false, none, iMov (.t 335)⟩,
 ⟨some 337, false, some (336, false), iMov (.t 36)⟩,
 ⟨some 338, false, some (336, false), iCmp .neq (.t 337) (.c (.int .i64 (.lit 4)))⟩,
 ⟨some 339, false, none, iPick (.t 336) (.c (.bool (.lit true))) (.t 338)⟩,
 ⟨some 340, false, none, iMov (.t 339)⟩,
 ⟨some 341, false, some (340, false), iMov (.t 38)⟩,
 ⟨some 342, false, some (340, false), iCmp .neq (.t 341) (.c (.int .i64 (.lit 4)))⟩,
 ⟨some 343, true, none, iPick (.t 340) (.c (.bool (.lit true))) (.t 342)⟩])
 (cCond (.t 343) (cSeq (cOps [⟨some 0, true, none, iMov (.c (.bool (.lit false)))⟩])
 cRet) cSkip))
 (cSeq (cOps [⟨some 344, false, none, iCall (.c (.func (.func 47) [] [])) []⟩,
 ⟨some 345, false, none, iCall (.c (.func (.func 47) [] [])) []⟩,
 ⟨some 346, false, none, iCall (.c (.func (.func 47) [] [])) []⟩,
 ⟨some 39, true, none, iAlloc 31 [.nilslice, (.int .i64 (.lit 0)), .nilslice, (.int .i64 (.lit 0)), (.int .i64 (.lit 0)), .nilslice, (.int .i64 (.lit 0)), .nilslice, (.int .i64 (.lit 0)), (.int .i64 (.lit 0)), (.int .i64 (.lit 0)), (.int .i64 (.lit 0)), (.bool (.lit false))]⟩,
 ⟨some 40, true, none, iAlloc 31 [.nilslice, (.int .i64 (.lit 0)), .nilslice, (.int .i64 (.lit 0)), (.int .i64 (.lit 0)), .nilslice, (.int .i64 (.lit 0)), .nilslice, (.int .i64 (.lit 0)), (.int .i64 (.lit 0)), (.int .i64 (.lit 0)), (.int .i64 (.lit 0)), (.bool (.lit false))]⟩,
 ⟨some 41, true, none, iAlloc 31 [.nilslice, (.int .i64 (.lit 0)), .nilslice, (.int .i64 (.lit 0)), (.int .i64 (.lit 0)), .nilslice, (.int .i64 (.lit 0)), .nilslice, (.int .i64 (.lit 0)), (.int .i64 (.lit 0)), (.int .i64 (.lit 0)), (.int .i64 (.lit 0)), (.bool (.lit false))]⟩,
 ⟨none, false, none, iStore 13 (.t 39) (.t 344)⟩,
 ⟨none, false, none, iStore 13 (.t 40) (.t 345)⟩,
 ⟨none, false, none, iStore 13 (.t 41) (.t 346)⟩])
 (cSeq (cOps [⟨some 347, false, none, iFaddr 12 (.t 39)⟩,
 ⟨none, false, none, iStore 1 (.t 347) (.c (.bool (.lit true)))⟩])
 (cSeq (cOps [⟨some 348, false, none, iFaddr 7 (.t 40)⟩,
 ⟨some 349, false, none, iLoad (.t 348)⟩,
 ⟨some 350, false, none, iIaddr 10 (.t 349) (.c (.int .i64 (.lit 1)))⟩,
 ⟨some 351, false, none, iFaddr 9 (.t 350)⟩,
 ⟨none, false, none, iStore 1 (.t 351) (.c (.int .i64 (.lit 1339)))⟩])
 (cSeq (cOps [⟨some 352, false, none, iFaddr 0 (.t 41)⟩,
 ⟨some 353, false, none, iFaddr 4 (.t 352)⟩,
 ⟨none, false, none, iStore 1 (.t 353) (.c (.int .i64 (.lit 1439)))⟩,
 ⟨some 354, false, none, iFaddr 6 (.t 41)⟩,
 ⟨none, false, none, iStore 1 (.t 354) (.c (.int .i64 (.lit 107)))⟩])
 (cSeq (cOps [⟨some 356, false, none, iLoadN 13 (.t 39)⟩,
 ⟨some 357, false, none, iCall (.c (.func (.func 14) [] [])) [(.t 356), (.c (.int .i64 (.lit 1)))]⟩,
 ⟨some 355, false, none, iMov (.t 357)⟩,
 ⟨some 358, false, none, iExtract 0 (.t 355)⟩,
 ⟨some 359, false, none, iExtract 1 (.t 355)⟩,
 ⟨some 42, true, none, iAlloc 29 [(.int .i64 (.lit 0)), (.int .i64 (.lit 0))]⟩,
 ⟨none, false, none, iStore 2 (.t 42) (.t 358)⟩,
 ⟨some 26, true, none, iMov (.t 359)⟩])
 (cSeq (cOps [⟨some 361, false, none, iCall (.c (.func (.func 47) [] [])) []⟩,
 ⟨some 362, false, none, iBslice 3 [(.int .i64 (.lit 0))] 2 [(0, 1, (.c (.int .i64 (.lit 0)))), (1, 1, (.c (.int .i64 (.lit 1))))]⟩,
 ⟨some 363, false, none, iCall (.c (.func (.func 18) [] [])) [(.t 361), (.t 362), (.c (.int .i64 (.lit 1300)))]⟩,
 ⟨some 360, false, none, iMov (.t 363)⟩,
 ⟨some 364, false, none, iExtract 0 (.t 360)⟩,
 ⟨some 365, false, none, iExtract 1 (.t 360)⟩,
 ⟨some 43, true, none, iMov (.t 364)⟩,
 ⟨some 28, true, none, iMov (.t 365)⟩])
 (cSeq (cOps [⟨some 367, false, none, iLoadN 13 (.t 40)⟩,
 ⟨some 368, false, none, iBslice 3 [(.int .i64 (.lit 0))] 2 [(0, 1, (.c (.int .i64 (.lit 0)))), (1, 1, (.c (.int .i64 (.lit 1))))]⟩,
 ⟨some 369, false, none, iCall (.c (.func (.func 21) [] [])) [(.t 367), (.t 368), (.c (.int .i64 (.lit 1300)))]⟩,
 ⟨some 366, false, none, iMov (.t 369)⟩,
 ⟨some 370, false, none, iExtract 0 (.t 366)⟩,
 ⟨some 371, false, none, iExtract 1 (.t 366)⟩,
 ⟨some 44, true, none, iMov (.t 370)⟩,
 ⟨some 30, true, none, iMov (.t 371)⟩])
 (cSeq (cOps [⟨some 373, false, none, iLoadN 13 (.t 41)⟩,
 ⟨some 374, false, none, iBslice 3 [(.int .i64 (.lit 0))] 2 [(0, 1, (.c (.int .i64 (.lit 0)))), (1, 1, (.c (.int .i64 (.lit 2))))]⟩,
 ⟨some 375, false, none, iCall (.c (.func (.func 21) [] [])) [(.t 373), (.t 374), (.c (.int .i64 (.lit 1439)))]⟩,
 ⟨some 372, false, none, iMov (.t 375)⟩,
 ⟨some 376, false, none, iExtract 0 (.t 372)⟩,
 ⟨some 377, false, none, iExtract 1 (.t 372)⟩,
 ⟨some 45, true, none, iMov (.t 376)⟩,
 ⟨some 32, true, none, iMov (.t 377)⟩])
 (cSeq (cOps [⟨some 378, false, none, iFaddr 6 (.t 41)⟩,
 ⟨none, false, none, iStore 1 (.t 378) (.c (.int .i64 (.lit 101)))⟩])
 (cSeq (cOps [⟨some 380, false, none, iLoadN 13 (.t 41)⟩,
 ⟨some 381, false, none, iBslice 3 [(.int .i64 (.lit 0))] 3 [(0, 1, (.c (.int .i64 (.lit 0)))), (1, 1, (.c (.int .i64 (.lit 2)))), (2, 1, (.c (.int .i64 (.lit 1))))]⟩,
 ⟨some 382, false, none, iCall (.c (.func (.func 21) [] [])) [(.t 380), (.t 381), (.c (.int .i64 (.lit 1430)))]⟩,
 ⟨some 379, false, none, iMov (.t 382)⟩,
 ⟨some 383, false, none, iExtract 0 (.t 379)⟩,
 ⟨some 384, false, none, iExtract 1 (.t 379)⟩,
 ⟨some 46, true, none, iMov (.t 383)⟩,
 ⟨some 34, true, none, iMov (.t 384)⟩])
 (cSeq (cOps [⟨some 386, false, none, iCall (.c (.func (.func 47) [] [])) []⟩,
 ⟨some 387, false, none, iBslice 3 [(.int .i64 (.lit 0))] 1 [(0, 1, (.c (.int .i64 (.lit 0))))]⟩,
 ⟨some 388, false, none, iCall (.c (.func (.func 25) [] [])) [(.t 386), (.t 387)]⟩,
 ⟨some 385, false, none, iMov (.t 388)⟩,
 ⟨some 389, false, none, iExtract 0 (.t 385)⟩,
 ⟨some 390, false, none, iExtract 1 (.t 385)⟩,
 ⟨some 47, true, none, iMov (.t 389)⟩,
 ⟨some 36, true, none, iMov (.t 390)⟩])
 (cSeq (cOps [⟨some 392, false, none, iCall (.c (.func (.func 47) [] [])) []⟩,
 ⟨some 393, false, none, iCall (.c (.func (.func 27) [] [])) [(.t 392), (.c (.int .i64 (.lit 1325)))]⟩,
 ⟨some 391, false, none, iMov (.t 393)⟩,
 ⟨some 394, false, none, iExtract 0 (.t 391)⟩,
 ⟨some 395, false, none, iExtract 1 (.t 391)⟩,
 ⟨some 48, true, none, iMov (.t 394)⟩,
 ⟨some 38, true, none, iMov (.t 395)⟩])
 (cSeq (cOps [⟨some 397, false, none, iCall (.c (.func (.func 47) [] [])) []⟩,
 ⟨some 398, false, none, iBslice 3 [(.int .i64 (.lit 0))] 2 [(0, 1, (.c (.int .i64 (.lit 0)))), (1, 1, (.c (.int .i64 (.lit 1))))]⟩,
 ⟨some 399, false, none, iCall (.c (.func (.func 29) [] [])) [(.t 397), (.t 398), (.c (.int .i64 (.lit 1325)))]⟩,
 ⟨some 396, false, none, iMov (.t 399)⟩,
 ⟨some 400, false, none, iExtract 0 (.t 396)⟩,
 ⟨some 401, false, none, iExtract 1 (.t 396)⟩,
 ⟨some 49, true, none, iMov (.t 400)⟩,
 ⟨some 50, true, none, iMov (.t 401)⟩])
 (cSeq (cOps [⟨some 403, false, none, iCall (.c (.func (.func 47) [] [])) []⟩,
 ⟨some 404, false, none, iBslice 3 [(.int .i64 (.lit 0))] 1 [(0, 1, (.c (.int .i64 (.lit 2))))]⟩,
 ⟨some 405, false, none, iCall (.c (.func (.func 29) [] [])) [(.t 403), (.t 404), (.c (.int .i64 (.lit 1300)))]⟩,
 ⟨some 402, false, none, iMov (.t 405)⟩,
 ⟨some 406, false, none, iExtract 0 (.t 402)⟩,
 ⟨some 407, false, none, iExtract 1 (.t 402)⟩,
 ⟨some 51, true, none, iMov (.t 406)⟩,
 ⟨some 52, true, none, iMov (.t 407)⟩])
 (cSeq (cOps [⟨some 409, false, none, iCall (.c (.func (.func 47) [] [])) []⟩,
 ⟨some 410, false, none, iBslice 3 [(.int .i64 (.lit 0))] 2 [(0, 1, (.c (.int .i64 (.lit 0)))), (1, 1, (.c (.int .i64 (.lit 1))))]⟩,
 ⟨some 411, false, none, iCall (.c (.func (.func 29) [] [])) [(.t 409), (.t 410), (.c (.int .i64 (.lit 1313)))]⟩,
 ⟨some 408, false, none, iMov (.t 411)⟩,
 ⟨some 412, false, none, iExtract 0 (.t 408)⟩,
 ⟨some 413, false, none, iExtract 1 (.t 408)⟩,
 ⟨some 53, true, none, iMov (.t 412)⟩,
 ⟨some 54, true, none, iMov (.t 413)⟩])
 (cSeq (dOps 0 [⟨⟨some 414, false, none, iMov (.t 26)⟩, [26], false, 0, 0, none, []⟩,
 ⟨⟨some 415, false, none, iCmp .eql (.t 414) (.c (.int .i64 (.lit 0)))⟩, [414], false, 0, 0, none, []⟩,
 ⟨⟨some 416, false, none, iMov (.t 415)⟩, [415], false, 0, 0, none, []⟩,
 ⟨⟨some 417, false, some (416, true), iLoadN 2 (.t 42)⟩, [416, 42], false, 0, 1, none, []⟩,
 ⟨⟨some 418, false, some (416, true), iCall (.c (.func (.func 46) [] [])) [(.c (.int .i64 (.lit 10800))), (.c (.int .i64 (.lit 10800)))]⟩, [416], true, 0, 0, none, []⟩,
 ⟨⟨some 419, false, some (416, true), iEq false true 2 [(0, .int), (1, .int)] (.t 417) (.t 418)⟩, [416, 417, 418], false, 1, 1, none, []⟩,
 ⟨⟨some 420, false, none, iPick (.t 416) (.t 419) (.c (.bool (.lit false)))⟩, [416, 419], false, 1, 1, none, []⟩,
 ⟨⟨some 421, false, none, iMov (.t 420)⟩, [420], false, 1, 1, none, []⟩,
 ⟨⟨some 422, false, some (421, true), iMov (.t 28)⟩, [421, 28], false, 1, 1, none, []⟩,
 ⟨⟨some 423, false, some (421, true), iCmp .eql (.t 422) (.c (.int .i64 (.lit 0)))⟩, [421, 422], false, 1, 1, none, []⟩,
 ⟨⟨some 424, false, none, iPick (.t 421) (.t 423) (.c (.bool (.lit false)))⟩, [421, 423], false, 1, 1, none, []⟩,
 ⟨⟨some 425, false, none, iMov (.t 424)⟩, [424], false, 1, 1, none, []⟩,
 ⟨⟨some 426, false, some (425, true), iMov (.t 43)⟩, [425, 43], false, 1, 4, none, []⟩,
 ⟨⟨some 427, false, some (425, true), iCall (.c (.func (.func 46) [] [])) [(.c (.int .i64 (.lit 1309))), (.c (.int .i64 (.lit 1312)))]⟩, [425], true, 1, 0, none, []⟩,
 ⟨⟨some 428, false, some (425, true), iCall (.c (.func (.func 46) [] [])) [(.c (.int .i64 (.lit 1339))), (.c (.int .i64 (.lit 1340)))]⟩, [425], true, 2, 0, none, []⟩,
 ⟨⟨some 429, false, some (425, true), iBslice 29 [(.int .i64 (.lit 0)), (.int .i64 (.lit 0))] 2 [(0, 2, (.t 427)), (2, 2, (.t 428))]⟩, [425, 427, 428], true, 3, 0, none, []⟩,
 ⟨⟨some 430, false, some (425, true), iCall (.c (.func (.func 20) [] [])) [(.t 426), (.t 429)]⟩, [425, 426, 429], true, 4, 0, none, []⟩,
 ⟨⟨some 431, false, none, iPick (.t 425) (.t 430) (.c (.bool (.lit false)))⟩, [425, 430], false, 5, 5, none, []⟩,
 ⟨⟨some 432, false, none, iMov (.t 431)⟩, [431], false, 5, 5, none, []⟩,
 ⟨⟨some 433, false, some (432, true), iMov (.t 30)⟩, [432, 30], false, 5, 5, none, []⟩,
 ⟨⟨some 434, false, some (432, true), iCmp .eql (.t 433) (.c (.int .i64 (.lit 0)))⟩, [432, 433], false, 5, 5, none, []⟩,
 ⟨⟨some 435, false, none, iPick (.t 432) (.t 434) (.c (.bool (.lit false)))⟩, [432, 434], false, 5, 5, none, []⟩,
 ⟨⟨some 436, false, none, iMov (.t 435)⟩, [435], false, 5, 5, none, []⟩,
 ⟨⟨some 437, false, some (436, true), iMov (.t 44)⟩, [436, 44], false, 5, 6, none, []⟩,
 ⟨⟨some 438, false, some (436, true), iBslice 3 [(.int .i64 (.lit 0))] 2 [(0, 1, (.c (.int .i64 (.lit 0)))), (1, 1, (.c (.int .i64 (.lit 5))))]⟩, [436], true, 5, 0, none, []⟩,
 ⟨⟨some 439, false, some (436, true), iCall (.c (.func (.func 23) [] [])) [(.t 437), (.t 438)]⟩, [436, 437, 438], true, 6, 0, none, []⟩,
 ⟨⟨some 440, false, none, iPick (.t 436) (.t 439) (.c (.bool (.lit false)))⟩, [436, 439], false, 7, 7, none, []⟩,
 ⟨⟨some 441, false, none, iMov (.t 440)⟩, [440], false, 7, 7, none, []⟩,
 ⟨⟨some 442, false, some (441, true), iMov (.t 32)⟩, [441, 32], false, 7, 7, none, []⟩,
 ⟨⟨some 443, false, some (441, true), iCmp .eql (.t 442) (.c (.int .i64 (.lit 0)))⟩, [441, 442], false, 7, 7, none, []⟩,
 ⟨⟨some 444, false, none, iPick (.t 441) (.t 443) (.c (.bool (.lit false)))⟩, [441, 443], false, 7, 7, none, []⟩,
 ⟨⟨some 445, false, none, iMov (.t 444)⟩, [444], false, 7, 7, none, []⟩,
 ⟨⟨some 446, false, some (445, true), iMov (.t 45)⟩, [445, 45], false, 7, 8, none, []⟩,
 ⟨⟨some 447, false, some (445, true), iBslice 3 [(.int .i64 (.lit 0))] 2 [(0, 1, (.c (.int .i64 (.lit 1)))), (1, 1, (.c (.int .i64 (.lit 1))))]⟩, [445], true, 7, 0, none, []⟩,
 ⟨⟨some 448, false, some (445, true), iCall (.c (.func (.func 23) [] [])) [(.t 446), (.t 447)]⟩, [445, 446, 447], true, 8, 0, none, []⟩,
 ⟨⟨some 449, false, none, iPick (.t 445) (.t 448) (.c (.bool (.lit false)))⟩, [445, 448], false, 9, 9, none, []⟩,
 ⟨⟨some 450, false, none, iMov (.t 449)⟩, [449], false, 9, 9, none, []⟩,
 ⟨⟨some 451, false, some (450, true), iMov (.t 34)⟩, [450, 34], false, 9, 9, none, []⟩,
 ⟨⟨some 452, false, some (450, true), iCmp .eql (.t 451) (.c (.int .i64 (.lit 0)))⟩, [450, 451], false, 9, 9, none, []⟩,
 ⟨⟨some 453, false, none, iPick (.t 450) (.t 452) (.c (.bool (.lit false)))⟩, [450, 452], false, 9, 9, none, []⟩,
 ⟨⟨some 454, false, none, iMov (.t 453)⟩, [453], false, 9, 9, none, []⟩,
 ⟨⟨some 455, false, some (454, true), iMov (.t 46)⟩, [454, 46], false, 9, 10, none, []⟩,
 ⟨⟨some 456, false, some (454, true), iBslice 3 [(.int .i64 (.lit 0))] 3 [(0, 1, (.c (.int .i64 (.lit 4)))), (1, 1, (.c (.int .i64 (.lit 3)))), (2, 1, (.c (.int .i64 (.lit 4))))]⟩, [454], true, 9, 0, none, []⟩,
 ⟨⟨some 457, false, some (454, true), iCall (.c (.func (.func 23) [] [])) [(.t 455), (.t 456)]⟩, [454, 455, 456], true, 10, 0, none, []⟩,
 ⟨⟨some 458, false, none, iPick (.t 454) (.t 457) (.c (.bool (.lit false)))⟩, [454, 457], false, 11, 11, none, []⟩,
 ⟨⟨some 459, false, none, iMov (.t 458)⟩, [458], false, 11, 11, none, []⟩,
 ⟨⟨some 460, false, some (459, true), iMov (.t 36)⟩, [459, 36], false, 11, 11, none, []⟩,
 ⟨⟨some 461, false, some (459, true), iCmp .eql (.t 460) (.c (.int .i64 (.lit 0)))⟩, [459, 460], false, 11, 11, none, []⟩,
 ⟨⟨some 462, false, none, iPick (.t 459) (.t 461) (.c (.bool (.lit false)))⟩, [459, 461], false, 11, 11, none, []⟩,
 ⟨⟨some 463, false, none, iMov (.t 462)⟩, [462], false, 11, 11, none, []⟩,
 ⟨⟨some 464, false, some (463, true), iMov (.t 47)⟩, [463, 47], false, 11, 11, none, []⟩,
 ⟨⟨some 465, false, some (463, true), iCmp .eql (.t 464) (.c (.int .i64 (.lit 1338)))⟩, [463, 464], false, 11, 11, none, []⟩,
 ⟨⟨some 466, false, none, iPick (.t 463) (.t 465) (.c (.bool (.lit false)))⟩, [463, 465], false, 11, 11, none, []⟩,
 ⟨⟨some 467, false, none, iMov (.t 466)⟩, [466], false, 11, 11, none, []⟩,
 ⟨⟨some 468, false, some (467, true), iMov (.t 38)⟩, [467, 38], false, 11, 11, none, []⟩,
 ⟨⟨some 469, false, some (467, true), iCmp .eql (.t 468) (.c (.int .i64 (.lit 0)))⟩, [467, 468], false, 11, 11, none, []⟩,
 ⟨⟨some 470, false, none, iPick (.t 467) (.t 469) (.c (.bool (.lit false)))⟩, [467, 469], false, 11, 11, none, []⟩,
 ⟨⟨some 471, false, none, iMov (.t 470)⟩, [470], false, 11, 11, none, []⟩,
 ⟨⟨some 472, false, some (471, true), iMov (.t 48)⟩, [471, 48], false, 11, 12, none, []⟩,
 ⟨⟨some 473, false, some (471, true), iBslice 3 [(.int .i64 (.lit 0))] 1 [(0, 1, (.c (.int .i64 (.lit 0))))]⟩, [471], true, 11, 0, none, []⟩,
 ⟨⟨some 474, false, some (471, true), iCall (.c (.func (.func 23) [] [])) [(.t 472), (.t 473)]⟩, [471, 472, 473], true, 12, 0, none, []⟩,
 ⟨⟨some 475, false, none, iPick (.t 471) (.t 474) (.c (.bool (.lit false)))⟩, [471, 474], false, 13, 13, none, []⟩,
 ⟨⟨some 476, false, none, iMov (.t 475)⟩, [475], false, 13, 13, none, []⟩,
 ⟨⟨some 477, false, some (476, true), iMov (.t 50)⟩, [476, 50], false, 13, 13, none, []⟩,
 ⟨⟨some 478, false, some (476, true), iCmp .eql (.t 477) (.c (.int .i64 (.lit 0)))⟩, [476, 477], false, 13, 13, none, []⟩,
 ⟨⟨some 479, false, none, iPick (.t 476) (.t 478) (.c (.bool (.lit false)))⟩, [476, 478], false, 13, 13, none, []⟩,
 ⟨⟨some 480, false, none, iMov (.t 479)⟩, [479], false, 13, 13, none, []⟩,
 ⟨⟨some 481, false, some (480, true), iMov (.t 49)⟩, [480, 49], false, 13, 14, none, []⟩,
 ⟨⟨some 482, false, some (480, true), iBslice 3 [(.int .i64 (.lit 0))] 1 [(0, 1, (.c (.int .i64 (.lit 0))))]⟩, [480], true, 13, 0, none, []⟩,
 ⟨⟨some 483, false, some (480, true), iCall (.c (.func (.func 23) [] [])) [(.t 481), (.t 482)]⟩, [480, 481, 482], true, 14, 0, none, []⟩,
 ⟨⟨some 484, false, none, iPick (.t 480) (.t 483) (.c (.bool (.lit false)))⟩, [480, 483], false, 15, 15, none, []⟩,
 ⟨⟨some 485, false, none, iMov (.t 484)⟩, [484], false, 15, 15, none, []⟩,
 ⟨⟨some 486, false, some (485, true), iMov (.t 52)⟩, [485, 52], false, 15, 15, none, []⟩,
 ⟨⟨some 487, false, some (485, true), iCmp .eql (.t 486) (.c (.int .i64 (.lit 0)))⟩, [485, 486], false, 15, 15, none, []⟩,
 ⟨⟨some 488, false, none, iPick (.t 485) (.t 487) (.c (.bool (.lit false)))⟩, [485, 487], false, 15, 15, none, []⟩,
 ⟨⟨some 489, false, none, iMov (.t 488)⟩, [488], false, 15, 15, none, []⟩,
 ⟨⟨some 490, false, some (489, true), iMov (.t 51)⟩, [489, 51], false, 15, 16, none, []⟩,
 ⟨⟨some 491, false, some (489, true), iBslice 3 [(.int .i64 (.lit 0))] 1 [(0, 1, (.c (.int .i64 (.lit 0))))]⟩, [489], true, 15, 0, none, []⟩,
 ⟨⟨some 492, false, some (489, true), iCall (.c (.func (.func 23) [] [])) [(.t 490), (.t 491)]⟩, [489, 490, 491], true, 16, 0, none, []⟩,
 ⟨⟨some 493, false, none, iPick (.t 489) (.t 492) (.c (.bool (.lit false)))⟩, [489, 492], false, 17, 17, none, []⟩,
 ⟨⟨some 494, false, none, iMov (.t 493)⟩, [493], false, 17, 17, none, []⟩,
 ⟨⟨some 495, false, some (494, true), iMov (.t 54)⟩, [494, 54], false, 17, 17, none, []⟩,
 ⟨⟨some 496, false, some (494, true), iCmp .eql (.t 495) (.c (.int .i64 (.lit 0)))⟩, [494, 495], false, 17, 17, none, []⟩,
 ⟨⟨some 497, false, none, iPick (.t 494) (.t 496) (.c (.bool (.lit false)))⟩, [494, 496], false, 17, 17, none, []⟩,
 ⟨⟨some 498, false, none, iMov (.t 497)⟩, [497], false, 17, 17, none, []⟩,
 ⟨⟨some 499, false, some (498, true), iMov (.t 53)⟩, [498, 53], false, 17, 17, none, []⟩,
 ⟨⟨some 500, false, some (498, true), iLenS (.t 499)⟩, [498, 499], false, 17, 17, none, []⟩,
 ⟨⟨some 501, false, some (498, true), iCmp .eql (.t 500) (.c (.int .i64 (.lit 0)))⟩, [498, 500], false, 17, 17, none, []⟩,
 ⟨⟨some 502, false, none, iPick (.t 498) (.t 501) (.c (.bool (.lit false)))⟩, [498, 501], false, 17, 17, none, []⟩,
 ⟨⟨some 503, false, none, iMov (.t 502)⟩, [502], false, 17, 17, none, []⟩,
 ⟨⟨some 504, false, none, iPick (.t 503) (.c (.bool (.lit true))) (.c (.bool (.lit false)))⟩, [503], false, 17, 17, none, []⟩,
 ⟨⟨some 505, false, none, iMov (.t 504)⟩, [504], false, 17, 17, none, []⟩,
 ⟨⟨some 506, false, some (505, true), iCall (.c (.func (.func 24) [] [])) []⟩, [505], true, 17, 0, none, []⟩,
 ⟨⟨some 507, false, none, iPick (.t 505) (.t 506) (.c (.bool (.lit false)))⟩, [505, 506], false, 18, 18, none, []⟩,
 ⟨⟨some 0, true, none, iMov (.t 507)⟩, [507], false, 18, 18, none, []⟩])
 cRet)))))))))))))))))))))))))))))))))))))))), [.t 0]⟩
noncomputable def Tryz.kp14 : List Nat := [0, 1, 2, 4, 5, 6, 7, 14, 20]
noncomputable def Tryz.cf14 : CF := ⟨2, (cSeq (cOps [⟨some 2, true, none, iBox 31 (.t 0)⟩,
 ⟨some 4, true, none, iAlloc 29 [(.int .i64 (.lit 0)), (.int .i64 (.lit 0))]⟩,
 ⟨some 5, true, none, iMov (.c (.int .i64 (.lit 0)))⟩])
 (cSeq (cOps [⟨some 9, false, none, iLoadN 13 (.t 2)⟩,
 ⟨some 10, false, none, iCall (.c (.func (.func 62) [] [])) [(.t 9)]⟩,
 ⟨some 8, false, none, iMov (.t 10)⟩,
 ⟨some 11, false, none, iExtract 0 (.t 8)⟩,
 ⟨some 12, false, none, iExtract 1 (.t 8)⟩,
 ⟨some 6, true, none, iAlloc 103 [.nilslice, (.int .i64 (.lit 0)), .nilslice, (.int .i64 (.lit 0)), (.int .i64 (.lit 0)), .nilslice, (.int .i64 (.lit 0)), .nilslice, (.int .i64 (.lit 0)), (.int .i64 (.lit 0)), (.int .i64 (.lit 0)), (.int .i64 (.lit 0)), (.bool (.lit false)), (.int .i64 (.lit 0)), (.int .i64 (.lit 0)), (.int .i64 (.lit 0)), (.int .i64 (.lit 0)), (.int .i64 (.lit 0)), (.int .i64 (.lit 0)), (.int .i64 (.lit 0)), (.int .i64 (.lit 0)), (.int .i64 (.lit 0)), (.int .i64 (.lit 0)), .nilmap]⟩,
 ⟨none, false, none, iStore 24 (.t 6) (.t 11)⟩,
 ⟨some 7, true, none, iMov (.t 12)⟩])
 (cSeq (cSeq (cOps [⟨some 13, false, none, iMov (.t 7)⟩,
 ⟨some 14, true, none, iCmp .neq (.t 13) (.c (.int .i64 (.lit 0)))⟩])
 (cCond (.t 14) (cSeq (cOps [⟨some 15, false, none, iBuild [(.int .i64 (.lit 0)), (.int .i64 (.lit 0))] []⟩,
 ⟨some 16, false, none, iMov (.t 7)⟩,
 ⟨none, false, none, iStore 2 (.t 4) (.t 15)⟩,
 ⟨some 5, true, none, iMov (.t 16)⟩])
 cRet) cSkip))
 (cSeq (cSeq (cOps [⟨some 17, false, none, iLoadN 24 (.t 6)⟩,
 ⟨some 18, false, none, iMov (.t 1)⟩,
 ⟨some 19, false, none, iCall (.c (.func (.func 63) [] [])) [(.t 17), (.t 18)]⟩,
 ⟨some 20, true, none, iNot (.t 19)⟩])
 (cCond (.t 20) (cSeq (cOps [⟨some 21, false, none, iBuild [(.int .i64 (.lit 0)), (.int .i64 (.lit 0))] []⟩,
 ⟨none, false, none, iStore 2 (.t 4) (.t 21)⟩,
 ⟨some 5, true, none, iMov (.c (.int .i64 (.lit 61)))⟩])
 cRet) cSkip))
 (cSeq (cOps [⟨some 22, false, none, iMov (.t 1)⟩,
 ⟨some 23, false, none, iFaddr 13 (.t 6)⟩,
 ⟨some 24, false, none, iIaddrA 2 5 (.t 23) (.t 22)⟩,
 ⟨some 25, false, none, iLoadN 2 (.t 24)⟩,
 ⟨none, false, none, iStore 2 (.t 4) (.t 25)⟩,
 ⟨some 5, true, none, iMov (.c (.int .i64 (.lit 0)))⟩])
 cRet))))), [.cell 4 true 2, .t 5]⟩
noncomputable def Tryz.kp16 : List Nat := [0, 1, 2, 4]
noncomputable def Tryz.cf16 : CF := ⟨1, (cSeq (cOps [⟨some 1, true, none, iBox 31 (.t 0)⟩,
 ⟨some 2, true, none, iMov (.c (.int .i64 (.lit 0)))⟩])
 (cSeq (cOps [⟨some 6, false, none, iLoadN 13 (.t 1)⟩,
 ⟨some 7, false, none, iCall (.c (.func (.func 62) [] [])) [(.t 6)]⟩,
 ⟨some 5, false, none, iMov (.t 7)⟩,
 ⟨some 8, false, none, iExtract 0 (.t 5)⟩,
 ⟨some 9, false, none, iExtract 1 (.t 5)⟩,
 ⟨some 3, false, none, iAlloc 103 [.nilslice, (.int .i64 (.lit 0)), .nilslice, (.int .i64 (.lit 0)), (.int .i64 (.lit 0)), .nilslice, (.int .i64 (.lit 0)), .nilslice, (.int .i64 (.lit 0)), (.int .i64 (.lit 0)), (.int .i64 (.lit 0)), (.int .i64 (.lit 0)), (.bool (.lit false)), (.int .i64 (.lit 0)), (.int .i64 (.lit 0)), (.int .i64 (.lit 0)), (.int .i64 (.lit 0)), (.int .i64 (.lit 0)), (.int .i64 (.lit 0)), (.int .i64 (.lit 0)), (.int .i64 (.lit 0)), (.int .i64 (.lit 0)), (.int .i64 (.lit 0)), .nilmap]⟩,
 ⟨none, false, none, iStore 24 (.t 3) (.t 8)⟩,
 ⟨some 4, true, none, iMov (.t 9)⟩])
 (cSeq (cOps [⟨some 10, false, none, iMov (.t 4)⟩,
 ⟨some 2, true, none, iMov (.t 10)⟩])
 cRet))), [.t 2]⟩
noncomputable def Tryz.kp18 : List Nat := [0, 1, 2, 3, 6, 7, 8, 9, 18]
noncomputable def Tryz.cf18 : CF := ⟨3, (cSeq (cOps [⟨some 3, true, none, iBox 31 (.t 0)⟩,
 ⟨some 6, true, none, iMov (.c .nilslice)⟩,
 ⟨some 7, true, none, iMov (.c (.int .i64 (.lit 0)))⟩])
 (cSeq (cOps [⟨some 11, false, none, iLoadN 13 (.t 3)⟩,
 ⟨some 12, false, none, iMov (.t 1)⟩,
 ⟨some 13, false, none, iMov (.t 2)⟩,
 ⟨some 14, false, none, iCall (.c (.func (.func 68) [] [])) [(.t 11), (.t 12), (.t 13)]⟩,
 ⟨some 10, false, none, iMov (.t 14)⟩,
 ⟨some 15, false, none, iExtract 0 (.t 10)⟩,
 ⟨some 16, false, none, iExtract 1 (.t 10)⟩,
 ⟨some 8, true, none, iAlloc 111 [.nilslice, (.int .i64 (.lit 0)), .nilslice, (.int .i64 (.lit 0)), (.int .i64 (.lit 0)), .nilslice, (.int .i64 (.lit 0)), .nilslice, (.int .i64 (.lit 0)), (.int .i64 (.lit 0)), (.int .i64 (.lit 0)), (.int .i64 (.lit 0)), (.bool (.lit false)), (.int .i64 (.lit 0)), (.int .i64 (.lit 0)), (.int .i64 (.lit 0)), (.int .i64 (.lit 0)), (.int .i64 (.lit 0)), (.int .i64 (.lit 0)), (.int .i64 (.lit 0)), (.int .i64 (.lit 0)), (.int .i64 (.lit 0)), (.int .i64 (.lit 0)), .nilmap, (.int .i64 (.lit 0))]⟩,
 ⟨none, false, none, iStore 25 (.t 8) (.t 15)⟩,
 ⟨some 9, true, none, iMov (.t 16)⟩])
 (cSeq (cSeq (cOps [⟨some 17, false, none, iMov (.t 9)⟩,
 ⟨some 18, true, none, iCmp .neq (.t 17) (.c (.int .i64 (.lit 0)))⟩])
 (cCond (.t 18) (cSeq (cOps [⟨some 19, false, none, iMov (.t 9)⟩,
 ⟨some 6, true, none, iMov (.c .nilslice)⟩,
 ⟨some 7, true, none, iMov (.t 19)⟩])
 cRet) cSkip))
 (cSeq (cOps [⟨some 20, false, none, iLoadN 25 (.t 8)⟩,
 ⟨some 21, false, none, iMov (.t 1)⟩,
 ⟨some 22, false, none, iCall (.c (.func (.func 69) [] [])) [(.t 20), (.t 21)]⟩,
 ⟨some 6, true, none, iMov (.t 22)⟩,
 ⟨some 7, true, none, iMov (.c (.int .i64 (.lit 0)))⟩])
 cRet)))), [.t 6, .t 7]⟩
noncomputable def Tryz.kp20 : List Nat := [0, 1, 4, 5, 6, 18]
noncomputable def Tryz.cf20 : CF := ⟨2, (cSeq (cOps [⟨some 4, true, none, iMov (.c (.bool (.lit false)))⟩])
 (cSeq (cOps [⟨some 7, false, none, iMov (.t 0)⟩,
 ⟨some 8, false, none, iLenS (.t 7)⟩,
 ⟨some 9, false, none, iMov (.t 1)⟩,
 ⟨some 10, false, none, iLenS (.t 9)⟩,
 ⟨some 11, false, none, iCmp .eql (.t 8) (.t 10)⟩,
 ⟨some 5, true, none, iMov (.t 11)⟩])
 (cSeq (cSeq (cOps [⟨some 6, true, none, iMov (.c (.int .i64 (.lit 0)))⟩])
 (cBlock 0 (cLoop (cSeq (cSeq (cOps [⟨some 12, false, none, iMov (.t 5)⟩,
 ⟨some 13, false, none, iMov (.t 12)⟩,
 ⟨some 14, false, some (13, true), iMov (.t 6)⟩,
 ⟨some 15, false, some (13, true), iMov (.t 0)⟩,
 ⟨some 16, false, some (13, true), iLenS (.t 15)⟩,
 ⟨some 17, false, some (13, true), iCmp .lss (.t 14) (.t 16)⟩,
 ⟨some 18, true, none, iPick (.t 13) (.t 17) (.c (.bool (.lit false)))⟩])
 (cCond (.t 18) cSkip (cExit 0)))
 (cSeq (cBlock 1 (dOps 0 [⟨⟨some 21, false, none, iMov (.t 0)⟩, [0], false, 0, 0, none, []⟩,
 ⟨⟨some 22, false, none, iMov (.t 6)⟩, [6], false, 0, 0, none, []⟩,
 ⟨⟨some 23, false, none, iIaddr 2 (.t 21) (.t 22)⟩, [21, 22], false, 0, 0, none, []⟩,
 ⟨⟨some 24, false, none, iLoadN 2 (.t 23)⟩, [23], false, 0, 0, none, []⟩,
 ⟨⟨some 25, false, none, iMov (.t 1)⟩, [1], false, 0, 0, none, []⟩,
 ⟨⟨some 26, false, none, iMov (.t 6)⟩, [6], false, 0, 0, none, []⟩,
 ⟨⟨some 27, false, none, iIaddr 2 (.t 25) (.t 26)⟩, [25, 26], false, 0, 0, none, []⟩,
 ⟨⟨some 28, false, none, iLoadN 2 (.t 27)⟩, [27], false, 0, 0, none, []⟩,
 ⟨⟨some 29, false, none, iEq false true 2 [(0, .int), (1, .int)] (.t 24) (.t 28)⟩, [24, 28], false, 0, 0, none, []⟩,
 ⟨⟨some 5, true, none, iMov (.t 29)⟩, [29], false, 0, 0, none, []⟩]))
 (cOps [⟨some 19, false, none, iMov (.t 6)⟩,
 ⟨some 20, false, none, iArith .add (.t 19) (.c (.int .i64 (.lit 1)))⟩,
 ⟨some 6, true, none, iMov (.t 20)⟩]))))))
 (cSeq (cOps [⟨some 30, false, none, iMov (.t 5)⟩,
 ⟨some 4, true, none, iMov (.t 30)⟩])
 cRet)))), [.t 4]⟩
noncomputable def Tryz.kp21 : List Nat := [0, 1, 2, 3, 6, 7, 8, 9, 18]
noncomputable def Tryz.cf21 : CF := ⟨3, (cSeq (cOps [⟨some 3, true, none, iBox 31 (.t 0)⟩,
 ⟨some 6, true, none, iMov (.c .nilslice)⟩,
 ⟨some 7, true, none, iMov (.c (.int .i64 (.lit 0)))⟩])
 (cSeq (cOps [⟨some 11, false, none, iLoadN 13 (.t 3)⟩,
 ⟨some 12, false, none, iMov (.t 1)⟩,
 ⟨some 13, false, none, iMov (.t 2)⟩,
 ⟨some 14, false, none, iCall (.c (.func (.func 68) [] [])) [(.t 11), (.t 12), (.t 13)]⟩,
 ⟨some 10, false, none, iMov (.t 14)⟩,
 ⟨some 15, false, none, iExtract 0 (.t 10)⟩,
 ⟨some 16, false, none, iExtract 1 (.t 10)⟩,
 ⟨some 8, true, none, iAlloc 111 [.nilslice, (.int .i64 (.lit 0)), .nilslice, (.int .i64 (.lit 0)), (.int .i64 (.lit 0)), .nilslice, (.int .i64 (.lit 0)), .nilslice, (.int .i64 (.lit 0)), (.int .i64 (.lit 0)), (.int .i64 (.lit 0)), (.int .i64 (.lit 0)), (.bool (.lit false)), (.int .i64 (.lit 0)), (.int .i64 (.lit 0)), (.int .i64 (.lit 0)), (.int .i64 (.lit 0)), (.int .i64 (.lit 0)), (.int .i64 (.lit 0)), (.int .i64 (.lit 0)), (.int .i64 (.lit 0)), (.int .i64 (.lit 0)), (.int .i64 (.lit 0)), .nilmap, (.int .i64 (.lit 0))]⟩,
 ⟨none, false, none, iStore 25 (.t 8) (.t 15)⟩,
 ⟨some 9, true, none, iMov (.t 16)⟩])
 (cSeq (cSeq (cOps [⟨some 17, false, none, iMov (.t 9)⟩,
 ⟨some 18, true, none, iCmp .neq (.t 17) (.c (.int .i64 (.lit 0)))⟩])
 (cCond (.t 18) (cSeq (cOps [⟨some 19, false, none, iMov (.t 9)⟩,
 ⟨some 6, true, none, iMov (.c .nilslice)⟩,
 ⟨some 7, true, none, iMov (.t 19)⟩])
 cRet) cSkip))
 (cSeq (cOps [⟨some 20, false, none, iLoadN 25 (.t 8)⟩,
 ⟨some 21, false, none, iMov (.t 1)⟩,
 ⟨some 22, false, none, iCall (.c (.func (.func 72) [] [])) [(.t 20), (.t 21)]⟩,
 ⟨some 6, true, none, iMov (.t 22)⟩,
 ⟨some 7, true, none, iMov (.c (.int .i64 (.lit 0)))⟩])
 cRet)))), [.t 6, .t 7]⟩
noncomputable def Tryz.kp23 : List Nat := [0, 1, 4, 5, 6, 18]
noncomputable def Tryz.cf23 : CF := ⟨2, (cSeq (cOps [⟨some 4, true, none, iMov (.c (.bool (.lit false)))⟩])
 (cSeq (cOps [⟨some 7, false, none, iMov (.t 0)⟩,
 ⟨some 8, false, none, iLenS (.t 7)⟩,
 ⟨some 9, false, none, iMov (.t 1)⟩,
 ⟨some 10, false, none, iLenS (.t 9)⟩,
 ⟨some 11, false, none, iCmp .eql (.t 8) (.t 10)⟩,
 ⟨some 5, true, none, iMov (.t 11)⟩])
 (cSeq (cSeq (cOps [⟨some 6, true, none, iMov (.c (.int .i64 (.lit 0)))⟩])
 (cBlock 0 (cLoop (cSeq (cSeq (cOps [⟨some 12, false, none, iMov (.t 5)⟩,
 ⟨some 13, false, none, iMov (.t 12)⟩,
 ⟨some 14, false, some (13, true), iMov (.t 6)⟩,
 ⟨some 15, false, some (13, true), iMov (.t 0)⟩,
 ⟨some 16, false, some (13, true), iLenS (.t 15)⟩,
 ⟨some 17, false, some (13, true), iCmp .lss (.t 14) (.t 16)⟩,
 ⟨some 18, true, none, iPick (.t 13) (.t 17) (.c (.bool (.lit false)))⟩])
 (cCond (.t 18) cSkip (cExit 0)))
 (cSeq (cBlock 1 (dOps 0 [⟨⟨some 21, false, none, iMov (.t 0)⟩, [0], false, 0, 0, none, []⟩,
 ⟨⟨some 22, false, none, iMov (.t 6)⟩, [6], false, 0, 0, none, []⟩,
 ⟨⟨some 23, false, none, iIaddr 1 (.t 21) (.t 22)⟩, [21, 22], false, 0, 0, none, []⟩,
 ⟨⟨some 24, false, none, iLoad (.t 23)⟩, [23], false, 0, 0, none, []⟩,
 ⟨⟨some 25, false, none, iMov (.t 1)⟩, [1], false, 0, 0, none, []⟩,
 ⟨⟨some 26, false, none, iMov (.t 6)⟩, [6], false, 0, 0, none, []⟩,
 ⟨⟨some 27, false, none, iIaddr 1 (.t 25) (.t 26)⟩, [25, 26], false, 0, 0, none, []⟩,
 ⟨⟨some 28, false, none, iLoad (.t 27)⟩, [27], false, 0, 0, none, []⟩,
 ⟨⟨some 29, false, none, iCmp .eql (.t 24) (.t 28)⟩, [24, 28], false, 0, 0, none, []⟩,
 ⟨⟨some 5, true, none, iMov (.t 29)⟩, [29], false, 0, 0, none, []⟩]))
 (cOps [⟨some 19, false, none, iMov (.t 6)⟩,
 ⟨some 20, false, none, iArith .add (.t 19) (.c (.int .i64 (.lit 1)))⟩,
 ⟨some 6, true, none, iMov (.t 20)⟩]))))))
 (cSeq (cOps [⟨some 30, false, none, iMov (.t 5)⟩,
 ⟨some 4, true, none, iMov (.t 30)⟩])
 cRet)))), [.t 4]⟩
noncomputable def Tryz.kp24 : List Nat := [0, 1, 2, 3, 4, 5, 6, 7, 8, 9, 10, 70]
noncomputable def Tryz.cf24 : CF := ⟨0, (cSeq (cOps [⟨some 0, true, none, iMov (.c (.bool (.lit false)))⟩])
 (cSeq (cOps [⟨some 12, false, none, iCall (.c (.func (.func 47) [] [])) []⟩,
 ⟨some 13, false, none, iCall (.c (.func (.func 14) [] [])) [(.t 12), (.c (.int .i64 (.lit 1)))]⟩,
 ⟨some 11, false, none, iMov (.t 13)⟩,
 ⟨some 14, false, none, iExtract 0 (.t 11)⟩,
 ⟨some 15, false, none, iExtract 1 (.t 11)⟩,
 ⟨some 1, true, none, iAlloc 29 [(.int .i64 (.lit 0)), (.int .i64 (.lit 0))]⟩,
 ⟨none, false, none, iStore 2 (.t 1) (.t 14)⟩,
 ⟨some 2, true, none, iMov (.t 15)⟩])
 (cSeq (cOps [⟨some 17, false, none, iCall (.c (.func (.func 47) [] [])) []⟩,
 ⟨some 18, false, none, iBslice 3 [(.int .i64 (.lit 0))] 2 [(0, 1, (.c (.int .i64 (.lit 1)))), (1, 1, (.c (.int .i64 (.lit 0))))]⟩,
 ⟨some 19, false, none, iCall (.c (.func (.func 18) [] [])) [(.t 17), (.t 18), (.c (.int .i64 (.lit 1330)))]⟩,
 ⟨some 16, false, none, iMov (.t 19)⟩,
 ⟨some 20, false, none, iExtract 0 (.t 16)⟩,
 ⟨some 21, false, none, iExtract 1 (.t 16)⟩,
 ⟨some 3, true, none, iMov (.t 20)⟩,
 ⟨some 4, true, none, iMov (.t 21)⟩])
 (cSeq (cOps [⟨some 23, false, none, iCall (.c (.func (.func 47) [] [])) []⟩,
 ⟨some 24, false, none, iBslice 3 [(.int .i64 (.lit 0))] 2 [(0, 1, (.c (.int .i64 (.lit 0)))), (1, 1, (.c (.int .i64 (.lit 1))))]⟩,
 ⟨some 25, false, none, iCall (.c (.func (.func 21) [] [])) [(.t 23), (.t 24), (.c (.int .i64 (.lit 1340)))]⟩,
 ⟨some 22, false, none, iMov (.t 25)⟩,
 ⟨some 26, false, none, iExtract 0 (.t 22)⟩,
 ⟨some 27, false, none, iExtract 1 (.t 22)⟩,
 ⟨some 5, true, none, iMov (.t 26)⟩,
 ⟨some 6, true, none, iMov (.t 27)⟩])
 (cSeq (cOps [⟨some 29, false, none, iCall (.c (.func (.func 47) [] [])) []⟩,
 ⟨some 30, false, none, iBslice 3 [(.int .i64 (.lit 0))] 2 [(0, 1, (.c (.int .i64 (.lit 0)))), (1, 1, (.c (.int .i64 (.lit 1))))]⟩,
 ⟨some 31, false, none, iCall (.c (.func (.func 25) [] [])) [(.t 29), (.t 30)]⟩,
 ⟨some 28, false, none, iMov (.t 31)⟩,
 ⟨some 32, false, none, iExtract 0 (.t 28)⟩,
 ⟨some 33, false, none, iExtract 1 (.t 28)⟩,
 ⟨some 7, true, none, iMov (.t 32)⟩,
 ⟨some 8, true, none, iMov (.t 33)⟩])
 (cSeq (cSeq (dOps 0 [⟨⟨some 34, false, none, iMov (.t 2)⟩, [2], false, 0, 0, none, []⟩,
 ⟨⟨some 35, false, none, iCmp .neq (.t 34) (.c (.int .i64 (.lit 0)))⟩, [34], false, 0, 0, none, []⟩,
 ⟨⟨some 36, false, none, iMov (.t 35)⟩, [35], false, 0, 0, none, []⟩,
 ⟨⟨some 37, false, some (36, false), iMov (.t 4)⟩, [36, 4], false, 0, 0, none, []⟩,
 ⟨⟨some 38, false, some (36, false), iCmp .neq (.t 37) (.c (.int .i64 (.lit 0)))⟩, [36, 37], false, 0, 0, none, []⟩,
 ⟨⟨some 39, false, none, iPick (.t 36) (.c (.bool (.lit true))) (.t 38)⟩, [36, 38], false, 0, 0, none, []⟩,
 ⟨⟨some 40, false, none, iMov (.t 39)⟩, [39], false, 0, 0, none, []⟩,
 ⟨⟨some 41, false, some (40, false), iMov (.t 6)⟩, [40, 6], false, 0, 0, none, []⟩,
 ⟨⟨some 42, false, some (40, false), iCmp .neq (.t 41) (.c (.int .i64 (.lit 0)))⟩, [40, 41], false, 0, 0, none, []⟩,
 ⟨⟨some 43, false, none, iPick (.t 40) (.c (.bool (.lit true))) (.t 42)⟩, [40, 42], false, 0, 0, none, []⟩,
 ⟨⟨some 44, false, none, iMov (.t 43)⟩, [43], false, 0, 0, none, []⟩,
 ⟨⟨some 45, false, some (44, false), iMov (.t 8)⟩, [44, 8], false, 0, 0, none, []⟩,
 ⟨⟨some 46, false, some (44, false), iCmp .neq (.t 45) (.c (.int .i64 (.lit 0)))⟩, [44, 45], false, 0, 0, none, []⟩,
 ⟨⟨some 47, false, none, iPick (.t 44) (.c (.bool (.lit true))) (.t 46)⟩, [44, 46], false, 0, 0, none, []⟩,
 ⟨⟨some 48, false, none, iMov (.t 47)⟩, [47], false, 0, 0, none, []⟩,
 ⟨⟨some 49, false, some (48, false), iLoadN 2 (.t 1)⟩, [48, 1], false, 0, 1, none, []⟩,
 ⟨⟨some 50, false, some (48, false), iCall (.c (.func (.func 46) [] [])) [(.c (.int .i64 (.lit 11400))), (.c (.int .i64 (.lit 12000)))]⟩, [48], true, 0, 0, none, []⟩,
 ⟨⟨some 51, false, some (48, false), iEq true true 2 [(0, .int), (1, .int)] (.t 49) (.t 50)⟩, [48, 49, 50], false, 1, 1, none, []⟩,
 ⟨⟨some 52, false, none, iPick (.t 48) (.c (.bool (.lit true))) (.t 51)⟩, [48, 51], false, 1, 1, none, []⟩,
 ⟨⟨some 53, false, none, iMov (.t 52)⟩, [52], false, 1, 1, none, []⟩,
 ⟨⟨some 54, false, some (53, false), iMov (.t 3)⟩, [53, 3], false, 1, 4, none, []⟩,
 ⟨⟨some 55, false, some (53, false), iCall (.c (.func (.func 46) [] [])) [(.c (.int .i64 (.lit 1349))), (.c (.int .i64 (.lit 1350)))]⟩, [53], true, 1, 0, none, []⟩,
 ⟨⟨some 56, false, some (53, false), iCall (.c (.func (.func 46) [] [])) [(.c (.int .i64 (.lit 1363))), (.c (.int .i64 (.lit 1367)))]⟩, [53], true, 2, 0, none, []⟩,
 ⟨⟨some 57, false, some (53, false), iBslice 29 [(.int .i64 (.lit 0)), (.int .i64 (.lit 0))] 2 [(0, 2, (.t 55)), (2, 2, (.t 56))]⟩, [53, 55, 56], true, 3, 0, none, []⟩,
 ⟨⟨some 58, false, some (53, false), iCall (.c (.func (.func 20) [] [])) [(.t 54), (.t 57)]⟩, [53, 54, 57], true, 4, 0, none, []⟩,
 ⟨⟨some 59, false, some (53, false), iNot (.t 58)⟩, [53, 58], false, 5, 5, none, []⟩,
 ⟨⟨some 60, false, none, iPick (.t 53) (.c (.bool (.lit true))) (.t 59)⟩, [53, 59], false, 5, 5, none, []⟩,
 ⟨⟨some 61, false, none, iMov (.t 60)⟩, [60], false, 5, 5, none, []⟩,
 ⟨⟨some 62, false, some (61, false), iMov (.t 5)⟩, [61, 5], false, 5, 6, none, []⟩,
 ⟨⟨some 63, false, some (61, false), iBslice 3 [(.int .i64 (.lit 0))] 2 [(0, 1, (.c (.int .i64 (.lit 4)))), (1, 1, (.c (.int .i64 (.lit 4))))]⟩, [61], true, 5, 0, none, []⟩,
 ⟨⟨some 64, false, some (61, false), iCall (.c (.func (.func 23) [] [])) [(.t 62), (.t 63)]⟩, [61, 62, 63], true, 6, 0, none, []⟩,
 ⟨⟨some 65, false, some (61, false), iNot (.t 64)⟩, [61, 64], false, 7, 7, none, []⟩,
 ⟨⟨some 66, false, none, iPick (.t 61) (.c (.bool (.lit true))) (.t 65)⟩, [61, 65], false, 7, 7, none, []⟩,
 ⟨⟨some 67, false, none, iMov (.t 66)⟩, [66], false, 7, 7, none, []⟩,
 ⟨⟨some 68, false, some (67, false), iMov (.t 7)⟩, [67, 7], false, 7, 7, none, []⟩,
 ⟨⟨some 69, false, some (67, false), iCmp .neq (.t 68) (.c (.int .i64 (.lit 1313)))⟩, [67, 68], false, 7, 7, none, []⟩,
 ⟨⟨some 70, true, none, iPick (.t 67) (.c (.bool (.lit true))) (.t 69)⟩, [67, 69], false, 7, 7, none, []⟩])
 (cCond (.t 70) (cSeq (cOps [⟨some 0, true, none, iMov (.c (.bool (.lit false)))⟩])
 cRet) cSkip))
 (cSeq (cOps [⟨some 72, false, none, iCall (.c (.func (.func 47) [] [])) []⟩,
 ⟨some 73, false, none, iCall (.c (.func (.func 27) [] [])) [(.t 72), (.c (.int .i64 (.lit 1300)))]⟩,
 ⟨some 71, false, none, iMov (.t 73)⟩,
 ⟨some 74, false, none, iExtract 0 (.t 71)⟩,
 ⟨some 75, false, none, iExtract 1 (.t 71)⟩,
 ⟨some 9, true, none, iMov (.t 74)⟩,
 ⟨some 2, true, none, iMov (.t 75)⟩])
 (cSeq (cOps [⟨some 77, false, none, iCall (.c (.func (.func 47) [] [])) []⟩,
 ⟨some 78, false, none, iBslice 3 [(.int .i64 (.lit 0))] 3 [(0, 1, (.c (.int .i64 (.lit 0)))), (1, 1, (.c (.int .i64 (.lit 2)))), (2, 1, (.c (.int .i64 (.lit 1))))]⟩,
 ⟨some 79, false, none, iCall (.c (.func (.func 29) [] [])) [(.t 77), (.t 78), (.c (.int .i64 (.lit 1300)))]⟩,
 ⟨some 76, false, none, iMov (.t 79)⟩,
 ⟨some 80, false, none, iExtract 0 (.t 76)⟩,
 ⟨some 81, false, none, iExtract 1 (.t 76)⟩,
 ⟨some 10, true, none, iMov (.t 80)⟩,
 ⟨some 4, true, none, iMov (.t 81)⟩])
 (cSeq (cOps [⟨some 82, false, none, iMov (.t 2)⟩,
 ⟨some 83, false, none, iCmp .eql (.t 82) (.c (.int .i64 (.lit 0)))⟩,
 ⟨some 84, false, none, iMov (.t 83)⟩,
 ⟨some 85, false, some (84, true), iMov (.t 4)⟩,
 ⟨some 86, false, some (84, true), iCmp .eql (.t 85) (.c (.int .i64 (.lit 0)))⟩,
 ⟨some 87, false, none, iPick (.t 84) (.t 86) (.c (.bool (.lit false)))⟩,
 ⟨some 88, false, none, iMov (.t 87)⟩,
 ⟨some 89, false, some (88, true), iMov (.t 9)⟩,
 ⟨some 90, false, some (88, true), iBslice 3 [(.int .i64 (.lit 0))] 2 [(0, 1, (.c (.int .i64 (.lit 0)))), (1, 1, (.c (.int .i64 (.lit 1))))]⟩,
 ⟨some 91, false, some (88, true), iCall (.c (.func (.func 23) [] [])) [(.t 89), (.t 90)]⟩,
 ⟨some 92, false, none, iPick (.t 88) (.t 91) (.c (.bool (.lit false)))⟩,
 ⟨some 93, false, none, iMov (.t 92)⟩,
 ⟨some 94, false, some (93, true), iMov (.t 10)⟩,
 ⟨some 95, false, some (93, true), iBslice 3 [(.int .i64 (.lit 0))] 1 [(0, 1, (.c (.int .i64 (.lit 1))))]⟩,
 ⟨some 96, false, some (93, true), iCall (.c (.func (.func 23) [] [])) [(.t 94), (.t 95)]⟩,
 ⟨some 97, false, none, iPick (.t 93) (.t 96) (.c (.bool (.lit false)))⟩,
 ⟨some 0, true, none, iMov (.t 97)⟩])
 cRet))))))))), [.t 0]⟩
noncomputable def Tryz.kp25 : List Nat := [0, 1, 2, 4, 5, 6, 7, 14, 19]
noncomputable def Tryz.cf25 : CF := ⟨2, (cSeq (cOps [⟨some 2, true, none, iBox 31 (.t 0)⟩,
 ⟨some 4, true, none, iMov (.c (.int .i64 (.lit 0)))⟩,
 ⟨some 5, true, none, iMov (.c (.int .i64 (.lit 0)))⟩])
 (cSeq (cOps [⟨some 9, false, none, iLoadN 13 (.t 2)⟩,
 ⟨some 10, false, none, iCall (.c (.func (.func 62) [] [])) [(.t 9)]⟩,
 ⟨some 8, false, none, iMov (.t 10)⟩,
 ⟨some 11, false, none, iExtract 0 (.t 8)⟩,
 ⟨some 12, false, none, iExtract 1 (.t 8)⟩,
 ⟨some 6, true, none, iAlloc 103 [.nilslice, (.int .i64 (.lit 0)), .nilslice, (.int .i64 (.lit 0)), (.int .i64 (.lit 0)), .nilslice, (.int .i64 (.lit 0)), .nilslice, (.int .i64 (.lit 0)), (.int .i64 (.lit 0)), (.int .i64 (.lit 0)), (.int .i64 (.lit 0)), (.bool (.lit false)), (.int .i64 (.lit 0)), (.int .i64 (.lit 0)), (.int .i64 (.lit 0)), (.int .i64 (.lit 0)), (.int .i64 (.lit 0)), (.int .i64 (.lit 0)), (.int .i64 (.lit 0)), (.int .i64 (.lit 0)), (.int .i64 (.lit 0)), (.int .i64 (.lit 0)), .nilmap]⟩,
 ⟨none, false, none, iStore 24 (.t 6) (.t 11)⟩,
 ⟨some 7, true, none, iMov (.t 12)⟩])
 (cSeq (cSeq (cOps [⟨some 13, false, none, iMov (.t 7)⟩,
 ⟨some 14, true, none, iCmp .neq (.t 13) (.c (.int .i64 (.lit 0)))⟩])
 (cCond (.t 14) (cSeq (cOps [⟨some 15, false, none, iMov (.t 7)⟩,
 ⟨some 4, true, none, iMov (.c (.int .i64 (.lit 0)))⟩,
 ⟨some 5, true, none, iMov (.t 15)⟩])
 cRet) cSkip))
 (cSeq (cSeq (cOps [⟨some 16, false, none, iLoadN 24 (.t 6)⟩,
 ⟨some 17, false, none, iMov (.t 1)⟩,
 ⟨some 18, false, none, iCall (.c (.func (.func 74) [] [])) [(.t 16), (.t 17)]⟩,
 ⟨some 19, true, none, iNot (.t 18)⟩])
 (cCond (.t 19) (cSeq (cOps [⟨some 4, true, none, iMov (.c (.int .i64 (.lit 0)))⟩,
 ⟨some 5, true, none, iMov (.c (.int .i64 (.lit 61)))⟩])
 cRet) cSkip))
 (cSeq (cOps [⟨some 20, false, none, iLoadN 24 (.t 6)⟩,
 ⟨some 21, false, none, iMov (.t 1)⟩,
 ⟨some 22, false, none, iCall (.c (.func (.func 75) [] [])) [(.t 20), (.t 21)]⟩,
 ⟨some 23, false, none, iExtract 0 (.t 22)⟩,
 ⟨some 24, false, none, iExtract 1 (.t 22)⟩,
 ⟨some 4, true, none, iMov (.t 23)⟩,
 ⟨some 5, true, none, iMov (.t 24)⟩])
 cRet))))), [.t 4, .t 5]⟩
noncomputable def Tryz.kp27 : List Nat := [0, 1, 2, 4, 5, 6, 7, 8, 15, 19, 26]
noncomputable def Tryz.cf27 : CF := ⟨2, (cSeq (cOps [⟨some 2, true, none, iBox 31 (.t 0)⟩,
 ⟨some 4, true, none, iMov (.c .nilslice)⟩,
 ⟨some 5, true, none, iMov (.c (.int .i64 (.lit 0)))⟩])
 (cSeq (cOps [⟨some 10, false, none, iLoadN 13 (.t 2)⟩,
 ⟨some 11, false, none, iCall (.c (.func (.func 62) [] [])) [(.t 10)]⟩,
 ⟨some 9, false, none, iMov (.t 11)⟩,
 ⟨some 12, false, none, iExtract 0 (.t 9)⟩,
 ⟨some 13, false, none, iExtract 1 (.t 9)⟩,
 ⟨some 6, true, none, iAlloc 103 [.nilslice, (.int .i64 (.lit 0)), .nilslice, (.int .i64 (.lit 0)), (.int .i64 (.lit 0)), .nilslice, (.int .i64 (.lit 0)), .nilslice, (.int .i64 (.lit 0)), (.int .i64 (.lit 0)), (.int .i64 (.lit 0)), (.int .i64 (.lit 0)), (.bool (.lit false)), (.int .i64 (.lit 0)), (.int .i64 (.lit 0)), (.int .i64 (.lit 0)), (.int .i64 (.lit 0)), (.int .i64 (.lit 0)), (.int .i64 (.lit 0)), (.int .i64 (.lit 0)), (.int .i64 (.lit 0)), (.int .i64 (.lit 0)), (.int .i64 (.lit 0)), .nilmap]⟩,
 ⟨none, false, none, iStore 24 (.t 6) (.t 12)⟩,
 ⟨some 7, true, none, iMov (.t 13)⟩])
 (cSeq (cSeq (cOps [⟨some 14, false, none, iMov (.t 7)⟩,
 ⟨some 15, true, none, iCmp .neq (.t 14) (.c (.int .i64 (.lit 0)))⟩])
 (cCond (.t 15) (cSeq (cOps [⟨some 16, false, none, iMov (.t 7)⟩,
 ⟨some 4, true, none, iMov (.c .nilslice)⟩,
 ⟨some 5, true, none, iMov (.t 16)⟩])
 cRet) cSkip))
 (cSeq (cSeq (cOps [⟨some 17, false, none, iMov (.t 1)⟩,
 ⟨some 18, false, none, iCall (.c (.func (.func 78) [] [])) [(.t 17)]⟩,
 ⟨some 19, true, none, iNot (.t 18)⟩])
 (cCond (.t 19) (cSeq (cOps [⟨some 4, true, none, iMov (.c .nilslice)⟩,
 ⟨some 5, true, none, iMov (.c (.int .i64 (.lit 61)))⟩])
 cRet) cSkip))
 (cSeq (cOps [⟨some 20, false, none, iLoadN 24 (.t 6)⟩,
 ⟨some 21, false, none, iMov (.t 1)⟩,
 ⟨some 22, false, none, iBuild [.nilslice, (.int .i64 (.lit 0)), .nilslice, (.int .i64 (.lit 0)), (.int .i64 (.lit 0)), .nilslice, (.int .i64 (.lit 0)), .nilslice, (.int .i64 (.lit 0)), (.int .i64 (.lit 0)), (.int .i64 (.lit 0)), (.int .i64 (.lit 0)), (.bool (.lit false)), (.int .i64 (.lit 0)), (.int .i64 (.lit 0)), (.int .i64 (.lit 0)), (.int .i64 (.lit 0)), (.int .i64 (.lit 0)), (.int .i64 (.lit 0)), (.int .i64 (.lit 0)), (.int .i64 (.lit 0)), (.int .i64 (.lit 0)), (.int .i64 (.lit 0)), .nilmap, (.int .i64 (.lit 0))] [(0, 24, (.t 20)), (24, 1, (.t 21))]⟩,
 ⟨some 23, false, none, iCall (.c (.func (.func 79) [] [])) [(.t 22)]⟩,
 ⟨some 8, true, none, iMov (.t 23)⟩])
 (cSeq (cSeq (cOps [⟨some 24, false, none, iMov (.t 8)⟩,
 ⟨some 25, false, none, iLenS (.t 24)⟩,
 ⟨some 26, true, none, iCmp .eql (.t 25) (.c (.int .i64 (.lit 0)))⟩])
 (cCond (.t 26) (cSeq (cOps [⟨some 4, true, none, iMov (.c .nilslice)⟩,
 ⟨some 5, true, none, iMov (.c (.int .i64 (.lit 4)))⟩])
 cRet) cSkip))
 (cSeq (cOps [⟨some 27, false, none, iMov (.t 8)⟩,
 ⟨some 4, true, none, iMov (.t 27)⟩,
 ⟨some 5, true, none, iMov (.c (.int .i64 (.lit 0)))⟩])
 cRet))))))), [.t 4, .t 5]⟩
noncomputable def Tryz.kp29 : List Nat := [0, 1, 2, 3, 6, 7, 8, 9, 18]
noncomputable def Tryz.cf29 : CF := ⟨3, (cSeq (cOps [⟨some 3, true, none, iBox 31 (.t 0)⟩,
 ⟨some 6, true, none, iMov (.c .nilslice)⟩,
 ⟨some 7, true, none, iMov (.c (.int .i64 (.lit 0)))⟩])
 (cSeq (cOps [⟨some 11, false, none, iLoadN 13 (.t 3)⟩,
 ⟨some 12, false, none, iMov (.t 1)⟩,
 ⟨some 13, false, none, iMov (.t 2)⟩,
 ⟨some 14, false, none, iCall (.c (.func (.func 68) [] [])) [(.t 11), (.t 12), (.t 13)]⟩,
 ⟨some 10, false, none, iMov (.t 14)⟩,
 ⟨some 15, false, none, iExtract 0 (.t 10)⟩,
 ⟨some 16, false, none, iExtract 1 (.t 10)⟩,
 ⟨some 8, true, none, iAlloc 111 [.nilslice, (.int .i64 (.lit 0)), .nilslice, (.int .i64 (.lit 0)), (.int .i64 (.lit 0)), .nilslice, (.int .i64 (.lit 0)), .nilslice, (.int .i64 (.lit 0)), (.int .i64 (.lit 0)), (.int .i64 (.lit 0)), (.int .i64 (.lit 0)), (.bool (.lit false)), (.int .i64 (.lit 0)), (.int .i64 (.lit 0)), (.int .i64 (.lit 0)), (.int .i64 (.lit 0)), (.int .i64 (.lit 0)), (.int .i64 (.lit 0)), (.int .i64 (.lit 0)), (.int .i64 (.lit 0)), (.int .i64 (.lit 0)), (.int .i64 (.lit 0)), .nilmap, (.int .i64 (.lit 0))]⟩,
 ⟨none, false, none, iStore 25 (.t 8) (.t 15)⟩,
 ⟨some 9, true, none, iMov (.t 16)⟩])
 (cSeq (cSeq (cOps [⟨some 17, false, none, iMov (.t 9)⟩,
 ⟨some 18, true, none, iCmp .neq (.t 17) (.c (.int .i64 (.lit 0)))⟩])
 (cCond (.t 18) (cSeq (cOps [⟨some 19, false, none, iMov (.t 9)⟩,
 ⟨some 6, true, none, iMov (.c .nilslice)⟩,
 ⟨some 7, true, none, iMov (.t 19)⟩])
 cRet) cSkip))
 (cSeq (cOps [⟨some 20, false, none, iLoadN 25 (.t 8)⟩,
 ⟨some 21, false, none, iMov (.t 1)⟩,
 ⟨some 22, false, none, iCall (.c (.func (.func 81) [] [])) [(.t 20), (.t 21)]⟩,
 ⟨some 6, true, none, iMov (.t 22)⟩,
 ⟨some 7, true, none, iMov (.c (.int .i64 (.lit 0)))⟩])
 cRet)))), [.t 6, .t 7]⟩
noncomputable def Tryz.kp38 : List Nat := [0, 2]
noncomputable def Tryz.cf38 : CF := ⟨1, (cSeq (cOps [⟨some 2, true, none, iAlloc 29 [(.int .i64 (.lit 0)), (.int .i64 (.lit 0))]⟩])
 (cSeq (cOps [⟨some 3, false, none, iMov (.t 0)⟩,
 ⟨some 4, false, none, iMov (.t 0)⟩,
 ⟨some 5, false, none, iCall (.c (.func (.func 46) [] [])) [(.t 3), (.t 4)]⟩,
 ⟨none, false, none, iStore 2 (.t 2) (.t 5)⟩])
 cRet)), [.cell 2 true 2]⟩
noncomputable def Tryz.kp46 : List Nat := [0, 1, 4]
noncomputable def Tryz.cf46 : CF := ⟨2, (cSeq (cOps [⟨some 4, true, none, iAlloc 29 [(.int .i64 (.lit 0)), (.int .i64 (.lit 0))]⟩])
 (cSeq (cOps [⟨some 5, false, none, iMov (.t 0)⟩,
 ⟨some 6, false, none, iMov (.t 1)⟩,
 ⟨some 7, false, none, iBuild [(.int .i64 (.lit 0)), (.int .i64 (.lit 0))] [(0, 1, (.t 5)), (1, 1, (.t 6))]⟩,
 ⟨none, false, none, iStore 2 (.t 4) (.t 7)⟩])
 cRet)), [.cell 4 true 2]⟩
noncomputable def Tryz.kp47 : List Nat := [0]
noncomputable def Tryz.cf47 : CF := ⟨0, (cSeq (cOps [⟨some 0, true, none, iAlloc 31 [.nilslice, (.int .i64 (.lit 0)), .nilslice, (.int .i64 (.lit 0)), (.int .i64 (.lit 0)), .nilslice, (.int .i64 (.lit 0)), .nilslice, (.int .i64 (.lit 0)), (.int .i64 (.lit 0)), (.int .i64 (.lit 0)), (.int .i64 (.lit 0)), (.bool (.lit false))]⟩])
 (cSeq (cOps [⟨some 1, false, none, iCall (.c (.func (.func 90) [] [])) []⟩,
 ⟨some 2, false, none, iCall (.c (.func (.func 46) [] [])) [(.c (.int .i64 (.lit 60))), (.c (.int .i64 (.lit 120)))]⟩,
 ⟨some 3, false, none, iCall (.c (.func (.func 46) [] [])) [(.c (.int .i64 (.lit 5))), (.c (.int .i64 (.lit 5)))]⟩,
 ⟨some 4, false, none, iCall (.c (.func (.func 46) [] [])) [(.c (.int .i64 (.lit 6))), (.c (.int .i64 (.lit 8)))]⟩,
 ⟨some 5, false, none, iBuild [(.int .i64 (.lit 0)), (.int .i64 (.lit 0)), (.int .i64 (.lit 0))] [(0, 1, (.c (.int .i64 (.lit 1)))), (1, 1, (.c (.int .i64 (.lit 5)))), (2, 1, (.c (.int .i64 (.lit 900))))]⟩,
 ⟨some 6, false, none, iBslice 64 [(.int .i64 (.lit 0)), (.int .i64 (.lit 0)), (.int .i64 (.lit 0))] 1 [(0, 3, (.t 5))]⟩,
 ⟨some 7, false, none, iCall (.c (.func (.func 48) [] [])) [(.t 4), (.c (.int .i64 (.lit 1000))), (.t 6)]⟩,
 ⟨some 8, false, none, iBuild [(.int .i64 (.lit 0)), .nilslice, (.int .i64 (.lit 0)), (.int .i64 (.lit 0)), (.int .i64 (.lit 0)), (.int .i64 (.lit 0)), (.int .i64 (.lit 0)), (.int .i64 (.lit 0)), (.int .i64 (.lit 0)), (.int .i64 (.lit 0))] [(0, 1, (.c (.int .i64 (.lit 2)))), (1, 6, (.t 7)), (9, 1, (.c (.int .i64 (.lit 1439))))]⟩,
 ⟨some 9, false, none, iCall (.c (.func (.func 46) [] [])) [(.c (.int .i64 (.lit 6))), (.c (.int .i64 (.lit 6)))]⟩,
 ⟨some 10, false, none, iBuild [(.int .i64 (.lit 0)), (.int .i64 (.lit 0)), (.int .i64 (.lit 0))] [(0, 1, (.c (.int .i64 (.lit 1)))), (1, 1, (.c (.int .i64 (.lit 4)))), (2, 1, (.c (.int .i64 (.lit 1000))))]⟩,
 ⟨some 11, false, none, iBuild [(.int .i64 (.lit 0)), (.int .i64 (.lit 0)), (.int .i64 (.lit 0))] [(0, 1, (.c (.int .i64 (.lit 5)))), (1, 1, (.c (.int .i64 (.lit 9)))), (2, 1, (.c (.int .i64 (.lit 800))))]⟩,
 ⟨some 12, false, none, iBslice 64 [(.int .i64 (.lit 0)), (.int .i64 (.lit 0)), (.int .i64 (.lit 0))] 2 [(0, 3, (.t 10)), (3, 3, (.t 11))]⟩,
 ⟨some 13, false, none, iCall (.c (.func (.func 48) [] [])) [(.t 9), (.c (.int .i64 (.lit 1000))), (.t 12)]⟩,
 ⟨some 14, false, none, iBuild [(.int .i64 (.lit 0)), .nilslice, (.int .i64 (.lit 0)), (.int .i64 (.lit 0)), (.int .i64 (.lit 0)), (.int .i64 (.lit 0)), (.int .i64 (.lit 0)), (.int .i64 (.lit 0)), (.int .i64 (.lit 0)), (.int .i64 (.lit 0))] [(0, 1, (.c (.int .i64 (.lit 5)))), (1, 6, (.t 13)), (8, 1, (.c (.int .i64 (.lit 1320)))), (9, 1, (.c (.int .i64 (.lit 1439))))]⟩,
 ⟨some 15, false, none, iCall (.c (.func (.func 46) [] [])) [(.c (.int .i64 (.lit 5))), (.c (.int .i64 (.lit 5)))]⟩,
 ⟨some 16, false, none, iBuild [(.int .i64 (.lit 0)), (.int .i64 (.lit 0)), (.int .i64 (.lit 0))] [(0, 1, (.c (.int .i64 (.lit 1)))), (1, 1, (.c (.int .i64 (.lit 5)))), (2, 1, (.c (.int .i64 (.lit 1200))))]⟩,
 ⟨some 17, false, none, iBslice 64 [(.int .i64 (.lit 0)), (.int .i64 (.lit 0)), (.int .i64 (.lit 0))] 1 [(0, 3, (.t 16))]⟩,
 ⟨some 18, false, none, iCall (.c (.func (.func 48) [] [])) [(.t 15), (.c (.int .i64 (.lit 6000))), (.t 17)]⟩,
 ⟨some 19, false, none, iBuild [(.int .i64 (.lit 0)), .nilslice, (.int .i64 (.lit 0)), (.int .i64 (.lit 0)), (.int .i64 (.lit 0)), (.int .i64 (.lit 0)), (.int .i64 (.lit 0)), (.int .i64 (.lit 0)), (.int .i64 (.lit 0)), (.int .i64 (.lit 0))] [(0, 1, (.c (.int .i64 (.lit 3)))), (1, 6, (.t 18)), (9, 1, (.c (.int .i64 (.lit 1439))))]⟩,
 ⟨some 20, false, none, iBslice 70 [(.int .i64 (.lit 0)), .nilslice, (.int .i64 (.lit 0)), (.int .i64 (.lit 0)), (.int .i64 (.lit 0)), (.int .i64 (.lit 0)), (.int .i64 (.lit 0)), (.int .i64 (.lit 0)), (.int .i64 (.lit 0)), (.int .i64 (.lit 0))] 3 [(0, 10, (.t 8)), (10, 10, (.t 14)), (20, 10, (.t 19))]⟩,
 ⟨some 21, false, none, iBuild [.nilslice, (.int .i64 (.lit 0)), .nilslice, (.int .i64 (.lit 0)), (.int .i64 (.lit 0)), .nilslice, (.int .i64 (.lit 0)), .nilslice, (.int .i64 (.lit 0)), (.int .i64 (.lit 0)), (.int .i64 (.lit 0)), (.int .i64 (.lit 0)), (.bool (.lit false))] [(0, 6, (.t 1)), (6, 1, (.c (.int .i64 (.lit 101)))), (8, 2, (.t 2)), (10, 2, (.t 3)), (7, 1, (.t 20))]⟩,
 ⟨none, false, none, iStore 13 (.t 0) (.t 21)⟩])
 cRet)), [.cell 0 true 13]⟩
noncomputable def Tryz.kp48 : List Nat := [0, 1, 2, 3, 6, 7, 8, 16]
noncomputable def Tryz.cf48 : CF := ⟨3, (cSeq (cOps [⟨some 3, true, none, iBox 29 (.t 0)⟩,
 ⟨some 6, true, none, iAlloc 68 [.nilslice, (.int .i64 (.lit 0)), (.int .i64 (.lit 0)), (.int .i64 (.lit 0)), (.int .i64 (.lit 0)), (.int .i64 (.lit 0))]⟩])
 (cSeq (dOps 1 [⟨⟨some 9, false, none, iLoadN 2 (.t 3)⟩, [3], false, 0, 1, none, []⟩,
 ⟨⟨some 10, false, none, iCall (.c (.func (.func 46) [] [])) [(.c (.int .i64 (.lit 1))), (.c (.int .i64 (.lit 3)))]⟩, [], true, 0, 0, none, []⟩,
 ⟨⟨some 11, false, none, iMov (.t 1)⟩, [1], false, 0, 1, none, []⟩,
 ⟨⟨some 12, false, none, iBuild [.nilslice, (.int .i64 (.lit 0)), (.int .i64 (.lit 0)), (.int .i64 (.lit 0)), (.int .i64 (.lit 0)), (.int .i64 (.lit 0))] [(1, 2, (.t 9)), (3, 2, (.t 10)), (5, 1, (.t 11))]⟩, [9, 10, 11], false, 1, 1, none, []⟩,
 ⟨⟨some 7, true, none, iAlloc 68 [.nilslice, (.int .i64 (.lit 0)), (.int .i64 (.lit 0)), (.int .i64 (.lit 0)), (.int .i64 (.lit 0)), (.int .i64 (.lit 0))]⟩, [], false, 0, 2, (some (flAlloc [.nilslice, (.int .i64 (.lit 0)), (.int .i64 (.lit 0)), (.int .i64 (.lit 0)), (.int .i64 (.lit 0)), (.int .i64 (.lit 0))], .ptr, 0)), []⟩,
 ⟨⟨none, false, none, iStore 6 (.t 7) (.t 12)⟩, [7, 12], true, 1, 0, none, [0]⟩])
 (cSeq (cSeq (cOps [⟨some 8, true, none, iMov (.c (.int .i64 (.lit 0)))⟩])
 (cBlock 0 (cLoop (cSeq (cSeq (cOps [⟨some 13, false, none, iMov (.t 8)⟩,
 ⟨some 14, false, none, iMov (.t 2)⟩,
 ⟨some 15, false, none, iLenS (.t 14)⟩,
 ⟨some 16, true, none, iCmp .lss (.t 13) (.t 15)⟩])
 (cCond (.t 16) cSkip (cExit 0)))
 (cSeq (cBlock 1 (dOps 0 [⟨⟨some 19, false, none, iFaddr 0 (.t 7)⟩, [7], false, 0, 4, none, []⟩,
 ⟨⟨some 20, false, none, iLoad (.t 19)⟩, [19], false, 0, 4, none, []⟩,
 ⟨⟨some 21, false, none, iMov (.t 2)⟩, [2], false, 0, 0, none, []⟩,
 ⟨⟨some 22, false, none, iMov (.t 8)⟩, [8], false, 0, 0, none, []⟩,
 ⟨⟨some 23, false, none, iIaddr 3 (.t 21) (.t 22)⟩, [21, 22], false, 0, 0, none, []⟩,
 ⟨⟨some 24, false, none, iIaddrA 1 3 (.t 23) (.c (.int .i64 (.lit 0)))⟩, [23], false, 0, 0, none, []⟩,
 ⟨⟨some 25, false, none, iLoad (.t 24)⟩, [24], false, 0, 0, none, []⟩,
 ⟨⟨some 26, false, none, iCall (.c (.func (.func 38) [] [])) [(.t 25)]⟩, [25], true, 0, 0, none, []⟩,
 ⟨⟨some 27, false, none, iMov (.t 2)⟩, [2], false, 0, 1, none, []⟩,
 ⟨⟨some 28, false, none, iMov (.t 8)⟩, [8], false, 0, 1, none, []⟩,
 ⟨⟨some 29, false, none, iIaddr 3 (.t 27) (.t 28)⟩, [27, 28], false, 0, 1, none, []⟩,
 ⟨⟨some 30, false, none, iIaddrA 1 3 (.t 29) (.c (.int .i64 (.lit 1)))⟩, [29], false, 0, 1, none, []⟩,
 ⟨⟨some 31, false, none, iLoad (.t 30)⟩, [30], false, 0, 1, none, []⟩,
 ⟨⟨some 32, false, none, iCall (.c (.func (.func 38) [] [])) [(.t 31)]⟩, [31], true, 1, 0, none, []⟩,
 ⟨⟨some 33, false, none, iMov (.t 2)⟩, [2], false, 0, 2, none, []⟩,
 ⟨⟨some 34, false, none, iMov (.t 8)⟩, [8], false, 0, 2, none, []⟩,
 ⟨⟨some 35, false, none, iIaddr 3 (.t 33) (.t 34)⟩, [33, 34], false, 0, 2, none, []⟩,
 ⟨⟨some 36, false, none, iIaddrA 1 3 (.t 35) (.c (.int .i64 (.lit 2)))⟩, [35], false, 0, 2, none, []⟩,
 ⟨⟨some 37, false, none, iLoad (.t 36)⟩, [36], false, 0, 2, none, []⟩,
 ⟨⟨some 38, false, none, iCall (.c (.func (.func 38) [] [])) [(.t 37)]⟩, [37], true, 2, 0, none, []⟩,
 ⟨⟨some 39, false, none, iBuild [(.int .i64 (.lit 0)), (.int .i64 (.lit 0)), (.int .i64 (.lit 0)), (.int .i64 (.lit 0)), (.int .i64 (.lit 0)), (.int .i64 (.lit 0))] [(0, 2, (.t 26)), (2, 2, (.t 32)), (4, 2, (.t 38))]⟩, [26, 32, 38], false, 3, 3, none, []⟩,
 ⟨⟨some 40, false, none, iBslice 130 [(.int .i64 (.lit 0)), (.int .i64 (.lit 0)), (.int .i64 (.lit 0)), (.int .i64 (.lit 0)), (.int .i64 (.lit 0)), (.int .i64 (.lit 0))] 1 [(0, 6, (.t 39))]⟩, [39], true, 3, 0, none, []⟩,
 ⟨⟨some 41, false, none, iAppend 130 6 48 (.t 20) (.t 40)⟩, [20, 40], true, 4, 0, none, []⟩,
 ⟨⟨some 42, false, none, iFaddr 0 (.t 7)⟩, [7], false, 5, 5, none, []⟩,
 ⟨⟨none, false, none, iStore 1 (.t 42) (.t 41)⟩, [42, 41], true, 5, 0, none, []⟩]))
 (cOps [⟨some 17, false, none, iMov (.t 8)⟩,
 ⟨some 18, false, none, iArith .add (.t 17) (.c (.int .i64 (.lit 1)))⟩,
 ⟨some 8, true, none, iMov (.t 18)⟩]))))))
 (cSeq (cOps [⟨some 43, false, none, iLoadN 6 (.t 7)⟩,
 ⟨none, false, none, iStore 6 (.t 6) (.t 43)⟩])
 cRet)))), [.cell 6 true 6]⟩
noncomputable def Tryz.kp58 : List Nat := [0, 1, 2, 4]
noncomputable def Tryz.cf58 : CF := ⟨1, (cSeq (cOps [⟨some 1, true, none, iBox 26 (.t 0)⟩,
 ⟨some 2, true, none, iMov (.c (.int .i64 (.lit 0)))⟩])
 (cSeq (cOps [⟨some 6, false, none, iLoadN 6 (.t 1)⟩,
 ⟨some 7, false, none, iCall (.c (.func (.func 101) [] [])) [(.t 6)]⟩,
 ⟨some 5, false, none, iMov (.t 7)⟩,
 ⟨some 8, false, none, iExtract 0 (.t 5)⟩,
 ⟨some 9, false, none, iExtract 1 (.t 5)⟩,
 ⟨some 3, false, none, iAlloc 151 [.nilslice, (.int .i64 (.lit 0)), .nilslice, (.int .i64 (.lit 0)), (.int .i64 (.lit 0)), .nilslice]⟩,
 ⟨none, false, none, iStore 6 (.t 3) (.t 8)⟩,
 ⟨some 4, true, none, iMov (.t 9)⟩])
 (cSeq (cOps [⟨some 10, false, none, iMov (.t 4)⟩,
 ⟨some 2, true, none, iMov (.t 10)⟩])
 cRet))), [.t 2]⟩
noncomputable def Tryz.kp62 : List Nat := [0, 1, 2, 3, 4, 5, 6, 7, 10, 18, 19, 20, 34]
noncomputable def Tryz.cf62 : CF := ⟨1, (cSeq (cOps [⟨some 1, true, none, iBox 31 (.t 0)⟩,
 ⟨some 2, true, none, iAlloc 103 [.nilslice, (.int .i64 (.lit 0)), .nilslice, (.int .i64 (.lit 0)), (.int .i64 (.lit 0)), .nilslice, (.int .i64 (.lit 0)), .nilslice, (.int .i64 (.lit 0)), (.int .i64 (.lit 0)), (.int .i64 (.lit 0)), (.int .i64 (.lit 0)), (.bool (.lit false)), (.int .i64 (.lit 0)), (.int .i64 (.lit 0)), (.int .i64 (.lit 0)), (.int .i64 (.lit 0)), (.int .i64 (.lit 0)), (.int .i64 (.lit 0)), (.int .i64 (.lit 0)), (.int .i64 (.lit 0)), (.int .i64 (.lit 0)), (.int .i64 (.lit 0)), .nilmap]⟩,
 ⟨some 3, true, none, iMov (.c (.int .i64 (.lit 0)))⟩])
 (cSeq (cSeq (cOps [⟨some 8, false, none, iLoadN 13 (.t 1)⟩,
 ⟨some 9, false, none, iCall (.c (.func (.func 105) [] [])) [(.t 8)]⟩,
 ⟨some 10, true, none, iNot (.t 9)⟩])
 (cCond (.t 10) (cSeq (cOps [⟨some 11, false, none, iBuild [.nilslice, (.int .i64 (.lit 0)), .nilslice, (.int .i64 (.lit 0)), (.int .i64 (.lit 0)), .nilslice, (.int .i64 (.lit 0)), .nilslice, (.int .i64 (.lit 0)), (.int .i64 (.lit 0)), (.int .i64 (.lit 0)), (.int .i64 (.lit 0)), (.bool (.lit false)), (.int .i64 (.lit 0)), (.int .i64 (.lit 0)), (.int .i64 (.lit 0)), (.int .i64 (.lit 0)), (.int .i64 (.lit 0)), (.int .i64 (.lit 0)), (.int .i64 (.lit 0)), (.int .i64 (.lit 0)), (.int .i64 (.lit 0)), (.int .i64 (.lit 0)), .nilmap] []⟩,
 ⟨none, false, none, iStore 24 (.t 2) (.t 11)⟩,
 ⟨some 3, true, none, iMov (.c (.int .i64 (.lit 60)))⟩])
 cRet) cSkip))
 (cSeq (cOps [⟨some 12, false, none, iLoadN 13 (.t 1)⟩,
 ⟨some 13, false, none, iMkmap⟩,
 ⟨some 14, false, none, iBuild [.nilslice, (.int .i64 (.lit 0)), .nilslice, (.int .i64 (.lit 0)), (.int .i64 (.lit 0)), .nilslice, (.int .i64 (.lit 0)), .nilslice, (.int .i64 (.lit 0)), (.int .i64 (.lit 0)), (.int .i64 (.lit 0)), (.int .i64 (.lit 0)), (.bool (.lit false)), (.int .i64 (.lit 0)), (.int .i64 (.lit 0)), (.int .i64 (.lit 0)), (.int .i64 (.lit 0)), (.int .i64 (.lit 0)), (.int .i64 (.lit 0)), (.int .i64 (.lit 0)), (.int .i64 (.lit 0)), (.int .i64 (.lit 0)), (.int .i64 (.lit 0)), .nilmap] [(0, 13, (.t 12)), (23, 1, (.t 13))]⟩,
 ⟨some 4, true, none, iAlloc 103 [.nilslice, (.int .i64 (.lit 0)), .nilslice, (.int .i64 (.lit 0)), (.int .i64 (.lit 0)), .nilslice, (.int .i64 (.lit 0)), .nilslice, (.int .i64 (.lit 0)), (.int .i64 (.lit 0)), (.int .i64 (.lit 0)), (.int .i64 (.lit 0)), (.bool (.lit false)), (.int .i64 (.lit 0)), (.int .i64 (.lit 0)), (.int .i64 (.lit 0)), (.int .i64 (.lit 0)), (.int .i64 (.lit 0)), (.int .i64 (.lit 0)), (.int .i64 (.lit 0)), (.int .i64 (.lit 0)), (.int .i64 (.lit 0)), (.int .i64 (.lit 0)), .nilmap]⟩,
 ⟨none, false, none, iStore 24 (.t 4) (.t 14)⟩])
 (cSeq (cSeq (cOps [⟨some 15, false, none, iFaddr 0 (.t 4)⟩,
 ⟨some 16, false, none, iFaddr 7 (.t 15)⟩,
 ⟨some 17, false, none, iLoad (.t 16)⟩,
 ⟨some 18, true, none, iLenS (.t 17)⟩,
 ⟨some 19, true, none, iMov (.c (.int .i64 (.lit 0)))⟩])
 (cBlock 0 (cLoop (cSeq (cOps [⟨some 20, true, none, iCmp .lss (.t 19) (.t 18)⟩])
 (cSeq (cCond (.t 20) cSkip (cExit 0))
 (cSeq (cBlock 1 (cSeq (cOps [⟨some 21, false, none, iMov (.t 19)⟩,
 ⟨some 5, true, none, iMov (.t 21)⟩])
 (cSeq (dOps 1 [⟨⟨some 23, false, none, iLoadN 24 (.t 4)⟩, [4], false, 0, 0, none, []⟩,
 ⟨⟨some 24, false, none, iFaddr 0 (.t 4)⟩, [4], false, 0, 0, none, []⟩,
 ⟨⟨some 25, false, none, iFaddr 7 (.t 24)⟩, [24], false, 0, 0, none, []⟩,
 ⟨⟨some 26, false, none, iLoad (.t 25)⟩, [25], false, 0, 0, none, []⟩,
 ⟨⟨some 27, false, none, iMov (.t 5)⟩, [5], false, 0, 0, none, []⟩,
 ⟨⟨some 28, false, none, iIaddr 10 (.t 26) (.t 27)⟩, [26, 27], false, 0, 0, none, []⟩,
 ⟨⟨some 29, false, none, iLoadN 10 (.t 28)⟩, [28], false, 0, 0, none, []⟩,
 ⟨⟨some 30, false, none, iCall (.c (.func (.func 106) [] [])) [(.t 23), (.t 29)]⟩, [23, 29], true, 0, 0, none, []⟩,
 ⟨⟨some 22, false, none, iMov (.t 30)⟩, [30], false, 1, 1, none, []⟩,
 ⟨⟨some 31, false, none, iExtract 0 (.t 22)⟩, [22], false, 1, 1, none, []⟩,
 ⟨⟨some 32, false, none, iExtract 1 (.t 22)⟩, [22], false, 1, 2, none, []⟩,
 ⟨⟨some 6, true, none, iAlloc 29 [(.int .i64 (.lit 0)), (.int .i64 (.lit 0))]⟩, [], false, 0, 2, (some (flAlloc [(.int .i64 (.lit 0)), (.int .i64 (.lit 0))], .ptr, 0)), []⟩,
 ⟨⟨none, false, none, iStore 2 (.t 6) (.t 31)⟩, [6, 31], true, 1, 0, none, [0]⟩,
 ⟨⟨some 7, true, none, iMov (.t 32)⟩, [32], false, 2, 2, none, []⟩])
 (cSeq (cSeq (cOps [⟨some 33, false, none, iMov (.t 7)⟩,
 ⟨some 34, true, none, iCmp .neq (.t 33) (.c (.int .i64 (.lit 0)))⟩])
 (cCond (.t 34) (cSeq (cOps [⟨some 35, false, none, iBuild [.nilslice, (.int .i64 (.lit 0)), .nilslice, (.int .i64 (.lit 0)), (.int .i64 (.lit 0)), .nilslice, (.int .i64 (.lit 0)), .nilslice, (.int .i64 (.lit 0)), (.int .i64 (.lit 0)), (.int .i64 (.lit 0)), (.int .i64 (.lit 0)), (.bool (.lit false)), (.int .i64 (.lit 0)), (.int .i64 (.lit 0)), (.int .i64 (.lit 0)), (.int .i64 (.lit 0)), (.int .i64 (.lit 0)), (.int .i64 (.lit 0)), (.int .i64 (.lit 0)), (.int .i64 (.lit 0)), (.int .i64 (.lit 0)), (.int .i64 (.lit 0)), .nilmap] []⟩,
 ⟨none, false, none, iStore 24 (.t 2) (.t 35)⟩,
 ⟨some 3, true, none, iMov (.c (.int .i64 (.lit 60)))⟩])
 cRet) cSkip))
 (cOps [⟨some 36, false, none, iMov (.t 5)⟩,
 ⟨some 37, false, none, iLoadN 2 (.t 6)⟩,
 ⟨some 38, false, none, iFaddr 13 (.t 4)⟩,
 ⟨some 39, false, none, iIaddrA 2 5 (.t 38) (.t 36)⟩,
 ⟨none, false, none, iStore 2 (.t 39) (.t 37)⟩])))))
 (cOps [⟨some 40, false, none, iArith .add (.t 19) (.c (.int .i64 (.lit 1)))⟩,
 ⟨some 19, true, none, iMov (.t 40)⟩])))))))
 (cSeq (cOps [⟨some 41, false, none, iLoadN 24 (.t 4)⟩,
 ⟨none, false, none, iStore 24 (.t 2) (.t 41)⟩,
 ⟨some 3, true, none, iMov (.c (.int .i64 (.lit 0)))⟩])
 cRet))))), [.cell 2 true 24, .t 3]⟩
noncomputable def Tryz.kp63 : List Nat := [0, 1, 2, 4]
noncomputable def Tryz.cf63 : CF := ⟨2, (cSeq (cOps [⟨some 2, true, none, iBox 103 (.t 0)⟩,
 ⟨some 4, true, none, iMov (.c (.bool (.lit false)))⟩])
 (cSeq (cOps [⟨some 5, false, none, iMov (.t 1)⟩,
 ⟨some 6, false, none, iCmp .geq (.t 5) (.c (.int .i64 (.lit 0)))⟩,
 ⟨some 7, false, none, iMov (.t 6)⟩,
 ⟨some 8, false, some (7, true), iMov (.t 1)⟩,
 ⟨some 9, false, some (7, true), iFaddr 0 (.t 2)⟩,
 ⟨some 10, false, some (7, true), iFaddr 7 (.t 9)⟩,
 ⟨some 11, false, some (7, true), iLoad (.t 10)⟩,
 ⟨some 12, false, some (7, true), iLenS (.t 11)⟩,
 ⟨some 13, false, some (7, true), iCmp .lss (.t 8) (.t 12)⟩,
 ⟨some 14, false, none, iPick (.t 7) (.t 13) (.c (.bool (.lit false)))⟩,
 ⟨some 4, true, none, iMov (.t 14)⟩])
 cRet)), [.t 4]⟩
noncomputable def Tryz.kp68 : List Nat := [0, 1, 2, 3, 6, 7, 8, 9, 16, 27]
noncomputable def Tryz.cf68 : CF := ⟨3, (cSeq (cOps [⟨some 3, true, none, iBox 31 (.t 0)⟩,
 ⟨some 6, true, none, iAlloc 111 [.nilslice, (.int .i64 (.lit 0)), .nilslice, (.int .i64 (.lit 0)), (.int .i64 (.lit 0)), .nilslice, (.int .i64 (.lit 0)), .nilslice, (.int .i64 (.lit 0)), (.int .i64 (.lit 0)), (.int .i64 (.lit 0)), (.int .i64 (.lit 0)), (.bool (.lit false)), (.int .i64 (.lit 0)), (.int .i64 (.lit 0)), (.int .i64 (.lit 0)), (.int .i64 (.lit 0)), (.int .i64 (.lit 0)), (.int .i64 (.lit 0)), (.int .i64 (.lit 0)), (.int .i64 (.lit 0)), (.int .i64 (.lit 0)), (.int .i64 (.lit 0)), .nilmap, (.int .i64 (.lit 0))]⟩,
 ⟨some 7, true, none, iMov (.c (.int .i64 (.lit 0)))⟩])
 (cSeq (cOps [⟨some 11, false, none, iLoadN 13 (.t 3)⟩,
 ⟨some 12, false, none, iCall (.c (.func (.func 62) [] [])) [(.t 11)]⟩,
 ⟨some 10, false, none, iMov (.t 12)⟩,
 ⟨some 13, false, none, iExtract 0 (.t 10)⟩,
 ⟨some 14, false, none, iExtract 1 (.t 10)⟩,
 ⟨some 8, true, none, iAlloc 103 [.nilslice, (.int .i64 (.lit 0)), .nilslice, (.int .i64 (.lit 0)), (.int .i64 (.lit 0)), .nilslice, (.int .i64 (.lit 0)), .nilslice, (.int .i64 (.lit 0)), (.int .i64 (.lit 0)), (.int .i64 (.lit 0)), (.int .i64 (.lit 0)), (.bool (.lit false)), (.int .i64 (.lit 0)), (.int .i64 (.lit 0)), (.int .i64 (.lit 0)), (.int .i64 (.lit 0)), (.int .i64 (.lit 0)), (.int .i64 (.lit 0)), (.int .i64 (.lit 0)), (.int .i64 (.lit 0)), (.int .i64 (.lit 0)), (.int .i64 (.lit 0)), .nilmap]⟩,
 ⟨none, false, none, iStore 24 (.t 8) (.t 13)⟩,
 ⟨some 9, true, none, iMov (.t 14)⟩])
 (cSeq (cSeq (cOps [⟨some 15, false, none, iMov (.t 9)⟩,
 ⟨some 16, true, none, iCmp .neq (.t 15) (.c (.int .i64 (.lit 0)))⟩])
 (cCond (.t 16) (cSeq (cOps [⟨some 17, false, none, iBuild [.nilslice, (.int .i64 (.lit 0)), .nilslice, (.int .i64 (.lit 0)), (.int .i64 (.lit 0)), .nilslice, (.int .i64 (.lit 0)), .nilslice, (.int .i64 (.lit 0)), (.int .i64 (.lit 0)), (.int .i64 (.lit 0)), (.int .i64 (.lit 0)), (.bool (.lit false)), (.int .i64 (.lit 0)), (.int .i64 (.lit 0)), (.int .i64 (.lit 0)), (.int .i64 (.lit 0)), (.int .i64 (.lit 0)), (.int .i64 (.lit 0)), (.int .i64 (.lit 0)), (.int .i64 (.lit 0)), (.int .i64 (.lit 0)), (.int .i64 (.lit 0)), .nilmap, (.int .i64 (.lit 0))] []⟩,
 ⟨some 18, false, none, iMov (.t 9)⟩,
 ⟨none, false, none, iStore 25 (.t 6) (.t 17)⟩,
 ⟨some 7, true, none, iMov (.t 18)⟩])
 cRet) cSkip))
 (cSeq (cSeq (cOps [⟨some 19, false, none, iLoadN 24 (.t 8)⟩,
 ⟨some 20, false, none, iMov (.t 1)⟩,
 ⟨some 21, false, none, iCall (.c (.func (.func 74) [] [])) [(.t 19), (.t 20)]⟩,
 ⟨some 22, false, none, iNot (.t 21)⟩,
 ⟨some 23, false, none, iMov (.t 22)⟩,
 ⟨some 24, false, some (23, false), iMov (.t 2)⟩,
 ⟨some 25, false, some (23, false), iCall (.c (.func (.func 78) [] [])) [(.t 24)]⟩,
 ⟨some 26, false, some (23, false), iNot (.t 25)⟩,
 ⟨some 27, true, none, iPick (.t 23) (.c (.bool (.lit true))) (.t 26)⟩])
 (cCond (.t 27) (cSeq (cOps [⟨some 28, false, none, iBuild [.nilslice, (.int .i64 (.lit 0)), .nilslice, (.int .i64 (.lit 0)), (.int .i64 (.lit 0)), .nilslice, (.int .i64 (.lit 0)), .nilslice, (.int .i64 (.lit 0)), (.int .i64 (.lit 0)), (.int .i64 (.lit 0)), (.int .i64 (.lit 0)), (.bool (.lit false)), (.int .i64 (.lit 0)), (.int .i64 (.lit 0)), (.int .i64 (.lit 0)), (.int .i64 (.lit 0)), (.int .i64 (.lit 0)), (.int .i64 (.lit 0)), (.int .i64 (.lit 0)), (.int .i64 (.lit 0)), (.int .i64 (.lit 0)), (.int .i64 (.lit 0)), .nilmap, (.int .i64 (.lit 0))] []⟩,
 ⟨none, false, none, iStore 25 (.t 6) (.t 28)⟩,
 ⟨some 7, true, none, iMov (.c (.int .i64 (.lit 61)))⟩])
 cRet) cSkip))
 (cSeq (cOps [⟨some 29, false, none, iLoadN 24 (.t 8)⟩,
 ⟨some 30, false, none, iMov (.t 2)⟩,
 ⟨some 31, false, none, iBuild [.nilslice, (.int .i64 (.lit 0)), .nilslice, (.int .i64 (.lit 0)), (.int .i64 (.lit 0)), .nilslice, (.int .i64 (.lit 0)), .nilslice, (.int .i64 (.lit 0)), (.int .i64 (.lit 0)), (.int .i64 (.lit 0)), (.int .i64 (.lit 0)), (.bool (.lit false)), (.int .i64 (.lit 0)), (.int .i64 (.lit 0)), (.int .i64 (.lit 0)), (.int .i64 (.lit 0)), (.int .i64 (.lit 0)), (.int .i64 (.lit 0)), (.int .i64 (.lit 0)), (.int .i64 (.lit 0)), (.int .i64 (.lit 0)), (.int .i64 (.lit 0)), .nilmap, (.int .i64 (.lit 0))] [(0, 24, (.t 29)), (24, 1, (.t 30))]⟩,
 ⟨none, false, none, iStore 25 (.t 6) (.t 31)⟩,
 ⟨some 7, true, none, iMov (.c (.int .i64 (.lit 0)))⟩])
 cRet))))), [.cell 6 true 25, .t 7]⟩
noncomputable def Tryz.kp69 : List Nat := [0, 1, 2, 4, 5, 6, 7, 8, 19, 20, 21]
noncomputable def Tryz.cf69 : CF := ⟨2, (cSeq (cOps [⟨some 2, true, none, iBox 111 (.t 0)⟩,
 ⟨some 4, true, none, iMov (.c .nilslice)⟩])
 (cSeq (dOps 0 [⟨⟨some 9, false, none, iLoadN 25 (.t 2)⟩, [2], false, 0, 0, none, []⟩,
 ⟨⟨some 10, false, none, iMov (.t 1)⟩, [1], false, 0, 0, none, []⟩,
 ⟨⟨some 11, false, none, iCall (.c (.func (.func 113) [] [])) [(.t 9), (.t 10), (.c (.func (.func 114) [] []))]⟩, [9, 10], true, 0, 0, none, []⟩,
 ⟨⟨some 12, false, none, iLoadN 25 (.t 2)⟩, [2], false, 0, 1, none, []⟩,
 ⟨⟨some 13, false, none, iMov (.t 1)⟩, [1], false, 0, 1, none, []⟩,
 ⟨⟨some 14, false, none, iCall (.c (.func (.func 113) [] [])) [(.t 12), (.t 13), (.c (.func (.func 115) [] []))]⟩, [12, 13], true, 1, 0, none, []⟩,
 ⟨⟨some 5, true, none, iMov (.t 11)⟩, [11], false, 2, 2, none, []⟩,
 ⟨⟨some 6, true, none, iMov (.t 14)⟩, [14], false, 2, 2, none, []⟩])
 (cSeq (cOps [⟨some 15, false, none, iMov (.t 1)⟩,
 ⟨some 16, false, none, iLenS (.t 15)⟩,
 ⟨some 17, false, none, iMkslice 29 [(.int .i64 (.lit 0)), (.int .i64 (.lit 0))] 16 (.t 16) (.t 16)⟩,
 ⟨some 7, true, none, iMov (.t 17)⟩])
 (cSeq (cSeq (cOps [⟨some 18, false, none, iMov (.t 7)⟩,
 ⟨some 19, true, none, iLenS (.t 18)⟩,
 ⟨some 20, true, none, iMov (.c (.int .i64 (.lit 0)))⟩])
 (cBlock 0 (cLoop (cSeq (cOps [⟨some 21, true, none, iCmp .lss (.t 20) (.t 19)⟩])
 (cSeq (cCond (.t 21) cSkip (cExit 0))
 (cSeq (cBlock 1 (cSeq (cOps [⟨some 22, false, none, iMov (.t 20)⟩,
 ⟨some 8, true, none, iMov (.t 22)⟩])
 (dOps 0 [⟨⟨some 23, false, none, iMov (.t 7)⟩, [7], false, 0, 2, none, []⟩,
 ⟨⟨some 24, false, none, iMov (.t 8)⟩, [8], false, 0, 2, none, []⟩,
 ⟨⟨some 25, false, none, iFaddr 0 (.t 2)⟩, [2], false, 0, 0, none, []⟩,
 ⟨⟨some 26, false, none, iLoadN 24 (.t 25)⟩, [25], false, 0, 0, none, []⟩,
 ⟨⟨some 27, false, none, iMov (.t 5)⟩, [5], false, 0, 0, none, []⟩,
 ⟨⟨some 28, false, none, iMov (.t 8)⟩, [8], false, 0, 0, none, []⟩,
 ⟨⟨some 29, false, none, iIaddr 2 (.t 27) (.t 28)⟩, [27, 28], false, 0, 0, none, []⟩,
 ⟨⟨some 30, false, none, iLoadN 2 (.t 29)⟩, [29], false, 0, 0, none, []⟩,
 ⟨⟨some 31, false, none, iCall (.c (.func (.func 116) [] [])) [(.t 26), (.t 30), (.c (.func (.func 114) [] []))]⟩, [26, 30], true, 0, 0, none, []⟩,
 ⟨⟨some 32, false, none, iField false 1 1 (.t 31)⟩, [31], false, 1, 2, none, []⟩,
 ⟨⟨some 33, false, none, iFaddr 0 (.t 2)⟩, [2], false, 0, 1, none, []⟩,
 ⟨⟨some 34, false, none, iLoadN 24 (.t 33)⟩, [33], false, 0, 1, none, []⟩,
 ⟨⟨some 35, false, none, iMov (.t 6)⟩, [6], false, 0, 1, none, []⟩,
 ⟨⟨some 36, false, none, iMov (.t 8)⟩, [8], false, 0, 1, none, []⟩,
 ⟨⟨some 37, false, none, iIaddr 2 (.t 35) (.t 36)⟩, [35, 36], false, 0, 1, none, []⟩,
 ⟨⟨some 38, false, none, iLoadN 2 (.t 37)⟩, [37], false, 0, 1, none, []⟩,
 ⟨⟨some 39, false, none, iCall (.c (.func (.func 116) [] [])) [(.t 34), (.t 38), (.c (.func (.func 115) [] []))]⟩, [34, 38], true, 1, 0, none, []⟩,
 ⟨⟨some 40, false, none, iField false 1 1 (.t 39)⟩, [39], false, 2, 2, none, []⟩,
 ⟨⟨some 41, false, none, iBuild [(.int .i64 (.lit 0)), (.int .i64 (.lit 0))] [(0, 1, (.t 32)), (1, 1, (.t 40))]⟩, [32, 40], false, 2, 2, none, []⟩,
 ⟨⟨some 42, false, none, iIaddr 2 (.t 23) (.t 24)⟩, [23, 24], false, 2, 2, none, []⟩,
 ⟨⟨none, false, none, iStore 2 (.t 42) (.t 41)⟩, [42, 41], true, 2, 0, none, []⟩])))
 (cOps [⟨some 43, false, none, iArith .add (.t 20) (.c (.int .i64 (.lit 1)))⟩,
 ⟨some 20, true, none, iMov (.t 43)⟩])))))))
 (cSeq (cOps [⟨some 44, false, none, iMov (.t 7)⟩,
 ⟨some 4, true, none, iMov (.t 44)⟩])
 cRet))))), [.t 4]⟩
noncomputable def Tryz.kp72 : List Nat := [0, 1, 2, 4, 5, 6, 7, 13, 14, 15, 16]
noncomputable def Tryz.cf72 : CF := ⟨2, (cSeq (cOps [⟨some 2, true, none, iBox 111 (.t 0)⟩,
 ⟨some 4, true, none, iMov (.c .nilslice)⟩])
 (cSeq (cOps [⟨some 8, false, none, iMov (.t 1)⟩,
 ⟨some 9, false, none, iLenS (.t 8)⟩,
 ⟨some 10, false, none, iMkslice 3 [(.int .i64 (.lit 0))] 8 (.t 9) (.t 9)⟩,
 ⟨some 5, true, none, iMov (.t 10)⟩])
 (cSeq (cSeq (cOps [⟨some 11, false, none, iLoadN 25 (.t 2)⟩,
 ⟨some 12, false, none, iMov (.t 1)⟩,
 ⟨some 13, true, none, iCall (.c (.func (.func 113) [] [])) [(.t 11), (.t 12), (.c (.func (.func 115) [] []))]⟩,
 ⟨some 14, true, none, iLenS (.t 13)⟩,
 ⟨some 15, true, none, iMov (.c (.int .i64 (.lit 0)))⟩])
 (cBlock 0 (cLoop (cSeq (cOps [⟨some 16, true, none, iCmp .lss (.t 15) (.t 14)⟩])
 (cSeq (cCond (.t 16) cSkip (cExit 0))
 (cSeq (cBlock 1 (cSeq (cOps [⟨some 17, false, none, iMov (.t 15)⟩,
 ⟨some 18, false, none, iIaddr 2 (.t 13) (.t 15)⟩,
 ⟨some 19, false, none, iLoadN 2 (.t 18)⟩,
 ⟨some 7, true, none, iAlloc 175 [(.int .i64 (.lit 0)), (.int .i64 (.lit 0))]⟩,
 ⟨some 6, true, none, iMov (.t 17)⟩,
 ⟨none, false, none, iStore 2 (.t 7) (.t 19)⟩])
 (cOps [⟨some 20, false, none, iMov (.t 5)⟩,
 ⟨some 21, false, none, iMov (.t 6)⟩,
 ⟨some 22, false, none, iFaddr 0 (.t 2)⟩,
 ⟨some 23, false, none, iLoadN 24 (.t 22)⟩,
 ⟨some 24, false, none, iLoadN 2 (.t 7)⟩,
 ⟨some 25, false, none, iCall (.c (.func (.func 117) [] [])) [(.t 23), (.t 24)]⟩,
 ⟨some 26, false, none, iIaddr 1 (.t 20) (.t 21)⟩,
 ⟨none, false, none, iStore 1 (.t 26) (.t 25)⟩])))
 (cOps [⟨some 27, false, none, iArith .add (.t 15) (.c (.int .i64 (.lit 1)))⟩,
 ⟨some 15, true, none, iMov (.t 27)⟩])))))))
 (cSeq (cOps [⟨some 28, false, none, iMov (.t 5)⟩,
 ⟨some 4, true, none, iMov (.t 28)⟩])
 cRet)))), [.t 4]⟩
noncomputable def Tryz.kp74 : List Nat := [0, 1, 2, 4, 5, 7, 8, 9, 10, 11, 22]
noncomputable def Tryz.cf74 : CF := ⟨2, (cSeq (cOps [⟨some 2, true, none, iBox 103 (.t 0)⟩,
 ⟨some 4, true, none, iMov (.c (.bool (.lit false)))⟩])
 (cSeq (cOps [⟨some 5, true, none, iAlloc 179 [(.bool (.lit false)), (.bool (.lit false)), (.bool (.lit false)), (.bool (.lit false)), (.bool (.lit false))]⟩])
 (cSeq (cSeq (cOps [⟨some 8, true, none, iMov (.t 1)⟩,
 ⟨some 9, true, none, iLenS (.t 8)⟩,
 ⟨some 10, true, none, iMov (.c (.int .i64 (.lit 0)))⟩])
 (cBlock 0 (cLoop (cSeq (cOps [⟨some 11, true, none, iCmp .lss (.t 10) (.t 9)⟩])
 (cSeq (cCond (.t 11) cSkip (cExit 0))
 (cSeq (cBlock 1 (cSeq (cOps [⟨some 12, false, none, iIaddr 1 (.t 8) (.t 10)⟩,
 ⟨some 13, false, none, iLoad (.t 12)⟩,
 ⟨some 7, true, none, iMov (.t 13)⟩])
 (cSeq (cSeq (cOps [⟨some 14, false, none, iLoadN 24 (.t 2)⟩,
 ⟨some 15, false, none, iMov (.t 7)⟩,
 ⟨some 16, false, none, iCall (.c (.func (.func 63) [] [])) [(.t 14), (.t 15)]⟩,
 ⟨some 17, false, none, iNot (.t 16)⟩,
 ⟨some 18, false, none, iMov (.t 17)⟩,
 ⟨some 19, false, some (18, false), iMov (.t 7)⟩,
 ⟨some 20, false, some (18, false), iIaddrA 1 5 (.t 5) (.t 19)⟩,
 ⟨some 21, false, some (18, false), iLoad (.t 20)⟩,
 ⟨some 22, true, none, iPick (.t 18) (.c (.bool (.lit true))) (.t 21)⟩])
 (cCond (.t 22) (cSeq (cOps [⟨some 4, true, none, iMov (.c (.bool (.lit false)))⟩])
 cRet) cSkip))
 (cOps [⟨some 23, false, none, iMov (.t 7)⟩,
 ⟨some 24, false, none, iIaddrA 1 5 (.t 5) (.t 23)⟩,
 ⟨none, false, none, iStore 1 (.t 24) (.c (.bool (.lit true)))⟩]))))
 (cOps [⟨some 25, false, none, iArith .add (.t 10) (.c (.int .i64 (.lit 1)))⟩,
 ⟨some 10, true, none, iMov (.t 25)⟩])))))))
 (cSeq (cOps [⟨some 26, false, none, iLoadN 5 (.t 5)⟩,
 ⟨some 27, false, none, iBuild [(.bool (.lit false)), (.bool (.lit false)), (.bool (.lit false)), (.bool (.lit false)), (.bool (.lit false))] []⟩,
 ⟨some 28, false, none, iEq true true 5 [(0, .bool), (1, .bool), (2, .bool), (3, .bool), (4, .bool)] (.t 26) (.t 27)⟩,
 ⟨some 4, true, none, iMov (.t 28)⟩])
 cRet)))), [.t 4]⟩
noncomputable def Tryz.kp75 : List Nat := [0, 1, 2, 3, 4, 5, 6, 10]
noncomputable def Tryz.cf75 : CF := ⟨2, (cSeq (cOps [⟨some 2, true, none, iBox 103 (.t 0)⟩,
 ⟨some 3, true, none, iBox 32 (.t 1)⟩,
 ⟨some 4, true, none, iMov (.c (.int .i64 (.lit 0)))⟩,
 ⟨some 5, true, none, iMov (.c (.int .i64 (.lit 0)))⟩])
 (cSeq (cOps [⟨some 7, false, none, iFunc (.func 120) [] [(.t 2), (.t 3)]⟩,
 ⟨some 8, false, none, iCall (.c (.func (.func 119) [] [])) [(.c (.int .i64 (.lit 1440))), (.t 7)]⟩,
 ⟨some 6, true, none, iMov (.t 8)⟩])
 (cSeq (cSeq (cOps [⟨some 9, false, none, iMov (.t 6)⟩,
 ⟨some 10, true, none, iCmp .eql (.t 9) (.c (.int .i64 (.lit 0)))⟩])
 (cCond (.t 10) (cSeq (cOps [⟨some 4, true, none, iMov (.c (.int .i64 (.lit 0)))⟩,
 ⟨some 5, true, none, iMov (.c (.int .i64 (.lit 4)))⟩])
 cRet) cSkip))
 (cSeq (cOps [⟨some 11, false, none, iMov (.t 6)⟩,
 ⟨some 12, false, none, iArith .sub (.t 11) (.c (.int .i64 (.lit 1)))⟩,
 ⟨some 4, true, none, iMov (.t 12)⟩,
 ⟨some 5, true, none, iMov (.c (.int .i64 (.lit 0)))⟩])
 cRet)))), [.t 4, .t 5]⟩
noncomputable def Tryz.kp78 : List Nat := [0, 2]
noncomputable def Tryz.cf78 : CF := ⟨1, (cSeq (cOps [⟨some 2, true, none, iMov (.c (.bool (.lit false)))⟩])
 (cSeq (cOps [⟨some 3, false, none, iMov (.t 0)⟩,
 ⟨some 4, false, none, iCmp .geq (.t 3) (.c (.int .i64 (.lit 0)))⟩,
 ⟨some 5, false, none, iMov (.t 4)⟩,
 ⟨some 6, false, some (5, true), iMov (.t 0)⟩,
 ⟨some 7, false, some (5, true), iCmp .leq (.t 6) (.c (.int .i64 (.lit 1439)))⟩,
 ⟨some 8, false, none, iPick (.t 5) (.t 7) (.c (.bool (.lit false)))⟩,
 ⟨some 2, true, none, iMov (.t 8)⟩])
 cRet)), [.t 2]⟩
noncomputable def Tryz.kp79 : List Nat := [0, 1, 2]
noncomputable def Tryz.cf79 : CF := ⟨1, (cSeq (cOps [⟨some 1, true, none, iBox 111 (.t 0)⟩,
 ⟨some 2, true, none, iMov (.c .nilslice)⟩])
 (cSeq (cOps [⟨some 3, false, none, iFaddr 0 (.t 1)⟩,
 ⟨some 4, false, none, iLoadN 24 (.t 3)⟩,
 ⟨some 5, false, none, iLoadN 25 (.t 1)⟩,
 ⟨some 6, false, none, iFunc (.func 121) [(.t 5)] []⟩,
 ⟨some 7, false, none, iLoadN 25 (.t 1)⟩,
 ⟨some 8, false, none, iFunc (.func 123) [(.t 7)] []⟩,
 ⟨some 9, false, none, iBuild [.nilFunc, .nilFunc] [(0, 1, (.t 6)), (1, 1, (.t 8))]⟩,
 ⟨some 10, false, none, iCall (.c (.func (.func 122) [] [])) [(.t 4), (.t 9)]⟩,
 ⟨some 2, true, none, iMov (.t 10)⟩])
 cRet)), [.t 2]⟩
noncomputable def Tryz.kp81 : List Nat := [0, 1, 2, 4, 5]
noncomputable def Tryz.cf81 : CF := ⟨2, (cSeq (cOps [⟨some 2, true, none, iBox 111 (.t 0)⟩,
 ⟨some 4, true, none, iMov (.c .nilslice)⟩])
 (cSeq (cOps [⟨some 6, false, none, iLoadN 25 (.t 2)⟩,
 ⟨some 7, false, none, iMov (.t 1)⟩,
 ⟨some 8, false, none, iBuild [.nilslice, (.int .i64 (.lit 0)), .nilslice, (.int .i64 (.lit 0)), (.int .i64 (.lit 0)), .nilslice, (.int .i64 (.lit 0)), .nilslice, (.int .i64 (.lit 0)), (.int .i64 (.lit 0)), (.int .i64 (.lit 0)), (.int .i64 (.lit 0)), (.bool (.lit false)), (.int .i64 (.lit 0)), (.int .i64 (.lit 0)), (.int .i64 (.lit 0)), (.int .i64 (.lit 0)), (.int .i64 (.lit 0)), (.int .i64 (.lit 0)), (.int .i64 (.lit 0)), (.int .i64 (.lit 0)), (.int .i64 (.lit 0)), (.int .i64 (.lit 0)), .nilmap, (.int .i64 (.lit 0)), .nilslice] [(0, 25, (.t 6)), (25, 1, (.t 7))]⟩,
 ⟨some 5, true, none, iAlloc 185 [.nilslice, (.int .i64 (.lit 0)), .nilslice, (.int .i64 (.lit 0)), (.int .i64 (.lit 0)), .nilslice, (.int .i64 (.lit 0)), .nilslice, (.int .i64 (.lit 0)), (.int .i64 (.lit 0)), (.int .i64 (.lit 0)), (.int .i64 (.lit 0)), (.bool (.lit false)), (.int .i64 (.lit 0)), (.int .i64 (.lit 0)), (.int .i64 (.lit 0)), (.int .i64 (.lit 0)), (.int .i64 (.lit 0)), (.int .i64 (.lit 0)), (.int .i64 (.lit 0)), (.int .i64 (.lit 0)), (.int .i64 (.lit 0)), (.int .i64 (.lit 0)), .nilmap, (.int .i64 (.lit 0)), .nilslice]⟩,
 ⟨none, false, none, iStore 26 (.t 5) (.t 8)⟩])
 (cSeq (dOps 0 [⟨⟨some 9, false, none, iLoadN 26 (.t 5)⟩, [5], false, 0, 1, none, []⟩,
 ⟨⟨some 10, false, none, iFaddr 0 (.t 2)⟩, [2], false, 0, 0, none, []⟩,
 ⟨⟨some 11, false, none, iLoadN 24 (.t 10)⟩, [10], false, 0, 0, none, []⟩,
 ⟨⟨some 12, false, none, iLoadN 26 (.t 5)⟩, [5], false, 0, 0, none, []⟩,
 ⟨⟨some 13, false, none, iFunc (.func 126) [(.t 12)] []⟩, [12], false, 0, 0, none, []⟩,
 ⟨⟨some 14, false, none, iLoadN 26 (.t 5)⟩, [5], false, 0, 0, none, []⟩,
 ⟨⟨some 15, false, none, iFunc (.func 127) [(.t 14)] []⟩, [14], false, 0, 0, none, []⟩,
 ⟨⟨some 16, false, none, iBuild [.nilFunc, .nilFunc] [(0, 1, (.t 13)), (1, 1, (.t 15))]⟩, [13, 15], false, 0, 0, none, []⟩,
 ⟨⟨some 17, false, none, iCall (.c (.func (.func 122) [] [])) [(.t 11), (.t 16)]⟩, [11, 16], true, 0, 0, none, []⟩,
 ⟨⟨some 18, false, none, iCall (.c (.func (.func 125) [] [])) [(.t 9), (.t 17)]⟩, [9, 17], true, 1, 0, none, []⟩,
 ⟨⟨some 4, true, none, iMov (.t 18)⟩, [18], false, 2, 2, none, []⟩])
 cRet))), [.t 4]⟩
noncomputable def Tryz.kp83 : List Nat := [0, 1, 2, 5]
noncomputable def Tryz.cf83 : CF := ⟨1, (cSeq (cOps [⟨some 1, true, none, iBox 68 (.t 0)⟩,
 ⟨some 2, true, none, iMov (.c (.int .i64 (.lit 0)))⟩])
 (cSeq (cSeq (cOps [⟨some 3, false, none, iLoadN 6 (.t 1)⟩,
 ⟨some 4, false, none, iCall (.c (.func (.func 128) [] [])) [(.t 3)]⟩,
 ⟨some 5, true, none, iNot (.t 4)⟩])
 (cCond (.t 5) (cSeq (cOps [⟨some 2, true, none, iMov (.c (.int .i64 (.lit 10)))⟩])
 cRet) cSkip))
 (cSeq (cOps [⟨some 2, true, none, iMov (.c (.int .i64 (.lit 0)))⟩])
 cRet))), [.t 2]⟩
noncomputable def Tryz.kp86 : List Nat := [0, 1, 2, 3, 4, 8, 9, 10, 11, 18, 32]
end Go.Sx
