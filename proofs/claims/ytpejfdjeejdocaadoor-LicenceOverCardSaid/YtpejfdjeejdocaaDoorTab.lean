/- THE TABLES OF THE PROGRAM: its types, and its functions as the evaluator runs them. -/
import Derived.Test.YtpejfdjeejdocaaDoorSxComp
import Derived.KernelRfl
/-! THE TABLES OF THE PROGRAM: its types, and its functions as the evaluator runs them. -/
namespace Go.Sx
set_option maxRecDepth 100000
noncomputable def Tryd.ti0 : TI := ⟨.tuple #[], 1, 0, none, false⟩
noncomputable def Tryd.ti1 : TI := ⟨.func #[] #[] false, 1, 8, (some .nilFunc), false⟩
noncomputable def Tryd.ti2 : TI := ⟨.int .i64, 1, 8, (some (.int .i64 (.lit 0))), false⟩
noncomputable def Tryd.ti3 : TI := ⟨.int .i64, 1, 8, (some (.int .i64 (.lit 0))), false⟩
noncomputable def Tryd.ti4 : TI := ⟨.bool, 1, 1, (some (.bool (.lit false))), false⟩
noncomputable def Tryd.ti5 : TI := ⟨.int .u8, 1, 1, (some (.int .u8 (.lit 0))), false⟩
noncomputable def Tryd.ti6 : TI := ⟨.int .u8, 1, 1, (some (.int .u8 (.lit 0))), false⟩
noncomputable def Tryd.ti7 : TI := ⟨.struct #[⟨ "x", 2, 0, false, "", "runtime", 0⟩, ⟨ "y", 3, 1, false, "", "runtime", 8⟩, ⟨ "signed", 4, 2, false, "", "runtime", 16⟩, ⟨ "code", 6, 3, false, "", "runtime", 17⟩], 4, 24, (some (.agg [(.int .i64 (.lit 0)), (.int .i64 (.lit 0)), (.bool (.lit false)), (.int .u8 (.lit 0))])), true⟩
noncomputable def Tryd.ti8 : TI := ⟨.struct #[⟨ "x", 2, 0, false, "", "runtime", 0⟩, ⟨ "y", 3, 1, false, "", "runtime", 8⟩, ⟨ "signed", 4, 2, false, "", "runtime", 16⟩, ⟨ "code", 6, 3, false, "", "runtime", 17⟩], 4, 24, (some (.agg [(.int .i64 (.lit 0)), (.int .i64 (.lit 0)), (.bool (.lit false)), (.int .u8 (.lit 0))])), true⟩
noncomputable def Tryd.ti9 : TI := ⟨.string, 1, 16, none, false⟩
noncomputable def Tryd.ti10 : TI := ⟨.string, 1, 16, none, false⟩
noncomputable def Tryd.ti11 : TI := ⟨.string, 1, 16, none, false⟩
noncomputable def Tryd.ti12 : TI := ⟨.int .u64, 1, 8, (some (.int .u64 (.lit 0))), false⟩
noncomputable def Tryd.ti13 : TI := ⟨.struct #[⟨ "msg", 9, 0, false, "", "runtime", 0⟩, ⟨ "addr", 12, 1, false, "", "runtime", 16⟩], 2, 24, none, false⟩
noncomputable def Tryd.ti14 : TI := ⟨.struct #[⟨ "msg", 9, 0, false, "", "runtime", 0⟩, ⟨ "addr", 12, 1, false, "", "runtime", 16⟩], 2, 24, none, false⟩
noncomputable def Tryd.ti15 : TI := ⟨.pointer 167, 1, 8, (some .nilptr), false⟩
noncomputable def Tryd.ti16 : TI := ⟨.pointer 170, 1, 8, (some .nilptr), false⟩
noncomputable def Tryd.ti17 : TI := ⟨.pointer 179, 1, 8, (some .nilptr), false⟩
noncomputable def Tryd.ti18 : TI := ⟨.struct #[⟨ "typ", 17, 0, false, "", "internal/runtime/maps", 0⟩], 1, 8, (some (.agg [.nilptr])), false⟩
noncomputable def Tryd.ti19 : TI := ⟨.struct #[⟨ "typ", 17, 0, false, "", "internal/runtime/maps", 0⟩], 1, 8, (some (.agg [.nilptr])), false⟩
noncomputable def Tryd.ti20 : TI := ⟨.interface #[], 1, 16, none, false⟩
noncomputable def Tryd.ti21 : TI := ⟨.int .i32, 1, 4, (some (.int .i32 (.lit 0))), false⟩
noncomputable def Tryd.ti22 : TI := ⟨.slice 53, 1, 24, (some .nilslice), false⟩
noncomputable def Tryd.ti23 : TI := ⟨.slice 29, 1, 24, (some .nilslice), false⟩
noncomputable def Tryd.ti24 : TI := ⟨.slice 55, 1, 24, (some .nilslice), false⟩
noncomputable def Tryd.ti25 : TI := ⟨.struct #[⟨ "Kinds", 22, 0, false, "", "", 0⟩, ⟨ "Pause", 3, 1, false, "", "", 24⟩, ⟨ "Barred", 23, 2, false, "", "", 32⟩, ⟨ "Forbidden", 3, 3, false, "", "", 56⟩, ⟨ "Close", 3, 4, false, "", "", 64⟩, ⟨ "Held", 24, 5, false, "", "", 72⟩], 6, 96, (some (.agg [.nilslice, (.int .i64 (.lit 0)), .nilslice, (.int .i64 (.lit 0)), (.int .i64 (.lit 0)), .nilslice])), true⟩
noncomputable def Tryd.ti26 : TI := ⟨.struct #[⟨ "Kinds", 22, 0, false, "", "", 0⟩, ⟨ "Pause", 3, 1, false, "", "", 24⟩, ⟨ "Barred", 23, 2, false, "", "", 32⟩, ⟨ "Forbidden", 3, 3, false, "", "", 56⟩, ⟨ "Close", 3, 4, false, "", "", 64⟩, ⟨ "Held", 24, 5, false, "", "", 72⟩], 6, 96, (some (.agg [.nilslice, (.int .i64 (.lit 0)), .nilslice, (.int .i64 (.lit 0)), (.int .i64 (.lit 0)), .nilslice])), true⟩
noncomputable def Tryd.ti27 : TI := ⟨.array 3 3, 3, 24, (some (.agg [(.int .i64 (.lit 0)), (.int .i64 (.lit 0)), (.int .i64 (.lit 0))])), true⟩
noncomputable def Tryd.ti28 : TI := ⟨.struct #[⟨ "Low", 3, 0, false, "", "", 0⟩, ⟨ "High", 3, 1, false, "", "", 8⟩], 2, 16, (some (.agg [(.int .i64 (.lit 0)), (.int .i64 (.lit 0))])), true⟩
noncomputable def Tryd.ti29 : TI := ⟨.struct #[⟨ "Low", 3, 0, false, "", "", 0⟩, ⟨ "High", 3, 1, false, "", "", 8⟩], 2, 16, (some (.agg [(.int .i64 (.lit 0)), (.int .i64 (.lit 0))])), true⟩
noncomputable def Tryd.ti30 : TI := ⟨.array 2 29, 4, 32, (some (.agg [(.int .i64 (.lit 0)), (.int .i64 (.lit 0)), (.int .i64 (.lit 0)), (.int .i64 (.lit 0))])), true⟩
noncomputable def Tryd.ti31 : TI := ⟨.int .i64, 1, 8, (some (.int .i64 (.lit 0))), false⟩
noncomputable def Tryd.ti32 : TI := ⟨.tuple #[3, 31], 1, 0, none, false⟩
noncomputable def Tryd.ti33 : TI := ⟨.func #[26, 3, 3, 3] #[3, 31] false, 1, 8, (some .nilFunc), false⟩
noncomputable def Tryd.ti34 : TI := ⟨.func #[26] #[31] false, 1, 8, (some .nilFunc), false⟩
noncomputable def Tryd.ti35 : TI := ⟨.slice 3, 1, 24, (some .nilslice), false⟩
noncomputable def Tryd.ti36 : TI := ⟨.tuple #[35, 31], 1, 0, none, false⟩
noncomputable def Tryd.ti37 : TI := ⟨.func #[26, 29] #[35, 31] false, 1, 8, (some .nilFunc), false⟩
noncomputable def Tryd.ti38 : TI := ⟨.func #[35, 35] #[4] false, 1, 8, (some .nilFunc), false⟩
noncomputable def Tryd.ti39 : TI := ⟨.func #[26, 3, 29] #[3, 31] false, 1, 8, (some .nilFunc), false⟩
noncomputable def Tryd.ti40 : TI := ⟨.func #[] #[4] false, 1, 8, (some .nilFunc), false⟩
noncomputable def Tryd.ti41 : TI := ⟨.func #[26, 27, 30] #[4] false, 1, 8, (some .nilFunc), false⟩
noncomputable def Tryd.ti42 : TI := ⟨.tuple #[4, 31], 1, 0, none, false⟩
noncomputable def Tryd.ti43 : TI := ⟨.func #[26, 3, 24] #[4, 31] false, 1, 8, (some .nilFunc), false⟩
noncomputable def Tryd.ti44 : TI := ⟨.func #[26, 24, 35] #[35, 31] false, 1, 8, (some .nilFunc), false⟩
noncomputable def Tryd.ti45 : TI := ⟨.func #[26, 3, 24, 35] #[4] false, 1, 8, (some .nilFunc), false⟩
noncomputable def Tryd.ti46 : TI := ⟨.tuple #[3, 3, 31], 1, 0, none, false⟩
noncomputable def Tryd.ti47 : TI := ⟨.func #[26, 3, 35] #[3, 3, 31] false, 1, 8, (some .nilFunc), false⟩
noncomputable def Tryd.ti48 : TI := ⟨.func #[26, 3, 35] #[3, 31] false, 1, 8, (some .nilFunc), false⟩
noncomputable def Tryd.ti49 : TI := ⟨.tuple #[24, 31], 1, 0, none, false⟩
noncomputable def Tryd.ti50 : TI := ⟨.func #[26, 3, 35] #[24, 31] false, 1, 8, (some .nilFunc), false⟩
noncomputable def Tryd.ti51 : TI := ⟨.func #[26, 35] #[3, 31] false, 1, 8, (some .nilFunc), false⟩
noncomputable def Tryd.ti52 : TI := ⟨.struct #[⟨ "Days", 3, 0, false, "", "", 0⟩, ⟨ "Fee", 3, 1, false, "", "", 8⟩, ⟨ "Notice", 3, 2, false, "", "", 16⟩], 3, 24, (some (.agg [(.int .i64 (.lit 0)), (.int .i64 (.lit 0)), (.int .i64 (.lit 0))])), true⟩
noncomputable def Tryd.ti53 : TI := ⟨.struct #[⟨ "Days", 3, 0, false, "", "", 0⟩, ⟨ "Fee", 3, 1, false, "", "", 8⟩, ⟨ "Notice", 3, 2, false, "", "", 16⟩], 3, 24, (some (.agg [(.int .i64 (.lit 0)), (.int .i64 (.lit 0)), (.int .i64 (.lit 0))])), true⟩
noncomputable def Tryd.ti54 : TI := ⟨.struct #[⟨ "Kind", 3, 0, false, "", "", 0⟩, ⟨ "First", 3, 1, false, "", "", 8⟩], 2, 16, (some (.agg [(.int .i64 (.lit 0)), (.int .i64 (.lit 0))])), true⟩
noncomputable def Tryd.ti55 : TI := ⟨.struct #[⟨ "Kind", 3, 0, false, "", "", 0⟩, ⟨ "First", 3, 1, false, "", "", 8⟩], 2, 16, (some (.agg [(.int .i64 (.lit 0)), (.int .i64 (.lit 0))])), true⟩
noncomputable def Tryd.ti56 : TI := ⟨.func #[26, 3, 35] #[4] false, 1, 8, (some .nilFunc), false⟩
noncomputable def Tryd.ti57 : TI := ⟨.func #[26, 3, 35, 3] #[35, 31] false, 1, 8, (some .nilFunc), false⟩
noncomputable def Tryd.ti58 : TI := ⟨.func #[26, 3, 35, 3] #[4] false, 1, 8, (some .nilFunc), false⟩
noncomputable def Tryd.ti59 : TI := ⟨.func #[3, 3] #[3] false, 1, 8, (some .nilFunc), false⟩
noncomputable def Tryd.ti60 : TI := ⟨.func #[26] #[4] false, 1, 8, (some .nilFunc), false⟩
noncomputable def Tryd.ti61 : TI := ⟨.tuple #[35, 35], 1, 0, none, false⟩
noncomputable def Tryd.ti62 : TI := ⟨.func #[26, 24] #[35, 35] false, 1, 8, (some .nilFunc), false⟩
noncomputable def Tryd.ti63 : TI := ⟨.func #[3, 3] #[4] false, 1, 8, (some .nilFunc), false⟩
noncomputable def Tryd.ti64 : TI := ⟨.func #[26, 3] #[4] false, 1, 8, (some .nilFunc), false⟩
noncomputable def Tryd.ti65 : TI := ⟨.func #[3, 3] #[29] false, 1, 8, (some .nilFunc), false⟩
noncomputable def Tryd.ti66 : TI := ⟨.func #[26, 27] #[4] false, 1, 8, (some .nilFunc), false⟩
noncomputable def Tryd.ti67 : TI := ⟨.array 4 3, 4, 32, (some (.agg [(.int .i64 (.lit 0)), (.int .i64 (.lit 0)), (.int .i64 (.lit 0)), (.int .i64 (.lit 0))])), true⟩
noncomputable def Tryd.ti68 : TI := ⟨.func #[29, 3] #[3] false, 1, 8, (some .nilFunc), false⟩
noncomputable def Tryd.ti69 : TI := ⟨.func #[26, 67] #[4] false, 1, 8, (some .nilFunc), false⟩
noncomputable def Tryd.ti70 : TI := ⟨.func #[35, 3] #[4] false, 1, 8, (some .nilFunc), false⟩
noncomputable def Tryd.ti71 : TI := ⟨.tuple #[24, 4], 1, 0, none, false⟩
noncomputable def Tryd.ti72 : TI := ⟨.func #[26, 3, 35, 35] #[24, 4] false, 1, 8, (some .nilFunc), false⟩
noncomputable def Tryd.ti73 : TI := ⟨.func #[26, 3, 24] #[4] false, 1, 8, (some .nilFunc), false⟩
noncomputable def Tryd.ti74 : TI := ⟨.func #[26, 24] #[3] false, 1, 8, (some .nilFunc), false⟩
noncomputable def Tryd.ti75 : TI := ⟨.func #[26, 3, 35, 35] #[4] false, 1, 8, (some .nilFunc), false⟩
noncomputable def Tryd.ti76 : TI := ⟨.func #[3, 3, 3] #[4] false, 1, 8, (some .nilFunc), false⟩
noncomputable def Tryd.ti77 : TI := ⟨.func #[26, 35, 3] #[4] false, 1, 8, (some .nilFunc), false⟩
noncomputable def Tryd.ti78 : TI := ⟨.func #[26, 3, 35, 67] #[4] false, 1, 8, (some .nilFunc), false⟩
noncomputable def Tryd.ti79 : TI := ⟨.array 2 3, 2, 16, (some (.agg [(.int .i64 (.lit 0)), (.int .i64 (.lit 0))])), true⟩
noncomputable def Tryd.ti80 : TI := ⟨.func #[35, 3] #[3] false, 1, 8, (some .nilFunc), false⟩
noncomputable def Tryd.ti81 : TI := ⟨.func #[26, 3, 35, 79] #[4] false, 1, 8, (some .nilFunc), false⟩
noncomputable def Tryd.ti82 : TI := ⟨.func #[] #[26] false, 1, 8, (some .nilFunc), false⟩
noncomputable def Tryd.ti83 : TI := ⟨.slice 26, 1, 24, (some .nilslice), false⟩
noncomputable def Tryd.ti84 : TI := ⟨.func #[3, 3] #[55] false, 1, 8, (some .nilFunc), false⟩
noncomputable def Tryd.ti85 : TI := ⟨.slice 35, 1, 24, (some .nilslice), false⟩
noncomputable def Tryd.ti86 : TI := ⟨.slice 67, 1, 24, (some .nilslice), false⟩
noncomputable def Tryd.ti87 : TI := ⟨.func #[] #[35] false, 1, 8, (some .nilFunc), false⟩
noncomputable def Tryd.ti88 : TI := ⟨.struct #[⟨ "LicenceTown", 26, 0, true, "", "", 0⟩], 6, 96, (some (.agg [.nilslice, (.int .i64 (.lit 0)), .nilslice, (.int .i64 (.lit 0)), (.int .i64 (.lit 0)), .nilslice])), true⟩
noncomputable def Tryd.ti89 : TI := ⟨.struct #[⟨ "LicenceTown", 26, 0, true, "", "", 0⟩], 6, 96, (some (.agg [.nilslice, (.int .i64 (.lit 0)), .nilslice, (.int .i64 (.lit 0)), (.int .i64 (.lit 0)), .nilslice])), true⟩
noncomputable def Tryd.ti90 : TI := ⟨.tuple #[89, 31], 1, 0, none, false⟩
noncomputable def Tryd.ti91 : TI := ⟨.func #[26] #[89, 31] false, 1, 8, (some .nilFunc), false⟩
noncomputable def Tryd.ti92 : TI := ⟨.func #[3] #[4] false, 1, 8, (some .nilFunc), false⟩
noncomputable def Tryd.ti93 : TI := ⟨.func #[95] #[3] false, 1, 8, (some .nilFunc), false⟩
noncomputable def Tryd.ti94 : TI := ⟨.struct #[⟨ "day", 3, 0, false, "", "bioscope/licence", 0⟩, ⟨ "film", 3, 1, false, "", "bioscope/licence", 8⟩, ⟨ "minute", 3, 2, false, "", "bioscope/licence", 16⟩], 3, 24, (some (.agg [(.int .i64 (.lit 0)), (.int .i64 (.lit 0)), (.int .i64 (.lit 0))])), true⟩
noncomputable def Tryd.ti95 : TI := ⟨.struct #[⟨ "day", 3, 0, false, "", "bioscope/licence", 0⟩, ⟨ "film", 3, 1, false, "", "bioscope/licence", 8⟩, ⟨ "minute", 3, 2, false, "", "bioscope/licence", 16⟩], 3, 24, (some (.agg [(.int .i64 (.lit 0)), (.int .i64 (.lit 0)), (.int .i64 (.lit 0))])), true⟩
noncomputable def Tryd.ti96 : TI := ⟨.func #[26, 4] #[31] false, 1, 8, (some .nilFunc), false⟩
noncomputable def Tryd.ti97 : TI := ⟨.func #[26, 24, 3] #[4] false, 1, 8, (some .nilFunc), false⟩
noncomputable def Tryd.ti98 : TI := ⟨.func #[29, 3, 3] #[4] false, 1, 8, (some .nilFunc), false⟩
noncomputable def Tryd.ti99 : TI := ⟨.func #[26, 24] #[4] false, 1, 8, (some .nilFunc), false⟩
noncomputable def Tryd.ti100 : TI := ⟨.func #[29] #[4] false, 1, 8, (some .nilFunc), false⟩
noncomputable def Tryd.ti101 : TI := ⟨.func #[29] #[35] false, 1, 8, (some .nilFunc), false⟩
noncomputable def Tryd.ti102 : TI := ⟨.func #[3, 29] #[3] false, 1, 8, (some .nilFunc), false⟩
noncomputable def Tryd.ti103 : TI := ⟨.func #[3, 24] #[4] false, 1, 8, (some .nilFunc), false⟩
noncomputable def Tryd.ti104 : TI := ⟨.func #[35] #[4] false, 1, 8, (some .nilFunc), false⟩
noncomputable def Tryd.ti105 : TI := ⟨.func #[24] #[4] false, 1, 8, (some .nilFunc), false⟩
noncomputable def Tryd.ti106 : TI := ⟨.array 8 4, 8, 8, (some (.agg [(.bool (.lit false)), (.bool (.lit false)), (.bool (.lit false)), (.bool (.lit false)), (.bool (.lit false)), (.bool (.lit false)), (.bool (.lit false)), (.bool (.lit false))])), true⟩
noncomputable def Tryd.ti107 : TI := ⟨.array 8 4, 8, 8, (some (.agg [(.bool (.lit false)), (.bool (.lit false)), (.bool (.lit false)), (.bool (.lit false)), (.bool (.lit false)), (.bool (.lit false)), (.bool (.lit false)), (.bool (.lit false))])), true⟩
noncomputable def Tryd.ti108 : TI := ⟨.func #[24, 35] #[107] false, 1, 8, (some .nilFunc), false⟩
noncomputable def Tryd.ti109 : TI := ⟨.func #[35, 4] #[35] false, 1, 8, (some .nilFunc), false⟩
noncomputable def Tryd.ti110 : TI := ⟨.func #[26, 3, 35] #[3] false, 1, 8, (some .nilFunc), false⟩
noncomputable def Tryd.ti111 : TI := ⟨.struct #[⟨ "some", 4, 0, false, "", "bioscope/licence", 0⟩, ⟨ "plan", 24, 1, false, "", "bioscope/licence", 8⟩, ⟨ "fee", 3, 2, false, "", "bioscope/licence", 32⟩, ⟨ "days", 107, 3, false, "", "bioscope/licence", 40⟩], 11, 48, (some (.agg [(.bool (.lit false)), .nilslice, (.int .i64 (.lit 0)), (.bool (.lit false)), (.bool (.lit false)), (.bool (.lit false)), (.bool (.lit false)), (.bool (.lit false)), (.bool (.lit false)), (.bool (.lit false)), (.bool (.lit false))])), true⟩
noncomputable def Tryd.ti112 : TI := ⟨.struct #[⟨ "some", 4, 0, false, "", "bioscope/licence", 0⟩, ⟨ "plan", 24, 1, false, "", "bioscope/licence", 8⟩, ⟨ "fee", 3, 2, false, "", "bioscope/licence", 32⟩, ⟨ "days", 107, 3, false, "", "bioscope/licence", 40⟩], 11, 48, (some (.agg [(.bool (.lit false)), .nilslice, (.int .i64 (.lit 0)), (.bool (.lit false)), (.bool (.lit false)), (.bool (.lit false)), (.bool (.lit false)), (.bool (.lit false)), (.bool (.lit false)), (.bool (.lit false)), (.bool (.lit false))])), true⟩
noncomputable def Tryd.ti113 : TI := ⟨.tuple #[112, 31], 1, 0, none, false⟩
noncomputable def Tryd.ti114 : TI := ⟨.func #[26, 3, 35] #[112, 31] false, 1, 8, (some .nilFunc), false⟩
noncomputable def Tryd.ti115 : TI := ⟨.func #[35] #[3, 31] false, 1, 8, (some .nilFunc), false⟩
noncomputable def Tryd.ti116 : TI := ⟨.func #[3, 29] #[4] false, 1, 8, (some .nilFunc), false⟩
noncomputable def Tryd.ti117 : TI := ⟨.func #[3, 35, 3] #[35] false, 1, 8, (some .nilFunc), false⟩
noncomputable def Tryd.ti118 : TI := ⟨.func #[3, 3] #[35] false, 1, 8, (some .nilFunc), false⟩
noncomputable def Tryd.ti119 : TI := ⟨.func #[89, 95] #[4] false, 1, 8, (some .nilFunc), false⟩
noncomputable def Tryd.ti120 : TI := ⟨.func #[95] #[4] false, 1, 8, (some .nilFunc), false⟩
noncomputable def Tryd.ti121 : TI := ⟨.struct #[⟨ "why", 3, 0, false, "", "bioscope/licence", 0⟩, ⟨ "holds", 119, 1, false, "", "bioscope/licence", 8⟩], 2, 16, (some (.agg [(.int .i64 (.lit 0)), .nilFunc])), true⟩
noncomputable def Tryd.ti122 : TI := ⟨.array 4 121, 8, 64, (some (.agg [(.int .i64 (.lit 0)), .nilFunc, (.int .i64 (.lit 0)), .nilFunc, (.int .i64 (.lit 0)), .nilFunc, (.int .i64 (.lit 0)), .nilFunc])), true⟩
noncomputable def Tryd.ti123 : TI := ⟨.func #[26, 55] #[3] false, 1, 8, (some .nilFunc), false⟩
noncomputable def Tryd.ti124 : TI := ⟨.func #[29, 3] #[4] false, 1, 8, (some .nilFunc), false⟩
noncomputable def Tryd.ti125 : TI := ⟨.func #[26, 55] #[4] false, 1, 8, (some .nilFunc), false⟩
noncomputable def Tryd.ti126 : TI := ⟨.func #[26, 55, 55] #[4] false, 1, 8, (some .nilFunc), false⟩
noncomputable def Tryd.ti127 : TI := ⟨.func #[92] #[] false, 1, 8, (some .nilFunc), false⟩
noncomputable def Tryd.ti128 : TI := ⟨.func #[92] #[] false, 1, 8, (some .nilFunc), false⟩
noncomputable def Tryd.ti129 : TI := ⟨.func #[29] #[128] false, 1, 8, (some .nilFunc), false⟩
noncomputable def Tryd.ti130 : TI := ⟨.func #[35] #[3] true, 1, 8, (some .nilFunc), false⟩
noncomputable def Tryd.ti131 : TI := ⟨.func #[55] #[4] false, 1, 8, (some .nilFunc), false⟩
noncomputable def Tryd.ti132 : TI := ⟨.func #[55, 24] #[4] false, 1, 8, (some .nilFunc), false⟩
noncomputable def Tryd.ti133 : TI := ⟨.func #[55] #[3] false, 1, 8, (some .nilFunc), false⟩
noncomputable def Tryd.ti134 : TI := ⟨.struct #[⟨ "t", 26, 0, false, "", "bioscope/bioscoperef05", 0⟩, ⟨ "today", 3, 6, false, "", "bioscope/bioscoperef05", 96⟩, ⟨ "wanted", 35, 7, false, "", "bioscope/bioscoperef05", 104⟩, ⟨ "known", 35, 8, false, "", "bioscope/bioscoperef05", 128⟩], 9, 152, (some (.agg [.nilslice, (.int .i64 (.lit 0)), .nilslice, (.int .i64 (.lit 0)), (.int .i64 (.lit 0)), .nilslice, (.int .i64 (.lit 0)), .nilslice, .nilslice])), true⟩
noncomputable def Tryd.ti135 : TI := ⟨.struct #[⟨ "t", 26, 0, false, "", "bioscope/bioscoperef05", 0⟩, ⟨ "today", 3, 6, false, "", "bioscope/bioscoperef05", 96⟩, ⟨ "wanted", 35, 7, false, "", "bioscope/bioscoperef05", 104⟩, ⟨ "known", 35, 8, false, "", "bioscope/bioscoperef05", 128⟩], 9, 152, (some (.agg [.nilslice, (.int .i64 (.lit 0)), .nilslice, (.int .i64 (.lit 0)), (.int .i64 (.lit 0)), .nilslice, (.int .i64 (.lit 0)), .nilslice, .nilslice])), true⟩
noncomputable def Tryd.ti136 : TI := ⟨.func #[135, 3, 3] #[3] false, 1, 8, (some .nilFunc), false⟩
noncomputable def Tryd.ti137 : TI := ⟨.func #[3, 35] #[112, 31] false, 1, 8, (some .nilFunc), false⟩
noncomputable def Tryd.ti138 : TI := ⟨.func #[3, 92] #[3] false, 1, 8, (some .nilFunc), false⟩
noncomputable def Tryd.ti139 : TI := ⟨.func #[112, 112] #[4] false, 1, 8, (some .nilFunc), false⟩
noncomputable def Tryd.ti140 : TI := ⟨.struct #[⟨ "today", 3, 0, false, "", "bioscope/licence", 0⟩, ⟨ "days", 35, 1, false, "", "bioscope/licence", 8⟩, ⟨ "better", 139, 2, false, "", "bioscope/licence", 32⟩], 3, 40, (some (.agg [(.int .i64 (.lit 0)), .nilslice, .nilFunc])), true⟩
noncomputable def Tryd.ti141 : TI := ⟨.struct #[⟨ "today", 3, 0, false, "", "bioscope/licence", 0⟩, ⟨ "days", 35, 1, false, "", "bioscope/licence", 8⟩, ⟨ "better", 139, 2, false, "", "bioscope/licence", 32⟩], 3, 40, (some (.agg [(.int .i64 (.lit 0)), .nilslice, .nilFunc])), true⟩
noncomputable def Tryd.ti142 : TI := ⟨.func #[3, 35, 139] #[141] false, 1, 8, (some .nilFunc), false⟩
noncomputable def Tryd.ti143 : TI := ⟨.func #[3] #[112] false, 1, 8, (some .nilFunc), false⟩
noncomputable def Tryd.ti144 : TI := ⟨.func #[141] #[143] false, 1, 8, (some .nilFunc), false⟩
noncomputable def Tryd.ti145 : TI := ⟨.array 6 3, 6, 48, (some (.agg [(.int .i64 (.lit 0)), (.int .i64 (.lit 0)), (.int .i64 (.lit 0)), (.int .i64 (.lit 0)), (.int .i64 (.lit 0)), (.int .i64 (.lit 0))])), true⟩
noncomputable def Tryd.ti146 : TI := ⟨.array 6 29, 12, 96, (some (.agg [(.int .i64 (.lit 0)), (.int .i64 (.lit 0)), (.int .i64 (.lit 0)), (.int .i64 (.lit 0)), (.int .i64 (.lit 0)), (.int .i64 (.lit 0)), (.int .i64 (.lit 0)), (.int .i64 (.lit 0)), (.int .i64 (.lit 0)), (.int .i64 (.lit 0)), (.int .i64 (.lit 0)), (.int .i64 (.lit 0))])), true⟩
noncomputable def Tryd.ti147 : TI := ⟨.int .u64, 1, 8, (some (.int .u64 (.lit 0))), false⟩
noncomputable def Tryd.ti148 : TI := ⟨.map 151 112, 1, 8, (some .nilmap), false⟩
noncomputable def Tryd.ti149 : TI := ⟨.func #[151] #[112] false, 1, 8, (some .nilFunc), false⟩
noncomputable def Tryd.ti150 : TI := ⟨.struct #[⟨ "day", 3, 0, false, "", "bioscope/licence", 0⟩, ⟨ "next", 3, 1, false, "", "bioscope/licence", 8⟩, ⟨ "leave", 3, 2, false, "", "bioscope/licence", 16⟩], 3, 24, (some (.agg [(.int .i64 (.lit 0)), (.int .i64 (.lit 0)), (.int .i64 (.lit 0))])), true⟩
noncomputable def Tryd.ti151 : TI := ⟨.struct #[⟨ "day", 3, 0, false, "", "bioscope/licence", 0⟩, ⟨ "next", 3, 1, false, "", "bioscope/licence", 8⟩, ⟨ "leave", 3, 2, false, "", "bioscope/licence", 16⟩], 3, 24, (some (.agg [(.int .i64 (.lit 0)), (.int .i64 (.lit 0)), (.int .i64 (.lit 0))])), true⟩
noncomputable def Tryd.ti152 : TI := ⟨.tuple #[112, 4], 1, 0, none, false⟩
noncomputable def Tryd.ti153 : TI := ⟨.func #[162] #[] false, 1, 8, (some .nilFunc), false⟩
noncomputable def Tryd.ti154 : TI := ⟨.func #[162] #[] false, 1, 8, (some .nilFunc), false⟩
noncomputable def Tryd.ti155 : TI := ⟨.func #[141, 151] #[154] false, 1, 8, (some .nilFunc), false⟩
noncomputable def Tryd.ti156 : TI := ⟨.func #[] #[3] false, 1, 8, (some .nilFunc), false⟩
noncomputable def Tryd.ti157 : TI := ⟨.func #[55, 107, 112] #[112] false, 1, 8, (some .nilFunc), false⟩
noncomputable def Tryd.ti158 : TI := ⟨.array 3 29, 6, 48, (some (.agg [(.int .i64 (.lit 0)), (.int .i64 (.lit 0)), (.int .i64 (.lit 0)), (.int .i64 (.lit 0)), (.int .i64 (.lit 0)), (.int .i64 (.lit 0))])), true⟩
noncomputable def Tryd.ti159 : TI := ⟨.func #[55, 3] #[4] false, 1, 8, (some .nilFunc), false⟩
noncomputable def Tryd.ti160 : TI := ⟨.func #[23, 100] #[4] false, 1, 8, (some .nilFunc), false⟩
noncomputable def Tryd.ti161 : TI := ⟨.int .i64, 1, 8, (some (.int .i64 (.lit 0))), false⟩
noncomputable def Tryd.ti162 : TI := ⟨.func #[55, 107] #[4] false, 1, 8, (some .nilFunc), false⟩
noncomputable def Tryd.ti163 : TI := ⟨.func #[55, 141, 3] #[107] false, 1, 8, (some .nilFunc), false⟩
noncomputable def Tryd.ti164 : TI := ⟨.func #[23, 100] #[3] false, 1, 8, (some .nilFunc), false⟩
noncomputable def Tryd.ti165 : TI := ⟨.func #[] #[9] false, 1, 8, (some .nilFunc), false⟩
noncomputable def Tryd.ti166 : TI := ⟨.struct #[⟨ "_interface", 17, 0, false, "", "runtime", 0⟩, ⟨ "concrete", 17, 1, false, "", "runtime", 8⟩, ⟨ "asserted", 17, 2, false, "", "runtime", 16⟩, ⟨ "missingMethod", 9, 3, false, "", "runtime", 24⟩], 4, 40, none, false⟩
noncomputable def Tryd.ti167 : TI := ⟨.struct #[⟨ "_interface", 17, 0, false, "", "runtime", 0⟩, ⟨ "concrete", 17, 1, false, "", "runtime", 8⟩, ⟨ "asserted", 17, 2, false, "", "runtime", 16⟩, ⟨ "missingMethod", 9, 3, false, "", "runtime", 24⟩], 4, 40, none, false⟩
noncomputable def Tryd.ti168 : TI := ⟨.array 0 16, 0, 0, (some (.agg [])), true⟩
noncomputable def Tryd.ti169 : TI := ⟨.struct #[⟨ "_", 168, 0, false, "", "runtime", 0⟩], 0, 0, (some (.agg [])), false⟩
noncomputable def Tryd.ti170 : TI := ⟨.struct #[⟨ "_", 168, 0, false, "", "runtime", 0⟩], 0, 0, (some (.agg [])), false⟩
noncomputable def Tryd.ti171 : TI := ⟨.int .u32, 1, 4, (some (.int .u32 (.lit 0))), false⟩
noncomputable def Tryd.ti172 : TI := ⟨.int .u8, 1, 1, (some (.int .u8 (.lit 0))), false⟩
noncomputable def Tryd.ti173 : TI := ⟨.int .u8, 1, 1, (some (.int .u8 (.lit 0))), false⟩
noncomputable def Tryd.ti174 : TI := ⟨.func #[180, 180] #[4] false, 1, 8, (some .nilFunc), false⟩
noncomputable def Tryd.ti175 : TI := ⟨.pointer 5, 1, 8, (some .nilptr), false⟩
noncomputable def Tryd.ti176 : TI := ⟨.int .i32, 1, 4, (some (.int .i32 (.lit 0))), false⟩
noncomputable def Tryd.ti177 : TI := ⟨.int .i32, 1, 4, (some (.int .i32 (.lit 0))), false⟩
noncomputable def Tryd.ti178 : TI := ⟨.struct #[⟨ "Size_", 12, 0, false, "", "", 0⟩, ⟨ "PtrBytes", 12, 1, false, "", "", 8⟩, ⟨ "Hash", 171, 2, false, "", "", 16⟩, ⟨ "TFlag", 172, 3, false, "", "", 20⟩, ⟨ "Align_", 5, 4, false, "", "", 21⟩, ⟨ "FieldAlign_", 5, 5, false, "", "", 22⟩, ⟨ "Kind_", 173, 6, false, "", "", 23⟩, ⟨ "Equal", 174, 7, false, "", "", 24⟩, ⟨ "GCData", 175, 8, false, "", "", 32⟩, ⟨ "Str", 176, 9, false, "", "", 40⟩, ⟨ "PtrToThis", 177, 10, false, "", "", 44⟩], 11, 48, (some (.agg [(.int .u64 (.lit 0)), (.int .u64 (.lit 0)), (.int .u32 (.lit 0)), (.int .u8 (.lit 0)), (.int .u8 (.lit 0)), (.int .u8 (.lit 0)), (.int .u8 (.lit 0)), .nilFunc, .nilptr, (.int .i32 (.lit 0)), (.int .i32 (.lit 0))])), false⟩
noncomputable def Tryd.ti179 : TI := ⟨.struct #[⟨ "Size_", 12, 0, false, "", "", 0⟩, ⟨ "PtrBytes", 12, 1, false, "", "", 8⟩, ⟨ "Hash", 171, 2, false, "", "", 16⟩, ⟨ "TFlag", 172, 3, false, "", "", 20⟩, ⟨ "Align_", 5, 4, false, "", "", 21⟩, ⟨ "FieldAlign_", 5, 5, false, "", "", 22⟩, ⟨ "Kind_", 173, 6, false, "", "", 23⟩, ⟨ "Equal", 174, 7, false, "", "", 24⟩, ⟨ "GCData", 175, 8, false, "", "", 32⟩, ⟨ "Str", 176, 9, false, "", "", 40⟩, ⟨ "PtrToThis", 177, 10, false, "", "", 44⟩], 11, 48, (some (.agg [(.int .u64 (.lit 0)), (.int .u64 (.lit 0)), (.int .u32 (.lit 0)), (.int .u8 (.lit 0)), (.int .u8 (.lit 0)), (.int .u8 (.lit 0)), (.int .u8 (.lit 0)), .nilFunc, .nilptr, (.int .i32 (.lit 0)), (.int .i32 (.lit 0))])), false⟩
noncomputable def Tryd.tt : PT TI := (.node (some Tryd.ti0) (.node (some Tryd.ti1) (.node (some Tryd.ti3) (.node (some Tryd.ti7) (.node (some Tryd.ti15) (.node (some Tryd.ti31) (.node (some Tryd.ti63) (.node (some Tryd.ti127) .nil .nil) .nil) (.node (some Tryd.ti95) (.node (some Tryd.ti159) .nil .nil) .nil)) (.node (some Tryd.ti47) (.node (some Tryd.ti79) (.node (some Tryd.ti143) .nil .nil) .nil) (.node (some Tryd.ti111) (.node (some Tryd.ti175) .nil .nil) .nil))) (.node (some Tryd.ti23) (.node (some Tryd.ti39) (.node (some Tryd.ti71) (.node (some Tryd.ti135) .nil .nil) .nil) (.node (some Tryd.ti103) (.node (some Tryd.ti167) .nil .nil) .nil)) (.node (some Tryd.ti55) (.node (some Tryd.ti87) (.node (some Tryd.ti151) .nil .nil) .nil) (.node (some Tryd.ti119) .nil .nil)))) (.node (some Tryd.ti11) (.node (some Tryd.ti19) (.node (some Tryd.ti35) (.node (some Tryd.ti67) (.node (some Tryd.ti131) .nil .nil) .nil) (.node (some Tryd.ti99) (.node (some Tryd.ti163) .nil .nil) .nil)) (.node (some Tryd.ti51) (.node (some Tryd.ti83) (.node (some Tryd.ti147) .nil .nil) .nil) (.node (some Tryd.ti115) (.node (some Tryd.ti179) .nil .nil) .nil))) (.node (some Tryd.ti27) (.node (some Tryd.ti43) (.node (some Tryd.ti75) (.node (some Tryd.ti139) .nil .nil) .nil) (.node (some Tryd.ti107) (.node (some Tryd.ti171) .nil .nil) .nil)) (.node (some Tryd.ti59) (.node (some Tryd.ti91) (.node (some Tryd.ti155) .nil .nil) .nil) (.node (some Tryd.ti123) .nil .nil))))) (.node (some Tryd.ti5) (.node (some Tryd.ti9) (.node (some Tryd.ti17) (.node (some Tryd.ti33) (.node (some Tryd.ti65) (.node (some Tryd.ti129) .nil .nil) .nil) (.node (some Tryd.ti97) (.node (some Tryd.ti161) .nil .nil) .nil)) (.node (some Tryd.ti49) (.node (some Tryd.ti81) (.node (some Tryd.ti145) .nil .nil) .nil) (.node (some Tryd.ti113) (.node (some Tryd.ti177) .nil .nil) .nil))) (.node (some Tryd.ti25) (.node (some Tryd.ti41) (.node (some Tryd.ti73) (.node (some Tryd.ti137) .nil .nil) .nil) (.node (some Tryd.ti105) (.node (some Tryd.ti169) .nil .nil) .nil)) (.node (some Tryd.ti57) (.node (some Tryd.ti89) (.node (some Tryd.ti153) .nil .nil) .nil) (.node (some Tryd.ti121) .nil .nil)))) (.node (some Tryd.ti13) (.node (some Tryd.ti21) (.node (some Tryd.ti37) (.node (some Tryd.ti69) (.node (some Tryd.ti133) .nil .nil) .nil) (.node (some Tryd.ti101) (.node (some Tryd.ti165) .nil .nil) .nil)) (.node (some Tryd.ti53) (.node (some Tryd.ti85) (.node (some Tryd.ti149) .nil .nil) .nil) (.node (some Tryd.ti117) .nil .nil))) (.node (some Tryd.ti29) (.node (some Tryd.ti45) (.node (some Tryd.ti77) (.node (some Tryd.ti141) .nil .nil) .nil) (.node (some Tryd.ti109) (.node (some Tryd.ti173) .nil .nil) .nil)) (.node (some Tryd.ti61) (.node (some Tryd.ti93) (.node (some Tryd.ti157) .nil .nil) .nil) (.node (some Tryd.ti125) .nil .nil)))))) (.node (some Tryd.ti2) (.node (some Tryd.ti4) (.node (some Tryd.ti8) (.node (some Tryd.ti16) (.node (some Tryd.ti32) (.node (some Tryd.ti64) (.node (some Tryd.ti128) .nil .nil) .nil) (.node (some Tryd.ti96) (.node (some Tryd.ti160) .nil .nil) .nil)) (.node (some Tryd.ti48) (.node (some Tryd.ti80) (.node (some Tryd.ti144) .nil .nil) .nil) (.node (some Tryd.ti112) (.node (some Tryd.ti176) .nil .nil) .nil))) (.node (some Tryd.ti24) (.node (some Tryd.ti40) (.node (some Tryd.ti72) (.node (some Tryd.ti136) .nil .nil) .nil) (.node (some Tryd.ti104) (.node (some Tryd.ti168) .nil .nil) .nil)) (.node (some Tryd.ti56) (.node (some Tryd.ti88) (.node (some Tryd.ti152) .nil .nil) .nil) (.node (some Tryd.ti120) .nil .nil)))) (.node (some Tryd.ti12) (.node (some Tryd.ti20) (.node (some Tryd.ti36) (.node (some Tryd.ti68) (.node (some Tryd.ti132) .nil .nil) .nil) (.node (some Tryd.ti100) (.node (some Tryd.ti164) .nil .nil) .nil)) (.node (some Tryd.ti52) (.node (some Tryd.ti84) (.node (some Tryd.ti148) .nil .nil) .nil) (.node (some Tryd.ti116) (.node none .nil .nil) .nil))) (.node (some Tryd.ti28) (.node (some Tryd.ti44) (.node (some Tryd.ti76) (.node (some Tryd.ti140) .nil .nil) .nil) (.node (some Tryd.ti108) (.node (some Tryd.ti172) .nil .nil) .nil)) (.node (some Tryd.ti60) (.node (some Tryd.ti92) (.node (some Tryd.ti156) .nil .nil) .nil) (.node (some Tryd.ti124) .nil .nil))))) (.node (some Tryd.ti6) (.node (some Tryd.ti10) (.node (some Tryd.ti18) (.node (some Tryd.ti34) (.node (some Tryd.ti66) (.node (some Tryd.ti130) .nil .nil) .nil) (.node (some Tryd.ti98) (.node (some Tryd.ti162) .nil .nil) .nil)) (.node (some Tryd.ti50) (.node (some Tryd.ti82) (.node (some Tryd.ti146) .nil .nil) .nil) (.node (some Tryd.ti114) (.node (some Tryd.ti178) .nil .nil) .nil))) (.node (some Tryd.ti26) (.node (some Tryd.ti42) (.node (some Tryd.ti74) (.node (some Tryd.ti138) .nil .nil) .nil) (.node (some Tryd.ti106) (.node (some Tryd.ti170) .nil .nil) .nil)) (.node (some Tryd.ti58) (.node (some Tryd.ti90) (.node (some Tryd.ti154) .nil .nil) .nil) (.node (some Tryd.ti122) .nil .nil)))) (.node (some Tryd.ti14) (.node (some Tryd.ti22) (.node (some Tryd.ti38) (.node (some Tryd.ti70) (.node (some Tryd.ti134) .nil .nil) .nil) (.node (some Tryd.ti102) (.node (some Tryd.ti166) .nil .nil) .nil)) (.node (some Tryd.ti54) (.node (some Tryd.ti86) (.node (some Tryd.ti150) .nil .nil) .nil) (.node (some Tryd.ti118) .nil .nil))) (.node (some Tryd.ti30) (.node (some Tryd.ti46) (.node (some Tryd.ti78) (.node (some Tryd.ti142) .nil .nil) .nil) (.node (some Tryd.ti110) (.node (some Tryd.ti174) .nil .nil) .nil)) (.node (some Tryd.ti62) (.node (some Tryd.ti94) (.node (some Tryd.ti158) .nil .nil) .nil) (.node (some Tryd.ti126) .nil .nil)))))))
noncomputable def Tryd.kp8 : List Nat := [0, 1, 2, 3, 4, 5, 6, 7, 8, 9, 10, 11, 12, 13, 37]
noncomputable def Tryd.cf8 : CF := ⟨2, (cSeq (cOps [⟨some 2, true, none, iBox 26 (.t 0)⟩,
 ⟨some 3, true, none, iBox 67 (.t 1)⟩,
 ⟨some 4, true, none, iMov (.c (.bool (.lit false)))⟩])
 (cSeq (dOps 0 [⟨⟨some 14, false, none, iIaddrA 1 4 (.t 3) (.c (.int .i64 (.lit 0)))⟩, [3], false, 0, 0, none, []⟩,
 ⟨⟨some 15, false, none, iLoad (.t 14)⟩, [14], false, 0, 0, none, []⟩,
 ⟨⟨some 16, false, none, iCall (.c (.func (.func 35) [] [])) [(.t 15), (.c (.int .i64 (.lit 1440)))]⟩, [15], true, 0, 0, none, []⟩,
 ⟨⟨some 17, false, none, iIaddrA 1 4 (.t 3) (.c (.int .i64 (.lit 1)))⟩, [3], false, 0, 1, none, []⟩,
 ⟨⟨some 18, false, none, iLoad (.t 17)⟩, [17], false, 0, 1, none, []⟩,
 ⟨⟨some 19, false, none, iCall (.c (.func (.func 35) [] [])) [(.t 18), (.c (.int .i64 (.lit 1440)))]⟩, [18], true, 1, 0, none, []⟩,
 ⟨⟨some 5, true, none, iMov (.t 16)⟩, [16], false, 2, 2, none, []⟩,
 ⟨⟨some 6, true, none, iMov (.t 19)⟩, [19], false, 2, 2, none, []⟩])
 (cSeq (cOps [⟨some 20, false, none, iMov (.t 6)⟩,
 ⟨some 21, false, none, iMov (.t 6)⟩,
 ⟨some 22, false, none, iIaddrA 1 4 (.t 3) (.c (.int .i64 (.lit 2)))⟩,
 ⟨some 23, false, none, iLoad (.t 22)⟩,
 ⟨some 24, false, none, iCall (.c (.func (.func 35) [] [])) [(.t 23), (.c (.int .i64 (.lit 90)))]⟩,
 ⟨some 25, false, none, iArith .add (.t 21) (.t 24)⟩,
 ⟨some 26, false, none, iMin [(.c (.int .i64 (.lit 1439))), (.t 25)]⟩,
 ⟨some 27, false, none, iCall (.c (.func (.func 40) [] [])) [(.t 20), (.t 26)]⟩,
 ⟨some 7, true, none, iAlloc 29 [(.int .i64 (.lit 0)), (.int .i64 (.lit 0))]⟩,
 ⟨none, false, none, iStore 2 (.t 7) (.t 27)⟩])
 (cSeq (cOps [⟨some 29, false, none, iLoadN 6 (.t 2)⟩,
 ⟨some 30, false, none, iMov (.t 5)⟩,
 ⟨some 31, false, none, iLoadN 2 (.t 7)⟩,
 ⟨some 32, false, none, iCall (.c (.func (.func 21) [] [])) [(.t 29), (.t 30), (.t 31)]⟩,
 ⟨some 28, false, none, iMov (.t 32)⟩,
 ⟨some 33, false, none, iExtract 0 (.t 28)⟩,
 ⟨some 34, false, none, iExtract 1 (.t 28)⟩,
 ⟨some 8, true, none, iMov (.t 33)⟩,
 ⟨some 9, true, none, iMov (.t 34)⟩])
 (cSeq (cSeq (cOps [⟨some 35, false, none, iLoadN 6 (.t 2)⟩,
 ⟨some 36, false, none, iCall (.c (.func (.func 36) [] [])) [(.t 35)]⟩,
 ⟨some 37, true, none, iNot (.t 36)⟩])
 (cCond (.t 37) (cSeq (cOps [⟨some 38, false, none, iMov (.t 9)⟩,
 ⟨some 39, false, none, iCmp .eql (.t 38) (.c (.int .i64 (.lit 50)))⟩,
 ⟨some 40, false, none, iMov (.t 39)⟩,
 ⟨some 41, false, some (40, true), iMov (.t 8)⟩,
 ⟨some 42, false, some (40, true), iCmp .eql (.t 41) (.c (.int .i64 (.lit 0)))⟩,
 ⟨some 43, false, none, iPick (.t 40) (.t 42) (.c (.bool (.lit false)))⟩,
 ⟨some 44, false, none, iMov (.t 43)⟩,
 ⟨some 45, false, some (44, true), iCall (.c (.func (.func 23) [] [])) []⟩,
 ⟨some 46, false, none, iPick (.t 44) (.t 45) (.c (.bool (.lit false)))⟩,
 ⟨some 4, true, none, iMov (.t 46)⟩])
 cRet) cSkip))
 (cSeq (cOps [⟨some 47, false, none, iLoadN 2 (.t 7)⟩,
 ⟨some 48, false, none, iIaddrA 1 4 (.t 3) (.c (.int .i64 (.lit 3)))⟩,
 ⟨some 49, false, none, iLoad (.t 48)⟩,
 ⟨some 50, false, none, iCall (.c (.func (.func 41) [] [])) [(.t 47), (.t 49)]⟩,
 ⟨some 10, true, none, iMov (.t 50)⟩])
 (cSeq (cOps [⟨some 51, false, none, iMov (.t 5)⟩,
 ⟨some 52, false, none, iMov (.t 10)⟩,
 ⟨some 53, false, none, iArith .add (.t 51) (.t 52)⟩,
 ⟨some 54, false, none, iFaddr 4 (.t 2)⟩,
 ⟨some 55, false, none, iLoad (.t 54)⟩,
 ⟨some 56, false, none, iCmp .leq (.t 53) (.t 55)⟩,
 ⟨some 11, true, none, iMov (.t 56)⟩])
 (cSeq (dOps 0 [⟨⟨some 58, false, none, iLoadN 6 (.t 2)⟩, [2], false, 0, 1, none, []⟩,
 ⟨⟨some 59, false, none, iMov (.t 5)⟩, [5], false, 0, 1, none, []⟩,
 ⟨⟨some 60, false, none, iMov (.t 10)⟩, [10], false, 0, 0, none, []⟩,
 ⟨⟨some 61, false, none, iMov (.t 10)⟩, [10], false, 0, 0, none, []⟩,
 ⟨⟨some 62, false, none, iCall (.c (.func (.func 40) [] [])) [(.t 60), (.t 61)]⟩, [60, 61], true, 0, 0, none, []⟩,
 ⟨⟨some 63, false, none, iCall (.c (.func (.func 21) [] [])) [(.t 58), (.t 59), (.t 62)]⟩, [58, 59, 62], true, 1, 0, none, []⟩,
 ⟨⟨some 57, false, none, iMov (.t 63)⟩, [63], false, 2, 2, none, []⟩,
 ⟨⟨some 64, false, none, iExtract 0 (.t 57)⟩, [57], false, 2, 2, none, []⟩,
 ⟨⟨some 65, false, none, iExtract 1 (.t 57)⟩, [57], false, 2, 2, none, []⟩,
 ⟨⟨some 12, true, none, iMov (.t 64)⟩, [64], false, 2, 2, none, []⟩,
 ⟨⟨some 13, true, none, iMov (.t 65)⟩, [65], false, 2, 2, none, []⟩])
 (cSeq (cOps [⟨some 66, false, none, iMov (.t 9)⟩,
 ⟨some 67, false, none, iCmp .eql (.t 66) (.c (.int .i64 (.lit 0)))⟩,
 ⟨some 68, false, none, iMov (.t 67)⟩,
 ⟨some 69, false, some (68, true), iMov (.t 13)⟩,
 ⟨some 70, false, some (68, true), iCmp .eql (.t 69) (.c (.int .i64 (.lit 0)))⟩,
 ⟨some 71, false, none, iPick (.t 68) (.t 70) (.c (.bool (.lit false)))⟩,
 ⟨some 72, false, none, iMov (.t 71)⟩,
 ⟨some 73, false, some (72, true), iMov (.t 12)⟩,
 ⟨some 74, false, some (72, true), iCmp .eql (.t 73) (.c (.int .i64 (.lit 2)))⟩,
 ⟨some 75, false, some (72, true), iMov (.t 11)⟩,
 ⟨some 76, false, some (72, true), iEq false false 1 [(0, .bool)] (.t 74) (.t 75)⟩,
 ⟨some 77, false, none, iPick (.t 72) (.t 76) (.c (.bool (.lit false)))⟩,
 ⟨some 78, false, none, iMov (.t 77)⟩,
 ⟨some 79, false, some (78, true), iMov (.t 12)⟩,
 ⟨some 80, false, some (78, true), iCmp .eql (.t 79) (.c (.int .i64 (.lit 0)))⟩,
 ⟨some 81, false, some (78, true), iMov (.t 11)⟩,
 ⟨some 82, false, some (78, true), iNot (.t 81)⟩,
 ⟨some 83, false, some (78, true), iEq false false 1 [(0, .bool)] (.t 80) (.t 82)⟩,
 ⟨some 84, false, none, iPick (.t 78) (.t 83) (.c (.bool (.lit false)))⟩,
 ⟨some 85, false, none, iMov (.t 84)⟩,
 ⟨some 86, false, some (85, true), iMov (.t 8)⟩,
 ⟨some 87, false, some (85, true), iCmp .neq (.t 86) (.c (.int .i64 (.lit 2)))⟩,
 ⟨some 88, false, some (85, true), iMov (.t 87)⟩,
 ⟨some 89, false, some (88, false), iMov (.t 11)⟩,
 ⟨some 90, false, some (85, true), iPick (.t 88) (.c (.bool (.lit true))) (.t 89)⟩,
 ⟨some 91, false, none, iPick (.t 85) (.t 90) (.c (.bool (.lit false)))⟩,
 ⟨some 92, false, none, iMov (.t 91)⟩,
 ⟨some 93, false, some (92, true), iMov (.t 8)⟩,
 ⟨some 94, false, some (92, true), iCmp .neq (.t 93) (.c (.int .i64 (.lit 0)))⟩,
 ⟨some 95, false, some (92, true), iMov (.t 94)⟩,
 ⟨some 96, false, some (95, false), iMov (.t 11)⟩,
 ⟨some 97, false, some (95, false), iNot (.t 96)⟩,
 ⟨some 98, false, some (92, true), iPick (.t 95) (.c (.bool (.lit true))) (.t 97)⟩,
 ⟨some 99, false, none, iPick (.t 92) (.t 98) (.c (.bool (.lit false)))⟩,
 ⟨some 100, false, none, iMov (.t 99)⟩,
 ⟨some 101, false, some (100, true), iMov (.t 8)⟩,
 ⟨some 102, false, some (100, true), iCmp .eql (.t 101) (.c (.int .i64 (.lit 2)))⟩,
 ⟨some 103, false, some (100, true), iMov (.t 5)⟩,
 ⟨some 104, false, some (100, true), iFaddr 1 (.t 7)⟩,
 ⟨some 105, false, some (100, true), iLoad (.t 104)⟩,
 ⟨some 106, false, some (100, true), iArith .add (.t 103) (.t 105)⟩,
 ⟨some 107, false, some (100, true), iFaddr 4 (.t 2)⟩,
 ⟨some 108, false, some (100, true), iLoad (.t 107)⟩,
 ⟨some 109, false, some (100, true), iCmp .leq (.t 106) (.t 108)⟩,
 ⟨some 110, false, some (100, true), iEq false false 1 [(0, .bool)] (.t 102) (.t 109)⟩,
 ⟨some 111, false, none, iPick (.t 100) (.t 110) (.c (.bool (.lit false)))⟩,
 ⟨some 112, false, none, iMov (.t 111)⟩,
 ⟨some 113, false, some (112, true), iCall (.c (.func (.func 23) [] [])) []⟩,
 ⟨some 114, false, none, iPick (.t 112) (.t 113) (.c (.bool (.lit false)))⟩,
 ⟨some 4, true, none, iMov (.t 114)⟩])
 cRet))))))))), [.t 4]⟩
noncomputable def Tryd.kp13 : List Nat := [0, 1, 2, 4, 6, 8, 10, 12, 14, 16, 18, 20, 21, 22, 24, 26, 28, 30, 32, 34, 36, 38, 40, 42, 44, 46, 48, 50, 51, 52, 53,
 54, 55, 56, 57, 58, 59, 60, 61, 62, 63, 64, 65, 66, 142, 262, 272, 337, 421, 431, 464, 566]
noncomputable def Tryd.cf13 : CF := ⟨0, (cSeq (cOps [⟨some 0, true, none, iMov (.c (.bool (.lit false)))⟩])
 (cSeq (cOps [⟨some 67, false, none, iBuild [.nilslice, (.int .i64 (.lit 0)), .nilslice, (.int .i64 (.lit 0)), (.int .i64 (.lit 0)), .nilslice] []⟩,
 ⟨some 68, false, none, iCall (.c (.func (.func 49) [] [])) []⟩,
 ⟨some 69, false, none, iCall (.c (.func (.func 49) [] [])) []⟩,
 ⟨some 70, false, none, iCall (.c (.func (.func 49) [] [])) []⟩,
 ⟨some 71, false, none, iCall (.c (.func (.func 49) [] [])) []⟩,
 ⟨some 72, false, none, iCall (.c (.func (.func 49) [] [])) []⟩,
 ⟨some 73, false, none, iCall (.c (.func (.func 49) [] [])) []⟩,
 ⟨some 74, false, none, iCall (.c (.func (.func 49) [] [])) []⟩,
 ⟨some 75, false, none, iCall (.c (.func (.func 49) [] [])) []⟩,
 ⟨some 76, false, none, iCall (.c (.func (.func 49) [] [])) []⟩,
 ⟨some 77, false, none, iCall (.c (.func (.func 49) [] [])) []⟩,
 ⟨some 78, false, none, iCall (.c (.func (.func 49) [] [])) []⟩,
 ⟨some 79, false, none, iCall (.c (.func (.func 49) [] [])) []⟩,
 ⟨some 80, false, none, iBslice 26 [.nilslice, (.int .i64 (.lit 0)), .nilslice, (.int .i64 (.lit 0)), (.int .i64 (.lit 0)), .nilslice] 13 [(0, 6, (.t 67)), (6, 6, (.t 68)), (12, 6, (.t 69)), (18, 6, (.t 70)), (24, 6, (.t 71)), (30, 6, (.t 72)), (36, 6, (.t 73)), (42, 6, (.t 74)), (48, 6, (.t 75)), (54, 6, (.t 76)), (60, 6, (.t 77)), (66, 6, (.t 78)), (72, 6, (.t 79))]⟩,
 ⟨some 1, true, none, iMov (.t 80)⟩])
 (cSeq (cOps [⟨some 81, false, none, iMov (.t 1)⟩,
 ⟨some 82, false, none, iMkslice 53 [(.int .i64 (.lit 0)), (.int .i64 (.lit 0)), (.int .i64 (.lit 0))] 24 (.c (.int .i64 (.lit 5))) (.c (.int .i64 (.lit 5)))⟩,
 ⟨some 83, false, none, iIaddr 6 (.t 81) (.c (.int .i64 (.lit 1)))⟩,
 ⟨some 84, false, none, iFaddr 0 (.t 83)⟩,
 ⟨none, false, none, iStore 1 (.t 84) (.t 82)⟩])
 (cSeq (cOps [⟨some 85, false, none, iMov (.t 1)⟩,
 ⟨some 86, false, none, iIaddr 6 (.t 85) (.c (.int .i64 (.lit 2)))⟩,
 ⟨some 87, false, none, iFaddr 0 (.t 86)⟩,
 ⟨some 88, false, none, iLoad (.t 87)⟩,
 ⟨some 89, false, none, iIaddr 3 (.t 88) (.c (.int .i64 (.lit 0)))⟩,
 ⟨some 90, false, none, iFaddr 0 (.t 89)⟩,
 ⟨none, false, none, iStore 1 (.t 90) (.c (.int .i64 (.lit 31)))⟩])
 (cSeq (cOps [⟨some 91, false, none, iMov (.t 1)⟩,
 ⟨some 92, false, none, iIaddr 6 (.t 91) (.c (.int .i64 (.lit 3)))⟩,
 ⟨some 93, false, none, iFaddr 0 (.t 92)⟩,
 ⟨some 94, false, none, iLoad (.t 93)⟩,
 ⟨some 95, false, none, iIaddr 3 (.t 94) (.c (.int .i64 (.lit 0)))⟩,
 ⟨some 96, false, none, iFaddr 1 (.t 95)⟩,
 ⟨none, false, none, iStore 1 (.t 96) (.c (.int .i64 (.lit 1001)))⟩])
 (cSeq (cOps [⟨some 97, false, none, iMov (.t 1)⟩,
 ⟨some 98, false, none, iIaddr 6 (.t 97) (.c (.int .i64 (.lit 4)))⟩,
 ⟨some 99, false, none, iFaddr 0 (.t 98)⟩,
 ⟨some 100, false, none, iLoad (.t 99)⟩,
 ⟨some 101, false, none, iIaddr 3 (.t 100) (.c (.int .i64 (.lit 0)))⟩,
 ⟨some 102, false, none, iFaddr 2 (.t 101)⟩,
 ⟨none, false, none, iStore 1 (.t 102) (.c (.int .i64 (.lit (-1))))⟩])
 (cSeq (cOps [⟨some 103, false, none, iMov (.t 1)⟩,
 ⟨some 104, false, none, iIaddr 6 (.t 103) (.c (.int .i64 (.lit 5)))⟩,
 ⟨some 105, false, none, iFaddr 1 (.t 104)⟩,
 ⟨none, false, none, iStore 1 (.t 105) (.c (.int .i64 (.lit 21)))⟩])
 (cSeq (cOps [⟨some 106, false, none, iMov (.t 1)⟩,
 ⟨some 107, false, none, iCall (.c (.func (.func 40) [] [])) [(.c (.int .i64 (.lit 5))), (.c (.int .i64 (.lit 6)))]⟩,
 ⟨some 108, false, none, iCall (.c (.func (.func 40) [] [])) [(.c (.int .i64 (.lit 6))), (.c (.int .i64 (.lit 7)))]⟩,
 ⟨some 109, false, none, iBslice 29 [(.int .i64 (.lit 0)), (.int .i64 (.lit 0))] 2 [(0, 2, (.t 107)), (2, 2, (.t 108))]⟩,
 ⟨some 110, false, none, iIaddr 6 (.t 106) (.c (.int .i64 (.lit 6)))⟩,
 ⟨some 111, false, none, iFaddr 2 (.t 110)⟩,
 ⟨none, false, none, iStore 1 (.t 111) (.t 109)⟩])
 (cSeq (cOps [⟨some 112, false, none, iMov (.t 1)⟩,
 ⟨some 113, false, none, iCall (.c (.func (.func 40) [] [])) [(.c (.int .i64 (.lit 5))), (.c (.int .i64 (.lit 1000)))]⟩,
 ⟨some 114, false, none, iBslice 29 [(.int .i64 (.lit 0)), (.int .i64 (.lit 0))] 1 [(0, 2, (.t 113))]⟩,
 ⟨some 115, false, none, iIaddr 6 (.t 112) (.c (.int .i64 (.lit 7)))⟩,
 ⟨some 116, false, none, iFaddr 2 (.t 115)⟩,
 ⟨none, false, none, iStore 1 (.t 116) (.t 114)⟩])
 (cSeq (cOps [⟨some 117, false, none, iMov (.t 1)⟩,
 ⟨some 118, false, none, iIaddr 6 (.t 117) (.c (.int .i64 (.lit 8)))⟩,
 ⟨some 119, false, none, iFaddr 3 (.t 118)⟩,
 ⟨none, false, none, iStore 1 (.t 119) (.c (.int .i64 (.lit 65536)))⟩])
 (cSeq (cOps [⟨some 120, false, none, iMov (.t 1)⟩,
 ⟨some 121, false, none, iIaddr 6 (.t 120) (.c (.int .i64 (.lit 9)))⟩,
 ⟨some 122, false, none, iFaddr 4 (.t 121)⟩,
 ⟨none, false, none, iStore 1 (.t 122) (.c (.int .i64 (.lit 1440)))⟩])
 (cSeq (cOps [⟨some 123, false, none, iMov (.t 1)⟩,
 ⟨some 124, false, none, iCall (.c (.func (.func 50) [] [])) [(.c (.int .i64 (.lit 1))), (.c (.int .i64 (.lit 100)))]⟩,
 ⟨some 125, false, none, iCall (.c (.func (.func 50) [] [])) [(.c (.int .i64 (.lit 0))), (.c (.int .i64 (.lit 107)))]⟩,
 ⟨some 126, false, none, iBslice 55 [(.int .i64 (.lit 0)), (.int .i64 (.lit 0))] 2 [(0, 2, (.t 124)), (2, 2, (.t 125))]⟩,
 ⟨some 127, false, none, iIaddr 6 (.t 123) (.c (.int .i64 (.lit 10)))⟩,
 ⟨some 128, false, none, iFaddr 5 (.t 127)⟩,
 ⟨none, false, none, iStore 1 (.t 128) (.t 126)⟩])
 (cSeq (cOps [⟨some 129, false, none, iMov (.t 1)⟩,
 ⟨some 130, false, none, iCall (.c (.func (.func 50) [] [])) [(.c (.int .i64 (.lit 2))), (.c (.int .i64 (.lit 100)))]⟩,
 ⟨some 131, false, none, iBslice 55 [(.int .i64 (.lit 0)), (.int .i64 (.lit 0))] 1 [(0, 2, (.t 130))]⟩,
 ⟨some 132, false, none, iIaddr 6 (.t 129) (.c (.int .i64 (.lit 11)))⟩,
 ⟨some 133, false, none, iFaddr 5 (.t 132)⟩,
 ⟨none, false, none, iStore 1 (.t 133) (.t 131)⟩])
 (cSeq (cOps [⟨some 134, false, none, iMov (.t 1)⟩,
 ⟨some 135, false, none, iCall (.c (.func (.func 50) [] [])) [(.c (.int .i64 (.lit 0))), (.c (.int .i64 (.lit 1000)))]⟩,
 ⟨some 136, false, none, iBslice 55 [(.int .i64 (.lit 0)), (.int .i64 (.lit 0))] 1 [(0, 2, (.t 135))]⟩,
 ⟨some 137, false, none, iIaddr 6 (.t 134) (.c (.int .i64 (.lit 12)))⟩,
 ⟨some 138, false, none, iFaddr 5 (.t 137)⟩,
 ⟨none, false, none, iStore 1 (.t 138) (.t 136)⟩])
 (cSeq (cSeq (cOps [⟨some 2, true, none, iMov (.c (.int .i64 (.lit 0)))⟩])
 (cBlock 0 (cLoop (cSeq (cSeq (cOps [⟨some 139, false, none, iMov (.t 2)⟩,
 ⟨some 140, false, none, iMov (.t 1)⟩,
 ⟨some 141, false, none, iLenS (.t 140)⟩,
 ⟨some 142, true, none, iCmp .lss (.t 139) (.t 141)⟩])
 (cCond (.t 142) cSkip (cExit 0)))
 (cSeq (cBlock 1 (cSeq (cOps [⟨some 146, false, none, iMov (.t 1)⟩,
 ⟨some 147, false, none, iMov (.t 2)⟩,
 ⟨some 148, false, none, iIaddr 6 (.t 146) (.t 147)⟩,
 ⟨some 149, false, none, iLoadN 6 (.t 148)⟩,
 ⟨some 150, false, none, iCall (.c (.func (.func 14) [] [])) [(.t 149), (.c (.int .i64 (.lit (-1)))), (.c (.int .i64 (.lit 0))), (.c (.int .i64 (.lit 0)))]⟩,
 ⟨some 145, false, none, iMov (.t 150)⟩,
 ⟨some 151, false, none, iExtract 0 (.t 145)⟩,
 ⟨some 152, false, none, iExtract 1 (.t 145)⟩,
 ⟨some 3, false, none, iMov (.t 151)⟩,
 ⟨some 4, true, none, iMov (.t 152)⟩])
 (cSeq (dOps 0 [⟨⟨some 154, false, none, iMov (.t 1)⟩, [1], false, 0, 1, none, []⟩,
 ⟨⟨some 155, false, none, iMov (.t 2)⟩, [2], false, 0, 1, none, []⟩,
 ⟨⟨some 156, false, none, iIaddr 6 (.t 154) (.t 155)⟩, [154, 155], false, 0, 1, none, []⟩,
 ⟨⟨some 157, false, none, iLoadN 6 (.t 156)⟩, [156], false, 0, 1, none, []⟩,
 ⟨⟨some 158, false, none, iCall (.c (.func (.func 40) [] [])) [(.c (.int .i64 (.lit 1))), (.c (.int .i64 (.lit 0)))]⟩, [], true, 0, 0, none, []⟩,
 ⟨⟨some 159, false, none, iCall (.c (.func (.func 18) [] [])) [(.t 157), (.t 158)]⟩, [157, 158], true, 1, 0, none, []⟩,
 ⟨⟨some 153, false, none, iMov (.t 159)⟩, [159], false, 2, 2, none, []⟩,
 ⟨⟨some 160, false, none, iExtract 0 (.t 153)⟩, [153], false, 2, 2, none, []⟩,
 ⟨⟨some 161, false, none, iExtract 1 (.t 153)⟩, [153], false, 2, 2, none, []⟩,
 ⟨⟨some 5, false, none, iMov (.t 160)⟩, [160], false, 2, 2, none, []⟩,
 ⟨⟨some 6, true, none, iMov (.t 161)⟩, [161], false, 2, 2, none, []⟩])
 (cSeq (cOps [⟨some 163, false, none, iMov (.t 1)⟩,
 ⟨some 164, false, none, iMov (.t 2)⟩,
 ⟨some 165, false, none, iIaddr 6 (.t 163) (.t 164)⟩,
 ⟨some 166, false, none, iLoadN 6 (.t 165)⟩,
 ⟨some 167, false, none, iCall (.c (.func (.func 24) [] [])) [(.t 166), (.c (.int .i64 (.lit (-1)))), (.c .nilslice)]⟩,
 ⟨some 162, false, none, iMov (.t 167)⟩,
 ⟨some 168, false, none, iExtract 0 (.t 162)⟩,
 ⟨some 169, false, none, iExtract 1 (.t 162)⟩,
 ⟨some 7, false, none, iMov (.t 168)⟩,
 ⟨some 8, true, none, iMov (.t 169)⟩])
 (cSeq (cOps [⟨some 171, false, none, iMov (.t 1)⟩,
 ⟨some 172, false, none, iMov (.t 2)⟩,
 ⟨some 173, false, none, iIaddr 6 (.t 171) (.t 172)⟩,
 ⟨some 174, false, none, iLoadN 6 (.t 173)⟩,
 ⟨some 175, false, none, iBslice 3 [(.int .i64 (.lit 0))] 1 [(0, 1, (.c (.int .i64 (.lit (-1)))))]⟩,
 ⟨some 176, false, none, iCall (.c (.func (.func 26) [] [])) [(.t 174), (.c .nilslice), (.t 175)]⟩,
 ⟨some 170, false, none, iMov (.t 176)⟩,
 ⟨some 177, false, none, iExtract 0 (.t 170)⟩,
 ⟨some 178, false, none, iExtract 1 (.t 170)⟩,
 ⟨some 9, false, none, iMov (.t 177)⟩,
 ⟨some 10, true, none, iMov (.t 178)⟩])
 (cSeq (cOps [⟨some 180, false, none, iMov (.t 1)⟩,
 ⟨some 181, false, none, iMov (.t 2)⟩,
 ⟨some 182, false, none, iIaddr 6 (.t 180) (.t 181)⟩,
 ⟨some 183, false, none, iLoadN 6 (.t 182)⟩,
 ⟨some 184, false, none, iCall (.c (.func (.func 30) [] [])) [(.t 183), (.c (.int .i64 (.lit (-1)))), (.c .nilslice)]⟩,
 ⟨some 179, false, none, iMov (.t 184)⟩,
 ⟨some 185, false, none, iExtract 0 (.t 179)⟩,
 ⟨some 186, false, none, iExtract 1 (.t 179)⟩,
 ⟨some 11, false, none, iMov (.t 185)⟩,
 ⟨some 12, true, none, iMov (.t 186)⟩])
 (cSeq (cOps [⟨some 188, false, none, iMov (.t 1)⟩,
 ⟨some 189, false, none, iMov (.t 2)⟩,
 ⟨some 190, false, none, iIaddr 6 (.t 188) (.t 189)⟩,
 ⟨some 191, false, none, iLoadN 6 (.t 190)⟩,
 ⟨some 192, false, none, iCall (.c (.func (.func 29) [] [])) [(.t 191), (.c (.int .i64 (.lit (-1)))), (.c .nilslice)]⟩,
 ⟨some 187, false, none, iMov (.t 192)⟩,
 ⟨some 193, false, none, iExtract 0 (.t 187)⟩,
 ⟨some 194, false, none, iExtract 1 (.t 187)⟩,
 ⟨some 13, false, none, iMov (.t 193)⟩,
 ⟨some 14, true, none, iMov (.t 194)⟩])
 (cSeq (cOps [⟨some 196, false, none, iMov (.t 1)⟩,
 ⟨some 197, false, none, iMov (.t 2)⟩,
 ⟨some 198, false, none, iIaddr 6 (.t 196) (.t 197)⟩,
 ⟨some 199, false, none, iLoadN 6 (.t 198)⟩,
 ⟨some 200, false, none, iBslice 3 [(.int .i64 (.lit 0))] 1 [(0, 1, (.c (.int .i64 (.lit (-1)))))]⟩,
 ⟨some 201, false, none, iCall (.c (.func (.func 31) [] [])) [(.t 199), (.t 200)]⟩,
 ⟨some 195, false, none, iMov (.t 201)⟩,
 ⟨some 202, false, none, iExtract 0 (.t 195)⟩,
 ⟨some 203, false, none, iExtract 1 (.t 195)⟩,
 ⟨some 15, false, none, iMov (.t 202)⟩,
 ⟨some 16, true, none, iMov (.t 203)⟩])
 (cSeq (cOps [⟨some 205, false, none, iMov (.t 1)⟩,
 ⟨some 206, false, none, iMov (.t 2)⟩,
 ⟨some 207, false, none, iIaddr 6 (.t 205) (.t 206)⟩,
 ⟨some 208, false, none, iLoadN 6 (.t 207)⟩,
 ⟨some 209, false, none, iCall (.c (.func (.func 33) [] [])) [(.t 208), (.c (.int .i64 (.lit (-1)))), (.c .nilslice), (.c (.int .i64 (.lit 0)))]⟩,
 ⟨some 204, false, none, iMov (.t 209)⟩,
 ⟨some 210, false, none, iExtract 0 (.t 204)⟩,
 ⟨some 211, false, none, iExtract 1 (.t 204)⟩,
 ⟨some 17, false, none, iMov (.t 210)⟩,
 ⟨some 18, true, none, iMov (.t 211)⟩])
 (cSeq (dOps 0 [⟨⟨some 213, false, none, iMov (.t 1)⟩, [1], false, 0, 1, none, []⟩,
 ⟨⟨some 214, false, none, iMov (.t 2)⟩, [2], false, 0, 1, none, []⟩,
 ⟨⟨some 215, false, none, iIaddr 6 (.t 213) (.t 214)⟩, [213, 214], false, 0, 1, none, []⟩,
 ⟨⟨some 216, false, none, iLoadN 6 (.t 215)⟩, [215], false, 0, 1, none, []⟩,
 ⟨⟨some 217, false, none, iCall (.c (.func (.func 40) [] [])) [(.c (.int .i64 (.lit 0))), (.c (.int .i64 (.lit 0)))]⟩, [], true, 0, 0, none, []⟩,
 ⟨⟨some 218, false, none, iCall (.c (.func (.func 21) [] [])) [(.t 216), (.c (.int .i64 (.lit (-1)))), (.t 217)]⟩, [216, 217], true, 1, 0, none, []⟩,
 ⟨⟨some 212, false, none, iMov (.t 218)⟩, [218], false, 2, 2, none, []⟩,
 ⟨⟨some 219, false, none, iExtract 0 (.t 212)⟩, [212], false, 2, 2, none, []⟩,
 ⟨⟨some 220, false, none, iExtract 1 (.t 212)⟩, [212], false, 2, 2, none, []⟩,
 ⟨⟨some 19, false, none, iMov (.t 219)⟩, [219], false, 2, 2, none, []⟩,
 ⟨⟨some 20, true, none, iMov (.t 220)⟩, [220], false, 2, 2, none, []⟩])
 (cSeq (cOps [⟨some 221, false, none, iMov (.t 1)⟩,
 ⟨some 222, false, none, iMov (.t 2)⟩,
 ⟨some 223, false, none, iIaddr 6 (.t 221) (.t 222)⟩,
 ⟨some 224, false, none, iLoadN 6 (.t 223)⟩,
 ⟨some 225, false, none, iCall (.c (.func (.func 16) [] [])) [(.t 224)]⟩,
 ⟨some 226, false, none, iCmp .neq (.t 225) (.c (.int .i64 (.lit 50)))⟩,
 ⟨some 227, false, none, iMov (.t 226)⟩,
 ⟨some 228, false, some (227, false), iMov (.t 4)⟩,
 ⟨some 229, false, some (227, false), iCmp .neq (.t 228) (.c (.int .i64 (.lit 50)))⟩,
 ⟨some 230, false, none, iPick (.t 227) (.c (.bool (.lit true))) (.t 229)⟩,
 ⟨some 231, false, none, iMov (.t 230)⟩,
 ⟨some 232, false, some (231, false), iMov (.t 6)⟩,
 ⟨some 233, false, some (231, false), iCmp .neq (.t 232) (.c (.int .i64 (.lit 50)))⟩,
 ⟨some 234, false, none, iPick (.t 231) (.c (.bool (.lit true))) (.t 233)⟩,
 ⟨some 235, false, none, iMov (.t 234)⟩,
 ⟨some 236, false, some (235, false), iMov (.t 8)⟩,
 ⟨some 237, false, some (235, false), iCmp .neq (.t 236) (.c (.int .i64 (.lit 50)))⟩,
 ⟨some 238, false, none, iPick (.t 235) (.c (.bool (.lit true))) (.t 237)⟩,
 ⟨some 239, false, none, iMov (.t 238)⟩,
 ⟨some 240, false, some (239, false), iMov (.t 10)⟩,
 ⟨some 241, false, some (239, false), iCmp .neq (.t 240) (.c (.int .i64 (.lit 50)))⟩,
 ⟨some 242, false, none, iPick (.t 239) (.c (.bool (.lit true))) (.t 241)⟩,
 ⟨some 243, false, none, iMov (.t 242)⟩,
 ⟨some 244, false, some (243, false), iMov (.t 12)⟩,
 ⟨some 245, false, some (243, false), iCmp .neq (.t 244) (.c (.int .i64 (.lit 50)))⟩,
 ⟨some 246, false, none, iPick (.t 243) (.c (.bool (.lit true))) (.t 245)⟩,
 ⟨some 247, false, none, iMov (.t 246)⟩,
 ⟨some 248, false, some (247, false), iMov (.t 14)⟩,
 ⟨some 249, false, some (247, false), iCmp .neq (.t 248) (.c (.int .i64 (.lit 50)))⟩,
 ⟨some 250, false, none, iPick (.t 247) (.c (.bool (.lit true))) (.t 249)⟩,
 ⟨some 251, false, none, iMov (.t 250)⟩,
 ⟨some 252, false, some (251, false), iMov (.t 16)⟩,
 ⟨some 253, false, some (251, false), iCmp .neq (.t 252) (.c (.int .i64 (.lit 50)))⟩,
 ⟨some 254, false, none, iPick (.t 251) (.c (.bool (.lit true))) (.t 253)⟩,
 ⟨some 255, false, none, iMov (.t 254)⟩,
 ⟨some 256, false, some (255, false), iMov (.t 18)⟩,
 ⟨some 257, false, some (255, false), iCmp .neq (.t 256) (.c (.int .i64 (.lit 50)))⟩,
 ⟨some 258, false, none, iPick (.t 255) (.c (.bool (.lit true))) (.t 257)⟩,
 ⟨some 259, false, none, iMov (.t 258)⟩,
 ⟨some 260, false, some (259, false), iMov (.t 20)⟩,
 ⟨some 261, false, some (259, false), iCmp .neq (.t 260) (.c (.int .i64 (.lit 50)))⟩,
 ⟨some 262, true, none, iPick (.t 259) (.c (.bool (.lit true))) (.t 261)⟩])
 (cCond (.t 262) (cSeq (cOps [⟨some 0, true, none, iMov (.c (.bool (.lit false)))⟩])
 cRet) cSkip))))))))))))
 (cOps [⟨some 143, false, none, iMov (.t 2)⟩,
 ⟨some 144, false, none, iArith .add (.t 143) (.c (.int .i64 (.lit 1)))⟩,
 ⟨some 2, true, none, iMov (.t 144)⟩]))))))
 (cSeq (cOps [⟨some 263, false, none, iBslice 3 [(.int .i64 (.lit 0))] 1 [(0, 1, (.c (.int .i64 (.lit (-1)))))]⟩,
 ⟨some 264, false, none, iBslice 3 [(.int .i64 (.lit 0))] 1 [(0, 1, (.c (.int .i64 (.lit 1000))))]⟩,
 ⟨some 265, false, none, iBslice 3 [(.int .i64 (.lit 0))] 2 [(0, 1, (.c (.int .i64 (.lit 5)))), (1, 1, (.c (.int .i64 (.lit 5))))]⟩,
 ⟨some 266, false, none, iBslice 3 [(.int .i64 (.lit 0))] 2 [(0, 1, (.c (.int .i64 (.lit 6)))), (1, 1, (.c (.int .i64 (.lit 5))))]⟩,
 ⟨some 267, false, none, iBslice 3 [(.int .i64 (.lit 0))] 9 [(0, 1, (.c (.int .i64 (.lit 1)))), (1, 1, (.c (.int .i64 (.lit 2)))), (2, 1, (.c (.int .i64 (.lit 3)))), (3, 1, (.c (.int .i64 (.lit 4)))), (4, 1, (.c (.int .i64 (.lit 5)))), (5, 1, (.c (.int .i64 (.lit 6)))), (6, 1, (.c (.int .i64 (.lit 7)))), (7, 1, (.c (.int .i64 (.lit 8)))), (8, 1, (.c (.int .i64 (.lit 9))))]⟩,
 ⟨some 268, false, none, iBslice 35 [.nilslice] 5 [(0, 1, (.t 263)), (1, 1, (.t 264)), (2, 1, (.t 265)), (3, 1, (.t 266)), (4, 1, (.t 267))]⟩,
 ⟨some 21, true, none, iMov (.t 268)⟩])
 (cSeq (cSeq (cOps [⟨some 22, true, none, iMov (.c (.int .i64 (.lit 0)))⟩])
 (cBlock 2 (cLoop (cSeq (cSeq (cOps [⟨some 269, false, none, iMov (.t 22)⟩,
 ⟨some 270, false, none, iMov (.t 21)⟩,
 ⟨some 271, false, none, iLenS (.t 270)⟩,
 ⟨some 272, true, none, iCmp .lss (.t 269) (.t 271)⟩])
 (cCond (.t 272) cSkip (cExit 2)))
 (cSeq (cBlock 3 (cSeq (dOps 0 [⟨⟨some 276, false, none, iCall (.c (.func (.func 49) [] [])) []⟩, [], true, 0, 0, none, []⟩,
 ⟨⟨some 277, false, none, iMov (.t 21)⟩, [21], false, 0, 1, none, []⟩,
 ⟨⟨some 278, false, none, iMov (.t 22)⟩, [22], false, 0, 1, none, []⟩,
 ⟨⟨some 279, false, none, iIaddr 1 (.t 277) (.t 278)⟩, [277, 278], false, 0, 1, none, []⟩,
 ⟨⟨some 280, false, none, iLoad (.t 279)⟩, [279], false, 0, 1, none, []⟩,
 ⟨⟨some 281, false, none, iCall (.c (.func (.func 26) [] [])) [(.t 276), (.c .nilslice), (.t 280)]⟩, [276, 280], true, 1, 0, none, []⟩,
 ⟨⟨some 275, false, none, iMov (.t 281)⟩, [281], false, 2, 2, none, []⟩,
 ⟨⟨some 282, false, none, iExtract 0 (.t 275)⟩, [275], false, 2, 2, none, []⟩,
 ⟨⟨some 283, false, none, iExtract 1 (.t 275)⟩, [275], false, 2, 2, none, []⟩,
 ⟨⟨some 23, false, none, iMov (.t 282)⟩, [282], false, 2, 2, none, []⟩,
 ⟨⟨some 24, true, none, iMov (.t 283)⟩, [283], false, 2, 2, none, []⟩])
 (cSeq (dOps 0 [⟨⟨some 285, false, none, iCall (.c (.func (.func 49) [] [])) []⟩, [], true, 0, 0, none, []⟩,
 ⟨⟨some 286, false, none, iMov (.t 21)⟩, [21], false, 0, 1, none, []⟩,
 ⟨⟨some 287, false, none, iMov (.t 22)⟩, [22], false, 0, 1, none, []⟩,
 ⟨⟨some 288, false, none, iIaddr 1 (.t 286) (.t 287)⟩, [286, 287], false, 0, 1, none, []⟩,
 ⟨⟨some 289, false, none, iLoad (.t 288)⟩, [288], false, 0, 1, none, []⟩,
 ⟨⟨some 290, false, none, iCall (.c (.func (.func 30) [] [])) [(.t 285), (.c (.int .i64 (.lit 95))), (.t 289)]⟩, [285, 289], true, 1, 0, none, []⟩,
 ⟨⟨some 284, false, none, iMov (.t 290)⟩, [290], false, 2, 2, none, []⟩,
 ⟨⟨some 291, false, none, iExtract 0 (.t 284)⟩, [284], false, 2, 2, none, []⟩,
 ⟨⟨some 292, false, none, iExtract 1 (.t 284)⟩, [284], false, 2, 2, none, []⟩,
 ⟨⟨some 25, false, none, iMov (.t 291)⟩, [291], false, 2, 2, none, []⟩,
 ⟨⟨some 26, true, none, iMov (.t 292)⟩, [292], false, 2, 2, none, []⟩])
 (cSeq (dOps 0 [⟨⟨some 294, false, none, iCall (.c (.func (.func 49) [] [])) []⟩, [], true, 0, 0, none, []⟩,
 ⟨⟨some 295, false, none, iMov (.t 21)⟩, [21], false, 0, 1, none, []⟩,
 ⟨⟨some 296, false, none, iMov (.t 22)⟩, [22], false, 0, 1, none, []⟩,
 ⟨⟨some 297, false, none, iIaddr 1 (.t 295) (.t 296)⟩, [295, 296], false, 0, 1, none, []⟩,
 ⟨⟨some 298, false, none, iLoad (.t 297)⟩, [297], false, 0, 1, none, []⟩,
 ⟨⟨some 299, false, none, iCall (.c (.func (.func 29) [] [])) [(.t 294), (.c (.int .i64 (.lit 95))), (.t 298)]⟩, [294, 298], true, 1, 0, none, []⟩,
 ⟨⟨some 293, false, none, iMov (.t 299)⟩, [299], false, 2, 2, none, []⟩,
 ⟨⟨some 300, false, none, iExtract 0 (.t 293)⟩, [293], false, 2, 2, none, []⟩,
 ⟨⟨some 301, false, none, iExtract 1 (.t 293)⟩, [293], false, 2, 2, none, []⟩,
 ⟨⟨some 27, false, none, iMov (.t 300)⟩, [300], false, 2, 2, none, []⟩,
 ⟨⟨some 28, true, none, iMov (.t 301)⟩, [301], false, 2, 2, none, []⟩])
 (cSeq (dOps 0 [⟨⟨some 303, false, none, iCall (.c (.func (.func 49) [] [])) []⟩, [], true, 0, 0, none, []⟩,
 ⟨⟨some 304, false, none, iMov (.t 21)⟩, [21], false, 0, 1, none, []⟩,
 ⟨⟨some 305, false, none, iMov (.t 22)⟩, [22], false, 0, 1, none, []⟩,
 ⟨⟨some 306, false, none, iIaddr 1 (.t 304) (.t 305)⟩, [304, 305], false, 0, 1, none, []⟩,
 ⟨⟨some 307, false, none, iLoad (.t 306)⟩, [306], false, 0, 1, none, []⟩,
 ⟨⟨some 308, false, none, iCall (.c (.func (.func 31) [] [])) [(.t 303), (.t 307)]⟩, [303, 307], true, 1, 0, none, []⟩,
 ⟨⟨some 302, false, none, iMov (.t 308)⟩, [308], false, 2, 2, none, []⟩,
 ⟨⟨some 309, false, none, iExtract 0 (.t 302)⟩, [302], false, 2, 2, none, []⟩,
 ⟨⟨some 310, false, none, iExtract 1 (.t 302)⟩, [302], false, 2, 2, none, []⟩,
 ⟨⟨some 29, false, none, iMov (.t 309)⟩, [309], false, 2, 2, none, []⟩,
 ⟨⟨some 30, true, none, iMov (.t 310)⟩, [310], false, 2, 2, none, []⟩])
 (cSeq (dOps 0 [⟨⟨some 312, false, none, iCall (.c (.func (.func 49) [] [])) []⟩, [], true, 0, 0, none, []⟩,
 ⟨⟨some 313, false, none, iMov (.t 21)⟩, [21], false, 0, 1, none, []⟩,
 ⟨⟨some 314, false, none, iMov (.t 22)⟩, [22], false, 0, 1, none, []⟩,
 ⟨⟨some 315, false, none, iIaddr 1 (.t 313) (.t 314)⟩, [313, 314], false, 0, 1, none, []⟩,
 ⟨⟨some 316, false, none, iLoad (.t 315)⟩, [315], false, 0, 1, none, []⟩,
 ⟨⟨some 317, false, none, iCall (.c (.func (.func 33) [] [])) [(.t 312), (.c (.int .i64 (.lit 95))), (.t 316), (.c (.int .i64 (.lit 5)))]⟩, [312, 316], true, 1, 0, none, []⟩,
 ⟨⟨some 311, false, none, iMov (.t 317)⟩, [317], false, 2, 2, none, []⟩,
 ⟨⟨some 318, false, none, iExtract 0 (.t 311)⟩, [311], false, 2, 2, none, []⟩,
 ⟨⟨some 319, false, none, iExtract 1 (.t 311)⟩, [311], false, 2, 2, none, []⟩,
 ⟨⟨some 31, false, none, iMov (.t 318)⟩, [318], false, 2, 2, none, []⟩,
 ⟨⟨some 32, true, none, iMov (.t 319)⟩, [319], false, 2, 2, none, []⟩])
 (cSeq (cOps [⟨some 320, false, none, iMov (.t 24)⟩,
 ⟨some 321, false, none, iCmp .neq (.t 320) (.c (.int .i64 (.lit 51)))⟩,
 ⟨some 322, false, none, iMov (.t 321)⟩,
 ⟨some 323, false, some (322, false), iMov (.t 26)⟩,
 ⟨some 324, false, some (322, false), iCmp .neq (.t 323) (.c (.int .i64 (.lit 51)))⟩,
 ⟨some 325, false, none, iPick (.t 322) (.c (.bool (.lit true))) (.t 324)⟩,
 ⟨some 326, false, none, iMov (.t 325)⟩,
 ⟨some 327, false, some (326, false), iMov (.t 28)⟩,
 ⟨some 328, false, some (326, false), iCmp .neq (.t 327) (.c (.int .i64 (.lit 51)))⟩,
 ⟨some 329, false, none, iPick (.t 326) (.c (.bool (.lit true))) (.t 328)⟩,
 ⟨some 330, false, none, iMov (.t 329)⟩,
 ⟨some 331, false, some (330, false), iMov (.t 30)⟩,
 ⟨some 332, false, some (330, false), iCmp .neq (.t 331) (.c (.int .i64 (.lit 51)))⟩,
 ⟨some 333, false, none, iPick (.t 330) (.c (.bool (.lit true))) (.t 332)⟩,
 ⟨some 334, false, none, iMov (.t 333)⟩,
 ⟨some 335, false, some (334, false), iMov (.t 32)⟩,
 ⟨some 336, false, some (334, false), iCmp .neq (.t 335) (.c (.int .i64 (.lit 51)))⟩,
 ⟨some 337, true, none, iPick (.t 334) (.c (.bool (.lit true))) (.t 336)⟩])
 (cCond (.t 337) (cSeq (cOps [⟨some 0, true, none, iMov (.c (.bool (.lit false)))⟩])
 cRet) cSkip))))))))
 (cOps [⟨some 273, false, none, iMov (.t 22)⟩,
 ⟨some 274, false, none, iArith .add (.t 273) (.c (.int .i64 (.lit 1)))⟩,
 ⟨some 22, true, none, iMov (.t 274)⟩]))))))
 (cSeq (cOps [⟨some 339, false, none, iCall (.c (.func (.func 49) [] [])) []⟩,
 ⟨some 340, false, none, iCall (.c (.func (.func 14) [] [])) [(.t 339), (.c (.int .i64 (.lit 1000))), (.c (.int .i64 (.lit 0))), (.c (.int .i64 (.lit 0)))]⟩,
 ⟨some 338, false, none, iMov (.t 340)⟩,
 ⟨some 341, false, none, iExtract 0 (.t 338)⟩,
 ⟨some 342, false, none, iExtract 1 (.t 338)⟩,
 ⟨some 33, false, none, iMov (.t 341)⟩,
 ⟨some 34, true, none, iMov (.t 342)⟩])
 (cSeq (cOps [⟨some 344, false, none, iCall (.c (.func (.func 49) [] [])) []⟩,
 ⟨some 345, false, none, iCall (.c (.func (.func 14) [] [])) [(.t 344), (.c (.int .i64 (.lit 0))), (.c (.int .i64 (.lit 16))), (.c (.int .i64 (.lit 0)))]⟩,
 ⟨some 343, false, none, iMov (.t 345)⟩,
 ⟨some 346, false, none, iExtract 0 (.t 343)⟩,
 ⟨some 347, false, none, iExtract 1 (.t 343)⟩,
 ⟨some 35, false, none, iMov (.t 346)⟩,
 ⟨some 36, true, none, iMov (.t 347)⟩])
 (cSeq (cOps [⟨some 349, false, none, iCall (.c (.func (.func 49) [] [])) []⟩,
 ⟨some 350, false, none, iCall (.c (.func (.func 40) [] [])) [(.c (.int .i64 (.lit 0))), (.c (.int .i64 (.lit 1000)))]⟩,
 ⟨some 351, false, none, iCall (.c (.func (.func 18) [] [])) [(.t 349), (.t 350)]⟩,
 ⟨some 348, false, none, iMov (.t 351)⟩,
 ⟨some 352, false, none, iExtract 0 (.t 348)⟩,
 ⟨some 353, false, none, iExtract 1 (.t 348)⟩,
 ⟨some 37, false, none, iMov (.t 352)⟩,
 ⟨some 38, true, none, iMov (.t 353)⟩])
 (cSeq (cOps [⟨some 355, false, none, iCall (.c (.func (.func 49) [] [])) []⟩,
 ⟨some 356, false, none, iCall (.c (.func (.func 24) [] [])) [(.t 355), (.c (.int .i64 (.lit 1000))), (.c .nilslice)]⟩,
 ⟨some 354, false, none, iMov (.t 356)⟩,
 ⟨some 357, false, none, iExtract 0 (.t 354)⟩,
 ⟨some 358, false, none, iExtract 1 (.t 354)⟩,
 ⟨some 39, false, none, iMov (.t 357)⟩,
 ⟨some 40, true, none, iMov (.t 358)⟩])
 (cSeq (cOps [⟨some 360, false, none, iCall (.c (.func (.func 49) [] [])) []⟩,
 ⟨some 361, false, none, iCall (.c (.func (.func 50) [] [])) [(.c (.int .i64 (.lit 2))), (.c (.int .i64 (.lit 5)))]⟩,
 ⟨some 362, false, none, iBslice 55 [(.int .i64 (.lit 0)), (.int .i64 (.lit 0))] 1 [(0, 2, (.t 361))]⟩,
 ⟨some 363, false, none, iCall (.c (.func (.func 26) [] [])) [(.t 360), (.t 362), (.c .nilslice)]⟩,
 ⟨some 359, false, none, iMov (.t 363)⟩,
 ⟨some 364, false, none, iExtract 0 (.t 359)⟩,
 ⟨some 365, false, none, iExtract 1 (.t 359)⟩,
 ⟨some 41, false, none, iMov (.t 364)⟩,
 ⟨some 42, true, none, iMov (.t 365)⟩])
 (cSeq (cOps [⟨some 367, false, none, iCall (.c (.func (.func 49) [] [])) []⟩,
 ⟨some 368, false, none, iCall (.c (.func (.func 30) [] [])) [(.t 367), (.c (.int .i64 (.lit 1000))), (.c .nilslice)]⟩,
 ⟨some 366, false, none, iMov (.t 368)⟩,
 ⟨some 369, false, none, iExtract 0 (.t 366)⟩,
 ⟨some 370, false, none, iExtract 1 (.t 366)⟩,
 ⟨some 43, false, none, iMov (.t 369)⟩,
 ⟨some 44, true, none, iMov (.t 370)⟩])
 (cSeq (cOps [⟨some 372, false, none, iCall (.c (.func (.func 49) [] [])) []⟩,
 ⟨some 373, false, none, iCall (.c (.func (.func 33) [] [])) [(.t 372), (.c (.int .i64 (.lit 95))), (.c .nilslice), (.c (.int .i64 (.lit 8001)))]⟩,
 ⟨some 371, false, none, iMov (.t 373)⟩,
 ⟨some 374, false, none, iExtract 0 (.t 371)⟩,
 ⟨some 375, false, none, iExtract 1 (.t 371)⟩,
 ⟨some 45, false, none, iMov (.t 374)⟩,
 ⟨some 46, true, none, iMov (.t 375)⟩])
 (cSeq (cOps [⟨some 377, false, none, iCall (.c (.func (.func 49) [] [])) []⟩,
 ⟨some 378, false, none, iCall (.c (.func (.func 40) [] [])) [(.c (.int .i64 (.lit 0))), (.c (.int .i64 (.lit 1)))]⟩,
 ⟨some 379, false, none, iCall (.c (.func (.func 21) [] [])) [(.t 377), (.c (.int .i64 (.lit 1440))), (.t 378)]⟩,
 ⟨some 376, false, none, iMov (.t 379)⟩,
 ⟨some 380, false, none, iExtract 0 (.t 376)⟩,
 ⟨some 381, false, none, iExtract 1 (.t 376)⟩,
 ⟨some 47, false, none, iMov (.t 380)⟩,
 ⟨some 48, true, none, iMov (.t 381)⟩])
 (cSeq (cOps [⟨some 383, false, none, iCall (.c (.func (.func 49) [] [])) []⟩,
 ⟨some 384, false, none, iCall (.c (.func (.func 40) [] [])) [(.c (.int .i64 (.lit 0))), (.c (.int .i64 (.lit 1440)))]⟩,
 ⟨some 385, false, none, iCall (.c (.func (.func 21) [] [])) [(.t 383), (.c (.int .i64 (.lit 0))), (.t 384)]⟩,
 ⟨some 382, false, none, iMov (.t 385)⟩,
 ⟨some 386, false, none, iExtract 0 (.t 382)⟩,
 ⟨some 387, false, none, iExtract 1 (.t 382)⟩,
 ⟨some 49, false, none, iMov (.t 386)⟩,
 ⟨some 50, true, none, iMov (.t 387)⟩])
 (cSeq (cSeq (cOps [⟨some 388, false, none, iMov (.t 34)⟩,
 ⟨some 389, false, none, iCmp .neq (.t 388) (.c (.int .i64 (.lit 51)))⟩,
 ⟨some 390, false, none, iMov (.t 389)⟩,
 ⟨some 391, false, some (390, false), iMov (.t 36)⟩,
 ⟨some 392, false, some (390, false), iCmp .neq (.t 391) (.c (.int .i64 (.lit 51)))⟩,
 ⟨some 393, false, none, iPick (.t 390) (.c (.bool (.lit true))) (.t 392)⟩,
 ⟨some 394, false, none, iMov (.t 393)⟩,
 ⟨some 395, false, some (394, false), iMov (.t 38)⟩,
 ⟨some 396, false, some (394, false), iCmp .neq (.t 395) (.c (.int .i64 (.lit 51)))⟩,
 ⟨some 397, false, none, iPick (.t 394) (.c (.bool (.lit true))) (.t 396)⟩,
 ⟨some 398, false, none, iMov (.t 397)⟩,
 ⟨some 399, false, some (398, false), iMov (.t 40)⟩,
 ⟨some 400, false, some (398, false), iCmp .neq (.t 399) (.c (.int .i64 (.lit 51)))⟩,
 ⟨some 401, false, none, iPick (.t 398) (.c (.bool (.lit true))) (.t 400)⟩,
 ⟨some 402, false, none, iMov (.t 401)⟩,
 ⟨some 403, false, some (402, false), iMov (.t 42)⟩,
 ⟨some 404, false, some (402, false), iCmp .neq (.t 403) (.c (.int .i64 (.lit 51)))⟩,
 ⟨some 405, false, none, iPick (.t 402) (.c (.bool (.lit true))) (.t 404)⟩,
 ⟨some 406, false, none, iMov (.t 405)⟩,
 ⟨some 407, false, some (406, false), iMov (.t 44)⟩,
 ⟨some 408, false, some (406, false), iCmp .neq (.t 407) (.c (.int .i64 (.lit 51)))⟩,
 ⟨some 409, false, none, iPick (.t 406) (.c (.bool (.lit true))) (.t 408)⟩,
 ⟨some 410, false, none, iMov (.t 409)⟩,
 ⟨some 411, false, some (410, false), iMov (.t 46)⟩,
 ⟨some 412, false, some (410, false), iCmp .neq (.t 411) (.c (.int .i64 (.lit 51)))⟩,
 ⟨some 413, false, none, iPick (.t 410) (.c (.bool (.lit true))) (.t 412)⟩,
 ⟨some 414, false, none, iMov (.t 413)⟩,
 ⟨some 415, false, some (414, false), iMov (.t 48)⟩,
 ⟨some 416, false, some (414, false), iCmp .neq (.t 415) (.c (.int .i64 (.lit 51)))⟩,
 ⟨some 417, false, none, iPick (.t 414) (.c (.bool (.lit true))) (.t 416)⟩,
 ⟨some 418, false, none, iMov (.t 417)⟩,
 ⟨some 419, false, some (418, false), iMov (.t 50)⟩,
 ⟨some 420, false, some (418, false), iCmp .neq (.t 419) (.c (.int .i64 (.lit 51)))⟩,
 ⟨some 421, true, none, iPick (.t 418) (.c (.bool (.lit true))) (.t 420)⟩])
 (cCond (.t 421) (cSeq (cOps [⟨some 0, true, none, iMov (.c (.bool (.lit false)))⟩])
 cRet) cSkip))
 (cSeq (cOps [⟨some 422, false, none, iBuild [(.int .i64 (.lit 0)), (.int .i64 (.lit 0)), (.int .i64 (.lit 0)), (.int .i64 (.lit 0))] [(0, 1, (.c (.int .i64 (.lit 101)))), (1, 1, (.c (.int .i64 (.lit 2)))), (2, 1, (.c (.int .i64 (.lit 1350)))), (3, 1, (.c (.int .i64 (.lit 0))))]⟩,
 ⟨some 423, false, none, iBuild [(.int .i64 (.lit 0)), (.int .i64 (.lit 0)), (.int .i64 (.lit 0)), (.int .i64 (.lit 0))] [(0, 1, (.c (.int .i64 (.lit 107)))), (1, 1, (.c (.int .i64 (.lit 3)))), (2, 1, (.c (.int .i64 (.lit 1351)))), (3, 1, (.c (.int .i64 (.lit 1))))]⟩,
 ⟨some 424, false, none, iBuild [(.int .i64 (.lit 0)), (.int .i64 (.lit 0)), (.int .i64 (.lit 0)), (.int .i64 (.lit 0))] [(0, 1, (.c (.int .i64 (.lit 105)))), (1, 1, (.c (.int .i64 (.lit 3)))), (2, 1, (.c (.int .i64 (.lit 1351)))), (3, 1, (.c (.int .i64 (.lit 2))))]⟩,
 ⟨some 425, false, none, iBuild [(.int .i64 (.lit 0)), (.int .i64 (.lit 0)), (.int .i64 (.lit 0)), (.int .i64 (.lit 0))] [(0, 1, (.c (.int .i64 (.lit 101)))), (1, 1, (.c (.int .i64 (.lit 3)))), (2, 1, (.c (.int .i64 (.lit 1351)))), (3, 1, (.c (.int .i64 (.lit 3))))]⟩,
 ⟨some 426, false, none, iBuild [(.int .i64 (.lit 0)), (.int .i64 (.lit 0)), (.int .i64 (.lit 0)), (.int .i64 (.lit 0))] [(0, 1, (.c (.int .i64 (.lit 101)))), (1, 1, (.c (.int .i64 (.lit 2)))), (2, 1, (.c (.int .i64 (.lit 1351)))), (3, 1, (.c (.int .i64 (.lit 4))))]⟩,
 ⟨some 427, false, none, iBslice 67 [(.int .i64 (.lit 0)), (.int .i64 (.lit 0)), (.int .i64 (.lit 0)), (.int .i64 (.lit 0))] 5 [(0, 4, (.t 422)), (4, 4, (.t 423)), (8, 4, (.t 424)), (12, 4, (.t 425)), (16, 4, (.t 426))]⟩,
 ⟨some 51, true, none, iMov (.t 427)⟩])
 (cSeq (cSeq (cOps [⟨some 52, true, none, iMov (.c (.int .i64 (.lit 0)))⟩])
 (cBlock 4 (cLoop (cSeq (cSeq (cOps [⟨some 428, false, none, iMov (.t 52)⟩,
 ⟨some 429, false, none, iMov (.t 51)⟩,
 ⟨some 430, false, none, iLenS (.t 429)⟩,
 ⟨some 431, true, none, iCmp .lss (.t 428) (.t 430)⟩])
 (cCond (.t 431) cSkip (cExit 4)))
 (cSeq (cBlock 5 (cSeq (dOps 0 [⟨⟨some 435, false, none, iCall (.c (.func (.func 49) [] [])) []⟩, [], true, 0, 0, none, []⟩,
 ⟨⟨some 436, false, none, iMov (.t 51)⟩, [51], false, 0, 1, none, []⟩,
 ⟨⟨some 437, false, none, iMov (.t 52)⟩, [52], false, 0, 1, none, []⟩,
 ⟨⟨some 438, false, none, iIaddr 4 (.t 436) (.t 437)⟩, [436, 437], false, 0, 1, none, []⟩,
 ⟨⟨some 439, false, none, iIaddrA 1 4 (.t 438) (.c (.int .i64 (.lit 0)))⟩, [438], false, 0, 1, none, []⟩,
 ⟨⟨some 440, false, none, iLoad (.t 439)⟩, [439], false, 0, 1, none, []⟩,
 ⟨⟨some 441, false, none, iMov (.t 51)⟩, [51], false, 0, 1, none, []⟩,
 ⟨⟨some 442, false, none, iMov (.t 52)⟩, [52], false, 0, 1, none, []⟩,
 ⟨⟨some 443, false, none, iIaddr 4 (.t 441) (.t 442)⟩, [441, 442], false, 0, 1, none, []⟩,
 ⟨⟨some 444, false, none, iIaddrA 1 4 (.t 443) (.c (.int .i64 (.lit 1)))⟩, [443], false, 0, 1, none, []⟩,
 ⟨⟨some 445, false, none, iLoad (.t 444)⟩, [444], false, 0, 1, none, []⟩,
 ⟨⟨some 446, false, none, iMov (.t 51)⟩, [51], false, 0, 1, none, []⟩,
 ⟨⟨some 447, false, none, iMov (.t 52)⟩, [52], false, 0, 1, none, []⟩,
 ⟨⟨some 448, false, none, iIaddr 4 (.t 446) (.t 447)⟩, [446, 447], false, 0, 1, none, []⟩,
 ⟨⟨some 449, false, none, iIaddrA 1 4 (.t 448) (.c (.int .i64 (.lit 2)))⟩, [448], false, 0, 1, none, []⟩,
 ⟨⟨some 450, false, none, iLoad (.t 449)⟩, [449], false, 0, 1, none, []⟩,
 ⟨⟨some 451, false, none, iCall (.c (.func (.func 14) [] [])) [(.t 435), (.t 440), (.t 445), (.t 450)]⟩, [435, 440, 445, 450], true, 1, 0, none, []⟩,
 ⟨⟨some 434, false, none, iMov (.t 451)⟩, [451], false, 2, 2, none, []⟩,
 ⟨⟨some 452, false, none, iExtract 0 (.t 434)⟩, [434], false, 2, 2, none, []⟩,
 ⟨⟨some 453, false, none, iExtract 1 (.t 434)⟩, [434], false, 2, 2, none, []⟩,
 ⟨⟨some 53, true, none, iMov (.t 452)⟩, [452], false, 2, 2, none, []⟩,
 ⟨⟨some 54, true, none, iMov (.t 453)⟩, [453], false, 2, 2, none, []⟩])
 (cSeq (cOps [⟨some 454, false, none, iMov (.t 54)⟩,
 ⟨some 455, false, none, iCmp .neq (.t 454) (.c (.int .i64 (.lit 0)))⟩,
 ⟨some 456, false, none, iMov (.t 455)⟩,
 ⟨some 457, false, some (456, false), iMov (.t 53)⟩,
 ⟨some 458, false, some (456, false), iMov (.t 51)⟩,
 ⟨some 459, false, some (456, false), iMov (.t 52)⟩,
 ⟨some 460, false, some (456, false), iIaddr 4 (.t 458) (.t 459)⟩,
 ⟨some 461, false, some (456, false), iIaddrA 1 4 (.t 460) (.c (.int .i64 (.lit 3)))⟩,
 ⟨some 462, false, some (456, false), iLoad (.t 461)⟩,
 ⟨some 463, false, some (456, false), iCmp .neq (.t 457) (.t 462)⟩,
 ⟨some 464, true, none, iPick (.t 456) (.c (.bool (.lit true))) (.t 463)⟩])
 (cCond (.t 464) (cSeq (cOps [⟨some 0, true, none, iMov (.c (.bool (.lit false)))⟩])
 cRet) cSkip))))
 (cOps [⟨some 432, false, none, iMov (.t 52)⟩,
 ⟨some 433, false, none, iArith .add (.t 432) (.c (.int .i64 (.lit 1)))⟩,
 ⟨some 52, true, none, iMov (.t 433)⟩]))))))
 (cSeq (cOps [⟨some 465, false, none, iCall (.c (.func (.func 51) [] [])) []⟩,
 ⟨some 55, true, none, iAlloc 26 [.nilslice, (.int .i64 (.lit 0)), .nilslice, (.int .i64 (.lit 0)), (.int .i64 (.lit 0)), .nilslice]⟩,
 ⟨none, false, none, iStore 6 (.t 55) (.t 465)⟩])
 (cSeq (cOps [⟨some 466, false, none, iFaddr 1 (.t 55)⟩,
 ⟨none, false, none, iStore 1 (.t 466) (.c (.int .i64 (.lit 2)))⟩])
 (cSeq (dOps 0 [⟨⟨some 468, false, none, iLoadN 6 (.t 55)⟩, [55], false, 0, 1, none, []⟩,
 ⟨⟨some 469, false, none, iCall (.c (.func (.func 52) [] [])) []⟩, [], true, 0, 0, none, []⟩,
 ⟨⟨some 470, false, none, iCall (.c (.func (.func 29) [] [])) [(.t 468), (.c (.int .i64 (.lit 95))), (.t 469)]⟩, [468, 469], true, 1, 0, none, []⟩,
 ⟨⟨some 467, false, none, iMov (.t 470)⟩, [470], false, 2, 2, none, []⟩,
 ⟨⟨some 471, false, none, iExtract 0 (.t 467)⟩, [467], false, 2, 2, none, []⟩,
 ⟨⟨some 472, false, none, iExtract 1 (.t 467)⟩, [467], false, 2, 2, none, []⟩,
 ⟨⟨some 34, true, none, iMov (.t 472)⟩, [472], false, 2, 2, none, []⟩])
 (cSeq (cOps [⟨some 474, false, none, iCall (.c (.func (.func 49) [] [])) []⟩,
 ⟨some 475, false, none, iCall (.c (.func (.func 52) [] [])) []⟩,
 ⟨some 476, false, none, iCall (.c (.func (.func 30) [] [])) [(.t 474), (.c (.int .i64 (.lit 107))), (.t 475)]⟩,
 ⟨some 473, false, none, iMov (.t 476)⟩,
 ⟨some 477, false, none, iExtract 0 (.t 473)⟩,
 ⟨some 478, false, none, iExtract 1 (.t 473)⟩,
 ⟨some 36, true, none, iMov (.t 478)⟩])
 (cSeq (cOps [⟨some 480, false, none, iCall (.c (.func (.func 49) [] [])) []⟩,
 ⟨some 481, false, none, iBslice 3 [(.int .i64 (.lit 0))] 2 [(0, 1, (.c (.int .i64 (.lit 101)))), (1, 1, (.c (.int .i64 (.lit 105))))]⟩,
 ⟨some 482, false, none, iCall (.c (.func (.func 31) [] [])) [(.t 480), (.t 481)]⟩,
 ⟨some 479, false, none, iMov (.t 482)⟩,
 ⟨some 483, false, none, iExtract 0 (.t 479)⟩,
 ⟨some 484, false, none, iExtract 1 (.t 479)⟩,
 ⟨some 38, true, none, iMov (.t 484)⟩])
 (cSeq (cOps [⟨some 486, false, none, iCall (.c (.func (.func 49) [] [])) []⟩,
 ⟨some 487, false, none, iCall (.c (.func (.func 50) [] [])) [(.c (.int .i64 (.lit 0))), (.c (.int .i64 (.lit 108)))]⟩,
 ⟨some 488, false, none, iBslice 55 [(.int .i64 (.lit 0)), (.int .i64 (.lit 0))] 1 [(0, 2, (.t 487))]⟩,
 ⟨some 489, false, none, iCall (.c (.func (.func 24) [] [])) [(.t 486), (.c (.int .i64 (.lit 95))), (.t 488)]⟩,
 ⟨some 485, false, none, iMov (.t 489)⟩,
 ⟨some 490, false, none, iExtract 0 (.t 485)⟩,
 ⟨some 491, false, none, iExtract 1 (.t 485)⟩,
 ⟨some 56, true, none, iMov (.t 490)⟩,
 ⟨some 40, true, none, iMov (.t 491)⟩])
 (cSeq (cOps [⟨some 493, false, none, iCall (.c (.func (.func 49) [] [])) []⟩,
 ⟨some 494, false, none, iCall (.c (.func (.func 50) [] [])) [(.c (.int .i64 (.lit 0))), (.c (.int .i64 (.lit 107)))]⟩,
 ⟨some 495, false, none, iBslice 55 [(.int .i64 (.lit 0)), (.int .i64 (.lit 0))] 1 [(0, 2, (.t 494))]⟩,
 ⟨some 496, false, none, iCall (.c (.func (.func 24) [] [])) [(.t 493), (.c (.int .i64 (.lit 95))), (.t 495)]⟩,
 ⟨some 492, false, none, iMov (.t 496)⟩,
 ⟨some 497, false, none, iExtract 0 (.t 492)⟩,
 ⟨some 498, false, none, iExtract 1 (.t 492)⟩,
 ⟨some 57, true, none, iMov (.t 497)⟩,
 ⟨some 42, true, none, iMov (.t 498)⟩])
 (cSeq (cOps [⟨some 500, false, none, iCall (.c (.func (.func 49) [] [])) []⟩,
 ⟨some 501, false, none, iCall (.c (.func (.func 50) [] [])) [(.c (.int .i64 (.lit 1))), (.c (.int .i64 (.lit 108)))]⟩,
 ⟨some 502, false, none, iBslice 55 [(.int .i64 (.lit 0)), (.int .i64 (.lit 0))] 1 [(0, 2, (.t 501))]⟩,
 ⟨some 503, false, none, iCall (.c (.func (.func 24) [] [])) [(.t 500), (.c (.int .i64 (.lit 99))), (.t 502)]⟩,
 ⟨some 499, false, none, iMov (.t 503)⟩,
 ⟨some 504, false, none, iExtract 0 (.t 499)⟩,
 ⟨some 505, false, none, iExtract 1 (.t 499)⟩,
 ⟨some 58, true, none, iMov (.t 504)⟩,
 ⟨some 44, true, none, iMov (.t 505)⟩])
 (cSeq (cOps [⟨some 507, false, none, iCall (.c (.func (.func 49) [] [])) []⟩,
 ⟨some 508, false, none, iBslice 3 [(.int .i64 (.lit 0))] 1 [(0, 1, (.c (.int .i64 (.lit 101))))]⟩,
 ⟨some 509, false, none, iCall (.c (.func (.func 30) [] [])) [(.t 507), (.c (.int .i64 (.lit 999))), (.t 508)]⟩,
 ⟨some 506, false, none, iMov (.t 509)⟩,
 ⟨some 510, false, none, iExtract 0 (.t 506)⟩,
 ⟨some 511, false, none, iExtract 1 (.t 506)⟩,
 ⟨some 59, true, none, iMov (.t 510)⟩,
 ⟨some 46, true, none, iMov (.t 511)⟩])
 (cSeq (cOps [⟨some 513, false, none, iCall (.c (.func (.func 49) [] [])) []⟩,
 ⟨some 514, false, none, iBslice 3 [(.int .i64 (.lit 0))] 1 [(0, 1, (.c (.int .i64 (.lit 101))))]⟩,
 ⟨some 515, false, none, iCall (.c (.func (.func 31) [] [])) [(.t 513), (.t 514)]⟩,
 ⟨some 512, false, none, iMov (.t 515)⟩,
 ⟨some 516, false, none, iExtract 0 (.t 512)⟩,
 ⟨some 517, false, none, iExtract 1 (.t 512)⟩,
 ⟨some 60, true, none, iMov (.t 516)⟩,
 ⟨some 48, true, none, iMov (.t 517)⟩])
 (cSeq (cSeq (cOps [⟨some 518, false, none, iMov (.t 34)⟩,
 ⟨some 519, false, none, iCmp .neq (.t 518) (.c (.int .i64 (.lit 4)))⟩,
 ⟨some 520, false, none, iMov (.t 519)⟩,
 ⟨some 521, false, some (520, false), iMov (.t 36)⟩,
 ⟨some 522, false, some (520, false), iCmp .neq (.t 521) (.c (.int .i64 (.lit 4)))⟩,
 ⟨some 523, false, none, iPick (.t 520) (.c (.bool (.lit true))) (.t 522)⟩,
 ⟨some 524, false, none, iMov (.t 523)⟩,
 ⟨some 525, false, some (524, false), iMov (.t 38)⟩,
 ⟨some 526, false, some (524, false), iCmp .neq (.t 525) (.c (.int .i64 (.lit 4)))⟩,
 ⟨some 527, false, none, iPick (.t 524) (.c (.bool (.lit true))) (.t 526)⟩,
 ⟨some 528, false, none, iMov (.t 527)⟩,
 ⟨some 529, false, some (528, false), iMov (.t 40)⟩,
 ⟨some 530, false, some (528, false), iCmp .neq (.t 529) (.c (.int .i64 (.lit 0)))⟩,
 ⟨some 531, false, none, iPick (.t 528) (.c (.bool (.lit true))) (.t 530)⟩,
 ⟨some 532, false, none, iMov (.t 531)⟩,
 ⟨some 533, false, some (532, false), iMov (.t 56)⟩,
 ⟨some 534, false, some (532, false), iNot (.t 533)⟩,
 ⟨some 535, false, none, iPick (.t 532) (.c (.bool (.lit true))) (.t 534)⟩,
 ⟨some 536, false, none, iMov (.t 535)⟩,
 ⟨some 537, false, some (536, false), iMov (.t 42)⟩,
 ⟨some 538, false, some (536, false), iCmp .neq (.t 537) (.c (.int .i64 (.lit 0)))⟩,
 ⟨some 539, false, none, iPick (.t 536) (.c (.bool (.lit true))) (.t 538)⟩,
 ⟨some 540, false, none, iMov (.t 539)⟩,
 ⟨some 541, false, some (540, false), iMov (.t 57)⟩,
 ⟨some 542, false, none, iPick (.t 540) (.c (.bool (.lit true))) (.t 541)⟩,
 ⟨some 543, false, none, iMov (.t 542)⟩,
 ⟨some 544, false, some (543, false), iMov (.t 44)⟩,
 ⟨some 545, false, some (543, false), iCmp .neq (.t 544) (.c (.int .i64 (.lit 0)))⟩,
 ⟨some 546, false, none, iPick (.t 543) (.c (.bool (.lit true))) (.t 545)⟩,
 ⟨some 547, false, none, iMov (.t 546)⟩,
 ⟨some 548, false, some (547, false), iMov (.t 58)⟩,
 ⟨some 549, false, none, iPick (.t 547) (.c (.bool (.lit true))) (.t 548)⟩,
 ⟨some 550, false, none, iMov (.t 549)⟩,
 ⟨some 551, false, some (550, false), iMov (.t 46)⟩,
 ⟨some 552, false, some (550, false), iCmp .neq (.t 551) (.c (.int .i64 (.lit 0)))⟩,
 ⟨some 553, false, none, iPick (.t 550) (.c (.bool (.lit true))) (.t 552)⟩,
 ⟨some 554, false, none, iMov (.t 553)⟩,
 ⟨some 555, false, some (554, false), iMov (.t 59)⟩,
 ⟨some 556, false, some (554, false), iLenS (.t 555)⟩,
 ⟨some 557, false, some (554, false), iCmp .neq (.t 556) (.c (.int .i64 (.lit 0)))⟩,
 ⟨some 558, false, none, iPick (.t 554) (.c (.bool (.lit true))) (.t 557)⟩,
 ⟨some 559, false, none, iMov (.t 558)⟩,
 ⟨some 560, false, some (559, false), iMov (.t 48)⟩,
 ⟨some 561, false, some (559, false), iCmp .neq (.t 560) (.c (.int .i64 (.lit 0)))⟩,
 ⟨some 562, false, none, iPick (.t 559) (.c (.bool (.lit true))) (.t 561)⟩,
 ⟨some 563, false, none, iMov (.t 562)⟩,
 ⟨some 564, false, some (563, false), iMov (.t 60)⟩,
 ⟨some 565, false, some (563, false), iCmp .neq (.t 564) (.c (.int .i64 (.lit 999)))⟩,
 ⟨some 566, true, none, iPick (.t 563) (.c (.bool (.lit true))) (.t 565)⟩])
 (cCond (.t 566) (cSeq (cOps [⟨some 0, true, none, iMov (.c (.bool (.lit false)))⟩])
 cRet) cSkip))
 (cSeq (cOps [⟨some 568, false, none, iCall (.c (.func (.func 49) [] [])) []⟩,
 ⟨some 569, false, none, iCall (.c (.func (.func 52) [] [])) []⟩,
 ⟨some 570, false, none, iCall (.c (.func (.func 33) [] [])) [(.t 568), (.c (.int .i64 (.lit 95))), (.t 569), (.c (.int .i64 (.lit 4)))]⟩,
 ⟨some 567, false, none, iMov (.t 570)⟩,
 ⟨some 571, false, none, iExtract 0 (.t 567)⟩,
 ⟨some 572, false, none, iExtract 1 (.t 567)⟩,
 ⟨some 61, true, none, iMov (.t 571)⟩,
 ⟨some 34, true, none, iMov (.t 572)⟩])
 (cSeq (cOps [⟨some 574, false, none, iCall (.c (.func (.func 49) [] [])) []⟩,
 ⟨some 575, false, none, iCall (.c (.func (.func 52) [] [])) []⟩,
 ⟨some 576, false, none, iCall (.c (.func (.func 33) [] [])) [(.t 574), (.c (.int .i64 (.lit 95))), (.t 575), (.c (.int .i64 (.lit 20)))]⟩,
 ⟨some 573, false, none, iMov (.t 576)⟩,
 ⟨some 577, false, none, iExtract 0 (.t 573)⟩,
 ⟨some 578, false, none, iExtract 1 (.t 573)⟩,
 ⟨some 62, true, none, iMov (.t 577)⟩,
 ⟨some 36, true, none, iMov (.t 578)⟩])
 (cSeq (cOps [⟨some 580, false, none, iCall (.c (.func (.func 49) [] [])) []⟩,
 ⟨some 581, false, none, iCall (.c (.func (.func 52) [] [])) []⟩,
 ⟨some 582, false, none, iCall (.c (.func (.func 29) [] [])) [(.t 580), (.c (.int .i64 (.lit 95))), (.t 581)]⟩,
 ⟨some 579, false, none, iMov (.t 582)⟩,
 ⟨some 583, false, none, iExtract 0 (.t 579)⟩,
 ⟨some 584, false, none, iExtract 1 (.t 579)⟩,
 ⟨some 63, true, none, iMov (.t 583)⟩,
 ⟨some 38, true, none, iMov (.t 584)⟩])
 (cSeq (cOps [⟨some 586, false, none, iCall (.c (.func (.func 49) [] [])) []⟩,
 ⟨some 587, false, none, iCall (.c (.func (.func 40) [] [])) [(.c (.int .i64 (.lit 140))), (.c (.int .i64 (.lit 150)))]⟩,
 ⟨some 588, false, none, iCall (.c (.func (.func 21) [] [])) [(.t 586), (.c (.int .i64 (.lit 1200))), (.t 587)]⟩,
 ⟨some 585, false, none, iMov (.t 588)⟩,
 ⟨some 589, false, none, iExtract 0 (.t 585)⟩,
 ⟨some 590, false, none, iExtract 1 (.t 585)⟩,
 ⟨some 64, true, none, iMov (.t 589)⟩,
 ⟨some 40, true, none, iMov (.t 590)⟩])
 (cSeq (cOps [⟨some 592, false, none, iCall (.c (.func (.func 49) [] [])) []⟩,
 ⟨some 593, false, none, iCall (.c (.func (.func 40) [] [])) [(.c (.int .i64 (.lit 151))), (.c (.int .i64 (.lit 160)))]⟩,
 ⟨some 594, false, none, iCall (.c (.func (.func 21) [] [])) [(.t 592), (.c (.int .i64 (.lit 1200))), (.t 593)]⟩,
 ⟨some 591, false, none, iMov (.t 594)⟩,
 ⟨some 595, false, none, iExtract 0 (.t 591)⟩,
 ⟨some 596, false, none, iExtract 1 (.t 591)⟩,
 ⟨some 65, true, none, iMov (.t 595)⟩,
 ⟨some 42, true, none, iMov (.t 596)⟩])
 (cSeq (cOps [⟨some 598, false, none, iCall (.c (.func (.func 51) [] [])) []⟩,
 ⟨some 599, false, none, iCall (.c (.func (.func 52) [] [])) []⟩,
 ⟨some 600, false, none, iCall (.c (.func (.func 30) [] [])) [(.t 598), (.c (.int .i64 (.lit 95))), (.t 599)]⟩,
 ⟨some 597, false, none, iMov (.t 600)⟩,
 ⟨some 601, false, none, iExtract 0 (.t 597)⟩,
 ⟨some 602, false, none, iExtract 1 (.t 597)⟩,
 ⟨some 66, true, none, iMov (.t 601)⟩,
 ⟨some 44, true, none, iMov (.t 602)⟩])
 (cSeq (cOps [⟨some 603, false, none, iMov (.t 34)⟩,
 ⟨some 604, false, none, iCmp .eql (.t 603) (.c (.int .i64 (.lit 0)))⟩,
 ⟨some 605, false, none, iMov (.t 604)⟩,
 ⟨some 606, false, some (605, true), iMov (.t 61)⟩,
 ⟨some 607, false, some (605, true), iBslice 3 [(.int .i64 (.lit 0))] 1 [(0, 1, (.c (.int .i64 (.lit 101))))]⟩,
 ⟨some 608, false, some (605, true), iCall (.c (.func (.func 20) [] [])) [(.t 606), (.t 607)]⟩,
 ⟨some 609, false, none, iPick (.t 605) (.t 608) (.c (.bool (.lit false)))⟩,
 ⟨some 610, false, none, iMov (.t 609)⟩,
 ⟨some 611, false, some (610, true), iMov (.t 36)⟩,
 ⟨some 612, false, some (610, true), iCmp .eql (.t 611) (.c (.int .i64 (.lit 0)))⟩,
 ⟨some 613, false, none, iPick (.t 610) (.t 612) (.c (.bool (.lit false)))⟩,
 ⟨some 614, false, none, iMov (.t 613)⟩,
 ⟨some 615, false, some (614, true), iMov (.t 62)⟩,
 ⟨some 616, false, some (614, true), iCall (.c (.func (.func 52) [] [])) []⟩,
 ⟨some 617, false, some (614, true), iCall (.c (.func (.func 20) [] [])) [(.t 615), (.t 616)]⟩,
 ⟨some 618, false, none, iPick (.t 614) (.t 617) (.c (.bool (.lit false)))⟩,
 ⟨some 619, false, none, iMov (.t 618)⟩,
 ⟨some 620, false, some (619, true), iMov (.t 38)⟩,
 ⟨some 621, false, some (619, true), iCmp .eql (.t 620) (.c (.int .i64 (.lit 0)))⟩,
 ⟨some 622, false, none, iPick (.t 619) (.t 621) (.c (.bool (.lit false)))⟩,
 ⟨some 623, false, none, iMov (.t 622)⟩,
 ⟨some 624, false, some (623, true), iMov (.t 63)⟩,
 ⟨some 625, false, some (623, true), iCmp .eql (.t 624) (.c (.int .i64 (.lit 15)))⟩,
 ⟨some 626, false, none, iPick (.t 623) (.t 625) (.c (.bool (.lit false)))⟩,
 ⟨some 627, false, none, iMov (.t 626)⟩,
 ⟨some 628, false, some (627, true), iMov (.t 40)⟩,
 ⟨some 629, false, some (627, true), iCmp .eql (.t 628) (.c (.int .i64 (.lit 0)))⟩,
 ⟨some 630, false, none, iPick (.t 627) (.t 629) (.c (.bool (.lit false)))⟩,
 ⟨some 631, false, none, iMov (.t 630)⟩,
 ⟨some 632, false, some (631, true), iMov (.t 64)⟩,
 ⟨some 633, false, some (631, true), iCmp .eql (.t 632) (.c (.int .i64 (.lit 2)))⟩,
 ⟨some 634, false, none, iPick (.t 631) (.t 633) (.c (.bool (.lit false)))⟩,
 ⟨some 635, false, none, iMov (.t 634)⟩,
 ⟨some 636, false, some (635, true), iMov (.t 42)⟩,
 ⟨some 637, false, some (635, true), iCmp .eql (.t 636) (.c (.int .i64 (.lit 0)))⟩,
 ⟨some 638, false, none, iPick (.t 635) (.t 637) (.c (.bool (.lit false)))⟩,
 ⟨some 639, false, none, iMov (.t 638)⟩,
 ⟨some 640, false, some (639, true), iMov (.t 65)⟩,
 ⟨some 641, false, some (639, true), iCmp .eql (.t 640) (.c (.int .i64 (.lit 0)))⟩,
 ⟨some 642, false, none, iPick (.t 639) (.t 641) (.c (.bool (.lit false)))⟩,
 ⟨some 643, false, none, iMov (.t 642)⟩,
 ⟨some 644, false, some (643, true), iMov (.t 44)⟩,
 ⟨some 645, false, some (643, true), iCmp .eql (.t 644) (.c (.int .i64 (.lit 0)))⟩,
 ⟨some 646, false, none, iPick (.t 643) (.t 645) (.c (.bool (.lit false)))⟩,
 ⟨some 647, false, none, iMov (.t 646)⟩,
 ⟨some 648, false, some (647, true), iMov (.t 66)⟩,
 ⟨some 649, false, some (647, true), iLenS (.t 648)⟩,
 ⟨some 650, false, some (647, true), iCmp .eql (.t 649) (.c (.int .i64 (.lit 1)))⟩,
 ⟨some 651, false, none, iPick (.t 647) (.t 650) (.c (.bool (.lit false)))⟩,
 ⟨some 652, false, none, iMov (.t 651)⟩,
 ⟨some 653, false, some (652, true), iMov (.t 66)⟩,
 ⟨some 654, false, some (652, true), iIaddr 2 (.t 653) (.c (.int .i64 (.lit 0)))⟩,
 ⟨some 655, false, some (652, true), iFaddr 0 (.t 654)⟩,
 ⟨some 656, false, some (652, true), iLoad (.t 655)⟩,
 ⟨some 657, false, some (652, true), iCmp .eql (.t 656) (.c (.int .i64 (.lit 1)))⟩,
 ⟨some 658, false, none, iPick (.t 652) (.t 657) (.c (.bool (.lit false)))⟩,
 ⟨some 659, false, none, iMov (.t 658)⟩,
 ⟨some 660, false, none, iPick (.t 659) (.c (.bool (.lit true))) (.c (.bool (.lit false)))⟩,
 ⟨some 661, false, none, iMov (.t 660)⟩,
 ⟨some 662, false, some (661, true), iCall (.c (.func (.func 23) [] [])) []⟩,
 ⟨some 663, false, none, iPick (.t 661) (.t 662) (.c (.bool (.lit false)))⟩,
 ⟨some 0, true, none, iMov (.t 663)⟩])
 cRet))))))))))))))))))))))))))))))))))))))))))))))), [.t 0]⟩
noncomputable def Tryd.kp14 : List Nat := [0, 1, 2, 3, 4, 8, 9, 10, 11, 18, 32]
noncomputable def Tryd.cf14 : CF := ⟨4, (cSeq (cOps [⟨some 4, true, none, iBox 26 (.t 0)⟩,
 ⟨some 8, true, none, iMov (.c (.int .i64 (.lit 0)))⟩,
 ⟨some 9, true, none, iMov (.c (.int .i64 (.lit 0)))⟩])
 (cSeq (cOps [⟨some 13, false, none, iLoadN 6 (.t 4)⟩,
 ⟨some 14, false, none, iCall (.c (.func (.func 53) [] [])) [(.t 13)]⟩,
 ⟨some 12, false, none, iMov (.t 14)⟩,
 ⟨some 15, false, none, iExtract 0 (.t 12)⟩,
 ⟨some 16, false, none, iExtract 1 (.t 12)⟩,
 ⟨some 10, true, none, iAlloc 89 [.nilslice, (.int .i64 (.lit 0)), .nilslice, (.int .i64 (.lit 0)), (.int .i64 (.lit 0)), .nilslice]⟩,
 ⟨none, false, none, iStore 6 (.t 10) (.t 15)⟩,
 ⟨some 11, true, none, iMov (.t 16)⟩])
 (cSeq (cSeq (cOps [⟨some 17, false, none, iMov (.t 11)⟩,
 ⟨some 18, true, none, iCmp .neq (.t 17) (.c (.int .i64 (.lit 0)))⟩])
 (cCond (.t 18) (cSeq (cOps [⟨some 19, false, none, iMov (.t 11)⟩,
 ⟨some 8, true, none, iMov (.c (.int .i64 (.lit 0)))⟩,
 ⟨some 9, true, none, iMov (.t 19)⟩])
 cRet) cSkip))
 (cSeq (cSeq (cOps [⟨some 20, false, none, iMov (.t 1)⟩,
 ⟨some 21, false, none, iCall (.c (.func (.func 54) [] [])) [(.t 20)]⟩,
 ⟨some 22, false, none, iNot (.t 21)⟩,
 ⟨some 23, false, none, iMov (.t 22)⟩,
 ⟨some 24, false, some (23, false), iMov (.t 2)⟩,
 ⟨some 25, false, some (23, false), iCall (.c (.func (.func 55) [] [])) [(.t 24)]⟩,
 ⟨some 26, false, some (23, false), iNot (.t 25)⟩,
 ⟨some 27, false, none, iPick (.t 23) (.c (.bool (.lit true))) (.t 26)⟩,
 ⟨some 28, false, none, iMov (.t 27)⟩,
 ⟨some 29, false, some (28, false), iMov (.t 3)⟩,
 ⟨some 30, false, some (28, false), iCall (.c (.func (.func 56) [] [])) [(.t 29)]⟩,
 ⟨some 31, false, some (28, false), iNot (.t 30)⟩,
 ⟨some 32, true, none, iPick (.t 28) (.c (.bool (.lit true))) (.t 31)⟩])
 (cCond (.t 32) (cSeq (cOps [⟨some 8, true, none, iMov (.c (.int .i64 (.lit 0)))⟩,
 ⟨some 9, true, none, iMov (.c (.int .i64 (.lit 51)))⟩])
 cRet) cSkip))
 (cSeq (cOps [⟨some 33, false, none, iLoadN 6 (.t 10)⟩,
 ⟨some 34, false, none, iMov (.t 1)⟩,
 ⟨some 35, false, none, iMov (.t 2)⟩,
 ⟨some 36, false, none, iMov (.t 3)⟩,
 ⟨some 37, false, none, iBuild [(.int .i64 (.lit 0)), (.int .i64 (.lit 0)), (.int .i64 (.lit 0))] [(0, 1, (.t 34)), (1, 1, (.t 35)), (2, 1, (.t 36))]⟩,
 ⟨some 38, false, none, iCall (.c (.func (.func 57) [] [])) [(.t 33), (.t 37)]⟩,
 ⟨some 8, true, none, iMov (.t 38)⟩,
 ⟨some 9, true, none, iMov (.c (.int .i64 (.lit 0)))⟩])
 cRet))))), [.t 8, .t 9]⟩
noncomputable def Tryd.kp16 : List Nat := [0, 1, 2, 4]
noncomputable def Tryd.cf16 : CF := ⟨1, (cSeq (cOps [⟨some 1, true, none, iBox 26 (.t 0)⟩,
 ⟨some 2, true, none, iMov (.c (.int .i64 (.lit 0)))⟩])
 (cSeq (cOps [⟨some 6, false, none, iLoadN 6 (.t 1)⟩,
 ⟨some 7, false, none, iCall (.c (.func (.func 53) [] [])) [(.t 6)]⟩,
 ⟨some 5, false, none, iMov (.t 7)⟩,
 ⟨some 8, false, none, iExtract 0 (.t 5)⟩,
 ⟨some 9, false, none, iExtract 1 (.t 5)⟩,
 ⟨some 3, false, none, iAlloc 89 [.nilslice, (.int .i64 (.lit 0)), .nilslice, (.int .i64 (.lit 0)), (.int .i64 (.lit 0)), .nilslice]⟩,
 ⟨none, false, none, iStore 6 (.t 3) (.t 8)⟩,
 ⟨some 4, true, none, iMov (.t 9)⟩])
 (cSeq (cOps [⟨some 10, false, none, iMov (.t 4)⟩,
 ⟨some 2, true, none, iMov (.t 10)⟩])
 cRet))), [.t 2]⟩
noncomputable def Tryd.kp18 : List Nat := [0, 1, 2, 3, 4, 5, 6, 7, 14, 18]
noncomputable def Tryd.cf18 : CF := ⟨2, (cSeq (cOps [⟨some 2, true, none, iBox 26 (.t 0)⟩,
 ⟨some 3, true, none, iBox 29 (.t 1)⟩,
 ⟨some 4, true, none, iMov (.c .nilslice)⟩,
 ⟨some 5, true, none, iMov (.c (.int .i64 (.lit 0)))⟩])
 (cSeq (cOps [⟨some 9, false, none, iLoadN 6 (.t 2)⟩,
 ⟨some 10, false, none, iCall (.c (.func (.func 53) [] [])) [(.t 9)]⟩,
 ⟨some 8, false, none, iMov (.t 10)⟩,
 ⟨some 11, false, none, iExtract 0 (.t 8)⟩,
 ⟨some 12, false, none, iExtract 1 (.t 8)⟩,
 ⟨some 6, true, none, iAlloc 89 [.nilslice, (.int .i64 (.lit 0)), .nilslice, (.int .i64 (.lit 0)), (.int .i64 (.lit 0)), .nilslice]⟩,
 ⟨none, false, none, iStore 6 (.t 6) (.t 11)⟩,
 ⟨some 7, true, none, iMov (.t 12)⟩])
 (cSeq (cSeq (cOps [⟨some 13, false, none, iMov (.t 7)⟩,
 ⟨some 14, true, none, iCmp .neq (.t 13) (.c (.int .i64 (.lit 0)))⟩])
 (cCond (.t 14) (cSeq (cOps [⟨some 15, false, none, iMov (.t 7)⟩,
 ⟨some 4, true, none, iMov (.c .nilslice)⟩,
 ⟨some 5, true, none, iMov (.t 15)⟩])
 cRet) cSkip))
 (cSeq (cSeq (cOps [⟨some 16, false, none, iLoadN 2 (.t 3)⟩,
 ⟨some 17, false, none, iCall (.c (.func (.func 66) [] [])) [(.t 16)]⟩,
 ⟨some 18, true, none, iNot (.t 17)⟩])
 (cCond (.t 18) (cSeq (cOps [⟨some 4, true, none, iMov (.c .nilslice)⟩,
 ⟨some 5, true, none, iMov (.c (.int .i64 (.lit 51)))⟩])
 cRet) cSkip))
 (cSeq (cOps [⟨some 19, false, none, iLoadN 6 (.t 6)⟩,
 ⟨some 20, false, none, iLoadN 2 (.t 3)⟩,
 ⟨some 21, false, none, iCall (.c (.func (.func 67) [] [])) [(.t 19), (.t 20)]⟩,
 ⟨some 4, true, none, iMov (.t 21)⟩,
 ⟨some 5, true, none, iMov (.c (.int .i64 (.lit 0)))⟩])
 cRet))))), [.t 4, .t 5]⟩
noncomputable def Tryd.kp20 : List Nat := [0, 1, 4, 5, 6, 18]
noncomputable def Tryd.cf20 : CF := ⟨2, (cSeq (cOps [⟨some 4, true, none, iMov (.c (.bool (.lit false)))⟩])
 (cSeq (cOps [⟨some 7, false, none, iMov (.t 0)⟩,
 ⟨some 8, false, none, iLenS (.t 7)⟩,
 ⟨some 9, false, none, iMov (.t 1)⟩,
 ⟨some 10, false, none, iLenS (.t 9)⟩,
 ⟨some 11, false, none, iCmp .eql (.t 8) (.t 10)⟩,
 ⟨some 5, true, none, iMov (.t 11)⟩])
 (cSeq (cSeq (cOps [⟨some 6, true, none, iMov (.c (.int .i64 (.lit 0)))⟩])
 (cBlock 0 (cLoop (cSeq (cSeq (cOps [⟨some 12, false, none, iMov (.t 5)⟩,
 ⟨some 13, false, none, iMov (.t 12)⟩,
 ⟨some 14, false, some (13, true), iMov (.t 6)⟩,
 ⟨some 15, false, some (13, true), iMov (.t 0)⟩,
 ⟨some 16, false, some (13, true), iLenS (.t 15)⟩,
 ⟨some 17, false, some (13, true), iCmp .lss (.t 14) (.t 16)⟩,
 ⟨some 18, true, none, iPick (.t 13) (.t 17) (.c (.bool (.lit false)))⟩])
 (cCond (.t 18) cSkip (cExit 0)))
 (cSeq (cBlock 1 (dOps 0 [⟨⟨some 21, false, none, iMov (.t 0)⟩, [0], false, 0, 0, none, []⟩,
 ⟨⟨some 22, false, none, iMov (.t 6)⟩, [6], false, 0, 0, none, []⟩,
 ⟨⟨some 23, false, none, iIaddr 1 (.t 21) (.t 22)⟩, [21, 22], false, 0, 0, none, []⟩,
 ⟨⟨some 24, false, none, iLoad (.t 23)⟩, [23], false, 0, 0, none, []⟩,
 ⟨⟨some 25, false, none, iMov (.t 1)⟩, [1], false, 0, 0, none, []⟩,
 ⟨⟨some 26, false, none, iMov (.t 6)⟩, [6], false, 0, 0, none, []⟩,
 ⟨⟨some 27, false, none, iIaddr 1 (.t 25) (.t 26)⟩, [25, 26], false, 0, 0, none, []⟩,
 ⟨⟨some 28, false, none, iLoad (.t 27)⟩, [27], false, 0, 0, none, []⟩,
 ⟨⟨some 29, false, none, iCmp .eql (.t 24) (.t 28)⟩, [24, 28], false, 0, 0, none, []⟩,
 ⟨⟨some 5, true, none, iMov (.t 29)⟩, [29], false, 0, 0, none, []⟩]))
 (cOps [⟨some 19, false, none, iMov (.t 6)⟩,
 ⟨some 20, false, none, iArith .add (.t 19) (.c (.int .i64 (.lit 1)))⟩,
 ⟨some 6, true, none, iMov (.t 20)⟩]))))))
 (cSeq (cOps [⟨some 30, false, none, iMov (.t 5)⟩,
 ⟨some 4, true, none, iMov (.t 30)⟩])
 cRet)))), [.t 4]⟩
noncomputable def Tryd.kp21 : List Nat := [0, 1, 2, 3, 5, 6, 7, 8, 9, 16, 39]
noncomputable def Tryd.cf21 : CF := ⟨3, (cSeq (cOps [⟨some 3, true, none, iBox 26 (.t 0)⟩,
 ⟨some 5, true, none, iBox 29 (.t 2)⟩,
 ⟨some 6, true, none, iMov (.c (.int .i64 (.lit 0)))⟩,
 ⟨some 7, true, none, iMov (.c (.int .i64 (.lit 0)))⟩])
 (cSeq (cOps [⟨some 11, false, none, iLoadN 6 (.t 3)⟩,
 ⟨some 12, false, none, iCall (.c (.func (.func 53) [] [])) [(.t 11)]⟩,
 ⟨some 10, false, none, iMov (.t 12)⟩,
 ⟨some 13, false, none, iExtract 0 (.t 10)⟩,
 ⟨some 14, false, none, iExtract 1 (.t 10)⟩,
 ⟨some 8, true, none, iAlloc 89 [.nilslice, (.int .i64 (.lit 0)), .nilslice, (.int .i64 (.lit 0)), (.int .i64 (.lit 0)), .nilslice]⟩,
 ⟨none, false, none, iStore 6 (.t 8) (.t 13)⟩,
 ⟨some 9, true, none, iMov (.t 14)⟩])
 (cSeq (cSeq (cOps [⟨some 15, false, none, iMov (.t 9)⟩,
 ⟨some 16, true, none, iCmp .neq (.t 15) (.c (.int .i64 (.lit 0)))⟩])
 (cCond (.t 16) (cSeq (cOps [⟨some 17, false, none, iMov (.t 9)⟩,
 ⟨some 6, true, none, iMov (.c (.int .i64 (.lit 0)))⟩,
 ⟨some 7, true, none, iMov (.t 17)⟩])
 cRet) cSkip))
 (cSeq (cSeq (cOps [⟨some 18, false, none, iMov (.t 1)⟩,
 ⟨some 19, false, none, iCall (.c (.func (.func 56) [] [])) [(.t 18)]⟩,
 ⟨some 20, false, none, iNot (.t 19)⟩,
 ⟨some 21, false, none, iMov (.t 20)⟩,
 ⟨some 22, false, some (21, false), iFaddr 0 (.t 5)⟩,
 ⟨some 23, false, some (21, false), iLoad (.t 22)⟩,
 ⟨some 24, false, some (21, false), iFaddr 1 (.t 5)⟩,
 ⟨some 25, false, some (21, false), iLoad (.t 24)⟩,
 ⟨some 26, false, some (21, false), iCmp .gtr (.t 23) (.t 25)⟩,
 ⟨some 27, false, none, iPick (.t 21) (.c (.bool (.lit true))) (.t 26)⟩,
 ⟨some 28, false, none, iMov (.t 27)⟩,
 ⟨some 29, false, some (28, false), iFaddr 0 (.t 5)⟩,
 ⟨some 30, false, some (28, false), iLoad (.t 29)⟩,
 ⟨some 31, false, some (28, false), iCall (.c (.func (.func 56) [] [])) [(.t 30)]⟩,
 ⟨some 32, false, some (28, false), iNot (.t 31)⟩,
 ⟨some 33, false, none, iPick (.t 28) (.c (.bool (.lit true))) (.t 32)⟩,
 ⟨some 34, false, none, iMov (.t 33)⟩,
 ⟨some 35, false, some (34, false), iFaddr 1 (.t 5)⟩,
 ⟨some 36, false, some (34, false), iLoad (.t 35)⟩,
 ⟨some 37, false, some (34, false), iCall (.c (.func (.func 56) [] [])) [(.t 36)]⟩,
 ⟨some 38, false, some (34, false), iNot (.t 37)⟩,
 ⟨some 39, true, none, iPick (.t 34) (.c (.bool (.lit true))) (.t 38)⟩])
 (cCond (.t 39) (cSeq (cOps [⟨some 6, true, none, iMov (.c (.int .i64 (.lit 0)))⟩,
 ⟨some 7, true, none, iMov (.c (.int .i64 (.lit 51)))⟩])
 cRet) cSkip))
 (cSeq (cOps [⟨some 40, false, none, iLoadN 6 (.t 8)⟩,
 ⟨some 41, false, none, iMov (.t 1)⟩,
 ⟨some 42, false, none, iLoadN 2 (.t 5)⟩,
 ⟨some 43, false, none, iCall (.c (.func (.func 68) [] [])) [(.t 40), (.t 41), (.t 42)]⟩,
 ⟨some 6, true, none, iMov (.t 43)⟩,
 ⟨some 7, true, none, iMov (.c (.int .i64 (.lit 0)))⟩])
 cRet))))), [.t 6, .t 7]⟩
noncomputable def Tryd.kp23 : List Nat := [0, 1, 2, 3, 4, 5, 6, 7, 8, 9, 10, 11, 12, 13, 74]
noncomputable def Tryd.cf23 : CF := ⟨0, (cSeq (cOps [⟨some 0, true, none, iMov (.c (.bool (.lit false)))⟩])
 (cSeq (cOps [⟨some 15, false, none, iCall (.c (.func (.func 49) [] [])) []⟩,
 ⟨some 16, false, none, iCall (.c (.func (.func 14) [] [])) [(.t 15), (.c (.int .i64 (.lit 101))), (.c (.int .i64 (.lit 3))), (.c (.int .i64 (.lit 1350)))]⟩,
 ⟨some 14, false, none, iMov (.t 16)⟩,
 ⟨some 17, false, none, iExtract 0 (.t 14)⟩,
 ⟨some 18, false, none, iExtract 1 (.t 14)⟩,
 ⟨some 1, true, none, iMov (.t 17)⟩,
 ⟨some 2, true, none, iMov (.t 18)⟩])
 (cSeq (cOps [⟨some 20, false, none, iCall (.c (.func (.func 49) [] [])) []⟩,
 ⟨some 21, false, none, iCall (.c (.func (.func 40) [] [])) [(.c (.int .i64 (.lit 98))), (.c (.int .i64 (.lit 110)))]⟩,
 ⟨some 22, false, none, iCall (.c (.func (.func 18) [] [])) [(.t 20), (.t 21)]⟩,
 ⟨some 19, false, none, iMov (.t 22)⟩,
 ⟨some 23, false, none, iExtract 0 (.t 19)⟩,
 ⟨some 24, false, none, iExtract 1 (.t 19)⟩,
 ⟨some 3, true, none, iMov (.t 23)⟩,
 ⟨some 4, true, none, iMov (.t 24)⟩])
 (cSeq (cOps [⟨some 26, false, none, iCall (.c (.func (.func 49) [] [])) []⟩,
 ⟨some 27, false, none, iCall (.c (.func (.func 50) [] [])) [(.c (.int .i64 (.lit 1))), (.c (.int .i64 (.lit 108)))]⟩,
 ⟨some 28, false, none, iBslice 55 [(.int .i64 (.lit 0)), (.int .i64 (.lit 0))] 1 [(0, 2, (.t 27))]⟩,
 ⟨some 29, false, none, iCall (.c (.func (.func 24) [] [])) [(.t 26), (.c (.int .i64 (.lit 95))), (.t 28)]⟩,
 ⟨some 25, false, none, iMov (.t 29)⟩,
 ⟨some 30, false, none, iExtract 0 (.t 25)⟩,
 ⟨some 31, false, none, iExtract 1 (.t 25)⟩,
 ⟨some 5, true, none, iMov (.t 30)⟩,
 ⟨some 6, true, none, iMov (.t 31)⟩])
 (cSeq (cOps [⟨some 33, false, none, iCall (.c (.func (.func 49) [] [])) []⟩,
 ⟨some 34, false, none, iCall (.c (.func (.func 50) [] [])) [(.c (.int .i64 (.lit 0))), (.c (.int .i64 (.lit 108)))]⟩,
 ⟨some 35, false, none, iCall (.c (.func (.func 50) [] [])) [(.c (.int .i64 (.lit 0))), (.c (.int .i64 (.lit 112)))]⟩,
 ⟨some 36, false, none, iBslice 55 [(.int .i64 (.lit 0)), (.int .i64 (.lit 0))] 2 [(0, 2, (.t 34)), (2, 2, (.t 35))]⟩,
 ⟨some 37, false, none, iCall (.c (.func (.func 52) [] [])) []⟩,
 ⟨some 38, false, none, iCall (.c (.func (.func 26) [] [])) [(.t 33), (.t 36), (.t 37)]⟩,
 ⟨some 32, false, none, iMov (.t 38)⟩,
 ⟨some 39, false, none, iExtract 0 (.t 32)⟩,
 ⟨some 40, false, none, iExtract 1 (.t 32)⟩,
 ⟨some 7, true, none, iMov (.t 39)⟩,
 ⟨some 8, true, none, iMov (.t 40)⟩])
 (cSeq (cSeq (cOps [⟨some 41, false, none, iMov (.t 2)⟩,
 ⟨some 42, false, none, iCmp .neq (.t 41) (.c (.int .i64 (.lit 0)))⟩,
 ⟨some 43, false, none, iMov (.t 42)⟩,
 ⟨some 44, false, some (43, false), iMov (.t 4)⟩,
 ⟨some 45, false, some (43, false), iCmp .neq (.t 44) (.c (.int .i64 (.lit 0)))⟩,
 ⟨some 46, false, none, iPick (.t 43) (.c (.bool (.lit true))) (.t 45)⟩,
 ⟨some 47, false, none, iMov (.t 46)⟩,
 ⟨some 48, false, some (47, false), iMov (.t 6)⟩,
 ⟨some 49, false, some (47, false), iCmp .neq (.t 48) (.c (.int .i64 (.lit 0)))⟩,
 ⟨some 50, false, none, iPick (.t 47) (.c (.bool (.lit true))) (.t 49)⟩,
 ⟨some 51, false, none, iMov (.t 50)⟩,
 ⟨some 52, false, some (51, false), iMov (.t 8)⟩,
 ⟨some 53, false, some (51, false), iCmp .neq (.t 52) (.c (.int .i64 (.lit 0)))⟩,
 ⟨some 54, false, none, iPick (.t 51) (.c (.bool (.lit true))) (.t 53)⟩,
 ⟨some 55, false, none, iMov (.t 54)⟩,
 ⟨some 56, false, some (55, false), iMov (.t 1)⟩,
 ⟨some 57, false, some (55, false), iCmp .neq (.t 56) (.c (.int .i64 (.lit 3)))⟩,
 ⟨some 58, false, none, iPick (.t 55) (.c (.bool (.lit true))) (.t 57)⟩,
 ⟨some 59, false, none, iMov (.t 58)⟩,
 ⟨some 60, false, some (59, false), iMov (.t 3)⟩,
 ⟨some 61, false, some (59, false), iBslice 3 [(.int .i64 (.lit 0))] 5 [(0, 1, (.c (.int .i64 (.lit 100)))), (1, 1, (.c (.int .i64 (.lit 101)))), (2, 1, (.c (.int .i64 (.lit 102)))), (3, 1, (.c (.int .i64 (.lit 103)))), (4, 1, (.c (.int .i64 (.lit 104))))]⟩,
 ⟨some 62, false, some (59, false), iCall (.c (.func (.func 20) [] [])) [(.t 60), (.t 61)]⟩,
 ⟨some 63, false, some (59, false), iNot (.t 62)⟩,
 ⟨some 64, false, none, iPick (.t 59) (.c (.bool (.lit true))) (.t 63)⟩,
 ⟨some 65, false, none, iMov (.t 64)⟩,
 ⟨some 66, false, some (65, false), iMov (.t 5)⟩,
 ⟨some 67, false, some (65, false), iNot (.t 66)⟩,
 ⟨some 68, false, none, iPick (.t 65) (.c (.bool (.lit true))) (.t 67)⟩,
 ⟨some 69, false, none, iMov (.t 68)⟩,
 ⟨some 70, false, some (69, false), iMov (.t 7)⟩,
 ⟨some 71, false, some (69, false), iBslice 3 [(.int .i64 (.lit 0))] 1 [(0, 1, (.c (.int .i64 (.lit 110))))]⟩,
 ⟨some 72, false, some (69, false), iCall (.c (.func (.func 20) [] [])) [(.t 70), (.t 71)]⟩,
 ⟨some 73, false, some (69, false), iNot (.t 72)⟩,
 ⟨some 74, true, none, iPick (.t 69) (.c (.bool (.lit true))) (.t 73)⟩])
 (cCond (.t 74) (cSeq (cOps [⟨some 0, true, none, iMov (.c (.bool (.lit false)))⟩])
 cRet) cSkip))
 (cSeq (cOps [⟨some 76, false, none, iCall (.c (.func (.func 49) [] [])) []⟩,
 ⟨some 77, false, none, iCall (.c (.func (.func 52) [] [])) []⟩,
 ⟨some 78, false, none, iCall (.c (.func (.func 30) [] [])) [(.t 76), (.c (.int .i64 (.lit 95))), (.t 77)]⟩,
 ⟨some 75, false, none, iMov (.t 78)⟩,
 ⟨some 79, false, none, iExtract 0 (.t 75)⟩,
 ⟨some 80, false, none, iExtract 1 (.t 75)⟩,
 ⟨some 9, true, none, iMov (.t 79)⟩,
 ⟨some 2, true, none, iMov (.t 80)⟩])
 (cSeq (cOps [⟨some 82, false, none, iCall (.c (.func (.func 51) [] [])) []⟩,
 ⟨some 83, false, none, iCall (.c (.func (.func 52) [] [])) []⟩,
 ⟨some 84, false, none, iCall (.c (.func (.func 29) [] [])) [(.t 82), (.c (.int .i64 (.lit 95))), (.t 83)]⟩,
 ⟨some 81, false, none, iMov (.t 84)⟩,
 ⟨some 85, false, none, iExtract 0 (.t 81)⟩,
 ⟨some 86, false, none, iExtract 1 (.t 81)⟩,
 ⟨some 10, true, none, iMov (.t 85)⟩,
 ⟨some 4, true, none, iMov (.t 86)⟩])
 (cSeq (cOps [⟨some 88, false, none, iCall (.c (.func (.func 49) [] [])) []⟩,
 ⟨some 89, false, none, iCall (.c (.func (.func 52) [] [])) []⟩,
 ⟨some 90, false, none, iCall (.c (.func (.func 31) [] [])) [(.t 88), (.t 89)]⟩,
 ⟨some 87, false, none, iMov (.t 90)⟩,
 ⟨some 91, false, none, iExtract 0 (.t 87)⟩,
 ⟨some 92, false, none, iExtract 1 (.t 87)⟩,
 ⟨some 11, true, none, iMov (.t 91)⟩,
 ⟨some 6, true, none, iMov (.t 92)⟩])
 (cSeq (cOps [⟨some 94, false, none, iCall (.c (.func (.func 49) [] [])) []⟩,
 ⟨some 95, false, none, iCall (.c (.func (.func 52) [] [])) []⟩,
 ⟨some 96, false, none, iCall (.c (.func (.func 33) [] [])) [(.t 94), (.c (.int .i64 (.lit 95))), (.t 95), (.c (.int .i64 (.lit 10)))]⟩,
 ⟨some 93, false, none, iMov (.t 96)⟩,
 ⟨some 97, false, none, iExtract 0 (.t 93)⟩,
 ⟨some 98, false, none, iExtract 1 (.t 93)⟩,
 ⟨some 3, true, none, iMov (.t 97)⟩,
 ⟨some 8, true, none, iMov (.t 98)⟩])
 (cSeq (cOps [⟨some 100, false, none, iCall (.c (.func (.func 49) [] [])) []⟩,
 ⟨some 101, false, none, iCall (.c (.func (.func 40) [] [])) [(.c (.int .i64 (.lit 150))), (.c (.int .i64 (.lit 160)))]⟩,
 ⟨some 102, false, none, iCall (.c (.func (.func 21) [] [])) [(.t 100), (.c (.int .i64 (.lit 1200))), (.t 101)]⟩,
 ⟨some 99, false, none, iMov (.t 102)⟩,
 ⟨some 103, false, none, iExtract 0 (.t 99)⟩,
 ⟨some 104, false, none, iExtract 1 (.t 99)⟩,
 ⟨some 12, true, none, iMov (.t 103)⟩,
 ⟨some 13, true, none, iMov (.t 104)⟩])
 (cSeq (dOps 0 [⟨⟨some 105, false, none, iMov (.t 2)⟩, [2], false, 0, 0, none, []⟩,
 ⟨⟨some 106, false, none, iCmp .eql (.t 105) (.c (.int .i64 (.lit 0)))⟩, [105], false, 0, 0, none, []⟩,
 ⟨⟨some 107, false, none, iMov (.t 106)⟩, [106], false, 0, 0, none, []⟩,
 ⟨⟨some 108, false, some (107, true), iMov (.t 4)⟩, [107, 4], false, 0, 0, none, []⟩,
 ⟨⟨some 109, false, some (107, true), iCmp .eql (.t 108) (.c (.int .i64 (.lit 0)))⟩, [107, 108], false, 0, 0, none, []⟩,
 ⟨⟨some 110, false, none, iPick (.t 107) (.t 109) (.c (.bool (.lit false)))⟩, [107, 109], false, 0, 0, none, []⟩,
 ⟨⟨some 111, false, none, iMov (.t 110)⟩, [110], false, 0, 0, none, []⟩,
 ⟨⟨some 112, false, some (111, true), iMov (.t 6)⟩, [111, 6], false, 0, 0, none, []⟩,
 ⟨⟨some 113, false, some (111, true), iCmp .eql (.t 112) (.c (.int .i64 (.lit 0)))⟩, [111, 112], false, 0, 0, none, []⟩,
 ⟨⟨some 114, false, none, iPick (.t 111) (.t 113) (.c (.bool (.lit false)))⟩, [111, 113], false, 0, 0, none, []⟩,
 ⟨⟨some 115, false, none, iMov (.t 114)⟩, [114], false, 0, 0, none, []⟩,
 ⟨⟨some 116, false, some (115, true), iMov (.t 8)⟩, [115, 8], false, 0, 0, none, []⟩,
 ⟨⟨some 117, false, some (115, true), iCmp .eql (.t 116) (.c (.int .i64 (.lit 0)))⟩, [115, 116], false, 0, 0, none, []⟩,
 ⟨⟨some 118, false, none, iPick (.t 115) (.t 117) (.c (.bool (.lit false)))⟩, [115, 117], false, 0, 0, none, []⟩,
 ⟨⟨some 119, false, none, iMov (.t 118)⟩, [118], false, 0, 0, none, []⟩,
 ⟨⟨some 120, false, some (119, true), iMov (.t 13)⟩, [119, 13], false, 0, 0, none, []⟩,
 ⟨⟨some 121, false, some (119, true), iCmp .eql (.t 120) (.c (.int .i64 (.lit 0)))⟩, [119, 120], false, 0, 0, none, []⟩,
 ⟨⟨some 122, false, none, iPick (.t 119) (.t 121) (.c (.bool (.lit false)))⟩, [119, 121], false, 0, 0, none, []⟩,
 ⟨⟨some 123, false, none, iMov (.t 122)⟩, [122], false, 0, 0, none, []⟩,
 ⟨⟨some 124, false, some (123, true), iMov (.t 9)⟩, [123, 9], false, 0, 0, none, []⟩,
 ⟨⟨some 125, false, some (123, true), iLenS (.t 124)⟩, [123, 124], false, 0, 0, none, []⟩,
 ⟨⟨some 126, false, some (123, true), iCmp .eql (.t 125) (.c (.int .i64 (.lit 3)))⟩, [123, 125], false, 0, 0, none, []⟩,
 ⟨⟨some 127, false, none, iPick (.t 123) (.t 126) (.c (.bool (.lit false)))⟩, [123, 126], false, 0, 0, none, []⟩,
 ⟨⟨some 128, false, none, iMov (.t 127)⟩, [127], false, 0, 0, none, []⟩,
 ⟨⟨some 129, false, some (128, true), iMov (.t 9)⟩, [128, 9], false, 0, 1, none, []⟩,
 ⟨⟨some 130, false, some (128, true), iIaddr 2 (.t 129) (.c (.int .i64 (.lit 0)))⟩, [128, 129], false, 0, 1, none, []⟩,
 ⟨⟨some 131, false, some (128, true), iLoadN 2 (.t 130)⟩, [128, 130], false, 0, 1, none, []⟩,
 ⟨⟨some 132, false, some (128, true), iCall (.c (.func (.func 50) [] [])) [(.c (.int .i64 (.lit 0))), (.c (.int .i64 (.lit 108)))]⟩, [128], true, 0, 0, none, []⟩,
 ⟨⟨some 133, false, some (128, true), iEq false true 2 [(0, .int), (1, .int)] (.t 131) (.t 132)⟩, [128, 131, 132], false, 1, 1, none, []⟩,
 ⟨⟨some 134, false, none, iPick (.t 128) (.t 133) (.c (.bool (.lit false)))⟩, [128, 133], false, 1, 1, none, []⟩,
 ⟨⟨some 135, false, none, iMov (.t 134)⟩, [134], false, 1, 1, none, []⟩,
 ⟨⟨some 136, false, some (135, true), iMov (.t 9)⟩, [135, 9], false, 1, 2, none, []⟩,
 ⟨⟨some 137, false, some (135, true), iIaddr 2 (.t 136) (.c (.int .i64 (.lit 1)))⟩, [135, 136], false, 1, 2, none, []⟩,
 ⟨⟨some 138, false, some (135, true), iLoadN 2 (.t 137)⟩, [135, 137], false, 1, 2, none, []⟩,
 ⟨⟨some 139, false, some (135, true), iCall (.c (.func (.func 50) [] [])) [(.c (.int .i64 (.lit 0))), (.c (.int .i64 (.lit 110)))]⟩, [135], true, 1, 0, none, []⟩,
 ⟨⟨some 140, false, some (135, true), iEq false true 2 [(0, .int), (1, .int)] (.t 138) (.t 139)⟩, [135, 138, 139], false, 2, 2, none, []⟩,
 ⟨⟨some 141, false, none, iPick (.t 135) (.t 140) (.c (.bool (.lit false)))⟩, [135, 140], false, 2, 2, none, []⟩,
 ⟨⟨some 142, false, none, iMov (.t 141)⟩, [141], false, 2, 2, none, []⟩,
 ⟨⟨some 143, false, some (142, true), iMov (.t 9)⟩, [142, 9], false, 2, 3, none, []⟩,
 ⟨⟨some 144, false, some (142, true), iIaddr 2 (.t 143) (.c (.int .i64 (.lit 2)))⟩, [142, 143], false, 2, 3, none, []⟩,
 ⟨⟨some 145, false, some (142, true), iLoadN 2 (.t 144)⟩, [142, 144], false, 2, 3, none, []⟩,
 ⟨⟨some 146, false, some (142, true), iCall (.c (.func (.func 50) [] [])) [(.c (.int .i64 (.lit 0))), (.c (.int .i64 (.lit 112)))]⟩, [142], true, 2, 0, none, []⟩,
 ⟨⟨some 147, false, some (142, true), iEq false true 2 [(0, .int), (1, .int)] (.t 145) (.t 146)⟩, [142, 145, 146], false, 3, 3, none, []⟩,
 ⟨⟨some 148, false, none, iPick (.t 142) (.t 147) (.c (.bool (.lit false)))⟩, [142, 147], false, 3, 3, none, []⟩,
 ⟨⟨some 149, false, none, iMov (.t 148)⟩, [148], false, 3, 3, none, []⟩,
 ⟨⟨some 150, false, some (149, true), iMov (.t 10)⟩, [149, 10], false, 3, 3, none, []⟩,
 ⟨⟨some 151, false, some (149, true), iCmp .eql (.t 150) (.c (.int .i64 (.lit 20)))⟩, [149, 150], false, 3, 3, none, []⟩,
 ⟨⟨some 152, false, none, iPick (.t 149) (.t 151) (.c (.bool (.lit false)))⟩, [149, 151], false, 3, 3, none, []⟩,
 ⟨⟨some 153, false, none, iMov (.t 152)⟩, [152], false, 3, 3, none, []⟩,
 ⟨⟨some 154, false, some (153, true), iMov (.t 11)⟩, [153, 11], false, 3, 3, none, []⟩,
 ⟨⟨some 155, false, some (153, true), iCmp .eql (.t 154) (.c (.int .i64 (.lit 106)))⟩, [153, 154], false, 3, 3, none, []⟩,
 ⟨⟨some 156, false, none, iPick (.t 153) (.t 155) (.c (.bool (.lit false)))⟩, [153, 155], false, 3, 3, none, []⟩,
 ⟨⟨some 157, false, none, iMov (.t 156)⟩, [156], false, 3, 3, none, []⟩,
 ⟨⟨some 158, false, some (157, true), iMov (.t 3)⟩, [157, 3], false, 3, 4, none, []⟩,
 ⟨⟨some 159, false, some (157, true), iBslice 3 [(.int .i64 (.lit 0))] 3 [(0, 1, (.c (.int .i64 (.lit 101)))), (1, 1, (.c (.int .i64 (.lit 108)))), (2, 1, (.c (.int .i64 (.lit 110))))]⟩, [157], true, 3, 0, none, []⟩,
 ⟨⟨some 160, false, some (157, true), iCall (.c (.func (.func 20) [] [])) [(.t 158), (.t 159)]⟩, [157, 158, 159], true, 4, 0, none, []⟩,
 ⟨⟨some 161, false, none, iPick (.t 157) (.t 160) (.c (.bool (.lit false)))⟩, [157, 160], false, 5, 5, none, []⟩,
 ⟨⟨some 162, false, none, iMov (.t 161)⟩, [161], false, 5, 5, none, []⟩,
 ⟨⟨some 163, false, some (162, true), iMov (.t 12)⟩, [162, 12], false, 5, 5, none, []⟩,
 ⟨⟨some 164, false, some (162, true), iCmp .eql (.t 163) (.c (.int .i64 (.lit 1)))⟩, [162, 163], false, 5, 5, none, []⟩,
 ⟨⟨some 165, false, none, iPick (.t 162) (.t 164) (.c (.bool (.lit false)))⟩, [162, 164], false, 5, 5, none, []⟩,
 ⟨⟨some 0, true, none, iMov (.t 165)⟩, [165], false, 5, 5, none, []⟩])
 cRet)))))))))))), [.t 0]⟩
noncomputable def Tryd.kp24 : List Nat := [0, 1, 2, 3, 6, 7, 8, 9, 16, 20]
noncomputable def Tryd.cf24 : CF := ⟨3, (cSeq (cOps [⟨some 3, true, none, iBox 26 (.t 0)⟩,
 ⟨some 6, true, none, iMov (.c (.bool (.lit false)))⟩,
 ⟨some 7, true, none, iMov (.c (.int .i64 (.lit 0)))⟩])
 (cSeq (cOps [⟨some 11, false, none, iLoadN 6 (.t 3)⟩,
 ⟨some 12, false, none, iCall (.c (.func (.func 53) [] [])) [(.t 11)]⟩,
 ⟨some 10, false, none, iMov (.t 12)⟩,
 ⟨some 13, false, none, iExtract 0 (.t 10)⟩,
 ⟨some 14, false, none, iExtract 1 (.t 10)⟩,
 ⟨some 8, true, none, iAlloc 89 [.nilslice, (.int .i64 (.lit 0)), .nilslice, (.int .i64 (.lit 0)), (.int .i64 (.lit 0)), .nilslice]⟩,
 ⟨none, false, none, iStore 6 (.t 8) (.t 13)⟩,
 ⟨some 9, true, none, iMov (.t 14)⟩])
 (cSeq (cSeq (cOps [⟨some 15, false, none, iMov (.t 9)⟩,
 ⟨some 16, true, none, iCmp .neq (.t 15) (.c (.int .i64 (.lit 0)))⟩])
 (cCond (.t 16) (cSeq (cOps [⟨some 17, false, none, iMov (.t 9)⟩,
 ⟨some 6, true, none, iMov (.c (.bool (.lit false)))⟩,
 ⟨some 7, true, none, iMov (.t 17)⟩])
 cRet) cSkip))
 (cSeq (cSeq (cOps [⟨some 18, false, none, iMov (.t 1)⟩,
 ⟨some 19, false, none, iCall (.c (.func (.func 54) [] [])) [(.t 18)]⟩,
 ⟨some 20, true, none, iNot (.t 19)⟩])
 (cCond (.t 20) (cSeq (cOps [⟨some 6, true, none, iMov (.c (.bool (.lit false)))⟩,
 ⟨some 7, true, none, iMov (.c (.int .i64 (.lit 51)))⟩])
 cRet) cSkip))
 (cSeq (cOps [⟨some 21, false, none, iLoadN 6 (.t 8)⟩,
 ⟨some 22, false, none, iMov (.t 1)⟩,
 ⟨some 23, false, none, iMov (.t 2)⟩,
 ⟨some 24, false, none, iCall (.c (.func (.func 69) [] [])) [(.t 21), (.t 22), (.t 23)]⟩,
 ⟨some 6, true, none, iMov (.t 24)⟩,
 ⟨some 7, true, none, iMov (.c (.int .i64 (.lit 0)))⟩])
 cRet))))), [.t 6, .t 7]⟩
noncomputable def Tryd.kp26 : List Nat := [0, 1, 2, 3, 6, 7, 8, 9, 16, 26]
noncomputable def Tryd.cf26 : CF := ⟨3, (cSeq (cOps [⟨some 3, true, none, iBox 26 (.t 0)⟩,
 ⟨some 6, true, none, iMov (.c .nilslice)⟩,
 ⟨some 7, true, none, iMov (.c (.int .i64 (.lit 0)))⟩])
 (cSeq (cOps [⟨some 11, false, none, iLoadN 6 (.t 3)⟩,
 ⟨some 12, false, none, iCall (.c (.func (.func 53) [] [])) [(.t 11)]⟩,
 ⟨some 10, false, none, iMov (.t 12)⟩,
 ⟨some 13, false, none, iExtract 0 (.t 10)⟩,
 ⟨some 14, false, none, iExtract 1 (.t 10)⟩,
 ⟨some 8, true, none, iAlloc 89 [.nilslice, (.int .i64 (.lit 0)), .nilslice, (.int .i64 (.lit 0)), (.int .i64 (.lit 0)), .nilslice]⟩,
 ⟨none, false, none, iStore 6 (.t 8) (.t 13)⟩,
 ⟨some 9, true, none, iMov (.t 14)⟩])
 (cSeq (cSeq (cOps [⟨some 15, false, none, iMov (.t 9)⟩,
 ⟨some 16, true, none, iCmp .neq (.t 15) (.c (.int .i64 (.lit 0)))⟩])
 (cCond (.t 16) (cSeq (cOps [⟨some 17, false, none, iMov (.t 9)⟩,
 ⟨some 6, true, none, iMov (.c .nilslice)⟩,
 ⟨some 7, true, none, iMov (.t 17)⟩])
 cRet) cSkip))
 (cSeq (cSeq (cOps [⟨some 18, false, none, iMov (.t 2)⟩,
 ⟨some 19, false, none, iCall (.c (.func (.func 70) [] [])) [(.t 18)]⟩,
 ⟨some 20, false, none, iNot (.t 19)⟩,
 ⟨some 21, false, none, iMov (.t 20)⟩,
 ⟨some 22, false, some (21, false), iLoadN 6 (.t 8)⟩,
 ⟨some 23, false, some (21, false), iMov (.t 1)⟩,
 ⟨some 24, false, some (21, false), iCall (.c (.func (.func 71) [] [])) [(.t 22), (.t 23)]⟩,
 ⟨some 25, false, some (21, false), iNot (.t 24)⟩,
 ⟨some 26, true, none, iPick (.t 21) (.c (.bool (.lit true))) (.t 25)⟩])
 (cCond (.t 26) (cSeq (cOps [⟨some 6, true, none, iMov (.c .nilslice)⟩,
 ⟨some 7, true, none, iMov (.c (.int .i64 (.lit 51)))⟩])
 cRet) cSkip))
 (cSeq (cOps [⟨some 27, false, none, iLoadN 6 (.t 8)⟩,
 ⟨some 28, false, none, iMov (.t 1)⟩,
 ⟨some 29, false, none, iMov (.t 2)⟩,
 ⟨some 30, false, none, iCall (.c (.func (.func 72) [] [])) [(.t 27), (.t 28), (.t 29)]⟩,
 ⟨some 31, false, none, iMov (.t 2)⟩,
 ⟨some 32, false, none, iCall (.c (.func (.func 73) [] [])) [(.t 30), (.t 31), (.c (.bool (.lit true)))]⟩,
 ⟨some 6, true, none, iMov (.t 32)⟩,
 ⟨some 7, true, none, iMov (.c (.int .i64 (.lit 0)))⟩])
 cRet))))), [.t 6, .t 7]⟩
noncomputable def Tryd.kp29 : List Nat := [0, 1, 2, 3, 6, 7, 8, 9]
noncomputable def Tryd.cf29 : CF := ⟨3, (cSeq (cOps [⟨some 3, true, none, iBox 26 (.t 0)⟩,
 ⟨some 6, true, none, iMov (.c (.int .i64 (.lit 0)))⟩,
 ⟨some 7, true, none, iMov (.c (.int .i64 (.lit 0)))⟩])
 (cSeq (cOps [⟨some 11, false, none, iLoadN 6 (.t 3)⟩,
 ⟨some 12, false, none, iMov (.t 1)⟩,
 ⟨some 13, false, none, iMov (.t 2)⟩,
 ⟨some 14, false, none, iCall (.c (.func (.func 76) [] [])) [(.t 11), (.t 12), (.t 13)]⟩,
 ⟨some 10, false, none, iMov (.t 14)⟩,
 ⟨some 15, false, none, iExtract 0 (.t 10)⟩,
 ⟨some 16, false, none, iExtract 1 (.t 10)⟩,
 ⟨some 8, true, none, iAlloc 112 [(.bool (.lit false)), .nilslice, (.int .i64 (.lit 0)), (.bool (.lit false)), (.bool (.lit false)), (.bool (.lit false)), (.bool (.lit false)), (.bool (.lit false)), (.bool (.lit false)), (.bool (.lit false)), (.bool (.lit false))]⟩,
 ⟨none, false, none, iStore 11 (.t 8) (.t 15)⟩,
 ⟨some 9, true, none, iMov (.t 16)⟩])
 (cSeq (cOps [⟨some 17, false, none, iFaddr 2 (.t 8)⟩,
 ⟨some 18, false, none, iLoad (.t 17)⟩,
 ⟨some 19, false, none, iMov (.t 9)⟩,
 ⟨some 6, true, none, iMov (.t 18)⟩,
 ⟨some 7, true, none, iMov (.t 19)⟩])
 cRet))), [.t 6, .t 7]⟩
noncomputable def Tryd.kp30 : List Nat := [0, 1, 2, 3, 6, 7, 8, 9]
noncomputable def Tryd.cf30 : CF := ⟨3, (cSeq (cOps [⟨some 3, true, none, iBox 26 (.t 0)⟩,
 ⟨some 6, true, none, iMov (.c .nilslice)⟩,
 ⟨some 7, true, none, iMov (.c (.int .i64 (.lit 0)))⟩])
 (cSeq (cOps [⟨some 11, false, none, iLoadN 6 (.t 3)⟩,
 ⟨some 12, false, none, iMov (.t 1)⟩,
 ⟨some 13, false, none, iMov (.t 2)⟩,
 ⟨some 14, false, none, iCall (.c (.func (.func 76) [] [])) [(.t 11), (.t 12), (.t 13)]⟩,
 ⟨some 10, false, none, iMov (.t 14)⟩,
 ⟨some 15, false, none, iExtract 0 (.t 10)⟩,
 ⟨some 16, false, none, iExtract 1 (.t 10)⟩,
 ⟨some 8, true, none, iAlloc 112 [(.bool (.lit false)), .nilslice, (.int .i64 (.lit 0)), (.bool (.lit false)), (.bool (.lit false)), (.bool (.lit false)), (.bool (.lit false)), (.bool (.lit false)), (.bool (.lit false)), (.bool (.lit false)), (.bool (.lit false))]⟩,
 ⟨none, false, none, iStore 11 (.t 8) (.t 15)⟩,
 ⟨some 9, true, none, iMov (.t 16)⟩])
 (cSeq (cOps [⟨some 17, false, none, iFaddr 1 (.t 8)⟩,
 ⟨some 18, false, none, iLoad (.t 17)⟩,
 ⟨some 19, false, none, iMov (.t 9)⟩,
 ⟨some 6, true, none, iMov (.t 18)⟩,
 ⟨some 7, true, none, iMov (.t 19)⟩])
 cRet))), [.t 6, .t 7]⟩
noncomputable def Tryd.kp31 : List Nat := [0, 1, 2, 4, 5, 6, 7, 14, 18]
noncomputable def Tryd.cf31 : CF := ⟨2, (cSeq (cOps [⟨some 2, true, none, iBox 26 (.t 0)⟩,
 ⟨some 4, true, none, iMov (.c (.int .i64 (.lit 0)))⟩,
 ⟨some 5, true, none, iMov (.c (.int .i64 (.lit 0)))⟩])
 (cSeq (cOps [⟨some 9, false, none, iLoadN 6 (.t 2)⟩,
 ⟨some 10, false, none, iCall (.c (.func (.func 53) [] [])) [(.t 9)]⟩,
 ⟨some 8, false, none, iMov (.t 10)⟩,
 ⟨some 11, false, none, iExtract 0 (.t 8)⟩,
 ⟨some 12, false, none, iExtract 1 (.t 8)⟩,
 ⟨some 6, true, none, iAlloc 89 [.nilslice, (.int .i64 (.lit 0)), .nilslice, (.int .i64 (.lit 0)), (.int .i64 (.lit 0)), .nilslice]⟩,
 ⟨none, false, none, iStore 6 (.t 6) (.t 11)⟩,
 ⟨some 7, true, none, iMov (.t 12)⟩])
 (cSeq (cSeq (cOps [⟨some 13, false, none, iMov (.t 7)⟩,
 ⟨some 14, true, none, iCmp .neq (.t 13) (.c (.int .i64 (.lit 0)))⟩])
 (cCond (.t 14) (cSeq (cOps [⟨some 15, false, none, iMov (.t 7)⟩,
 ⟨some 4, true, none, iMov (.c (.int .i64 (.lit 0)))⟩,
 ⟨some 5, true, none, iMov (.t 15)⟩])
 cRet) cSkip))
 (cSeq (cSeq (cOps [⟨some 16, false, none, iMov (.t 1)⟩,
 ⟨some 17, false, none, iCall (.c (.func (.func 70) [] [])) [(.t 16)]⟩,
 ⟨some 18, true, none, iNot (.t 17)⟩])
 (cCond (.t 18) (cSeq (cOps [⟨some 4, true, none, iMov (.c (.int .i64 (.lit 0)))⟩,
 ⟨some 5, true, none, iMov (.c (.int .i64 (.lit 51)))⟩])
 cRet) cSkip))
 (cSeq (cOps [⟨some 19, false, none, iLoadN 6 (.t 6)⟩,
 ⟨some 20, false, none, iMov (.t 1)⟩,
 ⟨some 21, false, none, iCall (.c (.func (.func 77) [] [])) [(.t 19), (.t 20)]⟩,
 ⟨some 22, false, none, iExtract 0 (.t 21)⟩,
 ⟨some 23, false, none, iExtract 1 (.t 21)⟩,
 ⟨some 4, true, none, iMov (.t 22)⟩,
 ⟨some 5, true, none, iMov (.t 23)⟩])
 cRet))))), [.t 4, .t 5]⟩
noncomputable def Tryd.kp33 : List Nat := [0, 1, 2, 3, 4, 8, 9, 10, 11, 18, 33]
noncomputable def Tryd.cf33 : CF := ⟨4, (cSeq (cOps [⟨some 4, true, none, iBox 26 (.t 0)⟩,
 ⟨some 8, true, none, iMov (.c .nilslice)⟩,
 ⟨some 9, true, none, iMov (.c (.int .i64 (.lit 0)))⟩])
 (cSeq (cOps [⟨some 13, false, none, iLoadN 6 (.t 4)⟩,
 ⟨some 14, false, none, iCall (.c (.func (.func 53) [] [])) [(.t 13)]⟩,
 ⟨some 12, false, none, iMov (.t 14)⟩,
 ⟨some 15, false, none, iExtract 0 (.t 12)⟩,
 ⟨some 16, false, none, iExtract 1 (.t 12)⟩,
 ⟨some 10, true, none, iAlloc 89 [.nilslice, (.int .i64 (.lit 0)), .nilslice, (.int .i64 (.lit 0)), (.int .i64 (.lit 0)), .nilslice]⟩,
 ⟨none, false, none, iStore 6 (.t 10) (.t 15)⟩,
 ⟨some 11, true, none, iMov (.t 16)⟩])
 (cSeq (cSeq (cOps [⟨some 17, false, none, iMov (.t 11)⟩,
 ⟨some 18, true, none, iCmp .neq (.t 17) (.c (.int .i64 (.lit 0)))⟩])
 (cCond (.t 18) (cSeq (cOps [⟨some 19, false, none, iMov (.t 11)⟩,
 ⟨some 8, true, none, iMov (.c .nilslice)⟩,
 ⟨some 9, true, none, iMov (.t 19)⟩])
 cRet) cSkip))
 (cSeq (cSeq (cOps [⟨some 20, false, none, iMov (.t 1)⟩,
 ⟨some 21, false, none, iCall (.c (.func (.func 54) [] [])) [(.t 20)]⟩,
 ⟨some 22, false, none, iNot (.t 21)⟩,
 ⟨some 23, false, none, iMov (.t 22)⟩,
 ⟨some 24, false, some (23, false), iMov (.t 2)⟩,
 ⟨some 25, false, some (23, false), iCall (.c (.func (.func 70) [] [])) [(.t 24)]⟩,
 ⟨some 26, false, some (23, false), iNot (.t 25)⟩,
 ⟨some 27, false, none, iPick (.t 23) (.c (.bool (.lit true))) (.t 26)⟩,
 ⟨some 28, false, none, iMov (.t 27)⟩,
 ⟨some 29, false, some (28, false), iMov (.t 3)⟩,
 ⟨some 30, false, some (28, false), iBuild [(.int .i64 (.lit 0)), (.int .i64 (.lit 0))] [(0, 1, (.c (.int .i64 (.lit 0)))), (1, 1, (.c (.int .i64 (.lit 8000))))]⟩,
 ⟨some 31, false, some (28, false), iCall (.c (.func (.func 78) [] [])) [(.t 29), (.t 30)]⟩,
 ⟨some 32, false, some (28, false), iNot (.t 31)⟩,
 ⟨some 33, true, none, iPick (.t 28) (.c (.bool (.lit true))) (.t 32)⟩])
 (cCond (.t 33) (cSeq (cOps [⟨some 8, true, none, iMov (.c .nilslice)⟩,
 ⟨some 9, true, none, iMov (.c (.int .i64 (.lit 51)))⟩])
 cRet) cSkip))
 (cSeq (cOps [⟨some 34, false, none, iLoadN 6 (.t 10)⟩,
 ⟨some 35, false, none, iMov (.t 1)⟩,
 ⟨some 36, false, none, iMov (.t 2)⟩,
 ⟨some 37, false, none, iMov (.t 3)⟩,
 ⟨some 38, false, none, iCall (.c (.func (.func 79) [] [])) [(.t 34), (.t 35), (.t 36), (.t 37)]⟩,
 ⟨some 8, true, none, iMov (.t 38)⟩,
 ⟨some 9, true, none, iMov (.c (.int .i64 (.lit 0)))⟩])
 cRet))))), [.t 8, .t 9]⟩
noncomputable def Tryd.kp35 : List Nat := [0, 1, 4, 5, 7, 12]
noncomputable def Tryd.cf35 : CF := ⟨2, (cSeq (cOps [⟨some 4, true, none, iMov (.c (.int .i64 (.lit 0)))⟩])
 (cSeq (cSeq (cOps [⟨some 6, false, none, iMov (.t 1)⟩,
 ⟨some 7, true, none, iCmp .lss (.t 6) (.c (.int .i64 (.lit 1)))⟩])
 (cCond (.t 7) (cSeq (cOps [⟨some 4, true, none, iMov (.c (.int .i64 (.lit 0)))⟩])
 cRet) cSkip))
 (cSeq (cOps [⟨some 8, false, none, iMov (.t 0)⟩,
 ⟨some 9, false, none, iMov (.t 1)⟩,
 ⟨some 10, false, none, iArith .rem (.t 8) (.t 9)⟩,
 ⟨some 5, true, none, iMov (.t 10)⟩])
 (cSeq (cSeq (cOps [⟨some 11, false, none, iMov (.t 5)⟩,
 ⟨some 12, true, none, iCmp .lss (.t 11) (.c (.int .i64 (.lit 0)))⟩])
 (cCond (.t 12) (cOps [⟨some 13, false, none, iMov (.t 5)⟩,
 ⟨some 14, false, none, iMov (.t 1)⟩,
 ⟨some 15, false, none, iArith .add (.t 13) (.t 14)⟩,
 ⟨some 5, true, none, iMov (.t 15)⟩]) cSkip))
 (cSeq (cOps [⟨some 16, false, none, iMov (.t 5)⟩,
 ⟨some 4, true, none, iMov (.t 16)⟩])
 cRet))))), [.t 4]⟩
noncomputable def Tryd.kp36 : List Nat := [0, 1, 2, 3, 4, 5, 6, 50, 78]
noncomputable def Tryd.cf36 : CF := ⟨1, (cSeq (cOps [⟨some 1, true, none, iBox 26 (.t 0)⟩,
 ⟨some 2, true, none, iMov (.c (.bool (.lit false)))⟩])
 (cSeq (cOps [⟨some 7, false, none, iLoadN 6 (.t 1)⟩,
 ⟨some 8, false, none, iCall (.c (.func (.func 16) [] [])) [(.t 7)]⟩,
 ⟨some 9, false, none, iCmp .eql (.t 8) (.c (.int .i64 (.lit 0)))⟩,
 ⟨some 10, false, none, iMov (.t 9)⟩,
 ⟨some 11, false, some (10, true), iFaddr 0 (.t 1)⟩,
 ⟨some 12, false, some (10, true), iLoad (.t 11)⟩,
 ⟨some 13, false, some (10, true), iLenS (.t 12)⟩,
 ⟨some 14, false, some (10, true), iCall (.c (.func (.func 46) [] [])) [(.t 13), (.c (.int .i64 (.lit 1))), (.c (.int .i64 (.lit 4)))]⟩,
 ⟨some 15, false, none, iPick (.t 10) (.t 14) (.c (.bool (.lit false)))⟩,
 ⟨some 16, false, none, iMov (.t 15)⟩,
 ⟨some 17, false, some (16, true), iFaddr 1 (.t 1)⟩,
 ⟨some 18, false, some (16, true), iLoad (.t 17)⟩,
 ⟨some 19, false, some (16, true), iCall (.c (.func (.func 46) [] [])) [(.t 18), (.c (.int .i64 (.lit 0))), (.c (.int .i64 (.lit 20)))]⟩,
 ⟨some 20, false, none, iPick (.t 16) (.t 19) (.c (.bool (.lit false)))⟩,
 ⟨some 21, false, none, iMov (.t 20)⟩,
 ⟨some 22, false, some (21, true), iFaddr 2 (.t 1)⟩,
 ⟨some 23, false, some (21, true), iLoad (.t 22)⟩,
 ⟨some 24, false, some (21, true), iLenS (.t 23)⟩,
 ⟨some 25, false, some (21, true), iCmp .leq (.t 24) (.c (.int .i64 (.lit 4)))⟩,
 ⟨some 26, false, none, iPick (.t 21) (.t 25) (.c (.bool (.lit false)))⟩,
 ⟨some 27, false, none, iMov (.t 26)⟩,
 ⟨some 28, false, some (27, true), iFaddr 4 (.t 1)⟩,
 ⟨some 29, false, some (27, true), iLoad (.t 28)⟩,
 ⟨some 30, false, some (27, true), iCall (.c (.func (.func 46) [] [])) [(.t 29), (.c (.int .i64 (.lit 0))), (.c (.int .i64 (.lit 1439)))]⟩,
 ⟨some 31, false, none, iPick (.t 27) (.t 30) (.c (.bool (.lit false)))⟩,
 ⟨some 32, false, none, iMov (.t 31)⟩,
 ⟨some 33, false, some (32, true), iFaddr 5 (.t 1)⟩,
 ⟨some 34, false, some (32, true), iLoad (.t 33)⟩,
 ⟨some 35, false, some (32, true), iLenS (.t 34)⟩,
 ⟨some 36, false, some (32, true), iCmp .leq (.t 35) (.c (.int .i64 (.lit 4)))⟩,
 ⟨some 37, false, none, iPick (.t 32) (.t 36) (.c (.bool (.lit false)))⟩,
 ⟨some 38, false, none, iMov (.t 37)⟩,
 ⟨some 39, false, some (38, true), iFaddr 3 (.t 1)⟩,
 ⟨some 40, false, some (38, true), iLoad (.t 39)⟩,
 ⟨some 41, false, some (38, true), iCall (.c (.func (.func 46) [] [])) [(.t 40), (.c (.int .i64 (.lit 0))), (.c (.int .i64 (.lit 65535)))]⟩,
 ⟨some 42, false, none, iPick (.t 38) (.t 41) (.c (.bool (.lit false)))⟩,
 ⟨some 3, true, none, iMov (.t 42)⟩])
 (cSeq (cSeq (cOps [⟨some 4, true, none, iMov (.c (.int .i64 (.lit 0)))⟩])
 (cBlock 0 (cLoop (cSeq (cSeq (cOps [⟨some 43, false, none, iMov (.t 3)⟩,
 ⟨some 44, false, none, iMov (.t 43)⟩,
 ⟨some 45, false, some (44, true), iMov (.t 4)⟩,
 ⟨some 46, false, some (44, true), iFaddr 0 (.t 1)⟩,
 ⟨some 47, false, some (44, true), iLoad (.t 46)⟩,
 ⟨some 48, false, some (44, true), iLenS (.t 47)⟩,
 ⟨some 49, false, some (44, true), iCmp .lss (.t 45) (.t 48)⟩,
 ⟨some 50, true, none, iPick (.t 44) (.t 49) (.c (.bool (.lit false)))⟩])
 (cCond (.t 50) cSkip (cExit 0)))
 (cSeq (cBlock 1 (cSeq (cOps [⟨some 53, false, none, iFaddr 0 (.t 1)⟩,
 ⟨some 54, false, none, iLoad (.t 53)⟩,
 ⟨some 55, false, none, iMov (.t 4)⟩,
 ⟨some 56, false, none, iIaddr 3 (.t 54) (.t 55)⟩,
 ⟨some 57, false, none, iLoadN 3 (.t 56)⟩,
 ⟨some 5, true, none, iAlloc 53 [(.int .i64 (.lit 0)), (.int .i64 (.lit 0)), (.int .i64 (.lit 0))]⟩,
 ⟨none, false, none, iStore 3 (.t 5) (.t 57)⟩])
 (cOps [⟨some 58, false, none, iFaddr 0 (.t 5)⟩,
 ⟨some 59, false, none, iLoad (.t 58)⟩,
 ⟨some 60, false, none, iCall (.c (.func (.func 46) [] [])) [(.t 59), (.c (.int .i64 (.lit 1))), (.c (.int .i64 (.lit 30)))]⟩,
 ⟨some 61, false, none, iMov (.t 60)⟩,
 ⟨some 62, false, some (61, true), iFaddr 1 (.t 5)⟩,
 ⟨some 63, false, some (61, true), iLoad (.t 62)⟩,
 ⟨some 64, false, some (61, true), iCall (.c (.func (.func 46) [] [])) [(.t 63), (.c (.int .i64 (.lit 0))), (.c (.int .i64 (.lit 1000)))]⟩,
 ⟨some 65, false, none, iPick (.t 61) (.t 64) (.c (.bool (.lit false)))⟩,
 ⟨some 66, false, none, iMov (.t 65)⟩,
 ⟨some 67, false, some (66, true), iFaddr 2 (.t 5)⟩,
 ⟨some 68, false, some (66, true), iLoad (.t 67)⟩,
 ⟨some 69, false, some (66, true), iCall (.c (.func (.func 46) [] [])) [(.t 68), (.c (.int .i64 (.lit 0))), (.c (.int .i64 (.lit 30)))]⟩,
 ⟨some 70, false, none, iPick (.t 66) (.t 69) (.c (.bool (.lit false)))⟩,
 ⟨some 3, true, none, iMov (.t 70)⟩])))
 (cOps [⟨some 51, false, none, iMov (.t 4)⟩,
 ⟨some 52, false, none, iArith .add (.t 51) (.c (.int .i64 (.lit 1)))⟩,
 ⟨some 4, true, none, iMov (.t 52)⟩]))))))
 (cSeq (cSeq (cOps [⟨some 6, true, none, iMov (.c (.int .i64 (.lit 0)))⟩])
 (cBlock 2 (cLoop (cSeq (cSeq (cOps [⟨some 71, false, none, iMov (.t 3)⟩,
 ⟨some 72, false, none, iMov (.t 71)⟩,
 ⟨some 73, false, some (72, true), iMov (.t 6)⟩,
 ⟨some 74, false, some (72, true), iFaddr 2 (.t 1)⟩,
 ⟨some 75, false, some (72, true), iLoad (.t 74)⟩,
 ⟨some 76, false, some (72, true), iLenS (.t 75)⟩,
 ⟨some 77, false, some (72, true), iCmp .lss (.t 73) (.t 76)⟩,
 ⟨some 78, true, none, iPick (.t 72) (.t 77) (.c (.bool (.lit false)))⟩])
 (cCond (.t 78) cSkip (cExit 2)))
 (cSeq (cBlock 3 (cOps [⟨some 81, false, none, iFaddr 2 (.t 1)⟩,
 ⟨some 82, false, none, iLoad (.t 81)⟩,
 ⟨some 83, false, none, iMov (.t 6)⟩,
 ⟨some 84, false, none, iIaddr 2 (.t 82) (.t 83)⟩,
 ⟨some 85, false, none, iLoadN 2 (.t 84)⟩,
 ⟨some 86, false, none, iCall (.c (.func (.func 63) [] [])) [(.t 85), (.c (.int .i64 (.lit 0))), (.c (.int .i64 (.lit 999)))]⟩,
 ⟨some 3, true, none, iMov (.t 86)⟩]))
 (cOps [⟨some 79, false, none, iMov (.t 6)⟩,
 ⟨some 80, false, none, iArith .add (.t 79) (.c (.int .i64 (.lit 1)))⟩,
 ⟨some 6, true, none, iMov (.t 80)⟩]))))))
 (cSeq (cOps [⟨some 87, false, none, iMov (.t 3)⟩,
 ⟨some 88, false, none, iMov (.t 87)⟩,
 ⟨some 89, false, some (88, true), iLoadN 6 (.t 1)⟩,
 ⟨some 90, false, some (88, true), iFaddr 5 (.t 1)⟩,
 ⟨some 91, false, some (88, true), iLoad (.t 90)⟩,
 ⟨some 92, false, some (88, true), iCall (.c (.func (.func 81) [] [])) [(.t 89), (.t 91)]⟩,
 ⟨some 93, false, none, iPick (.t 88) (.t 92) (.c (.bool (.lit false)))⟩,
 ⟨some 2, true, none, iMov (.t 93)⟩])
 cRet))))), [.t 2]⟩
noncomputable def Tryd.kp40 : List Nat := [0, 1, 4]
noncomputable def Tryd.cf40 : CF := ⟨2, (cSeq (cOps [⟨some 4, true, none, iAlloc 29 [(.int .i64 (.lit 0)), (.int .i64 (.lit 0))]⟩])
 (cSeq (cOps [⟨some 5, false, none, iMov (.t 0)⟩,
 ⟨some 6, false, none, iMov (.t 1)⟩,
 ⟨some 7, false, none, iBuild [(.int .i64 (.lit 0)), (.int .i64 (.lit 0))] [(0, 1, (.t 5)), (1, 1, (.t 6))]⟩,
 ⟨none, false, none, iStore 2 (.t 4) (.t 7)⟩])
 cRet)), [.cell 4 true 2]⟩
noncomputable def Tryd.kp41 : List Nat := [0, 1, 2, 4, 6]
noncomputable def Tryd.cf41 : CF := ⟨2, (cSeq (cOps [⟨some 2, true, none, iBox 29 (.t 0)⟩,
 ⟨some 4, true, none, iMov (.c (.int .i64 (.lit 0)))⟩])
 (cSeq (cSeq (cOps [⟨some 5, false, none, iLoadN 2 (.t 2)⟩,
 ⟨some 6, true, none, iCall (.c (.func (.func 82) [] [])) [(.t 5)]⟩])
 (cCond (.t 6) (cSeq (cOps [⟨some 7, false, none, iFaddr 0 (.t 2)⟩,
 ⟨some 8, false, none, iLoad (.t 7)⟩,
 ⟨some 4, true, none, iMov (.t 8)⟩])
 cRet) cSkip))
 (cSeq (dOps 0 [⟨⟨some 9, false, none, iFaddr 0 (.t 2)⟩, [2], false, 0, 1, none, []⟩,
 ⟨⟨some 10, false, none, iLoad (.t 9)⟩, [9], false, 0, 1, none, []⟩,
 ⟨⟨some 11, false, none, iMov (.t 1)⟩, [1], false, 0, 0, none, []⟩,
 ⟨⟨some 12, false, none, iFaddr 1 (.t 2)⟩, [2], false, 0, 0, none, []⟩,
 ⟨⟨some 13, false, none, iLoad (.t 12)⟩, [12], false, 0, 0, none, []⟩,
 ⟨⟨some 14, false, none, iFaddr 0 (.t 2)⟩, [2], false, 0, 0, none, []⟩,
 ⟨⟨some 15, false, none, iLoad (.t 14)⟩, [14], false, 0, 0, none, []⟩,
 ⟨⟨some 16, false, none, iArith .sub (.t 13) (.t 15)⟩, [13, 15], false, 0, 0, none, []⟩,
 ⟨⟨some 17, false, none, iArith .add (.t 16) (.c (.int .i64 (.lit 1)))⟩, [16], false, 0, 0, none, []⟩,
 ⟨⟨some 18, false, none, iCall (.c (.func (.func 35) [] [])) [(.t 11), (.t 17)]⟩, [11, 17], true, 0, 0, none, []⟩,
 ⟨⟨some 19, false, none, iArith .add (.t 10) (.t 18)⟩, [10, 18], false, 1, 1, none, []⟩,
 ⟨⟨some 4, true, none, iMov (.t 19)⟩, [19], false, 1, 1, none, []⟩])
 cRet))), [.t 4]⟩
noncomputable def Tryd.kp46 : List Nat := [0, 1, 2, 6]
noncomputable def Tryd.cf46 : CF := ⟨3, (cSeq (cOps [⟨some 6, true, none, iMov (.c (.bool (.lit false)))⟩])
 (cSeq (cOps [⟨some 7, false, none, iMov (.t 0)⟩,
 ⟨some 8, false, none, iMov (.t 1)⟩,
 ⟨some 9, false, none, iCmp .geq (.t 7) (.t 8)⟩,
 ⟨some 10, false, none, iMov (.t 9)⟩,
 ⟨some 11, false, some (10, true), iMov (.t 0)⟩,
 ⟨some 12, false, some (10, true), iMov (.t 2)⟩,
 ⟨some 13, false, some (10, true), iCmp .leq (.t 11) (.t 12)⟩,
 ⟨some 14, false, none, iPick (.t 10) (.t 13) (.c (.bool (.lit false)))⟩,
 ⟨some 6, true, none, iMov (.t 14)⟩])
 cRet)), [.t 6]⟩
noncomputable def Tryd.kp49 : List Nat := [0]
noncomputable def Tryd.cf49 : CF := ⟨0, (cSeq (cOps [⟨some 0, true, none, iAlloc 26 [.nilslice, (.int .i64 (.lit 0)), .nilslice, (.int .i64 (.lit 0)), (.int .i64 (.lit 0)), .nilslice]⟩])
 (cSeq (cOps [⟨some 1, false, none, iBuild [(.int .i64 (.lit 0)), (.int .i64 (.lit 0)), (.int .i64 (.lit 0))] [(0, 1, (.c (.int .i64 (.lit 1)))), (1, 1, (.c (.int .i64 (.lit 5)))), (2, 1, (.c (.int .i64 (.lit 2))))]⟩,
 ⟨some 2, false, none, iBuild [(.int .i64 (.lit 0)), (.int .i64 (.lit 0)), (.int .i64 (.lit 0))] [(0, 1, (.c (.int .i64 (.lit 7)))), (1, 1, (.c (.int .i64 (.lit 20)))), (2, 1, (.c (.int .i64 (.lit 10))))]⟩,
 ⟨some 3, false, none, iBslice 53 [(.int .i64 (.lit 0)), (.int .i64 (.lit 0)), (.int .i64 (.lit 0))] 2 [(0, 3, (.t 1)), (3, 3, (.t 2))]⟩,
 ⟨some 4, false, none, iCall (.c (.func (.func 40) [] [])) [(.c (.int .i64 (.lit 105))), (.c (.int .i64 (.lit 106)))]⟩,
 ⟨some 5, false, none, iBslice 29 [(.int .i64 (.lit 0)), (.int .i64 (.lit 0))] 1 [(0, 2, (.t 4))]⟩,
 ⟨some 6, false, none, iCall (.c (.func (.func 50) [] [])) [(.c (.int .i64 (.lit 1))), (.c (.int .i64 (.lit 100)))]⟩,
 ⟨some 7, false, none, iBslice 55 [(.int .i64 (.lit 0)), (.int .i64 (.lit 0))] 1 [(0, 2, (.t 6))]⟩,
 ⟨some 8, false, none, iBuild [.nilslice, (.int .i64 (.lit 0)), .nilslice, (.int .i64 (.lit 0)), (.int .i64 (.lit 0)), .nilslice] [(0, 1, (.t 3)), (1, 1, (.c (.int .i64 (.lit 1)))), (2, 1, (.t 5)), (3, 1, (.c (.int .i64 (.lit 8)))), (4, 1, (.c (.int .i64 (.lit 1350)))), (5, 1, (.t 7))]⟩,
 ⟨none, false, none, iStore 6 (.t 0) (.t 8)⟩])
 cRet)), [.cell 0 true 6]⟩
noncomputable def Tryd.kp50 : List Nat := [0, 1, 4]
noncomputable def Tryd.cf50 : CF := ⟨2, (cSeq (cOps [⟨some 4, true, none, iAlloc 55 [(.int .i64 (.lit 0)), (.int .i64 (.lit 0))]⟩])
 (cSeq (cOps [⟨some 5, false, none, iMov (.t 0)⟩,
 ⟨some 6, false, none, iMov (.t 1)⟩,
 ⟨some 7, false, none, iBuild [(.int .i64 (.lit 0)), (.int .i64 (.lit 0))] [(0, 1, (.t 5)), (1, 1, (.t 6))]⟩,
 ⟨none, false, none, iStore 2 (.t 4) (.t 7)⟩])
 cRet)), [.cell 4 true 2]⟩
noncomputable def Tryd.kp51 : List Nat := [0, 1]
noncomputable def Tryd.cf51 : CF := ⟨0, (cSeq (cOps [⟨some 0, true, none, iAlloc 26 [.nilslice, (.int .i64 (.lit 0)), .nilslice, (.int .i64 (.lit 0)), (.int .i64 (.lit 0)), .nilslice]⟩])
 (cSeq (cOps [⟨some 2, false, none, iCall (.c (.func (.func 49) [] [])) []⟩,
 ⟨some 1, true, none, iAlloc 26 [.nilslice, (.int .i64 (.lit 0)), .nilslice, (.int .i64 (.lit 0)), (.int .i64 (.lit 0)), .nilslice]⟩,
 ⟨none, false, none, iStore 6 (.t 1) (.t 2)⟩])
 (cSeq (cOps [⟨some 3, false, none, iFaddr 0 (.t 1)⟩,
 ⟨some 4, false, none, iLoad (.t 3)⟩,
 ⟨some 5, false, none, iIaddr 3 (.t 4) (.c (.int .i64 (.lit 0)))⟩,
 ⟨some 6, false, none, iFaddr 1 (.t 5)⟩,
 ⟨none, false, none, iStore 1 (.t 6) (.c (.int .i64 (.lit 8)))⟩])
 (cSeq (cOps [⟨some 7, false, none, iLoadN 6 (.t 1)⟩,
 ⟨none, false, none, iStore 6 (.t 0) (.t 7)⟩])
 cRet)))), [.cell 0 true 6]⟩
noncomputable def Tryd.kp52 : List Nat := [0]
noncomputable def Tryd.cf52 : CF := ⟨0, (cSeq (cOps [⟨some 0, true, none, iMov (.c .nilslice)⟩])
 (cSeq (cOps [⟨some 1, false, none, iBslice 3 [(.int .i64 (.lit 0))] 4 [(0, 1, (.c (.int .i64 (.lit 101)))), (1, 1, (.c (.int .i64 (.lit 108)))), (2, 1, (.c (.int .i64 (.lit 110)))), (3, 1, (.c (.int .i64 (.lit 112))))]⟩,
 ⟨some 0, true, none, iMov (.t 1)⟩])
 cRet)), [.t 0]⟩
noncomputable def Tryd.kp53 : List Nat := [0, 1, 2, 3, 4, 9]
noncomputable def Tryd.cf53 : CF := ⟨1, (cSeq (cOps [⟨some 1, true, none, iBox 26 (.t 0)⟩,
 ⟨some 2, true, none, iAlloc 89 [.nilslice, (.int .i64 (.lit 0)), .nilslice, (.int .i64 (.lit 0)), (.int .i64 (.lit 0)), .nilslice]⟩,
 ⟨some 3, true, none, iMov (.c (.int .i64 (.lit 0)))⟩])
 (cSeq (cOps [⟨some 5, false, none, iLoadN 6 (.t 1)⟩,
 ⟨some 6, false, none, iBuild [.nilslice, (.int .i64 (.lit 0)), .nilslice, (.int .i64 (.lit 0)), (.int .i64 (.lit 0)), .nilslice] [(0, 6, (.t 5))]⟩,
 ⟨some 4, true, none, iAlloc 89 [.nilslice, (.int .i64 (.lit 0)), .nilslice, (.int .i64 (.lit 0)), (.int .i64 (.lit 0)), .nilslice]⟩,
 ⟨none, false, none, iStore 6 (.t 4) (.t 6)⟩])
 (cSeq (cSeq (cOps [⟨some 7, false, none, iLoadN 6 (.t 4)⟩,
 ⟨some 8, false, none, iCall (.c (.func (.func 85) [] [])) [(.t 7)]⟩,
 ⟨some 9, true, none, iNot (.t 8)⟩])
 (cCond (.t 9) (cSeq (cOps [⟨some 10, false, none, iBuild [.nilslice, (.int .i64 (.lit 0)), .nilslice, (.int .i64 (.lit 0)), (.int .i64 (.lit 0)), .nilslice] []⟩,
 ⟨none, false, none, iStore 6 (.t 2) (.t 10)⟩,
 ⟨some 3, true, none, iMov (.c (.int .i64 (.lit 50)))⟩])
 cRet) cSkip))
 (cSeq (cOps [⟨some 11, false, none, iLoadN 6 (.t 4)⟩,
 ⟨none, false, none, iStore 6 (.t 2) (.t 11)⟩,
 ⟨some 3, true, none, iMov (.c (.int .i64 (.lit 0)))⟩])
 cRet)))), [.cell 2 true 6, .t 3]⟩
noncomputable def Tryd.kp54 : List Nat := [0, 2]
noncomputable def Tryd.cf54 : CF := ⟨1, (cSeq (cOps [⟨some 2, true, none, iMov (.c (.bool (.lit false)))⟩])
 (cSeq (cOps [⟨some 3, false, none, iMov (.t 0)⟩,
 ⟨some 4, false, none, iCmp .geq (.t 3) (.c (.int .i64 (.lit 0)))⟩,
 ⟨some 5, false, none, iMov (.t 4)⟩,
 ⟨some 6, false, some (5, true), iMov (.t 0)⟩,
 ⟨some 7, false, some (5, true), iCmp .leq (.t 6) (.c (.int .i64 (.lit 999)))⟩,
 ⟨some 8, false, none, iPick (.t 5) (.t 7) (.c (.bool (.lit false)))⟩,
 ⟨some 2, true, none, iMov (.t 8)⟩])
 cRet)), [.t 2]⟩
noncomputable def Tryd.kp55 : List Nat := [0, 2]
noncomputable def Tryd.cf55 : CF := ⟨1, (cSeq (cOps [⟨some 2, true, none, iMov (.c (.bool (.lit false)))⟩])
 (cSeq (cOps [⟨some 3, false, none, iMov (.t 0)⟩,
 ⟨some 4, false, none, iCmp .geq (.t 3) (.c (.int .i64 (.lit 0)))⟩,
 ⟨some 5, false, none, iMov (.t 4)⟩,
 ⟨some 6, false, some (5, true), iMov (.t 0)⟩,
 ⟨some 7, false, some (5, true), iCmp .lss (.t 6) (.c (.int .i64 (.lit 16)))⟩,
 ⟨some 8, false, none, iPick (.t 5) (.t 7) (.c (.bool (.lit false)))⟩,
 ⟨some 2, true, none, iMov (.t 8)⟩])
 cRet)), [.t 2]⟩
noncomputable def Tryd.kp56 : List Nat := [0, 2]
noncomputable def Tryd.cf56 : CF := ⟨1, (cSeq (cOps [⟨some 2, true, none, iMov (.c (.bool (.lit false)))⟩])
 (cSeq (cOps [⟨some 3, false, none, iMov (.t 0)⟩,
 ⟨some 4, false, none, iCmp .geq (.t 3) (.c (.int .i64 (.lit 0)))⟩,
 ⟨some 5, false, none, iMov (.t 4)⟩,
 ⟨some 6, false, some (5, true), iMov (.t 0)⟩,
 ⟨some 7, false, some (5, true), iCmp .leq (.t 6) (.c (.int .i64 (.lit 1439)))⟩,
 ⟨some 8, false, none, iPick (.t 5) (.t 7) (.c (.bool (.lit false)))⟩,
 ⟨some 2, true, none, iMov (.t 8)⟩])
 cRet)), [.t 2]⟩
noncomputable def Tryd.kp57 : List Nat := [0, 1, 2, 3, 4, 6, 11, 12, 13, 19]
noncomputable def Tryd.cf57 : CF := ⟨2, (cSeq (cOps [⟨some 2, true, none, iBox 89 (.t 0)⟩,
 ⟨some 3, true, none, iBox 95 (.t 1)⟩,
 ⟨some 4, true, none, iMov (.c (.int .i64 (.lit 0)))⟩])
 (cSeq (cSeq (cOps [⟨some 7, false, none, iBuild [(.int .i64 (.lit 0)), .nilFunc] [(0, 1, (.c (.int .i64 (.lit 1)))), (1, 1, (.c (.func (.func 86) [] [])))]⟩,
 ⟨some 8, false, none, iBuild [(.int .i64 (.lit 0)), .nilFunc] [(0, 1, (.c (.int .i64 (.lit 2)))), (1, 1, (.c (.func (.func 87) [] [])))]⟩,
 ⟨some 9, false, none, iBuild [(.int .i64 (.lit 0)), .nilFunc] [(0, 1, (.c (.int .i64 (.lit 3)))), (1, 1, (.c (.func (.func 88) [] [])))]⟩,
 ⟨some 10, false, none, iBuild [(.int .i64 (.lit 0)), .nilFunc] [(0, 1, (.c (.int .i64 (.lit 4)))), (1, 1, (.c (.func (.func 89) [] [])))]⟩,
 ⟨some 11, true, none, iBuild [(.int .i64 (.lit 0)), .nilFunc, (.int .i64 (.lit 0)), .nilFunc, (.int .i64 (.lit 0)), .nilFunc, (.int .i64 (.lit 0)), .nilFunc] [(0, 2, (.t 7)), (2, 2, (.t 8)), (4, 2, (.t 9)), (6, 2, (.t 10))]⟩,
 ⟨some 12, true, none, iMov (.c (.int .i64 (.lit 0)))⟩])
 (cBlock 0 (cLoop (cSeq (cOps [⟨some 13, true, none, iCmp .lss (.t 12) (.c (.int .i64 (.lit 4)))⟩])
 (cSeq (cCond (.t 13) cSkip (cExit 0))
 (cSeq (cBlock 1 (cSeq (cOps [⟨some 14, false, none, iIndex true 2 4 (.t 11) (.t 12)⟩,
 ⟨some 6, true, none, iAlloc 121 [(.int .i64 (.lit 0)), .nilFunc]⟩,
 ⟨none, false, none, iStore 2 (.t 6) (.t 14)⟩])
 (cSeq (cOps [⟨some 15, false, none, iFaddr 1 (.t 6)⟩,
 ⟨some 16, false, none, iLoad (.t 15)⟩,
 ⟨some 17, false, none, iLoadN 6 (.t 2)⟩,
 ⟨some 18, false, none, iLoadN 3 (.t 3)⟩,
 ⟨some 19, true, none, iCall (.t 16) [(.t 17), (.t 18)]⟩])
 (cCond (.t 19) (cSeq (cOps [⟨some 20, false, none, iFaddr 0 (.t 6)⟩,
 ⟨some 21, false, none, iLoad (.t 20)⟩,
 ⟨some 4, true, none, iMov (.t 21)⟩])
 cRet) cSkip))))
 (cOps [⟨some 22, false, none, iArith .add (.t 12) (.c (.int .i64 (.lit 1)))⟩,
 ⟨some 12, true, none, iMov (.t 22)⟩])))))))
 (cSeq (cOps [⟨some 4, true, none, iMov (.c (.int .i64 (.lit 0)))⟩])
 cRet))), [.t 4]⟩
noncomputable def Tryd.kp63 : List Nat := [0, 1, 2, 3, 6]
noncomputable def Tryd.cf63 : CF := ⟨3, (cSeq (cOps [⟨some 3, true, none, iBox 29 (.t 0)⟩,
 ⟨some 6, true, none, iMov (.c (.bool (.lit false)))⟩])
 (cSeq (cOps [⟨some 7, false, none, iMov (.t 1)⟩,
 ⟨some 8, false, none, iFaddr 0 (.t 3)⟩,
 ⟨some 9, false, none, iLoad (.t 8)⟩,
 ⟨some 10, false, none, iCmp .leq (.t 7) (.t 9)⟩,
 ⟨some 11, false, none, iMov (.t 10)⟩,
 ⟨some 12, false, some (11, true), iFaddr 0 (.t 3)⟩,
 ⟨some 13, false, some (11, true), iLoad (.t 12)⟩,
 ⟨some 14, false, some (11, true), iFaddr 1 (.t 3)⟩,
 ⟨some 15, false, some (11, true), iLoad (.t 14)⟩,
 ⟨some 16, false, some (11, true), iCmp .leq (.t 13) (.t 15)⟩,
 ⟨some 17, false, none, iPick (.t 11) (.t 16) (.c (.bool (.lit false)))⟩,
 ⟨some 18, false, none, iMov (.t 17)⟩,
 ⟨some 19, false, some (18, true), iFaddr 1 (.t 3)⟩,
 ⟨some 20, false, some (18, true), iLoad (.t 19)⟩,
 ⟨some 21, false, some (18, true), iMov (.t 2)⟩,
 ⟨some 22, false, some (18, true), iCmp .leq (.t 20) (.t 21)⟩,
 ⟨some 23, false, none, iPick (.t 18) (.t 22) (.c (.bool (.lit false)))⟩,
 ⟨some 6, true, none, iMov (.t 23)⟩])
 cRet)), [.t 6]⟩
noncomputable def Tryd.kp66 : List Nat := [0, 1, 2]
noncomputable def Tryd.cf66 : CF := ⟨1, (cSeq (cOps [⟨some 1, true, none, iBox 29 (.t 0)⟩,
 ⟨some 2, true, none, iMov (.c (.bool (.lit false)))⟩])
 (cSeq (cOps [⟨some 3, false, none, iFaddr 0 (.t 1)⟩,
 ⟨some 4, false, none, iLoad (.t 3)⟩,
 ⟨some 5, false, none, iFaddr 1 (.t 1)⟩,
 ⟨some 6, false, none, iLoad (.t 5)⟩,
 ⟨some 7, false, none, iCmp .leq (.t 4) (.t 6)⟩,
 ⟨some 8, false, none, iMov (.t 7)⟩,
 ⟨some 9, false, some (8, true), iFaddr 0 (.t 1)⟩,
 ⟨some 10, false, some (8, true), iLoad (.t 9)⟩,
 ⟨some 11, false, some (8, true), iCall (.c (.func (.func 54) [] [])) [(.t 10)]⟩,
 ⟨some 12, false, none, iPick (.t 8) (.t 11) (.c (.bool (.lit false)))⟩,
 ⟨some 13, false, none, iMov (.t 12)⟩,
 ⟨some 14, false, some (13, true), iFaddr 1 (.t 1)⟩,
 ⟨some 15, false, some (13, true), iLoad (.t 14)⟩,
 ⟨some 16, false, some (13, true), iCall (.c (.func (.func 54) [] [])) [(.t 15)]⟩,
 ⟨some 17, false, none, iPick (.t 13) (.t 16) (.c (.bool (.lit false)))⟩,
 ⟨some 2, true, none, iMov (.t 17)⟩])
 cRet)), [.t 2]⟩
noncomputable def Tryd.ra67008 : C := (cOps [⟨some 5, true, none, iMov (.t 8)⟩])
noncomputable def Tryd.rb67008 : C := (cBlock 1 (cSeq (cOps [⟨some 9, false, none, iLoadN 6 (.t 2)⟩,
 ⟨some 10, false, none, iMov (.t 5)⟩,
 ⟨some 11, false, none, iFaddr 0 (.t 2)⟩,
 ⟨some 12, false, none, iFaddr 5 (.t 11)⟩,
 ⟨some 13, false, none, iLoad (.t 12)⟩,
 ⟨some 14, true, none, iCall (.c (.func (.func 95) [] [])) [(.t 9), (.t 10), (.t 13)]⟩])
 (cCond (.t 14) (cOps [⟨some 15, false, none, iLoad (.t 4)⟩,
 ⟨some 16, false, none, iMov (.t 5)⟩,
 ⟨some 17, false, none, iBslice 3 [(.int .i64 (.lit 0))] 1 [(0, 1, (.t 16))]⟩,
 ⟨some 18, false, none, iAppend 3 1 8 (.t 15) (.t 17)⟩,
 ⟨none, false, none, iStore 1 (.t 4) (.t 18)⟩]) cSkip)))
noncomputable def Tryd.kp67 : List Nat := [0, 1, 2, 3, 4, 5, 7, 8, 14]
noncomputable def Tryd.cf67 : CF := ⟨2, (cSeq (cOps [⟨some 2, true, none, iBox 89 (.t 0)⟩,
 ⟨some 3, true, none, iBox 29 (.t 1)⟩,
 ⟨some 4, true, none, iAlloc 35 [.nilslice]⟩])
 (cSeq (cSeq (cOps [⟨some 6, false, none, iLoadN 2 (.t 3)⟩,
 ⟨some 7, true, none, iCall (.c (.func (.func 94) [] [])) [(.t 6)]⟩])
 (cBlock 0 (cRange (.t 7) [8] 67008)))
 (cSeq (cOps [⟨some 19, false, none, iLoad (.t 4)⟩,
 ⟨none, false, none, iStore 1 (.t 4) (.t 19)⟩])
 cRet))), [.cell 4 false 1]⟩
noncomputable def Tryd.kp68 : List Nat := [0, 1, 2, 3, 5, 6, 7, 17]
noncomputable def Tryd.cf68 : CF := ⟨3, (cSeq (cOps [⟨some 3, true, none, iBox 89 (.t 0)⟩,
 ⟨some 5, true, none, iBox 29 (.t 2)⟩,
 ⟨some 6, true, none, iMov (.c (.int .i64 (.lit 0)))⟩])
 (cSeq (cBlock 0 (cSeq (dOps 0 [⟨⟨some 8, false, none, iMov (.t 1)⟩, [1], false, 0, 0, none, []⟩,
 ⟨⟨some 9, false, none, iFaddr 1 (.t 5)⟩, [5], false, 0, 0, none, []⟩,
 ⟨⟨some 10, false, none, iLoad (.t 9)⟩, [9], false, 0, 0, none, []⟩,
 ⟨⟨some 11, false, none, iBslice 3 [(.int .i64 (.lit 0))] 2 [(0, 1, (.t 8)), (1, 1, (.t 10))]⟩, [8, 10], true, 0, 0, none, []⟩,
 ⟨⟨some 12, false, none, iCall (.c (.func (.func 96) [] [])) [(.t 11)]⟩, [11], true, 1, 0, none, []⟩,
 ⟨⟨some 13, false, none, iFaddr 0 (.t 3)⟩, [3], false, 0, 2, none, []⟩,
 ⟨⟨some 14, false, none, iFaddr 4 (.t 13)⟩, [13], false, 0, 2, none, []⟩,
 ⟨⟨some 15, false, none, iLoad (.t 14)⟩, [14], false, 0, 2, none, []⟩,
 ⟨⟨some 16, false, none, iCmp .leq (.t 12) (.t 15)⟩, [12, 15], false, 2, 2, none, []⟩,
 ⟨⟨some 7, true, none, iMov (.t 16)⟩, [16], false, 2, 2, none, []⟩])
 (cCond (.t 7) (cSeq (cOps [⟨some 6, true, none, iMov (.c (.int .i64 (.lit 2)))⟩])
 cRet) (cSeq (dOps 0 [⟨⟨some 18, false, none, iMov (.t 1)⟩, [1], false, 0, 0, none, []⟩,
 ⟨⟨some 19, false, none, iFaddr 0 (.t 5)⟩, [5], false, 0, 0, none, []⟩,
 ⟨⟨some 20, false, none, iLoad (.t 19)⟩, [19], false, 0, 0, none, []⟩,
 ⟨⟨some 21, false, none, iBslice 3 [(.int .i64 (.lit 0))] 2 [(0, 1, (.t 18)), (1, 1, (.t 20))]⟩, [18, 20], true, 0, 0, none, []⟩,
 ⟨⟨some 22, false, none, iCall (.c (.func (.func 96) [] [])) [(.t 21)]⟩, [21], true, 1, 0, none, []⟩,
 ⟨⟨some 23, false, none, iFaddr 0 (.t 3)⟩, [3], false, 0, 2, none, []⟩,
 ⟨⟨some 24, false, none, iFaddr 4 (.t 23)⟩, [23], false, 0, 2, none, []⟩,
 ⟨⟨some 25, false, none, iLoad (.t 24)⟩, [24], false, 0, 2, none, []⟩,
 ⟨⟨some 26, false, none, iCmp .leq (.t 22) (.t 25)⟩, [22, 25], false, 2, 2, none, []⟩,
 ⟨⟨some 17, true, none, iMov (.t 26)⟩, [26], false, 2, 2, none, []⟩])
 (cCond (.t 17) (cSeq (cOps [⟨some 6, true, none, iMov (.c (.int .i64 (.lit 1)))⟩])
 cRet) cSkip)))))
 (cSeq (cOps [⟨some 6, true, none, iMov (.c (.int .i64 (.lit 0)))⟩])
 cRet))), [.t 6]⟩
noncomputable def Tryd.kp69 : List Nat := [0, 1, 2, 3, 6, 7, 9, 10, 11, 12, 13, 45]
noncomputable def Tryd.cf69 : CF := ⟨3, (cSeq (cOps [⟨some 3, true, none, iBox 89 (.t 0)⟩,
 ⟨some 6, true, none, iMov (.c (.bool (.lit false)))⟩])
 (cSeq (cOps [⟨some 7, true, none, iMov (.c (.int .i64 (.lit 0)))⟩])
 (cSeq (cSeq (cOps [⟨some 10, true, none, iMov (.t 2)⟩,
 ⟨some 11, true, none, iLenS (.t 10)⟩,
 ⟨some 12, true, none, iMov (.c (.int .i64 (.lit 0)))⟩])
 (cBlock 0 (cLoop (cSeq (cOps [⟨some 13, true, none, iCmp .lss (.t 12) (.t 11)⟩])
 (cSeq (cCond (.t 13) cSkip (cExit 0))
 (cSeq (cBlock 1 (cSeq (cOps [⟨some 14, false, none, iIaddr 2 (.t 10) (.t 12)⟩,
 ⟨some 15, false, none, iLoadN 2 (.t 14)⟩,
 ⟨some 9, true, none, iAlloc 55 [(.int .i64 (.lit 0)), (.int .i64 (.lit 0))]⟩,
 ⟨none, false, none, iStore 2 (.t 9) (.t 15)⟩])
 (cSeq (cSeq (dOps 0 [⟨⟨some 16, false, none, iLoadN 6 (.t 3)⟩, [3], false, 0, 0, none, []⟩,
 ⟨⟨some 17, false, none, iLoadN 2 (.t 9)⟩, [9], false, 0, 0, none, []⟩,
 ⟨⟨some 18, false, none, iCall (.c (.func (.func 97) [] [])) [(.t 16), (.t 17)]⟩, [16, 17], true, 0, 0, none, []⟩,
 ⟨⟨some 19, false, none, iNot (.t 18)⟩, [18], false, 1, 1, none, []⟩,
 ⟨⟨some 20, false, none, iMov (.t 19)⟩, [19], false, 1, 1, none, []⟩,
 ⟨⟨some 21, false, some (20, false), iFaddr 1 (.t 9)⟩, [20, 9], false, 1, 1, none, []⟩,
 ⟨⟨some 22, false, some (20, false), iLoad (.t 21)⟩, [20, 21], false, 1, 1, none, []⟩,
 ⟨⟨some 23, false, some (20, false), iMov (.t 7)⟩, [20, 7], false, 1, 1, none, []⟩,
 ⟨⟨some 24, false, some (20, false), iMov (.t 1)⟩, [20, 1], false, 1, 1, none, []⟩,
 ⟨⟨some 25, false, some (20, false), iFaddr 0 (.t 3)⟩, [20, 3], false, 1, 1, none, []⟩,
 ⟨⟨some 26, false, some (20, false), iFaddr 0 (.t 25)⟩, [20, 25], false, 1, 1, none, []⟩,
 ⟨⟨some 27, false, some (20, false), iLoad (.t 26)⟩, [20, 26], false, 1, 1, none, []⟩,
 ⟨⟨some 28, false, some (20, false), iFaddr 0 (.t 9)⟩, [20, 9], false, 1, 1, none, []⟩,
 ⟨⟨some 29, false, some (20, false), iLoad (.t 28)⟩, [20, 28], false, 1, 1, none, []⟩,
 ⟨⟨some 30, false, some (20, false), iIaddr 3 (.t 27) (.t 29)⟩, [20, 27, 29], false, 1, 1, none, []⟩,
 ⟨⟨some 31, false, some (20, false), iFaddr 2 (.t 30)⟩, [20, 30], false, 1, 1, none, []⟩,
 ⟨⟨some 32, false, some (20, false), iLoad (.t 31)⟩, [20, 31], false, 1, 1, none, []⟩,
 ⟨⟨some 33, false, some (20, false), iArith .add (.t 24) (.t 32)⟩, [20, 24, 32], false, 1, 1, none, []⟩,
 ⟨⟨some 34, false, some (20, false), iMax [(.t 23), (.t 33)]⟩, [20, 23, 33], false, 1, 1, none, []⟩,
 ⟨⟨some 35, false, some (20, false), iCmp .lss (.t 22) (.t 34)⟩, [20, 22, 34], false, 1, 1, none, []⟩,
 ⟨⟨some 36, false, none, iPick (.t 20) (.c (.bool (.lit true))) (.t 35)⟩, [20, 35], false, 1, 1, none, []⟩,
 ⟨⟨some 37, false, none, iMov (.t 36)⟩, [36], false, 1, 1, none, []⟩,
 ⟨⟨some 38, false, some (37, false), iLoadN 6 (.t 3)⟩, [37, 3], false, 1, 1, none, []⟩,
 ⟨⟨some 39, false, some (37, false), iLoadN 2 (.t 9)⟩, [37, 9], false, 1, 1, none, []⟩,
 ⟨⟨some 40, false, some (37, false), iFaddr 0 (.t 3)⟩, [37, 3], false, 1, 1, none, []⟩,
 ⟨⟨some 41, false, some (37, false), iFaddr 5 (.t 40)⟩, [37, 40], false, 1, 1, none, []⟩,
 ⟨⟨some 42, false, some (37, false), iLoad (.t 41)⟩, [37, 41], false, 1, 1, none, []⟩,
 ⟨⟨some 43, false, some (37, false), iCall (.c (.func (.func 98) [] [])) [(.t 38), (.t 39), (.t 42)]⟩, [37, 38, 39, 42], true, 1, 0, none, []⟩,
 ⟨⟨some 44, false, some (37, false), iNot (.t 43)⟩, [37, 43], false, 2, 2, none, []⟩,
 ⟨⟨some 45, true, none, iPick (.t 37) (.c (.bool (.lit true))) (.t 44)⟩, [37, 44], false, 2, 2, none, []⟩])
 (cCond (.t 45) (cSeq (cOps [⟨some 6, true, none, iMov (.c (.bool (.lit false)))⟩])
 cRet) cSkip))
 (cOps [⟨some 46, false, none, iLoadN 6 (.t 3)⟩,
 ⟨some 47, false, none, iLoadN 2 (.t 9)⟩,
 ⟨some 48, false, none, iCall (.c (.func (.func 99) [] [])) [(.t 46), (.t 47)]⟩,
 ⟨some 7, true, none, iMov (.t 48)⟩]))))
 (cOps [⟨some 49, false, none, iArith .add (.t 12) (.c (.int .i64 (.lit 1)))⟩,
 ⟨some 12, true, none, iMov (.t 49)⟩])))))))
 (cSeq (cOps [⟨some 50, false, none, iMov (.t 2)⟩,
 ⟨some 51, false, none, iLenS (.t 50)⟩,
 ⟨some 52, false, none, iCmp .leq (.t 51) (.c (.int .i64 (.lit 8)))⟩,
 ⟨some 6, true, none, iMov (.t 52)⟩])
 cRet)))), [.t 6]⟩
noncomputable def Tryd.kp70 : List Nat := [0, 2, 3, 5, 6, 7, 8, 9, 19]
noncomputable def Tryd.cf70 : CF := ⟨1, (cSeq (cOps [⟨some 2, true, none, iMov (.c (.bool (.lit false)))⟩])
 (cSeq (cOps [⟨some 3, true, none, iMov (.c (.int .i64 (.lit 0)))⟩])
 (cSeq (cSeq (cOps [⟨some 6, true, none, iMov (.t 0)⟩,
 ⟨some 7, true, none, iLenS (.t 6)⟩,
 ⟨some 8, true, none, iMov (.c (.int .i64 (.lit 0)))⟩])
 (cBlock 0 (cLoop (cSeq (cOps [⟨some 9, true, none, iCmp .lss (.t 8) (.t 7)⟩])
 (cSeq (cCond (.t 9) cSkip (cExit 0))
 (cSeq (cBlock 1 (cSeq (cOps [⟨some 10, false, none, iIaddr 1 (.t 6) (.t 8)⟩,
 ⟨some 11, false, none, iLoad (.t 10)⟩,
 ⟨some 5, true, none, iMov (.t 11)⟩])
 (cSeq (cSeq (cOps [⟨some 12, false, none, iMov (.t 5)⟩,
 ⟨some 13, false, none, iCall (.c (.func (.func 54) [] [])) [(.t 12)]⟩,
 ⟨some 14, false, none, iNot (.t 13)⟩,
 ⟨some 15, false, none, iMov (.t 14)⟩,
 ⟨some 16, false, some (15, false), iMov (.t 5)⟩,
 ⟨some 17, false, some (15, false), iMov (.t 3)⟩,
 ⟨some 18, false, some (15, false), iCmp .lss (.t 16) (.t 17)⟩,
 ⟨some 19, true, none, iPick (.t 15) (.c (.bool (.lit true))) (.t 18)⟩])
 (cCond (.t 19) (cSeq (cOps [⟨some 2, true, none, iMov (.c (.bool (.lit false)))⟩])
 cRet) cSkip))
 (cOps [⟨some 20, false, none, iMov (.t 5)⟩,
 ⟨some 21, false, none, iArith .add (.t 20) (.c (.int .i64 (.lit 1)))⟩,
 ⟨some 3, true, none, iMov (.t 21)⟩]))))
 (cOps [⟨some 22, false, none, iArith .add (.t 8) (.c (.int .i64 (.lit 1)))⟩,
 ⟨some 8, true, none, iMov (.t 22)⟩])))))))
 (cSeq (cOps [⟨some 23, false, none, iMov (.t 0)⟩,
 ⟨some 24, false, none, iLenS (.t 23)⟩,
 ⟨some 25, false, none, iCmp .leq (.t 24) (.c (.int .i64 (.lit 8)))⟩,
 ⟨some 2, true, none, iMov (.t 25)⟩])
 cRet)))), [.t 2]⟩
noncomputable def Tryd.kp71 : List Nat := [0, 1, 2, 4, 6, 7, 8, 9, 10, 16]
noncomputable def Tryd.cf71 : CF := ⟨2, (cSeq (cOps [⟨some 2, true, none, iBox 89 (.t 0)⟩,
 ⟨some 4, true, none, iMov (.c (.bool (.lit false)))⟩])
 (cSeq (cSeq (cOps [⟨some 7, true, none, iMov (.t 1)⟩,
 ⟨some 8, true, none, iLenS (.t 7)⟩,
 ⟨some 9, true, none, iMov (.c (.int .i64 (.lit 0)))⟩])
 (cBlock 0 (cLoop (cSeq (cOps [⟨some 10, true, none, iCmp .lss (.t 9) (.t 8)⟩])
 (cSeq (cCond (.t 10) cSkip (cExit 0))
 (cSeq (cBlock 1 (cSeq (cOps [⟨some 11, false, none, iIaddr 2 (.t 7) (.t 9)⟩,
 ⟨some 12, false, none, iLoadN 2 (.t 11)⟩,
 ⟨some 6, true, none, iAlloc 55 [(.int .i64 (.lit 0)), (.int .i64 (.lit 0))]⟩,
 ⟨none, false, none, iStore 2 (.t 6) (.t 12)⟩])
 (cSeq (cOps [⟨some 13, false, none, iLoadN 6 (.t 2)⟩,
 ⟨some 14, false, none, iLoadN 2 (.t 6)⟩,
 ⟨some 15, false, none, iCall (.c (.func (.func 97) [] [])) [(.t 13), (.t 14)]⟩,
 ⟨some 16, true, none, iNot (.t 15)⟩])
 (cCond (.t 16) (cSeq (cOps [⟨some 4, true, none, iMov (.c (.bool (.lit false)))⟩])
 cRet) cSkip))))
 (cOps [⟨some 17, false, none, iArith .add (.t 9) (.c (.int .i64 (.lit 1)))⟩,
 ⟨some 9, true, none, iMov (.t 17)⟩])))))))
 (cSeq (cOps [⟨some 18, false, none, iMov (.t 1)⟩,
 ⟨some 19, false, none, iLenS (.t 18)⟩,
 ⟨some 20, false, none, iCmp .leq (.t 19) (.c (.int .i64 (.lit 8)))⟩,
 ⟨some 4, true, none, iMov (.t 20)⟩])
 cRet))), [.t 4]⟩
noncomputable def Tryd.kp72 : List Nat := [0, 1, 2, 3, 6, 7, 8, 9, 10, 23, 24, 25, 26]
noncomputable def Tryd.cf72 : CF := ⟨3, (cSeq (cOps [⟨some 3, true, none, iBox 89 (.t 0)⟩,
 ⟨some 6, true, none, iAlloc 107 [(.bool (.lit false)), (.bool (.lit false)), (.bool (.lit false)), (.bool (.lit false)), (.bool (.lit false)), (.bool (.lit false)), (.bool (.lit false)), (.bool (.lit false))]⟩])
 (cSeq (cOps [⟨some 11, false, none, iFaddr 0 (.t 3)⟩,
 ⟨some 12, false, none, iFaddr 5 (.t 11)⟩,
 ⟨some 13, false, none, iLoad (.t 12)⟩,
 ⟨some 14, false, none, iLenS (.t 13)⟩,
 ⟨some 7, true, none, iMov (.t 14)⟩])
 (cSeq (cOps [⟨some 15, false, none, iFaddr 0 (.t 3)⟩,
 ⟨some 16, false, none, iFaddr 5 (.t 15)⟩,
 ⟨some 17, false, none, iLoad (.t 16)⟩,
 ⟨some 18, false, none, iMov (.t 7)⟩,
 ⟨some 19, false, none, iMov (.t 7)⟩,
 ⟨some 20, false, none, iSlice 2 (.t 17) none (some (.t 18)) (some (.t 19))⟩,
 ⟨some 21, false, none, iMov (.t 1)⟩,
 ⟨some 22, false, none, iAppend 55 2 16 (.t 20) (.t 21)⟩,
 ⟨some 8, true, none, iMov (.t 22)⟩])
 (cSeq (cSeq (cOps [⟨some 23, true, none, iMov (.t 2)⟩,
 ⟨some 24, true, none, iLenS (.t 23)⟩,
 ⟨some 25, true, none, iMov (.c (.int .i64 (.lit 0)))⟩])
 (cBlock 0 (cLoop (cSeq (cOps [⟨some 26, true, none, iCmp .lss (.t 25) (.t 24)⟩])
 (cSeq (cCond (.t 26) cSkip (cExit 0))
 (cSeq (cBlock 1 (cSeq (cOps [⟨some 27, false, none, iMov (.t 25)⟩,
 ⟨some 28, false, none, iIaddr 1 (.t 23) (.t 25)⟩,
 ⟨some 29, false, none, iLoad (.t 28)⟩,
 ⟨some 9, true, none, iMov (.t 27)⟩,
 ⟨some 10, true, none, iMov (.t 29)⟩])
 (cOps [⟨some 30, false, none, iMov (.t 9)⟩,
 ⟨some 31, false, none, iLoadN 6 (.t 3)⟩,
 ⟨some 32, false, none, iMov (.t 10)⟩,
 ⟨some 33, false, none, iMov (.t 8)⟩,
 ⟨some 34, false, none, iCall (.c (.func (.func 95) [] [])) [(.t 31), (.t 32), (.t 33)]⟩,
 ⟨some 35, false, none, iNot (.t 34)⟩,
 ⟨some 36, false, none, iIaddrA 1 8 (.t 6) (.t 30)⟩,
 ⟨none, false, none, iStore 1 (.t 36) (.t 35)⟩])))
 (cOps [⟨some 37, false, none, iArith .add (.t 25) (.c (.int .i64 (.lit 1)))⟩,
 ⟨some 25, true, none, iMov (.t 37)⟩])))))))
 (cSeq (cOps [⟨some 38, false, none, iLoadN 8 (.t 6)⟩,
 ⟨none, false, none, iStore 8 (.t 6) (.t 38)⟩])
 cRet))))), [.cell 6 true 8]⟩
noncomputable def Tryd.kp73 : List Nat := [0, 1, 2, 3, 6, 7, 8, 9, 10, 11, 12, 20]
noncomputable def Tryd.cf73 : CF := ⟨3, (cSeq (cOps [⟨some 3, true, none, iBox 107 (.t 0)⟩,
 ⟨some 6, true, none, iMov (.c .nilslice)⟩])
 (cSeq (cSeq (cOps [⟨some 9, true, none, iMov (.t 1)⟩,
 ⟨some 10, true, none, iLenS (.t 9)⟩,
 ⟨some 11, true, none, iMov (.c (.int .i64 (.lit 0)))⟩])
 (cBlock 0 (cLoop (cSeq (cOps [⟨some 12, true, none, iCmp .lss (.t 11) (.t 10)⟩])
 (cSeq (cCond (.t 12) cSkip (cExit 0))
 (cSeq (cBlock 1 (cSeq (cOps [⟨some 13, false, none, iMov (.t 11)⟩,
 ⟨some 14, false, none, iIaddr 1 (.t 9) (.t 11)⟩,
 ⟨some 15, false, none, iLoad (.t 14)⟩,
 ⟨some 7, true, none, iMov (.t 13)⟩,
 ⟨some 8, true, none, iMov (.t 15)⟩])
 (cSeq (cOps [⟨some 16, false, none, iMov (.t 7)⟩,
 ⟨some 17, false, none, iIaddrA 1 8 (.t 3) (.t 16)⟩,
 ⟨some 18, false, none, iLoad (.t 17)⟩,
 ⟨some 19, false, none, iMov (.t 2)⟩,
 ⟨some 20, true, none, iEq false false 1 [(0, .bool)] (.t 18) (.t 19)⟩])
 (cCond (.t 20) (cOps [⟨some 21, false, none, iMov (.t 6)⟩,
 ⟨some 22, false, none, iMov (.t 8)⟩,
 ⟨some 23, false, none, iBslice 3 [(.int .i64 (.lit 0))] 1 [(0, 1, (.t 22))]⟩,
 ⟨some 24, false, none, iAppend 3 1 8 (.t 21) (.t 23)⟩,
 ⟨some 6, true, none, iMov (.t 24)⟩]) cSkip))))
 (cOps [⟨some 25, false, none, iArith .add (.t 11) (.c (.int .i64 (.lit 1)))⟩,
 ⟨some 11, true, none, iMov (.t 25)⟩])))))))
 (cSeq (cOps [⟨some 26, false, none, iMov (.t 6)⟩,
 ⟨some 6, true, none, iMov (.t 26)⟩])
 cRet))), [.t 6]⟩
noncomputable def Tryd.kp76 : List Nat := [0, 1, 2, 3, 6, 7, 8, 9, 16, 26]
noncomputable def Tryd.cf76 : CF := ⟨3, (cSeq (cOps [⟨some 3, true, none, iBox 26 (.t 0)⟩,
 ⟨some 6, true, none, iAlloc 112 [(.bool (.lit false)), .nilslice, (.int .i64 (.lit 0)), (.bool (.lit false)), (.bool (.lit false)), (.bool (.lit false)), (.bool (.lit false)), (.bool (.lit false)), (.bool (.lit false)), (.bool (.lit false)), (.bool (.lit false))]⟩,
 ⟨some 7, true, none, iMov (.c (.int .i64 (.lit 0)))⟩])
 (cSeq (cOps [⟨some 11, false, none, iLoadN 6 (.t 3)⟩,
 ⟨some 12, false, none, iCall (.c (.func (.func 53) [] [])) [(.t 11)]⟩,
 ⟨some 10, false, none, iMov (.t 12)⟩,
 ⟨some 13, false, none, iExtract 0 (.t 10)⟩,
 ⟨some 14, false, none, iExtract 1 (.t 10)⟩,
 ⟨some 8, true, none, iAlloc 89 [.nilslice, (.int .i64 (.lit 0)), .nilslice, (.int .i64 (.lit 0)), (.int .i64 (.lit 0)), .nilslice]⟩,
 ⟨none, false, none, iStore 6 (.t 8) (.t 13)⟩,
 ⟨some 9, true, none, iMov (.t 14)⟩])
 (cSeq (cSeq (cOps [⟨some 15, false, none, iMov (.t 9)⟩,
 ⟨some 16, true, none, iCmp .neq (.t 15) (.c (.int .i64 (.lit 0)))⟩])
 (cCond (.t 16) (cSeq (cOps [⟨some 17, false, none, iBuild [(.bool (.lit false)), .nilslice, (.int .i64 (.lit 0)), (.bool (.lit false)), (.bool (.lit false)), (.bool (.lit false)), (.bool (.lit false)), (.bool (.lit false)), (.bool (.lit false)), (.bool (.lit false)), (.bool (.lit false))] []⟩,
 ⟨some 18, false, none, iMov (.t 9)⟩,
 ⟨none, false, none, iStore 11 (.t 6) (.t 17)⟩,
 ⟨some 7, true, none, iMov (.t 18)⟩])
 cRet) cSkip))
 (cSeq (cSeq (cOps [⟨some 19, false, none, iMov (.t 1)⟩,
 ⟨some 20, false, none, iCall (.c (.func (.func 54) [] [])) [(.t 19)]⟩,
 ⟨some 21, false, none, iNot (.t 20)⟩,
 ⟨some 22, false, none, iMov (.t 21)⟩,
 ⟨some 23, false, some (22, false), iMov (.t 2)⟩,
 ⟨some 24, false, some (22, false), iCall (.c (.func (.func 70) [] [])) [(.t 23)]⟩,
 ⟨some 25, false, some (22, false), iNot (.t 24)⟩,
 ⟨some 26, true, none, iPick (.t 22) (.c (.bool (.lit true))) (.t 25)⟩])
 (cCond (.t 26) (cSeq (cOps [⟨some 27, false, none, iBuild [(.bool (.lit false)), .nilslice, (.int .i64 (.lit 0)), (.bool (.lit false)), (.bool (.lit false)), (.bool (.lit false)), (.bool (.lit false)), (.bool (.lit false)), (.bool (.lit false)), (.bool (.lit false)), (.bool (.lit false))] []⟩,
 ⟨none, false, none, iStore 11 (.t 6) (.t 27)⟩,
 ⟨some 7, true, none, iMov (.c (.int .i64 (.lit 51)))⟩])
 cRet) cSkip))
 (cSeq (cOps [⟨some 28, false, none, iLoadN 6 (.t 8)⟩,
 ⟨some 29, false, none, iMov (.t 1)⟩,
 ⟨some 30, false, none, iMov (.t 2)⟩,
 ⟨some 31, false, none, iCall (.c (.func (.func 101) [] [])) [(.t 28), (.t 29), (.t 30)]⟩,
 ⟨some 32, false, none, iExtract 0 (.t 31)⟩,
 ⟨some 33, false, none, iExtract 1 (.t 31)⟩,
 ⟨none, false, none, iStore 11 (.t 6) (.t 32)⟩,
 ⟨some 7, true, none, iMov (.t 33)⟩])
 cRet))))), [.cell 6 true 11, .t 7]⟩
noncomputable def Tryd.kp77 : List Nat := [0, 1, 2, 3, 4, 5, 6, 10]
noncomputable def Tryd.cf77 : CF := ⟨2, (cSeq (cOps [⟨some 2, true, none, iBox 89 (.t 0)⟩,
 ⟨some 3, true, none, iBox 35 (.t 1)⟩,
 ⟨some 4, true, none, iMov (.c (.int .i64 (.lit 0)))⟩,
 ⟨some 5, true, none, iMov (.c (.int .i64 (.lit 0)))⟩])
 (cSeq (cOps [⟨some 7, false, none, iFunc (.func 103) [] [(.t 2), (.t 3)]⟩,
 ⟨some 8, false, none, iCall (.c (.func (.func 102) [] [])) [(.c (.int .i64 (.lit 1000))), (.t 7)]⟩,
 ⟨some 6, true, none, iMov (.t 8)⟩])
 (cSeq (cSeq (cOps [⟨some 9, false, none, iMov (.t 6)⟩,
 ⟨some 10, true, none, iCmp .eql (.t 9) (.c (.int .i64 (.lit 0)))⟩])
 (cCond (.t 10) (cSeq (cOps [⟨some 4, true, none, iMov (.c (.int .i64 (.lit 0)))⟩,
 ⟨some 5, true, none, iMov (.c (.int .i64 (.lit 4)))⟩])
 cRet) cSkip))
 (cSeq (cOps [⟨some 11, false, none, iMov (.t 6)⟩,
 ⟨some 12, false, none, iArith .sub (.t 11) (.c (.int .i64 (.lit 1)))⟩,
 ⟨some 4, true, none, iMov (.t 12)⟩,
 ⟨some 5, true, none, iMov (.c (.int .i64 (.lit 0)))⟩])
 cRet)))), [.t 4, .t 5]⟩
noncomputable def Tryd.kp78 : List Nat := [0, 1, 3, 4]
noncomputable def Tryd.cf78 : CF := ⟨2, (cSeq (cOps [⟨some 3, true, none, iBox 29 (.t 1)⟩,
 ⟨some 4, true, none, iMov (.c (.bool (.lit false)))⟩])
 (cSeq (cOps [⟨some 5, false, none, iFaddr 0 (.t 3)⟩,
 ⟨some 6, false, none, iLoad (.t 5)⟩,
 ⟨some 7, false, none, iMov (.t 0)⟩,
 ⟨some 8, false, none, iCmp .leq (.t 6) (.t 7)⟩,
 ⟨some 9, false, none, iMov (.t 8)⟩,
 ⟨some 10, false, some (9, true), iMov (.t 0)⟩,
 ⟨some 11, false, some (9, true), iFaddr 1 (.t 3)⟩,
 ⟨some 12, false, some (9, true), iLoad (.t 11)⟩,
 ⟨some 13, false, some (9, true), iCmp .leq (.t 10) (.t 12)⟩,
 ⟨some 14, false, none, iPick (.t 9) (.t 13) (.c (.bool (.lit false)))⟩,
 ⟨some 4, true, none, iMov (.t 14)⟩])
 cRet)), [.t 4]⟩
noncomputable def Tryd.kp79 : List Nat := [0, 1, 2, 3, 4, 8, 9, 10, 11, 12, 22, 23, 24, 36]
noncomputable def Tryd.cf79 : CF := ⟨4, (cSeq (cOps [⟨some 4, true, none, iBox 89 (.t 0)⟩,
 ⟨some 8, true, none, iMov (.c .nilslice)⟩])
 (cSeq (cOps [⟨some 13, false, none, iLoadN 6 (.t 4)⟩,
 ⟨some 14, false, none, iMov (.t 1)⟩,
 ⟨some 15, false, none, iMov (.t 2)⟩,
 ⟨some 16, false, none, iCall (.c (.func (.func 104) [] [])) [(.t 13), (.t 14), (.t 15), (.c (.func (.func 105) [] []))]⟩,
 ⟨some 9, true, none, iAlloc 141 [(.int .i64 (.lit 0)), .nilslice, .nilFunc]⟩,
 ⟨none, false, none, iStore 3 (.t 9) (.t 16)⟩])
 (cSeq (cOps [⟨some 17, false, none, iLoadN 6 (.t 4)⟩,
 ⟨some 18, false, none, iLoadN 3 (.t 9)⟩,
 ⟨some 19, false, none, iCall (.c (.func (.func 106) [] [])) [(.t 17), (.t 18)]⟩,
 ⟨some 10, true, none, iMov (.t 19)⟩])
 (cSeq (cSeq (cOps [⟨some 20, false, none, iFaddr 1 (.t 9)⟩,
 ⟨some 21, false, none, iLoad (.t 20)⟩,
 ⟨some 22, true, none, iLenS (.t 21)⟩,
 ⟨some 23, true, none, iMov (.c (.int .i64 (.lit 0)))⟩])
 (cBlock 0 (cLoop (cSeq (cOps [⟨some 24, true, none, iCmp .lss (.t 23) (.t 22)⟩])
 (cSeq (cCond (.t 24) cSkip (cExit 0))
 (cSeq (cBlock 1 (cSeq (cOps [⟨some 25, false, none, iMov (.t 23)⟩,
 ⟨some 11, true, none, iMov (.t 25)⟩])
 (cSeq (cOps [⟨some 26, false, none, iMov (.t 10)⟩,
 ⟨some 27, false, none, iMov (.t 11)⟩,
 ⟨some 28, false, none, iCall (.t 26) [(.t 27)]⟩,
 ⟨some 12, true, none, iAlloc 112 [(.bool (.lit false)), .nilslice, (.int .i64 (.lit 0)), (.bool (.lit false)), (.bool (.lit false)), (.bool (.lit false)), (.bool (.lit false)), (.bool (.lit false)), (.bool (.lit false)), (.bool (.lit false)), (.bool (.lit false))]⟩,
 ⟨none, false, none, iStore 11 (.t 12) (.t 28)⟩])
 (cSeq (cOps [⟨some 29, false, none, iFaddr 0 (.t 12)⟩,
 ⟨some 30, false, none, iLoad (.t 29)⟩,
 ⟨some 31, false, none, iMov (.t 30)⟩,
 ⟨some 32, false, some (31, true), iFaddr 2 (.t 12)⟩,
 ⟨some 33, false, some (31, true), iLoad (.t 32)⟩,
 ⟨some 34, false, some (31, true), iMov (.t 3)⟩,
 ⟨some 35, false, some (31, true), iCmp .leq (.t 33) (.t 34)⟩,
 ⟨some 36, true, none, iPick (.t 31) (.t 35) (.c (.bool (.lit false)))⟩])
 (cCond (.t 36) (cSeq (cOps [⟨some 37, false, none, iLoadN 6 (.t 4)⟩,
 ⟨some 38, false, none, iFaddr 1 (.t 12)⟩,
 ⟨some 39, false, none, iLoad (.t 38)⟩,
 ⟨some 40, false, none, iMov (.t 2)⟩,
 ⟨some 41, false, none, iCall (.c (.func (.func 72) [] [])) [(.t 37), (.t 39), (.t 40)]⟩,
 ⟨some 42, false, none, iMov (.t 2)⟩,
 ⟨some 43, false, none, iCall (.c (.func (.func 73) [] [])) [(.t 41), (.t 42), (.c (.bool (.lit false)))]⟩,
 ⟨some 8, true, none, iMov (.t 43)⟩])
 cRet) cSkip)))))
 (cOps [⟨some 44, false, none, iArith .add (.t 23) (.c (.int .i64 (.lit 1)))⟩,
 ⟨some 23, true, none, iMov (.t 44)⟩])))))))
 (cSeq (cOps [⟨some 45, false, none, iLoadN 6 (.t 4)⟩,
 ⟨some 46, false, none, iMov (.t 2)⟩,
 ⟨some 47, false, none, iCall (.c (.func (.func 72) [] [])) [(.t 45), (.c .nilslice), (.t 46)]⟩,
 ⟨some 48, false, none, iMov (.t 2)⟩,
 ⟨some 49, false, none, iCall (.c (.func (.func 73) [] [])) [(.t 47), (.t 48), (.c (.bool (.lit false)))]⟩,
 ⟨some 8, true, none, iMov (.t 49)⟩])
 cRet))))), [.t 8]⟩
noncomputable def Tryd.kp81 : List Nat := [0, 1, 2, 4, 5, 9, 31]
noncomputable def Tryd.cf81 : CF := ⟨2, (cSeq (cOps [⟨some 2, true, none, iBox 26 (.t 0)⟩,
 ⟨some 4, true, none, iMov (.c (.bool (.lit false)))⟩])
 (cSeq (cSeq (cOps [⟨some 5, true, none, iMov (.c (.int .i64 (.lit 0)))⟩])
 (cBlock 0 (cLoop (cSeq (cSeq (cOps [⟨some 6, false, none, iMov (.t 5)⟩,
 ⟨some 7, false, none, iMov (.t 1)⟩,
 ⟨some 8, false, none, iLenS (.t 7)⟩,
 ⟨some 9, true, none, iCmp .lss (.t 6) (.t 8)⟩])
 (cCond (.t 9) cSkip (cExit 0)))
 (cSeq (cBlock 1 (cSeq (dOps 0 [⟨⟨some 12, false, none, iMov (.t 1)⟩, [1], false, 0, 0, none, []⟩,
 ⟨⟨some 13, false, none, iMov (.t 5)⟩, [5], false, 0, 0, none, []⟩,
 ⟨⟨some 14, false, none, iIaddr 2 (.t 12) (.t 13)⟩, [12, 13], false, 0, 0, none, []⟩,
 ⟨⟨some 15, false, none, iFaddr 0 (.t 14)⟩, [14], false, 0, 0, none, []⟩,
 ⟨⟨some 16, false, none, iLoad (.t 15)⟩, [15], false, 0, 0, none, []⟩,
 ⟨⟨some 17, false, none, iFaddr 0 (.t 2)⟩, [2], false, 0, 0, none, []⟩,
 ⟨⟨some 18, false, none, iLoad (.t 17)⟩, [17], false, 0, 0, none, []⟩,
 ⟨⟨some 19, false, none, iLenS (.t 18)⟩, [18], false, 0, 0, none, []⟩,
 ⟨⟨some 20, false, none, iArith .sub (.t 19) (.c (.int .i64 (.lit 1)))⟩, [19], false, 0, 0, none, []⟩,
 ⟨⟨some 21, false, none, iCall (.c (.func (.func 46) [] [])) [(.t 16), (.c (.int .i64 (.lit 0))), (.t 20)]⟩, [16, 20], true, 0, 0, none, []⟩,
 ⟨⟨some 22, false, none, iNot (.t 21)⟩, [21], false, 1, 1, none, []⟩,
 ⟨⟨some 23, false, none, iMov (.t 22)⟩, [22], false, 1, 1, none, []⟩,
 ⟨⟨some 24, false, some (23, false), iMov (.t 1)⟩, [23, 1], false, 1, 1, none, []⟩,
 ⟨⟨some 25, false, some (23, false), iMov (.t 5)⟩, [23, 5], false, 1, 1, none, []⟩,
 ⟨⟨some 26, false, some (23, false), iIaddr 2 (.t 24) (.t 25)⟩, [23, 24, 25], false, 1, 1, none, []⟩,
 ⟨⟨some 27, false, some (23, false), iFaddr 1 (.t 26)⟩, [23, 26], false, 1, 1, none, []⟩,
 ⟨⟨some 28, false, some (23, false), iLoad (.t 27)⟩, [23, 27], false, 1, 1, none, []⟩,
 ⟨⟨some 29, false, some (23, false), iCall (.c (.func (.func 46) [] [])) [(.t 28), (.c (.int .i64 (.lit 0))), (.c (.int .i64 (.lit 999)))]⟩, [23, 28], true, 1, 0, none, []⟩,
 ⟨⟨some 30, false, some (23, false), iNot (.t 29)⟩, [23, 29], false, 2, 2, none, []⟩,
 ⟨⟨some 31, true, none, iPick (.t 23) (.c (.bool (.lit true))) (.t 30)⟩, [23, 30], false, 2, 2, none, []⟩])
 (cCond (.t 31) (cSeq (cOps [⟨some 4, true, none, iMov (.c (.bool (.lit false)))⟩])
 cRet) cSkip)))
 (cOps [⟨some 10, false, none, iMov (.t 5)⟩,
 ⟨some 11, false, none, iArith .add (.t 10) (.c (.int .i64 (.lit 1)))⟩,
 ⟨some 5, true, none, iMov (.t 11)⟩]))))))
 (cSeq (cOps [⟨some 4, true, none, iMov (.c (.bool (.lit true)))⟩])
 cRet))), [.t 4]⟩
noncomputable def Tryd.kp82 : List Nat := [0, 1, 2]
noncomputable def Tryd.cf82 : CF := ⟨1, (cSeq (cOps [⟨some 1, true, none, iBox 29 (.t 0)⟩,
 ⟨some 2, true, none, iMov (.c (.bool (.lit false)))⟩])
 (cSeq (cOps [⟨some 3, false, none, iFaddr 0 (.t 1)⟩,
 ⟨some 4, false, none, iLoad (.t 3)⟩,
 ⟨some 5, false, none, iFaddr 1 (.t 1)⟩,
 ⟨some 6, false, none, iLoad (.t 5)⟩,
 ⟨some 7, false, none, iCmp .gtr (.t 4) (.t 6)⟩,
 ⟨some 2, true, none, iMov (.t 7)⟩])
 cRet)), [.t 2]⟩
noncomputable def Tryd.kp85 : List Nat := [0, 1, 2, 3, 4, 26, 27, 28, 36]
noncomputable def Tryd.cf85 : CF := ⟨1, (cSeq (cOps [⟨some 1, true, none, iBox 89 (.t 0)⟩,
 ⟨some 2, true, none, iMov (.c (.bool (.lit false)))⟩])
 (cSeq (cSeq (cOps [⟨some 5, false, none, iFaddr 0 (.t 1)⟩,
 ⟨some 6, false, none, iFaddr 0 (.t 5)⟩,
 ⟨some 7, false, none, iLoad (.t 6)⟩,
 ⟨some 8, false, none, iLenS (.t 7)⟩,
 ⟨some 9, false, none, iFaddr 0 (.t 1)⟩,
 ⟨some 10, false, none, iFaddr 1 (.t 9)⟩,
 ⟨some 11, false, none, iLoad (.t 10)⟩,
 ⟨some 12, false, none, iFaddr 0 (.t 1)⟩,
 ⟨some 13, false, none, iFaddr 2 (.t 12)⟩,
 ⟨some 14, false, none, iLoad (.t 13)⟩,
 ⟨some 15, false, none, iLenS (.t 14)⟩,
 ⟨some 16, false, none, iFaddr 0 (.t 1)⟩,
 ⟨some 17, false, none, iFaddr 3 (.t 16)⟩,
 ⟨some 18, false, none, iLoad (.t 17)⟩,
 ⟨some 19, false, none, iFaddr 0 (.t 1)⟩,
 ⟨some 20, false, none, iFaddr 4 (.t 19)⟩,
 ⟨some 21, false, none, iLoad (.t 20)⟩,
 ⟨some 22, false, none, iFaddr 0 (.t 1)⟩,
 ⟨some 23, false, none, iFaddr 5 (.t 22)⟩,
 ⟨some 24, false, none, iLoad (.t 23)⟩,
 ⟨some 25, false, none, iLenS (.t 24)⟩,
 ⟨some 26, true, none, iBuild [(.int .i64 (.lit 0)), (.int .i64 (.lit 0)), (.int .i64 (.lit 0)), (.int .i64 (.lit 0)), (.int .i64 (.lit 0)), (.int .i64 (.lit 0))] [(0, 1, (.t 8)), (1, 1, (.t 11)), (2, 1, (.t 15)), (3, 1, (.t 18)), (4, 1, (.t 21)), (5, 1, (.t 25))]⟩,
 ⟨some 27, true, none, iMov (.c (.int .i64 (.lit 0)))⟩])
 (cBlock 0 (cLoop (cSeq (cOps [⟨some 28, true, none, iCmp .lss (.t 27) (.c (.int .i64 (.lit 6)))⟩])
 (cSeq (cCond (.t 28) cSkip (cExit 0))
 (cSeq (cBlock 1 (cSeq (cOps [⟨some 29, false, none, iMov (.t 27)⟩,
 ⟨some 30, false, none, iIndex false 1 6 (.t 26) (.t 27)⟩,
 ⟨some 3, true, none, iMov (.t 29)⟩,
 ⟨some 4, true, none, iMov (.t 30)⟩])
 (cSeq (cOps [⟨some 31, false, none, iMov (.t 4)⟩,
 ⟨some 32, false, none, iMov (.t 3)⟩,
 ⟨some 33, false, none, iIaddrA 2 6 (.c (.ptr 0 0)) (.t 32)⟩,
 ⟨some 34, false, none, iLoadN 2 (.t 33)⟩,
 ⟨some 35, false, none, iCall (.c (.func (.func 78) [] [])) [(.t 31), (.t 34)]⟩,
 ⟨some 36, true, none, iNot (.t 35)⟩])
 (cCond (.t 36) (cSeq (cOps [⟨some 2, true, none, iMov (.c (.bool (.lit false)))⟩])
 cRet) cSkip))))
 (cOps [⟨some 37, false, none, iArith .add (.t 27) (.c (.int .i64 (.lit 1)))⟩,
 ⟨some 27, true, none, iMov (.t 37)⟩])))))))
 (cSeq (cOps [⟨some 38, false, none, iLoadN 6 (.t 1)⟩,
 ⟨some 39, false, none, iCall (.c (.func (.func 107) [] [])) [(.t 38)]⟩,
 ⟨some 40, false, none, iMov (.t 39)⟩,
 ⟨some 41, false, some (40, true), iLoadN 6 (.t 1)⟩,
 ⟨some 42, false, some (40, true), iCall (.c (.func (.func 108) [] [])) [(.t 41)]⟩,
 ⟨some 43, false, none, iPick (.t 40) (.t 42) (.c (.bool (.lit false)))⟩,
 ⟨some 44, false, none, iMov (.t 43)⟩,
 ⟨some 45, false, some (44, true), iLoadN 6 (.t 1)⟩,
 ⟨some 46, false, some (44, true), iCall (.c (.func (.func 109) [] [])) [(.t 45)]⟩,
 ⟨some 47, false, none, iPick (.t 44) (.t 46) (.c (.bool (.lit false)))⟩,
 ⟨some 2, true, none, iMov (.t 47)⟩])
 cRet))), [.t 2]⟩
noncomputable def Tryd.kp86 : List Nat := [0, 1, 2, 3, 4]
noncomputable def Tryd.cf86 : CF := ⟨2, (cSeq (cOps [⟨some 2, true, none, iBox 89 (.t 0)⟩,
 ⟨some 3, true, none, iBox 95 (.t 1)⟩,
 ⟨some 4, true, none, iMov (.c (.bool (.lit false)))⟩])
 (cSeq (cOps [⟨some 5, false, none, iLoadN 6 (.t 2)⟩,
 ⟨some 6, false, none, iFaddr 0 (.t 3)⟩,
 ⟨some 7, false, none, iLoad (.t 6)⟩,
 ⟨some 8, false, none, iFaddr 0 (.t 2)⟩,
 ⟨some 9, false, none, iFaddr 5 (.t 8)⟩,
 ⟨some 10, false, none, iLoad (.t 9)⟩,
 ⟨some 11, false, none, iCall (.c (.func (.func 110) [] [])) [(.t 5), (.t 7), (.t 10)]⟩,
 ⟨some 12, false, none, iNot (.t 11)⟩,
 ⟨some 4, true, none, iMov (.t 12)⟩])
 cRet)), [.t 4]⟩
noncomputable def Tryd.kp87 : List Nat := [0, 1, 2, 3, 4]
noncomputable def Tryd.cf87 : CF := ⟨2, (cSeq (cOps [⟨some 2, true, none, iBox 89 (.t 0)⟩,
 ⟨some 3, true, none, iBox 95 (.t 1)⟩,
 ⟨some 4, true, none, iMov (.c (.bool (.lit false)))⟩])
 (cSeq (cOps [⟨some 5, false, none, iLoadN 6 (.t 2)⟩,
 ⟨some 6, false, none, iFaddr 0 (.t 3)⟩,
 ⟨some 7, false, none, iLoad (.t 6)⟩,
 ⟨some 8, false, none, iCall (.c (.func (.func 111) [] [])) [(.t 5), (.t 7)]⟩,
 ⟨some 4, true, none, iMov (.t 8)⟩])
 cRet)), [.t 4]⟩
noncomputable def Tryd.kp88 : List Nat := [0, 1, 2, 3, 4]
noncomputable def Tryd.cf88 : CF := ⟨2, (cSeq (cOps [⟨some 2, true, none, iBox 89 (.t 0)⟩,
 ⟨some 3, true, none, iBox 95 (.t 1)⟩,
 ⟨some 4, true, none, iMov (.c (.bool (.lit false)))⟩])
 (cSeq (cOps [⟨some 5, false, none, iFaddr 0 (.t 2)⟩,
 ⟨some 6, false, none, iFaddr 3 (.t 5)⟩,
 ⟨some 7, false, none, iLoad (.t 6)⟩,
 ⟨some 8, false, none, iFaddr 1 (.t 3)⟩,
 ⟨some 9, false, none, iLoad (.t 8)⟩,
 ⟨some 10, false, none, iShift .shr (.t 7) (.t 9)⟩,
 ⟨some 11, false, none, iArith .and (.t 10) (.c (.int .i64 (.lit 1)))⟩,
 ⟨some 12, false, none, iCmp .eql (.t 11) (.c (.int .i64 (.lit 1)))⟩,
 ⟨some 4, true, none, iMov (.t 12)⟩])
 cRet)), [.t 4]⟩
noncomputable def Tryd.kp89 : List Nat := [0, 1, 2, 3, 4]
noncomputable def Tryd.cf89 : CF := ⟨2, (cSeq (cOps [⟨some 2, true, none, iBox 89 (.t 0)⟩,
 ⟨some 3, true, none, iBox 95 (.t 1)⟩,
 ⟨some 4, true, none, iMov (.c (.bool (.lit false)))⟩])
 (cSeq (cOps [⟨some 5, false, none, iFaddr 2 (.t 3)⟩,
 ⟨some 6, false, none, iLoad (.t 5)⟩,
 ⟨some 7, false, none, iFaddr 0 (.t 2)⟩,
 ⟨some 8, false, none, iFaddr 4 (.t 7)⟩,
 ⟨some 9, false, none, iLoad (.t 8)⟩,
 ⟨some 10, false, none, iCmp .gtr (.t 6) (.t 9)⟩,
 ⟨some 4, true, none, iMov (.t 10)⟩])
 cRet)), [.t 4]⟩
noncomputable def Tryd.kp94 : List Nat := [0, 1, 2]
noncomputable def Tryd.cf94 : CF := ⟨1, (cSeq (cOps [⟨some 1, true, none, iBox 29 (.t 0)⟩,
 ⟨some 2, true, none, iMov (.c .nilFunc)⟩])
 (cSeq (cOps [⟨some 3, false, none, iFunc (.func 112) [] [(.t 1)]⟩,
 ⟨some 2, true, none, iMov (.t 3)⟩])
 cRet)), [.t 2]⟩
noncomputable def Tryd.kp95 : List Nat := [0, 1, 2, 3, 6]
noncomputable def Tryd.cf95 : CF := ⟨3, (cSeq (cOps [⟨some 3, true, none, iBox 89 (.t 0)⟩,
 ⟨some 6, true, none, iMov (.c (.bool (.lit false)))⟩])
 (cSeq (cOps [⟨some 7, false, none, iLoadN 6 (.t 3)⟩,
 ⟨some 8, false, none, iMov (.t 1)⟩,
 ⟨some 9, false, none, iMov (.t 2)⟩,
 ⟨some 10, false, none, iCall (.c (.func (.func 110) [] [])) [(.t 7), (.t 8), (.t 9)]⟩,
 ⟨some 11, false, none, iMov (.t 10)⟩,
 ⟨some 12, false, some (11, true), iLoadN 6 (.t 3)⟩,
 ⟨some 13, false, some (11, true), iMov (.t 1)⟩,
 ⟨some 14, false, some (11, true), iCall (.c (.func (.func 111) [] [])) [(.t 12), (.t 13)]⟩,
 ⟨some 15, false, some (11, true), iNot (.t 14)⟩,
 ⟨some 16, false, none, iPick (.t 11) (.t 15) (.c (.bool (.lit false)))⟩,
 ⟨some 6, true, none, iMov (.t 16)⟩])
 cRet)), [.t 6]⟩
noncomputable def Tryd.kp96 : List Nat := [0, 2, 4, 5, 6, 7, 8]
noncomputable def Tryd.cf96 : CF := ⟨1, (cSeq (cOps [⟨some 2, true, none, iMov (.c (.int .i64 (.lit 0)))⟩])
 (cSeq (cSeq (cOps [⟨some 5, true, none, iMov (.t 0)⟩,
 ⟨some 6, true, none, iLenS (.t 5)⟩,
 ⟨some 7, true, none, iMov (.c (.int .i64 (.lit 0)))⟩])
 (cBlock 0 (cLoop (cSeq (cOps [⟨some 8, true, none, iCmp .lss (.t 7) (.t 6)⟩])
 (cSeq (cCond (.t 8) cSkip (cExit 0))
 (cSeq (cBlock 1 (cSeq (cOps [⟨some 9, false, none, iIaddr 1 (.t 5) (.t 7)⟩,
 ⟨some 10, false, none, iLoad (.t 9)⟩,
 ⟨some 4, true, none, iMov (.t 10)⟩])
 (cOps [⟨some 11, false, none, iMov (.t 2)⟩,
 ⟨some 12, false, none, iMov (.t 4)⟩,
 ⟨some 13, false, none, iArith .add (.t 11) (.t 12)⟩,
 ⟨some 2, true, none, iMov (.t 13)⟩])))
 (cOps [⟨some 14, false, none, iArith .add (.t 7) (.c (.int .i64 (.lit 1)))⟩,
 ⟨some 7, true, none, iMov (.t 14)⟩])))))))
 (cSeq (cOps [⟨some 15, false, none, iMov (.t 2)⟩,
 ⟨some 2, true, none, iMov (.t 15)⟩])
 cRet))), [.t 2]⟩
noncomputable def Tryd.kp97 : List Nat := [0, 1, 2, 3, 4]
noncomputable def Tryd.cf97 : CF := ⟨2, (cSeq (cOps [⟨some 2, true, none, iBox 89 (.t 0)⟩,
 ⟨some 3, true, none, iBox 55 (.t 1)⟩,
 ⟨some 4, true, none, iMov (.c (.bool (.lit false)))⟩])
 (cSeq (cOps [⟨some 5, false, none, iFaddr 0 (.t 3)⟩,
 ⟨some 6, false, none, iLoad (.t 5)⟩,
 ⟨some 7, false, none, iCmp .geq (.t 6) (.c (.int .i64 (.lit 0)))⟩,
 ⟨some 8, false, none, iMov (.t 7)⟩,
 ⟨some 9, false, some (8, true), iFaddr 0 (.t 3)⟩,
 ⟨some 10, false, some (8, true), iLoad (.t 9)⟩,
 ⟨some 11, false, some (8, true), iFaddr 0 (.t 2)⟩,
 ⟨some 12, false, some (8, true), iFaddr 0 (.t 11)⟩,
 ⟨some 13, false, some (8, true), iLoad (.t 12)⟩,
 ⟨some 14, false, some (8, true), iLenS (.t 13)⟩,
 ⟨some 15, false, some (8, true), iCmp .lss (.t 10) (.t 14)⟩,
 ⟨some 16, false, none, iPick (.t 8) (.t 15) (.c (.bool (.lit false)))⟩,
 ⟨some 17, false, none, iMov (.t 16)⟩,
 ⟨some 18, false, some (17, true), iFaddr 1 (.t 3)⟩,
 ⟨some 19, false, some (17, true), iLoad (.t 18)⟩,
 ⟨some 20, false, some (17, true), iCall (.c (.func (.func 54) [] [])) [(.t 19)]⟩,
 ⟨some 21, false, none, iPick (.t 17) (.t 20) (.c (.bool (.lit false)))⟩,
 ⟨some 4, true, none, iMov (.t 21)⟩])
 cRet)), [.t 4]⟩
noncomputable def Tryd.kp98 : List Nat := [0, 1, 2, 3, 4, 6, 8, 9, 10, 11, 12, 28]
noncomputable def Tryd.cf98 : CF := ⟨3, (cSeq (cOps [⟨some 3, true, none, iBox 89 (.t 0)⟩,
 ⟨some 4, true, none, iBox 55 (.t 1)⟩,
 ⟨some 6, true, none, iMov (.c (.bool (.lit false)))⟩])
 (cSeq (cSeq (cOps [⟨some 9, true, none, iMov (.t 2)⟩,
 ⟨some 10, true, none, iLenS (.t 9)⟩,
 ⟨some 11, true, none, iMov (.c (.int .i64 (.lit 0)))⟩])
 (cBlock 0 (cLoop (cSeq (cOps [⟨some 12, true, none, iCmp .lss (.t 11) (.t 10)⟩])
 (cSeq (cCond (.t 12) cSkip (cExit 0))
 (cSeq (cBlock 1 (cSeq (cOps [⟨some 13, false, none, iIaddr 2 (.t 9) (.t 11)⟩,
 ⟨some 14, false, none, iLoadN 2 (.t 13)⟩,
 ⟨some 8, true, none, iAlloc 55 [(.int .i64 (.lit 0)), (.int .i64 (.lit 0))]⟩,
 ⟨none, false, none, iStore 2 (.t 8) (.t 14)⟩])
 (cSeq (dOps 0 [⟨⟨some 15, false, none, iFaddr 1 (.t 4)⟩, [4], false, 0, 1, none, []⟩,
 ⟨⟨some 16, false, none, iLoad (.t 15)⟩, [15], false, 0, 1, none, []⟩,
 ⟨⟨some 17, false, none, iLoadN 6 (.t 3)⟩, [3], false, 0, 0, none, []⟩,
 ⟨⟨some 18, false, none, iLoadN 2 (.t 8)⟩, [8], false, 0, 0, none, []⟩,
 ⟨⟨some 19, false, none, iCall (.c (.func (.func 99) [] [])) [(.t 17), (.t 18)]⟩, [17, 18], true, 0, 0, none, []⟩,
 ⟨⟨some 20, false, none, iCmp .lss (.t 16) (.t 19)⟩, [16, 19], false, 1, 1, none, []⟩,
 ⟨⟨some 21, false, none, iMov (.t 20)⟩, [20], false, 1, 1, none, []⟩,
 ⟨⟨some 22, false, some (21, true), iFaddr 1 (.t 8)⟩, [21, 8], false, 1, 2, none, []⟩,
 ⟨⟨some 23, false, some (21, true), iLoad (.t 22)⟩, [21, 22], false, 1, 2, none, []⟩,
 ⟨⟨some 24, false, some (21, true), iLoadN 6 (.t 3)⟩, [21, 3], false, 1, 1, none, []⟩,
 ⟨⟨some 25, false, some (21, true), iLoadN 2 (.t 4)⟩, [21, 4], false, 1, 1, none, []⟩,
 ⟨⟨some 26, false, some (21, true), iCall (.c (.func (.func 99) [] [])) [(.t 24), (.t 25)]⟩, [21, 24, 25], true, 1, 0, none, []⟩,
 ⟨⟨some 27, false, some (21, true), iCmp .lss (.t 23) (.t 26)⟩, [21, 23, 26], false, 2, 2, none, []⟩,
 ⟨⟨some 28, true, none, iPick (.t 21) (.t 27) (.c (.bool (.lit false)))⟩, [21, 27], false, 2, 2, none, []⟩])
 (cCond (.t 28) (cSeq (cOps [⟨some 6, true, none, iMov (.c (.bool (.lit false)))⟩])
 cRet) cSkip))))
 (cOps [⟨some 29, false, none, iArith .add (.t 11) (.c (.int .i64 (.lit 1)))⟩,
 ⟨some 11, true, none, iMov (.t 29)⟩])))))))
 (cSeq (cOps [⟨some 6, true, none, iMov (.c (.bool (.lit true)))⟩])
 cRet))), [.t 6]⟩
noncomputable def Tryd.kp99 : List Nat := [0, 1, 2, 3, 4]
noncomputable def Tryd.cf99 : CF := ⟨2, (cSeq (cOps [⟨some 2, true, none, iBox 89 (.t 0)⟩,
 ⟨some 3, true, none, iBox 55 (.t 1)⟩,
 ⟨some 4, true, none, iMov (.c (.int .i64 (.lit 0)))⟩])
 (cSeq (dOps 0 [⟨⟨some 5, false, none, iLoadN 6 (.t 2)⟩, [2], false, 0, 0, none, []⟩,
 ⟨⟨some 6, false, none, iLoadN 2 (.t 3)⟩, [3], false, 0, 0, none, []⟩,
 ⟨⟨some 7, false, none, iCall (.c (.func (.func 113) [] [])) [(.t 5), (.t 6)]⟩, [5, 6], true, 0, 0, none, []⟩,
 ⟨⟨some 8, false, none, iFaddr 0 (.t 2)⟩, [2], false, 0, 1, none, []⟩,
 ⟨⟨some 9, false, none, iFaddr 1 (.t 8)⟩, [8], false, 0, 1, none, []⟩,
 ⟨⟨some 10, false, none, iLoad (.t 9)⟩, [9], false, 0, 1, none, []⟩,
 ⟨⟨some 11, false, none, iBslice 3 [(.int .i64 (.lit 0))] 2 [(0, 1, (.t 7)), (1, 1, (.t 10))]⟩, [7, 10], true, 1, 0, none, []⟩,
 ⟨⟨some 12, false, none, iCall (.c (.func (.func 96) [] [])) [(.t 11)]⟩, [11], true, 2, 0, none, []⟩,
 ⟨⟨some 4, true, none, iMov (.t 12)⟩, [12], false, 3, 3, none, []⟩])
 cRet)), [.t 4]⟩
noncomputable def Tryd.kp101 : List Nat := [0, 1, 2, 3, 6, 7, 8, 27]
noncomputable def Tryd.cf101 : CF := ⟨3, (cSeq (cOps [⟨some 3, true, none, iBox 89 (.t 0)⟩,
 ⟨some 6, true, none, iAlloc 112 [(.bool (.lit false)), .nilslice, (.int .i64 (.lit 0)), (.bool (.lit false)), (.bool (.lit false)), (.bool (.lit false)), (.bool (.lit false)), (.bool (.lit false)), (.bool (.lit false)), (.bool (.lit false)), (.bool (.lit false))]⟩,
 ⟨some 7, true, none, iMov (.c (.int .i64 (.lit 0)))⟩])
 (cSeq (dOps 1 [⟨⟨some 9, false, none, iLoadN 6 (.t 3)⟩, [3], false, 0, 1, none, []⟩,
 ⟨⟨some 10, false, none, iLoadN 6 (.t 3)⟩, [3], false, 0, 0, none, []⟩,
 ⟨⟨some 11, false, none, iMov (.t 1)⟩, [1], false, 0, 0, none, []⟩,
 ⟨⟨some 12, false, none, iMov (.t 2)⟩, [2], false, 0, 0, none, []⟩,
 ⟨⟨some 13, false, none, iCall (.c (.func (.func 104) [] [])) [(.t 10), (.t 11), (.t 12), (.c (.func (.func 114) [] []))]⟩, [10, 11, 12], true, 0, 0, none, []⟩,
 ⟨⟨some 14, false, none, iCall (.c (.func (.func 106) [] [])) [(.t 9), (.t 13)]⟩, [9, 13], true, 1, 0, none, []⟩,
 ⟨⟨some 15, false, none, iCall (.t 14) [(.c (.int .i64 (.lit 0)))]⟩, [14], true, 2, 0, none, []⟩,
 ⟨⟨some 8, true, none, iAlloc 112 [(.bool (.lit false)), .nilslice, (.int .i64 (.lit 0)), (.bool (.lit false)), (.bool (.lit false)), (.bool (.lit false)), (.bool (.lit false)), (.bool (.lit false)), (.bool (.lit false)), (.bool (.lit false)), (.bool (.lit false))]⟩, [], false, 0, 4, (some (flAlloc [(.bool (.lit false)), .nilslice, (.int .i64 (.lit 0)), (.bool (.lit false)), (.bool (.lit false)), (.bool (.lit false)), (.bool (.lit false)), (.bool (.lit false)), (.bool (.lit false)), (.bool (.lit false)), (.bool (.lit false))], .ptr, 0)), []⟩,
 ⟨⟨none, false, none, iStore 11 (.t 8) (.t 15)⟩, [8, 15], true, 3, 0, none, [0]⟩])
 (cSeq (cSeq (cOps [⟨some 16, false, none, iFaddr 0 (.t 8)⟩,
 ⟨some 17, false, none, iLoad (.t 16)⟩,
 ⟨some 18, false, none, iNot (.t 17)⟩,
 ⟨some 19, false, none, iMov (.t 18)⟩,
 ⟨some 20, false, some (19, false), iLoadN 6 (.t 3)⟩,
 ⟨some 21, false, some (19, false), iFaddr 1 (.t 8)⟩,
 ⟨some 22, false, some (19, false), iLoad (.t 21)⟩,
 ⟨some 23, false, some (19, false), iMov (.t 2)⟩,
 ⟨some 24, false, some (19, false), iCall (.c (.func (.func 72) [] [])) [(.t 20), (.t 22), (.t 23)]⟩,
 ⟨some 25, false, some (19, false), iBuild [(.bool (.lit false)), (.bool (.lit false)), (.bool (.lit false)), (.bool (.lit false)), (.bool (.lit false)), (.bool (.lit false)), (.bool (.lit false)), (.bool (.lit false))] []⟩,
 ⟨some 26, false, some (19, false), iEq true true 8 [(0, .bool), (1, .bool), (2, .bool), (3, .bool), (4, .bool), (5, .bool), (6, .bool), (7, .bool)] (.t 24) (.t 25)⟩,
 ⟨some 27, true, none, iPick (.t 19) (.c (.bool (.lit true))) (.t 26)⟩])
 (cCond (.t 27) (cSeq (cOps [⟨some 28, false, none, iBuild [(.bool (.lit false)), .nilslice, (.int .i64 (.lit 0)), (.bool (.lit false)), (.bool (.lit false)), (.bool (.lit false)), (.bool (.lit false)), (.bool (.lit false)), (.bool (.lit false)), (.bool (.lit false)), (.bool (.lit false))] []⟩,
 ⟨none, false, none, iStore 11 (.t 6) (.t 28)⟩,
 ⟨some 7, true, none, iMov (.c (.int .i64 (.lit 4)))⟩])
 cRet) cSkip))
 (cSeq (cOps [⟨some 29, false, none, iLoadN 11 (.t 8)⟩,
 ⟨none, false, none, iStore 11 (.t 6) (.t 29)⟩,
 ⟨some 7, true, none, iMov (.c (.int .i64 (.lit 0)))⟩])
 cRet)))), [.cell 6 true 11, .t 7]⟩
noncomputable def Tryd.kp102 : List Nat := [0, 1, 4, 5, 6, 7, 11, 21]
noncomputable def Tryd.cf102 : CF := ⟨2, (cSeq (cOps [⟨some 4, true, none, iMov (.c (.int .i64 (.lit 0)))⟩])
 (cSeq (cOps [⟨some 8, false, none, iMov (.t 0)⟩,
 ⟨some 5, true, none, iMov (.c (.int .i64 (.lit 0)))⟩,
 ⟨some 6, true, none, iMov (.t 8)⟩])
 (cSeq (cBlock 0 (cLoop (cSeq (cSeq (cOps [⟨some 9, false, none, iMov (.t 5)⟩,
 ⟨some 10, false, none, iMov (.t 6)⟩,
 ⟨some 11, true, none, iCmp .lss (.t 9) (.t 10)⟩])
 (cCond (.t 11) cSkip (cExit 0)))
 (cBlock 1 (cSeq (cOps [⟨some 12, false, none, iMov (.t 5)⟩,
 ⟨some 13, false, none, iMov (.t 6)⟩,
 ⟨some 14, false, none, iArith .add (.t 12) (.t 13)⟩,
 ⟨some 15, false, none, iConv .u64 (.t 14)⟩,
 ⟨some 16, false, none, iShift .shr (.t 15) (.c (.int .u64 (.lit 1)))⟩,
 ⟨some 17, false, none, iConv .i64 (.t 16)⟩,
 ⟨some 7, true, none, iMov (.t 17)⟩])
 (cSeq (cOps [⟨some 18, false, none, iMov (.t 1)⟩,
 ⟨some 19, false, none, iMov (.t 7)⟩,
 ⟨some 20, false, none, iCall (.t 18) [(.t 19)]⟩,
 ⟨some 21, true, none, iNot (.t 20)⟩])
 (cCond (.t 21) (cOps [⟨some 22, false, none, iMov (.t 7)⟩,
 ⟨some 23, false, none, iArith .add (.t 22) (.c (.int .i64 (.lit 1)))⟩,
 ⟨some 5, true, none, iMov (.t 23)⟩]) (cOps [⟨some 24, false, none, iMov (.t 7)⟩,
 ⟨some 6, true, none, iMov (.t 24)⟩]))))))))
 (cSeq (cOps [⟨some 25, false, none, iMov (.t 5)⟩,
 ⟨some 4, true, none, iMov (.t 25)⟩])
 cRet)))), [.t 4]⟩
noncomputable def Tryd.kp103 : List Nat := [0, 1, 2, 4, 6]
noncomputable def Tryd.cf103 : CF := ⟨3, (cSeq (cOps [⟨some 4, true, none, iMov (.c (.bool (.lit false)))⟩])
 (cSeq (cOps [⟨some 8, false, none, iLoadN 6 (.t 1)⟩,
 ⟨some 9, false, none, iMov (.t 0)⟩,
 ⟨some 10, false, none, iLoad (.t 2)⟩,
 ⟨some 11, false, none, iCall (.c (.func (.func 101) [] [])) [(.t 8), (.t 9), (.t 10)]⟩,
 ⟨some 7, false, none, iMov (.t 11)⟩,
 ⟨some 12, false, none, iExtract 0 (.t 7)⟩,
 ⟨some 13, false, none, iExtract 1 (.t 7)⟩,
 ⟨some 5, false, none, iAlloc 112 [(.bool (.lit false)), .nilslice, (.int .i64 (.lit 0)), (.bool (.lit false)), (.bool (.lit false)), (.bool (.lit false)), (.bool (.lit false)), (.bool (.lit false)), (.bool (.lit false)), (.bool (.lit false)), (.bool (.lit false))]⟩,
 ⟨none, false, none, iStore 11 (.t 5) (.t 12)⟩,
 ⟨some 6, true, none, iMov (.t 13)⟩])
 (cSeq (cOps [⟨some 14, false, none, iMov (.t 6)⟩,
 ⟨some 15, false, none, iCmp .neq (.t 14) (.c (.int .i64 (.lit 0)))⟩,
 ⟨some 4, true, none, iMov (.t 15)⟩])
 cRet))), [.t 4]⟩
noncomputable def Tryd.kp104 : List Nat := [0, 1, 2, 3, 4, 8, 9, 11, 19, 20, 21, 22, 28]
noncomputable def Tryd.cf104 : CF := ⟨4, (cSeq (cOps [⟨some 4, true, none, iBox 89 (.t 0)⟩,
 ⟨some 8, true, none, iAlloc 141 [(.int .i64 (.lit 0)), .nilslice, .nilFunc]⟩])
 (cSeq (cOps [⟨some 12, false, none, iMov (.t 1)⟩,
 ⟨some 13, false, none, iMov (.t 3)⟩,
 ⟨some 14, false, none, iBuild [(.int .i64 (.lit 0)), .nilslice, .nilFunc] [(0, 1, (.t 12)), (2, 1, (.t 13))]⟩,
 ⟨some 9, true, none, iAlloc 141 [(.int .i64 (.lit 0)), .nilslice, .nilFunc]⟩,
 ⟨none, false, none, iStore 3 (.t 9) (.t 14)⟩])
 (cSeq (cSeq (cOps [⟨some 15, false, none, iLoadN 6 (.t 4)⟩,
 ⟨some 16, false, none, iMov (.t 2)⟩,
 ⟨some 17, false, none, iCall (.c (.func (.func 72) [] [])) [(.t 15), (.c .nilslice), (.t 16)]⟩,
 ⟨some 18, false, none, iMov (.t 2)⟩,
 ⟨some 19, true, none, iCall (.c (.func (.func 73) [] [])) [(.t 17), (.t 18), (.c (.bool (.lit true)))]⟩,
 ⟨some 20, true, none, iLenS (.t 19)⟩,
 ⟨some 21, true, none, iMov (.c (.int .i64 (.lit 0)))⟩])
 (cBlock 0 (cLoop (cSeq (cOps [⟨some 22, true, none, iCmp .lss (.t 21) (.t 20)⟩])
 (cSeq (cCond (.t 22) cSkip (cExit 0))
 (cSeq (cBlock 1 (cSeq (cOps [⟨some 23, false, none, iIaddr 1 (.t 19) (.t 21)⟩,
 ⟨some 24, false, none, iLoad (.t 23)⟩,
 ⟨some 11, true, none, iMov (.t 24)⟩])
 (cSeq (cOps [⟨some 25, false, none, iLoadN 6 (.t 4)⟩,
 ⟨some 26, false, none, iMov (.t 11)⟩,
 ⟨some 27, false, none, iCall (.c (.func (.func 111) [] [])) [(.t 25), (.t 26)]⟩,
 ⟨some 28, true, none, iNot (.t 27)⟩])
 (cCond (.t 28) (cOps [⟨some 29, false, none, iFaddr 1 (.t 9)⟩,
 ⟨some 30, false, none, iLoad (.t 29)⟩,
 ⟨some 31, false, none, iMov (.t 11)⟩,
 ⟨some 32, false, none, iBslice 3 [(.int .i64 (.lit 0))] 1 [(0, 1, (.t 31))]⟩,
 ⟨some 33, false, none, iAppend 3 1 8 (.t 30) (.t 32)⟩,
 ⟨some 34, false, none, iFaddr 1 (.t 9)⟩,
 ⟨none, false, none, iStore 1 (.t 34) (.t 33)⟩]) cSkip))))
 (cOps [⟨some 35, false, none, iArith .add (.t 21) (.c (.int .i64 (.lit 1)))⟩,
 ⟨some 21, true, none, iMov (.t 35)⟩])))))))
 (cSeq (cOps [⟨some 36, false, none, iLoadN 3 (.t 9)⟩,
 ⟨none, false, none, iStore 3 (.t 8) (.t 36)⟩])
 cRet)))), [.cell 8 true 3]⟩
noncomputable def Tryd.kp105 : List Nat := [0, 1, 2, 3, 4, 5, 6, 11, 18, 19, 20, 28]
noncomputable def Tryd.cf105 : CF := ⟨2, (cSeq (cOps [⟨some 2, true, none, iBox 112 (.t 0)⟩,
 ⟨some 3, true, none, iBox 112 (.t 1)⟩,
 ⟨some 4, true, none, iMov (.c (.bool (.lit false)))⟩])
 (cSeq (cSeq (cOps [⟨some 7, false, none, iFaddr 2 (.t 2)⟩,
 ⟨some 8, false, none, iLoad (.t 7)⟩,
 ⟨some 9, false, none, iFaddr 2 (.t 3)⟩,
 ⟨some 10, false, none, iLoad (.t 9)⟩,
 ⟨some 11, true, none, iCmp .neq (.t 8) (.t 10)⟩])
 (cCond (.t 11) (cSeq (cOps [⟨some 12, false, none, iFaddr 2 (.t 2)⟩,
 ⟨some 13, false, none, iLoad (.t 12)⟩,
 ⟨some 14, false, none, iFaddr 2 (.t 3)⟩,
 ⟨some 15, false, none, iLoad (.t 14)⟩,
 ⟨some 16, false, none, iCmp .lss (.t 13) (.t 15)⟩,
 ⟨some 4, true, none, iMov (.t 16)⟩])
 cRet) cSkip))
 (cSeq (cSeq (cOps [⟨some 17, false, none, iFaddr 3 (.t 2)⟩,
 ⟨some 18, true, none, iLoadN 8 (.t 17)⟩,
 ⟨some 19, true, none, iMov (.c (.int .i64 (.lit 0)))⟩])
 (cBlock 0 (cLoop (cSeq (cOps [⟨some 20, true, none, iCmp .lss (.t 19) (.c (.int .i64 (.lit 8)))⟩])
 (cSeq (cCond (.t 20) cSkip (cExit 0))
 (cSeq (cBlock 1 (cSeq (cOps [⟨some 21, false, none, iMov (.t 19)⟩,
 ⟨some 22, false, none, iIndex false 1 8 (.t 18) (.t 19)⟩,
 ⟨some 5, true, none, iMov (.t 21)⟩,
 ⟨some 6, true, none, iMov (.t 22)⟩])
 (cSeq (cOps [⟨some 23, false, none, iMov (.t 6)⟩,
 ⟨some 24, false, none, iMov (.t 5)⟩,
 ⟨some 25, false, none, iFaddr 3 (.t 3)⟩,
 ⟨some 26, false, none, iIaddrA 1 8 (.t 25) (.t 24)⟩,
 ⟨some 27, false, none, iLoad (.t 26)⟩,
 ⟨some 28, true, none, iEq true false 1 [(0, .bool)] (.t 23) (.t 27)⟩])
 (cCond (.t 28) (cSeq (cOps [⟨some 29, false, none, iMov (.t 6)⟩,
 ⟨some 4, true, none, iMov (.t 29)⟩])
 cRet) cSkip))))
 (cOps [⟨some 30, false, none, iArith .add (.t 19) (.c (.int .i64 (.lit 1)))⟩,
 ⟨some 19, true, none, iMov (.t 30)⟩])))))))
 (cSeq (cOps [⟨some 4, true, none, iMov (.c (.bool (.lit false)))⟩])
 cRet)))), [.t 4]⟩
noncomputable def Tryd.kp106 : List Nat := [0, 1, 2, 3, 4, 5, 6]
noncomputable def Tryd.cf106 : CF := ⟨2, (cSeq (cOps [⟨some 2, true, none, iBox 89 (.t 0)⟩,
 ⟨some 3, true, none, iBox 141 (.t 1)⟩,
 ⟨some 4, true, none, iMov (.c .nilFunc)⟩])
 (cSeq (cOps [⟨some 7, false, none, iMkmap⟩,
 ⟨some 5, true, none, iAlloc 148 [.nilmap]⟩,
 ⟨none, false, none, iStore 1 (.t 5) (.t 7)⟩])
 (cSeq (cOps [⟨some 6, true, none, iAlloc 149 [.nilFunc]⟩])
 (cSeq (cOps [⟨some 8, false, none, iFunc (.func 115) [] [(.t 3), (.t 5), (.t 6), (.t 2)]⟩,
 ⟨none, false, none, iStore 1 (.t 6) (.t 8)⟩])
 (cSeq (cOps [⟨some 9, false, none, iFunc (.func 119) [] [(.t 6)]⟩,
 ⟨some 4, true, none, iMov (.t 9)⟩])
 cRet))))), [.t 4]⟩
noncomputable def Tryd.kp107 : List Nat := [0, 1, 2, 4, 5, 6, 9, 10, 11, 12, 21, 22, 23, 31]
noncomputable def Tryd.cf107 : CF := ⟨1, (cSeq (cOps [⟨some 1, true, none, iBox 89 (.t 0)⟩,
 ⟨some 2, true, none, iMov (.c (.bool (.lit false)))⟩])
 (cSeq (cSeq (cOps [⟨some 7, false, none, iFaddr 0 (.t 1)⟩,
 ⟨some 8, false, none, iFaddr 0 (.t 7)⟩,
 ⟨some 9, true, none, iLoad (.t 8)⟩,
 ⟨some 10, true, none, iLenS (.t 9)⟩,
 ⟨some 11, true, none, iMov (.c (.int .i64 (.lit 0)))⟩])
 (cBlock 0 (cLoop (cSeq (cOps [⟨some 12, true, none, iCmp .lss (.t 11) (.t 10)⟩])
 (cSeq (cCond (.t 12) cSkip (cExit 0))
 (cSeq (cBlock 1 (cSeq (cOps [⟨some 13, false, none, iIaddr 3 (.t 9) (.t 11)⟩,
 ⟨some 14, false, none, iLoadN 3 (.t 13)⟩,
 ⟨some 4, true, none, iAlloc 53 [(.int .i64 (.lit 0)), (.int .i64 (.lit 0)), (.int .i64 (.lit 0))]⟩,
 ⟨none, false, none, iStore 3 (.t 4) (.t 14)⟩])
 (cSeq (cOps [⟨some 15, false, none, iFaddr 0 (.t 4)⟩,
 ⟨some 16, false, none, iLoad (.t 15)⟩,
 ⟨some 17, false, none, iFaddr 1 (.t 4)⟩,
 ⟨some 18, false, none, iLoad (.t 17)⟩,
 ⟨some 19, false, none, iFaddr 2 (.t 4)⟩,
 ⟨some 20, false, none, iLoad (.t 19)⟩,
 ⟨some 21, true, none, iBuild [(.int .i64 (.lit 0)), (.int .i64 (.lit 0)), (.int .i64 (.lit 0))] [(0, 1, (.t 16)), (1, 1, (.t 18)), (2, 1, (.t 20))]⟩,
 ⟨some 22, true, none, iMov (.c (.int .i64 (.lit 0)))⟩])
 (cBlock 2 (cLoop (cSeq (cOps [⟨some 23, true, none, iCmp .lss (.t 22) (.c (.int .i64 (.lit 3)))⟩])
 (cSeq (cCond (.t 23) cSkip (cExit 2))
 (cSeq (cBlock 3 (cSeq (cOps [⟨some 24, false, none, iMov (.t 22)⟩,
 ⟨some 25, false, none, iIndex false 1 3 (.t 21) (.t 22)⟩,
 ⟨some 5, true, none, iMov (.t 24)⟩,
 ⟨some 6, true, none, iMov (.t 25)⟩])
 (cSeq (cOps [⟨some 26, false, none, iMov (.t 6)⟩,
 ⟨some 27, false, none, iMov (.t 5)⟩,
 ⟨some 28, false, none, iIaddrA 2 3 (.c (.ptr 1 0)) (.t 27)⟩,
 ⟨some 29, false, none, iLoadN 2 (.t 28)⟩,
 ⟨some 30, false, none, iCall (.c (.func (.func 78) [] [])) [(.t 26), (.t 29)]⟩,
 ⟨some 31, true, none, iNot (.t 30)⟩])
 (cCond (.t 31) (cSeq (cOps [⟨some 2, true, none, iMov (.c (.bool (.lit false)))⟩])
 cRet) cSkip))))
 (cOps [⟨some 32, false, none, iArith .add (.t 22) (.c (.int .i64 (.lit 1)))⟩,
 ⟨some 22, true, none, iMov (.t 32)⟩])))))))))
 (cOps [⟨some 33, false, none, iArith .add (.t 11) (.c (.int .i64 (.lit 1)))⟩,
 ⟨some 11, true, none, iMov (.t 33)⟩])))))))
 (cSeq (cOps [⟨some 2, true, none, iMov (.c (.bool (.lit true)))⟩])
 cRet))), [.t 2]⟩
noncomputable def Tryd.kp108 : List Nat := [0, 1, 2, 3, 5, 8, 9, 10, 11, 22]
noncomputable def Tryd.cf108 : CF := ⟨1, (cSeq (cOps [⟨some 1, true, none, iBox 89 (.t 0)⟩,
 ⟨some 2, true, none, iMov (.c (.bool (.lit false)))⟩])
 (cSeq (cOps [⟨some 3, true, none, iMov (.c (.int .i64 (.lit 0)))⟩])
 (cSeq (cSeq (cOps [⟨some 6, false, none, iFaddr 0 (.t 1)⟩,
 ⟨some 7, false, none, iFaddr 2 (.t 6)⟩,
 ⟨some 8, true, none, iLoad (.t 7)⟩,
 ⟨some 9, true, none, iLenS (.t 8)⟩,
 ⟨some 10, true, none, iMov (.c (.int .i64 (.lit 0)))⟩])
 (cBlock 0 (cLoop (cSeq (cOps [⟨some 11, true, none, iCmp .lss (.t 10) (.t 9)⟩])
 (cSeq (cCond (.t 11) cSkip (cExit 0))
 (cSeq (cBlock 1 (cSeq (cOps [⟨some 12, false, none, iIaddr 2 (.t 8) (.t 10)⟩,
 ⟨some 13, false, none, iLoadN 2 (.t 12)⟩,
 ⟨some 5, true, none, iAlloc 29 [(.int .i64 (.lit 0)), (.int .i64 (.lit 0))]⟩,
 ⟨none, false, none, iStore 2 (.t 5) (.t 13)⟩])
 (cSeq (cSeq (cOps [⟨some 14, false, none, iLoadN 2 (.t 5)⟩,
 ⟨some 15, false, none, iCall (.c (.func (.func 66) [] [])) [(.t 14)]⟩,
 ⟨some 16, false, none, iNot (.t 15)⟩,
 ⟨some 17, false, none, iMov (.t 16)⟩,
 ⟨some 18, false, some (17, false), iFaddr 0 (.t 5)⟩,
 ⟨some 19, false, some (17, false), iLoad (.t 18)⟩,
 ⟨some 20, false, some (17, false), iMov (.t 3)⟩,
 ⟨some 21, false, some (17, false), iCmp .lss (.t 19) (.t 20)⟩,
 ⟨some 22, true, none, iPick (.t 17) (.c (.bool (.lit true))) (.t 21)⟩])
 (cCond (.t 22) (cSeq (cOps [⟨some 2, true, none, iMov (.c (.bool (.lit false)))⟩])
 cRet) cSkip))
 (cOps [⟨some 23, false, none, iFaddr 1 (.t 5)⟩,
 ⟨some 24, false, none, iLoad (.t 23)⟩,
 ⟨some 25, false, none, iArith .add (.t 24) (.c (.int .i64 (.lit 1)))⟩,
 ⟨some 3, true, none, iMov (.t 25)⟩]))))
 (cOps [⟨some 26, false, none, iArith .add (.t 10) (.c (.int .i64 (.lit 1)))⟩,
 ⟨some 10, true, none, iMov (.t 26)⟩])))))))
 (cSeq (cOps [⟨some 2, true, none, iMov (.c (.bool (.lit true)))⟩])
 cRet)))), [.t 2]⟩
noncomputable def Tryd.kp109 : List Nat := [0, 1, 2, 3, 4, 7, 8, 9, 10, 29]
noncomputable def Tryd.cf109 : CF := ⟨1, (cSeq (cOps [⟨some 1, true, none, iBox 89 (.t 0)⟩,
 ⟨some 2, true, none, iMov (.c (.bool (.lit false)))⟩])
 (cSeq (cSeq (cOps [⟨some 5, false, none, iFaddr 0 (.t 1)⟩,
 ⟨some 6, false, none, iFaddr 5 (.t 5)⟩,
 ⟨some 7, true, none, iLoad (.t 6)⟩,
 ⟨some 8, true, none, iLenS (.t 7)⟩,
 ⟨some 9, true, none, iMov (.c (.int .i64 (.lit 0)))⟩])
 (cBlock 0 (cLoop (cSeq (cOps [⟨some 10, true, none, iCmp .lss (.t 9) (.t 8)⟩])
 (cSeq (cCond (.t 10) cSkip (cExit 0))
 (cSeq (cBlock 1 (cSeq (cOps [⟨some 11, false, none, iMov (.t 9)⟩,
 ⟨some 12, false, none, iIaddr 2 (.t 7) (.t 9)⟩,
 ⟨some 13, false, none, iLoadN 2 (.t 12)⟩,
 ⟨some 4, true, none, iAlloc 55 [(.int .i64 (.lit 0)), (.int .i64 (.lit 0))]⟩,
 ⟨some 3, true, none, iMov (.t 11)⟩,
 ⟨none, false, none, iStore 2 (.t 4) (.t 13)⟩])
 (cSeq (dOps 0 [⟨⟨some 14, false, none, iLoadN 6 (.t 1)⟩, [1], false, 0, 0, none, []⟩,
 ⟨⟨some 15, false, none, iLoadN 2 (.t 4)⟩, [4], false, 0, 0, none, []⟩,
 ⟨⟨some 16, false, none, iCall (.c (.func (.func 97) [] [])) [(.t 14), (.t 15)]⟩, [14, 15], true, 0, 0, none, []⟩,
 ⟨⟨some 17, false, none, iNot (.t 16)⟩, [16], false, 1, 1, none, []⟩,
 ⟨⟨some 18, false, none, iMov (.t 17)⟩, [17], false, 1, 1, none, []⟩,
 ⟨⟨some 19, false, some (18, false), iLoadN 6 (.t 1)⟩, [18, 1], false, 1, 1, none, []⟩,
 ⟨⟨some 20, false, some (18, false), iLoadN 2 (.t 4)⟩, [18, 4], false, 1, 1, none, []⟩,
 ⟨⟨some 21, false, some (18, false), iFaddr 0 (.t 1)⟩, [18, 1], false, 1, 1, none, []⟩,
 ⟨⟨some 22, false, some (18, false), iFaddr 5 (.t 21)⟩, [18, 21], false, 1, 1, none, []⟩,
 ⟨⟨some 23, false, some (18, false), iLoad (.t 22)⟩, [18, 22], false, 1, 1, none, []⟩,
 ⟨⟨some 24, false, some (18, false), iMov (.t 3)⟩, [18, 3], false, 1, 1, none, []⟩,
 ⟨⟨some 25, false, some (18, false), iMov (.t 3)⟩, [18, 3], false, 1, 1, none, []⟩,
 ⟨⟨some 26, false, some (18, false), iSlice 2 (.t 23) none (some (.t 24)) (some (.t 25))⟩, [18, 23, 24, 25], false, 1, 1, none, []⟩,
 ⟨⟨some 27, false, some (18, false), iCall (.c (.func (.func 98) [] [])) [(.t 19), (.t 20), (.t 26)]⟩, [18, 19, 20, 26], true, 1, 0, none, []⟩,
 ⟨⟨some 28, false, some (18, false), iNot (.t 27)⟩, [18, 27], false, 2, 2, none, []⟩,
 ⟨⟨some 29, true, none, iPick (.t 18) (.c (.bool (.lit true))) (.t 28)⟩, [18, 28], false, 2, 2, none, []⟩])
 (cCond (.t 29) (cSeq (cOps [⟨some 2, true, none, iMov (.c (.bool (.lit false)))⟩])
 cRet) cSkip))))
 (cOps [⟨some 30, false, none, iArith .add (.t 9) (.c (.int .i64 (.lit 1)))⟩,
 ⟨some 9, true, none, iMov (.t 30)⟩])))))))
 (cSeq (cOps [⟨some 2, true, none, iMov (.c (.bool (.lit true)))⟩])
 cRet))), [.t 2]⟩
noncomputable def Tryd.kp110 : List Nat := [0, 1, 2, 3, 6, 8, 9, 10, 11, 12, 18]
noncomputable def Tryd.cf110 : CF := ⟨3, (cSeq (cOps [⟨some 3, true, none, iBox 89 (.t 0)⟩,
 ⟨some 6, true, none, iMov (.c (.bool (.lit false)))⟩])
 (cSeq (cSeq (cOps [⟨some 9, true, none, iMov (.t 2)⟩,
 ⟨some 10, true, none, iLenS (.t 9)⟩,
 ⟨some 11, true, none, iMov (.c (.int .i64 (.lit 0)))⟩])
 (cBlock 0 (cLoop (cSeq (cOps [⟨some 12, true, none, iCmp .lss (.t 11) (.t 10)⟩])
 (cSeq (cCond (.t 12) cSkip (cExit 0))
 (cSeq (cBlock 1 (cSeq (cOps [⟨some 13, false, none, iIaddr 2 (.t 9) (.t 11)⟩,
 ⟨some 14, false, none, iLoadN 2 (.t 13)⟩,
 ⟨some 8, true, none, iAlloc 55 [(.int .i64 (.lit 0)), (.int .i64 (.lit 0))]⟩,
 ⟨none, false, none, iStore 2 (.t 8) (.t 14)⟩])
 (cSeq (cOps [⟨some 15, false, none, iLoadN 6 (.t 3)⟩,
 ⟨some 16, false, none, iLoadN 2 (.t 8)⟩,
 ⟨some 17, false, none, iMov (.t 1)⟩,
 ⟨some 18, true, none, iCall (.c (.func (.func 120) [] [])) [(.t 15), (.t 16), (.t 17)]⟩])
 (cCond (.t 18) (cSeq (cOps [⟨some 6, true, none, iMov (.c (.bool (.lit true)))⟩])
 cRet) cSkip))))
 (cOps [⟨some 19, false, none, iArith .add (.t 11) (.c (.int .i64 (.lit 1)))⟩,
 ⟨some 11, true, none, iMov (.t 19)⟩])))))))
 (cSeq (cOps [⟨some 6, true, none, iMov (.c (.bool (.lit false)))⟩])
 cRet))), [.t 6]⟩
noncomputable def Tryd.kp111 : List Nat := [0, 1, 2, 4]
noncomputable def Tryd.cf111 : CF := ⟨2, (cSeq (cOps [⟨some 2, true, none, iBox 89 (.t 0)⟩,
 ⟨some 4, true, none, iMov (.c (.bool (.lit false)))⟩])
 (cSeq (cOps [⟨some 5, false, none, iFaddr 0 (.t 2)⟩,
 ⟨some 6, false, none, iFaddr 2 (.t 5)⟩,
 ⟨some 7, false, none, iLoad (.t 6)⟩,
 ⟨some 8, false, none, iMov (.t 1)⟩,
 ⟨some 9, false, none, iFunc (.func 122) [(.t 8)] []⟩,
 ⟨some 10, false, none, iCall (.c (.func (.func 121) [] [])) [(.t 7), (.t 9)]⟩,
 ⟨some 4, true, none, iMov (.t 10)⟩])
 cRet)), [.t 4]⟩
noncomputable def Tryd.kp112 : List Nat := [0, 1, 3, 9, 15]
noncomputable def Tryd.cf112 : CF := ⟨2, (cSeq (cOps [⟨some 4, false, none, iFaddr 0 (.t 1)⟩,
 ⟨some 5, false, none, iLoad (.t 4)⟩,
 ⟨some 3, true, none, iMov (.t 5)⟩])
 (cBlock 0 (cLoop (cSeq (cSeq (cOps [⟨some 6, false, none, iMov (.t 3)⟩,
 ⟨some 7, false, none, iFaddr 1 (.t 1)⟩,
 ⟨some 8, false, none, iLoad (.t 7)⟩,
 ⟨some 9, true, none, iCmp .leq (.t 6) (.t 8)⟩])
 (cCond (.t 9) cSkip (cExit 0)))
 (cSeq (cBlock 1 (cSeq (cOps [⟨some 12, false, none, iMov (.t 0)⟩,
 ⟨some 13, false, none, iMov (.t 3)⟩,
 ⟨some 14, false, none, iCall (.t 12) [(.t 13)]⟩,
 ⟨some 15, true, none, iNot (.t 14)⟩])
 (cCond (.t 15) cRet cSkip)))
 (cOps [⟨some 10, false, none, iMov (.t 3)⟩,
 ⟨some 11, false, none, iArith .add (.t 10) (.c (.int .i64 (.lit 1)))⟩,
 ⟨some 3, true, none, iMov (.t 11)⟩])))))), []⟩
noncomputable def Tryd.kp113 : List Nat := [0, 1, 2, 3, 4]
noncomputable def Tryd.cf113 : CF := ⟨2, (cSeq (cOps [⟨some 2, true, none, iBox 89 (.t 0)⟩,
 ⟨some 3, true, none, iBox 55 (.t 1)⟩,
 ⟨some 4, true, none, iMov (.c (.int .i64 (.lit 0)))⟩])
 (cSeq (dOps 0 [⟨⟨some 5, false, none, iFaddr 1 (.t 3)⟩, [3], false, 0, 0, none, []⟩,
 ⟨⟨some 6, false, none, iLoad (.t 5)⟩, [5], false, 0, 0, none, []⟩,
 ⟨⟨some 7, false, none, iFaddr 0 (.t 2)⟩, [2], false, 0, 0, none, []⟩,
 ⟨⟨some 8, false, none, iFaddr 0 (.t 7)⟩, [7], false, 0, 0, none, []⟩,
 ⟨⟨some 9, false, none, iLoad (.t 8)⟩, [8], false, 0, 0, none, []⟩,
 ⟨⟨some 10, false, none, iFaddr 0 (.t 3)⟩, [3], false, 0, 0, none, []⟩,
 ⟨⟨some 11, false, none, iLoad (.t 10)⟩, [10], false, 0, 0, none, []⟩,
 ⟨⟨some 12, false, none, iIaddr 3 (.t 9) (.t 11)⟩, [9, 11], false, 0, 0, none, []⟩,
 ⟨⟨some 13, false, none, iFaddr 0 (.t 12)⟩, [12], false, 0, 0, none, []⟩,
 ⟨⟨some 14, false, none, iLoad (.t 13)⟩, [13], false, 0, 0, none, []⟩,
 ⟨⟨some 15, false, none, iBslice 3 [(.int .i64 (.lit 0))] 2 [(0, 1, (.t 6)), (1, 1, (.t 14))]⟩, [6, 14], true, 0, 0, none, []⟩,
 ⟨⟨some 16, false, none, iCall (.c (.func (.func 96) [] [])) [(.t 15)]⟩, [15], true, 1, 0, none, []⟩,
 ⟨⟨some 4, true, none, iMov (.t 16)⟩, [16], false, 2, 2, none, []⟩])
 cRet)), [.t 4]⟩
noncomputable def Tryd.kp114 : List Nat := [0, 1, 2, 3, 4, 9]
noncomputable def Tryd.cf114 : CF := ⟨2, (cSeq (cOps [⟨some 2, true, none, iBox 112 (.t 0)⟩,
 ⟨some 3, true, none, iBox 112 (.t 1)⟩,
 ⟨some 4, true, none, iMov (.c (.bool (.lit false)))⟩])
 (cSeq (cSeq (cOps [⟨some 5, false, none, iFaddr 2 (.t 2)⟩,
 ⟨some 6, false, none, iLoad (.t 5)⟩,
 ⟨some 7, false, none, iFaddr 2 (.t 3)⟩,
 ⟨some 8, false, none, iLoad (.t 7)⟩,
 ⟨some 9, true, none, iCmp .neq (.t 6) (.t 8)⟩])
 (cCond (.t 9) (cSeq (cOps [⟨some 10, false, none, iFaddr 2 (.t 2)⟩,
 ⟨some 11, false, none, iLoad (.t 10)⟩,
 ⟨some 12, false, none, iFaddr 2 (.t 3)⟩,
 ⟨some 13, false, none, iLoad (.t 12)⟩,
 ⟨some 14, false, none, iCmp .lss (.t 11) (.t 13)⟩,
 ⟨some 4, true, none, iMov (.t 14)⟩])
 cRet) cSkip))
 (cSeq (cOps [⟨some 15, false, none, iFaddr 1 (.t 2)⟩,
 ⟨some 16, false, none, iLoad (.t 15)⟩,
 ⟨some 17, false, none, iLenS (.t 16)⟩,
 ⟨some 18, false, none, iFaddr 1 (.t 3)⟩,
 ⟨some 19, false, none, iLoad (.t 18)⟩,
 ⟨some 20, false, none, iLenS (.t 19)⟩,
 ⟨some 21, false, none, iCmp .lss (.t 17) (.t 20)⟩,
 ⟨some 4, true, none, iMov (.t 21)⟩])
 cRet))), [.t 4]⟩
noncomputable def Tryd.ra115049 : C := (cSeq (cOps [⟨some 9, true, none, iAlloc 55 [(.int .i64 (.lit 0)), (.int .i64 (.lit 0))]⟩,
 ⟨none, false, none, iStore 2 (.t 9) (.t 49)⟩])
 (cOps [⟨some 10, true, none, iAlloc 107 [(.bool (.lit false)), (.bool (.lit false)), (.bool (.lit false)), (.bool (.lit false)), (.bool (.lit false)), (.bool (.lit false)), (.bool (.lit false)), (.bool (.lit false))]⟩,
 ⟨none, false, none, iStore 8 (.t 10) (.t 50)⟩]))
noncomputable def Tryd.rb115049 : C := (cBlock 1 (cSeq (dOps 1 [⟨⟨some 51, false, none, iLoad (.t 3)⟩, [3], false, 0, 2, none, []⟩,
 ⟨⟨some 52, false, none, iFaddr 0 (.t 5)⟩, [5], false, 0, 2, none, []⟩,
 ⟨⟨some 53, false, none, iLoad (.t 52)⟩, [52], false, 0, 2, none, []⟩,
 ⟨⟨some 54, false, none, iLoadN 8 (.t 10)⟩, [10], false, 0, 0, none, []⟩,
 ⟨⟨some 55, false, none, iCall (.c (.func (.func 117) [] [])) [(.t 54)]⟩, [54], true, 0, 0, none, []⟩,
 ⟨⟨some 56, false, none, iArith .add (.t 53) (.t 55)⟩, [53, 55], false, 1, 2, none, []⟩,
 ⟨⟨some 57, false, none, iLoadN 6 (.t 4)⟩, [4], false, 0, 1, none, []⟩,
 ⟨⟨some 58, false, none, iLoadN 2 (.t 9)⟩, [9], false, 0, 1, none, []⟩,
 ⟨⟨some 59, false, none, iCall (.c (.func (.func 99) [] [])) [(.t 57), (.t 58)]⟩, [57, 58], true, 1, 0, none, []⟩,
 ⟨⟨some 60, false, none, iFaddr 2 (.t 5)⟩, [5], false, 0, 2, none, []⟩,
 ⟨⟨some 61, false, none, iLoad (.t 60)⟩, [60], false, 0, 2, none, []⟩,
 ⟨⟨some 62, false, none, iBuild [(.int .i64 (.lit 0)), (.int .i64 (.lit 0)), (.int .i64 (.lit 0))] [(0, 1, (.t 56)), (1, 1, (.t 59)), (2, 1, (.t 61))]⟩, [56, 59, 61], false, 2, 2, none, []⟩,
 ⟨⟨some 63, false, none, iCall (.t 51) [(.t 62)]⟩, [51, 62], true, 2, 0, none, []⟩,
 ⟨⟨some 11, true, none, iAlloc 112 [(.bool (.lit false)), .nilslice, (.int .i64 (.lit 0)), (.bool (.lit false)), (.bool (.lit false)), (.bool (.lit false)), (.bool (.lit false)), (.bool (.lit false)), (.bool (.lit false)), (.bool (.lit false)), (.bool (.lit false))]⟩, [], false, 0, 4, (some (flAlloc [(.bool (.lit false)), .nilslice, (.int .i64 (.lit 0)), (.bool (.lit false)), (.bool (.lit false)), (.bool (.lit false)), (.bool (.lit false)), (.bool (.lit false)), (.bool (.lit false)), (.bool (.lit false)), (.bool (.lit false))], .ptr, 0)), []⟩,
 ⟨⟨none, false, none, iStore 11 (.t 11) (.t 63)⟩, [11, 63], true, 3, 0, none, [0]⟩])
 (cSeq (cSeq (cOps [⟨some 64, false, none, iFaddr 0 (.t 11)⟩,
 ⟨some 65, false, none, iLoad (.t 64)⟩,
 ⟨some 66, true, none, iNot (.t 65)⟩])
 (cCond (.t 66) (cExit 1) cSkip))
 (cSeq (cOps [⟨some 67, false, none, iLoadN 6 (.t 4)⟩,
 ⟨some 68, false, none, iLoadN 2 (.t 9)⟩,
 ⟨some 69, false, none, iLoadN 8 (.t 10)⟩,
 ⟨some 70, false, none, iLoadN 11 (.t 11)⟩,
 ⟨some 71, false, none, iCall (.c (.func (.func 118) [] [])) [(.t 67), (.t 68), (.t 69), (.t 70)]⟩,
 ⟨some 12, true, none, iAlloc 112 [(.bool (.lit false)), .nilslice, (.int .i64 (.lit 0)), (.bool (.lit false)), (.bool (.lit false)), (.bool (.lit false)), (.bool (.lit false)), (.bool (.lit false)), (.bool (.lit false)), (.bool (.lit false)), (.bool (.lit false))]⟩,
 ⟨none, false, none, iStore 11 (.t 12) (.t 71)⟩])
 (cSeq (cOps [⟨some 72, false, none, iFaddr 0 (.t 6)⟩,
 ⟨some 73, false, none, iLoad (.t 72)⟩,
 ⟨some 74, false, none, iNot (.t 73)⟩,
 ⟨some 75, false, none, iMov (.t 74)⟩,
 ⟨some 76, false, some (75, false), iFaddr 2 (.t 1)⟩,
 ⟨some 77, false, some (75, false), iLoad (.t 76)⟩,
 ⟨some 78, false, some (75, false), iLoadN 11 (.t 12)⟩,
 ⟨some 79, false, some (75, false), iLoadN 11 (.t 6)⟩,
 ⟨some 80, false, some (75, false), iCall (.t 77) [(.t 78), (.t 79)]⟩,
 ⟨some 81, true, none, iPick (.t 75) (.c (.bool (.lit true))) (.t 80)⟩])
 (cCond (.t 81) (cOps [⟨some 82, false, none, iLoadN 11 (.t 12)⟩,
 ⟨none, false, none, iStore 11 (.t 6) (.t 82)⟩]) cSkip))))))
noncomputable def Tryd.kp115 : List Nat := [0, 1, 2, 3, 4, 5, 6, 7, 8, 9, 10, 11, 12, 18, 29, 33, 48, 49, 50, 66, 81]
noncomputable def Tryd.cf115 : CF := ⟨5, (cSeq (cOps [⟨some 5, true, none, iBox 151 (.t 0)⟩,
 ⟨some 6, true, none, iAlloc 112 [(.bool (.lit false)), .nilslice, (.int .i64 (.lit 0)), (.bool (.lit false)), (.bool (.lit false)), (.bool (.lit false)), (.bool (.lit false)), (.bool (.lit false)), (.bool (.lit false)), (.bool (.lit false)), (.bool (.lit false))]⟩])
 (cSeq (cSeq (cOps [⟨some 13, false, none, iFaddr 0 (.t 5)⟩,
 ⟨some 14, false, none, iLoad (.t 13)⟩,
 ⟨some 15, false, none, iFaddr 1 (.t 1)⟩,
 ⟨some 16, false, none, iLoad (.t 15)⟩,
 ⟨some 17, false, none, iLenS (.t 16)⟩,
 ⟨some 18, true, none, iCmp .eql (.t 14) (.t 17)⟩])
 (cCond (.t 18) (cSeq (cOps [⟨some 19, false, none, iFaddr 2 (.t 5)⟩,
 ⟨some 20, false, none, iLoad (.t 19)⟩,
 ⟨some 21, false, none, iCmp .eql (.t 20) (.c (.int .i64 (.lit 0)))⟩,
 ⟨some 22, false, none, iBuild [(.bool (.lit false)), .nilslice, (.int .i64 (.lit 0)), (.bool (.lit false)), (.bool (.lit false)), (.bool (.lit false)), (.bool (.lit false)), (.bool (.lit false)), (.bool (.lit false)), (.bool (.lit false)), (.bool (.lit false))] [(0, 1, (.t 21))]⟩,
 ⟨none, false, none, iStore 11 (.t 6) (.t 22)⟩])
 cRet) cSkip))
 (cSeq (cSeq (cOps [⟨some 24, false, none, iLoad (.t 2)⟩,
 ⟨some 25, false, none, iLoadN 3 (.t 5)⟩,
 ⟨some 26, false, none, iLookup (.agg [(.bool (.lit false)), .nilslice, (.int .i64 (.lit 0)), (.bool (.lit false)), (.bool (.lit false)), (.bool (.lit false)), (.bool (.lit false)), (.bool (.lit false)), (.bool (.lit false)), (.bool (.lit false)), (.bool (.lit false))]) true 3 [(0, .int), (1, .int), (2, .int)] true (.t 24) (.t 25)⟩,
 ⟨some 23, false, none, iMov (.t 26)⟩,
 ⟨some 27, false, none, iExtract 0 (.t 23)⟩,
 ⟨some 28, false, none, iExtract 1 (.t 23)⟩,
 ⟨some 7, true, none, iAlloc 112 [(.bool (.lit false)), .nilslice, (.int .i64 (.lit 0)), (.bool (.lit false)), (.bool (.lit false)), (.bool (.lit false)), (.bool (.lit false)), (.bool (.lit false)), (.bool (.lit false)), (.bool (.lit false)), (.bool (.lit false))]⟩,
 ⟨none, false, none, iStore 11 (.t 7) (.t 27)⟩,
 ⟨some 8, true, none, iMov (.t 28)⟩])
 (cSeq (cOps [⟨some 29, true, none, iMov (.t 8)⟩])
 (cCond (.t 29) (cSeq (cOps [⟨some 30, false, none, iLoadN 11 (.t 7)⟩,
 ⟨none, false, none, iStore 11 (.t 6) (.t 30)⟩])
 cRet) cSkip)))
 (cSeq (cSeq (cOps [⟨some 31, false, none, iFaddr 2 (.t 5)⟩,
 ⟨some 32, false, none, iLoad (.t 31)⟩,
 ⟨some 33, true, none, iCmp .gtr (.t 32) (.c (.int .i64 (.lit 0)))⟩])
 (cCond (.t 33) (cOps [⟨some 34, false, none, iLoad (.t 3)⟩,
 ⟨some 35, false, none, iFaddr 0 (.t 5)⟩,
 ⟨some 36, false, none, iLoad (.t 35)⟩,
 ⟨some 37, false, none, iArith .add (.t 36) (.c (.int .i64 (.lit 1)))⟩,
 ⟨some 38, false, none, iFaddr 1 (.t 5)⟩,
 ⟨some 39, false, none, iLoad (.t 38)⟩,
 ⟨some 40, false, none, iFaddr 2 (.t 5)⟩,
 ⟨some 41, false, none, iLoad (.t 40)⟩,
 ⟨some 42, false, none, iArith .sub (.t 41) (.c (.int .i64 (.lit 1)))⟩,
 ⟨some 43, false, none, iBuild [(.int .i64 (.lit 0)), (.int .i64 (.lit 0)), (.int .i64 (.lit 0))] [(0, 1, (.t 37)), (1, 1, (.t 39)), (2, 1, (.t 42))]⟩,
 ⟨some 44, false, none, iCall (.t 34) [(.t 43)]⟩,
 ⟨none, false, none, iStore 11 (.t 6) (.t 44)⟩]) cSkip))
 (cSeq (cSeq (cOps [⟨some 45, false, none, iLoadN 6 (.t 4)⟩,
 ⟨some 46, false, none, iLoadN 3 (.t 1)⟩,
 ⟨some 47, false, none, iLoadN 3 (.t 5)⟩,
 ⟨some 48, true, none, iCall (.c (.func (.func 116) [] [])) [(.t 45), (.t 46), (.t 47)]⟩])
 (cBlock 0 (cRange (.t 48) [49, 50] 115049)))
 (cSeq (cOps [⟨some 83, false, none, iLoad (.t 2)⟩,
 ⟨some 84, false, none, iLoadN 3 (.t 5)⟩,
 ⟨some 85, false, none, iLoadN 11 (.t 6)⟩,
 ⟨none, false, none, iMapset true 3 [(0, .int), (1, .int), (2, .int)] (.t 83) (.t 84) (.t 85)⟩])
 (cSeq (cOps [⟨some 86, false, none, iLoadN 11 (.t 6)⟩,
 ⟨none, false, none, iStore 11 (.t 6) (.t 86)⟩])
 cRet))))))), [.cell 6 true 11]⟩
noncomputable def Tryd.kp116 : List Nat := [0, 1, 2, 3, 4, 5, 6]
noncomputable def Tryd.cf116 : CF := ⟨3, (cSeq (cOps [⟨some 3, true, none, iBox 89 (.t 0)⟩,
 ⟨some 4, true, none, iBox 141 (.t 1)⟩,
 ⟨some 5, true, none, iBox 151 (.t 2)⟩,
 ⟨some 6, true, none, iMov (.c .nilFunc)⟩])
 (cSeq (cOps [⟨some 7, false, none, iFunc (.func 123) [] [(.t 4), (.t 5), (.t 3)]⟩,
 ⟨some 6, true, none, iMov (.t 7)⟩])
 cRet)), [.t 6]⟩
noncomputable def Tryd.kp117 : List Nat := [0, 1, 2, 4, 5, 6, 7, 9]
noncomputable def Tryd.cf117 : CF := ⟨1, (cSeq (cOps [⟨some 1, true, none, iBox 107 (.t 0)⟩,
 ⟨some 2, true, none, iMov (.c (.int .i64 (.lit 0)))⟩])
 (cSeq (cSeq (cOps [⟨some 5, true, none, iLoadN 8 (.t 1)⟩,
 ⟨some 6, true, none, iMov (.c (.int .i64 (.lit 0)))⟩])
 (cBlock 0 (cLoop (cSeq (cOps [⟨some 7, true, none, iCmp .lss (.t 6) (.c (.int .i64 (.lit 8)))⟩])
 (cSeq (cCond (.t 7) cSkip (cExit 0))
 (cSeq (cBlock 1 (cSeq (cOps [⟨some 8, false, none, iIndex false 1 8 (.t 5) (.t 6)⟩,
 ⟨some 4, true, none, iMov (.t 8)⟩])
 (cSeq (cOps [⟨some 9, true, none, iMov (.t 4)⟩])
 (cCond (.t 9) (cOps [⟨some 10, false, none, iMov (.t 2)⟩,
 ⟨some 11, false, none, iArith .add (.t 10) (.c (.int .i64 (.lit 1)))⟩,
 ⟨some 2, true, none, iMov (.t 11)⟩]) cSkip))))
 (cOps [⟨some 12, false, none, iArith .add (.t 6) (.c (.int .i64 (.lit 1)))⟩,
 ⟨some 6, true, none, iMov (.t 12)⟩])))))))
 (cSeq (cOps [⟨some 13, false, none, iMov (.t 2)⟩,
 ⟨some 2, true, none, iMov (.t 13)⟩])
 cRet))), [.t 2]⟩
noncomputable def Tryd.kp118 : List Nat := [0, 1, 2, 3, 4, 5, 6, 7, 8, 9, 10, 11, 13, 14, 15]
noncomputable def Tryd.cf118 : CF := ⟨4, (cSeq (cOps [⟨some 4, true, none, iBox 89 (.t 0)⟩,
 ⟨some 5, true, none, iBox 55 (.t 1)⟩,
 ⟨some 6, true, none, iBox 107 (.t 2)⟩,
 ⟨some 7, true, none, iBox 112 (.t 3)⟩,
 ⟨some 8, true, none, iAlloc 112 [(.bool (.lit false)), .nilslice, (.int .i64 (.lit 0)), (.bool (.lit false)), (.bool (.lit false)), (.bool (.lit false)), (.bool (.lit false)), (.bool (.lit false)), (.bool (.lit false)), (.bool (.lit false)), (.bool (.lit false))]⟩])
 (cSeq (cSeq (cOps [⟨some 12, false, none, iFaddr 3 (.t 7)⟩,
 ⟨some 13, true, none, iLoadN 8 (.t 12)⟩,
 ⟨some 14, true, none, iMov (.c (.int .i64 (.lit 0)))⟩])
 (cBlock 0 (cLoop (cSeq (cOps [⟨some 15, true, none, iCmp .lss (.t 14) (.c (.int .i64 (.lit 8)))⟩])
 (cSeq (cCond (.t 15) cSkip (cExit 0))
 (cSeq (cBlock 1 (cSeq (cOps [⟨some 16, false, none, iMov (.t 14)⟩,
 ⟨some 17, false, none, iIndex false 1 8 (.t 13) (.t 14)⟩,
 ⟨some 9, true, none, iMov (.t 16)⟩,
 ⟨some 10, true, none, iMov (.t 17)⟩])
 (cOps [⟨some 18, false, none, iMov (.t 9)⟩,
 ⟨some 19, false, none, iMov (.t 9)⟩,
 ⟨some 20, false, none, iIaddrA 1 8 (.t 6) (.t 19)⟩,
 ⟨some 21, false, none, iLoad (.t 20)⟩,
 ⟨some 22, false, none, iMov (.t 21)⟩,
 ⟨some 23, false, some (22, false), iMov (.t 10)⟩,
 ⟨some 24, false, none, iPick (.t 22) (.c (.bool (.lit true))) (.t 23)⟩,
 ⟨some 25, false, none, iIaddrA 1 8 (.t 6) (.t 18)⟩,
 ⟨none, false, none, iStore 1 (.t 25) (.t 24)⟩])))
 (cOps [⟨some 26, false, none, iArith .add (.t 14) (.c (.int .i64 (.lit 1)))⟩,
 ⟨some 14, true, none, iMov (.t 26)⟩])))))))
 (cSeq (cOps [⟨some 27, false, none, iLoadN 2 (.t 5)⟩,
 ⟨some 28, false, none, iBslice 55 [(.int .i64 (.lit 0)), (.int .i64 (.lit 0))] 1 [(0, 2, (.t 27))]⟩,
 ⟨some 29, false, none, iFaddr 1 (.t 7)⟩,
 ⟨some 30, false, none, iLoad (.t 29)⟩,
 ⟨some 31, false, none, iAppend 55 2 16 (.t 28) (.t 30)⟩,
 ⟨some 11, true, none, iMov (.t 31)⟩])
 (cSeq (dOps 0 [⟨⟨some 32, false, none, iMov (.t 11)⟩, [11], false, 0, 2, none, []⟩,
 ⟨⟨some 33, false, none, iFaddr 0 (.t 4)⟩, [4], false, 0, 0, none, []⟩,
 ⟨⟨some 34, false, none, iFaddr 0 (.t 33)⟩, [33], false, 0, 0, none, []⟩,
 ⟨⟨some 35, false, none, iLoad (.t 34)⟩, [34], false, 0, 0, none, []⟩,
 ⟨⟨some 36, false, none, iFaddr 0 (.t 5)⟩, [5], false, 0, 0, none, []⟩,
 ⟨⟨some 37, false, none, iLoad (.t 36)⟩, [36], false, 0, 0, none, []⟩,
 ⟨⟨some 38, false, none, iIaddr 3 (.t 35) (.t 37)⟩, [35, 37], false, 0, 0, none, []⟩,
 ⟨⟨some 39, false, none, iFaddr 1 (.t 38)⟩, [38], false, 0, 0, none, []⟩,
 ⟨⟨some 40, false, none, iLoad (.t 39)⟩, [39], false, 0, 0, none, []⟩,
 ⟨⟨some 41, false, none, iFaddr 2 (.t 7)⟩, [7], false, 0, 0, none, []⟩,
 ⟨⟨some 42, false, none, iLoad (.t 41)⟩, [41], false, 0, 0, none, []⟩,
 ⟨⟨some 43, false, none, iBslice 3 [(.int .i64 (.lit 0))] 2 [(0, 1, (.t 40)), (1, 1, (.t 42))]⟩, [40, 42], true, 0, 0, none, []⟩,
 ⟨⟨some 44, false, none, iCall (.c (.func (.func 96) [] [])) [(.t 43)]⟩, [43], true, 1, 0, none, []⟩,
 ⟨⟨some 45, false, none, iLoadN 8 (.t 6)⟩, [6], false, 0, 2, none, []⟩,
 ⟨⟨some 46, false, none, iBuild [(.bool (.lit false)), .nilslice, (.int .i64 (.lit 0)), (.bool (.lit false)), (.bool (.lit false)), (.bool (.lit false)), (.bool (.lit false)), (.bool (.lit false)), (.bool (.lit false)), (.bool (.lit false)), (.bool (.lit false))] [(0, 1, (.c (.bool (.lit true)))), (1, 1, (.t 32)), (2, 1, (.t 44)), (3, 8, (.t 45))]⟩, [32, 44, 45], false, 2, 2, none, []⟩,
 ⟨⟨none, false, none, iStore 11 (.t 8) (.t 46)⟩, [8, 46], true, 2, 0, none, []⟩])
 cRet)))), [.cell 8 true 11]⟩
noncomputable def Tryd.kp119 : List Nat := [0, 1, 3]
noncomputable def Tryd.cf119 : CF := ⟨2, (cSeq (cOps [⟨some 3, true, none, iAlloc 112 [(.bool (.lit false)), .nilslice, (.int .i64 (.lit 0)), (.bool (.lit false)), (.bool (.lit false)), (.bool (.lit false)), (.bool (.lit false)), (.bool (.lit false)), (.bool (.lit false)), (.bool (.lit false)), (.bool (.lit false))]⟩])
 (cSeq (cOps [⟨some 4, false, none, iLoad (.t 1)⟩,
 ⟨some 5, false, none, iMov (.t 0)⟩,
 ⟨some 6, false, none, iBuild [(.int .i64 (.lit 0)), (.int .i64 (.lit 0)), (.int .i64 (.lit 0))] [(2, 1, (.t 5))]⟩,
 ⟨some 7, false, none, iCall (.t 4) [(.t 6)]⟩,
 ⟨none, false, none, iStore 11 (.t 3) (.t 7)⟩])
 cRet)), [.cell 3 true 11]⟩
noncomputable def Tryd.kp120 : List Nat := [0, 1, 2, 3, 4, 6]
noncomputable def Tryd.cf120 : CF := ⟨3, (cSeq (cOps [⟨some 3, true, none, iBox 89 (.t 0)⟩,
 ⟨some 4, true, none, iBox 55 (.t 1)⟩,
 ⟨some 6, true, none, iMov (.c (.bool (.lit false)))⟩])
 (cSeq (cOps [⟨some 7, false, none, iFaddr 1 (.t 4)⟩,
 ⟨some 8, false, none, iLoad (.t 7)⟩,
 ⟨some 9, false, none, iMov (.t 2)⟩,
 ⟨some 10, false, none, iCmp .leq (.t 8) (.t 9)⟩,
 ⟨some 11, false, none, iMov (.t 10)⟩,
 ⟨some 12, false, some (11, true), iMov (.t 2)⟩,
 ⟨some 13, false, some (11, true), iLoadN 6 (.t 3)⟩,
 ⟨some 14, false, some (11, true), iLoadN 2 (.t 4)⟩,
 ⟨some 15, false, some (11, true), iCall (.c (.func (.func 113) [] [])) [(.t 13), (.t 14)]⟩,
 ⟨some 16, false, some (11, true), iCmp .lss (.t 12) (.t 15)⟩,
 ⟨some 17, false, none, iPick (.t 11) (.t 16) (.c (.bool (.lit false)))⟩,
 ⟨some 6, true, none, iMov (.t 17)⟩])
 cRet)), [.t 6]⟩
noncomputable def Tryd.kp121 : List Nat := [0, 1, 4]
noncomputable def Tryd.cf121 : CF := ⟨2, (cSeq (cOps [⟨some 4, true, none, iMov (.c (.bool (.lit false)))⟩])
 (cSeq (cOps [⟨some 5, false, none, iMov (.t 0)⟩,
 ⟨some 6, false, none, iMov (.t 1)⟩,
 ⟨some 7, false, none, iCall (.c (.func (.func 125) [] [])) [(.t 5), (.t 6)]⟩,
 ⟨some 8, false, none, iCmp .geq (.t 7) (.c (.int .i64 (.lit 0)))⟩,
 ⟨some 4, true, none, iMov (.t 8)⟩])
 cRet)), [.t 4]⟩
noncomputable def Tryd.kp122 : List Nat := [0, 1, 3, 4]
noncomputable def Tryd.cf122 : CF := ⟨2, (cSeq (cOps [⟨some 3, true, none, iBox 29 (.t 1)⟩,
 ⟨some 4, true, none, iMov (.c (.bool (.lit false)))⟩])
 (cSeq (cOps [⟨some 5, false, none, iMov (.t 0)⟩,
 ⟨some 6, false, none, iLoadN 2 (.t 3)⟩,
 ⟨some 7, false, none, iCall (.c (.func (.func 78) [] [])) [(.t 5), (.t 6)]⟩,
 ⟨some 4, true, none, iMov (.t 7)⟩])
 cRet)), [.t 4]⟩
noncomputable def Tryd.ra123047 : C := (cOps [⟨some 9, true, none, iMov (.t 47)⟩])
noncomputable def Tryd.rb123047 : C := (cBlock 3 (cSeq (cOps [⟨some 48, false, none, iLoad (.t 6)⟩,
 ⟨some 49, false, none, iMov (.t 9)⟩,
 ⟨some 50, false, none, iBuild [(.int .i64 (.lit 0)), (.int .i64 (.lit 0))] [(0, 1, (.t 48)), (1, 1, (.t 49))]⟩,
 ⟨some 10, true, none, iAlloc 55 [(.int .i64 (.lit 0)), (.int .i64 (.lit 0))]⟩,
 ⟨none, false, none, iStore 2 (.t 10) (.t 50)⟩])
 (cSeq (cSeq (cOps [⟨some 51, false, none, iLoadN 6 (.t 3)⟩,
 ⟨some 52, false, none, iLoadN 2 (.t 10)⟩,
 ⟨some 53, false, none, iFaddr 0 (.t 3)⟩,
 ⟨some 54, false, none, iFaddr 5 (.t 53)⟩,
 ⟨some 55, false, none, iLoad (.t 54)⟩,
 ⟨some 56, false, none, iCall (.c (.func (.func 98) [] [])) [(.t 51), (.t 52), (.t 55)]⟩,
 ⟨some 57, true, none, iNot (.t 56)⟩])
 (cCond (.t 57) (cExit 3) cSkip))
 (cSeq (cOps [⟨some 58, false, none, iLoadN 6 (.t 3)⟩,
 ⟨some 59, false, none, iLoadN 2 (.t 10)⟩,
 ⟨some 60, false, none, iLoadN 3 (.t 1)⟩,
 ⟨some 61, false, none, iFaddr 0 (.t 2)⟩,
 ⟨some 62, false, none, iLoad (.t 61)⟩,
 ⟨some 63, false, none, iCall (.c (.func (.func 124) [] [])) [(.t 58), (.t 59), (.t 60), (.t 62)]⟩,
 ⟨some 11, true, none, iAlloc 107 [(.bool (.lit false)), (.bool (.lit false)), (.bool (.lit false)), (.bool (.lit false)), (.bool (.lit false)), (.bool (.lit false)), (.bool (.lit false)), (.bool (.lit false))]⟩,
 ⟨none, false, none, iStore 8 (.t 11) (.t 63)⟩])
 (cSeq (cSeq (cOps [⟨some 64, false, none, iLoadN 8 (.t 11)⟩,
 ⟨some 65, false, none, iLoadN 8 (.t 8)⟩,
 ⟨some 66, true, none, iEq false true 8 [(0, .bool), (1, .bool), (2, .bool), (3, .bool), (4, .bool), (5, .bool), (6, .bool), (7, .bool)] (.t 64) (.t 65)⟩])
 (cCond (.t 66) (cExit 3) cSkip))
 (cSeq (cOps [⟨some 67, false, none, iLoadN 8 (.t 11)⟩,
 ⟨none, false, none, iStore 8 (.t 8) (.t 67)⟩])
 (cSeq (cOps [⟨some 68, false, none, iLoad (.t 4)⟩,
 ⟨some 69, false, none, iLoadN 2 (.t 10)⟩,
 ⟨some 70, false, none, iLoadN 8 (.t 11)⟩,
 ⟨some 71, false, none, iCall (.t 68) [(.t 69), (.t 70)]⟩,
 ⟨some 72, true, none, iNot (.t 71)⟩])
 (cCond (.t 72) cRet cSkip))))))))
noncomputable def Tryd.kp123 : List Nat := [0, 1, 2, 3, 4, 5, 6, 7, 8, 9, 10, 11, 21, 22, 23, 46, 47, 57, 66, 72]
noncomputable def Tryd.cf123 : CF := ⟨4, (cSeq (cOps [⟨some 4, true, none, iBox 162 (.t 0)⟩])
 (cSeq (cOps [⟨some 12, false, none, iFaddr 1 (.t 1)⟩,
 ⟨some 13, false, none, iLoad (.t 12)⟩,
 ⟨some 14, false, none, iFaddr 0 (.t 2)⟩,
 ⟨some 15, false, none, iLoad (.t 14)⟩,
 ⟨some 16, false, none, iIaddr 1 (.t 13) (.t 15)⟩,
 ⟨some 17, false, none, iLoad (.t 16)⟩,
 ⟨some 5, true, none, iMov (.t 17)⟩])
 (cSeq (cOps [⟨some 18, false, none, iFaddr 0 (.t 3)⟩,
 ⟨some 19, false, none, iFaddr 0 (.t 18)⟩,
 ⟨some 20, false, none, iLoad (.t 19)⟩,
 ⟨some 21, true, none, iLenS (.t 20)⟩,
 ⟨some 22, true, none, iMov (.c (.int .i64 (.lit 0)))⟩])
 (cBlock 0 (cLoop (cSeq (cOps [⟨some 23, true, none, iCmp .lss (.t 22) (.t 21)⟩])
 (cSeq (cCond (.t 23) cSkip (cExit 0))
 (cSeq (cBlock 1 (cSeq (cOps [⟨some 24, false, none, iMov (.t 22)⟩,
 ⟨some 6, true, none, iAlloc 3 [(.int .i64 (.lit 0))]⟩,
 ⟨none, false, none, iStore 1 (.t 6) (.t 24)⟩])
 (cSeq (cOps [⟨some 25, false, none, iFaddr 0 (.t 3)⟩,
 ⟨some 26, false, none, iFaddr 0 (.t 25)⟩,
 ⟨some 27, false, none, iLoad (.t 26)⟩,
 ⟨some 28, false, none, iLoad (.t 6)⟩,
 ⟨some 29, false, none, iIaddr 3 (.t 27) (.t 28)⟩,
 ⟨some 30, false, none, iLoadN 3 (.t 29)⟩,
 ⟨some 7, true, none, iAlloc 53 [(.int .i64 (.lit 0)), (.int .i64 (.lit 0)), (.int .i64 (.lit 0))]⟩,
 ⟨none, false, none, iStore 3 (.t 7) (.t 30)⟩])
 (cSeq (cOps [⟨some 8, true, none, iAlloc 107 [(.bool (.lit false)), (.bool (.lit false)), (.bool (.lit false)), (.bool (.lit false)), (.bool (.lit false)), (.bool (.lit false)), (.bool (.lit false)), (.bool (.lit false))]⟩])
 (cSeq cSkip
 (cSeq (cOps [⟨some 31, false, none, iFaddr 1 (.t 2)⟩,
 ⟨some 32, false, none, iLoad (.t 31)⟩,
 ⟨some 33, false, none, iFaddr 0 (.t 1)⟩,
 ⟨some 34, false, none, iLoad (.t 33)⟩,
 ⟨some 35, false, none, iFaddr 2 (.t 7)⟩,
 ⟨some 36, false, none, iLoad (.t 35)⟩,
 ⟨some 37, false, none, iArith .add (.t 34) (.t 36)⟩,
 ⟨some 38, false, none, iMov (.t 5)⟩,
 ⟨some 39, false, none, iFaddr 0 (.t 7)⟩,
 ⟨some 40, false, none, iLoad (.t 39)⟩,
 ⟨some 41, false, none, iArith .sub (.t 38) (.t 40)⟩,
 ⟨some 42, false, none, iArith .add (.t 41) (.c (.int .i64 (.lit 1)))⟩,
 ⟨some 43, false, none, iMax [(.t 32), (.t 37), (.t 42)]⟩,
 ⟨some 44, false, none, iMov (.t 5)⟩,
 ⟨some 45, false, none, iBuild [(.int .i64 (.lit 0)), (.int .i64 (.lit 0))] [(0, 1, (.t 43)), (1, 1, (.t 44))]⟩,
 ⟨some 46, true, none, iCall (.c (.func (.func 94) [] [])) [(.t 45)]⟩])
 (cBlock 2 (cRange (.t 46) [47] 123047))))))))
 (cOps [⟨some 73, false, none, iArith .add (.t 22) (.c (.int .i64 (.lit 1)))⟩,
 ⟨some 22, true, none, iMov (.t 73)⟩]))))))))), []⟩
noncomputable def Tryd.kp124 : List Nat := [0, 1, 2, 3, 4, 5, 6, 8, 9, 15]
noncomputable def Tryd.cf124 : CF := ⟨4, (cSeq (cOps [⟨some 4, true, none, iBox 89 (.t 0)⟩,
 ⟨some 5, true, none, iBox 55 (.t 1)⟩,
 ⟨some 6, true, none, iBox 141 (.t 2)⟩,
 ⟨some 8, true, none, iAlloc 107 [(.bool (.lit false)), (.bool (.lit false)), (.bool (.lit false)), (.bool (.lit false)), (.bool (.lit false)), (.bool (.lit false)), (.bool (.lit false)), (.bool (.lit false))]⟩])
 (cSeq (cSeq (cOps [⟨some 10, false, none, iMov (.t 3)⟩,
 ⟨some 9, true, none, iMov (.t 10)⟩])
 (cBlock 0 (cLoop (cSeq (cSeq (cOps [⟨some 11, false, none, iMov (.t 9)⟩,
 ⟨some 12, false, none, iFaddr 1 (.t 6)⟩,
 ⟨some 13, false, none, iLoad (.t 12)⟩,
 ⟨some 14, false, none, iLenS (.t 13)⟩,
 ⟨some 15, true, none, iCmp .lss (.t 11) (.t 14)⟩])
 (cCond (.t 15) cSkip (cExit 0)))
 (cSeq (cBlock 1 (dOps 0 [⟨⟨some 18, false, none, iMov (.t 9)⟩, [9], false, 0, 1, none, []⟩,
 ⟨⟨some 19, false, none, iLoadN 6 (.t 4)⟩, [4], false, 0, 0, none, []⟩,
 ⟨⟨some 20, false, none, iLoadN 2 (.t 5)⟩, [5], false, 0, 0, none, []⟩,
 ⟨⟨some 21, false, none, iFaddr 1 (.t 6)⟩, [6], false, 0, 0, none, []⟩,
 ⟨⟨some 22, false, none, iLoad (.t 21)⟩, [21], false, 0, 0, none, []⟩,
 ⟨⟨some 23, false, none, iMov (.t 9)⟩, [9], false, 0, 0, none, []⟩,
 ⟨⟨some 24, false, none, iIaddr 1 (.t 22) (.t 23)⟩, [22, 23], false, 0, 0, none, []⟩,
 ⟨⟨some 25, false, none, iLoad (.t 24)⟩, [24], false, 0, 0, none, []⟩,
 ⟨⟨some 26, false, none, iCall (.c (.func (.func 120) [] [])) [(.t 19), (.t 20), (.t 25)]⟩, [19, 20, 25], true, 0, 0, none, []⟩,
 ⟨⟨some 27, false, none, iIaddrA 1 8 (.t 8) (.t 18)⟩, [8, 18], false, 1, 1, none, []⟩,
 ⟨⟨none, false, none, iStore 1 (.t 27) (.t 26)⟩, [27, 26], true, 1, 0, none, []⟩]))
 (cOps [⟨some 16, false, none, iMov (.t 9)⟩,
 ⟨some 17, false, none, iArith .add (.t 16) (.c (.int .i64 (.lit 1)))⟩,
 ⟨some 9, true, none, iMov (.t 17)⟩]))))))
 (cSeq (cOps [⟨some 28, false, none, iLoadN 8 (.t 8)⟩,
 ⟨none, false, none, iStore 8 (.t 8) (.t 28)⟩])
 cRet))), [.cell 8 true 8]⟩
noncomputable def Tryd.kp125 : List Nat := [0, 1, 4, 5, 7, 8, 9, 16]
noncomputable def Tryd.cf125 : CF := ⟨2, (cSeq (cOps [⟨some 4, true, none, iMov (.c (.int .i64 (.lit 0)))⟩])
 (cSeq (cSeq (cOps [⟨some 6, false, none, iMov (.t 0)⟩,
 ⟨some 7, true, none, iLenS (.t 6)⟩,
 ⟨some 8, true, none, iMov (.c (.int .i64 (.lit 0)))⟩])
 (cBlock 0 (cLoop (cSeq (cOps [⟨some 9, true, none, iCmp .lss (.t 8) (.t 7)⟩])
 (cSeq (cCond (.t 9) cSkip (cExit 0))
 (cSeq (cBlock 1 (cSeq (cOps [⟨some 10, false, none, iMov (.t 8)⟩,
 ⟨some 5, true, none, iMov (.t 10)⟩])
 (cSeq (cOps [⟨some 11, false, none, iMov (.t 1)⟩,
 ⟨some 12, false, none, iMov (.t 0)⟩,
 ⟨some 13, false, none, iMov (.t 5)⟩,
 ⟨some 14, false, none, iIaddr 2 (.t 12) (.t 13)⟩,
 ⟨some 15, false, none, iLoadN 2 (.t 14)⟩,
 ⟨some 16, true, none, iCall (.t 11) [(.t 15)]⟩])
 (cCond (.t 16) (cSeq (cOps [⟨some 17, false, none, iMov (.t 5)⟩,
 ⟨some 4, true, none, iMov (.t 17)⟩])
 cRet) cSkip))))
 (cOps [⟨some 18, false, none, iArith .add (.t 8) (.c (.int .i64 (.lit 1)))⟩,
 ⟨some 8, true, none, iMov (.t 18)⟩])))))))
 (cSeq (cOps [⟨some 4, true, none, iMov (.c (.int .i64 (.lit (-1))))⟩])
 cRet))), [.t 4]⟩
noncomputable def Tryd.ft : PT CF := (.node none (.node none (.node none (.node none (.node none (.node (some Tryd.cf31) (.node (some Tryd.cf63) .nil .nil) (.node (some Tryd.cf95) .nil .nil)) (.node none (.node (some Tryd.cf79) .nil .nil) (.node (some Tryd.cf111) .nil .nil))) (.node (some Tryd.cf23) (.node none (.node (some Tryd.cf71) .nil .nil) (.node (some Tryd.cf103) .nil .nil)) (.node (some Tryd.cf55) (.node (some Tryd.cf87) .nil .nil) (.node (some Tryd.cf119) .nil .nil)))) (.node none (.node none (.node (some Tryd.cf35) (.node (some Tryd.cf67) .nil .nil) (.node (some Tryd.cf99) .nil .nil)) (.node (some Tryd.cf51) .nil (.node (some Tryd.cf115) .nil .nil))) (.node none (.node none .nil (.node (some Tryd.cf107) .nil .nil)) (.node none .nil (.node (some Tryd.cf123) .nil .nil))))) (.node none (.node none (.node none (.node (some Tryd.cf33) .nil (.node (some Tryd.cf97) .nil .nil)) (.node (some Tryd.cf49) (.node (some Tryd.cf81) .nil .nil) (.node (some Tryd.cf113) .nil .nil))) (.node none (.node (some Tryd.cf41) (.node (some Tryd.cf73) .nil .nil) (.node (some Tryd.cf105) .nil .nil)) (.node (some Tryd.cf57) (.node (some Tryd.cf89) .nil .nil) (.node (some Tryd.cf121) .nil .nil)))) (.node (some Tryd.cf13) (.node (some Tryd.cf21) (.node none (.node (some Tryd.cf69) .nil .nil) (.node (some Tryd.cf101) .nil .nil)) (.node (some Tryd.cf53) (.node (some Tryd.cf85) .nil .nil) (.node (some Tryd.cf117) .nil .nil))) (.node (some Tryd.cf29) (.node none (.node (some Tryd.cf77) .nil .nil) (.node (some Tryd.cf109) .nil .nil)) (.node none .nil (.node (some Tryd.cf125) .nil .nil)))))) (.node none (.node none (.node (some Tryd.cf8) (.node (some Tryd.cf16) (.node none .nil (.node (some Tryd.cf96) .nil .nil)) (.node none .nil (.node (some Tryd.cf112) .nil .nil))) (.node (some Tryd.cf24) (.node (some Tryd.cf40) (.node (some Tryd.cf72) .nil .nil) (.node (some Tryd.cf104) .nil .nil)) (.node (some Tryd.cf56) (.node (some Tryd.cf88) .nil .nil) (.node (some Tryd.cf120) .nil .nil)))) (.node none (.node (some Tryd.cf20) (.node (some Tryd.cf36) (.node (some Tryd.cf68) .nil .nil) .nil) (.node (some Tryd.cf52) .nil (.node (some Tryd.cf116) .nil .nil))) (.node none (.node none (.node (some Tryd.cf76) .nil .nil) (.node (some Tryd.cf108) .nil .nil)) (.node none .nil (.node (some Tryd.cf124) .nil .nil))))) (.node none (.node none (.node (some Tryd.cf18) (.node none (.node (some Tryd.cf66) .nil .nil) (.node (some Tryd.cf98) .nil .nil)) (.node (some Tryd.cf50) (.node (some Tryd.cf82) .nil .nil) (.node (some Tryd.cf114) .nil .nil))) (.node (some Tryd.cf26) (.node none .nil (.node (some Tryd.cf106) .nil .nil)) (.node none .nil (.node (some Tryd.cf122) .nil .nil)))) (.node (some Tryd.cf14) (.node none (.node none (.node (some Tryd.cf70) .nil .nil) (.node (some Tryd.cf102) .nil .nil)) (.node (some Tryd.cf54) (.node (some Tryd.cf86) .nil .nil) (.node (some Tryd.cf118) .nil .nil))) (.node (some Tryd.cf30) (.node (some Tryd.cf46) (.node (some Tryd.cf78) .nil .nil) (.node (some Tryd.cf110) .nil .nil)) (.node none (.node (some Tryd.cf94) .nil .nil) .nil))))))
noncomputable def Tryd.rt : List (Nat × (C × C)) := [(67008, (Tryd.ra67008, Tryd.rb67008)), (115049, (Tryd.ra115049, Tryd.rb115049)), (123047, (Tryd.ra123047, Tryd.rb123047))]
end Go.Sx
