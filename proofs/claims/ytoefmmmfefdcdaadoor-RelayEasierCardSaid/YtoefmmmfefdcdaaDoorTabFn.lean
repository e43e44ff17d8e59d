/- THE FUNCTIONS' ROWS. -/
import Derived.Test.YtoefmmmfefdcdaaDoorSxEq
import Derived.KernelRfl
import Derived.Test.YtoefmmmfefdcdaaDoorSxTab
import Derived.Test.YtoefmmmfefdcdaaDoorTie
/-! THE TABLES OF THE PROGRAM: its types,and its functions as the evaluator runs them. -/
namespace Go.Sx
set_option maxRecDepth 100000
noncomputable def Tryd.ti3:TI:=⟨.int .i64,1,8,(some (.int .i64 (.lit 0))),false⟩
noncomputable def Tryd.ti4:TI:=⟨.bool,1,1,(some (.bool (.lit false))),false⟩
noncomputable def Tryd.ti22:TI:=⟨.slice 107,1,24,(some .nilslice),false⟩
noncomputable def Tryd.ti24:TI:=⟨.struct #[⟨ "Low",3,0,false,"","",0⟩,⟨ "High",3,1,false,"","",8⟩],2,16,(some (.agg [(.int .i64 (.lit 0)),(.int .i64 (.lit 0))])),true⟩
noncomputable def Tryd.ti26:TI:=⟨.struct #[⟨ "Reels",22,0,false,"","",0⟩,⟨ "Turn",24,1,false,"","",24⟩,⟨ "Tear",24,3,false,"","",40⟩,⟨ "Spool",3,5,false,"","",56⟩],6,64,(some (.agg [.nilslice,(.int .i64 (.lit 0)),(.int .i64 (.lit 0)),(.int .i64 (.lit 0)),(.int .i64 (.lit 0)),(.int .i64 (.lit 0))])),true⟩
noncomputable def Tryd.ti28:TI:=⟨.struct #[⟨ "Film",26,0,false,"","",0⟩,⟨ "Shows",3,6,false,"","",64⟩,⟨ "Go",24,7,false,"","",72⟩,⟨ "Back",24,9,false,"","",88⟩,⟨ "Carry",3,11,false,"","",104⟩],12,112,(some (.agg [.nilslice,(.int .i64 (.lit 0)),(.int .i64 (.lit 0)),(.int .i64 (.lit 0)),(.int .i64 (.lit 0)),(.int .i64 (.lit 0)),(.int .i64 (.lit 0)),(.int .i64 (.lit 0)),(.int .i64 (.lit 0)),(.int .i64 (.lit 0)),(.int .i64 (.lit 0)),(.int .i64 (.lit 0))])),true⟩
noncomputable def Tryd.ti29:TI:=⟨.slice 3,1,24,(some .nilslice),false⟩
noncomputable def Tryd.ti30:TI:=⟨.int .i64,1,8,(some (.int .i64 (.lit 0))),false⟩
noncomputable def Tryd.ti40:TI:=⟨.array 2 3,2,16,(some (.agg [(.int .i64 (.lit 0)),(.int .i64 (.lit 0))])),true⟩
noncomputable def Tryd.ti47:TI:=⟨.array 3 3,3,24,(some (.agg [(.int .i64 (.lit 0)),(.int .i64 (.lit 0)),(.int .i64 (.lit 0))])),true⟩
noncomputable def Tryd.ti50:TI:=⟨.map 114 124,1,8,(some .nilmap),false⟩
noncomputable def Tryd.ti52:TI:=⟨.struct #[⟨ "RelayBook",28,0,true,"","",0⟩,⟨ "order",29,12,false,"","bioscope/relay",112⟩,⟨ "found",50,13,false,"","bioscope/relay",136⟩],14,144,(some (.agg [.nilslice,(.int .i64 (.lit 0)),(.int .i64 (.lit 0)),(.int .i64 (.lit 0)),(.int .i64 (.lit 0)),(.int .i64 (.lit 0)),(.int .i64 (.lit 0)),(.int .i64 (.lit 0)),(.int .i64 (.lit 0)),(.int .i64 (.lit 0)),(.int .i64 (.lit 0)),(.int .i64 (.lit 0)),.nilslice,.nilmap])),true⟩
noncomputable def Tryd.ti56:TI:=⟨.func #[78,78] #[4] false,1,8,(some .nilFunc),false⟩
noncomputable def Tryd.ti58:TI:=⟨.struct #[⟨ "start",3,0,false,"","bioscope/relay",0⟩,⟨ "isBetter",56,1,false,"","bioscope/relay",8⟩],2,16,(some (.agg [(.int .i64 (.lit 0)),.nilFunc])),true⟩
noncomputable def Tryd.ti65:TI:=⟨.slice 24,1,24,(some .nilslice),false⟩
noncomputable def Tryd.ti78:TI:=⟨.struct #[⟨ "plan",29,0,false,"","bioscope/relay",0⟩,⟨ "start",3,1,false,"","bioscope/relay",24⟩],2,32,(some (.agg [.nilslice,(.int .i64 (.lit 0))])),true⟩
noncomputable def Tryd.ti84:TI:=⟨.func #[29] #[4] false,1,8,(some .nilFunc),false⟩
noncomputable def Tryd.ti87:TI:=⟨.func #[110] #[3] false,1,8,(some .nilFunc),false⟩
noncomputable def Tryd.ti88:TI:=⟨.array 2 87,2,16,(some (.agg [.nilFunc,.nilFunc])),true⟩
noncomputable def Tryd.ti90:TI:=⟨.struct #[⟨ "book",52,0,true,"","bioscope/relay",0⟩,⟨ "ends",88,14,false,"","bioscope/relay",144⟩],16,160,(some (.agg [.nilslice,(.int .i64 (.lit 0)),(.int .i64 (.lit 0)),(.int .i64 (.lit 0)),(.int .i64 (.lit 0)),(.int .i64 (.lit 0)),(.int .i64 (.lit 0)),(.int .i64 (.lit 0)),(.int .i64 (.lit 0)),(.int .i64 (.lit 0)),(.int .i64 (.lit 0)),(.int .i64 (.lit 0)),.nilslice,.nilmap,.nilFunc,.nilFunc])),true⟩
noncomputable def Tryd.ti96:TI:=⟨.map 130 128,1,8,(some .nilmap),false⟩
noncomputable def Tryd.ti98:TI:=⟨.struct #[⟨ "ReelFilm",26,0,true,"","",0⟩,⟨ "found",96,6,false,"","bioscope/reel",64⟩],7,72,(some (.agg [.nilslice,(.int .i64 (.lit 0)),(.int .i64 (.lit 0)),(.int .i64 (.lit 0)),(.int .i64 (.lit 0)),(.int .i64 (.lit 0)),.nilmap])),true⟩
noncomputable def Tryd.ti102:TI:=⟨.array 2 24,4,32,(some (.agg [(.int .i64 (.lit 0)),(.int .i64 (.lit 0)),(.int .i64 (.lit 0)),(.int .i64 (.lit 0))])),true⟩
noncomputable def Tryd.ti104:TI:=⟨.array 6 3,6,48,(some (.agg [(.int .i64 (.lit 0)),(.int .i64 (.lit 0)),(.int .i64 (.lit 0)),(.int .i64 (.lit 0)),(.int .i64 (.lit 0)),(.int .i64 (.lit 0))])),true⟩
noncomputable def Tryd.ti105:TI:=⟨.func #[3,3] #[4] false,1,8,(some .nilFunc),false⟩
noncomputable def Tryd.ti107:TI:=⟨.struct #[⟨ "First",24,0,false,"","",0⟩,⟨ "Last",24,2,false,"","",16⟩,⟨ "Feet",24,4,false,"","",32⟩],6,48,(some (.agg [(.int .i64 (.lit 0)),(.int .i64 (.lit 0)),(.int .i64 (.lit 0)),(.int .i64 (.lit 0)),(.int .i64 (.lit 0)),(.int .i64 (.lit 0))])),true⟩
noncomputable def Tryd.ti110:TI:=⟨.struct #[⟨ "Low",3,0,false,"","",0⟩,⟨ "High",3,1,false,"","",8⟩],2,16,(some (.agg [(.int .i64 (.lit 0)),(.int .i64 (.lit 0))])),true⟩
noncomputable def Tryd.ti114:TI:=⟨.struct #[⟨ "reel",3,0,false,"","bioscope/relay",0⟩,⟨ "shows",3,1,false,"","bioscope/relay",8⟩],2,16,(some (.agg [(.int .i64 (.lit 0)),(.int .i64 (.lit 0))])),true⟩
noncomputable def Tryd.ti117:TI:=⟨.slice 29,1,24,(some .nilslice),false⟩
noncomputable def Tryd.ti120:TI:=⟨.array 6 4,6,6,(some (.agg [(.bool (.lit false)),(.bool (.lit false)),(.bool (.lit false)),(.bool (.lit false)),(.bool (.lit false)),(.bool (.lit false))])),true⟩
noncomputable def Tryd.ti122:TI:=⟨.func #[130] #[128] false,1,8,(some .nilFunc),false⟩
noncomputable def Tryd.ti123:TI:=⟨.array 3 24,6,48,(some (.agg [(.int .i64 (.lit 0)),(.int .i64 (.lit 0)),(.int .i64 (.lit 0)),(.int .i64 (.lit 0)),(.int .i64 (.lit 0)),(.int .i64 (.lit 0))])),true⟩
noncomputable def Tryd.ti124:TI:=⟨.array 2 24,4,32,(some (.agg [(.int .i64 (.lit 0)),(.int .i64 (.lit 0)),(.int .i64 (.lit 0)),(.int .i64 (.lit 0))])),true⟩
noncomputable def Tryd.ti126:TI:=⟨.func #[3,120,128] #[4] false,1,8,(some .nilFunc),false⟩
noncomputable def Tryd.ti128:TI:=⟨.struct #[⟨ "first",3,0,false,"","bioscope/reel",0⟩,⟨ "behind",3,1,false,"","bioscope/reel",8⟩],2,16,(some (.agg [(.int .i64 (.lit 0)),(.int .i64 (.lit 0))])),true⟩
noncomputable def Tryd.ti130:TI:=⟨.struct #[⟨ "reel",3,0,false,"","bioscope/reel",0⟩,⟨ "before",128,1,false,"","bioscope/reel",8⟩],3,24,(some (.agg [(.int .i64 (.lit 0)),(.int .i64 (.lit 0)),(.int .i64 (.lit 0))])),true⟩
noncomputable def Tryd.ti137:TI:=⟨.func #[142] #[3] false,1,8,(some .nilFunc),false⟩
noncomputable def Tryd.ti139:TI:=⟨.struct #[⟨ "adds",137,0,false,"","bioscope/reel",0⟩,⟨ "takes",137,1,false,"","bioscope/reel",8⟩],2,16,(some (.agg [.nilFunc,.nilFunc])),true⟩
noncomputable def Tryd.ti142:TI:=⟨.struct #[⟨ "Low",3,0,false,"","",0⟩,⟨ "High",3,1,false,"","",8⟩],2,16,(some (.agg [(.int .i64 (.lit 0)),(.int .i64 (.lit 0))])),true⟩
noncomputable def Tryd.ti146:TI:=⟨.array 2 139,4,32,(some (.agg [.nilFunc,.nilFunc,.nilFunc,.nilFunc])),true⟩
noncomputable def Tryd.tt:PT TI:=(.node none (.node none (.node (some Tryd.ti3) (.node none (.node none .nil (.node (some Tryd.ti47) .nil .nil)) (.node none .nil (.node none (.node (some Tryd.ti87) .nil .nil) .nil))) (.node none .nil (.node none (.node none (.node none (.node (some Tryd.ti139) .nil .nil) .nil) (.node (some Tryd.ti107) .nil .nil)) (.node none .nil (.node (some Tryd.ti123) .nil .nil))))) (.node none (.node none (.node none (.node none (.node (some Tryd.ti65) .nil .nil) .nil) .nil) (.node none (.node none (.node none (.node (some Tryd.ti137) .nil .nil) .nil) (.node (some Tryd.ti105) .nil .nil)) .nil)) (.node none (.node none .nil (.node none .nil (.node (some Tryd.ti117) .nil .nil))) (.node (some Tryd.ti29) .nil .nil)))) (.node none (.node (some Tryd.ti4) (.node none (.node none (.node none (.node none (.node (some Tryd.ti128) .nil .nil) .nil) (.node (some Tryd.ti96) .nil .nil)) .nil) (.node (some Tryd.ti24) (.node (some Tryd.ti40) .nil (.node (some Tryd.ti104) .nil .nil)) (.node (some Tryd.ti56) (.node (some Tryd.ti88) .nil .nil) (.node (some Tryd.ti120) .nil .nil)))) (.node none (.node none .nil (.node (some Tryd.ti52) (.node (some Tryd.ti84) .nil .nil) .nil)) (.node (some Tryd.ti28) .nil (.node none .nil (.node (some Tryd.ti124) .nil .nil))))) (.node none (.node none (.node none (.node none (.node none (.node (some Tryd.ti130) .nil .nil) .nil) (.node (some Tryd.ti98) .nil .nil)) (.node (some Tryd.ti50) (.node none (.node (some Tryd.ti146) .nil .nil) .nil) (.node (some Tryd.ti114) .nil .nil))) (.node (some Tryd.ti26) .nil (.node (some Tryd.ti58) (.node (some Tryd.ti90) .nil .nil) (.node (some Tryd.ti122) .nil .nil)))) (.node none (.node (some Tryd.ti22) (.node none .nil (.node (some Tryd.ti102) .nil .nil)) .nil) (.node (some Tryd.ti30) (.node none (.node (some Tryd.ti78) (.node (some Tryd.ti142) .nil .nil) .nil) (.node (some Tryd.ti110) .nil .nil)) (.node none .nil (.node (some Tryd.ti126) .nil .nil)))))))
noncomputable def Tryd.kp5:List Nat:=[0,1,2,3,4,5,6,7,8,9,10,11,13,14,16,17,18,19,20,23,31,46,56,114,140]
noncomputable def Tryd.cf5:CF:=⟨2,(cSeq (cOps [⟨some 2,true,none,iBox 28 (.t 0)⟩,
 ⟨some 3,true,none,iBox 47 (.t 1)⟩,
 ⟨some 4,true,none,iMov (.c (.bool (.lit false)))⟩])
 (cSeq (cSeq (cOps [⟨some 21,false,none,iLoadN 12 (.t 2)⟩,
 ⟨some 22,false,none,iCall (.c (.func (.func 7) [] [])) [(.t 21)]⟩,
 ⟨some 23,true,none,iNot (.t 22)⟩])
 (cCond (.t 23) (cSeq (cOps [⟨some 24,false,none,iCall (.c (.func (.func 8) [] [])) []⟩,
 ⟨some 4,true,none,iMov (.t 24)⟩])
 cRet) cSkip))
 (cSeq (dOps 1 [⟨⟨some 25,false,none,iLoadN 12 (.t 2)⟩,[2],false,0,1,none,[]⟩,
 ⟨⟨some 26,false,none,iIaddrA 1 3 (.t 3) (.c (.int .i64 (.lit 1)))⟩,[3],false,0,0,none,[]⟩,
 ⟨⟨some 27,false,none,iLoad (.t 26)⟩,[26],false,0,0,none,[]⟩,
 ⟨⟨some 28,false,none,iCall (.c (.func (.func 13) [] [])) [(.t 27),(.c (.int .i64 (.lit 600)))]⟩,[27],true,0,0,none,[]⟩,
 ⟨⟨some 5,true,none,iAlloc 28 [.nilslice,(.int .i64 (.lit 0)),(.int .i64 (.lit 0)),(.int .i64 (.lit 0)),(.int .i64 (.lit 0)),(.int .i64 (.lit 0)),(.int .i64 (.lit 0)),(.int .i64 (.lit 0)),(.int .i64 (.lit 0)),(.int .i64 (.lit 0)),(.int .i64 (.lit 0)),(.int .i64 (.lit 0))]⟩,[],false,0,2,(some (flAlloc [.nilslice,(.int .i64 (.lit 0)),(.int .i64 (.lit 0)),(.int .i64 (.lit 0)),(.int .i64 (.lit 0)),(.int .i64 (.lit 0)),(.int .i64 (.lit 0)),(.int .i64 (.lit 0)),(.int .i64 (.lit 0)),(.int .i64 (.lit 0)),(.int .i64 (.lit 0)),(.int .i64 (.lit 0))],.ptr,0)),[]⟩,
 ⟨⟨none,false,none,iStore 12 (.t 5) (.t 25)⟩,[5,25],true,1,0,none,[0]⟩,
 ⟨⟨some 6,true,none,iMov (.t 28)⟩,[28],false,2,2,none,[]⟩])
 (cSeq (cSeq (cOps [⟨some 29,false,none,iIaddrA 1 3 (.t 3) (.c (.int .i64 (.lit 0)))⟩,
 ⟨some 30,false,none,iLoad (.t 29)⟩,
 ⟨some 31,true,none,iCall (.c (.func (.func 13) [] [])) [(.t 30),(.c (.int .i64 (.lit 3)))]⟩])
 (cBlock 0 (cSeq (cOps [⟨some 47,false,none,iCmp .eql (.t 31) (.c (.int .i64 (.lit 0)))⟩,
 ⟨some 46,true,none,iMov (.t 47)⟩])
 (cCond (.t 46) (dOps 0 [⟨⟨some 48,false,none,iFaddr 11 (.t 2)⟩,[2],false,0,1,none,[]⟩,
 ⟨⟨some 49,false,none,iLoad (.t 48)⟩,[48],false,0,1,none,[]⟩,
 ⟨⟨some 50,false,none,iArith .add (.t 49) (.c (.int .i64 (.lit 1)))⟩,[49],false,0,1,none,[]⟩,
 ⟨⟨some 51,false,none,iMov (.t 6)⟩,[6],false,0,0,none,[]⟩,
 ⟨⟨some 52,false,none,iCall (.c (.func (.func 13) [] [])) [(.t 51),(.c (.int .i64 (.lit 3)))]⟩,[51],true,0,0,none,[]⟩,
 ⟨⟨some 53,false,none,iArith .add (.t 50) (.t 52)⟩,[50,52],false,1,1,none,[]⟩,
 ⟨⟨some 54,false,none,iMin [(.c (.int .i64 (.lit 6))),(.t 53)]⟩,[53],false,1,1,none,[]⟩,
 ⟨⟨some 55,false,none,iFaddr 11 (.t 5)⟩,[5],false,1,1,none,[]⟩,
 ⟨⟨none,false,none,iStore 1 (.t 55) (.t 54)⟩,[55,54],true,1,0,none,[]⟩]) (cSeq (cOps [⟨some 57,false,none,iCmp .eql (.t 31) (.c (.int .i64 (.lit 1)))⟩,
 ⟨some 56,true,none,iMov (.t 57)⟩])
 (cCond (.t 56) (cOps [⟨some 58,false,none,iFaddr 7 (.t 2)⟩,
 ⟨some 59,false,none,iFaddr 0 (.t 58)⟩,
 ⟨some 60,false,none,iLoad (.t 59)⟩,
 ⟨some 61,false,none,iMov (.t 6)⟩,
 ⟨some 62,false,none,iArith .sub (.t 60) (.t 61)⟩,
 ⟨some 63,false,none,iMax [(.c (.int .i64 (.lit 0))),(.t 62)]⟩,
 ⟨some 64,false,none,iFaddr 7 (.t 2)⟩,
 ⟨some 65,false,none,iFaddr 1 (.t 64)⟩,
 ⟨some 66,false,none,iLoad (.t 65)⟩,
 ⟨some 67,false,none,iMov (.t 6)⟩,
 ⟨some 68,false,none,iArith .sub (.t 66) (.t 67)⟩,
 ⟨some 69,false,none,iMax [(.c (.int .i64 (.lit 0))),(.t 68)]⟩,
 ⟨some 70,false,none,iCall (.c (.func (.func 17) [] [])) [(.t 63),(.t 69)]⟩,
 ⟨some 71,false,none,iFaddr 7 (.t 5)⟩,
 ⟨none,false,none,iStore 2 (.t 71) (.t 70)⟩]) (cOps [⟨some 32,false,none,iFaddr 9 (.t 2)⟩,
 ⟨some 33,false,none,iFaddr 0 (.t 32)⟩,
 ⟨some 34,false,none,iLoad (.t 33)⟩,
 ⟨some 35,false,none,iMov (.t 6)⟩,
 ⟨some 36,false,none,iArith .sub (.t 34) (.t 35)⟩,
 ⟨some 37,false,none,iMax [(.c (.int .i64 (.lit 0))),(.t 36)]⟩,
 ⟨some 38,false,none,iFaddr 9 (.t 2)⟩,
 ⟨some 39,false,none,iFaddr 1 (.t 38)⟩,
 ⟨some 40,false,none,iLoad (.t 39)⟩,
 ⟨some 41,false,none,iMov (.t 6)⟩,
 ⟨some 42,false,none,iArith .sub (.t 40) (.t 41)⟩,
 ⟨some 43,false,none,iMax [(.c (.int .i64 (.lit 0))),(.t 42)]⟩,
 ⟨some 44,false,none,iCall (.c (.func (.func 17) [] [])) [(.t 37),(.t 43)]⟩,
 ⟨some 45,false,none,iFaddr 9 (.t 5)⟩,
 ⟨none,false,none,iStore 2 (.t 45) (.t 44)⟩])))))))
 (cSeq (cOps [⟨some 73,false,none,iLoadN 12 (.t 2)⟩,
 ⟨some 74,false,none,iCall (.c (.func (.func 6) [] [])) [(.t 73)]⟩,
 ⟨some 72,false,none,iMov (.t 74)⟩,
 ⟨some 75,false,none,iExtract 0 (.t 72)⟩,
 ⟨some 76,false,none,iExtract 1 (.t 72)⟩,
 ⟨some 7,true,none,iMov (.t 75)⟩,
 ⟨some 8,true,none,iMov (.t 76)⟩])
 (cSeq (cOps [⟨some 78,false,none,iLoadN 12 (.t 5)⟩,
 ⟨some 79,false,none,iCall (.c (.func (.func 6) [] [])) [(.t 78)]⟩,
 ⟨some 77,false,none,iMov (.t 79)⟩,
 ⟨some 80,false,none,iExtract 0 (.t 77)⟩,
 ⟨some 81,false,none,iExtract 1 (.t 77)⟩,
 ⟨some 9,true,none,iMov (.t 80)⟩,
 ⟨some 10,true,none,iMov (.t 81)⟩])
 (cSeq (cOps [⟨some 83,false,none,iLoadN 12 (.t 2)⟩,
 ⟨some 84,false,none,iMov (.t 7)⟩,
 ⟨some 85,false,none,iCall (.c (.func (.func 11) [] [])) [(.t 83),(.t 84)]⟩,
 ⟨some 82,false,none,iMov (.t 85)⟩,
 ⟨some 86,false,none,iExtract 0 (.t 82)⟩,
 ⟨some 87,false,none,iExtract 1 (.t 82)⟩,
 ⟨some 88,false,none,iExtract 2 (.t 82)⟩,
 ⟨some 11,true,none,iMov (.t 86)⟩,
 ⟨some 12,false,none,iMov (.t 87)⟩,
 ⟨some 13,true,none,iMov (.t 88)⟩])
 (cSeq (cOps [⟨some 90,false,none,iLoadN 12 (.t 5)⟩,
 ⟨some 91,false,none,iMov (.t 9)⟩,
 ⟨some 92,false,none,iCall (.c (.func (.func 11) [] [])) [(.t 90),(.t 91)]⟩,
 ⟨some 89,false,none,iMov (.t 92)⟩,
 ⟨some 93,false,none,iExtract 0 (.t 89)⟩,
 ⟨some 94,false,none,iExtract 1 (.t 89)⟩,
 ⟨some 95,false,none,iExtract 2 (.t 89)⟩,
 ⟨some 14,true,none,iMov (.t 93)⟩,
 ⟨some 15,false,none,iMov (.t 94)⟩,
 ⟨some 16,true,none,iMov (.t 95)⟩])
 (cSeq (cSeq (cOps [⟨some 96,false,none,iMov (.t 8)⟩,
 ⟨some 97,false,none,iCmp .neq (.t 96) (.c (.int .i64 (.lit 0)))⟩,
 ⟨some 98,false,none,iMov (.t 97)⟩,
 ⟨some 99,false,some (98,false),iMov (.t 10)⟩,
 ⟨some 100,false,some (98,false),iCmp .neq (.t 99) (.c (.int .i64 (.lit 0)))⟩,
 ⟨some 101,false,none,iPick (.t 98) (.c (.bool (.lit true))) (.t 100)⟩,
 ⟨some 102,false,none,iMov (.t 101)⟩,
 ⟨some 103,false,some (102,false),iMov (.t 13)⟩,
 ⟨some 104,false,some (102,false),iCmp .neq (.t 103) (.c (.int .i64 (.lit 0)))⟩,
 ⟨some 105,false,none,iPick (.t 102) (.c (.bool (.lit true))) (.t 104)⟩,
 ⟨some 106,false,none,iMov (.t 105)⟩,
 ⟨some 107,false,some (106,false),iMov (.t 16)⟩,
 ⟨some 108,false,some (106,false),iCmp .neq (.t 107) (.c (.int .i64 (.lit 0)))⟩,
 ⟨some 109,false,none,iPick (.t 106) (.c (.bool (.lit true))) (.t 108)⟩,
 ⟨some 110,false,none,iMov (.t 109)⟩,
 ⟨some 111,false,some (110,false),iMov (.t 14)⟩,
 ⟨some 112,false,some (110,false),iMov (.t 11)⟩,
 ⟨some 113,false,some (110,false),iCmp .gtr (.t 111) (.t 112)⟩,
 ⟨some 114,true,none,iPick (.t 110) (.c (.bool (.lit true))) (.t 113)⟩])
 (cCond (.t 114) (cSeq (cOps [⟨some 4,true,none,iMov (.c (.bool (.lit false)))⟩])
 cRet) cSkip))
 (cSeq (cOps [⟨some 115,false,none,iIaddrA 1 3 (.t 3) (.c (.int .i64 (.lit 2)))⟩,
 ⟨some 116,false,none,iLoad (.t 115)⟩,
 ⟨some 117,false,none,iCall (.c (.func (.func 13) [] [])) [(.t 116),(.c (.int .i64 (.lit 100000)))]⟩,
 ⟨some 17,true,none,iMov (.t 117)⟩])
 (cSeq (cOps [⟨some 119,false,none,iLoadN 12 (.t 2)⟩,
 ⟨some 120,false,none,iMov (.t 17)⟩,
 ⟨some 121,false,none,iCall (.c (.func (.func 15) [] [])) [(.t 119),(.t 120)]⟩,
 ⟨some 118,false,none,iMov (.t 121)⟩,
 ⟨some 122,false,none,iExtract 0 (.t 118)⟩,
 ⟨some 123,false,none,iExtract 1 (.t 118)⟩,
 ⟨some 18,true,none,iMov (.t 122)⟩,
 ⟨some 8,true,none,iMov (.t 123)⟩])
 (cSeq (cOps [⟨some 125,false,none,iLoadN 12 (.t 5)⟩,
 ⟨some 126,false,none,iMov (.t 17)⟩,
 ⟨some 127,false,none,iCall (.c (.func (.func 15) [] [])) [(.t 125),(.t 126)]⟩,
 ⟨some 124,false,none,iMov (.t 127)⟩,
 ⟨some 128,false,none,iExtract 0 (.t 124)⟩,
 ⟨some 129,false,none,iExtract 1 (.t 124)⟩,
 ⟨some 19,true,none,iMov (.t 128)⟩,
 ⟨some 10,true,none,iMov (.t 129)⟩])
 (cSeq (cOps [⟨some 131,false,none,iLoadN 12 (.t 2)⟩,
 ⟨some 132,false,none,iMov (.t 17)⟩,
 ⟨some 133,false,none,iMov (.t 6)⟩,
 ⟨some 134,false,none,iArith .add (.t 132) (.t 133)⟩,
 ⟨some 135,false,none,iMin [(.c (.int .i64 (.lit 99999))),(.t 134)]⟩,
 ⟨some 136,false,none,iCall (.c (.func (.func 15) [] [])) [(.t 131),(.t 135)]⟩,
 ⟨some 130,false,none,iMov (.t 136)⟩,
 ⟨some 137,false,none,iExtract 0 (.t 130)⟩,
 ⟨some 138,false,none,iExtract 1 (.t 130)⟩,
 ⟨some 20,true,none,iMov (.t 137)⟩,
 ⟨some 13,true,none,iMov (.t 138)⟩])
 (cSeq (cSeq (cOps [⟨some 139,false,none,iMov (.t 8)⟩,
 ⟨some 140,true,none,iCmp .neq (.t 139) (.c (.int .i64 (.lit 0)))⟩])
 (cCond (.t 140) (cSeq (cOps [⟨some 141,false,none,iMov (.t 8)⟩,
 ⟨some 142,false,none,iCmp .eql (.t 141) (.c (.int .i64 (.lit 4)))⟩,
 ⟨some 143,false,none,iMov (.t 142)⟩,
 ⟨some 144,false,some (143,true),iCall (.c (.func (.func 8) [] [])) []⟩,
 ⟨some 145,false,none,iPick (.t 143) (.t 144) (.c (.bool (.lit false)))⟩,
 ⟨some 4,true,none,iMov (.t 145)⟩])
 cRet) cSkip))
 (cSeq (cOps [⟨some 146,false,none,iMov (.t 10)⟩,
 ⟨some 147,false,none,iCmp .eql (.t 146) (.c (.int .i64 (.lit 0)))⟩,
 ⟨some 148,false,none,iMov (.t 147)⟩,
 ⟨some 149,false,some (148,true),iMov (.t 13)⟩,
 ⟨some 150,false,some (148,true),iCmp .eql (.t 149) (.c (.int .i64 (.lit 0)))⟩,
 ⟨some 151,false,none,iPick (.t 148) (.t 150) (.c (.bool (.lit false)))⟩,
 ⟨some 152,false,none,iMov (.t 151)⟩,
 ⟨some 153,false,some (152,true),iMov (.t 19)⟩,
 ⟨some 154,false,some (152,true),iLenS (.t 153)⟩,
 ⟨some 155,false,some (152,true),iMov (.t 18)⟩,
 ⟨some 156,false,some (152,true),iLenS (.t 155)⟩,
 ⟨some 157,false,some (152,true),iCmp .leq (.t 154) (.t 156)⟩,
 ⟨some 158,false,none,iPick (.t 152) (.t 157) (.c (.bool (.lit false)))⟩,
 ⟨some 159,false,none,iMov (.t 158)⟩,
 ⟨some 160,false,some (159,true),iMov (.t 20)⟩,
 ⟨some 161,false,some (159,true),iLenS (.t 160)⟩,
 ⟨some 162,false,some (159,true),iMov (.t 18)⟩,
 ⟨some 163,false,some (159,true),iLenS (.t 162)⟩,
 ⟨some 164,false,some (159,true),iCmp .leq (.t 161) (.t 163)⟩,
 ⟨some 165,false,none,iPick (.t 159) (.t 164) (.c (.bool (.lit false)))⟩,
 ⟨some 166,false,none,iMov (.t 165)⟩,
 ⟨some 167,false,some (166,true),iCall (.c (.func (.func 8) [] [])) []⟩,
 ⟨some 168,false,none,iPick (.t 166) (.t 167) (.c (.bool (.lit false)))⟩,
 ⟨some 4,true,none,iMov (.t 168)⟩])
 cRet))))))))))))))),[.t 4]⟩
noncomputable def Tryd.kp6:List Nat:=[0,1,2,3,4,5,12]
noncomputable def Tryd.cf6:CF:=⟨1,(cSeq (cOps [⟨some 1,true,none,iBox 28 (.t 0)⟩,
 ⟨some 2,true,none,iMov (.c .nilslice)⟩,
 ⟨some 3,true,none,iMov (.c (.int .i64 (.lit 0)))⟩])
 (cSeq (cOps [⟨some 7,false,none,iLoadN 12 (.t 1)⟩,
 ⟨some 8,false,none,iCall (.c (.func (.func 18) [] [])) [(.t 7)]⟩,
 ⟨some 6,false,none,iMov (.t 8)⟩,
 ⟨some 9,false,none,iExtract 0 (.t 6)⟩,
 ⟨some 10,false,none,iExtract 1 (.t 6)⟩,
 ⟨some 4,true,none,iAlloc 52 [.nilslice,(.int .i64 (.lit 0)),(.int .i64 (.lit 0)),(.int .i64 (.lit 0)),(.int .i64 (.lit 0)),(.int .i64 (.lit 0)),(.int .i64 (.lit 0)),(.int .i64 (.lit 0)),(.int .i64 (.lit 0)),(.int .i64 (.lit 0)),(.int .i64 (.lit 0)),(.int .i64 (.lit 0)),.nilslice,.nilmap]⟩,
 ⟨none,false,none,iStore 14 (.t 4) (.t 9)⟩,
 ⟨some 5,true,none,iMov (.t 10)⟩])
 (cSeq (cSeq (cOps [⟨some 11,false,none,iMov (.t 5)⟩,
 ⟨some 12,true,none,iCmp .neq (.t 11) (.c (.int .i64 (.lit 0)))⟩])
 (cCond (.t 12) (cSeq (cOps [⟨some 13,false,none,iMov (.t 5)⟩,
 ⟨some 2,true,none,iMov (.c .nilslice)⟩,
 ⟨some 3,true,none,iMov (.t 13)⟩])
 cRet) cSkip))
 (cSeq (cOps [⟨some 14,false,none,iLoadN 14 (.t 4)⟩,
 ⟨some 15,false,none,iBuild [(.int .i64 (.lit 0)),.nilFunc] [(0,1,(.c (.int .i64 (.lit 9223372036854775807)))),(1,1,(.c (.func (.func 20) [] [])))]⟩,
 ⟨some 16,false,none,iCall (.c (.func (.func 19) [] [])) [(.t 14),(.t 15)]⟩,
 ⟨some 17,false,none,iExtract 0 (.t 16)⟩,
 ⟨some 18,false,none,iExtract 1 (.t 16)⟩,
 ⟨some 2,true,none,iMov (.t 17)⟩,
 ⟨some 3,true,none,iMov (.t 18)⟩])
 cRet)))),[.t 2,.t 3]⟩
noncomputable def Tryd.kp7:List Nat:=[0,1,2]
noncomputable def Tryd.cf7:CF:=⟨1,(cSeq (cOps [⟨some 1,true,none,iBox 28 (.t 0)⟩,
 ⟨some 2,true,none,iMov (.c (.bool (.lit false)))⟩])
 (cSeq (cOps [⟨some 3,false,none,iLoadN 12 (.t 1)⟩,
 ⟨some 4,false,none,iCall (.c (.func (.func 21) [] [])) [(.t 3)]⟩,
 ⟨some 5,false,none,iCmp .eql (.t 4) (.c (.int .i64 (.lit 0)))⟩,
 ⟨some 6,false,none,iMov (.t 5)⟩,
 ⟨some 7,false,some (6,true),iFaddr 0 (.t 1)⟩,
 ⟨some 8,false,some (6,true),iLoadN 6 (.t 7)⟩,
 ⟨some 9,false,some (6,true),iCall (.c (.func (.func 22) [] [])) [(.t 8)]⟩,
 ⟨some 10,false,some (6,true),iCmp .eql (.t 9) (.c (.int .i64 (.lit 0)))⟩,
 ⟨some 11,false,none,iPick (.t 6) (.t 10) (.c (.bool (.lit false)))⟩,
 ⟨some 12,false,none,iMov (.t 11)⟩,
 ⟨some 13,false,some (12,true),iFaddr 0 (.t 1)⟩,
 ⟨some 14,false,some (12,true),iFaddr 0 (.t 13)⟩,
 ⟨some 15,false,some (12,true),iLoad (.t 14)⟩,
 ⟨some 16,false,some (12,true),iLenS (.t 15)⟩,
 ⟨some 17,false,some (12,true),iCall (.c (.func (.func 14) [] [])) [(.t 16),(.c (.int .i64 (.lit 1))),(.c (.int .i64 (.lit 6)))]⟩,
 ⟨some 18,false,none,iPick (.t 12) (.t 17) (.c (.bool (.lit false)))⟩,
 ⟨some 19,false,none,iMov (.t 18)⟩,
 ⟨some 20,false,some (19,true),iFaddr 6 (.t 1)⟩,
 ⟨some 21,false,some (19,true),iLoad (.t 20)⟩,
 ⟨some 22,false,some (19,true),iCall (.c (.func (.func 14) [] [])) [(.t 21),(.c (.int .i64 (.lit 0))),(.c (.int .i64 (.lit 998)))]⟩,
 ⟨some 23,false,none,iPick (.t 19) (.t 22) (.c (.bool (.lit false)))⟩,
 ⟨some 24,false,none,iMov (.t 23)⟩,
 ⟨some 25,false,some (24,true),iFaddr 7 (.t 1)⟩,
 ⟨some 26,false,some (24,true),iLoadN 2 (.t 25)⟩,
 ⟨some 27,false,some (24,true),iCall (.c (.func (.func 23) [] [])) [(.t 26),(.c (.int .i64 (.lit 0))),(.c (.int .i64 (.lit 3600)))]⟩,
 ⟨some 28,false,none,iPick (.t 24) (.t 27) (.c (.bool (.lit false)))⟩,
 ⟨some 29,false,none,iMov (.t 28)⟩,
 ⟨some 30,false,some (29,true),iFaddr 9 (.t 1)⟩,
 ⟨some 31,false,some (29,true),iLoadN 2 (.t 30)⟩,
 ⟨some 32,false,some (29,true),iCall (.c (.func (.func 23) [] [])) [(.t 31),(.c (.int .i64 (.lit 0))),(.c (.int .i64 (.lit 3600)))]⟩,
 ⟨some 33,false,none,iPick (.t 29) (.t 32) (.c (.bool (.lit false)))⟩,
 ⟨some 34,false,none,iMov (.t 33)⟩,
 ⟨some 35,false,some (34,true),iFaddr 11 (.t 1)⟩,
 ⟨some 36,false,some (34,true),iLoad (.t 35)⟩,
 ⟨some 37,false,some (34,true),iCall (.c (.func (.func 14) [] [])) [(.t 36),(.c (.int .i64 (.lit 1))),(.c (.int .i64 (.lit 6)))]⟩,
 ⟨some 38,false,none,iPick (.t 34) (.t 37) (.c (.bool (.lit false)))⟩,
 ⟨some 2,true,none,iMov (.t 38)⟩])
 cRet)),[.t 2]⟩
noncomputable def Tryd.kp8:List Nat:=[0,1,2,3,4,5,6,7,8,9,10,11,12,77]
noncomputable def Tryd.cf8:CF:=⟨0,(cSeq (cOps [⟨some 0,true,none,iMov (.c (.bool (.lit false)))⟩])
 (cSeq (cOps [⟨some 14,false,none,iCall (.c (.func (.func 25) [] [])) []⟩,
 ⟨some 15,false,none,iBslice 3 [(.int .i64 (.lit 0))] 2 [(0,1,(.c (.int .i64 (.lit 1)))),(1,1,(.c (.int .i64 (.lit 2))))]⟩,
 ⟨some 16,false,none,iCall (.c (.func (.func 24) [] [])) [(.t 14),(.t 15)]⟩,
 ⟨some 13,false,none,iMov (.t 16)⟩,
 ⟨some 17,false,none,iExtract 0 (.t 13)⟩,
 ⟨some 18,false,none,iExtract 1 (.t 13)⟩,
 ⟨some 1,true,none,iMov (.t 17)⟩,
 ⟨some 2,true,none,iMov (.t 18)⟩])
 (cSeq (cOps [⟨some 20,false,none,iCall (.c (.func (.func 25) [] [])) []⟩,
 ⟨some 21,false,none,iBslice 3 [(.int .i64 (.lit 0))] 2 [(0,1,(.c (.int .i64 (.lit 1)))),(1,1,(.c (.int .i64 (.lit 2))))]⟩,
 ⟨some 22,false,none,iCall (.c (.func (.func 26) [] [])) [(.t 20),(.t 21)]⟩,
 ⟨some 19,false,none,iMov (.t 22)⟩,
 ⟨some 23,false,none,iExtract 0 (.t 19)⟩,
 ⟨some 24,false,none,iExtract 1 (.t 19)⟩,
 ⟨some 3,true,none,iMov (.t 23)⟩,
 ⟨some 4,true,none,iMov (.t 24)⟩])
 (cSeq (cOps [⟨some 26,false,none,iCall (.c (.func (.func 25) [] [])) []⟩,
 ⟨some 27,false,none,iBslice 3 [(.int .i64 (.lit 0))] 2 [(0,1,(.c (.int .i64 (.lit 1)))),(1,1,(.c (.int .i64 (.lit 2))))]⟩,
 ⟨some 28,false,none,iCall (.c (.func (.func 11) [] [])) [(.t 26),(.t 27)]⟩,
 ⟨some 25,false,none,iMov (.t 28)⟩,
 ⟨some 29,false,none,iExtract 0 (.t 25)⟩,
 ⟨some 30,false,none,iExtract 1 (.t 25)⟩,
 ⟨some 31,false,none,iExtract 2 (.t 25)⟩,
 ⟨some 5,true,none,iMov (.t 29)⟩,
 ⟨some 6,true,none,iMov (.t 30)⟩,
 ⟨some 7,true,none,iMov (.t 31)⟩])
 (cSeq (cOps [⟨some 33,false,none,iCall (.c (.func (.func 25) [] [])) []⟩,
 ⟨some 34,false,none,iBslice 3 [(.int .i64 (.lit 0))] 3 [(0,1,(.c (.int .i64 (.lit 1)))),(1,1,(.c (.int .i64 (.lit 1)))),(2,1,(.c (.int .i64 (.lit 1))))]⟩,
 ⟨some 35,false,none,iCall (.c (.func (.func 27) [] [])) [(.t 33),(.t 34),(.c (.int .i64 (.lit 0)))]⟩,
 ⟨some 32,false,none,iMov (.t 35)⟩,
 ⟨some 36,false,none,iExtract 0 (.t 32)⟩,
 ⟨some 37,false,none,iExtract 1 (.t 32)⟩,
 ⟨some 8,true,none,iAlloc 24 [(.int .i64 (.lit 0)),(.int .i64 (.lit 0))]⟩,
 ⟨none,false,none,iStore 2 (.t 8) (.t 36)⟩,
 ⟨some 9,true,none,iMov (.t 37)⟩])
 (cSeq (cSeq (dOps 0 [⟨⟨some 38,false,none,iMov (.t 2)⟩,[2],false,0,0,none,[]⟩,
 ⟨⟨some 39,false,none,iCmp .neq (.t 38) (.c (.int .i64 (.lit 0)))⟩,[38],false,0,0,none,[]⟩,
 ⟨⟨some 40,false,none,iMov (.t 39)⟩,[39],false,0,0,none,[]⟩,
 ⟨⟨some 41,false,some (40,false),iMov (.t 4)⟩,[40,4],false,0,0,none,[]⟩,
 ⟨⟨some 42,false,some (40,false),iCmp .neq (.t 41) (.c (.int .i64 (.lit 0)))⟩,[40,41],false,0,0,none,[]⟩,
 ⟨⟨some 43,false,none,iPick (.t 40) (.c (.bool (.lit true))) (.t 42)⟩,[40,42],false,0,0,none,[]⟩,
 ⟨⟨some 44,false,none,iMov (.t 43)⟩,[43],false,0,0,none,[]⟩,
 ⟨⟨some 45,false,some (44,false),iMov (.t 7)⟩,[44,7],false,0,0,none,[]⟩,
 ⟨⟨some 46,false,some (44,false),iCmp .neq (.t 45) (.c (.int .i64 (.lit 0)))⟩,[44,45],false,0,0,none,[]⟩,
 ⟨⟨some 47,false,none,iPick (.t 44) (.c (.bool (.lit true))) (.t 46)⟩,[44,46],false,0,0,none,[]⟩,
 ⟨⟨some 48,false,none,iMov (.t 47)⟩,[47],false,0,0,none,[]⟩,
 ⟨⟨some 49,false,some (48,false),iMov (.t 9)⟩,[48,9],false,0,0,none,[]⟩,
 ⟨⟨some 50,false,some (48,false),iCmp .neq (.t 49) (.c (.int .i64 (.lit 0)))⟩,[48,49],false,0,0,none,[]⟩,
 ⟨⟨some 51,false,none,iPick (.t 48) (.c (.bool (.lit true))) (.t 50)⟩,[48,50],false,0,0,none,[]⟩,
 ⟨⟨some 52,false,none,iMov (.t 51)⟩,[51],false,0,0,none,[]⟩,
 ⟨⟨some 53,false,some (52,false),iMov (.t 1)⟩,[52,1],false,0,0,none,[]⟩,
 ⟨⟨some 54,false,some (52,false),iNot (.t 53)⟩,[52,53],false,0,0,none,[]⟩,
 ⟨⟨some 55,false,none,iPick (.t 52) (.c (.bool (.lit true))) (.t 54)⟩,[52,54],false,0,0,none,[]⟩,
 ⟨⟨some 56,false,none,iMov (.t 55)⟩,[55],false,0,0,none,[]⟩,
 ⟨⟨some 57,false,some (56,false),iMov (.t 3)⟩,[56,3],false,0,4,none,[]⟩,
 ⟨⟨some 58,false,some (56,false),iCall (.c (.func (.func 17) [] [])) [(.c (.int .i64 (.lit 9000))),(.c (.int .i64 (.lit 12000)))]⟩,[56],true,0,0,none,[]⟩,
 ⟨⟨some 59,false,some (56,false),iCall (.c (.func (.func 17) [] [])) [(.c (.int .i64 (.lit 17400))),(.c (.int .i64 (.lit 23200)))]⟩,[56],true,1,0,none,[]⟩,
 ⟨⟨some 60,false,some (56,false),iCall (.c (.func (.func 17) [] [])) [(.c (.int .i64 (.lit 17400))),(.c (.int .i64 (.lit 23200)))]⟩,[56],true,2,0,none,[]⟩,
 ⟨⟨some 61,false,some (56,false),iBslice 24 [(.int .i64 (.lit 0)),(.int .i64 (.lit 0))] 3 [(0,2,(.t 58)),(2,2,(.t 59)),(4,2,(.t 60))]⟩,[56,58,59,60],true,3,0,none,[]⟩,
 ⟨⟨some 62,false,some (56,false),iCall (.c (.func (.func 28) [] [])) [(.t 57),(.t 61)]⟩,[56,57,61],true,4,0,none,[]⟩,
 ⟨⟨some 63,false,some (56,false),iNot (.t 62)⟩,[56,62],false,5,5,none,[]⟩,
 ⟨⟨some 64,false,none,iPick (.t 56) (.c (.bool (.lit true))) (.t 63)⟩,[56,63],false,5,5,none,[]⟩,
 ⟨⟨some 65,false,none,iMov (.t 64)⟩,[64],false,5,5,none,[]⟩,
 ⟨⟨some 66,false,some (65,false),iMov (.t 5)⟩,[65,5],false,5,5,none,[]⟩,
 ⟨⟨some 67,false,some (65,false),iCmp .neq (.t 66) (.c (.int .i64 (.lit 1722)))⟩,[65,66],false,5,5,none,[]⟩,
 ⟨⟨some 68,false,none,iPick (.t 65) (.c (.bool (.lit true))) (.t 67)⟩,[65,67],false,5,5,none,[]⟩,
 ⟨⟨some 69,false,none,iMov (.t 68)⟩,[68],false,5,5,none,[]⟩,
 ⟨⟨some 70,false,some (69,false),iMov (.t 6)⟩,[69,6],false,5,5,none,[]⟩,
 ⟨⟨some 71,false,some (69,false),iCmp .neq (.t 70) (.c (.int .i64 (.lit 941)))⟩,[69,70],false,5,5,none,[]⟩,
 ⟨⟨some 72,false,none,iPick (.t 69) (.c (.bool (.lit true))) (.t 71)⟩,[69,71],false,5,5,none,[]⟩,
 ⟨⟨some 73,false,none,iMov (.t 72)⟩,[72],false,5,5,none,[]⟩,
 ⟨⟨some 74,false,some (73,false),iLoadN 2 (.t 8)⟩,[73,8],false,5,6,none,[]⟩,
 ⟨⟨some 75,false,some (73,false),iCall (.c (.func (.func 17) [] [])) [(.c (.int .i64 (.lit 24582))),(.c (.int .i64 (.lit 31176)))]⟩,[73],true,5,0,none,[]⟩,
 ⟨⟨some 76,false,some (73,false),iEq true true 2 [(0,.int),(1,.int)] (.t 74) (.t 75)⟩,[73,74,75],false,6,6,none,[]⟩,
 ⟨⟨some 77,true,none,iPick (.t 73) (.c (.bool (.lit true))) (.t 76)⟩,[73,76],false,6,6,none,[]⟩])
 (cCond (.t 77) (cSeq (cOps [⟨some 0,true,none,iMov (.c (.bool (.lit false)))⟩])
 cRet) cSkip))
 (cSeq (cOps [⟨some 79,false,none,iCall (.c (.func (.func 25) [] [])) []⟩,
 ⟨some 80,false,none,iCall (.c (.func (.func 6) [] [])) [(.t 79)]⟩,
 ⟨some 78,false,none,iMov (.t 80)⟩,
 ⟨some 81,false,none,iExtract 0 (.t 78)⟩,
 ⟨some 82,false,none,iExtract 1 (.t 78)⟩,
 ⟨some 10,true,none,iMov (.t 81)⟩,
 ⟨some 2,true,none,iMov (.t 82)⟩])
 (cSeq (cOps [⟨some 84,false,none,iCall (.c (.func (.func 25) [] [])) []⟩,
 ⟨some 85,false,none,iCall (.c (.func (.func 15) [] [])) [(.t 84),(.c (.int .i64 (.lit 1722)))]⟩,
 ⟨some 83,false,none,iMov (.t 85)⟩,
 ⟨some 86,false,none,iExtract 0 (.t 83)⟩,
 ⟨some 87,false,none,iExtract 1 (.t 83)⟩,
 ⟨some 11,true,none,iMov (.t 86)⟩,
 ⟨some 4,true,none,iMov (.t 87)⟩])
 (cSeq (cOps [⟨some 89,false,none,iCall (.c (.func (.func 29) [] [])) []⟩,
 ⟨some 90,false,none,iCall (.c (.func (.func 16) [] [])) [(.t 89),(.c (.int .i64 (.lit 3000)))]⟩,
 ⟨some 88,false,none,iMov (.t 90)⟩,
 ⟨some 91,false,none,iExtract 0 (.t 88)⟩,
 ⟨some 92,false,none,iExtract 1 (.t 88)⟩,
 ⟨some 12,true,none,iMov (.t 91)⟩,
 ⟨some 7,true,none,iMov (.t 92)⟩])
 (cSeq (cOps [⟨some 93,false,none,iMov (.t 2)⟩,
 ⟨some 94,false,none,iCmp .eql (.t 93) (.c (.int .i64 (.lit 0)))⟩,
 ⟨some 95,false,none,iMov (.t 94)⟩,
 ⟨some 96,false,some (95,true),iMov (.t 4)⟩,
 ⟨some 97,false,some (95,true),iCmp .eql (.t 96) (.c (.int .i64 (.lit 0)))⟩,
 ⟨some 98,false,none,iPick (.t 95) (.t 97) (.c (.bool (.lit false)))⟩,
 ⟨some 99,false,none,iMov (.t 98)⟩,
 ⟨some 100,false,some (99,true),iMov (.t 7)⟩,
 ⟨some 101,false,some (99,true),iCmp .eql (.t 100) (.c (.int .i64 (.lit 0)))⟩,
 ⟨some 102,false,none,iPick (.t 99) (.t 101) (.c (.bool (.lit false)))⟩,
 ⟨some 103,false,none,iMov (.t 102)⟩,
 ⟨some 104,false,some (103,true),iMov (.t 10)⟩,
 ⟨some 105,false,some (103,true),iBslice 3 [(.int .i64 (.lit 0))] 3 [(0,1,(.c (.int .i64 (.lit 1)))),(1,1,(.c (.int .i64 (.lit 1)))),(2,1,(.c (.int .i64 (.lit 1))))]⟩,
 ⟨some 106,false,some (103,true),iCall (.c (.func (.func 30) [] [])) [(.t 104),(.t 105)]⟩,
 ⟨some 107,false,none,iPick (.t 103) (.t 106) (.c (.bool (.lit false)))⟩,
 ⟨some 108,false,none,iMov (.t 107)⟩,
 ⟨some 109,false,some (108,true),iMov (.t 11)⟩,
 ⟨some 110,false,some (108,true),iBslice 3 [(.int .i64 (.lit 0))] 2 [(0,1,(.c (.int .i64 (.lit 1)))),(1,1,(.c (.int .i64 (.lit 2))))]⟩,
 ⟨some 111,false,some (108,true),iCall (.c (.func (.func 30) [] [])) [(.t 109),(.t 110)]⟩,
 ⟨some 112,false,none,iPick (.t 108) (.t 111) (.c (.bool (.lit false)))⟩,
 ⟨some 113,false,none,iMov (.t 112)⟩,
 ⟨some 114,false,some (113,true),iMov (.t 12)⟩,
 ⟨some 115,false,some (113,true),iCmp .eql (.t 114) (.c (.int .i64 (.lit 3)))⟩,
 ⟨some 116,false,none,iPick (.t 113) (.t 115) (.c (.bool (.lit false)))⟩,
 ⟨some 0,true,none,iMov (.t 116)⟩])
 cRet)))))))))),[.t 0]⟩
noncomputable def Tryd.kp11:List Nat:=[0,1,2,4,5,6,7,15]
noncomputable def Tryd.cf11:CF:=⟨2,(cSeq (cOps [⟨some 2,true,none,iBox 28 (.t 0)⟩,
 ⟨some 4,true,none,iMov (.c (.int .i64 (.lit 0)))⟩,
 ⟨some 5,true,none,iMov (.c (.int .i64 (.lit 0)))⟩,
 ⟨some 6,true,none,iMov (.c (.int .i64 (.lit 0)))⟩])
 (cSeq (cOps [⟨some 9,false,none,iLoadN 12 (.t 2)⟩,
 ⟨some 10,false,none,iMov (.t 1)⟩,
 ⟨some 11,false,none,iCall (.c (.func (.func 33) [] [])) [(.t 9),(.t 10),(.c .nilslice)]⟩,
 ⟨some 8,false,none,iMov (.t 11)⟩,
 ⟨some 12,false,none,iExtract 0 (.t 8)⟩,
 ⟨some 13,false,none,iExtract 1 (.t 8)⟩,
 ⟨some 7,true,none,iAlloc 52 [.nilslice,(.int .i64 (.lit 0)),(.int .i64 (.lit 0)),(.int .i64 (.lit 0)),(.int .i64 (.lit 0)),(.int .i64 (.lit 0)),(.int .i64 (.lit 0)),(.int .i64 (.lit 0)),(.int .i64 (.lit 0)),(.int .i64 (.lit 0)),(.int .i64 (.lit 0)),(.int .i64 (.lit 0)),.nilslice,.nilmap]⟩,
 ⟨none,false,none,iStore 14 (.t 7) (.t 12)⟩,
 ⟨some 6,true,none,iMov (.t 13)⟩])
 (cSeq (cSeq (cOps [⟨some 14,false,none,iMov (.t 6)⟩,
 ⟨some 15,true,none,iCmp .neq (.t 14) (.c (.int .i64 (.lit 0)))⟩])
 (cCond (.t 15) (cSeq (cOps [⟨some 16,false,none,iMov (.t 6)⟩,
 ⟨some 4,true,none,iMov (.c (.int .i64 (.lit 0)))⟩,
 ⟨some 5,true,none,iMov (.c (.int .i64 (.lit 0)))⟩,
 ⟨some 6,true,none,iMov (.t 16)⟩])
 cRet) cSkip))
 (cSeq (dOps 0 [⟨⟨some 17,false,none,iLoadN 14 (.t 7)⟩,[7],false,0,0,none,[]⟩,
 ⟨⟨some 18,false,none,iMov (.t 1)⟩,[1],false,0,0,none,[]⟩,
 ⟨⟨some 19,false,none,iCall (.c (.func (.func 34) [] [])) [(.t 17),(.t 18)]⟩,[17,18],true,0,0,none,[]⟩,
 ⟨⟨some 20,false,none,iLoadN 14 (.t 7)⟩,[7],false,0,1,none,[]⟩,
 ⟨⟨some 21,false,none,iMov (.t 1)⟩,[1],false,0,1,none,[]⟩,
 ⟨⟨some 22,false,none,iCall (.c (.func (.func 35) [] [])) [(.t 20),(.t 21)]⟩,[20,21],true,1,0,none,[]⟩,
 ⟨⟨some 4,true,none,iMov (.t 19)⟩,[19],false,2,2,none,[]⟩,
 ⟨⟨some 5,true,none,iMov (.t 22)⟩,[22],false,2,2,none,[]⟩,
 ⟨⟨some 6,true,none,iMov (.c (.int .i64 (.lit 0)))⟩,[],false,2,2,none,[]⟩])
 cRet)))),[.t 4,.t 5,.t 6]⟩
noncomputable def Tryd.kp13:List Nat:=[0,1,4,5,7,12]
noncomputable def Tryd.cf13:CF:=⟨2,(cSeq (cOps [⟨some 4,true,none,iMov (.c (.int .i64 (.lit 0)))⟩])
 (cSeq (cSeq (cOps [⟨some 6,false,none,iMov (.t 1)⟩,
 ⟨some 7,true,none,iCmp .lss (.t 6) (.c (.int .i64 (.lit 1)))⟩])
 (cCond (.t 7) (cSeq (cOps [⟨some 4,true,none,iMov (.c (.int .i64 (.lit 0)))⟩])
 cRet) cSkip))
 (cSeq (cOps [⟨some 8,false,none,iMov (.t 0)⟩,
 ⟨some 9,false,none,iMov (.t 1)⟩,
 ⟨some 10,false,none,iArith .rem (.t 8) (.t 9)⟩,
 ⟨some 5,true,none,iMov (.t 10)⟩])
 (cSeq (cSeq (cOps [⟨some 11,false,none,iMov (.t 5)⟩,
 ⟨some 12,true,none,iCmp .lss (.t 11) (.c (.int .i64 (.lit 0)))⟩])
 (cCond (.t 12) (cOps [⟨some 13,false,none,iMov (.t 5)⟩,
 ⟨some 14,false,none,iMov (.t 1)⟩,
 ⟨some 15,false,none,iArith .add (.t 13) (.t 14)⟩,
 ⟨some 5,true,none,iMov (.t 15)⟩]) cSkip))
 (cSeq (cOps [⟨some 16,false,none,iMov (.t 5)⟩,
 ⟨some 4,true,none,iMov (.t 16)⟩])
 cRet))))),[.t 4]⟩
noncomputable def Tryd.kp14:List Nat:=[0,1,2,6]
noncomputable def Tryd.cf14:CF:=⟨3,(cSeq (cOps [⟨some 6,true,none,iMov (.c (.bool (.lit false)))⟩])
 (cSeq (cOps [⟨some 7,false,none,iMov (.t 0)⟩,
 ⟨some 8,false,none,iMov (.t 1)⟩,
 ⟨some 9,false,none,iCmp .geq (.t 7) (.t 8)⟩,
 ⟨some 10,false,none,iMov (.t 9)⟩,
 ⟨some 11,false,some (10,true),iMov (.t 0)⟩,
 ⟨some 12,false,some (10,true),iMov (.t 2)⟩,
 ⟨some 13,false,some (10,true),iCmp .leq (.t 11) (.t 12)⟩,
 ⟨some 14,false,none,iPick (.t 10) (.t 13) (.c (.bool (.lit false)))⟩,
 ⟨some 6,true,none,iMov (.t 14)⟩])
 cRet)),[.t 6]⟩
noncomputable def Tryd.kp15:List Nat:=[0,1,2,4,5,6,7,15]
noncomputable def Tryd.cf15:CF:=⟨2,(cSeq (cOps [⟨some 2,true,none,iBox 28 (.t 0)⟩,
 ⟨some 4,true,none,iMov (.c .nilslice)⟩,
 ⟨some 5,true,none,iMov (.c (.int .i64 (.lit 0)))⟩])
 (cSeq (cOps [⟨some 9,false,none,iLoadN 12 (.t 2)⟩,
 ⟨some 10,false,none,iMov (.t 1)⟩,
 ⟨some 11,false,none,iCall (.c (.func (.func 36) [] [])) [(.t 9),(.t 10)]⟩,
 ⟨some 8,false,none,iMov (.t 11)⟩,
 ⟨some 12,false,none,iExtract 0 (.t 8)⟩,
 ⟨some 13,false,none,iExtract 1 (.t 8)⟩,
 ⟨some 6,true,none,iAlloc 52 [.nilslice,(.int .i64 (.lit 0)),(.int .i64 (.lit 0)),(.int .i64 (.lit 0)),(.int .i64 (.lit 0)),(.int .i64 (.lit 0)),(.int .i64 (.lit 0)),(.int .i64 (.lit 0)),(.int .i64 (.lit 0)),(.int .i64 (.lit 0)),(.int .i64 (.lit 0)),(.int .i64 (.lit 0)),.nilslice,.nilmap]⟩,
 ⟨none,false,none,iStore 14 (.t 6) (.t 12)⟩,
 ⟨some 7,true,none,iMov (.t 13)⟩])
 (cSeq (cSeq (cOps [⟨some 14,false,none,iMov (.t 7)⟩,
 ⟨some 15,true,none,iCmp .neq (.t 14) (.c (.int .i64 (.lit 0)))⟩])
 (cCond (.t 15) (cSeq (cOps [⟨some 16,false,none,iMov (.t 7)⟩,
 ⟨some 4,true,none,iMov (.c .nilslice)⟩,
 ⟨some 5,true,none,iMov (.t 16)⟩])
 cRet) cSkip))
 (cSeq (cOps [⟨some 17,false,none,iLoadN 14 (.t 6)⟩,
 ⟨some 18,false,none,iMov (.t 1)⟩,
 ⟨some 19,false,none,iBuild [(.int .i64 (.lit 0)),.nilFunc] [(0,1,(.t 18)),(1,1,(.c (.func (.func 37) [] [])))]⟩,
 ⟨some 20,false,none,iCall (.c (.func (.func 19) [] [])) [(.t 17),(.t 19)]⟩,
 ⟨some 21,false,none,iExtract 0 (.t 20)⟩,
 ⟨some 22,false,none,iExtract 1 (.t 20)⟩,
 ⟨some 4,true,none,iMov (.t 21)⟩,
 ⟨some 5,true,none,iMov (.t 22)⟩])
 cRet)))),[.t 4,.t 5]⟩
noncomputable def Tryd.kp16:List Nat:=[0,1,2,4,5,6,7,15]
noncomputable def Tryd.cf16:CF:=⟨2,(cSeq (cOps [⟨some 2,true,none,iBox 28 (.t 0)⟩,
 ⟨some 4,true,none,iMov (.c (.int .i64 (.lit 0)))⟩,
 ⟨some 5,true,none,iMov (.c (.int .i64 (.lit 0)))⟩])
 (cSeq (cOps [⟨some 9,false,none,iLoadN 12 (.t 2)⟩,
 ⟨some 10,false,none,iMov (.t 1)⟩,
 ⟨some 11,false,none,iCall (.c (.func (.func 36) [] [])) [(.t 9),(.t 10)]⟩,
 ⟨some 8,false,none,iMov (.t 11)⟩,
 ⟨some 12,false,none,iExtract 0 (.t 8)⟩,
 ⟨some 13,false,none,iExtract 1 (.t 8)⟩,
 ⟨some 6,true,none,iAlloc 52 [.nilslice,(.int .i64 (.lit 0)),(.int .i64 (.lit 0)),(.int .i64 (.lit 0)),(.int .i64 (.lit 0)),(.int .i64 (.lit 0)),(.int .i64 (.lit 0)),(.int .i64 (.lit 0)),(.int .i64 (.lit 0)),(.int .i64 (.lit 0)),(.int .i64 (.lit 0)),(.int .i64 (.lit 0)),.nilslice,.nilmap]⟩,
 ⟨none,false,none,iStore 14 (.t 6) (.t 12)⟩,
 ⟨some 7,true,none,iMov (.t 13)⟩])
 (cSeq (cSeq (cOps [⟨some 14,false,none,iMov (.t 7)⟩,
 ⟨some 15,true,none,iCmp .neq (.t 14) (.c (.int .i64 (.lit 0)))⟩])
 (cCond (.t 15) (cSeq (cOps [⟨some 16,false,none,iMov (.t 7)⟩,
 ⟨some 4,true,none,iMov (.c (.int .i64 (.lit 0)))⟩,
 ⟨some 5,true,none,iMov (.t 16)⟩])
 cRet) cSkip))
 (cSeq (cOps [⟨some 17,false,none,iLoadN 14 (.t 6)⟩,
 ⟨some 18,false,none,iMov (.t 1)⟩,
 ⟨some 19,false,none,iCall (.c (.func (.func 38) [] [])) [(.t 17),(.t 18)]⟩,
 ⟨some 20,false,none,iExtract 0 (.t 19)⟩,
 ⟨some 21,false,none,iExtract 1 (.t 19)⟩,
 ⟨some 4,true,none,iMov (.t 20)⟩,
 ⟨some 5,true,none,iMov (.t 21)⟩])
 cRet)))),[.t 4,.t 5]⟩
noncomputable def Tryd.kp17:List Nat:=[0,1,4]
noncomputable def Tryd.cf17:CF:=⟨2,(cSeq (cOps [⟨some 4,true,none,iAlloc 24 [(.int .i64 (.lit 0)),(.int .i64 (.lit 0))]⟩])
 (cSeq (cOps [⟨some 5,false,none,iMov (.t 0)⟩,
 ⟨some 6,false,none,iMov (.t 1)⟩,
 ⟨some 7,false,none,iBuild [(.int .i64 (.lit 0)),(.int .i64 (.lit 0))] [(0,1,(.t 5)),(1,1,(.t 6))]⟩,
 ⟨none,false,none,iStore 2 (.t 4) (.t 7)⟩])
 cRet)),[.cell 4 true 2]⟩
noncomputable def Tryd.kp18:List Nat:=[0,1,2,3,4,5,18]
noncomputable def Tryd.cf18:CF:=⟨1,(cSeq (cOps [⟨some 1,true,none,iBox 28 (.t 0)⟩,
 ⟨some 2,true,none,iAlloc 52 [.nilslice,(.int .i64 (.lit 0)),(.int .i64 (.lit 0)),(.int .i64 (.lit 0)),(.int .i64 (.lit 0)),(.int .i64 (.lit 0)),(.int .i64 (.lit 0)),(.int .i64 (.lit 0)),(.int .i64 (.lit 0)),(.int .i64 (.lit 0)),(.int .i64 (.lit 0)),(.int .i64 (.lit 0)),.nilslice,.nilmap]⟩,
 ⟨some 3,true,none,iMov (.c (.int .i64 (.lit 0)))⟩])
 (cSeq (cOps [⟨some 7,false,none,iFaddr 0 (.t 1)⟩,
 ⟨some 8,false,none,iLoadN 6 (.t 7)⟩,
 ⟨some 9,false,none,iCall (.c (.func (.func 39) [] [])) [(.t 8)]⟩,
 ⟨some 6,false,none,iMov (.t 9)⟩,
 ⟨some 10,false,none,iExtract 0 (.t 6)⟩,
 ⟨some 11,false,none,iExtract 1 (.t 6)⟩,
 ⟨some 4,true,none,iMov (.t 10)⟩,
 ⟨some 5,true,none,iMov (.t 11)⟩])
 (cSeq (cSeq (cOps [⟨some 12,false,none,iMov (.t 5)⟩,
 ⟨some 13,false,none,iCmp .neq (.t 12) (.c (.int .i64 (.lit 0)))⟩,
 ⟨some 14,false,none,iMov (.t 13)⟩,
 ⟨some 15,false,some (14,false),iLoadN 12 (.t 1)⟩,
 ⟨some 16,false,some (14,false),iCall (.c (.func (.func 40) [] [])) [(.t 15)]⟩,
 ⟨some 17,false,some (14,false),iNot (.t 16)⟩,
 ⟨some 18,true,none,iPick (.t 14) (.c (.bool (.lit true))) (.t 17)⟩])
 (cCond (.t 18) (cSeq (cOps [⟨some 19,false,none,iBuild [.nilslice,(.int .i64 (.lit 0)),(.int .i64 (.lit 0)),(.int .i64 (.lit 0)),(.int .i64 (.lit 0)),(.int .i64 (.lit 0)),(.int .i64 (.lit 0)),(.int .i64 (.lit 0)),(.int .i64 (.lit 0)),(.int .i64 (.lit 0)),(.int .i64 (.lit 0)),(.int .i64 (.lit 0)),.nilslice,.nilmap] []⟩,
 ⟨none,false,none,iStore 14 (.t 2) (.t 19)⟩,
 ⟨some 3,true,none,iMov (.c (.int .i64 (.lit 80)))⟩])
 cRet) cSkip))
 (cSeq (cOps [⟨some 20,false,none,iLoadN 12 (.t 1)⟩,
 ⟨some 21,false,none,iMov (.t 4)⟩,
 ⟨some 22,false,none,iMkmap⟩,
 ⟨some 23,false,none,iBuild [.nilslice,(.int .i64 (.lit 0)),(.int .i64 (.lit 0)),(.int .i64 (.lit 0)),(.int .i64 (.lit 0)),(.int .i64 (.lit 0)),(.int .i64 (.lit 0)),(.int .i64 (.lit 0)),(.int .i64 (.lit 0)),(.int .i64 (.lit 0)),(.int .i64 (.lit 0)),(.int .i64 (.lit 0)),.nilslice,.nilmap] [(0,12,(.t 20)),(12,1,(.t 21)),(13,1,(.t 22))]⟩,
 ⟨none,false,none,iStore 14 (.t 2) (.t 23)⟩,
 ⟨some 3,true,none,iMov (.c (.int .i64 (.lit 0)))⟩])
 cRet)))),[.cell 2 true 14,.t 3]⟩
noncomputable def Tryd.ra19011:C:=(cOps [⟨some 7,true,none,iMov (.t 11)⟩])
noncomputable def Tryd.rb19011:C:=(cBlock 1 (cSeq (cOps [⟨some 12,false,none,iMov (.t 7)⟩,
 ⟨some 13,false,none,iLoadN 14 (.t 2)⟩,
 ⟨some 14,false,none,iMov (.t 7)⟩,
 ⟨some 15,false,none,iCall (.c (.func (.func 34) [] [])) [(.t 13),(.t 14)]⟩,
 ⟨some 16,false,none,iBuild [.nilslice,(.int .i64 (.lit 0))] [(0,1,(.t 12)),(1,1,(.t 15))]⟩,
 ⟨some 8,true,none,iAlloc 78 [.nilslice,(.int .i64 (.lit 0))]⟩,
 ⟨none,false,none,iStore 2 (.t 8) (.t 16)⟩])
 (cSeq (cSeq (cOps [⟨some 17,false,none,iFaddr 1 (.t 8)⟩,
 ⟨some 18,false,none,iLoad (.t 17)⟩,
 ⟨some 19,false,none,iFaddr 0 (.t 3)⟩,
 ⟨some 20,false,none,iLoad (.t 19)⟩,
 ⟨some 21,false,none,iCmp .gtr (.t 18) (.t 20)⟩,
 ⟨some 22,false,none,iMov (.t 21)⟩,
 ⟨some 23,false,some (22,false),iFaddr 0 (.t 6)⟩,
 ⟨some 24,false,some (22,false),iLoad (.t 23)⟩,
 ⟨some 25,false,some (22,false),iEq true false 1 [(0,.nilS)] (.t 24) (.c .nilslice)⟩,
 ⟨some 26,false,some (22,false),iMov (.t 25)⟩,
 ⟨some 27,false,some (26,true),iFaddr 1 (.t 3)⟩,
 ⟨some 28,false,some (26,true),iLoad (.t 27)⟩,
 ⟨some 29,false,some (26,true),iLoadN 2 (.t 8)⟩,
 ⟨some 30,false,some (26,true),iLoadN 2 (.t 6)⟩,
 ⟨some 31,false,some (26,true),iCall (.t 28) [(.t 29),(.t 30)]⟩,
 ⟨some 32,false,some (26,true),iNot (.t 31)⟩,
 ⟨some 33,false,some (22,false),iPick (.t 26) (.t 32) (.c (.bool (.lit false)))⟩,
 ⟨some 34,true,none,iPick (.t 22) (.c (.bool (.lit true))) (.t 33)⟩])
 (cCond (.t 34) (cExit 1) cSkip))
 (dOps 0 [⟨⟨some 35,false,none,iMov (.t 7)⟩,[7],false,0,0,none,[]⟩,
 ⟨⟨some 36,false,none,iCall (.c (.func (.func 42) [] [])) [(.t 35)]⟩,[35],true,0,0,none,[]⟩,
 ⟨⟨some 37,false,none,iFaddr 1 (.t 8)⟩,[8],false,0,1,none,[]⟩,
 ⟨⟨some 38,false,none,iLoad (.t 37)⟩,[37],false,0,1,none,[]⟩,
 ⟨⟨some 39,false,none,iBuild [.nilslice,(.int .i64 (.lit 0))] [(0,1,(.t 36)),(1,1,(.t 38))]⟩,[36,38],false,1,1,none,[]⟩,
 ⟨⟨none,false,none,iStore 2 (.t 6) (.t 39)⟩,[6,39],true,1,0,none,[]⟩]))))
noncomputable def Tryd.kp19:List Nat:=[0,1,2,3,4,5,6,7,8,10,11,34,42]
noncomputable def Tryd.cf19:CF:=⟨2,(cSeq (cOps [⟨some 2,true,none,iBox 52 (.t 0)⟩,
 ⟨some 3,true,none,iBox 58 (.t 1)⟩,
 ⟨some 4,true,none,iMov (.c .nilslice)⟩,
 ⟨some 5,true,none,iMov (.c (.int .i64 (.lit 0)))⟩])
 (cSeq (cOps [⟨some 6,true,none,iAlloc 78 [.nilslice,(.int .i64 (.lit 0))]⟩])
 (cSeq (cSeq (cOps [⟨some 9,false,none,iLoadN 14 (.t 2)⟩,
 ⟨some 10,true,none,iCall (.c (.func (.func 41) [] [])) [(.t 9)]⟩])
 (cBlock 0 (cRange (.t 10) [11] 19011)))
 (cSeq (cSeq (cOps [⟨some 40,false,none,iFaddr 0 (.t 6)⟩,
 ⟨some 41,false,none,iLoad (.t 40)⟩,
 ⟨some 42,true,none,iEq false false 1 [(0,.nilS)] (.t 41) (.c .nilslice)⟩])
 (cCond (.t 42) (cSeq (cOps [⟨some 4,true,none,iMov (.c .nilslice)⟩,
 ⟨some 5,true,none,iMov (.c (.int .i64 (.lit 4)))⟩])
 cRet) cSkip))
 (cSeq (cOps [⟨some 43,false,none,iFaddr 0 (.t 6)⟩,
 ⟨some 44,false,none,iLoad (.t 43)⟩,
 ⟨some 4,true,none,iMov (.t 44)⟩,
 ⟨some 5,true,none,iMov (.c (.int .i64 (.lit 0)))⟩])
 cRet))))),[.t 4,.t 5]⟩
noncomputable def Tryd.kp20:List Nat:=[0,1,2,3,4,9]
noncomputable def Tryd.cf20:CF:=⟨2,(cSeq (cOps [⟨some 2,true,none,iBox 78 (.t 0)⟩,
 ⟨some 3,true,none,iBox 78 (.t 1)⟩,
 ⟨some 4,true,none,iMov (.c (.bool (.lit false)))⟩])
 (cSeq (cSeq (cOps [⟨some 5,false,none,iFaddr 1 (.t 2)⟩,
 ⟨some 6,false,none,iLoad (.t 5)⟩,
 ⟨some 7,false,none,iFaddr 1 (.t 3)⟩,
 ⟨some 8,false,none,iLoad (.t 7)⟩,
 ⟨some 9,true,none,iCmp .neq (.t 6) (.t 8)⟩])
 (cCond (.t 9) (cSeq (cOps [⟨some 10,false,none,iFaddr 1 (.t 2)⟩,
 ⟨some 11,false,none,iLoad (.t 10)⟩,
 ⟨some 12,false,none,iFaddr 1 (.t 3)⟩,
 ⟨some 13,false,none,iLoad (.t 12)⟩,
 ⟨some 14,false,none,iCmp .lss (.t 11) (.t 13)⟩,
 ⟨some 4,true,none,iMov (.t 14)⟩])
 cRet) cSkip))
 (cSeq (cOps [⟨some 15,false,none,iLoadN 2 (.t 2)⟩,
 ⟨some 16,false,none,iLoadN 2 (.t 3)⟩,
 ⟨some 17,false,none,iCall (.c (.func (.func 37) [] [])) [(.t 15),(.t 16)]⟩,
 ⟨some 4,true,none,iMov (.t 17)⟩])
 cRet))),[.t 4]⟩
noncomputable def Tryd.kp21:List Nat:=[0,1,2,4]
noncomputable def Tryd.cf21:CF:=⟨1,(cSeq (cOps [⟨some 1,true,none,iBox 28 (.t 0)⟩,
 ⟨some 2,true,none,iMov (.c (.int .i64 (.lit 0)))⟩])
 (cSeq (cOps [⟨some 6,false,none,iLoadN 12 (.t 1)⟩,
 ⟨some 7,false,none,iCall (.c (.func (.func 18) [] [])) [(.t 6)]⟩,
 ⟨some 5,false,none,iMov (.t 7)⟩,
 ⟨some 8,false,none,iExtract 0 (.t 5)⟩,
 ⟨some 9,false,none,iExtract 1 (.t 5)⟩,
 ⟨some 3,false,none,iAlloc 52 [.nilslice,(.int .i64 (.lit 0)),(.int .i64 (.lit 0)),(.int .i64 (.lit 0)),(.int .i64 (.lit 0)),(.int .i64 (.lit 0)),(.int .i64 (.lit 0)),(.int .i64 (.lit 0)),(.int .i64 (.lit 0)),(.int .i64 (.lit 0)),(.int .i64 (.lit 0)),(.int .i64 (.lit 0)),.nilslice,.nilmap]⟩,
 ⟨none,false,none,iStore 14 (.t 3) (.t 8)⟩,
 ⟨some 4,true,none,iMov (.t 9)⟩])
 (cSeq (cOps [⟨some 10,false,none,iMov (.t 4)⟩,
 ⟨some 2,true,none,iMov (.t 10)⟩])
 cRet))),[.t 2]⟩
noncomputable def Tryd.kp22:List Nat:=[0,1,2,5]
noncomputable def Tryd.cf22:CF:=⟨1,(cSeq (cOps [⟨some 1,true,none,iBox 26 (.t 0)⟩,
 ⟨some 2,true,none,iMov (.c (.int .i64 (.lit 0)))⟩])
 (cSeq (cSeq (cOps [⟨some 3,false,none,iLoadN 6 (.t 1)⟩,
 ⟨some 4,false,none,iCall (.c (.func (.func 43) [] [])) [(.t 3)]⟩,
 ⟨some 5,true,none,iNot (.t 4)⟩])
 (cCond (.t 5) (cSeq (cOps [⟨some 2,true,none,iMov (.c (.int .i64 (.lit 10)))⟩])
 cRet) cSkip))
 (cSeq (cOps [⟨some 2,true,none,iMov (.c (.int .i64 (.lit 0)))⟩])
 cRet))),[.t 2]⟩
noncomputable def Tryd.kp23:List Nat:=[0,1,2,3,6]
noncomputable def Tryd.cf23:CF:=⟨3,(cSeq (cOps [⟨some 3,true,none,iBox 24 (.t 0)⟩,
 ⟨some 6,true,none,iMov (.c (.bool (.lit false)))⟩])
 (cSeq (cOps [⟨some 7,false,none,iMov (.t 1)⟩,
 ⟨some 8,false,none,iFaddr 0 (.t 3)⟩,
 ⟨some 9,false,none,iLoad (.t 8)⟩,
 ⟨some 10,false,none,iCmp .leq (.t 7) (.t 9)⟩,
 ⟨some 11,false,none,iMov (.t 10)⟩,
 ⟨some 12,false,some (11,true),iFaddr 0 (.t 3)⟩,
 ⟨some 13,false,some (11,true),iLoad (.t 12)⟩,
 ⟨some 14,false,some (11,true),iFaddr 1 (.t 3)⟩,
 ⟨some 15,false,some (11,true),iLoad (.t 14)⟩,
 ⟨some 16,false,some (11,true),iCmp .leq (.t 13) (.t 15)⟩,
 ⟨some 17,false,none,iPick (.t 11) (.t 16) (.c (.bool (.lit false)))⟩,
 ⟨some 18,false,none,iMov (.t 17)⟩,
 ⟨some 19,false,some (18,true),iFaddr 1 (.t 3)⟩,
 ⟨some 20,false,some (18,true),iLoad (.t 19)⟩,
 ⟨some 21,false,some (18,true),iMov (.t 2)⟩,
 ⟨some 22,false,some (18,true),iCmp .leq (.t 20) (.t 21)⟩,
 ⟨some 23,false,none,iPick (.t 18) (.t 22) (.c (.bool (.lit false)))⟩,
 ⟨some 6,true,none,iMov (.t 23)⟩])
 cRet)),[.t 6]⟩
noncomputable def Tryd.kp24:List Nat:=[0,1,2,4,5,6,7,14]
noncomputable def Tryd.cf24:CF:=⟨2,(cSeq (cOps [⟨some 2,true,none,iBox 28 (.t 0)⟩,
 ⟨some 4,true,none,iMov (.c (.bool (.lit false)))⟩,
 ⟨some 5,true,none,iMov (.c (.int .i64 (.lit 0)))⟩])
 (cSeq (cOps [⟨some 9,false,none,iLoadN 12 (.t 2)⟩,
 ⟨some 10,false,none,iCall (.c (.func (.func 18) [] [])) [(.t 9)]⟩,
 ⟨some 8,false,none,iMov (.t 10)⟩,
 ⟨some 11,false,none,iExtract 0 (.t 8)⟩,
 ⟨some 12,false,none,iExtract 1 (.t 8)⟩,
 ⟨some 6,true,none,iAlloc 52 [.nilslice,(.int .i64 (.lit 0)),(.int .i64 (.lit 0)),(.int .i64 (.lit 0)),(.int .i64 (.lit 0)),(.int .i64 (.lit 0)),(.int .i64 (.lit 0)),(.int .i64 (.lit 0)),(.int .i64 (.lit 0)),(.int .i64 (.lit 0)),(.int .i64 (.lit 0)),(.int .i64 (.lit 0)),.nilslice,.nilmap]⟩,
 ⟨none,false,none,iStore 14 (.t 6) (.t 11)⟩,
 ⟨some 7,true,none,iMov (.t 12)⟩])
 (cSeq (cSeq (cOps [⟨some 13,false,none,iMov (.t 7)⟩,
 ⟨some 14,true,none,iCmp .neq (.t 13) (.c (.int .i64 (.lit 0)))⟩])
 (cCond (.t 14) (cSeq (cOps [⟨some 15,false,none,iMov (.t 7)⟩,
 ⟨some 4,true,none,iMov (.c (.bool (.lit false)))⟩,
 ⟨some 5,true,none,iMov (.t 15)⟩])
 cRet) cSkip))
 (cSeq (cOps [⟨some 16,false,none,iLoadN 14 (.t 6)⟩,
 ⟨some 17,false,none,iMov (.t 1)⟩,
 ⟨some 18,false,none,iCall (.c (.func (.func 44) [] [])) [(.t 16),(.t 17)]⟩,
 ⟨some 4,true,none,iMov (.t 18)⟩,
 ⟨some 5,true,none,iMov (.c (.int .i64 (.lit 0)))⟩])
 cRet)))),[.t 4,.t 5]⟩
noncomputable def Tryd.kp25:List Nat:=[0]
noncomputable def Tryd.cf25:CF:=⟨0,(cSeq (cOps [⟨some 0,true,none,iAlloc 28 [.nilslice,(.int .i64 (.lit 0)),(.int .i64 (.lit 0)),(.int .i64 (.lit 0)),(.int .i64 (.lit 0)),(.int .i64 (.lit 0)),(.int .i64 (.lit 0)),(.int .i64 (.lit 0)),(.int .i64 (.lit 0)),(.int .i64 (.lit 0)),(.int .i64 (.lit 0)),(.int .i64 (.lit 0))]⟩])
 (cSeq (cOps [⟨some 1,false,none,iBslice 3 [(.int .i64 (.lit 0))] 3 [(0,1,(.c (.int .i64 (.lit 1000)))),(1,1,(.c (.int .i64 (.lit 800)))),(2,1,(.c (.int .i64 (.lit 600))))]⟩,
 ⟨some 2,false,none,iCall (.c (.func (.func 45) [] [])) [(.t 1)]⟩,
 ⟨some 3,false,none,iCall (.c (.func (.func 17) [] [])) [(.c (.int .i64 (.lit 300))),(.c (.int .i64 (.lit 400)))]⟩,
 ⟨some 4,false,none,iCall (.c (.func (.func 46) [] [])) [(.c (.int .i64 (.lit 300)))]⟩,
 ⟨some 5,false,none,iBuild [.nilslice,(.int .i64 (.lit 0)),(.int .i64 (.lit 0)),(.int .i64 (.lit 0)),(.int .i64 (.lit 0)),(.int .i64 (.lit 0)),(.int .i64 (.lit 0)),(.int .i64 (.lit 0)),(.int .i64 (.lit 0)),(.int .i64 (.lit 0)),(.int .i64 (.lit 0)),(.int .i64 (.lit 0))] [(0,6,(.t 2)),(7,2,(.t 3)),(9,2,(.t 4)),(11,1,(.c (.int .i64 (.lit 2))))]⟩,
 ⟨none,false,none,iStore 12 (.t 0) (.t 5)⟩])
 cRet)),[.cell 0 true 12]⟩
noncomputable def Tryd.kp26:List Nat:=[0,1,2,4,5,6,7,8,9,10,11,19,34,35,36]
noncomputable def Tryd.cf26:CF:=⟨2,(cSeq (cOps [⟨some 2,true,none,iBox 28 (.t 0)⟩,
 ⟨some 4,true,none,iMov (.c .nilslice)⟩,
 ⟨some 5,true,none,iMov (.c (.int .i64 (.lit 0)))⟩])
 (cSeq (cOps [⟨some 13,false,none,iLoadN 12 (.t 2)⟩,
 ⟨some 14,false,none,iMov (.t 1)⟩,
 ⟨some 15,false,none,iCall (.c (.func (.func 33) [] [])) [(.t 13),(.t 14),(.c .nilslice)]⟩,
 ⟨some 12,false,none,iMov (.t 15)⟩,
 ⟨some 16,false,none,iExtract 0 (.t 12)⟩,
 ⟨some 17,false,none,iExtract 1 (.t 12)⟩,
 ⟨some 6,true,none,iAlloc 52 [.nilslice,(.int .i64 (.lit 0)),(.int .i64 (.lit 0)),(.int .i64 (.lit 0)),(.int .i64 (.lit 0)),(.int .i64 (.lit 0)),(.int .i64 (.lit 0)),(.int .i64 (.lit 0)),(.int .i64 (.lit 0)),(.int .i64 (.lit 0)),(.int .i64 (.lit 0)),(.int .i64 (.lit 0)),.nilslice,.nilmap]⟩,
 ⟨none,false,none,iStore 14 (.t 6) (.t 16)⟩,
 ⟨some 7,true,none,iMov (.t 17)⟩])
 (cSeq (cSeq (cOps [⟨some 18,false,none,iMov (.t 7)⟩,
 ⟨some 19,true,none,iCmp .neq (.t 18) (.c (.int .i64 (.lit 0)))⟩])
 (cCond (.t 19) (cSeq (cOps [⟨some 20,false,none,iMov (.t 7)⟩,
 ⟨some 4,true,none,iMov (.c .nilslice)⟩,
 ⟨some 5,true,none,iMov (.t 20)⟩])
 cRet) cSkip))
 (cSeq (dOps 0 [⟨⟨some 21,false,none,iLoadN 14 (.t 6)⟩,[6],false,0,0,none,[]⟩,
 ⟨⟨some 22,false,none,iCall (.c (.func (.func 47) [] [])) [(.t 21),(.c (.int .i64 (.lit 0))),(.c (.int .i64 (.lit 0)))]⟩,[21],true,0,0,none,[]⟩,
 ⟨⟨some 23,false,none,iMov (.t 1)⟩,[1],false,0,1,none,[]⟩,
 ⟨⟨some 24,false,none,iCall (.c (.func (.func 48) [] [])) [(.t 22),(.t 23)]⟩,[22,23],true,1,0,none,[]⟩,
 ⟨⟨some 25,false,none,iLoadN 14 (.t 6)⟩,[6],false,0,2,none,[]⟩,
 ⟨⟨some 26,false,none,iCall (.c (.func (.func 47) [] [])) [(.t 25),(.c (.int .i64 (.lit 1))),(.c (.int .i64 (.lit 1)))]⟩,[25],true,2,0,none,[]⟩,
 ⟨⟨some 27,false,none,iMov (.t 1)⟩,[1],false,0,3,none,[]⟩,
 ⟨⟨some 28,false,none,iCall (.c (.func (.func 48) [] [])) [(.t 26),(.t 27)]⟩,[26,27],true,3,0,none,[]⟩,
 ⟨⟨some 8,true,none,iMov (.t 24)⟩,[24],false,4,4,none,[]⟩,
 ⟨⟨some 9,true,none,iMov (.t 28)⟩,[28],false,4,4,none,[]⟩])
 (cSeq (cOps [⟨some 29,false,none,iFaddr 12 (.t 6)⟩,
 ⟨some 30,false,none,iLoad (.t 29)⟩,
 ⟨some 31,false,none,iLenS (.t 30)⟩,
 ⟨some 32,false,none,iMkslice 24 [(.int .i64 (.lit 0)),(.int .i64 (.lit 0))] 16 (.t 31) (.t 31)⟩,
 ⟨some 10,true,none,iMov (.t 32)⟩])
 (cSeq (cSeq (cOps [⟨some 33,false,none,iMov (.t 10)⟩,
 ⟨some 34,true,none,iLenS (.t 33)⟩,
 ⟨some 35,true,none,iMov (.c (.int .i64 (.lit 0)))⟩])
 (cBlock 0 (cLoop (cSeq (cOps [⟨some 36,true,none,iCmp .lss (.t 35) (.t 34)⟩])
 (cSeq (cCond (.t 36) cSkip (cExit 0))
 (cSeq (cBlock 1 (cSeq (cOps [⟨some 37,false,none,iMov (.t 35)⟩,
 ⟨some 11,true,none,iMov (.t 37)⟩])
 (dOps 0 [⟨⟨some 38,false,none,iMov (.t 10)⟩,[10],false,0,0,none,[]⟩,
 ⟨⟨some 39,false,none,iMov (.t 11)⟩,[11],false,0,0,none,[]⟩,
 ⟨⟨some 40,false,none,iMov (.t 8)⟩,[8],false,0,0,none,[]⟩,
 ⟨⟨some 41,false,none,iMov (.t 11)⟩,[11],false,0,0,none,[]⟩,
 ⟨⟨some 42,false,none,iIaddr 1 (.t 40) (.t 41)⟩,[40,41],false,0,0,none,[]⟩,
 ⟨⟨some 43,false,none,iLoad (.t 42)⟩,[42],false,0,0,none,[]⟩,
 ⟨⟨some 44,false,none,iMov (.t 9)⟩,[9],false,0,0,none,[]⟩,
 ⟨⟨some 45,false,none,iMov (.t 11)⟩,[11],false,0,0,none,[]⟩,
 ⟨⟨some 46,false,none,iIaddr 1 (.t 44) (.t 45)⟩,[44,45],false,0,0,none,[]⟩,
 ⟨⟨some 47,false,none,iLoad (.t 46)⟩,[46],false,0,0,none,[]⟩,
 ⟨⟨some 48,false,none,iBuild [(.int .i64 (.lit 0)),(.int .i64 (.lit 0))] [(0,1,(.t 43)),(1,1,(.t 47))]⟩,[43,47],false,0,0,none,[]⟩,
 ⟨⟨some 49,false,none,iIaddr 2 (.t 38) (.t 39)⟩,[38,39],false,0,0,none,[]⟩,
 ⟨⟨none,false,none,iStore 2 (.t 49) (.t 48)⟩,[49,48],true,0,0,none,[]⟩])))
 (cOps [⟨some 50,false,none,iArith .add (.t 35) (.c (.int .i64 (.lit 1)))⟩,
 ⟨some 35,true,none,iMov (.t 50)⟩])))))))
 (cSeq (cOps [⟨some 51,false,none,iMov (.t 10)⟩,
 ⟨some 4,true,none,iMov (.t 51)⟩,
 ⟨some 5,true,none,iMov (.c (.int .i64 (.lit 0)))⟩])
 cRet))))))),[.t 4,.t 5]⟩
noncomputable def Tryd.kp27:List Nat:=[0,1,2,3,6,7,8,9,19]
noncomputable def Tryd.cf27:CF:=⟨3,(cSeq (cOps [⟨some 3,true,none,iBox 28 (.t 0)⟩,
 ⟨some 6,true,none,iAlloc 24 [(.int .i64 (.lit 0)),(.int .i64 (.lit 0))]⟩,
 ⟨some 7,true,none,iMov (.c (.int .i64 (.lit 0)))⟩])
 (cSeq (cOps [⟨some 11,false,none,iLoadN 12 (.t 3)⟩,
 ⟨some 12,false,none,iMov (.t 1)⟩,
 ⟨some 13,false,none,iMov (.t 2)⟩,
 ⟨some 14,false,none,iBslice 3 [(.int .i64 (.lit 0))] 1 [(0,1,(.t 13))]⟩,
 ⟨some 15,false,none,iCall (.c (.func (.func 33) [] [])) [(.t 11),(.t 12),(.t 14)]⟩,
 ⟨some 10,false,none,iMov (.t 15)⟩,
 ⟨some 16,false,none,iExtract 0 (.t 10)⟩,
 ⟨some 17,false,none,iExtract 1 (.t 10)⟩,
 ⟨some 8,true,none,iAlloc 52 [.nilslice,(.int .i64 (.lit 0)),(.int .i64 (.lit 0)),(.int .i64 (.lit 0)),(.int .i64 (.lit 0)),(.int .i64 (.lit 0)),(.int .i64 (.lit 0)),(.int .i64 (.lit 0)),(.int .i64 (.lit 0)),(.int .i64 (.lit 0)),(.int .i64 (.lit 0)),(.int .i64 (.lit 0)),.nilslice,.nilmap]⟩,
 ⟨none,false,none,iStore 14 (.t 8) (.t 16)⟩,
 ⟨some 9,true,none,iMov (.t 17)⟩])
 (cSeq (cSeq (cOps [⟨some 18,false,none,iMov (.t 9)⟩,
 ⟨some 19,true,none,iCmp .neq (.t 18) (.c (.int .i64 (.lit 0)))⟩])
 (cCond (.t 19) (cSeq (cOps [⟨some 20,false,none,iBuild [(.int .i64 (.lit 0)),(.int .i64 (.lit 0))] []⟩,
 ⟨some 21,false,none,iMov (.t 9)⟩,
 ⟨none,false,none,iStore 2 (.t 6) (.t 20)⟩,
 ⟨some 7,true,none,iMov (.t 21)⟩])
 cRet) cSkip))
 (cSeq (dOps 0 [⟨⟨some 22,false,none,iLoadN 14 (.t 8)⟩,[8],false,0,0,none,[]⟩,
 ⟨⟨some 23,false,none,iCall (.c (.func (.func 47) [] [])) [(.t 22),(.c (.int .i64 (.lit 0))),(.c (.int .i64 (.lit 0)))]⟩,[22],true,0,0,none,[]⟩,
 ⟨⟨some 24,false,none,iMov (.t 1)⟩,[1],false,0,1,none,[]⟩,
 ⟨⟨some 25,false,none,iMov (.t 2)⟩,[2],false,0,1,none,[]⟩,
 ⟨⟨some 26,false,none,iCall (.c (.func (.func 49) [] [])) [(.t 23),(.t 24),(.t 25)]⟩,[23,24,25],true,1,0,none,[]⟩,
 ⟨⟨some 27,false,none,iLoadN 14 (.t 8)⟩,[8],false,0,2,none,[]⟩,
 ⟨⟨some 28,false,none,iCall (.c (.func (.func 47) [] [])) [(.t 27),(.c (.int .i64 (.lit 1))),(.c (.int .i64 (.lit 1)))]⟩,[27],true,2,0,none,[]⟩,
 ⟨⟨some 29,false,none,iMov (.t 1)⟩,[1],false,0,3,none,[]⟩,
 ⟨⟨some 30,false,none,iMov (.t 2)⟩,[2],false,0,3,none,[]⟩,
 ⟨⟨some 31,false,none,iCall (.c (.func (.func 49) [] [])) [(.t 28),(.t 29),(.t 30)]⟩,[28,29,30],true,3,0,none,[]⟩,
 ⟨⟨some 32,false,none,iBuild [(.int .i64 (.lit 0)),(.int .i64 (.lit 0))] [(0,1,(.t 26)),(1,1,(.t 31))]⟩,[26,31],false,4,4,none,[]⟩,
 ⟨⟨none,false,none,iStore 2 (.t 6) (.t 32)⟩,[6,32],true,4,0,none,[]⟩,
 ⟨⟨some 7,true,none,iMov (.c (.int .i64 (.lit 0)))⟩,[],false,5,5,none,[]⟩])
 cRet)))),[.cell 6 true 2,.t 7]⟩
noncomputable def Tryd.kp28:List Nat:=[0,1,4,5,6,18]
noncomputable def Tryd.cf28:CF:=⟨2,(cSeq (cOps [⟨some 4,true,none,iMov (.c (.bool (.lit false)))⟩])
 (cSeq (cOps [⟨some 7,false,none,iMov (.t 0)⟩,
 ⟨some 8,false,none,iLenS (.t 7)⟩,
 ⟨some 9,false,none,iMov (.t 1)⟩,
 ⟨some 10,false,none,iLenS (.t 9)⟩,
 ⟨some 11,false,none,iCmp .eql (.t 8) (.t 10)⟩,
 ⟨some 5,true,none,iMov (.t 11)⟩])
 (cSeq (cSeq (cOps [⟨some 6,true,none,iMov (.c (.int .i64 (.lit 0)))⟩])
 (cBlock 0 (cLoop (cSeq (cSeq (cOps [⟨some 12,false,none,iMov (.t 5)⟩,
 ⟨some 13,false,none,iMov (.t 12)⟩,
 ⟨some 14,false,some (13,true),iMov (.t 6)⟩,
 ⟨some 15,false,some (13,true),iMov (.t 0)⟩,
 ⟨some 16,false,some (13,true),iLenS (.t 15)⟩,
 ⟨some 17,false,some (13,true),iCmp .lss (.t 14) (.t 16)⟩,
 ⟨some 18,true,none,iPick (.t 13) (.t 17) (.c (.bool (.lit false)))⟩])
 (cCond (.t 18) cSkip (cExit 0)))
 (cSeq (cBlock 1 (dOps 0 [⟨⟨some 21,false,none,iMov (.t 0)⟩,[0],false,0,0,none,[]⟩,
 ⟨⟨some 22,false,none,iMov (.t 6)⟩,[6],false,0,0,none,[]⟩,
 ⟨⟨some 23,false,none,iIaddr 2 (.t 21) (.t 22)⟩,[21,22],false,0,0,none,[]⟩,
 ⟨⟨some 24,false,none,iLoadN 2 (.t 23)⟩,[23],false,0,0,none,[]⟩,
 ⟨⟨some 25,false,none,iMov (.t 1)⟩,[1],false,0,0,none,[]⟩,
 ⟨⟨some 26,false,none,iMov (.t 6)⟩,[6],false,0,0,none,[]⟩,
 ⟨⟨some 27,false,none,iIaddr 2 (.t 25) (.t 26)⟩,[25,26],false,0,0,none,[]⟩,
 ⟨⟨some 28,false,none,iLoadN 2 (.t 27)⟩,[27],false,0,0,none,[]⟩,
 ⟨⟨some 29,false,none,iEq false true 2 [(0,.int),(1,.int)] (.t 24) (.t 28)⟩,[24,28],false,0,0,none,[]⟩,
 ⟨⟨some 5,true,none,iMov (.t 29)⟩,[29],false,0,0,none,[]⟩]))
 (cOps [⟨some 19,false,none,iMov (.t 6)⟩,
 ⟨some 20,false,none,iArith .add (.t 19) (.c (.int .i64 (.lit 1)))⟩,
 ⟨some 6,true,none,iMov (.t 20)⟩]))))))
 (cSeq (cOps [⟨some 30,false,none,iMov (.t 5)⟩,
 ⟨some 4,true,none,iMov (.t 30)⟩])
 cRet)))),[.t 4]⟩
noncomputable def Tryd.kp29:List Nat:=[0,1]
noncomputable def Tryd.cf29:CF:=⟨0,(cSeq (cOps [⟨some 0,true,none,iAlloc 28 [.nilslice,(.int .i64 (.lit 0)),(.int .i64 (.lit 0)),(.int .i64 (.lit 0)),(.int .i64 (.lit 0)),(.int .i64 (.lit 0)),(.int .i64 (.lit 0)),(.int .i64 (.lit 0)),(.int .i64 (.lit 0)),(.int .i64 (.lit 0)),(.int .i64 (.lit 0)),(.int .i64 (.lit 0))]⟩])
 (cSeq (cOps [⟨some 2,false,none,iCall (.c (.func (.func 25) [] [])) []⟩,
 ⟨some 1,true,none,iAlloc 28 [.nilslice,(.int .i64 (.lit 0)),(.int .i64 (.lit 0)),(.int .i64 (.lit 0)),(.int .i64 (.lit 0)),(.int .i64 (.lit 0)),(.int .i64 (.lit 0)),(.int .i64 (.lit 0)),(.int .i64 (.lit 0)),(.int .i64 (.lit 0)),(.int .i64 (.lit 0)),(.int .i64 (.lit 0))]⟩,
 ⟨none,false,none,iStore 12 (.t 1) (.t 2)⟩])
 (cSeq (cOps [⟨some 3,false,none,iCall (.c (.func (.func 17) [] [])) [(.c (.int .i64 (.lit 900))),(.c (.int .i64 (.lit 1000)))]⟩,
 ⟨some 4,false,none,iCall (.c (.func (.func 46) [] [])) [(.c (.int .i64 (.lit 900)))]⟩,
 ⟨some 5,false,none,iFaddr 7 (.t 1)⟩,
 ⟨none,false,none,iStore 2 (.t 5) (.t 3)⟩,
 ⟨some 6,false,none,iFaddr 9 (.t 1)⟩,
 ⟨none,false,none,iStore 2 (.t 6) (.t 4)⟩])
 (cSeq (cOps [⟨some 7,false,none,iLoadN 12 (.t 1)⟩,
 ⟨none,false,none,iStore 12 (.t 0) (.t 7)⟩])
 cRet)))),[.cell 0 true 12]⟩
noncomputable def Tryd.kp30:List Nat:=[0,1,4,5,6,18]
noncomputable def Tryd.cf30:CF:=⟨2,(cSeq (cOps [⟨some 4,true,none,iMov (.c (.bool (.lit false)))⟩])
 (cSeq (cOps [⟨some 7,false,none,iMov (.t 0)⟩,
 ⟨some 8,false,none,iLenS (.t 7)⟩,
 ⟨some 9,false,none,iMov (.t 1)⟩,
 ⟨some 10,false,none,iLenS (.t 9)⟩,
 ⟨some 11,false,none,iCmp .eql (.t 8) (.t 10)⟩,
 ⟨some 5,true,none,iMov (.t 11)⟩])
 (cSeq (cSeq (cOps [⟨some 6,true,none,iMov (.c (.int .i64 (.lit 0)))⟩])
 (cBlock 0 (cLoop (cSeq (cSeq (cOps [⟨some 12,false,none,iMov (.t 5)⟩,
 ⟨some 13,false,none,iMov (.t 12)⟩,
 ⟨some 14,false,some (13,true),iMov (.t 6)⟩,
 ⟨some 15,false,some (13,true),iMov (.t 0)⟩,
 ⟨some 16,false,some (13,true),iLenS (.t 15)⟩,
 ⟨some 17,false,some (13,true),iCmp .lss (.t 14) (.t 16)⟩,
 ⟨some 18,true,none,iPick (.t 13) (.t 17) (.c (.bool (.lit false)))⟩])
 (cCond (.t 18) cSkip (cExit 0)))
 (cSeq (cBlock 1 (dOps 0 [⟨⟨some 21,false,none,iMov (.t 0)⟩,[0],false,0,0,none,[]⟩,
 ⟨⟨some 22,false,none,iMov (.t 6)⟩,[6],false,0,0,none,[]⟩,
 ⟨⟨some 23,false,none,iIaddr 1 (.t 21) (.t 22)⟩,[21,22],false,0,0,none,[]⟩,
 ⟨⟨some 24,false,none,iLoad (.t 23)⟩,[23],false,0,0,none,[]⟩,
 ⟨⟨some 25,false,none,iMov (.t 1)⟩,[1],false,0,0,none,[]⟩,
 ⟨⟨some 26,false,none,iMov (.t 6)⟩,[6],false,0,0,none,[]⟩,
 ⟨⟨some 27,false,none,iIaddr 1 (.t 25) (.t 26)⟩,[25,26],false,0,0,none,[]⟩,
 ⟨⟨some 28,false,none,iLoad (.t 27)⟩,[27],false,0,0,none,[]⟩,
 ⟨⟨some 29,false,none,iCmp .eql (.t 24) (.t 28)⟩,[24,28],false,0,0,none,[]⟩,
 ⟨⟨some 5,true,none,iMov (.t 29)⟩,[29],false,0,0,none,[]⟩]))
 (cOps [⟨some 19,false,none,iMov (.t 6)⟩,
 ⟨some 20,false,none,iArith .add (.t 19) (.c (.int .i64 (.lit 1)))⟩,
 ⟨some 6,true,none,iMov (.t 20)⟩]))))))
 (cSeq (cOps [⟨some 30,false,none,iMov (.t 5)⟩,
 ⟨some 4,true,none,iMov (.t 30)⟩])
 cRet)))),[.t 4]⟩
noncomputable def Tryd.kp33:List Nat:=[0,1,2,3,6,7,8,9,16,29]
noncomputable def Tryd.cf33:CF:=⟨3,(cSeq (cOps [⟨some 3,true,none,iBox 28 (.t 0)⟩,
 ⟨some 6,true,none,iAlloc 52 [.nilslice,(.int .i64 (.lit 0)),(.int .i64 (.lit 0)),(.int .i64 (.lit 0)),(.int .i64 (.lit 0)),(.int .i64 (.lit 0)),(.int .i64 (.lit 0)),(.int .i64 (.lit 0)),(.int .i64 (.lit 0)),(.int .i64 (.lit 0)),(.int .i64 (.lit 0)),(.int .i64 (.lit 0)),.nilslice,.nilmap]⟩,
 ⟨some 7,true,none,iMov (.c (.int .i64 (.lit 0)))⟩])
 (cSeq (cOps [⟨some 11,false,none,iLoadN 12 (.t 3)⟩,
 ⟨some 12,false,none,iCall (.c (.func (.func 18) [] [])) [(.t 11)]⟩,
 ⟨some 10,false,none,iMov (.t 12)⟩,
 ⟨some 13,false,none,iExtract 0 (.t 10)⟩,
 ⟨some 14,false,none,iExtract 1 (.t 10)⟩,
 ⟨some 8,true,none,iAlloc 52 [.nilslice,(.int .i64 (.lit 0)),(.int .i64 (.lit 0)),(.int .i64 (.lit 0)),(.int .i64 (.lit 0)),(.int .i64 (.lit 0)),(.int .i64 (.lit 0)),(.int .i64 (.lit 0)),(.int .i64 (.lit 0)),(.int .i64 (.lit 0)),(.int .i64 (.lit 0)),(.int .i64 (.lit 0)),.nilslice,.nilmap]⟩,
 ⟨none,false,none,iStore 14 (.t 8) (.t 13)⟩,
 ⟨some 9,true,none,iMov (.t 14)⟩])
 (cSeq (cSeq (cOps [⟨some 15,false,none,iMov (.t 9)⟩,
 ⟨some 16,true,none,iCmp .neq (.t 15) (.c (.int .i64 (.lit 0)))⟩])
 (cCond (.t 16) (cSeq (cOps [⟨some 17,false,none,iBuild [.nilslice,(.int .i64 (.lit 0)),(.int .i64 (.lit 0)),(.int .i64 (.lit 0)),(.int .i64 (.lit 0)),(.int .i64 (.lit 0)),(.int .i64 (.lit 0)),(.int .i64 (.lit 0)),(.int .i64 (.lit 0)),(.int .i64 (.lit 0)),(.int .i64 (.lit 0)),(.int .i64 (.lit 0)),.nilslice,.nilmap] []⟩,
 ⟨some 18,false,none,iMov (.t 9)⟩,
 ⟨none,false,none,iStore 14 (.t 6) (.t 17)⟩,
 ⟨some 7,true,none,iMov (.t 18)⟩])
 cRet) cSkip))
 (cSeq (cSeq (cOps [⟨some 19,false,none,iLoadN 14 (.t 8)⟩,
 ⟨some 20,false,none,iFunc (.func 44) [(.t 19)] []⟩,
 ⟨some 21,false,none,iMov (.t 1)⟩,
 ⟨some 22,false,none,iBslice 29 [.nilslice] 1 [(0,1,(.t 21))]⟩,
 ⟨some 23,false,none,iCall (.c (.func (.func 50) [] [])) [(.t 20),(.t 22)]⟩,
 ⟨some 24,false,none,iNot (.t 23)⟩,
 ⟨some 25,false,none,iMov (.t 24)⟩,
 ⟨some 26,false,some (25,false),iMov (.t 2)⟩,
 ⟨some 27,false,some (25,false),iCall (.c (.func (.func 51) [] [])) [(.c (.func (.func 52) [] [])),(.t 26)]⟩,
 ⟨some 28,false,some (25,false),iNot (.t 27)⟩,
 ⟨some 29,true,none,iPick (.t 25) (.c (.bool (.lit true))) (.t 28)⟩])
 (cCond (.t 29) (cSeq (cOps [⟨some 30,false,none,iBuild [.nilslice,(.int .i64 (.lit 0)),(.int .i64 (.lit 0)),(.int .i64 (.lit 0)),(.int .i64 (.lit 0)),(.int .i64 (.lit 0)),(.int .i64 (.lit 0)),(.int .i64 (.lit 0)),(.int .i64 (.lit 0)),(.int .i64 (.lit 0)),(.int .i64 (.lit 0)),(.int .i64 (.lit 0)),.nilslice,.nilmap] []⟩,
 ⟨none,false,none,iStore 14 (.t 6) (.t 30)⟩,
 ⟨some 7,true,none,iMov (.c (.int .i64 (.lit 81)))⟩])
 cRet) cSkip))
 (cSeq (cOps [⟨some 31,false,none,iLoadN 14 (.t 8)⟩,
 ⟨none,false,none,iStore 14 (.t 6) (.t 31)⟩,
 ⟨some 7,true,none,iMov (.c (.int .i64 (.lit 0)))⟩])
 cRet))))),[.cell 6 true 14,.t 7]⟩
noncomputable def Tryd.kp34:List Nat:=[0,1,2,4]
noncomputable def Tryd.cf34:CF:=⟨2,(cSeq (cOps [⟨some 2,true,none,iBox 52 (.t 0)⟩,
 ⟨some 4,true,none,iMov (.c (.int .i64 (.lit 0)))⟩])
 (cSeq (cOps [⟨some 5,false,none,iLoadN 14 (.t 2)⟩,
 ⟨some 6,false,none,iCall (.c (.func (.func 47) [] [])) [(.t 5),(.c (.int .i64 (.lit 1))),(.c (.int .i64 (.lit 0)))]⟩,
 ⟨some 7,false,none,iMov (.t 1)⟩,
 ⟨some 8,false,none,iCall (.c (.func (.func 54) [] [])) [(.t 6),(.t 7)]⟩,
 ⟨some 9,false,none,iCall (.c (.func (.func 53) [] [])) [(.t 8)]⟩,
 ⟨some 4,true,none,iMov (.t 9)⟩])
 cRet)),[.t 4]⟩
noncomputable def Tryd.kp35:List Nat:=[0,1,2,4]
noncomputable def Tryd.cf35:CF:=⟨2,(cSeq (cOps [⟨some 2,true,none,iBox 52 (.t 0)⟩,
 ⟨some 4,true,none,iMov (.c (.int .i64 (.lit 0)))⟩])
 (cSeq (cOps [⟨some 5,false,none,iLoadN 14 (.t 2)⟩,
 ⟨some 6,false,none,iCall (.c (.func (.func 47) [] [])) [(.t 5),(.c (.int .i64 (.lit 0))),(.c (.int .i64 (.lit 1)))]⟩,
 ⟨some 7,false,none,iMov (.t 1)⟩,
 ⟨some 8,false,none,iCall (.c (.func (.func 54) [] [])) [(.t 6),(.t 7)]⟩,
 ⟨some 9,false,none,iCall (.c (.func (.func 53) [] [])) [(.t 8)]⟩,
 ⟨some 4,true,none,iMov (.t 9)⟩])
 cRet)),[.t 4]⟩
noncomputable def Tryd.kp36:List Nat:=[0,1,2,4,5,6,7,14,19]
noncomputable def Tryd.cf36:CF:=⟨2,(cSeq (cOps [⟨some 2,true,none,iBox 28 (.t 0)⟩,
 ⟨some 4,true,none,iAlloc 52 [.nilslice,(.int .i64 (.lit 0)),(.int .i64 (.lit 0)),(.int .i64 (.lit 0)),(.int .i64 (.lit 0)),(.int .i64 (.lit 0)),(.int .i64 (.lit 0)),(.int .i64 (.lit 0)),(.int .i64 (.lit 0)),(.int .i64 (.lit 0)),(.int .i64 (.lit 0)),(.int .i64 (.lit 0)),.nilslice,.nilmap]⟩,
 ⟨some 5,true,none,iMov (.c (.int .i64 (.lit 0)))⟩])
 (cSeq (cOps [⟨some 9,false,none,iLoadN 12 (.t 2)⟩,
 ⟨some 10,false,none,iCall (.c (.func (.func 18) [] [])) [(.t 9)]⟩,
 ⟨some 8,false,none,iMov (.t 10)⟩,
 ⟨some 11,false,none,iExtract 0 (.t 8)⟩,
 ⟨some 12,false,none,iExtract 1 (.t 8)⟩,
 ⟨some 6,true,none,iAlloc 52 [.nilslice,(.int .i64 (.lit 0)),(.int .i64 (.lit 0)),(.int .i64 (.lit 0)),(.int .i64 (.lit 0)),(.int .i64 (.lit 0)),(.int .i64 (.lit 0)),(.int .i64 (.lit 0)),(.int .i64 (.lit 0)),(.int .i64 (.lit 0)),(.int .i64 (.lit 0)),(.int .i64 (.lit 0)),.nilslice,.nilmap]⟩,
 ⟨none,false,none,iStore 14 (.t 6) (.t 11)⟩,
 ⟨some 7,true,none,iMov (.t 12)⟩])
 (cSeq (cSeq (cOps [⟨some 13,false,none,iMov (.t 7)⟩,
 ⟨some 14,true,none,iCmp .neq (.t 13) (.c (.int .i64 (.lit 0)))⟩])
 (cCond (.t 14) (cSeq (cOps [⟨some 15,false,none,iBuild [.nilslice,(.int .i64 (.lit 0)),(.int .i64 (.lit 0)),(.int .i64 (.lit 0)),(.int .i64 (.lit 0)),(.int .i64 (.lit 0)),(.int .i64 (.lit 0)),(.int .i64 (.lit 0)),(.int .i64 (.lit 0)),(.int .i64 (.lit 0)),(.int .i64 (.lit 0)),(.int .i64 (.lit 0)),.nilslice,.nilmap] []⟩,
 ⟨some 16,false,none,iMov (.t 7)⟩,
 ⟨none,false,none,iStore 14 (.t 4) (.t 15)⟩,
 ⟨some 5,true,none,iMov (.t 16)⟩])
 cRet) cSkip))
 (cSeq (cSeq (cOps [⟨some 17,false,none,iMov (.t 1)⟩,
 ⟨some 18,false,none,iCall (.c (.func (.func 52) [] [])) [(.t 17)]⟩,
 ⟨some 19,true,none,iNot (.t 18)⟩])
 (cCond (.t 19) (cSeq (cOps [⟨some 20,false,none,iBuild [.nilslice,(.int .i64 (.lit 0)),(.int .i64 (.lit 0)),(.int .i64 (.lit 0)),(.int .i64 (.lit 0)),(.int .i64 (.lit 0)),(.int .i64 (.lit 0)),(.int .i64 (.lit 0)),(.int .i64 (.lit 0)),(.int .i64 (.lit 0)),(.int .i64 (.lit 0)),(.int .i64 (.lit 0)),.nilslice,.nilmap] []⟩,
 ⟨none,false,none,iStore 14 (.t 4) (.t 20)⟩,
 ⟨some 5,true,none,iMov (.c (.int .i64 (.lit 81)))⟩])
 cRet) cSkip))
 (cSeq (cOps [⟨some 21,false,none,iLoadN 14 (.t 6)⟩,
 ⟨none,false,none,iStore 14 (.t 4) (.t 21)⟩,
 ⟨some 5,true,none,iMov (.c (.int .i64 (.lit 0)))⟩])
 cRet))))),[.cell 4 true 14,.t 5]⟩
noncomputable def Tryd.kp37:List Nat:=[0,1,2,3,4]
noncomputable def Tryd.cf37:CF:=⟨2,(cSeq (cOps [⟨some 2,true,none,iBox 78 (.t 0)⟩,
 ⟨some 3,true,none,iBox 78 (.t 1)⟩,
 ⟨some 4,true,none,iMov (.c (.bool (.lit false)))⟩])
 (cSeq (cOps [⟨some 5,false,none,iFaddr 0 (.t 2)⟩,
 ⟨some 6,false,none,iLoad (.t 5)⟩,
 ⟨some 7,false,none,iLenS (.t 6)⟩,
 ⟨some 8,false,none,iFaddr 0 (.t 3)⟩,
 ⟨some 9,false,none,iLoad (.t 8)⟩,
 ⟨some 10,false,none,iLenS (.t 9)⟩,
 ⟨some 11,false,none,iCmp .lss (.t 7) (.t 10)⟩,
 ⟨some 4,true,none,iMov (.t 11)⟩])
 cRet)),[.t 4]⟩
noncomputable def Tryd.kp38:List Nat:=[0,1,2,4,5,6,7,18]
noncomputable def Tryd.cf38:CF:=⟨2,(cSeq (cOps [⟨some 2,true,none,iBox 52 (.t 0)⟩,
 ⟨some 4,true,none,iMov (.c (.int .i64 (.lit 0)))⟩,
 ⟨some 5,true,none,iMov (.c (.int .i64 (.lit 0)))⟩])
 (cSeq (cOps [⟨some 8,false,none,iFaddr 0 (.t 2)⟩,
 ⟨some 9,false,none,iFaddr 11 (.t 8)⟩,
 ⟨none,false,none,iStore 1 (.t 9) (.c (.int .i64 (.lit 6)))⟩])
 (cSeq (cOps [⟨some 11,false,none,iLoadN 14 (.t 2)⟩,
 ⟨some 12,false,none,iMov (.t 1)⟩,
 ⟨some 13,false,none,iBuild [(.int .i64 (.lit 0)),.nilFunc] [(0,1,(.t 12)),(1,1,(.c (.func (.func 55) [] [])))]⟩,
 ⟨some 14,false,none,iCall (.c (.func (.func 19) [] [])) [(.t 11),(.t 13)]⟩,
 ⟨some 10,false,none,iMov (.t 14)⟩,
 ⟨some 15,false,none,iExtract 0 (.t 10)⟩,
 ⟨some 16,false,none,iExtract 1 (.t 10)⟩,
 ⟨some 6,true,none,iMov (.t 15)⟩,
 ⟨some 7,true,none,iMov (.t 16)⟩])
 (cSeq (cSeq (cOps [⟨some 17,false,none,iMov (.t 7)⟩,
 ⟨some 18,true,none,iCmp .neq (.t 17) (.c (.int .i64 (.lit 0)))⟩])
 (cCond (.t 18) (cSeq (cOps [⟨some 19,false,none,iMov (.t 7)⟩,
 ⟨some 4,true,none,iMov (.c (.int .i64 (.lit 0)))⟩,
 ⟨some 5,true,none,iMov (.t 19)⟩])
 cRet) cSkip))
 (cSeq (cOps [⟨some 20,false,none,iMov (.t 6)⟩,
 ⟨some 21,false,none,iCall (.c (.func (.func 56) [] [])) [(.t 20)]⟩,
 ⟨some 4,true,none,iMov (.t 21)⟩,
 ⟨some 5,true,none,iMov (.c (.int .i64 (.lit 0)))⟩])
 cRet))))),[.t 4,.t 5]⟩
noncomputable def Tryd.ra39017:C:=(cOps [⟨some 6,true,none,iMov (.t 17)⟩])
noncomputable def Tryd.rb39017:C:=(cBlock 1 (cSeq (cOps [⟨some 18,false,none,iMov (.t 6)⟩,
 ⟨some 19,false,none,iCall (.c (.func (.func 42) [] [])) [(.t 18)]⟩,
 ⟨none,false,none,iStore 1 (.t 2) (.t 19)⟩,
 ⟨none,false,none,iStore 1 (.t 3) (.c (.int .i64 (.lit 0)))⟩])
 cRet))
noncomputable def Tryd.kp39:List Nat:=[0,1,2,3,4,5,6,13,16,17]
noncomputable def Tryd.cf39:CF:=⟨1,(cSeq (cOps [⟨some 1,true,none,iBox 26 (.t 0)⟩,
 ⟨some 2,true,none,iAlloc 29 [.nilslice]⟩,
 ⟨some 3,true,none,iAlloc 30 [(.int .i64 (.lit 0))]⟩])
 (cSeq (cOps [⟨some 8,false,none,iLoadN 6 (.t 1)⟩,
 ⟨some 9,false,none,iCall (.c (.func (.func 57) [] [])) [(.t 8)]⟩,
 ⟨some 7,false,none,iMov (.t 9)⟩,
 ⟨some 10,false,none,iExtract 0 (.t 7)⟩,
 ⟨some 11,false,none,iExtract 1 (.t 7)⟩,
 ⟨some 4,true,none,iAlloc 98 [.nilslice,(.int .i64 (.lit 0)),(.int .i64 (.lit 0)),(.int .i64 (.lit 0)),(.int .i64 (.lit 0)),(.int .i64 (.lit 0)),.nilmap]⟩,
 ⟨none,false,none,iStore 7 (.t 4) (.t 10)⟩,
 ⟨some 5,true,none,iMov (.t 11)⟩])
 (cSeq (cSeq (cOps [⟨some 12,false,none,iMov (.t 5)⟩,
 ⟨some 13,true,none,iCmp .neq (.t 12) (.c (.int .i64 (.lit 0)))⟩])
 (cCond (.t 13) (cSeq (cOps [⟨some 14,false,none,iMov (.t 5)⟩,
 ⟨none,false,none,iStore 1 (.t 2) (.c .nilslice)⟩,
 ⟨none,false,none,iStore 1 (.t 3) (.t 14)⟩])
 cRet) cSkip))
 (cSeq (cSeq (cOps [⟨some 15,false,none,iLoadN 7 (.t 4)⟩,
 ⟨some 16,true,none,iCall (.c (.func (.func 58) [] [])) [(.t 15)]⟩])
 (cBlock 0 (cRange (.t 16) [17] 39017)))
 (cSeq (cOps [⟨none,false,none,iStore 1 (.t 2) (.c .nilslice)⟩,
 ⟨none,false,none,iStore 1 (.t 3) (.c (.int .i64 (.lit 4)))⟩])
 cRet))))),[.cell 2 false 1,.cell 3 false 1]⟩
noncomputable def Tryd.kp40:List Nat:=[0,1,2,3,4,5,6,11,12,13,21,27,28,29,37]
noncomputable def Tryd.cf40:CF:=⟨1,(cSeq (cOps [⟨some 1,true,none,iBox 28 (.t 0)⟩,
 ⟨some 2,true,none,iMov (.c (.bool (.lit false)))⟩])
 (cSeq (cSeq (cOps [⟨some 7,false,none,iFaddr 6 (.t 1)⟩,
 ⟨some 8,false,none,iLoad (.t 7)⟩,
 ⟨some 9,false,none,iFaddr 11 (.t 1)⟩,
 ⟨some 10,false,none,iLoad (.t 9)⟩,
 ⟨some 11,true,none,iBuild [(.int .i64 (.lit 0)),(.int .i64 (.lit 0))] [(0,1,(.t 8)),(1,1,(.t 10))]⟩,
 ⟨some 12,true,none,iMov (.c (.int .i64 (.lit 0)))⟩])
 (cBlock 0 (cLoop (cSeq (cOps [⟨some 13,true,none,iCmp .lss (.t 12) (.c (.int .i64 (.lit 2)))⟩])
 (cSeq (cCond (.t 13) cSkip (cExit 0))
 (cSeq (cBlock 1 (cSeq (cOps [⟨some 14,false,none,iMov (.t 12)⟩,
 ⟨some 15,false,none,iIndex false 1 2 (.t 11) (.t 12)⟩,
 ⟨some 3,true,none,iMov (.t 14)⟩,
 ⟨some 4,true,none,iMov (.t 15)⟩])
 (cSeq (cOps [⟨some 16,false,none,iMov (.t 4)⟩,
 ⟨some 17,false,none,iMov (.t 3)⟩,
 ⟨some 18,false,none,iIaddrA 2 2 (.c (.ptr 0 0)) (.t 17)⟩,
 ⟨some 19,false,none,iLoadN 2 (.t 18)⟩,
 ⟨some 20,false,none,iCall (.c (.func (.func 59) [] [])) [(.t 16),(.t 19)]⟩,
 ⟨some 21,true,none,iNot (.t 20)⟩])
 (cCond (.t 21) (cSeq (cOps [⟨some 2,true,none,iMov (.c (.bool (.lit false)))⟩])
 cRet) cSkip))))
 (cOps [⟨some 22,false,none,iArith .add (.t 12) (.c (.int .i64 (.lit 1)))⟩,
 ⟨some 12,true,none,iMov (.t 22)⟩])))))))
 (cSeq (cSeq (cOps [⟨some 23,false,none,iFaddr 7 (.t 1)⟩,
 ⟨some 24,false,none,iLoadN 2 (.t 23)⟩,
 ⟨some 25,false,none,iFaddr 9 (.t 1)⟩,
 ⟨some 26,false,none,iLoadN 2 (.t 25)⟩,
 ⟨some 27,true,none,iBuild [(.int .i64 (.lit 0)),(.int .i64 (.lit 0)),(.int .i64 (.lit 0)),(.int .i64 (.lit 0))] [(0,2,(.t 24)),(2,2,(.t 26))]⟩,
 ⟨some 28,true,none,iMov (.c (.int .i64 (.lit 0)))⟩])
 (cBlock 2 (cLoop (cSeq (cOps [⟨some 29,true,none,iCmp .lss (.t 28) (.c (.int .i64 (.lit 2)))⟩])
 (cSeq (cCond (.t 29) cSkip (cExit 2))
 (cSeq (cBlock 3 (cSeq (cOps [⟨some 30,false,none,iMov (.t 28)⟩,
 ⟨some 31,false,none,iIndex true 2 2 (.t 27) (.t 28)⟩,
 ⟨some 6,true,none,iAlloc 24 [(.int .i64 (.lit 0)),(.int .i64 (.lit 0))]⟩,
 ⟨some 5,true,none,iMov (.t 30)⟩,
 ⟨none,false,none,iStore 2 (.t 6) (.t 31)⟩])
 (cSeq (dOps 0 [⟨⟨some 32,false,none,iLoadN 2 (.t 6)⟩,[6],false,0,0,none,[]⟩,
 ⟨⟨some 33,false,none,iMov (.t 5)⟩,[5],false,0,0,none,[]⟩,
 ⟨⟨some 34,false,none,iIaddrA 2 2 (.c (.ptr 1 0)) (.t 33)⟩,[33],false,0,0,none,[]⟩,
 ⟨⟨some 35,false,none,iLoadN 2 (.t 34)⟩,[34],false,0,0,none,[]⟩,
 ⟨⟨some 36,false,none,iCall (.c (.func (.func 60) [] [])) [(.t 32),(.t 35)]⟩,[32,35],true,0,0,none,[]⟩,
 ⟨⟨some 37,true,none,iNot (.t 36)⟩,[36],false,1,1,none,[]⟩])
 (cCond (.t 37) (cSeq (cOps [⟨some 2,true,none,iMov (.c (.bool (.lit false)))⟩])
 cRet) cSkip))))
 (cOps [⟨some 38,false,none,iArith .add (.t 28) (.c (.int .i64 (.lit 1)))⟩,
 ⟨some 28,true,none,iMov (.t 38)⟩])))))))
 (cSeq (cOps [⟨some 2,true,none,iMov (.c (.bool (.lit true)))⟩])
 cRet)))),[.t 2]⟩
noncomputable def Tryd.kp41:List Nat:=[0,1,2]
noncomputable def Tryd.cf41:CF:=⟨1,(cSeq (cOps [⟨some 1,true,none,iBox 52 (.t 0)⟩,
 ⟨some 2,true,none,iMov (.c .nilFunc)⟩])
 (cSeq (cOps [⟨some 3,false,none,iFunc (.func 61) [] [(.t 1)]⟩,
 ⟨some 2,true,none,iMov (.t 3)⟩])
 cRet)),[.t 2]⟩
noncomputable def Tryd.kp42:List Nat:=[0,2,4]
noncomputable def Tryd.cf42:CF:=⟨1,(cSeq (cOps [⟨some 2,true,none,iMov (.c .nilslice)⟩])
 (cSeq (cSeq (cOps [⟨some 3,false,none,iMov (.t 0)⟩,
 ⟨some 4,true,none,iEq false false 1 [(0,.nilS)] (.t 3) (.c .nilslice)⟩])
 (cCond (.t 4) (cSeq (cOps [⟨some 2,true,none,iMov (.c .nilslice)⟩])
 cRet) cSkip))
 (cSeq (cOps [⟨some 5,false,none,iBslice 3 [(.int .i64 (.lit 0))] 0 []⟩,
 ⟨some 6,false,none,iMov (.t 0)⟩,
 ⟨some 7,false,none,iAppend 3 1 8 (.t 5) (.t 6)⟩,
 ⟨some 2,true,none,iMov (.t 7)⟩])
 cRet))),[.t 2]⟩
noncomputable def Tryd.kp43:List Nat:=[0,1,2,4,5,6,16,18,19,20,21,26,32,33,34,42]
noncomputable def Tryd.cf43:CF:=⟨1,(cSeq (cOps [⟨some 1,true,none,iBox 26 (.t 0)⟩,
 ⟨some 2,true,none,iMov (.c (.bool (.lit false)))⟩])
 (cSeq (cSeq (cOps [⟨some 7,false,none,iFaddr 0 (.t 1)⟩,
 ⟨some 8,false,none,iLoad (.t 7)⟩,
 ⟨some 9,false,none,iLenS (.t 8)⟩,
 ⟨some 10,false,none,iCmp .lss (.t 9) (.c (.int .i64 (.lit 1)))⟩,
 ⟨some 11,false,none,iMov (.t 10)⟩,
 ⟨some 12,false,some (11,false),iFaddr 0 (.t 1)⟩,
 ⟨some 13,false,some (11,false),iLoad (.t 12)⟩,
 ⟨some 14,false,some (11,false),iLenS (.t 13)⟩,
 ⟨some 15,false,some (11,false),iCmp .gtr (.t 14) (.c (.int .i64 (.lit 6)))⟩,
 ⟨some 16,true,none,iPick (.t 11) (.c (.bool (.lit true))) (.t 15)⟩])
 (cCond (.t 16) (cSeq (cOps [⟨some 2,true,none,iMov (.c (.bool (.lit false)))⟩])
 cRet) cSkip))
 (cSeq (cSeq (cOps [⟨some 17,false,none,iFaddr 0 (.t 1)⟩,
 ⟨some 18,true,none,iLoad (.t 17)⟩,
 ⟨some 19,true,none,iLenS (.t 18)⟩,
 ⟨some 20,true,none,iMov (.c (.int .i64 (.lit 0)))⟩])
 (cBlock 0 (cLoop (cSeq (cOps [⟨some 21,true,none,iCmp .lss (.t 20) (.t 19)⟩])
 (cSeq (cCond (.t 21) cSkip (cExit 0))
 (cSeq (cBlock 1 (cSeq (cOps [⟨some 22,false,none,iIaddr 6 (.t 18) (.t 20)⟩,
 ⟨some 23,false,none,iLoadN 6 (.t 22)⟩,
 ⟨some 4,true,none,iAlloc 107 [(.int .i64 (.lit 0)),(.int .i64 (.lit 0)),(.int .i64 (.lit 0)),(.int .i64 (.lit 0)),(.int .i64 (.lit 0)),(.int .i64 (.lit 0))]⟩,
 ⟨none,false,none,iStore 6 (.t 4) (.t 23)⟩])
 (cSeq (cOps [⟨some 24,false,none,iLoadN 6 (.t 4)⟩,
 ⟨some 25,false,none,iCall (.c (.func (.func 63) [] [])) [(.t 24)]⟩,
 ⟨some 26,true,none,iNot (.t 25)⟩])
 (cCond (.t 26) (cSeq (cOps [⟨some 2,true,none,iMov (.c (.bool (.lit false)))⟩])
 cRet) cSkip))))
 (cOps [⟨some 27,false,none,iArith .add (.t 20) (.c (.int .i64 (.lit 1)))⟩,
 ⟨some 20,true,none,iMov (.t 27)⟩])))))))
 (cSeq (cSeq (cOps [⟨some 28,false,none,iFaddr 1 (.t 1)⟩,
 ⟨some 29,false,none,iLoadN 2 (.t 28)⟩,
 ⟨some 30,false,none,iFaddr 3 (.t 1)⟩,
 ⟨some 31,false,none,iLoadN 2 (.t 30)⟩,
 ⟨some 32,true,none,iBuild [(.int .i64 (.lit 0)),(.int .i64 (.lit 0)),(.int .i64 (.lit 0)),(.int .i64 (.lit 0))] [(0,2,(.t 29)),(2,2,(.t 31))]⟩,
 ⟨some 33,true,none,iMov (.c (.int .i64 (.lit 0)))⟩])
 (cBlock 2 (cLoop (cSeq (cOps [⟨some 34,true,none,iCmp .lss (.t 33) (.c (.int .i64 (.lit 2)))⟩])
 (cSeq (cCond (.t 34) cSkip (cExit 2))
 (cSeq (cBlock 3 (cSeq (cOps [⟨some 35,false,none,iMov (.t 33)⟩,
 ⟨some 36,false,none,iIndex true 2 2 (.t 32) (.t 33)⟩,
 ⟨some 6,true,none,iAlloc 24 [(.int .i64 (.lit 0)),(.int .i64 (.lit 0))]⟩,
 ⟨some 5,true,none,iMov (.t 35)⟩,
 ⟨none,false,none,iStore 2 (.t 6) (.t 36)⟩])
 (cSeq (dOps 0 [⟨⟨some 37,false,none,iLoadN 2 (.t 6)⟩,[6],false,0,0,none,[]⟩,
 ⟨⟨some 38,false,none,iMov (.t 5)⟩,[5],false,0,0,none,[]⟩,
 ⟨⟨some 39,false,none,iIaddrA 2 2 (.c (.ptr 2 0)) (.t 38)⟩,[38],false,0,0,none,[]⟩,
 ⟨⟨some 40,false,none,iLoadN 2 (.t 39)⟩,[39],false,0,0,none,[]⟩,
 ⟨⟨some 41,false,none,iCall (.c (.func (.func 64) [] [])) [(.t 37),(.t 40)]⟩,[37,40],true,0,0,none,[]⟩,
 ⟨⟨some 42,true,none,iNot (.t 41)⟩,[41],false,1,1,none,[]⟩])
 (cCond (.t 42) (cSeq (cOps [⟨some 2,true,none,iMov (.c (.bool (.lit false)))⟩])
 cRet) cSkip))))
 (cOps [⟨some 43,false,none,iArith .add (.t 33) (.c (.int .i64 (.lit 1)))⟩,
 ⟨some 33,true,none,iMov (.t 43)⟩])))))))
 (cSeq (cOps [⟨some 44,false,none,iFaddr 5 (.t 1)⟩,
 ⟨some 45,false,none,iLoad (.t 44)⟩,
 ⟨some 46,false,none,iCmp .geq (.t 45) (.c (.int .i64 (.lit 1)))⟩,
 ⟨some 47,false,none,iMov (.t 46)⟩,
 ⟨some 48,false,some (47,true),iFaddr 5 (.t 1)⟩,
 ⟨some 49,false,some (47,true),iLoad (.t 48)⟩,
 ⟨some 50,false,some (47,true),iCmp .leq (.t 49) (.c (.int .i64 (.lit 6000)))⟩,
 ⟨some 51,false,none,iPick (.t 47) (.t 50) (.c (.bool (.lit false)))⟩,
 ⟨some 2,true,none,iMov (.t 51)⟩])
 cRet))))),[.t 2]⟩
noncomputable def Tryd.kp44:List Nat:=[0,1,2,4,5,7,11,12,13,14,25]
noncomputable def Tryd.cf44:CF:=⟨2,(cSeq (cOps [⟨some 2,true,none,iBox 52 (.t 0)⟩,
 ⟨some 4,true,none,iMov (.c (.bool (.lit false)))⟩])
 (cSeq (cOps [⟨some 8,false,none,iFaddr 12 (.t 2)⟩,
 ⟨some 9,false,none,iLoad (.t 8)⟩,
 ⟨some 10,false,none,iLenS (.t 9)⟩,
 ⟨some 5,true,none,iMov (.t 10)⟩])
 (cSeq (cSeq (cOps [⟨some 11,true,none,iMov (.t 1)⟩,
 ⟨some 12,true,none,iLenS (.t 11)⟩,
 ⟨some 13,true,none,iMov (.c (.int .i64 (.lit 0)))⟩])
 (cBlock 0 (cLoop (cSeq (cOps [⟨some 14,true,none,iCmp .lss (.t 13) (.t 12)⟩])
 (cSeq (cCond (.t 14) cSkip (cExit 0))
 (cSeq (cBlock 1 (cSeq (cOps [⟨some 15,false,none,iIaddr 1 (.t 11) (.t 13)⟩,
 ⟨some 16,false,none,iLoad (.t 15)⟩,
 ⟨some 7,true,none,iMov (.t 16)⟩])
 (cSeq (cSeq (cOps [⟨some 17,false,none,iMov (.t 7)⟩,
 ⟨some 18,false,none,iCmp .lss (.t 17) (.c (.int .i64 (.lit 1)))⟩,
 ⟨some 19,false,none,iMov (.t 18)⟩,
 ⟨some 20,false,some (19,false),iMov (.t 7)⟩,
 ⟨some 21,false,some (19,false),iFaddr 0 (.t 2)⟩,
 ⟨some 22,false,some (19,false),iFaddr 11 (.t 21)⟩,
 ⟨some 23,false,some (19,false),iLoad (.t 22)⟩,
 ⟨some 24,false,some (19,false),iCmp .gtr (.t 20) (.t 23)⟩,
 ⟨some 25,true,none,iPick (.t 19) (.c (.bool (.lit true))) (.t 24)⟩])
 (cCond (.t 25) (cSeq (cOps [⟨some 4,true,none,iMov (.c (.bool (.lit false)))⟩])
 cRet) cSkip))
 (cOps [⟨some 26,false,none,iMov (.t 5)⟩,
 ⟨some 27,false,none,iMov (.t 7)⟩,
 ⟨some 28,false,none,iArith .sub (.t 26) (.t 27)⟩,
 ⟨some 5,true,none,iMov (.t 28)⟩]))))
 (cOps [⟨some 29,false,none,iArith .add (.t 13) (.c (.int .i64 (.lit 1)))⟩,
 ⟨some 13,true,none,iMov (.t 29)⟩])))))))
 (cSeq (cOps [⟨some 30,false,none,iMov (.t 5)⟩,
 ⟨some 31,false,none,iCmp .eql (.t 30) (.c (.int .i64 (.lit 0)))⟩,
 ⟨some 4,true,none,iMov (.t 31)⟩])
 cRet)))),[.t 4]⟩
noncomputable def Tryd.kp45:List Nat:=[0,2,3,4,11]
noncomputable def Tryd.cf45:CF:=⟨1,(cSeq (cOps [⟨some 2,true,none,iAlloc 26 [.nilslice,(.int .i64 (.lit 0)),(.int .i64 (.lit 0)),(.int .i64 (.lit 0)),(.int .i64 (.lit 0)),(.int .i64 (.lit 0))]⟩])
 (cSeq (cOps [⟨some 5,false,none,iCall (.c (.func (.func 17) [] [])) [(.c (.int .i64 (.lit 6))),(.c (.int .i64 (.lit 8)))]⟩,
 ⟨some 6,false,none,iCall (.c (.func (.func 17) [] [])) [(.c (.int .i64 (.lit 1))),(.c (.int .i64 (.lit 3)))]⟩,
 ⟨some 7,false,none,iBuild [.nilslice,(.int .i64 (.lit 0)),(.int .i64 (.lit 0)),(.int .i64 (.lit 0)),(.int .i64 (.lit 0)),(.int .i64 (.lit 0))] [(1,2,(.t 5)),(3,2,(.t 6)),(5,1,(.c (.int .i64 (.lit 2000))))]⟩,
 ⟨some 3,true,none,iAlloc 26 [.nilslice,(.int .i64 (.lit 0)),(.int .i64 (.lit 0)),(.int .i64 (.lit 0)),(.int .i64 (.lit 0)),(.int .i64 (.lit 0))]⟩,
 ⟨none,false,none,iStore 6 (.t 3) (.t 7)⟩])
 (cSeq (cSeq (cOps [⟨some 4,true,none,iMov (.c (.int .i64 (.lit 0)))⟩])
 (cBlock 0 (cLoop (cSeq (cSeq (cOps [⟨some 8,false,none,iMov (.t 4)⟩,
 ⟨some 9,false,none,iMov (.t 0)⟩,
 ⟨some 10,false,none,iLenS (.t 9)⟩,
 ⟨some 11,true,none,iCmp .lss (.t 8) (.t 10)⟩])
 (cCond (.t 11) cSkip (cExit 0)))
 (cSeq (cBlock 1 (dOps 0 [⟨⟨some 14,false,none,iFaddr 0 (.t 3)⟩,[3],false,0,4,none,[]⟩,
 ⟨⟨some 15,false,none,iLoad (.t 14)⟩,[14],false,0,4,none,[]⟩,
 ⟨⟨some 16,false,none,iMov (.t 4)⟩,[4],false,0,0,none,[]⟩,
 ⟨⟨some 17,false,none,iArith .mul (.c (.int .i64 (.lit 4))) (.t 16)⟩,[16],false,0,0,none,[]⟩,
 ⟨⟨some 18,false,none,iArith .add (.t 17) (.c (.int .i64 (.lit 1)))⟩,[17],false,0,0,none,[]⟩,
 ⟨⟨some 19,false,none,iCall (.c (.func (.func 46) [] [])) [(.t 18)]⟩,[18],true,0,0,none,[]⟩,
 ⟨⟨some 20,false,none,iMov (.t 4)⟩,[4],false,0,1,none,[]⟩,
 ⟨⟨some 21,false,none,iArith .mul (.c (.int .i64 (.lit 4))) (.t 20)⟩,[20],false,0,1,none,[]⟩,
 ⟨⟨some 22,false,none,iArith .add (.t 21) (.c (.int .i64 (.lit 4)))⟩,[21],false,0,1,none,[]⟩,
 ⟨⟨some 23,false,none,iCall (.c (.func (.func 46) [] [])) [(.t 22)]⟩,[22],true,1,0,none,[]⟩,
 ⟨⟨some 24,false,none,iMov (.t 0)⟩,[0],false,0,2,none,[]⟩,
 ⟨⟨some 25,false,none,iMov (.t 4)⟩,[4],false,0,2,none,[]⟩,
 ⟨⟨some 26,false,none,iIaddr 1 (.t 24) (.t 25)⟩,[24,25],false,0,2,none,[]⟩,
 ⟨⟨some 27,false,none,iLoad (.t 26)⟩,[26],false,0,2,none,[]⟩,
 ⟨⟨some 28,false,none,iCall (.c (.func (.func 46) [] [])) [(.t 27)]⟩,[27],true,2,0,none,[]⟩,
 ⟨⟨some 29,false,none,iBuild [(.int .i64 (.lit 0)),(.int .i64 (.lit 0)),(.int .i64 (.lit 0)),(.int .i64 (.lit 0)),(.int .i64 (.lit 0)),(.int .i64 (.lit 0))] [(0,2,(.t 19)),(2,2,(.t 23)),(4,2,(.t 28))]⟩,[19,23,28],false,3,3,none,[]⟩,
 ⟨⟨some 30,false,none,iBslice 107 [(.int .i64 (.lit 0)),(.int .i64 (.lit 0)),(.int .i64 (.lit 0)),(.int .i64 (.lit 0)),(.int .i64 (.lit 0)),(.int .i64 (.lit 0))] 1 [(0,6,(.t 29))]⟩,[29],true,3,0,none,[]⟩,
 ⟨⟨some 31,false,none,iAppend 107 6 48 (.t 15) (.t 30)⟩,[15,30],true,4,0,none,[]⟩,
 ⟨⟨some 32,false,none,iFaddr 0 (.t 3)⟩,[3],false,5,5,none,[]⟩,
 ⟨⟨none,false,none,iStore 1 (.t 32) (.t 31)⟩,[32,31],true,5,0,none,[]⟩]))
 (cOps [⟨some 12,false,none,iMov (.t 4)⟩,
 ⟨some 13,false,none,iArith .add (.t 12) (.c (.int .i64 (.lit 1)))⟩,
 ⟨some 4,true,none,iMov (.t 13)⟩]))))))
 (cSeq (cOps [⟨some 33,false,none,iLoadN 6 (.t 3)⟩,
 ⟨none,false,none,iStore 6 (.t 2) (.t 33)⟩])
 cRet)))),[.cell 2 true 6]⟩
noncomputable def Tryd.kp46:List Nat:=[0,2]
noncomputable def Tryd.cf46:CF:=⟨1,(cSeq (cOps [⟨some 2,true,none,iAlloc 24 [(.int .i64 (.lit 0)),(.int .i64 (.lit 0))]⟩])
 (cSeq (cOps [⟨some 3,false,none,iMov (.t 0)⟩,
 ⟨some 4,false,none,iMov (.t 0)⟩,
 ⟨some 5,false,none,iCall (.c (.func (.func 17) [] [])) [(.t 3),(.t 4)]⟩,
 ⟨none,false,none,iStore 2 (.t 2) (.t 5)⟩])
 cRet)),[.cell 2 true 2]⟩
noncomputable def Tryd.kp47:List Nat:=[0,1,2,3,6,7]
noncomputable def Tryd.cf47:CF:=⟨3,(cSeq (cOps [⟨some 3,true,none,iBox 52 (.t 0)⟩,
 ⟨some 6,true,none,iAlloc 90 [.nilslice,(.int .i64 (.lit 0)),(.int .i64 (.lit 0)),(.int .i64 (.lit 0)),(.int .i64 (.lit 0)),(.int .i64 (.lit 0)),(.int .i64 (.lit 0)),(.int .i64 (.lit 0)),(.int .i64 (.lit 0)),(.int .i64 (.lit 0)),(.int .i64 (.lit 0)),(.int .i64 (.lit 0)),.nilslice,.nilmap,.nilFunc,.nilFunc]⟩])
 (cSeq (cOps [⟨some 8,false,none,iBuild [.nilFunc,.nilFunc] [(0,1,(.c (.func (.func 65) [] []))),(1,1,(.c (.func (.func 66) [] [])))]⟩,
 ⟨some 7,true,none,iAlloc 88 [.nilFunc,.nilFunc]⟩,
 ⟨none,false,none,iStore 2 (.t 7) (.t 8)⟩])
 (cSeq (dOps 0 [⟨⟨some 9,false,none,iLoadN 14 (.t 3)⟩,[3],false,0,0,none,[]⟩,
 ⟨⟨some 10,false,none,iMov (.t 1)⟩,[1],false,0,0,none,[]⟩,
 ⟨⟨some 11,false,none,iIaddrA 1 2 (.t 7) (.t 10)⟩,[7,10],false,0,0,none,[]⟩,
 ⟨⟨some 12,false,none,iLoad (.t 11)⟩,[11],false,0,0,none,[]⟩,
 ⟨⟨some 13,false,none,iMov (.t 2)⟩,[2],false,0,0,none,[]⟩,
 ⟨⟨some 14,false,none,iIaddrA 1 2 (.t 7) (.t 13)⟩,[7,13],false,0,0,none,[]⟩,
 ⟨⟨some 15,false,none,iLoad (.t 14)⟩,[14],false,0,0,none,[]⟩,
 ⟨⟨some 16,false,none,iBuild [.nilFunc,.nilFunc] [(0,1,(.t 12)),(1,1,(.t 15))]⟩,[12,15],false,0,0,none,[]⟩,
 ⟨⟨some 17,false,none,iBuild [.nilslice,(.int .i64 (.lit 0)),(.int .i64 (.lit 0)),(.int .i64 (.lit 0)),(.int .i64 (.lit 0)),(.int .i64 (.lit 0)),(.int .i64 (.lit 0)),(.int .i64 (.lit 0)),(.int .i64 (.lit 0)),(.int .i64 (.lit 0)),(.int .i64 (.lit 0)),(.int .i64 (.lit 0)),.nilslice,.nilmap,.nilFunc,.nilFunc] [(0,14,(.t 9)),(14,2,(.t 16))]⟩,[9,16],false,0,0,none,[]⟩,
 ⟨⟨none,false,none,iStore 16 (.t 6) (.t 17)⟩,[6,17],true,0,0,none,[]⟩])
 cRet))),[.cell 6 true 16]⟩
noncomputable def Tryd.kp48:List Nat:=[0,1,2,4,5,6,8,9,10,11,12,13,34,35,36]
noncomputable def Tryd.cf48:CF:=⟨2,(cSeq (cOps [⟨some 2,true,none,iBox 90 (.t 0)⟩,
 ⟨some 4,true,none,iMov (.c .nilslice)⟩])
 (cSeq (cOps [⟨some 5,true,none,iMov (.c (.int .i64 (.lit 0)))⟩,
 ⟨some 6,true,none,iMov (.c (.int .i64 (.lit 0)))⟩])
 (cSeq (cSeq (cOps [⟨some 10,true,none,iMov (.t 1)⟩,
 ⟨some 11,true,none,iLenS (.t 10)⟩,
 ⟨some 12,true,none,iMov (.c (.int .i64 (.lit 0)))⟩])
 (cBlock 0 (cLoop (cSeq (cOps [⟨some 13,true,none,iCmp .lss (.t 12) (.t 11)⟩])
 (cSeq (cCond (.t 13) cSkip (cExit 0))
 (cSeq (cBlock 1 (cSeq (cOps [⟨some 14,false,none,iIaddr 1 (.t 10) (.t 12)⟩,
 ⟨some 15,false,none,iLoad (.t 14)⟩,
 ⟨some 8,true,none,iMov (.t 15)⟩])
 (cSeq (cOps [⟨some 16,false,none,iMov (.t 6)⟩,
 ⟨some 17,false,none,iMov (.t 8)⟩,
 ⟨some 18,false,none,iArith .add (.t 16) (.t 17)⟩,
 ⟨some 6,true,none,iMov (.t 18)⟩])
 (cSeq (dOps 0 [⟨⟨some 19,false,none,iMov (.t 5)⟩,[5],false,0,3,none,[]⟩,
 ⟨⟨some 20,false,none,iLoadN 16 (.t 2)⟩,[2],false,0,1,none,[]⟩,
 ⟨⟨some 21,false,none,iLoadN 16 (.t 2)⟩,[2],false,0,0,none,[]⟩,
 ⟨⟨some 22,false,none,iMov (.t 6)⟩,[6],false,0,0,none,[]⟩,
 ⟨⟨some 23,false,none,iCall (.c (.func (.func 69) [] [])) [(.t 21),(.t 22)]⟩,[21,22],true,0,0,none,[]⟩,
 ⟨⟨some 24,false,none,iCall (.c (.func (.func 68) [] [])) [(.t 20),(.t 23),(.c (.int .i64 (.lit 0)))]⟩,[20,23],true,1,0,none,[]⟩,
 ⟨⟨some 25,false,none,iBslice 3 [(.int .i64 (.lit 0))] 1 [(0,1,(.t 24))]⟩,[24],true,2,0,none,[]⟩,
 ⟨⟨some 26,false,none,iCall (.c (.func (.func 67) [] [])) [(.t 19),(.t 25)]⟩,[19,25],true,3,0,none,[]⟩,
 ⟨⟨some 27,false,none,iLoadN 16 (.t 2)⟩,[2],false,0,4,none,[]⟩,
 ⟨⟨some 28,false,none,iFaddr 0 (.t 2)⟩,[2],false,0,4,none,[]⟩,
 ⟨⟨some 29,false,none,iFaddr 0 (.t 28)⟩,[28],false,0,4,none,[]⟩,
 ⟨⟨some 30,false,none,iFaddr 7 (.t 29)⟩,[29],false,0,4,none,[]⟩,
 ⟨⟨some 31,false,none,iLoadN 2 (.t 30)⟩,[30],false,0,4,none,[]⟩,
 ⟨⟨some 32,false,none,iCall (.c (.func (.func 70) [] [])) [(.t 27),(.t 31)]⟩,[27,31],true,4,0,none,[]⟩,
 ⟨⟨some 33,false,none,iArith .add (.t 26) (.t 32)⟩,[26,32],false,5,5,none,[]⟩,
 ⟨⟨some 9,true,none,iMov (.t 33)⟩,[33],false,5,5,none,[]⟩])
 (cSeq (cSeq (cOps [⟨some 34,true,none,iMov (.t 8)⟩,
 ⟨some 35,true,none,iMov (.c (.int .i64 (.lit 0)))⟩])
 (cBlock 2 (cLoop (cSeq (cOps [⟨some 36,true,none,iCmp .lss (.t 35) (.t 34)⟩])
 (cSeq (cCond (.t 36) cSkip (cExit 2))
 (cSeq (cBlock 3 (cOps [⟨some 37,false,none,iMov (.t 4)⟩,
 ⟨some 38,false,none,iMov (.t 9)⟩,
 ⟨some 39,false,none,iBslice 3 [(.int .i64 (.lit 0))] 1 [(0,1,(.t 38))]⟩,
 ⟨some 40,false,none,iAppend 3 1 8 (.t 37) (.t 39)⟩,
 ⟨some 4,true,none,iMov (.t 40)⟩]))
 (cOps [⟨some 41,false,none,iArith .add (.t 35) (.c (.int .i64 (.lit 1)))⟩,
 ⟨some 35,true,none,iMov (.t 41)⟩])))))))
 (cOps [⟨some 42,false,none,iMov (.t 9)⟩,
 ⟨some 43,false,none,iLoadN 16 (.t 2)⟩,
 ⟨some 44,false,none,iFaddr 0 (.t 2)⟩,
 ⟨some 45,false,none,iFaddr 0 (.t 44)⟩,
 ⟨some 46,false,none,iFaddr 9 (.t 45)⟩,
 ⟨some 47,false,none,iLoadN 2 (.t 46)⟩,
 ⟨some 48,false,none,iCall (.c (.func (.func 70) [] [])) [(.t 43),(.t 47)]⟩,
 ⟨some 49,false,none,iArith .add (.t 42) (.t 48)⟩,
 ⟨some 5,true,none,iMov (.t 49)⟩]))))))
 (cOps [⟨some 50,false,none,iArith .add (.t 12) (.c (.int .i64 (.lit 1)))⟩,
 ⟨some 12,true,none,iMov (.t 50)⟩])))))))
 (cSeq (cOps [⟨some 51,false,none,iMov (.t 4)⟩,
 ⟨some 4,true,none,iMov (.t 51)⟩])
 cRet)))),[.t 4]⟩
noncomputable def Tryd.kp49:List Nat:=[0,1,2,3,6,7,8,9,14,15,16,17]
noncomputable def Tryd.cf49:CF:=⟨3,(cSeq (cOps [⟨some 3,true,none,iBox 90 (.t 0)⟩,
 ⟨some 6,true,none,iMov (.c (.int .i64 (.lit 0)))⟩])
 (cSeq (cOps [⟨some 10,false,none,iMov (.t 2)⟩,
 ⟨some 11,false,none,iArith .mul (.c (.int .i64 (.lit 10))) (.t 10)⟩,
 ⟨some 7,true,none,iMov (.t 11)⟩])
 (cSeq (cSeq (cOps [⟨some 12,false,none,iLoadN 16 (.t 3)⟩,
 ⟨some 13,false,none,iMov (.t 1)⟩,
 ⟨some 14,true,none,iCall (.c (.func (.func 48) [] [])) [(.t 12),(.t 13)]⟩,
 ⟨some 15,true,none,iLenS (.t 14)⟩,
 ⟨some 16,true,none,iMov (.c (.int .i64 (.lit 0)))⟩])
 (cBlock 0 (cLoop (cSeq (cOps [⟨some 17,true,none,iCmp .lss (.t 16) (.t 15)⟩])
 (cSeq (cCond (.t 17) cSkip (cExit 0))
 (cSeq (cBlock 1 (cSeq (cOps [⟨some 18,false,none,iMov (.t 16)⟩,
 ⟨some 19,false,none,iIaddr 1 (.t 14) (.t 16)⟩,
 ⟨some 20,false,none,iLoad (.t 19)⟩,
 ⟨some 8,true,none,iMov (.t 18)⟩,
 ⟨some 9,true,none,iMov (.t 20)⟩])
 (dOps 0 [⟨⟨some 21,false,none,iMov (.t 7)⟩,[7],false,0,1,none,[]⟩,
 ⟨⟨some 22,false,none,iMov (.t 9)⟩,[9],false,0,0,none,[]⟩,
 ⟨⟨some 23,false,none,iBslice 3 [(.int .i64 (.lit 0))] 1 [(0,1,(.t 22))]⟩,[22],true,0,0,none,[]⟩,
 ⟨⟨some 24,false,none,iCall (.c (.func (.func 67) [] [])) [(.t 21),(.t 23)]⟩,[21,23],true,1,0,none,[]⟩,
 ⟨⟨some 25,false,none,iLoadN 16 (.t 3)⟩,[3],false,0,3,none,[]⟩,
 ⟨⟨some 26,false,none,iLoadN 16 (.t 3)⟩,[3],false,0,2,none,[]⟩,
 ⟨⟨some 27,false,none,iMov (.t 8)⟩,[8],false,0,2,none,[]⟩,
 ⟨⟨some 28,false,none,iCall (.c (.func (.func 69) [] [])) [(.t 26),(.t 27)]⟩,[26,27],true,2,0,none,[]⟩,
 ⟨⟨some 29,false,none,iCall (.c (.func (.func 71) [] [])) [(.t 25),(.t 28),(.c (.int .i64 (.lit 1)))]⟩,[25,28],true,3,0,none,[]⟩,
 ⟨⟨some 30,false,none,iArith .add (.t 24) (.t 29)⟩,[24,29],false,4,4,none,[]⟩,
 ⟨⟨some 7,true,none,iMov (.t 30)⟩,[30],false,4,4,none,[]⟩])))
 (cOps [⟨some 31,false,none,iArith .add (.t 16) (.c (.int .i64 (.lit 1)))⟩,
 ⟨some 16,true,none,iMov (.t 31)⟩])))))))
 (cSeq (cOps [⟨some 32,false,none,iMov (.t 7)⟩,
 ⟨some 6,true,none,iMov (.t 32)⟩])
 cRet)))),[.t 6]⟩
noncomputable def Tryd.kp50:List Nat:=[0,1,4,6,7,8,9,10,16]
noncomputable def Tryd.cf50:CF:=⟨2,(cSeq (cOps [⟨some 4,true,none,iMov (.c (.bool (.lit false)))⟩])
 (cSeq (cSeq (cOps [⟨some 7,true,none,iMov (.t 1)⟩,
 ⟨some 8,true,none,iLenS (.t 7)⟩,
 ⟨some 9,true,none,iMov (.c (.int .i64 (.lit 0)))⟩])
 (cBlock 0 (cLoop (cSeq (cOps [⟨some 10,true,none,iCmp .lss (.t 9) (.t 8)⟩])
 (cSeq (cCond (.t 10) cSkip (cExit 0))
 (cSeq (cBlock 1 (cSeq (cOps [⟨some 11,false,none,iIaddr 1 (.t 7) (.t 9)⟩,
 ⟨some 12,false,none,iLoad (.t 11)⟩,
 ⟨some 6,true,none,iMov (.t 12)⟩])
 (cSeq (cOps [⟨some 13,false,none,iMov (.t 0)⟩,
 ⟨some 14,false,none,iMov (.t 6)⟩,
 ⟨some 15,false,none,iCall (.t 13) [(.t 14)]⟩,
 ⟨some 16,true,none,iNot (.t 15)⟩])
 (cCond (.t 16) (cSeq (cOps [⟨some 4,true,none,iMov (.c (.bool (.lit false)))⟩])
 cRet) cSkip))))
 (cOps [⟨some 17,false,none,iArith .add (.t 9) (.c (.int .i64 (.lit 1)))⟩,
 ⟨some 9,true,none,iMov (.t 17)⟩])))))))
 (cSeq (cOps [⟨some 4,true,none,iMov (.c (.bool (.lit true)))⟩])
 cRet))),[.t 4]⟩
noncomputable def Tryd.kp51:List Nat:=[0,1,4,6,7,8,9,10,16]
noncomputable def Tryd.cf51:CF:=⟨2,(cSeq (cOps [⟨some 4,true,none,iMov (.c (.bool (.lit false)))⟩])
 (cSeq (cSeq (cOps [⟨some 7,true,none,iMov (.t 1)⟩,
 ⟨some 8,true,none,iLenS (.t 7)⟩,
 ⟨some 9,true,none,iMov (.c (.int .i64 (.lit 0)))⟩])
 (cBlock 0 (cLoop (cSeq (cOps [⟨some 10,true,none,iCmp .lss (.t 9) (.t 8)⟩])
 (cSeq (cCond (.t 10) cSkip (cExit 0))
 (cSeq (cBlock 1 (cSeq (cOps [⟨some 11,false,none,iIaddr 1 (.t 7) (.t 9)⟩,
 ⟨some 12,false,none,iLoad (.t 11)⟩,
 ⟨some 6,true,none,iMov (.t 12)⟩])
 (cSeq (cOps [⟨some 13,false,none,iMov (.t 0)⟩,
 ⟨some 14,false,none,iMov (.t 6)⟩,
 ⟨some 15,false,none,iCall (.t 13) [(.t 14)]⟩,
 ⟨some 16,true,none,iNot (.t 15)⟩])
 (cCond (.t 16) (cSeq (cOps [⟨some 4,true,none,iMov (.c (.bool (.lit false)))⟩])
 cRet) cSkip))))
 (cOps [⟨some 17,false,none,iArith .add (.t 9) (.c (.int .i64 (.lit 1)))⟩,
 ⟨some 9,true,none,iMov (.t 17)⟩])))))))
 (cSeq (cOps [⟨some 4,true,none,iMov (.c (.bool (.lit true)))⟩])
 cRet))),[.t 4]⟩
noncomputable def Tryd.kp52:List Nat:=[0,2]
noncomputable def Tryd.cf52:CF:=⟨1,(cSeq (cOps [⟨some 2,true,none,iMov (.c (.bool (.lit false)))⟩])
 (cSeq (cOps [⟨some 3,false,none,iMov (.t 0)⟩,
 ⟨some 4,false,none,iCmp .geq (.t 3) (.c (.int .i64 (.lit 0)))⟩,
 ⟨some 5,false,none,iMov (.t 4)⟩,
 ⟨some 6,false,some (5,true),iMov (.t 0)⟩,
 ⟨some 7,false,some (5,true),iCmp .leq (.t 6) (.c (.int .i64 (.lit 99999)))⟩,
 ⟨some 8,false,none,iPick (.t 5) (.t 7) (.c (.bool (.lit false)))⟩,
 ⟨some 2,true,none,iMov (.t 8)⟩])
 cRet)),[.t 2]⟩
noncomputable def Tryd.kp53:List Nat:=[0,2]
noncomputable def Tryd.cf53:CF:=⟨1,(cSeq (cOps [⟨some 2,true,none,iMov (.c (.int .i64 (.lit 0)))⟩])
 (cSeq (cOps [⟨some 3,false,none,iMov (.t 0)⟩,
 ⟨some 4,false,none,iArith .add (.t 3) (.c (.int .i64 (.lit 10)))⟩,
 ⟨some 5,false,none,iArith .sub (.t 4) (.c (.int .i64 (.lit 1)))⟩,
 ⟨some 6,false,none,iArith .quo (.t 5) (.c (.int .i64 (.lit 10)))⟩,
 ⟨some 2,true,none,iMov (.t 6)⟩])
 cRet)),[.t 2]⟩
noncomputable def Tryd.kp54:List Nat:=[0,1,2,4,5,6,9,10,11,12]
noncomputable def Tryd.cf54:CF:=⟨2,(cSeq (cOps [⟨some 2,true,none,iBox 90 (.t 0)⟩,
 ⟨some 4,true,none,iMov (.c (.int .i64 (.lit 0)))⟩])
 (cSeq (cSeq (cOps [⟨some 7,false,none,iLoadN 16 (.t 2)⟩,
 ⟨some 8,false,none,iMov (.t 1)⟩,
 ⟨some 9,true,none,iCall (.c (.func (.func 48) [] [])) [(.t 7),(.t 8)]⟩,
 ⟨some 10,true,none,iLenS (.t 9)⟩,
 ⟨some 11,true,none,iMov (.c (.int .i64 (.lit 0)))⟩])
 (cBlock 0 (cLoop (cSeq (cOps [⟨some 12,true,none,iCmp .lss (.t 11) (.t 10)⟩])
 (cSeq (cCond (.t 12) cSkip (cExit 0))
 (cSeq (cBlock 1 (cSeq (cOps [⟨some 13,false,none,iMov (.t 11)⟩,
 ⟨some 14,false,none,iIaddr 1 (.t 9) (.t 11)⟩,
 ⟨some 15,false,none,iLoad (.t 14)⟩,
 ⟨some 5,true,none,iMov (.t 13)⟩,
 ⟨some 6,true,none,iMov (.t 15)⟩])
 (dOps 0 [⟨⟨some 16,false,none,iMov (.t 4)⟩,[4],false,0,3,none,[]⟩,
 ⟨⟨some 17,false,none,iMov (.t 6)⟩,[6],false,0,2,none,[]⟩,
 ⟨⟨some 18,false,none,iLoadN 16 (.t 2)⟩,[2],false,0,1,none,[]⟩,
 ⟨⟨some 19,false,none,iLoadN 16 (.t 2)⟩,[2],false,0,0,none,[]⟩,
 ⟨⟨some 20,false,none,iMov (.t 5)⟩,[5],false,0,0,none,[]⟩,
 ⟨⟨some 21,false,none,iCall (.c (.func (.func 69) [] [])) [(.t 19),(.t 20)]⟩,[19,20],true,0,0,none,[]⟩,
 ⟨⟨some 22,false,none,iCall (.c (.func (.func 68) [] [])) [(.t 18),(.t 21),(.c (.int .i64 (.lit 1)))]⟩,[18,21],true,1,0,none,[]⟩,
 ⟨⟨some 23,false,none,iArith .sub (.t 17) (.t 22)⟩,[17,22],false,2,2,none,[]⟩,
 ⟨⟨some 24,false,none,iBslice 3 [(.int .i64 (.lit 0))] 1 [(0,1,(.t 23))]⟩,[23],true,2,0,none,[]⟩,
 ⟨⟨some 25,false,none,iCall (.c (.func (.func 67) [] [])) [(.t 16),(.t 24)]⟩,[16,24],true,3,0,none,[]⟩,
 ⟨⟨some 4,true,none,iMov (.t 25)⟩,[25],false,4,4,none,[]⟩])))
 (cOps [⟨some 26,false,none,iArith .add (.t 11) (.c (.int .i64 (.lit 1)))⟩,
 ⟨some 11,true,none,iMov (.t 26)⟩])))))))
 (cSeq (cOps [⟨some 27,false,none,iMov (.t 4)⟩,
 ⟨some 4,true,none,iMov (.t 27)⟩])
 cRet))),[.t 4]⟩
noncomputable def Tryd.kp55:List Nat:=[0,1,2,3,4]
noncomputable def Tryd.cf55:CF:=⟨2,(cSeq (cOps [⟨some 2,true,none,iBox 78 (.t 0)⟩,
 ⟨some 3,true,none,iBox 78 (.t 1)⟩,
 ⟨some 4,true,none,iMov (.c (.bool (.lit false)))⟩])
 (cSeq (dOps 0 [⟨⟨some 5,false,none,iFaddr 0 (.t 2)⟩,[2],false,0,0,none,[]⟩,
 ⟨⟨some 6,false,none,iLoad (.t 5)⟩,[5],false,0,0,none,[]⟩,
 ⟨⟨some 7,false,none,iCall (.c (.func (.func 56) [] [])) [(.t 6)]⟩,[6],true,0,0,none,[]⟩,
 ⟨⟨some 8,false,none,iFaddr 0 (.t 3)⟩,[3],false,0,1,none,[]⟩,
 ⟨⟨some 9,false,none,iLoad (.t 8)⟩,[8],false,0,1,none,[]⟩,
 ⟨⟨some 10,false,none,iCall (.c (.func (.func 56) [] [])) [(.t 9)]⟩,[9],true,1,0,none,[]⟩,
 ⟨⟨some 11,false,none,iCmp .lss (.t 7) (.t 10)⟩,[7,10],false,2,2,none,[]⟩,
 ⟨⟨some 4,true,none,iMov (.t 11)⟩,[11],false,2,2,none,[]⟩])
 cRet)),[.t 4]⟩
noncomputable def Tryd.kp56:List Nat:=[0,2]
noncomputable def Tryd.cf56:CF:=⟨1,(cSeq (cOps [⟨some 2,true,none,iMov (.c (.int .i64 (.lit 0)))⟩])
 (cSeq (cOps [⟨some 3,false,none,iMov (.t 0)⟩,
 ⟨some 4,false,none,iCall (.c (.func (.func 67) [] [])) [(.c (.int .i64 (.lit 1))),(.t 3)]⟩,
 ⟨some 2,true,none,iMov (.t 4)⟩])
 cRet)),[.t 2]⟩
noncomputable def Tryd.kp57:List Nat:=[0,1,2,3,4,8]
noncomputable def Tryd.cf57:CF:=⟨1,(cSeq (cOps [⟨some 1,true,none,iBox 26 (.t 0)⟩,
 ⟨some 2,true,none,iAlloc 98 [.nilslice,(.int .i64 (.lit 0)),(.int .i64 (.lit 0)),(.int .i64 (.lit 0)),(.int .i64 (.lit 0)),(.int .i64 (.lit 0)),.nilmap]⟩,
 ⟨some 3,true,none,iMov (.c (.int .i64 (.lit 0)))⟩])
 (cSeq (cSeq (cOps [⟨some 5,false,none,iLoadN 6 (.t 1)⟩,
 ⟨some 6,false,none,iCall (.c (.func (.func 22) [] [])) [(.t 5)]⟩,
 ⟨some 4,true,none,iMov (.t 6)⟩])
 (cSeq (cOps [⟨some 7,false,none,iMov (.t 4)⟩,
 ⟨some 8,true,none,iCmp .neq (.t 7) (.c (.int .i64 (.lit 0)))⟩])
 (cCond (.t 8) (cSeq (cOps [⟨some 9,false,none,iBuild [.nilslice,(.int .i64 (.lit 0)),(.int .i64 (.lit 0)),(.int .i64 (.lit 0)),(.int .i64 (.lit 0)),(.int .i64 (.lit 0)),.nilmap] []⟩,
 ⟨some 10,false,none,iMov (.t 4)⟩,
 ⟨none,false,none,iStore 7 (.t 2) (.t 9)⟩,
 ⟨some 3,true,none,iMov (.t 10)⟩])
 cRet) cSkip)))
 (cSeq (cOps [⟨some 11,false,none,iLoadN 6 (.t 1)⟩,
 ⟨some 12,false,none,iMkmap⟩,
 ⟨some 13,false,none,iBuild [.nilslice,(.int .i64 (.lit 0)),(.int .i64 (.lit 0)),(.int .i64 (.lit 0)),(.int .i64 (.lit 0)),(.int .i64 (.lit 0)),.nilmap] [(0,6,(.t 11)),(6,1,(.t 12))]⟩,
 ⟨none,false,none,iStore 7 (.t 2) (.t 13)⟩,
 ⟨some 3,true,none,iMov (.c (.int .i64 (.lit 0)))⟩])
 cRet))),[.cell 2 true 7,.t 3]⟩
noncomputable def Tryd.kp58:List Nat:=[0,1,2]
noncomputable def Tryd.cf58:CF:=⟨1,(cSeq (cOps [⟨some 1,true,none,iBox 98 (.t 0)⟩,
 ⟨some 2,true,none,iMov (.c .nilFunc)⟩])
 (cSeq (dOps 0 [⟨⟨some 3,false,none,iLoadN 7 (.t 1)⟩,[1],false,0,0,none,[]⟩,
 ⟨⟨some 4,false,none,iCall (.c (.func (.func 73) [] [])) [(.t 3),(.c .nilslice)]⟩,[3],true,0,0,none,[]⟩,
 ⟨⟨some 5,false,none,iLoadN 7 (.t 1)⟩,[1],false,0,1,none,[]⟩,
 ⟨⟨some 6,false,none,iFunc (.func 74) [(.t 5)] []⟩,[5],false,0,1,none,[]⟩,
 ⟨⟨some 7,false,none,iCall (.c (.func (.func 72) [] [])) [(.t 4),(.t 6)]⟩,[4,6],true,1,0,none,[]⟩,
 ⟨⟨some 2,true,none,iMov (.t 7)⟩,[7],false,2,2,none,[]⟩])
 cRet)),[.t 2]⟩
noncomputable def Tryd.kp59:List Nat:=[0,1,3,4]
noncomputable def Tryd.cf59:CF:=⟨2,(cSeq (cOps [⟨some 3,true,none,iBox 24 (.t 1)⟩,
 ⟨some 4,true,none,iMov (.c (.bool (.lit false)))⟩])
 (cSeq (cOps [⟨some 5,false,none,iFaddr 0 (.t 3)⟩,
 ⟨some 6,false,none,iLoad (.t 5)⟩,
 ⟨some 7,false,none,iMov (.t 0)⟩,
 ⟨some 8,false,none,iCmp .leq (.t 6) (.t 7)⟩,
 ⟨some 9,false,none,iMov (.t 8)⟩,
 ⟨some 10,false,some (9,true),iMov (.t 0)⟩,
 ⟨some 11,false,some (9,true),iFaddr 1 (.t 3)⟩,
 ⟨some 12,false,some (9,true),iLoad (.t 11)⟩,
 ⟨some 13,false,some (9,true),iCmp .leq (.t 10) (.t 12)⟩,
 ⟨some 14,false,none,iPick (.t 9) (.t 13) (.c (.bool (.lit false)))⟩,
 ⟨some 4,true,none,iMov (.t 14)⟩])
 cRet)),[.t 4]⟩
noncomputable def Tryd.kp60:List Nat:=[0,1,2,3,4]
noncomputable def Tryd.cf60:CF:=⟨2,(cSeq (cOps [⟨some 2,true,none,iBox 24 (.t 0)⟩,
 ⟨some 3,true,none,iBox 24 (.t 1)⟩,
 ⟨some 4,true,none,iMov (.c (.bool (.lit false)))⟩])
 (cSeq (cOps [⟨some 5,false,none,iFaddr 0 (.t 3)⟩,
 ⟨some 6,false,none,iLoad (.t 5)⟩,
 ⟨some 7,false,none,iFaddr 0 (.t 2)⟩,
 ⟨some 8,false,none,iLoad (.t 7)⟩,
 ⟨some 9,false,none,iCmp .leq (.t 6) (.t 8)⟩,
 ⟨some 10,false,none,iMov (.t 9)⟩,
 ⟨some 11,false,some (10,true),iFaddr 0 (.t 2)⟩,
 ⟨some 12,false,some (10,true),iLoad (.t 11)⟩,
 ⟨some 13,false,some (10,true),iFaddr 1 (.t 2)⟩,
 ⟨some 14,false,some (10,true),iLoad (.t 13)⟩,
 ⟨some 15,false,some (10,true),iCmp .leq (.t 12) (.t 14)⟩,
 ⟨some 16,false,none,iPick (.t 10) (.t 15) (.c (.bool (.lit false)))⟩,
 ⟨some 17,false,none,iMov (.t 16)⟩,
 ⟨some 18,false,some (17,true),iFaddr 1 (.t 2)⟩,
 ⟨some 19,false,some (17,true),iLoad (.t 18)⟩,
 ⟨some 20,false,some (17,true),iFaddr 1 (.t 3)⟩,
 ⟨some 21,false,some (17,true),iLoad (.t 20)⟩,
 ⟨some 22,false,some (17,true),iCmp .leq (.t 19) (.t 21)⟩,
 ⟨some 23,false,none,iPick (.t 17) (.t 22) (.c (.bool (.lit false)))⟩,
 ⟨some 4,true,none,iMov (.t 23)⟩])
 cRet)),[.t 4]⟩
noncomputable def Tryd.kp61:List Nat:=[0,1,2,3,4]
noncomputable def Tryd.cf61:CF:=⟨2,(cSeq (cOps [⟨some 2,true,none,iBox 84 (.t 0)⟩])
 (cSeq (cOps [⟨some 3,true,none,iAlloc 104 [(.int .i64 (.lit 0)),(.int .i64 (.lit 0)),(.int .i64 (.lit 0)),(.int .i64 (.lit 0)),(.int .i64 (.lit 0)),(.int .i64 (.lit 0))]⟩])
 (cSeq (cOps [⟨some 4,true,none,iAlloc 105 [.nilFunc]⟩])
 (cSeq (cOps [⟨some 5,false,none,iFunc (.func 62) [] [(.t 2),(.t 3),(.t 1),(.t 4)]⟩,
 ⟨none,false,none,iStore 1 (.t 4) (.t 5)⟩])
 (cOps [⟨some 6,false,none,iLoad (.t 4)⟩,
 ⟨some 7,false,none,iFaddr 12 (.t 1)⟩,
 ⟨some 8,false,none,iLoad (.t 7)⟩,
 ⟨some 9,false,none,iLenS (.t 8)⟩,
 ⟨some 10,false,none,iCall (.t 6) [(.c (.int .i64 (.lit 0))),(.t 9)]⟩]))))),[]⟩
noncomputable def Tryd.kp62:List Nat:=[0,1,2,3,4,5,8,9,11,21,26,37]
noncomputable def Tryd.cf62:CF:=⟨6,(cSeq (cOps [⟨some 8,true,none,iMov (.c (.bool (.lit false)))⟩])
 (cSeq (cSeq (cOps [⟨some 10,false,none,iMov (.t 1)⟩,
 ⟨some 11,true,none,iCmp .eql (.t 10) (.c (.int .i64 (.lit 0)))⟩])
 (cCond (.t 11) (cSeq (dOps 0 [⟨⟨some 12,false,none,iLoad (.t 2)⟩,[2],false,0,0,none,[]⟩,
 ⟨⟨some 13,false,none,iMov (.t 0)⟩,[0],false,0,0,none,[]⟩,
 ⟨⟨some 14,false,none,iMov (.t 0)⟩,[0],false,0,0,none,[]⟩,
 ⟨⟨some 15,false,none,iSliceA 1 6 (.t 3) none (some (.t 13)) (some (.t 14))⟩,[3,13,14],false,0,0,none,[]⟩,
 ⟨⟨some 16,false,none,iCall (.t 12) [(.t 15)]⟩,[12,15],true,0,0,none,[]⟩,
 ⟨⟨some 8,true,none,iMov (.t 16)⟩,[16],false,1,1,none,[]⟩])
 cRet) cSkip))
 (cSeq cSkip
 (cSeq (cSeq (cOps [⟨some 9,true,none,iMov (.c (.int .i64 (.lit 1)))⟩])
 (cBlock 0 (cLoop (cSeq (cSeq (cOps [⟨some 17,false,none,iMov (.t 9)⟩,
 ⟨some 18,false,none,iFaddr 0 (.t 4)⟩,
 ⟨some 19,false,none,iFaddr 11 (.t 18)⟩,
 ⟨some 20,false,none,iLoad (.t 19)⟩,
 ⟨some 21,true,none,iCmp .leq (.t 17) (.t 20)⟩])
 (cCond (.t 21) cSkip (cExit 0)))
 (cSeq (cBlock 1 (cSeq (cSeq (cOps [⟨some 24,false,none,iMov (.t 9)⟩,
 ⟨some 25,false,none,iMov (.t 1)⟩,
 ⟨some 26,true,none,iCmp .gtr (.t 24) (.t 25)⟩])
 (cCond (.t 26) (cExit 0) cSkip))
 (cSeq (cOps [⟨some 27,false,none,iMov (.t 0)⟩,
 ⟨some 28,false,none,iMov (.t 9)⟩,
 ⟨some 29,false,none,iIaddrA 1 6 (.t 3) (.t 27)⟩,
 ⟨none,false,none,iStore 1 (.t 29) (.t 28)⟩])
 (cSeq (cOps [⟨some 30,false,none,iLoad (.t 5)⟩,
 ⟨some 31,false,none,iMov (.t 0)⟩,
 ⟨some 32,false,none,iArith .add (.t 31) (.c (.int .i64 (.lit 1)))⟩,
 ⟨some 33,false,none,iMov (.t 1)⟩,
 ⟨some 34,false,none,iMov (.t 9)⟩,
 ⟨some 35,false,none,iArith .sub (.t 33) (.t 34)⟩,
 ⟨some 36,false,none,iCall (.t 30) [(.t 32),(.t 35)]⟩,
 ⟨some 37,true,none,iNot (.t 36)⟩])
 (cCond (.t 37) (cSeq (cOps [⟨some 8,true,none,iMov (.c (.bool (.lit false)))⟩])
 cRet) cSkip)))))
 (cOps [⟨some 22,false,none,iMov (.t 9)⟩,
 ⟨some 23,false,none,iArith .add (.t 22) (.c (.int .i64 (.lit 1)))⟩,
 ⟨some 9,true,none,iMov (.t 23)⟩]))))))
 (cSeq (cOps [⟨some 8,true,none,iMov (.c (.bool (.lit true)))⟩])
 cRet))))),[.t 8]⟩
noncomputable def Tryd.kp63:List Nat:=[0,1,2,3,4,11,12,13,21]
noncomputable def Tryd.cf63:CF:=⟨1,(cSeq (cOps [⟨some 1,true,none,iBox 107 (.t 0)⟩,
 ⟨some 2,true,none,iMov (.c (.bool (.lit false)))⟩])
 (cSeq (cSeq (cOps [⟨some 5,false,none,iFaddr 0 (.t 1)⟩,
 ⟨some 6,false,none,iLoadN 2 (.t 5)⟩,
 ⟨some 7,false,none,iFaddr 2 (.t 1)⟩,
 ⟨some 8,false,none,iLoadN 2 (.t 7)⟩,
 ⟨some 9,false,none,iFaddr 4 (.t 1)⟩,
 ⟨some 10,false,none,iLoadN 2 (.t 9)⟩,
 ⟨some 11,true,none,iBuild [(.int .i64 (.lit 0)),(.int .i64 (.lit 0)),(.int .i64 (.lit 0)),(.int .i64 (.lit 0)),(.int .i64 (.lit 0)),(.int .i64 (.lit 0))] [(0,2,(.t 6)),(2,2,(.t 8)),(4,2,(.t 10))]⟩,
 ⟨some 12,true,none,iMov (.c (.int .i64 (.lit 0)))⟩])
 (cBlock 0 (cLoop (cSeq (cOps [⟨some 13,true,none,iCmp .lss (.t 12) (.c (.int .i64 (.lit 3)))⟩])
 (cSeq (cCond (.t 13) cSkip (cExit 0))
 (cSeq (cBlock 1 (cSeq (cOps [⟨some 14,false,none,iMov (.t 12)⟩,
 ⟨some 15,false,none,iIndex true 2 3 (.t 11) (.t 12)⟩,
 ⟨some 4,true,none,iAlloc 24 [(.int .i64 (.lit 0)),(.int .i64 (.lit 0))]⟩,
 ⟨some 3,true,none,iMov (.t 14)⟩,
 ⟨none,false,none,iStore 2 (.t 4) (.t 15)⟩])
 (cSeq (dOps 0 [⟨⟨some 16,false,none,iLoadN 2 (.t 4)⟩,[4],false,0,0,none,[]⟩,
 ⟨⟨some 17,false,none,iMov (.t 3)⟩,[3],false,0,0,none,[]⟩,
 ⟨⟨some 18,false,none,iIaddrA 2 3 (.c (.ptr 3 0)) (.t 17)⟩,[17],false,0,0,none,[]⟩,
 ⟨⟨some 19,false,none,iLoadN 2 (.t 18)⟩,[18],false,0,0,none,[]⟩,
 ⟨⟨some 20,false,none,iCall (.c (.func (.func 64) [] [])) [(.t 16),(.t 19)]⟩,[16,19],true,0,0,none,[]⟩,
 ⟨⟨some 21,true,none,iNot (.t 20)⟩,[20],false,1,1,none,[]⟩])
 (cCond (.t 21) (cSeq (cOps [⟨some 2,true,none,iMov (.c (.bool (.lit false)))⟩])
 cRet) cSkip))))
 (cOps [⟨some 22,false,none,iArith .add (.t 12) (.c (.int .i64 (.lit 1)))⟩,
 ⟨some 12,true,none,iMov (.t 22)⟩])))))))
 (cSeq (cOps [⟨some 23,false,none,iFaddr 0 (.t 1)⟩,
 ⟨some 24,false,none,iFaddr 0 (.t 23)⟩,
 ⟨some 25,false,none,iLoad (.t 24)⟩,
 ⟨some 26,false,none,iFaddr 2 (.t 1)⟩,
 ⟨some 27,false,none,iFaddr 1 (.t 26)⟩,
 ⟨some 28,false,none,iLoad (.t 27)⟩,
 ⟨some 29,false,none,iCmp .leq (.t 25) (.t 28)⟩,
 ⟨some 2,true,none,iMov (.t 29)⟩])
 cRet))),[.t 2]⟩
noncomputable def Tryd.kp64:List Nat:=[0,1,2,3,4]
noncomputable def Tryd.cf64:CF:=⟨2,(cSeq (cOps [⟨some 2,true,none,iBox 24 (.t 0)⟩,
 ⟨some 3,true,none,iBox 24 (.t 1)⟩,
 ⟨some 4,true,none,iMov (.c (.bool (.lit false)))⟩])
 (cSeq (cOps [⟨some 5,false,none,iFaddr 0 (.t 3)⟩,
 ⟨some 6,false,none,iLoad (.t 5)⟩,
 ⟨some 7,false,none,iFaddr 0 (.t 2)⟩,
 ⟨some 8,false,none,iLoad (.t 7)⟩,
 ⟨some 9,false,none,iCmp .leq (.t 6) (.t 8)⟩,
 ⟨some 10,false,none,iMov (.t 9)⟩,
 ⟨some 11,false,some (10,true),iFaddr 0 (.t 2)⟩,
 ⟨some 12,false,some (10,true),iLoad (.t 11)⟩,
 ⟨some 13,false,some (10,true),iFaddr 1 (.t 2)⟩,
 ⟨some 14,false,some (10,true),iLoad (.t 13)⟩,
 ⟨some 15,false,some (10,true),iCmp .leq (.t 12) (.t 14)⟩,
 ⟨some 16,false,none,iPick (.t 10) (.t 15) (.c (.bool (.lit false)))⟩,
 ⟨some 17,false,none,iMov (.t 16)⟩,
 ⟨some 18,false,some (17,true),iFaddr 1 (.t 2)⟩,
 ⟨some 19,false,some (17,true),iLoad (.t 18)⟩,
 ⟨some 20,false,some (17,true),iFaddr 1 (.t 3)⟩,
 ⟨some 21,false,some (17,true),iLoad (.t 20)⟩,
 ⟨some 22,false,some (17,true),iCmp .leq (.t 19) (.t 21)⟩,
 ⟨some 23,false,none,iPick (.t 17) (.t 22) (.c (.bool (.lit false)))⟩,
 ⟨some 4,true,none,iMov (.t 23)⟩])
 cRet)),[.t 4]⟩
noncomputable def Tryd.kp65:List Nat:=[0,1,2]
noncomputable def Tryd.cf65:CF:=⟨1,(cSeq (cOps [⟨some 1,true,none,iBox 110 (.t 0)⟩,
 ⟨some 2,true,none,iMov (.c (.int .i64 (.lit 0)))⟩])
 (cSeq (cOps [⟨some 3,false,none,iFaddr 0 (.t 1)⟩,
 ⟨some 4,false,none,iLoad (.t 3)⟩,
 ⟨some 2,true,none,iMov (.t 4)⟩])
 cRet)),[.t 2]⟩
noncomputable def Tryd.kp66:List Nat:=[0,1,2]
noncomputable def Tryd.cf66:CF:=⟨1,(cSeq (cOps [⟨some 1,true,none,iBox 110 (.t 0)⟩,
 ⟨some 2,true,none,iMov (.c (.int .i64 (.lit 0)))⟩])
 (cSeq (cOps [⟨some 3,false,none,iFaddr 1 (.t 1)⟩,
 ⟨some 4,false,none,iLoad (.t 3)⟩,
 ⟨some 2,true,none,iMov (.t 4)⟩])
 cRet)),[.t 2]⟩
noncomputable def Tryd.kp67:List Nat:=[0,1,4,6,7,8,9,10]
noncomputable def Tryd.cf67:CF:=⟨2,(cSeq (cOps [⟨some 4,true,none,iMov (.c (.int .i64 (.lit 0)))⟩])
 (cSeq (cSeq (cOps [⟨some 7,true,none,iMov (.t 1)⟩,
 ⟨some 8,true,none,iLenS (.t 7)⟩,
 ⟨some 9,true,none,iMov (.c (.int .i64 (.lit 0)))⟩])
 (cBlock 0 (cLoop (cSeq (cOps [⟨some 10,true,none,iCmp .lss (.t 9) (.t 8)⟩])
 (cSeq (cCond (.t 10) cSkip (cExit 0))
 (cSeq (cBlock 1 (cSeq (cOps [⟨some 11,false,none,iIaddr 1 (.t 7) (.t 9)⟩,
 ⟨some 12,false,none,iLoad (.t 11)⟩,
 ⟨some 6,true,none,iMov (.t 12)⟩])
 (cOps [⟨some 13,false,none,iMov (.t 0)⟩,
 ⟨some 14,false,none,iMov (.t 6)⟩,
 ⟨some 15,false,none,iMax [(.t 13),(.t 14)]⟩,
 ⟨some 0,true,none,iMov (.t 15)⟩])))
 (cOps [⟨some 16,false,none,iArith .add (.t 9) (.c (.int .i64 (.lit 1)))⟩,
 ⟨some 9,true,none,iMov (.t 16)⟩])))))))
 (cSeq (cOps [⟨some 17,false,none,iMov (.t 0)⟩,
 ⟨some 4,true,none,iMov (.t 17)⟩])
 cRet))),[.t 4]⟩
noncomputable def Tryd.kp68:List Nat:=[0,1,2,3,4,6,7,8,12,13,14,21]
noncomputable def Tryd.cf68:CF:=⟨3,(cSeq (cOps [⟨some 3,true,none,iBox 90 (.t 0)⟩,
 ⟨some 4,true,none,iBox 114 (.t 1)⟩,
 ⟨some 6,true,none,iMov (.c (.int .i64 (.lit 0)))⟩])
 (cSeq (cSeq (cOps [⟨some 9,false,none,iFaddr 0 (.t 3)⟩,
 ⟨some 10,false,none,iFaddr 12 (.t 9)⟩,
 ⟨some 11,false,none,iLoad (.t 10)⟩,
 ⟨some 12,true,none,iLenS (.t 11)⟩,
 ⟨some 13,true,none,iMov (.c (.int .i64 (.lit 0)))⟩])
 (cBlock 0 (cLoop (cSeq (cOps [⟨some 14,true,none,iCmp .lss (.t 13) (.t 12)⟩])
 (cSeq (cCond (.t 14) cSkip (cExit 0))
 (cSeq (cBlock 1 (cSeq (cOps [⟨some 15,false,none,iMov (.t 13)⟩,
 ⟨some 7,true,none,iMov (.t 15)⟩])
 (cSeq (cOps [⟨some 16,false,none,iLoadN 16 (.t 3)⟩,
 ⟨some 17,false,none,iMov (.t 7)⟩,
 ⟨some 18,false,none,iCall (.c (.func (.func 69) [] [])) [(.t 16),(.t 17)]⟩,
 ⟨some 8,true,none,iAlloc 114 [(.int .i64 (.lit 0)),(.int .i64 (.lit 0))]⟩,
 ⟨none,false,none,iStore 2 (.t 8) (.t 18)⟩])
 (cSeq (cSeq (cOps [⟨some 19,false,none,iLoadN 2 (.t 8)⟩,
 ⟨some 20,false,none,iLoadN 2 (.t 4)⟩,
 ⟨some 21,true,none,iEq false true 2 [(0,.int),(1,.int)] (.t 19) (.t 20)⟩])
 (cCond (.t 21) (cExit 0) cSkip))
 (cOps [⟨some 22,false,none,iMov (.t 6)⟩,
 ⟨some 23,false,none,iLoadN 16 (.t 3)⟩,
 ⟨some 24,false,none,iLoadN 2 (.t 8)⟩,
 ⟨some 25,false,none,iMov (.t 2)⟩,
 ⟨some 26,false,none,iCall (.c (.func (.func 71) [] [])) [(.t 23),(.t 24),(.t 25)]⟩,
 ⟨some 27,false,none,iArith .add (.t 22) (.t 26)⟩,
 ⟨some 6,true,none,iMov (.t 27)⟩])))))
 (cOps [⟨some 28,false,none,iArith .add (.t 13) (.c (.int .i64 (.lit 1)))⟩,
 ⟨some 13,true,none,iMov (.t 28)⟩])))))))
 (cSeq (cOps [⟨some 29,false,none,iMov (.t 6)⟩,
 ⟨some 6,true,none,iMov (.t 29)⟩])
 cRet))),[.t 6]⟩
noncomputable def Tryd.kp69:List Nat:=[0,1,2,4]
noncomputable def Tryd.cf69:CF:=⟨2,(cSeq (cOps [⟨some 2,true,none,iBox 90 (.t 0)⟩,
 ⟨some 4,true,none,iAlloc 114 [(.int .i64 (.lit 0)),(.int .i64 (.lit 0))]⟩])
 (cSeq (cOps [⟨some 5,false,none,iMov (.t 1)⟩,
 ⟨some 6,false,none,iFaddr 0 (.t 2)⟩,
 ⟨some 7,false,none,iFaddr 0 (.t 6)⟩,
 ⟨some 8,false,none,iFaddr 6 (.t 7)⟩,
 ⟨some 9,false,none,iLoad (.t 8)⟩,
 ⟨some 10,false,none,iBuild [(.int .i64 (.lit 0)),(.int .i64 (.lit 0))] [(0,1,(.t 5)),(1,1,(.t 9))]⟩,
 ⟨none,false,none,iStore 2 (.t 4) (.t 10)⟩])
 cRet)),[.cell 4 true 2]⟩
noncomputable def Tryd.kp70:List Nat:=[0,1,2,3,4]
noncomputable def Tryd.cf70:CF:=⟨2,(cSeq (cOps [⟨some 2,true,none,iBox 90 (.t 0)⟩,
 ⟨some 3,true,none,iBox 24 (.t 1)⟩,
 ⟨some 4,true,none,iMov (.c (.int .i64 (.lit 0)))⟩])
 (cSeq (cOps [⟨some 5,false,none,iFaddr 14 (.t 2)⟩,
 ⟨some 6,false,none,iIaddrA 1 2 (.t 5) (.c (.int .i64 (.lit 0)))⟩,
 ⟨some 7,false,none,iLoad (.t 6)⟩,
 ⟨some 8,false,none,iLoadN 2 (.t 3)⟩,
 ⟨some 9,false,none,iCall (.t 7) [(.t 8)]⟩,
 ⟨some 10,false,none,iArith .mul (.c (.int .i64 (.lit 10))) (.t 9)⟩,
 ⟨some 4,true,none,iMov (.t 10)⟩])
 cRet)),[.t 4]⟩
noncomputable def Tryd.kp71:List Nat:=[0,1,2,3,4,6]
noncomputable def Tryd.cf71:CF:=⟨3,(cSeq (cOps [⟨some 3,true,none,iBox 90 (.t 0)⟩,
 ⟨some 4,true,none,iBox 114 (.t 1)⟩,
 ⟨some 6,true,none,iMov (.c (.int .i64 (.lit 0)))⟩])
 (cSeq (dOps 0 [⟨⟨some 7,false,none,iMov (.t 2)⟩,[2],false,0,1,none,[]⟩,
 ⟨⟨some 8,false,none,iFaddr 14 (.t 3)⟩,[3],false,0,1,none,[]⟩,
 ⟨⟨some 9,false,none,iIaddrA 1 2 (.t 8) (.t 7)⟩,[8,7],false,0,1,none,[]⟩,
 ⟨⟨some 10,false,none,iLoad (.t 9)⟩,[9],false,0,1,none,[]⟩,
 ⟨⟨some 11,false,none,iFaddr 0 (.t 3)⟩,[3],false,0,0,none,[]⟩,
 ⟨⟨some 12,false,none,iLoadN 14 (.t 11)⟩,[11],false,0,0,none,[]⟩,
 ⟨⟨some 13,false,none,iLoadN 2 (.t 4)⟩,[4],false,0,0,none,[]⟩,
 ⟨⟨some 14,false,none,iCall (.c (.func (.func 75) [] [])) [(.t 12),(.t 13)]⟩,[12,13],true,0,0,none,[]⟩,
 ⟨⟨some 15,false,none,iMov (.t 2)⟩,[2],false,0,1,none,[]⟩,
 ⟨⟨some 16,false,none,iIndex true 2 2 (.t 14) (.t 15)⟩,[14,15],false,1,1,none,[]⟩,
 ⟨⟨some 17,false,none,iCall (.t 10) [(.t 16)]⟩,[10,16],true,1,0,none,[]⟩,
 ⟨⟨some 6,true,none,iMov (.t 17)⟩,[17],false,2,2,none,[]⟩])
 cRet)),[.t 6]⟩
noncomputable def Tryd.kp72:List Nat:=[0,1,2,3,4]
noncomputable def Tryd.cf72:CF:=⟨2,(cSeq (cOps [⟨some 2,true,none,iBox 120 (.t 0)⟩,
 ⟨some 3,true,none,iBox 122 (.t 1)⟩,
 ⟨some 4,true,none,iMov (.c .nilFunc)⟩])
 (cSeq (cOps [⟨some 5,false,none,iFunc (.func 76) [] [(.t 3),(.t 2)]⟩,
 ⟨some 4,true,none,iMov (.t 5)⟩])
 cRet)),[.t 4]⟩
noncomputable def Tryd.kp73:List Nat:=[0,1,2,4,5,6,10,11,12]
noncomputable def Tryd.cf73:CF:=⟨2,(cSeq (cOps [⟨some 2,true,none,iBox 98 (.t 0)⟩,
 ⟨some 4,true,none,iAlloc 120 [(.bool (.lit false)),(.bool (.lit false)),(.bool (.lit false)),(.bool (.lit false)),(.bool (.lit false)),(.bool (.lit false))]⟩])
 (cSeq (cOps [⟨some 5,true,none,iAlloc 120 [(.bool (.lit false)),(.bool (.lit false)),(.bool (.lit false)),(.bool (.lit false)),(.bool (.lit false)),(.bool (.lit false))]⟩])
 (cSeq (cSeq (cOps [⟨some 7,false,none,iFaddr 0 (.t 2)⟩,
 ⟨some 8,false,none,iFaddr 0 (.t 7)⟩,
 ⟨some 9,false,none,iLoad (.t 8)⟩,
 ⟨some 10,true,none,iLenS (.t 9)⟩,
 ⟨some 11,true,none,iMov (.c (.int .i64 (.lit 0)))⟩])
 (cBlock 0 (cLoop (cSeq (cOps [⟨some 12,true,none,iCmp .lss (.t 11) (.t 10)⟩])
 (cSeq (cCond (.t 12) cSkip (cExit 0))
 (cSeq (cBlock 1 (cSeq (cOps [⟨some 13,false,none,iMov (.t 11)⟩,
 ⟨some 6,true,none,iMov (.t 13)⟩])
 (cOps [⟨some 14,false,none,iMov (.t 6)⟩,
 ⟨some 15,false,none,iMov (.t 1)⟩,
 ⟨some 16,false,none,iMov (.t 6)⟩,
 ⟨some 17,false,none,iCall (.c (.func (.func 79) [] [])) [(.t 15),(.t 16)]⟩,
 ⟨some 18,false,none,iNot (.t 17)⟩,
 ⟨some 19,false,none,iIaddrA 1 6 (.t 5) (.t 14)⟩,
 ⟨none,false,none,iStore 1 (.t 19) (.t 18)⟩])))
 (cOps [⟨some 20,false,none,iArith .add (.t 11) (.c (.int .i64 (.lit 1)))⟩,
 ⟨some 11,true,none,iMov (.t 20)⟩])))))))
 (cSeq (cOps [⟨some 21,false,none,iLoadN 6 (.t 5)⟩,
 ⟨none,false,none,iStore 6 (.t 4) (.t 21)⟩])
 cRet)))),[.cell 4 true 6]⟩
noncomputable def Tryd.kp74:List Nat:=[0,1,2,3,4,5,6,7,8,9,10,18,54]
noncomputable def Tryd.cf74:CF:=⟨2,(cSeq (cOps [⟨some 2,true,none,iBox 98 (.t 0)⟩,
 ⟨some 3,true,none,iBox 130 (.t 1)⟩,
 ⟨some 4,true,none,iAlloc 128 [(.int .i64 (.lit 0)),(.int .i64 (.lit 0))]⟩])
 (cSeq (cSeq (cOps [⟨some 12,false,none,iFaddr 6 (.t 2)⟩,
 ⟨some 13,false,none,iLoad (.t 12)⟩,
 ⟨some 14,false,none,iLoadN 3 (.t 3)⟩,
 ⟨some 15,false,none,iLookup (.agg [(.int .i64 (.lit 0)),(.int .i64 (.lit 0))]) true 3 [(0,.int),(1,.int),(2,.int)] true (.t 13) (.t 14)⟩,
 ⟨some 11,false,none,iMov (.t 15)⟩,
 ⟨some 16,false,none,iExtract 0 (.t 11)⟩,
 ⟨some 17,false,none,iExtract 1 (.t 11)⟩,
 ⟨some 5,true,none,iAlloc 128 [(.int .i64 (.lit 0)),(.int .i64 (.lit 0))]⟩,
 ⟨none,false,none,iStore 2 (.t 5) (.t 16)⟩,
 ⟨some 6,true,none,iMov (.t 17)⟩])
 (cSeq (cOps [⟨some 18,true,none,iMov (.t 6)⟩])
 (cCond (.t 18) (cSeq (cOps [⟨some 19,false,none,iLoadN 2 (.t 5)⟩,
 ⟨none,false,none,iStore 2 (.t 4) (.t 19)⟩])
 cRet) cSkip)))
 (cSeq (cOps [⟨some 20,false,none,iFaddr 0 (.t 2)⟩,
 ⟨some 21,false,none,iFaddr 0 (.t 20)⟩,
 ⟨some 22,false,none,iLoad (.t 21)⟩,
 ⟨some 23,false,none,iFaddr 0 (.t 3)⟩,
 ⟨some 24,false,none,iLoad (.t 23)⟩,
 ⟨some 25,false,none,iIaddr 6 (.t 22) (.t 24)⟩,
 ⟨some 26,false,none,iLoadN 6 (.t 25)⟩,
 ⟨some 7,true,none,iAlloc 107 [(.int .i64 (.lit 0)),(.int .i64 (.lit 0)),(.int .i64 (.lit 0)),(.int .i64 (.lit 0)),(.int .i64 (.lit 0)),(.int .i64 (.lit 0))]⟩,
 ⟨none,false,none,iStore 6 (.t 7) (.t 26)⟩])
 (cSeq (cOps [⟨some 27,false,none,iFaddr 1 (.t 3)⟩,
 ⟨some 28,false,none,iFaddr 0 (.t 27)⟩,
 ⟨some 29,false,none,iLoad (.t 28)⟩,
 ⟨some 30,false,none,iFaddr 0 (.t 7)⟩,
 ⟨some 31,false,none,iFaddr 0 (.t 30)⟩,
 ⟨some 32,false,none,iLoad (.t 31)⟩,
 ⟨some 33,false,none,iMax [(.t 29),(.t 32)]⟩,
 ⟨some 8,true,none,iMov (.t 33)⟩])
 (cSeq (cOps [⟨some 34,false,none,iMov (.t 8)⟩,
 ⟨some 35,false,none,iFaddr 2 (.t 7)⟩,
 ⟨some 36,false,none,iFaddr 0 (.t 35)⟩,
 ⟨some 37,false,none,iLoad (.t 36)⟩,
 ⟨some 38,false,none,iMax [(.t 34),(.t 37)]⟩,
 ⟨some 9,true,none,iMov (.t 38)⟩])
 (cSeq (cOps [⟨some 10,true,none,iAlloc 128 [(.int .i64 (.lit 0)),(.int .i64 (.lit 0))]⟩])
 (cSeq (cSeq (cOps [⟨some 39,false,none,iMov (.t 8)⟩,
 ⟨some 40,false,none,iFaddr 1 (.t 3)⟩,
 ⟨some 41,false,none,iFaddr 1 (.t 40)⟩,
 ⟨some 42,false,none,iLoad (.t 41)⟩,
 ⟨some 43,false,none,iFaddr 0 (.t 7)⟩,
 ⟨some 44,false,none,iFaddr 1 (.t 43)⟩,
 ⟨some 45,false,none,iLoad (.t 44)⟩,
 ⟨some 46,false,none,iMin [(.t 42),(.t 45)]⟩,
 ⟨some 47,false,none,iCmp .leq (.t 39) (.t 46)⟩,
 ⟨some 48,false,none,iMov (.t 47)⟩,
 ⟨some 49,false,some (48,true),iMov (.t 9)⟩,
 ⟨some 50,false,some (48,true),iFaddr 2 (.t 7)⟩,
 ⟨some 51,false,some (48,true),iFaddr 1 (.t 50)⟩,
 ⟨some 52,false,some (48,true),iLoad (.t 51)⟩,
 ⟨some 53,false,some (48,true),iCmp .leq (.t 49) (.t 52)⟩,
 ⟨some 54,true,none,iPick (.t 48) (.t 53) (.c (.bool (.lit false)))⟩])
 (cCond (.t 54) (cOps [⟨some 55,false,none,iMov (.t 9)⟩,
 ⟨some 56,false,none,iFaddr 2 (.t 7)⟩,
 ⟨some 57,false,none,iFaddr 1 (.t 56)⟩,
 ⟨some 58,false,none,iLoad (.t 57)⟩,
 ⟨some 59,false,none,iArith .add (.t 58) (.c (.int .i64 (.lit 1)))⟩,
 ⟨some 60,false,none,iBuild [(.int .i64 (.lit 0)),(.int .i64 (.lit 0))] [(0,1,(.t 55)),(1,1,(.t 59))]⟩,
 ⟨none,false,none,iStore 2 (.t 10) (.t 60)⟩]) cSkip))
 (cSeq (cOps [⟨some 61,false,none,iFaddr 6 (.t 2)⟩,
 ⟨some 62,false,none,iLoad (.t 61)⟩,
 ⟨some 63,false,none,iLoadN 3 (.t 3)⟩,
 ⟨some 64,false,none,iLoadN 2 (.t 10)⟩,
 ⟨none,false,none,iMapset true 3 [(0,.int),(1,.int),(2,.int)] (.t 62) (.t 63) (.t 64)⟩])
 (cSeq (cOps [⟨some 65,false,none,iLoadN 2 (.t 10)⟩,
 ⟨none,false,none,iStore 2 (.t 4) (.t 65)⟩])
 cRet))))))))),[.cell 4 true 2]⟩
noncomputable def Tryd.kp75:List Nat:=[0,1,2,3,4,5,6,13,15,16]
noncomputable def Tryd.cf75:CF:=⟨2,(cSeq (cOps [⟨some 2,true,none,iBox 52 (.t 0)⟩,
 ⟨some 3,true,none,iBox 114 (.t 1)⟩,
 ⟨some 4,true,none,iAlloc 124 [(.int .i64 (.lit 0)),(.int .i64 (.lit 0)),(.int .i64 (.lit 0)),(.int .i64 (.lit 0))]⟩])
 (cSeq (cOps [⟨some 7,false,none,iFaddr 13 (.t 2)⟩,
 ⟨some 8,false,none,iLoad (.t 7)⟩,
 ⟨some 9,false,none,iLoadN 2 (.t 3)⟩,
 ⟨some 10,false,none,iLookup (.agg [(.int .i64 (.lit 0)),(.int .i64 (.lit 0)),(.int .i64 (.lit 0)),(.int .i64 (.lit 0))]) true 2 [(0,.int),(1,.int)] false (.t 8) (.t 9)⟩,
 ⟨some 5,true,none,iAlloc 124 [(.int .i64 (.lit 0)),(.int .i64 (.lit 0)),(.int .i64 (.lit 0)),(.int .i64 (.lit 0))]⟩,
 ⟨none,false,none,iStore 4 (.t 5) (.t 10)⟩])
 (cSeq (cSeq (cOps [⟨some 11,false,none,iLoadN 4 (.t 5)⟩,
 ⟨some 12,false,none,iBuild [(.int .i64 (.lit 0)),(.int .i64 (.lit 0)),(.int .i64 (.lit 0)),(.int .i64 (.lit 0))] []⟩,
 ⟨some 13,true,none,iEq true true 4 [(0,.int),(1,.int),(2,.int),(3,.int)] (.t 11) (.t 12)⟩])
 (cCond (.t 13) (cSeq (cOps [⟨some 14,false,none,iLoadN 4 (.t 5)⟩,
 ⟨none,false,none,iStore 4 (.t 4) (.t 14)⟩])
 cRet) cSkip))
 (cSeq (cSeq (cOps [⟨some 15,true,none,iMov (.c (.int .i64 (.lit 0)))⟩])
 (cBlock 0 (cLoop (cSeq (cOps [⟨some 16,true,none,iCmp .lss (.t 15) (.c (.int .i64 (.lit 2)))⟩])
 (cSeq (cCond (.t 16) cSkip (cExit 0))
 (cSeq (cBlock 1 (cSeq (cOps [⟨some 17,false,none,iMov (.t 15)⟩,
 ⟨some 6,true,none,iMov (.t 17)⟩])
 (dOps 0 [⟨⟨some 19,false,none,iMov (.t 6)⟩,[6],false,0,1,none,[]⟩,
 ⟨⟨some 20,false,none,iFaddr 0 (.t 2)⟩,[2],false,0,0,none,[]⟩,
 ⟨⟨some 21,false,none,iFaddr 0 (.t 20)⟩,[20],false,0,0,none,[]⟩,
 ⟨⟨some 22,false,none,iLoadN 6 (.t 21)⟩,[21],false,0,0,none,[]⟩,
 ⟨⟨some 23,false,none,iFaddr 12 (.t 2)⟩,[2],false,0,0,none,[]⟩,
 ⟨⟨some 24,false,none,iLoad (.t 23)⟩,[23],false,0,0,none,[]⟩,
 ⟨⟨some 25,false,none,iFaddr 0 (.t 3)⟩,[3],false,0,0,none,[]⟩,
 ⟨⟨some 26,false,none,iLoad (.t 25)⟩,[25],false,0,0,none,[]⟩,
 ⟨⟨some 27,false,none,iFaddr 0 (.t 3)⟩,[3],false,0,0,none,[]⟩,
 ⟨⟨some 28,false,none,iLoad (.t 27)⟩,[27],false,0,0,none,[]⟩,
 ⟨⟨some 29,false,none,iArith .add (.t 28) (.c (.int .i64 (.lit 1)))⟩,[28],false,0,0,none,[]⟩,
 ⟨⟨some 30,false,none,iFaddr 0 (.t 3)⟩,[3],false,0,0,none,[]⟩,
 ⟨⟨some 31,false,none,iLoad (.t 30)⟩,[30],false,0,0,none,[]⟩,
 ⟨⟨some 32,false,none,iArith .add (.t 31) (.c (.int .i64 (.lit 1)))⟩,[31],false,0,0,none,[]⟩,
 ⟨⟨some 33,false,none,iSlice 1 (.t 24) (some (.t 26)) (some (.t 29)) (some (.t 32))⟩,[24,26,29,32],false,0,0,none,[]⟩,
 ⟨⟨some 34,false,none,iFaddr 1 (.t 3)⟩,[3],false,0,0,none,[]⟩,
 ⟨⟨some 35,false,none,iLoad (.t 34)⟩,[34],false,0,0,none,[]⟩,
 ⟨⟨some 36,false,none,iMov (.t 6)⟩,[6],false,0,0,none,[]⟩,
 ⟨⟨some 37,false,none,iArith .add (.t 35) (.t 36)⟩,[35,36],false,0,0,none,[]⟩,
 ⟨⟨some 38,false,none,iCall (.c (.func (.func 80) [] [])) [(.t 22),(.t 33),(.t 37)]⟩,[22,33,37],true,0,0,none,[]⟩,
 ⟨⟨some 18,false,none,iMov (.t 38)⟩,[38],false,1,1,none,[]⟩,
 ⟨⟨some 39,false,none,iExtract 0 (.t 18)⟩,[18],false,1,1,none,[]⟩,
 ⟨⟨some 40,false,none,iExtract 1 (.t 18)⟩,[18],false,1,2,none,[]⟩,
 ⟨⟨some 41,false,none,iIaddrA 2 2 (.t 5) (.t 19)⟩,[5,19],false,1,1,none,[]⟩,
 ⟨⟨none,false,none,iStore 2 (.t 41) (.t 39)⟩,[41,39],true,1,0,none,[]⟩])))
 (cOps [⟨some 42,false,none,iArith .add (.t 15) (.c (.int .i64 (.lit 1)))⟩,
 ⟨some 15,true,none,iMov (.t 42)⟩])))))))
 (cSeq (cOps [⟨some 43,false,none,iFaddr 13 (.t 2)⟩,
 ⟨some 44,false,none,iLoad (.t 43)⟩,
 ⟨some 45,false,none,iLoadN 2 (.t 3)⟩,
 ⟨some 46,false,none,iLoadN 4 (.t 5)⟩,
 ⟨none,false,none,iMapset true 2 [(0,.int),(1,.int)] (.t 44) (.t 45) (.t 46)⟩])
 (cSeq (cOps [⟨some 47,false,none,iLoadN 4 (.t 5)⟩,
 ⟨none,false,none,iStore 4 (.t 4) (.t 47)⟩])
 cRet)))))),[.cell 4 true 4]⟩
noncomputable def Tryd.kp76:List Nat:=[0,1,2,3,4,5,10]
noncomputable def Tryd.cf76:CF:=⟨3,(cSeq (cOps [⟨some 3,true,none,iBox 84 (.t 0)⟩])
 (cSeq (cOps [⟨some 6,false,none,iMkslice 3 [(.int .i64 (.lit 0))] 8 (.c (.int .i64 (.lit 6))) (.c (.int .i64 (.lit 6)))⟩,
 ⟨some 4,true,none,iAlloc 29 [.nilslice]⟩,
 ⟨none,false,none,iStore 1 (.t 4) (.t 6)⟩])
 (cSeq (cOps [⟨some 5,true,none,iAlloc 126 [.nilFunc]⟩])
 (cSeq (cOps [⟨some 7,false,none,iFunc (.func 77) [] [(.t 3),(.t 4),(.t 1),(.t 5)]⟩,
 ⟨none,false,none,iStore 1 (.t 5) (.t 7)⟩])
 (cSeq (cOps [⟨some 8,false,none,iLoadN 6 (.t 2)⟩,
 ⟨some 9,false,none,iBuild [(.bool (.lit false)),(.bool (.lit false)),(.bool (.lit false)),(.bool (.lit false)),(.bool (.lit false)),(.bool (.lit false))] []⟩,
 ⟨some 10,true,none,iEq true true 6 [(0,.bool),(1,.bool),(2,.bool),(3,.bool),(4,.bool),(5,.bool)] (.t 8) (.t 9)⟩])
 (cCond (.t 10) (dOps 0 [⟨⟨some 11,false,none,iLoad (.t 5)⟩,[5],false,0,1,none,[]⟩,
 ⟨⟨some 12,false,none,iLoadN 6 (.t 2)⟩,[2],false,0,1,none,[]⟩,
 ⟨⟨some 13,false,none,iCall (.c (.func (.func 78) [] [])) []⟩,[],true,0,0,none,[]⟩,
 ⟨⟨some 14,false,none,iCall (.t 11) [(.c (.int .i64 (.lit 0))),(.t 12),(.t 13)]⟩,[11,12,13],true,1,0,none,[]⟩]) cSkip)))))),[]⟩
noncomputable def Tryd.kp77:List Nat:=[0,1,2,3,4,5,6,8,9,10,11,12,13,16,23,24,29,37,51]
noncomputable def Tryd.cf77:CF:=⟨7,(cSeq (cOps [⟨some 8,true,none,iBox 120 (.t 1)⟩,
 ⟨some 9,true,none,iBox 128 (.t 2)⟩,
 ⟨some 10,true,none,iMov (.c (.bool (.lit false)))⟩])
 (cSeq (cSeq (cOps [⟨some 14,false,none,iLoadN 6 (.t 8)⟩,
 ⟨some 15,false,none,iBuild [(.bool (.lit false)),(.bool (.lit false)),(.bool (.lit false)),(.bool (.lit false)),(.bool (.lit false)),(.bool (.lit false))] []⟩,
 ⟨some 16,true,none,iEq false true 6 [(0,.bool),(1,.bool),(2,.bool),(3,.bool),(4,.bool),(5,.bool)] (.t 14) (.t 15)⟩])
 (cCond (.t 16) (cSeq (dOps 0 [⟨⟨some 17,false,none,iLoad (.t 3)⟩,[3],false,0,0,none,[]⟩,
 ⟨⟨some 18,false,none,iLoad (.t 4)⟩,[4],false,0,0,none,[]⟩,
 ⟨⟨some 19,false,none,iMov (.t 0)⟩,[0],false,0,0,none,[]⟩,
 ⟨⟨some 20,false,none,iMov (.t 0)⟩,[0],false,0,0,none,[]⟩,
 ⟨⟨some 21,false,none,iSlice 1 (.t 18) none (some (.t 19)) (some (.t 20))⟩,[18,19,20],false,0,0,none,[]⟩,
 ⟨⟨some 22,false,none,iCall (.t 17) [(.t 21)]⟩,[17,21],true,0,0,none,[]⟩,
 ⟨⟨some 10,true,none,iMov (.t 22)⟩,[22],false,1,1,none,[]⟩])
 cRet) cSkip))
 (cSeq cSkip
 (cSeq (cSeq (cOps [⟨some 23,true,none,iMov (.c (.int .i64 (.lit 0)))⟩])
 (cBlock 0 (cLoop (cSeq (cOps [⟨some 24,true,none,iCmp .lss (.t 23) (.c (.int .i64 (.lit 6)))⟩])
 (cSeq (cCond (.t 24) cSkip (cExit 0))
 (cSeq (cBlock 1 (cSeq (cOps [⟨some 25,false,none,iMov (.t 23)⟩,
 ⟨some 11,true,none,iMov (.t 25)⟩])
 (cSeq (cSeq (cOps [⟨some 26,false,none,iMov (.t 11)⟩,
 ⟨some 27,false,none,iIaddrA 1 6 (.t 8) (.t 26)⟩,
 ⟨some 28,false,none,iLoad (.t 27)⟩,
 ⟨some 29,true,none,iNot (.t 28)⟩])
 (cCond (.t 29) (cExit 1) cSkip))
 (cSeq (cOps [⟨some 30,false,none,iLoad (.t 5)⟩,
 ⟨some 31,false,none,iMov (.t 11)⟩,
 ⟨some 32,false,none,iLoadN 2 (.t 9)⟩,
 ⟨some 33,false,none,iBuild [(.int .i64 (.lit 0)),(.int .i64 (.lit 0)),(.int .i64 (.lit 0))] [(0,1,(.t 31)),(1,2,(.t 32))]⟩,
 ⟨some 34,false,none,iCall (.t 30) [(.t 33)]⟩,
 ⟨some 12,true,none,iAlloc 128 [(.int .i64 (.lit 0)),(.int .i64 (.lit 0))]⟩,
 ⟨none,false,none,iStore 2 (.t 12) (.t 34)⟩])
 (cSeq (cSeq (cOps [⟨some 35,false,none,iLoadN 2 (.t 12)⟩,
 ⟨some 36,false,none,iBuild [(.int .i64 (.lit 0)),(.int .i64 (.lit 0))] []⟩,
 ⟨some 37,true,none,iEq false true 2 [(0,.int),(1,.int)] (.t 35) (.t 36)⟩])
 (cCond (.t 37) (cExit 1) cSkip))
 (cSeq (cOps [⟨some 38,false,none,iLoad (.t 4)⟩,
 ⟨some 39,false,none,iMov (.t 0)⟩,
 ⟨some 40,false,none,iMov (.t 11)⟩,
 ⟨some 41,false,none,iIaddr 1 (.t 38) (.t 39)⟩,
 ⟨none,false,none,iStore 1 (.t 41) (.t 40)⟩])
 (cSeq (cOps [⟨some 42,false,none,iLoadN 6 (.t 8)⟩,
 ⟨some 13,true,none,iAlloc 120 [(.bool (.lit false)),(.bool (.lit false)),(.bool (.lit false)),(.bool (.lit false)),(.bool (.lit false)),(.bool (.lit false))]⟩,
 ⟨none,false,none,iStore 6 (.t 13) (.t 42)⟩])
 (cSeq (cOps [⟨some 43,false,none,iMov (.t 11)⟩,
 ⟨some 44,false,none,iIaddrA 1 6 (.t 13) (.t 43)⟩,
 ⟨none,false,none,iStore 1 (.t 44) (.c (.bool (.lit false)))⟩])
 (cSeq (cOps [⟨some 45,false,none,iLoad (.t 6)⟩,
 ⟨some 46,false,none,iMov (.t 0)⟩,
 ⟨some 47,false,none,iArith .add (.t 46) (.c (.int .i64 (.lit 1)))⟩,
 ⟨some 48,false,none,iLoadN 6 (.t 13)⟩,
 ⟨some 49,false,none,iLoadN 2 (.t 12)⟩,
 ⟨some 50,false,none,iCall (.t 45) [(.t 47),(.t 48),(.t 49)]⟩,
 ⟨some 51,true,none,iNot (.t 50)⟩])
 (cCond (.t 51) (cSeq (cOps [⟨some 10,true,none,iMov (.c (.bool (.lit false)))⟩])
 cRet) cSkip))))))))))
 (cOps [⟨some 52,false,none,iArith .add (.t 23) (.c (.int .i64 (.lit 1)))⟩,
 ⟨some 23,true,none,iMov (.t 52)⟩])))))))
 (cSeq (cOps [⟨some 10,true,none,iMov (.c (.bool (.lit true)))⟩])
 cRet))))),[.t 10]⟩
noncomputable def Tryd.kp78:List Nat:=[0]
noncomputable def Tryd.cf78:CF:=⟨0,(cSeq (cOps [⟨some 0,true,none,iAlloc 128 [(.int .i64 (.lit 0)),(.int .i64 (.lit 0))]⟩])
 (cSeq (cOps [⟨some 1,false,none,iBuild [(.int .i64 (.lit 0)),(.int .i64 (.lit 0))] [(0,1,(.c (.int .i64 (.lit 0)))),(1,1,(.c (.int .i64 (.lit 100))))]⟩,
 ⟨none,false,none,iStore 2 (.t 0) (.t 1)⟩])
 cRet)),[.cell 0 true 2]⟩
noncomputable def Tryd.kp79:List Nat:=[0,1,4]
noncomputable def Tryd.cf79:CF:=⟨2,(cSeq (cOps [⟨some 4,true,none,iMov (.c (.bool (.lit false)))⟩])
 (cSeq (cOps [⟨some 5,false,none,iMov (.t 0)⟩,
 ⟨some 6,false,none,iMov (.t 1)⟩,
 ⟨some 7,false,none,iCall (.c (.func (.func 81) [] [])) [(.t 5),(.t 6)]⟩,
 ⟨some 8,false,none,iCmp .geq (.t 7) (.c (.int .i64 (.lit 0)))⟩,
 ⟨some 4,true,none,iMov (.t 8)⟩])
 cRet)),[.t 4]⟩
noncomputable def Tryd.kp80:List Nat:=[0,1,2,3,6,7,8,9,16,27]
noncomputable def Tryd.cf80:CF:=⟨3,(cSeq (cOps [⟨some 3,true,none,iBox 26 (.t 0)⟩,
 ⟨some 6,true,none,iAlloc 24 [(.int .i64 (.lit 0)),(.int .i64 (.lit 0))]⟩,
 ⟨some 7,true,none,iMov (.c (.int .i64 (.lit 0)))⟩])
 (cSeq (cOps [⟨some 11,false,none,iLoadN 6 (.t 3)⟩,
 ⟨some 12,false,none,iCall (.c (.func (.func 57) [] [])) [(.t 11)]⟩,
 ⟨some 10,false,none,iMov (.t 12)⟩,
 ⟨some 13,false,none,iExtract 0 (.t 10)⟩,
 ⟨some 14,false,none,iExtract 1 (.t 10)⟩,
 ⟨some 8,true,none,iAlloc 98 [.nilslice,(.int .i64 (.lit 0)),(.int .i64 (.lit 0)),(.int .i64 (.lit 0)),(.int .i64 (.lit 0)),(.int .i64 (.lit 0)),.nilmap]⟩,
 ⟨none,false,none,iStore 7 (.t 8) (.t 13)⟩,
 ⟨some 9,true,none,iMov (.t 14)⟩])
 (cSeq (cSeq (cOps [⟨some 15,false,none,iMov (.t 9)⟩,
 ⟨some 16,true,none,iCmp .neq (.t 15) (.c (.int .i64 (.lit 0)))⟩])
 (cCond (.t 16) (cSeq (cOps [⟨some 17,false,none,iBuild [(.int .i64 (.lit 0)),(.int .i64 (.lit 0))] []⟩,
 ⟨some 18,false,none,iMov (.t 9)⟩,
 ⟨none,false,none,iStore 2 (.t 6) (.t 17)⟩,
 ⟨some 7,true,none,iMov (.t 18)⟩])
 cRet) cSkip))
 (cSeq (cSeq (cOps [⟨some 19,false,none,iLoadN 7 (.t 8)⟩,
 ⟨some 20,false,none,iMov (.t 1)⟩,
 ⟨some 21,false,none,iCall (.c (.func (.func 82) [] [])) [(.t 19),(.t 20)]⟩,
 ⟨some 22,false,none,iNot (.t 21)⟩,
 ⟨some 23,false,none,iMov (.t 22)⟩,
 ⟨some 24,false,some (23,false),iMov (.t 2)⟩,
 ⟨some 25,false,some (23,false),iCall (.c (.func (.func 83) [] [])) [(.t 24)]⟩,
 ⟨some 26,false,some (23,false),iNot (.t 25)⟩,
 ⟨some 27,true,none,iPick (.t 23) (.c (.bool (.lit true))) (.t 26)⟩])
 (cCond (.t 27) (cSeq (cOps [⟨some 28,false,none,iBuild [(.int .i64 (.lit 0)),(.int .i64 (.lit 0))] []⟩,
 ⟨none,false,none,iStore 2 (.t 6) (.t 28)⟩,
 ⟨some 7,true,none,iMov (.c (.int .i64 (.lit 11)))⟩])
 cRet) cSkip))
 (cSeq (cOps [⟨some 29,false,none,iLoadN 7 (.t 8)⟩,
 ⟨some 30,false,none,iMov (.t 1)⟩,
 ⟨some 31,false,none,iMov (.t 2)⟩,
 ⟨some 32,false,none,iCall (.c (.func (.func 84) [] [])) [(.t 29),(.t 30),(.t 31)]⟩,
 ⟨none,false,none,iStore 2 (.t 6) (.t 32)⟩,
 ⟨some 7,true,none,iMov (.c (.int .i64 (.lit 0)))⟩])
 cRet))))),[.cell 6 true 2,.t 7]⟩
noncomputable def Tryd.kp81:List Nat:=[0,1,4,5,7,8,9,16]
noncomputable def Tryd.cf81:CF:=⟨2,(cSeq (cOps [⟨some 4,true,none,iMov (.c (.int .i64 (.lit 0)))⟩])
 (cSeq (cSeq (cOps [⟨some 6,false,none,iMov (.t 0)⟩,
 ⟨some 7,true,none,iLenS (.t 6)⟩,
 ⟨some 8,true,none,iMov (.c (.int .i64 (.lit 0)))⟩])
 (cBlock 0 (cLoop (cSeq (cOps [⟨some 9,true,none,iCmp .lss (.t 8) (.t 7)⟩])
 (cSeq (cCond (.t 9) cSkip (cExit 0))
 (cSeq (cBlock 1 (cSeq (cOps [⟨some 10,false,none,iMov (.t 8)⟩,
 ⟨some 5,true,none,iMov (.t 10)⟩])
 (cSeq (cOps [⟨some 11,false,none,iMov (.t 1)⟩,
 ⟨some 12,false,none,iMov (.t 0)⟩,
 ⟨some 13,false,none,iMov (.t 5)⟩,
 ⟨some 14,false,none,iIaddr 1 (.t 12) (.t 13)⟩,
 ⟨some 15,false,none,iLoad (.t 14)⟩,
 ⟨some 16,true,none,iCmp .eql (.t 11) (.t 15)⟩])
 (cCond (.t 16) (cSeq (cOps [⟨some 17,false,none,iMov (.t 5)⟩,
 ⟨some 4,true,none,iMov (.t 17)⟩])
 cRet) cSkip))))
 (cOps [⟨some 18,false,none,iArith .add (.t 8) (.c (.int .i64 (.lit 1)))⟩,
 ⟨some 8,true,none,iMov (.t 18)⟩])))))))
 (cSeq (cOps [⟨some 4,true,none,iMov (.c (.int .i64 (.lit (-1))))⟩])
 cRet))),[.t 4]⟩
noncomputable def Tryd.kp82:List Nat:=[0,1,2,4,5,7,8,9,10,11,22]
noncomputable def Tryd.cf82:CF:=⟨2,(cSeq (cOps [⟨some 2,true,none,iBox 98 (.t 0)⟩,
 ⟨some 4,true,none,iMov (.c (.bool (.lit false)))⟩])
 (cSeq (cOps [⟨some 5,true,none,iAlloc 120 [(.bool (.lit false)),(.bool (.lit false)),(.bool (.lit false)),(.bool (.lit false)),(.bool (.lit false)),(.bool (.lit false))]⟩])
 (cSeq (cSeq (cOps [⟨some 8,true,none,iMov (.t 1)⟩,
 ⟨some 9,true,none,iLenS (.t 8)⟩,
 ⟨some 10,true,none,iMov (.c (.int .i64 (.lit 0)))⟩])
 (cBlock 0 (cLoop (cSeq (cOps [⟨some 11,true,none,iCmp .lss (.t 10) (.t 9)⟩])
 (cSeq (cCond (.t 11) cSkip (cExit 0))
 (cSeq (cBlock 1 (cSeq (cOps [⟨some 12,false,none,iIaddr 1 (.t 8) (.t 10)⟩,
 ⟨some 13,false,none,iLoad (.t 12)⟩,
 ⟨some 7,true,none,iMov (.t 13)⟩])
 (cSeq (cSeq (cOps [⟨some 14,false,none,iLoadN 7 (.t 2)⟩,
 ⟨some 15,false,none,iMov (.t 7)⟩,
 ⟨some 16,false,none,iCall (.c (.func (.func 85) [] [])) [(.t 14),(.t 15)]⟩,
 ⟨some 17,false,none,iNot (.t 16)⟩,
 ⟨some 18,false,none,iMov (.t 17)⟩,
 ⟨some 19,false,some (18,false),iMov (.t 7)⟩,
 ⟨some 20,false,some (18,false),iIaddrA 1 6 (.t 5) (.t 19)⟩,
 ⟨some 21,false,some (18,false),iLoad (.t 20)⟩,
 ⟨some 22,true,none,iPick (.t 18) (.c (.bool (.lit true))) (.t 21)⟩])
 (cCond (.t 22) (cSeq (cOps [⟨some 4,true,none,iMov (.c (.bool (.lit false)))⟩])
 cRet) cSkip))
 (cOps [⟨some 23,false,none,iMov (.t 7)⟩,
 ⟨some 24,false,none,iIaddrA 1 6 (.t 5) (.t 23)⟩,
 ⟨none,false,none,iStore 1 (.t 24) (.c (.bool (.lit true)))⟩]))))
 (cOps [⟨some 25,false,none,iArith .add (.t 10) (.c (.int .i64 (.lit 1)))⟩,
 ⟨some 10,true,none,iMov (.t 25)⟩])))))))
 (cSeq (cOps [⟨some 4,true,none,iMov (.c (.bool (.lit true)))⟩])
 cRet)))),[.t 4]⟩
noncomputable def Tryd.kp83:List Nat:=[0,2]
noncomputable def Tryd.cf83:CF:=⟨1,(cSeq (cOps [⟨some 2,true,none,iMov (.c (.bool (.lit false)))⟩])
 (cSeq (cOps [⟨some 3,false,none,iMov (.t 0)⟩,
 ⟨some 4,false,none,iCmp .geq (.t 3) (.c (.int .i64 (.lit 0)))⟩,
 ⟨some 5,false,none,iMov (.t 4)⟩,
 ⟨some 6,false,some (5,true),iMov (.t 0)⟩,
 ⟨some 7,false,some (5,true),iCmp .leq (.t 6) (.c (.int .i64 (.lit 999)))⟩,
 ⟨some 8,false,none,iPick (.t 5) (.t 7) (.c (.bool (.lit false)))⟩,
 ⟨some 2,true,none,iMov (.t 8)⟩])
 cRet)),[.t 2]⟩
noncomputable def Tryd.kp84:List Nat:=[0,1,2,3,4,5,6]
noncomputable def Tryd.cf84:CF:=⟨3,(cSeq (cOps [⟨some 3,true,none,iBox 98 (.t 0)⟩,
 ⟨some 4,true,none,iBox 29 (.t 1)⟩,
 ⟨some 5,true,none,iBox 3 (.t 2)⟩,
 ⟨some 6,true,none,iAlloc 24 [(.int .i64 (.lit 0)),(.int .i64 (.lit 0))]⟩])
 (cSeq (cOps [⟨some 7,false,none,iFunc (.func 87) [] [(.t 4),(.t 3),(.t 5)]⟩,
 ⟨some 8,false,none,iCall (.c (.func (.func 86) [] [])) [(.t 7)]⟩,
 ⟨none,false,none,iStore 2 (.t 6) (.t 8)⟩])
 cRet)),[.cell 6 true 2]⟩
noncomputable def Tryd.kp85:List Nat:=[0,1,2,4]
noncomputable def Tryd.cf85:CF:=⟨2,(cSeq (cOps [⟨some 2,true,none,iBox 98 (.t 0)⟩,
 ⟨some 4,true,none,iMov (.c (.bool (.lit false)))⟩])
 (cSeq (cOps [⟨some 5,false,none,iMov (.t 1)⟩,
 ⟨some 6,false,none,iCmp .geq (.t 5) (.c (.int .i64 (.lit 0)))⟩,
 ⟨some 7,false,none,iMov (.t 6)⟩,
 ⟨some 8,false,some (7,true),iMov (.t 1)⟩,
 ⟨some 9,false,some (7,true),iFaddr 0 (.t 2)⟩,
 ⟨some 10,false,some (7,true),iFaddr 0 (.t 9)⟩,
 ⟨some 11,false,some (7,true),iLoad (.t 10)⟩,
 ⟨some 12,false,some (7,true),iLenS (.t 11)⟩,
 ⟨some 13,false,some (7,true),iCmp .lss (.t 8) (.t 12)⟩,
 ⟨some 14,false,none,iPick (.t 7) (.t 13) (.c (.bool (.lit false)))⟩,
 ⟨some 4,true,none,iMov (.t 14)⟩])
 cRet)),[.t 4]⟩
noncomputable def Tryd.kp86:List Nat:=[0,2,3,4]
noncomputable def Tryd.cf86:CF:=⟨1,(cSeq (cOps [⟨some 2,true,none,iAlloc 24 [(.int .i64 (.lit 0)),(.int .i64 (.lit 0))]⟩])
 (cSeq (cOps [⟨some 6,false,none,iCall (.c (.func (.func 90) [] [])) []⟩,
 ⟨some 5,false,none,iMov (.t 6)⟩,
 ⟨some 7,false,none,iExtract 0 (.t 5)⟩,
 ⟨some 8,false,none,iExtract 1 (.t 5)⟩,
 ⟨some 3,true,none,iAlloc 139 [.nilFunc,.nilFunc]⟩,
 ⟨some 4,true,none,iAlloc 139 [.nilFunc,.nilFunc]⟩,
 ⟨none,false,none,iStore 2 (.t 3) (.t 7)⟩,
 ⟨none,false,none,iStore 2 (.t 4) (.t 8)⟩])
 (cSeq (dOps 0 [⟨⟨some 9,false,none,iMov (.t 0)⟩,[0],false,0,0,none,[]⟩,
 ⟨⟨some 10,false,none,iLoadN 2 (.t 3)⟩,[3],false,0,0,none,[]⟩,
 ⟨⟨some 11,false,none,iCall (.t 9) [(.t 10)]⟩,[9,10],true,0,0,none,[]⟩,
 ⟨⟨some 12,false,none,iMov (.t 0)⟩,[0],false,0,1,none,[]⟩,
 ⟨⟨some 13,false,none,iLoadN 2 (.t 4)⟩,[4],false,0,1,none,[]⟩,
 ⟨⟨some 14,false,none,iCall (.t 12) [(.t 13)]⟩,[12,13],true,1,0,none,[]⟩,
 ⟨⟨some 15,false,none,iBuild [(.int .i64 (.lit 0)),(.int .i64 (.lit 0))] [(0,1,(.t 11)),(1,1,(.t 14))]⟩,[11,14],false,2,2,none,[]⟩,
 ⟨⟨none,false,none,iStore 2 (.t 2) (.t 15)⟩,[2,15],true,2,0,none,[]⟩])
 cRet))),[.cell 2 true 2]⟩
noncomputable def Tryd.kp87:List Nat:=[0,1,2,3,4,5,6,7,8,12,13,14,15]
noncomputable def Tryd.cf87:CF:=⟨4,(cSeq (cOps [⟨some 4,true,none,iBox 139 (.t 0)⟩,
 ⟨some 5,true,none,iMov (.c (.int .i64 (.lit 0)))⟩])
 (cSeq (cOps [⟨some 9,false,none,iLoad (.t 1)⟩,
 ⟨some 10,false,none,iLenS (.t 9)⟩,
 ⟨some 11,false,none,iMkslice 3 [(.int .i64 (.lit 0))] 8 (.t 10) (.t 10)⟩,
 ⟨some 6,true,none,iMov (.t 11)⟩])
 (cSeq (cSeq (cOps [⟨some 12,true,none,iLoad (.t 1)⟩,
 ⟨some 13,true,none,iLenS (.t 12)⟩,
 ⟨some 14,true,none,iMov (.c (.int .i64 (.lit 0)))⟩])
 (cBlock 0 (cLoop (cSeq (cOps [⟨some 15,true,none,iCmp .lss (.t 14) (.t 13)⟩])
 (cSeq (cCond (.t 15) cSkip (cExit 0))
 (cSeq (cBlock 1 (cSeq (cOps [⟨some 16,false,none,iMov (.t 14)⟩,
 ⟨some 17,false,none,iIaddr 1 (.t 12) (.t 14)⟩,
 ⟨some 18,false,none,iLoad (.t 17)⟩,
 ⟨some 7,true,none,iMov (.t 16)⟩,
 ⟨some 8,true,none,iMov (.t 18)⟩])
 (cOps [⟨some 19,false,none,iMov (.t 6)⟩,
 ⟨some 20,false,none,iMov (.t 7)⟩,
 ⟨some 21,false,none,iLoadN 7 (.t 2)⟩,
 ⟨some 22,false,none,iMov (.t 8)⟩,
 ⟨some 23,false,none,iLoad (.t 3)⟩,
 ⟨some 24,false,none,iLoadN 2 (.t 4)⟩,
 ⟨some 25,false,none,iCall (.c (.func (.func 88) [] [])) [(.t 21),(.t 22),(.t 23),(.t 24)]⟩,
 ⟨some 26,false,none,iIaddr 1 (.t 19) (.t 20)⟩,
 ⟨none,false,none,iStore 1 (.t 26) (.t 25)⟩])))
 (cOps [⟨some 27,false,none,iArith .add (.t 14) (.c (.int .i64 (.lit 1)))⟩,
 ⟨some 14,true,none,iMov (.t 27)⟩])))))))
 (cSeq (dOps 0 [⟨⟨some 28,false,none,iMov (.t 6)⟩,[6],false,0,0,none,[]⟩,
 ⟨⟨some 29,false,none,iCall (.c (.func (.func 89) [] [])) [(.t 28)]⟩,[28],true,0,0,none,[]⟩,
 ⟨⟨some 30,false,none,iFaddr 0 (.t 4)⟩,[4],false,0,1,none,[]⟩,
 ⟨⟨some 31,false,none,iLoad (.t 30)⟩,[30],false,0,1,none,[]⟩,
 ⟨⟨some 32,false,none,iFaddr 0 (.t 2)⟩,[2],false,0,1,none,[]⟩,
 ⟨⟨some 33,false,none,iFaddr 1 (.t 32)⟩,[32],false,0,1,none,[]⟩,
 ⟨⟨some 34,false,none,iLoadN 2 (.t 33)⟩,[33],false,0,1,none,[]⟩,
 ⟨⟨some 35,false,none,iCall (.t 31) [(.t 34)]⟩,[31,34],true,1,0,none,[]⟩,
 ⟨⟨some 36,false,none,iArith .mul (.t 29) (.t 35)⟩,[29,35],false,2,2,none,[]⟩,
 ⟨⟨some 5,true,none,iMov (.t 36)⟩,[36],false,2,2,none,[]⟩])
 cRet)))),[.t 5]⟩
noncomputable def Tryd.kp88:List Nat:=[0,1,2,3,4,7,8,9,10]
noncomputable def Tryd.cf88:CF:=⟨4,(cSeq (cOps [⟨some 4,true,none,iBox 98 (.t 0)⟩,
 ⟨some 7,true,none,iBox 139 (.t 3)⟩,
 ⟨some 8,true,none,iMov (.c (.int .i64 (.lit 0)))⟩])
 (cSeq (dOps 0 [⟨⟨some 11,false,none,iFaddr 0 (.t 7)⟩,[7],false,0,0,none,[]⟩,
 ⟨⟨some 12,false,none,iLoad (.t 11)⟩,[11],false,0,0,none,[]⟩,
 ⟨⟨some 13,false,none,iFaddr 0 (.t 4)⟩,[4],false,0,0,none,[]⟩,
 ⟨⟨some 14,false,none,iFaddr 0 (.t 13)⟩,[13],false,0,0,none,[]⟩,
 ⟨⟨some 15,false,none,iLoad (.t 14)⟩,[14],false,0,0,none,[]⟩,
 ⟨⟨some 16,false,none,iMov (.t 1)⟩,[1],false,0,0,none,[]⟩,
 ⟨⟨some 17,false,none,iIaddr 6 (.t 15) (.t 16)⟩,[15,16],false,0,0,none,[]⟩,
 ⟨⟨some 18,false,none,iFaddr 4 (.t 17)⟩,[17],false,0,0,none,[]⟩,
 ⟨⟨some 19,false,none,iLoadN 2 (.t 18)⟩,[18],false,0,0,none,[]⟩,
 ⟨⟨some 20,false,none,iCall (.t 12) [(.t 19)]⟩,[12,19],true,0,0,none,[]⟩,
 ⟨⟨some 21,false,none,iFaddr 1 (.t 7)⟩,[7],false,0,1,none,[]⟩,
 ⟨⟨some 22,false,none,iLoad (.t 21)⟩,[21],false,0,1,none,[]⟩,
 ⟨⟨some 23,false,none,iFaddr 0 (.t 4)⟩,[4],false,0,1,none,[]⟩,
 ⟨⟨some 24,false,none,iFaddr 3 (.t 23)⟩,[23],false,0,1,none,[]⟩,
 ⟨⟨some 25,false,none,iLoadN 2 (.t 24)⟩,[24],false,0,1,none,[]⟩,
 ⟨⟨some 26,false,none,iCall (.t 22) [(.t 25)]⟩,[22,25],true,1,0,none,[]⟩,
 ⟨⟨some 9,true,none,iMov (.t 20)⟩,[20],false,2,2,none,[]⟩,
 ⟨⟨some 10,true,none,iMov (.t 26)⟩,[26],false,2,2,none,[]⟩])
 (cSeq (cOps [⟨some 27,false,none,iMov (.t 9)⟩,
 ⟨some 28,false,none,iMov (.t 2)⟩,
 ⟨some 29,false,none,iMov (.t 10)⟩,
 ⟨some 30,false,none,iArith .mul (.t 28) (.t 29)⟩,
 ⟨some 31,false,none,iArith .sub (.t 27) (.t 30)⟩,
 ⟨some 32,false,none,iMax [(.c (.int .i64 (.lit 0))),(.t 31)]⟩,
 ⟨some 8,true,none,iMov (.t 32)⟩])
 cRet))),[.t 8]⟩
noncomputable def Tryd.kp89:List Nat:=[0,2,3,5,6,7,8,9]
noncomputable def Tryd.cf89:CF:=⟨1,(cSeq (cOps [⟨some 2,true,none,iMov (.c (.int .i64 (.lit 0)))⟩])
 (cSeq (cOps [⟨some 3,true,none,iMov (.c (.int .i64 (.lit 0)))⟩])
 (cSeq (cSeq (cOps [⟨some 6,true,none,iMov (.t 0)⟩,
 ⟨some 7,true,none,iLenS (.t 6)⟩,
 ⟨some 8,true,none,iMov (.c (.int .i64 (.lit 0)))⟩])
 (cBlock 0 (cLoop (cSeq (cOps [⟨some 9,true,none,iCmp .lss (.t 8) (.t 7)⟩])
 (cSeq (cCond (.t 9) cSkip (cExit 0))
 (cSeq (cBlock 1 (cSeq (cOps [⟨some 10,false,none,iIaddr 1 (.t 6) (.t 8)⟩,
 ⟨some 11,false,none,iLoad (.t 10)⟩,
 ⟨some 5,true,none,iMov (.t 11)⟩])
 (cOps [⟨some 12,false,none,iMov (.t 3)⟩,
 ⟨some 13,false,none,iMov (.t 5)⟩,
 ⟨some 14,false,none,iArith .add (.t 12) (.t 13)⟩,
 ⟨some 3,true,none,iMov (.t 14)⟩])))
 (cOps [⟨some 15,false,none,iArith .add (.t 8) (.c (.int .i64 (.lit 1)))⟩,
 ⟨some 8,true,none,iMov (.t 15)⟩])))))))
 (cSeq (cOps [⟨some 16,false,none,iMov (.t 3)⟩,
 ⟨some 2,true,none,iMov (.t 16)⟩])
 cRet)))),[.t 2]⟩
noncomputable def Tryd.kp90:List Nat:=[0,1,2]
noncomputable def Tryd.cf90:CF:=⟨0,(cSeq (cOps [⟨some 0,true,none,iAlloc 139 [.nilFunc,.nilFunc]⟩,
 ⟨some 1,true,none,iAlloc 139 [.nilFunc,.nilFunc]⟩])
 (cSeq (cOps [⟨some 3,false,none,iBuild [.nilFunc,.nilFunc] [(0,1,(.c (.func (.func 91) [] []))),(1,1,(.c (.func (.func 92) [] [])))]⟩,
 ⟨some 4,false,none,iBuild [.nilFunc,.nilFunc] [(0,1,(.c (.func (.func 92) [] []))),(1,1,(.c (.func (.func 91) [] [])))]⟩,
 ⟨some 5,false,none,iBuild [.nilFunc,.nilFunc,.nilFunc,.nilFunc] [(0,2,(.t 3)),(2,2,(.t 4))]⟩,
 ⟨some 2,true,none,iAlloc 146 [.nilFunc,.nilFunc,.nilFunc,.nilFunc]⟩,
 ⟨none,false,none,iStore 4 (.t 2) (.t 5)⟩])
 (cSeq (dOps 0 [⟨⟨some 6,false,none,iIaddrA 2 2 (.t 2) (.c (.int .i64 (.lit 0)))⟩,[2],false,0,0,none,[]⟩,
 ⟨⟨some 7,false,none,iLoadN 2 (.t 6)⟩,[6],false,0,0,none,[]⟩,
 ⟨⟨some 8,false,none,iIaddrA 2 2 (.t 2) (.c (.int .i64 (.lit 1)))⟩,[2],false,0,1,none,[]⟩,
 ⟨⟨some 9,false,none,iLoadN 2 (.t 8)⟩,[8],false,0,1,none,[]⟩,
 ⟨⟨none,false,none,iStore 2 (.t 0) (.t 7)⟩,[0,7],true,0,0,none,[]⟩,
 ⟨⟨none,false,none,iStore 2 (.t 1) (.t 9)⟩,[1,9],true,1,0,none,[]⟩])
 cRet))),[.cell 0 true 2,.cell 1 true 2]⟩
noncomputable def Tryd.kp91:List Nat:=[0,1,2]
noncomputable def Tryd.cf91:CF:=⟨1,(cSeq (cOps [⟨some 1,true,none,iBox 142 (.t 0)⟩,
 ⟨some 2,true,none,iMov (.c (.int .i64 (.lit 0)))⟩])
 (cSeq (cOps [⟨some 3,false,none,iFaddr 0 (.t 1)⟩,
 ⟨some 4,false,none,iLoad (.t 3)⟩,
 ⟨some 2,true,none,iMov (.t 4)⟩])
 cRet)),[.t 2]⟩
noncomputable def Tryd.kp92:List Nat:=[0,1,2]
noncomputable def Tryd.cf92:CF:=⟨1,(cSeq (cOps [⟨some 1,true,none,iBox 142 (.t 0)⟩,
 ⟨some 2,true,none,iMov (.c (.int .i64 (.lit 0)))⟩])
 (cSeq (cOps [⟨some 3,false,none,iFaddr 1 (.t 1)⟩,
 ⟨some 4,false,none,iLoad (.t 3)⟩,
 ⟨some 2,true,none,iMov (.t 4)⟩])
 cRet)),[.t 2]⟩
noncomputable def Tryd.ft:PT CF:=(.node none (.node none (.node none (.node (some Tryd.cf7) (.node (some Tryd.cf15) (.node none (.node (some Tryd.cf63) .nil .nil) .nil) (.node (some Tryd.cf47) (.node (some Tryd.cf79) .nil .nil) .nil)) (.node (some Tryd.cf23) (.node (some Tryd.cf39) (.node (some Tryd.cf71) .nil .nil) .nil) (.node (some Tryd.cf55) (.node (some Tryd.cf87) .nil .nil) .nil))) (.node (some Tryd.cf11) (.node (some Tryd.cf19) (.node (some Tryd.cf35) (.node (some Tryd.cf67) .nil .nil) .nil) (.node (some Tryd.cf51) (.node (some Tryd.cf83) .nil .nil) .nil)) (.node (some Tryd.cf27) (.node (some Tryd.cf43) (.node (some Tryd.cf75) .nil .nil) .nil) (.node (some Tryd.cf59) (.node (some Tryd.cf91) .nil .nil) .nil)))) (.node (some Tryd.cf5) (.node none (.node (some Tryd.cf17) (.node (some Tryd.cf33) (.node (some Tryd.cf65) .nil .nil) .nil) (.node (some Tryd.cf49) (.node (some Tryd.cf81) .nil .nil) .nil)) (.node (some Tryd.cf25) (.node (some Tryd.cf41) (.node (some Tryd.cf73) .nil .nil) .nil) (.node (some Tryd.cf57) (.node (some Tryd.cf89) .nil .nil) .nil))) (.node (some Tryd.cf13) (.node (some Tryd.cf21) (.node (some Tryd.cf37) (.node (some Tryd.cf69) .nil .nil) .nil) (.node (some Tryd.cf53) (.node (some Tryd.cf85) .nil .nil) .nil)) (.node (some Tryd.cf29) (.node (some Tryd.cf45) (.node (some Tryd.cf77) .nil .nil) .nil) (.node (some Tryd.cf61) .nil .nil))))) (.node none (.node none (.node (some Tryd.cf8) (.node (some Tryd.cf16) (.node none (.node (some Tryd.cf64) .nil .nil) .nil) (.node (some Tryd.cf48) (.node (some Tryd.cf80) .nil .nil) .nil)) (.node (some Tryd.cf24) (.node (some Tryd.cf40) (.node (some Tryd.cf72) .nil .nil) .nil) (.node (some Tryd.cf56) (.node (some Tryd.cf88) .nil .nil) .nil))) (.node none (.node (some Tryd.cf20) (.node (some Tryd.cf36) (.node (some Tryd.cf68) .nil .nil) .nil) (.node (some Tryd.cf52) (.node (some Tryd.cf84) .nil .nil) .nil)) (.node (some Tryd.cf28) (.node (some Tryd.cf44) (.node (some Tryd.cf76) .nil .nil) .nil) (.node (some Tryd.cf60) (.node (some Tryd.cf92) .nil .nil) .nil)))) (.node (some Tryd.cf6) (.node none (.node (some Tryd.cf18) (.node (some Tryd.cf34) (.node (some Tryd.cf66) .nil .nil) .nil) (.node (some Tryd.cf50) (.node (some Tryd.cf82) .nil .nil) .nil)) (.node (some Tryd.cf26) (.node (some Tryd.cf42) (.node (some Tryd.cf74) .nil .nil) .nil) (.node (some Tryd.cf58) (.node (some Tryd.cf90) .nil .nil) .nil))) (.node (some Tryd.cf14) (.node (some Tryd.cf22) (.node (some Tryd.cf38) (.node (some Tryd.cf70) .nil .nil) .nil) (.node (some Tryd.cf54) (.node (some Tryd.cf86) .nil .nil) .nil)) (.node (some Tryd.cf30) (.node (some Tryd.cf46) (.node (some Tryd.cf78) .nil .nil) .nil) (.node (some Tryd.cf62) .nil .nil))))))
noncomputable def Tryd.rt:List (Nat × (C × C)):=[(19011,(Tryd.ra19011,Tryd.rb19011)),(39017,(Tryd.ra39017,Tryd.rb39017))]
end Go.Sx
/-! THE TABLES ARE THE PROGRAM's. -/
namespace Go.Sx
open Go.Proofs
set_option maxRecDepth 100000
theorem Tryd.tyk3:TyRow Tryd.prog 3 Sx.Tryd.ti3:=TyRow.of' Sx.Tryd.ti3 Tryd.t3 Tryd.underlying3 Tryd.type3 rfl rfl (fun _=>by kernel_rfl) (fun h=>by cases h)
theorem Tryd.tyk4:TyRow Tryd.prog 4 Sx.Tryd.ti4:=TyRow.of' Sx.Tryd.ti4 Tryd.t4 Tryd.underlying4 Tryd.type4 rfl rfl (fun _=>by kernel_rfl) (fun h=>by cases h)
theorem Tryd.tyk22:TyRow Tryd.prog 22 Sx.Tryd.ti22:=TyRow.of' Sx.Tryd.ti22 Tryd.t22 Tryd.underlying22 Tryd.type22 rfl rfl (fun _=>by kernel_rfl) (fun h=>by cases h)
theorem Tryd.tyk24:TyRow Tryd.prog 24 Sx.Tryd.ti24:=TyRow.of' Sx.Tryd.ti24 Tryd.t24 Tryd.underlying24 Tryd.type24 rfl rfl (fun _=>by kernel_rfl) (fun _=>⟨by kernel_rfl,by kernel_rfl⟩)
theorem Tryd.tyk26:TyRow Tryd.prog 26 Sx.Tryd.ti26:=TyRow.of' Sx.Tryd.ti26 Tryd.t26 Tryd.underlying26 Tryd.type26 rfl rfl (fun _=>by kernel_rfl) (fun _=>⟨by kernel_rfl,by kernel_rfl⟩)
theorem Tryd.tyk28:TyRow Tryd.prog 28 Sx.Tryd.ti28:=TyRow.of' Sx.Tryd.ti28 Tryd.t28 Tryd.underlying28 Tryd.type28 rfl rfl (fun _=>by kernel_rfl) (fun _=>⟨by kernel_rfl,by kernel_rfl⟩)
theorem Tryd.tyk29:TyRow Tryd.prog 29 Sx.Tryd.ti29:=TyRow.of' Sx.Tryd.ti29 Tryd.t29 Tryd.underlying29 Tryd.type29 rfl rfl (fun _=>by kernel_rfl) (fun h=>by cases h)
theorem Tryd.tyk30:TyRow Tryd.prog 30 Sx.Tryd.ti30:=TyRow.of' Sx.Tryd.ti30 Tryd.t30 Tryd.underlying30 Tryd.type30 rfl rfl (fun _=>by kernel_rfl) (fun h=>by cases h)
theorem Tryd.tyk40:TyRow Tryd.prog 40 Sx.Tryd.ti40:=TyRow.of' Sx.Tryd.ti40 Tryd.t40 Tryd.underlying40 Tryd.type40 rfl rfl (fun _=>by kernel_rfl) (fun _=>⟨by kernel_rfl,by kernel_rfl⟩)
theorem Tryd.tyk47:TyRow Tryd.prog 47 Sx.Tryd.ti47:=TyRow.of' Sx.Tryd.ti47 Tryd.t47 Tryd.underlying47 Tryd.type47 rfl rfl (fun _=>by kernel_rfl) (fun _=>⟨by kernel_rfl,by kernel_rfl⟩)
theorem Tryd.tyk50:TyRow Tryd.prog 50 Sx.Tryd.ti50:=TyRow.of' Sx.Tryd.ti50 Tryd.t50 Tryd.underlying50 Tryd.type50 rfl rfl (fun _=>by kernel_rfl) (fun h=>by cases h)
theorem Tryd.tyk52:TyRow Tryd.prog 52 Sx.Tryd.ti52:=TyRow.of' Sx.Tryd.ti52 Tryd.t52 Tryd.underlying52 Tryd.type52 rfl rfl (fun _=>by kernel_rfl) (fun _=>⟨by kernel_rfl,by kernel_rfl⟩)
theorem Tryd.tyk56:TyRow Tryd.prog 56 Sx.Tryd.ti56:=TyRow.of' Sx.Tryd.ti56 Tryd.t56 Tryd.underlying56 Tryd.type56 rfl rfl (fun _=>by kernel_rfl) (fun h=>by cases h)
theorem Tryd.tyk58:TyRow Tryd.prog 58 Sx.Tryd.ti58:=TyRow.of' Sx.Tryd.ti58 Tryd.t58 Tryd.underlying58 Tryd.type58 rfl rfl (fun _=>by kernel_rfl) (fun _=>⟨by kernel_rfl,by kernel_rfl⟩)
theorem Tryd.tyk65:TyRow Tryd.prog 65 Sx.Tryd.ti65:=TyRow.of' Sx.Tryd.ti65 Tryd.t65 Tryd.underlying65 Tryd.type65 rfl rfl (fun _=>by kernel_rfl) (fun h=>by cases h)
theorem Tryd.tyk78:TyRow Tryd.prog 78 Sx.Tryd.ti78:=TyRow.of' Sx.Tryd.ti78 Tryd.t78 Tryd.underlying78 Tryd.type78 rfl rfl (fun _=>by kernel_rfl) (fun _=>⟨by kernel_rfl,by kernel_rfl⟩)
theorem Tryd.tyk84:TyRow Tryd.prog 84 Sx.Tryd.ti84:=TyRow.of' Sx.Tryd.ti84 Tryd.t84 Tryd.underlying84 Tryd.type84 rfl rfl (fun _=>by kernel_rfl) (fun h=>by cases h)
theorem Tryd.tyk87:TyRow Tryd.prog 87 Sx.Tryd.ti87:=TyRow.of' Sx.Tryd.ti87 Tryd.t87 Tryd.underlying87 Tryd.type87 rfl rfl (fun _=>by kernel_rfl) (fun h=>by cases h)
theorem Tryd.tyk88:TyRow Tryd.prog 88 Sx.Tryd.ti88:=TyRow.of' Sx.Tryd.ti88 Tryd.t88 Tryd.underlying88 Tryd.type88 rfl rfl (fun _=>by kernel_rfl) (fun _=>⟨by kernel_rfl,by kernel_rfl⟩)
theorem Tryd.tyk90:TyRow Tryd.prog 90 Sx.Tryd.ti90:=TyRow.of' Sx.Tryd.ti90 Tryd.t90 Tryd.underlying90 Tryd.type90 rfl rfl (fun _=>by kernel_rfl) (fun _=>⟨by kernel_rfl,by kernel_rfl⟩)
theorem Tryd.tyk96:TyRow Tryd.prog 96 Sx.Tryd.ti96:=TyRow.of' Sx.Tryd.ti96 Tryd.t96 Tryd.underlying96 Tryd.type96 rfl rfl (fun _=>by kernel_rfl) (fun h=>by cases h)
theorem Tryd.tyk98:TyRow Tryd.prog 98 Sx.Tryd.ti98:=TyRow.of' Sx.Tryd.ti98 Tryd.t98 Tryd.underlying98 Tryd.type98 rfl rfl (fun _=>by kernel_rfl) (fun _=>⟨by kernel_rfl,by kernel_rfl⟩)
theorem Tryd.tyk102:TyRow Tryd.prog 102 Sx.Tryd.ti102:=TyRow.of' Sx.Tryd.ti102 Tryd.t102 Tryd.underlying102 Tryd.type102 rfl rfl (fun _=>by kernel_rfl) (fun _=>⟨by kernel_rfl,by kernel_rfl⟩)
theorem Tryd.tyk104:TyRow Tryd.prog 104 Sx.Tryd.ti104:=TyRow.of' Sx.Tryd.ti104 Tryd.t104 Tryd.underlying104 Tryd.type104 rfl rfl (fun _=>by kernel_rfl) (fun _=>⟨by kernel_rfl,by kernel_rfl⟩)
theorem Tryd.tyk105:TyRow Tryd.prog 105 Sx.Tryd.ti105:=TyRow.of' Sx.Tryd.ti105 Tryd.t105 Tryd.underlying105 Tryd.type105 rfl rfl (fun _=>by kernel_rfl) (fun h=>by cases h)
theorem Tryd.tyk107:TyRow Tryd.prog 107 Sx.Tryd.ti107:=TyRow.of' Sx.Tryd.ti107 Tryd.t107 Tryd.underlying107 Tryd.type107 rfl rfl (fun _=>by kernel_rfl) (fun _=>⟨by kernel_rfl,by kernel_rfl⟩)
theorem Tryd.tyk110:TyRow Tryd.prog 110 Sx.Tryd.ti110:=TyRow.of' Sx.Tryd.ti110 Tryd.t110 Tryd.underlying110 Tryd.type110 rfl rfl (fun _=>by kernel_rfl) (fun _=>⟨by kernel_rfl,by kernel_rfl⟩)
theorem Tryd.tyk114:TyRow Tryd.prog 114 Sx.Tryd.ti114:=TyRow.of' Sx.Tryd.ti114 Tryd.t114 Tryd.underlying114 Tryd.type114 rfl rfl (fun _=>by kernel_rfl) (fun _=>⟨by kernel_rfl,by kernel_rfl⟩)
theorem Tryd.tyk117:TyRow Tryd.prog 117 Sx.Tryd.ti117:=TyRow.of' Sx.Tryd.ti117 Tryd.t117 Tryd.underlying117 Tryd.type117 rfl rfl (fun _=>by kernel_rfl) (fun h=>by cases h)
theorem Tryd.tyk120:TyRow Tryd.prog 120 Sx.Tryd.ti120:=TyRow.of' Sx.Tryd.ti120 Tryd.t120 Tryd.underlying120 Tryd.type120 rfl rfl (fun _=>by kernel_rfl) (fun _=>⟨by kernel_rfl,by kernel_rfl⟩)
theorem Tryd.tyk122:TyRow Tryd.prog 122 Sx.Tryd.ti122:=TyRow.of' Sx.Tryd.ti122 Tryd.t122 Tryd.underlying122 Tryd.type122 rfl rfl (fun _=>by kernel_rfl) (fun h=>by cases h)
theorem Tryd.tyk123:TyRow Tryd.prog 123 Sx.Tryd.ti123:=TyRow.of' Sx.Tryd.ti123 Tryd.t123 Tryd.underlying123 Tryd.type123 rfl rfl (fun _=>by kernel_rfl) (fun _=>⟨by kernel_rfl,by kernel_rfl⟩)
theorem Tryd.tyk124:TyRow Tryd.prog 124 Sx.Tryd.ti124:=TyRow.of' Sx.Tryd.ti124 Tryd.t124 Tryd.underlying124 Tryd.type124 rfl rfl (fun _=>by kernel_rfl) (fun _=>⟨by kernel_rfl,by kernel_rfl⟩)
theorem Tryd.tyk126:TyRow Tryd.prog 126 Sx.Tryd.ti126:=TyRow.of' Sx.Tryd.ti126 Tryd.t126 Tryd.underlying126 Tryd.type126 rfl rfl (fun _=>by kernel_rfl) (fun h=>by cases h)
theorem Tryd.tyk128:TyRow Tryd.prog 128 Sx.Tryd.ti128:=TyRow.of' Sx.Tryd.ti128 Tryd.t128 Tryd.underlying128 Tryd.type128 rfl rfl (fun _=>by kernel_rfl) (fun _=>⟨by kernel_rfl,by kernel_rfl⟩)
theorem Tryd.tyk130:TyRow Tryd.prog 130 Sx.Tryd.ti130:=TyRow.of' Sx.Tryd.ti130 Tryd.t130 Tryd.underlying130 Tryd.type130 rfl rfl (fun _=>by kernel_rfl) (fun _=>⟨by kernel_rfl,by kernel_rfl⟩)
theorem Tryd.tyk137:TyRow Tryd.prog 137 Sx.Tryd.ti137:=TyRow.of' Sx.Tryd.ti137 Tryd.t137 Tryd.underlying137 Tryd.type137 rfl rfl (fun _=>by kernel_rfl) (fun h=>by cases h)
theorem Tryd.tyk139:TyRow Tryd.prog 139 Sx.Tryd.ti139:=TyRow.of' Sx.Tryd.ti139 Tryd.t139 Tryd.underlying139 Tryd.type139 rfl rfl (fun _=>by kernel_rfl) (fun _=>⟨by kernel_rfl,by kernel_rfl⟩)
theorem Tryd.tyk142:TyRow Tryd.prog 142 Sx.Tryd.ti142:=TyRow.of' Sx.Tryd.ti142 Tryd.t142 Tryd.underlying142 Tryd.type142 rfl rfl (fun _=>by kernel_rfl) (fun _=>⟨by kernel_rfl,by kernel_rfl⟩)
theorem Tryd.tyk146:TyRow Tryd.prog 146 Sx.Tryd.ti146:=TyRow.of' Sx.Tryd.ti146 Tryd.t146 Tryd.underlying146 Tryd.type146 rfl rfl (fun _=>by kernel_rfl) (fun _=>⟨by kernel_rfl,by kernel_rfl⟩)
theorem Tryd.tyks:Sx.Tryd.tt.Every (TyRow Tryd.prog):=⟨ev0,⟨ev0,⟨ev1 Tryd.tyk3,⟨ev0,⟨ev0,trivial,⟨ev1 Tryd.tyk47,trivial,trivial⟩⟩,⟨ev0,trivial,⟨ev0,⟨ev1 Tryd.tyk87,trivial,trivial⟩,trivial⟩⟩⟩,⟨ev0,trivial,⟨ev0,⟨ev0,⟨ev0,⟨ev1 Tryd.tyk139,trivial,trivial⟩,trivial⟩,⟨ev1 Tryd.tyk107,trivial,trivial⟩⟩,⟨ev0,trivial,⟨ev1 Tryd.tyk123,trivial,trivial⟩⟩⟩⟩⟩,⟨ev0,⟨ev0,⟨ev0,⟨ev0,⟨ev1 Tryd.tyk65,trivial,trivial⟩,trivial⟩,trivial⟩,⟨ev0,⟨ev0,⟨ev0,⟨ev1 Tryd.tyk137,trivial,trivial⟩,trivial⟩,⟨ev1 Tryd.tyk105,trivial,trivial⟩⟩,trivial⟩⟩,⟨ev0,⟨ev0,trivial,⟨ev0,trivial,⟨ev1 Tryd.tyk117,trivial,trivial⟩⟩⟩,⟨ev1 Tryd.tyk29,trivial,trivial⟩⟩⟩⟩,⟨ev0,⟨ev1 Tryd.tyk4,⟨ev0,⟨ev0,⟨ev0,⟨ev0,⟨ev1 Tryd.tyk128,trivial,trivial⟩,trivial⟩,⟨ev1 Tryd.tyk96,trivial,trivial⟩⟩,trivial⟩,⟨ev1 Tryd.tyk24,⟨ev1 Tryd.tyk40,trivial,⟨ev1 Tryd.tyk104,trivial,trivial⟩⟩,⟨ev1 Tryd.tyk56,⟨ev1 Tryd.tyk88,trivial,trivial⟩,⟨ev1 Tryd.tyk120,trivial,trivial⟩⟩⟩⟩,⟨ev0,⟨ev0,trivial,⟨ev1 Tryd.tyk52,⟨ev1 Tryd.tyk84,trivial,trivial⟩,trivial⟩⟩,⟨ev1 Tryd.tyk28,trivial,⟨ev0,trivial,⟨ev1 Tryd.tyk124,trivial,trivial⟩⟩⟩⟩⟩,⟨ev0,⟨ev0,⟨ev0,⟨ev0,⟨ev0,⟨ev1 Tryd.tyk130,trivial,trivial⟩,trivial⟩,⟨ev1 Tryd.tyk98,trivial,trivial⟩⟩,⟨ev1 Tryd.tyk50,⟨ev0,⟨ev1 Tryd.tyk146,trivial,trivial⟩,trivial⟩,⟨ev1 Tryd.tyk114,trivial,trivial⟩⟩⟩,⟨ev1 Tryd.tyk26,trivial,⟨ev1 Tryd.tyk58,⟨ev1 Tryd.tyk90,trivial,trivial⟩,⟨ev1 Tryd.tyk122,trivial,trivial⟩⟩⟩⟩,⟨ev0,⟨ev1 Tryd.tyk22,⟨ev0,trivial,⟨ev1 Tryd.tyk102,trivial,trivial⟩⟩,trivial⟩,⟨ev1 Tryd.tyk30,⟨ev0,⟨ev1 Tryd.tyk78,⟨ev1 Tryd.tyk142,trivial,trivial⟩,trivial⟩,⟨ev1 Tryd.tyk110,trivial,trivial⟩⟩,⟨ev0,trivial,⟨ev1 Tryd.tyk126,trivial,trivial⟩⟩⟩⟩⟩⟩⟩
end Go.Sx
/-! THE FUNCTIONS' ROWS. -/
namespace Go.Sx
open Go.Proofs
set_option maxRecDepth 100000
noncomputable def Tryd.rr19011:RRow:=⟨19011,19,Tryd.f19.ntmps,Sx.Tryd.kp19,(firstR (ranges (bodyOf Tryd.f19))).1,(firstR (ranges (bodyOf Tryd.f19))).2⟩
noncomputable def Tryd.rr39017:RRow:=⟨39017,39,Tryd.f39.ntmps,Sx.Tryd.kp39,(firstR (ranges (bodyOf Tryd.f39))).1,(firstR (ranges (bodyOf Tryd.f39))).2⟩
noncomputable def Tryd.rows:List RRow:=[Tryd.rr19011,Tryd.rr39017]
theorem Tryd.fk5 {ok:Rho→(Nat→Obj→Prop)→Prop}:FRow ⟨Tryd.prog,rcOf Tryd.rows,ok⟩ Sx.Tryd.tt.get 5 Sx.Tryd.cf5:=FRow.plain Sx.Tryd.kp5 (bodyOf Tryd.f5) Tryd.func5 (by kernel_rfl) (by kernel_rfl) (by kernel_rfl) [] (by kernel_rfl) (fun q hq=>by cases hq)
theorem Tryd.fk6 {ok:Rho→(Nat→Obj→Prop)→Prop}:FRow ⟨Tryd.prog,rcOf Tryd.rows,ok⟩ Sx.Tryd.tt.get 6 Sx.Tryd.cf6:=FRow.plain Sx.Tryd.kp6 (bodyOf Tryd.f6) Tryd.func6 (by kernel_rfl) (by kernel_rfl) (by kernel_rfl) [] (by kernel_rfl) (fun q hq=>by cases hq)
theorem Tryd.fk7 {ok:Rho→(Nat→Obj→Prop)→Prop}:FRow ⟨Tryd.prog,rcOf Tryd.rows,ok⟩ Sx.Tryd.tt.get 7 Sx.Tryd.cf7:=FRow.plain Sx.Tryd.kp7 (bodyOf Tryd.f7) Tryd.func7 (by kernel_rfl) (by kernel_rfl) (by kernel_rfl) [] (by kernel_rfl) (fun q hq=>by cases hq)
theorem Tryd.fk8 {ok:Rho→(Nat→Obj→Prop)→Prop}:FRow ⟨Tryd.prog,rcOf Tryd.rows,ok⟩ Sx.Tryd.tt.get 8 Sx.Tryd.cf8:=FRow.plain Sx.Tryd.kp8 (bodyOf Tryd.f8) Tryd.func8 (by kernel_rfl) (by kernel_rfl) (by kernel_rfl) [] (by kernel_rfl) (fun q hq=>by cases hq)
theorem Tryd.fk11 {ok:Rho→(Nat→Obj→Prop)→Prop}:FRow ⟨Tryd.prog,rcOf Tryd.rows,ok⟩ Sx.Tryd.tt.get 11 Sx.Tryd.cf11:=FRow.plain Sx.Tryd.kp11 (bodyOf Tryd.f11) Tryd.func11 (by kernel_rfl) (by kernel_rfl) (by kernel_rfl) [] (by kernel_rfl) (fun q hq=>by cases hq)
theorem Tryd.fk13 {ok:Rho→(Nat→Obj→Prop)→Prop}:FRow ⟨Tryd.prog,rcOf Tryd.rows,ok⟩ Sx.Tryd.tt.get 13 Sx.Tryd.cf13:=FRow.plain Sx.Tryd.kp13 (bodyOf Tryd.f13) Tryd.func13 (by kernel_rfl) (by kernel_rfl) (by kernel_rfl) [] (by kernel_rfl) (fun q hq=>by cases hq)
theorem Tryd.fk14 {ok:Rho→(Nat→Obj→Prop)→Prop}:FRow ⟨Tryd.prog,rcOf Tryd.rows,ok⟩ Sx.Tryd.tt.get 14 Sx.Tryd.cf14:=FRow.plain Sx.Tryd.kp14 (bodyOf Tryd.f14) Tryd.func14 (by kernel_rfl) (by kernel_rfl) (by kernel_rfl) [] (by kernel_rfl) (fun q hq=>by cases hq)
theorem Tryd.fk15 {ok:Rho→(Nat→Obj→Prop)→Prop}:FRow ⟨Tryd.prog,rcOf Tryd.rows,ok⟩ Sx.Tryd.tt.get 15 Sx.Tryd.cf15:=FRow.plain Sx.Tryd.kp15 (bodyOf Tryd.f15) Tryd.func15 (by kernel_rfl) (by kernel_rfl) (by kernel_rfl) [] (by kernel_rfl) (fun q hq=>by cases hq)
theorem Tryd.fk16 {ok:Rho→(Nat→Obj→Prop)→Prop}:FRow ⟨Tryd.prog,rcOf Tryd.rows,ok⟩ Sx.Tryd.tt.get 16 Sx.Tryd.cf16:=FRow.plain Sx.Tryd.kp16 (bodyOf Tryd.f16) Tryd.func16 (by kernel_rfl) (by kernel_rfl) (by kernel_rfl) [] (by kernel_rfl) (fun q hq=>by cases hq)
theorem Tryd.fk17 {ok:Rho→(Nat→Obj→Prop)→Prop}:FRow ⟨Tryd.prog,rcOf Tryd.rows,ok⟩ Sx.Tryd.tt.get 17 Sx.Tryd.cf17:=FRow.plain Sx.Tryd.kp17 (bodyOf Tryd.f17) Tryd.func17 (by kernel_rfl) (by kernel_rfl) (by kernel_rfl) [] (by kernel_rfl) (fun q hq=>by cases hq)
theorem Tryd.fk18 {ok:Rho→(Nat→Obj→Prop)→Prop}:FRow ⟨Tryd.prog,rcOf Tryd.rows,ok⟩ Sx.Tryd.tt.get 18 Sx.Tryd.cf18:=FRow.plain Sx.Tryd.kp18 (bodyOf Tryd.f18) Tryd.func18 (by kernel_rfl) (by kernel_rfl) (by kernel_rfl) [] (by kernel_rfl) (fun q hq=>by cases hq)
theorem Tryd.fk19 {ok:Rho→(Nat→Obj→Prop)→Prop}:FRow ⟨Tryd.prog,rcOf Tryd.rows,ok⟩ Sx.Tryd.tt.get 19 Sx.Tryd.cf19:=FRow.plain Sx.Tryd.kp19 (bodyOf Tryd.f19) Tryd.func19 (by kernel_rfl) (by kernel_rfl) (by kernel_rfl) [([11],Tryd.rr19011.a,Tryd.rr19011.b)] (by kernel_rfl) (fun q hq id hid=>by
  rcases List.mem_singleton.1 hq with rfl
  cases hid
  exact ⟨Tryd.rr19011,by simp [Tryd.rows],rfl,rfl,rfl,rfl,rfl⟩)
theorem Tryd.fk20 {ok:Rho→(Nat→Obj→Prop)→Prop}:FRow ⟨Tryd.prog,rcOf Tryd.rows,ok⟩ Sx.Tryd.tt.get 20 Sx.Tryd.cf20:=FRow.plain Sx.Tryd.kp20 (bodyOf Tryd.f20) Tryd.func20 (by kernel_rfl) (by kernel_rfl) (by kernel_rfl) [] (by kernel_rfl) (fun q hq=>by cases hq)
theorem Tryd.fk21 {ok:Rho→(Nat→Obj→Prop)→Prop}:FRow ⟨Tryd.prog,rcOf Tryd.rows,ok⟩ Sx.Tryd.tt.get 21 Sx.Tryd.cf21:=FRow.plain Sx.Tryd.kp21 (bodyOf Tryd.f21) Tryd.func21 (by kernel_rfl) (by kernel_rfl) (by kernel_rfl) [] (by kernel_rfl) (fun q hq=>by cases hq)
theorem Tryd.fk22 {ok:Rho→(Nat→Obj→Prop)→Prop}:FRow ⟨Tryd.prog,rcOf Tryd.rows,ok⟩ Sx.Tryd.tt.get 22 Sx.Tryd.cf22:=FRow.plain Sx.Tryd.kp22 (bodyOf Tryd.f22) Tryd.func22 (by kernel_rfl) (by kernel_rfl) (by kernel_rfl) [] (by kernel_rfl) (fun q hq=>by cases hq)
theorem Tryd.fk23 {ok:Rho→(Nat→Obj→Prop)→Prop}:FRow ⟨Tryd.prog,rcOf Tryd.rows,ok⟩ Sx.Tryd.tt.get 23 Sx.Tryd.cf23:=FRow.plain Sx.Tryd.kp23 (bodyOf Tryd.f23) Tryd.func23 (by kernel_rfl) (by kernel_rfl) (by kernel_rfl) [] (by kernel_rfl) (fun q hq=>by cases hq)
theorem Tryd.fk24 {ok:Rho→(Nat→Obj→Prop)→Prop}:FRow ⟨Tryd.prog,rcOf Tryd.rows,ok⟩ Sx.Tryd.tt.get 24 Sx.Tryd.cf24:=FRow.plain Sx.Tryd.kp24 (bodyOf Tryd.f24) Tryd.func24 (by kernel_rfl) (by kernel_rfl) (by kernel_rfl) [] (by kernel_rfl) (fun q hq=>by cases hq)
theorem Tryd.fk25 {ok:Rho→(Nat→Obj→Prop)→Prop}:FRow ⟨Tryd.prog,rcOf Tryd.rows,ok⟩ Sx.Tryd.tt.get 25 Sx.Tryd.cf25:=FRow.plain Sx.Tryd.kp25 (bodyOf Tryd.f25) Tryd.func25 (by kernel_rfl) (by kernel_rfl) (by kernel_rfl) [] (by kernel_rfl) (fun q hq=>by cases hq)
theorem Tryd.fk26 {ok:Rho→(Nat→Obj→Prop)→Prop}:FRow ⟨Tryd.prog,rcOf Tryd.rows,ok⟩ Sx.Tryd.tt.get 26 Sx.Tryd.cf26:=FRow.plain Sx.Tryd.kp26 (bodyOf Tryd.f26) Tryd.func26 (by kernel_rfl) (by kernel_rfl) (by kernel_rfl) [] (by kernel_rfl) (fun q hq=>by cases hq)
theorem Tryd.fk27 {ok:Rho→(Nat→Obj→Prop)→Prop}:FRow ⟨Tryd.prog,rcOf Tryd.rows,ok⟩ Sx.Tryd.tt.get 27 Sx.Tryd.cf27:=FRow.plain Sx.Tryd.kp27 (bodyOf Tryd.f27) Tryd.func27 (by kernel_rfl) (by kernel_rfl) (by kernel_rfl) [] (by kernel_rfl) (fun q hq=>by cases hq)
theorem Tryd.fk28 {ok:Rho→(Nat→Obj→Prop)→Prop}:FRow ⟨Tryd.prog,rcOf Tryd.rows,ok⟩ Sx.Tryd.tt.get 28 Sx.Tryd.cf28:=FRow.plain Sx.Tryd.kp28 (bodyOf Tryd.f28) Tryd.func28 (by kernel_rfl) (by kernel_rfl) (by kernel_rfl) [] (by kernel_rfl) (fun q hq=>by cases hq)
theorem Tryd.fk29 {ok:Rho→(Nat→Obj→Prop)→Prop}:FRow ⟨Tryd.prog,rcOf Tryd.rows,ok⟩ Sx.Tryd.tt.get 29 Sx.Tryd.cf29:=FRow.plain Sx.Tryd.kp29 (bodyOf Tryd.f29) Tryd.func29 (by kernel_rfl) (by kernel_rfl) (by kernel_rfl) [] (by kernel_rfl) (fun q hq=>by cases hq)
theorem Tryd.fk30 {ok:Rho→(Nat→Obj→Prop)→Prop}:FRow ⟨Tryd.prog,rcOf Tryd.rows,ok⟩ Sx.Tryd.tt.get 30 Sx.Tryd.cf30:=FRow.plain Sx.Tryd.kp30 (bodyOf Tryd.f30) Tryd.func30 (by kernel_rfl) (by kernel_rfl) (by kernel_rfl) [] (by kernel_rfl) (fun q hq=>by cases hq)
theorem Tryd.fk33 {ok:Rho→(Nat→Obj→Prop)→Prop}:FRow ⟨Tryd.prog,rcOf Tryd.rows,ok⟩ Sx.Tryd.tt.get 33 Sx.Tryd.cf33:=FRow.plain Sx.Tryd.kp33 (bodyOf Tryd.f33) Tryd.func33 (by kernel_rfl) (by kernel_rfl) (by kernel_rfl) [] (by kernel_rfl) (fun q hq=>by cases hq)
theorem Tryd.fk34 {ok:Rho→(Nat→Obj→Prop)→Prop}:FRow ⟨Tryd.prog,rcOf Tryd.rows,ok⟩ Sx.Tryd.tt.get 34 Sx.Tryd.cf34:=FRow.plain Sx.Tryd.kp34 (bodyOf Tryd.f34) Tryd.func34 (by kernel_rfl) (by kernel_rfl) (by kernel_rfl) [] (by kernel_rfl) (fun q hq=>by cases hq)
theorem Tryd.fk35 {ok:Rho→(Nat→Obj→Prop)→Prop}:FRow ⟨Tryd.prog,rcOf Tryd.rows,ok⟩ Sx.Tryd.tt.get 35 Sx.Tryd.cf35:=FRow.plain Sx.Tryd.kp35 (bodyOf Tryd.f35) Tryd.func35 (by kernel_rfl) (by kernel_rfl) (by kernel_rfl) [] (by kernel_rfl) (fun q hq=>by cases hq)
theorem Tryd.fk36 {ok:Rho→(Nat→Obj→Prop)→Prop}:FRow ⟨Tryd.prog,rcOf Tryd.rows,ok⟩ Sx.Tryd.tt.get 36 Sx.Tryd.cf36:=FRow.plain Sx.Tryd.kp36 (bodyOf Tryd.f36) Tryd.func36 (by kernel_rfl) (by kernel_rfl) (by kernel_rfl) [] (by kernel_rfl) (fun q hq=>by cases hq)
theorem Tryd.fk37 {ok:Rho→(Nat→Obj→Prop)→Prop}:FRow ⟨Tryd.prog,rcOf Tryd.rows,ok⟩ Sx.Tryd.tt.get 37 Sx.Tryd.cf37:=FRow.plain Sx.Tryd.kp37 (bodyOf Tryd.f37) Tryd.func37 (by kernel_rfl) (by kernel_rfl) (by kernel_rfl) [] (by kernel_rfl) (fun q hq=>by cases hq)
theorem Tryd.fk38 {ok:Rho→(Nat→Obj→Prop)→Prop}:FRow ⟨Tryd.prog,rcOf Tryd.rows,ok⟩ Sx.Tryd.tt.get 38 Sx.Tryd.cf38:=FRow.plain Sx.Tryd.kp38 (bodyOf Tryd.f38) Tryd.func38 (by kernel_rfl) (by kernel_rfl) (by kernel_rfl) [] (by kernel_rfl) (fun q hq=>by cases hq)
theorem Tryd.fk39 {ok:Rho→(Nat→Obj→Prop)→Prop}:FRow ⟨Tryd.prog,rcOf Tryd.rows,ok⟩ Sx.Tryd.tt.get 39 Sx.Tryd.cf39:=FRow.plain Sx.Tryd.kp39 (bodyOf Tryd.f39) Tryd.func39 (by kernel_rfl) (by kernel_rfl) (by kernel_rfl) [([17],Tryd.rr39017.a,Tryd.rr39017.b)] (by kernel_rfl) (fun q hq id hid=>by
  rcases List.mem_singleton.1 hq with rfl
  cases hid
  exact ⟨Tryd.rr39017,by simp [Tryd.rows],rfl,rfl,rfl,rfl,rfl⟩)
theorem Tryd.fk40 {ok:Rho→(Nat→Obj→Prop)→Prop}:FRow ⟨Tryd.prog,rcOf Tryd.rows,ok⟩ Sx.Tryd.tt.get 40 Sx.Tryd.cf40:=FRow.plain Sx.Tryd.kp40 (bodyOf Tryd.f40) Tryd.func40 (by kernel_rfl) (by kernel_rfl) (by kernel_rfl) [] (by kernel_rfl) (fun q hq=>by cases hq)
theorem Tryd.fk41 {ok:Rho→(Nat→Obj→Prop)→Prop}:FRow ⟨Tryd.prog,rcOf Tryd.rows,ok⟩ Sx.Tryd.tt.get 41 Sx.Tryd.cf41:=FRow.plain Sx.Tryd.kp41 (bodyOf Tryd.f41) Tryd.func41 (by kernel_rfl) (by kernel_rfl) (by kernel_rfl) [] (by kernel_rfl) (fun q hq=>by cases hq)
theorem Tryd.fk42 {ok:Rho→(Nat→Obj→Prop)→Prop}:FRow ⟨Tryd.prog,rcOf Tryd.rows,ok⟩ Sx.Tryd.tt.get 42 Sx.Tryd.cf42:=FRow.plain Sx.Tryd.kp42 (bodyOf Tryd.f42) Tryd.func42 (by kernel_rfl) (by kernel_rfl) (by kernel_rfl) [] (by kernel_rfl) (fun q hq=>by cases hq)
theorem Tryd.fk43 {ok:Rho→(Nat→Obj→Prop)→Prop}:FRow ⟨Tryd.prog,rcOf Tryd.rows,ok⟩ Sx.Tryd.tt.get 43 Sx.Tryd.cf43:=FRow.plain Sx.Tryd.kp43 (bodyOf Tryd.f43) Tryd.func43 (by kernel_rfl) (by kernel_rfl) (by kernel_rfl) [] (by kernel_rfl) (fun q hq=>by cases hq)
theorem Tryd.fk44 {ok:Rho→(Nat→Obj→Prop)→Prop}:FRow ⟨Tryd.prog,rcOf Tryd.rows,ok⟩ Sx.Tryd.tt.get 44 Sx.Tryd.cf44:=FRow.plain Sx.Tryd.kp44 (bodyOf Tryd.f44) Tryd.func44 (by kernel_rfl) (by kernel_rfl) (by kernel_rfl) [] (by kernel_rfl) (fun q hq=>by cases hq)
theorem Tryd.fk45 {ok:Rho→(Nat→Obj→Prop)→Prop}:FRow ⟨Tryd.prog,rcOf Tryd.rows,ok⟩ Sx.Tryd.tt.get 45 Sx.Tryd.cf45:=FRow.plain Sx.Tryd.kp45 (bodyOf Tryd.f45) Tryd.func45 (by kernel_rfl) (by kernel_rfl) (by kernel_rfl) [] (by kernel_rfl) (fun q hq=>by cases hq)
theorem Tryd.fk46 {ok:Rho→(Nat→Obj→Prop)→Prop}:FRow ⟨Tryd.prog,rcOf Tryd.rows,ok⟩ Sx.Tryd.tt.get 46 Sx.Tryd.cf46:=FRow.plain Sx.Tryd.kp46 (bodyOf Tryd.f46) Tryd.func46 (by kernel_rfl) (by kernel_rfl) (by kernel_rfl) [] (by kernel_rfl) (fun q hq=>by cases hq)
theorem Tryd.fk47 {ok:Rho→(Nat→Obj→Prop)→Prop}:FRow ⟨Tryd.prog,rcOf Tryd.rows,ok⟩ Sx.Tryd.tt.get 47 Sx.Tryd.cf47:=FRow.plain Sx.Tryd.kp47 (bodyOf Tryd.f47) Tryd.func47 (by kernel_rfl) (by kernel_rfl) (by kernel_rfl) [] (by kernel_rfl) (fun q hq=>by cases hq)
theorem Tryd.fk48 {ok:Rho→(Nat→Obj→Prop)→Prop}:FRow ⟨Tryd.prog,rcOf Tryd.rows,ok⟩ Sx.Tryd.tt.get 48 Sx.Tryd.cf48:=FRow.plain Sx.Tryd.kp48 (bodyOf Tryd.f48) Tryd.func48 (by kernel_rfl) (by kernel_rfl) (by kernel_rfl) [] (by kernel_rfl) (fun q hq=>by cases hq)
theorem Tryd.fk49 {ok:Rho→(Nat→Obj→Prop)→Prop}:FRow ⟨Tryd.prog,rcOf Tryd.rows,ok⟩ Sx.Tryd.tt.get 49 Sx.Tryd.cf49:=FRow.plain Sx.Tryd.kp49 (bodyOf Tryd.f49) Tryd.func49 (by kernel_rfl) (by kernel_rfl) (by kernel_rfl) [] (by kernel_rfl) (fun q hq=>by cases hq)
theorem Tryd.fk50 {ok:Rho→(Nat→Obj→Prop)→Prop}:FRow ⟨Tryd.prog,rcOf Tryd.rows,ok⟩ Sx.Tryd.tt.get 50 Sx.Tryd.cf50:=FRow.plain Sx.Tryd.kp50 (bodyOf Tryd.f50) Tryd.func50 (by kernel_rfl) (by kernel_rfl) (by kernel_rfl) [] (by kernel_rfl) (fun q hq=>by cases hq)
theorem Tryd.fk51 {ok:Rho→(Nat→Obj→Prop)→Prop}:FRow ⟨Tryd.prog,rcOf Tryd.rows,ok⟩ Sx.Tryd.tt.get 51 Sx.Tryd.cf51:=FRow.plain Sx.Tryd.kp51 (bodyOf Tryd.f51) Tryd.func51 (by kernel_rfl) (by kernel_rfl) (by kernel_rfl) [] (by kernel_rfl) (fun q hq=>by cases hq)
theorem Tryd.fk52 {ok:Rho→(Nat→Obj→Prop)→Prop}:FRow ⟨Tryd.prog,rcOf Tryd.rows,ok⟩ Sx.Tryd.tt.get 52 Sx.Tryd.cf52:=FRow.plain Sx.Tryd.kp52 (bodyOf Tryd.f52) Tryd.func52 (by kernel_rfl) (by kernel_rfl) (by kernel_rfl) [] (by kernel_rfl) (fun q hq=>by cases hq)
theorem Tryd.fk53 {ok:Rho→(Nat→Obj→Prop)→Prop}:FRow ⟨Tryd.prog,rcOf Tryd.rows,ok⟩ Sx.Tryd.tt.get 53 Sx.Tryd.cf53:=FRow.plain Sx.Tryd.kp53 (bodyOf Tryd.f53) Tryd.func53 (by kernel_rfl) (by kernel_rfl) (by kernel_rfl) [] (by kernel_rfl) (fun q hq=>by cases hq)
theorem Tryd.fk54 {ok:Rho→(Nat→Obj→Prop)→Prop}:FRow ⟨Tryd.prog,rcOf Tryd.rows,ok⟩ Sx.Tryd.tt.get 54 Sx.Tryd.cf54:=FRow.plain Sx.Tryd.kp54 (bodyOf Tryd.f54) Tryd.func54 (by kernel_rfl) (by kernel_rfl) (by kernel_rfl) [] (by kernel_rfl) (fun q hq=>by cases hq)
theorem Tryd.fk55 {ok:Rho→(Nat→Obj→Prop)→Prop}:FRow ⟨Tryd.prog,rcOf Tryd.rows,ok⟩ Sx.Tryd.tt.get 55 Sx.Tryd.cf55:=FRow.plain Sx.Tryd.kp55 (bodyOf Tryd.f55) Tryd.func55 (by kernel_rfl) (by kernel_rfl) (by kernel_rfl) [] (by kernel_rfl) (fun q hq=>by cases hq)
theorem Tryd.fk56 {ok:Rho→(Nat→Obj→Prop)→Prop}:FRow ⟨Tryd.prog,rcOf Tryd.rows,ok⟩ Sx.Tryd.tt.get 56 Sx.Tryd.cf56:=FRow.plain Sx.Tryd.kp56 (bodyOf Tryd.f56) Tryd.func56 (by kernel_rfl) (by kernel_rfl) (by kernel_rfl) [] (by kernel_rfl) (fun q hq=>by cases hq)
theorem Tryd.fk57 {ok:Rho→(Nat→Obj→Prop)→Prop}:FRow ⟨Tryd.prog,rcOf Tryd.rows,ok⟩ Sx.Tryd.tt.get 57 Sx.Tryd.cf57:=FRow.plain Sx.Tryd.kp57 (bodyOf Tryd.f57) Tryd.func57 (by kernel_rfl) (by kernel_rfl) (by kernel_rfl) [] (by kernel_rfl) (fun q hq=>by cases hq)
theorem Tryd.fk58 {ok:Rho→(Nat→Obj→Prop)→Prop}:FRow ⟨Tryd.prog,rcOf Tryd.rows,ok⟩ Sx.Tryd.tt.get 58 Sx.Tryd.cf58:=FRow.plain Sx.Tryd.kp58 (bodyOf Tryd.f58) Tryd.func58 (by kernel_rfl) (by kernel_rfl) (by kernel_rfl) [] (by kernel_rfl) (fun q hq=>by cases hq)
theorem Tryd.fk59 {ok:Rho→(Nat→Obj→Prop)→Prop}:FRow ⟨Tryd.prog,rcOf Tryd.rows,ok⟩ Sx.Tryd.tt.get 59 Sx.Tryd.cf59:=FRow.plain Sx.Tryd.kp59 (bodyOf Tryd.f59) Tryd.func59 (by kernel_rfl) (by kernel_rfl) (by kernel_rfl) [] (by kernel_rfl) (fun q hq=>by cases hq)
theorem Tryd.fk60 {ok:Rho→(Nat→Obj→Prop)→Prop}:FRow ⟨Tryd.prog,rcOf Tryd.rows,ok⟩ Sx.Tryd.tt.get 60 Sx.Tryd.cf60:=FRow.plain Sx.Tryd.kp60 (bodyOf Tryd.f60) Tryd.func60 (by kernel_rfl) (by kernel_rfl) (by kernel_rfl) [] (by kernel_rfl) (fun q hq=>by cases hq)
theorem Tryd.fk61 {ok:Rho→(Nat→Obj→Prop)→Prop}:FRow ⟨Tryd.prog,rcOf Tryd.rows,ok⟩ Sx.Tryd.tt.get 61 Sx.Tryd.cf61:=FRow.plain Sx.Tryd.kp61 (bodyOf Tryd.f61) Tryd.func61 (by kernel_rfl) (by kernel_rfl) (by kernel_rfl) [] (by kernel_rfl) (fun q hq=>by cases hq)
theorem Tryd.fk62 {ok:Rho→(Nat→Obj→Prop)→Prop}:FRow ⟨Tryd.prog,rcOf Tryd.rows,ok⟩ Sx.Tryd.tt.get 62 Sx.Tryd.cf62:=FRow.plain Sx.Tryd.kp62 (bodyOf Tryd.f62) Tryd.func62 (by kernel_rfl) (by kernel_rfl) (by kernel_rfl) [] (by kernel_rfl) (fun q hq=>by cases hq)
theorem Tryd.fk63 {ok:Rho→(Nat→Obj→Prop)→Prop}:FRow ⟨Tryd.prog,rcOf Tryd.rows,ok⟩ Sx.Tryd.tt.get 63 Sx.Tryd.cf63:=FRow.plain Sx.Tryd.kp63 (bodyOf Tryd.f63) Tryd.func63 (by kernel_rfl) (by kernel_rfl) (by kernel_rfl) [] (by kernel_rfl) (fun q hq=>by cases hq)
theorem Tryd.fk64 {ok:Rho→(Nat→Obj→Prop)→Prop}:FRow ⟨Tryd.prog,rcOf Tryd.rows,ok⟩ Sx.Tryd.tt.get 64 Sx.Tryd.cf64:=FRow.plain Sx.Tryd.kp64 (bodyOf Tryd.f64) Tryd.func64 (by kernel_rfl) (by kernel_rfl) (by kernel_rfl) [] (by kernel_rfl) (fun q hq=>by cases hq)
theorem Tryd.fk65 {ok:Rho→(Nat→Obj→Prop)→Prop}:FRow ⟨Tryd.prog,rcOf Tryd.rows,ok⟩ Sx.Tryd.tt.get 65 Sx.Tryd.cf65:=FRow.plain Sx.Tryd.kp65 (bodyOf Tryd.f65) Tryd.func65 (by kernel_rfl) (by kernel_rfl) (by kernel_rfl) [] (by kernel_rfl) (fun q hq=>by cases hq)
theorem Tryd.fk66 {ok:Rho→(Nat→Obj→Prop)→Prop}:FRow ⟨Tryd.prog,rcOf Tryd.rows,ok⟩ Sx.Tryd.tt.get 66 Sx.Tryd.cf66:=FRow.plain Sx.Tryd.kp66 (bodyOf Tryd.f66) Tryd.func66 (by kernel_rfl) (by kernel_rfl) (by kernel_rfl) [] (by kernel_rfl) (fun q hq=>by cases hq)
theorem Tryd.fk67 {ok:Rho→(Nat→Obj→Prop)→Prop}:FRow ⟨Tryd.prog,rcOf Tryd.rows,ok⟩ Sx.Tryd.tt.get 67 Sx.Tryd.cf67:=FRow.plain Sx.Tryd.kp67 (bodyOf Tryd.f67) Tryd.func67 (by kernel_rfl) (by kernel_rfl) (by kernel_rfl) [] (by kernel_rfl) (fun q hq=>by cases hq)
theorem Tryd.fk68 {ok:Rho→(Nat→Obj→Prop)→Prop}:FRow ⟨Tryd.prog,rcOf Tryd.rows,ok⟩ Sx.Tryd.tt.get 68 Sx.Tryd.cf68:=FRow.plain Sx.Tryd.kp68 (bodyOf Tryd.f68) Tryd.func68 (by kernel_rfl) (by kernel_rfl) (by kernel_rfl) [] (by kernel_rfl) (fun q hq=>by cases hq)
theorem Tryd.fk69 {ok:Rho→(Nat→Obj→Prop)→Prop}:FRow ⟨Tryd.prog,rcOf Tryd.rows,ok⟩ Sx.Tryd.tt.get 69 Sx.Tryd.cf69:=FRow.plain Sx.Tryd.kp69 (bodyOf Tryd.f69) Tryd.func69 (by kernel_rfl) (by kernel_rfl) (by kernel_rfl) [] (by kernel_rfl) (fun q hq=>by cases hq)
theorem Tryd.fk70 {ok:Rho→(Nat→Obj→Prop)→Prop}:FRow ⟨Tryd.prog,rcOf Tryd.rows,ok⟩ Sx.Tryd.tt.get 70 Sx.Tryd.cf70:=FRow.plain Sx.Tryd.kp70 (bodyOf Tryd.f70) Tryd.func70 (by kernel_rfl) (by kernel_rfl) (by kernel_rfl) [] (by kernel_rfl) (fun q hq=>by cases hq)
theorem Tryd.fk71 {ok:Rho→(Nat→Obj→Prop)→Prop}:FRow ⟨Tryd.prog,rcOf Tryd.rows,ok⟩ Sx.Tryd.tt.get 71 Sx.Tryd.cf71:=FRow.plain Sx.Tryd.kp71 (bodyOf Tryd.f71) Tryd.func71 (by kernel_rfl) (by kernel_rfl) (by kernel_rfl) [] (by kernel_rfl) (fun q hq=>by cases hq)
theorem Tryd.fk72 {ok:Rho→(Nat→Obj→Prop)→Prop}:FRow ⟨Tryd.prog,rcOf Tryd.rows,ok⟩ Sx.Tryd.tt.get 72 Sx.Tryd.cf72:=FRow.plain Sx.Tryd.kp72 (bodyOf Tryd.f72) Tryd.func72 (by kernel_rfl) (by kernel_rfl) (by kernel_rfl) [] (by kernel_rfl) (fun q hq=>by cases hq)
theorem Tryd.fk73 {ok:Rho→(Nat→Obj→Prop)→Prop}:FRow ⟨Tryd.prog,rcOf Tryd.rows,ok⟩ Sx.Tryd.tt.get 73 Sx.Tryd.cf73:=FRow.plain Sx.Tryd.kp73 (bodyOf Tryd.f73) Tryd.func73 (by kernel_rfl) (by kernel_rfl) (by kernel_rfl) [] (by kernel_rfl) (fun q hq=>by cases hq)
theorem Tryd.fk74 {ok:Rho→(Nat→Obj→Prop)→Prop}:FRow ⟨Tryd.prog,rcOf Tryd.rows,ok⟩ Sx.Tryd.tt.get 74 Sx.Tryd.cf74:=FRow.plain Sx.Tryd.kp74 (bodyOf Tryd.f74) Tryd.func74 (by kernel_rfl) (by kernel_rfl) (by kernel_rfl) [] (by kernel_rfl) (fun q hq=>by cases hq)
theorem Tryd.fk75 {ok:Rho→(Nat→Obj→Prop)→Prop}:FRow ⟨Tryd.prog,rcOf Tryd.rows,ok⟩ Sx.Tryd.tt.get 75 Sx.Tryd.cf75:=FRow.plain Sx.Tryd.kp75 (bodyOf Tryd.f75) Tryd.func75 (by kernel_rfl) (by kernel_rfl) (by kernel_rfl) [] (by kernel_rfl) (fun q hq=>by cases hq)
theorem Tryd.fk76 {ok:Rho→(Nat→Obj→Prop)→Prop}:FRow ⟨Tryd.prog,rcOf Tryd.rows,ok⟩ Sx.Tryd.tt.get 76 Sx.Tryd.cf76:=FRow.plain Sx.Tryd.kp76 (bodyOf Tryd.f76) Tryd.func76 (by kernel_rfl) (by kernel_rfl) (by kernel_rfl) [] (by kernel_rfl) (fun q hq=>by cases hq)
theorem Tryd.fk77 {ok:Rho→(Nat→Obj→Prop)→Prop}:FRow ⟨Tryd.prog,rcOf Tryd.rows,ok⟩ Sx.Tryd.tt.get 77 Sx.Tryd.cf77:=FRow.plain Sx.Tryd.kp77 (bodyOf Tryd.f77) Tryd.func77 (by kernel_rfl) (by kernel_rfl) (by kernel_rfl) [] (by kernel_rfl) (fun q hq=>by cases hq)
theorem Tryd.fk78 {ok:Rho→(Nat→Obj→Prop)→Prop}:FRow ⟨Tryd.prog,rcOf Tryd.rows,ok⟩ Sx.Tryd.tt.get 78 Sx.Tryd.cf78:=FRow.plain Sx.Tryd.kp78 (bodyOf Tryd.f78) Tryd.func78 (by kernel_rfl) (by kernel_rfl) (by kernel_rfl) [] (by kernel_rfl) (fun q hq=>by cases hq)
theorem Tryd.fk79 {ok:Rho→(Nat→Obj→Prop)→Prop}:FRow ⟨Tryd.prog,rcOf Tryd.rows,ok⟩ Sx.Tryd.tt.get 79 Sx.Tryd.cf79:=FRow.plain Sx.Tryd.kp79 (bodyOf Tryd.f79) Tryd.func79 (by kernel_rfl) (by kernel_rfl) (by kernel_rfl) [] (by kernel_rfl) (fun q hq=>by cases hq)
theorem Tryd.fk80 {ok:Rho→(Nat→Obj→Prop)→Prop}:FRow ⟨Tryd.prog,rcOf Tryd.rows,ok⟩ Sx.Tryd.tt.get 80 Sx.Tryd.cf80:=FRow.plain Sx.Tryd.kp80 (bodyOf Tryd.f80) Tryd.func80 (by kernel_rfl) (by kernel_rfl) (by kernel_rfl) [] (by kernel_rfl) (fun q hq=>by cases hq)
theorem Tryd.fk81 {ok:Rho→(Nat→Obj→Prop)→Prop}:FRow ⟨Tryd.prog,rcOf Tryd.rows,ok⟩ Sx.Tryd.tt.get 81 Sx.Tryd.cf81:=FRow.plain Sx.Tryd.kp81 (bodyOf Tryd.f81) Tryd.func81 (by kernel_rfl) (by kernel_rfl) (by kernel_rfl) [] (by kernel_rfl) (fun q hq=>by cases hq)
theorem Tryd.fk82 {ok:Rho→(Nat→Obj→Prop)→Prop}:FRow ⟨Tryd.prog,rcOf Tryd.rows,ok⟩ Sx.Tryd.tt.get 82 Sx.Tryd.cf82:=FRow.plain Sx.Tryd.kp82 (bodyOf Tryd.f82) Tryd.func82 (by kernel_rfl) (by kernel_rfl) (by kernel_rfl) [] (by kernel_rfl) (fun q hq=>by cases hq)
theorem Tryd.fk83 {ok:Rho→(Nat→Obj→Prop)→Prop}:FRow ⟨Tryd.prog,rcOf Tryd.rows,ok⟩ Sx.Tryd.tt.get 83 Sx.Tryd.cf83:=FRow.plain Sx.Tryd.kp83 (bodyOf Tryd.f83) Tryd.func83 (by kernel_rfl) (by kernel_rfl) (by kernel_rfl) [] (by kernel_rfl) (fun q hq=>by cases hq)
theorem Tryd.fk84 {ok:Rho→(Nat→Obj→Prop)→Prop}:FRow ⟨Tryd.prog,rcOf Tryd.rows,ok⟩ Sx.Tryd.tt.get 84 Sx.Tryd.cf84:=FRow.plain Sx.Tryd.kp84 (bodyOf Tryd.f84) Tryd.func84 (by kernel_rfl) (by kernel_rfl) (by kernel_rfl) [] (by kernel_rfl) (fun q hq=>by cases hq)
theorem Tryd.fk85 {ok:Rho→(Nat→Obj→Prop)→Prop}:FRow ⟨Tryd.prog,rcOf Tryd.rows,ok⟩ Sx.Tryd.tt.get 85 Sx.Tryd.cf85:=FRow.plain Sx.Tryd.kp85 (bodyOf Tryd.f85) Tryd.func85 (by kernel_rfl) (by kernel_rfl) (by kernel_rfl) [] (by kernel_rfl) (fun q hq=>by cases hq)
theorem Tryd.fk86 {ok:Rho→(Nat→Obj→Prop)→Prop}:FRow ⟨Tryd.prog,rcOf Tryd.rows,ok⟩ Sx.Tryd.tt.get 86 Sx.Tryd.cf86:=FRow.plain Sx.Tryd.kp86 (bodyOf Tryd.f86) Tryd.func86 (by kernel_rfl) (by kernel_rfl) (by kernel_rfl) [] (by kernel_rfl) (fun q hq=>by cases hq)
theorem Tryd.fk87 {ok:Rho→(Nat→Obj→Prop)→Prop}:FRow ⟨Tryd.prog,rcOf Tryd.rows,ok⟩ Sx.Tryd.tt.get 87 Sx.Tryd.cf87:=FRow.plain Sx.Tryd.kp87 (bodyOf Tryd.f87) Tryd.func87 (by kernel_rfl) (by kernel_rfl) (by kernel_rfl) [] (by kernel_rfl) (fun q hq=>by cases hq)
theorem Tryd.fk88 {ok:Rho→(Nat→Obj→Prop)→Prop}:FRow ⟨Tryd.prog,rcOf Tryd.rows,ok⟩ Sx.Tryd.tt.get 88 Sx.Tryd.cf88:=FRow.plain Sx.Tryd.kp88 (bodyOf Tryd.f88) Tryd.func88 (by kernel_rfl) (by kernel_rfl) (by kernel_rfl) [] (by kernel_rfl) (fun q hq=>by cases hq)
theorem Tryd.fk89 {ok:Rho→(Nat→Obj→Prop)→Prop}:FRow ⟨Tryd.prog,rcOf Tryd.rows,ok⟩ Sx.Tryd.tt.get 89 Sx.Tryd.cf89:=FRow.plain Sx.Tryd.kp89 (bodyOf Tryd.f89) Tryd.func89 (by kernel_rfl) (by kernel_rfl) (by kernel_rfl) [] (by kernel_rfl) (fun q hq=>by cases hq)
theorem Tryd.fk90 {ok:Rho→(Nat→Obj→Prop)→Prop}:FRow ⟨Tryd.prog,rcOf Tryd.rows,ok⟩ Sx.Tryd.tt.get 90 Sx.Tryd.cf90:=FRow.plain Sx.Tryd.kp90 (bodyOf Tryd.f90) Tryd.func90 (by kernel_rfl) (by kernel_rfl) (by kernel_rfl) [] (by kernel_rfl) (fun q hq=>by cases hq)
theorem Tryd.fk91 {ok:Rho→(Nat→Obj→Prop)→Prop}:FRow ⟨Tryd.prog,rcOf Tryd.rows,ok⟩ Sx.Tryd.tt.get 91 Sx.Tryd.cf91:=FRow.plain Sx.Tryd.kp91 (bodyOf Tryd.f91) Tryd.func91 (by kernel_rfl) (by kernel_rfl) (by kernel_rfl) [] (by kernel_rfl) (fun q hq=>by cases hq)
theorem Tryd.fk92 {ok:Rho→(Nat→Obj→Prop)→Prop}:FRow ⟨Tryd.prog,rcOf Tryd.rows,ok⟩ Sx.Tryd.tt.get 92 Sx.Tryd.cf92:=FRow.plain Sx.Tryd.kp92 (bodyOf Tryd.f92) Tryd.func92 (by kernel_rfl) (by kernel_rfl) (by kernel_rfl) [] (by kernel_rfl) (fun q hq=>by cases hq)
theorem Tryd.fks {ok:Rho→(Nat→Obj→Prop)→Prop}:Sx.Tryd.ft.Every (FRow ⟨Tryd.prog,rcOf Tryd.rows,ok⟩ Sx.Tryd.tt.get):=⟨ev0,⟨ev0,⟨ev0,⟨ev1 Tryd.fk7,⟨ev1 Tryd.fk15,⟨ev0,⟨ev1 Tryd.fk63,trivial,trivial⟩,trivial⟩,⟨ev1 Tryd.fk47,⟨ev1 Tryd.fk79,trivial,trivial⟩,trivial⟩⟩,⟨ev1 Tryd.fk23,⟨ev1 Tryd.fk39,⟨ev1 Tryd.fk71,trivial,trivial⟩,trivial⟩,⟨ev1 Tryd.fk55,⟨ev1 Tryd.fk87,trivial,trivial⟩,trivial⟩⟩⟩,⟨ev1 Tryd.fk11,⟨ev1 Tryd.fk19,⟨ev1 Tryd.fk35,⟨ev1 Tryd.fk67,trivial,trivial⟩,trivial⟩,⟨ev1 Tryd.fk51,⟨ev1 Tryd.fk83,trivial,trivial⟩,trivial⟩⟩,⟨ev1 Tryd.fk27,⟨ev1 Tryd.fk43,⟨ev1 Tryd.fk75,trivial,trivial⟩,trivial⟩,⟨ev1 Tryd.fk59,⟨ev1 Tryd.fk91,trivial,trivial⟩,trivial⟩⟩⟩⟩,⟨ev1 Tryd.fk5,⟨ev0,⟨ev1 Tryd.fk17,⟨ev1 Tryd.fk33,⟨ev1 Tryd.fk65,trivial,trivial⟩,trivial⟩,⟨ev1 Tryd.fk49,⟨ev1 Tryd.fk81,trivial,trivial⟩,trivial⟩⟩,⟨ev1 Tryd.fk25,⟨ev1 Tryd.fk41,⟨ev1 Tryd.fk73,trivial,trivial⟩,trivial⟩,⟨ev1 Tryd.fk57,⟨ev1 Tryd.fk89,trivial,trivial⟩,trivial⟩⟩⟩,⟨ev1 Tryd.fk13,⟨ev1 Tryd.fk21,⟨ev1 Tryd.fk37,⟨ev1 Tryd.fk69,trivial,trivial⟩,trivial⟩,⟨ev1 Tryd.fk53,⟨ev1 Tryd.fk85,trivial,trivial⟩,trivial⟩⟩,⟨ev1 Tryd.fk29,⟨ev1 Tryd.fk45,⟨ev1 Tryd.fk77,trivial,trivial⟩,trivial⟩,⟨ev1 Tryd.fk61,trivial,trivial⟩⟩⟩⟩⟩,⟨ev0,⟨ev0,⟨ev1 Tryd.fk8,⟨ev1 Tryd.fk16,⟨ev0,⟨ev1 Tryd.fk64,trivial,trivial⟩,trivial⟩,⟨ev1 Tryd.fk48,⟨ev1 Tryd.fk80,trivial,trivial⟩,trivial⟩⟩,⟨ev1 Tryd.fk24,⟨ev1 Tryd.fk40,⟨ev1 Tryd.fk72,trivial,trivial⟩,trivial⟩,⟨ev1 Tryd.fk56,⟨ev1 Tryd.fk88,trivial,trivial⟩,trivial⟩⟩⟩,⟨ev0,⟨ev1 Tryd.fk20,⟨ev1 Tryd.fk36,⟨ev1 Tryd.fk68,trivial,trivial⟩,trivial⟩,⟨ev1 Tryd.fk52,⟨ev1 Tryd.fk84,trivial,trivial⟩,trivial⟩⟩,⟨ev1 Tryd.fk28,⟨ev1 Tryd.fk44,⟨ev1 Tryd.fk76,trivial,trivial⟩,trivial⟩,⟨ev1 Tryd.fk60,⟨ev1 Tryd.fk92,trivial,trivial⟩,trivial⟩⟩⟩⟩,⟨ev1 Tryd.fk6,⟨ev0,⟨ev1 Tryd.fk18,⟨ev1 Tryd.fk34,⟨ev1 Tryd.fk66,trivial,trivial⟩,trivial⟩,⟨ev1 Tryd.fk50,⟨ev1 Tryd.fk82,trivial,trivial⟩,trivial⟩⟩,⟨ev1 Tryd.fk26,⟨ev1 Tryd.fk42,⟨ev1 Tryd.fk74,trivial,trivial⟩,trivial⟩,⟨ev1 Tryd.fk58,⟨ev1 Tryd.fk90,trivial,trivial⟩,trivial⟩⟩⟩,⟨ev1 Tryd.fk14,⟨ev1 Tryd.fk22,⟨ev1 Tryd.fk38,⟨ev1 Tryd.fk70,trivial,trivial⟩,trivial⟩,⟨ev1 Tryd.fk54,⟨ev1 Tryd.fk86,trivial,trivial⟩,trivial⟩⟩,⟨ev1 Tryd.fk30,⟨ev1 Tryd.fk46,⟨ev1 Tryd.fk78,trivial,trivial⟩,trivial⟩,⟨ev1 Tryd.fk62,trivial,trivial⟩⟩⟩⟩⟩⟩
theorem Tryd.rk19011:∃ ca cb,lFind Sx.Tryd.rt Tryd.rr19011.id=some (ca,cb)∧cCode Sx.Tryd.tt.get Tryd.rr19011.n Tryd.rr19011.keep Tryd.rr19011.fid Tryd.rr19011.a=some ca∧cCode Sx.Tryd.tt.get Tryd.rr19011.n Tryd.rr19011.keep Tryd.rr19011.fid Tryd.rr19011.b=some cb∧ranges Tryd.rr19011.a=[]∧ranges Tryd.rr19011.b=[] :=
  ⟨Sx.Tryd.ra19011,Sx.Tryd.rb19011,by kernel_rfl,by kernel_rfl,by kernel_rfl,by kernel_rfl,by kernel_rfl⟩
theorem Tryd.rk39017:∃ ca cb,lFind Sx.Tryd.rt Tryd.rr39017.id=some (ca,cb)∧cCode Sx.Tryd.tt.get Tryd.rr39017.n Tryd.rr39017.keep Tryd.rr39017.fid Tryd.rr39017.a=some ca∧cCode Sx.Tryd.tt.get Tryd.rr39017.n Tryd.rr39017.keep Tryd.rr39017.fid Tryd.rr39017.b=some cb∧ranges Tryd.rr39017.a=[]∧ranges Tryd.rr39017.b=[] :=
  ⟨Sx.Tryd.ra39017,Sx.Tryd.rb39017,by kernel_rfl,by kernel_rfl,by kernel_rfl,by kernel_rfl,by kernel_rfl⟩
theorem Tryd.rks:∀ r ∈ Tryd.rows,∃ ca cb,lFind Sx.Tryd.rt r.id=some (ca,cb)∧cCode Sx.Tryd.tt.get r.n r.keep r.fid r.a=some ca∧cCode Sx.Tryd.tt.get r.n r.keep r.fid r.b=some cb∧ranges r.a=[]∧ranges r.b=[]:=by
  intro r hr
  simp only [Tryd.rows,List.mem_cons,List.not_mem_nil,or_false] at hr
  rcases hr with rfl | rfl
  · exact Tryd.rk19011
  · exact Tryd.rk39017
/-- THE SEAT's TABLES. -/
theorem Tryd.tab {ok : Rho → (Nat → Obj → Prop) → Prop} (orc : FuncId → List AV → Heap → Option (T (AV × Heap))) (ho : ∀ f args h t, orc f args h = some t → CallOk ⟨Tryd.prog, rcOf Tryd.rows, ok⟩ f args h t) (loops : Nat) :
    TabOk ⟨Tryd.prog,rcOf Tryd.rows,ok⟩ Sx.Tryd.tt.get ⟨Sx.Tryd.ft.get,lFind Sx.Tryd.rt,loops,orc⟩ :=
  tabOk_of (Checked.mixed Tryd.checked) Tryd.tyks Tryd.fks Tryd.rks ho
end Go.Sx
