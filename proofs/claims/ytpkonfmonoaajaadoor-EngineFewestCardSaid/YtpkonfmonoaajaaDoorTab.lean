/- THE TABLES OF THE PROGRAM: its types,and its functions as the evaluator runs them. -/
import Derived.Test.YtpkonfmonoaajaaDoorSxOps5
import Derived.KernelRfl
/-! THE TABLES OF THE PROGRAM: its types,and its functions as the evaluator runs them. -/
namespace Go.Sx
set_option maxRecDepth 100000
noncomputable def Tryd.ti3:TI:=⟨.int .i64,1,8,(some (.int .i64 (.lit 0))),false⟩
noncomputable def Tryd.ti4:TI:=⟨.bool,1,1,(some (.bool (.lit false))),false⟩
noncomputable def Tryd.ti23:TI:=⟨.struct #[⟨ "Low",3,0,false,"","",0⟩,⟨ "High",3,1,false,"","",8⟩],2,16,(some (.agg [(.int .i64 (.lit 0)),(.int .i64 (.lit 0))])),true⟩
noncomputable def Tryd.ti24:TI:=⟨.array 2 23,4,32,(some (.agg [(.int .i64 (.lit 0)),(.int .i64 (.lit 0)),(.int .i64 (.lit 0)),(.int .i64 (.lit 0))])),true⟩
noncomputable def Tryd.ti25:TI:=⟨.slice 42,1,24,(some .nilslice),false⟩
noncomputable def Tryd.ti27:TI:=⟨.struct #[⟨ "Coal",23,0,false,"","",0⟩,⟨ "Water",23,2,false,"","",16⟩,⟨ "Bunker",3,4,false,"","",32⟩,⟨ "Tank",3,5,false,"","",40⟩,⟨ "Scoop",3,6,false,"","",48⟩,⟨ "Pail",3,7,false,"","",56⟩,⟨ "Burn",24,8,false,"","",64⟩,⟨ "Drink",24,12,false,"","",96⟩,⟨ "Full",23,16,false,"","",128⟩,⟨ "Weak",23,18,false,"","",144⟩,⟨ "Mark",3,20,false,"","",160⟩,⟨ "Lamp",3,21,false,"","",168⟩,⟨ "Parts",25,22,false,"","",176⟩],23,200,(some (.agg [(.int .i64 (.lit 0)),(.int .i64 (.lit 0)),(.int .i64 (.lit 0)),(.int .i64 (.lit 0)),(.int .i64 (.lit 0)),(.int .i64 (.lit 0)),(.int .i64 (.lit 0)),(.int .i64 (.lit 0)),(.int .i64 (.lit 0)),(.int .i64 (.lit 0)),(.int .i64 (.lit 0)),(.int .i64 (.lit 0)),(.int .i64 (.lit 0)),(.int .i64 (.lit 0)),(.int .i64 (.lit 0)),(.int .i64 (.lit 0)),(.int .i64 (.lit 0)),(.int .i64 (.lit 0)),(.int .i64 (.lit 0)),(.int .i64 (.lit 0)),(.int .i64 (.lit 0)),(.int .i64 (.lit 0)),.nilslice])),true⟩
noncomputable def Tryd.ti28:TI:=⟨.array 2 3,2,16,(some (.agg [(.int .i64 (.lit 0)),(.int .i64 (.lit 0))])),true⟩
noncomputable def Tryd.ti32:TI:=⟨.int .i64,1,8,(some (.int .i64 (.lit 0))),false⟩
noncomputable def Tryd.ti36:TI:=⟨.slice 54,1,24,(some .nilslice),false⟩
noncomputable def Tryd.ti42:TI:=⟨.struct #[⟨ "Minutes",23,0,false,"","",0⟩,⟨ "Light",4,2,false,"","",16⟩,⟨ "Walks",3,3,false,"","",24⟩],4,32,(some (.agg [(.int .i64 (.lit 0)),(.int .i64 (.lit 0)),(.bool (.lit false)),(.int .i64 (.lit 0))])),true⟩
noncomputable def Tryd.ti46:TI:=⟨.slice 3,1,24,(some .nilslice),false⟩
noncomputable def Tryd.ti54:TI:=⟨.struct #[⟨ "Coal",3,0,false,"","",0⟩,⟨ "Water",3,1,false,"","",8⟩],2,16,(some (.agg [(.int .i64 (.lit 0)),(.int .i64 (.lit 0))])),true⟩
noncomputable def Tryd.ti66:TI:=⟨.struct #[⟨ "first",23,0,false,"","bioscope/engine",0⟩,⟨ "room",3,2,false,"","bioscope/engine",16⟩,⟨ "load",3,3,false,"","bioscope/engine",24⟩,⟨ "takes",24,4,false,"","bioscope/engine",32⟩],8,64,(some (.agg [(.int .i64 (.lit 0)),(.int .i64 (.lit 0)),(.int .i64 (.lit 0)),(.int .i64 (.lit 0)),(.int .i64 (.lit 0)),(.int .i64 (.lit 0)),(.int .i64 (.lit 0)),(.int .i64 (.lit 0))])),true⟩
noncomputable def Tryd.ti67:TI:=⟨.array 2 66,16,128,(some (.agg [(.int .i64 (.lit 0)),(.int .i64 (.lit 0)),(.int .i64 (.lit 0)),(.int .i64 (.lit 0)),(.int .i64 (.lit 0)),(.int .i64 (.lit 0)),(.int .i64 (.lit 0)),(.int .i64 (.lit 0)),(.int .i64 (.lit 0)),(.int .i64 (.lit 0)),(.int .i64 (.lit 0)),(.int .i64 (.lit 0)),(.int .i64 (.lit 0)),(.int .i64 (.lit 0)),(.int .i64 (.lit 0)),(.int .i64 (.lit 0))])),true⟩
noncomputable def Tryd.ti69:TI:=⟨.struct #[⟨ "EngineBook",27,0,true,"","",0⟩,⟨ "stores",67,23,false,"","bioscope/engine",200⟩],39,328,(some (.agg [(.int .i64 (.lit 0)),(.int .i64 (.lit 0)),(.int .i64 (.lit 0)),(.int .i64 (.lit 0)),(.int .i64 (.lit 0)),(.int .i64 (.lit 0)),(.int .i64 (.lit 0)),(.int .i64 (.lit 0)),(.int .i64 (.lit 0)),(.int .i64 (.lit 0)),(.int .i64 (.lit 0)),(.int .i64 (.lit 0)),(.int .i64 (.lit 0)),(.int .i64 (.lit 0)),(.int .i64 (.lit 0)),(.int .i64 (.lit 0)),(.int .i64 (.lit 0)),(.int .i64 (.lit 0)),(.int .i64 (.lit 0)),(.int .i64 (.lit 0)),(.int .i64 (.lit 0)),(.int .i64 (.lit 0)),.nilslice,(.int .i64 (.lit 0)),(.int .i64 (.lit 0)),(.int .i64 (.lit 0)),(.int .i64 (.lit 0)),(.int .i64 (.lit 0)),(.int .i64 (.lit 0)),(.int .i64 (.lit 0)),(.int .i64 (.lit 0)),(.int .i64 (.lit 0)),(.int .i64 (.lit 0)),(.int .i64 (.lit 0)),(.int .i64 (.lit 0)),(.int .i64 (.lit 0)),(.int .i64 (.lit 0)),(.int .i64 (.lit 0)),(.int .i64 (.lit 0))])),true⟩
noncomputable def Tryd.ti72:TI:=⟨.func #[3] #[4] false,1,8,(some .nilFunc),false⟩
noncomputable def Tryd.ti75:TI:=⟨.struct #[⟨ "evening",69,0,true,"","bioscope/engine",0⟩,⟨ "part",3,39,false,"","bioscope/engine",328⟩],40,336,(some (.agg [(.int .i64 (.lit 0)),(.int .i64 (.lit 0)),(.int .i64 (.lit 0)),(.int .i64 (.lit 0)),(.int .i64 (.lit 0)),(.int .i64 (.lit 0)),(.int .i64 (.lit 0)),(.int .i64 (.lit 0)),(.int .i64 (.lit 0)),(.int .i64 (.lit 0)),(.int .i64 (.lit 0)),(.int .i64 (.lit 0)),(.int .i64 (.lit 0)),(.int .i64 (.lit 0)),(.int .i64 (.lit 0)),(.int .i64 (.lit 0)),(.int .i64 (.lit 0)),(.int .i64 (.lit 0)),(.int .i64 (.lit 0)),(.int .i64 (.lit 0)),(.int .i64 (.lit 0)),(.int .i64 (.lit 0)),.nilslice,(.int .i64 (.lit 0)),(.int .i64 (.lit 0)),(.int .i64 (.lit 0)),(.int .i64 (.lit 0)),(.int .i64 (.lit 0)),(.int .i64 (.lit 0)),(.int .i64 (.lit 0)),(.int .i64 (.lit 0)),(.int .i64 (.lit 0)),(.int .i64 (.lit 0)),(.int .i64 (.lit 0)),(.int .i64 (.lit 0)),(.int .i64 (.lit 0)),(.int .i64 (.lit 0)),(.int .i64 (.lit 0)),(.int .i64 (.lit 0)),(.int .i64 (.lit 0))])),true⟩
noncomputable def Tryd.ti86:TI:=⟨.func #[115] #[3] false,1,8,(some .nilFunc),false⟩
noncomputable def Tryd.ti88:TI:=⟨.struct #[⟨ "has",86,0,false,"","bioscope/engine",0⟩,⟨ "takes",86,1,false,"","bioscope/engine",8⟩],2,16,(some (.agg [.nilFunc,.nilFunc])),true⟩
noncomputable def Tryd.ti91:TI:=⟨.map 95 100,1,8,(some .nilmap),false⟩
noncomputable def Tryd.ti93:TI:=⟨.array 2 3,2,16,(some (.agg [(.int .i64 (.lit 0)),(.int .i64 (.lit 0))])),true⟩
noncomputable def Tryd.ti95:TI:=⟨.struct #[⟨ "part",3,0,false,"","bioscope/engine",0⟩,⟨ "left",93,1,false,"","bioscope/engine",8⟩],3,24,(some (.agg [(.int .i64 (.lit 0)),(.int .i64 (.lit 0)),(.int .i64 (.lit 0))])),true⟩
noncomputable def Tryd.ti98:TI:=⟨.struct #[⟨ "walks",54,0,false,"","bioscope/engine",0⟩,⟨ "behind",95,2,false,"","bioscope/engine",16⟩,⟨ "lacks",93,5,false,"","bioscope/engine",40⟩],7,56,(some (.agg [(.int .i64 (.lit 0)),(.int .i64 (.lit 0)),(.int .i64 (.lit 0)),(.int .i64 (.lit 0)),(.int .i64 (.lit 0)),(.int .i64 (.lit 0)),(.int .i64 (.lit 0))])),true⟩
noncomputable def Tryd.ti100:TI:=⟨.struct #[⟨ "enough",4,0,false,"","bioscope/engine",0⟩,⟨ "many",3,1,false,"","bioscope/engine",8⟩,⟨ "first",98,2,false,"","bioscope/engine",16⟩],9,72,(some (.agg [(.bool (.lit false)),(.int .i64 (.lit 0)),(.int .i64 (.lit 0)),(.int .i64 (.lit 0)),(.int .i64 (.lit 0)),(.int .i64 (.lit 0)),(.int .i64 (.lit 0)),(.int .i64 (.lit 0)),(.int .i64 (.lit 0))])),true⟩
noncomputable def Tryd.ti101:TI:=⟨.int .u64,1,8,(some (.int .u64 (.lit 0))),false⟩
noncomputable def Tryd.ti106:TI:=⟨.array 6 3,6,48,(some (.agg [(.int .i64 (.lit 0)),(.int .i64 (.lit 0)),(.int .i64 (.lit 0)),(.int .i64 (.lit 0)),(.int .i64 (.lit 0)),(.int .i64 (.lit 0))])),true⟩
noncomputable def Tryd.ti107:TI:=⟨.array 6 23,12,96,(some (.agg [(.int .i64 (.lit 0)),(.int .i64 (.lit 0)),(.int .i64 (.lit 0)),(.int .i64 (.lit 0)),(.int .i64 (.lit 0)),(.int .i64 (.lit 0)),(.int .i64 (.lit 0)),(.int .i64 (.lit 0)),(.int .i64 (.lit 0)),(.int .i64 (.lit 0)),(.int .i64 (.lit 0)),(.int .i64 (.lit 0))])),true⟩
noncomputable def Tryd.ti109:TI:=⟨.slice 23,1,24,(some .nilslice),false⟩
noncomputable def Tryd.ti111:TI:=⟨.func #[69] #[66] false,1,8,(some .nilFunc),false⟩
noncomputable def Tryd.ti113:TI:=⟨.array 2 111,2,16,(some (.agg [.nilFunc,.nilFunc])),true⟩
noncomputable def Tryd.ti115:TI:=⟨.struct #[⟨ "Low",3,0,false,"","",0⟩,⟨ "High",3,1,false,"","",8⟩],2,16,(some (.agg [(.int .i64 (.lit 0)),(.int .i64 (.lit 0))])),true⟩
noncomputable def Tryd.ti116:TI:=⟨.func #[95] #[100] false,1,8,(some .nilFunc),false⟩
noncomputable def Tryd.tt:PT TI:=(.node none (.node none (.node (some Tryd.ti3) (.node none (.node none (.node none .nil (.node (some Tryd.ti95) .nil .nil)) (.node none .nil (.node (some Tryd.ti111) .nil .nil))) (.node (some Tryd.ti23) .nil .nil)) (.node none (.node none (.node none (.node (some Tryd.ti67) .nil .nil) .nil) (.node none .nil (.node (some Tryd.ti115) .nil .nil))) (.node (some Tryd.ti27) (.node none (.node (some Tryd.ti75) .nil .nil) (.node (some Tryd.ti107) .nil .nil)) (.node none (.node (some Tryd.ti91) .nil .nil) .nil)))) (.node none (.node none (.node none .nil (.node none .nil (.node (some Tryd.ti113) .nil .nil))) (.node (some Tryd.ti25) .nil .nil)) (.node none (.node none (.node none (.node (some Tryd.ti69) .nil .nil) (.node (some Tryd.ti101) .nil .nil)) .nil) (.node none (.node none .nil (.node (some Tryd.ti109) .nil .nil)) (.node none (.node (some Tryd.ti93) .nil .nil) .nil))))) (.node none (.node (some Tryd.ti4) (.node none (.node none (.node (some Tryd.ti32) .nil .nil) .nil) (.node (some Tryd.ti24) (.node none (.node (some Tryd.ti72) .nil .nil) .nil) (.node none (.node (some Tryd.ti88) .nil .nil) .nil))) (.node none (.node none (.node (some Tryd.ti36) .nil (.node (some Tryd.ti100) .nil .nil)) (.node none .nil (.node (some Tryd.ti116) .nil .nil))) (.node (some Tryd.ti28) .nil .nil))) (.node none (.node none (.node none (.node none (.node (some Tryd.ti66) .nil .nil) (.node (some Tryd.ti98) .nil .nil)) .nil) (.node none (.node (some Tryd.ti42) .nil (.node (some Tryd.ti106) .nil .nil)) .nil)) (.node none (.node none .nil (.node (some Tryd.ti54) (.node (some Tryd.ti86) .nil .nil) .nil)) (.node none (.node (some Tryd.ti46) .nil .nil) .nil)))))
noncomputable def Tryd.kp6:List Nat:=[0,1,2,3,5,6,7,8,9,11,13,14,15,17,25,46,74,97,120,128]
noncomputable def Tryd.cf6:CF:=⟨3,(cSeq (cOps [⟨some 3,true,none,iBox 27 (.t 0)⟩,
 ⟨some 5,true,none,iBox 28 (.t 2)⟩,
 ⟨some 6,true,none,iMov (.c (.bool (.lit false)))⟩])
 (cSeq (cOps [⟨some 19,false,none,iLoadN 23 (.t 3)⟩,
 ⟨some 20,false,none,iCall (.c (.func (.func 12) [] [])) [(.t 19)]⟩,
 ⟨some 18,false,none,iMov (.t 20)⟩,
 ⟨some 21,false,none,iExtract 0 (.t 18)⟩,
 ⟨some 22,false,none,iExtract 1 (.t 18)⟩,
 ⟨some 7,true,none,iMov (.t 21)⟩,
 ⟨some 8,true,none,iMov (.t 22)⟩])
 (cSeq (cSeq (cOps [⟨some 23,false,none,iLoadN 23 (.t 3)⟩,
 ⟨some 24,false,none,iCall (.c (.func (.func 7) [] [])) [(.t 23)]⟩,
 ⟨some 25,true,none,iNot (.t 24)⟩])
 (cCond (.t 25) (cSeq (cOps [⟨some 26,false,none,iMov (.t 8)⟩,
 ⟨some 27,false,none,iCmp .eql (.t 26) (.c (.int .i64 (.lit 40)))⟩,
 ⟨some 28,false,none,iMov (.t 27)⟩,
 ⟨some 29,false,some (28,true),iMov (.t 7)⟩,
 ⟨some 30,false,some (28,true),iLenS (.t 29)⟩,
 ⟨some 31,false,some (28,true),iCmp .eql (.t 30) (.c (.int .i64 (.lit 0)))⟩,
 ⟨some 32,false,none,iPick (.t 28) (.t 31) (.c (.bool (.lit false)))⟩,
 ⟨some 33,false,none,iMov (.t 32)⟩,
 ⟨some 34,false,some (33,true),iCall (.c (.func (.func 8) [] [])) []⟩,
 ⟨some 35,false,none,iPick (.t 33) (.t 34) (.c (.bool (.lit false)))⟩,
 ⟨some 6,true,none,iMov (.t 35)⟩])
 cRet) cSkip))
 (cSeq (cOps [⟨some 36,false,none,iLoadN 23 (.t 3)⟩,
 ⟨some 37,false,none,iMov (.t 1)⟩,
 ⟨some 38,false,none,iCall (.c (.func (.func 17) [] [])) [(.t 36),(.t 37)]⟩,
 ⟨some 9,true,none,iMov (.t 38)⟩])
 (cSeq (cOps [⟨some 40,false,none,iLoadN 23 (.t 3)⟩,
 ⟨some 41,false,none,iMov (.t 9)⟩,
 ⟨some 42,false,none,iCall (.c (.func (.func 18) [] [])) [(.t 40),(.t 41)]⟩,
 ⟨some 39,false,none,iMov (.t 42)⟩,
 ⟨some 43,false,none,iExtract 0 (.t 39)⟩,
 ⟨some 44,false,none,iExtract 1 (.t 39)⟩,
 ⟨some 10,false,none,iMov (.t 43)⟩,
 ⟨some 11,true,none,iMov (.t 44)⟩])
 (cSeq (cSeq (cOps [⟨some 45,false,none,iMov (.t 8)⟩,
 ⟨some 46,true,none,iCmp .neq (.t 45) (.c (.int .i64 (.lit 0)))⟩])
 (cCond (.t 46) (cSeq (cOps [⟨some 47,false,none,iMov (.t 8)⟩,
 ⟨some 48,false,none,iCmp .eql (.t 47) (.c (.int .i64 (.lit 4)))⟩,
 ⟨some 49,false,none,iMov (.t 48)⟩,
 ⟨some 50,false,some (49,true),iMov (.t 7)⟩,
 ⟨some 51,false,some (49,true),iLenS (.t 50)⟩,
 ⟨some 52,false,some (49,true),iCmp .eql (.t 51) (.c (.int .i64 (.lit 0)))⟩,
 ⟨some 53,false,none,iPick (.t 49) (.t 52) (.c (.bool (.lit false)))⟩,
 ⟨some 54,false,none,iMov (.t 53)⟩,
 ⟨some 55,false,some (54,true),iMov (.t 11)⟩,
 ⟨some 56,false,some (54,true),iCmp .eql (.t 55) (.c (.int .i64 (.lit 0)))⟩,
 ⟨some 57,false,none,iPick (.t 54) (.t 56) (.c (.bool (.lit false)))⟩,
 ⟨some 58,false,none,iMov (.t 57)⟩,
 ⟨some 59,false,some (58,true),iCall (.c (.func (.func 8) [] [])) []⟩,
 ⟨some 60,false,none,iPick (.t 58) (.t 59) (.c (.bool (.lit false)))⟩,
 ⟨some 6,true,none,iMov (.t 60)⟩])
 cRet) cSkip))
 (cSeq (cSeq (cOps [⟨some 62,false,none,iLoadN 23 (.t 3)⟩,
 ⟨some 63,false,none,iMov (.t 7)⟩,
 ⟨some 64,false,none,iCall (.c (.func (.func 18) [] [])) [(.t 62),(.t 63)]⟩,
 ⟨some 61,false,none,iMov (.t 64)⟩,
 ⟨some 65,false,none,iExtract 0 (.t 61)⟩,
 ⟨some 66,false,none,iExtract 1 (.t 61)⟩,
 ⟨some 12,false,none,iMov (.t 65)⟩,
 ⟨some 13,true,none,iMov (.t 66)⟩])
 (cSeq (cOps [⟨some 67,false,none,iLoadN 23 (.t 3)⟩,
 ⟨some 68,false,none,iMov (.t 7)⟩,
 ⟨some 69,false,none,iCall (.c (.func (.func 19) [] [])) [(.t 67),(.t 68)]⟩,
 ⟨some 70,false,none,iNot (.t 69)⟩,
 ⟨some 71,false,none,iMov (.t 70)⟩,
 ⟨some 72,false,some (71,false),iMov (.t 13)⟩,
 ⟨some 73,false,some (71,false),iCmp .neq (.t 72) (.c (.int .i64 (.lit 4)))⟩,
 ⟨some 74,true,none,iPick (.t 71) (.c (.bool (.lit true))) (.t 73)⟩])
 (cCond (.t 74) (cSeq (cOps [⟨some 6,true,none,iMov (.c (.bool (.lit false)))⟩])
 cRet) cSkip)))
 (cSeq (cSeq (cOps [⟨some 75,false,none,iMov (.t 11)⟩,
 ⟨some 76,false,none,iCmp .eql (.t 75) (.c (.int .i64 (.lit 4)))⟩,
 ⟨some 77,false,none,iMov (.t 76)⟩,
 ⟨some 78,false,some (77,true),iMov (.t 9)⟩,
 ⟨some 79,false,some (77,true),iCall (.c (.func (.func 20) [] [])) [(.t 78)]⟩,
 ⟨some 80,false,some (77,true),iMov (.t 7)⟩,
 ⟨some 81,false,some (77,true),iCall (.c (.func (.func 20) [] [])) [(.t 80)]⟩,
 ⟨some 82,false,some (77,true),iCmp .lss (.t 79) (.t 81)⟩,
 ⟨some 83,false,some (77,true),iMov (.t 82)⟩,
 ⟨some 84,false,some (83,false),iMov (.t 9)⟩,
 ⟨some 85,false,some (83,false),iCall (.c (.func (.func 20) [] [])) [(.t 84)]⟩,
 ⟨some 86,false,some (83,false),iMov (.t 7)⟩,
 ⟨some 87,false,some (83,false),iCall (.c (.func (.func 20) [] [])) [(.t 86)]⟩,
 ⟨some 88,false,some (83,false),iCmp .eql (.t 85) (.t 87)⟩,
 ⟨some 89,false,some (83,false),iMov (.t 88)⟩,
 ⟨some 90,false,some (89,true),iMov (.t 9)⟩,
 ⟨some 91,false,some (89,true),iCall (.c (.func (.func 22) [] [])) [(.t 90)]⟩,
 ⟨some 92,false,some (89,true),iMov (.t 7)⟩,
 ⟨some 93,false,some (89,true),iCall (.c (.func (.func 22) [] [])) [(.t 92)]⟩,
 ⟨some 94,false,some (89,true),iCall (.c (.func (.func 21) [] [])) [(.t 91),(.t 93)]⟩,
 ⟨some 95,false,some (83,false),iPick (.t 89) (.t 94) (.c (.bool (.lit false)))⟩,
 ⟨some 96,false,some (77,true),iPick (.t 83) (.c (.bool (.lit true))) (.t 95)⟩,
 ⟨some 97,true,none,iPick (.t 77) (.t 96) (.c (.bool (.lit false)))⟩])
 (cCond (.t 97) (cSeq (cOps [⟨some 6,true,none,iMov (.c (.bool (.lit false)))⟩])
 cRet) cSkip))
 (cSeq (cOps [⟨some 98,false,none,iIaddrA 1 2 (.t 5) (.c (.int .i64 (.lit 0)))⟩,
 ⟨some 99,false,none,iLoad (.t 98)⟩,
 ⟨some 100,false,none,iMov (.t 7)⟩,
 ⟨some 101,false,none,iLenS (.t 100)⟩,
 ⟨some 102,false,none,iCall (.c (.func (.func 9) [] [])) [(.t 99),(.t 101)]⟩,
 ⟨some 14,true,none,iMov (.t 102)⟩])
 (cSeq (cSeq (dOps 0 [⟨⟨some 103,false,none,iMov (.t 7)⟩,[7],false,0,0,none,[]⟩,
 ⟨⟨some 104,false,none,iMov (.t 14)⟩,[14],false,0,0,none,[]⟩,
 ⟨⟨some 105,false,none,iIaddr 2 (.t 103) (.t 104)⟩,[103,104],false,0,0,none,[]⟩,
 ⟨⟨some 106,false,none,iFaddr 0 (.t 105)⟩,[105],false,0,0,none,[]⟩,
 ⟨⟨some 107,false,none,iLoad (.t 106)⟩,[106],false,0,0,none,[]⟩,
 ⟨⟨some 108,false,none,iMov (.t 7)⟩,[7],false,0,0,none,[]⟩,
 ⟨⟨some 109,false,none,iMov (.t 14)⟩,[14],false,0,0,none,[]⟩,
 ⟨⟨some 110,false,none,iIaddr 2 (.t 108) (.t 109)⟩,[108,109],false,0,0,none,[]⟩,
 ⟨⟨some 111,false,none,iFaddr 1 (.t 110)⟩,[110],false,0,0,none,[]⟩,
 ⟨⟨some 112,false,none,iLoad (.t 111)⟩,[111],false,0,0,none,[]⟩,
 ⟨⟨some 113,false,none,iArith .add (.t 107) (.t 112)⟩,[107,112],false,0,0,none,[]⟩,
 ⟨⟨some 114,false,none,iFaddr 22 (.t 3)⟩,[3],false,0,0,none,[]⟩,
 ⟨⟨some 115,false,none,iLoad (.t 114)⟩,[114],false,0,0,none,[]⟩,
 ⟨⟨some 116,false,none,iMov (.t 14)⟩,[14],false,0,0,none,[]⟩,
 ⟨⟨some 117,false,none,iIaddr 4 (.t 115) (.t 116)⟩,[115,116],false,0,0,none,[]⟩,
 ⟨⟨some 118,false,none,iFaddr 3 (.t 117)⟩,[117],false,0,0,none,[]⟩,
 ⟨⟨some 119,false,none,iLoad (.t 118)⟩,[118],false,0,0,none,[]⟩,
 ⟨⟨some 120,true,none,iCmp .eql (.t 113) (.t 119)⟩,[113,119],false,0,0,none,[]⟩])
 (cCond (.t 120) (cSeq (cOps [⟨some 121,false,none,iCall (.c (.func (.func 8) [] [])) []⟩,
 ⟨some 6,true,none,iMov (.t 121)⟩])
 cRet) cSkip))
 (cSeq (cOps [⟨some 122,false,none,iBslice 54 [(.int .i64 (.lit 0)),(.int .i64 (.lit 0))] 0 []⟩,
 ⟨some 123,false,none,iMov (.t 7)⟩,
 ⟨some 124,false,none,iAppend 54 2 16 (.t 122) (.t 123)⟩,
 ⟨some 15,true,none,iMov (.t 124)⟩])
 (cSeq (cSeq (cOps [⟨some 125,false,none,iIaddrA 1 2 (.t 5) (.c (.int .i64 (.lit 1)))⟩,
 ⟨some 126,false,none,iLoad (.t 125)⟩,
 ⟨some 127,false,none,iArith .rem (.t 126) (.c (.int .i64 (.lit 2)))⟩,
 ⟨some 128,true,none,iCmp .eql (.t 127) (.c (.int .i64 (.lit 0)))⟩])
 (cCond (.t 128) (cOps [⟨some 129,false,none,iMov (.t 15)⟩,
 ⟨some 130,false,none,iMov (.t 14)⟩,
 ⟨some 131,false,none,iIaddr 2 (.t 129) (.t 130)⟩,
 ⟨some 132,false,none,iFaddr 0 (.t 131)⟩,
 ⟨some 133,false,none,iLoad (.t 132)⟩,
 ⟨some 134,false,none,iArith .add (.t 133) (.c (.int .i64 (.lit 1)))⟩,
 ⟨some 135,false,none,iIaddr 2 (.t 129) (.t 130)⟩,
 ⟨some 136,false,none,iFaddr 0 (.t 135)⟩,
 ⟨none,false,none,iStore 1 (.t 136) (.t 134)⟩]) (cOps [⟨some 137,false,none,iMov (.t 15)⟩,
 ⟨some 138,false,none,iMov (.t 14)⟩,
 ⟨some 139,false,none,iIaddr 2 (.t 137) (.t 138)⟩,
 ⟨some 140,false,none,iFaddr 1 (.t 139)⟩,
 ⟨some 141,false,none,iLoad (.t 140)⟩,
 ⟨some 142,false,none,iArith .add (.t 141) (.c (.int .i64 (.lit 1)))⟩,
 ⟨some 143,false,none,iIaddr 2 (.t 137) (.t 138)⟩,
 ⟨some 144,false,none,iFaddr 1 (.t 143)⟩,
 ⟨none,false,none,iStore 1 (.t 144) (.t 142)⟩])))
 (cSeq (cOps [⟨some 146,false,none,iLoadN 23 (.t 3)⟩,
 ⟨some 147,false,none,iMov (.t 15)⟩,
 ⟨some 148,false,none,iCall (.c (.func (.func 18) [] [])) [(.t 146),(.t 147)]⟩,
 ⟨some 145,false,none,iMov (.t 148)⟩,
 ⟨some 149,false,none,iExtract 0 (.t 145)⟩,
 ⟨some 150,false,none,iExtract 1 (.t 145)⟩,
 ⟨some 16,false,none,iMov (.t 149)⟩,
 ⟨some 17,true,none,iMov (.t 150)⟩])
 (cSeq (cOps [⟨some 151,false,none,iMov (.t 17)⟩,
 ⟨some 152,false,none,iCmp .eql (.t 151) (.c (.int .i64 (.lit 4)))⟩,
 ⟨some 153,false,none,iMov (.t 152)⟩,
 ⟨some 154,false,some (153,true),iCall (.c (.func (.func 8) [] [])) []⟩,
 ⟨some 155,false,none,iPick (.t 153) (.t 154) (.c (.bool (.lit false)))⟩,
 ⟨some 6,true,none,iMov (.t 155)⟩])
 cRet)))))))))))))),[.t 6]⟩
noncomputable def Tryd.kp7:List Nat:=[0,1,2,3,4,5,73,98]
noncomputable def Tryd.cf7:CF:=⟨1,(cSeq (cOps [⟨some 1,true,none,iBox 27 (.t 0)⟩,
 ⟨some 2,true,none,iMov (.c (.bool (.lit false)))⟩])
 (cSeq (cOps [⟨some 6,false,none,iLoadN 23 (.t 1)⟩,
 ⟨some 7,false,none,iCall (.c (.func (.func 23) [] [])) [(.t 6)]⟩,
 ⟨some 8,false,none,iCmp .eql (.t 7) (.c (.int .i64 (.lit 0)))⟩,
 ⟨some 9,false,none,iMov (.t 8)⟩,
 ⟨some 10,false,some (9,true),iFaddr 4 (.t 1)⟩,
 ⟨some 11,false,some (9,true),iLoad (.t 10)⟩,
 ⟨some 12,false,some (9,true),iCall (.c (.func (.func 13) [] [])) [(.t 11),(.c (.int .i64 (.lit 1))),(.c (.int .i64 (.lit 99)))]⟩,
 ⟨some 13,false,none,iPick (.t 9) (.t 12) (.c (.bool (.lit false)))⟩,
 ⟨some 14,false,none,iMov (.t 13)⟩,
 ⟨some 15,false,some (14,true),iFaddr 5 (.t 1)⟩,
 ⟨some 16,false,some (14,true),iLoad (.t 15)⟩,
 ⟨some 17,false,some (14,true),iCall (.c (.func (.func 13) [] [])) [(.t 16),(.c (.int .i64 (.lit 1))),(.c (.int .i64 (.lit 99)))]⟩,
 ⟨some 18,false,none,iPick (.t 14) (.t 17) (.c (.bool (.lit false)))⟩,
 ⟨some 19,false,none,iMov (.t 18)⟩,
 ⟨some 20,false,some (19,true),iFaddr 0 (.t 1)⟩,
 ⟨some 21,false,some (19,true),iLoadN 2 (.t 20)⟩,
 ⟨some 22,false,some (19,true),iFaddr 4 (.t 1)⟩,
 ⟨some 23,false,some (19,true),iLoad (.t 22)⟩,
 ⟨some 24,false,some (19,true),iCall (.c (.func (.func 24) [] [])) [(.t 21),(.c (.int .i64 (.lit 0))),(.t 23)]⟩,
 ⟨some 25,false,none,iPick (.t 19) (.t 24) (.c (.bool (.lit false)))⟩,
 ⟨some 26,false,none,iMov (.t 25)⟩,
 ⟨some 27,false,some (26,true),iFaddr 2 (.t 1)⟩,
 ⟨some 28,false,some (26,true),iLoadN 2 (.t 27)⟩,
 ⟨some 29,false,some (26,true),iFaddr 5 (.t 1)⟩,
 ⟨some 30,false,some (26,true),iLoad (.t 29)⟩,
 ⟨some 31,false,some (26,true),iCall (.c (.func (.func 24) [] [])) [(.t 28),(.c (.int .i64 (.lit 0))),(.t 30)]⟩,
 ⟨some 32,false,none,iPick (.t 26) (.t 31) (.c (.bool (.lit false)))⟩,
 ⟨some 33,false,none,iMov (.t 32)⟩,
 ⟨some 34,false,some (33,true),iFaddr 6 (.t 1)⟩,
 ⟨some 35,false,some (33,true),iLoad (.t 34)⟩,
 ⟨some 36,false,some (33,true),iCall (.c (.func (.func 13) [] [])) [(.t 35),(.c (.int .i64 (.lit 1))),(.c (.int .i64 (.lit 20)))]⟩,
 ⟨some 37,false,none,iPick (.t 33) (.t 36) (.c (.bool (.lit false)))⟩,
 ⟨some 38,false,none,iMov (.t 37)⟩,
 ⟨some 39,false,some (38,true),iFaddr 7 (.t 1)⟩,
 ⟨some 40,false,some (38,true),iLoad (.t 39)⟩,
 ⟨some 41,false,some (38,true),iCall (.c (.func (.func 13) [] [])) [(.t 40),(.c (.int .i64 (.lit 1))),(.c (.int .i64 (.lit 20)))]⟩,
 ⟨some 42,false,none,iPick (.t 38) (.t 41) (.c (.bool (.lit false)))⟩,
 ⟨some 3,true,none,iMov (.t 42)⟩])
 (cSeq (cOps [⟨some 43,false,none,iMov (.t 3)⟩,
 ⟨some 44,false,none,iMov (.t 43)⟩,
 ⟨some 45,false,some (44,true),iFaddr 16 (.t 1)⟩,
 ⟨some 46,false,some (44,true),iLoadN 2 (.t 45)⟩,
 ⟨some 47,false,some (44,true),iCall (.c (.func (.func 24) [] [])) [(.t 46),(.c (.int .i64 (.lit 0))),(.c (.int .i64 (.lit 60)))]⟩,
 ⟨some 48,false,none,iPick (.t 44) (.t 47) (.c (.bool (.lit false)))⟩,
 ⟨some 49,false,none,iMov (.t 48)⟩,
 ⟨some 50,false,some (49,true),iFaddr 18 (.t 1)⟩,
 ⟨some 51,false,some (49,true),iLoadN 2 (.t 50)⟩,
 ⟨some 52,false,some (49,true),iCall (.c (.func (.func 24) [] [])) [(.t 51),(.c (.int .i64 (.lit 0))),(.c (.int .i64 (.lit 60)))]⟩,
 ⟨some 53,false,none,iPick (.t 49) (.t 52) (.c (.bool (.lit false)))⟩,
 ⟨some 54,false,none,iMov (.t 53)⟩,
 ⟨some 55,false,some (54,true),iFaddr 20 (.t 1)⟩,
 ⟨some 56,false,some (54,true),iLoad (.t 55)⟩,
 ⟨some 57,false,some (54,true),iFaddr 5 (.t 1)⟩,
 ⟨some 58,false,some (54,true),iLoad (.t 57)⟩,
 ⟨some 59,false,some (54,true),iCall (.c (.func (.func 13) [] [])) [(.t 56),(.c (.int .i64 (.lit 0))),(.t 58)]⟩,
 ⟨some 60,false,none,iPick (.t 54) (.t 59) (.c (.bool (.lit false)))⟩,
 ⟨some 61,false,none,iMov (.t 60)⟩,
 ⟨some 62,false,some (61,true),iFaddr 21 (.t 1)⟩,
 ⟨some 63,false,some (61,true),iLoad (.t 62)⟩,
 ⟨some 64,false,some (61,true),iCall (.c (.func (.func 13) [] [])) [(.t 63),(.c (.int .i64 (.lit 0))),(.c (.int .i64 (.lit 60)))]⟩,
 ⟨some 65,false,none,iPick (.t 61) (.t 64) (.c (.bool (.lit false)))⟩,
 ⟨some 66,false,none,iMov (.t 65)⟩,
 ⟨some 67,false,some (66,true),iFaddr 22 (.t 1)⟩,
 ⟨some 68,false,some (66,true),iLoad (.t 67)⟩,
 ⟨some 69,false,some (66,true),iLenS (.t 68)⟩,
 ⟨some 70,false,some (66,true),iCall (.c (.func (.func 13) [] [])) [(.t 69),(.c (.int .i64 (.lit 1))),(.c (.int .i64 (.lit 5)))]⟩,
 ⟨some 71,false,none,iPick (.t 66) (.t 70) (.c (.bool (.lit false)))⟩,
 ⟨some 3,true,none,iMov (.t 71)⟩])
 (cSeq (cSeq (cOps [⟨some 4,true,none,iMov (.c (.int .i64 (.lit 0)))⟩])
 (cBlock 0 (cLoop (cSeq (cSeq (cOps [⟨some 72,false,none,iMov (.t 4)⟩,
 ⟨some 73,true,none,iCmp .lss (.t 72) (.c (.int .i64 (.lit 2)))⟩])
 (cCond (.t 73) cSkip (cExit 0)))
 (cSeq (cBlock 1 (cOps [⟨some 76,false,none,iMov (.t 3)⟩,
 ⟨some 77,false,none,iMov (.t 76)⟩,
 ⟨some 78,false,some (77,true),iMov (.t 4)⟩,
 ⟨some 79,false,some (77,true),iFaddr 8 (.t 1)⟩,
 ⟨some 80,false,some (77,true),iIaddrA 2 2 (.t 79) (.t 78)⟩,
 ⟨some 81,false,some (77,true),iLoadN 2 (.t 80)⟩,
 ⟨some 82,false,some (77,true),iCall (.c (.func (.func 24) [] [])) [(.t 81),(.c (.int .i64 (.lit 0))),(.c (.int .i64 (.lit 3)))]⟩,
 ⟨some 83,false,none,iPick (.t 77) (.t 82) (.c (.bool (.lit false)))⟩,
 ⟨some 84,false,none,iMov (.t 83)⟩,
 ⟨some 85,false,some (84,true),iMov (.t 4)⟩,
 ⟨some 86,false,some (84,true),iFaddr 12 (.t 1)⟩,
 ⟨some 87,false,some (84,true),iIaddrA 2 2 (.t 86) (.t 85)⟩,
 ⟨some 88,false,some (84,true),iLoadN 2 (.t 87)⟩,
 ⟨some 89,false,some (84,true),iCall (.c (.func (.func 24) [] [])) [(.t 88),(.c (.int .i64 (.lit 0))),(.c (.int .i64 (.lit 3)))]⟩,
 ⟨some 90,false,none,iPick (.t 84) (.t 89) (.c (.bool (.lit false)))⟩,
 ⟨some 3,true,none,iMov (.t 90)⟩]))
 (cOps [⟨some 74,false,none,iMov (.t 4)⟩,
 ⟨some 75,false,none,iArith .add (.t 74) (.c (.int .i64 (.lit 1)))⟩,
 ⟨some 4,true,none,iMov (.t 75)⟩]))))))
 (cSeq (cSeq (cOps [⟨some 5,true,none,iMov (.c (.int .i64 (.lit 0)))⟩])
 (cBlock 2 (cLoop (cSeq (cSeq (cOps [⟨some 91,false,none,iMov (.t 3)⟩,
 ⟨some 92,false,none,iMov (.t 91)⟩,
 ⟨some 93,false,some (92,true),iMov (.t 5)⟩,
 ⟨some 94,false,some (92,true),iFaddr 22 (.t 1)⟩,
 ⟨some 95,false,some (92,true),iLoad (.t 94)⟩,
 ⟨some 96,false,some (92,true),iLenS (.t 95)⟩,
 ⟨some 97,false,some (92,true),iCmp .lss (.t 93) (.t 96)⟩,
 ⟨some 98,true,none,iPick (.t 92) (.t 97) (.c (.bool (.lit false)))⟩])
 (cCond (.t 98) cSkip (cExit 2)))
 (cSeq (cBlock 3 (cOps [⟨some 101,false,none,iFaddr 22 (.t 1)⟩,
 ⟨some 102,false,none,iLoad (.t 101)⟩,
 ⟨some 103,false,none,iMov (.t 5)⟩,
 ⟨some 104,false,none,iIaddr 4 (.t 102) (.t 103)⟩,
 ⟨some 105,false,none,iFaddr 0 (.t 104)⟩,
 ⟨some 106,false,none,iLoadN 2 (.t 105)⟩,
 ⟨some 107,false,none,iCall (.c (.func (.func 24) [] [])) [(.t 106),(.c (.int .i64 (.lit 1))),(.c (.int .i64 (.lit 60)))]⟩,
 ⟨some 108,false,none,iMov (.t 107)⟩,
 ⟨some 109,false,some (108,true),iFaddr 22 (.t 1)⟩,
 ⟨some 110,false,some (108,true),iLoad (.t 109)⟩,
 ⟨some 111,false,some (108,true),iMov (.t 5)⟩,
 ⟨some 112,false,some (108,true),iIaddr 4 (.t 110) (.t 111)⟩,
 ⟨some 113,false,some (108,true),iFaddr 3 (.t 112)⟩,
 ⟨some 114,false,some (108,true),iLoad (.t 113)⟩,
 ⟨some 115,false,some (108,true),iCall (.c (.func (.func 13) [] [])) [(.t 114),(.c (.int .i64 (.lit 0))),(.c (.int .i64 (.lit 5)))]⟩,
 ⟨some 116,false,none,iPick (.t 108) (.t 115) (.c (.bool (.lit false)))⟩,
 ⟨some 3,true,none,iMov (.t 116)⟩]))
 (cOps [⟨some 99,false,none,iMov (.t 5)⟩,
 ⟨some 100,false,none,iArith .add (.t 99) (.c (.int .i64 (.lit 1)))⟩,
 ⟨some 5,true,none,iMov (.t 100)⟩]))))))
 (cSeq (cOps [⟨some 117,false,none,iMov (.t 3)⟩,
 ⟨some 2,true,none,iMov (.t 117)⟩])
 cRet)))))),[.t 2]⟩
noncomputable def Tryd.kp8:List Nat:=[0,1,2,3,4,5,6,7,8,9,10,11,12,74]
noncomputable def Tryd.cf8:CF:=⟨0,(cSeq (cOps [⟨some 0,true,none,iMov (.c (.bool (.lit false)))⟩])
 (cSeq (cOps [⟨some 14,false,none,iCall (.c (.func (.func 26) [] [])) []⟩,
 ⟨some 15,false,none,iCall (.c (.func (.func 25) [] [])) [(.t 14),(.c (.int .i64 (.lit 9)))]⟩,
 ⟨some 13,false,none,iMov (.t 15)⟩,
 ⟨some 16,false,none,iExtract 0 (.t 13)⟩,
 ⟨some 17,false,none,iExtract 1 (.t 13)⟩,
 ⟨some 1,true,none,iAlloc 23 [(.int .i64 (.lit 0)),(.int .i64 (.lit 0))]⟩,
 ⟨none,false,none,iStore 2 (.t 1) (.t 16)⟩,
 ⟨some 2,true,none,iMov (.t 17)⟩])
 (cSeq (cOps [⟨some 19,false,none,iCall (.c (.func (.func 26) [] [])) []⟩,
 ⟨some 20,false,none,iCall (.c (.func (.func 28) [] [])) []⟩,
 ⟨some 21,false,none,iCall (.c (.func (.func 27) [] [])) [(.t 19),(.t 20),(.c (.int .i64 (.lit 3)))]⟩,
 ⟨some 18,false,none,iMov (.t 21)⟩,
 ⟨some 22,false,none,iExtract 0 (.t 18)⟩,
 ⟨some 23,false,none,iExtract 1 (.t 18)⟩,
 ⟨some 24,false,none,iExtract 2 (.t 18)⟩,
 ⟨some 3,true,none,iAlloc 23 [(.int .i64 (.lit 0)),(.int .i64 (.lit 0))]⟩,
 ⟨some 4,true,none,iAlloc 23 [(.int .i64 (.lit 0)),(.int .i64 (.lit 0))]⟩,
 ⟨none,false,none,iStore 2 (.t 3) (.t 22)⟩,
 ⟨none,false,none,iStore 2 (.t 4) (.t 23)⟩,
 ⟨some 5,true,none,iMov (.t 24)⟩])
 (cSeq (cOps [⟨some 26,false,none,iCall (.c (.func (.func 26) [] [])) []⟩,
 ⟨some 27,false,none,iCall (.c (.func (.func 29) [] [])) []⟩,
 ⟨some 28,false,none,iCall (.c (.func (.func 18) [] [])) [(.t 26),(.t 27)]⟩,
 ⟨some 25,false,none,iMov (.t 28)⟩,
 ⟨some 29,false,none,iExtract 0 (.t 25)⟩,
 ⟨some 30,false,none,iExtract 1 (.t 25)⟩,
 ⟨some 6,true,none,iMov (.t 29)⟩,
 ⟨some 7,true,none,iMov (.t 30)⟩])
 (cSeq (cOps [⟨some 32,false,none,iCall (.c (.func (.func 26) [] [])) []⟩,
 ⟨some 33,false,none,iCall (.c (.func (.func 12) [] [])) [(.t 32)]⟩,
 ⟨some 31,false,none,iMov (.t 33)⟩,
 ⟨some 34,false,none,iExtract 0 (.t 31)⟩,
 ⟨some 35,false,none,iExtract 1 (.t 31)⟩,
 ⟨some 8,true,none,iMov (.t 34)⟩,
 ⟨some 9,true,none,iMov (.t 35)⟩])
 (cSeq (cSeq (dOps 0 [⟨⟨some 36,false,none,iMov (.t 2)⟩,[2],false,0,0,none,[]⟩,
 ⟨⟨some 37,false,none,iCmp .neq (.t 36) (.c (.int .i64 (.lit 0)))⟩,[36],false,0,0,none,[]⟩,
 ⟨⟨some 38,false,none,iMov (.t 37)⟩,[37],false,0,0,none,[]⟩,
 ⟨⟨some 39,false,some (38,false),iMov (.t 5)⟩,[38,5],false,0,0,none,[]⟩,
 ⟨⟨some 40,false,some (38,false),iCmp .neq (.t 39) (.c (.int .i64 (.lit 0)))⟩,[38,39],false,0,0,none,[]⟩,
 ⟨⟨some 41,false,none,iPick (.t 38) (.c (.bool (.lit true))) (.t 40)⟩,[38,40],false,0,0,none,[]⟩,
 ⟨⟨some 42,false,none,iMov (.t 41)⟩,[41],false,0,0,none,[]⟩,
 ⟨⟨some 43,false,some (42,false),iMov (.t 7)⟩,[42,7],false,0,0,none,[]⟩,
 ⟨⟨some 44,false,some (42,false),iCmp .neq (.t 43) (.c (.int .i64 (.lit 0)))⟩,[42,43],false,0,0,none,[]⟩,
 ⟨⟨some 45,false,none,iPick (.t 42) (.c (.bool (.lit true))) (.t 44)⟩,[42,44],false,0,0,none,[]⟩,
 ⟨⟨some 46,false,none,iMov (.t 45)⟩,[45],false,0,0,none,[]⟩,
 ⟨⟨some 47,false,some (46,false),iMov (.t 9)⟩,[46,9],false,0,0,none,[]⟩,
 ⟨⟨some 48,false,some (46,false),iCmp .neq (.t 47) (.c (.int .i64 (.lit 0)))⟩,[46,47],false,0,0,none,[]⟩,
 ⟨⟨some 49,false,none,iPick (.t 46) (.c (.bool (.lit true))) (.t 48)⟩,[46,48],false,0,0,none,[]⟩,
 ⟨⟨some 50,false,none,iMov (.t 49)⟩,[49],false,0,0,none,[]⟩,
 ⟨⟨some 51,false,some (50,false),iLoadN 2 (.t 1)⟩,[50,1],false,0,1,none,[]⟩,
 ⟨⟨some 52,false,some (50,false),iCall (.c (.func (.func 16) [] [])) [(.c (.int .i64 (.lit 12))),(.c (.int .i64 (.lit 16)))]⟩,[50],true,0,0,none,[]⟩,
 ⟨⟨some 53,false,some (50,false),iEq true true 2 [(0,.int),(1,.int)] (.t 51) (.t 52)⟩,[50,51,52],false,1,1,none,[]⟩,
 ⟨⟨some 54,false,none,iPick (.t 50) (.c (.bool (.lit true))) (.t 53)⟩,[50,53],false,1,1,none,[]⟩,
 ⟨⟨some 55,false,none,iMov (.t 54)⟩,[54],false,1,1,none,[]⟩,
 ⟨⟨some 56,false,some (55,false),iLoadN 2 (.t 3)⟩,[55,3],false,1,2,none,[]⟩,
 ⟨⟨some 57,false,some (55,false),iCall (.c (.func (.func 16) [] [])) [(.c (.int .i64 (.lit 0))),(.c (.int .i64 (.lit 32)))]⟩,[55],true,1,0,none,[]⟩,
 ⟨⟨some 58,false,some (55,false),iEq true true 2 [(0,.int),(1,.int)] (.t 56) (.t 57)⟩,[55,56,57],false,2,2,none,[]⟩,
 ⟨⟨some 59,false,none,iPick (.t 55) (.c (.bool (.lit true))) (.t 58)⟩,[55,58],false,2,2,none,[]⟩,
 ⟨⟨some 60,false,none,iMov (.t 59)⟩,[59],false,2,2,none,[]⟩,
 ⟨⟨some 61,false,some (60,false),iLoadN 2 (.t 4)⟩,[60,4],false,2,3,none,[]⟩,
 ⟨⟨some 62,false,some (60,false),iCall (.c (.func (.func 16) [] [])) [(.c (.int .i64 (.lit 10))),(.c (.int .i64 (.lit 22)))]⟩,[60],true,2,0,none,[]⟩,
 ⟨⟨some 63,false,some (60,false),iEq true true 2 [(0,.int),(1,.int)] (.t 61) (.t 62)⟩,[60,61,62],false,3,3,none,[]⟩,
 ⟨⟨some 64,false,none,iPick (.t 60) (.c (.bool (.lit true))) (.t 63)⟩,[60,63],false,3,3,none,[]⟩,
 ⟨⟨some 65,false,none,iMov (.t 64)⟩,[64],false,3,3,none,[]⟩,
 ⟨⟨some 66,false,some (65,false),iMov (.t 6)⟩,[65,6],false,3,3,none,[]⟩,
 ⟨⟨some 67,false,some (65,false),iCmp .neq (.t 66) (.c (.int .i64 (.lit 1)))⟩,[65,66],false,3,3,none,[]⟩,
 ⟨⟨some 68,false,none,iPick (.t 65) (.c (.bool (.lit true))) (.t 67)⟩,[65,67],false,3,3,none,[]⟩,
 ⟨⟨some 69,false,none,iMov (.t 68)⟩,[68],false,3,3,none,[]⟩,
 ⟨⟨some 70,false,some (69,false),iMov (.t 8)⟩,[69,8],false,3,4,none,[]⟩,
 ⟨⟨some 71,false,some (69,false),iCall (.c (.func (.func 28) [] [])) []⟩,[69],true,3,0,none,[]⟩,
 ⟨⟨some 72,false,some (69,false),iCall (.c (.func (.func 30) [] [])) [(.t 70),(.t 71)]⟩,[69,70,71],true,4,0,none,[]⟩,
 ⟨⟨some 73,false,some (69,false),iNot (.t 72)⟩,[69,72],false,5,5,none,[]⟩,
 ⟨⟨some 74,true,none,iPick (.t 69) (.c (.bool (.lit true))) (.t 73)⟩,[69,73],false,5,5,none,[]⟩])
 (cCond (.t 74) (cSeq (cOps [⟨some 0,true,none,iMov (.c (.bool (.lit false)))⟩])
 cRet) cSkip))
 (cSeq (cOps [⟨some 76,false,none,iCall (.c (.func (.func 26) [] [])) []⟩,
 ⟨some 77,false,none,iCall (.c (.func (.func 11) [] [])) [(.t 76)]⟩,
 ⟨some 75,false,none,iMov (.t 77)⟩,
 ⟨some 78,false,none,iExtract 0 (.t 75)⟩,
 ⟨some 79,false,none,iExtract 1 (.t 75)⟩,
 ⟨some 10,true,none,iMov (.t 78)⟩,
 ⟨some 2,true,none,iMov (.t 79)⟩])
 (cSeq (cOps [⟨some 81,false,none,iCall (.c (.func (.func 26) [] [])) []⟩,
 ⟨some 82,false,none,iCall (.c (.func (.func 10) [] [])) [(.t 81),(.c (.int .i64 (.lit 2)))]⟩,
 ⟨some 80,false,none,iMov (.t 82)⟩,
 ⟨some 83,false,none,iExtract 0 (.t 80)⟩,
 ⟨some 84,false,none,iExtract 1 (.t 80)⟩,
 ⟨some 11,true,none,iMov (.t 83)⟩,
 ⟨some 5,true,none,iMov (.t 84)⟩])
 (cSeq (cOps [⟨some 86,false,none,iCall (.c (.func (.func 26) [] [])) []⟩,
 ⟨some 87,false,none,iCall (.c (.func (.func 15) [] [])) [(.t 86)]⟩,
 ⟨some 85,false,none,iMov (.t 87)⟩,
 ⟨some 88,false,none,iExtract 0 (.t 85)⟩,
 ⟨some 89,false,none,iExtract 1 (.t 85)⟩,
 ⟨some 12,true,none,iMov (.t 88)⟩,
 ⟨some 7,true,none,iMov (.t 89)⟩])
 (cSeq (cOps [⟨some 90,false,none,iMov (.t 2)⟩,
 ⟨some 91,false,none,iCmp .eql (.t 90) (.c (.int .i64 (.lit 0)))⟩,
 ⟨some 92,false,none,iMov (.t 91)⟩,
 ⟨some 93,false,some (92,true),iMov (.t 5)⟩,
 ⟨some 94,false,some (92,true),iCmp .eql (.t 93) (.c (.int .i64 (.lit 0)))⟩,
 ⟨some 95,false,none,iPick (.t 92) (.t 94) (.c (.bool (.lit false)))⟩,
 ⟨some 96,false,none,iMov (.t 95)⟩,
 ⟨some 97,false,some (96,true),iMov (.t 7)⟩,
 ⟨some 98,false,some (96,true),iCmp .eql (.t 97) (.c (.int .i64 (.lit 0)))⟩,
 ⟨some 99,false,none,iPick (.t 96) (.t 98) (.c (.bool (.lit false)))⟩,
 ⟨some 100,false,none,iMov (.t 99)⟩,
 ⟨some 101,false,some (100,true),iMov (.t 10)⟩,
 ⟨some 102,false,some (100,true),iCmp .eql (.t 101) (.c (.int .i64 (.lit 4)))⟩,
 ⟨some 103,false,none,iPick (.t 100) (.t 102) (.c (.bool (.lit false)))⟩,
 ⟨some 104,false,none,iMov (.t 103)⟩,
 ⟨some 105,false,some (104,true),iMov (.t 11)⟩,
 ⟨some 106,false,some (104,true),iCmp .eql (.t 105) (.c (.int .i64 (.lit 4)))⟩,
 ⟨some 107,false,none,iPick (.t 104) (.t 106) (.c (.bool (.lit false)))⟩,
 ⟨some 108,false,none,iMov (.t 107)⟩,
 ⟨some 109,false,some (108,true),iMov (.t 12)⟩,
 ⟨some 110,false,some (108,true),iCmp .eql (.t 109) (.c (.int .i64 (.lit 18)))⟩,
 ⟨some 111,false,none,iPick (.t 108) (.t 110) (.c (.bool (.lit false)))⟩,
 ⟨some 0,true,none,iMov (.t 111)⟩])
 cRet)))))))))),[.t 0]⟩
noncomputable def Tryd.kp9:List Nat:=[0,1,4,5,7,12]
noncomputable def Tryd.cf9:CF:=⟨2,(cSeq (cOps [⟨some 4,true,none,iMov (.c (.int .i64 (.lit 0)))⟩])
 (cSeq (cSeq (cOps [⟨some 6,false,none,iMov (.t 1)⟩,
 ⟨some 7,true,none,iCmp .lss (.t 6) (.c (.int .i64 (.lit 1)))⟩])
 (cCond (.t 7) (cSeq (cOps [⟨some 4,true,none,iMov (.c (.int .i64 (.lit 0)))⟩])
 cRet) cSkip))
 (cSeq (cOps [⟨some 8,false,none,iMov (.t 0)⟩,
 ⟨some 9,false,none,iMov (.t 1)⟩,
 ⟨some 10,false,none,iArith .rem (.t 8) (.t 9)⟩,
 ⟨some 5,true,none,iMov (.t 10)⟩])
 (cSeq (cSeq (cOps [⟨some 11,false,none,iMov (.t 5)⟩,
 ⟨some 12,true,none,iCmp .lss (.t 11) (.c (.int .i64 (.lit 0)))⟩])
 (cCond (.t 12) (cOps [⟨some 13,false,none,iMov (.t 5)⟩,
 ⟨some 14,false,none,iMov (.t 1)⟩,
 ⟨some 15,false,none,iArith .add (.t 13) (.t 14)⟩,
 ⟨some 5,true,none,iMov (.t 15)⟩]) cSkip))
 (cSeq (cOps [⟨some 16,false,none,iMov (.t 5)⟩,
 ⟨some 4,true,none,iMov (.t 16)⟩])
 cRet))))),[.t 4]⟩
noncomputable def Tryd.kp10:List Nat:=[0,1,2,4,5,6,7,8,15,20,27]
noncomputable def Tryd.cf10:CF:=⟨2,(cSeq (cOps [⟨some 2,true,none,iBox 27 (.t 0)⟩,
 ⟨some 4,true,none,iMov (.c (.int .i64 (.lit 0)))⟩,
 ⟨some 5,true,none,iMov (.c (.int .i64 (.lit 0)))⟩])
 (cSeq (cOps [⟨some 10,false,none,iLoadN 23 (.t 2)⟩,
 ⟨some 11,false,none,iCall (.c (.func (.func 31) [] [])) [(.t 10)]⟩,
 ⟨some 9,false,none,iMov (.t 11)⟩,
 ⟨some 12,false,none,iExtract 0 (.t 9)⟩,
 ⟨some 13,false,none,iExtract 1 (.t 9)⟩,
 ⟨some 6,true,none,iAlloc 69 [(.int .i64 (.lit 0)),(.int .i64 (.lit 0)),(.int .i64 (.lit 0)),(.int .i64 (.lit 0)),(.int .i64 (.lit 0)),(.int .i64 (.lit 0)),(.int .i64 (.lit 0)),(.int .i64 (.lit 0)),(.int .i64 (.lit 0)),(.int .i64 (.lit 0)),(.int .i64 (.lit 0)),(.int .i64 (.lit 0)),(.int .i64 (.lit 0)),(.int .i64 (.lit 0)),(.int .i64 (.lit 0)),(.int .i64 (.lit 0)),(.int .i64 (.lit 0)),(.int .i64 (.lit 0)),(.int .i64 (.lit 0)),(.int .i64 (.lit 0)),(.int .i64 (.lit 0)),(.int .i64 (.lit 0)),.nilslice,(.int .i64 (.lit 0)),(.int .i64 (.lit 0)),(.int .i64 (.lit 0)),(.int .i64 (.lit 0)),(.int .i64 (.lit 0)),(.int .i64 (.lit 0)),(.int .i64 (.lit 0)),(.int .i64 (.lit 0)),(.int .i64 (.lit 0)),(.int .i64 (.lit 0)),(.int .i64 (.lit 0)),(.int .i64 (.lit 0)),(.int .i64 (.lit 0)),(.int .i64 (.lit 0)),(.int .i64 (.lit 0)),(.int .i64 (.lit 0))]⟩,
 ⟨none,false,none,iStore 39 (.t 6) (.t 12)⟩,
 ⟨some 7,true,none,iMov (.t 13)⟩])
 (cSeq (cSeq (cOps [⟨some 14,false,none,iMov (.t 7)⟩,
 ⟨some 15,true,none,iCmp .neq (.t 14) (.c (.int .i64 (.lit 0)))⟩])
 (cCond (.t 15) (cSeq (cOps [⟨some 16,false,none,iMov (.t 7)⟩,
 ⟨some 4,true,none,iMov (.c (.int .i64 (.lit 0)))⟩,
 ⟨some 5,true,none,iMov (.t 16)⟩])
 cRet) cSkip))
 (cSeq (cSeq (cOps [⟨some 17,false,none,iLoadN 39 (.t 6)⟩,
 ⟨some 18,false,none,iMov (.t 1)⟩,
 ⟨some 19,false,none,iCall (.c (.func (.func 32) [] [])) [(.t 17),(.t 18)]⟩,
 ⟨some 20,true,none,iNot (.t 19)⟩])
 (cCond (.t 20) (cSeq (cOps [⟨some 4,true,none,iMov (.c (.int .i64 (.lit 0)))⟩,
 ⟨some 5,true,none,iMov (.c (.int .i64 (.lit 41)))⟩])
 cRet) cSkip))
 (cSeq (cOps [⟨some 21,false,none,iLoadN 39 (.t 6)⟩,
 ⟨some 22,false,none,iMov (.t 1)⟩,
 ⟨some 23,false,none,iBuild [(.int .i64 (.lit 0)),(.int .i64 (.lit 0)),(.int .i64 (.lit 0)),(.int .i64 (.lit 0)),(.int .i64 (.lit 0)),(.int .i64 (.lit 0)),(.int .i64 (.lit 0)),(.int .i64 (.lit 0)),(.int .i64 (.lit 0)),(.int .i64 (.lit 0)),(.int .i64 (.lit 0)),(.int .i64 (.lit 0)),(.int .i64 (.lit 0)),(.int .i64 (.lit 0)),(.int .i64 (.lit 0)),(.int .i64 (.lit 0)),(.int .i64 (.lit 0)),(.int .i64 (.lit 0)),(.int .i64 (.lit 0)),(.int .i64 (.lit 0)),(.int .i64 (.lit 0)),(.int .i64 (.lit 0)),.nilslice,(.int .i64 (.lit 0)),(.int .i64 (.lit 0)),(.int .i64 (.lit 0)),(.int .i64 (.lit 0)),(.int .i64 (.lit 0)),(.int .i64 (.lit 0)),(.int .i64 (.lit 0)),(.int .i64 (.lit 0)),(.int .i64 (.lit 0)),(.int .i64 (.lit 0)),(.int .i64 (.lit 0)),(.int .i64 (.lit 0)),(.int .i64 (.lit 0)),(.int .i64 (.lit 0)),(.int .i64 (.lit 0)),(.int .i64 (.lit 0)),(.int .i64 (.lit 0))] [(0,39,(.t 21)),(39,1,(.t 22))]⟩,
 ⟨some 24,false,none,iFunc (.func 34) [(.t 23)] []⟩,
 ⟨some 25,false,none,iCall (.c (.func (.func 33) [] [])) [(.c (.int .i64 (.lit 60))),(.t 24)]⟩,
 ⟨some 8,true,none,iMov (.t 25)⟩])
 (cSeq (cSeq (cOps [⟨some 26,false,none,iMov (.t 8)⟩,
 ⟨some 27,true,none,iCmp .lss (.t 26) (.c (.int .i64 (.lit 0)))⟩])
 (cCond (.t 27) (cSeq (cOps [⟨some 4,true,none,iMov (.c (.int .i64 (.lit 0)))⟩,
 ⟨some 5,true,none,iMov (.c (.int .i64 (.lit 4)))⟩])
 cRet) cSkip))
 (cSeq (cOps [⟨some 28,false,none,iMov (.t 8)⟩,
 ⟨some 4,true,none,iMov (.t 28)⟩,
 ⟨some 5,true,none,iMov (.c (.int .i64 (.lit 0)))⟩])
 cRet))))))),[.t 4,.t 5]⟩
noncomputable def Tryd.kp11:List Nat:=[0,1,2,3,4,5,12]
noncomputable def Tryd.cf11:CF:=⟨1,(cSeq (cOps [⟨some 1,true,none,iBox 27 (.t 0)⟩,
 ⟨some 2,true,none,iMov (.c (.int .i64 (.lit 0)))⟩,
 ⟨some 3,true,none,iMov (.c (.int .i64 (.lit 0)))⟩])
 (cSeq (cOps [⟨some 7,false,none,iLoadN 23 (.t 1)⟩,
 ⟨some 8,false,none,iCall (.c (.func (.func 31) [] [])) [(.t 7)]⟩,
 ⟨some 6,false,none,iMov (.t 8)⟩,
 ⟨some 9,false,none,iExtract 0 (.t 6)⟩,
 ⟨some 10,false,none,iExtract 1 (.t 6)⟩,
 ⟨some 4,true,none,iAlloc 69 [(.int .i64 (.lit 0)),(.int .i64 (.lit 0)),(.int .i64 (.lit 0)),(.int .i64 (.lit 0)),(.int .i64 (.lit 0)),(.int .i64 (.lit 0)),(.int .i64 (.lit 0)),(.int .i64 (.lit 0)),(.int .i64 (.lit 0)),(.int .i64 (.lit 0)),(.int .i64 (.lit 0)),(.int .i64 (.lit 0)),(.int .i64 (.lit 0)),(.int .i64 (.lit 0)),(.int .i64 (.lit 0)),(.int .i64 (.lit 0)),(.int .i64 (.lit 0)),(.int .i64 (.lit 0)),(.int .i64 (.lit 0)),(.int .i64 (.lit 0)),(.int .i64 (.lit 0)),(.int .i64 (.lit 0)),.nilslice,(.int .i64 (.lit 0)),(.int .i64 (.lit 0)),(.int .i64 (.lit 0)),(.int .i64 (.lit 0)),(.int .i64 (.lit 0)),(.int .i64 (.lit 0)),(.int .i64 (.lit 0)),(.int .i64 (.lit 0)),(.int .i64 (.lit 0)),(.int .i64 (.lit 0)),(.int .i64 (.lit 0)),(.int .i64 (.lit 0)),(.int .i64 (.lit 0)),(.int .i64 (.lit 0)),(.int .i64 (.lit 0)),(.int .i64 (.lit 0))]⟩,
 ⟨none,false,none,iStore 39 (.t 4) (.t 9)⟩,
 ⟨some 5,true,none,iMov (.t 10)⟩])
 (cSeq (cSeq (cOps [⟨some 11,false,none,iMov (.t 5)⟩,
 ⟨some 12,true,none,iCmp .neq (.t 11) (.c (.int .i64 (.lit 0)))⟩])
 (cCond (.t 12) (cSeq (cOps [⟨some 13,false,none,iMov (.t 5)⟩,
 ⟨some 2,true,none,iMov (.c (.int .i64 (.lit 0)))⟩,
 ⟨some 3,true,none,iMov (.t 13)⟩])
 cRet) cSkip))
 (cSeq (cOps [⟨some 14,false,none,iFaddr 0 (.t 4)⟩,
 ⟨some 15,false,none,iFaddr 22 (.t 14)⟩,
 ⟨some 16,false,none,iLoad (.t 15)⟩,
 ⟨some 17,false,none,iLenS (.t 16)⟩,
 ⟨some 18,false,none,iLoadN 39 (.t 4)⟩,
 ⟨some 19,false,none,iFunc (.func 35) [(.t 18)] []⟩,
 ⟨some 20,false,none,iCall (.c (.func (.func 33) [] [])) [(.t 17),(.t 19)]⟩,
 ⟨some 2,true,none,iMov (.t 20)⟩,
 ⟨some 3,true,none,iMov (.c (.int .i64 (.lit 0)))⟩])
 cRet)))),[.t 2,.t 3]⟩
noncomputable def Tryd.kp12:List Nat:=[0,1,2,3,4,5,12]
noncomputable def Tryd.cf12:CF:=⟨1,(cSeq (cOps [⟨some 1,true,none,iBox 27 (.t 0)⟩,
 ⟨some 2,true,none,iMov (.c .nilslice)⟩,
 ⟨some 3,true,none,iMov (.c (.int .i64 (.lit 0)))⟩])
 (cSeq (cOps [⟨some 7,false,none,iLoadN 23 (.t 1)⟩,
 ⟨some 8,false,none,iCall (.c (.func (.func 31) [] [])) [(.t 7)]⟩,
 ⟨some 6,false,none,iMov (.t 8)⟩,
 ⟨some 9,false,none,iExtract 0 (.t 6)⟩,
 ⟨some 10,false,none,iExtract 1 (.t 6)⟩,
 ⟨some 4,true,none,iAlloc 69 [(.int .i64 (.lit 0)),(.int .i64 (.lit 0)),(.int .i64 (.lit 0)),(.int .i64 (.lit 0)),(.int .i64 (.lit 0)),(.int .i64 (.lit 0)),(.int .i64 (.lit 0)),(.int .i64 (.lit 0)),(.int .i64 (.lit 0)),(.int .i64 (.lit 0)),(.int .i64 (.lit 0)),(.int .i64 (.lit 0)),(.int .i64 (.lit 0)),(.int .i64 (.lit 0)),(.int .i64 (.lit 0)),(.int .i64 (.lit 0)),(.int .i64 (.lit 0)),(.int .i64 (.lit 0)),(.int .i64 (.lit 0)),(.int .i64 (.lit 0)),(.int .i64 (.lit 0)),(.int .i64 (.lit 0)),.nilslice,(.int .i64 (.lit 0)),(.int .i64 (.lit 0)),(.int .i64 (.lit 0)),(.int .i64 (.lit 0)),(.int .i64 (.lit 0)),(.int .i64 (.lit 0)),(.int .i64 (.lit 0)),(.int .i64 (.lit 0)),(.int .i64 (.lit 0)),(.int .i64 (.lit 0)),(.int .i64 (.lit 0)),(.int .i64 (.lit 0)),(.int .i64 (.lit 0)),(.int .i64 (.lit 0)),(.int .i64 (.lit 0)),(.int .i64 (.lit 0))]⟩,
 ⟨none,false,none,iStore 39 (.t 4) (.t 9)⟩,
 ⟨some 5,true,none,iMov (.t 10)⟩])
 (cSeq (cSeq (cOps [⟨some 11,false,none,iMov (.t 5)⟩,
 ⟨some 12,true,none,iCmp .neq (.t 11) (.c (.int .i64 (.lit 0)))⟩])
 (cCond (.t 12) (cSeq (cOps [⟨some 13,false,none,iMov (.t 5)⟩,
 ⟨some 2,true,none,iMov (.c .nilslice)⟩,
 ⟨some 3,true,none,iMov (.t 13)⟩])
 cRet) cSkip))
 (cSeq (cOps [⟨some 14,false,none,iLoadN 39 (.t 4)⟩,
 ⟨some 15,false,none,iCall (.c (.func (.func 36) [] [])) [(.t 14)]⟩,
 ⟨some 16,false,none,iExtract 0 (.t 15)⟩,
 ⟨some 17,false,none,iExtract 1 (.t 15)⟩,
 ⟨some 2,true,none,iMov (.t 16)⟩,
 ⟨some 3,true,none,iMov (.t 17)⟩])
 cRet)))),[.t 2,.t 3]⟩
noncomputable def Tryd.kp13:List Nat:=[0,1,2,6]
noncomputable def Tryd.cf13:CF:=⟨3,(cSeq (cOps [⟨some 6,true,none,iMov (.c (.bool (.lit false)))⟩])
 (cSeq (cOps [⟨some 7,false,none,iMov (.t 0)⟩,
 ⟨some 8,false,none,iMov (.t 1)⟩,
 ⟨some 9,false,none,iCmp .geq (.t 7) (.t 8)⟩,
 ⟨some 10,false,none,iMov (.t 9)⟩,
 ⟨some 11,false,some (10,true),iMov (.t 0)⟩,
 ⟨some 12,false,some (10,true),iMov (.t 2)⟩,
 ⟨some 13,false,some (10,true),iCmp .leq (.t 11) (.t 12)⟩,
 ⟨some 14,false,none,iPick (.t 10) (.t 13) (.c (.bool (.lit false)))⟩,
 ⟨some 6,true,none,iMov (.t 14)⟩])
 cRet)),[.t 6]⟩
noncomputable def Tryd.kp15:List Nat:=[0,1,2,3,4,5,6,13,26]
noncomputable def Tryd.cf15:CF:=⟨1,(cSeq (cOps [⟨some 1,true,none,iBox 27 (.t 0)⟩,
 ⟨some 2,true,none,iMov (.c (.int .i64 (.lit 0)))⟩,
 ⟨some 3,true,none,iMov (.c (.int .i64 (.lit 0)))⟩])
 (cSeq (cOps [⟨some 8,false,none,iLoadN 23 (.t 1)⟩,
 ⟨some 9,false,none,iCall (.c (.func (.func 31) [] [])) [(.t 8)]⟩,
 ⟨some 7,false,none,iMov (.t 9)⟩,
 ⟨some 10,false,none,iExtract 0 (.t 7)⟩,
 ⟨some 11,false,none,iExtract 1 (.t 7)⟩,
 ⟨some 4,true,none,iAlloc 69 [(.int .i64 (.lit 0)),(.int .i64 (.lit 0)),(.int .i64 (.lit 0)),(.int .i64 (.lit 0)),(.int .i64 (.lit 0)),(.int .i64 (.lit 0)),(.int .i64 (.lit 0)),(.int .i64 (.lit 0)),(.int .i64 (.lit 0)),(.int .i64 (.lit 0)),(.int .i64 (.lit 0)),(.int .i64 (.lit 0)),(.int .i64 (.lit 0)),(.int .i64 (.lit 0)),(.int .i64 (.lit 0)),(.int .i64 (.lit 0)),(.int .i64 (.lit 0)),(.int .i64 (.lit 0)),(.int .i64 (.lit 0)),(.int .i64 (.lit 0)),(.int .i64 (.lit 0)),(.int .i64 (.lit 0)),.nilslice,(.int .i64 (.lit 0)),(.int .i64 (.lit 0)),(.int .i64 (.lit 0)),(.int .i64 (.lit 0)),(.int .i64 (.lit 0)),(.int .i64 (.lit 0)),(.int .i64 (.lit 0)),(.int .i64 (.lit 0)),(.int .i64 (.lit 0)),(.int .i64 (.lit 0)),(.int .i64 (.lit 0)),(.int .i64 (.lit 0)),(.int .i64 (.lit 0)),(.int .i64 (.lit 0)),(.int .i64 (.lit 0)),(.int .i64 (.lit 0))]⟩,
 ⟨none,false,none,iStore 39 (.t 4) (.t 10)⟩,
 ⟨some 5,true,none,iMov (.t 11)⟩])
 (cSeq (cSeq (cOps [⟨some 12,false,none,iMov (.t 5)⟩,
 ⟨some 13,true,none,iCmp .neq (.t 12) (.c (.int .i64 (.lit 0)))⟩])
 (cCond (.t 13) (cSeq (cOps [⟨some 14,false,none,iMov (.t 5)⟩,
 ⟨some 2,true,none,iMov (.c (.int .i64 (.lit 0)))⟩,
 ⟨some 3,true,none,iMov (.t 14)⟩])
 cRet) cSkip))
 (cSeq (cOps [⟨some 15,false,none,iFaddr 0 (.t 4)⟩,
 ⟨some 16,false,none,iFaddr 4 (.t 15)⟩,
 ⟨some 17,false,none,iLoad (.t 16)⟩,
 ⟨some 18,false,none,iArith .add (.t 17) (.c (.int .i64 (.lit 1)))⟩,
 ⟨some 19,false,none,iLoadN 39 (.t 4)⟩,
 ⟨some 20,false,none,iFunc (.func 38) [(.t 19)] []⟩,
 ⟨some 21,false,none,iCall (.c (.func (.func 37) [] [])) [(.t 18),(.t 20)]⟩,
 ⟨some 6,true,none,iMov (.t 21)⟩])
 (cSeq (cSeq (cOps [⟨some 22,false,none,iMov (.t 6)⟩,
 ⟨some 23,false,none,iFaddr 0 (.t 4)⟩,
 ⟨some 24,false,none,iFaddr 4 (.t 23)⟩,
 ⟨some 25,false,none,iLoad (.t 24)⟩,
 ⟨some 26,true,none,iCmp .gtr (.t 22) (.t 25)⟩])
 (cCond (.t 26) (cSeq (cOps [⟨some 2,true,none,iMov (.c (.int .i64 (.lit 0)))⟩,
 ⟨some 3,true,none,iMov (.c (.int .i64 (.lit 4)))⟩])
 cRet) cSkip))
 (cSeq (cOps [⟨some 27,false,none,iMov (.t 6)⟩,
 ⟨some 2,true,none,iMov (.t 27)⟩,
 ⟨some 3,true,none,iMov (.c (.int .i64 (.lit 0)))⟩])
 cRet)))))),[.t 2,.t 3]⟩
noncomputable def Tryd.kp16:List Nat:=[0,1,4]
noncomputable def Tryd.cf16:CF:=⟨2,(cSeq (cOps [⟨some 4,true,none,iAlloc 23 [(.int .i64 (.lit 0)),(.int .i64 (.lit 0))]⟩])
 (cSeq (cOps [⟨some 5,false,none,iMov (.t 0)⟩,
 ⟨some 6,false,none,iMov (.t 1)⟩,
 ⟨some 7,false,none,iBuild [(.int .i64 (.lit 0)),(.int .i64 (.lit 0))] [(0,1,(.t 5)),(1,1,(.t 6))]⟩,
 ⟨none,false,none,iStore 2 (.t 4) (.t 7)⟩])
 cRet)),[.cell 4 true 2]⟩
noncomputable def Tryd.kp17:List Nat:=[0,1,2,4,5,6,7,12]
noncomputable def Tryd.cf17:CF:=⟨2,(cSeq (cOps [⟨some 2,true,none,iBox 27 (.t 0)⟩,
 ⟨some 4,true,none,iMov (.c .nilslice)⟩])
 (cSeq (cOps [⟨some 5,true,none,iMov (.c .nilslice)⟩])
 (cSeq (cSeq (cOps [⟨some 6,true,none,iMov (.c (.int .i64 (.lit 0)))⟩])
 (cBlock 0 (cLoop (cSeq (cSeq (cOps [⟨some 8,false,none,iMov (.t 6)⟩,
 ⟨some 9,false,none,iFaddr 22 (.t 2)⟩,
 ⟨some 10,false,none,iLoad (.t 9)⟩,
 ⟨some 11,false,none,iLenS (.t 10)⟩,
 ⟨some 12,true,none,iCmp .lss (.t 8) (.t 11)⟩])
 (cCond (.t 12) cSkip (cExit 0)))
 (cSeq (cBlock 1 (cSeq (dOps 0 [⟨⟨some 15,false,none,iMov (.t 1)⟩,[1],false,0,0,none,[]⟩,
 ⟨⟨some 16,false,none,iMov (.t 6)⟩,[6],false,0,0,none,[]⟩,
 ⟨⟨some 17,false,none,iArith .mul (.c (.int .i64 (.lit 2))) (.t 16)⟩,[16],false,0,0,none,[]⟩,
 ⟨⟨some 18,false,none,iCall (.c (.func (.func 39) [] [])) [(.t 15),(.t 17)]⟩,[15,17],true,0,0,none,[]⟩,
 ⟨⟨some 19,false,none,iFaddr 22 (.t 2)⟩,[2],false,0,1,none,[]⟩,
 ⟨⟨some 20,false,none,iLoad (.t 19)⟩,[19],false,0,1,none,[]⟩,
 ⟨⟨some 21,false,none,iMov (.t 6)⟩,[6],false,0,1,none,[]⟩,
 ⟨⟨some 22,false,none,iIaddr 4 (.t 20) (.t 21)⟩,[20,21],false,0,1,none,[]⟩,
 ⟨⟨some 23,false,none,iFaddr 3 (.t 22)⟩,[22],false,0,1,none,[]⟩,
 ⟨⟨some 24,false,none,iLoad (.t 23)⟩,[23],false,0,1,none,[]⟩,
 ⟨⟨some 25,false,none,iArith .add (.t 24) (.c (.int .i64 (.lit 1)))⟩,[24],false,0,1,none,[]⟩,
 ⟨⟨some 26,false,none,iCall (.c (.func (.func 9) [] [])) [(.t 18),(.t 25)]⟩,[18,25],true,1,0,none,[]⟩,
 ⟨⟨some 7,true,none,iMov (.t 26)⟩,[26],false,2,2,none,[]⟩])
 (dOps 0 [⟨⟨some 27,false,none,iMov (.t 5)⟩,[5],false,0,3,none,[]⟩,
 ⟨⟨some 28,false,none,iMov (.t 7)⟩,[7],false,0,2,none,[]⟩,
 ⟨⟨some 29,false,none,iMov (.t 1)⟩,[1],false,0,0,none,[]⟩,
 ⟨⟨some 30,false,none,iMov (.t 6)⟩,[6],false,0,0,none,[]⟩,
 ⟨⟨some 31,false,none,iArith .mul (.c (.int .i64 (.lit 2))) (.t 30)⟩,[30],false,0,0,none,[]⟩,
 ⟨⟨some 32,false,none,iArith .add (.t 31) (.c (.int .i64 (.lit 1)))⟩,[31],false,0,0,none,[]⟩,
 ⟨⟨some 33,false,none,iCall (.c (.func (.func 39) [] [])) [(.t 29),(.t 32)]⟩,[29,32],true,0,0,none,[]⟩,
 ⟨⟨some 34,false,none,iFaddr 22 (.t 2)⟩,[2],false,0,1,none,[]⟩,
 ⟨⟨some 35,false,none,iLoad (.t 34)⟩,[34],false,0,1,none,[]⟩,
 ⟨⟨some 36,false,none,iMov (.t 6)⟩,[6],false,0,1,none,[]⟩,
 ⟨⟨some 37,false,none,iIaddr 4 (.t 35) (.t 36)⟩,[35,36],false,0,1,none,[]⟩,
 ⟨⟨some 38,false,none,iFaddr 3 (.t 37)⟩,[37],false,0,1,none,[]⟩,
 ⟨⟨some 39,false,none,iLoad (.t 38)⟩,[38],false,0,1,none,[]⟩,
 ⟨⟨some 40,false,none,iMov (.t 7)⟩,[7],false,0,1,none,[]⟩,
 ⟨⟨some 41,false,none,iArith .sub (.t 39) (.t 40)⟩,[39,40],false,0,1,none,[]⟩,
 ⟨⟨some 42,false,none,iArith .add (.t 41) (.c (.int .i64 (.lit 1)))⟩,[41],false,0,1,none,[]⟩,
 ⟨⟨some 43,false,none,iCall (.c (.func (.func 9) [] [])) [(.t 33),(.t 42)]⟩,[33,42],true,1,0,none,[]⟩,
 ⟨⟨some 44,false,none,iBuild [(.int .i64 (.lit 0)),(.int .i64 (.lit 0))] [(0,1,(.t 28)),(1,1,(.t 43))]⟩,[28,43],false,2,2,none,[]⟩,
 ⟨⟨some 45,false,none,iBslice 54 [(.int .i64 (.lit 0)),(.int .i64 (.lit 0))] 1 [(0,2,(.t 44))]⟩,[44],true,2,0,none,[]⟩,
 ⟨⟨some 46,false,none,iAppend 54 2 16 (.t 27) (.t 45)⟩,[27,45],true,3,0,none,[]⟩,
 ⟨⟨some 5,true,none,iMov (.t 46)⟩,[46],false,4,4,none,[]⟩])))
 (cOps [⟨some 13,false,none,iMov (.t 6)⟩,
 ⟨some 14,false,none,iArith .add (.t 13) (.c (.int .i64 (.lit 1)))⟩,
 ⟨some 6,true,none,iMov (.t 14)⟩]))))))
 (cSeq (cOps [⟨some 47,false,none,iMov (.t 5)⟩,
 ⟨some 4,true,none,iMov (.t 47)⟩])
 cRet)))),[.t 4]⟩
noncomputable def Tryd.kp18:List Nat:=[0,1,2,4,5,6,7,14,19]
noncomputable def Tryd.cf18:CF:=⟨2,(cSeq (cOps [⟨some 2,true,none,iBox 27 (.t 0)⟩,
 ⟨some 4,true,none,iMov (.c (.int .i64 (.lit 0)))⟩,
 ⟨some 5,true,none,iMov (.c (.int .i64 (.lit 0)))⟩])
 (cSeq (cOps [⟨some 9,false,none,iLoadN 23 (.t 2)⟩,
 ⟨some 10,false,none,iCall (.c (.func (.func 31) [] [])) [(.t 9)]⟩,
 ⟨some 8,false,none,iMov (.t 10)⟩,
 ⟨some 11,false,none,iExtract 0 (.t 8)⟩,
 ⟨some 12,false,none,iExtract 1 (.t 8)⟩,
 ⟨some 6,true,none,iAlloc 69 [(.int .i64 (.lit 0)),(.int .i64 (.lit 0)),(.int .i64 (.lit 0)),(.int .i64 (.lit 0)),(.int .i64 (.lit 0)),(.int .i64 (.lit 0)),(.int .i64 (.lit 0)),(.int .i64 (.lit 0)),(.int .i64 (.lit 0)),(.int .i64 (.lit 0)),(.int .i64 (.lit 0)),(.int .i64 (.lit 0)),(.int .i64 (.lit 0)),(.int .i64 (.lit 0)),(.int .i64 (.lit 0)),(.int .i64 (.lit 0)),(.int .i64 (.lit 0)),(.int .i64 (.lit 0)),(.int .i64 (.lit 0)),(.int .i64 (.lit 0)),(.int .i64 (.lit 0)),(.int .i64 (.lit 0)),.nilslice,(.int .i64 (.lit 0)),(.int .i64 (.lit 0)),(.int .i64 (.lit 0)),(.int .i64 (.lit 0)),(.int .i64 (.lit 0)),(.int .i64 (.lit 0)),(.int .i64 (.lit 0)),(.int .i64 (.lit 0)),(.int .i64 (.lit 0)),(.int .i64 (.lit 0)),(.int .i64 (.lit 0)),(.int .i64 (.lit 0)),(.int .i64 (.lit 0)),(.int .i64 (.lit 0)),(.int .i64 (.lit 0)),(.int .i64 (.lit 0))]⟩,
 ⟨none,false,none,iStore 39 (.t 6) (.t 11)⟩,
 ⟨some 7,true,none,iMov (.t 12)⟩])
 (cSeq (cSeq (cOps [⟨some 13,false,none,iMov (.t 7)⟩,
 ⟨some 14,true,none,iCmp .neq (.t 13) (.c (.int .i64 (.lit 0)))⟩])
 (cCond (.t 14) (cSeq (cOps [⟨some 15,false,none,iMov (.t 7)⟩,
 ⟨some 4,true,none,iMov (.c (.int .i64 (.lit 0)))⟩,
 ⟨some 5,true,none,iMov (.t 15)⟩])
 cRet) cSkip))
 (cSeq (cSeq (cOps [⟨some 16,false,none,iLoadN 39 (.t 6)⟩,
 ⟨some 17,false,none,iMov (.t 1)⟩,
 ⟨some 18,false,none,iCall (.c (.func (.func 40) [] [])) [(.t 16),(.t 17)]⟩,
 ⟨some 19,true,none,iNot (.t 18)⟩])
 (cCond (.t 19) (cSeq (cOps [⟨some 4,true,none,iMov (.c (.int .i64 (.lit 0)))⟩,
 ⟨some 5,true,none,iMov (.c (.int .i64 (.lit 41)))⟩])
 cRet) cSkip))
 (cSeq (cOps [⟨some 20,false,none,iLoadN 39 (.t 6)⟩,
 ⟨some 21,false,none,iMov (.t 1)⟩,
 ⟨some 22,false,none,iCall (.c (.func (.func 41) [] [])) [(.t 20),(.t 21)]⟩,
 ⟨some 23,false,none,iExtract 0 (.t 22)⟩,
 ⟨some 24,false,none,iExtract 1 (.t 22)⟩,
 ⟨some 4,true,none,iMov (.t 23)⟩,
 ⟨some 5,true,none,iMov (.t 24)⟩])
 cRet))))),[.t 4,.t 5]⟩
noncomputable def Tryd.kp19:List Nat:=[0,1,2,4,5,6,19]
noncomputable def Tryd.cf19:CF:=⟨2,(cSeq (cOps [⟨some 2,true,none,iBox 27 (.t 0)⟩,
 ⟨some 4,true,none,iMov (.c (.bool (.lit false)))⟩])
 (cSeq (cOps [⟨some 7,false,none,iMov (.t 1)⟩,
 ⟨some 8,false,none,iLenS (.t 7)⟩,
 ⟨some 9,false,none,iFaddr 22 (.t 2)⟩,
 ⟨some 10,false,none,iLoad (.t 9)⟩,
 ⟨some 11,false,none,iLenS (.t 10)⟩,
 ⟨some 12,false,none,iCmp .eql (.t 8) (.t 11)⟩,
 ⟨some 5,true,none,iMov (.t 12)⟩])
 (cSeq (cSeq (cOps [⟨some 6,true,none,iMov (.c (.int .i64 (.lit 0)))⟩])
 (cBlock 0 (cLoop (cSeq (cSeq (cOps [⟨some 13,false,none,iMov (.t 5)⟩,
 ⟨some 14,false,none,iMov (.t 13)⟩,
 ⟨some 15,false,some (14,true),iMov (.t 6)⟩,
 ⟨some 16,false,some (14,true),iMov (.t 1)⟩,
 ⟨some 17,false,some (14,true),iLenS (.t 16)⟩,
 ⟨some 18,false,some (14,true),iCmp .lss (.t 15) (.t 17)⟩,
 ⟨some 19,true,none,iPick (.t 14) (.t 18) (.c (.bool (.lit false)))⟩])
 (cCond (.t 19) cSkip (cExit 0)))
 (cSeq (cBlock 1 (dOps 0 [⟨⟨some 22,false,none,iMov (.t 1)⟩,[1],false,0,0,none,[]⟩,
 ⟨⟨some 23,false,none,iMov (.t 6)⟩,[6],false,0,0,none,[]⟩,
 ⟨⟨some 24,false,none,iIaddr 2 (.t 22) (.t 23)⟩,[22,23],false,0,0,none,[]⟩,
 ⟨⟨some 25,false,none,iFaddr 0 (.t 24)⟩,[24],false,0,0,none,[]⟩,
 ⟨⟨some 26,false,none,iLoad (.t 25)⟩,[25],false,0,0,none,[]⟩,
 ⟨⟨some 27,false,none,iFaddr 22 (.t 2)⟩,[2],false,0,0,none,[]⟩,
 ⟨⟨some 28,false,none,iLoad (.t 27)⟩,[27],false,0,0,none,[]⟩,
 ⟨⟨some 29,false,none,iMov (.t 6)⟩,[6],false,0,0,none,[]⟩,
 ⟨⟨some 30,false,none,iIaddr 4 (.t 28) (.t 29)⟩,[28,29],false,0,0,none,[]⟩,
 ⟨⟨some 31,false,none,iFaddr 3 (.t 30)⟩,[30],false,0,0,none,[]⟩,
 ⟨⟨some 32,false,none,iLoad (.t 31)⟩,[31],false,0,0,none,[]⟩,
 ⟨⟨some 33,false,none,iCall (.c (.func (.func 13) [] [])) [(.t 26),(.c (.int .i64 (.lit 0))),(.t 32)]⟩,[26,32],true,0,0,none,[]⟩,
 ⟨⟨some 34,false,none,iMov (.t 33)⟩,[33],false,1,1,none,[]⟩,
 ⟨⟨some 35,false,some (34,true),iMov (.t 1)⟩,[34,1],false,1,1,none,[]⟩,
 ⟨⟨some 36,false,some (34,true),iMov (.t 6)⟩,[34,6],false,1,1,none,[]⟩,
 ⟨⟨some 37,false,some (34,true),iIaddr 2 (.t 35) (.t 36)⟩,[34,35,36],false,1,1,none,[]⟩,
 ⟨⟨some 38,false,some (34,true),iFaddr 1 (.t 37)⟩,[34,37],false,1,1,none,[]⟩,
 ⟨⟨some 39,false,some (34,true),iLoad (.t 38)⟩,[34,38],false,1,1,none,[]⟩,
 ⟨⟨some 40,false,some (34,true),iFaddr 22 (.t 2)⟩,[34,2],false,1,1,none,[]⟩,
 ⟨⟨some 41,false,some (34,true),iLoad (.t 40)⟩,[34,40],false,1,1,none,[]⟩,
 ⟨⟨some 42,false,some (34,true),iMov (.t 6)⟩,[34,6],false,1,1,none,[]⟩,
 ⟨⟨some 43,false,some (34,true),iIaddr 4 (.t 41) (.t 42)⟩,[34,41,42],false,1,1,none,[]⟩,
 ⟨⟨some 44,false,some (34,true),iFaddr 3 (.t 43)⟩,[34,43],false,1,1,none,[]⟩,
 ⟨⟨some 45,false,some (34,true),iLoad (.t 44)⟩,[34,44],false,1,1,none,[]⟩,
 ⟨⟨some 46,false,some (34,true),iMov (.t 1)⟩,[34,1],false,1,1,none,[]⟩,
 ⟨⟨some 47,false,some (34,true),iMov (.t 6)⟩,[34,6],false,1,1,none,[]⟩,
 ⟨⟨some 48,false,some (34,true),iIaddr 2 (.t 46) (.t 47)⟩,[34,46,47],false,1,1,none,[]⟩,
 ⟨⟨some 49,false,some (34,true),iFaddr 0 (.t 48)⟩,[34,48],false,1,1,none,[]⟩,
 ⟨⟨some 50,false,some (34,true),iLoad (.t 49)⟩,[34,49],false,1,1,none,[]⟩,
 ⟨⟨some 51,false,some (34,true),iArith .sub (.t 45) (.t 50)⟩,[34,45,50],false,1,1,none,[]⟩,
 ⟨⟨some 52,false,some (34,true),iCall (.c (.func (.func 13) [] [])) [(.t 39),(.c (.int .i64 (.lit 0))),(.t 51)]⟩,[34,39,51],true,1,0,none,[]⟩,
 ⟨⟨some 53,false,none,iPick (.t 34) (.t 52) (.c (.bool (.lit false)))⟩,[34,52],false,2,2,none,[]⟩,
 ⟨⟨some 5,true,none,iMov (.t 53)⟩,[53],false,2,2,none,[]⟩]))
 (cOps [⟨some 20,false,none,iMov (.t 6)⟩,
 ⟨some 21,false,none,iArith .add (.t 20) (.c (.int .i64 (.lit 1)))⟩,
 ⟨some 6,true,none,iMov (.t 21)⟩]))))))
 (cSeq (cOps [⟨some 54,false,none,iMov (.t 5)⟩,
 ⟨some 4,true,none,iMov (.t 54)⟩])
 cRet)))),[.t 4]⟩
noncomputable def Tryd.kp20:List Nat:=[0,2,3,4,8]
noncomputable def Tryd.cf20:CF:=⟨1,(cSeq (cOps [⟨some 2,true,none,iMov (.c (.int .i64 (.lit 0)))⟩])
 (cSeq (cOps [⟨some 3,true,none,iMov (.c (.int .i64 (.lit 0)))⟩])
 (cSeq (cSeq (cOps [⟨some 4,true,none,iMov (.c (.int .i64 (.lit 0)))⟩])
 (cBlock 0 (cLoop (cSeq (cSeq (cOps [⟨some 5,false,none,iMov (.t 4)⟩,
 ⟨some 6,false,none,iMov (.t 0)⟩,
 ⟨some 7,false,none,iLenS (.t 6)⟩,
 ⟨some 8,true,none,iCmp .lss (.t 5) (.t 7)⟩])
 (cCond (.t 8) cSkip (cExit 0)))
 (cSeq (cBlock 1 (dOps 0 [⟨⟨some 11,false,none,iMov (.t 3)⟩,[3],false,0,0,none,[]⟩,
 ⟨⟨some 12,false,none,iMov (.t 0)⟩,[0],false,0,0,none,[]⟩,
 ⟨⟨some 13,false,none,iMov (.t 4)⟩,[4],false,0,0,none,[]⟩,
 ⟨⟨some 14,false,none,iIaddr 2 (.t 12) (.t 13)⟩,[12,13],false,0,0,none,[]⟩,
 ⟨⟨some 15,false,none,iFaddr 0 (.t 14)⟩,[14],false,0,0,none,[]⟩,
 ⟨⟨some 16,false,none,iLoad (.t 15)⟩,[15],false,0,0,none,[]⟩,
 ⟨⟨some 17,false,none,iMov (.t 0)⟩,[0],false,0,0,none,[]⟩,
 ⟨⟨some 18,false,none,iMov (.t 4)⟩,[4],false,0,0,none,[]⟩,
 ⟨⟨some 19,false,none,iIaddr 2 (.t 17) (.t 18)⟩,[17,18],false,0,0,none,[]⟩,
 ⟨⟨some 20,false,none,iFaddr 1 (.t 19)⟩,[19],false,0,0,none,[]⟩,
 ⟨⟨some 21,false,none,iLoad (.t 20)⟩,[20],false,0,0,none,[]⟩,
 ⟨⟨some 22,false,none,iArith .add (.t 16) (.t 21)⟩,[16,21],false,0,0,none,[]⟩,
 ⟨⟨some 23,false,none,iArith .add (.t 11) (.t 22)⟩,[11,22],false,0,0,none,[]⟩,
 ⟨⟨some 3,true,none,iMov (.t 23)⟩,[23],false,0,0,none,[]⟩]))
 (cOps [⟨some 9,false,none,iMov (.t 4)⟩,
 ⟨some 10,false,none,iArith .add (.t 9) (.c (.int .i64 (.lit 1)))⟩,
 ⟨some 4,true,none,iMov (.t 10)⟩]))))))
 (cSeq (cOps [⟨some 24,false,none,iMov (.t 3)⟩,
 ⟨some 2,true,none,iMov (.t 24)⟩])
 cRet)))),[.t 2]⟩
noncomputable def Tryd.kp21:List Nat:=[0,1,4,5,15,26]
noncomputable def Tryd.cf21:CF:=⟨2,(cSeq (cOps [⟨some 4,true,none,iMov (.c (.bool (.lit false)))⟩])
 (cSeq (cSeq (cOps [⟨some 5,true,none,iMov (.c (.int .i64 (.lit 0)))⟩])
 (cBlock 0 (cLoop (cSeq (cSeq (cOps [⟨some 6,false,none,iMov (.t 5)⟩,
 ⟨some 7,false,none,iMov (.t 0)⟩,
 ⟨some 8,false,none,iLenS (.t 7)⟩,
 ⟨some 9,false,none,iCmp .lss (.t 6) (.t 8)⟩,
 ⟨some 10,false,none,iMov (.t 9)⟩,
 ⟨some 11,false,some (10,true),iMov (.t 5)⟩,
 ⟨some 12,false,some (10,true),iMov (.t 1)⟩,
 ⟨some 13,false,some (10,true),iLenS (.t 12)⟩,
 ⟨some 14,false,some (10,true),iCmp .lss (.t 11) (.t 13)⟩,
 ⟨some 15,true,none,iPick (.t 10) (.t 14) (.c (.bool (.lit false)))⟩])
 (cCond (.t 15) cSkip (cExit 0)))
 (cSeq (cBlock 1 (cSeq (dOps 0 [⟨⟨some 18,false,none,iMov (.t 0)⟩,[0],false,0,0,none,[]⟩,
 ⟨⟨some 19,false,none,iMov (.t 5)⟩,[5],false,0,0,none,[]⟩,
 ⟨⟨some 20,false,none,iIaddr 1 (.t 18) (.t 19)⟩,[18,19],false,0,0,none,[]⟩,
 ⟨⟨some 21,false,none,iLoad (.t 20)⟩,[20],false,0,0,none,[]⟩,
 ⟨⟨some 22,false,none,iMov (.t 1)⟩,[1],false,0,0,none,[]⟩,
 ⟨⟨some 23,false,none,iMov (.t 5)⟩,[5],false,0,0,none,[]⟩,
 ⟨⟨some 24,false,none,iIaddr 1 (.t 22) (.t 23)⟩,[22,23],false,0,0,none,[]⟩,
 ⟨⟨some 25,false,none,iLoad (.t 24)⟩,[24],false,0,0,none,[]⟩,
 ⟨⟨some 26,true,none,iCmp .neq (.t 21) (.t 25)⟩,[21,25],false,0,0,none,[]⟩])
 (cCond (.t 26) (cSeq (dOps 0 [⟨⟨some 27,false,none,iMov (.t 0)⟩,[0],false,0,0,none,[]⟩,
 ⟨⟨some 28,false,none,iMov (.t 5)⟩,[5],false,0,0,none,[]⟩,
 ⟨⟨some 29,false,none,iIaddr 1 (.t 27) (.t 28)⟩,[27,28],false,0,0,none,[]⟩,
 ⟨⟨some 30,false,none,iLoad (.t 29)⟩,[29],false,0,0,none,[]⟩,
 ⟨⟨some 31,false,none,iMov (.t 1)⟩,[1],false,0,0,none,[]⟩,
 ⟨⟨some 32,false,none,iMov (.t 5)⟩,[5],false,0,0,none,[]⟩,
 ⟨⟨some 33,false,none,iIaddr 1 (.t 31) (.t 32)⟩,[31,32],false,0,0,none,[]⟩,
 ⟨⟨some 34,false,none,iLoad (.t 33)⟩,[33],false,0,0,none,[]⟩,
 ⟨⟨some 35,false,none,iCmp .lss (.t 30) (.t 34)⟩,[30,34],false,0,0,none,[]⟩,
 ⟨⟨some 4,true,none,iMov (.t 35)⟩,[35],false,0,0,none,[]⟩])
 cRet) cSkip)))
 (cOps [⟨some 16,false,none,iMov (.t 5)⟩,
 ⟨some 17,false,none,iArith .add (.t 16) (.c (.int .i64 (.lit 1)))⟩,
 ⟨some 5,true,none,iMov (.t 17)⟩]))))))
 (cSeq (cOps [⟨some 36,false,none,iMov (.t 0)⟩,
 ⟨some 37,false,none,iLenS (.t 36)⟩,
 ⟨some 38,false,none,iMov (.t 1)⟩,
 ⟨some 39,false,none,iLenS (.t 38)⟩,
 ⟨some 40,false,none,iCmp .lss (.t 37) (.t 39)⟩,
 ⟨some 4,true,none,iMov (.t 40)⟩])
 cRet))),[.t 4]⟩
noncomputable def Tryd.kp22:List Nat:=[0,2,3,4,8]
noncomputable def Tryd.cf22:CF:=⟨1,(cSeq (cOps [⟨some 2,true,none,iMov (.c .nilslice)⟩])
 (cSeq (cOps [⟨some 3,true,none,iMov (.c .nilslice)⟩])
 (cSeq (cSeq (cOps [⟨some 4,true,none,iMov (.c (.int .i64 (.lit 0)))⟩])
 (cBlock 0 (cLoop (cSeq (cSeq (cOps [⟨some 5,false,none,iMov (.t 4)⟩,
 ⟨some 6,false,none,iMov (.t 0)⟩,
 ⟨some 7,false,none,iLenS (.t 6)⟩,
 ⟨some 8,true,none,iCmp .lss (.t 5) (.t 7)⟩])
 (cCond (.t 8) cSkip (cExit 0)))
 (cSeq (cBlock 1 (dOps 0 [⟨⟨some 11,false,none,iMov (.t 3)⟩,[3],false,0,1,none,[]⟩,
 ⟨⟨some 12,false,none,iMov (.t 0)⟩,[0],false,0,0,none,[]⟩,
 ⟨⟨some 13,false,none,iMov (.t 4)⟩,[4],false,0,0,none,[]⟩,
 ⟨⟨some 14,false,none,iIaddr 2 (.t 12) (.t 13)⟩,[12,13],false,0,0,none,[]⟩,
 ⟨⟨some 15,false,none,iFaddr 0 (.t 14)⟩,[14],false,0,0,none,[]⟩,
 ⟨⟨some 16,false,none,iLoad (.t 15)⟩,[15],false,0,0,none,[]⟩,
 ⟨⟨some 17,false,none,iMov (.t 0)⟩,[0],false,0,0,none,[]⟩,
 ⟨⟨some 18,false,none,iMov (.t 4)⟩,[4],false,0,0,none,[]⟩,
 ⟨⟨some 19,false,none,iIaddr 2 (.t 17) (.t 18)⟩,[17,18],false,0,0,none,[]⟩,
 ⟨⟨some 20,false,none,iFaddr 1 (.t 19)⟩,[19],false,0,0,none,[]⟩,
 ⟨⟨some 21,false,none,iLoad (.t 20)⟩,[20],false,0,0,none,[]⟩,
 ⟨⟨some 22,false,none,iBslice 3 [(.int .i64 (.lit 0))] 2 [(0,1,(.t 16)),(1,1,(.t 21))]⟩,[16,21],true,0,0,none,[]⟩,
 ⟨⟨some 23,false,none,iAppend 3 1 8 (.t 11) (.t 22)⟩,[11,22],true,1,0,none,[]⟩,
 ⟨⟨some 3,true,none,iMov (.t 23)⟩,[23],false,2,2,none,[]⟩]))
 (cOps [⟨some 9,false,none,iMov (.t 4)⟩,
 ⟨some 10,false,none,iArith .add (.t 9) (.c (.int .i64 (.lit 1)))⟩,
 ⟨some 4,true,none,iMov (.t 10)⟩]))))))
 (cSeq (cOps [⟨some 24,false,none,iMov (.t 3)⟩,
 ⟨some 2,true,none,iMov (.t 24)⟩])
 cRet)))),[.t 2]⟩
noncomputable def Tryd.kp23:List Nat:=[0,1,2,5]
noncomputable def Tryd.cf23:CF:=⟨1,(cSeq (cOps [⟨some 1,true,none,iBox 27 (.t 0)⟩,
 ⟨some 2,true,none,iMov (.c (.int .i64 (.lit 0)))⟩])
 (cSeq (cSeq (cOps [⟨some 3,false,none,iLoadN 23 (.t 1)⟩,
 ⟨some 4,false,none,iCall (.c (.func (.func 42) [] [])) [(.t 3)]⟩,
 ⟨some 5,true,none,iNot (.t 4)⟩])
 (cCond (.t 5) (cSeq (cOps [⟨some 2,true,none,iMov (.c (.int .i64 (.lit 40)))⟩])
 cRet) cSkip))
 (cSeq (cOps [⟨some 2,true,none,iMov (.c (.int .i64 (.lit 0)))⟩])
 cRet))),[.t 2]⟩
noncomputable def Tryd.kp24:List Nat:=[0,1,2,3,6]
noncomputable def Tryd.cf24:CF:=⟨3,(cSeq (cOps [⟨some 3,true,none,iBox 23 (.t 0)⟩,
 ⟨some 6,true,none,iMov (.c (.bool (.lit false)))⟩])
 (cSeq (cOps [⟨some 7,false,none,iMov (.t 1)⟩,
 ⟨some 8,false,none,iFaddr 0 (.t 3)⟩,
 ⟨some 9,false,none,iLoad (.t 8)⟩,
 ⟨some 10,false,none,iCmp .leq (.t 7) (.t 9)⟩,
 ⟨some 11,false,none,iMov (.t 10)⟩,
 ⟨some 12,false,some (11,true),iFaddr 0 (.t 3)⟩,
 ⟨some 13,false,some (11,true),iLoad (.t 12)⟩,
 ⟨some 14,false,some (11,true),iFaddr 1 (.t 3)⟩,
 ⟨some 15,false,some (11,true),iLoad (.t 14)⟩,
 ⟨some 16,false,some (11,true),iCmp .leq (.t 13) (.t 15)⟩,
 ⟨some 17,false,none,iPick (.t 11) (.t 16) (.c (.bool (.lit false)))⟩,
 ⟨some 18,false,none,iMov (.t 17)⟩,
 ⟨some 19,false,some (18,true),iFaddr 1 (.t 3)⟩,
 ⟨some 20,false,some (18,true),iLoad (.t 19)⟩,
 ⟨some 21,false,some (18,true),iMov (.t 2)⟩,
 ⟨some 22,false,some (18,true),iCmp .leq (.t 20) (.t 21)⟩,
 ⟨some 23,false,none,iPick (.t 18) (.t 22) (.c (.bool (.lit false)))⟩,
 ⟨some 6,true,none,iMov (.t 23)⟩])
 cRet)),[.t 6]⟩
noncomputable def Tryd.kp25:List Nat:=[0,1,2,4,5,6,7,14,23]
noncomputable def Tryd.cf25:CF:=⟨2,(cSeq (cOps [⟨some 2,true,none,iBox 27 (.t 0)⟩,
 ⟨some 4,true,none,iAlloc 23 [(.int .i64 (.lit 0)),(.int .i64 (.lit 0))]⟩,
 ⟨some 5,true,none,iMov (.c (.int .i64 (.lit 0)))⟩])
 (cSeq (cOps [⟨some 9,false,none,iLoadN 23 (.t 2)⟩,
 ⟨some 10,false,none,iCall (.c (.func (.func 31) [] [])) [(.t 9)]⟩,
 ⟨some 8,false,none,iMov (.t 10)⟩,
 ⟨some 11,false,none,iExtract 0 (.t 8)⟩,
 ⟨some 12,false,none,iExtract 1 (.t 8)⟩,
 ⟨some 6,true,none,iAlloc 69 [(.int .i64 (.lit 0)),(.int .i64 (.lit 0)),(.int .i64 (.lit 0)),(.int .i64 (.lit 0)),(.int .i64 (.lit 0)),(.int .i64 (.lit 0)),(.int .i64 (.lit 0)),(.int .i64 (.lit 0)),(.int .i64 (.lit 0)),(.int .i64 (.lit 0)),(.int .i64 (.lit 0)),(.int .i64 (.lit 0)),(.int .i64 (.lit 0)),(.int .i64 (.lit 0)),(.int .i64 (.lit 0)),(.int .i64 (.lit 0)),(.int .i64 (.lit 0)),(.int .i64 (.lit 0)),(.int .i64 (.lit 0)),(.int .i64 (.lit 0)),(.int .i64 (.lit 0)),(.int .i64 (.lit 0)),.nilslice,(.int .i64 (.lit 0)),(.int .i64 (.lit 0)),(.int .i64 (.lit 0)),(.int .i64 (.lit 0)),(.int .i64 (.lit 0)),(.int .i64 (.lit 0)),(.int .i64 (.lit 0)),(.int .i64 (.lit 0)),(.int .i64 (.lit 0)),(.int .i64 (.lit 0)),(.int .i64 (.lit 0)),(.int .i64 (.lit 0)),(.int .i64 (.lit 0)),(.int .i64 (.lit 0)),(.int .i64 (.lit 0)),(.int .i64 (.lit 0))]⟩,
 ⟨none,false,none,iStore 39 (.t 6) (.t 11)⟩,
 ⟨some 7,true,none,iMov (.t 12)⟩])
 (cSeq (cSeq (cOps [⟨some 13,false,none,iMov (.t 7)⟩,
 ⟨some 14,true,none,iCmp .neq (.t 13) (.c (.int .i64 (.lit 0)))⟩])
 (cCond (.t 14) (cSeq (cOps [⟨some 15,false,none,iBuild [(.int .i64 (.lit 0)),(.int .i64 (.lit 0))] []⟩,
 ⟨some 16,false,none,iMov (.t 7)⟩,
 ⟨none,false,none,iStore 2 (.t 4) (.t 15)⟩,
 ⟨some 5,true,none,iMov (.t 16)⟩])
 cRet) cSkip))
 (cSeq (cSeq (cOps [⟨some 17,false,none,iMov (.t 1)⟩,
 ⟨some 18,false,none,iFaddr 0 (.t 6)⟩,
 ⟨some 19,false,none,iFaddr 5 (.t 18)⟩,
 ⟨some 20,false,none,iLoad (.t 19)⟩,
 ⟨some 21,false,none,iBuild [(.int .i64 (.lit 0)),(.int .i64 (.lit 0))] [(0,1,(.c (.int .i64 (.lit 0)))),(1,1,(.t 20))]⟩,
 ⟨some 22,false,none,iCall (.c (.func (.func 43) [] [])) [(.t 17),(.t 21)]⟩,
 ⟨some 23,true,none,iNot (.t 22)⟩])
 (cCond (.t 23) (cSeq (cOps [⟨some 24,false,none,iBuild [(.int .i64 (.lit 0)),(.int .i64 (.lit 0))] []⟩,
 ⟨none,false,none,iStore 2 (.t 4) (.t 24)⟩,
 ⟨some 5,true,none,iMov (.c (.int .i64 (.lit 41)))⟩])
 cRet) cSkip))
 (cSeq (cOps [⟨some 25,false,none,iLoadN 39 (.t 6)⟩,
 ⟨some 26,false,none,iMov (.t 1)⟩,
 ⟨some 27,false,none,iCall (.c (.func (.func 44) [] [])) [(.t 25),(.t 26)]⟩,
 ⟨none,false,none,iStore 2 (.t 4) (.t 27)⟩,
 ⟨some 5,true,none,iMov (.c (.int .i64 (.lit 0)))⟩])
 cRet))))),[.cell 4 true 2,.t 5]⟩
noncomputable def Tryd.kp26:List Nat:=[0]
noncomputable def Tryd.cf26:CF:=⟨0,(cSeq (cOps [⟨some 0,true,none,iAlloc 27 [(.int .i64 (.lit 0)),(.int .i64 (.lit 0)),(.int .i64 (.lit 0)),(.int .i64 (.lit 0)),(.int .i64 (.lit 0)),(.int .i64 (.lit 0)),(.int .i64 (.lit 0)),(.int .i64 (.lit 0)),(.int .i64 (.lit 0)),(.int .i64 (.lit 0)),(.int .i64 (.lit 0)),(.int .i64 (.lit 0)),(.int .i64 (.lit 0)),(.int .i64 (.lit 0)),(.int .i64 (.lit 0)),(.int .i64 (.lit 0)),(.int .i64 (.lit 0)),(.int .i64 (.lit 0)),(.int .i64 (.lit 0)),(.int .i64 (.lit 0)),(.int .i64 (.lit 0)),(.int .i64 (.lit 0)),.nilslice]⟩])
 (cSeq (cOps [⟨some 1,false,none,iCall (.c (.func (.func 16) [] [])) [(.c (.int .i64 (.lit 20))),(.c (.int .i64 (.lit 24)))]⟩,
 ⟨some 2,false,none,iCall (.c (.func (.func 16) [] [])) [(.c (.int .i64 (.lit 30))),(.c (.int .i64 (.lit 30)))]⟩,
 ⟨some 3,false,none,iCall (.c (.func (.func 16) [] [])) [(.c (.int .i64 (.lit 0))),(.c (.int .i64 (.lit 1)))]⟩,
 ⟨some 4,false,none,iCall (.c (.func (.func 16) [] [])) [(.c (.int .i64 (.lit 1))),(.c (.int .i64 (.lit 2)))]⟩,
 ⟨some 5,false,none,iBuild [(.int .i64 (.lit 0)),(.int .i64 (.lit 0)),(.int .i64 (.lit 0)),(.int .i64 (.lit 0))] [(0,2,(.t 3)),(2,2,(.t 4))]⟩,
 ⟨some 6,false,none,iCall (.c (.func (.func 16) [] [])) [(.c (.int .i64 (.lit 0))),(.c (.int .i64 (.lit 1)))]⟩,
 ⟨some 7,false,none,iCall (.c (.func (.func 16) [] [])) [(.c (.int .i64 (.lit 1))),(.c (.int .i64 (.lit 1)))]⟩,
 ⟨some 8,false,none,iBuild [(.int .i64 (.lit 0)),(.int .i64 (.lit 0)),(.int .i64 (.lit 0)),(.int .i64 (.lit 0))] [(0,2,(.t 6)),(2,2,(.t 7))]⟩,
 ⟨some 9,false,none,iCall (.c (.func (.func 16) [] [])) [(.c (.int .i64 (.lit 20))),(.c (.int .i64 (.lit 24)))]⟩,
 ⟨some 10,false,none,iCall (.c (.func (.func 16) [] [])) [(.c (.int .i64 (.lit 12))),(.c (.int .i64 (.lit 16)))]⟩,
 ⟨some 11,false,none,iCall (.c (.func (.func 45) [] [])) [(.c (.int .i64 (.lit 5))),(.c (.int .i64 (.lit 6))),(.c (.bool (.lit false))),(.c (.int .i64 (.lit 0)))]⟩,
 ⟨some 12,false,none,iCall (.c (.func (.func 45) [] [])) [(.c (.int .i64 (.lit 10))),(.c (.int .i64 (.lit 12))),(.c (.bool (.lit true))),(.c (.int .i64 (.lit 2)))]⟩,
 ⟨some 13,false,none,iCall (.c (.func (.func 45) [] [])) [(.c (.int .i64 (.lit 3))),(.c (.int .i64 (.lit 4))),(.c (.bool (.lit false))),(.c (.int .i64 (.lit 1)))]⟩,
 ⟨some 14,false,none,iCall (.c (.func (.func 45) [] [])) [(.c (.int .i64 (.lit 8))),(.c (.int .i64 (.lit 8))),(.c (.bool (.lit true))),(.c (.int .i64 (.lit 5)))]⟩,
 ⟨some 15,false,none,iBslice 42 [(.int .i64 (.lit 0)),(.int .i64 (.lit 0)),(.bool (.lit false)),(.int .i64 (.lit 0))] 4 [(0,4,(.t 11)),(4,4,(.t 12)),(8,4,(.t 13)),(12,4,(.t 14))]⟩,
 ⟨some 16,false,none,iBuild [(.int .i64 (.lit 0)),(.int .i64 (.lit 0)),(.int .i64 (.lit 0)),(.int .i64 (.lit 0)),(.int .i64 (.lit 0)),(.int .i64 (.lit 0)),(.int .i64 (.lit 0)),(.int .i64 (.lit 0)),(.int .i64 (.lit 0)),(.int .i64 (.lit 0)),(.int .i64 (.lit 0)),(.int .i64 (.lit 0)),(.int .i64 (.lit 0)),(.int .i64 (.lit 0)),(.int .i64 (.lit 0)),(.int .i64 (.lit 0)),(.int .i64 (.lit 0)),(.int .i64 (.lit 0)),(.int .i64 (.lit 0)),(.int .i64 (.lit 0)),(.int .i64 (.lit 0)),(.int .i64 (.lit 0)),.nilslice] [(0,2,(.t 1)),(2,2,(.t 2)),(4,1,(.c (.int .i64 (.lit 40)))),(5,1,(.c (.int .i64 (.lit 40)))),(6,1,(.c (.int .i64 (.lit 6)))),(7,1,(.c (.int .i64 (.lit 10)))),(8,4,(.t 5)),(12,4,(.t 8)),(16,2,(.t 9)),(18,2,(.t 10)),(20,1,(.c (.int .i64 (.lit 10)))),(21,1,(.c (.int .i64 (.lit 18)))),(22,1,(.t 15))]⟩,
 ⟨none,false,none,iStore 23 (.t 0) (.t 16)⟩])
 cRet)),[.cell 0 true 23]⟩
noncomputable def Tryd.kp27:List Nat:=[0,1,2,3,6,7,8,9,16,29]
noncomputable def Tryd.cf27:CF:=⟨3,(cSeq (cOps [⟨some 3,true,none,iBox 27 (.t 0)⟩,
 ⟨some 6,true,none,iAlloc 23 [(.int .i64 (.lit 0)),(.int .i64 (.lit 0))]⟩,
 ⟨some 7,true,none,iAlloc 23 [(.int .i64 (.lit 0)),(.int .i64 (.lit 0))]⟩,
 ⟨some 8,true,none,iMov (.c (.int .i64 (.lit 0)))⟩])
 (cSeq (cOps [⟨some 11,false,none,iLoadN 23 (.t 3)⟩,
 ⟨some 12,false,none,iCall (.c (.func (.func 31) [] [])) [(.t 11)]⟩,
 ⟨some 10,false,none,iMov (.t 12)⟩,
 ⟨some 13,false,none,iExtract 0 (.t 10)⟩,
 ⟨some 14,false,none,iExtract 1 (.t 10)⟩,
 ⟨some 9,true,none,iAlloc 69 [(.int .i64 (.lit 0)),(.int .i64 (.lit 0)),(.int .i64 (.lit 0)),(.int .i64 (.lit 0)),(.int .i64 (.lit 0)),(.int .i64 (.lit 0)),(.int .i64 (.lit 0)),(.int .i64 (.lit 0)),(.int .i64 (.lit 0)),(.int .i64 (.lit 0)),(.int .i64 (.lit 0)),(.int .i64 (.lit 0)),(.int .i64 (.lit 0)),(.int .i64 (.lit 0)),(.int .i64 (.lit 0)),(.int .i64 (.lit 0)),(.int .i64 (.lit 0)),(.int .i64 (.lit 0)),(.int .i64 (.lit 0)),(.int .i64 (.lit 0)),(.int .i64 (.lit 0)),(.int .i64 (.lit 0)),.nilslice,(.int .i64 (.lit 0)),(.int .i64 (.lit 0)),(.int .i64 (.lit 0)),(.int .i64 (.lit 0)),(.int .i64 (.lit 0)),(.int .i64 (.lit 0)),(.int .i64 (.lit 0)),(.int .i64 (.lit 0)),(.int .i64 (.lit 0)),(.int .i64 (.lit 0)),(.int .i64 (.lit 0)),(.int .i64 (.lit 0)),(.int .i64 (.lit 0)),(.int .i64 (.lit 0)),(.int .i64 (.lit 0)),(.int .i64 (.lit 0))]⟩,
 ⟨none,false,none,iStore 39 (.t 9) (.t 13)⟩,
 ⟨some 8,true,none,iMov (.t 14)⟩])
 (cSeq (cSeq (cOps [⟨some 15,false,none,iMov (.t 8)⟩,
 ⟨some 16,true,none,iCmp .neq (.t 15) (.c (.int .i64 (.lit 0)))⟩])
 (cCond (.t 16) (cSeq (cOps [⟨some 17,false,none,iBuild [(.int .i64 (.lit 0)),(.int .i64 (.lit 0))] []⟩,
 ⟨some 18,false,none,iBuild [(.int .i64 (.lit 0)),(.int .i64 (.lit 0))] []⟩,
 ⟨some 19,false,none,iMov (.t 8)⟩,
 ⟨none,false,none,iStore 2 (.t 6) (.t 17)⟩,
 ⟨none,false,none,iStore 2 (.t 7) (.t 18)⟩,
 ⟨some 8,true,none,iMov (.t 19)⟩])
 cRet) cSkip))
 (cSeq (cSeq (cOps [⟨some 20,false,none,iLoadN 39 (.t 9)⟩,
 ⟨some 21,false,none,iMov (.t 1)⟩,
 ⟨some 22,false,none,iCall (.c (.func (.func 40) [] [])) [(.t 20),(.t 21)]⟩,
 ⟨some 23,false,none,iNot (.t 22)⟩,
 ⟨some 24,false,none,iMov (.t 23)⟩,
 ⟨some 25,false,some (24,false),iLoadN 39 (.t 9)⟩,
 ⟨some 26,false,some (24,false),iMov (.t 2)⟩,
 ⟨some 27,false,some (24,false),iCall (.c (.func (.func 32) [] [])) [(.t 25),(.t 26)]⟩,
 ⟨some 28,false,some (24,false),iNot (.t 27)⟩,
 ⟨some 29,true,none,iPick (.t 24) (.c (.bool (.lit true))) (.t 28)⟩])
 (cCond (.t 29) (cSeq (cOps [⟨some 30,false,none,iBuild [(.int .i64 (.lit 0)),(.int .i64 (.lit 0))] []⟩,
 ⟨some 31,false,none,iBuild [(.int .i64 (.lit 0)),(.int .i64 (.lit 0))] []⟩,
 ⟨none,false,none,iStore 2 (.t 6) (.t 30)⟩,
 ⟨none,false,none,iStore 2 (.t 7) (.t 31)⟩,
 ⟨some 8,true,none,iMov (.c (.int .i64 (.lit 41)))⟩])
 cRet) cSkip))
 (cSeq (dOps 0 [⟨⟨some 32,false,none,iLoadN 39 (.t 9)⟩,[9],false,0,0,none,[]⟩,
 ⟨⟨some 33,false,none,iMov (.t 1)⟩,[1],false,0,0,none,[]⟩,
 ⟨⟨some 34,false,none,iMov (.t 2)⟩,[2],false,0,0,none,[]⟩,
 ⟨⟨some 35,false,none,iArith .add (.t 34) (.c (.int .i64 (.lit 1)))⟩,[34],false,0,0,none,[]⟩,
 ⟨⟨some 36,false,none,iMov (.t 2)⟩,[2],false,0,0,none,[]⟩,
 ⟨⟨some 37,false,none,iArith .add (.t 36) (.c (.int .i64 (.lit 1)))⟩,[36],false,0,0,none,[]⟩,
 ⟨⟨some 38,false,none,iSlice 2 (.t 33) none (some (.t 35)) (some (.t 37))⟩,[33,35,37],false,0,0,none,[]⟩,
 ⟨⟨some 39,false,none,iCall (.c (.func (.func 46) [] [])) [(.t 32),(.t 38)]⟩,[32,38],true,0,0,none,[]⟩,
 ⟨⟨some 40,false,none,iExtract 0 (.t 39)⟩,[39],false,1,1,none,[]⟩,
 ⟨⟨some 41,false,none,iExtract 1 (.t 39)⟩,[39],false,1,1,none,[]⟩,
 ⟨⟨some 42,false,none,iExtract 2 (.t 39)⟩,[39],false,1,1,none,[]⟩,
 ⟨⟨none,false,none,iStore 2 (.t 6) (.t 40)⟩,[6,40],true,1,0,none,[]⟩,
 ⟨⟨none,false,none,iStore 2 (.t 7) (.t 41)⟩,[7,41],true,2,0,none,[]⟩,
 ⟨⟨some 8,true,none,iMov (.t 42)⟩,[42],false,3,3,none,[]⟩])
 cRet))))),[.cell 6 true 2,.cell 7 true 2,.t 8]⟩
noncomputable def Tryd.kp28:List Nat:=[0]
noncomputable def Tryd.cf28:CF:=⟨0,(cSeq (cOps [⟨some 0,true,none,iMov (.c .nilslice)⟩])
 (cSeq (cOps [⟨some 1,false,none,iBuild [(.int .i64 (.lit 0)),(.int .i64 (.lit 0))] []⟩,
 ⟨some 2,false,none,iBuild [(.int .i64 (.lit 0)),(.int .i64 (.lit 0))] [(0,1,(.c (.int .i64 (.lit 2))))]⟩,
 ⟨some 3,false,none,iBuild [(.int .i64 (.lit 0)),(.int .i64 (.lit 0))] [(0,1,(.c (.int .i64 (.lit 1))))]⟩,
 ⟨some 4,false,none,iBuild [(.int .i64 (.lit 0)),(.int .i64 (.lit 0))] [(0,1,(.c (.int .i64 (.lit 2)))),(1,1,(.c (.int .i64 (.lit 1))))]⟩,
 ⟨some 5,false,none,iBslice 54 [(.int .i64 (.lit 0)),(.int .i64 (.lit 0))] 4 [(0,2,(.t 1)),(2,2,(.t 2)),(4,2,(.t 3)),(6,2,(.t 4))]⟩,
 ⟨some 0,true,none,iMov (.t 5)⟩])
 cRet)),[.t 0]⟩
noncomputable def Tryd.kp29:List Nat:=[0]
noncomputable def Tryd.cf29:CF:=⟨0,(cSeq (cOps [⟨some 0,true,none,iMov (.c .nilslice)⟩])
 (cSeq (cOps [⟨some 1,false,none,iBuild [(.int .i64 (.lit 0)),(.int .i64 (.lit 0))] []⟩,
 ⟨some 2,false,none,iBuild [(.int .i64 (.lit 0)),(.int .i64 (.lit 0))] [(0,1,(.c (.int .i64 (.lit 1))))]⟩,
 ⟨some 3,false,none,iBuild [(.int .i64 (.lit 0)),(.int .i64 (.lit 0))] [(0,1,(.c (.int .i64 (.lit 1))))]⟩,
 ⟨some 4,false,none,iBuild [(.int .i64 (.lit 0)),(.int .i64 (.lit 0))] [(0,1,(.c (.int .i64 (.lit 2)))),(1,1,(.c (.int .i64 (.lit 1))))]⟩,
 ⟨some 5,false,none,iBslice 54 [(.int .i64 (.lit 0)),(.int .i64 (.lit 0))] 4 [(0,2,(.t 1)),(2,2,(.t 2)),(4,2,(.t 3)),(6,2,(.t 4))]⟩,
 ⟨some 0,true,none,iMov (.t 5)⟩])
 cRet)),[.t 0]⟩
noncomputable def Tryd.kp30:List Nat:=[0,1,4,5,6,18]
noncomputable def Tryd.cf30:CF:=⟨2,(cSeq (cOps [⟨some 4,true,none,iMov (.c (.bool (.lit false)))⟩])
 (cSeq (cOps [⟨some 7,false,none,iMov (.t 0)⟩,
 ⟨some 8,false,none,iLenS (.t 7)⟩,
 ⟨some 9,false,none,iMov (.t 1)⟩,
 ⟨some 10,false,none,iLenS (.t 9)⟩,
 ⟨some 11,false,none,iCmp .eql (.t 8) (.t 10)⟩,
 ⟨some 5,true,none,iMov (.t 11)⟩])
 (cSeq (cSeq (cOps [⟨some 6,true,none,iMov (.c (.int .i64 (.lit 0)))⟩])
 (cBlock 0 (cLoop (cSeq (cSeq (cOps [⟨some 12,false,none,iMov (.t 5)⟩,
 ⟨some 13,false,none,iMov (.t 12)⟩,
 ⟨some 14,false,some (13,true),iMov (.t 6)⟩,
 ⟨some 15,false,some (13,true),iMov (.t 0)⟩,
 ⟨some 16,false,some (13,true),iLenS (.t 15)⟩,
 ⟨some 17,false,some (13,true),iCmp .lss (.t 14) (.t 16)⟩,
 ⟨some 18,true,none,iPick (.t 13) (.t 17) (.c (.bool (.lit false)))⟩])
 (cCond (.t 18) cSkip (cExit 0)))
 (cSeq (cBlock 1 (dOps 0 [⟨⟨some 21,false,none,iMov (.t 0)⟩,[0],false,0,0,none,[]⟩,
 ⟨⟨some 22,false,none,iMov (.t 6)⟩,[6],false,0,0,none,[]⟩,
 ⟨⟨some 23,false,none,iIaddr 2 (.t 21) (.t 22)⟩,[21,22],false,0,0,none,[]⟩,
 ⟨⟨some 24,false,none,iLoadN 2 (.t 23)⟩,[23],false,0,0,none,[]⟩,
 ⟨⟨some 25,false,none,iMov (.t 1)⟩,[1],false,0,0,none,[]⟩,
 ⟨⟨some 26,false,none,iMov (.t 6)⟩,[6],false,0,0,none,[]⟩,
 ⟨⟨some 27,false,none,iIaddr 2 (.t 25) (.t 26)⟩,[25,26],false,0,0,none,[]⟩,
 ⟨⟨some 28,false,none,iLoadN 2 (.t 27)⟩,[27],false,0,0,none,[]⟩,
 ⟨⟨some 29,false,none,iEq false true 2 [(0,.int),(1,.int)] (.t 24) (.t 28)⟩,[24,28],false,0,0,none,[]⟩,
 ⟨⟨some 5,true,none,iMov (.t 29)⟩,[29],false,0,0,none,[]⟩]))
 (cOps [⟨some 19,false,none,iMov (.t 6)⟩,
 ⟨some 20,false,none,iArith .add (.t 19) (.c (.int .i64 (.lit 1)))⟩,
 ⟨some 6,true,none,iMov (.t 20)⟩]))))))
 (cSeq (cOps [⟨some 30,false,none,iMov (.t 5)⟩,
 ⟨some 4,true,none,iMov (.t 30)⟩])
 cRet)))),[.t 4]⟩
noncomputable def Tryd.kp31:List Nat:=[0,1,2,3,4,8]
noncomputable def Tryd.cf31:CF:=⟨1,(cSeq (cOps [⟨some 1,true,none,iBox 27 (.t 0)⟩,
 ⟨some 2,true,none,iAlloc 69 [(.int .i64 (.lit 0)),(.int .i64 (.lit 0)),(.int .i64 (.lit 0)),(.int .i64 (.lit 0)),(.int .i64 (.lit 0)),(.int .i64 (.lit 0)),(.int .i64 (.lit 0)),(.int .i64 (.lit 0)),(.int .i64 (.lit 0)),(.int .i64 (.lit 0)),(.int .i64 (.lit 0)),(.int .i64 (.lit 0)),(.int .i64 (.lit 0)),(.int .i64 (.lit 0)),(.int .i64 (.lit 0)),(.int .i64 (.lit 0)),(.int .i64 (.lit 0)),(.int .i64 (.lit 0)),(.int .i64 (.lit 0)),(.int .i64 (.lit 0)),(.int .i64 (.lit 0)),(.int .i64 (.lit 0)),.nilslice,(.int .i64 (.lit 0)),(.int .i64 (.lit 0)),(.int .i64 (.lit 0)),(.int .i64 (.lit 0)),(.int .i64 (.lit 0)),(.int .i64 (.lit 0)),(.int .i64 (.lit 0)),(.int .i64 (.lit 0)),(.int .i64 (.lit 0)),(.int .i64 (.lit 0)),(.int .i64 (.lit 0)),(.int .i64 (.lit 0)),(.int .i64 (.lit 0)),(.int .i64 (.lit 0)),(.int .i64 (.lit 0)),(.int .i64 (.lit 0))]⟩,
 ⟨some 3,true,none,iMov (.c (.int .i64 (.lit 0)))⟩])
 (cSeq (cSeq (cOps [⟨some 5,false,none,iLoadN 23 (.t 1)⟩,
 ⟨some 6,false,none,iCall (.c (.func (.func 23) [] [])) [(.t 5)]⟩,
 ⟨some 4,true,none,iMov (.t 6)⟩])
 (cSeq (cOps [⟨some 7,false,none,iMov (.t 4)⟩,
 ⟨some 8,true,none,iCmp .neq (.t 7) (.c (.int .i64 (.lit 0)))⟩])
 (cCond (.t 8) (cSeq (cOps [⟨some 9,false,none,iBuild [(.int .i64 (.lit 0)),(.int .i64 (.lit 0)),(.int .i64 (.lit 0)),(.int .i64 (.lit 0)),(.int .i64 (.lit 0)),(.int .i64 (.lit 0)),(.int .i64 (.lit 0)),(.int .i64 (.lit 0)),(.int .i64 (.lit 0)),(.int .i64 (.lit 0)),(.int .i64 (.lit 0)),(.int .i64 (.lit 0)),(.int .i64 (.lit 0)),(.int .i64 (.lit 0)),(.int .i64 (.lit 0)),(.int .i64 (.lit 0)),(.int .i64 (.lit 0)),(.int .i64 (.lit 0)),(.int .i64 (.lit 0)),(.int .i64 (.lit 0)),(.int .i64 (.lit 0)),(.int .i64 (.lit 0)),.nilslice,(.int .i64 (.lit 0)),(.int .i64 (.lit 0)),(.int .i64 (.lit 0)),(.int .i64 (.lit 0)),(.int .i64 (.lit 0)),(.int .i64 (.lit 0)),(.int .i64 (.lit 0)),(.int .i64 (.lit 0)),(.int .i64 (.lit 0)),(.int .i64 (.lit 0)),(.int .i64 (.lit 0)),(.int .i64 (.lit 0)),(.int .i64 (.lit 0)),(.int .i64 (.lit 0)),(.int .i64 (.lit 0)),(.int .i64 (.lit 0))] []⟩,
 ⟨some 10,false,none,iMov (.t 4)⟩,
 ⟨none,false,none,iStore 39 (.t 2) (.t 9)⟩,
 ⟨some 3,true,none,iMov (.t 10)⟩])
 cRet) cSkip)))
 (cSeq (cOps [⟨some 11,false,none,iLoadN 23 (.t 1)⟩,
 ⟨some 12,false,none,iCall (.c (.func (.func 47) [] [])) [(.t 11)]⟩,
 ⟨none,false,none,iStore 39 (.t 2) (.t 12)⟩,
 ⟨some 3,true,none,iMov (.c (.int .i64 (.lit 0)))⟩])
 cRet))),[.cell 2 true 39,.t 3]⟩
noncomputable def Tryd.kp32:List Nat:=[0,1,2,4]
noncomputable def Tryd.cf32:CF:=⟨2,(cSeq (cOps [⟨some 2,true,none,iBox 69 (.t 0)⟩,
 ⟨some 4,true,none,iMov (.c (.bool (.lit false)))⟩])
 (cSeq (cOps [⟨some 5,false,none,iMov (.t 1)⟩,
 ⟨some 6,false,none,iCmp .geq (.t 5) (.c (.int .i64 (.lit 0)))⟩,
 ⟨some 7,false,none,iMov (.t 6)⟩,
 ⟨some 8,false,some (7,true),iMov (.t 1)⟩,
 ⟨some 9,false,some (7,true),iFaddr 0 (.t 2)⟩,
 ⟨some 10,false,some (7,true),iFaddr 22 (.t 9)⟩,
 ⟨some 11,false,some (7,true),iLoad (.t 10)⟩,
 ⟨some 12,false,some (7,true),iLenS (.t 11)⟩,
 ⟨some 13,false,some (7,true),iCmp .lss (.t 8) (.t 12)⟩,
 ⟨some 14,false,none,iPick (.t 7) (.t 13) (.c (.bool (.lit false)))⟩,
 ⟨some 4,true,none,iMov (.t 14)⟩])
 cRet)),[.t 4]⟩
noncomputable def Tryd.kp33:List Nat:=[0,1,3,4]
noncomputable def Tryd.cf33:CF:=⟨2,(cSeq (cOps [⟨some 3,true,none,iBox 72 (.t 1)⟩,
 ⟨some 4,true,none,iMov (.c (.int .i64 (.lit 0)))⟩])
 (cSeq (cOps [⟨some 5,false,none,iMov (.t 0)⟩,
 ⟨some 6,false,none,iArith .add (.t 5) (.c (.int .i64 (.lit 1)))⟩,
 ⟨some 7,false,none,iFunc (.func 48) [] [(.t 3)]⟩,
 ⟨some 8,false,none,iCall (.c (.func (.func 37) [] [])) [(.t 6),(.t 7)]⟩,
 ⟨some 9,false,none,iArith .sub (.t 8) (.c (.int .i64 (.lit 1)))⟩,
 ⟨some 4,true,none,iMov (.t 9)⟩])
 cRet)),[.t 4]⟩
noncomputable def Tryd.kp34:List Nat:=[0,1,2,4,5]
noncomputable def Tryd.cf34:CF:=⟨2,(cSeq (cOps [⟨some 2,true,none,iBox 75 (.t 0)⟩,
 ⟨some 4,true,none,iMov (.c (.bool (.lit false)))⟩])
 (cSeq (cOps [⟨some 6,false,none,iFaddr 0 (.t 2)⟩,
 ⟨some 7,false,none,iFaddr 0 (.t 6)⟩,
 ⟨some 8,false,none,iLoadN 23 (.t 7)⟩,
 ⟨some 5,true,none,iAlloc 27 [(.int .i64 (.lit 0)),(.int .i64 (.lit 0)),(.int .i64 (.lit 0)),(.int .i64 (.lit 0)),(.int .i64 (.lit 0)),(.int .i64 (.lit 0)),(.int .i64 (.lit 0)),(.int .i64 (.lit 0)),(.int .i64 (.lit 0)),(.int .i64 (.lit 0)),(.int .i64 (.lit 0)),(.int .i64 (.lit 0)),(.int .i64 (.lit 0)),(.int .i64 (.lit 0)),(.int .i64 (.lit 0)),(.int .i64 (.lit 0)),(.int .i64 (.lit 0)),(.int .i64 (.lit 0)),(.int .i64 (.lit 0)),(.int .i64 (.lit 0)),(.int .i64 (.lit 0)),(.int .i64 (.lit 0)),.nilslice]⟩,
 ⟨none,false,none,iStore 23 (.t 5) (.t 8)⟩])
 (cSeq (cOps [⟨some 9,false,none,iFaddr 22 (.t 5)⟩,
 ⟨some 10,false,none,iLoad (.t 9)⟩,
 ⟨some 11,false,none,iCall (.c (.func (.func 49) [] [])) [(.t 10)]⟩,
 ⟨some 12,false,none,iFaddr 22 (.t 5)⟩,
 ⟨none,false,none,iStore 1 (.t 12) (.t 11)⟩])
 (cSeq (cOps [⟨some 13,false,none,iFaddr 22 (.t 5)⟩,
 ⟨some 14,false,none,iLoad (.t 13)⟩,
 ⟨some 15,false,none,iFaddr 39 (.t 2)⟩,
 ⟨some 16,false,none,iLoad (.t 15)⟩,
 ⟨some 17,false,none,iIaddr 4 (.t 14) (.t 16)⟩,
 ⟨some 18,false,none,iFaddr 0 (.t 17)⟩,
 ⟨some 19,false,none,iFaddr 1 (.t 18)⟩,
 ⟨some 20,false,none,iLoad (.t 19)⟩,
 ⟨some 21,false,none,iMov (.t 1)⟩,
 ⟨some 22,false,none,iArith .add (.t 20) (.t 21)⟩,
 ⟨some 23,false,none,iIaddr 4 (.t 14) (.t 16)⟩,
 ⟨some 24,false,none,iFaddr 0 (.t 23)⟩,
 ⟨some 25,false,none,iFaddr 1 (.t 24)⟩,
 ⟨none,false,none,iStore 1 (.t 25) (.t 22)⟩])
 (cSeq (cOps [⟨some 26,false,none,iLoadN 23 (.t 5)⟩,
 ⟨some 27,false,none,iCall (.c (.func (.func 47) [] [])) [(.t 26)]⟩,
 ⟨some 28,false,none,iCall (.c (.func (.func 50) [] [])) [(.t 27)]⟩,
 ⟨some 4,true,none,iMov (.t 28)⟩])
 cRet))))),[.t 4]⟩
noncomputable def Tryd.kp35:List Nat:=[0,1,2,4,5]
noncomputable def Tryd.cf35:CF:=⟨2,(cSeq (cOps [⟨some 2,true,none,iBox 69 (.t 0)⟩,
 ⟨some 4,true,none,iMov (.c (.bool (.lit false)))⟩])
 (cSeq (cOps [⟨some 6,false,none,iFaddr 0 (.t 2)⟩,
 ⟨some 7,false,none,iLoadN 23 (.t 6)⟩,
 ⟨some 5,true,none,iAlloc 27 [(.int .i64 (.lit 0)),(.int .i64 (.lit 0)),(.int .i64 (.lit 0)),(.int .i64 (.lit 0)),(.int .i64 (.lit 0)),(.int .i64 (.lit 0)),(.int .i64 (.lit 0)),(.int .i64 (.lit 0)),(.int .i64 (.lit 0)),(.int .i64 (.lit 0)),(.int .i64 (.lit 0)),(.int .i64 (.lit 0)),(.int .i64 (.lit 0)),(.int .i64 (.lit 0)),(.int .i64 (.lit 0)),(.int .i64 (.lit 0)),(.int .i64 (.lit 0)),(.int .i64 (.lit 0)),(.int .i64 (.lit 0)),(.int .i64 (.lit 0)),(.int .i64 (.lit 0)),(.int .i64 (.lit 0)),.nilslice]⟩,
 ⟨none,false,none,iStore 23 (.t 5) (.t 7)⟩])
 (cSeq (cOps [⟨some 8,false,none,iFaddr 22 (.t 5)⟩,
 ⟨some 9,false,none,iLoad (.t 8)⟩,
 ⟨some 10,false,none,iMov (.t 1)⟩,
 ⟨some 11,false,none,iMov (.t 1)⟩,
 ⟨some 12,false,none,iSlice 4 (.t 9) none (some (.t 10)) (some (.t 11))⟩,
 ⟨some 13,false,none,iFaddr 22 (.t 5)⟩,
 ⟨none,false,none,iStore 1 (.t 13) (.t 12)⟩])
 (cSeq (cOps [⟨some 14,false,none,iLoadN 23 (.t 5)⟩,
 ⟨some 15,false,none,iCall (.c (.func (.func 47) [] [])) [(.t 14)]⟩,
 ⟨some 16,false,none,iCall (.c (.func (.func 50) [] [])) [(.t 15)]⟩,
 ⟨some 4,true,none,iMov (.t 16)⟩])
 cRet)))),[.t 4]⟩
noncomputable def Tryd.kp36:List Nat:=[0,1,2,3,4,6,7,8,9,23,30,31,32]
noncomputable def Tryd.cf36:CF:=⟨1,(cSeq (cOps [⟨some 1,true,none,iBox 69 (.t 0)⟩,
 ⟨some 2,true,none,iMov (.c .nilslice)⟩,
 ⟨some 3,true,none,iMov (.c (.int .i64 (.lit 0)))⟩])
 (cSeq (cOps [⟨some 11,false,none,iCall (.c (.func (.func 51) [] [])) []⟩,
 ⟨some 10,false,none,iMov (.t 11)⟩,
 ⟨some 12,false,none,iExtract 0 (.t 10)⟩,
 ⟨some 13,false,none,iExtract 1 (.t 10)⟩,
 ⟨some 4,true,none,iAlloc 88 [.nilFunc,.nilFunc]⟩,
 ⟨some 5,false,none,iAlloc 88 [.nilFunc,.nilFunc]⟩,
 ⟨none,false,none,iStore 2 (.t 4) (.t 12)⟩,
 ⟨none,false,none,iStore 2 (.t 5) (.t 13)⟩])
 (cSeq (cOps [⟨some 14,false,none,iLoadN 39 (.t 1)⟩,
 ⟨some 15,false,none,iCall (.c (.func (.func 52) [] [])) [(.t 14)]⟩,
 ⟨some 6,true,none,iMov (.t 15)⟩])
 (cSeq (cOps [⟨some 16,false,none,iLoadN 39 (.t 1)⟩,
 ⟨some 17,false,none,iLoadN 2 (.t 4)⟩,
 ⟨some 18,false,none,iCall (.c (.func (.func 53) [] [])) [(.t 16),(.t 17)]⟩,
 ⟨some 7,true,none,iAlloc 95 [(.int .i64 (.lit 0)),(.int .i64 (.lit 0)),(.int .i64 (.lit 0))]⟩,
 ⟨none,false,none,iStore 3 (.t 7) (.t 18)⟩])
 (cSeq (cSeq (cOps [⟨some 19,false,none,iMov (.t 6)⟩,
 ⟨some 20,false,none,iLoadN 3 (.t 7)⟩,
 ⟨some 21,false,none,iLookup (.agg [(.bool (.lit false)),(.int .i64 (.lit 0)),(.int .i64 (.lit 0)),(.int .i64 (.lit 0)),(.int .i64 (.lit 0)),(.int .i64 (.lit 0)),(.int .i64 (.lit 0)),(.int .i64 (.lit 0)),(.int .i64 (.lit 0))]) true 3 [(0,.int),(1,.int),(2,.int)] false (.t 19) (.t 20)⟩,
 ⟨some 22,false,none,iField false 0 1 (.t 21)⟩,
 ⟨some 23,true,none,iNot (.t 22)⟩])
 (cCond (.t 23) (cSeq (cOps [⟨some 2,true,none,iMov (.c .nilslice)⟩,
 ⟨some 3,true,none,iMov (.c (.int .i64 (.lit 4)))⟩])
 cRet) cSkip))
 (cSeq (cOps [⟨some 24,false,none,iFaddr 0 (.t 1)⟩,
 ⟨some 25,false,none,iFaddr 22 (.t 24)⟩,
 ⟨some 26,false,none,iLoad (.t 25)⟩,
 ⟨some 27,false,none,iLenS (.t 26)⟩,
 ⟨some 28,false,none,iMkslice 54 [(.int .i64 (.lit 0)),(.int .i64 (.lit 0))] 16 (.t 27) (.t 27)⟩,
 ⟨some 8,true,none,iMov (.t 28)⟩])
 (cSeq (cSeq (cOps [⟨some 29,false,none,iMov (.t 8)⟩,
 ⟨some 30,true,none,iLenS (.t 29)⟩,
 ⟨some 31,true,none,iMov (.c (.int .i64 (.lit 0)))⟩])
 (cBlock 0 (cLoop (cSeq (cOps [⟨some 32,true,none,iCmp .lss (.t 31) (.t 30)⟩])
 (cSeq (cCond (.t 32) cSkip (cExit 0))
 (cSeq (cBlock 1 (cSeq (cOps [⟨some 33,false,none,iMov (.t 31)⟩,
 ⟨some 9,true,none,iMov (.t 33)⟩])
 (cSeq (cOps [⟨some 34,false,none,iMov (.t 8)⟩,
 ⟨some 35,false,none,iMov (.t 9)⟩,
 ⟨some 36,false,none,iMov (.t 6)⟩,
 ⟨some 37,false,none,iLoadN 3 (.t 7)⟩,
 ⟨some 38,false,none,iLookup (.agg [(.bool (.lit false)),(.int .i64 (.lit 0)),(.int .i64 (.lit 0)),(.int .i64 (.lit 0)),(.int .i64 (.lit 0)),(.int .i64 (.lit 0)),(.int .i64 (.lit 0)),(.int .i64 (.lit 0)),(.int .i64 (.lit 0))]) true 3 [(0,.int),(1,.int),(2,.int)] false (.t 36) (.t 37)⟩,
 ⟨some 39,false,none,iField true 2 7 (.t 38)⟩,
 ⟨some 40,false,none,iField true 0 2 (.t 39)⟩,
 ⟨some 41,false,none,iIaddr 2 (.t 34) (.t 35)⟩,
 ⟨none,false,none,iStore 2 (.t 41) (.t 40)⟩])
 (cOps [⟨some 42,false,none,iMov (.t 6)⟩,
 ⟨some 43,false,none,iLoadN 3 (.t 7)⟩,
 ⟨some 44,false,none,iLookup (.agg [(.bool (.lit false)),(.int .i64 (.lit 0)),(.int .i64 (.lit 0)),(.int .i64 (.lit 0)),(.int .i64 (.lit 0)),(.int .i64 (.lit 0)),(.int .i64 (.lit 0)),(.int .i64 (.lit 0)),(.int .i64 (.lit 0))]) true 3 [(0,.int),(1,.int),(2,.int)] false (.t 42) (.t 43)⟩,
 ⟨some 45,false,none,iField true 2 7 (.t 44)⟩,
 ⟨some 46,false,none,iField true 2 3 (.t 45)⟩,
 ⟨none,false,none,iStore 3 (.t 7) (.t 46)⟩]))))
 (cOps [⟨some 47,false,none,iArith .add (.t 31) (.c (.int .i64 (.lit 1)))⟩,
 ⟨some 31,true,none,iMov (.t 47)⟩])))))))
 (cSeq (cOps [⟨some 48,false,none,iMov (.t 8)⟩,
 ⟨some 2,true,none,iMov (.t 48)⟩,
 ⟨some 3,true,none,iMov (.c (.int .i64 (.lit 0)))⟩])
 cRet)))))))),[.t 2,.t 3]⟩
noncomputable def Tryd.kp37:List Nat:=[0,1,4,5,6,7,11,21]
noncomputable def Tryd.cf37:CF:=⟨2,(cSeq (cOps [⟨some 4,true,none,iMov (.c (.int .i64 (.lit 0)))⟩])
 (cSeq (cOps [⟨some 8,false,none,iMov (.t 0)⟩,
 ⟨some 5,true,none,iMov (.c (.int .i64 (.lit 0)))⟩,
 ⟨some 6,true,none,iMov (.t 8)⟩])
 (cSeq (cBlock 0 (cLoop (cSeq (cSeq (cOps [⟨some 9,false,none,iMov (.t 5)⟩,
 ⟨some 10,false,none,iMov (.t 6)⟩,
 ⟨some 11,true,none,iCmp .lss (.t 9) (.t 10)⟩])
 (cCond (.t 11) cSkip (cExit 0)))
 (cBlock 1 (cSeq (cOps [⟨some 12,false,none,iMov (.t 5)⟩,
 ⟨some 13,false,none,iMov (.t 6)⟩,
 ⟨some 14,false,none,iArith .add (.t 12) (.t 13)⟩,
 ⟨some 15,false,none,iConv .u64 (.t 14)⟩,
 ⟨some 16,false,none,iShift .shr (.t 15) (.c (.int .u64 (.lit 1)))⟩,
 ⟨some 17,false,none,iConv .i64 (.t 16)⟩,
 ⟨some 7,true,none,iMov (.t 17)⟩])
 (cSeq (cOps [⟨some 18,false,none,iMov (.t 1)⟩,
 ⟨some 19,false,none,iMov (.t 7)⟩,
 ⟨some 20,false,none,iCall (.t 18) [(.t 19)]⟩,
 ⟨some 21,true,none,iNot (.t 20)⟩])
 (cCond (.t 21) (cOps [⟨some 22,false,none,iMov (.t 7)⟩,
 ⟨some 23,false,none,iArith .add (.t 22) (.c (.int .i64 (.lit 1)))⟩,
 ⟨some 5,true,none,iMov (.t 23)⟩]) (cOps [⟨some 24,false,none,iMov (.t 7)⟩,
 ⟨some 6,true,none,iMov (.t 24)⟩]))))))))
 (cSeq (cOps [⟨some 25,false,none,iMov (.t 5)⟩,
 ⟨some 4,true,none,iMov (.t 25)⟩])
 cRet)))),[.t 4]⟩
noncomputable def Tryd.kp38:List Nat:=[0,1,2,4,5]
noncomputable def Tryd.cf38:CF:=⟨2,(cSeq (cOps [⟨some 2,true,none,iBox 69 (.t 0)⟩,
 ⟨some 4,true,none,iMov (.c (.bool (.lit false)))⟩])
 (cSeq (cOps [⟨some 6,false,none,iFaddr 0 (.t 2)⟩,
 ⟨some 7,false,none,iLoadN 23 (.t 6)⟩,
 ⟨some 5,true,none,iAlloc 27 [(.int .i64 (.lit 0)),(.int .i64 (.lit 0)),(.int .i64 (.lit 0)),(.int .i64 (.lit 0)),(.int .i64 (.lit 0)),(.int .i64 (.lit 0)),(.int .i64 (.lit 0)),(.int .i64 (.lit 0)),(.int .i64 (.lit 0)),(.int .i64 (.lit 0)),(.int .i64 (.lit 0)),(.int .i64 (.lit 0)),(.int .i64 (.lit 0)),(.int .i64 (.lit 0)),(.int .i64 (.lit 0)),(.int .i64 (.lit 0)),(.int .i64 (.lit 0)),(.int .i64 (.lit 0)),(.int .i64 (.lit 0)),(.int .i64 (.lit 0)),(.int .i64 (.lit 0)),(.int .i64 (.lit 0)),.nilslice]⟩,
 ⟨none,false,none,iStore 23 (.t 5) (.t 7)⟩])
 (cSeq (cOps [⟨some 8,false,none,iMov (.t 1)⟩,
 ⟨some 9,false,none,iMov (.t 1)⟩,
 ⟨some 10,false,none,iBuild [(.int .i64 (.lit 0)),(.int .i64 (.lit 0))] [(0,1,(.t 8)),(1,1,(.t 9))]⟩,
 ⟨some 11,false,none,iFaddr 0 (.t 5)⟩,
 ⟨none,false,none,iStore 2 (.t 11) (.t 10)⟩])
 (cSeq (cOps [⟨some 12,false,none,iLoadN 23 (.t 5)⟩,
 ⟨some 13,false,none,iCall (.c (.func (.func 47) [] [])) [(.t 12)]⟩,
 ⟨some 14,false,none,iCall (.c (.func (.func 50) [] [])) [(.t 13)]⟩,
 ⟨some 4,true,none,iMov (.t 14)⟩])
 cRet)))),[.t 4]⟩
noncomputable def Tryd.kp39:List Nat:=[0,1,4,7]
noncomputable def Tryd.cf39:CF:=⟨2,(cSeq (cOps [⟨some 4,true,none,iMov (.c (.int .i64 (.lit 0)))⟩])
 (cSeq (cSeq (cOps [⟨some 5,false,none,iMov (.t 0)⟩,
 ⟨some 6,false,none,iLenS (.t 5)⟩,
 ⟨some 7,true,none,iCmp .eql (.t 6) (.c (.int .i64 (.lit 0)))⟩])
 (cCond (.t 7) (cSeq (cOps [⟨some 4,true,none,iMov (.c (.int .i64 (.lit 0)))⟩])
 cRet) cSkip))
 (cSeq (cOps [⟨some 8,false,none,iMov (.t 0)⟩,
 ⟨some 9,false,none,iMov (.t 1)⟩,
 ⟨some 10,false,none,iMov (.t 0)⟩,
 ⟨some 11,false,none,iLenS (.t 10)⟩,
 ⟨some 12,false,none,iCall (.c (.func (.func 9) [] [])) [(.t 9),(.t 11)]⟩,
 ⟨some 13,false,none,iIaddr 1 (.t 8) (.t 12)⟩,
 ⟨some 14,false,none,iLoad (.t 13)⟩,
 ⟨some 4,true,none,iMov (.t 14)⟩])
 cRet))),[.t 4]⟩
noncomputable def Tryd.kp40:List Nat:=[0,1,2,4,5,6,7,14,15,16,17,18,51]
noncomputable def Tryd.cf40:CF:=⟨2,(cSeq (cOps [⟨some 2,true,none,iBox 69 (.t 0)⟩,
 ⟨some 4,true,none,iMov (.c (.bool (.lit false)))⟩])
 (cSeq (cSeq (cOps [⟨some 8,false,none,iMov (.t 1)⟩,
 ⟨some 9,false,none,iLenS (.t 8)⟩,
 ⟨some 10,false,none,iFaddr 0 (.t 2)⟩,
 ⟨some 11,false,none,iFaddr 22 (.t 10)⟩,
 ⟨some 12,false,none,iLoad (.t 11)⟩,
 ⟨some 13,false,none,iLenS (.t 12)⟩,
 ⟨some 14,true,none,iCmp .neq (.t 9) (.t 13)⟩])
 (cCond (.t 14) (cSeq (cOps [⟨some 4,true,none,iMov (.c (.bool (.lit false)))⟩])
 cRet) cSkip))
 (cSeq (cSeq (cOps [⟨some 15,true,none,iMov (.t 1)⟩,
 ⟨some 16,true,none,iLenS (.t 15)⟩,
 ⟨some 17,true,none,iMov (.c (.int .i64 (.lit 0)))⟩])
 (cBlock 0 (cLoop (cSeq (cOps [⟨some 18,true,none,iCmp .lss (.t 17) (.t 16)⟩])
 (cSeq (cCond (.t 18) cSkip (cExit 0))
 (cSeq (cBlock 1 (cSeq (cOps [⟨some 19,false,none,iMov (.t 17)⟩,
 ⟨some 20,false,none,iIaddr 2 (.t 15) (.t 17)⟩,
 ⟨some 21,false,none,iLoadN 2 (.t 20)⟩,
 ⟨some 6,true,none,iAlloc 54 [(.int .i64 (.lit 0)),(.int .i64 (.lit 0))]⟩,
 ⟨some 5,true,none,iMov (.t 19)⟩,
 ⟨none,false,none,iStore 2 (.t 6) (.t 21)⟩])
 (cSeq (cOps [⟨some 22,false,none,iFaddr 0 (.t 2)⟩,
 ⟨some 23,false,none,iFaddr 22 (.t 22)⟩,
 ⟨some 24,false,none,iLoad (.t 23)⟩,
 ⟨some 25,false,none,iMov (.t 5)⟩,
 ⟨some 26,false,none,iIaddr 4 (.t 24) (.t 25)⟩,
 ⟨some 27,false,none,iFaddr 3 (.t 26)⟩,
 ⟨some 28,false,none,iLoad (.t 27)⟩,
 ⟨some 7,true,none,iMov (.t 28)⟩])
 (cSeq (cOps [⟨some 29,false,none,iFaddr 0 (.t 6)⟩,
 ⟨some 30,false,none,iLoad (.t 29)⟩,
 ⟨some 31,false,none,iCmp .lss (.t 30) (.c (.int .i64 (.lit 0)))⟩,
 ⟨some 32,false,none,iMov (.t 31)⟩,
 ⟨some 33,false,some (32,false),iFaddr 0 (.t 6)⟩,
 ⟨some 34,false,some (32,false),iLoad (.t 33)⟩,
 ⟨some 35,false,some (32,false),iMov (.t 7)⟩,
 ⟨some 36,false,some (32,false),iCmp .gtr (.t 34) (.t 35)⟩,
 ⟨some 37,false,none,iPick (.t 32) (.c (.bool (.lit true))) (.t 36)⟩,
 ⟨some 38,false,none,iMov (.t 37)⟩,
 ⟨some 39,false,some (38,false),iFaddr 1 (.t 6)⟩,
 ⟨some 40,false,some (38,false),iLoad (.t 39)⟩,
 ⟨some 41,false,some (38,false),iCmp .lss (.t 40) (.c (.int .i64 (.lit 0)))⟩,
 ⟨some 42,false,none,iPick (.t 38) (.c (.bool (.lit true))) (.t 41)⟩,
 ⟨some 43,false,none,iMov (.t 42)⟩,
 ⟨some 44,false,some (43,false),iFaddr 1 (.t 6)⟩,
 ⟨some 45,false,some (43,false),iLoad (.t 44)⟩,
 ⟨some 46,false,some (43,false),iMov (.t 7)⟩,
 ⟨some 47,false,some (43,false),iFaddr 0 (.t 6)⟩,
 ⟨some 48,false,some (43,false),iLoad (.t 47)⟩,
 ⟨some 49,false,some (43,false),iArith .sub (.t 46) (.t 48)⟩,
 ⟨some 50,false,some (43,false),iCmp .gtr (.t 45) (.t 49)⟩,
 ⟨some 51,true,none,iPick (.t 43) (.c (.bool (.lit true))) (.t 50)⟩])
 (cCond (.t 51) (cSeq (cOps [⟨some 4,true,none,iMov (.c (.bool (.lit false)))⟩])
 cRet) cSkip)))))
 (cOps [⟨some 52,false,none,iArith .add (.t 17) (.c (.int .i64 (.lit 1)))⟩,
 ⟨some 17,true,none,iMov (.t 52)⟩])))))))
 (cSeq (cOps [⟨some 4,true,none,iMov (.c (.bool (.lit true)))⟩])
 cRet)))),[.t 4]⟩
noncomputable def Tryd.ra41017:C:=(cOps [⟨some 8,true,none,iAlloc 98 [(.int .i64 (.lit 0)),(.int .i64 (.lit 0)),(.int .i64 (.lit 0)),(.int .i64 (.lit 0)),(.int .i64 (.lit 0)),(.int .i64 (.lit 0)),(.int .i64 (.lit 0))]⟩,
 ⟨none,false,none,iStore 7 (.t 8) (.t 17)⟩])
noncomputable def Tryd.rb41017:C:=(cBlock 1 (cSeq (cOps [⟨some 18,false,none,iLoadN 39 (.t 2)⟩,
 ⟨some 19,false,none,iLoadN 7 (.t 8)⟩,
 ⟨some 20,true,none,iCall (.c (.func (.func 55) [] [])) [(.t 18),(.t 19)]⟩])
 (cCond (.t 20) (cSeq (cOps [⟨some 21,false,none,iFaddr 2 (.t 8)⟩,
 ⟨some 22,false,none,iFaddr 0 (.t 21)⟩,
 ⟨some 23,false,none,iLoad (.t 22)⟩,
 ⟨some 24,false,none,iArith .sub (.t 23) (.c (.int .i64 (.lit 1)))⟩,
 ⟨none,false,none,iStore 1 (.t 4) (.t 24)⟩,
 ⟨none,false,none,iStore 1 (.t 5) (.c (.int .i64 (.lit 0)))⟩])
 cRet) cSkip)))
noncomputable def Tryd.kp41:List Nat:=[0,1,2,4,5,6,8,16,17,20]
noncomputable def Tryd.cf41:CF:=⟨2,(cSeq (cOps [⟨some 2,true,none,iBox 69 (.t 0)⟩,
 ⟨some 4,true,none,iAlloc 3 [(.int .i64 (.lit 0))]⟩,
 ⟨some 5,true,none,iAlloc 32 [(.int .i64 (.lit 0))]⟩])
 (cSeq (cOps [⟨some 10,false,none,iCall (.c (.func (.func 51) [] [])) []⟩,
 ⟨some 9,false,none,iMov (.t 10)⟩,
 ⟨some 11,false,none,iExtract 0 (.t 9)⟩,
 ⟨some 12,false,none,iExtract 1 (.t 9)⟩,
 ⟨some 6,true,none,iAlloc 88 [.nilFunc,.nilFunc]⟩,
 ⟨some 7,false,none,iAlloc 88 [.nilFunc,.nilFunc]⟩,
 ⟨none,false,none,iStore 2 (.t 6) (.t 11)⟩,
 ⟨none,false,none,iStore 2 (.t 7) (.t 12)⟩])
 (cSeq (cSeq (cOps [⟨some 13,false,none,iLoadN 39 (.t 2)⟩,
 ⟨some 14,false,none,iMov (.t 1)⟩,
 ⟨some 15,false,none,iLoadN 2 (.t 6)⟩,
 ⟨some 16,true,none,iCall (.c (.func (.func 54) [] [])) [(.t 13),(.t 14),(.t 15)]⟩])
 (cBlock 0 (cRange (.t 16) [17] 41017)))
 (cSeq (cOps [⟨none,false,none,iStore 1 (.t 4) (.c (.int .i64 (.lit 0)))⟩,
 ⟨none,false,none,iStore 1 (.t 5) (.c (.int .i64 (.lit 4)))⟩])
 cRet)))),[.cell 4 false 1,.cell 5 false 1]⟩
noncomputable def Tryd.kp42:List Nat:=[0,1,2,3,4,18,19,20,28]
noncomputable def Tryd.cf42:CF:=⟨1,(cSeq (cOps [⟨some 1,true,none,iBox 27 (.t 0)⟩,
 ⟨some 2,true,none,iMov (.c (.bool (.lit false)))⟩])
 (cSeq (cSeq (cOps [⟨some 5,false,none,iFaddr 4 (.t 1)⟩,
 ⟨some 6,false,none,iLoad (.t 5)⟩,
 ⟨some 7,false,none,iFaddr 5 (.t 1)⟩,
 ⟨some 8,false,none,iLoad (.t 7)⟩,
 ⟨some 9,false,none,iFaddr 6 (.t 1)⟩,
 ⟨some 10,false,none,iLoad (.t 9)⟩,
 ⟨some 11,false,none,iFaddr 7 (.t 1)⟩,
 ⟨some 12,false,none,iLoad (.t 11)⟩,
 ⟨some 13,false,none,iFaddr 21 (.t 1)⟩,
 ⟨some 14,false,none,iLoad (.t 13)⟩,
 ⟨some 15,false,none,iFaddr 22 (.t 1)⟩,
 ⟨some 16,false,none,iLoad (.t 15)⟩,
 ⟨some 17,false,none,iLenS (.t 16)⟩,
 ⟨some 18,true,none,iBuild [(.int .i64 (.lit 0)),(.int .i64 (.lit 0)),(.int .i64 (.lit 0)),(.int .i64 (.lit 0)),(.int .i64 (.lit 0)),(.int .i64 (.lit 0))] [(0,1,(.t 6)),(1,1,(.t 8)),(2,1,(.t 10)),(3,1,(.t 12)),(4,1,(.t 14)),(5,1,(.t 17))]⟩,
 ⟨some 19,true,none,iMov (.c (.int .i64 (.lit 0)))⟩])
 (cBlock 0 (cLoop (cSeq (cOps [⟨some 20,true,none,iCmp .lss (.t 19) (.c (.int .i64 (.lit 6)))⟩])
 (cSeq (cCond (.t 20) cSkip (cExit 0))
 (cSeq (cBlock 1 (cSeq (cOps [⟨some 21,false,none,iMov (.t 19)⟩,
 ⟨some 22,false,none,iIndex false 1 6 (.t 18) (.t 19)⟩,
 ⟨some 3,true,none,iMov (.t 21)⟩,
 ⟨some 4,true,none,iMov (.t 22)⟩])
 (cSeq (cOps [⟨some 23,false,none,iMov (.t 4)⟩,
 ⟨some 24,false,none,iMov (.t 3)⟩,
 ⟨some 25,false,none,iIaddrA 2 6 (.c (.ptr 0 0)) (.t 24)⟩,
 ⟨some 26,false,none,iLoadN 2 (.t 25)⟩,
 ⟨some 27,false,none,iCall (.c (.func (.func 43) [] [])) [(.t 23),(.t 26)]⟩,
 ⟨some 28,true,none,iNot (.t 27)⟩])
 (cCond (.t 28) (cSeq (cOps [⟨some 2,true,none,iMov (.c (.bool (.lit false)))⟩])
 cRet) cSkip))))
 (cOps [⟨some 29,false,none,iArith .add (.t 19) (.c (.int .i64 (.lit 1)))⟩,
 ⟨some 19,true,none,iMov (.t 29)⟩])))))))
 (cSeq (cOps [⟨some 30,false,none,iFaddr 4 (.t 1)⟩,
 ⟨some 31,false,none,iLoad (.t 30)⟩,
 ⟨some 32,false,none,iFaddr 0 (.t 1)⟩,
 ⟨some 33,false,none,iLoadN 2 (.t 32)⟩,
 ⟨some 34,false,none,iBslice 23 [(.int .i64 (.lit 0)),(.int .i64 (.lit 0))] 1 [(0,2,(.t 33))]⟩,
 ⟨some 35,false,none,iCall (.c (.func (.func 56) [] [])) [(.t 31),(.t 34)]⟩,
 ⟨some 36,false,none,iMov (.t 35)⟩,
 ⟨some 37,false,some (36,true),iFaddr 5 (.t 1)⟩,
 ⟨some 38,false,some (36,true),iLoad (.t 37)⟩,
 ⟨some 39,false,some (36,true),iFaddr 2 (.t 1)⟩,
 ⟨some 40,false,some (36,true),iLoadN 2 (.t 39)⟩,
 ⟨some 41,false,some (36,true),iBslice 23 [(.int .i64 (.lit 0)),(.int .i64 (.lit 0))] 1 [(0,2,(.t 40))]⟩,
 ⟨some 42,false,some (36,true),iCall (.c (.func (.func 56) [] [])) [(.t 38),(.t 41)]⟩,
 ⟨some 43,false,none,iPick (.t 36) (.t 42) (.c (.bool (.lit false)))⟩,
 ⟨some 44,false,none,iMov (.t 43)⟩,
 ⟨some 45,false,some (44,true),iFaddr 8 (.t 1)⟩,
 ⟨some 46,false,some (44,true),iSliceA 2 2 (.t 45) none none none⟩,
 ⟨some 47,false,some (44,true),iCall (.c (.func (.func 56) [] [])) [(.c (.int .i64 (.lit 3))),(.t 46)]⟩,
 ⟨some 48,false,none,iPick (.t 44) (.t 47) (.c (.bool (.lit false)))⟩,
 ⟨some 49,false,none,iMov (.t 48)⟩,
 ⟨some 50,false,some (49,true),iFaddr 12 (.t 1)⟩,
 ⟨some 51,false,some (49,true),iSliceA 2 2 (.t 50) none none none⟩,
 ⟨some 52,false,some (49,true),iCall (.c (.func (.func 56) [] [])) [(.c (.int .i64 (.lit 3))),(.t 51)]⟩,
 ⟨some 53,false,none,iPick (.t 49) (.t 52) (.c (.bool (.lit false)))⟩,
 ⟨some 54,false,none,iMov (.t 53)⟩,
 ⟨some 55,false,some (54,true),iLoadN 23 (.t 1)⟩,
 ⟨some 56,false,some (54,true),iCall (.c (.func (.func 57) [] [])) [(.t 55)]⟩,
 ⟨some 57,false,none,iPick (.t 54) (.t 56) (.c (.bool (.lit false)))⟩,
 ⟨some 58,false,none,iMov (.t 57)⟩,
 ⟨some 59,false,some (58,true),iFaddr 20 (.t 1)⟩,
 ⟨some 60,false,some (58,true),iLoad (.t 59)⟩,
 ⟨some 61,false,some (58,true),iFaddr 5 (.t 1)⟩,
 ⟨some 62,false,some (58,true),iLoad (.t 61)⟩,
 ⟨some 63,false,some (58,true),iBuild [(.int .i64 (.lit 0)),(.int .i64 (.lit 0))] [(0,1,(.c (.int .i64 (.lit 0)))),(1,1,(.t 62))]⟩,
 ⟨some 64,false,some (58,true),iCall (.c (.func (.func 43) [] [])) [(.t 60),(.t 63)]⟩,
 ⟨some 65,false,none,iPick (.t 58) (.t 64) (.c (.bool (.lit false)))⟩,
 ⟨some 66,false,none,iMov (.t 65)⟩,
 ⟨some 67,false,some (66,true),iFaddr 22 (.t 1)⟩,
 ⟨some 68,false,some (66,true),iLoad (.t 67)⟩,
 ⟨some 69,false,some (66,true),iCall (.c (.func (.func 58) [] [])) [(.t 68)]⟩,
 ⟨some 70,false,none,iPick (.t 66) (.t 69) (.c (.bool (.lit false)))⟩,
 ⟨some 2,true,none,iMov (.t 70)⟩])
 cRet))),[.t 2]⟩
noncomputable def Tryd.kp43:List Nat:=[0,1,3,4]
noncomputable def Tryd.cf43:CF:=⟨2,(cSeq (cOps [⟨some 3,true,none,iBox 23 (.t 1)⟩,
 ⟨some 4,true,none,iMov (.c (.bool (.lit false)))⟩])
 (cSeq (cOps [⟨some 5,false,none,iFaddr 0 (.t 3)⟩,
 ⟨some 6,false,none,iLoad (.t 5)⟩,
 ⟨some 7,false,none,iMov (.t 0)⟩,
 ⟨some 8,false,none,iCmp .leq (.t 6) (.t 7)⟩,
 ⟨some 9,false,none,iMov (.t 8)⟩,
 ⟨some 10,false,some (9,true),iMov (.t 0)⟩,
 ⟨some 11,false,some (9,true),iFaddr 1 (.t 3)⟩,
 ⟨some 12,false,some (9,true),iLoad (.t 11)⟩,
 ⟨some 13,false,some (9,true),iCmp .leq (.t 10) (.t 12)⟩,
 ⟨some 14,false,none,iPick (.t 9) (.t 13) (.c (.bool (.lit false)))⟩,
 ⟨some 4,true,none,iMov (.t 14)⟩])
 cRet)),[.t 4]⟩
noncomputable def Tryd.kp44:List Nat:=[0,1,2,4,9]
noncomputable def Tryd.cf44:CF:=⟨2,(cSeq (cOps [⟨some 2,true,none,iBox 69 (.t 0)⟩,
 ⟨some 4,true,none,iAlloc 23 [(.int .i64 (.lit 0)),(.int .i64 (.lit 0))]⟩])
 (cSeq (cSeq (cOps [⟨some 5,false,none,iMov (.t 1)⟩,
 ⟨some 6,false,none,iFaddr 0 (.t 2)⟩,
 ⟨some 7,false,none,iFaddr 20 (.t 6)⟩,
 ⟨some 8,false,none,iLoad (.t 7)⟩,
 ⟨some 9,true,none,iCmp .lss (.t 5) (.t 8)⟩])
 (cCond (.t 9) (cSeq (cOps [⟨some 10,false,none,iFaddr 0 (.t 2)⟩,
 ⟨some 11,false,none,iFaddr 18 (.t 10)⟩,
 ⟨some 12,false,none,iLoadN 2 (.t 11)⟩,
 ⟨none,false,none,iStore 2 (.t 4) (.t 12)⟩])
 cRet) cSkip))
 (cSeq (cOps [⟨some 13,false,none,iFaddr 0 (.t 2)⟩,
 ⟨some 14,false,none,iFaddr 16 (.t 13)⟩,
 ⟨some 15,false,none,iLoadN 2 (.t 14)⟩,
 ⟨none,false,none,iStore 2 (.t 4) (.t 15)⟩])
 cRet))),[.cell 4 true 2]⟩
noncomputable def Tryd.kp45:List Nat:=[0,1,2,3,8]
noncomputable def Tryd.cf45:CF:=⟨4,(cSeq (cOps [⟨some 8,true,none,iAlloc 42 [(.int .i64 (.lit 0)),(.int .i64 (.lit 0)),(.bool (.lit false)),(.int .i64 (.lit 0))]⟩])
 (cSeq (cOps [⟨some 9,false,none,iMov (.t 0)⟩,
 ⟨some 10,false,none,iMov (.t 1)⟩,
 ⟨some 11,false,none,iCall (.c (.func (.func 16) [] [])) [(.t 9),(.t 10)]⟩,
 ⟨some 12,false,none,iMov (.t 2)⟩,
 ⟨some 13,false,none,iMov (.t 3)⟩,
 ⟨some 14,false,none,iBuild [(.int .i64 (.lit 0)),(.int .i64 (.lit 0)),(.bool (.lit false)),(.int .i64 (.lit 0))] [(0,2,(.t 11)),(2,1,(.t 12)),(3,1,(.t 13))]⟩,
 ⟨none,false,none,iStore 4 (.t 8) (.t 14)⟩])
 cRet)),[.cell 8 true 4]⟩
noncomputable def Tryd.ra46021:C:=(cOps [⟨some 11,true,none,iAlloc 98 [(.int .i64 (.lit 0)),(.int .i64 (.lit 0)),(.int .i64 (.lit 0)),(.int .i64 (.lit 0)),(.int .i64 (.lit 0)),(.int .i64 (.lit 0)),(.int .i64 (.lit 0))]⟩,
 ⟨none,false,none,iStore 7 (.t 11) (.t 21)⟩])
noncomputable def Tryd.rb46021:C:=(cBlock 1 (cSeq (cSeq (cOps [⟨some 22,false,none,iLoadN 7 (.t 11)⟩,
 ⟨some 23,true,none,iCall (.c (.func (.func 59) [] [])) [(.t 22)]⟩])
 (cCond (.t 23) (cSeq (cOps [⟨some 24,false,none,iBuild [(.int .i64 (.lit 0)),(.int .i64 (.lit 0))] []⟩,
 ⟨some 25,false,none,iBuild [(.int .i64 (.lit 0)),(.int .i64 (.lit 0))] []⟩,
 ⟨none,false,none,iStore 2 (.t 4) (.t 24)⟩,
 ⟨none,false,none,iStore 2 (.t 5) (.t 25)⟩,
 ⟨none,false,none,iStore 1 (.t 6) (.c (.int .i64 (.lit 42)))⟩])
 cRet) cSkip))
 (cOps [⟨some 26,false,none,iFaddr 2 (.t 11)⟩,
 ⟨some 27,false,none,iFaddr 1 (.t 26)⟩,
 ⟨some 28,false,none,iLoadN 2 (.t 27)⟩,
 ⟨none,false,none,iStore 2 (.t 9) (.t 28)⟩])))
noncomputable def Tryd.ra46033:C:=(cOps [⟨some 12,true,none,iAlloc 98 [(.int .i64 (.lit 0)),(.int .i64 (.lit 0)),(.int .i64 (.lit 0)),(.int .i64 (.lit 0)),(.int .i64 (.lit 0)),(.int .i64 (.lit 0)),(.int .i64 (.lit 0))]⟩,
 ⟨none,false,none,iStore 7 (.t 12) (.t 33)⟩])
noncomputable def Tryd.rb46033:C:=(cBlock 3 (cOps [⟨some 34,false,none,iFaddr 2 (.t 12)⟩,
 ⟨some 35,false,none,iFaddr 1 (.t 34)⟩,
 ⟨some 36,false,none,iLoadN 2 (.t 35)⟩,
 ⟨none,false,none,iStore 2 (.t 10) (.t 36)⟩]))
noncomputable def Tryd.kp46:List Nat:=[0,1,2,4,5,6,7,8,9,10,11,12,20,21,23,32,33]
noncomputable def Tryd.cf46:CF:=⟨2,(cSeq (cOps [⟨some 2,true,none,iBox 69 (.t 0)⟩,
 ⟨some 4,true,none,iAlloc 23 [(.int .i64 (.lit 0)),(.int .i64 (.lit 0))]⟩,
 ⟨some 5,true,none,iAlloc 23 [(.int .i64 (.lit 0)),(.int .i64 (.lit 0))]⟩,
 ⟨some 6,true,none,iAlloc 32 [(.int .i64 (.lit 0))]⟩])
 (cSeq (cOps [⟨some 14,false,none,iCall (.c (.func (.func 51) [] [])) []⟩,
 ⟨some 13,false,none,iMov (.t 14)⟩,
 ⟨some 15,false,none,iExtract 0 (.t 13)⟩,
 ⟨some 16,false,none,iExtract 1 (.t 13)⟩,
 ⟨some 7,true,none,iAlloc 88 [.nilFunc,.nilFunc]⟩,
 ⟨some 8,true,none,iAlloc 88 [.nilFunc,.nilFunc]⟩,
 ⟨none,false,none,iStore 2 (.t 7) (.t 15)⟩,
 ⟨none,false,none,iStore 2 (.t 8) (.t 16)⟩])
 (cSeq (cOps [⟨some 9,true,none,iAlloc 93 [(.int .i64 (.lit 0)),(.int .i64 (.lit 0))]⟩,
 ⟨some 10,true,none,iAlloc 93 [(.int .i64 (.lit 0)),(.int .i64 (.lit 0))]⟩])
 (cSeq (cSeq (cOps [⟨some 17,false,none,iLoadN 39 (.t 2)⟩,
 ⟨some 18,false,none,iMov (.t 1)⟩,
 ⟨some 19,false,none,iLoadN 2 (.t 7)⟩,
 ⟨some 20,true,none,iCall (.c (.func (.func 54) [] [])) [(.t 17),(.t 18),(.t 19)]⟩])
 (cBlock 0 (cRange (.t 20) [21] 46021)))
 (cSeq (cSeq (cOps [⟨some 29,false,none,iLoadN 39 (.t 2)⟩,
 ⟨some 30,false,none,iMov (.t 1)⟩,
 ⟨some 31,false,none,iLoadN 2 (.t 8)⟩,
 ⟨some 32,true,none,iCall (.c (.func (.func 54) [] [])) [(.t 29),(.t 30),(.t 31)]⟩])
 (cBlock 2 (cRange (.t 32) [33] 46033)))
 (cSeq (dOps 0 [⟨⟨some 37,false,none,iIaddrA 1 2 (.t 9) (.c (.int .i64 (.lit 0)))⟩,[9],false,0,0,none,[]⟩,
 ⟨⟨some 38,false,none,iLoad (.t 37)⟩,[37],false,0,0,none,[]⟩,
 ⟨⟨some 39,false,none,iIaddrA 1 2 (.t 10) (.c (.int .i64 (.lit 0)))⟩,[10],false,0,0,none,[]⟩,
 ⟨⟨some 40,false,none,iLoad (.t 39)⟩,[39],false,0,0,none,[]⟩,
 ⟨⟨some 41,false,none,iBuild [(.int .i64 (.lit 0)),(.int .i64 (.lit 0))] [(0,1,(.t 38)),(1,1,(.t 40))]⟩,[38,40],false,0,0,none,[]⟩,
 ⟨⟨some 42,false,none,iIaddrA 1 2 (.t 9) (.c (.int .i64 (.lit 1)))⟩,[9],false,0,1,none,[]⟩,
 ⟨⟨some 43,false,none,iLoad (.t 42)⟩,[42],false,0,1,none,[]⟩,
 ⟨⟨some 44,false,none,iIaddrA 1 2 (.t 10) (.c (.int .i64 (.lit 1)))⟩,[10],false,0,1,none,[]⟩,
 ⟨⟨some 45,false,none,iLoad (.t 44)⟩,[44],false,0,1,none,[]⟩,
 ⟨⟨some 46,false,none,iBuild [(.int .i64 (.lit 0)),(.int .i64 (.lit 0))] [(0,1,(.t 43)),(1,1,(.t 45))]⟩,[43,45],false,0,1,none,[]⟩,
 ⟨⟨none,false,none,iStore 2 (.t 4) (.t 41)⟩,[4,41],true,0,0,none,[]⟩,
 ⟨⟨none,false,none,iStore 2 (.t 5) (.t 46)⟩,[5,46],true,1,0,none,[]⟩,
 ⟨⟨none,false,none,iStore 1 (.t 6) (.c (.int .i64 (.lit 0)))⟩,[6],true,2,0,none,[]⟩])
 cRet)))))),[.cell 4 true 2,.cell 5 true 2,.cell 6 false 1]⟩
noncomputable def Tryd.kp47:List Nat:=[0,1,2,3,4,5,8,9,10]
noncomputable def Tryd.cf47:CF:=⟨1,(cSeq (cOps [⟨some 1,true,none,iBox 27 (.t 0)⟩,
 ⟨some 2,true,none,iAlloc 69 [(.int .i64 (.lit 0)),(.int .i64 (.lit 0)),(.int .i64 (.lit 0)),(.int .i64 (.lit 0)),(.int .i64 (.lit 0)),(.int .i64 (.lit 0)),(.int .i64 (.lit 0)),(.int .i64 (.lit 0)),(.int .i64 (.lit 0)),(.int .i64 (.lit 0)),(.int .i64 (.lit 0)),(.int .i64 (.lit 0)),(.int .i64 (.lit 0)),(.int .i64 (.lit 0)),(.int .i64 (.lit 0)),(.int .i64 (.lit 0)),(.int .i64 (.lit 0)),(.int .i64 (.lit 0)),(.int .i64 (.lit 0)),(.int .i64 (.lit 0)),(.int .i64 (.lit 0)),(.int .i64 (.lit 0)),.nilslice,(.int .i64 (.lit 0)),(.int .i64 (.lit 0)),(.int .i64 (.lit 0)),(.int .i64 (.lit 0)),(.int .i64 (.lit 0)),(.int .i64 (.lit 0)),(.int .i64 (.lit 0)),(.int .i64 (.lit 0)),(.int .i64 (.lit 0)),(.int .i64 (.lit 0)),(.int .i64 (.lit 0)),(.int .i64 (.lit 0)),(.int .i64 (.lit 0)),(.int .i64 (.lit 0)),(.int .i64 (.lit 0)),(.int .i64 (.lit 0))]⟩])
 (cSeq (cOps [⟨some 6,false,none,iLoadN 23 (.t 1)⟩,
 ⟨some 7,false,none,iBuild [(.int .i64 (.lit 0)),(.int .i64 (.lit 0)),(.int .i64 (.lit 0)),(.int .i64 (.lit 0)),(.int .i64 (.lit 0)),(.int .i64 (.lit 0)),(.int .i64 (.lit 0)),(.int .i64 (.lit 0)),(.int .i64 (.lit 0)),(.int .i64 (.lit 0)),(.int .i64 (.lit 0)),(.int .i64 (.lit 0)),(.int .i64 (.lit 0)),(.int .i64 (.lit 0)),(.int .i64 (.lit 0)),(.int .i64 (.lit 0)),(.int .i64 (.lit 0)),(.int .i64 (.lit 0)),(.int .i64 (.lit 0)),(.int .i64 (.lit 0)),(.int .i64 (.lit 0)),(.int .i64 (.lit 0)),.nilslice,(.int .i64 (.lit 0)),(.int .i64 (.lit 0)),(.int .i64 (.lit 0)),(.int .i64 (.lit 0)),(.int .i64 (.lit 0)),(.int .i64 (.lit 0)),(.int .i64 (.lit 0)),(.int .i64 (.lit 0)),(.int .i64 (.lit 0)),(.int .i64 (.lit 0)),(.int .i64 (.lit 0)),(.int .i64 (.lit 0)),(.int .i64 (.lit 0)),(.int .i64 (.lit 0)),(.int .i64 (.lit 0)),(.int .i64 (.lit 0))] [(0,23,(.t 6))]⟩,
 ⟨some 3,true,none,iAlloc 69 [(.int .i64 (.lit 0)),(.int .i64 (.lit 0)),(.int .i64 (.lit 0)),(.int .i64 (.lit 0)),(.int .i64 (.lit 0)),(.int .i64 (.lit 0)),(.int .i64 (.lit 0)),(.int .i64 (.lit 0)),(.int .i64 (.lit 0)),(.int .i64 (.lit 0)),(.int .i64 (.lit 0)),(.int .i64 (.lit 0)),(.int .i64 (.lit 0)),(.int .i64 (.lit 0)),(.int .i64 (.lit 0)),(.int .i64 (.lit 0)),(.int .i64 (.lit 0)),(.int .i64 (.lit 0)),(.int .i64 (.lit 0)),(.int .i64 (.lit 0)),(.int .i64 (.lit 0)),(.int .i64 (.lit 0)),.nilslice,(.int .i64 (.lit 0)),(.int .i64 (.lit 0)),(.int .i64 (.lit 0)),(.int .i64 (.lit 0)),(.int .i64 (.lit 0)),(.int .i64 (.lit 0)),(.int .i64 (.lit 0)),(.int .i64 (.lit 0)),(.int .i64 (.lit 0)),(.int .i64 (.lit 0)),(.int .i64 (.lit 0)),(.int .i64 (.lit 0)),(.int .i64 (.lit 0)),(.int .i64 (.lit 0)),(.int .i64 (.lit 0)),(.int .i64 (.lit 0))]⟩,
 ⟨none,false,none,iStore 39 (.t 3) (.t 7)⟩])
 (cSeq (cSeq (cOps [⟨some 8,true,none,iBuild [.nilFunc,.nilFunc] [(0,1,(.c (.func (.func 60) [] []))),(1,1,(.c (.func (.func 61) [] [])))]⟩,
 ⟨some 9,true,none,iMov (.c (.int .i64 (.lit 0)))⟩])
 (cBlock 0 (cLoop (cSeq (cOps [⟨some 10,true,none,iCmp .lss (.t 9) (.c (.int .i64 (.lit 2)))⟩])
 (cSeq (cCond (.t 10) cSkip (cExit 0))
 (cSeq (cBlock 1 (cSeq (cOps [⟨some 11,false,none,iMov (.t 9)⟩,
 ⟨some 12,false,none,iIndex false 1 2 (.t 8) (.t 9)⟩,
 ⟨some 4,true,none,iMov (.t 11)⟩,
 ⟨some 5,true,none,iMov (.t 12)⟩])
 (cOps [⟨some 13,false,none,iMov (.t 4)⟩,
 ⟨some 14,false,none,iMov (.t 5)⟩,
 ⟨some 15,false,none,iLoadN 39 (.t 3)⟩,
 ⟨some 16,false,none,iCall (.t 14) [(.t 15)]⟩,
 ⟨some 17,false,none,iFaddr 23 (.t 3)⟩,
 ⟨some 18,false,none,iIaddrA 8 2 (.t 17) (.t 13)⟩,
 ⟨none,false,none,iStore 8 (.t 18) (.t 16)⟩])))
 (cOps [⟨some 19,false,none,iArith .add (.t 9) (.c (.int .i64 (.lit 1)))⟩,
 ⟨some 9,true,none,iMov (.t 19)⟩])))))))
 (cSeq (cOps [⟨some 20,false,none,iLoadN 39 (.t 3)⟩,
 ⟨none,false,none,iStore 39 (.t 2) (.t 20)⟩])
 cRet)))),[.cell 2 true 39]⟩
noncomputable def Tryd.kp48:List Nat:=[0,1,3]
noncomputable def Tryd.cf48:CF:=⟨2,(cSeq (cOps [⟨some 3,true,none,iMov (.c (.bool (.lit false)))⟩])
 (cSeq (cOps [⟨some 4,false,none,iLoad (.t 1)⟩,
 ⟨some 5,false,none,iMov (.t 0)⟩,
 ⟨some 6,false,none,iCall (.t 4) [(.t 5)]⟩,
 ⟨some 7,false,none,iNot (.t 6)⟩,
 ⟨some 3,true,none,iMov (.t 7)⟩])
 cRet)),[.t 3]⟩
noncomputable def Tryd.kp49:List Nat:=[0,2,4]
noncomputable def Tryd.cf49:CF:=⟨1,(cSeq (cOps [⟨some 2,true,none,iMov (.c .nilslice)⟩])
 (cSeq (cSeq (cOps [⟨some 3,false,none,iMov (.t 0)⟩,
 ⟨some 4,true,none,iEq false false 1 [(0,.nilS)] (.t 3) (.c .nilslice)⟩])
 (cCond (.t 4) (cSeq (cOps [⟨some 2,true,none,iMov (.c .nilslice)⟩])
 cRet) cSkip))
 (cSeq (cOps [⟨some 5,false,none,iBslice 42 [(.int .i64 (.lit 0)),(.int .i64 (.lit 0)),(.bool (.lit false)),(.int .i64 (.lit 0))] 0 []⟩,
 ⟨some 6,false,none,iMov (.t 0)⟩,
 ⟨some 7,false,none,iAppend 42 4 32 (.t 5) (.t 6)⟩,
 ⟨some 2,true,none,iMov (.t 7)⟩])
 cRet))),[.t 2]⟩
noncomputable def Tryd.kp50:List Nat:=[0,1,2,3]
noncomputable def Tryd.cf50:CF:=⟨1,(cSeq (cOps [⟨some 1,true,none,iBox 69 (.t 0)⟩,
 ⟨some 2,true,none,iMov (.c (.bool (.lit false)))⟩])
 (cSeq (cOps [⟨some 6,false,none,iCall (.c (.func (.func 51) [] [])) []⟩,
 ⟨some 5,false,none,iMov (.t 6)⟩,
 ⟨some 7,false,none,iExtract 0 (.t 5)⟩,
 ⟨some 8,false,none,iExtract 1 (.t 5)⟩,
 ⟨some 3,true,none,iAlloc 88 [.nilFunc,.nilFunc]⟩,
 ⟨some 4,false,none,iAlloc 88 [.nilFunc,.nilFunc]⟩,
 ⟨none,false,none,iStore 2 (.t 3) (.t 7)⟩,
 ⟨none,false,none,iStore 2 (.t 4) (.t 8)⟩])
 (cSeq (dOps 0 [⟨⟨some 9,false,none,iLoadN 39 (.t 1)⟩,[1],false,0,0,none,[]⟩,
 ⟨⟨some 10,false,none,iCall (.c (.func (.func 52) [] [])) [(.t 9)]⟩,[9],true,0,0,none,[]⟩,
 ⟨⟨some 11,false,none,iLoadN 39 (.t 1)⟩,[1],false,0,1,none,[]⟩,
 ⟨⟨some 12,false,none,iLoadN 2 (.t 3)⟩,[3],false,0,1,none,[]⟩,
 ⟨⟨some 13,false,none,iCall (.c (.func (.func 53) [] [])) [(.t 11),(.t 12)]⟩,[11,12],true,1,0,none,[]⟩,
 ⟨⟨some 14,false,none,iLookup (.agg [(.bool (.lit false)),(.int .i64 (.lit 0)),(.int .i64 (.lit 0)),(.int .i64 (.lit 0)),(.int .i64 (.lit 0)),(.int .i64 (.lit 0)),(.int .i64 (.lit 0)),(.int .i64 (.lit 0)),(.int .i64 (.lit 0))]) true 3 [(0,.int),(1,.int),(2,.int)] false (.t 10) (.t 13)⟩,[10,13],false,2,2,none,[]⟩,
 ⟨⟨some 15,false,none,iField false 0 1 (.t 14)⟩,[14],false,2,2,none,[]⟩,
 ⟨⟨some 2,true,none,iMov (.t 15)⟩,[15],false,2,2,none,[]⟩])
 cRet))),[.t 2]⟩
noncomputable def Tryd.kp51:List Nat:=[0,1]
noncomputable def Tryd.cf51:CF:=⟨0,(cSeq (cOps [⟨some 0,true,none,iAlloc 88 [.nilFunc,.nilFunc]⟩,
 ⟨some 1,true,none,iAlloc 88 [.nilFunc,.nilFunc]⟩])
 (cSeq (cOps [⟨some 2,false,none,iBuild [.nilFunc,.nilFunc] [(0,1,(.c (.func (.func 62) [] []))),(1,1,(.c (.func (.func 63) [] [])))]⟩,
 ⟨some 3,false,none,iBuild [.nilFunc,.nilFunc] [(0,1,(.c (.func (.func 63) [] []))),(1,1,(.c (.func (.func 62) [] [])))]⟩,
 ⟨none,false,none,iStore 2 (.t 0) (.t 2)⟩,
 ⟨none,false,none,iStore 2 (.t 1) (.t 3)⟩])
 cRet)),[.cell 0 true 2,.cell 1 true 2]⟩
noncomputable def Tryd.kp52:List Nat:=[0,1,2,3,5,6]
noncomputable def Tryd.cf52:CF:=⟨1,(cSeq (cOps [⟨some 1,true,none,iBox 69 (.t 0)⟩,
 ⟨some 2,true,none,iMov (.c .nilmap)⟩])
 (cSeq (cOps [⟨some 8,false,none,iCall (.c (.func (.func 51) [] [])) []⟩,
 ⟨some 7,false,none,iMov (.t 8)⟩,
 ⟨some 9,false,none,iExtract 0 (.t 7)⟩,
 ⟨some 10,false,none,iExtract 1 (.t 7)⟩,
 ⟨some 3,true,none,iAlloc 88 [.nilFunc,.nilFunc]⟩,
 ⟨some 4,false,none,iAlloc 88 [.nilFunc,.nilFunc]⟩,
 ⟨none,false,none,iStore 2 (.t 3) (.t 9)⟩,
 ⟨none,false,none,iStore 2 (.t 4) (.t 10)⟩])
 (cSeq (cOps [⟨some 11,false,none,iMkmap⟩,
 ⟨some 5,true,none,iAlloc 91 [.nilmap]⟩,
 ⟨none,false,none,iStore 1 (.t 5) (.t 11)⟩])
 (cSeq (cOps [⟨some 6,true,none,iAlloc 116 [.nilFunc]⟩])
 (cSeq (cOps [⟨some 12,false,none,iFunc (.func 64) [] [(.t 5),(.t 1),(.t 3),(.t 6)]⟩,
 ⟨none,false,none,iStore 1 (.t 6) (.t 12)⟩])
 (cSeq (dOps 0 [⟨⟨some 13,false,none,iLoad (.t 6)⟩,[6],false,0,1,none,[]⟩,
 ⟨⟨some 14,false,none,iLoadN 39 (.t 1)⟩,[1],false,0,0,none,[]⟩,
 ⟨⟨some 15,false,none,iLoadN 2 (.t 3)⟩,[3],false,0,0,none,[]⟩,
 ⟨⟨some 16,false,none,iCall (.c (.func (.func 53) [] [])) [(.t 14),(.t 15)]⟩,[14,15],true,0,0,none,[]⟩,
 ⟨⟨some 17,false,none,iCall (.t 13) [(.t 16)]⟩,[13,16],true,1,0,none,[]⟩])
 (cSeq (cOps [⟨some 18,false,none,iLoad (.t 5)⟩,
 ⟨some 2,true,none,iMov (.t 18)⟩])
 cRet))))))),[.t 2]⟩
noncomputable def Tryd.kp53:List Nat:=[0,1,2,3,4,5,6,7,9,10,11]
noncomputable def Tryd.cf53:CF:=⟨2,(cSeq (cOps [⟨some 2,true,none,iBox 69 (.t 0)⟩,
 ⟨some 3,true,none,iBox 88 (.t 1)⟩,
 ⟨some 4,true,none,iAlloc 95 [(.int .i64 (.lit 0)),(.int .i64 (.lit 0)),(.int .i64 (.lit 0))]⟩])
 (cSeq (cOps [⟨some 5,true,none,iAlloc 95 [(.int .i64 (.lit 0)),(.int .i64 (.lit 0)),(.int .i64 (.lit 0))]⟩])
 (cSeq (cSeq (cOps [⟨some 8,false,none,iFaddr 23 (.t 2)⟩,
 ⟨some 9,true,none,iLoadN 16 (.t 8)⟩,
 ⟨some 10,true,none,iMov (.c (.int .i64 (.lit 0)))⟩])
 (cBlock 0 (cLoop (cSeq (cOps [⟨some 11,true,none,iCmp .lss (.t 10) (.c (.int .i64 (.lit 2)))⟩])
 (cSeq (cCond (.t 11) cSkip (cExit 0))
 (cSeq (cBlock 1 (cSeq (cOps [⟨some 12,false,none,iMov (.t 10)⟩,
 ⟨some 13,false,none,iIndex true 8 2 (.t 9) (.t 10)⟩,
 ⟨some 7,true,none,iAlloc 66 [(.int .i64 (.lit 0)),(.int .i64 (.lit 0)),(.int .i64 (.lit 0)),(.int .i64 (.lit 0)),(.int .i64 (.lit 0)),(.int .i64 (.lit 0)),(.int .i64 (.lit 0)),(.int .i64 (.lit 0))]⟩,
 ⟨some 6,true,none,iMov (.t 12)⟩,
 ⟨none,false,none,iStore 8 (.t 7) (.t 13)⟩])
 (cOps [⟨some 14,false,none,iMov (.t 6)⟩,
 ⟨some 15,false,none,iFaddr 0 (.t 3)⟩,
 ⟨some 16,false,none,iLoad (.t 15)⟩,
 ⟨some 17,false,none,iFaddr 0 (.t 7)⟩,
 ⟨some 18,false,none,iLoadN 2 (.t 17)⟩,
 ⟨some 19,false,none,iCall (.t 16) [(.t 18)]⟩,
 ⟨some 20,false,none,iFaddr 1 (.t 5)⟩,
 ⟨some 21,false,none,iIaddrA 1 2 (.t 20) (.t 14)⟩,
 ⟨none,false,none,iStore 1 (.t 21) (.t 19)⟩])))
 (cOps [⟨some 22,false,none,iArith .add (.t 10) (.c (.int .i64 (.lit 1)))⟩,
 ⟨some 10,true,none,iMov (.t 22)⟩])))))))
 (cSeq (cOps [⟨some 23,false,none,iLoadN 3 (.t 5)⟩,
 ⟨none,false,none,iStore 3 (.t 4) (.t 23)⟩])
 cRet)))),[.cell 4 true 3]⟩
noncomputable def Tryd.kp54:List Nat:=[0,1,2,3,4,5,6]
noncomputable def Tryd.cf54:CF:=⟨3,(cSeq (cOps [⟨some 3,true,none,iBox 69 (.t 0)⟩,
 ⟨some 4,true,none,iBox 36 (.t 1)⟩,
 ⟨some 5,true,none,iBox 88 (.t 2)⟩,
 ⟨some 6,true,none,iMov (.c .nilFunc)⟩])
 (cSeq (cOps [⟨some 7,false,none,iFunc (.func 66) [] [(.t 3),(.t 5),(.t 4)]⟩,
 ⟨some 6,true,none,iMov (.t 7)⟩])
 cRet)),[.t 6]⟩
noncomputable def Tryd.kp55:List Nat:=[0,1,2,3,4,5,7]
noncomputable def Tryd.cf55:CF:=⟨2,(cSeq (cOps [⟨some 2,true,none,iBox 69 (.t 0)⟩,
 ⟨some 3,true,none,iBox 98 (.t 1)⟩,
 ⟨some 4,true,none,iMov (.c (.bool (.lit false)))⟩])
 (cSeq (cSeq (cOps [⟨some 6,false,none,iLoadN 7 (.t 3)⟩,
 ⟨some 7,true,none,iCall (.c (.func (.func 59) [] [])) [(.t 6)]⟩])
 (cCond (.t 7) (cSeq (cOps [⟨some 4,true,none,iMov (.c (.bool (.lit true)))⟩])
 cRet) cSkip))
 (cSeq (cOps [⟨some 8,false,none,iFaddr 0 (.t 2)⟩,
 ⟨some 9,false,none,iFaddr 22 (.t 8)⟩,
 ⟨some 10,false,none,iLoad (.t 9)⟩,
 ⟨some 11,false,none,iFaddr 2 (.t 3)⟩,
 ⟨some 12,false,none,iFaddr 0 (.t 11)⟩,
 ⟨some 13,false,none,iLoad (.t 12)⟩,
 ⟨some 14,false,none,iArith .sub (.t 13) (.c (.int .i64 (.lit 1)))⟩,
 ⟨some 15,false,none,iIaddr 4 (.t 10) (.t 14)⟩,
 ⟨some 16,false,none,iLoadN 4 (.t 15)⟩,
 ⟨some 5,true,none,iAlloc 42 [(.int .i64 (.lit 0)),(.int .i64 (.lit 0)),(.bool (.lit false)),(.int .i64 (.lit 0))]⟩,
 ⟨none,false,none,iStore 4 (.t 5) (.t 16)⟩])
 (cSeq (dOps 0 [⟨⟨some 17,false,none,iFaddr 2 (.t 5)⟩,[5],false,0,0,none,[]⟩,
 ⟨⟨some 18,false,none,iLoad (.t 17)⟩,[17],false,0,0,none,[]⟩,
 ⟨⟨some 19,false,none,iMov (.t 18)⟩,[18],false,0,0,none,[]⟩,
 ⟨⟨some 20,false,some (19,true),iLoadN 39 (.t 2)⟩,[19,2],false,0,0,none,[]⟩,
 ⟨⟨some 21,false,some (19,true),iFaddr 2 (.t 3)⟩,[19,3],false,0,0,none,[]⟩,
 ⟨⟨some 22,false,some (19,true),iFaddr 1 (.t 21)⟩,[19,21],false,0,0,none,[]⟩,
 ⟨⟨some 23,false,some (19,true),iIaddrA 1 2 (.t 22) (.c (.int .i64 (.lit 1)))⟩,[19,22],false,0,0,none,[]⟩,
 ⟨⟨some 24,false,some (19,true),iLoad (.t 23)⟩,[19,23],false,0,0,none,[]⟩,
 ⟨⟨some 25,false,some (19,true),iCall (.c (.func (.func 44) [] [])) [(.t 20),(.t 24)]⟩,[19,20,24],true,0,0,none,[]⟩,
 ⟨⟨some 26,false,some (19,true),iField false 0 1 (.t 25)⟩,[19,25],false,1,1,none,[]⟩,
 ⟨⟨some 27,false,some (19,true),iFaddr 0 (.t 2)⟩,[19,2],false,0,1,none,[]⟩,
 ⟨⟨some 28,false,some (19,true),iFaddr 21 (.t 27)⟩,[19,27],false,0,1,none,[]⟩,
 ⟨⟨some 29,false,some (19,true),iLoad (.t 28)⟩,[19,28],false,0,1,none,[]⟩,
 ⟨⟨some 30,false,some (19,true),iCmp .lss (.t 26) (.t 29)⟩,[19,26,29],false,1,1,none,[]⟩,
 ⟨⟨some 31,false,none,iPick (.t 19) (.t 30) (.c (.bool (.lit false)))⟩,[19,30],false,1,1,none,[]⟩,
 ⟨⟨some 4,true,none,iMov (.t 31)⟩,[31],false,1,1,none,[]⟩])
 cRet)))),[.t 4]⟩
noncomputable def Tryd.kp56:List Nat:=[0,1,4,6,7,8,9,10,17]
noncomputable def Tryd.cf56:CF:=⟨2,(cSeq (cOps [⟨some 4,true,none,iMov (.c (.bool (.lit false)))⟩])
 (cSeq (cSeq (cOps [⟨some 7,true,none,iMov (.t 1)⟩,
 ⟨some 8,true,none,iLenS (.t 7)⟩,
 ⟨some 9,true,none,iMov (.c (.int .i64 (.lit 0)))⟩])
 (cBlock 0 (cLoop (cSeq (cOps [⟨some 10,true,none,iCmp .lss (.t 9) (.t 8)⟩])
 (cSeq (cCond (.t 10) cSkip (cExit 0))
 (cSeq (cBlock 1 (cSeq (cOps [⟨some 11,false,none,iIaddr 2 (.t 7) (.t 9)⟩,
 ⟨some 12,false,none,iLoadN 2 (.t 11)⟩,
 ⟨some 6,true,none,iAlloc 23 [(.int .i64 (.lit 0)),(.int .i64 (.lit 0))]⟩,
 ⟨none,false,none,iStore 2 (.t 6) (.t 12)⟩])
 (cSeq (cOps [⟨some 13,false,none,iLoadN 2 (.t 6)⟩,
 ⟨some 14,false,none,iMov (.t 0)⟩,
 ⟨some 15,false,none,iBuild [(.int .i64 (.lit 0)),(.int .i64 (.lit 0))] [(0,1,(.c (.int .i64 (.lit 0)))),(1,1,(.t 14))]⟩,
 ⟨some 16,false,none,iCall (.c (.func (.func 68) [] [])) [(.t 13),(.t 15)]⟩,
 ⟨some 17,true,none,iNot (.t 16)⟩])
 (cCond (.t 17) (cSeq (cOps [⟨some 4,true,none,iMov (.c (.bool (.lit false)))⟩])
 cRet) cSkip))))
 (cOps [⟨some 18,false,none,iArith .add (.t 9) (.c (.int .i64 (.lit 1)))⟩,
 ⟨some 9,true,none,iMov (.t 18)⟩])))))))
 (cSeq (cOps [⟨some 4,true,none,iMov (.c (.bool (.lit true)))⟩])
 cRet))),[.t 4]⟩
noncomputable def Tryd.kp57:List Nat:=[0,1,2]
noncomputable def Tryd.cf57:CF:=⟨1,(cSeq (cOps [⟨some 1,true,none,iBox 27 (.t 0)⟩,
 ⟨some 2,true,none,iMov (.c (.bool (.lit false)))⟩])
 (cSeq (cOps [⟨some 3,false,none,iFaddr 16 (.t 1)⟩,
 ⟨some 4,false,none,iLoadN 2 (.t 3)⟩,
 ⟨some 5,false,none,iFaddr 18 (.t 1)⟩,
 ⟨some 6,false,none,iLoadN 2 (.t 5)⟩,
 ⟨some 7,false,none,iBslice 23 [(.int .i64 (.lit 0)),(.int .i64 (.lit 0))] 2 [(0,2,(.t 4)),(2,2,(.t 6))]⟩,
 ⟨some 8,false,none,iCall (.c (.func (.func 56) [] [])) [(.c (.int .i64 (.lit 60))),(.t 7)]⟩,
 ⟨some 9,false,none,iMov (.t 8)⟩,
 ⟨some 10,false,some (9,true),iFaddr 18 (.t 1)⟩,
 ⟨some 11,false,some (9,true),iFaddr 0 (.t 10)⟩,
 ⟨some 12,false,some (9,true),iLoad (.t 11)⟩,
 ⟨some 13,false,some (9,true),iFaddr 16 (.t 1)⟩,
 ⟨some 14,false,some (9,true),iFaddr 0 (.t 13)⟩,
 ⟨some 15,false,some (9,true),iLoad (.t 14)⟩,
 ⟨some 16,false,some (9,true),iCmp .leq (.t 12) (.t 15)⟩,
 ⟨some 17,false,none,iPick (.t 9) (.t 16) (.c (.bool (.lit false)))⟩,
 ⟨some 18,false,none,iMov (.t 17)⟩,
 ⟨some 19,false,some (18,true),iFaddr 18 (.t 1)⟩,
 ⟨some 20,false,some (18,true),iFaddr 1 (.t 19)⟩,
 ⟨some 21,false,some (18,true),iLoad (.t 20)⟩,
 ⟨some 22,false,some (18,true),iFaddr 16 (.t 1)⟩,
 ⟨some 23,false,some (18,true),iFaddr 1 (.t 22)⟩,
 ⟨some 24,false,some (18,true),iLoad (.t 23)⟩,
 ⟨some 25,false,some (18,true),iCmp .leq (.t 21) (.t 24)⟩,
 ⟨some 26,false,none,iPick (.t 18) (.t 25) (.c (.bool (.lit false)))⟩,
 ⟨some 2,true,none,iMov (.t 26)⟩])
 cRet)),[.t 2]⟩
noncomputable def Tryd.kp58:List Nat:=[0,2,4,5,6,7,8,22]
noncomputable def Tryd.cf58:CF:=⟨1,(cSeq (cOps [⟨some 2,true,none,iMov (.c (.bool (.lit false)))⟩])
 (cSeq (cSeq (cOps [⟨some 5,true,none,iMov (.t 0)⟩,
 ⟨some 6,true,none,iLenS (.t 5)⟩,
 ⟨some 7,true,none,iMov (.c (.int .i64 (.lit 0)))⟩])
 (cBlock 0 (cLoop (cSeq (cOps [⟨some 8,true,none,iCmp .lss (.t 7) (.t 6)⟩])
 (cSeq (cCond (.t 8) cSkip (cExit 0))
 (cSeq (cBlock 1 (cSeq (cOps [⟨some 9,false,none,iIaddr 4 (.t 5) (.t 7)⟩,
 ⟨some 10,false,none,iLoadN 4 (.t 9)⟩,
 ⟨some 4,true,none,iAlloc 42 [(.int .i64 (.lit 0)),(.int .i64 (.lit 0)),(.bool (.lit false)),(.int .i64 (.lit 0))]⟩,
 ⟨none,false,none,iStore 4 (.t 4) (.t 10)⟩])
 (cSeq (cOps [⟨some 11,false,none,iFaddr 0 (.t 4)⟩,
 ⟨some 12,false,none,iLoadN 2 (.t 11)⟩,
 ⟨some 13,false,none,iBuild [(.int .i64 (.lit 0)),(.int .i64 (.lit 0))] [(0,1,(.c (.int .i64 (.lit 1)))),(1,1,(.c (.int .i64 (.lit 60))))]⟩,
 ⟨some 14,false,none,iCall (.c (.func (.func 68) [] [])) [(.t 12),(.t 13)]⟩,
 ⟨some 15,false,none,iNot (.t 14)⟩,
 ⟨some 16,false,none,iMov (.t 15)⟩,
 ⟨some 17,false,some (16,false),iFaddr 3 (.t 4)⟩,
 ⟨some 18,false,some (16,false),iLoad (.t 17)⟩,
 ⟨some 19,false,some (16,false),iBuild [(.int .i64 (.lit 0)),(.int .i64 (.lit 0))] [(0,1,(.c (.int .i64 (.lit 0)))),(1,1,(.c (.int .i64 (.lit 5))))]⟩,
 ⟨some 20,false,some (16,false),iCall (.c (.func (.func 43) [] [])) [(.t 18),(.t 19)]⟩,
 ⟨some 21,false,some (16,false),iNot (.t 20)⟩,
 ⟨some 22,true,none,iPick (.t 16) (.c (.bool (.lit true))) (.t 21)⟩])
 (cCond (.t 22) (cSeq (cOps [⟨some 2,true,none,iMov (.c (.bool (.lit false)))⟩])
 cRet) cSkip))))
 (cOps [⟨some 23,false,none,iArith .add (.t 7) (.c (.int .i64 (.lit 1)))⟩,
 ⟨some 7,true,none,iMov (.t 23)⟩])))))))
 (cSeq (cOps [⟨some 2,true,none,iMov (.c (.bool (.lit true)))⟩])
 cRet))),[.t 2]⟩
noncomputable def Tryd.kp59:List Nat:=[0,1,2]
noncomputable def Tryd.cf59:CF:=⟨1,(cSeq (cOps [⟨some 1,true,none,iBox 98 (.t 0)⟩,
 ⟨some 2,true,none,iMov (.c (.bool (.lit false)))⟩])
 (cSeq (cOps [⟨some 3,false,none,iFaddr 5 (.t 1)⟩,
 ⟨some 4,false,none,iLoadN 2 (.t 3)⟩,
 ⟨some 5,false,none,iBuild [(.int .i64 (.lit 0)),(.int .i64 (.lit 0))] []⟩,
 ⟨some 6,false,none,iEq true true 2 [(0,.int),(1,.int)] (.t 4) (.t 5)⟩,
 ⟨some 2,true,none,iMov (.t 6)⟩])
 cRet)),[.t 2]⟩
noncomputable def Tryd.kp60:List Nat:=[0,1,2]
noncomputable def Tryd.cf60:CF:=⟨1,(cSeq (cOps [⟨some 1,true,none,iBox 69 (.t 0)⟩,
 ⟨some 2,true,none,iAlloc 66 [(.int .i64 (.lit 0)),(.int .i64 (.lit 0)),(.int .i64 (.lit 0)),(.int .i64 (.lit 0)),(.int .i64 (.lit 0)),(.int .i64 (.lit 0)),(.int .i64 (.lit 0)),(.int .i64 (.lit 0))]⟩])
 (cSeq (cOps [⟨some 3,false,none,iFaddr 0 (.t 1)⟩,
 ⟨some 4,false,none,iFaddr 0 (.t 3)⟩,
 ⟨some 5,false,none,iLoadN 2 (.t 4)⟩,
 ⟨some 6,false,none,iFaddr 0 (.t 1)⟩,
 ⟨some 7,false,none,iFaddr 4 (.t 6)⟩,
 ⟨some 8,false,none,iLoad (.t 7)⟩,
 ⟨some 9,false,none,iFaddr 0 (.t 1)⟩,
 ⟨some 10,false,none,iFaddr 6 (.t 9)⟩,
 ⟨some 11,false,none,iLoad (.t 10)⟩,
 ⟨some 12,false,none,iFaddr 0 (.t 1)⟩,
 ⟨some 13,false,none,iFaddr 8 (.t 12)⟩,
 ⟨some 14,false,none,iLoadN 4 (.t 13)⟩,
 ⟨some 15,false,none,iBuild [(.int .i64 (.lit 0)),(.int .i64 (.lit 0)),(.int .i64 (.lit 0)),(.int .i64 (.lit 0)),(.int .i64 (.lit 0)),(.int .i64 (.lit 0)),(.int .i64 (.lit 0)),(.int .i64 (.lit 0))] [(0,2,(.t 5)),(2,1,(.t 8)),(3,1,(.t 11)),(4,4,(.t 14))]⟩,
 ⟨none,false,none,iStore 8 (.t 2) (.t 15)⟩])
 cRet)),[.cell 2 true 8]⟩
noncomputable def Tryd.kp61:List Nat:=[0,1,2]
noncomputable def Tryd.cf61:CF:=⟨1,(cSeq (cOps [⟨some 1,true,none,iBox 69 (.t 0)⟩,
 ⟨some 2,true,none,iAlloc 66 [(.int .i64 (.lit 0)),(.int .i64 (.lit 0)),(.int .i64 (.lit 0)),(.int .i64 (.lit 0)),(.int .i64 (.lit 0)),(.int .i64 (.lit 0)),(.int .i64 (.lit 0)),(.int .i64 (.lit 0))]⟩])
 (cSeq (cOps [⟨some 3,false,none,iFaddr 0 (.t 1)⟩,
 ⟨some 4,false,none,iFaddr 2 (.t 3)⟩,
 ⟨some 5,false,none,iLoadN 2 (.t 4)⟩,
 ⟨some 6,false,none,iFaddr 0 (.t 1)⟩,
 ⟨some 7,false,none,iFaddr 5 (.t 6)⟩,
 ⟨some 8,false,none,iLoad (.t 7)⟩,
 ⟨some 9,false,none,iFaddr 0 (.t 1)⟩,
 ⟨some 10,false,none,iFaddr 7 (.t 9)⟩,
 ⟨some 11,false,none,iLoad (.t 10)⟩,
 ⟨some 12,false,none,iFaddr 0 (.t 1)⟩,
 ⟨some 13,false,none,iFaddr 12 (.t 12)⟩,
 ⟨some 14,false,none,iLoadN 4 (.t 13)⟩,
 ⟨some 15,false,none,iBuild [(.int .i64 (.lit 0)),(.int .i64 (.lit 0)),(.int .i64 (.lit 0)),(.int .i64 (.lit 0)),(.int .i64 (.lit 0)),(.int .i64 (.lit 0)),(.int .i64 (.lit 0)),(.int .i64 (.lit 0))] [(0,2,(.t 5)),(2,1,(.t 8)),(3,1,(.t 11)),(4,4,(.t 14))]⟩,
 ⟨none,false,none,iStore 8 (.t 2) (.t 15)⟩])
 cRet)),[.cell 2 true 8]⟩
noncomputable def Tryd.kp62:List Nat:=[0,1,2]
noncomputable def Tryd.cf62:CF:=⟨1,(cSeq (cOps [⟨some 1,true,none,iBox 115 (.t 0)⟩,
 ⟨some 2,true,none,iMov (.c (.int .i64 (.lit 0)))⟩])
 (cSeq (cOps [⟨some 3,false,none,iFaddr 0 (.t 1)⟩,
 ⟨some 4,false,none,iLoad (.t 3)⟩,
 ⟨some 2,true,none,iMov (.t 4)⟩])
 cRet)),[.t 2]⟩
noncomputable def Tryd.kp63:List Nat:=[0,1,2]
noncomputable def Tryd.cf63:CF:=⟨1,(cSeq (cOps [⟨some 1,true,none,iBox 115 (.t 0)⟩,
 ⟨some 2,true,none,iMov (.c (.int .i64 (.lit 0)))⟩])
 (cSeq (cOps [⟨some 3,false,none,iFaddr 1 (.t 1)⟩,
 ⟨some 4,false,none,iLoad (.t 3)⟩,
 ⟨some 2,true,none,iMov (.t 4)⟩])
 cRet)),[.t 2]⟩
noncomputable def Tryd.ra64040:C:=(cOps [⟨some 11,true,none,iAlloc 98 [(.int .i64 (.lit 0)),(.int .i64 (.lit 0)),(.int .i64 (.lit 0)),(.int .i64 (.lit 0)),(.int .i64 (.lit 0)),(.int .i64 (.lit 0)),(.int .i64 (.lit 0))]⟩,
 ⟨none,false,none,iStore 7 (.t 11) (.t 40)⟩])
noncomputable def Tryd.rb64040:C:=(cBlock 1 (cSeq (cSeq (cOps [⟨some 41,false,none,iLoadN 39 (.t 2)⟩,
 ⟨some 42,false,none,iLoadN 7 (.t 11)⟩,
 ⟨some 43,false,none,iCall (.c (.func (.func 55) [] [])) [(.t 41),(.t 42)]⟩,
 ⟨some 44,false,none,iMov (.t 43)⟩,
 ⟨some 45,false,some (44,false),iFaddr 2 (.t 11)⟩,
 ⟨some 46,false,some (44,false),iLoadN 3 (.t 45)⟩,
 ⟨some 47,false,some (44,false),iLoadN 3 (.t 10)⟩,
 ⟨some 48,false,some (44,false),iEq false true 3 [(0,.int),(1,.int),(2,.int)] (.t 46) (.t 47)⟩,
 ⟨some 49,true,none,iPick (.t 44) (.c (.bool (.lit true))) (.t 48)⟩])
 (cCond (.t 49) (cExit 1) cSkip))
 (cSeq (cOps [⟨some 50,false,none,iFaddr 2 (.t 11)⟩,
 ⟨some 51,false,none,iLoadN 3 (.t 50)⟩,
 ⟨none,false,none,iStore 3 (.t 10) (.t 51)⟩])
 (cSeq (cOps [⟨some 52,false,none,iLoad (.t 4)⟩,
 ⟨some 53,false,none,iFaddr 2 (.t 11)⟩,
 ⟨some 54,false,none,iLoadN 3 (.t 53)⟩,
 ⟨some 55,false,none,iCall (.t 52) [(.t 54)]⟩,
 ⟨some 12,true,none,iAlloc 100 [(.bool (.lit false)),(.int .i64 (.lit 0)),(.int .i64 (.lit 0)),(.int .i64 (.lit 0)),(.int .i64 (.lit 0)),(.int .i64 (.lit 0)),(.int .i64 (.lit 0)),(.int .i64 (.lit 0)),(.int .i64 (.lit 0))]⟩,
 ⟨none,false,none,iStore 9 (.t 12) (.t 55)⟩])
 (cSeq (cOps [⟨some 56,false,none,iFaddr 0 (.t 11)⟩,
 ⟨some 57,false,none,iFaddr 0 (.t 56)⟩,
 ⟨some 58,false,none,iLoad (.t 57)⟩,
 ⟨some 59,false,none,iFaddr 0 (.t 11)⟩,
 ⟨some 60,false,none,iFaddr 1 (.t 59)⟩,
 ⟨some 61,false,none,iLoad (.t 60)⟩,
 ⟨some 62,false,none,iArith .add (.t 58) (.t 61)⟩,
 ⟨some 63,false,none,iFaddr 1 (.t 12)⟩,
 ⟨some 64,false,none,iLoad (.t 63)⟩,
 ⟨some 65,false,none,iArith .add (.t 62) (.t 64)⟩,
 ⟨some 13,true,none,iMov (.t 65)⟩])
 (cSeq (cSeq (cOps [⟨some 66,false,none,iFaddr 0 (.t 12)⟩,
 ⟨some 67,false,none,iLoad (.t 66)⟩,
 ⟨some 68,false,none,iNot (.t 67)⟩,
 ⟨some 69,false,none,iMov (.t 68)⟩,
 ⟨some 70,false,some (69,false),iFaddr 0 (.t 9)⟩,
 ⟨some 71,false,some (69,false),iLoad (.t 70)⟩,
 ⟨some 72,false,some (69,false),iMov (.t 71)⟩,
 ⟨some 73,false,some (72,true),iFaddr 1 (.t 9)⟩,
 ⟨some 74,false,some (72,true),iLoad (.t 73)⟩,
 ⟨some 75,false,some (72,true),iMov (.t 13)⟩,
 ⟨some 76,false,some (72,true),iCmp .leq (.t 74) (.t 75)⟩,
 ⟨some 77,false,some (69,false),iPick (.t 72) (.t 76) (.c (.bool (.lit false)))⟩,
 ⟨some 78,true,none,iPick (.t 69) (.c (.bool (.lit true))) (.t 77)⟩])
 (cCond (.t 78) (cExit 1) cSkip))
 (cOps [⟨some 79,false,none,iMov (.t 13)⟩,
 ⟨some 80,false,none,iLoadN 7 (.t 11)⟩,
 ⟨some 81,false,none,iBuild [(.bool (.lit false)),(.int .i64 (.lit 0)),(.int .i64 (.lit 0)),(.int .i64 (.lit 0)),(.int .i64 (.lit 0)),(.int .i64 (.lit 0)),(.int .i64 (.lit 0)),(.int .i64 (.lit 0)),(.int .i64 (.lit 0))] [(0,1,(.c (.bool (.lit true)))),(1,1,(.t 79)),(2,7,(.t 80))]⟩,
 ⟨none,false,none,iStore 9 (.t 9) (.t 81)⟩])))))))
noncomputable def Tryd.kp64:List Nat:=[0,1,2,3,4,5,6,7,8,9,10,11,12,13,20,28,39,40,49,78]
noncomputable def Tryd.cf64:CF:=⟨5,(cSeq (cOps [⟨some 5,true,none,iBox 95 (.t 0)⟩,
 ⟨some 6,true,none,iAlloc 100 [(.bool (.lit false)),(.int .i64 (.lit 0)),(.int .i64 (.lit 0)),(.int .i64 (.lit 0)),(.int .i64 (.lit 0)),(.int .i64 (.lit 0)),(.int .i64 (.lit 0)),(.int .i64 (.lit 0)),(.int .i64 (.lit 0))]⟩])
 (cSeq (cSeq (cOps [⟨some 15,false,none,iLoad (.t 1)⟩,
 ⟨some 16,false,none,iLoadN 3 (.t 5)⟩,
 ⟨some 17,false,none,iLookup (.agg [(.bool (.lit false)),(.int .i64 (.lit 0)),(.int .i64 (.lit 0)),(.int .i64 (.lit 0)),(.int .i64 (.lit 0)),(.int .i64 (.lit 0)),(.int .i64 (.lit 0)),(.int .i64 (.lit 0)),(.int .i64 (.lit 0))]) true 3 [(0,.int),(1,.int),(2,.int)] true (.t 15) (.t 16)⟩,
 ⟨some 14,false,none,iMov (.t 17)⟩,
 ⟨some 18,false,none,iExtract 0 (.t 14)⟩,
 ⟨some 19,false,none,iExtract 1 (.t 14)⟩,
 ⟨some 7,true,none,iAlloc 100 [(.bool (.lit false)),(.int .i64 (.lit 0)),(.int .i64 (.lit 0)),(.int .i64 (.lit 0)),(.int .i64 (.lit 0)),(.int .i64 (.lit 0)),(.int .i64 (.lit 0)),(.int .i64 (.lit 0)),(.int .i64 (.lit 0))]⟩,
 ⟨none,false,none,iStore 9 (.t 7) (.t 18)⟩,
 ⟨some 8,true,none,iMov (.t 19)⟩])
 (cSeq (cOps [⟨some 20,true,none,iMov (.t 8)⟩])
 (cCond (.t 20) (cSeq (cOps [⟨some 21,false,none,iLoadN 9 (.t 7)⟩,
 ⟨none,false,none,iStore 9 (.t 6) (.t 21)⟩])
 cRet) cSkip)))
 (cSeq (cSeq (cOps [⟨some 22,false,none,iFaddr 0 (.t 5)⟩,
 ⟨some 23,false,none,iLoad (.t 22)⟩,
 ⟨some 24,false,none,iFaddr 0 (.t 2)⟩,
 ⟨some 25,false,none,iFaddr 22 (.t 24)⟩,
 ⟨some 26,false,none,iLoad (.t 25)⟩,
 ⟨some 27,false,none,iLenS (.t 26)⟩,
 ⟨some 28,true,none,iCmp .eql (.t 23) (.t 27)⟩])
 (cCond (.t 28) (cSeq (cOps [⟨some 29,false,none,iLoad (.t 1)⟩,
 ⟨some 30,false,none,iLoadN 3 (.t 5)⟩,
 ⟨some 31,false,none,iBuild [(.bool (.lit false)),(.int .i64 (.lit 0)),(.int .i64 (.lit 0)),(.int .i64 (.lit 0)),(.int .i64 (.lit 0)),(.int .i64 (.lit 0)),(.int .i64 (.lit 0)),(.int .i64 (.lit 0)),(.int .i64 (.lit 0))] [(0,1,(.c (.bool (.lit true))))]⟩,
 ⟨none,false,none,iMapset true 3 [(0,.int),(1,.int),(2,.int)] (.t 29) (.t 30) (.t 31)⟩])
 (cSeq (cOps [⟨some 32,false,none,iLoad (.t 1)⟩,
 ⟨some 33,false,none,iLoadN 3 (.t 5)⟩,
 ⟨some 34,false,none,iLookup (.agg [(.bool (.lit false)),(.int .i64 (.lit 0)),(.int .i64 (.lit 0)),(.int .i64 (.lit 0)),(.int .i64 (.lit 0)),(.int .i64 (.lit 0)),(.int .i64 (.lit 0)),(.int .i64 (.lit 0)),(.int .i64 (.lit 0))]) true 3 [(0,.int),(1,.int),(2,.int)] false (.t 32) (.t 33)⟩,
 ⟨none,false,none,iStore 9 (.t 6) (.t 34)⟩])
 cRet)) cSkip))
 (cSeq (cOps [⟨some 9,true,none,iAlloc 100 [(.bool (.lit false)),(.int .i64 (.lit 0)),(.int .i64 (.lit 0)),(.int .i64 (.lit 0)),(.int .i64 (.lit 0)),(.int .i64 (.lit 0)),(.int .i64 (.lit 0)),(.int .i64 (.lit 0)),(.int .i64 (.lit 0))]⟩])
 (cSeq (cOps [⟨some 35,false,none,iLoadN 3 (.t 5)⟩,
 ⟨some 10,true,none,iAlloc 95 [(.int .i64 (.lit 0)),(.int .i64 (.lit 0)),(.int .i64 (.lit 0))]⟩,
 ⟨none,false,none,iStore 3 (.t 10) (.t 35)⟩])
 (cSeq cSkip
 (cSeq (cSeq (cOps [⟨some 36,false,none,iLoadN 39 (.t 2)⟩,
 ⟨some 37,false,none,iLoadN 3 (.t 5)⟩,
 ⟨some 38,false,none,iLoadN 2 (.t 3)⟩,
 ⟨some 39,true,none,iCall (.c (.func (.func 65) [] [])) [(.t 36),(.t 37),(.t 38)]⟩])
 (cBlock 0 (cRange (.t 39) [40] 64040)))
 (cSeq (cOps [⟨some 82,false,none,iLoad (.t 1)⟩,
 ⟨some 83,false,none,iLoadN 3 (.t 5)⟩,
 ⟨some 84,false,none,iLoadN 9 (.t 9)⟩,
 ⟨none,false,none,iMapset true 3 [(0,.int),(1,.int),(2,.int)] (.t 82) (.t 83) (.t 84)⟩])
 (cSeq (cOps [⟨some 85,false,none,iLoadN 9 (.t 9)⟩,
 ⟨none,false,none,iStore 9 (.t 6) (.t 85)⟩])
 cRet))))))))),[.cell 6 true 9]⟩
noncomputable def Tryd.kp65:List Nat:=[0,1,2,3,4,5,6]
noncomputable def Tryd.cf65:CF:=⟨3,(cSeq (cOps [⟨some 3,true,none,iBox 69 (.t 0)⟩,
 ⟨some 4,true,none,iBox 95 (.t 1)⟩,
 ⟨some 5,true,none,iBox 88 (.t 2)⟩,
 ⟨some 6,true,none,iMov (.c .nilFunc)⟩])
 (cSeq (cOps [⟨some 7,false,none,iFunc (.func 69) [] [(.t 3),(.t 4),(.t 5)]⟩,
 ⟨some 6,true,none,iMov (.t 7)⟩])
 cRet)),[.t 6]⟩
noncomputable def Tryd.kp66:List Nat:=[0,1,2,3,5,7,8,12,13,14,15,26]
noncomputable def Tryd.cf66:CF:=⟨4,(cSeq (cOps [⟨some 9,false,none,iLoadN 39 (.t 1)⟩,
 ⟨some 10,false,none,iLoadN 2 (.t 2)⟩,
 ⟨some 11,false,none,iCall (.c (.func (.func 53) [] [])) [(.t 9),(.t 10)]⟩,
 ⟨some 5,true,none,iAlloc 95 [(.int .i64 (.lit 0)),(.int .i64 (.lit 0)),(.int .i64 (.lit 0))]⟩,
 ⟨none,false,none,iStore 3 (.t 5) (.t 11)⟩])
 (cSeq (cOps [⟨some 12,true,none,iLoad (.t 3)⟩,
 ⟨some 13,true,none,iLenS (.t 12)⟩,
 ⟨some 14,true,none,iMov (.c (.int .i64 (.lit 0)))⟩])
 (cBlock 0 (cLoop (cSeq (cOps [⟨some 15,true,none,iCmp .lss (.t 14) (.t 13)⟩])
 (cSeq (cCond (.t 15) cSkip (cExit 0))
 (cSeq (cBlock 1 (cSeq (cOps [⟨some 16,false,none,iIaddr 2 (.t 12) (.t 14)⟩,
 ⟨some 17,false,none,iLoadN 2 (.t 16)⟩,
 ⟨some 7,true,none,iAlloc 54 [(.int .i64 (.lit 0)),(.int .i64 (.lit 0))]⟩,
 ⟨none,false,none,iStore 2 (.t 7) (.t 17)⟩])
 (cSeq (cOps [⟨some 18,false,none,iLoadN 39 (.t 1)⟩,
 ⟨some 19,false,none,iLoadN 3 (.t 5)⟩,
 ⟨some 20,false,none,iLoadN 2 (.t 7)⟩,
 ⟨some 21,false,none,iLoadN 2 (.t 2)⟩,
 ⟨some 22,false,none,iCall (.c (.func (.func 67) [] [])) [(.t 18),(.t 19),(.t 20),(.t 21)]⟩,
 ⟨some 8,true,none,iAlloc 98 [(.int .i64 (.lit 0)),(.int .i64 (.lit 0)),(.int .i64 (.lit 0)),(.int .i64 (.lit 0)),(.int .i64 (.lit 0)),(.int .i64 (.lit 0)),(.int .i64 (.lit 0))]⟩,
 ⟨none,false,none,iStore 7 (.t 8) (.t 22)⟩])
 (cSeq (cSeq (cOps [⟨some 23,false,none,iMov (.t 0)⟩,
 ⟨some 24,false,none,iLoadN 7 (.t 8)⟩,
 ⟨some 25,false,none,iCall (.t 23) [(.t 24)]⟩,
 ⟨some 26,true,none,iNot (.t 25)⟩])
 (cCond (.t 26) cRet cSkip))
 (cOps [⟨some 27,false,none,iFaddr 2 (.t 8)⟩,
 ⟨some 28,false,none,iLoadN 3 (.t 27)⟩,
 ⟨none,false,none,iStore 3 (.t 5) (.t 28)⟩])))))
 (cOps [⟨some 29,false,none,iArith .add (.t 14) (.c (.int .i64 (.lit 1)))⟩,
 ⟨some 14,true,none,iMov (.t 29)⟩])))))))),[]⟩
noncomputable def Tryd.kp67:List Nat:=[0,1,2,3,4,5,6,7,8,9,10,11,12,13,14,15,16,34,35,36]
noncomputable def Tryd.cf67:CF:=⟨4,(cSeq (cOps [⟨some 4,true,none,iBox 69 (.t 0)⟩,
 ⟨some 5,true,none,iBox 95 (.t 1)⟩,
 ⟨some 6,true,none,iBox 54 (.t 2)⟩,
 ⟨some 7,true,none,iBox 88 (.t 3)⟩,
 ⟨some 8,true,none,iAlloc 98 [(.int .i64 (.lit 0)),(.int .i64 (.lit 0)),(.int .i64 (.lit 0)),(.int .i64 (.lit 0)),(.int .i64 (.lit 0)),(.int .i64 (.lit 0)),(.int .i64 (.lit 0))]⟩])
 (cSeq (cOps [⟨some 17,false,none,iLoadN 2 (.t 6)⟩,
 ⟨some 18,false,none,iFaddr 0 (.t 5)⟩,
 ⟨some 19,false,none,iLoad (.t 18)⟩,
 ⟨some 20,false,none,iArith .add (.t 19) (.c (.int .i64 (.lit 1)))⟩,
 ⟨some 21,false,none,iBuild [(.int .i64 (.lit 0)),(.int .i64 (.lit 0)),(.int .i64 (.lit 0))] [(0,1,(.t 20))]⟩,
 ⟨some 22,false,none,iBuild [(.int .i64 (.lit 0)),(.int .i64 (.lit 0)),(.int .i64 (.lit 0)),(.int .i64 (.lit 0)),(.int .i64 (.lit 0)),(.int .i64 (.lit 0)),(.int .i64 (.lit 0))] [(0,2,(.t 17)),(2,3,(.t 21))]⟩,
 ⟨some 9,true,none,iAlloc 98 [(.int .i64 (.lit 0)),(.int .i64 (.lit 0)),(.int .i64 (.lit 0)),(.int .i64 (.lit 0)),(.int .i64 (.lit 0)),(.int .i64 (.lit 0)),(.int .i64 (.lit 0))]⟩,
 ⟨none,false,none,iStore 7 (.t 9) (.t 22)⟩])
 (cSeq (cOps [⟨some 23,false,none,iFaddr 0 (.t 4)⟩,
 ⟨some 24,false,none,iFaddr 22 (.t 23)⟩,
 ⟨some 25,false,none,iLoad (.t 24)⟩,
 ⟨some 26,false,none,iFaddr 0 (.t 5)⟩,
 ⟨some 27,false,none,iLoad (.t 26)⟩,
 ⟨some 28,false,none,iIaddr 4 (.t 25) (.t 27)⟩,
 ⟨some 29,false,none,iLoadN 4 (.t 28)⟩,
 ⟨some 10,true,none,iAlloc 42 [(.int .i64 (.lit 0)),(.int .i64 (.lit 0)),(.bool (.lit false)),(.int .i64 (.lit 0))]⟩,
 ⟨none,false,none,iStore 4 (.t 10) (.t 29)⟩])
 (cSeq (cSeq (cOps [⟨some 30,false,none,iFaddr 0 (.t 6)⟩,
 ⟨some 31,false,none,iLoad (.t 30)⟩,
 ⟨some 32,false,none,iFaddr 1 (.t 6)⟩,
 ⟨some 33,false,none,iLoad (.t 32)⟩,
 ⟨some 34,true,none,iBuild [(.int .i64 (.lit 0)),(.int .i64 (.lit 0))] [(0,1,(.t 31)),(1,1,(.t 33))]⟩,
 ⟨some 35,true,none,iMov (.c (.int .i64 (.lit 0)))⟩])
 (cBlock 0 (cLoop (cSeq (cOps [⟨some 36,true,none,iCmp .lss (.t 35) (.c (.int .i64 (.lit 2)))⟩])
 (cSeq (cCond (.t 36) cSkip (cExit 0))
 (cSeq (cBlock 1 (cSeq (cOps [⟨some 37,false,none,iMov (.t 35)⟩,
 ⟨some 38,false,none,iIndex false 1 2 (.t 34) (.t 35)⟩,
 ⟨some 11,true,none,iMov (.t 37)⟩,
 ⟨some 12,true,none,iMov (.t 38)⟩])
 (cSeq (cOps [⟨some 39,false,none,iMov (.t 11)⟩,
 ⟨some 40,false,none,iFaddr 23 (.t 4)⟩,
 ⟨some 41,false,none,iIaddrA 8 2 (.t 40) (.t 39)⟩,
 ⟨some 42,false,none,iLoadN 8 (.t 41)⟩,
 ⟨some 13,true,none,iAlloc 66 [(.int .i64 (.lit 0)),(.int .i64 (.lit 0)),(.int .i64 (.lit 0)),(.int .i64 (.lit 0)),(.int .i64 (.lit 0)),(.int .i64 (.lit 0)),(.int .i64 (.lit 0)),(.int .i64 (.lit 0))]⟩,
 ⟨none,false,none,iStore 8 (.t 13) (.t 42)⟩])
 (cSeq (dOps 0 [⟨⟨some 43,false,none,iFaddr 2 (.t 13)⟩,[13],false,0,1,none,[]⟩,
 ⟨⟨some 44,false,none,iLoad (.t 43)⟩,[43],false,0,1,none,[]⟩,
 ⟨⟨some 45,false,none,iMov (.t 11)⟩,[11],false,0,0,none,[]⟩,
 ⟨⟨some 46,false,none,iFaddr 1 (.t 5)⟩,[5],false,0,0,none,[]⟩,
 ⟨⟨some 47,false,none,iIaddrA 1 2 (.t 46) (.t 45)⟩,[46,45],false,0,0,none,[]⟩,
 ⟨⟨some 48,false,none,iLoad (.t 47)⟩,[47],false,0,0,none,[]⟩,
 ⟨⟨some 49,false,none,iMov (.t 12)⟩,[12],false,0,0,none,[]⟩,
 ⟨⟨some 50,false,none,iFaddr 3 (.t 13)⟩,[13],false,0,0,none,[]⟩,
 ⟨⟨some 51,false,none,iLoad (.t 50)⟩,[50],false,0,0,none,[]⟩,
 ⟨⟨some 52,false,none,iArith .mul (.t 49) (.t 51)⟩,[49,51],false,0,0,none,[]⟩,
 ⟨⟨some 53,false,none,iArith .add (.t 48) (.t 52)⟩,[48,52],false,0,0,none,[]⟩,
 ⟨⟨some 54,false,none,iBslice 3 [(.int .i64 (.lit 0))] 1 [(0,1,(.t 53))]⟩,[53],true,0,0,none,[]⟩,
 ⟨⟨some 55,false,none,iCall (.c (.func (.func 70) [] [])) [(.t 44),(.t 54)]⟩,[44,54],true,1,0,none,[]⟩,
 ⟨⟨some 14,true,none,iMov (.t 55)⟩,[55],false,2,2,none,[]⟩])
 (cSeq (dOps 0 [⟨⟨some 56,false,none,iFaddr 1 (.t 7)⟩,[7],false,0,0,none,[]⟩,
 ⟨⟨some 57,false,none,iLoad (.t 56)⟩,[56],false,0,0,none,[]⟩,
 ⟨⟨some 58,false,none,iFaddr 0 (.t 10)⟩,[10],false,0,0,none,[]⟩,
 ⟨⟨some 59,false,none,iLoadN 2 (.t 58)⟩,[58],false,0,0,none,[]⟩,
 ⟨⟨some 60,false,none,iCall (.t 57) [(.t 59)]⟩,[57,59],true,0,0,none,[]⟩,
 ⟨⟨some 61,false,none,iFaddr 1 (.t 7)⟩,[7],false,0,2,none,[]⟩,
 ⟨⟨some 62,false,none,iLoad (.t 61)⟩,[61],false,0,2,none,[]⟩,
 ⟨⟨some 63,false,none,iLoadN 8 (.t 13)⟩,[13],false,0,1,none,[]⟩,
 ⟨⟨some 64,false,none,iLoadN 4 (.t 10)⟩,[10],false,0,1,none,[]⟩,
 ⟨⟨some 65,false,none,iCall (.c (.func (.func 71) [] [])) [(.t 63),(.t 64)]⟩,[63,64],true,1,0,none,[]⟩,
 ⟨⟨some 66,false,none,iCall (.t 62) [(.t 65)]⟩,[62,65],true,2,0,none,[]⟩,
 ⟨⟨some 67,false,none,iArith .mul (.t 60) (.t 66)⟩,[60,66],false,3,3,none,[]⟩,
 ⟨⟨some 15,true,none,iMov (.t 67)⟩,[67],false,3,3,none,[]⟩])
 (cSeq (cOps [⟨some 68,false,none,iMov (.t 14)⟩,
 ⟨some 69,false,none,iMov (.t 15)⟩,
 ⟨some 70,false,none,iBslice 3 [(.int .i64 (.lit 0))] 1 [(0,1,(.t 69))]⟩,
 ⟨some 71,false,none,iCall (.c (.func (.func 70) [] [])) [(.t 68),(.t 70)]⟩,
 ⟨some 16,true,none,iMov (.t 71)⟩])
 (cOps [⟨some 72,false,none,iMov (.t 11)⟩,
 ⟨some 73,false,none,iMov (.t 11)⟩,
 ⟨some 74,false,none,iMov (.t 14)⟩,
 ⟨some 75,false,none,iMov (.t 16)⟩,
 ⟨some 76,false,none,iArith .sub (.t 74) (.t 75)⟩,
 ⟨some 77,false,none,iMov (.t 15)⟩,
 ⟨some 78,false,none,iMov (.t 16)⟩,
 ⟨some 79,false,none,iArith .sub (.t 77) (.t 78)⟩,
 ⟨some 80,false,none,iFaddr 2 (.t 9)⟩,
 ⟨some 81,false,none,iFaddr 1 (.t 80)⟩,
 ⟨some 82,false,none,iIaddrA 1 2 (.t 81) (.t 72)⟩,
 ⟨none,false,none,iStore 1 (.t 82) (.t 76)⟩,
 ⟨some 83,false,none,iFaddr 5 (.t 9)⟩,
 ⟨some 84,false,none,iIaddrA 1 2 (.t 83) (.t 73)⟩,
 ⟨none,false,none,iStore 1 (.t 84) (.t 79)⟩])))))))
 (cOps [⟨some 85,false,none,iArith .add (.t 35) (.c (.int .i64 (.lit 1)))⟩,
 ⟨some 35,true,none,iMov (.t 85)⟩])))))))
 (cSeq (cOps [⟨some 86,false,none,iLoadN 7 (.t 9)⟩,
 ⟨none,false,none,iStore 7 (.t 8) (.t 86)⟩])
 cRet))))),[.cell 8 true 7]⟩
noncomputable def Tryd.kp68:List Nat:=[0,1,2,3,4]
noncomputable def Tryd.cf68:CF:=⟨2,(cSeq (cOps [⟨some 2,true,none,iBox 23 (.t 0)⟩,
 ⟨some 3,true,none,iBox 23 (.t 1)⟩,
 ⟨some 4,true,none,iMov (.c (.bool (.lit false)))⟩])
 (cSeq (cOps [⟨some 5,false,none,iFaddr 0 (.t 3)⟩,
 ⟨some 6,false,none,iLoad (.t 5)⟩,
 ⟨some 7,false,none,iFaddr 0 (.t 2)⟩,
 ⟨some 8,false,none,iLoad (.t 7)⟩,
 ⟨some 9,false,none,iCmp .leq (.t 6) (.t 8)⟩,
 ⟨some 10,false,none,iMov (.t 9)⟩,
 ⟨some 11,false,some (10,true),iFaddr 0 (.t 2)⟩,
 ⟨some 12,false,some (10,true),iLoad (.t 11)⟩,
 ⟨some 13,false,some (10,true),iFaddr 1 (.t 2)⟩,
 ⟨some 14,false,some (10,true),iLoad (.t 13)⟩,
 ⟨some 15,false,some (10,true),iCmp .leq (.t 12) (.t 14)⟩,
 ⟨some 16,false,none,iPick (.t 10) (.t 15) (.c (.bool (.lit false)))⟩,
 ⟨some 17,false,none,iMov (.t 16)⟩,
 ⟨some 18,false,some (17,true),iFaddr 1 (.t 2)⟩,
 ⟨some 19,false,some (17,true),iLoad (.t 18)⟩,
 ⟨some 20,false,some (17,true),iFaddr 1 (.t 3)⟩,
 ⟨some 21,false,some (17,true),iLoad (.t 20)⟩,
 ⟨some 22,false,some (17,true),iCmp .leq (.t 19) (.t 21)⟩,
 ⟨some 23,false,none,iPick (.t 17) (.t 22) (.c (.bool (.lit false)))⟩,
 ⟨some 4,true,none,iMov (.t 23)⟩])
 cRet)),[.t 4]⟩
noncomputable def Tryd.kp69:List Nat:=[0,1,2,3,5,6,7,17,18,19,24,25,26,37]
noncomputable def Tryd.cf69:CF:=⟨4,(cSeq (cOps [⟨some 8,false,none,iFaddr 0 (.t 1)⟩,
 ⟨some 9,false,none,iFaddr 22 (.t 8)⟩,
 ⟨some 10,false,none,iLoad (.t 9)⟩,
 ⟨some 11,false,none,iFaddr 0 (.t 2)⟩,
 ⟨some 12,false,none,iLoad (.t 11)⟩,
 ⟨some 13,false,none,iIaddr 4 (.t 10) (.t 12)⟩,
 ⟨some 14,false,none,iFaddr 3 (.t 13)⟩,
 ⟨some 15,false,none,iLoad (.t 14)⟩,
 ⟨some 5,true,none,iMov (.t 15)⟩])
 (cSeq (cOps [⟨some 16,false,none,iMov (.t 5)⟩,
 ⟨some 17,true,none,iArith .add (.t 16) (.c (.int .i64 (.lit 1)))⟩,
 ⟨some 18,true,none,iMov (.c (.int .i64 (.lit 0)))⟩])
 (cBlock 0 (cLoop (cSeq (cOps [⟨some 19,true,none,iCmp .lss (.t 18) (.t 17)⟩])
 (cSeq (cCond (.t 19) cSkip (cExit 0))
 (cSeq (cBlock 1 (cSeq (cOps [⟨some 20,false,none,iMov (.t 18)⟩,
 ⟨some 6,true,none,iMov (.t 20)⟩])
 (cSeq (cOps [⟨some 21,false,none,iMov (.t 5)⟩,
 ⟨some 22,false,none,iMov (.t 6)⟩,
 ⟨some 23,false,none,iArith .sub (.t 21) (.t 22)⟩,
 ⟨some 24,true,none,iArith .add (.t 23) (.c (.int .i64 (.lit 1)))⟩,
 ⟨some 25,true,none,iMov (.c (.int .i64 (.lit 0)))⟩])
 (cBlock 2 (cLoop (cSeq (cOps [⟨some 26,true,none,iCmp .lss (.t 25) (.t 24)⟩])
 (cSeq (cCond (.t 26) cSkip (cExit 2))
 (cSeq (cBlock 3 (cSeq (cOps [⟨some 27,false,none,iMov (.t 25)⟩,
 ⟨some 7,true,none,iMov (.t 27)⟩])
 (cSeq (cOps [⟨some 28,false,none,iMov (.t 0)⟩,
 ⟨some 29,false,none,iLoadN 39 (.t 1)⟩,
 ⟨some 30,false,none,iLoadN 3 (.t 2)⟩,
 ⟨some 31,false,none,iMov (.t 6)⟩,
 ⟨some 32,false,none,iMov (.t 7)⟩,
 ⟨some 33,false,none,iBuild [(.int .i64 (.lit 0)),(.int .i64 (.lit 0))] [(0,1,(.t 31)),(1,1,(.t 32))]⟩,
 ⟨some 34,false,none,iLoadN 2 (.t 3)⟩,
 ⟨some 35,false,none,iCall (.c (.func (.func 67) [] [])) [(.t 29),(.t 30),(.t 33),(.t 34)]⟩,
 ⟨some 36,false,none,iCall (.t 28) [(.t 35)]⟩,
 ⟨some 37,true,none,iNot (.t 36)⟩])
 (cCond (.t 37) cRet cSkip))))
 (cOps [⟨some 38,false,none,iArith .add (.t 25) (.c (.int .i64 (.lit 1)))⟩,
 ⟨some 25,true,none,iMov (.t 38)⟩])))))))))
 (cOps [⟨some 39,false,none,iArith .add (.t 18) (.c (.int .i64 (.lit 1)))⟩,
 ⟨some 18,true,none,iMov (.t 39)⟩])))))))),[]⟩
noncomputable def Tryd.kp70:List Nat:=[0,1,4,6,7,8,9,10,15]
noncomputable def Tryd.cf70:CF:=⟨2,(cSeq (cOps [⟨some 4,true,none,iMov (.c (.int .i64 (.lit 0)))⟩])
 (cSeq (cSeq (cOps [⟨some 7,true,none,iMov (.t 1)⟩,
 ⟨some 8,true,none,iLenS (.t 7)⟩,
 ⟨some 9,true,none,iMov (.c (.int .i64 (.lit 0)))⟩])
 (cBlock 0 (cLoop (cSeq (cOps [⟨some 10,true,none,iCmp .lss (.t 9) (.t 8)⟩])
 (cSeq (cCond (.t 10) cSkip (cExit 0))
 (cSeq (cBlock 1 (cSeq (cOps [⟨some 11,false,none,iIaddr 1 (.t 7) (.t 9)⟩,
 ⟨some 12,false,none,iLoad (.t 11)⟩,
 ⟨some 6,true,none,iMov (.t 12)⟩])
 (cSeq (cOps [⟨some 13,false,none,iMov (.t 6)⟩,
 ⟨some 14,false,none,iMov (.t 0)⟩,
 ⟨some 15,true,none,iCmp .lss (.t 13) (.t 14)⟩])
 (cCond (.t 15) (cOps [⟨some 16,false,none,iMov (.t 6)⟩,
 ⟨some 0,true,none,iMov (.t 16)⟩]) cSkip))))
 (cOps [⟨some 17,false,none,iArith .add (.t 9) (.c (.int .i64 (.lit 1)))⟩,
 ⟨some 9,true,none,iMov (.t 17)⟩])))))))
 (cSeq (cOps [⟨some 18,false,none,iMov (.t 0)⟩,
 ⟨some 4,true,none,iMov (.t 18)⟩])
 cRet))),[.t 4]⟩
noncomputable def Tryd.kp71:List Nat:=[0,1,2,3,4,6]
noncomputable def Tryd.cf71:CF:=⟨2,(cSeq (cOps [⟨some 2,true,none,iBox 66 (.t 0)⟩,
 ⟨some 3,true,none,iBox 42 (.t 1)⟩,
 ⟨some 4,true,none,iAlloc 23 [(.int .i64 (.lit 0)),(.int .i64 (.lit 0))]⟩])
 (cSeq (cSeq (cOps [⟨some 5,false,none,iFaddr 2 (.t 3)⟩,
 ⟨some 6,true,none,iLoad (.t 5)⟩])
 (cCond (.t 6) (cSeq (cOps [⟨some 7,false,none,iFaddr 4 (.t 2)⟩,
 ⟨some 8,false,none,iIaddrA 2 2 (.t 7) (.c (.int .i64 (.lit 1)))⟩,
 ⟨some 9,false,none,iLoadN 2 (.t 8)⟩,
 ⟨none,false,none,iStore 2 (.t 4) (.t 9)⟩])
 cRet) cSkip))
 (cSeq (cOps [⟨some 10,false,none,iFaddr 4 (.t 2)⟩,
 ⟨some 11,false,none,iIaddrA 2 2 (.t 10) (.c (.int .i64 (.lit 0)))⟩,
 ⟨some 12,false,none,iLoadN 2 (.t 11)⟩,
 ⟨none,false,none,iStore 2 (.t 4) (.t 12)⟩])
 cRet))),[.cell 4 true 2]⟩
noncomputable def Tryd.ft:PT CF:=(.node none (.node none (.node none (.node (some Tryd.cf7) (.node (some Tryd.cf15) (.node (some Tryd.cf31) (.node (some Tryd.cf63) .nil .nil) .nil) (.node (some Tryd.cf47) .nil .nil)) (.node (some Tryd.cf23) (.node (some Tryd.cf39) (.node (some Tryd.cf71) .nil .nil) .nil) (.node (some Tryd.cf55) .nil .nil))) (.node (some Tryd.cf11) (.node (some Tryd.cf19) (.node (some Tryd.cf35) (.node (some Tryd.cf67) .nil .nil) .nil) (.node (some Tryd.cf51) .nil .nil)) (.node (some Tryd.cf27) (.node (some Tryd.cf43) .nil .nil) (.node (some Tryd.cf59) .nil .nil)))) (.node none (.node (some Tryd.cf9) (.node (some Tryd.cf17) (.node (some Tryd.cf33) (.node (some Tryd.cf65) .nil .nil) .nil) (.node (some Tryd.cf49) .nil .nil)) (.node (some Tryd.cf25) (.node (some Tryd.cf41) .nil .nil) (.node (some Tryd.cf57) .nil .nil))) (.node (some Tryd.cf13) (.node (some Tryd.cf21) (.node (some Tryd.cf37) (.node (some Tryd.cf69) .nil .nil) .nil) (.node (some Tryd.cf53) .nil .nil)) (.node (some Tryd.cf29) (.node (some Tryd.cf45) .nil .nil) (.node (some Tryd.cf61) .nil .nil))))) (.node none (.node none (.node (some Tryd.cf8) (.node (some Tryd.cf16) (.node (some Tryd.cf32) (.node (some Tryd.cf64) .nil .nil) .nil) (.node (some Tryd.cf48) .nil .nil)) (.node (some Tryd.cf24) (.node (some Tryd.cf40) .nil .nil) (.node (some Tryd.cf56) .nil .nil))) (.node (some Tryd.cf12) (.node (some Tryd.cf20) (.node (some Tryd.cf36) (.node (some Tryd.cf68) .nil .nil) .nil) (.node (some Tryd.cf52) .nil .nil)) (.node (some Tryd.cf28) (.node (some Tryd.cf44) .nil .nil) (.node (some Tryd.cf60) .nil .nil)))) (.node (some Tryd.cf6) (.node (some Tryd.cf10) (.node (some Tryd.cf18) (.node (some Tryd.cf34) (.node (some Tryd.cf66) .nil .nil) .nil) (.node (some Tryd.cf50) .nil .nil)) (.node (some Tryd.cf26) (.node (some Tryd.cf42) .nil .nil) (.node (some Tryd.cf58) .nil .nil))) (.node none (.node (some Tryd.cf22) (.node (some Tryd.cf38) (.node (some Tryd.cf70) .nil .nil) .nil) (.node (some Tryd.cf54) .nil .nil)) (.node (some Tryd.cf30) (.node (some Tryd.cf46) .nil .nil) (.node (some Tryd.cf62) .nil .nil))))))
noncomputable def Tryd.rt:List (Nat × (C × C)):=[(41017,(Tryd.ra41017,Tryd.rb41017)),(46021,(Tryd.ra46021,Tryd.rb46021)),(46033,(Tryd.ra46033,Tryd.rb46033)),(64040,(Tryd.ra64040,Tryd.rb64040))]
end Go.Sx
